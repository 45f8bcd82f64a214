/- The contracts of Writes, Commits and Confirms; what the law's lists of them are. -/
import Derived.Test.YthpagbfabpfngaaHK
namespace Go.Proofs.Ythpagbfabpfngaa
open Go.RowKit

/-- What pairs handed back: it goes through the pairs of so many words, from a place on. -/
def Gives (lo : Nat) (w : World) (v : Value) (n : Nat) (at_ : Int) (l : Nat → BitVec 32) : Prop := ∃ BS BA b off cap sp, v = .func (.func 124) #[] #[.pointer (some ⟨BS, 0, none⟩), .pointer (some ⟨BA, 0, none⟩)] ∧ (lo ≤ BS ∧ lo ≤ BA ∧ lo ≤ b) ∧
  w.cell? ⟨BS, 0, none⟩ = some (.slice sp n cap) ∧ w.cell? ⟨BA, 0, none⟩ = some (.int .i64 at_) ∧ Ws w sp b off n l
theorem pairs_give {sp : Option Addr} {b off n cap : Nat} {l : Nat → BitVec 32} (at_ : Int) (w : World) (lo : Nat) (hlo : lo ≤ w.heap.size ∧ lo ≤ b) (hW : Ws w sp b off n l) : Calls Try.prog 109 #[.int .i64 at_, .slice sp n cap] w fun e w' => ∃ v, e = .returned v ∧ Gives lo w' v n at_ l ∧ Below w.heap.size w w' := by
  refine (pairs_any _ at_ ⟨_, _, _, rfl⟩ w).mono ?_
  rintro e w' ⟨rfl, rfl⟩
  have hb := ((Below.refl w.heap.size w).alloc (Nat.le_refl _) (.cells #[.int .i64 at_] 3)).alloc (by simp) (.cells #[.slice sp n cap] 24)
  refine ⟨_, rfl, ⟨w.heap.size + 1, w.heap.size, b, off, cap, sp, rfl, ⟨by omega, by omega, hlo.2⟩, ?_, ?_, hW.new hb⟩, hb⟩
  · have := BoxAt.mk_new (w.alloc (.cells #[.int .i64 at_] 3)) #[.slice sp n cap] 24
    rw [World.size_alloc] at this
    exact this.cell 0 _ rfl
  · exact ((BoxAt.mk_new w #[.int .i64 at_] 3).alloc _).cell 0 _ rfl
def hdW (s l c : BitVec 32) : Nat → BitVec 32
  | 0 => s | 1 => l | _ => c
set_option maxHeartbeats 1000000 in
theorem writes_any (s l c : BitVec 32) (w : World) : Calls Try.prog 81 #[.agg #[.int .u32 (w32 s), .int .u32 (w32 l), .int .u32 (w32 c)]] w fun e w' => ∃ v, e = .returned v ∧ Gives w.heap.size w' v 3 0 (hdW s l c) ∧ Below w.heap.size w w' := by
  obtain ⟨w1, hw1⟩ : ∃ w1, w1 = w.alloc (.cells #[.int .u32 (w32 s), .int .u32 (w32 l), .int .u32 (w32 c)] 45) := ⟨_, rfl⟩
  obtain ⟨w2, hw2⟩ : ∃ w2, w2 = w1.alloc (.cells #[.int .u32 (w32 s), .int .u32 (w32 l), .int .u32 (w32 c)] 26) := ⟨_, rfl⟩
  have s1 : w1.heap.size = w.heap.size + 1 := by rw [hw1]; simp
  have x2 : RowAt w2 (w.heap.size + 1) 26 #[.int .u32 (w32 s), .int .u32 (w32 l), .int .u32 (w32 c)] := by rw [hw2, ← s1]; exact RowAt.mk w1 _ _
  have hW : Ws w2 (some ⟨w.heap.size + 1, 0, none⟩) (w.heap.size + 1) 0 3 (hdW s l c) := ⟨fun _ => ⟨rfl, x2.lt⟩, fun k hk => by
    rw [Nat.zero_add, x2.cell k]
    obtain rfl | rfl | rfl : k = 0 ∨ k = 1 ∨ k = 2 := by omega
    all_goals rfl⟩
  have b2 : Below w.heap.size w w2 := by rw [hw2, hw1]; exact ((Below.refl _ _).alloc (Nat.le_refl _) _).alloc (by simp) _
  have HP := Lib.hid (pairs_give (cap := 3) 0 w2 w.heap.size ⟨b2.size, by omega⟩ hW)
  have HB := Lib.hid b2
  clear x2 hW b2 s1
  go_enter Try.func81, Try.ntmps81
  go_wp2_with fail
  rw [← hw1, ← hw2]
  clear hw1 hw2
  refine HP.out.mono ?_
  rintro e w3 ⟨v, rfl, hg, hb⟩
  have HG := Lib.hid (And.intro hg (HB.out.trans (hb.mono HB.out.size)))
  obtain ⟨BS, BA, _, _, _, _, rfl, _⟩ := hg
  clear hb
  go_wp2
  go_ret
  exact ⟨_, rfl, HG.out⟩
theorem commits_any (w : World) : Calls Try.prog 82 #[] w fun e w' => ∃ v, e = .returned v ∧ Gives w.heap.size w' v 1 6 (fun _ => comW) ∧ Below w.heap.size w w' := by
  obtain ⟨w2, hw2⟩ : ∃ w2, w2 = w.alloc (.cells #[.int .u32 1668246893] 26) := ⟨_, rfl⟩
  have x2 : RowAt w2 w.heap.size 26 #[.int .u32 (w32 comW)] := by rw [hw2, comW_int]; exact RowAt.mk w _ _
  have hW : Ws w2 (some ⟨w.heap.size, 0, none⟩) w.heap.size 0 1 (fun _ => comW) := ⟨fun _ => ⟨rfl, x2.lt⟩, fun k hk => by
    rw [Nat.zero_add, x2.cell k]
    obtain rfl : k = 0 := by omega
    rfl⟩
  have b2 : Below w.heap.size w w2 := by rw [hw2]; exact (Below.refl _ _).alloc (Nat.le_refl _) _
  have HP := Lib.hid (pairs_give (cap := 1) 6 w2 w.heap.size ⟨b2.size, by omega⟩ hW)
  have HB := Lib.hid b2
  clear x2 hW b2
  go_enter Try.func82, Try.ntmps82
  go_wp2_with fail
  rw [← hw2]
  clear hw2
  refine HP.out.mono ?_
  rintro e w3 ⟨v, rfl, hg, hb⟩
  have HG := Lib.hid (And.intro hg (HB.out.trans (hb.mono HB.out.size)))
  obtain ⟨BS, BA, _, _, _, _, rfl, _⟩ := hg
  clear hb
  go_wp2
  go_ret
  exact ⟨_, rfl, HG.out⟩
theorem confirms_any (w : World) : Calls Try.prog 100 #[] w fun e w' => ∃ v, e = .returned v ∧ Gives w.heap.size w' v 1 8 (fun _ => conW) ∧ Below w.heap.size w w' := by
  obtain ⟨w2, hw2⟩ : ∃ w2, w2 = w.alloc (.cells #[.int .u32 1668247142] 26) := ⟨_, rfl⟩
  have x2 : RowAt w2 w.heap.size 26 #[.int .u32 (w32 conW)] := by rw [hw2, conW_int]; exact RowAt.mk w _ _
  have hW : Ws w2 (some ⟨w.heap.size, 0, none⟩) w.heap.size 0 1 (fun _ => conW) := ⟨fun _ => ⟨rfl, x2.lt⟩, fun k hk => by
    rw [Nat.zero_add, x2.cell k]
    obtain rfl : k = 0 := by omega
    rfl⟩
  have b2 : Below w.heap.size w w2 := by rw [hw2]; exact (Below.refl _ _).alloc (Nat.le_refl _) _
  have HP := Lib.hid (pairs_give (cap := 1) 8 w2 w.heap.size ⟨b2.size, by omega⟩ hW)
  have HB := Lib.hid b2
  clear x2 hW b2
  go_enter Try.func100, Try.ntmps100
  go_wp2_with fail
  rw [← hw2]
  clear hw2
  refine HP.out.mono ?_
  rintro e w3 ⟨v, rfl, hg, hb⟩
  have HG := Lib.hid (And.intro hg (HB.out.trans (hb.mono HB.out.size)))
  obtain ⟨BS, BA, _, _, _, _, rfl, _⟩ := hg
  clear hb
  go_wp2
  go_ret
  exact ⟨_, rfl, HG.out⟩
end Go.Proofs.Ythpagbfabpfngaa
