/- Sections that lie; law25's alive. -/
import Derived.Test.YtcipkkeegbfaeaaXN
namespace Go.Proofs.Ytcipkkeegbfaeaa
open Go.RowKit

/-- Sections lie there. -/
structure SecsOf (w : World) (S : Src) (n : Nat) (L : Nat → Sec) : Prop where
  sl : SlAt w (fun _ => False) S n
  e : ∀ k, k < n → At w S.b (S.o + k * 3) (secC (L k))
theorem SecsOf.new {w w' : World} {S : Src} {n : Nat} {L : Nat → Sec} (h : SecsOf w S n L) (hb : Below w.heap.size w w') : SecsOf w' S n L :=
  ⟨h.sl.keep (Ch.new hb (T := fun _ => False)), fun k hk => (h.e k hk).keep (Ch.new hb (T := fun _ => False)) (fun h => h)⟩
theorem secs_of {w : World} {base : Nat} {v : Value} {n : Nat} {L : Nat → Sec} (h : w.ownsRow base 99 3 v n (secR L n)) (hn : n ≤ 1000) : ∃ S : Src, v = .slice S.sp n S.c ∧ SecsOf w S n L := by
  obtain ⟨S, rfl, h1, h2⟩ := own_rows h (fun k _ => secs_rows L k) (by omega)
  exact ⟨S, rfl, ⟨fun h0 => ⟨(h1 h0).1, (h1 h0).2.2.1, fun h => h⟩, by omega⟩, h2⟩
theorem secR_list : ∀ l : List Sec, secR (fun k => l.getD k default) l.length = secLs l := by
  intro l
  suffices h : ∀ m, m ≤ l.length → secR (fun k => l.getD k default) m = secLs (l.take m) by
    have := h l.length (Nat.le_refl _)
    rwa [List.take_length] at this
  intro m
  induction m with
  | zero => intro _; rfl
  | succ m ih =>
    intro hm
    unfold secR at ih ⊢
    rw [rowsOf_succ, ih (by omega), List.take_succ_eq_append_getElem (by omega), secLs_snoc]
    simp [List.getD, show m < l.length by omega]
theorem one_secs (w : World) (x y z : Int) : SecsOf (w.alloc (.cells #[.int .i64 x, .int .i64 y, .int .i64 z] 99)) ⟨some ⟨w.heap.size, 0, none⟩, w.heap.size, 0, 1⟩ 1 (fun _ => ⟨x, y, z⟩) := by
  refine ⟨⟨fun _ => ⟨rfl, by simp, fun h => h⟩, by omega⟩, fun k hk j u hu => ?_⟩
  obtain rfl : k = 0 := by omega
  have := (RowAt.mk w 99 #[.int .i64 x, .int .i64 y, .int .i64 z]).cell j
  simp only [Nat.zero_mul, Nat.zero_add]
  refine this.trans ?_
  rcases j with _ | _ | _ | j
  · exact hu
  · exact hu
  · exact hu
  · simp [secC] at hu
def lonX (r : Nat) : Int := match r with | 0 => 2 | _ => 0
theorem new_alive (w2 : World) : Calls Try.prog 33 #[.int .i64 3, .agg #[.int .i64 10, .int .i64 10, .int .i64 4, .int .i64 2, .int .i64 0, .int .i64 0, .int .i64 0, .int .i64 0, .int .i64 0, .int .i64 0, .int .i64 0], .int .i64 5, .int .i64 9, .slice (some ⟨w2.heap.size, 0, none⟩) 1 1] (w2.alloc (.cells #[.int .i64 0, .int .i64 1, .int .i64 9] 99))
    fun e w' => ∃ S : Src, e = .returned (.agg #[.int .i64 3, .int .i64 5, .int .i64 15, .int .i64 4, .int .i64 0, .slice S.sp 1 S.c]) ∧ Below w2.heap.size w2 w' ∧ SecsOf w' S 1 (fun _ => ⟨0, 1, 3⟩) := by
  have h1 := one_secs w2 0 1 9
  have hN := New_any 3 5 15 10 10 4 lonX 9 _ 1 (fun _ => ⟨0, 1, 9⟩) _ (by omega) (fun k _ => by dsimp only; omega) (by omega) (by rw [IntKind.wrap_i64]; omega) (by omega) h1.sl h1.e
  have hs : secsJ lonX (jobC 4 9) (fun _ => ⟨0, 1, 9⟩) 1 = [⟨0, 1, 3⟩] := by kernel_rfl
  refine Calls.mono hN ?_
  rintro e w' ⟨v, rfl, ho, hb⟩
  rw [hs] at ho
  obtain ⟨S, rfl, hS⟩ := secs_of ho (by simp)
  refine ⟨S, rfl, ?_, hS.sl, fun k hk => ?_⟩
  · exact ((Below.refl _ w2).alloc (Nat.le_refl _) _).trans (hb.mono (by simp))
  · have := hS.e k hk
    obtain rfl : k = 0 := by have : k < 1 := hk; omega
    exact this
theorem row_alive {w4 : World} {S : Src} (hS : SecsOf w4 S 1 (fun _ => ⟨0, 1, 3⟩)) (a : Array Value) : Calls Try.prog 29 #[.slice S.sp 1 S.c, .slice (some ⟨w4.heap.size + 1, 0, none⟩) 1 1] ((w4.alloc (.cells a 71)).alloc (.cells #[.int .i64 0, .int .i64 1, .int .i64 3] 99))
    fun e w' => e = .returned (.bool true) ∧ Below w4.heap.size w4 w' := by
  have hb : Below w4.heap.size w4 ((w4.alloc (.cells a 71)).alloc (.cells #[.int .i64 0, .int .i64 1, .int .i64 3] 99)) := ((Below.refl _ w4).alloc (Nat.le_refl _) _).alloc (by simp) _
  have h1 := hS.new hb
  have h2 := one_secs (w4.alloc (.cells a 71)) 0 1 3
  rw [World.size_alloc] at h2
  refine Calls.mono (row_same S ⟨some ⟨w4.heap.size + 1, 0, none⟩, w4.heap.size + 1, 0, 1⟩ 1 (fun _ => ⟨0, 1, 3⟩) _ (by omega) h1.sl h2.sl h1.e h2.e) ?_
  rintro e w' ⟨rfl, hb'⟩
  exact ⟨rfl, hb.trans (hb'.mono (by simp; omega))⟩
set_option maxHeartbeats 4000000 in
set_option maxRecDepth 100000 in
theorem l25alive_any (w : World) : Calls Try.prog 32 #[] w fun e w' => e = .returned (.bool true) ∧ Below w.heap.size w w' := by
  obtain ⟨Z, hZ⟩ : ∃ Z, Z = w.heap.size := ⟨_, rfl⟩
  have HW := Lib.hid (show ∀ w2, w.alloc (.cells #[.int .i64 10, .int .i64 10, .int .i64 4, .int .i64 2, .int .i64 0, .int .i64 0, .int .i64 0, .int .i64 0, .int .i64 0, .int .i64 0, .int .i64 0] 62) = w2 → Below w.heap.size w w2 ∧ RowAt w2 Z 62 #[.int .i64 10, .int .i64 10, .int .i64 4, .int .i64 2, .int .i64 0, .int .i64 0, .int .i64 0, .int .i64 0, .int .i64 0, .int .i64 0, .int .i64 0] from fun w2 hw => by
    rw [← hw, hZ]
    exact ⟨(Below.refl _ w).alloc (Nat.le_refl _) _, RowAt.mk w 62 _⟩)
  go_enter Try.func32, Try.ntmps32
  go_upto_region 3 with fail

  generalize hw2 : World.alloc _ _ = w2
  have H2 := Lib.hid (HW.out w2 hw2)
  rw [← hZ]
  clear hw2 hZ HW
  go_wp2_with (first
    | (refine wpList_load_row rfl 62 (.tmp 1) rfl Z rfl 62 #[.int .i64 10, .int .i64 10, .int .i64 4, .int .i64 2, .int .i64 0, .int .i64 0, .int .i64 0, .int .i64 0, .int .i64 0, .int .i64 0, .int .i64 0] (0, 0) _ H2.out.2 Try.underlying62 rfl (by kernel_rfl) ?_)
    | (go_at_call 33; refine (new_alive _).mono ?_; rintro e w4 ⟨S, rfl, b4, s4⟩; have H4 := Lib.hid (And.intro (H2.out.1.trans (b4.mono H2.out.1.size)) s4); clear b4 s4)
    | (go_at_call 29; refine (row_alive H4.out.2 _).mono ?_; rintro e w5 ⟨rfl, b5⟩; have H5 := Lib.hid (H4.out.1.trans (b5.mono H4.out.1.size)); clear b5)
    | fail)
  go_ret
  exact ⟨rfl, H5.out⟩
end Go.Proofs.Ytcipkkeegbfaeaa
