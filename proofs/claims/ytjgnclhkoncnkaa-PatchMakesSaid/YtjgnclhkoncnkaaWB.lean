/- Where words lie; the contracts of patch's alike and longest. -/
import Derived.Test.YtjgnclhkoncnkaaProg
import Derived.WalkKit
import Derived.ProofKit
import Derived.WalkLawsBesides
import Derived.WalkSpells
import Derived.Lib.Hide
import Derived.Test.YtjgnclhkoncnkaaWA
import Derived.Test.YtjgnclhkoncnkaaMx
import Derived.Test.YtjgnclhkoncnkaaVR
import Derived.Test.YtjgnclhkoncnkaaLast
import Derived.Deep.RegionHeld3
import Derived.BigQuiet
namespace Go.Proofs.Ytjgnclhkoncnkaa
open Go.RowKit

/-- Words lie there. -/
structure WAt (w : World) (S : Src) (l : List Int) : Prop where
  sl : SlAt w (fun _ => False) S l.length
  e : ∀ k, k < l.length → w.cell? ⟨S.b, S.o + k, none⟩ = some (.int .u32 (nth l k))
  cap : l.length ≤ S.c
theorem WAt.new {w w' : World} {S : Src} {l : List Int} (h : WAt w S l) (hb : Below w.heap.size w w') : WAt w' S l :=
  ⟨h.sl.keep (Ch.new hb (T := fun _ => False)), fun k hk => (Ch.new hb (T := fun _ => False)).cell (h.e k hk) (fun h => h), h.cap⟩
/-- What stands behind the first m words. -/
theorem WAt.drop {w : World} {S : Src} {l : List Int} (h : WAt w S l) (m : Nat) (hm : m ≤ l.length) (sp' : Option Addr) (hsp : m < l.length → sp' = some ⟨S.b, S.o + m, none⟩) : WAt w ⟨sp', S.b, S.o + m, S.c - m⟩ (l.drop m) := by
  have hl : (l.drop m).length = l.length - m := List.length_drop
  refine ⟨⟨fun h0 => ?_, ?_⟩, fun k hk => ?_, ?_⟩
  · exact ⟨hsp (by omega), (h.sl.at_ (by omega)).2⟩
  · have := h.sl.sm; omega
  · rw [nth_drop]
    have := h.e (m + k) (by omega)
    show w.cell? ⟨S.b, S.o + m + k, none⟩ = _
    rw [Nat.add_assoc]; exact this
  · have := h.cap; show _ ≤ S.c - m; omega
set_option maxHeartbeats 4000000 in
theorem alike_any {w : World} {A B : Src} {a b : List Int} (ha : WAt w A a) (hb : WAt w B b) (la : a.length ≤ 5000) (lb : b.length ≤ 5000) :
    Calls Try.prog 63 #[.slice A.sp a.length A.c, .slice B.sp b.length B.c] w fun e w' => e = .returned (.int .i64 (alikeN a b)) ∧ Below w.heap.size w w' := by
  have hmn := hmin Try.prog
  have HA := Lib.hid (fun (k : Nat) (hk : k < a.length) (wx : World) (hx : Below w.heap.size w wx) => And.intro (ha.sl.at_ (by omega)).1 ((ha.new hx).e k hk))
  have HB := Lib.hid (fun (k : Nat) (hk : k < b.length) (wx : World) (hx : Below w.heap.size w wx) => And.intro (hb.sl.at_ (by omega)).1 ((hb.new hx).e k hk))
  have HE := Lib.hid (fun (n : Nat) => @alikeN_is a b n)
  obtain ⟨pa, qa, oa, ca⟩ := A
  obtain ⟨pb, qb, ob, cb⟩ := B
  obtain ⟨N, hN⟩ : ∃ n, a.length = n := ⟨_, rfl⟩
  obtain ⟨M, hM⟩ : ∃ n, b.length = n := ⟨_, rfl⟩
  dsimp only at HA HB ⊢
  rw [hN] at HA la
  rw [hM] at HB lb
  rw [hN, hM] at HE
  rw [hN, hM]
  clear ha hb hN hM
  go_enter Try.func63, Try.ntmps63
  go_wp2
  go_loopg [5] (min N M) (fun g u wr => ∃ k : Nat, k + g = min N M ∧ u = .int .i64 (k : Nat) ∧ Aside ((∀ j, j < k → nth a j = nth b j) ∧ Below w.heap.size w wr))
  case atStart => exact ⟨0, by omega, rfl, fun j hj => by omega, Below.refl _ _⟩
  case round =>
    obtain ⟨k, hkg, rfl, HR⟩ := hrel
    cases gk with
    | zero =>
      have hmm : ¬ (k : Int) < min (N : Int) M := by omega
      have hmd : decide ((k : Int) < min (N : Int) (M : Int)) = false := decide_eq_false hmm
      have HX := Lib.hid (HE.out k (by omega) (by omega) HR.out.1 (by omega))
      go_wp2
      go_quiet (fail)
      go_wp2
      go_ret
      exact ⟨by rw [HX.out]; rfl, below_dn HR.out.2 _⟩
    | succ g1 =>
      have hmm : (k : Int) < min (N : Int) M := by omega
      have hkN : k < N := by omega
      have hkM : k < M := by omega
      have hkN2 : (k : Int) < N := by omega
      have hkM2 : (k : Int) < M := by omega
      obtain ⟨e1, h1⟩ := HA.out k hkN wr HR.out.2
      obtain ⟨e2, h2⟩ := HB.out k hkM wr HR.out.2
      subst e1 e2
      by_cases hx : nth a k = nth b k
      · have HX := Lib.hid hx
        rw [hx] at h1
        clear hx
        go_wp2
        go_quiet (fail)
        go_wp2
        go_roundg g1
        case measure => omega
        case rel => exact ⟨k + 1, by omega, by go_num, fun j hj => by
          by_cases e : j = k
          · subst e; exact HX.out
          · exact HR.out.1 j (by omega), below_dn HR.out.2 _⟩
      · have HX := Lib.hid (HE.out k (by omega) (by omega) HR.out.1 (.inr (.inr hx)))
        go_wp2
        go_quiet (fail)
        go_wp2
        go_ret
        exact ⟨by rw [HX.out]; rfl, below_dn HR.out.2 _⟩
set_option maxHeartbeats 4000000 in
theorem longest_any {w : World} {A B : Src} {a b : List Int} (ha : WAt w A a) (hb : WAt w B b) (la : a.length ≤ 5000) (lb : b.length ≤ 5000) :
    Calls Try.prog 49 #[.slice A.sp a.length A.c, .slice B.sp b.length B.c] w fun e w' => e = .returned (.tuple #[.int .i64 ((longM a b a.length).1 : Nat), .int .i64 ((longM a b a.length).2 : Nat)]) ∧ Below w.heap.size w w' := by
  have HA := Lib.hid (fun (k : Nat) (hk : k < a.length) (wx : World) (hx : Below w.heap.size w wx) => show A.sp = some ⟨A.b, A.o, none⟩ ∧ Calls Try.prog 63 #[.slice (some ⟨A.b, A.o + k, none⟩) (a.length - k) (A.c - k), .slice B.sp b.length B.c] wx fun e w' => e = .returned (.int .i64 (alikeN (a.drop k) b)) ∧ Below wx.heap.size wx w' from by
    refine ⟨(ha.sl.at_ (by omega)).1, ?_⟩
    have := alike_any ((ha.new hx).drop k (by omega) (some ⟨A.b, A.o + k, none⟩) (fun _ => rfl)) (hb.new hx) (by rw [List.length_drop]; omega) lb
    rw [List.length_drop] at this
    exact this)
  have HS := Lib.hid (fun (k : Nat) => show longM a b (k + 1) = if (longM a b k).2 < alikeN (a.drop k) b then (k, alikeN (a.drop k) b) else longM a b k from rfl)
  have hcap := ha.cap
  obtain ⟨pa, qa, oa, ca⟩ := A
  obtain ⟨pb, qb, ob, cb⟩ := B
  obtain ⟨N, hN⟩ : ∃ n, a.length = n := ⟨_, rfl⟩
  obtain ⟨M, hM⟩ : ∃ n, b.length = n := ⟨_, rfl⟩
  dsimp only at HA hcap ⊢
  rw [hN] at HA la hcap
  rw [hM] at HA lb
  rw [hN, hM]
  clear ha hb hN hM
  go_enter Try.func49, Try.ntmps49
  go_wp2
  go_loopg [4, 5, 10] N (fun g x4 x5 x10 wr => ∃ k : Nat, k + g = N ∧ x4 = .int .i64 ((longM a b k).1 : Nat) ∧ x5 = .int .i64 ((longM a b k).2 : Nat) ∧ x10 = .int .i64 (k : Nat) ∧ Aside (Below w.heap.size w wr))
  case atStart => exact ⟨0, by omega, rfl, rfl, rfl, Below.refl _ _⟩
  case round =>
    obtain ⟨k, hkg, rfl, rfl, rfl, HR⟩ := hrel
    cases gk with
    | zero =>
      obtain rfl : k = N := by omega
      obtain ⟨p, hp⟩ : ∃ p, longM a b k = p := ⟨_, rfl⟩
      have HP := Lib.hid hp
      rw [hp]
      clear hp
      go_wp2
      go_ret2
      exact ⟨by rw [HP.out]; rfl, HR.out⟩
    | succ g1 =>
      have hk : k < N := by omega
      have hk2 : (k : Int) < N := by omega
      have hck : ¬ ca = k := by omega
      have hck2 : ¬ k = ca := by omega
      obtain ⟨e1, hA⟩ := HA.out k hk wr HR.out
      subst e1
      have hs := HS.out k
      obtain ⟨p, hp⟩ : ∃ p, longM a b k = p := ⟨_, rfl⟩
      obtain ⟨q, hq⟩ : ∃ q, alikeN (a.drop k) b = q := ⟨_, rfl⟩
      rw [hp, hq] at hs
      rw [hq] at hA
      rw [hp]
      have HAk := Lib.hid hA
      obtain ⟨f, m⟩ := p
      clear hp hq hA
      dsimp only at hs ⊢
      by_cases hlt : m < q
      · rw [if_pos hlt] at hs
        have HSx := Lib.hid hs
        clear hs
        have hlt2 : (m : Int) < q := by omega
        go_wp2_with (go_at_call 63; refine HAk.out.mono ?_; rintro e w3 ⟨rfl, b3⟩; have H3 := Lib.hid (HR.out.trans (b3.mono HR.out.size)); clear b3 HAk)
        go_roundg g1
        case measure => omega
        case rel => exact ⟨k + 1, by omega, by rw [HSx.out], by rw [HSx.out], by go_num, H3.out⟩
      · rw [if_neg hlt] at hs
        have HSx := Lib.hid hs
        clear hs
        have hlt2 : ¬ (m : Int) < q := by omega
        go_wp2_with (go_at_call 63; refine HAk.out.mono ?_; rintro e w3 ⟨rfl, b3⟩; have H3 := Lib.hid (HR.out.trans (b3.mono HR.out.size)); clear b3 HAk)
        go_roundg g1
        case measure => omega
        case rel => exact ⟨k + 1, by omega, by rw [HSx.out], by rw [HSx.out], by go_num, H3.out⟩
end Go.Proofs.Ytjgnclhkoncnkaa
