/- The contracts of the law's List and alive, and of slices' Equal on ints. -/
import Derived.Test.YthpagbfabpfngaaQG
import Derived.Test.YthpagbfabpfngaaColl
namespace Go.Proofs.Ythpagbfabpfngaa
open Go.RowKit
attribute [local go_sem] Oper.semAt_some

set_option maxHeartbeats 1000000 in
theorem eqInts_any {T T' : Nat → Prop} {w : World} {sa sb : Option Addr} {ca cb : Nat} {A B : List Int} (ha : SI T w sa ca A) (hb : SI T' w sb cb B) (hA : A.length ≤ 9223372036854775807) (_ : B.length ≤ 9223372036854775807) :
    Calls Try.prog 37 #[.slice sa A.length ca, .slice sb B.length cb] w fun e w' => e = .returned (.bool (decide (A = B))) ∧ ∃ n, w' = w.drewN n := by
  by_cases hl : A.length = B.length
  case neg =>
    have HD := Lib.hid (show decide (A = B) = false from decide_eq_false fun e => hl (by rw [e]))
    have h2 : ((A.length : Int) != (B.length : Int)) = true := by simp; omega
    clear ha hb hl
    go_enter Try.func37, Try.ntmps37
    go_wp2
    go_ret
    exact ⟨by rw [HD.out]; rfl, 0, rfl⟩
  obtain ⟨ga, oa, la, _⟩ := ha.lies
  obtain ⟨gb, ob, lb, _⟩ := hb.lies
  obtain ⟨N, hN⟩ : ∃ N, N = A.length := ⟨_, rfl⟩
  have HN := Lib.hid (And.intro hN (hN.trans hl))
  have HL := Lib.hid (And.intro la lb)
  rw [← hl, ← hN]
  rw [← hN] at hA
  clear ha hb la lb hl hN
  go_enter Try.func37, Try.ntmps37
  go_wp2
  go_loopg [5, 13] N (fun gh u i wr => ∃ k : Nat, k + gh = N ∧ i = .int .i64 k ∧ Aside (A.take k = B.take k ∧ ∃ n, wr = w.drewN n))
  case atStart => exact ⟨0, by omega, rfl, by simp, 0, rfl⟩
  case round =>
    obtain ⟨k, hkg, rfl, HR⟩ := hrel
    obtain ⟨e1, nd, rfl⟩ := HR.out
    clear HR
    cases gk with
    | zero =>
      obtain rfl : k = N := by omega
      have HD := Lib.hid (show decide (A = B) = true from by
        rw [List.take_of_length_le (by rw [← HN.out.1]; exact Nat.le_refl _), List.take_of_length_le (by rw [← HN.out.2]; exact Nat.le_refl _)] at e1
        exact decide_eq_true e1)
      clear e1
      go_wp2
      go_ret
      exact ⟨by rw [HD.out]; rfl, nd, rfl⟩
    | succ g1 =>
      have hlt : k < N := by omega
      have hka : k < A.length := by rw [← HN.out.1]; exact hlt
      have hkb : k < B.length := by rw [← HN.out.2]; exact hlt
      have ca := HL.out.1.2 k hka
      have cb := HL.out.2.2 k hkb
      obtain rfl := (HL.out.1.1 (by omega)).1
      obtain rfl := (HL.out.2.1 (by omega)).1
      have HE1 := Lib.hid e1
      have HKK := Lib.hid (And.intro hka hkb)
      have b0 : (0 : Int) ≤ (k : Int) := by omega
      have b1 : (k : Int) < (N : Int) := by omega
      obtain ⟨x, hxx⟩ : ∃ x, nth A k = x := ⟨_, rfl⟩
      obtain ⟨y, hyy⟩ : ∃ y, nth B k = y := ⟨_, rfl⟩
      rw [hxx] at ca
      rw [hyy] at cb
      have HX := Lib.hid (And.intro hxx hyy)
      clear e1 hka hkb hxx hyy
      by_cases hx : x = y
      · have hxb : (x != y) = false := by simpa using hx
        have HXY := Lib.hid hx
        clear hx
        go_wp2
        go_quiet (fail)
        go_wp2
        go_roundg g1
        case measure => omega
        case rel => exact ⟨k + 1, by omega, by go_num, by rw [take_succ_nth _ _ HKK.out.1, take_succ_nth _ _ HKK.out.2, HE1.out, HX.out.1, HX.out.2, HXY.out], _, rfl⟩
      · have hxb : (x != y) = true := by simpa using hx
        have HD := Lib.hid (show decide (A = B) = false from decide_eq_false fun e => hx (by rw [← HX.out.1, ← HX.out.2, e]))
        clear hx
        go_wp2
        go_quiet (fail)
        go_wp2
        go_ret
        exact ⟨by rw [HD.out]; rfl, _, World.drewN_drewN ..⟩
theorem neqIn_seqInt (d gf : Nat) (lb : Array Value) (w : World) : (Op.equalIn (d + 1) 80 (.func (.func gf) #[] lb) .nilFunc).run Try.prog w = .ok false w := by
  simp [Op.equalIn, run_underlying Try.underlying80]
theorem neq_seqInt (gf : Nat) (lb : Array Value) (w : World) : (Go.binOp .neq 80 (.func (.func gf) #[] lb) .nilFunc).run Try.prog w = .ok (.bool true) w := by
  have h : (Op.equal 80 (.func (.func gf) #[] lb) .nilFunc).run Try.prog w = .ok false w := neqIn_seqInt 9999 gf lb w
  simp [Go.binOp, h]
set_option maxHeartbeats 2000000 in
theorem list_any {w : World} {B : Nat} {c p : Int} {L : List Int} {d : Int} (h : QL w B c p L d) :
    Calls Try.prog 38 #[.pointer (some ⟨B, 0, none⟩)] w fun e w' => ∃ sp cap, e = .returned (.slice sp L.length cap) ∧ w'.ownsRow w.heap.size 3 1 (.slice sp L.length cap) L.length (rowI L) ∧ Below w.heap.size w w' := by
  refine (callsIn_wide (n := 0)).1 ?_
  obtain ⟨i0, hi, hz0, hz1, hz2⟩ := info_parts infoInt
  have hnn := neq_seqInt
  have hBl := h.lt
  have hL16 : L.length ≤ 16 := by have := h.cap; have := h.c16; omega
  obtain ⟨N, hN⟩ : ∃ N, N = L.length := ⟨_, rfl⟩
  have HN := Lib.hid hN
  rw [← hN] at hL16 ⊢
  clear hN
  refine callsIn_of_wp_marks Try.func38 rfl trivial ?_ rfl
  simp only [Try.ntmps38, List.size_toArray, List.length_cons, List.length_nil, Nat.reduceAdd, Nat.reduceSub, Array.replicate_succ, Array.replicate_zero, List.push_toArray, List.append_toArray, List.nil_append, List.cons_append]
  gi_wp2_with (refine ⟨trivial, rfl, ?_⟩; gi_at_call 74; refine (callsIn_wide.2 (qAll_any _ _)).mono ?_; rintro e w' ⟨rfl, rfl⟩)
  obtain ⟨Oc, hOc⟩ : ∃ Oc, Oc = w.heap.size := ⟨_, rfl⟩
  obtain ⟨w2, hw2⟩ : ∃ w2, (w.alloc (Obj.cells #[Value.slice none 0 0] 25)).alloc (Obj.cells #[Value.pointer (some ⟨B, 0, none⟩)] 67) = w2 := ⟨_, rfl⟩
  have z2 : w2.heap.size = Oc + 2 := by rw [← hw2, hOc]; simp
  have b2 : Below w.heap.size w w2 := by rw [← hw2]; exact ((Below.refl _ w).alloc (Nat.le_refl _) _).alloc (by simp) _
  have o2 : w2.cell? ⟨Oc, 0, none⟩ = some (.slice none 0 0) ∧ w2.frozen? ⟨Oc, 0, none⟩ = false := by rw [← hw2, hOc]; simp [go_sem]
  have p2 : w2.cell? ⟨Oc + 1, 0, none⟩ = some (.pointer (some ⟨B, 0, none⟩)) := by rw [← hw2, hOc]; simp [go_sem]
  rw [hw2, ← hOc]
  clear hw2
  rw [← hOc] at b2 hBl
  have HQ := Lib.hid (show ∀ W', Below Oc w W' → QL W' B c p L d from fun W' hb => h.new (by rw [← hOc]; exact hb))
  have HP := Lib.hid p2
  have HOc := Lib.hid hOc
  have HI0 := Lib.hid (show IC 3 1 (fun k => rowI (L.take k)) w Oc 0 w2 from ⟨b2, _, o2.1, o2.2, World.ownsRow_nil _ _ _ _⟩)
  have HH := Lib.hid (And.intro (show Oc ≤ w.heap.size by omega) z2)
  clear o2 b2 z2 h hBl hOc p2
  refine wpIn_rangeF (gf := 103) (lb := #[.pointer (some ⟨Oc + 1, 0, none⟩)]) rfl (enters_of Try.func103 (by kernel_rfl) rfl)
    N (fun k => #[.int .i64 (nth L k)]) (fun _ => rfl) (FC Oc) (fun k A => IC 3 1 (fun k => rowI (L.take k)) w Oc k A) (fun _ _ _ => False)
    (fun k => IC.foot HH.out.1 k) (fun _ _ => ⟨fun _ h => h.elim, fun _ _ h => h.elim⟩) HI0.out
    (fun k a' _ => a' = { tmps := #[.pointer (some ⟨B, 0, none⟩), undef, .slice none 0 0, .pointer (some ⟨Oc, 0, none⟩), .func (.func 103) #[] #[.pointer (some ⟨Oc + 1, 0, none⟩)], .int .i64 (nth L k), .pointer (some ⟨B, 0, none⟩), .func (.func 103) #[] #[.pointer (some ⟨Oc + 1, 0, none⟩)], .func (.func 103) #[] #[.pointer (some ⟨Oc + 1, 0, none⟩)], .bool true, .func (.func 103) #[] #[.pointer (some ⟨Oc + 1, 0, none⟩)], .int .i64 (nth L k), undef, undef, undef, undef, undef], defers := [] })
    (fun _ _ _ _ h _ => h) ?hit ?assign ?body ?done (fun _ _ _ _ h => h.elim)
  case hit =>
    intro J' Jx' W1 h1' h2 h3 h4 h5 h6 h7 h8
    rw [HH.out.2] at h1' h2 h5 h6 h7 ⊢
    have hq := HQ.out W1 (HI0.out.1.trans (h2.mono (by omega)))
    rw [HN.out] at h7 ⊢
    exact qall_in _ (Oc + 1) B c p L d _ J' Jx' W1 ((h2.cell (p := ⟨Oc + 1, 0, none⟩) (show Oc + 1 < Oc + 2 by omega)).trans HP.out) hq h7 h5 h8
  case assign =>
    intro k W K hi' hk hK
    gi_wp2
    exact hK _ _ rfl (Ch.refl _ _) hi' (fun _ h => h)
  case body =>
    rintro k a' A ⟨h2, v, h3, h4, h5⟩ hk rfl hz
    rw [HH.out.2] at hz
    obtain ⟨sp, cap, rfl⟩ := own_val h5
    obtain ⟨x, hx⟩ : ∃ x, nth L k = x := ⟨_, rfl⟩
    have hrow : rowI (L.take (k + 1)) = rowI (L.take k) ++ [.int .i64 x] := by rw [take_succ_nth L k (by rw [← HN.out]; exact hk), rowI_snoc, hx]
    have H5 := Lib.hid h5
    have H1 := Lib.hid h2
    have HR := Lib.hid hrow
    rw [hx]
    clear h2 h5 hx hrow
    gi_wp2_with (gi_at_builtin; refine wpListIn_append_at _ rfl _ _ 25 rfl (Oc + 1) 3 i0 (.int .i64 0) 1 8 Try.underlying25 hi hz0 hz1 hz2 rfl (by decide) _ _ _ rfl (H5.out.alloc _) ⟨A.heap.size, 0, none⟩ 1 1 [.int .i64 x] rfl rfl (cell_one_new _ _ _) (by simp [Value.oneCell']) (by unfold maxLen; omega) (by omega) (by simp; omega) ?_; intro v' w1 hown' hgrow hat; obtain ⟨sp', cap', rfl⟩ := own_val hown'; have HG := Lib.hid (IC.grow (rf := fun k => rowI (L.take k)) H1.out HH.out.1 h3 h4 H5.out (by rw [HR.out]; exact hown') hgrow hat); have g1 : w1.cell? ⟨Oc, 0, none⟩ = some (.slice sp k cap) := (grow_cell h3 h4 H5.out hgrow).1; have g2 : w1.frozen? ⟨Oc, 0, none⟩ = false := (grow_cell h3 h4 H5.out hgrow).2; clear hown' hgrow hat h3 h4)
    exact HG.out
  case done =>
    rintro A ⟨h2, v, h3, h4, h5⟩ hD hnD hz
    rw [HH.out.2] at hD hnD hz
    obtain ⟨sp, cap, rfl⟩ := own_val h5
    dsimp only at h5
    rw [show L.take N = L by rw [HN.out, List.take_length]] at h5
    have hne : ∀ g, (Value.slice sp N cap).ownBlock = some g → g ≠ Oc + 2 := fun g hg e => by subst e; exact hnD (.inr (.inr ⟨_, h3, hg⟩))
    have HK := Lib.hid (And.intro h2 (And.intro h5 (And.intro hD hne)))
    clear h2 h5 hD hnD hne
    gi_wp2
    rw [HH.out.2]
    have hp : Ch (fun j => j = Oc + 2) A (A.putObj (Oc + 2) (.deferred none)) := (Ch.refl _ _).putObj _ _ rfl
    refine ⟨by simp, .inl ⟨_, _, rfl, run_takeDeferred HK.out.2.2.1, ?_⟩⟩
    refine ⟨.slice sp N cap, ?_, sp, cap, rfl, ?_, ?_⟩
    · simp [results, Try.results38, go_sem]
    · rw [← HOc.out]
      exact own_mono (own_same HK.out.2.1 fun g hg => hp.block g (HK.out.2.1.lt g hg).2 (HK.out.2.2.2 g hg)) (by omega)
    · rw [← HOc.out]
      exact HK.out.1.trans (hp.below (fun j hj e => by omega) (by omega))
end Go.Proofs.Ythpagbfabpfngaa
