/- The contract of law51's all: what All goes through, in a row. -/
import Derived.Test.YtbdcjfkplopbiaaDoorUL
namespace Go.Proofs.YtbdcjfkplopbiaaDoor
open Go.RowKit
attribute [local go_sem] Oper.semAt_some

theorem neqNote_nil (d gf : Nat) (lb : Array Value) (w : World) : (Op.equalIn (d + 1) 56 (.func (.func gf) #[] lb) .nilFunc).run Tryd.prog w = .ok false w := by
  have ht : Tryd.prog.underlying 56 = some (.func #[64] #[] false) := by kernel_rfl
  simp [Op.equalIn, run_underlying ht]
theorem neqNote (gf : Nat) (lb : Array Value) (w : World) : (Go.binOp .neq 56 (.func (.func gf) #[] lb) .nilFunc).run Tryd.prog w = .ok (.bool true) w := by
  have h : (Op.equal 56 (.func (.func gf) #[] lb) .nilFunc).run Tryd.prog w = .ok false w := neqNote_nil 9999 gf lb w
  simp [Go.binOp, h]
theorem pth_take (X : List (Int × Int)) (k : Nat) (h : k < X.length) : X.take (k + 1) = X.take k ++ [((pth X k).1, (pth X k).2)] := by
  rw [List.take_succ_eq_append_getElem h]
  unfold pth
  rw [List.getD_eq_getElem?_getD, List.getElem?_eq_getElem h]
  rfl
set_option maxHeartbeats 4000000 in
set_option maxRecDepth 100000 in
theorem lall_any {w : World} {V : Nat → Prop} {B : Nat} {rm : Int} {f : Nat → List Int} (h : BAt w V B rm f) (ht : Tab w) (hm : many f 32 ≤ 65536) :
    Calls Tryd.prog 10 #[.pointer (some ⟨B, 0, none⟩)] w fun e w' => ∃ v, e = .returned v ∧ w'.ownsRow w.heap.size 30 2 v (toldF f).length (prow (toldF f)) ∧ Below w.heap.size w w' := by
  refine (callsIn_wide (n := 0)).1 ?_
  obtain ⟨i0, hi, hz0, hz1, hz2⟩ := info_parts infoNote
  have hnn := neqNote
  have hp := ht.pos
  have HIt := Lib.hid (fun (l Bs : Nat) (FF : World → Nat → Prop) (J Jx : Nat → World → Prop) (W : World) (hT : Tab W) (hs0 : W.cell? ⟨Bs, 0, none⟩ = some (.pointer (some ⟨B, 0, none⟩))) (hB : BAt W V B rm f) => ball_in l Bs B V rm f FF J Jx W hT hm hs0 hB)
  have hN2 : (toldF f).length ≤ 65536 := Nat.le_trans (tk_len f _) hm
  obtain ⟨X, hX⟩ : ∃ X, toldF f = X := ⟨_, rfl⟩
  rw [hX] at HIt hN2 ⊢
  obtain ⟨n, hn⟩ : ∃ n, X.length = n := ⟨_, rfl⟩
  rw [hn] at HIt hN2 ⊢
  have HLn := Lib.hid hn
  refine callsIn_of_wp_marks Tryd.func10 rfl trivial ?_ rfl
  simp only [Tryd.ntmps10, List.size_toArray, List.length_cons, List.length_nil, Nat.reduceAdd, Nat.reduceSub, Array.replicate_succ, Array.replicate_zero, List.push_toArray, List.append_toArray, List.nil_append, List.cons_append]
  gi_wp2_with (refine ⟨trivial, rfl, ?_⟩; gi_at_call 18; refine (callsIn_wide.2 (All_box _ _)).mono ?_; rintro e w' ⟨rfl, rfl⟩)
  obtain ⟨Oc, hOc⟩ : ∃ Oc, Oc = w.heap.size := ⟨_, rfl⟩
  obtain ⟨w2, hw2⟩ : ∃ w2, (w.alloc (Obj.cells #[Value.slice none 0 0] 28)).alloc (Obj.cells #[Value.pointer (some ⟨B, 0, none⟩)] 23) = w2 := ⟨_, rfl⟩
  have z2 : w2.heap.size = Oc + 2 := by rw [← hw2, hOc]; simp
  have b2 : Below w.heap.size w w2 := by rw [← hw2]; exact ((Below.refl _ w).alloc (Nat.le_refl _) _).alloc (by simp) _
  have o2 : w2.cell? ⟨Oc, 0, none⟩ = some (.slice none 0 0) ∧ w2.frozen? ⟨Oc, 0, none⟩ = false ∧ w2.cell? ⟨Oc + 1, 0, none⟩ = some (.pointer (some ⟨B, 0, none⟩)) := by rw [← hw2, hOc]; simp [go_sem]
  rw [hw2, ← hOc]
  clear hw2
  have HC := Lib.hid (show ∀ W', Below Oc w W' → BAt W' V B rm f ∧ Tab W' from fun W' hb => by
    rw [hOc] at hb
    obtain ⟨sp, cp, hx⟩ := h
    exact ⟨⟨sp, cp, hx.new hb⟩, ht.below hp hb⟩)
  rw [← hOc] at b2 hp
  have HOc := Lib.hid hOc
  have hI0 : IX w Oc Oc (X.take 0) w2 := ⟨b2, _, o2.1, o2.2.1, World.ownsRow_nil _ _ _ _⟩
  have HI0 := Lib.hid (And.intro hI0 o2.2.2)
  have HH := Lib.hid (And.intro (show Oc ≤ w.heap.size by omega) z2)
  clear hI0 o2 b2 z2 h ht hOc hn hp hX hm
  refine wpIn_rangeF2 (gf := 24) (lb := #[.pointer (some ⟨Oc + 1, 0, none⟩)]) rfl (enters_of Tryd.func24 (by kernel_rfl) rfl)
    n (nAt X) (fun _ => rfl) (FC Oc Oc)
    (fun k A => IX w Oc Oc (X.take k) A) (fun _ _ _ => False)
    (fun k => IX.foot HH.out.1) (fun _ _ => ⟨fun _ h => h.elim, fun _ _ h => h.elim⟩) HI0.out.1
    (fun k a' W' => ∃ b, Oc + 4 ≤ b ∧ a' = { tmps := #[.pointer (some ⟨B, 0, none⟩), undef, .slice none 0 0, .pointer (some ⟨Oc, 0, none⟩), .func (.func 24) #[] #[.pointer (some ⟨Oc + 1, 0, none⟩)], .pointer (some ⟨b, 0, none⟩), .pointer (some ⟨B, 0, none⟩), .func (.func 24) #[] #[.pointer (some ⟨Oc + 1, 0, none⟩)], .func (.func 24) #[] #[.pointer (some ⟨Oc + 1, 0, none⟩)], .bool true, .func (.func 24) #[] #[.pointer (some ⟨Oc + 1, 0, none⟩)], .agg #[.int .i64 (pth X k).1, .int .i64 (pth X k).2], undef, undef, undef, undef, undef], defers := [] } ∧ RowAt W' b 30 #[.int .i64 (pth X k).1, .int .i64 (pth X k).2])
    ?hax ?hit ?assign ?body ?done (fun _ _ _ _ h => h.elim)
  case hax =>
    rintro k a' W W' ⟨b, hb, rfl, hr⟩ hc
    rw [HH.out.2] at hc
    exact ⟨b, hb, rfl, hc.obj hr (by omega)⟩
  case hit =>
    intro J' Jx' W1 h1' h2 h3 h4 h5 h6 h7 h8
    rw [HH.out.2] at h1' h2 h5 h6 h7 ⊢
    have hI := h3 0 W1 h8
    have hb1 : Below Oc w W1 := hI.1.1
    exact HIt.out _ (Oc + 1) _ J' Jx' W1 (HC.out W1 hb1).2 ((h2.cell (p := ⟨Oc + 1, 0, none⟩) (show Oc + 1 < Oc + 2 by omega)).trans HI0.out.2) (HC.out W1 hb1).1 h7 h5 h8
  case assign =>
    intro k W K hi' hk hz hK
    rw [HH.out.2] at hz
    have HK := Lib.hid hK
    have hkp := (IX.foot (X := X.take k) HH.out.1).keep W (W.alloc (.cells #[.int .i64 (pth X k).1, .int .i64 (pth X k).2] 30)) hi' (Off.nothing ((Ch.refl _ _).alloc _))
    have HKP := Lib.hid hkp
    have hnA : nAt X k = #[.agg #[.int .i64 (pth X k).1, .int .i64 (pth X k).2]] := rfl
    rw [hnA]
    clear hK hkp hi' hnA
    gi_wp2
    exact HK.out _ _ ⟨W.heap.size, by omega, rfl, RowAt.mk W 30 _⟩ ((Ch.refl _ _).alloc _) HKP.out.1 HKP.out.2
  case body =>
    rintro k a' A ⟨h2, v, h3, h4, h5⟩ hk ⟨b, hb, rfl, hr⟩ hz
    rw [HH.out.2] at hz
    have hkl : k < X.length := by rw [HLn.out]; exact hk
    have hpt := pth_take X k hkl
    obtain ⟨x, hx⟩ : ∃ x, (pth X k).1 = x := ⟨_, rfl⟩
    obtain ⟨y, hy⟩ : ∃ y, (pth X k).2 = y := ⟨_, rfl⟩
    rw [hx, hy] at hpt hr ⊢
    have q0 : A.cell? ⟨b, 0, none⟩ = some (.int .i64 x) := hr.cell 0
    have q1 : A.cell? ⟨b, 1, none⟩ = some (.int .i64 y) := hr.cell 1
    obtain ⟨sp, cap, rfl⟩ := own_val h5
    have hyl : (X.take k).length ≤ 65536 := by rw [List.length_take]; omega
    obtain ⟨Y, hY⟩ : ∃ Y, X.take k = Y := ⟨_, rfl⟩
    rw [hY] at h3 h5 hpt hyl
    have H5 := Lib.hid h5
    have H1 := Lib.hid h2
    have HP := Lib.hid hpt
    clear h2 h5 hr hx hy hpt hY
    gi_wp2_with (gi_at_builtin; refine wpListIn_append_at _ rfl _ _ 28 rfl (Oc + 1) 30 i0 (.agg #[.int .i64 0, .int .i64 0]) 2 16 Tryd.underlying28 hi hz0 hz1 hz2 rfl (by decide) _ _ _ rfl (H5.out.alloc _) ⟨A.heap.size, 0, none⟩ 1 1 [.int .i64 x, .int .i64 y] rfl rfl (two_new _ _ _ _) (by simp [Value.oneCell']) (by unfold maxLen; omega) (by omega) (by have := H1.out.size; have := HH.out.1; have := HH.out.2; simp; omega) ?_; intro v' w1 hown' hgrow hat; obtain ⟨sp', cap', rfl⟩ := own_val hown'; have HG := Lib.hid (IX.grow H1.out (Nat.le_refl _) HH.out.1 h3 h4 H5.out hown' hgrow hat); have gA : w1.cell? ⟨Oc, 0, none⟩ = some (.slice sp Y.length cap) := (grow_cell h3 h4 H5.out hgrow).1; have gB : w1.frozen? ⟨Oc, 0, none⟩ = false := (grow_cell h3 h4 H5.out hgrow).2; clear hown' hgrow hat h3 h4)
    refine ⟨HG.out.1, ?_⟩
    show IX w Oc Oc (X.take (k + 1)) _
    rw [HP.out]
    exact HG.out.2
  case done =>
    rintro A ⟨h2, v, h3, h4, h5⟩ hD hnD hz
    rw [HH.out.2] at hD hnD hz
    rw [List.take_of_length_le (by rw [HLn.out]; exact Nat.le_refl _)] at h5
    obtain ⟨sp, cap, rfl⟩ := own_val h5
    rw [HLn.out] at h3 h5
    have hne : ∀ g, (Value.slice sp n cap).ownBlock = some g → g ≠ Oc + 2 := fun g hg e => by subst e; exact hnD (.inr (.inr ⟨_, h3, hg⟩))
    have HK := Lib.hid (And.intro h2 (And.intro h5 (And.intro hD hne)))
    clear h2 h5 hD hnD hne
    gi_wp2
    rw [HH.out.2]
    have hp : Ch (fun j => j = Oc + 2) A (A.putObj (Oc + 2) (.deferred none)) := (Ch.refl _ _).putObj _ _ rfl
    refine ⟨by simp, .inl ⟨_, _, rfl, run_takeDeferred HK.out.2.2.1, ?_⟩⟩
    refine ⟨.slice sp n cap, ?_, _, rfl, ?_, ?_⟩
    · simp [results, Tryd.results10, go_sem]
    · rw [← HOc.out]
      exact own_mono (own_same HK.out.2.1 fun g hg => hp.block g (HK.out.2.1.lt g hg).2 (HK.out.2.2.2 g hg)) (by omega)
    · rw [← HOc.out]
      exact HK.out.1.trans (hp.below (fun j hj e => by omega) (by omega))
end Go.Proofs.YtbdcjfkplopbiaaDoor
