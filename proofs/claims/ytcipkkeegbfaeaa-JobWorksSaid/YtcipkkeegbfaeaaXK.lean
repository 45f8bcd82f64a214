/- The contract of law25's list: what Sections goes through, in a row. -/
import Derived.Test.YtcipkkeegbfaeaaXJ
import Derived.Test.YtcipkkeegbfaeaaColl
namespace Go.Proofs.Ytcipkkeegbfaeaa
open Go.RowKit
attribute [local go_sem] Oper.semAt_some

theorem neqSec_nil (d gf : Nat) (lb : Array Value) (w : World) : (Op.equalIn (d + 1) 101 (.func (.func gf) #[] lb) .nilFunc).run Try.prog w = .ok false w := by
  have ht : Try.prog.underlying 101 = some (.func #[105] #[] false) := by kernel_rfl
  simp [Op.equalIn, run_underlying ht]
theorem neqSec (gf : Nat) (lb : Array Value) (w : World) : (Go.binOp .neq 101 (.func (.func gf) #[] lb) .nilFunc).run Try.prog w = .ok (.bool true) w := by
  have h : (Op.equal 101 (.func (.func gf) #[] lb) .nilFunc).run Try.prog w = .ok false w := neqSec_nil 9999 gf lb w
  simp [Go.binOp, h]
theorem three_new (A : World) (x y z : Value) (t : TypeId) : ∀ j u, [x, y, z][j]? = some u → (A.alloc (.cells #[x, y, z] t)).cell? ((⟨A.heap.size, 0, none⟩ : Addr).add j) = some u := by
  intro j u hu
  rw [Addr.add_lit]
  have := (RowAt.mk A t #[x, y, z]).cell (0 + j)
  refine this.trans ?_
  rcases j with _ | _ | _ | j
  · exact hu
  · exact hu
  · exact hu
  · simp at hu
theorem rowsOf_succ (g : Nat → List Value) (k : Nat) : rowsOf g (k + 1) = rowsOf g k ++ g k := by
  unfold rowsOf; rw [List.range_succ, List.map_append, List.flatten_append]; simp
theorem secs_apart {w3 W1 : World} {Oc D Ob Tb Cb : Nat} {a0 a1 a2 : Int} {lon : Nat → Int} {cost : Int} {S : Src} {n : Nat} {L : Nat → Sec} (h : SecsIn w3 (Oc + 1) Ob Tb Cb a0 a1 a2 lon cost S n L) (hD : w3.heap.size = D)
    (ho : w3.cell? ⟨Oc, 0, none⟩ = some (.slice none 0 0)) (hb : Below w3.heap.size w3 W1) : SecsAt W1 (fun W j => FC Oc W j ∨ j = D ∨ j = D + 1) Tb Cb a0 a1 a2 lon cost S n L := by
  have hc : Ch (fun _ => False) w3 W1 := Ch.new hb
  have o1 : W1.cell? ⟨Oc, 0, none⟩ = some (.slice none 0 0) := hc.cell ho (fun h => h)
  have no : ∀ j, Oc + 1 ≤ j → j < D → ¬ (FC Oc W1 j ∨ j = D ∨ j = D + 1) := by
    rintro j h1 h2 ((h3 | h3 | ⟨v, h3, h4⟩) | h3 | h3)
    · omega
    · omega
    · rw [o1] at h3; injection h3 with h3; subst h3; simp [Value.ownBlock] at h4
    · omega
    · omega
  have h' := h.new hb
  refine ⟨h'.t, h'.c, h'.e, no _ h.lT ?_, no _ h.lC ?_, fun h0 => no _ (h.lS h0) ?_⟩
  · rw [← hD]; exact h.t.lt
  · rw [← hD]; exact World.block_lt_of_cell? w3 _ h.c
  · rw [← hD]; exact World.block_lt_of_cell? w3 _ ((h.e 0 h0) 0 _ rfl)
set_option maxHeartbeats 4000000 in
set_option maxRecDepth 100000 in
theorem list_any (a0 a1 a2 : Int) (f : Nat → Int) (cost : Int) (S : Src) (n : Nat) (L : Nat → Sec) (w : World) (hn : n ≤ 1000) (hr : ∀ k, k < n → (-9223372036854775808 ≤ (L k).t ∧ (L k).t ≤ 9223372036854775807)) (hc : -9223372036854775808 ≤ cost ∧ cost ≤ 9223372036854775807)
    (hs : SlAt w (fun _ => False) S n) (he : ∀ k, k < n → At w S.b (S.o + k * 3) (secC (L k))) :
    Calls Try.prog 30 #[.agg #[.int .i64 a0, .int .i64 a1, .int .i64 a2, .int .i64 (f 0), .int .i64 (f 1), .int .i64 (f 2), .int .i64 (f 3), .int .i64 (f 4), .int .i64 (f 5), .int .i64 (f 6), .int .i64 (f 7)], .int .i64 cost, .slice S.sp n S.c] w
      fun e w' => ∃ v, e = .returned v ∧ w'.ownsRow w.heap.size 99 3 v (secsJ f cost L n).length (secR (fun k => (secsJ f cost L n).getD k default) (secsJ f cost L n).length) ∧ Below w.heap.size w w' := by
  refine (callsIn_wide (n := 0)).1 ?_
  obtain ⟨i0, hi, hz0, hz1, hz2⟩ := info_parts infoSc
  have hnn := neqSec
  have HIt := Lib.hid (fun (l Ob Tb Cb : Nat) (S : Src) (F : World → Nat → Prop) (J Jx : Nat → World → Prop) (W : World) => sections_in l Ob Tb Cb a0 a1 a2 f cost S n L F J Jx W hr hc hn)
  obtain ⟨at_, hat⟩ : ∃ g : Nat → Sec, (fun k => (secsJ f cost L n).getD k default) = g := ⟨_, rfl⟩
  obtain ⟨N, hN⟩ : ∃ N, (secsJ f cost L n).length = N := ⟨_, rfl⟩
  have hN8 : N ≤ 8 := by rw [← hN]; exact goJ_len f cost L n
  have hat' : ∀ k, (secsJ f cost L n).getD k default = at_ k := fun k => congrFun hat k
  simp only [hat', hN] at HIt
  rw [hat, hN]
  have HS := Lib.hid (fun (wx : World) (hb : Below w.heap.size w wx) => Sections_any a0 a1 a2 f cost S n L wx hn (hs.keep (Ch.new hb (T := fun _ => False))) (fun k hk => (he k hk).keep (Ch.new hb (T := fun _ => False)) (fun h => h)))
  clear hs he hr hc hat hat' hN
  obtain ⟨sp, sb, so, sc⟩ := S
  dsimp only at HS ⊢
  obtain ⟨Oc, hOc⟩ : ∃ Oc, Oc = w.heap.size + 1 := ⟨_, rfl⟩
  obtain ⟨Zb, hZb⟩ : ∃ Z, Z = w.heap.size := ⟨_, rfl⟩
  have HW := Lib.hid (show ∀ w2, (w.alloc (.cells #[.int .i64 a0, .int .i64 a1, .int .i64 a2, .int .i64 (f 0), .int .i64 (f 1), .int .i64 (f 2), .int .i64 (f 3), .int .i64 (f 4), .int .i64 (f 5), .int .i64 (f 6), .int .i64 (f 7)] 62)).alloc (.cells #[.slice none 0 0] 63) = w2 → w2.heap.size = Oc + 1 ∧ Below w.heap.size w w2 ∧ w2.cell? ⟨Oc, 0, none⟩ = some (.slice none 0 0) ∧ w2.frozen? ⟨Oc, 0, none⟩ = false from fun w2 hw => by
    have h3 := two_alloc (w := w) (a := #[.int .i64 a0, .int .i64 a1, .int .i64 a2, .int .i64 (f 0), .int .i64 (f 1), .int .i64 (f 2), .int .i64 (f 3), .int .i64 (f 4), .int .i64 (f 5), .int .i64 (f 6), .int .i64 (f 7)]) (b := #[.slice none 0 0]) (ta := 62) (tb := 63) (Below.refl _ _)
    rw [hw, ← hOc] at h3
    refine ⟨by rw [← hw]; simp [hOc], h3.1, h3.2.2.cell 0, h3.2.2.fr 0⟩)
  have HOc := Lib.hid (And.intro hOc hZb)
  refine callsIn_of_wp_marks Try.func30 rfl trivial ?_ rfl
  simp only [Try.ntmps30, List.size_toArray, List.length_cons, List.length_nil, Nat.reduceAdd, Nat.reduceSub, Array.replicate_succ, Array.replicate_zero, List.push_toArray, List.append_toArray, List.nil_append, List.cons_append]
  clear hOc hZb
  gi_wp2_with (refine ⟨trivial, rfl, ?_⟩; gi_at_call 60; generalize hw2 : World.alloc _ _ = w2; have H2 := Lib.hid (HW.out w2 hw2); refine (callsIn_wide.2 (HS.out w2 H2.out.2.1)).mono ?_; rintro e w3 ⟨Ob, Tb, Cb, S', rfl, hb3, hsi⟩)
  rw [← HOc.out.1, ← HOc.out.2]
  obtain ⟨w1, hw1⟩ : ∃ w1, w.alloc (.cells #[.int .i64 a0, .int .i64 a1, .int .i64 a2, .int .i64 (f 0), .int .i64 (f 1), .int .i64 (f 2), .int .i64 (f 3), .int .i64 (f 4), .int .i64 (f 5), .int .i64 (f 6), .int .i64 (f 7)] 62) = w1 := ⟨_, rfl⟩
  have z1 : w1.heap.size = Oc := by rw [← hw1, HOc.out.1]; simp
  have b1 : Below w.heap.size w w1 := by rw [← hw1]; exact (Below.refl _ w).alloc (Nat.le_refl _) _
  have b2 : Below Oc w1 w3 := by
    rw [hw1] at hw2
    have hb2 : Below Oc w1 w2 := by rw [← hw2, ← z1]; exact (Below.refl _ w1).alloc (Nat.le_refl _) _
    exact hb2.trans (hb3.mono (by rw [H2.out.1]; omega))
  have hc3 : Ch (fun _ => False) w2 w3 := Ch.new hb3
  have o3 : w3.cell? ⟨Oc, 0, none⟩ = some (.slice none 0 0) := hc3.cell H2.out.2.2.1 (fun h => h)
  have f3 : w3.frozen? ⟨Oc, 0, none⟩ = false := (hc3.frozenCell H2.out.2.2.1 (fun h => h)).trans H2.out.2.2.2
  obtain ⟨D, hD⟩ : ∃ D, w3.heap.size = D := ⟨_, rfl⟩
  have hDO : Oc + 1 ≤ D := by rw [← hD, ← H2.out.1]; exact hb3.size
  rw [H2.out.1] at hsi
  have HI0 := Lib.hid (show IC 99 3 (secR at_) w1 Oc 0 w3 from ⟨b2, _, o3, f3, World.ownsRow_nil _ _ _ _⟩)
  have HH := Lib.hid (And.intro (show Oc ≤ w1.heap.size by omega) (And.intro hD (And.intro hDO b1)))
  have HA := Lib.hid (And.intro (fun W1 (hb : Below D w3 W1) => secs_apart hsi hD o3 (by rw [hD]; exact hb)) (And.intro (fun W1 (hb : Below w3.heap.size w3 W1) => (hsi.new hb).o) hsi.sp))
  clear hw2 H2 hw1 z1 b1 b2 hc3 o3 f3 hD hDO hsi hb3 HS HW
  refine wpIn_rangeF2 (gf := 79) (lb := #[.pointer (some ⟨Ob, 0, none⟩), .pointer (some ⟨Tb, 0, none⟩), .pointer (some ⟨Cb, 0, none⟩)]) rfl (enters_of Try.func79 (by kernel_rfl) rfl)
    N (fun k => secA (at_ k)) (fun _ => rfl) (FC Oc) (fun k A => IC 99 3 (secR at_) w1 Oc k A) (fun _ _ _ => False)
    (fun k => IC.foot HH.out.1 k) (fun _ _ => ⟨fun _ h => h.elim, fun _ _ h => h.elim⟩) HI0.out
    (fun k a' W' => ∃ b, D + 2 ≤ b ∧ a' = { tmps := #[.agg #[.int .i64 a0, .int .i64 a1, .int .i64 a2, .int .i64 (f 0), .int .i64 (f 1), .int .i64 (f 2), .int .i64 (f 3), .int .i64 (f 4), .int .i64 (f 5), .int .i64 (f 6), .int .i64 (f 7)], .int .i64 cost, .slice sp n sc, .pointer (some ⟨Zb, 0, none⟩), undef, undef, .slice none 0 0, .pointer (some ⟨Oc, 0, none⟩), .func (.func 79) #[] #[.pointer (some ⟨Ob, 0, none⟩), .pointer (some ⟨Tb, 0, none⟩), .pointer (some ⟨Cb, 0, none⟩)], .pointer (some ⟨b, 0, none⟩), .agg #[.int .i64 a0, .int .i64 a1, .int .i64 a2, .int .i64 (f 0), .int .i64 (f 1), .int .i64 (f 2), .int .i64 (f 3), .int .i64 (f 4), .int .i64 (f 5), .int .i64 (f 6), .int .i64 (f 7)], .int .i64 cost, .slice sp n sc, .func (.func 79) #[] #[.pointer (some ⟨Ob, 0, none⟩), .pointer (some ⟨Tb, 0, none⟩), .pointer (some ⟨Cb, 0, none⟩)], .func (.func 79) #[] #[.pointer (some ⟨Ob, 0, none⟩), .pointer (some ⟨Tb, 0, none⟩), .pointer (some ⟨Cb, 0, none⟩)], .bool true, .func (.func 79) #[] #[.pointer (some ⟨Ob, 0, none⟩), .pointer (some ⟨Tb, 0, none⟩), .pointer (some ⟨Cb, 0, none⟩)], .agg #[.int .i64 (at_ k).r, .int .i64 (at_ k).f, .int .i64 (at_ k).t], undef, undef, undef, undef, undef], defers := [] } ∧ RowAt W' b 99 #[.int .i64 (at_ k).r, .int .i64 (at_ k).f, .int .i64 (at_ k).t])
    ?hax ?hit ?assign ?body ?done (fun _ _ _ _ h => h.elim)
  case hax =>
    rintro k a' W W' ⟨b, hb, rfl, hr⟩ hc
    rw [HH.out.2.1] at hc
    exact ⟨b, hb, rfl, hr.keep hc (by omega)⟩
  case hit =>
    intro J' Jx' W1 h1' h2 h3 h4 h5 h6 h7 h8
    have ho := HA.out.2.1 W1 h2
    rw [HH.out.2.1] at h1' h2 h5 h6 h7 ⊢
    exact HIt.out _ Ob Tb Cb S' _ J' Jx' W1 ho HA.out.2.2 (HA.out.1 W1 h2) h7 h5 h6 h8
  case assign =>
    intro k W K hi' hk hz hK
    rw [HH.out.2.1] at hz
    have HK := Lib.hid hK
    have hkp := (IC.foot (rf := secR at_) HH.out.1 k).keep W (W.alloc (.cells #[.int .i64 (at_ k).r, .int .i64 (at_ k).f, .int .i64 (at_ k).t] 99)) hi' (Off.nothing ((Ch.refl _ _).alloc _))
    have HKP := Lib.hid hkp
    have hnA : secA (at_ k) = #[.agg #[.int .i64 (at_ k).r, .int .i64 (at_ k).f, .int .i64 (at_ k).t]] := rfl
    rw [hnA]
    clear hK hkp hi' hnA
    gi_wp2
    exact HK.out _ _ ⟨W.heap.size, by omega, rfl, RowAt.mk W 99 _⟩ ((Ch.refl _ _).alloc _) HKP.out.1 HKP.out.2
  case body =>
    rintro k a' A ⟨h2, v, h3, h4, h5⟩ hk ⟨b, hb, rfl, hr⟩ hz
    rw [HH.out.2.1] at hz
    have hpt : secR at_ (k + 1) = secR at_ k ++ [.int .i64 (at_ k).r, .int .i64 (at_ k).f, .int .i64 (at_ k).t] := rowsOf_succ _ k
    obtain ⟨x, hx⟩ : ∃ x, (at_ k).r = x := ⟨_, rfl⟩
    obtain ⟨y, hy⟩ : ∃ y, (at_ k).f = y := ⟨_, rfl⟩
    obtain ⟨z, hz'⟩ : ∃ z, (at_ k).t = z := ⟨_, rfl⟩
    rw [hx, hy, hz'] at hpt hr ⊢
    have q0 : A.cell? ⟨b, 0, none⟩ = some (.int .i64 x) := hr.cell 0
    have q1 : A.cell? ⟨b, 1, none⟩ = some (.int .i64 y) := hr.cell 1
    have q2 : A.cell? ⟨b, 2, none⟩ = some (.int .i64 z) := hr.cell 2
    obtain ⟨sp', cap, rfl⟩ := own_val h5
    have H5 := Lib.hid h5
    have H1 := Lib.hid h2
    have HP := Lib.hid hpt
    clear h2 h5 hr hx hy hz' hpt
    gi_wp2_with (gi_at_builtin; refine wpListIn_append_at _ rfl _ _ 63 rfl (Oc + 1) 99 i0 (.agg #[.int .i64 0, .int .i64 0, .int .i64 0]) 3 24 Try.underlying63 hi hz0 hz1 hz2 rfl (by decide) _ _ _ rfl (H5.out.alloc _) ⟨A.heap.size, 0, none⟩ 1 1 [.int .i64 x, .int .i64 y, .int .i64 z] rfl rfl (three_new _ _ _ _ _) (by simp [Value.oneCell']) (by unfold maxLen; omega) (by omega) (by have := H1.out.size; have := HH.out.1; simp; omega) ?_; intro v' w4 hown' hgrow hat; obtain ⟨sp2, cap', rfl⟩ := own_val hown'; have HG := Lib.hid (IC.grow (rf := secR at_) H1.out HH.out.1 h3 h4 H5.out (by rw [HP.out]; exact hown') hgrow hat); have gA : w4.cell? ⟨Oc, 0, none⟩ = some (.slice sp' k cap) := (grow_cell h3 h4 H5.out hgrow).1; have gB : w4.frozen? ⟨Oc, 0, none⟩ = false := (grow_cell h3 h4 H5.out hgrow).2; clear hown' hgrow hat h3 h4)
    exact HG.out
  case done =>
    rintro A ⟨h2, v, h3, h4, h5⟩ hD hnD hz
    rw [HH.out.2.1] at hD hnD hz
    obtain ⟨sp', cap, rfl⟩ := own_val h5
    have hne : ∀ g, (Value.slice sp' N cap).ownBlock = some g → g ≠ D := fun g hg e => by subst e; exact hnD (.inr (.inr ⟨_, h3, hg⟩))
    have HK := Lib.hid (And.intro h2 (And.intro h5 (And.intro hD hne)))
    clear h2 h5 hD hnD hne
    gi_wp2
    rw [HH.out.2.1]
    have hp : Ch (fun j => j = D) A (A.putObj D (.deferred none)) := (Ch.refl _ _).putObj _ _ rfl
    refine ⟨by simp, .inl ⟨_, _, rfl, run_takeDeferred HK.out.2.2.1, ?_⟩⟩
    have hO := HH.out.2.2.1
    have hO1 := HOc.out.1
    refine ⟨.slice sp' N cap, ?_, _, rfl, ?_, ?_⟩
    · simp [results, Try.results30, go_sem]
    · exact own_mono (own_same HK.out.2.1 fun g hg => hp.block g (HK.out.2.1.lt g hg).2 (HK.out.2.2.2 g hg)) (by omega)
    · exact HH.out.2.2.2.trans ((HK.out.1.trans (hp.below (fun j hj e => by omega) (by omega))).mono (by omega))
end Go.Proofs.Ytcipkkeegbfaeaa
