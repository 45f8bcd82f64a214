/- The contract of the law's all: what All goes through, collected. -/
import Derived.Test.YtkbmgilceioieaaDX
namespace Go.Proofs.Ytkbmgilceioieaa
open Go.RowKit
attribute [local go_sem] Oper.semAt_some

theorem neqIn_func_nil (t : TypeId) (ht : Try.prog.underlying t = some (.func #[68] #[] false)) (d gf : Nat) (lb : Array Value) (w : World) : (Op.equalIn (d + 1) t (.func (.func gf) #[] lb) .nilFunc).run Try.prog w = .ok false w := by
  simp [Op.equalIn, run_underlying ht]
theorem neq108 (gf : Nat) (lb : Array Value) (w : World) : (Go.binOp .neq 108 (.func (.func gf) #[] lb) .nilFunc).run Try.prog w = .ok (.bool true) w := by
  have h : (Op.equal 108 (.func (.func gf) #[] lb) .nilFunc).run Try.prog w = .ok false w := neqIn_func_nil 108 (by kernel_rfl) 9999 gf lb w
  simp [Go.binOp, h]

theorem flat_take (A : List (Int × Int)) (k : Nat) (h : k < A.length) : rowI (flatA (A.take (k + 1))) = rowI (flatA (A.take k)) ++ [.int .i64 (aI A k), .int .i64 (aT A k)] := by
  rw [take_snocA A k h, rowI_two]

/-- What the collecting loop owns: all that was there before it, its variable, and the row that the variable names. -/
def FC (Oc : Nat) (W : World) (j : Nat) : Prop := j < Oc ∨ j = Oc ∨ ∃ v, W.cell? ⟨Oc, 0, none⟩ = some v ∧ v.ownBlock = some j
/-- k pairs are collected. -/
def IC (w0 : World) (Oc : Nat) (A : List (Int × Int)) (k : Nat) (W : World) : Prop :=
  Below Oc w0 W ∧ ∃ v, W.cell? ⟨Oc, 0, none⟩ = some v ∧ W.frozen? ⟨Oc, 0, none⟩ = false ∧ W.ownsRow (Oc + 1) 3 1 v (2 * k) (rowI (flatA (A.take k)))
theorem IC.foot {w0 : World} {Oc : Nat} {A : List (Int × Int)} (hs : Oc ≤ w0.heap.size) (k : Nat) : Foot (FC Oc) (IC w0 Oc A k) where
  lt := fun W ⟨h2, v, h3, _, h5⟩ j hj => by
    rcases hj with hj | rfl | ⟨v', hv, hj⟩
    · have := h2.size; omega
    · exact World.block_lt_of_cell? W _ h3
    · rw [h3] at hv; injection hv with hv; subst hv
      exact (h5.lt j hj).2
  keep := fun W W' ⟨h2, v, h3, h4, h5⟩ hc => by
    have nO : ¬ ¬ FC Oc W Oc := fun hn => hn (.inr (.inl rfl))
    have e3 : W'.cell? ⟨Oc, 0, none⟩ = some v := hc.cell h3 nO
    refine ⟨⟨h2.trans (Ch.below hc (fun j hj hn => hn (.inl hj)) (by have := h2.size; omega)), v, e3, (hc.frozenCell h3 nO).trans h4,
      own_same h5 fun g hg => hc.block g (h5.lt g hg).2 fun hn => hn (.inr (.inr ⟨v, h3, hg⟩))⟩, fun j hj => ?_⟩
    rcases hj with hj | hj | ⟨v', hv, hj⟩
    · exact .inl hj
    · exact .inr (.inl hj)
    · rw [e3] at hv; injection hv with hv; subst hv
      exact .inr (.inr ⟨v, h3, hj⟩)
theorem grow_cell {A w1 : World} {Oc : Nat} {v : Value} {n : Nat} {xs : List Value} {ob : Obj} (h3 : A.cell? ⟨Oc, 0, none⟩ = some v) (h4 : A.frozen? ⟨Oc, 0, none⟩ = false)
    (h5 : A.ownsRow (Oc + 1) 3 1 v n xs) (hg : (A.alloc ob).grownBy w1 v.ownBlock) : w1.cell? ⟨Oc, 0, none⟩ = some v ∧ w1.frozen? ⟨Oc, 0, none⟩ = false := by
  have hcr : Ch (fun j => v.ownBlock = some j) A w1 := (((Ch.refl (fun _ => False) A).alloc ob).mono (fun _ _ h => h.elim)).trans (ch_grown hg)
  exact ⟨hcr.cell h3 fun hj => by have := own_ge h5 _ hj; simp only at this; omega, (hcr.frozenCell h3 fun hj => by have := own_ge h5 _ hj; simp only at this; omega).trans h4⟩
/-- A round's append: the row has grown, the variable names it. -/
theorem IC.grow {w0 W w1 : World} {Oc : Nat} {A : List (Int × Int)} {k : Nat} {v v' : Value} {xs : List Value} {ob : Obj} (h2 : Below Oc w0 W) (hs0 : Oc ≤ w0.heap.size) (h3 : W.cell? ⟨Oc, 0, none⟩ = some v) (h4 : W.frozen? ⟨Oc, 0, none⟩ = false)
    (h5 : W.ownsRow (Oc + 1) 3 1 v (2 * k) (rowI (flatA (A.take k)))) (hx : rowI (flatA (A.take (k + 1))) = rowI (flatA (A.take k)) ++ xs)
    (ho : w1.ownsRow (Oc + 1) 3 1 v' (2 * k + 2) (rowI (flatA (A.take k)) ++ xs)) (hg : (W.alloc ob).grownBy w1 v.ownBlock) (hat : v'.ownBlock = v.ownBlock ∨ v'.ownBlock = some (W.alloc ob).heap.size) :
    Step (FC Oc) W (w1.setCell ⟨Oc, 0, none⟩ v') ∧ IC w0 Oc A (k + 1) (w1.setCell ⟨Oc, 0, none⟩ v') := by
  have hz := h2.size
  have hge : ∀ j, v.ownBlock = some j → Oc + 1 ≤ j := fun j hj => own_ge h5 j hj
  have hcr : Ch (fun j => v.ownBlock = some j) W w1 := (((Ch.refl (fun _ => False) W).alloc ob).mono (fun _ _ h => h.elim)).trans (ch_grown hg)
  have e3 : w1.cell? ⟨Oc, 0, none⟩ = some v := hcr.cell h3 fun hj => by have := hge _ hj; simp only at this; omega
  have e4 : w1.frozen? ⟨Oc, 0, none⟩ = false := (hcr.frozenCell h3 fun hj => by have := hge _ hj; simp only at this; omega).trans h4
  have e5 : (w1.setCell ⟨Oc, 0, none⟩ v').cell? ⟨Oc, 0, none⟩ = some v' := World.cell?_setCell_same _ _ _ e3
  have hcW : Ch (fun j => j = Oc ∨ v.ownBlock = some j) W (w1.setCell ⟨Oc, 0, none⟩ v') := (hcr.mono fun _ _ h => .inr h).setCell _ _ (.inl (.inl rfl))
  refine ⟨⟨hcW.mono fun j _ hj => ?_, fun j hj => ?_⟩, h2.trans (hcW.below (fun j hj hn => ?_) (by omega)), v', e5, ?_, ?_⟩
  · rcases hj with hj | hj
    · exact .inr (.inl hj)
    · exact .inr (.inr ⟨v, h3, hj⟩)
  · rcases hj with hj | hj | ⟨v'', hv, hj⟩
    · exact .inl (.inl hj)
    · exact .inl (.inr (.inl hj))
    · rw [e5] at hv; injection hv with hv; subst hv
      rcases hat with ha | ha
      · rw [ha] at hj; exact .inl (.inr (.inr ⟨v, h3, hj⟩))
      · rw [ha] at hj; injection hj with hj; subst hj
        right; simp
  · rcases hn with hn | hn
    · omega
    · have := hge _ hn; omega
  · rw [World.frozen?_setCell]; exact e4
  · rw [hx, show 2 * (k + 1) = 2 * k + 2 by omega]
    exact own_same ho fun g hg' => Below.heap_setCell w1 ⟨Oc, 0, none⟩ v' g (by have := own_ge ho g hg'; show g ≠ Oc; omega)

set_option maxHeartbeats 1000000 in
theorem all_any (q : Nat) (L : List Tm) (A : List (Int × Int)) (w : World) (h : QAt w q L) (hA : tolds 0 L = A) (hok : OkA A) : Calls Try.prog 35 #[.pointer (some ⟨q, 0, none⟩)] w fun e w' =>
    ∃ v, e = .returned v ∧ w'.ownsRow w.heap.size 3 1 v (2 * A.length) (rowI (flatA A)) ∧ Below w.heap.size w w' := by
  refine (callsIn_wide (n := 0)).1 ?_
  obtain ⟨i0, hi, hz0, hz1, hz2⟩ := info_parts info3
  have hnn := neq108
  have hle := hok.len
  have HSN := Lib.hid (fun k (hk : k < A.length) => flat_take A k hk)
  refine callsIn_of_wp_marks Try.func35 rfl trivial ?_ rfl
  simp only [Try.ntmps35, List.size_toArray, List.length_cons, List.length_nil, Nat.reduceAdd, Nat.reduceSub, Array.replicate_succ, Array.replicate_zero, List.push_toArray, List.append_toArray, List.nil_append, List.cons_append]
  gi_wp2_with (refine ⟨trivial, rfl, ?_⟩; gi_at_call 60; refine (callsIn_wide.2 (AllD_any _ _)).mono ?_; rintro e w' ⟨rfl, rfl⟩)
  obtain ⟨Oc, hOc⟩ : ∃ Oc, Oc = w.heap.size := ⟨_, rfl⟩
  obtain ⟨w2, hw2⟩ : ∃ w2, (w.alloc (Obj.cells #[Value.slice none 0 0] 26)).alloc (Obj.cells #[Value.pointer (some ⟨q, 0, none⟩)] 54) = w2 := ⟨_, rfl⟩
  have z2 : w2.heap.size = Oc + 2 := by rw [← hw2, hOc]; simp
  have b2 : Below w.heap.size w w2 := by rw [← hw2]; exact ((Below.refl _ w).alloc (Nat.le_refl _) _).alloc (by simp) _
  have o2 : w2.cell? ⟨Oc, 0, none⟩ = some (.slice none 0 0) ∧ w2.frozen? ⟨Oc, 0, none⟩ = false := by rw [← hw2, hOc]; simp [go_sem]
  have s2 : w2.cell? ⟨Oc + 1, 0, none⟩ = some (.pointer (some ⟨q, 0, none⟩)) := by rw [← hw2, hOc]; simp [go_sem]
  have q2 : QAt w2 q L := h.new b2
  rw [hw2, ← hOc]
  clear hw2
  have hOw : Oc ≤ w.heap.size := by omega
  rw [← hOc] at b2
  have HOc := Lib.hid hOc
  have hI0 : IC w Oc A 0 w2 := ⟨b2, _, o2.1, o2.2, World.ownsRow_nil _ _ _ _⟩
  have HI0 := Lib.hid hI0
  have HQ := Lib.hid (And.intro q2 s2)
  have HH := Lib.hid (And.intro hOw z2)
  have HA := Lib.hid (And.intro hA hok)
  clear hI0 q2 s2 o2 b2 h hOw hOc hA hok
  refine wpIn_rangeF (gf := 76) (lb := #[.pointer (some ⟨Oc + 1, 0, none⟩)]) rfl (enters_of Try.func76 (by kernel_rfl) rfl)
    A.length (fun k => #[.int .i64 (aI A k), .int .i64 (aT A k)]) (fun _ => rfl) (FC Oc)
    (fun k W => IC w Oc A k W) (fun _ _ _ => False)
    (fun k => IC.foot HH.out.1 k) (fun _ _ => ⟨fun _ h => h.elim, fun _ _ h => h.elim⟩) HI0.out
    (fun k a' _ => a' = { tmps := #[.pointer (some ⟨q, 0, none⟩), undef, .slice none 0 0, .pointer (some ⟨Oc, 0, none⟩), .func (.func 76) #[] #[.pointer (some ⟨Oc + 1, 0, none⟩)], .int .i64 (aI A k), .int .i64 (aT A k), .pointer (some ⟨q, 0, none⟩), .func (.func 76) #[] #[.pointer (some ⟨Oc + 1, 0, none⟩)], .func (.func 76) #[] #[.pointer (some ⟨Oc + 1, 0, none⟩)], .bool true, .func (.func 76) #[] #[.pointer (some ⟨Oc + 1, 0, none⟩)], .int .i64 (aI A k), .int .i64 (aT A k), undef, undef, undef, undef, undef, undef], defers := [] })
    (fun _ _ _ _ h _ => h) ?hit ?assign ?body ?done (fun _ _ _ _ h => h.elim)
  case hit =>
    intro J' Jx' W1 h1 h2 h3 h4 h5 h6 h7 h8
    rw [HH.out.2] at h1 h2 h5 h6 h7 ⊢
    exact dall_in _ (Oc + 1) q L A _ J' Jx' W1 ((h2.cell (p := ⟨Oc + 1, 0, none⟩) (show Oc + 1 < Oc + 2 by omega)).trans HQ.out.2) (HQ.out.1.new (by rw [HH.out.2]; exact h2)) HA.out.1 HA.out.2 h7 h5 h8
  case assign =>
    intro k W K hi hk hK
    gi_wp2
    exact hK _ _ rfl (Ch.refl _ _) hi (fun _ h => h)
  case body =>
    rintro k a' W ⟨h2, v, h3, h4, h5⟩ hk rfl hz
    rw [HH.out.2] at hz
    obtain ⟨sp, cap, rfl⟩ := own_val h5
    have HT := Lib.hid (HSN.out k hk)
    have H5 := Lib.hid h5
    have H2 := Lib.hid h2
    clear h2 h5
    gi_wp2_with (gi_at_builtin; refine wpListIn_append_at _ rfl _ _ 26 rfl (Oc + 1) 3 i0 (.int .i64 0) 1 8 Try.underlying26 hi hz0 hz1 hz2 rfl (by decide) _ _ _ rfl (H5.out.alloc _) ⟨W.heap.size, 0, none⟩ 2 2 [.int .i64 (aI A k), .int .i64 (aT A k)] rfl rfl (two_new _ _ _ _) (by simp [Value.oneCell']) (by unfold maxLen; omega) (by omega) (by simp; omega) ?_; intro v' w1 hown' hgrow hat; obtain ⟨sp', cap', rfl⟩ := own_val hown'; have HG := Lib.hid (IC.grow H2.out HH.out.1 h3 h4 H5.out HT.out hown' hgrow hat); have g1 : w1.cell? ⟨Oc, 0, none⟩ = some (.slice sp (2 * k) cap) := (grow_cell h3 h4 H5.out hgrow).1; have g2 : w1.frozen? ⟨Oc, 0, none⟩ = false := (grow_cell h3 h4 H5.out hgrow).2; clear hown' hgrow hat h3 h4)
    exact HG.out
  case done =>
    rintro W ⟨h2, v, h3, h4, h5⟩ hD hnD hz
    rw [HH.out.2] at hD hnD hz
    rw [List.take_length] at h5
    obtain ⟨sp, cap, rfl⟩ := own_val h5
    have hne : ∀ g, (Value.slice sp (2 * A.length) cap).ownBlock = some g → g ≠ Oc + 2 := fun g hg e => by subst e; exact hnD (.inr (.inr ⟨_, h3, hg⟩))
    have HK := Lib.hid (And.intro h2 (And.intro h5 (And.intro hD hne)))
    clear h2 h5 hD hnD hne
    gi_wp2
    rw [HH.out.2]
    have hp : Ch (fun j => j = Oc + 2) W (W.putObj (Oc + 2) (.deferred none)) := (Ch.refl _ _).putObj _ _ rfl
    refine ⟨by simp, .inl ⟨_, _, rfl, run_takeDeferred HK.out.2.2.1, ?_⟩⟩
    refine ⟨.slice sp (2 * A.length) cap, ?_, _, rfl, ?_, ?_⟩
    · simp [results, Try.results35, go_sem]
    · rw [← HOc.out]
      exact own_mono (own_same HK.out.2.1 fun g hg => hp.block g (HK.out.2.1.lt g hg).2 (HK.out.2.2.2 g hg)) (by omega)
    · rw [← HOc.out]
      exact HK.out.1.trans (hp.below (fun j hj e => by omega) (by omega))
end Go.Proofs.Ytkbmgilceioieaa
