/- The contract of the law's out: what Out goes through, in a row. -/
import Derived.Test.YtdfknobohgncaaaDoorPF
import Derived.Test.YtdfknobohgncaaaDoorFoot2
namespace Go.Proofs.YtdfknobohgncaaaDoor
open Go.RowKit
attribute [local go_sem] Oper.semAt_some

theorem neqIn_func_nil (d gf : Nat) (lb : Array Value) (w : World) : (Op.equalIn (d + 1) 72 (.func (.func gf) #[] lb) .nilFunc).run Tryd.prog w = .ok false w := by
  have ht : Tryd.prog.underlying 72 = some (.func #[53] #[] false) := by kernel_rfl
  simp [Op.equalIn, run_underlying ht]
theorem neq72 (gf : Nat) (lb : Array Value) (w : World) : (Go.binOp .neq 72 (.func (.func gf) #[] lb) .nilFunc).run Tryd.prog w = .ok (.bool true) w := by
  have h : (Op.equal 72 (.func (.func gf) #[] lb) .nilFunc).run Tryd.prog w = .ok false w := neqIn_func_nil 9999 gf lb w
  simp [Go.binOp, h]
theorem info50 : (Tryd.prog.info? 50).map (fun i => (i.zero, i.size, i.bytes)) = some (some (.agg #[.int .i64 0, .int .i64 0]), 2, 16) := by kernel_rfl
/-- The cells of pairs in a row. -/
def prow : List (Int × Int) → List Value
  | [] => []
  | x :: l => .int .i64 x.1 :: .int .i64 x.2 :: prow l
theorem prow_app (l m : List (Int × Int)) : prow (l ++ m) = prow l ++ prow m := by
  induction l with
  | nil => rfl
  | cons x l ih => simp [prow, ih]
theorem prow_len (l : List (Int × Int)) : (prow l).length = 2 * l.length := by
  induction l with
  | nil => rfl
  | cons x l ih => simp [prow, ih]; omega
def pth (l : List (Int × Int)) (k : Nat) : Int × Int := l.getD k (0, 0)
theorem prow_take (l : List (Int × Int)) (k : Nat) (h : k < l.length) : prow (l.take (k + 1)) = prow (l.take k) ++ [.int .i64 (pth l k).1, .int .i64 (pth l k).2] := by
  rw [List.take_succ_eq_append_getElem h, prow_app]
  unfold pth
  rw [List.getD_eq_getElem?_getD, List.getElem?_eq_getElem h]
  rfl
theorem prow_at (l : List (Int × Int)) (k : Nat) (h : k < l.length) : (prow l)[2 * k]? = some (.int .i64 (pth l k).1) ∧ (prow l)[2 * k + 1]? = some (.int .i64 (pth l k).2) := by
  induction l generalizing k with
  | nil => simp at h
  | cons x l ih =>
    cases k with
    | zero => exact ⟨rfl, rfl⟩
    | succ k =>
      have := ih k (by simpa using h)
      rw [show 2 * (k + 1) = 2 * k + 1 + 1 by omega]
      exact ⟨by simpa [prow, pth] using this.1, by simpa [prow, pth] using this.2⟩
/-- What is out, in order: which block, and the how manieth time. -/
def outP (U : BitVec 32) (g : Nat → Int) : List (Int × Int) := (ints (lst U 32)).map fun n => (n, g n.toNat)
theorem outP_len (U : BitVec 32) (g : Nat → Int) : (outP U g).length = (lst U 32).length := by unfold outP ints; simp
theorem outP_at (U : BitVec 32) (g : Nat → Int) (k : Nat) (hk : k < (lst U 32).length) : pth (outP U g) k = (nth (ints (lst U 32)) k, g (nth (ints (lst U 32)) k).toNat) := by
  unfold pth outP nth ints
  simp [hk]
def RowAt (w : World) (b : Nat) (t : TypeId) (cs : Array Value) : Prop := w.heap[b]? = some (.cells cs t (0, 0))
theorem RowAt.mk (w : World) (t : TypeId) (cs : Array Value) : RowAt (w.alloc (.cells cs t)) w.heap.size t cs := heap_alloc_new w _
theorem RowAt.cell {w : World} {b : Nat} {t : TypeId} {cs : Array Value} (h : RowAt w b t cs) (j : Nat) : w.cell? ⟨b, j, none⟩ = cs[j]? := cell_of_row w b j _ _ _ h
/-- What the collecting loop owns: all that was there before it, its variable, and the row that the variable names. -/
def FC (b0 Oc : Nat) (W : World) (j : Nat) : Prop := j < b0 ∨ j = Oc ∨ ∃ v, W.cell? ⟨Oc, 0, none⟩ = some v ∧ v.ownBlock = some j
/-- k of them are collected. -/
def IC (w0 : World) (b0 Oc : Nat) (L : List (Int × Int)) (k : Nat) (W : World) : Prop :=
  Below b0 w0 W ∧ ∃ v, W.cell? ⟨Oc, 0, none⟩ = some v ∧ W.frozen? ⟨Oc, 0, none⟩ = false ∧ W.ownsRow (Oc + 1) 50 2 v k (prow (L.take k))
theorem IC.foot {w0 : World} {b0 Oc : Nat} {L : List (Int × Int)} (hs : b0 ≤ w0.heap.size) (k : Nat) : Foot (FC b0 Oc) (IC w0 b0 Oc L k) where
  lt := fun W ⟨h2, v, h3, _, h5⟩ j hj => by
    rcases hj with hj | rfl | ⟨v', hv, hj⟩
    · have := h2.size; omega
    · exact World.block_lt_of_cell? W _ h3
    · rw [h3] at hv; injection hv with hv; subst hv
      exact (h5.lt j hj).2
  keep := fun W W' ⟨h2, v, h3, h4, h5⟩ hc => by
    have nO : ¬ ¬ FC b0 Oc W Oc := fun hn => hn (.inr (.inl rfl))
    have e3 : W'.cell? ⟨Oc, 0, none⟩ = some v := hc.cell h3 nO
    refine ⟨⟨h2.trans (Ch.below hc (fun j hj hn => hn (.inl hj)) (by have := h2.size; omega)), v, e3, (hc.frozenCell h3 nO).trans h4,
      own_same h5 fun g hg => hc.block g (h5.lt g hg).2 fun hn => hn (.inr (.inr ⟨v, h3, hg⟩))⟩, fun j hj => ?_⟩
    rcases hj with hj | hj | ⟨v', hv, hj⟩
    · exact .inl hj
    · exact .inr (.inl hj)
    · rw [e3] at hv; injection hv with hv; subst hv
      exact .inr (.inr ⟨v, h3, hj⟩)
theorem grow_cell {A w1 : World} {Oc : Nat} {v : Value} {n : Nat} {xs : List Value} {ob : Obj} (h3 : A.cell? ⟨Oc, 0, none⟩ = some v) (h4 : A.frozen? ⟨Oc, 0, none⟩ = false)
    (h5 : A.ownsRow (Oc + 1) 50 2 v n xs) (hg : (A.alloc ob).grownBy w1 v.ownBlock) : w1.cell? ⟨Oc, 0, none⟩ = some v ∧ w1.frozen? ⟨Oc, 0, none⟩ = false := by
  have hcr : Ch (fun j => v.ownBlock = some j) A w1 := (((Ch.refl (fun _ => False) A).alloc ob).mono (fun _ _ h => h.elim)).trans (ch_grown hg)
  exact ⟨hcr.cell h3 fun hj => by have := own_ge h5 _ hj; simp only at this; omega, (hcr.frozenCell h3 fun hj => by have := own_ge h5 _ hj; simp only at this; omega).trans h4⟩
/-- A round's append: the row has grown, the variable names it. -/
theorem IC.grow {w0 A w1 : World} {Oc : Nat} {L : List (Int × Int)} {k : Nat} {v v' : Value} {xs : List Value} {ob : Obj} (hx : prow (L.take (k + 1)) = prow (L.take k) ++ xs) (h2 : Below Oc w0 A) (hs0 : Oc ≤ w0.heap.size) (h3 : A.cell? ⟨Oc, 0, none⟩ = some v) (h4 : A.frozen? ⟨Oc, 0, none⟩ = false)
    (h5 : A.ownsRow (Oc + 1) 50 2 v k (prow (L.take k)))
    (ho : w1.ownsRow (Oc + 1) 50 2 v' (k + 1) (prow (L.take k) ++ xs)) (hg : (A.alloc ob).grownBy w1 v.ownBlock) (hat : v'.ownBlock = v.ownBlock ∨ v'.ownBlock = some (A.alloc ob).heap.size) :
    Step (FC Oc Oc) A (w1.setCell ⟨Oc, 0, none⟩ v') ∧ IC w0 Oc Oc L (k + 1) (w1.setCell ⟨Oc, 0, none⟩ v') := by
  have hz := h2.size
  have hge : ∀ j, v.ownBlock = some j → Oc + 1 ≤ j := fun j hj => own_ge h5 j hj
  have hcr : Ch (fun j => v.ownBlock = some j) A w1 := (((Ch.refl (fun _ => False) A).alloc ob).mono (fun _ _ h => h.elim)).trans (ch_grown hg)
  have e3 : w1.cell? ⟨Oc, 0, none⟩ = some v := hcr.cell h3 fun hj => by have := hge _ hj; simp only at this; omega
  have e4 : w1.frozen? ⟨Oc, 0, none⟩ = false := (hcr.frozenCell h3 fun hj => by have := hge _ hj; simp only at this; omega).trans h4
  have e5 : (w1.setCell ⟨Oc, 0, none⟩ v').cell? ⟨Oc, 0, none⟩ = some v' := World.cell?_setCell_same _ _ _ e3
  have hcW : Ch (fun j => j = Oc ∨ v.ownBlock = some j) A (w1.setCell ⟨Oc, 0, none⟩ v') := (hcr.mono fun _ _ h => .inr h).setCell _ _ (.inl (.inl rfl))
  refine ⟨⟨hcW.mono fun j _ hj => ?_, fun j hj => ?_⟩, h2.trans (hcW.below (fun j hj hn => ?_) (by omega)), v', e5, ?_, ?_⟩
  · rcases hj with hj | hj
    · exact .inr (.inl hj)
    · exact .inr (.inr ⟨v, h3, hj⟩)
  · rcases hj with hj | hj | ⟨v'', hv, hj⟩
    · exact .inl (.inl hj)
    · exact .inl (.inr (.inl hj))
    · rw [e5] at hv; injection hv with hv; subst hv
      rcases hat with ha | ha
      · rw [ha] at hj; exact .inl (.inr (.inr ⟨v, h3, hj⟩))
      · rw [ha] at hj; injection hj with hj; subst hj
        right; simp
  · rcases hn with hn | hn
    · omega
    · have := hge _ hn; omega
  · rw [World.frozen?_setCell]; exact e4
  · rw [hx]; exact own_same ho fun g hg' => Below.heap_setCell w1 ⟨Oc, 0, none⟩ v' g (by have := own_ge ho g hg'; show g ≠ Oc; omega)


set_option maxHeartbeats 2000000 in
set_option maxRecDepth 100000 in
theorem out_any {w : World} {B : Nat} {F U : BitVec 32} {g : Nat → Int} {lo : Int} (h : PAt w B F U g lo) (ht : Tab w) :
    Calls Tryd.prog 20 #[.pointer (some ⟨B, 0, none⟩)] w fun e w' => ∃ v, e = .returned v ∧ w'.ownsRow w.heap.size 50 2 v (lst U 32).length (prow (outP U g)) ∧ Below w.heap.size w w' := by
  refine (callsIn_wide (n := 0)).1 ?_
  obtain ⟨i0, hi, hz0, hz1, hz2⟩ := info_parts info50
  have hnn := neq72
  have hp := ht.pos
  have hBl := h.lt
  obtain ⟨n, hn⟩ : ∃ n, (lst U 32).length = n := ⟨_, rfl⟩
  have hn32 : n ≤ 32 := by rw [← hn]; exact lst_len U 32
  have HLn := Lib.hid hn
  rw [hn]
  refine callsIn_of_wp_marks Tryd.func20 rfl trivial ?_ rfl
  simp only [Tryd.ntmps20, List.size_toArray, List.length_cons, List.length_nil, Nat.reduceAdd, Nat.reduceSub, Array.replicate_succ, Array.replicate_zero, List.push_toArray, List.append_toArray, List.nil_append, List.cons_append]
  gi_wp2_with (refine ⟨trivial, rfl, ?_⟩; gi_at_call 31; refine (callsIn_wide.2 (Out_any _ _)).mono ?_; rintro e w' ⟨rfl, rfl⟩)
  obtain ⟨Oc, hOc⟩ : ∃ Oc, Oc = w.heap.size := ⟨_, rfl⟩
  obtain ⟨w2, hw2⟩ : ∃ w2, (w.alloc (Obj.cells #[Value.slice none 0 0] 48)).alloc (Obj.cells #[Value.pointer (some ⟨B, 0, none⟩)] 42) = w2 := ⟨_, rfl⟩
  have z2 : w2.heap.size = Oc + 2 := by rw [← hw2, hOc]; simp
  have b2 : Below w.heap.size w w2 := by rw [← hw2]; exact ((Below.refl _ w).alloc (Nat.le_refl _) _).alloc (by simp) _
  have o2 : w2.cell? ⟨Oc, 0, none⟩ = some (.slice none 0 0) ∧ w2.frozen? ⟨Oc, 0, none⟩ = false ∧ w2.cell? ⟨Oc + 1, 0, none⟩ = some (.pointer (some ⟨B, 0, none⟩)) := by rw [← hw2, hOc]; simp [go_sem]
  rw [hw2, ← hOc]
  clear hw2
  rw [← hOc] at b2 hBl hp
  have HC := Lib.hid (show ∀ W', Below Oc w W' → PAt W' B F U g lo ∧ Tab W' from fun W' hb => ⟨h.below hb hBl, ht.below hp hb⟩)
  have HOc := Lib.hid hOc
  have hI0 : IC w Oc Oc (outP U g) 0 w2 := ⟨b2, _, o2.1, o2.2.1, World.ownsRow_nil _ _ _ _⟩
  have HI0 := Lib.hid (And.intro hI0 o2.2.2)
  have HH := Lib.hid (And.intro (show Oc ≤ w.heap.size by omega) z2)
  clear hI0 o2 b2 z2 h ht hBl hOc hn hp
  refine wpIn_rangeF2 (gf := 36) (lb := #[.pointer (some ⟨Oc + 1, 0, none⟩)]) rfl (enters_of Tryd.func36 (by kernel_rfl) rfl)
    n (fun k => #[.agg #[.int .i64 (nth (ints (lst U 32)) k), .int .i64 (g (nth (ints (lst U 32)) k).toNat)]]) (fun _ => rfl) (FC Oc Oc)
    (fun k A => IC w Oc Oc (outP U g) k A) (fun _ _ _ => False)
    (fun k => IC.foot HH.out.1 k) (fun _ _ => ⟨fun _ h => h.elim, fun _ _ h => h.elim⟩) HI0.out.1
    (fun k a' W' => ∃ b, Oc + 4 ≤ b ∧ a' = { tmps := #[.pointer (some ⟨B, 0, none⟩), undef, .slice none 0 0, .pointer (some ⟨Oc, 0, none⟩), .func (.func 36) #[] #[.pointer (some ⟨Oc + 1, 0, none⟩)], .pointer (some ⟨b, 0, none⟩), .pointer (some ⟨B, 0, none⟩), .func (.func 36) #[] #[.pointer (some ⟨Oc + 1, 0, none⟩)], .func (.func 36) #[] #[.pointer (some ⟨Oc + 1, 0, none⟩)], .bool true, .func (.func 36) #[] #[.pointer (some ⟨Oc + 1, 0, none⟩)], .agg #[.int .i64 (nth (ints (lst U 32)) k), .int .i64 (g (nth (ints (lst U 32)) k).toNat)], undef, undef, undef, undef, undef], defers := [] } ∧ RowAt W' b 50 #[.int .i64 (nth (ints (lst U 32)) k), .int .i64 (g (nth (ints (lst U 32)) k).toNat)])
    ?hax ?hit ?assign ?body ?done (fun _ _ _ _ h => h.elim)
  case hax =>
    rintro k a' W W' ⟨b, hb, rfl, hr⟩ hc
    rw [HH.out.2] at hc
    exact ⟨b, hb, rfl, hc.obj hr (by omega)⟩
  case hit =>
    intro J' Jx' W1 h1' h2 h3 h4 h5 h6 h7 h8
    rw [HH.out.2] at h1' h2 h5 h6 h7 ⊢
    have hI := h3 0 W1 h8
    have hb1 : Below Oc w W1 := hI.1.1
    have e := HLn.out
    rw [← e] at h7 ⊢
    exact out_in _ (Oc + 1) B F U g lo _ J' Jx' W1 (fun k W' h => (HC.out W' (h3 k W' h).1.1).2) ((h2.cell (p := ⟨Oc + 1, 0, none⟩) (show Oc + 1 < Oc + 2 by omega)).trans HI0.out.2) (HC.out W1 hb1).1 h7 h5 h6 h8
  case assign =>
    intro k W K hi' hk hz hK
    rw [HH.out.2] at hz
    have HK := Lib.hid hK
    have hkp := (IC.foot (L := outP U g) HH.out.1 k).keep W (W.alloc (.cells #[.int .i64 (nth (ints (lst U 32)) k), .int .i64 (g (nth (ints (lst U 32)) k).toNat)] 50)) hi' (Off.nothing ((Ch.refl _ _).alloc _))
    have HKP := Lib.hid hkp
    clear hK hkp hi'
    gi_wp2
    exact HK.out _ _ ⟨W.heap.size, by omega, rfl, RowAt.mk W 50 _⟩ ((Ch.refl _ _).alloc _) HKP.out.1 HKP.out.2
  case body =>
    rintro k a' A ⟨h2, v, h3, h4, h5⟩ hk ⟨b, hb, rfl, hr⟩ hz
    rw [HH.out.2] at hz
    have hkl : k < (lst U 32).length := by rw [HLn.out]; exact hk
    have hpt := prow_take (outP U g) k (by rw [outP_len]; exact hkl)
    rw [outP_at U g k hkl] at hpt
    obtain ⟨x, hx⟩ : ∃ x, nth (ints (lst U 32)) k = x := ⟨_, rfl⟩
    obtain ⟨y, hy⟩ : ∃ y, g x.toNat = y := ⟨_, rfl⟩
    rw [hx, hy] at hpt hr ⊢
    have q0 : A.cell? ⟨b, 0, none⟩ = some (.int .i64 x) := hr.cell 0
    have q1 : A.cell? ⟨b, 1, none⟩ = some (.int .i64 y) := hr.cell 1
    obtain ⟨sp, cap, rfl⟩ := own_val h5
    have H5 := Lib.hid h5
    have H1 := Lib.hid h2
    have HP := Lib.hid hpt
    clear h2 h5 hr hx hy hpt
    gi_wp2_with (gi_at_builtin; refine wpListIn_append_at _ rfl _ _ 48 rfl (Oc + 1) 50 i0 (.agg #[.int .i64 0, .int .i64 0]) 2 16 Tryd.underlying48 hi hz0 hz1 hz2 rfl (by decide) _ _ _ rfl (H5.out.alloc _) ⟨A.heap.size, 0, none⟩ 1 1 [.int .i64 x, .int .i64 y] rfl rfl (two_new _ _ _ _) (by simp [Value.oneCell']) (by unfold maxLen; omega) (by omega) (by simp; omega) ?_; intro v' w1 hown' hgrow hat; obtain ⟨sp', cap', rfl⟩ := own_val hown'; have HG := Lib.hid (IC.grow HP.out H1.out HH.out.1 h3 h4 H5.out hown' hgrow hat); have g1 : w1.cell? ⟨Oc, 0, none⟩ = some (.slice sp k cap) := (grow_cell h3 h4 H5.out hgrow).1; have g2 : w1.frozen? ⟨Oc, 0, none⟩ = false := (grow_cell h3 h4 H5.out hgrow).2; clear hown' hgrow hat h3 h4)
    exact HG.out
  case done =>
    rintro A ⟨h2, v, h3, h4, h5⟩ hD hnD hz
    rw [HH.out.2] at hD hnD hz
    obtain ⟨sp, cap, rfl⟩ := own_val h5
    have hne : ∀ g, (Value.slice sp n cap).ownBlock = some g → g ≠ Oc + 2 := fun g hg e => by subst e; exact hnD (.inr (.inr ⟨_, h3, hg⟩))
    rw [List.take_of_length_le (by rw [outP_len, HLn.out]; exact Nat.le_refl _)] at h5
    have HK := Lib.hid (And.intro h2 (And.intro h5 (And.intro hD hne)))
    clear h2 h5 hD hnD hne
    gi_wp2
    rw [HH.out.2]
    have hp : Ch (fun j => j = Oc + 2) A (A.putObj (Oc + 2) (.deferred none)) := (Ch.refl _ _).putObj _ _ rfl
    refine ⟨by simp, .inl ⟨_, _, rfl, run_takeDeferred HK.out.2.2.1, ?_⟩⟩
    refine ⟨.slice sp n cap, ?_, _, rfl, ?_, ?_⟩
    · simp [results, Tryd.results20, go_sem]
    · rw [← HOc.out]
      exact own_mono (own_same HK.out.2.1 fun g hg => hp.block g (HK.out.2.1.lt g hg).2 (HK.out.2.2.2 g hg)) (by omega)
    · rw [← HOc.out]
      exact HK.out.1.trans (hp.below (fun j hj e => by omega) (by omega))
end Go.Proofs.YtdfknobohgncaaaDoor
