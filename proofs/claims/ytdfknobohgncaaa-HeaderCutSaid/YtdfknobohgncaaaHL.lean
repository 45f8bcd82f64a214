/- The contract of the law's list: what is ranged over, in a row. -/
import Derived.Test.YtdfknobohgncaaaHK
import Derived.Test.YtdfknobohgncaaaFoot2
namespace Go.Proofs.Ytdfknobohgncaaa
open Go.RowKit
attribute [local go_sem] Oper.semAt_some

theorem eqlIn_func_nil (d gf : Nat) (lb : Array Value) (w : World) : (Op.equalIn (d + 1) 41 (.func (.func gf) #[] lb) .nilFunc).run Try.prog w = .ok false w := by
  have ht : Try.prog.underlying 41 = some (.func #[92] #[] false) := by kernel_rfl
  simp [Op.equalIn, run_underlying ht]
theorem eql41 (gf : Nat) (lb : Array Value) (w : World) : (Go.binOp .eql 41 (.func (.func gf) #[] lb) .nilFunc).run Try.prog w = .ok (.bool false) w := by
  have h : (Op.equal 41 (.func (.func gf) #[] lb) .nilFunc).run Try.prog w = .ok false w := eqlIn_func_nil 9999 gf lb w
  simp [Go.binOp, h]
theorem info45 : (Try.prog.info? 45).map (fun i => (i.zero, i.size, i.bytes)) = some (some (.agg #[.int .i64 0, .int .u32 0]), 2, 16) := by kernel_rfl
/-- The cells of so many writes. -/
def rowWr (at_ : Int) (l : Nat → BitVec 32) : Nat → List Value
  | 0 => []
  | k + 1 => rowWr at_ l k ++ [.int .i64 (at_ + (k : Int)), .int .u32 (w32 (wrW l k))]
/-- What the collecting loop owns: all that was there before it, its variable, and the row that the variable names. -/
def FC (b0 Oc : Nat) (W : World) (j : Nat) : Prop := j < b0 ∨ j = Oc ∨ ∃ v, W.cell? ⟨Oc, 0, none⟩ = some v ∧ v.ownBlock = some j
/-- k writes are collected. -/
def IC (w0 : World) (b0 Oc : Nat) (at_ : Int) (l : Nat → BitVec 32) (k : Nat) (W : World) : Prop :=
  Below b0 w0 W ∧ ∃ v, W.cell? ⟨Oc, 0, none⟩ = some v ∧ W.frozen? ⟨Oc, 0, none⟩ = false ∧ W.ownsRow (Oc + 1) 45 2 v k (rowWr at_ l k)
theorem IC.foot {w0 : World} {b0 Oc : Nat} {at_ : Int} {l : Nat → BitVec 32} (hs : b0 ≤ w0.heap.size) (k : Nat) : Foot (FC b0 Oc) (IC w0 b0 Oc at_ l k) where
  lt := fun W ⟨h2, v, h3, _, h5⟩ j hj => by
    rcases hj with hj | rfl | ⟨v', hv, hj⟩
    · have := h2.size; omega
    · exact World.block_lt_of_cell? W _ h3
    · rw [h3] at hv; injection hv with hv; subst hv
      exact (h5.lt j hj).2
  keep := fun W W' ⟨h2, v, h3, h4, h5⟩ hc => by
    have nO : ¬ ¬ FC b0 Oc W Oc := fun hn => hn (.inr (.inl rfl))
    have e3 : W'.cell? ⟨Oc, 0, none⟩ = some v := hc.cell h3 nO
    refine ⟨⟨h2.trans (Ch.below hc (fun j hj hn => hn (.inl hj)) (by have := h2.size; omega)), v, e3, (hc.frozenCell h3 nO).trans h4,
      own_same h5 fun g hg => hc.block g (h5.lt g hg).2 fun hn => hn (.inr (.inr ⟨v, h3, hg⟩))⟩, fun j hj => ?_⟩
    rcases hj with hj | hj | ⟨v', hv, hj⟩
    · exact .inl hj
    · exact .inr (.inl hj)
    · rw [e3] at hv; injection hv with hv; subst hv
      exact .inr (.inr ⟨v, h3, hj⟩)
theorem grow_cell {A w1 : World} {Oc : Nat} {v : Value} {n : Nat} {xs : List Value} {ob : Obj} (h3 : A.cell? ⟨Oc, 0, none⟩ = some v) (h4 : A.frozen? ⟨Oc, 0, none⟩ = false)
    (h5 : A.ownsRow (Oc + 1) 45 2 v n xs) (hg : (A.alloc ob).grownBy w1 v.ownBlock) : w1.cell? ⟨Oc, 0, none⟩ = some v ∧ w1.frozen? ⟨Oc, 0, none⟩ = false := by
  have hcr : Ch (fun j => v.ownBlock = some j) A w1 := (((Ch.refl (fun _ => False) A).alloc ob).mono (fun _ _ h => h.elim)).trans (ch_grown hg)
  exact ⟨hcr.cell h3 fun hj => by have := own_ge h5 _ hj; simp only at this; omega, (hcr.frozenCell h3 fun hj => by have := own_ge h5 _ hj; simp only at this; omega).trans h4⟩
/-- A round's append: the row has grown, the variable names it. -/
theorem IC.grow {w0 A w1 : World} {Oc : Nat} {at_ : Int} {l : Nat → BitVec 32} {k : Nat} {v v' : Value} {ob : Obj} (h2 : Below Oc w0 A) (hs0 : Oc ≤ w0.heap.size) (h3 : A.cell? ⟨Oc, 0, none⟩ = some v) (h4 : A.frozen? ⟨Oc, 0, none⟩ = false)
    (h5 : A.ownsRow (Oc + 1) 45 2 v k (rowWr at_ l k))
    (ho : w1.ownsRow (Oc + 1) 45 2 v' (k + 1) (rowWr at_ l k ++ [.int .i64 (at_ + (k : Int)), .int .u32 (w32 (wrW l k))])) (hg : (A.alloc ob).grownBy w1 v.ownBlock) (hat : v'.ownBlock = v.ownBlock ∨ v'.ownBlock = some (A.alloc ob).heap.size) :
    Step (FC Oc Oc) A (w1.setCell ⟨Oc, 0, none⟩ v') ∧ IC w0 Oc Oc at_ l (k + 1) (w1.setCell ⟨Oc, 0, none⟩ v') := by
  have hz := h2.size
  have hge : ∀ j, v.ownBlock = some j → Oc + 1 ≤ j := fun j hj => own_ge h5 j hj
  have hcr : Ch (fun j => v.ownBlock = some j) A w1 := (((Ch.refl (fun _ => False) A).alloc ob).mono (fun _ _ h => h.elim)).trans (ch_grown hg)
  have e3 : w1.cell? ⟨Oc, 0, none⟩ = some v := hcr.cell h3 fun hj => by have := hge _ hj; simp only at this; omega
  have e4 : w1.frozen? ⟨Oc, 0, none⟩ = false := (hcr.frozenCell h3 fun hj => by have := hge _ hj; simp only at this; omega).trans h4
  have e5 : (w1.setCell ⟨Oc, 0, none⟩ v').cell? ⟨Oc, 0, none⟩ = some v' := World.cell?_setCell_same _ _ _ e3
  have hcW : Ch (fun j => j = Oc ∨ v.ownBlock = some j) A (w1.setCell ⟨Oc, 0, none⟩ v') := (hcr.mono fun _ _ h => .inr h).setCell _ _ (.inl (.inl rfl))
  refine ⟨⟨hcW.mono fun j _ hj => ?_, fun j hj => ?_⟩, h2.trans (hcW.below (fun j hj hn => ?_) (by omega)), v', e5, ?_, ?_⟩
  · rcases hj with hj | hj
    · exact .inr (.inl hj)
    · exact .inr (.inr ⟨v, h3, hj⟩)
  · rcases hj with hj | hj | ⟨v'', hv, hj⟩
    · exact .inl (.inl hj)
    · exact .inl (.inr (.inl hj))
    · rw [e5] at hv; injection hv with hv; subst hv
      rcases hat with ha | ha
      · rw [ha] at hj; exact .inl (.inr (.inr ⟨v, h3, hj⟩))
      · rw [ha] at hj; injection hj with hj; subst hj
        right; simp
  · rcases hn with hn | hn
    · omega
    · have := hge _ hn; omega
  · rw [World.frozen?_setCell]; exact e4
  · exact own_same ho fun g hg' => Below.heap_setCell w1 ⟨Oc, 0, none⟩ v' g (by have := own_ge ho g hg'; show g ≠ Oc; omega)

set_option maxHeartbeats 2000000 in
set_option maxRecDepth 100000 in
theorem list14_any (BS BA n b off cap : Nat) (at_ : Int) (sp : Option Addr) (l : Nat → BitVec 32) (w : World) (h1 : 0 ≤ at_ ∧ at_ ≤ 1000) (hn : n ≤ 1000)
    (cS : w.cell? ⟨BS, 0, none⟩ = some (.slice sp n cap)) (cA : w.cell? ⟨BA, 0, none⟩ = some (.int .i64 at_)) (hW : Ws w sp b off n l) :
    Calls Try.prog 14 #[.func (.func 49) #[] #[.pointer (some ⟨BS, 0, none⟩), .pointer (some ⟨BA, 0, none⟩)]] w fun e w' =>
    ∃ v, e = .returned v ∧ w'.ownsRow w.heap.size 45 2 v (2 * n) (rowWr at_ l (2 * n)) ∧ Below w.heap.size w w' := by
  refine (callsIn_wide (n := 0)).1 ?_
  obtain ⟨i0, hi, hz0, hz1, hz2⟩ := info_parts info45
  have hnn := eql41
  have hBS : BS < w.heap.size := by have := World.block_lt_of_cell? w _ cS; simpa using this
  have hBA : BA < w.heap.size := by have := World.block_lt_of_cell? w _ cA; simpa using this
  refine callsIn_of_wp_marks Try.func14 rfl trivial ?_ rfl
  simp only [Try.ntmps14, List.size_toArray, List.length_cons, List.length_nil, Nat.reduceAdd, Nat.reduceSub, Array.replicate_succ, Array.replicate_zero, List.push_toArray, List.append_toArray, List.nil_append, List.cons_append]
  gi_wp2
  obtain ⟨Oc, hOc⟩ : ∃ Oc, Oc = w.heap.size := ⟨_, rfl⟩
  obtain ⟨w2, hw2⟩ : ∃ w2, w.alloc (Obj.cells #[Value.slice none 0 0] 38) = w2 := ⟨_, rfl⟩
  have z2 : w2.heap.size = Oc + 1 := by rw [← hw2, hOc]; simp
  have b2 : Below w.heap.size w w2 := by rw [← hw2]; exact (Below.refl _ w).alloc (Nat.le_refl _) _
  have o2 : w2.cell? ⟨Oc, 0, none⟩ = some (.slice none 0 0) ∧ w2.frozen? ⟨Oc, 0, none⟩ = false := by rw [← hw2, hOc]; simp [go_sem]
  rw [hw2, ← hOc]
  clear hw2
  rw [← hOc] at b2 hBS hBA
  have HC := Lib.hid (show ∀ W', Below Oc w W' → W'.cell? ⟨BS, 0, none⟩ = some (.slice sp n cap) ∧ W'.cell? ⟨BA, 0, none⟩ = some (.int .i64 at_) ∧ Ws W' sp b off n l from
    fun W' hb => ⟨(hb.cell (p := ⟨BS, 0, none⟩) hBS).trans cS, (hb.cell (p := ⟨BA, 0, none⟩) hBA).trans cA, hW.below hb (fun h0 => by rw [hOc]; exact (hW.sp h0).2)⟩)
  have HOc := Lib.hid hOc
  have hI0 : IC w Oc Oc at_ l 0 w2 := ⟨b2, _, o2.1, o2.2, World.ownsRow_nil _ _ _ _⟩
  have HI0 := Lib.hid hI0
  have HH := Lib.hid (And.intro (show Oc ≤ w.heap.size by omega) z2)
  clear hI0 o2 b2 z2 cS cA hW hBS hBA hOc
  refine wpIn_rangeF2 (gf := 49) (lb := #[.pointer (some ⟨BS, 0, none⟩), .pointer (some ⟨BA, 0, none⟩)]) rfl (enters_of Try.func49 (by kernel_rfl) rfl)
    (2 * n) (fun k => #[.agg #[.int .i64 (at_ + (k : Int)), .int .u32 (w32 (wrW l k))]]) (fun _ => rfl) (FC Oc Oc)
    (fun k A => IC w Oc Oc at_ l k A) (fun _ _ _ => False)
    (fun k => IC.foot HH.out.1 k) (fun _ _ => ⟨fun _ h => h.elim, fun _ _ h => h.elim⟩) HI0.out
    (fun k a' W' => ∃ B, Oc + 3 ≤ B ∧ a' = { tmps := #[.func (.func 49) #[] #[.pointer (some ⟨BS, 0, none⟩), .pointer (some ⟨BA, 0, none⟩)], undef, .slice none 0 0, .pointer (some ⟨Oc, 0, none⟩), .pointer (some ⟨B, 0, none⟩), .func (.func 49) #[] #[.pointer (some ⟨BS, 0, none⟩), .pointer (some ⟨BA, 0, none⟩)], .bool false, undef, .func (.func 49) #[] #[.pointer (some ⟨BS, 0, none⟩), .pointer (some ⟨BA, 0, none⟩)], .agg #[.int .i64 (at_ + (k : Int)), .int .u32 (w32 (wrW l k))], undef, undef, undef, undef, undef], defers := [] } ∧ RowAt W' B 45 #[.int .i64 (at_ + (k : Int)), .int .u32 (w32 (wrW l k))])
    ?hax ?hit ?assign ?body ?done (fun _ _ _ _ h => h.elim)
  case hax =>
    rintro k a' W W' ⟨B, hB, rfl, hr⟩ hc
    rw [HH.out.2] at hc
    exact ⟨B, hB, rfl, hc.obj hr (by omega)⟩
  case hit =>
    intro J' Jx' W1 h1' h2 h3 h4 h5 h6 h7 h8
    rw [HH.out.2] at h1' h2 h5 h6 h7 ⊢
    exact pairs_in _ BS BA n b off cap at_ sp l _ J' Jx' W1 h1 hn (fun k W' h => HC.out W' (h3 k W' h).1.1) h7 h5 h8
  case assign =>
    intro k W K hi' hk hz hK
    rw [HH.out.2] at hz
    have HK := Lib.hid hK
    have hkp := (IC.foot (at_ := at_) (l := l) HH.out.1 k).keep W (W.alloc (.cells #[.int .i64 (at_ + (k : Int)), .int .u32 (w32 (wrW l k))] 45)) hi' (Off.nothing ((Ch.refl _ _).alloc _))
    have HKP := Lib.hid hkp
    clear hK hkp hi'
    gi_wp2
    exact HK.out _ _ ⟨W.heap.size, by omega, rfl, RowAt.mk W 45 _⟩ ((Ch.refl _ _).alloc _) HKP.out.1 HKP.out.2
  case body =>
    rintro k a' A ⟨h2, v, h3, h4, h5⟩ hk ⟨B, hB, rfl, hr⟩ hz
    rw [HH.out.2] at hz
    have q0 : A.cell? ⟨B, 0, none⟩ = some (.int .i64 (at_ + (k : Int))) := hr.cell 0
    have q1 : A.cell? ⟨B, 1, none⟩ = some (.int .u32 (w32 (wrW l k))) := hr.cell 1
    obtain ⟨sp, cap, rfl⟩ := own_val h5
    have H5 := Lib.hid h5
    have H1 := Lib.hid h2
    obtain ⟨x, hx⟩ : ∃ x, at_ + (k : Int) = x := ⟨_, rfl⟩
    obtain ⟨y, hy⟩ : ∃ y, w32 (wrW l k) = y := ⟨_, rfl⟩
    have HXY := Lib.hid (And.intro hx hy)
    rw [hx] at q0 ⊢
    rw [hy] at q1 ⊢
    clear h2 h5 hr hx hy
    gi_wp2_with (gi_at_builtin; refine wpListIn_append_at _ rfl _ _ 38 rfl (Oc + 1) 45 i0 (.agg #[.int .i64 0, .int .u32 0]) 2 16 Try.underlying38 hi hz0 hz1 hz2 rfl (by decide) _ _ _ rfl (H5.out.alloc _) ⟨A.heap.size, 0, none⟩ 1 1 [.int .i64 x, .int .u32 y] rfl rfl (two_new _ _ _ _) (by simp [Value.oneCell']) (by unfold maxLen; omega) (by omega) (by simp; omega) ?_; intro v' w1 hown' hgrow hat; obtain ⟨sp', cap', rfl⟩ := own_val hown'; have HG := Lib.hid (IC.grow H1.out HH.out.1 h3 h4 H5.out (by rw [HXY.out.1, HXY.out.2]; exact hown') hgrow hat); have g1 : w1.cell? ⟨Oc, 0, none⟩ = some (.slice sp k cap) := (grow_cell h3 h4 H5.out hgrow).1; have g2 : w1.frozen? ⟨Oc, 0, none⟩ = false := (grow_cell h3 h4 H5.out hgrow).2; clear hown' hgrow hat h3 h4)
    exact HG.out
  case done =>
    rintro A ⟨h2, v, h3, h4, h5⟩ hD hnD hz
    rw [HH.out.2] at hD hnD hz
    obtain ⟨sp, cap, rfl⟩ := own_val h5
    obtain ⟨N, hN⟩ : ∃ N, 2 * n = N := ⟨_, rfl⟩
    rw [hN] at h3 h5
    have hne : ∀ g, (Value.slice sp N cap).ownBlock = some g → g ≠ Oc + 1 := fun g hg e => by subst e; exact hnD (.inr (.inr ⟨_, h3, hg⟩))
    have HK := Lib.hid (And.intro h2 (And.intro h5 (And.intro hD hne)))
    have HN := Lib.hid hN
    clear h2 h5 hD hnD hne hN
    gi_wp2
    rw [HH.out.2, HN.out]
    have hp : Ch (fun j => j = Oc + 1) A (A.putObj (Oc + 1) (.deferred none)) := (Ch.refl _ _).putObj _ _ rfl
    refine ⟨by simp, .inl ⟨_, _, rfl, run_takeDeferred HK.out.2.2.1, ?_⟩⟩
    refine ⟨.slice sp N cap, ?_, _, rfl, ?_, ?_⟩
    · simp [results, Try.results14, go_sem]
    · rw [← HOc.out]
      exact own_mono (own_same HK.out.2.1 fun g hg => hp.block g (HK.out.2.1.lt g hg).2 (HK.out.2.2.2 g hg)) (by omega)
    · rw [← HOc.out]
      exact HK.out.1.trans (hp.below (fun j hj e => by omega) (by omega))
end Go.Proofs.Ytdfknobohgncaaa
