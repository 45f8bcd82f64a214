/- The contract of others: words of which none comes often are appended in groups. -/
import Derived.Test.YtkbmgilceioieaaRC
namespace Go.Proofs.Ytkbmgilceioieaa
open Go.RowKit
attribute [local go_sem] Oper.semAt_some

def rowW (l : List Nat) : List Value := l.map fun n : Nat => .int .u32 (n : Int)
theorem rowW_app (a b : List Nat) : rowW (a ++ b) = rowW a ++ rowW b := by simp [rowW]
theorem rowW_len (a : List Nat) : (rowW a).length = a.length := by simp [rowW]
theorem rowW_one (l : List Nat) : ∀ u ∈ rowW l, u.oneCell' = true := by
  intro u hu
  obtain ⟨x, _, rfl⟩ := List.mem_map.1 hu
  rfl
theorem SL.cells {w : World} {sp : Option Addr} {b off : Nat} {l : List Nat} (h : SL w sp b off l) : ∀ j u, (rowW l)[j]? = some u → w.cell? ((⟨b, off, none⟩ : Addr).add j) = some u := by
  intro j u hu
  rw [show (⟨b, off, none⟩ : Addr).add j = ⟨b, off + j, none⟩ from Addr.add_lit ..]
  have hj : j < l.length := by
    have := (List.getElem?_eq_some_iff.1 hu).1
    simpa [rowW_len] using this
  rw [h.2 j hj]
  unfold rowW at hu
  rw [List.getElem?_map, List.getElem?_eq_getElem hj] at hu
  simp at hu
  rw [← hu]
  simp [nthW, hj]
theorem own_SL {w : World} {base : Nat} {v : Value} {l : List Nat} (h : w.ownsRow base 27 1 v l.length (rowW l)) :
    ∃ sp g cap, v = .slice sp l.length cap ∧ SL w sp g 0 l ∧ l.length ≤ cap ∧ (0 < l.length → v.ownBlock = some g ∧ base ≤ g ∧ g < w.heap.size) := by
  rcases h.2 with ⟨rfl, h0⟩ | ⟨g, cap, cur, rfl, _, _, h1, _⟩
  · exact ⟨none, 0, 0, by rw [h0], ⟨fun h => by omega, fun k hk => by omega⟩, by omega, fun h => by omega⟩
  · have hl := h.lt g rfl
    refine ⟨some ⟨g, 0, none⟩, g, cap, rfl, ⟨fun _ => rfl, fun k hk => ?_⟩, h1, fun _ => ⟨rfl, hl⟩⟩
    rw [Nat.zero_add]
    refine (h.cellAt k (by omega)).trans ?_
    unfold rowW nthW
    rw [List.getElem?_map, List.getElem?_eq_getElem hk]; simp [hk]
theorem info27 : (Try.prog.info? 27).map (fun i => (i.zero, i.size, i.bytes)) = some (some (.int .u32 0), 1, 4) := by kernel_rfl

/-- The first k groups of words of which none comes often. -/
def othK (l : List Nat) : Nat → List Nat
  | 0 => []
  | k + 1 => othK l k ++ (chL l.length k :: (l.drop (4096 * k)).take (chL l.length k))
theorem othK_succ (l : List Nat) (k : Nat) : othK l (k + 1) = othK l k ++ (chL l.length k :: (l.drop (4096 * k)).take (chL l.length k)) := rfl
theorem othK_rest (l : List Nat) (k : Nat) (hk : k ≤ chN l.length) : othS l = othK l k ++ othS (l.drop (4096 * k)) := by
  induction k with
  | zero => simp [othK]
  | succ k ih =>
    rw [ih (by omega)]
    have hlt : 4096 * k < l.length := by unfold chN at hk; omega
    have hne : l.drop (4096 * k) ≠ [] := by intro e; have := congrArg List.length e; simp at this; omega
    have e : chL l.length k = min 4096 (l.length - 4096 * k) := rfl
    have et : (l.drop (4096 * k)).take 4096 = (l.drop (4096 * k)).take (chL l.length k) := by
      rw [e]
      by_cases h : 4096 ≤ l.length - 4096 * k
      · rw [Nat.min_eq_left h]
      · rw [Nat.min_eq_right (by omega), List.take_of_length_le (by rw [List.length_drop]; omega), List.take_of_length_le (by rw [List.length_drop]; omega)]
    rw [othS_ne hne, List.length_drop, List.drop_drop, othK_succ, et, ← e, show 4096 * k + 4096 = 4096 * (k + 1) by omega, List.append_assoc, List.cons_append]
theorem othK_all (l : List Nat) : othK l (chN l.length) = othS l := by
  rw [othK_rest l _ (Nat.le_refl _), List.drop_of_length_le (by unfold chN; omega), othS_nil, List.append_nil]
theorem othK_len (l : List Nat) (k : Nat) : (othK l k).length ≤ l.length + k := by
  have gen : ∀ k, (othK l k).length ≤ min l.length (4096 * k) + k := by
    intro k
    induction k with
    | zero => simp [othK]
    | succ k ih =>
      rw [othK_succ, List.length_append, List.length_cons, List.length_take, List.length_drop]
      unfold chL
      omega
  have := gen k; omega

/-- What the appending loop owns: all that was there before it, its variable, and the row that the variable names. -/
def FO (Oc : Nat) (W : World) (j : Nat) : Prop := j < Oc ∨ j = Oc ∨ ∃ v, W.cell? ⟨Oc, 0, none⟩ = some v ∧ v.ownBlock = some j
/-- The variable names a row that holds ys. -/
def IO (w0 : World) (Oc B : Nat) (vp : Value) (ys : List Nat) (W : World) : Prop :=
  Ch (fun j => vp.ownBlock = some j) w0 W ∧ ∃ v, W.cell? ⟨Oc, 0, none⟩ = some v ∧ W.frozen? ⟨Oc, 0, none⟩ = false ∧ W.ownsRow B 27 1 v ys.length (rowW ys) ∧ ∀ j, v.ownBlock = some j → vp.ownBlock = some j ∨ Oc + 3 ≤ j
theorem IO.foot {w0 : World} {Oc B : Nat} {vp : Value} {ys : List Nat} (hs : w0.heap.size = Oc) : Foot (FO Oc) (IO w0 Oc B vp ys) where
  lt := fun W ⟨h2, v, h3, _, h5, _⟩ j hj => by
    rcases hj with hj | rfl | ⟨v', hv, hj⟩
    · have := h2.size; omega
    · exact World.block_lt_of_cell? W _ h3
    · rw [h3] at hv; injection hv with hv; subst hv
      exact (h5.lt j hj).2
  keep := fun W W' ⟨h2, v, h3, h4, h5, h6⟩ hc => by
    have nO : ¬ ¬ FO Oc W Oc := fun hn => hn (.inr (.inl rfl))
    have e3 : W'.cell? ⟨Oc, 0, none⟩ = some v := hc.cell h3 nO
    refine ⟨⟨⟨hc.os.trans h2.os, hc.tape.trans h2.tape, hc.output.trans h2.output, Nat.le_trans h2.size hc.size, fun k hk hn => ?_⟩, v, e3, (hc.frozenCell h3 nO).trans h4,
      own_same h5 fun g hg => hc.block g (h5.lt g hg).2 fun hn => hn (.inr (.inr ⟨v, h3, hg⟩)), h6⟩, fun j hj => ?_⟩
    · rw [hc.block k (Nat.lt_of_lt_of_le hk h2.size) (fun hn' => hn' (.inl (by omega)))]
      exact h2.block k hk hn
    · rcases hj with hj | hj | ⟨v', hv, hj⟩
      · exact .inl hj
      · exact .inr (.inl hj)
      · rw [e3] at hv; injection hv with hv; subst hv
        exact .inr (.inr ⟨v, h3, hj⟩)
/-- An append behind allocations: the row has grown, the variable names it. -/
theorem IO.grow {w0 W V w1 : World} {Oc B : Nat} {vp v v' : Value} {ys zs : List Nat} (hs : w0.heap.size = Oc) (_hB : B ≤ Oc) (h2 : Ch (fun j => vp.ownBlock = some j) w0 W) (hvp : ∀ j, vp.ownBlock = some j → j < Oc) (h3 : W.cell? ⟨Oc, 0, none⟩ = some v) (h4 : W.frozen? ⟨Oc, 0, none⟩ = false)
    (_h5 : W.ownsRow B 27 1 v ys.length (rowW ys)) (h6 : ∀ j, v.ownBlock = some j → vp.ownBlock = some j ∨ Oc + 3 ≤ j) (hz : Oc + 3 ≤ W.heap.size) (hV : Ch (fun _ => False) W V)
    (ho : w1.ownsRow B 27 1 v' (ys.length + zs.length) (rowW ys ++ rowW zs)) (hg : V.grownBy w1 v.ownBlock) (hat : v'.ownBlock = v.ownBlock ∨ v'.ownBlock = some V.heap.size) :
    (w1.cell? ⟨Oc, 0, none⟩ = some v ∧ w1.frozen? ⟨Oc, 0, none⟩ = false) ∧ Step (FO Oc) W (w1.setCell ⟨Oc, 0, none⟩ v') ∧ IO w0 Oc B vp (ys ++ zs) (w1.setCell ⟨Oc, 0, none⟩ v') := by
  have hzV := hV.size
  have hvO : ∀ j, v.ownBlock = some j → j ≠ Oc := fun j hj e => by
    rcases h6 j hj with h | h
    · have := hvp j h; omega
    · omega
  have hcr : Ch (fun j => v.ownBlock = some j) W w1 := (hV.mono (fun _ _ h => h.elim)).trans (ch_grown hg)
  have e3 : w1.cell? ⟨Oc, 0, none⟩ = some v := hcr.cell h3 fun hj => hvO _ hj rfl
  have e4 : w1.frozen? ⟨Oc, 0, none⟩ = false := (hcr.frozenCell h3 fun hj => hvO _ hj rfl).trans h4
  have e5 : (w1.setCell ⟨Oc, 0, none⟩ v').cell? ⟨Oc, 0, none⟩ = some v' := World.cell?_setCell_same _ _ _ e3
  have hcW : Ch (fun j => j = Oc ∨ v.ownBlock = some j) W (w1.setCell ⟨Oc, 0, none⟩ v') := (hcr.mono fun _ _ h => .inr h).setCell _ _ (.inl (.inl rfl))
  refine ⟨⟨e3, e4⟩, ⟨hcW.mono fun j _ hj => ?_, fun j hj => ?_⟩, ⟨hcW.os.trans h2.os, hcW.tape.trans h2.tape, hcW.output.trans h2.output, Nat.le_trans h2.size hcW.size, fun k hk hn => ?_⟩, v', e5, ?_, ?_, ?_⟩
  · rcases hj with hj | hj
    · exact .inr (.inl hj)
    · exact .inr (.inr ⟨v, h3, hj⟩)
  · rcases hj with hj | hj | ⟨v'', hv, hj⟩
    · exact .inl (.inl hj)
    · exact .inl (.inr (.inl hj))
    · rw [e5] at hv; injection hv with hv; subst hv
      rcases hat with ha | ha
      · rw [ha] at hj; exact .inl (.inr (.inr ⟨v, h3, hj⟩))
      · rw [ha] at hj; injection hj with hj; subst hj
        exact .inr hzV
  · rw [hcW.block k (Nat.lt_of_lt_of_le hk h2.size) (fun hT => ?_)]
    · exact h2.block k hk hn
    · rcases hT with hT | hT
      · omega
      · rcases h6 k hT with h | h
        · exact hn h
        · omega
  · rw [World.frozen?_setCell]; exact e4
  · rw [List.length_append, rowW_app]
    refine own_same ho fun g hg' => Below.heap_setCell w1 ⟨Oc, 0, none⟩ v' g ?_
    show g ≠ Oc
    rcases hat with ha | ha
    · rw [ha] at hg'; exact hvO g hg'
    · rw [ha] at hg'; injection hg' with hg'; omega
  · intro j hj
    rcases hat with ha | ha
    · rw [ha] at hj; exact h6 j hj
    · rw [ha] at hj; injection hj with hj
      exact .inr (by omega)
end Go.Proofs.Ytkbmgilceioieaa
