/- PoolPlays: the maths of what is free and what is out; the law's arrays; what is there between two calls. -/
import Derived.Test.YtdfknobohgncaaaDoorPG
namespace Go.Proofs.YtdfknobohgncaaaDoor
open Go.RowKit

theorem fst_bit (n : Int) (i : Nat) (hi : i < 32) : (fst n).getLsbD i = decide ((i : Int) < n) := by
  unfold fst
  rw [btw_bit _ _ _ i hi]
  have h1 : ∀ i, i < 32 → (4294967295#32).getLsbD i = true := by decide
  have h2 : decide ((-1 : Int) < (i : Int)) = true := by simp; omega
  rw [h1 i hi, h2]; simp
/-- What is free, of so many, where U is out. -/
def fr (m : Int) (U : BitVec 32) : BitVec 32 := fst m &&& ~~~U
theorem fr_bit (m : Int) (U : BitVec 32) (i : Nat) (hi : i < 32) : (fr m U).getLsbD i = (decide ((i : Int) < m) && !U.getLsbD i) := by
  unfold fr
  rw [BitVec.getLsbD_and, BitVec.getLsbD_not, fst_bit m i hi]; simp [hi]
theorem fr_zero (m : Int) : fr m 0#32 = fst m := by
  apply BitVec.eq_of_getLsbD_eq; intro i hi
  rw [fr_bit m _ i hi, fst_bit m i hi]; simp
theorem fr_put (m : Int) (U : BitVec 32) (n : Nat) (hm : (n : Int) < m) : fr m U ||| onl (n : Int) = fr m (U &&& ~~~onl (n : Int)) := by
  apply BitVec.eq_of_getLsbD_eq; intro i hi
  rw [BitVec.getLsbD_or, fr_bit _ _ i hi, fr_bit _ _ i hi, onl_bit _ i hi, BitVec.getLsbD_and, BitVec.getLsbD_not, onl_bit _ i hi]
  by_cases e : (i : Int) = (n : Int)
  · have : (i : Int) < m := by omega
    simp [e, hm]
  · simp [e, hi]
theorem fr_get (m : Int) (U : BitVec 32) (n : Nat) : fr m U &&& ~~~onl (n : Int) = fr m (U ||| onl (n : Int)) := by
  apply BitVec.eq_of_getLsbD_eq; intro i hi
  rw [BitVec.getLsbD_and, fr_bit _ _ i hi, fr_bit _ _ i hi, BitVec.getLsbD_or, BitVec.getLsbD_not, onl_bit _ i hi]
  by_cases e : (i : Int) = (n : Int)
  · simp [e]
  · simp [e, hi]
theorem cnt_or (x : BitVec 32) (b : Nat) (hb : b < 32) (h0 : x.getLsbD b = false) : ∀ n, n ≤ 32 → (lst (x ||| onl (b : Int)) n).length = (lst x n).length + if b < n then 1 else 0
  | 0, _ => rfl
  | n + 1, hn => by
    have ih := cnt_or x b hb h0 n (by omega)
    rw [lst_succ, lst_succ, BitVec.getLsbD_or, onl_bit _ n (by omega)]
    by_cases e : b = n
    · subst e
      rw [h0]
      simp at ih ⊢
      exact ih
    · have e1 : decide ((n : Int) = (b : Int)) = false := by simp; omega
      rw [e1, Bool.or_false]
      cases x.getLsbD n
      · simp only [Bool.false_eq_true, if_false]
        rw [ih]
        by_cases h : b < n
        · rw [if_pos h, if_pos (by omega)]
        · rw [if_neg h, if_neg (by omega)]
      · simp only [if_true, List.length_append, List.length_singleton]
        rw [ih]
        by_cases h : b < n
        · rw [if_pos h, if_pos (by omega)]
        · rw [if_neg h, if_neg (by omega)]
theorem cnt_put (m : Int) (U : BitVec 32) (n : Nat) (hn : n < 32) (hm : (n : Int) < m) (hU : U.getLsbD n = true) : (lst (fr m (U &&& ~~~onl (n : Int))) 32).length = (lst (fr m U) 32).length + 1 := by
  rw [← fr_put m U n hm, cnt_or _ n hn (by rw [fr_bit _ _ n hn, hU]; simp) 32 (Nat.le_refl _), if_pos hn]
theorem least {m : Int} {U : BitVec 32} {k : Nat} (hk : (lst (fr m U) 32).headD 0 = k) (hne : lst (fr m U) 32 ≠ []) :
    k < 32 ∧ (k : Int) < m ∧ U.getLsbD k = false ∧ (∀ i, i < k → U.getLsbD i = true) ∧ (lst (fr m (U ||| onl (k : Int))) 32).length + 1 = (lst (fr m U) 32).length := by
  obtain ⟨h, t, e⟩ : ∃ h t, lst (fr m U) 32 = h :: t := by
    cases hl : lst (fr m U) 32 with
    | nil => exact absurd hl hne
    | cons h t => exact ⟨h, t, rfl⟩
  have h0 : (fr m U).toNat ≠ 0 := fun h0 => hne (by
    have : fr m U = 0#32 := by apply BitVec.eq_of_toNat_eq; simpa using h0
    rw [this]; exact lst_zero)
  obtain ⟨c1, c2, c3⟩ := ctz_bits h0 (fr m U).isLt
  obtain ⟨d1, _⟩ := lst_head h0
  rw [hk] at d1
  rw [← d1] at c1 c2 c3
  have b2 : (fr m U).getLsbD k = true := c2
  rw [fr_bit _ _ k c1] at b2
  simp at b2
  refine ⟨c1, b2.1, b2.2, fun i hi => ?_, ?_⟩
  · have b3 : (fr m U).getLsbD i = false := c3 i hi
    rw [fr_bit _ _ i (by omega)] at b3
    simp at b3
    exact b3 (by omega)
  · have : h = k := by rw [← hk, e]; rfl
    subst this
    rw [← fr_get, lst_rest _ _ _ e, e]
    rfl
theorem fr_nil {m : Int} {U : BitVec 32} : (lst (fr m U) 32).length = 0 ↔ lst (fr m U) 32 = [] := List.length_eq_zero_iff
theorem lst_pre (U : BitVec 32) (k : Nat) (hU : U.getLsbD k = true) : ∀ n, k + 1 ≤ n → ∃ r, lst U n = lst U k ++ k :: r
  | 0, h => by omega
  | n + 1, h => by
    by_cases e : k = n
    · subst e
      exact ⟨[], by rw [lst_succ, hU]; rfl⟩
    · obtain ⟨r, hr⟩ := lst_pre U k hU n (by omega)
      rw [lst_succ]
      split
      · exact ⟨r ++ [n], by rw [hr]; simp⟩
      · exact ⟨r, hr⟩
theorem lst_all (U : BitVec 32) (m : Nat) (h : ∀ i, i < 32 → U.getLsbD i = true → i < m) : ∀ n, n ≤ 32 → m ≤ n → lst U n = lst U m
  | 0, _, h2 => by rw [show m = 0 by omega]
  | n + 1, h1, h2 => by
    by_cases e : m = n + 1
    · rw [e]
    · rw [lst_succ, if_neg (fun hb => by have := h n (by omega) hb; omega)]
      exact lst_all U m h n (by omega) (by omega)
/-- The n-th that is out. -/
theorem out_nth (U : BitVec 32) (g : Nat → Int) (k : Nat) (hk : k < 32) (hU : U.getLsbD k = true) : (lst U k).length < (lst U 32).length ∧ pth (outP U g) (lst U k).length = ((k : Int), g k) := by
  obtain ⟨r, hr⟩ := lst_pre U k hU 32 (by omega)
  have h1 : (lst U k).length < (lst U 32).length := by rw [hr]; simp
  refine ⟨h1, ?_⟩
  rw [outP_at U g _ h1]
  have : nth (ints (lst U 32)) (lst U k).length = (k : Int) := by
    unfold nth ints
    rw [hr]; simp
  rw [this]; simp
theorem good_neg (U : BitVec 32) (g : Nat → Int) (b y : Int) (h : b < 0) : good U g b y = false := by
  unfold good
  have : decide (b ∈ ints (lst U 32)) = false := by rw [decide_eq_false_iff_not, mem_ints]; omega
  rw [this]; rfl
theorem good_in (U : BitVec 32) (g : Nat → Int) (n : Nat) (y : Int) (hn : n < 32) : good U g (n : Int) y = (U.getLsbD n && decide (y = g n)) := by
  unfold good
  have : decide ((n : Int) ∈ ints (lst U 32)) = U.getLsbD n := by
    rw [Bool.eq_iff_iff, decide_eq_true_iff, mem_ints, mem_lst]
    simp [hn]
  rw [this]; simp
theorem good_ge {m : Int} (U : BitVec 32) (g : Nat → Int) (b y : Int) (hs : ∀ i, i < 32 → U.getLsbD i = true → (i : Int) < m) (h : m ≤ b) : good U g b y = false := by
  unfold good
  have : decide (b ∈ ints (lst U 32)) = false := by
    rw [decide_eq_false_iff_not, mem_ints, mem_lst]
    rintro ⟨h1, h2, h3⟩
    have := hs _ h2 h3
    omega
  rw [this]; rfl
theorem good_put (U : BitVec 32) (g : Nat → Int) (b y : Int) : good (U &&& ~~~onl b) g b y = false := by
  unfold good
  have : decide (b ∈ ints (lst (U &&& ~~~onl b) 32)) = false := by
    rw [decide_eq_false_iff_not, mem_ints, mem_lst]
    rintro ⟨h1, h2, h3⟩
    rw [BitVec.getLsbD_and, BitVec.getLsbD_not, onl_bit _ _ h2] at h3
    have : ((b.toNat : Nat) : Int) = b := by omega
    simp [this] at h3
  rw [this]; rfl
/-- What is good is out, and within. -/
theorem good_out {m : Int} {U : BitVec 32} {g : Nat → Int} {b y : Int} (hs : ∀ i, i < 32 → U.getLsbD i = true → (i : Int) < m) (h : good U g b y = true) : ∃ n : Nat, b = n ∧ n < 32 ∧ (n : Int) < m ∧ U.getLsbD n = true := by
  unfold good at h
  rw [Bool.and_eq_true, decide_eq_true_iff, mem_ints, mem_lst] at h
  obtain ⟨⟨h1, h2, h3⟩, _⟩ := h
  exact ⟨b.toNat, by omega, h2, hs _ h2 h3, h3⟩

/-- An array of truths, as a row. -/
def rB (f : Nat → Bool) : List Value := (List.range 32).map fun i => .bool (f i)
def updB (f : Nat → Bool) (n : Nat) (b : Bool) : Nat → Bool := fun i => if i = n then b else f i
theorem rB_len (f : Nat → Bool) : (rB f).length = 32 := by unfold rB; simp
theorem rB_at (f : Nat → Bool) (k : Nat) (hk : k < 32) : (rB f)[k]? = some (.bool (f k)) := by unfold rB; simp [hk]
theorem rB_congr {f g : Nat → Bool} (h : ∀ i, i < 32 → f i = g i) : rB f = rB g := by
  unfold rB
  refine List.map_congr_left fun i hi => ?_
  rw [h i (by simpa using hi)]
theorem rB_set (f : Nat → Bool) (n : Nat) (v : Bool) (hn : n < 32) : (rB f).toArray.setIfInBounds n (.bool v) = (rB (updB f n v)).toArray := by
  apply Array.ext_getElem?
  intro i
  rw [Array.getElem?_setIfInBounds]
  by_cases e : n = i
  · subst e
    rw [if_pos rfl, if_pos (by simp [rB_len]; omega)]
    simp only [List.getElem?_toArray]
    rw [rB_at _ n hn]
    simp [updB]
  · rw [if_neg e]
    simp only [List.getElem?_toArray]
    unfold rB
    rw [List.getElem?_map, List.getElem?_map]
    by_cases hi : i < 32
    · have : ¬ i = n := fun h => e h.symm
      simp [hi, updB, this]
    · simp [hi]
theorem gs_congr {f g : Nat → Int} (h : ∀ i, i < 32 → f i = g i) : gs f = gs g := by
  unfold gs
  refine List.map_congr_left fun i hi => ?_
  rw [h i (by simpa using hi)]

/-- Where all lies between two calls: the pool, the law's two arrays, its row of what was got. -/
structure PX (w0 : World) (q G : Nat) (F U : BitVec 32) (g : Nat → Int) (lo : Int) (ga : Nat → Int) (dv : Nat → Bool) (v : Value) (got : List (Int × Int)) (w : World) : Prop where
  p : PAt w q F U g lo
  a : w.heap[G]? = some (.cells (gs ga).toArray 46 (0, 0))
  d : w.heap[G + 1]? = some (.cells (rB dv).toArray 47 (0, 0))
  row : w.ownsRow (G + 2) 50 2 v got.length (prow got)
  below : Below q w0 w
  qG : q < G
  size : G + 2 ≤ w.heap.size
  tab : Tab w
section
variable {w0 w w' : World} {q G : Nat} {F U F' U' : BitVec 32} {g g' ga : Nat → Int} {lo lo' : Int} {dv : Nat → Bool} {v v' : Value} {got : List (Int × Int)}
theorem PX.new (h : PX w0 q G F U g lo ga dv v got w) (hb : Below w.heap.size w w') : PX w0 q G F U g lo ga dv v got w' :=
  ⟨h.p.new hb, (hb.block G (by have := h.size; omega)).trans h.a, (hb.block (G + 1) (by have := h.size; omega)).trans h.d, own_below h.row hb (Nat.le_refl _), h.below.trans (hb.mono (by have := h.size; have := h.qG; omega)), h.qG, Nat.le_trans h.size hb.size, h.tab.below h.tab.pos hb⟩
theorem PX.dn (h : PX w0 q G F U g lo ga dv v got w) (n : Nat) : PX w0 q G F U g lo ga dv v got (w.drewN n) := h.new (below_dn (Below.refl _ _) n)
theorem PX.ca (h : PX w0 q G F U g lo ga dv v got w) (l : Nat) (hl : l < 32) : w.cell? ⟨G, l, none⟩ = some (.int .i64 (ga l)) := by
  rw [cell_of_row w G l _ _ _ h.a]; simpa using gs_at ga l hl
theorem PX.cd (h : PX w0 q G F U g lo ga dv v got w) (l : Nat) (hl : l < 32) : w.cell? ⟨G + 1, l, none⟩ = some (.bool (dv l)) := by
  rw [cell_of_row w (G + 1) l _ _ _ h.d]; simpa using rB_at dv l hl
theorem PX.fa (h : PX w0 q G F U g lo ga dv v got w) (l : Nat) : w.frozen? ⟨G, l, none⟩ = false := frozen_of_row w G l _ _ h.a
theorem PX.fd (h : PX w0 q G F U g lo ga dv v got w) (l : Nat) : w.frozen? ⟨G + 1, l, none⟩ = false := frozen_of_row w (G + 1) l _ _ h.d
theorem PX.ch {T : Nat → Prop} (h : PX w0 q G F U g lo ga dv v got w) (hc : Ch T w w') (h0 : 0 < q) (hT : ∀ j, T j → q ≤ j) (hr : ∀ j, T j → j ≠ G ∧ j ≠ G + 1 ∧ v.ownBlock ≠ some j) (hp : PAt w' q F' U' g' lo') : PX w0 q G F' U' g' lo' ga dv v got w' :=
  have hb : Below q w w' := hc.below (fun j hj e => by have := hT j e; omega) (by have := h.size; have := h.qG; omega)
  ⟨hp, hc.obj h.a (fun e => (hr _ e).1 rfl), hc.obj h.d (fun e => (hr _ e).2.1 rfl), own_ch h.row hc (fun j hj e => (hr _ e).2.2 hj), h.below.trans hb, h.qG, Nat.le_trans h.size hc.size, h.tab.below h0 hb⟩
theorem PX.rowG (h : PX w0 q G F U g lo ga dv v got w) (j : Nat) (hj : v.ownBlock = some j) : G + 2 ≤ j ∧ j < w.heap.size := h.row.lt j hj
theorem PX.pool (h : PX w0 q G F U g lo ga dv v got w) (h0 : 0 < q) (hc : Ch (fun j => j = q) w w') (hp : PAt w' q F' U' g' lo') : PX w0 q G F' U' g' lo' ga dv v got w' :=
  h.ch hc h0 (fun j e => by omega) (fun j e => by have := h.qG; exact ⟨by omega, by omega, fun e' => by have := h.rowG j e'; omega⟩) hp
theorem PX.setA (h : PX w0 q G F U g lo ga dv v got w) (h0 : 0 < q) (n : Nat) (x : Int) (hn : n < 32) : PX w0 q G F U g lo (upd ga n x) dv v got (w.setCell ⟨G, n, none⟩ (.int .i64 x)) :=
  have hc : Ch (fun j => j = G) w (w.setCell ⟨G, n, none⟩ (.int .i64 x)) := (Ch.refl _ _).setCell ⟨G, n, none⟩ _ (.inl rfl)
  have hb : Below q w (w.setCell ⟨G, n, none⟩ (.int .i64 x)) := hc.below (fun j hj e => by have := h.qG; omega) (by have := h.size; have := h.qG; omega)
  ⟨h.p.keep hc (by have := h.qG; omega), by rw [heap_setCell_same w G n _ _ _ h.a, gs_set ga n x hn], hc.obj h.d (by omega), own_ch h.row hc (fun j hj e => by have := h.rowG j hj; omega), h.below.trans hb, h.qG, Nat.le_trans h.size hc.size, h.tab.below h0 hb⟩
theorem PX.setD (h : PX w0 q G F U g lo ga dv v got w) (h0 : 0 < q) (n : Nat) (x : Bool) (hn : n < 32) : PX w0 q G F U g lo ga (updB dv n x) v got (w.setCell ⟨G + 1, n, none⟩ (.bool x)) :=
  have hc : Ch (fun j => j = G + 1) w (w.setCell ⟨G + 1, n, none⟩ (.bool x)) := (Ch.refl _ _).setCell ⟨G + 1, n, none⟩ _ (.inl rfl)
  have hb : Below q w (w.setCell ⟨G + 1, n, none⟩ (.bool x)) := hc.below (fun j hj e => by have := h.qG; omega) (by have := h.size; have := h.qG; omega)
  ⟨h.p.keep hc (by have := h.qG; omega), hc.obj h.a (by omega), by rw [heap_setCell_same w (G + 1) n _ _ _ h.d, rB_set dv n x hn], own_ch h.row hc (fun j hj e => by have := h.rowG j hj; omega), h.below.trans hb, h.qG, Nat.le_trans h.size hc.size, h.tab.below h0 hb⟩
theorem PX.grow (h : PX w0 q G F U g lo ga dv v got w) (h0 : 0 < q) (x : Int × Int) (hg : w.grownBy w' v.ownBlock) (hr : w'.ownsRow (G + 2) 50 2 v' (got.length + 1) (prow got ++ [.int .i64 x.1, .int .i64 x.2])) : PX w0 q G F U g lo ga dv v' (got ++ [x]) w' :=
  have hc := ch_grown hg
  have hb : Below q w w' := hc.below (fun j hj e => by have := h.rowG j e; have := h.qG; omega) (by have := h.size; have := h.qG; omega)
  ⟨h.p.keep hc (fun e => by have := h.rowG _ e; have := h.qG; omega), hc.obj h.a (fun e => by have := h.rowG _ e; omega), hc.obj h.d (fun e => by have := h.rowG _ e; omega), by
    rw [prow_app, List.length_append]; exact hr, h.below.trans hb, h.qG, Nat.le_trans h.size hc.size, h.tab.below h0 hb⟩
theorem PX.congr {ga' : Nat → Int} {dv' : Nat → Bool} (h : PX w0 q G F U g lo ga dv v got w) (e1 : ∀ i, i < 32 → ga i = ga' i) (e2 : ∀ i, i < 32 → dv i = dv' i) : PX w0 q G F U g lo ga' dv' v got w :=
  ⟨h.p, by rw [← gs_congr e1]; exact h.a, by rw [← rB_congr e2]; exact h.d, h.row, h.below, h.qG, h.size, h.tab⟩
end
/-- What is so throughout: what is out is within; how often; how many were got. -/
structure PC (m : Int) (k : Nat) (U : BitVec 32) (g : Nat → Int) (got : List (Int × Int)) : Prop where
  sub : ∀ i, i < 32 → U.getLsbD i = true → (i : Int) < m
  gb : ∀ i, i < 32 → 0 ≤ g i ∧ g i ≤ k
  gl : got.length ≤ k
theorem PC.succ {m : Int} {k : Nat} {U : BitVec 32} {g : Nat → Int} {got : List (Int × Int)} (h : PC m k U g got) : PC m (k + 1) U g got :=
  ⟨h.sub, fun i hi => ⟨(h.gb i hi).1, by have := (h.gb i hi).2; omega⟩, by have := h.gl; omega⟩
theorem PC.put {m : Int} {k : Nat} {U : BitVec 32} {g : Nat → Int} {got : List (Int × Int)} (h : PC m k U g got) (b : Int) : PC m (k + 1) (U &&& ~~~onl b) g got :=
  ⟨fun i hi hb => h.sub i hi (by rw [BitVec.getLsbD_and] at hb; simp at hb; exact hb.1), h.succ.gb, h.succ.gl⟩
theorem PC.get {m : Int} {k : Nat} {U : BitVec 32} {g : Nat → Int} {got : List (Int × Int)} (h : PC m k U g got) (n : Nat) (hn : n < 32) (hm : (n : Int) < m) (x : Int × Int) : PC m (k + 1) (U ||| onl (n : Int)) (upd g n (g n + 1)) (got ++ [x]) :=
  ⟨fun i hi hb => by
    rw [BitVec.getLsbD_or, onl_bit _ i hi] at hb
    simp at hb
    rcases hb with hb | hb
    · exact h.sub i hi hb
    · omega, fun i hi => by
      unfold upd
      have h1 := h.gb i hi
      have h2 := h.gb n hn
      split
      · omega
      · omega, by have := h.gl; simp; omega⟩
/-- The given array behind a Put, behind a Get. -/
theorem dv_put (U : BitVec 32) (n i : Nat) (hi : i < 32) : updB U.getLsbD n false i = (U &&& ~~~onl (n : Int)).getLsbD i := by
  unfold updB
  rw [BitVec.getLsbD_and, BitVec.getLsbD_not, onl_bit _ i hi]
  by_cases e : i = n
  · simp [e]
  · have : ¬ ((i : Int) = (n : Int)) := by omega
    simp [e, hi, this]
theorem dv_get (U : BitVec 32) (n i : Nat) (hi : i < 32) : updB U.getLsbD n true i = (U ||| onl (n : Int)).getLsbD i := by
  unfold updB
  rw [BitVec.getLsbD_or, onl_bit _ i hi]
  by_cases e : i = n
  · simp [e]
  · have : ¬ ((i : Int) = (n : Int)) := by omega
    simp [e, this]
end Go.Proofs.YtdfknobohgncaaaDoor
