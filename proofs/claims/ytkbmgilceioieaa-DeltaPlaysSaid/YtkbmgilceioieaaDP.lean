/- The walk of DeltaPlays. -/
import Derived.Test.YtkbmgilceioieaaDY
import Derived.Test.YtkbmgilceioieaaDU
import Derived.Test.YtkbmgilceioieaaDD
import Derived.Deep.CutRange
import Derived.Deep.CutBlock
import Derived.Outline
namespace Go.Proofs.Ytkbmgilceioieaa
open Go.RowKit

/-- The queue tells A; the reference's timers are r, in a row apart from it. -/
def DM (B : Nat) (w : World) (q : Nat) (A : List (Int × Int)) (v : Value) (r : List (Int × Int)) : Prop :=
  ∃ L, QAt w q L ∧ tolds 0 L = A ∧ OkA A ∧ B ≤ q ∧ (∀ t ∈ L, B ≤ t.b) ∧ w.ownsRow B 73 2 v r.length (rowI (flatA r)) ∧ ∀ g, v.ownBlock = some g → g ≠ q ∧ ∀ t ∈ L, t.b ≠ g

theorem DM.ok {B q : Nat} {A r : List (Int × Int)} {v : Value} {w : World} (h : DM B w q A v r) : OkA A := by obtain ⟨L, -, -, h, -⟩ := h; exact h
theorem DM.start (w : World) (B : Nat) (hB : B ≤ w.heap.size) : DM B (w.alloc (.cells #[.pointer none] 57)) w.heap.size [] (.slice none 0 0) [] :=
  ⟨[], ⟨World.alloc_heap_new _ _, trivial, by simp [bsL]⟩, rfl, okA_nil, hB, by simp, World.ownsRow_nil _ _ _ _, fun g e => by cases e⟩
theorem DM.below {B n q : Nat} {A r : List (Int × Int)} {v : Value} {w w' : World} (h : DM B w q A v r) (hb : Below n w w') (hn : w.heap.size ≤ n) : DM B w' q A v r := by
  obtain ⟨L, h1, h2, h3, h4, h5, h6, h7⟩ := h
  exact ⟨L, h1.below hb (Nat.lt_of_lt_of_le h1.lt.1 hn) (fun t ht => Nat.lt_of_lt_of_le (h1.lt.2 t ht) hn), h2, h3, h4, h5, own_below h6 hb hn, h7⟩
/-- The queue's step. -/
theorem DM.next {B q : Nat} {A A' r : List (Int × Int)} {v : Value} {w w' : World} {L : List Tm} (h1 : QAt w q L) (h2 : tolds 0 L = A) (h4 : B ≤ q) (h5 : ∀ t ∈ L, B ≤ t.b) (h6 : w.ownsRow B 73 2 v r.length (rowI (flatA r)))
    (h7 : ∀ g, v.ownBlock = some g → g ≠ q ∧ ∀ t ∈ L, t.b ≠ g) (hs : B ≤ w.heap.size) (hok : OkA A') (hN : Next w q L A' w') : DM B w' q A' v r ∧ Below B w w' := by
  obtain ⟨⟨L', -⟩, hb⟩ := DQ.next h1 h2 h4 h5 hs hok hN
  obtain ⟨L2, q2, e2, c2, b2⟩ := hN
  refine ⟨⟨L2, q2, e2, hok, h4, fun t ht => ?_, own_ch h6 c2 fun g hg hT => ?_, fun g hg => ⟨(h7 g hg).1, fun t ht e => ?_⟩⟩, hb⟩
  · rcases b2 t ht with h | h
    · obtain ⟨u, hu, e⟩ := List.mem_map.1 h
      rw [← e]; exact h5 u hu
    · omega
  · rcases hT with hT | hT
    · exact (h7 g hg).1 hT
    · obtain ⟨u, hu, e⟩ := List.mem_map.1 hT
      exact (h7 g hg).2 u hu e
  · rcases b2 t ht with h | h
    · obtain ⟨u, hu, e'⟩ := List.mem_map.1 h
      exact (h7 g hg).2 u hu (e'.trans e)
    · have := (h6.lt g hg).2; omega
/-- The reference's step: its new row lies in memory of its own. -/
theorem DM.fresh {B q : Nat} {A r r' : List (Int × Int)} {v v' : Value} {w w' : World} (h : DM B w q A v r) (hs : B ≤ w.heap.size) (hb : Below w.heap.size w w') (ho : w'.ownsRow w.heap.size 73 2 v' r'.length (rowI (flatA r'))) : DM B w' q A v' r' := by
  obtain ⟨L, h1, h2, h3, h4, h5, h6, h7⟩ := h
  refine ⟨L, h1.new hb, h2, h3, h4, h5, own_mono ho hs, fun g hg => ?_⟩
  have := (ho.lt g hg).1
  exact ⟨fun e => by have := h1.lt.1; omega, fun t ht e => by have := h1.lt.2 t ht; omega⟩
theorem DM.row {B q : Nat} {A r : List (Int × Int)} {v : Value} {w : World} (h : DM B w q A v r) : ∃ sp g cap, v = .slice sp r.length cap ∧ RowT w sp g r := by
  obtain ⟨L, -, -, -, -, -, h6, -⟩ := h
  obtain ⟨sp, g, cap, e, h, -⟩ := own_rowT h6
  exact ⟨sp, g, cap, e, h⟩

/-- The calls' contracts over both. -/
theorem add_dm {B q : Nat} {A r : List (Int × Int)} {v : Value} {w : World} (id t : Int) (hs : B ≤ w.heap.size) (h : DM B w q A v r) :
    Calls Try.prog 31 #[.pointer (some ⟨q, 0, none⟩), .int .i64 id, .int .i64 t] w fun e w' => e = .returned (.bool (fitsA id t A)) ∧ DM B w' q (addA id t A) v r ∧ Below B w w' := by
  obtain ⟨L, h1, h2, h3, h4, h5, h6, h7⟩ := h
  refine (add_any q L A id t w h1 h2 h3).mono ?_
  rintro e w' ⟨rfl, hN⟩
  exact ⟨rfl, DM.next h1 h2 h4 h5 h6 h7 hs (okA_add h3) hN⟩
theorem cancel_dm {B q : Nat} {A r : List (Int × Int)} {v : Value} {w : World} (id : Int) (hs : B ≤ w.heap.size) (h : DM B w q A v r) :
    Calls Try.prog 26 #[.pointer (some ⟨q, 0, none⟩), .int .i64 id] w fun e w' => e = .returned (.bool (inA id A)) ∧ DM B w' q (cancelA id A) v r ∧ Below B w w' := by
  have h' := h
  obtain ⟨L, h1, h2, h3, h4, h5, h6, h7⟩ := h
  cases hi : inA id A with
  | true =>
    refine (cancel_yes q L A id w h1 h2 h3 hi).mono ?_
    rintro e w' ⟨rfl, hN, -⟩
    exact ⟨rfl, DM.next h1 h2 h4 h5 h6 h7 hs (okA_cancel h3) hN⟩
  | false =>
    refine (cancel_no q L id w h1 (not_of_in h2 hi)).mono ?_
    rintro e w' ⟨rfl, rfl⟩
    rw [cancelA_none hi]
    exact ⟨rfl, h', Below.refl _ _⟩
theorem tick_dm {B q : Nat} {A r : List (Int × Int)} {v : Value} {w : World} (hs : B ≤ w.heap.size) (h : DM B w q A v r) :
    Calls Try.prog 28 #[.pointer (some ⟨q, 0, none⟩)] w fun e w' => ∃ sp g cap, e = .returned (.slice sp (dueA A).length cap) ∧ IsRow w' sp g (dueA A) ∧ (0 < (dueA A).length → g < w'.heap.size) ∧ DM B w' q (tickA A) v r ∧ Below B w w' := by
  obtain ⟨L, h1, h2, h3, h4, h5, h6, h7⟩ := h
  refine (tick_any q L A w h1 h2 h3).mono ?_
  rintro e w' ⟨u, rfl, ho, hN⟩
  obtain ⟨sp, g, cap, rfl, g2, g3⟩ := own_row ho
  exact ⟨sp, g, cap, rfl, g2, fun h0 => (g3 h0).2, DM.next h1 h2 h4 h5 h6 h7 hs (okA_tick h3) hN⟩
theorem due_dm {B q : Nat} {A r : List (Int × Int)} {v : Value} {w : World} (id : Int) (h : DM B w q A v r) :
    Calls Try.prog 33 #[.pointer (some ⟨q, 0, none⟩), .int .i64 id] w fun e w' => e = .returned (.tuple #[.int .i64 (lookT id A), .bool (inA id A)]) ∧ DM B w' q A v r ∧ Below w.heap.size w w' := by
  have h' := h
  obtain ⟨L, h1, h2, h3, -⟩ := h
  refine (due_any q L A id w h1 h2 h3).mono ?_
  rintro e w' ⟨rfl, hb⟩
  exact ⟨rfl, h'.below hb (Nat.le_refl _), hb⟩
theorem len_dm {B q : Nat} {A r : List (Int × Int)} {v : Value} {w : World} (h : DM B w q A v r) :
    Calls Try.prog 34 #[.pointer (some ⟨q, 0, none⟩)] w fun e w' => e = .returned (.int .i64 A.length) ∧ w = w' := by
  obtain ⟨L, h1, h2, h3, -⟩ := h
  have hl : L.length = A.length := by rw [← h2, tolds_len]
  have := len_any q L w h1 (by rw [hl]; exact h3.len)
  rw [hl] at this
  exact this
theorem all_dm {B q : Nat} {A r : List (Int × Int)} {v : Value} {w : World} (h : DM B w q A v r) :
    Calls Try.prog 35 #[.pointer (some ⟨q, 0, none⟩)] w fun e w' => ∃ sp g cap, e = .returned (.slice sp (flatA A).length cap) ∧ IsRow w' sp g (flatA A) ∧ (0 < (flatA A).length → g < w'.heap.size) ∧ DM B w' q A v r ∧ Below w.heap.size w w' := by
  have h' := h
  obtain ⟨L, h1, h2, h3, -⟩ := h
  refine (all_any q L A w h1 h2 h3).mono ?_
  rintro e w' ⟨u, rfl, ho, hb⟩
  rw [← flatA_len] at ho
  obtain ⟨sp, g, cap, rfl, g2, g3⟩ := own_row ho
  exact ⟨sp, g, cap, rfl, g2, fun h0 => (g3 h0).2, h'.below hb (Nat.le_refl _), hb⟩
theorem refrow_dm {B q : Nat} {A r : List (Int × Int)} {sp : Option Addr} {n cap : Nat} {w : World} (h : DM B w q A (.slice sp n cap) r) (hR : Rel A r) :
    Calls Try.prog 36 #[.slice sp n cap] w fun e w' => ∃ sp' g' cap', e = .returned (.slice sp' (flatA A).length cap') ∧ IsRow w' sp' g' (flatA A) ∧ DM B w' q A (.slice sp n cap) r ∧ Below w.heap.size w w' := by
  have h' := h
  obtain ⟨spx, g, capx, e, hT⟩ := h.row
  injection e with e1 e2 e3
  subst e1 e2 e3
  have hok := h.ok
  have key : Calls Try.prog 36 #[.slice sp r.length cap] w (RowGives w r) := by
    by_cases h0 : 0 < r.length
    · obtain rfl := hT.1 h0
      exact refrow_some r g cap w hT (by rw [← hR.len]; have := hok.len; omega) h0
    · obtain rfl : r = [] := List.length_eq_zero_iff.1 (by omega)
      exact refrow_nil sp cap w
  refine key.mono ?_
  rintro e w' ⟨u, O, rfl, ho, hb, hS⟩
  obtain rfl := hS.end hR hok.sorted
  rw [← flatA_len] at ho
  obtain ⟨sp', g', cap', rfl, g2, -⟩ := own_row ho
  exact ⟨sp', g', cap', rfl, g2, h'.below hb (Nat.le_refl _), hb⟩

/-- Both sides' states behind k calls. -/
def kindOf (x : Int) : Int := Int.tmod (Int.tmod x 5 + 5) 5
def stA (O : List (Int × Int × Int)) : Nat → List (Int × Int)
  | 0 => []
  | k + 1 => if kindOf (opAt O k).1 = 2 then cancelA (opAt O k).2.1 (stA O k) else if kindOf (opAt O k).1 = 3 ∨ kindOf (opAt O k).1 = 4 then tickA (stA O k) else addA (opAt O k).2.1 (opAt O k).2.2 (stA O k)
def stR (O : List (Int × Int × Int)) : Nat → List (Int × Int)
  | 0 => []
  | k + 1 => if kindOf (opAt O k).1 = 2 then cancelA (opAt O k).2.1 (stR O k) else if kindOf (opAt O k).1 = 3 ∨ kindOf (opAt O k).1 = 4 then restR (stR O k) else raddA (opAt O k).2.1 (opAt O k).2.2 (stR O k)
theorem st_rel (O : List (Int × Int × Int)) (k : Nat) : OkA (stA O k) ∧ Rel (stA O k) (stR O k) := by
  induction k with
  | zero => exact ⟨okA_nil, fun x => rfl⟩
  | succ k ih =>
    unfold stA stR
    split
    · exact ⟨okA_cancel ih.1, ih.2.cancel _⟩
    · split
      · exact ⟨okA_tick ih.1, ih.2.tick ih.1⟩
      · exact ⟨okA_add ih.1, ih.2.add ih.1 _ _⟩
/-- The last of a number among the first k. -/
def lk (id : Int) (r : List (Int × Int)) : Nat → Int × Bool
  | 0 => (0, false)
  | k + 1 => if aI r k = id then (aT r k, true) else lk id r k
theorem lk_spec (id : Int) (r : List (Int × Int)) (k : Nat) : (lk id r k = (0, false) ∧ ∀ j, j < k → aI r j ≠ id) ∨ ∃ j, j < k ∧ aI r j = id ∧ lk id r k = (aT r j, true) := by
  induction k with
  | zero => exact .inl ⟨rfl, fun j hj => by omega⟩
  | succ k ih =>
    unfold lk
    by_cases e : aI r k = id
    · rw [if_pos e]; exact .inr ⟨k, by omega, e, rfl⟩
    · rw [if_neg e]
      rcases ih with ⟨h1, h2⟩ | ⟨j, hj, h1, h2⟩
      · refine .inl ⟨h1, fun j hj => ?_⟩
        by_cases ej : j = k
        · rw [ej]; exact e
        · exact h2 j (by omega)
      · exact .inr ⟨j, by omega, h1, h2⟩
theorem uniq_id {A : List (Int × Int)} (hnd : (A.map (·.1)).Nodup) {id a b : Int} (ha : (id, a) ∈ A) (hb : (id, b) ∈ A) : a = b := by
  induction A with
  | nil => simp at ha
  | cons x A ih =>
    rw [List.map_cons, List.nodup_cons] at hnd
    rcases List.mem_cons.1 ha with ea | ha
    · rcases List.mem_cons.1 hb with eb | hb
      · rw [← ea] at eb; injection eb with _ e; exact e.symm
      · exact absurd (List.mem_map.2 ⟨(id, b), hb, by rw [← ea]⟩) hnd.1
    · rcases List.mem_cons.1 hb with eb | hb
      · exact absurd (List.mem_map.2 ⟨(id, a), ha, by rw [← eb]⟩) hnd.1
      · exact ih hnd.2 ha hb
theorem look_mem {id : Int} {A : List (Int × Int)} (h : inA id A = true) : (id, lookT id A) ∈ A := by
  unfold lookT
  cases hf : A.find? (fun p => decide (p.1 = id)) with
  | none =>
    rw [List.find?_eq_none] at hf
    obtain ⟨p, hp, e⟩ := List.mem_map.1 ((inA_iff id A).1 h)
    exact absurd e (by simpa using hf p hp)
  | some p =>
    have h1 := List.mem_of_find?_eq_some hf
    have h2 := List.find?_some hf
    simp at h2
    subst h2
    exact h1
theorem lk_all {A r : List (Int × Int)} (hok : OkA A) (hR : Rel A r) (id : Int) : lk id r r.length = (lookT id A, inA id A) := by
  rcases lk_spec id r r.length with ⟨h1, h2⟩ | ⟨j, hj, h1, h2⟩
  · rw [h1]
    obtain ⟨-, e2⟩ := look_none h2
    rw [← hR.inA] at e2
    have e1 : lookT id A = 0 := (look_none (fun j hj e => by
      have : inA id A = true := (inA_iff id A).2 (List.mem_map.2 ⟨_, mem_atA A j hj, e⟩)
      rw [e2] at this; cases this)).1
    rw [e1, e2]
  · rw [h2]
    have hm : (id, aT r j) ∈ A := by
      rw [hR.mem]
      have := mem_atA r j hj
      rwa [h1] at this
    have hi : inA id A = true := (inA_iff id A).2 (List.mem_map.2 ⟨_, hm, rfl⟩)
    rw [hi, uniq_id hok.nd hm (look_mem hi)]
theorem rest_bounds {A r : List (Int × Int)} (hok : OkA A) (hR : Rel A r) : ∀ p ∈ r, 1 ≤ p.2 ∧ p.2 ≤ 65536 := fun p hp =>
  ⟨hok.lo p ((hR.mem p).2 hp), hok.hi p ((hR.mem p).2 hp)⟩
end Go.Proofs.Ytkbmgilceioieaa
