/- Where a queue of timers lies in memory, and what a store into it does. -/
import Derived.Test.YtkbmgilceioieaaDMath
import Derived.Test.YtkbmgilceioieaaFoot
import Derived.Test.YtkbmgilceioieaaProg
import Derived.OneCell
namespace Go.Proofs.Ytkbmgilceioieaa
open Go.RowKit

def hdE : List Tm → Option Addr → Option Addr
  | [], e => e
  | t :: _, _ => some ⟨t.b, 0, none⟩
theorem hdE_nil (e : Option Addr) : hdE [] e = e := rfl
theorem hdE_cons (t : Tm) (r : List Tm) (e : Option Addr) : hdE (t :: r) e = some ⟨t.b, 0, none⟩ := rfl
/-- The timers lie in w, each leading to the next, the last to e. -/
def Seg (w : World) : List Tm → Option Addr → Prop
  | [], _ => True
  | t :: r, e => w.heap[t.b]? = some (.cells #[.int .i64 t.id, .int .i64 t.af, .pointer (hdE r e)] 105 (0, 0)) ∧ Seg w r e
/-- What points to what stands behind xs. -/
def lnk (q : Nat) (xs : List Tm) : Addr := match xs.getLast? with | none => ⟨q, 0, none⟩ | some t => ⟨t.b, 2, none⟩
def bsL (L : List Tm) : List Nat := L.map (·.b)

theorem lnk_nil (q : Nat) : lnk q [] = ⟨q, 0, none⟩ := rfl
theorem lnk_snoc (q : Nat) (xs : List Tm) (t : Tm) : lnk q (xs ++ [t]) = ⟨t.b, 2, none⟩ := by simp [lnk]

structure QAt (w : World) (q : Nat) (L : List Tm) : Prop where
  q0 : w.heap[q]? = some (.cells #[.pointer (hdE L none)] 57 (0, 0))
  seg : Seg w L none
  nd : (q :: bsL L).Nodup

theorem hdE_append (xs ys : List Tm) (e : Option Addr) : hdE (xs ++ ys) e = hdE xs (hdE ys e) := by cases xs <;> rfl

theorem seg_append {w : World} {xs ys : List Tm} {e : Option Addr} : Seg w (xs ++ ys) e ↔ Seg w xs (hdE ys e) ∧ Seg w ys e := by
  induction xs with
  | nil => simp [Seg]
  | cons t r ih => simp only [List.cons_append, Seg, hdE_append, ih, and_assoc]

theorem seg_same {w w' : World} {L : List Tm} {e : Option Addr} (h : Seg w L e) (hb : ∀ t ∈ L, w'.heap[t.b]? = w.heap[t.b]?) : Seg w' L e := by
  induction L with
  | nil => trivial
  | cons t r ih => exact ⟨by rw [hb t (List.mem_cons_self ..)]; exact h.1, ih h.2 fun t ht => hb t (List.mem_cons_of_mem _ ht)⟩

theorem seg_lt {w : World} {L : List Tm} {e : Option Addr} (h : Seg w L e) : ∀ t ∈ L, t.b < w.heap.size := by
  induction L with
  | nil => simp
  | cons t r ih =>
    intro u hu
    rcases List.mem_cons.1 hu with rfl | hu
    · exact lt_of_block h.1
    · exact ih h.2 u hu

/-- A node in the middle. -/
theorem seg_mid {w : World} {xs : List Tm} {t : Tm} {ys : List Tm} {e : Option Addr} (h : Seg w (xs ++ t :: ys) e) :
    w.heap[t.b]? = some (.cells #[.int .i64 t.id, .int .i64 t.af, .pointer (hdE ys e)] 105 (0, 0)) := (seg_append.1 h).2.1

theorem block_cells {w : World} {b : Nat} {x y z : Value} {t : TypeId} (h : w.heap[b]? = some (.cells #[x, y, z] t (0, 0))) :
    w.cell? ⟨b, 0, none⟩ = some x ∧ w.cell? ⟨b, 1, none⟩ = some y ∧ w.cell? ⟨b, 2, none⟩ = some z ∧ w.frozen? ⟨b, 0, none⟩ = false ∧ w.frozen? ⟨b, 1, none⟩ = false ∧ w.frozen? ⟨b, 2, none⟩ = false := by
  simp [World.cell?, World.frozen?, h]

theorem set_block {w : World} {b o : Nat} {cs : Array Value} {v : Value} {t : TypeId} {m : Nat × Nat} (h : w.heap[b]? = some (.cells cs t m)) :
    (w.setCell ⟨b, o, none⟩ v).heap[b]? = some (.cells (cs.modify o fun _ => v) t m) ∨ (w.setCell ⟨b, o, none⟩ v).heap[b]? = some (.cells (cs.setIfInBounds o v) t m) := by
  have hlt := lt_of_block h
  have h' : w.heap[b] = .cells cs t m := by simpa [Array.getElem?_eq_getElem hlt] using h
  right
  show (w.heap.modify b _)[b]? = _
  rw [Array.getElem?_eq_getElem (by simpa using hlt), Array.getElem_modify_self, h']
  rfl

theorem set_one {w : World} {b : Nat} {x y z v : Value} {t : TypeId} (h : w.heap[b]? = some (.cells #[x, y, z] t (0, 0))) : (w.setCell ⟨b, 1, none⟩ v).heap[b]? = some (.cells #[x, v, z] t (0, 0)) := by
  rcases set_block (o := 1) (v := v) h with h | h <;> rw [h] <;> rfl
theorem set_two {w : World} {b : Nat} {x y z v : Value} {t : TypeId} (h : w.heap[b]? = some (.cells #[x, y, z] t (0, 0))) : (w.setCell ⟨b, 2, none⟩ v).heap[b]? = some (.cells #[x, y, v] t (0, 0)) := by
  rcases set_block (o := 2) (v := v) h with h | h <;> rw [h] <;> rfl

namespace QAt
variable {w w' : World} {q : Nat} {L xs ys zs : List Tm} {t u : Tm}

theorem lt (h : QAt w q L) : q < w.heap.size ∧ ∀ t ∈ L, t.b < w.heap.size := ⟨lt_of_block h.q0, seg_lt h.seg⟩

theorem link (h : QAt w q (xs ++ ys)) : w.cell? (lnk q xs) = some (.pointer (hdE ys none)) ∧ w.frozen? (lnk q xs) = false := by
  rcases List.eq_nil_or_concat xs with rfl | ⟨zs, u, rfl⟩
  · have := h.q0
    rw [lnk_nil]
    exact ⟨by simpa [hdE] using cell_of_one this, free_of_one this⟩
  · rw [List.concat_eq_append] at h ⊢
    rw [lnk_snoc]
    rw [List.append_assoc] at h
    have b := block_cells (seg_mid (xs := zs) (t := u) (ys := ys) h.seg)
    exact ⟨b.2.2.1, b.2.2.2.2.2⟩

theorem mid (h : QAt w q (xs ++ t :: ys)) : w.cell? ⟨t.b, 0, none⟩ = some (.int .i64 t.id) ∧ w.cell? ⟨t.b, 1, none⟩ = some (.int .i64 t.af) ∧ w.cell? ⟨t.b, 2, none⟩ = some (.pointer (hdE ys none)) ∧
    w.frozen? ⟨t.b, 0, none⟩ = false ∧ w.frozen? ⟨t.b, 1, none⟩ = false ∧ w.frozen? ⟨t.b, 2, none⟩ = false := block_cells (seg_mid h.seg)

theorem same (h : QAt w q L) (hq : w'.heap[q]? = w.heap[q]?) (hb : ∀ t ∈ L, w'.heap[t.b]? = w.heap[t.b]?) : QAt w' q L :=
  ⟨by rw [hq]; exact h.q0, seg_same h.seg hb, h.nd⟩
theorem ch {T : Nat → Prop} (h : QAt w q L) (c : Ch T w w') (hq : ¬ T q) (hb : ∀ t ∈ L, ¬ T t.b) : QAt w' q L :=
  h.same (c.block q h.lt.1 hq) fun t ht => c.block _ (h.lt.2 t ht) (hb t ht)
theorem below {n : Nat} (h : QAt w q L) (c : Below n w w') (hq : q < n) (hb : ∀ t ∈ L, t.b < n) : QAt w' q L :=
  h.same (c.block q hq) fun t ht => c.block _ (hb t ht)
theorem new (h : QAt w q L) (c : Below w.heap.size w w') : QAt w' q L := h.below c h.lt.1 h.lt.2
theorem drew (h : QAt w q L) : QAt w.drew q L := h.same rfl fun _ _ => rfl

theorem nd_parts (h : QAt w q (xs ++ t :: ys)) : (∀ u ∈ xs, u.b ≠ t.b) ∧ (∀ u ∈ ys, u.b ≠ t.b) ∧ q ≠ t.b ∧ (q :: bsL (xs ++ ys)).Nodup ∧ (∀ u ∈ xs ++ ys, u.b ≠ q) := by
  have h := h.nd
  unfold bsL at *
  rw [List.nodup_cons, List.map_append, List.map_cons, List.nodup_append, List.nodup_cons] at h
  obtain ⟨h0, h1, ⟨h2, h3⟩, h4⟩ := h
  rw [List.mem_append, List.mem_cons] at h0
  refine ⟨fun u hu => h4 _ (List.mem_map.2 ⟨u, hu, rfl⟩) _ (List.mem_cons_self ..), fun u hu e => h2 (List.mem_map.2 ⟨u, hu, e⟩), fun e => h0 (.inr (.inl e)), ?_, ?_⟩
  · rw [List.nodup_cons, List.map_append, List.nodup_append, List.mem_append]
    exact ⟨fun h => h0 (h.elim .inl fun h => .inr (.inr h)), h1, h3, fun a ha b hb => h4 a ha b (List.mem_cons_of_mem _ hb)⟩
  · intro u hu e
    rcases List.mem_append.1 hu with hu | hu
    · exact h0 (.inl (List.mem_map.2 ⟨u, hu, e⟩))
    · exact h0 (.inr (.inr (List.mem_map.2 ⟨u, hu, e⟩)))

/-- A difference is turned. -/
theorem setAf (h : QAt w q (xs ++ u :: zs)) (a : Int) : QAt (w.setCell ⟨u.b, 1, none⟩ (.int .i64 a)) q (xs ++ { u with af := a } :: zs) := by
  obtain ⟨n1, n2, n3, -, -⟩ := h.nd_parts
  have ho : ∀ k, k ≠ u.b → (w.setCell ⟨u.b, 1, none⟩ (.int .i64 a)).heap[k]? = w.heap[k]? := fun k hk => Below.heap_setCell _ _ _ _ hk
  have hs := seg_append.1 h.seg
  refine ⟨?_, seg_append.2 ⟨seg_same hs.1 fun t ht => ho _ (n1 t ht), set_one (seg_mid h.seg), seg_same hs.2.2 fun t ht => ho _ (n2 t ht)⟩, ?_⟩
  · rw [ho _ n3, h.q0]; cases xs <;> rfl
  · have := h.nd
    unfold bsL at this ⊢
    simpa using this

/-- What leads to the rest is turned: what stands between goes. -/
theorem relink (h : QAt w q (xs ++ ys)) (hn : (q :: bsL (xs ++ zs)).Nodup) (hs : Seg w zs none) : QAt (w.setCell (lnk q xs) (.pointer (hdE zs none))) q (xs ++ zs) := by
  rcases List.eq_nil_or_concat xs with rfl | ⟨vs, u, rfl⟩
  · have ho : ∀ k, k ≠ q → (w.setCell (lnk q []) (.pointer (hdE zs none))).heap[k]? = w.heap[k]? := fun k hk => Below.heap_setCell _ _ _ _ hk
    refine ⟨one_setCell h.q0, seg_same hs fun t ht => ho _ fun e => ?_, hn⟩
    rw [List.nodup_cons] at hn
    exact hn.1 (by unfold bsL; exact List.mem_map.2 ⟨t, by simpa using ht, e⟩)
  · rw [List.concat_eq_append] at *
    rw [lnk_snoc]
    rw [List.append_assoc] at h
    have h' : QAt w q (vs ++ u :: ys) := h
    obtain ⟨n1, n2, n3, -, -⟩ := h'.nd_parts
    have ho : ∀ k, k ≠ u.b → (w.setCell ⟨u.b, 2, none⟩ (.pointer (hdE zs none))).heap[k]? = w.heap[k]? := fun k hk => Below.heap_setCell _ _ _ _ hk
    have hg := seg_append.1 h'.seg
    refine ⟨?_, ?_, hn⟩
    · rw [ho _ n3, h.q0]; cases vs <;> rfl
    · rw [List.append_assoc]
      refine seg_append.2 ⟨seg_same hg.1 fun t ht => ho _ (n1 t ht), set_two (seg_mid h'.seg), seg_same hs fun t ht => ho _ fun e => ?_⟩
      unfold bsL at hn
      rw [List.nodup_cons, List.map_append, List.nodup_append] at hn
      exact hn.2.2.2 u.b (by simp) t.b (List.mem_map.2 ⟨t, ht, rfl⟩) e.symm

theorem unlink (h : QAt w q (xs ++ t :: ys)) : QAt (w.setCell (lnk q xs) (.pointer (hdE ys none))) q (xs ++ ys) :=
  h.relink h.nd_parts.2.2.2.1 (seg_append.1 h.seg).2.2

/-- A new timer is made and led to. -/
theorem insert (h : QAt w q (xs ++ ys)) (id a : Int) :
    QAt ((w.alloc (.cells #[.int .i64 id, .int .i64 a, .pointer (hdE ys none)] 105)).setCell (lnk q xs) (.pointer (some ⟨w.heap.size, 0, none⟩))) q (xs ++ ⟨w.heap.size, id, a⟩ :: ys) := by
  have hb : Below w.heap.size w (w.alloc (.cells #[.int .i64 id, .int .i64 a, .pointer (hdE ys none)] 105)) := (Below.refl _ _).alloc (Nat.le_refl _) _
  have h1 := h.new hb
  refine h1.relink (zs := ⟨w.heap.size, id, a⟩ :: ys) ?_ ⟨World.alloc_heap_new _ _, (seg_append.1 h1.seg).2⟩
  have hlt := h.lt
  have hnd := h.nd
  have hni : w.heap.size ∉ bsL (xs ++ ys) := fun hm => by
    obtain ⟨t, ht, e⟩ := List.mem_map.1 hm
    have := hlt.2 t ht; omega
  unfold bsL at *
  rw [List.map_append] at hni hnd ⊢
  rw [List.nodup_cons, List.nodup_append, List.mem_append] at hnd
  rw [List.map_cons, List.nodup_cons, List.nodup_append, List.nodup_cons, List.mem_append, List.mem_cons]
  rw [List.mem_append] at hni
  have hq : q ≠ w.heap.size := by omega
  refine ⟨?_, hnd.2.1, ⟨fun hm => hni (.inr hm), hnd.2.2.1⟩, ?_⟩
  · rintro (hm | hm | hm)
    · exact hnd.1 (.inl hm)
    · exact hq hm
    · exact hnd.1 (.inr hm)
  · intro a ha b hb
    rcases List.mem_cons.1 hb with rfl | hb
    · intro e
      have e' : a = w.heap.size := e
      exact hni (.inl (e' ▸ ha))
    · exact hnd.2.2.2 a ha b hb
end QAt

theorem lnk_in (q : Nat) (xs : List Tm) : (lnk q xs).block = q ∨ (lnk q xs).block ∈ bsL xs := by
  rcases List.eq_nil_or_concat xs with rfl | ⟨zs, u, rfl⟩
  · exact .inl rfl
  · rw [List.concat_eq_append, lnk_snoc]
    right; unfold bsL; simp
theorem lnk_spot (q : Nat) (xs : List Tm) : ∃ b o, lnk q xs = ⟨b, o, none⟩ := by
  unfold lnk; cases xs.getLast? <;> exact ⟨_, _, rfl⟩
end Go.Proofs.Ytkbmgilceioieaa
