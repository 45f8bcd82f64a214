/- Rows of cells, slices of ints and where they lie. No statement about the program. -/
import Derived.Test.YtbdcjfkplopbiaaDoorMList
import Derived.Test.YtbdcjfkplopbiaaDoorVary
import Derived.Test.YtbdcjfkplopbiaaDoorBox
import Derived.Laws.ResultCell
import Derived.Deep.MidRow
namespace Go.Proofs.YtbdcjfkplopbiaaDoor
open Go.RowKit

def RowAt (w : World) (b : Nat) (t : TypeId) (cs : Array Value) : Prop := w.heap[b]? = some (.cells cs t (0, 0))
theorem ch_setRow (w : World) (A : Nat) (cs : Array Value) : Ch (fun j => j = A) w (w.setRow A cs) :=
  ⟨rfl, rfl, rfl, by simp [World.setRow], fun k _ hn => setRow_other w A k cs hn⟩
theorem RowAt.lt {w : World} {b : Nat} {t : TypeId} {cs : Array Value} (h : RowAt w b t cs) : b < w.heap.size := (Array.getElem?_eq_some_iff.1 h).1
theorem RowAt.new {w w' : World} {b : Nat} {t : TypeId} {cs : Array Value} (h : RowAt w b t cs) (hb : Below w.heap.size w w') : RowAt w' b t cs := (hb.block b h.lt).trans h
theorem RowAt.keep {T : Nat → Prop} {w w' : World} {b : Nat} {t : TypeId} {cs : Array Value} (h : RowAt w b t cs) (c : Ch T w w') (hT : ¬ T b) : RowAt w' b t cs := (c.block b h.lt hT).trans h
theorem RowAt.put {w : World} {b : Nat} {t : TypeId} {cs vs : Array Value} (h : RowAt w b t cs) : RowAt (w.setRow b vs) b t vs := setRow_heap _ _ _ _ t (0, 0) h
theorem RowAt.mk (w : World) (t : TypeId) (cs : Array Value) : RowAt (w.alloc (.cells cs t)) w.heap.size t cs := heap_alloc_new w _
theorem RowAt.cell {w : World} {b : Nat} {t : TypeId} {cs : Array Value} (h : RowAt w b t cs) (j : Nat) : w.cell? ⟨b, j, none⟩ = cs[j]? := cell_of_row w b j _ _ _ h
theorem RowAt.fr {w : World} {b : Nat} {t : TypeId} {cs : Array Value} (h : RowAt w b t cs) (j : Nat) : w.frozen? ⟨b, j, none⟩ = false := frozen_of_row w b j _ _ h
theorem RowAt.setC {w : World} {b : Nat} {t : TypeId} {cs : Array Value} (h : RowAt w b t cs) (j : Nat) (v : Value) : RowAt (w.setCell ⟨b, j, none⟩ v) b t (cs.setIfInBounds j v) := heap_setCell_same w b j cs t v h
theorem Lies.keep {T : Nat → Prop} {w w' : World} {sp : Option Addr} {b off : Nat} {l : List Int} (h : Lies w sp b off l) (hc : Ch T w w') (hT : 0 < l.length → ¬ T b) : Lies w' sp b off l :=
  ⟨fun h0 => ⟨(h.1 h0).1, Nat.lt_of_lt_of_le (h.1 h0).2 hc.size⟩, fun k hk => hc.cell (h.2 k hk) (hT (by omega))⟩
/-- A slice's ints, and that they lie in no block of T. -/
structure SI (T : Nat → Prop) (w : World) (sp : Option Addr) (cap : Nat) (L : List Int) : Prop where
  lies : ∃ g off, Lies w sp g off L ∧ (0 < L.length → ¬ T g)
  cap : L.length ≤ cap
theorem SI.keep {T : Nat → Prop} {w w' : World} {sp : Option Addr} {cap : Nat} {L : List Int} (h : SI T w sp cap L) (hc : Ch T w w') : SI T w' sp cap L := by
  obtain ⟨g, off, h1, h2⟩ := h.lies
  exact ⟨⟨g, off, h1.keep hc h2, h2⟩, h.cap⟩
theorem SI.new {T : Nat → Prop} {w w' : World} {sp : Option Addr} {cap : Nat} {L : List Int} (h : SI T w sp cap L) (hb : Below w.heap.size w w') : SI T w' sp cap L := h.keep (Ch.new hb)
theorem SI.none (T : Nat → Prop) (w : World) : SI T w none 0 [] := ⟨⟨0, 0, ⟨fun h => by simp at h, fun k hk => by simp at hk⟩, fun h => by simp at h⟩, Nat.le_refl _⟩
/-- New blocks may be put among those that it lies in none of. -/
theorem SI.more {T T' : Nat → Prop} {w : World} {sp : Option Addr} {cap : Nat} {L : List Int} (h : SI T w sp cap L) (hT : ∀ j, j < w.heap.size → T' j → T j) : SI T' w sp cap L := by
  obtain ⟨g, off, h1, h2⟩ := h.lies
  exact ⟨⟨g, off, h1, fun h0 ht => h2 h0 (hT g (h1.1 h0).2 ht)⟩, h.cap⟩
theorem SI.of_own {T : Nat → Prop} {w : World} {base : Nat} {sp : Option Addr} {n cap : Nat} {L : List Int} (h : w.ownsRow base 3 1 (.slice sp n cap) n (rowI L)) (hn : n = L.length) (hT : ∀ j, T j → j < base) : SI T w sp cap L := by
  subst hn
  obtain ⟨sp', g, cap', hv, h1, h2⟩ := own_ints h rfl
  injection hv with e1 _ e2
  subst e1 e2
  refine ⟨⟨g, 0, ⟨fun h0 => ⟨(h1 h0).1, (h1 h0).2.2⟩, fun k hk => by rw [Nat.zero_add]; exact h2 k hk⟩, fun h0 ht => by have := hT g ht; have := (h1 h0).2.1; omega⟩, ?_⟩
  rcases h.2 with ⟨hv, h0⟩ | ⟨g, cap', cur, hv, _, _, hc, _⟩
  · omega
  · injection hv with _ _ e; omega
theorem SI.src {T : Nat → Prop} {w : World} {sp : Option Addr} {cap : Nat} {L : List Int} (h : SI T w sp cap L) : ∀ ad, sp = some ad → ∀ j u, (rowI L)[j]? = some u → w.cell? (ad.add j) = some u := by
  obtain ⟨g, off, h1, _⟩ := h.lies
  intro ad ha j u hu
  obtain ⟨hj, rfl⟩ := rowI_at _ _ _ hu
  have hs2 := (h1.1 (by omega)).1
  rw [ha] at hs2
  injection hs2 with hs2
  subst hs2
  rw [Addr.add_lit]
  exact h1.2 j hj
theorem SI.addr {T : Nat → Prop} {w : World} {sp : Option Addr} {cap : Nat} {L : List Int} (h : SI T w sp cap L) (h0 : 0 < L.length) : ∃ b o, sp = some ⟨b, o, Option.none⟩ ∧ ¬ T b ∧ b < w.heap.size ∧ ∀ k, k < L.length → w.cell? ⟨b, o + k, Option.none⟩ = some (.int .i64 (nth L k)) := by
  obtain ⟨g, off, h1, h2⟩ := h.lies
  exact ⟨g, off, (h1.1 h0).1, h2 h0, (h1.1 h0).2, h1.2⟩
theorem SI.no {T : Nat → Prop} {w : World} {sp : Option Addr} {cap : Nat} {L : List Int} (h : SI T w sp cap L) : sp = Option.none → L.length = 0 := by
  intro h0
  rcases Nat.eq_zero_or_pos L.length with e | e
  · exact e
  · obtain ⟨b, o, hb, _⟩ := h.addr e
    rw [h0] at hb
    cases hb
theorem results_rest {P : Program} {fn : Func} {p : Tmp} {ty : TypeId} {us : List Tmp} (h : fn.results = (ResultVar.cell p ty :: us.map ResultVar.tmp).toArray) (tmps : Array Value) (w : World) (g : Nat) (t : TypeId) (cs : Array Value) (d : TypeDesc) (hp : tmps.getD p undef = .pointer (some ⟨g, 0, none⟩))
    (hg : w.heap[g]? = some (.cells cs t (0, 0))) (hu : P.underlying ty = some d) (hd : (match d with | .struct _ | .array _ _ => true | _ => false) = true) (hi : (P.info? ty).map (·.size) = some cs.size) (h0 : us.length = 1 ∨ us.length = 2 ∨ us.length = 3) :
    (results fn tmps).run P w = .ok (.tuple (.agg cs :: us.map fun u => tmps.getD u undef).toArray) w := by
  have hr := run_loadVar_row (P := P) w g t ty cs (0, 0) d hg hu hd hi
  rw [Array.getD_eq_getD_getElem?] at hp
  rcases h0 with h0 | h0 | h0
  · obtain ⟨u, rfl⟩ : ∃ u, us = [u] := by match us, h0 with | [u], _ => exact ⟨u, rfl⟩
    simp only [results, h]
    simp [Result.andThen, hp, asAddr, hr]
  · obtain ⟨u, v, rfl⟩ : ∃ u v, us = [u, v] := by match us, h0 with | [u, v], _ => exact ⟨u, v, rfl⟩
    simp only [results, h]
    simp [Result.andThen, hp, asAddr, hr]
  · obtain ⟨u, v, x, rfl⟩ : ∃ u v x, us = [u, v, x] := by match us, h0 with | [u, v, x], _ => exact ⟨u, v, x, rfl⟩
    simp only [results, h]
    simp [Result.andThen, hp, asAddr, hr]
end Go.Proofs.YtbdcjfkplopbiaaDoor
