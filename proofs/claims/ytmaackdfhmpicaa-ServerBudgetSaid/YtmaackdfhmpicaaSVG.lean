/- Slices of tasks that came in, what terms they make, and which of them may be. -/
import Derived.Test.YtmaackdfhmpicaaSVB
import Derived.Test.YtmaackdfhmpicaaJD
import Derived.Test.YtmaackdfhmpicaaZG
namespace Go.Proofs.Ytmaackdfhmpicaa
open Go.RowKit

/-- Where a slice of tasks lies. -/
structure TksAt (w : World) (V : Nat → Prop) (S : Src) (L : List TaskM) : Prop where
  sl : SlAt w V S L.length
  at_ : ∀ k, k < L.length → At w S.b (S.o + k * 11) (taskC (L.getD k default)) ∧ (L.getD k default).lon.length = 8
theorem TksAt.keep {V : Nat → Prop} {w w' : World} {S : Src} {l : List TaskM} (h : TksAt w V S l) (c : Ch V w w') : TksAt w' V S l :=
  ⟨h.sl.keep c, fun k hk => ⟨(h.at_ k hk).1.keep c (h.sl.at_ (by omega)).2.2, (h.at_ k hk).2⟩⟩
theorem TksAt.new {V : Nat → Prop} {w w' : World} {S : Src} {l : List TaskM} (h : TksAt w V S l) (hb : Below w.heap.size w w') : TksAt w' V S l := h.keep (Ch.new hb)
theorem take_getD {α : Type} [Inhabited α] (l : List α) {k i : Nat} (h : k < i) : (l.take i).getD k default = l.getD k default := by
  simp [List.getD_eq_getElem?_getD, h]
theorem TksAt.take {V : Nat → Prop} {w : World} {S : Src} {l : List TaskM} (h : TksAt w V S l) {i : Nat} (hi : i ≤ l.length) : TksAt w V S (l.take i) := by
  have hl : (l.take i).length = i := by rw [List.length_take]; omega
  refine ⟨⟨fun h0 => h.sl.at_ (by omega), by have := h.sl.sm; omega⟩, fun k hk => ?_⟩
  rw [hl] at hk
  rw [take_getD l hk]
  exact h.at_ k (by omega)
/-- A task's eleven cells. -/
theorem TksAt.cells {V : Nat → Prop} {w : World} {S : Src} {l : List TaskM} (h : TksAt w V S l) {k : Nat} (hk : k < l.length) :
    ∃ f : Nat → Int, (w.cell? ⟨S.b, S.o + k * 11, none⟩ = some (.int .i64 (l.getD k default).per) ∧ w.cell? ⟨S.b, S.o + k * 11 + 1, none⟩ = some (.int .i64 (l.getD k default).dl) ∧ w.cell? ⟨S.b, S.o + k * 11 + 2, none⟩ = some (.int .i64 (l.getD k default).cost)) ∧ (l.getD k default).lon = [f 0, f 1, f 2, f 3, f 4, f 5, f 6, f 7] ∧
      w.cell? ⟨S.b, S.o + k * 11 + 3, none⟩ = some (.int .i64 (f 0)) ∧ w.cell? ⟨S.b, S.o + k * 11 + 4, none⟩ = some (.int .i64 (f 1)) ∧ w.cell? ⟨S.b, S.o + k * 11 + 5, none⟩ = some (.int .i64 (f 2)) ∧ w.cell? ⟨S.b, S.o + k * 11 + 6, none⟩ = some (.int .i64 (f 3)) ∧
      w.cell? ⟨S.b, S.o + k * 11 + 7, none⟩ = some (.int .i64 (f 4)) ∧ w.cell? ⟨S.b, S.o + k * 11 + 8, none⟩ = some (.int .i64 (f 5)) ∧ w.cell? ⟨S.b, S.o + k * 11 + 9, none⟩ = some (.int .i64 (f 6)) ∧ w.cell? ⟨S.b, S.o + k * 11 + 10, none⟩ = some (.int .i64 (f 7)) := by
  obtain ⟨hc, h8⟩ := h.at_ k hk
  obtain ⟨⟨p, d, c, lon⟩, ht⟩ : ∃ t, l.getD k default = t := ⟨_, rfl⟩
  rw [ht] at hc h8 ⊢
  simp only at h8 ⊢
  obtain ⟨a0, a1, a2, a3, a4, a5, a6, a7, rfl⟩ : ∃ a0 a1 a2 a3 a4 a5 a6 a7, lon = [a0, a1, a2, a3, a4, a5, a6, a7] := by
    match lon, h8 with
    | [a0, a1, a2, a3, a4, a5, a6, a7], _ => exact ⟨a0, a1, a2, a3, a4, a5, a6, a7, rfl⟩
  refine ⟨fun r => [a0, a1, a2, a3, a4, a5, a6, a7].getD r 0, ⟨hc 0 _ rfl, hc 1 _ rfl, hc 2 _ rfl⟩, rfl, hc 3 _ rfl, hc 4 _ rfl, hc 5 _ rfl, hc 6 _ rfl, hc 7 _ rfl, hc 8 _ rfl, hc 9 _ rfl, hc 10 _ rfl⟩
def lonK (t : TaskM) (r : Nat) : Int := t.lon.getD r 0
theorem TksAt.cells2 {V : Nat → Prop} {w : World} {S : Src} {l : List TaskM} (h : TksAt w V S l) {k : Nat} (hk : k < l.length) :
    (w.cell? ⟨S.b, S.o + k * 11, none⟩ = some (.int .i64 (l.getD k default).per) ∧ w.cell? ⟨S.b, S.o + k * 11 + 1, none⟩ = some (.int .i64 (l.getD k default).dl) ∧ w.cell? ⟨S.b, S.o + k * 11 + 2, none⟩ = some (.int .i64 (l.getD k default).cost)) ∧
      w.cell? ⟨S.b, S.o + k * 11 + 3, none⟩ = some (.int .i64 (lonK (l.getD k default) 0)) ∧ w.cell? ⟨S.b, S.o + k * 11 + 4, none⟩ = some (.int .i64 (lonK (l.getD k default) 1)) ∧ w.cell? ⟨S.b, S.o + k * 11 + 5, none⟩ = some (.int .i64 (lonK (l.getD k default) 2)) ∧ w.cell? ⟨S.b, S.o + k * 11 + 6, none⟩ = some (.int .i64 (lonK (l.getD k default) 3)) ∧
      w.cell? ⟨S.b, S.o + k * 11 + 7, none⟩ = some (.int .i64 (lonK (l.getD k default) 4)) ∧ w.cell? ⟨S.b, S.o + k * 11 + 8, none⟩ = some (.int .i64 (lonK (l.getD k default) 5)) ∧ w.cell? ⟨S.b, S.o + k * 11 + 9, none⟩ = some (.int .i64 (lonK (l.getD k default) 6)) ∧ w.cell? ⟨S.b, S.o + k * 11 + 10, none⟩ = some (.int .i64 (lonK (l.getD k default) 7)) := by
  obtain ⟨f, h0, e, h1⟩ := h.cells hk
  refine ⟨h0, ?_⟩
  unfold lonK
  rw [e]
  exact h1
theorem dOf2_any (a0 a1 a2 : Int) (f : Nat → Int) (z : Int) (w : World) : Calls Try.prog 44 #[.agg #[.int .i64 a0, .int .i64 a1, .int .i64 a2, .int .i64 (f 0), .int .i64 (f 1), .int .i64 (f 2), .int .i64 (f 3), .int .i64 (f 4), .int .i64 (f 5), .int .i64 (f 6), .int .i64 (f 7)], .int .i64 z] w fun e w' => e = .returned (.agg #[.int .i64 a0, .int .i64 a2, .int .i64 z, .int .i64 0]) ∧ Below w.heap.size w w' := by
  have HB := Lib.hid (show ∀ w2 : World, True → True from fun _ _ => trivial)
  go_enter Try.func44, Try.ntmps44
  go_wp2
  go_returns
  exact ⟨rfl, ((Below.refl _ _).alloc (Nat.le_refl _) _).alloc (by simp) _⟩
/-- A task's term, and those of a list. -/
def tkT (t : TaskM) : Tm := ⟨t.per, t.cost, 0, 0⟩
def tkL (L : List TaskM) : List Tm := L.map tkT
theorem tkL_len (L : List TaskM) : (tkL L).length = L.length := by simp [tkL]
theorem tkL_take (L : List TaskM) (k : Nat) : tkL (L.take k) = (tkL L).take k := by simp [tkL, List.map_take]
theorem tkL_snoc (L : List TaskM) {k : Nat} (h : k < L.length) : tmRow (tkL (L.take (k + 1))) = tmRow (tkL (L.take k)) ++ tmC (tkT (L.getD k default)) := by
  rw [take_succ_at L k h]
  unfold tkL
  rw [List.map_append, List.map_cons, List.map_nil, tmRow_snoc]
/-- May a task be, of a period up to 400? -/
def tkB (t : TaskM) : Bool := decide (1 ≤ t.per ∧ t.per ≤ 400 ∧ 1 ≤ t.dl ∧ t.dl ≤ t.per ∧ 1 ≤ t.cost ∧ t.cost ≤ t.dl)
def rgB (L : List TaskM) (most : Int) : Bool := decide ((L.length : Int) ≤ most) && (List.range L.length).all fun k => tkB (L.getD k default)
theorem tkB_iff (t : TaskM) : tkB t = true ↔ 1 ≤ t.per ∧ t.per ≤ 400 ∧ 1 ≤ t.dl ∧ t.dl ≤ t.per ∧ 1 ≤ t.cost ∧ t.cost ≤ t.dl := by simp [tkB]
theorem rgB_iff {L : List TaskM} {most : Int} : rgB L most = true ↔ (L.length : Int) ≤ most ∧ ∀ k, k < L.length → tkB (L.getD k default) = true := by
  simp only [rgB, Bool.and_eq_true, decide_eq_true_eq, List.all_eq_true, List.mem_range]
theorem tk_mem {L : List TaskM} (h : ∀ k, k < L.length → tkB (L.getD k default) = true) : ∀ t ∈ L, tkB t = true := by
  intro t ht
  obtain ⟨k, hk, he⟩ := List.mem_iff_getElem.1 ht
  have := h k hk
  rwa [List.getD_eq_getElem?_getD, List.getElem?_eq_getElem hk, Option.getD_some, he] at this
theorem tk_good {L : List TaskM} (h : ∀ t ∈ L, tkB t = true) : ∀ x ∈ tkL L, GoodT x := by
  intro x hx
  obtain ⟨t, ht, rfl⟩ := List.mem_map.1 hx
  obtain ⟨a, b, c, d, e, f⟩ := (tkB_iff t).1 (h t ht)
  exact ⟨⟨a, by show t.per ≤ _; omega⟩, ⟨by show 0 ≤ t.cost; omega, by show t.cost ≤ _; omega⟩, by simp [tkT], by simp [tkT]⟩
end Go.Proofs.Ytmaackdfhmpicaa
