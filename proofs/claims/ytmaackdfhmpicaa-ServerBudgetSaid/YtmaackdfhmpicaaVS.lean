/- Cells that lie in a row, and slices. No statement about the program. -/
import Derived.Test.YtmaackdfhmpicaaVR
namespace Go.Proofs.Ytmaackdfhmpicaa
open Go.RowKit

/-- Cells that lie from a place on. -/
def At (w : World) (b off : Nat) (l : List Value) : Prop := ∀ j u, l[j]? = some u → w.cell? ⟨b, off + j, none⟩ = some u
theorem At.keep {T : Nat → Prop} {w w' : World} {b off : Nat} {l : List Value} (h : At w b off l) (c : Ch T w w') (hT : ¬ T b) : At w' b off l := fun j u hu => c.cell (h j u hu) hT
/-- Where a slice lies. -/
structure Src where
  sp : Option Addr
  b : Nat
  o : Nat
  c : Nat
/-- A slice of so many elements of so many cells lies there. -/
structure SlAt (w : World) (V : Nat → Prop) (s : Src) (n : Nat) : Prop where
  at_ : 0 < n → s.sp = some ⟨s.b, s.o, none⟩ ∧ s.b < w.heap.size ∧ ¬ V s.b
  sm : n ≤ 9223372036854775807
theorem SlAt.keep {T : Nat → Prop} {V : Nat → Prop} {w w' : World} {s : Src} {n : Nat} (h : SlAt w V s n) (c : Ch T w w') : SlAt w' V s n :=
  ⟨fun h0 => ⟨(h.at_ h0).1, Nat.lt_of_lt_of_le (h.at_ h0).2.1 c.size, (h.at_ h0).2.2⟩, h.sm⟩
theorem SlAt.more {V V' : Nat → Prop} {w : World} {s : Src} {n : Nat} (h : SlAt w V s n) (hV : ∀ j, j < w.heap.size → V' j → V j) : SlAt w V' s n :=
  ⟨fun h0 => ⟨(h.at_ h0).1, (h.at_ h0).2.1, fun hv => (h.at_ h0).2.2 (hV _ (h.at_ h0).2.1 hv)⟩, h.sm⟩
theorem flat_at (n : Nat) : ∀ (M : List (List Value)), (∀ r ∈ M, r.length = n) → ∀ (k j : Nat), k < M.length → j < n → M.flatten[k * n + j]? = (M.getD k [])[j]? := by
  intro M
  induction M with
  | nil => intro _ k j hk; simp at hk
  | cons r M ih =>
    intro hr k j hk hj
    have hrl := hr r (by simp)
    cases k with
    | zero =>
      rw [List.flatten_cons, Nat.zero_mul, Nat.zero_add, List.getElem?_append_left (by omega)]
      rfl
    | succ k =>
      rw [List.flatten_cons, List.getElem?_append_right (by rw [hrl, Nat.succ_mul]; omega), hrl, show (k + 1) * n + j - n = k * n + j by rw [Nat.succ_mul]; omega, ih (fun s hs => hr s (by simp [hs])) k j (by simpa using hk) hj]
      rfl
/-- Rows of cells, one behind the other. -/
def rowsOf (f : Nat → List Value) (n : Nat) : List Value := ((List.range n).map f).flatten
theorem rowsOf_at {f : Nat → List Value} {sz n : Nat} (hf : ∀ k, k < n → (f k).length = sz) (k j : Nat) (hk : k < n) (hj : j < sz) : (rowsOf f n)[k * sz + j]? = (f k)[j]? := by
  unfold rowsOf
  rw [flat_at sz _ (by intro r hr; obtain ⟨i, hi, rfl⟩ := List.mem_map.1 hr; exact hf i (List.mem_range.1 hi)) k j (by simpa using hk) hj]
  simp [hk]
theorem rowsOf_len {f : Nat → List Value} {sz : Nat} : ∀ n, (∀ k, k < n → (f k).length = sz) → (rowsOf f n).length = n * sz := by
  intro n
  induction n with
  | zero => intro _; simp [rowsOf]
  | succ n ih =>
    intro hf
    have h1 := ih fun k hk => hf k (by omega)
    unfold rowsOf at h1 ⊢
    rw [List.range_succ, List.map_append, List.flatten_append, List.length_append, h1]
    simp [hf n (by omega), Nat.succ_mul]
theorem rowsOf_src {f : Nat → List Value} {sz n : Nat} (hsz : 0 < sz) (hf : ∀ k, k < n → (f k).length = sz) {w : World} {b o : Nat} (h : ∀ k, k < n → At w b (o + k * sz) (f k)) : ∀ j u, (rowsOf f n)[j]? = some u → w.cell? ((⟨b, o, none⟩ : Addr).add j) = some u := by
  intro j u hu
  have hl : j < n * sz := by have := (List.getElem?_eq_some_iff.1 hu).1; rwa [rowsOf_len n hf] at this
  have hk : j / sz < n := Nat.div_lt_of_lt_mul (by rwa [Nat.mul_comm] at hl)
  have hj : j % sz < sz := Nat.mod_lt _ hsz
  have hd : j / sz * sz + j % sz = j := by rw [Nat.mul_comm]; exact Nat.div_add_mod j sz
  have hr := rowsOf_at hf (j / sz) (j % sz) hk hj
  rw [hd, hu] at hr
  have := h (j / sz) hk (j % sz) u hr.symm
  rw [Addr.add_lit]
  rwa [Nat.add_assoc, hd] at this
theorem rowsOf_all {f : Nat → List Value} {n : Nat} {p : Value → Prop} (hf : ∀ k, k < n → ∀ u ∈ f k, p u) : ∀ u ∈ rowsOf f n, p u := by
  intro u hu
  unfold rowsOf at hu
  obtain ⟨r, hr, hur⟩ := List.mem_flatten.1 hu
  obtain ⟨k, hk, rfl⟩ := List.mem_map.1 hr
  exact hf k (List.mem_range.1 hk) u hur
/-- An owned row of such rows, as a slice. -/
theorem own_rows {w : World} {base sz n : Nat} {v : Value} {f : Nat → List Value} {e : TypeId} (h : w.ownsRow base e sz v n (rowsOf f n)) (hf : ∀ k, k < n → (f k).length = sz) (_hn : n ≤ 9223372036854775807) :
    ∃ S : Src, v = .slice S.sp n S.c ∧ (0 < n → S.sp = some ⟨S.b, S.o, none⟩ ∧ base ≤ S.b ∧ S.b < w.heap.size ∧ ∀ j, w.frozen? ⟨S.b, j, none⟩ = false) ∧ ∀ k, k < n → At w S.b (S.o + k * sz) (f k) := by
  rcases h.2 with ⟨rfl, h0⟩ | ⟨g, cap, cur, rfl, hb, hh, _⟩
  · exact ⟨⟨none, 0, 0, 0⟩, by rw [h0], fun h1 => by omega, fun k hk => by omega⟩
  · have hl := h.lt g rfl
    refine ⟨⟨some ⟨g, 0, none⟩, g, 0, cap⟩, rfl, fun _ => ⟨rfl, hb, hl.2, fun j => frozen_of_row w g j _ _ hh⟩, fun k hk j u hu => ?_⟩
    have hj : j < sz := by have := (List.getElem?_eq_some_iff.1 hu).1; rwa [hf k hk] at this
    have hr := rowsOf_at hf k j hk hj
    rw [hu] at hr
    have hlt : k * sz + j < n * sz := by
      have := Nat.mul_le_mul_right sz (show k + 1 ≤ n by omega)
      rw [Nat.succ_mul] at this
      omega
    have := h.cellAt (k * sz + j) hlt
    rw [Nat.zero_add]
    exact this.trans hr
end Go.Proofs.Ytmaackdfhmpicaa
