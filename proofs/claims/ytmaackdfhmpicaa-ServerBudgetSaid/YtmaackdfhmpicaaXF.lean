/- The contract of the law's Plain; the walks of DemandWorks and DemandComes. -/
import Derived.Test.YtmaackdfhmpicaaXE
namespace Go.Proofs.Ytmaackdfhmpicaa
open Go.RowKit

def tmRow (L : List Tm) : List Value := (L.map tmC).flatten
theorem tmRow_at (L : List Tm) (k j : Nat) (hk : k < L.length) (hj : j < 4) : (tmRow L)[k * 4 + j]? = (tmC (L.getD k default))[j]? := by
  unfold tmRow
  rw [flat_at 4 _ (by intro r hr; obtain ⟨t, -, rfl⟩ := List.mem_map.1 hr; rfl) k j (by simpa using hk) hj]
  simp [hk]
theorem tmRow_snoc (L : List Tm) (t : Tm) : tmRow (L ++ [t]) = tmRow L ++ tmC t := by simp [tmRow]
/-- An owned row of terms, as a slice. -/
theorem own_terms {w : World} {base : Nat} {v : Value} {L : List Tm} {e : TypeId} (h : w.ownsRow base e 4 v L.length (tmRow L)) (hn : L.length ≤ 1000) :
    ∃ S : Src, v = .slice S.sp L.length S.c ∧ TermsAt w (fun j => j < base) S L := by
  rcases h.2 with ⟨rfl, h0⟩ | ⟨g, cap, cur, rfl, _⟩
  · exact ⟨⟨none, 0, 0, 0⟩, by rw [h0], ⟨⟨fun h1 => by omega, by omega⟩, fun k hk => by omega⟩⟩
  · have hl := h.lt g rfl
    refine ⟨⟨some ⟨g, 0, none⟩, g, 0, cap⟩, rfl, ⟨fun _ => ⟨rfl, hl.2, Nat.not_lt.2 hl.1⟩, by omega⟩, fun k hk j u hu => ?_⟩
    have hj : j < 4 := by have := (List.getElem?_eq_some_iff.1 hu).1; simpa [tmC] using this
    have hr := tmRow_at L k j hk hj
    rw [hu] at hr
    have hlen : (tmRow L).length = L.length * 4 := h.1
    have := h.cellAt (k * 4 + j) (by omega)
    rw [Nat.zero_add]
    exact this.trans hr
end Go.Proofs.Ytmaackdfhmpicaa
