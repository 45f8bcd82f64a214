/- Plain lemmas: what a slice of words, or of bytes, that a row hands in looks like. -/
import Derived.Test.YtkfaccbabagooaaRows
import Derived.Test.YtkfaccbabagooaaAdds0
import Derived.WalkKit
import Derived.ProofKit
import Derived.OpenShut
import Derived.Test.YtkfaccbabagooaaPost
import Derived.RangeFuncOwn
namespace Go.Proofs.Ytkfaccbabagooaa
open Go.ChangeShapes Go.WideShapes Go.ChangeAt Go.RowKit

theorem own : ownKnob Try.prog.godebug = none := by kernel_rfl
theorem cells26 : Try.prog.cellsOf 26 = 1 := by kernel_rfl
theorem cells5 : Try.prog.cellsOf 5 = 1 := by kernel_rfl
theorem laidOut : laidOutB Try.prog = true := by kernel_rfl

theorem wf32 {n : Int} (h : (Lit.int .u32 n).wf = true) : w32 (BitVec.ofInt 32 n) = n := by
  have h' : 0 ≤ n ∧ n < 4294967296 := by
    simp [Lit.wf, IntKind.min, IntKind.max, IntKind.signed, IntKind.bits] at h; omega
  unfold w32
  rw [BitVec.toNat_ofInt]
  omega
theorem wf8 {n : Int} (h : (Lit.int .u8 n).wf = true) : w8 (BitVec.ofInt 8 n) = n := by
  have h' : 0 ≤ n ∧ n < 256 := by
    simp [Lit.wf, IntKind.min, IntKind.max, IntKind.signed, IntKind.bits] at h; omega
  unfold w8
  rw [BitVec.toNat_ofInt]
  omega
theorem wf64 {n : Int} (h : (Lit.int .i64 n).wf = true) : -9223372036854775808 ≤ n ∧ n < 9223372036854775808 := by
  simp [Lit.wf, IntKind.min, IntKind.max, IntKind.signed, IntKind.bits] at h; omega

theorem open_words {H : Type} {enc : TypeId × Value → H} {W : World} {v : Value} {d : DataW H} {p : List MemPlace} (hval : Value.okWide Try.prog W .any 0 23 v) (h : DataW.Trod enc Try.prog W 0 (fun _ => true) true 23 v d p) :
    ∃ (sp : Option Addr) (cap b off : Nat) (l : List (BitVec 32)), v = .slice sp l.length cap ∧ (l.length ≤ cap ∧ cap ≤ maxLen) ∧ (0 < l.length → sp = some ⟨b, off, none⟩ ∧ b < W.heap.size) ∧ (sp = none → l.length = 0 ∧ cap = 0) ∧
      ∀ k, k < l.length → W.cell? ⟨b, off + k, none⟩ = some (.int .u32 (w32 (nthW l k))) := by
  obtain ⟨a0, len, cap, rfl⟩ := okWide_slice Try.underlying23 hval
  obtain ⟨fuel, hf⟩ := h
  rcases open_ints Try.underlying23 Try.underlying26 cells26 hf with ⟨hcs, hx⟩ | ⟨a, len', cap', zs, hcs, _, hl, hm, hz, hx, hcell, hwz⟩
  · simp [Value.cells] at hcs
    obtain ⟨rfl, rfl, rfl⟩ := hcs
    exact ⟨none, 0, 0, 0, [], rfl, ⟨by decide, by decide⟩, by simp, by simp, by simp⟩
  · simp [Value.cells] at hcs
    obtain ⟨rfl, rfl, rfl⟩ := hcs
    simp only [if_true] at hz
    obtain ⟨b, off, spot⟩ := a
    have hlt : ((zs.take len).map (BitVec.ofInt 32)).length = len := by simp; omega
    have hcl : ∀ k, k < len → W.cell? ((⟨b, off, spot⟩ : Addr).add k) = some (.int .u32 (w32 (nthW ((zs.take len).map (BitVec.ofInt 32)) k))) := by
      intro k hk
      rw [hcell k (by omega)]
      have hkz : k < zs.length := by omega
      have e1 : zs.getD k 0 = zs[k] := by simp [hkz]
      have e2 : nthW ((zs.take len).map (BitVec.ofInt 32)) k = BitVec.ofInt 32 zs[k] := by
        simp [nthW, hk, hkz]
      rw [e1, e2, wf32 (hwz _ (List.getElem_mem hkz))]
    have hsp : 0 < len → spot = none := fun h => by simpa [Addr.add] using World.cell?_spot (hcl 0 h)
    refine ⟨some ⟨b, off, spot⟩, cap, b, off, (zs.take len).map (BitVec.ofInt 32), by rw [hlt], ⟨by rw [hlt]; exact hl, hm⟩, ?_, by simp, ?_⟩
    · rw [hlt]
      intro h
      obtain rfl := hsp h
      refine ⟨rfl, ?_⟩
      obtain ⟨o, ho, _⟩ := cells_of_cell (hcl 0 h)
      exact (Array.getElem?_eq_some_iff.1 ho).1
    · rw [hlt]
      intro k hk
      obtain rfl := hsp (by omega)
      rw [← hcl k hk, Addr.add_lit]

theorem open_octets {H : Type} {enc : TypeId × Value → H} {W : World} {v : Value} {d : DataW H} {p : List MemPlace} (hval : Value.okWide Try.prog W .any 0 22 v) (h : DataW.Trod enc Try.prog W 0 (fun _ => true) true 22 v d p) :
    ∃ (sp : Option Addr) (cap b off : Nat) (l : List (BitVec 8)), v = .slice sp l.length cap ∧ (l.length ≤ cap ∧ cap ≤ maxLen) ∧ (0 < l.length → sp = some ⟨b, off, none⟩ ∧ b < W.heap.size) ∧ (sp = none → l.length = 0 ∧ cap = 0) ∧
      ∀ k, k < l.length → W.cell? ⟨b, off + k, none⟩ = some (.int .u8 (w8 (nthB l k))) := by
  obtain ⟨a0, len, cap, rfl⟩ := okWide_slice Try.underlying22 hval
  obtain ⟨fuel, hf⟩ := h
  rcases open_ints Try.underlying22 Try.underlying5 cells5 hf with ⟨hcs, hx⟩ | ⟨a, len', cap', zs, hcs, _, hl, hm, hz, hx, hcell, hwz⟩
  · simp [Value.cells] at hcs
    obtain ⟨rfl, rfl, rfl⟩ := hcs
    exact ⟨none, 0, 0, 0, [], rfl, ⟨by decide, by decide⟩, by simp, by simp, by simp⟩
  · simp [Value.cells] at hcs
    obtain ⟨rfl, rfl, rfl⟩ := hcs
    simp only [if_true] at hz
    obtain ⟨b, off, spot⟩ := a
    have hlt : ((zs.take len).map (BitVec.ofInt 8)).length = len := by simp; omega
    have hcl : ∀ k, k < len → W.cell? ((⟨b, off, spot⟩ : Addr).add k) = some (.int .u8 (w8 (nthB ((zs.take len).map (BitVec.ofInt 8)) k))) := by
      intro k hk
      rw [hcell k (by omega)]
      have hkz : k < zs.length := by omega
      have e1 : zs.getD k 0 = zs[k] := by simp [hkz]
      have e2 : nthB ((zs.take len).map (BitVec.ofInt 8)) k = BitVec.ofInt 8 zs[k] := by
        simp [nthB, hk, hkz]
      rw [e1, e2, wf8 (hwz _ (List.getElem_mem hkz))]
    have hsp : 0 < len → spot = none := fun h => by simpa [Addr.add] using World.cell?_spot (hcl 0 h)
    refine ⟨some ⟨b, off, spot⟩, cap, b, off, (zs.take len).map (BitVec.ofInt 8), by rw [hlt], ⟨by rw [hlt]; exact hl, hm⟩, ?_, by simp, ?_⟩
    · rw [hlt]
      intro h
      obtain rfl := hsp h
      refine ⟨rfl, ?_⟩
      obtain ⟨o, ho, _⟩ := cells_of_cell (hcl 0 h)
      exact (Array.getElem?_eq_some_iff.1 ho).1
    · rw [hlt]
      intro k hk
      obtain rfl := hsp (by omega)
      rw [← hcl k hk, Addr.add_lit]

end Go.Proofs.Ytkfaccbabagooaa
