/- FlashBits' walk, all sizes. -/
import Derived.Test.YtkbmgilceioieaaGI
namespace Go.Proofs.Ytkbmgilceioieaa
open Go.RowKit
theorem law_bits (x1 x2 x3 : Int) (sp : Option Addr) (b off cap : Nat) (O : List FOp) (w : World) (hsp : 0 < O.length → sp = some ⟨b, off, none⟩) (hO : OpsAt w b off O) :
    Calls Try.prog 4 #[.agg #[.int .i64 x1, .int .i64 x2, .int .i64 x3], .slice sp O.length cap] w fun e w' => e = .returned (.bool true) ∧ Below w.heap.size w w' := by
  by_cases h : 60 < O.length ∨ x1 < 1 ∨ 8 < x1 ∨ x2 < 1 ∨ 30 < x2
  · exact bits_guard x1 x2 x3 sp O.length cap w h
  · obtain ⟨ns, rfl⟩ : ∃ ns : Nat, x1 = ns := ⟨x1.toNat, by omega⟩
    obtain ⟨nw, rfl⟩ : ∃ nw : Nat, x2 = nw := ⟨x2.toNat, by omega⟩
    exact law_bits_in ns nw x3 sp b off cap O w (by omega) (by omega) (by omega) hsp hO
end Go.Proofs.Ytkbmgilceioieaa
