/- The contract of Unpack. -/
import Derived.Test.YtkbmgilceioieaaRV
namespace Go.Proofs.Ytkbmgilceioieaa
open Go.RowKit
attribute [local go_sem] Oper.semAt_some

/-- What Unpack gives. -/
def unpackS (most : Nat) (l : List Nat) : List Nat := if rightB most l then toldG (parse l).1 else []

set_option maxHeartbeats 2000000 in
set_option maxRecDepth 100000 in
theorem unpack_any (most : Nat) (l : List Nat) (sp : Option Addr) (b off cap : Nat) (w : World) (hl : SL w sp b off l) (hcap : l.length ≤ cap) (hmax : cap ≤ maxLen) (hlen : l.length ≤ 100000) (hb : ∀ x ∈ l, x < 4294967296) (hm : most ≤ 100000) :
    Calls Try.prog 38 #[.int .i64 most, .slice sp l.length cap] w fun e w' => ∃ v, e = .returned (.tuple #[v, .bool (rightB most l)]) ∧ w'.ownsRow w.heap.size 27 1 v (unpackS most l).length (rowW (unpackS most l)) ∧ Below w.heap.size w w' := by
  have hr := right_any most l sp b off cap w hl hcap hmax hlen hb (by omega) (by omega)
  rw [Int.toNat_natCast] at hr
  have hu : unpackS most l = if rightB most l then toldG (parse l).1 else [] := rfl
  obtain ⟨B, hB⟩ : ∃ B, rightB most l = B := ⟨_, rfl⟩
  obtain ⟨R, hR⟩ : ∃ R, unpackS most l = R := ⟨_, rfl⟩
  rw [hB] at hr hu
  rw [hB, hR]
  rw [hR] at hu
  have h0 : decide ((most : Int) < 0) = false := by simp
  have HL := Lib.hid (fun (w' : World) (h : Below w.heap.size w w') => told_any l sp b off cap w' (hl.below h (fun h0 => hl.lt h0)) hcap hlen hb)
  have HR := Lib.hid hr
  clear hr hl hb hB hR
  cases B with
  | true =>
    obtain rfl : R = toldG (parse l).1 := hu
    go_enter Try.func38, Try.ntmps38
    go_wp2_with (first
      | (go_at_call 61; refine HR.out.mono ?_; rintro e w1 ⟨rfl, hb1⟩; have HB1 := Lib.hid hb1; have HK := Lib.hid (HL.out w1 hb1); clear hb1)
      | (go_at_call 62; refine HK.out.mono ?_; rintro e w2 ⟨v2, rfl, ho2, hb2⟩; have HO2 := Lib.hid (And.intro ho2 hb2); clear ho2 hb2)
      | fail)
    refine ⟨rfl, .tuple #[v2, .bool true], by simp [results, Try.results38, go_sem], v2, rfl, own_mono HO2.out.1 HB1.out.size, HB1.out.trans (HO2.out.2.mono HB1.out.size)⟩
  | false =>
    obtain rfl : R = [] := hu
    go_enter Try.func38, Try.ntmps38
    go_wp2_with (first
      | (go_at_call 61; refine HR.out.mono ?_; rintro e w1 ⟨rfl, hb1⟩; have HB1 := Lib.hid hb1; clear hb1)
      | fail)
    exact ⟨rfl, .tuple #[.slice none 0 0, .bool false], by simp [results, Try.results38, go_sem], _, rfl, World.ownsRow_nil _ _ _ _, HB1.out⟩
end Go.Proofs.Ytkbmgilceioieaa
