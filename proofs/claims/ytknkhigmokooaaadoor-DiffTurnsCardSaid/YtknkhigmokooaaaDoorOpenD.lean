/- What a Turn is that a row hands in; what the tables of diff's words and of powers of ten give. No statement about the program's functions. -/
import Derived.Test.YtknkhigmokooaaaDoorVJ
import Derived.Test.YtknkhigmokooaaaDoorED
import Derived.Lib.LaidTab
import Derived.Stop.LaidErr
namespace Go.Proofs.YtknkhigmokooaaaDoor
open Go.ChangeShapes Go.WideShapes Go.ChangeAt Go.RowKit Go.Deep Go.Joins
section
variable {H : Type} {enc : TypeId × Value → H} {w : World} {base : Nat} {spare : Nat → Bool} {held : Bool}
theorem cellsTurn : Tryd.prog.cellsOf 57 = 4 := by kernel_rfl
set_option maxRecDepth 100000 in
theorem open_turn {r : Reach} {b0 : Nat} {v : Value} {d : DataW H} {p : List MemPlace} (hv : Value.okWide Tryd.prog w r b0 57 v) (h : DataW.Trod enc Tryd.prog w base spare held 57 v d p) :
    ∃ (K A : Int) (o n : Bool), v = .agg #[.int .i64 K, .int .i64 A, .bool o, .bool n] ∧ A ≤ 9223372036854775807 ∧ -9223372036854775808 ≤ A := by
  obtain ⟨v0, v1, v2, v3, y0, y1, y2, y3, n, rfl, -, -, t0, t1, t2, t3⟩ := open_agg4 Tryd.underlying57 (by kernel_rfl) cellsTurn hv h
  obtain ⟨n0, e0, _⟩ := DataW.trod_int Tryd.underlying55 t0
  obtain ⟨n1, e1, _, hwf⟩ := DataW.trod_int Tryd.underlying3 t1
  obtain ⟨n2, e2, _⟩ := DataW.trod_bool Tryd.underlying4 t2
  obtain ⟨n3, e3, _⟩ := DataW.trod_bool Tryd.underlying4 t3
  simp at e0 e1 e2 e3
  subst e0 e1 e2 e3
  have hw : -9223372036854775808 ≤ n1 ∧ n1 ≤ 9223372036854775807 := by
    simp [Lit.wf, IntKind.min, IntKind.max, IntKind.signed, IntKind.bits] at hwf; omega
  exact ⟨n0, n1, n2, n3, rfl, hw.2, hw.1⟩
/-- An array of strings that reads as these holds them, cell for cell. -/
theorem cells_of_strs {P : Program} {fuel : Nat} {t e : TypeId} {n : Nat} {cs : List Value} {zs : List (List UInt8)} {p : List MemPlace}
    (ht : P.underlying t = some (.array n e)) (he : P.underlying e = some .string) (hce : P.cellsOf e = 1) (hct : P.cellsOf t = n)
    (h : DataW.trod enc P w base spare held fuel t cs = some (.agg (zs.map fun z => .lit (.string z)), p)) : cs = zs.map fun z => Value.string ⟨z.toArray⟩ := by
  cases fuel with
  | zero => simp [DataW.trod] at h
  | succ fuel =>
    simp only [DataW.trod, ht, hce, hct, Nat.mul_one] at h
    split at h
    · rename_i hl
      obtain ⟨xs, hm, hx⟩ := Option.map_eq_some_iff.1 h
      have hxs : xs.map (·.1) = zs.map fun z => (DataW.lit (.string z) : DataW H) := by
        have := congrArg Prod.fst hx
        simpa using this
      have hxl : xs.length = n := by simpa using Lib.mapM_length hm
      have hzl : zs.length = n := by
        have := congrArg List.length hxs
        simp at this
        omega
      apply List.ext_getElem?
      intro i
      by_cases hi : i < n
      · obtain ⟨b, hb, hf⟩ := Lib.mapM_at hm i i (by simp [hi])
        obtain ⟨z, hc, rfl, _⟩ := DataW.trod_string he hf
        have h1 : cs[i]? = some (.string z) := by
          have := congrArg (·[0]?) hc
          simpa [List.getElem?_take, List.getElem?_drop] using this
        have h2 : (xs.map (·.1))[i]? = some (DataW.lit (.string z.data.toList) : DataW H) := by simp [hb]
        rw [hxs] at h2
        simp only [List.getElem?_map, Option.map_eq_some_iff, DataW.lit.injEq, Lit.string.injEq] at h2
        obtain ⟨z', hz', rfl⟩ := h2
        simp [h1, hz']
      · rw [List.getElem?_eq_none (by omega), List.getElem?_eq_none (by simp; omega)]
    · cases h
end
theorem wtab_of {W : World} {rest : List (String × DataW Unit)} (h : laidMet Tryd.prog (("remontoir/diff.words", .agg ([[], [114, 101, 115], [116, 97, 115, 107], [109, 111, 100, 101], [113, 117, 101, 117, 101, 115], [101, 100, 103, 101]].map fun z => .lit (.string z))) :: rest) W) : WTab W := by
  obtain ⟨ps, ⟨g', t', cs, fuel, p, q, hg', ht', hvar, hd, _, _⟩, _⟩ := h
  have hg : Tryd.prog.globalNamed "remontoir/diff.words" = some 0 := by kernel_rfl
  have hty : (Tryd.prog.globals[0]?).map (·.type) = some 113 := by kernel_rfl
  obtain rfl := Option.some.inj (hg.symm.trans hg')
  obtain rfl := Option.some.inj (hty.symm.trans ht')
  have hcs := cells_of_strs Tryd.underlying113 Tryd.underlying9 (by kernel_rfl) (by kernel_rfl) hd
  have hcs2 : cs = #[.string ⟨#[]⟩, .string ⟨#[114, 101, 115]⟩, .string ⟨#[116, 97, 115, 107]⟩, .string ⟨#[109, 111, 100, 101]⟩, .string ⟨#[113, 117, 101, 117, 101, 115]⟩, .string ⟨#[101, 100, 103, 101]⟩] := by
    apply Array.toList_inj.1
    exact hcs
  intro K h1 h2
  have hc := World.var?_cell hg hvar K
  rw [hcs2] at hc
  rcases K with _ | _ | _ | _ | _ | _ | K
  · omega
  · exact hc
  · exact hc
  · exact hc
  · exact hc
  · exact hc
  · omega
theorem ptab_of {W : World} {rest : List (String × DataW Unit)} (h : laidMet Tryd.prog (("internal/strconv.uint64pow10", Lib.tabData .u64 Lib.pow10Tab) :: rest) W) : PTab W :=
  Lib.tabIs_of_head (g := 2) (t := 152) (e := 145) (n := 20) (by kernel_rfl) (by kernel_rfl) Tryd.underlying152 Tryd.underlying145 (by kernel_rfl) (by kernel_rfl) h
end Go.Proofs.YtknkhigmokooaaaDoor
