/- ReadyDrains returns true for every slice of calls: dropping what goes first, one by one, gives all that is ready, as it goes. No condition but that the table of Go's library is what the program's text lays. -/
import Derived.Test.YtimaihdlaaonbaaDoorTie
import Derived.Test.YtimaihdlaaonbaaDoorCards
import Derived.Test.YtimaihdlaaonbaaDoorDr
import Derived.Test.YtimaihdlaaonbaaDoorPost
import Derived.Lay
import Derived.Stop.LaidErr
import Derived.ChangeMaps5
import Derived.LaidMore
import Derived.PinnedBridge
import Derived.Lib.LaidTab
import Derived.ProofKit
import Derived.OpenShut
import Derived.RangeFuncOwn
import Derived.Deep.Slices
import Derived.Deep.Fields
import Derived.ChangeSame
namespace Go.Proofs.YtimaihdlaaonbaaDoor.ReadyDrains
open Go.ChangeShapes Go.WideShapes Go.ChangeAt Go.RowKit Go.ChangeMaps Go.Deep
set_option linter.unusedVariables false

section
variable {H : Type} {enc : TypeId × Value → H} {P : Program} {w : World} {base : Nat} {spare : Nat → Bool} {held : Bool}
theorem open_slice_fields {t e : TypeId} {fs : Array Field} {fuel : Nat} {cs : List Value} {x : DataW H × List MemPlace} (ht : P.underlying t = some (.slice e)) (he : P.underlying e = some (.struct fs))
    (hone : oneCellFields P fs = true) (hC : P.cellsOf e = fs.size) (h : DataW.trod enc P w base spare held fuel t cs = some x) :
    (cs = [.slice none 0 0] ∧ x = (.nil, [])) ∨
    ∃ (a : Addr) (len cap m : Nat) (D : Nat → DataW H) (Pl : Nat → List MemPlace), cs = [.slice (some a) len cap] ∧ base ≤ a.block ∧ len ≤ cap ∧ cap ≤ maxLen ∧ m = (if spare a.block then cap else len) ∧
      x = (.slice ((List.range len).map D) ((List.range (m - len)).map fun j => D (len + j)), MemPlace.row a (m * fs.size) ++ (List.range m).flatMap Pl) ∧
      ∀ i, i < m → ∃ (ys : List (DataW H × List MemPlace)) (n : Nat), D i = .agg (ys.map (·.1)) ∧ Pl i = ys.flatMap (·.2) ∧ ys.length = fs.size ∧
        ∀ (j : Nat) (f : Field), fs[j]? = some f → ∃ (v : Value) (y : DataW H × List MemPlace), w.cell? (a.add (i * fs.size + j)) = some v ∧ ys[j]? = some y ∧ DataW.trod enc P w base spare held n f.type [v] = some y := by
  rcases open_slice ht h with h0 | ⟨a, len, cap, m, n, D, Pl, hcs, hb, hl, hm, hmm, hx, hi⟩
  · exact .inl h0
  · refine .inr ⟨a, len, cap, m, D, Pl, hcs, hb, hl, hm, hmm, by rw [hC] at hx; exact hx, fun i him => ?_⟩
    obtain ⟨cs', hc, ht'⟩ := hi i him
    rw [hC] at hc
    obtain ⟨ys, n', hn', hy, hlen, hyl, hf⟩ := DataW.trod_struct he ht'
    obtain ⟨_, hcl, hat⟩ := World.cells?_some hc
    simp only [Prod.mk.injEq] at hy
    refine ⟨ys, n', hy.1, hy.2, hyl, fun j f hj => ?_⟩
    obtain ⟨ho, hk⟩ := hone_of hone j f hj
    have hjl : j < fs.size := (Array.getElem?_eq_some_iff.1 hj).1
    have hcell := hat j hjl
    have hv : cs'[j]? = some (cs'[j]'(by omega)) := List.getElem?_eq_getElem (by omega)
    have h1 := hf j f hj
    rw [ho, hk] at h1
    have hone' : (cs'.drop j).take 1 = [cs'[j]'(by omega)] := by
      rw [List.drop_eq_getElem_cons (by omega)]
      rfl
    rw [hone'] at h1
    have hys : ys[j]? = some (ys[j]'(by omega)) := List.getElem?_eq_getElem (by omega)
    refine ⟨_, _, ?_, hys, h1.trans hys⟩
    rw [← Go.Deep.add_add, hcell, hv]
end

theorem own : ownKnob Tryd.prog.godebug = none := by kernel_rfl
theorem laidOut : laidOutB Tryd.prog = true := by kernel_rfl
theorem cells3 : Tryd.prog.cellsOf 3 = 1 := by kernel_rfl
def laid : List (String × DataW Unit) := [("math/bits.deBruijn32tab", Rows.laid_math_bits_deBruijn32tab)]

theorem tab_of {W : World} (h : laidMet Tryd.prog laid W) : Tab W := by
  have h2 := h
  have e : (Rows.laid_math_bits_deBruijn32tab : DataW Unit) = Lib.tabData .u8 (Lib.deBruijn32tab.map Int.ofNat) := by rfl
  unfold laid at h2
  rw [e] at h2
  exact Lib.tabIs_of_head (g := 0) (t := 60) (e := 5) (n := 32) (by kernel_rfl) (by kernel_rfl) Tryd.underlying60 Tryd.underlying5 (by kernel_rfl) (by kernel_rfl) h2

theorem wf32 {n : Int} (h : (Lit.int .u32 n).wf = true) : w32 (BitVec.ofInt 32 n) = n := by
  have h' : 0 ≤ n ∧ n < 4294967296 := by
    simp [Lit.wf, IntKind.min, IntKind.max, IntKind.signed, IntKind.bits] at h; omega
  unfold w32
  rw [BitVec.toNat_ofInt]
  omega

set_option maxRecDepth 100000 in
theorem lifted (os : Os) (started : os.Started) (H : Type) (enc : TypeId × Value → H) :
    ReturnsInHanded {} Tryd.checked os 4 .any (fun w args => (Rows.readyDrainsSpec.pre enc Tryd.prog Tryd.f4 [] false w args ∧ laidMetH Tryd.prog laid w) ∧ sizedMet enc Tryd.prog Tryd.f4 (OpenSpec.ofChange Rows.readyDrainsSpec) false w args)
      (Rows.readyDrainsSpec.post enc Tryd.prog Tryd.f4 false true false false) := by
  refine returnsInHanded_of_change_and (C := Tryd.checked) (X := fun w _ => laidMetH Tryd.prog laid w) (fun _ _ _ hh h => h.of_heap hh) own started (by kernel_rfl) Tryd.func4
    (ChangeSpec.witness_shaped (enc := enc) (C := Tryd.checked) (os := os) (X := fun w _ => laidMetH Tryd.prog laid w) false (World.laidAll Tryd.prog os laid) #[.slice none 0 0] 8 (World.laidAll_os _ _ _)
      (World.shaped_of_ZipB (by kernel_rfl) (by kernel_rfl)) (by kernel_rfl) (by kernel_rfl) (by kernel_rfl)
      (by rw [MakeChecks.laidMetH_plain _ _ _ (by kernel_rfl)]; exact laidMet_laidAll _ (by kernel_rfl) (by kernel_rfl))) ?_
  intro W base args ds gs before hval0 hW _ _ hL _
  have hval : ∀ (j : Nat) t v, Tryd.f4.params[j]? = some t → args[j]? = some v → Value.okWide Tryd.prog W .any base t v := hval0
  have hW' := hW
  obtain ⟨p, q, hA0, hV, rfl, _, _⟩ := hW
  have hA : DataW.TrodAll enc Tryd.prog W 0 (fun _ => true) true Tryd.f4.params.toList args.toList ds p := hA0
  rw [Tryd.params4] at hA hval
  obtain ⟨v0, vs0, d0, ds0, p0, q0, hargs, rfl, rfl, h0, r0⟩ := trodAll_cons hA
  obtain ⟨rfl, rfl, rfl⟩ := trodAll_nil r0
  obtain rfl : args = #[v0] := by cases args; simp_all
  obtain ⟨rfl, rfl⟩ := trodVars_none hV
  obtain ⟨sp, len, cap, rfl⟩ := okWide_slice Tryd.underlying22 (hval 0 22 v0 rfl rfl)
  obtain ⟨fuel, hf⟩ := h0
  clear hA0 hval0
  simp only [List.append_nil] at hW'
  rw [MakeChecks.laidMetH_plain _ _ _ (by kernel_rfl)] at hL
  have walk : Calls Tryd.prog 4 #[.slice sp len cap] W fun e W' => e = .returned (.bool true) ∧ Below W.heap.size W W' := by
    rcases open_slice_fields Tryd.underlying22 Tryd.underlying32 (by kernel_rfl) (by kernel_rfl) hf with ⟨hcs, hx⟩ | ⟨a, len', cap', m, D, Pl, hcs, _, hl, hmx, hmm, hx, hi⟩
    · simp [Value.cells] at hcs
      obtain ⟨rfl, rfl, rfl⟩ := hcs
      exact law_drains none 0 0 0 [] W (by decide) ⟨fun h => absurd h (by decide), fun k hk => absurd hk (by simp)⟩ (tab_of hL)
    · simp [Value.cells] at hcs
      obtain ⟨rfl, rfl, rfl⟩ := hcs
      have hlm : len ≤ m := by split at hmm <;> omega
      have hcl : ∀ k, k < len → ∃ x : Bool × Int × Int, W.cell? (a.add (k * 3)) = some (.bool x.1) ∧ W.cell? (a.add (k * 3 + 1)) = some (.int .i64 x.2.1) ∧ W.cell? (a.add (k * 3 + 2)) = some (.int .i64 x.2.2) := by
        intro k hk
        obtain ⟨ys, n, _, _, _, hfk⟩ := hi k (by omega)
        obtain ⟨c0, y0, hc0, _, ht0⟩ := hfk 0 _ rfl
        obtain ⟨c1, y1, hc1, _, ht1⟩ := hfk 1 _ rfl
        obtain ⟨c2, y2, hc2, _, ht2⟩ := hfk 2 _ rfl
        obtain ⟨b0, e0, _⟩ := DataW.trod_bool Tryd.underlying4 ht0
        obtain ⟨n1, e1, _⟩ := DataW.trod_int Tryd.underlying3 ht1
        obtain ⟨n2, e2, _⟩ := DataW.trod_int Tryd.underlying3 ht2
        cases e0; cases e1; cases e2
        exact ⟨(b0, n1, n2), hc0, hc1, hc2⟩
      obtain ⟨O, hO, hOk⟩ : ∃ O : List (Bool × Int × Int), O.length = len ∧ ∀ k, k < len → W.cell? (a.add (k * 3)) = some (.bool (opAt O k).1) ∧ W.cell? (a.add (k * 3 + 1)) = some (.int .i64 (opAt O k).2.1) ∧ W.cell? (a.add (k * 3 + 2)) = some (.int .i64 (opAt O k).2.2) := by
        refine ⟨(List.range len).map fun k => if h : k < len then Classical.choose (hcl k h) else (false, 0, 0), by simp, fun k hk => ?_⟩
        have := Classical.choose_spec (hcl k hk)
        unfold opAt
        rw [List.getD_eq_getElem?_getD, List.getElem?_map, List.getElem?_range hk]
        simpa [hk] using this
      obtain ⟨b, off, spot⟩ := a
      have hsp : 0 < len → spot = none := fun h => by simpa [Addr.add] using World.cell?_spot (hOk 0 h).1
      have := law_drains (some ⟨b, off, spot⟩) b off cap O W (by rw [hO]; unfold maxLen at hmx; omega)
        ⟨by
          rw [hO]
          intro h
          obtain rfl := hsp h
          refine ⟨rfl, ?_⟩
          obtain ⟨o, ho, _⟩ := cells_of_cell (hOk 0 h).1
          exact (Array.getElem?_eq_some_iff.1 ho).1, by
          rw [hO]
          intro k hk
          obtain rfl := hsp (by omega)
          have := hOk k hk
          rwa [Addr.add_lit, Addr.add_lit, Addr.add_lit] at this⟩ (tab_of hL)
      rwa [hO] at this
  refine walk.mono fun e W' ⟨he, hb⟩ => ?_
  subst he
  exact ⟨_, rfl, law_post laidOut (by rw [Tryd.params4]; kernel_rfl) (by kernel_rfl) rfl Tryd.underlying4 hW' hb rfl rfl rfl⟩

theorem over : Rows.ReadyDrainsSaid :=
  OpenClaim.holds_of_wide 4 Tryd.f4 rfl rfl rfl rfl rfl rfl rfl ⟨rfl, rfl, rfl, rfl, rfl⟩ rfl rfl rfl rfl rfl (by kernel_rfl) Tryd.func4 (by kernel_rfl)
    (of_decide_eq_true (by kernel_rfl)) (by unfold Func.isWrapper; first | (rw [if_pos (by decide +kernel)]; kernel_rfl) | (rw [if_neg (by decide +kernel)]; exact ⟨rfl, rfl⟩))
    (fun os started H enc _ => lifted os started H enc)

theorem proved : Rows.ReadyDrainsCardSaid :=
  Claim7.holds_tied_plain_at .later [] [.data] true (true, "7e37e602ff75882458ef1778ca86acf3de63ea016f6618eba2f735c6ebd202b3") false over (fun _ h => by cases h) (by kernel_rfl) (fun _ h => by cases h) readyDrains_row_tie rfl ⟨rfl, rfl⟩ (by kernel_rfl) rfl
    (fun f fn hf hfn => by
      obtain rfl : f = 4 := Option.some.inj ((show Tryd.prog.funcNamed "remontoir/remontoirlaw22.ReadyDrains" = some 4 by kernel_rfl).symm.trans hf) |>.symm
      obtain rfl : fn = Tryd.f4 := (Option.some.inj (Tryd.func4.symm.trans hfn)).symm
      exact ⟨by kernel_rfl, fun j t ht => by
        rw [Tryd.params4] at ht
        have hm : t ∈ [22] := by simpa using Array.mem_of_getElem? ht
        have hall : ([22].all fun u => !Tryd.prog.wantsStandIn u) = true := by kernel_rfl
        exact (show Tryd.prog.wantsStandIn t = false by simpa using List.all_eq_true.1 hall t hm)⟩)
    (by kernel_rfl)
#print axioms proved
end Go.Proofs.YtimaihdlaaonbaaDoor.ReadyDrains
