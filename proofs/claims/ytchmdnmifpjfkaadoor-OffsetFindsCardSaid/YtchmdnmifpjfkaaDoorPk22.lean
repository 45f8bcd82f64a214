/- Several texts in one: Post, VO, VJ, OpenI. -/
import Derived.Carry
import Derived.OpenVars
import Derived.ProofKit
import Derived.OpenShut
import Derived.Test.YtchmdnmifpjfkaaDoorRows
import Derived.Test.YtchmdnmifpjfkaaDoorPk02
import Derived.WalkKit
import Derived.Lib.SmallJoins
import Derived.Deep.Slices
import Derived.Deep.Strs
/- A plain lemma of this prover's own: where a call returned true and nothing that lay before it has turned, what the law's row asks behind the call holds. No statement about the program. -/
namespace Go.Proofs.YtchmdnmifpjfkaaDoor
open Go.ChangeShapes Go.WideShapes Go.ChangeAt Go.RowKit

theorem trodAll_stays {H : Type} {enc : TypeId × Value → H} {P : Program} (hl : laidOutB P = true) {W W' : World} (hb : Below W.heap.size W W') :
    ∀ {ts : List TypeId} {vs : List Value} {ds : List (DataW H)} {ps : List MemPlace}, (ts.all fun t => P.readableRec t && decide (t < P.types.size)) = true →
      DataW.TrodAll enc P W 0 (fun _ => true) true ts vs ds ps → (∀ x ∈ ps, x.block < W.heap.size) → DataW.TrodAll enc P W' 0 (fun b => decide (b < W.heap.size)) true ts vs ds ps
  | [], [], [], _, _, h, _ => h
  | t :: ts, v :: vs, d :: ds, ps, hr, h, hlt => by
    obtain ⟨p, q, h1, h2, e⟩ := h
    simp only [List.all_cons, Bool.and_eq_true, decide_eq_true_eq] at hr
    refine ⟨p, q, Below.trod hl hr.1.1 hr.1.2 h1 hb (fun x hx => hlt x (by rw [e]; simp [hx])), trodAll_stays hl hb hr.2 h2 (fun x hx => hlt x (by rw [e]; simp [hx])), e⟩
  | [], [], _ :: _, _, _, h, _ => h.elim
  | [], _ :: _, _, _, _, h, _ => by cases ‹List (DataW H)› <;> exact h.elim
  | _ :: _, [], _, _, _, h, _ => by cases ‹List (DataW H)› <;> exact h.elim
  | _ :: _, _ :: _, [], _, _, h, _ => h.elim

theorem law_post {H : Type} {enc : TypeId × Value → H} {P : Program} {f : Func} {s : ChangeSpec} {fresh handsOn : Bool} {W W' : World} {args : Array Value} {ds gs : List (DataW H)} {before : List MemPlace} {tb : TypeId}
    (hl : laidOutB P = true) (hr : (f.params.toList.all fun t => P.readableRec t && decide (t < P.types.size)) = true) (hv : varsRowed P s.vars = true) (htb : f.resultTypes = #[tb]) (hub : P.underlying tb = some .bool)
    (hW : DataW.Whole enc P f.params.toList s.vars false W args.toList ds gs before) (hb : Below W.heap.size W W')
    (hres : (s.fn H (ds ++ gs)).results = [.lit (.bool true)]) (hargs : (s.fn H (ds ++ gs)).args = ds) (hvars : (s.fn H (ds ++ gs)).vars = gs) :
    s.post enc P f false fresh handsOn false W args (.bool true) W' := by
  have hlt : ∀ x ∈ before, x.block < W.heap.size := fun x hx => by simpa using hW.lt x hx
  have hW' := hW
  obtain ⟨p, q, hA, hV, rfl, hz, hn⟩ := hW
  refine ⟨ds, gs, _, [], p, q, hW', ?_, ?_, ?_, hb.frame _, fun h => by cases h⟩
  · rw [hres, htb]
    exact trodAll_cons_mk (shut_bool hub true) trodAll_mk0
  · rw [hargs]; exact trodAll_stays hl hb hr hA (fun x hx => hlt x (by simp [hx]))
  · rw [hvars]; exact Below.trodVars hl hb hv hV

end Go.Proofs.YtchmdnmifpjfkaaDoor
/- Plain facts for the law texts of class and image. No statement about the program's functions. -/
namespace Go.Proofs.YtchmdnmifpjfkaaDoor
open Go.ChangeShapes Go.WideShapes Go.ChangeAt Go.RowKit Go.Deep Go.Joins

theorem own : ownKnob Tryd.prog.godebug = none := by kernel_rfl
theorem laidOut : laidOutB Tryd.prog = true := by kernel_rfl
theorem word_of {n : Int} (h : (Lit.int .u32 n).wf = true) : 0 ≤ n ∧ n < 4294967296 := by
  simp [Lit.wf, IntKind.min, IntKind.max, IntKind.signed, IntKind.bits] at h
  omega
theorem int_of {n : Int} (h : (Lit.int .i64 n).wf = true) : -9223372036854775808 ≤ n ∧ n ≤ 9223372036854775807 := by
  simp [Lit.wf, IntKind.min, IntKind.max, IntKind.signed, IntKind.bits] at h
  omega
theorem wf32 {n : Int} (h : (Lit.int .u32 n).wf = true) : w32 (BitVec.ofInt 32 n) = n := by
  have h' := word_of h
  unfold w32
  rw [BitVec.toNat_ofInt]
  omega
end Go.Proofs.YtchmdnmifpjfkaaDoor
/- What an image that a row hands in is. No statement about the program's functions. -/
namespace Go.Proofs.YtchmdnmifpjfkaaDoor
open Go.ChangeShapes Go.WideShapes Go.ChangeAt Go.RowKit Go.Deep Go.Joins

theorem cellsTask : Tryd.prog.cellsOf 70 = 11 := by kernel_rfl
theorem cellsMode : Tryd.prog.cellsOf 100 = 2 := by kernel_rfl
theorem cellsEdge : Tryd.prog.cellsOf 66 = 23 := by kernel_rfl
theorem cellsQueue : Tryd.prog.cellsOf 110 = 2 := by kernel_rfl
theorem cellsI : Tryd.prog.cellsOf 3 = 1 := by kernel_rfl
theorem cellsPol : Tryd.prog.cellsOf 108 = 1 := by kernel_rfl
theorem cellsProt : Tryd.prog.cellsOf 63 = 1 := by kernel_rfl
theorem cellsW32 : Tryd.prog.cellsOf 30 = 1 := by kernel_rfl
theorem cellsQs : Tryd.prog.cellsOf 98 = 1 := by kernel_rfl
theorem cellsA8 : Tryd.prog.cellsOf 68 = 8 := by kernel_rfl
theorem cellsA16 : Tryd.prog.cellsOf 27 = 16 := by kernel_rfl
theorem cellsA4 : Tryd.prog.cellsOf 64 = 4 := by kernel_rfl
theorem at_add {w : World} {b off k n : Nat} {l : List Value} (h : ∀ j, j < n → w.cell? (((⟨b, off, none⟩ : Addr).add k).add j) = l[j]?) (hl : l.length = n) : At w b (off + k) l := by
  intro j u hu
  have hj := (List.getElem?_eq_some_iff.1 hu).1
  have := h j (by omega)
  rw [Addr.add_lit, Addr.add_lit] at this
  rw [this, hu]
section
variable {H : Type} {enc : TypeId × Value → H} {w : World} {base : Nat} {spare : Nat → Bool} {held : Bool}
/-- An array of numbers. -/
theorem open_arr {t : TypeId} {n fuel : Nat} {cs : List Value} {x : DataW H × List MemPlace} (hu : Tryd.prog.underlying t = some (.array n 3)) (hc : Tryd.prog.cellsOf t = n) (h : DataW.trod enc Tryd.prog w base spare held fuel t cs = some x) :
    ∃ zs : List Int, cs = rowZ zs ∧ zs.length = n := by
  obtain ⟨xs, m, _, _, hl, hxl, hf⟩ := DataW.trod_array hu h
  rw [hc] at hl
  have hone : ∀ i, i < n → ∃ z : Int, cs[i]? = some (.int .i64 z) := fun i hi => by
    have h1 := hf i hi
    rw [cellsI, Nat.mul_one, List.getElem?_eq_getElem (by omega : i < xs.length)] at h1
    obtain ⟨z, e, _⟩ := DataW.trod_int Tryd.underlying3 h1
    refine ⟨z, ?_⟩
    have := congrArg (·[0]?) e
    simpa [List.getElem?_take, List.getElem?_drop] using this
  obtain ⟨f, hfz⟩ := choose_lt hone
  refine ⟨(List.range n).map f, ?_, by simp⟩
  apply List.ext_getElem?
  intro i
  by_cases hi : i < n
  · rw [hfz i hi]; simp [rowZ, hi]
  · rw [List.getElem?_eq_none (by omega), List.getElem?_eq_none (by simp [rowZ]; omega)]
theorem open_task {fuel : Nat} {cs : List Value} {x : DataW H × List MemPlace} (h : DataW.trod enc Tryd.prog w base spare held fuel 70 cs = some x) : ∃ t : TaskM, cs = taskC t ∧ t.lon.length = 8 := by
  obtain ⟨y0, y1, y2, y3, n, _, hl, t0, t1, t2, t3⟩ := trod_struct4 Tryd.underlying70 h
  rw [cellsTask] at hl
  rw [cellsI] at t0 t1 t2
  rw [cellsA8] at t3
  obtain ⟨z3, e3, l3⟩ := open_arr Tryd.underlying68 cellsA8 t3
  obtain ⟨z0, e0, _⟩ := DataW.trod_int Tryd.underlying3 t0
  obtain ⟨z1, e1, _⟩ := DataW.trod_int Tryd.underlying3 t1
  obtain ⟨z2, e2, _⟩ := DataW.trod_int Tryd.underlying3 t2
  rcases cs with _ | ⟨c0, _ | ⟨c1, _ | ⟨c2, r⟩⟩⟩
  · simp at hl
  · simp at hl
  · simp at hl
  · simp at e0 e1 e2
    subst e0 e1 e2
    have hr : r.length = 8 := by simpa using hl
    rw [show List.take 8 (List.drop 3 (Value.int .i64 z0 :: Value.int .i64 z1 :: Value.int .i64 z2 :: r)) = r from by
      rw [List.drop_succ_cons, List.drop_succ_cons, List.drop_succ_cons, List.drop_zero, List.take_of_length_le (by omega)]] at e3
    exact ⟨⟨z0, z1, z2, z3⟩, by rw [e3]; rfl, l3⟩
set_option maxRecDepth 100000 in
theorem open_edge {fuel : Nat} {cs : List Value} {x : DataW H × List MemPlace} (h : DataW.trod enc Tryd.prog w base spare held fuel 66 cs = some x) : ∃ t : EdgeM, cs = edgeC t ∧ t.offs.length = 16 ∧ t.map.length = 4 := by
  obtain ⟨xs, n, _, _, hl, hxl, hf⟩ := DataW.trod_struct Tryd.underlying66 h
  have hxl : xs.length = 5 := hxl
  rw [cellsEdge] at hl
  have t0 := hf 0 _ rfl
  have t1 := hf 1 _ rfl
  have t2 := hf 2 _ rfl
  have t3 := hf 3 _ rfl
  have t4 := hf 4 _ rfl
  rw [List.getElem?_eq_getElem (by omega)] at t0 t1 t2 t3 t4
  obtain ⟨z3, e3, l3⟩ := open_arr Tryd.underlying27 cellsA16 t3
  obtain ⟨z4, e4, l4⟩ := open_arr Tryd.underlying64 cellsA4 t4
  obtain ⟨z0, e0, _⟩ := DataW.trod_int Tryd.underlying3 t0
  obtain ⟨z1, e1, _⟩ := DataW.trod_int Tryd.underlying3 t1
  obtain ⟨z2, e2, _⟩ := DataW.trod_int Tryd.underlying63 t2
  have g0 : List.take (Tryd.prog.cellsOf 3) (List.drop 0 cs) = [.int .i64 z0] := e0
  have g1 : List.take (Tryd.prog.cellsOf 3) (List.drop 1 cs) = [.int .i64 z1] := e1
  have g2 : List.take (Tryd.prog.cellsOf 63) (List.drop 2 cs) = [.int .i64 z2] := e2
  have g3 : List.take (Tryd.prog.cellsOf 27) (List.drop 3 cs) = rowZ z3 := e3
  have g4 : List.take (Tryd.prog.cellsOf 64) (List.drop 19 cs) = rowZ z4 := e4
  clear e0 e1 e2 e3 e4 t0 t1 t2 t3 t4
  rw [cellsI] at g0 g1
  rw [cellsProt] at g2
  rw [cellsA16] at g3
  rw [cellsA4] at g4
  rcases cs with _ | ⟨c0, _ | ⟨c1, _ | ⟨c2, r⟩⟩⟩
  · simp at hl
  · simp at hl
  · simp at hl
  · simp at g0 g1 g2
    subst g0 g1 g2
    have hr : r.length = 20 := by simpa using hl
    rw [show List.drop 3 (Value.int .i64 z0 :: Value.int .i64 z1 :: Value.int .i64 z2 :: r) = r from rfl] at g3
    rw [show List.drop 19 (Value.int .i64 z0 :: Value.int .i64 z1 :: Value.int .i64 z2 :: r) = List.drop 16 r from rfl, List.take_of_length_le (by rw [List.length_drop]; omega)] at g4
    exact ⟨⟨z0, z1, z2, z3, z4⟩, by show _ = Value.int .i64 z0 :: .int .i64 z1 :: .int .i64 z2 :: (rowZ z3 ++ rowZ z4); rw [← g3, ← g4, List.take_append_drop], l3, l4⟩
set_option maxRecDepth 100000 in
theorem open_tasks {fuel : Nat} {cs : List Value} {x : DataW H × List MemPlace} (h : DataW.trod enc Tryd.prog w base spare held fuel 22 cs = some x) :
    ∃ (S : Src) (L : List TaskM), cs = [.slice S.sp L.length S.c] ∧ SlAt w (fun _ => False) S L.length ∧ ∀ k, k < L.length → At w S.b (S.o + k * 11) (taskC (L.getD k default)) ∧ (L.getD k default).lon.length = 8 := by
  rcases open_slice Tryd.underlying22 h with ⟨hcs, _⟩ | ⟨a, len, cap, m, n, D, Pl, hcs, _, hl, hm, hmm, _, hi⟩
  · exact ⟨⟨none, 0, 0, 0⟩, [], hcs, ⟨fun h0 => absurd h0 (Nat.lt_irrefl 0), Nat.zero_le _⟩, fun k hk => absurd hk (Nat.not_lt_zero k)⟩
  · have hlm : len ≤ m := by split at hmm <;> omega
    have hone : ∀ k, k < len → ∃ t : TaskM, (∀ j, j < 11 → w.cell? ((a.add (k * 11)).add j) = (taskC t)[j]?) ∧ t.lon.length = 8 := fun k hk => by
      obtain ⟨cs, hc, ht⟩ := hi k (by omega)
      rw [cellsTask] at hc
      obtain ⟨_, hcl, hat⟩ := World.cells?_some hc
      obtain ⟨t, rfl, h8⟩ := open_task ht
      exact ⟨t, fun j hj => hat j hj, h8⟩
    obtain ⟨f, hf⟩ := choose_lt hone
    obtain ⟨b, off, spot⟩ := a
    have hsp : 0 < len → spot = none := fun h0 => by
      have := (hf 0 h0).1 0 (by omega)
      simpa [Addr.add] using World.cell?_spot (this.trans rfl)
    have hlt : 0 < len → b < w.heap.size := fun h0 => by
      have := (hf 0 h0).1 0 (by omega)
      simpa [Addr.add] using World.block_lt_of_cell? w _ (this.trans rfl)
    have hg : ∀ k, k < len → ((List.range len).map f).getD k default = f k := fun k hk => by simp [hk]
    refine ⟨⟨some ⟨b, off, spot⟩, b, off, cap⟩, (List.range len).map f, by simpa using hcs, ⟨fun h0 => ?_, by unfold maxLen at hm; simp; omega⟩, fun k hk => ?_⟩
    · have h0' : 0 < len := by simpa using h0
      exact ⟨by rw [hsp h0'], hlt h0', fun h => h⟩
    · have hk' : k < len := by simpa using hk
      obtain rfl := hsp (by omega)
      rw [hg k hk']
      refine ⟨at_add (hf k hk').1 ?_, (hf k hk').2⟩
      simp [taskC, rowZ, (hf k hk').2]
set_option maxRecDepth 100000 in
theorem open_edges {fuel : Nat} {cs : List Value} {x : DataW H × List MemPlace} (h : DataW.trod enc Tryd.prog w base spare held fuel 24 cs = some x) :
    ∃ (S : Src) (L : List EdgeM), cs = [.slice S.sp L.length S.c] ∧ SlAt w (fun _ => False) S L.length ∧ ∀ k, k < L.length → At w S.b (S.o + k * 23) (edgeC (L.getD k default)) ∧ (L.getD k default).offs.length = 16 ∧ (L.getD k default).map.length = 4 := by
  rcases open_slice Tryd.underlying24 h with ⟨hcs, _⟩ | ⟨a, len, cap, m, n, D, Pl, hcs, _, hl, hm, hmm, _, hi⟩
  · exact ⟨⟨none, 0, 0, 0⟩, [], hcs, ⟨fun h0 => absurd h0 (Nat.lt_irrefl 0), Nat.zero_le _⟩, fun k hk => absurd hk (Nat.not_lt_zero k)⟩
  · have hlm : len ≤ m := by split at hmm <;> omega
    have hone : ∀ k, k < len → ∃ t : EdgeM, (∀ j, j < 23 → w.cell? ((a.add (k * 23)).add j) = (edgeC t)[j]?) ∧ t.offs.length = 16 ∧ t.map.length = 4 := fun k hk => by
      obtain ⟨cs, hc, ht⟩ := hi k (by omega)
      rw [cellsEdge] at hc
      obtain ⟨_, hcl, hat⟩ := World.cells?_some hc
      obtain ⟨t, rfl, h8⟩ := open_edge ht
      exact ⟨t, fun j hj => hat j hj, h8⟩
    obtain ⟨f, hf⟩ := choose_lt hone
    obtain ⟨b, off, spot⟩ := a
    have hsp : 0 < len → spot = none := fun h0 => by
      have := (hf 0 h0).1 0 (by omega)
      simpa [Addr.add] using World.cell?_spot (this.trans rfl)
    have hlt : 0 < len → b < w.heap.size := fun h0 => by
      have := (hf 0 h0).1 0 (by omega)
      simpa [Addr.add] using World.block_lt_of_cell? w _ (this.trans rfl)
    have hg : ∀ k, k < len → ((List.range len).map f).getD k default = f k := fun k hk => by simp [hk]
    refine ⟨⟨some ⟨b, off, spot⟩, b, off, cap⟩, (List.range len).map f, by simpa using hcs, ⟨fun h0 => ?_, by unfold maxLen at hm; simp; omega⟩, fun k hk => ?_⟩
    · have h0' : 0 < len := by simpa using h0
      exact ⟨by rw [hsp h0'], hlt h0', fun h => h⟩
    · have hk' : k < len := by simpa using hk
      obtain rfl := hsp (by omega)
      rw [hg k hk']
      refine ⟨at_add (hf k hk').1 ?_, (hf k hk').2⟩
      simp [edgeC, rowZ, (hf k hk').2.1, (hf k hk').2.2]
set_option maxRecDepth 100000 in
theorem open_queues {fuel : Nat} {cs : List Value} {x : DataW H × List MemPlace} (h : DataW.trod enc Tryd.prog w base spare held fuel 98 cs = some x) :
    ∃ (S : Src) (L : List (Int × Int)), cs = [.slice S.sp L.length S.c] ∧ SlAt w (fun _ => False) S L.length ∧ ∀ j, j < L.length → w.cell? ⟨S.b, S.o + j * 2, none⟩ = some (.int .i64 (L.getD j (0, 0)).1) ∧ w.cell? ⟨S.b, S.o + j * 2 + 1, none⟩ = some (.int .i64 (L.getD j (0, 0)).2) := by
  rcases open_slice Tryd.underlying98 h with ⟨hcs, _⟩ | ⟨a, len, cap, m, n, D, Pl, hcs, _, hl, hm, hmm, _, hi⟩
  · exact ⟨⟨none, 0, 0, 0⟩, [], hcs, ⟨fun h0 => absurd h0 (Nat.lt_irrefl 0), Nat.zero_le _⟩, fun k hk => absurd hk (Nat.not_lt_zero k)⟩
  · have hlm : len ≤ m := by split at hmm <;> omega
    have hone : ∀ k, k < len → ∃ t : Int × Int, w.cell? (a.add (k * 2)) = some (.int .i64 t.1) ∧ w.cell? (a.add (k * 2 + 1)) = some (.int .i64 t.2) := fun k hk => by
      obtain ⟨cs, hc, ht⟩ := hi k (by omega)
      rw [cellsQueue] at hc
      obtain ⟨_, hcl, hat⟩ := World.cells?_some hc
      obtain ⟨y0, y1, n', _, _, t0, t1⟩ := trod_struct2 Tryd.underlying110 ht
      obtain ⟨u0, u1, rfl⟩ : ∃ u v, cs = [u, v] := by match cs, hcl with | [u, v], _ => exact ⟨u, v, rfl⟩
      rw [cellsI] at t0
      rw [cellsPol] at t1
      obtain ⟨z0, e0, _⟩ := DataW.trod_int Tryd.underlying3 t0
      obtain ⟨z1, e1, _⟩ := DataW.trod_int Tryd.underlying108 t1
      have a0 := hat 0 (by omega)
      have a1 := hat 1 (by omega)
      rw [Go.Deep.add_add] at a0 a1
      simp at e0 e1
      subst e0 e1
      exact ⟨(z0, z1), a0, a1⟩
    obtain ⟨f, hf⟩ := choose_lt hone
    obtain ⟨b, off, spot⟩ := a
    have hsp : 0 < len → spot = none := fun h0 => by simpa [Addr.add] using World.cell?_spot (hf 0 h0).1
    have hg : ∀ k, k < len → ((List.range len).map f).getD k (0, 0) = f k := fun k hk => by simp [hk]
    refine ⟨⟨some ⟨b, off, spot⟩, b, off, cap⟩, (List.range len).map f, by simpa using hcs, ⟨fun h0 => ?_, by unfold maxLen at hm; simp; omega⟩, fun k hk => ?_⟩
    · have h0' : 0 < len := by simpa using h0
      exact ⟨by rw [hsp h0'], by simpa [Addr.add] using World.block_lt_of_cell? w _ (hf 0 h0').1, fun h => h⟩
    · have hk' : k < len := by simpa using hk
      obtain rfl := hsp (by omega)
      have := hf k hk'
      rw [hg k hk']
      rwa [Addr.add_lit, Addr.add_lit] at this
set_option maxRecDepth 100000 in
theorem open_modes {fuel : Nat} {cs : List Value} {x : DataW H × List MemPlace} (h : DataW.trod enc Tryd.prog w base spare held fuel 23 cs = some x) :
    ∃ (S : Src) (L : List ModeM) (Q : Nat → Src), cs = [.slice S.sp L.length S.c] ∧ SlAt w (fun _ => False) S L.length ∧
      (∀ k, k < L.length → w.cell? ⟨S.b, S.o + k * 2, none⟩ = some (.int .u32 (w32 (L.getD k default).tasks)) ∧ w.cell? ⟨S.b, S.o + k * 2 + 1, none⟩ = some (.slice (Q k).sp (L.getD k default).qs.length (Q k).c) ∧ SlAt w (fun _ => False) (Q k) (L.getD k default).qs.length) ∧
      ∀ k, k < L.length → ∀ j, j < (L.getD k default).qs.length → w.cell? ⟨(Q k).b, (Q k).o + j * 2, none⟩ = some (.int .i64 ((L.getD k default).qs.getD j (0, 0)).1) ∧ w.cell? ⟨(Q k).b, (Q k).o + j * 2 + 1, none⟩ = some (.int .i64 ((L.getD k default).qs.getD j (0, 0)).2) := by
  rcases open_slice Tryd.underlying23 h with ⟨hcs, _⟩ | ⟨a, len, cap, m, n, D, Pl, hcs, _, hl, hm, hmm, _, hi⟩
  · exact ⟨⟨none, 0, 0, 0⟩, [], fun _ => ⟨none, 0, 0, 0⟩, hcs, ⟨fun h0 => absurd h0 (Nat.lt_irrefl 0), Nat.zero_le _⟩, fun k hk => absurd hk (Nat.not_lt_zero k), fun k hk => absurd hk (Nat.not_lt_zero k)⟩
  · have hlm : len ≤ m := by split at hmm <;> omega
    have hone : ∀ k, k < len → ∃ t : ModeM × Src, w.cell? (a.add (k * 2)) = some (.int .u32 (w32 t.1.tasks)) ∧ w.cell? (a.add (k * 2 + 1)) = some (.slice t.2.sp t.1.qs.length t.2.c) ∧ SlAt w (fun _ => False) t.2 t.1.qs.length ∧
        ∀ j, j < t.1.qs.length → w.cell? ⟨t.2.b, t.2.o + j * 2, none⟩ = some (.int .i64 (t.1.qs.getD j (0, 0)).1) ∧ w.cell? ⟨t.2.b, t.2.o + j * 2 + 1, none⟩ = some (.int .i64 (t.1.qs.getD j (0, 0)).2) := fun k hk => by
      obtain ⟨cs, hc, ht⟩ := hi k (by omega)
      rw [cellsMode] at hc
      obtain ⟨_, hcl, hat⟩ := World.cells?_some hc
      obtain ⟨y0, y1, n', _, _, t0, t1⟩ := trod_struct2 Tryd.underlying100 ht
      obtain ⟨u0, u1, rfl⟩ : ∃ u v, cs = [u, v] := by match cs, hcl with | [u, v], _ => exact ⟨u, v, rfl⟩
      rw [cellsW32] at t0
      rw [cellsQs] at t1
      obtain ⟨z0, e0, f0⟩ := DataW.trod_int Tryd.underlying30 t0
      obtain ⟨S, L, e1, hs, hq⟩ := open_queues t1
      have a0 := hat 0 (by omega)
      have a1 := hat 1 (by omega)
      rw [Go.Deep.add_add] at a0 a1
      simp at e0 e1
      subst e0 e1
      obtain ⟨w1, w2⟩ := word_of f0.2
      refine ⟨(⟨BitVec.ofNat 32 z0.toNat, L⟩, S), ?_, a1, hs, hq⟩
      rw [show w32 (BitVec.ofNat 32 z0.toNat) = z0 by unfold w32; rw [BitVec.toNat_ofNat]; omega]
      exact a0
    haveI : Inhabited (ModeM × Src) := ⟨(default, ⟨none, 0, 0, 0⟩)⟩
    obtain ⟨f, hf⟩ := choose_lt hone
    obtain ⟨b, off, spot⟩ := a
    have hsp : 0 < len → spot = none := fun h0 => by simpa [Addr.add] using World.cell?_spot (hf 0 h0).1
    have hg : ∀ k, k < len → ((List.range len).map fun i => (f i).1).getD k default = (f k).1 := fun k hk => by simp [hk]
    refine ⟨⟨some ⟨b, off, spot⟩, b, off, cap⟩, (List.range len).map (fun i => (f i).1), fun i => (f i).2, by simpa using hcs, ⟨fun h0 => ?_, by unfold maxLen at hm; simp; omega⟩, fun k hk => ?_, fun k hk => ?_⟩
    · have h0' : 0 < len := by simpa using h0
      exact ⟨by rw [hsp h0'], by simpa [Addr.add] using World.block_lt_of_cell? w _ (hf 0 h0').1, fun h => h⟩
    · have hk' : k < len := by simpa using hk
      obtain rfl := hsp (by omega)
      have := hf k hk'
      rw [hg k hk']
      rw [Addr.add_lit, Addr.add_lit] at this
      exact ⟨this.1, this.2.1, this.2.2.1⟩
    · have hk' : k < len := by simpa using hk
      rw [hg k hk']
      exact (hf k hk').2.2.2

set_option maxRecDepth 100000 in
theorem open_img {r : Reach} {b0 : Nat} {v : Value} {d : DataW H} {p : List MemPlace} (hv : Value.okWide Tryd.prog w r b0 26 v) (h : DataW.Trod enc Tryd.prog w base spare held 26 v d p) :
    ∃ (x : Img) (S : ImgS), v = .agg #[.int .i64 x.res, .slice S.t.sp x.tasks.length S.t.c, .slice S.m.sp x.modes.length S.m.c, .slice S.e.sp x.edges.length S.e.c] ∧ ImgAt w (fun _ => False) x S := by
  obtain ⟨v0, v1, v2, v3, y0, y1, y2, y3, n, rfl, -, -, t0, t1, t2, t3⟩ := open_agg4 Tryd.underlying26 (by kernel_rfl) (by kernel_rfl) hv h
  obtain ⟨z0, e0, _⟩ := DataW.trod_int Tryd.underlying3 t0
  obtain ⟨S1, L1, e1, s1, h1⟩ := open_tasks t1
  obtain ⟨S2, L2, Q, e2, s2, h2, q2⟩ := open_modes t2
  obtain ⟨S3, L3, e3, s3, h3⟩ := open_edges t3
  simp at e0 e1 e2 e3
  subst e0 e1 e2 e3
  exact ⟨⟨z0, L1, L2, L3⟩, ⟨S1, S2, S3, Q⟩, rfl, ⟨s1, s2, s3, h1, h2, q2, h3⟩⟩
end
end Go.Proofs.YtchmdnmifpjfkaaDoor
/- What an image is that a row hands in, and how much its tasks' slice holds. No statement about the program's functions. -/
namespace Go.Proofs.YtchmdnmifpjfkaaDoor
open Go.ChangeShapes Go.WideShapes Go.ChangeAt Go.RowKit Go.Deep Go.Joins
section
variable {H : Type} {enc : TypeId × Value → H} {w : World} {base : Nat} {spare : Nat → Bool} {held : Bool}
theorem open_capI {fuel : Nat} {sp : Option Addr} {len cap : Nat} {x : DataW H × List MemPlace} (h : DataW.trod enc Tryd.prog w base spare held fuel 22 [.slice sp len cap] = some x) : len ≤ cap := by
  rcases open_slice Tryd.underlying22 h with ⟨hcs, _⟩ | ⟨a, len', cap', _, _, _, _, hcs, _, hl, _⟩
  · simp at hcs; omega
  · simp at hcs; omega
set_option maxRecDepth 100000 in
theorem open_imgC {r : Reach} {b0 : Nat} {v : Value} {d : DataW H} {p : List MemPlace} (hv : Value.okWide Tryd.prog w r b0 26 v) (h : DataW.Trod enc Tryd.prog w base spare held 26 v d p) :
    ∃ (x : Img) (S : ImgS), v = .agg #[.int .i64 x.res, .slice S.t.sp x.tasks.length S.t.c, .slice S.m.sp x.modes.length S.m.c, .slice S.e.sp x.edges.length S.e.c] ∧ ImgAt w (fun _ => False) x S ∧ x.tasks.length ≤ S.t.c := by
  obtain ⟨v0, v1, v2, v3, y0, y1, y2, y3, n, rfl, -, -, t0, t1, t2, t3⟩ := open_agg4 Tryd.underlying26 (by kernel_rfl) (by kernel_rfl) hv h
  obtain ⟨z0, e0, _⟩ := DataW.trod_int Tryd.underlying3 t0
  obtain ⟨S1, L1, e1, s1, h1⟩ := open_tasks t1
  obtain ⟨S2, L2, Q, e2, s2, h2, q2⟩ := open_modes t2
  obtain ⟨S3, L3, e3, s3, h3⟩ := open_edges t3
  simp at e0 e1 e2 e3
  subst e0 e1 e2 e3
  exact ⟨⟨z0, L1, L2, L3⟩, ⟨S1, S2, S3, Q⟩, rfl, ⟨s1, s2, s3, h1, h2, q2, h3⟩, open_capI t1⟩
end
end Go.Proofs.YtchmdnmifpjfkaaDoor
