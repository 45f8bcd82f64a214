/- Plain facts for the law texts of queue: what slices of numbers and of calls that a row hands in are. No statement about the program's functions. -/
import Derived.Test.YthpagbfabpfngaaRows
import Derived.Test.YthpagbfabpfngaaPost
import Derived.Test.YthpagbfabpfngaaQK
import Derived.WalkKit
import Derived.ProofKit
import Derived.OpenShut
import Derived.Lib.SmallJoins
import Derived.Deep.Slices
import Derived.Deep.Strs
namespace Go.Proofs.Ythpagbfabpfngaa
open Go.ChangeShapes Go.WideShapes Go.ChangeAt Go.RowKit Go.Deep Go.Joins

theorem own : ownKnob Try.prog.godebug = none := by kernel_rfl
theorem laidOut : laidOutB Try.prog = true := by kernel_rfl
theorem cellsInt : Try.prog.cellsOf 3 = 1 := by kernel_rfl
theorem cellsInts : Try.prog.cellsOf 25 = 1 := by kernel_rfl
theorem cellsOp27 : Try.prog.cellsOf 73 = 3 := by kernel_rfl
theorem three_of_len {α : Type} (l : List α) (h : l.length = 3) : ∃ a b c, l = [a, b, c] := by
  rcases l with _ | ⟨a, _ | ⟨b, _ | ⟨c, _ | ⟨d, l⟩⟩⟩⟩
  · simp at h
  · simp at h
  · simp at h
  · exact ⟨a, b, c, rfl⟩
  · simp at h
instance : Inhabited OpQ := ⟨opQ0⟩

section
variable {H : Type} {enc : TypeId × Value → H} {w : World} {base : Nat} {spare : Nat → Bool} {held : Bool}
/-- A slice of numbers. -/
theorem open_si {fuel : Nat} {v : Value} {x : DataW H × List MemPlace} (h : DataW.trod enc Try.prog w base spare held fuel 25 [v] = some x) :
    ∃ (sp : Option Addr) (cap : Nat) (L : List Int), v = .slice sp L.length cap ∧ L.length ≤ maxLen ∧ SI (fun j => w.heap.size ≤ j) w sp cap L := by
  rcases open_slice Try.underlying25 h with ⟨hcs, _⟩ | ⟨a, len, cap, m, n, D, Pl, hcs, _, hl, hm, hmm, _, hi⟩
  · simp at hcs
    exact ⟨none, 0, [], hcs, by unfold maxLen; simp, SI.none _ _⟩
  · simp at hcs
    subst hcs
    have hlm : len ≤ m := by split at hmm <;> omega
    have hone : ∀ k, k < len → ∃ y : Int, w.cell? (a.add k) = some (.int .i64 y) := by
      intro k hk
      obtain ⟨cs, hc, ht⟩ := hi k (by omega)
      rw [cellsInt, Nat.mul_one] at hc
      obtain ⟨_, hcl, hat⟩ := World.cells?_some hc
      obtain ⟨n0, e0, _, hw⟩ := DataW.trod_int Try.underlying3 ht
      have a0 := hat 0 (by omega)
      rw [Go.Deep.add_add] at a0
      subst e0
      exact ⟨n0, by simpa using a0⟩
    obtain ⟨f, hf⟩ := choose_lt hone
    have hg : ∀ k, k < len → nth ((List.range len).map f) k = f k := fun k hk => by simp [nth, hk]
    have hlen : ((List.range len).map f).length = len := by simp
    obtain ⟨b, off, spot⟩ := a
    have spn : ∀ k, k < len → spot = none := fun k hk => by simpa [Addr.add] using World.cell?_spot (hf 0 (by omega))
    refine ⟨some ⟨b, off, spot⟩, cap, (List.range len).map f, by rw [hlen], by omega, ⟨⟨b, off, ⟨fun h0 => ?_, fun k hk => ?_⟩, fun h0 hT => ?_⟩, by omega⟩⟩
    · have h0' : 0 < len := by simpa using h0
      obtain rfl := spn 0 h0'
      exact ⟨rfl, by simpa [Addr.add] using World.block_lt_of_cell? w _ (hf 0 h0')⟩
    · have hk' : k < len := by simpa using hk
      obtain rfl := spn k hk'
      have := hf k hk'
      rw [hg k hk']
      rwa [Addr.add_lit] at this
    · have h0' : 0 < len := by simpa using h0
      have : b < w.heap.size := by simpa [Addr.add] using World.block_lt_of_cell? w _ (hf 0 h0')
      omega
set_option maxRecDepth 100000 in
/-- A struct of two numbers, by value. -/
theorem open_two {r : Reach} {b0 : Nat} {v : Value} {d : DataW H} {p : List MemPlace} (hv : Value.okWide Try.prog w r b0 65 v) (h : DataW.Trod enc Try.prog w base spare held 65 v d p) :
    ∃ x1 x2 : Int, v = .agg #[.int .i64 x1, .int .i64 x2] := by
  obtain ⟨v0, v1, y0, y1, n, rfl, -, -, t0, t1⟩ := open_agg2 Try.underlying65 (by kernel_rfl) (by kernel_rfl) hv h
  obtain ⟨n0, e0, _, f0⟩ := DataW.trod_int Try.underlying3 t0
  obtain ⟨n1, e1, _, f1⟩ := DataW.trod_int Try.underlying63 t1
  simp at e0 e1
  subst e0 e1
  exact ⟨_, _, rfl⟩
/-- A slice of calls. -/
theorem open_opq {fuel : Nat} {sp : Option Addr} {len cap : Nat} {x : DataW H × List MemPlace} (h : DataW.trod enc Try.prog w base spare held fuel 66 [.slice sp len cap] = some x) :
    len ≤ maxLen ∧ ∃ (O : List OpQ) (b off : Nat), O.length = len ∧ OpsQ w sp b off O := by
  rcases open_slice Try.underlying66 h with ⟨hcs, _⟩ | ⟨a, len', cap', m, n, D, Pl, hcs, _, hl, hm, hmm, _, hi⟩
  · simp at hcs
    obtain ⟨rfl, rfl, rfl⟩ := hcs
    exact ⟨by unfold maxLen; omega, [], 0, 0, rfl, ⟨fun h => by simp at h, fun k hk => by simp at hk⟩⟩
  · simp at hcs
    obtain ⟨rfl, rfl, rfl⟩ := hcs
    have hlm : len ≤ m := by split at hmm <;> omega
    have hone : ∀ k, k < len → ∃ y : OpQ, w.cell? (a.add (k * 3)) = some (.int .i64 y.k) ∧ w.cell? (a.add (k * 3 + 1)) = some (.int .i64 y.n) ∧ w.cell? (a.add (k * 3 + 2)) = some (.slice y.sp y.x.length y.cap) ∧ SI (fun j => w.heap.size ≤ j) w y.sp y.cap y.x ∧ y.x.length ≤ 9223372036854775807 := by
      intro k hk
      obtain ⟨cs, hc, ht⟩ := hi k (by omega)
      rw [cellsOp27] at hc
      obtain ⟨_, hcl, hat⟩ := World.cells?_some hc
      obtain ⟨y0, y1, y2, n', _, _, t0, t1, t2⟩ := trod_struct3 Try.underlying73 ht
      obtain ⟨u0, u1, u2, rfl⟩ := three_of_len cs hcl
      rw [cellsInt] at t0 t1
      rw [cellsInts] at t2
      obtain ⟨n0, e0, _⟩ := DataW.trod_int Try.underlying3 t0
      obtain ⟨n1, e1, _⟩ := DataW.trod_int Try.underlying3 t1
      obtain ⟨sp2, cap2, L2, e2, hm2, hs2⟩ := open_si t2
      have a0 := hat 0 (by omega)
      have a1 := hat 1 (by omega)
      have a2 := hat 2 (by omega)
      rw [Go.Deep.add_add] at a0 a1 a2
      simp at e0 e1
      subst e0 e1 e2
      exact ⟨⟨n0, n1, sp2, cap2, L2⟩, a0, a1, a2, hs2, by unfold maxLen at hm2; omega⟩
    obtain ⟨f, hf⟩ := choose_lt hone
    have hg : ∀ k, k < len → opQ ((List.range len).map f) k = f k := fun k hk => by simp [opQ, hk]
    obtain ⟨b, off, spot⟩ := a
    have spn : ∀ k, k < len → spot = none := fun k hk => by simpa [Addr.add] using World.cell?_spot (hf 0 (by omega)).1
    refine ⟨by omega, (List.range len).map f, b, off, by simp, ⟨fun h0 => ?_, fun k hk => ?_⟩⟩
    · have h0' : 0 < len := by simpa using h0
      obtain rfl := spn 0 h0'
      exact ⟨rfl, by simpa [Addr.add] using World.block_lt_of_cell? w _ (hf 0 h0').1⟩
    · have hk' : k < len := by simpa using hk
      obtain rfl := spn k hk'
      have := hf k hk'
      rw [hg k hk']
      simp only [Addr.add_lit] at this
      rw [Nat.add_assoc, Nat.add_assoc]
      exact this
end
end Go.Proofs.Ythpagbfabpfngaa
