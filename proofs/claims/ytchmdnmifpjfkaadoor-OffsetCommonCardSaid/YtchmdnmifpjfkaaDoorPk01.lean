/- Several texts in one: Foot, Own, Vary, Box, Last, VR, VS. -/
import Derived.RangeFuncNested
import Derived.RangeFuncBound
import Derived.RangeFuncCalls
import Derived.RangeFuncLeaves
import Derived.Below
import Derived.Deep.Draws
import Derived.WalkKit
import Derived.Laws.AppendOwn
import Derived.Laws.OwnMore
import Derived.Carry
import Derived.Maps.AppendAt
import Derived.Deep.AppendLies
import Derived.RangeFuncRecord
import Derived.OwnWalkIn
import Derived.Deep.RegionLaw
import Derived.ProofKit
import Derived.OrdersHeld
import Derived.Deep.RegionHeld
import Derived.Laws.ResultCell
import Derived.Deep.MidRow
import Derived.Lib.Hide
import Derived.LoopTactic
import Derived.RegionTactic
import Derived.Deep.LoopGhost
import Derived.Handy
import Derived.IntWalk
import Derived.BigQuiet
import Derived.Deep.QuietTactic
import Derived.Deep.CutRange
import Derived.Deep.CutBlock
import Derived.Deep.RegionWith
import Derived.Deep.RegionHeld3
/- Plain laws of this prover's own on a range over a function: what a loop owes and gets when its body and its iterator both make and turn blocks while it runs: each side has its footprint, stated by numbers of rounds. No statement about the program. -/
namespace Go.Proofs.YtchmdnmifpjfkaaDoor
open Go.RowKit

/-- From W to W' nothing has turned but blocks of T and what was made since. -/
structure Ch (T : Nat → Prop) (W W' : World) : Prop where
  os : W'.os = W.os
  tape : W'.tape = W.tape
  output : W'.output = W.output
  size : W.heap.size ≤ W'.heap.size
  block : ∀ k, k < W.heap.size → ¬ T k → W'.heap[k]? = W.heap[k]?

namespace Ch
variable {T T' : Nat → Prop} {A B C W W' : World}
theorem refl (T : Nat → Prop) (W : World) : Ch T W W := ⟨rfl, rfl, rfl, Nat.le_refl _, fun _ _ _ => rfl⟩
theorem trans (h : Ch T A B) (h' : Ch T B C) : Ch T A C :=
  ⟨h'.os.trans h.os, h'.tape.trans h.tape, h'.output.trans h.output, Nat.le_trans h.size h'.size,
   fun k hk ht => (h'.block k (Nat.lt_of_lt_of_le hk h.size) ht).trans (h.block k hk ht)⟩
theorem mono (h : Ch T A B) (ht : ∀ k, k < A.heap.size → T k → T' k) : Ch T' A B :=
  ⟨h.os, h.tape, h.output, h.size, fun k hk hn => h.block k hk (fun e => hn (ht k hk e))⟩
theorem alloc (h : Ch T A B) (o : Obj) : Ch T A (B.alloc o) :=
  ⟨h.os, h.tape, h.output, by simp; exact Nat.le_succ_of_le h.size, fun k hk hn => by
    rw [← h.block k hk hn]; exact Below.heap_alloc _ _ _ (Nat.lt_of_lt_of_le hk h.size)⟩
theorem drew (h : Ch T A B) : Ch T A B.drew := ⟨h.os, h.tape, h.output, h.size, h.block⟩
theorem drewN (h : Ch T A B) (n : Nat) : Ch T A (B.drewN n) := ⟨h.os, h.tape, h.output, h.size, h.block⟩
theorem putObj (h : Ch T A B) (l : Nat) (o : Obj) (hl : T l) : Ch T A (B.putObj l o) :=
  ⟨h.os, h.tape, h.output, by simp; exact h.size, fun k hk hn => by
    rw [← h.block k hk hn]; exact World.putObj_heap_other (fun e => hn (e ▸ hl))⟩
theorem setCell (h : Ch T A B) (a : Addr) (v : Value) (hl : T a.block ∨ A.heap.size ≤ a.block) : Ch T A (B.setCell a v) := by
  have hb := (Below.refl a.block B).setCell (Nat.le_refl _) v
  refine ⟨hb.os.trans h.os, hb.tape.trans h.tape, hb.output.trans h.output, Nat.le_trans h.size hb.size, fun k hk hn => ?_⟩
  rw [← h.block k hk hn]
  rcases Nat.lt_trichotomy k a.block with hlt | heq | hgt
  · exact hb.block k hlt
  · rcases hl with hl | hl
    · exact absurd (heq ▸ hl) hn
    · omega
  · simp [World.setCell, Array.getElem?_modify, Nat.ne_of_lt hgt]
theorem of_below {n : Nat} (h : Below n A B) : Ch (fun k => n ≤ k) A B :=
  ⟨h.os, h.tape, h.output, h.size, fun k _ hn => h.block k (by omega)⟩
theorem below {n : Nat} (h : Ch T A B) (ht : ∀ k, k < n → ¬ T k) (hn : n ≤ A.heap.size) : Below n A B :=
  ⟨h.os, h.tape, h.output, h.size, fun k hk => h.block k (by omega) (ht k hk)⟩
theorem new (h : Below A.heap.size A B) : Ch T A B :=
  ⟨h.os, h.tape, h.output, h.size, fun k hk _ => h.block k hk⟩
theorem obj (h : Ch T A B) {k : Nat} {o : Obj} (ho : A.heap[k]? = some o) (ht : ¬ T k) : B.heap[k]? = some o := by
  rw [h.block k (Array.getElem?_eq_some_iff.1 ho).1 ht]; exact ho
theorem cell (h : Ch T A B) {p : Addr} {v : Value} (hc : A.cell? p = some v) (ht : ¬ T p.block) : B.cell? p = some v := by
  obtain ⟨o, ho, _⟩ := cells_of_cell hc
  have := h.obj ho ht
  unfold World.cell? at hc ⊢
  rw [this]; rw [ho] at hc; exact hc
theorem frozen (h : Ch T A B) {p : Addr} (hk : p.block < A.heap.size) (ht : ¬ T p.block) : B.frozen? p = A.frozen? p := by
  unfold World.frozen?
  rw [h.block _ hk ht]
theorem frozenCell (h : Ch T A B) {p : Addr} {v : Value} (hc : A.cell? p = some v) (ht : ¬ T p.block) : B.frozen? p = A.frozen? p := by
  obtain ⟨o, ho, _⟩ := cells_of_cell hc
  exact h.frozen (Array.getElem?_eq_some_iff.1 ho).1 ht
end Ch

/-- One side's step: it turns its footprint F alone, and what belongs to it behind the step belonged to it or is new. -/
def Step (F : World → Nat → Prop) (W W' : World) : Prop := Ch (F W) W W' ∧ ∀ j, F W' j → F W j ∨ W.heap.size ≤ j
/-- The other side's step: it leaves F alone. -/
def Off (F : World → Nat → Prop) (W W' : World) : Prop := Ch (fun j => ¬ F W j) W W'
/-- What holds of a world and lies within the footprint F: F is there, and whatever leaves F alone leaves it true. -/
structure Foot (F : World → Nat → Prop) (I : World → Prop) : Prop where
  lt : ∀ W, I W → ∀ j, F W j → j < W.heap.size
  keep : ∀ W W', I W → Off F W W' → I W' ∧ ∀ j, F W' j → F W j

theorem Step.refl (F : World → Nat → Prop) (W : World) : Step F W W := ⟨Ch.refl _ _, fun _ h => .inl h⟩
theorem Step.trans {F : World → Nat → Prop} {A B C : World} (h : Step F A B) (h' : Step F B C) : Step F A C :=
  ⟨((h.1.mono (T' := fun j => F A j ∨ A.heap.size ≤ j) fun _ _ hf => .inl hf).trans (h'.1.mono fun j _ hf => h.2 j hf)).mono fun j hj hf => by rcases hf with hf | hf; exact hf; omega,
    fun j hf => by
      rcases h'.2 j hf with hf | hf
      · exact h.2 j hf
      · exact .inr (Nat.le_trans h.1.size hf)⟩
theorem Step.no {F : World → Nat → Prop} {A B : World} (h : Step F A B) {j : Nat} (hn : ¬ F A j) (hj : j < A.heap.size) : ¬ F B j := fun hf => by
  rcases h.2 j hf with hf | hf
  · exact hn hf
  · omega
theorem Off.of {F : World → Nat → Prop} {T : Nat → Prop} {A B : World} (h : Ch T A B) (ht : ∀ j, T j → ¬ F A j) : Off F A B := Ch.mono h fun j _ hj => ht j hj
theorem Off.new {F : World → Nat → Prop} {A B : World} (h : Below A.heap.size A B) : Off F A B := Ch.new h
theorem Off.nothing {F : World → Nat → Prop} {A B : World} (h : Ch (fun _ => False) A B) : Off F A B := Ch.mono h fun _ _ h => h.elim

/-- How a round's body may be left. -/
def roundEndF (F : World → Nat → Prop) (I : Nat → World → Prop) (Ix : Code → Nat → World → Prop) (k : Nat) (W : World) : Exit → Act → World → Prop
  | .normal, _, W' => Step F W W' ∧ I k W'
  | .ret, _, W' => Step F W W' ∧ Ix .ret k W'
  | .exit id, _, W' => Step F W W' ∧ Ix (.exit id) k W'
  | .goto t, _, W' => Step F W W' ∧ Ix (.goto t) k W'
  | .panic _, _, _ => False
  | .outgrown, _, _ => False

/-- What an iterator gives: N rounds at most. -/
def Iter (P : Program) (gf : Nat) (lb : Array Value) (l : Nat) (N : Nat) (J Jx : Nat → World → Prop) (W : World) : Prop :=
  CallsIn Fence.wide 0 P gf (#[.func (.yield l) #[] #[]] ++ lb) W fun e W' => (∃ v, e = .returned v) ∧ (J N W' ∨ ∃ k, k ≤ N ∧ Jx k W')

/-- A round of the loop whose record is l: it turns the loop's footprint F alone. -/
def RoundsF (P : Program) (l N : Nat) (args : Nat → Array Value) (F : World → Nat → Prop) (J Jx : Nat → World → Prop) : Prop :=
  ∀ k W, J k W → k < N → YieldAt Fence.wide 0 P l (args k) W fun e W' =>
    (e = .returned (.bool true) ∧ J (k + 1) W' ∧ Step F W W') ∨ (e = .returned (.bool false) ∧ Jx (k + 1) W' ∧ Step F W W')

variable {P : Program}

/-- THE LOOP: the rounds' invariant I (and Ix, where a round has left by a jump) lies within the footprint F; all else the iterator may turn. -/
theorem wpIn_rangeF {g : Operand} {ps : Array Tmp} {assign body : Code} {Q : Exit → Act → World → Prop} {a : Act} {w : World}
    {gf : Nat} {lb : Array Value} (hg : a.eval g = .func (.func gf) #[] lb) (eg : ∀ args w, (callFunc gf args).run P w = .ok (.enter gf args) w)
    (N : Nat) (args : Nat → Array Value) (hps : ∀ k, (args k).size = ps.size) (F : World → Nat → Prop)
    (I : Nat → World → Prop) (Ix : Code → Nat → World → Prop) (fI : ∀ k, Foot F (I k)) (fX : ∀ c k, Foot F (Ix c k))
    (h0 : I 0 w) (Ax : Nat → Act → World → Prop)
    (hAx : ∀ k a' W W', Ax k a' W → Ch (fun j => j = w.heap.size + 1) W W' → Ax k a' W')
    (hit : ∀ J Jx W1, w.heap.size + 2 = W1.heap.size → Below w.heap.size w W1 →
      (∀ k W, J k W → I k W ∧ w.heap.size + 2 ≤ W.heap.size) → (∀ k W, Jx k W → (∃ c, Ix c k W) ∧ w.heap.size + 2 ≤ W.heap.size) →
      (∀ k, Foot (fun W j => F W j ∨ j = w.heap.size ∨ j = w.heap.size + 1) (J k)) → (∀ k, Foot (fun W j => F W j ∨ j = w.heap.size ∨ j = w.heap.size + 1) (Jx k)) →
      RoundsF P (w.heap.size + 1) N args (fun W j => F W j ∨ j = w.heap.size ∨ j = w.heap.size + 1) J Jx → J 0 W1 →
      Iter P gf lb (w.heap.size + 1) N J Jx W1)
    (hassign : ∀ k W (K : Act → World → Prop), I k W → k < N → (∀ a' W', Ax k a' W' → Ch (fun _ => False) W W' → I k W' → (∀ j, F W' j → F W j) → K a' W') →
      assign.wpIn (Fence.wide.inRound (w.heap.size + 1)) 0 P (Exit.then K (fun _ _ _ => False)) { tmps := (ps.zip (args k)).foldl (fun t (p, v) => t.setIfInBounds p v) a.tmps, defers := [] } W)
    (hbody : ∀ k a' W, I k W → k < N → Ax k a' W → w.heap.size + 2 ≤ W.heap.size → body.wpIn (Fence.wide.inRound (w.heap.size + 1)) 0 P (roundEndF F I Ix (k + 1) W) a' W)
    (hdone : ∀ W, I N W → W.heap[w.heap.size]? = some (.deferred (some [])) → ¬ F W w.heap.size → w.heap.size + 2 ≤ W.heap.size → Q .normal { a with defers := { target := .collected w.heap.size, args := #[] } :: a.defers } W)
    (hstop : ∀ c k W, k ≤ N → Ix c k W → W.heap[w.heap.size]? = some (.deferred (some [])) → ¬ F W w.heap.size → w.heap.size + 2 ≤ W.heap.size → c.wpIn Fence.wide 0 P Q { a with defers := { target := .collected w.heap.size, args := #[] } :: a.defers } W) :
    (Code.rangeFunc g ps assign body).wpIn Fence.wide 0 P Q a w := by
  refine wpIn_rangeFunc fun fn hfn => ?_
  let mk : LoopState → Option Code → Obj := fun st pe => .loop { state := st, pending := pe, fn, tmps := a.tmps, params := ps, assign, body, defers := w.heap.size }
  let D := w.heap.size
  let l := w.heap.size + 1
  let FJ : World → Nat → Prop := fun W j => F W j ∨ j = D ∨ j = l
  let W1 := (w.alloc (.deferred (some []))).alloc (mk .ready none)
  have z1 : W1.heap.size = w.heap.size + 2 := by simp [W1]
  have l1 : W1.heap[l]? = some (mk .ready none) := by
    have := World.alloc_heap_new (w.alloc (.deferred (some []))) (mk .ready none); rwa [World.size_alloc] at this
  have d1 : W1.heap[D]? = some (.deferred (some [])) := by
    rw [Below.heap_alloc _ _ _ (by simp [D])]; exact World.alloc_heap_new w _
  have c1 : Ch (fun _ => False) w W1 := ((Ch.refl _ w).alloc _).alloc _
  have nl : ∀ {T : Nat → Prop} {W W' : World} {o : Obj} {j : Nat}, Ch T W W' → ¬ T j → W.heap[j]? = some o → W'.heap[j]? = some o := fun c ht h => c.obj h ht
  have i1 := (fI 0).keep w W1 h0 (Off.nothing c1)
  have n1 : ¬ F W1 l ∧ ¬ F W1 D := ⟨fun h => by have := (fI 0).lt w h0 _ (i1.2 _ h); simp [l] at this; omega, fun h => by have := (fI 0).lt w h0 _ (i1.2 _ h); simp [D] at this⟩
  have hDl : ¬ D = l := by simp [D, l]
  refine ⟨l, [{ target := .collected D, args := #[] }], W1, { target := .fn (.func gf) lb, args := #[.func (.yield l) #[] #[]] }, W1, gf, #[.func (.yield l) #[] #[]] ++ lb, W1,
    run_enterLoop_outer _ _ _ _ _, ?_, fun _ _ => trivial, ?_, fun h => absurd h (by simp [Fence.wide]), ?_⟩
  · simp only [resolve, hg]; simp [go_sem]
  · simp [invoke, go_sem, eg]
  let J : Nat → World → Prop := fun k W => I k W ∧ W.heap[l]? = some (mk .ready none) ∧ W.heap[D]? = some (.deferred (some [])) ∧ w.heap.size + 2 ≤ W.heap.size ∧ ¬ F W l ∧ ¬ F W D
  let Jx : Nat → World → Prop := fun k W => ∃ c, Ix c k W ∧ W.heap[l]? = some (mk .done (some c)) ∧ W.heap[D]? = some (.deferred (some [])) ∧ w.heap.size + 2 ≤ W.heap.size ∧ ¬ F W l ∧ ¬ F W D
  have offJ : ∀ {W W' : World}, Off FJ W W' → Off F W W' := fun h => Ch.mono h fun j _ hn hf => hn (.inl hf)
  have fJ : ∀ k, Foot FJ (J k) := fun k => ⟨fun W h j hj => by
      rcases hj with hj | rfl | rfl
      · exact (fI k).lt W h.1 j hj
      · have := h.2.2.2.1; simp only [D]; omega
      · have := h.2.2.2.1; simp only [l]; omega,
    fun W W' h hc => by
      have hi := (fI k).keep W W' h.1 (offJ hc)
      refine ⟨⟨hi.1, nl hc (fun h => h (.inr (.inr rfl))) h.2.1, nl hc (fun h => h (.inr (.inl rfl))) h.2.2.1, Nat.le_trans h.2.2.2.1 hc.size, fun hf => h.2.2.2.2.1 (hi.2 _ hf), fun hf => h.2.2.2.2.2 (hi.2 _ hf)⟩, fun j hj => ?_⟩
      rcases hj with hj | hj
      · exact .inl (hi.2 j hj)
      · exact .inr hj⟩
  have fJx : ∀ k, Foot FJ (Jx k) := fun k => ⟨fun W ⟨c, h⟩ j hj => by
      rcases hj with hj | rfl | rfl
      · exact (fX c k).lt W h.1 j hj
      · have := h.2.2.2.1; simp only [D]; omega
      · have := h.2.2.2.1; simp only [l]; omega,
    fun W W' ⟨c, h⟩ hc => by
      have hi := (fX c k).keep W W' h.1 (offJ hc)
      refine ⟨⟨c, hi.1, nl hc (fun h => h (.inr (.inr rfl))) h.2.1, nl hc (fun h => h (.inr (.inl rfl))) h.2.2.1, Nat.le_trans h.2.2.2.1 hc.size, fun hf => h.2.2.2.2.1 (hi.2 _ hf), fun hf => h.2.2.2.2.2 (hi.2 _ hf)⟩, fun j hj => ?_⟩
      rcases hj with hj | hj
      · exact .inl (hi.2 j hj)
      · exact .inr hj⟩
  have put : ∀ (W : World) (o : Obj), Ch (fun j => j = l) W (W.putObj l o) := fun W o => (Ch.refl _ W).putObj _ _ rfl
  have offput : ∀ {W : World} {o : Obj}, ¬ F W l → Off F W (W.putObj l o) := fun h => Off.of (put _ _) fun j hj => by subst hj; exact h
  refine (hit J Jx W1 z1.symm (((Below.refl _ w).alloc (Nat.le_refl _) _).alloc (by simp) _) (fun _ _ h => ⟨h.1, h.2.2.2.1⟩) (fun _ _ ⟨c, h⟩ => ⟨⟨c, h.1⟩, h.2.2.2.1⟩)
    fJ fJx ?_ ⟨i1.1, l1, d1, by omega, n1⟩).mono ?_
  · rintro k W ⟨hi, hl, hd, hz, hnl, hnD⟩ hk
    refine ⟨fn, _, assign, body, run_yield hl (hps k), roundIn_of_wpIn hfn (hassign k W _ hi hk fun a' W2 ha c2 hi2 hf2 => ?_)⟩
    have hl2 := nl c2 (fun h => h) hl
    refine ⟨_, run_beginRound hl2 rfl, ?_⟩
    have hnl2 : ¬ F W2 l := fun h => hnl (hf2 _ h)
    have cb := put W2 (mk .busy none)
    have hlb : (W2.putObj l (mk .busy none)).heap[l]? = some (mk .busy none) := World.putObj_heap_same (Array.getElem?_eq_some_iff.1 hl2).1
    have hdb := nl cb (fun h : D = l => hDl h) (nl c2 (fun h => h) hd)
    have ib := (fI k).keep W2 (W2.putObj l (mk .busy none)) hi2 (offput hnl2)
    have hnlb : ¬ F (W2.putObj l (mk .busy none)) l := fun h => hnl2 (ib.2 _ h)
    have hnDb : ¬ F (W2.putObj l (mk .busy none)) D := fun h => hnD (hf2 _ (ib.2 _ h))
    have zb : w.heap.size + 2 ≤ (W2.putObj l (mk .busy none)).heap.size := Nat.le_trans (Nat.le_trans hz c2.size) cb.size
    have cWb : Ch (fun j => FJ W j) W (W2.putObj l (mk .busy none)) := (c2.mono fun _ _ h => h.elim).trans (cb.mono fun j _ hj => .inr (.inr hj))
    have fWb : ∀ j, F (W2.putObj l (mk .busy none)) j → F W j := fun j h => hf2 _ (ib.2 _ h)
    refine wpIn_mono (hbody k a' _ ib.1 hk (hAx _ _ _ _ ha cb) zb) ?_
    have fin : ∀ (jump : Option Code) (W3 : World), Step F (W2.putObj l (mk .busy none)) W3 →
        ∃ W4, (Instr.endRound l jump).run P W3 = .ok (.bool jump.isNone) W4 ∧ Ch (fun j => j = l) W3 W4 ∧ Off F W3 W4 ∧ ¬ F W3 l ∧ ¬ F W3 D ∧
          W4.heap[l]? = some (mk (if jump.isNone then .ready else .done) jump) ∧ W4.heap[D]? = some (.deferred (some [])) ∧ Ch (FJ W) W W4 ∧ w.heap.size + 2 ≤ W4.heap.size ∧ (∀ j, F W3 j → F W j ∨ W.heap.size ≤ j) := fun jump W3 s3 => by
      have hn3 := s3.no hnlb (by omega)
      have hD3 := s3.no hnDb (by omega)
      have hl3 := nl s3.1 hnlb hlb
      have c4 := put W3 (mk (if jump.isNone then .ready else .done) jump)
      refine ⟨_, run_endRound jump hl3, c4, offput hn3, hn3, hD3, World.putObj_heap_same (Array.getElem?_eq_some_iff.1 hl3).1, nl c4 (fun h : D = l => hDl h) (nl s3.1 hnDb hdb), ?_, ?_, ?_⟩
      · refine (((cWb.mono (T' := fun j => FJ W j ∨ W.heap.size ≤ j) fun _ _ h => .inl h).trans (s3.1.mono fun j _ hj => .inl (.inl (fWb j hj)))).trans (c4.mono fun j _ hj => .inl (.inr (.inr hj)))).mono fun j hj h => ?_
        rcases h with h | h
        · exact h
        · omega
      · exact Nat.le_trans zb (Nat.le_trans s3.1.size c4.size)
      · intro j hj
        rcases s3.2 j hj with h | h
        · exact .inl (fWb j h)
        · exact .inr (Nat.le_trans cWb.size h)
    have stp : ∀ {W3 W4 : World}, Ch (FJ W) W W4 → (∀ j, F W4 j → F W3 j) → (∀ j, F W3 j → F W j ∨ W.heap.size ≤ j) → Step FJ W W4 := fun c h4 h3 => ⟨c, fun j hj => by
      rcases hj with hj | hj
      · rcases h3 _ (h4 _ hj) with h | h
        · exact .inl (.inl h)
        · exact .inr h
      · exact .inl (.inr hj)⟩
    have left : ∀ (c : Code) (a3 : Act) (W3 : World), Step F (W2.putObj l (mk .busy none)) W3 → Ix c (k + 1) W3 → ∃ W4, (Instr.endRound l (some c)).run P W3 = .ok (.bool false) W4 ∧ Jx (k + 1) W4 ∧ Step FJ W W4 := fun c a3 W3 s3 hx => by
      obtain ⟨W4, hr, c4, o4, hn3, hD3, hl4, hd4, call, z4, f3⟩ := fin (some c) W3 s3
      have i4 := (fX c (k + 1)).keep W3 W4 hx o4
      exact ⟨W4, hr, ⟨c, i4.1, hl4, hd4, z4, fun h => hn3 (i4.2 _ h), fun h => hD3 (i4.2 _ h)⟩, stp call i4.2 f3⟩
    rintro e a3 W3 hp
    cases e with
    | normal =>
      obtain ⟨W4, hr, c4, o4, hn3, hD3, hl4, hd4, call, z4, f3⟩ := fin none W3 hp.1
      have i4 := (fI (k + 1)).keep W3 W4 hp.2 o4
      exact ⟨_, _, hr, .inl ⟨rfl, ⟨i4.1, hl4, hd4, z4, fun h => hn3 (i4.2 _ h), fun h => hD3 (i4.2 _ h)⟩, stp call i4.2 f3⟩⟩
    | ret =>
      obtain ⟨W4, hr, hx, hs⟩ := left .ret a3 W3 hp.1 hp.2
      exact ⟨_, _, hr, .inr ⟨rfl, hx, hs⟩⟩
    | exit id =>
      obtain ⟨W4, hr, hx, hs⟩ := left (.exit id) a3 W3 hp.1 hp.2
      exact ⟨_, _, hr, .inr ⟨rfl, hx, hs⟩⟩
    | goto t =>
      obtain ⟨W4, hr, hx, hs⟩ := left (.goto t) a3 W3 hp.1 hp.2
      exact ⟨_, _, hr, .inr ⟨rfl, hx, hs⟩⟩
    | panic ch => exact hp.elim
    | outgrown => exact hp.elim
  · rintro e W2 ⟨⟨v, rfl⟩, (⟨hi, hl, hd, hz, hnl, hnD⟩ | ⟨k, hk, c, hi, hl, hd, hz, hnl, hnD⟩)⟩
    · exact ⟨none, _, run_endLoop hl (by simp), hdone _ ((fI N).keep W2 _ hi (offput hnl)).1 (nl (put _ _) (fun h : D = l => hDl h) hd) (fun h => hnD (((fI N).keep W2 _ hi (offput hnl)).2 _ h)) (by rw [World.putObj_size]; exact hz)⟩
    · exact ⟨some c, _, run_endLoop hl (by simp), hstop c k _ hk ((fX c k).keep W2 _ hi (offput hnl)).1 (nl (put _ _) (fun h : D = l => hDl h) hd) (fun h => hnD (((fX c k).keep W2 _ hi (offput hnl)).2 _ h)) (by rw [World.putObj_size]; exact hz)⟩

end Go.Proofs.YtchmdnmifpjfkaaDoor
/- Plain lemmas of this prover's own on rows that a call owns, and the law of an append that says where the new row lies. No statement about the program. -/
namespace Go.Proofs.YtchmdnmifpjfkaaDoor
open Go.RowKit

theorem wpListIn_append_at {F : Fence} {n : Nat} {P : Program} (w : World) {ops : Array Oper} {rest : List Oper} {o : Oper} {a : Act} {Q : Exit → Act → World → Prop}
    (hg : o.guard = none) (s x : Operand) (t : TypeId) (hop : o.op = Op.call { callee := Callee.builtin Builtin.append, args := #[s, x], argTypes := #[t, t] })
    (base : Nat) (e : TypeId) (i : TypeInfo) (z : Value) (size bytes : Nat) (h1 : P.underlying t = some (.slice e)) (h2 : P.info? e = some i) (h3 : i.zero = some z) (h4 : i.size = size) (h5 : i.bytes = bytes) (h6 : z.cells.size = size) (h7 : 0 < size)
    (v : Value) (k : Nat) (xs : List Value) (hs : a.eval s = v) (hown : w.ownsRow base e size v k xs) (ad : Addr) (m c : Nat) (news : List Value) (hx : a.eval x = .slice (some ad) m c) (hn : news.length = m * size)
    (hc : ∀ j u, news[j]? = some u → w.cell? (ad.add j) = some u) (h1c : ∀ u ∈ news, u.oneCell' = true) (b1 : k + m ≤ maxLen) (b2 : (k + m) * bytes ≤ 140737488355328) (b3 : base ≤ w.heap.size)
    (hK : ∀ v' w', w'.ownsRow base e size v' (k + m) (xs ++ news) → w.grownBy w' v.ownBlock → (v'.ownBlock = v.ownBlock ∨ v'.ownBlock = some w.heap.size) → wpListIn F n P ops Q rest (a.put o.dst v') w') :
    wpListIn F n P ops Q (o :: rest) a w := by
  refine wpListIn_plain hg fun K hK' => ?_
  obtain ⟨v', w', hrun, r1, r2, _, r3⟩ := run_append_own_at (P := P) w base t o.type e i z size bytes h1 h2 h3 h4 h5 h6 h7 v k xs hown ad m c news hn hc h1c b1 b2 b3
  unfold Oper.wpIn
  refine ⟨?_, ?_⟩
  · simp [Oper.about, hop, resolve, Target.leads, Sem.run_pure]
  · rw [Oper.semAt_plain F _ _ (by rw [hop]; intro c hc'; cases hc')]
    simp [execOp, hop, resolve, invoke, builtin, hs, hx, hrun, Result.andThen]
    exact hK' _ _ (hK v' w' r1 r2 r3)

theorem own_same {A B : World} {base : Nat} {e : TypeId} {size : Nat} {v : Value} {n : Nat} {xs : List Value} (h : A.ownsRow base e size v n xs) (hs : ∀ g, v.ownBlock = some g → B.heap[g]? = A.heap[g]?) : B.ownsRow base e size v n xs := by
  obtain ⟨h1, h2⟩ := h
  refine ⟨h1, ?_⟩
  rcases h2 with h2 | ⟨g, cap, cur, rfl, hg, hh, r⟩
  · exact .inl h2
  · exact .inr ⟨g, cap, cur, rfl, hg, (hs g (by simp [Value.ownBlock])).trans hh, r⟩
theorem own_mono {A : World} {base base' : Nat} {e : TypeId} {size : Nat} {v : Value} {n : Nat} {xs : List Value} (h : A.ownsRow base e size v n xs) (hb : base' ≤ base) : A.ownsRow base' e size v n xs := by
  refine ⟨h.1, ?_⟩
  rcases h.2 with h | ⟨g, c, cur, q1, q2, q3⟩
  · exact .inl h
  · exact .inr ⟨g, c, cur, q1, by omega, q3⟩
theorem own_val {A : World} {base : Nat} {e : TypeId} {size : Nat} {v : Value} {n : Nat} {xs : List Value} (h : A.ownsRow base e size v n xs) : ∃ sp cap, v = .slice sp n cap := by
  rcases h.2 with ⟨h0, h1⟩ | ⟨g, cap, cur, hv, _⟩
  · exact ⟨none, 0, by rw [h0, h1]⟩
  · exact ⟨_, _, hv⟩
theorem own_ge {A : World} {base : Nat} {e : TypeId} {size : Nat} {v : Value} {n : Nat} {xs : List Value} (h : A.ownsRow base e size v n xs) (j : Nat) (hj : v.ownBlock = some j) : base ≤ j := (h.lt j hj).1
theorem own_below {A B : World} {base b n : Nat} {e : TypeId} {size : Nat} {v : Value} {xs : List Value} (h : A.ownsRow base e size v n xs) (hb : Below b A B) (hs : A.heap.size ≤ b) : B.ownsRow base e size v n xs :=
  own_same h fun g hg => hb.block g (by have := (h.lt g hg).2; omega)
theorem own_ch {T : Nat → Prop} {A B : World} {base n : Nat} {e : TypeId} {size : Nat} {v : Value} {xs : List Value} (h : A.ownsRow base e size v n xs) (hb : Ch T A B) (hn : ∀ g, v.ownBlock = some g → ¬ T g) : B.ownsRow base e size v n xs :=
  own_same h fun g hg => hb.block g (h.lt g hg).2 (hn g hg)
theorem two_new (w : World) (a b : Value) (t : TypeId) : ∀ (j : Nat) (u : Value), [a, b][j]? = some u → (w.alloc (.cells #[a, b] t)).cell? ((⟨w.heap.size, 0, none⟩ : Addr).add j) = some u := fun j u h => by
  rw [Addr.add_lit]
  rcases j with _ | _ | j
  · simp at h; subst h; simp [go_sem]
  · simp at h; subst h; simp [go_sem]
  · simp at h
theorem ch_grown {A B : World} {row : Option Nat} (h : A.grownBy B row) : Ch (fun j => row = some j) A B :=
  ⟨h.os, h.tape, h.output, h.size, fun k hk hn => h.block k hk (fun e => hn e.symm)⟩

theorem Ch.then_below {T : Nat → Prop} {A B C : World} (h : Ch T A B) (hb : Below A.heap.size B C) : Ch T A C :=
  ⟨hb.os.trans h.os, hb.tape.trans h.tape, hb.output.trans h.output, Nat.le_trans h.size hb.size, fun k hk hn => (hb.block k hk).trans (h.block k hk hn)⟩

def nth (l : List Int) (k : Nat) : Int := l.getD k 0
theorem take_succ_nth (l : List Int) (k : Nat) (h : k < l.length) : l.take (k + 1) = l.take k ++ [nth l k] := by
  rw [List.take_succ_eq_append_getElem h]; simp [nth, h]
theorem nth_at (l : List Int) (k : Nat) (h : k < l.length) : l[k]? = some (nth l k) := by simp [nth, h]
def rowI (l : List Int) : List Value := l.map (Value.int .i64)
theorem rowI_snoc (l : List Int) (x : Int) : rowI (l ++ [x]) = rowI l ++ [.int .i64 x] := by simp [rowI]
theorem rowI_len (l : List Int) : (rowI l).length = l.length := by simp [rowI]

/-- An owned row of ints, as a slice whose cells are known. -/
theorem own_ints {w : World} {base : Nat} {v : Value} {n : Nat} {l : List Int} (h : w.ownsRow base 3 1 v n (rowI l)) (hn : n = l.length) :
    ∃ sp g cap, v = .slice sp n cap ∧ (0 < n → sp = some ⟨g, 0, none⟩ ∧ base ≤ g ∧ g < w.heap.size) ∧ ∀ k, k < n → w.cell? ⟨g, k, none⟩ = some (.int .i64 (nth l k)) := by
  rcases h.2 with ⟨rfl, h0⟩ | ⟨g, cap, cur, rfl, _⟩
  · exact ⟨none, 0, 0, by rw [h0], fun h => by omega, fun k hk => by omega⟩
  · have hl := h.lt g rfl
    refine ⟨some ⟨g, 0, none⟩, g, cap, rfl, fun _ => ⟨rfl, hl.1, hl.2⟩, fun k hk => (h.cellAt k (by omega)).trans ?_⟩
    unfold rowI nth
    rw [List.getElem?_map, List.getElem?_eq_getElem (by omega)]; simp [show k < l.length by omega]
end Go.Proofs.YtchmdnmifpjfkaaDoor
/- Plain laws of this prover's own: append onto a row that the call owns, of whatever many elements of whatever slice (nil and none included): in a plain region's list, at one operation, inside a fence. No statement about the program. -/
namespace Go.Proofs.YtchmdnmifpjfkaaDoor
open Go.RowKit

theorem run_append_none {P : Program} (w : World) (t ty e : TypeId) (i : TypeInfo) (ht : P.underlying t = some (.slice e)) (hi : P.info? e = some i) (ad : Option Addr) (k c cx : Nat) (hk : k ≤ c) :
    (Builtin.append_ #[t, t] ty #[.slice ad k c, .slice none 0 cx]).run P w = .ok (.slice ad k c) w := by
  cases ad <;> simp [Builtin.append_, run_underlying ht, sizeOf, typeInfo, hi, Builtin.lenOf, Builtin.firstCells, loadCells, storeCells, hk]
/-- The run's equation, whatever the source. -/
theorem run_append_vary {P : Program} (w : World) (base : Nat) (t ty e : TypeId) (i : TypeInfo) (z : Value) (size bytes : Nat) (ht : P.underlying t = some (.slice e)) (hi : P.info? e = some i) (hz : i.zero = some z)
    (hsize : i.size = size) (hby : i.bytes = bytes) (hzs : z.cells.size = size) (hsz : 0 < size)
    (v : Value) (n : Nat) (xs : List Value) (hown : w.ownsRow base e size v n xs)
    (sp : Option Addr) (m c : Nat) (news : List Value) (hl : news.length = m * size) (hno : sp = none → m = 0) (hnews : ∀ ad, sp = some ad → ∀ j u, news[j]? = some u → w.cell? (ad.add j) = some u) (h1 : ∀ u ∈ news, u.oneCell' = true)
    (h63 : n + m ≤ maxLen) (hbytes : (n + m) * bytes ≤ 140737488355328) (hbase : base ≤ w.heap.size) :
    ∃ v' w', (Builtin.append_ #[t, t] ty #[v, .slice sp m c]).run P w = .ok v' w' ∧ w'.ownsRow base e size v' (n + m) (xs ++ news) ∧ w.grownBy w' v.ownBlock ∧ (v'.ownBlock = v.ownBlock ∨ v'.ownBlock = some w.heap.size) := by
  cases sp with
  | some ad =>
    obtain ⟨v', w', hr, h2, h3, _, h5⟩ := run_append_own_at (P := P) w base t ty e i z size bytes ht hi hz hsize hby hzs hsz v n xs hown ad m c news hl (hnews ad rfl) h1 h63 hbytes hbase
    exact ⟨v', w', hr, h2, h3, h5⟩
  | none =>
    obtain rfl := hno rfl
    obtain rfl : news = [] := by cases news with
      | nil => rfl
      | cons a l => simp at hl
    refine ⟨v, w, ?_, by simpa using hown, ⟨rfl, rfl, rfl, Nat.le_refl _, fun _ _ _ => rfl⟩, .inl rfl⟩
    rcases hown.2 with ⟨rfl, _⟩ | ⟨g, cap, cur, rfl, _, _, hc, _⟩
    · exact run_append_none w t ty e i ht hi none 0 0 c (Nat.le_refl _)
    · exact run_append_none w t ty e i ht hi _ n cap c hc
theorem wp_append_vary {P : Program} {o : Oper} {a : Act} {w : World} {K : Act → World → Prop} {Q : Exit → Act → World → Prop} (s x : Operand) (t : TypeId)
    (ho : o.op = .call { callee := .builtin .append, args := #[s, x], argTypes := #[t, t] })
    (base : Nat) (e : TypeId) (i : TypeInfo) (z : Value) (size bytes : Nat) (ht : P.underlying t = some (.slice e)) (hi : P.info? e = some i) (hz : i.zero = some z)
    (hsize : i.size = size) (hby : i.bytes = bytes) (hzs : z.cells.size = size) (hsz : 0 < size)
    (v : Value) (n : Nat) (xs : List Value) (hs : a.eval s = v) (hown : w.ownsRow base e size v n xs)
    (sp : Option Addr) (m c : Nat) (news : List Value) (hx : a.eval x = .slice sp m c) (hl : news.length = m * size) (hno : sp = none → m = 0) (hnews : ∀ ad, sp = some ad → ∀ j u, news[j]? = some u → w.cell? (ad.add j) = some u) (h1 : ∀ u ∈ news, u.oneCell' = true)
    (h63 : n + m ≤ maxLen) (hbytes : (n + m) * bytes ≤ 140737488355328) (hbase : base ≤ w.heap.size)
    (h : ∀ v' w', w'.ownsRow base e size v' (n + m) (xs ++ news) → w.grownBy w' v.ownBlock → (v'.ownBlock = v.ownBlock ∨ v'.ownBlock = some w.heap.size) → K (a.put o.dst v') w') :
    Oper.wp P o a w K Q := by
  obtain ⟨v', w', hr, h2, h3, h5⟩ := run_append_vary (P := P) w base t o.type e i z size bytes ht hi hz hsize hby hzs hsz v n xs hown sp m c news hl hno hnews h1 h63 hbytes hbase
  unfold Oper.wp execOp
  simp only [ho, resolve, invoke, builtin, Sem.run_bind, Sem.run_pure, Result.andThen_ok, List.map_toArray, List.map_cons, List.map_nil, hs, hx, hr]
  exact h v' w' h2 h3 h5
theorem wpList_append_vary {P : Program} {ops : Array Oper} {rest : List Oper} {o : Oper} {a : Act} {w : World} {Q : Exit → Act → World → Prop} (hgd : o.guard = none) (s x : Operand) (t : TypeId)
    (ho : o.op = .call { callee := .builtin .append, args := #[s, x], argTypes := #[t, t] })
    (base : Nat) (e : TypeId) (i : TypeInfo) (z : Value) (size bytes : Nat) (ht : P.underlying t = some (.slice e)) (hi : P.info? e = some i) (hz : i.zero = some z)
    (hsize : i.size = size) (hby : i.bytes = bytes) (hzs : z.cells.size = size) (hsz : 0 < size)
    (v : Value) (n : Nat) (xs : List Value) (hs : a.eval s = v) (hown : w.ownsRow base e size v n xs)
    (sp : Option Addr) (m c : Nat) (news : List Value) (hx : a.eval x = .slice sp m c) (hl : news.length = m * size) (hno : sp = none → m = 0) (hnews : ∀ ad, sp = some ad → ∀ j u, news[j]? = some u → w.cell? (ad.add j) = some u) (h1 : ∀ u ∈ news, u.oneCell' = true)
    (h63 : n + m ≤ maxLen) (hbytes : (n + m) * bytes ≤ 140737488355328) (hbase : base ≤ w.heap.size)
    (h : ∀ v' w', w'.ownsRow base e size v' (n + m) (xs ++ news) → w.grownBy w' v.ownBlock → (v'.ownBlock = v.ownBlock ∨ v'.ownBlock = some w.heap.size) → wpList P ops Q rest (a.put o.dst v') w') :
    wpList P ops Q (o :: rest) a w :=
  wpList_plain hgd fun _ hK => wp_append_vary s x t ho base e i z size bytes ht hi hz hsize hby hzs hsz v n xs hs hown sp m c news hx hl hno hnews h1 h63 hbytes hbase fun v' w' a1 a2 a3 => hK _ _ (h v' w' a1 a2 a3)
/-- A row that was just made, of no cells. -/
theorem own_fresh (w : World) (base : Nat) (e : TypeId) (size : Nat) (h : base ≤ w.heap.size) : (w.alloc (.cells #[] e)).ownsRow base e size (.slice (some ⟨w.heap.size, 0, none⟩) 0 0) 0 [] :=
  ⟨by simp, .inr ⟨w.heap.size, 0, #[], rfl, h, World.alloc_heap_new _ _, Nat.le_refl _, Nat.zero_le _, by simp, by simp⟩⟩
theorem rowI_one (l : List Int) : ∀ u ∈ rowI l, u.oneCell' = true := by
  intro u hu
  obtain ⟨x, _, rfl⟩ := List.mem_map.1 hu
  rfl
theorem rowI_at (l : List Int) (j : Nat) (u : Value) (h : (rowI l)[j]? = some u) : j < l.length ∧ u = .int .i64 (nth l j) := by
  have hj : j < l.length := by have := (List.getElem?_eq_some_iff.1 h).1; rwa [rowI_len] at this
  refine ⟨hj, ?_⟩
  unfold rowI at h
  rw [List.getElem?_map, nth_at l j hj] at h
  exact (Option.some.inj h).symm
end Go.Proofs.YtchmdnmifpjfkaaDoor
/- Plain lemmas of this prover's own: a block with its cells, rows that a call owns, worlds behind draws. No statement about the program. -/
namespace Go.Proofs.YtchmdnmifpjfkaaDoor
open Go.RowKit

/-- A block of its own, with its cells. -/
structure BoxAt (w : World) (B : Nat) (l : List Value) : Prop where
  lt : B < w.heap.size
  cell : ∀ j u, l[j]? = some u → w.cell? ⟨B, j, none⟩ = some u
  fr : ∀ j, w.frozen? ⟨B, j, none⟩ = false
theorem BoxAt.mk_new (w : World) (c : Array Value) (t : TypeId) : BoxAt (w.alloc (.cells c t)) w.heap.size c.toList :=
  ⟨by rw [World.size_alloc]; omega, fun j u hu => by rw [World.cell?_alloc_new]; simpa using hu, fun j => World.frozen?_alloc_new ..⟩
theorem BoxAt.keep {T : Nat → Prop} {w w' : World} {B : Nat} {l : List Value} (h : BoxAt w B l) (c : Ch T w w') (hT : ¬ T B) : BoxAt w' B l :=
  ⟨Nat.lt_of_lt_of_le h.lt c.size, fun j u hu => c.cell (h.cell j u hu) hT, fun j => (c.frozen (p := ⟨B, j, none⟩) h.lt hT).trans (h.fr j)⟩
theorem BoxAt.new {w w' : World} {B : Nat} {l : List Value} (h : BoxAt w B l) (c : Below w.heap.size w w') : BoxAt w' B l := h.keep (T := fun _ => False) (Ch.new c) (fun h => h)
theorem BoxAt.alloc {w : World} {B : Nat} {l : List Value} (h : BoxAt w B l) (o : Obj) : BoxAt (w.alloc o) B l := h.new ((Below.refl _ _).alloc (Nat.le_refl _) _)
theorem BoxAt.set {w : World} {B : Nat} {l : List Value} (h : BoxAt w B l) (j : Nat) (v : Value) (hj : j < l.length) : BoxAt (w.setCell ⟨B, j, none⟩ v) B (l.set j v) := by
  refine ⟨by rw [World.size_setCell]; exact h.lt, fun i u hu => ?_, fun i => by rw [World.frozen?_setCell]; exact h.fr i⟩
  by_cases e : i = j
  · subst e
    rw [List.getElem?_set_self hj] at hu
    rw [← hu]
    exact World.cell?_setCell_same _ _ _ (h.cell i _ (List.getElem?_eq_getElem hj))
  · rw [List.getElem?_set_ne (fun e' => e e'.symm)] at hu
    rw [World.cell?_setCell_other _ _ _ _ (fun e' => e (by injection e' with _ e'; exact e'.symm))]
    exact h.cell i u hu
theorem BoxAt.other {w : World} {B : Nat} {l : List Value} (h : BoxAt w B l) (a : Addr) (v : Value) (ha : a.block ≠ B) : BoxAt (w.setCell a v) B l :=
  h.keep (T := fun j => j = a.block) ((Ch.refl _ _).setCell _ _ (.inl rfl)) (fun e => ha e.symm)

theorem own_ne {A : World} {b1 b2 : Nat} {e1 e2 : TypeId} {s1 s2 g1 n1 k1 g2 n2 k2 m1 m2 : Nat} {x1 x2 : List Value} (h1 : A.ownsRow b1 e1 s1 (.slice (some ⟨g1, 0, none⟩) n1 k1) m1 x1) (h2 : A.ownsRow b2 e2 s2 (.slice (some ⟨g2, 0, none⟩) n2 k2) m2 x2) (he : e1 ≠ e2) : g1 ≠ g2 := by
  rintro rfl
  rcases h1.2 with ⟨h, _⟩ | ⟨g, c, cur, hv, _, ho, _⟩
  · cases h
  rcases h2.2 with ⟨h, _⟩ | ⟨g', c', cur', hv', _, ho', _⟩
  · cases h
  cases hv; cases hv'
  rw [ho] at ho'
  cases ho'
  exact he rfl
theorem own_some {A : World} {base : Nat} {e : TypeId} {size : Nat} {v : Value} {n : Nat} {xs : List Value} (h : A.ownsRow base e size v n xs) (hn : 0 < n) : ∃ b cap, v = .slice (some ⟨b, 0, none⟩) n cap ∧ base ≤ b ∧ b < A.heap.size := by
  rcases h.2 with ⟨h0, h1⟩ | ⟨g, cap, cur, hv, _⟩
  · omega
  · have := h.lt g (by rw [hv]; rfl)
    exact ⟨g, cap, hv, this.1, this.2⟩
theorem size_add (w : World) (c : Array Value) (t : TypeId) : (w.alloc (.cells c t)).heap.size = w.heap.size + 1 := World.size_alloc ..
theorem below_dn {b : Nat} {a w : World} (h : Below b a w) (n : Nat) : Below b a (w.drewN n) := h.trans ⟨rfl, rfl, rfl, Nat.le_refl _, fun _ _ => rfl⟩
theorem wrap_nat (x : Int) (n : Nat) (h : x = (n : Int)) (hn : n < 1000000) : IntKind.i64.wrap x = (n : Int) := by rw [IntKind.wrap_i64]; omega
/-- A callee's contract that turns nothing, met in a quiet walk. -/
theorem quietly {P : Program} {f : FuncId} {args : Array Value} {w : World} {n : Nat} {v : Value} (h : Calls P f args (w.drewN n) fun e w' => e = .returned v ∧ w.drewN n = w') :
    Calls P f args (w.drewN n) fun e w'' => e = .returned v ∧ ∃ m, w'' = w.drewN m := h.mono fun _ _ ⟨he, hm⟩ => ⟨he, n, hm.symm⟩
end Go.Proofs.YtchmdnmifpjfkaaDoor
/- Plain lemmas of this prover's own: a region that draws its order, over a condition on the world that need not hold behind the last operation, which waits for all that is taken first. No statement about the program. -/
namespace Go.Proofs.YtchmdnmifpjfkaaDoor
open Go.RowKit

section
variable {P : Program} {ops : Array Oper} {Q : Exit → Act → World → Prop} {md : Region.Mode} {S : World → Prop} {l : Nat}
/-- Whatever order is picked from here on; S holds behind every operation that is carried out, but behind number l. -/
def wpAnyG (P : Program) (md : Region.Mode) (ops : Array Oper) (Q : Exit → Act → World → Prop) (S : World → Prop) (l : Nat) : Nat → Array Bool → Act → World → Prop
  | 0, listed, a, w => Region.ready md ops listed = [] ∧ Q .normal a w
  | fuel + 1, listed, a, w =>
    (Region.ready md ops listed = [] → Q .normal a w) ∧
    ∀ i ∈ Region.ready md ops listed, wpOp P ops Q i (fun a' w' => (i = l ∨ S w') ∧ wpAnyG P md ops Q S l fuel (listed.setIfInBounds i true) a' w') a w
theorem wpAny_of_g : ∀ (fuel : Nat) (listed : Array Bool) (a : Act) (w : World), wpAnyG P md ops Q S l fuel listed a w → wpAny P md ops Q fuel listed a w
  | 0, _, _, _, h => h
  | fuel + 1, _, _, _, h => ⟨h.1, fun i hi => wpOp_mono (fun a' w' h' => wpAny_of_g fuel _ a' w' h'.2) (h.2 i hi)⟩
/-- Does operation l wait for operation i? -/
def waitsOn (md : Region.Mode) (ops : Array Oper) (l i : Nat) : Bool := match ops[l]? with
  | some o => o.after.toList.any fun e => Region.binds md e && Nat.beq e.on i
  | none => true
theorem waitsOn_spec {i : Nat} {listed : Array Bool} (h : waitsOn md ops l i = true) (hu : listed.getD i false = false) : l ∉ Region.ready md ops listed := by
  intro hl
  obtain ⟨_, o, ho, hall⟩ := mem_ready.1 hl
  unfold waitsOn at h
  rw [ho] at h
  rw [List.any_eq_true] at h
  obtain ⟨e, he, hb⟩ := h
  simp only [Bool.and_eq_true] at hb
  have h1 := hall e (by simpa using he) hb.1
  have : e.on = i := by simpa using hb.2
  rw [this, hu] at h1
  cases h1
theorem wpAnyG_first {i : Nat} {oi : Oper} {v : Value} (hi : ops[i]? = some oi) (hsel : ∀ (j : Nat) (o : Oper) cs b, ops[j]? = some o → o.op ≠ .select cs b) (hwt : waitsOn md ops l i = true)
    (hQ : ∀ c a w, Q (.panic c) (a.put oi.dst v) w → Q (.panic c) a w) :
    ∀ (fuel : Nat) (listed : Array Bool) (a : Act) (w : World),
      (∀ j oj, ops[j]? = some oj → j ≠ i → listed.getD j true = false → (∀ e ∈ oj.after, Region.binds md e = true → e.on ≠ i) → oi.apart ops oj = true) →
      i ∈ Region.ready md ops listed → YieldsIf P ops S oi v a → S w →
      wpAnyG P md ops Q S l fuel (listed.setIfInBounds i true) (a.put oi.dst v) w → wpAnyG P md ops Q S l (fuel + 1) listed a w := by
  intro fuel
  induction fuel with
  | zero =>
    intro listed a w _ hr hy hS H
    refine ⟨fun h => (by rw [h] at hr; cases hr), fun j hj => ?_⟩
    by_cases hji : j = i
    · subst hji; exact hy.wpOp hi hS ⟨.inr hS, H⟩
    · have := ready_mono hj hji
      rw [H.1] at this
      cases this
  | succ fuel ih =>
    intro listed a w hfree hr hy hS H
    refine ⟨fun h => (by rw [h] at hr; cases hr), fun j hj => ?_⟩
    by_cases hji : j = i
    · subst hji; exact hy.wpOp hi hS ⟨.inr hS, H⟩
    · have h1 := H.2 j (ready_mono hj hji)
      obtain ⟨hjun, oj, hoj, hall⟩ := mem_ready.1 hj
      have h0i : listed.getD i false = false := by
        have h0 := (mem_ready.1 hr).1
        rcases Nat.lt_or_ge i listed.size with h' | h'
        · simp [h'] at h0 ⊢; exact h0
        · simp [Array.getElem?_eq_none h']
      have hnot : ∀ e ∈ oj.after, Region.binds md e = true → e.on ≠ i := fun e he hb heq => by
        have h1 := hall e he hb
        rw [heq, h0i] at h1; cases h1
      have hjl : j ≠ l := fun e => waitsOn_spec (listed := listed) hwt h0i (e ▸ hj)
      have h2 := wpOp_putIf hoj (hfree j oj hoj hji hjun hnot) (fun cs b => hsel i oi cs b hi) (fun cs b => hsel j oj cs b hoj) hQ hy h1
      have hfree' : ∀ k ok, ops[k]? = some ok → k ≠ i → (listed.setIfInBounds j true).getD k true = false →
          (∀ e ∈ ok.after, Region.binds md e = true → e.on ≠ i) → oi.apart ops ok = true := fun k ok hk hki hun hno => by
        refine hfree k ok hk hki ?_ hno
        by_cases hjk : j = k
        · subst hjk; exact hjun
        · rw [getD_set_ne true hjk] at hun; exact hun
      refine wpOp_mono (fun a' w' h3 => ?_) h2
      have hS' : S w' := h3.2.1.resolve_left hjl
      exact ⟨.inr hS', ih (listed.setIfInBounds j true) a' w' hfree' (ready_mono hr (Ne.symm hji)) h3.1 hS' (by rw [Array.setIfInBounds_comm _ _ hji]; exact h3.2.2)⟩
theorem wpAnyG_take {i : Nat} {oi : Oper} {v : Value} {fuel : Nat} {listed : Array Bool} {a : Act} {w : World} (hi : ops[i]? = some oi)
    (hs : Region.noSelect ops = true) (hf : Region.free md ops listed i = true) (hr : (Region.ready md ops listed).contains i = true) (hwt : waitsOn md ops l i = true)
    (hQ : ∀ c a w, Q (.panic c) (a.put oi.dst v) w → Q (.panic c) a w) (hy : YieldsIf P ops S oi v a) (hS : S w)
    (h : wpAnyG P md ops Q S l fuel (listed.setIfInBounds i true) (a.put oi.dst v) w) : wpAnyG P md ops Q S l (fuel + 1) listed a w :=
  wpAnyG_first hi (Region.noSelect_spec hs) hwt hQ fuel listed a w (Region.free_spec hi hf) (by simpa using hr) hy hS h
def AllReadyG (P : Program) (md : Region.Mode) (ops : Array Oper) (Q : Exit → Act → World → Prop) (S : World → Prop) (l fuel : Nat) (listed : Array Bool) (a : Act) (w : World) (rs : List Nat) : Prop :=
  ∀ i ∈ rs, wpOp P ops Q i (fun a' w' => (i = l ∨ S w') ∧ wpAnyG P md ops Q S l fuel (listed.setIfInBounds i true) a' w') a w
theorem AllReadyG.nil {fuel : Nat} {listed : Array Bool} {a : Act} {w : World} : AllReadyG P md ops Q S l fuel listed a w [] := fun _ h => by cases h
/-- An operation on the way: S is shown anew behind it. -/
theorem AllReadyG.cons {fuel : Nat} {listed : Array Bool} {a : Act} {w : World} {i : Nat} {o : Oper} {rs : List Nat} (ho : ops[i]? = some o)
    (h : ∀ K' : Act → World → Prop, Shut (∀ a w, S w → (S w → wpAnyG P md ops Q S l fuel (listed.setIfInBounds i true) a w) → K' a w) → if Region.wanted o (yielded ops a.tmps) = true then Oper.wp P o a w K' Q else K' (a.put o.dst undef) w)
    (hs : AllReadyG P md ops Q S l fuel listed a w rs) : AllReadyG P md ops Q S l fuel listed a w (i :: rs) := fun j hj => by
  rcases List.mem_cons.1 hj with rfl | hj
  · exact wpOp_step ho (fun K' hK => h K' (fun a w hS hW => hK a w ⟨.inr hS, hW hS⟩))
  · exact hs j hj
/-- The last operation. -/
theorem AllReadyG.last {fuel : Nat} {listed : Array Bool} {a : Act} {w : World} {o : Oper} (ho : ops[l]? = some o)
    (h : ∀ K' : Act → World → Prop, Shut (∀ a w, wpAnyG P md ops Q S l fuel (listed.setIfInBounds l true) a w → K' a w) → if Region.wanted o (yielded ops a.tmps) = true then Oper.wp P o a w K' Q else K' (a.put o.dst undef) w) :
    AllReadyG P md ops Q S l fuel listed a w [l] := fun j hj => by
  rcases List.mem_cons.1 hj with rfl | hj
  · exact wpOp_step ho (fun K' hK => h K' (fun a w hW => hK a w ⟨.inl rfl, hW⟩))
  · cases hj
theorem wpAnyG_ready {rs : List Nat} {fuel : Nat} {listed : Array Bool} {a : Act} {w : World} (hr : Region.ready md ops listed = rs) (hne : rs ≠ [])
    (h : AllReadyG P md ops Q S l fuel listed a w rs) : wpAnyG P md ops Q S l (fuel + 1) listed a w := ⟨fun h0 => absurd (hr ▸ h0) hne, hr ▸ h⟩
theorem wpAnyG_done {listed : Array Bool} {a : Act} {w : World} (hr : Region.ready md ops listed = []) (h : Q .normal a w) :
    ∀ fuel, wpAnyG P md ops Q S l fuel listed a w
  | 0 => ⟨hr, h⟩
  | _ + 1 => ⟨fun _ => h, by rw [hr]; simp⟩
theorem wp_region_g {id : Nat} {a : Act} {w : World} (S : World → Prop) (l : Nat) (hm : P.follows .mixedOrders = true) (hS : S w.drew)
    (h : S w.drew → wpAnyG P .any ops Q S l ops.size (Array.replicate ops.size false) a w.drew) : (Code.region id ops true).wp P Q a w :=
  wp_region_any hm (wpAny_of_g _ _ _ _ (h hS))
end
end Go.Proofs.YtchmdnmifpjfkaaDoor
/- Rows of cells. No statement about the program. -/
namespace Go.Proofs.YtchmdnmifpjfkaaDoor
open Go.RowKit

def RowAt (w : World) (b : Nat) (t : TypeId) (cs : Array Value) : Prop := w.heap[b]? = some (.cells cs t (0, 0))
theorem ch_setRow (w : World) (A : Nat) (cs : Array Value) : Ch (fun j => j = A) w (w.setRow A cs) :=
  ⟨rfl, rfl, rfl, by simp [World.setRow], fun k _ hn => setRow_other w A k cs hn⟩
theorem RowAt.lt {w : World} {b : Nat} {t : TypeId} {cs : Array Value} (h : RowAt w b t cs) : b < w.heap.size := (Array.getElem?_eq_some_iff.1 h).1
theorem RowAt.new {w w' : World} {b : Nat} {t : TypeId} {cs : Array Value} (h : RowAt w b t cs) (hb : Below w.heap.size w w') : RowAt w' b t cs := (hb.block b h.lt).trans h
theorem RowAt.keep {T : Nat → Prop} {w w' : World} {b : Nat} {t : TypeId} {cs : Array Value} (h : RowAt w b t cs) (c : Ch T w w') (hT : ¬ T b) : RowAt w' b t cs := (c.block b h.lt hT).trans h
theorem RowAt.put {w : World} {b : Nat} {t : TypeId} {cs vs : Array Value} (h : RowAt w b t cs) : RowAt (w.setRow b vs) b t vs := setRow_heap _ _ _ _ t (0, 0) h
theorem RowAt.mk (w : World) (t : TypeId) (cs : Array Value) : RowAt (w.alloc (.cells cs t)) w.heap.size t cs := heap_alloc_new w _
theorem RowAt.cell {w : World} {b : Nat} {t : TypeId} {cs : Array Value} (h : RowAt w b t cs) (j : Nat) : w.cell? ⟨b, j, none⟩ = cs[j]? := cell_of_row w b j _ _ _ h
theorem RowAt.fr {w : World} {b : Nat} {t : TypeId} {cs : Array Value} (h : RowAt w b t cs) (j : Nat) : w.frozen? ⟨b, j, none⟩ = false := frozen_of_row w b j _ _ h
theorem RowAt.setC {w : World} {b : Nat} {t : TypeId} {cs : Array Value} (h : RowAt w b t cs) (j : Nat) (v : Value) : RowAt (w.setCell ⟨b, j, none⟩ v) b t (cs.setIfInBounds j v) := heap_setCell_same w b j cs t v h
theorem exec_load_row {P : Program} {o : Oper} {a : Act} {w : World} (ty : TypeId) (x : Operand) (ho : o.op = .load ty x) (g : Nat) (hx : a.eval x = .pointer (some ⟨g, 0, none⟩)) (t : TypeId) (cs : Array Value) (fr : Nat × Nat) (d : TypeDesc)
    (hg : w.heap[g]? = some (.cells cs t fr)) (hu : P.underlying ty = some d) (hd : (match d with | .struct _ | .array _ _ => true | _ => false) = true) (hi : (P.info? ty).map (·.size) = some cs.size) :
    (execOp a.eval o).run P w = .ok (Next.value (.agg cs)) w := by
  unfold execOp
  simp only [ho, hx, Instr.loadAt, Instr.sureAddr, Sem.run_bind, Sem.run_pure, Result.andThen_ok, run_loadVar_row w g t ty cs fr d hg hu hd hi]
theorem wpList_load_want {P : Program} {ops : Array Oper} {rest : List Oper} {o : Oper} {a : Act} {w : World} {Q : Exit → Act → World → Prop} (hw : Region.wanted o (yielded ops a.tmps) = true) (ty : TypeId) (x : Operand) (ho : o.op = .load ty x)
    (g : Nat) (hx : a.eval x = .pointer (some ⟨g, 0, none⟩)) (t : TypeId) (cs : Array Value) (fr : Nat × Nat) (d : TypeDesc) (hg : w.heap[g]? = some (.cells cs t fr))
    (hu : P.underlying ty = some d) (hd : (match d with | .struct _ | .array _ _ => true | _ => false) = true) (hi : (P.info? ty).map (·.size) = some cs.size)
    (h : wpList P ops Q rest (a.put o.dst (.agg cs)) w) : wpList P ops Q (o :: rest) a w :=
  wpList_step fun _ hK => by rw [if_pos hw]; exact wp_load_row ty x ho g hx t cs fr d hg hu hd hi (hK _ _ h)
theorem below_row {A n : Nat} {w w1 : World} (h : Below n w w1) (hn : n ≤ w.heap.size) (hA : n ≤ A) (cs : Array Value) : Below n w (w1.setRow A cs) := h.trans ((ch_setRow w1 A cs).below (fun j hj e => by omega) (Nat.le_trans hn h.size))
theorem alloc_row (w : World) (z c : Array Value) (t : TypeId) : Below w.heap.size w ((w.alloc (.cells z t)).setRow w.heap.size c) ∧ RowAt ((w.alloc (.cells z t)).setRow w.heap.size c) w.heap.size t c :=
  ⟨below_row ((Below.refl _ _).alloc (Nat.le_refl _) _) (Nat.le_refl _) (Nat.le_refl _) c, (RowAt.mk w t z).put⟩
theorem two_alloc {w w3 : World} {a b : Array Value} {ta tb : TypeId} (h : Below ((w.alloc (.cells a ta)).alloc (.cells b tb)).heap.size ((w.alloc (.cells a ta)).alloc (.cells b tb)) w3) :
    Below w.heap.size w w3 ∧ RowAt w3 w.heap.size ta a ∧ RowAt w3 (w.heap.size + 1) tb b := by
  have b0 : Below w.heap.size w ((w.alloc (.cells a ta)).alloc (.cells b tb)) := ((Below.refl _ w).alloc (Nat.le_refl _) _).alloc (by simp) _
  have r1 := ((RowAt.mk w ta a).new ((Below.refl _ _).alloc (Nat.le_refl _) (.cells b tb))).new h
  have r2 := RowAt.mk (w.alloc (.cells a ta)) tb b
  rw [World.size_alloc] at r2
  exact ⟨b0.trans (h.mono b0.size), r1, r2.new h⟩
theorem below_alloc {n : Nat} {w w' : World} (h : Below n w w') (hn : n ≤ w.heap.size) (o : Obj) : Below n w (w'.alloc o) := h.alloc (Nat.le_trans hn h.size) o
end Go.Proofs.YtchmdnmifpjfkaaDoor
/- Cells that lie in a row, and slices. No statement about the program. -/
namespace Go.Proofs.YtchmdnmifpjfkaaDoor
open Go.RowKit

/-- Cells that lie from a place on. -/
def At (w : World) (b off : Nat) (l : List Value) : Prop := ∀ j u, l[j]? = some u → w.cell? ⟨b, off + j, none⟩ = some u
theorem At.keep {T : Nat → Prop} {w w' : World} {b off : Nat} {l : List Value} (h : At w b off l) (c : Ch T w w') (hT : ¬ T b) : At w' b off l := fun j u hu => c.cell (h j u hu) hT
/-- Where a slice lies. -/
structure Src where
  sp : Option Addr
  b : Nat
  o : Nat
  c : Nat
/-- A slice of so many elements of so many cells lies there. -/
structure SlAt (w : World) (V : Nat → Prop) (s : Src) (n : Nat) : Prop where
  at_ : 0 < n → s.sp = some ⟨s.b, s.o, none⟩ ∧ s.b < w.heap.size ∧ ¬ V s.b
  sm : n ≤ 9223372036854775807
theorem SlAt.keep {T : Nat → Prop} {V : Nat → Prop} {w w' : World} {s : Src} {n : Nat} (h : SlAt w V s n) (c : Ch T w w') : SlAt w' V s n :=
  ⟨fun h0 => ⟨(h.at_ h0).1, Nat.lt_of_lt_of_le (h.at_ h0).2.1 c.size, (h.at_ h0).2.2⟩, h.sm⟩
theorem SlAt.more {V V' : Nat → Prop} {w : World} {s : Src} {n : Nat} (h : SlAt w V s n) (hV : ∀ j, j < w.heap.size → V' j → V j) : SlAt w V' s n :=
  ⟨fun h0 => ⟨(h.at_ h0).1, (h.at_ h0).2.1, fun hv => (h.at_ h0).2.2 (hV _ (h.at_ h0).2.1 hv)⟩, h.sm⟩
theorem flat_at (n : Nat) : ∀ (M : List (List Value)), (∀ r ∈ M, r.length = n) → ∀ (k j : Nat), k < M.length → j < n → M.flatten[k * n + j]? = (M.getD k [])[j]? := by
  intro M
  induction M with
  | nil => intro _ k j hk; simp at hk
  | cons r M ih =>
    intro hr k j hk hj
    have hrl := hr r (by simp)
    cases k with
    | zero =>
      rw [List.flatten_cons, Nat.zero_mul, Nat.zero_add, List.getElem?_append_left (by omega)]
      rfl
    | succ k =>
      rw [List.flatten_cons, List.getElem?_append_right (by rw [hrl, Nat.succ_mul]; omega), hrl, show (k + 1) * n + j - n = k * n + j by rw [Nat.succ_mul]; omega, ih (fun s hs => hr s (by simp [hs])) k j (by simpa using hk) hj]
      rfl
/-- Rows of cells, one behind the other. -/
def rowsOf (f : Nat → List Value) (n : Nat) : List Value := ((List.range n).map f).flatten
theorem rowsOf_at {f : Nat → List Value} {sz n : Nat} (hf : ∀ k, k < n → (f k).length = sz) (k j : Nat) (hk : k < n) (hj : j < sz) : (rowsOf f n)[k * sz + j]? = (f k)[j]? := by
  unfold rowsOf
  rw [flat_at sz _ (by intro r hr; obtain ⟨i, hi, rfl⟩ := List.mem_map.1 hr; exact hf i (List.mem_range.1 hi)) k j (by simpa using hk) hj]
  simp [hk]
theorem rowsOf_len {f : Nat → List Value} {sz : Nat} : ∀ n, (∀ k, k < n → (f k).length = sz) → (rowsOf f n).length = n * sz := by
  intro n
  induction n with
  | zero => intro _; simp [rowsOf]
  | succ n ih =>
    intro hf
    have h1 := ih fun k hk => hf k (by omega)
    unfold rowsOf at h1 ⊢
    rw [List.range_succ, List.map_append, List.flatten_append, List.length_append, h1]
    simp [hf n (by omega), Nat.succ_mul]
theorem rowsOf_src {f : Nat → List Value} {sz n : Nat} (hsz : 0 < sz) (hf : ∀ k, k < n → (f k).length = sz) {w : World} {b o : Nat} (h : ∀ k, k < n → At w b (o + k * sz) (f k)) : ∀ j u, (rowsOf f n)[j]? = some u → w.cell? ((⟨b, o, none⟩ : Addr).add j) = some u := by
  intro j u hu
  have hl : j < n * sz := by have := (List.getElem?_eq_some_iff.1 hu).1; rwa [rowsOf_len n hf] at this
  have hk : j / sz < n := Nat.div_lt_of_lt_mul (by rwa [Nat.mul_comm] at hl)
  have hj : j % sz < sz := Nat.mod_lt _ hsz
  have hd : j / sz * sz + j % sz = j := by rw [Nat.mul_comm]; exact Nat.div_add_mod j sz
  have hr := rowsOf_at hf (j / sz) (j % sz) hk hj
  rw [hd, hu] at hr
  have := h (j / sz) hk (j % sz) u hr.symm
  rw [Addr.add_lit]
  rwa [Nat.add_assoc, hd] at this
theorem rowsOf_all {f : Nat → List Value} {n : Nat} {p : Value → Prop} (hf : ∀ k, k < n → ∀ u ∈ f k, p u) : ∀ u ∈ rowsOf f n, p u := by
  intro u hu
  unfold rowsOf at hu
  obtain ⟨r, hr, hur⟩ := List.mem_flatten.1 hu
  obtain ⟨k, hk, rfl⟩ := List.mem_map.1 hr
  exact hf k (List.mem_range.1 hk) u hur
/-- An owned row of such rows, as a slice. -/
theorem own_rows {w : World} {base sz n : Nat} {v : Value} {f : Nat → List Value} {e : TypeId} (h : w.ownsRow base e sz v n (rowsOf f n)) (hf : ∀ k, k < n → (f k).length = sz) (_hn : n ≤ 9223372036854775807) :
    ∃ S : Src, v = .slice S.sp n S.c ∧ (0 < n → S.sp = some ⟨S.b, S.o, none⟩ ∧ base ≤ S.b ∧ S.b < w.heap.size ∧ ∀ j, w.frozen? ⟨S.b, j, none⟩ = false) ∧ ∀ k, k < n → At w S.b (S.o + k * sz) (f k) := by
  rcases h.2 with ⟨rfl, h0⟩ | ⟨g, cap, cur, rfl, hb, hh, _⟩
  · exact ⟨⟨none, 0, 0, 0⟩, by rw [h0], fun h1 => by omega, fun k hk => by omega⟩
  · have hl := h.lt g rfl
    refine ⟨⟨some ⟨g, 0, none⟩, g, 0, cap⟩, rfl, fun _ => ⟨rfl, hb, hl.2, fun j => frozen_of_row w g j _ _ hh⟩, fun k hk j u hu => ?_⟩
    have hj : j < sz := by have := (List.getElem?_eq_some_iff.1 hu).1; rwa [hf k hk] at this
    have hr := rowsOf_at hf k j hk hj
    rw [hu] at hr
    have hlt : k * sz + j < n * sz := by
      have := Nat.mul_le_mul_right sz (show k + 1 ≤ n by omega)
      rw [Nat.succ_mul] at this
      omega
    have := h.cellAt (k * sz + j) hlt
    rw [Nat.zero_add]
    exact this.trans hr
end Go.Proofs.YtchmdnmifpjfkaaDoor
