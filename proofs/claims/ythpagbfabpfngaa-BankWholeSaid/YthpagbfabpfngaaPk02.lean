/- Several texts in one: Foot, Own, Box, KD. -/
import Derived.RangeFuncNested
import Derived.RangeFuncBound
import Derived.RangeFuncCalls
import Derived.RangeFuncLeaves
import Derived.Below
import Derived.Deep.Draws
import Derived.WalkKit
import Derived.Laws.AppendOwn
import Derived.Laws.OwnMore
import Derived.Carry
import Derived.Maps.AppendAt
import Derived.Deep.AppendLies
import Derived.RangeFuncRecord
import Derived.OwnWalkIn
import Derived.ProofKit
import Derived.Test.YthpagbfabpfngaaPk01
/- Plain laws of this prover's own on a range over a function: what a loop owes and gets when its body and its iterator both make and turn blocks while it runs: each side has its footprint, stated by numbers of rounds. No statement about the program. -/
namespace Go.Proofs.Ythpagbfabpfngaa
open Go.RowKit

/-- From W to W' nothing has turned but blocks of T and what was made since. -/
structure Ch (T : Nat → Prop) (W W' : World) : Prop where
  os : W'.os = W.os
  tape : W'.tape = W.tape
  output : W'.output = W.output
  size : W.heap.size ≤ W'.heap.size
  block : ∀ k, k < W.heap.size → ¬ T k → W'.heap[k]? = W.heap[k]?

namespace Ch
variable {T T' : Nat → Prop} {A B C W W' : World}
theorem refl (T : Nat → Prop) (W : World) : Ch T W W := ⟨rfl, rfl, rfl, Nat.le_refl _, fun _ _ _ => rfl⟩
theorem trans (h : Ch T A B) (h' : Ch T B C) : Ch T A C :=
  ⟨h'.os.trans h.os, h'.tape.trans h.tape, h'.output.trans h.output, Nat.le_trans h.size h'.size,
   fun k hk ht => (h'.block k (Nat.lt_of_lt_of_le hk h.size) ht).trans (h.block k hk ht)⟩
theorem mono (h : Ch T A B) (ht : ∀ k, k < A.heap.size → T k → T' k) : Ch T' A B :=
  ⟨h.os, h.tape, h.output, h.size, fun k hk hn => h.block k hk (fun e => hn (ht k hk e))⟩
theorem alloc (h : Ch T A B) (o : Obj) : Ch T A (B.alloc o) :=
  ⟨h.os, h.tape, h.output, by simp; exact Nat.le_succ_of_le h.size, fun k hk hn => by
    rw [← h.block k hk hn]; exact Below.heap_alloc _ _ _ (Nat.lt_of_lt_of_le hk h.size)⟩
theorem drew (h : Ch T A B) : Ch T A B.drew := ⟨h.os, h.tape, h.output, h.size, h.block⟩
theorem drewN (h : Ch T A B) (n : Nat) : Ch T A (B.drewN n) := ⟨h.os, h.tape, h.output, h.size, h.block⟩
theorem putObj (h : Ch T A B) (l : Nat) (o : Obj) (hl : T l) : Ch T A (B.putObj l o) :=
  ⟨h.os, h.tape, h.output, by simp; exact h.size, fun k hk hn => by
    rw [← h.block k hk hn]; exact World.putObj_heap_other (fun e => hn (e ▸ hl))⟩
theorem setCell (h : Ch T A B) (a : Addr) (v : Value) (hl : T a.block ∨ A.heap.size ≤ a.block) : Ch T A (B.setCell a v) := by
  have hb := (Below.refl a.block B).setCell (Nat.le_refl _) v
  refine ⟨hb.os.trans h.os, hb.tape.trans h.tape, hb.output.trans h.output, Nat.le_trans h.size hb.size, fun k hk hn => ?_⟩
  rw [← h.block k hk hn]
  rcases Nat.lt_trichotomy k a.block with hlt | heq | hgt
  · exact hb.block k hlt
  · rcases hl with hl | hl
    · exact absurd (heq ▸ hl) hn
    · omega
  · simp [World.setCell, Array.getElem?_modify, Nat.ne_of_lt hgt]
theorem of_below {n : Nat} (h : Below n A B) : Ch (fun k => n ≤ k) A B :=
  ⟨h.os, h.tape, h.output, h.size, fun k _ hn => h.block k (by omega)⟩
theorem below {n : Nat} (h : Ch T A B) (ht : ∀ k, k < n → ¬ T k) (hn : n ≤ A.heap.size) : Below n A B :=
  ⟨h.os, h.tape, h.output, h.size, fun k hk => h.block k (by omega) (ht k hk)⟩
theorem new (h : Below A.heap.size A B) : Ch T A B :=
  ⟨h.os, h.tape, h.output, h.size, fun k hk _ => h.block k hk⟩
theorem obj (h : Ch T A B) {k : Nat} {o : Obj} (ho : A.heap[k]? = some o) (ht : ¬ T k) : B.heap[k]? = some o := by
  rw [h.block k (Array.getElem?_eq_some_iff.1 ho).1 ht]; exact ho
theorem cell (h : Ch T A B) {p : Addr} {v : Value} (hc : A.cell? p = some v) (ht : ¬ T p.block) : B.cell? p = some v := by
  obtain ⟨o, ho, _⟩ := cells_of_cell hc
  have := h.obj ho ht
  unfold World.cell? at hc ⊢
  rw [this]; rw [ho] at hc; exact hc
theorem frozen (h : Ch T A B) {p : Addr} (hk : p.block < A.heap.size) (ht : ¬ T p.block) : B.frozen? p = A.frozen? p := by
  unfold World.frozen?
  rw [h.block _ hk ht]
theorem frozenCell (h : Ch T A B) {p : Addr} {v : Value} (hc : A.cell? p = some v) (ht : ¬ T p.block) : B.frozen? p = A.frozen? p := by
  obtain ⟨o, ho, _⟩ := cells_of_cell hc
  exact h.frozen (Array.getElem?_eq_some_iff.1 ho).1 ht
end Ch

/-- One side's step: it turns its footprint F alone, and what belongs to it behind the step belonged to it or is new. -/
def Step (F : World → Nat → Prop) (W W' : World) : Prop := Ch (F W) W W' ∧ ∀ j, F W' j → F W j ∨ W.heap.size ≤ j
/-- The other side's step: it leaves F alone. -/
def Off (F : World → Nat → Prop) (W W' : World) : Prop := Ch (fun j => ¬ F W j) W W'
/-- What holds of a world and lies within the footprint F: F is there, and whatever leaves F alone leaves it true. -/
structure Foot (F : World → Nat → Prop) (I : World → Prop) : Prop where
  lt : ∀ W, I W → ∀ j, F W j → j < W.heap.size
  keep : ∀ W W', I W → Off F W W' → I W' ∧ ∀ j, F W' j → F W j

theorem Step.refl (F : World → Nat → Prop) (W : World) : Step F W W := ⟨Ch.refl _ _, fun _ h => .inl h⟩
theorem Step.trans {F : World → Nat → Prop} {A B C : World} (h : Step F A B) (h' : Step F B C) : Step F A C :=
  ⟨((h.1.mono (T' := fun j => F A j ∨ A.heap.size ≤ j) fun _ _ hf => .inl hf).trans (h'.1.mono fun j _ hf => h.2 j hf)).mono fun j hj hf => by rcases hf with hf | hf; exact hf; omega,
    fun j hf => by
      rcases h'.2 j hf with hf | hf
      · exact h.2 j hf
      · exact .inr (Nat.le_trans h.1.size hf)⟩
theorem Step.no {F : World → Nat → Prop} {A B : World} (h : Step F A B) {j : Nat} (hn : ¬ F A j) (hj : j < A.heap.size) : ¬ F B j := fun hf => by
  rcases h.2 j hf with hf | hf
  · exact hn hf
  · omega
theorem Off.of {F : World → Nat → Prop} {T : Nat → Prop} {A B : World} (h : Ch T A B) (ht : ∀ j, T j → ¬ F A j) : Off F A B := Ch.mono h fun j _ hj => ht j hj
theorem Off.new {F : World → Nat → Prop} {A B : World} (h : Below A.heap.size A B) : Off F A B := Ch.new h
theorem Off.nothing {F : World → Nat → Prop} {A B : World} (h : Ch (fun _ => False) A B) : Off F A B := Ch.mono h fun _ _ h => h.elim

/-- How a round's body may be left. -/
def roundEndF (F : World → Nat → Prop) (I : Nat → World → Prop) (Ix : Code → Nat → World → Prop) (k : Nat) (W : World) : Exit → Act → World → Prop
  | .normal, _, W' => Step F W W' ∧ I k W'
  | .ret, _, W' => Step F W W' ∧ Ix .ret k W'
  | .exit id, _, W' => Step F W W' ∧ Ix (.exit id) k W'
  | .goto t, _, W' => Step F W W' ∧ Ix (.goto t) k W'
  | .panic _, _, _ => False
  | .outgrown, _, _ => False

/-- What an iterator gives: N rounds at most. -/
def Iter (P : Program) (gf : Nat) (lb : Array Value) (l : Nat) (N : Nat) (J Jx : Nat → World → Prop) (W : World) : Prop :=
  CallsIn Fence.wide 0 P gf (#[.func (.yield l) #[] #[]] ++ lb) W fun e W' => (∃ v, e = .returned v) ∧ (J N W' ∨ ∃ k, k ≤ N ∧ Jx k W')

/-- A round of the loop whose record is l: it turns the loop's footprint F alone. -/
def RoundsF (P : Program) (l N : Nat) (args : Nat → Array Value) (F : World → Nat → Prop) (J Jx : Nat → World → Prop) : Prop :=
  ∀ k W, J k W → k < N → YieldAt Fence.wide 0 P l (args k) W fun e W' =>
    (e = .returned (.bool true) ∧ J (k + 1) W' ∧ Step F W W') ∨ (e = .returned (.bool false) ∧ Jx (k + 1) W' ∧ Step F W W')

variable {P : Program}

/-- THE LOOP: the rounds' invariant I (and Ix, where a round has left by a jump) lies within the footprint F; all else the iterator may turn. -/
theorem wpIn_rangeF {g : Operand} {ps : Array Tmp} {assign body : Code} {Q : Exit → Act → World → Prop} {a : Act} {w : World}
    {gf : Nat} {lb : Array Value} (hg : a.eval g = .func (.func gf) #[] lb) (eg : ∀ args w, (callFunc gf args).run P w = .ok (.enter gf args) w)
    (N : Nat) (args : Nat → Array Value) (hps : ∀ k, (args k).size = ps.size) (F : World → Nat → Prop)
    (I : Nat → World → Prop) (Ix : Code → Nat → World → Prop) (fI : ∀ k, Foot F (I k)) (fX : ∀ c k, Foot F (Ix c k))
    (h0 : I 0 w) (Ax : Nat → Act → World → Prop)
    (hAx : ∀ k a' W W', Ax k a' W → Ch (fun j => j = w.heap.size + 1) W W' → Ax k a' W')
    (hit : ∀ J Jx W1, w.heap.size + 2 = W1.heap.size → Below w.heap.size w W1 →
      (∀ k W, J k W → I k W ∧ w.heap.size + 2 ≤ W.heap.size) → (∀ k W, Jx k W → (∃ c, Ix c k W) ∧ w.heap.size + 2 ≤ W.heap.size) →
      (∀ k, Foot (fun W j => F W j ∨ j = w.heap.size ∨ j = w.heap.size + 1) (J k)) → (∀ k, Foot (fun W j => F W j ∨ j = w.heap.size ∨ j = w.heap.size + 1) (Jx k)) →
      RoundsF P (w.heap.size + 1) N args (fun W j => F W j ∨ j = w.heap.size ∨ j = w.heap.size + 1) J Jx → J 0 W1 →
      Iter P gf lb (w.heap.size + 1) N J Jx W1)
    (hassign : ∀ k W (K : Act → World → Prop), I k W → k < N → (∀ a' W', Ax k a' W' → Ch (fun _ => False) W W' → I k W' → (∀ j, F W' j → F W j) → K a' W') →
      assign.wpIn (Fence.wide.inRound (w.heap.size + 1)) 0 P (Exit.then K (fun _ _ _ => False)) { tmps := (ps.zip (args k)).foldl (fun t (p, v) => t.setIfInBounds p v) a.tmps, defers := [] } W)
    (hbody : ∀ k a' W, I k W → k < N → Ax k a' W → w.heap.size + 2 ≤ W.heap.size → body.wpIn (Fence.wide.inRound (w.heap.size + 1)) 0 P (roundEndF F I Ix (k + 1) W) a' W)
    (hdone : ∀ W, I N W → W.heap[w.heap.size]? = some (.deferred (some [])) → ¬ F W w.heap.size → w.heap.size + 2 ≤ W.heap.size → Q .normal { a with defers := { target := .collected w.heap.size, args := #[] } :: a.defers } W)
    (hstop : ∀ c k W, k ≤ N → Ix c k W → W.heap[w.heap.size]? = some (.deferred (some [])) → ¬ F W w.heap.size → w.heap.size + 2 ≤ W.heap.size → c.wpIn Fence.wide 0 P Q { a with defers := { target := .collected w.heap.size, args := #[] } :: a.defers } W) :
    (Code.rangeFunc g ps assign body).wpIn Fence.wide 0 P Q a w := by
  refine wpIn_rangeFunc fun fn hfn => ?_
  let mk : LoopState → Option Code → Obj := fun st pe => .loop { state := st, pending := pe, fn, tmps := a.tmps, params := ps, assign, body, defers := w.heap.size }
  let D := w.heap.size
  let l := w.heap.size + 1
  let FJ : World → Nat → Prop := fun W j => F W j ∨ j = D ∨ j = l
  let W1 := (w.alloc (.deferred (some []))).alloc (mk .ready none)
  have z1 : W1.heap.size = w.heap.size + 2 := by simp [W1]
  have l1 : W1.heap[l]? = some (mk .ready none) := by
    have := World.alloc_heap_new (w.alloc (.deferred (some []))) (mk .ready none); rwa [World.size_alloc] at this
  have d1 : W1.heap[D]? = some (.deferred (some [])) := by
    rw [Below.heap_alloc _ _ _ (by simp [D])]; exact World.alloc_heap_new w _
  have c1 : Ch (fun _ => False) w W1 := ((Ch.refl _ w).alloc _).alloc _
  have nl : ∀ {T : Nat → Prop} {W W' : World} {o : Obj} {j : Nat}, Ch T W W' → ¬ T j → W.heap[j]? = some o → W'.heap[j]? = some o := fun c ht h => c.obj h ht
  have i1 := (fI 0).keep w W1 h0 (Off.nothing c1)
  have n1 : ¬ F W1 l ∧ ¬ F W1 D := ⟨fun h => by have := (fI 0).lt w h0 _ (i1.2 _ h); simp [l] at this; omega, fun h => by have := (fI 0).lt w h0 _ (i1.2 _ h); simp [D] at this⟩
  have hDl : ¬ D = l := by simp [D, l]
  refine ⟨l, [{ target := .collected D, args := #[] }], W1, { target := .fn (.func gf) lb, args := #[.func (.yield l) #[] #[]] }, W1, gf, #[.func (.yield l) #[] #[]] ++ lb, W1,
    run_enterLoop_outer _ _ _ _ _, ?_, fun _ _ => trivial, ?_, fun h => absurd h (by simp [Fence.wide]), ?_⟩
  · simp only [resolve, hg]; simp [go_sem]
  · simp [invoke, go_sem, eg]
  let J : Nat → World → Prop := fun k W => I k W ∧ W.heap[l]? = some (mk .ready none) ∧ W.heap[D]? = some (.deferred (some [])) ∧ w.heap.size + 2 ≤ W.heap.size ∧ ¬ F W l ∧ ¬ F W D
  let Jx : Nat → World → Prop := fun k W => ∃ c, Ix c k W ∧ W.heap[l]? = some (mk .done (some c)) ∧ W.heap[D]? = some (.deferred (some [])) ∧ w.heap.size + 2 ≤ W.heap.size ∧ ¬ F W l ∧ ¬ F W D
  have offJ : ∀ {W W' : World}, Off FJ W W' → Off F W W' := fun h => Ch.mono h fun j _ hn hf => hn (.inl hf)
  have fJ : ∀ k, Foot FJ (J k) := fun k => ⟨fun W h j hj => by
      rcases hj with hj | rfl | rfl
      · exact (fI k).lt W h.1 j hj
      · have := h.2.2.2.1; simp only [D]; omega
      · have := h.2.2.2.1; simp only [l]; omega,
    fun W W' h hc => by
      have hi := (fI k).keep W W' h.1 (offJ hc)
      refine ⟨⟨hi.1, nl hc (fun h => h (.inr (.inr rfl))) h.2.1, nl hc (fun h => h (.inr (.inl rfl))) h.2.2.1, Nat.le_trans h.2.2.2.1 hc.size, fun hf => h.2.2.2.2.1 (hi.2 _ hf), fun hf => h.2.2.2.2.2 (hi.2 _ hf)⟩, fun j hj => ?_⟩
      rcases hj with hj | hj
      · exact .inl (hi.2 j hj)
      · exact .inr hj⟩
  have fJx : ∀ k, Foot FJ (Jx k) := fun k => ⟨fun W ⟨c, h⟩ j hj => by
      rcases hj with hj | rfl | rfl
      · exact (fX c k).lt W h.1 j hj
      · have := h.2.2.2.1; simp only [D]; omega
      · have := h.2.2.2.1; simp only [l]; omega,
    fun W W' ⟨c, h⟩ hc => by
      have hi := (fX c k).keep W W' h.1 (offJ hc)
      refine ⟨⟨c, hi.1, nl hc (fun h => h (.inr (.inr rfl))) h.2.1, nl hc (fun h => h (.inr (.inl rfl))) h.2.2.1, Nat.le_trans h.2.2.2.1 hc.size, fun hf => h.2.2.2.2.1 (hi.2 _ hf), fun hf => h.2.2.2.2.2 (hi.2 _ hf)⟩, fun j hj => ?_⟩
      rcases hj with hj | hj
      · exact .inl (hi.2 j hj)
      · exact .inr hj⟩
  have put : ∀ (W : World) (o : Obj), Ch (fun j => j = l) W (W.putObj l o) := fun W o => (Ch.refl _ W).putObj _ _ rfl
  have offput : ∀ {W : World} {o : Obj}, ¬ F W l → Off F W (W.putObj l o) := fun h => Off.of (put _ _) fun j hj => by subst hj; exact h
  refine (hit J Jx W1 z1.symm (((Below.refl _ w).alloc (Nat.le_refl _) _).alloc (by simp) _) (fun _ _ h => ⟨h.1, h.2.2.2.1⟩) (fun _ _ ⟨c, h⟩ => ⟨⟨c, h.1⟩, h.2.2.2.1⟩)
    fJ fJx ?_ ⟨i1.1, l1, d1, by omega, n1⟩).mono ?_
  · rintro k W ⟨hi, hl, hd, hz, hnl, hnD⟩ hk
    refine ⟨fn, _, assign, body, run_yield hl (hps k), roundIn_of_wpIn hfn (hassign k W _ hi hk fun a' W2 ha c2 hi2 hf2 => ?_)⟩
    have hl2 := nl c2 (fun h => h) hl
    refine ⟨_, run_beginRound hl2 rfl, ?_⟩
    have hnl2 : ¬ F W2 l := fun h => hnl (hf2 _ h)
    have cb := put W2 (mk .busy none)
    have hlb : (W2.putObj l (mk .busy none)).heap[l]? = some (mk .busy none) := World.putObj_heap_same (Array.getElem?_eq_some_iff.1 hl2).1
    have hdb := nl cb (fun h : D = l => hDl h) (nl c2 (fun h => h) hd)
    have ib := (fI k).keep W2 (W2.putObj l (mk .busy none)) hi2 (offput hnl2)
    have hnlb : ¬ F (W2.putObj l (mk .busy none)) l := fun h => hnl2 (ib.2 _ h)
    have hnDb : ¬ F (W2.putObj l (mk .busy none)) D := fun h => hnD (hf2 _ (ib.2 _ h))
    have zb : w.heap.size + 2 ≤ (W2.putObj l (mk .busy none)).heap.size := Nat.le_trans (Nat.le_trans hz c2.size) cb.size
    have cWb : Ch (fun j => FJ W j) W (W2.putObj l (mk .busy none)) := (c2.mono fun _ _ h => h.elim).trans (cb.mono fun j _ hj => .inr (.inr hj))
    have fWb : ∀ j, F (W2.putObj l (mk .busy none)) j → F W j := fun j h => hf2 _ (ib.2 _ h)
    refine wpIn_mono (hbody k a' _ ib.1 hk (hAx _ _ _ _ ha cb) zb) ?_
    have fin : ∀ (jump : Option Code) (W3 : World), Step F (W2.putObj l (mk .busy none)) W3 →
        ∃ W4, (Instr.endRound l jump).run P W3 = .ok (.bool jump.isNone) W4 ∧ Ch (fun j => j = l) W3 W4 ∧ Off F W3 W4 ∧ ¬ F W3 l ∧ ¬ F W3 D ∧
          W4.heap[l]? = some (mk (if jump.isNone then .ready else .done) jump) ∧ W4.heap[D]? = some (.deferred (some [])) ∧ Ch (FJ W) W W4 ∧ w.heap.size + 2 ≤ W4.heap.size ∧ (∀ j, F W3 j → F W j ∨ W.heap.size ≤ j) := fun jump W3 s3 => by
      have hn3 := s3.no hnlb (by omega)
      have hD3 := s3.no hnDb (by omega)
      have hl3 := nl s3.1 hnlb hlb
      have c4 := put W3 (mk (if jump.isNone then .ready else .done) jump)
      refine ⟨_, run_endRound jump hl3, c4, offput hn3, hn3, hD3, World.putObj_heap_same (Array.getElem?_eq_some_iff.1 hl3).1, nl c4 (fun h : D = l => hDl h) (nl s3.1 hnDb hdb), ?_, ?_, ?_⟩
      · refine (((cWb.mono (T' := fun j => FJ W j ∨ W.heap.size ≤ j) fun _ _ h => .inl h).trans (s3.1.mono fun j _ hj => .inl (.inl (fWb j hj)))).trans (c4.mono fun j _ hj => .inl (.inr (.inr hj)))).mono fun j hj h => ?_
        rcases h with h | h
        · exact h
        · omega
      · exact Nat.le_trans zb (Nat.le_trans s3.1.size c4.size)
      · intro j hj
        rcases s3.2 j hj with h | h
        · exact .inl (fWb j h)
        · exact .inr (Nat.le_trans cWb.size h)
    have stp : ∀ {W3 W4 : World}, Ch (FJ W) W W4 → (∀ j, F W4 j → F W3 j) → (∀ j, F W3 j → F W j ∨ W.heap.size ≤ j) → Step FJ W W4 := fun c h4 h3 => ⟨c, fun j hj => by
      rcases hj with hj | hj
      · rcases h3 _ (h4 _ hj) with h | h
        · exact .inl (.inl h)
        · exact .inr h
      · exact .inl (.inr hj)⟩
    have left : ∀ (c : Code) (a3 : Act) (W3 : World), Step F (W2.putObj l (mk .busy none)) W3 → Ix c (k + 1) W3 → ∃ W4, (Instr.endRound l (some c)).run P W3 = .ok (.bool false) W4 ∧ Jx (k + 1) W4 ∧ Step FJ W W4 := fun c a3 W3 s3 hx => by
      obtain ⟨W4, hr, c4, o4, hn3, hD3, hl4, hd4, call, z4, f3⟩ := fin (some c) W3 s3
      have i4 := (fX c (k + 1)).keep W3 W4 hx o4
      exact ⟨W4, hr, ⟨c, i4.1, hl4, hd4, z4, fun h => hn3 (i4.2 _ h), fun h => hD3 (i4.2 _ h)⟩, stp call i4.2 f3⟩
    rintro e a3 W3 hp
    cases e with
    | normal =>
      obtain ⟨W4, hr, c4, o4, hn3, hD3, hl4, hd4, call, z4, f3⟩ := fin none W3 hp.1
      have i4 := (fI (k + 1)).keep W3 W4 hp.2 o4
      exact ⟨_, _, hr, .inl ⟨rfl, ⟨i4.1, hl4, hd4, z4, fun h => hn3 (i4.2 _ h), fun h => hD3 (i4.2 _ h)⟩, stp call i4.2 f3⟩⟩
    | ret =>
      obtain ⟨W4, hr, hx, hs⟩ := left .ret a3 W3 hp.1 hp.2
      exact ⟨_, _, hr, .inr ⟨rfl, hx, hs⟩⟩
    | exit id =>
      obtain ⟨W4, hr, hx, hs⟩ := left (.exit id) a3 W3 hp.1 hp.2
      exact ⟨_, _, hr, .inr ⟨rfl, hx, hs⟩⟩
    | goto t =>
      obtain ⟨W4, hr, hx, hs⟩ := left (.goto t) a3 W3 hp.1 hp.2
      exact ⟨_, _, hr, .inr ⟨rfl, hx, hs⟩⟩
    | panic ch => exact hp.elim
    | outgrown => exact hp.elim
  · rintro e W2 ⟨⟨v, rfl⟩, (⟨hi, hl, hd, hz, hnl, hnD⟩ | ⟨k, hk, c, hi, hl, hd, hz, hnl, hnD⟩)⟩
    · exact ⟨none, _, run_endLoop hl (by simp), hdone _ ((fI N).keep W2 _ hi (offput hnl)).1 (nl (put _ _) (fun h : D = l => hDl h) hd) (fun h => hnD (((fI N).keep W2 _ hi (offput hnl)).2 _ h)) (by rw [World.putObj_size]; exact hz)⟩
    · exact ⟨some c, _, run_endLoop hl (by simp), hstop c k _ hk ((fX c k).keep W2 _ hi (offput hnl)).1 (nl (put _ _) (fun h : D = l => hDl h) hd) (fun h => hnD (((fX c k).keep W2 _ hi (offput hnl)).2 _ h)) (by rw [World.putObj_size]; exact hz)⟩

end Go.Proofs.Ythpagbfabpfngaa
/- Plain lemmas of this prover's own on rows that a call owns, and the law of an append that says where the new row lies. No statement about the program. -/
namespace Go.Proofs.Ythpagbfabpfngaa
open Go.RowKit

theorem wpListIn_append_at {F : Fence} {n : Nat} {P : Program} (w : World) {ops : Array Oper} {rest : List Oper} {o : Oper} {a : Act} {Q : Exit → Act → World → Prop}
    (hg : o.guard = none) (s x : Operand) (t : TypeId) (hop : o.op = Op.call { callee := Callee.builtin Builtin.append, args := #[s, x], argTypes := #[t, t] })
    (base : Nat) (e : TypeId) (i : TypeInfo) (z : Value) (size bytes : Nat) (h1 : P.underlying t = some (.slice e)) (h2 : P.info? e = some i) (h3 : i.zero = some z) (h4 : i.size = size) (h5 : i.bytes = bytes) (h6 : z.cells.size = size) (h7 : 0 < size)
    (v : Value) (k : Nat) (xs : List Value) (hs : a.eval s = v) (hown : w.ownsRow base e size v k xs) (ad : Addr) (m c : Nat) (news : List Value) (hx : a.eval x = .slice (some ad) m c) (hn : news.length = m * size)
    (hc : ∀ j u, news[j]? = some u → w.cell? (ad.add j) = some u) (h1c : ∀ u ∈ news, u.oneCell' = true) (b1 : k + m ≤ maxLen) (b2 : (k + m) * bytes ≤ 140737488355328) (b3 : base ≤ w.heap.size)
    (hK : ∀ v' w', w'.ownsRow base e size v' (k + m) (xs ++ news) → w.grownBy w' v.ownBlock → (v'.ownBlock = v.ownBlock ∨ v'.ownBlock = some w.heap.size) → wpListIn F n P ops Q rest (a.put o.dst v') w') :
    wpListIn F n P ops Q (o :: rest) a w := by
  refine wpListIn_plain hg fun K hK' => ?_
  obtain ⟨v', w', hrun, r1, r2, _, r3⟩ := run_append_own_at (P := P) w base t o.type e i z size bytes h1 h2 h3 h4 h5 h6 h7 v k xs hown ad m c news hn hc h1c b1 b2 b3
  unfold Oper.wpIn
  refine ⟨?_, ?_⟩
  · simp [Oper.about, hop, resolve, Target.leads, Sem.run_pure]
  · rw [Oper.semAt_plain F _ _ (by rw [hop]; intro c hc'; cases hc')]
    simp [execOp, hop, resolve, invoke, builtin, hs, hx, hrun, Result.andThen]
    exact hK' _ _ (hK v' w' r1 r2 r3)

theorem own_same {A B : World} {base : Nat} {e : TypeId} {size : Nat} {v : Value} {n : Nat} {xs : List Value} (h : A.ownsRow base e size v n xs) (hs : ∀ g, v.ownBlock = some g → B.heap[g]? = A.heap[g]?) : B.ownsRow base e size v n xs := by
  obtain ⟨h1, h2⟩ := h
  refine ⟨h1, ?_⟩
  rcases h2 with h2 | ⟨g, cap, cur, rfl, hg, hh, r⟩
  · exact .inl h2
  · exact .inr ⟨g, cap, cur, rfl, hg, (hs g (by simp [Value.ownBlock])).trans hh, r⟩
theorem own_mono {A : World} {base base' : Nat} {e : TypeId} {size : Nat} {v : Value} {n : Nat} {xs : List Value} (h : A.ownsRow base e size v n xs) (hb : base' ≤ base) : A.ownsRow base' e size v n xs := by
  refine ⟨h.1, ?_⟩
  rcases h.2 with h | ⟨g, c, cur, q1, q2, q3⟩
  · exact .inl h
  · exact .inr ⟨g, c, cur, q1, by omega, q3⟩
theorem own_val {A : World} {base : Nat} {e : TypeId} {size : Nat} {v : Value} {n : Nat} {xs : List Value} (h : A.ownsRow base e size v n xs) : ∃ sp cap, v = .slice sp n cap := by
  rcases h.2 with ⟨h0, h1⟩ | ⟨g, cap, cur, hv, _⟩
  · exact ⟨none, 0, by rw [h0, h1]⟩
  · exact ⟨_, _, hv⟩
theorem own_ge {A : World} {base : Nat} {e : TypeId} {size : Nat} {v : Value} {n : Nat} {xs : List Value} (h : A.ownsRow base e size v n xs) (j : Nat) (hj : v.ownBlock = some j) : base ≤ j := (h.lt j hj).1
theorem own_below {A B : World} {base b n : Nat} {e : TypeId} {size : Nat} {v : Value} {xs : List Value} (h : A.ownsRow base e size v n xs) (hb : Below b A B) (hs : A.heap.size ≤ b) : B.ownsRow base e size v n xs :=
  own_same h fun g hg => hb.block g (by have := (h.lt g hg).2; omega)
theorem own_ch {T : Nat → Prop} {A B : World} {base n : Nat} {e : TypeId} {size : Nat} {v : Value} {xs : List Value} (h : A.ownsRow base e size v n xs) (hb : Ch T A B) (hn : ∀ g, v.ownBlock = some g → ¬ T g) : B.ownsRow base e size v n xs :=
  own_same h fun g hg => hb.block g (h.lt g hg).2 (hn g hg)
theorem two_new (w : World) (a b : Value) (t : TypeId) : ∀ (j : Nat) (u : Value), [a, b][j]? = some u → (w.alloc (.cells #[a, b] t)).cell? ((⟨w.heap.size, 0, none⟩ : Addr).add j) = some u := fun j u h => by
  rw [Addr.add_lit]
  rcases j with _ | _ | j
  · simp at h; subst h; simp [go_sem]
  · simp at h; subst h; simp [go_sem]
  · simp at h
theorem ch_grown {A B : World} {row : Option Nat} (h : A.grownBy B row) : Ch (fun j => row = some j) A B :=
  ⟨h.os, h.tape, h.output, h.size, fun k hk hn => h.block k hk (fun e => hn e.symm)⟩

theorem Ch.then_below {T : Nat → Prop} {A B C : World} (h : Ch T A B) (hb : Below A.heap.size B C) : Ch T A C :=
  ⟨hb.os.trans h.os, hb.tape.trans h.tape, hb.output.trans h.output, Nat.le_trans h.size hb.size, fun k hk hn => (hb.block k hk).trans (h.block k hk hn)⟩

def nth (l : List Int) (k : Nat) : Int := l.getD k 0
theorem take_succ_nth (l : List Int) (k : Nat) (h : k < l.length) : l.take (k + 1) = l.take k ++ [nth l k] := by
  rw [List.take_succ_eq_append_getElem h]; simp [nth, h]
theorem nth_at (l : List Int) (k : Nat) (h : k < l.length) : l[k]? = some (nth l k) := by simp [nth, h]
def rowI (l : List Int) : List Value := l.map (Value.int .i64)
theorem rowI_snoc (l : List Int) (x : Int) : rowI (l ++ [x]) = rowI l ++ [.int .i64 x] := by simp [rowI]
theorem rowI_len (l : List Int) : (rowI l).length = l.length := by simp [rowI]

/-- An owned row of ints, as a slice whose cells are known. -/
theorem own_ints {w : World} {base : Nat} {v : Value} {n : Nat} {l : List Int} (h : w.ownsRow base 3 1 v n (rowI l)) (hn : n = l.length) :
    ∃ sp g cap, v = .slice sp n cap ∧ (0 < n → sp = some ⟨g, 0, none⟩ ∧ base ≤ g ∧ g < w.heap.size) ∧ ∀ k, k < n → w.cell? ⟨g, k, none⟩ = some (.int .i64 (nth l k)) := by
  rcases h.2 with ⟨rfl, h0⟩ | ⟨g, cap, cur, rfl, _⟩
  · exact ⟨none, 0, 0, by rw [h0], fun h => by omega, fun k hk => by omega⟩
  · have hl := h.lt g rfl
    refine ⟨some ⟨g, 0, none⟩, g, cap, rfl, fun _ => ⟨rfl, hl.1, hl.2⟩, fun k hk => (h.cellAt k (by omega)).trans ?_⟩
    unfold rowI nth
    rw [List.getElem?_map, List.getElem?_eq_getElem (by omega)]; simp [show k < l.length by omega]
end Go.Proofs.Ythpagbfabpfngaa
/- Plain lemmas of this prover's own: a block with its cells, rows that a call owns, worlds behind draws. No statement about the program. -/
namespace Go.Proofs.Ythpagbfabpfngaa
open Go.RowKit

/-- A block of its own, with its cells. -/
structure BoxAt (w : World) (B : Nat) (l : List Value) : Prop where
  lt : B < w.heap.size
  cell : ∀ j u, l[j]? = some u → w.cell? ⟨B, j, none⟩ = some u
  fr : ∀ j, w.frozen? ⟨B, j, none⟩ = false
theorem BoxAt.mk_new (w : World) (c : Array Value) (t : TypeId) : BoxAt (w.alloc (.cells c t)) w.heap.size c.toList :=
  ⟨by rw [World.size_alloc]; omega, fun j u hu => by rw [World.cell?_alloc_new]; simpa using hu, fun j => World.frozen?_alloc_new ..⟩
theorem BoxAt.keep {T : Nat → Prop} {w w' : World} {B : Nat} {l : List Value} (h : BoxAt w B l) (c : Ch T w w') (hT : ¬ T B) : BoxAt w' B l :=
  ⟨Nat.lt_of_lt_of_le h.lt c.size, fun j u hu => c.cell (h.cell j u hu) hT, fun j => (c.frozen (p := ⟨B, j, none⟩) h.lt hT).trans (h.fr j)⟩
theorem BoxAt.new {w w' : World} {B : Nat} {l : List Value} (h : BoxAt w B l) (c : Below w.heap.size w w') : BoxAt w' B l := h.keep (T := fun _ => False) (Ch.new c) (fun h => h)
theorem BoxAt.alloc {w : World} {B : Nat} {l : List Value} (h : BoxAt w B l) (o : Obj) : BoxAt (w.alloc o) B l := h.new ((Below.refl _ _).alloc (Nat.le_refl _) _)
theorem BoxAt.set {w : World} {B : Nat} {l : List Value} (h : BoxAt w B l) (j : Nat) (v : Value) (hj : j < l.length) : BoxAt (w.setCell ⟨B, j, none⟩ v) B (l.set j v) := by
  refine ⟨by rw [World.size_setCell]; exact h.lt, fun i u hu => ?_, fun i => by rw [World.frozen?_setCell]; exact h.fr i⟩
  by_cases e : i = j
  · subst e
    rw [List.getElem?_set_self hj] at hu
    rw [← hu]
    exact World.cell?_setCell_same _ _ _ (h.cell i _ (List.getElem?_eq_getElem hj))
  · rw [List.getElem?_set_ne (fun e' => e e'.symm)] at hu
    rw [World.cell?_setCell_other _ _ _ _ (fun e' => e (by injection e' with _ e'; exact e'.symm))]
    exact h.cell i u hu
theorem BoxAt.other {w : World} {B : Nat} {l : List Value} (h : BoxAt w B l) (a : Addr) (v : Value) (ha : a.block ≠ B) : BoxAt (w.setCell a v) B l :=
  h.keep (T := fun j => j = a.block) ((Ch.refl _ _).setCell _ _ (.inl rfl)) (fun e => ha e.symm)

theorem own_ne {A : World} {b1 b2 : Nat} {e1 e2 : TypeId} {s1 s2 g1 n1 k1 g2 n2 k2 m1 m2 : Nat} {x1 x2 : List Value} (h1 : A.ownsRow b1 e1 s1 (.slice (some ⟨g1, 0, none⟩) n1 k1) m1 x1) (h2 : A.ownsRow b2 e2 s2 (.slice (some ⟨g2, 0, none⟩) n2 k2) m2 x2) (he : e1 ≠ e2) : g1 ≠ g2 := by
  rintro rfl
  rcases h1.2 with ⟨h, _⟩ | ⟨g, c, cur, hv, _, ho, _⟩
  · cases h
  rcases h2.2 with ⟨h, _⟩ | ⟨g', c', cur', hv', _, ho', _⟩
  · cases h
  cases hv; cases hv'
  rw [ho] at ho'
  cases ho'
  exact he rfl
theorem own_some {A : World} {base : Nat} {e : TypeId} {size : Nat} {v : Value} {n : Nat} {xs : List Value} (h : A.ownsRow base e size v n xs) (hn : 0 < n) : ∃ b cap, v = .slice (some ⟨b, 0, none⟩) n cap ∧ base ≤ b ∧ b < A.heap.size := by
  rcases h.2 with ⟨h0, h1⟩ | ⟨g, cap, cur, hv, _⟩
  · omega
  · have := h.lt g (by rw [hv]; rfl)
    exact ⟨g, cap, hv, this.1, this.2⟩
theorem size_add (w : World) (c : Array Value) (t : TypeId) : (w.alloc (.cells c t)).heap.size = w.heap.size + 1 := World.size_alloc ..
theorem below_dn {b : Nat} {a w : World} (h : Below b a w) (n : Nat) : Below b a (w.drewN n) := h.trans ⟨rfl, rfl, rfl, Nat.le_refl _, fun _ _ => rfl⟩
theorem wrap_nat (x : Int) (n : Nat) (h : x = (n : Int)) (hn : n < 1000000) : IntKind.i64.wrap x = (n : Int) := by rw [IntKind.wrap_i64]; omega
/-- A callee's contract that turns nothing, met in a quiet walk. -/
theorem quietly {P : Program} {f : FuncId} {args : Array Value} {w : World} {n : Nat} {v : Value} (h : Calls P f args (w.drewN n) fun e w' => e = .returned v ∧ w.drewN n = w') :
    Calls P f args (w.drewN n) fun e w'' => e = .returned v ∧ ∃ m, w'' = w.drewN m := h.mono fun _ _ ⟨he, hm⟩ => ⟨he, n, hm.symm⟩
end Go.Proofs.Ythpagbfabpfngaa
/- The contracts of crc's Byte and Word where the sum lies in the midst of a block. -/
namespace Go.Proofs.Ythpagbfabpfngaa
open Go.RowKit

/-- A row with another sum in it. -/
def putSum (l : List Value) (o : Nat) (r : BitVec 32) (m : Int) : List Value := (l.set o (.int .u32 (w32 (~~~r)))).set (o + 1) (.int .i64 m)
theorem ch_setK (w : World) (B k : Nat) (v : Value) : Ch (fun j => j = B) w (w.setCell ⟨B, k, none⟩ v) := (Ch.refl _ _).setCell _ _ (.inl rfl)
theorem putSum_len (l : List Value) (o : Nat) (r : BitVec 32) (m : Int) : (putSum l o r m).length = l.length := by simp [putSum]
theorem putSum_twice (l : List Value) (o : Nat) (r s : BitVec 32) (m n : Int) : putSum (putSum l o r m) o s n = putSum l o s n := by
  unfold putSum
  apply List.ext_getElem?
  intro i
  simp only [List.getElem?_set, List.length_set]
  by_cases e1 : o + 1 = i <;> by_cases e2 : o = i <;> simp [e1, e2]
theorem putSum_0 (l : List Value) (o : Nat) (r : BitVec 32) (m : Int) (ho : o + 1 < l.length) : (putSum l o r m)[o]? = some (.int .u32 (w32 (~~~r))) := by
  unfold putSum
  rw [List.getElem?_set_ne (by omega), List.getElem?_set_self (by omega)]
theorem putSum_1 (l : List Value) (o : Nat) (r : BitVec 32) (m : Int) (ho : o + 1 < l.length) : (putSum l o r m)[o + 1]? = some (.int .i64 m) := by
  unfold putSum
  rw [List.getElem?_set_self (by rw [List.length_set]; omega)]
set_option maxHeartbeats 1000000 in
theorem byteO_any {w : World} {B o : Nat} {l : List Value} {r : BitVec 32} (b : BitVec 8) {m : Int} (hm : 0 ≤ m ∧ m < 9223372036854775807) (ho : o + 1 < l.length) (h : BoxAt w B (putSum l o r m)) :
    Calls Try.prog 108 #[.pointer (some ⟨B, o, none⟩), .int .u8 (w8 b)] w fun e w' => e = .returned (.tuple #[]) ∧ BoxAt w' B (putSum l o (byt r b) (m + 1)) ∧ Ch (fun j => j = B) w w' := by
  have h0 := h.cell o _ (putSum_0 l o r m ho)
  have h1 := h.cell (o + 1) _ (putSum_1 l o r m ho)
  have f0 := h.fr o
  have f1 := h.fr (o + 1)
  have hn : bits .xor .u32 IntKind.u32.max (w32 (~~~r)) = w32 r := by rw [not32]; simp
  have H0 := Lib.hid h
  have HO := Lib.hid ho
  clear h ho
  go_enter Try.func108, Try.ntmps108
  go_wp2
  go_loopg [4, 12] 8 (fun g v i wr => ∃ (k : Nat), k + g = 8 ∧ i = .int .i64 k ∧ v = .int .u32 (w32 (byts r b k)) ∧ Aside (w = wr))
  case atStart => exact ⟨0, by omega, rfl, rfl, rfl⟩
  case round =>
    obtain ⟨k, hkg, rfl, rfl, hw⟩ := hrel
    obtain rfl := hw.out
    clear hw
    cases gk with
    | zero =>
      obtain rfl : k = 8 := by omega
      have hz := not32 (byts r b 8)
      go_wp2
      go_end0
      refine ⟨rfl, ?_, ((ch_setK w B o _).trans (ch_setK _ B (o + 1) _))⟩
      have hA := (H0.out.set o (.int .u32 (w32 (~~~(byts r b 8)))) (by rw [putSum_len]; have := HO.out; omega)).set (o + 1) (.int .i64 (m + 1)) (by rw [List.length_set, putSum_len]; exact HO.out)
      have e : ((putSum l o r m).set o (.int .u32 (w32 (~~~(byts r b 8))))).set (o + 1) (.int .i64 (m + 1)) = putSum l o (byt r b) (m + 1) := putSum_twice l o r (byts r b 8) m (m + 1)
      rw [e] at hA
      exact hA
    | succ g1 =>
      have ht := bit_test (byts r b k) b k
      have hx := xor32 (byts r b k >>> 1) poly
      rw [← poly_int] at hx
      rw [← half32] at hx
      cases hu : ((byts r b k).getLsbD 0 != b.getLsbD k)
      · rw [hu] at ht
        have HU : Aside (((byts r b k).getLsbD 0 != b.getLsbD k) = false) := hu
        clear hu
        go_wp2
        go_roundg g1
        case measure => omega
        case rel => exact ⟨k + 1, by omega, by go_num, by show _ = Value.int IntKind.u32 (w32 (stp _ _)); unfold stp; rw [HU.out, half32]; simp, rfl⟩
      · rw [hu] at ht
        have HU : Aside (((byts r b k).getLsbD 0 != b.getLsbD k) = true) := hu
        clear hu
        go_wp2
        go_roundg g1
        case measure => omega
        case rel => exact ⟨k + 1, by omega, by go_num, by show _ = Value.int IntKind.u32 (w32 (stp _ _)); unfold stp; rw [HU.out]; simp, rfl⟩
theorem wordO_any {w : World} {B o : Nat} {l : List Value} {r : BitVec 32} (x : BitVec 32) {m : Int} (hm : 0 ≤ m ∧ m < 9223372036854775803) (ho : o + 1 < l.length) (h : BoxAt w B (putSum l o r m)) :
    Calls Try.prog 79 #[.pointer (some ⟨B, o, none⟩), .int .u32 (w32 x)] w fun e w' => e = .returned (.tuple #[]) ∧ BoxAt w' B (putSum l o (wrd r x) (m + 4)) ∧ Ch (fun j => j = B) w w' := by
  have H0 := Lib.hid h
  have HO := Lib.hid ho
  clear h ho
  go_enter Try.func79, Try.ntmps79
  go_wp2
  go_loopg [5] 4 (fun g i wr => ∃ (k : Nat), k + g = 4 ∧ i = .int .i64 k ∧ Aside (BoxAt wr B (putSum l o (wrds r x k) (m + k)) ∧ Ch (fun j => j = B) w wr))
  case atStart => exact ⟨0, by omega, rfl, ⟨by simpa [wrds] using H0.out, Ch.refl _ _⟩⟩
  case round =>
    obtain ⟨k, hkg, rfl, HW⟩ := hrel
    cases gk with
    | zero =>
      obtain rfl : k = 4 := by omega
      go_wp2
      go_end0
      exact ⟨rfl, HW.out⟩
    | succ g1 =>
      have hp := part_int x k
      go_wp2_with (go_at_call 108; refine (byteO_any (part x k) (by omega) HO.out HW.out.1).mono ?_; rintro e w' ⟨rfl, hs, hb⟩)
      go_roundg g1
      case measure => omega
      case rel =>
        refine ⟨k + 1, by omega, by go_num, ?_, HW.out.2.trans hb⟩
        rw [show m + ((k + 1 : Nat) : Int) = m + k + 1 by omega]
        exact hs
end Go.Proofs.Ythpagbfabpfngaa
