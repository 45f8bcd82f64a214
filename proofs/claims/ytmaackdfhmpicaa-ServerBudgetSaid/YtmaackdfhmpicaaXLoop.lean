/- Plain laws of this prover's own on a range over a function: what a loop owes and gets when its iterator keeps blocks of its own, stated by numbers of rounds. No statement about the program. -/
import Derived.Test.YtmaackdfhmpicaaOwn
import Derived.RangeFuncNested
import Derived.RangeFuncBound
import Derived.RangeFuncCalls
import Derived.RangeFuncLeaves
import Derived.Below
import Derived.Deep.Draws
import Derived.WalkKit
namespace Go.Proofs.Ytmaackdfhmpicaa
open Go.RowKit

/-- How a round's body may be left; Tb: the blocks that it may turn. -/
def roundEnd (Tb : Nat → Prop) (I : Nat → World → Prop) (Ix : Code → Nat → World → Prop) (k : Nat) (W : World) : Exit → Act → World → Prop
  | .normal, _, W' => Ch Tb W W' ∧ I k W'
  | .ret, _, W' => Ch Tb W W' ∧ Ix .ret k W'
  | .exit id, _, W' => Ch Tb W W' ∧ Ix (.exit id) k W'
  | .goto t, _, W' => Ch Tb W W' ∧ Ix (.goto t) k W'
  | .panic _, _, _ => False
  | .outgrown, _, _ => False

/-- What an iterator may count on, and what it gives: N rounds at most, the k-th with args k. own: its own blocks; T: what a round may turn. -/
def IterX (P : Program) (gf : Nat) (lb : Array Value) (l : Nat) (N : Nat) (_args : Nat → Array Value) (_T : Nat → Prop) (J Jx : Nat → World → Prop) (W : World) : Prop :=
  CallsIn Fence.wide 0 P gf (#[.func (.yield l) #[] #[]] ++ lb) W fun e W' => (∃ v, e = .returned v) ∧ (J N W' ∨ ∃ k, k ≤ N ∧ Jx k W')

/-- A round of the loop whose record is l. -/
def Rounds (P : Program) (l N : Nat) (args : Nat → Array Value) (T : Nat → Prop) (J Jx : Nat → World → Prop) : Prop :=
  ∀ k W, J k W → k < N → YieldAt Fence.wide 0 P l (args k) W fun e W' =>
    (e = .returned (.bool true) ∧ J (k + 1) W' ∧ Ch T W W') ∨ (e = .returned (.bool false) ∧ Jx (k + 1) W')

variable {P : Program}

/-- THE LOOP: an invariant I of the rounds, stable under the iterator's own blocks and the loop's two; Ix: where a round has left by a jump. -/
theorem wpIn_range {g : Operand} {ps : Array Tmp} {assign body : Code} {Q : Exit → Act → World → Prop} {a : Act} {w : World}
    {gf : Nat} {lb : Array Value} (hg : a.eval g = .func (.func gf) #[] lb) (eg : ∀ args w, (callFunc gf args).run P w = .ok (.enter gf args) w)
    (N : Nat) (args : Nat → Array Value) (hps : ∀ k, (args k).size = ps.size) (Tb own : Nat → Prop)
    (hTb : ∀ k, Tb k → k ≠ w.heap.size ∧ k ≠ w.heap.size + 1) (hown : ∀ k, own k → w.heap.size + 2 ≤ k)
    (I : Nat → World → Prop) (Ix : Code → Nat → World → Prop)
    (hI : ∀ k W W', I k W → Ch (fun j => own j ∨ j = w.heap.size ∨ j = w.heap.size + 1) W W' → I k W')
    (hIx : ∀ c k W W', Ix c k W → Ch (fun j => own j ∨ j = w.heap.size ∨ j = w.heap.size + 1) W W' → Ix c k W')
    (h0 : I 0 w) (Ax : Nat → Act → World → Prop)
    (hAx : ∀ k a' W W', Ax k a' W → Ch (fun j => j = w.heap.size + 1) W W' → Ax k a' W')
    (hit : ∀ J Jx W1, w.heap.size + 2 = W1.heap.size → Below w.heap.size w W1 →
      (∀ k W, J k W → I k W) → (∀ k W, Jx k W → ∃ c, Ix c k W) →
      (∀ k W W', J k W → Ch own W W' → J k W') → (∀ k W W', Jx k W → Ch own W W' → Jx k W') →
      Rounds P (w.heap.size + 1) N args (fun j => Tb j ∨ j = w.heap.size + 1) J Jx → J 0 W1 →
      IterX P gf lb (w.heap.size + 1) N args (fun j => Tb j ∨ j = w.heap.size + 1) J Jx W1)
    (hassign : ∀ k W (K : Act → World → Prop), I k W → k < N → (∀ a' W', Ax k a' W' → Ch (fun _ => False) W W' → I k W' → K a' W') →
      assign.wpIn (Fence.wide.inRound (w.heap.size + 1)) 0 P (Exit.then K (fun _ _ _ => False)) { tmps := (ps.zip (args k)).foldl (fun t (p, v) => t.setIfInBounds p v) a.tmps, defers := [] } W)
    (hbody : ∀ k a' W, I k W → k < N → Ax k a' W → w.heap.size + 2 ≤ W.heap.size → body.wpIn (Fence.wide.inRound (w.heap.size + 1)) 0 P (roundEnd Tb I Ix (k + 1) W) a' W)
    (hdone : ∀ W, I N W → W.heap[w.heap.size]? = some (.deferred (some [])) → Q .normal { a with defers := { target := .collected w.heap.size, args := #[] } :: a.defers } W)
    (hstop : ∀ c k W, k ≤ N → Ix c k W → W.heap[w.heap.size]? = some (.deferred (some [])) → c.wpIn Fence.wide 0 P Q { a with defers := { target := .collected w.heap.size, args := #[] } :: a.defers } W) :
    (Code.rangeFunc g ps assign body).wpIn Fence.wide 0 P Q a w := by
  refine wpIn_rangeFunc fun fn hfn => ?_
  let mk : LoopState → Option Code → Obj := fun st pe => .loop { state := st, pending := pe, fn, tmps := a.tmps, params := ps, assign, body, defers := w.heap.size }
  let D := w.heap.size
  let l := w.heap.size + 1
  let W1 := (w.alloc (.deferred (some []))).alloc (mk .ready none)
  have z1 : W1.heap.size = w.heap.size + 2 := by simp [W1]
  have l1 : W1.heap[l]? = some (mk .ready none) := by
    have := World.alloc_heap_new (w.alloc (.deferred (some []))) (mk .ready none); rwa [World.size_alloc] at this
  have d1 : W1.heap[D]? = some (.deferred (some [])) := by
    rw [Below.heap_alloc _ _ _ (by simp [D])]; exact World.alloc_heap_new w _
  have c1 : Ch (fun j => own j ∨ j = D ∨ j = l) w W1 := ((Ch.refl _ w).alloc _).alloc _
  have st : ∀ {k W W'} {B : Nat → Prop}, I k W → Ch B W W' → (∀ j, B j → own j ∨ j = D ∨ j = l) → I k W' := fun h c hb => hI _ _ _ h (c.mono fun j _ => hb j)
  have stx : ∀ {c k W W'} {B : Nat → Prop}, Ix c k W → Ch B W W' → (∀ j, B j → own j ∨ j = D ∨ j = l) → Ix c k W' := fun h c hb => hIx _ _ _ _ h (c.mono fun j _ => hb j)
  have nl : ∀ {T : Nat → Prop} {W W' : World} {o : Obj} {j : Nat}, Ch T W W' → ¬ T j → W.heap[j]? = some o → W'.heap[j]? = some o := fun c ht h => c.obj h ht
  have ownD : ¬ own D := fun h => by have := hown _ h; simp only [D] at this; omega
  have ownl : ¬ own l := fun h => by have := hown _ h; simp only [l] at this; omega
  have TbD : ¬ Tb D := fun h => (hTb _ h).1 rfl
  have Tbl : ¬ Tb l := fun h => (hTb _ h).2 rfl
  refine ⟨l, [{ target := .collected D, args := #[] }], W1, { target := .fn (.func gf) lb, args := #[.func (.yield l) #[] #[]] }, W1, gf, #[.func (.yield l) #[] #[]] ++ lb, W1,
    run_enterLoop_outer _ _ _ _ _, ?_, fun _ _ => trivial, ?_, fun h => absurd h (by simp [Fence.wide]), ?_⟩
  · simp only [resolve, hg]; simp [go_sem]
  · simp [invoke, go_sem, eg]
  refine (hit (fun k W => I k W ∧ W.heap[l]? = some (mk .ready none) ∧ W.heap[D]? = some (.deferred (some [])) ∧ w.heap.size + 2 ≤ W.heap.size)
    (fun k W => ∃ c, Ix c k W ∧ W.heap[l]? = some (mk .done (some c)) ∧ W.heap[D]? = some (.deferred (some []))) W1 z1.symm
    (((Below.refl _ w).alloc (Nat.le_refl _) _).alloc (by simp) _) (fun _ _ h => h.1) (fun _ _ h => ⟨h.choose, h.choose_spec.1⟩)
    (fun k W W' h c => ⟨st h.1 c (fun j hj => .inl hj), nl c ownl h.2.1, nl c ownD h.2.2.1, Nat.le_trans h.2.2.2 c.size⟩)
    (fun k W W' h c => ⟨h.choose, stx h.choose_spec.1 c (fun j hj => .inl hj), nl c ownl h.choose_spec.2.1, nl c ownD h.choose_spec.2.2⟩)
    ?_ ⟨st h0 c1 (fun j hj => hj), l1, d1, by omega⟩).mono ?_
  · rintro k W ⟨hi, hl, hd, hz⟩ hk
    refine ⟨fn, _, assign, body, run_yield hl (hps k), roundIn_of_wpIn hfn (hassign k W _ hi hk fun a' W2 ha c2 hi2 => ?_)⟩
    have hl2 := nl c2 (fun h => h) hl
    refine ⟨_, run_beginRound hl2 rfl, ?_⟩
    have cb : Ch (fun j => j = l) W2 (W2.putObj l (mk .busy none)) := (Ch.refl _ W2).putObj _ _ rfl
    have hlb : (W2.putObj l (mk .busy none)).heap[l]? = some (mk .busy none) := World.putObj_heap_same (Array.getElem?_eq_some_iff.1 hl2).1
    have hdb := nl cb (fun h : D = l => by simp [D, l] at h) (nl c2 (fun h => h) hd)
    refine wpIn_mono (hbody k a' _ (st hi2 cb fun j hj => .inr (.inr hj)) hk (hAx _ _ _ _ ha cb) (Nat.le_trans (Nat.le_trans hz c2.size) cb.size)) ?_
    have fin : ∀ (jump : Option Code) (W3 : World), Ch Tb (W2.putObj l (mk .busy none)) W3 →
        ∃ W4, (Instr.endRound l jump).run P W3 = .ok (.bool jump.isNone) W4 ∧ Ch (fun j => j = l) W3 W4 ∧
          W4.heap[l]? = some (mk (if jump.isNone then .ready else .done) jump) ∧ W4.heap[D]? = some (.deferred (some [])) ∧ Ch (fun j => Tb j ∨ j = l) W W4 := fun jump W3 c3 => by
      have hl3 := nl c3 Tbl hlb
      have c4 : Ch (fun j => j = l) W3 (W3.putObj l (mk (if jump.isNone then .ready else .done) jump)) := (Ch.refl _ W3).putObj _ _ rfl
      exact ⟨_, run_endRound jump hl3, c4, World.putObj_heap_same (Array.getElem?_eq_some_iff.1 hl3).1, nl c4 (fun h : D = l => by simp [D, l] at h) (nl c3 TbD hdb),
        (((c2.mono fun _ _ h => h.elim).trans (cb.mono fun j _ hj => .inr hj)).trans (c3.mono fun j _ hj => .inl hj)).trans (c4.mono fun j _ hj => .inr hj)⟩
    rintro e a3 W3 hp
    cases e with
    | normal =>
      obtain ⟨W4, hr, c4, hl4, hd4, call⟩ := fin none W3 hp.1
      exact ⟨_, _, hr, .inl ⟨rfl, ⟨st hp.2 c4 fun j hj => .inr (.inr hj), hl4, hd4, Nat.le_trans hz call.size⟩, call⟩⟩
    | ret =>
      obtain ⟨W4, hr, c4, hl4, hd4, call⟩ := fin (some .ret) W3 hp.1
      exact ⟨_, _, hr, .inr ⟨rfl, _, stx hp.2 c4 fun j hj => .inr (.inr hj), hl4, hd4⟩⟩
    | exit id =>
      obtain ⟨W4, hr, c4, hl4, hd4, call⟩ := fin (some (.exit id)) W3 hp.1
      exact ⟨_, _, hr, .inr ⟨rfl, _, stx hp.2 c4 fun j hj => .inr (.inr hj), hl4, hd4⟩⟩
    | goto t =>
      obtain ⟨W4, hr, c4, hl4, hd4, call⟩ := fin (some (.goto t)) W3 hp.1
      exact ⟨_, _, hr, .inr ⟨rfl, _, stx hp.2 c4 fun j hj => .inr (.inr hj), hl4, hd4⟩⟩
    | panic ch => exact hp.elim
    | outgrown => exact hp.elim
  · rintro e W2 ⟨⟨v, rfl⟩, (⟨hi, hl, hd, -⟩ | ⟨k, hk, c, hi, hl, hd⟩)⟩
    · have c4 : ∀ o, Ch (fun j => j = l) W2 (W2.putObj l o) := fun o => (Ch.refl _ W2).putObj _ _ rfl
      exact ⟨none, _, run_endLoop hl (by simp), hdone _ (st hi (c4 _) fun j hj => .inr (.inr hj)) (nl (c4 _) (fun h : D = l => by simp [D, l] at h) hd)⟩
    · have c4 : ∀ o, Ch (fun j => j = l) W2 (W2.putObj l o) := fun o => (Ch.refl _ W2).putObj _ _ rfl
      exact ⟨some c, _, run_endLoop hl (by simp), hstop c k _ hk (stx hi (c4 _) fun j hj => .inr (.inr hj)) (nl (c4 _) (fun h : D = l => by simp [D, l] at h) hd)⟩

end Go.Proofs.Ytmaackdfhmpicaa
