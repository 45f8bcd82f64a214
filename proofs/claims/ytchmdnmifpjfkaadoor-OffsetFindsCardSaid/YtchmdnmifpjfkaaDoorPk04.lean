/- Several texts in one: Foot3, DT, Si, YD. -/
import Derived.Test.YtchmdnmifpjfkaaDoorPk03
import Derived.Test.YtchmdnmifpjfkaaDoorPk02
import Derived.OrdersIn
import Derived.StillTail
import Derived.StillTactics
import Derived.StillTailTactics
import Derived.RangeFuncCalls
import Derived.Deep.RegionHeld3
import Derived.BigQuiet
import Derived.Deep.QuietTactic
import Derived.WalkKit
/- Laws of this prover's own on a range over a function within a round of another one. No statement about the program. -/
namespace Go.Proofs.YtchmdnmifpjfkaaDoor
open Go.RowKit
variable {P : Program}

/-- THE LOOP, whose body is told of the loop's own record (a loop within it wants it). -/
theorem wpIn_rangeF3 {g : Operand} {ps : Array Tmp} {assign body : Code} {Q : Exit → Act → World → Prop} {a : Act} {w : World}
    {gf : Nat} {lb : Array Value} (hg : a.eval g = .func (.func gf) #[] lb) (eg : ∀ args w, (callFunc gf args).run P w = .ok (.enter gf args) w)
    (N : Nat) (args : Nat → Array Value) (hps : ∀ k, (args k).size = ps.size) (F : World → Nat → Prop)
    (I : Nat → World → Prop) (Ix : Code → Nat → World → Prop) (fI : ∀ k, Foot F (I k)) (fX : ∀ c k, Foot F (Ix c k))
    (h0 : I 0 w) (Ax : Nat → Act → World → Prop)
    (hAx : ∀ k a' W W', Ax k a' W → Ch (fun j => j = w.heap.size + 1) W W' → Ax k a' W')
    (hit : ∀ J Jx W1, w.heap.size + 2 = W1.heap.size → Below w.heap.size w W1 →
      (∀ k W, J k W → I k W ∧ w.heap.size + 2 ≤ W.heap.size) → (∀ k W, Jx k W → (∃ c, Ix c k W) ∧ w.heap.size + 2 ≤ W.heap.size) →
      (∀ k, Foot (fun W j => F W j ∨ j = w.heap.size ∨ j = w.heap.size + 1) (J k)) → (∀ k, Foot (fun W j => F W j ∨ j = w.heap.size ∨ j = w.heap.size + 1) (Jx k)) →
      RoundsF P (w.heap.size + 1) N args (fun W j => F W j ∨ j = w.heap.size ∨ j = w.heap.size + 1) J Jx → J 0 W1 →
      Iter P gf lb (w.heap.size + 1) N J Jx W1)
    (hassign : ∀ k W (K : Act → World → Prop), I k W → k < N → w.heap.size + 2 ≤ W.heap.size → (∀ a' W', Ax k a' W' → Ch (fun _ => False) W W' → I k W' → (∀ j, F W' j → F W j) → K a' W') →
      assign.wpIn (Fence.wide.inRound (w.heap.size + 1)) 0 P (Exit.then K (fun _ _ _ => False)) { tmps := (ps.zip (args k)).foldl (fun t (p, v) => t.setIfInBounds p v) a.tmps, defers := [] } W)
    (hbody : ∀ k a' W, I k W → k < N → Ax k a' W → w.heap.size + 2 ≤ W.heap.size → (∃ r, W.heap[w.heap.size + 1]? = some (.loop r)) → ¬ F W (w.heap.size + 1) → body.wpIn (Fence.wide.inRound (w.heap.size + 1)) 0 P (roundEndF F I Ix (k + 1) W) a' W)
    (hdone : ∀ W, I N W → W.heap[w.heap.size]? = some (.deferred (some [])) → ¬ F W w.heap.size → w.heap.size + 2 ≤ W.heap.size → Q .normal { a with defers := { target := .collected w.heap.size, args := #[] } :: a.defers } W)
    (hstop : ∀ c k W, k ≤ N → Ix c k W → W.heap[w.heap.size]? = some (.deferred (some [])) → ¬ F W w.heap.size → w.heap.size + 2 ≤ W.heap.size → c.wpIn Fence.wide 0 P Q { a with defers := { target := .collected w.heap.size, args := #[] } :: a.defers } W) :
    (Code.rangeFunc g ps assign body).wpIn Fence.wide 0 P Q a w := by
  refine wpIn_rangeFunc fun fn hfn => ?_
  let mk : LoopState → Option Code → Obj := fun st pe => .loop { state := st, pending := pe, fn, tmps := a.tmps, params := ps, assign, body, defers := w.heap.size }
  let D := w.heap.size
  let l := w.heap.size + 1
  let FJ : World → Nat → Prop := fun W j => F W j ∨ j = D ∨ j = l
  let W1 := (w.alloc (.deferred (some []))).alloc (mk .ready none)
  have z1 : W1.heap.size = w.heap.size + 2 := by simp [W1]
  have l1 : W1.heap[l]? = some (mk .ready none) := by
    have := World.alloc_heap_new (w.alloc (.deferred (some []))) (mk .ready none); rwa [World.size_alloc] at this
  have d1 : W1.heap[D]? = some (.deferred (some [])) := by
    rw [Below.heap_alloc _ _ _ (by simp [D])]; exact World.alloc_heap_new w _
  have c1 : Ch (fun _ => False) w W1 := ((Ch.refl _ w).alloc _).alloc _
  have nl : ∀ {T : Nat → Prop} {W W' : World} {o : Obj} {j : Nat}, Ch T W W' → ¬ T j → W.heap[j]? = some o → W'.heap[j]? = some o := fun c ht h => c.obj h ht
  have i1 := (fI 0).keep w W1 h0 (Off.nothing c1)
  have n1 : ¬ F W1 l ∧ ¬ F W1 D := ⟨fun h => by have := (fI 0).lt w h0 _ (i1.2 _ h); simp [l] at this; omega, fun h => by have := (fI 0).lt w h0 _ (i1.2 _ h); simp [D] at this⟩
  have hDl : ¬ D = l := by simp [D, l]
  refine ⟨l, [{ target := .collected D, args := #[] }], W1, { target := .fn (.func gf) lb, args := #[.func (.yield l) #[] #[]] }, W1, gf, #[.func (.yield l) #[] #[]] ++ lb, W1,
    run_enterLoop_outer _ _ _ _ _, ?_, fun _ _ => trivial, ?_, fun h => absurd h (by simp [Fence.wide]), ?_⟩
  · simp only [resolve, hg]; simp [go_sem]
  · simp [invoke, go_sem, eg]
  let J : Nat → World → Prop := fun k W => I k W ∧ W.heap[l]? = some (mk .ready none) ∧ W.heap[D]? = some (.deferred (some [])) ∧ w.heap.size + 2 ≤ W.heap.size ∧ ¬ F W l ∧ ¬ F W D
  let Jx : Nat → World → Prop := fun k W => ∃ c, Ix c k W ∧ W.heap[l]? = some (mk .done (some c)) ∧ W.heap[D]? = some (.deferred (some [])) ∧ w.heap.size + 2 ≤ W.heap.size ∧ ¬ F W l ∧ ¬ F W D
  have offJ : ∀ {W W' : World}, Off FJ W W' → Off F W W' := fun h => Ch.mono h fun j _ hn hf => hn (.inl hf)
  have fJ : ∀ k, Foot FJ (J k) := fun k => ⟨fun W h j hj => by
      rcases hj with hj | rfl | rfl
      · exact (fI k).lt W h.1 j hj
      · have := h.2.2.2.1; simp only [D]; omega
      · have := h.2.2.2.1; simp only [l]; omega,
    fun W W' h hc => by
      have hi := (fI k).keep W W' h.1 (offJ hc)
      refine ⟨⟨hi.1, nl hc (fun h => h (.inr (.inr rfl))) h.2.1, nl hc (fun h => h (.inr (.inl rfl))) h.2.2.1, Nat.le_trans h.2.2.2.1 hc.size, fun hf => h.2.2.2.2.1 (hi.2 _ hf), fun hf => h.2.2.2.2.2 (hi.2 _ hf)⟩, fun j hj => ?_⟩
      rcases hj with hj | hj
      · exact .inl (hi.2 j hj)
      · exact .inr hj⟩
  have fJx : ∀ k, Foot FJ (Jx k) := fun k => ⟨fun W ⟨c, h⟩ j hj => by
      rcases hj with hj | rfl | rfl
      · exact (fX c k).lt W h.1 j hj
      · have := h.2.2.2.1; simp only [D]; omega
      · have := h.2.2.2.1; simp only [l]; omega,
    fun W W' ⟨c, h⟩ hc => by
      have hi := (fX c k).keep W W' h.1 (offJ hc)
      refine ⟨⟨c, hi.1, nl hc (fun h => h (.inr (.inr rfl))) h.2.1, nl hc (fun h => h (.inr (.inl rfl))) h.2.2.1, Nat.le_trans h.2.2.2.1 hc.size, fun hf => h.2.2.2.2.1 (hi.2 _ hf), fun hf => h.2.2.2.2.2 (hi.2 _ hf)⟩, fun j hj => ?_⟩
      rcases hj with hj | hj
      · exact .inl (hi.2 j hj)
      · exact .inr hj⟩
  have put : ∀ (W : World) (o : Obj), Ch (fun j => j = l) W (W.putObj l o) := fun W o => (Ch.refl _ W).putObj _ _ rfl
  have offput : ∀ {W : World} {o : Obj}, ¬ F W l → Off F W (W.putObj l o) := fun h => Off.of (put _ _) fun j hj => by subst hj; exact h
  refine (hit J Jx W1 z1.symm (((Below.refl _ w).alloc (Nat.le_refl _) _).alloc (by simp) _) (fun _ _ h => ⟨h.1, h.2.2.2.1⟩) (fun _ _ ⟨c, h⟩ => ⟨⟨c, h.1⟩, h.2.2.2.1⟩)
    fJ fJx ?_ ⟨i1.1, l1, d1, by omega, n1⟩).mono ?_
  · rintro k W ⟨hi, hl, hd, hz, hnl, hnD⟩ hk
    refine ⟨fn, _, assign, body, run_yield hl (hps k), roundIn_of_wpIn hfn (hassign k W _ hi hk hz fun a' W2 ha c2 hi2 hf2 => ?_)⟩
    have hl2 := nl c2 (fun h => h) hl
    refine ⟨_, run_beginRound hl2 rfl, ?_⟩
    have hnl2 : ¬ F W2 l := fun h => hnl (hf2 _ h)
    have cb := put W2 (mk .busy none)
    have hlb : (W2.putObj l (mk .busy none)).heap[l]? = some (mk .busy none) := World.putObj_heap_same (Array.getElem?_eq_some_iff.1 hl2).1
    have hdb := nl cb (fun h : D = l => hDl h) (nl c2 (fun h => h) hd)
    have ib := (fI k).keep W2 (W2.putObj l (mk .busy none)) hi2 (offput hnl2)
    have hnlb : ¬ F (W2.putObj l (mk .busy none)) l := fun h => hnl2 (ib.2 _ h)
    have hnDb : ¬ F (W2.putObj l (mk .busy none)) D := fun h => hnD (hf2 _ (ib.2 _ h))
    have zb : w.heap.size + 2 ≤ (W2.putObj l (mk .busy none)).heap.size := Nat.le_trans (Nat.le_trans hz c2.size) cb.size
    have cWb : Ch (fun j => FJ W j) W (W2.putObj l (mk .busy none)) := (c2.mono fun _ _ h => h.elim).trans (cb.mono fun j _ hj => .inr (.inr hj))
    have fWb : ∀ j, F (W2.putObj l (mk .busy none)) j → F W j := fun j h => hf2 _ (ib.2 _ h)
    refine wpIn_mono (hbody k a' _ ib.1 hk (hAx _ _ _ _ ha cb) zb ⟨_, hlb⟩ hnlb) ?_
    have fin : ∀ (jump : Option Code) (W3 : World), Step F (W2.putObj l (mk .busy none)) W3 →
        ∃ W4, (Instr.endRound l jump).run P W3 = .ok (.bool jump.isNone) W4 ∧ Ch (fun j => j = l) W3 W4 ∧ Off F W3 W4 ∧ ¬ F W3 l ∧ ¬ F W3 D ∧
          W4.heap[l]? = some (mk (if jump.isNone then .ready else .done) jump) ∧ W4.heap[D]? = some (.deferred (some [])) ∧ Ch (FJ W) W W4 ∧ w.heap.size + 2 ≤ W4.heap.size ∧ (∀ j, F W3 j → F W j ∨ W.heap.size ≤ j) := fun jump W3 s3 => by
      have hn3 := s3.no hnlb (by omega)
      have hD3 := s3.no hnDb (by omega)
      have hl3 := nl s3.1 hnlb hlb
      have c4 := put W3 (mk (if jump.isNone then .ready else .done) jump)
      refine ⟨_, run_endRound jump hl3, c4, offput hn3, hn3, hD3, World.putObj_heap_same (Array.getElem?_eq_some_iff.1 hl3).1, nl c4 (fun h : D = l => hDl h) (nl s3.1 hnDb hdb), ?_, ?_, ?_⟩
      · refine (((cWb.mono (T' := fun j => FJ W j ∨ W.heap.size ≤ j) fun _ _ h => .inl h).trans (s3.1.mono fun j _ hj => .inl (.inl (fWb j hj)))).trans (c4.mono fun j _ hj => .inl (.inr (.inr hj)))).mono fun j hj h => ?_
        rcases h with h | h
        · exact h
        · omega
      · exact Nat.le_trans zb (Nat.le_trans s3.1.size c4.size)
      · intro j hj
        rcases s3.2 j hj with h | h
        · exact .inl (fWb j h)
        · exact .inr (Nat.le_trans cWb.size h)
    have stp : ∀ {W3 W4 : World}, Ch (FJ W) W W4 → (∀ j, F W4 j → F W3 j) → (∀ j, F W3 j → F W j ∨ W.heap.size ≤ j) → Step FJ W W4 := fun c h4 h3 => ⟨c, fun j hj => by
      rcases hj with hj | hj
      · rcases h3 _ (h4 _ hj) with h | h
        · exact .inl (.inl h)
        · exact .inr h
      · exact .inl (.inr hj)⟩
    have left : ∀ (c : Code) (a3 : Act) (W3 : World), Step F (W2.putObj l (mk .busy none)) W3 → Ix c (k + 1) W3 → ∃ W4, (Instr.endRound l (some c)).run P W3 = .ok (.bool false) W4 ∧ Jx (k + 1) W4 ∧ Step FJ W W4 := fun c a3 W3 s3 hx => by
      obtain ⟨W4, hr, c4, o4, hn3, hD3, hl4, hd4, call, z4, f3⟩ := fin (some c) W3 s3
      have i4 := (fX c (k + 1)).keep W3 W4 hx o4
      exact ⟨W4, hr, ⟨c, i4.1, hl4, hd4, z4, fun h => hn3 (i4.2 _ h), fun h => hD3 (i4.2 _ h)⟩, stp call i4.2 f3⟩
    rintro e a3 W3 hp
    cases e with
    | normal =>
      obtain ⟨W4, hr, c4, o4, hn3, hD3, hl4, hd4, call, z4, f3⟩ := fin none W3 hp.1
      have i4 := (fI (k + 1)).keep W3 W4 hp.2 o4
      exact ⟨_, _, hr, .inl ⟨rfl, ⟨i4.1, hl4, hd4, z4, fun h => hn3 (i4.2 _ h), fun h => hD3 (i4.2 _ h)⟩, stp call i4.2 f3⟩⟩
    | ret =>
      obtain ⟨W4, hr, hx, hs⟩ := left .ret a3 W3 hp.1 hp.2
      exact ⟨_, _, hr, .inr ⟨rfl, hx, hs⟩⟩
    | exit id =>
      obtain ⟨W4, hr, hx, hs⟩ := left (.exit id) a3 W3 hp.1 hp.2
      exact ⟨_, _, hr, .inr ⟨rfl, hx, hs⟩⟩
    | goto t =>
      obtain ⟨W4, hr, hx, hs⟩ := left (.goto t) a3 W3 hp.1 hp.2
      exact ⟨_, _, hr, .inr ⟨rfl, hx, hs⟩⟩
    | panic ch => exact hp.elim
    | outgrown => exact hp.elim
  · rintro e W2 ⟨⟨v, rfl⟩, (⟨hi, hl, hd, hz, hnl, hnD⟩ | ⟨k, hk, c, hi, hl, hd, hz, hnl, hnD⟩)⟩
    · exact ⟨none, _, run_endLoop hl (by simp), hdone _ ((fI N).keep W2 _ hi (offput hnl)).1 (nl (put _ _) (fun h : D = l => hDl h) hd) (fun h => hnD (((fI N).keep W2 _ hi (offput hnl)).2 _ h)) (by rw [World.putObj_size]; exact hz)⟩
    · exact ⟨some c, _, run_endLoop hl (by simp), hstop c k _ hk ((fX c k).keep W2 _ hi (offput hnl)).1 (nl (put _ _) (fun h : D = l => hDl h) hd) (fun h => hnD (((fX c k).keep W2 _ hi (offput hnl)).2 _ h)) (by rw [World.putObj_size]; exact hz)⟩

/-- A LOOP WITHIN A ROUND of the loop whose record is l₀: one block more, no mark. -/
theorem wpIn_rangeN {g : Operand} {ps : Array Tmp} {assign body : Code} {Q : Exit → Act → World → Prop} {a : Act} {w : World} {l₀ : Nat} {r₀ : Loop} (hl₀ : w.heap[l₀]? = some (.loop r₀))
    {gf : Nat} {lb : Array Value} (hg : a.eval g = .func (.func gf) #[] lb) (eg : ∀ args w, (callFunc gf args).run P w = .ok (.enter gf args) w)
    (N : Nat) (args : Nat → Array Value) (hps : ∀ k, (args k).size = ps.size) (F : World → Nat → Prop)
    (I : Nat → World → Prop) (Ix : Code → Nat → World → Prop) (fI : ∀ k, Foot F (I k)) (fX : ∀ c k, Foot F (Ix c k))
    (h0 : I 0 w) (Ax : Nat → Act → World → Prop)
    (hAx : ∀ k a' W W', Ax k a' W → Ch (fun j => j = w.heap.size) W W' → Ax k a' W')
    (hit : ∀ J Jx W1, w.heap.size + 1 = W1.heap.size → Below w.heap.size w W1 →
      (∀ k W, J k W → I k W ∧ w.heap.size + 1 ≤ W.heap.size) → (∀ k W, Jx k W → (∃ c, Ix c k W) ∧ w.heap.size + 1 ≤ W.heap.size) →
      (∀ k, Foot (fun W j => F W j ∨ j = w.heap.size) (J k)) → (∀ k, Foot (fun W j => F W j ∨ j = w.heap.size) (Jx k)) →
      RoundsF P w.heap.size N args (fun W j => F W j ∨ j = w.heap.size) J Jx → J 0 W1 →
      Iter P gf lb w.heap.size N J Jx W1)
    (hassign : ∀ k W (K : Act → World → Prop), I k W → k < N → w.heap.size + 1 ≤ W.heap.size → (∀ a' W', Ax k a' W' → Ch (fun _ => False) W W' → I k W' → (∀ j, F W' j → F W j) → K a' W') →
      assign.wpIn (Fence.wide.inRound w.heap.size) 0 P (Exit.then K (fun _ _ _ => False)) { tmps := (ps.zip (args k)).foldl (fun t (p, v) => t.setIfInBounds p v) a.tmps, defers := [] } W)
    (hbody : ∀ k a' W, I k W → k < N → Ax k a' W → w.heap.size + 1 ≤ W.heap.size → body.wpIn (Fence.wide.inRound w.heap.size) 0 P (roundEndF F I Ix (k + 1) W) a' W)
    (hdone : ∀ W, I N W → w.heap.size + 1 ≤ W.heap.size → Q .normal a W)
    (hstop : ∀ c k W, k ≤ N → Ix c k W → w.heap.size + 1 ≤ W.heap.size → c.wpIn (Fence.wide.inRound l₀) 0 P Q a W) :
    (Code.rangeFunc g ps assign body).wpIn (Fence.wide.inRound l₀) 0 P Q a w := by
  refine wpIn_rangeFunc fun fn hfn => ?_
  let mk : LoopState → Option Code → Obj := fun st pe => .loop { state := st, pending := pe, fn, tmps := a.tmps, params := ps, assign, body, defers := r₀.defers }
  let l := w.heap.size
  let FJ : World → Nat → Prop := fun W j => F W j ∨ j = l
  let W1 := w.alloc (mk .ready none)
  have z1 : W1.heap.size = w.heap.size + 1 := by simp [W1]
  have l1 : W1.heap[l]? = some (mk .ready none) := World.alloc_heap_new w (mk .ready none)
  have c1 : Ch (fun _ => False) w W1 := (Ch.refl _ w).alloc _
  have nl : ∀ {T : Nat → Prop} {W W' : World} {o : Obj} {j : Nat}, Ch T W W' → ¬ T j → W.heap[j]? = some o → W'.heap[j]? = some o := fun c ht h => c.obj h ht
  have i1 := (fI 0).keep w W1 h0 (Off.nothing c1)
  have n1 : ¬ F W1 l := fun h => by have := (fI 0).lt w h0 _ (i1.2 _ h); simp [l] at this
  refine ⟨l, [], W1, { target := .fn (.func gf) lb, args := #[.func (.yield l) #[] #[]] }, W1, gf, #[.func (.yield l) #[] #[]] ++ lb, W1,
    run_enterLoop_inner hl₀ _ _ _ _ _, ?_, fun _ _ => trivial, ?_, fun h => absurd h (by simp [Fence.wide, Fence.inRound]), ?_⟩
  · simp only [resolve, hg]; simp [go_sem]
  · simp [invoke, go_sem, eg]
  let J : Nat → World → Prop := fun k W => I k W ∧ W.heap[l]? = some (mk .ready none) ∧ w.heap.size + 1 ≤ W.heap.size ∧ ¬ F W l
  let Jx : Nat → World → Prop := fun k W => ∃ c, Ix c k W ∧ W.heap[l]? = some (mk .done (some c)) ∧ w.heap.size + 1 ≤ W.heap.size ∧ ¬ F W l
  have offJ : ∀ {W W' : World}, Off FJ W W' → Off F W W' := fun h => Ch.mono h fun j _ hn hf => hn (.inl hf)
  have fJ : ∀ k, Foot FJ (J k) := fun k => ⟨fun W h j hj => by
      rcases hj with hj | rfl
      · exact (fI k).lt W h.1 j hj
      · have := h.2.2.1; simp only [l]; omega,
    fun W W' h hc => by
      have hi := (fI k).keep W W' h.1 (offJ hc)
      refine ⟨⟨hi.1, nl hc (fun h => h (.inr rfl)) h.2.1, Nat.le_trans h.2.2.1 hc.size, fun hf => h.2.2.2 (hi.2 _ hf)⟩, fun j hj => ?_⟩
      rcases hj with hj | hj
      · exact .inl (hi.2 j hj)
      · exact .inr hj⟩
  have fJx : ∀ k, Foot FJ (Jx k) := fun k => ⟨fun W ⟨c, h⟩ j hj => by
      rcases hj with hj | rfl
      · exact (fX c k).lt W h.1 j hj
      · have := h.2.2.1; simp only [l]; omega,
    fun W W' ⟨c, h⟩ hc => by
      have hi := (fX c k).keep W W' h.1 (offJ hc)
      refine ⟨⟨c, hi.1, nl hc (fun h => h (.inr rfl)) h.2.1, Nat.le_trans h.2.2.1 hc.size, fun hf => h.2.2.2 (hi.2 _ hf)⟩, fun j hj => ?_⟩
      rcases hj with hj | hj
      · exact .inl (hi.2 j hj)
      · exact .inr hj⟩
  have put : ∀ (W : World) (o : Obj), Ch (fun j => j = l) W (W.putObj l o) := fun W o => (Ch.refl _ W).putObj _ _ rfl
  have offput : ∀ {W : World} {o : Obj}, ¬ F W l → Off F W (W.putObj l o) := fun h => Off.of (put _ _) fun j hj => by subst hj; exact h
  refine (hit J Jx W1 z1.symm ((Below.refl _ w).alloc (Nat.le_refl _) _) (fun _ _ h => ⟨h.1, h.2.2.1⟩) (fun _ _ ⟨c, h⟩ => ⟨⟨c, h.1⟩, h.2.2.1⟩)
    fJ fJx ?_ ⟨i1.1, l1, by omega, n1⟩).mono ?_
  · rintro k W ⟨hi, hl, hz, hnl⟩ hk
    refine ⟨fn, _, assign, body, run_yield hl (hps k), roundIn_of_wpIn hfn (hassign k W _ hi hk hz fun a' W2 ha c2 hi2 hf2 => ?_)⟩
    have hl2 := nl c2 (fun h => h) hl
    refine ⟨_, run_beginRound hl2 rfl, ?_⟩
    have hnl2 : ¬ F W2 l := fun h => hnl (hf2 _ h)
    have cb := put W2 (mk .busy none)
    have hlb : (W2.putObj l (mk .busy none)).heap[l]? = some (mk .busy none) := World.putObj_heap_same (Array.getElem?_eq_some_iff.1 hl2).1
    have ib := (fI k).keep W2 (W2.putObj l (mk .busy none)) hi2 (offput hnl2)
    have hnlb : ¬ F (W2.putObj l (mk .busy none)) l := fun h => hnl2 (ib.2 _ h)
    have zb : w.heap.size + 1 ≤ (W2.putObj l (mk .busy none)).heap.size := Nat.le_trans (Nat.le_trans hz c2.size) cb.size
    have cWb : Ch (fun j => FJ W j) W (W2.putObj l (mk .busy none)) := (c2.mono fun _ _ h => h.elim).trans (cb.mono fun j _ hj => .inr hj)
    have fWb : ∀ j, F (W2.putObj l (mk .busy none)) j → F W j := fun j h => hf2 _ (ib.2 _ h)
    refine wpIn_mono (hbody k a' _ ib.1 hk (hAx _ _ _ _ ha cb) zb) ?_
    have fin : ∀ (jump : Option Code) (W3 : World), Step F (W2.putObj l (mk .busy none)) W3 →
        ∃ W4, (Instr.endRound l jump).run P W3 = .ok (.bool jump.isNone) W4 ∧ Ch (fun j => j = l) W3 W4 ∧ Off F W3 W4 ∧ ¬ F W3 l ∧
          W4.heap[l]? = some (mk (if jump.isNone then .ready else .done) jump) ∧ Ch (FJ W) W W4 ∧ w.heap.size + 1 ≤ W4.heap.size ∧ (∀ j, F W3 j → F W j ∨ W.heap.size ≤ j) := fun jump W3 s3 => by
      have hn3 := s3.no hnlb (by omega)
      have hl3 := nl s3.1 hnlb hlb
      have c4 := put W3 (mk (if jump.isNone then .ready else .done) jump)
      refine ⟨_, run_endRound jump hl3, c4, offput hn3, hn3, World.putObj_heap_same (Array.getElem?_eq_some_iff.1 hl3).1, ?_, ?_, ?_⟩
      · refine (((cWb.mono (T' := fun j => FJ W j ∨ W.heap.size ≤ j) fun _ _ h => .inl h).trans (s3.1.mono fun j _ hj => .inl (.inl (fWb j hj)))).trans (c4.mono fun j _ hj => .inl (.inr hj))).mono fun j hj h => ?_
        rcases h with h | h
        · exact h
        · omega
      · exact Nat.le_trans zb (Nat.le_trans s3.1.size c4.size)
      · intro j hj
        rcases s3.2 j hj with h | h
        · exact .inl (fWb j h)
        · exact .inr (Nat.le_trans cWb.size h)
    have stp : ∀ {W3 W4 : World}, Ch (FJ W) W W4 → (∀ j, F W4 j → F W3 j) → (∀ j, F W3 j → F W j ∨ W.heap.size ≤ j) → Step FJ W W4 := fun c h4 h3 => ⟨c, fun j hj => by
      rcases hj with hj | hj
      · rcases h3 _ (h4 _ hj) with h | h
        · exact .inl (.inl h)
        · exact .inr h
      · exact .inl (.inr hj)⟩
    have left : ∀ (c : Code) (a3 : Act) (W3 : World), Step F (W2.putObj l (mk .busy none)) W3 → Ix c (k + 1) W3 → ∃ W4, (Instr.endRound l (some c)).run P W3 = .ok (.bool false) W4 ∧ Jx (k + 1) W4 ∧ Step FJ W W4 := fun c a3 W3 s3 hx => by
      obtain ⟨W4, hr, c4, o4, hn3, hl4, call, z4, f3⟩ := fin (some c) W3 s3
      have i4 := (fX c (k + 1)).keep W3 W4 hx o4
      exact ⟨W4, hr, ⟨c, i4.1, hl4, z4, fun h => hn3 (i4.2 _ h)⟩, stp call i4.2 f3⟩
    rintro e a3 W3 hp
    cases e with
    | normal =>
      obtain ⟨W4, hr, c4, o4, hn3, hl4, call, z4, f3⟩ := fin none W3 hp.1
      have i4 := (fI (k + 1)).keep W3 W4 hp.2 o4
      exact ⟨_, _, hr, .inl ⟨rfl, ⟨i4.1, hl4, z4, fun h => hn3 (i4.2 _ h)⟩, stp call i4.2 f3⟩⟩
    | ret =>
      obtain ⟨W4, hr, hx, hs⟩ := left .ret a3 W3 hp.1 hp.2
      exact ⟨_, _, hr, .inr ⟨rfl, hx, hs⟩⟩
    | exit id =>
      obtain ⟨W4, hr, hx, hs⟩ := left (.exit id) a3 W3 hp.1 hp.2
      exact ⟨_, _, hr, .inr ⟨rfl, hx, hs⟩⟩
    | goto t =>
      obtain ⟨W4, hr, hx, hs⟩ := left (.goto t) a3 W3 hp.1 hp.2
      exact ⟨_, _, hr, .inr ⟨rfl, hx, hs⟩⟩
    | panic ch => exact hp.elim
    | outgrown => exact hp.elim
  · rintro e W2 ⟨⟨v, rfl⟩, (⟨hi, hl, hz, hnl⟩ | ⟨k, hk, c, hi, hl, hz, hnl⟩)⟩
    · exact ⟨none, _, run_endLoop hl (by simp), hdone _ ((fI N).keep W2 _ hi (offput hnl)).1 (by rw [World.putObj_size]; exact hz)⟩
    · exact ⟨some c, _, run_endLoop hl (by simp), hstop c k _ hk ((fX c k).keep W2 _ hi (offput hnl)).1 (by rw [World.putObj_size]; exact hz)⟩
end Go.Proofs.YtchmdnmifpjfkaaDoor
/- The tasks of a set that an image has. -/
namespace Go.Proofs.YtchmdnmifpjfkaaDoor
open Go.RowKit

/-- How long a task holds each resource. -/
def lonF (x : Img) (i : Nat) : Nat → Int := fun r => (x.t i).lon.getD r 0
theorem lon_at {x : Img} {i : Nat} (h8 : (x.t i).lon.length = 8) (r : Nat) (hr : r < 8) : (taskC (x.t i))[3 + r]? = some (.int .i64 (lonF x i r)) := by
  unfold taskC lonF
  rw [show 3 + r = r + 1 + 1 + 1 by omega, List.getElem?_cons_succ, List.getElem?_cons_succ, List.getElem?_cons_succ]
  have : r < (x.t i).lon.length := by omega
  simp [rowZ, this]
/-- The tasks of a set that the image has; the terms that come of them. -/
def tasksL (x : Img) (s : BitVec 32) : List Nat := lst (btw s (-1) (x.tasks.length : Int)) 32
theorem tasksL_lt {x : Img} {s : BitVec 32} {k : Nat} (hk : k < (tasksL x s).length) : (tasksL x s).getD k 0 < x.tasks.length := by
  have hm : (tasksL x s).getD k 0 ∈ tasksL x s := by rw [List.getD_eq_getElem?_getD, List.getElem?_eq_getElem hk]; exact List.getElem_mem hk
  obtain ⟨h1, h2⟩ := (mem_lst _ _ _).1 hm
  rw [btw_bit _ _ _ _ h1] at h2
  have h3 : (((tasksL x s).getD k 0 : Nat) : Int) < (x.tasks.length : Int) := by
    have := (Bool.and_eq_true _ _).mp h2
    have := (Bool.and_eq_true _ _).mp this.2
    exact of_decide_eq_true this.2
  omega
theorem nth_ints {L : List Nat} {k : Nat} (hk : k < L.length) : nth (ints L) k = ((L.getD k 0 : Nat) : Int) := by
  unfold nth ints
  simp [hk]
end Go.Proofs.YtchmdnmifpjfkaaDoor
/- Plain laws of this prover's own: a region that draws its order, whose head only reads and whose tail stands in a row, in the body of an iterator (a wide fence without a round). No statement about the program. -/
namespace Go.Proofs.YtchmdnmifpjfkaaDoor
open Go.RowKit
section
variable {n0 : Nat} {P : Program} {ops : Array Oper} {md : Region.Mode} {w : World}
theorem operIn_of_still {o : Oper} {a : Act} {K : Act → Prop} {K' : Act → World → Prop} {Q' : Exit → Act → World → Prop} (h : ∀ a, K a → K' a w) (hh : o.still P a w K) : o.wpIn Fence.wide n0 P a w K' Q' := by
  have h1 := Oper.wp_of_still (Q' := Q') h hh
  refine ⟨fun _ _ => trivial, ?_⟩
  have e : o.semAt Fence.wide.round a.eval = execOp a.eval o := by rw [show Fence.wide.round = none from rfl, Oper.semAt_none]
  rw [e]
  unfold Oper.still at hh
  unfold Oper.wp at h1
  generalize (execOp a.eval o).run P w = r at h1 hh
  cases r with
  | ok x w' =>
    cases x <;> simp only [Oper.stillUpon] at hh <;> simp only [Oper.uponIn]
    case enter f args =>
      obtain ⟨rfl, v, hc, hn⟩ := hh
      refine ⟨fun h => by simp [Fence.wide] at h, callsIn_wide.2 (hc.mono ?_)⟩
      rintro e w'' ⟨rfl, rfl⟩
      exact h _ hn
    all_goals (obtain ⟨rfl, h2⟩ := hh; exact h _ h2)
  | halt x w' => simp only [Oper.stillUpon] at hh
theorem wpOpIn_of_stOp {i : Nat} {a : Act} {K : Act → Prop} {K' : Act → World → Prop} {Q' : Exit → Act → World → Prop} (h : ∀ a, K a → K' a w) (hh : stOp P ops w i K a) : wpOpIn Fence.wide n0 P ops Q' i K' a w := by
  unfold stOp at hh
  unfold wpOpIn
  split
  · rename_i ho; simp only [ho] at hh; exact h _ hh
  · rename_i o ho
    simp only [ho] at hh
    split
    · rename_i hw; simp only [hw, if_true] at hh; exact operIn_of_still h hh
    · rename_i hw; simp only [hw] at hh; exact ⟨fun _ _ => trivial, h _ hh⟩
theorem wpAnyIn_of_head {n g : Nat} {L : Array Bool → Act → Prop} {Q' : Exit → Act → World → Prop} (hL : ∀ listed a, L listed a → wpAnyIn Fence.wide n0 P md ops Q' g listed a w) :
    ∀ (f : Nat) (listed : Array Bool) (a : Act), wpAnyL P md ops w n L f listed a → wpAnyIn Fence.wide n0 P md ops Q' (f + g) listed a w
  | 0, listed, a, h => by rw [Nat.zero_add]; exact hL _ _ h
  | f + 1, listed, a, h => by
    rw [show f + 1 + g = (f + g) + 1 by omega]
    exact ⟨fun h0 => absurd h0 h.1, fun i hi => wpOpIn_of_stOp (fun a' h' => wpAnyIn_of_head hL f _ a' h') (h.2 i hi).2⟩
theorem wpAnyIn_of_seq {F : Fence} {Q' : Exit → Act → World → Prop} : ∀ (l : List Oper) (k : Nat) (listed : Array Bool) (a : Act) (w : World), (∀ j, l[j]? = ops[k + j]?) →
    Region.seqB md ops l.length k listed = true → wpListIn F n0 P ops Q' l a w → wpAnyIn F n0 P md ops Q' l.length listed a w
  | [], _, _, _, _, _, hB, h => ⟨by simpa [Region.seqB] using hB, h⟩
  | o :: l, k, listed, a, w, hl, hB, h => by
    have h0 : ops[k]? = some o := by simpa using (hl 0).symm
    simp only [List.length_cons, Region.seqB, Bool.and_eq_true, decide_eq_true_eq] at hB
    refine ⟨fun h1 => (by rw [hB.1] at h1; cases h1), fun i hi => ?_⟩
    rw [hB.1] at hi
    have hik : i = k := by simpa using hi
    subst hik
    have hw : wpOpIn F n0 P ops Q' i (wpListIn F n0 P ops Q' l) a w := by unfold wpOpIn; simp only [h0]; exact h
    exact wpOpIn_mono (fun a' w' h' => wpAnyIn_of_seq l (i + 1) _ a' w' (fun j => by have := hl (j + 1); simpa [Nat.add_assoc, Nat.add_comm 1 j] using this) hB.2 h') hw
theorem wpIn_region_still_tail {id : Nat} {Q : Exit → Act → World → Prop} {a : Act} {w : World} {l : List Oper} (n : Nat) (hm : P.follows .mixedOrders = true) (hB : Region.lexTailB .any l.toArray n = true)
    (h : wpStill P l.toArray { w with drawn := w.drawn + 1 } (fun a' => wpListIn Fence.wide n0 P l.toArray Q (l.drop n) a' { w with drawn := w.drawn + 1 }) (l.take n) a) : (Code.region id l.toArray true).wpIn Fence.wide n0 P Q a w := by
  simp only [Region.lexTailB, Bool.and_eq_true, decide_eq_true_eq] at hB
  obtain ⟨⟨⟨⟨hsel, hn⟩, hs⟩, hc⟩, hlex⟩ := hB
  have hn' : n < l.length := by simpa using hn
  have htl : (l.take n).length = n := by simp; omega
  have hdl : (l.drop n).length = l.toArray.size - n := by simp
  have inv0 : HeadInv .any l.toArray n (Array.replicate l.toArray.size false) :=
    ⟨by simp, fun j oj _ hl => (by rw [getD_replicate_false] at hl; cases hl), fun t _ ht => getD_in (by simpa using ht) (getD_replicate_false _ _)⟩
  have H := wpAnyL_lex (md := .any) (g := l.toArray.size - n) hsel hs hc hn (l.take n) 0 _ a (fun j hj => by
    have hj' : j < n := by rw [htl] at hj; exact hj
    simp [hj']) (by simpa using htl) inv0 (by rw [htl]; exact hlex) h
  refine wpIn_region_any hm ?_
  have := wpAnyIn_of_head (Q' := Q) (n0 := n0) (g := l.toArray.size - n) (fun listed a' hL => by
    have := wpAnyIn_of_seq (F := Fence.wide) (n0 := n0) (md := .any) (Q' := Q) (l.drop n) n listed a' { w with drawn := w.drawn + 1 } (fun j => by simp [List.getElem?_drop]) (by rw [hdl]; exact hL.1) hL.2
    rwa [hdl] at this) _ _ _ H
  rw [htl, show n + (l.toArray.size - n) = l.toArray.size by omega] at this
  exact this
end
theorem oper_in {l0 : Nat} {P : Program} {o : Oper} {a : Act} {w : World} {next next' : Act → World → Prop} {Q : Exit → Act → World → Prop} (hd : ∀ c, o.op ≠ .defer c) (hn : ∀ a w, next a w → next' a w)
    (h : o.wp P a w next Q) : o.wpIn (Fence.wide.inRound l0) 0 P a w next' Q := by
  refine ⟨fun _ _ => trivial, ?_⟩
  have e : o.semAt (Fence.wide.inRound l0).round a.eval = execOp a.eval o := Oper.semAt_some l0 _ _ hd
  rw [e]
  unfold Oper.wp at h
  generalize (execOp a.eval o).run P w = r at h
  unfold Oper.upon at h
  unfold Oper.uponIn
  split at h
  · exact hn _ _ h
  · exact hn _ _ h
  · exact hn _ _ h
  · refine ⟨fun h => by simp [Fence.wide] at h, CallsIn.inRound l0 ((callsIn_wide.2 h).mono ?_)⟩
    rintro e w'' he
    cases e with
    | returned v => exact hn _ _ he
    | panicked c => exact he
    | outgrown => exact he
  · refine ⟨fun h => by simp [Fence.wide] at h, fun c cs _ => ?_⟩
    obtain ⟨v, w', hr, hs⟩ := h c cs
    exact ⟨v, w', hn _ _ hr, stepsIn_wide.2 hs⟩
  · exact h
  · exact h.elim

def noDefer (l : List Oper) : Bool := l.all fun o => match o.op with | .defer _ => false | _ => true
theorem noDefer_spec {l : List Oper} (h : noDefer l = true) : ∀ (i : Nat) (o : Oper), l.toArray[i]? = some o → ∀ c, o.op ≠ .defer c := by
  intro i o ho c e
  have hm : o ∈ l := by
    have : l[i]? = some o := by simpa using ho
    exact List.mem_of_getElem? this
  have := List.all_eq_true.1 h o hm
  rw [e] at this
  cases this

theorem wpOps_in {l0 : Nat} {P : Program} {ops : Array Oper} {Q : Exit → Act → World → Prop} (hd : ∀ (i : Nat) (o : Oper), ops[i]? = some o → ∀ c, o.op ≠ .defer c) (hQ : ∀ a w, ¬ Q .outgrown a w) :
    ∀ (l : List Nat) (a : Act) (w : World), wpOps P ops Q l a w → wpOpsIn (Fence.wide.inRound l0) 0 P ops Q l a w
  | [], _, _, h => h
  | i :: rest, a, w, h => by
    unfold wpOps at h
    unfold wpOpsIn
    cases ho : ops[i]? with
    | none =>
      rw [ho] at h
      exact wpOps_in hd hQ rest a w h
    | some o =>
      rw [ho] at h
      simp only at h ⊢
      split
      · rename_i hw
        rw [if_pos hw] at h
        rcases h with h | ⟨_, a0, w0, h⟩
        · exact oper_in (hd i o ho) (fun a w h => wpOps_in hd hQ rest a w h) h
        · exact absurd h (hQ a0 w0)
      · rename_i hw
        rw [if_neg hw] at h
        exact ⟨fun _ _ => trivial, wpOps_in hd hQ rest _ w h⟩

theorem wpIn_region_any0 {l0 : Nat} {P : Program} {id : Nat} {l : List Oper} {Q : Exit → Act → World → Prop} {a : Act} {w : World} (hm : P.follows .mixedOrders = true) (hd : noDefer l = true) (hQ : ∀ a w, ¬ Q .outgrown a w)
    (h : wpAny P .any l.toArray Q l.toArray.size (Array.replicate l.toArray.size false) a w.drew) : (Code.region id l.toArray true).wpIn (Fence.wide.inRound l0) 0 P Q a w :=
  wpIn_region_draw fun t => by
    simp only [Region.schedule, hm, Bool.true_or, if_true]
    exact wpOps_in (noDefer_spec hd) hQ _ a _ (wpAny_sound _ t _ a _ h)

theorem wpIn_region_held0 {l0 : Nat} {P : Program} {id : Nat} {l : List Oper} {Q : Exit → Act → World → Prop} {S : World → Prop} {a : Act} {w : World} (hm : P.follows .mixedOrders = true) (hd : noDefer l = true) (hQ : ∀ a w, ¬ Q .outgrown a w) (hS : S w.drew)
    (h : S w.drew → wpAnyH P .any l.toArray Q S l.toArray.size (Array.replicate l.toArray.size false) a w.drew) : (Code.region id l.toArray true).wpIn (Fence.wide.inRound l0) 0 P Q a w :=
  wpIn_region_any0 hm hd hQ (wpAny_of_held _ _ _ _ (h hS))
theorem wpIn_region_quiet0 {l0 : Nat} {P : Program} {id : Nat} {l : List Oper} {Q : Exit → Act → World → Prop} {a : Act} {w : World} (hm : P.follows .mixedOrders = true) (hd : noDefer l = true) (hB : Region.lexB .any l.toArray = true) (hQ : ∀ a w, ¬ Q .outgrown a w)
    (h : wpQuiet P l.toArray (fun w' => ∃ n, w' = w.drewN n) (fun a' => ∀ w', (∃ n, w' = w.drewN n) → Q .normal a' w') l a) : (Code.region id l.toArray true).wpIn (Fence.wide.inRound l0) 0 P Q a w := by
  simp only [Region.lexB, Bool.and_eq_true] at hB
  refine wpIn_region_any0 hm hd hQ (wpAny_of_quiet (C := fun w' => ∃ n, w' = w.drewN n) (Q := fun a' => ∀ w', (∃ n, w' = w.drewN n) → Q .normal a' w') (fun _ w' hw' h => h w' hw') _ _ _ _ ⟨1, rfl⟩ ?_)
  have := wpAnyQ_lex (C := fun w' => ∃ n, w' = w.drewN n) (md := .any) hB.1 l 0 (Array.replicate l.toArray.size false) a (by simp) (by simpa using hB.2) h
  simpa using this
/-- The same inside a round: its tail is walked outside of every fence. -/
theorem wpIn_region_still_tail0 {l0 : Nat} {P : Program} {id : Nat} {Q : Exit → Act → World → Prop} {a : Act} {w : World} {l : List Oper} (n : Nat) (hm : P.follows .mixedOrders = true) (hd : noDefer l = true) (hB : Region.lexTailB .any l.toArray n = true) (hQ : ∀ a w, ¬ Q .outgrown a w)
    (h : wpStill P l.toArray w.drew (fun a' => wpList P l.toArray Q (l.drop n) a' w.drew) (l.take n) a) : (Code.region id l.toArray true).wpIn (Fence.wide.inRound l0) 0 P Q a w := by
  simp only [Region.lexTailB, Bool.and_eq_true, decide_eq_true_eq] at hB
  obtain ⟨⟨⟨⟨hsel, hn⟩, hs⟩, hc⟩, hlex⟩ := hB
  have hn' : n < l.length := by simpa using hn
  have htl : (l.take n).length = n := by simp; omega
  have hdl : (l.drop n).length = l.toArray.size - n := by simp
  have inv0 : HeadInv .any l.toArray n (Array.replicate l.toArray.size false) :=
    ⟨by simp, fun j oj _ hl => (by rw [getD_replicate_false] at hl; cases hl), fun t _ ht => getD_in (by simpa using ht) (getD_replicate_false _ _)⟩
  have H := wpAnyL_lex (md := .any) (g := l.toArray.size - n) hsel hs hc hn (l.take n) 0 _ a (fun j hj => by
    have hj' : j < n := by rw [htl] at hj; exact hj
    simp [hj']) (by simpa using htl) inv0 (by rw [htl]; exact hlex) h
  refine wpIn_region_any0 hm hd hQ ?_
  have := wpAny_of_head (Q' := Q) (g := l.toArray.size - n) (fun listed a' hL => by
    have := wpAny_of_seq (md := .any) (Q' := Q) (l.drop n) n listed a' w.drew (fun j => by simp [List.getElem?_drop]) (by rw [hdl]; exact hL.1) hL.2
    rwa [hdl] at this) _ _ _ H
  rw [htl, show n + (l.toArray.size - n) = l.toArray.size by omega] at this
  exact this
end Go.Proofs.YtchmdnmifpjfkaaDoor
/- The contract of ceil's Of: the ceilings of a set of an image's tasks. -/
namespace Go.Proofs.YtchmdnmifpjfkaaDoor
open Go.RowKit
attribute [local go_sem] Oper.semAt_some

/-- A table, and a task more: of the resources that are listed. -/
def tbIn (f : Nat → Int) (i : Nat) (l : List Nat) : Nat → Int := fun r => if r ∈ l then min (f r) (i : Int) else f r
/-- The ceilings of tasks, one by one. -/
def cfK (x : Img) (L : List Nat) : Nat → (Nat → Int)
  | 0 => fun _ => 16
  | k + 1 => tbIn (cfK x L k) (L.getD k 0) (usesK (lonF x (L.getD k 0)) 8)
def ceilF (x : Img) (s : BitVec 32) : Nat → Int := cfK x (tasksL x s) (tasksL x s).length
/-- What a loop keeps: its table, and all that was there before. -/
def OI (w6 : World) (T : Nat) (f : Nat → Int) (W : World) : Prop := Ch (fun j => j = T) w6 W ∧ RowAt W T 73 (tb f)
theorem OI.foot {w6 : World} {T b : Nat} {f : Nat → Int} (hb : w6.heap.size = b) (hT : T < b) : Foot (fun _ j => j < b) (OI w6 T f) where
  lt := fun W ⟨h, _⟩ j hj => by have := h.size; omega
  keep := fun W W' ⟨h1, h2⟩ hc => by
    refine ⟨⟨((h1.mono (T' := fun j => j = T ∨ b ≤ j) (fun _ _ h => .inl h)).trans (hc.mono fun j _ hn => .inr (by have : ¬ j < b := hn; omega))).mono fun j hj h => ?_, h2.keep hc (fun hn => hn hT)⟩, fun j hj => hj⟩
    rcases h with h | h
    · exact h
    · omega
theorem OI.turn {w6 W : World} {T : Nat} {f : Nat → Int} (h : OI w6 T f W) (r : Nat) (hr : r < 8) (v : Int) : OI w6 T (updF f r v) (W.setCell ⟨T, r, none⟩ (.int .i64 v)) := by
  refine ⟨h.1.setCell _ _ (.inl rfl), ?_⟩
  have := h.2.setC r (.int .i64 v)
  rwa [tb_set _ v r hr] at this
theorem tbIn_nil (f : Nat → Int) (i : Nat) : tbIn f i [] = f := by funext r; simp [tbIn]
theorem tbIn_snoc (f : Nat → Int) (i : Nat) (l : List Nat) (r : Nat) (hr : r ∉ l) : tbIn f i (l ++ [r]) = updF (tbIn f i l) r (min (f r) (i : Int)) := by
  funext j
  unfold tbIn updF
  by_cases e : j = r
  · subst e; simp
  · simp [e]
theorem tbIn_out (f : Nat → Int) (i : Nat) (l : List Nat) (r : Nat) (hr : r ∉ l) : tbIn f i l r = f r := by unfold tbIn; rw [if_neg hr]
theorem usesK_mem {f : Nat → Int} {n r : Nat} : r ∈ usesK f n ↔ r < n ∧ 0 < f r := by unfold usesK; simp
theorem usesK_nodup (f : Nat → Int) (n : Nat) : (usesK f n).Nodup := by unfold usesK; exact List.Pairwise.filter _ List.nodup_range
theorem usesK_get {f : Nat → Int} {k : Nat} (hk : k < (usesK f 8).length) : (usesK f 8).getD k 0 < 8 ∧ (usesK f 8).getD k 0 ∉ (usesK f 8).take k ∧ (usesK f 8).take (k + 1) = (usesK f 8).take k ++ [(usesK f 8).getD k 0] := by
  have e : (usesK f 8).getD k 0 = (usesK f 8)[k] := by rw [List.getD_eq_getElem?_getD, List.getElem?_eq_getElem hk]; rfl
  rw [e]
  refine ⟨(usesK_mem.1 (List.getElem_mem hk)).1, fun hm => ?_, List.take_succ_eq_append_getElem hk⟩
  obtain ⟨j, hj, hje⟩ := List.getElem_of_mem hm
  rw [List.length_take] at hj
  rw [List.getElem_take] at hje
  have := (List.getElem_inj (usesK_nodup f 8)).1 hje
  omega
set_option maxHeartbeats 4000000 in
set_option maxRecDepth 100000 in
theorem cOf_any {w : World} {V : Nat → Prop} {x : Img} {S : ImgS} (h : ImgAt w V x S) (ht : Tab w) (s : BitVec 32) :
    Calls Tryd.prog 32 #[.agg #[.int .i64 x.res, .slice S.t.sp x.tasks.length S.t.c, .slice S.m.sp x.modes.length S.m.c, .slice S.e.sp x.edges.length S.e.c], .int .u32 (w32 s)] w fun e w' => e = .returned (.agg (tb (ceilF x s))) ∧ Below w.heap.size w w' := by
  refine (callsIn_wide (n := 0)).1 ?_
  have hp := ht.pos
  have HI := Lib.hid h
  have HTb := Lib.hid (show ∀ w', Below w.heap.size w w' → Tab w' from fun w' hb => ht.below hp hb)
  have HLt := Lib.hid (fun (k : Nat) (hk : k < (tasksL x s).length) => tasksL_lt hk)
  have HCf := Lib.hid (show ceilF x s = cfK x (tasksL x s) (tasksL x s).length from rfl)
  have HBl := Lib.hid (show ∀ wx, _ from fun wx => below_any s (x.tasks.length : Int) wx)
  have HE := Lib.hid (show ∀ wx, Calls Tryd.prog 60 #[] wx fun e w' => e = .returned (.agg #[.int .i64 16, .int .i64 16, .int .i64 16, .int .i64 16, .int .i64 16, .int .i64 16, .int .i64 16, .int .i64 16]) ∧ Below wx.heap.size wx w' from fun wx => cEmpty_any wx)
  obtain ⟨nT, hnT⟩ : ∃ n, x.tasks.length = n := ⟨_, rfl⟩
  obtain ⟨nM, hnM⟩ : ∃ n, x.modes.length = n := ⟨_, rfl⟩
  obtain ⟨nE, hnE⟩ : ∃ n, x.edges.length = n := ⟨_, rfl⟩
  have HTL := Lib.hid (show tasksL x s = lst (btw s (-1) (nT : Int)) 32 by rw [← hnT]; rfl)
  rw [hnT] at HBl HLt
  rw [hnT, hnM, hnE]
  have HN := Lib.hid hnT
  obtain ⟨y, hy⟩ : ∃ y, btw s (-1) (nT : Int) = y := ⟨_, rfl⟩
  rw [hy] at HBl HTL
  obtain ⟨Z, hZ⟩ : ∃ Z, Z = w.heap.size := ⟨_, rfl⟩
  have HZ := Lib.hid hZ
  clear h ht hp hnT hnM hnE hy
  rw [HCf.out]
  obtain ⟨L, hL⟩ : ∃ L, tasksL x s = L := ⟨_, rfl⟩
  rw [hL] at HTL HLt ⊢
  clear hL HCf
  obtain ⟨N, hN⟩ : ∃ N, L.length = N := ⟨_, rfl⟩
  rw [hN] at HLt ⊢
  have HNN := Lib.hid hN
  clear hN
  refine callsIn_of_wp_marks Tryd.func32 rfl trivial ?_ rfl
  simp only [Tryd.ntmps32, List.size_toArray, List.length_cons, List.length_nil, Nat.reduceAdd, Nat.reduceSub, Array.replicate_succ, Array.replicate_zero, List.push_toArray, List.append_toArray, List.nil_append, List.cons_append]
  gi_wp2_with (first
    | (refine ⟨trivial, rfl, ?_⟩; gi_at_call 60; refine (callsIn_wide.2 (HE.out _)).mono ?_; rintro e w3 ⟨rfl, b3⟩; have H3 := Lib.hid (two_alloc b3); have y1 : (w3.alloc (.cells #[.int .i64 16, .int .i64 16, .int .i64 16, .int .i64 16, .int .i64 16, .int .i64 16, .int .i64 16, .int .i64 16] 73)).cell? ⟨w.heap.size, 1, none⟩ = some (.slice S.t.sp nT S.t.c) := (H3.out.2.1.new ((Below.refl _ _).alloc (Nat.le_refl _) _)).cell 1; clear b3)
    | (refine ⟨trivial, rfl, ?_⟩; gi_at_call 61; refine (callsIn_wide.2 (HBl.out _)).mono ?_; rintro e w' ⟨rfl, rfl⟩)
    | (refine ⟨trivial, rfl, ?_⟩; gi_at_call 53; refine (callsIn_wide.2 (All_any _ _)).mono ?_; rintro e w' ⟨rfl, rfl⟩)
    | fail)
  clear y1
  obtain ⟨T5, hT5⟩ : ∃ T5, T5 = w3.heap.size := ⟨_, rfl⟩
  generalize hw6 : World.alloc (World.alloc w3 _) _ = w6
  have H6 := Lib.hid (show Below w.heap.size w w6 ∧ w6.heap.size = T5 + 2 ∧ RowAt w6 Z 26 #[.int .i64 x.res, .slice S.t.sp nT S.t.c, .slice S.m.sp nM S.m.c, .slice S.e.sp nE S.e.c] ∧ RowAt w6 (Z + 1) 73 (tb (fun _ => 0)) ∧ RowAt w6 T5 73 (tb (fun _ => 16)) ∧ w6.cell? ⟨T5 + 1, 0, none⟩ = some (.int .u32 (w32 y)) ∧ Z + 1 < T5 ∧ w.heap.size ≤ T5 by
    have b1 : Below w3.heap.size w3 w6 := by rw [← hw6]; exact ((Below.refl _ _).alloc (Nat.le_refl _) _).alloc (by simp) _
    obtain ⟨q1, q2, q3⟩ := H3.out
    have hz := q1.size
    have hl := q3.lt
    refine ⟨q1.trans (b1.mono hz), by rw [← hw6, hT5]; simp, ?_, ?_, ?_, ?_, by omega, by omega⟩
    · rw [hZ]; exact q2.new b1
    · rw [hZ]; exact q3.new b1
    · rw [hT5, ← hw6]; exact (RowAt.mk w3 73 (tb (fun _ => 16))).new ((Below.refl _ _).alloc (Nat.le_refl _) _)
    · rw [hT5, ← hw6]; simp [go_sem])
  rw [← hT5, ← hZ]
  clear hw6 hT5 hZ H3 HE HBl
  have hI0 : OI w6 T5 (cfK x L 0) w6 := ⟨Ch.refl _ _, H6.out.2.2.2.2.1⟩
  have HI0 := Lib.hid hI0
  clear hI0
  have HBe := Lib.hid (show ∀ (W' : World) (f : Nat → Int), OI w6 T5 f W' → Below w.heap.size w W' from fun W' f h => H6.out.1.trans (h.1.below (fun j hj e => by have := H6.out.2.2.2.2.2.2.2; omega) H6.out.1.size))
  refine wpIn_rangeF3 (gf := 80) (lb := #[.pointer (some ⟨T5 + 1, 0, none⟩)]) rfl (enters_of Tryd.func80 (by kernel_rfl) rfl)
    N (fun k => #[.int .i64 (nth (ints L) k)]) (fun _ => rfl) (fun _ j => j < T5 + 2)
    (fun k W => OI w6 T5 (cfK x L k) W) (fun _ _ _ => False)
    (fun k => OI.foot H6.out.2.1 (by omega)) (fun _ _ => ⟨fun _ h => h.elim, fun _ _ h => h.elim⟩) HI0.out
    (fun k a' W' => ∃ b, T5 + 4 ≤ b ∧ a' = { tmps := #[.agg #[.int .i64 x.res, .slice S.t.sp nT S.t.c, .slice S.m.sp nM S.m.c, .slice S.e.sp nE S.e.c], .int .u32 (w32 s), .pointer (some ⟨Z, 0, none⟩), undef, .pointer (some ⟨Z + 1, 0, none⟩), .pointer (some ⟨T5, 0, none⟩), .pointer (some ⟨b, 0, none⟩), undef, .agg #[.int .i64 16, .int .i64 16, .int .i64 16, .int .i64 16, .int .i64 16, .int .i64 16, .int .i64 16, .int .i64 16], .int .u32 (w32 s), .pointer (some ⟨Z, 1, none⟩), .slice S.t.sp nT S.t.c, .int .i64 nT, .int .u32 (w32 y), .func (.func 80) #[] #[.pointer (some ⟨T5 + 1, 0, none⟩)], .int .i64 (nth (ints L) k), undef, undef, undef, undef, undef, undef, undef, undef, undef, undef, undef, undef, undef, undef, undef, undef], defers := [] } ∧ RowAt W' b 3 #[.int .i64 (nth (ints L) k)])
    ?hax ?hit ?assign ?body ?done (fun _ _ _ _ h => h.elim)
  case hax =>
    rintro k a' W W' ⟨b, hb, rfl, hr⟩ hc
    rw [H6.out.2.1] at hc
    exact ⟨b, hb, rfl, hc.obj hr (by omega)⟩
  case hit =>
    intro J' Jx' W1 h1 h2 h3 h4 h5 h6 h7 h8
    rw [H6.out.2.1] at h1 h2 h3 h4 h5 h6 h7 ⊢
    rw [HTL.out] at h7
    have hN2 : N = (lst y 32).length := by rw [← HNN.out, HTL.out]
    rw [hN2] at h7 ⊢
    exact all_in _ (T5 + 1) y _ J' Jx' W1 (fun k W' hJ => HTb.out W' (HBe.out W' _ (h3 k W' hJ).1)) ((h2.cell (p := ⟨T5 + 1, 0, none⟩) (show T5 + 1 < T5 + 2 by omega)).trans H6.out.2.2.2.2.2.1) h7 h8
  case assign =>
    intro k W K hi' hk hz hK
    rw [H6.out.2.1] at hz
    have HK := Lib.hid hK
    have hkp := (OI.foot H6.out.2.1 (show T5 < T5 + 2 by omega)).keep W (W.alloc (.cells #[.int .i64 (nth (ints L) k)] 3)) hi' (Off.nothing ((Ch.refl _ _).alloc _))
    have HKP := Lib.hid hkp
    clear hK hkp hi'
    gi_wp2
    exact HK.out _ _ ⟨W.heap.size, by omega, rfl, RowAt.mk W 3 _⟩ ((Ch.refl _ _).alloc _) HKP.out.1 HKP.out.2
  case body =>
    rintro k a' W hI hk ⟨b, hb, rfl, hr⟩ hz ⟨rec0, hrec⟩ hnl
    rw [H6.out.2.1] at hz hrec hnl ⊢
    have hkL : k < L.length := by rw [HNN.out]; exact hk
    rw [nth_ints hkL] at hr ⊢
    have hil := HLt.out k hk
    have hcf : cfK x L (k + 1) = tbIn (cfK x L k) (L.getD k 0) (usesK (lonF x (L.getD k 0)) 8) := rfl
    obtain ⟨i, hi⟩ : ∃ i, L.getD k 0 = i := ⟨_, rfl⟩
    rw [hi] at hr hil hcf ⊢
    obtain ⟨F0, hF0⟩ : ∃ F, cfK x L k = F := ⟨_, rfl⟩
    rw [hF0] at hI hcf
    have HIW := Lib.hid (HI.out.new (HBe.out W F0 hI))
    obtain ⟨hcs, h8⟩ := HIW.out.tk i (by rw [HN.out]; exact hil)
    obtain ⟨hsp, -, -⟩ := HIW.out.st.at_ (by rw [HN.out]; omega)
    have q0 : W.cell? ⟨S.t.b, S.t.o + i * 11, none⟩ = some (.int .i64 (x.t i).per) := hcs 0 _ rfl
    have q1 : W.cell? ⟨S.t.b, S.t.o + i * 11 + 1, none⟩ = some (.int .i64 (x.t i).dl) := hcs 1 _ rfl
    have q2 : W.cell? ⟨S.t.b, S.t.o + i * 11 + 2, none⟩ = some (.int .i64 (x.t i).cost) := hcs 2 _ rfl
    have q3 : W.cell? ⟨S.t.b, S.t.o + i * 11 + 3, none⟩ = some (.int .i64 (lonF x i 0)) := hcs 3 _ (lon_at h8 0 (by omega))
    have q4 : W.cell? ⟨S.t.b, S.t.o + i * 11 + 4, none⟩ = some (.int .i64 (lonF x i 1)) := hcs 4 _ (lon_at h8 1 (by omega))
    have q5 : W.cell? ⟨S.t.b, S.t.o + i * 11 + 5, none⟩ = some (.int .i64 (lonF x i 2)) := hcs 5 _ (lon_at h8 2 (by omega))
    have q6 : W.cell? ⟨S.t.b, S.t.o + i * 11 + 6, none⟩ = some (.int .i64 (lonF x i 3)) := hcs 6 _ (lon_at h8 3 (by omega))
    have q7 : W.cell? ⟨S.t.b, S.t.o + i * 11 + 7, none⟩ = some (.int .i64 (lonF x i 4)) := hcs 7 _ (lon_at h8 4 (by omega))
    have q8 : W.cell? ⟨S.t.b, S.t.o + i * 11 + 8, none⟩ = some (.int .i64 (lonF x i 5)) := hcs 8 _ (lon_at h8 5 (by omega))
    have q9 : W.cell? ⟨S.t.b, S.t.o + i * 11 + 9, none⟩ = some (.int .i64 (lonF x i 6)) := hcs 9 _ (lon_at h8 6 (by omega))
    have q10 : W.cell? ⟨S.t.b, S.t.o + i * 11 + 10, none⟩ = some (.int .i64 (lonF x i 7)) := hcs 10 _ (lon_at h8 7 (by omega))
    obtain ⟨f, hf⟩ : ∃ f, lonF x i = f := ⟨_, rfl⟩
    rw [hf] at q3 q4 q5 q6 q7 q8 q9 q10 hcf
    obtain ⟨a0, ha0⟩ : ∃ a, (x.t i).per = a := ⟨_, rfl⟩
    obtain ⟨a1, ha1⟩ : ∃ a, (x.t i).dl = a := ⟨_, rfl⟩
    obtain ⟨a2, ha2⟩ : ∃ a, (x.t i).cost = a := ⟨_, rfl⟩
    rw [ha0] at q0
    rw [ha1] at q1
    rw [ha2] at q2
    have z1 : W.cell? ⟨Z, 1, none⟩ = some (.slice S.t.sp nT S.t.c) := (H6.out.2.2.1.keep hI.1 (fun e => by have := H6.out.2.2.2.2.2.2.1; omega)).cell 1
    rw [hsp] at z1 ⊢
    have t6 : W.cell? ⟨b, 0, none⟩ = some (.int .i64 (i : Nat)) := hr.cell 0
    have HB := Lib.hid (And.intro hI (And.intro hr (And.intro hz (And.intro hrec (And.intro hb hcf)))))
    have hi2 : (i : Int) < (nT : Int) := by omega
    clear hI hr hz hrec hnl hb hcf hcs h8 hsp hf ha0 ha1 ha2 hF0 hi HIW
    gi_wp2_with (first
      | (refine ⟨trivial, rfl, ?_⟩; gi_at_call 62; refine (CallsIn.inRound _ (callsIn_wide.2 (Uses_any _ _))).mono ?_; rintro e w' ⟨rfl, rfl⟩)
      | fail)
    clear q0 q1 q2 q3 q4 q5 q6 q7 q8 q9 q10 z1 t6
    obtain ⟨B, hBB⟩ : ∃ B, B = W.heap.size := ⟨_, rfl⟩
    rw [← hBB]
    generalize hWb : World.alloc W _ = Wb
    have HW := Lib.hid (show Wb.heap.size = B + 1 ∧ Ch (fun _ => False) W Wb ∧ RowAt Wb B 70 #[.int .i64 a0, .int .i64 a1, .int .i64 a2, .int .i64 (f 0), .int .i64 (f 1), .int .i64 (f 2), .int .i64 (f 3), .int .i64 (f 4), .int .i64 (f 5), .int .i64 (f 6), .int .i64 (f 7)] by
      rw [← hWb, hBB]
      exact ⟨by simp, (Ch.refl _ _).alloc _, RowAt.mk _ _ _⟩)
    have HBz := Lib.hid (And.intro hBB (show T5 < B by have := HB.out.2.2.1; omega))
    have hrec2 : Wb.heap[T5 + 2 + 1]? = some (.loop rec0) := HW.out.2.1.obj HB.out.2.2.2.1 (fun h => h)
    have HIb := Lib.hid (show OI Wb T5 F0 Wb from ⟨Ch.refl _ _, HB.out.1.2.keep HW.out.2.1 (fun h => h)⟩)
    have HTs := Lib.hid (show ∀ W', Below Wb.heap.size Wb W' → W'.rangeAt B 3 (tb f).toList from fun W' hb j v hj => by
      have hr := HW.out.2.2.new hb
      have hj8 : j < 8 := (List.getElem?_eq_some_iff.1 hj).1
      have := hr.cell (3 + j)
      rw [this, ← hj]
      revert j
      intro j hj hj8 _
      revert hj
      revert j
      refine lt8c ?_ ?_ ?_ ?_ ?_ ?_ ?_ ?_ <;> (intros; rfl))
    clear hWb hBB
    refine wpIn_rangeN hrec2 (gf := 91) (lb := #[.pointer (some ⟨B, 0, none⟩)]) rfl (enters_of Tryd.func91 (by kernel_rfl) rfl)
      (usesK f 8).length (usesA f) (fun _ => rfl) (fun _ j => j < B + 1)
      (fun j W' => OI Wb T5 (tbIn F0 i ((usesK f 8).take j)) W') (fun _ _ _ => False)
      (fun j => OI.foot HW.out.1 (by have := HBz.out.2; omega)) (fun _ _ => ⟨fun _ h => h.elim, fun _ _ h => h.elim⟩) (by rw [List.take_zero, tbIn_nil]; exact HIb.out)
      (fun j a' _ => a' = { tmps := #[.agg #[.int .i64 x.res, .slice (some ⟨S.t.b, S.t.o, none⟩) nT S.t.c, .slice S.m.sp nM S.m.c, .slice S.e.sp nE S.e.c], .int .u32 (w32 s), .pointer (some ⟨Z, 0, none⟩), undef, .pointer (some ⟨Z + 1, 0, none⟩), .pointer (some ⟨T5, 0, none⟩), .pointer (some ⟨b, 0, none⟩), .int .i64 ((usesK f 8).getD j 0 : Nat), .agg #[.int .i64 16, .int .i64 16, .int .i64 16, .int .i64 16, .int .i64 16, .int .i64 16, .int .i64 16, .int .i64 16], .int .u32 (w32 s), .pointer (some ⟨Z, 1, none⟩), .slice (some ⟨S.t.b, S.t.o, none⟩) nT S.t.c, .int .i64 nT, .int .u32 (w32 y), .func (.func 80) #[] #[.pointer (some ⟨T5 + 1, 0, none⟩)], .int .i64 (i : Nat), .pointer (some ⟨Z, 1, none⟩), .slice (some ⟨S.t.b, S.t.o, none⟩) nT S.t.c, .int .i64 (i : Nat), .pointer (some ⟨S.t.b, S.t.o + i * 11, none⟩), .agg #[.int .i64 a0, .int .i64 a1, .int .i64 a2, .int .i64 (f 0), .int .i64 (f 1), .int .i64 (f 2), .int .i64 (f 3), .int .i64 (f 4), .int .i64 (f 5), .int .i64 (f 6), .int .i64 (f 7)], .func (.func 91) #[] #[.pointer (some ⟨B, 0, none⟩)], .int .i64 ((usesK f 8).getD j 0 : Nat), .int .i64 (f ((usesK f 8).getD j 0)), undef, undef, undef, undef, undef, undef, undef, undef], defers := [] })
      (fun _ _ _ _ h _ => h) ?hit2 ?assign2 ?body2 ?done2 (fun _ _ _ _ h => h.elim)
    case hit2 =>
      intro J' Jx' W1 h1 h2 h3 h4 h5 h6 h7 h8
      exact uses_in _ B f _ J' Jx' W1 (HTs.out W1 h2) h7 h8
    case assign2 =>
      intro j W' K hi' hj hz2 hK
      have HK := Lib.hid hK
      have HI' := Lib.hid hi'
      have hu : usesA f j = #[.int .i64 ((usesK f 8).getD j 0 : Nat), .int .i64 (f ((usesK f 8).getD j 0))] := rfl
      rw [hu]
      obtain ⟨r, hr⟩ : ∃ r, (usesK f 8).getD j 0 = r := ⟨_, rfl⟩
      rw [hr] at HK ⊢
      clear hK hi' hu hr
      gi_wp2
      exact HK.out _ _ rfl (Ch.refl _ _) HI'.out (fun _ h => h)
    case body2 =>
      rintro j a' W' hI' hj rfl hz2
      obtain ⟨hr8, hrn, htk⟩ := usesK_get hj
      have c5 := (hI'.2.cell _).trans (tb_at _ _ hr8)
      rw [tbIn_out _ _ _ _ hrn] at c5
      have f5 := hI'.2.fr ((usesK f 8).getD j 0)
      have HT := Lib.hid (tbIn_snoc F0 i ((usesK f 8).take j) _ hrn)
      rw [← htk] at HT
      obtain ⟨r, hr0⟩ : ∃ r, (usesK f 8).getD j 0 = r := ⟨_, rfl⟩
      rw [hr0] at c5 f5 hr8 HT ⊢
      have t6 : W'.cell? ⟨b, 0, none⟩ = some (.int .i64 (i : Nat)) := ((HB.out.2.1.keep HW.out.2.1 (fun h => h)).keep hI'.1 (fun e => by have := HB.out.2.2.2.2.1; omega)).cell 0
      have HI' := Lib.hid hI'
      have hr9 : (r : Int) < 8 := by omega
      have HR8 := Lib.hid hr8
      obtain ⟨v, hv⟩ : ∃ v, F0 r = v := ⟨_, rfl⟩
      rw [hv] at c5 HT
      clear hI' hr0 hrn htk hr8 hv hj hz2 hrec2
      have hfin := Lib.hid (show ∀ u : Int, u = min v (i : Int) → Step (fun _ j => j < B + 1) W' (W'.drew.setCell ⟨T5, r, none⟩ (.int .i64 u)) ∧ OI Wb T5 (tbIn F0 i ((usesK f 8).take (j + 1))) (W'.drew.setCell ⟨T5, r, none⟩ (.int .i64 u)) from fun u hu => by
        refine ⟨⟨((Ch.refl _ _).drew).setCell _ _ (.inl (show T5 < B + 1 by have := HBz.out.2; omega)), fun j hj => .inl hj⟩, ?_⟩
        rw [HT.out, ← hu]
        exact OI.turn (W := W'.drew) ⟨HI'.out.1.drew, HI'.out.2⟩ r HR8.out u)
      by_cases hlt : (i : Int) < v
      · gi_wp2
        refine wpIn_region_still_tail0 7 (by kernel_rfl) (by kernel_rfl) (by kernel_rfl) (fun _ _ h => h) ?_
        simp only [List.take_succ_cons, List.take_zero, List.drop_succ_cons, List.drop_zero]
        repeat still_step
        try refine wpStill_nil ?_
        go_wp2
        exact hfin.out _ (by omega)
      · gi_wp2
        refine wpIn_region_still_tail0 7 (by kernel_rfl) (by kernel_rfl) (by kernel_rfl) (fun _ _ h => h) ?_
        simp only [List.take_succ_cons, List.take_zero, List.drop_succ_cons, List.drop_zero]
        repeat still_step
        try refine wpStill_nil ?_
        go_wp2
        exact hfin.out _ (by omega)
    case done2 =>
      intro W' hI' hz2
      rw [List.take_length] at hI'
      have c : Ch (fun j => j = T5) W W' := (HW.out.2.1.mono (fun _ _ h => h.elim)).trans hI'.1
      refine ⟨⟨c.mono fun j _ e => by subst e; omega, fun j hj => .inl hj⟩, ?_⟩
      show OI w6 T5 (cfK x L (k + 1)) W'
      rw [HB.out.2.2.2.2.2]
      exact ⟨HB.out.1.1.trans c, hI'.2⟩
  case done =>
    rintro W hI hD hnD hz
    rw [H6.out.2.1] at hD hnD hz
    rename_i Qp Kp hKp
    have HF := Lib.hid (And.intro hI hD)
    have HRes := Lib.hid (H6.out.2.2.2.1.keep hI.1 (fun e => by have := H6.out.2.2.2.2.2.2.1; omega))
    have HBw := Lib.hid (HBe.out W _ hI)
    clear hI hD hnD
    show Kp _ _
    refine hKp _ _ ?_
    refine wpIn_wide.2 ?_
    go_wp2_with (first
      | (refine wpList_load_row rfl 73 (.tmp 5) rfl T5 rfl 73 _ (0, 0) _ HF.out.1.2 Tryd.underlying73 rfl (tb_info _) ?_)
      | (refine wpList_store_row rfl 73 (.tmp 4) (.tmp 31) rfl (Z + 1) _ rfl rfl 73 _ HRes.out (tb_info _) rfl (tb_one _) ?_)
      | fail)
    rw [H6.out.2.1]
    have hzt := H6.out.2.2.2.2.2.2
    have hD := (ch_setRow W (Z + 1) (tb (cfK x L N))).obj HF.out.2 (by omega)
    have hc : Ch (fun j => j = T5 + 2) (W.setRow (Z + 1) (tb (cfK x L N))) ((W.setRow (Z + 1) (tb (cfK x L N))).putObj (T5 + 2) (.deferred none)) := (Ch.refl _ _).putObj _ _ rfl
    refine ⟨by simp, .inl ⟨_, _, rfl, run_takeDeferred hD, ?_⟩⟩
    refine ⟨.agg (tb (cfK x L N)), ?_, rfl, ?_⟩
    · exact results_cell_row rfl _ _ (Z + 1) 73 (tb (cfK x L N)) (0, 0) _ rfl (HRes.out.put.keep hc (fun e => by omega)) Tryd.underlying73 rfl (tb_info _)
    · have hz0 := HZ.out
      have b1 := below_row HBw.out (Nat.le_refl _) (show w.heap.size ≤ Z + 1 by omega) (tb (cfK x L N))
      exact b1.trans (hc.below (fun j hj e => by omega) b1.size)
end Go.Proofs.YtchmdnmifpjfkaaDoor
