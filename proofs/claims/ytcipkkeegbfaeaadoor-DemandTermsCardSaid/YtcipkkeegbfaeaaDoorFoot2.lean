/- The law of text Foot on a range over a function, where the loop's own variables are boxed: what a round assigns lies behind the loop's record. No statement about the program. -/
import Derived.Test.YtcipkkeegbfaeaaDoorFoot
namespace Go.Proofs.YtcipkkeegbfaeaaDoor
open Go.RowKit
variable {P : Program}

/-- THE LOOP: the rounds' invariant I (and Ix, where a round has left by a jump) lies within the footprint F; all else the iterator may turn. -/
theorem wpIn_rangeF2 {g : Operand} {ps : Array Tmp} {assign body : Code} {Q : Exit → Act → World → Prop} {a : Act} {w : World}
    {gf : Nat} {lb : Array Value} (hg : a.eval g = .func (.func gf) #[] lb) (eg : ∀ args w, (callFunc gf args).run P w = .ok (.enter gf args) w)
    (N : Nat) (args : Nat → Array Value) (hps : ∀ k, (args k).size = ps.size) (F : World → Nat → Prop)
    (I : Nat → World → Prop) (Ix : Code → Nat → World → Prop) (fI : ∀ k, Foot F (I k)) (fX : ∀ c k, Foot F (Ix c k))
    (h0 : I 0 w) (Ax : Nat → Act → World → Prop)
    (hAx : ∀ k a' W W', Ax k a' W → Ch (fun j => j = w.heap.size + 1) W W' → Ax k a' W')
    (hit : ∀ J Jx W1, w.heap.size + 2 = W1.heap.size → Below w.heap.size w W1 →
      (∀ k W, J k W → I k W ∧ w.heap.size + 2 ≤ W.heap.size) → (∀ k W, Jx k W → (∃ c, Ix c k W) ∧ w.heap.size + 2 ≤ W.heap.size) →
      (∀ k, Foot (fun W j => F W j ∨ j = w.heap.size ∨ j = w.heap.size + 1) (J k)) → (∀ k, Foot (fun W j => F W j ∨ j = w.heap.size ∨ j = w.heap.size + 1) (Jx k)) →
      RoundsF P (w.heap.size + 1) N args (fun W j => F W j ∨ j = w.heap.size ∨ j = w.heap.size + 1) J Jx → J 0 W1 →
      Iter P gf lb (w.heap.size + 1) N J Jx W1)
    (hassign : ∀ k W (K : Act → World → Prop), I k W → k < N → w.heap.size + 2 ≤ W.heap.size → (∀ a' W', Ax k a' W' → Ch (fun _ => False) W W' → I k W' → (∀ j, F W' j → F W j) → K a' W') →
      assign.wpIn (Fence.wide.inRound (w.heap.size + 1)) 0 P (Exit.then K (fun _ _ _ => False)) { tmps := (ps.zip (args k)).foldl (fun t (p, v) => t.setIfInBounds p v) a.tmps, defers := [] } W)
    (hbody : ∀ k a' W, I k W → k < N → Ax k a' W → w.heap.size + 2 ≤ W.heap.size → body.wpIn (Fence.wide.inRound (w.heap.size + 1)) 0 P (roundEndF F I Ix (k + 1) W) a' W)
    (hdone : ∀ W, I N W → W.heap[w.heap.size]? = some (.deferred (some [])) → ¬ F W w.heap.size → w.heap.size + 2 ≤ W.heap.size → Q .normal { a with defers := { target := .collected w.heap.size, args := #[] } :: a.defers } W)
    (hstop : ∀ c k W, k ≤ N → Ix c k W → W.heap[w.heap.size]? = some (.deferred (some [])) → ¬ F W w.heap.size → w.heap.size + 2 ≤ W.heap.size → c.wpIn Fence.wide 0 P Q { a with defers := { target := .collected w.heap.size, args := #[] } :: a.defers } W) :
    (Code.rangeFunc g ps assign body).wpIn Fence.wide 0 P Q a w := by
  refine wpIn_rangeFunc fun fn hfn => ?_
  let mk : LoopState → Option Code → Obj := fun st pe => .loop { state := st, pending := pe, fn, tmps := a.tmps, params := ps, assign, body, defers := w.heap.size }
  let D := w.heap.size
  let l := w.heap.size + 1
  let FJ : World → Nat → Prop := fun W j => F W j ∨ j = D ∨ j = l
  let W1 := (w.alloc (.deferred (some []))).alloc (mk .ready none)
  have z1 : W1.heap.size = w.heap.size + 2 := by simp [W1]
  have l1 : W1.heap[l]? = some (mk .ready none) := by
    have := World.alloc_heap_new (w.alloc (.deferred (some []))) (mk .ready none); rwa [World.size_alloc] at this
  have d1 : W1.heap[D]? = some (.deferred (some [])) := by
    rw [Below.heap_alloc _ _ _ (by simp [D])]; exact World.alloc_heap_new w _
  have c1 : Ch (fun _ => False) w W1 := ((Ch.refl _ w).alloc _).alloc _
  have nl : ∀ {T : Nat → Prop} {W W' : World} {o : Obj} {j : Nat}, Ch T W W' → ¬ T j → W.heap[j]? = some o → W'.heap[j]? = some o := fun c ht h => c.obj h ht
  have i1 := (fI 0).keep w W1 h0 (Off.nothing c1)
  have n1 : ¬ F W1 l ∧ ¬ F W1 D := ⟨fun h => by have := (fI 0).lt w h0 _ (i1.2 _ h); simp [l] at this; omega, fun h => by have := (fI 0).lt w h0 _ (i1.2 _ h); simp [D] at this⟩
  have hDl : ¬ D = l := by simp [D, l]
  refine ⟨l, [{ target := .collected D, args := #[] }], W1, { target := .fn (.func gf) lb, args := #[.func (.yield l) #[] #[]] }, W1, gf, #[.func (.yield l) #[] #[]] ++ lb, W1,
    run_enterLoop_outer _ _ _ _ _, ?_, fun _ _ => trivial, ?_, fun h => absurd h (by simp [Fence.wide]), ?_⟩
  · simp only [resolve, hg]; simp [go_sem]
  · simp [invoke, go_sem, eg]
  let J : Nat → World → Prop := fun k W => I k W ∧ W.heap[l]? = some (mk .ready none) ∧ W.heap[D]? = some (.deferred (some [])) ∧ w.heap.size + 2 ≤ W.heap.size ∧ ¬ F W l ∧ ¬ F W D
  let Jx : Nat → World → Prop := fun k W => ∃ c, Ix c k W ∧ W.heap[l]? = some (mk .done (some c)) ∧ W.heap[D]? = some (.deferred (some [])) ∧ w.heap.size + 2 ≤ W.heap.size ∧ ¬ F W l ∧ ¬ F W D
  have offJ : ∀ {W W' : World}, Off FJ W W' → Off F W W' := fun h => Ch.mono h fun j _ hn hf => hn (.inl hf)
  have fJ : ∀ k, Foot FJ (J k) := fun k => ⟨fun W h j hj => by
      rcases hj with hj | rfl | rfl
      · exact (fI k).lt W h.1 j hj
      · have := h.2.2.2.1; simp only [D]; omega
      · have := h.2.2.2.1; simp only [l]; omega,
    fun W W' h hc => by
      have hi := (fI k).keep W W' h.1 (offJ hc)
      refine ⟨⟨hi.1, nl hc (fun h => h (.inr (.inr rfl))) h.2.1, nl hc (fun h => h (.inr (.inl rfl))) h.2.2.1, Nat.le_trans h.2.2.2.1 hc.size, fun hf => h.2.2.2.2.1 (hi.2 _ hf), fun hf => h.2.2.2.2.2 (hi.2 _ hf)⟩, fun j hj => ?_⟩
      rcases hj with hj | hj
      · exact .inl (hi.2 j hj)
      · exact .inr hj⟩
  have fJx : ∀ k, Foot FJ (Jx k) := fun k => ⟨fun W ⟨c, h⟩ j hj => by
      rcases hj with hj | rfl | rfl
      · exact (fX c k).lt W h.1 j hj
      · have := h.2.2.2.1; simp only [D]; omega
      · have := h.2.2.2.1; simp only [l]; omega,
    fun W W' ⟨c, h⟩ hc => by
      have hi := (fX c k).keep W W' h.1 (offJ hc)
      refine ⟨⟨c, hi.1, nl hc (fun h => h (.inr (.inr rfl))) h.2.1, nl hc (fun h => h (.inr (.inl rfl))) h.2.2.1, Nat.le_trans h.2.2.2.1 hc.size, fun hf => h.2.2.2.2.1 (hi.2 _ hf), fun hf => h.2.2.2.2.2 (hi.2 _ hf)⟩, fun j hj => ?_⟩
      rcases hj with hj | hj
      · exact .inl (hi.2 j hj)
      · exact .inr hj⟩
  have put : ∀ (W : World) (o : Obj), Ch (fun j => j = l) W (W.putObj l o) := fun W o => (Ch.refl _ W).putObj _ _ rfl
  have offput : ∀ {W : World} {o : Obj}, ¬ F W l → Off F W (W.putObj l o) := fun h => Off.of (put _ _) fun j hj => by subst hj; exact h
  refine (hit J Jx W1 z1.symm (((Below.refl _ w).alloc (Nat.le_refl _) _).alloc (by simp) _) (fun _ _ h => ⟨h.1, h.2.2.2.1⟩) (fun _ _ ⟨c, h⟩ => ⟨⟨c, h.1⟩, h.2.2.2.1⟩)
    fJ fJx ?_ ⟨i1.1, l1, d1, by omega, n1⟩).mono ?_
  · rintro k W ⟨hi, hl, hd, hz, hnl, hnD⟩ hk
    refine ⟨fn, _, assign, body, run_yield hl (hps k), roundIn_of_wpIn hfn (hassign k W _ hi hk hz fun a' W2 ha c2 hi2 hf2 => ?_)⟩
    have hl2 := nl c2 (fun h => h) hl
    refine ⟨_, run_beginRound hl2 rfl, ?_⟩
    have hnl2 : ¬ F W2 l := fun h => hnl (hf2 _ h)
    have cb := put W2 (mk .busy none)
    have hlb : (W2.putObj l (mk .busy none)).heap[l]? = some (mk .busy none) := World.putObj_heap_same (Array.getElem?_eq_some_iff.1 hl2).1
    have hdb := nl cb (fun h : D = l => hDl h) (nl c2 (fun h => h) hd)
    have ib := (fI k).keep W2 (W2.putObj l (mk .busy none)) hi2 (offput hnl2)
    have hnlb : ¬ F (W2.putObj l (mk .busy none)) l := fun h => hnl2 (ib.2 _ h)
    have hnDb : ¬ F (W2.putObj l (mk .busy none)) D := fun h => hnD (hf2 _ (ib.2 _ h))
    have zb : w.heap.size + 2 ≤ (W2.putObj l (mk .busy none)).heap.size := Nat.le_trans (Nat.le_trans hz c2.size) cb.size
    have cWb : Ch (fun j => FJ W j) W (W2.putObj l (mk .busy none)) := (c2.mono fun _ _ h => h.elim).trans (cb.mono fun j _ hj => .inr (.inr hj))
    have fWb : ∀ j, F (W2.putObj l (mk .busy none)) j → F W j := fun j h => hf2 _ (ib.2 _ h)
    refine wpIn_mono (hbody k a' _ ib.1 hk (hAx _ _ _ _ ha cb) zb) ?_
    have fin : ∀ (jump : Option Code) (W3 : World), Step F (W2.putObj l (mk .busy none)) W3 →
        ∃ W4, (Instr.endRound l jump).run P W3 = .ok (.bool jump.isNone) W4 ∧ Ch (fun j => j = l) W3 W4 ∧ Off F W3 W4 ∧ ¬ F W3 l ∧ ¬ F W3 D ∧
          W4.heap[l]? = some (mk (if jump.isNone then .ready else .done) jump) ∧ W4.heap[D]? = some (.deferred (some [])) ∧ Ch (FJ W) W W4 ∧ w.heap.size + 2 ≤ W4.heap.size ∧ (∀ j, F W3 j → F W j ∨ W.heap.size ≤ j) := fun jump W3 s3 => by
      have hn3 := s3.no hnlb (by omega)
      have hD3 := s3.no hnDb (by omega)
      have hl3 := nl s3.1 hnlb hlb
      have c4 := put W3 (mk (if jump.isNone then .ready else .done) jump)
      refine ⟨_, run_endRound jump hl3, c4, offput hn3, hn3, hD3, World.putObj_heap_same (Array.getElem?_eq_some_iff.1 hl3).1, nl c4 (fun h : D = l => hDl h) (nl s3.1 hnDb hdb), ?_, ?_, ?_⟩
      · refine (((cWb.mono (T' := fun j => FJ W j ∨ W.heap.size ≤ j) fun _ _ h => .inl h).trans (s3.1.mono fun j _ hj => .inl (.inl (fWb j hj)))).trans (c4.mono fun j _ hj => .inl (.inr (.inr hj)))).mono fun j hj h => ?_
        rcases h with h | h
        · exact h
        · omega
      · exact Nat.le_trans zb (Nat.le_trans s3.1.size c4.size)
      · intro j hj
        rcases s3.2 j hj with h | h
        · exact .inl (fWb j h)
        · exact .inr (Nat.le_trans cWb.size h)
    have stp : ∀ {W3 W4 : World}, Ch (FJ W) W W4 → (∀ j, F W4 j → F W3 j) → (∀ j, F W3 j → F W j ∨ W.heap.size ≤ j) → Step FJ W W4 := fun c h4 h3 => ⟨c, fun j hj => by
      rcases hj with hj | hj
      · rcases h3 _ (h4 _ hj) with h | h
        · exact .inl (.inl h)
        · exact .inr h
      · exact .inl (.inr hj)⟩
    have left : ∀ (c : Code) (a3 : Act) (W3 : World), Step F (W2.putObj l (mk .busy none)) W3 → Ix c (k + 1) W3 → ∃ W4, (Instr.endRound l (some c)).run P W3 = .ok (.bool false) W4 ∧ Jx (k + 1) W4 ∧ Step FJ W W4 := fun c a3 W3 s3 hx => by
      obtain ⟨W4, hr, c4, o4, hn3, hD3, hl4, hd4, call, z4, f3⟩ := fin (some c) W3 s3
      have i4 := (fX c (k + 1)).keep W3 W4 hx o4
      exact ⟨W4, hr, ⟨c, i4.1, hl4, hd4, z4, fun h => hn3 (i4.2 _ h), fun h => hD3 (i4.2 _ h)⟩, stp call i4.2 f3⟩
    rintro e a3 W3 hp
    cases e with
    | normal =>
      obtain ⟨W4, hr, c4, o4, hn3, hD3, hl4, hd4, call, z4, f3⟩ := fin none W3 hp.1
      have i4 := (fI (k + 1)).keep W3 W4 hp.2 o4
      exact ⟨_, _, hr, .inl ⟨rfl, ⟨i4.1, hl4, hd4, z4, fun h => hn3 (i4.2 _ h), fun h => hD3 (i4.2 _ h)⟩, stp call i4.2 f3⟩⟩
    | ret =>
      obtain ⟨W4, hr, hx, hs⟩ := left .ret a3 W3 hp.1 hp.2
      exact ⟨_, _, hr, .inr ⟨rfl, hx, hs⟩⟩
    | exit id =>
      obtain ⟨W4, hr, hx, hs⟩ := left (.exit id) a3 W3 hp.1 hp.2
      exact ⟨_, _, hr, .inr ⟨rfl, hx, hs⟩⟩
    | goto t =>
      obtain ⟨W4, hr, hx, hs⟩ := left (.goto t) a3 W3 hp.1 hp.2
      exact ⟨_, _, hr, .inr ⟨rfl, hx, hs⟩⟩
    | panic ch => exact hp.elim
    | outgrown => exact hp.elim
  · rintro e W2 ⟨⟨v, rfl⟩, (⟨hi, hl, hd, hz, hnl, hnD⟩ | ⟨k, hk, c, hi, hl, hd, hz, hnl, hnD⟩)⟩
    · exact ⟨none, _, run_endLoop hl (by simp), hdone _ ((fI N).keep W2 _ hi (offput hnl)).1 (nl (put _ _) (fun h : D = l => hDl h) hd) (fun h => hnD (((fI N).keep W2 _ hi (offput hnl)).2 _ h)) (by rw [World.putObj_size]; exact hz)⟩
    · exact ⟨some c, _, run_endLoop hl (by simp), hstop c k _ hk ((fX c k).keep W2 _ hi (offput hnl)).1 (nl (put _ _) (fun h : D = l => hDl h) hd) (fun h => hnD (((fX c k).keep W2 _ hi (offput hnl)).2 _ h)) (by rw [World.putObj_size]; exact hz)⟩

end Go.Proofs.YtcipkkeegbfaeaaDoor
