/- The contract of digits.Pieces' closure: what stands between blanks, numbered, over whatever loop body keeps its word. -/
import Derived.Test.YtnmejabmnapmpaaDoorSeg
namespace Go.Proofs.YtnmejabmnapmpaaDoor
open Go.RowKit
attribute [local go_sem] Oper.semAt_some

def some_ (p : List UInt8) : Bool := !p.isEmpty
/-- The pieces that aren't empty; how many of them are among the first k. -/
def pcs (L : List (List UInt8)) : List (List UInt8) := L.filter some_
def cnt (L : List (List UInt8)) (k : Nat) : Nat := (pcs (L.take k)).length
theorem at_take (L : List (List UInt8)) (k : Nat) (h : k < L.length) : L.take (k + 1) = L.take k ++ [at_ L k] := by
  rw [List.take_succ_eq_append_getElem h]; simp [at_, List.getElem?_eq_getElem h]
theorem cnt_skip {L : List (List UInt8)} {k : Nat} (h : k < L.length) (he : at_ L k = []) : cnt L (k + 1) = cnt L k := by
  unfold cnt pcs; rw [at_take L k h, he]; simp [some_]
theorem cnt_hit {L : List (List UInt8)} {k : Nat} (h : k < L.length) (he : at_ L k ≠ []) : cnt L (k + 1) = cnt L k + 1 ∧ cnt L k < (pcs L).length ∧ at_ (pcs L) (cnt L k) = at_ L k := by
  have hs : some_ (at_ L k) = true := by simp [some_, he]
  have e1 : pcs (L.take (k + 1)) = pcs (L.take k) ++ [at_ L k] := by
    rw [at_take L k h]; unfold pcs; rw [List.filter_append]; simp [hs]
  have e2 : pcs L = pcs (L.take k) ++ (at_ L k :: pcs (L.drop (k + 1))) := by
    have e3 : L = (L.take k ++ [at_ L k]) ++ L.drop (k + 1) := by rw [← at_take L k h, List.take_append_drop]
    have e4 : pcs L = pcs ((L.take k ++ [at_ L k]) ++ L.drop (k + 1)) := congrArg pcs e3
    rw [e4]; unfold pcs; rw [List.filter_append, List.filter_append]; simp [hs]
  refine ⟨by unfold cnt; rw [e1]; simp, by unfold cnt; rw [e2]; simp, ?_⟩
  have e5 : (pcs L)[cnt L k]? = some (at_ L k) := by unfold cnt; rw [e2]; simp
  show (pcs L)[cnt L k]?.getD [] = _
  rw [e5]; rfl
theorem cnt_all (L : List (List UInt8)) : cnt L L.length = (pcs L).length := by unfold cnt; rw [List.take_length]
theorem cnt_le (L : List (List UInt8)) (k : Nat) : cnt L k ≤ (pcs L).length := by
  unfold cnt
  have : pcs L = pcs (L.take k) ++ pcs (L.drop k) := by unfold pcs; rw [← List.filter_append, List.take_append_drop]
  rw [this]; simp
theorem segs_short (c : UInt8) (l : List UInt8) : ∀ p ∈ segs c l, p.length ≤ l.length := by
  induction l with
  | nil => simp [segs]
  | cons x l ih =>
    intro p hp
    simp only [segs] at hp
    split at hp
    · rcases List.mem_cons.1 hp with rfl | hp
      · simp
      · have := ih p hp; simp; omega
    · split at hp
      · simp at hp; subst hp; simp
      · rename_i h t e
        rw [e] at ih
        rcases List.mem_cons.1 hp with rfl | hp
        · have := ih h (by simp); simp; omega
        · have := ih p (by simp [hp]); simp; omega
theorem segs_at (c : UInt8) (l : List UInt8) (k : Nat) : (at_ (segs c l) k).length ≤ l.length := by
  unfold at_
  cases h : (segs c l)[k]? with
  | none => simp
  | some p => exact segs_short c l p (List.mem_of_getElem? h)
theorem segs_count (c : UInt8) (l : List UInt8) : (segs c l).length ≤ l.length + 1 := by
  induction l with
  | nil => simp [segs]
  | cons x l ih =>
    simp only [segs]
    split
    · simp; omega
    · split
      · simp
      · rename_i e; rw [e] at ih; simp at ih ⊢; omega
theorem pcs_count (c : UInt8) (l : List UInt8) : (pcs (segs c l)).length ≤ l.length + 1 :=
  Nat.le_trans (List.length_filter_le _ _) (segs_count c l)

theorem splitseq_any (s p : ByteArray) (w : World) : Calls Tryd.prog 28 #[.string s, .string p] w fun e w' =>
    e = .returned (.func (.func 45) #[] #[.pointer (some ⟨w.heap.size + 1, 0, none⟩), .pointer (some ⟨w.heap.size, 0, none⟩), .pointer (some ⟨w.heap.size + 2, 0, none⟩)]) ∧
    w' = ((w.alloc (.cells #[.string s] 9)).alloc (.cells #[.string p] 9)).alloc (.cells #[.int .i64 0] 3) := by
  have hmf : ∀ (fn : Fn) (first cap : Array Value) (w : World), (Instr.makeFunc fn first cap).run Tryd.prog w = .ok (.func fn first cap) w := fun _ _ _ _ => rfl
  go_enter Tryd.func28, Tryd.ntmps28
  go_wp2
  go_ret
  exact ⟨rfl, rfl⟩

theorem one_bool {e : Ending} {p q r : Prop} (h : (e = .returned (.bool true) ∧ p ∧ r) ∨ (e = .returned (.bool false) ∧ q ∧ r)) : ∃ b : Bool, e = .returned (.bool b) ∧ r ∧ Hid (b = true ∧ p ∨ b = false ∧ q) := by
  rcases h with ⟨h, hp, hr⟩ | ⟨h, hq, hr⟩
  · exact ⟨true, h, hr, Lib.hid (.inl ⟨rfl, hp⟩)⟩
  · exact ⟨false, h, hr, Lib.hid (.inr ⟨rfl, hq⟩)⟩

set_option maxHeartbeats 4000000 in
theorem pieces_in (l Bq : Nat) (s : ByteArray) (hs : s.size ≤ 281474976710656) (T : Nat → Prop) (J Jx : Nat → World → Prop) (W : World)
    (hJ : ∀ k A B, J k A → Ch (fun j => W.heap.size ≤ j ∧ j < W.heap.size + 7) A B → J k B)
    (hJx : ∀ k A B, Jx k A → Ch (fun j => W.heap.size ≤ j ∧ j < W.heap.size + 7) A B → Jx k B)
    (hbox : W.cell? ⟨Bq, 0, none⟩ = some (.string s)) (hT : ∀ j, W.heap.size ≤ j → j < W.heap.size + 7 → ¬ T j)
    (hR : Rounds Tryd.prog l (pcs (segs 32 s.data.toList)).length (fun k => #[.int .i64 k, .string (bs (at_ (pcs (segs 32 s.data.toList)) k))]) T (W.heap.size + 7) J Jx) (h0 : J 0 W) :
    Iter Tryd.prog 27 #[.pointer (some ⟨Bq, 0, none⟩)] l (pcs (segs 32 s.data.toList)).length J Jx W := by
  have hqlt : Bq < W.heap.size := by
    obtain ⟨o, ho, _⟩ := cells_of_cell hbox
    exact (Array.getElem?_eq_some_iff.1 ho).1
  obtain ⟨L, hL⟩ : ∃ L, L = segs 32 s.data.toList := ⟨_, rfl⟩
  rw [← hL] at hR ⊢
  refine callsIn_of_wp_marks Tryd.func27 rfl trivial ?_ rfl
  simp only [Tryd.ntmps27, List.size_toArray, List.length_cons, List.length_nil, Nat.reduceAdd, Nat.reduceSub, Array.replicate_succ, Array.replicate_zero, List.push_toArray, List.append_toArray, List.nil_append, List.cons_append]
  gi_wp2_with (refine ⟨trivial, rfl, ?_⟩; gi_at_call 28; refine (callsIn_wide.2 (splitseq_any _ _ _)).mono ?_; rintro e w' ⟨rfl, rfl⟩)
  obtain ⟨B, hB⟩ : ∃ B, B = W.heap.size := ⟨_, rfl⟩
  rw [← hB] at hJ hJx hT hR hqlt ⊢
  obtain ⟨w2, hw2⟩ : ∃ w2, ((((W.alloc (Obj.cells #[Value.func (Fn.yield l) #[] #[]] 29)).alloc (Obj.cells #[Value.int IntKind.i64 0] 3)).alloc (Obj.cells #[Value.string s] 9)).alloc (Obj.cells #[Value.string ⟨#[32]⟩] 9)).alloc (Obj.cells #[Value.int IntKind.i64 0] 3) = w2 := ⟨_, rfl⟩
  have z2 : w2.heap.size = B + 5 := by rw [← hw2, hB]; simp
  have c2 : Ch (fun j => B ≤ j ∧ j < B + 7) W w2 := by rw [← hw2]; exact (((((Ch.refl _ W).alloc _).alloc _).alloc _).alloc _).alloc _
  have y2 : w2.cell? ⟨B, 0, none⟩ = some (.func (.yield l) #[] #[]) ∧ w2.frozen? ⟨B, 0, none⟩ = false := by rw [← hw2, hB]; simp [go_sem]
  have n2 : w2.cell? ⟨B + 1, 0, none⟩ = some (.int .i64 0) ∧ w2.frozen? ⟨B + 1, 0, none⟩ = false := by rw [← hw2, hB]; simp [go_sem]
  have s2 : w2.cell? ⟨B + 2, 0, none⟩ = some (.string s) ∧ w2.frozen? ⟨B + 2, 0, none⟩ = false := by rw [← hw2, hB]; simp [go_sem]
  have p2 : w2.cell? ⟨B + 3, 0, none⟩ = some (.string ⟨#[32]⟩) := by rw [← hw2, hB]; simp [go_sem]
  have o2 : w2.cell? ⟨B + 4, 0, none⟩ = some (.int .i64 0) := by rw [← hw2, hB]; simp [go_sem]
  rw [hw2]
  clear hw2
  have HB := Lib.hid hB
  have HL := Lib.hid hL
  clear hB hL
  have hTb : ∀ k, T k ∨ k = B + 1 → k ≠ w2.heap.size ∧ k ≠ w2.heap.size + 1 := by
    rw [z2]
    rintro k (hk | rfl)
    · exact ⟨fun e => hT k (by omega) (by omega) hk, fun e => hT k (by omega) (by omega) hk⟩
    · omega
  refine wpIn_range (gf := 45) (lb := #[.pointer (some ⟨B + 3, 0, none⟩), .pointer (some ⟨B + 2, 0, none⟩), .pointer (some ⟨B + 4, 0, none⟩)]) rfl (enters_of Tryd.func45 (by kernel_rfl) rfl)
    L.length (fun k => #[.string (bs (at_ L k))]) (fun _ => rfl) (fun j => T j ∨ j = B + 1) (fun j => j = B + 2) 0
    hTb (by rw [z2]; rintro k rfl; omega)
    (fun k A => J (cnt L k) A ∧ A.cell? ⟨B, 0, none⟩ = some (.func (.yield l) #[] #[]) ∧ A.cell? ⟨B + 1, 0, none⟩ = some (.int .i64 (cnt L k)) ∧ A.frozen? ⟨B + 1, 0, none⟩ = false ∧ A.cell? ⟨B + 3, 0, none⟩ = some (.string ⟨#[32]⟩) ∧ A.cell? ⟨B + 4, 0, none⟩ = some (.int .i64 0))
    (fun c _ A => c = .ret ∧ ∃ m, m ≤ (pcs L).length ∧ Jx m A)
    ?hI ?hIx ⟨hJ _ _ _ h0 c2, y2.1, n2.1, n2.2, p2, o2⟩
    (fun k a' _ => a' = { tmps := #[.func (.yield l) #[] #[], .pointer (some ⟨Bq, 0, none⟩), .pointer (some ⟨B, 0, none⟩), .pointer (some ⟨B + 1, 0, none⟩), .string (bs (at_ L k)), .string s,
      .func (.func 45) #[] #[.pointer (some ⟨B + 3, 0, none⟩), .pointer (some ⟨B + 2, 0, none⟩), .pointer (some ⟨B + 4, 0, none⟩)], .string (bs (at_ L k)), undef, undef, undef, undef, undef, undef, undef, undef, undef, undef], defers := [] })
    (fun _ _ _ _ h _ => h) ?hit ?assign ?body ?done ?stop
  case hI =>
    rintro k A A' ⟨h1, h2, h3, h4, h5, h6⟩ hc
    rw [z2] at hc
    exact ⟨hJ _ _ _ h1 (hc.mono (by intro j _ h; omega)), hc.cell h2 (by simp only; omega), hc.cell h3 (by simp only; omega), (hc.frozenCell h3 (by simp only; omega)).trans h4, hc.cell h5 (by simp only; omega), hc.cell h6 (by simp only; omega)⟩
  case hIx =>
    rintro c k A A' ⟨rfl, m, hm, hx⟩ hc
    rw [z2] at hc
    exact ⟨rfl, m, hm, hJx _ _ _ hx (hc.mono (by intro j _ h; omega))⟩
  case hit =>
    intro J' Jx' W1 h1 h2 h3 h4 h5 h6 h7 h8
    rw [z2] at h1 h2 h7 ⊢
    have e1 : W1.cell? ⟨B + 2, 0, none⟩ = some (.string s) := (h2.cell (p := ⟨B + 2, 0, none⟩) (by simp only; omega)).trans s2.1
    have e2 : W1.frozen? ⟨B + 2, 0, none⟩ = false := (h2.frozen (p := ⟨B + 2, 0, none⟩) (by simp only; omega)).trans s2.2
    have hn : ¬ ((T (B + 2) ∨ B + 2 = B + 1) ∨ B + 2 = B + 5 + 1) := by
      rintro ((h | h) | h)
      · exact hT _ (by omega) (by omega) h
      · omega
      · omega
    have hL := HL.out
    subst hL
    exact split_in _ (B + 2) (B + 3) (B + 4) s (by omega) _ J' Jx' W1 (by omega) (by omega) (fun k W' h => (h3 k W' h).2.2.2.2.1) (fun k W' h => (h3 k W' h).2.2.2.2.2) h5 hn e1 e2 h7 h8
  case assign =>
    intro k A K hi hk hK
    gi_wp2
    exact hK _ _ rfl (Ch.refl _ _) hi
  case body =>
    rintro k a' A ⟨h1, h2, h3, h4, h5, h6⟩ hk rfl hz -
    have ht := hT
    have HT := Lib.hid hT
    have HJ := Lib.hid hJ
    have HJx := Lib.hid hJx
    clear hT hJ hJx ht hTb
    by_cases he : at_ L k = []
    · have hc := cnt_skip hk he
      have hbe : bs (at_ L k) = ⟨#[]⟩ := by rw [he]; rfl
      rw [hbe]
      have HC := Lib.hid hc
      clear hc hbe he
      gi_wp2
      exact ⟨Ch.refl _ _, by rw [HC.out]; exact h1, h2, by rw [HC.out]; exact h3, h4, h5, h6⟩
    · obtain ⟨c1, c2', c3⟩ := cnt_hit hk he
      obtain ⟨m, hm⟩ : ∃ m, m = cnt L k := ⟨_, rfl⟩
      obtain ⟨P, hP⟩ : ∃ P, P = bs (at_ L k) := ⟨_, rfl⟩
      have hne1 : P.toList.isEmpty = false := by rw [hP, ByteArray.toList_eq, bs_list]; simpa using he
      have hne2 : (P.toList == []) = false := by rw [hP, ByteArray.toList_eq, bs_list]; simpa using he
      have hsz : P.size ≤ 281474976710656 := by
        have h1 : (at_ L k).length ≤ s.data.toList.length := by rw [HL.out]; exact segs_at 32 _ k
        have h2 : P.size = (at_ L k).length := by rw [hP]; simp [bs, ByteArray.size]
        have h3 : s.data.toList.length = s.size := by simp
        omega
      rw [← hm] at h1 h3 c1 c2' c3
      rw [← hP]
      have hAft : ∀ w3, Below A.heap.size A.drew w3 → J m w3 ∧ w3.cell? ⟨B, 0, none⟩ = some (.func (.yield l) #[] #[]) ∧ w3.cell? ⟨B + 1, 0, none⟩ = some (.int .i64 m) ∧ w3.frozen? ⟨B + 1, 0, none⟩ = false ∧ w3.cell? ⟨B + 3, 0, none⟩ = some (.string ⟨#[32]⟩) ∧ w3.cell? ⟨B + 4, 0, none⟩ = some (.int .i64 0) ∧ Ch (fun _ => False) A w3 := by
        intro w3 hb3
        have hc : Ch (fun _ => False) A w3 := ((Ch.refl _ A).drew).trans (Ch.new hb3)
        exact ⟨HJ.out _ _ _ h1 (hc.mono (fun _ _ h => h.elim)), hc.cell h2 (fun h => h), hc.cell h3 (fun h => h), (hc.frozenCell h3 (fun h => h)).trans h4, hc.cell h5 (fun h => h), hc.cell h6 (fun h => h), hc⟩
      have HA := Lib.hid hAft
      have HC := Lib.hid (And.intro c1 c3)
      have HM := Lib.hid (And.intro hm hP)
      clear hAft c1 c3 hm hP he
      have mixed : Tryd.prog.follows .mixedOrders = true := by kernel_rfl
      gi_wp2
      gi_region_with_o (first
        | (refine ⟨trivial, rfl, ?_⟩; gi_at_call 29; refine (CallsIn.inRound _ (callsIn_wide.2 (clone_any _ _ hsz))).mono ?_; rintro e w3 ⟨rfl, hb3⟩; obtain ⟨g1, g2, g3, g4, g5, g6, g7⟩ := HA.out w3 hb3; obtain ⟨fn, tmps, assign, body, hy, hRo⟩ := hR m w3 g1 c2' (by have := g7.size; omega); dsimp only at hy; rw [HC.out.2, ← HM.out.2] at hy)
        | (refine ⟨rfl, hRo.mono ?_⟩; rintro e W3 hpost; obtain ⟨bb, rfl, hc3, hor⟩ := one_bool hpost))
      all_goals
        have nT : ∀ j, B ≤ j → j < B + 7 → ¬ T j := HT.out
        have q2 := hc3.cell g2 (nT B (by omega) (by omega))
        have q3 := hc3.cell g3 (nT (B + 1) (by omega) (by omega))
        have q4 := (hc3.frozenCell g3 (nT (B + 1) (by omega) (by omega))).trans g4
        have q5 := hc3.cell g5 (nT (B + 3) (by omega) (by omega))
        have q6 := hc3.cell g6 (nT (B + 4) (by omega) (by omega))
        have q7 : Ch (fun j => T j ∨ j = B + 1) A W3 := (g7.mono (fun _ _ h => h.elim)).trans (hc3.mono (fun _ _ h => .inl h))
        have hmm : (m : Int) ≤ 9223372036854775806 := by
          have h9 := pcs_count 32 s.data.toList
          have h8 : s.data.toList.length = s.size := by simp
          rw [← HL.out] at h9
          omega
        clear nT hc3 h1 h2 h3 h4 h5 h6 g1 g2 g3 g4 g5 g6 g7 hy hb3 mixed hne1 hne2
        rcases hor.out with ⟨rfl, hJ3⟩ | ⟨rfl, hJx3⟩
        · clear hor
          have HJ3 := Lib.hid hJ3
          have HQ := Lib.hid q7
          clear hJ3 q7
          gi_wp2
          have hs1 : Ch (fun j => B ≤ j ∧ j < B + 7) W3 (W3.setCell ⟨B + 1, 0, none⟩ (.int .i64 ((m : Int) + 1))) := (Ch.refl _ _).setCell _ _ (.inl ⟨by simp, by simp⟩)
          have hs2 : Ch (fun j => T j ∨ j = B + 1) W3 (W3.setCell ⟨B + 1, 0, none⟩ (.int .i64 ((m : Int) + 1))) := (Ch.refl _ _).setCell _ _ (.inl (.inr rfl))
          refine ⟨HQ.out.trans hs2, ?_⟩
          dsimp only
          rw [HC.out.1]
          exact ⟨HJ.out _ _ _ HJ3.out hs1, by simp [go_sem, q2], by simp [go_sem, q3], by simp [go_sem, q4], by simp [go_sem, q5], by simp [go_sem, q6]⟩
        · clear hor
          have HJ3 := Lib.hid hJx3
          have HQ := Lib.hid q7
          clear hJx3 q7
          gi_wp2
          exact ⟨HQ.out, rfl, m + 1, c2', HJ3.out⟩
  case done =>
    rintro A ⟨h1, h2, h3, h4, h5, h6⟩ hD
    rw [cnt_all] at h1
    rw [z2] at hD
    gi_wp2
    rw [z2]
    refine ⟨by simp, .inl ⟨_, _, rfl, run_takeDeferred hD, ?_⟩⟩
    exact ⟨_, results_none rfl _ _ _, ⟨_, rfl⟩, .inl (hJ _ _ _ h1 ((Ch.refl _ _).putObj _ _ (by omega)))⟩
  case stop =>
    rintro c k A hk ⟨rfl, m, hm, hx⟩ hD
    rw [z2] at hD
    gi_wp2
    rw [z2]
    refine ⟨by simp, .inl ⟨_, _, rfl, run_takeDeferred hD, ?_⟩⟩
    exact ⟨_, results_none rfl _ _ _, ⟨_, rfl⟩, .inr ⟨m, hm, hJx _ _ _ hx ((Ch.refl _ _).putObj _ _ (by omega))⟩⟩

end Go.Proofs.YtnmejabmnapmpaaDoor
