/- The contract of digits.Lines' closure: the lines of a text, numbered from 1 on, over whatever loop body keeps its word. -/
import Derived.Test.YtnmejabmnapmpaaDoorLns
namespace Go.Proofs.YtnmejabmnapmpaaDoor
open Go.RowKit
attribute [local go_sem] Oper.semAt_some

set_option maxHeartbeats 4000000 in
theorem lines_in (l Bq : Nat) (s : ByteArray) (hs : s.size ≤ 281474976710656) (T : Nat → Prop) (J Jx : Nat → World → Prop) (W : World)
    (hJ : ∀ k A B, J k A → Ch (fun j => W.heap.size ≤ j ∧ j < W.heap.size + 5) A B → J k B)
    (hJx : ∀ k A B, Jx k A → Ch (fun j => W.heap.size ≤ j ∧ j < W.heap.size + 5) A B → Jx k B)
    (hbox : W.cell? ⟨Bq, 0, none⟩ = some (.string s)) (hT : ∀ j, W.heap.size ≤ j → j < W.heap.size + 5 → ¬ T j)
    (hR : Rounds Tryd.prog l (lin s.data.toList).length (fun k => #[.int .i64 ((k : Int) + 1), .string (bs (at_ (lin s.data.toList) k))]) T (W.heap.size + 5) J Jx) (h0 : J 0 W) :
    Iter Tryd.prog 30 #[.pointer (some ⟨Bq, 0, none⟩)] l (lin s.data.toList).length J Jx W := by
  have hqlt : Bq < W.heap.size := by
    obtain ⟨o, ho, _⟩ := cells_of_cell hbox
    exact (Array.getElem?_eq_some_iff.1 ho).1
  obtain ⟨M, hM⟩ : ∃ M, M = lin s.data.toList := ⟨_, rfl⟩
  obtain ⟨L, hL⟩ : ∃ L, L = lns s.data.toList := ⟨_, rfl⟩
  have hML : M.length = L.length := by rw [hM, hL, lin_len]
  have hat : ∀ k, k < L.length → at_ M k = cut35 (trimNl (at_ L k)) := by intro k hk; rw [hM, hL]; exact lin_at _ k (by rw [← hL]; exact hk)
  rw [← hM] at hR ⊢
  rw [hML] at hR ⊢
  have HAT := Lib.hid hat
  have hLs : ∀ k, (at_ L k).length ≤ s.size := by
    intro k
    rw [hL]
    have := lns_at s.data.toList k
    simpa using this
  have HLS := Lib.hid hLs
  have hLc : L.length ≤ s.size := by
    rw [hL]
    have := lns_count s.data.toList
    simpa using this
  have HL := Lib.hid hL
  clear hM hat hLs hML hL
  refine callsIn_of_wp_marks Tryd.func30 rfl trivial ?_ rfl
  simp only [Tryd.ntmps30, List.size_toArray, List.length_cons, List.length_nil, Nat.reduceAdd, Nat.reduceSub, Array.replicate_succ, Array.replicate_zero, List.push_toArray, List.append_toArray, List.nil_append, List.cons_append]
  gi_wp2_with (refine ⟨trivial, rfl, ?_⟩; gi_at_call 31; refine (callsIn_wide.2 (slines_any _ _)).mono ?_; rintro e w' ⟨rfl, rfl⟩)
  obtain ⟨B, hB⟩ : ∃ B, B = W.heap.size := ⟨_, rfl⟩
  rw [← hB] at hJ hJx hT hR hqlt ⊢
  obtain ⟨w2, hw2⟩ : ∃ w2, ((W.alloc (Obj.cells #[Value.func (Fn.yield l) #[] #[]] 29)).alloc (Obj.cells #[Value.int IntKind.i64 0] 3)).alloc (Obj.cells #[Value.string s] 9) = w2 := ⟨_, rfl⟩
  have z2 : w2.heap.size = B + 3 := by rw [← hw2, hB]; simp
  have c2 : Ch (fun j => B ≤ j ∧ j < B + 5) W w2 := by rw [← hw2]; exact (((Ch.refl _ W).alloc _).alloc _).alloc _
  have y2 : w2.cell? ⟨B, 0, none⟩ = some (.func (.yield l) #[] #[]) ∧ w2.frozen? ⟨B, 0, none⟩ = false := by rw [← hw2, hB]; simp [go_sem]
  have n2 : w2.cell? ⟨B + 1, 0, none⟩ = some (.int .i64 0) ∧ w2.frozen? ⟨B + 1, 0, none⟩ = false := by rw [← hw2, hB]; simp [go_sem]
  have s2 : w2.cell? ⟨B + 2, 0, none⟩ = some (.string s) ∧ w2.frozen? ⟨B + 2, 0, none⟩ = false := by rw [← hw2, hB]; simp [go_sem]
  rw [hw2]
  clear hw2
  have HB := Lib.hid hB
  clear hB
  have hTb : ∀ k, T k ∨ k = B + 1 → k ≠ w2.heap.size ∧ k ≠ w2.heap.size + 1 := by
    rw [z2]
    rintro k (hk | rfl)
    · exact ⟨fun e => hT k (by omega) (by omega) hk, fun e => hT k (by omega) (by omega) hk⟩
    · omega
  refine wpIn_range (gf := 37) (lb := #[.pointer (some ⟨B + 2, 0, none⟩)]) rfl (enters_of Tryd.func37 (by kernel_rfl) rfl)
    L.length (fun k => #[.string (bs (at_ L k))]) (fun _ => rfl) (fun j => T j ∨ j = B + 1) (fun j => j = B + 2) 0
    hTb (by rw [z2]; rintro k rfl; omega)
    (fun k A => J k A ∧ A.cell? ⟨B, 0, none⟩ = some (.func (.yield l) #[] #[]) ∧ A.cell? ⟨B + 1, 0, none⟩ = some (.int .i64 (k : Int)) ∧ A.frozen? ⟨B + 1, 0, none⟩ = false)
    (fun c _ A => c = .ret ∧ ∃ m, m ≤ L.length ∧ Jx m A)
    ?hI ?hIx ⟨hJ _ _ _ h0 c2, y2.1, n2.1, n2.2⟩
    (fun k a' _ => a' = { tmps := #[.func (.yield l) #[] #[], .pointer (some ⟨Bq, 0, none⟩), .pointer (some ⟨B, 0, none⟩), .pointer (some ⟨B + 1, 0, none⟩), .string (bs (at_ L k)), .string s,
      .func (.func 37) #[] #[.pointer (some ⟨B + 2, 0, none⟩)], .string (bs (at_ L k)), undef, undef, undef, undef, undef, undef, undef, undef, undef, undef, undef, undef, undef, undef, undef], defers := [] })
    (fun _ _ _ _ h _ => h) ?hit ?assign ?body ?done ?stop
  case hI =>
    rintro k A A' ⟨h1, h2, h3, h4⟩ hc
    rw [z2] at hc
    exact ⟨hJ _ _ _ h1 (hc.mono (by intro j _ h; omega)), hc.cell h2 (by simp only; omega), hc.cell h3 (by simp only; omega), (hc.frozenCell h3 (by simp only; omega)).trans h4⟩
  case hIx =>
    rintro c k A A' ⟨rfl, m, hm, hx⟩ hc
    rw [z2] at hc
    exact ⟨rfl, m, hm, hJx _ _ _ hx (hc.mono (by intro j _ h; omega))⟩
  case hit =>
    intro J' Jx' W1 h1 h2 h3 h4 h5 h6 h7 h8
    rw [z2] at h1 h2 h7 ⊢
    have e1 : W1.cell? ⟨B + 2, 0, none⟩ = some (.string s) := (h2.cell (p := ⟨B + 2, 0, none⟩) (by simp only; omega)).trans s2.1
    have e2 : W1.frozen? ⟨B + 2, 0, none⟩ = false := (h2.frozen (p := ⟨B + 2, 0, none⟩) (by simp only; omega)).trans s2.2
    have hn : ¬ ((T (B + 2) ∨ B + 2 = B + 1) ∨ B + 2 = B + 3 + 1) := by
      rintro ((h | h) | h)
      · exact hT _ (by omega) (by omega) h
      · omega
      · omega
    have hL := HL.out
    subst hL
    exact slines_in _ (B + 2) s (by omega) _ J' Jx' W1 h5 hn e1 e2 h7 h8
  case assign =>
    intro k A K hi hk hK
    gi_wp2
    exact hK _ _ rfl (Ch.refl _ _) hi
  case body =>
    rintro k a' A ⟨h1, h2, h3, h4⟩ hk rfl hz -
    have HT := Lib.hid hT
    have HJ := Lib.hid hJ
    have HJx := Lib.hid hJx
    clear hT hJ hJx hTb
    obtain ⟨P0, hP0⟩ : ∃ P0, P0 = bs (at_ L k) := ⟨_, rfl⟩
    obtain ⟨Q, hQ⟩ : ∃ Q, Q = bs (trimNl (at_ L k)) := ⟨_, rfl⟩
    obtain ⟨P, hP⟩ : ∃ P, P = bs (at_ M k) := ⟨_, rfl⟩
    have hl0 := HLS.out k
    have hl1 := trimNl_len (at_ L k)
    have hl2 := cut35_len (trimNl (at_ L k))
    have z0 : P0.size = (at_ L k).length := by rw [hP0]; simp [bs, ByteArray.size]
    have z1 : Q.size = (trimNl (at_ L k)).length := by rw [hQ]; simp [bs, ByteArray.size]
    have z3 : P.size = (cut35 (trimNl (at_ L k))).length := by rw [hP, HAT.out k hk]; simp [bs, ByteArray.size]
    have hsz : P.size ≤ 281474976710656 := by omega
    have hTr : ∀ w', Calls Tryd.prog 33 #[.string P0, .string ⟨#[10]⟩] w' fun e w'' => e = .returned (.string Q) ∧ w' = w'' := by
      intro w'
      have h := trim_any P0 w' (by omega)
      rw [hP0, bs_list, ← hP0, ← hQ] at h
      exact h
    have hCu : ∀ w', Calls Tryd.prog 32 #[.string Q, .string ⟨#[35]⟩] w' fun e w'' => ∃ b : ByteArray, ∃ c : Bool, e = .returned (.tuple #[.string P, .string b, .bool c]) ∧ Drewn w' w'' := by
      intro w'
      have h := cut_any Q w' (by omega)
      rw [hQ, bs_list, ← hQ, ← HAT.out k hk, ← hP] at h
      exact h
    rw [← hP0]
    have HTr := Lib.hid hTr
    have HCu := Lib.hid hCu
    have HP := Lib.hid hP
    have hk9 : (k : Int) ≤ 9223372036854775000 := by omega
    clear hTr hCu hP hQ hP0 hl0 hl1 hl2 z0 z1 z3
    have mixed : Tryd.prog.follows .mixedOrders = true := by kernel_rfl
    gi_wp2_with (refine ⟨trivial, rfl, ?_⟩; gi_at_call 33; refine (CallsIn.inRound _ (callsIn_wide.2 (HTr.out _))).mono ?_; rintro e w' ⟨rfl, rfl⟩)
    refine ⟨trivial, rfl, ?_⟩
    refine (CallsIn.inRound _ (callsIn_wide.2 (HCu.out _))).mono ?_
    rintro e A2 ⟨b, c, rfl, hd⟩
    have hcA : Ch (fun j => j = B + 1) A A2 := by
      obtain ⟨n, rfl⟩ := hd
      exact ((Ch.refl (fun j => j = B + 1) A).setCell ⟨B + 1, 0, none⟩ _ (.inl rfl)).drewN n
    have k1 : J k A2 := HJ.out _ _ _ h1 (hcA.mono (fun j _ h => by omega))
    have k2 := hcA.cell h2 (by simp only; omega)
    have k3 : A2.cell? ⟨B + 1, 0, none⟩ = some (.int .i64 ((k : Int) + 1)) := by obtain ⟨n, rfl⟩ := hd; simp [go_sem, h3]
    have k4 : A2.frozen? ⟨B + 1, 0, none⟩ = false := by obtain ⟨n, rfl⟩ := hd; simp [go_sem, h4]
    have kz := hcA.size
    have hAft : ∀ w3, Below A2.heap.size A2.drew w3 → J k w3 ∧ w3.cell? ⟨B, 0, none⟩ = some (.func (.yield l) #[] #[]) ∧ w3.cell? ⟨B + 1, 0, none⟩ = some (.int .i64 ((k : Int) + 1)) ∧ w3.frozen? ⟨B + 1, 0, none⟩ = false ∧ Ch (fun j => j = B + 1) A w3 ∧ A2.heap.size ≤ w3.heap.size := by
      intro w3 hb3
      have hc : Ch (fun _ => False) A2 w3 := ((Ch.refl _ A2).drew).trans (Ch.new hb3)
      exact ⟨HJ.out _ _ _ k1 (hc.mono (fun _ _ h => h.elim)), hc.cell k2 (fun h => h), hc.cell k3 (fun h => h), (hc.frozenCell k3 (fun h => h)).trans k4, hcA.trans (hc.mono (fun _ _ h => h.elim)), hc.size⟩
    have HA := Lib.hid hAft
    clear hAft hd h1 h2 h3 h4 hcA
    gi_wp2
    gi_region_with_o (first
      | (refine ⟨trivial, rfl, ?_⟩; gi_at_call 29; refine (CallsIn.inRound _ (callsIn_wide.2 (clone_any _ _ hsz))).mono ?_; rintro e w3 ⟨rfl, hb3⟩; obtain ⟨g1, g2, g3, g4, g7, g8⟩ := HA.out w3 hb3; obtain ⟨fn, tmps, assign, body, hy, hRo⟩ := hR k w3 g1 hk (by omega); dsimp only at hy; rw [← HP.out] at hy)
      | (refine ⟨rfl, hRo.mono ?_⟩; rintro e W3 hpost; obtain ⟨bb, rfl, hc3, hor⟩ := one_bool hpost))
    all_goals
      have nT : ∀ j, B ≤ j → j < B + 5 → ¬ T j := HT.out
      have q2 := hc3.cell g2 (nT B (by omega) (by omega))
      have q3 := hc3.cell g3 (nT (B + 1) (by omega) (by omega))
      have q4 := (hc3.frozenCell g3 (nT (B + 1) (by omega) (by omega))).trans g4
      have q7 : Ch (fun j => T j ∨ j = B + 1) A W3 := (g7.mono (fun _ _ h => .inr h)).trans (hc3.mono (fun _ _ h => .inl h))
      clear nT hc3 g1 g2 g3 g4 g7 g8 hy hb3 mixed k1 k2 k3 k4 kz
      rcases hor.out with ⟨rfl, hJ3⟩ | ⟨rfl, hJx3⟩
      · clear hor
        have HJ3 := Lib.hid hJ3
        have HQ := Lib.hid q7
        clear hJ3 q7
        gi_wp2
        exact ⟨HQ.out, HJ3.out, q2, by rw [q3]; rfl, q4⟩
      · clear hor
        have HJ3 := Lib.hid hJx3
        have HQ := Lib.hid q7
        clear hJx3 q7
        gi_wp2
        exact ⟨HQ.out, rfl, k + 1, hk, HJ3.out⟩
  case done =>
    rintro A ⟨h1, h2, h3, h4⟩ hD
    rw [z2] at hD
    gi_wp2
    rw [z2]
    refine ⟨by simp, .inl ⟨_, _, rfl, run_takeDeferred hD, ?_⟩⟩
    exact ⟨_, results_none rfl _ _ _, ⟨_, rfl⟩, .inl (hJ _ _ _ h1 ((Ch.refl _ _).putObj _ _ (by omega)))⟩
  case stop =>
    rintro c k A hk ⟨rfl, m, hm, hx⟩ hD
    rw [z2] at hD
    gi_wp2
    rw [z2]
    refine ⟨by simp, .inl ⟨_, _, rfl, run_takeDeferred hD, ?_⟩⟩
    exact ⟨_, results_none rfl _ _ _, ⟨_, rfl⟩, .inr ⟨m, hm, hJx _ _ _ hx ((Ch.refl _ _).putObj _ _ (by omega))⟩⟩

end Go.Proofs.YtnmejabmnapmpaaDoor
