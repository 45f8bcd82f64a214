/- The contract of law51's put: the search. -/
import Derived.Test.YtbdcjfkplopbiaaDoorUM
import Derived.Deep.CutRange
import Derived.Deep.CutBlock
namespace Go.Proofs.YtbdcjfkplopbiaaDoor
open Go.RowKit

/-- Where a slice's pairs lie. -/
def NL (w : World) (sp : Option Addr) (X : List (Int × Int)) : Prop :=
  ∃ b off, (0 < X.length → sp = some ⟨b, off, none⟩ ∧ b < w.heap.size) ∧ ∀ j u, (prow X)[j]? = some u → w.cell? ⟨b, off + j, none⟩ = some u
theorem NL.keep {w w' : World} {T : Nat → Prop} {sp : Option Addr} {X : List (Int × Int)} (h : NL w sp X) (hc : Ch T w w') (hT : ∀ a, sp = some a → ¬ T a.block) : NL w' sp X := by
  obtain ⟨b, off, h1, h2⟩ := h
  refine ⟨b, off, fun h0 => ⟨(h1 h0).1, Nat.lt_of_lt_of_le (h1 h0).2 hc.size⟩, fun j u hu => ?_⟩
  have h0 : 0 < X.length := by
    have := (List.getElem?_eq_some_iff.1 hu).1
    rw [prow_len] at this; omega
  exact hc.cell (h2 j u hu) (show ¬ T b from hT _ (h1 h0).1)
theorem NL.new {w w' : World} {sp : Option Addr} {X : List (Int × Int)} (h : NL w sp X) (hb : Below w.heap.size w w') : NL w' sp X := h.keep (T := fun _ => False) (Ch.new hb) (fun _ _ h => h)
/-- How far down put goes. -/
structure PutK (X : List (Int × Int)) (a : Int) (k : Nat) : Prop where
  le : k ≤ X.length
  gt : ∀ j, k ≤ j → j < X.length → a < (pth X j).1
  at_ : k = 0 ∨ (pth X (k - 1)).1 ≤ a
/-- What is known while a put appends: the row that grows, and the message in a row of its own. -/
structure PQ (w3 w : World) (z : Nat) (v : Value) (n : Nat) (xs : List Value) (nb : Option Nat) (a x : Int) : Prop where
  b : Below z w3 w
  hz : z = w3.heap.size
  own : w.ownsRow z 30 2 v n xs
  nt : ∀ k, nb = some k → w.cell? ⟨k, 0, none⟩ = some (.int .i64 a) ∧ w.cell? ⟨k, 1, none⟩ = some (.int .i64 x) ∧ z ≤ k ∧ k < w.heap.size ∧ v.ownBlock ≠ some k
section
variable {w3 w w' : World} {z : Nat} {v v' : Value} {n m : Nat} {xs news : List Value} {nb : Option Nat} {a x : Int}
theorem PQ.start (w3 : World) (a x : Int) : PQ w3 w3 w3.heap.size (.slice none 0 0) 0 [] none a x := ⟨Below.refl _ _, rfl, World.ownsRow_nil _ _ _ _, fun k hk => by cases hk⟩
theorem PQ.fresh (h : PQ w3 w z (.slice none 0 0) 0 [] nb a x) : PQ w3 (w.alloc (.cells #[] 30)) z (.slice (some ⟨w.heap.size, 0, none⟩) 0 0) 0 [] nb a x := by
  have hs : z ≤ w.heap.size := by rw [h.hz]; exact h.b.size
  have ha : Below w.heap.size w (w.alloc (.cells #[] 30)) := (Below.refl _ _).alloc (Nat.le_refl _) _
  refine ⟨h.b.trans (ha.mono hs), h.hz, own_fresh w z 30 2 hs, fun k hk => ?_⟩
  obtain ⟨h1, h2, h3, h4, _⟩ := h.nt k hk
  exact ⟨(ha.cell (p := ⟨k, 0, none⟩) h4).trans h1, (ha.cell (p := ⟨k, 1, none⟩) h4).trans h2, h3, Nat.lt_of_lt_of_le h4 ha.size, fun e => by simp [Value.ownBlock] at e; omega⟩
theorem PQ.note (h : PQ w3 w z v n xs nb a x) : PQ w3 (w.alloc (.cells #[.int .i64 a, .int .i64 x] 30)) z v n xs (some w.heap.size) a x := by
  have hs : z ≤ w.heap.size := by rw [h.hz]; exact h.b.size
  have ha : Below w.heap.size w (w.alloc (.cells #[.int .i64 a, .int .i64 x] 30)) := (Below.refl _ _).alloc (Nat.le_refl _) _
  refine ⟨h.b.trans (ha.mono hs), h.hz, own_below h.own ha (Nat.le_refl _), fun k hk => ?_⟩
  injection hk with hk
  subst hk
  exact ⟨by simp [go_sem], by simp [go_sem], hs, by rw [World.size_alloc]; omega, fun e => by have := (h.own.lt _ e).2; omega⟩
theorem PQ.grow (h : PQ w3 w z v n xs nb a x) (ho : w'.ownsRow z 30 2 v' (n + m) (xs ++ news)) (hg : w.grownBy w' v.ownBlock) (hat : v'.ownBlock = v.ownBlock ∨ v'.ownBlock = some w.heap.size) : PQ w3 w' z v' (n + m) (xs ++ news) nb a x := by
  have hs : z ≤ w.heap.size := by rw [h.hz]; exact h.b.size
  have hc := ch_grown hg
  refine ⟨h.b.grown hg hs (fun j e => own_ge h.own j e), h.hz, ho, fun k hk => ?_⟩
  obtain ⟨h1, h2, h3, h4, h5⟩ := h.nt k hk
  refine ⟨hc.cell h1 h5, hc.cell h2 h5, h3, Nat.lt_of_lt_of_le h4 hc.size, fun e => ?_⟩
  rcases hat with ha | ha
  · exact h5 (ha.symm.trans e)
  · rw [ha] at e; injection e with e; omega
end
theorem PQ.src {w3 w : World} {z : Nat} {v : Value} {n : Nat} {xs : List Value} {k : Nat} {a x : Int} (h : PQ w3 w z v n xs (some k) a x) : ∀ ad, some (⟨k, 0, none⟩ : Addr) = some ad → ∀ j u, [Value.int .i64 a, .int .i64 x][j]? = some u → w.cell? (ad.add j) = some u := fun ad hd j u hu => by
  injection hd with hd
  subst hd
  obtain ⟨h1, h2, _⟩ := h.nt k rfl
  rw [Addr.add_lit]
  rcases j with _ | _ | j
  · simp at hu; subst hu; exact h1
  · simp at hu; subst hu; exact h2
  · simp at hu
theorem prow_one (X : List (Int × Int)) : ∀ u ∈ prow X, u.oneCell' = true := by
  induction X with
  | nil => intro u hu; cases hu
  | cons y l ih =>
    intro u hu
    rcases List.mem_cons.1 hu with rfl | hu
    · rfl
    · rcases List.mem_cons.1 hu with rfl | hu
      · rfl
      · exact ih u hu
theorem prow_one' (l : List Value) (h : ∀ u ∈ l, u.oneCell' = true := by first | exact prow_one _ | simp [Value.oneCell']) : ∀ u ∈ l, u.oneCell' = true := h
/-- The cells of the first so many pairs, and of those behind them. -/
theorem NL.srcs {w3 : World} {b o : Nat} {X : List (Int × Int)} (h : NL w3 (some ⟨b, o, none⟩) X) (k : Nat) (hk : k ≤ X.length) :
    (∀ w', Below w3.heap.size w3 w' → ∀ ad, some (⟨b, o, none⟩ : Addr) = some ad → ∀ j u, (prow (X.take k))[j]? = some u → w'.cell? (ad.add j) = some u) ∧
    (∀ w', Below w3.heap.size w3 w' → ∀ ad, (some ad = some (⟨b, o + k * 2, none⟩ : Addr) ∨ k = X.length) → ∀ j u, (prow (X.drop k))[j]? = some u → w'.cell? (ad.add j) = some u) := by
  obtain ⟨b', o', h1, h2⟩ := h
  have hsplit : prow X = prow (X.take k) ++ prow (X.drop k) := by rw [← prow_app, List.take_append_drop]
  have hl1 : (prow (X.take k)).length = 2 * k := by rw [prow_len, List.length_take, Nat.min_eq_left hk]
  refine ⟨fun w' hb ad hd j u hu => ?_, fun w' hb ad hd j u hu => ?_⟩
  · injection hd with hd
    subst hd
    have hj := (List.getElem?_eq_some_iff.1 hu).1
    have h0 : 0 < X.length := by rw [hl1] at hj; omega
    obtain ⟨e, hbl⟩ := h1 h0
    injection e with e; injection e with e1 e2
    subst e1 e2
    rw [Addr.add_lit, hb.cell (p := ⟨b, o + j, none⟩) hbl]
    exact h2 j u (by rw [hsplit, List.getElem?_append_left hj]; exact hu)
  · have hj := (List.getElem?_eq_some_iff.1 hu).1
    rw [prow_len, List.length_drop] at hj
    rcases hd with hd | hd
    · injection hd with hd
      subst hd
      obtain ⟨e, hbl⟩ := h1 (by omega)
      injection e with e; injection e with e1 e2
      subst e1 e2
      rw [Addr.add_lit, hb.cell (p := ⟨b, o + k * 2 + j, none⟩) hbl]
      have := h2 (2 * k + j) u (by rw [hsplit, List.getElem?_append_right (by rw [hl1]; omega), hl1, Nat.add_sub_cancel_left]; exact hu)
      rw [show o + (2 * k + j) = o + k * 2 + j by omega] at this
      exact this
    · omega
theorem put_row (X : List (Int × Int)) (k : Nat) (a x : Int) : ([] ++ prow (X.take k) ++ [Value.int .i64 a, .int .i64 x]) ++ prow (X.drop k) = prow (X.take k ++ (a, x) :: X.drop k) := by
  rw [prow_app]; simp [prow]
theorem put_end {w w3 w' : World} {z : Nat} {v : Value} {k : Nat} {nb : Option Nat} {a x : Int} {X : List (Int × Int)} {r : Nat} (h : PQ w3 w' z v (0 + k + 1 + r) ([] ++ prow (X.take k) ++ [.int .i64 a, .int .i64 x] ++ prow (X.drop k)) nb a x) (hb : Below w.heap.size w w3) (_hn : X.length = k + r) :
    w'.ownsRow w.heap.size 30 2 v (k + r + 1) (prow (X.take k ++ (a, x) :: X.drop k)) ∧ Below w.heap.size w w' := by
  have hz : w.heap.size ≤ z := by rw [h.hz]; exact hb.size
  have ho := own_mono h.own hz
  rw [put_row, show 0 + k + 1 + r = k + r + 1 by omega] at ho
  exact ⟨ho, hb.trans (h.b.mono hz)⟩
set_option maxHeartbeats 4000000 in
set_option maxRecDepth 100000 in
theorem lput_any {w : World} {sp : Option Addr} {cap : Nat} {X : List (Int × Int)} (h : NL w sp X) (hcap : X.length ≤ cap) (hN : X.length ≤ 1000) (hsn : (sp = none ∧ cap = 0) ∨ ∃ b o, sp = some ⟨b, o, none⟩) (a x : Int) :
    Calls Tryd.prog 17 #[.slice sp X.length cap, .agg #[.int .i64 a, .int .i64 x]] w fun e w' => ∃ k v, PutK X a k ∧ e = .returned v ∧ w'.ownsRow w.heap.size 30 2 v (X.length + 1) (prow (X.take k ++ (a, x) :: X.drop k)) ∧ Below w.heap.size w w' := by
  obtain ⟨i0, hi, hz0, hz1, hz2⟩ := info_parts infoNote
  obtain ⟨X0, hX0⟩ : ∃ X0, X0 = w.heap.size := ⟨_, rfl⟩
  obtain ⟨w1, hw1⟩ : ∃ w1, w.alloc (.cells #[.int .i64 a, .int .i64 x] 30) = w1 := ⟨_, rfl⟩
  have b1 : Below w.heap.size w w1 := by rw [← hw1]; exact (Below.refl _ _).alloc (Nat.le_refl _) _
  have hr1 : RowAt w1 X0 30 #[.int .i64 a, .int .i64 x] := by rw [← hw1, hX0]; exact RowAt.mk _ _ _
  have HX := Lib.hid (And.intro (h.new b1) (And.intro b1 (And.intro hr1 hX0)))
  obtain ⟨N, hNN⟩ : ∃ N, X.length = N := ⟨_, rfl⟩
  have HN := Lib.hid hNN
  rw [hNN] at hcap hN ⊢
  clear h b1 hr1 hNN
  go_enter Tryd.func17, Tryd.ntmps17
  go_upto_region 1 with fail
  try rw [hw1]
  try rw [← hX0]
  clear hw1 hX0
  go_wp2
  go_loopg [5] N (fun gh s5 wr => s5 = .int .i64 (gh : Nat) ∧ gh ≤ N ∧ Aside ((∀ j, gh ≤ j → j < N → a < (pth X j).1) ∧ NL wr sp X ∧ RowAt wr X0 30 #[.int .i64 a, .int .i64 x] ∧ Below w.heap.size w wr))
  case atStart => exact ⟨rfl, Nat.le_refl _, fun j h1 h2 => by omega, HX.out.1, HX.out.2.2.1, HX.out.2.1⟩
  case round =>
    obtain ⟨rfl, hle, HR⟩ := hrel
    have HG := Lib.hid HR.out.1
    clear HX
    have HX := Lib.hid HR.out.2
    clear HR
    have q0 : wr.cell? ⟨X0, 0, none⟩ = some (.int .i64 a) := HX.out.2.1.cell 0
    cases gk with
    | zero =>
      go_upto_region 2 with fail
      go_quiet (fail)
      go_upto_region 4 with fail
      generalize hwq : World.drewN _ _ = wq
      have HQ := Lib.hid (show NL wq.drew sp X ∧ RowAt wq.drew X0 30 #[.int .i64 a, .int .i64 x] ∧ Below w.heap.size w wq.drew by
        rw [← hwq]
        exact ⟨(HX.out.1.new (below_dn (Below.refl _ _) _)).new (below_dn (Below.refl _ _) 1), HX.out.2.1, below_dn (below_dn HX.out.2.2 _) 1⟩)
      clear hwq
      have HC := Lib.hid (show ∀ w', Below wq.drew.heap.size wq.drew w' → w'.cell? ⟨X0, 0, none⟩ = some (.int .i64 a) ∧ w'.cell? ⟨X0, 1, none⟩ = some (.int .i64 x) from fun w' hb => ⟨(HQ.out.2.1.new hb).cell 0, (HQ.out.2.1.new hb).cell 1⟩)
      obtain ⟨kk, hkk⟩ : ∃ kk : Nat, kk = 0 := ⟨_, rfl⟩
      have HP := Lib.hid (show PutK X a kk by rw [hkk]; exact ⟨Nat.zero_le _, fun j h1 h2 => HG.out j h1 (by rw [← HN.out]; exact h2), .inl rfl⟩)
      have hkN : kk ≤ N := by rw [← HN.out]; exact HP.out.le
      have hcast : ((0 : Nat) : Int) = (kk : Int) := by rw [hkk]
      rw [hcast]
      clear HX hcast hkk HG q0
      obtain ⟨r, hr⟩ : ∃ r, N = kk + r := ⟨N - kk, by omega⟩
      have HL1 := Lib.hid (show (prow (X.take kk)).length = kk * 2 by rw [prow_len, List.length_take, HN.out]; omega)
      have HL2 := Lib.hid (show (prow (X.drop kk)).length = r * 2 by rw [prow_len, List.length_drop, HN.out]; omega)
      have HNr := Lib.hid (HN.out.trans hr)
      subst hr
      have r0 : (((kk + r : Nat) : Int) - (kk : Int)) = (r : Nat) := by omega
      have r1 : kk + r - kk = r := by omega
      have r2 : (kk : Int) ≤ (kk : Int) + (r : Int) := by omega
      rcases hsn with ⟨rfl, rfl⟩ | ⟨b, o, rfl⟩
      · obtain rfl : kk = 0 := by omega
        obtain rfl : r = 0 := by omega
        refine wp_region_held_drew (S := fun w' => w'.cell? ⟨X0, 0, none⟩ = some (.int .i64 a) ∧ w'.cell? ⟨X0, 1, none⟩ = some (.int .i64 x)) (by kernel_rfl) (HC.out _ (Below.refl _ _)) (fun hS => ?_)
        refine wpAnyH_take (i := 1) (oi := { dst := some 24, op := .move (.tmp 0), type := 28, pos := "law.go:55", after := #[], guard := none }) (v := ?_) rfl (by kernel_rfl) (by kernel_rfl) (by kernel_rfl) (fun _ _ _ h => h) (Or.inl ⟨by rfl, ?_⟩) hS ?_
        rotate_left 1
        · intro w hw; obtain ⟨s0, s1⟩ := hw; go_simp; try (with_reducible rfl)
        simp only [Act.put, List.setIfInBounds_toArray, List.set_cons_zero, List.set_cons_succ]
        refine wpAnyH_take (i := 2) (oi := { dst := some 25, op := .move (.tmp 5), type := 3, pos := "law.go:55", after := #[], guard := none }) (v := ?_) rfl (by kernel_rfl) (by kernel_rfl) (by kernel_rfl) (fun _ _ _ h => h) (Or.inl ⟨by rfl, ?_⟩) hS ?_
        rotate_left 1
        · intro w hw; obtain ⟨s0, s1⟩ := hw; go_simp; try (with_reducible rfl)
        simp only [Act.put, List.setIfInBounds_toArray, List.set_cons_zero, List.set_cons_succ]
        refine wpAnyH_take (i := 3) (oi := { dst := some 26, op := .slice 28 (.tmp 24) none (some (.tmp 25)) none, type := 28, pos := "law.go:55", after := #[{ on := 1, ground := .data }, { on := 2, ground := .data }], guard := none }) (v := ?_) rfl (by kernel_rfl) (by kernel_rfl) (by kernel_rfl) (fun _ _ _ h => h) (Or.inl ⟨by rfl, ?_⟩) hS ?_
        rotate_left 1
        · intro w hw; obtain ⟨s0, s1⟩ := hw; go_simp; try (with_reducible rfl)
        simp only [Act.put, List.setIfInBounds_toArray, List.set_cons_zero, List.set_cons_succ]
        refine wpAnyH_take (i := 5) (oi := { dst := some 28, op := .load 30 (.tmp 3), type := 30, pos := "law.go:55", after := #[], guard := none }) (v := ?_) rfl (by kernel_rfl) (by kernel_rfl) (by kernel_rfl) (fun _ _ _ h => h) (Or.inl ⟨by rfl, ?_⟩) hS ?_
        rotate_left 1
        · intro w hw; obtain ⟨s0, s1⟩ := hw; go_simp; try (with_reducible rfl)
        simp only [Act.put, List.setIfInBounds_toArray, List.set_cons_zero, List.set_cons_succ]
        refine wpAnyH_take (i := 8) (oi := { dst := some 31, op := .move (.tmp 0), type := 28, pos := "law.go:55", after := #[], guard := none }) (v := ?_) rfl (by kernel_rfl) (by kernel_rfl) (by kernel_rfl) (fun _ _ _ h => h) (Or.inl ⟨by rfl, ?_⟩) hS ?_
        rotate_left 1
        · intro w hw; obtain ⟨s0, s1⟩ := hw; go_simp; try (with_reducible rfl)
        simp only [Act.put, List.setIfInBounds_toArray, List.set_cons_zero, List.set_cons_succ]
        refine wpAnyH_take (i := 9) (oi := { dst := some 32, op := .move (.tmp 5), type := 3, pos := "law.go:55", after := #[], guard := none }) (v := ?_) rfl (by kernel_rfl) (by kernel_rfl) (by kernel_rfl) (fun _ _ _ h => h) (Or.inl ⟨by rfl, ?_⟩) hS ?_
        rotate_left 1
        · intro w hw; obtain ⟨s0, s1⟩ := hw; go_simp; try (with_reducible rfl)
        simp only [Act.put, List.setIfInBounds_toArray, List.set_cons_zero, List.set_cons_succ]
        refine wpAnyH_take (i := 10) (oi := { dst := some 33, op := .slice 28 (.tmp 31) (some (.tmp 32)) none none, type := 28, pos := "law.go:55", after := #[{ on := 8, ground := .data }, { on := 9, ground := .data }], guard := none }) (v := ?_) rfl (by kernel_rfl) (by kernel_rfl) (by kernel_rfl) (fun _ _ _ h => h) (Or.inl ⟨by rfl, ?_⟩) hS ?_
        rotate_left 1
        · intro w hw; obtain ⟨s0, s1⟩ := hw; go_simp; try (with_reducible rfl)
        simp only [Act.put, List.setIfInBounds_toArray, List.set_cons_zero, List.set_cons_succ]
        refine wpAnyH_ready (rs := [0, 6]) (by kernel_rfl) (by simp) (AllReadyH.cons (o := { dst := some 23, op := .buildSlice 28 0 #[], type := 28, pos := "law.go:55", after := #[], guard := none }) rfl (fun K hK => ?_) (AllReadyH.cons (o := { dst := some 29, op := .buildSlice 28 1 #[(0, .tmp 28)], type := 28, pos := "law.go:55", after := #[{ on := 5, ground := .data }], guard := none }) rfl (fun K hK => ?_) AllReadyH.nil))
        · go_simp
          refine hK.out _ _ (HC.out _ ((PQ.fresh (PQ.start wq.drew a x))).b) (fun hHeld => ?_)
          clear hK K
          try simp only [Act.put, List.setIfInBounds_toArray, List.set_cons_zero, List.set_cons_succ]
          refine wpAnyH_ready (rs := [4, 6]) (by kernel_rfl) (by simp) (AllReadyH.cons (o := { dst := some 27, op := .call { callee := .builtin .append, args := #[.tmp 23, .tmp 26], argTypes := #[28, 28] }, type := 28, pos := "law.go:55", after := #[{ on := 0, ground := .data }, { on := 3, ground := .data }], guard := none }) rfl (fun K hK => ?_) (AllReadyH.cons (o := { dst := some 29, op := .buildSlice 28 1 #[(0, .tmp 28)], type := 28, pos := "law.go:55", after := #[{ on := 5, ground := .data }], guard := none }) rfl (fun K hK => ?_) AllReadyH.nil))
          · rw [if_pos (by rfl)]
            refine wp_append_vary (.tmp 23) (.tmp 26) 28 (by rfl) wq.drew.heap.size 30 i0 (.agg #[.int .i64 0, .int .i64 0]) 2 16 Tryd.underlying28 hi hz0 hz1 hz2 rfl (by decide) _ 0 [] (by first | rfl | simp [go_sem]) ((PQ.fresh (PQ.start wq.drew a x))).own _ 0 _ (prow (X.take 0)) (by first | rfl | simp [go_sem]) HL1.out (fun _ => rfl) (fun ad h => by cases h) (prow_one' _) (by unfold maxLen; omega) (by omega) (((PQ.fresh (PQ.start wq.drew a x))).b.size) ?_
            intro v4 w4 hown hgrow hat
            have P4 := Lib.hid (((PQ.fresh (PQ.start wq.drew a x))).grow hown hgrow hat)
            clear hown hgrow hat
            refine hK.out _ _ (HC.out _ P4.out.b) (fun hHeld => ?_)
            clear hK K
            try simp only [Act.put, List.setIfInBounds_toArray, List.set_cons_zero, List.set_cons_succ]
            refine wpAnyH_ready (rs := [6]) (by kernel_rfl) (by simp) (AllReadyH.cons (o := { dst := some 29, op := .buildSlice 28 1 #[(0, .tmp 28)], type := 28, pos := "law.go:55", after := #[{ on := 5, ground := .data }], guard := none }) rfl (fun K hK => ?_) AllReadyH.nil)
            go_simp
            refine hK.out _ _ (HC.out _ ((PQ.note P4.out)).b) (fun hHeld => ?_)
            clear hK K
            try simp only [Act.put, List.setIfInBounds_toArray, List.set_cons_zero, List.set_cons_succ]
            refine wpAnyH_ready (rs := [7]) (by kernel_rfl) (by simp) (AllReadyH.cons (o := { dst := some 30, op := .call { callee := .builtin .append, args := #[.tmp 27, .tmp 29], argTypes := #[28, 28] }, type := 28, pos := "law.go:55", after := #[{ on := 4, ground := .data }, { on := 6, ground := .data }, { on := 4, ground := .chain }], guard := none }) rfl (fun K hK => ?_) AllReadyH.nil)
            rw [if_pos (by rfl)]
            refine wp_append_vary (.tmp 27) (.tmp 29) 28 (by rfl) wq.drew.heap.size 30 i0 (.agg #[.int .i64 0, .int .i64 0]) 2 16 Tryd.underlying28 hi hz0 hz1 hz2 rfl (by decide) _ (0 + 0) ([] ++ prow (X.take 0)) (by first | rfl | simp [go_sem]) ((PQ.note P4.out)).own _ 1 1 [.int .i64 a, .int .i64 x] (by first | rfl | simp [go_sem]) rfl (fun h => by cases h) (((PQ.note P4.out)).src) (prow_one' _) (by unfold maxLen; omega) (by omega) (((PQ.note P4.out)).b.size) ?_
            intro v7 w7 hown hgrow hat
            have P7 := Lib.hid (((PQ.note P4.out)).grow hown hgrow hat)
            clear hown hgrow hat
            refine hK.out _ _ (HC.out _ P7.out.b) (fun hHeld => ?_)
            clear hK K
            try simp only [Act.put, List.setIfInBounds_toArray, List.set_cons_zero, List.set_cons_succ]
            refine wpAnyH_ready (rs := [11]) (by kernel_rfl) (by simp) (AllReadyH.cons (o := { dst := some 34, op := .call { callee := .builtin .append, args := #[.tmp 30, .tmp 33], argTypes := #[28, 28] }, type := 28, pos := "law.go:55", after := #[{ on := 7, ground := .data }, { on := 10, ground := .data }, { on := 7, ground := .chain }], guard := none }) rfl (fun K hK => ?_) AllReadyH.nil)
            rw [if_pos (by rfl)]
            refine wp_append_vary (.tmp 30) (.tmp 33) 28 (by rfl) wq.drew.heap.size 30 i0 (.agg #[.int .i64 0, .int .i64 0]) 2 16 Tryd.underlying28 hi hz0 hz1 hz2 rfl (by decide) _ (0 + 0 + 1) ([] ++ prow (X.take 0) ++ [.int .i64 a, .int .i64 x]) (by first | rfl | simp [go_sem]) (P7.out).own _ 0 _ (prow (X.drop 0)) (by first | rfl | simp [go_sem]) HL2.out (fun _ => rfl) (fun ad h => by cases h) (prow_one' _) (by unfold maxLen; omega) (by omega) ((P7.out).b.size) ?_
            intro v11 w11 hown hgrow hat
            have P11 := Lib.hid ((P7.out).grow hown hgrow hat)
            clear hown hgrow hat
            refine hK.out _ _ (HC.out _ P11.out.b) (fun hHeld => ?_)
            clear hK K
            try simp only [Act.put, List.setIfInBounds_toArray, List.set_cons_zero, List.set_cons_succ]
            refine wpAnyH_ready (rs := [12]) (by kernel_rfl) (by simp) (AllReadyH.cons (o := { dst := some 4, op := .assign (.tmp 34), type := 28, pos := "law.go:55", after := #[{ on := 11, ground := .data }, { on := 11, ground := .chain }, { on := 0, ground := .phase }, { on := 1, ground := .phase }, { on := 2, ground := .phase }, { on := 3, ground := .phase }, { on := 4, ground := .phase }, { on := 5, ground := .phase }, { on := 6, ground := .phase }, { on := 7, ground := .phase }, { on := 8, ground := .phase }, { on := 9, ground := .phase }, { on := 10, ground := .phase }, { on := 11, ground := .phase }], guard := none }) rfl (fun K hK => ?_) AllReadyH.nil)
            go_simp
            refine hK.out _ _ (HC.out _ P11.out.b) (fun hHeld => ?_)
            clear hK K
            try simp only [Act.put, List.setIfInBounds_toArray, List.set_cons_zero, List.set_cons_succ]
            refine wpAnyH_done (by kernel_rfl) ?_ _
            have HF := Lib.hid (put_end P11.out HQ.out.2.2 (by rw [HNr.out]))
            go_wp2
            go_ret
            first | exact ⟨0, v11, HP.out, rfl, HF.out.1, HF.out.2⟩ | exact ⟨0, HP.out, v11, rfl, HF.out.1, HF.out.2⟩ | exact ⟨0, HP.out, v11, by simp [go_sem], HF.out.1, HF.out.2⟩
          · go_simp
            refine hK.out _ _ (HC.out _ ((PQ.note (PQ.fresh (PQ.start wq.drew a x)))).b) (fun hHeld => ?_)
            clear hK K
            try simp only [Act.put, List.setIfInBounds_toArray, List.set_cons_zero, List.set_cons_succ]
            refine wpAnyH_ready (rs := [4]) (by kernel_rfl) (by simp) (AllReadyH.cons (o := { dst := some 27, op := .call { callee := .builtin .append, args := #[.tmp 23, .tmp 26], argTypes := #[28, 28] }, type := 28, pos := "law.go:55", after := #[{ on := 0, ground := .data }, { on := 3, ground := .data }], guard := none }) rfl (fun K hK => ?_) AllReadyH.nil)
            rw [if_pos (by rfl)]
            refine wp_append_vary (.tmp 23) (.tmp 26) 28 (by rfl) wq.drew.heap.size 30 i0 (.agg #[.int .i64 0, .int .i64 0]) 2 16 Tryd.underlying28 hi hz0 hz1 hz2 rfl (by decide) _ 0 [] (by first | rfl | simp [go_sem]) ((PQ.note (PQ.fresh (PQ.start wq.drew a x)))).own _ 0 _ (prow (X.take 0)) (by first | rfl | simp [go_sem]) HL1.out (fun _ => rfl) (fun ad h => by cases h) (prow_one' _) (by unfold maxLen; omega) (by omega) (((PQ.note (PQ.fresh (PQ.start wq.drew a x)))).b.size) ?_
            intro v4 w4 hown hgrow hat
            have P4 := Lib.hid (((PQ.note (PQ.fresh (PQ.start wq.drew a x)))).grow hown hgrow hat)
            clear hown hgrow hat
            refine hK.out _ _ (HC.out _ P4.out.b) (fun hHeld => ?_)
            clear hK K
            try simp only [Act.put, List.setIfInBounds_toArray, List.set_cons_zero, List.set_cons_succ]
            refine wpAnyH_ready (rs := [7]) (by kernel_rfl) (by simp) (AllReadyH.cons (o := { dst := some 30, op := .call { callee := .builtin .append, args := #[.tmp 27, .tmp 29], argTypes := #[28, 28] }, type := 28, pos := "law.go:55", after := #[{ on := 4, ground := .data }, { on := 6, ground := .data }, { on := 4, ground := .chain }], guard := none }) rfl (fun K hK => ?_) AllReadyH.nil)
            rw [if_pos (by rfl)]
            refine wp_append_vary (.tmp 27) (.tmp 29) 28 (by rfl) wq.drew.heap.size 30 i0 (.agg #[.int .i64 0, .int .i64 0]) 2 16 Tryd.underlying28 hi hz0 hz1 hz2 rfl (by decide) _ (0 + 0) ([] ++ prow (X.take 0)) (by first | rfl | simp [go_sem]) (P4.out).own _ 1 1 [.int .i64 a, .int .i64 x] (by first | rfl | simp [go_sem]) rfl (fun h => by cases h) ((P4.out).src) (prow_one' _) (by unfold maxLen; omega) (by omega) ((P4.out).b.size) ?_
            intro v7 w7 hown hgrow hat
            have P7 := Lib.hid ((P4.out).grow hown hgrow hat)
            clear hown hgrow hat
            refine hK.out _ _ (HC.out _ P7.out.b) (fun hHeld => ?_)
            clear hK K
            try simp only [Act.put, List.setIfInBounds_toArray, List.set_cons_zero, List.set_cons_succ]
            refine wpAnyH_ready (rs := [11]) (by kernel_rfl) (by simp) (AllReadyH.cons (o := { dst := some 34, op := .call { callee := .builtin .append, args := #[.tmp 30, .tmp 33], argTypes := #[28, 28] }, type := 28, pos := "law.go:55", after := #[{ on := 7, ground := .data }, { on := 10, ground := .data }, { on := 7, ground := .chain }], guard := none }) rfl (fun K hK => ?_) AllReadyH.nil)
            rw [if_pos (by rfl)]
            refine wp_append_vary (.tmp 30) (.tmp 33) 28 (by rfl) wq.drew.heap.size 30 i0 (.agg #[.int .i64 0, .int .i64 0]) 2 16 Tryd.underlying28 hi hz0 hz1 hz2 rfl (by decide) _ (0 + 0 + 1) ([] ++ prow (X.take 0) ++ [.int .i64 a, .int .i64 x]) (by first | rfl | simp [go_sem]) (P7.out).own _ 0 _ (prow (X.drop 0)) (by first | rfl | simp [go_sem]) HL2.out (fun _ => rfl) (fun ad h => by cases h) (prow_one' _) (by unfold maxLen; omega) (by omega) ((P7.out).b.size) ?_
            intro v11 w11 hown hgrow hat
            have P11 := Lib.hid ((P7.out).grow hown hgrow hat)
            clear hown hgrow hat
            refine hK.out _ _ (HC.out _ P11.out.b) (fun hHeld => ?_)
            clear hK K
            try simp only [Act.put, List.setIfInBounds_toArray, List.set_cons_zero, List.set_cons_succ]
            refine wpAnyH_ready (rs := [12]) (by kernel_rfl) (by simp) (AllReadyH.cons (o := { dst := some 4, op := .assign (.tmp 34), type := 28, pos := "law.go:55", after := #[{ on := 11, ground := .data }, { on := 11, ground := .chain }, { on := 0, ground := .phase }, { on := 1, ground := .phase }, { on := 2, ground := .phase }, { on := 3, ground := .phase }, { on := 4, ground := .phase }, { on := 5, ground := .phase }, { on := 6, ground := .phase }, { on := 7, ground := .phase }, { on := 8, ground := .phase }, { on := 9, ground := .phase }, { on := 10, ground := .phase }, { on := 11, ground := .phase }], guard := none }) rfl (fun K hK => ?_) AllReadyH.nil)
            go_simp
            refine hK.out _ _ (HC.out _ P11.out.b) (fun hHeld => ?_)
            clear hK K
            try simp only [Act.put, List.setIfInBounds_toArray, List.set_cons_zero, List.set_cons_succ]
            refine wpAnyH_done (by kernel_rfl) ?_ _
            have HF := Lib.hid (put_end P11.out HQ.out.2.2 (by rw [HNr.out]))
            go_wp2
            go_ret
            first | exact ⟨0, v11, HP.out, rfl, HF.out.1, HF.out.2⟩ | exact ⟨0, HP.out, v11, rfl, HF.out.1, HF.out.2⟩ | exact ⟨0, HP.out, v11, by simp [go_sem], HF.out.1, HF.out.2⟩
        · go_simp
          refine hK.out _ _ (HC.out _ ((PQ.note (PQ.start wq.drew a x))).b) (fun hHeld => ?_)
          clear hK K
          try simp only [Act.put, List.setIfInBounds_toArray, List.set_cons_zero, List.set_cons_succ]
          refine wpAnyH_ready (rs := [0]) (by kernel_rfl) (by simp) (AllReadyH.cons (o := { dst := some 23, op := .buildSlice 28 0 #[], type := 28, pos := "law.go:55", after := #[], guard := none }) rfl (fun K hK => ?_) AllReadyH.nil)
          go_simp
          refine hK.out _ _ (HC.out _ ((PQ.fresh (PQ.note (PQ.start wq.drew a x)))).b) (fun hHeld => ?_)
          clear hK K
          try simp only [Act.put, List.setIfInBounds_toArray, List.set_cons_zero, List.set_cons_succ]
          refine wpAnyH_ready (rs := [4]) (by kernel_rfl) (by simp) (AllReadyH.cons (o := { dst := some 27, op := .call { callee := .builtin .append, args := #[.tmp 23, .tmp 26], argTypes := #[28, 28] }, type := 28, pos := "law.go:55", after := #[{ on := 0, ground := .data }, { on := 3, ground := .data }], guard := none }) rfl (fun K hK => ?_) AllReadyH.nil)
          rw [if_pos (by rfl)]
          refine wp_append_vary (.tmp 23) (.tmp 26) 28 (by rfl) wq.drew.heap.size 30 i0 (.agg #[.int .i64 0, .int .i64 0]) 2 16 Tryd.underlying28 hi hz0 hz1 hz2 rfl (by decide) _ 0 [] (by first | rfl | simp [go_sem]) ((PQ.fresh (PQ.note (PQ.start wq.drew a x)))).own _ 0 _ (prow (X.take 0)) (by first | rfl | simp [go_sem]) HL1.out (fun _ => rfl) (fun ad h => by cases h) (prow_one' _) (by unfold maxLen; omega) (by omega) (((PQ.fresh (PQ.note (PQ.start wq.drew a x)))).b.size) ?_
          intro v4 w4 hown hgrow hat
          have P4 := Lib.hid (((PQ.fresh (PQ.note (PQ.start wq.drew a x)))).grow hown hgrow hat)
          clear hown hgrow hat
          refine hK.out _ _ (HC.out _ P4.out.b) (fun hHeld => ?_)
          clear hK K
          try simp only [Act.put, List.setIfInBounds_toArray, List.set_cons_zero, List.set_cons_succ]
          refine wpAnyH_ready (rs := [7]) (by kernel_rfl) (by simp) (AllReadyH.cons (o := { dst := some 30, op := .call { callee := .builtin .append, args := #[.tmp 27, .tmp 29], argTypes := #[28, 28] }, type := 28, pos := "law.go:55", after := #[{ on := 4, ground := .data }, { on := 6, ground := .data }, { on := 4, ground := .chain }], guard := none }) rfl (fun K hK => ?_) AllReadyH.nil)
          rw [if_pos (by rfl)]
          refine wp_append_vary (.tmp 27) (.tmp 29) 28 (by rfl) wq.drew.heap.size 30 i0 (.agg #[.int .i64 0, .int .i64 0]) 2 16 Tryd.underlying28 hi hz0 hz1 hz2 rfl (by decide) _ (0 + 0) ([] ++ prow (X.take 0)) (by first | rfl | simp [go_sem]) (P4.out).own _ 1 1 [.int .i64 a, .int .i64 x] (by first | rfl | simp [go_sem]) rfl (fun h => by cases h) ((P4.out).src) (prow_one' _) (by unfold maxLen; omega) (by omega) ((P4.out).b.size) ?_
          intro v7 w7 hown hgrow hat
          have P7 := Lib.hid ((P4.out).grow hown hgrow hat)
          clear hown hgrow hat
          refine hK.out _ _ (HC.out _ P7.out.b) (fun hHeld => ?_)
          clear hK K
          try simp only [Act.put, List.setIfInBounds_toArray, List.set_cons_zero, List.set_cons_succ]
          refine wpAnyH_ready (rs := [11]) (by kernel_rfl) (by simp) (AllReadyH.cons (o := { dst := some 34, op := .call { callee := .builtin .append, args := #[.tmp 30, .tmp 33], argTypes := #[28, 28] }, type := 28, pos := "law.go:55", after := #[{ on := 7, ground := .data }, { on := 10, ground := .data }, { on := 7, ground := .chain }], guard := none }) rfl (fun K hK => ?_) AllReadyH.nil)
          rw [if_pos (by rfl)]
          refine wp_append_vary (.tmp 30) (.tmp 33) 28 (by rfl) wq.drew.heap.size 30 i0 (.agg #[.int .i64 0, .int .i64 0]) 2 16 Tryd.underlying28 hi hz0 hz1 hz2 rfl (by decide) _ (0 + 0 + 1) ([] ++ prow (X.take 0) ++ [.int .i64 a, .int .i64 x]) (by first | rfl | simp [go_sem]) (P7.out).own _ 0 _ (prow (X.drop 0)) (by first | rfl | simp [go_sem]) HL2.out (fun _ => rfl) (fun ad h => by cases h) (prow_one' _) (by unfold maxLen; omega) (by omega) ((P7.out).b.size) ?_
          intro v11 w11 hown hgrow hat
          have P11 := Lib.hid ((P7.out).grow hown hgrow hat)
          clear hown hgrow hat
          refine hK.out _ _ (HC.out _ P11.out.b) (fun hHeld => ?_)
          clear hK K
          try simp only [Act.put, List.setIfInBounds_toArray, List.set_cons_zero, List.set_cons_succ]
          refine wpAnyH_ready (rs := [12]) (by kernel_rfl) (by simp) (AllReadyH.cons (o := { dst := some 4, op := .assign (.tmp 34), type := 28, pos := "law.go:55", after := #[{ on := 11, ground := .data }, { on := 11, ground := .chain }, { on := 0, ground := .phase }, { on := 1, ground := .phase }, { on := 2, ground := .phase }, { on := 3, ground := .phase }, { on := 4, ground := .phase }, { on := 5, ground := .phase }, { on := 6, ground := .phase }, { on := 7, ground := .phase }, { on := 8, ground := .phase }, { on := 9, ground := .phase }, { on := 10, ground := .phase }, { on := 11, ground := .phase }], guard := none }) rfl (fun K hK => ?_) AllReadyH.nil)
          go_simp
          refine hK.out _ _ (HC.out _ P11.out.b) (fun hHeld => ?_)
          clear hK K
          try simp only [Act.put, List.setIfInBounds_toArray, List.set_cons_zero, List.set_cons_succ]
          refine wpAnyH_done (by kernel_rfl) ?_ _
          have HF := Lib.hid (put_end P11.out HQ.out.2.2 (by rw [HNr.out]))
          go_wp2
          go_ret
          first | exact ⟨0, v11, HP.out, rfl, HF.out.1, HF.out.2⟩ | exact ⟨0, HP.out, v11, rfl, HF.out.1, HF.out.2⟩ | exact ⟨0, HP.out, v11, by simp [go_sem], HF.out.1, HF.out.2⟩
      · have HS := Lib.hid (NL.srcs HQ.out.1 kk HP.out.le)
        by_cases hck : cap = kk
        · obtain rfl : r = 0 := by omega
          subst hck
          refine wp_region_held_drew (S := fun w' => w'.cell? ⟨X0, 0, none⟩ = some (.int .i64 a) ∧ w'.cell? ⟨X0, 1, none⟩ = some (.int .i64 x)) (by kernel_rfl) (HC.out _ (Below.refl _ _)) (fun hS => ?_)
          refine wpAnyH_take (i := 1) (oi := { dst := some 24, op := .move (.tmp 0), type := 28, pos := "law.go:55", after := #[], guard := none }) (v := ?_) rfl (by kernel_rfl) (by kernel_rfl) (by kernel_rfl) (fun _ _ _ h => h) (Or.inl ⟨by rfl, ?_⟩) hS ?_
          rotate_left 1
          · intro w hw; obtain ⟨s0, s1⟩ := hw; go_simp; try (with_reducible rfl)
          simp only [Act.put, List.setIfInBounds_toArray, List.set_cons_zero, List.set_cons_succ]
          refine wpAnyH_take (i := 2) (oi := { dst := some 25, op := .move (.tmp 5), type := 3, pos := "law.go:55", after := #[], guard := none }) (v := ?_) rfl (by kernel_rfl) (by kernel_rfl) (by kernel_rfl) (fun _ _ _ h => h) (Or.inl ⟨by rfl, ?_⟩) hS ?_
          rotate_left 1
          · intro w hw; obtain ⟨s0, s1⟩ := hw; go_simp; try (with_reducible rfl)
          simp only [Act.put, List.setIfInBounds_toArray, List.set_cons_zero, List.set_cons_succ]
          refine wpAnyH_take (i := 3) (oi := { dst := some 26, op := .slice 28 (.tmp 24) none (some (.tmp 25)) none, type := 28, pos := "law.go:55", after := #[{ on := 1, ground := .data }, { on := 2, ground := .data }], guard := none }) (v := ?_) rfl (by kernel_rfl) (by kernel_rfl) (by kernel_rfl) (fun _ _ _ h => h) (Or.inl ⟨by rfl, ?_⟩) hS ?_
          rotate_left 1
          · intro w hw; obtain ⟨s0, s1⟩ := hw; go_simp; try (with_reducible rfl)
          simp only [Act.put, List.setIfInBounds_toArray, List.set_cons_zero, List.set_cons_succ]
          refine wpAnyH_take (i := 5) (oi := { dst := some 28, op := .load 30 (.tmp 3), type := 30, pos := "law.go:55", after := #[], guard := none }) (v := ?_) rfl (by kernel_rfl) (by kernel_rfl) (by kernel_rfl) (fun _ _ _ h => h) (Or.inl ⟨by rfl, ?_⟩) hS ?_
          rotate_left 1
          · intro w hw; obtain ⟨s0, s1⟩ := hw; go_simp; try (with_reducible rfl)
          simp only [Act.put, List.setIfInBounds_toArray, List.set_cons_zero, List.set_cons_succ]
          refine wpAnyH_take (i := 8) (oi := { dst := some 31, op := .move (.tmp 0), type := 28, pos := "law.go:55", after := #[], guard := none }) (v := ?_) rfl (by kernel_rfl) (by kernel_rfl) (by kernel_rfl) (fun _ _ _ h => h) (Or.inl ⟨by rfl, ?_⟩) hS ?_
          rotate_left 1
          · intro w hw; obtain ⟨s0, s1⟩ := hw; go_simp; try (with_reducible rfl)
          simp only [Act.put, List.setIfInBounds_toArray, List.set_cons_zero, List.set_cons_succ]
          refine wpAnyH_take (i := 9) (oi := { dst := some 32, op := .move (.tmp 5), type := 3, pos := "law.go:55", after := #[], guard := none }) (v := ?_) rfl (by kernel_rfl) (by kernel_rfl) (by kernel_rfl) (fun _ _ _ h => h) (Or.inl ⟨by rfl, ?_⟩) hS ?_
          rotate_left 1
          · intro w hw; obtain ⟨s0, s1⟩ := hw; go_simp; try (with_reducible rfl)
          simp only [Act.put, List.setIfInBounds_toArray, List.set_cons_zero, List.set_cons_succ]
          refine wpAnyH_take (i := 10) (oi := { dst := some 33, op := .slice 28 (.tmp 31) (some (.tmp 32)) none none, type := 28, pos := "law.go:55", after := #[{ on := 8, ground := .data }, { on := 9, ground := .data }], guard := none }) (v := ?_) rfl (by kernel_rfl) (by kernel_rfl) (by kernel_rfl) (fun _ _ _ h => h) (Or.inl ⟨by rfl, ?_⟩) hS ?_
          rotate_left 1
          · intro w hw; obtain ⟨s0, s1⟩ := hw; go_simp; try (with_reducible rfl)
          simp only [Act.put, List.setIfInBounds_toArray, List.set_cons_zero, List.set_cons_succ]
          refine wpAnyH_ready (rs := [0, 6]) (by kernel_rfl) (by simp) (AllReadyH.cons (o := { dst := some 23, op := .buildSlice 28 0 #[], type := 28, pos := "law.go:55", after := #[], guard := none }) rfl (fun K hK => ?_) (AllReadyH.cons (o := { dst := some 29, op := .buildSlice 28 1 #[(0, .tmp 28)], type := 28, pos := "law.go:55", after := #[{ on := 5, ground := .data }], guard := none }) rfl (fun K hK => ?_) AllReadyH.nil))
          · go_simp
            refine hK.out _ _ (HC.out _ ((PQ.fresh (PQ.start wq.drew a x))).b) (fun hHeld => ?_)
            clear hK K
            try simp only [Act.put, List.setIfInBounds_toArray, List.set_cons_zero, List.set_cons_succ]
            refine wpAnyH_ready (rs := [4, 6]) (by kernel_rfl) (by simp) (AllReadyH.cons (o := { dst := some 27, op := .call { callee := .builtin .append, args := #[.tmp 23, .tmp 26], argTypes := #[28, 28] }, type := 28, pos := "law.go:55", after := #[{ on := 0, ground := .data }, { on := 3, ground := .data }], guard := none }) rfl (fun K hK => ?_) (AllReadyH.cons (o := { dst := some 29, op := .buildSlice 28 1 #[(0, .tmp 28)], type := 28, pos := "law.go:55", after := #[{ on := 5, ground := .data }], guard := none }) rfl (fun K hK => ?_) AllReadyH.nil))
            · rw [if_pos (by rfl)]
              refine wp_append_vary (.tmp 23) (.tmp 26) 28 (by rfl) wq.drew.heap.size 30 i0 (.agg #[.int .i64 0, .int .i64 0]) 2 16 Tryd.underlying28 hi hz0 hz1 hz2 rfl (by decide) _ 0 [] (by first | rfl | simp [go_sem]) ((PQ.fresh (PQ.start wq.drew a x))).own _ cap _ (prow (X.take cap)) (by first | rfl | simp [go_sem]) HL1.out (fun h => by cases h) (HS.out.1 _ ((PQ.fresh (PQ.start wq.drew a x))).b) (prow_one' _) (by unfold maxLen; omega) (by omega) (((PQ.fresh (PQ.start wq.drew a x))).b.size) ?_
              intro v4 w4 hown hgrow hat
              have P4 := Lib.hid (((PQ.fresh (PQ.start wq.drew a x))).grow hown hgrow hat)
              clear hown hgrow hat
              refine hK.out _ _ (HC.out _ P4.out.b) (fun hHeld => ?_)
              clear hK K
              try simp only [Act.put, List.setIfInBounds_toArray, List.set_cons_zero, List.set_cons_succ]
              refine wpAnyH_ready (rs := [6]) (by kernel_rfl) (by simp) (AllReadyH.cons (o := { dst := some 29, op := .buildSlice 28 1 #[(0, .tmp 28)], type := 28, pos := "law.go:55", after := #[{ on := 5, ground := .data }], guard := none }) rfl (fun K hK => ?_) AllReadyH.nil)
              go_simp
              refine hK.out _ _ (HC.out _ ((PQ.note P4.out)).b) (fun hHeld => ?_)
              clear hK K
              try simp only [Act.put, List.setIfInBounds_toArray, List.set_cons_zero, List.set_cons_succ]
              refine wpAnyH_ready (rs := [7]) (by kernel_rfl) (by simp) (AllReadyH.cons (o := { dst := some 30, op := .call { callee := .builtin .append, args := #[.tmp 27, .tmp 29], argTypes := #[28, 28] }, type := 28, pos := "law.go:55", after := #[{ on := 4, ground := .data }, { on := 6, ground := .data }, { on := 4, ground := .chain }], guard := none }) rfl (fun K hK => ?_) AllReadyH.nil)
              rw [if_pos (by rfl)]
              refine wp_append_vary (.tmp 27) (.tmp 29) 28 (by rfl) wq.drew.heap.size 30 i0 (.agg #[.int .i64 0, .int .i64 0]) 2 16 Tryd.underlying28 hi hz0 hz1 hz2 rfl (by decide) _ (0 + cap) ([] ++ prow (X.take cap)) (by first | rfl | simp [go_sem]) ((PQ.note P4.out)).own _ 1 1 [.int .i64 a, .int .i64 x] (by first | rfl | simp [go_sem]) rfl (fun h => by cases h) (((PQ.note P4.out)).src) (prow_one' _) (by unfold maxLen; omega) (by omega) (((PQ.note P4.out)).b.size) ?_
              intro v7 w7 hown hgrow hat
              have P7 := Lib.hid (((PQ.note P4.out)).grow hown hgrow hat)
              clear hown hgrow hat
              refine hK.out _ _ (HC.out _ P7.out.b) (fun hHeld => ?_)
              clear hK K
              try simp only [Act.put, List.setIfInBounds_toArray, List.set_cons_zero, List.set_cons_succ]
              refine wpAnyH_ready (rs := [11]) (by kernel_rfl) (by simp) (AllReadyH.cons (o := { dst := some 34, op := .call { callee := .builtin .append, args := #[.tmp 30, .tmp 33], argTypes := #[28, 28] }, type := 28, pos := "law.go:55", after := #[{ on := 7, ground := .data }, { on := 10, ground := .data }, { on := 7, ground := .chain }], guard := none }) rfl (fun K hK => ?_) AllReadyH.nil)
              rw [if_pos (by rfl)]
              refine wp_append_vary (.tmp 30) (.tmp 33) 28 (by rfl) wq.drew.heap.size 30 i0 (.agg #[.int .i64 0, .int .i64 0]) 2 16 Tryd.underlying28 hi hz0 hz1 hz2 rfl (by decide) _ (0 + cap + 1) ([] ++ prow (X.take cap) ++ [.int .i64 a, .int .i64 x]) (by first | rfl | simp [go_sem]) (P7.out).own _ 0 _ (prow (X.drop cap)) (by first | rfl | simp [go_sem]) HL2.out (fun h => by cases h) (fun ad hd => HS.out.2 _ P7.out.b ad (.inr (by rw [HNr.out]; rfl))) (prow_one' _) (by unfold maxLen; omega) (by omega) ((P7.out).b.size) ?_
              intro v11 w11 hown hgrow hat
              have P11 := Lib.hid ((P7.out).grow hown hgrow hat)
              clear hown hgrow hat
              refine hK.out _ _ (HC.out _ P11.out.b) (fun hHeld => ?_)
              clear hK K
              try simp only [Act.put, List.setIfInBounds_toArray, List.set_cons_zero, List.set_cons_succ]
              refine wpAnyH_ready (rs := [12]) (by kernel_rfl) (by simp) (AllReadyH.cons (o := { dst := some 4, op := .assign (.tmp 34), type := 28, pos := "law.go:55", after := #[{ on := 11, ground := .data }, { on := 11, ground := .chain }, { on := 0, ground := .phase }, { on := 1, ground := .phase }, { on := 2, ground := .phase }, { on := 3, ground := .phase }, { on := 4, ground := .phase }, { on := 5, ground := .phase }, { on := 6, ground := .phase }, { on := 7, ground := .phase }, { on := 8, ground := .phase }, { on := 9, ground := .phase }, { on := 10, ground := .phase }, { on := 11, ground := .phase }], guard := none }) rfl (fun K hK => ?_) AllReadyH.nil)
              go_simp
              refine hK.out _ _ (HC.out _ P11.out.b) (fun hHeld => ?_)
              clear hK K
              try simp only [Act.put, List.setIfInBounds_toArray, List.set_cons_zero, List.set_cons_succ]
              refine wpAnyH_done (by kernel_rfl) ?_ _
              have HF := Lib.hid (put_end P11.out HQ.out.2.2 (by rw [HNr.out]))
              go_wp2
              go_ret
              first | exact ⟨cap, v11, HP.out, rfl, HF.out.1, HF.out.2⟩ | exact ⟨cap, HP.out, v11, rfl, HF.out.1, HF.out.2⟩ | exact ⟨cap, HP.out, v11, by simp [go_sem], HF.out.1, HF.out.2⟩
            · go_simp
              refine hK.out _ _ (HC.out _ ((PQ.note (PQ.fresh (PQ.start wq.drew a x)))).b) (fun hHeld => ?_)
              clear hK K
              try simp only [Act.put, List.setIfInBounds_toArray, List.set_cons_zero, List.set_cons_succ]
              refine wpAnyH_ready (rs := [4]) (by kernel_rfl) (by simp) (AllReadyH.cons (o := { dst := some 27, op := .call { callee := .builtin .append, args := #[.tmp 23, .tmp 26], argTypes := #[28, 28] }, type := 28, pos := "law.go:55", after := #[{ on := 0, ground := .data }, { on := 3, ground := .data }], guard := none }) rfl (fun K hK => ?_) AllReadyH.nil)
              rw [if_pos (by rfl)]
              refine wp_append_vary (.tmp 23) (.tmp 26) 28 (by rfl) wq.drew.heap.size 30 i0 (.agg #[.int .i64 0, .int .i64 0]) 2 16 Tryd.underlying28 hi hz0 hz1 hz2 rfl (by decide) _ 0 [] (by first | rfl | simp [go_sem]) ((PQ.note (PQ.fresh (PQ.start wq.drew a x)))).own _ cap _ (prow (X.take cap)) (by first | rfl | simp [go_sem]) HL1.out (fun h => by cases h) (HS.out.1 _ ((PQ.note (PQ.fresh (PQ.start wq.drew a x)))).b) (prow_one' _) (by unfold maxLen; omega) (by omega) (((PQ.note (PQ.fresh (PQ.start wq.drew a x)))).b.size) ?_
              intro v4 w4 hown hgrow hat
              have P4 := Lib.hid (((PQ.note (PQ.fresh (PQ.start wq.drew a x)))).grow hown hgrow hat)
              clear hown hgrow hat
              refine hK.out _ _ (HC.out _ P4.out.b) (fun hHeld => ?_)
              clear hK K
              try simp only [Act.put, List.setIfInBounds_toArray, List.set_cons_zero, List.set_cons_succ]
              refine wpAnyH_ready (rs := [7]) (by kernel_rfl) (by simp) (AllReadyH.cons (o := { dst := some 30, op := .call { callee := .builtin .append, args := #[.tmp 27, .tmp 29], argTypes := #[28, 28] }, type := 28, pos := "law.go:55", after := #[{ on := 4, ground := .data }, { on := 6, ground := .data }, { on := 4, ground := .chain }], guard := none }) rfl (fun K hK => ?_) AllReadyH.nil)
              rw [if_pos (by rfl)]
              refine wp_append_vary (.tmp 27) (.tmp 29) 28 (by rfl) wq.drew.heap.size 30 i0 (.agg #[.int .i64 0, .int .i64 0]) 2 16 Tryd.underlying28 hi hz0 hz1 hz2 rfl (by decide) _ (0 + cap) ([] ++ prow (X.take cap)) (by first | rfl | simp [go_sem]) (P4.out).own _ 1 1 [.int .i64 a, .int .i64 x] (by first | rfl | simp [go_sem]) rfl (fun h => by cases h) ((P4.out).src) (prow_one' _) (by unfold maxLen; omega) (by omega) ((P4.out).b.size) ?_
              intro v7 w7 hown hgrow hat
              have P7 := Lib.hid ((P4.out).grow hown hgrow hat)
              clear hown hgrow hat
              refine hK.out _ _ (HC.out _ P7.out.b) (fun hHeld => ?_)
              clear hK K
              try simp only [Act.put, List.setIfInBounds_toArray, List.set_cons_zero, List.set_cons_succ]
              refine wpAnyH_ready (rs := [11]) (by kernel_rfl) (by simp) (AllReadyH.cons (o := { dst := some 34, op := .call { callee := .builtin .append, args := #[.tmp 30, .tmp 33], argTypes := #[28, 28] }, type := 28, pos := "law.go:55", after := #[{ on := 7, ground := .data }, { on := 10, ground := .data }, { on := 7, ground := .chain }], guard := none }) rfl (fun K hK => ?_) AllReadyH.nil)
              rw [if_pos (by rfl)]
              refine wp_append_vary (.tmp 30) (.tmp 33) 28 (by rfl) wq.drew.heap.size 30 i0 (.agg #[.int .i64 0, .int .i64 0]) 2 16 Tryd.underlying28 hi hz0 hz1 hz2 rfl (by decide) _ (0 + cap + 1) ([] ++ prow (X.take cap) ++ [.int .i64 a, .int .i64 x]) (by first | rfl | simp [go_sem]) (P7.out).own _ 0 _ (prow (X.drop cap)) (by first | rfl | simp [go_sem]) HL2.out (fun h => by cases h) (fun ad hd => HS.out.2 _ P7.out.b ad (.inr (by rw [HNr.out]; rfl))) (prow_one' _) (by unfold maxLen; omega) (by omega) ((P7.out).b.size) ?_
              intro v11 w11 hown hgrow hat
              have P11 := Lib.hid ((P7.out).grow hown hgrow hat)
              clear hown hgrow hat
              refine hK.out _ _ (HC.out _ P11.out.b) (fun hHeld => ?_)
              clear hK K
              try simp only [Act.put, List.setIfInBounds_toArray, List.set_cons_zero, List.set_cons_succ]
              refine wpAnyH_ready (rs := [12]) (by kernel_rfl) (by simp) (AllReadyH.cons (o := { dst := some 4, op := .assign (.tmp 34), type := 28, pos := "law.go:55", after := #[{ on := 11, ground := .data }, { on := 11, ground := .chain }, { on := 0, ground := .phase }, { on := 1, ground := .phase }, { on := 2, ground := .phase }, { on := 3, ground := .phase }, { on := 4, ground := .phase }, { on := 5, ground := .phase }, { on := 6, ground := .phase }, { on := 7, ground := .phase }, { on := 8, ground := .phase }, { on := 9, ground := .phase }, { on := 10, ground := .phase }, { on := 11, ground := .phase }], guard := none }) rfl (fun K hK => ?_) AllReadyH.nil)
              go_simp
              refine hK.out _ _ (HC.out _ P11.out.b) (fun hHeld => ?_)
              clear hK K
              try simp only [Act.put, List.setIfInBounds_toArray, List.set_cons_zero, List.set_cons_succ]
              refine wpAnyH_done (by kernel_rfl) ?_ _
              have HF := Lib.hid (put_end P11.out HQ.out.2.2 (by rw [HNr.out]))
              go_wp2
              go_ret
              first | exact ⟨cap, v11, HP.out, rfl, HF.out.1, HF.out.2⟩ | exact ⟨cap, HP.out, v11, rfl, HF.out.1, HF.out.2⟩ | exact ⟨cap, HP.out, v11, by simp [go_sem], HF.out.1, HF.out.2⟩
          · go_simp
            refine hK.out _ _ (HC.out _ ((PQ.note (PQ.start wq.drew a x))).b) (fun hHeld => ?_)
            clear hK K
            try simp only [Act.put, List.setIfInBounds_toArray, List.set_cons_zero, List.set_cons_succ]
            refine wpAnyH_ready (rs := [0]) (by kernel_rfl) (by simp) (AllReadyH.cons (o := { dst := some 23, op := .buildSlice 28 0 #[], type := 28, pos := "law.go:55", after := #[], guard := none }) rfl (fun K hK => ?_) AllReadyH.nil)
            go_simp
            refine hK.out _ _ (HC.out _ ((PQ.fresh (PQ.note (PQ.start wq.drew a x)))).b) (fun hHeld => ?_)
            clear hK K
            try simp only [Act.put, List.setIfInBounds_toArray, List.set_cons_zero, List.set_cons_succ]
            refine wpAnyH_ready (rs := [4]) (by kernel_rfl) (by simp) (AllReadyH.cons (o := { dst := some 27, op := .call { callee := .builtin .append, args := #[.tmp 23, .tmp 26], argTypes := #[28, 28] }, type := 28, pos := "law.go:55", after := #[{ on := 0, ground := .data }, { on := 3, ground := .data }], guard := none }) rfl (fun K hK => ?_) AllReadyH.nil)
            rw [if_pos (by rfl)]
            refine wp_append_vary (.tmp 23) (.tmp 26) 28 (by rfl) wq.drew.heap.size 30 i0 (.agg #[.int .i64 0, .int .i64 0]) 2 16 Tryd.underlying28 hi hz0 hz1 hz2 rfl (by decide) _ 0 [] (by first | rfl | simp [go_sem]) ((PQ.fresh (PQ.note (PQ.start wq.drew a x)))).own _ cap _ (prow (X.take cap)) (by first | rfl | simp [go_sem]) HL1.out (fun h => by cases h) (HS.out.1 _ ((PQ.fresh (PQ.note (PQ.start wq.drew a x)))).b) (prow_one' _) (by unfold maxLen; omega) (by omega) (((PQ.fresh (PQ.note (PQ.start wq.drew a x)))).b.size) ?_
            intro v4 w4 hown hgrow hat
            have P4 := Lib.hid (((PQ.fresh (PQ.note (PQ.start wq.drew a x)))).grow hown hgrow hat)
            clear hown hgrow hat
            refine hK.out _ _ (HC.out _ P4.out.b) (fun hHeld => ?_)
            clear hK K
            try simp only [Act.put, List.setIfInBounds_toArray, List.set_cons_zero, List.set_cons_succ]
            refine wpAnyH_ready (rs := [7]) (by kernel_rfl) (by simp) (AllReadyH.cons (o := { dst := some 30, op := .call { callee := .builtin .append, args := #[.tmp 27, .tmp 29], argTypes := #[28, 28] }, type := 28, pos := "law.go:55", after := #[{ on := 4, ground := .data }, { on := 6, ground := .data }, { on := 4, ground := .chain }], guard := none }) rfl (fun K hK => ?_) AllReadyH.nil)
            rw [if_pos (by rfl)]
            refine wp_append_vary (.tmp 27) (.tmp 29) 28 (by rfl) wq.drew.heap.size 30 i0 (.agg #[.int .i64 0, .int .i64 0]) 2 16 Tryd.underlying28 hi hz0 hz1 hz2 rfl (by decide) _ (0 + cap) ([] ++ prow (X.take cap)) (by first | rfl | simp [go_sem]) (P4.out).own _ 1 1 [.int .i64 a, .int .i64 x] (by first | rfl | simp [go_sem]) rfl (fun h => by cases h) ((P4.out).src) (prow_one' _) (by unfold maxLen; omega) (by omega) ((P4.out).b.size) ?_
            intro v7 w7 hown hgrow hat
            have P7 := Lib.hid ((P4.out).grow hown hgrow hat)
            clear hown hgrow hat
            refine hK.out _ _ (HC.out _ P7.out.b) (fun hHeld => ?_)
            clear hK K
            try simp only [Act.put, List.setIfInBounds_toArray, List.set_cons_zero, List.set_cons_succ]
            refine wpAnyH_ready (rs := [11]) (by kernel_rfl) (by simp) (AllReadyH.cons (o := { dst := some 34, op := .call { callee := .builtin .append, args := #[.tmp 30, .tmp 33], argTypes := #[28, 28] }, type := 28, pos := "law.go:55", after := #[{ on := 7, ground := .data }, { on := 10, ground := .data }, { on := 7, ground := .chain }], guard := none }) rfl (fun K hK => ?_) AllReadyH.nil)
            rw [if_pos (by rfl)]
            refine wp_append_vary (.tmp 30) (.tmp 33) 28 (by rfl) wq.drew.heap.size 30 i0 (.agg #[.int .i64 0, .int .i64 0]) 2 16 Tryd.underlying28 hi hz0 hz1 hz2 rfl (by decide) _ (0 + cap + 1) ([] ++ prow (X.take cap) ++ [.int .i64 a, .int .i64 x]) (by first | rfl | simp [go_sem]) (P7.out).own _ 0 _ (prow (X.drop cap)) (by first | rfl | simp [go_sem]) HL2.out (fun h => by cases h) (fun ad hd => HS.out.2 _ P7.out.b ad (.inr (by rw [HNr.out]; rfl))) (prow_one' _) (by unfold maxLen; omega) (by omega) ((P7.out).b.size) ?_
            intro v11 w11 hown hgrow hat
            have P11 := Lib.hid ((P7.out).grow hown hgrow hat)
            clear hown hgrow hat
            refine hK.out _ _ (HC.out _ P11.out.b) (fun hHeld => ?_)
            clear hK K
            try simp only [Act.put, List.setIfInBounds_toArray, List.set_cons_zero, List.set_cons_succ]
            refine wpAnyH_ready (rs := [12]) (by kernel_rfl) (by simp) (AllReadyH.cons (o := { dst := some 4, op := .assign (.tmp 34), type := 28, pos := "law.go:55", after := #[{ on := 11, ground := .data }, { on := 11, ground := .chain }, { on := 0, ground := .phase }, { on := 1, ground := .phase }, { on := 2, ground := .phase }, { on := 3, ground := .phase }, { on := 4, ground := .phase }, { on := 5, ground := .phase }, { on := 6, ground := .phase }, { on := 7, ground := .phase }, { on := 8, ground := .phase }, { on := 9, ground := .phase }, { on := 10, ground := .phase }, { on := 11, ground := .phase }], guard := none }) rfl (fun K hK => ?_) AllReadyH.nil)
            go_simp
            refine hK.out _ _ (HC.out _ P11.out.b) (fun hHeld => ?_)
            clear hK K
            try simp only [Act.put, List.setIfInBounds_toArray, List.set_cons_zero, List.set_cons_succ]
            refine wpAnyH_done (by kernel_rfl) ?_ _
            have HF := Lib.hid (put_end P11.out HQ.out.2.2 (by rw [HNr.out]))
            go_wp2
            go_ret
            first | exact ⟨cap, v11, HP.out, rfl, HF.out.1, HF.out.2⟩ | exact ⟨cap, HP.out, v11, rfl, HF.out.1, HF.out.2⟩ | exact ⟨cap, HP.out, v11, by simp [go_sem], HF.out.1, HF.out.2⟩
        · have hck2 : kk ≤ cap := by omega
          refine wp_region_held_drew (S := fun w' => w'.cell? ⟨X0, 0, none⟩ = some (.int .i64 a) ∧ w'.cell? ⟨X0, 1, none⟩ = some (.int .i64 x)) (by kernel_rfl) (HC.out _ (Below.refl _ _)) (fun hS => ?_)
          refine wpAnyH_take (i := 1) (oi := { dst := some 24, op := .move (.tmp 0), type := 28, pos := "law.go:55", after := #[], guard := none }) (v := ?_) rfl (by kernel_rfl) (by kernel_rfl) (by kernel_rfl) (fun _ _ _ h => h) (Or.inl ⟨by rfl, ?_⟩) hS ?_
          rotate_left 1
          · intro w hw; obtain ⟨s0, s1⟩ := hw; go_simp; try (with_reducible rfl)
          simp only [Act.put, List.setIfInBounds_toArray, List.set_cons_zero, List.set_cons_succ]
          refine wpAnyH_take (i := 2) (oi := { dst := some 25, op := .move (.tmp 5), type := 3, pos := "law.go:55", after := #[], guard := none }) (v := ?_) rfl (by kernel_rfl) (by kernel_rfl) (by kernel_rfl) (fun _ _ _ h => h) (Or.inl ⟨by rfl, ?_⟩) hS ?_
          rotate_left 1
          · intro w hw; obtain ⟨s0, s1⟩ := hw; go_simp; try (with_reducible rfl)
          simp only [Act.put, List.setIfInBounds_toArray, List.set_cons_zero, List.set_cons_succ]
          refine wpAnyH_take (i := 3) (oi := { dst := some 26, op := .slice 28 (.tmp 24) none (some (.tmp 25)) none, type := 28, pos := "law.go:55", after := #[{ on := 1, ground := .data }, { on := 2, ground := .data }], guard := none }) (v := ?_) rfl (by kernel_rfl) (by kernel_rfl) (by kernel_rfl) (fun _ _ _ h => h) (Or.inl ⟨by rfl, ?_⟩) hS ?_
          rotate_left 1
          · intro w hw; obtain ⟨s0, s1⟩ := hw; go_simp; try (with_reducible rfl)
          simp only [Act.put, List.setIfInBounds_toArray, List.set_cons_zero, List.set_cons_succ]
          refine wpAnyH_take (i := 5) (oi := { dst := some 28, op := .load 30 (.tmp 3), type := 30, pos := "law.go:55", after := #[], guard := none }) (v := ?_) rfl (by kernel_rfl) (by kernel_rfl) (by kernel_rfl) (fun _ _ _ h => h) (Or.inl ⟨by rfl, ?_⟩) hS ?_
          rotate_left 1
          · intro w hw; obtain ⟨s0, s1⟩ := hw; go_simp; try (with_reducible rfl)
          simp only [Act.put, List.setIfInBounds_toArray, List.set_cons_zero, List.set_cons_succ]
          refine wpAnyH_take (i := 8) (oi := { dst := some 31, op := .move (.tmp 0), type := 28, pos := "law.go:55", after := #[], guard := none }) (v := ?_) rfl (by kernel_rfl) (by kernel_rfl) (by kernel_rfl) (fun _ _ _ h => h) (Or.inl ⟨by rfl, ?_⟩) hS ?_
          rotate_left 1
          · intro w hw; obtain ⟨s0, s1⟩ := hw; go_simp; try (with_reducible rfl)
          simp only [Act.put, List.setIfInBounds_toArray, List.set_cons_zero, List.set_cons_succ]
          refine wpAnyH_take (i := 9) (oi := { dst := some 32, op := .move (.tmp 5), type := 3, pos := "law.go:55", after := #[], guard := none }) (v := ?_) rfl (by kernel_rfl) (by kernel_rfl) (by kernel_rfl) (fun _ _ _ h => h) (Or.inl ⟨by rfl, ?_⟩) hS ?_
          rotate_left 1
          · intro w hw; obtain ⟨s0, s1⟩ := hw; go_simp; try (with_reducible rfl)
          simp only [Act.put, List.setIfInBounds_toArray, List.set_cons_zero, List.set_cons_succ]
          refine wpAnyH_take (i := 10) (oi := { dst := some 33, op := .slice 28 (.tmp 31) (some (.tmp 32)) none none, type := 28, pos := "law.go:55", after := #[{ on := 8, ground := .data }, { on := 9, ground := .data }], guard := none }) (v := ?_) rfl (by kernel_rfl) (by kernel_rfl) (by kernel_rfl) (fun _ _ _ h => h) (Or.inl ⟨by rfl, ?_⟩) hS ?_
          rotate_left 1
          · intro w hw; obtain ⟨s0, s1⟩ := hw; go_simp; try (with_reducible rfl)
          simp only [Act.put, List.setIfInBounds_toArray, List.set_cons_zero, List.set_cons_succ]
          refine wpAnyH_ready (rs := [0, 6]) (by kernel_rfl) (by simp) (AllReadyH.cons (o := { dst := some 23, op := .buildSlice 28 0 #[], type := 28, pos := "law.go:55", after := #[], guard := none }) rfl (fun K hK => ?_) (AllReadyH.cons (o := { dst := some 29, op := .buildSlice 28 1 #[(0, .tmp 28)], type := 28, pos := "law.go:55", after := #[{ on := 5, ground := .data }], guard := none }) rfl (fun K hK => ?_) AllReadyH.nil))
          · go_simp
            refine hK.out _ _ (HC.out _ ((PQ.fresh (PQ.start wq.drew a x))).b) (fun hHeld => ?_)
            clear hK K
            try simp only [Act.put, List.setIfInBounds_toArray, List.set_cons_zero, List.set_cons_succ]
            refine wpAnyH_ready (rs := [4, 6]) (by kernel_rfl) (by simp) (AllReadyH.cons (o := { dst := some 27, op := .call { callee := .builtin .append, args := #[.tmp 23, .tmp 26], argTypes := #[28, 28] }, type := 28, pos := "law.go:55", after := #[{ on := 0, ground := .data }, { on := 3, ground := .data }], guard := none }) rfl (fun K hK => ?_) (AllReadyH.cons (o := { dst := some 29, op := .buildSlice 28 1 #[(0, .tmp 28)], type := 28, pos := "law.go:55", after := #[{ on := 5, ground := .data }], guard := none }) rfl (fun K hK => ?_) AllReadyH.nil))
            · rw [if_pos (by rfl)]
              refine wp_append_vary (.tmp 23) (.tmp 26) 28 (by rfl) wq.drew.heap.size 30 i0 (.agg #[.int .i64 0, .int .i64 0]) 2 16 Tryd.underlying28 hi hz0 hz1 hz2 rfl (by decide) _ 0 [] (by first | rfl | simp [go_sem]) ((PQ.fresh (PQ.start wq.drew a x))).own _ kk _ (prow (X.take kk)) (by first | rfl | simp [go_sem]) HL1.out (fun h => by cases h) (HS.out.1 _ ((PQ.fresh (PQ.start wq.drew a x))).b) (prow_one' _) (by unfold maxLen; omega) (by omega) (((PQ.fresh (PQ.start wq.drew a x))).b.size) ?_
              intro v4 w4 hown hgrow hat
              have P4 := Lib.hid (((PQ.fresh (PQ.start wq.drew a x))).grow hown hgrow hat)
              clear hown hgrow hat
              refine hK.out _ _ (HC.out _ P4.out.b) (fun hHeld => ?_)
              clear hK K
              try simp only [Act.put, List.setIfInBounds_toArray, List.set_cons_zero, List.set_cons_succ]
              refine wpAnyH_ready (rs := [6]) (by kernel_rfl) (by simp) (AllReadyH.cons (o := { dst := some 29, op := .buildSlice 28 1 #[(0, .tmp 28)], type := 28, pos := "law.go:55", after := #[{ on := 5, ground := .data }], guard := none }) rfl (fun K hK => ?_) AllReadyH.nil)
              go_simp
              refine hK.out _ _ (HC.out _ ((PQ.note P4.out)).b) (fun hHeld => ?_)
              clear hK K
              try simp only [Act.put, List.setIfInBounds_toArray, List.set_cons_zero, List.set_cons_succ]
              refine wpAnyH_ready (rs := [7]) (by kernel_rfl) (by simp) (AllReadyH.cons (o := { dst := some 30, op := .call { callee := .builtin .append, args := #[.tmp 27, .tmp 29], argTypes := #[28, 28] }, type := 28, pos := "law.go:55", after := #[{ on := 4, ground := .data }, { on := 6, ground := .data }, { on := 4, ground := .chain }], guard := none }) rfl (fun K hK => ?_) AllReadyH.nil)
              rw [if_pos (by rfl)]
              refine wp_append_vary (.tmp 27) (.tmp 29) 28 (by rfl) wq.drew.heap.size 30 i0 (.agg #[.int .i64 0, .int .i64 0]) 2 16 Tryd.underlying28 hi hz0 hz1 hz2 rfl (by decide) _ (0 + kk) ([] ++ prow (X.take kk)) (by first | rfl | simp [go_sem]) ((PQ.note P4.out)).own _ 1 1 [.int .i64 a, .int .i64 x] (by first | rfl | simp [go_sem]) rfl (fun h => by cases h) (((PQ.note P4.out)).src) (prow_one' _) (by unfold maxLen; omega) (by omega) (((PQ.note P4.out)).b.size) ?_
              intro v7 w7 hown hgrow hat
              have P7 := Lib.hid (((PQ.note P4.out)).grow hown hgrow hat)
              clear hown hgrow hat
              refine hK.out _ _ (HC.out _ P7.out.b) (fun hHeld => ?_)
              clear hK K
              try simp only [Act.put, List.setIfInBounds_toArray, List.set_cons_zero, List.set_cons_succ]
              refine wpAnyH_ready (rs := [11]) (by kernel_rfl) (by simp) (AllReadyH.cons (o := { dst := some 34, op := .call { callee := .builtin .append, args := #[.tmp 30, .tmp 33], argTypes := #[28, 28] }, type := 28, pos := "law.go:55", after := #[{ on := 7, ground := .data }, { on := 10, ground := .data }, { on := 7, ground := .chain }], guard := none }) rfl (fun K hK => ?_) AllReadyH.nil)
              rw [if_pos (by rfl)]
              refine wp_append_vary (.tmp 30) (.tmp 33) 28 (by rfl) wq.drew.heap.size 30 i0 (.agg #[.int .i64 0, .int .i64 0]) 2 16 Tryd.underlying28 hi hz0 hz1 hz2 rfl (by decide) _ (0 + kk + 1) ([] ++ prow (X.take kk) ++ [.int .i64 a, .int .i64 x]) (by first | rfl | simp [go_sem]) (P7.out).own _ r _ (prow (X.drop kk)) (by first | rfl | simp [go_sem]) HL2.out (fun h => by cases h) (fun ad hd => HS.out.2 _ P7.out.b ad (.inl hd.symm)) (prow_one' _) (by unfold maxLen; omega) (by omega) ((P7.out).b.size) ?_
              intro v11 w11 hown hgrow hat
              have P11 := Lib.hid ((P7.out).grow hown hgrow hat)
              clear hown hgrow hat
              refine hK.out _ _ (HC.out _ P11.out.b) (fun hHeld => ?_)
              clear hK K
              try simp only [Act.put, List.setIfInBounds_toArray, List.set_cons_zero, List.set_cons_succ]
              refine wpAnyH_ready (rs := [12]) (by kernel_rfl) (by simp) (AllReadyH.cons (o := { dst := some 4, op := .assign (.tmp 34), type := 28, pos := "law.go:55", after := #[{ on := 11, ground := .data }, { on := 11, ground := .chain }, { on := 0, ground := .phase }, { on := 1, ground := .phase }, { on := 2, ground := .phase }, { on := 3, ground := .phase }, { on := 4, ground := .phase }, { on := 5, ground := .phase }, { on := 6, ground := .phase }, { on := 7, ground := .phase }, { on := 8, ground := .phase }, { on := 9, ground := .phase }, { on := 10, ground := .phase }, { on := 11, ground := .phase }], guard := none }) rfl (fun K hK => ?_) AllReadyH.nil)
              go_simp
              refine hK.out _ _ (HC.out _ P11.out.b) (fun hHeld => ?_)
              clear hK K
              try simp only [Act.put, List.setIfInBounds_toArray, List.set_cons_zero, List.set_cons_succ]
              refine wpAnyH_done (by kernel_rfl) ?_ _
              have HF := Lib.hid (put_end P11.out HQ.out.2.2 (by rw [HNr.out]))
              go_wp2
              go_ret
              first | exact ⟨kk, v11, HP.out, rfl, HF.out.1, HF.out.2⟩ | exact ⟨kk, HP.out, v11, rfl, HF.out.1, HF.out.2⟩ | exact ⟨kk, HP.out, v11, by simp [go_sem], HF.out.1, HF.out.2⟩
            · go_simp
              refine hK.out _ _ (HC.out _ ((PQ.note (PQ.fresh (PQ.start wq.drew a x)))).b) (fun hHeld => ?_)
              clear hK K
              try simp only [Act.put, List.setIfInBounds_toArray, List.set_cons_zero, List.set_cons_succ]
              refine wpAnyH_ready (rs := [4]) (by kernel_rfl) (by simp) (AllReadyH.cons (o := { dst := some 27, op := .call { callee := .builtin .append, args := #[.tmp 23, .tmp 26], argTypes := #[28, 28] }, type := 28, pos := "law.go:55", after := #[{ on := 0, ground := .data }, { on := 3, ground := .data }], guard := none }) rfl (fun K hK => ?_) AllReadyH.nil)
              rw [if_pos (by rfl)]
              refine wp_append_vary (.tmp 23) (.tmp 26) 28 (by rfl) wq.drew.heap.size 30 i0 (.agg #[.int .i64 0, .int .i64 0]) 2 16 Tryd.underlying28 hi hz0 hz1 hz2 rfl (by decide) _ 0 [] (by first | rfl | simp [go_sem]) ((PQ.note (PQ.fresh (PQ.start wq.drew a x)))).own _ kk _ (prow (X.take kk)) (by first | rfl | simp [go_sem]) HL1.out (fun h => by cases h) (HS.out.1 _ ((PQ.note (PQ.fresh (PQ.start wq.drew a x)))).b) (prow_one' _) (by unfold maxLen; omega) (by omega) (((PQ.note (PQ.fresh (PQ.start wq.drew a x)))).b.size) ?_
              intro v4 w4 hown hgrow hat
              have P4 := Lib.hid (((PQ.note (PQ.fresh (PQ.start wq.drew a x)))).grow hown hgrow hat)
              clear hown hgrow hat
              refine hK.out _ _ (HC.out _ P4.out.b) (fun hHeld => ?_)
              clear hK K
              try simp only [Act.put, List.setIfInBounds_toArray, List.set_cons_zero, List.set_cons_succ]
              refine wpAnyH_ready (rs := [7]) (by kernel_rfl) (by simp) (AllReadyH.cons (o := { dst := some 30, op := .call { callee := .builtin .append, args := #[.tmp 27, .tmp 29], argTypes := #[28, 28] }, type := 28, pos := "law.go:55", after := #[{ on := 4, ground := .data }, { on := 6, ground := .data }, { on := 4, ground := .chain }], guard := none }) rfl (fun K hK => ?_) AllReadyH.nil)
              rw [if_pos (by rfl)]
              refine wp_append_vary (.tmp 27) (.tmp 29) 28 (by rfl) wq.drew.heap.size 30 i0 (.agg #[.int .i64 0, .int .i64 0]) 2 16 Tryd.underlying28 hi hz0 hz1 hz2 rfl (by decide) _ (0 + kk) ([] ++ prow (X.take kk)) (by first | rfl | simp [go_sem]) (P4.out).own _ 1 1 [.int .i64 a, .int .i64 x] (by first | rfl | simp [go_sem]) rfl (fun h => by cases h) ((P4.out).src) (prow_one' _) (by unfold maxLen; omega) (by omega) ((P4.out).b.size) ?_
              intro v7 w7 hown hgrow hat
              have P7 := Lib.hid ((P4.out).grow hown hgrow hat)
              clear hown hgrow hat
              refine hK.out _ _ (HC.out _ P7.out.b) (fun hHeld => ?_)
              clear hK K
              try simp only [Act.put, List.setIfInBounds_toArray, List.set_cons_zero, List.set_cons_succ]
              refine wpAnyH_ready (rs := [11]) (by kernel_rfl) (by simp) (AllReadyH.cons (o := { dst := some 34, op := .call { callee := .builtin .append, args := #[.tmp 30, .tmp 33], argTypes := #[28, 28] }, type := 28, pos := "law.go:55", after := #[{ on := 7, ground := .data }, { on := 10, ground := .data }, { on := 7, ground := .chain }], guard := none }) rfl (fun K hK => ?_) AllReadyH.nil)
              rw [if_pos (by rfl)]
              refine wp_append_vary (.tmp 30) (.tmp 33) 28 (by rfl) wq.drew.heap.size 30 i0 (.agg #[.int .i64 0, .int .i64 0]) 2 16 Tryd.underlying28 hi hz0 hz1 hz2 rfl (by decide) _ (0 + kk + 1) ([] ++ prow (X.take kk) ++ [.int .i64 a, .int .i64 x]) (by first | rfl | simp [go_sem]) (P7.out).own _ r _ (prow (X.drop kk)) (by first | rfl | simp [go_sem]) HL2.out (fun h => by cases h) (fun ad hd => HS.out.2 _ P7.out.b ad (.inl hd.symm)) (prow_one' _) (by unfold maxLen; omega) (by omega) ((P7.out).b.size) ?_
              intro v11 w11 hown hgrow hat
              have P11 := Lib.hid ((P7.out).grow hown hgrow hat)
              clear hown hgrow hat
              refine hK.out _ _ (HC.out _ P11.out.b) (fun hHeld => ?_)
              clear hK K
              try simp only [Act.put, List.setIfInBounds_toArray, List.set_cons_zero, List.set_cons_succ]
              refine wpAnyH_ready (rs := [12]) (by kernel_rfl) (by simp) (AllReadyH.cons (o := { dst := some 4, op := .assign (.tmp 34), type := 28, pos := "law.go:55", after := #[{ on := 11, ground := .data }, { on := 11, ground := .chain }, { on := 0, ground := .phase }, { on := 1, ground := .phase }, { on := 2, ground := .phase }, { on := 3, ground := .phase }, { on := 4, ground := .phase }, { on := 5, ground := .phase }, { on := 6, ground := .phase }, { on := 7, ground := .phase }, { on := 8, ground := .phase }, { on := 9, ground := .phase }, { on := 10, ground := .phase }, { on := 11, ground := .phase }], guard := none }) rfl (fun K hK => ?_) AllReadyH.nil)
              go_simp
              refine hK.out _ _ (HC.out _ P11.out.b) (fun hHeld => ?_)
              clear hK K
              try simp only [Act.put, List.setIfInBounds_toArray, List.set_cons_zero, List.set_cons_succ]
              refine wpAnyH_done (by kernel_rfl) ?_ _
              have HF := Lib.hid (put_end P11.out HQ.out.2.2 (by rw [HNr.out]))
              go_wp2
              go_ret
              first | exact ⟨kk, v11, HP.out, rfl, HF.out.1, HF.out.2⟩ | exact ⟨kk, HP.out, v11, rfl, HF.out.1, HF.out.2⟩ | exact ⟨kk, HP.out, v11, by simp [go_sem], HF.out.1, HF.out.2⟩
          · go_simp
            refine hK.out _ _ (HC.out _ ((PQ.note (PQ.start wq.drew a x))).b) (fun hHeld => ?_)
            clear hK K
            try simp only [Act.put, List.setIfInBounds_toArray, List.set_cons_zero, List.set_cons_succ]
            refine wpAnyH_ready (rs := [0]) (by kernel_rfl) (by simp) (AllReadyH.cons (o := { dst := some 23, op := .buildSlice 28 0 #[], type := 28, pos := "law.go:55", after := #[], guard := none }) rfl (fun K hK => ?_) AllReadyH.nil)
            go_simp
            refine hK.out _ _ (HC.out _ ((PQ.fresh (PQ.note (PQ.start wq.drew a x)))).b) (fun hHeld => ?_)
            clear hK K
            try simp only [Act.put, List.setIfInBounds_toArray, List.set_cons_zero, List.set_cons_succ]
            refine wpAnyH_ready (rs := [4]) (by kernel_rfl) (by simp) (AllReadyH.cons (o := { dst := some 27, op := .call { callee := .builtin .append, args := #[.tmp 23, .tmp 26], argTypes := #[28, 28] }, type := 28, pos := "law.go:55", after := #[{ on := 0, ground := .data }, { on := 3, ground := .data }], guard := none }) rfl (fun K hK => ?_) AllReadyH.nil)
            rw [if_pos (by rfl)]
            refine wp_append_vary (.tmp 23) (.tmp 26) 28 (by rfl) wq.drew.heap.size 30 i0 (.agg #[.int .i64 0, .int .i64 0]) 2 16 Tryd.underlying28 hi hz0 hz1 hz2 rfl (by decide) _ 0 [] (by first | rfl | simp [go_sem]) ((PQ.fresh (PQ.note (PQ.start wq.drew a x)))).own _ kk _ (prow (X.take kk)) (by first | rfl | simp [go_sem]) HL1.out (fun h => by cases h) (HS.out.1 _ ((PQ.fresh (PQ.note (PQ.start wq.drew a x)))).b) (prow_one' _) (by unfold maxLen; omega) (by omega) (((PQ.fresh (PQ.note (PQ.start wq.drew a x)))).b.size) ?_
            intro v4 w4 hown hgrow hat
            have P4 := Lib.hid (((PQ.fresh (PQ.note (PQ.start wq.drew a x)))).grow hown hgrow hat)
            clear hown hgrow hat
            refine hK.out _ _ (HC.out _ P4.out.b) (fun hHeld => ?_)
            clear hK K
            try simp only [Act.put, List.setIfInBounds_toArray, List.set_cons_zero, List.set_cons_succ]
            refine wpAnyH_ready (rs := [7]) (by kernel_rfl) (by simp) (AllReadyH.cons (o := { dst := some 30, op := .call { callee := .builtin .append, args := #[.tmp 27, .tmp 29], argTypes := #[28, 28] }, type := 28, pos := "law.go:55", after := #[{ on := 4, ground := .data }, { on := 6, ground := .data }, { on := 4, ground := .chain }], guard := none }) rfl (fun K hK => ?_) AllReadyH.nil)
            rw [if_pos (by rfl)]
            refine wp_append_vary (.tmp 27) (.tmp 29) 28 (by rfl) wq.drew.heap.size 30 i0 (.agg #[.int .i64 0, .int .i64 0]) 2 16 Tryd.underlying28 hi hz0 hz1 hz2 rfl (by decide) _ (0 + kk) ([] ++ prow (X.take kk)) (by first | rfl | simp [go_sem]) (P4.out).own _ 1 1 [.int .i64 a, .int .i64 x] (by first | rfl | simp [go_sem]) rfl (fun h => by cases h) ((P4.out).src) (prow_one' _) (by unfold maxLen; omega) (by omega) ((P4.out).b.size) ?_
            intro v7 w7 hown hgrow hat
            have P7 := Lib.hid ((P4.out).grow hown hgrow hat)
            clear hown hgrow hat
            refine hK.out _ _ (HC.out _ P7.out.b) (fun hHeld => ?_)
            clear hK K
            try simp only [Act.put, List.setIfInBounds_toArray, List.set_cons_zero, List.set_cons_succ]
            refine wpAnyH_ready (rs := [11]) (by kernel_rfl) (by simp) (AllReadyH.cons (o := { dst := some 34, op := .call { callee := .builtin .append, args := #[.tmp 30, .tmp 33], argTypes := #[28, 28] }, type := 28, pos := "law.go:55", after := #[{ on := 7, ground := .data }, { on := 10, ground := .data }, { on := 7, ground := .chain }], guard := none }) rfl (fun K hK => ?_) AllReadyH.nil)
            rw [if_pos (by rfl)]
            refine wp_append_vary (.tmp 30) (.tmp 33) 28 (by rfl) wq.drew.heap.size 30 i0 (.agg #[.int .i64 0, .int .i64 0]) 2 16 Tryd.underlying28 hi hz0 hz1 hz2 rfl (by decide) _ (0 + kk + 1) ([] ++ prow (X.take kk) ++ [.int .i64 a, .int .i64 x]) (by first | rfl | simp [go_sem]) (P7.out).own _ r _ (prow (X.drop kk)) (by first | rfl | simp [go_sem]) HL2.out (fun h => by cases h) (fun ad hd => HS.out.2 _ P7.out.b ad (.inl hd.symm)) (prow_one' _) (by unfold maxLen; omega) (by omega) ((P7.out).b.size) ?_
            intro v11 w11 hown hgrow hat
            have P11 := Lib.hid ((P7.out).grow hown hgrow hat)
            clear hown hgrow hat
            refine hK.out _ _ (HC.out _ P11.out.b) (fun hHeld => ?_)
            clear hK K
            try simp only [Act.put, List.setIfInBounds_toArray, List.set_cons_zero, List.set_cons_succ]
            refine wpAnyH_ready (rs := [12]) (by kernel_rfl) (by simp) (AllReadyH.cons (o := { dst := some 4, op := .assign (.tmp 34), type := 28, pos := "law.go:55", after := #[{ on := 11, ground := .data }, { on := 11, ground := .chain }, { on := 0, ground := .phase }, { on := 1, ground := .phase }, { on := 2, ground := .phase }, { on := 3, ground := .phase }, { on := 4, ground := .phase }, { on := 5, ground := .phase }, { on := 6, ground := .phase }, { on := 7, ground := .phase }, { on := 8, ground := .phase }, { on := 9, ground := .phase }, { on := 10, ground := .phase }, { on := 11, ground := .phase }], guard := none }) rfl (fun K hK => ?_) AllReadyH.nil)
            go_simp
            refine hK.out _ _ (HC.out _ P11.out.b) (fun hHeld => ?_)
            clear hK K
            try simp only [Act.put, List.setIfInBounds_toArray, List.set_cons_zero, List.set_cons_succ]
            refine wpAnyH_done (by kernel_rfl) ?_ _
            have HF := Lib.hid (put_end P11.out HQ.out.2.2 (by rw [HNr.out]))
            go_wp2
            go_ret
            first | exact ⟨kk, v11, HP.out, rfl, HF.out.1, HF.out.2⟩ | exact ⟨kk, HP.out, v11, rfl, HF.out.1, HF.out.2⟩ | exact ⟨kk, HP.out, v11, by simp [go_sem], HF.out.1, HF.out.2⟩

    | succ m =>
      obtain ⟨b, o, hsp, hcs⟩ := HX.out.1
      obtain ⟨rfl, hbl⟩ := hsp (by have := HN.out; omega)
      have hm : m < X.length := by have := HN.out; omega
      have cm : wr.cell? ⟨b, o + m * 2, none⟩ = some (.int .i64 (pth X m).1) := by
        have := hcs (2 * m) _ (prow_at X m hm).1
        rwa [Nat.mul_comm] at this
      obtain ⟨y, hy⟩ : ∃ y, (pth X m).1 = y := ⟨_, rfl⟩
      rw [hy] at cm
      have HY := Lib.hid hy
      have e1 : ((m + 1 : Nat) : Int) - 1 = (m : Nat) := by omega
      have e2 : (0 : Int) < ((m + 1 : Nat) : Int) := by omega
      have e3 : (m : Int) < (N : Int) := by omega
      have e4 : (0 : Int) ≤ (m : Int) := by omega
      clear hsp hcs hy hm hbl
      by_cases hya : a < y
      · go_upto_region 2 with fail
        go_quiet (fail)
        go_wp2
        go_roundg m
        case measure => omega
        case rel =>
          refine ⟨by go_num, by omega, fun j h1 h2 => ?_, HX.out.1.new (below_dn (Below.refl _ _) _), HX.out.2.1, below_dn HX.out.2.2 _⟩
          rcases Nat.lt_or_ge m j with h3 | h3
          · exact HG.out j h3 h2
          · obtain rfl : j = m := by omega
            rw [HY.out]; exact hya
      · have HYA := Lib.hid hya
        have e5 : ¬ a < y := hya
        go_upto_region 2 with fail
        go_quiet (fail)
        go_upto_region 4 with fail
        generalize hwq : World.drewN _ _ = wq
        have HQ := Lib.hid (show NL wq.drew (some ⟨b, o, none⟩) X ∧ RowAt wq.drew X0 30 #[.int .i64 a, .int .i64 x] ∧ Below w.heap.size w wq.drew by
          rw [← hwq]
          exact ⟨(HX.out.1.new (below_dn (Below.refl _ _) _)).new (below_dn (Below.refl _ _) 1), HX.out.2.1, below_dn (below_dn HX.out.2.2 _) 1⟩)
        clear hwq
        have HC := Lib.hid (show ∀ w', Below wq.drew.heap.size wq.drew w' → w'.cell? ⟨X0, 0, none⟩ = some (.int .i64 a) ∧ w'.cell? ⟨X0, 1, none⟩ = some (.int .i64 x) from fun w' hb => ⟨(HQ.out.2.1.new hb).cell 0, (HQ.out.2.1.new hb).cell 1⟩)
        obtain ⟨kk, hkk⟩ : ∃ kk : Nat, kk = m + 1 := ⟨_, rfl⟩
        have HP := Lib.hid (show PutK X a kk by rw [hkk]; exact ⟨by rw [HN.out]; exact hle, fun j h1 h2 => HG.out j h1 (by rw [← HN.out]; exact h2), .inr (by show (pth X m).1 ≤ a; rw [HY.out]; exact Int.not_lt.1 HYA.out)⟩)
        have hkN : kk ≤ N := by rw [← HN.out]; exact HP.out.le
        have hcast : ((m + 1 : Nat) : Int) = (kk : Int) := by rw [hkk]
        rw [hcast]
        clear HX hcast hkk HG HY HYA q0 cm e1 e2 e3 e4 e5 hya hle
        obtain ⟨r, hr⟩ : ∃ r, N = kk + r := ⟨N - kk, by omega⟩
        have HL1 := Lib.hid (show (prow (X.take kk)).length = kk * 2 by rw [prow_len, List.length_take, HN.out]; omega)
        have HL2 := Lib.hid (show (prow (X.drop kk)).length = r * 2 by rw [prow_len, List.length_drop, HN.out]; omega)
        have HNr := Lib.hid (HN.out.trans hr)
        subst hr
        have r0 : (((kk + r : Nat) : Int) - (kk : Int)) = (r : Nat) := by omega
        have r1 : kk + r - kk = r := by omega
        have r2 : (kk : Int) ≤ (kk : Int) + (r : Int) := by omega
        clear hsn
        · have HS := Lib.hid (NL.srcs HQ.out.1 kk HP.out.le)
          by_cases hck : cap = kk
          · obtain rfl : r = 0 := by omega
            subst hck
            refine wp_region_held_drew (S := fun w' => w'.cell? ⟨X0, 0, none⟩ = some (.int .i64 a) ∧ w'.cell? ⟨X0, 1, none⟩ = some (.int .i64 x)) (by kernel_rfl) (HC.out _ (Below.refl _ _)) (fun hS => ?_)
            refine wpAnyH_take (i := 1) (oi := { dst := some 24, op := .move (.tmp 0), type := 28, pos := "law.go:55", after := #[], guard := none }) (v := ?_) rfl (by kernel_rfl) (by kernel_rfl) (by kernel_rfl) (fun _ _ _ h => h) (Or.inl ⟨by rfl, ?_⟩) hS ?_
            rotate_left 1
            · intro w hw; obtain ⟨s0, s1⟩ := hw; go_simp; try (with_reducible rfl)
            simp only [Act.put, List.setIfInBounds_toArray, List.set_cons_zero, List.set_cons_succ]
            refine wpAnyH_take (i := 2) (oi := { dst := some 25, op := .move (.tmp 5), type := 3, pos := "law.go:55", after := #[], guard := none }) (v := ?_) rfl (by kernel_rfl) (by kernel_rfl) (by kernel_rfl) (fun _ _ _ h => h) (Or.inl ⟨by rfl, ?_⟩) hS ?_
            rotate_left 1
            · intro w hw; obtain ⟨s0, s1⟩ := hw; go_simp; try (with_reducible rfl)
            simp only [Act.put, List.setIfInBounds_toArray, List.set_cons_zero, List.set_cons_succ]
            refine wpAnyH_take (i := 3) (oi := { dst := some 26, op := .slice 28 (.tmp 24) none (some (.tmp 25)) none, type := 28, pos := "law.go:55", after := #[{ on := 1, ground := .data }, { on := 2, ground := .data }], guard := none }) (v := ?_) rfl (by kernel_rfl) (by kernel_rfl) (by kernel_rfl) (fun _ _ _ h => h) (Or.inl ⟨by rfl, ?_⟩) hS ?_
            rotate_left 1
            · intro w hw; obtain ⟨s0, s1⟩ := hw; go_simp; try (with_reducible rfl)
            simp only [Act.put, List.setIfInBounds_toArray, List.set_cons_zero, List.set_cons_succ]
            refine wpAnyH_take (i := 5) (oi := { dst := some 28, op := .load 30 (.tmp 3), type := 30, pos := "law.go:55", after := #[], guard := none }) (v := ?_) rfl (by kernel_rfl) (by kernel_rfl) (by kernel_rfl) (fun _ _ _ h => h) (Or.inl ⟨by rfl, ?_⟩) hS ?_
            rotate_left 1
            · intro w hw; obtain ⟨s0, s1⟩ := hw; go_simp; try (with_reducible rfl)
            simp only [Act.put, List.setIfInBounds_toArray, List.set_cons_zero, List.set_cons_succ]
            refine wpAnyH_take (i := 8) (oi := { dst := some 31, op := .move (.tmp 0), type := 28, pos := "law.go:55", after := #[], guard := none }) (v := ?_) rfl (by kernel_rfl) (by kernel_rfl) (by kernel_rfl) (fun _ _ _ h => h) (Or.inl ⟨by rfl, ?_⟩) hS ?_
            rotate_left 1
            · intro w hw; obtain ⟨s0, s1⟩ := hw; go_simp; try (with_reducible rfl)
            simp only [Act.put, List.setIfInBounds_toArray, List.set_cons_zero, List.set_cons_succ]
            refine wpAnyH_take (i := 9) (oi := { dst := some 32, op := .move (.tmp 5), type := 3, pos := "law.go:55", after := #[], guard := none }) (v := ?_) rfl (by kernel_rfl) (by kernel_rfl) (by kernel_rfl) (fun _ _ _ h => h) (Or.inl ⟨by rfl, ?_⟩) hS ?_
            rotate_left 1
            · intro w hw; obtain ⟨s0, s1⟩ := hw; go_simp; try (with_reducible rfl)
            simp only [Act.put, List.setIfInBounds_toArray, List.set_cons_zero, List.set_cons_succ]
            refine wpAnyH_take (i := 10) (oi := { dst := some 33, op := .slice 28 (.tmp 31) (some (.tmp 32)) none none, type := 28, pos := "law.go:55", after := #[{ on := 8, ground := .data }, { on := 9, ground := .data }], guard := none }) (v := ?_) rfl (by kernel_rfl) (by kernel_rfl) (by kernel_rfl) (fun _ _ _ h => h) (Or.inl ⟨by rfl, ?_⟩) hS ?_
            rotate_left 1
            · intro w hw; obtain ⟨s0, s1⟩ := hw; go_simp; try (with_reducible rfl)
            simp only [Act.put, List.setIfInBounds_toArray, List.set_cons_zero, List.set_cons_succ]
            refine wpAnyH_ready (rs := [0, 6]) (by kernel_rfl) (by simp) (AllReadyH.cons (o := { dst := some 23, op := .buildSlice 28 0 #[], type := 28, pos := "law.go:55", after := #[], guard := none }) rfl (fun K hK => ?_) (AllReadyH.cons (o := { dst := some 29, op := .buildSlice 28 1 #[(0, .tmp 28)], type := 28, pos := "law.go:55", after := #[{ on := 5, ground := .data }], guard := none }) rfl (fun K hK => ?_) AllReadyH.nil))
            · go_simp
              refine hK.out _ _ (HC.out _ ((PQ.fresh (PQ.start wq.drew a x))).b) (fun hHeld => ?_)
              clear hK K
              try simp only [Act.put, List.setIfInBounds_toArray, List.set_cons_zero, List.set_cons_succ]
              refine wpAnyH_ready (rs := [4, 6]) (by kernel_rfl) (by simp) (AllReadyH.cons (o := { dst := some 27, op := .call { callee := .builtin .append, args := #[.tmp 23, .tmp 26], argTypes := #[28, 28] }, type := 28, pos := "law.go:55", after := #[{ on := 0, ground := .data }, { on := 3, ground := .data }], guard := none }) rfl (fun K hK => ?_) (AllReadyH.cons (o := { dst := some 29, op := .buildSlice 28 1 #[(0, .tmp 28)], type := 28, pos := "law.go:55", after := #[{ on := 5, ground := .data }], guard := none }) rfl (fun K hK => ?_) AllReadyH.nil))
              · rw [if_pos (by rfl)]
                refine wp_append_vary (.tmp 23) (.tmp 26) 28 (by rfl) wq.drew.heap.size 30 i0 (.agg #[.int .i64 0, .int .i64 0]) 2 16 Tryd.underlying28 hi hz0 hz1 hz2 rfl (by decide) _ 0 [] (by first | rfl | simp [go_sem]) ((PQ.fresh (PQ.start wq.drew a x))).own _ cap _ (prow (X.take cap)) (by first | rfl | simp [go_sem]) HL1.out (fun h => by cases h) (HS.out.1 _ ((PQ.fresh (PQ.start wq.drew a x))).b) (prow_one' _) (by unfold maxLen; omega) (by omega) (((PQ.fresh (PQ.start wq.drew a x))).b.size) ?_
                intro v4 w4 hown hgrow hat
                have P4 := Lib.hid (((PQ.fresh (PQ.start wq.drew a x))).grow hown hgrow hat)
                clear hown hgrow hat
                refine hK.out _ _ (HC.out _ P4.out.b) (fun hHeld => ?_)
                clear hK K
                try simp only [Act.put, List.setIfInBounds_toArray, List.set_cons_zero, List.set_cons_succ]
                refine wpAnyH_ready (rs := [6]) (by kernel_rfl) (by simp) (AllReadyH.cons (o := { dst := some 29, op := .buildSlice 28 1 #[(0, .tmp 28)], type := 28, pos := "law.go:55", after := #[{ on := 5, ground := .data }], guard := none }) rfl (fun K hK => ?_) AllReadyH.nil)
                go_simp
                refine hK.out _ _ (HC.out _ ((PQ.note P4.out)).b) (fun hHeld => ?_)
                clear hK K
                try simp only [Act.put, List.setIfInBounds_toArray, List.set_cons_zero, List.set_cons_succ]
                refine wpAnyH_ready (rs := [7]) (by kernel_rfl) (by simp) (AllReadyH.cons (o := { dst := some 30, op := .call { callee := .builtin .append, args := #[.tmp 27, .tmp 29], argTypes := #[28, 28] }, type := 28, pos := "law.go:55", after := #[{ on := 4, ground := .data }, { on := 6, ground := .data }, { on := 4, ground := .chain }], guard := none }) rfl (fun K hK => ?_) AllReadyH.nil)
                rw [if_pos (by rfl)]
                refine wp_append_vary (.tmp 27) (.tmp 29) 28 (by rfl) wq.drew.heap.size 30 i0 (.agg #[.int .i64 0, .int .i64 0]) 2 16 Tryd.underlying28 hi hz0 hz1 hz2 rfl (by decide) _ (0 + cap) ([] ++ prow (X.take cap)) (by first | rfl | simp [go_sem]) ((PQ.note P4.out)).own _ 1 1 [.int .i64 a, .int .i64 x] (by first | rfl | simp [go_sem]) rfl (fun h => by cases h) (((PQ.note P4.out)).src) (prow_one' _) (by unfold maxLen; omega) (by omega) (((PQ.note P4.out)).b.size) ?_
                intro v7 w7 hown hgrow hat
                have P7 := Lib.hid (((PQ.note P4.out)).grow hown hgrow hat)
                clear hown hgrow hat
                refine hK.out _ _ (HC.out _ P7.out.b) (fun hHeld => ?_)
                clear hK K
                try simp only [Act.put, List.setIfInBounds_toArray, List.set_cons_zero, List.set_cons_succ]
                refine wpAnyH_ready (rs := [11]) (by kernel_rfl) (by simp) (AllReadyH.cons (o := { dst := some 34, op := .call { callee := .builtin .append, args := #[.tmp 30, .tmp 33], argTypes := #[28, 28] }, type := 28, pos := "law.go:55", after := #[{ on := 7, ground := .data }, { on := 10, ground := .data }, { on := 7, ground := .chain }], guard := none }) rfl (fun K hK => ?_) AllReadyH.nil)
                rw [if_pos (by rfl)]
                refine wp_append_vary (.tmp 30) (.tmp 33) 28 (by rfl) wq.drew.heap.size 30 i0 (.agg #[.int .i64 0, .int .i64 0]) 2 16 Tryd.underlying28 hi hz0 hz1 hz2 rfl (by decide) _ (0 + cap + 1) ([] ++ prow (X.take cap) ++ [.int .i64 a, .int .i64 x]) (by first | rfl | simp [go_sem]) (P7.out).own _ 0 _ (prow (X.drop cap)) (by first | rfl | simp [go_sem]) HL2.out (fun h => by cases h) (fun ad hd => HS.out.2 _ P7.out.b ad (.inr (by rw [HNr.out]; rfl))) (prow_one' _) (by unfold maxLen; omega) (by omega) ((P7.out).b.size) ?_
                intro v11 w11 hown hgrow hat
                have P11 := Lib.hid ((P7.out).grow hown hgrow hat)
                clear hown hgrow hat
                refine hK.out _ _ (HC.out _ P11.out.b) (fun hHeld => ?_)
                clear hK K
                try simp only [Act.put, List.setIfInBounds_toArray, List.set_cons_zero, List.set_cons_succ]
                refine wpAnyH_ready (rs := [12]) (by kernel_rfl) (by simp) (AllReadyH.cons (o := { dst := some 4, op := .assign (.tmp 34), type := 28, pos := "law.go:55", after := #[{ on := 11, ground := .data }, { on := 11, ground := .chain }, { on := 0, ground := .phase }, { on := 1, ground := .phase }, { on := 2, ground := .phase }, { on := 3, ground := .phase }, { on := 4, ground := .phase }, { on := 5, ground := .phase }, { on := 6, ground := .phase }, { on := 7, ground := .phase }, { on := 8, ground := .phase }, { on := 9, ground := .phase }, { on := 10, ground := .phase }, { on := 11, ground := .phase }], guard := none }) rfl (fun K hK => ?_) AllReadyH.nil)
                go_simp
                refine hK.out _ _ (HC.out _ P11.out.b) (fun hHeld => ?_)
                clear hK K
                try simp only [Act.put, List.setIfInBounds_toArray, List.set_cons_zero, List.set_cons_succ]
                refine wpAnyH_done (by kernel_rfl) ?_ _
                have HF := Lib.hid (put_end P11.out HQ.out.2.2 (by rw [HNr.out]))
                go_wp2
                go_ret
                refine ⟨cap, v11, ?_, by first | rfl | simp [go_sem], ?_, ?_⟩
                · exact HP.out
                · exact HF.out.1
                · exact HF.out.2
              · go_simp
                refine hK.out _ _ (HC.out _ ((PQ.note (PQ.fresh (PQ.start wq.drew a x)))).b) (fun hHeld => ?_)
                clear hK K
                try simp only [Act.put, List.setIfInBounds_toArray, List.set_cons_zero, List.set_cons_succ]
                refine wpAnyH_ready (rs := [4]) (by kernel_rfl) (by simp) (AllReadyH.cons (o := { dst := some 27, op := .call { callee := .builtin .append, args := #[.tmp 23, .tmp 26], argTypes := #[28, 28] }, type := 28, pos := "law.go:55", after := #[{ on := 0, ground := .data }, { on := 3, ground := .data }], guard := none }) rfl (fun K hK => ?_) AllReadyH.nil)
                rw [if_pos (by rfl)]
                refine wp_append_vary (.tmp 23) (.tmp 26) 28 (by rfl) wq.drew.heap.size 30 i0 (.agg #[.int .i64 0, .int .i64 0]) 2 16 Tryd.underlying28 hi hz0 hz1 hz2 rfl (by decide) _ 0 [] (by first | rfl | simp [go_sem]) ((PQ.note (PQ.fresh (PQ.start wq.drew a x)))).own _ cap _ (prow (X.take cap)) (by first | rfl | simp [go_sem]) HL1.out (fun h => by cases h) (HS.out.1 _ ((PQ.note (PQ.fresh (PQ.start wq.drew a x)))).b) (prow_one' _) (by unfold maxLen; omega) (by omega) (((PQ.note (PQ.fresh (PQ.start wq.drew a x)))).b.size) ?_
                intro v4 w4 hown hgrow hat
                have P4 := Lib.hid (((PQ.note (PQ.fresh (PQ.start wq.drew a x)))).grow hown hgrow hat)
                clear hown hgrow hat
                refine hK.out _ _ (HC.out _ P4.out.b) (fun hHeld => ?_)
                clear hK K
                try simp only [Act.put, List.setIfInBounds_toArray, List.set_cons_zero, List.set_cons_succ]
                refine wpAnyH_ready (rs := [7]) (by kernel_rfl) (by simp) (AllReadyH.cons (o := { dst := some 30, op := .call { callee := .builtin .append, args := #[.tmp 27, .tmp 29], argTypes := #[28, 28] }, type := 28, pos := "law.go:55", after := #[{ on := 4, ground := .data }, { on := 6, ground := .data }, { on := 4, ground := .chain }], guard := none }) rfl (fun K hK => ?_) AllReadyH.nil)
                rw [if_pos (by rfl)]
                refine wp_append_vary (.tmp 27) (.tmp 29) 28 (by rfl) wq.drew.heap.size 30 i0 (.agg #[.int .i64 0, .int .i64 0]) 2 16 Tryd.underlying28 hi hz0 hz1 hz2 rfl (by decide) _ (0 + cap) ([] ++ prow (X.take cap)) (by first | rfl | simp [go_sem]) (P4.out).own _ 1 1 [.int .i64 a, .int .i64 x] (by first | rfl | simp [go_sem]) rfl (fun h => by cases h) ((P4.out).src) (prow_one' _) (by unfold maxLen; omega) (by omega) ((P4.out).b.size) ?_
                intro v7 w7 hown hgrow hat
                have P7 := Lib.hid ((P4.out).grow hown hgrow hat)
                clear hown hgrow hat
                refine hK.out _ _ (HC.out _ P7.out.b) (fun hHeld => ?_)
                clear hK K
                try simp only [Act.put, List.setIfInBounds_toArray, List.set_cons_zero, List.set_cons_succ]
                refine wpAnyH_ready (rs := [11]) (by kernel_rfl) (by simp) (AllReadyH.cons (o := { dst := some 34, op := .call { callee := .builtin .append, args := #[.tmp 30, .tmp 33], argTypes := #[28, 28] }, type := 28, pos := "law.go:55", after := #[{ on := 7, ground := .data }, { on := 10, ground := .data }, { on := 7, ground := .chain }], guard := none }) rfl (fun K hK => ?_) AllReadyH.nil)
                rw [if_pos (by rfl)]
                refine wp_append_vary (.tmp 30) (.tmp 33) 28 (by rfl) wq.drew.heap.size 30 i0 (.agg #[.int .i64 0, .int .i64 0]) 2 16 Tryd.underlying28 hi hz0 hz1 hz2 rfl (by decide) _ (0 + cap + 1) ([] ++ prow (X.take cap) ++ [.int .i64 a, .int .i64 x]) (by first | rfl | simp [go_sem]) (P7.out).own _ 0 _ (prow (X.drop cap)) (by first | rfl | simp [go_sem]) HL2.out (fun h => by cases h) (fun ad hd => HS.out.2 _ P7.out.b ad (.inr (by rw [HNr.out]; rfl))) (prow_one' _) (by unfold maxLen; omega) (by omega) ((P7.out).b.size) ?_
                intro v11 w11 hown hgrow hat
                have P11 := Lib.hid ((P7.out).grow hown hgrow hat)
                clear hown hgrow hat
                refine hK.out _ _ (HC.out _ P11.out.b) (fun hHeld => ?_)
                clear hK K
                try simp only [Act.put, List.setIfInBounds_toArray, List.set_cons_zero, List.set_cons_succ]
                refine wpAnyH_ready (rs := [12]) (by kernel_rfl) (by simp) (AllReadyH.cons (o := { dst := some 4, op := .assign (.tmp 34), type := 28, pos := "law.go:55", after := #[{ on := 11, ground := .data }, { on := 11, ground := .chain }, { on := 0, ground := .phase }, { on := 1, ground := .phase }, { on := 2, ground := .phase }, { on := 3, ground := .phase }, { on := 4, ground := .phase }, { on := 5, ground := .phase }, { on := 6, ground := .phase }, { on := 7, ground := .phase }, { on := 8, ground := .phase }, { on := 9, ground := .phase }, { on := 10, ground := .phase }, { on := 11, ground := .phase }], guard := none }) rfl (fun K hK => ?_) AllReadyH.nil)
                go_simp
                refine hK.out _ _ (HC.out _ P11.out.b) (fun hHeld => ?_)
                clear hK K
                try simp only [Act.put, List.setIfInBounds_toArray, List.set_cons_zero, List.set_cons_succ]
                refine wpAnyH_done (by kernel_rfl) ?_ _
                have HF := Lib.hid (put_end P11.out HQ.out.2.2 (by rw [HNr.out]))
                go_wp2
                go_ret
                refine ⟨cap, v11, ?_, by first | rfl | simp [go_sem], ?_, ?_⟩
                · exact HP.out
                · exact HF.out.1
                · exact HF.out.2
            · go_simp
              refine hK.out _ _ (HC.out _ ((PQ.note (PQ.start wq.drew a x))).b) (fun hHeld => ?_)
              clear hK K
              try simp only [Act.put, List.setIfInBounds_toArray, List.set_cons_zero, List.set_cons_succ]
              refine wpAnyH_ready (rs := [0]) (by kernel_rfl) (by simp) (AllReadyH.cons (o := { dst := some 23, op := .buildSlice 28 0 #[], type := 28, pos := "law.go:55", after := #[], guard := none }) rfl (fun K hK => ?_) AllReadyH.nil)
              go_simp
              refine hK.out _ _ (HC.out _ ((PQ.fresh (PQ.note (PQ.start wq.drew a x)))).b) (fun hHeld => ?_)
              clear hK K
              try simp only [Act.put, List.setIfInBounds_toArray, List.set_cons_zero, List.set_cons_succ]
              refine wpAnyH_ready (rs := [4]) (by kernel_rfl) (by simp) (AllReadyH.cons (o := { dst := some 27, op := .call { callee := .builtin .append, args := #[.tmp 23, .tmp 26], argTypes := #[28, 28] }, type := 28, pos := "law.go:55", after := #[{ on := 0, ground := .data }, { on := 3, ground := .data }], guard := none }) rfl (fun K hK => ?_) AllReadyH.nil)
              rw [if_pos (by rfl)]
              refine wp_append_vary (.tmp 23) (.tmp 26) 28 (by rfl) wq.drew.heap.size 30 i0 (.agg #[.int .i64 0, .int .i64 0]) 2 16 Tryd.underlying28 hi hz0 hz1 hz2 rfl (by decide) _ 0 [] (by first | rfl | simp [go_sem]) ((PQ.fresh (PQ.note (PQ.start wq.drew a x)))).own _ cap _ (prow (X.take cap)) (by first | rfl | simp [go_sem]) HL1.out (fun h => by cases h) (HS.out.1 _ ((PQ.fresh (PQ.note (PQ.start wq.drew a x)))).b) (prow_one' _) (by unfold maxLen; omega) (by omega) (((PQ.fresh (PQ.note (PQ.start wq.drew a x)))).b.size) ?_
              intro v4 w4 hown hgrow hat
              have P4 := Lib.hid (((PQ.fresh (PQ.note (PQ.start wq.drew a x)))).grow hown hgrow hat)
              clear hown hgrow hat
              refine hK.out _ _ (HC.out _ P4.out.b) (fun hHeld => ?_)
              clear hK K
              try simp only [Act.put, List.setIfInBounds_toArray, List.set_cons_zero, List.set_cons_succ]
              refine wpAnyH_ready (rs := [7]) (by kernel_rfl) (by simp) (AllReadyH.cons (o := { dst := some 30, op := .call { callee := .builtin .append, args := #[.tmp 27, .tmp 29], argTypes := #[28, 28] }, type := 28, pos := "law.go:55", after := #[{ on := 4, ground := .data }, { on := 6, ground := .data }, { on := 4, ground := .chain }], guard := none }) rfl (fun K hK => ?_) AllReadyH.nil)
              rw [if_pos (by rfl)]
              refine wp_append_vary (.tmp 27) (.tmp 29) 28 (by rfl) wq.drew.heap.size 30 i0 (.agg #[.int .i64 0, .int .i64 0]) 2 16 Tryd.underlying28 hi hz0 hz1 hz2 rfl (by decide) _ (0 + cap) ([] ++ prow (X.take cap)) (by first | rfl | simp [go_sem]) (P4.out).own _ 1 1 [.int .i64 a, .int .i64 x] (by first | rfl | simp [go_sem]) rfl (fun h => by cases h) ((P4.out).src) (prow_one' _) (by unfold maxLen; omega) (by omega) ((P4.out).b.size) ?_
              intro v7 w7 hown hgrow hat
              have P7 := Lib.hid ((P4.out).grow hown hgrow hat)
              clear hown hgrow hat
              refine hK.out _ _ (HC.out _ P7.out.b) (fun hHeld => ?_)
              clear hK K
              try simp only [Act.put, List.setIfInBounds_toArray, List.set_cons_zero, List.set_cons_succ]
              refine wpAnyH_ready (rs := [11]) (by kernel_rfl) (by simp) (AllReadyH.cons (o := { dst := some 34, op := .call { callee := .builtin .append, args := #[.tmp 30, .tmp 33], argTypes := #[28, 28] }, type := 28, pos := "law.go:55", after := #[{ on := 7, ground := .data }, { on := 10, ground := .data }, { on := 7, ground := .chain }], guard := none }) rfl (fun K hK => ?_) AllReadyH.nil)
              rw [if_pos (by rfl)]
              refine wp_append_vary (.tmp 30) (.tmp 33) 28 (by rfl) wq.drew.heap.size 30 i0 (.agg #[.int .i64 0, .int .i64 0]) 2 16 Tryd.underlying28 hi hz0 hz1 hz2 rfl (by decide) _ (0 + cap + 1) ([] ++ prow (X.take cap) ++ [.int .i64 a, .int .i64 x]) (by first | rfl | simp [go_sem]) (P7.out).own _ 0 _ (prow (X.drop cap)) (by first | rfl | simp [go_sem]) HL2.out (fun h => by cases h) (fun ad hd => HS.out.2 _ P7.out.b ad (.inr (by rw [HNr.out]; rfl))) (prow_one' _) (by unfold maxLen; omega) (by omega) ((P7.out).b.size) ?_
              intro v11 w11 hown hgrow hat
              have P11 := Lib.hid ((P7.out).grow hown hgrow hat)
              clear hown hgrow hat
              refine hK.out _ _ (HC.out _ P11.out.b) (fun hHeld => ?_)
              clear hK K
              try simp only [Act.put, List.setIfInBounds_toArray, List.set_cons_zero, List.set_cons_succ]
              refine wpAnyH_ready (rs := [12]) (by kernel_rfl) (by simp) (AllReadyH.cons (o := { dst := some 4, op := .assign (.tmp 34), type := 28, pos := "law.go:55", after := #[{ on := 11, ground := .data }, { on := 11, ground := .chain }, { on := 0, ground := .phase }, { on := 1, ground := .phase }, { on := 2, ground := .phase }, { on := 3, ground := .phase }, { on := 4, ground := .phase }, { on := 5, ground := .phase }, { on := 6, ground := .phase }, { on := 7, ground := .phase }, { on := 8, ground := .phase }, { on := 9, ground := .phase }, { on := 10, ground := .phase }, { on := 11, ground := .phase }], guard := none }) rfl (fun K hK => ?_) AllReadyH.nil)
              go_simp
              refine hK.out _ _ (HC.out _ P11.out.b) (fun hHeld => ?_)
              clear hK K
              try simp only [Act.put, List.setIfInBounds_toArray, List.set_cons_zero, List.set_cons_succ]
              refine wpAnyH_done (by kernel_rfl) ?_ _
              have HF := Lib.hid (put_end P11.out HQ.out.2.2 (by rw [HNr.out]))
              go_wp2
              go_ret
              refine ⟨cap, v11, ?_, by first | rfl | simp [go_sem], ?_, ?_⟩
              · exact HP.out
              · exact HF.out.1
              · exact HF.out.2
          · have hck2 : kk ≤ cap := by omega
            refine wp_region_held_drew (S := fun w' => w'.cell? ⟨X0, 0, none⟩ = some (.int .i64 a) ∧ w'.cell? ⟨X0, 1, none⟩ = some (.int .i64 x)) (by kernel_rfl) (HC.out _ (Below.refl _ _)) (fun hS => ?_)
            refine wpAnyH_take (i := 1) (oi := { dst := some 24, op := .move (.tmp 0), type := 28, pos := "law.go:55", after := #[], guard := none }) (v := ?_) rfl (by kernel_rfl) (by kernel_rfl) (by kernel_rfl) (fun _ _ _ h => h) (Or.inl ⟨by rfl, ?_⟩) hS ?_
            rotate_left 1
            · intro w hw; obtain ⟨s0, s1⟩ := hw; go_simp; try (with_reducible rfl)
            simp only [Act.put, List.setIfInBounds_toArray, List.set_cons_zero, List.set_cons_succ]
            refine wpAnyH_take (i := 2) (oi := { dst := some 25, op := .move (.tmp 5), type := 3, pos := "law.go:55", after := #[], guard := none }) (v := ?_) rfl (by kernel_rfl) (by kernel_rfl) (by kernel_rfl) (fun _ _ _ h => h) (Or.inl ⟨by rfl, ?_⟩) hS ?_
            rotate_left 1
            · intro w hw; obtain ⟨s0, s1⟩ := hw; go_simp; try (with_reducible rfl)
            simp only [Act.put, List.setIfInBounds_toArray, List.set_cons_zero, List.set_cons_succ]
            refine wpAnyH_take (i := 3) (oi := { dst := some 26, op := .slice 28 (.tmp 24) none (some (.tmp 25)) none, type := 28, pos := "law.go:55", after := #[{ on := 1, ground := .data }, { on := 2, ground := .data }], guard := none }) (v := ?_) rfl (by kernel_rfl) (by kernel_rfl) (by kernel_rfl) (fun _ _ _ h => h) (Or.inl ⟨by rfl, ?_⟩) hS ?_
            rotate_left 1
            · intro w hw; obtain ⟨s0, s1⟩ := hw; go_simp; try (with_reducible rfl)
            simp only [Act.put, List.setIfInBounds_toArray, List.set_cons_zero, List.set_cons_succ]
            refine wpAnyH_take (i := 5) (oi := { dst := some 28, op := .load 30 (.tmp 3), type := 30, pos := "law.go:55", after := #[], guard := none }) (v := ?_) rfl (by kernel_rfl) (by kernel_rfl) (by kernel_rfl) (fun _ _ _ h => h) (Or.inl ⟨by rfl, ?_⟩) hS ?_
            rotate_left 1
            · intro w hw; obtain ⟨s0, s1⟩ := hw; go_simp; try (with_reducible rfl)
            simp only [Act.put, List.setIfInBounds_toArray, List.set_cons_zero, List.set_cons_succ]
            refine wpAnyH_take (i := 8) (oi := { dst := some 31, op := .move (.tmp 0), type := 28, pos := "law.go:55", after := #[], guard := none }) (v := ?_) rfl (by kernel_rfl) (by kernel_rfl) (by kernel_rfl) (fun _ _ _ h => h) (Or.inl ⟨by rfl, ?_⟩) hS ?_
            rotate_left 1
            · intro w hw; obtain ⟨s0, s1⟩ := hw; go_simp; try (with_reducible rfl)
            simp only [Act.put, List.setIfInBounds_toArray, List.set_cons_zero, List.set_cons_succ]
            refine wpAnyH_take (i := 9) (oi := { dst := some 32, op := .move (.tmp 5), type := 3, pos := "law.go:55", after := #[], guard := none }) (v := ?_) rfl (by kernel_rfl) (by kernel_rfl) (by kernel_rfl) (fun _ _ _ h => h) (Or.inl ⟨by rfl, ?_⟩) hS ?_
            rotate_left 1
            · intro w hw; obtain ⟨s0, s1⟩ := hw; go_simp; try (with_reducible rfl)
            simp only [Act.put, List.setIfInBounds_toArray, List.set_cons_zero, List.set_cons_succ]
            refine wpAnyH_take (i := 10) (oi := { dst := some 33, op := .slice 28 (.tmp 31) (some (.tmp 32)) none none, type := 28, pos := "law.go:55", after := #[{ on := 8, ground := .data }, { on := 9, ground := .data }], guard := none }) (v := ?_) rfl (by kernel_rfl) (by kernel_rfl) (by kernel_rfl) (fun _ _ _ h => h) (Or.inl ⟨by rfl, ?_⟩) hS ?_
            rotate_left 1
            · intro w hw; obtain ⟨s0, s1⟩ := hw; go_simp; try (with_reducible rfl)
            simp only [Act.put, List.setIfInBounds_toArray, List.set_cons_zero, List.set_cons_succ]
            refine wpAnyH_ready (rs := [0, 6]) (by kernel_rfl) (by simp) (AllReadyH.cons (o := { dst := some 23, op := .buildSlice 28 0 #[], type := 28, pos := "law.go:55", after := #[], guard := none }) rfl (fun K hK => ?_) (AllReadyH.cons (o := { dst := some 29, op := .buildSlice 28 1 #[(0, .tmp 28)], type := 28, pos := "law.go:55", after := #[{ on := 5, ground := .data }], guard := none }) rfl (fun K hK => ?_) AllReadyH.nil))
            · go_simp
              refine hK.out _ _ (HC.out _ ((PQ.fresh (PQ.start wq.drew a x))).b) (fun hHeld => ?_)
              clear hK K
              try simp only [Act.put, List.setIfInBounds_toArray, List.set_cons_zero, List.set_cons_succ]
              refine wpAnyH_ready (rs := [4, 6]) (by kernel_rfl) (by simp) (AllReadyH.cons (o := { dst := some 27, op := .call { callee := .builtin .append, args := #[.tmp 23, .tmp 26], argTypes := #[28, 28] }, type := 28, pos := "law.go:55", after := #[{ on := 0, ground := .data }, { on := 3, ground := .data }], guard := none }) rfl (fun K hK => ?_) (AllReadyH.cons (o := { dst := some 29, op := .buildSlice 28 1 #[(0, .tmp 28)], type := 28, pos := "law.go:55", after := #[{ on := 5, ground := .data }], guard := none }) rfl (fun K hK => ?_) AllReadyH.nil))
              · rw [if_pos (by rfl)]
                refine wp_append_vary (.tmp 23) (.tmp 26) 28 (by rfl) wq.drew.heap.size 30 i0 (.agg #[.int .i64 0, .int .i64 0]) 2 16 Tryd.underlying28 hi hz0 hz1 hz2 rfl (by decide) _ 0 [] (by first | rfl | simp [go_sem]) ((PQ.fresh (PQ.start wq.drew a x))).own _ kk _ (prow (X.take kk)) (by first | rfl | simp [go_sem]) HL1.out (fun h => by cases h) (HS.out.1 _ ((PQ.fresh (PQ.start wq.drew a x))).b) (prow_one' _) (by unfold maxLen; omega) (by omega) (((PQ.fresh (PQ.start wq.drew a x))).b.size) ?_
                intro v4 w4 hown hgrow hat
                have P4 := Lib.hid (((PQ.fresh (PQ.start wq.drew a x))).grow hown hgrow hat)
                clear hown hgrow hat
                refine hK.out _ _ (HC.out _ P4.out.b) (fun hHeld => ?_)
                clear hK K
                try simp only [Act.put, List.setIfInBounds_toArray, List.set_cons_zero, List.set_cons_succ]
                refine wpAnyH_ready (rs := [6]) (by kernel_rfl) (by simp) (AllReadyH.cons (o := { dst := some 29, op := .buildSlice 28 1 #[(0, .tmp 28)], type := 28, pos := "law.go:55", after := #[{ on := 5, ground := .data }], guard := none }) rfl (fun K hK => ?_) AllReadyH.nil)
                go_simp
                refine hK.out _ _ (HC.out _ ((PQ.note P4.out)).b) (fun hHeld => ?_)
                clear hK K
                try simp only [Act.put, List.setIfInBounds_toArray, List.set_cons_zero, List.set_cons_succ]
                refine wpAnyH_ready (rs := [7]) (by kernel_rfl) (by simp) (AllReadyH.cons (o := { dst := some 30, op := .call { callee := .builtin .append, args := #[.tmp 27, .tmp 29], argTypes := #[28, 28] }, type := 28, pos := "law.go:55", after := #[{ on := 4, ground := .data }, { on := 6, ground := .data }, { on := 4, ground := .chain }], guard := none }) rfl (fun K hK => ?_) AllReadyH.nil)
                rw [if_pos (by rfl)]
                refine wp_append_vary (.tmp 27) (.tmp 29) 28 (by rfl) wq.drew.heap.size 30 i0 (.agg #[.int .i64 0, .int .i64 0]) 2 16 Tryd.underlying28 hi hz0 hz1 hz2 rfl (by decide) _ (0 + kk) ([] ++ prow (X.take kk)) (by first | rfl | simp [go_sem]) ((PQ.note P4.out)).own _ 1 1 [.int .i64 a, .int .i64 x] (by first | rfl | simp [go_sem]) rfl (fun h => by cases h) (((PQ.note P4.out)).src) (prow_one' _) (by unfold maxLen; omega) (by omega) (((PQ.note P4.out)).b.size) ?_
                intro v7 w7 hown hgrow hat
                have P7 := Lib.hid (((PQ.note P4.out)).grow hown hgrow hat)
                clear hown hgrow hat
                refine hK.out _ _ (HC.out _ P7.out.b) (fun hHeld => ?_)
                clear hK K
                try simp only [Act.put, List.setIfInBounds_toArray, List.set_cons_zero, List.set_cons_succ]
                refine wpAnyH_ready (rs := [11]) (by kernel_rfl) (by simp) (AllReadyH.cons (o := { dst := some 34, op := .call { callee := .builtin .append, args := #[.tmp 30, .tmp 33], argTypes := #[28, 28] }, type := 28, pos := "law.go:55", after := #[{ on := 7, ground := .data }, { on := 10, ground := .data }, { on := 7, ground := .chain }], guard := none }) rfl (fun K hK => ?_) AllReadyH.nil)
                rw [if_pos (by rfl)]
                refine wp_append_vary (.tmp 30) (.tmp 33) 28 (by rfl) wq.drew.heap.size 30 i0 (.agg #[.int .i64 0, .int .i64 0]) 2 16 Tryd.underlying28 hi hz0 hz1 hz2 rfl (by decide) _ (0 + kk + 1) ([] ++ prow (X.take kk) ++ [.int .i64 a, .int .i64 x]) (by first | rfl | simp [go_sem]) (P7.out).own _ r _ (prow (X.drop kk)) (by first | rfl | simp [go_sem]) HL2.out (fun h => by cases h) (fun ad hd => HS.out.2 _ P7.out.b ad (.inl hd.symm)) (prow_one' _) (by unfold maxLen; omega) (by omega) ((P7.out).b.size) ?_
                intro v11 w11 hown hgrow hat
                have P11 := Lib.hid ((P7.out).grow hown hgrow hat)
                clear hown hgrow hat
                refine hK.out _ _ (HC.out _ P11.out.b) (fun hHeld => ?_)
                clear hK K
                try simp only [Act.put, List.setIfInBounds_toArray, List.set_cons_zero, List.set_cons_succ]
                refine wpAnyH_ready (rs := [12]) (by kernel_rfl) (by simp) (AllReadyH.cons (o := { dst := some 4, op := .assign (.tmp 34), type := 28, pos := "law.go:55", after := #[{ on := 11, ground := .data }, { on := 11, ground := .chain }, { on := 0, ground := .phase }, { on := 1, ground := .phase }, { on := 2, ground := .phase }, { on := 3, ground := .phase }, { on := 4, ground := .phase }, { on := 5, ground := .phase }, { on := 6, ground := .phase }, { on := 7, ground := .phase }, { on := 8, ground := .phase }, { on := 9, ground := .phase }, { on := 10, ground := .phase }, { on := 11, ground := .phase }], guard := none }) rfl (fun K hK => ?_) AllReadyH.nil)
                go_simp
                refine hK.out _ _ (HC.out _ P11.out.b) (fun hHeld => ?_)
                clear hK K
                try simp only [Act.put, List.setIfInBounds_toArray, List.set_cons_zero, List.set_cons_succ]
                refine wpAnyH_done (by kernel_rfl) ?_ _
                have HF := Lib.hid (put_end P11.out HQ.out.2.2 (by rw [HNr.out]))
                go_wp2
                go_ret
                refine ⟨kk, v11, ?_, by first | rfl | simp [go_sem], ?_, ?_⟩
                · exact HP.out
                · exact HF.out.1
                · exact HF.out.2
              · go_simp
                refine hK.out _ _ (HC.out _ ((PQ.note (PQ.fresh (PQ.start wq.drew a x)))).b) (fun hHeld => ?_)
                clear hK K
                try simp only [Act.put, List.setIfInBounds_toArray, List.set_cons_zero, List.set_cons_succ]
                refine wpAnyH_ready (rs := [4]) (by kernel_rfl) (by simp) (AllReadyH.cons (o := { dst := some 27, op := .call { callee := .builtin .append, args := #[.tmp 23, .tmp 26], argTypes := #[28, 28] }, type := 28, pos := "law.go:55", after := #[{ on := 0, ground := .data }, { on := 3, ground := .data }], guard := none }) rfl (fun K hK => ?_) AllReadyH.nil)
                rw [if_pos (by rfl)]
                refine wp_append_vary (.tmp 23) (.tmp 26) 28 (by rfl) wq.drew.heap.size 30 i0 (.agg #[.int .i64 0, .int .i64 0]) 2 16 Tryd.underlying28 hi hz0 hz1 hz2 rfl (by decide) _ 0 [] (by first | rfl | simp [go_sem]) ((PQ.note (PQ.fresh (PQ.start wq.drew a x)))).own _ kk _ (prow (X.take kk)) (by first | rfl | simp [go_sem]) HL1.out (fun h => by cases h) (HS.out.1 _ ((PQ.note (PQ.fresh (PQ.start wq.drew a x)))).b) (prow_one' _) (by unfold maxLen; omega) (by omega) (((PQ.note (PQ.fresh (PQ.start wq.drew a x)))).b.size) ?_
                intro v4 w4 hown hgrow hat
                have P4 := Lib.hid (((PQ.note (PQ.fresh (PQ.start wq.drew a x)))).grow hown hgrow hat)
                clear hown hgrow hat
                refine hK.out _ _ (HC.out _ P4.out.b) (fun hHeld => ?_)
                clear hK K
                try simp only [Act.put, List.setIfInBounds_toArray, List.set_cons_zero, List.set_cons_succ]
                refine wpAnyH_ready (rs := [7]) (by kernel_rfl) (by simp) (AllReadyH.cons (o := { dst := some 30, op := .call { callee := .builtin .append, args := #[.tmp 27, .tmp 29], argTypes := #[28, 28] }, type := 28, pos := "law.go:55", after := #[{ on := 4, ground := .data }, { on := 6, ground := .data }, { on := 4, ground := .chain }], guard := none }) rfl (fun K hK => ?_) AllReadyH.nil)
                rw [if_pos (by rfl)]
                refine wp_append_vary (.tmp 27) (.tmp 29) 28 (by rfl) wq.drew.heap.size 30 i0 (.agg #[.int .i64 0, .int .i64 0]) 2 16 Tryd.underlying28 hi hz0 hz1 hz2 rfl (by decide) _ (0 + kk) ([] ++ prow (X.take kk)) (by first | rfl | simp [go_sem]) (P4.out).own _ 1 1 [.int .i64 a, .int .i64 x] (by first | rfl | simp [go_sem]) rfl (fun h => by cases h) ((P4.out).src) (prow_one' _) (by unfold maxLen; omega) (by omega) ((P4.out).b.size) ?_
                intro v7 w7 hown hgrow hat
                have P7 := Lib.hid ((P4.out).grow hown hgrow hat)
                clear hown hgrow hat
                refine hK.out _ _ (HC.out _ P7.out.b) (fun hHeld => ?_)
                clear hK K
                try simp only [Act.put, List.setIfInBounds_toArray, List.set_cons_zero, List.set_cons_succ]
                refine wpAnyH_ready (rs := [11]) (by kernel_rfl) (by simp) (AllReadyH.cons (o := { dst := some 34, op := .call { callee := .builtin .append, args := #[.tmp 30, .tmp 33], argTypes := #[28, 28] }, type := 28, pos := "law.go:55", after := #[{ on := 7, ground := .data }, { on := 10, ground := .data }, { on := 7, ground := .chain }], guard := none }) rfl (fun K hK => ?_) AllReadyH.nil)
                rw [if_pos (by rfl)]
                refine wp_append_vary (.tmp 30) (.tmp 33) 28 (by rfl) wq.drew.heap.size 30 i0 (.agg #[.int .i64 0, .int .i64 0]) 2 16 Tryd.underlying28 hi hz0 hz1 hz2 rfl (by decide) _ (0 + kk + 1) ([] ++ prow (X.take kk) ++ [.int .i64 a, .int .i64 x]) (by first | rfl | simp [go_sem]) (P7.out).own _ r _ (prow (X.drop kk)) (by first | rfl | simp [go_sem]) HL2.out (fun h => by cases h) (fun ad hd => HS.out.2 _ P7.out.b ad (.inl hd.symm)) (prow_one' _) (by unfold maxLen; omega) (by omega) ((P7.out).b.size) ?_
                intro v11 w11 hown hgrow hat
                have P11 := Lib.hid ((P7.out).grow hown hgrow hat)
                clear hown hgrow hat
                refine hK.out _ _ (HC.out _ P11.out.b) (fun hHeld => ?_)
                clear hK K
                try simp only [Act.put, List.setIfInBounds_toArray, List.set_cons_zero, List.set_cons_succ]
                refine wpAnyH_ready (rs := [12]) (by kernel_rfl) (by simp) (AllReadyH.cons (o := { dst := some 4, op := .assign (.tmp 34), type := 28, pos := "law.go:55", after := #[{ on := 11, ground := .data }, { on := 11, ground := .chain }, { on := 0, ground := .phase }, { on := 1, ground := .phase }, { on := 2, ground := .phase }, { on := 3, ground := .phase }, { on := 4, ground := .phase }, { on := 5, ground := .phase }, { on := 6, ground := .phase }, { on := 7, ground := .phase }, { on := 8, ground := .phase }, { on := 9, ground := .phase }, { on := 10, ground := .phase }, { on := 11, ground := .phase }], guard := none }) rfl (fun K hK => ?_) AllReadyH.nil)
                go_simp
                refine hK.out _ _ (HC.out _ P11.out.b) (fun hHeld => ?_)
                clear hK K
                try simp only [Act.put, List.setIfInBounds_toArray, List.set_cons_zero, List.set_cons_succ]
                refine wpAnyH_done (by kernel_rfl) ?_ _
                have HF := Lib.hid (put_end P11.out HQ.out.2.2 (by rw [HNr.out]))
                go_wp2
                go_ret
                refine ⟨kk, v11, ?_, by first | rfl | simp [go_sem], ?_, ?_⟩
                · exact HP.out
                · exact HF.out.1
                · exact HF.out.2
            · go_simp
              refine hK.out _ _ (HC.out _ ((PQ.note (PQ.start wq.drew a x))).b) (fun hHeld => ?_)
              clear hK K
              try simp only [Act.put, List.setIfInBounds_toArray, List.set_cons_zero, List.set_cons_succ]
              refine wpAnyH_ready (rs := [0]) (by kernel_rfl) (by simp) (AllReadyH.cons (o := { dst := some 23, op := .buildSlice 28 0 #[], type := 28, pos := "law.go:55", after := #[], guard := none }) rfl (fun K hK => ?_) AllReadyH.nil)
              go_simp
              refine hK.out _ _ (HC.out _ ((PQ.fresh (PQ.note (PQ.start wq.drew a x)))).b) (fun hHeld => ?_)
              clear hK K
              try simp only [Act.put, List.setIfInBounds_toArray, List.set_cons_zero, List.set_cons_succ]
              refine wpAnyH_ready (rs := [4]) (by kernel_rfl) (by simp) (AllReadyH.cons (o := { dst := some 27, op := .call { callee := .builtin .append, args := #[.tmp 23, .tmp 26], argTypes := #[28, 28] }, type := 28, pos := "law.go:55", after := #[{ on := 0, ground := .data }, { on := 3, ground := .data }], guard := none }) rfl (fun K hK => ?_) AllReadyH.nil)
              rw [if_pos (by rfl)]
              refine wp_append_vary (.tmp 23) (.tmp 26) 28 (by rfl) wq.drew.heap.size 30 i0 (.agg #[.int .i64 0, .int .i64 0]) 2 16 Tryd.underlying28 hi hz0 hz1 hz2 rfl (by decide) _ 0 [] (by first | rfl | simp [go_sem]) ((PQ.fresh (PQ.note (PQ.start wq.drew a x)))).own _ kk _ (prow (X.take kk)) (by first | rfl | simp [go_sem]) HL1.out (fun h => by cases h) (HS.out.1 _ ((PQ.fresh (PQ.note (PQ.start wq.drew a x)))).b) (prow_one' _) (by unfold maxLen; omega) (by omega) (((PQ.fresh (PQ.note (PQ.start wq.drew a x)))).b.size) ?_
              intro v4 w4 hown hgrow hat
              have P4 := Lib.hid (((PQ.fresh (PQ.note (PQ.start wq.drew a x)))).grow hown hgrow hat)
              clear hown hgrow hat
              refine hK.out _ _ (HC.out _ P4.out.b) (fun hHeld => ?_)
              clear hK K
              try simp only [Act.put, List.setIfInBounds_toArray, List.set_cons_zero, List.set_cons_succ]
              refine wpAnyH_ready (rs := [7]) (by kernel_rfl) (by simp) (AllReadyH.cons (o := { dst := some 30, op := .call { callee := .builtin .append, args := #[.tmp 27, .tmp 29], argTypes := #[28, 28] }, type := 28, pos := "law.go:55", after := #[{ on := 4, ground := .data }, { on := 6, ground := .data }, { on := 4, ground := .chain }], guard := none }) rfl (fun K hK => ?_) AllReadyH.nil)
              rw [if_pos (by rfl)]
              refine wp_append_vary (.tmp 27) (.tmp 29) 28 (by rfl) wq.drew.heap.size 30 i0 (.agg #[.int .i64 0, .int .i64 0]) 2 16 Tryd.underlying28 hi hz0 hz1 hz2 rfl (by decide) _ (0 + kk) ([] ++ prow (X.take kk)) (by first | rfl | simp [go_sem]) (P4.out).own _ 1 1 [.int .i64 a, .int .i64 x] (by first | rfl | simp [go_sem]) rfl (fun h => by cases h) ((P4.out).src) (prow_one' _) (by unfold maxLen; omega) (by omega) ((P4.out).b.size) ?_
              intro v7 w7 hown hgrow hat
              have P7 := Lib.hid ((P4.out).grow hown hgrow hat)
              clear hown hgrow hat
              refine hK.out _ _ (HC.out _ P7.out.b) (fun hHeld => ?_)
              clear hK K
              try simp only [Act.put, List.setIfInBounds_toArray, List.set_cons_zero, List.set_cons_succ]
              refine wpAnyH_ready (rs := [11]) (by kernel_rfl) (by simp) (AllReadyH.cons (o := { dst := some 34, op := .call { callee := .builtin .append, args := #[.tmp 30, .tmp 33], argTypes := #[28, 28] }, type := 28, pos := "law.go:55", after := #[{ on := 7, ground := .data }, { on := 10, ground := .data }, { on := 7, ground := .chain }], guard := none }) rfl (fun K hK => ?_) AllReadyH.nil)
              rw [if_pos (by rfl)]
              refine wp_append_vary (.tmp 30) (.tmp 33) 28 (by rfl) wq.drew.heap.size 30 i0 (.agg #[.int .i64 0, .int .i64 0]) 2 16 Tryd.underlying28 hi hz0 hz1 hz2 rfl (by decide) _ (0 + kk + 1) ([] ++ prow (X.take kk) ++ [.int .i64 a, .int .i64 x]) (by first | rfl | simp [go_sem]) (P7.out).own _ r _ (prow (X.drop kk)) (by first | rfl | simp [go_sem]) HL2.out (fun h => by cases h) (fun ad hd => HS.out.2 _ P7.out.b ad (.inl hd.symm)) (prow_one' _) (by unfold maxLen; omega) (by omega) ((P7.out).b.size) ?_
              intro v11 w11 hown hgrow hat
              have P11 := Lib.hid ((P7.out).grow hown hgrow hat)
              clear hown hgrow hat
              refine hK.out _ _ (HC.out _ P11.out.b) (fun hHeld => ?_)
              clear hK K
              try simp only [Act.put, List.setIfInBounds_toArray, List.set_cons_zero, List.set_cons_succ]
              refine wpAnyH_ready (rs := [12]) (by kernel_rfl) (by simp) (AllReadyH.cons (o := { dst := some 4, op := .assign (.tmp 34), type := 28, pos := "law.go:55", after := #[{ on := 11, ground := .data }, { on := 11, ground := .chain }, { on := 0, ground := .phase }, { on := 1, ground := .phase }, { on := 2, ground := .phase }, { on := 3, ground := .phase }, { on := 4, ground := .phase }, { on := 5, ground := .phase }, { on := 6, ground := .phase }, { on := 7, ground := .phase }, { on := 8, ground := .phase }, { on := 9, ground := .phase }, { on := 10, ground := .phase }, { on := 11, ground := .phase }], guard := none }) rfl (fun K hK => ?_) AllReadyH.nil)
              go_simp
              refine hK.out _ _ (HC.out _ P11.out.b) (fun hHeld => ?_)
              clear hK K
              try simp only [Act.put, List.setIfInBounds_toArray, List.set_cons_zero, List.set_cons_succ]
              refine wpAnyH_done (by kernel_rfl) ?_ _
              have HF := Lib.hid (put_end P11.out HQ.out.2.2 (by rw [HNr.out]))
              go_wp2
              go_ret
              refine ⟨kk, v11, ?_, by first | rfl | simp [go_sem], ?_, ?_⟩
              · exact HP.out
              · exact HF.out.1
              · exact HF.out.2

end Go.Proofs.YtbdcjfkplopbiaaDoor
