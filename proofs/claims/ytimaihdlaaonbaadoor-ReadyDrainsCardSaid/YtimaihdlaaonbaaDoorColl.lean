/- The contract of the law's all: what ready's All goes through, collected. -/
import Derived.Test.YtimaihdlaaonbaaDoorSeq
import Derived.Maps.AppendAt
namespace Go.Proofs.YtimaihdlaaonbaaDoor
open Go.RowKit
attribute [local go_sem] Oper.semAt_some

theorem wpListIn_append_at {F : Fence} {n : Nat} {P : Program} (w : World) {ops : Array Oper} {rest : List Oper} {o : Oper} {a : Act} {Q : Exit → Act → World → Prop}
    (hg : o.guard = none) (s x : Operand) (t : TypeId) (hop : o.op = Op.call { callee := Callee.builtin Builtin.append, args := #[s, x], argTypes := #[t, t] })
    (base : Nat) (e : TypeId) (i : TypeInfo) (z : Value) (size bytes : Nat) (h1 : P.underlying t = some (.slice e)) (h2 : P.info? e = some i) (h3 : i.zero = some z) (h4 : i.size = size) (h5 : i.bytes = bytes) (h6 : z.cells.size = size) (h7 : 0 < size)
    (v : Value) (k : Nat) (xs : List Value) (hs : a.eval s = v) (hown : w.ownsRow base e size v k xs) (ad : Addr) (m c : Nat) (news : List Value) (hx : a.eval x = .slice (some ad) m c) (hn : news.length = m * size)
    (hc : ∀ j u, news[j]? = some u → w.cell? (ad.add j) = some u) (h1c : ∀ u ∈ news, u.oneCell' = true) (b1 : k + m ≤ maxLen) (b2 : (k + m) * bytes ≤ 140737488355328) (b3 : base ≤ w.heap.size)
    (hK : ∀ v' w', w'.ownsRow base e size v' (k + m) (xs ++ news) → w.grownBy w' v.ownBlock → (v'.ownBlock = v.ownBlock ∨ v'.ownBlock = some w.heap.size) → wpListIn F n P ops Q rest (a.put o.dst v') w') :
    wpListIn F n P ops Q (o :: rest) a w := by
  refine wpListIn_plain hg fun K hK' => ?_
  obtain ⟨v', w', hrun, r1, r2, _, r3⟩ := run_append_own_at (P := P) w base t o.type e i z size bytes h1 h2 h3 h4 h5 h6 h7 v k xs hown ad m c news hn hc h1c b1 b2 b3
  unfold Oper.wpIn
  refine ⟨?_, ?_⟩
  · simp [Oper.about, hop, resolve, Target.leads, Sem.run_pure]
  · rw [Oper.semAt_plain F _ _ (by rw [hop]; intro c hc'; cases hc')]
    simp [execOp, hop, resolve, invoke, builtin, hs, hx, hrun, Result.andThen]
    exact hK' _ _ (hK v' w' r1 r2 r3)

theorem neqIn_func_nil (t : TypeId) (ht : Tryd.prog.underlying t = some (.func #[36] #[] false)) (d gf : Nat) (lb : Array Value) (w : World) : (Op.equalIn (d + 1) t (.func (.func gf) #[] lb) .nilFunc).run Tryd.prog w = .ok false w := by
  simp [Op.equalIn, run_underlying ht]
theorem neq52 (gf : Nat) (lb : Array Value) (w : World) : (Go.binOp .neq 52 (.func (.func gf) #[] lb) .nilFunc).run Tryd.prog w = .ok (.bool true) w := by
  have h : (Op.equal 52 (.func (.func gf) #[] lb) .nilFunc).run Tryd.prog w = .ok false w := neqIn_func_nil 52 (by kernel_rfl) 9999 gf lb w
  simp [Go.binOp, h]

theorem own_same {A B : World} {base : Nat} {e : TypeId} {size : Nat} {v : Value} {n : Nat} {xs : List Value} (h : A.ownsRow base e size v n xs) (hs : ∀ g, v.ownBlock = some g → B.heap[g]? = A.heap[g]?) : B.ownsRow base e size v n xs := by
  obtain ⟨h1, h2⟩ := h
  refine ⟨h1, ?_⟩
  rcases h2 with h2 | ⟨g, cap, cur, rfl, hg, hh, r⟩
  · exact .inl h2
  · exact .inr ⟨g, cap, cur, rfl, hg, (hs g (by simp [Value.ownBlock])).trans hh, r⟩
theorem own_mono {A : World} {base base' : Nat} {e : TypeId} {size : Nat} {v : Value} {n : Nat} {xs : List Value} (h : A.ownsRow base e size v n xs) (hb : base' ≤ base) : A.ownsRow base' e size v n xs := by
  refine ⟨h.1, ?_⟩
  rcases h.2 with h | ⟨g, c, cur, q1, q2, q3⟩
  · exact .inl h
  · exact .inr ⟨g, c, cur, q1, by omega, q3⟩
theorem own_val {A : World} {base : Nat} {e : TypeId} {size : Nat} {v : Value} {n : Nat} {xs : List Value} (h : A.ownsRow base e size v n xs) : ∃ sp cap, v = .slice sp n cap := by
  rcases h.2 with ⟨h0, h1⟩ | ⟨g, cap, cur, hv, _⟩
  · exact ⟨none, 0, by rw [h0, h1]⟩
  · exact ⟨_, _, hv⟩
theorem Tab.same {w w' : World} (h : Tab w) (hb : w'.heap[0]? = w.heap[0]?) : Tab w' := by
  unfold Tab Lib.TabIs at h ⊢
  unfold World.var? at h ⊢
  rw [global0] at h ⊢
  simp only [Option.bind_some] at h ⊢
  rw [hb]; exact h

/-- Numbers and levels in a row. -/
def flat : List (Nat × Nat) → List Int
  | [] => []
  | x :: l => (x.1 : Int) :: (x.2 : Int) :: flat l
theorem flat_len (l : List (Nat × Nat)) : (flat l).length = 2 * l.length := by
  induction l with
  | nil => rfl
  | cons x l ih => simp [flat, ih]; omega
theorem flat_app (l m : List (Nat × Nat)) : flat (l ++ m) = flat l ++ flat m := by
  induction l with
  | nil => rfl
  | cons x l ih => simp [flat, ih]
def rowI (l : List Int) : List Value := l.map (Value.int .i64)
theorem take_snocL (l : List (Nat × Nat)) (k : Nat) (h : k < l.length) : rowI (flat (l.take (k + 1))) = rowI (flat (l.take k)) ++ [.int .i64 ((l.getD k (0, 0)).1 : Nat), .int .i64 ((l.getD k (0, 0)).2 : Nat)] := by
  rw [List.take_succ_eq_append_getElem h, flat_app]
  unfold rowI
  rw [List.map_append, List.getD_eq_getElem?_getD, List.getElem?_eq_getElem h]
  rfl
theorem take_snoc (q : Nat → Nat) (k : Nat) (h : k < (allP q 32).length) : rowI (flat ((allP q 32).take (k + 1))) = rowI (flat ((allP q 32).take k)) ++ [.int .i64 (nP q k), .int .i64 (lP q k)] := take_snocL _ k h
theorem two_new (w : World) (a b : Value) (t : TypeId) : ∀ (j : Nat) (u : Value), [a, b][j]? = some u → (w.alloc (.cells #[a, b] t)).cell? ((⟨w.heap.size, 0, none⟩ : Addr).add j) = some u := fun j u h => by
  rw [Addr.add_lit]
  rcases j with _ | _ | j
  · simp at h; subst h; simp [go_sem]
  · simp at h; subst h; simp [go_sem]
  · simp at h
theorem own_ge {A : World} {base : Nat} {e : TypeId} {size : Nat} {v : Value} {n : Nat} {xs : List Value} (h : A.ownsRow base e size v n xs) (j : Nat) (hj : v.ownBlock = some j) : base ≤ j := (h.lt j hj).1
theorem ch_grown {A B : World} {row : Option Nat} (h : A.grownBy B row) : Ch (fun j => row = some j) A B :=
  ⟨h.os, h.tape, h.output, h.size, fun k hk hn => h.block k hk (fun e => hn e.symm)⟩
theorem info3 : (Tryd.prog.info? 3).map (fun i => (i.zero, i.size, i.bytes)) = some (some (.int .i64 0), 1, 8) := by kernel_rfl
theorem allP_le (q : Nat → Nat) (k : Nat) : (allP q k).length ≤ 32 * k := by
  induction k with
  | zero => simp [allP]
  | succ k ih => rw [allP_len]; have := lst_len (lv q k) 32; omega

/-- What the collecting loop owns: all that was there before it, its variable, and the row that the variable names. -/
def FC (b0 Oc : Nat) (W : World) (j : Nat) : Prop := j < b0 ∨ j = Oc ∨ ∃ v, W.cell? ⟨Oc, 0, none⟩ = some v ∧ v.ownBlock = some j
/-- k pairs are collected. -/
def IC (w0 : World) (b0 Oc : Nat) (L : List (Nat × Nat)) (k : Nat) (W : World) : Prop :=
  Tab W ∧ Below b0 w0 W ∧ ∃ v, W.cell? ⟨Oc, 0, none⟩ = some v ∧ W.frozen? ⟨Oc, 0, none⟩ = false ∧ W.ownsRow (Oc + 1) 3 1 v (2 * k) (rowI (flat (L.take k)))
theorem IC.foot {w0 : World} {b0 Oc : Nat} {L : List (Nat × Nat)} (h0 : 0 < b0) (hs : b0 ≤ w0.heap.size) (k : Nat) : Foot (FC b0 Oc) (IC w0 b0 Oc L k) where
  lt := fun W ⟨_, h2, v, h3, _, h5⟩ j hj => by
    rcases hj with hj | rfl | ⟨v', hv, hj⟩
    · have := h2.size; omega
    · exact World.block_lt_of_cell? W _ h3
    · rw [h3] at hv; injection hv with hv; subst hv
      exact (h5.lt j hj).2
  keep := fun W W' ⟨h1, h2, v, h3, h4, h5⟩ hc => by
    have nO : ¬ ¬ FC b0 Oc W Oc := fun hn => hn (.inr (.inl rfl))
    have e3 : W'.cell? ⟨Oc, 0, none⟩ = some v := hc.cell h3 nO
    refine ⟨⟨h1.same (hc.block 0 (by have := h2.size; omega) fun hn => hn (.inl h0)), h2.trans (Ch.below hc (fun j hj hn => hn (.inl hj)) (by have := h2.size; omega)), v, e3, (hc.frozenCell h3 nO).trans h4,
      own_same h5 fun g hg => hc.block g (h5.lt g hg).2 fun hn => hn (.inr (.inr ⟨v, h3, hg⟩))⟩, fun j hj => ?_⟩
    rcases hj with hj | hj | ⟨v', hv, hj⟩
    · exact .inl hj
    · exact .inr (.inl hj)
    · rw [e3] at hv; injection hv with hv; subst hv
      exact .inr (.inr ⟨v, h3, hj⟩)

theorem grow_cell {A w1 : World} {Oc : Nat} {v : Value} {n : Nat} {xs : List Value} {ob : Obj} (h3 : A.cell? ⟨Oc, 0, none⟩ = some v) (h4 : A.frozen? ⟨Oc, 0, none⟩ = false)
    (h5 : A.ownsRow (Oc + 1) 3 1 v n xs) (hg : (A.alloc ob).grownBy w1 v.ownBlock) : w1.cell? ⟨Oc, 0, none⟩ = some v ∧ w1.frozen? ⟨Oc, 0, none⟩ = false := by
  have hcr : Ch (fun j => v.ownBlock = some j) A w1 := (((Ch.refl (fun _ => False) A).alloc ob).mono (fun _ _ h => h.elim)).trans (ch_grown hg)
  exact ⟨hcr.cell h3 fun hj => by have := own_ge h5 _ hj; simp only at this; omega, (hcr.frozenCell h3 fun hj => by have := own_ge h5 _ hj; simp only at this; omega).trans h4⟩
/-- A round's append: the row has grown, the variable names it. -/
theorem IC.grow {w0 A w1 : World} {Oc : Nat} {L : List (Nat × Nat)} {k : Nat} {v v' : Value} {xs : List Value} {ob : Obj} (h0 : 0 < Oc) (h1 : Tab A) (h2 : Below Oc w0 A) (hs0 : Oc ≤ w0.heap.size) (h3 : A.cell? ⟨Oc, 0, none⟩ = some v) (h4 : A.frozen? ⟨Oc, 0, none⟩ = false)
    (h5 : A.ownsRow (Oc + 1) 3 1 v (2 * k) (rowI (flat (L.take k)))) (hx : rowI (flat (L.take (k + 1))) = rowI (flat (L.take k)) ++ xs)
    (ho : w1.ownsRow (Oc + 1) 3 1 v' (2 * k + 2) (rowI (flat (L.take k)) ++ xs)) (hg : (A.alloc ob).grownBy w1 v.ownBlock) (hat : v'.ownBlock = v.ownBlock ∨ v'.ownBlock = some (A.alloc ob).heap.size) :
    Step (FC Oc Oc) A (w1.setCell ⟨Oc, 0, none⟩ v') ∧ IC w0 Oc Oc L (k + 1) (w1.setCell ⟨Oc, 0, none⟩ v') := by
  have hz := h2.size
  have hge : ∀ j, v.ownBlock = some j → Oc + 1 ≤ j := fun j hj => own_ge h5 j hj
  have hcr : Ch (fun j => v.ownBlock = some j) A w1 := (((Ch.refl (fun _ => False) A).alloc ob).mono (fun _ _ h => h.elim)).trans (ch_grown hg)
  have e3 : w1.cell? ⟨Oc, 0, none⟩ = some v := hcr.cell h3 fun hj => by have := hge _ hj; simp only at this; omega
  have e4 : w1.frozen? ⟨Oc, 0, none⟩ = false := (hcr.frozenCell h3 fun hj => by have := hge _ hj; simp only at this; omega).trans h4
  have e5 : (w1.setCell ⟨Oc, 0, none⟩ v').cell? ⟨Oc, 0, none⟩ = some v' := World.cell?_setCell_same _ _ _ e3
  have hcW : Ch (fun j => j = Oc ∨ v.ownBlock = some j) A (w1.setCell ⟨Oc, 0, none⟩ v') := (hcr.mono fun _ _ h => .inr h).setCell _ _ (.inl (.inl rfl))
  refine ⟨⟨hcW.mono fun j _ hj => ?_, fun j hj => ?_⟩, h1.same (hcW.block 0 (by omega) fun hj => ?_), h2.trans (hcW.below (fun j hj hn => ?_) (by omega)), v', e5, ?_, ?_⟩
  · rcases hj with hj | hj
    · exact .inr (.inl hj)
    · exact .inr (.inr ⟨v, h3, hj⟩)
  · rcases hj with hj | hj | ⟨v'', hv, hj⟩
    · exact .inl (.inl hj)
    · exact .inl (.inr (.inl hj))
    · rw [e5] at hv; injection hv with hv; subst hv
      rcases hat with ha | ha
      · rw [ha] at hj; exact .inl (.inr (.inr ⟨v, h3, hj⟩))
      · rw [ha] at hj; injection hj with hj; subst hj
        right; simp
  · rcases hj with hj | hj
    · omega
    · have := hge _ hj; omega
  · rcases hn with hn | hn
    · omega
    · have := hge _ hn; omega
  · rw [World.frozen?_setCell]; exact e4
  · rw [hx, show 2 * (k + 1) = 2 * k + 2 by omega]
    exact own_same ho fun g hg' => Below.heap_setCell w1 ⟨Oc, 0, none⟩ v' g (by have := own_ge ho g hg'; show g ≠ Oc; omega)

set_option maxHeartbeats 1000000 in
theorem allq_any (B : Nat) (q : Nat → Nat) (w : World) (h : QAt w B q) (ht : Tab w) : Calls Tryd.prog 11 #[.pointer (some ⟨B, 0, none⟩)] w fun e w' =>
    ∃ v, e = .returned v ∧ w'.ownsRow w.heap.size 3 1 v (2 * (allP q 32).length) (rowI (flat (allP q 32))) ∧ Below w.heap.size w w' := by
  refine (callsIn_wide (n := 0)).1 ?_
  obtain ⟨i0, hi, hz0, hz1, hz2⟩ := info_parts info3
  have hnn := neq52
  have hp := ht.pos
  have hBl := h.lt
  obtain ⟨L, hL⟩ : ∃ L, L = allP q 32 := ⟨_, rfl⟩
  have hle := allP_le q 32
  have hsn : ∀ k, k < L.length → rowI (flat (L.take (k + 1))) = rowI (flat (L.take k)) ++ [.int .i64 (nP q k), .int .i64 (lP q k)] := fun k hk => by rw [hL] at hk ⊢; exact take_snoc q k hk
  have HSN := Lib.hid hsn
  rw [← hL] at hle ⊢
  have HL := Lib.hid hL
  clear hL hsn
  refine callsIn_of_wp_marks Tryd.func11 rfl trivial ?_ rfl
  simp only [Tryd.ntmps11, List.size_toArray, List.length_cons, List.length_nil, Nat.reduceAdd, Nat.reduceSub, Array.replicate_succ, Array.replicate_zero, List.push_toArray, List.append_toArray, List.nil_append, List.cons_append]
  gi_wp2_with (refine ⟨trivial, rfl, ?_⟩; gi_at_call 20; refine (callsIn_wide.2 (AllQ_any _ _)).mono ?_; rintro e w' ⟨rfl, rfl⟩)
  obtain ⟨Oc, hOc⟩ : ∃ Oc, Oc = w.heap.size := ⟨_, rfl⟩
  obtain ⟨w2, hw2⟩ : ∃ w2, (w.alloc (Obj.cells #[Value.slice none 0 0] 41)).alloc (Obj.cells #[Value.pointer (some ⟨B, 0, none⟩)] 23) = w2 := ⟨_, rfl⟩
  have z2 : w2.heap.size = Oc + 2 := by rw [← hw2, hOc]; simp
  have b2 : Below w.heap.size w w2 := by rw [← hw2]; exact ((Below.refl _ w).alloc (Nat.le_refl _) _).alloc (by simp) _
  have o2 : w2.cell? ⟨Oc, 0, none⟩ = some (.slice none 0 0) ∧ w2.frozen? ⟨Oc, 0, none⟩ = false := by rw [← hw2, hOc]; simp [go_sem]
  have s2 : w2.cell? ⟨Oc + 1, 0, none⟩ = some (.pointer (some ⟨B, 0, none⟩)) := by rw [← hw2, hOc]; simp [go_sem]
  have q2 : QAt w2 B q := h.below b2 hBl
  have t2 : Tab w2 := ht.below hp b2
  rw [hw2, ← hOc]
  clear hw2
  have hOp : 0 < Oc := by omega
  have hOw : Oc ≤ w.heap.size := by omega
  rw [← hOc] at b2
  have HOc := Lib.hid hOc
  have hI0 : IC w Oc Oc L 0 w2 := ⟨t2, b2, _, o2.1, o2.2, World.ownsRow_nil _ _ _ _⟩
  have HI0 := Lib.hid hI0
  have HQ := Lib.hid (And.intro q2 s2)
  have HH := Lib.hid (And.intro hOp (And.intro hOw z2))
  clear hI0 q2 s2 t2 o2 b2 h ht hBl hp hOw hOc
  refine wpIn_rangeF (gf := 25) (lb := #[.pointer (some ⟨Oc + 1, 0, none⟩)]) rfl (enters_of Tryd.func25 (by kernel_rfl) rfl)
    L.length (fun k => #[.int .i64 (nP q k), .int .i64 (lP q k)]) (fun _ => rfl) (FC Oc Oc)
    (fun k A => IC w Oc Oc L k A) (fun _ _ _ => False)
    (fun k => IC.foot HH.out.1 HH.out.2.1 k) (fun _ _ => ⟨fun _ h => h.elim, fun _ _ h => h.elim⟩) HI0.out
    (fun k a' _ => a' = { tmps := #[.pointer (some ⟨B, 0, none⟩), undef, .slice none 0 0, .pointer (some ⟨Oc, 0, none⟩), .func (.func 25) #[] #[.pointer (some ⟨Oc + 1, 0, none⟩)], .int .i64 (nP q k), .int .i64 (lP q k), .pointer (some ⟨B, 0, none⟩), .func (.func 25) #[] #[.pointer (some ⟨Oc + 1, 0, none⟩)], .func (.func 25) #[] #[.pointer (some ⟨Oc + 1, 0, none⟩)], .bool true, .func (.func 25) #[] #[.pointer (some ⟨Oc + 1, 0, none⟩)], .int .i64 (nP q k), .int .i64 (lP q k), undef, undef, undef, undef, undef, undef], defers := [] })
    (fun _ _ _ _ h _ => h) ?hit ?assign ?body ?done (fun _ _ _ _ h => h.elim)
  case hit =>
    intro J' Jx' W1 h1 h2 h3 h4 h5 h6 h7 h8
    rw [HH.out.2.2] at h1 h2 h5 h6 h7 ⊢
    rw [HL.out] at h7 ⊢
    exact seq_in _ (Oc + 1) B q _ J' Jx' W1 (fun j W' h => (h3 j W' h).1.1) ((h2.cell (p := ⟨Oc + 1, 0, none⟩) (show Oc + 1 < Oc + 2 by omega)).trans HQ.out.2) (HQ.out.1.below (by rw [HH.out.2.2]; exact h2) HQ.out.1.lt |> fun h => h) h7 h5 h6 h8
  case assign =>
    intro k A K hi hk hK
    gi_wp2
    exact hK _ _ rfl (Ch.refl _ _) hi (fun _ h => h)
  case body =>
    rintro k a' A ⟨h1, h2, v, h3, h4, h5⟩ hk rfl hz
    rw [HH.out.2.2] at hz
    obtain ⟨sp, cap, rfl⟩ := own_val h5
    have HT := Lib.hid (HSN.out k hk)
    have H5 := Lib.hid h5
    have H1 := Lib.hid (And.intro h1 h2)
    have HIC := Lib.hid (show IC w Oc Oc L k A from ⟨h1, h2, _, h3, h4, h5⟩)
    clear h1 h2 h5
    gi_wp2_with (gi_at_builtin; refine wpListIn_append_at _ rfl _ _ 41 rfl (Oc + 1) 3 i0 (.int .i64 0) 1 8 Tryd.underlying41 hi hz0 hz1 hz2 rfl (by decide) _ _ _ rfl (H5.out.alloc _) ⟨A.heap.size, 0, none⟩ 2 2 [.int .i64 (nP q k), .int .i64 (lP q k)] rfl rfl (two_new _ _ _ _) (by simp [Value.oneCell']) (by unfold maxLen; omega) (by omega) (by simp; omega) ?_; intro v' w1 hown' hgrow hat; obtain ⟨sp', cap', rfl⟩ := own_val hown'; have HG := Lib.hid (IC.grow HH.out.1 H1.out.1 H1.out.2 HH.out.2.1 h3 h4 H5.out HT.out hown' hgrow hat); have g1 : w1.cell? ⟨Oc, 0, none⟩ = some (.slice sp (2 * k) cap) := (grow_cell h3 h4 H5.out hgrow).1; have g2 : w1.frozen? ⟨Oc, 0, none⟩ = false := (grow_cell h3 h4 H5.out hgrow).2; clear hown' hgrow hat h3 h4)
    exact HG.out
  case done =>
    rintro A ⟨h1, h2, v, h3, h4, h5⟩ hD hnD hz
    rw [HH.out.2.2] at hD hnD hz
    rw [List.take_length] at h5
    obtain ⟨sp, cap, rfl⟩ := own_val h5
    have hne : ∀ g, (Value.slice sp (2 * L.length) cap).ownBlock = some g → g ≠ Oc + 2 := fun g hg e => by subst e; exact hnD (.inr (.inr ⟨_, h3, hg⟩))
    have HK := Lib.hid (And.intro h2 (And.intro h5 (And.intro hD hne)))
    clear h1 h2 h5 hD hnD hne
    gi_wp2
    rw [HH.out.2.2]
    have hp : Ch (fun j => j = Oc + 2) A (A.putObj (Oc + 2) (.deferred none)) := (Ch.refl _ _).putObj _ _ rfl
    refine ⟨by simp, .inl ⟨_, _, rfl, run_takeDeferred HK.out.2.2.1, ?_⟩⟩
    refine ⟨.slice sp (2 * L.length) cap, ?_, _, rfl, ?_, ?_⟩
    · simp [results, Tryd.results11, go_sem]
    · rw [← HOc.out]
      exact own_mono (own_same HK.out.2.1 fun g hg => hp.block g (HK.out.2.1.lt g hg).2 (HK.out.2.2.2 g hg)) (by omega)
    · rw [← HOc.out]
      exact HK.out.1.trans (hp.below (fun j hj e => by omega) (by omega))
end Go.Proofs.YtimaihdlaaonbaaDoor
