/- The contract of job's New. -/
import Derived.Test.YtcipkkeegbfaeaaXM
import Derived.Test.YtcipkkeegbfaeaaSi
namespace Go.Proofs.Ytcipkkeegbfaeaa
open Go.RowKit

section
variable {n0 : Nat} {P : Program} {ops : Array Oper} {rest : List Oper} {o : Oper} {a : Act} {w : World} {Q : Exit → Act → World → Prop}
theorem wpListIn_store_rowW (hgd : o.guard = none) (ty : TypeId) (x y : Operand) (ho : o.op = .store ty x y)
    (g : Nat) (cells : Array Value) (hx : a.eval x = .pointer (some ⟨g, 0, none⟩)) (hy : a.eval y = .agg cells)
    (t : TypeId) (old : Array Value) (hg : w.heap[g]? = some (.cells old t (0, 0))) (hi : (P.info? ty).map (·.size) = some cells.size)
    (hold : old.size = cells.size) (h1 : cells.all (·.oneCell') = true)
    (h : wpListIn Fence.wide n0 P ops Q rest (a.put o.dst undef) (w.setRow g cells)) : wpListIn Fence.wide n0 P ops Q (o :: rest) a w := by
  refine wpListIn_plain hgd fun K hK => ⟨fun _ _ => trivial, ?_⟩
  rw [show Fence.wide.round = none from rfl, Oper.semAt_none]
  unfold execOp
  simp only [ho, hx, hy, Instr.storeAt, Instr.sureAddr, Sem.run_bind, Sem.run_pure, Result.andThen_ok, run_storeVar_row w g t ty old cells hg hi hold h1]
  exact hK _ _ h
theorem wpListIn_load_rowW (hgd : o.guard = none) (ty : TypeId) (x : Operand) (ho : o.op = .load ty x) (g : Nat) (hx : a.eval x = .pointer (some ⟨g, 0, none⟩)) (t : TypeId) (cs : Array Value) (fr : Nat × Nat) (d : TypeDesc)
    (hg : w.heap[g]? = some (.cells cs t fr)) (hu : P.underlying ty = some d) (hd : (match d with | .struct _ | .array _ _ => true | _ => false) = true) (hi : (P.info? ty).map (·.size) = some cs.size)
    (h : wpListIn Fence.wide n0 P ops Q rest (a.put o.dst (.agg cs)) w) : wpListIn Fence.wide n0 P ops Q (o :: rest) a w := by
  refine wpListIn_plain hgd fun K hK => ⟨fun _ _ => trivial, ?_⟩
  rw [show Fence.wide.round = none from rfl, Oper.semAt_none, exec_load_row ty x ho g hx t cs fr d hg hu hd hi]
  exact hK _ _ h
end
/-- A job's cells. -/
abbrev jobR (id now dl c : Int) (v : Value) : Array Value := #[.int .i64 id, .int .i64 now, .int .i64 dl, .int .i64 c, .int .i64 0, v]
/-- What New's loop owns. -/
def FJ (Oc : Nat) (W : World) (j : Nat) : Prop := j < Oc ∨ j = Oc ∨ ∃ v, W.cell? ⟨Oc, 5, none⟩ = some v ∧ v.ownBlock = some j
/-- What it keeps: a job whose sections are the first k. -/
def IJ (rf : Nat → List Value) (id now dl c : Int) (w0 : World) (Oc : Nat) (k : Nat) (W : World) : Prop :=
  Below Oc w0 W ∧ ∃ v, RowAt W Oc 71 (jobR id now dl c v) ∧ W.ownsRow (Oc + 1) 99 3 v k (rf k)
theorem IJ.foot {rf : Nat → List Value} {id now dl c : Int} {w0 : World} {Oc : Nat} (hs : Oc ≤ w0.heap.size) (k : Nat) : Foot (FJ Oc) (IJ rf id now dl c w0 Oc k) where
  lt := fun W ⟨h2, v, h3, h5⟩ j hj => by
    rcases hj with hj | rfl | ⟨v', hv, hj⟩
    · have := h2.size; omega
    · exact h3.lt
    · rw [show W.cell? ⟨Oc, 5, none⟩ = some v from h3.cell 5] at hv; injection hv with hv; subst hv
      exact (h5.lt j hj).2
  keep := fun W W' ⟨h2, v, h3, h5⟩ hc => by
    have nO : ¬ ¬ FJ Oc W Oc := fun hn => hn (.inr (.inl rfl))
    have h3' : RowAt W' Oc 71 (jobR id now dl c v) := h3.keep hc nO
    have c3 : W.cell? ⟨Oc, 5, none⟩ = some v := h3.cell 5
    refine ⟨⟨h2.trans (Ch.below hc (fun j hj hn => hn (.inl hj)) (by have := h2.size; omega)), v, h3', own_same h5 fun g hg => hc.block g (h5.lt g hg).2 fun hn => hn (.inr (.inr ⟨v, c3, hg⟩))⟩, fun j hj => ?_⟩
    rcases hj with hj | hj | ⟨v', hv, hj⟩
    · exact .inl hj
    · exact .inr (.inl hj)
    · rw [show W'.cell? ⟨Oc, 5, none⟩ = some v from h3'.cell 5] at hv; injection hv with hv; subst hv
      exact .inr (.inr ⟨v, c3, hj⟩)
theorem growJ {rf : Nat → List Value} {id now dl c : Int} {A w1 : World} {Oc k : Nat} {v : Value} {ob : Obj} (h3 : RowAt A Oc 71 (jobR id now dl c v)) (h5 : A.ownsRow (Oc + 1) 99 3 v k (rf k)) (hg : (A.alloc ob).grownBy w1 v.ownBlock) : RowAt w1 Oc 71 (jobR id now dl c v) := by
  have hcr : Ch (fun j => v.ownBlock = some j) A w1 := (((Ch.refl (fun _ => False) A).alloc ob).mono (fun _ _ h => h.elim)).trans (ch_grown hg)
  exact h3.keep hcr fun hj => by have := own_ge h5 _ hj; omega
theorem IJ.grow {rf : Nat → List Value} {id now dl c : Int} {w0 A w1 : World} {Oc : Nat} {k : Nat} {v v' : Value} {ob : Obj} (h2 : Below Oc w0 A) (hs0 : Oc ≤ w0.heap.size) (h3 : RowAt A Oc 71 (jobR id now dl c v)) (h5 : A.ownsRow (Oc + 1) 99 3 v k (rf k))
    (ho : w1.ownsRow (Oc + 1) 99 3 v' (k + 1) (rf (k + 1))) (hg : (A.alloc ob).grownBy w1 v.ownBlock) (hat : v'.ownBlock = v.ownBlock ∨ v'.ownBlock = some (A.alloc ob).heap.size) :
    Step (FJ Oc) A (w1.setCell ⟨Oc, 5, none⟩ v') ∧ IJ rf id now dl c w0 Oc (k + 1) (w1.setCell ⟨Oc, 5, none⟩ v') := by
  have hz := h2.size
  have c3 : A.cell? ⟨Oc, 5, none⟩ = some v := h3.cell 5
  have hge : ∀ j, v.ownBlock = some j → Oc + 1 ≤ j := fun j hj => own_ge h5 j hj
  have hcr : Ch (fun j => v.ownBlock = some j) A w1 := (((Ch.refl (fun _ => False) A).alloc ob).mono (fun _ _ h => h.elim)).trans (ch_grown hg)
  have e3 := growJ h3 h5 hg
  have e5 : RowAt (w1.setCell ⟨Oc, 5, none⟩ v') Oc 71 (jobR id now dl c v') := e3.setC 5 v'
  have c5 : (w1.setCell ⟨Oc, 5, none⟩ v').cell? ⟨Oc, 5, none⟩ = some v' := e5.cell 5
  have hcW : Ch (fun j => j = Oc ∨ v.ownBlock = some j) A (w1.setCell ⟨Oc, 5, none⟩ v') := (hcr.mono fun _ _ h => .inr h).setCell _ _ (.inl (.inl rfl))
  refine ⟨⟨hcW.mono fun j _ hj => ?_, fun j hj => ?_⟩, h2.trans (hcW.below (fun j hj hn => ?_) (by omega)), v', e5, ?_⟩
  · rcases hj with hj | hj
    · exact .inr (.inl hj)
    · exact .inr (.inr ⟨v, c3, hj⟩)
  · rcases hj with hj | hj | ⟨v'', hv, hj⟩
    · exact .inl (.inl hj)
    · exact .inl (.inr (.inl hj))
    · rw [c5] at hv; injection hv with hv; subst hv
      rcases hat with ha | ha
      · rw [ha] at hj; exact .inl (.inr (.inr ⟨v, c3, hj⟩))
      · rw [ha] at hj; injection hj with hj; subst hj
        right; simp
  · rcases hn with hn | hn
    · omega
    · have := hge _ hn; omega
  · exact own_same ho fun g hg' => Below.heap_setCell w1 ⟨Oc, 5, none⟩ v' g (by have := own_ge ho g hg'; show g ≠ Oc; omega)
theorem secs_apartJ {w3 W1 : World} {Oc D Ob Tb Cb : Nat} {a0 a1 a2 : Int} {lon : Nat → Int} {cost id now dl c : Int} {S : Src} {n : Nat} {L : Nat → Sec} (h : SecsIn w3 (Oc + 1) Ob Tb Cb a0 a1 a2 lon cost S n L) (hD : w3.heap.size = D)
    (ho : RowAt w3 Oc 71 (jobR id now dl c (.slice none 0 0))) (hb : Below w3.heap.size w3 W1) : SecsAt W1 (fun W j => FJ Oc W j ∨ j = D ∨ j = D + 1) Tb Cb a0 a1 a2 lon cost S n L := by
  have o1 : W1.cell? ⟨Oc, 5, none⟩ = some (.slice none 0 0) := (ho.new hb).cell 5
  have no : ∀ j, Oc + 1 ≤ j → j < D → ¬ (FJ Oc W1 j ∨ j = D ∨ j = D + 1) := by
    rintro j h1 h2 ((h3 | h3 | ⟨v, h3, h4⟩) | h3 | h3)
    · omega
    · omega
    · rw [o1] at h3; injection h3 with h3; subst h3; simp [Value.ownBlock] at h4
    · omega
    · omega
  have h' := h.new hb
  refine ⟨h'.t, h'.c, h'.e, no _ h.lT ?_, no _ h.lC ?_, fun h0 => no _ (h.lS h0) ?_⟩
  · rw [← hD]; exact h.t.lt
  · rw [← hD]; exact World.block_lt_of_cell? w3 _ h.c
  · rw [← hD]; exact World.block_lt_of_cell? w3 _ ((h.e 0 h0) 0 _ rfl)
/-- How much work a job gets. -/
def jobC (C cost : Int) : Int := if C < (if cost < 1 then 1 else cost) then C else (if cost < 1 then 1 else cost)
attribute [local go_sem] Oper.semAt_some
set_option maxHeartbeats 8000000 in
set_option maxRecDepth 100000 in
theorem New_any (id now dl a0 a1 a2 : Int) (f : Nat → Int) (cost : Int) (S : Src) (n : Nat) (L : Nat → Sec) (w : World) (hn : n ≤ 1000) (hr : ∀ k, k < n → (-9223372036854775808 ≤ (L k).t ∧ (L k).t ≤ 9223372036854775807)) (hc : -9223372036854775808 ≤ cost ∧ cost ≤ 9223372036854775807) (hdl : IntKind.i64.wrap (now + a1) = dl) (hc2 : -9223372036854775808 ≤ a2 ∧ a2 ≤ 9223372036854775807)
    (hs : SlAt w (fun _ => False) S n) (he : ∀ k, k < n → At w S.b (S.o + k * 3) (secC (L k))) :
    Calls Try.prog 33 #[.int .i64 id, .agg #[.int .i64 a0, .int .i64 a1, .int .i64 a2, .int .i64 (f 0), .int .i64 (f 1), .int .i64 (f 2), .int .i64 (f 3), .int .i64 (f 4), .int .i64 (f 5), .int .i64 (f 6), .int .i64 (f 7)], .int .i64 now, .int .i64 cost, .slice S.sp n S.c] w
      fun e w' => ∃ v, e = .returned (.agg (jobR id now dl (jobC a2 cost) v)) ∧ w'.ownsRow w.heap.size 99 3 v (secsJ f (jobC a2 cost) L n).length (secR (fun k => (secsJ f (jobC a2 cost) L n).getD k default) (secsJ f (jobC a2 cost) L n).length) ∧ Below w.heap.size w w' := by
  refine (callsIn_wide (n := 0)).1 ?_
  obtain ⟨i0, hi, hz0, hz1, hz2⟩ := info_parts infoSc
  obtain ⟨c, hcc⟩ : ∃ c, jobC a2 cost = c := ⟨_, rfl⟩
  have hcr : -9223372036854775808 ≤ c ∧ c ≤ 9223372036854775807 := by rw [← hcc]; unfold jobC; (repeat' split) <;> omega
  obtain ⟨mx, hmx⟩ : ∃ m, (if cost < 1 then 1 else cost) = m := ⟨_, rfl⟩
  have hci : (if a2 < mx then a2 else mx) = c := by rw [← hmx]; exact hcc
  have hdl' : wrap64 (now + a1) = dl := by rw [← hdl, IntKind.wrap_i64]; unfold wrap64; rfl
  have HDL := Lib.hid hdl
  rw [hcc]
  have HIt := Lib.hid (fun (l Ob Tb Cb : Nat) (S : Src) (F : World → Nat → Prop) (J Jx : Nat → World → Prop) (W : World) => sections_in l Ob Tb Cb a0 a1 a2 f c S n L F J Jx W hr hcr hn)
  obtain ⟨at_, hat⟩ : ∃ g : Nat → Sec, (fun k => (secsJ f c L n).getD k default) = g := ⟨_, rfl⟩
  obtain ⟨N, hN⟩ : ∃ N, (secsJ f c L n).length = N := ⟨_, rfl⟩
  have hN8 : N ≤ 8 := by rw [← hN]; exact goJ_len f c L n
  have hat' : ∀ k, (secsJ f c L n).getD k default = at_ k := fun k => congrFun hat k
  simp only [hat', hN] at HIt
  rw [hat, hN]
  have HS := Lib.hid (fun (wx : World) (hb : Below w.heap.size w wx) => Sections_any a0 a1 a2 f c S n L wx hn (hs.keep (Ch.new hb (T := fun _ => False))) (fun k hk => (he k hk).keep (Ch.new hb (T := fun _ => False)) (fun h => h)))
  clear hs he hr hat hat' hN hcc hdl
  obtain ⟨sp, sb, so, sc⟩ := S
  dsimp only at HS ⊢
  obtain ⟨Tz, hTz⟩ : ∃ Z, Z = w.heap.size := ⟨_, rfl⟩
  obtain ⟨Rz, hRz⟩ : ∃ Z, Z = w.heap.size + 1 := ⟨_, rfl⟩
  obtain ⟨Oc, hOc⟩ : ∃ Z, Z = w.heap.size + 1 + 1 := ⟨_, rfl⟩
  have HOc := Lib.hid (And.intro hOc (And.intro hTz hRz))
  have HW := Lib.hid (show ∀ w2, ((w.alloc (.cells #[.int .i64 a0, .int .i64 a1, .int .i64 a2, .int .i64 (f 0), .int .i64 (f 1), .int .i64 (f 2), .int .i64 (f 3), .int .i64 (f 4), .int .i64 (f 5), .int .i64 (f 6), .int .i64 (f 7)] 62)).alloc (.cells (jobR 0 0 0 0 (.slice none 0 0)) 71)).alloc (.cells (jobR id now dl c (.slice none 0 0)) 71) = w2 → w2.heap.size = Oc + 1 ∧ Below w.heap.size w w2 ∧ RowAt w2 Oc 71 (jobR id now dl c (.slice none 0 0)) ∧ ∃ w1, w1.heap.size = Oc ∧ Below w.heap.size w w1 ∧ Below Oc w1 w2 ∧ RowAt w1 Rz 71 (jobR 0 0 0 0 (.slice none 0 0)) from fun w2 hw => by
    have h3 := three_alloc w #[.int .i64 a0, .int .i64 a1, .int .i64 a2, .int .i64 (f 0), .int .i64 (f 1), .int .i64 (f 2), .int .i64 (f 3), .int .i64 (f 4), .int .i64 (f 5), .int .i64 (f 6), .int .i64 (f 7)] (jobR 0 0 0 0 (.slice none 0 0)) (jobR id now dl c (.slice none 0 0)) 62 71 71
    have h2 := two_alloc (w := w) (a := #[.int .i64 a0, .int .i64 a1, .int .i64 a2, .int .i64 (f 0), .int .i64 (f 1), .int .i64 (f 2), .int .i64 (f 3), .int .i64 (f 4), .int .i64 (f 5), .int .i64 (f 6), .int .i64 (f 7)]) (b := jobR 0 0 0 0 (.slice none 0 0)) (ta := 62) (tb := 71) (Below.refl _ _)
    rw [hw, ← hOc] at h3
    rw [← hRz] at h2
    refine ⟨by rw [← hw]; simp [hOc], h3.1, h3.2.2.2, _, by simp [hOc], h2.1, ?_, h2.2.2⟩
    rw [← hw]; exact (Below.refl _ _).alloc (by simp [hOc]) _)
  clear hOc hTz hRz
  refine callsIn_of_wp_marks Try.func33 rfl trivial ?_ rfl
  simp only [Try.ntmps33, List.size_toArray, List.length_cons, List.length_nil, Nat.reduceAdd, Nat.reduceSub, Array.replicate_succ, Array.replicate_zero, List.push_toArray, List.append_toArray, List.nil_append, List.cons_append]
  gi_wp2_with (refine ⟨trivial, rfl, ?_⟩; gi_at_call 60; generalize hw2 : World.alloc _ _ = w2; have H2 := Lib.hid (HW.out w2 hw2); refine (callsIn_wide.2 (HS.out w2 H2.out.2.1)).mono ?_; rintro e w3 ⟨Ob, Tb, Cb, S', rfl, hb3, hsi⟩)
  rw [← HOc.out.1, ← HOc.out.2.2, ← HOc.out.2.1]
  obtain ⟨z2, -, r2, w1, z1, b1, b12, r1⟩ := H2.out
  have b2 : Below Oc w1 w3 := b12.trans (hb3.mono (by omega))
  have r3 : RowAt w3 Oc 71 (jobR id now dl c (.slice none 0 0)) := r2.new hb3
  obtain ⟨D, hD⟩ : ∃ D, w3.heap.size = D := ⟨_, rfl⟩
  have hDO : Oc + 1 ≤ D := by rw [← hD, ← z2]; exact hb3.size
  rw [z2] at hsi
  have HI0 := Lib.hid (show IJ (secR at_) id now dl c w1 Oc 0 w3 from ⟨b2, _, r3, World.ownsRow_nil _ _ _ _⟩)
  have HH := Lib.hid (And.intro (show Oc ≤ w1.heap.size by omega) (And.intro hD (And.intro hDO (And.intro b1 r1))))
  have HA := Lib.hid (And.intro (fun W1 (hb : Below D w3 W1) => secs_apartJ hsi hD r3 (by rw [hD]; exact hb)) (And.intro (fun W1 (hb : Below w3.heap.size w3 W1) => (hsi.new hb).o) hsi.sp))
  clear hw2 H2 z2 r2 z1 b1 b12 r1 b2 r3 hD hDO hsi hb3 HS HW hmx hci hdl'
  refine wpIn_rangeF2 (gf := 79) (lb := #[.pointer (some ⟨Ob, 0, none⟩), .pointer (some ⟨Tb, 0, none⟩), .pointer (some ⟨Cb, 0, none⟩)]) rfl (enters_of Try.func79 (by kernel_rfl) rfl)
    N (fun k => secA (at_ k)) (fun _ => rfl) (FJ Oc) (fun k A => IJ (secR at_) id now dl c w1 Oc k A) (fun _ _ _ => False)
    (fun k => IJ.foot HH.out.1 k) (fun _ _ => ⟨fun _ h => h.elim, fun _ _ h => h.elim⟩) HI0.out
    (fun k a' W' => ∃ b, D + 2 ≤ b ∧ a' = { tmps := #[.int .i64 id, .agg #[.int .i64 a0, .int .i64 a1, .int .i64 a2, .int .i64 (f 0), .int .i64 (f 1), .int .i64 (f 2), .int .i64 (f 3), .int .i64 (f 4), .int .i64 (f 5), .int .i64 (f 6), .int .i64 (f 7)], .int .i64 now, .int .i64 cost, .slice sp n sc, undef, .pointer (some ⟨Tz, 0, none⟩), undef, undef, undef, .pointer (some ⟨Rz, 0, none⟩), .pointer (some ⟨Oc, 0, none⟩), .pointer (some ⟨b, 0, none⟩), .int .i64 id, .int .i64 now, .int .i64 now, .pointer (some ⟨Tz, 1, none⟩), .int .i64 a1, .int .i64 dl, .int .i64 cost, .int .i64 mx, .pointer (some ⟨Tz, 2, none⟩), .int .i64 a2, .int .i64 c, .agg (jobR id now dl c (.slice none 0 0)), .agg #[.int .i64 a0, .int .i64 a1, .int .i64 a2, .int .i64 (f 0), .int .i64 (f 1), .int .i64 (f 2), .int .i64 (f 3), .int .i64 (f 4), .int .i64 (f 5), .int .i64 (f 6), .int .i64 (f 7)], .pointer (some ⟨Oc, 3, none⟩), .int .i64 c, .slice sp n sc, .func (.func 79) #[] #[.pointer (some ⟨Ob, 0, none⟩), .pointer (some ⟨Tb, 0, none⟩), .pointer (some ⟨Cb, 0, none⟩)], .agg #[.int .i64 (at_ k).r, .int .i64 (at_ k).f, .int .i64 (at_ k).t], undef, undef, undef, undef, undef, undef, undef], defers := [] } ∧ RowAt W' b 99 #[.int .i64 (at_ k).r, .int .i64 (at_ k).f, .int .i64 (at_ k).t])
    ?hax ?hit ?assign ?body ?done (fun _ _ _ _ h => h.elim)
  case hax =>
    rintro k a' W W' ⟨b, hb, rfl, hr⟩ hc
    rw [HH.out.2.1] at hc
    exact ⟨b, hb, rfl, hr.keep hc (by omega)⟩
  case hit =>
    intro J' Jx' W1 h1' h2 h3 h4 h5 h6 h7 h8
    have ho := HA.out.2.1 W1 h2
    rw [HH.out.2.1] at h1' h2 h5 h6 h7 ⊢
    exact HIt.out _ Ob Tb Cb S' _ J' Jx' W1 ho HA.out.2.2 (HA.out.1 W1 h2) h7 h5 h6 h8
  case assign =>
    intro k W K hi' hk hz hK
    rw [HH.out.2.1] at hz
    have HK := Lib.hid hK
    have hkp := (IJ.foot (rf := secR at_) (id := id) (now := now) (dl := dl) (c := c) HH.out.1 k).keep W (W.alloc (.cells #[.int .i64 (at_ k).r, .int .i64 (at_ k).f, .int .i64 (at_ k).t] 99)) hi' (Off.nothing ((Ch.refl _ _).alloc _))
    have HKP := Lib.hid hkp
    have hnA : secA (at_ k) = #[.agg #[.int .i64 (at_ k).r, .int .i64 (at_ k).f, .int .i64 (at_ k).t]] := rfl
    rw [hnA]
    clear hK hkp hi' hnA
    gi_wp2
    exact HK.out _ _ ⟨W.heap.size, by omega, rfl, RowAt.mk W 99 _⟩ ((Ch.refl _ _).alloc _) HKP.out.1 HKP.out.2
  case body =>
    rintro k a' A ⟨h2, v, h3, h5⟩ hk ⟨b, hb, rfl, hr⟩ hz
    rw [HH.out.2.1] at hz
    have hpt : secR at_ (k + 1) = secR at_ k ++ [.int .i64 (at_ k).r, .int .i64 (at_ k).f, .int .i64 (at_ k).t] := rowsOf_succ _ k
    obtain ⟨x, hx⟩ : ∃ x, (at_ k).r = x := ⟨_, rfl⟩
    obtain ⟨y, hy⟩ : ∃ y, (at_ k).f = y := ⟨_, rfl⟩
    obtain ⟨z, hz'⟩ : ∃ z, (at_ k).t = z := ⟨_, rfl⟩
    rw [hx, hy, hz'] at hpt hr ⊢
    have q0 : A.cell? ⟨b, 0, none⟩ = some (.int .i64 x) := hr.cell 0
    have q1 : A.cell? ⟨b, 1, none⟩ = some (.int .i64 y) := hr.cell 1
    have q2 : A.cell? ⟨b, 2, none⟩ = some (.int .i64 z) := hr.cell 2
    have q3 : A.cell? ⟨Oc, 5, none⟩ = some v := h3.cell 5
    obtain ⟨sp', cap, rfl⟩ := own_val h5
    have H5 := Lib.hid h5
    have H1 := Lib.hid h2
    have H3 := Lib.hid h3
    have HP := Lib.hid hpt
    clear h2 h3 h5 hr hx hy hz' hpt
    gi_wp2_with (gi_at_builtin; refine wpListIn_append_at _ rfl _ _ 63 rfl (Oc + 1) 99 i0 (.agg #[.int .i64 0, .int .i64 0, .int .i64 0]) 3 24 Try.underlying63 hi hz0 hz1 hz2 rfl (by decide) _ _ _ rfl (H5.out.alloc _) ⟨A.heap.size, 0, none⟩ 1 1 [.int .i64 x, .int .i64 y, .int .i64 z] rfl rfl (three_new _ _ _ _ _) (by simp [Value.oneCell']) (by unfold maxLen; omega) (by omega) (by have := H1.out.size; have := HH.out.1; simp; omega) ?_; intro v' w4 hown' hgrow hat; obtain ⟨sp2, cap', rfl⟩ := own_val hown'; have HG := Lib.hid (IJ.grow (rf := secR at_) H1.out HH.out.1 H3.out H5.out (by rw [HP.out]; exact hown') hgrow hat); have gA : w4.cell? ⟨Oc, 5, none⟩ = some (.slice sp' k cap) := (growJ H3.out H5.out hgrow).cell 5; have gB : w4.frozen? ⟨Oc, 5, none⟩ = false := (growJ H3.out H5.out hgrow).fr 5; clear hown' hgrow hat q3)
    exact HG.out
  case done =>
    rintro A ⟨h2, v, h3, h5⟩ hD hnD hz
    rw [HH.out.2.1] at hD hnD hz
    obtain ⟨sp', cap, rfl⟩ := own_val h5
    have hne : ∀ g, (Value.slice sp' N cap).ownBlock = some g → g ≠ D := fun g hg e => by subst e; exact hnD (.inr (.inr ⟨_, h3.cell 5, hg⟩))
    have r1 : RowAt A Rz 71 (jobR 0 0 0 0 (.slice none 0 0)) := (h2.block Rz (by have h := HOc.out; omega)).trans HH.out.2.2.2.2
    have HK := Lib.hid (And.intro h2 (And.intro h5 (And.intro hD (And.intro hne (And.intro h3 r1)))))
    clear h2 h3 h5 hD hnD hne r1
    gi_wp2_with (first
      | (refine wpListIn_load_rowW rfl 71 (.tmp 11) rfl Oc rfl 71 (jobR id now dl c (.slice sp' N cap)) (0, 0) _ HK.out.2.2.2.2.1 Try.underlying71 rfl (by kernel_rfl) ?_)
      | (refine wpListIn_store_rowW rfl 71 (.tmp 10) (.tmp 37) rfl Rz (jobR id now dl c (.slice sp' N cap)) (by rfl) (by rfl) 71 _ HK.out.2.2.2.2.2 (by kernel_rfl) (by rfl) (by simp [Value.oneCell']) ?_; generalize hw4 : World.setRow _ _ _ = w4)
      | fail)
    have hO := HOc.out
    have hDO := HH.out.2.2.1
    have hc4 : Ch (fun j => j = Rz) A w4 := by rw [← hw4]; exact ch_setRow A Rz _
    have hR4 : RowAt w4 Rz 71 (jobR id now dl c (.slice sp' N cap)) := by rw [← hw4]; exact HK.out.2.2.2.2.2.put
    have hD4 : w4.heap[D]? = some (.deferred (some [])) := hc4.obj HK.out.2.2.1 (by omega)
    have hb4 : Below w.heap.size A w4 := hc4.below (fun j hj e => by omega) (by have := HK.out.1.size; have := HH.out.1; omega)
    have ho4 : w4.ownsRow (Oc + 1) 99 3 (.slice sp' N cap) N (secR at_ N) := own_ch HK.out.2.1 hc4 (fun g hg e => by have := own_ge HK.out.2.1 g hg; omega)
    rw [HH.out.2.1]
    have hp : Ch (fun j => j = D) w4 (w4.putObj D (.deferred none)) := (Ch.refl _ _).putObj _ _ rfl
    have hRp : RowAt (w4.putObj D (.deferred none)) Rz 71 (jobR id now dl c (.slice sp' N cap)) := hR4.keep hp (by omega)
    have HP4 := Lib.hid (And.intro hp (And.intro hb4 (And.intro ho4 hRp)))
    clear hw4 hc4 hR4 hb4 ho4 hp hRp
    refine ⟨by simp, .inl ⟨_, _, rfl, run_takeDeferred hD4, ?_⟩⟩
    have hpw : ∃ w5, w4.putObj D (.deferred none) = w5 := ⟨_, rfl⟩
    obtain ⟨w5, hw5⟩ := hpw
    rw [hw5] at HP4 ⊢
    clear hw5
    have q0 : w5.cell? ⟨Rz, 0, none⟩ = some (.int .i64 id) := HP4.out.2.2.2.cell 0
    have q1 : w5.cell? ⟨Rz, 1, none⟩ = some (.int .i64 now) := HP4.out.2.2.2.cell 1
    have q2 : w5.cell? ⟨Rz, 2, none⟩ = some (.int .i64 dl) := HP4.out.2.2.2.cell 2
    have q3 : w5.cell? ⟨Rz, 3, none⟩ = some (.int .i64 c) := HP4.out.2.2.2.cell 3
    have q4 : w5.cell? ⟨Rz, 4, none⟩ = some (.int .i64 0) := HP4.out.2.2.2.cell 4
    have q5 : w5.cell? ⟨Rz, 5, none⟩ = some (.slice sp' N cap) := HP4.out.2.2.2.cell 5
    refine ⟨.agg (jobR id now dl c (.slice sp' N cap)), ?_, _, rfl, ?_, ?_⟩
    · simp [results, Try.results33, go_sem, q0, q1, q2, q3, q4, q5]
    · exact own_mono (own_same HP4.out.2.2.1 fun g hg => HP4.out.1.block g (HP4.out.2.2.1.lt g hg).2 (HK.out.2.2.2.1 g hg)) (by omega)
    · exact HH.out.2.2.2.1.trans ((HK.out.1.mono (by omega)).trans (HP4.out.2.1.trans (HP4.out.1.below (fun j hj e => by omega) (by have := HK.out.1.size; have := HH.out.1; have := HP4.out.2.1.size; omega))))
end Go.Proofs.Ytcipkkeegbfaeaa
