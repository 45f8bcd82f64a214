/- Several texts in one: GC, BE, Foot2. -/
import Derived.Test.YthpagbfabpfngaaPk14
import Derived.Test.YthpagbfabpfngaaPk13
import Derived.Test.YthpagbfabpfngaaPk02
/- What one call of the law makes of both devices: the state, and where it lies. -/
namespace Go.Proofs.Ythpagbfabpfngaa
open Go.RowKit

/-- The reference's numbers: what is below 0 is 0. -/
def Dev.nn (d : Dev) : Dev := { d with after := max d.after 0 }
theorem nn_goes (d : Dev) : d.nn.goes = (d.goes.1.nn, d.goes.2) := by
  obtain ⟨ns, nw, lim, on, op, ar, af, sd, wd, wn⟩ := d
  unfold Dev.goes Dev.nn
  cases ar with
  | false => rfl
  | true =>
    simp only [if_true]
    by_cases h : 0 < af
    · have h2 : 0 < max af 0 := by omega
      rw [if_pos h, if_pos h2]
      simp only [Prod.mk.injEq, and_true, Dev.mk.injEq, true_and]
      omega
    · have h2 : ¬ 0 < max af 0 := by omega
      rw [if_neg h, if_neg h2]
theorem nn_readE (d : Dev) (s k : Int) : d.nn.readE s k = d.readE s k := rfl
theorem nn_readW (d : Dev) (s k : Int) : d.nn.readW s k = d.readW s k := rfl
theorem nn_mask (d : Dev) : d.nn.mask = d.mask := by unfold Dev.mask; rw [nn_goes]; rfl
theorem nn_program (d : Dev) (s k : Int) (x : BitVec 32) : d.nn.program s k x = ((d.program s k x).1.nn, (d.program s k x).2) := by
  unfold Dev.program
  rw [nn_readE, nn_readW, nn_mask, nn_goes]
  split
  · split
    · split <;> rfl
    · rfl
  · rfl
theorem nn_wear (d : Dev) (i : Nat) : d.nn.wear i = (d.wear i).nn := rfl
theorem nn_erase (d : Dev) (s : Int) : d.nn.erase s = ((d.erase s).1.nn, (d.erase s).2) := by
  unfold Dev.erase
  rw [nn_readE, nn_wear, nn_mask, nn_goes]
  show (if d.readE s 0 = 0 then (if d.limit ≤ d.worn s.toNat then (d.nn, 62) else _) else _) = _
  split
  · split
    · rfl
    · split <;> rfl
  · rfl
theorem nn_okE {d : Dev} (h : d.okE) : d.nn.okE := by
  obtain ⟨⟨h1, h2, h3, h4⟩, h5, h6⟩ := h
  exact ⟨⟨h1, h2, by show _ ≤ max d.after 0; omega, by show max d.after 0 ≤ _; omega⟩, h5, h6⟩
/-- What a call is. -/
structure FOp where
  kind : Int
  sec : Int
  wrd : Int
  w : BitVec 32
def FOp.val (o : FOp) : Value := .agg #[.int .i64 o.kind, .int .i64 o.sec, .int .i64 o.wrd, .int .u32 (w32 o.w)]
/-- What a call makes of the device. -/
def Dev.step (d : Dev) (o : FOp) : Dev :=
  if o.kind % 8 = 4 then (d.erase o.sec).1 else if o.kind % 8 = 5 then d.arm o.wrd o.w else if o.kind % 8 = 6 then d.power true else if o.kind % 8 = 7 then d.power false else (d.program o.sec o.wrd o.w).1
theorem mod8 (k : Int) : ∃ r r8, k.tmod 8 = r ∧ wrap64 (r + 8) = r8 ∧ r8.tmod 8 = k % 8 := by
  have h1 := Int.tmod_lt_of_pos k (show (0 : Int) < 8 by decide)
  have h2 : -8 < k.tmod 8 := by
    have := Int.neg_lt_of_neg_lt (a := k.tmod 8) (b := 8)
    have h3 := Int.tmod_lt_of_pos (-k) (show (0 : Int) < 8 by decide)
    rw [Int.neg_tmod] at h3; omega
  have h3 : k.tmod 8 % 8 = k % 8 := by
    have := Int.mul_tdiv_add_tmod k 8
    omega
  refine ⟨_, k.tmod 8 + 8, rfl, ?_, ?_⟩
  · simp only [wrap64]; omega
  · rw [Int.tmod_eq_emod_of_nonneg (by omega)]; omega
theorem goes_ok {d : Dev} (h : d.ok) : 0 ≤ d.goes.1.ops ∧ d.goes.1.ops ≤ d.ops + 1 ∧ -9223372036854775808 ≤ d.goes.1.after ∧ d.goes.1.after ≤ 9223372036854775807 := by
  obtain ⟨h1, h2, h3, h4⟩ := h
  unfold Dev.goes
  split
  · split
    · refine ⟨?_, ?_, ?_, ?_⟩ <;> simp only <;> omega
    · refine ⟨?_, ?_, ?_, ?_⟩ <;> simp only <;> omega
  · refine ⟨?_, ?_, ?_, ?_⟩ <;> simp only <;> omega
/-- What stays of the numbers, whatever is called. -/
structure Dev.kept (d d' : Dev) : Prop where
  ns : d'.ns = d.ns
  nw : d'.nw = d.nw
  lim : d'.limit = d.limit
  ops : 0 ≤ d'.ops ∧ d'.ops ≤ d.ops + 1
  af : -9223372036854775808 ≤ d'.after ∧ d'.after ≤ 9223372036854775807
  worn : ∀ i, 0 ≤ d'.worn i
theorem step_kept {d : Dev} (h : d.okE) (o : FOp) (ho : -9223372036854775808 ≤ o.wrd ∧ o.wrd ≤ 9223372036854775807) : d.kept (d.step o) := by
  have self : d.kept d := ⟨rfl, rfl, rfl, ⟨h.1.1, by omega⟩, h.1.2.2, h.2.2⟩
  unfold Dev.step
  split
  · unfold Dev.erase
    have hw : ∀ i j, 0 ≤ (d.wear i).worn j := fun i j => by
      show 0 ≤ updI d.worn i (d.worn i + 1) j
      unfold updI; split
      · have := h.2.2 i; omega
      · exact h.2.2 j
    obtain ⟨g1, g2, g3, g4⟩ := goes_ok (wear_ok h.1 o.sec.toNat)
    obtain ⟨e1, e2, e3, e4, e5⟩ := goes_same (d.wear o.sec.toNat)
    split
    · split
      · exact self
      · split
        · exact ⟨e1, e2, e5, ⟨g1, g2⟩, ⟨g3, g4⟩, fun i => by show 0 ≤ (d.wear o.sec.toNat).goes.1.worn i; rw [e4]; exact hw _ i⟩
        · exact ⟨e1, e2, e5, ⟨g1, g2⟩, ⟨g3, g4⟩, fun i => by show 0 ≤ (d.wear o.sec.toNat).goes.1.worn i; rw [e4]; exact hw _ i⟩
    · exact self
  split
  · exact ⟨rfl, rfl, rfl, self.ops, ho, h.2.2⟩
  split
  · exact ⟨rfl, rfl, rfl, self.ops, self.af, h.2.2⟩
  split
  · exact ⟨rfl, rfl, rfl, self.ops, self.af, h.2.2⟩
  · unfold Dev.program
    obtain ⟨g1, g2, g3, g4⟩ := goes_ok h.1
    obtain ⟨e1, e2, e3, e4, e5⟩ := goes_same d
    split
    · split
      · split
        · exact ⟨e1, e2, e5, ⟨g1, g2⟩, ⟨g3, g4⟩, fun i => by show 0 ≤ d.goes.1.worn i; rw [e4]; exact h.2.2 i⟩
        · exact ⟨e1, e2, e5, ⟨g1, g2⟩, ⟨g3, g4⟩, fun i => by show 0 ≤ d.goes.1.worn i; rw [e4]; exact h.2.2 i⟩
      · exact self
    · exact self
end Go.Proofs.Ythpagbfabpfngaa
/- The contract of bank's blank. -/
namespace Go.Proofs.Ythpagbfabpfngaa
open Go.RowKit
attribute [local go_sem] Oper.semAt_some

/-- What stays of the numbers, in so many operations. -/
structure Dev.keptN (d d' : Dev) (n : Nat) : Prop where
  ns : d'.ns = d.ns
  nw : d'.nw = d.nw
  lim : d'.limit = d.limit
  ops : 0 ≤ d'.ops ∧ d'.ops ≤ d.ops + n
  af : -9223372036854775808 ≤ d'.after ∧ d'.after ≤ 9223372036854775807
  worn : ∀ i, 0 ≤ d'.worn i
theorem keptN_refl {d : Dev} (h : d.okE) : d.keptN d 0 := ⟨rfl, rfl, rfl, ⟨h.1.1, by omega⟩, h.1.2.2, h.2.2⟩
theorem Dev.kept.n {d d' : Dev} (h : d.kept d') : d.keptN d' 1 := ⟨h.ns, h.nw, h.lim, ⟨h.ops.1, by have := h.ops.2; omega⟩, h.af, h.worn⟩
theorem Dev.keptN.trans {d d' d'' : Dev} {n m : Nat} (h : d.keptN d' n) (h' : d'.keptN d'' m) : d.keptN d'' (n + m) :=
  ⟨h'.ns.trans h.ns, h'.nw.trans h.nw, h'.lim.trans h.lim, ⟨h'.ops.1, by have := h'.ops.2; have := h.ops.2; omega⟩, h'.af, h'.worn⟩
theorem Dev.keptN.mono {d d' : Dev} {n m : Nat} (h : d.keptN d' n) (hm : n ≤ m) : d.keptN d' m := ⟨h.ns, h.nw, h.lim, ⟨h.ops.1, by have := h.ops.2; omega⟩, h.af, h.worn⟩
theorem Dev.keptN.okE {d d' : Dev} {n : Nat} (h : d.keptN d' n) (ho : d.okE) (hn : d.ops + n ≤ 1000000) : d'.okE := ⟨⟨h.ops.1, by have := h.ops.2; omega, h.af⟩, by rw [h.lim]; exact ho.2.1, h.worn⟩
theorem erase_kept {d : Dev} (h : d.okE) (s : Int) : d.keptN (d.erase s).1 1 := (step_kept h ⟨4, s, 0, 0#32⟩ (by simp)).n
theorem program_kept {d : Dev} (h : d.okE) (s k : Int) (x : BitVec 32) (hk : -9223372036854775808 ≤ k ∧ k ≤ 9223372036854775807) : d.keptN (d.program s k x).1 1 := (step_kept h ⟨0, s, k, x⟩ hk).n

/-- Sectors are erased one behind the other, as long as it goes. -/
def eraseK (d : Dev) (base many : Nat) : Nat → Dev × Int
  | 0 => (d, 0)
  | k + 1 => if (eraseK d base many k).2 = 0 then (eraseK d base many k).1.erase (secN base many k : Nat) else eraseK d base many k
theorem eraseK_stuck {d : Dev} {base many k : Nat} (h : (eraseK d base many k).2 ≠ 0) : ∀ j, k ≤ j → eraseK d base many j = eraseK d base many k := by
  intro j hj
  induction j with
  | zero => obtain rfl : k = 0 := by omega
            rfl
  | succ j ih =>
    rcases Nat.lt_or_ge j k with h1 | h1
    · obtain rfl : k = j + 1 := by omega
      rfl
    · have e := ih h1
      show (if (eraseK d base many j).2 = 0 then _ else eraseK d base many j) = _
      rw [e, if_neg h]
theorem eraseK_kept {d : Dev} {base many : Nat} (h : d.okE) (hn : d.ops + many ≤ 1000000) : ∀ k, k ≤ many → d.keptN (eraseK d base many k).1 k := by
  intro k
  induction k with
  | zero => intro _; exact keptN_refl h
  | succ k ih =>
    intro hk
    have i := ih (by omega)
    show d.keptN (if (eraseK d base many k).2 = 0 then _ else eraseK d base many k).1 _
    split
    · exact i.trans (erase_kept (i.okE h (by omega)) _)
    · exact i.mono (by omega)
/-- Void, and then blank, up to the first error. -/
def blankD (d : Dev) (base many : Nat) : Dev × Int := if (d.program (base : Nat) 0 0#32).2 = 0 then eraseK (d.program (base : Nat) 0 0#32).1 base many many else d.program (base : Nat) 0 0#32
theorem blankD_kept {d : Dev} {base many : Nat} (h : d.okE) (hn : d.ops + many + 1 ≤ 1000000) : d.keptN (blankD d base many).1 (many + 1) := by
  have h1 := program_kept h (base : Nat) 0 0#32 (by omega)
  have h2 := h1.okE h (by omega)
  unfold blankD
  split
  · have := h1.ops
    exact (h1.trans (eraseK_kept h2 (by omega) many (Nat.le_refl _))).mono (by omega)
  · exact h1.mono (by omega)
set_option maxHeartbeats 4000000 in
set_option maxRecDepth 100000 in
theorem bblank_any {w : World} {B q S : Nat} {g : Nat → Nat} {d : Dev} {base many : Nat} {op : Bool} {P : List (BitVec 32)} (h : Bk w B q S g d base many op P) (ho : d.okE) (hn : d.ops + many + 1 ≤ 1000000) :
    Calls Try.prog 76 #[.pointer (some ⟨B, 0, none⟩)] w fun e w' => e = .returned (.int .i64 (blankD d base many).2) ∧ Bk w' B q S g (blankD d base many).1 base many op P ∧ Ch (OwnD q S g d.ns) w w' := by
  refine (callsIn_wide (n := 0)).1 ?_
  refine callsIn_of_wp_marks Try.func76 rfl trivial ?_ rfl
  simp only [Try.ntmps76, List.size_toArray, List.length_cons, List.length_nil, Nat.reduceAdd, Nat.reduceSub, Array.replicate_succ, Array.replicate_zero, List.push_toArray, List.append_toArray, List.nil_append, List.cons_append]
  obtain ⟨A, hA⟩ : ∃ A, A = w.heap.size := ⟨_, rfl⟩
  obtain ⟨w0, hw0⟩ : ∃ w0, w0 = (w.alloc (.cells #[.pointer (some ⟨B, 0, none⟩)] 35)).alloc (.cells #[.int .i64 0] 32) := ⟨_, rfl⟩
  have b0 : Below w.heap.size w w0 := by rw [hw0]; exact ((Below.refl _ w).alloc (Nat.le_refl _) _).alloc (by simp) _
  have z0 : w0.heap.size = A + 2 := by rw [hw0, hA]; simp
  have hlo := h.lt
  have h0 : LI w (OwnD q S g d.ns) (A + 2) (A + 1) [(⟨A, 0, none⟩, .pointer (some ⟨B, 0, none⟩))] B q S g d.ns d base many op P (.int .i64 0) w0 := by
    refine ⟨h.new b0, rfl, ?_, by rw [hw0, hA]; simp [go_sem], by rw [hw0, hA]; simp [go_sem], by omega, by omega, Ch.new b0, hlo⟩
    intro x hx
    simp at hx
    subst hx
    exact ⟨by rw [hw0, hA]; simp [go_sem], by simp; omega, by simp, by simp⟩
  have H0 := Lib.hid h0
  have c0 := h0.bk.c0
  have c1 := h0.bk.c1
  have p0 := (h0.cs (⟨A, 0, none⟩, .pointer (some ⟨B, 0, none⟩)) (by simp)).1
  have r0 := h0.res
  have f0 := h0.fr
  have HZ := Lib.hid h.dev.zn
  have HH := Lib.hid (And.intro hA (And.intro h.fit (And.intro ho hn)))
  have hbs : (base : Int) ≤ 64 := by have := h.fit; have := h.dev.zn; omega
  have HPr := Lib.hid (program_any (H0.out.dn 1).bk.dev ho.1 (base : Nat) 0 0#32)
  have HK := Lib.hid (program_kept ho (base : Nat) 0 0#32 (by omega))
  have HE := Lib.hid (show blankD d base many = if (d.program (base : Nat) 0 0#32).2 = 0 then eraseK (d.program (base : Nat) 0 0#32).1 base many many else d.program (base : Nat) 0 0#32 from rfl)
  obtain ⟨⟨d1, e1⟩, hpr⟩ : ∃ p, d.program (base : Nat) 0 0#32 = p := ⟨_, rfl⟩
  rw [hpr] at HPr HK HE
  simp only at HPr HK HE
  clear h h0 b0 ho hn hpr
  gi_wp2
  rw [← hA, ← hw0]
  have HW0 := Lib.hid (And.intro hA hw0)
  clear hw0 hA
  by_cases he : e1 = 0
  · subst he
    rw [if_pos rfl] at HE
    refine wpIn_region_still_tail 9 (by kernel_rfl) (by kernel_rfl) ?_
    simp only [List.take_succ_cons, List.take_zero, List.drop_succ_cons, List.drop_zero]
    repeat still_step
    try refine wpStill_nil ?_
    gi_wp2_with (first
      | (refine ⟨trivial, rfl, ?_⟩; gi_at_call 98; refine (callsIn_wide.2 HPr.out).mono ?_; rintro e w2 ⟨rfl, h2d, h2c⟩; have H2 := Lib.hid ((H0.out.dn 1).turn (fun _ h => h) h2d ⟨HK.out.ns, HK.out.nw⟩ h2c); have p2 := H2.out.cell (⟨A, 0, none⟩, .pointer (some ⟨B, 0, none⟩)) (by simp); clear h2d h2c)
      | (refine ⟨trivial, rfl, ?_⟩; gi_at_call 51; refine (callsIn_wide.2 (sectorsB_any _ _)).mono ?_; rintro e w' ⟨rfl, rfl⟩)
      | fail)
    obtain ⟨X, hX⟩ : ∃ X, X = w2.heap.size := ⟨_, rfl⟩
    obtain ⟨w3, hw3⟩ : ∃ w3, w3 = w2.alloc (.cells #[.pointer (some ⟨B, 0, none⟩)] 35) := ⟨_, rfl⟩
    have H3 := Lib.hid (show LI w (OwnD q S g d.ns) (X + 1) (A + 1) [(⟨X, 0, none⟩, .pointer (some ⟨B, 0, none⟩)), (⟨A, 0, none⟩, .pointer (some ⟨B, 0, none⟩))] B q S g d.ns d1 base many op P (.int .i64 0) w3 from by rw [hw3, hX]; exact H2.out.grow _ _)
    have z3 := Lib.hid (show w3.heap.size = X + 1 from by rw [hw3, hX]; simp)
    have HO := Lib.hid (HK.out.okE HH.out.2.2.1 (by have := HH.out.2.2.2; omega))
    have HOn := Lib.hid (show d1.ops + many ≤ 1000000 from by have := HK.out.ops; have := HH.out.2.2.2; omega)
    rw [← hw3, ← hX]
    clear hw3 hX p2 c0 c1 p0 r0 f0 H0 H2 HPr
    refine wpIn_rangeF (gf := 91) (lb := #[.pointer (some ⟨X, 0, none⟩)]) rfl (enters_of Try.func91 (by kernel_rfl) rfl)
      many (fun k => #[.int .i64 (secN base many k : Nat)]) (fun _ => rfl) (LF (X + 1))
      (fun k W => LI w (OwnD q S g d.ns) (X + 1) (A + 1) [(⟨X, 0, none⟩, .pointer (some ⟨B, 0, none⟩)), (⟨A, 0, none⟩, .pointer (some ⟨B, 0, none⟩))] B q S g d.ns (eraseK d1 base many k).1 base many op P (.int .i64 0) W ∧ (eraseK d1 base many k).2 = 0)
      (fun c _ W => c = .ret ∧ ∃ k e, k ≤ many ∧ e ≠ 0 ∧ (eraseK d1 base many k).2 = e ∧ LI w (OwnD q S g d.ns) (X + 1) (A + 1) [(⟨X, 0, none⟩, .pointer (some ⟨B, 0, none⟩)), (⟨A, 0, none⟩, .pointer (some ⟨B, 0, none⟩))] B q S g d.ns (eraseK d1 base many k).1 base many op P (.int .i64 e) W)
      (fun _ => ⟨fun W h => LI.foot.lt W h.1, fun W W' h hc => ⟨⟨(LI.foot.keep W W' h.1 hc).1, h.2⟩, fun _ hj => hj⟩⟩)
      (fun _ _ => ⟨fun W ⟨_, _, _, _, _, _, h⟩ => LI.foot.lt W h, fun W W' ⟨h1, k, e, h2, h3, h4, h⟩ hc => ⟨⟨h1, k, e, h2, h3, h4, (LI.foot.keep W W' h hc).1⟩, fun _ hj => hj⟩⟩) ⟨H3.out, rfl⟩
      (fun k a' _ => ∃ t3 t5 t6 t7 t8 t9 t10 t11 t12 t13 t14 t15 t16 t17 t18 t19 t22 t23 t24 t25 t26 t27 t28 t29 t30 : Value, a' = { tmps := #[.pointer (some ⟨B, 0, none⟩), .pointer (some ⟨A, 0, none⟩), .pointer (some ⟨A + 1, 0, none⟩), t3, .int .i64 (secN base many k : Nat), t5, t6, t7, t8, t9, t10, t11, t12, t13, t14, t15, t16, t17, t18, t19, .func (.func 91) #[] #[.pointer (some ⟨X, 0, none⟩)], .int .i64 (secN base many k : Nat), t22, t23, t24, t25, t26, t27, t28, t29, t30], defers := [] })
      (fun _ _ _ _ h _ => h) ?hit ?assign ?body ?done ?stop
    case hit =>
      intro J Jx W1 h1 h2 h3 h4 h5 h6 h7 h8
      refine sectors_in _ X B base many _ J Jx W1 (by have := HH.out; have := HZ.out; omega) (fun k W' hJ => ?_) h7 h5 h8
      have hL := (h3 k W' hJ).1.1
      exact ⟨hL.cell (⟨X, 0, none⟩, .pointer (some ⟨B, 0, none⟩)) (by simp), hL.bk.c1, hL.bk.c2⟩
    case assign =>
      intro k W K hi hk hK
      gi_wp2
      exact hK _ _ ⟨_, _, _, _, _, _, _, _, _, _, _, _, _, _, _, _, _, _, _, _, _, _, _, _, _, rfl⟩ (Ch.refl _ _) hi (fun _ h => h)
    case body =>
      rintro k a' W ⟨hi, hn⟩ hk ⟨t3, t5, t6, t7, t8, t9, t10, t11, t12, t13, t14, t15, t16, t17, t18, t19, t22, t23, t24, t25, t26, t27, t28, t29, t30, rfl⟩ hz
      have hE : eraseK d1 base many (k + 1) = (eraseK d1 base many k).1.erase (secN base many k : Nat) := by show (if (eraseK d1 base many k).2 = 0 then _ else _) = _; rw [if_pos hn]
      have hkk := eraseK_kept (base := base) HO.out HOn.out k (by omega)
      have hok := hkk.okE HO.out (by have := HOn.out; omega)
      obtain ⟨dk, hdk⟩ : ∃ dk, (eraseK d1 base many k).1 = dk := ⟨_, rfl⟩
      rw [hdk] at hi hE hok
      obtain ⟨s, hs⟩ : ∃ s, secN base many k = s := ⟨_, rfl⟩
      rw [hs] at hE ⊢
      have her := erase_any hi.bk.dev hok (s : Nat)
      have hek := erase_kept hok (s : Nat)
      obtain ⟨⟨d2, e2⟩, hp⟩ : ∃ p, dk.erase (s : Nat) = p := ⟨_, rfl⟩
      rw [hp] at hE her hek
      simp only at her hek
      have HEr := Lib.hid her
      have HI := Lib.hid (And.intro hi (And.intro hek hE))
      have p0 := hi.cell (⟨A, 0, none⟩, .pointer (some ⟨B, 0, none⟩)) (by simp)
      have c0 := hi.bk.c0
      clear hn hkk hok hdk hs her hek hp hE hi hz
      by_cases he : e2 = 0
      · subst he
        gi_wp2_with (first
          | (refine ⟨trivial, rfl, ?_⟩; gi_at_call 106; refine (CallsIn.inRound _ (callsIn_wide.2 HEr.out)).mono ?_; rintro e w4 ⟨rfl, h4d, h4c⟩; have H4 := Lib.hid (And.intro (HI.out.1.turn (fun _ h => h) h4d ⟨HI.out.2.1.ns, HI.out.2.1.nw⟩ h4c) h4c); clear h4d h4c)
          | fail)
        refine ⟨LF.step (H4.out.2.mono fun j _ hj => (HI.out.1.off j (.inr hj)).1), ?_, ?_⟩
        · rw [HI.out.2.2]; exact H4.out.1
        · rw [HI.out.2.2]
      · gi_wp2_with (first
          | (refine ⟨trivial, rfl, ?_⟩; gi_at_call 106; refine (CallsIn.inRound _ (callsIn_wide.2 HEr.out)).mono ?_; rintro e w4 ⟨rfl, h4d, h4c⟩; have H4 := Lib.hid (And.intro (HI.out.1.turn (fun _ h => h) h4d ⟨HI.out.2.1.ns, HI.out.2.1.nw⟩ h4c) h4c); have r4 := H4.out.1.res; have f4 := H4.out.1.fr; clear h4d h4c)
          | fail)
        refine ⟨LF.step ((H4.out.2.mono fun j _ hj => (HI.out.1.off j (.inr hj)).1).setCell _ _ (.inl (show A + 1 < X + 1 from by have := HI.out.1.rz; omega))), rfl, k + 1, e2, by omega, he, ?_, ?_⟩
        · rw [HI.out.2.2]
        · rw [HI.out.2.2]; exact H4.out.1.ret _
    case done =>
      rintro W ⟨hi, hn⟩ hD hnD hz
      rw [z3.out] at hD hnD hz
      have HI := Lib.hid (And.intro hi hn)
      have HD := Lib.hid (And.intro hD hz)
      have r2 := hi.res
      have f2 := hi.fr
      clear hi hn hD hnD hz
      gi_wp2
      rw [z3.out]
      have hc : Ch (fun j => j = A + 1) W (W.setCell ⟨A + 1, 0, none⟩ (.int .i64 0)) := (Ch.refl _ _).setCell _ _ (.inl rfl)
      have hD' := hc.obj HD.out.1 (by have := HI.out.1.rz; omega)
      have hI := (HI.out.1.ret (.int .i64 0)).done (.deferred none)
      have hr := hI.res
      refine ⟨by simp, .inl ⟨_, _, rfl, run_takeDeferred hD', ?_⟩⟩
      refine ⟨.int .i64 0, ?_, ?_, ?_, hI.ch⟩
      · simp [results, Try.results76, go_sem, hr]
      · rw [HE.out, HI.out.2]
      · rw [HE.out]; exact hI.bk
    case stop =>
      rintro c _ W _ ⟨rfl, k, e, hk, hne, hn, hi⟩ hD hnD hz
      rw [z3.out] at hD hnD hz
      have hst := eraseK_stuck (by rw [hn]; exact hne) many hk
      have HI := Lib.hid (And.intro hi (And.intro hn hst))
      have HD := Lib.hid (And.intro hD hz)
      clear hi hn hD hnD hz hst
      gi_wp2
      rw [z3.out]
      have hI := HI.out.1.done (.deferred none)
      have hr := hI.res
      refine ⟨by simp, .inl ⟨_, _, rfl, run_takeDeferred HD.out.1, ?_⟩⟩
      refine ⟨.int .i64 e, ?_, ?_, ?_, hI.ch⟩
      · simp [results, Try.results76, go_sem, hr]
      · rw [HE.out, HI.out.2.2, HI.out.2.1]
      · rw [HE.out, HI.out.2.2]; exact hI.bk
  · rw [if_neg he] at HE
    refine wpIn_region_still_tail 9 (by kernel_rfl) (by kernel_rfl) ?_
    simp only [List.take_succ_cons, List.take_zero, List.drop_succ_cons, List.drop_zero]
    repeat still_step
    try refine wpStill_nil ?_
    gi_wp2_with (first
      | (refine ⟨trivial, rfl, ?_⟩; gi_at_call 98; refine (callsIn_wide.2 HPr.out).mono ?_; rintro e w2 ⟨rfl, h2d, h2c⟩; have H2 := Lib.hid ((H0.out.dn 1).turn (fun _ h => h) h2d ⟨HK.out.ns, HK.out.nw⟩ h2c); have r2 := H2.out.res; have f2 := H2.out.fr; clear h2d h2c)
      | fail)
    have hI := H2.out.ret (.int .i64 e1)
    have hr := hI.res
    refine ⟨.int .i64 e1, ?_, ?_, ?_, hI.ch⟩
    · simp [results, Try.results76, go_sem, hr]
    · rw [HE.out]
    · rw [HE.out]; exact hI.bk
end Go.Proofs.Ythpagbfabpfngaa
/- The law of text Foot on a range over a function, where the loop's own variables are boxed: what a round assigns lies behind the loop's record. No statement about the program. -/
namespace Go.Proofs.Ythpagbfabpfngaa
open Go.RowKit
variable {P : Program}

/-- THE LOOP: the rounds' invariant I (and Ix, where a round has left by a jump) lies within the footprint F; all else the iterator may turn. -/
theorem wpIn_rangeF2 {g : Operand} {ps : Array Tmp} {assign body : Code} {Q : Exit → Act → World → Prop} {a : Act} {w : World}
    {gf : Nat} {lb : Array Value} (hg : a.eval g = .func (.func gf) #[] lb) (eg : ∀ args w, (callFunc gf args).run P w = .ok (.enter gf args) w)
    (N : Nat) (args : Nat → Array Value) (hps : ∀ k, (args k).size = ps.size) (F : World → Nat → Prop)
    (I : Nat → World → Prop) (Ix : Code → Nat → World → Prop) (fI : ∀ k, Foot F (I k)) (fX : ∀ c k, Foot F (Ix c k))
    (h0 : I 0 w) (Ax : Nat → Act → World → Prop)
    (hAx : ∀ k a' W W', Ax k a' W → Ch (fun j => j = w.heap.size + 1) W W' → Ax k a' W')
    (hit : ∀ J Jx W1, w.heap.size + 2 = W1.heap.size → Below w.heap.size w W1 →
      (∀ k W, J k W → I k W ∧ w.heap.size + 2 ≤ W.heap.size) → (∀ k W, Jx k W → (∃ c, Ix c k W) ∧ w.heap.size + 2 ≤ W.heap.size) →
      (∀ k, Foot (fun W j => F W j ∨ j = w.heap.size ∨ j = w.heap.size + 1) (J k)) → (∀ k, Foot (fun W j => F W j ∨ j = w.heap.size ∨ j = w.heap.size + 1) (Jx k)) →
      RoundsF P (w.heap.size + 1) N args (fun W j => F W j ∨ j = w.heap.size ∨ j = w.heap.size + 1) J Jx → J 0 W1 →
      Iter P gf lb (w.heap.size + 1) N J Jx W1)
    (hassign : ∀ k W (K : Act → World → Prop), I k W → k < N → w.heap.size + 2 ≤ W.heap.size → (∀ a' W', Ax k a' W' → Ch (fun _ => False) W W' → I k W' → (∀ j, F W' j → F W j) → K a' W') →
      assign.wpIn (Fence.wide.inRound (w.heap.size + 1)) 0 P (Exit.then K (fun _ _ _ => False)) { tmps := (ps.zip (args k)).foldl (fun t (p, v) => t.setIfInBounds p v) a.tmps, defers := [] } W)
    (hbody : ∀ k a' W, I k W → k < N → Ax k a' W → w.heap.size + 2 ≤ W.heap.size → body.wpIn (Fence.wide.inRound (w.heap.size + 1)) 0 P (roundEndF F I Ix (k + 1) W) a' W)
    (hdone : ∀ W, I N W → W.heap[w.heap.size]? = some (.deferred (some [])) → ¬ F W w.heap.size → w.heap.size + 2 ≤ W.heap.size → Q .normal { a with defers := { target := .collected w.heap.size, args := #[] } :: a.defers } W)
    (hstop : ∀ c k W, k ≤ N → Ix c k W → W.heap[w.heap.size]? = some (.deferred (some [])) → ¬ F W w.heap.size → w.heap.size + 2 ≤ W.heap.size → c.wpIn Fence.wide 0 P Q { a with defers := { target := .collected w.heap.size, args := #[] } :: a.defers } W) :
    (Code.rangeFunc g ps assign body).wpIn Fence.wide 0 P Q a w := by
  refine wpIn_rangeFunc fun fn hfn => ?_
  let mk : LoopState → Option Code → Obj := fun st pe => .loop { state := st, pending := pe, fn, tmps := a.tmps, params := ps, assign, body, defers := w.heap.size }
  let D := w.heap.size
  let l := w.heap.size + 1
  let FJ : World → Nat → Prop := fun W j => F W j ∨ j = D ∨ j = l
  let W1 := (w.alloc (.deferred (some []))).alloc (mk .ready none)
  have z1 : W1.heap.size = w.heap.size + 2 := by simp [W1]
  have l1 : W1.heap[l]? = some (mk .ready none) := by
    have := World.alloc_heap_new (w.alloc (.deferred (some []))) (mk .ready none); rwa [World.size_alloc] at this
  have d1 : W1.heap[D]? = some (.deferred (some [])) := by
    rw [Below.heap_alloc _ _ _ (by simp [D])]; exact World.alloc_heap_new w _
  have c1 : Ch (fun _ => False) w W1 := ((Ch.refl _ w).alloc _).alloc _
  have nl : ∀ {T : Nat → Prop} {W W' : World} {o : Obj} {j : Nat}, Ch T W W' → ¬ T j → W.heap[j]? = some o → W'.heap[j]? = some o := fun c ht h => c.obj h ht
  have i1 := (fI 0).keep w W1 h0 (Off.nothing c1)
  have n1 : ¬ F W1 l ∧ ¬ F W1 D := ⟨fun h => by have := (fI 0).lt w h0 _ (i1.2 _ h); simp [l] at this; omega, fun h => by have := (fI 0).lt w h0 _ (i1.2 _ h); simp [D] at this⟩
  have hDl : ¬ D = l := by simp [D, l]
  refine ⟨l, [{ target := .collected D, args := #[] }], W1, { target := .fn (.func gf) lb, args := #[.func (.yield l) #[] #[]] }, W1, gf, #[.func (.yield l) #[] #[]] ++ lb, W1,
    run_enterLoop_outer _ _ _ _ _, ?_, fun _ _ => trivial, ?_, fun h => absurd h (by simp [Fence.wide]), ?_⟩
  · simp only [resolve, hg]; simp [go_sem]
  · simp [invoke, go_sem, eg]
  let J : Nat → World → Prop := fun k W => I k W ∧ W.heap[l]? = some (mk .ready none) ∧ W.heap[D]? = some (.deferred (some [])) ∧ w.heap.size + 2 ≤ W.heap.size ∧ ¬ F W l ∧ ¬ F W D
  let Jx : Nat → World → Prop := fun k W => ∃ c, Ix c k W ∧ W.heap[l]? = some (mk .done (some c)) ∧ W.heap[D]? = some (.deferred (some [])) ∧ w.heap.size + 2 ≤ W.heap.size ∧ ¬ F W l ∧ ¬ F W D
  have offJ : ∀ {W W' : World}, Off FJ W W' → Off F W W' := fun h => Ch.mono h fun j _ hn hf => hn (.inl hf)
  have fJ : ∀ k, Foot FJ (J k) := fun k => ⟨fun W h j hj => by
      rcases hj with hj | rfl | rfl
      · exact (fI k).lt W h.1 j hj
      · have := h.2.2.2.1; simp only [D]; omega
      · have := h.2.2.2.1; simp only [l]; omega,
    fun W W' h hc => by
      have hi := (fI k).keep W W' h.1 (offJ hc)
      refine ⟨⟨hi.1, nl hc (fun h => h (.inr (.inr rfl))) h.2.1, nl hc (fun h => h (.inr (.inl rfl))) h.2.2.1, Nat.le_trans h.2.2.2.1 hc.size, fun hf => h.2.2.2.2.1 (hi.2 _ hf), fun hf => h.2.2.2.2.2 (hi.2 _ hf)⟩, fun j hj => ?_⟩
      rcases hj with hj | hj
      · exact .inl (hi.2 j hj)
      · exact .inr hj⟩
  have fJx : ∀ k, Foot FJ (Jx k) := fun k => ⟨fun W ⟨c, h⟩ j hj => by
      rcases hj with hj | rfl | rfl
      · exact (fX c k).lt W h.1 j hj
      · have := h.2.2.2.1; simp only [D]; omega
      · have := h.2.2.2.1; simp only [l]; omega,
    fun W W' ⟨c, h⟩ hc => by
      have hi := (fX c k).keep W W' h.1 (offJ hc)
      refine ⟨⟨c, hi.1, nl hc (fun h => h (.inr (.inr rfl))) h.2.1, nl hc (fun h => h (.inr (.inl rfl))) h.2.2.1, Nat.le_trans h.2.2.2.1 hc.size, fun hf => h.2.2.2.2.1 (hi.2 _ hf), fun hf => h.2.2.2.2.2 (hi.2 _ hf)⟩, fun j hj => ?_⟩
      rcases hj with hj | hj
      · exact .inl (hi.2 j hj)
      · exact .inr hj⟩
  have put : ∀ (W : World) (o : Obj), Ch (fun j => j = l) W (W.putObj l o) := fun W o => (Ch.refl _ W).putObj _ _ rfl
  have offput : ∀ {W : World} {o : Obj}, ¬ F W l → Off F W (W.putObj l o) := fun h => Off.of (put _ _) fun j hj => by subst hj; exact h
  refine (hit J Jx W1 z1.symm (((Below.refl _ w).alloc (Nat.le_refl _) _).alloc (by simp) _) (fun _ _ h => ⟨h.1, h.2.2.2.1⟩) (fun _ _ ⟨c, h⟩ => ⟨⟨c, h.1⟩, h.2.2.2.1⟩)
    fJ fJx ?_ ⟨i1.1, l1, d1, by omega, n1⟩).mono ?_
  · rintro k W ⟨hi, hl, hd, hz, hnl, hnD⟩ hk
    refine ⟨fn, _, assign, body, run_yield hl (hps k), roundIn_of_wpIn hfn (hassign k W _ hi hk hz fun a' W2 ha c2 hi2 hf2 => ?_)⟩
    have hl2 := nl c2 (fun h => h) hl
    refine ⟨_, run_beginRound hl2 rfl, ?_⟩
    have hnl2 : ¬ F W2 l := fun h => hnl (hf2 _ h)
    have cb := put W2 (mk .busy none)
    have hlb : (W2.putObj l (mk .busy none)).heap[l]? = some (mk .busy none) := World.putObj_heap_same (Array.getElem?_eq_some_iff.1 hl2).1
    have hdb := nl cb (fun h : D = l => hDl h) (nl c2 (fun h => h) hd)
    have ib := (fI k).keep W2 (W2.putObj l (mk .busy none)) hi2 (offput hnl2)
    have hnlb : ¬ F (W2.putObj l (mk .busy none)) l := fun h => hnl2 (ib.2 _ h)
    have hnDb : ¬ F (W2.putObj l (mk .busy none)) D := fun h => hnD (hf2 _ (ib.2 _ h))
    have zb : w.heap.size + 2 ≤ (W2.putObj l (mk .busy none)).heap.size := Nat.le_trans (Nat.le_trans hz c2.size) cb.size
    have cWb : Ch (fun j => FJ W j) W (W2.putObj l (mk .busy none)) := (c2.mono fun _ _ h => h.elim).trans (cb.mono fun j _ hj => .inr (.inr hj))
    have fWb : ∀ j, F (W2.putObj l (mk .busy none)) j → F W j := fun j h => hf2 _ (ib.2 _ h)
    refine wpIn_mono (hbody k a' _ ib.1 hk (hAx _ _ _ _ ha cb) zb) ?_
    have fin : ∀ (jump : Option Code) (W3 : World), Step F (W2.putObj l (mk .busy none)) W3 →
        ∃ W4, (Instr.endRound l jump).run P W3 = .ok (.bool jump.isNone) W4 ∧ Ch (fun j => j = l) W3 W4 ∧ Off F W3 W4 ∧ ¬ F W3 l ∧ ¬ F W3 D ∧
          W4.heap[l]? = some (mk (if jump.isNone then .ready else .done) jump) ∧ W4.heap[D]? = some (.deferred (some [])) ∧ Ch (FJ W) W W4 ∧ w.heap.size + 2 ≤ W4.heap.size ∧ (∀ j, F W3 j → F W j ∨ W.heap.size ≤ j) := fun jump W3 s3 => by
      have hn3 := s3.no hnlb (by omega)
      have hD3 := s3.no hnDb (by omega)
      have hl3 := nl s3.1 hnlb hlb
      have c4 := put W3 (mk (if jump.isNone then .ready else .done) jump)
      refine ⟨_, run_endRound jump hl3, c4, offput hn3, hn3, hD3, World.putObj_heap_same (Array.getElem?_eq_some_iff.1 hl3).1, nl c4 (fun h : D = l => hDl h) (nl s3.1 hnDb hdb), ?_, ?_, ?_⟩
      · refine (((cWb.mono (T' := fun j => FJ W j ∨ W.heap.size ≤ j) fun _ _ h => .inl h).trans (s3.1.mono fun j _ hj => .inl (.inl (fWb j hj)))).trans (c4.mono fun j _ hj => .inl (.inr (.inr hj)))).mono fun j hj h => ?_
        rcases h with h | h
        · exact h
        · omega
      · exact Nat.le_trans zb (Nat.le_trans s3.1.size c4.size)
      · intro j hj
        rcases s3.2 j hj with h | h
        · exact .inl (fWb j h)
        · exact .inr (Nat.le_trans cWb.size h)
    have stp : ∀ {W3 W4 : World}, Ch (FJ W) W W4 → (∀ j, F W4 j → F W3 j) → (∀ j, F W3 j → F W j ∨ W.heap.size ≤ j) → Step FJ W W4 := fun c h4 h3 => ⟨c, fun j hj => by
      rcases hj with hj | hj
      · rcases h3 _ (h4 _ hj) with h | h
        · exact .inl (.inl h)
        · exact .inr h
      · exact .inl (.inr hj)⟩
    have left : ∀ (c : Code) (a3 : Act) (W3 : World), Step F (W2.putObj l (mk .busy none)) W3 → Ix c (k + 1) W3 → ∃ W4, (Instr.endRound l (some c)).run P W3 = .ok (.bool false) W4 ∧ Jx (k + 1) W4 ∧ Step FJ W W4 := fun c a3 W3 s3 hx => by
      obtain ⟨W4, hr, c4, o4, hn3, hD3, hl4, hd4, call, z4, f3⟩ := fin (some c) W3 s3
      have i4 := (fX c (k + 1)).keep W3 W4 hx o4
      exact ⟨W4, hr, ⟨c, i4.1, hl4, hd4, z4, fun h => hn3 (i4.2 _ h), fun h => hD3 (i4.2 _ h)⟩, stp call i4.2 f3⟩
    rintro e a3 W3 hp
    cases e with
    | normal =>
      obtain ⟨W4, hr, c4, o4, hn3, hD3, hl4, hd4, call, z4, f3⟩ := fin none W3 hp.1
      have i4 := (fI (k + 1)).keep W3 W4 hp.2 o4
      exact ⟨_, _, hr, .inl ⟨rfl, ⟨i4.1, hl4, hd4, z4, fun h => hn3 (i4.2 _ h), fun h => hD3 (i4.2 _ h)⟩, stp call i4.2 f3⟩⟩
    | ret =>
      obtain ⟨W4, hr, hx, hs⟩ := left .ret a3 W3 hp.1 hp.2
      exact ⟨_, _, hr, .inr ⟨rfl, hx, hs⟩⟩
    | exit id =>
      obtain ⟨W4, hr, hx, hs⟩ := left (.exit id) a3 W3 hp.1 hp.2
      exact ⟨_, _, hr, .inr ⟨rfl, hx, hs⟩⟩
    | goto t =>
      obtain ⟨W4, hr, hx, hs⟩ := left (.goto t) a3 W3 hp.1 hp.2
      exact ⟨_, _, hr, .inr ⟨rfl, hx, hs⟩⟩
    | panic ch => exact hp.elim
    | outgrown => exact hp.elim
  · rintro e W2 ⟨⟨v, rfl⟩, (⟨hi, hl, hd, hz, hnl, hnD⟩ | ⟨k, hk, c, hi, hl, hd, hz, hnl, hnD⟩)⟩
    · exact ⟨none, _, run_endLoop hl (by simp), hdone _ ((fI N).keep W2 _ hi (offput hnl)).1 (nl (put _ _) (fun h : D = l => hDl h) hd) (fun h => hnD (((fI N).keep W2 _ hi (offput hnl)).2 _ h)) (by rw [World.putObj_size]; exact hz)⟩
    · exact ⟨some c, _, run_endLoop hl (by simp), hstop c k _ hk ((fX c k).keep W2 _ hi (offput hnl)).1 (nl (put _ _) (fun h : D = l => hDl h) hd) (fun h => hnD (((fX c k).keep W2 _ hi (offput hnl)).2 _ h)) (by rw [World.putObj_size]; exact hz)⟩

end Go.Proofs.Ythpagbfabpfngaa
