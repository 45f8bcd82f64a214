/- Several texts in one: BF, BG, BH. -/
import Derived.Test.YthpagbfabpfngaaPk15
/- The contract of bank's program. -/
namespace Go.Proofs.Ythpagbfabpfngaa
open Go.RowKit
attribute [local go_sem] Oper.semAt_some

/-- Words are programmed one behind the other, as long as it goes. -/
def progK (d : Dev) (from_ : Nat) (at_ : Nat → Nat) (ws : Nat → BitVec 32) : Nat → Dev × Int
  | 0 => (d, 0)
  | k + 1 => if (progK d from_ at_ ws k).2 = 0 then (progK d from_ at_ ws k).1.program ((from_ + at_ k / d.nw : Nat) : Int) ((at_ k % d.nw : Nat) : Int) (ws k) else progK d from_ at_ ws k
theorem progK_stuck {d : Dev} {from_ : Nat} {at_ : Nat → Nat} {ws : Nat → BitVec 32} {k : Nat} (h : (progK d from_ at_ ws k).2 ≠ 0) : ∀ j, k ≤ j → progK d from_ at_ ws j = progK d from_ at_ ws k := by
  intro j hj
  induction j with
  | zero => obtain rfl : k = 0 := by omega
            rfl
  | succ j ih =>
    rcases Nat.lt_or_ge j k with h1 | h1
    · obtain rfl : k = j + 1 := by omega
      rfl
    · have e := ih h1
      show (if (progK d from_ at_ ws j).2 = 0 then _ else progK d from_ at_ ws j) = _
      rw [e, if_neg h]
theorem progK_kept {d : Dev} {from_ : Nat} {at_ : Nat → Nat} {ws : Nat → BitVec 32} {n : Nat} (h : d.okE) (hn : d.ops + n ≤ 1000000) (hw : d.nw ≤ 100000) (h0 : 0 < d.nw) : ∀ k, k ≤ n → d.keptN (progK d from_ at_ ws k).1 k := by
  intro k
  induction k with
  | zero => intro _; exact keptN_refl h
  | succ k ih =>
    intro hk
    have i := ih (by omega)
    show d.keptN (if (progK d from_ at_ ws k).2 = 0 then _ else progK d from_ at_ ws k).1 _
    split
    · exact i.trans (program_kept (i.okE h (by omega)) _ _ _ (by have := Nat.mod_lt (at_ k) h0; omega))
    · exact i.mono (by omega)
/-- What an iterator of words to be programmed promises. -/
def GivesTo (w : World) (q S : Nat) (g : Nat → Nat) (n0 : Nat) (gf : Nat) (lb : Array Value) (n : Nat) (at_ : Nat → Nat) (ws : Nat → BitVec 32) : Prop :=
  (∀ args w, (callFunc gf args).run Try.prog w = .ok (.enter gf args) w) ∧ ∀ l0 F J Jx W1, (∀ k W', J k W' → Ch (OwnD q S g n0) w W') → (∀ k, Foot F (J k)) →
    RoundsF Try.prog l0 n (fun k => #[.agg #[.int .i64 (at_ k : Nat), .int .u32 (w32 (ws k))]]) F J Jx → J 0 W1 → Iter Try.prog gf lb l0 n J Jx W1
set_option maxHeartbeats 4000000 in
set_option maxRecDepth 100000 in
theorem bprogram_any {w : World} {B q S : Nat} {g : Nat → Nat} {d : Dev} {base many : Nat} {op : Bool} {P : List (BitVec 32)} (h : Bk w B q S g d base many op P) (ho : d.okE) (frm : Nat) (hfr : frm ≤ 64) (gf : Nat) (lb : Array Value) (n : Nat) (at_ : Nat → Nat) (ws : Nat → BitVec 32)
    (hn : d.ops + n ≤ 1000000) (hat : ∀ k, k < n → at_ k ≤ 10000) (hG : GivesTo w q S g d.ns gf lb n at_ ws) :
    Calls Try.prog 77 #[.pointer (some ⟨B, 0, none⟩), .int .i64 (frm : Nat), .func (.func gf) #[] lb] w fun e w' => e = .returned (.int .i64 (progK d (base + frm) at_ ws n).2) ∧ Bk w' B q S g (progK d (base + frm) at_ ws n).1 base many op P ∧ Ch (OwnD q S g d.ns) w w' := by
  refine (callsIn_wide (n := 0)).1 ?_
  refine callsIn_of_wp_marks Try.func77 rfl trivial ?_ rfl
  simp only [Try.ntmps77, List.size_toArray, List.length_cons, List.length_nil, Nat.reduceAdd, Nat.reduceSub, Array.replicate_succ, Array.replicate_zero, List.push_toArray, List.append_toArray, List.nil_append, List.cons_append]
  obtain ⟨A, hA⟩ : ∃ A, A = w.heap.size := ⟨_, rfl⟩
  obtain ⟨w0, hw0⟩ : ∃ w0, ((w.alloc (.cells #[.pointer (some ⟨B, 0, none⟩)] 35)).alloc (.cells #[.int .i64 (frm : Nat)] 3)).alloc (.cells #[.int .i64 0] 32) = w0 := ⟨_, rfl⟩
  have b0 : Below w.heap.size w w0 := by rw [← hw0]; exact (((Below.refl _ w).alloc (Nat.le_refl _) _).alloc (by simp) _).alloc (by simp; omega) _
  have hlo := h.lt
  have h0 : LI w (OwnD q S g d.ns) (A + 3) (A + 1 + 1) [(⟨A, 0, none⟩, .pointer (some ⟨B, 0, none⟩)), (⟨A + 1, 0, none⟩, .int .i64 (frm : Nat))] B q S g d.ns d base many op P (.int .i64 0) w0 := by
    refine ⟨h.new b0, rfl, ?_, by rw [← hw0, hA]; simp [go_sem], by rw [← hw0, hA]; simp [go_sem], by omega, by rw [← hw0, hA]; simp, Ch.new b0, hlo⟩
    intro x hx
    simp at hx
    rcases hx with rfl | rfl
    · exact ⟨by rw [← hw0, hA]; simp [go_sem], by simp; omega, by simp, by simp; omega⟩
    · exact ⟨by rw [← hw0, hA]; simp [go_sem], by simp; omega, by simp, by simp⟩
  have H0 := Lib.hid h0
  have z0 := Lib.hid (show w0.heap.size = A + 3 from by rw [← hw0, hA]; simp)
  have HZ := Lib.hid h.dev.zn
  have HH := Lib.hid (And.intro hA (And.intro h.fit (And.intro ho (And.intro hn (And.intro hfr hat)))))
  have HG := Lib.hid hG
  clear h h0 b0 ho hn hG hlo
  gi_wp2
  try rw [← hA]
  try rw [hw0]
  clear hw0 hA
  refine wpIn_rangeF2 (gf := gf) (lb := lb) rfl HG.out.1
    n (fun k => #[.agg #[.int .i64 (at_ k : Nat), .int .u32 (w32 (ws k))]]) (fun _ => rfl) (LF (A + 3))
    (fun k W => LI w (OwnD q S g d.ns) (A + 3) (A + 1 + 1) [(⟨A, 0, none⟩, .pointer (some ⟨B, 0, none⟩)), (⟨A + 1, 0, none⟩, .int .i64 (frm : Nat))] B q S g d.ns (progK d (base + frm) at_ ws k).1 base many op P (.int .i64 0) W ∧ (progK d (base + frm) at_ ws k).2 = 0)
    (fun c _ W => c = .ret ∧ ∃ k e, k ≤ n ∧ e ≠ 0 ∧ (progK d (base + frm) at_ ws k).2 = e ∧ LI w (OwnD q S g d.ns) (A + 3) (A + 1 + 1) [(⟨A, 0, none⟩, .pointer (some ⟨B, 0, none⟩)), (⟨A + 1, 0, none⟩, .int .i64 (frm : Nat))] B q S g d.ns (progK d (base + frm) at_ ws k).1 base many op P (.int .i64 e) W)
    (fun _ => ⟨fun W h => LI.foot.lt W h.1, fun W W' h hc => ⟨⟨(LI.foot.keep W W' h.1 hc).1, h.2⟩, fun _ hj => hj⟩⟩)
    (fun _ _ => ⟨fun W ⟨_, _, _, _, _, _, h⟩ => LI.foot.lt W h, fun W W' ⟨h1, k, e, h2, h3, h4, h⟩ hc => ⟨⟨h1, k, e, h2, h3, h4, (LI.foot.keep W W' h hc).1⟩, fun _ hj => hj⟩⟩) ⟨H0.out, rfl⟩
    (fun k a' W' => ∃ b t5 t8 t9 t10 t13 t14 t15 t16 t17 t18 t19 t20 t21 t22 t23 t24 t25 t26 t27 t28 t29 t30 t31 t32, A + 5 ≤ b ∧ a' = { tmps := #[.pointer (some ⟨B, 0, none⟩), .int .i64 (frm : Nat), .func (.func gf) #[] lb, .pointer (some ⟨A, 0, none⟩), .pointer (some ⟨A + 1, 0, none⟩), t5, .pointer (some ⟨A + 1 + 1, 0, none⟩), .pointer (some ⟨b, 0, none⟩), t8, t9, t10, .func (.func gf) #[] lb, .agg #[.int .i64 (at_ k : Nat), .int .u32 (w32 (ws k))], t13, t14, t15, t16, t17, t18, t19, t20, t21, t22, t23, t24, t25, t26, t27, t28, t29, t30, t31, t32], defers := [] } ∧ RowAt W' b 169 #[.int .i64 (at_ k : Nat), .int .u32 (w32 (ws k))])
    ?hax ?hit ?assign ?body ?done ?stop
  case hax =>
    rintro k a' W W' ⟨b, t5, t8, t9, t10, t13, t14, t15, t16, t17, t18, t19, t20, t21, t22, t23, t24, t25, t26, t27, t28, t29, t30, t31, t32, hb, rfl, hr⟩ hc
    rw [z0.out] at hc
    exact ⟨b, _, _, _, _, _, _, _, _, _, _, _, _, _, _, _, _, _, _, _, _, _, _, _, _, hb, rfl, hc.obj hr (by omega)⟩
  case hit =>
    intro J Jx W1 h1 h2 h3 h4 h5 h6 h7 h8
    exact HG.out.2 _ _ J Jx W1 (fun k W' hJ => (h3 k W' hJ).1.1.ch) h5 h7 h8
  case assign =>
    intro k W K hi hk hz hK
    rw [z0.out] at hz
    have HK := Lib.hid hK
    have hi1 := hi.1.new ((Below.refl W.heap.size W).alloc (Nat.le_refl _) (.cells #[.int .i64 (at_ k : Nat), .int .u32 (w32 (ws k))] 169))
    have HI := Lib.hid (And.intro hi1 hi.2)
    clear hK hi hi1
    gi_wp2
    exact HK.out _ _ ⟨W.heap.size, _, _, _, _, _, _, _, _, _, _, _, _, _, _, _, _, _, _, _, _, _, _, _, _, by omega, rfl, RowAt.mk W 169 _⟩ ((Ch.refl _ _).alloc _) HI.out (fun _ h => h)
  case body =>
    rintro k a' W ⟨hi, hn⟩ hk ⟨b, t5, t8, t9, t10, t13, t14, t15, t16, t17, t18, t19, t20, t21, t22, t23, t24, t25, t26, t27, t28, t29, t30, t31, t32, hb, rfl, hr⟩ hz
    have hE : progK d (base + frm) at_ ws (k + 1) = (progK d (base + frm) at_ ws k).1.program ((base + frm + at_ k / d.nw : Nat) : Int) ((at_ k % d.nw : Nat) : Int) (ws k) := by show (if (progK d (base + frm) at_ ws k).2 = 0 then _ else _) = _; rw [if_pos hn]
    have hkk := progK_kept (from_ := base + frm) (at_ := at_) (ws := ws) HH.out.2.2.1 HH.out.2.2.2.1 (by have := HZ.out; omega) HZ.out.2.2.2 k (by omega)
    have hok := hkk.okE HH.out.2.2.1 (by have := HH.out.2.2.2.1; omega)
    have hnw := hkk.nw
    obtain ⟨dk, hdk⟩ : ∃ dk, (progK d (base + frm) at_ ws k).1 = dk := ⟨_, rfl⟩
    rw [hdk] at hi hE hok hnw
    obtain ⟨a, ha⟩ : ∃ a, at_ k = a := ⟨_, rfl⟩
    obtain ⟨x, hx⟩ : ∃ x, ws k = x := ⟨_, rfl⟩
    have hal : a ≤ 10000 := by rw [← ha]; exact HH.out.2.2.2.2.2 k hk
    rw [ha] at hE hr ⊢
    rw [hx] at hE hr ⊢
    have hpl := place_any hi.bk frm a HH.out.2.2.2.2.1 hal
    rw [hnw] at hpl
    have hml := Nat.mod_lt a HZ.out.2.2.2
    obtain ⟨s, hs⟩ : ∃ s, base + frm + a / d.nw = s := ⟨_, rfl⟩
    obtain ⟨c, hc⟩ : ∃ c, a % d.nw = c := ⟨_, rfl⟩
    rw [hs, hc] at hE hpl
    rw [hc] at hml
    have hpr := fun m => program_any (hi.dn m).bk.dev hok.1 (s : Nat) (c : Nat) x
    have hpk := program_kept hok (s : Nat) (c : Nat) x (by have := HZ.out; omega)
    obtain ⟨⟨d2, e2⟩, hp⟩ : ∃ p, dk.program (s : Nat) (c : Nat) x = p := ⟨_, rfl⟩
    rw [hp] at hE hpk
    simp only [hp] at hpr
    have HPl := Lib.hid hpl
    have HPr := Lib.hid hpr
    have HI := Lib.hid (And.intro hi (And.intro hpk hE))
    have p0 := hi.cell (⟨A, 0, none⟩, .pointer (some ⟨B, 0, none⟩)) (by simp)
    have p1 := hi.cell (⟨A + 1, 0, none⟩, .int .i64 (frm : Nat)) (by simp)
    have c0 := hi.bk.c0
    have q0 : W.cell? ⟨b, 0, none⟩ = some (.int .i64 (a : Nat)) := hr.cell 0
    have q1 : W.cell? ⟨b, 1, none⟩ = some (.int .u32 (w32 x)) := hr.cell 1
    clear hn hkk hok hdk hs hc hpl hpr hpk hp hE hi hz hr ha hx hml hnw
    by_cases he : e2 = 0
    · subst he
      gi_wp2_with (first
        | (refine ⟨trivial, rfl, ?_⟩; gi_at_call 85; refine (CallsIn.inRound _ (callsIn_wide.2 HPl.out)).mono ?_; rintro e w3 ⟨rfl, m, rfl⟩)
        | fail)
      refine wpIn_region_still_tail0 8 (by kernel_rfl) (by kernel_rfl) (by kernel_rfl) (fun _ _ h => h) ?_
      simp only [List.take_succ_cons, List.take_zero, List.drop_succ_cons, List.drop_zero]
      repeat still_step
      try refine wpStill_nil ?_
      go_wp2_with (first
        | (go_at_call 98; refine (HPr.out (m + 1)).mono ?_; rintro e w4 ⟨rfl, h4d, h4c⟩; have H4 := Lib.hid (And.intro ((HI.out.1.dn (m + 1)).turn (fun _ h => h) h4d ⟨HI.out.2.1.ns, HI.out.2.1.nw⟩ h4c) (((Ch.refl _ W).drewN (m + 1)).trans h4c)); clear h4d h4c)
        | fail)
      gi_wp2
      refine ⟨LF.step (H4.out.2.mono fun j _ hj => (HI.out.1.off j (.inr hj)).1), ?_, ?_⟩
      · rw [HI.out.2.2]; exact H4.out.1
      · rw [HI.out.2.2]
    · gi_wp2_with (first
        | (refine ⟨trivial, rfl, ?_⟩; gi_at_call 85; refine (CallsIn.inRound _ (callsIn_wide.2 HPl.out)).mono ?_; rintro e w3 ⟨rfl, m, rfl⟩)
        | fail)
      refine wpIn_region_still_tail0 8 (by kernel_rfl) (by kernel_rfl) (by kernel_rfl) (fun _ _ h => h) ?_
      simp only [List.take_succ_cons, List.take_zero, List.drop_succ_cons, List.drop_zero]
      repeat still_step
      try refine wpStill_nil ?_
      go_wp2_with (first
        | (go_at_call 98; refine (HPr.out (m + 1)).mono ?_; rintro e w4 ⟨rfl, h4d, h4c⟩; have H4 := Lib.hid (And.intro ((HI.out.1.dn (m + 1)).turn (fun _ h => h) h4d ⟨HI.out.2.1.ns, HI.out.2.1.nw⟩ h4c) (((Ch.refl _ W).drewN (m + 1)).trans h4c)); have r4 := H4.out.1.res; have f4 := H4.out.1.fr; clear h4d h4c)
        | fail)
      gi_wp2
      refine ⟨LF.step ((H4.out.2.mono fun j _ hj => (HI.out.1.off j (.inr hj)).1).setCell _ _ (.inl (show A + 1 + 1 < A + 3 by omega))), rfl, k + 1, e2, by omega, he, ?_, ?_⟩
      · rw [HI.out.2.2]
      · rw [HI.out.2.2]; exact H4.out.1.ret _
  case done =>
    rintro W ⟨hi, hn⟩ hD hnD hz
    rw [z0.out] at hD hnD hz
    have HI := Lib.hid (And.intro hi hn)
    have HD := Lib.hid (And.intro hD hz)
    have r2 := hi.res
    have f2 := hi.fr
    clear hi hn hD hnD hz
    gi_wp2
    rw [z0.out]
    have hc : Ch (fun j => j = A + 1 + 1) W (W.setCell ⟨A + 1 + 1, 0, none⟩ (.int .i64 0)) := (Ch.refl _ _).setCell _ _ (.inl rfl)
    have hD' := hc.obj HD.out.1 (by have := HI.out.1.rz; omega)
    have hI := (HI.out.1.ret (.int .i64 0)).done (.deferred none)
    have hr := hI.res
    refine ⟨by simp, .inl ⟨_, _, rfl, run_takeDeferred hD', ?_⟩⟩
    refine ⟨.int .i64 0, ?_, ?_, ?_, hI.ch⟩
    · simp [results, Try.results77, go_sem, hr]
    · rw [HI.out.2]
    · exact hI.bk
  case stop =>
    rintro c _ W _ ⟨rfl, k, e, hk, hne, hn, hi⟩ hD hnD hz
    rw [z0.out] at hD hnD hz
    have hst := progK_stuck (by rw [hn]; exact hne) n hk
    have HI := Lib.hid (And.intro hi (And.intro hn hst))
    have HD := Lib.hid (And.intro hD hz)
    clear hi hn hD hnD hz hst
    gi_wp2
    rw [z0.out]
    have hI := HI.out.1.done (.deferred none)
    have hr := hI.res
    refine ⟨by simp, .inl ⟨_, _, rfl, run_takeDeferred HD.out.1, ?_⟩⟩
    refine ⟨.int .i64 e, ?_, ?_, ?_, hI.ch⟩
    · simp [results, Try.results77, go_sem, hr]
    · rw [HI.out.2.2, HI.out.2.1]
    · rw [HI.out.2.2]; exact hI.bk
theorem Ws.keep {T : Nat → Prop} {w w' : World} {sp : Option Addr} {b off n : Nat} {l : Nat → BitVec 32} (h : Ws w sp b off n l) (c : Ch T w w') (hT : 0 < n → ¬ T b) : Ws w' sp b off n l :=
  ⟨fun h0 => ⟨(h.sp h0).1, Nat.lt_of_lt_of_le (h.sp h0).2 c.size⟩, fun k hk => c.cell (h.cell k hk) (hT (by omega))⟩
/-- What the pairs of words that were handed back promise. -/
theorem Gives.to {w : World} {lo : Nat} {v : Value} {n : Nat} {at_ : Nat} {l : Nat → BitVec 32} {q S : Nat} {g : Nat → Nat} {n0 : Nat} (h : Gives lo w v n (at_ : Int) l) (h1 : at_ ≤ 1000) (hn : n ≤ 1000) (hlo : ∀ j, OwnD q S g n0 j → j < lo) :
    ∃ gf lb, v = .func (.func gf) #[] lb ∧ GivesTo w q S g n0 gf lb (2 * n) (fun k => at_ + k) (wrW l) := by
  obtain ⟨BS, BA, b, off, cap, sp, rfl, ⟨l1, l2, l3⟩, h2, h3, h4⟩ := h
  refine ⟨_, _, rfl, fun args w => enters_of Try.func124 (by kernel_rfl) rfl args w, fun l0 F J Jx W1 hJ fJ hR h0 => ?_⟩
  have hoff : ∀ j, lo ≤ j → ¬ OwnD q S g n0 j := fun j hj ho => by have := hlo j ho; omega
  refine pairs_in l0 BS BA n b off cap (at_ : Int) sp l F J Jx W1 (by omega) hn (fun k W' hk => ?_) (fun k W' hk hlt => ?_) fJ h0
  · have c := hJ k W' hk
    exact ⟨c.cell h2 (hoff _ l1), c.cell h3 (hoff _ l2), h4.keep c (fun _ => hoff _ l3)⟩
  · have := hR k W' hk hlt
    unfold wrA
    dsimp only at this
    rw [show (((at_ + k : Nat) : Int)) = (at_ : Int) + (k : Int) by push_cast; rfl] at this
    exact this
end Go.Proofs.Ythpagbfabpfngaa
/- The contract of bank's spoilt. -/
namespace Go.Proofs.Ythpagbfabpfngaa
open Go.RowKit
attribute [local go_sem] Oper.semAt_some

/-- Can a word of the header not be programmed any more? -/
def spoiltB (d : Dev) (base n : Nat) (at_ : Nat → Nat) (ws : Nat → BitVec 32) : Bool := (List.range n).any fun k => !within (ws k) (d.word (base + 1) (at_ k))
theorem spoiltB_none {d : Dev} {base n : Nat} {at_ : Nat → Nat} {ws : Nat → BitVec 32} (h : ∀ i, i < n → within (ws i) (d.word (base + 1) (at_ i)) = true) : spoiltB d base n at_ ws = false := by
  unfold spoiltB
  rw [List.any_eq_false]
  intro i hi
  simp [h i (by simpa using hi)]
theorem spoiltB_some {d : Dev} {base n k : Nat} {at_ : Nat → Nat} {ws : Nat → BitVec 32} (hk : k < n) (h : within (ws k) (d.word (base + 1) (at_ k)) = false) : spoiltB d base n at_ ws = true := by
  unfold spoiltB
  rw [List.any_eq_true]
  exact ⟨k, by simpa using hk, by simp [h]⟩
set_option maxHeartbeats 4000000 in
set_option maxRecDepth 100000 in
theorem bspoilt_any {w : World} {B q S : Nat} {g : Nat → Nat} {d : Dev} {base many : Nat} {op : Bool} {P : List (BitVec 32)} (h : Bk w B q S g d base many op P) (gf : Nat) (lb : Array Value) (n : Nat) (at_ : Nat → Nat) (ws : Nat → BitVec 32)
    (hat : ∀ k, k < n → at_ k < 13) (hG : GivesTo w q S g d.ns gf lb n at_ ws) :
    Calls Try.prog 99 #[.pointer (some ⟨B, 0, none⟩), .func (.func gf) #[] lb] w fun e w' => e = .returned (.bool (spoiltB d base n at_ ws)) ∧ Below w.heap.size w w' := by
  refine (callsIn_wide (n := 0)).1 ?_
  refine callsIn_of_wp_marks Try.func99 rfl trivial ?_ rfl
  simp only [Try.ntmps99, List.size_toArray, List.length_cons, List.length_nil, Nat.reduceAdd, Nat.reduceSub, Array.replicate_succ, Array.replicate_zero, List.push_toArray, List.append_toArray, List.nil_append, List.cons_append]
  obtain ⟨A, hA⟩ : ∃ A, A = w.heap.size := ⟨_, rfl⟩
  obtain ⟨w0, hw0⟩ : ∃ w0, w.alloc (.cells #[.bool false] 4) = w0 := ⟨_, rfl⟩
  have b0 : Below w.heap.size w w0 := by rw [← hw0]; exact (Below.refl _ w).alloc (Nat.le_refl _) _
  have hlo := h.lt
  have h0 : LI w (fun _ => False) (A + 1) A [] B q S g d.ns d base many op P (.bool false) w0 := by
    exact ⟨h.new b0, rfl, fun x hx => by simp at hx, by rw [← hw0, hA]; simp [go_sem], by rw [← hw0, hA]; simp [go_sem], by omega, by rw [← hw0, hA]; simp, Ch.new b0, hlo⟩
  have H0 := Lib.hid h0
  have HB := Lib.hid (bhead_any h0.bk)
  have HZ := Lib.hid h.dev.zn
  have HH := Lib.hid (And.intro hA (And.intro h.fit hat))
  have HG := Lib.hid hG
  clear h h0 b0 hG hlo
  gi_wp2
  refine ⟨trivial, rfl, (callsIn_wide.2 HB.out).mono ?_⟩
  rintro e w1 ⟨Hb, cap, rfl, h1, h2, h3, h4⟩
  have H1 := Lib.hid (And.intro h1 (And.intro h2 (And.intro h3 h4)))
  clear h1 h2 h3 h4
  gi_wp2
  try rw [← hA]
  clear hw0 hA
  obtain ⟨X, hX⟩ : ∃ X, X = w1.heap.size := ⟨_, rfl⟩
  obtain ⟨w3, hw3⟩ : ∃ w3, w3 = w1.alloc (.cells #[.slice (some ⟨Hb, 0, none⟩) d.nw cap] 24) := ⟨_, rfl⟩
  have h3 : LI w (fun _ => False) (X + 1) A ((⟨X, 0, none⟩, .slice (some ⟨Hb, 0, none⟩) d.nw cap) :: (List.range d.nw).map fun i => (⟨Hb, i, none⟩, .int .u32 (w32 (d.word (base + 1) i)))) B q S g d.ns d base many op P (.bool false) w3 := by
    have hg := (H0.out.new H1.out.2.2.2).grow (.slice (some ⟨Hb, 0, none⟩) d.nw cap) 24
    rw [← hw3, ← hX] at hg
    have c3 : Ch (fun _ => False) w1 w3 := by rw [hw3]; exact (Ch.refl _ _).alloc _
    have z0 := H0.out.sz
    have hb1 := H1.out.1
    have hbX : 0 < d.nw → Hb < X := fun h0 => by rw [hX]; exact (H1.out.2.1.sp h0).2
    refine ⟨hg.bk, hg.ns, fun x hx => ?_, hg.res, hg.fr, hg.rz, hg.sz, hg.ch, hg.lo⟩
    rcases List.mem_cons.1 hx with rfl | hx
    · exact hg.cs _ (by simp)
    · simp only [List.mem_map, List.mem_range] at hx
      obtain ⟨i, hi, rfl⟩ := hx
      have := H1.out.2.1.cell i hi
      rw [Nat.zero_add] at this
      have hr := H0.out.rz
      have hbx := hbX (by omega)
      refine ⟨c3.cell this (fun h => h), ?_, ?_, ?_⟩
      · show w.heap.size ≤ Hb; omega
      · show Hb < X + 1; omega
      · show Hb ≠ A; omega
  have H3 := Lib.hid h3
  have z3 := Lib.hid (show w3.heap.size = X + 1 from by rw [hw3, hX]; simp)
  rw [← hw3, ← hX]
  clear hw3 hX h3
  refine wpIn_rangeF2 (gf := gf) (lb := lb) rfl HG.out.1
    n (fun k => #[.agg #[.int .i64 (at_ k : Nat), .int .u32 (w32 (ws k))]]) (fun _ => rfl) (LF (X + 1))
    (fun k W => LI w (fun _ => False) (X + 1) A ((⟨X, 0, none⟩, .slice (some ⟨Hb, 0, none⟩) d.nw cap) :: (List.range d.nw).map fun i => (⟨Hb, i, none⟩, .int .u32 (w32 (d.word (base + 1) i)))) B q S g d.ns d base many op P (.bool false) W ∧ ∀ i, i < k → within (ws i) (d.word (base + 1) (at_ i)) = true)
    (fun c _ W => c = .ret ∧ LI w (fun _ => False) (X + 1) A ((⟨X, 0, none⟩, .slice (some ⟨Hb, 0, none⟩) d.nw cap) :: (List.range d.nw).map fun i => (⟨Hb, i, none⟩, .int .u32 (w32 (d.word (base + 1) i)))) B q S g d.ns d base many op P (.bool true) W ∧ spoiltB d base n at_ ws = true)
    (fun _ => ⟨fun W h => LI.foot.lt W h.1, fun W W' h hc => ⟨⟨(LI.foot.keep W W' h.1 hc).1, h.2⟩, fun _ hj => hj⟩⟩)
    (fun _ _ => ⟨fun W h => LI.foot.lt W h.2.1, fun W W' h hc => ⟨⟨h.1, (LI.foot.keep W W' h.2.1 hc).1, h.2.2⟩, fun _ hj => hj⟩⟩) ⟨H3.out, fun i hi => absurd hi (Nat.not_lt_zero i)⟩
    (fun k a' W' => ∃ b t2 t3 t7 t8 t11 t12 t13 t14 t15 t16 t17 t18 t19, X + 3 ≤ b ∧ a' = { tmps := #[.pointer (some ⟨B, 0, none⟩), .func (.func gf) #[] lb, t2, t3, .pointer (some ⟨A, 0, none⟩), .pointer (some ⟨X, 0, none⟩), .pointer (some ⟨b, 0, none⟩), t7, t8, .func (.func gf) #[] lb, .agg #[.int .i64 (at_ k : Nat), .int .u32 (w32 (ws k))], t11, t12, t13, t14, t15, t16, t17, t18, t19], defers := [] } ∧ RowAt W' b 169 #[.int .i64 (at_ k : Nat), .int .u32 (w32 (ws k))])
    ?hax ?hit ?assign ?body ?done ?stop
  case hax =>
    rintro k a' W W' ⟨b, t2, t3, t7, t8, t11, t12, t13, t14, t15, t16, t17, t18, t19, hb, rfl, hr⟩ hc
    rw [z3.out] at hc
    exact ⟨b, _, _, _, _, _, _, _, _, _, _, _, _, _, hb, rfl, hc.obj hr (by omega)⟩
  case hit =>
    intro J Jx W1 h1 h2 h3 h4 h5 h6 h7 h8
    exact HG.out.2 _ _ J Jx W1 (fun k W' hJ => (h3 k W' hJ).1.1.ch.mono fun _ _ h => h.elim) h5 h7 h8
  case assign =>
    intro k W K hi hk hz hK
    rw [z3.out] at hz
    have HK := Lib.hid hK
    have hi1 := hi.1.new ((Below.refl W.heap.size W).alloc (Nat.le_refl _) (.cells #[.int .i64 (at_ k : Nat), .int .u32 (w32 (ws k))] 169))
    have HI := Lib.hid (And.intro hi1 hi.2)
    clear hK hi hi1
    gi_wp2
    exact HK.out _ _ ⟨W.heap.size, _, _, _, _, _, _, _, _, _, _, _, _, _, by omega, rfl, RowAt.mk W 169 _⟩ ((Ch.refl _ _).alloc _) HI.out (fun _ h => h)
  case body =>
    rintro k a' W ⟨hi, hn⟩ hk ⟨b, t2, t3, t7, t8, t11, t12, t13, t14, t15, t16, t17, t18, t19, hb, rfl, hr⟩ hz
    obtain ⟨a, ha⟩ : ∃ a, at_ k = a := ⟨_, rfl⟩
    obtain ⟨x, hx⟩ : ∃ x, ws k = x := ⟨_, rfl⟩
    have hal : a < 13 := by rw [← ha]; exact HH.out.2.2 k hk
    have hai : (a : Int) < (d.nw : Int) := by have := HH.out.2.1.2.2; omega
    have hl := hi.cell (⟨Hb, a, none⟩, .int .u32 (w32 (d.word (base + 1) a))) (List.mem_cons_of_mem _ (List.mem_map.2 ⟨a, List.mem_range.2 (by omega), rfl⟩))
    have hs := hi.cell (⟨X, 0, none⟩, .slice (some ⟨Hb, 0, none⟩) d.nw cap) (by simp)
    obtain ⟨y, hy⟩ : ∃ y, d.word (base + 1) a = y := ⟨_, rfl⟩
    have HE := Lib.hid (And.intro ha (And.intro hx hy))
    rw [ha, hx] at hr
    rw [hy] at hl
    rw [ha, hx]
    simp only at hl hs
    have HR := fun n => Lib.hid (quietly (rose_any x y (W.drewN n)))
    have q0 : W.cell? ⟨b, 0, none⟩ = some (.int .i64 (a : Nat)) := hr.cell 0
    have q1 : W.cell? ⟨b, 1, none⟩ = some (.int .u32 (w32 x)) := hr.cell 1
    obtain ⟨t, ht⟩ : ∃ t, within x y = t := ⟨_, rfl⟩
    rw [ht] at HR
    have HI := Lib.hid (And.intro hi (And.intro hn ht))
    obtain ⟨nw, hnw⟩ : ∃ nw, d.nw = nw := ⟨_, rfl⟩
    rw [hnw] at hs hai
    clear hi hn hr hz ha hx hy ht hal hnw
    cases t with
    | true =>
      gi_wp2
      refine wpIn_region_quiet0 (by kernel_rfl) (by kernel_rfl) (by kernel_rfl) (fun _ _ h => h) ?_
      repeat (quiet_step ((go_at_call 119; exact (HR _).out)))
      refine wpQuiet_nil ?_
      intro _ hw1
      obtain ⟨nq, hw2⟩ := hw1
      subst hw2
      have H2 := Lib.hid (HI.out.1.dn nq)
      have r2 := H2.out.res
      have f2 := H2.out.fr
      gi_wp2
      refine ⟨LF.step ((Ch.refl _ W).drewN nq), H2.out, fun i hi => ?_⟩
      rcases Nat.lt_or_ge i k with h1 | h1
      · exact HI.out.2.1 i h1
      · obtain rfl : i = k := by omega
        rw [HE.out.1, HE.out.2.1, HE.out.2.2]
        exact HI.out.2.2
    | false =>
      gi_wp2
      refine wpIn_region_quiet0 (by kernel_rfl) (by kernel_rfl) (by kernel_rfl) (fun _ _ h => h) ?_
      repeat (quiet_step ((go_at_call 119; exact (HR _).out)))
      refine wpQuiet_nil ?_
      intro _ hw1
      obtain ⟨nq, hw2⟩ := hw1
      subst hw2
      have H2 := Lib.hid (HI.out.1.dn nq)
      have r2 := H2.out.res
      have f2 := H2.out.fr
      gi_wp2
      refine ⟨LF.step (((Ch.refl _ W).drewN nq).setCell _ _ (.inl (show A < X + 1 from by have := HI.out.1.rz; omega))), rfl, H2.out.ret _, spoiltB_some hk ?_⟩
      rw [HE.out.1, HE.out.2.1, HE.out.2.2]
      exact HI.out.2.2
  case done =>
    rintro W ⟨hi, hn⟩ hD hnD hz
    rw [z3.out] at hD hnD hz
    have HI := Lib.hid (And.intro hi (spoiltB_none hn))
    have HD := Lib.hid (And.intro hD hz)
    have r2 := hi.res
    have f2 := hi.fr
    clear hi hn hD hnD hz
    gi_wp2
    rw [z3.out]
    have hc : Ch (fun j => j = A) W (W.setCell ⟨A, 0, none⟩ (.bool false)) := (Ch.refl _ _).setCell _ _ (.inl rfl)
    have hD' := hc.obj HD.out.1 (by have := HI.out.1.rz; omega)
    have hI := (HI.out.1.ret (.bool false)).done (.deferred none)
    have hr := hI.res
    refine ⟨by simp, .inl ⟨_, _, rfl, run_takeDeferred hD', ?_⟩⟩
    refine ⟨.bool false, ?_, ?_, hI.none_below⟩
    · simp [results, Try.results99, go_sem, hr]
    · rw [HI.out.2]
  case stop =>
    rintro c k W hk ⟨rfl, hi, ht⟩ hD hnD hz
    rw [z3.out] at hD hnD hz
    have HI := Lib.hid (And.intro hi ht)
    have HD := Lib.hid (And.intro hD hz)
    clear hi ht hD hnD hz
    gi_wp2
    rw [z3.out]
    have hI := HI.out.1.done (.deferred none)
    have hr := hI.res
    refine ⟨by simp, .inl ⟨_, _, rfl, run_takeDeferred HD.out.1, ?_⟩⟩
    refine ⟨.bool true, ?_, ?_, hI.none_below⟩
    · simp [results, Try.results99, go_sem, hr]
    · rw [HI.out.2]
end Go.Proofs.Ythpagbfabpfngaa
/- The contracts of bank's Begin, Open. -/
namespace Go.Proofs.Ythpagbfabpfngaa
open Go.RowKit

/-- What Begin answers, and what the bank is then. -/
def beginR (d : Dev) (base many : Nat) (P : List (BitVec 32)) : Int × Dev × Bool × List (BitVec 32) :=
  if d.on then (if wornB d base many then (62, d, false, P) else (if (blankD d base many).2 = 0 then (0, (blankD d base many).1, true, []) else ((blankD d base many).2, (blankD d base many).1, false, P))) else (63, d, false, P)
theorem open_any {w : World} {B q S : Nat} {g : Nat → Nat} {d : Dev} {base many : Nat} {op : Bool} {P : List (BitVec 32)} (h : Bk w B q S g d base many op P) :
    Calls Try.prog 12 #[.pointer (some ⟨B, 0, none⟩)] w fun e w' => e = .returned (.tuple #[.int .i64 (if op then P.length else 0 : Nat), .bool op]) ∧ w = w' := by
  have c3 := h.c3
  have c4 := h.c4
  clear h
  cases op with
  | true =>
    go_enter Try.func12, Try.ntmps12
    go_wp2
    go_ret2
    exact ⟨by simp, rfl⟩
  | false =>
    go_enter Try.func12, Try.ntmps12
    go_wp2
    go_ret2
    exact ⟨by simp, rfl⟩
set_option maxHeartbeats 4000000 in
set_option maxRecDepth 100000 in
theorem begin_any {w : World} {B q S : Nat} {g : Nat → Nat} {d : Dev} {base many : Nat} {op : Bool} {P : List (BitVec 32)} (h : Bk w B q S g d base many op P) (ho : d.okE) (hn : d.ops + many + 1 ≤ 1000000) :
    Calls Try.prog 43 #[.pointer (some ⟨B, 0, none⟩)] w fun e w' => e = .returned (.int .i64 (beginR d base many P).1) ∧ Bk w' B q S g (beginR d base many P).2.1 base many (beginR d base many P).2.2.1 (beginR d base many P).2.2.2 ∧ Ch (OwnB B q S g d.ns) w w' := by
  have hR : beginR d base many P = if d.on then (if wornB d base many then (62, d, false, P) else (if (blankD d base many).2 = 0 then (0, (blankD d base many).1, true, []) else ((blankD d base many).2, (blankD d base many).1, false, P))) else (63, d, false, P) := rfl
  obtain ⟨R, hRR⟩ : ∃ R, beginR d base many P = R := ⟨_, rfl⟩
  rw [hRR] at hR ⊢
  clear hRR
  have h1 := h.setOp false
  have c3 := h.c3
  have f3 := h.box.fr 3
  obtain ⟨w1, hw1⟩ : ∃ w1, w.setCell ⟨B, 3, none⟩ (.bool false) = w1 := ⟨_, rfl⟩
  have ch1 : Ch (OwnB B q S g d.ns) w w1 := by rw [← hw1]; exact (Ch.refl _ _).setCell _ _ (.inl (.inl rfl))
  rw [hw1] at h1
  have c0 := h1.c0
  have H1 := Lib.hid (And.intro h1 ch1)
  have HOn := Lib.hid (on_any h1.dev)
  have HW := Lib.hid (bworn_any h1)
  have hkk := blankD_kept (base := base) (many := many) ho hn
  have HBl := Lib.hid (fun (wx : World) (hx : Bk wx B q S g d base many false P) => bblank_any hx ho hn)
  obtain ⟨⟨d1, e1⟩, hb⟩ : ∃ p, blankD d base many = p := ⟨_, rfl⟩
  simp only [hb] at HBl hR hkk
  clear h h1 ch1 hb ho hn
  cases hon : d.on with
  | false =>
    rw [hon] at HOn hR
    go_enter Try.func43, Try.ntmps43
    go_wp2_with (first
      | (go_at_call 46; refine HOn.out.mono ?_; rintro e w2 ⟨rfl, rfl⟩)
      | (go_at_call 17; refine HW.out.mono ?_; rintro e w3 ⟨rfl, hb3⟩; have H3 := Lib.hid (And.intro (H1.out.1.new hb3) (H1.out.2.trans (Ch.new hb3))); clear hb3)
      | (go_at_call 76; refine (HBl.out _ H3.out.1).mono ?_; rintro e w4 ⟨rfl, h4, k4⟩; have H4 := Lib.hid (And.intro h4 (H3.out.2.trans (k4.mono fun j _ hj => .inr hj))); clear h4 k4)
      | fail)
    go_ret
    simp only [Bool.false_eq_true, if_false] at hR
    subst hR
    exact ⟨rfl, H1.out⟩
  | true =>
    rw [hon] at HOn hR
    simp only [if_true] at hR
    cases hwb : wornB d base many with
    | true =>
      rw [hwb] at HW hR
      simp only [if_true] at hR
      go_enter Try.func43, Try.ntmps43
      go_wp2_with (first
        | (go_at_call 46; refine HOn.out.mono ?_; rintro e w2 ⟨rfl, rfl⟩)
        | (go_at_call 17; refine HW.out.mono ?_; rintro e w3 ⟨rfl, hb3⟩; have H3 := Lib.hid (And.intro (H1.out.1.new hb3) (H1.out.2.trans (Ch.new hb3))); clear hb3)
        | (go_at_call 76; refine (HBl.out _ H3.out.1).mono ?_; rintro e w4 ⟨rfl, h4, k4⟩; have H4 := Lib.hid (And.intro h4 (H3.out.2.trans (k4.mono fun j _ hj => .inr hj))); clear h4 k4)
        | fail)
      go_ret
      subst hR
      exact ⟨rfl, H3.out⟩
    | false =>
      rw [hwb] at HW hR
      simp only [Bool.false_eq_true, if_false] at hR
      by_cases he : e1 = 0
      · subst he
        rw [if_pos rfl] at hR
        go_enter Try.func43, Try.ntmps43
        go_wp2_with (first
          | (go_at_call 46; refine HOn.out.mono ?_; rintro e w2 ⟨rfl, rfl⟩)
          | (go_at_call 17; refine HW.out.mono ?_; rintro e w3 ⟨rfl, hb3⟩; have H3 := Lib.hid (And.intro (H1.out.1.new hb3) (H1.out.2.trans (Ch.new hb3))); clear hb3)
          | (go_at_call 76; refine (HBl.out _ H3.out.1).mono ?_; rintro e w4 ⟨rfl, h4, k4⟩; have H4 := Lib.hid (And.intro h4 (H3.out.2.trans (k4.mono fun j _ hj => .inr hj))); have f43 := h4.box.fr 3; have f44 := h4.box.fr 4; have f45 := h4.box.fr 5; have f46 := h4.box.fr 6; have q43 := h4.c3; have q44 := h4.c4; have q45 := h4.box.cell 5 _ rfl; have q46 := h4.box.cell 6 _ rfl; clear h4 k4)
          | fail)
        go_ret
        subst hR
        refine ⟨rfl, ⟨?_, ?_, H4.out.1.nb, H4.out.1.fit⟩, ?_⟩
        · have hB := (((H4.out.1.box.set 3 (.bool true) (by rw [bankL_eq]; simp)).set 4 (.int .i64 0) (by rw [bankL_eq]; simp)).set 5 (.int .u32 0) (by rw [bankL_eq]; simp)).set 6 (.int .i64 0) (by rw [bankL_eq]; simp)
          have e : ((((bankL q base many false P).set 3 (.bool true)).set 4 (.int .i64 0)).set 5 (.int .u32 0)).set 6 (.int .i64 0) = bankL q base many true [] := by
            rw [bankL_eq, bankL_eq]
            rfl
          rw [e] at hB
          exact hB
        · exact (H4.out.1.dev.keep (T := fun j => j = B) ((((ch_setK w4 B 3 _).trans (ch_setK _ B 4 _)).trans (ch_setK _ B 5 _)).trans (ch_setK _ B 6 _)) (fun j hj e => H4.out.1.nb (by rw [← e]; exact hj)))
        · exact H4.out.2.trans (((((ch_setK w4 B 3 _).trans (ch_setK _ B 4 _)).trans (ch_setK _ B 5 _)).trans (ch_setK _ B 6 _)).mono fun j _ e => .inl e)
      · rw [if_neg he] at hR
        go_enter Try.func43, Try.ntmps43
        go_wp2_with (first
          | (go_at_call 46; refine HOn.out.mono ?_; rintro e w2 ⟨rfl, rfl⟩)
          | (go_at_call 17; refine HW.out.mono ?_; rintro e w3 ⟨rfl, hb3⟩; have H3 := Lib.hid (And.intro (H1.out.1.new hb3) (H1.out.2.trans (Ch.new hb3))); clear hb3)
          | (go_at_call 76; refine (HBl.out _ H3.out.1).mono ?_; rintro e w4 ⟨rfl, h4, k4⟩; have H4 := Lib.hid (And.intro h4 (H3.out.2.trans (k4.mono fun j _ hj => .inr hj))); clear h4 k4)
          | fail)
        go_ret
        subst hR
        exact ⟨rfl, H4.out⟩
end Go.Proofs.Ythpagbfabpfngaa
