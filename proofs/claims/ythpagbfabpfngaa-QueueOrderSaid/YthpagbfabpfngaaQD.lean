/- The contracts of queue's put and Fill. -/
import Derived.Test.YthpagbfabpfngaaQC
namespace Go.Proofs.Ythpagbfabpfngaa
open Go.RowKit
attribute [local go_sem] Oper.semAt_some

/-- One message more, by force: the messages, how many were dropped, how many went. -/
def stepF (c : Int) (s : List Int × Int × Int) (x : Int) : List Int × Int × Int :=
  if (s.1.length : Int) = c then (s.1.tail ++ [x], min (s.2.1 + 1) 4096, s.2.2 + 1) else (s.1 ++ [x], s.2.1, s.2.2)
def fillF (c : Int) (L : List Int) (d : Int) (X : List Int) (k : Nat) : List Int × Int × Int := (X.take k).foldl (stepF c) (L, d, 0)
theorem fillF_zero (c : Int) (L : List Int) (d : Int) (X : List Int) : fillF c L d X 0 = (L, d, 0) := rfl
theorem fillF_succ (c : Int) (L : List Int) (d : Int) (X : List Int) (k : Nat) (hk : k < X.length) : fillF c L d X (k + 1) = stepF c (fillF c L d X k) (nth X k) := by
  unfold fillF
  rw [take_succ_nth X k hk, List.foldl_append]
  rfl
theorem fillF_went (c : Int) (L : List Int) (d : Int) (X : List Int) : ∀ k, k ≤ X.length → 0 ≤ (fillF c L d X k).2.2 ∧ (fillF c L d X k).2.2 ≤ k := by
  intro k
  induction k with
  | zero => intro _; rw [fillF_zero]; exact ⟨Int.le_refl _, Int.le_refl _⟩
  | succ k ih =>
    intro hk
    have h := ih (by omega)
    rw [fillF_succ _ _ _ _ _ (by omega)]
    unfold stepF
    split
    · exact ⟨by simp only; omega, by simp only; omega⟩
    · exact ⟨by simp only; omega, by simp only; omega⟩

theorem put1_idle (w : World) : CallsDIn Fence.wide 0 Try.prog 102 #[] .returning w fun e u' w' => e = .returned (.tuple #[]) ∧ u' = .returning ∧ w' = w := by
  refine callsDIn_of_wpSIn Try.func102 rfl trivial fun c₀ cs hu => ?_
  apply wpSIn_region
  simp [wpOpsSIn, go_sem, recoverD, hu, Try.ntmps102, bodyPostS, results, Try.results102]
  cases c₀
  simp_all

/-- What put keeps from round to round. -/
structure PutI (w0 : World) (B A : Nat) (c p : Int) (s : List Int × Int × Int) (w : World) : Prop where
  q : QL w B c p s.1 s.2.1
  ptr : w.cell? ⟨A, 0, none⟩ = some (.pointer (some ⟨B, 0, none⟩))
  went : w.cell? ⟨A + 1, 0, none⟩ = some (.int .i64 s.2.2)
  fr : w.frozen? ⟨A + 1, 0, none⟩ = false
  bA : B < A
  sz : A + 2 ≤ w.heap.size
  ch : Ch (fun j => j = B) w0 w
  aw : w0.heap.size = A
def PutF (A : Nat) (_ : World) (j : Nat) : Prop := j < A + 2
theorem PutI.foot (w0 : World) (B A : Nat) (c p : Int) (s : List Int × Int × Int) : Foot (PutF A) (PutI w0 B A c p s) where
  lt := fun W h j hj => Nat.lt_of_lt_of_le hj h.sz
  keep := fun W W' h hc => by
    have hc' : Ch (fun j => ¬ PutF A W j) W W' := hc
    have := h.bA
    have n0 : ¬ ¬ PutF A W B := fun hn => hn (by unfold PutF; omega)
    have n1 : ¬ ¬ PutF A W A := fun hn => hn (by unfold PutF; omega)
    have n2 : ¬ ¬ PutF A W (A + 1) := fun hn => hn (by unfold PutF; omega)
    refine ⟨⟨h.q.keep hc' n0, hc'.cell h.ptr n1, hc'.cell h.went n2, (hc'.frozenCell h.went n2).trans h.fr, h.bA, Nat.le_trans h.sz hc'.size, ?_, h.aw⟩, fun j hj => hj⟩
    refine ⟨hc'.os.trans h.ch.os, hc'.tape.trans h.ch.tape, hc'.output.trans h.ch.output, Nat.le_trans h.ch.size hc'.size, fun k hk hn => ?_⟩
    rw [hc'.block k (Nat.lt_of_lt_of_le hk h.ch.size) (fun hn => hn (by unfold PutF; have := h.aw; omega))]
    exact h.ch.block k hk hn
/-- A step that turns the queue alone. -/
theorem PutI.turn {w0 : World} {B A : Nat} {c p : Int} {s : List Int × Int × Int} {w w' : World} (h : PutI w0 B A c p s w) {L : List Int} {d : Int} (hc : Ch (fun j => j = B) w w') (hq : QL w' B c p L d) : PutI w0 B A c p (L, d, s.2.2) w' := by
  have := h.bA
  exact ⟨hq, hc.cell h.ptr (show A ≠ B by omega), hc.cell h.went (show A + 1 ≠ B by omega), (hc.frozenCell h.went (show A + 1 ≠ B by omega)).trans h.fr, h.bA, Nat.le_trans h.sz hc.size, h.ch.trans hc, h.aw⟩
theorem PutI.count {w0 : World} {B A : Nat} {c p : Int} {s : List Int × Int × Int} {w : World} (h : PutI w0 B A c p s w) (n : Int) : PutI w0 B A c p (s.1, s.2.1, n) (w.setCell ⟨A + 1, 0, none⟩ (.int .i64 n)) := by
  have := h.bA
  have hc : Ch (fun j => j = A + 1) w (w.setCell ⟨A + 1, 0, none⟩ (.int .i64 n)) := ch_set _ _ _ _
  exact ⟨h.q.keep hc (by omega), hc.cell h.ptr (show A ≠ A + 1 by omega), World.cell?_setCell_same _ _ _ h.went, by rw [World.frozen?_setCell]; exact h.fr, h.bA, Nat.le_trans h.sz hc.size,
    ⟨hc.os.trans h.ch.os, hc.tape.trans h.ch.tape, hc.output.trans h.ch.output, Nat.le_trans h.ch.size hc.size, fun k hk hn => (hc.block k (Nat.lt_of_lt_of_le hk h.ch.size) (by have := h.aw; omega)).trans (h.ch.block k hk hn)⟩, h.aw⟩
theorem PutI.step {w0 : World} {B A : Nat} {c p : Int} {s s' : List Int × Int × Int} {w w' : World} (h : PutI w0 B A c p s w) (_h' : PutI w0 B A c p s' w') (hc : Ch (fun j => j = B ∨ j = A + 1) w w') : Step (PutF A) w w' :=
  ⟨hc.mono fun j _ hj => by have := h.bA; unfold PutF; omega, fun j hj => .inl hj⟩
theorem ch_B {T : Nat → Prop} {w w' : World} {B : Nat} (h : Ch (fun j => j = B) w w') (hT : T B) : Ch T w w' := h.mono fun j _ e => by rw [e]; exact hT

set_option maxHeartbeats 4000000 in
theorem put_any {w : World} {B : Nat} {c p : Int} {L : List Int} {d : Int} (h : QL w B c p L d) (gf : Nat) (lb : Array Value) (eg : ∀ args w, (callFunc gf args).run Try.prog w = .ok (.enter gf args) w) (X : List Int) (hX : X.length ≤ 9223372036854775807)
    (hit : ∀ l FF J Jx W1, Below w.heap.size w W1 → (∀ k W', J k W' → Ch (fun j => j = B) w W') → (∀ k, Foot FF (J k)) → (∀ k, Foot FF (Jx k)) →
      RoundsF Try.prog l X.length (fun k => #[.int .i64 (nth X k)]) FF J Jx → J 0 W1 → Iter Try.prog gf lb l X.length J Jx W1) :
    Calls Try.prog 69 #[.pointer (some ⟨B, 0, none⟩), .func (.func gf) #[] lb] w fun e w' => e = .returned (.int .i64 (fillF c L d X X.length).2.2) ∧ QL w' B c p (fillF c L d X X.length).1 (fillF c L d X X.length).2.1 ∧ Ch (fun j => j = B) w w' := by
  refine (callsIn_wide (n := 0)).1 ?_
  have hmf : ∀ (fn : Fn) (first cap : Array Value) (w : World), (Instr.makeFunc fn first cap).run Try.prog w = .ok (.func fn first cap) w := fun _ _ _ _ => rfl
  refine callsIn_of_wp_marks Try.func69 rfl trivial ?_ rfl
  simp only [Try.ntmps69, List.size_toArray, List.length_cons, List.length_nil, Nat.reduceAdd, Nat.reduceSub, Array.replicate_succ, Array.replicate_zero, List.push_toArray, List.append_toArray, List.nil_append, List.cons_append]
  obtain ⟨A, hA⟩ : ∃ A, A = w.heap.size := ⟨_, rfl⟩
  obtain ⟨w1, hw1⟩ : ∃ w1, (w.alloc (.cells #[.pointer (some ⟨B, 0, none⟩)] 67)).alloc (.cells #[.int .i64 0] 3) = w1 := ⟨_, rfl⟩
  have b1 : Below w.heap.size w w1 := by rw [← hw1]; exact ((Below.refl _ _).alloc (Nat.le_refl _) _).alloc (by simp) _
  have hB := h.lt
  have H1 := Lib.hid (show PutI w B A c p (fillF c L d X 0) w1 from by
    refine ⟨h.new b1, by rw [← hw1, hA]; simp [go_sem], by rw [← hw1, hA]; simp [go_sem, fillF_zero], by rw [← hw1, hA]; simp [go_sem], by omega, by rw [← hw1, hA]; simp, Ch.new b1, hA.symm⟩)
  have HZ := Lib.hid (show w1.heap.size = A + 2 from by rw [← hw1, hA]; simp)
  have HIT := Lib.hid hit
  have HB := Lib.hid b1
  clear h hit b1 hB
  gi_wp2
  rw [← hA]
  have HAw := Lib.hid hA
  clear hw1 hA
  refine wpIn_rangeF (gf := gf) (lb := lb) rfl eg X.length (fun j => #[.int .i64 (nth X j)]) (fun _ => rfl) (PutF A) (fun k => PutI w B A c p (fillF c L d X k)) (fun _ _ _ => False)
    (fun k => PutI.foot _ _ _ _ _ _) (fun _ _ => ⟨fun _ h => h.elim, fun _ _ h => h.elim⟩) H1.out
    (fun j a' _ => ∃ t8 t9 t10 t11 t12 t13 t14 t15 t16 t17 t18 t19 : Value, a' = { tmps := #[.pointer (some ⟨B, 0, none⟩), .func (.func gf) #[] lb, .pointer (some ⟨A, 0, none⟩), undef, .pointer (some ⟨A + 1, 0, none⟩), .int .i64 (nth X j), .func (.func gf) #[] lb, .int .i64 (nth X j), t8, t9, t10, t11, t12, t13, t14, t15, t16, t17, t18, t19], defers := [] })
    (fun _ _ _ _ h _ => h) ?hit ?assign ?body ?done (fun _ _ _ _ h => h.elim)
  case hit =>
    intro J Jx W1 h1 h2 h3 h4 h5 h6 h7 h8
    exact HIT.out _ _ J Jx W1 (HB.out.trans (h2.mono (by rw [HZ.out]; have := HAw.out; omega))) (fun k W' hJ => (h3 k W' hJ).1.ch) h5 h6 h7 h8
  case assign =>
    intro j A' K hi hj hK
    gi_wp2
    exact hK _ _ ⟨_, _, _, _, _, _, _, _, _, _, _, _, rfl⟩ (Ch.refl _ _) hi (fun _ h => h)
  case body =>
    rintro k a' W hi hk ⟨t8, t9, t10, t11, t12, t13, t14, t15, t16, t17, t18, t19, rfl⟩ hz
    have hs := fillF_succ c L d X k hk
    obtain ⟨hw0, hwk⟩ := fillF_went c L d X k (by omega)
    obtain ⟨x, hx⟩ : ∃ x, nth X k = x := ⟨_, rfl⟩
    rw [hx] at hs ⊢
    clear hx
    obtain ⟨⟨S, dd, n⟩, hS⟩ : ∃ s, fillF c L d X k = s := ⟨_, rfl⟩
    rw [hS] at hs hi hw0 hwk
    simp only at hw0 hwk
    have HS := Lib.hid hs
    have HI := Lib.hid hi
    have hn1 : n + 1 ≤ 9223372036854775807 := by omega
    have p0 := hi.ptr
    clear hS hs hi hz
    by_cases hf : (S.length : Int) = c
    · obtain ⟨y, S', rfl⟩ : ∃ y S', S = y :: S' := by
        cases S with
        | nil => have := HI.out.q.c1; simp at hf; omega
        | cons y S' => exact ⟨y, S', rfl⟩
      have hl : (S'.length : Int) < c := by simp at hf; omega
      have hst : stepF c (y :: S', dd, n) x = (S' ++ [x], min (dd + 1) 4096, n + 1) := by unfold stepF; rw [if_pos hf]; rfl
      have HF := Lib.hid (qfull_any HI.out.q true (by rw [decide_eq_true hf]))
      have HST := Lib.hid (HS.out.trans hst)
      clear hf hst HS
      gi_wp2_with (first
        | (refine ⟨trivial, rfl, ?_⟩; gi_at_call 71; refine (CallsIn.inRound _ (callsIn_wide.2 HF.out)).mono ?_; rintro e w2 ⟨rfl, m, rfl⟩; have H2 := Lib.hid (HI.out.turn ((Ch.refl _ _).drewN m) (HI.out.q.dn m)); have C2 := Lib.hid ((Ch.refl (fun j => j = B) W).drewN m); have p2 := H2.out.ptr)
        | (refine ⟨trivial, rfl, ?_⟩; gi_at_call 68; refine (CallsIn.inRound _ (callsIn_wide.2 (qshift_any H2.out.q))).mono ?_; rintro e w3 ⟨rfl, q3, c3⟩; have H3 := Lib.hid (H2.out.turn c3 q3); have C3 := Lib.hid (C2.out.trans c3); have p3 := H3.out.ptr; clear q3 c3)
        | (refine ⟨trivial, rfl, ?_⟩; gi_at_call 73; refine (CallsIn.inRound _ (callsIn_wide.2 (qcount_any H3.out.q))).mono ?_; rintro e w4 ⟨rfl, q4, c4⟩; have H4 := Lib.hid (H3.out.turn c4 q4); have C4 := Lib.hid (C3.out.trans c4); have p4 := H4.out.ptr; have n4 : w4.cell? ⟨A + 1, 0, none⟩ = some (.int .i64 n) := H4.out.went; have f4 := H4.out.fr; clear q4 c4)
        | fail)
      have H5 := Lib.hid (H4.out.count (n + 1))
      have C5 := Lib.hid (show Ch (fun j => j = B ∨ j = A + 1) W (w4.setCell ⟨A + 1, 0, none⟩ (.int .i64 (n + 1))) from (ch_B C4.out (.inl rfl)).trans ((ch_set w4 (A + 1) 0 (.int .i64 (n + 1))).mono fun j _ e => .inr e))
      refine ⟨trivial, rfl, ?_⟩
      refine (CallsIn.inRound _ (callsIn_wide.2 (qpush_any H5.out.q hl x))).mono ?_
      rintro e w6 ⟨rfl, q6, c6⟩
      have H6 := Lib.hid (H5.out.turn c6 q6)
      have C6 := Lib.hid (C5.out.trans (ch_B c6 (.inl rfl)))
      clear q6 c6
      gi_wp2
      have H7 : PutI w B A c p (fillF c L d X (k + 1)) w6 := by rw [HST.out]; exact H6.out
      exact ⟨HI.out.step H7 C6.out, H7⟩
    · have hl : (S.length : Int) < c := by have := HI.out.q.cap; simp only at this; omega
      have hst : stepF c (S, dd, n) x = (S ++ [x], dd, n) := by unfold stepF; rw [if_neg hf]
      have HF := Lib.hid (qfull_any HI.out.q false (by rw [decide_eq_false hf]))
      have HST := Lib.hid (HS.out.trans hst)
      clear hf hst HS
      gi_wp2_with (first
        | (refine ⟨trivial, rfl, ?_⟩; gi_at_call 71; refine (CallsIn.inRound _ (callsIn_wide.2 HF.out)).mono ?_; rintro e w2 ⟨rfl, m, rfl⟩; have H2 := Lib.hid (HI.out.turn ((Ch.refl _ _).drewN m) (HI.out.q.dn m)); have C2 := Lib.hid ((Ch.refl (fun j => j = B) W).drewN m); have p2 := H2.out.ptr)
        | (refine ⟨trivial, rfl, ?_⟩; gi_at_call 72; refine (CallsIn.inRound _ (callsIn_wide.2 (qpush_any H2.out.q hl x))).mono ?_; rintro e w3 ⟨rfl, q3, c3⟩; have H3 := Lib.hid (H2.out.turn c3 q3); have C3 := Lib.hid (C2.out.trans c3); clear q3 c3)
        | fail)
      have H7 : PutI w B A c p (fillF c L d X (k + 1)) w3 := by rw [HST.out]; exact H3.out
      exact ⟨HI.out.step H7 (ch_B C3.out (.inl rfl)), H7⟩
  case done =>
    intro W hi hD hnD hz
    have hw := hi.went
    have hfr := hi.fr
    have HI := Lib.hid hi
    have HD := Lib.hid (And.intro hD hz)
    clear hi hD hnD hz
    gi_wp2
    have hc : Ch (fun j => j = A + 1) W (W.setCell ⟨A + 1, 0, none⟩ (.int .i64 (fillF c L d X X.length).2.2)) := ch_set _ _ _ _
    have hD' := hc.obj HD.out.1 (by rw [HZ.out]; omega)
    have hp : Ch (fun j => j = A + 2) (W.setCell ⟨A + 1, 0, none⟩ (.int .i64 (fillF c L d X X.length).2.2)) ((W.setCell ⟨A + 1, 0, none⟩ (.int .i64 (fillF c L d X X.length).2.2)).putObj (A + 2) (.deferred none)) := (Ch.refl _ _).putObj _ _ rfl
    have hI := HI.out.count (fillF c L d X X.length).2.2
    have hcell := hp.cell hI.went (show A + 1 ≠ A + 2 by omega)
    rw [HZ.out] at hD' ⊢
    refine ⟨by simp, .inl ⟨_, _, rfl, run_takeDeferred hD', ?_⟩⟩
    refine ⟨by simp, .inr ⟨fun h => absurd h (by simp [Fence.wide]), .func 102, #[], 102, #[], rfl, by simp [go_sem], fun _ _ => trivial, ?_⟩⟩
    refine (put1_idle _).mono ?_
    rintro e u' w'' ⟨rfl, rfl, rfl⟩
    refine ⟨.int .i64 (fillF c L d X X.length).2.2, ?_, rfl, ?_, ?_⟩
    · simp [results, Try.results69, go_sem, hcell]
    · exact hI.q.keep hp (by have := hI.bA; omega)
    · refine ⟨hp.os.trans hI.ch.os, hp.tape.trans hI.ch.tape, hp.output.trans hI.ch.output, Nat.le_trans hI.ch.size hp.size, fun k hk hn => ?_⟩
      rw [hp.block k (Nat.lt_of_lt_of_le hk hI.ch.size) (by have := hI.aw; omega)]
      exact hI.ch.block k hk hn
/-- Fill. -/
theorem fill_any {w : World} {B : Nat} {c p : Int} {L : List Int} {d : Int} (h : QL w B c p L d) (gf : Nat) (lb : Array Value) (eg : ∀ args w, (callFunc gf args).run Try.prog w = .ok (.enter gf args) w) (X : List Int) (hX : X.length ≤ 9223372036854775807)
    (hit : ∀ l FF J Jx W1, Below w.heap.size w W1 → (∀ k W', J k W' → Ch (fun j => j = B) w W') → (∀ k, Foot FF (J k)) → (∀ k, Foot FF (Jx k)) →
      RoundsF Try.prog l X.length (fun k => #[.int .i64 (nth X k)]) FF J Jx → J 0 W1 → Iter Try.prog gf lb l X.length J Jx W1) :
    Calls Try.prog 32 #[.pointer (some ⟨B, 0, none⟩), .func (.func gf) #[] lb] w fun e w' => e = .returned (.int .i64 (fillF c L d X X.length).2.2) ∧ QL w' B c p (fillF c L d X X.length).1 (fillF c L d X X.length).2.1 ∧ Ch (fun j => j = B) w w' := by
  have he : ∀ (d' : Nat) (w : World), (Op.equalIn (d' + 1) 80 (.func (.func gf) #[] lb) .nilFunc).run Try.prog w = .ok false w := fun d' w => by
    simp [Op.equalIn, run_underlying Try.underlying80]
  have hE : ∀ w, (Go.binOp .eql 80 (.func (.func gf) #[] lb) .nilFunc).run Try.prog w = .ok (.bool false) w := fun w => by
    have h : (Op.equal 80 (.func (.func gf) #[] lb) .nilFunc).run Try.prog w = .ok false w := he 9999 w
    simp [Go.binOp, h]
  have HP := Lib.hid (put_any h gf lb eg X hX hit)
  clear h hit he
  go_enter Try.func32, Try.ntmps32
  go_wp2_with (go_at_call 69; refine HP.out.mono ?_; rintro e w1 ⟨rfl, q1, c1⟩; have H1 := Lib.hid (And.intro q1 c1); clear q1 c1)
  go_ret
  exact ⟨rfl, H1.out⟩
end Go.Proofs.Ythpagbfabpfngaa
