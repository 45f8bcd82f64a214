/- Several texts in one: XB, XC, XD, XE, ZA. -/
import Derived.Test.YtihomapbncnhaaaDoorPk05
import Derived.RecoverIn
import Derived.OwnWalkIn
import Derived.TacticsInMore
import Derived.RegionIn
import Derived.LoopNIn
import Derived.LoopIn
import Derived.Shelf.Abstract
import Derived.Shelf.RegionOpen
import Derived.Test.YtihomapbncnhaaaDoorPk01
import Derived.Test.YtihomapbncnhaaaDoorPk03
/- The contract of check.total over whatever iterator keeps its word: the sum of all numbers that come, or none; and of its deferred closure, which finds nothing to recover. -/
namespace Go.Proofs.YtihomapbncnhaaaDoor
open Go.RowKit
attribute [local go_sem] Oper.semAt_some

def runS (n : Int) : List Int → Option Int
  | [] => some n
  | x :: r => if addB n x then runS (addN n x) r else none
theorem runS_snoc (n : Int) (l : List Int) (x : Int) : runS n (l ++ [x]) = (runS n l).bind fun s => if addB s x then some (addN s x) else none := by
  induction l generalizing n with
  | nil => simp [runS]
  | cons y l ih =>
    simp only [List.cons_append, runS]
    split
    · exact ih _
    · rfl
theorem runS_none (n : Int) (l r : List Int) (h : runS n l = none) : runS n (l ++ r) = none := by
  induction l generalizing n with
  | nil => simp [runS] at h
  | cons y l ih =>
    simp only [List.cons_append, runS] at h ⊢
    split
    · rename_i hb; rw [if_pos hb] at h; exact ih _ h
    · rfl
theorem runS_take_none {l : List Int} {k : Nat} (h : runS 0 (l.take k) = none) : runS 0 l = none := by
  have := runS_none 0 _ (l.drop k) h
  rwa [List.take_append_drop] at this
theorem take_succ_getD (l : List Int) (k : Nat) (h : k < l.length) : l.take (k + 1) = l.take k ++ [nth l k] := by
  rw [List.take_succ_eq_append_getElem h]; simp [nth, List.getElem?_eq_getElem h]
def resN (o : Option Int) : Int := o.getD 0
def resB (o : Option Int) : Bool := o.isSome
theorem addN_f {a b : Int} (h : addB a b = false) : addN a b = 0 := by unfold addB at h; unfold addN; rw [h]; rfl

theorem rec_idle (p q : Addr) (w : World) :
    CallsDIn Fence.wide 0 Tryd.prog 100 #[.pointer (some p), .pointer (some q)] .returning w fun e u' w' => e = .returned (.tuple #[]) ∧ u' = .returning ∧ w' = w := by
  refine callsDIn_of_wpSIn Tryd.func100 rfl trivial fun c₀ cs hu => ?_
  apply wpSIn_seq
  apply wpSIn_region
  simp [wpOpsSIn, go_sem, recoverD, hu, Tryd.ntmps100, Exit.thenS, Fence.wide]
  refine wpSIn_cond (t := false) (by simp [Act.eval, Array.replicate]) ?_
  simp only [Bool.false_eq_true, if_false]
  refine wpSIn_of_wpIn rfl (wpIn_skip ?_)
  cases c₀
  simp_all [bodyPostS, results, Tryd.results100]

/-- What total hands back: the numbers' sum, or none. -/
def resOf (xs : List Int) : Ending := .returned (.tuple #[.int .i64 (resN (runS 0 xs)), .bool (resB (runS 0 xs))])

/-- total's way out: the mark, the deferred closure, the two results in their cells. -/
theorem total_leaves (tmps : Array Value) (B D : Nat) (n : Int) (b : Bool) (R : Ending → World → Prop) (W : World)
    (ht2 : tmps[2]? = some (.pointer (some ⟨B, 0, none⟩))) (ht3 : tmps[3]? = some (.pointer (some ⟨B + 1, 0, none⟩)))
    (hn : W.cell? ⟨B, 0, none⟩ = some (.int .i64 n)) (hb : W.cell? ⟨B + 1, 0, none⟩ = some (.bool b)) (hD : W.heap[D]? = some (.deferred (some []))) (hB : B + 2 ≤ D)
    (hR : R (.returned (.tuple #[.int .i64 n, .bool b])) (W.putObj D (.deferred none))) :
    LeavesInM Fence.wide 0 Tryd.prog Tryd.f86 tmps R [{ target := .collected D, args := #[] }, { target := .fn (.func 100) #[.pointer (some ⟨B, 0, none⟩), .pointer (some ⟨B + 1, 0, none⟩)], args := #[] }] .returning W := by
  have hc : Ch (fun j => j = D) W (W.putObj D (.deferred none)) := (Ch.refl _ W).putObj _ _ rfl
  have hn' := hc.cell hn (by simp only; omega)
  have hb' := hc.cell hb (by simp only; omega)
  refine ⟨by simp, .inl ⟨_, _, rfl, run_takeDeferred hD, ?_⟩⟩
  refine ⟨by simp, .inr ⟨fun h => by simp [Fence.wide] at h, _, _, 100, _, rfl, by simp [invoke, go_sem]; rfl, fun _ _ => trivial, ?_⟩⟩
  refine (rec_idle _ _ _).mono ?_
  rintro e u' w' ⟨rfl, rfl, rfl⟩
  refine ⟨.tuple #[.int .i64 n, .bool b], ?_, hR⟩
  simp [results, Tryd.results86, go_sem, ht2, ht3, hn', hb']

theorem total_in (gf : Nat) (lb : Array Value) (eg : ∀ args w, (callFunc gf args).run Tryd.prog w = .ok (.enter gf args) w) (xs : List Int) (w : World)
    (hit : ∀ (J Jx : Nat → World → Prop) (W1 : World), w.heap.size + 4 = W1.heap.size → Below w.heap.size w W1 →
      (∀ k W, J k W → Below w.heap.size w W ∧ ∃ s, runS 0 (xs.take k) = some s) →
      (∀ k W W', J k W → Ch (fun _ => False) W W' → J k W') → (∀ k W W', Jx k W → Ch (fun _ => False) W W' → Jx k W') →
      Rounds Tryd.prog (w.heap.size + 3) xs.length (fun k => #[.int .i64 (nth xs k)]) (fun j => (j = w.heap.size ∨ j = w.heap.size + 1) ∨ j = w.heap.size + 3) J Jx → J 0 W1 →
      IterX Tryd.prog gf lb (w.heap.size + 3) xs.length (fun k => #[.int .i64 (nth xs k)]) (fun j => (j = w.heap.size ∨ j = w.heap.size + 1) ∨ j = w.heap.size + 3) J Jx W1) :
    Calls Tryd.prog 86 #[.func (.func gf) #[] lb] w fun e w' => e = resOf xs ∧ Below w.heap.size w w' := by
  refine (callsIn_wide (n := 0)).1 ?_
  have hmf : ∀ (fn : Fn) (first cap : Array Value) (w : World), (Instr.makeFunc fn first cap).run Tryd.prog w = .ok (.func fn first cap) w := fun _ _ _ _ => rfl
  refine callsIn_of_wp_marks Tryd.func86 rfl trivial ?_ rfl
  simp only [Tryd.ntmps86, List.size_toArray, List.length_cons, List.length_nil, Nat.reduceAdd, Nat.reduceSub, Array.replicate_succ, Array.replicate_zero, List.push_toArray, List.append_toArray, List.nil_append, List.cons_append]
  gi_wp2
  obtain ⟨w2, hw2⟩ : ∃ w2, (w.alloc (Obj.cells #[Value.int IntKind.i64 0] 3)).alloc (Obj.cells #[Value.bool true] 4) = w2 := ⟨_, rfl⟩
  have z2 : w2.heap.size = w.heap.size + 2 := by rw [← hw2]; simp
  have b2 : Below w.heap.size w w2 := by rw [← hw2]; exact ((Below.refl _ w).alloc (Nat.le_refl _) _).alloc (by simp) _
  have n2 : w2.cell? ⟨w.heap.size, 0, none⟩ = some (.int .i64 0) ∧ w2.frozen? ⟨w.heap.size, 0, none⟩ = false := by rw [← hw2]; simp [go_sem]
  have o2 : w2.cell? ⟨w.heap.size + 1, 0, none⟩ = some (.bool true) ∧ w2.frozen? ⟨w.heap.size + 1, 0, none⟩ = false := by rw [← hw2]; simp [go_sem]
  rw [hw2]
  clear hw2
  refine wpIn_range (gf := gf) (lb := lb) rfl eg xs.length (fun k => #[.int .i64 (nth xs k)]) (fun _ => rfl) (fun j => j = w.heap.size ∨ j = w.heap.size + 1) (fun _ => False)
    (by rw [z2]; intro k hk; omega) (fun _ h => h.elim)
    (fun k W => Below w.heap.size w W ∧ ∃ s, runS 0 (xs.take k) = some s ∧ W.cell? ⟨w.heap.size, 0, none⟩ = some (.int .i64 s) ∧ W.frozen? ⟨w.heap.size, 0, none⟩ = false ∧ W.cell? ⟨w.heap.size + 1, 0, none⟩ = some (.bool true) ∧ W.frozen? ⟨w.heap.size + 1, 0, none⟩ = false)
    (fun c k W => c = .exit 0 ∧ Below w.heap.size w W ∧ runS 0 (xs.take k) = none ∧ W.cell? ⟨w.heap.size, 0, none⟩ = some (.int .i64 0) ∧ W.frozen? ⟨w.heap.size, 0, none⟩ = false ∧ W.cell? ⟨w.heap.size + 1, 0, none⟩ = some (.bool false) ∧ W.frozen? ⟨w.heap.size + 1, 0, none⟩ = false)
    ?hI ?hIx ⟨b2, 0, rfl, n2.1, n2.2, o2.1, o2.2⟩
    (fun k a' _ => a' = { tmps := #[.func (.func gf) #[] lb, undef, .pointer (some ⟨w.heap.size, 0, none⟩), .pointer (some ⟨w.heap.size + 1, 0, none⟩), .int .i64 (nth xs k),
      .func (.func 100) #[] #[.pointer (some ⟨w.heap.size, 0, none⟩), .pointer (some ⟨w.heap.size + 1, 0, none⟩)], .func (.func gf) #[] lb, .int .i64 (nth xs k), undef, undef, undef, undef, undef, undef, undef, undef, undef, undef], defers := [] })
    (fun _ _ _ _ h _ => h) ?hit ?assign ?body ?done ?stop
  case hI =>
    rintro k W W' ⟨h1, s, h2, h3, h4, h5, h6⟩ hc
    have t1 : ¬ (False ∨ w.heap.size = w2.heap.size ∨ w.heap.size = w2.heap.size + 1) := by simp only [false_or]; omega
    have t2 : ¬ (False ∨ w.heap.size + 1 = w2.heap.size ∨ w.heap.size + 1 = w2.heap.size + 1) := by simp only [false_or]; omega
    exact ⟨h1.trans (hc.below (by intro k hk; simp only [false_or]; omega) h1.size), s, h2, hc.cell h3 t1, (hc.frozenCell h3 t1).trans h4, hc.cell h5 t2, (hc.frozenCell h5 t2).trans h6⟩
  case hIx =>
    rintro c k W W' ⟨h0, h1, h2, h3, h4, h5, h6⟩ hc
    have t1 : ¬ (False ∨ w.heap.size = w2.heap.size ∨ w.heap.size = w2.heap.size + 1) := by simp only [false_or]; omega
    have t2 : ¬ (False ∨ w.heap.size + 1 = w2.heap.size ∨ w.heap.size + 1 = w2.heap.size + 1) := by simp only [false_or]; omega
    exact ⟨h0, h1.trans (hc.below (by intro k hk; simp only [false_or]; omega) h1.size), h2, hc.cell h3 t1, (hc.frozenCell h3 t1).trans h4, hc.cell h5 t2, (hc.frozenCell h5 t2).trans h6⟩
  case hit =>
    intro J Jx W1 h1 h2 h3 h4 h5 h6 h7 h8
    rw [z2] at h1 h7 ⊢
    exact hit J Jx W1 (by omega) ⟨h2.os.trans b2.os, h2.tape.trans b2.tape, h2.output.trans b2.output, by omega, fun k hk => (h2.block k (by omega)).trans (b2.block k hk)⟩
      (fun k W h => ⟨(h3 k W h).1, (h3 k W h).2.choose, (h3 k W h).2.choose_spec.1⟩) h5 h6 h7 h8
  case assign =>
    intro k W K hi hk hK
    gi_wp2
    exact hK _ _ rfl (Ch.refl _ _) hi
  case body =>
    rintro k a' W ⟨h1, s, h2, h3, h4, h5, h6⟩ hk rfl hz
    have ht := take_succ_getD xs k hk
    have hrun : runS 0 (xs.take (k + 1)) = if addB s (nth xs k) then some (addN s (nth xs k)) else none := by rw [ht, runS_snoc, h2]; rfl
    have H2 := Lib.hid h2
    have HR := Lib.hid hrun
    clear h2 hrun ht
    cases hb : addB s (nth xs k)
    · have hn := addN_f hb
      gi_wp2_with (refine ⟨trivial, rfl, ?_⟩; gi_at_call 88; refine (CallsIn.inRound _ (callsIn_wide.2 (add_any _ _ _))).mono ?_; rintro e w' ⟨rfl, rfl⟩)
      have hr := HR.out
      rw [hb] at hr
      exact ⟨((Ch.refl _ W).setCell _ _ (.inl (.inl rfl))).setCell _ _ (.inl (.inr rfl)), rfl, (h1.setCell (Nat.le_refl _) _).setCell (by simp) _, hr, by simp [go_sem, h3], by simp [go_sem, h4], by simp [go_sem, h5], by simp [go_sem, h6]⟩
    · gi_wp2_with (refine ⟨trivial, rfl, ?_⟩; gi_at_call 88; refine (CallsIn.inRound _ (callsIn_wide.2 (add_any _ _ _))).mono ?_; rintro e w' ⟨rfl, rfl⟩)
      have hr := HR.out
      rw [hb] at hr
      exact ⟨((Ch.refl _ W).setCell _ _ (.inl (.inl rfl))).setCell _ _ (.inl (.inr rfl)), (h1.setCell (Nat.le_refl _) _).setCell (by simp) _, _, hr, by simp [go_sem, h3], by simp [go_sem, h4], by simp [go_sem, h5], by simp [go_sem, h6]⟩
  case done =>
    rintro W ⟨h1, s, h2, h3, h4, h5, h6⟩ hD
    have H2 := Lib.hid h2
    clear h2
    gi_wp2
    gi_region
    all_goals
      gi_wp2
      have h2 := H2.out
      rw [List.take_length] at h2
      have hc : Ch (fun j => j = w.heap.size ∨ j = w.heap.size + 1) W ((W.setCell ⟨w.heap.size, 0, none⟩ (Value.int IntKind.i64 s)).setCell ⟨w.heap.size + 1, 0, none⟩ (Value.bool true)).drew := (((Ch.refl _ W).setCell _ _ (.inl (.inl rfl))).setCell _ _ (.inl (.inr rfl))).drew
      refine total_leaves _ w.heap.size w2.heap.size s true _ _ rfl rfl (by simp [go_sem, h3]) (by simp [go_sem, h5]) (hc.obj hD (by omega)) (by omega) ⟨?_, ?_⟩
      · unfold resOf; rw [h2]; rfl
      · exact h1.trans ((hc.mono (T' := fun j => j = w.heap.size ∨ j = w.heap.size + 1 ∨ j = w2.heap.size) (by intro k _ h; omega)).putObj _ _ (.inr (.inr rfl)) |>.below (by intro k hk; omega) h1.size)
  case stop =>
    rintro c k W hk ⟨rfl, h1, h2, h3, h4, h5, h6⟩ hD
    have H2 := Lib.hid h2
    clear h2
    gi_wp2
    gi_region
    all_goals
      gi_wp2
      have h2 := runS_take_none H2.out
      have hc : Ch (fun j => j = w.heap.size ∨ j = w.heap.size + 1) W ((W.setCell ⟨w.heap.size, 0, none⟩ (Value.int IntKind.i64 0)).setCell ⟨w.heap.size + 1, 0, none⟩ (Value.bool false)).drew := (((Ch.refl _ W).setCell _ _ (.inl (.inl rfl))).setCell _ _ (.inl (.inr rfl))).drew
      refine total_leaves _ w.heap.size w2.heap.size 0 false _ _ rfl rfl (by simp [go_sem, h3]) (by simp [go_sem, h5]) (hc.obj hD (by omega)) (by omega) ⟨?_, ?_⟩
      · unfold resOf; rw [h2]; rfl
      · exact h1.trans ((hc.mono (T' := fun j => j = w.heap.size ∨ j = w.heap.size + 1 ∨ j = w2.heap.size) (by intro k _ h; omega)).putObj _ _ (.inr (.inr rfl)) |>.below (by intro k hk; omega) h1.size)

end Go.Proofs.YtihomapbncnhaaaDoor
/- The contracts of demand's terms: how many jobs, and how much work may come in so many ticks; the reference's likewise; the law's alive. -/
namespace Go.Proofs.YtihomapbncnhaaaDoor
open Go.RowKit

def jobsB (P O t : Int) : Bool := lessB t O && upB (lessN t O) P
def jobsN (P O t : Int) : Int := if lessB t O then upN (lessN t O) P else 0
def workB (P C O K t : Int) : Bool := jobsB P O t && (mulB (jobsN P O t) C && addB (mulN (jobsN P O t) C) K)
def workN (P C O K t : Int) : Int := if jobsB P O t && mulB (jobsN P O t) C then addN (mulN (jobsN P O t) C) K else 0

theorem jobs_any (P C O K t : Int) (w : World) : Calls Tryd.prog 110 #[.agg #[.int .i64 P, .int .i64 C, .int .i64 O, .int .i64 K], .int .i64 t] w fun e w' => e = .returned (.tuple #[.int .i64 (jobsN P O t), .bool (jobsB P O t)]) ∧ Below w.heap.size w w' := by
  unfold jobsN jobsB
  have h1 := Lib.hid (fun wx => less_any t O wx)
  have h2 := Lib.hid (fun wx => up_any (lessN t O) P wx)
  generalize lessN t O = n at h1 h2 ⊢
  generalize upN n P = m at h2 ⊢
  generalize upB n P = c at h2 ⊢
  have HB := Lib.hid (show Below w.heap.size w (w.alloc (.cells #[.int .i64 P, .int .i64 C, .int .i64 O, .int .i64 K] 120)) from (Below.refl _ _).alloc (Nat.le_refl _) _)
  generalize lessB t O = q at h1 ⊢
  cases q
  all_goals
    go_enter Tryd.func110, Tryd.ntmps110
    go_wp2_with (first
      | (go_at_call 111; refine (h1.out _).mono ?_; rintro e w' ⟨rfl, rfl⟩)
      | (go_at_call 87; refine (h2.out _).mono ?_; rintro e w' ⟨rfl, rfl⟩)
      | fail)
    go_ret2
    exact ⟨by simp, HB.out⟩

theorem twork_any (P C O K t : Int) (w : World) : Calls Tryd.prog 109 #[.agg #[.int .i64 P, .int .i64 C, .int .i64 O, .int .i64 K], .int .i64 t] w fun e w' => e = .returned (.tuple #[.int .i64 (workN P C O K t), .bool (workB P C O K t)]) ∧ Below w.heap.size w w' := by
  unfold workN workB
  have h1 := Lib.hid (fun wx => jobs_any P C O K t wx)
  have h2 := Lib.hid (fun wx => mul_any (jobsN P O t) C wx)
  have h3 := Lib.hid (fun wx => add_any (mulN (jobsN P O t) C) K wx)
  generalize jobsN P O t = n at h1 h2 h3 ⊢
  generalize mulN n C = m at h2 h3 ⊢
  generalize addN m K = a at h3 ⊢
  generalize addB m K = b at h3 ⊢
  obtain ⟨Z, hZ⟩ : ∃ Z, Z = w.heap.size := ⟨_, rfl⟩
  have HB := Lib.hid (show Below w.heap.size w (w.alloc (.cells #[.int .i64 P, .int .i64 C, .int .i64 O, .int .i64 K] 120)) ∧ RowAt (w.alloc (.cells #[.int .i64 P, .int .i64 C, .int .i64 O, .int .i64 K] 120)) Z 120 #[.int .i64 P, .int .i64 C, .int .i64 O, .int .i64 K] from by rw [hZ]; exact ⟨(Below.refl _ _).alloc (Nat.le_refl _) _, RowAt.mk _ _ _⟩)
  generalize jobsB P O t = q1 at h1 ⊢
  generalize mulB n C = q2 at h2 ⊢
  go_enter Tryd.func109, Tryd.ntmps109
  go_upto_region 1 with fail
  rw [← hZ]
  generalize hw2 : World.alloc _ _ = w2 at HB ⊢
  clear hw2
  clear hZ
  have c0 := HB.out.2.cell 0
  have c1 := HB.out.2.cell 1
  have c2 := HB.out.2.cell 2
  have c3 := HB.out.2.cell 3
  cases q1
  · go_wp2_with (first
      | (refine wpList_load_row rfl 120 (.tmp 2) rfl Z rfl 120 #[.int .i64 P, .int .i64 C, .int .i64 O, .int .i64 K] (0, 0) _ HB.out.2 Tryd.underlying120 rfl (by kernel_rfl) ?_)
      | (go_at_call 110; refine (h1.out _).mono ?_; rintro e w3 ⟨rfl, b3⟩; have H3 := Lib.hid (HB.out.1.trans (b3.mono HB.out.1.size)); clear b3)
      | fail)
    go_ret2
    exact ⟨by simp, H3.out⟩
  cases q2
  all_goals
    go_wp2_with (first
      | (refine wpList_load_row rfl 120 (.tmp 2) rfl Z rfl 120 #[.int .i64 P, .int .i64 C, .int .i64 O, .int .i64 K] (0, 0) _ HB.out.2 Tryd.underlying120 rfl (by kernel_rfl) ?_)
      | (go_at_call 110; refine (h1.out _).mono ?_; rintro e w3 ⟨rfl, b3⟩; have H3 := Lib.hid (HB.out.1.trans (b3.mono HB.out.1.size)); have c1 := (HB.out.2.new b3).cell 1; have c3 := (HB.out.2.new b3).cell 3; clear b3)
      | (go_at_call 59; refine (h2.out _).mono ?_; rintro e w' ⟨rfl, rfl⟩)
      | (go_at_call 88; refine (h3.out _).mono ?_; rintro e w' ⟨rfl, rfl⟩)
      | fail)
    go_ret2
    exact ⟨by simp, H3.out⟩
/-- The reference's. -/
theorem rwork_any (P C O K t : Int) (w : World) : Calls Tryd.prog 98 #[.agg #[.int .i64 P, .int .i64 C, .int .i64 O, .int .i64 K], .int .i64 t] w fun e w' => e = .returned (.tuple #[.int .i64 (workN P C O K t), .bool (workB P C O K t)]) ∧ Below w.heap.size w w' := by
  unfold workN workB jobsN jobsB
  have h0 := Lib.hid (fun wx => refless_any t O wx)
  have h1 := Lib.hid (fun wx => refup_any (lessN t O) P wx)
  generalize lessN t O = l at h0 h1 ⊢
  generalize lessB t O = q0 at h0 ⊢
  have h2 := Lib.hid (fun wx => refmul_any (upN l P) C wx)
  have h3 := Lib.hid (fun wx => refadd_any (mulN (upN l P) C) K wx)
  generalize upN l P = n at h1 h2 h3 ⊢
  generalize upB l P = q1 at h1 ⊢
  cases q0
  case true =>
    rw [if_pos rfl]
    generalize mulN n C = m at h2 h3 ⊢
    generalize mulB n C = q2 at h2 ⊢
    generalize addN m K = a at h3 ⊢
    generalize addB m K = b at h3 ⊢
    have HB := Lib.hid (show Below w.heap.size w (w.alloc (.cells #[.int .i64 P, .int .i64 C, .int .i64 O, .int .i64 K] 88)) from (Below.refl _ _).alloc (Nat.le_refl _) _)
    cases q1
    case true =>
      cases q2
      all_goals
        go_enter Tryd.func98, Tryd.ntmps98
        go_wp2_with (first
          | (go_at_call 105; refine (h0.out _).mono ?_; rintro e w' ⟨rfl, rfl⟩)
          | (go_at_call 106; refine (h1.out _).mono ?_; rintro e w' ⟨rfl, rfl⟩)
          | (go_at_call 30; refine (h2.out _).mono ?_; rintro e w' ⟨rfl, rfl⟩)
          | (go_at_call 75; refine (h3.out _).mono ?_; rintro e w' ⟨rfl, rfl⟩)
          | fail)
        go_ret2
        exact ⟨by simp, HB.out⟩
    case false =>
      go_enter Tryd.func98, Tryd.ntmps98
      go_wp2_with (first
        | (go_at_call 105; refine (h0.out _).mono ?_; rintro e w' ⟨rfl, rfl⟩)
        | (go_at_call 106; refine (h1.out _).mono ?_; rintro e w' ⟨rfl, rfl⟩)
        | fail)
      go_ret2
      exact ⟨by simp, HB.out⟩
  case false =>
    have HB := Lib.hid (show Below w.heap.size w (w.alloc (.cells #[.int .i64 P, .int .i64 C, .int .i64 O, .int .i64 K] 88)) from (Below.refl _ _).alloc (Nat.le_refl _) _)
    go_enter Tryd.func98, Tryd.ntmps98
    go_wp2_with (first
      | (go_at_call 105; refine (h0.out _).mono ?_; rintro e w' ⟨rfl, rfl⟩)
      | fail)
    go_ret2
    exact ⟨by simp, HB.out⟩
end Go.Proofs.YtihomapbncnhaaaDoor
/- The contracts of demand's Work of several terms, and of the reference's Sum. -/
namespace Go.Proofs.YtihomapbncnhaaaDoor
open Go.RowKit

structure Tm where
  per : Int
  cost : Int
  off : Int
  car : Int
instance : Inhabited Tm := ⟨⟨0, 0, 0, 0⟩⟩
def tmC (t : Tm) : List Value := [.int .i64 t.per, .int .i64 t.cost, .int .i64 t.off, .int .i64 t.car]
def tmB (t : Tm) (n : Int) : Bool := workB t.per t.cost t.off t.car n
def tmN (t : Tm) (n : Int) : Int := workN t.per t.cost t.off t.car n
/-- What the sum is handed: a term's work, or no number. -/
def wI (n : Int) (t : Tm) : Int := if tmB t n then tmN t n else -1
structure TermsAt (w : World) (V : Nat → Prop) (S : Src) (l : List Tm) : Prop where
  sl : SlAt w V S l.length
  at_ : ∀ k, k < l.length → At w S.b (S.o + k * 4) (tmC (l.getD k default))
theorem TermsAt.keep {V : Nat → Prop} {w w' : World} {S : Src} {l : List Tm} (h : TermsAt w V S l) (c : Ch V w w') : TermsAt w' V S l :=
  ⟨h.sl.keep c, fun k hk => (h.at_ k hk).keep c (h.sl.at_ (by omega)).2.2⟩
theorem TermsAt.new {V : Nat → Prop} {w w' : World} {S : Src} {l : List Tm} (h : TermsAt w V S l) (hb : Below w.heap.size w w') : TermsAt w' V S l := h.keep (Ch.new hb)

theorem equalIn_func_nil (d gf : Nat) (lb : Array Value) (w : World) : (Op.equalIn (d + 1) 93 (.func (.func gf) #[] lb) .nilFunc).run Tryd.prog w = .ok false w := by
  have ht : Tryd.prog.underlying 93 = some (.func #[72] #[] false) := by kernel_rfl
  simp [Op.equalIn, run_underlying ht]
theorem eql_func_nil (gf : Nat) (lb : Array Value) (w : World) : (Go.binOp .eql 93 (.func (.func gf) #[] lb) .nilFunc).run Tryd.prog w = .ok (.bool false) w := by
  have h : (Op.equal 93 (.func (.func gf) #[] lb) .nilFunc).run Tryd.prog w = .ok false w := equalIn_func_nil 9999 gf lb w
  simp [Go.binOp, h]
theorem sum_of (gf : Nat) (lb : Array Value) (xs : List Int) (w : World) (h : Calls Tryd.prog 86 #[.func (.func gf) #[] lb] w fun e w' => e = resOf xs ∧ Below w.heap.size w w') :
    Calls Tryd.prog 54 #[.func (.func gf) #[] lb] w fun e w' => e = resOf xs ∧ Below w.heap.size w w' := by
  unfold resOf at h ⊢
  have hne := eql_func_nil gf lb
  go_enter Tryd.func54, Tryd.ntmps54
  go_wp2_with (go_at_call 86; refine h.mono ?_; rintro e w' ⟨rfl, hb⟩)
  go_ret2
  exact ⟨rfl, hb⟩

set_option maxRecDepth 100000 in
/-- demand.Work's closure. -/
theorem dwork_in (l Bl Bt b o c : Nat) (sp : Option Addr) (L : List Tm) (n : Int) (T : Nat → Prop) (J Jx : Nat → World → Prop) (W : World)
    (hsm : L.length ≤ 9223372036854775807) (hsp : 0 < L.length → sp = some ⟨b, o, none⟩)
    (hJ : ∀ k W W', J k W → Ch (fun _ => False) W W' → J k W')
    (hbox : ∀ k W', J k W' → W'.cell? ⟨Bl, 0, none⟩ = some (.slice sp L.length c) ∧ W'.cell? ⟨Bt, 0, none⟩ = some (.int .i64 n))
    (hcell : ∀ k W', J k W' → k < L.length → At W' b (o + k * 4) (tmC (L.getD k default)))
    (hR : Rounds Tryd.prog l L.length (fun k => #[.int .i64 (nth (L.map (wI n)) k)]) T J Jx) (h0 : J 0 W) :
    IterX Tryd.prog 108 #[.pointer (some ⟨Bl, 0, none⟩), .pointer (some ⟨Bt, 0, none⟩)] l L.length (fun k => #[.int .i64 (nth (L.map (wI n)) k)]) T J Jx W := by
  refine callsIn_of_wp Tryd.func108 rfl trivial ?_ rfl
  simp only [Tryd.ntmps108, List.size_toArray, List.length_cons, List.length_nil, Nat.reduceAdd, Nat.reduceSub, Array.replicate_succ, Array.replicate_zero, List.push_toArray, List.append_toArray, List.nil_append, List.cons_append]
  have hb0 := (hbox 0 W h0).1
  obtain ⟨N, hN⟩ : ∃ N, L.length = N := ⟨_, rfl⟩
  have HB := Lib.hid hbox
  have HC := Lib.hid hcell
  have HS := Lib.hid hsp
  have HJ := Lib.hid hJ
  have HRR := Lib.hid hR
  rw [hN] at HB
  rw [hN] at HS
  rw [hN] at HC HRR hsm
  have hNth := Lib.hid (show ∀ k, k < N → nth (L.map (wI n)) k = wI n (L.getD k default) from fun k hk => by
    have hk' : k < L.length := by omega
    simp [nth, hk'])
  rw [hN]
  rw [hN] at hb0
  clear hbox hcell hsp hJ hR hN
  gi_wp2
  clear hb0
  gi_loopw [10] (fun i wr => ∃ k : Nat, k ≤ N ∧ i = .int .i64 k ∧ J k wr) (fun i _ => N - (intOf i).toNat)
  case atStart => exact ⟨0, Nat.zero_le _, rfl, h0⟩
  case round =>
    obtain ⟨k, hk, rfl, hj⟩ := hrel
    by_cases hlt : k < N
    · have hc := HC.out k wr hj hlt
      have hna := hNth.out k hlt
      obtain ⟨t, ht⟩ : ∃ t, L.getD k default = t := ⟨_, rfl⟩
      rw [ht] at hc hna
      obtain ⟨P, C, O, K⟩ := t
      have hT := Lib.hid (fun wx => twork_any P C O K n wx)
      have hna3 : wI n ⟨P, C, O, K⟩ = if workB P C O K n then workN P C O K n else -1 := rfl
      rw [hna3] at hna
      clear hna3
      generalize workN P C O K n = m at hT hna
      generalize workB P C O K n = q at hT hna
      obtain rfl := HS.out (by omega)
      have c0 : wr.cell? ⟨b, o + k * 4, none⟩ = some (.int .i64 P) := hc 0 _ rfl
      have c1 : wr.cell? ⟨b, o + k * 4 + 1, none⟩ = some (.int .i64 C) := hc 1 _ rfl
      have c2 : wr.cell? ⟨b, o + k * 4 + 2, none⟩ = some (.int .i64 O) := hc 2 _ rfl
      have c3 : wr.cell? ⟨b, o + k * 4 + 3, none⟩ = some (.int .i64 K) := hc 3 _ rfl
      have cb0 := (HB.out k wr hj).2
      have cb : (wr.alloc (.cells #[.int .i64 P, .int .i64 C, .int .i64 O, .int .i64 K] 120)).cell? ⟨Bt, 0, none⟩ = some (.int .i64 n) := (((Below.refl _ wr).alloc (Nat.le_refl _) _).cell (p := ⟨Bt, 0, none⟩) (World.block_lt_of_cell? _ _ cb0)).trans cb0
      clear cb0
      have hk2 : (k : Int) < (N : Int) := by omega
      have hk3 : (k : Int) + 1 ≤ 9223372036854775807 := by omega
      have HX := Lib.hid hj
      have HN := Lib.hid hna
      clear hc ht hj hna
      cases q
      · have HN1 := Lib.hid (show nth (L.map (wI n)) k = -1 from HN.out)
        clear HN HS
        gi_wp2_with (first
          | (refine ⟨trivial, rfl, ?_⟩; gi_at_call 109; refine (callsIn_wide.2 (hT.out _)).mono ?_; rintro e w4 ⟨rfl, b4⟩; have hR4 := HRR.out k w4 (HJ.out _ _ _ HX.out ((Ch.new ((Below.refl _ _).alloc (Nat.le_refl _) _)).trans (Ch.new b4))) hlt; dsimp only at hR4; rw [HN1.out] at hR4; obtain ⟨fn, tmps, assign, body, hy, hRo⟩ := hR4; clear c0 c1 c2 c3 cb b4)
          | fail)
        refine ⟨rfl, hRo.mono ?_⟩
        rintro e W3 (⟨rfl, hJ3, hc3⟩ | ⟨rfl, hJx3⟩)
        · gi_wp2
          go_roundw
          case rel => exact ⟨k + 1, by omega, by go_num, hJ3⟩
          case measure => simp [intOf]; omega
        · gi_wp2
          refine bodyPost_ret (results_none rfl _ _ _) rfl ?_
          exact ⟨⟨_, rfl⟩, .inr ⟨k + 1, by omega, hJx3⟩⟩
      · have HN1 := Lib.hid (show nth (L.map (wI n)) k = m from HN.out)
        clear HN HS
        gi_wp2_with (first
          | (refine ⟨trivial, rfl, ?_⟩; gi_at_call 109; refine (callsIn_wide.2 (hT.out _)).mono ?_; rintro e w4 ⟨rfl, b4⟩; have hR4 := HRR.out k w4 (HJ.out _ _ _ HX.out ((Ch.new ((Below.refl _ _).alloc (Nat.le_refl _) _)).trans (Ch.new b4))) hlt; dsimp only at hR4; rw [HN1.out] at hR4; obtain ⟨fn, tmps, assign, body, hy, hRo⟩ := hR4; clear c0 c1 c2 c3 cb b4)
          | fail)
        refine ⟨rfl, hRo.mono ?_⟩
        rintro e W3 (⟨rfl, hJ3, hc3⟩ | ⟨rfl, hJx3⟩)
        · gi_wp2
          go_roundw
          case rel => exact ⟨k + 1, by omega, by go_num, hJ3⟩
          case measure => simp [intOf]; omega
        · gi_wp2
          refine bodyPost_ret (results_none rfl _ _ _) rfl ?_
          exact ⟨⟨_, rfl⟩, .inr ⟨k + 1, by omega, hJx3⟩⟩
    · obtain rfl : k = N := by omega
      gi_wp2
      go_end0
      exact ⟨⟨_, rfl⟩, .inl hj⟩
end Go.Proofs.YtihomapbncnhaaaDoor
/- The contracts of demand's Work of several terms, of the reference's Sum and All, and of the law's Plain. -/
namespace Go.Proofs.YtihomapbncnhaaaDoor
open Go.RowKit

theorem dwork_any {w : World} {V : Nat → Prop} {S : Src} {L : List Tm} (h : TermsAt w V S L) (hl : L.length ≤ 1000) (n : Int) :
    Calls Tryd.prog 107 #[.int .i64 n, .slice S.sp L.length S.c] w fun e w' => e = resOf (L.map (wI n)) ∧ Below w.heap.size w w' := by
  have hmf : ∀ (fn : Fn) (first cap : Array Value) (w : World), (Instr.makeFunc fn first cap).run Tryd.prog w = .ok (.func fn first cap) w := fun _ _ _ _ => rfl
  obtain ⟨Z, hZ⟩ : ∃ Z, Z = w.heap.size := ⟨_, rfl⟩
  have HS := Lib.hid (show ∀ w2, Below w.heap.size w w2 → RowAt w2 Z 3 #[.int .i64 n] → RowAt w2 (Z + 1) 119 #[.slice S.sp L.length S.c] →
      Calls Tryd.prog 54 #[.func (.func 108) #[] #[.pointer (some ⟨Z + 1, 0, none⟩), .pointer (some ⟨Z, 0, none⟩)]] w2 fun e w' => e = resOf (L.map (wI n)) ∧ Below w2.heap.size w2 w' from fun w2 hb r0 r1 => by
    refine sum_of 108 _ _ w2 (total_in 108 _ (enters_of Tryd.func108 (by kernel_rfl) rfl) (L.map (wI n)) w2 ?_)
    intro J Jx W1 _ _ hJ hJ2 _ hR h0
    rw [List.length_map] at hR ⊢
    exact dwork_in _ (Z + 1) Z S.b S.o S.c S.sp L n _ J Jx W1 (by omega) (fun h0 => (h.sl.at_ h0).1) hJ2
      (fun k W' hj => ⟨(r1.new (hJ k W' hj).1).cell 0, (r0.new (hJ k W' hj).1).cell 0⟩)
      (fun k W' hj hk => ((h.new hb).new (hJ k W' hj).1).at_ k hk) hR h0)
  unfold resOf at HS ⊢
  clear h hl
  generalize resN (runS 0 (L.map (wI n))) = rn at HS ⊢
  generalize resB (runS 0 (L.map (wI n))) = rb at HS ⊢
  generalize L.length = N at HS ⊢
  generalize S.sp = sp at HS ⊢
  generalize S.c = c at HS ⊢
  go_enter Tryd.func107, Tryd.ntmps107
  go_upto_region 1 with fail
  rw [← hZ]
  generalize hw2 : World.alloc _ _ = w2
  have HB := Lib.hid (show Below w.heap.size w w2 ∧ RowAt w2 Z 3 #[.int .i64 n] ∧ RowAt w2 (Z + 1) 119 #[.slice sp N c] by rw [← hw2, hZ]; exact two_alloc (Below.refl _ _))
  clear hw2 hZ
  go_wp2_with (go_at_call 54; refine (HS.out _ HB.out.1 HB.out.2.1 HB.out.2.2).mono ?_; rintro e w3 ⟨rfl, b3⟩; have H3 := Lib.hid (HB.out.1.trans (b3.mono HB.out.1.size)); clear b3)
  go_ret2
  exact ⟨rfl, H3.out⟩

theorem refsum_any (b off cap : Nat) (sp : Option Addr) (xs : List Int) (w : World)
    (hcap : xs.length ≤ 9223372036854775807) (hsp : 0 < xs.length → sp = some ⟨b, off, none⟩)
    (hcell : ∀ k, k < xs.length → w.cell? ⟨b, off + k, none⟩ = some (.int .i64 (nth xs k))) :
    Calls Tryd.prog 99 #[.slice sp xs.length cap] w fun e w' => e = resOf xs ∧ w = w' := by
  have HC := Lib.hid hcell
  have HS := Lib.hid hsp
  clear hcell hsp
  go_enter Tryd.func99, Tryd.ntmps99
  go_wp2
  go_loop [4, 5] (fun n i => ∃ k : Nat, ∃ s : Int, k ≤ xs.length ∧ i = .int .i64 k ∧ n = .int .i64 s ∧ runS 0 (xs.take k) = some s) (fun _ i => xs.length - (intOf i).toNat)
  case atStart => exact ⟨0, 0, Nat.zero_le _, rfl, rfl, rfl⟩
  case round =>
    obtain ⟨k, s, hk, rfl, rfl, hs⟩ := hrel
    have H2 := Lib.hid hs
    clear hs
    by_cases hlt : k < xs.length
    · have hc := HC.out k hlt
      obtain rfl := HS.out (by omega)
      have ht := take_succ_getD xs k hlt
      have hrun : runS 0 (xs.take (k + 1)) = if addB s (nth xs k) then some (addN s (nth xs k)) else none := by rw [ht, runS_snoc, H2.out]; rfl
      have HR := Lib.hid hrun
      clear hrun ht
      cases hb : addB s (nth xs k)
      · go_wp2_with (go_at_call 75; refine (refadd_any _ _ _).mono ?_; rintro e w' ⟨rfl, rfl⟩)
        go_ret2
        have hr := HR.out
        rw [hb] at hr
        exact ⟨by unfold resOf; rw [runS_take_none hr]; rfl, rfl⟩
      · go_wp2_with (go_at_call 75; refine (refadd_any _ _ _).mono ?_; rintro e w' ⟨rfl, rfl⟩)
        go_round
        case rel => exact ⟨k + 1, addN s (nth xs k), by omega, by go_num, rfl, by rw [HR.out, hb]; rfl⟩
        case measure => simp [intOf]; omega
    · obtain rfl : k = xs.length := by omega
      go_wp2
      go_ret2
      have h2 := H2.out
      rw [List.take_length] at h2
      exact ⟨by unfold resOf; rw [h2]; rfl, rfl⟩

theorem runS_no {xs : List Int} {k : Nat} (hk : k < xs.length) (h : nth xs k = -1) : runS 0 xs = none := by
  cases hs : runS 0 (xs.take k) with
  | none => exact runS_take_none hs
  | some s =>
    refine runS_take_none (k := k + 1) ?_
    rw [take_succ_getD xs k hk, runS_snoc, hs, h]
    have : addB s (-1) = false := by unfold addB; rw [numB_f (a := -1) (by omega)]; simp
    simp [this]
theorem tm_nth (n : Int) (L : List Tm) (k : Nat) (hk : k < L.length) : nth (L.map (wI n)) k = wI n (L.getD k default) := by simp [nth, hk]
theorem take_succ_at {α : Type} [Inhabited α] (l : List α) (k : Nat) (h : k < l.length) : l.take (k + 1) = l.take k ++ [l.getD k default] := by
  rw [List.take_succ_eq_append_getElem h]; simp [h]
theorem cell_one_new (w : World) (x : Value) (t : TypeId) : ∀ (j : Nat) (u : Value), [x][j]? = some u → (w.alloc (.cells #[x] t)).cell? ((⟨w.heap.size, 0, none⟩ : Addr).add j) = some u :=
  World.news_of_block (World.alloc_heap_new w (.cells #[x] t))
set_option maxRecDepth 100000 in
set_option maxHeartbeats 2000000 in
theorem rall_any {w : World} {V : Nat → Prop} {S : Src} {L : List Tm} (h : TermsAt w V S L) (hl : L.length ≤ 1000) (n : Int) :
    Calls Tryd.prog 74 #[.slice S.sp L.length S.c, .int .i64 n] w fun e w' => e = resOf (L.map (wI n)) ∧ Below w.heap.size w w' := by
  obtain ⟨i0, hi, hz0, hz1, hz2⟩ := info_parts (show (Tryd.prog.info? 3).map (fun i => (i.zero, i.size, i.bytes)) = some (some (.int .i64 0), 1, 8) from by kernel_rfl)
  have HCell := Lib.hid (fun (k : Nat) (hk : k < L.length) (wx : World) (hb : Below w.heap.size w wx) => (h.new hb).at_ k hk)
  have HSp := Lib.hid (fun (h0 : 0 < L.length) => (h.sl.at_ h0).1)
  have HNth := Lib.hid (tm_nth n L)
  have HTk := Lib.hid (fun (k : Nat) (hk : k < L.length) => take_succ_getD (L.map (wI n)) k (by simpa using hk))
  have HNo := Lib.hid (fun (k : Nat) (hk : k < L.length) (hx : nth (L.map (wI n)) k = -1) => runS_no (xs := L.map (wI n)) (by simpa using hk) hx)
  have HFin := Lib.hid (fun (W : World) (b cap : Nat) (sp : Option Addr) h1 h2 => refsum_any b 0 cap sp (L.map (wI n)) W (by rw [List.length_map]; omega) h1 h2)
  have HLen := Lib.hid (show (L.map (wI n)).length = L.length from List.length_map _)
  obtain ⟨sp, hspn⟩ : ∃ s, S.sp = s := ⟨_, rfl⟩
  obtain ⟨b, hb⟩ : ∃ s, S.b = s := ⟨_, rfl⟩
  obtain ⟨o, ho⟩ : ∃ s, S.o = s := ⟨_, rfl⟩
  obtain ⟨c, hc⟩ : ∃ s, S.c = s := ⟨_, rfl⟩
  obtain ⟨N, hN⟩ : ∃ s, L.length = s := ⟨_, rfl⟩
  obtain ⟨xs, hxs⟩ : ∃ s, L.map (wI n) = s := ⟨_, rfl⟩
  rw [hb, ho, hN] at HCell
  rw [hspn, hb, ho, hN] at HSp
  rw [hN, hxs] at HNth HTk HNo HLen
  rw [hxs] at HFin
  rw [hN] at hl
  rw [hspn, hc, hN, hxs]
  clear h hspn hb ho hc hN hxs
  go_enter Tryd.func74, Tryd.ntmps74
  go_wp2
  go_loopg [6, 7] N (fun g v u wr => ∃ k : Nat, k + g = N ∧ u = .int .i64 (k : Nat) ∧ Aside (Below w.heap.size w wr ∧ wr.ownsRow w.heap.size 3 1 v k (rowI (xs.take k))))
  case atStart => exact ⟨0, by omega, rfl, Below.refl _ _, ⟨rfl, .inl ⟨rfl, rfl⟩⟩⟩
  case round =>
    obtain ⟨k, hkg, rfl, HR⟩ := hrel
    cases gk with
    | zero =>
      obtain rfl : k = N := by omega
      obtain ⟨sq, g, cap, rfl, hsp, hc⟩ := own_ints HR.out.2 (by rw [List.length_take]; have := HLen.out; omega)
      have HF := Lib.hid (HFin.out wr g cap sq)
      have HQ := Lib.hid (And.intro hsp hc)
      have ht : xs.take k = xs := List.take_of_length_le (by have := HLen.out; omega)
      rw [ht] at HQ
      have HF2 := Lib.hid (HF.out (fun h0 => (HQ.out.1 (by have := HLen.out; omega)).1) (fun j hj => by rw [Nat.zero_add]; exact HQ.out.2 j (by have := HLen.out; omega)))
      rw [HLen.out] at HF2
      unfold resOf at HF2
      clear hsp hc HF HQ ht HFin
      go_wp2_with (first | (go_at_call 99; refine HF2.out.mono ?_; rintro e w' ⟨rfl, rfl⟩) | fail)
      go_ret2
      exact ⟨rfl, HR.out.1⟩
    | succ g1 =>
      have hk : k < N := by omega
      obtain rfl := HSp.out (by omega)
      have hc := HCell.out k hk wr HR.out.1
      have hna := HNth.out k hk
      have htk := HTk.out k hk
      have hno := HNo.out k hk
      obtain ⟨t, ht⟩ : ∃ t, L.getD k default = t := ⟨_, rfl⟩
      rw [ht] at hc hna
      obtain ⟨P, C, O, K⟩ := t
      have hT := Lib.hid (fun wx => rwork_any P C O K n wx)
      have hna3 : wI n ⟨P, C, O, K⟩ = if workB P C O K n then workN P C O K n else -1 := rfl
      rw [hna3] at hna
      clear hna3
      generalize workN P C O K n = m at hT hna
      generalize workB P C O K n = q at hT hna
      have c0 : wr.cell? ⟨b, o + k * 4, none⟩ = some (.int .i64 P) := hc 0 _ rfl
      have c1 : wr.cell? ⟨b, o + k * 4 + 1, none⟩ = some (.int .i64 C) := hc 1 _ rfl
      have c2 : wr.cell? ⟨b, o + k * 4 + 2, none⟩ = some (.int .i64 O) := hc 2 _ rfl
      have c3 : wr.cell? ⟨b, o + k * 4 + 3, none⟩ = some (.int .i64 K) := hc 3 _ rfl
      have hk2 : (k : Int) < (N : Int) := by omega
      have hk3 : (k : Int) + 1 ≤ 9223372036854775807 := by omega
      cases q with
      | false =>
        have HV := Lib.hid (hno hna)
        clear hc ht hna htk hno
        go_wp2_with (first
          | (go_at_call 98; refine (hT.out _).mono ?_; rintro e w4 ⟨rfl, b4⟩; have H4 := Lib.hid (HR.out.1.trans (b4.mono HR.out.1.size)); clear b4)
          | fail)
        go_ret2
        exact ⟨by unfold resOf; rw [HV.out]; rfl, H4.out⟩
      | true =>
        have HV := Lib.hid (show xs.take (k + 1) = xs.take k ++ [m] by rw [htk, hna]; rfl)
        clear hc ht hna htk hno
        go_wp2_with (first
          | (go_at_call 98; refine (hT.out _).mono ?_; rintro e w4 ⟨rfl, b4⟩; have H4 := Lib.hid (And.intro (HR.out.1.trans (b4.mono HR.out.1.size)) (own_below HR.out.2 b4 (Nat.le_refl _))); clear b4 c0 c1 c2 c3)
          | (at_builtin; refine wpList_append_own _ rfl (.tmp 27) (.tmp 29) 44 rfl w.heap.size 3 i0 (.int .i64 0) 1 8 Tryd.underlying44 hi hz0 hz1 hz2 rfl Nat.one_pos _ k (rowI (xs.take k)) rfl (H4.out.2.alloc _) ⟨w4.heap.size, 0, none⟩ 1 1 [.int .i64 m] rfl rfl (cell_one_new _ _ _) (by simp [Value.oneCell']) (by unfold maxLen; omega) (by omega) (by rw [World.size_alloc]; exact Nat.le_succ_of_le H4.out.1.size) ?_; intro v1 w5 hown1 hg1 _; have HO := Lib.hid (And.intro (Below.grown (Below.alloc H4.out.1 H4.out.1.size _) hg1 (by rw [World.size_alloc]; exact Nat.le_succ_of_le H4.out.1.size) (fun j e => (H4.out.2.lt j e).1)) hown1); clear hown1 hg1)
          | fail)
        go_roundg g1
        case measure => omega
        case rel => exact ⟨k + 1, by omega, by go_num, HO.out.1, by rw [HV.out, rowI_snoc]; exact HO.out.2⟩
end Go.Proofs.YtihomapbncnhaaaDoor
/- Work of terms and the least time that is enough: plain facts. No statement about the program. -/
namespace Go.Proofs.YtihomapbncnhaaaDoor
open Go.RowKit

theorem numB_iff (a : Int) : numB a = true ↔ 0 ≤ a ∧ a ≤ 1099511627776 := by simp [numB]
theorem sum_nonneg : ∀ {l : List Int}, (∀ x ∈ l, 0 ≤ x) → 0 ≤ l.sum
  | [], _ => Int.le_refl _
  | x :: r, h => by
    have h1 := h x (List.mem_cons_self ..)
    have h2 := sum_nonneg (l := r) fun y hy => h y (List.mem_cons_of_mem _ hy)
    simp only [List.sum_cons]; omega
theorem runS_iff {s : Int} : ∀ {l : List Int} {n : Int}, 0 ≤ n → n ≤ 1099511627776 → (runS n l = some s ↔ (∀ x ∈ l, 0 ≤ x) ∧ s = n + l.sum ∧ s ≤ 1099511627776)
  | [], n, h0, h1 => by
    simp only [runS, Option.some.injEq, List.sum_nil, List.not_mem_nil, false_implies, implies_true, true_and]
    constructor
    · rintro rfl; exact ⟨by omega, h1⟩
    · rintro ⟨h, _⟩; omega
  | x :: r, n, h0, h1 => by
    simp only [runS]
    by_cases hb : addB n x = true
    · rw [if_pos hb]
      have hb' := hb
      simp only [addB, Bool.and_eq_true, numB_iff] at hb'
      obtain ⟨⟨-, hx⟩, hs⟩ := hb'
      have hv : addN n x = n + x := by unfold addN; rw [if_pos (by simpa [addB] using hb)]
      rw [hv, runS_iff (l := r) hs.1 hs.2]
      simp only [List.mem_cons, forall_eq_or_imp, List.sum_cons]
      constructor
      · rintro ⟨a, b, c⟩; exact ⟨⟨hx.1, a⟩, by omega, c⟩
      · rintro ⟨⟨_, a⟩, b, c⟩; exact ⟨a, by omega, c⟩
    · rw [if_neg hb]
      constructor
      · intro h; cases h
      · rintro ⟨a, b, c⟩
        exfalso
        apply hb
        have hx := a x (List.mem_cons_self ..)
        have hr := sum_nonneg (l := r) fun y hy => a y (List.mem_cons_of_mem _ hy)
        simp only [List.sum_cons] at b
        simp only [addB, Bool.and_eq_true, numB_iff]
        omega
/-- How many jobs of a term come. -/
def jI (P O t : Int) : Int := ((if t < O then 0 else t - O) + P - 1) / P
theorem jI_nonneg {P O t : Int} (hP : 0 < P) : 0 ≤ jI P O t := Int.ediv_nonneg (by split <;> omega) (by omega)
theorem jI_le {P O t : Int} (hP : 0 < P) (hO : 0 ≤ O) (ht : 0 ≤ t) : jI P O t ≤ t := by
  unfold jI
  have hz : (if t < O then (0 : Int) else t - O) ≤ t ∧ 0 ≤ (if t < O then (0 : Int) else t - O) := by split <;> omega
  generalize (if t < O then (0 : Int) else t - O) = z at hz
  have : (z + P - 1) / P < z + 1 := Int.ediv_lt_of_lt_mul hP (by
    have h1 : 1 * P ≤ (z + 1) * P - z := by
      have := Int.mul_le_mul_of_nonneg_left (show (1 : Int) ≤ P by omega) hz.2
      rw [Int.add_mul]; omega
    have h2 : (z + 1) * P = z * P + P := by rw [Int.add_mul, Int.one_mul]
    omega)
  omega
theorem jI_mono {P O t u : Int} (hP : 0 < P) (h : t ≤ u) : jI P O t ≤ jI P O u := by
  unfold jI
  refine Int.ediv_le_ediv hP ?_
  (repeat' split) <;> omega
theorem jI_round {P O t r : Int} (hP : 0 < P) (hO : O ≤ t) (hr : 0 ≤ r) (hd : P ∣ r) : jI P O (t + r) = jI P O t + r / P := by
  obtain ⟨q, rfl⟩ := hd
  unfold jI
  rw [if_neg (by omega), if_neg (by omega), Int.mul_ediv_cancel_left _ (by omega), show t + P * q - O + P - 1 = (t - O + P - 1) + P * q by omega, Int.add_mul_ediv_left _ _ (by omega)]
theorem tmB_iff (x : Tm) (t : Int) : tmB x t = true ↔ ((0 ≤ t ∧ t ≤ 1099511627776) ∧ (0 ≤ x.off ∧ x.off ≤ 1099511627776) ∧ (0 < x.per ∧ x.per ≤ 1099511627776) ∧ (0 ≤ x.cost ∧ x.cost ≤ 1099511627776) ∧ (0 ≤ x.car ∧ jI x.per x.off t * x.cost + x.car ≤ 1099511627776)) := by
  obtain ⟨P, C, O, K⟩ := x
  simp only [tmB, workB, jobsB, jobsN, Bool.and_eq_true]
  constructor
  · rintro ⟨⟨h1, h2⟩, h3, h4⟩
    rw [if_pos h1] at h3 h4
    have hl := h1
    simp only [lessB, Bool.and_eq_true, numB_iff] at hl
    have hlN : lessN t O = if t < O then 0 else t - O := by unfold lessN; rw [if_pos (by simpa [lessB] using h1)]
    have hu := h2
    simp only [upB, Bool.and_eq_true, numB_iff, decide_eq_true_eq] at hu
    have huN : upN (lessN t O) P = jI P O t := by unfold upN jI; rw [if_pos (by simpa [upB] using h2), hlN]
    rw [huN] at h3 h4
    have hm := h3
    simp only [mulB, Bool.and_eq_true, numB_iff] at hm
    have hmN : mulN (jI P O t) C = jI P O t * C := by unfold mulN; rw [if_pos (by simpa [mulB] using h3)]
    rw [hmN] at h4
    simp only [addB, Bool.and_eq_true, numB_iff] at h4
    refine ⟨hl.1, hl.2, ⟨hu.2, hu.1.2.2⟩, hm.1.2, h4.1.2.1, h4.2.2⟩
  · rintro ⟨ht, hO, hP, hC, hK⟩

    have h1 : lessB t O = true := by simp only [lessB, Bool.and_eq_true, numB_iff]; exact ⟨ht, hO⟩
    have hlN : lessN t O = if t < O then 0 else t - O := by unfold lessN; rw [if_pos (by simpa [lessB] using h1)]
    have h2 : upB (lessN t O) P = true := by
      simp only [upB, Bool.and_eq_true, numB_iff, decide_eq_true_eq]
      refine ⟨⟨?_, by omega⟩, hP.1⟩
      rw [hlN]; split <;> omega
    have huN : upN (lessN t O) P = jI P O t := by unfold upN jI; rw [if_pos (by simpa [upB] using h2), hlN]
    have j0 := jI_nonneg (P := P) (O := O) (t := t) hP.1
    have j1 := jI_le (P := P) (O := O) (t := t) hP.1 hO.1 ht.1
    have m0 := Int.mul_nonneg j0 hC.1
    have h3 : mulB (jI P O t) C = true := by
      simp only [mulB, Bool.and_eq_true, numB_iff]
      exact ⟨⟨⟨j0, by omega⟩, hC⟩, m0, by omega⟩
    have hmN : mulN (jI P O t) C = jI P O t * C := by unfold mulN; rw [if_pos (by simpa [mulB] using h3)]
    rw [if_pos h1, huN, hmN]
    refine ⟨⟨h1, h2⟩, h3, ?_⟩
    simp only [addB, Bool.and_eq_true, numB_iff]
    omega
theorem tmN_eq {x : Tm} {t : Int} (h : tmB x t = true) : tmN x t = jI x.per x.off t * x.cost + x.car := by
  obtain ⟨P, C, O, K⟩ := x
  simp only [tmB, workB, jobsB, jobsN, Bool.and_eq_true] at h
  obtain ⟨⟨h1, h2⟩, h3, h4⟩ := h
  simp only [tmN, workN, jobsB, jobsN]
  rw [if_pos h1] at h3 h4
  have hlN : lessN t O = if t < O then 0 else t - O := by unfold lessN; rw [if_pos (by simpa [lessB] using h1)]
  have huN : upN (lessN t O) P = jI P O t := by unfold upN jI; rw [if_pos (by simpa [upB] using h2), hlN]
  rw [huN] at h3 h4
  have hmN : mulN (jI P O t) C = jI P O t * C := by unfold mulN; rw [if_pos (by simpa [mulB] using h3)]
  rw [hmN] at h4
  rw [if_pos h1, huN, hmN, h1, h2, h3]
  simp only [Bool.and_self, if_true]
  unfold addN
  rw [if_pos (by simpa [addB] using h4)]
theorem tmB_down {x : Tm} {t u : Int} (h : tmB x u = true) (h0 : 0 ≤ t) (hu : t ≤ u) : tmB x t = true := by
  rw [tmB_iff] at h ⊢
  obtain ⟨h1, h2, h3, h4, h5⟩ := h
  have := Int.mul_le_mul_of_nonneg_right (jI_mono (O := x.off) h3.1 hu) h4.1
  exact ⟨by omega, h2, h3, h4, h5.1, by omega⟩
theorem tmN_mono {x : Tm} {t u : Int} (h : tmB x u = true) (h0 : 0 ≤ t) (hu : t ≤ u) : 0 ≤ tmN x t ∧ tmN x t ≤ tmN x u := by
  have hd := tmB_down h h0 hu
  rw [tmN_eq h, tmN_eq hd]
  rw [tmB_iff] at h
  obtain ⟨h1, h2, h3, h4, h5⟩ := h
  have := Int.mul_le_mul_of_nonneg_right (jI_mono (O := x.off) h3.1 hu) h4.1
  have := Int.mul_nonneg (jI_nonneg (O := x.off) (t := t) h3.1) h4.1
  omega
theorem tmN_round {x : Tm} {t r : Int} (h : tmB x (t + r) = true) (h0 : 0 ≤ t) (hr : 0 ≤ r) (hO : x.off ≤ t) (hd : x.per ∣ r) : tmN x (t + r) = tmN x t + r / x.per * x.cost := by
  have hd' := tmB_down h h0 (by omega)
  rw [tmN_eq h, tmN_eq hd']
  rw [tmB_iff] at h
  rw [jI_round h.2.2.1.1 hO hr hd, Int.add_mul]
  omega
/-- What all terms come to: is it a number, and which? -/
def okL (L : List Tm) (t : Int) : Bool := resB (runS 0 (L.map (wI t)))
def valL (L : List Tm) (t : Int) : Int := resN (runS 0 (L.map (wI t)))
def sumL (L : List Tm) (t : Int) : Int := (L.map fun x => tmN x t).sum
theorem wI_ge {x : Tm} {t : Int} : 0 ≤ wI t x ↔ tmB x t = true := by
  unfold wI
  split
  · rename_i h
    exact ⟨fun _ => h, fun _ => by have := tmN_mono h ((tmB_iff x t).1 h).1.1 (Int.le_refl _); omega⟩
  · rename_i h
    exact ⟨fun h1 => by omega, fun h1 => absurd h1 h⟩
theorem wI_eq {x : Tm} {t : Int} (h : tmB x t = true) : wI t x = tmN x t := by unfold wI; rw [if_pos h]
theorem okL_iff (L : List Tm) (t : Int) : okL L t = true ↔ (∀ x ∈ L, tmB x t = true) ∧ sumL L t ≤ 1099511627776 := by
  unfold okL resB
  rw [Option.isSome_iff_exists]
  constructor
  · rintro ⟨s, hs⟩
    obtain ⟨h1, h2, h3⟩ := (runS_iff (n := 0) (Int.le_refl _) (by omega)).1 hs
    have h4 : ∀ x ∈ L, tmB x t = true := fun x hx => wI_ge.1 (h1 _ (List.mem_map_of_mem hx))
    have h5 : L.map (wI t) = L.map fun x => tmN x t := List.map_congr_left fun x hx => wI_eq (h4 x hx)
    refine ⟨h4, ?_⟩
    unfold sumL
    rw [← h5]; omega
  · rintro ⟨h1, h2⟩
    have h5 : L.map (wI t) = L.map fun x => tmN x t := List.map_congr_left fun x hx => wI_eq (h1 x hx)
    refine ⟨0 + (L.map (wI t)).sum, (runS_iff (n := 0) (Int.le_refl _) (by omega)).2 ⟨fun y hy => ?_, rfl, ?_⟩⟩
    · obtain ⟨x, hx, rfl⟩ := List.mem_map.1 hy
      exact wI_ge.2 (h1 x hx)
    · rw [h5]; unfold sumL at h2; omega
theorem valL_eq {L : List Tm} {t : Int} (h : okL L t = true) : valL L t = sumL L t := by
  have h1 := ((okL_iff L t).1 h).1
  have h5 : L.map (wI t) = L.map fun x => tmN x t := List.map_congr_left fun x hx => wI_eq (h1 x hx)
  unfold okL resB at h
  rw [Option.isSome_iff_exists] at h
  obtain ⟨s, hs⟩ := h
  obtain ⟨-, h2, -⟩ := (runS_iff (n := 0) (Int.le_refl _) (by omega)).1 hs
  unfold valL resN sumL
  rw [hs, ← h5]
  simp only [Option.getD_some]; omega
theorem sumL_cons (x : Tm) (L : List Tm) (t : Int) : sumL (x :: L) t = tmN x t + sumL L t := by simp [sumL]
theorem sumL_mono {t u : Int} (h0 : 0 ≤ t) (hu : t ≤ u) : ∀ {L : List Tm}, (∀ x ∈ L, tmB x u = true) → 0 ≤ sumL L t ∧ sumL L t ≤ sumL L u
  | [], _ => by simp [sumL]
  | x :: r, h => by
    have h1 := tmN_mono (h x (List.mem_cons_self ..)) h0 hu
    have h2 := sumL_mono h0 hu (L := r) fun y hy => h y (List.mem_cons_of_mem _ hy)
    rw [sumL_cons, sumL_cons]; omega
theorem okL_down {L : List Tm} {t u : Int} (h : okL L u = true) (h0 : 0 ≤ t) (hu : t ≤ u) : okL L t = true ∧ 0 ≤ valL L t ∧ valL L t ≤ valL L u := by
  have h' := (okL_iff L u).1 h
  have hm := sumL_mono h0 hu h'.1
  have hk : okL L t = true := (okL_iff L t).2 ⟨fun x hx => tmB_down (h'.1 x hx) h0 hu, by omega⟩
  exact ⟨hk, by rw [valL_eq hk]; exact hm.1, by rw [valL_eq hk, valL_eq h]; exact hm.2⟩
def kL (L : List Tm) (r : Int) : Int := (L.map fun x => r / x.per * x.cost).sum
theorem sumL_round {t r : Int} (h0 : 0 ≤ t) (hr : 0 ≤ r) : ∀ {L : List Tm}, (∀ x ∈ L, tmB x (t + r) = true ∧ x.off ≤ t ∧ x.per ∣ r) → sumL L (t + r) = sumL L t + kL L r
  | [], _ => by simp [sumL, kL]
  | x :: l, h => by
    obtain ⟨a, b, c⟩ := h x (List.mem_cons_self ..)
    have h1 := tmN_round a h0 hr b c
    have h2 := sumL_round h0 hr (L := l) fun y hy => h y (List.mem_cons_of_mem _ hy)
    rw [sumL_cons, sumL_cons, h1, h2]
    simp only [kL, List.map_cons, List.sum_cons]
    omega
theorem valL_round {L : List Tm} {t r : Int} (h : okL L (t + r) = true) (h0 : 0 ≤ t) (hr : 0 ≤ r) (hL : ∀ x ∈ L, x.off ≤ t ∧ x.per ∣ r) : valL L (t + r) = valL L t + kL L r := by
  have hd := (okL_down h h0 (by omega)).1
  rw [valL_eq h, valL_eq hd]
  exact sumL_round h0 hr fun x hx => ⟨((okL_iff L _).1 h).1 x hx, hL x hx⟩
/-- The first work and all that comes, together. -/
def togB (own : Int) (L : List Tm) (t : Int) : Bool := okL L t && addB own (valL L t)
def togN (own : Int) (L : List Tm) (t : Int) : Int := if okL L t then addN own (valL L t) else 0
def FF (own : Int) (L : List Tm) (t : Int) : Option Int := if togB own L t then some (togN own L t) else none
theorem FF_some {own : Int} {L : List Tm} {t n : Int} : FF own L t = some n ↔ okL L t = true ∧ 0 ≤ own ∧ n = own + valL L t ∧ n ≤ 1099511627776 := by
  unfold FF togB togN
  by_cases h : okL L t = true
  · have ht := ((okL_iff L t).1 h).1
    have hv : 0 ≤ valL L t := by
      rw [valL_eq h]
      exact sum_nonneg fun y hy => by
        obtain ⟨x, hx, rfl⟩ := List.mem_map.1 hy
        have hb := ht x hx
        have := tmN_mono hb ((tmB_iff x t).1 hb).1.1 (Int.le_refl _)
        omega
    rw [h]
    simp only [Bool.true_and, if_true]
    by_cases ha : addB own (valL L t) = true
    · have hn : addN own (valL L t) = own + valL L t := by unfold addN; rw [if_pos (by simpa [addB] using ha)]
      rw [if_pos ha, hn]
      simp only [addB, Bool.and_eq_true, numB_iff] at ha
      simp only [Option.some.injEq, true_and]
      constructor
      · rintro rfl; omega
      · rintro ⟨_, h1, _⟩; exact h1.symm
    · rw [if_neg ha]
      constructor
      · intro h; cases h
      · rintro ⟨_, h1, h2, h3⟩
        exact absurd (by simp only [addB, Bool.and_eq_true, numB_iff]; omega) ha
  · simp only [Bool.not_eq_true] at h
    rw [h]
    simp
theorem FF_mono {own : Int} {L : List Tm} {t u n : Int} (h : FF own L u = some n) (h0 : 0 ≤ t) (hu : t ≤ u) : ∃ m, FF own L t = some m ∧ m ≤ n ∧ own ≤ m := by
  obtain ⟨h1, h2, h3, h4⟩ := FF_some.1 h
  obtain ⟨d1, d2, d3⟩ := okL_down h1 h0 hu
  exact ⟨own + valL L t, FF_some.2 ⟨d1, h2, rfl, by omega⟩, by omega, by omega⟩
/-- Behind h no time is enough, unless one up to it is. -/
def HZ (own : Int) (L : List Tm) (h : Int) : Prop := ∀ cur, h < cur → (∀ t, (if own < 1 then 1 else own) ≤ t → t < cur → ∀ n, FF own L t = some n → t < n) → ∀ t, h < t → ∀ n, FF own L t = some n → t < n
theorem horizon_good {own : Int} {L : List Tm} {from_ r : Int} (h0 : (if own < 1 then 1 else own) ≤ from_) (hr : 0 < r) (hL : ∀ x ∈ L, x.off ≤ from_ ∧ x.per ∣ r) (hk : okL L (from_ + r) = true) (hge : r ≤ valL L (from_ + r) - valL L from_) : HZ own L (from_ + r) := by
  have hf : 1 ≤ from_ := by split at h0 <;> omega
  have hK : r ≤ kL L r := by
    have := valL_round hk (by omega) (by omega) hL
    omega
  intro cur hc hno
  have key : ∀ (d : Nat) (t : Int), t < from_ + r + 1 + d → from_ + r < t → ∀ n, FF own L t = some n → t < n := by
    intro d
    induction d with
    | zero => intro t h1 h2; omega
    | succ d ih =>
      intro t h1 h2 n hn
      obtain ⟨k1, k2, k3, k4⟩ := FF_some.1 hn
      have hrd := valL_round (L := L) (t := t - r) (r := r) (by rw [Int.sub_add_cancel]; exact k1) (by omega) (by omega) (fun x hx => ⟨by have := (hL x hx).1; omega, (hL x hx).2⟩)
      rw [Int.sub_add_cancel] at hrd
      obtain ⟨m, hm, -, -⟩ := FF_mono hn (t := t - r) (by omega) (by omega)
      obtain ⟨-, -, m3, -⟩ := FF_some.1 hm
      have hlt : t - r < m := by
        by_cases hcc : t - r < cur
        · exact hno _ (by omega) hcc m hm
        · exact ih (t - r) (by omega) (by omega) m hm
      omega
  intro t ht
  exact key (t - (from_ + r)).toNat t (by omega) ht
/-- Looking at times till one is enough. -/
def lookF (F : Int → Option Int) (most : Int) : Nat → Int → Int → Option (Int × Int)
  | 0, _, _ => none
  | g + 1, w, m => if w ≤ most then (match F w with | none => none | some n => if n ≤ w then some (w, m) else lookF F most g n (m + 1)) else none
theorem lookF_past {F : Int → Option Int} {most h : Int} (hF : ∀ t, h < t → ∀ n, F t = some n → t < n) : ∀ (g : Nat) (w m : Int), h < w → lookF F most g w m = none
  | 0, _, _, _ => rfl
  | g + 1, w, m, hw => by
    unfold lookF
    split
    · cases hf : F w with
      | none => rfl
      | some n =>
        have := hF w hw n hf
        dsimp only
        rw [if_neg (by omega)]
        exact lookF_past hF g n (m + 1) (by omega)
    · rfl
theorem lookF_most {F : Int → Option Int} {most : Int} (g : Nat) {w m : Int} (hw : most < w) : lookF F most g w m = none := by
  cases g with
  | zero => rfl
  | succ g => unfold lookF; rw [if_neg (by omega)]
/-- More fuel turns nothing. -/
theorem lookF_fuel {F : Int → Option Int} {most : Int} : ∀ (g g' : Nat) (w m : Int), most < w + g → most < w + g' → lookF F most g w m = lookF F most g' w m
  | 0, g', w, m, h, _ => by rw [lookF_most g' (by omega)]; rfl
  | g + 1, 0, w, m, _, h => by rw [lookF_most (g + 1) (by omega)]; rfl
  | g + 1, g' + 1, w, m, h, h' => by
    unfold lookF
    split
    · cases hf : F w with
      | none => rfl
      | some n =>
        dsimp only
        split
        · rfl
        · exact lookF_fuel g g' n (m + 1) (by omega) (by omega)
    · rfl
/-- What looking finds is the least time that is enough. -/
theorem lookF_least {own : Int} {L : List Tm} {most : Int} : ∀ (g : Nat) (w m : Int), 0 ≤ w → most < w + g → (∀ t, w ≤ t → t ≤ most → ∃ n, FF own L t = some n) →
    (∀ a b, lookF (FF own L) most g w m = some (a, b) → w ≤ a ∧ a ≤ most ∧ (∃ n, FF own L a = some n ∧ n ≤ a) ∧ ∀ t, w ≤ t → t < a → ∀ n, FF own L t = some n → t < n) ∧
    (lookF (FF own L) most g w m = none → ∀ t, w ≤ t → t ≤ most → ∀ n, FF own L t = some n → t < n)
  | 0, w, m, h0, hg, hs => ⟨fun a b h => by simp [lookF] at h, fun _ t h1 h2 => by omega⟩
  | g + 1, w, m, h0, hg, hs => by
    by_cases hw : w ≤ most
    · obtain ⟨n, hn⟩ := hs w (Int.le_refl _) hw
      by_cases hnw : n ≤ w
      · have e : lookF (FF own L) most (g + 1) w m = some (w, m) := by unfold lookF; rw [if_pos hw, hn]; dsimp only; rw [if_pos hnw]
        rw [e]
        refine ⟨fun a b h => ?_, fun h => by cases h⟩
        obtain ⟨rfl, rfl⟩ : w = a ∧ m = b := by simpa using h
        exact ⟨Int.le_refl _, hw, ⟨n, hn, hnw⟩, fun t h1 h2 => by omega⟩
      · have e : lookF (FF own L) most (g + 1) w m = lookF (FF own L) most g n (m + 1) := by
          rw [show lookF (FF own L) most (g + 1) w m = (if w ≤ most then (match FF own L w with | none => none | some n => if n ≤ w then some (w, m) else lookF (FF own L) most g n (m + 1)) else none) from rfl, if_pos hw, hn]
          dsimp only; rw [if_neg hnw]
        have hgap : ∀ t, w ≤ t → t < n → ∀ k, FF own L t = some k → t < k := fun t h1 h2 k hk => by
          obtain ⟨j, hj, hjk, -⟩ := FF_mono hk h0 h1
          rw [hn] at hj
          obtain rfl : n = j := by simpa using hj
          omega
        obtain ⟨i1, i2⟩ := lookF_least (own := own) (L := L) (most := most) g n (m + 1) (by omega) (by omega) (fun t h1 h2 => hs t (by omega) h2)
        rw [e]
        refine ⟨fun a b h => ?_, fun h t h1 h2 k hk => ?_⟩
        · obtain ⟨a1, a2, a3, a4⟩ := i1 a b h
          refine ⟨by omega, a2, a3, fun t h1 h2 k hk => ?_⟩
          by_cases ht : t < n
          · exact hgap t h1 ht k hk
          · exact a4 t (by omega) h2 k hk
        · by_cases ht : t < n
          · exact hgap t h1 ht k hk
          · exact i2 h t (by omega) h2 k hk
    · have e := lookF_most (F := FF own L) (most := most) (g + 1) (w := w) (m := m) (by omega)
      rw [e]
      exact ⟨fun a b h => (by cases h), fun _ t h1 h2 => by omega⟩
end Go.Proofs.YtihomapbncnhaaaDoor
