/- The contract of check.total over whatever iterator keeps its word: the sum of all numbers that come, or none; and of its deferred closure, which finds nothing to recover. -/
import Derived.Test.YtmaackdfhmpicaaXLoop
import Derived.Test.YtmaackdfhmpicaaXA
import Derived.RecoverIn
import Derived.OwnWalkIn
import Derived.TacticsInMore
import Derived.RegionIn
import Derived.LoopNIn
import Derived.LoopIn
import Derived.Shelf.Abstract
import Derived.Shelf.RegionOpen
namespace Go.Proofs.Ytmaackdfhmpicaa
open Go.RowKit
attribute [local go_sem] Oper.semAt_some

def runS (n : Int) : List Int → Option Int
  | [] => some n
  | x :: r => if addB n x then runS (addN n x) r else none
theorem runS_snoc (n : Int) (l : List Int) (x : Int) : runS n (l ++ [x]) = (runS n l).bind fun s => if addB s x then some (addN s x) else none := by
  induction l generalizing n with
  | nil => simp [runS]
  | cons y l ih =>
    simp only [List.cons_append, runS]
    split
    · exact ih _
    · rfl
theorem runS_none (n : Int) (l r : List Int) (h : runS n l = none) : runS n (l ++ r) = none := by
  induction l generalizing n with
  | nil => simp [runS] at h
  | cons y l ih =>
    simp only [List.cons_append, runS] at h ⊢
    split
    · rename_i hb; rw [if_pos hb] at h; exact ih _ h
    · rfl
theorem runS_take_none {l : List Int} {k : Nat} (h : runS 0 (l.take k) = none) : runS 0 l = none := by
  have := runS_none 0 _ (l.drop k) h
  rwa [List.take_append_drop] at this
theorem take_succ_getD (l : List Int) (k : Nat) (h : k < l.length) : l.take (k + 1) = l.take k ++ [nth l k] := by
  rw [List.take_succ_eq_append_getElem h]; simp [nth, List.getElem?_eq_getElem h]
def resN (o : Option Int) : Int := o.getD 0
def resB (o : Option Int) : Bool := o.isSome
theorem addN_f {a b : Int} (h : addB a b = false) : addN a b = 0 := by unfold addB at h; unfold addN; rw [h]; rfl

theorem rec_idle (p q : Addr) (w : World) :
    CallsDIn Fence.wide 0 Try.prog 79 #[.pointer (some p), .pointer (some q)] .returning w fun e u' w' => e = .returned (.tuple #[]) ∧ u' = .returning ∧ w' = w := by
  refine callsDIn_of_wpSIn Try.func79 rfl trivial fun c₀ cs hu => ?_
  apply wpSIn_seq
  apply wpSIn_region
  simp [wpOpsSIn, go_sem, recoverD, hu, Try.ntmps79, Exit.thenS, Fence.wide]
  refine wpSIn_cond (t := false) (by simp [Act.eval, Array.replicate]) ?_
  simp only [Bool.false_eq_true, if_false]
  refine wpSIn_of_wpIn rfl (wpIn_skip ?_)
  cases c₀
  simp_all [bodyPostS, results, Try.results79]

/-- What total hands back: the numbers' sum, or none. -/
def resOf (xs : List Int) : Ending := .returned (.tuple #[.int .i64 (resN (runS 0 xs)), .bool (resB (runS 0 xs))])

/-- total's way out: the mark, the deferred closure, the two results in their cells. -/
theorem total_leaves (tmps : Array Value) (B D : Nat) (n : Int) (b : Bool) (R : Ending → World → Prop) (W : World)
    (ht2 : tmps[2]? = some (.pointer (some ⟨B, 0, none⟩))) (ht3 : tmps[3]? = some (.pointer (some ⟨B + 1, 0, none⟩)))
    (hn : W.cell? ⟨B, 0, none⟩ = some (.int .i64 n)) (hb : W.cell? ⟨B + 1, 0, none⟩ = some (.bool b)) (hD : W.heap[D]? = some (.deferred (some []))) (hB : B + 2 ≤ D)
    (hR : R (.returned (.tuple #[.int .i64 n, .bool b])) (W.putObj D (.deferred none))) :
    LeavesInM Fence.wide 0 Try.prog Try.f74 tmps R [{ target := .collected D, args := #[] }, { target := .fn (.func 79) #[.pointer (some ⟨B, 0, none⟩), .pointer (some ⟨B + 1, 0, none⟩)], args := #[] }] .returning W := by
  have hc : Ch (fun j => j = D) W (W.putObj D (.deferred none)) := (Ch.refl _ W).putObj _ _ rfl
  have hn' := hc.cell hn (by simp only; omega)
  have hb' := hc.cell hb (by simp only; omega)
  refine ⟨by simp, .inl ⟨_, _, rfl, run_takeDeferred hD, ?_⟩⟩
  refine ⟨by simp, .inr ⟨fun h => by simp [Fence.wide] at h, _, _, 79, _, rfl, by simp [invoke, go_sem]; rfl, fun _ _ => trivial, ?_⟩⟩
  refine (rec_idle _ _ _).mono ?_
  rintro e u' w' ⟨rfl, rfl, rfl⟩
  refine ⟨.tuple #[.int .i64 n, .bool b], ?_, hR⟩
  simp [results, Try.results74, go_sem, ht2, ht3, hn', hb']

theorem total_in (gf : Nat) (lb : Array Value) (eg : ∀ args w, (callFunc gf args).run Try.prog w = .ok (.enter gf args) w) (xs : List Int) (w : World)
    (hit : ∀ (J Jx : Nat → World → Prop) (W1 : World), w.heap.size + 4 = W1.heap.size → Below w.heap.size w W1 →
      (∀ k W, J k W → Below w.heap.size w W ∧ ∃ s, runS 0 (xs.take k) = some s) →
      (∀ k W W', J k W → Ch (fun _ => False) W W' → J k W') → (∀ k W W', Jx k W → Ch (fun _ => False) W W' → Jx k W') →
      Rounds Try.prog (w.heap.size + 3) xs.length (fun k => #[.int .i64 (nth xs k)]) (fun j => (j = w.heap.size ∨ j = w.heap.size + 1) ∨ j = w.heap.size + 3) J Jx → J 0 W1 →
      IterX Try.prog gf lb (w.heap.size + 3) xs.length (fun k => #[.int .i64 (nth xs k)]) (fun j => (j = w.heap.size ∨ j = w.heap.size + 1) ∨ j = w.heap.size + 3) J Jx W1) :
    Calls Try.prog 74 #[.func (.func gf) #[] lb] w fun e w' => e = resOf xs ∧ Below w.heap.size w w' := by
  refine (callsIn_wide (n := 0)).1 ?_
  have hmf : ∀ (fn : Fn) (first cap : Array Value) (w : World), (Instr.makeFunc fn first cap).run Try.prog w = .ok (.func fn first cap) w := fun _ _ _ _ => rfl
  refine callsIn_of_wp_marks Try.func74 rfl trivial ?_ rfl
  simp only [Try.ntmps74, List.size_toArray, List.length_cons, List.length_nil, Nat.reduceAdd, Nat.reduceSub, Array.replicate_succ, Array.replicate_zero, List.push_toArray, List.append_toArray, List.nil_append, List.cons_append]
  gi_wp2
  obtain ⟨w2, hw2⟩ : ∃ w2, (w.alloc (Obj.cells #[Value.int IntKind.i64 0] 3)).alloc (Obj.cells #[Value.bool true] 4) = w2 := ⟨_, rfl⟩
  have z2 : w2.heap.size = w.heap.size + 2 := by rw [← hw2]; simp
  have b2 : Below w.heap.size w w2 := by rw [← hw2]; exact ((Below.refl _ w).alloc (Nat.le_refl _) _).alloc (by simp) _
  have n2 : w2.cell? ⟨w.heap.size, 0, none⟩ = some (.int .i64 0) ∧ w2.frozen? ⟨w.heap.size, 0, none⟩ = false := by rw [← hw2]; simp [go_sem]
  have o2 : w2.cell? ⟨w.heap.size + 1, 0, none⟩ = some (.bool true) ∧ w2.frozen? ⟨w.heap.size + 1, 0, none⟩ = false := by rw [← hw2]; simp [go_sem]
  rw [hw2]
  clear hw2
  refine wpIn_range (gf := gf) (lb := lb) rfl eg xs.length (fun k => #[.int .i64 (nth xs k)]) (fun _ => rfl) (fun j => j = w.heap.size ∨ j = w.heap.size + 1) (fun _ => False)
    (by rw [z2]; intro k hk; omega) (fun _ h => h.elim)
    (fun k W => Below w.heap.size w W ∧ ∃ s, runS 0 (xs.take k) = some s ∧ W.cell? ⟨w.heap.size, 0, none⟩ = some (.int .i64 s) ∧ W.frozen? ⟨w.heap.size, 0, none⟩ = false ∧ W.cell? ⟨w.heap.size + 1, 0, none⟩ = some (.bool true) ∧ W.frozen? ⟨w.heap.size + 1, 0, none⟩ = false)
    (fun c k W => c = .exit 0 ∧ Below w.heap.size w W ∧ runS 0 (xs.take k) = none ∧ W.cell? ⟨w.heap.size, 0, none⟩ = some (.int .i64 0) ∧ W.frozen? ⟨w.heap.size, 0, none⟩ = false ∧ W.cell? ⟨w.heap.size + 1, 0, none⟩ = some (.bool false) ∧ W.frozen? ⟨w.heap.size + 1, 0, none⟩ = false)
    ?hI ?hIx ⟨b2, 0, rfl, n2.1, n2.2, o2.1, o2.2⟩
    (fun k a' _ => a' = { tmps := #[.func (.func gf) #[] lb, undef, .pointer (some ⟨w.heap.size, 0, none⟩), .pointer (some ⟨w.heap.size + 1, 0, none⟩), .int .i64 (nth xs k),
      .func (.func 79) #[] #[.pointer (some ⟨w.heap.size, 0, none⟩), .pointer (some ⟨w.heap.size + 1, 0, none⟩)], .func (.func gf) #[] lb, .int .i64 (nth xs k), undef, undef, undef, undef, undef, undef, undef, undef, undef, undef], defers := [] })
    (fun _ _ _ _ h _ => h) ?hit ?assign ?body ?done ?stop
  case hI =>
    rintro k W W' ⟨h1, s, h2, h3, h4, h5, h6⟩ hc
    have t1 : ¬ (False ∨ w.heap.size = w2.heap.size ∨ w.heap.size = w2.heap.size + 1) := by simp only [false_or]; omega
    have t2 : ¬ (False ∨ w.heap.size + 1 = w2.heap.size ∨ w.heap.size + 1 = w2.heap.size + 1) := by simp only [false_or]; omega
    exact ⟨h1.trans (hc.below (by intro k hk; simp only [false_or]; omega) h1.size), s, h2, hc.cell h3 t1, (hc.frozenCell h3 t1).trans h4, hc.cell h5 t2, (hc.frozenCell h5 t2).trans h6⟩
  case hIx =>
    rintro c k W W' ⟨h0, h1, h2, h3, h4, h5, h6⟩ hc
    have t1 : ¬ (False ∨ w.heap.size = w2.heap.size ∨ w.heap.size = w2.heap.size + 1) := by simp only [false_or]; omega
    have t2 : ¬ (False ∨ w.heap.size + 1 = w2.heap.size ∨ w.heap.size + 1 = w2.heap.size + 1) := by simp only [false_or]; omega
    exact ⟨h0, h1.trans (hc.below (by intro k hk; simp only [false_or]; omega) h1.size), h2, hc.cell h3 t1, (hc.frozenCell h3 t1).trans h4, hc.cell h5 t2, (hc.frozenCell h5 t2).trans h6⟩
  case hit =>
    intro J Jx W1 h1 h2 h3 h4 h5 h6 h7 h8
    rw [z2] at h1 h7 ⊢
    exact hit J Jx W1 (by omega) ⟨h2.os.trans b2.os, h2.tape.trans b2.tape, h2.output.trans b2.output, by omega, fun k hk => (h2.block k (by omega)).trans (b2.block k hk)⟩
      (fun k W h => ⟨(h3 k W h).1, (h3 k W h).2.choose, (h3 k W h).2.choose_spec.1⟩) h5 h6 h7 h8
  case assign =>
    intro k W K hi hk hK
    gi_wp2
    exact hK _ _ rfl (Ch.refl _ _) hi
  case body =>
    rintro k a' W ⟨h1, s, h2, h3, h4, h5, h6⟩ hk rfl hz
    have ht := take_succ_getD xs k hk
    have hrun : runS 0 (xs.take (k + 1)) = if addB s (nth xs k) then some (addN s (nth xs k)) else none := by rw [ht, runS_snoc, h2]; rfl
    have H2 := Lib.hid h2
    have HR := Lib.hid hrun
    clear h2 hrun ht
    cases hb : addB s (nth xs k)
    · have hn := addN_f hb
      gi_wp2_with (refine ⟨trivial, rfl, ?_⟩; gi_at_call 55; refine (CallsIn.inRound _ (callsIn_wide.2 (add_any _ _ _))).mono ?_; rintro e w' ⟨rfl, rfl⟩)
      have hr := HR.out
      rw [hb] at hr
      exact ⟨((Ch.refl _ W).setCell _ _ (.inl (.inl rfl))).setCell _ _ (.inl (.inr rfl)), rfl, (h1.setCell (Nat.le_refl _) _).setCell (by simp) _, hr, by simp [go_sem, h3], by simp [go_sem, h4], by simp [go_sem, h5], by simp [go_sem, h6]⟩
    · gi_wp2_with (refine ⟨trivial, rfl, ?_⟩; gi_at_call 55; refine (CallsIn.inRound _ (callsIn_wide.2 (add_any _ _ _))).mono ?_; rintro e w' ⟨rfl, rfl⟩)
      have hr := HR.out
      rw [hb] at hr
      exact ⟨((Ch.refl _ W).setCell _ _ (.inl (.inl rfl))).setCell _ _ (.inl (.inr rfl)), (h1.setCell (Nat.le_refl _) _).setCell (by simp) _, _, hr, by simp [go_sem, h3], by simp [go_sem, h4], by simp [go_sem, h5], by simp [go_sem, h6]⟩
  case done =>
    rintro W ⟨h1, s, h2, h3, h4, h5, h6⟩ hD
    have H2 := Lib.hid h2
    clear h2
    gi_wp2
    gi_region
    all_goals
      gi_wp2
      have h2 := H2.out
      rw [List.take_length] at h2
      have hc : Ch (fun j => j = w.heap.size ∨ j = w.heap.size + 1) W ((W.setCell ⟨w.heap.size, 0, none⟩ (Value.int IntKind.i64 s)).setCell ⟨w.heap.size + 1, 0, none⟩ (Value.bool true)).drew := (((Ch.refl _ W).setCell _ _ (.inl (.inl rfl))).setCell _ _ (.inl (.inr rfl))).drew
      refine total_leaves _ w.heap.size w2.heap.size s true _ _ rfl rfl (by simp [go_sem, h3]) (by simp [go_sem, h5]) (hc.obj hD (by omega)) (by omega) ⟨?_, ?_⟩
      · unfold resOf; rw [h2]; rfl
      · exact h1.trans ((hc.mono (T' := fun j => j = w.heap.size ∨ j = w.heap.size + 1 ∨ j = w2.heap.size) (by intro k _ h; omega)).putObj _ _ (.inr (.inr rfl)) |>.below (by intro k hk; omega) h1.size)
  case stop =>
    rintro c k W hk ⟨rfl, h1, h2, h3, h4, h5, h6⟩ hD
    have H2 := Lib.hid h2
    clear h2
    gi_wp2
    gi_region
    all_goals
      gi_wp2
      have h2 := runS_take_none H2.out
      have hc : Ch (fun j => j = w.heap.size ∨ j = w.heap.size + 1) W ((W.setCell ⟨w.heap.size, 0, none⟩ (Value.int IntKind.i64 0)).setCell ⟨w.heap.size + 1, 0, none⟩ (Value.bool false)).drew := (((Ch.refl _ W).setCell _ _ (.inl (.inl rfl))).setCell _ _ (.inl (.inr rfl))).drew
      refine total_leaves _ w.heap.size w2.heap.size 0 false _ _ rfl rfl (by simp [go_sem, h3]) (by simp [go_sem, h5]) (hc.obj hD (by omega)) (by omega) ⟨?_, ?_⟩
      · unfold resOf; rw [h2]; rfl
      · exact h1.trans ((hc.mono (T' := fun j => j = w.heap.size ∨ j = w.heap.size + 1 ∨ j = w2.heap.size) (by intro k _ h; omega)).putObj _ _ (.inr (.inr rfl)) |>.below (by intro k hk; omega) h1.size)

end Go.Proofs.Ytmaackdfhmpicaa
