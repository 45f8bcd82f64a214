/- The contract of Due on a queue of timers. -/
import Derived.Test.YtkbmgilceioieaaDE
namespace Go.Proofs.Ytkbmgilceioieaa
open Go.RowKit
attribute [local go_sem] Oper.semAt_some

/-- In how many ticks a timer is due; 0, if there is none. -/
def lookT (id : Int) (A : List (Int × Int)) : Int := match A.find? (fun p => decide (p.1 = id)) with | some p => p.2 | none => 0
theorem look_none {id : Int} {A : List (Int × Int)} (h : ∀ j, j < A.length → aI A j ≠ id) : lookT id A = 0 ∧ inA id A = false := by
  have hn : ∀ p ∈ A, ¬ p.1 = id := fun p hp e => by
    obtain ⟨j, hj, rfl⟩ := List.mem_iff_getElem.1 hp
    apply h j hj
    unfold aI; simpa [hj] using e
  have e : A.find? (fun p => decide (p.1 = id)) = none := by
    rw [List.find?_eq_none]; intro p hp; simpa using hn p hp
  refine ⟨by unfold lookT; rw [e], ?_⟩
  cases hi : inA id A with
  | false => rfl
  | true =>
    obtain ⟨p, hp, e⟩ := List.mem_map.1 ((inA_iff id A).1 hi)
    exact absurd e (hn p hp)
theorem look_some {id : Int} {A : List (Int × Int)} {k : Nat} (hk : k < A.length) (h : ∀ j, j < k → aI A j ≠ id) (e : aI A k = id) : lookT id A = aT A k ∧ inA id A = true := by
  induction A generalizing k with
  | nil => simp at hk
  | cons x A ih =>
    cases k with
    | zero =>
      have e' : x.1 = id := e
      refine ⟨by unfold lookT; rw [List.find?_cons]; simp [e']; rfl, by unfold inA; simp [e']⟩
    | succ k =>
      have hx : ¬ x.1 = id := h 0 (by omega)
      have := ih (k := k) (by simpa using hk) (fun j hj => h (j + 1) (by omega)) e
      refine ⟨?_, ?_⟩
      · have h1 := this.1
        unfold lookT at h1 ⊢
        rw [List.find?_cons]
        simp only [hx, decide_false]
        exact h1
      · have h1 := this.2
        unfold inA at h1 ⊢
        simp [h1]

/-- What lies below Z is as it was in w2. -/
theorem below_foot (Z : Nat) (w2 : World) (hZ : Z ≤ w2.heap.size) (P : Prop) : Foot (fun _ j => j < Z) (fun W => Below Z w2 W ∧ P) where
  lt := fun _W h _j hj => Nat.lt_of_lt_of_le (Nat.lt_of_lt_of_le hj hZ) h.1.size
  keep := fun _W _W' h hc => ⟨⟨h.1.trans (hc.below (fun _j hj hn => hn hj) (Nat.le_trans hZ h.1.size)), h.2⟩, fun _ h => h⟩

theorem below_set {n : Nat} {w w' : World} (h : Below n w w') (a : Addr) (v : Value) : Below n (w.setCell a v) (w'.setCell a v) :=
  ⟨h.os, h.tape, h.output, by simpa [World.setCell] using h.size, fun k hk => by
    simp only [World.setCell, Array.getElem?_modify]
    rw [h.block k hk]⟩

/-- Due is left: its result lies in its two cells. -/
theorem leave33 {w W : World} {Oc : Nat} {a b c d e f g h i j k l n : Value} {v u : Value} (hD : W.heap[Oc + 4]? = some (.deferred (some []))) (h4 : W.cell? ⟨Oc + 1, 0, none⟩ = some v) (h5 : W.cell? ⟨Oc + 1 + 1, 0, none⟩ = some u) (hb : Below Oc w W) :
    bodyPostM Fence.wide 0 Try.prog Try.f33 (fun e w' => e = .returned (.tuple #[v, u]) ∧ Below Oc w w') Exit.ret
      { tmps := #[a, b, c, d, .pointer (some ⟨Oc + 1, 0, none⟩), .pointer (some ⟨Oc + 1 + 1, 0, none⟩), e, f, g, h, i, j, k, l, n, n], defers := [{ target := .collected (Oc + 4), args := #[] }] } W := by
  have hp : Ch (fun j => j = Oc + 4) W (W.putObj (Oc + 4) (.deferred none)) := (Ch.refl _ _).putObj _ _ rfl
  have g4 := hp.cell h4 (by show ¬ Oc + 1 = Oc + 4; omega)
  have g5 := hp.cell h5 (by show ¬ Oc + 1 + 1 = Oc + 4; omega)
  refine ⟨by simp, .inl ⟨_, _, rfl, run_takeDeferred hD, ?_⟩⟩
  refine ⟨.tuple #[v, u], ?_, rfl, ?_⟩
  · simp [results, Try.results33, go_sem, g4, g5]
  · exact hb.trans (hp.below (fun j hj e => by omega) (by have := World.block_lt_of_cell? W _ h4; simp only at this; omega))

set_option maxHeartbeats 1000000 in
theorem due_any (q : Nat) (L : List Tm) (A : List (Int × Int)) (id : Int) (w : World) (h : QAt w q L) (hA : tolds 0 L = A) (hok : OkA A) :
    Calls Try.prog 33 #[.pointer (some ⟨q, 0, none⟩), .int .i64 id] w fun e w' => e = .returned (.tuple #[.int .i64 (lookT id A), .bool (inA id A)]) ∧ Below w.heap.size w w' := by
  refine (callsIn_wide (n := 0)).1 ?_
  refine callsIn_of_wp_marks Try.func33 rfl trivial ?_ rfl
  simp only [Try.ntmps33, List.size_toArray, List.length_cons, List.length_nil, Nat.reduceAdd, Nat.reduceSub, Array.replicate_succ, Array.replicate_zero, List.push_toArray, List.append_toArray, List.nil_append, List.cons_append]
  gi_wp2_with (refine ⟨trivial, rfl, ?_⟩; gi_at_call 60; refine (callsIn_wide.2 (AllD_any _ _)).mono ?_; rintro e w' ⟨rfl, rfl⟩)
  obtain ⟨Oc, hOc⟩ : ∃ Oc, Oc = w.heap.size := ⟨_, rfl⟩
  generalize hw2 : World.alloc (World.alloc (World.alloc (World.alloc w _) _) _) _ = w2
  have z2 : w2.heap.size = Oc + 4 := by rw [← hw2, hOc]; simp
  have b2 : Below Oc w w2 := by rw [← hw2, hOc]; exact ((((Below.refl _ w).alloc (Nat.le_refl _) _).alloc (by simp) _).alloc (by simp; omega) _).alloc (by simp; omega) _
  have o2 : w2.cell? ⟨Oc, 0, none⟩ = some (.int .i64 id) ∧ w2.cell? ⟨Oc + 1, 0, none⟩ = some (.int .i64 0) ∧ w2.cell? ⟨Oc + 2, 0, none⟩ = some (.bool false) ∧ w2.frozen? ⟨Oc + 1, 0, none⟩ = false ∧ w2.frozen? ⟨Oc + 2, 0, none⟩ = false ∧ w2.cell? ⟨Oc + 3, 0, none⟩ = some (.pointer (some ⟨q, 0, none⟩)) := by rw [← hw2, hOc]; simp [go_sem]
  have q2 : QAt w2 q L := h.below (by rw [hOc] at b2; exact b2) h.lt.1 h.lt.2
  rw [← hOc]
  have hql : q < Oc ∧ ∀ t ∈ L, t.b < Oc := by rw [hOc]; exact h.lt
  have HOc := Lib.hid hOc
  clear hw2 hOc h
  have HH := Lib.hid (And.intro z2 (And.intro b2 (And.intro o2 q2)))
  have HA := Lib.hid (And.intro hA hok)
  clear z2 b2 o2 q2 hA hok hql
  refine wpIn_rangeF (gf := 76) (lb := #[.pointer (some ⟨Oc + 3, 0, none⟩)]) rfl (enters_of Try.func76 (by kernel_rfl) rfl)
    A.length (fun k => #[.int .i64 (aI A k), .int .i64 (aT A k)]) (fun _ => rfl) (fun _ j => j < Oc + 4)
    (fun k W => Below (Oc + 4) w2 W ∧ ∀ j, j < k → aI A j ≠ id) (fun c _ W => Below (Oc + 4) ((w2.setCell ⟨Oc + 1, 0, none⟩ (.int .i64 (lookT id A))).setCell ⟨Oc + 2, 0, none⟩ (.bool true)) W ∧ c = .ret ∧ inA id A = true)
    (fun k => below_foot _ _ (by rw [HH.out.1]; exact Nat.le_refl _) _) (fun _ _ => below_foot _ _ (by simp [World.setCell]; rw [HH.out.1]; exact Nat.le_refl _) _) ⟨Below.refl _ _, fun j hj => by omega⟩
    (fun k a' _ => a' = { tmps := #[.pointer (some ⟨q, 0, none⟩), .int .i64 id, undef, .pointer (some ⟨Oc, 0, none⟩), .pointer (some ⟨Oc + 1, 0, none⟩), .pointer (some ⟨Oc + 2, 0, none⟩), .int .i64 (aI A k), .int .i64 (aT A k), .pointer (some ⟨q, 0, none⟩), .func (.func 76) #[] #[.pointer (some ⟨Oc + 3, 0, none⟩)], .int .i64 (aI A k), .int .i64 (aT A k), undef, undef, undef, undef], defers := [] })
    (fun _ _ _ _ h _ => h) ?hit ?assign ?body ?done ?stop
  case hit =>
    intro J' Jx' W1 h1 h2 h3 h4 h5 h6 h7 h8
    rw [HH.out.1] at h1 h2 h5 h6 h7 ⊢
    exact dall_in _ (Oc + 3) q L A _ J' Jx' W1 ((h2.cell (p := ⟨Oc + 3, 0, none⟩) (show Oc + 3 < Oc + 4 by omega)).trans HH.out.2.2.1.2.2.2.2.2) (HH.out.2.2.2.new (by rw [HH.out.1]; exact h2)) HA.out.1 HA.out.2 h7 h5 h8
  case assign =>
    intro k W K hi hk hK
    gi_wp2
    exact hK _ _ rfl (Ch.refl _ _) hi (fun _ h => h)
  case body =>
    rintro k a' W ⟨hb, hn⟩ hk rfl hz
    have c0 := (hb.cell (p := ⟨Oc, 0, none⟩) (show Oc < Oc + 4 by omega)).trans HH.out.2.2.1.1
    have c1 := (hb.cell (p := ⟨Oc + 1, 0, none⟩) (show Oc + 1 < Oc + 4 by omega)).trans HH.out.2.2.1.2.1
    have c2 := (hb.cell (p := ⟨Oc + 2, 0, none⟩) (show Oc + 2 < Oc + 4 by omega)).trans HH.out.2.2.1.2.2.1
    have f1 := (hb.frozen (p := ⟨Oc + 1, 0, none⟩) (show Oc + 1 < Oc + 4 by omega)).trans HH.out.2.2.1.2.2.2.1
    have f2 := (hb.frozen (p := ⟨Oc + 2, 0, none⟩) (show Oc + 2 < Oc + 4 by omega)).trans HH.out.2.2.1.2.2.2.2.1
    have HB := Lib.hid (And.intro hb hn)
    clear hb hn
    by_cases e : aI A k = id
    · have eb : (aI A k == id) = true := by simpa using e
      have HL := Lib.hid (look_some hk HB.out.2 e)
      clear e
      gi_wp2
      refine ⟨⟨((Ch.refl _ _).setCell _ _ (.inl (show Oc + 1 < Oc + 4 by omega))).setCell _ _ (.inl (show Oc + 2 < Oc + 4 by omega)), fun _ h => .inl h⟩, ?_, rfl, HL.out.2⟩
      rw [HL.out.1]
      exact below_set (below_set HB.out.1 _ _) _ _
    · have eb : (aI A k == id) = false := by simpa using e
      have HE := Lib.hid e
      clear e
      gi_wp2
      exact ⟨Step.refl _ _, HB.out.1, fun j hj => by
        by_cases ej : j = k
        · rw [ej]; exact HE.out
        · exact HB.out.2 j (by omega)⟩
  case done =>
    rintro W ⟨hb, hn⟩ hD hnD hz
    rw [HH.out.1] at hD hz
    have c0 := (hb.cell (p := ⟨Oc, 0, none⟩) (show Oc < Oc + 4 by omega)).trans HH.out.2.2.1.1
    have c1 := (hb.cell (p := ⟨Oc + 1, 0, none⟩) (show Oc + 1 < Oc + 4 by omega)).trans HH.out.2.2.1.2.1
    have c2 := (hb.cell (p := ⟨Oc + 2, 0, none⟩) (show Oc + 2 < Oc + 4 by omega)).trans HH.out.2.2.1.2.2.1
    have f1 := (hb.frozen (p := ⟨Oc + 1, 0, none⟩) (show Oc + 1 < Oc + 4 by omega)).trans HH.out.2.2.1.2.2.2.1
    have f2 := (hb.frozen (p := ⟨Oc + 2, 0, none⟩) (show Oc + 2 < Oc + 4 by omega)).trans HH.out.2.2.1.2.2.2.2.1
    have hl := look_none hn
    have hd : ((W.setCell ⟨Oc + 1, 0, none⟩ (.int .i64 0)).setCell ⟨Oc + 1 + 1, 0, none⟩ (.bool false)).heap[Oc + 4]? = some (.deferred (some [])) := by
      rw [Below.heap_setCell _ _ _ _ (show Oc + 4 ≠ Oc + 1 + 1 by omega), Below.heap_setCell _ _ _ _ (show Oc + 4 ≠ Oc + 1 by omega)]; exact hD
    have hb3 : Below Oc w ((W.setCell ⟨Oc + 1, 0, none⟩ (.int .i64 0)).setCell ⟨Oc + 1 + 1, 0, none⟩ (.bool false)) :=
      ((HH.out.2.1.trans (hb.mono (by omega))).setCell (show Oc ≤ Oc + 1 by omega) _).setCell (show Oc ≤ Oc + 1 + 1 by omega) _
    have e4 : ((W.setCell ⟨Oc + 1, 0, none⟩ (.int .i64 0)).setCell ⟨Oc + 1 + 1, 0, none⟩ (.bool false)).cell? ⟨Oc + 1, 0, none⟩ = some (.int .i64 0) := by
      rw [World.cell?_of_block (Below.heap_setCell _ _ _ _ (show Oc + 1 ≠ Oc + 1 + 1 by omega))]; exact World.cell?_setCell_same _ _ _ c1
    have e5 : ((W.setCell ⟨Oc + 1, 0, none⟩ (.int .i64 0)).setCell ⟨Oc + 1 + 1, 0, none⟩ (.bool false)).cell? ⟨Oc + 1 + 1, 0, none⟩ = some (.bool false) := by
      refine World.cell?_setCell_same _ _ _ ((World.cell?_of_block (Below.heap_setCell _ _ _ _ (show Oc + 1 + 1 ≠ Oc + 1 by omega))).trans c2)
    have HX := Lib.hid (And.intro hl (And.intro hd (And.intro hb3 (And.intro e4 e5))))
    clear hb hn hD hnD hl hd hb3 e4 e5
    gi_wp2
    rw [HH.out.1]
    rw [HX.out.1.1, HX.out.1.2, ← HOc.out]
    exact leave33 HX.out.2.1 HX.out.2.2.2.1 HX.out.2.2.2.2 HX.out.2.2.1
  case stop =>
    rintro c k W hk ⟨hb, rfl, hi⟩ hD hnD hz
    rw [HH.out.1] at hD hz
    have e4 : W.cell? ⟨Oc + 1, 0, none⟩ = some (.int .i64 (lookT id A)) := by
      rw [hb.cell (p := ⟨Oc + 1, 0, none⟩) (show Oc + 1 < Oc + 4 by omega), World.cell?_of_block (Below.heap_setCell _ _ _ _ (show Oc + 1 ≠ Oc + 2 by omega))]; exact World.cell?_setCell_same _ _ _ HH.out.2.2.1.2.1
    have e5 : W.cell? ⟨Oc + 1 + 1, 0, none⟩ = some (.bool true) := by
      rw [hb.cell (p := ⟨Oc + 1 + 1, 0, none⟩) (show Oc + 1 + 1 < Oc + 4 by omega)]
      exact World.cell?_setCell_same _ _ _ ((World.cell?_of_block (Below.heap_setCell _ _ _ _ (show Oc + 2 ≠ Oc + 1 by omega))).trans HH.out.2.2.1.2.2.1)
    have hb3 : Below Oc w W := ((HH.out.2.1.setCell (show Oc ≤ Oc + 1 by omega) _).setCell (show Oc ≤ Oc + 2 by omega) _).trans (hb.mono (by omega))
    have HB := Lib.hid (And.intro hD (And.intro hb3 (And.intro e4 e5)))
    clear hb hD hnD hb3 e4 e5
    gi_wp2
    rw [HH.out.1, hi, ← HOc.out]
    exact leave33 HB.out.1 HB.out.2.2.1 HB.out.2.2.2 HB.out.2.1
end Go.Proofs.Ytkbmgilceioieaa
