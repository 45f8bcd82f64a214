/- The contract of guard's Open. -/
import Derived.Test.YtdfknobohgncaaaDoorGB
import Derived.Test.YtdfknobohgncaaaDoorIter
namespace Go.Proofs.YtdfknobohgncaaaDoor
open Go.RowKit
attribute [local go_sem] Oper.semAt_some

/-- Which of a set's tasks are open, of the first so many. -/
def opK (c : Nat → Int) (now : Int) (L : List Int) : Nat → BitVec 32
  | 0 => 0#32
  | k + 1 => if mayG c (nth L k) now then opK c now L k ||| onl (nth L k) else opK c now L k
/-- What is known while they are looked for. -/
def IO (w2 : World) (Oc : Nat) (y : BitVec 32) (W : World) : Prop := Below (Oc + 2) w2 W ∧ W.cell? ⟨Oc + 2, 0, none⟩ = some (.int .u32 (w32 y)) ∧ W.frozen? ⟨Oc + 2, 0, none⟩ = false
theorem IO.foot {w2 : World} {Oc : Nat} {y : BitVec 32} (hs : w2.heap.size = Oc + 4) : Foot (fun _ j => j < Oc + 3) (IO w2 Oc y) where
  lt := fun W ⟨h, _, _⟩ j hj => by have := h.size; omega
  keep := fun W W' ⟨h1, h2, h3⟩ hc => by
    have nO : ¬ ¬ (Oc + 2 < Oc + 3) := fun h => h (by omega)
    exact ⟨⟨h1.trans (Ch.below hc (fun j hj hn => hn (by omega)) (by have := h1.size; omega)), hc.cell h2 nO, (hc.frozenCell h2 nO).trans h3⟩, fun j hj => hj⟩
set_option maxHeartbeats 2000000 in
set_option maxRecDepth 100000 in
theorem open_any {w : World} {B : Nat} {c : Nat → Int} (h : GAt w B c) (ht : Tab w) (s : BitVec 32) (now : Int) : Calls Tryd.prog 6 #[.pointer (some ⟨B, 0, none⟩), .int .u32 (w32 s), .int .i64 now] w fun e w' =>
    e = .returned (.int .u32 (w32 (opK c now (ints (lst s 32)) (lst s 32).length))) ∧ Below w.heap.size w w' := by
  refine (callsIn_wide (n := 0)).1 ?_
  have hp := ht.pos
  have hBl := h.lt
  obtain ⟨L, hL⟩ : ∃ L, L = ints (lst s 32) := ⟨_, rfl⟩
  obtain ⟨N, hN⟩ : ∃ N, N = (lst s 32).length := ⟨_, rfl⟩
  rw [← hL, ← hN]
  refine callsIn_of_wp_marks Tryd.func6 rfl trivial ?_ rfl
  simp only [Tryd.ntmps6, List.size_toArray, List.length_cons, List.length_nil, Nat.reduceAdd, Nat.reduceSub, Array.replicate_succ, Array.replicate_zero, List.push_toArray, List.append_toArray, List.nil_append, List.cons_append]
  gi_wp2_with (refine ⟨trivial, rfl, ?_⟩; gi_at_call 22; refine (callsIn_wide.2 (All_any _ _)).mono ?_; rintro e w' ⟨rfl, rfl⟩)
  obtain ⟨Oc, hOc⟩ : ∃ Oc, Oc = w.heap.size := ⟨_, rfl⟩
  generalize hw2 : World.alloc (World.alloc (World.alloc (World.alloc w _) _) _) _ = w2
  have z2 : w2.heap.size = Oc + 4 := by rw [← hw2, hOc]; simp
  have b2 : Below Oc w w2 := by rw [← hw2, hOc]; exact ((((Below.refl _ w).alloc (Nat.le_refl _) _).alloc (by simp) _).alloc (by simp; omega) _).alloc (by simp; omega) _
  have o2 : w2.cell? ⟨Oc, 0, none⟩ = some (.pointer (some ⟨B, 0, none⟩)) ∧ w2.cell? ⟨Oc + 1, 0, none⟩ = some (.int .i64 now) ∧ w2.cell? ⟨Oc + 2, 0, none⟩ = some (.int .u32 0) ∧ w2.frozen? ⟨Oc + 2, 0, none⟩ = false ∧ w2.cell? ⟨Oc + 3, 0, none⟩ = some (.int .u32 (w32 s)) := by rw [← hw2, hOc]; simp [go_sem]
  have q2 : GAt w2 B c := h.below b2 (by omega)
  have t2 : Tab w2 := ht.below (by omega) b2
  rw [← hOc]
  have HOc := Lib.hid hOc
  have HC := Lib.hid (show ∀ W', Below (Oc + 2) w2 W' → W'.cell? ⟨Oc, 0, none⟩ = some (.pointer (some ⟨B, 0, none⟩)) ∧ W'.cell? ⟨Oc + 1, 0, none⟩ = some (.int .i64 now) ∧ GAt W' B c ∧ Tab W' from
    fun W' hb => ⟨(hb.cell (p := ⟨Oc, 0, none⟩) (show Oc < Oc + 2 by omega)).trans o2.1, (hb.cell (p := ⟨Oc + 1, 0, none⟩) (show Oc + 1 < Oc + 2 by omega)).trans o2.2.1, q2.below hb (by omega), t2.below (by omega) hb⟩)
  have hI0 : IO w2 Oc (opK c now L 0) w2 := ⟨Below.refl _ _, o2.2.2.1, o2.2.2.2.1⟩
  have HH := Lib.hid (And.intro z2 (And.intro hI0 (And.intro o2.2.2.2.2 b2)))
  have HL := Lib.hid (And.intro hL hN)
  clear hw2 z2 b2 o2 q2 t2 hI0 hL hN h ht hBl hp hOc
  refine wpIn_rangeF (gf := 32) (lb := #[.pointer (some ⟨Oc + 3, 0, none⟩)]) rfl (enters_of Tryd.func32 (by kernel_rfl) rfl)
    N (fun k => #[.int .i64 (nth L k)]) (fun _ => rfl) (fun _ j => j < Oc + 3)
    (fun k W => IO w2 Oc (opK c now L k) W) (fun _ _ _ => False)
    (fun k => IO.foot HH.out.1) (fun _ _ => ⟨fun _ h => h.elim, fun _ _ h => h.elim⟩) HH.out.2.1
    (fun k a' _ => a' = { tmps := #[.pointer (some ⟨B, 0, none⟩), .int .u32 (w32 s), .int .i64 now, .pointer (some ⟨Oc, 0, none⟩), undef, .pointer (some ⟨Oc + 1, 0, none⟩), .int .u32 0, .pointer (some ⟨Oc + 2, 0, none⟩), .int .i64 (nth L k), .int .u32 (w32 s), .func (.func 32) #[] #[.pointer (some ⟨Oc + 3, 0, none⟩)], .int .i64 (nth L k), undef, undef, undef, undef, undef, undef, undef, undef], defers := [] })
    (fun _ _ _ _ h _ => h) ?hit ?assign ?body ?done (fun _ _ _ _ h => h.elim)
  case hit =>
    intro J' Jx' W1 h1 h2 h3 h4 h5 h6 h7 h8
    rw [HH.out.1] at h1 h2 h3 h4 h5 h6 h7 ⊢
    rw [HL.out.1] at h7
    rw [HL.out.2] at h7 ⊢
    exact all_in _ (Oc + 3) s _ J' Jx' W1 (fun k W' hJ => (HC.out W' (h3 k W' hJ).1.1).2.2.2) ((h2.cell (p := ⟨Oc + 3, 0, none⟩) (show Oc + 3 < Oc + 4 by omega)).trans HH.out.2.2.1) h7 h8
  case assign =>
    intro k W K hi hk hK
    gi_wp2
    exact hK _ _ rfl (Ch.refl _ _) hi (fun _ h => h)
  case body =>
    rintro k a' W ⟨h1, h2, h3⟩ hk rfl hz
    obtain ⟨e0, e1, g1, -⟩ := HC.out W h1
    obtain ⟨x, hx⟩ : ∃ x, nth L k = x := ⟨_, rfl⟩
    obtain ⟨y, hy⟩ : ∃ y, opK c now L k = y := ⟨_, rfl⟩
    have HO := Lib.hid (show opK c now L (k + 1) = if mayG c x now then y ||| onl x else y by rw [← hx, ← hy]; rfl)
    rw [hy] at h2
    rw [hx]
    have HM := Lib.hid (may_any g1 x now)
    have HW := Lib.hid (with_any y x W)
    have H1 := Lib.hid (And.intro h1 (And.intro h2 h3))
    clear g1 hx hy h1
    cases hm : mayG c x now with
    | false =>
      rw [hm] at HM HO
      clear hm
      gi_wp2_with (refine ⟨trivial, rfl, ?_⟩; gi_at_call 5; refine (CallsIn.inRound _ (callsIn_wide.2 HM.out)).mono ?_; rintro e w5 ⟨rfl, rfl⟩)
      exact ⟨Step.refl _ _, by show IO w2 Oc (opK c now L (k + 1)) _; rw [HO.out]; exact H1.out⟩
    | true =>
      rw [hm] at HM HO
      clear hm
      gi_wp2_with (first
        | (refine ⟨trivial, rfl, ?_⟩; gi_at_call 5; refine (CallsIn.inRound _ (callsIn_wide.2 HM.out)).mono ?_; rintro e w5 ⟨rfl, rfl⟩)
        | (refine ⟨trivial, rfl, ?_⟩; gi_at_call 23; refine (CallsIn.inRound _ (callsIn_wide.2 HW.out)).mono ?_; rintro e w5 ⟨rfl, rfl⟩))
      refine ⟨⟨(Ch.refl _ _).setCell ⟨Oc + 2, 0, none⟩ _ (.inl (by show Oc + 2 < Oc + 3; omega)), fun j hj => .inl hj⟩, ?_⟩
      show IO w2 Oc (opK c now L (k + 1)) _
      rw [HO.out]
      exact ⟨H1.out.1.setCell (Nat.le_refl _) _, World.cell?_setCell_same _ _ _ H1.out.2.1, by rw [World.frozen?_setCell]; exact H1.out.2.2⟩
  case done =>
    rintro W ⟨h1, h2, h3⟩ hD hnD hz
    rw [HH.out.1] at hD hnD hz
    have HK := Lib.hid (And.intro h1 hD)
    obtain ⟨y, hy⟩ : ∃ y, opK c now L N = y := ⟨_, rfl⟩
    rw [hy] at h2
    have HY := Lib.hid hy
    clear h1 hD hnD h3 hy
    gi_wp2
    rw [HH.out.1, HY.out]
    have hp : Ch (fun j => j = Oc + 4) W (W.putObj (Oc + 4) (.deferred none)) := (Ch.refl _ _).putObj _ _ rfl
    refine ⟨by simp, .inl ⟨_, _, rfl, run_takeDeferred HK.out.2, ?_⟩⟩
    refine ⟨.int .u32 (w32 y), ?_, rfl, ?_⟩
    · simp [results, Tryd.results6, go_sem]
    · rw [← HOc.out]
      exact (HH.out.2.2.2.trans (HK.out.1.mono (by omega))).trans (hp.below (fun j hj e => by omega) (by have := HK.out.1.size; have := HH.out.1; omega))
end Go.Proofs.YtdfknobohgncaaaDoor
