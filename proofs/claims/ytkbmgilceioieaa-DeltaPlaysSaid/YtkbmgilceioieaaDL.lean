/- The contract of the law's alive, and of the calls on a queue of timers that the law itself has made. -/
import Derived.Test.YtkbmgilceioieaaDR
namespace Go.Proofs.Ytkbmgilceioieaa
open Go.RowKit

/-- A queue that lies above block number B and tells A. -/
def DQ (B : Nat) (w : World) (q : Nat) (A : List (Int × Int)) : Prop :=
  ∃ L, QAt w q L ∧ tolds 0 L = A ∧ OkA A ∧ B ≤ q ∧ ∀ t ∈ L, B ≤ t.b

theorem DQ.new (w : World) (B : Nat) (hB : B ≤ w.heap.size) : DQ B (w.alloc (.cells #[.pointer none] 57)) w.heap.size [] :=
  ⟨[], ⟨World.alloc_heap_new _ _, trivial, by simp [bsL]⟩, rfl, okA_nil, hB, by simp⟩

/-- A call's contract: the queue tells A' then, and nothing below B has turned. -/
theorem DQ.next {B : Nat} {w w' : World} {q : Nat} {L : List Tm} {A A' : List (Int × Int)} (h1 : QAt w q L) (_hA : tolds 0 L = A) (hB : B ≤ q) (hb : ∀ t ∈ L, B ≤ t.b) (hs : B ≤ w.heap.size) (hok : OkA A') (h : Next w q L A' w') :
    DQ B w' q A' ∧ Below B w w' := by
  obtain ⟨L', q', e', c', b'⟩ := h
  have hbs : ∀ j, j ∈ bsL L → B ≤ j := fun j hj => by
    obtain ⟨t, ht, e⟩ := List.mem_map.1 hj
    rw [← e]; exact hb t ht
  refine ⟨⟨L', q', e', hok, hB, fun t ht => ?_⟩, c'.below (fun k hk hT => ?_) hs⟩
  · rcases b' t ht with h | h
    · exact hbs _ h
    · omega
  · rcases hT with rfl | hT
    · omega
    · have := hbs k hT; omega

theorem add_dq {B q : Nat} {A : List (Int × Int)} {w : World} (id t : Int) (hs : B ≤ w.heap.size) (h : DQ B w q A) :
    Calls Try.prog 31 #[.pointer (some ⟨q, 0, none⟩), .int .i64 id, .int .i64 t] w fun e w' => e = .returned (.bool (fitsA id t A)) ∧ DQ B w' q (addA id t A) ∧ Below B w w' := by
  obtain ⟨L, h1, hA, hok, hB, hb⟩ := h
  refine (add_any q L A id t w h1 hA hok).mono ?_
  rintro e w' ⟨rfl, hN⟩
  exact ⟨rfl, DQ.next h1 hA hB hb hs (okA_add hok) hN⟩

theorem len_dq {B q : Nat} {A : List (Int × Int)} {w : World} (h : DQ B w q A) :
    Calls Try.prog 34 #[.pointer (some ⟨q, 0, none⟩)] w fun e w' => e = .returned (.int .i64 A.length) ∧ w = w' := by
  obtain ⟨L, h1, hA, hok, hB, hb⟩ := h
  have hl : L.length = A.length := by rw [← hA, tolds_len]
  have := len_any q L w h1 (by rw [hl]; exact hok.len)
  rw [hl] at this
  exact this

theorem tick_dq {B q : Nat} {A : List (Int × Int)} {w : World} (hs : B ≤ w.heap.size) (h : DQ B w q A) :
    Calls Try.prog 28 #[.pointer (some ⟨q, 0, none⟩)] w fun e w' => ∃ sp g cap, e = .returned (.slice sp (dueA A).length cap) ∧ IsRow w' sp g (dueA A) ∧ (0 < (dueA A).length → w.heap.size ≤ g ∧ g < w'.heap.size) ∧ DQ B w' q (tickA A) ∧ Below B w w' := by
  obtain ⟨L, h1, hA, hok, hB, hb⟩ := h
  refine (tick_any q L A w h1 hA hok).mono ?_
  rintro e w' ⟨v, rfl, ho, hN⟩
  obtain ⟨sp, g, cap, rfl, h2, h3⟩ := own_row ho
  exact ⟨sp, g, cap, rfl, h2, h3, DQ.next h1 hA hB hb hs (okA_tick hok) hN⟩

theorem DQ.lt {B q : Nat} {A : List (Int × Int)} {w : World} (h : DQ B w q A) : q < w.heap.size := by
  obtain ⟨L, h1, -⟩ := h; exact h1.lt.1
theorem DQ.drewN {B q : Nat} {A : List (Int × Int)} {w : World} (n : Nat) (h : DQ B w q A) : DQ B (w.drewN n) q A := by
  obtain ⟨L, h1, r⟩ := h; exact ⟨L, h1.same rfl fun _ _ => rfl, r⟩
theorem DQ.drew {B q : Nat} {A : List (Int × Int)} {w : World} (h : DQ B w q A) : DQ B w.drew q A := by
  obtain ⟨L, h1, r⟩ := h; exact ⟨L, h1.same rfl fun _ _ => rfl, r⟩
theorem DQ.below {B n q : Nat} {A : List (Int × Int)} {w w' : World} (h : DQ B w q A) (hb : Below n w w') (hn : w.heap.size ≤ n) : DQ B w' q A := by
  obtain ⟨L, h1, r⟩ := h; exact ⟨L, h1.below hb (Nat.lt_of_lt_of_le h1.lt.1 hn) (fun t ht => Nat.lt_of_lt_of_le (h1.lt.2 t ht) hn), r⟩
theorem DQ.alloc {B q : Nat} {A : List (Int × Int)} {w : World} (o : Obj) (h : DQ B w q A) : DQ B (w.alloc o) q A := by
  obtain ⟨L, h1, r⟩ := h; exact ⟨L, h1.new ((Below.refl _ _).alloc (Nat.le_refl _) _), r⟩

theorem Below.drewN {B : Nat} {a w : World} (h : Below B a w) (n : Nat) : Below B a (w.drewN n) := ⟨h.os, h.tape, h.output, h.size, h.block⟩
theorem row_one (w : World) (a : Int) : IsRow (w.alloc (.cells #[.int .i64 a] 3)) (some ⟨w.heap.size, 0, none⟩) w.heap.size [a] :=
  ⟨fun _ => rfl, fun k hk => by
    have : k = 0 := by simpa using hk
    subst this; simp [go_sem, nth]⟩
theorem row_two (w : World) (a b : Int) : IsRow (w.alloc (.cells #[.int .i64 a, .int .i64 b] 3)) (some ⟨w.heap.size, 0, none⟩) w.heap.size [a, b] :=
  ⟨fun _ => rfl, fun k hk => by
    have : k < 2 := by simpa using hk
    rcases k with _ | _ | k
    · simp [go_sem, nth]
    · simp [go_sem, nth]
    · omega⟩
def al1 : List (Int × Int) := addA 9 2 (addA 8 1 (addA 7 2 []))
theorem al_facts : fitsA 7 2 [] = true ∧ fitsA 8 1 (addA 7 2 []) = true ∧ fitsA 9 2 (addA 8 1 (addA 7 2 [])) = true ∧ dueA al1 = [8] ∧ dueA (tickA al1) = [7, 9] ∧ tickA (tickA al1) = [] := by decide

set_option maxHeartbeats 1000000 in
theorem alive_any (w : World) : Calls Try.prog 37 #[] w fun e w' => e = .returned (.bool true) ∧ Below w.heap.size w w' := by
  obtain ⟨f1, f2, f3, d1, d2, e2⟩ := al_facts
  have hq := DQ.new w w.heap.size (Nat.le_refl _)
  have b0 : Below w.heap.size w (w.alloc (.cells #[.pointer none] 57)) := (Below.refl _ _).alloc (Nat.le_refl _) _
  obtain ⟨q, hqe⟩ : ∃ q, q = w.heap.size := ⟨_, rfl⟩
  have C1 := add_dq 7 2 (by simp) hq
  rw [f1] at C1
  have HC1 := Lib.hid C1
  have HF := Lib.hid (And.intro f2 (And.intro f3 (And.intro d1 (And.intro d2 e2))))
  have HB0 := Lib.hid b0
  clear C1 f1 f2 f3 d1 d2 e2 hq b0 hqe
  go_enter Try.func37, Try.ntmps37
  go_wp2_with fail
  refine HC1.out.mono ?_
  rintro e w1 ⟨rfl, q1, b1⟩
  have HB1 := Lib.hid (HB0.out.trans b1)
  have C2 := add_dq 8 1 HB1.out.size q1
  rw [HF.out.1] at C2
  have HC2 := Lib.hid C2
  clear q1 b1 C2
  go_wp2_with fail
  refine HC2.out.mono ?_
  rintro e w2 ⟨rfl, q2, b2⟩
  have HB2 := Lib.hid (HB1.out.trans b2)
  have C3 := add_dq 9 2 HB2.out.size q2
  rw [HF.out.2.1] at C3
  have HC3 := Lib.hid C3
  clear q2 b2 C3
  go_wp2_with fail
  refine HC3.out.mono ?_
  rintro e w3 ⟨rfl, q3, b3⟩
  have HB3 := Lib.hid (HB2.out.trans b3)
  have C4 := tick_dq HB3.out.size (show DQ _ _ _ al1 from q3)
  rw [HF.out.2.2.1] at C4
  have HC4 := Lib.hid C4
  clear q3 b3 C4
  go_wp2_with fail
  refine HC4.out.mono ?_
  rintro e w4 ⟨sp, g, cap, rfl, r4, g4, q4, b4⟩
  have HB4 := Lib.hid (HB3.out.trans b4)
  have HR4 := Lib.hid r4
  have HQ4 := Lib.hid q4
  have HG4 := Lib.hid g4
  clear r4 g4 q4 b4
  go_wp2_with fail
  have b5 : Below w4.heap.size w4 (w4.alloc (.cells #[.int .i64 8] 3)) := (Below.refl _ _).alloc (Nat.le_refl _) _
  have r5 : IsRow (w4.alloc (.cells #[.int .i64 8] 3)) (some ⟨w4.heap.size, 0, none⟩) w4.heap.size [8] := row_one _ _
  refine (row_any [8] [8] sp (some ⟨w4.heap.size, 0, none⟩) g w4.heap.size cap 1 _ (HR4.out.below b5 fun h => (HG4.out h).2) r5 (by decide) (by decide)).mono ?_
  rintro e w5 ⟨rfl, n, rfl⟩
  have HB5 := Lib.hid (Below.drewN (HB4.out.trans (b5.mono HB4.out.size)) n)
  have C6 := tick_dq HB5.out.size ((HQ4.out.alloc (.cells #[.int .i64 8] 3)).drewN n)
  rw [HF.out.2.2.2.1] at C6
  have HC6 := Lib.hid C6
  clear b5 r5 C6
  go_wp2_with fail
  refine HC6.out.mono ?_
  rintro e w6 ⟨sp6, g6, cap6, rfl, r6, g6l, q6, b6⟩
  have HB6 := Lib.hid (HB5.out.trans b6)
  have HR6 := Lib.hid r6
  have HG6 := Lib.hid g6l
  rw [HF.out.2.2.2.2] at q6
  have HQ6 := Lib.hid q6
  clear r6 g6l q6 b6
  go_wp2_with fail
  have b7 : Below w6.heap.size w6 (w6.alloc (.cells #[.int .i64 7, .int .i64 9] 3)) := (Below.refl _ _).alloc (Nat.le_refl _) _
  have r7 : IsRow (w6.alloc (.cells #[.int .i64 7, .int .i64 9] 3)) (some ⟨w6.heap.size, 0, none⟩) w6.heap.size [7, 9] := row_two _ _ _
  refine (row_any [7, 9] [7, 9] sp6 (some ⟨w6.heap.size, 0, none⟩) g6 w6.heap.size cap6 2 _ (HR6.out.below b7 fun h => (HG6.out h).2) r7 (by decide) (by decide)).mono ?_
  rintro e w7 ⟨rfl, n7, rfl⟩
  have HB7 := Lib.hid (Below.drewN (HB6.out.trans (b7.mono HB6.out.size)) n7)
  have HC8 := Lib.hid (len_dq ((HQ6.out.alloc (.cells #[.int .i64 7, .int .i64 9] 3)).drewN n7))
  clear b7 r7
  go_wp2_with (go_at_call 34; refine HC8.out.mono ?_; rintro e w' ⟨rfl, rfl⟩)
  go_ret
  exact ⟨rfl, HB7.out⟩
end Go.Proofs.Ytkbmgilceioieaa
