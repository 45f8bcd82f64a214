/- JobWorks' walk. -/
import Derived.Test.YtcipkkeegbfaeaaXS
import Derived.Deep.RegionWith
namespace Go.Proofs.Ytcipkkeegbfaeaa
open Go.RowKit

theorem secs_of2 {w : World} {base : Nat} {v : Value} {n : Nat} {L : Nat → Sec} (h : w.ownsRow base 99 3 v n (secR L n)) (hn : n ≤ 1000) : ∃ S : Src, v = .slice S.sp n S.c ∧ SecsOf w S n L ∧ (0 < n → base ≤ S.b) := by
  obtain ⟨S, rfl, h1, h2⟩ := own_rows h (fun k _ => secs_rows L k) (by omega)
  exact ⟨S, rfl, ⟨⟨fun h0 => ⟨(h1 h0).1, (h1 h0).2.2.1, fun h => h⟩, by omega⟩, h2⟩, fun h0 => (h1 h0).2.1⟩
theorem SecsOf.keep {w w' : World} {S : Src} {n : Nat} {L : Nat → Sec} {T : Nat → Prop} (h : SecsOf w S n L) (hc : Ch T w w') (hT : 0 < n → ¬ T S.b) : SecsOf w' S n L :=
  ⟨h.sl.keep hc, fun k hk => (h.e k hk).keep hc (hT (by omega))⟩
/-- Where the law's things lie while the job works. -/
structure WJ (w wr : World) (Z A J : Nat) (task ask job : Array Value) (S R : Src) (N : Nat) (g : Nat → Sec) : Prop where
  b : Below w.heap.size w wr
  z : RowAt wr Z 62 task
  a : RowAt wr A 69 ask
  j : RowAt wr J 71 job
  s : SecsOf wr S N g
  r : SecsOf wr R N g
  nZ : Z ≠ J
  nA : A ≠ J
  nJ : w.heap.size ≤ J
  nS : 0 < N → S.b ≠ J
  nR : 0 < N → R.b ≠ J
theorem WJ.new {w wr w' : World} {Z A J : Nat} {task ask job : Array Value} {S R : Src} {N : Nat} {g : Nat → Sec} (h : WJ w wr Z A J task ask job S R N g) (hb : Below wr.heap.size wr w') : WJ w w' Z A J task ask job S R N g :=
  ⟨h.b.trans (hb.mono h.b.size), h.z.new hb, h.a.new hb, h.j.new hb, h.s.new hb, h.r.new hb, h.nZ, h.nA, h.nJ, h.nS, h.nR⟩
theorem WJ.work {w wr w' : World} {Z A J : Nat} {task ask job job' : Array Value} {S R : Src} {N : Nat} {g : Nat → Sec} (h : WJ w wr Z A J task ask job S R N g) (hc : Ch (fun j => j = J) wr w') (hj : RowAt w' J 71 job') : WJ w w' Z A J task ask job' S R N g :=
  ⟨h.b.trans (hc.below (fun j hj e => by have := h.nJ; omega) h.b.size), h.z.keep hc h.nZ, h.a.keep hc h.nA, hj, h.s.keep hc h.nS, h.r.keep hc h.nR, h.nZ, h.nA, h.nJ, h.nS, h.nR⟩
set_option maxHeartbeats 16000000 in
set_option maxRecDepth 100000 in
theorem law_works25 {w : World} {S : Src} {n : Nat} {L : Nat → Sec} (h : SecsOf w S n L) (a0 a1 a2 : Int) (f : Nat → Int) (id now cost : Int) (hr : ∀ k, k < n → (-9223372036854775808 ≤ (L k).t ∧ (L k).t ≤ 9223372036854775807)) (hc : -9223372036854775808 ≤ cost ∧ cost ≤ 9223372036854775807) :
    Calls Try.prog 8 #[.agg #[.int .i64 a0, .int .i64 a1, .int .i64 a2, .int .i64 (f 0), .int .i64 (f 1), .int .i64 (f 2), .int .i64 (f 3), .int .i64 (f 4), .int .i64 (f 5), .int .i64 (f 6), .int .i64 (f 7)], .agg #[.int .i64 id, .int .i64 now, .int .i64 cost, .slice S.sp n S.c]] w fun e w' => e = .returned (.bool true) ∧ Below w.heap.size w w' := by
  obtain ⟨Z, hZ⟩ : ∃ Z, Z = w.heap.size := ⟨_, rfl⟩
  obtain ⟨A, hA⟩ : ∃ A, A = w.heap.size + 1 := ⟨_, rfl⟩
  have HW := Lib.hid (show ∀ w2, (w.alloc (.cells #[.int .i64 a0, .int .i64 a1, .int .i64 a2, .int .i64 (f 0), .int .i64 (f 1), .int .i64 (f 2), .int .i64 (f 3), .int .i64 (f 4), .int .i64 (f 5), .int .i64 (f 6), .int .i64 (f 7)] 62)).alloc (.cells #[.int .i64 id, .int .i64 now, .int .i64 cost, .slice S.sp n S.c] 69) = w2 → Below w.heap.size w w2 ∧ RowAt w2 Z 62 #[.int .i64 a0, .int .i64 a1, .int .i64 a2, .int .i64 (f 0), .int .i64 (f 1), .int .i64 (f 2), .int .i64 (f 3), .int .i64 (f 4), .int .i64 (f 5), .int .i64 (f 6), .int .i64 (f 7)] ∧ RowAt w2 A 69 #[.int .i64 id, .int .i64 now, .int .i64 cost, .slice S.sp n S.c] from fun w2 hw => by
    have h3 := two_alloc (w := w) (a := #[.int .i64 a0, .int .i64 a1, .int .i64 a2, .int .i64 (f 0), .int .i64 (f 1), .int .i64 (f 2), .int .i64 (f 3), .int .i64 (f 4), .int .i64 (f 5), .int .i64 (f 6), .int .i64 (f 7)]) (b := #[.int .i64 id, .int .i64 now, .int .i64 cost, .slice S.sp n S.c]) (ta := 62) (tb := 69) (Below.refl _ _)
    rw [hw] at h3
    rw [hZ, hA]; exact h3)
  have HZA := Lib.hid (And.intro hZ hA)
  have hsm := h.sl.sm
  have HH := Lib.hid h
  have HRt := Lib.hid (fun wx => right_any a0 a1 a2 f wx)
  obtain ⟨sp, sb, so, sc⟩ := S
  dsimp only at HW ⊢
  have HRC := Lib.hid (And.intro hr hc)
  clear h hr hc
  go_enter Try.func8, Try.ntmps8
  go_upto_region 1 with fail
  rw [← hA, ← hZ]
  generalize hw2 : World.alloc _ _ = w2
  have H2 := Lib.hid (HW.out w2 hw2)
  clear hw2 HW hZ hA
  have c0 : w2.cell? ⟨Z, 0, none⟩ = some (.int .i64 a0) := H2.out.2.1.cell 0
  have c1 : w2.cell? ⟨Z, 1, none⟩ = some (.int .i64 a1) := H2.out.2.1.cell 1
  have c2 : w2.cell? ⟨Z, 2, none⟩ = some (.int .i64 a2) := H2.out.2.1.cell 2
  have c3 : w2.cell? ⟨Z, 3, none⟩ = some (.int .i64 (f 0)) := H2.out.2.1.cell 3
  have c4 : w2.cell? ⟨Z, 4, none⟩ = some (.int .i64 (f 1)) := H2.out.2.1.cell 4
  have c5 : w2.cell? ⟨Z, 5, none⟩ = some (.int .i64 (f 2)) := H2.out.2.1.cell 5
  have c6 : w2.cell? ⟨Z, 6, none⟩ = some (.int .i64 (f 3)) := H2.out.2.1.cell 6
  have c7 : w2.cell? ⟨Z, 7, none⟩ = some (.int .i64 (f 4)) := H2.out.2.1.cell 7
  have c8 : w2.cell? ⟨Z, 8, none⟩ = some (.int .i64 (f 5)) := H2.out.2.1.cell 8
  have c9 : w2.cell? ⟨Z, 9, none⟩ = some (.int .i64 (f 6)) := H2.out.2.1.cell 9
  have c10 : w2.cell? ⟨Z, 10, none⟩ = some (.int .i64 (f 7)) := H2.out.2.1.cell 10
  have d0 : w2.cell? ⟨A, 0, none⟩ = some (.int .i64 id) := H2.out.2.2.cell 0
  have d1 : w2.cell? ⟨A, 1, none⟩ = some (.int .i64 now) := H2.out.2.2.cell 1
  have d2 : w2.cell? ⟨A, 2, none⟩ = some (.int .i64 cost) := H2.out.2.2.cell 2
  have d3 : w2.cell? ⟨A, 3, none⟩ = some (.slice sp n sc) := H2.out.2.2.cell 3
  by_cases q0 : 1000 < n
  · have q0i : (1000 : Int) < n := by omega
    clear HRt
    go_wp2
    go_ret
    exact ⟨rfl, H2.out.1⟩
  have q0i : ¬ (1000 : Int) < n := by omega
  cases hv : rightB f with
  | false =>
    rw [hv] at HRt
    clear hv
    go_wp2_with (go_at_call 28; refine (HRt.out _).mono ?_; rintro e w3 ⟨rfl, b3⟩; have H3 := Lib.hid (H2.out.1.trans (b3.mono H2.out.1.size)); clear b3)
    go_ret
    exact ⟨rfl, H3.out⟩
  | true =>
  rw [hv] at HRt
  have HF0 := Lib.hid ((rightB_iff f).1 hv)
  clear hv
  by_cases p0 : a2 < 1
  · go_wp2_with (go_at_call 28; refine (HRt.out _).mono ?_; rintro e w3 ⟨rfl, b3⟩; have H3 := Lib.hid (show Below w.heap.size w w3 ∧ RowAt w3 Z 62 #[.int .i64 a0, .int .i64 a1, .int .i64 a2, .int .i64 (f 0), .int .i64 (f 1), .int .i64 (f 2), .int .i64 (f 3), .int .i64 (f 4), .int .i64 (f 5), .int .i64 (f 6), .int .i64 (f 7)] ∧ RowAt w3 A 69 #[.int .i64 id, .int .i64 now, .int .i64 cost, .slice sp n sc] from ⟨H2.out.1.trans (b3.mono H2.out.1.size), H2.out.2.1.new b3, H2.out.2.2.new b3⟩); clear b3 c0 c1 c2 c3 c4 c5 c6 c7 c8 c9 c10 d0 d1 d2 d3; have c0 : w3.cell? ⟨Z, 0, none⟩ = some (.int .i64 a0) := H3.out.2.1.cell 0; have c1 : w3.cell? ⟨Z, 1, none⟩ = some (.int .i64 a1) := H3.out.2.1.cell 1; have c2 : w3.cell? ⟨Z, 2, none⟩ = some (.int .i64 a2) := H3.out.2.1.cell 2; have c3 : w3.cell? ⟨Z, 3, none⟩ = some (.int .i64 (f 0)) := H3.out.2.1.cell 3; have c4 : w3.cell? ⟨Z, 4, none⟩ = some (.int .i64 (f 1)) := H3.out.2.1.cell 4; have c5 : w3.cell? ⟨Z, 5, none⟩ = some (.int .i64 (f 2)) := H3.out.2.1.cell 5; have c6 : w3.cell? ⟨Z, 6, none⟩ = some (.int .i64 (f 3)) := H3.out.2.1.cell 6; have c7 : w3.cell? ⟨Z, 7, none⟩ = some (.int .i64 (f 4)) := H3.out.2.1.cell 7; have c8 : w3.cell? ⟨Z, 8, none⟩ = some (.int .i64 (f 5)) := H3.out.2.1.cell 8; have c9 : w3.cell? ⟨Z, 9, none⟩ = some (.int .i64 (f 6)) := H3.out.2.1.cell 9; have c10 : w3.cell? ⟨Z, 10, none⟩ = some (.int .i64 (f 7)) := H3.out.2.1.cell 10; have d0 : w3.cell? ⟨A, 0, none⟩ = some (.int .i64 id) := H3.out.2.2.cell 0; have d1 : w3.cell? ⟨A, 1, none⟩ = some (.int .i64 now) := H3.out.2.2.cell 1; have d2 : w3.cell? ⟨A, 2, none⟩ = some (.int .i64 cost) := H3.out.2.2.cell 2; have d3 : w3.cell? ⟨A, 3, none⟩ = some (.slice sp n sc) := H3.out.2.2.cell 3)
    go_ret
    exact ⟨rfl, H3.out.1⟩
  by_cases p1 : 500 < a2
  · go_wp2_with (go_at_call 28; refine (HRt.out _).mono ?_; rintro e w3 ⟨rfl, b3⟩; have H3 := Lib.hid (show Below w.heap.size w w3 ∧ RowAt w3 Z 62 #[.int .i64 a0, .int .i64 a1, .int .i64 a2, .int .i64 (f 0), .int .i64 (f 1), .int .i64 (f 2), .int .i64 (f 3), .int .i64 (f 4), .int .i64 (f 5), .int .i64 (f 6), .int .i64 (f 7)] ∧ RowAt w3 A 69 #[.int .i64 id, .int .i64 now, .int .i64 cost, .slice sp n sc] from ⟨H2.out.1.trans (b3.mono H2.out.1.size), H2.out.2.1.new b3, H2.out.2.2.new b3⟩); clear b3 c0 c1 c2 c3 c4 c5 c6 c7 c8 c9 c10 d0 d1 d2 d3; have c0 : w3.cell? ⟨Z, 0, none⟩ = some (.int .i64 a0) := H3.out.2.1.cell 0; have c1 : w3.cell? ⟨Z, 1, none⟩ = some (.int .i64 a1) := H3.out.2.1.cell 1; have c2 : w3.cell? ⟨Z, 2, none⟩ = some (.int .i64 a2) := H3.out.2.1.cell 2; have c3 : w3.cell? ⟨Z, 3, none⟩ = some (.int .i64 (f 0)) := H3.out.2.1.cell 3; have c4 : w3.cell? ⟨Z, 4, none⟩ = some (.int .i64 (f 1)) := H3.out.2.1.cell 4; have c5 : w3.cell? ⟨Z, 5, none⟩ = some (.int .i64 (f 2)) := H3.out.2.1.cell 5; have c6 : w3.cell? ⟨Z, 6, none⟩ = some (.int .i64 (f 3)) := H3.out.2.1.cell 6; have c7 : w3.cell? ⟨Z, 7, none⟩ = some (.int .i64 (f 4)) := H3.out.2.1.cell 7; have c8 : w3.cell? ⟨Z, 8, none⟩ = some (.int .i64 (f 5)) := H3.out.2.1.cell 8; have c9 : w3.cell? ⟨Z, 9, none⟩ = some (.int .i64 (f 6)) := H3.out.2.1.cell 9; have c10 : w3.cell? ⟨Z, 10, none⟩ = some (.int .i64 (f 7)) := H3.out.2.1.cell 10; have d0 : w3.cell? ⟨A, 0, none⟩ = some (.int .i64 id) := H3.out.2.2.cell 0; have d1 : w3.cell? ⟨A, 1, none⟩ = some (.int .i64 now) := H3.out.2.2.cell 1; have d2 : w3.cell? ⟨A, 2, none⟩ = some (.int .i64 cost) := H3.out.2.2.cell 2; have d3 : w3.cell? ⟨A, 3, none⟩ = some (.slice sp n sc) := H3.out.2.2.cell 3)
    go_ret
    exact ⟨rfl, H3.out.1⟩
  by_cases p2 : a1 < 0
  · go_wp2_with (go_at_call 28; refine (HRt.out _).mono ?_; rintro e w3 ⟨rfl, b3⟩; have H3 := Lib.hid (show Below w.heap.size w w3 ∧ RowAt w3 Z 62 #[.int .i64 a0, .int .i64 a1, .int .i64 a2, .int .i64 (f 0), .int .i64 (f 1), .int .i64 (f 2), .int .i64 (f 3), .int .i64 (f 4), .int .i64 (f 5), .int .i64 (f 6), .int .i64 (f 7)] ∧ RowAt w3 A 69 #[.int .i64 id, .int .i64 now, .int .i64 cost, .slice sp n sc] from ⟨H2.out.1.trans (b3.mono H2.out.1.size), H2.out.2.1.new b3, H2.out.2.2.new b3⟩); clear b3 c0 c1 c2 c3 c4 c5 c6 c7 c8 c9 c10 d0 d1 d2 d3; have c0 : w3.cell? ⟨Z, 0, none⟩ = some (.int .i64 a0) := H3.out.2.1.cell 0; have c1 : w3.cell? ⟨Z, 1, none⟩ = some (.int .i64 a1) := H3.out.2.1.cell 1; have c2 : w3.cell? ⟨Z, 2, none⟩ = some (.int .i64 a2) := H3.out.2.1.cell 2; have c3 : w3.cell? ⟨Z, 3, none⟩ = some (.int .i64 (f 0)) := H3.out.2.1.cell 3; have c4 : w3.cell? ⟨Z, 4, none⟩ = some (.int .i64 (f 1)) := H3.out.2.1.cell 4; have c5 : w3.cell? ⟨Z, 5, none⟩ = some (.int .i64 (f 2)) := H3.out.2.1.cell 5; have c6 : w3.cell? ⟨Z, 6, none⟩ = some (.int .i64 (f 3)) := H3.out.2.1.cell 6; have c7 : w3.cell? ⟨Z, 7, none⟩ = some (.int .i64 (f 4)) := H3.out.2.1.cell 7; have c8 : w3.cell? ⟨Z, 8, none⟩ = some (.int .i64 (f 5)) := H3.out.2.1.cell 8; have c9 : w3.cell? ⟨Z, 9, none⟩ = some (.int .i64 (f 6)) := H3.out.2.1.cell 9; have c10 : w3.cell? ⟨Z, 10, none⟩ = some (.int .i64 (f 7)) := H3.out.2.1.cell 10; have d0 : w3.cell? ⟨A, 0, none⟩ = some (.int .i64 id) := H3.out.2.2.cell 0; have d1 : w3.cell? ⟨A, 1, none⟩ = some (.int .i64 now) := H3.out.2.2.cell 1; have d2 : w3.cell? ⟨A, 2, none⟩ = some (.int .i64 cost) := H3.out.2.2.cell 2; have d3 : w3.cell? ⟨A, 3, none⟩ = some (.slice sp n sc) := H3.out.2.2.cell 3)
    go_ret
    exact ⟨rfl, H3.out.1⟩
  by_cases p3 : 1099511627776 < a1
  · go_wp2_with (go_at_call 28; refine (HRt.out _).mono ?_; rintro e w3 ⟨rfl, b3⟩; have H3 := Lib.hid (show Below w.heap.size w w3 ∧ RowAt w3 Z 62 #[.int .i64 a0, .int .i64 a1, .int .i64 a2, .int .i64 (f 0), .int .i64 (f 1), .int .i64 (f 2), .int .i64 (f 3), .int .i64 (f 4), .int .i64 (f 5), .int .i64 (f 6), .int .i64 (f 7)] ∧ RowAt w3 A 69 #[.int .i64 id, .int .i64 now, .int .i64 cost, .slice sp n sc] from ⟨H2.out.1.trans (b3.mono H2.out.1.size), H2.out.2.1.new b3, H2.out.2.2.new b3⟩); clear b3 c0 c1 c2 c3 c4 c5 c6 c7 c8 c9 c10 d0 d1 d2 d3; have c0 : w3.cell? ⟨Z, 0, none⟩ = some (.int .i64 a0) := H3.out.2.1.cell 0; have c1 : w3.cell? ⟨Z, 1, none⟩ = some (.int .i64 a1) := H3.out.2.1.cell 1; have c2 : w3.cell? ⟨Z, 2, none⟩ = some (.int .i64 a2) := H3.out.2.1.cell 2; have c3 : w3.cell? ⟨Z, 3, none⟩ = some (.int .i64 (f 0)) := H3.out.2.1.cell 3; have c4 : w3.cell? ⟨Z, 4, none⟩ = some (.int .i64 (f 1)) := H3.out.2.1.cell 4; have c5 : w3.cell? ⟨Z, 5, none⟩ = some (.int .i64 (f 2)) := H3.out.2.1.cell 5; have c6 : w3.cell? ⟨Z, 6, none⟩ = some (.int .i64 (f 3)) := H3.out.2.1.cell 6; have c7 : w3.cell? ⟨Z, 7, none⟩ = some (.int .i64 (f 4)) := H3.out.2.1.cell 7; have c8 : w3.cell? ⟨Z, 8, none⟩ = some (.int .i64 (f 5)) := H3.out.2.1.cell 8; have c9 : w3.cell? ⟨Z, 9, none⟩ = some (.int .i64 (f 6)) := H3.out.2.1.cell 9; have c10 : w3.cell? ⟨Z, 10, none⟩ = some (.int .i64 (f 7)) := H3.out.2.1.cell 10; have d0 : w3.cell? ⟨A, 0, none⟩ = some (.int .i64 id) := H3.out.2.2.cell 0; have d1 : w3.cell? ⟨A, 1, none⟩ = some (.int .i64 now) := H3.out.2.2.cell 1; have d2 : w3.cell? ⟨A, 2, none⟩ = some (.int .i64 cost) := H3.out.2.2.cell 2; have d3 : w3.cell? ⟨A, 3, none⟩ = some (.slice sp n sc) := H3.out.2.2.cell 3)
    go_ret
    exact ⟨rfl, H3.out.1⟩
  by_cases p4 : now < 0
  · go_wp2_with (go_at_call 28; refine (HRt.out _).mono ?_; rintro e w3 ⟨rfl, b3⟩; have H3 := Lib.hid (show Below w.heap.size w w3 ∧ RowAt w3 Z 62 #[.int .i64 a0, .int .i64 a1, .int .i64 a2, .int .i64 (f 0), .int .i64 (f 1), .int .i64 (f 2), .int .i64 (f 3), .int .i64 (f 4), .int .i64 (f 5), .int .i64 (f 6), .int .i64 (f 7)] ∧ RowAt w3 A 69 #[.int .i64 id, .int .i64 now, .int .i64 cost, .slice sp n sc] from ⟨H2.out.1.trans (b3.mono H2.out.1.size), H2.out.2.1.new b3, H2.out.2.2.new b3⟩); clear b3 c0 c1 c2 c3 c4 c5 c6 c7 c8 c9 c10 d0 d1 d2 d3; have c0 : w3.cell? ⟨Z, 0, none⟩ = some (.int .i64 a0) := H3.out.2.1.cell 0; have c1 : w3.cell? ⟨Z, 1, none⟩ = some (.int .i64 a1) := H3.out.2.1.cell 1; have c2 : w3.cell? ⟨Z, 2, none⟩ = some (.int .i64 a2) := H3.out.2.1.cell 2; have c3 : w3.cell? ⟨Z, 3, none⟩ = some (.int .i64 (f 0)) := H3.out.2.1.cell 3; have c4 : w3.cell? ⟨Z, 4, none⟩ = some (.int .i64 (f 1)) := H3.out.2.1.cell 4; have c5 : w3.cell? ⟨Z, 5, none⟩ = some (.int .i64 (f 2)) := H3.out.2.1.cell 5; have c6 : w3.cell? ⟨Z, 6, none⟩ = some (.int .i64 (f 3)) := H3.out.2.1.cell 6; have c7 : w3.cell? ⟨Z, 7, none⟩ = some (.int .i64 (f 4)) := H3.out.2.1.cell 7; have c8 : w3.cell? ⟨Z, 8, none⟩ = some (.int .i64 (f 5)) := H3.out.2.1.cell 8; have c9 : w3.cell? ⟨Z, 9, none⟩ = some (.int .i64 (f 6)) := H3.out.2.1.cell 9; have c10 : w3.cell? ⟨Z, 10, none⟩ = some (.int .i64 (f 7)) := H3.out.2.1.cell 10; have d0 : w3.cell? ⟨A, 0, none⟩ = some (.int .i64 id) := H3.out.2.2.cell 0; have d1 : w3.cell? ⟨A, 1, none⟩ = some (.int .i64 now) := H3.out.2.2.cell 1; have d2 : w3.cell? ⟨A, 2, none⟩ = some (.int .i64 cost) := H3.out.2.2.cell 2; have d3 : w3.cell? ⟨A, 3, none⟩ = some (.slice sp n sc) := H3.out.2.2.cell 3)
    go_ret
    exact ⟨rfl, H3.out.1⟩
  by_cases p5 : 1099511627776 < now
  · go_wp2_with (go_at_call 28; refine (HRt.out _).mono ?_; rintro e w3 ⟨rfl, b3⟩; have H3 := Lib.hid (show Below w.heap.size w w3 ∧ RowAt w3 Z 62 #[.int .i64 a0, .int .i64 a1, .int .i64 a2, .int .i64 (f 0), .int .i64 (f 1), .int .i64 (f 2), .int .i64 (f 3), .int .i64 (f 4), .int .i64 (f 5), .int .i64 (f 6), .int .i64 (f 7)] ∧ RowAt w3 A 69 #[.int .i64 id, .int .i64 now, .int .i64 cost, .slice sp n sc] from ⟨H2.out.1.trans (b3.mono H2.out.1.size), H2.out.2.1.new b3, H2.out.2.2.new b3⟩); clear b3 c0 c1 c2 c3 c4 c5 c6 c7 c8 c9 c10 d0 d1 d2 d3; have c0 : w3.cell? ⟨Z, 0, none⟩ = some (.int .i64 a0) := H3.out.2.1.cell 0; have c1 : w3.cell? ⟨Z, 1, none⟩ = some (.int .i64 a1) := H3.out.2.1.cell 1; have c2 : w3.cell? ⟨Z, 2, none⟩ = some (.int .i64 a2) := H3.out.2.1.cell 2; have c3 : w3.cell? ⟨Z, 3, none⟩ = some (.int .i64 (f 0)) := H3.out.2.1.cell 3; have c4 : w3.cell? ⟨Z, 4, none⟩ = some (.int .i64 (f 1)) := H3.out.2.1.cell 4; have c5 : w3.cell? ⟨Z, 5, none⟩ = some (.int .i64 (f 2)) := H3.out.2.1.cell 5; have c6 : w3.cell? ⟨Z, 6, none⟩ = some (.int .i64 (f 3)) := H3.out.2.1.cell 6; have c7 : w3.cell? ⟨Z, 7, none⟩ = some (.int .i64 (f 4)) := H3.out.2.1.cell 7; have c8 : w3.cell? ⟨Z, 8, none⟩ = some (.int .i64 (f 5)) := H3.out.2.1.cell 8; have c9 : w3.cell? ⟨Z, 9, none⟩ = some (.int .i64 (f 6)) := H3.out.2.1.cell 9; have c10 : w3.cell? ⟨Z, 10, none⟩ = some (.int .i64 (f 7)) := H3.out.2.1.cell 10; have d0 : w3.cell? ⟨A, 0, none⟩ = some (.int .i64 id) := H3.out.2.2.cell 0; have d1 : w3.cell? ⟨A, 1, none⟩ = some (.int .i64 now) := H3.out.2.2.cell 1; have d2 : w3.cell? ⟨A, 2, none⟩ = some (.int .i64 cost) := H3.out.2.2.cell 2; have d3 : w3.cell? ⟨A, 3, none⟩ = some (.slice sp n sc) := H3.out.2.2.cell 3)
    go_ret
    exact ⟨rfl, H3.out.1⟩
  go_upto_region 3 with (go_at_call 28; refine (HRt.out _).mono ?_; rintro e w3 ⟨rfl, b3⟩; have H3 := Lib.hid (show Below w.heap.size w w3 ∧ RowAt w3 Z 62 #[.int .i64 a0, .int .i64 a1, .int .i64 a2, .int .i64 (f 0), .int .i64 (f 1), .int .i64 (f 2), .int .i64 (f 3), .int .i64 (f 4), .int .i64 (f 5), .int .i64 (f 6), .int .i64 (f 7)] ∧ RowAt w3 A 69 #[.int .i64 id, .int .i64 now, .int .i64 cost, .slice sp n sc] from ⟨H2.out.1.trans (b3.mono H2.out.1.size), H2.out.2.1.new b3, H2.out.2.2.new b3⟩); clear b3 c0 c1 c2 c3 c4 c5 c6 c7 c8 c9 c10 d0 d1 d2 d3; have c0 : w3.cell? ⟨Z, 0, none⟩ = some (.int .i64 a0) := H3.out.2.1.cell 0; have c1 : w3.cell? ⟨Z, 1, none⟩ = some (.int .i64 a1) := H3.out.2.1.cell 1; have c2 : w3.cell? ⟨Z, 2, none⟩ = some (.int .i64 a2) := H3.out.2.1.cell 2; have c3 : w3.cell? ⟨Z, 3, none⟩ = some (.int .i64 (f 0)) := H3.out.2.1.cell 3; have c4 : w3.cell? ⟨Z, 4, none⟩ = some (.int .i64 (f 1)) := H3.out.2.1.cell 4; have c5 : w3.cell? ⟨Z, 5, none⟩ = some (.int .i64 (f 2)) := H3.out.2.1.cell 5; have c6 : w3.cell? ⟨Z, 6, none⟩ = some (.int .i64 (f 3)) := H3.out.2.1.cell 6; have c7 : w3.cell? ⟨Z, 7, none⟩ = some (.int .i64 (f 4)) := H3.out.2.1.cell 7; have c8 : w3.cell? ⟨Z, 8, none⟩ = some (.int .i64 (f 5)) := H3.out.2.1.cell 8; have c9 : w3.cell? ⟨Z, 9, none⟩ = some (.int .i64 (f 6)) := H3.out.2.1.cell 9; have c10 : w3.cell? ⟨Z, 10, none⟩ = some (.int .i64 (f 7)) := H3.out.2.1.cell 10; have d0 : w3.cell? ⟨A, 0, none⟩ = some (.int .i64 id) := H3.out.2.2.cell 0; have d1 : w3.cell? ⟨A, 1, none⟩ = some (.int .i64 now) := H3.out.2.2.cell 1; have d2 : w3.cell? ⟨A, 2, none⟩ = some (.int .i64 cost) := H3.out.2.2.cell 2; have d3 : w3.cell? ⟨A, 3, none⟩ = some (.slice sp n sc) := H3.out.2.2.cell 3)
  clear H2 HRt
  obtain ⟨c, hcc⟩ : ∃ c, jobC a2 cost = c := ⟨_, rfl⟩
  obtain ⟨mx, hmx⟩ : ∃ m, (if cost < 1 then 1 else cost) = m := ⟨_, rfl⟩
  have HCC := Lib.hid (And.intro hcc hmx)
  have HC2 := Lib.hid (show (if a2 < mx then a2 else mx) = c by rw [← hmx]; exact hcc)
  have hcr : 1 ≤ c ∧ c ≤ 500 := by rw [← hcc]; unfold jobC; (repeat' split) <;> omega
  clear hcc hmx
  go_upto_if 54 with fail
  go_cut [5] from 53 to 54 (fun s5 wx => s5 = .int .i64 mx ∧ w3 = wx)
  case first => as_aux_lemma =>
    by_cases x1 : cost < 1
    · have HX := Lib.hid (show mx = 1 by rw [← HCC.out.2, if_pos x1])
      go_wp2
      go_meet
      case rel => exact ⟨by rw [HX.out], rfl⟩
    · have HX := Lib.hid (show mx = cost by rw [← HCC.out.2, if_neg x1])
      go_wp2
      go_meet
      case rel => exact ⟨by rw [HX.out], rfl⟩
  case rest =>
  obtain ⟨rfl, rfl⟩ := hcut
  go_upto_if 58 with fail
  go_cut [5] from 53 to 60 (fun s5 wx => s5 = .int .i64 c ∧ w3 = wx)
  case first => as_aux_lemma =>
    by_cases x1 : a2 < mx
    · have HX := Lib.hid (show c = a2 by rw [← HC2.out, if_pos x1])
      go_wp2
      go_meet
      case rel => exact ⟨by rw [HX.out], rfl⟩
    · have HX := Lib.hid (show c = mx by rw [← HC2.out, if_neg x1])
      go_wp2
      go_meet
      case rel => exact ⟨by rw [HX.out], rfl⟩
  case rest =>
  obtain ⟨rfl, rfl⟩ := hcut
  obtain ⟨dl, hdl⟩ : ∃ dl, now + a1 = dl := ⟨_, rfl⟩
  have hwr : IntKind.i64.wrap (now + a1) = dl := by rw [IntKind.wrap_i64, ← hdl]; omega
  obtain ⟨N, hN⟩ : ∃ N, (secsJ f c L n).length = N := ⟨_, rfl⟩
  obtain ⟨g, hg⟩ : ∃ g : Nat → Sec, (fun k => (secsJ f c L n).getD k default) = g := ⟨_, rfl⟩
  have HN8 := Lib.hid (show N ≤ 8 by rw [← hN]; exact goJ_len f c L n)
  have HOK := Lib.hid (show RowOK f c g N by rw [← hN, ← hg]; exact row_ok f c L n)
  have HDL := Lib.hid (show 0 ≤ dl ∧ dl ≤ 2199023255552 by omega)
  have HNw := Lib.hid (show ∀ wx, Below w.heap.size w wx → Calls Try.prog 33 #[.int .i64 id, .agg #[.int .i64 a0, .int .i64 a1, .int .i64 a2, .int .i64 (f 0), .int .i64 (f 1), .int .i64 (f 2), .int .i64 (f 3), .int .i64 (f 4), .int .i64 (f 5), .int .i64 (f 6), .int .i64 (f 7)], .int .i64 now, .int .i64 cost, .slice sp n sc] wx fun e w' => ∃ S1 : Src, e = .returned (.agg (jobD id now dl c 0 (.slice S1.sp N S1.c))) ∧ SecsOf w' S1 N g ∧ Below wx.heap.size wx w' from fun wx hb => by
    have hx := HH.out.new hb
    have hk := New_any id now dl a0 a1 a2 f cost ⟨sp, sb, so, sc⟩ n L wx (by omega) HRC.out.1 HRC.out.2 hwr (by omega) hx.sl hx.e
    rw [HCC.out.1, hN, hg] at hk
    refine Calls.mono hk ?_
    rintro e w' ⟨v, rfl, ho, hb'⟩
    obtain ⟨S', rfl, hS⟩ := secs_of ho (by have := HN8.out; omega)
    exact ⟨S', rfl, hS, hb'⟩)
  have HR := Lib.hid (show ∀ wx, Below w.heap.size w wx → Calls Try.prog 31 #[.agg #[.int .i64 a0, .int .i64 a1, .int .i64 a2, .int .i64 (f 0), .int .i64 (f 1), .int .i64 (f 2), .int .i64 (f 3), .int .i64 (f 4), .int .i64 (f 5), .int .i64 (f 6), .int .i64 (f 7)], .int .i64 c, .slice sp n sc] wx fun e w' => ∃ R : Src, e = .returned (.slice R.sp N R.c) ∧ SecsOf w' R N g ∧ (0 < N → wx.heap.size ≤ R.b) ∧ Below wx.heap.size wx w' from fun wx hb => by
    have hx := HH.out.new hb
    refine (rSecs_any a0 a1 a2 f c ⟨sp, sb, so, sc⟩ n L wx (by omega) HF0.out HRC.out.1 (by omega) hx.sl hx.e).mono ?_
    rintro e w' ⟨v, rfl, ho, hb'⟩
    rw [← secR_list, hN, hg] at ho
    obtain ⟨R, rfl, hR, hRb⟩ := secs_of2 ho (by have := HN8.out; omega)
    exact ⟨R, rfl, hR, hRb, hb'⟩)
  have HRow := Lib.hid (fun (wx : World) (A B : Src) (hA : SecsOf wx A N g) (hB : SecsOf wx B N g) => row_same A B N g wx (by have := HN8.out; omega) hA.sl hB.sl hA.e hB.e)
  have hw4 : wrap64 (now + a1) = dl := by rw [← hwr, IntKind.wrap_i64]; unfold wrap64; rfl
  clear HH HRC hN hg hwr HCC HC2
  go_upto_region 9 with (first
    | (refine wpList_load_row rfl 62 (.tmp 2) rfl Z rfl 62 #[.int .i64 a0, .int .i64 a1, .int .i64 a2, .int .i64 (f 0), .int .i64 (f 1), .int .i64 (f 2), .int .i64 (f 3), .int .i64 (f 4), .int .i64 (f 5), .int .i64 (f 6), .int .i64 (f 7)] (0, 0) _ H3.out.2.1 Try.underlying62 rfl (by kernel_rfl) ?_)
    | (go_at_call 33; refine (HNw.out _ H3.out.1).mono ?_; rintro e w4 ⟨S1, rfl, s4, b4⟩; have H4 := Lib.hid (And.intro (show Below w.heap.size w w4 ∧ RowAt w4 Z 62 #[.int .i64 a0, .int .i64 a1, .int .i64 a2, .int .i64 (f 0), .int .i64 (f 1), .int .i64 (f 2), .int .i64 (f 3), .int .i64 (f 4), .int .i64 (f 5), .int .i64 (f 6), .int .i64 (f 7)] ∧ RowAt w4 A 69 #[.int .i64 id, .int .i64 now, .int .i64 cost, .slice sp n sc] from ⟨H3.out.1.trans (b4.mono H3.out.1.size), H3.out.2.1.new b4, H3.out.2.2.new b4⟩) s4); clear b4 s4 c0 c1 c2 c3 c4 c5 c6 c7 c8 c9 c10 d0 d1 d2 d3)
    | fail)
  obtain ⟨J, hJ⟩ : ∃ J, J = w4.heap.size := ⟨_, rfl⟩
  rw [← hJ]
  generalize hw5 : World.alloc _ _ = w5
  have H5 := Lib.hid (show (Below w.heap.size w w5 ∧ RowAt w5 Z 62 #[.int .i64 a0, .int .i64 a1, .int .i64 a2, .int .i64 (f 0), .int .i64 (f 1), .int .i64 (f 2), .int .i64 (f 3), .int .i64 (f 4), .int .i64 (f 5), .int .i64 (f 6), .int .i64 (f 7)] ∧ RowAt w5 A 69 #[.int .i64 id, .int .i64 now, .int .i64 cost, .slice sp n sc] ∧ RowAt w5 J 71 (jobD id now dl c 0 (.slice S1.sp N S1.c)) ∧ SecsOf w5 S1 N g) ∧ Z ≠ J ∧ A ≠ J ∧ w.heap.size ≤ J ∧ (0 < N → S1.b ≠ J) by
    have hb := boxJ hw5
    have hz := H4.out.1.2.1.lt
    have ha := H4.out.1.2.2.lt
    refine ⟨⟨H4.out.1.1.trans (hb.1.mono H4.out.1.1.size), H4.out.1.2.1.new hb.1, H4.out.1.2.2.new hb.1, by rw [hJ]; exact hb.2, H4.out.2.new hb.1⟩, by omega, by omega, by rw [hJ]; exact H4.out.1.1.size, fun h0 => ?_⟩
    have := (H4.out.2.sl.at_ h0).2.1
    omega)
  clear hw5 hJ H3 H4 HNw
  have d3 : w5.cell? ⟨A, 3, none⟩ = some (.slice sp n sc) := H5.out.1.2.2.1.cell 3
  go_upto_region 10 with (first
    | (refine wpList_load_row rfl 62 (.tmp 2) rfl Z rfl 62 #[.int .i64 a0, .int .i64 a1, .int .i64 a2, .int .i64 (f 0), .int .i64 (f 1), .int .i64 (f 2), .int .i64 (f 3), .int .i64 (f 4), .int .i64 (f 5), .int .i64 (f 6), .int .i64 (f 7)] (0, 0) _ H5.out.1.2.1 Try.underlying62 rfl (by kernel_rfl) ?_)
    | (go_at_call 31; refine (HR.out _ H5.out.1.1).mono ?_; rintro e w6 ⟨R, rfl, r6, nR, b6⟩; have H6 := Lib.hid (show WJ w w6 Z A J #[.int .i64 a0, .int .i64 a1, .int .i64 a2, .int .i64 (f 0), .int .i64 (f 1), .int .i64 (f 2), .int .i64 (f 3), .int .i64 (f 4), .int .i64 (f 5), .int .i64 (f 6), .int .i64 (f 7)] #[.int .i64 id, .int .i64 now, .int .i64 cost, .slice sp n sc] (jobD id now dl c 0 (.slice S1.sp N S1.c)) S1 R N g from ⟨H5.out.1.1.trans (b6.mono H5.out.1.1.size), H5.out.1.2.1.new b6, H5.out.1.2.2.1.new b6, H5.out.1.2.2.2.1.new b6, H5.out.1.2.2.2.2.new b6, r6, H5.out.2.1, H5.out.2.2.1, H5.out.2.2.2.1, H5.out.2.2.2.2, fun h0 => by have h1 := nR h0; have h2 := H5.out.1.2.2.2.1.lt; omega⟩); clear b6 r6 nR d3)
    | fail)
  clear H5 HR
  have c0 : w6.cell? ⟨Z, 0, none⟩ = some (.int .i64 a0) := H6.out.z.cell 0
  have c1 : w6.cell? ⟨Z, 1, none⟩ = some (.int .i64 a1) := H6.out.z.cell 1
  have c2 : w6.cell? ⟨Z, 2, none⟩ = some (.int .i64 a2) := H6.out.z.cell 2
  have c3 : w6.cell? ⟨Z, 3, none⟩ = some (.int .i64 (f 0)) := H6.out.z.cell 3
  have c4 : w6.cell? ⟨Z, 4, none⟩ = some (.int .i64 (f 1)) := H6.out.z.cell 4
  have c5 : w6.cell? ⟨Z, 5, none⟩ = some (.int .i64 (f 2)) := H6.out.z.cell 5
  have c6 : w6.cell? ⟨Z, 6, none⟩ = some (.int .i64 (f 3)) := H6.out.z.cell 6
  have c7 : w6.cell? ⟨Z, 7, none⟩ = some (.int .i64 (f 4)) := H6.out.z.cell 7
  have c8 : w6.cell? ⟨Z, 8, none⟩ = some (.int .i64 (f 5)) := H6.out.z.cell 8
  have c9 : w6.cell? ⟨Z, 9, none⟩ = some (.int .i64 (f 6)) := H6.out.z.cell 9
  have c10 : w6.cell? ⟨Z, 10, none⟩ = some (.int .i64 (f 7)) := H6.out.z.cell 10
  have d0 : w6.cell? ⟨A, 0, none⟩ = some (.int .i64 id) := H6.out.a.cell 0
  have d1 : w6.cell? ⟨A, 1, none⟩ = some (.int .i64 now) := H6.out.a.cell 1
  have d2 : w6.cell? ⟨A, 2, none⟩ = some (.int .i64 cost) := H6.out.a.cell 2
  have d3 : w6.cell? ⟨A, 3, none⟩ = some (.slice sp n sc) := H6.out.a.cell 3
  have j0 : w6.cell? ⟨J, 0, none⟩ = some (.int .i64 id) := H6.out.j.cell 0
  have j1 : w6.cell? ⟨J, 1, none⟩ = some (.int .i64 now) := H6.out.j.cell 1
  have j2 : w6.cell? ⟨J, 2, none⟩ = some (.int .i64 dl) := H6.out.j.cell 2
  have j3 : w6.cell? ⟨J, 3, none⟩ = some (.int .i64 c) := H6.out.j.cell 3
  have j4 : w6.cell? ⟨J, 4, none⟩ = some (.int .i64 0) := H6.out.j.cell 4
  have j5 : w6.cell? ⟨J, 5, none⟩ = some (.slice S1.sp N S1.c) := H6.out.j.cell 5
  go_upto_if 115 with (go_at_call 29; refine (HRow.out _ S1 R H6.out.s H6.out.r).mono ?_; rintro e w7 ⟨rfl, b7⟩; have H7 := Lib.hid (H6.out.new b7); clear b7)
  go_cut [7] from 12 to 115 (fun s7 wx => s7 = .slice R.sp N R.c ∧ w7 = wx)
  case first => as_aux_lemma =>
    go_wp2
    go_meet
    case rel => exact ⟨rfl, rfl⟩
  case rest =>
  obtain ⟨rfl, rfl⟩ := hcut
  clear c0 c1 c2 c3 c4 c5 c6 c7 c8 c9 c10 d0 d1 d2 d3 j0 j1 j2 j3 j4 j5 H6 HRow hw4 hdl
  obtain ⟨cn, rfl⟩ := Int.eq_ofNat_of_zero_le (show 0 ≤ c by omega)
  have hcn : 1 ≤ cn ∧ cn ≤ 500 := by omega
  clear p0 p1 p2 p3 p4 p5 q0 q0i hcr hsm HF0
  go_wp2
  go_loopg [8, 9, 10] cn (fun gh u8 u9 u10 wr => ∃ (k : Nat) (held last : Int), k + gh = cn ∧ u8 = .int .i64 held ∧ u9 = .int .i64 last ∧ u10 = .int .i64 (k : Nat) ∧ Aside (HeldJ g N k held last ∧ WJ w wr Z A J #[.int .i64 a0, .int .i64 a1, .int .i64 a2, .int .i64 (f 0), .int .i64 (f 1), .int .i64 (f 2), .int .i64 (f 3), .int .i64 (f 4), .int .i64 (f 5), .int .i64 (f 6), .int .i64 (f 7)] #[.int .i64 id, .int .i64 now, .int .i64 cost, .slice sp n sc] (jobD id now dl cn k (.slice S1.sp N S1.c)) S1 R N g))
  case atStart => exact ⟨0, 0, -1, by omega, rfl, rfl, rfl, HeldJ.start HOK.out, H7.out⟩
  clear H7
  case round =>
    obtain ⟨k, held, last, hkg, rfl, rfl, rfl, HK⟩ := hrel
    cases gk with
    | zero =>
      obtain rfl : k = cn := by omega
      have HC := Lib.hid HK.out.2
      have hdl0 := HDL.out.1
      have hdl1 := HDL.out.2
      have HHd := Lib.hid (fun (wx : World) (h : WJ w wx Z A J #[.int .i64 a0, .int .i64 a1, .int .i64 a2, .int .i64 (f 0), .int .i64 (f 1), .int .i64 (f 2), .int .i64 (f 3), .int .i64 (f 4), .int .i64 (f 5), .int .i64 (f 6), .int .i64 (f 7)] #[.int .i64 id, .int .i64 now, .int .i64 cost, .slice sp n sc] (jobD id now dl k k (.slice S1.sp N S1.c)) S1 R N g) => (show Calls Try.prog 36 #[.agg (jobD id now dl k k (.slice S1.sp N S1.c))] wx fun e w' => e = .returned (.int .i64 (hdJ g N k)) ∧ Below wx.heap.size wx w' from holds_any (by have := HN8.out; omega) h.s))
      rw [hd_end HOK.out] at HHd
      have HOv := Lib.hid (fun wx => over_any id now dl k k (.slice S1.sp N S1.c) ⟨_, _, _, rfl⟩ wx)
      rw [decide_eq_true (Int.le_refl _)] at HOv
      have HLt := Lib.hid (fun x wx => late_any id now dl k k (.slice S1.sp N S1.c) ⟨_, _, _, rfl⟩ x wx)
      have j0 : wr.cell? ⟨J, 0, none⟩ = some (.int .i64 id) := HC.out.j.cell 0
      have j1 : wr.cell? ⟨J, 1, none⟩ = some (.int .i64 now) := HC.out.j.cell 1
      have j2 : wr.cell? ⟨J, 2, none⟩ = some (.int .i64 dl) := HC.out.j.cell 2
      have j3 : wr.cell? ⟨J, 3, none⟩ = some (.int .i64 (k : Int)) := HC.out.j.cell 3
      have j4 : wr.cell? ⟨J, 4, none⟩ = some (.int .i64 (k)) := HC.out.j.cell 4
      have j5 : wr.cell? ⟨J, 5, none⟩ = some (.slice S1.sp N S1.c) := HC.out.j.cell 5
      clear HK HOK
      go_wp2_with (first
        | (go_at_call 35; refine (HOv.out _).mono ?_; rintro e wa ⟨rfl, bb⟩; have HC := Lib.hid (HC.out.new bb); clear bb; have j0 : wa.cell? ⟨J, 0, none⟩ = some (.int .i64 id) := HC.out.j.cell 0; have j1 : wa.cell? ⟨J, 1, none⟩ = some (.int .i64 now) := HC.out.j.cell 1; have j2 : wa.cell? ⟨J, 2, none⟩ = some (.int .i64 dl) := HC.out.j.cell 2; have j3 : wa.cell? ⟨J, 3, none⟩ = some (.int .i64 (k : Int)) := HC.out.j.cell 3; have j4 : wa.cell? ⟨J, 4, none⟩ = some (.int .i64 (k)) := HC.out.j.cell 4; have j5 : wa.cell? ⟨J, 5, none⟩ = some (.slice S1.sp N S1.c) := HC.out.j.cell 5)
        | (go_at_call 36; refine (HHd.out _ HC.out).mono ?_; rintro e wa ⟨rfl, bb⟩; clear HHd; have HC := Lib.hid (HC.out.new bb); clear bb; have j0 : wa.cell? ⟨J, 0, none⟩ = some (.int .i64 id) := HC.out.j.cell 0; have j1 : wa.cell? ⟨J, 1, none⟩ = some (.int .i64 now) := HC.out.j.cell 1; have j2 : wa.cell? ⟨J, 2, none⟩ = some (.int .i64 dl) := HC.out.j.cell 2; have j3 : wa.cell? ⟨J, 3, none⟩ = some (.int .i64 (k : Int)) := HC.out.j.cell 3; have j4 : wa.cell? ⟨J, 4, none⟩ = some (.int .i64 (k)) := HC.out.j.cell 4; have j5 : wa.cell? ⟨J, 5, none⟩ = some (.slice S1.sp N S1.c) := HC.out.j.cell 5)
        | (go_at_call 39; refine (HLt.out _ _).mono ?_; rintro e wa ⟨rfl, bb⟩; have HC := Lib.hid (HC.out.new bb); clear bb; have j0 : wa.cell? ⟨J, 0, none⟩ = some (.int .i64 id) := HC.out.j.cell 0; have j1 : wa.cell? ⟨J, 1, none⟩ = some (.int .i64 now) := HC.out.j.cell 1; have j2 : wa.cell? ⟨J, 2, none⟩ = some (.int .i64 dl) := HC.out.j.cell 2; have j3 : wa.cell? ⟨J, 3, none⟩ = some (.int .i64 (k : Int)) := HC.out.j.cell 3; have j4 : wa.cell? ⟨J, 4, none⟩ = some (.int .i64 (k)) := HC.out.j.cell 4; have j5 : wa.cell? ⟨J, 5, none⟩ = some (.slice S1.sp N S1.c) := HC.out.j.cell 5)
        | (go_at_call 32; refine (l25alive_any _).mono ?_; rintro e wa ⟨rfl, bb⟩; have HB := Lib.hid (HC.out.b.trans (bb.mono HC.out.b.size)); clear bb)
        | fail)
      go_ret
      exact ⟨by simp, HB.out⟩
    | succ g1 =>
      have hk : k < cn := by omega
      have hk2 : (k : Int) < cn := by omega
      have HC := Lib.hid HK.out.2
      have hh0 := HK.out.1.h0
      have hh1 := HK.out.1.hi
      have hst := HeldJ.step HOK.out HK.out.1 (by omega)
      have HTk := Lib.hid (fun (wx : World) (h : WJ w wx Z A J #[.int .i64 a0, .int .i64 a1, .int .i64 a2, .int .i64 (f 0), .int .i64 (f 1), .int .i64 (f 2), .int .i64 (f 3), .int .i64 (f 4), .int .i64 (f 5), .int .i64 (f 6), .int .i64 (f 7)] #[.int .i64 id, .int .i64 now, .int .i64 cost, .slice sp n sc] (jobD id now dl cn k (.slice S1.sp N S1.c)) S1 R N g) => (show Calls Try.prog 34 #[.agg (jobD id now dl cn k (.slice S1.sp N S1.c))] wx fun e w' => e = .returned (.int .i64 (tkJ g N k)) ∧ Below wx.heap.size wx w' from takes_any (by have := HN8.out; omega) h.s))
      have HHd := Lib.hid (fun (wx : World) (h : WJ w wx Z A J #[.int .i64 a0, .int .i64 a1, .int .i64 a2, .int .i64 (f 0), .int .i64 (f 1), .int .i64 (f 2), .int .i64 (f 3), .int .i64 (f 4), .int .i64 (f 5), .int .i64 (f 6), .int .i64 (f 7)] #[.int .i64 id, .int .i64 now, .int .i64 cost, .slice sp n sc] (jobD id now dl cn k (.slice S1.sp N S1.c)) S1 R N g) => (show Calls Try.prog 36 #[.agg (jobD id now dl cn k (.slice S1.sp N S1.c))] wx fun e w' => e = .returned (.int .i64 (hdJ g N k)) ∧ Below wx.heap.size wx w' from holds_any (by have := HN8.out; omega) h.s))
      have HHd2 := Lib.hid (fun (wx : World) (h : WJ w wx Z A J #[.int .i64 a0, .int .i64 a1, .int .i64 a2, .int .i64 (f 0), .int .i64 (f 1), .int .i64 (f 2), .int .i64 (f 3), .int .i64 (f 4), .int .i64 (f 5), .int .i64 (f 6), .int .i64 (f 7)] #[.int .i64 id, .int .i64 now, .int .i64 cost, .slice sp n sc] (jobD id now dl cn ((k : Int) + 1) (.slice S1.sp N S1.c)) S1 R N g) => (show Calls Try.prog 36 #[.agg (jobD id now dl cn ((k : Int) + 1) (.slice S1.sp N S1.c))] wx fun e w' => e = .returned (.int .i64 (hdJ g N ((k : Int) + 1))) ∧ Below wx.heap.size wx w' from holds_any (by have := HN8.out; omega) h.s))
      have HRf := Lib.hid (fun (wx : World) (h : WJ w wx Z A J #[.int .i64 a0, .int .i64 a1, .int .i64 a2, .int .i64 (f 0), .int .i64 (f 1), .int .i64 (f 2), .int .i64 (f 3), .int .i64 (f 4), .int .i64 (f 5), .int .i64 (f 6), .int .i64 (f 7)] #[.int .i64 id, .int .i64 now, .int .i64 cost, .slice sp n sc] (jobD id now dl cn k (.slice S1.sp N S1.c)) S1 R N g) => (show Calls Try.prog 37 #[.slice R.sp N R.c, .int .i64 k, .bool false] wx fun e w' => e = .returned (.int .i64 (hdJ g N k)) ∧ w' = wx from rholds_holds (by have := HN8.out; omega) k h.r))
      have HRt := Lib.hid (fun (wx : World) (h : WJ w wx Z A J #[.int .i64 a0, .int .i64 a1, .int .i64 a2, .int .i64 (f 0), .int .i64 (f 1), .int .i64 (f 2), .int .i64 (f 3), .int .i64 (f 4), .int .i64 (f 5), .int .i64 (f 6), .int .i64 (f 7)] #[.int .i64 id, .int .i64 now, .int .i64 cost, .slice sp n sc] (jobD id now dl cn k (.slice S1.sp N S1.c)) S1 R N g) => (show Calls Try.prog 37 #[.slice R.sp N R.c, .int .i64 k, .bool true] wx fun e w' => e = .returned (.int .i64 (tkJ g N k)) ∧ w' = wx from rholds_takes (by have := HN8.out; omega) k h.r))
      have HOv := Lib.hid (fun wx => over_any id now dl cn k (.slice S1.sp N S1.c) ⟨_, _, _, rfl⟩ wx)
      rw [decide_eq_false (show ¬ (cn : Int) ≤ k by omega)] at HOv
      obtain ⟨vb, hvb⟩ : ∃ b, decide ((cn : Int) ≤ (k : Int) + 1) = b := ⟨_, rfl⟩
      have HWk := Lib.hid (fun (wx : World) (h : WJ w wx Z A J #[.int .i64 a0, .int .i64 a1, .int .i64 a2, .int .i64 (f 0), .int .i64 (f 1), .int .i64 (f 2), .int .i64 (f 3), .int .i64 (f 4), .int .i64 (f 5), .int .i64 (f 6), .int .i64 (f 7)] #[.int .i64 id, .int .i64 now, .int .i64 cost, .slice sp n sc] (jobD id now dl cn k (.slice S1.sp N S1.c)) S1 R N g) => work_any ⟨_, _, _, rfl⟩ h.j hk2 (by omega))
      rw [hvb] at HWk
      obtain ⟨rt, hrt⟩ : ∃ r, tkJ g N k = r := ⟨_, rfl⟩
      obtain ⟨z0, hz0⟩ : ∃ r, hdJ g N k = r := ⟨_, rfl⟩
      obtain ⟨z1, hz1⟩ : ∃ r, hdJ g N ((k : Int) + 1) = r := ⟨_, rfl⟩
      rw [hrt] at HTk HRt hst
      rw [hz0] at HHd HRf
      rw [hz1] at HHd2 hst
      have HZ1 := Lib.hid hz1
      obtain ⟨h2, hh2⟩ : ∃ h, (if rt = last then held else 0) = h := ⟨_, rfl⟩
      rw [hh2] at hst
      have hb2 : 0 ≤ h2 ∧ h2 ≤ k := by rw [← hh2]; split <;> omega
      have HH2 := Lib.hid hh2
      have HV := Lib.hid hvb
      have HST := Lib.hid hst
      clear hh2 hvb hst
      have j0 : wr.cell? ⟨J, 0, none⟩ = some (.int .i64 id) := HC.out.j.cell 0
      have j1 : wr.cell? ⟨J, 1, none⟩ = some (.int .i64 now) := HC.out.j.cell 1
      have j2 : wr.cell? ⟨J, 2, none⟩ = some (.int .i64 dl) := HC.out.j.cell 2
      have j3 : wr.cell? ⟨J, 3, none⟩ = some (.int .i64 (cn : Int)) := HC.out.j.cell 3
      have j4 : wr.cell? ⟨J, 4, none⟩ = some (.int .i64 (k)) := HC.out.j.cell 4
      have j5 : wr.cell? ⟨J, 5, none⟩ = some (.slice S1.sp N S1.c) := HC.out.j.cell 5
      clear HK HOK hrt hz0 hz1 HDL
      go_upto_if 125 with (first
        | (go_at_call 34; refine (HTk.out _ HC.out).mono ?_; rintro e wa ⟨rfl, bb⟩; have HC := Lib.hid (HC.out.new bb); clear bb HTk j0 j1 j2 j3 j4 j5; have j0 : wa.cell? ⟨J, 0, none⟩ = some (.int .i64 id) := HC.out.j.cell 0; have j1 : wa.cell? ⟨J, 1, none⟩ = some (.int .i64 now) := HC.out.j.cell 1; have j2 : wa.cell? ⟨J, 2, none⟩ = some (.int .i64 dl) := HC.out.j.cell 2; have j3 : wa.cell? ⟨J, 3, none⟩ = some (.int .i64 (cn : Int)) := HC.out.j.cell 3; have j4 : wa.cell? ⟨J, 4, none⟩ = some (.int .i64 (k)) := HC.out.j.cell 4; have j5 : wa.cell? ⟨J, 5, none⟩ = some (.slice S1.sp N S1.c) := HC.out.j.cell 5)
        | fail)
      go_cut [8] from 116 to 166 (fun s8 wx => s8 = .int .i64 h2 ∧ wa = wx)
      case first => as_aux_lemma =>
        by_cases e1 : rt = last
        · have HX := Lib.hid (show h2 = held by rw [← HH2.out, if_pos e1])
          subst e1
          go_wp2
          go_meet
          case rel => exact ⟨by rw [HX.out], rfl⟩
        · have HX := Lib.hid (show h2 = 0 by rw [← HH2.out, if_neg e1])
          go_wp2
          go_meet
          case rel => exact ⟨by rw [HX.out], rfl⟩
      case rest =>
      obtain ⟨rfl, rfl⟩ := hcut
      go_upto_if 150 with (first
        | (go_at_call 35; refine (HOv.out _).mono ?_; rintro e wa ⟨rfl, bb⟩; have HC := Lib.hid (HC.out.new bb); clear bb HOv j0 j1 j2 j3 j4 j5; have j0 : wa.cell? ⟨J, 0, none⟩ = some (.int .i64 id) := HC.out.j.cell 0; have j1 : wa.cell? ⟨J, 1, none⟩ = some (.int .i64 now) := HC.out.j.cell 1; have j2 : wa.cell? ⟨J, 2, none⟩ = some (.int .i64 dl) := HC.out.j.cell 2; have j3 : wa.cell? ⟨J, 3, none⟩ = some (.int .i64 (cn : Int)) := HC.out.j.cell 3; have j4 : wa.cell? ⟨J, 4, none⟩ = some (.int .i64 (k)) := HC.out.j.cell 4; have j5 : wa.cell? ⟨J, 5, none⟩ = some (.slice S1.sp N S1.c) := HC.out.j.cell 5)
        | (go_at_call 36; refine (HHd.out _ HC.out).mono ?_; rintro e wa ⟨rfl, bb⟩; have HC := Lib.hid (HC.out.new bb); clear bb HHd j0 j1 j2 j3 j4 j5; have j0 : wa.cell? ⟨J, 0, none⟩ = some (.int .i64 id) := HC.out.j.cell 0; have j1 : wa.cell? ⟨J, 1, none⟩ = some (.int .i64 now) := HC.out.j.cell 1; have j2 : wa.cell? ⟨J, 2, none⟩ = some (.int .i64 dl) := HC.out.j.cell 2; have j3 : wa.cell? ⟨J, 3, none⟩ = some (.int .i64 (cn : Int)) := HC.out.j.cell 3; have j4 : wa.cell? ⟨J, 4, none⟩ = some (.int .i64 (k)) := HC.out.j.cell 4; have j5 : wa.cell? ⟨J, 5, none⟩ = some (.slice S1.sp N S1.c) := HC.out.j.cell 5)
        | (go_at_call 37; refine (HRf.out _ HC.out).mono ?_; rintro e wa ⟨rfl, rfl⟩; clear HRf)
        | (go_at_call 37; refine (HRt.out _ HC.out).mono ?_; rintro e wa ⟨rfl, rfl⟩; clear HRt)
        | (go_at_call 38; refine (HWk.out _ HC.out).mono ?_; rintro e wa ⟨rfl, rj, ch⟩; have HC := Lib.hid (HC.out.work ch rj); clear rj ch HWk j0 j1 j2 j3 j4 j5; have j0 : wa.cell? ⟨J, 0, none⟩ = some (.int .i64 id) := HC.out.j.cell 0; have j1 : wa.cell? ⟨J, 1, none⟩ = some (.int .i64 now) := HC.out.j.cell 1; have j2 : wa.cell? ⟨J, 2, none⟩ = some (.int .i64 dl) := HC.out.j.cell 2; have j3 : wa.cell? ⟨J, 3, none⟩ = some (.int .i64 (cn : Int)) := HC.out.j.cell 3; have j4 : wa.cell? ⟨J, 4, none⟩ = some (.int .i64 ((k : Int) + 1)) := HC.out.j.cell 4; have j5 : wa.cell? ⟨J, 5, none⟩ = some (.slice S1.sp N S1.c) := HC.out.j.cell 5)
        | fail)
      go_cut [] from 116 to 166 (fun wx => wa = wx)
      case first => as_aux_lemma =>
        rcases Nat.lt_or_ge (k + 1) cn with hl | hl
        · obtain rfl : vb = false := by rw [← HV.out]; exact decide_eq_false (by omega)
          have hC : ((k : Int) == (cn : Int) - 1) = false := by simp; omega
          rw [hC]
          go_wp2
          go_meet
          case rel => rfl
        · obtain rfl : vb = true := by rw [← HV.out]; exact decide_eq_true (by omega)
          have hC : ((k : Int) == (cn : Int) - 1) = true := by simp; omega
          rw [hC]
          go_wp2
          go_meet
          case rel => rfl
      case rest =>
      obtain rfl := hcut
      clear HV HH2
      by_cases e3 : z1 < 0
      · have HS := HST.out
        rw [if_pos e3] at HS
        have HS := Lib.hid HS.1
        clear HST
        go_wp2_with (first
        | (go_at_call 36; refine (HHd2.out _ HC.out).mono ?_; rintro e wa ⟨rfl, bb⟩; have HC := Lib.hid (HC.out.new bb); clear bb HHd2 j0 j1 j2 j3 j4 j5)
        | fail)
        go_roundg g1
        case measure => omega
        case rel => exact ⟨k + 1, h2 + 1, -1, by omega, by go_num, rfl, by go_num, HS.out, HC.out⟩
      · have hst := HST.out
        rw [if_neg e3] at hst
        have hrt0 : 0 ≤ rt := by have := hst.1.l; rw [HZ1.out] at this; omega
        obtain ⟨rn, rfl⟩ := Int.eq_ofNat_of_zero_le hrt0
        have hst2 := hst.2 hrt0
        rw [Int.toNat_natCast] at hst2
        have hrn : rn < 8 := by omega
        have hrn2 : (rn : Int) < 8 := by omega
        have HS := Lib.hid hst.1
        have hlo := hst2.2
        clear hst hst2 HST
        go_wp2_with (first
        | (go_at_call 36; refine (HHd2.out _ HC.out).mono ?_; rintro e wa ⟨rfl, bb⟩; have HC := Lib.hid (HC.out.new bb); clear bb HHd2 j0 j1 j2 j3 j4 j5; have t0 : wa.cell? ⟨Z, 3 + rn, none⟩ = some (.int .i64 (f rn)) := (HC.out.z.cell (3 + rn)).trans (task11_at a0 a1 a2 f rn hrn))
        | fail)
        go_roundg g1
        case measure => omega
        case rel => exact ⟨k + 1, h2 + 1, (rn : Int), by omega, by go_num, rfl, by go_num, HS.out, HC.out⟩
end Go.Proofs.Ytcipkkeegbfaeaa
