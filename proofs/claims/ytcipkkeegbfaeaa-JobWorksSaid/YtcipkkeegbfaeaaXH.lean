/- Sections of a job: plain facts; the contract of job's cut. -/
import Derived.Test.YtcipkkeegbfaeaaProg
import Derived.Test.YtcipkkeegbfaeaaVS
import Derived.Test.YtcipkkeegbfaeaaLast
namespace Go.Proofs.Ytcipkkeegbfaeaa
open Go.RowKit

theorem lt8 {p : Nat → Prop} (h0 : p 0) (h1 : p 1) (h2 : p 2) (h3 : p 3) (h4 : p 4) (h5 : p 5) (h6 : p 6) (h7 : p 7) : ∀ k, k < 8 → p k := by
  intro k hk
  rcases k with _ | _ | _ | _ | _ | _ | _ | _ | k
  all_goals first | assumption | omega
def task11 (a0 a1 a2 : Int) (f : Nat → Int) : Array Value := #[.int .i64 a0, .int .i64 a1, .int .i64 a2, .int .i64 (f 0), .int .i64 (f 1), .int .i64 (f 2), .int .i64 (f 3), .int .i64 (f 4), .int .i64 (f 5), .int .i64 (f 6), .int .i64 (f 7)]
theorem task11_at (a0 a1 a2 : Int) (f : Nat → Int) : ∀ r, r < 8 → (task11 a0 a1 a2 f)[3 + r]? = some (.int .i64 (f r)) := lt8 rfl rfl rfl rfl rfl rfl rfl rfl
structure Sec where
  r : Int
  f : Int
  t : Int
instance : Inhabited Sec := ⟨⟨0, 0, 0⟩⟩
def secC (s : Sec) : List Value := [.int .i64 s.r, .int .i64 s.f, .int .i64 s.t]
/-- Does a section fit? -/
def cutB (lon : Nat → Int) (frm cost : Int) (s : Sec) : Bool := !(decide (s.r < 0)) && (!(decide (8 ≤ s.r)) && (!(decide (lon s.r.toNat < 1)) && (!(decide (s.f < frm)) && (!(decide (cost ≤ s.f)) && !(decide (s.t ≤ s.f))))))
def min3 (x y z : Int) : Int := if z < (if y < x then y else x) then z else (if y < x then y else x)
def cutS (lon : Nat → Int) (cost : Int) (s : Sec) : Sec := ⟨s.r, s.f, s.f + min3 (s.t - s.f) (cost - s.f) (lon s.r.toNat)⟩
theorem run_min3 {P : Program} {w : World} (ts : Array TypeId) (t : TypeId) (k k' k'' : IntKind) (x y z : Int) : (Builtin.min_ ts t #[.int k x, .int k' y, .int k'' z]).run P w = .ok (.int k (if z < (if y < x then y else x) then z else (if y < x then y else x))) w := by
  simp [Builtin.min_, Builtin.min2, go_sem]
theorem three_alloc (w : World) (a b c : Array Value) (ta tb tc : TypeId) : Below w.heap.size w (((w.alloc (.cells a ta)).alloc (.cells b tb)).alloc (.cells c tc)) ∧ RowAt (((w.alloc (.cells a ta)).alloc (.cells b tb)).alloc (.cells c tc)) w.heap.size ta a ∧ RowAt (((w.alloc (.cells a ta)).alloc (.cells b tb)).alloc (.cells c tc)) (w.heap.size + 1) tb b ∧ RowAt (((w.alloc (.cells a ta)).alloc (.cells b tb)).alloc (.cells c tc)) (w.heap.size + 1 + 1) tc c := by
  have h3 := two_alloc (w := w) (a := a) (b := b) (ta := ta) (tb := tb) ((Below.refl _ ((w.alloc (.cells a ta)).alloc (.cells b tb))).alloc (Nat.le_refl _) (.cells c tc))
  have h4 := RowAt.mk ((w.alloc (.cells a ta)).alloc (.cells b tb)) tc c
  rw [World.size_alloc, World.size_alloc] at h4
  exact ⟨h3.1, h3.2.1, h3.2.2, h4⟩
set_option maxHeartbeats 8000000 in
set_option maxRecDepth 100000 in
theorem cut_any (a0 a1 a2 : Int) (f : Nat → Int) (frm cost r sf st : Int) (hfr : 0 ≤ frm) (hb : -9223372036854775808 ≤ st ∧ st ≤ 9223372036854775807) (hc : -9223372036854775808 ≤ cost ∧ cost ≤ 9223372036854775807) (w : World) :
    Calls Try.prog 80 #[.agg #[.int .i64 a0, .int .i64 a1, .int .i64 a2, .int .i64 (f 0), .int .i64 (f 1), .int .i64 (f 2), .int .i64 (f 3), .int .i64 (f 4), .int .i64 (f 5), .int .i64 (f 6), .int .i64 (f 7)], .int .i64 frm, .int .i64 cost, .agg #[.int .i64 r, .int .i64 sf, .int .i64 st]] w
      fun e w' => ∃ s : Sec, e = .returned (.tuple #[.agg #[.int .i64 s.r, .int .i64 s.f, .int .i64 s.t], .bool (cutB f frm cost ⟨r, sf, st⟩)]) ∧ (cutB f frm cost ⟨r, sf, st⟩ = true → s = cutS f cost ⟨r, sf, st⟩) ∧ Below w.heap.size w w' := by
  have HB := Lib.hid (show cutB f frm cost ⟨r, sf, st⟩ = (!(decide (r < 0)) && (!(decide (8 ≤ r)) && (!(decide (f r.toNat < 1)) && (!(decide (sf < frm)) && (!(decide (cost ≤ sf)) && !(decide (st ≤ sf))))))) from rfl)
  obtain ⟨v, hv⟩ : ∃ v, cutB f frm cost ⟨r, sf, st⟩ = v := ⟨_, rfl⟩
  have HV := Lib.hid hv
  rw [hv] at HB ⊢
  clear hv
  obtain ⟨Z, hZ⟩ : ∃ Z, Z = w.heap.size := ⟨_, rfl⟩
  have HZZ := Lib.hid (show w.heap.size = Z from hZ.symm)
  have HZ := Lib.hid (show ∀ w2, ((w.alloc (.cells #[.int .i64 a0, .int .i64 a1, .int .i64 a2, .int .i64 (f 0), .int .i64 (f 1), .int .i64 (f 2), .int .i64 (f 3), .int .i64 (f 4), .int .i64 (f 5), .int .i64 (f 6), .int .i64 (f 7)] 62)).alloc (.cells #[.int .i64 r, .int .i64 sf, .int .i64 st] 99)).alloc (.cells #[.int .i64 0, .int .i64 0, .int .i64 0] 99) = w2 → Below w.heap.size w w2 ∧ RowAt w2 Z 62 (task11 a0 a1 a2 f) ∧ RowAt w2 (Z + 1) 99 #[.int .i64 r, .int .i64 sf, .int .i64 st] ∧ RowAt w2 (Z + 1 + 1) 99 #[.int .i64 0, .int .i64 0, .int .i64 0] from fun w2 hw => by
    rw [← hw, hZ]; exact three_alloc w _ _ _ _ _ _)
  go_enter Try.func80, Try.ntmps80
  go_upto_region 1 with fail
  rw [← hZ]
  generalize hw2 : World.alloc _ _ = w2
  have H2 := Lib.hid (HZ.out w2 hw2)
  clear hw2 hZ HZ
  have c0 : w2.cell? ⟨Z + 1, 0, none⟩ = some (.int .i64 r) := H2.out.2.2.1.cell 0
  have c1 : w2.cell? ⟨Z + 1, 1, none⟩ = some (.int .i64 sf) := H2.out.2.2.1.cell 1
  have c2 : w2.cell? ⟨Z + 1, 2, none⟩ = some (.int .i64 st) := H2.out.2.2.1.cell 2
  have d0 : w2.cell? ⟨Z + 1 + 1, 0, none⟩ = some (.int .i64 0) := H2.out.2.2.2.cell 0
  have d1 : w2.cell? ⟨Z + 1 + 1, 1, none⟩ = some (.int .i64 0) := H2.out.2.2.2.cell 1
  have d2 : w2.cell? ⟨Z + 1 + 1, 2, none⟩ = some (.int .i64 0) := H2.out.2.2.2.cell 2
  by_cases g0 : r < 0
  · have HF := Lib.hid (show v = false by rw [HB.out, decide_eq_true g0]; rfl)
    clear HB
    go_wp2_with (first
      | (refine wpList_store_row rfl 99 (.tmp 8) (.tmp 45) rfl (Z + 1 + 1) #[.int .i64 0, .int .i64 0, .int .i64 0] (by rfl) (by rfl) 99 _ H2.out.2.2.2 (by kernel_rfl) (by rfl) (by simp [Value.oneCell']) ?_; generalize hw3 : World.setRow _ _ _ = w3)
      | fail)
    have H3 := Lib.hid (show Below w.heap.size w w3 ∧ RowAt w3 (Z + 1 + 1) 99 #[.int .i64 0, .int .i64 0, .int .i64 0] by
      rw [← hw3]; exact ⟨below_row H2.out.1 (Nat.le_refl _) (by have := HZZ.out; omega) _, H2.out.2.2.2.put⟩)
    have x0 : w3.cell? ⟨Z + 1 + 1, 0, none⟩ = some (.int .i64 0) := H3.out.2.cell 0
    have x1 : w3.cell? ⟨Z + 1 + 1, 1, none⟩ = some (.int .i64 0) := H3.out.2.cell 1
    have x2 : w3.cell? ⟨Z + 1 + 1, 2, none⟩ = some (.int .i64 0) := H3.out.2.cell 2
    refine bodyPost_ret (v := .tuple #[.agg #[.int .i64 0, .int .i64 0, .int .i64 0], .bool false]) (by simp [results, Try.results80, go_sem, x0, x1, x2]) rfl ?_
    refine ⟨⟨0, 0, 0⟩, by rw [HF.out], fun h => ?_, H3.out.1⟩
    rw [HF.out] at h
    cases h
  by_cases g1 : 8 ≤ r
  · have HF := Lib.hid (show v = false by rw [HB.out, decide_eq_false g0, decide_eq_true g1]; rfl)
    clear HB
    go_wp2_with (first
      | (refine wpList_store_row rfl 99 (.tmp 8) (.tmp 45) rfl (Z + 1 + 1) #[.int .i64 0, .int .i64 0, .int .i64 0] (by rfl) (by rfl) 99 _ H2.out.2.2.2 (by kernel_rfl) (by rfl) (by simp [Value.oneCell']) ?_; generalize hw3 : World.setRow _ _ _ = w3)
      | fail)
    have H3 := Lib.hid (show Below w.heap.size w w3 ∧ RowAt w3 (Z + 1 + 1) 99 #[.int .i64 0, .int .i64 0, .int .i64 0] by
      rw [← hw3]; exact ⟨below_row H2.out.1 (Nat.le_refl _) (by have := HZZ.out; omega) _, H2.out.2.2.2.put⟩)
    have x0 : w3.cell? ⟨Z + 1 + 1, 0, none⟩ = some (.int .i64 0) := H3.out.2.cell 0
    have x1 : w3.cell? ⟨Z + 1 + 1, 1, none⟩ = some (.int .i64 0) := H3.out.2.cell 1
    have x2 : w3.cell? ⟨Z + 1 + 1, 2, none⟩ = some (.int .i64 0) := H3.out.2.cell 2
    refine bodyPost_ret (v := .tuple #[.agg #[.int .i64 0, .int .i64 0, .int .i64 0], .bool false]) (by simp [results, Try.results80, go_sem, x0, x1, x2]) rfl ?_
    refine ⟨⟨0, 0, 0⟩, by rw [HF.out], fun h => ?_, H3.out.1⟩
    rw [HF.out] at h
    cases h
  obtain ⟨rn, rfl⟩ := Int.eq_ofNat_of_zero_le (show 0 ≤ r by omega)
  have hrn : rn < 8 := by omega
  have hrn2 : (rn : Int) < 8 := by omega
  have t0 : w2.cell? ⟨Z, 3 + rn, none⟩ = some (.int .i64 (f rn)) := (H2.out.2.1.cell (3 + rn)).trans (task11_at a0 a1 a2 f rn hrn)
  rw [Int.toNat_natCast] at HB
  obtain ⟨y, hy⟩ : ∃ y, f rn = y := ⟨_, rfl⟩
  have HY := Lib.hid hy
  rw [hy] at t0 HB
  clear hy
  by_cases g2 : y < 1
  · have HF := Lib.hid (show v = false by rw [HB.out, decide_eq_false g0, decide_eq_false g1, decide_eq_true g2]; rfl)
    clear HB
    go_wp2_with (first
      | (refine wpList_store_row rfl 99 (.tmp 8) (.tmp 45) rfl (Z + 1 + 1) #[.int .i64 0, .int .i64 0, .int .i64 0] (by rfl) (by rfl) 99 _ H2.out.2.2.2 (by kernel_rfl) (by rfl) (by simp [Value.oneCell']) ?_; generalize hw3 : World.setRow _ _ _ = w3)
      | fail)
    have H3 := Lib.hid (show Below w.heap.size w w3 ∧ RowAt w3 (Z + 1 + 1) 99 #[.int .i64 0, .int .i64 0, .int .i64 0] by
      rw [← hw3]; exact ⟨below_row H2.out.1 (Nat.le_refl _) (by have := HZZ.out; omega) _, H2.out.2.2.2.put⟩)
    have x0 : w3.cell? ⟨Z + 1 + 1, 0, none⟩ = some (.int .i64 0) := H3.out.2.cell 0
    have x1 : w3.cell? ⟨Z + 1 + 1, 1, none⟩ = some (.int .i64 0) := H3.out.2.cell 1
    have x2 : w3.cell? ⟨Z + 1 + 1, 2, none⟩ = some (.int .i64 0) := H3.out.2.cell 2
    refine bodyPost_ret (v := .tuple #[.agg #[.int .i64 0, .int .i64 0, .int .i64 0], .bool false]) (by simp [results, Try.results80, go_sem, x0, x1, x2]) rfl ?_
    refine ⟨⟨0, 0, 0⟩, by rw [HF.out], fun h => ?_, H3.out.1⟩
    rw [HF.out] at h
    cases h
  by_cases g3 : sf < frm
  · have HF := Lib.hid (show v = false by rw [HB.out, decide_eq_false g0, decide_eq_false g1, decide_eq_false g2, decide_eq_true g3]; rfl)
    clear HB
    go_wp2_with (first
      | (refine wpList_store_row rfl 99 (.tmp 8) (.tmp 45) rfl (Z + 1 + 1) #[.int .i64 0, .int .i64 0, .int .i64 0] (by rfl) (by rfl) 99 _ H2.out.2.2.2 (by kernel_rfl) (by rfl) (by simp [Value.oneCell']) ?_; generalize hw3 : World.setRow _ _ _ = w3)
      | fail)
    have H3 := Lib.hid (show Below w.heap.size w w3 ∧ RowAt w3 (Z + 1 + 1) 99 #[.int .i64 0, .int .i64 0, .int .i64 0] by
      rw [← hw3]; exact ⟨below_row H2.out.1 (Nat.le_refl _) (by have := HZZ.out; omega) _, H2.out.2.2.2.put⟩)
    have x0 : w3.cell? ⟨Z + 1 + 1, 0, none⟩ = some (.int .i64 0) := H3.out.2.cell 0
    have x1 : w3.cell? ⟨Z + 1 + 1, 1, none⟩ = some (.int .i64 0) := H3.out.2.cell 1
    have x2 : w3.cell? ⟨Z + 1 + 1, 2, none⟩ = some (.int .i64 0) := H3.out.2.cell 2
    refine bodyPost_ret (v := .tuple #[.agg #[.int .i64 0, .int .i64 0, .int .i64 0], .bool false]) (by simp [results, Try.results80, go_sem, x0, x1, x2]) rfl ?_
    refine ⟨⟨0, 0, 0⟩, by rw [HF.out], fun h => ?_, H3.out.1⟩
    rw [HF.out] at h
    cases h
  by_cases g4 : cost ≤ sf
  · have HF := Lib.hid (show v = false by rw [HB.out, decide_eq_false g0, decide_eq_false g1, decide_eq_false g2, decide_eq_false g3, decide_eq_true g4]; rfl)
    clear HB
    go_wp2_with (first
      | (refine wpList_store_row rfl 99 (.tmp 8) (.tmp 45) rfl (Z + 1 + 1) #[.int .i64 0, .int .i64 0, .int .i64 0] (by rfl) (by rfl) 99 _ H2.out.2.2.2 (by kernel_rfl) (by rfl) (by simp [Value.oneCell']) ?_; generalize hw3 : World.setRow _ _ _ = w3)
      | fail)
    have H3 := Lib.hid (show Below w.heap.size w w3 ∧ RowAt w3 (Z + 1 + 1) 99 #[.int .i64 0, .int .i64 0, .int .i64 0] by
      rw [← hw3]; exact ⟨below_row H2.out.1 (Nat.le_refl _) (by have := HZZ.out; omega) _, H2.out.2.2.2.put⟩)
    have x0 : w3.cell? ⟨Z + 1 + 1, 0, none⟩ = some (.int .i64 0) := H3.out.2.cell 0
    have x1 : w3.cell? ⟨Z + 1 + 1, 1, none⟩ = some (.int .i64 0) := H3.out.2.cell 1
    have x2 : w3.cell? ⟨Z + 1 + 1, 2, none⟩ = some (.int .i64 0) := H3.out.2.cell 2
    refine bodyPost_ret (v := .tuple #[.agg #[.int .i64 0, .int .i64 0, .int .i64 0], .bool false]) (by simp [results, Try.results80, go_sem, x0, x1, x2]) rfl ?_
    refine ⟨⟨0, 0, 0⟩, by rw [HF.out], fun h => ?_, H3.out.1⟩
    rw [HF.out] at h
    cases h
  by_cases g5 : st ≤ sf
  · have HF := Lib.hid (show v = false by rw [HB.out, decide_eq_false g0, decide_eq_false g1, decide_eq_false g2, decide_eq_false g3, decide_eq_false g4, decide_eq_true g5]; rfl)
    clear HB
    go_wp2_with (first
      | (refine wpList_store_row rfl 99 (.tmp 8) (.tmp 45) rfl (Z + 1 + 1) #[.int .i64 0, .int .i64 0, .int .i64 0] (by rfl) (by rfl) 99 _ H2.out.2.2.2 (by kernel_rfl) (by rfl) (by simp [Value.oneCell']) ?_; generalize hw3 : World.setRow _ _ _ = w3)
      | fail)
    have H3 := Lib.hid (show Below w.heap.size w w3 ∧ RowAt w3 (Z + 1 + 1) 99 #[.int .i64 0, .int .i64 0, .int .i64 0] by
      rw [← hw3]; exact ⟨below_row H2.out.1 (Nat.le_refl _) (by have := HZZ.out; omega) _, H2.out.2.2.2.put⟩)
    have x0 : w3.cell? ⟨Z + 1 + 1, 0, none⟩ = some (.int .i64 0) := H3.out.2.cell 0
    have x1 : w3.cell? ⟨Z + 1 + 1, 1, none⟩ = some (.int .i64 0) := H3.out.2.cell 1
    have x2 : w3.cell? ⟨Z + 1 + 1, 2, none⟩ = some (.int .i64 0) := H3.out.2.cell 2
    refine bodyPost_ret (v := .tuple #[.agg #[.int .i64 0, .int .i64 0, .int .i64 0], .bool false]) (by simp [results, Try.results80, go_sem, x0, x1, x2]) rfl ?_
    refine ⟨⟨0, 0, 0⟩, by rw [HF.out], fun h => ?_, H3.out.1⟩
    rw [HF.out] at h
    cases h
  have HT := Lib.hid (show v = true by rw [HB.out, decide_eq_false g0, decide_eq_false g1, decide_eq_false g2, decide_eq_false g3, decide_eq_false g4, decide_eq_false g5]; rfl)
  clear HB
  obtain ⟨m, hm⟩ : ∃ m, min3 (st - sf) (cost - sf) y = m := ⟨_, rfl⟩
  have HM := Lib.hid hm
  have hmi : (if y < (if cost - sf < st - sf then cost - sf else st - sf) then y else (if cost - sf < st - sf then cost - sf else st - sf)) = m := hm
  have hm1 : 0 ≤ m ∧ m ≤ cost - sf := by
    rw [← hmi]; constructor <;> split <;> first | omega | (split <;> omega)
  have u1 : IntKind.i64.wrap (st - sf) = st - sf := by rw [IntKind.wrap_i64]; omega
  have u2 : IntKind.i64.wrap (cost - sf) = cost - sf := by rw [IntKind.wrap_i64]; omega
  have u3 : IntKind.i64.wrap (sf + m) = sf + m := by rw [IntKind.wrap_i64]; omega
  have fz : w2.frozen? ⟨Z + 1, 2, none⟩ = false := H2.out.2.2.1.fr 2
  go_upto_region 3 with fail
  refine wp_region_g (fun w' => w'.cell? ⟨Z + 1, 0, none⟩ = some (.int .i64 (rn : Int)) ∧ w'.cell? ⟨Z + 1, 1, none⟩ = some (.int .i64 sf) ∧ w'.cell? ⟨Z + 1, 2, none⟩ = some (.int .i64 st) ∧ w'.cell? ⟨Z, 3 + rn, none⟩ = some (.int .i64 y)) 19 (by kernel_rfl) ⟨c0, c1, c2, t0⟩ (fun hS => ?_)
  refine wpAnyG_take (i := 0) (oi := { dst := some 46, op := .fieldAddr 99 (.tmp 7) 1, type := 0, pos := "job.go:45", after := #[], guard := none }) (v := ?_) rfl (by kernel_rfl) (by kernel_rfl) (by kernel_rfl) (by kernel_rfl) (fun _ _ _ h => h) (Or.inl ⟨by rfl, ?_⟩) hS ?_
  rotate_left 1
  · intro w hw; obtain ⟨s0, s1, s2, s3⟩ := hw; go_simp; try (with_reducible rfl)
  simp only [Act.put, List.setIfInBounds_toArray, List.set_cons_zero, List.set_cons_succ]
  refine wpAnyG_take (i := 1) (oi := { dst := some 47, op := .load 3 (.tmp 46), type := 3, pos := "job.go:45", after := #[{ on := 0, ground := .data }], guard := none }) (v := ?_) rfl (by kernel_rfl) (by kernel_rfl) (by kernel_rfl) (by kernel_rfl) (fun _ _ _ h => h) (Or.inl ⟨by rfl, ?_⟩) hS ?_
  rotate_left 1
  · intro w hw; obtain ⟨s0, s1, s2, s3⟩ := hw; go_simp; try (with_reducible rfl)
  simp only [Act.put, List.setIfInBounds_toArray, List.set_cons_zero, List.set_cons_succ]
  refine wpAnyG_take (i := 2) (oi := { dst := some 48, op := .fieldAddr 99 (.tmp 7) 2, type := 0, pos := "job.go:45", after := #[], guard := none }) (v := ?_) rfl (by kernel_rfl) (by kernel_rfl) (by kernel_rfl) (by kernel_rfl) (fun _ _ _ h => h) (Or.inl ⟨by rfl, ?_⟩) hS ?_
  rotate_left 1
  · intro w hw; obtain ⟨s0, s1, s2, s3⟩ := hw; go_simp; try (with_reducible rfl)
  simp only [Act.put, List.setIfInBounds_toArray, List.set_cons_zero, List.set_cons_succ]
  refine wpAnyG_take (i := 3) (oi := { dst := some 49, op := .load 3 (.tmp 48), type := 3, pos := "job.go:45", after := #[{ on := 2, ground := .data }], guard := none }) (v := ?_) rfl (by kernel_rfl) (by kernel_rfl) (by kernel_rfl) (by kernel_rfl) (fun _ _ _ h => h) (Or.inl ⟨by rfl, ?_⟩) hS ?_
  rotate_left 1
  · intro w hw; obtain ⟨s0, s1, s2, s3⟩ := hw; go_simp; try (with_reducible rfl)
  simp only [Act.put, List.setIfInBounds_toArray, List.set_cons_zero, List.set_cons_succ]
  refine wpAnyG_take (i := 4) (oi := { dst := some 50, op := .fieldAddr 99 (.tmp 7) 1, type := 0, pos := "job.go:45", after := #[], guard := none }) (v := ?_) rfl (by kernel_rfl) (by kernel_rfl) (by kernel_rfl) (by kernel_rfl) (fun _ _ _ h => h) (Or.inl ⟨by rfl, ?_⟩) hS ?_
  rotate_left 1
  · intro w hw; obtain ⟨s0, s1, s2, s3⟩ := hw; go_simp; try (with_reducible rfl)
  simp only [Act.put, List.setIfInBounds_toArray, List.set_cons_zero, List.set_cons_succ]
  refine wpAnyG_take (i := 5) (oi := { dst := some 51, op := .load 3 (.tmp 50), type := 3, pos := "job.go:45", after := #[{ on := 4, ground := .data }], guard := none }) (v := ?_) rfl (by kernel_rfl) (by kernel_rfl) (by kernel_rfl) (by kernel_rfl) (fun _ _ _ h => h) (Or.inl ⟨by rfl, ?_⟩) hS ?_
  rotate_left 1
  · intro w hw; obtain ⟨s0, s1, s2, s3⟩ := hw; go_simp; try (with_reducible rfl)
  simp only [Act.put, List.setIfInBounds_toArray, List.set_cons_zero, List.set_cons_succ]
  refine wpAnyG_take (i := 6) (oi := { dst := some 52, op := .binOp .sub 3 (.tmp 49) (.tmp 51) 3, type := 3, pos := "job.go:45", after := #[{ on := 3, ground := .data }, { on := 5, ground := .data }], guard := none }) (v := .int .i64 (st - sf)) rfl (by kernel_rfl) (by kernel_rfl) (by kernel_rfl) (by kernel_rfl) (fun _ _ _ h => h) (Or.inl ⟨by rfl, ?_⟩) hS ?_
  · intro w hw; obtain ⟨s0, s1, s2, s3⟩ := hw; go_simp
  simp only [Act.put, List.setIfInBounds_toArray, List.set_cons_zero, List.set_cons_succ]
  refine wpAnyG_take (i := 7) (oi := { dst := some 53, op := .move (.tmp 2), type := 3, pos := "job.go:45", after := #[], guard := none }) (v := ?_) rfl (by kernel_rfl) (by kernel_rfl) (by kernel_rfl) (by kernel_rfl) (fun _ _ _ h => h) (Or.inl ⟨by rfl, ?_⟩) hS ?_
  rotate_left 1
  · intro w hw; obtain ⟨s0, s1, s2, s3⟩ := hw; go_simp; try (with_reducible rfl)
  simp only [Act.put, List.setIfInBounds_toArray, List.set_cons_zero, List.set_cons_succ]
  refine wpAnyG_take (i := 8) (oi := { dst := some 54, op := .fieldAddr 99 (.tmp 7) 1, type := 0, pos := "job.go:45", after := #[], guard := none }) (v := ?_) rfl (by kernel_rfl) (by kernel_rfl) (by kernel_rfl) (by kernel_rfl) (fun _ _ _ h => h) (Or.inl ⟨by rfl, ?_⟩) hS ?_
  rotate_left 1
  · intro w hw; obtain ⟨s0, s1, s2, s3⟩ := hw; go_simp; try (with_reducible rfl)
  simp only [Act.put, List.setIfInBounds_toArray, List.set_cons_zero, List.set_cons_succ]
  refine wpAnyG_take (i := 9) (oi := { dst := some 55, op := .load 3 (.tmp 54), type := 3, pos := "job.go:45", after := #[{ on := 8, ground := .data }], guard := none }) (v := ?_) rfl (by kernel_rfl) (by kernel_rfl) (by kernel_rfl) (by kernel_rfl) (fun _ _ _ h => h) (Or.inl ⟨by rfl, ?_⟩) hS ?_
  rotate_left 1
  · intro w hw; obtain ⟨s0, s1, s2, s3⟩ := hw; go_simp; try (with_reducible rfl)
  simp only [Act.put, List.setIfInBounds_toArray, List.set_cons_zero, List.set_cons_succ]
  refine wpAnyG_take (i := 10) (oi := { dst := some 56, op := .binOp .sub 3 (.tmp 53) (.tmp 55) 3, type := 3, pos := "job.go:45", after := #[{ on := 7, ground := .data }, { on := 9, ground := .data }], guard := none }) (v := .int .i64 (cost - sf)) rfl (by kernel_rfl) (by kernel_rfl) (by kernel_rfl) (by kernel_rfl) (fun _ _ _ h => h) (Or.inl ⟨by rfl, ?_⟩) hS ?_
  · intro w hw; obtain ⟨s0, s1, s2, s3⟩ := hw; go_simp
  simp only [Act.put, List.setIfInBounds_toArray, List.set_cons_zero, List.set_cons_succ]
  refine wpAnyG_take (i := 11) (oi := { dst := some 57, op := .fieldAddr 99 (.tmp 7) 0, type := 0, pos := "job.go:45", after := #[], guard := none }) (v := ?_) rfl (by kernel_rfl) (by kernel_rfl) (by kernel_rfl) (by kernel_rfl) (fun _ _ _ h => h) (Or.inl ⟨by rfl, ?_⟩) hS ?_
  rotate_left 1
  · intro w hw; obtain ⟨s0, s1, s2, s3⟩ := hw; go_simp; try (with_reducible rfl)
  simp only [Act.put, List.setIfInBounds_toArray, List.set_cons_zero, List.set_cons_succ]
  refine wpAnyG_take (i := 12) (oi := { dst := some 58, op := .load 3 (.tmp 57), type := 3, pos := "job.go:45", after := #[{ on := 11, ground := .data }], guard := none }) (v := ?_) rfl (by kernel_rfl) (by kernel_rfl) (by kernel_rfl) (by kernel_rfl) (fun _ _ _ h => h) (Or.inl ⟨by rfl, ?_⟩) hS ?_
  rotate_left 1
  · intro w hw; obtain ⟨s0, s1, s2, s3⟩ := hw; go_simp; try (with_reducible rfl)
  simp only [Act.put, List.setIfInBounds_toArray, List.set_cons_zero, List.set_cons_succ]
  refine wpAnyG_take (i := 13) (oi := { dst := some 59, op := .fieldAddr 62 (.tmp 4) 3, type := 0, pos := "job.go:45", after := #[], guard := none }) (v := ?_) rfl (by kernel_rfl) (by kernel_rfl) (by kernel_rfl) (by kernel_rfl) (fun _ _ _ h => h) (Or.inl ⟨by rfl, ?_⟩) hS ?_
  rotate_left 1
  · intro w hw; obtain ⟨s0, s1, s2, s3⟩ := hw; go_simp; try (with_reducible rfl)
  simp only [Act.put, List.setIfInBounds_toArray, List.set_cons_zero, List.set_cons_succ]
  refine wpAnyG_take (i := 14) (oi := { dst := some 60, op := .indexAddr 60 (.tmp 59) (.tmp 58), type := 0, pos := "job.go:45", after := #[{ on := 13, ground := .data }, { on := 12, ground := .data }], guard := none }) (v := ?_) rfl (by kernel_rfl) (by kernel_rfl) (by kernel_rfl) (by kernel_rfl) (fun _ _ _ h => h) (Or.inl ⟨by rfl, ?_⟩) hS ?_
  rotate_left 1
  · intro w hw; obtain ⟨s0, s1, s2, s3⟩ := hw; go_simp; try (with_reducible rfl)
  simp only [Act.put, List.setIfInBounds_toArray, List.set_cons_zero, List.set_cons_succ]
  refine wpAnyG_take (i := 15) (oi := { dst := some 61, op := .load 3 (.tmp 60), type := 3, pos := "job.go:45", after := #[{ on := 14, ground := .data }], guard := none }) (v := ?_) rfl (by kernel_rfl) (by kernel_rfl) (by kernel_rfl) (by kernel_rfl) (fun _ _ _ h => h) (Or.inl ⟨by rfl, ?_⟩) hS ?_
  rotate_left 1
  · intro w hw; obtain ⟨s0, s1, s2, s3⟩ := hw; go_simp; try (with_reducible rfl)
  simp only [Act.put, List.setIfInBounds_toArray, List.set_cons_zero, List.set_cons_succ]
  refine wpAnyG_take (i := 16) (oi := { dst := some 62, op := .call { callee := .builtin .min, args := #[.tmp 52, .tmp 56, .tmp 61], argTypes := #[3, 3, 3] }, type := 3, pos := "job.go:45", after := #[{ on := 6, ground := .data }, { on := 10, ground := .data }, { on := 15, ground := .data }], guard := none }) (v := .int .i64 m) rfl (by kernel_rfl) (by kernel_rfl) (by kernel_rfl) (by kernel_rfl) (fun _ _ _ h => h) (Or.inl ⟨by rfl, ?_⟩) hS ?_
  · intro w hw; obtain ⟨s0, s1, s2, s3⟩ := hw; go_simp; try simp only [run_min3, hmi, Result.andThen]
  simp only [Act.put, List.setIfInBounds_toArray, List.set_cons_zero, List.set_cons_succ]
  refine wpAnyG_take (i := 17) (oi := { dst := some 63, op := .binOp .add 3 (.tmp 47) (.tmp 62) 3, type := 3, pos := "job.go:45", after := #[{ on := 1, ground := .data }, { on := 16, ground := .data }], guard := none }) (v := .int .i64 (sf + m)) rfl (by kernel_rfl) (by kernel_rfl) (by kernel_rfl) (by kernel_rfl) (fun _ _ _ h => h) (Or.inl ⟨by rfl, ?_⟩) hS ?_
  · intro w hw; obtain ⟨s0, s1, s2, s3⟩ := hw; go_simp
  simp only [Act.put, List.setIfInBounds_toArray, List.set_cons_zero, List.set_cons_succ]
  refine wpAnyG_take (i := 18) (oi := { dst := some 64, op := .fieldAddr 99 (.tmp 7) 2, type := 0, pos := "job.go:45", after := #[{ on := 0, ground := .phase }, { on := 1, ground := .phase }, { on := 2, ground := .phase }, { on := 3, ground := .phase }, { on := 4, ground := .phase }, { on := 5, ground := .phase }, { on := 6, ground := .phase }, { on := 7, ground := .phase }, { on := 8, ground := .phase }, { on := 9, ground := .phase }, { on := 10, ground := .phase }, { on := 11, ground := .phase }, { on := 12, ground := .phase }, { on := 13, ground := .phase }, { on := 14, ground := .phase }, { on := 15, ground := .phase }, { on := 16, ground := .phase }, { on := 17, ground := .phase }], guard := none }) (v := ?_) rfl (by kernel_rfl) (by kernel_rfl) (by kernel_rfl) (by kernel_rfl) (fun _ _ _ h => h) (Or.inl ⟨by rfl, ?_⟩) hS ?_
  rotate_left 1
  · intro w hw; obtain ⟨s0, s1, s2, s3⟩ := hw; go_simp; try (with_reducible rfl)
  simp only [Act.put, List.setIfInBounds_toArray, List.set_cons_zero, List.set_cons_succ]
  refine wpAnyG_ready (rs := [19]) (by kernel_rfl) (by simp) (AllReadyG.last (o := { dst := none, op := .store 3 (.tmp 64) (.tmp 63), type := 0, pos := "job.go:45", after := #[{ on := 18, ground := .data }, { on := 17, ground := .data }, { on := 0, ground := .phase }, { on := 1, ground := .phase }, { on := 2, ground := .phase }, { on := 3, ground := .phase }, { on := 4, ground := .phase }, { on := 5, ground := .phase }, { on := 6, ground := .phase }, { on := 7, ground := .phase }, { on := 8, ground := .phase }, { on := 9, ground := .phase }, { on := 10, ground := .phase }, { on := 11, ground := .phase }, { on := 12, ground := .phase }, { on := 13, ground := .phase }, { on := 14, ground := .phase }, { on := 15, ground := .phase }, { on := 16, ground := .phase }, { on := 17, ground := .phase }], guard := none }) rfl (fun K hK => ?_))
  go_simp
  refine hK.out _ _ ?_
  clear hK K
  try simp only [Act.put, List.setIfInBounds_toArray, List.set_cons_zero, List.set_cons_succ]
  refine wpAnyG_done (by kernel_rfl) ?_ _

  obtain ⟨w3, hw3'⟩ : ∃ w3, (w2.setCell ⟨Z + 1, 2, none⟩ (.int .i64 (sf + m))).drew = w3 := ⟨_, rfl⟩
  have hw3 : w2.drew.setCell ⟨Z + 1, 2, none⟩ (.int .i64 (sf + m)) = w3 := by rw [← hw3']; rfl
  have H3 := Lib.hid (show Below w.heap.size w w3 ∧ RowAt w3 (Z + 1) 99 #[.int .i64 rn, .int .i64 sf, .int .i64 (sf + m)] ∧ RowAt w3 (Z + 1 + 1) 99 #[.int .i64 0, .int .i64 0, .int .i64 0] by
    have hd : Below w2.heap.size w2 w2.drew := below_dn (Below.refl _ w2) 1
    have hc : Ch (fun j => j = Z + 1) w2.drew w3 := by rw [← hw3]; exact (Ch.refl (fun j => j = Z + 1) w2.drew).setCell ⟨Z + 1, 2, none⟩ _ (.inl rfl)
    have hb : Below w.heap.size w w2.drew := H2.out.1.trans (hd.mono H2.out.1.size)
    refine ⟨hb.trans (hc.below (fun j hj e => by have := HZZ.out; omega) hb.size), ?_, (H2.out.2.2.2.new hd).keep hc (by omega)⟩
    rw [← hw3]
    exact (H2.out.2.2.1.new hd).setC 2 _)
  rw [hw3']
  clear hw3 hw3' H2 hS c0 c1 c2 d0 d1 d2 t0 fz
  go_wp2_with (first
    | (refine wpList_load_row rfl 99 (.tmp 7) rfl (Z + 1) rfl 99 #[.int .i64 rn, .int .i64 sf, .int .i64 (sf + m)] (0, 0) _ H3.out.2.1 Try.underlying99 rfl (by kernel_rfl) ?_)
    | (refine wpList_store_row rfl 99 (.tmp 8) (.tmp 65) rfl (Z + 1 + 1) #[.int .i64 rn, .int .i64 sf, .int .i64 (sf + m)] (by rfl) (by rfl) 99 _ H3.out.2.2 (by kernel_rfl) (by rfl) (by simp [Value.oneCell']) ?_; generalize hw4 : World.setRow _ _ _ = w4)
    | fail)
  have H4 := Lib.hid (show Below w.heap.size w w4 ∧ RowAt w4 (Z + 1 + 1) 99 #[.int .i64 rn, .int .i64 sf, .int .i64 (sf + m)] by
    rw [← hw4]; exact ⟨below_row H3.out.1 (Nat.le_refl _) (by have := HZZ.out; omega) _, H3.out.2.2.put⟩)
  have x0 : w4.cell? ⟨Z + 1 + 1, 0, none⟩ = some (.int .i64 rn) := H4.out.2.cell 0
  have x1 : w4.cell? ⟨Z + 1 + 1, 1, none⟩ = some (.int .i64 sf) := H4.out.2.cell 1
  have x2 : w4.cell? ⟨Z + 1 + 1, 2, none⟩ = some (.int .i64 (sf + m)) := H4.out.2.cell 2
  refine bodyPost_ret (v := .tuple #[.agg #[.int .i64 rn, .int .i64 sf, .int .i64 (sf + m)], .bool true]) (by simp [results, Try.results80, go_sem, x0, x1, x2]) rfl ?_
  refine ⟨⟨rn, sf, sf + m⟩, by rw [HT.out], fun _ => ?_, H4.out.1⟩
  unfold cutS
  rw [Int.toNat_natCast, HY.out, HM.out]
end Go.Proofs.Ytcipkkeegbfaeaa
