/- The contracts of law25's right and row. -/
import Derived.Test.YtcipkkeegbfaeaaXL
import Derived.DeepKeys
import Derived.ChangeKeysEq
namespace Go.Proofs.Ytcipkkeegbfaeaa
open Go.RowKit

/-- Are a task's Longest from 0 on? -/
def rightB (f : Nat → Int) : Bool := (List.range 8).all fun r => decide (0 ≤ f r)
theorem rightB_iff (f : Nat → Int) : rightB f = true ↔ ∀ r, r < 8 → 0 ≤ f r := by
  unfold rightB
  rw [List.all_eq_true]
  exact ⟨fun h r hr => by simpa using h r (List.mem_range.2 hr), fun h r hr => by simpa using h r (List.mem_range.1 hr)⟩
set_option maxHeartbeats 4000000 in
theorem right_any (a0 a1 a2 : Int) (f : Nat → Int) (w : World) : Calls Try.prog 28 #[.agg #[.int .i64 a0, .int .i64 a1, .int .i64 a2, .int .i64 (f 0), .int .i64 (f 1), .int .i64 (f 2), .int .i64 (f 3), .int .i64 (f 4), .int .i64 (f 5), .int .i64 (f 6), .int .i64 (f 7)]] w fun e w' => e = .returned (.bool (rightB f)) ∧ Below w.heap.size w w' := by
  have HW := Lib.hid (show ∀ w2, w.alloc (.cells #[.int .i64 a0, .int .i64 a1, .int .i64 a2, .int .i64 (f 0), .int .i64 (f 1), .int .i64 (f 2), .int .i64 (f 3), .int .i64 (f 4), .int .i64 (f 5), .int .i64 (f 6), .int .i64 (f 7)] 62) = w2 → Below w.heap.size w w2 ∧ RowAt w2 w.heap.size 62 (task11 a0 a1 a2 f) from fun w2 hw => by
    rw [← hw]; exact ⟨(Below.refl _ w).alloc (Nat.le_refl _) _, RowAt.mk w _ _⟩)
  obtain ⟨v, hv⟩ : ∃ v, rightB f = v := ⟨_, rfl⟩
  have HV := Lib.hid hv
  rw [hv]
  clear hv
  go_enter Try.func28, Try.ntmps28
  go_upto_region 1 with fail
  generalize hw2 : World.alloc _ _ = w2
  have H2 := Lib.hid (HW.out w2 hw2)
  clear hw2 HW
  go_wp2
  go_loopg [3] 8 (fun g u wr => ∃ k : Nat, k + g = 8 ∧ u = .int .i64 (k : Nat) ∧ wr = w2 ∧ Aside (∀ r, r < k → 0 ≤ f r))
  case atStart => exact ⟨0, by omega, rfl, rfl, fun r hr => by omega⟩
  case round =>
    obtain ⟨k, hkg, rfl, rfl, HK⟩ := hrel
    cases gk with
    | zero =>
      obtain rfl : k = 8 := by omega
      have HT := Lib.hid (show v = true by rw [← HV.out]; exact (rightB_iff f).2 HK.out)
      go_wp2
      go_ret
      exact ⟨by rw [HT.out]; rfl, H2.out.1⟩
    | succ g1 =>
      have hk : k < 8 := by omega
      have hk2 : (k : Int) < 8 := by omega
      have t0 : wr.cell? ⟨w.heap.size, 3 + k, none⟩ = some (.int .i64 (f k)) := (H2.out.2.cell (3 + k)).trans (task11_at a0 a1 a2 f k hk)
      obtain ⟨y, hy⟩ : ∃ y, f k = y := ⟨_, rfl⟩
      have HY := Lib.hid hy
      rw [hy] at t0
      clear hy
      by_cases q : y < 0
      · have HN := Lib.hid (show v = false by rw [← HV.out]; exact Bool.eq_false_iff.2 (fun h => by have := (rightB_iff f).1 h k hk; rw [HY.out] at this; omega))
        go_wp2
        go_ret
        exact ⟨by rw [HN.out]; rfl, H2.out.1⟩
      · go_wp2
        go_roundg g1
        case measure => omega
        case rel => exact ⟨k + 1, by omega, by go_num, rfl, fun r hr => by
          by_cases e : r = k
          · subst e; rw [HY.out]; omega
          · exact HK.out r (by omega)⟩
theorem eqIn_sec (d : Nat) (a b c a' b' c' : Int) (w : World) : (Op.equalIn (d + 2) 99 (.agg #[.int .i64 a, .int .i64 b, .int .i64 c]) (.agg #[.int .i64 a', .int .i64 b', .int .i64 c'])).run Try.prog w = .ok (decide (a = a' ∧ b = b' ∧ c = c')) w := by
  rw [run_equalIn_agg (P := Try.prog) w (d + 1) 99 _ _ (by kernel_rfl) (by kernel_rfl)]
  simp [Op.eqFields, go_sem, part]
  repeat' split
  all_goals simp_all
theorem neq_sec (a b c : Int) (w : World) : (Go.binOp .neq 99 (.agg #[.int .i64 a, .int .i64 b, .int .i64 c]) (.agg #[.int .i64 a, .int .i64 b, .int .i64 c])).run Try.prog w = .ok (.bool false) w := by
  have h : (Op.equal 99 (.agg #[.int .i64 a, .int .i64 b, .int .i64 c]) (.agg #[.int .i64 a, .int .i64 b, .int .i64 c])).run Try.prog w = .ok (decide (a = a ∧ b = b ∧ c = c)) w := eqIn_sec 9998 a b c a b c w
  simp [Go.binOp, h]
set_option maxHeartbeats 4000000 in
theorem row_same (S R : Src) (n : Nat) (L : Nat → Sec) (w : World) (hn : n ≤ 1000) (hs : SlAt w (fun _ => False) S n) (hr : SlAt w (fun _ => False) R n)
    (he : ∀ k, k < n → At w S.b (S.o + k * 3) (secC (L k))) (hf : ∀ k, k < n → At w R.b (R.o + k * 3) (secC (L k))) :
    Calls Try.prog 29 #[.slice S.sp n S.c, .slice R.sp n R.c] w fun e w' => e = .returned (.bool true) ∧ Below w.heap.size w w' := by
  have HE := Lib.hid (show ∀ k, k < n → ∀ wr, Below w.heap.size w wr → At wr S.b (S.o + k * 3) (secC (L k)) ∧ At wr R.b (R.o + k * 3) (secC (L k)) from fun k hk wr hb => ⟨(he k hk).keep (Ch.new hb (T := fun _ => False)) (fun h => h), (hf k hk).keep (Ch.new hb (T := fun _ => False)) (fun h => h)⟩)
  have HSP := Lib.hid (fun (h0 : 0 < n) => And.intro (hs.at_ h0).1 (hr.at_ h0).1)
  have hne := neq_sec
  obtain ⟨sp, sb, so, sc⟩ := S
  obtain ⟨rp, rb, ro, rc⟩ := R
  dsimp only at HE HSP ⊢
  clear hs hr he hf
  go_enter Try.func29, Try.ntmps29
  go_wp2
  go_loopg [5] n (fun g u wr => ∃ k : Nat, k + g = n ∧ u = .int .i64 (k : Nat) ∧ Aside (Below w.heap.size w wr))
  case atStart => exact ⟨0, by omega, rfl, Below.refl _ _⟩
  case round =>
    obtain ⟨k, hkg, rfl, HK⟩ := hrel
    cases gk with
    | zero =>
      obtain rfl : k = n := by omega
      go_wp2
      go_ret
      exact ⟨rfl, HK.out⟩
    | succ g1 =>
      have hk : k < n := by omega
      have hk2 : (k : Int) < n := by omega
      obtain ⟨rfl, rfl⟩ := HSP.out (by omega)
      obtain ⟨hc, hd⟩ := HE.out k hk wr HK.out
      obtain ⟨⟨x, y, z⟩, hL⟩ : ∃ s, L k = s := ⟨_, rfl⟩
      rw [hL] at hc hd
      have c0 : wr.cell? ⟨sb, so + k * 3, none⟩ = some (.int .i64 x) := hc 0 _ rfl
      have c1 : wr.cell? ⟨sb, so + k * 3 + 1, none⟩ = some (.int .i64 y) := hc 1 _ rfl
      have c2 : wr.cell? ⟨sb, so + k * 3 + 2, none⟩ = some (.int .i64 z) := hc 2 _ rfl
      have d0 : wr.cell? ⟨rb, ro + k * 3, none⟩ = some (.int .i64 x) := hd 0 _ rfl
      have d1 : wr.cell? ⟨rb, ro + k * 3 + 1, none⟩ = some (.int .i64 y) := hd 1 _ rfl
      have d2 : wr.cell? ⟨rb, ro + k * 3 + 2, none⟩ = some (.int .i64 z) := hd 2 _ rfl
      clear hc hd hL
      go_upto_region 6 with fail
      go_quiet (fail)
      have HB := Lib.hid (show Below w.heap.size w (wr.drewN nq) from below_dn HK.out nq)
      go_wp2
      go_roundg g1
      case measure => omega
      case rel => exact ⟨k + 1, by omega, by go_num, HB.out⟩
end Go.Proofs.Ytcipkkeegbfaeaa
