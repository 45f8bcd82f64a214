/- The walk of GuardApart: true for every task, period and slice of ticks. -/
import Derived.Test.YtdfknobohgncaaaGB
import Derived.LoopTactic
import Derived.RegionTactic
import Derived.Deep.LoopGhost
import Derived.Deep.RegionWith
namespace Go.Proofs.Ytdfknobohgncaaa
open Go.RowKit

theorem wrap40 (x l : Int) (h1 : 0 ≤ x) (h2 : x ≤ 1099511627776) (h3 : 0 ≤ l) (h4 : l ≤ 1099511627776) : IntKind.i64.wrap (x - l) = x - l := by rw [IntKind.wrap_i64]; omega
set_option maxHeartbeats 1000000 in
theorem law_apart (t p : Int) (b off cap : Nat) (sp : Option Addr) (xs : List Int) (w : World) (hcap : xs.length ≤ 9223372036854775807) (hsp : 0 < xs.length → sp = some ⟨b, off, none⟩ ∧ b < w.heap.size)
    (hcell : ∀ k, k < xs.length → w.cell? ⟨b, off + k, none⟩ = some (.int .i64 (nth xs k))) :
    Calls Try.prog 6 #[.int .i64 t, .int .i64 p, .slice sp xs.length cap] w fun e w' => e = .returned (.bool true) ∧ Below w.heap.size w w' := by
  have HC := Lib.hid hcell
  have HS := Lib.hid hsp
  obtain ⟨n, hn⟩ : ∃ n, xs.length = n := ⟨_, rfl⟩
  rw [hn] at HC HS hcap ⊢
  clear hcell hsp hn
  by_cases h1 : 200 < (n : Int)
  · go_enter Try.func6, Try.ntmps6
    go_wp2
    go_ret
    exact ⟨rfl, Below.refl _ _⟩
  by_cases h2 : p < 1
  · go_enter Try.func6, Try.ntmps6
    go_wp2
    go_ret
    exact ⟨rfl, Below.refl _ _⟩
  by_cases h3 : 4096 < p
  · go_enter Try.func6, Try.ntmps6
    go_wp2
    go_ret
    exact ⟨rfl, Below.refl _ _⟩
  by_cases h4 : t < 0
  · go_enter Try.func6, Try.ntmps6
    go_wp2
    go_ret
    exact ⟨rfl, Below.refl _ _⟩
  by_cases h5 : 15 < t
  · go_enter Try.func6, Try.ntmps6
    go_wp2
    go_ret
    exact ⟨rfl, Below.refl _ _⟩
  obtain ⟨w1, hw1⟩ : ∃ w1, w1 = w.alloc (.cells #[.int .i64 0, .int .i64 0, .int .i64 0, .int .i64 0, .int .i64 0, .int .i64 0, .int .i64 0, .int .i64 0, .int .i64 0, .int .i64 0, .int .i64 0, .int .i64 0, .int .i64 0, .int .i64 0, .int .i64 0, .int .i64 0, .int .i64 0, .int .i64 0, .int .i64 0, .int .i64 0, .int .i64 0, .int .i64 0, .int .i64 0, .int .i64 0, .int .i64 0, .int .i64 0, .int .i64 0, .int .i64 0, .int .i64 0, .int .i64 0, .int .i64 0, .int .i64 0] 53) := ⟨_, rfl⟩
  have g1 : GAt w1 w.heap.size c0 := by rw [hw1]; exact GAt.new0 w
  have b1 : Below w.heap.size w w1 := by rw [hw1]; exact (Below.refl _ _).alloc (Nat.le_refl _) _
  have H1 := Lib.hid (And.intro g1 b1)
  have HB := Lib.hid (show ∀ wa wb, Below w.heap.size w wa → Ch (fun j => j = w.heap.size) wa wb → Below w.heap.size w wb from fun wa wb h1 h2 => h1.trans (h2.below (fun j hj e => by omega) h1.size))
  have ht : has t = true := (has_iff t).2 ⟨by omega, by omega⟩
  have HT := Lib.hid ht
  have HP := Lib.hid (show 1 ≤ p ∧ p ≤ 4096 by omega)
  have HL := Lib.hid hcap
  clear g1 b1 hcap ht
  go_enter Try.func6, Try.ntmps6
  go_wp2
  rw [← hw1]
  clear hw1
  go_loopg [8, 9, 10] n (fun g l s i wr => ∃ (k : Nat) (x : Int) (c : Nat → Int), k + g = n ∧ l = .int .i64 x ∧ s = .bool (decide (0 < k)) ∧ i = .int .i64 k ∧ Aside (GAt wr w.heap.size c ∧ okC c ∧ (0 < k → c t.toNat = x + p) ∧ (k = 0 → c t.toNat = 0) ∧ 0 ≤ x ∧ x ≤ 1099511627776 ∧ Below w.heap.size w wr))
  case atStart => exact ⟨0, 0, c0, by omega, rfl, rfl, rfl, H1.out.1, okC0, by omega, fun _ => rfl, by omega, by omega, H1.out.2⟩
  case round =>
    obtain ⟨k, x, c, hkg, rfl, rfl, rfl, HR⟩ := hrel
    cases gk with
    | zero =>
      obtain rfl : k = n := by omega
      have HA := Lib.hid (galive_any wr)
      have e : (decide (0 < k) == decide ((0 : Int) < (k : Int))) = true := by simp
      go_wp2_with (go_at_call 21; refine HA.out.mono ?_; rintro e w3 ⟨rfl, b3⟩; have HB3 := Lib.hid (HR.out.2.2.2.2.2.2.trans (b3.mono HR.out.2.2.2.2.2.2.size)); clear b3)
      go_ret
      exact ⟨rfl, HB3.out⟩
    | succ g1 =>
      have hk : k < n := by omega
      obtain ⟨rfl, hbl⟩ := HS.out (by omega)
      have hc : wr.cell? ⟨b, off + k, none⟩ = some (.int .i64 (nth xs k)) := by
        rw [← HC.out k hk]; exact HR.out.2.2.2.2.2.2.cell (p := ⟨b, off + k, none⟩) hbl
      obtain ⟨y, hy⟩ : ∃ y, nth xs k = y := ⟨_, rfl⟩
      rw [hy] at hc
      clear hy hbl
      by_cases hy0 : y < 0
      · go_wp2
        go_ret
        exact ⟨rfl, HR.out.2.2.2.2.2.2⟩
      by_cases hy1 : 1099511627776 < y
      · go_wp2
        go_ret
        exact ⟨rfl, HR.out.2.2.2.2.2.2⟩
      have HCame := Lib.hid (came_any HR.out.1 HR.out.2.1 t y p (by omega))
      cases hm : mayG c t y with
      | false =>
        rw [hm] at HCame
        have HM := Lib.hid hm
        clear hm
        go_wp2_with (go_at_call 20; refine HCame.out.mono ?_; rintro e w2 ⟨rfl, g2, b2⟩; have H2 := Lib.hid (And.intro g2 (HB.out _ _ HR.out.2.2.2.2.2.2 b2)); clear g2 b2)
        go_roundg g1
        case measure => omega
        case rel =>
          have hm := HM.out
          unfold mayG at hm
          rw [HT.out, Bool.true_and, decide_eq_false_iff_not] at hm
          have hk0 : 0 < k := by
            rcases Nat.eq_zero_or_pos k with e | e
            · have := HR.out.2.2.2.1 e; omega
            · exact e
          refine ⟨k + 1, x, cameG c t y p, by omega, rfl, by simp [hk0], by go_num, H2.out.1, HR.out.2.1.came t y p (by omega), fun _ => ?_, by omega, HR.out.2.2.2.2.1, HR.out.2.2.2.2.2.1, H2.out.2⟩
          unfold cameG
          rw [if_pos HT.out, if_neg hm]
          unfold upd
          rw [if_neg (by omega)]
          exact HR.out.2.2.1 hk0
      | true =>
        rw [hm] at HCame
        unfold mayG at hm
        rw [HT.out, Bool.true_and, decide_eq_true_iff] at hm
        have hx0 := HR.out.2.2.2.2.1
        have hx1 := HR.out.2.2.2.2.2.1
        have hw := wrap40 y x (by omega) (by omega) hx0 hx1
        have fin : GAt wr w.heap.size c → ∀ w2, GAt w2 w.heap.size (cameG c t y p) → Below w.heap.size w w2 → ∃ (k1 : Nat) (x1 : Int) (c1 : Nat → Int), k1 + g1 = n ∧ Value.int .i64 y = .int .i64 x1 ∧ Value.bool true = .bool (decide (0 < k1)) ∧ Value.int .i64 ((k : Int) + 1) = .int .i64 k1 ∧ Aside (GAt w2 w.heap.size c1 ∧ okC c1 ∧ (0 < k1 → c1 t.toNat = x1 + p) ∧ (k1 = 0 → c1 t.toNat = 0) ∧ 0 ≤ x1 ∧ x1 ≤ 1099511627776 ∧ Below w.heap.size w w2) := fun _ w2 h2 h3 => by
          refine ⟨k + 1, y, cameG c t y p, by omega, rfl, by simp, by rfl, h2, HR.out.2.1.came t y p (by omega), fun _ => ?_, by omega, by omega, by omega, h3⟩
          unfold cameG
          rw [if_pos HT.out, if_pos hm]
          unfold upd per
          rw [if_pos rfl]
          have := HP.out
          omega
        have FIN := Lib.hid fin
        clear fin
        rcases Nat.eq_zero_or_pos k with e0 | e0
        · have e1 : decide (0 < k) = false := by simp [e0]
          clear hm hw hx0 hx1 e0
          go_wp2_with (go_at_call 20; refine HCame.out.mono ?_; rintro e w2 ⟨rfl, g2, b2⟩; have H2 := Lib.hid (And.intro g2 (HB.out _ _ HR.out.2.2.2.2.2.2 b2)); have hc2 : w2.cell? ⟨b, off + k, none⟩ = some (.int .i64 y) := (b2.cell hc (by have := (HS.out (by omega)).2; simp; omega)); clear g2 b2)
          go_roundg g1
          case measure => omega
          case rel => exact FIN.out HR.out.1 _ H2.out.1 H2.out.2
        · have hl := HR.out.2.2.1 e0
          have hq : ¬ y - x < p := by omega
          have e1 : decide (0 < k) = true := by simpa using e0
          clear hm hl hx0 hx1
          go_wp2_with (go_at_call 20; refine HCame.out.mono ?_; rintro e w2 ⟨rfl, g2, b2⟩; have H2 := Lib.hid (And.intro g2 (HB.out _ _ HR.out.2.2.2.2.2.2 b2)); have hc2 : w2.cell? ⟨b, off + k, none⟩ = some (.int .i64 y) := (b2.cell hc (by have := (HS.out (by omega)).2; simp; omega)); clear g2 b2)
          go_roundg g1
          case measure => omega
          case rel => exact FIN.out HR.out.1 _ H2.out.1 H2.out.2
end Go.Proofs.Ytdfknobohgncaaa
