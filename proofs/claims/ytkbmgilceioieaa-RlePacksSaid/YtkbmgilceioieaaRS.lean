/- The walk of RleSmall. -/
import Derived.Test.YtkbmgilceioieaaRA
import Derived.Laws.MakeOwn
import Derived.Laws.OwnMore
namespace Go.Proofs.Ytkbmgilceioieaa
open Go.RowKit
attribute [local go_sem] Oper.semAt_some

/-- The first k of the m words are x. -/
def Fill (base B m x k : Nat) (W : World) : Prop := ∃ L : List Value, W.ownsRow base 27 1 (.slice (some ⟨B, 0, none⟩) m m) m L ∧ L.length = m ∧ ∀ j, j < k → L[j]? = some (.int .u32 (x : Int))
theorem Fill.at {base B m x k : Nat} {W : World} (h : Fill base B m x k W) (hk : k < m) : ∃ v, W.cell? ⟨B, k, none⟩ = some v ∧ W.frozen? ⟨B, k, none⟩ = false := by
  obtain ⟨L, h1, h2, -⟩ := h
  have h3 := h1.cellAt k (by omega)
  rw [List.getElem?_eq_getElem (by omega)] at h3
  exact ⟨_, h3, h1.frozenAt k⟩
theorem Fill.put {base B m x k : Nat} {W : World} (h : Fill base B m x k W) (hk : k < m) : Fill base B m x (k + 1) (W.setCell ⟨B, k, none⟩ (.int .u32 (x : Int))) := by
  obtain ⟨L, h1, h2, h3⟩ := h
  refine ⟨L.set k (.int .u32 (x : Int)), (h1.stored k _).1, by simpa using h2, fun j hj => ?_⟩
  by_cases e : j = k
  · subst e; rw [List.getElem?_set_self (by omega)]
  · rw [List.getElem?_set_ne (by omega)]; exact h3 j (by omega)
theorem Fill.all {base B m x : Nat} {W : World} (h : Fill base B m x m W) : SL W (some ⟨B, 0, none⟩) B 0 (List.replicate m x) := by
  obtain ⟨L, h1, h2, h3⟩ := h
  refine ⟨fun _ => rfl, fun k hk => ?_⟩
  rw [List.length_replicate] at hk
  rw [Nat.zero_add, h1.cellAt k (by omega), h3 k hk]
  simp [nthW, hk]

set_option maxHeartbeats 2000000 in
set_option maxRecDepth 100000 in
theorem law_small (sp : Option Addr) (b off cap : Nat) (l : List Nat) (x : Nat) (many : Int) (w : World) (hl : SL w sp b off l) (hcap : l.length ≤ cap) (hmax : cap ≤ maxLen) (hb : ∀ x ∈ l, x < 4294967296) (hx : x < 4294967296) :
    Calls Try.prog 10 #[.slice sp l.length cap, .int .u32 (x : Int), .int .i64 many] w fun e w' => e = .returned (.bool true) ∧ Below w.heap.size w w' := by
  by_cases e1 : (10000 : Int) < (l.length : Int)
  · go_enter Try.func10, Try.ntmps10
    go_wp2
    go_ret
    exact ⟨rfl, Below.refl _ _⟩
  by_cases e2 : many < 3
  · go_enter Try.func10, Try.ntmps10
    go_wp2
    go_ret
    exact ⟨rfl, Below.refl _ _⟩
  by_cases e3 : 10000 < many
  · go_enter Try.func10, Try.ntmps10
    go_wp2
    go_ret
    exact ⟨rfl, Below.refl _ _⟩
  by_cases e5 : 0 < many % 4096 ∧ many % 4096 < 3
  · obtain ⟨e5, e6⟩ := e5
    go_enter Try.func10, Try.ntmps10
    go_wp2
    go_ret
    exact ⟨rfl, Below.refl _ _⟩
  obtain ⟨i0, hi, hz0, hz1, hz2⟩ := info_parts info27
  obtain ⟨m, rfl⟩ : ∃ m : Nat, many = m := ⟨many.toNat, by omega⟩
  have e7 : ¬ (0 : Int) < (m : Int) % 4096 ∨ ¬ (m : Int) % 4096 < 3 := by omega
  obtain ⟨w1, hmk, hown, hgr⟩ := run_makeSlice_full (P := Try.prog) w w.heap.size 25 27 i0 (.int .u32 0) 1 Try.underlying25 hi hz0 hz1 .i64 .i64 m (by omega) (by rw [hz2]; omega) (by unfold maxLen; omega) (Nat.le_refl _)
  have hF : Fill w.heap.size w.heap.size m x 0 w1 := ⟨_, hown, by simp [size_madeCells], fun j hj => by omega⟩
  have hB : Below w.heap.size w w1 := (Below.refl _ w).grown hgr (Nat.le_refl _) (fun k hk => by simp at hk)
  obtain ⟨B, hBe⟩ : ∃ B, w.heap.size = B := ⟨_, rfl⟩
  rw [hBe] at hmk hF hB ⊢
  have HM := Lib.hid (And.intro hBe (And.intro hF hB))
  have HL := Lib.hid (And.intro hl (And.intro hcap (And.intro hmax hb)))
  have HE := Lib.hid (And.intro e5 e7)
  have m1 : (3 : Int) ≤ (m : Int) := by omega
  have m2 : (m : Int) ≤ 10000 := by omega
  have m3 : (l.length : Int) ≤ 10000 := by omega
  clear hown hgr hF hB hBe hl hcap hmax hb e1 e2 e3 e5
  go_enter Try.func10, Try.ntmps10
  rcases e7 with e7 | e7
  all_goals
    go_wp2
    go_loopg [8] m (fun g v wr => ∃ k : Nat, k + g = m ∧ v = .int .i64 k ∧ Aside (Fill B B m x k wr ∧ Below B w wr))
    case atStart => exact ⟨0, by omega, rfl, HM.out.2⟩
    case round =>
      obtain ⟨k, hkg, rfl, HR⟩ := hrel
      cases gk with
      | zero =>
        have d1 : ¬ (k : Int) < (m : Int) := by omega
        obtain rfl : k = m := by omega
        have HB1 := HR.out.2.size
        rw [HM.out.1] at HB1
        obtain ⟨L1, hL1⟩ : ∃ L1, List.replicate k x = L1 := ⟨_, rfl⟩
        have hl1 : L1.length = k := by rw [← hL1, List.length_replicate]
        have hp1 := pack_any L1 (some ⟨B, 0, none⟩) B 0 k wr (hL1 ▸ HR.out.1.all) (by omega) (by omega) (by unfold maxLen; omega) (by rw [← hL1]; intro y hy; rw [List.eq_of_mem_replicate hy]; exact hx)
        rw [hl1] at hp1
        obtain ⟨Y1, hY1⟩ : ∃ Y1, packS L1 = Y1 := ⟨_, rfl⟩
        rw [hY1] at hp1
        have hq1 : Y1.length = 2 * ((k + 4095) / 4096) := by rw [← hY1, ← hL1]; exact small_all x k (by omega) (by have := HE.out; omega)
        have HP1 := Lib.hid hp1
        obtain ⟨Y2, hY2⟩ : ∃ Y2, packS l = Y2 := ⟨_, rfl⟩
        have hq2 : Y2.length ≤ l.length + l.length / 2 + 1 := by rw [← hY2]; exact (small_any l).1
        have hp2 : ∀ w2, Below wr.heap.size wr w2 → Calls Try.prog 41 #[.slice sp l.length cap] w2 fun e w' => ∃ v, e = .returned v ∧ w'.ownsRow w2.heap.size 27 1 v Y2.length (rowW Y2) ∧ Below w2.heap.size w2 w' := by
          intro w2 hw2
          rw [← hY2]
          exact pack_any l sp b off cap w2 (HL.out.1.below (HR.out.2.trans (hw2.mono HB1)) (fun h0 => by have := HL.out.1.lt h0; rw [HM.out.1] at this; exact this)) HL.out.2.1 (by omega) HL.out.2.2.1 HL.out.2.2.2
        have HP2 := Lib.hid hp2
        clear hp1 hp2 hY1 hY2 hL1
        go_wp2_with (first
          | (go_at_call 41; refine HP1.out.mono ?_; rintro e w2 ⟨v2, rfl, ho2, hb2⟩; obtain ⟨sp2, g2, cap2, rfl, -, -, -⟩ := own_SL ho2; have HB2 := Lib.hid hb2; clear ho2 hb2 HP1)
          | (go_at_call 41; refine (HP2.out _ HB2.out).mono ?_; clear HP2; rintro e w3 ⟨v3, rfl, ho3, hb3⟩; obtain ⟨sp3, g3, cap3, rfl, -, -, -⟩ := own_SL ho3; have HB3 := Lib.hid hb3; clear ho3 hb3)
          | (go_at_call 43; refine (alive_any _).mono ?_; rintro e w4 ⟨rfl, hb4⟩; have HB4 := Lib.hid hb4; clear hb4))
        go_ret
        have z2 := HB2.out.size
        have z3 := HB3.out.size
        exact ⟨rfl, ((HR.out.2.trans (HB2.out.mono HB1)).trans (HB3.out.mono (by omega))).trans (HB4.out.mono (by omega))⟩
      | succ g1 =>
        have d1 : (k : Int) < (m : Int) := by omega
        have d0 : (0 : Int) ≤ (k : Int) := by omega
        have d2 : (k : Int) ≤ 10000 := by omega
        obtain ⟨v0, c1, f1⟩ := HR.out.1.at (show k < m by omega)
        go_wp2
        go_roundg g1
        case measure => omega
        case rel => exact ⟨k + 1, by omega, by go_num, HR.out.1.put (by omega), HR.out.2.setCell (Nat.le_refl _) _⟩
end Go.Proofs.Ytkbmgilceioieaa
