/- The contracts of the reference's List and Between, and of the law's alive. -/
import Derived.Test.YtkfaccbabagooaaDoorRef
namespace Go.Proofs.YtkfaccbabagooaaDoor
open Go.RowKit

theorem info3 : (Tryd.prog.info? 3).map (fun i => (i.zero, i.size, i.bytes)) = some (some (.int .i64 0), 1, 8) := by kernel_rfl
def rowI (l : List Int) : List Value := l.map (Value.int .i64)
theorem rowI_get (l : List Int) (j : Nat) (h : j < l.length) : (rowI l)[j]? = some (.int .i64 (nth l j)) := by
  unfold rowI nth
  rw [List.getElem?_map, List.getElem?_eq_getElem h]; simp [h]
theorem odd_test (x : BitVec 32) (k : Nat) : ((w32 x / 2 ^ k).tmod 2 == 1) = x.getLsbD k := by
  have e1 : w32 x / 2 ^ k = ((x.toNat / 2 ^ k : Nat) : Int) := by unfold w32; simp
  have e2 : ((x.toNat / 2 ^ k : Nat) : Int).tmod 2 = ((x.toNat / 2 ^ k % 2 : Nat) : Int) := rfl
  rw [e1, e2, BitVec.getLsbD, Nat.testBit_eq_decide_div_mod_eq]
  have : x.toNat / 2 ^ k % 2 < 2 := Nat.mod_lt _ (by omega)
  rw [Bool.eq_iff_iff, beq_iff_eq, decide_eq_true_iff]
  omega
theorem one_cell (n : Int) : ∀ u ∈ [Value.int .i64 n], u.oneCell' = true := by intro u hu; simp at hu; subst hu; rfl

theorem list_any (x : BitVec 32) (w : World) : Calls Tryd.prog 6 #[.int .u32 (w32 x)] w fun e w' =>
    ∃ v, e = .returned v ∧ w'.ownsRow w.heap.size 3 1 v (lst x 32).length (rowI (ints (lst x 32))) ∧ Below w.heap.size w w' := by
  obtain ⟨i0, hi, hz0, hz1, hz2⟩ := info_parts info3
  go_enter Tryd.func6, Tryd.ntmps6
  go_wp2
  go_loopg [3, 4] 32 (fun g v i wr => ∃ (k : Nat), k + g = 32 ∧ i = .int .i64 k ∧ wr.ownsRow w.heap.size 3 1 v (lst x k).length (rowI (ints (lst x k))) ∧ Below w.heap.size w wr)
  case atStart => exact ⟨0, by omega, rfl, World.ownsRow_nil _ _ _ _, Below.refl _ _⟩
  case round =>
    obtain ⟨k, hkg, rfl, hown, hB⟩ := hrel
    have HO := Lib.hid hown
    have HB := Lib.hid hB
    clear hown hB
    cases gk with
    | zero =>
      obtain rfl : k = 32 := by omega
      go_wp2
      go_ret
      exact ⟨_, rfl, HO.out, HB.out⟩
    | succ g1 =>
      have hk : k < 32 := by omega
      have hkl := lst_len x k
      have ht := odd_test x k
      have hls := lst_succ x k
      cases hd : x.getLsbD k
      · rw [hd] at ht hls
        have HLS := Lib.hid hls
        clear hls hd
        go_wp2
        go_roundg g1
        case measure => omega
        case rel =>
          have e : lst x (k + 1) = lst x k := HLS.out
          exact ⟨k + 1, by omega, by go_num, by rw [e]; exact HO.out, HB.out⟩
      · rw [hd] at ht hls
        have HLS := Lib.hid hls
        clear hls hd
        go_wp2_with (at_builtin; refine wpList_append_own _ rfl (.tmp 15) (.tmp 17) 22 rfl w.heap.size 3 i0 (.int .i64 0) 1 8 Tryd.underlying22 hi hz0 hz1 hz2 rfl Nat.one_pos _ (lst x k).length (rowI (ints (lst x k))) rfl (HO.out.alloc _) ⟨wr.heap.size, 0, none⟩ 1 1 [.int .i64 k] rfl rfl (cell_one_new _ _ _) (one_cell _) (by unfold maxLen; omega) (by omega) (by rw [World.size_alloc]; exact Nat.le_succ_of_le HB.out.size) ?_; intro v1 w1 hown1 hg1 _; have HO1 := Lib.hid hown1; have HB1 := Lib.hid (Below.grown (Below.alloc HB.out HB.out.size _) hg1 (by rw [World.size_alloc]; exact Nat.le_succ_of_le HB.out.size) (fun j e => (HO.out.lt j e).1)); clear hown1 hg1)
        go_roundg g1
        case measure => omega
        case rel =>
          have e : lst x (k + 1) = lst x k ++ [k] := HLS.out
          have h := HO1.out
          refine ⟨k + 1, by omega, by go_num, ?_, HB1.out⟩
          rw [e]
          unfold ints rowI at h ⊢
          rw [List.length_append, List.map_append, List.map_append]
          exact h

/-- An owned row, as a slice that lies. -/
theorem own_lies {w : World} {base : Nat} {v : Value} {l : List Int} (h : w.ownsRow base 3 1 v l.length (rowI l)) :
    ∃ sp g cap, v = .slice sp l.length cap ∧ Lies w sp g 0 l ∧ (0 < l.length → base ≤ g ∧ g < w.heap.size) := by
  rcases h.2 with ⟨rfl, h0⟩ | ⟨g, cap, cur, rfl, _⟩
  · exact ⟨none, 0, 0, by rw [h0], ⟨fun h => by omega, fun k hk => by omega⟩, fun h => by omega⟩
  · have hl := h.lt g rfl
    exact ⟨some ⟨g, 0, none⟩, g, cap, rfl, ⟨fun _ => ⟨rfl, hl.2⟩, fun k hk => by rw [Nat.zero_add]; exact (h.cellAt k (by omega)).trans (rowI_get _ k hk)⟩, fun _ => hl⟩

def midN (x : BitVec 32) (a b : Int) (k : Nat) : List Int := ((ints (lst x 32)).take k).filter fun k => decide (a < k) && decide (k < b)
theorem midN_succ (x : BitVec 32) (a b : Int) (k : Nat) (hk : k < (ints (lst x 32)).length) :
    midN x a b (k + 1) = if decide (a < nth (ints (lst x 32)) k) && decide (nth (ints (lst x 32)) k < b) then midN x a b k ++ [nth (ints (lst x 32)) k] else midN x a b k := by
  unfold midN
  rw [take_succ_nth _ k hk, List.filter_append]
  cases h : (decide (a < nth (ints (lst x 32)) k) && decide (nth (ints (lst x 32)) k < b))
  · simp [h]
  · simp [h]
theorem midN_len (x : BitVec 32) (a b : Int) (k : Nat) : (midN x a b k).length ≤ 32 := by
  unfold midN
  have h1 := List.length_filter_le (fun k => decide (a < k) && decide (k < b)) ((ints (lst x 32)).take k)
  have h2 : ((ints (lst x 32)).take k).length ≤ (ints (lst x 32)).length := by simp; omega
  have h3 : (ints (lst x 32)).length = (lst x 32).length := by unfold ints; simp
  have h4 := lst_len x 32
  omega

theorem between_any (x : BitVec 32) (a b : Int) (w : World) : Calls Tryd.prog 9 #[.int .u32 (w32 x), .int .i64 a, .int .i64 b] w fun e w' =>
    e = .returned (.int .u32 (w32 (btw x a b))) ∧ Below w.heap.size w w' := by
  obtain ⟨i0, hi, hz0, hz1, hz2⟩ := info_parts info3
  go_enter Tryd.func9, Tryd.ntmps9
  go_wp2_with fail
  refine (list_any x w).mono ?_
  rintro e w1 ⟨v, rfl, hown, hb1⟩
  obtain ⟨L, hL⟩ : ∃ L, L = ints (lst x 32) := ⟨_, rfl⟩
  have hlen : (lst x 32).length = L.length := by rw [hL]; unfold ints; simp
  rw [← hL, hlen] at hown
  obtain ⟨sp, g, cap, rfl, hlies, hg⟩ := own_lies hown
  have HLS := Lib.hid hlies
  have HB1 := Lib.hid hb1
  have HG := Lib.hid hg
  have h32 : L.length ≤ 32 := by rw [← hlen]; exact lst_len x 32
  have HLen := Lib.hid hL
  clear hlies hb1 hown hg hlen hL
  go_wp2
  go_loopg [8, 9] L.length (fun n v i wr => ∃ (k : Nat), k + n = L.length ∧ i = .int .i64 k ∧ wr.ownsRow w1.heap.size 3 1 v (midN x a b k).length (rowI (midN x a b k)) ∧ Below w1.heap.size w1 wr)
  case atStart => exact ⟨0, by omega, rfl, World.ownsRow_nil _ _ _ _, Below.refl _ _⟩
  case round =>
    obtain ⟨k, hkg, rfl, hown, hB⟩ := hrel
    have HO := Lib.hid hown
    have HB := Lib.hid hB
    clear hown hB
    cases gk with
    | zero =>
      obtain rfl : k = L.length := by omega
      have HR := HO.out
      have em : midN x a b L.length = mid x a b := by unfold midN mid; rw [← HLen.out, List.take_length]
      rw [em] at HR
      obtain ⟨sp2, g2, cap2, rfl, hlies2, hg2⟩ := own_lies HR
      have hml : (mid x a b).length ≤ 32 := by rw [← em]; exact midN_len x a b _
      have HF := Lib.hid (refof_any sp2 g2 0 cap2 (mid x a b) wr (by omega) hlies2)
      rw [ofR_mid] at HF
      clear HR em hlies2 hg2
      go_wp2_with (go_at_call 8; refine HF.out.mono ?_; rintro e w' ⟨rfl, rfl⟩)
      go_ret
      exact ⟨rfl, HB1.out.trans (HB.out.mono HB1.out.size)⟩
    | succ g1 =>
      have hlt : k < L.length := by omega
      have hk1 : (k : Int) < (L.length : Int) := by omega
      have hms := midN_succ x a b k (by rw [← HLen.out]; exact hlt)
      rw [← HLen.out] at hms
      have hml := midN_len x a b k
      obtain ⟨rfl, hgl⟩ := HLS.out.1 (by omega)
      have hc : wr.cell? ⟨g, 0 + k, none⟩ = some (.int .i64 (nth L k)) := by rw [HB.out.cell (p := ⟨g, 0 + k, none⟩) hgl]; exact HLS.out.2 k hlt
      rw [Nat.zero_add] at hc
      by_cases hcond : a < nth L k ∧ nth L k < b
      · obtain ⟨ha, hb⟩ := hcond
        have HMS := Lib.hid hms
        have HA := Lib.hid (And.intro ha hb)
        clear hms
        go_wp2_with (at_builtin; refine wpList_append_own _ rfl (.tmp 32) (.tmp 37) 22 rfl w1.heap.size 3 i0 (.int .i64 0) 1 8 Tryd.underlying22 hi hz0 hz1 hz2 rfl Nat.one_pos _ (midN x a b k).length (rowI (midN x a b k)) rfl (HO.out.alloc _) ⟨wr.heap.size, 0, none⟩ 1 1 [.int .i64 (nth L k)] rfl rfl (cell_one_new _ _ _) (one_cell _) (by unfold maxLen; omega) (by omega) (by rw [World.size_alloc]; exact Nat.le_succ_of_le HB.out.size) ?_; intro v1 w2 hown1 hg1 _; have HO1 := Lib.hid hown1; have HB2 := Lib.hid (Below.grown (Below.alloc HB.out HB.out.size _) hg1 (by rw [World.size_alloc]; exact Nat.le_succ_of_le HB.out.size) (fun j e => (HO.out.lt j e).1)); clear hown1 hg1)
        go_roundg g1
        case measure => omega
        case rel =>
          have e : midN x a b (k + 1) = midN x a b k ++ [nth L k] := by
            have h := HMS.out
            rw [if_pos (by simp [HA.out.1, HA.out.2])] at h
            exact h
          have h := HO1.out
          refine ⟨k + 1, by omega, by go_num, ?_, HB2.out⟩
          rw [e]
          unfold rowI at h ⊢
          rw [List.length_append, List.map_append]
          exact h
      · have HMS := Lib.hid hms
        have HA := Lib.hid hcond
        clear hms
        by_cases ha : a < nth L k
        · have hb : ¬ (nth L k < b) := fun h => hcond ⟨ha, h⟩
          clear hcond
          go_wp2
          go_roundg g1
          case measure => omega
          case rel =>
            have e : midN x a b (k + 1) = midN x a b k := by
              have h := HMS.out
              rw [if_neg (by simpa using HA.out)] at h
              exact h
            exact ⟨k + 1, by omega, by go_num, by rw [e]; exact HO.out, HB.out⟩
        · clear hcond
          go_wp2
          go_roundg g1
          case measure => omega
          case rel =>
            have e : midN x a b (k + 1) = midN x a b k := by
              have h := HMS.out
              rw [if_neg (by simpa using HA.out)] at h
              exact h
            exact ⟨k + 1, by omega, by go_num, by rw [e]; exact HO.out, HB.out⟩

end Go.Proofs.YtkfaccbabagooaaDoor
