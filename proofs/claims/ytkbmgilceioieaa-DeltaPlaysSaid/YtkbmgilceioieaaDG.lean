/- The contracts of the reference's Drop, Add and Tick on timers. -/
import Derived.Test.YtkbmgilceioieaaDF
import Derived.Deep.RegionHeld3
import Derived.BigRegion
namespace Go.Proofs.Ytkbmgilceioieaa
open Go.RowKit

/-- Where a row of timers lies. -/
def RowT (w : World) (sp : Option Addr) (g : Nat) (r : List (Int × Int)) : Prop :=
  (0 < r.length → sp = some ⟨g, 0, none⟩) ∧ ∀ k, k < r.length → w.cell? ⟨g, k * 2, none⟩ = some (.int .i64 (aI r k)) ∧ w.cell? ⟨g, k * 2 + 1, none⟩ = some (.int .i64 (aT r k))
theorem own_rowT {w : World} {base : Nat} {e : TypeId} {v : Value} {r : List (Int × Int)} (h : w.ownsRow base e 2 v r.length (rowI (flatA r))) :
    ∃ sp g cap, v = .slice sp r.length cap ∧ RowT w sp g r ∧ (0 < r.length → base ≤ g ∧ g < w.heap.size) := by
  rcases h.2 with ⟨rfl, h0⟩ | ⟨g, cap, cur, rfl, _⟩
  · exact ⟨none, 0, 0, by rw [h0], ⟨fun h => by omega, fun k hk => by omega⟩, fun h => by omega⟩
  · have hl := h.lt g rfl
    refine ⟨some ⟨g, 0, none⟩, g, cap, rfl, ⟨fun _ => rfl, fun k hk => ?_⟩, fun _ => hl⟩
    have hf := flatA_at r k hk
    exact ⟨(h.cellAt (k * 2) (by omega)).trans hf.1, (h.cellAt (k * 2 + 1) (by omega)).trans hf.2⟩
theorem RowT.below {w w' : World} {sp : Option Addr} {g n : Nat} {r : List (Int × Int)} (h : RowT w sp g r) (hb : Below n w w') (hn : 0 < r.length → g < n) : RowT w' sp g r :=
  ⟨h.1, fun k hk => by
    obtain ⟨h1, h2⟩ := h.2 k hk
    exact ⟨(hb.cell (p := ⟨g, k * 2, none⟩) (hn (by omega))).trans h1, (hb.cell (p := ⟨g, k * 2 + 1, none⟩) (hn (by omega))).trans h2⟩⟩
theorem RowT.lt {w : World} {sp : Option Addr} {g : Nat} {r : List (Int × Int)} (h : RowT w sp g r) (h0 : 0 < r.length) : g < w.heap.size := by
  have := World.block_lt_of_cell? w _ (h.2 0 h0).1; simpa using this
theorem RowT.new {w w' : World} {sp : Option Addr} {g : Nat} {r : List (Int × Int)} (h : RowT w sp g r) (hb : Below w.heap.size w w') : RowT w' sp g r := h.below hb h.lt
theorem RowT.ch {T : Nat → Prop} {w w' : World} {sp : Option Addr} {g : Nat} {r : List (Int × Int)} (h : RowT w sp g r) (hb : Ch T w w') (hn : 0 < r.length → ¬ T g) : RowT w' sp g r :=
  ⟨h.1, fun k hk => by
    obtain ⟨h1, h2⟩ := h.2 k hk
    exact ⟨hb.cell h1 (hn (by omega)), hb.cell h2 (hn (by omega))⟩⟩
theorem info73 : (Try.prog.info? 73).map (fun i => (i.zero, i.size, i.bytes)) = some (some (.agg #[.int .i64 0, .int .i64 0]), 2, 16) := by kernel_rfl

theorem take_snocA (r : List (Int × Int)) (k : Nat) (h : k < r.length) : r.take (k + 1) = r.take k ++ [(aI r k, aT r k)] := by
  rw [List.take_succ_eq_append_getElem h]
  congr 1
  simp [aI, aT, h]
theorem drop_take (r : List (Int × Int)) (id : Int) (k : Nat) (h : k < r.length) :
    cancelA id (r.take (k + 1)) = (if aI r k = id then cancelA id (r.take k) else cancelA id (r.take k) ++ [(aI r k, aT r k)]) ∧ inA id (r.take (k + 1)) = (inA id (r.take k) || decide (aI r k = id)) := by
  rw [take_snocA r k h]
  unfold cancelA inA
  rw [List.filter_append, List.any_append]
  by_cases e : aI r k = id <;> simp [e]

set_option maxHeartbeats 1000000 in
theorem refdrop_any (r : List (Int × Int)) (sp : Option Addr) (g cap : Nat) (id : Int) (w : World) (h : RowT w sp g r) (hlen : r.length ≤ 1000) :
    Calls Try.prog 27 #[.slice sp r.length cap, .int .i64 id] w fun e w' => ∃ v, e = .returned (.tuple #[v, .bool (inA id r)]) ∧ w'.ownsRow w.heap.size 73 2 v (cancelA id r).length (rowI (flatA (cancelA id r))) ∧ Below w.heap.size w w' := by
  obtain ⟨i0, hi, hz0, hz1, hz2⟩ := info_parts info73
  have HQ := Lib.hid h
  clear h
  go_enter Try.func27, Try.ntmps27
  go_wp2
  go_loopg [6, 7, 8] r.length (fun m v s i wr => ∃ k : Nat, k + m = r.length ∧ i = .int .i64 k ∧ s = .bool (inA id (r.take k)) ∧ Aside (wr.ownsRow w.heap.size 73 2 v (cancelA id (r.take k)).length (rowI (flatA (cancelA id (r.take k)))) ∧ Below w.heap.size w wr))
  case atStart => exact ⟨0, by omega, rfl, rfl, World.ownsRow_nil _ _ _ _, Below.refl _ _⟩
  case round =>
    obtain ⟨k, hkm, rfl, rfl, HR⟩ := hrel
    cases gk with
    | zero =>
      obtain rfl : k = r.length := by omega
      rw [List.take_length] at HR ⊢
      go_wp2
      go_ret2
      exact ⟨_, rfl, HR.out.1, HR.out.2⟩
    | succ m1 =>
      have hlt : k < r.length := by omega
      have hki : (k : Int) < (r.length : Int) := by omega
      have hQ := HQ.out.new HR.out.2
      obtain rfl := hQ.1 (by omega)
      obtain ⟨c0, c1⟩ := hQ.2 k hlt
      have HD := Lib.hid (drop_take r id k hlt)
      have hle : (cancelA id (r.take k)).length ≤ r.length := Nat.le_trans (List.length_filter_le _ _) (by rw [List.length_take]; omega)
      by_cases he : aI r k = id
      · have hb : (aI r k == id) = true := by simpa using he
        have HE := Lib.hid he
        clear hQ he c1
        go_wp2
        go_roundg m1
        case measure => omega
        case rel =>
          refine ⟨k + 1, by omega, by go_num, ?_, ?_⟩
          · rw [HD.out.2, HE.out]; simp
          · rw [HD.out.1, if_pos HE.out]; exact HR.out
      · have hb : (aI r k == id) = false := by simpa using he
        have HE := Lib.hid he
        clear hQ he
        go_wp2_with (at_builtin; refine wpList_append_own _ rfl (.tmp 22) (.tmp 27) 58 rfl w.heap.size 73 i0 (.agg #[.int .i64 0, .int .i64 0]) 2 16 Try.underlying58 hi hz0 hz1 hz2 rfl (by decide) _ (cancelA id (r.take k)).length (rowI (flatA (cancelA id (r.take k)))) rfl (HR.out.1.alloc _) ⟨wr.heap.size, 0, none⟩ 1 1 [.int .i64 (aI r k), .int .i64 (aT r k)] rfl rfl (two_new _ _ _ _) (by simp [Value.oneCell']) (by unfold maxLen; omega) (by omega) (by rw [World.size_alloc]; exact Nat.le_succ_of_le HR.out.2.size) ?_; intro v1 w1 hown1 hg1 _; have HO1 := Lib.hid hown1; have HB1 := Lib.hid (Below.grown (Below.alloc HR.out.2 HR.out.2.size _) hg1 (by rw [World.size_alloc]; exact Nat.le_succ_of_le HR.out.2.size) (fun j e => (HR.out.1.lt j e).1)); clear hown1 hg1)
        go_roundg m1
        case measure => omega
        case rel =>
          refine ⟨k + 1, by omega, by go_num, ?_, ?_⟩
          · rw [HD.out.2]; simp [HE.out]
          · rw [HD.out.1, if_neg HE.out, rowI_two, List.length_append]
            exact ⟨HO1.out, HB1.out⟩

/-- What the reference's Add makes of the timers, and what it answers. -/
def raddA (id t : Int) (r : List (Int × Int)) : List (Int × Int) := if fitsA id t r then cancelA id r ++ [(id, t)] else r
theorem radd_no {id t : Int} {r : List (Int × Int)} (h : fitsA id t r = false) : raddA id t r = r := by unfold raddA; rw [h]; rfl

/-- The rest as a row: where it lies, told without bases. -/
def OwnT (w : World) (v : Value) (r : List (Int × Int)) : Prop := ∃ sp g cap, v = .slice sp r.length cap ∧ RowT w sp g r
set_option maxRecDepth 100000 in
theorem radd_any (r : List (Int × Int)) (sp : Option Addr) (g cap : Nat) (id t : Int) (w : World) (h : RowT w sp g r) (hlen : r.length ≤ 64) :
    Calls Try.prog 32 #[.slice sp r.length cap, .int .i64 id, .int .i64 t] w fun e w' =>
      (fitsA id t r = true ∧ ∃ v, e = .returned (.tuple #[v, .bool true]) ∧ w'.ownsRow w.heap.size 73 2 v ((cancelA id r).length + 1) (rowI (flatA (cancelA id r ++ [(id, t)]))) ∧ Below w.heap.size w w') ∨
      (fitsA id t r = false ∧ e = .returned (.tuple #[.slice sp r.length cap, .bool false]) ∧ Below w.heap.size w w') := by
  have HD := Lib.hid (refdrop_any r sp g cap id w h (by omega))
  have hle : (cancelA id r).length ≤ r.length := List.length_filter_le _ _
  clear h
  by_cases h1 : t < 1
  · have hf : fitsA id t r = false := by
      unfold fitsA
      have : decide (1 ≤ t) = false := by simp; omega
      simp [this]
    have HF := Lib.hid hf
    clear hf
    go_enter Try.func32, Try.ntmps32
    go_wp2_with (go_at_call 27; refine HD.out.mono ?_; rintro e w1 ⟨v, rfl, -, hb⟩; have HB := Lib.hid hb; clear hb)
    go_ret2
    exact .inr ⟨HF.out, rfl, HB.out⟩
  by_cases h2 : 65536 < t
  · have hf : fitsA id t r = false := by
      unfold fitsA
      have : decide (t ≤ 65536) = false := by simp; omega
      simp [this]
    have HF := Lib.hid hf
    clear hf
    go_enter Try.func32, Try.ntmps32
    go_wp2_with (go_at_call 27; refine HD.out.mono ?_; rintro e w1 ⟨v, rfl, -, hb⟩; have HB := Lib.hid hb; clear hb)
    go_ret2
    exact .inr ⟨HF.out, rfl, HB.out⟩
  have d1 : decide (1 ≤ t) = true := by simp; omega
  have d2 : decide (t ≤ 65536) = true := by simp; omega
  obtain ⟨i0, hi, hz0, hz1, hz2⟩ := info_parts info73
  cases hin : inA id r with
  | true =>
    have HF := Lib.hid (show fitsA id t r = true by unfold fitsA; rw [d1, d2, hin]; rfl)
    rw [hin] at HD
    clear d1 d2 hin
    go_enter Try.func32, Try.ntmps32
    go_wp2_with (first
      | (go_at_call 27; refine HD.out.mono ?_; rintro e w1 ⟨v, rfl, ho, hb⟩; have HO := Lib.hid ho; have HB := Lib.hid hb; clear ho hb)
      | (at_builtin; refine wpList_append_own _ rfl (.tmp 32) (.tmp 36) 58 rfl w.heap.size 73 i0 (.agg #[.int .i64 0, .int .i64 0]) 2 16 Try.underlying58 hi hz0 hz1 hz2 rfl (by decide) _ (cancelA id r).length (rowI (flatA (cancelA id r))) rfl (HO.out.alloc _) ⟨w1.heap.size, 0, none⟩ 1 1 [.int .i64 id, .int .i64 t] rfl rfl (two_new _ _ _ _) (by simp [Value.oneCell']) (by unfold maxLen; omega) (by omega) (by rw [World.size_alloc]; exact Nat.le_succ_of_le HB.out.size) ?_; intro v1 w2 hown1 hg1 _; have HO1 := Lib.hid hown1; have HB1 := Lib.hid (Below.grown (Below.alloc HB.out HB.out.size _) hg1 (by rw [World.size_alloc]; exact Nat.le_succ_of_le HB.out.size) (fun j e => (HO.out.lt j e).1)); clear hown1 hg1))
    go_ret2
    exact .inl ⟨HF.out, _, rfl, by rw [rowI_two]; exact HO1.out, HB1.out⟩
  | false =>
    by_cases hl : r.length < 64
    · have hli : ¬ (64 : Int) ≤ (r.length : Int) := by omega
      have HF := Lib.hid (show fitsA id t r = true by unfold fitsA; rw [d1, d2, hin]; simp [hl])
      rw [hin] at HD
      clear d1 d2 hin
      go_enter Try.func32, Try.ntmps32
      go_wp2_with (first
        | (go_at_call 27; refine HD.out.mono ?_; rintro e w1 ⟨v, rfl, ho, hb⟩; have HO := Lib.hid ho; have HB := Lib.hid hb; clear ho hb)
        | (at_builtin; refine wpList_append_own _ rfl (.tmp 32) (.tmp 36) 58 rfl w.heap.size 73 i0 (.agg #[.int .i64 0, .int .i64 0]) 2 16 Try.underlying58 hi hz0 hz1 hz2 rfl (by decide) _ (cancelA id r).length (rowI (flatA (cancelA id r))) rfl (HO.out.alloc _) ⟨w1.heap.size, 0, none⟩ 1 1 [.int .i64 id, .int .i64 t] rfl rfl (two_new _ _ _ _) (by simp [Value.oneCell']) (by unfold maxLen; omega) (by omega) (by rw [World.size_alloc]; exact Nat.le_succ_of_le HB.out.size) ?_; intro v1 w2 hown1 hg1 _; have HO1 := Lib.hid hown1; have HB1 := Lib.hid (Below.grown (Below.alloc HB.out HB.out.size _) hg1 (by rw [World.size_alloc]; exact Nat.le_succ_of_le HB.out.size) (fun j e => (HO.out.lt j e).1)); clear hown1 hg1))
      go_ret2
      exact .inl ⟨HF.out, _, rfl, by rw [rowI_two]; exact HO1.out, HB1.out⟩
    · have hli : (64 : Int) ≤ (r.length : Int) := by omega
      have HF := Lib.hid (show fitsA id t r = false by unfold fitsA; rw [d1, d2, hin]; simp; omega)
      rw [hin] at HD
      clear d1 d2 hin
      go_enter Try.func32, Try.ntmps32
      go_wp2_with (go_at_call 27; refine HD.out.mono ?_; rintro e w1 ⟨v, rfl, -, hb⟩; have HB := Lib.hid hb; clear hb)
      go_ret2
      exact .inr ⟨HF.out, rfl, HB.out⟩
end Go.Proofs.Ytkbmgilceioieaa
