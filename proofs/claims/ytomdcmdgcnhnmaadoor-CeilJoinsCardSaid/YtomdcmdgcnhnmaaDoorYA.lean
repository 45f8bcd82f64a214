/- Tables of eight numbers, as values and as rows; the contracts of ceil's Empty, At and Level. -/
import Derived.Test.YtomdcmdgcnhnmaaDoorVR
import Derived.Test.YtomdcmdgcnhnmaaDoorMSet
import Derived.DeepKeys
import Derived.ChangeKeysEq
namespace Go.Proofs.YtomdcmdgcnhnmaaDoor
open Go.RowKit

def updF {α : Type} (c : Nat → α) (n : Nat) (v : α) : Nat → α := fun i => if i = n then v else c i
/-- A table, as cells. -/
def tb (f : Nat → Int) : Array Value := #[.int .i64 (f 0), .int .i64 (f 1), .int .i64 (f 2), .int .i64 (f 3), .int .i64 (f 4), .int .i64 (f 5), .int .i64 (f 6), .int .i64 (f 7)]
theorem lt8 {p : Nat → Prop} (h0 : p 0) (h1 : p 1) (h2 : p 2) (h3 : p 3) (h4 : p 4) (h5 : p 5) (h6 : p 6) (h7 : p 7) : ∀ k, k < 8 → p k := by
  intro k hk
  rcases k with _ | _ | _ | _ | _ | _ | _ | _ | k
  · exact h0
  · exact h1
  · exact h2
  · exact h3
  · exact h4
  · exact h5
  · exact h6
  · exact h7
  · omega
theorem tb_at (f : Nat → Int) : ∀ k, k < 8 → (tb f)[k]? = some (.int .i64 (f k)) := lt8 rfl rfl rfl rfl rfl rfl rfl rfl
theorem tb_set (f : Nat → Int) (v : Int) : ∀ k, k < 8 → (tb f).setIfInBounds k (.int .i64 v) = tb (updF f k v) := lt8 rfl rfl rfl rfl rfl rfl rfl rfl
theorem tb_ext {f g : Nat → Int} (h : ∀ k, k < 8 → f k = g k) : tb f = tb g := by
  unfold tb
  rw [h 0 (by omega), h 1 (by omega), h 2 (by omega), h 3 (by omega), h 4 (by omega), h 5 (by omega), h 6 (by omega), h 7 (by omega)]
theorem tb_one (f : Nat → Int) : (tb f).all (·.oneCell') = true := by simp [tb, Value.oneCell']
theorem tb_size (f : Nat → Int) : (tb f).size = 8 := rfl
theorem tb_info (f : Nat → Int) : (Tryd.prog.info? 33).map (·.size) = some (tb f).size := by rw [tb_size]; kernel_rfl
/-- Are two tables the same? -/
def tbEq (f g : Nat → Int) : Bool := f 0 == g 0 && (f 1 == g 1 && (f 2 == g 2 && (f 3 == g 3 && (f 4 == g 4 && (f 5 == g 5 && (f 6 == g 6 && f 7 == g 7))))))
theorem tbEq_iff (f g : Nat → Int) : tbEq f g = true ↔ ∀ k, k < 8 → f k = g k := by
  unfold tbEq
  simp only [Bool.and_eq_true, beq_iff_eq]
  constructor
  · rintro ⟨h0, h1, h2, h3, h4, h5, h6, h7⟩
    exact lt8 h0 h1 h2 h3 h4 h5 h6 h7
  · intro h
    exact ⟨h 0 (by omega), h 1 (by omega), h 2 (by omega), h 3 (by omega), h 4 (by omega), h 5 (by omega), h 6 (by omega), h 7 (by omega)⟩
theorem infoI : ∃ i, Tryd.prog.info? 3 = some i ∧ i.size = 1 := by
  have h : (Tryd.prog.info? 3).map (·.size) = some 1 := by kernel_rfl
  cases hi : Tryd.prog.info? 3 with
  | none => rw [hi] at h; cases h
  | some i => rw [hi] at h; exact ⟨i, rfl, by simpa using h⟩
theorem eqIn_tb (d : Nat) (f g : Nat → Int) (w : World) : (Op.equalIn (d + 2) 33 (.agg (tb f)) (.agg (tb g))).run Tryd.prog w = .ok (tbEq f g) w := by
  obtain ⟨i, hi, -⟩ := infoI
  rw [run_equalIn_array w (d + 1) (tb f) (tb g) Tryd.underlying33 hi, show Tryd.prog.cellsOf 3 = 1 by kernel_rfl]
  have hr : List.range 8 = [0, 1, 2, 3, 4, 5, 6, 7] := by decide
  rw [hr]
  simp [Op.eqItems, tb, go_sem, part, tbEq]
  repeat' split
  all_goals simp_all
theorem run_eql_tb (f g : Nat → Int) (w : World) : (Go.binOp .eql 33 (.agg (tb f)) (.agg (tb g))).run Tryd.prog w = .ok (.bool (tbEq f g)) w := by
  have h : (Op.equal 33 (.agg (tb f)) (.agg (tb g))).run Tryd.prog w = .ok (tbEq f g) w := eqIn_tb 9998 f g w
  simp [Go.binOp, h]
theorem run_index_tb (f : Nat → Int) (w : World) : ∀ k : Nat, k < 8 → (Instr.index 33 (.agg (tb f)) (.int .i64 (k : Int))).run Tryd.prog w = .ok (.int .i64 (f k)) w := by
  refine lt8 ?_ ?_ ?_ ?_ ?_ ?_ ?_ ?_
  all_goals simp [Instr.index, run_underlying Tryd.underlying33, go_sem, part, asIntOf, tb]
set_option maxHeartbeats 2000000 in
theorem cEmpty_any (w : World) : Calls Tryd.prog 9 #[] w fun e w' => e = .returned (.agg (tb (fun _ => 16))) ∧ Below w.heap.size w w' := by
  obtain ⟨Z, hZ⟩ : ∃ Z, Z = w.heap.size := ⟨_, rfl⟩
  have HZ := Lib.hid hZ
  go_enter Tryd.func9, Tryd.ntmps9
  go_upto_region 2 with fail
  rw [← hZ]
  generalize hw2 : World.alloc _ _ = w2
  have H2 := Lib.hid (show Below w.heap.size w w2 ∧ RowAt w2 Z 33 (tb (fun _ => 0)) ∧ RowAt w2 (Z + 1) 33 (tb (fun _ => 0)) by
    rw [← hw2]
    refine ⟨((Below.refl _ _).alloc (Nat.le_refl _) _).alloc (by simp) _, ?_, ?_⟩
    · rw [hZ]; exact (RowAt.mk w 33 (tb (fun _ => 0))).new ((Below.refl _ _).alloc (Nat.le_refl _) _)
    · have := RowAt.mk (w.alloc (.cells (tb (fun _ => 0)) 33)) 33 (tb (fun _ => 0))
      rw [World.size_alloc, ← hZ] at this
      exact this)
  clear hw2 hZ
  go_wp2
  go_loopg [3] 8 (fun g v wr => ∃ k : Nat, k + g = 8 ∧ v = .int .i64 (k : Nat) ∧ Aside (Below w.heap.size w wr ∧ RowAt wr Z 33 (tb (fun _ => 0)) ∧ RowAt wr (Z + 1) 33 (tb (fun j => if j < k then 16 else 0))))
  case atStart => exact ⟨0, by omega, rfl, H2.out.1, H2.out.2.1, H2.out.2.2⟩
  case round =>
    obtain ⟨k, hkg, rfl, HR⟩ := hrel
    clear H2
    cases gk with
    | zero =>
      obtain rfl : k = 8 := by omega
      go_wp2_with (first
        | (refine wpList_load_row rfl 33 (.tmp 1) rfl (Z + 1) rfl 33 _ (0, 0) _ HR.out.2.2 Tryd.underlying33 rfl (tb_info _) ?_)
        | (refine wpList_store_row rfl 33 (.tmp 0) (.tmp 9) rfl Z _ rfl rfl 33 _ HR.out.2.1 (tb_info _) rfl (tb_one _) ?_)
        | fail)
      refine bodyPost_ret (results_cell_row rfl _ _ Z 33 _ (0, 0) _ rfl HR.out.2.1.put Tryd.underlying33 rfl (tb_info _)) rfl ?_
      exact ⟨by rw [tb_ext (f := fun j => if j < 8 then 16 else 0) (g := fun _ => 16) (fun k hk => by simp [hk])], below_row HR.out.1 (Nat.le_refl _) (Nat.le_of_eq HZ.out.symm) _⟩
    | succ g1 =>
      have hk : k < 8 := by omega
      have c0 := (HR.out.2.2.cell k).trans (tb_at _ k hk)
      have f0 := HR.out.2.2.fr k
      have hk2 : (k : Int) < 8 := by omega
      go_wp2
      go_roundg g1
      case measure => omega
      case rel =>
        have hz := HZ.out
        refine ⟨k + 1, by omega, by go_num, HR.out.1.trans ((Ch.refl _ _).setCell _ _ (.inl rfl) |>.below (fun j hj e => ?_) HR.out.1.size), HR.out.2.1.keep ((Ch.refl _ _).setCell _ _ (.inl rfl)) (fun e : Z + 1 = Z => by omega), ?_⟩
        · have : Z + 1 = j := e
          omega
        · have h := HR.out.2.2.setC k (.int .i64 16)
          rw [tb_set _ 16 k hk] at h
          rw [tb_ext (g := updF (fun j => if j < k then 16 else 0) k 16) (fun j hj => ?_)]
          · exact h
          · unfold updF
            by_cases e : j = k
            · subst e; simp
            · rw [if_neg e]
              have : (j < k + 1) ↔ (j < k) := by omega
              simp [this]
/-- A resource's ceiling. -/
def tbAt (f : Nat → Int) (r : Int) : Int := if 0 ≤ r ∧ r < 8 then f r.toNat else 16
theorem cAt_any (f : Nat → Int) (r : Int) (w : World) : Calls Tryd.prog 8 #[.agg (tb f), .int .i64 r] w fun e w' => e = .returned (.int .i64 (tbAt f r)) ∧ Below w.heap.size w w' := by
  have HB := Lib.hid (show Below w.heap.size w (w.alloc (.cells (tb f) 33)) from (Below.refl _ _).alloc (Nat.le_refl _) _)
  by_cases hr : 0 ≤ r ∧ r < 8
  · obtain ⟨k, rfl⟩ := Int.eq_ofNat_of_zero_le hr.1
    have ht : tbAt f (k : Int) = f k := by unfold tbAt; rw [if_pos hr, Int.toNat_natCast]
    rw [ht]
    have hk : (k : Int) < 8 := hr.2
    have c0 := ((RowAt.mk w 33 (tb f)).cell k).trans (tb_at f k (by omega))
    obtain ⟨T, hT⟩ : ∃ T, tb f = T := ⟨_, rfl⟩
    rw [hT] at c0 HB ⊢
    clear hr ht hT
    go_enter Tryd.func8, Tryd.ntmps8
    go_wp2
    go_ret
    exact ⟨rfl, HB.out⟩
  · have ht : tbAt f r = 16 := by unfold tbAt; rw [if_neg hr]
    rw [ht]
    obtain ⟨T, hT⟩ : ∃ T, tb f = T := ⟨_, rfl⟩
    rw [hT] at HB ⊢
    clear hT ht
    by_cases h0 : r < 0
    · clear hr
      go_enter Tryd.func8, Tryd.ntmps8
      go_wp2
      go_ret
      exact ⟨rfl, HB.out⟩
    · have h1 : 8 ≤ r := by omega
      clear hr
      go_enter Tryd.func8, Tryd.ntmps8
      go_wp2
      go_ret
      exact ⟨rfl, HB.out⟩
/-- As which task one goes. -/
def tbLv (f : Nat → Int) (t r : Int) : Int := if r < 0 then t else min t (tbAt f r)
theorem cLevel_any (f : Nat → Int) (t r : Int) (w : World) : Calls Tryd.prog 12 #[.agg (tb f), .int .i64 t, .int .i64 r] w fun e w' => e = .returned (.int .i64 (tbLv f t r)) ∧ Below w.heap.size w w' := by
  have HB := Lib.hid (show Below w.heap.size w (w.alloc (.cells (tb f) 33)) from (Below.refl _ _).alloc (Nat.le_refl _) _)
  have HA := Lib.hid (fun wx => cAt_any f r wx)
  have hrow := RowAt.mk w 33 (tb f)
  have hi := tb_info f
  obtain ⟨T, hT⟩ : ∃ T, tb f = T := ⟨_, rfl⟩
  rw [hT] at HB HA hrow hi ⊢
  have HR := Lib.hid (And.intro hrow hi)
  clear hT hrow hi
  unfold tbLv
  by_cases h0 : r < 0
  · rw [if_pos h0]
    go_enter Tryd.func12, Tryd.ntmps12
    go_wp2
    go_ret
    exact ⟨rfl, HB.out⟩
  · rw [if_neg h0]
    obtain ⟨a, ha⟩ : ∃ a, tbAt f r = a := ⟨_, rfl⟩
    rw [ha] at HA ⊢
    clear ha
    go_enter Tryd.func12, Tryd.ntmps12
    go_wp2_with (first
      | (refine wpList_load_row rfl 33 (.tmp 3) rfl w.heap.size rfl 33 T (0, 0) _ HR.out.1 Tryd.underlying33 rfl HR.out.2 ?_)
      | (go_at_call 8; refine (HA.out _).mono ?_; rintro e w1 ⟨rfl, b1⟩; rw [World.size_alloc] at b1; have H1 := Lib.hid (HB.out.trans (b1.mono (by omega))); clear b1)
      | fail)
    · rw [show min t a = a from by omega]
      go_ret
      exact ⟨rfl, H1.out⟩
    · rw [show min t a = t from by omega]
      go_ret
      exact ⟨rfl, H1.out⟩
/-- The resources whose ceiling is a task, or one ahead of it. -/
def tbOv (f : Nat → Int) (t : Int) (n : Nat) : BitVec 32 := pre (fun j => decide (f j ≤ t ∧ f j < 16)) n
theorem onl_nat (k : Nat) (hk : k < 32) : onl (k : Int) = 1#32 <<< k := by unfold onl; rw [if_pos (by omega), Int.toNat_natCast]
set_option maxHeartbeats 2000000 in
theorem cOver_any (f : Nat → Int) (t : Int) (w : World) : Calls Tryd.prog 11 #[.agg (tb f), .int .i64 t] w fun e w' => e = .returned (.int .u32 (w32 (tbOv f t 8))) ∧ Below w.heap.size w w' := by
  have HB := Lib.hid (show Below w.heap.size w (w.alloc (.cells (tb f) 33)) from (Below.refl _ _).alloc (Nat.le_refl _) _)
  have hrow := RowAt.mk w 33 (tb f)
  have hi := tb_info f
  have HX := Lib.hid (fun (k : Nat) (hk : k < 8) (wx : World) => run_index_tb f wx k hk)
  obtain ⟨T, hT⟩ : ∃ T, tb f = T := ⟨_, rfl⟩
  rw [hT] at HB hrow hi HX ⊢
  have HR := Lib.hid (And.intro hrow hi)
  clear hT hrow hi
  go_enter Tryd.func11, Tryd.ntmps11
  go_wp2_with (refine wpList_load_row rfl 33 (.tmp 2) rfl w.heap.size rfl 33 T (0, 0) _ HR.out.1 Tryd.underlying33 rfl HR.out.2 ?_)
  generalize hw2 : World.alloc _ _ = w2 at HB HR ⊢
  clear hw2
  go_loopg [5, 9] 8 (fun g s v wr => ∃ k : Nat, k + g = 8 ∧ v = .int .i64 (k : Nat) ∧ s = .int .u32 (w32 (tbOv f t k)) ∧ Aside (w2 = wr))
  case atStart => exact ⟨0, by omega, rfl, rfl, rfl⟩
  case round =>
    obtain ⟨k, hkg, rfl, rfl, hw⟩ := hrel
    obtain rfl := hw.out
    clear hw
    cases gk with
    | zero =>
      obtain rfl : k = 8 := by omega
      go_wp2
      go_ret
      exact ⟨rfl, HB.out⟩
    | succ g1 =>
      have hk : k < 8 := by omega
      have hk2 : (k : Int) < 8 := by omega
      have hx := HX.out k hk
      have HS := Lib.hid (show tbOv f t (k + 1) = if (decide (f k ≤ t ∧ f k < 16)) = true then tbOv f t k ||| 1#32 <<< k else tbOv f t k from rfl)
      have HWi := Lib.hid (show ∀ wx, _ from fun wx => with_any (tbOv f t k) k wx)
      rw [onl_nat k (by omega)] at HWi
      obtain ⟨y, hy⟩ : ∃ y, f k = y := ⟨_, rfl⟩
      rw [hy] at hx HS
      clear hy
      by_cases h1 : y ≤ t
      · by_cases h2 : y < 16
        · have HD := Lib.hid (decide_eq_true (⟨h1, h2⟩ : y ≤ t ∧ y < 16))
          go_wp2_with (go_at_call 10; refine (HWi.out _).mono ?_; rintro e w' ⟨rfl, rfl⟩)
          go_roundg g1
          case measure => omega
          case rel => exact ⟨k + 1, by omega, by go_num, by rw [HS.out, if_pos HD.out], rfl⟩
        · have HD := Lib.hid (decide_eq_false (fun h : y ≤ t ∧ y < 16 => h2 h.2))
          go_wp2
          go_roundg g1
          case measure => omega
          case rel => exact ⟨k + 1, by omega, by go_num, by rw [HS.out, if_neg (by rw [HD.out]; decide)], rfl⟩
      · have HD := Lib.hid (decide_eq_false (fun h : y ≤ t ∧ y < 16 => h1 h.1))
        go_wp2
        go_roundg g1
        case measure => omega
        case rel => exact ⟨k + 1, by omega, by go_num, by rw [HS.out, if_neg (by rw [HD.out]; decide)], rfl⟩
set_option maxHeartbeats 2000000 in
theorem cJoin_any (f g : Nat → Int) (w : World) : Calls Tryd.prog 14 #[.agg (tb f), .agg (tb g)] w fun e w' => e = .returned (.agg (tb (fun k => min (f k) (g k)))) ∧ Below w.heap.size w w' := by
  obtain ⟨Z, hZ⟩ : ∃ Z, Z = w.heap.size := ⟨_, rfl⟩
  have HZ := Lib.hid hZ
  have HX := Lib.hid (fun (k : Nat) (hk : k < 8) (wx : World) => run_index_tb g wx k hk)
  have HF := Lib.hid (tb_info g)
  obtain ⟨T, hT⟩ : ∃ T, tb g = T := ⟨_, rfl⟩
  obtain ⟨F, hF⟩ : ∃ F, tb f = F := ⟨_, rfl⟩
  have HFF := Lib.hid hF
  rw [hT] at HX HF
  rw [hF, hT]
  clear hF hT
  go_enter Tryd.func14, Tryd.ntmps14
  go_upto_region 1 with fail
  rw [← hZ]
  generalize hw2 : World.alloc _ _ = w2
  have H2 := Lib.hid (show Below w.heap.size w w2 ∧ RowAt w2 Z 33 F ∧ RowAt w2 (Z + 1) 33 T ∧ RowAt w2 (Z + 2) 33 (tb (fun _ => 0)) by
    rw [← hw2]
    have b1 : Below w.heap.size w (w.alloc (.cells F 33)) := (Below.refl _ _).alloc (Nat.le_refl _) _
    refine ⟨(b1.alloc (by simp) _).alloc (by simp; omega) _, ?_, ?_, ?_⟩
    · rw [hZ]; exact ((RowAt.mk w 33 F).new ((Below.refl _ _).alloc (Nat.le_refl _) _)).new ((Below.refl _ _).alloc (Nat.le_refl _) _)
    · have := RowAt.mk (w.alloc (.cells F 33)) 33 T
      rw [World.size_alloc, ← hZ] at this
      exact this.new ((Below.refl _ _).alloc (Nat.le_refl _) _)
    · have := RowAt.mk ((w.alloc (.cells F 33)).alloc (.cells T 33)) 33 (tb (fun _ => 0))
      rw [World.size_alloc, World.size_alloc, ← hZ] at this
      exact this)
  clear hw2 hZ
  go_wp2_with (refine wpList_load_row rfl 33 (.tmp 3) rfl (Z + 1) rfl 33 T (0, 0) _ H2.out.2.2.1 Tryd.underlying33 rfl HF.out ?_)
  go_loopg [8] 8 (fun gh v wr => ∃ k : Nat, k + gh = 8 ∧ v = .int .i64 (k : Nat) ∧ Aside (Below w.heap.size w wr ∧ RowAt wr Z 33 (tb (fun j => if j < k then min (f j) (g j) else f j)) ∧ RowAt wr (Z + 2) 33 (tb (fun _ => 0))))
  case atStart =>
    refine ⟨0, by omega, rfl, H2.out.1, ?_, H2.out.2.2.2⟩
    have := H2.out.2.1
    rw [← HFF.out] at this
    simpa using this
  case round =>
    obtain ⟨k, hkg, rfl, HR⟩ := hrel
    clear H2
    cases gk with
    | zero =>
      obtain rfl : k = 8 := by omega
      go_wp2_with (first
        | (refine wpList_load_row rfl 33 (.tmp 2) rfl Z rfl 33 _ (0, 0) _ HR.out.2.1 Tryd.underlying33 rfl (tb_info _) ?_)
        | (refine wpList_store_row rfl 33 (.tmp 4) (.tmp 20) rfl (Z + 2) _ rfl rfl 33 _ HR.out.2.2 (tb_info _) rfl (tb_one _) ?_)
        | fail)
      refine bodyPost_ret (results_cell_row rfl _ _ (Z + 2) 33 _ (0, 0) _ rfl HR.out.2.2.put Tryd.underlying33 rfl (tb_info _)) rfl ?_
      have hz := HZ.out
      exact ⟨by rw [tb_ext (f := fun j => if j < 8 then min (f j) (g j) else f j) (g := fun j => min (f j) (g j)) (fun k hk => by simp [hk])], below_row HR.out.1 (Nat.le_refl _) (by omega) _⟩
    | succ g1 =>
      have hk : k < 8 := by omega
      have c0 := (HR.out.2.1.cell k).trans (tb_at _ k hk)
      rw [if_neg (Nat.lt_irrefl k)] at c0
      have f0 := HR.out.2.1.fr k
      have hx := HX.out k hk
      have hk2 : (k : Int) < 8 := by omega
      have HS := Lib.hid (fun (v : Int) (hv : v = min (f k) (g k)) => show RowAt (wr.setCell ⟨Z, k, none⟩ (.int .i64 v)) Z 33 (tb (fun j => if j < k + 1 then min (f j) (g j) else f j)) from by
        have h := HR.out.2.1.setC k (.int .i64 v)
        rw [tb_set _ v k hk] at h
        rw [tb_ext (g := updF (fun j => if j < k then min (f j) (g j) else f j) k v) (fun j hj => ?_)]
        · exact h
        · unfold updF
          by_cases e : j = k
          · subst e; simp [hv]
          · rw [if_neg e]
            have : (j < k + 1) ↔ (j < k) := by omega
            simp [this])
      have hz := HZ.out
      have HW := Lib.hid (fun (v : Value) => show Below w.heap.size w (wr.setCell ⟨Z, k, none⟩ v) ∧ RowAt (wr.setCell ⟨Z, k, none⟩ v) (Z + 2) 33 (tb (fun _ => 0)) from by
        have c : Ch (fun j => Z = j) wr (wr.setCell ⟨Z, k, none⟩ v) := (Ch.refl _ _).setCell _ _ (.inl rfl)
        exact ⟨HR.out.1.trans (c.below (fun j hj e => by omega) HR.out.1.size), HR.out.2.2.keep c (fun e : Z = Z + 2 => by omega)⟩)
      obtain ⟨x, hx0⟩ : ∃ x, f k = x := ⟨_, rfl⟩
      obtain ⟨y, hy0⟩ : ∃ y, g k = y := ⟨_, rfl⟩
      rw [hx0] at c0 HS
      rw [hy0] at hx HS
      clear hx0 hy0 hz
      go_wp2
      all_goals
        go_roundg g1
        case measure => omega
        case rel => exact ⟨k + 1, by omega, by go_num, (HW.out _).1, HS.out _ (by omega), (HW.out _).2⟩
end Go.Proofs.YtomdcmdgcnhnmaaDoor
