/- Several texts in one: CI. -/
import Derived.Test.YthpagbfabpfngaaPk25
import Derived.Test.YthpagbfabpfngaaPk26
/- The contract of law08's mark. -/
namespace Go.Proofs.Ythpagbfabpfngaa
open Go.RowKit

theorem ref_ws {w : World} {bL bW : Nat} {d : Dev} (h : RefIn w bL bW d) (s : Nat) (hs : s < d.ns) : Ws w (some ⟨bL, s * d.nw, none⟩) bL (s * d.nw) d.nw (d.word s) :=
  ⟨fun _ => ⟨rfl, h.ltL⟩, fun k hk => h.cl s k hs hk⟩
theorem atW_lt {n i : Nat} (l : Nat → BitVec 32) (h : i < n) : atW n l i = l i := by unfold atW; rw [if_pos h]
theorem validH_at (l : Nat → BitVec 32) : validH (atW 13 l) = validH l := by
  unfold validH
  rw [atW_lt l (show 0 < 13 by omega), atW_lt l (show 1 < 13 by omega), atW_lt l (show 2 < 13 by omega), atW_lt l (show 3 < 13 by omega), atW_lt l (show 4 < 13 by omega), atW_lt l (show 5 < 13 by omega), atW_lt l (show 6 < 13 by omega), atW_lt l (show 7 < 13 by omega)]
theorem headH_at (l : Nat → BitVec 32) (k : Nat) (hk : k < 13) : headH (atW 13 l) k = headH l k := by
  unfold headH
  rw [validH_at, atW_lt l hk]
theorem confH_at (l : Nat → BitVec 32) : confH (atW 13 l) = confH l := by
  unfold confH
  rw [validH_at, atW_lt l (show 8 < 13 by omega), atW_lt l (show 9 < 13 by omega)]
theorem trC_at (l : Nat → BitVec 32) : ∀ k, k ≤ 3 → trC (atW 13 l) k = trC l k := by
  intro k
  induction k with
  | zero => intro _; rfl
  | succ k ih =>
    intro hk
    show (if atW 13 l (10 + k) == BitVec.allOnes 32 then trC (atW 13 l) k else trC (atW 13 l) k + 1) = _
    rw [ih (by omega), atW_lt l (show 10 + k < 13 by omega)]
    rfl
/-- The header's words of the document's device. -/
theorem lread_any {w : World} {bL bW : Nat} {d : Dev} (h : RefIn w bL bW d) (h4 : d.ns = 4 ∧ d.nw = 13) (cap : Nat) :
    Calls Try.prog 63 #[.slice (some ⟨bL, 13, none⟩) 13 cap] w fun e w' => e = .returned (.agg #[.int .u32 (w32 (headH (d.word 1) 0)), .int .u32 (w32 (headH (d.word 1) 2)), .int .u32 (w32 (headH (d.word 1) 4)), .bool (validH (d.word 1)), .bool (confH (d.word 1)), .int .i64 (trC (d.word 1) 3 : Nat)]) ∧ Below w.heap.size w w' := by
  have hw := ref_ws h 1 (by omega)
  rw [h4.2] at hw
  have := refread_any 13 bL 13 cap _ (d.word 1) w hw
  rw [headH_at _ 0 (by omega), headH_at _ 2 (by omega), headH_at _ 4 (by omega), validH_at, confH_at, trC_at _ 3 (Nat.le_refl _)] at this
  exact this
theorem lwords1_any {w : World} {bL bW : Nat} {d : Dev} (h : RefIn w bL bW d) (h4 : d.ns = 4 ∧ d.nw = 13) (cL cW : Nat) (hcL : d.ns * d.nw ≤ cL) :
    Calls Try.prog 24 #[.agg (cellsD bL cL bW cW d), .int .i64 1] w fun e w' => e = .returned (.slice (some ⟨bL, 13, none⟩) 13 (cL - 13)) ∧ Below w.heap.size w w' := by
  have := lwords_any h cL cW 1 (by omega) hcL
  rw [Nat.one_mul, h4.2] at this
  exact this
/-- May the bank be marked: it has a committed image that isn't confirmed. -/
def markOK (d : Dev) : Bool := stOK d 0 4 && !confH (d.word 1)
theorem room4 {d : Dev} (h : d.nw = 13) : roomN d 4 = 26 := by unfold roomN; rw [h]; rfl
set_option maxHeartbeats 8000000 in
set_option maxRecDepth 100000 in
theorem mark_off {w : World} {q B bL bW : Nat} {d : Dev} (h : RefIn w bL bW d) (cL cW : Nat) (hcL : d.ns * d.nw ≤ cL) (op : Bool) {sp : Option Addr} {bp cap : Nat} (L : List (BitVec 32)) (h4 : d.ns = 4 ∧ d.nw = 13) (hW : Ws w sp bp 0 L.length (nthW L)) (t : Bool) (hon : d.on = false) :
    Calls Try.prog 56 #[.agg (benchC q B bL cL bW cW d op sp L.length cap), .bool t] w fun e w' => BenchOut w w' q B bL bW bp d op L (fun v => .tuple #[v, .int .i64 63]) e := by
  obtain ⟨X, hX⟩ : ∃ X, X = w.heap.size := ⟨_, rfl⟩
  obtain ⟨w1, hw1⟩ : ∃ w1, (w.alloc (.cells (benchC q B bL cL bW cW d op sp L.length cap) 53)).alloc (.cells #[.pointer none, .pointer none, .int .i64 0, .int .i64 0, .int .i64 0, .slice none 0 0, .slice none 0 0, .bool false, .bool false, .int .i64 0, .int .u32 0, .int .i64 0, .bool false, .slice none 0 0] 53) = w1 := ⟨_, rfl⟩
  have H1 := Lib.hid (show BI w w1 X q B bL bW bL cL bW cW d op sp L.length cap by rw [← hw1, hX]; exact BI.start h hcL)
  have HW := Lib.hid (show ∀ wx, Below X w wx → Ws wx sp bp 0 L.length (nthW L) from fun wx hb => hW.new (by rw [← hX]; exact hb))
  have HP := Lib.hid (show ∀ h0 : 0 < L.length, bp < X from fun h0 => by rw [hX]; exact (hW.sp h0).2)
  have H4 := Lib.hid h4
  obtain ⟨c0, hc0⟩ : ∃ c0, benchC q B bL cL bW cW d op sp L.length cap = c0 := ⟨_, rfl⟩
  rw [hc0] at hw1 ⊢
  have c7 : w1.cell? ⟨X, 7, none⟩ = some (.bool (!d.on)) := H1.out.x.cell 7
  obtain ⟨n, hLn⟩ : ∃ n, L.length = n := ⟨_, rfl⟩
  have HNM := Lib.hid hLn
  rw [hLn] at H1
  clear hc0 h hcL hW hLn h4
  rw [hon] at c7
  go_enter Try.func56, Try.ntmps56
  go_upto_region 1 with fail
  rw [← hX]
  clear hw1 hX
  go_wp2_with (first
    | (refine wpList_load_row rfl 53 (.tmp 2) rfl X rfl 53 (benchC q B bL cL bW cW d op sp n cap) (0, 0) _ H1.out.x Try.underlying53 rfl (by kernel_rfl) ?_)
    | (refine wpList_store_row rfl 53 (.tmp 4) (.tmp 12) rfl (X + 1) (benchC q B bL cL bW cW d op sp n cap) rfl rfl 53 _ H1.out.y (by kernel_rfl) rfl (benchC_one _ _ _ _ _ _ _ _ _ _ _) ?_)
    | fail)
  refine bodyPost_ret (results_row rfl _ _ (X + 1) 53 (benchC q B bL cL bW cW d op sp n cap) _ rfl (RowAt.put H1.out.y) Try.underlying53 rfl (by kernel_rfl)) rfl ?_
  have hH := H1.out
  rw [← HNM.out] at hH ⊢
  exact hH.fin (r := fun v => .tuple #[v, .int .i64 63]) (HW.out _ hH.b) (fun h0 => .inl ⟨rfl, HP.out h0⟩)
set_option maxHeartbeats 8000000 in
set_option maxRecDepth 100000 in
theorem mark_bad {w : World} {q B bL bW : Nat} {d : Dev} (h : RefIn w bL bW d) (cL cW : Nat) (hcL : d.ns * d.nw ≤ cL) (op : Bool) {sp : Option Addr} {bp cap : Nat} (L : List (BitVec 32)) (h4 : d.ns = 4 ∧ d.nw = 13) (hW : Ws w sp bp 0 L.length (nthW L)) (t : Bool) (hon : d.on = true) (hbad : markOK d = false) :
    Calls Try.prog 56 #[.agg (benchC q B bL cL bW cW d op sp L.length cap), .bool t] w fun e w' => BenchOut w w' q B bL bW bp d op L (fun v => .tuple #[v, .int .i64 80]) e := by
  obtain ⟨X, hX⟩ : ∃ X, X = w.heap.size := ⟨_, rfl⟩
  obtain ⟨w1, hw1⟩ : ∃ w1, (w.alloc (.cells (benchC q B bL cL bW cW d op sp L.length cap) 53)).alloc (.cells #[.pointer none, .pointer none, .int .i64 0, .int .i64 0, .int .i64 0, .slice none 0 0, .slice none 0 0, .bool false, .bool false, .int .i64 0, .int .u32 0, .int .i64 0, .bool false, .slice none 0 0] 53) = w1 := ⟨_, rfl⟩
  have H1 := Lib.hid (show BI w w1 X q B bL bW bL cL bW cW d op sp L.length cap by rw [← hw1, hX]; exact BI.start h hcL)
  have HW := Lib.hid (show ∀ wx, Below X w wx → Ws wx sp bp 0 L.length (nthW L) from fun wx hb => hW.new (by rw [← hX]; exact hb))
  have HP := Lib.hid (show ∀ h0 : 0 < L.length, bp < X from fun h0 => by rw [hX]; exact (hW.sp h0).2)
  have H4 := Lib.hid h4
  obtain ⟨c0, hc0⟩ : ∃ c0, benchC q B bL cL bW cW d op sp L.length cap = c0 := ⟨_, rfl⟩
  rw [hc0] at hw1 ⊢
  have c7 : w1.cell? ⟨X, 7, none⟩ = some (.bool (!d.on)) := H1.out.x.cell 7
  obtain ⟨n, hLn⟩ : ∃ n, L.length = n := ⟨_, rfl⟩
  have HNM := Lib.hid hLn
  rw [hLn] at H1
  clear hc0 h hcL hW hLn h4
  have HBd := Lib.hid hbad
  clear hbad
  rw [hon] at c7
  have HLw := Lib.hid (show ∀ wx, BI w wx X q B bL bW bL cL bW cW d op sp n cap → Calls Try.prog 24 #[.agg (cellsD bL cL bW cW d), .int .i64 1] wx fun e w' => e = .returned (.slice (some ⟨bL, 13, none⟩) 13 (cL - 13)) ∧ Below wx.heap.size wx w' from fun wx hx => lwords1_any hx.ref H4.out cL cW hx.cp)
  obtain ⟨l0, hl0⟩ : ∃ x, w32 (headH (d.word 1) 0) = x := ⟨_, rfl⟩
  obtain ⟨l4, hl4⟩ : ∃ x, w32 (headH (d.word 1) 4) = x := ⟨_, rfl⟩
  obtain ⟨lN, hlN⟩ : ∃ x, (headH (d.word 1) 2).toNat = x := ⟨_, rfl⟩
  have hl2 : w32 (headH (d.word 1) 2) = (lN : Int) := by rw [← hlN]; rfl
  have hlt : lN < 4294967296 := by rw [← hlN]; exact (headH (d.word 1) 2).isLt
  obtain ⟨vb, hvb⟩ : ∃ x, validH (d.word 1) = x := ⟨_, rfl⟩
  obtain ⟨cb, hcb⟩ : ∃ x, confH (d.word 1) = x := ⟨_, rfl⟩
  obtain ⟨tr, htr⟩ : ∃ x, trC (d.word 1) 3 = x := ⟨_, rfl⟩
  have HRd := Lib.hid (show ∀ wx, BI w wx X q B bL bW bL cL bW cW d op sp n cap → Calls Try.prog 63 #[.slice (some ⟨bL, 13, none⟩) 13 (cL - 13)] wx fun e w' => e = .returned (.agg #[.int .u32 l0, .int .u32 (lN : Int), .int .u32 l4, .bool vb, .bool cb, .int .i64 (tr : Nat)]) ∧ Below wx.heap.size wx w' from fun wx hx => by
    have := lread_any hx.ref H4.out (cL - 13)
    rw [hl0, hl2, hl4, hvb, hcb, htr] at this
    exact this)
  obtain ⟨x0, hx0⟩ : ∃ x, w32 (d.word 0 0) = x := ⟨_, rfl⟩
  obtain ⟨vo, hvo⟩ : ∃ v, voidB d 0 = v := ⟨_, rfl⟩
  have hxv : (x0 != 4294967295) = vo := by rw [← hx0, ones_nb, ← hvo]; rfl
  have cv : IntKind.i64.wrap (lN : Int) = (lN : Int) := by rw [IntKind.wrap_i64]; omega
  have HV := Lib.hid (And.intro hx0 (And.intro hvo (And.intro hvb (And.intro hcb (And.intro hlN hxv)))))
  clear hl0 hl4 hl2 hcb hvb htr hx0 hvo hlN hlt
  go_enter Try.func56, Try.ntmps56
  go_upto_region 1 with fail
  rw [← hX]
  clear hw1 hX
  go_upto_region 4 with (first
    | (refine wpList_load_mid rfl 28 (.tmp 13) rfl X 2 rfl (cellsD bL cL bW cW d).toList _ (bench_range H1.out.x) Try.underlying28 rfl (by kernel_rfl) ?_)
    | (go_at_call 24; refine (HLw.out _ H1.out).mono ?_; rintro e w3 ⟨rfl, hb3⟩; have H3 := Lib.hid (H1.out.new hb3); clear hb3)
    | (go_at_call 63; refine (HRd.out _ H3.out).mono ?_; rintro e w4 ⟨rfl, hb4⟩; have H5 := Lib.hid (H3.out.new hb4); clear hb4)
    | fail)
  obtain ⟨z, hz⟩ : ∃ z, w4.heap.size = z := ⟨_, rfl⟩
  generalize hw5 : World.alloc w4 _ = w5
  have H6 := Lib.hid (show BI w w5 X q B bL bW bL cL bW cW d op sp n cap by rw [← hw5]; exact H5.out.new ((Below.refl _ _).alloc (Nat.le_refl _) _))
  have hr5 : RowAt w5 z 120 #[.int .u32 l0, .int .u32 (lN : Int), .int .u32 l4, .bool vb, .bool cb, .int .i64 (tr : Nat)] := by rw [← hw5, ← hz]; exact RowAt.mk _ _ _
  rw [hz]
  clear hz hw5 c7 H1 H3 H5 HRd
  have c2 : w5.cell? ⟨X, 2, none⟩ = some (.int .i64 d.ns) := H6.out.x.cell 2
  have c3 : w5.cell? ⟨X, 3, none⟩ = some (.int .i64 d.nw) := H6.out.x.cell 3
  have c5 : w5.cell? ⟨X, 5, none⟩ = some (.slice (some ⟨bL, 0, none⟩) (d.ns * d.nw : Nat) cL) := H6.out.x.cell 5
  rw [H4.out.1] at c2 c5
  rw [H4.out.2] at c3 c5
  have a0 : w5.cell? ⟨bL, 0, none⟩ = some (.int .u32 x0) := by
    have := H6.out.ref.cl 0 0 (by have := H4.out.1; omega) (by have := H4.out.2; omega)
    rw [Nat.zero_mul, HV.out.1] at this
    exact this
  have s1 : w5.cell? ⟨z, 1, none⟩ = some (.int .u32 (lN : Int)) := hr5.cell 1
  have s3 : w5.cell? ⟨z, 3, none⟩ = some (.bool vb) := hr5.cell 3
  have s4 : w5.cell? ⟨z, 4, none⟩ = some (.bool cb) := hr5.cell 4
  clear hr5
  have HK := Lib.hid (show vb = true → vo = false → cb = false → ¬ (26 : Int) < (lN : Int) → False from fun e1 e2 e3 e4 => by
    have h1 : stOK d 0 4 = true := by
      unfold stOK
      rw [room4 H4.out.2, HV.out.2.1, e2, show validH (d.word (0 + 1)) = vb from HV.out.2.2.1, e1]
      have h2 := HV.out.2.2.2.2.1
      unfold headH at h2
      rw [HV.out.2.2.1, e1, if_pos rfl] at h2
      rw [show d.word (0 + 1) 2 = d.word 1 2 from rfl, h2, decide_eq_true (by omega)]
      rfl
    have := HBd.out
    unfold markOK at this
    rw [h1, HV.out.2.2.2.1, e3] at this
    cases this)
  cases vo with
  | true =>
    clear HK
    go_upto_region 5 with fail
    clear c2 c3 c5 a0 s1 s3 s4 hxv cv
    go_wp2_with (first
      | (refine wpList_load_row rfl 53 (.tmp 2) rfl X rfl 53 (benchC q B bL cL bW cW d op sp n cap) (0, 0) _ H6.out.x Try.underlying53 rfl (by kernel_rfl) ?_)
      | (refine wpList_store_row rfl 53 (.tmp 4) (.tmp 46) rfl (X + 1) (benchC q B bL cL bW cW d op sp n cap) rfl rfl 53 _ H6.out.y (by kernel_rfl) rfl (benchC_one _ _ _ _ _ _ _ _ _ _ _) ?_)
      | fail)
    refine bodyPost_ret (results_row rfl _ _ (X + 1) 53 (benchC q B bL cL bW cW d op sp n cap) _ rfl (RowAt.put H6.out.y) Try.underlying53 rfl (by kernel_rfl)) rfl ?_
    have hH := H6.out
    rw [← HNM.out] at hH ⊢
    exact hH.fin (r := fun v => .tuple #[v, .int .i64 80]) (HW.out _ hH.b) (fun h0 => .inl ⟨rfl, HP.out h0⟩)
  | false =>
    cases vb with
    | false =>
      clear HK
      go_upto_region 5 with fail
      clear c2 c3 c5 a0 s1 s3 s4 hxv cv
      go_wp2_with (first
        | (refine wpList_load_row rfl 53 (.tmp 2) rfl X rfl 53 (benchC q B bL cL bW cW d op sp n cap) (0, 0) _ H6.out.x Try.underlying53 rfl (by kernel_rfl) ?_)
        | (refine wpList_store_row rfl 53 (.tmp 4) (.tmp 46) rfl (X + 1) (benchC q B bL cL bW cW d op sp n cap) rfl rfl 53 _ H6.out.y (by kernel_rfl) rfl (benchC_one _ _ _ _ _ _ _ _ _ _ _) ?_)
        | fail)
      refine bodyPost_ret (results_row rfl _ _ (X + 1) 53 (benchC q B bL cL bW cW d op sp n cap) _ rfl (RowAt.put H6.out.y) Try.underlying53 rfl (by kernel_rfl)) rfl ?_
      have hH := H6.out
      rw [← HNM.out] at hH ⊢
      exact hH.fin (r := fun v => .tuple #[v, .int .i64 80]) (HW.out _ hH.b) (fun h0 => .inl ⟨rfl, HP.out h0⟩)
    | true =>
      cases cb with
      | true =>
        clear HK
        go_upto_region 5 with fail
        clear c2 c3 c5 a0 s1 s3 s4 hxv cv
        go_wp2_with (first
          | (refine wpList_load_row rfl 53 (.tmp 2) rfl X rfl 53 (benchC q B bL cL bW cW d op sp n cap) (0, 0) _ H6.out.x Try.underlying53 rfl (by kernel_rfl) ?_)
          | (refine wpList_store_row rfl 53 (.tmp 4) (.tmp 46) rfl (X + 1) (benchC q B bL cL bW cW d op sp n cap) rfl rfl 53 _ H6.out.y (by kernel_rfl) rfl (benchC_one _ _ _ _ _ _ _ _ _ _ _) ?_)
          | fail)
        refine bodyPost_ret (results_row rfl _ _ (X + 1) 53 (benchC q B bL cL bW cW d op sp n cap) _ rfl (RowAt.put H6.out.y) Try.underlying53 rfl (by kernel_rfl)) rfl ?_
        have hH := H6.out
        rw [← HNM.out] at hH ⊢
        exact hH.fin (r := fun v => .tuple #[v, .int .i64 80]) (HW.out _ hH.b) (fun h0 => .inl ⟨rfl, HP.out h0⟩)
      | false =>
        by_cases hl : (26 : Int) < (lN : Int)
        · clear HK
          go_upto_region 5 with fail
          clear c2 c3 c5 a0 s1 s3 s4 hxv cv
          go_wp2_with (first
            | (refine wpList_load_row rfl 53 (.tmp 2) rfl X rfl 53 (benchC q B bL cL bW cW d op sp n cap) (0, 0) _ H6.out.x Try.underlying53 rfl (by kernel_rfl) ?_)
            | (refine wpList_store_row rfl 53 (.tmp 4) (.tmp 46) rfl (X + 1) (benchC q B bL cL bW cW d op sp n cap) rfl rfl 53 _ H6.out.y (by kernel_rfl) rfl (benchC_one _ _ _ _ _ _ _ _ _ _ _) ?_)
            | fail)
          refine bodyPost_ret (results_row rfl _ _ (X + 1) 53 (benchC q B bL cL bW cW d op sp n cap) _ rfl (RowAt.put H6.out.y) Try.underlying53 rfl (by kernel_rfl)) rfl ?_
          have hH := H6.out
          rw [← HNM.out] at hH ⊢
          exact hH.fin (r := fun v => .tuple #[v, .int .i64 80]) (HW.out _ hH.b) (fun h0 => .inl ⟨rfl, HP.out h0⟩)
        · exact (HK.out rfl rfl rfl hl).elim
set_option maxHeartbeats 8000000 in
set_option maxRecDepth 100000 in
theorem mark_true {w : World} {q B bL bW : Nat} {d : Dev} (h : RefIn w bL bW d) (cL cW : Nat) (hcL : d.ns * d.nw ≤ cL) (op : Bool) {sp : Option Addr} {bp cap : Nat} (L : List (BitVec 32)) (h4 : d.ns = 4 ∧ d.nw = 13) (hW : Ws w sp bp 0 L.length (nthW L)) (hon : d.on = true) (hok : markOK d = true) (ho : d.okE) :
    Calls Try.prog 56 #[.agg (benchC q B bL cL bW cW d op sp L.length cap), .bool true] w fun e w' => BenchOut w w' q B bL bW bp (tryR d 0 4).1 op L (fun v => .tuple #[v, .int .i64 (tryR d 0 4).2]) e := by
  obtain ⟨X, hX⟩ : ∃ X, X = w.heap.size := ⟨_, rfl⟩
  obtain ⟨w1, hw1⟩ : ∃ w1, (w.alloc (.cells (benchC q B bL cL bW cW d op sp L.length cap) 53)).alloc (.cells #[.pointer none, .pointer none, .int .i64 0, .int .i64 0, .int .i64 0, .slice none 0 0, .slice none 0 0, .bool false, .bool false, .int .i64 0, .int .u32 0, .int .i64 0, .bool false, .slice none 0 0] 53) = w1 := ⟨_, rfl⟩
  have H1 := Lib.hid (show BI w w1 X q B bL bW bL cL bW cW d op sp L.length cap by rw [← hw1, hX]; exact BI.start h hcL)
  have HW := Lib.hid (show ∀ wx, Below X w wx → Ws wx sp bp 0 L.length (nthW L) from fun wx hb => hW.new (by rw [← hX]; exact hb))
  have HP := Lib.hid (show ∀ h0 : 0 < L.length, bp < X from fun h0 => by rw [hX]; exact (hW.sp h0).2)
  have H4 := Lib.hid h4
  obtain ⟨c0, hc0⟩ : ∃ c0, benchC q B bL cL bW cW d op sp L.length cap = c0 := ⟨_, rfl⟩
  rw [hc0] at hw1 ⊢
  have c7 : w1.cell? ⟨X, 7, none⟩ = some (.bool (!d.on)) := H1.out.x.cell 7
  obtain ⟨n, hLn⟩ : ∃ n, L.length = n := ⟨_, rfl⟩
  have HNM := Lib.hid hLn
  rw [hLn] at H1
  clear hc0 h hcL hW hLn h4
  have HBd := Lib.hid hok
  have HOk := Lib.hid ho
  have HON := Lib.hid hon
  clear hok ho
  rw [hon] at c7
  have HLw := Lib.hid (show ∀ wx, BI w wx X q B bL bW bL cL bW cW d op sp n cap → Calls Try.prog 24 #[.agg (cellsD bL cL bW cW d), .int .i64 1] wx fun e w' => e = .returned (.slice (some ⟨bL, 13, none⟩) 13 (cL - 13)) ∧ Below wx.heap.size wx w' from fun wx hx => lwords1_any hx.ref H4.out cL cW hx.cp)
  obtain ⟨l0, hl0⟩ : ∃ x, w32 (headH (d.word 1) 0) = x := ⟨_, rfl⟩
  obtain ⟨l4, hl4⟩ : ∃ x, w32 (headH (d.word 1) 4) = x := ⟨_, rfl⟩
  obtain ⟨lN, hlN⟩ : ∃ x, (headH (d.word 1) 2).toNat = x := ⟨_, rfl⟩
  have hl2 : w32 (headH (d.word 1) 2) = (lN : Int) := by rw [← hlN]; rfl
  have hlt : lN < 4294967296 := by rw [← hlN]; exact (headH (d.word 1) 2).isLt
  obtain ⟨vb, hvb⟩ : ∃ x, validH (d.word 1) = x := ⟨_, rfl⟩
  obtain ⟨cb, hcb⟩ : ∃ x, confH (d.word 1) = x := ⟨_, rfl⟩
  obtain ⟨tr, htr⟩ : ∃ x, trC (d.word 1) 3 = x := ⟨_, rfl⟩
  have HRd := Lib.hid (show ∀ wx, BI w wx X q B bL bW bL cL bW cW d op sp n cap → Calls Try.prog 63 #[.slice (some ⟨bL, 13, none⟩) 13 (cL - 13)] wx fun e w' => e = .returned (.agg #[.int .u32 l0, .int .u32 (lN : Int), .int .u32 l4, .bool vb, .bool cb, .int .i64 (tr : Nat)]) ∧ Below wx.heap.size wx w' from fun wx hx => by
    have := lread_any hx.ref H4.out (cL - 13)
    rw [hl0, hl2, hl4, hvb, hcb, htr] at this
    exact this)
  obtain ⟨x0, hx0⟩ : ∃ x, w32 (d.word 0 0) = x := ⟨_, rfl⟩
  obtain ⟨vo, hvo⟩ : ∃ v, voidB d 0 = v := ⟨_, rfl⟩
  have hxv : (x0 != 4294967295) = vo := by rw [← hx0, ones_nb, ← hvo]; rfl
  have cv : IntKind.i64.wrap (lN : Int) = (lN : Int) := by rw [IntKind.wrap_i64]; omega
  have HV := Lib.hid (And.intro hx0 (And.intro hvo (And.intro hvb (And.intro hcb (And.intro hlN hxv)))))
  clear hl0 hl4 hl2 hcb hvb htr hx0 hvo hlN hlt
  go_enter Try.func56, Try.ntmps56
  go_upto_region 1 with fail
  rw [← hX]
  clear hw1 hX
  go_upto_region 4 with (first
    | (refine wpList_load_mid rfl 28 (.tmp 13) rfl X 2 rfl (cellsD bL cL bW cW d).toList _ (bench_range H1.out.x) Try.underlying28 rfl (by kernel_rfl) ?_)
    | (go_at_call 24; refine (HLw.out _ H1.out).mono ?_; rintro e w3 ⟨rfl, hb3⟩; have H3 := Lib.hid (H1.out.new hb3); clear hb3)
    | (go_at_call 63; refine (HRd.out _ H3.out).mono ?_; rintro e w4 ⟨rfl, hb4⟩; have H5 := Lib.hid (H3.out.new hb4); clear hb4)
    | fail)
  obtain ⟨z, hz⟩ : ∃ z, w4.heap.size = z := ⟨_, rfl⟩
  generalize hw5 : World.alloc w4 _ = w5
  have H6 := Lib.hid (show BI w w5 X q B bL bW bL cL bW cW d op sp n cap by rw [← hw5]; exact H5.out.new ((Below.refl _ _).alloc (Nat.le_refl _) _))
  have hr5 : RowAt w5 z 120 #[.int .u32 l0, .int .u32 (lN : Int), .int .u32 l4, .bool vb, .bool cb, .int .i64 (tr : Nat)] := by rw [← hw5, ← hz]; exact RowAt.mk _ _ _
  rw [hz]
  clear hz hw5 c7 H1 H3 H5 HRd
  have c2 : w5.cell? ⟨X, 2, none⟩ = some (.int .i64 d.ns) := H6.out.x.cell 2
  have c3 : w5.cell? ⟨X, 3, none⟩ = some (.int .i64 d.nw) := H6.out.x.cell 3
  have c5 : w5.cell? ⟨X, 5, none⟩ = some (.slice (some ⟨bL, 0, none⟩) (d.ns * d.nw : Nat) cL) := H6.out.x.cell 5
  rw [H4.out.1] at c2 c5
  rw [H4.out.2] at c3 c5
  have a0 : w5.cell? ⟨bL, 0, none⟩ = some (.int .u32 x0) := by
    have := H6.out.ref.cl 0 0 (by have := H4.out.1; omega) (by have := H4.out.2; omega)
    rw [Nat.zero_mul, HV.out.1] at this
    exact this
  have s1 : w5.cell? ⟨z, 1, none⟩ = some (.int .u32 (lN : Int)) := hr5.cell 1
  have s3 : w5.cell? ⟨z, 3, none⟩ = some (.bool vb) := hr5.cell 3
  have s4 : w5.cell? ⟨z, 4, none⟩ = some (.bool cb) := hr5.cell 4
  clear hr5
  have hgd : vb = true ∧ vo = false ∧ cb = false ∧ ¬ (26 : Int) < (lN : Int) := by
    have h := HBd.out
    unfold markOK stOK at h
    rw [room4 H4.out.2, HV.out.2.1, show validH (d.word (0 + 1)) = vb from HV.out.2.2.1, HV.out.2.2.2.1] at h
    simp only [Bool.and_eq_true, Bool.not_eq_true', decide_eq_true_eq] at h
    obtain ⟨⟨e1, e2, e3⟩, e4⟩ := h
    refine ⟨e1, e2, e4, ?_⟩
    have h2 := HV.out.2.2.2.2.1
    unfold headH at h2
    rw [HV.out.2.2.1, e1, if_pos rfl] at h2
    have h3 : (d.word 1 2).toNat ≤ 26 := e3
    omega
  obtain ⟨rfl, rfl, rfl, hl⟩ := hgd
  have HTr := Lib.hid (show tryR d 0 4 = if nxB (d.word 1) then d.program 1 (nxN (d.word 1) : Nat) 0#32 else (d, 80) by
    have h := HBd.out
    unfold markOK at h
    simp only [Bool.and_eq_true, Bool.not_eq_true'] at h
    unfold tryR
    rw [HON.out, if_pos rfl, if_pos h.1, show confH (d.word (0 + 1)) = false from h.2]
    rfl)
  have HAt := Lib.hid (show ∀ wx, BI w wx X q B bL bW bL cL bW cW d op sp n cap → ∀ i : Nat, i < 13 → Calls Try.prog 96 #[.slice (some ⟨bL, 13, none⟩) 13 (cL - 13), .int .i64 i] wx fun e w' => e = .returned (.int .u32 (w32 (d.word 1 i))) ∧ wx = w' from fun wx hx i hi => by
    have hw := ref_ws hx.ref 1 (by have := H4.out.1; omega)
    rw [H4.out.2, Nat.one_mul] at hw
    have := refat_any 13 bL 13 (cL - 13) _ (d.word 1) wx hw i
    rw [atW_lt _ hi] at this
    exact this)
  go_upto_region 8 with fail
  clear c2 c3 c5 a0 s1 s3 s4 hl hxv cv
  go_loopg [7, 8] 3 (fun m ve v wr => ∃ k : Nat, k + m = 3 ∧ v = .int .i64 ((10 : Int) + (k : Int)) ∧ ve = .int .i64 80 ∧ Aside (BI w wr X q B bL bW bL cL bW cW d op sp n cap ∧ ∀ j, j < k → (d.word 1 (10 + j) == BitVec.allOnes 32) = false))
  case atStart => exact ⟨0, by omega, rfl, rfl, H6.out, fun j hj => absurd hj (Nat.not_lt_zero j)⟩
  case round =>
    obtain ⟨k, hkm, rfl, rfl, HR⟩ := hrel
    have H7 := Lib.hid HR.out.1
    cases gk with
    | zero =>
      obtain rfl : k = 3 := by omega
      have HRR := Lib.hid (show tryR d 0 4 = (d, 80) by
        have h0 := HR.out.2 0 (by omega)
        have h1 := HR.out.2 1 (by omega)
        have h2 := HR.out.2 2 (by omega)
        rw [HTr.out]
        unfold nxB
        rw [h0, h1, h2]
        rfl)
      have e1 : ¬ ((10 : Int) + ((3 : Nat) : Int)) < 13 := by decide
      go_wp2_with (first
        | (refine wpList_load_row rfl 53 (.tmp 2) rfl X rfl 53 (benchC q B bL cL bW cW d op sp n cap) (0, 0) _ H7.out.x Try.underlying53 rfl (by kernel_rfl) ?_)
        | (refine wpList_store_row rfl 53 (.tmp 4) (.tmp 71) rfl (X + 1) (benchC q B bL cL bW cW d op sp n cap) rfl rfl 53 _ H7.out.y (by kernel_rfl) rfl (benchC_one _ _ _ _ _ _ _ _ _ _ _) ?_)
        | fail)
      refine bodyPost_ret (results_row rfl _ _ (X + 1) 53 (benchC q B bL cL bW cW d op sp n cap) _ rfl (RowAt.put H7.out.y) Try.underlying53 rfl (by kernel_rfl)) rfl ?_
      rw [HRR.out]
      have hH := H7.out
      rw [← HNM.out] at hH ⊢
      exact hH.fin (r := fun v => .tuple #[v, .int .i64 80]) (HW.out _ hH.b) (fun h0 => .inl ⟨rfl, HP.out h0⟩)
    | succ g1 =>
      have e1 : (10 : Int) + (k : Int) < 13 := by omega
      have hxn := ones_b (d.word 1 (10 + k))
      have HAk := Lib.hid (show ∀ wx, BI w wx X q B bL bW bL cL bW cW d op sp n cap → Calls Try.prog 96 #[.slice (some ⟨bL, 13, none⟩) 13 (cL - 13), .int .i64 ((10 : Int) + (k : Int))] wx fun e w' => e = .returned (.int .u32 (w32 (d.word 1 (10 + k)))) ∧ wx = w' from fun wx hx => HAt.out wx hx (10 + k) (by omega))
      obtain ⟨x, hx⟩ : ∃ x, w32 (d.word 1 (10 + k)) = x := ⟨_, rfl⟩
      rw [hx] at hxn HAk
      have f1 : IntKind.i64.wrap ((10 : Int) + (k : Int) + 1) = (10 : Int) + ((k + 1 : Nat) : Int) := by rw [IntKind.wrap_i64]; omega
      clear hx
      cases hb : d.word 1 (10 + k) == BitVec.allOnes 32 with
      | true =>
        rw [hb] at hxn
        have HRR := Lib.hid (show tryR d 0 4 = d.program 1 ((10 : Int) + (k : Int)) 0#32 by
          obtain ⟨h1, h2⟩ := nx_yes (show k < 3 by omega) HR.out.2 hb
          rw [HTr.out, h2, h1, if_pos rfl]
          rfl)
        have HPr := Lib.hid (show ∀ wx, BI w wx X q B bL bW bL cL bW cW d op sp n cap → Calls Try.prog 92 #[.agg (cellsD bL cL bW cW d), .int .i64 1, .int .i64 ((10 : Int) + (k : Int)), .int .u32 0] wx fun e w' => RefOut wx w' bL bW (tryR d 0 4).1 (fun v => .tuple #[v, .int .i64 (tryR d 0 4).2]) e from fun wx hx => by
          rw [HRR.out]; exact progR_any hx.ref HOk.out.1 cL cW hx.cp 1 ((10 : Int) + (k : Int)) 0#32)
        clear HRR hb f1
        go_upto_region 11 with (first
          | (refine wpList_load_mid rfl 28 (.tmp 54) rfl X 2 rfl (cellsD bL cL bW cW d).toList _ (bench_range H7.out.x) Try.underlying28 rfl (by kernel_rfl) ?_)
          | (go_at_call 24; refine (HLw.out _ H7.out).mono ?_; rintro e w8 ⟨rfl, hb8⟩; have H8 := Lib.hid (H7.out.new hb8); clear hb8)
          | (go_at_call 96; refine (HAk.out _ H8.out).mono ?_; rintro e w9 ⟨rfl, rfl⟩)
          | fail)
        go_upto_region 12 with (first
          | (refine wpList_load_mid rfl 28 (.tmp 61) rfl X 2 rfl (cellsD bL cL bW cW d).toList _ (bench_range H8.out.x) Try.underlying28 rfl (by kernel_rfl) ?_)
          | (go_at_call 92; refine (HPr.out _ H8.out).mono ?_; rintro e w9 hro; obtain ⟨bL1, cL1, bW1, cW1, rfl, hr9, hb9⟩ := H8.out.next hro; have H9 := Lib.hid (And.intro hr9 hb9); clear hr9 hb9 hro; try dsimp only)
          | (refine wpList_store_mid rfl 28 (.tmp 67) (.tmp 65) rfl X 2 (cellsD bL1 cL1 bW1 cW1 (tryR d 0 4).1) rfl rfl (bench_there H9.out.1) (by kernel_rfl) (cellsD_one _ _ _ _ _) ?_
             generalize hwa : World.setCells _ _ _ _ = wa
             have HA := Lib.hid (show BI w wa X q B bL bW bL1 cL1 bW1 cW1 (tryR d 0 4).1 op sp n cap by rw [← hwa]; exact H9.out.2)
             clear hwa)
          | fail)
        go_wp2_with (first
          | (refine wpList_load_row rfl 53 (.tmp 2) rfl X rfl 53 (benchC q B bL1 cL1 bW1 cW1 (tryR d 0 4).1 op sp n cap) (0, 0) _ HA.out.x Try.underlying53 rfl (by kernel_rfl) ?_)
          | (refine wpList_store_row rfl 53 (.tmp 4) (.tmp 68) rfl (X + 1) (benchC q B bL1 cL1 bW1 cW1 (tryR d 0 4).1 op sp n cap) rfl rfl 53 _ HA.out.y (by kernel_rfl) rfl (benchC_one _ _ _ _ _ _ _ _ _ _ _) ?_)
          | fail)
        refine bodyPost_ret (results_row rfl _ _ (X + 1) 53 (benchC q B bL1 cL1 bW1 cW1 (tryR d 0 4).1 op sp n cap) _ rfl (RowAt.put HA.out.y) Try.underlying53 rfl (by kernel_rfl)) rfl ?_
        have hH := HA.out
        rw [← HNM.out] at hH ⊢
        exact hH.fin (r := fun v => .tuple #[v, .int .i64 (tryR d 0 4).2]) (HW.out _ hH.b) (fun h0 => .inl ⟨rfl, HP.out h0⟩)
      | false =>
        rw [hb] at hxn
        have HB := Lib.hid hb
        clear hb
        go_upto_region 9 with (first
          | (refine wpList_load_mid rfl 28 (.tmp 54) rfl X 2 rfl (cellsD bL cL bW cW d).toList _ (bench_range H7.out.x) Try.underlying28 rfl (by kernel_rfl) ?_)
          | (go_at_call 24; refine (HLw.out _ H7.out).mono ?_; rintro e w8 ⟨rfl, hb8⟩; have H8 := Lib.hid (H7.out.new hb8); clear hb8)
          | (go_at_call 96; refine (HAk.out _ H8.out).mono ?_; rintro e w9 ⟨rfl, rfl⟩)
          | fail)
        go_wp2
        go_roundg g1
        case measure => omega
        case rel =>
          refine ⟨k + 1, by omega, by first | rfl | go_num, rfl, H8.out, fun j hj => ?_⟩
          rcases Nat.lt_or_ge j k with h1 | h1
          · exact HR.out.2 j h1
          · obtain rfl : j = k := by omega
            exact HB.out
end Go.Proofs.Ythpagbfabpfngaa
