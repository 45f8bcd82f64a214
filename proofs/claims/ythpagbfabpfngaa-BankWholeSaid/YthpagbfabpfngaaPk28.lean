/- Several texts in one: CJ, CL. -/
import Derived.Test.YthpagbfabpfngaaPk27
import Derived.Test.YthpagbfabpfngaaPk18
/- The contract of law08's mark: Confirm. -/
namespace Go.Proofs.Ythpagbfabpfngaa
open Go.RowKit

theorem program_not61 {d : Dev} {s k : Int} {x : BitVec 32} (h : within x (d.word s.toNat k.toNat) = true) : (d.program s k x).2 ≠ 61 := by
  unfold Dev.program
  split
  · rename_i he
    obtain ⟨-, -, -, -, hw⟩ := readE_ok he
    rw [hw, h]
    simp only [if_true]
    split <;> simp
  · unfold Dev.readE
    split
    · split <;> simp
    · simp
theorem confirm_is {d : Dev} (hon : d.on = true) (hok : markOK d = true) (hk : keepC d 0) : confirmR d 0 4 = progK d 1 (fun k => 8 + k) (wrW (fun _ => conW)) 2 := by
  unfold markOK at hok
  simp only [Bool.and_eq_true, Bool.not_eq_true'] at hok
  unfold confirmR
  rw [hon, if_pos rfl, if_pos hok.1, show confH (d.word (0 + 1)) = false from hok.2, keepC_spoilt hk]
  rfl
theorem confirm_not61 {d : Dev} (h : keepC d 0) (hw : 13 ≤ d.nw) (_hk : ∀ k, k ≤ 2 → (progK d 1 (fun k => 8 + k) (wrW (fun _ => conW)) k).1.nw = d.nw) : (progK d 1 (fun k => 8 + k) (wrW (fun _ => conW)) 2).2 ≠ 61 := by
  have hkk : ∀ k, k ≤ 2 → keepC (progK d 1 (fun k => 8 + k) (wrW (fun _ => conW)) k).1 0 := fun k hk2 => keepC_progK (base := 0) h
    (fun k hk _ e => by
      rw [Nat.mod_eq_of_lt (by omega)] at e
      obtain rfl : k = 0 := by omega
      exact within_self _)
    (fun k hk _ e => by
      rw [Nat.mod_eq_of_lt (by omega)] at e
      obtain rfl : k = 1 := by omega
      exact within_self _) k hk2
  have h0 : (progK d 1 (fun k => 8 + k) (wrW (fun _ => conW)) 1).2 ≠ 61 := by
    rw [progK_succ]
    split
    · refine program_not61 ?_
      rw [Int.toNat_natCast, Int.toNat_natCast, Nat.mod_eq_of_lt (by omega), Nat.div_eq_of_lt (by omega)]
      exact (hkk 0 (by omega)).1
    · rename_i hne; exact absurd rfl hne
  rw [progK_succ]
  split
  · refine program_not61 ?_
    rw [Int.toNat_natCast, Int.toNat_natCast, Nat.mod_eq_of_lt (by omega), Nat.div_eq_of_lt (by omega)]
    exact (hkk 1 (by omega)).2
  · exact h0
set_option maxHeartbeats 8000000 in
set_option maxRecDepth 100000 in
theorem mark_false {w : World} {q B bL bW : Nat} {d : Dev} (h : RefIn w bL bW d) (cL cW : Nat) (hcL : d.ns * d.nw ≤ cL) (op : Bool) {sp : Option Addr} {bp cap : Nat} (L : List (BitVec 32)) (h4 : d.ns = 4 ∧ d.nw = 13) (hW : Ws w sp bp 0 L.length (nthW L)) (hon : d.on = true) (hok : markOK d = true) (ho : d.okE) (hn : d.ops + 2 ≤ 1000000) (hkc : keepC d 0) :
    Calls Try.prog 56 #[.agg (benchC q B bL cL bW cW d op sp L.length cap), .bool false] w fun e w' => BenchOut w w' q B bL bW bp (confirmR d 0 4).1 op L (fun v => .tuple #[v, .int .i64 (confirmR d 0 4).2]) e := by
  obtain ⟨X, hX⟩ : ∃ X, X = w.heap.size := ⟨_, rfl⟩
  obtain ⟨w1, hw1⟩ : ∃ w1, (w.alloc (.cells (benchC q B bL cL bW cW d op sp L.length cap) 53)).alloc (.cells #[.pointer none, .pointer none, .int .i64 0, .int .i64 0, .int .i64 0, .slice none 0 0, .slice none 0 0, .bool false, .bool false, .int .i64 0, .int .u32 0, .int .i64 0, .bool false, .slice none 0 0] 53) = w1 := ⟨_, rfl⟩
  have H1 := Lib.hid (show BI w w1 X q B bL bW bL cL bW cW d op sp L.length cap by rw [← hw1, hX]; exact BI.start h hcL)
  have HW := Lib.hid (show ∀ wx, Below X w wx → Ws wx sp bp 0 L.length (nthW L) from fun wx hb => hW.new (by rw [← hX]; exact hb))
  have HP := Lib.hid (show ∀ h0 : 0 < L.length, bp < X from fun h0 => by rw [hX]; exact (hW.sp h0).2)
  have H4 := Lib.hid h4
  obtain ⟨c0, hc0⟩ : ∃ c0, benchC q B bL cL bW cW d op sp L.length cap = c0 := ⟨_, rfl⟩
  rw [hc0] at hw1 ⊢
  have c7 : w1.cell? ⟨X, 7, none⟩ = some (.bool (!d.on)) := H1.out.x.cell 7
  obtain ⟨n, hLn⟩ : ∃ n, L.length = n := ⟨_, rfl⟩
  have HNM := Lib.hid hLn
  rw [hLn] at H1
  clear hc0 h hcL hW hLn h4
  have HBd := Lib.hid hok
  have hkk := fun k (hk : k ≤ 2) => progK_kept (from_ := 1) (at_ := fun k => 8 + k) (ws := wrW (fun _ => conW)) (n := 2) ho (by omega) (by have := H4.out.2; omega) (by have := H4.out.2; omega) k hk
  have HCf := Lib.hid (confirm_is hon hok hkc)
  have HNe := Lib.hid (show ((confirmR d 0 4).2 == 61) = false by
    rw [confirm_is hon hok hkc]
    have := confirm_not61 hkc (by have := H4.out.2; omega) (fun k hk => (hkk k hk).nw)
    simpa using this)
  have HOk := Lib.hid (And.intro ho hn)
  clear hok ho hn hkc hkk
  rw [hon] at c7
  have HLw := Lib.hid (show ∀ wx, BI w wx X q B bL bW bL cL bW cW d op sp n cap → Calls Try.prog 24 #[.agg (cellsD bL cL bW cW d), .int .i64 1] wx fun e w' => e = .returned (.slice (some ⟨bL, 13, none⟩) 13 (cL - 13)) ∧ Below wx.heap.size wx w' from fun wx hx => lwords1_any hx.ref H4.out cL cW hx.cp)
  obtain ⟨l0, hl0⟩ : ∃ x, w32 (headH (d.word 1) 0) = x := ⟨_, rfl⟩
  obtain ⟨l4, hl4⟩ : ∃ x, w32 (headH (d.word 1) 4) = x := ⟨_, rfl⟩
  obtain ⟨lN, hlN⟩ : ∃ x, (headH (d.word 1) 2).toNat = x := ⟨_, rfl⟩
  have hl2 : w32 (headH (d.word 1) 2) = (lN : Int) := by rw [← hlN]; rfl
  have hlt : lN < 4294967296 := by rw [← hlN]; exact (headH (d.word 1) 2).isLt
  obtain ⟨vb, hvb⟩ : ∃ x, validH (d.word 1) = x := ⟨_, rfl⟩
  obtain ⟨cb, hcb⟩ : ∃ x, confH (d.word 1) = x := ⟨_, rfl⟩
  obtain ⟨tr, htr⟩ : ∃ x, trC (d.word 1) 3 = x := ⟨_, rfl⟩
  have HRd := Lib.hid (show ∀ wx, BI w wx X q B bL bW bL cL bW cW d op sp n cap → Calls Try.prog 63 #[.slice (some ⟨bL, 13, none⟩) 13 (cL - 13)] wx fun e w' => e = .returned (.agg #[.int .u32 l0, .int .u32 (lN : Int), .int .u32 l4, .bool vb, .bool cb, .int .i64 (tr : Nat)]) ∧ Below wx.heap.size wx w' from fun wx hx => by
    have := lread_any hx.ref H4.out (cL - 13)
    rw [hl0, hl2, hl4, hvb, hcb, htr] at this
    exact this)
  obtain ⟨x0, hx0⟩ : ∃ x, w32 (d.word 0 0) = x := ⟨_, rfl⟩
  obtain ⟨vo, hvo⟩ : ∃ v, voidB d 0 = v := ⟨_, rfl⟩
  have hxv : (x0 != 4294967295) = vo := by rw [← hx0, ones_nb, ← hvo]; rfl
  have cv : IntKind.i64.wrap (lN : Int) = (lN : Int) := by rw [IntKind.wrap_i64]; omega
  have HV := Lib.hid (And.intro hx0 (And.intro hvo (And.intro hvb (And.intro hcb (And.intro hlN hxv)))))
  clear hl0 hl4 hl2 hcb hvb htr hx0 hvo hlN hlt
  go_enter Try.func56, Try.ntmps56
  go_upto_region 1 with fail
  rw [← hX]
  clear hw1 hX
  go_upto_region 4 with (first
    | (refine wpList_load_mid rfl 28 (.tmp 13) rfl X 2 rfl (cellsD bL cL bW cW d).toList _ (bench_range H1.out.x) Try.underlying28 rfl (by kernel_rfl) ?_)
    | (go_at_call 24; refine (HLw.out _ H1.out).mono ?_; rintro e w3 ⟨rfl, hb3⟩; have H3 := Lib.hid (H1.out.new hb3); clear hb3)
    | (go_at_call 63; refine (HRd.out _ H3.out).mono ?_; rintro e w4 ⟨rfl, hb4⟩; have H5 := Lib.hid (H3.out.new hb4); clear hb4)
    | fail)
  obtain ⟨z, hz⟩ : ∃ z, w4.heap.size = z := ⟨_, rfl⟩
  generalize hw5 : World.alloc w4 _ = w5
  have H6 := Lib.hid (show BI w w5 X q B bL bW bL cL bW cW d op sp n cap by rw [← hw5]; exact H5.out.new ((Below.refl _ _).alloc (Nat.le_refl _) _))
  have hr5 : RowAt w5 z 120 #[.int .u32 l0, .int .u32 (lN : Int), .int .u32 l4, .bool vb, .bool cb, .int .i64 (tr : Nat)] := by rw [← hw5, ← hz]; exact RowAt.mk _ _ _
  rw [hz]
  clear hz hw5 c7 H1 H3 H5 HRd
  have c2 : w5.cell? ⟨X, 2, none⟩ = some (.int .i64 d.ns) := H6.out.x.cell 2
  have c3 : w5.cell? ⟨X, 3, none⟩ = some (.int .i64 d.nw) := H6.out.x.cell 3
  have c5 : w5.cell? ⟨X, 5, none⟩ = some (.slice (some ⟨bL, 0, none⟩) (d.ns * d.nw : Nat) cL) := H6.out.x.cell 5
  rw [H4.out.1] at c2 c5
  rw [H4.out.2] at c3 c5
  have a0 : w5.cell? ⟨bL, 0, none⟩ = some (.int .u32 x0) := by
    have := H6.out.ref.cl 0 0 (by have := H4.out.1; omega) (by have := H4.out.2; omega)
    rw [Nat.zero_mul, HV.out.1] at this
    exact this
  have s1 : w5.cell? ⟨z, 1, none⟩ = some (.int .u32 (lN : Int)) := hr5.cell 1
  have s3 : w5.cell? ⟨z, 3, none⟩ = some (.bool vb) := hr5.cell 3
  have s4 : w5.cell? ⟨z, 4, none⟩ = some (.bool cb) := hr5.cell 4
  clear hr5
  have hgd : vb = true ∧ vo = false ∧ cb = false ∧ ¬ (26 : Int) < (lN : Int) := by
    have h := HBd.out
    unfold markOK stOK at h
    rw [room4 H4.out.2, HV.out.2.1, show validH (d.word (0 + 1)) = vb from HV.out.2.2.1, HV.out.2.2.2.1] at h
    simp only [Bool.and_eq_true, Bool.not_eq_true', decide_eq_true_eq] at h
    obtain ⟨⟨e1, e2, e3⟩, e4⟩ := h
    refine ⟨e1, e2, e4, ?_⟩
    have h2 := HV.out.2.2.2.2.1
    unfold headH at h2
    rw [HV.out.2.2.1, e1, if_pos rfl] at h2
    have h3 : (d.word 1 2).toNat ≤ 26 := e3
    omega
  obtain ⟨rfl, rfl, rfl, hl⟩ := hgd
  have HWd := Lib.hid (show ∀ wx, Calls Try.prog 94 #[.int .u32 0, .int .u32 0, .int .u32 0, .bool true, .bool true] wx fun e w' =>
    ∃ g cap, e = .returned (.slice (some ⟨g, 0, none⟩) 13 cap) ∧ w'.ownsRow wx.heap.size 26 1 (.slice (some ⟨g, 0, none⟩) 13 cap) 13 (rowH (wdF (wdC (wd0 0#32 0#32 0#32) true) true) 13) ∧ Below wx.heap.size wx w' from fun wx => hwords_any 0#32 0#32 0#32 true true wx)
  have HPr := Lib.hid (show ∀ wx base g cg, BI w wx X q B bL bW bL cL bW cW d op sp n cap → wx.ownsRow base 26 1 (.slice (some ⟨g, 0, none⟩) 13 cg) 13 (rowH (wdF (wdC (wd0 0#32 0#32 0#32) true) true) 13) → Calls Try.prog 95 #[.agg (cellsD bL cL bW cW d), .int .i64 1, .int .i64 8, .slice (some ⟨g, 8, none⟩) 2 (cg - 8)] wx fun e w' => RefOut wx w' bL bW (confirmR d 0 4).1 (fun v => .tuple #[v, .int .i64 (confirmR d 0 4).2]) e from fun wx base g cg hx ho => by
    have hw := ws_own ho (show 13 ≤ 13 by omega)
    have hws : Ws wx (some ⟨g, 8, none⟩) g 8 2 (wrW (fun _ => conW)) := ⟨fun _ => ⟨rfl, (hw.sp (by omega)).2⟩, fun k hk => by
      have := hw.cell (8 + k) (by omega)
      rw [Nat.zero_add] at this
      rw [this]
      obtain rfl | rfl : k = 0 ∨ k = 1 := by omega
      · rfl
      · rfl⟩
    have := lprogram_any (cap := cg - 8) hx.ref HOk.out.1 cL cW 1 8 hx.cp (by omega) (by omega) (wrW (fun _ => conW)) (n := 2) (by have := HOk.out.2; omega) (by omega) hws
    rw [HCf.out]
    exact this)
  obtain ⟨⟨d2, e2⟩, hp⟩ : ∃ p, confirmR d 0 4 = p := ⟨_, rfl⟩
  rw [hp] at HPr HNe
  simp only at HPr HNe
  have HRR := Lib.hid hp
  have e61 : (e2 == 61) = false := HNe.out
  go_upto_region 8 with fail
  clear c2 c3 c5 a0 s1 s3 s4 hl hxv cv hp HNe
  go_loopg [7, 8] 0 (fun m ve v wr => v = .int .i64 10 ∧ ve = .int .i64 80 ∧ Aside (BI w wr X q B bL bW bL cL bW cW d op sp n cap))
  case atStart => exact ⟨rfl, rfl, H6.out⟩
  case round =>
    obtain ⟨rfl, rfl, HR⟩ := hrel
    have H7 := Lib.hid HR.out
    clear HR
    go_upto_region 15 with fail
    refine wp_region_held_drew (S := fun _ => True) (by kernel_rfl) trivial (fun hS => ?_)
    refine wpAnyH_take (i := 0) (oi := { dst := some 74, op := .fieldAddr 53 (.tmp 2) 2, type := 0, pos := "law.go:164", after := #[], guard := none }) (v := ?_) rfl (by kernel_rfl) (by kernel_rfl) (by kernel_rfl) (fun _ _ _ h => h) (Or.inl ⟨by rfl, ?_⟩) trivial ?_
    rotate_left 1
    · intro w hw; go_simp; try (with_reducible rfl)
    simp only [Act.put, List.setIfInBounds_toArray, List.set_cons_zero, List.set_cons_succ]
    refine wpAnyH_ready (rs := [1, 2]) (by kernel_rfl) (by simp) (AllReadyH.cons (o := { dst := some 75, op := .load 28 (.tmp 74), type := 28, pos := "law.go:164", after := #[{ on := 0, ground := .data }], guard := none }) rfl (fun K hK => ?_) (AllReadyH.cons (o := { dst := some 76, op := .call { callee := .value (.func 94), args := #[.const (.int .u32 0), .const (.int .u32 0), .const (.int .u32 0), .const (.bool true), .const (.bool true)], argTypes := #[26, 26, 26, 4, 4] }, type := 24, pos := "law.go:164", after := #[], guard := none }) rfl (fun K hK => ?_) AllReadyH.nil))
    · rw [if_pos (by rfl)]
      refine wp_load_mid 28 (.tmp 74) (by rfl) X 2 (by rfl) (cellsD bL cL bW cW d).toList _ (bench_range (H7.out.dn 1).x) Try.underlying28 rfl (by kernel_rfl) ?_
      refine hK.out _ _ trivial (fun hHeld => ?_)
      clear hK K
      try simp only [Act.put, List.setIfInBounds_toArray, List.set_cons_zero, List.set_cons_succ]
      refine wpAnyH_ready (rs := [2]) (by kernel_rfl) (by simp) (AllReadyH.cons (o := { dst := some 76, op := .call { callee := .value (.func 94), args := #[.const (.int .u32 0), .const (.int .u32 0), .const (.int .u32 0), .const (.bool true), .const (.bool true)], argTypes := #[26, 26, 26, 4, 4] }, type := 24, pos := "law.go:164", after := #[], guard := none }) rfl (fun K hK => ?_) AllReadyH.nil)
      go_simp
      go_at_call 94
      refine (HWd.out _).mono ?_
      rintro e w8 ⟨G, cg, rfl, ho8, hb8⟩
      have H8 := Lib.hid ((H7.out.dn 1).new hb8)
      have HG := Lib.hid ho8
      have hcg := own_cap ho8
      have g1 : (10 : Int) ≤ (cg : Int) := by omega
      have g2 : 10 ≤ cg := by omega
      have g3 : ¬ cg = 8 := by omega
      clear ho8 hb8 hcg
      try dsimp only
      refine hK.out _ _ trivial (fun hHeld => ?_)
      clear hK K
      try simp only [Act.put, List.setIfInBounds_toArray, List.set_cons_zero, List.set_cons_succ]
      refine wpAnyH_take (i := 3) (oi := { dst := some 77, op := .slice 24 (.tmp 76) (some (.const (.int .i64 8))) (some (.const (.int .i64 10))) none, type := 24, pos := "law.go:164", after := #[{ on := 2, ground := .data }], guard := none }) (v := ?_) rfl (by kernel_rfl) (by kernel_rfl) (by kernel_rfl) (fun _ _ _ h => h) (Or.inl ⟨by rfl, ?_⟩) trivial ?_
      rotate_left 1
      · intro w hw; go_simp; try (with_reducible rfl)
      simp only [Act.put, List.setIfInBounds_toArray, List.set_cons_zero, List.set_cons_succ]
      refine wpAnyH_ready (rs := [4]) (by kernel_rfl) (by simp) (AllReadyH.cons (o := { dst := some 78, op := .call { callee := .value (.func 95), args := #[.tmp 75, .const (.int .i64 1), .const (.int .i64 8), .tmp 77], argTypes := #[28, 3, 3, 24] }, type := 29, pos := "law.go:164", after := #[{ on := 1, ground := .data }, { on := 3, ground := .data }, { on := 2, ground := .chain }], guard := none }) rfl (fun K hK => ?_) AllReadyH.nil)
      go_simp
      go_at_call 95
      refine (HPr.out _ _ G cg H8.out HG.out).mono ?_
      rintro e w9 hro
      obtain ⟨xL', yL', xW', yW', rfl, hr9, hb9⟩ := H8.out.next hro
      have H9 := Lib.hid (And.intro hr9 hb9)
      clear hr9 hb9 hro
      try dsimp only
      refine hK.out _ _ trivial (fun hHeld => ?_)
      clear hK K
      try simp only [Act.put, List.setIfInBounds_toArray, List.set_cons_zero, List.set_cons_succ]
      refine wpAnyH_take (i := 5) (oi := { dst := some 73, op := .move (.tmp 78), type := 29, pos := "law.go:164", after := #[{ on := 4, ground := .data }], guard := none }) (v := ?_) rfl (by kernel_rfl) (by kernel_rfl) (by kernel_rfl) (fun _ _ _ h => h) (Or.inl ⟨by rfl, ?_⟩) trivial ?_
      rotate_left 1
      · intro w hw; go_simp; try (with_reducible rfl)
      simp only [Act.put, List.setIfInBounds_toArray, List.set_cons_zero, List.set_cons_succ]
      refine wpAnyH_take (i := 6) (oi := { dst := some 79, op := .extract (.tmp 73) 0, type := 28, pos := "law.go:164", after := #[{ on := 5, ground := .data }], guard := none }) (v := ?_) rfl (by kernel_rfl) (by kernel_rfl) (by kernel_rfl) (fun _ _ _ h => h) (Or.inl ⟨by rfl, ?_⟩) trivial ?_
      rotate_left 1
      · intro w hw; go_simp; try (with_reducible rfl)
      simp only [Act.put, List.setIfInBounds_toArray, List.set_cons_zero, List.set_cons_succ]
      refine wpAnyH_take (i := 7) (oi := { dst := some 80, op := .extract (.tmp 73) 1, type := 3, pos := "law.go:164", after := #[{ on := 5, ground := .data }, { on := 9, ground := .gcOnly Go.Departure.lateStores }], guard := none }) (v := ?_) rfl (by kernel_rfl) (by kernel_rfl) (by kernel_rfl) (fun _ _ _ h => h) (Or.inl ⟨by rfl, ?_⟩) trivial ?_
      rotate_left 1
      · intro w hw; go_simp; try (with_reducible rfl)
      simp only [Act.put, List.setIfInBounds_toArray, List.set_cons_zero, List.set_cons_succ]
      refine wpAnyH_take (i := 8) (oi := { dst := some 81, op := .fieldAddr 53 (.tmp 2) 2, type := 0, pos := "law.go:164", after := #[{ on := 0, ground := .phase }, { on := 1, ground := .phase }, { on := 2, ground := .phase }, { on := 3, ground := .phase }, { on := 4, ground := .phase }, { on := 5, ground := .phase }, { on := 6, ground := .phase }, { on := 7, ground := .textOnly Go.Departure.lateStores }], guard := none }) (v := ?_) rfl (by kernel_rfl) (by kernel_rfl) (by kernel_rfl) (fun _ _ _ h => h) (Or.inl ⟨by rfl, ?_⟩) trivial ?_
      rotate_left 1
      · intro w hw; go_simp; try (with_reducible rfl)
      simp only [Act.put, List.setIfInBounds_toArray, List.set_cons_zero, List.set_cons_succ]
      refine wpAnyH_ready (rs := [9]) (by kernel_rfl) (by simp) (AllReadyH.cons (o := { dst := none, op := .store 28 (.tmp 81) (.tmp 79), type := 0, pos := "law.go:164", after := #[{ on := 8, ground := .data }, { on := 6, ground := .data }, { on := 4, ground := .chain }, { on := 0, ground := .phase }, { on := 1, ground := .phase }, { on := 2, ground := .phase }, { on := 3, ground := .phase }, { on := 4, ground := .phase }, { on := 5, ground := .phase }, { on := 6, ground := .phase }, { on := 7, ground := .textOnly Go.Departure.lateStores }], guard := none }) rfl (fun K hK => ?_) AllReadyH.nil)
      rw [if_pos (by rfl)]
      refine wp_store_mid 28 (.tmp 81) (.tmp 79) (by rfl) X 2 (cellsD xL' yL' xW' yW' d2) (by rfl) (by rfl) (bench_there H9.out.1) (by kernel_rfl) (cellsD_one _ _ _ _ _) ?_
      generalize hwa : World.setCells _ _ _ _ = wa
      have HA := Lib.hid (show BI w wa X q B bL bW xL' yL' xW' yW' d2 op sp n cap by rw [← hwa]; exact H9.out.2)
      clear hwa
      refine hK.out _ _ trivial (fun hHeld => ?_)
      clear hK K
      try simp only [Act.put]
      refine wpAnyH_take (i := 10) (oi := { dst := some 7, op := .assign (.tmp 80), type := 3, pos := "law.go:164", after := #[{ on := 7, ground := .data }, { on := 9, ground := .chain }, { on := 0, ground := .phase }, { on := 1, ground := .phase }, { on := 2, ground := .phase }, { on := 3, ground := .phase }, { on := 4, ground := .phase }, { on := 5, ground := .phase }, { on := 6, ground := .phase }, { on := 7, ground := .phase }, { on := 8, ground := .phase }, { on := 9, ground := .phase }], guard := none }) (v := ?_) rfl (by kernel_rfl) (by kernel_rfl) (by kernel_rfl) (fun _ _ _ h => h) (Or.inl ⟨by rfl, ?_⟩) trivial ?_
      rotate_left 1
      · intro w hw; go_simp; try (with_reducible rfl)
      simp only [Act.put, List.setIfInBounds_toArray, List.set_cons_zero, List.set_cons_succ]
      refine wpAnyH_done (by kernel_rfl) ?_ _
      go_wp2_with (first
        | (refine wpList_load_row rfl 53 (.tmp 2) rfl X rfl 53 (benchC q B xL' yL' xW' yW' d2 op sp n cap) (0, 0) _ HA.out.x Try.underlying53 rfl (by kernel_rfl) ?_)
        | (refine wpList_store_row rfl 53 (.tmp 4) (.tmp 84) rfl (X + 1) (benchC q B xL' yL' xW' yW' d2 op sp n cap) rfl rfl 53 _ HA.out.y (by kernel_rfl) rfl (benchC_one _ _ _ _ _ _ _ _ _ _ _) ?_)
        | fail)
      refine bodyPost_ret (results_row rfl _ _ (X + 1) 53 (benchC q B xL' yL' xW' yW' d2 op sp n cap) _ rfl (RowAt.put HA.out.y) Try.underlying53 rfl (by kernel_rfl)) rfl ?_
      rw [HRR.out]
      have hH := HA.out
      rw [← HNM.out] at hH ⊢
      exact hH.fin (r := fun v => .tuple #[v, .int .i64 e2]) (HW.out _ hH.b) (fun h0 => .inl ⟨rfl, HP.out h0⟩)
    · go_simp
      go_at_call 94
      refine (HWd.out _).mono ?_
      rintro e w8 ⟨G, cg, rfl, ho8, hb8⟩
      have H8 := Lib.hid ((H7.out.dn 1).new hb8)
      have HG := Lib.hid ho8
      have hcg := own_cap ho8
      have g1 : (10 : Int) ≤ (cg : Int) := by omega
      have g2 : 10 ≤ cg := by omega
      have g3 : ¬ cg = 8 := by omega
      clear ho8 hb8 hcg
      try dsimp only
      refine hK.out _ _ trivial (fun hHeld => ?_)
      clear hK K
      try simp only [Act.put, List.setIfInBounds_toArray, List.set_cons_zero, List.set_cons_succ]
      refine wpAnyH_take (i := 3) (oi := { dst := some 77, op := .slice 24 (.tmp 76) (some (.const (.int .i64 8))) (some (.const (.int .i64 10))) none, type := 24, pos := "law.go:164", after := #[{ on := 2, ground := .data }], guard := none }) (v := ?_) rfl (by kernel_rfl) (by kernel_rfl) (by kernel_rfl) (fun _ _ _ h => h) (Or.inl ⟨by rfl, ?_⟩) trivial ?_
      rotate_left 1
      · intro w hw; go_simp; try (with_reducible rfl)
      simp only [Act.put, List.setIfInBounds_toArray, List.set_cons_zero, List.set_cons_succ]
      refine wpAnyH_ready (rs := [1]) (by kernel_rfl) (by simp) (AllReadyH.cons (o := { dst := some 75, op := .load 28 (.tmp 74), type := 28, pos := "law.go:164", after := #[{ on := 0, ground := .data }], guard := none }) rfl (fun K hK => ?_) AllReadyH.nil)
      rw [if_pos (by rfl)]
      refine wp_load_mid 28 (.tmp 74) (by rfl) X 2 (by rfl) (cellsD bL cL bW cW d).toList _ (bench_range H8.out.x) Try.underlying28 rfl (by kernel_rfl) ?_
      refine hK.out _ _ trivial (fun hHeld => ?_)
      clear hK K
      try simp only [Act.put, List.setIfInBounds_toArray, List.set_cons_zero, List.set_cons_succ]
      refine wpAnyH_ready (rs := [4]) (by kernel_rfl) (by simp) (AllReadyH.cons (o := { dst := some 78, op := .call { callee := .value (.func 95), args := #[.tmp 75, .const (.int .i64 1), .const (.int .i64 8), .tmp 77], argTypes := #[28, 3, 3, 24] }, type := 29, pos := "law.go:164", after := #[{ on := 1, ground := .data }, { on := 3, ground := .data }, { on := 2, ground := .chain }], guard := none }) rfl (fun K hK => ?_) AllReadyH.nil)
      go_simp
      go_at_call 95
      refine (HPr.out _ _ G cg H8.out HG.out).mono ?_
      rintro e w9 hro
      obtain ⟨xL', yL', xW', yW', rfl, hr9, hb9⟩ := H8.out.next hro
      have H9 := Lib.hid (And.intro hr9 hb9)
      clear hr9 hb9 hro
      try dsimp only
      refine hK.out _ _ trivial (fun hHeld => ?_)
      clear hK K
      try simp only [Act.put, List.setIfInBounds_toArray, List.set_cons_zero, List.set_cons_succ]
      refine wpAnyH_take (i := 5) (oi := { dst := some 73, op := .move (.tmp 78), type := 29, pos := "law.go:164", after := #[{ on := 4, ground := .data }], guard := none }) (v := ?_) rfl (by kernel_rfl) (by kernel_rfl) (by kernel_rfl) (fun _ _ _ h => h) (Or.inl ⟨by rfl, ?_⟩) trivial ?_
      rotate_left 1
      · intro w hw; go_simp; try (with_reducible rfl)
      simp only [Act.put, List.setIfInBounds_toArray, List.set_cons_zero, List.set_cons_succ]
      refine wpAnyH_take (i := 6) (oi := { dst := some 79, op := .extract (.tmp 73) 0, type := 28, pos := "law.go:164", after := #[{ on := 5, ground := .data }], guard := none }) (v := ?_) rfl (by kernel_rfl) (by kernel_rfl) (by kernel_rfl) (fun _ _ _ h => h) (Or.inl ⟨by rfl, ?_⟩) trivial ?_
      rotate_left 1
      · intro w hw; go_simp; try (with_reducible rfl)
      simp only [Act.put, List.setIfInBounds_toArray, List.set_cons_zero, List.set_cons_succ]
      refine wpAnyH_take (i := 7) (oi := { dst := some 80, op := .extract (.tmp 73) 1, type := 3, pos := "law.go:164", after := #[{ on := 5, ground := .data }, { on := 9, ground := .gcOnly Go.Departure.lateStores }], guard := none }) (v := ?_) rfl (by kernel_rfl) (by kernel_rfl) (by kernel_rfl) (fun _ _ _ h => h) (Or.inl ⟨by rfl, ?_⟩) trivial ?_
      rotate_left 1
      · intro w hw; go_simp; try (with_reducible rfl)
      simp only [Act.put, List.setIfInBounds_toArray, List.set_cons_zero, List.set_cons_succ]
      refine wpAnyH_take (i := 8) (oi := { dst := some 81, op := .fieldAddr 53 (.tmp 2) 2, type := 0, pos := "law.go:164", after := #[{ on := 0, ground := .phase }, { on := 1, ground := .phase }, { on := 2, ground := .phase }, { on := 3, ground := .phase }, { on := 4, ground := .phase }, { on := 5, ground := .phase }, { on := 6, ground := .phase }, { on := 7, ground := .textOnly Go.Departure.lateStores }], guard := none }) (v := ?_) rfl (by kernel_rfl) (by kernel_rfl) (by kernel_rfl) (fun _ _ _ h => h) (Or.inl ⟨by rfl, ?_⟩) trivial ?_
      rotate_left 1
      · intro w hw; go_simp; try (with_reducible rfl)
      simp only [Act.put, List.setIfInBounds_toArray, List.set_cons_zero, List.set_cons_succ]
      refine wpAnyH_ready (rs := [9]) (by kernel_rfl) (by simp) (AllReadyH.cons (o := { dst := none, op := .store 28 (.tmp 81) (.tmp 79), type := 0, pos := "law.go:164", after := #[{ on := 8, ground := .data }, { on := 6, ground := .data }, { on := 4, ground := .chain }, { on := 0, ground := .phase }, { on := 1, ground := .phase }, { on := 2, ground := .phase }, { on := 3, ground := .phase }, { on := 4, ground := .phase }, { on := 5, ground := .phase }, { on := 6, ground := .phase }, { on := 7, ground := .textOnly Go.Departure.lateStores }], guard := none }) rfl (fun K hK => ?_) AllReadyH.nil)
      rw [if_pos (by rfl)]
      refine wp_store_mid 28 (.tmp 81) (.tmp 79) (by rfl) X 2 (cellsD xL' yL' xW' yW' d2) (by rfl) (by rfl) (bench_there H9.out.1) (by kernel_rfl) (cellsD_one _ _ _ _ _) ?_
      generalize hwa : World.setCells _ _ _ _ = wa
      have HA := Lib.hid (show BI w wa X q B bL bW xL' yL' xW' yW' d2 op sp n cap by rw [← hwa]; exact H9.out.2)
      clear hwa
      refine hK.out _ _ trivial (fun hHeld => ?_)
      clear hK K
      try simp only [Act.put]
      refine wpAnyH_take (i := 10) (oi := { dst := some 7, op := .assign (.tmp 80), type := 3, pos := "law.go:164", after := #[{ on := 7, ground := .data }, { on := 9, ground := .chain }, { on := 0, ground := .phase }, { on := 1, ground := .phase }, { on := 2, ground := .phase }, { on := 3, ground := .phase }, { on := 4, ground := .phase }, { on := 5, ground := .phase }, { on := 6, ground := .phase }, { on := 7, ground := .phase }, { on := 8, ground := .phase }, { on := 9, ground := .phase }], guard := none }) (v := ?_) rfl (by kernel_rfl) (by kernel_rfl) (by kernel_rfl) (fun _ _ _ h => h) (Or.inl ⟨by rfl, ?_⟩) trivial ?_
      rotate_left 1
      · intro w hw; go_simp; try (with_reducible rfl)
      simp only [Act.put, List.setIfInBounds_toArray, List.set_cons_zero, List.set_cons_succ]
      refine wpAnyH_done (by kernel_rfl) ?_ _
      go_wp2_with (first
        | (refine wpList_load_row rfl 53 (.tmp 2) rfl X rfl 53 (benchC q B xL' yL' xW' yW' d2 op sp n cap) (0, 0) _ HA.out.x Try.underlying53 rfl (by kernel_rfl) ?_)
        | (refine wpList_store_row rfl 53 (.tmp 4) (.tmp 84) rfl (X + 1) (benchC q B xL' yL' xW' yW' d2 op sp n cap) rfl rfl 53 _ HA.out.y (by kernel_rfl) rfl (benchC_one _ _ _ _ _ _ _ _ _ _ _) ?_)
        | fail)
      refine bodyPost_ret (results_row rfl _ _ (X + 1) 53 (benchC q B xL' yL' xW' yW' d2 op sp n cap) _ rfl (RowAt.put HA.out.y) Try.underlying53 rfl (by kernel_rfl)) rfl ?_
      rw [HRR.out]
      have hH := HA.out
      rw [← HNM.out] at hH ⊢
      exact hH.fin (r := fun v => .tuple #[v, .int .i64 e2]) (HW.out _ hH.b) (fun h0 => .inl ⟨rfl, HP.out h0⟩)

end Go.Proofs.Ythpagbfabpfngaa
/- What one call of law08 makes of both sides, as plain values: the code's answers are the document's. No statement about the program. -/
namespace Go.Proofs.Ythpagbfabpfngaa

/-- The state of both sides: the device, whether words may be put, what the code and the law count as put. -/
structure Jt where
  d : Dev
  op : Bool
  P : List (BitVec 32)
  X : List (BitVec 32)
/-- What holds between two calls. -/
structure Jt.good (s : Jt) : Prop where
  h4 : s.d.ns = 4 ∧ s.d.nw = 13
  ok : s.d.okE
  kc : keepC s.d 0
  px : s.op = true → s.P = s.X
  pl : s.P.length ≤ 26
  xl : s.X.length ≤ 26
structure Jt.to (s t : Jt) : Prop where
  good : t.good
  ops : t.d.ops ≤ s.d.ops + 41
theorem nn_blankD (d : Dev) : blankD d.nn 0 4 = ((blankD d 0 4).1.nn, (blankD d 0 4).2) := by
  unfold blankD
  rw [nn_program]
  simp only
  split
  · rw [nn_eraseK]
  · rfl
theorem nn_putK (d : Dev) (P M : List (BitVec 32)) : putK d.nn 0 P M = ((putK d 0 P M).1.nn, (putK d 0 P M).2) := nn_progK d _ _ _ _
theorem nn_commitD (d : Dev) (P : List (BitVec 32)) (seq : BitVec 32) : commitD d.nn 0 P seq = ((commitD d 0 P seq).1.nn, (commitD d 0 P seq).2) := by
  have h : commitK d.nn 0 P seq = ((commitK d 0 P seq).1.nn, (commitK d 0 P seq).2) := nn_progK d _ _ _ _
  unfold commitD
  rw [h]
  simp only
  split
  · rw [nn_progK]
  · rfl
theorem nn_confirmR (d : Dev) : confirmR d.nn 0 4 = ((confirmR d 0 4).1.nn, (confirmR d 0 4).2) := by
  unfold confirmR
  rw [nn_progK]
  show (if d.on then (if stOK d 0 4 then (if confH (d.word (0 + 1)) then (d.nn, (80 : Int)) else (if spoiltB d 0 2 (fun k => 8 + k) (wrW (fun _ => conW)) then (d.nn, 80) else _)) else (d.nn, 80)) else (d.nn, 63)) = _
  split
  · split
    · split
      · rfl
      · split <;> rfl
    · rfl
  · rfl
theorem nn_tryR (d : Dev) : tryR d.nn 0 4 = ((tryR d 0 4).1.nn, (tryR d 0 4).2) := by
  unfold tryR
  rw [nn_program]
  show (if d.on then (if stOK d 0 4 then (if confH (d.word (0 + 1)) then (d.nn, (80 : Int)) else (if nxB (d.word (0 + 1)) then _ else (d.nn, 80))) else (d.nn, 80)) else (d.nn, 63)) = _
  split
  · split
    · split
      · rfl
      · split <;> rfl
    · rfl
  · rfl
theorem nn_imageR (d : Dev) : imageR d.nn 0 4 = imageR d 0 4 := rfl
theorem nn_markOK (d : Dev) : markOK d.nn = markOK d := rfl
theorem nn_arm (d : Dev) (n : Int) (x : BitVec 32) : d.nn.arm (max n 0) x = (d.arm n x).nn := rfl
theorem nn_power (d : Dev) : d.nn.power true = (d.power true).nn := rfl
theorem nn_keepC {d : Dev} (h : keepC d 0) : keepC d.nn 0 := h
theorem keptN_good {d d' : Dev} {n : Nat} (h : d.keptN d' n) (ho : d.okE) (hn : d.ops + 41 ≤ 1000000) (h4 : d.ns = 4 ∧ d.nw = 13) (h41 : n ≤ 41) : d'.okE ∧ (d'.ns = 4 ∧ d'.nw = 13) ∧ d'.ops ≤ d.ops + 41 :=
  ⟨h.okE ho (by omega), ⟨h.ns.trans h4.1, h.nw.trans h4.2⟩, by have := h.ops.2; omega⟩

theorem nx_ge {l : Nat → BitVec 32} (h : nxB l = true) : 10 ≤ nxN l := by
  unfold nxB at h
  unfold nxN
  split
  · exact Nat.le_refl _
  · split
    · omega
    · split
      · omega
      · rename_i h1 h2 h3
        rw [show (l 10 == BitVec.allOnes 32) = false from beq_eq_false_iff_ne.2 h1, show (l 11 == BitVec.allOnes 32) = false from beq_eq_false_iff_ne.2 h2, show (l 12 == BitVec.allOnes 32) = false from beq_eq_false_iff_ne.2 h3] at h
        cases h
/-- The begin of both sides. -/
def Jt.begin (s : Jt) : Jt := ⟨(beginR s.d 0 4 s.P).2.1, (beginR s.d 0 4 s.P).2.2.1, (beginR s.d 0 4 s.P).2.2.2, (lbegR s.d.nn s.X).2.2.2⟩
theorem lbegR_nn {d : Dev} (h : d.ns = 4) (X : List (BitVec 32)) : lbegR d.nn X = if d.on then (if wornB d 0 4 then (62, d.nn, false, X) else ((blankD d 0 4).2, (blankD d 0 4).1.nn, decide ((blankD d 0 4).2 = 0), [])) else (63, d.nn, false, X) := by
  unfold lbegR
  rw [show d.nn.ns = 4 from h, nn_blankD]
  rfl
theorem Jt.begin_same {s : Jt} (h : s.good) : lbegR s.d.nn s.X = ((beginR s.d 0 4 s.P).1, s.begin.d.nn, s.begin.op, s.begin.X) := by
  unfold Jt.begin
  rw [lbegR_nn h.h4.1]
  unfold beginR
  split
  · split
    · rfl
    · simp only
      split
      · rename_i he; simp [he]
      · rename_i he; simp [he]
  · rfl
theorem Jt.begin_to (s : Jt) (h : s.good) (hn : s.d.ops + 41 ≤ 1000000) : s.to s.begin := by
  have hk := blankD_kept (base := 0) (many := 4) h.ok (by omega)
  have hg := keptN_good hk h.ok hn h.h4 (by omega)
  unfold Jt.begin
  rw [lbegR_nn h.h4.1]
  unfold beginR
  split
  · split
    · exact ⟨⟨h.h4, h.ok, h.kc, fun e => (by cases e), h.pl, h.xl⟩, by simp only; omega⟩
    · split
      · exact ⟨⟨hg.2.1, hg.1, keepC_blank h.kc, fun _ => rfl, Nat.zero_le _, Nat.zero_le _⟩, hg.2.2⟩
      · exact ⟨⟨hg.2.1, hg.1, keepC_blank h.kc, fun e => (by cases e), h.pl, Nat.zero_le _⟩, hg.2.2⟩
  · exact ⟨⟨h.h4, h.ok, h.kc, fun e => (by cases e), h.pl, h.xl⟩, by simp only; omega⟩
/-- The put of both sides. -/
def Jt.put (s : Jt) (M : List (BitVec 32)) : Jt :=
  if s.op then (if (26 : Int) - s.X.length < M.length then s else ⟨(putK s.d 0 s.P M).1, decide ((putK s.d 0 s.P M).2 = 0), if (putK s.d 0 s.P M).2 = 0 then s.P ++ M else s.P, s.X ++ M⟩) else s
def Jt.putE (s : Jt) (M : List (BitVec 32)) : Int := if s.op then (if (26 : Int) - s.X.length < M.length then 81 else (putK s.d 0 s.P M).2) else 80
theorem Jt.put_same {s : Jt} (h : s.good) (M : List (BitVec 32)) : lputR s.d.nn s.op s.X M = (s.putE M, (s.put M).d.nn, (s.put M).op, (s.put M).X) := by
  unfold lputR Jt.putE Jt.put
  cases hop : s.op with
  | false => simp [hop]
  | true =>
    have hp := h.px hop
    rw [nn_putK, hp]
    simp only [if_true]
    split
    · simp [hop]
    · rfl
theorem Jt.put_to (s : Jt) (h : s.good) (hn : s.d.ops + 41 ≤ 1000000) (M : List (BitVec 32)) (hM : M.length ≤ 40) : s.to (s.put M) := by
  have self : s.to s := ⟨h, by omega⟩
  unfold Jt.put
  cases hop : s.op with
  | false => exact self
  | true =>
    have hp := h.px hop
    simp only [if_true]
    split
    · exact self
    · rename_i hf
      have hk := progK_kept (from_ := 0 + 2) (at_ := fun k => s.P.length + k) (ws := nthW M) (n := M.length) h.ok (by omega) (by have := h.h4.2; omega) (by have := h.h4.2; omega) M.length (Nat.le_refl _)
      have hg := keptN_good hk h.ok hn h.h4 (by omega)
      have hx := h.xl
      have hl : (s.X ++ M).length ≤ 26 := by rw [List.length_append]; omega
      refine ⟨⟨hg.2.1, hg.1, keepC_put h.kc, fun e => ?_, ?_, hl⟩, hg.2.2⟩
      · have e : (putK s.d 0 s.P M).2 = 0 := of_decide_eq_true e
        show (if (putK s.d 0 s.P M).2 = 0 then s.P ++ M else s.P) = s.X ++ M
        rw [if_pos e, hp]
      · show (if (putK s.d 0 s.P M).2 = 0 then s.P ++ M else s.P).length ≤ 26
        split
        · rw [hp]; exact hl
        · exact h.pl
/-- The commit of both sides. -/
def Jt.commit (s : Jt) (q : BitVec 32) : Jt := if s.op = true ∧ 0 < s.X.length then ⟨(commitD s.d 0 s.P q).1, false, s.P, s.X⟩ else s
theorem Jt.commit_to (s : Jt) (h : s.good) (hn : s.d.ops + 41 ≤ 1000000) (q : BitVec 32) : s.to (s.commit q) := by
  unfold Jt.commit
  split
  · have hk6 := progK_kept (from_ := 0 + 1) (at_ := fun k => 0 + k) (ws := wrW (hdW q (BitVec.ofNat 32 s.P.length) (~~~(runW ones s.P)))) (n := 6) h.ok (by omega) (by have := h.h4.2; omega) (by have := h.h4.2; omega) 6 (Nat.le_refl _)
    have h6 : s.d.keptN (commitK s.d 0 s.P q).1 6 := hk6
    have hk : s.d.keptN (commitD s.d 0 s.P q).1 8 := by
      unfold commitD
      split
      · have ho6 := h6.okE h.ok (by omega)
        exact h6.trans (progK_kept (from_ := 0 + 1) (at_ := fun k => 6 + k) (ws := wrW (fun _ => comW)) (n := 2) ho6 (by have := h6.ops.2; omega) (by have := h6.nw; have := h.h4.2; omega) (by have := h6.nw; have := h.h4.2; omega) 2 (Nat.le_refl _))
      · exact h6.mono (by omega)
    have hg := keptN_good hk h.ok hn h.h4 (by omega)
    exact ⟨⟨hg.2.1, hg.1, keepC_commit h.kc (by have := h.h4.2; omega) h6.nw, fun e => (by cases e), h.pl, h.xl⟩, hg.2.2⟩
  · exact ⟨h, by omega⟩
def Jt.confirm (s : Jt) : Jt := ⟨(confirmR s.d 0 4).1, s.op, s.P, s.X⟩
theorem Jt.confirm_to (s : Jt) (h : s.good) (hn : s.d.ops + 41 ≤ 1000000) : s.to s.confirm := by
  have self : s.to ⟨s.d, s.op, s.P, s.X⟩ := ⟨h, by show s.d.ops ≤ _; omega⟩
  unfold Jt.confirm confirmR
  split
  · split
    · split
      · exact self
      · split
        · exact self
        · have hk := progK_kept (from_ := 0 + 1) (at_ := fun k => 8 + k) (ws := wrW (fun _ => conW)) (n := 2) h.ok (by omega) (by have := h.h4.2; omega) (by have := h.h4.2; omega) 2 (Nat.le_refl _)
          have hg := keptN_good hk h.ok hn h.h4 (by omega)
          exact ⟨⟨hg.2.1, hg.1, keepC_confirm h.kc (by have := h.h4.2; omega), h.px, h.pl, h.xl⟩, hg.2.2⟩
    · exact self
  · exact self
def Jt.try_ (s : Jt) : Jt := ⟨(tryR s.d 0 4).1, s.op, s.P, s.X⟩
theorem Jt.try_to (s : Jt) (h : s.good) (hn : s.d.ops + 41 ≤ 1000000) : s.to s.try_ := by
  have self : s.to ⟨s.d, s.op, s.P, s.X⟩ := ⟨h, by show s.d.ops ≤ _; omega⟩
  unfold Jt.try_ tryR
  split
  · split
    · split
      · exact self
      · split
        · rename_i hb
          have hx := nxN_le (s.d.word (0 + 1))
          have hk := program_kept h.ok ((0 + 1 : Nat) : Int) (nxN (s.d.word (0 + 1)) : Nat) 0#32 ⟨by omega, by omega⟩
          have hg := keptN_good hk h.ok hn h.h4 (by omega)
          refine ⟨⟨hg.2.1, hg.1, keepC_program h.kc _ _ _ (fun _ e => ?_) (fun _ e => ?_), h.px, h.pl, h.xl⟩, hg.2.2⟩
          · rw [Int.toNat_natCast] at e; have := nx_ge hb; omega
          · rw [Int.toNat_natCast] at e; have := nx_ge hb; omega
        · exact self
    · exact self
  · exact self
def Jt.armed (s : Jt) (n : Int) (x : BitVec 32) : Jt := ⟨s.d.arm n x, s.op, s.P, s.X⟩
theorem Jt.armed_to (s : Jt) (h : s.good) (n : Int) (x : BitVec 32) (hn : -9223372036854775808 ≤ n ∧ n ≤ 9223372036854775807) : s.to (s.armed n x) :=
  ⟨⟨h.h4, ⟨⟨h.ok.1.1, h.ok.1.2.1, hn⟩, h.ok.2⟩, h.kc, h.px, h.pl, h.xl⟩, by show s.d.ops ≤ _; omega⟩
def Jt.power (s : Jt) : Jt := ⟨s.d.power true, s.op, s.P, s.X⟩
theorem Jt.power_to (s : Jt) (h : s.good) : s.to s.power := ⟨⟨h.h4, h.ok, h.kc, h.px, h.pl, h.xl⟩, by show s.d.ops ≤ _; omega⟩
/-- A call. -/
structure Op8 where
  kind : Int
  n : Int
  s : BitVec 32
  W : List (BitVec 32)
/-- What a call makes of both sides. -/
def Jt.one (s : Jt) (o : Op8) : Jt :=
  if o.kind % 8 = 0 then s.begin else if o.kind % 8 = 3 then s.commit (BitVec.ofInt 32 o.n) else if o.kind % 8 = 4 then s.confirm else if o.kind % 8 = 5 then s.try_ else if o.kind % 8 = 6 then s.armed o.n o.s else if o.kind % 8 = 7 then s.power else s.put o.W
structure Op8.fit (o : Op8) : Prop where
  n : -9223372036854775808 ≤ o.n ∧ o.n ≤ 9223372036854775807
  k : -9223372036854775808 ≤ o.kind ∧ o.kind ≤ 9223372036854775807
  w : o.W.length ≤ 40
theorem Jt.one_to {s : Jt} (h : s.good) (hn : s.d.ops + 41 ≤ 1000000) (o : Op8) (ho : o.fit) : s.to (s.one o) := by
  unfold Jt.one
  repeat' split
  · exact s.begin_to h hn
  · exact s.commit_to h hn _
  · exact s.confirm_to h hn
  · exact s.try_to h hn
  · exact s.armed_to h _ _ ho.n
  · exact s.power_to h
  · exact s.put_to h hn _ ho.w
end Go.Proofs.Ythpagbfabpfngaa
