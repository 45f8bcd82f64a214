/- Several texts in one: CH. -/
import Derived.Test.YthpagbfabpfngaaPk24
/- The contract of law08's commit. -/
namespace Go.Proofs.Ythpagbfabpfngaa
open Go.RowKit

theorem sum_of_bytes {w : World} {base : Nat} {v : Value} (l : List (BitVec 32)) (hl : l.length ≤ 500) (h : w.ownsRow base 5 1 v (4 * l.length) (rowY (bytesOf l))) :
    Calls Try.prog 64 #[v] w fun e w' => e = .returned (.int .u32 (w32 (crcW l))) ∧ w = w' := by
  have hlen : (bytesOf l).length = 4 * l.length := by have := h.1; unfold rowY at this; rw [List.length_map] at this; omega
  obtain ⟨sp, cap, rfl⟩ := own_val h
  rw [← crcB_bytes, ← hlen]
  rcases Nat.eq_zero_or_pos l.length with h0 | h0
  · exact refsum_any 0 0 cap sp (bytesOf l) w (by omega) (fun h1 => by omega) (fun k hk => by omega)
  · obtain ⟨b, cap', hv, h1, h2⟩ := own_some h (by omega)
    injection hv with e1 e2 e3
    refine refsum_any b 0 cap sp (bytesOf l) w (by omega) (fun _ => e1) (fun k hk => ?_)
    subst e1
    have := h.cellAt k (by omega)
    rw [Nat.zero_add, this]
    unfold rowY nthB
    simp [hk]
theorem ws_own {w : World} {base g cap n m : Nat} {H : Nat → BitVec 32} (h : w.ownsRow base 26 1 (.slice (some ⟨g, 0, none⟩) n cap) n (rowH H n)) (hm : m ≤ n) : Ws w (some ⟨g, 0, none⟩) g 0 m H := by
  refine ⟨fun h0 => ?_, fun k hk => ?_⟩
  · obtain ⟨b, c, hv, _, h2⟩ := own_some h (by omega)
    injection hv with e1
    injection e1 with e1
    injection e1 with e1
    subst e1
    exact ⟨rfl, h2⟩
  · have := h.cellAt k (by omega)
    rw [Nat.zero_add, this]
    unfold rowH
    simp [show k < n by omega]
/-- What commit makes of a bench. -/
def lcommitR (d : Dev) (op : Bool) (L : List (BitVec 32)) (seq : BitVec 32) : Int × Dev × Bool × List (BitVec 32) :=
  if op = true ∧ 0 < L.length then ((commitD d 0 L seq).2, (commitD d 0 L seq).1, false, L) else (80, d, op, L)
set_option maxHeartbeats 8000000 in
set_option maxRecDepth 100000 in
theorem lcommit_no {w : World} {q B bL bW : Nat} {d : Dev} (h : RefIn w bL bW d) (cL cW : Nat) (hcL : d.ns * d.nw ≤ cL) (op : Bool) {sp : Option Addr} {bp cap : Nat} (L : List (BitVec 32)) (seq : BitVec 32) (hW : Ws w sp bp 0 L.length (nthW L))
    (hL : L.length ≤ 26) (hno : ¬ (op = true ∧ 0 < L.length)) :
    Calls Try.prog 55 #[.agg (benchC q B bL cL bW cW d op sp L.length cap), .int .u32 (w32 seq)] w fun e w' => BenchOut w w' q B bL bW bp d op L (fun v => .tuple #[v, .int .i64 80]) e := by
  obtain ⟨X, hX⟩ : ∃ X, X = w.heap.size := ⟨_, rfl⟩
  obtain ⟨w1, hw1⟩ : ∃ w1, (w.alloc (.cells (benchC q B bL cL bW cW d op sp L.length cap) 53)).alloc (.cells #[.pointer none, .pointer none, .int .i64 0, .int .i64 0, .int .i64 0, .slice none 0 0, .slice none 0 0, .bool false, .bool false, .int .i64 0, .int .u32 0, .int .i64 0, .bool false, .slice none 0 0] 53) = w1 := ⟨_, rfl⟩
  have H1 := Lib.hid (show BI w w1 X q B bL bW bL cL bW cW d op sp L.length cap by rw [← hw1, hX]; exact BI.start h hcL)
  have HW := Lib.hid (show ∀ wx, Below X w wx → Ws wx sp bp 0 L.length (nthW L) from fun wx hb => hW.new (by rw [← hX]; exact hb))
  have HP := Lib.hid (show ∀ h0 : 0 < L.length, bp < X from fun h0 => by rw [hX]; exact (hW.sp h0).2)
  obtain ⟨c0, hc0⟩ : ∃ c0, benchC q B bL cL bW cW d op sp L.length cap = c0 := ⟨_, rfl⟩
  rw [hc0] at hw1 ⊢
  have c12 : w1.cell? ⟨X, 12, none⟩ = some (.bool op) := H1.out.x.cell 12
  have c13 : w1.cell? ⟨X, 13, none⟩ = some (.slice sp L.length cap) := H1.out.x.cell 13
  obtain ⟨n, hLn⟩ : ∃ n, L.length = n := ⟨_, rfl⟩
  have HNM := Lib.hid hLn
  rw [hLn] at hL c13 H1 hno
  clear hc0 h hcL hW hLn
  cases op with
  | false =>
    clear c13 hno
    go_enter Try.func55, Try.ntmps55
    go_upto_region 1 with fail
    rw [← hX]
    clear hw1 hX
    go_wp2_with (first
      | (refine wpList_load_row rfl 53 (.tmp 2) rfl X rfl 53 (benchC q B bL cL bW cW d false sp n cap) (0, 0) _ H1.out.x Try.underlying53 rfl (by kernel_rfl) ?_)
      | (refine wpList_store_row rfl 53 (.tmp 4) (.tmp 17) rfl (X + 1) (benchC q B bL cL bW cW d false sp n cap) rfl rfl 53 _ H1.out.y (by kernel_rfl) rfl (benchC_one _ _ _ _ _ _ _ _ _ _ _) ?_)
      | fail)
    refine bodyPost_ret (results_row rfl _ _ (X + 1) 53 (benchC q B bL cL bW cW d false sp n cap) _ rfl (RowAt.put H1.out.y) Try.underlying53 rfl (by kernel_rfl)) rfl ?_
    have hH := H1.out
    rw [← HNM.out] at hH ⊢
    exact hH.fin (r := fun v => .tuple #[v, .int .i64 80]) (HW.out _ hH.b) (fun h0 => .inl ⟨rfl, HP.out h0⟩)
  | true =>
    obtain rfl : n = 0 := by
      rcases Nat.eq_zero_or_pos n with h | h
      · exact h
      · exact absurd ⟨rfl, h⟩ hno
    clear hno hL
    go_enter Try.func55, Try.ntmps55
    go_upto_region 1 with fail
    rw [← hX]
    clear hw1 hX
    go_wp2_with (first
      | (refine wpList_load_row rfl 53 (.tmp 2) rfl X rfl 53 (benchC q B bL cL bW cW d true sp 0 cap) (0, 0) _ H1.out.x Try.underlying53 rfl (by kernel_rfl) ?_)
      | (refine wpList_store_row rfl 53 (.tmp 4) (.tmp 17) rfl (X + 1) (benchC q B bL cL bW cW d true sp 0 cap) rfl rfl 53 _ H1.out.y (by kernel_rfl) rfl (benchC_one _ _ _ _ _ _ _ _ _ _ _) ?_)
      | fail)
    refine bodyPost_ret (results_row rfl _ _ (X + 1) 53 (benchC q B bL cL bW cW d true sp 0 cap) _ rfl (RowAt.put H1.out.y) Try.underlying53 rfl (by kernel_rfl)) rfl ?_
    have hH := H1.out
    rw [← HNM.out] at hH ⊢
    exact hH.fin (r := fun v => .tuple #[v, .int .i64 80]) (HW.out _ hH.b) (fun h0 => .inl ⟨rfl, HP.out h0⟩)
set_option maxHeartbeats 8000000 in
set_option maxRecDepth 100000 in
theorem lcommit_go {w : World} {q B bL bW : Nat} {d : Dev} (h : RefIn w bL bW d) (ho : d.okE) (cL cW : Nat) (hcL : d.ns * d.nw ≤ cL) {sp : Option Addr} {bp cap : Nat} (L : List (BitVec 32)) (seq : BitVec 32) (hn : d.ops + 8 ≤ 1000000) (hW : Ws w sp bp 0 L.length (nthW L))
    (hL : 0 < L.length ∧ L.length ≤ 26) :
    Calls Try.prog 55 #[.agg (benchC q B bL cL bW cW d true sp L.length cap), .int .u32 (w32 seq)] w fun e w' => BenchOut w w' q B bL bW bp (commitD d 0 L seq).1 false L (fun v => .tuple #[v, .int .i64 (commitD d 0 L seq).2]) e := by
  obtain ⟨X, hX⟩ : ∃ X, X = w.heap.size := ⟨_, rfl⟩
  obtain ⟨w1, hw1⟩ : ∃ w1, (w.alloc (.cells (benchC q B bL cL bW cW d true sp L.length cap) 53)).alloc (.cells #[.pointer none, .pointer none, .int .i64 0, .int .i64 0, .int .i64 0, .slice none 0 0, .slice none 0 0, .bool false, .bool false, .int .i64 0, .int .u32 0, .int .i64 0, .bool false, .slice none 0 0] 53) = w1 := ⟨_, rfl⟩
  have H1 := Lib.hid (show BI w w1 X q B bL bW bL cL bW cW d true sp L.length cap by rw [← hw1, hX]; exact BI.start h hcL)
  have HW := Lib.hid (show ∀ wx, Below X w wx → Ws wx sp bp 0 L.length (nthW L) from fun wx hb => hW.new (by rw [← hX]; exact hb))
  have HP := Lib.hid (show ∀ h0 : 0 < L.length, bp < X from fun h0 => by rw [hX]; exact (hW.sp h0).2)
  have HO := Lib.hid (And.intro ho (And.intro hn (And.intro h.zn hL)))
  obtain ⟨c0, hc0⟩ : ∃ c0, benchC q B bL cL bW cW d true sp L.length cap = c0 := ⟨_, rfl⟩
  rw [hc0] at hw1 ⊢
  have c12 : w1.cell? ⟨X, 12, none⟩ = some (.bool true) := H1.out.x.cell 12
  have f12 : w1.frozen? ⟨X, 12, none⟩ = false := H1.out.x.fr 12
  have c13 : w1.cell? ⟨X, 13, none⟩ = some (.slice sp L.length cap) := H1.out.x.cell 13
  have HBy := Lib.hid (show ∀ wx, Below X w wx → Calls Try.prog 65 #[.slice sp L.length cap] wx fun e w' => ∃ v, e = .returned v ∧ w'.ownsRow wx.heap.size 5 1 v (4 * L.length) (rowY (bytesOf L)) ∧ Below wx.heap.size wx w' from fun wx hx => by
    have hx2 := HW.out _ hx
    exact refbytes_any bp 0 cap sp L wx (by omega) (fun h0 => hx2.sp h0) (fun k hk => hx2.cell k hk))
  obtain ⟨n, hLn⟩ : ∃ n, L.length = n := ⟨_, rfl⟩
  have HNM := Lib.hid hLn
  have HSm := Lib.hid (show ∀ (wx : World) (b : Nat) (v : Value), wx.ownsRow b 5 1 v (4 * n) (rowY (bytesOf L)) → Calls Try.prog 64 #[v] wx fun e w' => e = .returned (.int .u32 (w32 (crcW L))) ∧ wx = w' from fun wx b v hv => sum_of_bytes L (by omega) (by rw [hLn]; exact hv))
  have e1 : w32 (BitVec.ofNat 32 n) = (n : Int) := by unfold w32; rw [BitVec.toNat_ofNat, Nat.mod_eq_of_lt (by omega)]
  have HWd := Lib.hid (show ∀ wx, Calls Try.prog 94 #[.int .u32 (w32 seq), .int .u32 (n : Int), .int .u32 (w32 (crcW L)), .bool true, .bool false] wx fun e w' =>
    ∃ g cap, e = .returned (.slice (some ⟨g, 0, none⟩) 13 cap) ∧ w'.ownsRow wx.heap.size 26 1 (.slice (some ⟨g, 0, none⟩) 13 cap) 13 (rowH (wdC (wd0 seq (BitVec.ofNat 32 n) (crcW L)) true) 13) ∧ Below wx.heap.size wx w' from fun wx => by
      have := hwords_any seq (BitVec.ofNat 32 n) (crcW L) true false wx
      rw [e1] at this
      exact this)
  rw [hLn] at hL c13 H1 HBy
  have f1 : IntKind.u32.wrap (n : Int) = (n : Int) := by rw [IntKind.wrap_u32]; omega
  have g1 : ¬ n = 0 := by omega
  clear hc0 h ho hcL hn hW hLn e1
  go_enter Try.func55, Try.ntmps55
  go_upto_region 1 with fail
  rw [← hX]
  clear hw1 hX
  go_upto_region 4 with fail
  generalize hw2 : World.setCell _ _ _ = w2
  have H2 := Lib.hid (show BI w w2 X q B bL bW bL cL bW cW d false sp n cap by rw [← hw2]; exact H1.out.setOp false)
  clear hw2 c12 f12 c13 H1
  have c13 : w2.cell? ⟨X, 13, none⟩ = some (.slice sp n cap) := H2.out.x.cell 13
  refine wp_region_held_drew (S := fun w' => w'.cell? ⟨X, 13, none⟩ = some (.slice sp n cap)) (by kernel_rfl) c13 (fun hS => ?_)
  refine wpAnyH_take (i := 0) (oi := { dst := some 19, op := .move (.tmp 1), type := 26, pos := "law.go:139", after := #[], guard := none }) (v := ?_) rfl (by kernel_rfl) (by kernel_rfl) (by kernel_rfl) (fun _ _ _ h => h) (Or.inl ⟨by rfl, ?_⟩) hS ?_
  rotate_left 1
  · intro w hw; obtain s0 := hw; go_simp; try (with_reducible rfl)
  simp only [Act.put, List.setIfInBounds_toArray, List.set_cons_zero, List.set_cons_succ]
  refine wpAnyH_take (i := 1) (oi := { dst := some 20, op := .fieldAddr 53 (.tmp 2) 4, type := 0, pos := "law.go:139", after := #[], guard := none }) (v := ?_) rfl (by kernel_rfl) (by kernel_rfl) (by kernel_rfl) (fun _ _ _ h => h) (Or.inl ⟨by rfl, ?_⟩) hS ?_
  rotate_left 1
  · intro w hw; obtain s0 := hw; go_simp; try (with_reducible rfl)
  simp only [Act.put, List.setIfInBounds_toArray, List.set_cons_zero, List.set_cons_succ]
  refine wpAnyH_take (i := 2) (oi := { dst := some 21, op := .load 24 (.tmp 20), type := 24, pos := "law.go:139", after := #[{ on := 1, ground := .data }], guard := none }) (v := ?_) rfl (by kernel_rfl) (by kernel_rfl) (by kernel_rfl) (fun _ _ _ h => h) (Or.inl ⟨by rfl, ?_⟩) hS ?_
  rotate_left 1
  · intro w hw; obtain s0 := hw; go_simp; try (with_reducible rfl)
  simp only [Act.put, List.setIfInBounds_toArray, List.set_cons_zero, List.set_cons_succ]
  refine wpAnyH_take (i := 3) (oi := { dst := some 22, op := .call { callee := .builtin .len, args := #[.tmp 21], argTypes := #[24] }, type := 3, pos := "law.go:139", after := #[{ on := 2, ground := .data }], guard := none }) (v := ?_) rfl (by kernel_rfl) (by kernel_rfl) (by kernel_rfl) (fun _ _ _ h => h) (Or.inl ⟨by rfl, ?_⟩) hS ?_
  rotate_left 1
  · intro w hw; obtain s0 := hw; go_simp; try (with_reducible rfl)
  simp only [Act.put, List.setIfInBounds_toArray, List.set_cons_zero, List.set_cons_succ]
  refine wpAnyH_take (i := 4) (oi := { dst := some 23, op := .convert 3 26 (.tmp 22), type := 26, pos := "law.go:139", after := #[{ on := 3, ground := .data }], guard := none }) (v := ?_) rfl (by kernel_rfl) (by kernel_rfl) (by kernel_rfl) (fun _ _ _ h => h) (Or.inl ⟨by rfl, ?_⟩) hS ?_
  rotate_left 1
  · intro w hw; obtain s0 := hw; go_simp; try (with_reducible rfl)
  simp only [Act.put, List.setIfInBounds_toArray, List.set_cons_zero, List.set_cons_succ]
  refine wpAnyH_take (i := 5) (oi := { dst := some 24, op := .fieldAddr 53 (.tmp 2) 4, type := 0, pos := "law.go:139", after := #[], guard := none }) (v := ?_) rfl (by kernel_rfl) (by kernel_rfl) (by kernel_rfl) (fun _ _ _ h => h) (Or.inl ⟨by rfl, ?_⟩) hS ?_
  rotate_left 1
  · intro w hw; obtain s0 := hw; go_simp; try (with_reducible rfl)
  simp only [Act.put, List.setIfInBounds_toArray, List.set_cons_zero, List.set_cons_succ]
  refine wpAnyH_take (i := 6) (oi := { dst := some 25, op := .load 24 (.tmp 24), type := 24, pos := "law.go:139", after := #[{ on := 5, ground := .data }], guard := none }) (v := ?_) rfl (by kernel_rfl) (by kernel_rfl) (by kernel_rfl) (fun _ _ _ h => h) (Or.inl ⟨by rfl, ?_⟩) hS ?_
  rotate_left 1
  · intro w hw; obtain s0 := hw; go_simp; try (with_reducible rfl)
  simp only [Act.put, List.setIfInBounds_toArray, List.set_cons_zero, List.set_cons_succ]
  refine wpAnyH_ready (rs := [7]) (by kernel_rfl) (by simp) (AllReadyH.cons (o := { dst := some 26, op := .call { callee := .value (.func 65), args := #[.tmp 25], argTypes := #[24] }, type := 123, pos := "law.go:139", after := #[{ on := 6, ground := .data }], guard := none }) rfl (fun K hK => ?_) AllReadyH.nil)
  go_simp
  go_at_call 65
  refine (HBy.out _ (H2.out.dn 1).b).mono ?_
  rintro e w4 ⟨v, rfl, ho4, hb4⟩
  have H4 := Lib.hid (And.intro ho4 ((H2.out.dn 1).new hb4))
  have s4 : w4.cell? ⟨X, 13, none⟩ = some (.slice sp n cap) := H4.out.2.x.cell 13
  clear ho4 hb4
  try dsimp only
  refine hK.out _ _ s4 (fun hHeld => ?_)
  clear hK K
  try simp only [Act.put, List.setIfInBounds_toArray, List.set_cons_zero, List.set_cons_succ]
  refine wpAnyH_ready (rs := [8]) (by kernel_rfl) (by simp) (AllReadyH.cons (o := { dst := some 27, op := .call { callee := .value (.func 64), args := #[.tmp 26], argTypes := #[123] }, type := 26, pos := "law.go:139", after := #[{ on := 7, ground := .data }, { on := 7, ground := .chain }], guard := none }) rfl (fun K hK => ?_) AllReadyH.nil)
  go_simp
  go_at_call 64
  refine (HSm.out _ _ _ H4.out.1).mono ?_
  rintro e w5 ⟨rfl, rfl⟩
  try dsimp only
  refine hK.out _ _ s4 (fun hHeld => ?_)
  clear hK K
  try simp only [Act.put, List.setIfInBounds_toArray, List.set_cons_zero, List.set_cons_succ]
  refine wpAnyH_ready (rs := [9]) (by kernel_rfl) (by simp) (AllReadyH.cons (o := { dst := some 28, op := .call { callee := .value (.func 94), args := #[.tmp 19, .tmp 23, .tmp 27, .const (.bool true), .const (.bool false)], argTypes := #[26, 26, 26, 4, 4] }, type := 24, pos := "law.go:139", after := #[{ on := 0, ground := .data }, { on := 4, ground := .data }, { on := 8, ground := .data }, { on := 8, ground := .chain }], guard := none }) rfl (fun K hK => ?_) AllReadyH.nil)
  go_simp
  go_at_call 94
  refine (HWd.out _).mono ?_
  rintro e w6 ⟨G, cg, rfl, ho6, hb6⟩
  have H6 := Lib.hid (And.intro ho6 (And.intro (H4.out.2.new hb6) (own_cap ho6)))
  have s6 : w6.cell? ⟨X, 13, none⟩ = some (.slice sp n cap) := H6.out.2.1.x.cell 13
  clear ho6 hb6
  try dsimp only
  refine hK.out _ _ s6 (fun hHeld => ?_)
  clear hK K
  try simp only [Act.put, List.setIfInBounds_toArray, List.set_cons_zero, List.set_cons_succ]
  refine wpAnyH_take (i := 10) (oi := { dst := some 6, op := .assign (.tmp 28), type := 24, pos := "law.go:139", after := #[{ on := 9, ground := .data }, { on := 9, ground := .chain }, { on := 0, ground := .phase }, { on := 1, ground := .phase }, { on := 2, ground := .phase }, { on := 3, ground := .phase }, { on := 4, ground := .phase }, { on := 5, ground := .phase }, { on := 6, ground := .phase }, { on := 7, ground := .phase }, { on := 8, ground := .phase }, { on := 9, ground := .phase }], guard := none }) (v := ?_) rfl (by kernel_rfl) (by kernel_rfl) (by kernel_rfl) (fun _ _ _ h => h) (Or.inl ⟨by rfl, ?_⟩) s6 ?_
  rotate_left 1
  · intro w hw; obtain s0 := hw; go_simp; try (with_reducible rfl)
  simp only [Act.put, List.setIfInBounds_toArray, List.set_cons_zero, List.set_cons_succ]
  refine wpAnyH_done (by kernel_rfl) ?_ _

  clear H4 s4 s6 HBy HSm HWd H2 c13 hS
  have HPr := Lib.hid (show ∀ nq, Calls Try.prog 95 #[.agg (cellsD bL cL bW cW d), .int .i64 1, .int .i64 0, .slice (some ⟨G, 0, none⟩) 8 cg] (w6.drewN nq) fun e w' => RefOut (w6.drewN nq) w' bL bW (commitD d 0 L seq).1 (fun v => .tuple #[v, .int .i64 (commitD d 0 L seq).2]) e from fun nq => by
    have := lprogram_any (cap := cg) (H6.out.2.1.dn nq).ref HO.out.1 cL cW 1 0 H6.out.2.1.cp (by omega) (by omega) (wdC (wd0 seq (BitVec.ofNat 32 n) (crcW L)) true) (n := 8) (by have := HO.out.2.1; omega) (by omega) ((ws_own H6.out.1 (by omega)).new (below_dn (Below.refl _ _) nq))
    rw [show progK d 1 (fun k => 0 + k) (wdC (wd0 seq (BitVec.ofNat 32 n) (crcW L)) true) 8 = commitD d 0 L seq by rw [← HNM.out]; exact commit8 (base := 0) L seq HO.out.1 (by have := HO.out.2.1; omega) (by have := HO.out.2.2.1; omega) (by have := HO.out.2.2.1; omega)] at this
    exact this)
  obtain ⟨⟨d2, e2⟩, hp⟩ : ∃ p, commitD d 0 L seq = p := ⟨_, rfl⟩
  rw [hp] at HPr
  simp only at HPr
  have HRR := Lib.hid hp
  have HNX := Lib.hid (fun (nq : Nat) (w5 : World) (e : Ending) (h : RefOut (w6.drewN nq) w5 bL bW d2 (fun v => .tuple #[v, .int .i64 e2]) e) => (H6.out.2.1.dn nq).next h)
  have hB := H6.out.2.1
  have c2 : w6.cell? ⟨X, 2, none⟩ = some (.int .i64 d.ns) := hB.x.cell 2
  have c3 : w6.cell? ⟨X, 3, none⟩ = some (.int .i64 d.nw) := hB.x.cell 3
  have c4 : w6.cell? ⟨X, 4, none⟩ = some (.int .i64 d.limit) := hB.x.cell 4
  have c5 : w6.cell? ⟨X, 5, none⟩ = some (.slice (some ⟨bL, 0, none⟩) (d.ns * d.nw : Nat) cL) := hB.x.cell 5
  have c6 : w6.cell? ⟨X, 6, none⟩ = some (.slice (some ⟨bW, 0, none⟩) d.ns cW) := hB.x.cell 6
  have c7 : w6.cell? ⟨X, 7, none⟩ = some (.bool (!d.on)) := hB.x.cell 7
  have c8 : w6.cell? ⟨X, 8, none⟩ = some (.bool d.armed) := hB.x.cell 8
  have c9 : w6.cell? ⟨X, 9, none⟩ = some (.int .i64 d.after) := hB.x.cell 9
  have c10 : w6.cell? ⟨X, 10, none⟩ = some (.int .u32 (w32 d.seed)) := hB.x.cell 10
  have c11 : w6.cell? ⟨X, 11, none⟩ = some (.int .i64 d.ops) := hB.x.cell 11
  have g2 : (8 : Int) ≤ (cg : Int) := by have := H6.out.2.2; omega
  have g3 : 8 ≤ cg := by have := H6.out.2.2; omega
  have g4 : ¬ cg = 0 := by omega
  clear hB hp f1
  go_upto_region 6 with fail
  refine wp_region_headt (C := fun w' => ∃ n, w' = w6.drewN n) _ 4 7 [1, 3] rfl rfl (by kernel_rfl) (by kernel_rfl) (by kernel_rfl) (by kernel_rfl) (by kernel_rfl) (by kernel_rfl) ⟨1, rfl⟩ ?_
  simp only [List.take_succ_cons, List.take_zero]
  repeat (quiet_step (fail))
  refine wpQuiet_nil ?_
  intro _ hw1
  obtain ⟨nq, hw2⟩ := hw1
  subst hw2
  refine wpAny_ready (rs := [4]) (by kernel_rfl) (by simp) (AllReady.cons (o := { dst := some 34, op := .call { callee := .value (.func 95), args := #[.tmp 31, .const (.int .i64 1), .const (.int .i64 0), .tmp 33], argTypes := #[28, 3, 3, 24] }, type := 29, pos := "law.go:141", after := #[{ on := 1, ground := .data }, { on := 3, ground := .data }], guard := none }) rfl (fun K hK => ?_) AllReady.nil)
  go_simp
  go_at_call 95
  refine (HPr.out nq).mono ?_
  rintro e w5 hro
  obtain ⟨xL', yL', xW', yW', rfl, hr5, hp5⟩ := HNX.out nq w5 e hro
  have H5 := Lib.hid (And.intro hr5 hp5)
  clear hr5 hp5 hro
  try dsimp only
  refine hK _ _ ?_
  clear hK K
  try simp only [List.setIfInBounds_toArray]
  refine wpAny_ready (rs := [5]) (by kernel_rfl) (by simp) (AllReady.cons (o := { dst := some 29, op := .move (.tmp 34), type := 29, pos := "law.go:141", after := #[{ on := 4, ground := .data }], guard := none }) rfl (fun K hK => ?_) AllReady.nil)
  go_simp
  refine hK _ _ ?_
  clear hK K
  try simp only [List.setIfInBounds_toArray]
  refine wpAny_ready (rs := [6, 7]) (by kernel_rfl) (by simp) (AllReady.cons (o := { dst := some 35, op := .extract (.tmp 29) 0, type := 28, pos := "law.go:141", after := #[{ on := 5, ground := .data }], guard := none }) rfl (fun K hK => ?_) (AllReady.cons (o := { dst := some 36, op := .extract (.tmp 29) 1, type := 3, pos := "law.go:141", after := #[{ on := 5, ground := .data }, { on := 9, ground := .gcOnly Go.Departure.lateStores }], guard := none }) rfl (fun K hK => ?_) AllReady.nil))
  · go_simp
    refine hK _ _ ?_
    clear hK K
    try simp only [List.setIfInBounds_toArray]
    refine wpAny_ready (rs := [7, 8]) (by kernel_rfl) (by simp) (AllReady.cons (o := { dst := some 36, op := .extract (.tmp 29) 1, type := 3, pos := "law.go:141", after := #[{ on := 5, ground := .data }, { on := 9, ground := .gcOnly Go.Departure.lateStores }], guard := none }) rfl (fun K hK => ?_) (AllReady.cons (o := { dst := some 37, op := .fieldAddr 53 (.tmp 2) 2, type := 0, pos := "law.go:141", after := #[{ on := 0, ground := .phase }, { on := 1, ground := .phase }, { on := 2, ground := .phase }, { on := 3, ground := .phase }, { on := 4, ground := .phase }, { on := 5, ground := .phase }, { on := 6, ground := .phase }, { on := 7, ground := .textOnly Go.Departure.lateStores }], guard := none }) rfl (fun K hK => ?_) AllReady.nil))
    · go_simp
      refine hK _ _ ?_
      clear hK K
      try simp only [List.setIfInBounds_toArray]
      refine wpAny_ready (rs := [8]) (by kernel_rfl) (by simp) (AllReady.cons (o := { dst := some 37, op := .fieldAddr 53 (.tmp 2) 2, type := 0, pos := "law.go:141", after := #[{ on := 0, ground := .phase }, { on := 1, ground := .phase }, { on := 2, ground := .phase }, { on := 3, ground := .phase }, { on := 4, ground := .phase }, { on := 5, ground := .phase }, { on := 6, ground := .phase }, { on := 7, ground := .textOnly Go.Departure.lateStores }], guard := none }) rfl (fun K hK => ?_) AllReady.nil)
      go_simp
      refine hK _ _ ?_
      clear hK K
      try simp only [List.setIfInBounds_toArray]
      refine wpAny_ready (rs := [9]) (by kernel_rfl) (by simp) (AllReady.cons (o := { dst := none, op := .store 28 (.tmp 37) (.tmp 35), type := 0, pos := "law.go:141", after := #[{ on := 8, ground := .data }, { on := 6, ground := .data }, { on := 4, ground := .chain }, { on := 0, ground := .phase }, { on := 1, ground := .phase }, { on := 2, ground := .phase }, { on := 3, ground := .phase }, { on := 4, ground := .phase }, { on := 5, ground := .phase }, { on := 6, ground := .phase }, { on := 7, ground := .textOnly Go.Departure.lateStores }], guard := none }) rfl (fun K hK => ?_) AllReady.nil)
      rw [if_pos (by rfl)]
      refine wp_store_mid 28 (.tmp 37) (.tmp 35) (by rfl) X 2 (cellsD xL' yL' xW' yW' d2) (by rfl) (by rfl) (bench_there H5.out.1) (by kernel_rfl) (cellsD_one _ _ _ _ _) ?_
      generalize hw7 : World.setCells _ _ _ _ = w7
      have H7 := Lib.hid (show BI w w7 X q B bL bW xL' yL' xW' yW' d2 false sp n cap by rw [← hw7]; exact H5.out.2)
      clear hw7
      refine hK _ _ ?_
      clear hK K
      try simp only [Act.put, List.setIfInBounds_toArray]
      refine wpAny_ready (rs := [10]) (by kernel_rfl) (by simp) (AllReady.cons (o := { dst := some 7, op := .assign (.tmp 36), type := 3, pos := "law.go:141", after := #[{ on := 7, ground := .data }, { on := 9, ground := .chain }, { on := 0, ground := .phase }, { on := 1, ground := .phase }, { on := 2, ground := .phase }, { on := 3, ground := .phase }, { on := 4, ground := .phase }, { on := 5, ground := .phase }, { on := 6, ground := .phase }, { on := 7, ground := .phase }, { on := 8, ground := .phase }, { on := 9, ground := .phase }], guard := none }) rfl (fun K hK => ?_) AllReady.nil)
      go_simp
      refine hK _ _ ?_
      clear hK K
      try simp only [List.setIfInBounds_toArray]
      refine wpAny_done (by kernel_rfl) ?_ _
      clear c2 c3 c4 c5 c6 c7 c8 c9 c10 c11
      go_wp2_with (first
        | (refine wpList_load_row rfl 53 (.tmp 2) rfl X rfl 53 (benchC q B xL' yL' xW' yW' d2 false sp n cap) (0, 0) _ H7.out.x Try.underlying53 rfl (by kernel_rfl) ?_)
        | (refine wpList_store_row rfl 53 (.tmp 4) (.tmp 38) rfl (X + 1) (benchC q B xL' yL' xW' yW' d2 false sp n cap) rfl rfl 53 _ H7.out.y (by kernel_rfl) rfl (benchC_one _ _ _ _ _ _ _ _ _ _ _) ?_)
        | fail)
      refine bodyPost_ret (results_row rfl _ _ (X + 1) 53 (benchC q B xL' yL' xW' yW' d2 false sp n cap) _ rfl (RowAt.put H7.out.y) Try.underlying53 rfl (by kernel_rfl)) rfl ?_
      rw [HRR.out]
      have hH := H7.out
      rw [← HNM.out] at hH ⊢
      exact hH.fin (r := fun v => .tuple #[v, .int .i64 e2]) (HW.out _ hH.b) (fun h0 => .inl ⟨rfl, HP.out h0⟩)
    · go_simp
      refine hK _ _ ?_
      clear hK K
      try simp only [List.setIfInBounds_toArray]
      refine wpAny_ready (rs := [7, 9]) (by kernel_rfl) (by simp) (AllReady.cons (o := { dst := some 36, op := .extract (.tmp 29) 1, type := 3, pos := "law.go:141", after := #[{ on := 5, ground := .data }, { on := 9, ground := .gcOnly Go.Departure.lateStores }], guard := none }) rfl (fun K hK => ?_) (AllReady.cons (o := { dst := none, op := .store 28 (.tmp 37) (.tmp 35), type := 0, pos := "law.go:141", after := #[{ on := 8, ground := .data }, { on := 6, ground := .data }, { on := 4, ground := .chain }, { on := 0, ground := .phase }, { on := 1, ground := .phase }, { on := 2, ground := .phase }, { on := 3, ground := .phase }, { on := 4, ground := .phase }, { on := 5, ground := .phase }, { on := 6, ground := .phase }, { on := 7, ground := .textOnly Go.Departure.lateStores }], guard := none }) rfl (fun K hK => ?_) AllReady.nil))
      · go_simp
        refine hK _ _ ?_
        clear hK K
        try simp only [List.setIfInBounds_toArray]
        refine wpAny_ready (rs := [9]) (by kernel_rfl) (by simp) (AllReady.cons (o := { dst := none, op := .store 28 (.tmp 37) (.tmp 35), type := 0, pos := "law.go:141", after := #[{ on := 8, ground := .data }, { on := 6, ground := .data }, { on := 4, ground := .chain }, { on := 0, ground := .phase }, { on := 1, ground := .phase }, { on := 2, ground := .phase }, { on := 3, ground := .phase }, { on := 4, ground := .phase }, { on := 5, ground := .phase }, { on := 6, ground := .phase }, { on := 7, ground := .textOnly Go.Departure.lateStores }], guard := none }) rfl (fun K hK => ?_) AllReady.nil)
        rw [if_pos (by rfl)]
        refine wp_store_mid 28 (.tmp 37) (.tmp 35) (by rfl) X 2 (cellsD xL' yL' xW' yW' d2) (by rfl) (by rfl) (bench_there H5.out.1) (by kernel_rfl) (cellsD_one _ _ _ _ _) ?_
        generalize hw7 : World.setCells _ _ _ _ = w7
        have H7 := Lib.hid (show BI w w7 X q B bL bW xL' yL' xW' yW' d2 false sp n cap by rw [← hw7]; exact H5.out.2)
        clear hw7
        refine hK _ _ ?_
        clear hK K
        try simp only [Act.put, List.setIfInBounds_toArray]
        refine wpAny_ready (rs := [10]) (by kernel_rfl) (by simp) (AllReady.cons (o := { dst := some 7, op := .assign (.tmp 36), type := 3, pos := "law.go:141", after := #[{ on := 7, ground := .data }, { on := 9, ground := .chain }, { on := 0, ground := .phase }, { on := 1, ground := .phase }, { on := 2, ground := .phase }, { on := 3, ground := .phase }, { on := 4, ground := .phase }, { on := 5, ground := .phase }, { on := 6, ground := .phase }, { on := 7, ground := .phase }, { on := 8, ground := .phase }, { on := 9, ground := .phase }], guard := none }) rfl (fun K hK => ?_) AllReady.nil)
        go_simp
        refine hK _ _ ?_
        clear hK K
        try simp only [List.setIfInBounds_toArray]
        refine wpAny_done (by kernel_rfl) ?_ _
        clear c2 c3 c4 c5 c6 c7 c8 c9 c10 c11
        go_wp2_with (first
          | (refine wpList_load_row rfl 53 (.tmp 2) rfl X rfl 53 (benchC q B xL' yL' xW' yW' d2 false sp n cap) (0, 0) _ H7.out.x Try.underlying53 rfl (by kernel_rfl) ?_)
          | (refine wpList_store_row rfl 53 (.tmp 4) (.tmp 38) rfl (X + 1) (benchC q B xL' yL' xW' yW' d2 false sp n cap) rfl rfl 53 _ H7.out.y (by kernel_rfl) rfl (benchC_one _ _ _ _ _ _ _ _ _ _ _) ?_)
          | fail)
        refine bodyPost_ret (results_row rfl _ _ (X + 1) 53 (benchC q B xL' yL' xW' yW' d2 false sp n cap) _ rfl (RowAt.put H7.out.y) Try.underlying53 rfl (by kernel_rfl)) rfl ?_
        rw [HRR.out]
        have hH := H7.out
        rw [← HNM.out] at hH ⊢
        exact hH.fin (r := fun v => .tuple #[v, .int .i64 e2]) (HW.out _ hH.b) (fun h0 => .inl ⟨rfl, HP.out h0⟩)
      · rw [if_pos (by rfl)]
        refine wp_store_mid 28 (.tmp 37) (.tmp 35) (by rfl) X 2 (cellsD xL' yL' xW' yW' d2) (by rfl) (by rfl) (bench_there H5.out.1) (by kernel_rfl) (cellsD_one _ _ _ _ _) ?_
        generalize hw7 : World.setCells _ _ _ _ = w7
        have H7 := Lib.hid (show BI w w7 X q B bL bW xL' yL' xW' yW' d2 false sp n cap by rw [← hw7]; exact H5.out.2)
        clear hw7
        refine hK _ _ ?_
        clear hK K
        try simp only [Act.put, List.setIfInBounds_toArray]
        refine wpAny_ready (rs := [7]) (by kernel_rfl) (by simp) (AllReady.cons (o := { dst := some 36, op := .extract (.tmp 29) 1, type := 3, pos := "law.go:141", after := #[{ on := 5, ground := .data }, { on := 9, ground := .gcOnly Go.Departure.lateStores }], guard := none }) rfl (fun K hK => ?_) AllReady.nil)
        go_simp
        refine hK _ _ ?_
        clear hK K
        try simp only [List.setIfInBounds_toArray]
        refine wpAny_ready (rs := [10]) (by kernel_rfl) (by simp) (AllReady.cons (o := { dst := some 7, op := .assign (.tmp 36), type := 3, pos := "law.go:141", after := #[{ on := 7, ground := .data }, { on := 9, ground := .chain }, { on := 0, ground := .phase }, { on := 1, ground := .phase }, { on := 2, ground := .phase }, { on := 3, ground := .phase }, { on := 4, ground := .phase }, { on := 5, ground := .phase }, { on := 6, ground := .phase }, { on := 7, ground := .phase }, { on := 8, ground := .phase }, { on := 9, ground := .phase }], guard := none }) rfl (fun K hK => ?_) AllReady.nil)
        go_simp
        refine hK _ _ ?_
        clear hK K
        try simp only [List.setIfInBounds_toArray]
        refine wpAny_done (by kernel_rfl) ?_ _
        clear c2 c3 c4 c5 c6 c7 c8 c9 c10 c11
        go_wp2_with (first
          | (refine wpList_load_row rfl 53 (.tmp 2) rfl X rfl 53 (benchC q B xL' yL' xW' yW' d2 false sp n cap) (0, 0) _ H7.out.x Try.underlying53 rfl (by kernel_rfl) ?_)
          | (refine wpList_store_row rfl 53 (.tmp 4) (.tmp 38) rfl (X + 1) (benchC q B xL' yL' xW' yW' d2 false sp n cap) rfl rfl 53 _ H7.out.y (by kernel_rfl) rfl (benchC_one _ _ _ _ _ _ _ _ _ _ _) ?_)
          | fail)
        refine bodyPost_ret (results_row rfl _ _ (X + 1) 53 (benchC q B xL' yL' xW' yW' d2 false sp n cap) _ rfl (RowAt.put H7.out.y) Try.underlying53 rfl (by kernel_rfl)) rfl ?_
        rw [HRR.out]
        have hH := H7.out
        rw [← HNM.out] at hH ⊢
        exact hH.fin (r := fun v => .tuple #[v, .int .i64 e2]) (HW.out _ hH.b) (fun h0 => .inl ⟨rfl, HP.out h0⟩)
  · go_simp
    refine hK _ _ ?_
    clear hK K
    try simp only [List.setIfInBounds_toArray]
    refine wpAny_ready (rs := [6]) (by kernel_rfl) (by simp) (AllReady.cons (o := { dst := some 35, op := .extract (.tmp 29) 0, type := 28, pos := "law.go:141", after := #[{ on := 5, ground := .data }], guard := none }) rfl (fun K hK => ?_) AllReady.nil)
    go_simp
    refine hK _ _ ?_
    clear hK K
    try simp only [List.setIfInBounds_toArray]
    refine wpAny_ready (rs := [8]) (by kernel_rfl) (by simp) (AllReady.cons (o := { dst := some 37, op := .fieldAddr 53 (.tmp 2) 2, type := 0, pos := "law.go:141", after := #[{ on := 0, ground := .phase }, { on := 1, ground := .phase }, { on := 2, ground := .phase }, { on := 3, ground := .phase }, { on := 4, ground := .phase }, { on := 5, ground := .phase }, { on := 6, ground := .phase }, { on := 7, ground := .textOnly Go.Departure.lateStores }], guard := none }) rfl (fun K hK => ?_) AllReady.nil)
    go_simp
    refine hK _ _ ?_
    clear hK K
    try simp only [List.setIfInBounds_toArray]
    refine wpAny_ready (rs := [9]) (by kernel_rfl) (by simp) (AllReady.cons (o := { dst := none, op := .store 28 (.tmp 37) (.tmp 35), type := 0, pos := "law.go:141", after := #[{ on := 8, ground := .data }, { on := 6, ground := .data }, { on := 4, ground := .chain }, { on := 0, ground := .phase }, { on := 1, ground := .phase }, { on := 2, ground := .phase }, { on := 3, ground := .phase }, { on := 4, ground := .phase }, { on := 5, ground := .phase }, { on := 6, ground := .phase }, { on := 7, ground := .textOnly Go.Departure.lateStores }], guard := none }) rfl (fun K hK => ?_) AllReady.nil)
    rw [if_pos (by rfl)]
    refine wp_store_mid 28 (.tmp 37) (.tmp 35) (by rfl) X 2 (cellsD xL' yL' xW' yW' d2) (by rfl) (by rfl) (bench_there H5.out.1) (by kernel_rfl) (cellsD_one _ _ _ _ _) ?_
    generalize hw7 : World.setCells _ _ _ _ = w7
    have H7 := Lib.hid (show BI w w7 X q B bL bW xL' yL' xW' yW' d2 false sp n cap by rw [← hw7]; exact H5.out.2)
    clear hw7
    refine hK _ _ ?_
    clear hK K
    try simp only [Act.put, List.setIfInBounds_toArray]
    refine wpAny_ready (rs := [10]) (by kernel_rfl) (by simp) (AllReady.cons (o := { dst := some 7, op := .assign (.tmp 36), type := 3, pos := "law.go:141", after := #[{ on := 7, ground := .data }, { on := 9, ground := .chain }, { on := 0, ground := .phase }, { on := 1, ground := .phase }, { on := 2, ground := .phase }, { on := 3, ground := .phase }, { on := 4, ground := .phase }, { on := 5, ground := .phase }, { on := 6, ground := .phase }, { on := 7, ground := .phase }, { on := 8, ground := .phase }, { on := 9, ground := .phase }], guard := none }) rfl (fun K hK => ?_) AllReady.nil)
    go_simp
    refine hK _ _ ?_
    clear hK K
    try simp only [List.setIfInBounds_toArray]
    refine wpAny_done (by kernel_rfl) ?_ _
    clear c2 c3 c4 c5 c6 c7 c8 c9 c10 c11
    go_wp2_with (first
      | (refine wpList_load_row rfl 53 (.tmp 2) rfl X rfl 53 (benchC q B xL' yL' xW' yW' d2 false sp n cap) (0, 0) _ H7.out.x Try.underlying53 rfl (by kernel_rfl) ?_)
      | (refine wpList_store_row rfl 53 (.tmp 4) (.tmp 38) rfl (X + 1) (benchC q B xL' yL' xW' yW' d2 false sp n cap) rfl rfl 53 _ H7.out.y (by kernel_rfl) rfl (benchC_one _ _ _ _ _ _ _ _ _ _ _) ?_)
      | fail)
    refine bodyPost_ret (results_row rfl _ _ (X + 1) 53 (benchC q B xL' yL' xW' yW' d2 false sp n cap) _ rfl (RowAt.put H7.out.y) Try.underlying53 rfl (by kernel_rfl)) rfl ?_
    rw [HRR.out]
    have hH := H7.out
    rw [← HNM.out] at hH ⊢
    exact hH.fin (r := fun v => .tuple #[v, .int .i64 e2]) (HW.out _ hH.b) (fun h0 => .inl ⟨rfl, HP.out h0⟩)

end Go.Proofs.Ythpagbfabpfngaa
