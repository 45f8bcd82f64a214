/- Several texts in one: CK, CM, CN. -/
import Derived.Test.YthpagbfabpfngaaPk27
import Derived.Test.YthpagbfabpfngaaPk20
import Derived.Test.YthpagbfabpfngaaPk28
import Derived.Test.YthpagbfabpfngaaPk16
import Derived.Test.YthpagbfabpfngaaPk18
import Derived.Test.YthpagbfabpfngaaPk17
/- The contract of law08's image. -/
namespace Go.Proofs.Ythpagbfabpfngaa
open Go.RowKit

/-- What law08's image hands back. -/
def LImageV (r : Option (List (BitVec 32))) (w w' : World) (bL : Nat) (e : Ending) : Prop :=
  match r with
  | none => e = .returned (.tuple #[.slice none 0 0, .bool false]) ∧ Below w.heap.size w w'
  | some R => ∃ cap, e = .returned (.tuple #[.slice (some ⟨bL, 26, none⟩) R.length cap, .bool true]) ∧ R.length ≤ 26 ∧ Ws w' (some ⟨bL, 26, none⟩) bL 26 R.length (nthW R) ∧ Below w.heap.size w w'
theorem data_ws {w : World} {bL bW : Nat} {d : Dev} (h : RefIn w bL bW d) (h4 : d.ns = 4 ∧ d.nw = 13) (n : Nat) (hn : n ≤ 26) : Ws w (some ⟨bL, 26, none⟩) bL 26 (rowD d 0 n).length (nthW (rowD d 0 n)) := by
  refine ⟨fun _ => ⟨rfl, h.ltL⟩, fun k hk => ?_⟩
  rw [rowD_len] at hk
  have h1 : k / 13 < 2 := Nat.div_lt_of_lt_mul (by omega)
  have h2 : k % 13 < 13 := Nat.mod_lt _ (by omega)
  have := h.cl (2 + k / 13) (k % 13) (by omega) (by omega)
  rw [h4.2, show (2 + k / 13) * 13 + k % 13 = 26 + k by omega] at this
  rw [this, rowD_nth _ _ _ _ hk]
  unfold dataW
  rw [h4.2]
set_option maxHeartbeats 8000000 in
set_option maxRecDepth 100000 in
theorem limage_any {w : World} {bL bW : Nat} {d : Dev} (h : RefIn w bL bW d) (cL cW : Nat) (hcL : d.ns * d.nw ≤ cL) (h4 : d.ns = 4 ∧ d.nw = 13) :
    Calls Try.prog 21 #[.agg (cellsD bL cL bW cW d)] w fun e w' => LImageV (imageR d 0 4) w w' bL e := by
  obtain ⟨X, hX⟩ : ∃ X, X = w.heap.size := ⟨_, rfl⟩
  obtain ⟨w1, hw1⟩ : ∃ w1, w.alloc (.cells (cellsD bL cL bW cW d) 28) = w1 := ⟨_, rfl⟩
  have hb1 : Below w.heap.size w w1 := by rw [← hw1]; exact (Below.refl _ _).alloc (Nat.le_refl _) _
  have H1 := Lib.hid (show RowAt w1 X 28 (cellsD bL cL bW cW d) ∧ RefIn w1 bL bW d ∧ Below w.heap.size w w1 from ⟨by rw [← hw1, hX]; exact RowAt.mk w _ _, h.new hb1, hb1⟩)
  have HNew := Lib.hid (show ∀ (wx wy : World), (RowAt wx X 28 (cellsD bL cL bW cW d) ∧ RefIn wx bL bW d ∧ Below w.heap.size w wx) → Below wx.heap.size wx wy → (RowAt wy X 28 (cellsD bL cL bW cW d) ∧ RefIn wy bL bW d ∧ Below w.heap.size w wy) from fun wx wy ha hb => ⟨ha.1.new hb, ha.2.1.new hb, ha.2.2.trans (hb.mono ha.2.2.size)⟩)
  have H4 := Lib.hid h4
  have HC := Lib.hid hcL
  obtain ⟨c0, hc0⟩ : ∃ c0, cellsD bL cL bW cW d = c0 := ⟨_, rfl⟩
  rw [hc0] at hw1 ⊢
  clear hc0 h hb1 h4
  have HLw := Lib.hid (show ∀ wx, RefIn wx bL bW d → Calls Try.prog 24 #[.agg (cellsD bL cL bW cW d), .int .i64 1] wx fun e w' => e = .returned (.slice (some ⟨bL, 13, none⟩) 13 (cL - 13)) ∧ Below wx.heap.size wx w' from fun wx hx => lwords1_any hx H4.out cL cW hcL)
  obtain ⟨l0, hl0⟩ : ∃ x, w32 (headH (d.word 1) 0) = x := ⟨_, rfl⟩
  obtain ⟨ck, hck⟩ : ∃ x, headH (d.word 1) 4 = x := ⟨_, rfl⟩
  obtain ⟨lN, hlN⟩ : ∃ x, (headH (d.word 1) 2).toNat = x := ⟨_, rfl⟩
  have hl2 : w32 (headH (d.word 1) 2) = (lN : Int) := by rw [← hlN]; rfl
  have hlt : lN < 4294967296 := by rw [← hlN]; exact (headH (d.word 1) 2).isLt
  obtain ⟨vb, hvb⟩ : ∃ x, validH (d.word 1) = x := ⟨_, rfl⟩
  obtain ⟨cb, hcb⟩ : ∃ x, confH (d.word 1) = x := ⟨_, rfl⟩
  obtain ⟨tr, htr⟩ : ∃ x, trC (d.word 1) 3 = x := ⟨_, rfl⟩
  have HRd := Lib.hid (show ∀ wx, RefIn wx bL bW d → Calls Try.prog 63 #[.slice (some ⟨bL, 13, none⟩) 13 (cL - 13)] wx fun e w' => e = .returned (.agg #[.int .u32 l0, .int .u32 (lN : Int), .int .u32 (w32 ck), .bool vb, .bool cb, .int .i64 (tr : Nat)]) ∧ Below wx.heap.size wx w' from fun wx hx => by
    have := lread_any hx H4.out (cL - 13)
    rw [hl0, hl2, hck, hvb, hcb, htr] at this
    exact this)
  obtain ⟨x0, hx0⟩ : ∃ x, w32 (d.word 0 0) = x := ⟨_, rfl⟩
  obtain ⟨vo, hvo⟩ : ∃ v, voidB d 0 = v := ⟨_, rfl⟩
  obtain ⟨on, hon⟩ : ∃ v, d.on = v := ⟨_, rfl⟩
  have hxv : (x0 != 4294967295) = vo := by rw [← hx0, ones_nb, ← hvo]; rfl
  have cv : IntKind.i64.wrap (lN : Int) = (lN : Int) := by rw [IntKind.wrap_i64]; omega
  have HV := Lib.hid (And.intro hx0 (And.intro hvo (And.intro hvb (And.intro hck (And.intro hlN hon)))))
  clear hl0 hl2 hcb hvb htr hx0 hvo hlN hlt hck hon hcL
  have HSt := Lib.hid (show stOK d 0 4 = (vb && (!vo && decide (lN ≤ 26))) by
    unfold stOK
    rw [room4 H4.out.2, HV.out.2.1, show validH (d.word (0 + 1)) = vb from HV.out.2.2.1]
    cases hv : vb with
    | false => rfl
    | true =>
      have h2 := HV.out.2.2.2.2.1
      unfold headH at h2
      rw [HV.out.2.2.1, hv, if_pos rfl] at h2
      rw [show d.word (0 + 1) 2 = d.word 1 2 from rfl, h2])
  have HNn := Lib.hid (show (vb && (!vo && decide (lN ≤ 26))) = false ∨ on = false → imageR d 0 4 = none from fun h => by
    unfold imageR
    rw [HSt.out, HV.out.2.2.2.2.2]
    rcases h with h | h
    · rw [h]; rfl
    · rw [h]; split <;> rfl)
  go_enter Try.func21, Try.ntmps21
  go_upto_region 1 with fail
  rw [← hX]
  clear hw1 hX
  go_upto_region 2 with (first
    | (refine wpList_load_row rfl 28 (.tmp 1) rfl X rfl 28 (cellsD bL cL bW cW d) (0, 0) _ H1.out.1 Try.underlying28 rfl (by kernel_rfl) ?_)
    | (go_at_call 24; refine (HLw.out _ H1.out.2.1).mono ?_; rintro e w3 ⟨rfl, hb3⟩; have H3 := Lib.hid (HNew.out _ _ H1.out hb3); clear hb3)
    | (go_at_call 63; refine (HRd.out _ H3.out.2.1).mono ?_; rintro e w4 ⟨rfl, hb4⟩; have H5 := Lib.hid (HNew.out _ _ H3.out hb4); clear hb4)
    | fail)
  obtain ⟨z, hz⟩ : ∃ z, w4.heap.size = z := ⟨_, rfl⟩
  generalize hw5 : World.alloc w4 _ = w5
  have H6 := Lib.hid (show (RowAt w5 X 28 (cellsD bL cL bW cW d) ∧ RefIn w5 bL bW d ∧ Below w.heap.size w w5) by rw [← hw5]; exact HNew.out _ _ H5.out ((Below.refl _ _).alloc (Nat.le_refl _) _))
  have hr5 : RowAt w5 z 120 #[.int .u32 l0, .int .u32 (lN : Int), .int .u32 (w32 ck), .bool vb, .bool cb, .int .i64 (tr : Nat)] := by rw [← hw5, ← hz]; exact RowAt.mk _ _ _
  rw [hz]
  have HR5 := Lib.hid hr5
  have HZ := Lib.hid (show z < w5.heap.size from hr5.lt)
  clear hz hw5 H1 H3 H5 HRd HLw
  have c0' : w5.cell? ⟨X, 0, none⟩ = some (.int .i64 d.ns) := H6.out.1.cell 0
  have c1' : w5.cell? ⟨X, 1, none⟩ = some (.int .i64 d.nw) := H6.out.1.cell 1
  have c3 : w5.cell? ⟨X, 3, none⟩ = some (.slice (some ⟨bL, 0, none⟩) (d.ns * d.nw : Nat) cL) := H6.out.1.cell 3
  have c5 : w5.cell? ⟨X, 5, none⟩ = some (.bool (!d.on)) := H6.out.1.cell 5
  rw [H4.out.1] at c0' c3
  rw [H4.out.2] at c1' c3
  rw [HV.out.2.2.2.2.2] at c5
  have a0 : w5.cell? ⟨bL, 0, none⟩ = some (.int .u32 x0) := by
    have := H6.out.2.1.cl 0 0 (by have := H4.out.1; omega) (by have := H4.out.2; omega)
    rw [Nat.zero_mul, HV.out.1] at this
    exact this
  have s1 : w5.cell? ⟨z, 1, none⟩ = some (.int .u32 (lN : Int)) := hr5.cell 1
  have s3 : w5.cell? ⟨z, 3, none⟩ = some (.bool vb) := hr5.cell 3
  clear hr5
  cases on with
  | false =>
    have HNo := Lib.hid (HNn.out (.inr rfl))
    go_wp2
    go_ret2
    rw [HNo.out]
    exact ⟨rfl, H6.out.2.2⟩
  | true =>
    cases vo with
    | true =>
      have HNo := Lib.hid (HNn.out (.inl (by simp)))
      go_wp2
      go_ret2
      rw [HNo.out]
      exact ⟨rfl, H6.out.2.2⟩
    | false =>
      cases vb with
      | false =>
        have HNo := Lib.hid (HNn.out (.inl rfl))
        go_wp2
        go_ret2
        rw [HNo.out]
        exact ⟨rfl, H6.out.2.2⟩
      | true =>
        by_cases hl : (26 : Int) < (lN : Int)
        · have HNo := Lib.hid (HNn.out (.inl (by rw [decide_eq_false (by omega)]; rfl)))
          go_wp2
          go_ret2
          rw [HNo.out]
          exact ⟨rfl, H6.out.2.2⟩
        · have hle : lN ≤ 26 := by omega
          have HIm := Lib.hid (show imageR d 0 4 = if crcW (rowD d 0 lN) = ck then some (rowD d 0 lN) else none by
            unfold imageR
            rw [HSt.out, HV.out.2.2.2.2.2, decide_eq_true hle]
            have h2 := HV.out.2.2.2.2.1
            have h3 := HV.out.2.2.2.1
            unfold headH at h2 h3
            rw [HV.out.2.2.1, if_pos rfl] at h2 h3
            rw [show longN d 0 = lN from h2, show d.word (0 + 1) 4 = ck from h3]
            rfl)
          have g1 : (26 : Int) + (lN : Int) ≤ (cL : Int) := by have := HC.out; rw [H4.out.1, H4.out.2] at this; omega
          have g2 : (26 : Int) ≤ (26 : Int) + (lN : Int) := by omega
          have g3 : (0 : Int) ≤ (26 : Int) + (lN : Int) := by omega
          have g4 : IntKind.i64.wrap ((26 : Int) + (lN : Int)) = (26 : Int) + (lN : Int) := by rw [IntKind.wrap_i64]; omega
          have g5 : ¬ cL = 26 := by have := HC.out; rw [H4.out.1, H4.out.2] at this; omega
          have HLE := Lib.hid hle
          have HDW := Lib.hid (data_ws H6.out.2.1 H4.out lN hle)
          clear HNn HSt hle
          have HBy := Lib.hid (show ∀ wx, RefIn wx bL bW d → Calls Try.prog 65 #[.slice (some ⟨bL, 26, none⟩) lN (cL - 26)] wx fun e w' => ∃ v, e = .returned v ∧ w'.ownsRow wx.heap.size 5 1 v (4 * lN) (rowY (bytesOf (rowD d 0 lN))) ∧ Below wx.heap.size wx w' from fun wx hx => by
            have hw := data_ws hx H4.out lN HLE.out
            have := refbytes_any bL 26 (cL - 26) (some ⟨bL, 26, none⟩) (rowD d 0 lN) wx (by rw [rowD_len]; have := HLE.out; omega) (fun h0 => hw.sp h0) (fun k hk => hw.cell k hk)
            rw [rowD_len] at this
            exact this)
          have HSm := Lib.hid (show ∀ (wx : World) (b : Nat) (v : Value), wx.ownsRow b 5 1 v (4 * lN) (rowY (bytesOf (rowD d 0 lN))) → Calls Try.prog 64 #[v] wx fun e w' => e = .returned (.int .u32 (w32 (crcW (rowD d 0 lN)))) ∧ wx = w' from fun wx b v hv => sum_of_bytes (rowD d 0 lN) (by rw [rowD_len]; have := HLE.out; omega) (by rw [rowD_len]; exact hv))
          obtain ⟨nb, hnb⟩ : ∃ nb, (w32 (crcW (rowD d 0 lN)) != w32 ck) = nb := ⟨_, rfl⟩
          obtain ⟨sm, hsm⟩ : ∃ sm, w32 (crcW (rowD d 0 lN)) = sm := ⟨_, rfl⟩
          have HSM := Lib.hid hsm
          obtain ⟨kk, hkk⟩ : ∃ kk, w32 ck = kk := ⟨_, rfl⟩
          have HKK := Lib.hid hkk
          simp only [hsm] at HSm
          rw [hsm, hkk] at hnb
          have HNB := Lib.hid hnb
          rw [hkk] at HR5
          clear hsm
          go_upto_region 5 with fail
          rw [show 26 + lN - 26 = lN by omega]
          rw [hkk]
          clear hkk c0' c1' c3 c5 a0 s1 s3 g1 g2 g3 g4 g5 hxv cv
          have s2 : w5.cell? ⟨z, 2, none⟩ = some (.int .u32 kk) := HR5.out.cell 2
          refine wp_region_held_drew (S := fun w' => w'.cell? ⟨z, 2, none⟩ = some (.int .u32 kk)) (by kernel_rfl) s2 (fun hS => ?_)
          refine wpAnyH_take (i := 0) (oi := { dst := some 48, op := .move (.tmp 5), type := 24, pos := "law.go:65", after := #[], guard := none }) (v := ?_) rfl (by kernel_rfl) (by kernel_rfl) (by kernel_rfl) (fun _ _ _ h => h) (Or.inl ⟨by rfl, ?_⟩) hS ?_
          rotate_left 1
          · intro w hw; obtain s0 := hw; go_simp; try (with_reducible rfl)
          simp only [Act.put, List.setIfInBounds_toArray, List.set_cons_zero, List.set_cons_succ]
          refine wpAnyH_take (i := 3) (oi := { dst := some 51, op := .fieldAddr 120 (.tmp 4) 2, type := 0, pos := "law.go:65", after := #[], guard := none }) (v := ?_) rfl (by kernel_rfl) (by kernel_rfl) (by kernel_rfl) (fun _ _ _ h => h) (Or.inl ⟨by rfl, ?_⟩) hS ?_
          rotate_left 1
          · intro w hw; obtain s0 := hw; go_simp; try (with_reducible rfl)
          simp only [Act.put, List.setIfInBounds_toArray, List.set_cons_zero, List.set_cons_succ]
          refine wpAnyH_take (i := 4) (oi := { dst := some 52, op := .load 26 (.tmp 51), type := 26, pos := "law.go:65", after := #[{ on := 3, ground := .data }], guard := none }) (v := ?_) rfl (by kernel_rfl) (by kernel_rfl) (by kernel_rfl) (fun _ _ _ h => h) (Or.inl ⟨by rfl, ?_⟩) hS ?_
          rotate_left 1
          · intro w hw; obtain s0 := hw; go_simp; try (with_reducible rfl)
          simp only [Act.put, List.setIfInBounds_toArray, List.set_cons_zero, List.set_cons_succ]
          refine wpAnyH_ready (rs := [1]) (by kernel_rfl) (by simp) (AllReadyH.cons (o := { dst := some 49, op := .call { callee := .value (.func 65), args := #[.tmp 48], argTypes := #[24] }, type := 123, pos := "law.go:65", after := #[{ on := 0, ground := .data }], guard := none }) rfl (fun K hK => ?_) AllReadyH.nil)
          go_simp
          go_at_call 65
          refine (HBy.out _ (H6.out.2.1.drewN 1)).mono ?_
          rintro e w6 ⟨v, rfl, ho6, hb6⟩
          have H7 := Lib.hid (And.intro ho6 (HNew.out _ _ (HNew.out _ _ H6.out (below_dn (Below.refl _ _) 1)) hb6))
          have s4 : w6.cell? ⟨z, 2, none⟩ = some (.int .u32 kk) := ((HR5.out.drew).new hb6).cell 2
          clear ho6 hb6
          try dsimp only
          refine hK.out _ _ s4 (fun hHeld => ?_)
          clear hK K
          try simp only [Act.put, List.setIfInBounds_toArray, List.set_cons_zero, List.set_cons_succ]
          refine wpAnyH_ready (rs := [2]) (by kernel_rfl) (by simp) (AllReadyH.cons (o := { dst := some 50, op := .call { callee := .value (.func 64), args := #[.tmp 49], argTypes := #[123] }, type := 26, pos := "law.go:65", after := #[{ on := 1, ground := .data }, { on := 1, ground := .chain }], guard := none }) rfl (fun K hK => ?_) AllReadyH.nil)
          go_simp
          go_at_call 64
          refine (HSm.out _ _ _ H7.out.1).mono ?_
          rintro e w7 ⟨rfl, rfl⟩
          try dsimp only
          refine hK.out _ _ s4 (fun hHeld => ?_)
          clear hK K
          try simp only [Act.put, List.setIfInBounds_toArray, List.set_cons_zero, List.set_cons_succ]
          refine wpAnyH_take (i := 5) (oi := { dst := some 53, op := .binOp .neq 26 (.tmp 50) (.tmp 52) 26, type := 4, pos := "law.go:65", after := #[{ on := 2, ground := .data }, { on := 4, ground := .data }], guard := none }) (v := ?_) rfl (by kernel_rfl) (by kernel_rfl) (by kernel_rfl) (fun _ _ _ h => h) (Or.inl ⟨by rfl, ?_⟩) s4 ?_
          rotate_left 1
          · intro w hw; obtain s0 := hw; go_simp; try (with_reducible rfl)
          simp only [Act.put, List.setIfInBounds_toArray, List.set_cons_zero, List.set_cons_succ]
          refine wpAnyH_done (by kernel_rfl) ?_ _

          cases nb with
          | true =>
            have hne : ¬ crcW (rowD d 0 lN) = ck := fun e => by
              have := HNB.out
              rw [← HSM.out, ← HKK.out, e] at this
              simp at this
            have HNo := Lib.hid (show imageR d 0 4 = none by rw [HIm.out, if_neg hne])
            clear hne
            go_wp2
            go_ret2
            rw [HNo.out]
            exact ⟨rfl, H7.out.2.2.2⟩
          | false =>
            have heq : crcW (rowD d 0 lN) = ck := by
              have := HNB.out
              rw [← HSM.out, ← HKK.out] at this
              exact w32_inj.1 (by simpa using this)
            have HNo := Lib.hid (show imageR d 0 4 = some (rowD d 0 lN) by rw [HIm.out, if_pos heq])
            clear heq
            go_wp2
            go_ret2
            rw [HNo.out]
            refine ⟨cL - 26, by rw [rowD_len]; rfl, by rw [rowD_len]; exact HLE.out, data_ws H7.out.2.2.1 H4.out lN HLE.out, H7.out.2.2.2⟩
end Go.Proofs.Ythpagbfabpfngaa
/- What lies where while law08's one runs: its blocks, the code's bank and device, the law's rows. -/
namespace Go.Proofs.Ythpagbfabpfngaa
open Go.RowKit

theorem ch_far {T U : Nat → Prop} {w0 w w' : World} (h : Ch T w0 w) (c : Ch U w w') (hU : ∀ j, U j → ¬ T j → w0.heap.size ≤ j) : Ch T w0 w' :=
  ⟨c.os.trans h.os, c.tape.trans h.tape, c.output.trans h.output, Nat.le_trans h.size c.size, fun k hk hn => (c.block k (Nat.lt_of_lt_of_le hk h.size) (fun hu => by have := hU k hu hn; omega)).trans (h.block k hk hn)⟩
theorem Ws.keepU {T : Nat → Prop} {w w' : World} {sp : Option Addr} {b off n : Nat} {l : Nat → BitVec 32} (h : Ws w sp b off n l) (c : Ch T w w') (hT : ¬ T b) : Ws w' sp b off n l := h.keep c (fun _ => hT)
theorem Ws.any {w : World} {sp : Option Addr} {b b' off n : Nat} {l : Nat → BitVec 32} (_h : Ws w sp b off n l) (h0 : n = 0) : Ws w sp b' off n l := ⟨fun h1 => by omega, fun k hk => by omega⟩
/-- Where both sides lie between two calls. -/
structure JAt (w : World) (B q S : Nat) (g : Nat → Nat) (bL cL bW : Nat) (s : Jt) (sp : Option Addr) (bp : Nat) : Prop where
  bk : Bk w B q S g s.d 0 4 s.op s.P
  ref : RefIn w bL bW s.d.nn
  cp : 4 * 13 ≤ cL
  ws : Ws w sp bp 0 s.X.length (nthW s.X)
  apL : ¬ OwnB B q S g 4 bL
  apW : ¬ OwnB B q S g 4 bW
  apP : 0 < s.X.length → ¬ OwnB B q S g 4 bp
  good : s.good
theorem JAt.lt {w : World} {B q S : Nat} {g : Nat → Nat} {bL cL bW : Nat} {s : Jt} {sp : Option Addr} {bp : Nat} (h : JAt w B q S g bL cL bW s sp bp) : ∀ j, OwnB B q S g 4 j → j < w.heap.size := by
  have := h.bk.lt
  rw [h.good.h4.1] at this
  exact this
theorem JAt.new {w w' : World} {B q S : Nat} {g : Nat → Nat} {bL cL bW : Nat} {s : Jt} {sp : Option Addr} {bp : Nat} (h : JAt w B q S g bL cL bW s sp bp) (hb : Below w.heap.size w w') : JAt w' B q S g bL cL bW s sp bp :=
  ⟨h.bk.new hb, h.ref.new hb, h.cp, h.ws.new hb, h.apL, h.apW, h.apP, h.good⟩

structure OJ (w0 w : World) (X B q S : Nat) (g : Nat → Nat) (d : Dev) (opP : Bool) (P : List (BitVec 32)) (bL cL bW cW : Nat) (dr : Dev) (op : Bool) (sp : Option Addr) (bp cap : Nat) (Y : List (BitVec 32)) (ov : Array Value) : Prop where
  x : RowAt w X 53 (benchC q B bL cL bW cW dr op sp Y.length cap)
  o : RowAt w (X + 1) 58 ov
  y : RowAt w (X + 2) 53 benchZ
  bk : Bk w B q S g d 0 4 opP P
  h4 : d.ns = 4
  ref : RefIn w bL bW dr
  cp : dr.ns * dr.nw ≤ cL
  ws : Ws w sp bp 0 Y.length (nthW Y)
  apL : ¬ OwnB B q S g 4 bL ∧ (bL < X ∨ X + 2 < bL)
  apW : ¬ OwnB B q S g 4 bW ∧ (bW < X ∨ X + 2 < bW)
  apP : ¬ OwnB B q S g 4 bp ∧ (bp < X ∨ X + 2 < bp)
  lt : ∀ j, OwnB B q S g 4 j → j < X
  ch : Ch (OwnB B q S g 4) w0 w
  hX : w0.heap.size = X
section
variable {w0 w w' : World} {X B q S : Nat} {g : Nat → Nat} {d : Dev} {opP : Bool} {P : List (BitVec 32)} {bL cL bW cW : Nat} {dr : Dev} {op : Bool} {sp : Option Addr} {bp cap : Nat} {Y : List (BitVec 32)} {ov : Array Value}
theorem OJ.start {w : World} {s : Jt} (h : JAt w B q S g bL cL bW s sp bp) (cW cap : Nat) (ov : Array Value) :
    ∃ bp', OJ w (((w.alloc (.cells (benchC q B bL cL bW cW s.d.nn s.op sp s.X.length cap) 53)).alloc (.cells ov 58)).alloc (.cells benchZ 53)) w.heap.size B q S g s.d s.op s.P bL cL bW cW s.d.nn s.op sp bp' cap s.X ov ∧ (0 < s.X.length → bp' = bp) := by
  generalize hc : benchC q B bL cL bW cW s.d.nn s.op sp s.X.length cap = cs
  obtain ⟨wa, hwa⟩ : ∃ wa, w.alloc (.cells cs 53) = wa := ⟨_, rfl⟩
  obtain ⟨wb, hwb⟩ : ∃ wb, wa.alloc (.cells ov 58) = wb := ⟨_, rfl⟩
  have za : wa.heap.size = w.heap.size + 1 := by rw [← hwa]; simp
  have zb : wb.heap.size = w.heap.size + 2 := by rw [← hwb, World.size_alloc, za]
  have xa : RowAt wa w.heap.size 53 cs := by rw [← hwa]; exact RowAt.mk w _ _
  have xb : RowAt wb (w.heap.size + 1) 58 ov := by rw [← hwb, ← za]; exact RowAt.mk wa _ _
  have ba : Below w.heap.size w wa := by rw [← hwa]; exact (Below.refl _ _).alloc (Nat.le_refl _) _
  have bb : Below wa.heap.size wa wb := by rw [← hwb]; exact (Below.refl _ _).alloc (Nat.le_refl _) _
  have bc : Below wb.heap.size wb (wb.alloc (.cells benchZ 53)) := (Below.refl _ _).alloc (Nat.le_refl _) _
  have hb := (ba.trans (bb.mono (by omega))).trans (bc.mono (by omega))
  rw [hwa, hwb]
  have hn := h.new hb
  have hl := h.lt
  obtain ⟨bp', h1, h2, h3, h4⟩ : ∃ bp', (¬ OwnB B q S g 4 bp' ∧ (bp' < w.heap.size ∨ w.heap.size + 2 < bp')) ∧ (0 < s.X.length → bp' = bp) ∧ Ws (wb.alloc (.cells benchZ 53)) sp bp' 0 s.X.length (nthW s.X) ∧ True := by
    rcases Nat.eq_zero_or_pos s.X.length with h0 | h0
    · exact ⟨w.heap.size + 3, ⟨fun h1 => by have := hl _ h1; omega, .inr (by omega)⟩, fun h1 => by omega, hn.ws.any h0, trivial⟩
    · exact ⟨bp, ⟨h.apP h0, .inl (h.ws.sp h0).2⟩, fun _ => rfl, hn.ws, trivial⟩
  refine ⟨bp', ⟨?_, ?_, ?_, hn.bk, h.good.h4.1, hn.ref, ?_, h3, ⟨h.apL, .inl h.ref.ltL⟩, ⟨h.apW, .inl h.ref.ltW⟩, h1, hl, Ch.new hb, rfl⟩, h2⟩
  · rw [hc]; exact (xa.new bb).new bc
  · exact xb.new bc
  · rw [← zb]; exact RowAt.mk wb _ _
  · show s.d.ns * s.d.nw ≤ cL
    rw [h.good.h4.1, h.good.h4.2]; exact h.cp
theorem OJ.sz (h : OJ w0 w X B q S g d opP P bL cL bW cW dr op sp bp cap Y ov) : X + 2 < w.heap.size := h.y.lt
theorem OJ.new (h : OJ w0 w X B q S g d opP P bL cL bW cW dr op sp bp cap Y ov) (hb : Below w.heap.size w w') : OJ w0 w' X B q S g d opP P bL cL bW cW dr op sp bp cap Y ov :=
  ⟨h.x.new hb, h.o.new hb, h.y.new hb, h.bk.new hb, h.h4, h.ref.new hb, h.cp, h.ws.new hb, h.apL, h.apW, h.apP, h.lt, h.ch.trans (Ch.new hb), h.hX⟩
/-- The law's side is turned: a call, and the bench is stored. -/
theorem OJ.law {dr' : Dev} {op' : Bool} {Y' : List (BitVec 32)} {r : Value → Value} {e : Ending} (h : OJ w0 w X B q S g d opP P bL cL bW cW dr op sp bp cap Y ov) (ho : BenchOut w w' q B bL bW bp dr' op' Y' r e) :
    ∃ bL' cL' bW' cW' sp' bp' cap', e = .returned (r (.agg (benchC q B bL' cL' bW' cW' dr' op' sp' Y'.length cap'))) ∧ RowAt w' X 53 (benchC q B bL cL bW cW dr op sp Y.length cap) ∧ OJ w0 (w'.setRow X (benchC q B bL' cL' bW' cW' dr' op' sp' Y'.length cap')) X B q S g d opP P bL' cL' bW' cW' dr' op' sp' bp' cap' Y' ov := by
  obtain ⟨bL', cL', bW', cW', sp', bp1, cap', he, h1, h2, h3, hcp, h5, h6, hb⟩ := ho
  have hn := h.new hb
  have hz := h.sz
  have hzw : w.heap.size ≤ w'.heap.size := hb.size
  have own : ∀ b, w.heap.size ≤ b → ¬ OwnB B q S g 4 b := fun b hb1 h1 => by have := h.lt _ h1; omega
  have aL : ¬ OwnB B q S g 4 bL' ∧ (bL' < X ∨ X + 2 < bL') := by
    rcases h2 with h2 | h2
    · rw [h2]; exact h.apL
    · exact ⟨own _ h2, .inr (by omega)⟩
  have aW : ¬ OwnB B q S g 4 bW' ∧ (bW' < X ∨ X + 2 < bW') := by
    rcases h3 with h3 | h3
    · rw [h3]; exact h.apW
    · exact ⟨own _ h3, .inr (by omega)⟩
  obtain ⟨bp', aP, hws⟩ : ∃ bp', (¬ OwnB B q S g 4 bp' ∧ (bp' < X ∨ X + 2 < bp')) ∧ Ws w' sp' bp' 0 Y'.length (nthW Y') := by
    rcases Nat.eq_zero_or_pos Y'.length with h0 | h0
    · exact ⟨w.heap.size, ⟨own _ (Nat.le_refl _), .inr hz⟩, h5.any h0⟩
    · refine ⟨bp1, ?_, h5⟩
      rcases h6 h0 with h6 | h6
      · rw [h6]; exact h.apP
      · exact ⟨own _ h6, .inr (by omega)⟩
  have cs : Ch (fun j => j = X) w' (w'.setRow X (benchC q B bL' cL' bW' cW' dr' op' sp' Y'.length cap')) := ch_setRow w' X _
  refine ⟨bL', cL', bW', cW', sp', bp', cap', he, hn.x, ⟨RowAt.put hn.x, hn.o.keep cs (by omega), hn.y.keep cs (by omega), hn.bk.keep cs (fun j hj e => by rw [h.h4] at hj; have := h.lt _ hj; omega), h.h4, h1.keep cs (by show ¬ bL' = X; omega) (by show ¬ bW' = X; omega), hcp, hws.keepU cs (by show ¬ bp' = X; omega), aL, aW, aP, h.lt, ch_far hn.ch cs (fun j hj _ => by rw [h.hX]; omega), h.hX⟩⟩
/-- The code's side is turned. -/
theorem OJ.prog {d' : Dev} {opP' : Bool} {P' : List (BitVec 32)} (h : OJ w0 w X B q S g d opP P bL cL bW cW dr op sp bp cap Y ov) (hb : Bk w' B q S g d' 0 4 opP' P') (hc : Ch (OwnB B q S g 4) w w') (hs : d'.ns = 4) : OJ w0 w' X B q S g d' opP' P' bL cL bW cW dr op sp bp cap Y ov := by
  have no : ∀ j, X ≤ j → ¬ OwnB B q S g 4 j := fun j hj h1 => by have := h.lt _ h1; omega
  exact ⟨h.x.keep hc (no _ (by omega)), h.o.keep hc (no _ (by omega)), h.y.keep hc (no _ (by omega)), hb, hs, h.ref.keep hc h.apL.1 h.apW.1, h.cp, h.ws.keepU hc h.apP.1, h.apL, h.apW, h.apP, h.lt, ch_far h.ch hc (fun j hj hn => absurd hj hn), h.hX⟩
/-- The law's device is armed, or its power comes: no word is turned. -/
theorem OJ.arm {dr' : Dev} (h : OJ w0 w X B q S g d opP P bL cL bW cW dr op sp bp cap Y ov) (hd : dr'.ns = dr.ns ∧ dr'.nw = dr.nw ∧ dr'.word = dr.word ∧ dr'.worn = dr.worn) (hw : Ch (fun j => j = X) w w') (hr : RowAt w' X 53 (benchC q B bL cL bW cW dr' op sp Y.length cap)) : OJ w0 w' X B q S g d opP P bL cL bW cW dr' op sp bp cap Y ov := by
  have h1 := h.apL.2
  have h2 := h.apW.2
  have h3 := h.apP.2
  exact ⟨hr, h.o.keep hw (by omega), h.y.keep hw (by omega), h.bk.keep hw (fun j hj e => by rw [h.h4] at hj; have := h.lt _ hj; omega), h.h4, (h.ref.keep hw (by show ¬ bL = X; omega) (by show ¬ bW = X; omega)).same hd.1 hd.2.1 hd.2.2.1 hd.2.2.2, by rw [hd.1, hd.2.1]; exact h.cp, h.ws.keepU hw (by show ¬ bp = X; omega), h.apL, h.apW, h.apP, h.lt, ch_far h.ch hw (fun j hj _ => by rw [h.hX]; omega), h.hX⟩
/-- The bench is handed back. -/
theorem OJ.fin {s : Jt} (h : OJ w0 w X B q S g s.d s.op s.P bL cL bW cW s.d.nn s.op sp bp cap s.X ov) (hg : s.good) (cs : Array Value) : JAt (w.setRow (X + 2) cs) B q S g bL cL bW s sp bp ∧ Ch (OwnB B q S g 4) w0 (w.setRow (X + 2) cs) := by
  have hw : Ch (fun j => j = X + 2) w (w.setRow (X + 2) cs) := ch_setRow w (X + 2) cs
  have h1 := h.apL.2
  have h2 := h.apW.2
  have h3 := h.apP.2
  refine ⟨⟨h.bk.keep hw (fun j hj e => by rw [h.h4] at hj; have := h.lt _ hj; omega), h.ref.keep hw (by show ¬ bL = X + 2; omega) (by show ¬ bW = X + 2; omega), ?_, h.ws.keepU hw (by show ¬ bp = X + 2; omega), h.apL.1, h.apW.1, fun _ => h.apP.1, hg⟩, ch_far h.ch hw (fun j hj _ => by rw [h.hX]; omega)⟩
  have := h.cp
  rw [show s.d.nn.ns = 4 from hg.h4.1, show s.d.nn.nw = 13 from hg.h4.2] at this
  exact this
end
/-- What one hands back. -/
def OneOut (w w' : World) (B q S : Nat) (g : Nat → Nat) (s : Jt) (e : Ending) : Prop :=
  ∃ bL cL bW cW sp bp cap, e = .returned (.tuple #[.agg (benchC q B bL cL bW cW s.d.nn s.op sp s.X.length cap), .bool true]) ∧ JAt w' B q S g bL cL bW s sp bp ∧ Ch (OwnB B q S g 4) w w'
end Go.Proofs.Ythpagbfabpfngaa
/- Each call of law08's one, on both sides: what the law's function and the code's method answer, said of one state. -/
namespace Go.Proofs.Ythpagbfabpfngaa
open Go.RowKit

section
variable {w : World} {B q S : Nat} {g : Nat → Nat} {s : Jt} {bL bW bp cap : Nat} {sp : Option Addr}
theorem zn13 (h : s.good) : s.d.nn.nw ≤ 500 := by show s.d.nw ≤ 500; rw [h.h4.2]; omega
theorem hb4 (h : s.good) {w' : World} (hc : Ch (OwnB B q S g s.d.ns) w w') : Ch (OwnB B q S g 4) w w' := by rw [h.h4.1] at hc; exact hc
theorem hd4 (h : s.good) {w' : World} (hc : Ch (OwnD q S g s.d.ns) w w') : Ch (OwnB B q S g 4) w w' := by rw [h.h4.1] at hc; exact hc.mono (fun _ _ h => .inr h)
theorem begin_law (h : s.good) (hn : s.d.ops + 41 ≤ 1000000) (hr : RefIn w bL bW s.d.nn) (cL cW : Nat) (hc : s.d.nn.ns * s.d.nn.nw ≤ cL) (hw : Ws w sp bp 0 s.X.length (nthW s.X)) :
    Calls Try.prog 54 #[.agg (benchC q B bL cL bW cW s.d.nn s.op sp s.X.length cap)] w fun e w' => BenchOut w w' q B bL bW bp s.begin.d.nn s.begin.op s.begin.X (fun v => .tuple #[v, .int .i64 (beginR s.d 0 4 s.P).1]) e := by
  have := lbegin_any (q := q) (B := B) (cap := cap) hr (nn_okE h.ok) cL cW hc s.op s.X (by show s.d.ops + (s.d.ns : Int) + 1 ≤ 1000000; rw [h.h4.1]; omega) (zn13 h) hw
  rw [Jt.begin_same h] at this
  exact this
theorem begin_code (h : s.good) (hn : s.d.ops + 41 ≤ 1000000) (hb : Bk w B q S g s.d 0 4 s.op s.P) :
    Calls Try.prog 43 #[.pointer (some ⟨B, 0, none⟩)] w fun e w' => e = .returned (.int .i64 (beginR s.d 0 4 s.P).1) ∧ Bk w' B q S g s.begin.d 0 4 s.begin.op s.begin.P ∧ Ch (OwnB B q S g 4) w w' :=
  (begin_any hb h.ok (by omega)).mono fun _ _ ⟨h1, h2, h3⟩ => ⟨h1, h2, hb4 h h3⟩
theorem put_law (h : s.good) (hn : s.d.ops + 41 ≤ 1000000) (hr : RefIn w bL bW s.d.nn) (cL cW : Nat) (hc : s.d.nn.ns * s.d.nn.nw ≤ cL) (hw : Ws w sp bp 0 s.X.length (nthW s.X)) (M : List (BitVec 32)) (hM : M.length ≤ 40) {sm : Option Addr} {bm om cm : Nat} (hm : Ws w sm bm om M.length (nthW M)) :
    Calls Try.prog 62 #[.agg (benchC q B bL cL bW cW s.d.nn s.op sp s.X.length cap), .slice sm M.length cm] w fun e w' => BenchOut w w' q B bL bW bp (s.put M).d.nn (s.put M).op (s.put M).X (fun v => .tuple #[v, .int .i64 (s.putE M)]) e := by
  have := lput_any (q := q) (B := B) (cap := cap) (cm := cm) hr (nn_okE h.ok) cL cW hc s.op s.X M (by show s.d.ops + 40 ≤ 1000000; omega) h.h4 hw hm h.xl hM
  rw [Jt.put_same h] at this
  exact this
theorem put_code (h : s.good) (hn : s.d.ops + 41 ≤ 1000000) (hb : Bk w B q S g s.d 0 4 s.op s.P) (M : List (BitVec 32)) (hM : M.length ≤ 40) {sm : Option Addr} {bm om cm : Nat} (hm : Ws w sm bm om M.length (nthW M)) (hmb : 0 < M.length → ¬ OwnB B q S g 4 bm) :
    Calls Try.prog 44 #[.pointer (some ⟨B, 0, none⟩), .slice sm M.length cm] w fun e w' => e = .returned (.int .i64 (s.putE M)) ∧ Bk w' B q S g (s.put M).d 0 4 (s.put M).op (s.put M).P ∧ Ch (OwnB B q S g 4) w w' := by
  unfold Jt.putE Jt.put
  cases hop : s.op with
  | false =>
    rw [hop] at hb
    simp only [Bool.false_eq_true, if_false]
    refine (put_no hb sm M.length cm).mono ?_
    rintro e w' ⟨rfl, rfl⟩
    rw [hop]
    exact ⟨rfl, hb, Ch.refl _ _⟩
  | true =>
    rw [hop] at hb
    have hp := h.px hop
    have hrm : roomN s.d 4 = 26 := room4 h.h4.2
    simp only [if_true]
    by_cases hf : (26 : Int) - s.X.length < M.length
    · rw [if_pos hf, if_pos hf]
      refine (put_full hb sm M.length cm (by have := h.pl; omega) (by rw [hrm, hp]; exact hf) (by omega)).mono ?_
      rintro e w' ⟨rfl, m, rfl⟩
      rw [hop]
      exact ⟨rfl, hb.dn m, (Ch.refl _ _).drewN m⟩
    · rw [if_neg hf, if_neg hf]
      refine (put_go hb h.ok (by omega) (cap := cm) hm (by rw [h.h4.1]; exact hmb) (by have := h.pl; omega) (by rw [hrm, hp]; omega)).mono ?_
      rintro e w' ⟨rfl, h1, h2⟩
      exact ⟨rfl, h1, hb4 h h2⟩
def Jt.commitE (s : Jt) (x : BitVec 32) : Int := if s.op = true ∧ 0 < s.X.length then (commitD s.d 0 s.P x).2 else 80
theorem commit_law (h : s.good) (hn : s.d.ops + 41 ≤ 1000000) (hr : RefIn w bL bW s.d.nn) (cL cW : Nat) (hc : s.d.nn.ns * s.d.nn.nw ≤ cL) (hw : Ws w sp bp 0 s.X.length (nthW s.X)) (x : BitVec 32) :
    Calls Try.prog 55 #[.agg (benchC q B bL cL bW cW s.d.nn s.op sp s.X.length cap), .int .u32 (w32 x)] w fun e w' => BenchOut w w' q B bL bW bp (s.commit x).d.nn (s.commit x).op (s.commit x).X (fun v => .tuple #[v, .int .i64 (s.commitE x)]) e := by
  unfold Jt.commitE Jt.commit
  by_cases hc2 : s.op = true ∧ 0 < s.X.length
  · rw [if_pos hc2, if_pos hc2]
    have := lcommit_go (q := q) (B := B) (cap := cap) hr (nn_okE h.ok) cL cW hc s.X x (by show s.d.ops + 8 ≤ 1000000; omega) hw ⟨hc2.2, h.xl⟩
    rw [nn_commitD, ← h.px hc2.1] at this
    rw [hc2.1, ← h.px hc2.1]
    exact this
  · rw [if_neg hc2, if_neg hc2]
    exact lcommit_no hr cL cW hc s.op s.X x hw h.xl hc2
theorem commit_code (h : s.good) (hn : s.d.ops + 41 ≤ 1000000) (hb : Bk w B q S g s.d 0 4 s.op s.P) (x : BitVec 32) :
    Calls Try.prog 45 #[.pointer (some ⟨B, 0, none⟩), .int .u32 (w32 x)] w fun e w' => e = .returned (.int .i64 (s.commitE x)) ∧ Bk w' B q S g (s.commit x).d 0 4 (s.commit x).op (s.commit x).P ∧ Ch (OwnB B q S g 4) w w' := by
  unfold Jt.commitE Jt.commit
  have hpl := h.pl
  by_cases hc2 : s.op = true ∧ 0 < s.X.length
  · rw [if_pos hc2, if_pos hc2]
    rw [hc2.1] at hb
    refine (commit_any hb h.ok (by omega) x ⟨by rw [h.px hc2.1]; exact hc2.2, by omega⟩).mono ?_
    rintro e w' ⟨rfl, h1, h2⟩
    exact ⟨rfl, h1, hb4 h h2⟩
  · rw [if_neg hc2, if_neg hc2]
    refine (commit_no hb x ?_ (by omega)).mono ?_
    · cases hop : s.op with
      | false => exact .inl rfl
      | true => right; rw [h.px hop]; exact Nat.eq_zero_of_not_pos (fun h1 => hc2 ⟨hop, h1⟩)
    · rintro e w' ⟨rfl, rfl⟩
      exact ⟨rfl, hb, Ch.refl _ _⟩
def markR (d : Dev) (t : Bool) : Dev × Int := if t then tryR d 0 4 else confirmR d 0 4
def Jt.mark (s : Jt) (t : Bool) : Jt := ⟨(markR s.d t).1, s.op, s.P, s.X⟩
theorem markR_off {d : Dev} (h : d.on = false) (t : Bool) : markR d t = (d, 63) := by unfold markR tryR confirmR; rw [h]; cases t <;> rfl
theorem markR_bad {d : Dev} (hon : d.on = true) (h : markOK d = false) (t : Bool) : markR d t = (d, 80) := by
  unfold markOK at h
  unfold markR tryR confirmR
  rw [hon]
  simp only [if_true]
  cases hs : stOK d 0 4 with
  | false => cases t <;> rfl
  | true =>
    rw [hs] at h
    have hc : confH (d.word (0 + 1)) = true := by simpa using h
    rw [hc]
    cases t <;> rfl
theorem nn_markR (d : Dev) (t : Bool) : markR d.nn t = ((markR d t).1.nn, (markR d t).2) := by
  unfold markR
  cases t with
  | true => exact nn_tryR d
  | false => exact nn_confirmR d
theorem mark_law (h : s.good) (hn : s.d.ops + 41 ≤ 1000000) (hr : RefIn w bL bW s.d.nn) (cL cW : Nat) (hc : s.d.nn.ns * s.d.nn.nw ≤ cL) (hw : Ws w sp bp 0 s.X.length (nthW s.X)) (t : Bool) :
    Calls Try.prog 56 #[.agg (benchC q B bL cL bW cW s.d.nn s.op sp s.X.length cap), .bool t] w fun e w' => BenchOut w w' q B bL bW bp (s.mark t).d.nn (s.mark t).op (s.mark t).X (fun v => .tuple #[v, .int .i64 (markR s.d t).2]) e := by
  have key : Calls Try.prog 56 #[.agg (benchC q B bL cL bW cW s.d.nn s.op sp s.X.length cap), .bool t] w fun e w' => BenchOut w w' q B bL bW bp (markR s.d.nn t).1 s.op s.X (fun v => .tuple #[v, .int .i64 (markR s.d.nn t).2]) e := by
    cases hon : s.d.nn.on with
    | false => rw [markR_off hon]; exact mark_off hr cL cW hc s.op s.X h.h4 hw t hon
    | true =>
      cases hok : markOK s.d.nn with
      | false => rw [markR_bad hon hok]; exact mark_bad hr cL cW hc s.op s.X h.h4 hw t hon hok
      | true =>
        cases t with
        | true => exact mark_true hr cL cW hc s.op s.X h.h4 hw hon hok (nn_okE h.ok)
        | false => exact mark_false hr cL cW hc s.op s.X h.h4 hw hon hok (nn_okE h.ok) (by show s.d.ops + 2 ≤ 1000000; omega) (nn_keepC h.kc)
  rw [nn_markR] at key
  exact key
theorem confirm_code (h : s.good) (hn : s.d.ops + 41 ≤ 1000000) (hb : Bk w B q S g s.d 0 4 s.op s.P) :
    Calls Try.prog 58 #[.pointer (some ⟨B, 0, none⟩)] w fun e w' => e = .returned (.int .i64 (markR s.d false).2) ∧ Bk w' B q S g (s.mark false).d 0 4 (s.mark false).op (s.mark false).P ∧ Ch (OwnB B q S g 4) w w' :=
  (confirm_any hb h.ok (by omega)).mono fun _ _ ⟨h1, h2, h3⟩ => ⟨h1, h2, hd4 h h3⟩
theorem try_code (h : s.good) (hb : Bk w B q S g s.d 0 4 s.op s.P) :
    Calls Try.prog 57 #[.pointer (some ⟨B, 0, none⟩)] w fun e w' => e = .returned (.int .i64 (markR s.d true).2) ∧ Bk w' B q S g (s.mark true).d 0 4 (s.mark true).op (s.mark true).P ∧ Ch (OwnB B q S g 4) w w' :=
  (try_any hb h.ok).mono fun _ _ ⟨h1, h2, h3⟩ => ⟨h1, h2, hd4 h h3⟩
theorem arm_code (h : s.good) (hb : Bk w B q S g s.d 0 4 s.op s.P) (n : Int) (x : BitVec 32) :
    Calls Try.prog 59 #[.pointer (some ⟨q, 0, none⟩), .agg #[.int .i64 n, .int .u32 (w32 x)]] w fun e w' => e = .returned (.tuple #[]) ∧ Bk w' B q S g (s.armed n x).d 0 4 (s.armed n x).op (s.armed n x).P ∧ Ch (OwnB B q S g 4) w w' :=
  (arm_any hb.dev n x).mono fun _ _ ⟨h1, h2, h3⟩ => ⟨h1, hb.dev' h2 ⟨rfl, rfl⟩ h3, hd4 h h3⟩
theorem power_code (h : s.good) (hb : Bk w B q S g s.d 0 4 s.op s.P) :
    Calls Try.prog 61 #[.pointer (some ⟨q, 0, none⟩), .bool true] w fun e w' => e = .returned (.tuple #[]) ∧ Bk w' B q S g s.power.d 0 4 s.power.op s.power.P ∧ Ch (OwnB B q S g 4) w w' :=
  (power_any hb.dev true).mono fun _ _ ⟨h1, h2, h3⟩ => ⟨h1, hb.dev' h2 ⟨rfl, rfl⟩ h3, hd4 h h3⟩
end
end Go.Proofs.Ythpagbfabpfngaa
