/- Several texts in one: BI, BJ. -/
import Derived.Test.YthpagbfabpfngaaPk16
/- The contract of bank's Commit. -/
namespace Go.Proofs.Ythpagbfabpfngaa
open Go.RowKit

theorem valueO_any {w : World} {B o : Nat} {v : Value} (h : w.cell? ⟨B, o, none⟩ = some v) (hv : ∃ x : Int, v = .int .u32 x) : Calls Try.prog 80 #[.pointer (some ⟨B, o, none⟩)] w fun e w' => e = .returned v ∧ w = w' := by
  obtain ⟨x, rfl⟩ := hv
  go_enter Try.func80, Try.ntmps80
  go_wp2
  go_ret
  exact ⟨rfl, rfl⟩
/-- What Commit programs. -/
def commitK (d : Dev) (base : Nat) (P : List (BitVec 32)) (seq : BitVec 32) : Dev × Int := progK d (base + 1) (fun k => 0 + k) (wrW (hdW seq (BitVec.ofNat 32 P.length) (~~~(runW ones P)))) 6
def commitD (d : Dev) (base : Nat) (P : List (BitVec 32)) (seq : BitVec 32) : Dev × Int :=
  if (commitK d base P seq).2 = 0 then progK (commitK d base P seq).1 (base + 1) (fun k => 6 + k) (wrW (fun _ => comW)) 2 else commitK d base P seq
set_option maxHeartbeats 4000000 in
set_option maxRecDepth 100000 in
theorem commit_no {w : World} {B q S : Nat} {g : Nat → Nat} {d : Dev} {base many : Nat} {op : Bool} {P : List (BitVec 32)} (h : Bk w B q S g d base many op P) (seq : BitVec 32) (hno : op = false ∨ P.length = 0) (hP : P.length ≤ 4096) :
    Calls Try.prog 45 #[.pointer (some ⟨B, 0, none⟩), .int .u32 (w32 seq)] w fun e w' => e = .returned (.int .i64 80) ∧ w = w' := by
  have c3 := h.c3
  have c4 := h.c4
  clear h
  obtain ⟨n, hn⟩ : ∃ n, P.length = n := ⟨_, rfl⟩
  rw [hn] at c4 hno hP
  clear hn
  cases op with
  | true =>
    obtain rfl : n = 0 := by simpa using hno
    go_enter Try.func45, Try.ntmps45
    go_wp2
    go_ret
    exact ⟨rfl, rfl⟩
  | false =>
    go_enter Try.func45, Try.ntmps45
    go_wp2
    go_ret
    exact ⟨rfl, rfl⟩
set_option maxHeartbeats 4000000 in
set_option maxRecDepth 100000 in
theorem commit_any {w : World} {B q S : Nat} {g : Nat → Nat} {d : Dev} {base many : Nat} {P : List (BitVec 32)} (h : Bk w B q S g d base many true P) (ho : d.okE) (hn : d.ops + 8 ≤ 1000000) (seq : BitVec 32) (hP : 0 < P.length ∧ P.length ≤ 4096) :
    Calls Try.prog 45 #[.pointer (some ⟨B, 0, none⟩), .int .u32 (w32 seq)] w fun e w' => e = .returned (.int .i64 (commitD d base P seq).2) ∧ Bk w' B q S g (commitD d base P seq).1 base many false P ∧ Ch (OwnB B q S g d.ns) w w' := by
  have c3 := h.c3
  have c4 := h.c4
  have f3 := h.box.fr 3
  have h1 := h.setOp false
  obtain ⟨w1, hw1⟩ : ∃ w1, w.setCell ⟨B, 3, none⟩ (.bool false) = w1 := ⟨_, rfl⟩
  have ch1 : Ch (OwnB B q S g d.ns) w w1 := by rw [← hw1]; exact (Ch.refl _ _).setCell _ _ (.inl (.inl rfl))
  rw [hw1] at h1
  have H1 := Lib.hid (And.intro h1 ch1)
  have s4 := h1.c4
  have s5 := h1.box.cell 5 _ rfl
  obtain ⟨n, hnn⟩ : ∃ n, P.length = n := ⟨_, rfl⟩
  obtain ⟨cs, hcs⟩ : ∃ cs, ~~~(runW ones P) = cs := ⟨_, rfl⟩
  rw [hnn] at c4 s4 hP
  rw [hcs] at s5
  have HN := Lib.hid (And.intro hnn (And.intro hcs (And.intro hP hn)))
  have dn : ¬ n = 0 := by omega
  have cv : IntKind.u32.wrap (n : Int) = (n : Int) := by rw [IntKind.wrap_u32]; omega
  have HK := Lib.hid (show ∀ W', Below w1.heap.size w1 W' → W'.cell? ⟨B, 4, none⟩ = some (.int .i64 (n : Nat)) ∧ W'.cell? ⟨B, 5, none⟩ = some (.int .u32 (w32 cs)) from fun W' hb => ⟨(hb.cell (p := ⟨B, 4, none⟩) h1.box.lt).trans s4, (hb.cell (p := ⟨B, 5, none⟩) h1.box.lt).trans s5⟩)
  have hK : commitK d base P seq = progK d (base + 1) (fun k => 0 + k) (wrW (hdW seq (BitVec.ofNat 32 n) cs)) 6 := by unfold commitK; rw [hnn, hcs]
  have hD : commitD d base P seq = if (commitK d base P seq).2 = 0 then progK (commitK d base P seq).1 (base + 1) (fun k => 6 + k) (wrW (fun _ => comW)) 2 else commitK d base P seq := rfl
  rw [hK] at hD
  have hz := h1.dev.zn
  have hk1 := progK_kept (from_ := base + 1) (at_ := fun k => 0 + k) (ws := wrW (hdW seq (BitVec.ofNat 32 n) cs)) (n := 6) ho (by omega) (by omega) hz.2.2.2 6 (by omega)
  have HPr1 := Lib.hid (fun (wx : World) (gf : Nat) (lb : Array Value) (hx : Bk wx B q S g d base many false P) (hg : GivesTo wx q S g d.ns gf lb 6 (fun k => 0 + k) (wrW (hdW seq (BitVec.ofNat 32 n) cs))) => bprogram_any hx ho 1 (by omega) gf lb 6 _ _ (by omega) (fun k hk => by omega) hg)
  obtain ⟨⟨d1, e1⟩, hp1⟩ : ∃ p, progK d (base + 1) (fun k => 0 + k) (wrW (hdW seq (BitVec.ofNat 32 n) cs)) 6 = p := ⟨_, rfl⟩
  rw [hp1] at hD hk1
  simp only [hp1] at HPr1
  simp only at hD hk1
  have ho1 := hk1.okE ho (by omega)
  have HPr2 := Lib.hid (fun (wx : World) (gf : Nat) (lb : Array Value) (hx : Bk wx B q S g d1 base many false P) (hg : GivesTo wx q S g d1.ns gf lb 2 (fun k => 6 + k) (wrW (fun _ => comW))) => bprogram_any hx ho1 1 (by omega) gf lb 2 _ _ (by have := hk1.ops; omega) (fun k hk => by omega) hg)
  have wn : w32 (BitVec.ofNat 32 n) = (n : Int) := by unfold w32; rw [BitVec.toNat_ofNat]; omega
  have HWr := Lib.hid (fun (wx : World) => (by have := writes_any seq (BitVec.ofNat 32 n) cs wx; rw [wn] at this; exact this : Calls Try.prog 81 #[.agg #[.int .u32 (w32 seq), .int .u32 (n : Nat), .int .u32 (w32 cs)]] wx fun e w' => ∃ v, e = .returned v ∧ Gives wx.heap.size w' v 3 0 (hdW seq (BitVec.ofNat 32 n) cs) ∧ Below wx.heap.size wx w'))
  have HNs := Lib.hid hk1.ns
  obtain ⟨DD, hDD⟩ : ∃ DD, commitD d base P seq = DD := ⟨_, rfl⟩
  rw [hDD] at hD ⊢
  have H2 := Lib.hid (show Bk (w1.alloc (.cells #[.int .u32 (w32 seq), .int .u32 (n : Nat), .int .u32 (w32 cs)] 45)).drew B q S g d base many false P ∧ Ch (OwnB B q S g d.ns) w (w1.alloc (.cells #[.int .u32 (w32 seq), .int .u32 (n : Nat), .int .u32 (w32 cs)] 45)).drew from by
    have hb : Below w1.heap.size w1 (w1.alloc (.cells #[.int .u32 (w32 seq), .int .u32 (n : Nat), .int .u32 (w32 cs)] 45)).drew := ((Below.refl _ _).alloc (Nat.le_refl _) _).drew
    exact ⟨h1.new hb, ch1.trans (Ch.new hb)⟩)
  have HQ := Lib.hid (show RowAt (w1.alloc (.cells #[.int .u32 (w32 seq), .int .u32 (n : Nat), .int .u32 (w32 cs)] 45)).drew w1.heap.size 45 #[.int .u32 (w32 seq), .int .u32 (n : Nat), .int .u32 (w32 cs)] from RowAt.mk w1 _ _)
  clear h h1 ch1 hnn hcs hP s4 s5 hn ho hK hp1 ho1 hk1 hz wn hDD
  by_cases he : e1 = 0
  · subst he
    rw [if_pos rfl] at hD
    go_enter Try.func45, Try.ntmps45
    go_wp2
    clear hw1 c3 c4 f3
    refine wp_region_held_drew (S := fun w' => w'.cell? ⟨B, 4, none⟩ = some (.int .i64 (n : Nat)) ∧ w'.cell? ⟨B, 5, none⟩ = some (.int .u32 (w32 cs))) (by kernel_rfl) (HK.out _ (Below.refl _ _).drew) (fun hS => ?_)
    refine wpAnyH_take (i := 0) (oi := { dst := some 22, op := .move (.tmp 1), type := 26, pos := "bank.go:206", after := #[], guard := none }) (v := ?_) rfl (by kernel_rfl) (by kernel_rfl) (by kernel_rfl) (fun _ _ _ h => h) (Or.inl ⟨by rfl, ?_⟩) hS ?_
    rotate_left 1
    · intro w hw; obtain ⟨s0, s1⟩ := hw; go_simp; try (with_reducible rfl)
    simp only [Act.put, List.setIfInBounds_toArray, List.set_cons_zero, List.set_cons_succ]
    refine wpAnyH_take (i := 1) (oi := { dst := some 23, op := .move (.tmp 0), type := 35, pos := "bank.go:206", after := #[], guard := none }) (v := ?_) rfl (by kernel_rfl) (by kernel_rfl) (by kernel_rfl) (fun _ _ _ h => h) (Or.inl ⟨by rfl, ?_⟩) hS ?_
    rotate_left 1
    · intro w hw; obtain ⟨s0, s1⟩ := hw; go_simp; try (with_reducible rfl)
    simp only [Act.put, List.setIfInBounds_toArray, List.set_cons_zero, List.set_cons_succ]
    refine wpAnyH_take (i := 2) (oi := { dst := some 24, op := .nilCheck (.tmp 23), type := 0, pos := "bank.go:206", after := #[{ on := 1, ground := .data }], guard := none }) (v := ?_) rfl (by kernel_rfl) (by kernel_rfl) (by kernel_rfl) (fun _ _ _ h => h) (Or.inl ⟨by rfl, ?_⟩) hS ?_
    rotate_left 1
    · intro w hw; obtain ⟨s0, s1⟩ := hw; go_simp; try (with_reducible rfl)
    simp only [Act.put, List.setIfInBounds_toArray, List.set_cons_zero, List.set_cons_succ]
    refine wpAnyH_take (i := 3) (oi := { dst := some 25, op := .fieldAddr 99 (.tmp 24) 4, type := 0, pos := "bank.go:206", after := #[{ on := 2, ground := .data }], guard := none }) (v := ?_) rfl (by kernel_rfl) (by kernel_rfl) (by kernel_rfl) (fun _ _ _ h => h) (Or.inl ⟨by rfl, ?_⟩) hS ?_
    rotate_left 1
    · intro w hw; obtain ⟨s0, s1⟩ := hw; go_simp; try (with_reducible rfl)
    simp only [Act.put, List.setIfInBounds_toArray, List.set_cons_zero, List.set_cons_succ]
    refine wpAnyH_take (i := 4) (oi := { dst := some 26, op := .load 3 (.tmp 25), type := 3, pos := "bank.go:206", after := #[{ on := 3, ground := .data }], guard := none }) (v := ?_) rfl (by kernel_rfl) (by kernel_rfl) (by kernel_rfl) (fun _ _ _ h => h) (Or.inl ⟨by rfl, ?_⟩) hS ?_
    rotate_left 1
    · intro w hw; obtain ⟨s0, s1⟩ := hw; go_simp; try (with_reducible rfl)
    simp only [Act.put, List.setIfInBounds_toArray, List.set_cons_zero, List.set_cons_succ]
    refine wpAnyH_take (i := 5) (oi := { dst := some 27, op := .convert 3 26 (.tmp 26), type := 26, pos := "bank.go:206", after := #[{ on := 4, ground := .data }], guard := none }) (v := ?_) rfl (by kernel_rfl) (by kernel_rfl) (by kernel_rfl) (fun _ _ _ h => h) (Or.inl ⟨by rfl, ?_⟩) hS ?_
    rotate_left 1
    · intro w hw; obtain ⟨s0, s1⟩ := hw; go_simp; try (with_reducible rfl)
    simp only [Act.put, List.setIfInBounds_toArray, List.set_cons_zero, List.set_cons_succ]
    refine wpAnyH_take (i := 6) (oi := { dst := some 28, op := .move (.tmp 0), type := 35, pos := "bank.go:206", after := #[], guard := none }) (v := ?_) rfl (by kernel_rfl) (by kernel_rfl) (by kernel_rfl) (fun _ _ _ h => h) (Or.inl ⟨by rfl, ?_⟩) hS ?_
    rotate_left 1
    · intro w hw; obtain ⟨s0, s1⟩ := hw; go_simp; try (with_reducible rfl)
    simp only [Act.put, List.setIfInBounds_toArray, List.set_cons_zero, List.set_cons_succ]
    refine wpAnyH_take (i := 7) (oi := { dst := some 29, op := .nilCheck (.tmp 28), type := 0, pos := "bank.go:206", after := #[{ on := 6, ground := .data }], guard := none }) (v := ?_) rfl (by kernel_rfl) (by kernel_rfl) (by kernel_rfl) (fun _ _ _ h => h) (Or.inl ⟨by rfl, ?_⟩) hS ?_
    rotate_left 1
    · intro w hw; obtain ⟨s0, s1⟩ := hw; go_simp; try (with_reducible rfl)
    simp only [Act.put, List.setIfInBounds_toArray, List.set_cons_zero, List.set_cons_succ]
    refine wpAnyH_take (i := 8) (oi := { dst := some 30, op := .fieldAddr 99 (.tmp 29) 5, type := 0, pos := "bank.go:206", after := #[{ on := 7, ground := .data }], guard := none }) (v := ?_) rfl (by kernel_rfl) (by kernel_rfl) (by kernel_rfl) (fun _ _ _ h => h) (Or.inl ⟨by rfl, ?_⟩) hS ?_
    rotate_left 1
    · intro w hw; obtain ⟨s0, s1⟩ := hw; go_simp; try (with_reducible rfl)
    simp only [Act.put, List.setIfInBounds_toArray, List.set_cons_zero, List.set_cons_succ]
    refine wpAnyH_ready (rs := [9, 11]) (by kernel_rfl) (by simp) (AllReadyH.cons (o := { dst := some 31, op := .call { callee := .value (.func 80), args := #[.tmp 30], argTypes := #[97] }, type := 26, pos := "bank.go:206", after := #[{ on := 8, ground := .data }], guard := none }) rfl (fun K hK => ?_) (AllReadyH.cons (o := { dst := some 5, op := .alloc 45, type := 0, pos := "bank.go:206", after := #[], guard := none }) rfl (fun K hK => ?_) AllReadyH.nil))
    · go_simp
      refine (valueO_any (HK.out _ (Below.refl _ _).drew).2 ⟨_, rfl⟩).mono ?_
      rintro e w4 ⟨rfl, rfl⟩
      try dsimp only
      refine hK.out _ _ (HK.out _ (Below.refl _ _).drew) (fun hHeld => ?_)
      clear hK K
      try simp only [Act.put, List.setIfInBounds_toArray, List.set_cons_zero, List.set_cons_succ]
      refine wpAnyH_take (i := 10) (oi := { dst := some 32, op := .build 45 #[(0, .tmp 22), (1, .tmp 27), (2, .tmp 31)], type := 45, pos := "bank.go:206", after := #[{ on := 0, ground := .data }, { on := 5, ground := .data }, { on := 9, ground := .data }], guard := none }) (v := ?_) rfl (by kernel_rfl) (by kernel_rfl) (by kernel_rfl) (fun _ _ _ h => h) (Or.inl ⟨by rfl, ?_⟩) (HK.out _ (Below.refl _ _).drew) ?_
      rotate_left 1
      · intro w hw; obtain ⟨s0, s1⟩ := hw; go_simp; try (with_reducible rfl)
      simp only [Act.put, List.setIfInBounds_toArray, List.set_cons_zero, List.set_cons_succ]
      refine wpAnyH_ready (rs := [11]) (by kernel_rfl) (by simp) (AllReadyH.cons (o := { dst := some 5, op := .alloc 45, type := 0, pos := "bank.go:206", after := #[], guard := none }) rfl (fun K hK => ?_) AllReadyH.nil)
      go_simp
      refine hK.out _ _ (HK.out _ ((Below.refl _ _).alloc (Nat.le_refl _) _).drew) (fun hHeld => ?_)
      clear hK K
      try simp only [Act.put, List.setIfInBounds_toArray, List.set_cons_zero, List.set_cons_succ]
      refine wpAnyH_ready (rs := [12]) (by kernel_rfl) (by simp) (AllReadyH.cons (o := { dst := none, op := .store 45 (.tmp 5) (.tmp 32), type := 0, pos := "bank.go:206", after := #[{ on := 11, ground := .data }, { on := 10, ground := .data }, { on := 9, ground := .chain }, { on := 0, ground := .phase }, { on := 1, ground := .phase }, { on := 2, ground := .phase }, { on := 3, ground := .phase }, { on := 4, ground := .phase }, { on := 5, ground := .phase }, { on := 6, ground := .phase }, { on := 7, ground := .phase }, { on := 8, ground := .phase }, { on := 9, ground := .phase }, { on := 10, ground := .phase }, { on := 11, ground := .phase }], guard := none }) rfl (fun K hK => ?_) AllReadyH.nil)
      go_simp
      refine hK.out _ _ (HK.out _ ((Below.refl _ _).alloc (Nat.le_refl _) _).drew) (fun hHeld => ?_)
      clear hK K
      try simp only [Act.put, List.setIfInBounds_toArray, List.set_cons_zero, List.set_cons_succ]
      refine wpAnyH_done (by kernel_rfl) ?_ _
      have q0 : (w1.alloc (.cells #[.int .u32 (w32 seq), .int .u32 (n : Nat), .int .u32 (w32 cs)] 45)).drew.cell? ⟨w1.heap.size, 0, none⟩ = some (.int .u32 (w32 seq)) := HQ.out.cell 0
      have q1 : (w1.alloc (.cells #[.int .u32 (w32 seq), .int .u32 (n : Nat), .int .u32 (w32 cs)] 45)).drew.cell? ⟨w1.heap.size, 1, none⟩ = some (.int .u32 (n : Nat)) := HQ.out.cell 1
      have q2 : (w1.alloc (.cells #[.int .u32 (w32 seq), .int .u32 (n : Nat), .int .u32 (w32 cs)] 45)).drew.cell? ⟨w1.heap.size, 2, none⟩ = some (.int .u32 (w32 cs)) := HQ.out.cell 2
      obtain ⟨z, hz⟩ : ∃ z, w1.heap.size = z := ⟨_, rfl⟩
      obtain ⟨w3, hw3⟩ : ∃ w3, (w1.alloc (.cells #[.int .u32 (w32 seq), .int .u32 (n : Nat), .int .u32 (w32 cs)] 45)).drew = w3 := ⟨_, rfl⟩
      rw [hw3] at H2 HQ q0 q1 q2 ⊢
      rw [hz] at HQ q0 q1 q2 ⊢
      clear hw3 hz hS
      go_wp2_with (first
        | (go_at_call 81; refine (HWr.out _).mono ?_; rintro e w4 ⟨v, rfl, hg, hb⟩; have H4 := Lib.hid (And.intro (H2.out.1.new hb) (H2.out.2.trans (Ch.new hb))); obtain ⟨gf, lb, rfl, hto⟩ := Gives.to (at_ := 0) hg (by omega) (by omega) (fun j hj => H2.out.1.lt j (.inr hj)); have HT := Lib.hid hto; clear hg hb hto)
        | (go_at_call 77; refine (HPr1.out _ _ _ H4.out.1 HT.out).mono ?_; rintro e w5 ⟨rfl, h5, k5⟩; have H5 := Lib.hid (And.intro h5 (H4.out.2.trans (k5.mono fun j _ hj => .inr hj))); clear h5 k5)
        | fail)
      refine (commits_any _).mono ?_
      rintro e w6 ⟨v, rfl, hg, hb⟩
      have H6 := Lib.hid (And.intro (H5.out.1.new hb) (H5.out.2.trans (Ch.new hb)))
      obtain ⟨gf6, lb6, rfl, hto⟩ := Gives.to (at_ := 6) hg (by omega) (by omega) (fun j hj => H5.out.1.lt j (.inr hj))
      have HT6 := Lib.hid hto
      clear hg hb hto
      go_wp2_with (first
        | (go_at_call 77; refine (HPr2.out _ _ _ H6.out.1 HT6.out).mono ?_; rintro e w7 ⟨rfl, h7, k7⟩; have H7 := Lib.hid (And.intro h7 (H6.out.2.trans (k7.mono fun j _ hj => .inr (by rw [← HNs.out]; exact hj)))); clear h7 k7)
        | fail)
      go_ret
      subst hD
      exact ⟨rfl, H7.out⟩
    · go_simp
      refine hK.out _ _ (HK.out _ ((Below.refl _ _).alloc (Nat.le_refl _) _).drew) (fun hHeld => ?_)
      clear hK K
      try simp only [Act.put, List.setIfInBounds_toArray, List.set_cons_zero, List.set_cons_succ]
      refine wpAnyH_ready (rs := [9]) (by kernel_rfl) (by simp) (AllReadyH.cons (o := { dst := some 31, op := .call { callee := .value (.func 80), args := #[.tmp 30], argTypes := #[97] }, type := 26, pos := "bank.go:206", after := #[{ on := 8, ground := .data }], guard := none }) rfl (fun K hK => ?_) AllReadyH.nil)
      go_simp
      refine (valueO_any (HK.out _ ((Below.refl _ _).alloc (Nat.le_refl _) _).drew).2 ⟨_, rfl⟩).mono ?_
      rintro e w4 ⟨rfl, rfl⟩
      try dsimp only
      refine hK.out _ _ (HK.out _ ((Below.refl _ _).alloc (Nat.le_refl _) _).drew) (fun hHeld => ?_)
      clear hK K
      try simp only [Act.put, List.setIfInBounds_toArray, List.set_cons_zero, List.set_cons_succ]
      refine wpAnyH_take (i := 10) (oi := { dst := some 32, op := .build 45 #[(0, .tmp 22), (1, .tmp 27), (2, .tmp 31)], type := 45, pos := "bank.go:206", after := #[{ on := 0, ground := .data }, { on := 5, ground := .data }, { on := 9, ground := .data }], guard := none }) (v := ?_) rfl (by kernel_rfl) (by kernel_rfl) (by kernel_rfl) (fun _ _ _ h => h) (Or.inl ⟨by rfl, ?_⟩) (HK.out _ ((Below.refl _ _).alloc (Nat.le_refl _) _).drew) ?_
      rotate_left 1
      · intro w hw; obtain ⟨s0, s1⟩ := hw; go_simp; try (with_reducible rfl)
      simp only [Act.put, List.setIfInBounds_toArray, List.set_cons_zero, List.set_cons_succ]
      refine wpAnyH_ready (rs := [12]) (by kernel_rfl) (by simp) (AllReadyH.cons (o := { dst := none, op := .store 45 (.tmp 5) (.tmp 32), type := 0, pos := "bank.go:206", after := #[{ on := 11, ground := .data }, { on := 10, ground := .data }, { on := 9, ground := .chain }, { on := 0, ground := .phase }, { on := 1, ground := .phase }, { on := 2, ground := .phase }, { on := 3, ground := .phase }, { on := 4, ground := .phase }, { on := 5, ground := .phase }, { on := 6, ground := .phase }, { on := 7, ground := .phase }, { on := 8, ground := .phase }, { on := 9, ground := .phase }, { on := 10, ground := .phase }, { on := 11, ground := .phase }], guard := none }) rfl (fun K hK => ?_) AllReadyH.nil)
      go_simp
      refine hK.out _ _ (HK.out _ ((Below.refl _ _).alloc (Nat.le_refl _) _).drew) (fun hHeld => ?_)
      clear hK K
      try simp only [Act.put, List.setIfInBounds_toArray, List.set_cons_zero, List.set_cons_succ]
      refine wpAnyH_done (by kernel_rfl) ?_ _
      have q0 : (w1.alloc (.cells #[.int .u32 (w32 seq), .int .u32 (n : Nat), .int .u32 (w32 cs)] 45)).drew.cell? ⟨w1.heap.size, 0, none⟩ = some (.int .u32 (w32 seq)) := HQ.out.cell 0
      have q1 : (w1.alloc (.cells #[.int .u32 (w32 seq), .int .u32 (n : Nat), .int .u32 (w32 cs)] 45)).drew.cell? ⟨w1.heap.size, 1, none⟩ = some (.int .u32 (n : Nat)) := HQ.out.cell 1
      have q2 : (w1.alloc (.cells #[.int .u32 (w32 seq), .int .u32 (n : Nat), .int .u32 (w32 cs)] 45)).drew.cell? ⟨w1.heap.size, 2, none⟩ = some (.int .u32 (w32 cs)) := HQ.out.cell 2
      obtain ⟨z, hz⟩ : ∃ z, w1.heap.size = z := ⟨_, rfl⟩
      obtain ⟨w3, hw3⟩ : ∃ w3, (w1.alloc (.cells #[.int .u32 (w32 seq), .int .u32 (n : Nat), .int .u32 (w32 cs)] 45)).drew = w3 := ⟨_, rfl⟩
      rw [hw3] at H2 HQ q0 q1 q2 ⊢
      rw [hz] at HQ q0 q1 q2 ⊢
      clear hw3 hz hS
      go_wp2_with (first
        | (go_at_call 81; refine (HWr.out _).mono ?_; rintro e w4 ⟨v, rfl, hg, hb⟩; have H4 := Lib.hid (And.intro (H2.out.1.new hb) (H2.out.2.trans (Ch.new hb))); obtain ⟨gf, lb, rfl, hto⟩ := Gives.to (at_ := 0) hg (by omega) (by omega) (fun j hj => H2.out.1.lt j (.inr hj)); have HT := Lib.hid hto; clear hg hb hto)
        | (go_at_call 77; refine (HPr1.out _ _ _ H4.out.1 HT.out).mono ?_; rintro e w5 ⟨rfl, h5, k5⟩; have H5 := Lib.hid (And.intro h5 (H4.out.2.trans (k5.mono fun j _ hj => .inr hj))); clear h5 k5)
        | fail)
      refine (commits_any _).mono ?_
      rintro e w6 ⟨v, rfl, hg, hb⟩
      have H6 := Lib.hid (And.intro (H5.out.1.new hb) (H5.out.2.trans (Ch.new hb)))
      obtain ⟨gf6, lb6, rfl, hto⟩ := Gives.to (at_ := 6) hg (by omega) (by omega) (fun j hj => H5.out.1.lt j (.inr hj))
      have HT6 := Lib.hid hto
      clear hg hb hto
      go_wp2_with (first
        | (go_at_call 77; refine (HPr2.out _ _ _ H6.out.1 HT6.out).mono ?_; rintro e w7 ⟨rfl, h7, k7⟩; have H7 := Lib.hid (And.intro h7 (H6.out.2.trans (k7.mono fun j _ hj => .inr (by rw [← HNs.out]; exact hj)))); clear h7 k7)
        | fail)
      go_ret
      subst hD
      exact ⟨rfl, H7.out⟩

  · rw [if_neg he] at hD
    go_enter Try.func45, Try.ntmps45
    go_wp2
    clear hw1 c3 c4 f3
    refine wp_region_held_drew (S := fun w' => w'.cell? ⟨B, 4, none⟩ = some (.int .i64 (n : Nat)) ∧ w'.cell? ⟨B, 5, none⟩ = some (.int .u32 (w32 cs))) (by kernel_rfl) (HK.out _ (Below.refl _ _).drew) (fun hS => ?_)
    refine wpAnyH_take (i := 0) (oi := { dst := some 22, op := .move (.tmp 1), type := 26, pos := "bank.go:206", after := #[], guard := none }) (v := ?_) rfl (by kernel_rfl) (by kernel_rfl) (by kernel_rfl) (fun _ _ _ h => h) (Or.inl ⟨by rfl, ?_⟩) hS ?_
    rotate_left 1
    · intro w hw; obtain ⟨s0, s1⟩ := hw; go_simp; try (with_reducible rfl)
    simp only [Act.put, List.setIfInBounds_toArray, List.set_cons_zero, List.set_cons_succ]
    refine wpAnyH_take (i := 1) (oi := { dst := some 23, op := .move (.tmp 0), type := 35, pos := "bank.go:206", after := #[], guard := none }) (v := ?_) rfl (by kernel_rfl) (by kernel_rfl) (by kernel_rfl) (fun _ _ _ h => h) (Or.inl ⟨by rfl, ?_⟩) hS ?_
    rotate_left 1
    · intro w hw; obtain ⟨s0, s1⟩ := hw; go_simp; try (with_reducible rfl)
    simp only [Act.put, List.setIfInBounds_toArray, List.set_cons_zero, List.set_cons_succ]
    refine wpAnyH_take (i := 2) (oi := { dst := some 24, op := .nilCheck (.tmp 23), type := 0, pos := "bank.go:206", after := #[{ on := 1, ground := .data }], guard := none }) (v := ?_) rfl (by kernel_rfl) (by kernel_rfl) (by kernel_rfl) (fun _ _ _ h => h) (Or.inl ⟨by rfl, ?_⟩) hS ?_
    rotate_left 1
    · intro w hw; obtain ⟨s0, s1⟩ := hw; go_simp; try (with_reducible rfl)
    simp only [Act.put, List.setIfInBounds_toArray, List.set_cons_zero, List.set_cons_succ]
    refine wpAnyH_take (i := 3) (oi := { dst := some 25, op := .fieldAddr 99 (.tmp 24) 4, type := 0, pos := "bank.go:206", after := #[{ on := 2, ground := .data }], guard := none }) (v := ?_) rfl (by kernel_rfl) (by kernel_rfl) (by kernel_rfl) (fun _ _ _ h => h) (Or.inl ⟨by rfl, ?_⟩) hS ?_
    rotate_left 1
    · intro w hw; obtain ⟨s0, s1⟩ := hw; go_simp; try (with_reducible rfl)
    simp only [Act.put, List.setIfInBounds_toArray, List.set_cons_zero, List.set_cons_succ]
    refine wpAnyH_take (i := 4) (oi := { dst := some 26, op := .load 3 (.tmp 25), type := 3, pos := "bank.go:206", after := #[{ on := 3, ground := .data }], guard := none }) (v := ?_) rfl (by kernel_rfl) (by kernel_rfl) (by kernel_rfl) (fun _ _ _ h => h) (Or.inl ⟨by rfl, ?_⟩) hS ?_
    rotate_left 1
    · intro w hw; obtain ⟨s0, s1⟩ := hw; go_simp; try (with_reducible rfl)
    simp only [Act.put, List.setIfInBounds_toArray, List.set_cons_zero, List.set_cons_succ]
    refine wpAnyH_take (i := 5) (oi := { dst := some 27, op := .convert 3 26 (.tmp 26), type := 26, pos := "bank.go:206", after := #[{ on := 4, ground := .data }], guard := none }) (v := ?_) rfl (by kernel_rfl) (by kernel_rfl) (by kernel_rfl) (fun _ _ _ h => h) (Or.inl ⟨by rfl, ?_⟩) hS ?_
    rotate_left 1
    · intro w hw; obtain ⟨s0, s1⟩ := hw; go_simp; try (with_reducible rfl)
    simp only [Act.put, List.setIfInBounds_toArray, List.set_cons_zero, List.set_cons_succ]
    refine wpAnyH_take (i := 6) (oi := { dst := some 28, op := .move (.tmp 0), type := 35, pos := "bank.go:206", after := #[], guard := none }) (v := ?_) rfl (by kernel_rfl) (by kernel_rfl) (by kernel_rfl) (fun _ _ _ h => h) (Or.inl ⟨by rfl, ?_⟩) hS ?_
    rotate_left 1
    · intro w hw; obtain ⟨s0, s1⟩ := hw; go_simp; try (with_reducible rfl)
    simp only [Act.put, List.setIfInBounds_toArray, List.set_cons_zero, List.set_cons_succ]
    refine wpAnyH_take (i := 7) (oi := { dst := some 29, op := .nilCheck (.tmp 28), type := 0, pos := "bank.go:206", after := #[{ on := 6, ground := .data }], guard := none }) (v := ?_) rfl (by kernel_rfl) (by kernel_rfl) (by kernel_rfl) (fun _ _ _ h => h) (Or.inl ⟨by rfl, ?_⟩) hS ?_
    rotate_left 1
    · intro w hw; obtain ⟨s0, s1⟩ := hw; go_simp; try (with_reducible rfl)
    simp only [Act.put, List.setIfInBounds_toArray, List.set_cons_zero, List.set_cons_succ]
    refine wpAnyH_take (i := 8) (oi := { dst := some 30, op := .fieldAddr 99 (.tmp 29) 5, type := 0, pos := "bank.go:206", after := #[{ on := 7, ground := .data }], guard := none }) (v := ?_) rfl (by kernel_rfl) (by kernel_rfl) (by kernel_rfl) (fun _ _ _ h => h) (Or.inl ⟨by rfl, ?_⟩) hS ?_
    rotate_left 1
    · intro w hw; obtain ⟨s0, s1⟩ := hw; go_simp; try (with_reducible rfl)
    simp only [Act.put, List.setIfInBounds_toArray, List.set_cons_zero, List.set_cons_succ]
    refine wpAnyH_ready (rs := [9, 11]) (by kernel_rfl) (by simp) (AllReadyH.cons (o := { dst := some 31, op := .call { callee := .value (.func 80), args := #[.tmp 30], argTypes := #[97] }, type := 26, pos := "bank.go:206", after := #[{ on := 8, ground := .data }], guard := none }) rfl (fun K hK => ?_) (AllReadyH.cons (o := { dst := some 5, op := .alloc 45, type := 0, pos := "bank.go:206", after := #[], guard := none }) rfl (fun K hK => ?_) AllReadyH.nil))
    · go_simp
      refine (valueO_any (HK.out _ (Below.refl _ _).drew).2 ⟨_, rfl⟩).mono ?_
      rintro e w4 ⟨rfl, rfl⟩
      try dsimp only
      refine hK.out _ _ (HK.out _ (Below.refl _ _).drew) (fun hHeld => ?_)
      clear hK K
      try simp only [Act.put, List.setIfInBounds_toArray, List.set_cons_zero, List.set_cons_succ]
      refine wpAnyH_take (i := 10) (oi := { dst := some 32, op := .build 45 #[(0, .tmp 22), (1, .tmp 27), (2, .tmp 31)], type := 45, pos := "bank.go:206", after := #[{ on := 0, ground := .data }, { on := 5, ground := .data }, { on := 9, ground := .data }], guard := none }) (v := ?_) rfl (by kernel_rfl) (by kernel_rfl) (by kernel_rfl) (fun _ _ _ h => h) (Or.inl ⟨by rfl, ?_⟩) (HK.out _ (Below.refl _ _).drew) ?_
      rotate_left 1
      · intro w hw; obtain ⟨s0, s1⟩ := hw; go_simp; try (with_reducible rfl)
      simp only [Act.put, List.setIfInBounds_toArray, List.set_cons_zero, List.set_cons_succ]
      refine wpAnyH_ready (rs := [11]) (by kernel_rfl) (by simp) (AllReadyH.cons (o := { dst := some 5, op := .alloc 45, type := 0, pos := "bank.go:206", after := #[], guard := none }) rfl (fun K hK => ?_) AllReadyH.nil)
      go_simp
      refine hK.out _ _ (HK.out _ ((Below.refl _ _).alloc (Nat.le_refl _) _).drew) (fun hHeld => ?_)
      clear hK K
      try simp only [Act.put, List.setIfInBounds_toArray, List.set_cons_zero, List.set_cons_succ]
      refine wpAnyH_ready (rs := [12]) (by kernel_rfl) (by simp) (AllReadyH.cons (o := { dst := none, op := .store 45 (.tmp 5) (.tmp 32), type := 0, pos := "bank.go:206", after := #[{ on := 11, ground := .data }, { on := 10, ground := .data }, { on := 9, ground := .chain }, { on := 0, ground := .phase }, { on := 1, ground := .phase }, { on := 2, ground := .phase }, { on := 3, ground := .phase }, { on := 4, ground := .phase }, { on := 5, ground := .phase }, { on := 6, ground := .phase }, { on := 7, ground := .phase }, { on := 8, ground := .phase }, { on := 9, ground := .phase }, { on := 10, ground := .phase }, { on := 11, ground := .phase }], guard := none }) rfl (fun K hK => ?_) AllReadyH.nil)
      go_simp
      refine hK.out _ _ (HK.out _ ((Below.refl _ _).alloc (Nat.le_refl _) _).drew) (fun hHeld => ?_)
      clear hK K
      try simp only [Act.put, List.setIfInBounds_toArray, List.set_cons_zero, List.set_cons_succ]
      refine wpAnyH_done (by kernel_rfl) ?_ _
      have q0 : (w1.alloc (.cells #[.int .u32 (w32 seq), .int .u32 (n : Nat), .int .u32 (w32 cs)] 45)).drew.cell? ⟨w1.heap.size, 0, none⟩ = some (.int .u32 (w32 seq)) := HQ.out.cell 0
      have q1 : (w1.alloc (.cells #[.int .u32 (w32 seq), .int .u32 (n : Nat), .int .u32 (w32 cs)] 45)).drew.cell? ⟨w1.heap.size, 1, none⟩ = some (.int .u32 (n : Nat)) := HQ.out.cell 1
      have q2 : (w1.alloc (.cells #[.int .u32 (w32 seq), .int .u32 (n : Nat), .int .u32 (w32 cs)] 45)).drew.cell? ⟨w1.heap.size, 2, none⟩ = some (.int .u32 (w32 cs)) := HQ.out.cell 2
      obtain ⟨z, hz⟩ : ∃ z, w1.heap.size = z := ⟨_, rfl⟩
      obtain ⟨w3, hw3⟩ : ∃ w3, (w1.alloc (.cells #[.int .u32 (w32 seq), .int .u32 (n : Nat), .int .u32 (w32 cs)] 45)).drew = w3 := ⟨_, rfl⟩
      rw [hw3] at H2 HQ q0 q1 q2 ⊢
      rw [hz] at HQ q0 q1 q2 ⊢
      clear hw3 hz hS
      go_wp2_with (first
        | (go_at_call 81; refine (HWr.out _).mono ?_; rintro e w4 ⟨v, rfl, hg, hb⟩; have H4 := Lib.hid (And.intro (H2.out.1.new hb) (H2.out.2.trans (Ch.new hb))); obtain ⟨gf, lb, rfl, hto⟩ := Gives.to (at_ := 0) hg (by omega) (by omega) (fun j hj => H2.out.1.lt j (.inr hj)); have HT := Lib.hid hto; clear hg hb hto)
        | (go_at_call 77; refine (HPr1.out _ _ _ H4.out.1 HT.out).mono ?_; rintro e w5 ⟨rfl, h5, k5⟩; have H5 := Lib.hid (And.intro h5 (H4.out.2.trans (k5.mono fun j _ hj => .inr hj))); clear h5 k5)
        | fail)
      go_ret
      subst hD
      exact ⟨rfl, H5.out⟩
    · go_simp
      refine hK.out _ _ (HK.out _ ((Below.refl _ _).alloc (Nat.le_refl _) _).drew) (fun hHeld => ?_)
      clear hK K
      try simp only [Act.put, List.setIfInBounds_toArray, List.set_cons_zero, List.set_cons_succ]
      refine wpAnyH_ready (rs := [9]) (by kernel_rfl) (by simp) (AllReadyH.cons (o := { dst := some 31, op := .call { callee := .value (.func 80), args := #[.tmp 30], argTypes := #[97] }, type := 26, pos := "bank.go:206", after := #[{ on := 8, ground := .data }], guard := none }) rfl (fun K hK => ?_) AllReadyH.nil)
      go_simp
      refine (valueO_any (HK.out _ ((Below.refl _ _).alloc (Nat.le_refl _) _).drew).2 ⟨_, rfl⟩).mono ?_
      rintro e w4 ⟨rfl, rfl⟩
      try dsimp only
      refine hK.out _ _ (HK.out _ ((Below.refl _ _).alloc (Nat.le_refl _) _).drew) (fun hHeld => ?_)
      clear hK K
      try simp only [Act.put, List.setIfInBounds_toArray, List.set_cons_zero, List.set_cons_succ]
      refine wpAnyH_take (i := 10) (oi := { dst := some 32, op := .build 45 #[(0, .tmp 22), (1, .tmp 27), (2, .tmp 31)], type := 45, pos := "bank.go:206", after := #[{ on := 0, ground := .data }, { on := 5, ground := .data }, { on := 9, ground := .data }], guard := none }) (v := ?_) rfl (by kernel_rfl) (by kernel_rfl) (by kernel_rfl) (fun _ _ _ h => h) (Or.inl ⟨by rfl, ?_⟩) (HK.out _ ((Below.refl _ _).alloc (Nat.le_refl _) _).drew) ?_
      rotate_left 1
      · intro w hw; obtain ⟨s0, s1⟩ := hw; go_simp; try (with_reducible rfl)
      simp only [Act.put, List.setIfInBounds_toArray, List.set_cons_zero, List.set_cons_succ]
      refine wpAnyH_ready (rs := [12]) (by kernel_rfl) (by simp) (AllReadyH.cons (o := { dst := none, op := .store 45 (.tmp 5) (.tmp 32), type := 0, pos := "bank.go:206", after := #[{ on := 11, ground := .data }, { on := 10, ground := .data }, { on := 9, ground := .chain }, { on := 0, ground := .phase }, { on := 1, ground := .phase }, { on := 2, ground := .phase }, { on := 3, ground := .phase }, { on := 4, ground := .phase }, { on := 5, ground := .phase }, { on := 6, ground := .phase }, { on := 7, ground := .phase }, { on := 8, ground := .phase }, { on := 9, ground := .phase }, { on := 10, ground := .phase }, { on := 11, ground := .phase }], guard := none }) rfl (fun K hK => ?_) AllReadyH.nil)
      go_simp
      refine hK.out _ _ (HK.out _ ((Below.refl _ _).alloc (Nat.le_refl _) _).drew) (fun hHeld => ?_)
      clear hK K
      try simp only [Act.put, List.setIfInBounds_toArray, List.set_cons_zero, List.set_cons_succ]
      refine wpAnyH_done (by kernel_rfl) ?_ _
      have q0 : (w1.alloc (.cells #[.int .u32 (w32 seq), .int .u32 (n : Nat), .int .u32 (w32 cs)] 45)).drew.cell? ⟨w1.heap.size, 0, none⟩ = some (.int .u32 (w32 seq)) := HQ.out.cell 0
      have q1 : (w1.alloc (.cells #[.int .u32 (w32 seq), .int .u32 (n : Nat), .int .u32 (w32 cs)] 45)).drew.cell? ⟨w1.heap.size, 1, none⟩ = some (.int .u32 (n : Nat)) := HQ.out.cell 1
      have q2 : (w1.alloc (.cells #[.int .u32 (w32 seq), .int .u32 (n : Nat), .int .u32 (w32 cs)] 45)).drew.cell? ⟨w1.heap.size, 2, none⟩ = some (.int .u32 (w32 cs)) := HQ.out.cell 2
      obtain ⟨z, hz⟩ : ∃ z, w1.heap.size = z := ⟨_, rfl⟩
      obtain ⟨w3, hw3⟩ : ∃ w3, (w1.alloc (.cells #[.int .u32 (w32 seq), .int .u32 (n : Nat), .int .u32 (w32 cs)] 45)).drew = w3 := ⟨_, rfl⟩
      rw [hw3] at H2 HQ q0 q1 q2 ⊢
      rw [hz] at HQ q0 q1 q2 ⊢
      clear hw3 hz hS
      go_wp2_with (first
        | (go_at_call 81; refine (HWr.out _).mono ?_; rintro e w4 ⟨v, rfl, hg, hb⟩; have H4 := Lib.hid (And.intro (H2.out.1.new hb) (H2.out.2.trans (Ch.new hb))); obtain ⟨gf, lb, rfl, hto⟩ := Gives.to (at_ := 0) hg (by omega) (by omega) (fun j hj => H2.out.1.lt j (.inr hj)); have HT := Lib.hid hto; clear hg hb hto)
        | (go_at_call 77; refine (HPr1.out _ _ _ H4.out.1 HT.out).mono ?_; rintro e w5 ⟨rfl, h5, k5⟩; have H5 := Lib.hid (And.intro h5 (H4.out.2.trans (k5.mono fun j _ hj => .inr hj))); clear h5 k5)
        | fail)
      go_ret
      subst hD
      exact ⟨rfl, H5.out⟩

end Go.Proofs.Ythpagbfabpfngaa
/- The contract of bank's Confirm. -/
namespace Go.Proofs.Ythpagbfabpfngaa
open Go.RowKit

/-- What Confirm makes of the device, and what it answers. -/
def confirmR (d : Dev) (base many : Nat) : Dev × Int :=
  if d.on then (if stOK d base many then (if confH (d.word (base + 1)) then (d, 80) else (if spoiltB d base 2 (fun k => 8 + k) (wrW (fun _ => conW)) then (d, 80) else progK d (base + 1) (fun k => 8 + k) (wrW (fun _ => conW)) 2)) else (d, 80)) else (d, 63)
set_option maxHeartbeats 4000000 in
set_option maxRecDepth 100000 in
theorem confirm_any {w : World} {B q S : Nat} {g : Nat → Nat} {d : Dev} {base many : Nat} {op : Bool} {P : List (BitVec 32)} (h : Bk w B q S g d base many op P) (ho : d.okE) (hn : d.ops + 2 ≤ 1000000) :
    Calls Try.prog 58 #[.pointer (some ⟨B, 0, none⟩)] w fun e w' => e = .returned (.int .i64 (confirmR d base many).2) ∧ Bk w' B q S g (confirmR d base many).1 base many op P ∧ Ch (OwnD q S g d.ns) w w' := by
  have hR : confirmR d base many = if d.on then (if stOK d base many then (if confH (d.word (base + 1)) then (d, 80) else (if spoiltB d base 2 (fun k => 8 + k) (wrW (fun _ => conW)) then (d, 80) else progK d (base + 1) (fun k => 8 + k) (wrW (fun _ => conW)) 2)) else (d, 80)) else (d, 63) := rfl
  obtain ⟨R, hRR⟩ : ∃ R, confirmR d base many = R := ⟨_, rfl⟩
  rw [hRR] at hR ⊢
  clear hRR
  have c0 := h.c0
  have HOn := Lib.hid (on_any h.dev)
  have hst := state_any h
  obtain ⟨t, ht⟩ : ∃ t, trC (d.word (base + 1)) 3 = t := ⟨_, rfl⟩
  unfold stV at hst
  rw [ht] at hst
  have H1 := Lib.hid h
  have HSp := Lib.hid (fun (wx : World) (gf : Nat) (lb : Array Value) (hx : Bk wx B q S g d base many op P) (hg : GivesTo wx q S g d.ns gf lb 2 (fun k => 8 + k) (wrW (fun _ => conW))) => bspoilt_any hx gf lb 2 _ _ (fun k hk => by omega) hg)
  have HPr := Lib.hid (fun (wx : World) (gf : Nat) (lb : Array Value) (hx : Bk wx B q S g d base many op P) (hg : GivesTo wx q S g d.ns gf lb 2 (fun k => 8 + k) (wrW (fun _ => conW))) => bprogram_any hx ho 1 (by omega) gf lb 2 _ _ (by omega) (fun k hk => by omega) hg)
  clear h ht ho hn
  cases hon : d.on with
  | false =>
    rw [hon] at HOn hR
    simp only [Bool.false_eq_true, if_false] at hR
    clear hst
    go_enter Try.func58, Try.ntmps58
    go_wp2_with (first
      | (go_at_call 46; refine HOn.out.mono ?_; rintro e w2 ⟨rfl, rfl⟩)
      | fail)
    go_ret
    subst hR
    exact ⟨rfl, H1.out, Ch.refl _ _⟩
  | true =>
    rw [hon] at HOn hR
    simp only [if_true] at hR
    cases hok : stOK d base many with
    | false =>
      rw [hok] at hst hR
      simp only [Bool.false_eq_true, if_false] at hst hR
      have HSt := Lib.hid hst
      clear hst
      go_enter Try.func58, Try.ntmps58
      go_wp2_with (first
        | (go_at_call 46; refine HOn.out.mono ?_; rintro e w2 ⟨rfl, rfl⟩)
        | (go_at_call 16; refine HSt.out.mono ?_; rintro e w3 ⟨rfl, hb3⟩; have H3 := Lib.hid (And.intro (H1.out.new hb3) hb3); clear hb3)
        | fail)
      go_ret
      subst hR
      have hbA := H3.out.2.trans (((Below.refl w3.heap.size w3).alloc (Nat.le_refl _) (.cells #[.int .u32 0, .int .u32 0, .int .u32 0, .bool false, .bool false, .int .i64 (t : Nat)] 47)).mono H3.out.2.size)
      exact ⟨rfl, H1.out.new hbA, Ch.new hbA⟩
    | true =>
      rw [hok] at hst hR
      simp only [if_true] at hst hR
      cases hcf : confH (d.word (base + 1)) with
      | true =>
        rw [hcf] at hst hR
        simp only [if_true] at hR
        have HSt := Lib.hid hst
        clear hst
        go_enter Try.func58, Try.ntmps58
        go_wp2_with (first
          | (go_at_call 46; refine HOn.out.mono ?_; rintro e w2 ⟨rfl, rfl⟩)
          | (go_at_call 16; refine HSt.out.mono ?_; rintro e w3 ⟨rfl, hb3⟩; have H3 := Lib.hid (And.intro (H1.out.new hb3) hb3); clear hb3)
          | fail)
        go_ret
        subst hR
        have hbA := H3.out.2.trans (((Below.refl w3.heap.size w3).alloc (Nat.le_refl _) (.cells #[.int .u32 (w32 (d.word (base + 1) 0)), .int .u32 (w32 (d.word (base + 1) 2)), .int .u32 (w32 (d.word (base + 1) 4)), .bool true, .bool true, .int .i64 (t : Nat)] 47)).mono H3.out.2.size)
        exact ⟨rfl, H1.out.new hbA, Ch.new hbA⟩
      | false =>
        rw [hcf] at hst hR
        simp only [Bool.false_eq_true, if_false] at hR
        have HSt := Lib.hid hst
        clear hst
        have HALL := Lib.hid (fun (w3 : World) (hb3 : Below w.heap.size w w3) => (show Bk (w3.alloc (.cells #[.int .u32 (w32 (d.word (base + 1) 0)), .int .u32 (w32 (d.word (base + 1) 2)), .int .u32 (w32 (d.word (base + 1) 4)), .bool true, .bool false, .int .i64 (t : Nat)] 47)) B q S g d base many op P ∧ Below w.heap.size w (w3.alloc (.cells #[.int .u32 (w32 (d.word (base + 1) 0)), .int .u32 (w32 (d.word (base + 1) 2)), .int .u32 (w32 (d.word (base + 1) 4)), .bool true, .bool false, .int .i64 (t : Nat)] 47)) from by
          have hbA := hb3.trans (((Below.refl w3.heap.size w3).alloc (Nat.le_refl _) (.cells #[.int .u32 (w32 (d.word (base + 1) 0)), .int .u32 (w32 (d.word (base + 1) 2)), .int .u32 (w32 (d.word (base + 1) 4)), .bool true, .bool false, .int .i64 (t : Nat)] 47)).mono hb3.size)
          exact ⟨H1.out.new hbA, hbA⟩))
        cases hsp : spoiltB d base 2 (fun k => 8 + k) (wrW (fun _ => conW)) with
        | true =>
          simp only [hsp] at HSp
          rw [hsp] at hR
          simp only [if_true] at hR
          go_enter Try.func58, Try.ntmps58
          go_wp2_with (first
            | (go_at_call 46; refine HOn.out.mono ?_; rintro e w2 ⟨rfl, rfl⟩)
            | (go_at_call 16; refine HSt.out.mono ?_; rintro e w3 ⟨rfl, hb3⟩; have H3 := Lib.hid (And.intro (H1.out.new hb3) hb3); clear hb3)
            | fail)
          have HA := Lib.hid (HALL.out w3 H3.out.2)
          refine (confirms_any _).mono ?_
          rintro e w4 ⟨v, rfl, hg, hb⟩
          have H4 := Lib.hid (And.intro (HA.out.1.new hb) (HA.out.2.trans (hb.mono HA.out.2.size)))
          obtain ⟨gf, lb, rfl, hto⟩ := Gives.to (at_ := 8) hg (by omega) (by omega) (fun j hj => HA.out.1.lt j (.inr hj))
          have HT := Lib.hid hto
          clear hg hb hto
          go_wp2_with (first
            | (go_at_call 99; refine (HSp.out _ _ _ H4.out.1 HT.out).mono ?_; rintro e w5 ⟨rfl, hb5⟩; have H5 := Lib.hid (And.intro (H4.out.1.new hb5) (H4.out.2.trans (hb5.mono H4.out.2.size))); clear hb5)
            | fail)
          go_ret
          subst hR
          exact ⟨rfl, H5.out.1, Ch.new H5.out.2⟩
        | false =>
          simp only [hsp] at HSp
          rw [hsp] at hR
          simp only [Bool.false_eq_true, if_false] at hR
          go_enter Try.func58, Try.ntmps58
          go_wp2_with (first
            | (go_at_call 46; refine HOn.out.mono ?_; rintro e w2 ⟨rfl, rfl⟩)
            | (go_at_call 16; refine HSt.out.mono ?_; rintro e w3 ⟨rfl, hb3⟩; have H3 := Lib.hid (And.intro (H1.out.new hb3) hb3); clear hb3)
            | fail)
          have HA := Lib.hid (HALL.out w3 H3.out.2)
          refine (confirms_any _).mono ?_
          rintro e w4 ⟨v, rfl, hg, hb⟩
          have H4 := Lib.hid (And.intro (HA.out.1.new hb) (HA.out.2.trans (hb.mono HA.out.2.size)))
          obtain ⟨gf, lb, rfl, hto⟩ := Gives.to (at_ := 8) hg (by omega) (by omega) (fun j hj => HA.out.1.lt j (.inr hj))
          have HT := Lib.hid hto
          clear hg hb hto
          go_wp2_with (first
            | (go_at_call 99; refine (HSp.out _ _ _ H4.out.1 HT.out).mono ?_; rintro e w5 ⟨rfl, hb5⟩; have H5 := Lib.hid (And.intro (H4.out.1.new hb5) (H4.out.2.trans (hb5.mono H4.out.2.size))); clear hb5)
            | fail)
          refine (confirms_any _).mono ?_
          rintro e w6 ⟨v, rfl, hg, hb⟩
          have H6 := Lib.hid (And.intro (H5.out.1.new hb) (H5.out.2.trans (hb.mono H5.out.2.size)))
          obtain ⟨gf6, lb6, rfl, hto⟩ := Gives.to (at_ := 8) hg (by omega) (by omega) (fun j hj => H5.out.1.lt j (.inr hj))
          have HT6 := Lib.hid hto
          clear hg hb hto
          go_wp2_with (first
            | (go_at_call 77; refine (HPr.out _ _ _ H6.out.1 HT6.out).mono ?_; rintro e w7 ⟨rfl, h7, k7⟩; have H7 := Lib.hid (And.intro h7 ((Ch.new H6.out.2 : Ch (OwnD q S g d.ns) w w6).trans k7)); clear h7 k7)
            | fail)
          go_ret
          subst hR
          exact ⟨rfl, H7.out⟩
end Go.Proofs.Ythpagbfabpfngaa
