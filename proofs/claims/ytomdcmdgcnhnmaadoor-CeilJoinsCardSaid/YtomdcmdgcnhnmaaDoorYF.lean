/- The contract of law15's alive. -/
import Derived.Test.YtomdcmdgcnhnmaaDoorYE
namespace Go.Proofs.YtomdcmdgcnhnmaaDoor
open Go.RowKit

def TZ : TaskM := ⟨0, 0, 0, [0, 0, 0, 0, 0, 0, 0, 0]⟩
def T1 : TaskM := ⟨0, 0, 0, [1, 0, 0, 0, 0, 0, 0, 0]⟩
def X0 : Img := ⟨0, [TZ, T1, T1], [], []⟩
def S0 (b c : Nat) : ImgS := ⟨⟨some ⟨b, 0, none⟩, b, 0, c⟩, ⟨none, 0, 0, 0⟩, ⟨none, 0, 0, 0⟩, fun _ => ⟨none, 0, 0, 0⟩⟩
def row33 : Array Value := (taskC TZ ++ (taskC T1 ++ taskC T1)).toArray
theorem at_of_row {w : World} {b off : Nat} {t : TypeId} {cs : Array Value} {l : List Value} (h : RowAt w b t cs) (hs : ∀ j, j < l.length → cs[off + j]? = l[j]?) : At w b off l := fun j u hu => by
  rw [h.cell, hs j (List.getElem?_eq_some_iff.1 hu).1]; exact hu
theorem lt11 {p : Nat → Prop} (h0 : p 0) (h1 : p 1) (h2 : p 2) (h3 : p 3) (h4 : p 4) (h5 : p 5) (h6 : p 6) (h7 : p 7) (h8 : p 8) (h9 : p 9) (h10 : p 10) : ∀ k, k < 11 → p k := by
  intro k hk
  rcases k with _ | _ | _ | _ | _ | _ | _ | _ | _ | _ | _ | k
  all_goals first | assumption | omega
theorem X0_at {w : World} {b c : Nat} {t : TypeId} (h : RowAt w b t row33) : ImgAt w (fun _ => False) X0 (S0 b c) where
  st := ⟨fun _ => ⟨rfl, h.lt, fun h => h⟩, by show (3 : Nat) ≤ _; omega⟩
  sm := ⟨fun h0 => absurd h0 (Nat.lt_irrefl 0), Nat.zero_le _⟩
  se := ⟨fun h0 => absurd h0 (Nat.lt_irrefl 0), Nat.zero_le _⟩
  tk := fun k hk => by
    have hk3 : k < 3 := hk
    rcases k with _ | _ | _ | k
    · exact ⟨at_of_row h (lt11 rfl rfl rfl rfl rfl rfl rfl rfl rfl rfl rfl), rfl⟩
    · exact ⟨at_of_row h (lt11 rfl rfl rfl rfl rfl rfl rfl rfl rfl rfl rfl), rfl⟩
    · exact ⟨at_of_row h (lt11 rfl rfl rfl rfl rfl rfl rfl rfl rfl rfl rfl), rfl⟩
    · omega
  md := fun k hk => absurd hk (Nat.not_lt_zero k)
  qu := fun k hk => absurd hk (Nat.not_lt_zero k)
  ed := fun k hk => absurd hk (Nat.not_lt_zero k)
def g0 : Nat → Int := fun r => if r = 0 then 1 else 16
theorem g0_is : tb (ceilF X0 (ofL [0, 1, 2])) = tb g0 := tb_ext (lt8 (by decide +kernel) (by decide +kernel) (by decide +kernel) (by decide +kernel) (by decide +kernel) (by decide +kernel) (by decide +kernel) (by decide +kernel))
theorem g0_lv : tbLv g0 2 0 = 1 := by decide
theorem g0_ov : tbOv g0 1 8 = ofL [0] := by decide +kernel
set_option maxHeartbeats 1000000 in
set_option maxRecDepth 100000 in
theorem l15alive_any (w : World) (ht : Tab w) : Calls Tryd.prog 13 #[] w fun e w' => e = .returned (.bool true) ∧ Below w.heap.size w w' := by
  have hp := ht.pos
  have HTb := Lib.hid (show ∀ w', Below w.heap.size w w' → Tab w' from fun w' hb => ht.below hp hb)
  clear ht hp
  go_enter Tryd.func13, Tryd.ntmps13
  go_upto_region 4 with fail
  obtain ⟨D, hD⟩ : ∃ D, D = w.heap.size + 1 := ⟨_, rfl⟩
  generalize hw2 : World.alloc (World.alloc (World.alloc w _) _) _ = w2
  have HG0 := Lib.hid (show Below w.heap.size w w2 ∧ RowAt w2 (D + 1) 26 #[.int .i64 0, .slice (some ⟨D, 0, none⟩) 3 3, .slice none 0 0, .slice none 0 0] ∧ RowAt w2 D 55 row33 by
    rw [← hw2]
    refine ⟨(((Below.refl _ _).alloc (Nat.le_refl _) _).alloc (by simp) _).alloc (by simp; omega) _, ?_, ?_⟩
    · have := RowAt.mk ((w.alloc (.cells #[.int .i64 0, .int .i64 0, .int .i64 0, .int .i64 1, .int .i64 0, .int .i64 0, .int .i64 0, .int .i64 0, .int .i64 0, .int .i64 0, .int .i64 0] 55)).alloc (.cells row33 55)) 26 #[.int .i64 0, .slice (some ⟨D, 0, none⟩) 3 3, .slice none 0 0, .slice none 0 0]
      rw [World.size_alloc, World.size_alloc, ← hD] at this
      rw [← hD]
      exact this
    · have := RowAt.mk (w.alloc (.cells #[.int .i64 0, .int .i64 0, .int .i64 0, .int .i64 1, .int .i64 0, .int .i64 0, .int .i64 0, .int .i64 0, .int .i64 0, .int .i64 0, .int .i64 0] 55)) 55 row33
      rw [World.size_alloc, ← hD] at this
      exact this.new ((Below.refl _ _).alloc (Nat.le_refl _) _))
  rw [← hD]
  clear hw2 hD
  have HOf := Lib.hid (show ∀ wx, Below w.heap.size w wx → RowAt wx D 55 row33 → Calls Tryd.prog 6 #[.agg #[.int .i64 0, .slice (some ⟨D, 0, none⟩) 3 3, .slice none 0 0, .slice none 0 0], .int .u32 (w32 (ofL [0, 1, 2]))] wx fun e w' => e = .returned (.agg (tb g0)) ∧ Below wx.heap.size wx w' from fun wx hb hr => by
    have := cOf_any (X0_at (c := 3) hr) (HTb.out wx hb) (ofL [0, 1, 2])
    rw [g0_is] at this
    exact this)
  have HM3 := Lib.hid (show ∀ (wx : World) (b : Nat), RowAt wx b 3 #[.int .i64 0, .int .i64 1, .int .i64 2] → Calls Tryd.prog 21 #[.slice (some ⟨b, 0, none⟩) 3 3] wx fun e w' => e = .returned (.int .u32 (w32 (ofL [0, 1, 2]))) ∧ wx = w' from fun wx b hr => mOf_any (some ⟨b, 0, none⟩) b 0 3 [0, 1, 2] wx (by decide +kernel) ⟨fun _ => ⟨rfl, hr.lt⟩, fun k hk => by
    have hk3 : k < 3 := hk
    rcases k with _ | _ | _ | k
    · exact hr.cell 0
    · exact hr.cell 1
    · exact hr.cell 2
    · omega⟩)
  have HM1 := Lib.hid (show ∀ (wx : World) (b : Nat), RowAt wx b 3 #[.int .i64 0] → Calls Tryd.prog 21 #[.slice (some ⟨b, 0, none⟩) 1 1] wx fun e w' => e = .returned (.int .u32 (w32 (ofL [0]))) ∧ wx = w' from fun wx b hr => mOf_any (some ⟨b, 0, none⟩) b 0 1 [0] wx (by decide +kernel) ⟨fun _ => ⟨rfl, hr.lt⟩, fun k hk => by
    have hk3 : k < 1 := hk
    rcases k with _ | k
    · exact hr.cell 0
    · omega⟩)
  have HA0 := Lib.hid (show ∀ wx, _ from fun wx => cAt_any g0 0 wx)
  have HA1 := Lib.hid (show ∀ wx, _ from fun wx => cAt_any g0 1 wx)
  have HLv := Lib.hid (show ∀ wx, _ from fun wx => cLevel_any g0 2 0 wx)
  have HOv := Lib.hid (show ∀ wx, _ from fun wx => cOver_any g0 1 wx)
  rw [show tbAt g0 0 = 1 from rfl] at HA0
  rw [show tbAt g0 1 = 16 from rfl] at HA1
  rw [g0_lv] at HLv
  rw [g0_ov] at HOv
  have HTi := Lib.hid (And.intro (tb_info g0) (tb_one g0))
  obtain ⟨G, hG⟩ : ∃ G, tb g0 = G := ⟨_, rfl⟩
  have HGs := Lib.hid (show G.size = 8 by rw [← hG]; rfl)
  rw [hG] at HOf HA0 HA1 HLv HOv HTi
  clear hG
  have HG1 := Lib.hid (show Below w.heap.size w w2.drew ∧ RowAt w2.drew (D + 1) 26 #[.int .i64 0, .slice (some ⟨D, 0, none⟩) 3 3, .slice none 0 0, .slice none 0 0] ∧ RowAt w2.drew D 55 row33 from ⟨below_dn HG0.out.1 1, HG0.out.2.1, HG0.out.2.2⟩)
  clear HG0
  obtain ⟨wd, hwd⟩ : ∃ wd, w2.drew = wd := ⟨_, rfl⟩
  rw [hwd] at HG1
  go_cut [3] from 12 to 15 (fun s3 wx => ∃ b3, s3 = .pointer (some ⟨b3, 0, none⟩) ∧ Aside (Below w.heap.size w wx ∧ RowAt wx b3 33 G))
  case first =>
    refine wp_region_held_drew (S := fun w' => RowAt w' (D + 1) 26 #[.int .i64 0, .slice (some ⟨D, 0, none⟩) 3 3, .slice none 0 0, .slice none 0 0]) (by kernel_rfl) (by rw [hwd]; exact HG1.out.2.1) (fun hS => ?_)
    rw [hwd] at hS ⊢
    clear hwd
    refine wpAnyH_take (i := 0) (oi := { dst := some 12, op := .load 26 (.tmp 2), type := 26, pos := "law.go:16", after := #[], guard := none }) (v := ?_) rfl (by kernel_rfl) (by kernel_rfl) (by kernel_rfl) (fun _ _ _ h => h) (Or.inl ⟨by rfl, ?_⟩) hS ?_
    rotate_left 1
    · intro w hw; obtain s0 := hw; have k0 := hw.cell 0; have k1 := hw.cell 1; have k2 := hw.cell 2; have k3 := hw.cell 3; simp at k0 k1 k2 k3; go_simp; try (with_reducible rfl)
    simp only [Act.put, List.setIfInBounds_toArray, List.set_cons_zero, List.set_cons_succ]
    refine wpAnyH_ready (rs := [1, 4]) (by kernel_rfl) (by simp) (AllReadyH.cons (o := { dst := some 13, op := .buildSlice 63 3 #[(0, .const (.int .i64 0)), (1, .const (.int .i64 1)), (2, .const (.int .i64 2))], type := 63, pos := "law.go:16", after := #[], guard := none }) rfl (fun K hK => ?_) (AllReadyH.cons (o := { dst := some 3, op := .alloc 33, type := 0, pos := "law.go:16", after := #[], guard := none }) rfl (fun K hK => ?_) AllReadyH.nil))
    · go_simp
      obtain ⟨bs, hbs⟩ : ∃ b, b = (wd).heap.size := ⟨_, rfl⟩
      rw [← hbs]
      generalize hwg101 : World.alloc _ _ = wg101
      have bwg101 : Below (wd).heap.size (wd) wg101 := by rw [← hwg101]; exact (Below.refl _ _).alloc (Nat.le_refl _) _
      have rwg101 : RowAt wg101 bs 3 #[.int .i64 0, .int .i64 1, .int .i64 2] := by rw [← hwg101, hbs]; exact RowAt.mk _ _ _
      have HG102 := Lib.hid (show Below w.heap.size w wg101 ∧ RowAt wg101 (D + 1) 26 #[.int .i64 0, .slice (some ⟨D, 0, none⟩) 3 3, .slice none 0 0, .slice none 0 0] ∧ RowAt wg101 D 55 row33 ∧ RowAt wg101 bs 3 #[.int .i64 0, .int .i64 1, .int .i64 2] from ⟨(HG1.out.1.trans ((bwg101).mono HG1.out.1.size)), (HG1.out.2.1.new (bwg101)), (HG1.out.2.2.new (bwg101)), rwg101⟩)
      clear hwg101 bwg101 rwg101 hbs
      refine hK.out _ _ HG102.out.2.1 (fun hHeld => ?_)
      clear hK K
      try simp only [Act.put, List.setIfInBounds_toArray, List.set_cons_zero, List.set_cons_succ]
      refine wpAnyH_ready (rs := [2, 4]) (by kernel_rfl) (by simp) (AllReadyH.cons (o := { dst := some 14, op := .call { callee := .value (.func 21), args := #[.tmp 13], argTypes := #[63] }, type := 28, pos := "law.go:16", after := #[{ on := 1, ground := .data }], guard := none }) rfl (fun K hK => ?_) (AllReadyH.cons (o := { dst := some 3, op := .alloc 33, type := 0, pos := "law.go:16", after := #[], guard := none }) rfl (fun K hK => ?_) AllReadyH.nil))
      · go_simp
        go_at_call 21
        refine (HM3.out _ _ HG102.out.2.2.2).mono ?_
        rintro e w' ⟨rfl, rfl⟩
        try dsimp only
        refine hK.out _ _ HG102.out.2.1 (fun hHeld => ?_)
        clear hK K
        try simp only [Act.put, List.setIfInBounds_toArray, List.set_cons_zero, List.set_cons_succ]
        refine wpAnyH_ready (rs := [3, 4]) (by kernel_rfl) (by simp) (AllReadyH.cons (o := { dst := some 15, op := .call { callee := .value (.func 6), args := #[.tmp 12, .tmp 14], argTypes := #[26, 28] }, type := 33, pos := "law.go:16", after := #[{ on := 0, ground := .data }, { on := 2, ground := .data }, { on := 2, ground := .chain }], guard := none }) rfl (fun K hK => ?_) (AllReadyH.cons (o := { dst := some 3, op := .alloc 33, type := 0, pos := "law.go:16", after := #[], guard := none }) rfl (fun K hK => ?_) AllReadyH.nil))
        · go_simp
          go_at_call 6
          refine (HOf.out _ HG102.out.1 HG102.out.2.2.1).mono ?_
          rintro e wg104 ⟨rfl, bc104⟩
          have HG105 := Lib.hid (show Below w.heap.size w wg104 ∧ RowAt wg104 (D + 1) 26 #[.int .i64 0, .slice (some ⟨D, 0, none⟩) 3 3, .slice none 0 0, .slice none 0 0] ∧ RowAt wg104 D 55 row33 ∧ RowAt wg104 bs 3 #[.int .i64 0, .int .i64 1, .int .i64 2] from ⟨(HG102.out.1.trans ((bc104).mono HG102.out.1.size)), (HG102.out.2.1.new (bc104)), (HG102.out.2.2.1.new (bc104)), (HG102.out.2.2.2.new (bc104))⟩)
          clear bc104
          try dsimp only
          refine hK.out _ _ HG105.out.2.1 (fun hHeld => ?_)
          clear hK K
          try simp only [Act.put, List.setIfInBounds_toArray, List.set_cons_zero, List.set_cons_succ]
          refine wpAnyH_ready (rs := [4]) (by kernel_rfl) (by simp) (AllReadyH.cons (o := { dst := some 3, op := .alloc 33, type := 0, pos := "law.go:16", after := #[], guard := none }) rfl (fun K hK => ?_) AllReadyH.nil)
          go_simp
          obtain ⟨b3, hb3⟩ : ∃ b, b = (wg104).heap.size := ⟨_, rfl⟩
          rw [← hb3]
          generalize hwg106 : World.alloc _ _ = wg106
          have bwg106 : Below (wg104).heap.size (wg104) wg106 := by rw [← hwg106]; exact (Below.refl _ _).alloc (Nat.le_refl _) _
          have rwg106 : RowAt wg106 b3 33 (tb (fun _ => 0)) := by rw [← hwg106, hb3]; exact RowAt.mk _ _ _
          have HG107 := Lib.hid (show Below w.heap.size w wg106 ∧ RowAt wg106 (D + 1) 26 #[.int .i64 0, .slice (some ⟨D, 0, none⟩) 3 3, .slice none 0 0, .slice none 0 0] ∧ RowAt wg106 D 55 row33 ∧ RowAt wg106 bs 3 #[.int .i64 0, .int .i64 1, .int .i64 2] ∧ RowAt wg106 b3 33 (tb (fun _ => 0)) ∧ D + 1 < b3 ∧ w.heap.size ≤ b3 from ⟨(HG105.out.1.trans ((bwg106).mono HG105.out.1.size)), (HG105.out.2.1.new (bwg106)), (HG105.out.2.2.1.new (bwg106)), (HG105.out.2.2.2.new (bwg106)), rwg106, (by have := HG105.out.2.1.lt; omega), (by have := HG105.out.1.size; omega)⟩)
          clear hwg106 bwg106 rwg106 hb3
          refine hK.out _ _ HG107.out.2.1 (fun hHeld => ?_)
          clear hK K
          try simp only [Act.put, List.setIfInBounds_toArray, List.set_cons_zero, List.set_cons_succ]
          refine wpAnyH_ready (rs := [5]) (by kernel_rfl) (by simp) (AllReadyH.cons (o := { dst := none, op := .store 33 (.tmp 3) (.tmp 15), type := 0, pos := "law.go:16", after := #[{ on := 4, ground := .data }, { on := 3, ground := .data }, { on := 3, ground := .chain }, { on := 0, ground := .phase }, { on := 1, ground := .phase }, { on := 2, ground := .phase }, { on := 3, ground := .phase }, { on := 4, ground := .phase }], guard := none }) rfl (fun K hK => ?_) AllReadyH.nil)
          rw [if_pos (by rfl)]
          refine wp_store_row 33 (.tmp 3) (.tmp 15) rfl b3 G rfl rfl 33 (tb (fun _ => 0)) HG107.out.2.2.2.2.1 HTi.out.1 (by rw [HGs.out]; rfl) HTi.out.2 ?_
          refine hK.out _ _ (HG107.out.2.1.keep (ch_setRow _ _ _) (fun e => by have := HG107.out.2.2.2.2.2.1; omega)) (fun hHeld => ?_)
          clear hK K
          try simp only [Act.put]
          refine wpAnyH_done (by kernel_rfl) ?_ _
          go_wp2
          go_meet
          case rel => exact ⟨b3, rfl, below_row HG107.out.1 (Nat.le_refl _) HG107.out.2.2.2.2.2.2 _, HG107.out.2.2.2.2.1.put⟩
        · go_simp
          obtain ⟨b3, hb3⟩ : ∃ b, b = (wg101).heap.size := ⟨_, rfl⟩
          rw [← hb3]
          generalize hwg108 : World.alloc _ _ = wg108
          have bwg108 : Below (wg101).heap.size (wg101) wg108 := by rw [← hwg108]; exact (Below.refl _ _).alloc (Nat.le_refl _) _
          have rwg108 : RowAt wg108 b3 33 (tb (fun _ => 0)) := by rw [← hwg108, hb3]; exact RowAt.mk _ _ _
          have HG109 := Lib.hid (show Below w.heap.size w wg108 ∧ RowAt wg108 (D + 1) 26 #[.int .i64 0, .slice (some ⟨D, 0, none⟩) 3 3, .slice none 0 0, .slice none 0 0] ∧ RowAt wg108 D 55 row33 ∧ RowAt wg108 bs 3 #[.int .i64 0, .int .i64 1, .int .i64 2] ∧ RowAt wg108 b3 33 (tb (fun _ => 0)) ∧ D + 1 < b3 ∧ w.heap.size ≤ b3 from ⟨(HG102.out.1.trans ((bwg108).mono HG102.out.1.size)), (HG102.out.2.1.new (bwg108)), (HG102.out.2.2.1.new (bwg108)), (HG102.out.2.2.2.new (bwg108)), rwg108, (by have := HG102.out.2.1.lt; omega), (by have := HG102.out.1.size; omega)⟩)
          clear hwg108 bwg108 rwg108 hb3
          refine hK.out _ _ HG109.out.2.1 (fun hHeld => ?_)
          clear hK K
          try simp only [Act.put, List.setIfInBounds_toArray, List.set_cons_zero, List.set_cons_succ]
          refine wpAnyH_ready (rs := [3]) (by kernel_rfl) (by simp) (AllReadyH.cons (o := { dst := some 15, op := .call { callee := .value (.func 6), args := #[.tmp 12, .tmp 14], argTypes := #[26, 28] }, type := 33, pos := "law.go:16", after := #[{ on := 0, ground := .data }, { on := 2, ground := .data }, { on := 2, ground := .chain }], guard := none }) rfl (fun K hK => ?_) AllReadyH.nil)
          go_simp
          go_at_call 6
          refine (HOf.out _ HG109.out.1 HG109.out.2.2.1).mono ?_
          rintro e wg110 ⟨rfl, bc110⟩
          have HG111 := Lib.hid (show Below w.heap.size w wg110 ∧ RowAt wg110 (D + 1) 26 #[.int .i64 0, .slice (some ⟨D, 0, none⟩) 3 3, .slice none 0 0, .slice none 0 0] ∧ RowAt wg110 D 55 row33 ∧ RowAt wg110 bs 3 #[.int .i64 0, .int .i64 1, .int .i64 2] ∧ RowAt wg110 b3 33 (tb (fun _ => 0)) ∧ D + 1 < b3 ∧ w.heap.size ≤ b3 from ⟨(HG109.out.1.trans ((bc110).mono HG109.out.1.size)), (HG109.out.2.1.new (bc110)), (HG109.out.2.2.1.new (bc110)), (HG109.out.2.2.2.1.new (bc110)), (HG109.out.2.2.2.2.1.new (bc110)), HG109.out.2.2.2.2.2.1, HG109.out.2.2.2.2.2.2⟩)
          clear bc110
          try dsimp only
          refine hK.out _ _ HG111.out.2.1 (fun hHeld => ?_)
          clear hK K
          try simp only [Act.put, List.setIfInBounds_toArray, List.set_cons_zero, List.set_cons_succ]
          refine wpAnyH_ready (rs := [5]) (by kernel_rfl) (by simp) (AllReadyH.cons (o := { dst := none, op := .store 33 (.tmp 3) (.tmp 15), type := 0, pos := "law.go:16", after := #[{ on := 4, ground := .data }, { on := 3, ground := .data }, { on := 3, ground := .chain }, { on := 0, ground := .phase }, { on := 1, ground := .phase }, { on := 2, ground := .phase }, { on := 3, ground := .phase }, { on := 4, ground := .phase }], guard := none }) rfl (fun K hK => ?_) AllReadyH.nil)
          rw [if_pos (by rfl)]
          refine wp_store_row 33 (.tmp 3) (.tmp 15) rfl b3 G rfl rfl 33 (tb (fun _ => 0)) HG111.out.2.2.2.2.1 HTi.out.1 (by rw [HGs.out]; rfl) HTi.out.2 ?_
          refine hK.out _ _ (HG111.out.2.1.keep (ch_setRow _ _ _) (fun e => by have := HG111.out.2.2.2.2.2.1; omega)) (fun hHeld => ?_)
          clear hK K
          try simp only [Act.put]
          refine wpAnyH_done (by kernel_rfl) ?_ _
          go_wp2
          go_meet
          case rel => exact ⟨b3, rfl, below_row HG111.out.1 (Nat.le_refl _) HG111.out.2.2.2.2.2.2 _, HG111.out.2.2.2.2.1.put⟩
      · go_simp
        obtain ⟨b3, hb3⟩ : ∃ b, b = (wg101).heap.size := ⟨_, rfl⟩
        rw [← hb3]
        generalize hwg112 : World.alloc _ _ = wg112
        have bwg112 : Below (wg101).heap.size (wg101) wg112 := by rw [← hwg112]; exact (Below.refl _ _).alloc (Nat.le_refl _) _
        have rwg112 : RowAt wg112 b3 33 (tb (fun _ => 0)) := by rw [← hwg112, hb3]; exact RowAt.mk _ _ _
        have HG113 := Lib.hid (show Below w.heap.size w wg112 ∧ RowAt wg112 (D + 1) 26 #[.int .i64 0, .slice (some ⟨D, 0, none⟩) 3 3, .slice none 0 0, .slice none 0 0] ∧ RowAt wg112 D 55 row33 ∧ RowAt wg112 bs 3 #[.int .i64 0, .int .i64 1, .int .i64 2] ∧ RowAt wg112 b3 33 (tb (fun _ => 0)) ∧ D + 1 < b3 ∧ w.heap.size ≤ b3 from ⟨(HG102.out.1.trans ((bwg112).mono HG102.out.1.size)), (HG102.out.2.1.new (bwg112)), (HG102.out.2.2.1.new (bwg112)), (HG102.out.2.2.2.new (bwg112)), rwg112, (by have := HG102.out.2.1.lt; omega), (by have := HG102.out.1.size; omega)⟩)
        clear hwg112 bwg112 rwg112 hb3
        refine hK.out _ _ HG113.out.2.1 (fun hHeld => ?_)
        clear hK K
        try simp only [Act.put, List.setIfInBounds_toArray, List.set_cons_zero, List.set_cons_succ]
        refine wpAnyH_ready (rs := [2]) (by kernel_rfl) (by simp) (AllReadyH.cons (o := { dst := some 14, op := .call { callee := .value (.func 21), args := #[.tmp 13], argTypes := #[63] }, type := 28, pos := "law.go:16", after := #[{ on := 1, ground := .data }], guard := none }) rfl (fun K hK => ?_) AllReadyH.nil)
        go_simp
        go_at_call 21
        refine (HM3.out _ _ HG113.out.2.2.2.1).mono ?_
        rintro e w' ⟨rfl, rfl⟩
        try dsimp only
        refine hK.out _ _ HG113.out.2.1 (fun hHeld => ?_)
        clear hK K
        try simp only [Act.put, List.setIfInBounds_toArray, List.set_cons_zero, List.set_cons_succ]
        refine wpAnyH_ready (rs := [3]) (by kernel_rfl) (by simp) (AllReadyH.cons (o := { dst := some 15, op := .call { callee := .value (.func 6), args := #[.tmp 12, .tmp 14], argTypes := #[26, 28] }, type := 33, pos := "law.go:16", after := #[{ on := 0, ground := .data }, { on := 2, ground := .data }, { on := 2, ground := .chain }], guard := none }) rfl (fun K hK => ?_) AllReadyH.nil)
        go_simp
        go_at_call 6
        refine (HOf.out _ HG113.out.1 HG113.out.2.2.1).mono ?_
        rintro e wg115 ⟨rfl, bc115⟩
        have HG116 := Lib.hid (show Below w.heap.size w wg115 ∧ RowAt wg115 (D + 1) 26 #[.int .i64 0, .slice (some ⟨D, 0, none⟩) 3 3, .slice none 0 0, .slice none 0 0] ∧ RowAt wg115 D 55 row33 ∧ RowAt wg115 bs 3 #[.int .i64 0, .int .i64 1, .int .i64 2] ∧ RowAt wg115 b3 33 (tb (fun _ => 0)) ∧ D + 1 < b3 ∧ w.heap.size ≤ b3 from ⟨(HG113.out.1.trans ((bc115).mono HG113.out.1.size)), (HG113.out.2.1.new (bc115)), (HG113.out.2.2.1.new (bc115)), (HG113.out.2.2.2.1.new (bc115)), (HG113.out.2.2.2.2.1.new (bc115)), HG113.out.2.2.2.2.2.1, HG113.out.2.2.2.2.2.2⟩)
        clear bc115
        try dsimp only
        refine hK.out _ _ HG116.out.2.1 (fun hHeld => ?_)
        clear hK K
        try simp only [Act.put, List.setIfInBounds_toArray, List.set_cons_zero, List.set_cons_succ]
        refine wpAnyH_ready (rs := [5]) (by kernel_rfl) (by simp) (AllReadyH.cons (o := { dst := none, op := .store 33 (.tmp 3) (.tmp 15), type := 0, pos := "law.go:16", after := #[{ on := 4, ground := .data }, { on := 3, ground := .data }, { on := 3, ground := .chain }, { on := 0, ground := .phase }, { on := 1, ground := .phase }, { on := 2, ground := .phase }, { on := 3, ground := .phase }, { on := 4, ground := .phase }], guard := none }) rfl (fun K hK => ?_) AllReadyH.nil)
        rw [if_pos (by rfl)]
        refine wp_store_row 33 (.tmp 3) (.tmp 15) rfl b3 G rfl rfl 33 (tb (fun _ => 0)) HG116.out.2.2.2.2.1 HTi.out.1 (by rw [HGs.out]; rfl) HTi.out.2 ?_
        refine hK.out _ _ (HG116.out.2.1.keep (ch_setRow _ _ _) (fun e => by have := HG116.out.2.2.2.2.2.1; omega)) (fun hHeld => ?_)
        clear hK K
        try simp only [Act.put]
        refine wpAnyH_done (by kernel_rfl) ?_ _
        go_wp2
        go_meet
        case rel => exact ⟨b3, rfl, below_row HG116.out.1 (Nat.le_refl _) HG116.out.2.2.2.2.2.2 _, HG116.out.2.2.2.2.1.put⟩
    · go_simp
      obtain ⟨b3, hb3⟩ : ∃ b, b = (wd).heap.size := ⟨_, rfl⟩
      rw [← hb3]
      generalize hwg117 : World.alloc _ _ = wg117
      have bwg117 : Below (wd).heap.size (wd) wg117 := by rw [← hwg117]; exact (Below.refl _ _).alloc (Nat.le_refl _) _
      have rwg117 : RowAt wg117 b3 33 (tb (fun _ => 0)) := by rw [← hwg117, hb3]; exact RowAt.mk _ _ _
      have HG118 := Lib.hid (show Below w.heap.size w wg117 ∧ RowAt wg117 (D + 1) 26 #[.int .i64 0, .slice (some ⟨D, 0, none⟩) 3 3, .slice none 0 0, .slice none 0 0] ∧ RowAt wg117 D 55 row33 ∧ RowAt wg117 b3 33 (tb (fun _ => 0)) ∧ D + 1 < b3 ∧ w.heap.size ≤ b3 from ⟨(HG1.out.1.trans ((bwg117).mono HG1.out.1.size)), (HG1.out.2.1.new (bwg117)), (HG1.out.2.2.new (bwg117)), rwg117, (by have := HG1.out.2.1.lt; omega), (by have := HG1.out.1.size; omega)⟩)
      clear hwg117 bwg117 rwg117 hb3
      refine hK.out _ _ HG118.out.2.1 (fun hHeld => ?_)
      clear hK K
      try simp only [Act.put, List.setIfInBounds_toArray, List.set_cons_zero, List.set_cons_succ]
      refine wpAnyH_ready (rs := [1]) (by kernel_rfl) (by simp) (AllReadyH.cons (o := { dst := some 13, op := .buildSlice 63 3 #[(0, .const (.int .i64 0)), (1, .const (.int .i64 1)), (2, .const (.int .i64 2))], type := 63, pos := "law.go:16", after := #[], guard := none }) rfl (fun K hK => ?_) AllReadyH.nil)
      go_simp
      obtain ⟨bs, hbs⟩ : ∃ b, b = (wg117).heap.size := ⟨_, rfl⟩
      rw [← hbs]
      generalize hwg119 : World.alloc _ _ = wg119
      have bwg119 : Below (wg117).heap.size (wg117) wg119 := by rw [← hwg119]; exact (Below.refl _ _).alloc (Nat.le_refl _) _
      have rwg119 : RowAt wg119 bs 3 #[.int .i64 0, .int .i64 1, .int .i64 2] := by rw [← hwg119, hbs]; exact RowAt.mk _ _ _
      have HG120 := Lib.hid (show Below w.heap.size w wg119 ∧ RowAt wg119 (D + 1) 26 #[.int .i64 0, .slice (some ⟨D, 0, none⟩) 3 3, .slice none 0 0, .slice none 0 0] ∧ RowAt wg119 D 55 row33 ∧ RowAt wg119 b3 33 (tb (fun _ => 0)) ∧ D + 1 < b3 ∧ w.heap.size ≤ b3 ∧ RowAt wg119 bs 3 #[.int .i64 0, .int .i64 1, .int .i64 2] from ⟨(HG118.out.1.trans ((bwg119).mono HG118.out.1.size)), (HG118.out.2.1.new (bwg119)), (HG118.out.2.2.1.new (bwg119)), (HG118.out.2.2.2.1.new (bwg119)), HG118.out.2.2.2.2.1, HG118.out.2.2.2.2.2, rwg119⟩)
      clear hwg119 bwg119 rwg119 hbs
      refine hK.out _ _ HG120.out.2.1 (fun hHeld => ?_)
      clear hK K
      try simp only [Act.put, List.setIfInBounds_toArray, List.set_cons_zero, List.set_cons_succ]
      refine wpAnyH_ready (rs := [2]) (by kernel_rfl) (by simp) (AllReadyH.cons (o := { dst := some 14, op := .call { callee := .value (.func 21), args := #[.tmp 13], argTypes := #[63] }, type := 28, pos := "law.go:16", after := #[{ on := 1, ground := .data }], guard := none }) rfl (fun K hK => ?_) AllReadyH.nil)
      go_simp
      go_at_call 21
      refine (HM3.out _ _ HG120.out.2.2.2.2.2.2).mono ?_
      rintro e w' ⟨rfl, rfl⟩
      try dsimp only
      refine hK.out _ _ HG120.out.2.1 (fun hHeld => ?_)
      clear hK K
      try simp only [Act.put, List.setIfInBounds_toArray, List.set_cons_zero, List.set_cons_succ]
      refine wpAnyH_ready (rs := [3]) (by kernel_rfl) (by simp) (AllReadyH.cons (o := { dst := some 15, op := .call { callee := .value (.func 6), args := #[.tmp 12, .tmp 14], argTypes := #[26, 28] }, type := 33, pos := "law.go:16", after := #[{ on := 0, ground := .data }, { on := 2, ground := .data }, { on := 2, ground := .chain }], guard := none }) rfl (fun K hK => ?_) AllReadyH.nil)
      go_simp
      go_at_call 6
      refine (HOf.out _ HG120.out.1 HG120.out.2.2.1).mono ?_
      rintro e wg122 ⟨rfl, bc122⟩
      have HG123 := Lib.hid (show Below w.heap.size w wg122 ∧ RowAt wg122 (D + 1) 26 #[.int .i64 0, .slice (some ⟨D, 0, none⟩) 3 3, .slice none 0 0, .slice none 0 0] ∧ RowAt wg122 D 55 row33 ∧ RowAt wg122 b3 33 (tb (fun _ => 0)) ∧ D + 1 < b3 ∧ w.heap.size ≤ b3 ∧ RowAt wg122 bs 3 #[.int .i64 0, .int .i64 1, .int .i64 2] from ⟨(HG120.out.1.trans ((bc122).mono HG120.out.1.size)), (HG120.out.2.1.new (bc122)), (HG120.out.2.2.1.new (bc122)), (HG120.out.2.2.2.1.new (bc122)), HG120.out.2.2.2.2.1, HG120.out.2.2.2.2.2.1, (HG120.out.2.2.2.2.2.2.new (bc122))⟩)
      clear bc122
      try dsimp only
      refine hK.out _ _ HG123.out.2.1 (fun hHeld => ?_)
      clear hK K
      try simp only [Act.put, List.setIfInBounds_toArray, List.set_cons_zero, List.set_cons_succ]
      refine wpAnyH_ready (rs := [5]) (by kernel_rfl) (by simp) (AllReadyH.cons (o := { dst := none, op := .store 33 (.tmp 3) (.tmp 15), type := 0, pos := "law.go:16", after := #[{ on := 4, ground := .data }, { on := 3, ground := .data }, { on := 3, ground := .chain }, { on := 0, ground := .phase }, { on := 1, ground := .phase }, { on := 2, ground := .phase }, { on := 3, ground := .phase }, { on := 4, ground := .phase }], guard := none }) rfl (fun K hK => ?_) AllReadyH.nil)
      rw [if_pos (by rfl)]
      refine wp_store_row 33 (.tmp 3) (.tmp 15) rfl b3 G rfl rfl 33 (tb (fun _ => 0)) HG123.out.2.2.2.1 HTi.out.1 (by rw [HGs.out]; rfl) HTi.out.2 ?_
      refine hK.out _ _ (HG123.out.2.1.keep (ch_setRow _ _ _) (fun e => by have := HG123.out.2.2.2.2.1; omega)) (fun hHeld => ?_)
      clear hK K
      try simp only [Act.put]
      refine wpAnyH_done (by kernel_rfl) ?_ _
      go_wp2
      go_meet
      case rel => exact ⟨b3, rfl, below_row HG123.out.1 (Nat.le_refl _) HG123.out.2.2.2.2.2.1 _, HG123.out.2.2.2.1.put⟩

  case rest =>
    obtain ⟨b3, rfl, HQ⟩ := hcut
    go_wp2_with (first
      | (refine wpList_load_want (by rfl) 33 (.tmp 3) rfl b3 rfl 33 G (0, 0) _ H3.out.2 Tryd.underlying33 rfl HTi.out.1 ?_)
      | (refine wpList_load_want (by rfl) 33 (.tmp 3) rfl b3 rfl 33 G (0, 0) _ H2.out.2 Tryd.underlying33 rfl HTi.out.1 ?_)
      | (refine wpList_load_want (by rfl) 33 (.tmp 3) rfl b3 rfl 33 G (0, 0) _ H1.out.2 Tryd.underlying33 rfl HTi.out.1 ?_)
      | (refine wpList_load_want (by rfl) 33 (.tmp 3) rfl b3 rfl 33 G (0, 0) _ HQ.out.2 Tryd.underlying33 rfl HTi.out.1 ?_)
      | (go_at_call 8; refine (HA0.out _).mono ?_; rintro e w4 ⟨rfl, b4⟩; have H1 := Lib.hid (And.intro (HQ.out.1.trans (b4.mono HQ.out.1.size)) (HQ.out.2.new b4)); clear b4 HA0)
      | (go_at_call 12; refine (HLv.out _).mono ?_; rintro e w5 ⟨rfl, b5⟩; have H2 := Lib.hid (And.intro (H1.out.1.trans (b5.mono H1.out.1.size)) (H1.out.2.new b5)); clear b5)
      | (go_at_call 8; refine (HA1.out _).mono ?_; rintro e w6 ⟨rfl, b6⟩; have H3 := Lib.hid (And.intro (H2.out.1.trans (b6.mono H2.out.1.size)) (H2.out.2.new b6)); clear b6)
      | (go_at_call 11; refine (HOv.out _).mono ?_; rintro e w7 ⟨rfl, b7⟩; have H4 := Lib.hid (H3.out.1.trans (b7.mono H3.out.1.size)); clear b7)
      | (go_at_call 21; refine (HM1.out _ _ (RowAt.mk _ _ _)).mono ?_; rintro e w8 ⟨rfl, rfl⟩)
      | fail)
    go_ret
    exact ⟨rfl, by exact H4.out.alloc H4.out.size _⟩
end Go.Proofs.YtomdcmdgcnhnmaaDoor
