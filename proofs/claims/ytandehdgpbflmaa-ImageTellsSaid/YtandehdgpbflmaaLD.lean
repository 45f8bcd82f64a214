/- The walk of ImageTells. -/
import Derived.Test.YtandehdgpbflmaaJR
import Derived.Test.YtandehdgpbflmaaIG
import Derived.Test.YtandehdgpbflmaaJV
import Derived.Deep.DeepMust
namespace Go.Proofs.Ytandehdgpbflmaa
open Go.RowKit

theorem allI_low (x : Img) : allI x = low (min x.tasks.length 32) := by
  apply BitVec.eq_of_getLsbD_eq
  intro i hi
  rw [low_bit _ _ hi]
  unfold allI
  rw [btw_bit _ _ _ _ hi, show (4294967295#32).getLsbD i = true from by rw [show 4294967295#32 = BitVec.allOnes 32 from by decide, BitVec.getLsbD_allOnes, decide_eq_true hi], Bool.true_and, decide_eq_true (show (-1 : Int) < (i : Int) by omega), Bool.true_and]
  congr 1
  exact propext ⟨fun h => by omega, fun h => by omega⟩
def ixG (x : Img) (f t : Int) (j : Nat) : Option Nat := ((List.range x.edges.length).drop j).find? (isE x f t)
theorem ixG_end (x : Img) (f t : Int) : ixG x f t x.edges.length = none := by unfold ixG; rw [List.drop_eq_nil_of_le (by simp)]; rfl
theorem ixG_step (x : Img) (f t : Int) {j : Nat} (hj : j < x.edges.length) : ixG x f t j = if isE x f t j then some j else ixG x f t (j + 1) := by
  unfold ixG
  rw [List.drop_eq_getElem_cons (by simpa using hj), List.find?_cons]
  simp only [List.getElem_range]
  split <;> simp_all
theorem ixG_zero (x : Img) (f t : Int) : ixG x f t 0 = ixE x f t := rfl
set_option maxHeartbeats 8000000 in
set_option maxRecDepth 100000 in
theorem law_tells10 {w : World} {V : Nat → Prop} {x : Img} {S : ImgS} (h : ImgAt w V x S) (f t : Int) :
    Calls Try.prog 4 #[.agg #[.int .i64 x.res, .slice S.t.sp x.tasks.length S.t.c, .slice S.m.sp x.modes.length S.m.c, .slice S.e.sp x.edges.length S.e.c], .int .i64 f, .int .i64 t] w fun e w' => e = .returned (.bool true) ∧ Below w.heap.size w w' := by
  obtain ⟨i0, hi, hz0, hz1, hz2⟩ := info_parts infoIntJ
  have HG := Lib.hid (show ∀ wx, Below w.heap.size w wx → _ from fun wx hb => great10_any (h.new hb))
  have HEd := Lib.hid (show ∀ wx, Below w.heap.size w wx → _ from fun wx hb => iEdge_any (h.new hb) f t)
  have HAl := Lib.hid (fun wx => iAll_any x S wx)
  have HTa := Lib.hid (show ∀ wx, Below w.heap.size w wx → _ from fun wx hb => iTasks_any (h.new hb) f)
  have HGr := Lib.hid (fun (hg : greatI x = false) => great_not hg)
  have HTx := Lib.hid (fun (k : Nat) (hk : k < x.tasks.length) (wx : World) (hb : Below w.heap.size w wx) => show At wx S.t.b (S.t.o + k * 11) (taskC (x.t k)) ∧ (taskC (x.t k)).length = 11 from ⟨((h.new hb).tk k hk).1, taskC_len (h.tk k hk).2⟩)
  have HTe := Lib.hid (fun (k : Nat) (hk : k < x.tasks.length) => taskC_ex (h.tk k hk).2)
  have HMx := Lib.hid (fun (k : Nat) (hk : k < x.modes.length) (wx : World) (hb : Below w.heap.size w wx) => ((h.new hb).md k hk).1)
  have HEx := Lib.hid (fun (k : Nat) (hk : k < x.edges.length) (wx : World) (hb : Below w.heap.size w wx) => show wx.cell? ⟨S.e.b, S.e.o + k * 23, none⟩ = some (.int .i64 (x.e k).frm) ∧ wx.cell? ⟨S.e.b, S.e.o + k * 23 + 1, none⟩ = some (.int .i64 (x.e k).dst) from ⟨((h.new hb).ed k hk).1 0 _ rfl, ((h.new hb).ed k hk).1 1 _ rfl⟩)
  have HXs := Lib.hid (fun (j : Nat) (hj : j < x.edges.length) => ixG_step x f t hj)
  have HX0 := Lib.hid (show ixG x f t x.edges.length = none from ixG_end x f t)
  have HIs := Lib.hid (fun (j : Nat) => show isE x f t j = ((x.e j).frm == f && (x.e j).dst == t) from rfl)
  have HTm := Lib.hid (show tasksM x f = if 0 ≤ f ∧ f < (x.modes.length : Int) then (x.m f.toNat).tasks else 0#32 from rfl)
  have HLow := Lib.hid (show w32 (low (min x.tasks.length 32)) = w32 (allI x) by rw [allI_low])
  have HSt := Lib.hid (fun (h0 : 0 < x.tasks.length) => (h.st.at_ h0).1)
  have HSm := Lib.hid (fun (h0 : 0 < x.modes.length) => (h.sm.at_ h0).1)
  have HSe := Lib.hid (fun (h0 : 0 < x.edges.length) => (h.se.at_ h0).1)
  have hse := h.se.sm
  obtain ⟨sT, hsT⟩ : ∃ s, S.t.sp = s := ⟨_, rfl⟩
  obtain ⟨sM, hsM⟩ : ∃ s, S.m.sp = s := ⟨_, rfl⟩
  obtain ⟨sE, hsE⟩ : ∃ s, S.e.sp = s := ⟨_, rfl⟩
  obtain ⟨nT, hnT⟩ : ∃ n, x.tasks.length = n := ⟨_, rfl⟩
  obtain ⟨nM, hnM⟩ : ∃ n, x.modes.length = n := ⟨_, rfl⟩
  obtain ⟨nE, hnE⟩ : ∃ n, x.edges.length = n := ⟨_, rfl⟩
  obtain ⟨res, hres⟩ : ∃ r, x.res = r := ⟨_, rfl⟩
  obtain ⟨g, hg⟩ : ∃ v, greatI x = v := ⟨_, rfl⟩
  obtain ⟨al, hal⟩ : ∃ v, w32 (allI x) = v := ⟨_, rfl⟩
  obtain ⟨tm, htm⟩ : ∃ v, w32 (tasksM x f) = v := ⟨_, rfl⟩
  have HTM := Lib.hid htm
  obtain ⟨o, ho⟩ : ∃ v, ixE x f t = v := ⟨_, rfl⟩
  rw [hnT, hnM, hnE, hsT, hsM, hsE, hres] at HG HEd HAl HTa
  rw [hal] at HAl HLow
  rw [htm] at HTa
  rw [ho] at HEd
  have HXZ := Lib.hid (show ixG x f t 0 = o from (ixG_zero x f t).trans ho)
  rw [hg] at HG HGr
  rw [hnT] at HTx HTe HSt HLow HGr
  rw [hnM] at HMx HSm HTm HGr
  rw [hnE] at HEx HXs HX0 HSe hse HGr
  rw [hsT] at HSt
  rw [hsM] at HSm
  rw [hsE] at HSe
  rw [hnT, hnM, hnE, hsT, hsM, hsE, hres]
  obtain ⟨Z, hZ⟩ : ∃ Z, Z = w.heap.size := ⟨_, rfl⟩
  have HZZ := Lib.hid (show w.heap.size ≤ Z by omega)
  have HZ := Lib.hid (show ∀ w2, w.alloc (.cells #[.int .i64 res, .slice sT nT S.t.c, .slice sM nM S.m.c, .slice sE nE S.e.c] 26) = w2 → Below w.heap.size w w2 ∧ RowAt w2 Z 26 #[.int .i64 res, .slice sT nT S.t.c, .slice sM nM S.m.c, .slice sE nE S.e.c] from fun w2 hw => by
    rw [← hw, hZ]; exact ⟨(Below.refl _ _).alloc (Nat.le_refl _) _, RowAt.mk _ _ _⟩)
  clear h hnT hnM hnE hsT hsM hsE hres hg hal htm ho
  go_enter Try.func4, Try.ntmps4
  go_upto_region 1 with fail
  rw [← hZ]
  generalize hw2 : World.alloc _ _ = w2
  have H2 := Lib.hid (HZ.out w2 hw2)
  clear hw2 hZ HZ
  cases g with
  | true =>
    go_wp2_with (first | (refine wpList_load_row rfl 26 (.tmp 3) rfl Z rfl 26 #[.int .i64 res, .slice sT nT S.t.c, .slice sM nM S.m.c, .slice sE nE S.e.c] (0, 0) _ H2.out.2 Try.underlying26 rfl (by kernel_rfl) ?_) | (go_at_call 8; refine (HG.out _ H2.out.1).mono ?_; rintro e w3 ⟨rfl, b3⟩; have H3 := Lib.hid (And.intro (H2.out.1.trans (b3.mono H2.out.1.size)) (H2.out.2.new b3)); clear b3 H2) | fail)
    go_ret
    exact ⟨rfl, H3.out.1⟩
  | false =>
    have hbn := HGr.out rfl
    have hb1 := hbn.1
    have hb3 := hbn.2.2.1
    clear hbn HGr
    obtain ⟨m, hm⟩ : ∃ m, min nT 32 = m := ⟨_, rfl⟩
    rw [hm] at HLow
    have hm1 : m ≤ nT := by omega
    have hm2 : m ≤ 32 := by omega
    have HMM := Lib.hid hm
    clear hm
    have hl0 := low_zero
    go_wp2_with (first | (refine wpList_load_row rfl 26 (.tmp 3) rfl Z rfl 26 #[.int .i64 res, .slice sT nT S.t.c, .slice sM nM S.m.c, .slice sE nE S.e.c] (0, 0) _ H2.out.2 Try.underlying26 rfl (by kernel_rfl) ?_) | (go_at_call 8; refine (HG.out _ H2.out.1).mono ?_; rintro e w3 ⟨rfl, b3⟩; have H3 := Lib.hid (And.intro (H2.out.1.trans (b3.mono H2.out.1.size)) (H2.out.2.new b3)); clear b3 H2) | fail)
    go_loopg [7, 8] m (fun g u v8 wr => ∃ k : Nat, k + g = m ∧ v8 = .int .i64 (k : Nat) ∧ u = .int .u32 (w32 (low k)) ∧ Aside (Below w.heap.size w wr ∧ RowAt wr Z 26 #[.int .i64 res, .slice sT nT S.t.c, .slice sM nM S.m.c, .slice sE nE S.e.c]))
    case atStart => exact ⟨0, by omega, rfl, rfl, H3.out⟩
    clear hl0 H3 HG
    case round =>
    obtain ⟨k, hkg, rfl, rfl, HR⟩ := hrel
    cases gk with
    | succ g1 =>
      have hk : k < nT := by omega
      have hk32 : k < 32 := by omega
      obtain rfl := HSt.out (by omega)
      have hk2 : (k : Int) < (nT : Int) := by omega
      have hk3 : (k : Int) < 32 := by omega
      have HG := Lib.hid hkg
      have hsh := shl_one k (by omega)
      have hla := low_add k hk32
      obtain ⟨L1, hL1⟩ : ∃ l, low (k + 1) = l := ⟨_, rfl⟩
      rw [hL1] at hla
      have HL1 := Lib.hid hL1
      have HA := Lib.hid (HTx.out k hk)
      have hte := HTe.out k hk
      obtain ⟨fl, hfl⟩ : ∃ fl : Nat → Int, (fun r => (x.t k).lon.getD r 0) = fl := ⟨_, rfl⟩
      obtain ⟨a0, ha0⟩ : ∃ a, (x.t k).per = a := ⟨_, rfl⟩
      obtain ⟨a1, ha1⟩ : ∃ a, (x.t k).dl = a := ⟨_, rfl⟩
      obtain ⟨a2, ha2⟩ : ∃ a, (x.t k).cost = a := ⟨_, rfl⟩
      rw [hfl, ha0, ha1, ha2] at hte
      rw [hte] at HA
      have HCr := Lib.hid (fun (r : Nat) (hr : r < 8) (wx : World) (hb : Below w.heap.size w wx) => show wx.cell? ⟨S.t.b, S.t.o + k * 11 + 3 + r, none⟩ = some (.int .i64 (fl r)) from by
        have h1 := (HA.out wx hb).1 (3 + r) (.int .i64 (fl r)) (by revert r; exact lt8 rfl rfl rfl rfl rfl rfl rfl rfl)
        rwa [← Nat.add_assoc] at h1)
      have HUs := Lib.hid (fun wx => luses_any a0 a1 a2 fl wx)
      have c1 : wr.cell? ⟨Z, 1, none⟩ = some (.slice (some ⟨S.t.b, S.t.o, none⟩) nT S.t.c) := HR.out.2.cell 1
      clear hfl ha0 ha1 ha2 hte hL1 hkg HTx HTe HMx HEx HXs HX0 HIs HTm HTM HLow HSt HSm HSe HXZ HEd HAl HTa HMM
      go_upto_region 8 with fail
      try simp only [hsh, hla]
      clear hsh hla
      go_wp2
      clear c1
      go_loopg [9, 10] 8 (fun g v9 u wq => ∃ r : Nat, r + g = 8 ∧ u = .int .i64 (r : Nat) ∧ Aside ((Below w.heap.size w wq ∧ RowAt wq Z 26 #[.int .i64 res, .slice (some ⟨S.t.b, S.t.o, none⟩) nT S.t.c, .slice sM nM S.m.c, .slice sE nE S.e.c]) ∧ wq.ownsRow (Z + 1) 3 1 v9 (2 * (usesK fl r).length) (rowI (useL fl (usesK fl r)))))
      case atStart => exact ⟨0, by omega, rfl, HR.out, ⟨rfl, .inl ⟨rfl, rfl⟩⟩⟩
      clear HR
      case round =>
      obtain ⟨r, hrg, rfl, HP⟩ := hrel
      cases gk with
      | succ g2 =>
        have hr : r < 8 := by omega
        have hr2 : (r : Int) < 8 := by omega
        have hcr := HCr.out r hr wr HP.out.1.1
        have c1 : wr.cell? ⟨Z, 1, none⟩ = some (.slice (some ⟨S.t.b, S.t.o, none⟩) nT S.t.c) := HP.out.1.2.cell 1
        have HG2 := Lib.hid hrg
        obtain ⟨y, hy⟩ : ∃ y, fl r = y := ⟨_, rfl⟩
        rw [hy] at hcr
        have hlen := usesK_len fl r
        by_cases hpos : 0 < y
        · have huk := usesK_yes (f := fl) (n := r) (by rw [hy]; exact hpos)
          have HV := Lib.hid (show (usesK fl (r + 1)).length = (usesK fl r).length + 1 ∧ rowI (useL fl (usesK fl (r + 1))) = rowI (useL fl (usesK fl r)) ++ [.int .i64 (r : Int), .int .i64 y] from by
            rw [huk, useL_app]
            refine ⟨by simp, ?_⟩
            simp [rowI, useL, hy])
          obtain ⟨nk, hnk⟩ : ∃ n, (usesK fl r).length = n := ⟨_, rfl⟩
          rw [hnk] at HP HV hlen
          have HN2 := Lib.hid (show (2 * nk : Nat) + 1 ≤ 100 by omega)
          clear hy huk hrg hnk HCr
          go_wp2_with (first
            | (at_builtin; go_must (refine wpList_append_own _ rfl (.tmp 50) (.tmp 60) 36 rfl (Z + 1) 3 i0 (.int .i64 0) 1 8 Try.underlying36 hi hz0 hz1 hz2 rfl Nat.one_pos _ (2 * nk) (rowI (useL fl (usesK fl r))) rfl (HP.out.2.alloc _) ⟨wr.heap.size, 0, none⟩ 2 2 [.int .i64 (r : Int), .int .i64 y] rfl rfl (cell_two_new _ _ _ _) (by simp [Value.oneCell']) (by unfold maxLen; omega) (by omega) (by rw [World.size_alloc]; exact Nat.le_succ_of_le HP.out.1.2.lt) ?_); intro v1 w5 hown1 hg1 _; have HO := Lib.hid (And.intro (And.intro (Below.grown (Below.alloc HP.out.1.1 HP.out.1.1.size _) hg1 (by rw [World.size_alloc]; exact Nat.le_succ_of_le HP.out.1.1.size) (fun j e => Nat.le_trans (Nat.le_succ_of_le HZZ.out) (HP.out.2.lt j e).1)) (HP.out.1.2.keep (((Ch.refl (fun j => u9.ownBlock = some j) wr).alloc _).trans (ch_grown hg1)) (fun e => by have := own_ge HP.out.2 _ e; omega))) hown1); clear hown1 hg1)
            | fail)
          go_roundg g2
          case measure => omega
          case rel => exact ⟨r + 1, by have := HG2.out; omega, by go_num, HO.out.1, by rw [HV.out.1, HV.out.2]; exact HO.out.2⟩
        · have huk := usesK_no (f := fl) (n := r) (by rw [hy]; exact hpos)
          have HV := Lib.hid huk
          clear hy huk hrg
          go_wp2
          go_roundg g2
          case measure => omega
          case rel => exact ⟨r + 1, by have := HG2.out; omega, by go_num, HP.out.1, by rw [HV.out]; exact HP.out.2⟩
      | zero =>
        obtain rfl : r = 8 := by omega
        have HU := Lib.hid (show useL fl (usesK fl 8) = uses8 fl from rfl)
        have hul := uses8_len fl
        have hk8 := usesK_len fl 8
        rw [HU.out, ← hul] at HP
        obtain ⟨us, hus⟩ : ∃ l, uses8 fl = l := ⟨_, rfl⟩
        rw [hus] at hul HUs HP
        obtain ⟨nu, hnu⟩ : ∃ n, us.length = n := ⟨_, rfl⟩
        rw [hnu] at HUs HP
        have hnu16 : nu ≤ 16 := by omega
        have c1 : wr.cell? ⟨Z, 1, none⟩ = some (.slice (some ⟨S.t.b, S.t.o, none⟩) nT S.t.c) := HP.out.1.2.cell 1
        clear HU hus hul hk8 hrg HCr
        have HNU := Lib.hid hnu
        clear hnu
        have HA1 := Lib.hid (HA.out wr HP.out.1.1)
        obtain ⟨spw, gw, cw, rfl, hw1, hw2⟩ := own_ints HP.out.2 HNU.out.symm
        have HW1 := Lib.hid (And.intro hw1 hw2)
        clear hw1 hw2
        go_wp2_with (first
          | (refine wpList_load_mid rfl 39 (.tmp 65) rfl S.t.b (S.t.o + k * 11) rfl (exT a0 a1 a2 fl) _ HA1.out.1 Try.underlying39 rfl (by kernel_rfl) ?_)
          | (go_at_call 12; refine (HUs.out _).mono ?_; rintro e w5 ⟨sp5, cp5, rfl, o5, b5⟩; have H5 := Lib.hid (And.intro (And.intro (HP.out.1.1.trans (b5.mono HP.out.1.1.size)) (HP.out.1.2.new b5)) (And.intro (own_below HP.out.2 b5 (Nat.le_refl _)) o5)); clear b5 o5 c1)
          | fail)
        obtain ⟨spg, gg, cg, hgv, hg1, hg2⟩ := own_ints H5.out.2.2 HNU.out.symm
        injection hgv with hgs hgn hgc
        subst hgs hgc
        have HCG := Lib.hid (And.intro hg1 hg2)
        clear hg1 hg2 hgn HA1 HUs
        have HWC := Lib.hid (fun (j : Nat) (hj : j < nu) => show w5.cell? ⟨gw, j, none⟩ = some (.int .i64 (nth us j)) from by
          obtain ⟨sp', g', c', hv, h1, h2⟩ := own_ints H5.out.2.1 HNU.out.symm
          injection hv with e1 e2 e3
          subst e1
          have h3 := (HW1.out.1 (by omega)).1.symm.trans (h1 (by omega)).1
          have h4 : gw = g' := by simpa using h3
          subst h4
          exact h2 j hj)
        go_loopg [12] nu (fun g u wq => ∃ j : Nat, j + g = nu ∧ u = .int .i64 (j : Nat) ∧ Aside ((Below w.heap.size w wq ∧ RowAt wq Z 26 #[.int .i64 res, .slice (some ⟨S.t.b, S.t.o, none⟩) nT S.t.c, .slice sM nM S.m.c, .slice sE nE S.e.c]) ∧ (∀ j, j < nu → wq.cell? ⟨gw, j, none⟩ = some (.int .i64 (nth us j))) ∧ ∀ j, j < nu → wq.cell? ⟨gg, j, none⟩ = some (.int .i64 (nth us j))))
        case atStart => exact ⟨0, by omega, rfl, H5.out.1, HWC.out, HCG.out.2⟩
        clear H5
        case round =>
        obtain ⟨j, hjg, rfl, HP2⟩ := hrel
        cases gk with
        | succ g2 =>
          have hj : j < nu := by omega
          have hj2 : (j : Int) < (nu : Int) := by omega
          have hj3 : (j : Int) < 16 := by omega
          have HG2 := Lib.hid hjg
          obtain rfl := (HW1.out.1 (by omega)).1
          obtain rfl := (HCG.out.1 (by omega)).1
          have y0 : wr.cell? ⟨gw, j, none⟩ = some (.int .i64 (nth us j)) := HP2.out.2.1 j hj
          have y1 : wr.cell? ⟨gg, j, none⟩ = some (.int .i64 (nth us j)) := HP2.out.2.2 j hj
          generalize nth us j = yy at y0 y1
          have hyy : (yy != yy) = false := by simp
          clear hjg HW1 HCG HWC
          go_wp2
          go_quiet (fail)
          go_wp2
          go_roundg g2
          case measure => omega
          case rel => exact ⟨j + 1, by have := HG2.out; omega, by go_num, ⟨below_dn HP2.out.1.1 _, HP2.out.1.2⟩, HP2.out.2⟩
        | zero =>
          obtain rfl : j = nu := by omega
          go_wp2
          go_roundg g1
          case measure => omega
          case rel => exact ⟨k + 1, by have := HG.out; omega, by go_num, by rw [HL1.out], HP2.out.1⟩
    | zero =>
      obtain rfl : k = m := by omega
      rw [HLow.out]
      clear HLow HTx HTe HSt hb1 hm1 hm2
      have c3 : wr.cell? ⟨Z, 3, none⟩ = some (.slice sE nE S.e.c) := HR.out.2.cell 3
      have c1 : wr.cell? ⟨Z, 1, none⟩ = some (.slice sT nT S.t.c) := HR.out.2.cell 1
      have hor : ¬ (k : Int) < (nT : Int) ∨ ((k : Int) < (nT : Int) ∧ ¬ (k : Int) < 32) := by have := HMM.out; omega
      clear HMM
      rcases hor with hkt | ⟨hkt, hkt2⟩
      · as_aux_lemma =>
        have HRO := Lib.hid HR.out
        clear HR
        go_wp2
        clear c1 c3
        go_loopg [13, 14, 15] nE (fun g u13 u14 u15 wq => ∃ (o' : Option Nat) (z : Int), u13 = .int .i64 ((o'.getD 0 : Nat) : Int) ∧ u14 = .bool o'.isSome ∧ u15 = .int .i64 z ∧ Aside (z = (g : Int) - 1 ∧ g ≤ nE ∧ ixG x f t g = o' ∧ Below w.heap.size w wq ∧ RowAt wq Z 26 #[.int .i64 res, .slice sT nT S.t.c, .slice sM nM S.m.c, .slice sE nE S.e.c]))
        case atStart => exact ⟨none, (nE : Int) - 1, rfl, rfl, rfl, rfl, Nat.le_refl _, HX0.out, HRO.out⟩
        clear HRO HX0
        case round =>
        obtain ⟨o', z, rfl, rfl, rfl, HP⟩ := hrel
        have hz := HP.out.1
        cases gk with
        | succ g1 =>
          have hj : g1 < nE := by have := HP.out.2.1; omega
          obtain rfl : z = (g1 : Int) := by omega
          obtain rfl := HSe.out (by omega)
          have hj2 : (g1 : Int) < (nE : Int) := by omega
          have hxs := HXs.out g1 hj
          rw [HP.out.2.2.1] at hxs
          obtain ⟨d0, d1⟩ := HEx.out g1 hj _ HP.out.2.2.2.1
          have his := HIs.out g1
          obtain ⟨fj, hfj⟩ : ∃ a, (x.e g1).frm = a := ⟨_, rfl⟩
          obtain ⟨tj, htj⟩ : ∃ a, (x.e g1).dst = a := ⟨_, rfl⟩
          rw [hfj] at d0 his
          rw [htj] at d1 his
          have HHI := Lib.hid (And.intro hxs his)
          have HB := Lib.hid HP.out.2.2.2
          have c3 : wr.cell? ⟨Z, 3, none⟩ = some (.slice (some ⟨S.e.b, S.e.o, none⟩) nE S.e.c) := HB.out.2.cell 3
          have hg0 : (0 : Int) ≤ (g1 : Int) := by omega
          have HJ := Lib.hid hj
          clear hxs his hfj htj HXs HXZ HIs HEx HSe hz HP hj
          cases b1 : fj == f
          · have HN := Lib.hid (show ixG x f t g1 = o' from HHI.out.1.trans (by rw [HHI.out.2, b1]; rfl))
            go_wp2
            go_roundg g1
            case measure => omega
            case rel => exact ⟨o', (g1 : Int) - 1, rfl, rfl, by go_num, rfl, Nat.le_of_lt HJ.out, HN.out, HB.out⟩
          · cases b2 : tj == t
            · have HN := Lib.hid (show ixG x f t g1 = o' from HHI.out.1.trans (by rw [HHI.out.2, b1, b2]; rfl))
              go_wp2
              go_roundg g1
              case measure => omega
              case rel => exact ⟨o', (g1 : Int) - 1, rfl, rfl, by go_num, rfl, Nat.le_of_lt HJ.out, HN.out, HB.out⟩
            · have HN := Lib.hid (show ixG x f t g1 = some g1 from HHI.out.1.trans (by rw [HHI.out.2, b1, b2]; rfl))
              go_wp2
              go_roundg g1
              case measure => omega
              case rel => exact ⟨some g1, (g1 : Int) - 1, rfl, rfl, by go_num, rfl, Nat.le_of_lt HJ.out, HN.out, HB.out⟩
        | zero =>
          obtain rfl : z = -1 := by omega
          have hoo : o' = o := HP.out.2.2.1.symm.trans HXZ.out
          subst hoo
          have HRO := Lib.hid HP.out.2.2.2
          clear HP HXs HXZ HIs HEx HSe hz
          have c2 : wr.cell? ⟨Z, 2, none⟩ = some (.slice sM nM S.m.c) := HRO.out.2.cell 2
          generalize o'.isSome = ob at HEd ⊢
          generalize ((o'.getD 0 : Nat) : Int) = oi at HEd ⊢
          have hoi : (oi == oi) = true := by simp
          have hob : (ob == ob) = true := by simp
          have hal : (al == al) = true := by simp
          by_cases hf1 : 0 ≤ f
          case neg =>
            have htm : tm = 0 := by rw [← HTM.out, HTm.out, if_neg (fun h => hf1 h.1)]; rfl
            have htt : (tm == 0) = true := by simpa using htm
            clear htm HTM HTm HMx HSm
            go_wp2_with (first
              | (refine wpList_load_row rfl 26 (.tmp 3) rfl Z rfl 26 #[.int .i64 res, .slice sT nT S.t.c, .slice sM nM S.m.c, .slice sE nE S.e.c] (0, 0) _ HRO.out.2 Try.underlying26 rfl (by kernel_rfl) ?_)
              | (go_at_call 13; refine (HEd.out _ HRO.out.1).mono ?_; rintro e w5 ⟨rfl, b5⟩; have H5 := Lib.hid (And.intro (HRO.out.1.trans (b5.mono HRO.out.1.size)) (HRO.out.2.new b5)); clear b5 HRO)
              | (refine wpList_load_row rfl 26 (.tmp 3) rfl Z rfl 26 #[.int .i64 res, .slice sT nT S.t.c, .slice sM nM S.m.c, .slice sE nE S.e.c] (0, 0) _ H5.out.2 Try.underlying26 rfl (by kernel_rfl) ?_)
              | (go_at_call 14; refine (HAl.out _).mono ?_; rintro e w6 ⟨rfl, b6⟩; have H6 := Lib.hid (And.intro (H5.out.1.trans (b6.mono H5.out.1.size)) (H5.out.2.new b6)); have e0 : w6.cell? ⟨Z, 0, none⟩ = some (.int .i64 res) := H6.out.2.cell 0; have e1 : w6.cell? ⟨Z, 1, none⟩ = some (.slice sT nT S.t.c) := H6.out.2.cell 1; have e2 : w6.cell? ⟨Z, 2, none⟩ = some (.slice sM nM S.m.c) := H6.out.2.cell 2; have e3 : w6.cell? ⟨Z, 3, none⟩ = some (.slice sE nE S.e.c) := H6.out.2.cell 3; clear b6 H5)
              | (refine wpList_load_row rfl 26 (.tmp 3) rfl Z rfl 26 #[.int .i64 res, .slice sT nT S.t.c, .slice sM nM S.m.c, .slice sE nE S.e.c] (0, 0) _ H6.out.2 Try.underlying26 rfl (by kernel_rfl) ?_)
              | (go_at_call 15; refine (HTa.out _ H6.out.1).mono ?_; rintro e w7 ⟨rfl, b7⟩; have H7 := Lib.hid (H6.out.1.trans (b7.mono H6.out.1.size)); clear b7 H6)
              | (go_at_call 11; refine (l10alive_any _).mono ?_; rintro e w8 ⟨rfl, b8⟩; have H8 := Lib.hid (H7.out.trans (b8.mono H7.out.size)); clear b8)
              | fail)
            go_ret
            exact ⟨by simp, H8.out⟩
          by_cases hf2 : f < (nM : Int)
          case neg =>
            have htm : tm = 0 := by rw [← HTM.out, HTm.out, if_neg (fun h => hf2 h.2)]; rfl
            have htt : (tm == 0) = true := by simpa using htm
            clear htm HTM HTm HMx HSm
            go_wp2_with (first
              | (refine wpList_load_row rfl 26 (.tmp 3) rfl Z rfl 26 #[.int .i64 res, .slice sT nT S.t.c, .slice sM nM S.m.c, .slice sE nE S.e.c] (0, 0) _ HRO.out.2 Try.underlying26 rfl (by kernel_rfl) ?_)
              | (go_at_call 13; refine (HEd.out _ HRO.out.1).mono ?_; rintro e w5 ⟨rfl, b5⟩; have H5 := Lib.hid (And.intro (HRO.out.1.trans (b5.mono HRO.out.1.size)) (HRO.out.2.new b5)); clear b5 HRO)
              | (refine wpList_load_row rfl 26 (.tmp 3) rfl Z rfl 26 #[.int .i64 res, .slice sT nT S.t.c, .slice sM nM S.m.c, .slice sE nE S.e.c] (0, 0) _ H5.out.2 Try.underlying26 rfl (by kernel_rfl) ?_)
              | (go_at_call 14; refine (HAl.out _).mono ?_; rintro e w6 ⟨rfl, b6⟩; have H6 := Lib.hid (And.intro (H5.out.1.trans (b6.mono H5.out.1.size)) (H5.out.2.new b6)); have e0 : w6.cell? ⟨Z, 0, none⟩ = some (.int .i64 res) := H6.out.2.cell 0; have e1 : w6.cell? ⟨Z, 1, none⟩ = some (.slice sT nT S.t.c) := H6.out.2.cell 1; have e2 : w6.cell? ⟨Z, 2, none⟩ = some (.slice sM nM S.m.c) := H6.out.2.cell 2; have e3 : w6.cell? ⟨Z, 3, none⟩ = some (.slice sE nE S.e.c) := H6.out.2.cell 3; clear b6 H5)
              | (refine wpList_load_row rfl 26 (.tmp 3) rfl Z rfl 26 #[.int .i64 res, .slice sT nT S.t.c, .slice sM nM S.m.c, .slice sE nE S.e.c] (0, 0) _ H6.out.2 Try.underlying26 rfl (by kernel_rfl) ?_)
              | (go_at_call 15; refine (HTa.out _ H6.out.1).mono ?_; rintro e w7 ⟨rfl, b7⟩; have H7 := Lib.hid (H6.out.1.trans (b7.mono H6.out.1.size)); clear b7 H6)
              | (go_at_call 11; refine (l10alive_any _).mono ?_; rintro e w8 ⟨rfl, b8⟩; have H8 := Lib.hid (H7.out.trans (b8.mono H7.out.size)); clear b8)
              | fail)
            go_ret
            exact ⟨by simp, H8.out⟩
          obtain ⟨fa, rfl⟩ := Int.eq_ofNat_of_zero_le hf1
          have hfa : fa < nM := by omega
          have htm : w32 (x.m fa).tasks = tm := by rw [← HTM.out, HTm.out, if_pos ⟨hf1, hf2⟩, Int.toNat_natCast]
          have m0 := HMx.out fa hfa wr HRO.out.1
          rw [htm] at m0
          obtain rfl := HSm.out (by omega)
          have htt : (tm == tm) = true := by simp
          clear htm HTM HTm HMx HSm hfa
          go_wp2_with (first
            | (refine wpList_load_row rfl 26 (.tmp 3) rfl Z rfl 26 #[.int .i64 res, .slice sT nT S.t.c, .slice (some ⟨S.m.b, S.m.o, none⟩) nM S.m.c, .slice sE nE S.e.c] (0, 0) _ HRO.out.2 Try.underlying26 rfl (by kernel_rfl) ?_)
            | (go_at_call 13; refine (HEd.out _ HRO.out.1).mono ?_; rintro e w5 ⟨rfl, b5⟩; have H5 := Lib.hid (And.intro (HRO.out.1.trans (b5.mono HRO.out.1.size)) (HRO.out.2.new b5)); clear b5 HRO)
            | (refine wpList_load_row rfl 26 (.tmp 3) rfl Z rfl 26 #[.int .i64 res, .slice sT nT S.t.c, .slice (some ⟨S.m.b, S.m.o, none⟩) nM S.m.c, .slice sE nE S.e.c] (0, 0) _ H5.out.2 Try.underlying26 rfl (by kernel_rfl) ?_)
            | (go_at_call 14; refine (HAl.out _).mono ?_; rintro e w6 ⟨rfl, b6⟩; have H6 := Lib.hid (And.intro (H5.out.1.trans (b6.mono H5.out.1.size)) (H5.out.2.new b6)); have e0 : w6.cell? ⟨Z, 0, none⟩ = some (.int .i64 res) := H6.out.2.cell 0; have e1 : w6.cell? ⟨Z, 1, none⟩ = some (.slice sT nT S.t.c) := H6.out.2.cell 1; have e2 : w6.cell? ⟨Z, 2, none⟩ = some (.slice (some ⟨S.m.b, S.m.o, none⟩) nM S.m.c) := H6.out.2.cell 2; have e3 : w6.cell? ⟨Z, 3, none⟩ = some (.slice sE nE S.e.c) := H6.out.2.cell 3; clear b6 H5)
            | (refine wpList_load_row rfl 26 (.tmp 3) rfl Z rfl 26 #[.int .i64 res, .slice sT nT S.t.c, .slice (some ⟨S.m.b, S.m.o, none⟩) nM S.m.c, .slice sE nE S.e.c] (0, 0) _ H6.out.2 Try.underlying26 rfl (by kernel_rfl) ?_)
            | (go_at_call 15; refine (HTa.out _ H6.out.1).mono ?_; rintro e w7 ⟨rfl, b7⟩; have H7 := Lib.hid (H6.out.1.trans (b7.mono H6.out.1.size)); clear b7 H6)
            | (go_at_call 11; refine (l10alive_any _).mono ?_; rintro e w8 ⟨rfl, b8⟩; have H8 := Lib.hid (H7.out.trans (b8.mono H7.out.size)); clear b8)
            | fail)
          go_ret
          exact ⟨by simp, H8.out⟩
      · as_aux_lemma =>
        have HRO := Lib.hid HR.out
        clear HR
        go_wp2
        clear c1 c3
        go_loopg [13, 14, 15] nE (fun g u13 u14 u15 wq => ∃ (o' : Option Nat) (z : Int), u13 = .int .i64 ((o'.getD 0 : Nat) : Int) ∧ u14 = .bool o'.isSome ∧ u15 = .int .i64 z ∧ Aside (z = (g : Int) - 1 ∧ g ≤ nE ∧ ixG x f t g = o' ∧ Below w.heap.size w wq ∧ RowAt wq Z 26 #[.int .i64 res, .slice sT nT S.t.c, .slice sM nM S.m.c, .slice sE nE S.e.c]))
        case atStart => exact ⟨none, (nE : Int) - 1, rfl, rfl, rfl, rfl, Nat.le_refl _, HX0.out, HRO.out⟩
        clear HRO HX0
        case round =>
        obtain ⟨o', z, rfl, rfl, rfl, HP⟩ := hrel
        have hz := HP.out.1
        cases gk with
        | succ g1 =>
          have hj : g1 < nE := by have := HP.out.2.1; omega
          obtain rfl : z = (g1 : Int) := by omega
          obtain rfl := HSe.out (by omega)
          have hj2 : (g1 : Int) < (nE : Int) := by omega
          have hxs := HXs.out g1 hj
          rw [HP.out.2.2.1] at hxs
          obtain ⟨d0, d1⟩ := HEx.out g1 hj _ HP.out.2.2.2.1
          have his := HIs.out g1
          obtain ⟨fj, hfj⟩ : ∃ a, (x.e g1).frm = a := ⟨_, rfl⟩
          obtain ⟨tj, htj⟩ : ∃ a, (x.e g1).dst = a := ⟨_, rfl⟩
          rw [hfj] at d0 his
          rw [htj] at d1 his
          have HHI := Lib.hid (And.intro hxs his)
          have HB := Lib.hid HP.out.2.2.2
          have c3 : wr.cell? ⟨Z, 3, none⟩ = some (.slice (some ⟨S.e.b, S.e.o, none⟩) nE S.e.c) := HB.out.2.cell 3
          have hg0 : (0 : Int) ≤ (g1 : Int) := by omega
          have HJ := Lib.hid hj
          clear hxs his hfj htj HXs HXZ HIs HEx HSe hz HP hj
          cases b1 : fj == f
          · have HN := Lib.hid (show ixG x f t g1 = o' from HHI.out.1.trans (by rw [HHI.out.2, b1]; rfl))
            go_wp2
            go_roundg g1
            case measure => omega
            case rel => exact ⟨o', (g1 : Int) - 1, rfl, rfl, by go_num, rfl, Nat.le_of_lt HJ.out, HN.out, HB.out⟩
          · cases b2 : tj == t
            · have HN := Lib.hid (show ixG x f t g1 = o' from HHI.out.1.trans (by rw [HHI.out.2, b1, b2]; rfl))
              go_wp2
              go_roundg g1
              case measure => omega
              case rel => exact ⟨o', (g1 : Int) - 1, rfl, rfl, by go_num, rfl, Nat.le_of_lt HJ.out, HN.out, HB.out⟩
            · have HN := Lib.hid (show ixG x f t g1 = some g1 from HHI.out.1.trans (by rw [HHI.out.2, b1, b2]; rfl))
              go_wp2
              go_roundg g1
              case measure => omega
              case rel => exact ⟨some g1, (g1 : Int) - 1, rfl, rfl, by go_num, rfl, Nat.le_of_lt HJ.out, HN.out, HB.out⟩
        | zero =>
          obtain rfl : z = -1 := by omega
          have hoo : o' = o := HP.out.2.2.1.symm.trans HXZ.out
          subst hoo
          have HRO := Lib.hid HP.out.2.2.2
          clear HP HXs HXZ HIs HEx HSe hz
          have c2 : wr.cell? ⟨Z, 2, none⟩ = some (.slice sM nM S.m.c) := HRO.out.2.cell 2
          generalize o'.isSome = ob at HEd ⊢
          generalize ((o'.getD 0 : Nat) : Int) = oi at HEd ⊢
          have hoi : (oi == oi) = true := by simp
          have hob : (ob == ob) = true := by simp
          have hal : (al == al) = true := by simp
          by_cases hf1 : 0 ≤ f
          case neg =>
            have htm : tm = 0 := by rw [← HTM.out, HTm.out, if_neg (fun h => hf1 h.1)]; rfl
            have htt : (tm == 0) = true := by simpa using htm
            clear htm HTM HTm HMx HSm
            go_wp2_with (first
              | (refine wpList_load_row rfl 26 (.tmp 3) rfl Z rfl 26 #[.int .i64 res, .slice sT nT S.t.c, .slice sM nM S.m.c, .slice sE nE S.e.c] (0, 0) _ HRO.out.2 Try.underlying26 rfl (by kernel_rfl) ?_)
              | (go_at_call 13; refine (HEd.out _ HRO.out.1).mono ?_; rintro e w5 ⟨rfl, b5⟩; have H5 := Lib.hid (And.intro (HRO.out.1.trans (b5.mono HRO.out.1.size)) (HRO.out.2.new b5)); clear b5 HRO)
              | (refine wpList_load_row rfl 26 (.tmp 3) rfl Z rfl 26 #[.int .i64 res, .slice sT nT S.t.c, .slice sM nM S.m.c, .slice sE nE S.e.c] (0, 0) _ H5.out.2 Try.underlying26 rfl (by kernel_rfl) ?_)
              | (go_at_call 14; refine (HAl.out _).mono ?_; rintro e w6 ⟨rfl, b6⟩; have H6 := Lib.hid (And.intro (H5.out.1.trans (b6.mono H5.out.1.size)) (H5.out.2.new b6)); have e0 : w6.cell? ⟨Z, 0, none⟩ = some (.int .i64 res) := H6.out.2.cell 0; have e1 : w6.cell? ⟨Z, 1, none⟩ = some (.slice sT nT S.t.c) := H6.out.2.cell 1; have e2 : w6.cell? ⟨Z, 2, none⟩ = some (.slice sM nM S.m.c) := H6.out.2.cell 2; have e3 : w6.cell? ⟨Z, 3, none⟩ = some (.slice sE nE S.e.c) := H6.out.2.cell 3; clear b6 H5)
              | (refine wpList_load_row rfl 26 (.tmp 3) rfl Z rfl 26 #[.int .i64 res, .slice sT nT S.t.c, .slice sM nM S.m.c, .slice sE nE S.e.c] (0, 0) _ H6.out.2 Try.underlying26 rfl (by kernel_rfl) ?_)
              | (go_at_call 15; refine (HTa.out _ H6.out.1).mono ?_; rintro e w7 ⟨rfl, b7⟩; have H7 := Lib.hid (H6.out.1.trans (b7.mono H6.out.1.size)); clear b7 H6)
              | (go_at_call 11; refine (l10alive_any _).mono ?_; rintro e w8 ⟨rfl, b8⟩; have H8 := Lib.hid (H7.out.trans (b8.mono H7.out.size)); clear b8)
              | fail)
            go_ret
            exact ⟨by simp, H8.out⟩
          by_cases hf2 : f < (nM : Int)
          case neg =>
            have htm : tm = 0 := by rw [← HTM.out, HTm.out, if_neg (fun h => hf2 h.2)]; rfl
            have htt : (tm == 0) = true := by simpa using htm
            clear htm HTM HTm HMx HSm
            go_wp2_with (first
              | (refine wpList_load_row rfl 26 (.tmp 3) rfl Z rfl 26 #[.int .i64 res, .slice sT nT S.t.c, .slice sM nM S.m.c, .slice sE nE S.e.c] (0, 0) _ HRO.out.2 Try.underlying26 rfl (by kernel_rfl) ?_)
              | (go_at_call 13; refine (HEd.out _ HRO.out.1).mono ?_; rintro e w5 ⟨rfl, b5⟩; have H5 := Lib.hid (And.intro (HRO.out.1.trans (b5.mono HRO.out.1.size)) (HRO.out.2.new b5)); clear b5 HRO)
              | (refine wpList_load_row rfl 26 (.tmp 3) rfl Z rfl 26 #[.int .i64 res, .slice sT nT S.t.c, .slice sM nM S.m.c, .slice sE nE S.e.c] (0, 0) _ H5.out.2 Try.underlying26 rfl (by kernel_rfl) ?_)
              | (go_at_call 14; refine (HAl.out _).mono ?_; rintro e w6 ⟨rfl, b6⟩; have H6 := Lib.hid (And.intro (H5.out.1.trans (b6.mono H5.out.1.size)) (H5.out.2.new b6)); have e0 : w6.cell? ⟨Z, 0, none⟩ = some (.int .i64 res) := H6.out.2.cell 0; have e1 : w6.cell? ⟨Z, 1, none⟩ = some (.slice sT nT S.t.c) := H6.out.2.cell 1; have e2 : w6.cell? ⟨Z, 2, none⟩ = some (.slice sM nM S.m.c) := H6.out.2.cell 2; have e3 : w6.cell? ⟨Z, 3, none⟩ = some (.slice sE nE S.e.c) := H6.out.2.cell 3; clear b6 H5)
              | (refine wpList_load_row rfl 26 (.tmp 3) rfl Z rfl 26 #[.int .i64 res, .slice sT nT S.t.c, .slice sM nM S.m.c, .slice sE nE S.e.c] (0, 0) _ H6.out.2 Try.underlying26 rfl (by kernel_rfl) ?_)
              | (go_at_call 15; refine (HTa.out _ H6.out.1).mono ?_; rintro e w7 ⟨rfl, b7⟩; have H7 := Lib.hid (H6.out.1.trans (b7.mono H6.out.1.size)); clear b7 H6)
              | (go_at_call 11; refine (l10alive_any _).mono ?_; rintro e w8 ⟨rfl, b8⟩; have H8 := Lib.hid (H7.out.trans (b8.mono H7.out.size)); clear b8)
              | fail)
            go_ret
            exact ⟨by simp, H8.out⟩
          obtain ⟨fa, rfl⟩ := Int.eq_ofNat_of_zero_le hf1
          have hfa : fa < nM := by omega
          have htm : w32 (x.m fa).tasks = tm := by rw [← HTM.out, HTm.out, if_pos ⟨hf1, hf2⟩, Int.toNat_natCast]
          have m0 := HMx.out fa hfa wr HRO.out.1
          rw [htm] at m0
          obtain rfl := HSm.out (by omega)
          have htt : (tm == tm) = true := by simp
          clear htm HTM HTm HMx HSm hfa
          go_wp2_with (first
            | (refine wpList_load_row rfl 26 (.tmp 3) rfl Z rfl 26 #[.int .i64 res, .slice sT nT S.t.c, .slice (some ⟨S.m.b, S.m.o, none⟩) nM S.m.c, .slice sE nE S.e.c] (0, 0) _ HRO.out.2 Try.underlying26 rfl (by kernel_rfl) ?_)
            | (go_at_call 13; refine (HEd.out _ HRO.out.1).mono ?_; rintro e w5 ⟨rfl, b5⟩; have H5 := Lib.hid (And.intro (HRO.out.1.trans (b5.mono HRO.out.1.size)) (HRO.out.2.new b5)); clear b5 HRO)
            | (refine wpList_load_row rfl 26 (.tmp 3) rfl Z rfl 26 #[.int .i64 res, .slice sT nT S.t.c, .slice (some ⟨S.m.b, S.m.o, none⟩) nM S.m.c, .slice sE nE S.e.c] (0, 0) _ H5.out.2 Try.underlying26 rfl (by kernel_rfl) ?_)
            | (go_at_call 14; refine (HAl.out _).mono ?_; rintro e w6 ⟨rfl, b6⟩; have H6 := Lib.hid (And.intro (H5.out.1.trans (b6.mono H5.out.1.size)) (H5.out.2.new b6)); have e0 : w6.cell? ⟨Z, 0, none⟩ = some (.int .i64 res) := H6.out.2.cell 0; have e1 : w6.cell? ⟨Z, 1, none⟩ = some (.slice sT nT S.t.c) := H6.out.2.cell 1; have e2 : w6.cell? ⟨Z, 2, none⟩ = some (.slice (some ⟨S.m.b, S.m.o, none⟩) nM S.m.c) := H6.out.2.cell 2; have e3 : w6.cell? ⟨Z, 3, none⟩ = some (.slice sE nE S.e.c) := H6.out.2.cell 3; clear b6 H5)
            | (refine wpList_load_row rfl 26 (.tmp 3) rfl Z rfl 26 #[.int .i64 res, .slice sT nT S.t.c, .slice (some ⟨S.m.b, S.m.o, none⟩) nM S.m.c, .slice sE nE S.e.c] (0, 0) _ H6.out.2 Try.underlying26 rfl (by kernel_rfl) ?_)
            | (go_at_call 15; refine (HTa.out _ H6.out.1).mono ?_; rintro e w7 ⟨rfl, b7⟩; have H7 := Lib.hid (H6.out.1.trans (b7.mono H6.out.1.size)); clear b7 H6)
            | (go_at_call 11; refine (l10alive_any _).mono ?_; rintro e w8 ⟨rfl, b8⟩; have H8 := Lib.hid (H7.out.trans (b8.mono H7.out.size)); clear b8)
            | fail)
          go_ret
          exact ⟨by simp, H8.out⟩
end Go.Proofs.Ytandehdgpbflmaa
