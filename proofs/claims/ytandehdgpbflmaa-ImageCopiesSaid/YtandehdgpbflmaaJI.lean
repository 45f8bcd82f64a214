/- The contract of image's checkEdges. -/
import Derived.Test.YtandehdgpbflmaaJH
namespace Go.Proofs.Ytandehdgpbflmaa
open Go.RowKit

/-- What is said of an image's edges. -/
def codeE (x : Img) : Int × Int := if 24 < x.edges.length then ((x.edges.length : Int), 102) else codeOf (firstNo x.edges.length (edgeOK x)) 102
set_option maxHeartbeats 4000000 in
set_option maxRecDepth 100000 in
theorem icheckEdges_any {w : World} {V : Nat → Prop} {x : Img} {S : ImgS} (h : ImgAt w V x S) :
    Calls Try.prog 35 #[.agg #[.int .i64 x.res, .slice S.t.sp x.tasks.length S.t.c, .slice S.m.sp x.modes.length S.m.c, .slice S.e.sp x.edges.length S.e.c]] w fun e w' => e = .returned (.tuple #[.int .i64 (codeE x).1, .int .i64 (codeE x).2]) ∧ Below w.heap.size w w' := by
  have hsm := h.se.sm
  have HT := Lib.hid (show codeE x = if 24 < x.edges.length then ((x.edges.length : Int), 102) else codeOf (firstNo x.edges.length (edgeOK x)) 102 from rfl)
  have HM := Lib.hid (show ∀ (k : Nat), k < x.edges.length → ∀ wx, Below w.heap.size w wx → _ from fun k hk wx hb => iedgeMayBe_any (h.new hb) k hk)
  obtain ⟨sT, hsT⟩ : ∃ s, S.t.sp = s := ⟨_, rfl⟩
  obtain ⟨sM, hsM⟩ : ∃ s, S.m.sp = s := ⟨_, rfl⟩
  obtain ⟨sE, hsE⟩ : ∃ s, S.e.sp = s := ⟨_, rfl⟩
  obtain ⟨nT, hnT⟩ : ∃ n, x.tasks.length = n := ⟨_, rfl⟩
  obtain ⟨nM, hnM⟩ : ∃ n, x.modes.length = n := ⟨_, rfl⟩
  obtain ⟨nE, hnE⟩ : ∃ n, x.edges.length = n := ⟨_, rfl⟩
  obtain ⟨res, hres⟩ : ∃ r, x.res = r := ⟨_, rfl⟩
  obtain ⟨v, hv⟩ : ∃ v, codeE x = v := ⟨_, rfl⟩
  rw [hnT, hnM, hnE, hsT, hsM, hsE, hres] at HM
  rw [hnE, hv] at HT
  rw [hnE] at hsm
  rw [hnT, hnM, hnE, hv, hsT, hsM, hsE, hres]
  obtain ⟨Z, hZ⟩ : ∃ Z, Z = w.heap.size := ⟨_, rfl⟩
  have HZ := Lib.hid (show ∀ w2, w.alloc (.cells #[.int .i64 res, .slice sT nT S.t.c, .slice sM nM S.m.c, .slice sE nE S.e.c] 26) = w2 → Below w.heap.size w w2 ∧ RowAt w2 Z 26 #[.int .i64 res, .slice sT nT S.t.c, .slice sM nM S.m.c, .slice sE nE S.e.c] from fun w2 hw => by
    rw [← hw, hZ]; exact ⟨(Below.refl _ _).alloc (Nat.le_refl _) _, RowAt.mk _ _ _⟩)
  clear h hnT hnM hnE hv hsT hsM hsE hres
  go_enter Try.func35, Try.ntmps35
  go_upto_region 1 with fail
  rw [← hZ]
  generalize hw2 : World.alloc _ _ = w2
  have HZ2 := Lib.hid (HZ.out w2 hw2)
  clear hw2 hZ HZ
  have c1 : w2.cell? ⟨Z, 3, none⟩ = some (.slice sE nE S.e.c) := HZ2.out.2.cell 3
  by_cases hbig : 24 < nE
  · have HV := Lib.hid (show v = ((nE : Int), 102) from HT.out.trans (if_pos hbig))
    have hbig2 : (24 : Int) < (nE : Int) := by omega
    clear HT HM hbig
    go_wp2
    go_ret2
    exact ⟨by rw [HV.out]; rfl, HZ2.out.1⟩
  · have HV := Lib.hid (show v = codeOf (firstNo nE (edgeOK x)) 102 from HT.out.trans (if_neg hbig))
    have hbig2 : ¬ (24 : Int) < (nE : Int) := by omega
    clear HT hbig
    go_wp2
    clear c1 hbig2
    go_loopg [15] nE (fun g u wr => ∃ k : Nat, k + g = nE ∧ u = .int .i64 (k : Nat) ∧ Aside (Below w.heap.size w wr ∧ RowAt wr Z 26 #[.int .i64 res, .slice sT nT S.t.c, .slice sM nM S.m.c, .slice sE nE S.e.c] ∧ ∀ j, j < k → edgeOK x j = true))
    case atStart => exact ⟨0, by omega, rfl, HZ2.out.1, HZ2.out.2, fun j hj => absurd hj (Nat.not_lt_zero j)⟩
    case round =>
      obtain ⟨k, hkg, rfl, HR⟩ := hrel
      cases gk with
      | zero =>
        obtain rfl : k = nE := by omega
        have HV2 := Lib.hid (show v = (0, 0) from HV.out.trans (by rw [firstNo_none HR.out.2.2]; rfl))
        go_wp2
        go_ret2
        exact ⟨by rw [HV2.out]; rfl, HR.out.1⟩
      | succ g1 =>
        have hk : k < nE := by omega
        have HMk := Lib.hid (HM.out k hk wr HR.out.1)
        have HF := Lib.hid (fun (hb : edgeOK x k = false) => show v = ((k : Int), 102) from HV.out.trans (by rw [firstNo_some hk HR.out.2.2 hb]; rfl))
        have HY := Lib.hid (fun (hb : edgeOK x k = true) => show ∀ j, j < k + 1 → edgeOK x j = true from fun j hj => by
          rcases Nat.lt_or_ge j k with h2 | h2
          · exact HR.out.2.2 j h2
          · obtain rfl : j = k := by omega
            exact hb)
        obtain ⟨bb, hbb⟩ : ∃ b, edgeOK x k = b := ⟨_, rfl⟩
        rw [hbb] at HMk HF HY
        have hk2 : (k : Int) < (nE : Int) := by omega
        have hk3 : (k : Int) + 1 ≤ 9223372036854775807 := by omega
        have c0 : wr.cell? ⟨Z, 0, none⟩ = some (.int .i64 res) := HR.out.2.1.cell 0
        have c1 : wr.cell? ⟨Z, 1, none⟩ = some (.slice sT nT S.t.c) := HR.out.2.1.cell 1
        have c2 : wr.cell? ⟨Z, 2, none⟩ = some (.slice sM nM S.m.c) := HR.out.2.1.cell 2
        have c3 : wr.cell? ⟨Z, 3, none⟩ = some (.slice sE nE S.e.c) := HR.out.2.1.cell 3
        clear hbb HM HV HZ2
        cases bb with
        | true =>
          go_wp2_with (go_at_call 64; refine HMk.out.mono ?_; rintro e w4 ⟨rfl, b4⟩; have H4 := Lib.hid (And.intro (HR.out.1.trans (b4.mono HR.out.1.size)) (HR.out.2.1.new b4)); clear b4 c0 c1 c2 c3)
          go_roundg g1
          case measure => omega
          case rel => exact ⟨k + 1, by omega, by go_num, H4.out.1, H4.out.2, HY.out (by simp)⟩
        | false =>
          go_wp2_with (go_at_call 64; refine HMk.out.mono ?_; rintro e w4 ⟨rfl, b4⟩; have H4 := Lib.hid (HR.out.1.trans (b4.mono HR.out.1.size)); clear b4 c0 c1 c2 c3)
          go_ret2
          exact ⟨by rw [HF.out (by simp)]; rfl, H4.out⟩
end Go.Proofs.Ytandehdgpbflmaa
