/- The contracts of image's All and Edge, and of what Edge calls. -/
import Derived.Test.YtandehdgpbflmaaJB
import Derived.Test.YtandehdgpbflmaaVE
namespace Go.Proofs.Ytandehdgpbflmaa
open Go.RowKit

theorem run_index_row {t : TypeId} {n : Nat} (hu : Try.prog.underlying t = some (.array n 3)) (l : List Int) (hl : l.length = n) (k : Nat) (hk : k < n) (w : World) :
    (Instr.index t (.agg (rowZ l).toArray) (.int .i64 (k : Int))).run Try.prog w = .ok (.int .i64 (l.getD k 0)) w := by
  have h0 : k < l.length := by omega
  have h1 : (rowZ l)[k]? = some (.int .i64 (l.getD k 0)) := by simp [rowZ, h0]
  have hk2 : (k : Int) < (n : Int) := by omega
  have hz : (rowZ l).length = l.length := rowZ_len l
  simp [Instr.index, run_underlying hu, go_sem, part, asIntOf]
  simp [h1]
  intro hc
  omega
def allI (x : Img) : BitVec 32 := btw 4294967295#32 (-1) (x.tasks.length : Int)
theorem iAll_any (x : Img) (S : ImgS) (w : World) : Calls Try.prog 14 #[.agg #[.int .i64 x.res, .slice S.t.sp x.tasks.length S.t.c, .slice S.m.sp x.modes.length S.m.c, .slice S.e.sp x.edges.length S.e.c]] w fun e w' => e = .returned (.int .u32 (w32 (allI x))) ∧ Below w.heap.size w w' := by
  have HB := Lib.hid (show ∀ wx, Calls Try.prog 43 #[.int .u32 4294967295, .int .i64 (x.tasks.length : Int)] wx fun e w' => e = .returned (.int .u32 (w32 (allI x))) ∧ wx = w' from fun wx => below_any 4294967295#32 (x.tasks.length : Int) wx)
  obtain ⟨nT, hnT⟩ : ∃ n, x.tasks.length = n := ⟨_, rfl⟩
  obtain ⟨nM, hnM⟩ : ∃ n, x.modes.length = n := ⟨_, rfl⟩
  obtain ⟨nE, hnE⟩ : ∃ n, x.edges.length = n := ⟨_, rfl⟩
  obtain ⟨a, ha⟩ : ∃ a, allI x = a := ⟨_, rfl⟩
  rw [hnT, ha] at HB
  rw [hnT, hnM, hnE, ha]
  have HZ := Lib.hid (show Below w.heap.size w (w.alloc (.cells #[.int .i64 x.res, .slice S.t.sp nT S.t.c, .slice S.m.sp nM S.m.c, .slice S.e.sp nE S.e.c] 26)) from (Below.refl _ _).alloc (Nat.le_refl _) _)
  clear hnT hnM hnE ha
  go_enter Try.func14, Try.ntmps14
  go_wp2_with (go_at_call 43; refine (HB.out _).mono ?_; rintro e w' ⟨rfl, rfl⟩)
  go_ret
  exact ⟨rfl, HZ.out⟩
/-- Does an edge go so? -/
def isE (x : Img) (f t : Int) (k : Nat) : Bool := (x.e k).frm == f && (x.e k).dst == t
theorem edge1_any (E : Array Value) (ef ed : Int) (h0 : E[0]? = some (.int .i64 ef)) (h1 : E[1]? = some (.int .i64 ed)) (A B : Nat) (f t : Int) (w : World) (hA : w.cell? ⟨A, 0, none⟩ = some (.int .i64 f)) (hB : w.cell? ⟨B, 0, none⟩ = some (.int .i64 t)) :
    Calls Try.prog 42 #[.agg E, .pointer (some ⟨A, 0, none⟩), .pointer (some ⟨B, 0, none⟩)] w fun e w' => e = .returned (.bool (ef == f && ed == t)) ∧ Below w.heap.size w w' := by
  have bA := World.block_lt_of_cell? w _ hA
  have bB := World.block_lt_of_cell? w _ hB
  obtain ⟨Z, hZ⟩ : ∃ Z, Z = w.heap.size := ⟨_, rfl⟩
  have H2 := Lib.hid (show ∀ w2, w.alloc (.cells E 45) = w2 → Below w.heap.size w w2 ∧ w2.cell? ⟨Z, 0, none⟩ = some (.int .i64 ef) ∧ w2.cell? ⟨Z, 1, none⟩ = some (.int .i64 ed) ∧ w2.cell? ⟨A, 0, none⟩ = some (.int .i64 f) ∧ w2.cell? ⟨B, 0, none⟩ = some (.int .i64 t) from fun w2 hw => by
    have b1 : Below w.heap.size w w2 := by rw [← hw]; exact (Below.refl _ _).alloc (Nat.le_refl _) _
    have hr : RowAt w2 Z 45 E := by rw [← hw, hZ]; exact RowAt.mk _ _ _
    exact ⟨b1, (hr.cell 0).trans h0, (hr.cell 1).trans h1, (b1.cell (p := ⟨A, 0, none⟩) bA).trans hA, (b1.cell (p := ⟨B, 0, none⟩) bB).trans hB⟩)
  clear h0 h1 hA hB bA bB
  go_enter Try.func42, Try.ntmps42
  go_upto_region 1 with fail
  rw [← hZ]
  generalize hw2 : World.alloc _ _ = w2
  obtain ⟨b1, c0, c1, cA, cB⟩ := H2.out w2 hw2
  have HB := Lib.hid b1
  clear hw2 hZ b1 H2
  by_cases e1 : ef = f
  · have e1' : (ef == f) = true := by simpa using e1
    have HE := Lib.hid e1
    clear e1
    go_wp2
    go_ret
    exact ⟨by rw [e1']; rfl, HB.out⟩
  · have e1' : (ef == f) = false := by simpa using e1
    have HE := Lib.hid e1
    clear e1
    go_wp2
    go_ret
    exact ⟨by rw [e1']; rfl, HB.out⟩
/-- The first edge that goes so. -/
def ixE (x : Img) (f t : Int) : Option Nat := (List.range x.edges.length).find? (isE x f t)
def ixI (o : Option Nat) : Int := match o with | some k => (k : Int) | none => -1
theorem ixE_some {x : Img} {f t : Int} {k : Nat} (hk : k < x.edges.length) (hn : ∀ j, j < k → isE x f t j = false) (h : isE x f t k = true) : ixE x f t = some k := by
  unfold ixE
  rw [List.find?_range_eq_some]
  exact ⟨h, by simpa using hk, fun j hj => by rw [hn j hj]; rfl⟩
theorem ixE_none {x : Img} {f t : Int} (hn : ∀ j, j < x.edges.length → isE x f t j = false) : ixE x f t = none := by
  unfold ixE
  rw [List.find?_eq_none]
  intro j hj
  rw [hn j (List.mem_range.1 hj)]; decide
set_option maxHeartbeats 4000000 in
theorem idxE_any {w : World} {V : Nat → Prop} {x : Img} {S : ImgS} (h : ImgAt w V x S) (A B : Nat) (f t : Int) (hA : w.cell? ⟨A, 0, none⟩ = some (.int .i64 f)) (hB : w.cell? ⟨B, 0, none⟩ = some (.int .i64 t)) :
    Calls Try.prog 41 #[.slice S.e.sp x.edges.length S.e.c, .func (.func 42) #[] #[.pointer (some ⟨A, 0, none⟩), .pointer (some ⟨B, 0, none⟩)]] w fun e w' => e = .returned (.int .i64 (ixI (ixE x f t))) ∧ Below w.heap.size w w' := by
  have bA := World.block_lt_of_cell? w _ hA
  have bB := World.block_lt_of_cell? w _ hB
  have HI := Lib.hid h
  have hsm := h.se.sm
  have HAB := Lib.hid (show ∀ w', Below w.heap.size w w' → w'.cell? ⟨A, 0, none⟩ = some (.int .i64 f) ∧ w'.cell? ⟨B, 0, none⟩ = some (.int .i64 t) from fun w' hb => ⟨(hb.cell (p := ⟨A, 0, none⟩) bA).trans hA, (hb.cell (p := ⟨B, 0, none⟩) bB).trans hB⟩)
  have HS := Lib.hid (fun (k : Nat) (hk : k < x.edges.length) (hn : ∀ j, j < k → isE x f t j = false) (hb : isE x f t k = true) => ixE_some hk hn hb)
  have HW := Lib.hid (fun (hn : ∀ j, j < x.edges.length → isE x f t j = false) => ixE_none hn)
  obtain ⟨v, hv⟩ : ∃ v, ixE x f t = v := ⟨_, rfl⟩
  obtain ⟨sp, hsp0⟩ : ∃ s, S.e.sp = s := ⟨_, rfl⟩
  have HSp := Lib.hid (fun (h0 : 0 < x.edges.length) => show sp = some ⟨S.e.b, S.e.o, none⟩ from by rw [← hsp0]; exact (h.se.at_ h0).1)
  obtain ⟨n, hn⟩ : ∃ n, x.edges.length = n := ⟨_, rfl⟩
  rw [hn, hv] at HS HW
  rw [hn] at hsm HSp
  rw [hn, hv, hsp0]
  have HN := Lib.hid hn
  clear h hn hv hsp0 hA hB bA bB
  go_enter Try.func41, Try.ntmps41
  go_wp2
  go_loopg [8] n (fun g u wr => ∃ k : Nat, k + g = n ∧ u = .int .i64 (k : Nat) ∧ Aside (Below w.heap.size w wr ∧ ∀ j, j < k → isE x f t j = false))
  case atStart => exact ⟨0, by omega, rfl, Below.refl _ _, fun j hj => absurd hj (Nat.not_lt_zero j)⟩
  case round =>
    obtain ⟨k, hkg, rfl, HR⟩ := hrel
    cases gk with
    | zero =>
      obtain rfl : k = n := by omega
      have HV := Lib.hid (HW.out HR.out.2)
      go_wp2
      go_ret
      exact ⟨by rw [HV.out]; rfl, HR.out.1⟩
    | succ g1 =>
      have hk : k < n := by omega
      obtain rfl := HSp.out (by omega)
      obtain ⟨hcs, hl1, hl2⟩ := (HI.out.new HR.out.1).ed k (by rw [HN.out]; exact hk)
      have hlen := edgeC_len hl1 hl2
      have h0 : (edgeC (x.e k)).toArray[0]? = some (.int .i64 (x.e k).frm) := rfl
      have h1 : (edgeC (x.e k)).toArray[1]? = some (.int .i64 (x.e k).dst) := rfl
      have HM := Lib.hid (edge1_any _ _ _ h0 h1 A B f t wr (HAB.out wr HR.out.1).1 (HAB.out wr HR.out.1).2)
      have hb0 : ((x.e k).frm == f && (x.e k).dst == t) = isE x f t k := rfl
      rw [hb0] at HM
      obtain ⟨cs, hcc⟩ : ∃ cs, edgeC (x.e k) = cs := ⟨_, rfl⟩
      rw [hcc] at HM hcs hlen
      have HAt := Lib.hid (And.intro hcs hlen)
      have HF := Lib.hid (fun hb => HS.out k hk HR.out.2 hb)
      have HY := Lib.hid (fun (hb : isE x f t k = false) => show ∀ j, j < k + 1 → isE x f t j = false from fun j hj => by
        rcases Nat.lt_or_ge j k with h2 | h2
        · exact HR.out.2 j h2
        · obtain rfl : j = k := by omega
          exact hb)
      obtain ⟨bb, hbb⟩ : ∃ b, isE x f t k = b := ⟨_, rfl⟩
      rw [hbb] at HM HF HY
      have hk2 : (k : Int) < (n : Int) := by omega
      have hk3 : (k : Int) + 1 ≤ 9223372036854775807 := by omega
      clear hbb hcc hcs hl1 hl2 hlen h0 h1 hb0
      cases bb with
      | false =>
        go_wp2_with (first
          | (refine wpList_load_mid rfl 45 (.tmp 14) rfl S.e.b (S.e.o + k * 23) rfl cs _ HAt.out.1 Try.underlying45 rfl (by rw [HAt.out.2]; kernel_rfl) ?_)
          | (go_at_call 42; refine HM.out.mono ?_; rintro e w1 ⟨rfl, b1⟩; have H1 := Lib.hid (HR.out.1.trans (b1.mono HR.out.1.size)); clear b1)
          | fail)
        go_roundg g1
        case measure => omega
        case rel => exact ⟨k + 1, by omega, by go_num, H1.out, HY.out (by simp)⟩
      | true =>
        go_wp2_with (first
          | (refine wpList_load_mid rfl 45 (.tmp 14) rfl S.e.b (S.e.o + k * 23) rfl cs _ HAt.out.1 Try.underlying45 rfl (by rw [HAt.out.2]; kernel_rfl) ?_)
          | (go_at_call 42; refine HM.out.mono ?_; rintro e w1 ⟨rfl, b1⟩; have H1 := Lib.hid (HR.out.1.trans (b1.mono HR.out.1.size)); clear b1)
          | fail)
        go_ret
        exact ⟨by rw [HF.out (by simp)]; rfl, H1.out⟩
theorem iEdge_any {w : World} {V : Nat → Prop} {x : Img} {S : ImgS} (h : ImgAt w V x S) (f t : Int) :
    Calls Try.prog 13 #[.agg #[.int .i64 x.res, .slice S.t.sp x.tasks.length S.t.c, .slice S.m.sp x.modes.length S.m.c, .slice S.e.sp x.edges.length S.e.c], .int .i64 f, .int .i64 t] w fun e w' => e = .returned (.tuple #[.int .i64 ((ixE x f t).getD 0 : Nat), .bool (ixE x f t).isSome]) ∧ Below w.heap.size w w' := by
  have hmf : ∀ (fn : Fn) (first cap : Array Value) (w : World), (Instr.makeFunc fn first cap).run Try.prog w = .ok (.func fn first cap) w := fun _ _ _ _ => rfl
  obtain ⟨Z, hZ⟩ : ∃ Z, Z = w.heap.size := ⟨_, rfl⟩
  have HX := Lib.hid (show ∀ wx A B, Below w.heap.size w wx → wx.cell? ⟨A, 0, none⟩ = some (.int .i64 f) → wx.cell? ⟨B, 0, none⟩ = some (.int .i64 t) → _ from fun wx A B hb hA hB => idxE_any (h.new hb) A B f t hA hB)
  obtain ⟨o, ho⟩ : ∃ o, ixE x f t = o := ⟨_, rfl⟩
  obtain ⟨nT, hnT⟩ : ∃ n, x.tasks.length = n := ⟨_, rfl⟩
  obtain ⟨nM, hnM⟩ : ∃ n, x.modes.length = n := ⟨_, rfl⟩
  obtain ⟨nE, hnE⟩ : ∃ n, x.edges.length = n := ⟨_, rfl⟩
  rw [ho, hnE] at HX
  rw [hnT, hnM, hnE, ho]
  clear h ho hnT hnM hnE
  go_enter Try.func13, Try.ntmps13
  go_upto_region 1 with fail
  rw [← hZ]
  generalize hw2 : World.alloc _ _ = w2
  have H2 := Lib.hid (show Below w.heap.size w w2 ∧ w2.cell? ⟨Z, 3, none⟩ = some (.slice S.e.sp nE S.e.c) ∧ w2.cell? ⟨Z + 1, 0, none⟩ = some (.int .i64 f) ∧ w2.cell? ⟨Z + 1 + 1, 0, none⟩ = some (.int .i64 t) by
    rw [← hw2, hZ]
    exact ⟨(((Below.refl _ _).alloc (Nat.le_refl _) _).alloc (by simp) _).alloc (by simp; omega) _, by simp [go_sem], by simp [go_sem], by simp [go_sem]⟩)
  clear hw2 hZ
  have c3 := H2.out.2.1
  go_wp2_with (go_at_call 41; refine (HX.out _ _ _ H2.out.1 H2.out.2.2.1 H2.out.2.2.2).mono ?_; rintro e w3 ⟨rfl, b3⟩; have H3 := Lib.hid (H2.out.1.trans (b3.mono H2.out.1.size)); clear b3)
  all_goals rcases o with _ | k
  · go_ret2
    exact ⟨rfl, H3.out⟩
  · exfalso
    have : ixI (some k) = (k : Int) := rfl
    omega
  · exfalso
    have : ixI none = -1 := rfl
    omega
  · go_ret2
    exact ⟨rfl, H3.out⟩
end Go.Proofs.Ytandehdgpbflmaa
