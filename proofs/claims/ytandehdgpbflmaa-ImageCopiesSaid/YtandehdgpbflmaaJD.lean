/- The contract of image's checkTasks. -/
import Derived.Test.YtandehdgpbflmaaJC
namespace Go.Proofs.Ytandehdgpbflmaa
open Go.RowKit

abbrev exT (a0 a1 a2 : Int) (f : Nat → Int) : List Value := [.int .i64 a0, .int .i64 a1, .int .i64 a2, .int .i64 (f 0), .int .i64 (f 1), .int .i64 (f 2), .int .i64 (f 3), .int .i64 (f 4), .int .i64 (f 5), .int .i64 (f 6), .int .i64 (f 7)]
theorem taskC_row {t : TaskM} (h : t.lon.length = 8) : (taskC t).toArray = task11 t.per t.dl t.cost (fun r => t.lon.getD r 0) := by
  obtain ⟨p, d, c, l⟩ := t
  simp only at h
  rcases l with _ | ⟨a0, _ | ⟨a1, _ | ⟨a2, _ | ⟨a3, _ | ⟨a4, _ | ⟨a5, _ | ⟨a6, _ | ⟨a7, _ | ⟨a8, l⟩⟩⟩⟩⟩⟩⟩⟩⟩
  all_goals first | rfl | (simp only [List.length_cons, List.length_nil] at h; omega)
theorem taskC_ex {t : TaskM} (h : t.lon.length = 8) : taskC t = exT t.per t.dl t.cost (fun r => t.lon.getD r 0) := by
  have := congrArg Array.toList (taskC_row h)
  simpa [task11, exT] using this
theorem taskC_len {t : TaskM} (h : t.lon.length = 8) : (taskC t).length = 11 := by
  unfold taskC
  simp only [List.length_cons, rowZ_len, h]
theorem taskC_one (t : TaskM) : (taskC t).all (·.oneCell') = true := by
  unfold taskC
  simp only [List.all_cons, rowZ_one, Bool.and_true]
  rfl
/-- The first number below another one that is not as asked. -/
def firstNo (n : Nat) (p : Nat → Bool) : Option Nat := (List.range n).find? fun k => !p k
theorem firstNo_some {n : Nat} {p : Nat → Bool} {k : Nat} (hk : k < n) (hn : ∀ j, j < k → p j = true) (h : p k = false) : firstNo n p = some k := by
  unfold firstNo
  rw [List.find?_range_eq_some]
  exact ⟨by rw [h]; rfl, by simpa using hk, fun j hj => by rw [hn j hj]; rfl⟩
theorem firstNo_none {n : Nat} {p : Nat → Bool} (hn : ∀ j, j < n → p j = true) : firstNo n p = none := by
  unfold firstNo
  rw [List.find?_eq_none]
  intro j hj
  rw [hn j (List.mem_range.1 hj)]; decide
def codeOf (o : Option Nat) (c : Int) : Int × Int := match o with | some k => ((k : Int), c) | none => (0, 0)
/-- May the k-th task of an image be? -/
def tkOK (x : Img) (k : Nat) : Bool := taskOK (x.t k).per (x.t k).dl (x.t k).cost (fun r => (x.t k).lon.getD r 0) x.res
/-- What is said of an image's tasks. -/
def codeT (x : Img) : Int × Int := if inB (x.tasks.length : Int) 1 16 = true then codeOf (firstNo x.tasks.length (tkOK x)) 100 else ((x.tasks.length : Int), 100)
set_option maxHeartbeats 4000000 in
set_option maxRecDepth 100000 in
theorem icheckTasks_any {w : World} {V : Nat → Prop} {x : Img} {S : ImgS} (h : ImgAt w V x S) :
    Calls Try.prog 33 #[.agg #[.int .i64 x.res, .slice S.t.sp x.tasks.length S.t.c, .slice S.m.sp x.modes.length S.m.c, .slice S.e.sp x.edges.length S.e.c]] w fun e w' => e = .returned (.tuple #[.int .i64 (codeT x).1, .int .i64 (codeT x).2]) ∧ Below w.heap.size w w' := by
  have HI := Lib.hid h
  have hsm := h.st.sm
  have HT := Lib.hid (show codeT x = if inB (x.tasks.length : Int) 1 16 = true then codeOf (firstNo x.tasks.length (tkOK x)) 100 else ((x.tasks.length : Int), 100) from rfl)
  have HW := Lib.hid (fun wx => within_any (x.tasks.length : Int) 1 16 wx)
  have HM := Lib.hid (show ∀ (k : Nat), k < x.tasks.length → ∀ wx, Calls Try.prog 62 #[.agg (taskC (x.t k)).toArray, .int .i64 x.res] wx fun e w' => e = .returned (.bool (tkOK x k)) ∧ Below wx.heap.size wx w' from fun k hk wx => by
    rw [taskC_row (h.tk k hk).2]
    exact itaskMayBe_any _ _ _ (fun r => (x.t k).lon.getD r 0) _ wx)
  have HC := Lib.hid (fun (k : Nat) (hk : k < x.tasks.length) (wx : World) (hb : Below w.heap.size w wx) => show At wx S.t.b (S.t.o + k * 11) (taskC (x.t k)) ∧ (taskC (x.t k)).length = 11 ∧ (taskC (x.t k)).all (·.oneCell') = true from ⟨((h.new hb).tk k hk).1, taskC_len (h.tk k hk).2, taskC_one _⟩)
  obtain ⟨sp, hsp0⟩ : ∃ s, S.t.sp = s := ⟨_, rfl⟩
  have HSp := Lib.hid (fun (h0 : 0 < x.tasks.length) => show sp = some ⟨S.t.b, S.t.o, none⟩ from by rw [← hsp0]; exact (h.st.at_ h0).1)
  obtain ⟨nT, hnT⟩ : ∃ n, x.tasks.length = n := ⟨_, rfl⟩
  obtain ⟨nM, hnM⟩ : ∃ n, x.modes.length = n := ⟨_, rfl⟩
  obtain ⟨nE, hnE⟩ : ∃ n, x.edges.length = n := ⟨_, rfl⟩
  obtain ⟨res, hres⟩ : ∃ r, x.res = r := ⟨_, rfl⟩
  obtain ⟨v, hv⟩ : ∃ v, codeT x = v := ⟨_, rfl⟩
  rw [hnT] at HW HSp HC HM hsm
  rw [hnT, hv] at HT
  rw [hres] at HM
  rw [hnT, hnM, hnE, hv, hsp0, hres]
  obtain ⟨Z, hZ⟩ : ∃ Z, Z = w.heap.size := ⟨_, rfl⟩
  have HZ := Lib.hid (show ∀ w2, w.alloc (.cells #[.int .i64 res, .slice sp nT S.t.c, .slice S.m.sp nM S.m.c, .slice S.e.sp nE S.e.c] 26) = w2 → Below w.heap.size w w2 ∧ RowAt w2 Z 26 #[.int .i64 res, .slice sp nT S.t.c, .slice S.m.sp nM S.m.c, .slice S.e.sp nE S.e.c] from fun w2 hw => by
    rw [← hw, hZ]; exact ⟨(Below.refl _ _).alloc (Nat.le_refl _) _, RowAt.mk _ _ _⟩)
  obtain ⟨bT, hbT⟩ : ∃ b, inB (nT : Int) 1 16 = b := ⟨_, rfl⟩
  rw [hbT] at HW HT
  have HN := Lib.hid hnT
  clear h hnT hnM hnE hv hsp0 hres hbT
  go_enter Try.func33, Try.ntmps33
  go_upto_region 1 with fail
  rw [← hZ]
  generalize hw2 : World.alloc _ _ = w2
  have HZ2 := Lib.hid (HZ.out w2 hw2)
  clear hw2 hZ HZ
  have c1 : w2.cell? ⟨Z, 1, none⟩ = some (.slice sp nT S.t.c) := HZ2.out.2.cell 1
  cases bT with
  | false =>
    go_wp2_with (go_at_call 32; refine (HW.out _).mono ?_; rintro e w' ⟨rfl, rfl⟩; clear HW)
    go_ret2
    exact ⟨by rw [HT.out]; rfl, HZ2.out.1⟩
  | true =>
    go_wp2_with (go_at_call 32; refine (HW.out _).mono ?_; rintro e w' ⟨rfl, rfl⟩; clear HW)
    clear c1
    go_loopg [17] nT (fun g u wr => ∃ k : Nat, k + g = nT ∧ u = .int .i64 (k : Nat) ∧ Aside (Below w.heap.size w wr ∧ RowAt wr Z 26 #[.int .i64 res, .slice sp nT S.t.c, .slice S.m.sp nM S.m.c, .slice S.e.sp nE S.e.c] ∧ ∀ j, j < k → tkOK x j = true))
    case atStart => exact ⟨0, by omega, rfl, HZ2.out.1, HZ2.out.2, fun j hj => absurd hj (Nat.not_lt_zero j)⟩
    case round =>
      obtain ⟨k, hkg, rfl, HR⟩ := hrel
      cases gk with
      | zero =>
        obtain rfl : k = nT := by omega
        have HV := Lib.hid (show v = (0, 0) from HT.out.trans ((if_pos (by simp)).trans (by rw [firstNo_none HR.out.2.2]; rfl)))
        go_wp2
        go_ret2
        exact ⟨by rw [HV.out]; rfl, HR.out.1⟩
      | succ g1 =>
        have hk : k < nT := by omega
        obtain rfl := HSp.out (by omega)
        have HK := Lib.hid (HC.out k hk wr HR.out.1)
        have HMk := Lib.hid (HM.out k hk)
        have HF := Lib.hid (fun (hb : tkOK x k = false) => show v = ((k : Int), 100) from HT.out.trans ((if_pos (by simp)).trans (by rw [firstNo_some hk HR.out.2.2 hb]; rfl)))
        have HY := Lib.hid (fun (hb : tkOK x k = true) => show ∀ j, j < k + 1 → tkOK x j = true from fun j hj => by
          rcases Nat.lt_or_ge j k with h2 | h2
          · exact HR.out.2.2 j h2
          · obtain rfl : j = k := by omega
            exact hb)
        obtain ⟨bb, hbb⟩ : ∃ b, tkOK x k = b := ⟨_, rfl⟩
        have hex := taskC_ex (HI.out.tk k (by rw [HN.out]; exact hk)).2
        obtain ⟨cs, hcc⟩ : ∃ cs, taskC (x.t k) = cs := ⟨_, rfl⟩
        obtain ⟨a0, ha0⟩ : ∃ a, (x.t k).per = a := ⟨_, rfl⟩
        obtain ⟨a1, ha1⟩ : ∃ a, (x.t k).dl = a := ⟨_, rfl⟩
        obtain ⟨a2, ha2⟩ : ∃ a, (x.t k).cost = a := ⟨_, rfl⟩
        obtain ⟨f, hf⟩ : ∃ f : Nat → Int, (fun r => (x.t k).lon.getD r 0) = f := ⟨_, rfl⟩
        rw [hcc, ha0, ha1, ha2, hf] at hex
        have HEx := Lib.hid hex
        clear ha0 ha1 ha2 hf hex
        rw [hbb] at HMk HF HY
        rw [hcc] at HK HMk
        have HSz := Lib.hid (show cs.toArray.size = 11 ∧ cs.toArray.all (·.oneCell') = true from ⟨by simpa using HK.out.2.1, by simpa using HK.out.2.2⟩)
        have hk2 : (k : Int) < (nT : Int) := by omega
        have hk3 : (k : Int) + 1 ≤ 9223372036854775807 := by omega
        clear hbb hcc
        go_upto_region 7 with (first
          | (refine wpList_load_mid rfl 39 (.tmp 20) rfl S.t.b (S.t.o + k * 11) rfl cs _ HK.out.1 Try.underlying39 rfl (by rw [HK.out.2.1]; kernel_rfl) ?_)
          | (refine wpList_store_row rfl 39 (.tmp 6) (.tmp 21) rfl wr.heap.size cs.toArray (by rfl) (by rfl) 39 _ (heap_alloc_new wr _) (by rw [HSz.out.1]; kernel_rfl) (by rw [HSz.out.1]; rfl) HSz.out.2 ?_; generalize hw3 : World.setRow _ _ _ = w3)
          | fail)
        have H3 := Lib.hid (show Below w.heap.size w w3 ∧ RowAt w3 Z 26 #[.int .i64 res, .slice (some ⟨S.t.b, S.t.o, none⟩) nT S.t.c, .slice S.m.sp nM S.m.c, .slice S.e.sp nE S.e.c] ∧ RowAt w3 wr.heap.size 39 cs.toArray by
          rw [← hw3]
          have ha := alloc_row wr #[.int .i64 0, .int .i64 0, .int .i64 0, .int .i64 0, .int .i64 0, .int .i64 0, .int .i64 0, .int .i64 0, .int .i64 0, .int .i64 0, .int .i64 0] cs.toArray 39
          exact ⟨HR.out.1.trans (ha.1.mono HR.out.1.size), HR.out.2.1.new ha.1, ha.2⟩)
        obtain ⟨E, hE⟩ : ∃ E, E = wr.heap.size := ⟨_, rfl⟩
        rw [← hE] at H3 ⊢
        have c0 : w3.cell? ⟨Z, 0, none⟩ = some (.int .i64 res) := H3.out.2.1.cell 0
        clear hw3 hE HK
        rw [HEx.out] at H3 HMk ⊢
        clear HEx HSz HSp HC HM HI HT
        have e0 : w3.cell? ⟨E, 0, none⟩ = some (.int .i64 a0) := H3.out.2.2.cell 0
        have e1 : w3.cell? ⟨E, 1, none⟩ = some (.int .i64 a1) := H3.out.2.2.cell 1
        have e2 : w3.cell? ⟨E, 2, none⟩ = some (.int .i64 a2) := H3.out.2.2.cell 2
        have e3 : w3.cell? ⟨E, 3, none⟩ = some (.int .i64 (f 0)) := H3.out.2.2.cell 3
        have e4 : w3.cell? ⟨E, 4, none⟩ = some (.int .i64 (f 1)) := H3.out.2.2.cell 4
        have e5 : w3.cell? ⟨E, 5, none⟩ = some (.int .i64 (f 2)) := H3.out.2.2.cell 5
        have e6 : w3.cell? ⟨E, 6, none⟩ = some (.int .i64 (f 3)) := H3.out.2.2.cell 6
        have e7 : w3.cell? ⟨E, 7, none⟩ = some (.int .i64 (f 4)) := H3.out.2.2.cell 7
        have e8 : w3.cell? ⟨E, 8, none⟩ = some (.int .i64 (f 5)) := H3.out.2.2.cell 8
        have e9 : w3.cell? ⟨E, 9, none⟩ = some (.int .i64 (f 6)) := H3.out.2.2.cell 9
        have e10 : w3.cell? ⟨E, 10, none⟩ = some (.int .i64 (f 7)) := H3.out.2.2.cell 10
        cases bb with
        | true =>
          go_wp2_with (first
            | (clear e0 e1 e2 e3 e4 e5 e6 e7 e8 e9 e10; go_at_call 62; refine (HMk.out _).mono ?_; rintro e w4 ⟨rfl, b4⟩; have H4 := Lib.hid (And.intro (H3.out.1.trans (b4.mono H3.out.1.size)) (H3.out.2.1.new b4)); clear b4)
            | fail)
          go_roundg g1
          case measure => omega
          case rel => exact ⟨k + 1, by omega, by go_num, H4.out.1, H4.out.2, HY.out (by simp)⟩
        | false =>
          go_wp2_with (first
            | (clear e0 e1 e2 e3 e4 e5 e6 e7 e8 e9 e10; go_at_call 62; refine (HMk.out _).mono ?_; rintro e w4 ⟨rfl, b4⟩; have H4 := Lib.hid (H3.out.1.trans (b4.mono H3.out.1.size)); clear b4)
            | fail)
          go_ret2
          exact ⟨by rw [HF.out (by simp)]; rfl, H4.out⟩
end Go.Proofs.Ytandehdgpbflmaa
