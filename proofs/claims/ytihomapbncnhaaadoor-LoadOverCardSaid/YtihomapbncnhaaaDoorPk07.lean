/- Several texts in one: ZB, Mx, ZC, XF, ZD, ZE, ZG, IB. -/
import Derived.Test.YtihomapbncnhaaaDoorPk06
import Derived.Test.YtihomapbncnhaaaDoorPk01
import Derived.Deep.CutBlock
import Derived.Test.YtihomapbncnhaaaDoorPk03
import Derived.Test.YtihomapbncnhaaaDoorPk04
/- The contracts of check.Common, check.Multiple and fix.together. -/
namespace Go.Proofs.YtihomapbncnhaaaDoor
open Go.RowKit

def comN (a b : Int) : Int := if numB a && numB b then (Nat.gcd a.toNat b.toNat : Int) else 0
def comB (a b : Int) : Bool := numB a && numB b
theorem gcd_step (x y : Nat) : Nat.gcd y (x % y) = Nat.gcd x y := by
  rw [Nat.gcd_comm, ← Nat.gcd_rec, Nat.gcd_comm]
theorem common_any (a b : Int) (w : World) : Calls Tryd.prog 85 #[.int .i64 a, .int .i64 b] w fun e w' => e = .returned (.tuple #[.int .i64 (comN a b), .bool (comB a b)]) ∧ Below w.heap.size w w' := by
  unfold comN comB
  rcases numB_cases a with ⟨ha, ha1, ha2⟩ | ⟨ha, ha1⟩
  · rcases numB_cases b with ⟨hb, hb1, hb2⟩ | ⟨hb, hb1⟩
    · rw [ha, hb]
      obtain ⟨x, rfl⟩ := Int.eq_ofNat_of_zero_le ha1
      obtain ⟨y, rfl⟩ := Int.eq_ofNat_of_zero_le hb1
      go_enter Tryd.func85, Tryd.ntmps85
      go_wp2_with (go_at_call 90; refine (number_any _ _).mono ?_; rintro e w' ⟨rfl, rfl⟩)
      go_loopw [0, 1] (fun a b wr => ∃ p q : Nat, p ≤ 1099511627776 ∧ q ≤ 1099511627776 ∧ a = .int .i64 p ∧ b = .int .i64 q ∧ Nat.gcd p q = Nat.gcd x y ∧ Below w.heap.size w wr) (fun _ b _ => (intOf b).toNat)
      case atStart => exact ⟨x, y, by omega, by omega, rfl, rfl, rfl, Below.refl _ _⟩
      case round =>
        obtain ⟨p, q, hp, hq, rfl, rfl, hg, hn⟩ := hrel
        have HG := Lib.hid hg
        have HN := Lib.hid hn
        clear hg hn
        by_cases hlt : 0 < q
        · have h0 : (q : Int) ≠ 0 := by omega
          go_wp2
          go_quiet (fail)
          go_wp2
          go_roundw
          case rel => exact ⟨q, p % q, hq, by have := Nat.mod_le p q; omega, rfl, by go_num, (gcd_step p q).trans HG.out, below_dn HN.out _⟩
          case measure => simp [intOf]; have := Nat.mod_lt p hlt; omega
        · obtain rfl : q = 0 := by omega
          go_wp2
          go_ret2
          exact ⟨by have h := HG.out; simp at h; simp [h], HN.out⟩
    · rw [ha, hb]
      go_enter Tryd.func85, Tryd.ntmps85
      go_wp2_with (go_at_call 90; refine (number_any _ _).mono ?_; rintro e w' ⟨rfl, rfl⟩)
      go_ret2
      exact ⟨by simp, Below.refl _ _⟩
  · rw [ha]
    go_enter Tryd.func85, Tryd.ntmps85
    go_wp2_with (go_at_call 90; refine (number_any _ _).mono ?_; rintro e w' ⟨rfl, rfl⟩)
    go_ret2
    exact ⟨by simp, Below.refl _ _⟩
def mupB (a b : Int) : Bool := comB a b && !(a == 0) && !(b == 0) && mulB (a / comN a b) b
def mupN (a b : Int) : Int := if comB a b && !(a == 0) && !(b == 0) then mulN (a / comN a b) b else 0
theorem com_pos {a b : Int} (h : comB a b = true) (ha : a ≠ 0) : 1 ≤ comN a b ∧ comN a b ≤ a ∧ comN a b ≤ 1099511627776 := by
  unfold comB at h; unfold comN; rw [if_pos h]
  rcases numB_cases a with ⟨h1, h2, h3⟩ | ⟨h1, h2⟩
  · have hp : 0 < a.toNat := by omega
    have := Nat.gcd_pos_of_pos_left b.toNat hp
    have := Nat.gcd_le_left b.toNat hp
    omega
  · rw [h1] at h; cases h
theorem com_bds {a b : Int} (h : comB a b = true) : 0 ≤ a ∧ a ≤ 1099511627776 ∧ 0 ≤ b ∧ b ≤ 1099511627776 := by
  unfold comB at h
  rcases numB_cases a with ⟨h1, h2, h3⟩ | ⟨h1, h2⟩
  · rcases numB_cases b with ⟨h4, h5, h6⟩ | ⟨h4, h5⟩
    · exact ⟨h2, h3, h5, h6⟩
    · rw [h1, h4] at h; cases h
  · rw [h1] at h; cases h
theorem multiple_any (a b : Int) (w : World) : Calls Tryd.prog 53 #[.int .i64 a, .int .i64 b] w fun e w' => e = .returned (.tuple #[.int .i64 (mupN a b), .bool (mupB a b)]) ∧ Below w.heap.size w w' := by
  cases hc : comB a b
  · have e1 : mupN a b = 0 := by simp [mupN, hc]
    have e2 : mupB a b = false := by simp [mupB, hc]
    rw [e1, e2]
    clear e1 e2
    go_enter Tryd.func53, Tryd.ntmps53
    go_wp2_with (go_at_call 85; refine (common_any _ _ _).mono ?_; rintro e w' ⟨rfl, hd⟩)
    go_ret2
    exact ⟨rfl, hd⟩
  · by_cases ha : a = 0
    · subst ha
      have e1 : mupN 0 b = 0 := by simp [mupN]
      have e2 : mupB 0 b = false := by simp [mupB]
      rw [e1, e2]
      clear e1 e2
      go_enter Tryd.func53, Tryd.ntmps53
      go_wp2_with (go_at_call 85; refine (common_any _ _ _).mono ?_; rintro e w' ⟨rfl, hd⟩)
      go_ret2
      exact ⟨rfl, hd⟩
    · have ea : (a == 0) = false := by simp; omega
      by_cases hb : b = 0
      · subst hb
        have e1 : mupN a 0 = 0 := by simp [mupN]
        have e2 : mupB a 0 = false := by simp [mupB]
        rw [e1, e2]
        clear e1 e2
        go_enter Tryd.func53, Tryd.ntmps53
        go_wp2_with (go_at_call 85; refine (common_any _ _ _).mono ?_; rintro e w' ⟨rfl, hd⟩)
        go_ret2
        exact ⟨rfl, hd⟩
      · have eb : (b == 0) = false := by simp; omega
        obtain ⟨h1, h2, h3⟩ := com_pos hc ha
        obtain ⟨h4, h5, h6, h7⟩ := com_bds hc
        have e1 : mupN a b = mulN (a / comN a b) b := by simp [mupN, hc, ea, eb]
        have e2 : mupB a b = mulB (a / comN a b) b := by simp [mupB, hc, ea, eb]
        rw [e1, e2]
        clear e1 e2
        have hq := quo_bds h4 (by omega : 0 < comN a b)
        obtain ⟨q1, q2, -, -, -⟩ := hq
        go_enter Tryd.func53, Tryd.ntmps53
        go_wp2_with (first | (go_at_call 85; refine (common_any _ _ _).mono ?_; rintro e w' ⟨rfl, hd⟩) | (go_at_call 59; refine (mul_any _ _ _).mono ?_; rintro e w' ⟨rfl, rfl⟩))
        go_ret2
        exact ⟨rfl, hd⟩
theorem mup_no {a b : Int} (h : mupB a b = false) : mupN a b = 0 := by
  unfold mupB at h; unfold mupN
  split
  · rename_i hc
    rw [hc] at h
    simp only [Bool.true_and] at h
    unfold mulN mulB at *
    rw [h]; rfl
  · rfl
/-- A common multiple is one of both; 0: there is none. -/
theorem mup_good (a b : Int) : 0 ≤ mupN a b ∧ mupN a b ≤ 1099511627776 ∧ (mupN a b = 0 ∨ (a ∣ mupN a b ∧ b ∣ mupN a b)) := by
  cases h : mupB a b with
  | false => rw [mup_no h]; exact ⟨Int.le_refl _, by omega, .inl rfl⟩
  | true =>
    have h' := h
    simp only [mupB, Bool.and_eq_true, Bool.not_eq_true', beq_eq_false_iff_ne] at h
    obtain ⟨⟨⟨hc, ha⟩, hb⟩, hm⟩ := h
    have e1 : mupN a b = mulN (a / comN a b) b := by unfold mupN; rw [if_pos]; simp [hc, ha, hb]
    have e2 : mulN (a / comN a b) b = a / comN a b * b := by unfold mulN; rw [if_pos (by simpa [mulB] using hm)]
    simp only [mulB, Bool.and_eq_true, numB_iff] at hm
    rw [e1, e2]
    refine ⟨hm.2.1, hm.2.2, .inr ⟨?_, Int.dvd_mul_left _ _⟩⟩
    obtain ⟨p1, p2, p3⟩ := com_pos hc ha
    obtain ⟨h4, h5, h6, h7⟩ := com_bds hc
    have hg : comN a b = (Nat.gcd a.toNat b.toNat : Int) := by unfold comN; rw [if_pos (by simpa [comB] using hc)]
    have da : comN a b ∣ a := by
      rw [hg]
      have := Int.natCast_dvd_natCast.2 (Nat.gcd_dvd_left a.toNat b.toNat)
      rwa [Int.toNat_of_nonneg h4] at this
    have db : comN a b ∣ b := by
      rw [hg]
      have := Int.natCast_dvd_natCast.2 (Nat.gcd_dvd_right a.toNat b.toNat)
      rwa [Int.toNat_of_nonneg h6] at this
    obtain ⟨q, hq⟩ := db
    have : a / comN a b * b = a * q := by
      have e : a / comN a b * comN a b = a := Int.ediv_mul_cancel da
      calc a / comN a b * b = a / comN a b * (comN a b * q) := by rw [← hq]
        _ = a / comN a b * comN a b * q := by rw [Int.mul_assoc]
        _ = a * q := by rw [e]
    rw [this]
    exact Int.dvd_mul_right _ _
theorem tog_any {w : World} {V : Nat → Prop} {S : Src} {L : List Tm} (h : TermsAt w V S L) (hl : L.length ≤ 1000) (own n : Int) :
    Calls Tryd.prog 103 #[.int .i64 own, .int .i64 n, .slice S.sp L.length S.c] w fun e w' => e = .returned (.tuple #[.int .i64 (togN own L n), .bool (togB own L n)]) ∧ Below w.heap.size w w' := by
  have HW := Lib.hid (show Calls Tryd.prog 107 #[.int .i64 n, .slice S.sp L.length S.c] w fun e w' => e = .returned (.tuple #[.int .i64 (valL L n), .bool (okL L n)]) ∧ Below w.heap.size w w' from dwork_any h hl n)
  unfold togN togB
  clear h hl
  generalize valL L n = v at HW ⊢
  cases hk : okL L n with
  | false =>
    rw [hk] at HW
    clear hk
    go_enter Tryd.func103, Tryd.ntmps103
    go_wp2_with (go_at_call 107; refine HW.out.mono ?_; rintro e w3 ⟨rfl, b3⟩; have H3 := Lib.hid b3; clear b3)
    go_ret2
    exact ⟨rfl, H3.out⟩
  | true =>
    rw [hk] at HW
    clear hk
    go_enter Tryd.func103, Tryd.ntmps103
    go_wp2_with (first
      | (go_at_call 107; refine HW.out.mono ?_; rintro e w3 ⟨rfl, b3⟩; have H3 := Lib.hid b3; clear b3)
      | (go_at_call 88; refine (add_any _ _ _).mono ?_; rintro e w4 ⟨rfl, rfl⟩)
      | fail)
    go_ret2
    exact ⟨by simp, H3.out⟩
end Go.Proofs.YtihomapbncnhaaaDoor
/- max and min of two ints, as arms of a walk. -/
namespace Go.Proofs.YtihomapbncnhaaaDoor
open Go.RowKit

theorem max2_int (k : IntKind) (m n : Int) : Builtin.max2 (.int k m) (.int k n) = pure (.int k (max m n)) := by
  have : (if n > m then n else m) = max m n := by split <;> omega
  simp only [Builtin.max2, this]
theorem min2_int (k : IntKind) (m n : Int) : Builtin.min2 (.int k m) (.int k n) = pure (.int k (min m n)) := by
  have : (if n < m then n else m) = min m n := by split <;> omega
  simp only [Builtin.min2, this]
theorem wp_max {P : Program} {o : Oper} {a : Act} {w : World} {K : Act → World → Prop} {Q : Exit → Act → World → Prop} (x y : Operand) (ts : Array TypeId)
    (ho : o.op = .call { callee := .builtin .max, args := #[x, y], argTypes := ts }) (m n : Int) (hx : a.eval x = .int .i64 m) (hy : a.eval y = .int .i64 n)
    (h : K (a.put o.dst (.int .i64 (max m n))) w) : Oper.wp P o a w K Q := by
  unfold Oper.wp execOp
  simp only [ho, resolve, invoke, builtin, Builtin.max_, Sem.run_bind, Sem.run_pure, Result.andThen_ok, List.map_toArray, List.map_cons, List.map_nil, hx, hy, List.foldlM_cons, List.foldlM_nil, max2_int]
  exact h
theorem wp_min {P : Program} {o : Oper} {a : Act} {w : World} {K : Act → World → Prop} {Q : Exit → Act → World → Prop} (x y : Operand) (ts : Array TypeId)
    (ho : o.op = .call { callee := .builtin .min, args := #[x, y], argTypes := ts }) (m n : Int) (hx : a.eval x = .int .i64 m) (hy : a.eval y = .int .i64 n)
    (h : K (a.put o.dst (.int .i64 (min m n))) w) : Oper.wp P o a w K Q := by
  unfold Oper.wp execOp
  simp only [ho, resolve, invoke, builtin, Builtin.min_, Sem.run_bind, Sem.run_pure, Result.andThen_ok, List.map_toArray, List.map_cons, List.map_nil, hx, hy, List.foldlM_cons, List.foldlM_nil, min2_int]
  exact h
theorem wpList_max {P : Program} {ops : Array Oper} {rest : List Oper} {o : Oper} {a : Act} {w : World} {Q : Exit → Act → World → Prop} (hgd : o.guard = none) (x y : Operand) (ts : Array TypeId)
    (ho : o.op = .call { callee := .builtin .max, args := #[x, y], argTypes := ts }) (m n : Int) (hx : a.eval x = .int .i64 m) (hy : a.eval y = .int .i64 n)
    (h : wpList P ops Q rest (a.put o.dst (.int .i64 (max m n))) w) : wpList P ops Q (o :: rest) a w :=
  wpList_plain hgd fun _ hK => wp_max x y ts ho m n hx hy (hK _ _ h)
theorem wpList_min {P : Program} {ops : Array Oper} {rest : List Oper} {o : Oper} {a : Act} {w : World} {Q : Exit → Act → World → Prop} (hgd : o.guard = none) (x y : Operand) (ts : Array TypeId)
    (ho : o.op = .call { callee := .builtin .min, args := #[x, y], argTypes := ts }) (m n : Int) (hx : a.eval x = .int .i64 m) (hy : a.eval y = .int .i64 n)
    (h : wpList P ops Q rest (a.put o.dst (.int .i64 (min m n))) w) : wpList P ops Q (o :: rest) a w :=
  wpList_plain hgd fun _ hK => wp_min x y ts ho m n hx hy (hK _ _ h)
/-- For a walk's context: max and min stay folded. -/
theorem hmax (P : Program) : ∀ (w : World) (ts : Array TypeId) (t : TypeId) (m n : Int), (Builtin.max_ ts t #[.int .i64 m, .int .i64 n]).run P w = .ok (.int .i64 (max m n)) w := fun w ts t m n => by
  simp only [Builtin.max_, List.foldlM_cons, List.foldlM_nil, max2_int, Sem.run_bind, Sem.run_pure, Result.andThen_ok]
theorem hmin (P : Program) : ∀ (w : World) (ts : Array TypeId) (t : TypeId) (m n : Int), (Builtin.min_ ts t #[.int .i64 m, .int .i64 n]).run P w = .ok (.int .i64 (min m n)) w := fun w ts t m n => by
  simp only [Builtin.min_, List.foldlM_cons, List.foldlM_nil, min2_int, Sem.run_bind, Sem.run_pure, Result.andThen_ok]
end Go.Proofs.YtihomapbncnhaaaDoor
/- The contract of fix.horizon. -/
namespace Go.Proofs.YtihomapbncnhaaaDoor
open Go.RowKit

theorem alloc_then {n : Nat} {w w' : World} {o : Obj} (h : Below (w.alloc o).heap.size (w.alloc o) w') (hn : n ≤ w.heap.size) : Below n w w' :=
  ((Below.refl _ w).alloc hn o).trans (h.mono (by simp; omega))
theorem max_one (own : Int) : (if own < 1 then 1 else own) = max own 1 := by split <;> omega
/-- What the horizon's loop keeps: from is no less than any offset, round a common multiple of all periods, or 0. -/
structure HorI (own : Int) (L : List Tm) (k : Nat) (fr rd : Int) : Prop where
  f0 : (if own < 1 then 1 else own) ≤ fr
  f1 : fr ≤ 1099511627776
  off : ∀ j, j < k → (L.getD j default).off ≤ fr
  r0 : 0 ≤ rd
  r1 : rd ≤ 1099511627776
  dv : rd = 0 ∨ ∀ j, j < k → (L.getD j default).per ∣ rd
theorem HorI.start {own : Int} (L : List Tm) (h : own ≤ 1099511627776) : HorI own L 0 (max own 1) 1 :=
  ⟨by rw [max_one]; exact Int.le_refl _, by omega, fun j hj => by omega, by omega, by omega, .inr fun j hj => by omega⟩
theorem HorI.step {own : Int} {L : List Tm} {k : Nat} {fr rd : Int} (h : HorI own L k fr rd) (ho : (L.getD k default).off ≤ 1099511627776) : HorI own L (k + 1) (max fr (L.getD k default).off) (mupN rd (L.getD k default).per) := by
  obtain ⟨m0, m1, m2⟩ := mup_good rd (L.getD k default).per
  have f0 := h.f0
  have f1 := h.f1
  refine ⟨by omega, by omega, fun j hj => ?_, m0, m1, ?_⟩
  · by_cases e : j = k
    · subst e; omega
    · have := h.off j (by omega); omega
  · rcases m2 with e | ⟨d1, d2⟩
    · exact .inl e
    · by_cases e0 : mupN rd (L.getD k default).per = 0
      · exact .inl e0
      rcases h.dv with e | hd
      · exfalso; subst e; exact e0 (Int.zero_dvd.1 d1)
      · refine .inr fun j hj => ?_
        by_cases e : j = k
        · subst e; exact d2
        · exact Int.dvd_trans (hd j (by omega)) d1
theorem HorI.good {own : Int} {L : List Tm} {fr rd : Int} (h : HorI own L L.length fr rd) (hr : 0 < rd) (hk : okL L (fr + rd) = true) (hge : rd ≤ valL L (fr + rd) - valL L fr) : HZ own L (fr + rd) := by
  refine horizon_good h.f0 hr (fun x hx => ?_) hk hge
  obtain ⟨j, hj, rfl⟩ := List.mem_iff_getElem.1 hx
  have e : L.getD j default = L[j] := by simp [hj]
  have o := h.off j hj
  rw [e] at o
  rcases h.dv with h0 | hd
  · omega
  · have := hd j hj
    rw [e] at this
    exact ⟨o, this⟩
theorem val_range (L : List Tm) (t : Int) : 0 ≤ valL L t ∧ valL L t ≤ 1099511627776 := by
  cases h : okL L t with
  | true =>
    have h1 := ((okL_iff L t).1 h)
    rw [valL_eq h]
    refine ⟨sum_nonneg fun y hy => ?_, h1.2⟩
    obtain ⟨x, hx, rfl⟩ := List.mem_map.1 hy
    have hb := h1.1 x hx
    have := tmN_mono hb ((tmB_iff x t).1 hb).1.1 (Int.le_refl _)
    omega
  | false =>
    unfold okL resB at h
    unfold valL resN
    rw [Option.isSome_eq_false_iff, Option.isNone_iff_eq_none] at h
    rw [h]
    exact ⟨Int.le_refl _, by simp⟩
set_option maxHeartbeats 4000000 in
theorem horizon_any {w : World} {V : Nat → Prop} {S : Src} {L : List Tm} (h : TermsAt w V S L) (hl : L.length ≤ 1000) {own t0 : Int} (h0 : 0 ≤ own) (h1 : own ≤ 1099511627776) (hok : okL L t0 = true) :
    Calls Tryd.prog 104 #[.int .i64 own, .slice S.sp L.length S.c] w fun e w' => ∃ z : Int, e = .returned (.int .i64 z) ∧ (z = 1099511627776 ∨ HZ own L z) ∧ (1 ≤ z ∧ z ≤ 2199023255552) ∧ Below w.heap.size w w' := by
  have HW := Lib.hid (fun (wx : World) (hb : Below w.heap.size w wx) (n : Int) => (show Calls Tryd.prog 107 #[.int .i64 n, .slice S.sp L.length S.c] wx fun e w' => e = .returned (.tuple #[.int .i64 (valL L n), .bool (okL L n)]) ∧ Below wx.heap.size wx w' from dwork_any (h.new hb) hl n))
  have HCell := Lib.hid (fun (k : Nat) (hk : k < L.length) (wx : World) (hb : Below w.heap.size w wx) => (h.new hb).at_ k hk)
  have HSp := Lib.hid (fun (h0 : 0 < L.length) => (h.sl.at_ h0).1)
  have HOf := Lib.hid (show ∀ k, k < L.length → -9223372036854775808 ≤ (L.getD k default).off ∧ (L.getD k default).off ≤ 1099511627776 from fun k hk => by
    have e : L.getD k default = L[k] := by simp [hk]
    have := ((tmB_iff _ _).1 (((okL_iff L t0).1 hok).1 L[k] (List.getElem_mem hk))).2.1
    rw [e]; omega)
  have HSt := Lib.hid (HorI.start L h1)
  have HGo := Lib.hid (fun (fr rd : Int) (hi : HorI own L L.length fr rd) => @HorI.good own L fr rd hi)
  obtain ⟨sp, hspn⟩ : ∃ s, S.sp = s := ⟨_, rfl⟩
  obtain ⟨b, hb⟩ : ∃ s, S.b = s := ⟨_, rfl⟩
  obtain ⟨o, ho⟩ : ∃ s, S.o = s := ⟨_, rfl⟩
  obtain ⟨c, hc⟩ : ∃ s, S.c = s := ⟨_, rfl⟩
  obtain ⟨N, hN⟩ : ∃ s, L.length = s := ⟨_, rfl⟩
  rw [hspn, hc, hN] at HW
  rw [hb, ho, hN] at HCell
  rw [hspn, hb, ho, hN] at HSp
  rw [hN] at HOf HGo hl
  rw [hspn, hc, hN]
  clear h hok hspn hb ho hc hN
  have hmx := hmax Tryd.prog
  go_enter Tryd.func104, Tryd.ntmps104
  go_wp2
  go_loopg [5, 6, 17] N (fun g u v x wr => ∃ (k : Nat) (fr rd : Int), k + g = N ∧ u = .int .i64 fr ∧ v = .int .i64 rd ∧ x = .int .i64 (k : Nat) ∧ Aside (HorI own L k fr rd ∧ Below w.heap.size w wr))
  case atStart => exact ⟨0, max own 1, 1, by omega, rfl, rfl, rfl, HSt.out, Below.refl _ _⟩
  case round =>
    obtain ⟨k, fr, rd, hkg, rfl, rfl, rfl, HR⟩ := hrel
    cases gk with
    | zero =>
      obtain rfl : k = N := by omega
      have f0 : 1 ≤ fr := by have := HR.out.1.f0; split at this <;> omega
      have f1 := HR.out.1.f1
      have r0 := HR.out.1.r0
      have r1 := HR.out.1.r1
      have hwr : IntKind.i64.wrap (fr + rd) = fr + rd := by rw [IntKind.wrap_i64]; omega
      have W1 := Lib.hid (fun (wx : World) hb => HW.out wx hb fr)
      have W2 := Lib.hid (fun (wx : World) hb => HW.out wx hb (fr + rd))
      have v1 := val_range L fr
      have v2 := val_range L (fr + rd)
      have HG := Lib.hid (HGo.out fr rd HR.out.1)
      clear HW HCell HSp HOf HSt HGo
      obtain ⟨x, hx⟩ : ∃ q, valL L fr = q := ⟨_, rfl⟩
      obtain ⟨y, hy⟩ : ∃ q, valL L (fr + rd) = q := ⟨_, rfl⟩
      obtain ⟨p, hp⟩ : ∃ q, okL L fr = q := ⟨_, rfl⟩
      rw [hx] at W1 v1 HG
      rw [hy] at W2 v2 HG
      rw [hp] at W1
      have hs3 : 1 ≤ fr + rd ∧ fr + rd ≤ 2199023255552 := by omega
      have hws : IntKind.i64.wrap (y - x) = y - x := by rw [IntKind.wrap_i64]; omega
      clear hx hy hp
      cases hk : okL L (fr + rd) with
      | false =>
        rw [hk] at W2
        clear hk HG
        go_wp2_with (first
          | (go_at_call 107; refine (W1.out _ HR.out.2).mono ?_; rintro e w3 ⟨rfl, b3⟩; have H3 := Lib.hid (HR.out.2.trans (b3.mono HR.out.2.size)); clear b3 W1)
          | (go_at_call 107; refine (W2.out _ H3.out).mono ?_; rintro e w4 ⟨rfl, b4⟩; have H4 := Lib.hid (H3.out.trans (b4.mono H3.out.size)); clear b4)
          | fail)
        go_ret
        exact ⟨_, rfl, .inl rfl, ⟨by omega, by omega⟩, H4.out⟩
      | true =>
        rw [hk] at W2
        have HG2 := Lib.hid (fun h0 h1 => HG.out h0 hk h1)
        clear hk HG
        by_cases c0 : 0 < rd
        · by_cases c1 : rd ≤ y - x
          · have HZ2 := Lib.hid (HG2.out c0 c1)
            go_wp2_with (first
              | (go_at_call 107; refine (W1.out _ HR.out.2).mono ?_; rintro e w3 ⟨rfl, b3⟩; have H3 := Lib.hid (HR.out.2.trans (b3.mono HR.out.2.size)); clear b3 W1)
              | (go_at_call 107; refine (W2.out _ H3.out).mono ?_; rintro e w4 ⟨rfl, b4⟩; have H4 := Lib.hid (H3.out.trans (b4.mono H3.out.size)); clear b4)
              | fail)
            go_ret
            exact ⟨_, rfl, .inr HZ2.out, hs3, H4.out⟩
          · go_wp2_with (first
              | (go_at_call 107; refine (W1.out _ HR.out.2).mono ?_; rintro e w3 ⟨rfl, b3⟩; have H3 := Lib.hid (HR.out.2.trans (b3.mono HR.out.2.size)); clear b3 W1)
              | (go_at_call 107; refine (W2.out _ H3.out).mono ?_; rintro e w4 ⟨rfl, b4⟩; have H4 := Lib.hid (H3.out.trans (b4.mono H3.out.size)); clear b4)
              | fail)
            go_ret
            exact ⟨_, rfl, .inl rfl, ⟨by omega, by omega⟩, H4.out⟩
        · go_wp2_with (first
            | (go_at_call 107; refine (W1.out _ HR.out.2).mono ?_; rintro e w3 ⟨rfl, b3⟩; have H3 := Lib.hid (HR.out.2.trans (b3.mono HR.out.2.size)); clear b3 W1)
            | (go_at_call 107; refine (W2.out _ H3.out).mono ?_; rintro e w4 ⟨rfl, b4⟩; have H4 := Lib.hid (H3.out.trans (b4.mono H3.out.size)); clear b4)
            | fail)
          go_ret
          exact ⟨_, rfl, .inl rfl, ⟨by omega, by omega⟩, H4.out⟩
    | succ g1 =>
      have hk : k < N := by omega
      obtain rfl := HSp.out (by omega)
      have hc := HCell.out k hk wr HR.out.2
      have ho := HOf.out k hk
      have HX := Lib.hid (HR.out.1.step ho.2)
      obtain ⟨t, ht⟩ : ∃ t, L.getD k default = t := ⟨_, rfl⟩
      rw [ht] at hc ho HX
      obtain ⟨P, C, O, K⟩ := t
      have c0 : wr.cell? ⟨b, o + k * 4, none⟩ = some (.int .i64 P) := hc 0 _ rfl
      have c1 : wr.cell? ⟨b, o + k * 4 + 1, none⟩ = some (.int .i64 C) := hc 1 _ rfl
      have c2 : wr.cell? ⟨b, o + k * 4 + 2, none⟩ = some (.int .i64 O) := hc 2 _ rfl
      have c3 : wr.cell? ⟨b, o + k * 4 + 3, none⟩ = some (.int .i64 K) := hc 3 _ rfl
      dsimp only at HX ho
      have hk2 : (k : Int) < (N : Int) := by omega
      have hk3 : (k : Int) + 1 ≤ 9223372036854775807 := by omega
      clear hc ht HCell HSp HOf HSt HGo HW
      go_wp2_with (first
        | (go_at_call 53; refine (multiple_any _ _ _).mono ?_; rintro e w4 ⟨rfl, b4⟩; have H4 := Lib.hid (HR.out.2.trans (alloc_then b4 HR.out.2.size)); clear b4)
        | fail)
      go_roundg g1
      case measure => omega
      case rel => exact ⟨k + 1, _, _, by omega, rfl, rfl, by go_num, HX.out, H4.out⟩
end Go.Proofs.YtihomapbncnhaaaDoor
/- The contract of the law's Plain; the walks of DemandWorks and DemandComes. -/
namespace Go.Proofs.YtihomapbncnhaaaDoor
open Go.RowKit

def tmRow (L : List Tm) : List Value := (L.map tmC).flatten
theorem tmRow_at (L : List Tm) (k j : Nat) (hk : k < L.length) (hj : j < 4) : (tmRow L)[k * 4 + j]? = (tmC (L.getD k default))[j]? := by
  unfold tmRow
  rw [flat_at 4 _ (by intro r hr; obtain ⟨t, -, rfl⟩ := List.mem_map.1 hr; rfl) k j (by simpa using hk) hj]
  simp [hk]
theorem tmRow_snoc (L : List Tm) (t : Tm) : tmRow (L ++ [t]) = tmRow L ++ tmC t := by simp [tmRow]
/-- An owned row of terms, as a slice. -/
theorem own_terms {w : World} {base : Nat} {v : Value} {L : List Tm} {e : TypeId} (h : w.ownsRow base e 4 v L.length (tmRow L)) (hn : L.length ≤ 1000) :
    ∃ S : Src, v = .slice S.sp L.length S.c ∧ TermsAt w (fun j => j < base) S L := by
  rcases h.2 with ⟨rfl, h0⟩ | ⟨g, cap, cur, rfl, _⟩
  · exact ⟨⟨none, 0, 0, 0⟩, by rw [h0], ⟨⟨fun h1 => by omega, by omega⟩, fun k hk => by omega⟩⟩
  · have hl := h.lt g rfl
    refine ⟨⟨some ⟨g, 0, none⟩, g, 0, cap⟩, rfl, ⟨fun _ => ⟨rfl, hl.2, Nat.not_lt.2 hl.1⟩, by omega⟩, fun k hk j u hu => ?_⟩
    have hj : j < 4 := by have := (List.getElem?_eq_some_iff.1 hu).1; simpa [tmC] using this
    have hr := tmRow_at L k j hk hj
    rw [hu] at hr
    have hlen : (tmRow L).length = L.length * 4 := h.1
    have := h.cellAt (k * 4 + j) (by omega)
    rw [Nat.zero_add]
    exact this.trans hr
end Go.Proofs.YtihomapbncnhaaaDoor
/- The contracts of fix.look, Least, Steps, Done, of the law's step and alive. -/
namespace Go.Proofs.YtihomapbncnhaaaDoor
open Go.RowKit

/-- From where one looks. -/
def w0 (own : Int) : Int := max own 1
/-- What looking finds. -/
def lookR (own most : Int) (L : List Tm) : Option (Int × Int) := if own < 0 then none else lookF (FF own L) most (most + 1).toNat (w0 own) 1
def tT (o : Option (Int × Int)) : Int := match o with | some (a, _) => a | none => 0
def tM (o : Option (Int × Int)) : Int := match o with | some (_, b) => b | none => 0
def tB (o : Option (Int × Int)) : Bool := o.isSome
/-- What is kept while one looks. -/
structure LookI (own most : Int) (L : List Tm) (g : Nat) (w m mo : Int) : Prop where
  r : lookF (FF own L) most g w m = lookR own most L
  lw : 1 ≤ w
  m1 : 1 ≤ m
  mw : m ≤ w
  lg : most < w + g
  lm : mo = most ∨ (mo ≤ most ∧ HZ own L mo)
  no : ∀ t, (if own < 1 then 1 else own) ≤ t → t < w → ∀ n, FF own L t = some n → t < n
  lo : (if own < 1 then 1 else own) ≤ w
theorem LookI.start {own most : Int} (L : List Tm) (h : 0 ≤ own) : LookI own most L (most + 1).toNat (max own 1) 1 most :=
  ⟨by unfold lookR w0; rw [if_neg (by omega)], by omega, by omega, by omega, by omega, .inl rfl, fun t h1 h2 => by rw [max_one] at h1; omega, by rw [max_one]; exact Int.le_refl _⟩
/-- Above the bound nothing is found. -/
theorem LookI.over {own most : Int} {L : List Tm} {g : Nat} {w m mo : Int} (h : LookI own most L g w m mo) (hw : mo < w) : lookR own most L = none := by
  rw [← h.r]
  rcases h.lm with e | ⟨-, hz⟩
  · exact lookF_most g (by omega)
  · exact lookF_past (hz w hw h.no) g w m hw
theorem LookI.ff {own most : Int} {L : List Tm} {g : Nat} {w m mo : Int} (h : LookI own most L g w m mo) (hw : w ≤ mo) : ∃ g1, g = g1 + 1 ∧
    lookR own most L = (match FF own L w with | none => none | some n => if n ≤ w then some (w, m) else lookF (FF own L) most g1 n (m + 1)) := by
  have hm : w ≤ most := by rcases h.lm with e | ⟨e, -⟩ <;> omega
  have hg := h.lg
  cases g with
  | zero => omega
  | succ g1 => exact ⟨g1, rfl, by rw [← h.r, lookF, if_pos hm]; cases FF own L w <;> rfl⟩
theorem LookI.no_ {own most : Int} {L : List Tm} {g : Nat} {w m mo : Int} (h : LookI own most L g w m mo) (hw : w ≤ mo) (hb : togB own L w = false) : lookR own most L = none := by
  obtain ⟨g1, -, e⟩ := h.ff hw
  have : FF own L w = none := by unfold FF; rw [hb]; rfl
  rw [e, this]
theorem LookI.found {own most : Int} {L : List Tm} {g : Nat} {w m mo : Int} (h : LookI own most L g w m mo) (hw : w ≤ mo) (hb : togB own L w = true) (hn : togN own L w ≤ w) : lookR own most L = some (w, m) := by
  obtain ⟨g1, -, e⟩ := h.ff hw
  have : FF own L w = some (togN own L w) := by unfold FF; rw [hb]; rfl
  rw [e, this]
  exact if_pos hn
theorem LookI.next {own most : Int} {L : List Tm} {g : Nat} {w m mo mo' : Int} (h : LookI own most L g w m mo) (hw : w ≤ mo) (hb : togB own L w = true) (hn : ¬ togN own L w ≤ w) (hmo : mo' = mo ∨ mo' = most ∨ (mo' ≤ most ∧ HZ own L mo')) : ∃ g1, g = g1 + 1 ∧ LookI own most L g1 (togN own L w) (m + 1) mo' := by
  obtain ⟨g1, rfl, e⟩ := h.ff hw
  have hf : FF own L w = some (togN own L w) := by unfold FF; rw [hb]; rfl
  have h1 := h.lw; have h2 := h.m1; have h3 := h.mw; have h4 := h.lg; have h5 := h.lo
  refine ⟨g1, rfl, ⟨?_, by omega, by omega, by omega, by omega, ?_, fun t a b n hn2 => ?_, by omega⟩⟩
  · rw [e, hf]; exact (if_neg hn).symm
  · rcases hmo with rfl | rfl | hz
    · exact h.lm
    · exact .inl rfl
    · exact .inr hz
  · by_cases ht : t < w
    · exact h.no t a ht n hn2
    · obtain ⟨k, hk, hkn, -⟩ := FF_mono hn2 (by omega) (show w ≤ t by omega)
      rw [hf] at hk
      have : togN own L w = k := by simpa using hk
      omega
set_option maxHeartbeats 4000000 in
theorem look_any {w : World} {V : Nat → Prop} {S : Src} {L : List Tm} (h : TermsAt w V S L) (hl : L.length ≤ 1000) (own most : Int) (hm : most ≤ 100000) :
    Calls Tryd.prog 96 #[.int .i64 own, .int .i64 most, .slice S.sp L.length S.c] w fun e w' => e = .returned (.tuple #[.int .i64 (tT (lookR own most L)), .int .i64 (tM (lookR own most L)), .bool (tB (lookR own most L))]) ∧ Below w.heap.size w w' := by
  have hmx := hmax Tryd.prog
  have hmn := hmin Tryd.prog
  have HTog := Lib.hid (fun (wx : World) (hb : Below w.heap.size w wx) (n : Int) => tog_any (h.new hb) hl own n)
  have HHor := Lib.hid (fun (wx : World) (hb : Below w.heap.size w wx) (t0 : Int) (h0 : 0 ≤ own) (h1 : own ≤ 1099511627776) (hok : okL L t0 = true) => horizon_any (h.new hb) hl h0 h1 hok)
  have HSt := Lib.hid (fun (h0 : 0 ≤ own) => LookI.start (own := own) (most := most) L h0)
  have HNeg := Lib.hid (show own < 0 → lookR own most L = none ∧ ∀ n, togB own L n = false from fun h => ⟨by unfold lookR; rw [if_pos h], fun n => by
    unfold togB addB
    rw [show numB own = false from numB_f (by omega)]; simp⟩)
  obtain ⟨sp, hspn⟩ : ∃ s, S.sp = s := ⟨_, rfl⟩
  obtain ⟨c, hc⟩ : ∃ s, S.c = s := ⟨_, rfl⟩
  obtain ⟨N, hN⟩ : ∃ s, L.length = s := ⟨_, rfl⟩
  rw [hspn, hc, hN] at HTog HHor
  rw [hspn, hc, hN]
  clear h hspn hc hN hl
  by_cases hneg : own < 0
  · obtain ⟨hr, hno⟩ := HNeg.out hneg
    rw [hr]
    have HT := Lib.hid (show ∀ (wx : World), Below w.heap.size w wx → ∀ n, Calls Tryd.prog 103 #[.int .i64 own, .int .i64 n, .slice sp N c] wx fun e w' => (∃ v, e = .returned (.tuple #[.int .i64 v, .bool false])) ∧ Below wx.heap.size wx w' from fun wx hb n => by
      have := HTog.out wx hb n
      rw [hno n] at this
      exact this.mono fun e w' ⟨h1, h2⟩ => ⟨⟨_, h1⟩, h2⟩)
    have hx1 : max own 1 = 1 := by omega
    clear HTog HHor HSt HNeg hr hno
    by_cases h1m : 1 ≤ most
    · go_enter Tryd.func96, Tryd.ntmps96
      go_wp2
      go_loopg [1, 6, 7] 1 (fun g x1 x6 x7 wr => g = 1 ∧ x1 = .int .i64 most ∧ x6 = .int .i64 1 ∧ x7 = .int .i64 1 ∧ w = wr)
      case atStart => exact ⟨rfl, rfl, rfl, rfl, rfl⟩
      case round =>
        obtain ⟨rfl, rfl, rfl, rfl, rfl⟩ := hrel
        go_wp2_with (go_at_call 103; refine (HT.out _ (Below.refl _ _) _).mono ?_; rintro e w3 ⟨⟨v, rfl⟩, b3⟩; have H3 := Lib.hid b3; clear b3)
        go_ret3
        exact ⟨rfl, H3.out⟩
    · go_enter Tryd.func96, Tryd.ntmps96
      go_wp2
      go_loopg [1, 6, 7] 1 (fun g x1 x6 x7 wr => g = 1 ∧ x1 = .int .i64 most ∧ x6 = .int .i64 1 ∧ x7 = .int .i64 1 ∧ w = wr)
      case atStart => exact ⟨rfl, rfl, rfl, rfl, rfl⟩
      case round =>
        obtain ⟨rfl, rfl, rfl, rfl, rfl⟩ := hrel
        go_wp2
        go_ret3
        exact ⟨rfl, Below.refl _ _⟩
  · have h0 : 0 ≤ own := by omega
    have HSt2 := Lib.hid (HSt.out h0)
    clear HSt HNeg hneg
    go_enter Tryd.func96, Tryd.ntmps96
    go_wp2
    go_loopg [1, 6, 7] ((most + 1).toNat + 1) (fun g x1 x6 x7 wr => ∃ (g0 : Nat) (t m mo : Int), g = g0 + 1 ∧ x1 = .int .i64 mo ∧ x6 = .int .i64 t ∧ x7 = .int .i64 m ∧ Aside (LookI own most L g0 t m mo ∧ Below w.heap.size w wr))
    case atStart => exact ⟨_, _, _, _, rfl, rfl, rfl, rfl, HSt2.out, Below.refl _ _⟩
    case round =>
      obtain ⟨g0, t, m, mo, rfl, rfl, rfl, rfl, HR⟩ := hrel
      have t1 := HR.out.1.lw
      have m1 := HR.out.1.m1
      have m2 := HR.out.1.mw
      have mo1 : mo ≤ most := by rcases HR.out.1.lm with e | ⟨e, -⟩ <;> omega
      by_cases hw : t ≤ mo
      · have HT := Lib.hid (fun (wx : World) hb => HTog.out wx hb t)
        cases hb : togB own L t with
        | false =>
          have hr := HR.out.1.no_ hw hb
          rw [hb] at HT
          have HRr := Lib.hid hr
          clear hb hr HTog HHor HSt2
          go_wp2_with (go_at_call 103; refine (HT.out _ HR.out.2).mono ?_; rintro e w3 ⟨rfl, b3⟩; have H3 := Lib.hid (HR.out.2.trans (b3.mono HR.out.2.size)); clear b3 HT)
          go_ret3
          exact ⟨by rw [HRr.out]; rfl, H3.out⟩
        | true =>
          rw [hb] at HT
          by_cases hn : togN own L t ≤ t
          · have hr := HR.out.1.found hw hb hn
            have HRr := Lib.hid hr
            obtain ⟨z, hz⟩ : ∃ z, togN own L t = z := ⟨_, rfl⟩
            rw [hz] at HT hn
            clear hz hb hr HTog HHor HSt2
            go_wp2_with (go_at_call 103; refine (HT.out _ HR.out.2).mono ?_; rintro e w3 ⟨rfl, b3⟩; have H3 := Lib.hid (HR.out.2.trans (b3.mono HR.out.2.size)); clear b3 HT)
            go_ret3
            exact ⟨by rw [HRr.out]; rfl, H3.out⟩
          · have HNx := Lib.hid (fun mo' hmo => HR.out.1.next (mo' := mo') hw hb hn hmo)
            have hff : FF own L t = some (togN own L t) := by unfold FF; rw [hb]; rfl
            obtain ⟨k1, -, k3, k4⟩ := FF_some.1 hff
            have kv := val_range L t
            have HH := Lib.hid (fun (wx : World) hb2 => HHor.out wx hb2 t h0 (by omega) k1)
            obtain ⟨z, hz⟩ : ∃ z, togN own L t = z := ⟨_, rfl⟩
            rw [hz] at HT hn HNx k3 k4
            clear hz hb hff k1 k3 kv HTog HHor HSt2
            by_cases hp : m = 4096
            · subst hp
              go_wp2_with (first
                | (go_at_call 103; refine (HT.out _ HR.out.2).mono ?_; rintro e w3 ⟨rfl, b3⟩; have H3 := Lib.hid (HR.out.2.trans (b3.mono HR.out.2.size)); clear b3 HT)
                | (go_at_call 104; refine (HH.out _ H3.out).mono ?_; rintro e w4 ⟨y, rfl, hy, hy2, b4⟩; have H4 := Lib.hid (H3.out.trans (b4.mono H3.out.size)); have HY := Lib.hid hy; clear b4 HH hy)
                | fail)
              obtain ⟨g1, hg1, hI⟩ := HNx.out (min mo y) (by
                rcases HY.out with e | e
                · exact .inl (by omega)
                · by_cases hc : mo ≤ y
                  · exact .inl (by omega)
                  · exact .inr (.inr ⟨by omega, by rw [show min mo y = y by omega]; exact e⟩))
              subst hg1
              go_roundg (g1 + 1)
              case measure => omega
              case rel => exact ⟨g1, z, 4097, _, rfl, rfl, rfl, rfl, hI, H4.out⟩
            · obtain ⟨g1, hg1, hI⟩ := HNx.out mo (.inl rfl)
              subst hg1
              have HI := Lib.hid hI
              clear hI HNx HH
              go_wp2_with (go_at_call 103; refine (HT.out _ HR.out.2).mono ?_; rintro e w3 ⟨rfl, b3⟩; have H3 := Lib.hid (HR.out.2.trans (b3.mono HR.out.2.size)); clear b3 HT)
              go_roundg (g1 + 1)
              case measure => omega
              case rel => exact ⟨g1, z, m + 1, mo, rfl, rfl, rfl, rfl, HI.out, H3.out⟩
      · have hr := HR.out.1.over (by omega)
        have HRr := Lib.hid hr
        clear hr HTog HHor HSt2
        go_wp2
        go_ret3
        exact ⟨by rw [HRr.out]; rfl, HR.out.2⟩
/-- The least time, how many looks; is it enough? -/
theorem least_any {w : World} {V : Nat → Prop} {S : Src} {L : List Tm} (h : TermsAt w V S L) (hl : L.length ≤ 1000) (own most : Int) (hm : most ≤ 100000) :
    Calls Tryd.prog 68 #[.int .i64 own, .int .i64 most, .slice S.sp L.length S.c] w fun e w' => e = .returned (.tuple #[.int .i64 (tT (lookR own most L)), .bool (tB (lookR own most L))]) ∧ Below w.heap.size w w' := by
  have HL := Lib.hid (look_any h hl own most hm)
  clear h hl hm
  generalize lookR own most L = o at HL ⊢
  go_enter Tryd.func68, Tryd.ntmps68
  go_wp2_with (go_at_call 96; refine HL.out.mono ?_; rintro e w3 ⟨rfl, b3⟩; have H3 := Lib.hid b3; clear b3)
  go_ret2
  exact ⟨rfl, H3.out⟩
def doneB (own n : Int) (L : List Tm) : Bool := togB own L n && decide (togN own L n ≤ n)
end Go.Proofs.YtihomapbncnhaaaDoor
/- law17's alive, and the walk of FixFinds. -/
namespace Go.Proofs.YtihomapbncnhaaaDoor
open Go.RowKit

def termX : Array Value := #[.int .i64 5, .int .i64 2, .int .i64 0, .int .i64 0]
theorem one_terms {w : World} {B : Nat} (h : RowAt w B 120 termX) : TermsAt w (fun _ => False) ⟨some ⟨B, 0, none⟩, B, 0, 1⟩ [⟨5, 2, 0, 0⟩] := by
  refine ⟨⟨fun _ => ⟨rfl, h.lt, fun h => h⟩, by simp⟩, fun k hk j u hu => ?_⟩
  obtain rfl : k = 0 := by have : k < 1 := hk; omega
  have := h.cell j
  simp only [Nat.zero_mul, Nat.zero_add]
  refine this.trans ?_
  rcases j with _ | _ | _ | _ | j
  · exact hu
  · exact hu
  · exact hu
  · exact hu
  · simp [tmC] at hu
theorem look_x : lookR 2 100 [⟨5, 2, 0, 0⟩] = some (4, 2) := by kernel_rfl
theorem done_x : doneB 2 4 [⟨5, 2, 0, 0⟩] = true ∧ doneB 2 3 [⟨5, 2, 0, 0⟩] = false := ⟨by kernel_rfl, by kernel_rfl⟩
theorem least_x {w : World} {B : Nat} (h : RowAt w B 120 termX) : Calls Tryd.prog 68 #[.int .i64 2, .int .i64 100, .slice (some ⟨B, 0, none⟩) 1 1] w fun e w' => e = .returned (.tuple #[.int .i64 4, .bool true]) ∧ Below w.heap.size w w' := by
  have := least_any (one_terms h) (by simp) 2 100 (by omega)
  rw [look_x] at this
  exact this
theorem alloc_call {w wx w' : World} {c : Array Value} {t : TypeId} {n : Nat} (hb : Below n w wx) (hn : n ≤ w.heap.size) (h : Below (wx.alloc (.cells c t)).heap.size (wx.alloc (.cells c t)) w') : Below n w w' :=
  (hb.alloc (Nat.le_trans hn hb.size) _).trans (h.mono (by have := hb.size; simp; omega))
end Go.Proofs.YtihomapbncnhaaaDoor
/- The contract of the reference's Least; the walks of FixLeast and FixGrows. -/
namespace Go.Proofs.YtihomapbncnhaaaDoor
open Go.RowKit

/-- Numbers that are not too great. -/
structure GoodT (x : Tm) : Prop where
  p : 1 ≤ x.per ∧ x.per ≤ 1099511627776
  c : 0 ≤ x.cost ∧ x.cost ≤ 100000
  o : 0 ≤ x.off ∧ x.off ≤ 100000
  k : 0 ≤ x.car ∧ x.car ≤ 100000
theorem GoodT.work {x : Tm} (h : GoodT x) {t : Int} (h1 : 1 ≤ t) (h2 : t ≤ 70000) : tmB x t = true ∧ tmN x t ≤ 7000100000 := by
  have hp := h.p; have hc := h.c; have ho := h.o; have hk := h.k
  have j0 := jI_nonneg (P := x.per) (O := x.off) (t := t) (by omega)
  have j1 := jI_le (P := x.per) (O := x.off) (t := t) (by omega) ho.1 (by omega)
  have m1 : jI x.per x.off t * x.cost ≤ 70000 * 100000 := Int.mul_le_mul (by omega) hc.2 hc.1 (by omega)
  have hb : tmB x t = true := (tmB_iff x t).2 ⟨by omega, by omega, by omega, by omega, by omega, by omega⟩
  refine ⟨hb, ?_⟩
  rw [tmN_eq hb]; omega
theorem good_sum {t : Int} (h1 : 1 ≤ t) (h2 : t ≤ 70000) : ∀ {L : List Tm}, (∀ x ∈ L, GoodT x) → sumL L t ≤ 7000100000 * L.length
  | [], _ => by simp [sumL]
  | x :: r, h => by
    have a := ((h x (List.mem_cons_self ..)).work h1 h2).2
    have b := good_sum h1 h2 (L := r) fun y hy => h y (List.mem_cons_of_mem _ hy)
    rw [sumL_cons, List.length_cons]
    omega
theorem good_ok {L : List Tm} (h : ∀ x ∈ L, GoodT x) (hl : L.length ≤ 20) {t : Int} (h1 : 1 ≤ t) (h2 : t ≤ 70000) : okL L t = true ∧ 0 ≤ valL L t ∧ valL L t ≤ 140002000000 := by
  have hs := good_sum h1 h2 h
  have hk : okL L t = true := (okL_iff L t).2 ⟨fun x hx => ((h x hx).work h1 h2).1, by omega⟩
  exact ⟨hk, (val_range L t).1, by rw [valL_eq hk]; omega⟩
theorem good_ff {own : Int} {L : List Tm} (h : ∀ x ∈ L, GoodT x) (hl : L.length ≤ 20) (h0 : 0 ≤ own) (ho : own ≤ 200000) {t : Int} (h1 : 1 ≤ t) (h2 : t ≤ 70000) : FF own L t = some (own + valL L t) := by
  obtain ⟨a, b, c⟩ := good_ok h hl h1 h2
  exact FF_some.2 ⟨a, h0, rfl, by omega⟩
/-- What is found is told by where it is the first that is enough. -/
theorem lookR_spec {own most : Int} {L : List Tm} (h0 : 0 ≤ own) (hs : ∀ t, 1 ≤ t → t ≤ most → ∃ n, FF own L t = some n) :
    (∀ a b, lookR own most L = some (a, b) → (if own < 1 then 1 else own) ≤ a ∧ a ≤ most ∧ (∃ n, FF own L a = some n ∧ n ≤ a) ∧ ∀ t, (if own < 1 then 1 else own) ≤ t → t < a → ∀ n, FF own L t = some n → t < n) ∧
    (lookR own most L = none → ∀ t, (if own < 1 then 1 else own) ≤ t → t ≤ most → ∀ n, FF own L t = some n → t < n) := by
  have hw : w0 own = (if own < 1 then 1 else own) := by unfold w0; rw [max_one]
  have := lookF_least (own := own) (L := L) (most := most) (most + 1).toNat (w0 own) 1 (by unfold w0; omega) (by unfold w0; omega) (fun t h1 h2 => hs t (by unfold w0 at h1; omega) h2)
  have e : lookR own most L = lookF (FF own L) most (most + 1).toNat (w0 own) 1 := by unfold lookR; rw [if_neg (by omega)]
  rw [← e, hw] at this
  exact this
theorem lookR_over {own most : Int} {L : List Tm} (h0 : 0 ≤ own) (hs : ∀ t, 1 ≤ t → t ≤ most → ∃ n, FF own L t = some n) {t : Int} (ht : most < t) (hno : ∀ s, (if own < 1 then 1 else own) ≤ s → s < t → ∀ n, FF own L s = some n → s < n) : lookR own most L = none := by
  obtain ⟨h1, -⟩ := lookR_spec h0 hs
  cases hr : lookR own most L with
  | none => rfl
  | some p =>
    obtain ⟨a, b⟩ := p
    obtain ⟨a1, a2, ⟨n, a3, a4⟩, -⟩ := h1 a b hr
    have := hno a a1 (by omega) n a3
    omega
theorem lookR_at {own most : Int} {L : List Tm} (h0 : 0 ≤ own) (hs : ∀ t, 1 ≤ t → t ≤ most → ∃ n, FF own L t = some n) {t n : Int} (h1 : (if own < 1 then 1 else own) ≤ t) (ht : t ≤ most) (hf : FF own L t = some n) (hn : n ≤ t) (hno : ∀ s, (if own < 1 then 1 else own) ≤ s → s < t → ∀ n, FF own L s = some n → s < n) : tT (lookR own most L) = t ∧ tB (lookR own most L) = true := by
  obtain ⟨g1, g2⟩ := lookR_spec h0 hs
  cases hr : lookR own most L with
  | none => have := g2 hr t h1 ht n hf; omega
  | some p =>
    obtain ⟨a, b⟩ := p
    obtain ⟨a1, a2, ⟨k, a3, a4⟩, a5⟩ := g1 a b hr
    refine ⟨?_, rfl⟩
    show a = t
    rcases Int.lt_trichotomy a t with h | h | h
    · have := hno a a1 h k a3; omega
    · exact h
    · have := a5 t h1 h n hf; omega
/-- More first work, or terms more: no less time. -/
theorem lookR_mono {own own' : Int} {L L' : List Tm} {most : Int} (h0 : 0 ≤ own) (h1 : own ≤ own') (hs : ∀ t, 1 ≤ t → t ≤ most → ∃ n, FF own L t = some n) (hs' : ∀ t, 1 ≤ t → t ≤ most → ∃ n, FF own' L' t = some n)
    (hle : ∀ t n n', 1 ≤ t → t ≤ most → FF own L t = some n → FF own' L' t = some n' → n ≤ n') : tB (lookR own' most L') = true → tB (lookR own most L) = true ∧ tT (lookR own most L) ≤ tT (lookR own' most L') := by
  intro hb
  obtain ⟨g1, -⟩ := lookR_spec (own := own') (L := L') (by omega) hs'
  obtain ⟨k1, k2⟩ := lookR_spec h0 hs
  cases hr' : lookR own' most L' with
  | none => rw [hr'] at hb; cases hb
  | some p =>
    obtain ⟨a, b⟩ := p
    obtain ⟨a1, a2, ⟨n', a3, a4⟩, -⟩ := g1 a b hr'
    have ha1 : 1 ≤ a := by split at a1 <;> omega
    have ha2 : (if own < 1 then 1 else own) ≤ a := by split at a1 <;> split <;> omega
    obtain ⟨n, hn⟩ := hs a ha1 a2
    have hnn := hle a n n' ha1 a2 hn a3
    cases hr : lookR own most L with
    | none => have := k2 hr a ha2 a2 n hn; omega
    | some q =>
      obtain ⟨c, d⟩ := q
      refine ⟨rfl, ?_⟩
      show c ≤ a
      obtain ⟨-, -, -, c4⟩ := k1 c d hr
      by_cases hca : c ≤ a
      · exact hca
      · have := c4 a ha2 (by omega) n hn; omega
theorem getD_mem {L : List Tm} (h : ∀ k, k < L.length → GoodT (L.getD k default)) : ∀ x ∈ L, GoodT x := by
  intro x hx
  obtain ⟨j, hj, rfl⟩ := List.mem_iff_getElem.1 hx
  have := h j hj
  rwa [show L.getD j default = L[j] by simp [hj]] at this
set_option maxHeartbeats 4000000 in
theorem rleast_any {w : World} {V : Nat → Prop} {S : Src} {L : List Tm} (h : TermsAt w V S L) (hl : L.length ≤ 20) (own most : Int) (hm : most ≤ 70000) (h0 : 0 ≤ own) (ho : own ≤ 100000) (hg : ∀ x ∈ L, GoodT x) :
    Calls Tryd.prog 45 #[.int .i64 own, .int .i64 most, .slice S.sp L.length S.c] w fun e w' => e = .returned (.tuple #[.int .i64 (tT (lookR own most L)), .bool (tB (lookR own most L))]) ∧ Below w.heap.size w w' := by
  have hs : ∀ t, 1 ≤ t → t ≤ most → ∃ n, FF own L t = some n := fun t h1 h2 => ⟨_, good_ff hg hl h0 (by omega) h1 (by omega)⟩
  have HW := Lib.hid (fun (wx : World) (hb : Below w.heap.size w wx) (n : Int) => (show Calls Tryd.prog 74 #[.slice S.sp L.length S.c, .int .i64 n] wx fun e w' => e = .returned (.tuple #[.int .i64 (valL L n), .bool (okL L n)]) ∧ Below wx.heap.size wx w' from rall_any (h.new hb) (by omega) n))
  have HOv := Lib.hid (fun (t : Int) => @lookR_over own most L h0 hs t)
  have HAt := Lib.hid (fun (t n : Int) => @lookR_at own most L h0 hs t n)
  have HFF := Lib.hid (fun (t : Int) (h1 : 1 ≤ t) (h2 : t ≤ most) => And.intro (good_ff (own := own) hg hl h0 (by omega) h1 (by omega)) (good_ok hg hl h1 (by omega)))
  obtain ⟨sp, hspn⟩ : ∃ s, S.sp = s := ⟨_, rfl⟩
  obtain ⟨c, hc⟩ : ∃ s, S.c = s := ⟨_, rfl⟩
  obtain ⟨N, hN⟩ : ∃ s, L.length = s := ⟨_, rfl⟩
  rw [hspn, hc, hN] at HW
  rw [hspn, hc, hN]
  clear h hspn hc hN hl hg hs
  obtain ⟨t0, ht0⟩ : ∃ t, (if own < 1 then 1 else own) = t := ⟨_, rfl⟩
  have HT0 := Lib.hid ht0
  have ht1 : 1 ≤ t0 ∧ t0 ≤ 100000 := by rw [← ht0]; split <;> omega
  rw [ht0] at HOv HAt
  clear ht0
  go_enter Tryd.func45, Tryd.ntmps45
  go_upto_if 17 with fail
  go_cut [8] from 16 to 17 (fun s8 wx => s8 = .int .i64 t0 ∧ w = wx)
  case first => as_aux_lemma =>
    by_cases x1 : own < 1
    · have HX := Lib.hid (show t0 = 1 by rw [← HT0.out, if_pos x1])
      go_wp2
      go_meet
      case rel => exact ⟨by rw [HX.out], rfl⟩
    · have HX := Lib.hid (show t0 = own by rw [← HT0.out, if_neg x1])
      go_wp2
      go_meet
      case rel => exact ⟨by rw [HX.out], rfl⟩
  case rest =>
  obtain ⟨rfl, rfl⟩ := hcut
  go_wp2
  go_loopg [8] (70001 - t0).toNat (fun g u wr => ∃ t : Int, u = .int .i64 t ∧ 70001 ≤ t + g ∧ t0 ≤ t ∧ t ≤ 100000 ∧ Aside ((∀ s, t0 ≤ s → s < t → ∀ n, FF own L s = some n → s < n) ∧ Below w.heap.size w wr))
  case atStart => exact ⟨t0, rfl, by omega, by omega, by omega, fun s h1 h2 => by omega, Below.refl _ _⟩
  case round =>
    obtain ⟨t, rfl, hg1, ht2, ht3, HR⟩ := hrel
    by_cases hm1 : t ≤ most
    · have HT := Lib.hid (HW.out _ HR.out.2 t)
      obtain ⟨hf, hok, v0, v1⟩ := HFF.out t (by omega) hm1
      have HA := Lib.hid (HAt.out t (own + valL L t) ht2 hm1 hf)
      have HF := Lib.hid hf
      rw [hok] at HT
      have had : addB own (valL L t) = true := by simp only [addB, Bool.and_eq_true, numB_iff]; omega
      have hadn : addN own (valL L t) = own + valL L t := by unfold addN; rw [if_pos (by simpa [addB] using had)]
      have HAd := Lib.hid (fun wx => refadd_any own (valL L t) wx)
      rw [had, hadn] at HAd
      obtain ⟨v, hv⟩ : ∃ v, valL L t = v := ⟨_, rfl⟩
      rw [hv] at HT HA HF HAd v0 v1
      clear hv hf hok had hadn HOv HAt HFF HW
      by_cases hn : own + v ≤ t
      · have HE := Lib.hid (HA.out hn HR.out.1)
        go_wp2_with (first
          | (go_at_call 74; refine HT.out.mono ?_; rintro e w3 ⟨rfl, b3⟩; have H3 := Lib.hid (HR.out.2.trans (b3.mono HR.out.2.size)); clear b3 HT)
          | (go_at_call 75; refine (HAd.out _).mono ?_; rintro e w4 ⟨rfl, rfl⟩)
          | fail)
        go_ret2
        exact ⟨by rw [HE.out.1, HE.out.2]; rfl, H3.out⟩
      · cases gk with
        | zero => omega
        | succ g1 =>
          go_wp2_with (first
            | (go_at_call 74; refine HT.out.mono ?_; rintro e w3 ⟨rfl, b3⟩; have H3 := Lib.hid (HR.out.2.trans (b3.mono HR.out.2.size)); clear b3 HT)
            | (go_at_call 75; refine (HAd.out _).mono ?_; rintro e w4 ⟨rfl, rfl⟩)
            | fail)
          go_roundg g1
          case measure => omega
          case rel => exact ⟨t + 1, rfl, by omega, by omega, by omega, fun s h1 h2 n hn2 => by
            by_cases hst : s = t
            · subst hst
              rw [HF.out] at hn2
              have : own + v = n := by simpa using hn2
              omega
            · exact HR.out.1 s h1 (by omega) n hn2, H3.out⟩
    · have HE := Lib.hid (HOv.out t (by omega) HR.out.1)
      go_wp2
      go_ret2
      exact ⟨by rw [HE.out]; rfl, HR.out.2⟩
end Go.Proofs.YtihomapbncnhaaaDoor
/- The contracts of image's hasMode and Tasks. -/
namespace Go.Proofs.YtihomapbncnhaaaDoor
open Go.RowKit

theorem hasMode_any (r : Int) (sT sM sE : Option Addr) (nT cT nM cM nE cE : Nat) (m : Int) (w : World) :
    Calls Tryd.prog 91 #[.agg #[.int .i64 r, .slice sT nT cT, .slice sM nM cM, .slice sE nE cE], .int .i64 m] w fun e w' => e = .returned (.bool (decide (0 ≤ m ∧ m < (nM : Int)))) ∧ Below w.heap.size w w' := by
  have hb : Below w.heap.size w (w.alloc (.cells #[.int .i64 r, .slice sT nT cT, .slice sM nM cM, .slice sE nE cE] 26)) := (Below.refl _ _).alloc (Nat.le_refl _) _
  have HB := Lib.hid hb
  clear hb
  by_cases h0 : 0 ≤ m
  · by_cases h1 : m < (nM : Int)
    · rw [decide_eq_true (⟨h0, h1⟩ : 0 ≤ m ∧ m < (nM : Int))]
      go_enter Tryd.func91, Tryd.ntmps91
      go_wp2
      go_ret
      exact ⟨rfl, HB.out⟩
    · rw [decide_eq_false (fun h : 0 ≤ m ∧ m < (nM : Int) => h1 h.2)]
      go_enter Tryd.func91, Tryd.ntmps91
      go_wp2
      go_ret
      exact ⟨rfl, HB.out⟩
  · rw [decide_eq_false (fun h : 0 ≤ m ∧ m < (nM : Int) => h0 h.1)]
    go_enter Tryd.func91, Tryd.ntmps91
    go_wp2
    go_ret
    exact ⟨rfl, HB.out⟩
/-- The tasks of a mode; none, if there is no such. -/
def tasksM (x : Img) (m : Int) : BitVec 32 := if 0 ≤ m ∧ m < (x.modes.length : Int) then (x.m m.toNat).tasks else 0#32
set_option maxHeartbeats 1000000 in
theorem iTasks_any {w : World} {V : Nat → Prop} {x : Img} {S : ImgS} (h : ImgAt w V x S) (m : Int) :
    Calls Tryd.prog 61 #[.agg #[.int .i64 x.res, .slice S.t.sp x.tasks.length S.t.c, .slice S.m.sp x.modes.length S.m.c, .slice S.e.sp x.edges.length S.e.c], .int .i64 m] w fun e w' => e = .returned (.int .u32 (w32 (tasksM x m))) ∧ Below w.heap.size w w' := by
  obtain ⟨nT, hnT⟩ : ∃ n, x.tasks.length = n := ⟨_, rfl⟩
  obtain ⟨nE, hnE⟩ : ∃ n, x.edges.length = n := ⟨_, rfl⟩
  have HH := Lib.hid (fun (wx : World) => hasMode_any x.res S.t.sp S.m.sp S.e.sp nT S.t.c x.modes.length S.m.c nE S.e.c m wx)
  rw [hnT, hnE]
  have HZ := Lib.hid (show Below w.heap.size w (w.alloc (.cells #[.int .i64 x.res, .slice S.t.sp nT S.t.c, .slice S.m.sp x.modes.length S.m.c, .slice S.e.sp nE S.e.c] 26)) from (Below.refl _ _).alloc (Nat.le_refl _) _)
  by_cases hm : 0 ≤ m ∧ m < (x.modes.length : Int)
  · obtain ⟨k, rfl⟩ := Int.eq_ofNat_of_zero_le hm.1
    have hk : k < x.modes.length := by omega
    have ht : tasksM x (k : Int) = (x.m k).tasks := by unfold tasksM; rw [if_pos hm, Int.toNat_natCast]
    rw [ht]
    rw [decide_eq_true hm] at HH
    obtain ⟨hsp, hb, -⟩ := h.sm.at_ (by omega)
    have hc := (h.md k hk).1
    obtain ⟨z, hz⟩ : ∃ z, (x.m k).tasks = z := ⟨_, rfl⟩
    obtain ⟨nM, hnM⟩ : ∃ n, x.modes.length = n := ⟨_, rfl⟩
    rw [hz] at hc ⊢
    rw [hnM] at HH HZ hk ⊢
    rw [hsp] at HH HZ ⊢
    have HC := Lib.hid (show ∀ w', Below w.heap.size w w' → w'.cell? ⟨S.m.b, S.m.o + k * 2, none⟩ = some (.int .u32 (w32 z)) from fun w' hb' => (hb'.cell (p := ⟨S.m.b, S.m.o + k * 2, none⟩) hb).trans hc)
    have hk2 : (k : Int) < (nM : Int) := by omega
    clear h hc hz hnM ht hnT hnE hm hsp
    go_enter Tryd.func61, Tryd.ntmps61
    go_upto_region 3 with (go_at_call 91; refine (HH.out _).mono ?_; rintro e w1 ⟨rfl, b1⟩; rw [World.size_alloc] at b1; have H1 := Lib.hid (show Below w.heap.size w w1 ∧ w1.cell? ⟨w.heap.size, 2, none⟩ = some (.slice (some ⟨S.m.b, S.m.o, none⟩) nM S.m.c) from ⟨HZ.out.trans (b1.mono (by omega)), (b1.cell (p := ⟨w.heap.size, 2, none⟩) (by simp)).trans (by simp [go_sem])⟩); clear b1)
    have c2 := H1.out.2
    have cz := HC.out w1 H1.out.1
    go_wp2
    go_ret
    exact ⟨rfl, H1.out.1⟩
  · have ht : tasksM x m = 0#32 := by unfold tasksM; rw [if_neg hm]
    rw [ht]
    rw [decide_eq_false hm] at HH
    clear h hm ht
    obtain ⟨nM, hnM⟩ : ∃ n, x.modes.length = n := ⟨_, rfl⟩
    rw [hnM] at HH HZ ⊢
    clear hnM hnT hnE
    go_enter Tryd.func61, Tryd.ntmps61
    go_wp2_with (go_at_call 91; refine (HH.out _).mono ?_; rintro e w1 ⟨rfl, b1⟩; rw [World.size_alloc] at b1; have H1 := Lib.hid (show Below w.heap.size w w1 from HZ.out.trans (b1.mono (by omega))); clear b1)
    go_ret
    exact ⟨rfl, H1.out⟩
end Go.Proofs.YtihomapbncnhaaaDoor
