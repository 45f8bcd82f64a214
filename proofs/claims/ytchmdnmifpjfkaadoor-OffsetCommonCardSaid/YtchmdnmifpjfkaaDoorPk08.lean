/- Several texts in one: ZG, JA, JB, JC, JD, JE, JF, JG, JH. -/
import Derived.Test.YtchmdnmifpjfkaaDoorPk07
import Derived.Deep.CutBlock
import Derived.Test.YtchmdnmifpjfkaaDoorPk02
/- The contract of the reference's Least; the walks of FixLeast and FixGrows. -/
namespace Go.Proofs.YtchmdnmifpjfkaaDoor
open Go.RowKit

/-- Numbers that are not too great. -/
structure GoodT (x : Tm) : Prop where
  p : 1 ≤ x.per ∧ x.per ≤ 1099511627776
  c : 0 ≤ x.cost ∧ x.cost ≤ 100000
  o : 0 ≤ x.off ∧ x.off ≤ 100000
  k : 0 ≤ x.car ∧ x.car ≤ 100000
theorem GoodT.work {x : Tm} (h : GoodT x) {t : Int} (h1 : 1 ≤ t) (h2 : t ≤ 70000) : tmB x t = true ∧ tmN x t ≤ 7000100000 := by
  have hp := h.p; have hc := h.c; have ho := h.o; have hk := h.k
  have j0 := jI_nonneg (P := x.per) (O := x.off) (t := t) (by omega)
  have j1 := jI_le (P := x.per) (O := x.off) (t := t) (by omega) ho.1 (by omega)
  have m1 : jI x.per x.off t * x.cost ≤ 70000 * 100000 := Int.mul_le_mul (by omega) hc.2 hc.1 (by omega)
  have hb : tmB x t = true := (tmB_iff x t).2 ⟨by omega, by omega, by omega, by omega, by omega, by omega⟩
  refine ⟨hb, ?_⟩
  rw [tmN_eq hb]; omega
theorem good_sum {t : Int} (h1 : 1 ≤ t) (h2 : t ≤ 70000) : ∀ {L : List Tm}, (∀ x ∈ L, GoodT x) → sumL L t ≤ 7000100000 * L.length
  | [], _ => by simp [sumL]
  | x :: r, h => by
    have a := ((h x (List.mem_cons_self ..)).work h1 h2).2
    have b := good_sum h1 h2 (L := r) fun y hy => h y (List.mem_cons_of_mem _ hy)
    rw [sumL_cons, List.length_cons]
    omega
theorem good_ok {L : List Tm} (h : ∀ x ∈ L, GoodT x) (hl : L.length ≤ 20) {t : Int} (h1 : 1 ≤ t) (h2 : t ≤ 70000) : okL L t = true ∧ 0 ≤ valL L t ∧ valL L t ≤ 140002000000 := by
  have hs := good_sum h1 h2 h
  have hk : okL L t = true := (okL_iff L t).2 ⟨fun x hx => ((h x hx).work h1 h2).1, by omega⟩
  exact ⟨hk, (val_range L t).1, by rw [valL_eq hk]; omega⟩
theorem good_ff {own : Int} {L : List Tm} (h : ∀ x ∈ L, GoodT x) (hl : L.length ≤ 20) (h0 : 0 ≤ own) (ho : own ≤ 200000) {t : Int} (h1 : 1 ≤ t) (h2 : t ≤ 70000) : FF own L t = some (own + valL L t) := by
  obtain ⟨a, b, c⟩ := good_ok h hl h1 h2
  exact FF_some.2 ⟨a, h0, rfl, by omega⟩
/-- What is found is told by where it is the first that is enough. -/
theorem lookR_spec {own most : Int} {L : List Tm} (h0 : 0 ≤ own) (hs : ∀ t, 1 ≤ t → t ≤ most → ∃ n, FF own L t = some n) :
    (∀ a b, lookR own most L = some (a, b) → (if own < 1 then 1 else own) ≤ a ∧ a ≤ most ∧ (∃ n, FF own L a = some n ∧ n ≤ a) ∧ ∀ t, (if own < 1 then 1 else own) ≤ t → t < a → ∀ n, FF own L t = some n → t < n) ∧
    (lookR own most L = none → ∀ t, (if own < 1 then 1 else own) ≤ t → t ≤ most → ∀ n, FF own L t = some n → t < n) := by
  have hw : w0 own = (if own < 1 then 1 else own) := by unfold w0; rw [max_one]
  have := lookF_least (own := own) (L := L) (most := most) (most + 1).toNat (w0 own) 1 (by unfold w0; omega) (by unfold w0; omega) (fun t h1 h2 => hs t (by unfold w0 at h1; omega) h2)
  have e : lookR own most L = lookF (FF own L) most (most + 1).toNat (w0 own) 1 := by unfold lookR; rw [if_neg (by omega)]
  rw [← e, hw] at this
  exact this
theorem lookR_over {own most : Int} {L : List Tm} (h0 : 0 ≤ own) (hs : ∀ t, 1 ≤ t → t ≤ most → ∃ n, FF own L t = some n) {t : Int} (ht : most < t) (hno : ∀ s, (if own < 1 then 1 else own) ≤ s → s < t → ∀ n, FF own L s = some n → s < n) : lookR own most L = none := by
  obtain ⟨h1, -⟩ := lookR_spec h0 hs
  cases hr : lookR own most L with
  | none => rfl
  | some p =>
    obtain ⟨a, b⟩ := p
    obtain ⟨a1, a2, ⟨n, a3, a4⟩, -⟩ := h1 a b hr
    have := hno a a1 (by omega) n a3
    omega
theorem lookR_at {own most : Int} {L : List Tm} (h0 : 0 ≤ own) (hs : ∀ t, 1 ≤ t → t ≤ most → ∃ n, FF own L t = some n) {t n : Int} (h1 : (if own < 1 then 1 else own) ≤ t) (ht : t ≤ most) (hf : FF own L t = some n) (hn : n ≤ t) (hno : ∀ s, (if own < 1 then 1 else own) ≤ s → s < t → ∀ n, FF own L s = some n → s < n) : tT (lookR own most L) = t ∧ tB (lookR own most L) = true := by
  obtain ⟨g1, g2⟩ := lookR_spec h0 hs
  cases hr : lookR own most L with
  | none => have := g2 hr t h1 ht n hf; omega
  | some p =>
    obtain ⟨a, b⟩ := p
    obtain ⟨a1, a2, ⟨k, a3, a4⟩, a5⟩ := g1 a b hr
    refine ⟨?_, rfl⟩
    show a = t
    rcases Int.lt_trichotomy a t with h | h | h
    · have := hno a a1 h k a3; omega
    · exact h
    · have := a5 t h1 h n hf; omega
/-- More first work, or terms more: no less time. -/
theorem lookR_mono {own own' : Int} {L L' : List Tm} {most : Int} (h0 : 0 ≤ own) (h1 : own ≤ own') (hs : ∀ t, 1 ≤ t → t ≤ most → ∃ n, FF own L t = some n) (hs' : ∀ t, 1 ≤ t → t ≤ most → ∃ n, FF own' L' t = some n)
    (hle : ∀ t n n', 1 ≤ t → t ≤ most → FF own L t = some n → FF own' L' t = some n' → n ≤ n') : tB (lookR own' most L') = true → tB (lookR own most L) = true ∧ tT (lookR own most L) ≤ tT (lookR own' most L') := by
  intro hb
  obtain ⟨g1, -⟩ := lookR_spec (own := own') (L := L') (by omega) hs'
  obtain ⟨k1, k2⟩ := lookR_spec h0 hs
  cases hr' : lookR own' most L' with
  | none => rw [hr'] at hb; cases hb
  | some p =>
    obtain ⟨a, b⟩ := p
    obtain ⟨a1, a2, ⟨n', a3, a4⟩, -⟩ := g1 a b hr'
    have ha1 : 1 ≤ a := by split at a1 <;> omega
    have ha2 : (if own < 1 then 1 else own) ≤ a := by split at a1 <;> split <;> omega
    obtain ⟨n, hn⟩ := hs a ha1 a2
    have hnn := hle a n n' ha1 a2 hn a3
    cases hr : lookR own most L with
    | none => have := k2 hr a ha2 a2 n hn; omega
    | some q =>
      obtain ⟨c, d⟩ := q
      refine ⟨rfl, ?_⟩
      show c ≤ a
      obtain ⟨-, -, -, c4⟩ := k1 c d hr
      by_cases hca : c ≤ a
      · exact hca
      · have := c4 a ha2 (by omega) n hn; omega
theorem getD_mem {L : List Tm} (h : ∀ k, k < L.length → GoodT (L.getD k default)) : ∀ x ∈ L, GoodT x := by
  intro x hx
  obtain ⟨j, hj, rfl⟩ := List.mem_iff_getElem.1 hx
  have := h j hj
  rwa [show L.getD j default = L[j] by simp [hj]] at this
set_option maxHeartbeats 4000000 in
theorem rleast_any {w : World} {V : Nat → Prop} {S : Src} {L : List Tm} (h : TermsAt w V S L) (hl : L.length ≤ 20) (own most : Int) (hm : most ≤ 70000) (h0 : 0 ≤ own) (ho : own ≤ 100000) (hg : ∀ x ∈ L, GoodT x) :
    Calls Tryd.prog 43 #[.int .i64 own, .int .i64 most, .slice S.sp L.length S.c] w fun e w' => e = .returned (.tuple #[.int .i64 (tT (lookR own most L)), .bool (tB (lookR own most L))]) ∧ Below w.heap.size w w' := by
  have hs : ∀ t, 1 ≤ t → t ≤ most → ∃ n, FF own L t = some n := fun t h1 h2 => ⟨_, good_ff hg hl h0 (by omega) h1 (by omega)⟩
  have HW := Lib.hid (fun (wx : World) (hb : Below w.heap.size w wx) (n : Int) => (show Calls Tryd.prog 70 #[.slice S.sp L.length S.c, .int .i64 n] wx fun e w' => e = .returned (.tuple #[.int .i64 (valL L n), .bool (okL L n)]) ∧ Below wx.heap.size wx w' from rall_any (h.new hb) (by omega) n))
  have HOv := Lib.hid (fun (t : Int) => @lookR_over own most L h0 hs t)
  have HAt := Lib.hid (fun (t n : Int) => @lookR_at own most L h0 hs t n)
  have HFF := Lib.hid (fun (t : Int) (h1 : 1 ≤ t) (h2 : t ≤ most) => And.intro (good_ff (own := own) hg hl h0 (by omega) h1 (by omega)) (good_ok hg hl h1 (by omega)))
  obtain ⟨sp, hspn⟩ : ∃ s, S.sp = s := ⟨_, rfl⟩
  obtain ⟨c, hc⟩ : ∃ s, S.c = s := ⟨_, rfl⟩
  obtain ⟨N, hN⟩ : ∃ s, L.length = s := ⟨_, rfl⟩
  rw [hspn, hc, hN] at HW
  rw [hspn, hc, hN]
  clear h hspn hc hN hl hg hs
  obtain ⟨t0, ht0⟩ : ∃ t, (if own < 1 then 1 else own) = t := ⟨_, rfl⟩
  have HT0 := Lib.hid ht0
  have ht1 : 1 ≤ t0 ∧ t0 ≤ 100000 := by rw [← ht0]; split <;> omega
  rw [ht0] at HOv HAt
  clear ht0
  go_enter Tryd.func43, Tryd.ntmps43
  go_upto_if 17 with fail
  go_cut [8] from 16 to 17 (fun s8 wx => s8 = .int .i64 t0 ∧ w = wx)
  case first => as_aux_lemma =>
    by_cases x1 : own < 1
    · have HX := Lib.hid (show t0 = 1 by rw [← HT0.out, if_pos x1])
      go_wp2
      go_meet
      case rel => exact ⟨by rw [HX.out], rfl⟩
    · have HX := Lib.hid (show t0 = own by rw [← HT0.out, if_neg x1])
      go_wp2
      go_meet
      case rel => exact ⟨by rw [HX.out], rfl⟩
  case rest =>
  obtain ⟨rfl, rfl⟩ := hcut
  go_wp2
  go_loopg [8] (70001 - t0).toNat (fun g u wr => ∃ t : Int, u = .int .i64 t ∧ 70001 ≤ t + g ∧ t0 ≤ t ∧ t ≤ 100000 ∧ Aside ((∀ s, t0 ≤ s → s < t → ∀ n, FF own L s = some n → s < n) ∧ Below w.heap.size w wr))
  case atStart => exact ⟨t0, rfl, by omega, by omega, by omega, fun s h1 h2 => by omega, Below.refl _ _⟩
  case round =>
    obtain ⟨t, rfl, hg1, ht2, ht3, HR⟩ := hrel
    by_cases hm1 : t ≤ most
    · have HT := Lib.hid (HW.out _ HR.out.2 t)
      obtain ⟨hf, hok, v0, v1⟩ := HFF.out t (by omega) hm1
      have HA := Lib.hid (HAt.out t (own + valL L t) ht2 hm1 hf)
      have HF := Lib.hid hf
      rw [hok] at HT
      have had : addB own (valL L t) = true := by simp only [addB, Bool.and_eq_true, numB_iff]; omega
      have hadn : addN own (valL L t) = own + valL L t := by unfold addN; rw [if_pos (by simpa [addB] using had)]
      have HAd := Lib.hid (fun wx => refadd_any own (valL L t) wx)
      rw [had, hadn] at HAd
      obtain ⟨v, hv⟩ : ∃ v, valL L t = v := ⟨_, rfl⟩
      rw [hv] at HT HA HF HAd v0 v1
      clear hv hf hok had hadn HOv HAt HFF HW
      by_cases hn : own + v ≤ t
      · have HE := Lib.hid (HA.out hn HR.out.1)
        go_wp2_with (first
          | (go_at_call 70; refine HT.out.mono ?_; rintro e w3 ⟨rfl, b3⟩; have H3 := Lib.hid (HR.out.2.trans (b3.mono HR.out.2.size)); clear b3 HT)
          | (go_at_call 71; refine (HAd.out _).mono ?_; rintro e w4 ⟨rfl, rfl⟩)
          | fail)
        go_ret2
        exact ⟨by rw [HE.out.1, HE.out.2]; rfl, H3.out⟩
      · cases gk with
        | zero => omega
        | succ g1 =>
          go_wp2_with (first
            | (go_at_call 70; refine HT.out.mono ?_; rintro e w3 ⟨rfl, b3⟩; have H3 := Lib.hid (HR.out.2.trans (b3.mono HR.out.2.size)); clear b3 HT)
            | (go_at_call 71; refine (HAd.out _).mono ?_; rintro e w4 ⟨rfl, rfl⟩)
            | fail)
          go_roundg g1
          case measure => omega
          case rel => exact ⟨t + 1, rfl, by omega, by omega, by omega, fun s h1 h2 n hn2 => by
            by_cases hst : s = t
            · subst hst
              rw [HF.out] at hn2
              have : own + v = n := by simpa using hn2
              omega
            · exact HR.out.1 s h1 (by omega) n hn2, H3.out⟩
    · have HE := Lib.hid (HOv.out t (by omega) HR.out.1)
      go_wp2
      go_ret2
      exact ⟨by rw [HE.out]; rfl, HR.out.2⟩
end Go.Proofs.YtchmdnmifpjfkaaDoor
/- The contracts of image's within and taskMayBe, and of ref10's in and task. -/
namespace Go.Proofs.YtchmdnmifpjfkaaDoor
open Go.RowKit

theorem lt8 {p : Nat → Prop} (h0 : p 0) (h1 : p 1) (h2 : p 2) (h3 : p 3) (h4 : p 4) (h5 : p 5) (h6 : p 6) (h7 : p 7) : ∀ k, k < 8 → p k := by
  intro k hk
  rcases k with _ | _ | _ | _ | _ | _ | _ | _ | k
  all_goals first | assumption | omega
def inB (n a b : Int) : Bool := decide (a ≤ n ∧ n ≤ b)
theorem rin_any (n a b : Int) (w : World) : Calls Tryd.prog 76 #[.int .i64 n, .int .i64 a, .int .i64 b] w fun e w' => e = .returned (.bool (inB n a b)) ∧ w = w' := by
  unfold inB
  by_cases h1 : a ≤ n
  · by_cases h2 : n ≤ b
    · rw [decide_eq_true (⟨h1, h2⟩ : a ≤ n ∧ n ≤ b)]
      go_enter Tryd.func76, Tryd.ntmps76
      go_wp2
      go_ret
      exact ⟨rfl, rfl⟩
    · rw [decide_eq_false (fun h : a ≤ n ∧ n ≤ b => h2 h.2)]
      go_enter Tryd.func76, Tryd.ntmps76
      go_wp2
      go_ret
      exact ⟨rfl, rfl⟩
  · rw [decide_eq_false (fun h : a ≤ n ∧ n ≤ b => h1 h.1)]
    go_enter Tryd.func76, Tryd.ntmps76
    go_wp2
    go_ret
    exact ⟨rfl, rfl⟩
/-- How long a resource may be held at most. -/
def mostL (a2 res : Int) (r : Nat) : Int := if res ≤ (r : Int) then 0 else a2
/-- May a task be? -/
def taskOK (a0 a1 a2 : Int) (f : Nat → Int) (res : Int) : Bool := inB a0 1 4096 && (inB a1 1 a0 && (inB a2 1 a1 && (List.range 8).all fun r => inB (f r) 0 (mostL a2 res r)))
theorem run_index_a8 (f : Nat → Int) (w : World) : ∀ k : Nat, k < 8 → (Instr.index 68 (.agg #[.int .i64 (f 0), .int .i64 (f 1), .int .i64 (f 2), .int .i64 (f 3), .int .i64 (f 4), .int .i64 (f 5), .int .i64 (f 6), .int .i64 (f 7)]) (.int .i64 (k : Int))).run Tryd.prog w = .ok (.int .i64 (f k)) w := by
  refine lt8 ?_ ?_ ?_ ?_ ?_ ?_ ?_ ?_
  all_goals simp [Instr.index, run_underlying Tryd.underlying68, go_sem, part, asIntOf]
def task11 (a0 a1 a2 : Int) (f : Nat → Int) : Array Value := #[.int .i64 a0, .int .i64 a1, .int .i64 a2, .int .i64 (f 0), .int .i64 (f 1), .int .i64 (f 2), .int .i64 (f 3), .int .i64 (f 4), .int .i64 (f 5), .int .i64 (f 6), .int .i64 (f 7)]
theorem task11_at (a0 a1 a2 : Int) (f : Nat → Int) : ∀ r, r < 8 → (task11 a0 a1 a2 f)[3 + r]? = some (.int .i64 (f r)) := lt8 rfl rfl rfl rfl rfl rfl rfl rfl
set_option maxHeartbeats 4000000 in
theorem r10task_any (a0 a1 a2 : Int) (f : Nat → Int) (res : Int) (w : World) : Calls Tryd.prog 77 #[.agg #[.int .i64 a0, .int .i64 a1, .int .i64 a2, .int .i64 (f 0), .int .i64 (f 1), .int .i64 (f 2), .int .i64 (f 3), .int .i64 (f 4), .int .i64 (f 5), .int .i64 (f 6), .int .i64 (f 7)], .int .i64 res] w fun e w' => e = .returned (.bool (taskOK a0 a1 a2 f res)) ∧ Below w.heap.size w w' := by
  have H1 := Lib.hid (fun wx => rin_any a0 1 4096 wx)
  have H2 := Lib.hid (fun wx => rin_any a1 1 a0 wx)
  have H3 := Lib.hid (fun wx => rin_any a2 1 a1 wx)
  have HT := Lib.hid (show taskOK a0 a1 a2 f res = (inB a0 1 4096 && (inB a1 1 a0 && (inB a2 1 a1 && (List.range 8).all fun r => inB (f r) 0 (mostL a2 res r)))) from rfl)
  have HX := Lib.hid (fun (k : Nat) (hk : k < 8) (wx : World) => run_index_a8 f wx k hk)
  obtain ⟨v, hv⟩ : ∃ v, taskOK a0 a1 a2 f res = v := ⟨_, rfl⟩
  rw [hv] at HT ⊢
  obtain ⟨b1, e1⟩ : ∃ b, inB a0 1 4096 = b := ⟨_, rfl⟩
  obtain ⟨b2, e2⟩ : ∃ b, inB a1 1 a0 = b := ⟨_, rfl⟩
  obtain ⟨b3, e3⟩ : ∃ b, inB a2 1 a1 = b := ⟨_, rfl⟩
  rw [e1] at H1 HT
  rw [e2] at H2 HT
  rw [e3] at H3 HT
  obtain ⟨Z, hZ⟩ : ∃ Z, Z = w.heap.size := ⟨_, rfl⟩
  obtain ⟨w2, hw2⟩ : ∃ w2, w.alloc (.cells #[.int .i64 a0, .int .i64 a1, .int .i64 a2, .int .i64 (f 0), .int .i64 (f 1), .int .i64 (f 2), .int .i64 (f 3), .int .i64 (f 4), .int .i64 (f 5), .int .i64 (f 6), .int .i64 (f 7)] 70) = w2 := ⟨_, rfl⟩
  have HZ := Lib.hid (show Below w.heap.size w w2 ∧ RowAt w2 Z 70 (task11 a0 a1 a2 f) by rw [← hw2, hZ]; exact ⟨(Below.refl _ _).alloc (Nat.le_refl _) _, RowAt.mk _ _ _⟩)
  clear hv e1 e2 e3
  go_enter Tryd.func77, Tryd.ntmps77
  go_upto_region 1 with fail
  try rw [hw2]
  rw [← hZ]
  clear hw2 hZ
  have c0 : w2.cell? ⟨Z, 0, none⟩ = some (.int .i64 a0) := HZ.out.2.cell 0
  have c1 : w2.cell? ⟨Z, 1, none⟩ = some (.int .i64 a1) := HZ.out.2.cell 1
  have c2 : w2.cell? ⟨Z, 2, none⟩ = some (.int .i64 a2) := HZ.out.2.cell 2
  cases b1 with
  | false =>
    go_wp2_with (first | (go_at_call 76; refine (H1.out _).mono ?_; rintro e w' ⟨rfl, rfl⟩; clear H1) | fail)
    go_ret
    exact ⟨by rw [HT.out]; rfl, HZ.out.1⟩
  | true =>
    cases b2 with
    | false =>
      go_wp2_with (first | (go_at_call 76; refine (H1.out _).mono ?_; rintro e w' ⟨rfl, rfl⟩; clear H1) | (go_at_call 76; refine (H2.out _).mono ?_; rintro e w' ⟨rfl, rfl⟩; clear H2) | fail)
      go_ret
      exact ⟨by rw [HT.out]; rfl, HZ.out.1⟩
    | true =>
      cases b3 with
      | false =>
        go_wp2_with (first | (go_at_call 76; refine (H1.out _).mono ?_; rintro e w' ⟨rfl, rfl⟩; clear H1) | (go_at_call 76; refine (H2.out _).mono ?_; rintro e w' ⟨rfl, rfl⟩; clear H2) | (go_at_call 76; refine (H3.out _).mono ?_; rintro e w' ⟨rfl, rfl⟩; clear H3) | fail)
        go_ret
        exact ⟨by rw [HT.out]; rfl, HZ.out.1⟩
      | true =>

        go_wp2_with (first | (go_at_call 76; refine (H1.out _).mono ?_; rintro e w' ⟨rfl, rfl⟩; clear H1) | (go_at_call 76; refine (H2.out _).mono ?_; rintro e w' ⟨rfl, rfl⟩; clear H2) | (go_at_call 76; refine (H3.out _).mono ?_; rintro e w' ⟨rfl, rfl⟩; clear H3) | fail)
        skip
        go_loopg [5] 8 (fun g u wr => ∃ k : Nat, k + g = 8 ∧ u = .int .i64 (k : Nat) ∧ Aside (w2 = wr ∧ ∀ j, j < k → inB (f j) 0 (mostL a2 res j) = true))
        case atStart => exact ⟨0, by omega, rfl, rfl, fun j hj => absurd hj (Nat.not_lt_zero j)⟩
        case round =>
          obtain ⟨k, hkg, rfl, HQ⟩ := hrel
          obtain ⟨rfl, hq⟩ := HQ.out
          have HQ2 := Lib.hid hq
          clear HQ hq
          cases gk with
          | zero =>
            obtain rfl : k = 8 := by omega
            go_wp2
            go_ret
            refine ⟨?_, HZ.out.1⟩
            have : ((List.range 8).all fun r => inB (f r) 0 (mostL a2 res r)) = true := by
              rw [List.all_eq_true]; intro j hj; exact HQ2.out j (List.mem_range.1 hj)
            rw [HT.out, this]; rfl
          | succ g1 =>
            have hk : k < 8 := by omega
            have hk2 : (k : Int) < 8 := by omega
            have cf := (HZ.out.2.cell (3 + k)).trans (task11_at a0 a1 a2 f k hk)
            have HW := Lib.hid (fun wx => rin_any (f k) 0 (mostL a2 res k) wx)
            have HN := Lib.hid (fun (h : inB (f k) 0 (mostL a2 res k) = false) => show v = false from by
              have : ((List.range 8).all fun r => inB (f r) 0 (mostL a2 res r)) = false := by
                rw [List.all_eq_false]; exact ⟨k, List.mem_range.2 hk, by rw [h]; decide⟩
              rw [HT.out, this]; rfl)
            have HY := Lib.hid (fun (h : inB (f k) 0 (mostL a2 res k) = true) => show ∀ j, j < k + 1 → inB (f j) 0 (mostL a2 res j) = true from fun j hj => by
              rcases Nat.lt_or_ge j k with h2 | h2
              · exact HQ2.out j h2
              · obtain rfl : j = k := by omega
                exact h)
            obtain ⟨bb, hbb⟩ : ∃ b, inB (f k) 0 (mostL a2 res k) = b := ⟨_, rfl⟩
            rw [hbb] at HW HN HY
            clear hbb
            by_cases hm : res ≤ (k : Int)
            · rw [show mostL a2 res k = 0 from if_pos hm] at HW
              cases bb with
              | true =>
                go_wp2_with (go_at_call 76; refine (HW.out _).mono ?_; rintro e w' ⟨rfl, rfl⟩; clear HW)
                go_roundg g1
                case measure => omega
                case rel => exact ⟨k + 1, by omega, by go_num, rfl, HY.out (by simp)⟩
              | false =>
                go_wp2_with (go_at_call 76; refine (HW.out _).mono ?_; rintro e w' ⟨rfl, rfl⟩; clear HW)
                go_ret
                exact ⟨by rw [HN.out (by simp)]; rfl, HZ.out.1⟩
            · rw [show mostL a2 res k = a2 from if_neg hm] at HW
              cases bb with
              | true =>
                go_wp2_with (go_at_call 76; refine (HW.out _).mono ?_; rintro e w' ⟨rfl, rfl⟩; clear HW)
                go_roundg g1
                case measure => omega
                case rel => exact ⟨k + 1, by omega, by go_num, rfl, HY.out (by simp)⟩
              | false =>
                go_wp2_with (go_at_call 76; refine (HW.out _).mono ?_; rintro e w' ⟨rfl, rfl⟩; clear HW)
                go_ret
                exact ⟨by rw [HN.out (by simp)]; rfl, HZ.out.1⟩
end Go.Proofs.YtchmdnmifpjfkaaDoor
/- The contracts of image's queuesMayBe and what it calls, and of ref10's queues. -/
namespace Go.Proofs.YtchmdnmifpjfkaaDoor
open Go.RowKit

def qth (l : List (Int × Int)) (k : Nat) : Int × Int := l.getD k (0, 0)
/-- A row of queues lies there. -/
structure QAt (w : World) (V : Nat → Prop) (s : Src) (l : List (Int × Int)) : Prop where
  sl : SlAt w V s l.length
  q : ∀ j, j < l.length → w.cell? ⟨s.b, s.o + j * 2, none⟩ = some (.int .i64 (qth l j).1) ∧ w.cell? ⟨s.b, s.o + j * 2 + 1, none⟩ = some (.int .i64 (qth l j).2)
theorem QAt.keep {V : Nat → Prop} {w w' : World} {s : Src} {l : List (Int × Int)} (h : QAt w V s l) (c : Ch V w w') : QAt w' V s l :=
  ⟨h.sl.keep c, fun j hj => ⟨c.cell (h.q j hj).1 ((h.sl.at_ (by omega)).2.2), c.cell (h.q j hj).2 ((h.sl.at_ (by omega)).2.2)⟩⟩
theorem QAt.new {V : Nat → Prop} {w w' : World} {s : Src} {l : List (Int × Int)} (h : QAt w V s l) (hb : Below w.heap.size w w') : QAt w' V s l := h.keep (Ch.new hb)
theorem ImgAt.qat {w : World} {V : Nat → Prop} {x : Img} {S : ImgS} (h : ImgAt w V x S) (k : Nat) (hk : k < x.modes.length) : QAt w V (S.q k) (x.m k).qs := ⟨(h.md k hk).2.2, h.qu k hk⟩
def queueOK (q : Int × Int) : Bool := inB q.1 1 16 && inB q.2 1 3
def queuesOK (l : List (Int × Int)) : Bool := decide (l.length ≤ 4) && l.all queueOK
theorem all_split {l : List (Int × Int)} {k : Nat} (hk : k < l.length) (h : queueOK (qth l k) = false) : l.all queueOK = false := by
  rw [List.all_eq_false]
  refine ⟨l[k], List.getElem_mem hk, ?_⟩
  have : qth l k = l[k] := by unfold qth; rw [List.getD_eq_getElem?_getD, List.getElem?_eq_getElem hk]; rfl
  rw [← this, h]; decide
theorem all_whole {l : List (Int × Int)} (h : ∀ k, k < l.length → queueOK (qth l k) = true) : l.all queueOK = true := by
  rw [List.all_eq_true]
  intro q hq
  obtain ⟨k, hk, rfl⟩ := List.getElem_of_mem hq
  have : qth l k = l[k] := by unfold qth; rw [List.getD_eq_getElem?_getD, List.getElem?_eq_getElem hk]; rfl
  rw [← this]; exact h k hk
set_option maxHeartbeats 2000000 in
theorem rqueues_any {w : World} {V : Nat → Prop} {s : Src} {l : List (Int × Int)} (h : QAt w V s l) :
    Calls Tryd.prog 78 #[.slice s.sp l.length s.c] w fun e w' => e = .returned (.bool (queuesOK l)) ∧ w = w' := by
  obtain ⟨sp, sb, so, sc⟩ := s
  dsimp only
  have HQ := Lib.hid h
  have hsm := h.sl.sm
  have HE := Lib.hid (show queuesOK l = (decide (l.length ≤ 4) && l.all queueOK) from rfl)
  have HS := Lib.hid (fun (k : Nat) (hk : k < l.length) (hb : queueOK (qth l k) = false) => all_split hk hb)
  have HW := Lib.hid (fun (hb : ∀ k, k < l.length → queueOK (qth l k) = true) => all_whole hb)
  obtain ⟨n, hn⟩ : ∃ n, l.length = n := ⟨_, rfl⟩
  obtain ⟨v, hv⟩ : ∃ b, queuesOK l = b := ⟨_, rfl⟩
  rw [hn] at HS HW HE hsm ⊢
  rw [hv] at HE ⊢
  have HN := Lib.hid hn
  clear h hn hv
  go_enter Tryd.func78, Tryd.ntmps78
  go_wp2
  go_loopg [3] n (fun g u wr => ∃ k : Nat, k + g = n ∧ u = .int .i64 (k : Nat) ∧ Aside (w = wr ∧ k ≤ 4 ∧ ∀ j, j < k → queueOK (qth l j) = true))
  case atStart => exact ⟨0, by omega, rfl, rfl, by omega, fun j hj => absurd hj (Nat.not_lt_zero j)⟩
  case round =>
    obtain ⟨k, hkg, rfl, HR⟩ := hrel
    obtain ⟨rfl, hk4, hr⟩ := HR.out
    have HR2 := Lib.hid hr
    clear HR hr
    cases gk with
    | zero =>
      obtain rfl : k = n := by omega
      have HV := Lib.hid (show v = true by rw [HE.out, HW.out HR2.out, decide_eq_true hk4]; rfl)
      go_wp2
      go_ret
      exact ⟨by rw [HV.out]; rfl, rfl⟩
    | succ g1 =>
      have hk : k < n := by omega
      have hkl : k < l.length := by rw [HN.out]; exact hk
      have hk2 : (k : Int) < (n : Int) := by omega
      by_cases h4 : k < 4
      · obtain ⟨hsp, -, -⟩ := HQ.out.sl.at_ (by omega)
        have hsp : sp = some ⟨sb, so, none⟩ := hsp
        subst hsp
        obtain ⟨q0, q1⟩ := HQ.out.q k hkl
        dsimp only at q0 q1
        obtain ⟨c, hc⟩ : ∃ c, (qth l k).1 = c := ⟨_, rfl⟩
        obtain ⟨p, hp⟩ : ∃ p, (qth l k).2 = p := ⟨_, rfl⟩
        have hcp : qth l k = (c, p) := by rw [← hc, ← hp]
        rw [hc] at q0
        rw [hp] at q1
        have H1 := Lib.hid (fun wx => rin_any c 1 16 wx)
        have H2 := Lib.hid (fun wx => rin_any p 1 3 wx)
        have HF := Lib.hid (fun (hb : (inB c 1 16 && inB p 1 3) = false) => show v = false from by
          rw [HE.out, HS.out k hk (by rw [hcp]; exact hb), Bool.and_false])
        have HY := Lib.hid (fun (hb : (inB c 1 16 && inB p 1 3) = true) => show ∀ j, j < k + 1 → queueOK (qth l j) = true from fun j hj => by
          rcases Nat.lt_or_ge j k with h2 | h2
          · exact HR2.out j h2
          · obtain rfl : j = k := by omega
            rw [hcp]; exact hb)
        obtain ⟨b1, e1⟩ : ∃ b, inB c 1 16 = b := ⟨_, rfl⟩
        obtain ⟨b2, e2⟩ : ∃ b, inB p 1 3 = b := ⟨_, rfl⟩
        rw [e1] at H1 HF HY
        rw [e2] at H2 HF HY
        have h4' : (k : Int) < 4 := by omega
        clear e1 e2 hcp hc hp hkl hk4
        cases b1 with
        | false =>
          go_wp2_with (first | (go_at_call 76; refine (H1.out _).mono ?_; rintro e w' ⟨rfl, rfl⟩; clear H1) | fail)
          go_ret
          exact ⟨by rw [HF.out (by simp)]; rfl, rfl⟩
        | true =>
          cases b2 with
          | false =>
            go_wp2_with (first | (go_at_call 76; refine (H1.out _).mono ?_; rintro e w' ⟨rfl, rfl⟩; clear H1) | (go_at_call 76; refine (H2.out _).mono ?_; rintro e w' ⟨rfl, rfl⟩; clear H2) | fail)
            go_ret
            exact ⟨by rw [HF.out (by simp)]; rfl, rfl⟩
          | true =>
            go_wp2_with (first | (go_at_call 76; refine (H1.out _).mono ?_; rintro e w' ⟨rfl, rfl⟩; clear H1) | (go_at_call 76; refine (H2.out _).mono ?_; rintro e w' ⟨rfl, rfl⟩; clear H2) | fail)
            go_roundg g1
            case measure => omega
            case rel => exact ⟨k + 1, by omega, by go_num, rfl, by omega, HY.out (by simp)⟩
      · obtain rfl : k = 4 := by omega
        have HV := Lib.hid (show v = false by rw [HE.out, decide_eq_false (by omega)]; rfl)
        go_wp2
        go_ret
        exact ⟨by rw [HV.out]; rfl, rfl⟩
end Go.Proofs.YtchmdnmifpjfkaaDoor
/- The contracts of image's All and Edge, and of what Edge calls. -/
namespace Go.Proofs.YtchmdnmifpjfkaaDoor
open Go.RowKit

theorem run_index_row {t : TypeId} {n : Nat} (hu : Tryd.prog.underlying t = some (.array n 3)) (l : List Int) (hl : l.length = n) (k : Nat) (hk : k < n) (w : World) :
    (Instr.index t (.agg (rowZ l).toArray) (.int .i64 (k : Int))).run Tryd.prog w = .ok (.int .i64 (l.getD k 0)) w := by
  have h0 : k < l.length := by omega
  have h1 : (rowZ l)[k]? = some (.int .i64 (l.getD k 0)) := by simp [rowZ, h0]
  have hk2 : (k : Int) < (n : Int) := by omega
  have hz : (rowZ l).length = l.length := rowZ_len l
  simp [Instr.index, run_underlying hu, go_sem, part, asIntOf]
  simp [h1]
  intro hc
  omega
def allI (x : Img) : BitVec 32 := btw 4294967295#32 (-1) (x.tasks.length : Int)
theorem iAll_any (x : Img) (S : ImgS) (w : World) : Calls Tryd.prog 65 #[.agg #[.int .i64 x.res, .slice S.t.sp x.tasks.length S.t.c, .slice S.m.sp x.modes.length S.m.c, .slice S.e.sp x.edges.length S.e.c]] w fun e w' => e = .returned (.int .u32 (w32 (allI x))) ∧ Below w.heap.size w w' := by
  have HB := Lib.hid (show ∀ wx, Calls Tryd.prog 61 #[.int .u32 4294967295, .int .i64 (x.tasks.length : Int)] wx fun e w' => e = .returned (.int .u32 (w32 (allI x))) ∧ wx = w' from fun wx => below_any 4294967295#32 (x.tasks.length : Int) wx)
  obtain ⟨nT, hnT⟩ : ∃ n, x.tasks.length = n := ⟨_, rfl⟩
  obtain ⟨nM, hnM⟩ : ∃ n, x.modes.length = n := ⟨_, rfl⟩
  obtain ⟨nE, hnE⟩ : ∃ n, x.edges.length = n := ⟨_, rfl⟩
  obtain ⟨a, ha⟩ : ∃ a, allI x = a := ⟨_, rfl⟩
  rw [hnT, ha] at HB
  rw [hnT, hnM, hnE, ha]
  have HZ := Lib.hid (show Below w.heap.size w (w.alloc (.cells #[.int .i64 x.res, .slice S.t.sp nT S.t.c, .slice S.m.sp nM S.m.c, .slice S.e.sp nE S.e.c] 26)) from (Below.refl _ _).alloc (Nat.le_refl _) _)
  clear hnT hnM hnE ha
  go_enter Tryd.func65, Tryd.ntmps65
  go_wp2_with (go_at_call 61; refine (HB.out _).mono ?_; rintro e w' ⟨rfl, rfl⟩)
  go_ret
  exact ⟨rfl, HZ.out⟩
/-- Does an edge go so? -/
def isE (x : Img) (f t : Int) (k : Nat) : Bool := (x.e k).frm == f && (x.e k).dst == t
/-- The first edge that goes so. -/
def ixE (x : Img) (f t : Int) : Option Nat := (List.range x.edges.length).find? (isE x f t)
def ixI (o : Option Nat) : Int := match o with | some k => (k : Int) | none => -1
theorem ixE_some {x : Img} {f t : Int} {k : Nat} (hk : k < x.edges.length) (hn : ∀ j, j < k → isE x f t j = false) (h : isE x f t k = true) : ixE x f t = some k := by
  unfold ixE
  rw [List.find?_range_eq_some]
  exact ⟨h, by simpa using hk, fun j hj => by rw [hn j hj]; rfl⟩
theorem ixE_none {x : Img} {f t : Int} (hn : ∀ j, j < x.edges.length → isE x f t j = false) : ixE x f t = none := by
  unfold ixE
  rw [List.find?_eq_none]
  intro j hj
  rw [hn j (List.mem_range.1 hj)]; decide
end Go.Proofs.YtchmdnmifpjfkaaDoor
/- The contract of image's checkTasks. -/
namespace Go.Proofs.YtchmdnmifpjfkaaDoor
open Go.RowKit

abbrev exT (a0 a1 a2 : Int) (f : Nat → Int) : List Value := [.int .i64 a0, .int .i64 a1, .int .i64 a2, .int .i64 (f 0), .int .i64 (f 1), .int .i64 (f 2), .int .i64 (f 3), .int .i64 (f 4), .int .i64 (f 5), .int .i64 (f 6), .int .i64 (f 7)]
theorem taskC_row {t : TaskM} (h : t.lon.length = 8) : (taskC t).toArray = task11 t.per t.dl t.cost (fun r => t.lon.getD r 0) := by
  obtain ⟨p, d, c, l⟩ := t
  simp only at h
  rcases l with _ | ⟨a0, _ | ⟨a1, _ | ⟨a2, _ | ⟨a3, _ | ⟨a4, _ | ⟨a5, _ | ⟨a6, _ | ⟨a7, _ | ⟨a8, l⟩⟩⟩⟩⟩⟩⟩⟩⟩
  all_goals first | rfl | (simp only [List.length_cons, List.length_nil] at h; omega)
theorem taskC_ex {t : TaskM} (h : t.lon.length = 8) : taskC t = exT t.per t.dl t.cost (fun r => t.lon.getD r 0) := by
  have := congrArg Array.toList (taskC_row h)
  simpa [task11, exT] using this
theorem taskC_len {t : TaskM} (h : t.lon.length = 8) : (taskC t).length = 11 := by
  unfold taskC
  simp only [List.length_cons, rowZ_len, h]
theorem taskC_one (t : TaskM) : (taskC t).all (·.oneCell') = true := by
  unfold taskC
  simp only [List.all_cons, rowZ_one, Bool.and_true]
  rfl
/-- The first number below another one that is not as asked. -/
def firstNo (n : Nat) (p : Nat → Bool) : Option Nat := (List.range n).find? fun k => !p k
theorem firstNo_some {n : Nat} {p : Nat → Bool} {k : Nat} (hk : k < n) (hn : ∀ j, j < k → p j = true) (h : p k = false) : firstNo n p = some k := by
  unfold firstNo
  rw [List.find?_range_eq_some]
  exact ⟨by rw [h]; rfl, by simpa using hk, fun j hj => by rw [hn j hj]; rfl⟩
theorem firstNo_none {n : Nat} {p : Nat → Bool} (hn : ∀ j, j < n → p j = true) : firstNo n p = none := by
  unfold firstNo
  rw [List.find?_eq_none]
  intro j hj
  rw [hn j (List.mem_range.1 hj)]; decide
def codeOf (o : Option Nat) (c : Int) : Int × Int := match o with | some k => ((k : Int), c) | none => (0, 0)
/-- May the k-th task of an image be? -/
def tkOK (x : Img) (k : Nat) : Bool := taskOK (x.t k).per (x.t k).dl (x.t k).cost (fun r => (x.t k).lon.getD r 0) x.res
/-- What is said of an image's tasks. -/
def codeT (x : Img) : Int × Int := if inB (x.tasks.length : Int) 1 16 = true then codeOf (firstNo x.tasks.length (tkOK x)) 100 else ((x.tasks.length : Int), 100)
end Go.Proofs.YtchmdnmifpjfkaaDoor
/- The contract of image's checkModes. -/
namespace Go.Proofs.YtchmdnmifpjfkaaDoor
open Go.RowKit

/-- Are a mode's tasks there? -/
def mdT (x : Img) (k : Nat) : Bool := (tasksM x (k : Int) &&& ~~~allI x) == 0#32
def mdOK (x : Img) (k : Nat) : Bool := mdT x k && queuesOK (x.m k).qs
def codeMo (x : Img) (o : Option Nat) : Int × Int := match o with | some k => ((k : Int), if mdT x k = true then (104 : Int) else 101) | none => (0, 0)
/-- What is said of an image's modes. -/
def codeM (x : Img) : Int × Int := if inB (x.modes.length : Int) 1 8 = true then codeMo x (firstNo x.modes.length (mdOK x)) else ((x.modes.length : Int), 101)
theorem mdT_iff (x : Img) (k : Nat) : mdT x k = decide (w32 (tasksM x (k : Int) &&& ~~~allI x) = 0) := by
  unfold mdT
  rw [Bool.eq_iff_iff, beq_iff_eq, decide_eq_true_iff]
  constructor
  · intro h; rw [h]; rfl
  · intro h
    have : w32 (tasksM x (k : Int) &&& ~~~allI x) = w32 0#32 := by rw [h]; rfl
    exact w32_inj.1 this
theorem rrKeep {w wa wb : World} {Z E : Nat} {a b : Array Value} {ta tb : TypeId} (h : Below w.heap.size w wa ∧ RowAt wa Z ta a ∧ RowAt wa E tb b) (hb : Below wa.heap.size wa wb) :
    Below w.heap.size w wb ∧ RowAt wb Z ta a ∧ RowAt wb E tb b := ⟨h.1.trans (hb.mono h.1.size), h.2.1.new hb, h.2.2.new hb⟩
theorem rrD {w wa : World} {Z E : Nat} {a b : Array Value} {ta tb : TypeId} (h : Below w.heap.size w wa ∧ RowAt wa Z ta a ∧ RowAt wa E tb b) :
    Below w.heap.size w wa.drew ∧ RowAt wa.drew Z ta a ∧ RowAt wa.drew E tb b := ⟨below_dn h.1 1, h.2⟩
end Go.Proofs.YtchmdnmifpjfkaaDoor
/- The contract of image's offsetsMayBe. -/
namespace Go.Proofs.YtchmdnmifpjfkaaDoor
open Go.RowKit

/-- How long a task may be offset at most. -/
def mostO (prot : Int) (b : BitVec 32) (k : Nat) : Int := if (prot == 3 && hasB b (k : Int)) = true then 16384 else 0
def offK (l : List Int) (prot : Int) (b : BitVec 32) (k : Nat) : Bool := inB (l.getD k 0) 0 (mostO prot b k)
def offOK (l : List Int) (prot : Int) (b : BitVec 32) : Bool := (List.range 16).all (offK l prot b)
theorem rangeAll_yes {n : Nat} {p : Nat → Bool} (h : ∀ j, j < n → p j = true) : (List.range n).all p = true := by
  rw [List.all_eq_true]; intro j hj; exact h j (List.mem_range.1 hj)
theorem rangeAll_no {n : Nat} {p : Nat → Bool} {k : Nat} (hk : k < n) (h : p k = false) : (List.range n).all p = false := by
  rw [List.all_eq_false]; exact ⟨k, List.mem_range.2 hk, by rw [h]; decide⟩
end Go.Proofs.YtchmdnmifpjfkaaDoor
/- The contract of image's mapMayBe. -/
namespace Go.Proofs.YtchmdnmifpjfkaaDoor
open Go.RowKit

/-- Which queues the first ones become. -/
def takenB (l : List Int) : Nat → BitVec 32
  | 0 => 0#32
  | k + 1 => if l.getD k 0 = 0 then takenB l k else takenB l k ||| onl (l.getD k 0)
def mapK (l : List Int) (f t : Int) (k : Nat) : Bool := inB (l.getD k 0) 0 t && (decide (l.getD k 0 = 0) || (decide ((k : Int) < f) && !hasB (takenB l k) (l.getD k 0)))
def mapOK (l : List Int) (f t : Int) : Bool := (List.range 4).all (mapK l f t)
end Go.Proofs.YtchmdnmifpjfkaaDoor
/- The contract of image's edgeMayBe. -/
namespace Go.Proofs.YtchmdnmifpjfkaaDoor
open Go.RowKit

theorem exec_load_mid {P : Program} {o : Oper} {a : Act} {w : World} (ty : TypeId) (x : Operand) (ho : o.op = .load ty x) (b off : Nat) (hx : a.eval x = .pointer (some ⟨b, off, none⟩)) (cs : List Value) (d : TypeDesc)
    (hc : At w b off cs) (hu : P.underlying ty = some d) (hd : d.isRow = true) (hi : (P.info? ty).map (·.size) = some cs.length) :
    (execOp a.eval o).run P w = .ok (Next.value (.agg cs.toArray)) w := by
  unfold execOp
  simp only [ho, hx, Instr.loadAt, Instr.sureAddr, Sem.run_bind, Sem.run_pure, Result.andThen_ok, run_loadVar_mid w b off ty cs d hc hu hd hi]
theorem exec_row_load {P : Program} {o : Oper} {a : Act} {w : World} (ty : TypeId) (x : Operand) (ho : o.op = .load ty x) (g : Nat) (hx : a.eval x = .pointer (some ⟨g, 0, none⟩)) (t : TypeId) (cs : Array Value) (fr : Nat × Nat) (d : TypeDesc)
    (hg : w.heap[g]? = some (.cells cs t fr)) (hu : P.underlying ty = some d) (hd : (match d with | .struct _ | .array _ _ => true | _ => false) = true) (hi : (P.info? ty).map (·.size) = some cs.size) :
    (execOp a.eval o).run P w = .ok (Next.value (.agg cs)) w := by
  unfold execOp
  simp only [ho, hx, Instr.loadAt, Instr.sureAddr, Sem.run_bind, Sem.run_pure, Result.andThen_ok, run_loadVar_row w g t ty cs fr d hg hu hd hi]
theorem edgeC_offs (e : EdgeM) (j : Nat) (u : Value) (h : (rowZ e.offs)[j]? = some u) : (edgeC e).toArray[3 + j]? = some u := by
  have hl : j < (rowZ e.offs).length := by
    rcases Nat.lt_or_ge j (rowZ e.offs).length with h1 | h1
    · exact h1
    · rw [List.getElem?_eq_none h1] at h; simp at h
  unfold edgeC
  rw [show 3 + j = j + 3 by omega]
  simp [List.getElem?_append_left hl, h]
theorem edgeC_map (e : EdgeM) (h16 : e.offs.length = 16) (j : Nat) (u : Value) (h : (rowZ e.map)[j]? = some u) : (edgeC e).toArray[19 + j]? = some u := by
  have hl : (rowZ e.offs).length = 16 := by rw [rowZ_len, h16]
  unfold edgeC
  rw [show 19 + j = (16 + j) + 3 by omega]
  simp [List.getElem?_append_right (show (rowZ e.offs).length ≤ 16 + j by omega), hl, h]
/-- Is there such a mode? -/
def isMode (x : Img) (m : Int) : Bool := decide (0 ≤ m ∧ m < (x.modes.length : Int))
def qlen (x : Img) (m : Int) : Nat := (x.m m.toNat).qs.length
/-- May an image's k-th edge be? -/
def edgeOK (x : Img) (k : Nat) : Bool :=
  !(decide ((x.e k).frm = (x.e k).dst)) && (isMode x (x.e k).frm && (isMode x (x.e k).dst && (inB (x.e k).prot 1 3 && (decide ((ixE x (x.e k).frm (x.e k).dst).getD 0 = k) &&
    (mapOK (x.e k).map (qlen x (x.e k).frm : Int) (qlen x (x.e k).dst : Int) && offOK (x.e k).offs (x.e k).prot (tasksM x (x.e k).dst &&& ~~~tasksM x (x.e k).frm))))))
end Go.Proofs.YtchmdnmifpjfkaaDoor
