/- The contract of the reference's Least; the walks of FixLeast and FixGrows. -/
import Derived.Test.YtmaackdfhmpicaaZE
import Derived.Deep.CutBlock
namespace Go.Proofs.Ytmaackdfhmpicaa
open Go.RowKit

/-- Numbers that are not too great. -/
structure GoodT (x : Tm) : Prop where
  p : 1 ≤ x.per ∧ x.per ≤ 1099511627776
  c : 0 ≤ x.cost ∧ x.cost ≤ 100000
  o : 0 ≤ x.off ∧ x.off ≤ 100000
  k : 0 ≤ x.car ∧ x.car ≤ 100000
theorem GoodT.work {x : Tm} (h : GoodT x) {t : Int} (h1 : 1 ≤ t) (h2 : t ≤ 70000) : tmB x t = true ∧ tmN x t ≤ 7000100000 := by
  have hp := h.p; have hc := h.c; have ho := h.o; have hk := h.k
  have j0 := jI_nonneg (P := x.per) (O := x.off) (t := t) (by omega)
  have j1 := jI_le (P := x.per) (O := x.off) (t := t) (by omega) ho.1 (by omega)
  have m1 : jI x.per x.off t * x.cost ≤ 70000 * 100000 := Int.mul_le_mul (by omega) hc.2 hc.1 (by omega)
  have hb : tmB x t = true := (tmB_iff x t).2 ⟨by omega, by omega, by omega, by omega, by omega, by omega⟩
  refine ⟨hb, ?_⟩
  rw [tmN_eq hb]; omega
theorem good_sum {t : Int} (h1 : 1 ≤ t) (h2 : t ≤ 70000) : ∀ {L : List Tm}, (∀ x ∈ L, GoodT x) → sumL L t ≤ 7000100000 * L.length
  | [], _ => by simp [sumL]
  | x :: r, h => by
    have a := ((h x (List.mem_cons_self ..)).work h1 h2).2
    have b := good_sum h1 h2 (L := r) fun y hy => h y (List.mem_cons_of_mem _ hy)
    rw [sumL_cons, List.length_cons]
    omega
theorem good_ok {L : List Tm} (h : ∀ x ∈ L, GoodT x) (hl : L.length ≤ 20) {t : Int} (h1 : 1 ≤ t) (h2 : t ≤ 70000) : okL L t = true ∧ 0 ≤ valL L t ∧ valL L t ≤ 140002000000 := by
  have hs := good_sum h1 h2 h
  have hk : okL L t = true := (okL_iff L t).2 ⟨fun x hx => ((h x hx).work h1 h2).1, by omega⟩
  exact ⟨hk, (val_range L t).1, by rw [valL_eq hk]; omega⟩
theorem good_ff {own : Int} {L : List Tm} (h : ∀ x ∈ L, GoodT x) (hl : L.length ≤ 20) (h0 : 0 ≤ own) (ho : own ≤ 200000) {t : Int} (h1 : 1 ≤ t) (h2 : t ≤ 70000) : FF own L t = some (own + valL L t) := by
  obtain ⟨a, b, c⟩ := good_ok h hl h1 h2
  exact FF_some.2 ⟨a, h0, rfl, by omega⟩
/-- What is found is told by where it is the first that is enough. -/
theorem lookR_spec {own most : Int} {L : List Tm} (h0 : 0 ≤ own) (hs : ∀ t, 1 ≤ t → t ≤ most → ∃ n, FF own L t = some n) :
    (∀ a b, lookR own most L = some (a, b) → (if own < 1 then 1 else own) ≤ a ∧ a ≤ most ∧ (∃ n, FF own L a = some n ∧ n ≤ a) ∧ ∀ t, (if own < 1 then 1 else own) ≤ t → t < a → ∀ n, FF own L t = some n → t < n) ∧
    (lookR own most L = none → ∀ t, (if own < 1 then 1 else own) ≤ t → t ≤ most → ∀ n, FF own L t = some n → t < n) := by
  have hw : w0 own = (if own < 1 then 1 else own) := by unfold w0; rw [max_one]
  have := lookF_least (own := own) (L := L) (most := most) (most + 1).toNat (w0 own) 1 (by unfold w0; omega) (by unfold w0; omega) (fun t h1 h2 => hs t (by unfold w0 at h1; omega) h2)
  have e : lookR own most L = lookF (FF own L) most (most + 1).toNat (w0 own) 1 := by unfold lookR; rw [if_neg (by omega)]
  rw [← e, hw] at this
  exact this
theorem lookR_over {own most : Int} {L : List Tm} (h0 : 0 ≤ own) (hs : ∀ t, 1 ≤ t → t ≤ most → ∃ n, FF own L t = some n) {t : Int} (ht : most < t) (hno : ∀ s, (if own < 1 then 1 else own) ≤ s → s < t → ∀ n, FF own L s = some n → s < n) : lookR own most L = none := by
  obtain ⟨h1, -⟩ := lookR_spec h0 hs
  cases hr : lookR own most L with
  | none => rfl
  | some p =>
    obtain ⟨a, b⟩ := p
    obtain ⟨a1, a2, ⟨n, a3, a4⟩, -⟩ := h1 a b hr
    have := hno a a1 (by omega) n a3
    omega
theorem lookR_at {own most : Int} {L : List Tm} (h0 : 0 ≤ own) (hs : ∀ t, 1 ≤ t → t ≤ most → ∃ n, FF own L t = some n) {t n : Int} (h1 : (if own < 1 then 1 else own) ≤ t) (ht : t ≤ most) (hf : FF own L t = some n) (hn : n ≤ t) (hno : ∀ s, (if own < 1 then 1 else own) ≤ s → s < t → ∀ n, FF own L s = some n → s < n) : tT (lookR own most L) = t ∧ tB (lookR own most L) = true := by
  obtain ⟨g1, g2⟩ := lookR_spec h0 hs
  cases hr : lookR own most L with
  | none => have := g2 hr t h1 ht n hf; omega
  | some p =>
    obtain ⟨a, b⟩ := p
    obtain ⟨a1, a2, ⟨k, a3, a4⟩, a5⟩ := g1 a b hr
    refine ⟨?_, rfl⟩
    show a = t
    rcases Int.lt_trichotomy a t with h | h | h
    · have := hno a a1 h k a3; omega
    · exact h
    · have := a5 t h1 h n hf; omega
/-- More first work, or terms more: no less time. -/
theorem lookR_mono {own own' : Int} {L L' : List Tm} {most : Int} (h0 : 0 ≤ own) (h1 : own ≤ own') (hs : ∀ t, 1 ≤ t → t ≤ most → ∃ n, FF own L t = some n) (hs' : ∀ t, 1 ≤ t → t ≤ most → ∃ n, FF own' L' t = some n)
    (hle : ∀ t n n', 1 ≤ t → t ≤ most → FF own L t = some n → FF own' L' t = some n' → n ≤ n') : tB (lookR own' most L') = true → tB (lookR own most L) = true ∧ tT (lookR own most L) ≤ tT (lookR own' most L') := by
  intro hb
  obtain ⟨g1, -⟩ := lookR_spec (own := own') (L := L') (by omega) hs'
  obtain ⟨k1, k2⟩ := lookR_spec h0 hs
  cases hr' : lookR own' most L' with
  | none => rw [hr'] at hb; cases hb
  | some p =>
    obtain ⟨a, b⟩ := p
    obtain ⟨a1, a2, ⟨n', a3, a4⟩, -⟩ := g1 a b hr'
    have ha1 : 1 ≤ a := by split at a1 <;> omega
    have ha2 : (if own < 1 then 1 else own) ≤ a := by split at a1 <;> split <;> omega
    obtain ⟨n, hn⟩ := hs a ha1 a2
    have hnn := hle a n n' ha1 a2 hn a3
    cases hr : lookR own most L with
    | none => have := k2 hr a ha2 a2 n hn; omega
    | some q =>
      obtain ⟨c, d⟩ := q
      refine ⟨rfl, ?_⟩
      show c ≤ a
      obtain ⟨-, -, -, c4⟩ := k1 c d hr
      by_cases hca : c ≤ a
      · exact hca
      · have := c4 a ha2 (by omega) n hn; omega
theorem getD_mem {L : List Tm} (h : ∀ k, k < L.length → GoodT (L.getD k default)) : ∀ x ∈ L, GoodT x := by
  intro x hx
  obtain ⟨j, hj, rfl⟩ := List.mem_iff_getElem.1 hx
  have := h j hj
  rwa [show L.getD j default = L[j] by simp [hj]] at this
set_option maxHeartbeats 4000000 in
theorem rleast_any {w : World} {V : Nat → Prop} {S : Src} {L : List Tm} (h : TermsAt w V S L) (hl : L.length ≤ 20) (own most : Int) (hm : most ≤ 70000) (h0 : 0 ≤ own) (ho : own ≤ 100000) (hg : ∀ x ∈ L, GoodT x) :
    Calls Try.prog 51 #[.int .i64 own, .int .i64 most, .slice S.sp L.length S.c] w fun e w' => e = .returned (.tuple #[.int .i64 (tT (lookR own most L)), .bool (tB (lookR own most L))]) ∧ Below w.heap.size w w' := by
  have hs : ∀ t, 1 ≤ t → t ≤ most → ∃ n, FF own L t = some n := fun t h1 h2 => ⟨_, good_ff hg hl h0 (by omega) h1 (by omega)⟩
  have HW := Lib.hid (fun (wx : World) (hb : Below w.heap.size w wx) (n : Int) => (show Calls Try.prog 46 #[.slice S.sp L.length S.c, .int .i64 n] wx fun e w' => e = .returned (.tuple #[.int .i64 (valL L n), .bool (okL L n)]) ∧ Below wx.heap.size wx w' from rall_any (h.new hb) (by omega) n))
  have HOv := Lib.hid (fun (t : Int) => @lookR_over own most L h0 hs t)
  have HAt := Lib.hid (fun (t n : Int) => @lookR_at own most L h0 hs t n)
  have HFF := Lib.hid (fun (t : Int) (h1 : 1 ≤ t) (h2 : t ≤ most) => And.intro (good_ff (own := own) hg hl h0 (by omega) h1 (by omega)) (good_ok hg hl h1 (by omega)))
  obtain ⟨sp, hspn⟩ : ∃ s, S.sp = s := ⟨_, rfl⟩
  obtain ⟨c, hc⟩ : ∃ s, S.c = s := ⟨_, rfl⟩
  obtain ⟨N, hN⟩ : ∃ s, L.length = s := ⟨_, rfl⟩
  rw [hspn, hc, hN] at HW
  rw [hspn, hc, hN]
  clear h hspn hc hN hl hg hs
  obtain ⟨t0, ht0⟩ : ∃ t, (if own < 1 then 1 else own) = t := ⟨_, rfl⟩
  have HT0 := Lib.hid ht0
  have ht1 : 1 ≤ t0 ∧ t0 ≤ 100000 := by rw [← ht0]; split <;> omega
  rw [ht0] at HOv HAt
  clear ht0
  go_enter Try.func51, Try.ntmps51
  go_upto_if 17 with fail
  go_cut [8] from 16 to 17 (fun s8 wx => s8 = .int .i64 t0 ∧ w = wx)
  case first => as_aux_lemma =>
    by_cases x1 : own < 1
    · have HX := Lib.hid (show t0 = 1 by rw [← HT0.out, if_pos x1])
      go_wp2
      go_meet
      case rel => exact ⟨by rw [HX.out], rfl⟩
    · have HX := Lib.hid (show t0 = own by rw [← HT0.out, if_neg x1])
      go_wp2
      go_meet
      case rel => exact ⟨by rw [HX.out], rfl⟩
  case rest =>
  obtain ⟨rfl, rfl⟩ := hcut
  go_wp2
  go_loopg [8] (70001 - t0).toNat (fun g u wr => ∃ t : Int, u = .int .i64 t ∧ 70001 ≤ t + g ∧ t0 ≤ t ∧ t ≤ 100000 ∧ Aside ((∀ s, t0 ≤ s → s < t → ∀ n, FF own L s = some n → s < n) ∧ Below w.heap.size w wr))
  case atStart => exact ⟨t0, rfl, by omega, by omega, by omega, fun s h1 h2 => by omega, Below.refl _ _⟩
  case round =>
    obtain ⟨t, rfl, hg1, ht2, ht3, HR⟩ := hrel
    by_cases hm1 : t ≤ most
    · have HT := Lib.hid (HW.out _ HR.out.2 t)
      obtain ⟨hf, hok, v0, v1⟩ := HFF.out t (by omega) hm1
      have HA := Lib.hid (HAt.out t (own + valL L t) ht2 hm1 hf)
      have HF := Lib.hid hf
      rw [hok] at HT
      have had : addB own (valL L t) = true := by simp only [addB, Bool.and_eq_true, numB_iff]; omega
      have hadn : addN own (valL L t) = own + valL L t := by unfold addN; rw [if_pos (by simpa [addB] using had)]
      have HAd := Lib.hid (fun wx => refadd_any own (valL L t) wx)
      rw [had, hadn] at HAd
      obtain ⟨v, hv⟩ : ∃ v, valL L t = v := ⟨_, rfl⟩
      rw [hv] at HT HA HF HAd v0 v1
      clear hv hf hok had hadn HOv HAt HFF HW
      by_cases hn : own + v ≤ t
      · have HE := Lib.hid (HA.out hn HR.out.1)
        go_wp2_with (first
          | (go_at_call 46; refine HT.out.mono ?_; rintro e w3 ⟨rfl, b3⟩; have H3 := Lib.hid (HR.out.2.trans (b3.mono HR.out.2.size)); clear b3 HT)
          | (go_at_call 59; refine (HAd.out _).mono ?_; rintro e w4 ⟨rfl, rfl⟩)
          | fail)
        go_ret2
        exact ⟨by rw [HE.out.1, HE.out.2]; rfl, H3.out⟩
      · cases gk with
        | zero => omega
        | succ g1 =>
          go_wp2_with (first
            | (go_at_call 46; refine HT.out.mono ?_; rintro e w3 ⟨rfl, b3⟩; have H3 := Lib.hid (HR.out.2.trans (b3.mono HR.out.2.size)); clear b3 HT)
            | (go_at_call 59; refine (HAd.out _).mono ?_; rintro e w4 ⟨rfl, rfl⟩)
            | fail)
          go_roundg g1
          case measure => omega
          case rel => exact ⟨t + 1, rfl, by omega, by omega, by omega, fun s h1 h2 n hn2 => by
            by_cases hst : s = t
            · subst hst
              rw [HF.out] at hn2
              have : own + v = n := by simpa using hn2
              omega
            · exact HR.out.1 s h1 (by omega) n hn2, H3.out⟩
    · have HE := Lib.hid (HOv.out t (by omega) HR.out.1)
      go_wp2
      go_ret2
      exact ⟨by rw [HE.out]; rfl, HR.out.2⟩
end Go.Proofs.Ytmaackdfhmpicaa
