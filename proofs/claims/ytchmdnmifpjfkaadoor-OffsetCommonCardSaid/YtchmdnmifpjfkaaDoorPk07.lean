/- Several texts in one: ZA, ZB, Mx, ZC, XF, ZD, ZE. -/
import Derived.Test.YtchmdnmifpjfkaaDoorPk06
import Derived.Test.YtchmdnmifpjfkaaDoorPk01
/- Work of terms and the least time that is enough: plain facts. No statement about the program. -/
namespace Go.Proofs.YtchmdnmifpjfkaaDoor
open Go.RowKit

theorem numB_iff (a : Int) : numB a = true ↔ 0 ≤ a ∧ a ≤ 1099511627776 := by simp [numB]
theorem sum_nonneg : ∀ {l : List Int}, (∀ x ∈ l, 0 ≤ x) → 0 ≤ l.sum
  | [], _ => Int.le_refl _
  | x :: r, h => by
    have h1 := h x (List.mem_cons_self ..)
    have h2 := sum_nonneg (l := r) fun y hy => h y (List.mem_cons_of_mem _ hy)
    simp only [List.sum_cons]; omega
theorem runS_iff {s : Int} : ∀ {l : List Int} {n : Int}, 0 ≤ n → n ≤ 1099511627776 → (runS n l = some s ↔ (∀ x ∈ l, 0 ≤ x) ∧ s = n + l.sum ∧ s ≤ 1099511627776)
  | [], n, h0, h1 => by
    simp only [runS, Option.some.injEq, List.sum_nil, List.not_mem_nil, false_implies, implies_true, true_and]
    constructor
    · rintro rfl; exact ⟨by omega, h1⟩
    · rintro ⟨h, _⟩; omega
  | x :: r, n, h0, h1 => by
    simp only [runS]
    by_cases hb : addB n x = true
    · rw [if_pos hb]
      have hb' := hb
      simp only [addB, Bool.and_eq_true, numB_iff] at hb'
      obtain ⟨⟨-, hx⟩, hs⟩ := hb'
      have hv : addN n x = n + x := by unfold addN; rw [if_pos (by simpa [addB] using hb)]
      rw [hv, runS_iff (l := r) hs.1 hs.2]
      simp only [List.mem_cons, forall_eq_or_imp, List.sum_cons]
      constructor
      · rintro ⟨a, b, c⟩; exact ⟨⟨hx.1, a⟩, by omega, c⟩
      · rintro ⟨⟨_, a⟩, b, c⟩; exact ⟨a, by omega, c⟩
    · rw [if_neg hb]
      constructor
      · intro h; cases h
      · rintro ⟨a, b, c⟩
        exfalso
        apply hb
        have hx := a x (List.mem_cons_self ..)
        have hr := sum_nonneg (l := r) fun y hy => a y (List.mem_cons_of_mem _ hy)
        simp only [List.sum_cons] at b
        simp only [addB, Bool.and_eq_true, numB_iff]
        omega
/-- How many jobs of a term come. -/
def jI (P O t : Int) : Int := ((if t < O then 0 else t - O) + P - 1) / P
theorem jI_nonneg {P O t : Int} (hP : 0 < P) : 0 ≤ jI P O t := Int.ediv_nonneg (by split <;> omega) (by omega)
theorem jI_le {P O t : Int} (hP : 0 < P) (hO : 0 ≤ O) (ht : 0 ≤ t) : jI P O t ≤ t := by
  unfold jI
  have hz : (if t < O then (0 : Int) else t - O) ≤ t ∧ 0 ≤ (if t < O then (0 : Int) else t - O) := by split <;> omega
  generalize (if t < O then (0 : Int) else t - O) = z at hz
  have : (z + P - 1) / P < z + 1 := Int.ediv_lt_of_lt_mul hP (by
    have h1 : 1 * P ≤ (z + 1) * P - z := by
      have := Int.mul_le_mul_of_nonneg_left (show (1 : Int) ≤ P by omega) hz.2
      rw [Int.add_mul]; omega
    have h2 : (z + 1) * P = z * P + P := by rw [Int.add_mul, Int.one_mul]
    omega)
  omega
theorem jI_mono {P O t u : Int} (hP : 0 < P) (h : t ≤ u) : jI P O t ≤ jI P O u := by
  unfold jI
  refine Int.ediv_le_ediv hP ?_
  (repeat' split) <;> omega
theorem jI_round {P O t r : Int} (hP : 0 < P) (hO : O ≤ t) (hr : 0 ≤ r) (hd : P ∣ r) : jI P O (t + r) = jI P O t + r / P := by
  obtain ⟨q, rfl⟩ := hd
  unfold jI
  rw [if_neg (by omega), if_neg (by omega), Int.mul_ediv_cancel_left _ (by omega), show t + P * q - O + P - 1 = (t - O + P - 1) + P * q by omega, Int.add_mul_ediv_left _ _ (by omega)]
theorem tmB_iff (x : Tm) (t : Int) : tmB x t = true ↔ ((0 ≤ t ∧ t ≤ 1099511627776) ∧ (0 ≤ x.off ∧ x.off ≤ 1099511627776) ∧ (0 < x.per ∧ x.per ≤ 1099511627776) ∧ (0 ≤ x.cost ∧ x.cost ≤ 1099511627776) ∧ (0 ≤ x.car ∧ jI x.per x.off t * x.cost + x.car ≤ 1099511627776)) := by
  obtain ⟨P, C, O, K⟩ := x
  simp only [tmB, workB, jobsB, jobsN, Bool.and_eq_true]
  constructor
  · rintro ⟨⟨h1, h2⟩, h3, h4⟩
    rw [if_pos h1] at h3 h4
    have hl := h1
    simp only [lessB, Bool.and_eq_true, numB_iff] at hl
    have hlN : lessN t O = if t < O then 0 else t - O := by unfold lessN; rw [if_pos (by simpa [lessB] using h1)]
    have hu := h2
    simp only [upB, Bool.and_eq_true, numB_iff, decide_eq_true_eq] at hu
    have huN : upN (lessN t O) P = jI P O t := by unfold upN jI; rw [if_pos (by simpa [upB] using h2), hlN]
    rw [huN] at h3 h4
    have hm := h3
    simp only [mulB, Bool.and_eq_true, numB_iff] at hm
    have hmN : mulN (jI P O t) C = jI P O t * C := by unfold mulN; rw [if_pos (by simpa [mulB] using h3)]
    rw [hmN] at h4
    simp only [addB, Bool.and_eq_true, numB_iff] at h4
    refine ⟨hl.1, hl.2, ⟨hu.2, hu.1.2.2⟩, hm.1.2, h4.1.2.1, h4.2.2⟩
  · rintro ⟨ht, hO, hP, hC, hK⟩

    have h1 : lessB t O = true := by simp only [lessB, Bool.and_eq_true, numB_iff]; exact ⟨ht, hO⟩
    have hlN : lessN t O = if t < O then 0 else t - O := by unfold lessN; rw [if_pos (by simpa [lessB] using h1)]
    have h2 : upB (lessN t O) P = true := by
      simp only [upB, Bool.and_eq_true, numB_iff, decide_eq_true_eq]
      refine ⟨⟨?_, by omega⟩, hP.1⟩
      rw [hlN]; split <;> omega
    have huN : upN (lessN t O) P = jI P O t := by unfold upN jI; rw [if_pos (by simpa [upB] using h2), hlN]
    have j0 := jI_nonneg (P := P) (O := O) (t := t) hP.1
    have j1 := jI_le (P := P) (O := O) (t := t) hP.1 hO.1 ht.1
    have m0 := Int.mul_nonneg j0 hC.1
    have h3 : mulB (jI P O t) C = true := by
      simp only [mulB, Bool.and_eq_true, numB_iff]
      exact ⟨⟨⟨j0, by omega⟩, hC⟩, m0, by omega⟩
    have hmN : mulN (jI P O t) C = jI P O t * C := by unfold mulN; rw [if_pos (by simpa [mulB] using h3)]
    rw [if_pos h1, huN, hmN]
    refine ⟨⟨h1, h2⟩, h3, ?_⟩
    simp only [addB, Bool.and_eq_true, numB_iff]
    omega
theorem tmN_eq {x : Tm} {t : Int} (h : tmB x t = true) : tmN x t = jI x.per x.off t * x.cost + x.car := by
  obtain ⟨P, C, O, K⟩ := x
  simp only [tmB, workB, jobsB, jobsN, Bool.and_eq_true] at h
  obtain ⟨⟨h1, h2⟩, h3, h4⟩ := h
  simp only [tmN, workN, jobsB, jobsN]
  rw [if_pos h1] at h3 h4
  have hlN : lessN t O = if t < O then 0 else t - O := by unfold lessN; rw [if_pos (by simpa [lessB] using h1)]
  have huN : upN (lessN t O) P = jI P O t := by unfold upN jI; rw [if_pos (by simpa [upB] using h2), hlN]
  rw [huN] at h3 h4
  have hmN : mulN (jI P O t) C = jI P O t * C := by unfold mulN; rw [if_pos (by simpa [mulB] using h3)]
  rw [hmN] at h4
  rw [if_pos h1, huN, hmN, h1, h2, h3]
  simp only [Bool.and_self, if_true]
  unfold addN
  rw [if_pos (by simpa [addB] using h4)]
theorem tmB_down {x : Tm} {t u : Int} (h : tmB x u = true) (h0 : 0 ≤ t) (hu : t ≤ u) : tmB x t = true := by
  rw [tmB_iff] at h ⊢
  obtain ⟨h1, h2, h3, h4, h5⟩ := h
  have := Int.mul_le_mul_of_nonneg_right (jI_mono (O := x.off) h3.1 hu) h4.1
  exact ⟨by omega, h2, h3, h4, h5.1, by omega⟩
theorem tmN_mono {x : Tm} {t u : Int} (h : tmB x u = true) (h0 : 0 ≤ t) (hu : t ≤ u) : 0 ≤ tmN x t ∧ tmN x t ≤ tmN x u := by
  have hd := tmB_down h h0 hu
  rw [tmN_eq h, tmN_eq hd]
  rw [tmB_iff] at h
  obtain ⟨h1, h2, h3, h4, h5⟩ := h
  have := Int.mul_le_mul_of_nonneg_right (jI_mono (O := x.off) h3.1 hu) h4.1
  have := Int.mul_nonneg (jI_nonneg (O := x.off) (t := t) h3.1) h4.1
  omega
theorem tmN_round {x : Tm} {t r : Int} (h : tmB x (t + r) = true) (h0 : 0 ≤ t) (hr : 0 ≤ r) (hO : x.off ≤ t) (hd : x.per ∣ r) : tmN x (t + r) = tmN x t + r / x.per * x.cost := by
  have hd' := tmB_down h h0 (by omega)
  rw [tmN_eq h, tmN_eq hd']
  rw [tmB_iff] at h
  rw [jI_round h.2.2.1.1 hO hr hd, Int.add_mul]
  omega
/-- What all terms come to: is it a number, and which? -/
def okL (L : List Tm) (t : Int) : Bool := resB (runS 0 (L.map (wI t)))
def valL (L : List Tm) (t : Int) : Int := resN (runS 0 (L.map (wI t)))
def sumL (L : List Tm) (t : Int) : Int := (L.map fun x => tmN x t).sum
theorem wI_ge {x : Tm} {t : Int} : 0 ≤ wI t x ↔ tmB x t = true := by
  unfold wI
  split
  · rename_i h
    exact ⟨fun _ => h, fun _ => by have := tmN_mono h ((tmB_iff x t).1 h).1.1 (Int.le_refl _); omega⟩
  · rename_i h
    exact ⟨fun h1 => by omega, fun h1 => absurd h1 h⟩
theorem wI_eq {x : Tm} {t : Int} (h : tmB x t = true) : wI t x = tmN x t := by unfold wI; rw [if_pos h]
theorem okL_iff (L : List Tm) (t : Int) : okL L t = true ↔ (∀ x ∈ L, tmB x t = true) ∧ sumL L t ≤ 1099511627776 := by
  unfold okL resB
  rw [Option.isSome_iff_exists]
  constructor
  · rintro ⟨s, hs⟩
    obtain ⟨h1, h2, h3⟩ := (runS_iff (n := 0) (Int.le_refl _) (by omega)).1 hs
    have h4 : ∀ x ∈ L, tmB x t = true := fun x hx => wI_ge.1 (h1 _ (List.mem_map_of_mem hx))
    have h5 : L.map (wI t) = L.map fun x => tmN x t := List.map_congr_left fun x hx => wI_eq (h4 x hx)
    refine ⟨h4, ?_⟩
    unfold sumL
    rw [← h5]; omega
  · rintro ⟨h1, h2⟩
    have h5 : L.map (wI t) = L.map fun x => tmN x t := List.map_congr_left fun x hx => wI_eq (h1 x hx)
    refine ⟨0 + (L.map (wI t)).sum, (runS_iff (n := 0) (Int.le_refl _) (by omega)).2 ⟨fun y hy => ?_, rfl, ?_⟩⟩
    · obtain ⟨x, hx, rfl⟩ := List.mem_map.1 hy
      exact wI_ge.2 (h1 x hx)
    · rw [h5]; unfold sumL at h2; omega
theorem valL_eq {L : List Tm} {t : Int} (h : okL L t = true) : valL L t = sumL L t := by
  have h1 := ((okL_iff L t).1 h).1
  have h5 : L.map (wI t) = L.map fun x => tmN x t := List.map_congr_left fun x hx => wI_eq (h1 x hx)
  unfold okL resB at h
  rw [Option.isSome_iff_exists] at h
  obtain ⟨s, hs⟩ := h
  obtain ⟨-, h2, -⟩ := (runS_iff (n := 0) (Int.le_refl _) (by omega)).1 hs
  unfold valL resN sumL
  rw [hs, ← h5]
  simp only [Option.getD_some]; omega
theorem sumL_cons (x : Tm) (L : List Tm) (t : Int) : sumL (x :: L) t = tmN x t + sumL L t := by simp [sumL]
theorem sumL_mono {t u : Int} (h0 : 0 ≤ t) (hu : t ≤ u) : ∀ {L : List Tm}, (∀ x ∈ L, tmB x u = true) → 0 ≤ sumL L t ∧ sumL L t ≤ sumL L u
  | [], _ => by simp [sumL]
  | x :: r, h => by
    have h1 := tmN_mono (h x (List.mem_cons_self ..)) h0 hu
    have h2 := sumL_mono h0 hu (L := r) fun y hy => h y (List.mem_cons_of_mem _ hy)
    rw [sumL_cons, sumL_cons]; omega
theorem okL_down {L : List Tm} {t u : Int} (h : okL L u = true) (h0 : 0 ≤ t) (hu : t ≤ u) : okL L t = true ∧ 0 ≤ valL L t ∧ valL L t ≤ valL L u := by
  have h' := (okL_iff L u).1 h
  have hm := sumL_mono h0 hu h'.1
  have hk : okL L t = true := (okL_iff L t).2 ⟨fun x hx => tmB_down (h'.1 x hx) h0 hu, by omega⟩
  exact ⟨hk, by rw [valL_eq hk]; exact hm.1, by rw [valL_eq hk, valL_eq h]; exact hm.2⟩
def kL (L : List Tm) (r : Int) : Int := (L.map fun x => r / x.per * x.cost).sum
theorem sumL_round {t r : Int} (h0 : 0 ≤ t) (hr : 0 ≤ r) : ∀ {L : List Tm}, (∀ x ∈ L, tmB x (t + r) = true ∧ x.off ≤ t ∧ x.per ∣ r) → sumL L (t + r) = sumL L t + kL L r
  | [], _ => by simp [sumL, kL]
  | x :: l, h => by
    obtain ⟨a, b, c⟩ := h x (List.mem_cons_self ..)
    have h1 := tmN_round a h0 hr b c
    have h2 := sumL_round h0 hr (L := l) fun y hy => h y (List.mem_cons_of_mem _ hy)
    rw [sumL_cons, sumL_cons, h1, h2]
    simp only [kL, List.map_cons, List.sum_cons]
    omega
theorem valL_round {L : List Tm} {t r : Int} (h : okL L (t + r) = true) (h0 : 0 ≤ t) (hr : 0 ≤ r) (hL : ∀ x ∈ L, x.off ≤ t ∧ x.per ∣ r) : valL L (t + r) = valL L t + kL L r := by
  have hd := (okL_down h h0 (by omega)).1
  rw [valL_eq h, valL_eq hd]
  exact sumL_round h0 hr fun x hx => ⟨((okL_iff L _).1 h).1 x hx, hL x hx⟩
/-- The first work and all that comes, together. -/
def togB (own : Int) (L : List Tm) (t : Int) : Bool := okL L t && addB own (valL L t)
def togN (own : Int) (L : List Tm) (t : Int) : Int := if okL L t then addN own (valL L t) else 0
def FF (own : Int) (L : List Tm) (t : Int) : Option Int := if togB own L t then some (togN own L t) else none
theorem FF_some {own : Int} {L : List Tm} {t n : Int} : FF own L t = some n ↔ okL L t = true ∧ 0 ≤ own ∧ n = own + valL L t ∧ n ≤ 1099511627776 := by
  unfold FF togB togN
  by_cases h : okL L t = true
  · have ht := ((okL_iff L t).1 h).1
    have hv : 0 ≤ valL L t := by
      rw [valL_eq h]
      exact sum_nonneg fun y hy => by
        obtain ⟨x, hx, rfl⟩ := List.mem_map.1 hy
        have hb := ht x hx
        have := tmN_mono hb ((tmB_iff x t).1 hb).1.1 (Int.le_refl _)
        omega
    rw [h]
    simp only [Bool.true_and, if_true]
    by_cases ha : addB own (valL L t) = true
    · have hn : addN own (valL L t) = own + valL L t := by unfold addN; rw [if_pos (by simpa [addB] using ha)]
      rw [if_pos ha, hn]
      simp only [addB, Bool.and_eq_true, numB_iff] at ha
      simp only [Option.some.injEq, true_and]
      constructor
      · rintro rfl; omega
      · rintro ⟨_, h1, _⟩; exact h1.symm
    · rw [if_neg ha]
      constructor
      · intro h; cases h
      · rintro ⟨_, h1, h2, h3⟩
        exact absurd (by simp only [addB, Bool.and_eq_true, numB_iff]; omega) ha
  · simp only [Bool.not_eq_true] at h
    rw [h]
    simp
theorem FF_mono {own : Int} {L : List Tm} {t u n : Int} (h : FF own L u = some n) (h0 : 0 ≤ t) (hu : t ≤ u) : ∃ m, FF own L t = some m ∧ m ≤ n ∧ own ≤ m := by
  obtain ⟨h1, h2, h3, h4⟩ := FF_some.1 h
  obtain ⟨d1, d2, d3⟩ := okL_down h1 h0 hu
  exact ⟨own + valL L t, FF_some.2 ⟨d1, h2, rfl, by omega⟩, by omega, by omega⟩
/-- Behind h no time is enough, unless one up to it is. -/
def HZ (own : Int) (L : List Tm) (h : Int) : Prop := ∀ cur, h < cur → (∀ t, (if own < 1 then 1 else own) ≤ t → t < cur → ∀ n, FF own L t = some n → t < n) → ∀ t, h < t → ∀ n, FF own L t = some n → t < n
theorem horizon_good {own : Int} {L : List Tm} {from_ r : Int} (h0 : (if own < 1 then 1 else own) ≤ from_) (hr : 0 < r) (hL : ∀ x ∈ L, x.off ≤ from_ ∧ x.per ∣ r) (hk : okL L (from_ + r) = true) (hge : r ≤ valL L (from_ + r) - valL L from_) : HZ own L (from_ + r) := by
  have hf : 1 ≤ from_ := by split at h0 <;> omega
  have hK : r ≤ kL L r := by
    have := valL_round hk (by omega) (by omega) hL
    omega
  intro cur hc hno
  have key : ∀ (d : Nat) (t : Int), t < from_ + r + 1 + d → from_ + r < t → ∀ n, FF own L t = some n → t < n := by
    intro d
    induction d with
    | zero => intro t h1 h2; omega
    | succ d ih =>
      intro t h1 h2 n hn
      obtain ⟨k1, k2, k3, k4⟩ := FF_some.1 hn
      have hrd := valL_round (L := L) (t := t - r) (r := r) (by rw [Int.sub_add_cancel]; exact k1) (by omega) (by omega) (fun x hx => ⟨by have := (hL x hx).1; omega, (hL x hx).2⟩)
      rw [Int.sub_add_cancel] at hrd
      obtain ⟨m, hm, -, -⟩ := FF_mono hn (t := t - r) (by omega) (by omega)
      obtain ⟨-, -, m3, -⟩ := FF_some.1 hm
      have hlt : t - r < m := by
        by_cases hcc : t - r < cur
        · exact hno _ (by omega) hcc m hm
        · exact ih (t - r) (by omega) (by omega) m hm
      omega
  intro t ht
  exact key (t - (from_ + r)).toNat t (by omega) ht
/-- Looking at times till one is enough. -/
def lookF (F : Int → Option Int) (most : Int) : Nat → Int → Int → Option (Int × Int)
  | 0, _, _ => none
  | g + 1, w, m => if w ≤ most then (match F w with | none => none | some n => if n ≤ w then some (w, m) else lookF F most g n (m + 1)) else none
theorem lookF_past {F : Int → Option Int} {most h : Int} (hF : ∀ t, h < t → ∀ n, F t = some n → t < n) : ∀ (g : Nat) (w m : Int), h < w → lookF F most g w m = none
  | 0, _, _, _ => rfl
  | g + 1, w, m, hw => by
    unfold lookF
    split
    · cases hf : F w with
      | none => rfl
      | some n =>
        have := hF w hw n hf
        dsimp only
        rw [if_neg (by omega)]
        exact lookF_past hF g n (m + 1) (by omega)
    · rfl
theorem lookF_most {F : Int → Option Int} {most : Int} (g : Nat) {w m : Int} (hw : most < w) : lookF F most g w m = none := by
  cases g with
  | zero => rfl
  | succ g => unfold lookF; rw [if_neg (by omega)]
/-- More fuel turns nothing. -/
theorem lookF_fuel {F : Int → Option Int} {most : Int} : ∀ (g g' : Nat) (w m : Int), most < w + g → most < w + g' → lookF F most g w m = lookF F most g' w m
  | 0, g', w, m, h, _ => by rw [lookF_most g' (by omega)]; rfl
  | g + 1, 0, w, m, _, h => by rw [lookF_most (g + 1) (by omega)]; rfl
  | g + 1, g' + 1, w, m, h, h' => by
    unfold lookF
    split
    · cases hf : F w with
      | none => rfl
      | some n =>
        dsimp only
        split
        · rfl
        · exact lookF_fuel g g' n (m + 1) (by omega) (by omega)
    · rfl
/-- What looking finds is the least time that is enough. -/
theorem lookF_least {own : Int} {L : List Tm} {most : Int} : ∀ (g : Nat) (w m : Int), 0 ≤ w → most < w + g → (∀ t, w ≤ t → t ≤ most → ∃ n, FF own L t = some n) →
    (∀ a b, lookF (FF own L) most g w m = some (a, b) → w ≤ a ∧ a ≤ most ∧ (∃ n, FF own L a = some n ∧ n ≤ a) ∧ ∀ t, w ≤ t → t < a → ∀ n, FF own L t = some n → t < n) ∧
    (lookF (FF own L) most g w m = none → ∀ t, w ≤ t → t ≤ most → ∀ n, FF own L t = some n → t < n)
  | 0, w, m, h0, hg, hs => ⟨fun a b h => by simp [lookF] at h, fun _ t h1 h2 => by omega⟩
  | g + 1, w, m, h0, hg, hs => by
    by_cases hw : w ≤ most
    · obtain ⟨n, hn⟩ := hs w (Int.le_refl _) hw
      by_cases hnw : n ≤ w
      · have e : lookF (FF own L) most (g + 1) w m = some (w, m) := by unfold lookF; rw [if_pos hw, hn]; dsimp only; rw [if_pos hnw]
        rw [e]
        refine ⟨fun a b h => ?_, fun h => by cases h⟩
        obtain ⟨rfl, rfl⟩ : w = a ∧ m = b := by simpa using h
        exact ⟨Int.le_refl _, hw, ⟨n, hn, hnw⟩, fun t h1 h2 => by omega⟩
      · have e : lookF (FF own L) most (g + 1) w m = lookF (FF own L) most g n (m + 1) := by
          rw [show lookF (FF own L) most (g + 1) w m = (if w ≤ most then (match FF own L w with | none => none | some n => if n ≤ w then some (w, m) else lookF (FF own L) most g n (m + 1)) else none) from rfl, if_pos hw, hn]
          dsimp only; rw [if_neg hnw]
        have hgap : ∀ t, w ≤ t → t < n → ∀ k, FF own L t = some k → t < k := fun t h1 h2 k hk => by
          obtain ⟨j, hj, hjk, -⟩ := FF_mono hk h0 h1
          rw [hn] at hj
          obtain rfl : n = j := by simpa using hj
          omega
        obtain ⟨i1, i2⟩ := lookF_least (own := own) (L := L) (most := most) g n (m + 1) (by omega) (by omega) (fun t h1 h2 => hs t (by omega) h2)
        rw [e]
        refine ⟨fun a b h => ?_, fun h t h1 h2 k hk => ?_⟩
        · obtain ⟨a1, a2, a3, a4⟩ := i1 a b h
          refine ⟨by omega, a2, a3, fun t h1 h2 k hk => ?_⟩
          by_cases ht : t < n
          · exact hgap t h1 ht k hk
          · exact a4 t (by omega) h2 k hk
        · by_cases ht : t < n
          · exact hgap t h1 ht k hk
          · exact i2 h t (by omega) h2 k hk
    · have e := lookF_most (F := FF own L) (most := most) (g + 1) (w := w) (m := m) (by omega)
      rw [e]
      exact ⟨fun a b h => (by cases h), fun _ t h1 h2 => by omega⟩
end Go.Proofs.YtchmdnmifpjfkaaDoor
/- The contracts of check.Common, check.Multiple and fix.together. -/
namespace Go.Proofs.YtchmdnmifpjfkaaDoor
open Go.RowKit

def comN (a b : Int) : Int := if numB a && numB b then (Nat.gcd a.toNat b.toNat : Int) else 0
def comB (a b : Int) : Bool := numB a && numB b
theorem gcd_step (x y : Nat) : Nat.gcd y (x % y) = Nat.gcd x y := by
  rw [Nat.gcd_comm, ← Nat.gcd_rec, Nat.gcd_comm]
theorem common_any (a b : Int) (w : World) : Calls Tryd.prog 110 #[.int .i64 a, .int .i64 b] w fun e w' => e = .returned (.tuple #[.int .i64 (comN a b), .bool (comB a b)]) ∧ Below w.heap.size w w' := by
  unfold comN comB
  rcases numB_cases a with ⟨ha, ha1, ha2⟩ | ⟨ha, ha1⟩
  · rcases numB_cases b with ⟨hb, hb1, hb2⟩ | ⟨hb, hb1⟩
    · rw [ha, hb]
      obtain ⟨x, rfl⟩ := Int.eq_ofNat_of_zero_le ha1
      obtain ⟨y, rfl⟩ := Int.eq_ofNat_of_zero_le hb1
      go_enter Tryd.func110, Tryd.ntmps110
      go_wp2_with (go_at_call 108; refine (number_any _ _).mono ?_; rintro e w' ⟨rfl, rfl⟩)
      go_loopw [0, 1] (fun a b wr => ∃ p q : Nat, p ≤ 1099511627776 ∧ q ≤ 1099511627776 ∧ a = .int .i64 p ∧ b = .int .i64 q ∧ Nat.gcd p q = Nat.gcd x y ∧ Below w.heap.size w wr) (fun _ b _ => (intOf b).toNat)
      case atStart => exact ⟨x, y, by omega, by omega, rfl, rfl, rfl, Below.refl _ _⟩
      case round =>
        obtain ⟨p, q, hp, hq, rfl, rfl, hg, hn⟩ := hrel
        have HG := Lib.hid hg
        have HN := Lib.hid hn
        clear hg hn
        by_cases hlt : 0 < q
        · have h0 : (q : Int) ≠ 0 := by omega
          go_wp2
          go_quiet (fail)
          go_wp2
          go_roundw
          case rel => exact ⟨q, p % q, hq, by have := Nat.mod_le p q; omega, rfl, by go_num, (gcd_step p q).trans HG.out, below_dn HN.out _⟩
          case measure => simp [intOf]; have := Nat.mod_lt p hlt; omega
        · obtain rfl : q = 0 := by omega
          go_wp2
          go_ret2
          exact ⟨by have h := HG.out; simp at h; simp [h], HN.out⟩
    · rw [ha, hb]
      go_enter Tryd.func110, Tryd.ntmps110
      go_wp2_with (go_at_call 108; refine (number_any _ _).mono ?_; rintro e w' ⟨rfl, rfl⟩)
      go_ret2
      exact ⟨by simp, Below.refl _ _⟩
  · rw [ha]
    go_enter Tryd.func110, Tryd.ntmps110
    go_wp2_with (go_at_call 108; refine (number_any _ _).mono ?_; rintro e w' ⟨rfl, rfl⟩)
    go_ret2
    exact ⟨by simp, Below.refl _ _⟩
def mupB (a b : Int) : Bool := comB a b && !(a == 0) && !(b == 0) && mulB (a / comN a b) b
def mupN (a b : Int) : Int := if comB a b && !(a == 0) && !(b == 0) then mulN (a / comN a b) b else 0
theorem com_pos {a b : Int} (h : comB a b = true) (ha : a ≠ 0) : 1 ≤ comN a b ∧ comN a b ≤ a ∧ comN a b ≤ 1099511627776 := by
  unfold comB at h; unfold comN; rw [if_pos h]
  rcases numB_cases a with ⟨h1, h2, h3⟩ | ⟨h1, h2⟩
  · have hp : 0 < a.toNat := by omega
    have := Nat.gcd_pos_of_pos_left b.toNat hp
    have := Nat.gcd_le_left b.toNat hp
    omega
  · rw [h1] at h; cases h
theorem com_bds {a b : Int} (h : comB a b = true) : 0 ≤ a ∧ a ≤ 1099511627776 ∧ 0 ≤ b ∧ b ≤ 1099511627776 := by
  unfold comB at h
  rcases numB_cases a with ⟨h1, h2, h3⟩ | ⟨h1, h2⟩
  · rcases numB_cases b with ⟨h4, h5, h6⟩ | ⟨h4, h5⟩
    · exact ⟨h2, h3, h5, h6⟩
    · rw [h1, h4] at h; cases h
  · rw [h1] at h; cases h
theorem multiple_any (a b : Int) (w : World) : Calls Tryd.prog 104 #[.int .i64 a, .int .i64 b] w fun e w' => e = .returned (.tuple #[.int .i64 (mupN a b), .bool (mupB a b)]) ∧ Below w.heap.size w w' := by
  cases hc : comB a b
  · have e1 : mupN a b = 0 := by simp [mupN, hc]
    have e2 : mupB a b = false := by simp [mupB, hc]
    rw [e1, e2]
    clear e1 e2
    go_enter Tryd.func104, Tryd.ntmps104
    go_wp2_with (go_at_call 110; refine (common_any _ _ _).mono ?_; rintro e w' ⟨rfl, hd⟩)
    go_ret2
    exact ⟨rfl, hd⟩
  · by_cases ha : a = 0
    · subst ha
      have e1 : mupN 0 b = 0 := by simp [mupN]
      have e2 : mupB 0 b = false := by simp [mupB]
      rw [e1, e2]
      clear e1 e2
      go_enter Tryd.func104, Tryd.ntmps104
      go_wp2_with (go_at_call 110; refine (common_any _ _ _).mono ?_; rintro e w' ⟨rfl, hd⟩)
      go_ret2
      exact ⟨rfl, hd⟩
    · have ea : (a == 0) = false := by simp; omega
      by_cases hb : b = 0
      · subst hb
        have e1 : mupN a 0 = 0 := by simp [mupN]
        have e2 : mupB a 0 = false := by simp [mupB]
        rw [e1, e2]
        clear e1 e2
        go_enter Tryd.func104, Tryd.ntmps104
        go_wp2_with (go_at_call 110; refine (common_any _ _ _).mono ?_; rintro e w' ⟨rfl, hd⟩)
        go_ret2
        exact ⟨rfl, hd⟩
      · have eb : (b == 0) = false := by simp; omega
        obtain ⟨h1, h2, h3⟩ := com_pos hc ha
        obtain ⟨h4, h5, h6, h7⟩ := com_bds hc
        have e1 : mupN a b = mulN (a / comN a b) b := by simp [mupN, hc, ea, eb]
        have e2 : mupB a b = mulB (a / comN a b) b := by simp [mupB, hc, ea, eb]
        rw [e1, e2]
        clear e1 e2
        have hq := quo_bds h4 (by omega : 0 < comN a b)
        obtain ⟨q1, q2, -, -, -⟩ := hq
        go_enter Tryd.func104, Tryd.ntmps104
        go_wp2_with (first | (go_at_call 110; refine (common_any _ _ _).mono ?_; rintro e w' ⟨rfl, hd⟩) | (go_at_call 111; refine (mul_any _ _ _).mono ?_; rintro e w' ⟨rfl, rfl⟩))
        go_ret2
        exact ⟨rfl, hd⟩
theorem mup_no {a b : Int} (h : mupB a b = false) : mupN a b = 0 := by
  unfold mupB at h; unfold mupN
  split
  · rename_i hc
    rw [hc] at h
    simp only [Bool.true_and] at h
    unfold mulN mulB at *
    rw [h]; rfl
  · rfl
/-- A common multiple is one of both; 0: there is none. -/
theorem mup_good (a b : Int) : 0 ≤ mupN a b ∧ mupN a b ≤ 1099511627776 ∧ (mupN a b = 0 ∨ (a ∣ mupN a b ∧ b ∣ mupN a b)) := by
  cases h : mupB a b with
  | false => rw [mup_no h]; exact ⟨Int.le_refl _, by omega, .inl rfl⟩
  | true =>
    have h' := h
    simp only [mupB, Bool.and_eq_true, Bool.not_eq_true', beq_eq_false_iff_ne] at h
    obtain ⟨⟨⟨hc, ha⟩, hb⟩, hm⟩ := h
    have e1 : mupN a b = mulN (a / comN a b) b := by unfold mupN; rw [if_pos]; simp [hc, ha, hb]
    have e2 : mulN (a / comN a b) b = a / comN a b * b := by unfold mulN; rw [if_pos (by simpa [mulB] using hm)]
    simp only [mulB, Bool.and_eq_true, numB_iff] at hm
    rw [e1, e2]
    refine ⟨hm.2.1, hm.2.2, .inr ⟨?_, Int.dvd_mul_left _ _⟩⟩
    obtain ⟨p1, p2, p3⟩ := com_pos hc ha
    obtain ⟨h4, h5, h6, h7⟩ := com_bds hc
    have hg : comN a b = (Nat.gcd a.toNat b.toNat : Int) := by unfold comN; rw [if_pos (by simpa [comB] using hc)]
    have da : comN a b ∣ a := by
      rw [hg]
      have := Int.natCast_dvd_natCast.2 (Nat.gcd_dvd_left a.toNat b.toNat)
      rwa [Int.toNat_of_nonneg h4] at this
    have db : comN a b ∣ b := by
      rw [hg]
      have := Int.natCast_dvd_natCast.2 (Nat.gcd_dvd_right a.toNat b.toNat)
      rwa [Int.toNat_of_nonneg h6] at this
    obtain ⟨q, hq⟩ := db
    have : a / comN a b * b = a * q := by
      have e : a / comN a b * comN a b = a := Int.ediv_mul_cancel da
      calc a / comN a b * b = a / comN a b * (comN a b * q) := by rw [← hq]
        _ = a / comN a b * comN a b * q := by rw [Int.mul_assoc]
        _ = a * q := by rw [e]
    rw [this]
    exact Int.dvd_mul_right _ _
theorem tog_any {w : World} {V : Nat → Prop} {S : Src} {L : List Tm} (h : TermsAt w V S L) (hl : L.length ≤ 1000) (own n : Int) :
    Calls Tryd.prog 97 #[.int .i64 own, .int .i64 n, .slice S.sp L.length S.c] w fun e w' => e = .returned (.tuple #[.int .i64 (togN own L n), .bool (togB own L n)]) ∧ Below w.heap.size w w' := by
  have HW := Lib.hid (show Calls Tryd.prog 102 #[.int .i64 n, .slice S.sp L.length S.c] w fun e w' => e = .returned (.tuple #[.int .i64 (valL L n), .bool (okL L n)]) ∧ Below w.heap.size w w' from dwork_any h hl n)
  unfold togN togB
  clear h hl
  generalize valL L n = v at HW ⊢
  cases hk : okL L n with
  | false =>
    rw [hk] at HW
    clear hk
    go_enter Tryd.func97, Tryd.ntmps97
    go_wp2_with (go_at_call 102; refine HW.out.mono ?_; rintro e w3 ⟨rfl, b3⟩; have H3 := Lib.hid b3; clear b3)
    go_ret2
    exact ⟨rfl, H3.out⟩
  | true =>
    rw [hk] at HW
    clear hk
    go_enter Tryd.func97, Tryd.ntmps97
    go_wp2_with (first
      | (go_at_call 102; refine HW.out.mono ?_; rintro e w3 ⟨rfl, b3⟩; have H3 := Lib.hid b3; clear b3)
      | (go_at_call 103; refine (add_any _ _ _).mono ?_; rintro e w4 ⟨rfl, rfl⟩)
      | fail)
    go_ret2
    exact ⟨by simp, H3.out⟩
end Go.Proofs.YtchmdnmifpjfkaaDoor
/- max and min of two ints, as arms of a walk. -/
namespace Go.Proofs.YtchmdnmifpjfkaaDoor
open Go.RowKit

theorem max2_int (k : IntKind) (m n : Int) : Builtin.max2 (.int k m) (.int k n) = pure (.int k (max m n)) := by
  have : (if n > m then n else m) = max m n := by split <;> omega
  simp only [Builtin.max2, this]
theorem min2_int (k : IntKind) (m n : Int) : Builtin.min2 (.int k m) (.int k n) = pure (.int k (min m n)) := by
  have : (if n < m then n else m) = min m n := by split <;> omega
  simp only [Builtin.min2, this]
theorem wp_max {P : Program} {o : Oper} {a : Act} {w : World} {K : Act → World → Prop} {Q : Exit → Act → World → Prop} (x y : Operand) (ts : Array TypeId)
    (ho : o.op = .call { callee := .builtin .max, args := #[x, y], argTypes := ts }) (m n : Int) (hx : a.eval x = .int .i64 m) (hy : a.eval y = .int .i64 n)
    (h : K (a.put o.dst (.int .i64 (max m n))) w) : Oper.wp P o a w K Q := by
  unfold Oper.wp execOp
  simp only [ho, resolve, invoke, builtin, Builtin.max_, Sem.run_bind, Sem.run_pure, Result.andThen_ok, List.map_toArray, List.map_cons, List.map_nil, hx, hy, List.foldlM_cons, List.foldlM_nil, max2_int]
  exact h
theorem wp_min {P : Program} {o : Oper} {a : Act} {w : World} {K : Act → World → Prop} {Q : Exit → Act → World → Prop} (x y : Operand) (ts : Array TypeId)
    (ho : o.op = .call { callee := .builtin .min, args := #[x, y], argTypes := ts }) (m n : Int) (hx : a.eval x = .int .i64 m) (hy : a.eval y = .int .i64 n)
    (h : K (a.put o.dst (.int .i64 (min m n))) w) : Oper.wp P o a w K Q := by
  unfold Oper.wp execOp
  simp only [ho, resolve, invoke, builtin, Builtin.min_, Sem.run_bind, Sem.run_pure, Result.andThen_ok, List.map_toArray, List.map_cons, List.map_nil, hx, hy, List.foldlM_cons, List.foldlM_nil, min2_int]
  exact h
theorem wpList_max {P : Program} {ops : Array Oper} {rest : List Oper} {o : Oper} {a : Act} {w : World} {Q : Exit → Act → World → Prop} (hgd : o.guard = none) (x y : Operand) (ts : Array TypeId)
    (ho : o.op = .call { callee := .builtin .max, args := #[x, y], argTypes := ts }) (m n : Int) (hx : a.eval x = .int .i64 m) (hy : a.eval y = .int .i64 n)
    (h : wpList P ops Q rest (a.put o.dst (.int .i64 (max m n))) w) : wpList P ops Q (o :: rest) a w :=
  wpList_plain hgd fun _ hK => wp_max x y ts ho m n hx hy (hK _ _ h)
theorem wpList_min {P : Program} {ops : Array Oper} {rest : List Oper} {o : Oper} {a : Act} {w : World} {Q : Exit → Act → World → Prop} (hgd : o.guard = none) (x y : Operand) (ts : Array TypeId)
    (ho : o.op = .call { callee := .builtin .min, args := #[x, y], argTypes := ts }) (m n : Int) (hx : a.eval x = .int .i64 m) (hy : a.eval y = .int .i64 n)
    (h : wpList P ops Q rest (a.put o.dst (.int .i64 (min m n))) w) : wpList P ops Q (o :: rest) a w :=
  wpList_plain hgd fun _ hK => wp_min x y ts ho m n hx hy (hK _ _ h)
/-- For a walk's context: max and min stay folded. -/
theorem hmax (P : Program) : ∀ (w : World) (ts : Array TypeId) (t : TypeId) (m n : Int), (Builtin.max_ ts t #[.int .i64 m, .int .i64 n]).run P w = .ok (.int .i64 (max m n)) w := fun w ts t m n => by
  simp only [Builtin.max_, List.foldlM_cons, List.foldlM_nil, max2_int, Sem.run_bind, Sem.run_pure, Result.andThen_ok]
theorem hmin (P : Program) : ∀ (w : World) (ts : Array TypeId) (t : TypeId) (m n : Int), (Builtin.min_ ts t #[.int .i64 m, .int .i64 n]).run P w = .ok (.int .i64 (min m n)) w := fun w ts t m n => by
  simp only [Builtin.min_, List.foldlM_cons, List.foldlM_nil, min2_int, Sem.run_bind, Sem.run_pure, Result.andThen_ok]
end Go.Proofs.YtchmdnmifpjfkaaDoor
/- The contract of fix.horizon. -/
namespace Go.Proofs.YtchmdnmifpjfkaaDoor
open Go.RowKit

theorem alloc_then {n : Nat} {w w' : World} {o : Obj} (h : Below (w.alloc o).heap.size (w.alloc o) w') (hn : n ≤ w.heap.size) : Below n w w' :=
  ((Below.refl _ w).alloc hn o).trans (h.mono (by simp; omega))
theorem max_one (own : Int) : (if own < 1 then 1 else own) = max own 1 := by split <;> omega
/-- What the horizon's loop keeps: from is no less than any offset, round a common multiple of all periods, or 0. -/
structure HorI (own : Int) (L : List Tm) (k : Nat) (fr rd : Int) : Prop where
  f0 : (if own < 1 then 1 else own) ≤ fr
  f1 : fr ≤ 1099511627776
  off : ∀ j, j < k → (L.getD j default).off ≤ fr
  r0 : 0 ≤ rd
  r1 : rd ≤ 1099511627776
  dv : rd = 0 ∨ ∀ j, j < k → (L.getD j default).per ∣ rd
theorem HorI.start {own : Int} (L : List Tm) (h : own ≤ 1099511627776) : HorI own L 0 (max own 1) 1 :=
  ⟨by rw [max_one]; exact Int.le_refl _, by omega, fun j hj => by omega, by omega, by omega, .inr fun j hj => by omega⟩
theorem HorI.step {own : Int} {L : List Tm} {k : Nat} {fr rd : Int} (h : HorI own L k fr rd) (ho : (L.getD k default).off ≤ 1099511627776) : HorI own L (k + 1) (max fr (L.getD k default).off) (mupN rd (L.getD k default).per) := by
  obtain ⟨m0, m1, m2⟩ := mup_good rd (L.getD k default).per
  have f0 := h.f0
  have f1 := h.f1
  refine ⟨by omega, by omega, fun j hj => ?_, m0, m1, ?_⟩
  · by_cases e : j = k
    · subst e; omega
    · have := h.off j (by omega); omega
  · rcases m2 with e | ⟨d1, d2⟩
    · exact .inl e
    · by_cases e0 : mupN rd (L.getD k default).per = 0
      · exact .inl e0
      rcases h.dv with e | hd
      · exfalso; subst e; exact e0 (Int.zero_dvd.1 d1)
      · refine .inr fun j hj => ?_
        by_cases e : j = k
        · subst e; exact d2
        · exact Int.dvd_trans (hd j (by omega)) d1
theorem HorI.good {own : Int} {L : List Tm} {fr rd : Int} (h : HorI own L L.length fr rd) (hr : 0 < rd) (hk : okL L (fr + rd) = true) (hge : rd ≤ valL L (fr + rd) - valL L fr) : HZ own L (fr + rd) := by
  refine horizon_good h.f0 hr (fun x hx => ?_) hk hge
  obtain ⟨j, hj, rfl⟩ := List.mem_iff_getElem.1 hx
  have e : L.getD j default = L[j] := by simp [hj]
  have o := h.off j hj
  rw [e] at o
  rcases h.dv with h0 | hd
  · omega
  · have := hd j hj
    rw [e] at this
    exact ⟨o, this⟩
theorem val_range (L : List Tm) (t : Int) : 0 ≤ valL L t ∧ valL L t ≤ 1099511627776 := by
  cases h : okL L t with
  | true =>
    have h1 := ((okL_iff L t).1 h)
    rw [valL_eq h]
    refine ⟨sum_nonneg fun y hy => ?_, h1.2⟩
    obtain ⟨x, hx, rfl⟩ := List.mem_map.1 hy
    have hb := h1.1 x hx
    have := tmN_mono hb ((tmB_iff x t).1 hb).1.1 (Int.le_refl _)
    omega
  | false =>
    unfold okL resB at h
    unfold valL resN
    rw [Option.isSome_eq_false_iff, Option.isNone_iff_eq_none] at h
    rw [h]
    exact ⟨Int.le_refl _, by simp⟩
set_option maxHeartbeats 4000000 in
theorem horizon_any {w : World} {V : Nat → Prop} {S : Src} {L : List Tm} (h : TermsAt w V S L) (hl : L.length ≤ 1000) {own t0 : Int} (h0 : 0 ≤ own) (h1 : own ≤ 1099511627776) (hok : okL L t0 = true) :
    Calls Tryd.prog 98 #[.int .i64 own, .slice S.sp L.length S.c] w fun e w' => ∃ z : Int, e = .returned (.int .i64 z) ∧ (z = 1099511627776 ∨ HZ own L z) ∧ (1 ≤ z ∧ z ≤ 2199023255552) ∧ Below w.heap.size w w' := by
  have HW := Lib.hid (fun (wx : World) (hb : Below w.heap.size w wx) (n : Int) => (show Calls Tryd.prog 102 #[.int .i64 n, .slice S.sp L.length S.c] wx fun e w' => e = .returned (.tuple #[.int .i64 (valL L n), .bool (okL L n)]) ∧ Below wx.heap.size wx w' from dwork_any (h.new hb) hl n))
  have HCell := Lib.hid (fun (k : Nat) (hk : k < L.length) (wx : World) (hb : Below w.heap.size w wx) => (h.new hb).at_ k hk)
  have HSp := Lib.hid (fun (h0 : 0 < L.length) => (h.sl.at_ h0).1)
  have HOf := Lib.hid (show ∀ k, k < L.length → -9223372036854775808 ≤ (L.getD k default).off ∧ (L.getD k default).off ≤ 1099511627776 from fun k hk => by
    have e : L.getD k default = L[k] := by simp [hk]
    have := ((tmB_iff _ _).1 (((okL_iff L t0).1 hok).1 L[k] (List.getElem_mem hk))).2.1
    rw [e]; omega)
  have HSt := Lib.hid (HorI.start L h1)
  have HGo := Lib.hid (fun (fr rd : Int) (hi : HorI own L L.length fr rd) => @HorI.good own L fr rd hi)
  obtain ⟨sp, hspn⟩ : ∃ s, S.sp = s := ⟨_, rfl⟩
  obtain ⟨b, hb⟩ : ∃ s, S.b = s := ⟨_, rfl⟩
  obtain ⟨o, ho⟩ : ∃ s, S.o = s := ⟨_, rfl⟩
  obtain ⟨c, hc⟩ : ∃ s, S.c = s := ⟨_, rfl⟩
  obtain ⟨N, hN⟩ : ∃ s, L.length = s := ⟨_, rfl⟩
  rw [hspn, hc, hN] at HW
  rw [hb, ho, hN] at HCell
  rw [hspn, hb, ho, hN] at HSp
  rw [hN] at HOf HGo hl
  rw [hspn, hc, hN]
  clear h hok hspn hb ho hc hN
  have hmx := hmax Tryd.prog
  go_enter Tryd.func98, Tryd.ntmps98
  go_wp2
  go_loopg [5, 6, 17] N (fun g u v x wr => ∃ (k : Nat) (fr rd : Int), k + g = N ∧ u = .int .i64 fr ∧ v = .int .i64 rd ∧ x = .int .i64 (k : Nat) ∧ Aside (HorI own L k fr rd ∧ Below w.heap.size w wr))
  case atStart => exact ⟨0, max own 1, 1, by omega, rfl, rfl, rfl, HSt.out, Below.refl _ _⟩
  case round =>
    obtain ⟨k, fr, rd, hkg, rfl, rfl, rfl, HR⟩ := hrel
    cases gk with
    | zero =>
      obtain rfl : k = N := by omega
      have f0 : 1 ≤ fr := by have := HR.out.1.f0; split at this <;> omega
      have f1 := HR.out.1.f1
      have r0 := HR.out.1.r0
      have r1 := HR.out.1.r1
      have hwr : IntKind.i64.wrap (fr + rd) = fr + rd := by rw [IntKind.wrap_i64]; omega
      have W1 := Lib.hid (fun (wx : World) hb => HW.out wx hb fr)
      have W2 := Lib.hid (fun (wx : World) hb => HW.out wx hb (fr + rd))
      have v1 := val_range L fr
      have v2 := val_range L (fr + rd)
      have HG := Lib.hid (HGo.out fr rd HR.out.1)
      clear HW HCell HSp HOf HSt HGo
      obtain ⟨x, hx⟩ : ∃ q, valL L fr = q := ⟨_, rfl⟩
      obtain ⟨y, hy⟩ : ∃ q, valL L (fr + rd) = q := ⟨_, rfl⟩
      obtain ⟨p, hp⟩ : ∃ q, okL L fr = q := ⟨_, rfl⟩
      rw [hx] at W1 v1 HG
      rw [hy] at W2 v2 HG
      rw [hp] at W1
      have hs3 : 1 ≤ fr + rd ∧ fr + rd ≤ 2199023255552 := by omega
      have hws : IntKind.i64.wrap (y - x) = y - x := by rw [IntKind.wrap_i64]; omega
      clear hx hy hp
      cases hk : okL L (fr + rd) with
      | false =>
        rw [hk] at W2
        clear hk HG
        go_wp2_with (first
          | (go_at_call 102; refine (W1.out _ HR.out.2).mono ?_; rintro e w3 ⟨rfl, b3⟩; have H3 := Lib.hid (HR.out.2.trans (b3.mono HR.out.2.size)); clear b3 W1)
          | (go_at_call 102; refine (W2.out _ H3.out).mono ?_; rintro e w4 ⟨rfl, b4⟩; have H4 := Lib.hid (H3.out.trans (b4.mono H3.out.size)); clear b4)
          | fail)
        go_ret
        exact ⟨_, rfl, .inl rfl, ⟨by omega, by omega⟩, H4.out⟩
      | true =>
        rw [hk] at W2
        have HG2 := Lib.hid (fun h0 h1 => HG.out h0 hk h1)
        clear hk HG
        by_cases c0 : 0 < rd
        · by_cases c1 : rd ≤ y - x
          · have HZ2 := Lib.hid (HG2.out c0 c1)
            go_wp2_with (first
              | (go_at_call 102; refine (W1.out _ HR.out.2).mono ?_; rintro e w3 ⟨rfl, b3⟩; have H3 := Lib.hid (HR.out.2.trans (b3.mono HR.out.2.size)); clear b3 W1)
              | (go_at_call 102; refine (W2.out _ H3.out).mono ?_; rintro e w4 ⟨rfl, b4⟩; have H4 := Lib.hid (H3.out.trans (b4.mono H3.out.size)); clear b4)
              | fail)
            go_ret
            exact ⟨_, rfl, .inr HZ2.out, hs3, H4.out⟩
          · go_wp2_with (first
              | (go_at_call 102; refine (W1.out _ HR.out.2).mono ?_; rintro e w3 ⟨rfl, b3⟩; have H3 := Lib.hid (HR.out.2.trans (b3.mono HR.out.2.size)); clear b3 W1)
              | (go_at_call 102; refine (W2.out _ H3.out).mono ?_; rintro e w4 ⟨rfl, b4⟩; have H4 := Lib.hid (H3.out.trans (b4.mono H3.out.size)); clear b4)
              | fail)
            go_ret
            exact ⟨_, rfl, .inl rfl, ⟨by omega, by omega⟩, H4.out⟩
        · go_wp2_with (first
            | (go_at_call 102; refine (W1.out _ HR.out.2).mono ?_; rintro e w3 ⟨rfl, b3⟩; have H3 := Lib.hid (HR.out.2.trans (b3.mono HR.out.2.size)); clear b3 W1)
            | (go_at_call 102; refine (W2.out _ H3.out).mono ?_; rintro e w4 ⟨rfl, b4⟩; have H4 := Lib.hid (H3.out.trans (b4.mono H3.out.size)); clear b4)
            | fail)
          go_ret
          exact ⟨_, rfl, .inl rfl, ⟨by omega, by omega⟩, H4.out⟩
    | succ g1 =>
      have hk : k < N := by omega
      obtain rfl := HSp.out (by omega)
      have hc := HCell.out k hk wr HR.out.2
      have ho := HOf.out k hk
      have HX := Lib.hid (HR.out.1.step ho.2)
      obtain ⟨t, ht⟩ : ∃ t, L.getD k default = t := ⟨_, rfl⟩
      rw [ht] at hc ho HX
      obtain ⟨P, C, O, K⟩ := t
      have c0 : wr.cell? ⟨b, o + k * 4, none⟩ = some (.int .i64 P) := hc 0 _ rfl
      have c1 : wr.cell? ⟨b, o + k * 4 + 1, none⟩ = some (.int .i64 C) := hc 1 _ rfl
      have c2 : wr.cell? ⟨b, o + k * 4 + 2, none⟩ = some (.int .i64 O) := hc 2 _ rfl
      have c3 : wr.cell? ⟨b, o + k * 4 + 3, none⟩ = some (.int .i64 K) := hc 3 _ rfl
      dsimp only at HX ho
      have hk2 : (k : Int) < (N : Int) := by omega
      have hk3 : (k : Int) + 1 ≤ 9223372036854775807 := by omega
      clear hc ht HCell HSp HOf HSt HGo HW
      go_wp2_with (first
        | (go_at_call 104; refine (multiple_any _ _ _).mono ?_; rintro e w4 ⟨rfl, b4⟩; have H4 := Lib.hid (HR.out.2.trans (alloc_then b4 HR.out.2.size)); clear b4)
        | fail)
      go_roundg g1
      case measure => omega
      case rel => exact ⟨k + 1, _, _, by omega, rfl, rfl, by go_num, HX.out, H4.out⟩
end Go.Proofs.YtchmdnmifpjfkaaDoor
/- The contract of the law's Plain; the walks of DemandWorks and DemandComes. -/
namespace Go.Proofs.YtchmdnmifpjfkaaDoor
open Go.RowKit

def tmRow (L : List Tm) : List Value := (L.map tmC).flatten
theorem tmRow_at (L : List Tm) (k j : Nat) (hk : k < L.length) (hj : j < 4) : (tmRow L)[k * 4 + j]? = (tmC (L.getD k default))[j]? := by
  unfold tmRow
  rw [flat_at 4 _ (by intro r hr; obtain ⟨t, -, rfl⟩ := List.mem_map.1 hr; rfl) k j (by simpa using hk) hj]
  simp [hk]
theorem tmRow_snoc (L : List Tm) (t : Tm) : tmRow (L ++ [t]) = tmRow L ++ tmC t := by simp [tmRow]
/-- An owned row of terms, as a slice. -/
theorem own_terms {w : World} {base : Nat} {v : Value} {L : List Tm} {e : TypeId} (h : w.ownsRow base e 4 v L.length (tmRow L)) (hn : L.length ≤ 1000) :
    ∃ S : Src, v = .slice S.sp L.length S.c ∧ TermsAt w (fun j => j < base) S L := by
  rcases h.2 with ⟨rfl, h0⟩ | ⟨g, cap, cur, rfl, _⟩
  · exact ⟨⟨none, 0, 0, 0⟩, by rw [h0], ⟨⟨fun h1 => by omega, by omega⟩, fun k hk => by omega⟩⟩
  · have hl := h.lt g rfl
    refine ⟨⟨some ⟨g, 0, none⟩, g, 0, cap⟩, rfl, ⟨fun _ => ⟨rfl, hl.2, Nat.not_lt.2 hl.1⟩, by omega⟩, fun k hk j u hu => ?_⟩
    have hj : j < 4 := by have := (List.getElem?_eq_some_iff.1 hu).1; simpa [tmC] using this
    have hr := tmRow_at L k j hk hj
    rw [hu] at hr
    have hlen : (tmRow L).length = L.length * 4 := h.1
    have := h.cellAt (k * 4 + j) (by omega)
    rw [Nat.zero_add]
    exact this.trans hr
end Go.Proofs.YtchmdnmifpjfkaaDoor
/- The contracts of fix.look, Least, Steps, Done, of the law's step and alive. -/
namespace Go.Proofs.YtchmdnmifpjfkaaDoor
open Go.RowKit

/-- From where one looks. -/
def w0 (own : Int) : Int := max own 1
/-- What looking finds. -/
def lookR (own most : Int) (L : List Tm) : Option (Int × Int) := if own < 0 then none else lookF (FF own L) most (most + 1).toNat (w0 own) 1
def tT (o : Option (Int × Int)) : Int := match o with | some (a, _) => a | none => 0
def tM (o : Option (Int × Int)) : Int := match o with | some (_, b) => b | none => 0
def tB (o : Option (Int × Int)) : Bool := o.isSome
/-- What is kept while one looks. -/
structure LookI (own most : Int) (L : List Tm) (g : Nat) (w m mo : Int) : Prop where
  r : lookF (FF own L) most g w m = lookR own most L
  lw : 1 ≤ w
  m1 : 1 ≤ m
  mw : m ≤ w
  lg : most < w + g
  lm : mo = most ∨ (mo ≤ most ∧ HZ own L mo)
  no : ∀ t, (if own < 1 then 1 else own) ≤ t → t < w → ∀ n, FF own L t = some n → t < n
  lo : (if own < 1 then 1 else own) ≤ w
theorem LookI.start {own most : Int} (L : List Tm) (h : 0 ≤ own) : LookI own most L (most + 1).toNat (max own 1) 1 most :=
  ⟨by unfold lookR w0; rw [if_neg (by omega)], by omega, by omega, by omega, by omega, .inl rfl, fun t h1 h2 => by rw [max_one] at h1; omega, by rw [max_one]; exact Int.le_refl _⟩
/-- Above the bound nothing is found. -/
theorem LookI.over {own most : Int} {L : List Tm} {g : Nat} {w m mo : Int} (h : LookI own most L g w m mo) (hw : mo < w) : lookR own most L = none := by
  rw [← h.r]
  rcases h.lm with e | ⟨-, hz⟩
  · exact lookF_most g (by omega)
  · exact lookF_past (hz w hw h.no) g w m hw
theorem LookI.ff {own most : Int} {L : List Tm} {g : Nat} {w m mo : Int} (h : LookI own most L g w m mo) (hw : w ≤ mo) : ∃ g1, g = g1 + 1 ∧
    lookR own most L = (match FF own L w with | none => none | some n => if n ≤ w then some (w, m) else lookF (FF own L) most g1 n (m + 1)) := by
  have hm : w ≤ most := by rcases h.lm with e | ⟨e, -⟩ <;> omega
  have hg := h.lg
  cases g with
  | zero => omega
  | succ g1 => exact ⟨g1, rfl, by rw [← h.r, lookF, if_pos hm]; all_goals (cases FF own L w <;> rfl)⟩
theorem LookI.no_ {own most : Int} {L : List Tm} {g : Nat} {w m mo : Int} (h : LookI own most L g w m mo) (hw : w ≤ mo) (hb : togB own L w = false) : lookR own most L = none := by
  obtain ⟨g1, -, e⟩ := h.ff hw
  have : FF own L w = none := by unfold FF; rw [hb]; rfl
  rw [e, this]
theorem LookI.found {own most : Int} {L : List Tm} {g : Nat} {w m mo : Int} (h : LookI own most L g w m mo) (hw : w ≤ mo) (hb : togB own L w = true) (hn : togN own L w ≤ w) : lookR own most L = some (w, m) := by
  obtain ⟨g1, -, e⟩ := h.ff hw
  have : FF own L w = some (togN own L w) := by unfold FF; rw [hb]; rfl
  rw [e, this]
  exact if_pos hn
theorem LookI.next {own most : Int} {L : List Tm} {g : Nat} {w m mo mo' : Int} (h : LookI own most L g w m mo) (hw : w ≤ mo) (hb : togB own L w = true) (hn : ¬ togN own L w ≤ w) (hmo : mo' = mo ∨ mo' = most ∨ (mo' ≤ most ∧ HZ own L mo')) : ∃ g1, g = g1 + 1 ∧ LookI own most L g1 (togN own L w) (m + 1) mo' := by
  obtain ⟨g1, rfl, e⟩ := h.ff hw
  have hf : FF own L w = some (togN own L w) := by unfold FF; rw [hb]; rfl
  have h1 := h.lw; have h2 := h.m1; have h3 := h.mw; have h4 := h.lg; have h5 := h.lo
  refine ⟨g1, rfl, ⟨?_, by omega, by omega, by omega, by omega, ?_, fun t a b n hn2 => ?_, by omega⟩⟩
  · rw [e, hf]; exact (if_neg hn).symm
  · rcases hmo with rfl | rfl | hz
    · exact h.lm
    · exact .inl rfl
    · exact .inr hz
  · by_cases ht : t < w
    · exact h.no t a ht n hn2
    · obtain ⟨k, hk, hkn, -⟩ := FF_mono hn2 (by omega) (show w ≤ t by omega)
      rw [hf] at hk
      have : togN own L w = k := by simpa using hk
      omega
set_option maxHeartbeats 4000000 in
theorem look_any {w : World} {V : Nat → Prop} {S : Src} {L : List Tm} (h : TermsAt w V S L) (hl : L.length ≤ 1000) (own most : Int) (hm : most ≤ 100000) :
    Calls Tryd.prog 92 #[.int .i64 own, .int .i64 most, .slice S.sp L.length S.c] w fun e w' => e = .returned (.tuple #[.int .i64 (tT (lookR own most L)), .int .i64 (tM (lookR own most L)), .bool (tB (lookR own most L))]) ∧ Below w.heap.size w w' := by
  have hmx := hmax Tryd.prog
  have hmn := hmin Tryd.prog
  have HTog := Lib.hid (fun (wx : World) (hb : Below w.heap.size w wx) (n : Int) => tog_any (h.new hb) hl own n)
  have HHor := Lib.hid (fun (wx : World) (hb : Below w.heap.size w wx) (t0 : Int) (h0 : 0 ≤ own) (h1 : own ≤ 1099511627776) (hok : okL L t0 = true) => horizon_any (h.new hb) hl h0 h1 hok)
  have HSt := Lib.hid (fun (h0 : 0 ≤ own) => LookI.start (own := own) (most := most) L h0)
  have HNeg := Lib.hid (show own < 0 → lookR own most L = none ∧ ∀ n, togB own L n = false from fun h => ⟨by unfold lookR; rw [if_pos h], fun n => by
    unfold togB addB
    rw [show numB own = false from numB_f (by omega)]; simp⟩)
  obtain ⟨sp, hspn⟩ : ∃ s, S.sp = s := ⟨_, rfl⟩
  obtain ⟨c, hc⟩ : ∃ s, S.c = s := ⟨_, rfl⟩
  obtain ⟨N, hN⟩ : ∃ s, L.length = s := ⟨_, rfl⟩
  rw [hspn, hc, hN] at HTog HHor
  rw [hspn, hc, hN]
  clear h hspn hc hN hl
  by_cases hneg : own < 0
  · obtain ⟨hr, hno⟩ := HNeg.out hneg
    rw [hr]
    have HT := Lib.hid (show ∀ (wx : World), Below w.heap.size w wx → ∀ n, Calls Tryd.prog 97 #[.int .i64 own, .int .i64 n, .slice sp N c] wx fun e w' => (∃ v, e = .returned (.tuple #[.int .i64 v, .bool false])) ∧ Below wx.heap.size wx w' from fun wx hb n => by
      have := HTog.out wx hb n
      rw [hno n] at this
      exact this.mono fun e w' ⟨h1, h2⟩ => ⟨⟨_, h1⟩, h2⟩)
    have hx1 : max own 1 = 1 := by omega
    clear HTog HHor HSt HNeg hr hno
    by_cases h1m : 1 ≤ most
    · go_enter Tryd.func92, Tryd.ntmps92
      go_wp2
      go_loopg [1, 6, 7] 1 (fun g x1 x6 x7 wr => g = 1 ∧ x1 = .int .i64 most ∧ x6 = .int .i64 1 ∧ x7 = .int .i64 1 ∧ w = wr)
      case atStart => exact ⟨rfl, rfl, rfl, rfl, rfl⟩
      case round =>
        obtain ⟨rfl, rfl, rfl, rfl, rfl⟩ := hrel
        go_wp2_with (go_at_call 97; refine (HT.out _ (Below.refl _ _) _).mono ?_; rintro e w3 ⟨⟨v, rfl⟩, b3⟩; have H3 := Lib.hid b3; clear b3)
        go_ret3
        exact ⟨rfl, H3.out⟩
    · go_enter Tryd.func92, Tryd.ntmps92
      go_wp2
      go_loopg [1, 6, 7] 1 (fun g x1 x6 x7 wr => g = 1 ∧ x1 = .int .i64 most ∧ x6 = .int .i64 1 ∧ x7 = .int .i64 1 ∧ w = wr)
      case atStart => exact ⟨rfl, rfl, rfl, rfl, rfl⟩
      case round =>
        obtain ⟨rfl, rfl, rfl, rfl, rfl⟩ := hrel
        go_wp2
        go_ret3
        exact ⟨rfl, Below.refl _ _⟩
  · have h0 : 0 ≤ own := by omega
    have HSt2 := Lib.hid (HSt.out h0)
    clear HSt HNeg hneg
    go_enter Tryd.func92, Tryd.ntmps92
    go_wp2
    go_loopg [1, 6, 7] ((most + 1).toNat + 1) (fun g x1 x6 x7 wr => ∃ (g0 : Nat) (t m mo : Int), g = g0 + 1 ∧ x1 = .int .i64 mo ∧ x6 = .int .i64 t ∧ x7 = .int .i64 m ∧ Aside (LookI own most L g0 t m mo ∧ Below w.heap.size w wr))
    case atStart => exact ⟨_, _, _, _, rfl, rfl, rfl, rfl, HSt2.out, Below.refl _ _⟩
    case round =>
      obtain ⟨g0, t, m, mo, rfl, rfl, rfl, rfl, HR⟩ := hrel
      have t1 := HR.out.1.lw
      have m1 := HR.out.1.m1
      have m2 := HR.out.1.mw
      have mo1 : mo ≤ most := by rcases HR.out.1.lm with e | ⟨e, -⟩ <;> omega
      by_cases hw : t ≤ mo
      · have HT := Lib.hid (fun (wx : World) hb => HTog.out wx hb t)
        cases hb : togB own L t with
        | false =>
          have hr := HR.out.1.no_ hw hb
          rw [hb] at HT
          have HRr := Lib.hid hr
          clear hb hr HTog HHor HSt2
          go_wp2_with (go_at_call 97; refine (HT.out _ HR.out.2).mono ?_; rintro e w3 ⟨rfl, b3⟩; have H3 := Lib.hid (HR.out.2.trans (b3.mono HR.out.2.size)); clear b3 HT)
          go_ret3
          exact ⟨by rw [HRr.out]; rfl, H3.out⟩
        | true =>
          rw [hb] at HT
          by_cases hn : togN own L t ≤ t
          · have hr := HR.out.1.found hw hb hn
            have HRr := Lib.hid hr
            obtain ⟨z, hz⟩ : ∃ z, togN own L t = z := ⟨_, rfl⟩
            rw [hz] at HT hn
            clear hz hb hr HTog HHor HSt2
            go_wp2_with (go_at_call 97; refine (HT.out _ HR.out.2).mono ?_; rintro e w3 ⟨rfl, b3⟩; have H3 := Lib.hid (HR.out.2.trans (b3.mono HR.out.2.size)); clear b3 HT)
            go_ret3
            exact ⟨by rw [HRr.out]; rfl, H3.out⟩
          · have HNx := Lib.hid (fun mo' hmo => HR.out.1.next (mo' := mo') hw hb hn hmo)
            have hff : FF own L t = some (togN own L t) := by unfold FF; rw [hb]; rfl
            obtain ⟨k1, -, k3, k4⟩ := FF_some.1 hff
            have kv := val_range L t
            have HH := Lib.hid (fun (wx : World) hb2 => HHor.out wx hb2 t h0 (by omega) k1)
            obtain ⟨z, hz⟩ : ∃ z, togN own L t = z := ⟨_, rfl⟩
            rw [hz] at HT hn HNx k3 k4
            clear hz hb hff k1 k3 kv HTog HHor HSt2
            by_cases hp : m = 4096
            · subst hp
              go_wp2_with (first
                | (go_at_call 97; refine (HT.out _ HR.out.2).mono ?_; rintro e w3 ⟨rfl, b3⟩; have H3 := Lib.hid (HR.out.2.trans (b3.mono HR.out.2.size)); clear b3 HT)
                | (go_at_call 98; refine (HH.out _ H3.out).mono ?_; rintro e w4 ⟨y, rfl, hy, hy2, b4⟩; have H4 := Lib.hid (H3.out.trans (b4.mono H3.out.size)); have HY := Lib.hid hy; clear b4 HH hy)
                | fail)
              obtain ⟨g1, hg1, hI⟩ := HNx.out (min mo y) (by
                rcases HY.out with e | e
                · exact .inl (by omega)
                · by_cases hc : mo ≤ y
                  · exact .inl (by omega)
                  · exact .inr (.inr ⟨by omega, by rw [show min mo y = y by omega]; exact e⟩))
              subst hg1
              go_roundg (g1 + 1)
              case measure => omega
              case rel => exact ⟨g1, z, 4097, _, rfl, rfl, rfl, rfl, hI, H4.out⟩
            · obtain ⟨g1, hg1, hI⟩ := HNx.out mo (.inl rfl)
              subst hg1
              have HI := Lib.hid hI
              clear hI HNx HH
              go_wp2_with (go_at_call 97; refine (HT.out _ HR.out.2).mono ?_; rintro e w3 ⟨rfl, b3⟩; have H3 := Lib.hid (HR.out.2.trans (b3.mono HR.out.2.size)); clear b3 HT)
              go_roundg (g1 + 1)
              case measure => omega
              case rel => exact ⟨g1, z, m + 1, mo, rfl, rfl, rfl, rfl, HI.out, H3.out⟩
      · have hr := HR.out.1.over (by omega)
        have HRr := Lib.hid hr
        clear hr HTog HHor HSt2
        go_wp2
        go_ret3
        exact ⟨by rw [HRr.out]; rfl, HR.out.2⟩
/-- The least time, how many looks; is it enough? -/
theorem least_any {w : World} {V : Nat → Prop} {S : Src} {L : List Tm} (h : TermsAt w V S L) (hl : L.length ≤ 1000) (own most : Int) (hm : most ≤ 100000) :
    Calls Tryd.prog 64 #[.int .i64 own, .int .i64 most, .slice S.sp L.length S.c] w fun e w' => e = .returned (.tuple #[.int .i64 (tT (lookR own most L)), .bool (tB (lookR own most L))]) ∧ Below w.heap.size w w' := by
  have HL := Lib.hid (look_any h hl own most hm)
  clear h hl hm
  generalize lookR own most L = o at HL ⊢
  go_enter Tryd.func64, Tryd.ntmps64
  go_wp2_with (go_at_call 92; refine HL.out.mono ?_; rintro e w3 ⟨rfl, b3⟩; have H3 := Lib.hid b3; clear b3)
  go_ret2
  exact ⟨rfl, H3.out⟩
def doneB (own n : Int) (L : List Tm) : Bool := togB own L n && decide (togN own L n ≤ n)
end Go.Proofs.YtchmdnmifpjfkaaDoor
/- law17's alive, and the walk of FixFinds. -/
namespace Go.Proofs.YtchmdnmifpjfkaaDoor
open Go.RowKit

def termX : Array Value := #[.int .i64 5, .int .i64 2, .int .i64 0, .int .i64 0]
theorem one_terms {w : World} {B : Nat} (h : RowAt w B 118 termX) : TermsAt w (fun _ => False) ⟨some ⟨B, 0, none⟩, B, 0, 1⟩ [⟨5, 2, 0, 0⟩] := by
  refine ⟨⟨fun _ => ⟨rfl, h.lt, fun h => h⟩, by simp⟩, fun k hk j u hu => ?_⟩
  obtain rfl : k = 0 := by have : k < 1 := hk; omega
  have := h.cell j
  simp only [Nat.zero_mul, Nat.zero_add]
  refine this.trans ?_
  rcases j with _ | _ | _ | _ | j
  · exact hu
  · exact hu
  · exact hu
  · exact hu
  · simp [tmC] at hu
theorem look_x : lookR 2 100 [⟨5, 2, 0, 0⟩] = some (4, 2) := by kernel_rfl
theorem done_x : doneB 2 4 [⟨5, 2, 0, 0⟩] = true ∧ doneB 2 3 [⟨5, 2, 0, 0⟩] = false := ⟨by kernel_rfl, by kernel_rfl⟩
theorem least_x {w : World} {B : Nat} (h : RowAt w B 118 termX) : Calls Tryd.prog 64 #[.int .i64 2, .int .i64 100, .slice (some ⟨B, 0, none⟩) 1 1] w fun e w' => e = .returned (.tuple #[.int .i64 4, .bool true]) ∧ Below w.heap.size w w' := by
  have := least_any (one_terms h) (by simp) 2 100 (by omega)
  rw [look_x] at this
  exact this
theorem alloc_call {w wx w' : World} {c : Array Value} {t : TypeId} {n : Nat} (hb : Below n w wx) (hn : n ≤ w.heap.size) (h : Below (wx.alloc (.cells c t)).heap.size (wx.alloc (.cells c t)) w') : Below n w w' :=
  (hb.alloc (Nat.le_trans hn hb.size) _).trans (h.mono (by have := hb.size; simp; omega))
end Go.Proofs.YtchmdnmifpjfkaaDoor
