/- Work of terms and the least time that is enough: plain facts. No statement about the program. -/
import Derived.Test.YtmaackdfhmpicaaXD
namespace Go.Proofs.Ytmaackdfhmpicaa
open Go.RowKit

theorem numB_iff (a : Int) : numB a = true ↔ 0 ≤ a ∧ a ≤ 1099511627776 := by simp [numB]
theorem sum_nonneg : ∀ {l : List Int}, (∀ x ∈ l, 0 ≤ x) → 0 ≤ l.sum
  | [], _ => Int.le_refl _
  | x :: r, h => by
    have h1 := h x (List.mem_cons_self ..)
    have h2 := sum_nonneg (l := r) fun y hy => h y (List.mem_cons_of_mem _ hy)
    simp only [List.sum_cons]; omega
theorem runS_iff {s : Int} : ∀ {l : List Int} {n : Int}, 0 ≤ n → n ≤ 1099511627776 → (runS n l = some s ↔ (∀ x ∈ l, 0 ≤ x) ∧ s = n + l.sum ∧ s ≤ 1099511627776)
  | [], n, h0, h1 => by
    simp only [runS, Option.some.injEq, List.sum_nil, List.not_mem_nil, false_implies, implies_true, true_and]
    constructor
    · rintro rfl; exact ⟨by omega, h1⟩
    · rintro ⟨h, _⟩; omega
  | x :: r, n, h0, h1 => by
    simp only [runS]
    by_cases hb : addB n x = true
    · rw [if_pos hb]
      have hb' := hb
      simp only [addB, Bool.and_eq_true, numB_iff] at hb'
      obtain ⟨⟨-, hx⟩, hs⟩ := hb'
      have hv : addN n x = n + x := by unfold addN; rw [if_pos (by simpa [addB] using hb)]
      rw [hv, runS_iff (l := r) hs.1 hs.2]
      simp only [List.mem_cons, forall_eq_or_imp, List.sum_cons]
      constructor
      · rintro ⟨a, b, c⟩; exact ⟨⟨hx.1, a⟩, by omega, c⟩
      · rintro ⟨⟨_, a⟩, b, c⟩; exact ⟨a, by omega, c⟩
    · rw [if_neg hb]
      constructor
      · intro h; cases h
      · rintro ⟨a, b, c⟩
        exfalso
        apply hb
        have hx := a x (List.mem_cons_self ..)
        have hr := sum_nonneg (l := r) fun y hy => a y (List.mem_cons_of_mem _ hy)
        simp only [List.sum_cons] at b
        simp only [addB, Bool.and_eq_true, numB_iff]
        omega
/-- How many jobs of a term come. -/
def jI (P O t : Int) : Int := ((if t < O then 0 else t - O) + P - 1) / P
theorem jI_nonneg {P O t : Int} (hP : 0 < P) : 0 ≤ jI P O t := Int.ediv_nonneg (by split <;> omega) (by omega)
theorem jI_le {P O t : Int} (hP : 0 < P) (hO : 0 ≤ O) (ht : 0 ≤ t) : jI P O t ≤ t := by
  unfold jI
  have hz : (if t < O then (0 : Int) else t - O) ≤ t ∧ 0 ≤ (if t < O then (0 : Int) else t - O) := by split <;> omega
  generalize (if t < O then (0 : Int) else t - O) = z at hz
  have : (z + P - 1) / P < z + 1 := Int.ediv_lt_of_lt_mul hP (by
    have h1 : 1 * P ≤ (z + 1) * P - z := by
      have := Int.mul_le_mul_of_nonneg_left (show (1 : Int) ≤ P by omega) hz.2
      rw [Int.add_mul]; omega
    have h2 : (z + 1) * P = z * P + P := by rw [Int.add_mul, Int.one_mul]
    omega)
  omega
theorem jI_mono {P O t u : Int} (hP : 0 < P) (h : t ≤ u) : jI P O t ≤ jI P O u := by
  unfold jI
  refine Int.ediv_le_ediv hP ?_
  (repeat' split) <;> omega
theorem jI_round {P O t r : Int} (hP : 0 < P) (hO : O ≤ t) (hr : 0 ≤ r) (hd : P ∣ r) : jI P O (t + r) = jI P O t + r / P := by
  obtain ⟨q, rfl⟩ := hd
  unfold jI
  rw [if_neg (by omega), if_neg (by omega), Int.mul_ediv_cancel_left _ (by omega), show t + P * q - O + P - 1 = (t - O + P - 1) + P * q by omega, Int.add_mul_ediv_left _ _ (by omega)]
theorem tmB_iff (x : Tm) (t : Int) : tmB x t = true ↔ ((0 ≤ t ∧ t ≤ 1099511627776) ∧ (0 ≤ x.off ∧ x.off ≤ 1099511627776) ∧ (0 < x.per ∧ x.per ≤ 1099511627776) ∧ (0 ≤ x.cost ∧ x.cost ≤ 1099511627776) ∧ (0 ≤ x.car ∧ jI x.per x.off t * x.cost + x.car ≤ 1099511627776)) := by
  obtain ⟨P, C, O, K⟩ := x
  simp only [tmB, workB, jobsB, jobsN, Bool.and_eq_true]
  constructor
  · rintro ⟨⟨h1, h2⟩, h3, h4⟩
    rw [if_pos h1] at h3 h4
    have hl := h1
    simp only [lessB, Bool.and_eq_true, numB_iff] at hl
    have hlN : lessN t O = if t < O then 0 else t - O := by unfold lessN; rw [if_pos (by simpa [lessB] using h1)]
    have hu := h2
    simp only [upB, Bool.and_eq_true, numB_iff, decide_eq_true_eq] at hu
    have huN : upN (lessN t O) P = jI P O t := by unfold upN jI; rw [if_pos (by simpa [upB] using h2), hlN]
    rw [huN] at h3 h4
    have hm := h3
    simp only [mulB, Bool.and_eq_true, numB_iff] at hm
    have hmN : mulN (jI P O t) C = jI P O t * C := by unfold mulN; rw [if_pos (by simpa [mulB] using h3)]
    rw [hmN] at h4
    simp only [addB, Bool.and_eq_true, numB_iff] at h4
    refine ⟨hl.1, hl.2, ⟨hu.2, hu.1.2.2⟩, hm.1.2, h4.1.2.1, h4.2.2⟩
  · rintro ⟨ht, hO, hP, hC, hK⟩

    have h1 : lessB t O = true := by simp only [lessB, Bool.and_eq_true, numB_iff]; exact ⟨ht, hO⟩
    have hlN : lessN t O = if t < O then 0 else t - O := by unfold lessN; rw [if_pos (by simpa [lessB] using h1)]
    have h2 : upB (lessN t O) P = true := by
      simp only [upB, Bool.and_eq_true, numB_iff, decide_eq_true_eq]
      refine ⟨⟨?_, by omega⟩, hP.1⟩
      rw [hlN]; split <;> omega
    have huN : upN (lessN t O) P = jI P O t := by unfold upN jI; rw [if_pos (by simpa [upB] using h2), hlN]
    have j0 := jI_nonneg (P := P) (O := O) (t := t) hP.1
    have j1 := jI_le (P := P) (O := O) (t := t) hP.1 hO.1 ht.1
    have m0 := Int.mul_nonneg j0 hC.1
    have h3 : mulB (jI P O t) C = true := by
      simp only [mulB, Bool.and_eq_true, numB_iff]
      exact ⟨⟨⟨j0, by omega⟩, hC⟩, m0, by omega⟩
    have hmN : mulN (jI P O t) C = jI P O t * C := by unfold mulN; rw [if_pos (by simpa [mulB] using h3)]
    rw [if_pos h1, huN, hmN]
    refine ⟨⟨h1, h2⟩, h3, ?_⟩
    simp only [addB, Bool.and_eq_true, numB_iff]
    omega
theorem tmN_eq {x : Tm} {t : Int} (h : tmB x t = true) : tmN x t = jI x.per x.off t * x.cost + x.car := by
  obtain ⟨P, C, O, K⟩ := x
  simp only [tmB, workB, jobsB, jobsN, Bool.and_eq_true] at h
  obtain ⟨⟨h1, h2⟩, h3, h4⟩ := h
  simp only [tmN, workN, jobsB, jobsN]
  rw [if_pos h1] at h3 h4
  have hlN : lessN t O = if t < O then 0 else t - O := by unfold lessN; rw [if_pos (by simpa [lessB] using h1)]
  have huN : upN (lessN t O) P = jI P O t := by unfold upN jI; rw [if_pos (by simpa [upB] using h2), hlN]
  rw [huN] at h3 h4
  have hmN : mulN (jI P O t) C = jI P O t * C := by unfold mulN; rw [if_pos (by simpa [mulB] using h3)]
  rw [hmN] at h4
  rw [if_pos h1, huN, hmN, h1, h2, h3]
  simp only [Bool.and_self, if_true]
  unfold addN
  rw [if_pos (by simpa [addB] using h4)]
theorem tmB_down {x : Tm} {t u : Int} (h : tmB x u = true) (h0 : 0 ≤ t) (hu : t ≤ u) : tmB x t = true := by
  rw [tmB_iff] at h ⊢
  obtain ⟨h1, h2, h3, h4, h5⟩ := h
  have := Int.mul_le_mul_of_nonneg_right (jI_mono (O := x.off) h3.1 hu) h4.1
  exact ⟨by omega, h2, h3, h4, h5.1, by omega⟩
theorem tmN_mono {x : Tm} {t u : Int} (h : tmB x u = true) (h0 : 0 ≤ t) (hu : t ≤ u) : 0 ≤ tmN x t ∧ tmN x t ≤ tmN x u := by
  have hd := tmB_down h h0 hu
  rw [tmN_eq h, tmN_eq hd]
  rw [tmB_iff] at h
  obtain ⟨h1, h2, h3, h4, h5⟩ := h
  have := Int.mul_le_mul_of_nonneg_right (jI_mono (O := x.off) h3.1 hu) h4.1
  have := Int.mul_nonneg (jI_nonneg (O := x.off) (t := t) h3.1) h4.1
  omega
theorem tmN_round {x : Tm} {t r : Int} (h : tmB x (t + r) = true) (h0 : 0 ≤ t) (hr : 0 ≤ r) (hO : x.off ≤ t) (hd : x.per ∣ r) : tmN x (t + r) = tmN x t + r / x.per * x.cost := by
  have hd' := tmB_down h h0 (by omega)
  rw [tmN_eq h, tmN_eq hd']
  rw [tmB_iff] at h
  rw [jI_round h.2.2.1.1 hO hr hd, Int.add_mul]
  omega
/-- What all terms come to: is it a number, and which? -/
def okL (L : List Tm) (t : Int) : Bool := resB (runS 0 (L.map (wI t)))
def valL (L : List Tm) (t : Int) : Int := resN (runS 0 (L.map (wI t)))
def sumL (L : List Tm) (t : Int) : Int := (L.map fun x => tmN x t).sum
theorem wI_ge {x : Tm} {t : Int} : 0 ≤ wI t x ↔ tmB x t = true := by
  unfold wI
  split
  · rename_i h
    exact ⟨fun _ => h, fun _ => by have := tmN_mono h ((tmB_iff x t).1 h).1.1 (Int.le_refl _); omega⟩
  · rename_i h
    exact ⟨fun h1 => by omega, fun h1 => absurd h1 h⟩
theorem wI_eq {x : Tm} {t : Int} (h : tmB x t = true) : wI t x = tmN x t := by unfold wI; rw [if_pos h]
theorem okL_iff (L : List Tm) (t : Int) : okL L t = true ↔ (∀ x ∈ L, tmB x t = true) ∧ sumL L t ≤ 1099511627776 := by
  unfold okL resB
  rw [Option.isSome_iff_exists]
  constructor
  · rintro ⟨s, hs⟩
    obtain ⟨h1, h2, h3⟩ := (runS_iff (n := 0) (Int.le_refl _) (by omega)).1 hs
    have h4 : ∀ x ∈ L, tmB x t = true := fun x hx => wI_ge.1 (h1 _ (List.mem_map_of_mem hx))
    have h5 : L.map (wI t) = L.map fun x => tmN x t := List.map_congr_left fun x hx => wI_eq (h4 x hx)
    refine ⟨h4, ?_⟩
    unfold sumL
    rw [← h5]; omega
  · rintro ⟨h1, h2⟩
    have h5 : L.map (wI t) = L.map fun x => tmN x t := List.map_congr_left fun x hx => wI_eq (h1 x hx)
    refine ⟨0 + (L.map (wI t)).sum, (runS_iff (n := 0) (Int.le_refl _) (by omega)).2 ⟨fun y hy => ?_, rfl, ?_⟩⟩
    · obtain ⟨x, hx, rfl⟩ := List.mem_map.1 hy
      exact wI_ge.2 (h1 x hx)
    · rw [h5]; unfold sumL at h2; omega
theorem valL_eq {L : List Tm} {t : Int} (h : okL L t = true) : valL L t = sumL L t := by
  have h1 := ((okL_iff L t).1 h).1
  have h5 : L.map (wI t) = L.map fun x => tmN x t := List.map_congr_left fun x hx => wI_eq (h1 x hx)
  unfold okL resB at h
  rw [Option.isSome_iff_exists] at h
  obtain ⟨s, hs⟩ := h
  obtain ⟨-, h2, -⟩ := (runS_iff (n := 0) (Int.le_refl _) (by omega)).1 hs
  unfold valL resN sumL
  rw [hs, ← h5]
  simp only [Option.getD_some]; omega
theorem sumL_cons (x : Tm) (L : List Tm) (t : Int) : sumL (x :: L) t = tmN x t + sumL L t := by simp [sumL]
theorem sumL_mono {t u : Int} (h0 : 0 ≤ t) (hu : t ≤ u) : ∀ {L : List Tm}, (∀ x ∈ L, tmB x u = true) → 0 ≤ sumL L t ∧ sumL L t ≤ sumL L u
  | [], _ => by simp [sumL]
  | x :: r, h => by
    have h1 := tmN_mono (h x (List.mem_cons_self ..)) h0 hu
    have h2 := sumL_mono h0 hu (L := r) fun y hy => h y (List.mem_cons_of_mem _ hy)
    rw [sumL_cons, sumL_cons]; omega
theorem okL_down {L : List Tm} {t u : Int} (h : okL L u = true) (h0 : 0 ≤ t) (hu : t ≤ u) : okL L t = true ∧ 0 ≤ valL L t ∧ valL L t ≤ valL L u := by
  have h' := (okL_iff L u).1 h
  have hm := sumL_mono h0 hu h'.1
  have hk : okL L t = true := (okL_iff L t).2 ⟨fun x hx => tmB_down (h'.1 x hx) h0 hu, by omega⟩
  exact ⟨hk, by rw [valL_eq hk]; exact hm.1, by rw [valL_eq hk, valL_eq h]; exact hm.2⟩
def kL (L : List Tm) (r : Int) : Int := (L.map fun x => r / x.per * x.cost).sum
theorem sumL_round {t r : Int} (h0 : 0 ≤ t) (hr : 0 ≤ r) : ∀ {L : List Tm}, (∀ x ∈ L, tmB x (t + r) = true ∧ x.off ≤ t ∧ x.per ∣ r) → sumL L (t + r) = sumL L t + kL L r
  | [], _ => by simp [sumL, kL]
  | x :: l, h => by
    obtain ⟨a, b, c⟩ := h x (List.mem_cons_self ..)
    have h1 := tmN_round a h0 hr b c
    have h2 := sumL_round h0 hr (L := l) fun y hy => h y (List.mem_cons_of_mem _ hy)
    rw [sumL_cons, sumL_cons, h1, h2]
    simp only [kL, List.map_cons, List.sum_cons]
    omega
theorem valL_round {L : List Tm} {t r : Int} (h : okL L (t + r) = true) (h0 : 0 ≤ t) (hr : 0 ≤ r) (hL : ∀ x ∈ L, x.off ≤ t ∧ x.per ∣ r) : valL L (t + r) = valL L t + kL L r := by
  have hd := (okL_down h h0 (by omega)).1
  rw [valL_eq h, valL_eq hd]
  exact sumL_round h0 hr fun x hx => ⟨((okL_iff L _).1 h).1 x hx, hL x hx⟩
/-- The first work and all that comes, together. -/
def togB (own : Int) (L : List Tm) (t : Int) : Bool := okL L t && addB own (valL L t)
def togN (own : Int) (L : List Tm) (t : Int) : Int := if okL L t then addN own (valL L t) else 0
def FF (own : Int) (L : List Tm) (t : Int) : Option Int := if togB own L t then some (togN own L t) else none
theorem FF_some {own : Int} {L : List Tm} {t n : Int} : FF own L t = some n ↔ okL L t = true ∧ 0 ≤ own ∧ n = own + valL L t ∧ n ≤ 1099511627776 := by
  unfold FF togB togN
  by_cases h : okL L t = true
  · have ht := ((okL_iff L t).1 h).1
    have hv : 0 ≤ valL L t := by
      rw [valL_eq h]
      exact sum_nonneg fun y hy => by
        obtain ⟨x, hx, rfl⟩ := List.mem_map.1 hy
        have hb := ht x hx
        have := tmN_mono hb ((tmB_iff x t).1 hb).1.1 (Int.le_refl _)
        omega
    rw [h]
    simp only [Bool.true_and, if_true]
    by_cases ha : addB own (valL L t) = true
    · have hn : addN own (valL L t) = own + valL L t := by unfold addN; rw [if_pos (by simpa [addB] using ha)]
      rw [if_pos ha, hn]
      simp only [addB, Bool.and_eq_true, numB_iff] at ha
      simp only [Option.some.injEq, true_and]
      constructor
      · rintro rfl; omega
      · rintro ⟨_, h1, _⟩; exact h1.symm
    · rw [if_neg ha]
      constructor
      · intro h; cases h
      · rintro ⟨_, h1, h2, h3⟩
        exact absurd (by simp only [addB, Bool.and_eq_true, numB_iff]; omega) ha
  · simp only [Bool.not_eq_true] at h
    rw [h]
    simp
theorem FF_mono {own : Int} {L : List Tm} {t u n : Int} (h : FF own L u = some n) (h0 : 0 ≤ t) (hu : t ≤ u) : ∃ m, FF own L t = some m ∧ m ≤ n ∧ own ≤ m := by
  obtain ⟨h1, h2, h3, h4⟩ := FF_some.1 h
  obtain ⟨d1, d2, d3⟩ := okL_down h1 h0 hu
  exact ⟨own + valL L t, FF_some.2 ⟨d1, h2, rfl, by omega⟩, by omega, by omega⟩
/-- Behind h no time is enough, unless one up to it is. -/
def HZ (own : Int) (L : List Tm) (h : Int) : Prop := ∀ cur, h < cur → (∀ t, (if own < 1 then 1 else own) ≤ t → t < cur → ∀ n, FF own L t = some n → t < n) → ∀ t, h < t → ∀ n, FF own L t = some n → t < n
theorem horizon_good {own : Int} {L : List Tm} {from_ r : Int} (h0 : (if own < 1 then 1 else own) ≤ from_) (hr : 0 < r) (hL : ∀ x ∈ L, x.off ≤ from_ ∧ x.per ∣ r) (hk : okL L (from_ + r) = true) (hge : r ≤ valL L (from_ + r) - valL L from_) : HZ own L (from_ + r) := by
  have hf : 1 ≤ from_ := by split at h0 <;> omega
  have hK : r ≤ kL L r := by
    have := valL_round hk (by omega) (by omega) hL
    omega
  intro cur hc hno
  have key : ∀ (d : Nat) (t : Int), t < from_ + r + 1 + d → from_ + r < t → ∀ n, FF own L t = some n → t < n := by
    intro d
    induction d with
    | zero => intro t h1 h2; omega
    | succ d ih =>
      intro t h1 h2 n hn
      obtain ⟨k1, k2, k3, k4⟩ := FF_some.1 hn
      have hrd := valL_round (L := L) (t := t - r) (r := r) (by rw [Int.sub_add_cancel]; exact k1) (by omega) (by omega) (fun x hx => ⟨by have := (hL x hx).1; omega, (hL x hx).2⟩)
      rw [Int.sub_add_cancel] at hrd
      obtain ⟨m, hm, -, -⟩ := FF_mono hn (t := t - r) (by omega) (by omega)
      obtain ⟨-, -, m3, -⟩ := FF_some.1 hm
      have hlt : t - r < m := by
        by_cases hcc : t - r < cur
        · exact hno _ (by omega) hcc m hm
        · exact ih (t - r) (by omega) (by omega) m hm
      omega
  intro t ht
  exact key (t - (from_ + r)).toNat t (by omega) ht
/-- Looking at times till one is enough. -/
def lookF (F : Int → Option Int) (most : Int) : Nat → Int → Int → Option (Int × Int)
  | 0, _, _ => none
  | g + 1, w, m => if w ≤ most then (match F w with | none => none | some n => if n ≤ w then some (w, m) else lookF F most g n (m + 1)) else none
theorem lookF_past {F : Int → Option Int} {most h : Int} (hF : ∀ t, h < t → ∀ n, F t = some n → t < n) : ∀ (g : Nat) (w m : Int), h < w → lookF F most g w m = none
  | 0, _, _, _ => rfl
  | g + 1, w, m, hw => by
    unfold lookF
    split
    · cases hf : F w with
      | none => rfl
      | some n =>
        have := hF w hw n hf
        dsimp only
        rw [if_neg (by omega)]
        exact lookF_past hF g n (m + 1) (by omega)
    · rfl
theorem lookF_most {F : Int → Option Int} {most : Int} (g : Nat) {w m : Int} (hw : most < w) : lookF F most g w m = none := by
  cases g with
  | zero => rfl
  | succ g => unfold lookF; rw [if_neg (by omega)]
/-- More fuel turns nothing. -/
theorem lookF_fuel {F : Int → Option Int} {most : Int} : ∀ (g g' : Nat) (w m : Int), most < w + g → most < w + g' → lookF F most g w m = lookF F most g' w m
  | 0, g', w, m, h, _ => by rw [lookF_most g' (by omega)]; rfl
  | g + 1, 0, w, m, _, h => by rw [lookF_most (g + 1) (by omega)]; rfl
  | g + 1, g' + 1, w, m, h, h' => by
    unfold lookF
    split
    · cases hf : F w with
      | none => rfl
      | some n =>
        dsimp only
        split
        · rfl
        · exact lookF_fuel g g' n (m + 1) (by omega) (by omega)
    · rfl
/-- What looking finds is the least time that is enough. -/
theorem lookF_least {own : Int} {L : List Tm} {most : Int} : ∀ (g : Nat) (w m : Int), 0 ≤ w → most < w + g → (∀ t, w ≤ t → t ≤ most → ∃ n, FF own L t = some n) →
    (∀ a b, lookF (FF own L) most g w m = some (a, b) → w ≤ a ∧ a ≤ most ∧ (∃ n, FF own L a = some n ∧ n ≤ a) ∧ ∀ t, w ≤ t → t < a → ∀ n, FF own L t = some n → t < n) ∧
    (lookF (FF own L) most g w m = none → ∀ t, w ≤ t → t ≤ most → ∀ n, FF own L t = some n → t < n)
  | 0, w, m, h0, hg, hs => ⟨fun a b h => by simp [lookF] at h, fun _ t h1 h2 => by omega⟩
  | g + 1, w, m, h0, hg, hs => by
    by_cases hw : w ≤ most
    · obtain ⟨n, hn⟩ := hs w (Int.le_refl _) hw
      by_cases hnw : n ≤ w
      · have e : lookF (FF own L) most (g + 1) w m = some (w, m) := by unfold lookF; rw [if_pos hw, hn]; dsimp only; rw [if_pos hnw]
        rw [e]
        refine ⟨fun a b h => ?_, fun h => by cases h⟩
        obtain ⟨rfl, rfl⟩ : w = a ∧ m = b := by simpa using h
        exact ⟨Int.le_refl _, hw, ⟨n, hn, hnw⟩, fun t h1 h2 => by omega⟩
      · have e : lookF (FF own L) most (g + 1) w m = lookF (FF own L) most g n (m + 1) := by
          rw [show lookF (FF own L) most (g + 1) w m = (if w ≤ most then (match FF own L w with | none => none | some n => if n ≤ w then some (w, m) else lookF (FF own L) most g n (m + 1)) else none) from rfl, if_pos hw, hn]
          dsimp only; rw [if_neg hnw]
        have hgap : ∀ t, w ≤ t → t < n → ∀ k, FF own L t = some k → t < k := fun t h1 h2 k hk => by
          obtain ⟨j, hj, hjk, -⟩ := FF_mono hk h0 h1
          rw [hn] at hj
          obtain rfl : n = j := by simpa using hj
          omega
        obtain ⟨i1, i2⟩ := lookF_least (own := own) (L := L) (most := most) g n (m + 1) (by omega) (by omega) (fun t h1 h2 => hs t (by omega) h2)
        rw [e]
        refine ⟨fun a b h => ?_, fun h t h1 h2 k hk => ?_⟩
        · obtain ⟨a1, a2, a3, a4⟩ := i1 a b h
          refine ⟨by omega, a2, a3, fun t h1 h2 k hk => ?_⟩
          by_cases ht : t < n
          · exact hgap t h1 ht k hk
          · exact a4 t (by omega) h2 k hk
        · by_cases ht : t < n
          · exact hgap t h1 ht k hk
          · exact i2 h t (by omega) h2 k hk
    · have e := lookF_most (F := FF own L) (most := most) (g + 1) (w := w) (m := m) (by omega)
      rw [e]
      exact ⟨fun a b h => (by cases h), fun _ t h1 h2 => by omega⟩
end Go.Proofs.Ytmaackdfhmpicaa
