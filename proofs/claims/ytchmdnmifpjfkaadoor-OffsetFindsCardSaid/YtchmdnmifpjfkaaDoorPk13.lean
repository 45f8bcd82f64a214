/- Several texts in one: TL, TO, NA, Sr, NB, NC, ND, PA, PB, NE, NF, NG. -/
import Derived.Test.YtchmdnmifpjfkaaDoorPk12
import Derived.Test.YtchmdnmifpjfkaaDoorPk04
import Derived.Handy
import Derived.Test.YtchmdnmifpjfkaaDoorPk02
import Derived.Deep.MidRow
/- The contract of the reference's Right; the walk of SteadyBusy. -/
namespace Go.Proofs.YtchmdnmifpjfkaaDoor
open Go.RowKit

theorem img_cells {w : World} {Z : Nat} {a b c d : Value} (h : RowAt w Z 26 #[a, b, c, d]) : w.cell? ⟨Z, 0, none⟩ = some a ∧ w.cell? ⟨Z, 1, none⟩ = some b ∧ w.cell? ⟨Z, 2, none⟩ = some c ∧ w.cell? ⟨Z, 3, none⟩ = some d :=
  ⟨h.cell 0, h.cell 1, h.cell 2, h.cell 3⟩
/-- May an image be? -/
def rightB (x : Img) : Bool := (codeAll x).2 == 0
theorem rightB_good {x : Img} (h : rightB x = true) : GoodI x := good_of_code (by simpa [rightB] using h)
set_option maxHeartbeats 1000000 in
theorem rRight_any {w : World} {V : Nat → Prop} {x : Img} {S : ImgS} (h : ImgAt w V x S) :
    Calls Tryd.prog 21 #[.agg #[.int .i64 x.res, .slice S.t.sp x.tasks.length S.t.c, .slice S.m.sp x.modes.length S.m.c, .slice S.e.sp x.edges.length S.e.c]] w fun e w' => e = .returned (.bool (rightB x)) ∧ Below w.heap.size w w' := by
  have HC := Lib.hid (show ∀ wx, Below w.heap.size w wx → _ from fun wx hb => rCheck_any (h.new hb))
  unfold rightB
  obtain ⟨a, ha⟩ : ∃ a, (codeAll x).1 = a := ⟨_, rfl⟩
  obtain ⟨b, hb⟩ : ∃ a, (codeAll x).2 = a := ⟨_, rfl⟩
  rw [ha, hb] at HC
  rw [hb]
  clear ha hb h
  generalize x.tasks.length = nT at HC ⊢
  generalize x.modes.length = nM at HC ⊢
  generalize x.edges.length = nE at HC ⊢
  have HB := Lib.hid (show ∀ o, Below w.heap.size w (w.alloc o) from fun o => (Below.refl _ _).alloc (Nat.le_refl _) _)
  go_enter Tryd.func21, Tryd.ntmps21
  go_wp2_with (first
    | (go_at_call 49; refine (HC.out _ (HB.out _)).mono ?_; rintro e w3 ⟨rfl, b3⟩; have H3 := Lib.hid ((HB.out _).trans (b3.mono (HB.out _).size)); clear b3)
    | fail)
  go_ret
  exact ⟨rfl, H3.out⟩
end Go.Proofs.YtchmdnmifpjfkaaDoor
/- Maths of SteadyGrows. No statement about the program's functions. -/
namespace Go.Proofs.YtchmdnmifpjfkaaDoor
open Go.RowKit

/-- A task that takes longer, if it may. -/
def longT (t : TaskM) : TaskM := { t with cost := if t.cost < t.dl then t.cost + 1 else t.cost }
def longI (x : Img) (k : Nat) : Img := { x with tasks := x.tasks.set k (longT (x.t k)) }
theorem longI_len (x : Img) (k : Nat) : (longI x k).tasks.length = x.tasks.length := by simp [longI]
theorem longI_t (x : Img) (k i : Nat) (hk : k < x.tasks.length) : (longI x k).t i = if i = k then longT (x.t k) else x.t i := by
  unfold longI Img.t
  simp only [List.getD_eq_getElem?_getD, List.getElem?_set]
  by_cases e : k = i
  · subst e; simp [hk]
  · simp [e, Ne.symm e]
theorem longI_lon (x : Img) (k : Nat) (hk : k < x.tasks.length) (i r : Nat) : lonF (longI x k) i r = lonF x i r := by
  unfold lonF
  rw [longI_t x k i hk]
  split
  · rename_i e; subst e; rfl
  · rfl
theorem longI_good {x : Img} (h : GoodI x) {k : Nat} (hk : k < x.tasks.length) : GoodI (longI x k) where
  n1 := by rw [longI_len]; exact h.n1
  n16 := by rw [longI_len]; exact h.n16
  per := fun i hi => by
    rw [longI_len] at hi
    rw [longI_t x k i hk]
    split
    · exact h.per k hk
    · exact h.per i hi
  dl := fun i hi => by
    rw [longI_len] at hi
    rw [longI_t x k i hk]
    split
    · exact h.dl k hk
    · exact h.dl i hi
  cost := fun i hi => by
    rw [longI_len] at hi
    rw [longI_t x k i hk]
    split
    · have h1 := h.cost k hk
      have h2 := h.dl k hk
      show 1 ≤ (if (x.t k).cost < (x.t k).dl then (x.t k).cost + 1 else (x.t k).cost) ∧ (if (x.t k).cost < (x.t k).dl then (x.t k).cost + 1 else (x.t k).cost) ≤ 4096
      split <;> omega
    · exact h.cost i hi
  cd := fun i hi => by
    rw [longI_len] at hi
    rw [longI_t x k i hk]
    split
    · have h1 := h.cd k hk
      show (if (x.t k).cost < (x.t k).dl then (x.t k).cost + 1 else (x.t k).cost) ≤ (x.t k).dl
      split <;> omega
    · exact h.cd i hi
  lon := fun i hi r hr => by
    rw [longI_len] at hi
    rw [longI_lon x k hk]
    exact h.lon i hi r hr
theorem longI_cost (x : Img) (k : Nat) (hk : k < x.tasks.length) (i : Nat) : (x.t i).cost ≤ ((longI x k).t i).cost := by
  rw [longI_t x k i hk]
  split
  · rename_i e
    subst e
    show (x.t i).cost ≤ (if (x.t i).cost < (x.t i).dl then (x.t i).cost + 1 else (x.t i).cost)
    split <;> omega
  · exact Int.le_refl _
theorem ceil_less {x : Img} {k : Nat} (hk : k < x.tasks.length) {s u : BitVec 32} (hs : ∀ i, i < 32 → s.getLsbD i = true → u.getLsbD i = true) (r : Nat) (hr : r < 8) : ceilF (longI x k) u r ≤ ceilF x s r := by
  have h1 := ceilF_least x s r hr
  have h2 := ceilF_least (longI x k) u r hr
  rcases h1.at_ with e | ⟨i, ⟨a, b, c, d⟩, e⟩
  · have := h2.le; omega
  · have := h2.lo i ⟨a, hs i a b, by rw [longI_len]; exact c, by rw [longI_lon x k hk]; exact d⟩; omega
theorem blk_less {x : Img} (hG : GoodI x) {k : Nat} (hk : k < x.tasks.length) {s u : BitVec 32} (hs : ∀ i, i < 32 → s.getLsbD i = true → u.getLsbD i = true) (i : Int) : blkF x s (ceilF x s) i ≤ blkF (longI x k) u (ceilF (longI x k) u) i := by
  unfold blkF
  refine smK_mono 8 (fun r hr hp => ⟨?_, ?_⟩) fun r hr => (lgF_rng (longI_good hG hk) _ r hr).1
  · have := ceil_less hk hs r hr
    simp at hp ⊢
    omega
  · unfold lgF
    refine mxK_mono 32 fun j hj hb => ⟨?_, by rw [longI_lon x k hk]; exact Int.le_refl _⟩
    rw [bhd_bit _ _ _ _ hj] at hb ⊢
    simp only [Bool.and_eq_true, decide_eq_true_eq] at hb ⊢
    exact ⟨hb.1, hs j hj hb.2.1, by rw [longI_len]; exact hb.2.2⟩
theorem sum_lst (x : Img) (s : BitVec 32) (t : Int) : ∀ n, sumL (tmL x (lst s n)) t = smK s.getLsbD (fun i => tmN (tmOf x i) t) n
  | 0 => rfl
  | n + 1 => by
    rw [lst_succ]
    unfold smK
    split
    · rw [← sum_lst x s t n]
      unfold sumL tmL
      simp
    · exact sum_lst x s t n
theorem tm_less {x : Img} (hG : GoodI x) {k : Nat} (hk : k < x.tasks.length) {i : Nat} (hi : i < x.tasks.length) {t : Int} (h1 : 1 ≤ t) (h2 : t ≤ 70000) : 0 ≤ tmN (tmOf (longI x k) i) t ∧ tmN (tmOf x i) t ≤ tmN (tmOf (longI x k) i) t := by
  have hg1 : GoodT (tmOf x i) := good_tm hG (L := [i]) (by intro j hj; simp at hj; omega) _ (by simp [tmL])
  have hg2 : GoodT (tmOf (longI x k) i) := good_tm (longI_good hG hk) (L := [i]) (by intro j hj; simp at hj; rw [longI_len]; omega) _ (by simp [tmL])
  rw [tmN_eq (hg1.work h1 h2).1, tmN_eq (hg2.work h1 h2).1]
  have hp : (tmOf (longI x k) i).per = (tmOf x i).per := by
    show ((longI x k).t i).per = (x.t i).per
    rw [longI_t x k i hk]; split
    · rename_i e; subst e; rfl
    · rfl
  have hc : (tmOf x i).cost ≤ (tmOf (longI x k) i).cost := longI_cost x k hk i
  have hj : 0 ≤ jI (tmOf x i).per 0 t := jI_nonneg (by have := hg1.p; omega)
  show 0 ≤ jI (tmOf (longI x k) i).per 0 t * (tmOf (longI x k) i).cost + 0 ∧ jI (tmOf x i).per 0 t * (tmOf x i).cost + 0 ≤ jI (tmOf (longI x k) i).per 0 t * (tmOf (longI x k) i).cost + 0
  rw [hp]
  have m1 : jI (tmOf x i).per 0 t * (tmOf x i).cost ≤ jI (tmOf x i).per 0 t * (tmOf (longI x k) i).cost := Int.mul_le_mul_of_nonneg_left hc hj
  have m2 : 0 ≤ jI (tmOf x i).per 0 t * (tmOf (longI x k) i).cost := Int.mul_nonneg hj hg2.c.1
  omega
theorem rsp_less {x : Img} (hG : GoodI x) {k : Nat} (hk : k < x.tasks.length) {s u : BitVec 32} (hs : ∀ i, i < 32 → s.getLsbD i = true → u.getLsbD i = true) {i : Nat} (hi : i < x.tasks.length) (hik : i ≠ k) :
    tB (rspF (longI x k) u u (ceilF (longI x k) u) i) = true → tB (rspF x s s (ceilF x s) i) = true ∧ tT (rspF x s s (ceilF x s) i) ≤ tT (rspF (longI x k) u u (ceilF (longI x k) u) i) := by
  have hG2 := longI_good hG hk
  have hi2 : i < (longI x k).tasks.length := by rw [longI_len]; exact hi
  have o1 := ownF_rng hG s (ceilF x s) hi
  have o2 := ownF_rng hG2 u (ceilF (longI x k) u) hi2
  have hd : ((longI x k).t i).dl = (x.t i).dl := by rw [longI_t x k i hk, if_neg hik]
  have hdl := hG.dl i hi
  have g1 := good_tm hG (L := aheadL x s i) (fun j hj => (aheadL_lt hj).1)
  have g2 := good_tm hG2 (L := aheadL (longI x k) u i) (fun j hj => (aheadL_lt hj).1)
  have l1 : (tmL x (aheadL x s i)).length ≤ 20 := by rw [tmL_len]; have := aheadL_len hG s i; omega
  have l2 : (tmL (longI x k) (aheadL (longI x k) u i)).length ≤ 20 := by rw [tmL_len]; have := aheadL_len hG2 u i; omega
  unfold rspF
  rw [hd]
  refine lookR_mono (by omega) ?_ (fun t a b => ⟨_, good_ff g1 l1 (by omega) (by omega) a (by omega)⟩) (fun t a b => ⟨_, good_ff g2 l2 (by omega) (by omega) a (by omega)⟩) ?_
  · have h1 := blk_less hG hk hs (i : Int)
    have h2 := longI_cost x k hk i
    unfold ownF
    omega
  · intro t n n' a b hn hn'
    rw [good_ff g1 l1 (by omega) (by omega) a (by omega)] at hn
    rw [good_ff g2 l2 (by omega) (by omega) a (by omega)] at hn'
    injection hn with hn
    injection hn' with hn'
    have v1 := valL_eq (good_ok g1 l1 a (show t ≤ 70000 by omega)).1
    have v2 := valL_eq (good_ok g2 l2 a (show t ≤ 70000 by omega)).1
    have h1 := blk_less hG hk hs (i : Int)
    have h2 := longI_cost x k hk i
    have h3 : sumL (tmL x (aheadL x s i)) t ≤ sumL (tmL (longI x k) (aheadL (longI x k) u i)) t := by
      unfold aheadL
      rw [longI_len, sum_lst, sum_lst]
      have h16 := hG.n16
      exact smK_mono _ (fun j hj hb => ⟨hs j (by omega) hb, (tm_less hG hk (by omega) a (by omega)).2⟩) fun j hj => (tm_less hG hk (by omega) a (by omega)).1
    rw [← hn, ← hn', v1, v2]
    unfold ownF
    omega
/-- Where an image whose tasks were copied lies. -/
theorem longI_at {w : World} {x : Img} {S : ImgS} {V : Nat → Prop} (h : ImgAt w V x S) {k : Nat} (hk : k < x.tasks.length) {S4 : Src} (hs : S4.sp = some ⟨S4.b, S4.o, none⟩) (hb : S4.b < w.heap.size)
    (hr : ∀ i, i < x.tasks.length → At w S4.b (S4.o + i * 11) (taskC ((longI x k).t i))) : ImgAt w (fun _ => False) (longI x k) { S with t := S4 } where
  st := ⟨fun _ => ⟨hs, hb, fun h => h⟩, by rw [longI_len]; exact h.st.sm⟩
  sm := h.sm.more (fun _ _ h => h.elim)
  se := h.se.more (fun _ _ h => h.elim)
  tk := fun i hi => by
    rw [longI_len] at hi
    refine ⟨hr i hi, ?_⟩
    rw [longI_t x k i hk]
    split
    · exact (h.tk k hk).2
    · exact (h.tk i hi).2
  md := fun i hi => ⟨(h.md i hi).1, (h.md i hi).2.1, (h.md i hi).2.2.more (fun _ _ h => h.elim)⟩
  qu := h.qu
  ed := h.ed
end Go.Proofs.YtchmdnmifpjfkaaDoor
/- Load's maths: common multiples, exact parts, and a set that asks for more than all time. -/
namespace Go.Proofs.YtchmdnmifpjfkaaDoor
open Go.RowKit

theorem le_mul1 {a b : Int} (ha : 0 ≤ a) (hb : 1 ≤ b) : a ≤ a * b := by
  have := Int.mul_le_mul_of_nonneg_left hb ha
  omega
theorem mup_pos {a b : Int} (h : mupB a b = true) : 0 < mupN a b ∧ mupN a b ≤ 1099511627776 ∧ a ∣ mupN a b ∧ b ∣ mupN a b ∧ 0 < a ∧ 0 < b ∧ ∀ m : Int, a ∣ m → b ∣ m → mupN a b ∣ m := by
  have h' := h
  simp only [mupB, Bool.and_eq_true, Bool.not_eq_true', beq_eq_false_iff_ne] at h
  obtain ⟨⟨⟨hc, ha⟩, hb⟩, hm⟩ := h
  have e1 : mupN a b = mulN (a / comN a b) b := by unfold mupN; rw [if_pos]; simp [hc, ha, hb]
  have e2 : mulN (a / comN a b) b = a / comN a b * b := by unfold mulN; rw [if_pos (by simpa [mulB] using hm)]
  simp only [mulB, Bool.and_eq_true, numB_iff] at hm
  obtain ⟨p1, p2, p3⟩ := com_pos hc ha
  obtain ⟨h4, h5, h6, h7⟩ := com_bds hc
  have hg : comN a b = (Nat.gcd a.toNat b.toNat : Int) := by unfold comN; rw [if_pos (by simpa [comB] using hc)]
  obtain ⟨x, rfl⟩ : ∃ x : Nat, a = x := ⟨a.toNat, by omega⟩
  obtain ⟨y, rfl⟩ : ∃ y : Nat, b = y := ⟨b.toNat, by omega⟩
  simp only [Int.toNat_natCast] at hg
  have e3 : mupN (x : Int) (y : Int) = ((Nat.lcm x y : Nat) : Int) := by
    rw [e1, e2, hg, ← Int.natCast_ediv, ← Int.natCast_mul, Nat.lcm, Nat.div_mul_right_comm (Nat.gcd_dvd_left x y)]
  rw [e3]
  have hx : 0 < x := by omega
  have hy : 0 < y := by omega
  have hl := Nat.lcm_pos hx hy
  refine ⟨by omega, ?_, Int.natCast_dvd_natCast.2 (Nat.dvd_lcm_left x y), Int.natCast_dvd_natCast.2 (Nat.dvd_lcm_right x y), by omega, by omega, fun m h1 h2 => ?_⟩
  · rw [← e3, e1, e2]; exact hm.2.2
  · rw [Int.ofNat_dvd_left] at h1 h2 ⊢
    exact Nat.lcm_dvd h1 h2
theorem mup_iff (a b : Int) : mupB a b = decide (0 < mupN a b) := by
  cases h : mupB a b with
  | false => rw [mup_no h]; rfl
  | true => simp [(mup_pos h).1]
theorem mup_of {a b m : Int} (ha : 0 < a) (hb : 0 < b) (hm : 0 < m) (h1 : a ∣ m) (h2 : b ∣ m) (hs : m ≤ 1099511627776) : mupB a b = true := by
  have a1 := Int.le_of_dvd hm h1
  have b1 := Int.le_of_dvd hm h2
  have hc : comB a b = true := by simp only [comB, Bool.and_eq_true, numB_iff]; omega
  obtain ⟨p1, p2, p3⟩ := com_pos hc (by omega)
  have hg : comN a b = (Nat.gcd a.toNat b.toNat : Int) := by unfold comN; rw [if_pos (by simpa [comB] using hc)]
  obtain ⟨x, rfl⟩ : ∃ x : Nat, a = x := ⟨a.toNat, by omega⟩
  obtain ⟨y, rfl⟩ : ∃ y : Nat, b = y := ⟨b.toNat, by omega⟩
  simp only [Int.toNat_natCast] at hg
  have e3 : (x : Int) / comN (x : Int) (y : Int) * y = ((Nat.lcm x y : Nat) : Int) := by
    rw [hg, ← Int.natCast_ediv, ← Int.natCast_mul, Nat.lcm, Nat.div_mul_right_comm (Nat.gcd_dvd_left x y)]
  have hd : ((Nat.lcm x y : Nat) : Int) ∣ m := by
    rw [Int.ofNat_dvd_left] at h1 h2 ⊢
    exact Nat.lcm_dvd h1 h2
  have hle := Int.le_of_dvd hm hd
  have q := quo_bds (a := (x : Int)) (b := comN (x : Int) (y : Int)) (by omega) (by omega)
  simp only [mupB, Bool.and_eq_true, Bool.not_eq_true', beq_eq_false_iff_ne, mulB, numB_iff, e3]
  refine ⟨⟨⟨hc, by omega⟩, by omega⟩, ⟨⟨q.1, by omega⟩, by omega, by omega⟩, by omega, by omega⟩

/-- Behind how many ticks the periods of the first so many begin together again; 0: that is too great. -/
def rdK (x : Img) (L : List Nat) : Nat → Int
  | 0 => 1
  | k + 1 => mupN (rdK x L k) (x.t (L.getD k 0)).per
theorem rdK_rng (x : Img) (L : List Nat) : ∀ k, 0 ≤ rdK x L k ∧ rdK x L k ≤ 1099511627776
  | 0 => by unfold rdK; omega
  | k + 1 => ⟨(mup_good _ _).1, (mup_good _ _).2.1⟩
theorem rdK_stop {x : Img} {L : List Nat} {k : Nat} (h : rdK x L k = 0) : rdK x L (k + 1) = 0 := by
  unfold rdK
  rw [h]
  unfold mupN
  rw [if_neg (by simp)]
theorem rdK_none {x : Img} {L : List Nat} {k : Nat} (h : rdK x L k = 0) : ∀ m, k ≤ m → rdK x L m = 0
  | 0, hm => by obtain rfl : k = 0 := by omega
                exact h
  | m + 1, hm => by
    by_cases e : k = m + 1
    · rw [← e]; exact h
    · exact rdK_stop (rdK_none h m (by omega))
theorem rdK_all {x : Img} {L : List Nat} : ∀ {k}, 0 < rdK x L k → (∀ j, j < k → 0 < (x.t (L.getD j 0)).per ∧ (x.t (L.getD j 0)).per ∣ rdK x L k) ∧ ∀ m : Int, (∀ j, j < k → (x.t (L.getD j 0)).per ∣ m) → rdK x L k ∣ m
  | 0, _ => ⟨fun j h => absurd h (by omega), fun m _ => ⟨m, by simp [rdK]⟩⟩
  | k + 1, h => by
    have hb : mupB (rdK x L k) (x.t (L.getD k 0)).per = true := by
      rw [mup_iff]
      exact decide_eq_true h
    obtain ⟨-, -, d1, d2, p1, p2, d3⟩ := mup_pos hb
    obtain ⟨ih1, ih2⟩ := rdK_all p1
    refine ⟨fun j hj => ?_, fun m hm => d3 m (ih2 m fun j hj => hm j (by omega)) (hm k (by omega))⟩
    by_cases e : j = k
    · subst e; exact ⟨p2, d2⟩
    · exact ⟨(ih1 j (by omega)).1, Int.dvd_trans (ih1 j (by omega)).2 d1⟩
theorem rdK_of {x : Img} {L : List Nat} {m : Int} (hm : 0 < m) (hs : m ≤ 1099511627776) : ∀ {k}, (∀ j, j < k → 0 < (x.t (L.getD j 0)).per ∧ (x.t (L.getD j 0)).per ∣ m) → 0 < rdK x L k
  | 0, _ => by unfold rdK; omega
  | k + 1, h => by
    have ih := rdK_of hm hs (k := k) fun j hj => h j (by omega)
    exact (mup_pos (mup_of ih (h k (by omega)).1 hm ((rdK_all ih).2 m fun j hj => (h j (by omega)).2) (h k (by omega)).2 hs)).1
theorem rdK_ext {x : Img} {L : List Nat} {k : Nat} (h : 0 < rdK x L k) {j : Nat} (hj : j ≤ k) : 0 < rdK x L j := by
  by_cases e : rdK x L j = 0
  · have := rdK_none e k hj; omega
  · have := (rdK_rng x L j).1; omega

/-- The sum of two parts, shortened. -/
def addP (p q : Int × Int) : Option (Int × Int) :=
  if mupB p.2 q.2 = true then
    if mulB p.1 (mupN p.2 q.2 / p.2) = true then
      if mulB q.1 (mupN p.2 q.2 / q.2) = true then
        if addB (mulN p.1 (mupN p.2 q.2 / p.2)) (mulN q.1 (mupN p.2 q.2 / q.2)) = true then
          some (addN (mulN p.1 (mupN p.2 q.2 / p.2)) (mulN q.1 (mupN p.2 q.2 / q.2)) / comN (addN (mulN p.1 (mupN p.2 q.2 / p.2)) (mulN q.1 (mupN p.2 q.2 / q.2))) (mupN p.2 q.2), mupN p.2 q.2 / comN (addN (mulN p.1 (mupN p.2 q.2 / p.2)) (mulN q.1 (mupN p.2 q.2 / q.2))) (mupN p.2 q.2))
        else none
      else none
    else none
  else none
def exK (x : Img) (L : List Nat) : Nat → Option (Int × Int)
  | 0 => some (0, 1)
  | k + 1 => (exK x L k).bind fun p => addP p ((x.t (L.getD k 0)).cost, (x.t (L.getD k 0)).per)
def pN (o : Option (Int × Int)) : Int := match o with | some p => p.1 | none => 0
def pD (o : Option (Int × Int)) : Int := match o with | some p => p.2 | none => 0
theorem exK_none {x : Img} {L : List Nat} {k : Nat} (h : exK x L k = none) : ∀ m, k ≤ m → exK x L m = none
  | 0, hm => by obtain rfl : k = 0 := by omega
                exact h
  | m + 1, hm => by
    by_cases e : k = m + 1
    · rw [← e]; exact h
    · unfold exK; rw [exK_none h m (by omega)]; rfl
def ovB (o : Option (Int × Int)) : Bool := match o with | some p => decide (p.2 < p.1) | none => true

theorem div_div {a b n : Int} (ha : 0 < a) (h1 : a ∣ b) (h2 : b ∣ n) : b / a * (n / b) = n / a := by
  obtain ⟨c, rfl⟩ := h1
  obtain ⟨d, rfl⟩ := h2
  by_cases hc : c = 0
  · subst hc; simp
  · rw [Int.mul_ediv_cancel_left c (by omega), Int.mul_ediv_cancel_left d (by
      intro h; rcases Int.mul_eq_zero.1 h with h | h <;> omega), Int.mul_assoc, Int.mul_ediv_cancel_left (c * d) (by omega)]
theorem div_pos_of {a b : Int} (hb : 0 < b) (ha : 0 < a) (h : a ∣ b) : 0 < b / a ∧ b / a ≤ b ∧ b / a * a = b := by
  have e : b / a * a = b := Int.ediv_mul_cancel h
  have q := quo_bds (a := b) (b := a) (by omega) ha
  refine ⟨?_, q.2.1, e⟩
  rcases Int.lt_or_le 0 (b / a) with h | h
  · exact h
  · have : b / a = 0 := by omega
    rw [this] at e; omega
/-- What an exact part is, against a number that the denominators divide. -/
structure ExI (n : Int) (p : Int × Int) (s : Int) : Prop where
  d : 0 < p.2
  dv : p.2 ∣ n
  nn : 0 ≤ p.1
  eq : p.1 * (n / p.2) = s
  cop : Nat.gcd p.1.toNat p.2.toNat = 1
theorem exi_step {n c q s : Int} {p : Int × Int} (h : ExI n p s) (hn : 0 < n) (hn2 : n ≤ 16777216) (hs : s ≤ 100 * n) (hq : 0 < q) (hqn : q ∣ n) (hc : 0 ≤ c) (hcq : c ≤ q) : ∃ r, addP p (c, q) = some r ∧ ExI n r (s + c * (n / q)) := by
  obtain ⟨num, den⟩ := p
  obtain ⟨d, dv, nn, eq, cop⟩ := h
  simp only at d dv nn eq cop
  have hm := mup_of d hq hn dv hqn (by omega)
  obtain ⟨m0, m1, m2, m3, -, -, m4⟩ := mup_pos hm
  have m5 := m4 n dv hqn
  obtain ⟨m, hmm⟩ : ∃ m, mupN den q = m := ⟨_, rfl⟩
  rw [hmm] at m0 m1 m2 m3 m4 m5
  have mle := Int.le_of_dvd hn m5
  obtain ⟨a0, a1, a2⟩ := div_pos_of m0 d m2
  obtain ⟨b0, b1, b2⟩ := div_pos_of m0 hq m3
  obtain ⟨c0, c1, c2⟩ := div_pos_of hn m0 m5
  have t1 : m / den * (n / m) = n / den := div_div d m2 m5
  have t2 : m / q * (n / m) = n / q := div_div hq m3 m5
  have f1 : num * (m / den) * (n / m) = s := by rw [Int.mul_assoc, t1, eq]
  have f2 : c * (m / q) * (n / m) = c * (n / q) := by rw [Int.mul_assoc, t2]
  have g1 : 0 ≤ num * (m / den) := Int.mul_nonneg nn (by omega)
  have g2 : 0 ≤ c * (m / q) := Int.mul_nonneg hc (by omega)
  have g3 : num * (m / den) ≤ s := by
    rw [← f1]
    exact le_mul1 g1 (by omega)
  have g4 : c * (m / q) ≤ m := by
    have := Int.mul_le_mul_of_nonneg_right hcq (show 0 ≤ m / q by omega)
    rw [Int.mul_comm q, b2] at this
    exact this
  have k1 : mulB num (m / den) = true := by
    have : num ≤ num * (m / den) := le_mul1 nn (by omega)
    simp only [mulB, Bool.and_eq_true, numB_iff]; omega
  have k2 : mulB c (m / q) = true := by
    have : c ≤ c * (m / q) := le_mul1 hc (by omega)
    simp only [mulB, Bool.and_eq_true, numB_iff]; omega
  have v1 : mulN num (m / den) = num * (m / den) := by unfold mulN; rw [if_pos (by simpa [mulB] using k1)]
  have v2 : mulN c (m / q) = c * (m / q) := by unfold mulN; rw [if_pos (by simpa [mulB] using k2)]
  have k3 : addB (num * (m / den)) (c * (m / q)) = true := by simp only [addB, Bool.and_eq_true, numB_iff]; omega
  have v3 : addN (num * (m / den)) (c * (m / q)) = num * (m / den) + c * (m / q) := by unfold addN; rw [if_pos (by simpa [addB] using k3)]
  obtain ⟨u, hu⟩ : ∃ u, num * (m / den) + c * (m / q) = u := ⟨_, rfl⟩
  have hu0 : 0 ≤ u := by omega
  have hu1 : u ≤ 1700000000 := by omega
  have fu : u * (n / m) = s + c * (n / q) := by rw [← hu, Int.add_mul, f1, f2]
  have hcb : comB u m = true := by simp only [comB, Bool.and_eq_true, numB_iff]; omega
  have hg : comN u m = (Nat.gcd u.toNat m.toNat : Int) := by unfold comN; rw [if_pos (by simpa [comB] using hcb)]
  refine ⟨(u / comN u m, m / comN u m), ?_, ?_⟩
  · unfold addP
    simp only
    rw [hmm, if_pos hm, if_pos k1, if_pos k2, v1, v2, if_pos k3, v3, hu]
  · obtain ⟨y, rfl⟩ : ∃ y : Nat, u = y := ⟨u.toNat, by omega⟩
    obtain ⟨z, rfl⟩ : ∃ z : Nat, m = z := ⟨m.toNat, by omega⟩
    rw [hg]
    simp only [Int.toNat_natCast]
    have hz : 0 < z := by omega
    have hgp : 0 < Nat.gcd y z := Nat.gcd_pos_of_pos_right _ hz
    have dz : ((Nat.gcd y z : Nat) : Int) ∣ (z : Int) := Int.natCast_dvd_natCast.2 (Nat.gcd_dvd_right y z)
    have dy : ((Nat.gcd y z : Nat) : Int) ∣ (y : Int) := Int.natCast_dvd_natCast.2 (Nat.gcd_dvd_left y z)
    obtain ⟨e0, e1, e2⟩ := div_pos_of m0 (show (0 : Int) < (Nat.gcd y z : Nat) by omega) dz
    obtain ⟨g, hgg⟩ : ∃ g, Nat.gcd y z = g := ⟨_, rfl⟩
    refine ⟨e0, Int.dvd_trans ⟨(g : Int), by rw [hgg] at e2 ⊢; exact e2.symm⟩ m5, by have := quo_bds (a := (y : Int)) (b := (Nat.gcd y z : Nat)) (by omega) (by omega); exact this.1, ?_, ?_⟩
    · rw [← fu]
      show (y : Int) / (Nat.gcd y z : Nat) * (n / ((z : Int) / (Nat.gcd y z : Nat))) = (y : Int) * (n / (z : Int))
      have hgd : ((z : Int) / (Nat.gcd y z : Nat)) ∣ n := Int.dvd_trans ⟨((Nat.gcd y z : Nat) : Int), e2.symm⟩ m5
      have e3 := div_div e0 (⟨((Nat.gcd y z : Nat) : Int), e2.symm⟩ : ((z : Int) / (Nat.gcd y z : Nat)) ∣ (z : Int)) m5
      rw [← e3]
      have e4 : (z : Int) / ((z : Int) / (Nat.gcd y z : Nat)) = (Nat.gcd y z : Nat) := by
        have : (z : Int) = (z : Int) / (Nat.gcd y z : Nat) * (Nat.gcd y z : Nat) := e2.symm
        conv => lhs; lhs; rw [this]
        rw [Int.mul_ediv_cancel_left _ (by omega)]
      rw [e4, ← Int.mul_assoc, Int.ediv_mul_cancel dy]
    · rw [← Int.natCast_ediv, ← Int.natCast_ediv, Int.toNat_natCast, Int.toNat_natCast]
      exact Nat.gcd_div_gcd_div_gcd_of_pos_right hz
/-- The part of the first so many tasks, against their round. -/
def csum (x : Img) (L : List Nat) (n : Int) : Nat → Int
  | 0 => 0
  | k + 1 => csum x L n k + (x.t (L.getD k 0)).cost * (n / (x.t (L.getD k 0)).per)
theorem csum_le {x : Img} {L : List Nat} {n : Int} (hn : 0 < n) : ∀ k, (∀ j, j < k → 0 < (x.t (L.getD j 0)).per ∧ (x.t (L.getD j 0)).per ∣ n ∧ 0 ≤ (x.t (L.getD j 0)).cost ∧ (x.t (L.getD j 0)).cost ≤ (x.t (L.getD j 0)).per) → 0 ≤ csum x L n k ∧ csum x L n k ≤ (k : Int) * n
  | 0, _ => by unfold csum; omega
  | k + 1, h => by
    have ih := csum_le hn k fun j hj => h j (by omega)
    obtain ⟨a, b, c, d⟩ := h k (by omega)
    obtain ⟨e, f, g⟩ := div_pos_of hn a b
    have h1 := Int.mul_le_mul_of_nonneg_right d (show 0 ≤ n / (x.t (L.getD k 0)).per by omega)
    rw [Int.mul_comm (x.t (L.getD k 0)).per, g] at h1
    have h2 := Int.mul_nonneg c (show 0 ≤ n / (x.t (L.getD k 0)).per by omega)
    unfold csum
    have h3 : ((k + 1 : Nat) : Int) * n = (k : Int) * n + n := by rw [Int.natCast_succ, Int.add_mul]; omega
    rw [h3]
    omega
theorem exK_good {x : Img} {L : List Nat} {n : Int} (hn : 0 < n) (hn2 : n ≤ 16777216) : ∀ k, k ≤ 100 → (∀ j, j < k → 0 < (x.t (L.getD j 0)).per ∧ (x.t (L.getD j 0)).per ∣ n ∧ 0 ≤ (x.t (L.getD j 0)).cost ∧ (x.t (L.getD j 0)).cost ≤ (x.t (L.getD j 0)).per) → ∃ p, exK x L k = some p ∧ ExI n p (csum x L n k)
  | 0, _, _ => ⟨(0, 1), rfl, ⟨by omega, ⟨n, by simp⟩, Int.le_refl _, by simp [csum], by decide⟩⟩
  | k + 1, hk, h => by
    obtain ⟨p, e, i⟩ := exK_good hn hn2 k (by omega) fun j hj => h j (by omega)
    obtain ⟨a, b, c, d⟩ := h k (by omega)
    have hs := (csum_le hn k fun j hj => h j (by omega)).2
    have hs2 : csum x L n k ≤ 100 * n := Int.le_trans hs (Int.mul_le_mul_of_nonneg_right (by omega) (by omega))
    obtain ⟨r, hr, ir⟩ := exi_step i hn hn2 hs2 a b c d
    exact ⟨r, by unfold exK; rw [e]; exact hr, ir⟩
theorem cop_no {p : Int × Int} {n s d : Int} (h : ExI n p s) (hd : 2 ≤ d) (h1 : d ∣ p.1) (h2 : d ∣ p.2) : False := by
  obtain ⟨e, rfl⟩ : ∃ e : Nat, d = e := ⟨d.toNat, by omega⟩
  have := h.nn
  have := h.d
  have a1 : e ∣ p.1.toNat := by rw [← Int.natCast_dvd_natCast, Int.toNat_of_nonneg h.nn]; exact h1
  have a2 : e ∣ p.2.toNat := by rw [← Int.natCast_dvd_natCast, Int.toNat_of_nonneg (by omega)]; exact h2
  have := Nat.dvd_gcd a1 a2
  rw [h.cop] at this
  have := Nat.le_of_dvd (by omega) this
  omega
theorem over_iff {p : Int × Int} {n s : Int} (h : ExI n p s) (hn : 0 < n) : ovB (some p) = decide (n < s) := by
  unfold ovB
  simp only
  obtain ⟨a, b, c⟩ := div_pos_of hn h.d h.dv
  have he := h.eq
  by_cases hlt : p.2 < p.1
  · have := Int.mul_lt_mul_of_pos_right hlt a
    rw [Int.mul_comm p.2, c, he] at this
    simp [hlt, this]
  · have := Int.mul_le_mul_of_nonneg_right (show p.1 ≤ p.2 by omega) (show 0 ≤ n / p.2 by omega)
    rw [Int.mul_comm p.2, c, he] at this
    simp [hlt, this]
end Go.Proofs.YtchmdnmifpjfkaaDoor
/- Plain law of this prover's own: a region in a round whose head only reads and whose tail, which may yield, stands in a row. -/
namespace Go.Proofs.YtchmdnmifpjfkaaDoor
open Go.RowKit
section
variable {l0 : Nat} {P : Program} {ops : Array Oper} {md : Region.Mode} {w : World}
theorem wpOpIn_of_stOpR {i : Nat} {a : Act} {K : Act → Prop} {K' : Act → World → Prop} {Q' : Exit → Act → World → Prop} (hd : ∀ (i : Nat) (o : Oper), ops[i]? = some o → ∀ c, o.op ≠ .defer c) (h : ∀ a, K a → K' a w) (hh : stOp P ops w i K a) : wpOpIn (Fence.wide.inRound l0) 0 P ops Q' i K' a w := by
  unfold stOp at hh
  unfold wpOpIn
  split
  · rename_i ho; simp only [ho] at hh; exact h _ hh
  · rename_i o ho
    simp only [ho] at hh
    split
    · rename_i hw; simp only [hw, if_true] at hh; exact oper_in (hd i o ho) (fun _ _ h => h) (Oper.wp_of_still h hh)
    · rename_i hw; simp only [hw] at hh; exact ⟨fun _ _ => trivial, h _ hh⟩
theorem wpAnyIn_of_headR (hd : ∀ (i : Nat) (o : Oper), ops[i]? = some o → ∀ c, o.op ≠ .defer c) {n g : Nat} {L : Array Bool → Act → Prop} {Q' : Exit → Act → World → Prop} (hL : ∀ listed a, L listed a → wpAnyIn (Fence.wide.inRound l0) 0 P md ops Q' g listed a w) :
    ∀ (f : Nat) (listed : Array Bool) (a : Act), wpAnyL P md ops w n L f listed a → wpAnyIn (Fence.wide.inRound l0) 0 P md ops Q' (f + g) listed a w
  | 0, listed, a, h => by rw [Nat.zero_add]; exact hL _ _ h
  | f + 1, listed, a, h => by
    rw [show f + 1 + g = (f + g) + 1 by omega]
    exact ⟨fun h0 => absurd h0 h.1, fun i hi => wpOpIn_of_stOpR hd (fun a' h' => wpAnyIn_of_headR hd hL f _ a' h') (h.2 i hi).2⟩
/-- The same, and the tail is walked inside the round: it may yield. -/
theorem wpIn_region_still_tailR {id : Nat} {Q : Exit → Act → World → Prop} {a : Act} {l : List Oper} (n : Nat) (hm : P.follows .mixedOrders = true) (hd : noDefer l = true) (hB : Region.lexTailB .any l.toArray n = true)
    (h : wpStill P l.toArray w.drew (fun a' => wpListIn (Fence.wide.inRound l0) 0 P l.toArray Q (l.drop n) a' w.drew) (l.take n) a) : (Code.region id l.toArray true).wpIn (Fence.wide.inRound l0) 0 P Q a w := by
  simp only [Region.lexTailB, Bool.and_eq_true, decide_eq_true_eq] at hB
  obtain ⟨⟨⟨⟨hsel, hn⟩, hs⟩, hc⟩, hlex⟩ := hB
  have hn' : n < l.length := by simpa using hn
  have htl : (l.take n).length = n := by simp; omega
  have hdl : (l.drop n).length = l.toArray.size - n := by simp
  have inv0 : HeadInv .any l.toArray n (Array.replicate l.toArray.size false) :=
    ⟨by simp, fun j oj _ hl => (by rw [getD_replicate_false] at hl; cases hl), fun t _ ht => getD_in (by simpa using ht) (getD_replicate_false _ _)⟩
  have H := wpAnyL_lex (md := .any) (g := l.toArray.size - n) hsel hs hc hn (l.take n) 0 _ a (fun j hj => by
    have hj' : j < n := by rw [htl] at hj; exact hj
    simp [hj']) (by simpa using htl) inv0 (by rw [htl]; exact hlex) h
  refine wpIn_region_any hm ?_
  have := wpAnyIn_of_headR (Q' := Q) (l0 := l0) (noDefer_spec hd) (g := l.toArray.size - n) (fun listed a' hL => by
    have := wpAnyIn_of_seq (F := Fence.wide.inRound l0) (n0 := 0) (md := .any) (Q' := Q) (l.drop n) n listed a' w.drew (fun j => by simp [List.getElem?_drop]) (by rw [hdl]; exact hL.1) hL.2
    rwa [hdl] at this) _ _ _ H
  rw [htl, show n + (l.toArray.size - n) = l.toArray.size by omega] at this
  exact this
end
end Go.Proofs.YtchmdnmifpjfkaaDoor
/- What load goes through: the tasks of a set that an image has, one by one. -/
namespace Go.Proofs.YtchmdnmifpjfkaaDoor
open Go.RowKit
attribute [local go_sem] Oper.semAt_some

/-- A task as a value. -/
def tkV (x : Img) (i : Nat) : Value := .agg #[.int .i64 (x.t i).per, .int .i64 (x.t i).dl, .int .i64 (x.t i).cost, .int .i64 (lonF x i 0), .int .i64 (lonF x i 1), .int .i64 (lonF x i 2), .int .i64 (lonF x i 3), .int .i64 (lonF x i 4), .int .i64 (lonF x i 5), .int .i64 (lonF x i 6), .int .i64 (lonF x i 7)]
/-- An invariant beside the box of a closure's yield. -/
def InT (F : World → Nat → Prop) (I : World → Prop) (Yb l : Nat) (A : World) : Prop := I A ∧ (¬ F A Yb ∧ Yb < A.heap.size) ∧ A.cell? ⟨Yb, 0, none⟩ = some (.func (.yield l) #[] #[])
def FIn (F : World → Nat → Prop) (Yb : Nat) (W : World) (j : Nat) : Prop := F W j ∨ j = Yb
theorem InT.foot {F : World → Nat → Prop} {I : World → Prop} (f : Foot F I) (Yb l : Nat) : Foot (FIn F Yb) (InT F I Yb l) where
  lt := fun W ⟨h1, h2, _⟩ j hj => by
    rcases hj with hj | rfl
    · exact f.lt W h1 j hj
    · exact h2.2
  keep := fun W W' ⟨h1, h2, h3⟩ hc => by
    have hk := f.keep W W' h1 (Ch.mono hc fun j _ hn hf => hn (.inl hf))
    exact ⟨⟨hk.1, ⟨fun hf => h2.1 (hk.2 _ hf), Nat.lt_of_lt_of_le h2.2 hc.size⟩, hc.cell h3 (fun hn => hn (.inr rfl))⟩, fun j hj => by
        rcases hj with hj | hj
        · exact .inl (hk.2 _ hj)
        · exact .inr hj⟩
theorem InT.step {F : World → Nat → Prop} {I I' : World → Prop} {Yb l : Nat} {A B : World} (h : InT F I Yb l A) (hs : Step F A B) (hI : I' B) : Step (FIn F Yb) A B ∧ InT F I' Yb l B := by
  obtain ⟨h1, h2, h3⟩ := h
  refine ⟨⟨Ch.mono hs.1 fun _ _ hf => .inl hf, fun j hj => ?_⟩, hI, ⟨hs.no h2.1 h2.2, Nat.lt_of_lt_of_le h2.2 hs.1.size⟩, hs.1.cell h3 h2.1⟩
  rcases hj with hj | hj
  · rcases hs.2 j hj with h | h
    · exact .inl (.inl h)
    · exact .inr h
  · exact .inl (.inr hj)
theorem InT.off {F : World → Nat → Prop} {I : World → Prop} (f : Foot F I) {Yb l : Nat} {A B : World} (h : InT F I Yb l A) (hc : Ch (fun _ => False) A B) : InT F I Yb l B ∧ ∀ j, F B j → F A j :=
  ⟨((InT.foot f Yb l).keep A B h (Off.nothing hc)).1, (f.keep A B h.1 (Off.nothing hc)).2⟩
/-- Where an image lies whose cells a range's body leaves. -/
structure TkAt (W : World) (Bi : Nat) (x : Img) (S : ImgS) : Prop where
  c1 : W.cell? ⟨Bi, 1, none⟩ = some (.slice S.t.sp x.tasks.length S.t.c)
  sp : 0 < x.tasks.length → S.t.sp = some ⟨S.t.b, S.t.o, none⟩
  tk : ∀ i, i < x.tasks.length → W.cell? ⟨S.t.b, S.t.o + i * 11, none⟩ = some (.int .i64 (x.t i).per) ∧ W.cell? ⟨S.t.b, S.t.o + i * 11 + 1, none⟩ = some (.int .i64 (x.t i).dl) ∧ W.cell? ⟨S.t.b, S.t.o + i * 11 + 2, none⟩ = some (.int .i64 (x.t i).cost) ∧ W.cell? ⟨S.t.b, S.t.o + i * 11 + 3, none⟩ = some (.int .i64 (lonF x i 0)) ∧ W.cell? ⟨S.t.b, S.t.o + i * 11 + 4, none⟩ = some (.int .i64 (lonF x i 1)) ∧ W.cell? ⟨S.t.b, S.t.o + i * 11 + 5, none⟩ = some (.int .i64 (lonF x i 2)) ∧ W.cell? ⟨S.t.b, S.t.o + i * 11 + 6, none⟩ = some (.int .i64 (lonF x i 3)) ∧ W.cell? ⟨S.t.b, S.t.o + i * 11 + 7, none⟩ = some (.int .i64 (lonF x i 4)) ∧ W.cell? ⟨S.t.b, S.t.o + i * 11 + 8, none⟩ = some (.int .i64 (lonF x i 5)) ∧ W.cell? ⟨S.t.b, S.t.o + i * 11 + 9, none⟩ = some (.int .i64 (lonF x i 6)) ∧ W.cell? ⟨S.t.b, S.t.o + i * 11 + 10, none⟩ = some (.int .i64 (lonF x i 7))
theorem TkAt.of {W : World} {V : Nat → Prop} {Bi : Nat} {x : Img} {S : ImgS} (h : ImgAt W V x S) (c1 : W.cell? ⟨Bi, 1, none⟩ = some (.slice S.t.sp x.tasks.length S.t.c)) : TkAt W Bi x S where
  c1 := c1
  sp := fun h0 => (h.st.at_ h0).1
  tk := fun _i hi => task_cells h hi
end Go.Proofs.YtchmdnmifpjfkaaDoor
/- The contract of load's Round. -/
namespace Go.Proofs.YtchmdnmifpjfkaaDoor
open Go.RowKit
attribute [local go_sem] Oper.semAt_some

/-- Two boxes beside each other that a range's body turns. -/
def C2 (w6 : World) (B : Nat) (t t' : TypeId) (cs cs' : Array Value) (W : World) : Prop := Ch (fun j => j = B ∨ j = B + 1) w6 W ∧ RowAt W B t cs ∧ RowAt W (B + 1) t' cs'
theorem C2.foot {w6 : World} {B b : Nat} {t t' : TypeId} {cs cs' : Array Value} (hb : w6.heap.size = b) (hB : B + 1 < b) : Foot (fun _ j => j < b) (C2 w6 B t t' cs cs') where
  lt := fun W ⟨h, _⟩ j hj => by have := h.size; omega
  keep := fun W W' ⟨h1, h2, h3⟩ hc => by
    refine ⟨⟨((h1.mono (T' := fun j => (j = B ∨ j = B + 1) ∨ b ≤ j) (fun _ _ h => .inl h)).trans (hc.mono fun j _ hn => .inr (by have : ¬ j < b := hn; omega))).mono fun j hj h => ?_, h2.keep hc (fun hn => hn (show B < b by omega)), h3.keep hc (fun hn => hn hB)⟩, fun j hj => hj⟩
    rcases h with h | h
    · exact h
    · omega
theorem C2.off {w6 W W' : World} {B : Nat} {t t' : TypeId} {cs cs' : Array Value} (h : C2 w6 B t t' cs cs' W) (hb : Below W.heap.size W W') : C2 w6 B t t' cs cs' W' :=
  ⟨h.1.trans (Ch.mono (Ch.new hb) fun _ _ (h : False) => h.elim), h.2.1.new hb, h.2.2.new hb⟩
theorem C2.set {w6 W : World} {B : Nat} {t t' : TypeId} {a b : Value} (h : C2 w6 B t t' #[a] #[b] W) (v u : Value) : C2 w6 B t t' #[v] #[u] ((W.setCell ⟨B, 0, none⟩ v).setCell ⟨B + 1, 0, none⟩ u) := by
  have c1 : Ch (fun j => j = B) W (W.setCell ⟨B, 0, none⟩ v) := (Ch.refl _ _).setCell _ _ (.inl rfl)
  have c2 : Ch (fun j => j = B + 1) (W.setCell ⟨B, 0, none⟩ v) ((W.setCell ⟨B, 0, none⟩ v).setCell ⟨B + 1, 0, none⟩ u) := (Ch.refl _ _).setCell _ _ (.inl rfl)
  exact ⟨(h.1.setCell _ _ (.inl (.inl rfl))).setCell _ _ (.inl (.inr rfl)), (h.2.1.setC 0 v).keep c2 (fun e => by have e' : B = B + 1 := e; omega), (h.2.2.keep c1 (fun e => by have e' : B + 1 = B := e; omega)).setC 0 u⟩
theorem C2.turn {W w7 : World} {B b : Nat} (hB : B + 1 < b) (hb : Below W.heap.size W w7) (v u : Value) : Step (fun _ j => j < b) W ((w7.setCell ⟨B, 0, none⟩ v).setCell ⟨B + 1, 0, none⟩ u) :=
  ⟨((Ch.mono (Ch.new hb) fun _ _ (h : False) => h.elim).setCell _ _ (.inl (show B < b by omega))).setCell _ _ (.inl hB), fun _ hj => .inl hj⟩
theorem Foot.snd {F : World → Nat → Prop} {I : World → Prop} {p : Prop} (h : Foot F I) : Foot F (fun W => I W ∧ p) := ⟨fun W hw => h.lt W hw.1, fun W W' hw hc => ⟨⟨(h.keep W W' hw.1 hc).1, hw.2⟩, (h.keep W W' hw.1 hc).2⟩⟩
end Go.Proofs.YtchmdnmifpjfkaaDoor
/- The contracts of load's shorten, add, thousandths and Less. -/
namespace Go.Proofs.YtchmdnmifpjfkaaDoor
open Go.RowKit

theorem rows3_of {w w3 : World} {a b c : Array Value} {ta tb tc : TypeId} (h : Below (((w.alloc (.cells a ta)).alloc (.cells b tb)).alloc (.cells c tc)).heap.size (((w.alloc (.cells a ta)).alloc (.cells b tb)).alloc (.cells c tc)) w3) :
    Below w.heap.size w w3 ∧ RowAt w3 w.heap.size ta a ∧ RowAt w3 (w.heap.size + 1) tb b ∧ RowAt w3 (w.heap.size + 1 + 1) tc c := by
  obtain ⟨b0, z0, r0, r1, r2⟩ := rows3 w a b c ta tb tc
  exact ⟨b0.trans (h.mono b0.size), r0.new h, r1.new h, r2.new h⟩
def ptV (p : Int × Int) : Value := .agg #[.int .i64 p.1, .int .i64 p.2]
theorem addP_some {a b c d : Int} (hm : mupB b d = true) (h1 : mulB a (mupN b d / b) = true) (h2 : mulB c (mupN b d / d) = true) (h3 : addB (mulN a (mupN b d / b)) (mulN c (mupN b d / d)) = true) : addP (a, b) (c, d) = some (addN (mulN a (mupN b d / b)) (mulN c (mupN b d / d)) / comN (addN (mulN a (mupN b d / b)) (mulN c (mupN b d / d))) (mupN b d), mupN b d / comN (addN (mulN a (mupN b d / b)) (mulN c (mupN b d / d))) (mupN b d)) := by
  unfold addP
  simp only
  rw [if_pos hm, if_pos h1, if_pos h2, if_pos h3]
theorem addN_num {a b : Int} (h : addB a b = true) : 0 ≤ addN a b ∧ addN a b ≤ 1099511627776 := by
  unfold addN
  simp only [addB, Bool.and_eq_true, numB_iff] at h
  rw [if_pos (by simp only [Bool.and_eq_true, numB_iff]; exact h)]
  exact h.2
end Go.Proofs.YtchmdnmifpjfkaaDoor
/- Window's shifts as rows; the contracts of times.of, Window and Behind. -/
namespace Go.Proofs.YtchmdnmifpjfkaaDoor
open Go.RowKit

/-- Sixteen numbers as a row. -/
def tml (f : Nat → Int) : List Value := (List.range 16).map fun i => .int .i64 (f i)
theorem tml_len (f : Nat → Int) : (tml f).length = 16 := by simp [tml]
theorem tml_at (f : Nat → Int) (k : Nat) (hk : k < 16) : (tml f)[k]? = some (.int .i64 (f k)) := by simp [tml, hk]
theorem tml_set (f : Nat → Int) (k : Nat) (v : Int) : (tml f).set k (.int .i64 v) = tml (updF f k v) := by
  apply List.ext_getElem?
  intro i
  rw [List.getElem?_set]
  by_cases hi : i < 16
  · rw [tml_at _ i hi, tml_at _ i hi]
    by_cases e : k = i
    · subst e
      rw [if_pos rfl, if_pos (by rw [tml_len]; exact hi)]
      simp [updF]
    · rw [if_neg e]
      have : ¬ i = k := fun h => e h.symm
      simp [updF, this]
  · have h1 : (tml (updF f k v))[i]? = none := List.getElem?_eq_none (by rw [tml_len]; omega)
    have h2 : (tml f)[i]? = none := List.getElem?_eq_none (by rw [tml_len]; omega)
    rw [h1, h2]
    split
    · split
      · rename_i a b
        rw [tml_len] at b
        omega
      · rfl
    · rfl
/-- A shift as a row. -/
def shl_ (o n s : BitVec 32) (fo fw fb : Nat → Int) : List Value := [.int .u32 (w32 o), .int .u32 (w32 n), .int .u32 (w32 s)] ++ (tml fo ++ (tml fw ++ tml fb))
theorem shl_len (o n s : BitVec 32) (fo fw fb : Nat → Int) : (shl_ o n s fo fw fb).length = 51 := by simp [shl_, tml_len]
theorem shl_o (o n s : BitVec 32) (fo fw fb : Nat → Int) (k : Nat) (hk : k < 16) : (shl_ o n s fo fw fb)[3 + k]? = some (.int .i64 (fo k)) := by
  unfold shl_
  rw [List.getElem?_append_right (by simp), List.getElem?_append_left (by rw [tml_len]; simp; omega)]
  have := tml_at fo k hk
  simpa using this
theorem shl_w (o n s : BitVec 32) (fo fw fb : Nat → Int) (k : Nat) (hk : k < 16) : (shl_ o n s fo fw fb)[19 + k]? = some (.int .i64 (fw k)) := by
  unfold shl_
  rw [List.getElem?_append_right (by simp; omega), List.getElem?_append_right (by rw [tml_len]; simp; omega), List.getElem?_append_left (by rw [tml_len, tml_len]; simp; omega)]
  have := tml_at fw k hk
  rw [tml_len]
  rw [← this]
  congr 1
  simp
  omega
theorem shl_b (o n s : BitVec 32) (fo fw fb : Nat → Int) (k : Nat) (hk : k < 16) : (shl_ o n s fo fw fb)[35 + k]? = some (.int .i64 (fb k)) := by
  unfold shl_
  rw [List.getElem?_append_right (by simp; omega), List.getElem?_append_right (by rw [tml_len]; simp; omega), List.getElem?_append_right (by rw [tml_len, tml_len]; simp; omega)]
  have := tml_at fb k hk
  rw [tml_len, tml_len]
  rw [← this]
  congr 1
  simp
  omega
def oneT (f : Nat → Int) (i : Int) : Int := if 0 ≤ i ∧ i < 16 then f i.toNat else 0
def ofB (f : Nat → Int) (i : Int) : Bool := decide (oneT f i ≠ 0)
set_option maxHeartbeats 4000000 in
set_option maxRecDepth 100000 in
theorem wnof_any (f : Nat → Int) (i : Int) (w : World) : Calls Tryd.prog 39 #[.agg (tml f).toArray, .int .i64 i] w fun e w' => e = .returned (.tuple #[.int .i64 (oneT f i), .bool (ofB f i)]) ∧ Below w.heap.size w w' := by
  have HR := Lib.hid (RowAt.mk w 34 (tml f).toArray)
  have HB := Lib.hid ((Below.refl w.heap.size w).alloc (Nat.le_refl _) (.cells (tml f).toArray 34))
  have HT := Lib.hid (show ∀ k, k < 16 → (tml f).toArray[k]? = some (.int .i64 (f k)) from fun k hk => by rw [List.getElem?_toArray]; exact tml_at f k hk)
  unfold ofB oneT
  obtain ⟨T, hT⟩ : ∃ T, (tml f).toArray = T := ⟨_, rfl⟩
  rw [hT] at HR HB HT ⊢
  clear hT
  by_cases h0 : i < 0
  · rw [if_neg (by omega)]
    go_enter Tryd.func39, Tryd.ntmps39
    go_wp2
    go_ret2
    exact ⟨rfl, HB.out⟩
  · by_cases h1 : i < 16
    · rw [if_pos (by omega)]
      obtain ⟨k, rfl⟩ : ∃ k : Nat, i = k := ⟨i.toNat, by omega⟩
      have hk : k < 16 := by omega
      have h2 : ¬ (16 : Int) ≤ (k : Int) := by omega
      rw [Int.toNat_natCast]
      have HC := Lib.hid (show (w.alloc (.cells T 34)).cell? ⟨w.heap.size, k, none⟩ = some (.int .i64 (f k)) from (HR.out.cell k).trans (HT.out k hk))
      obtain ⟨v, hv⟩ : ∃ v, f k = v := ⟨_, rfl⟩
      rw [hv] at HC ⊢
      clear HT HR hv
      go_enter Tryd.func39, Tryd.ntmps39
      go_upto_region 1 with fail
      generalize hw2 : World.alloc _ _ = w2
      rw [hw2] at HC HB
      have hc := HC.out
      by_cases hv : v = 0
      · subst hv
        go_wp2
        go_ret2
        exact ⟨rfl, HB.out⟩
      · go_wp2
        go_ret2
        exact ⟨by simp, HB.out⟩
    · rw [if_neg (by omega)]
      have h2 : (16 : Int) ≤ i := by omega
      go_enter Tryd.func39, Tryd.ntmps39
      go_wp2
      go_ret2
      exact ⟨rfl, HB.out⟩
theorem shl_range (o n s : BitVec 32) (fo fw fb : Nat → Int) {w : World} {b : Nat} {t : TypeId} (h : RowAt w b t (shl_ o n s fo fw fb).toArray) : (∀ j u, (tml fw)[j]? = some u → w.cell? ⟨b, 19 + j, none⟩ = some u) ∧ (∀ j u, (tml fb)[j]? = some u → w.cell? ⟨b, 35 + j, none⟩ = some u) := by
  have hc := fun k => h.cell k
  refine ⟨fun j u hu => ?_, fun j u hu => ?_⟩
  · have hj : j < 16 := by
      have := (List.getElem?_eq_some_iff.1 hu).1
      rwa [tml_len] at this
    rw [tml_at _ j hj] at hu
    rw [hc (19 + j), List.getElem?_toArray, shl_w _ _ _ _ _ _ j hj]
    exact hu
  · have hj : j < 16 := by
      have := (List.getElem?_eq_some_iff.1 hu).1
      rwa [tml_len] at this
    rw [tml_at _ j hj] at hu
    rw [hc (35 + j), List.getElem?_toArray, shl_b _ _ _ _ _ _ j hj]
    exact hu
end Go.Proofs.YtchmdnmifpjfkaaDoor
/- The contracts of a shift's Window, Behind, late and Late. -/
namespace Go.Proofs.YtchmdnmifpjfkaaDoor
open Go.RowKit

set_option maxHeartbeats 4000000 in
set_option maxRecDepth 100000 in
theorem wnWin_any (o n s : BitVec 32) (fo fw fb : Nat → Int) (i : Int) (w : World) : Calls Tryd.prog 12 #[.agg (shl_ o n s fo fw fb).toArray, .int .i64 i] w fun e w' => e = .returned (.tuple #[.int .i64 (oneT fw i), .bool (ofB fw i)]) ∧ Below w.heap.size w w' := by
  have HB := Lib.hid (show ∀ T : Array Value, Below w.heap.size w (w.alloc (.cells T 36)) from fun T => (Below.refl _ _).alloc (Nat.le_refl _) _)
  have HR := Lib.hid (shl_range o n s fo fw fb (RowAt.mk w 36 _)).1
  obtain ⟨T, hT⟩ : ∃ T, (shl_ o n s fo fw fb).toArray = T := ⟨_, rfl⟩
  rw [hT] at HR ⊢
  have HL := Lib.hid (tml_len fw)
  have HO := Lib.hid (show ∀ wx, _ from fun wx => wnof_any fw i wx)
  obtain ⟨r0, hr0⟩ : ∃ v, oneT fw i = v := ⟨_, rfl⟩
  obtain ⟨r1, hr1⟩ : ∃ v, ofB fw i = v := ⟨_, rfl⟩
  rw [hr0, hr1] at HO ⊢
  obtain ⟨l, hl⟩ : ∃ l, tml fw = l := ⟨_, rfl⟩
  rw [hl] at HR HL HO
  clear hT hr0 hr1 hl
  go_enter Tryd.func12, Tryd.ntmps12
  go_upto_region 1 with fail
  generalize hw2 : World.alloc _ _ = w2
  have HB2 := Lib.hid (show Below w.heap.size w w2 from by rw [← hw2]; exact HB.out T)
  rw [hw2] at HR
  clear hw2 HB
  go_wp2_with (first
    | (refine wpList_load_mid rfl 34 (.tmp 6) rfl w.heap.size 19 rfl l _ HR.out Tryd.underlying34 rfl (by rw [HL.out]; kernel_rfl) ?_)
    | (go_at_call 39; refine (HO.out _).mono ?_; rintro e w3 ⟨rfl, b3⟩; have H3 := Lib.hid (HB2.out.trans (b3.mono HB2.out.size)); clear b3)
    | fail)
  go_ret2
  exact ⟨rfl, H3.out⟩
set_option maxHeartbeats 4000000 in
set_option maxRecDepth 100000 in
theorem wnBeh_any (o n s : BitVec 32) (fo fw fb : Nat → Int) (i : Int) (w : World) : Calls Tryd.prog 13 #[.agg (shl_ o n s fo fw fb).toArray, .int .i64 i] w fun e w' => e = .returned (.tuple #[.int .i64 (oneT fb i), .bool (ofB fb i)]) ∧ Below w.heap.size w w' := by
  have HB := Lib.hid (show ∀ T : Array Value, Below w.heap.size w (w.alloc (.cells T 36)) from fun T => (Below.refl _ _).alloc (Nat.le_refl _) _)
  have HR := Lib.hid (shl_range o n s fo fw fb (RowAt.mk w 36 _)).2
  obtain ⟨T, hT⟩ : ∃ T, (shl_ o n s fo fw fb).toArray = T := ⟨_, rfl⟩
  rw [hT] at HR ⊢
  have HL := Lib.hid (tml_len fb)
  have HO := Lib.hid (show ∀ wx, _ from fun wx => wnof_any fb i wx)
  obtain ⟨r0, hr0⟩ : ∃ v, oneT fb i = v := ⟨_, rfl⟩
  obtain ⟨r1, hr1⟩ : ∃ v, ofB fb i = v := ⟨_, rfl⟩
  rw [hr0, hr1] at HO ⊢
  obtain ⟨l, hl⟩ : ∃ l, tml fb = l := ⟨_, rfl⟩
  rw [hl] at HR HL HO
  clear hT hr0 hr1 hl
  go_enter Tryd.func13, Tryd.ntmps13
  go_upto_region 1 with fail
  generalize hw2 : World.alloc _ _ = w2
  have HB2 := Lib.hid (show Below w.heap.size w w2 from by rw [← hw2]; exact HB.out T)
  rw [hw2] at HR
  clear hw2 HB
  go_wp2_with (first
    | (refine wpList_load_mid rfl 34 (.tmp 6) rfl w.heap.size 35 rfl l _ HR.out Tryd.underlying34 rfl (by rw [HL.out]; kernel_rfl) ?_)
    | (go_at_call 39; refine (HO.out _).mono ?_; rintro e w3 ⟨rfl, b3⟩; have H3 := Lib.hid (HB2.out.trans (b3.mono HB2.out.size)); clear b3)
    | fail)
  go_ret2
  exact ⟨rfl, H3.out⟩
theorem wnLate_any (I : Array Value) (w : World) : Calls Tryd.prog 46 #[.agg I] w fun e w' => e = .returned (.func (.func 74) #[] #[.pointer (some ⟨w.heap.size, 0, none⟩)]) ∧ w' = w.alloc (.cells I 36) := by
  have hmf : ∀ (fn : Fn) (first cap : Array Value) (w : World), (Instr.makeFunc fn first cap).run Tryd.prog w = .ok (.func fn first cap) w := fun _ _ _ _ => rfl
  go_enter Tryd.func46, Tryd.ntmps46
  go_wp2
  go_ret
  exact ⟨rfl, rfl⟩
/-- May a task be late? -/
def lateB (n s : BitVec 32) (fw fb : Nat → Int) (i : Int) : Bool := !(ofB fw i) || (!(ofB fb i) && hasB (n ||| s) i)
set_option maxHeartbeats 8000000 in
set_option maxRecDepth 100000 in
theorem wnlate_any (o n s : BitVec 32) (fo fw fb : Nat → Int) (i : Int) (w : World) : Calls Tryd.prog 75 #[.agg (shl_ o n s fo fw fb).toArray, .int .i64 i] w fun e w' => e = .returned (.bool (lateB n s fw fb i)) ∧ Below w.heap.size w w' := by
  have HB := Lib.hid (show ∀ T : Array Value, Below w.heap.size w (w.alloc (.cells T 36)) from fun T => (Below.refl _ _).alloc (Nat.le_refl _) _)
  have HT := Lib.hid (show (shl_ o n s fo fw fb).toArray[0]? = some (.int .u32 (w32 o)) ∧ (shl_ o n s fo fw fb).toArray[1]? = some (.int .u32 (w32 n)) ∧ (shl_ o n s fo fw fb).toArray[2]? = some (.int .u32 (w32 s)) ∧ (shl_ o n s fo fw fb).toArray.size = 51 from ⟨by simp [shl_], by simp [shl_], by simp [shl_], by simp [shl_len]⟩)
  have HW := Lib.hid (show ∀ wx, _ from fun wx => wnWin_any o n s fo fw fb i wx)
  have HE := Lib.hid (show ∀ wx, _ from fun wx => wnBeh_any o n s fo fw fb i wx)
  have HO := Lib.hid (show ∀ wx, _ from fun wx => clsTo_any o n s wx)
  have HH := Lib.hid (show ∀ wx, _ from fun wx => mhas_any (n ||| s) i wx)
  unfold lateB
  obtain ⟨T, hT⟩ : ∃ T, (shl_ o n s fo fw fb).toArray = T := ⟨_, rfl⟩
  rw [hT] at HT HW HE ⊢
  obtain ⟨r0, hr0⟩ : ∃ v, oneT fw i = v := ⟨_, rfl⟩
  obtain ⟨r1, hr1⟩ : ∃ v, ofB fw i = v := ⟨_, rfl⟩
  obtain ⟨q0, hq0⟩ : ∃ v, oneT fb i = v := ⟨_, rfl⟩
  obtain ⟨q1, hq1⟩ : ∃ v, ofB fb i = v := ⟨_, rfl⟩
  obtain ⟨hh, hhh⟩ : ∃ v, hasB (n ||| s) i = v := ⟨_, rfl⟩
  rw [hr0, hr1] at HW
  rw [hq0, hq1] at HE
  rw [show decide (i ∈ ints (lst (n ||| s) 32)) = hh from hhh] at HH
  rw [hr1, hq1, hhh]
  obtain ⟨Z, hZ⟩ : ∃ Z, Z = w.heap.size := ⟨_, rfl⟩
  have HI := Lib.hid (show (Tryd.prog.info? 36).map (·.size) = some T.size by rw [HT.out.2.2.2]; kernel_rfl)
  clear hT hr0 hr1 hq0 hq1 hhh
  cases r1 <;> cases q1
  all_goals
    go_enter Tryd.func75, Tryd.ntmps75
    go_upto_region 1 with fail
    rw [← hZ]
    generalize hw2 : World.alloc _ _ = w2
    have H2 := Lib.hid (show Below w.heap.size w w2 ∧ RowAt w2 Z 36 T by
      rw [← hw2, hZ]
      exact ⟨HB.out T, RowAt.mk _ _ _⟩)
    clear hw2 hZ
    go_wp2_with (first
      | (refine wpList_load_row rfl 36 (.tmp 2) rfl Z rfl 36 T (0, 0) _ H3.out.2 Tryd.underlying36 rfl HI.out ?_)
      | (refine wpList_load_row rfl 36 (.tmp 2) rfl Z rfl 36 T (0, 0) _ H2.out.2 Tryd.underlying36 rfl HI.out ?_)
      | (go_at_call 12; refine (HW.out _).mono ?_; rintro e w3 ⟨rfl, b3⟩; have H3 := Lib.hid (And.intro (H2.out.1.trans (b3.mono H2.out.1.size)) (H2.out.2.new b3)); clear b3)
      | (go_at_call 13; refine (HE.out _).mono ?_; rintro e w4 ⟨rfl, b4⟩; have H4 := Lib.hid (And.intro (H3.out.1.trans (b4.mono H3.out.1.size)) (H3.out.2.new b4)); clear b4; have c0 := (H4.out.2.cell 0).trans HT.out.1; have c1 := (H4.out.2.cell 1).trans HT.out.2.1; have c2 := (H4.out.2.cell 2).trans HT.out.2.2.1)
      | (go_at_call 36; refine (HO.out _).mono ?_; rintro e w5 ⟨rfl, b5⟩; have H5 := Lib.hid (H4.out.1.trans (b5.mono H4.out.1.size)); clear b5)
      | (go_at_call 31; refine (HH.out _).mono ?_; rintro e w' ⟨rfl, rfl⟩)
      | fail)
    go_ret
    first
      | exact ⟨rfl, H4.out.1⟩
      | exact ⟨by simp, H5.out⟩
end Go.Proofs.YtchmdnmifpjfkaaDoor
/- The contracts of load's thousandths and Less. -/
namespace Go.Proofs.YtchmdnmifpjfkaaDoor
open Go.RowKit

def lessP (a b c d : Int) : Bool := mulB a d && (mulB c b && decide (mulN a d < mulN c b))
end Go.Proofs.YtchmdnmifpjfkaaDoor
/- The contract of load's Exact. -/
namespace Go.Proofs.YtchmdnmifpjfkaaDoor
open Go.RowKit
attribute [local go_sem] Oper.semAt_some

theorem C2.set3 {w6 W : World} {B : Nat} {t t' : TypeId} {a a' b : Value} (h : C2 w6 B t t' #[a, a'] #[b] W) (v v' u : Value) : C2 w6 B t t' #[v, v'] #[u] (((W.setCell ⟨B, 0, none⟩ v).setCell ⟨B, 1, none⟩ v').setCell ⟨B + 1, 0, none⟩ u) := by
  have c1 : Ch (fun j => j = B) W ((W.setCell ⟨B, 0, none⟩ v).setCell ⟨B, 1, none⟩ v') := ((Ch.refl (fun j => j = B) W).setCell _ _ (.inl rfl)).setCell _ _ (.inl rfl)
  have c2 : Ch (fun j => j = B + 1) ((W.setCell ⟨B, 0, none⟩ v).setCell ⟨B, 1, none⟩ v') (((W.setCell ⟨B, 0, none⟩ v).setCell ⟨B, 1, none⟩ v').setCell ⟨B + 1, 0, none⟩ u) := (Ch.refl _ _).setCell _ _ (.inl rfl)
  exact ⟨((h.1.setCell _ _ (.inl (.inl rfl))).setCell _ _ (.inl (.inl rfl))).setCell _ _ (.inl (.inr rfl)), ((h.2.1.setC 0 v).setC 1 v').keep c2 (fun e => by have e' : B = B + 1 := e; omega), (h.2.2.keep c1 (fun e => by have e' : B + 1 = B := e; omega)).setC 0 u⟩
theorem C2.turn3 {W w7 : World} {B b : Nat} (hB : B + 1 < b) (hb : Below W.heap.size W w7) (v v' u : Value) : Step (fun _ j => j < b) W (((w7.setCell ⟨B, 0, none⟩ v).setCell ⟨B, 1, none⟩ v').setCell ⟨B + 1, 0, none⟩ u) :=
  ⟨(((Ch.mono (Ch.new hb) fun _ _ (h : False) => h.elim).setCell _ _ (.inl (show B < b by omega))).setCell _ _ (.inl (show B < b by omega))).setCell _ _ (.inl hB), fun _ hj => .inl hj⟩
end Go.Proofs.YtchmdnmifpjfkaaDoor
/- The contract of load's Over. -/
namespace Go.Proofs.YtchmdnmifpjfkaaDoor
open Go.RowKit

end Go.Proofs.YtchmdnmifpjfkaaDoor
