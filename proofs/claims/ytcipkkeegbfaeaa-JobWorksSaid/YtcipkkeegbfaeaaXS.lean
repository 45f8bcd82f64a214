/- What a job holds while it works: plain facts. -/
import Derived.Test.YtcipkkeegbfaeaaXR
namespace Go.Proofs.Ytcipkkeegbfaeaa
open Go.RowKit

/-- A section that a job may have. -/
structure SecOK (f : Nat → Int) (c : Int) (s : Sec) : Prop where
  r0 : 0 ≤ s.r
  r8 : s.r < 8
  f0 : 0 ≤ s.f
  ft : s.f < s.t
  tc : s.t ≤ c
  lo : s.t - s.f ≤ f s.r.toNat
theorem cut_ok {f : Nat → Int} {fr c : Int} {s : Sec} (h0 : 0 ≤ fr) (h : cutB f fr c s = true) : SecOK f c (cutS f c s) ∧ fr ≤ s.f ∧ s.f < (cutS f c s).t := by
  simp only [cutB, Bool.and_eq_true, Bool.not_eq_true', decide_eq_false_iff_not] at h
  obtain ⟨h1, h2, h3, h4, h5, h6⟩ := h
  have hm : 1 ≤ min3 (s.t - s.f) (c - s.f) (f s.r.toNat) ∧ min3 (s.t - s.f) (c - s.f) (f s.r.toNat) ≤ c - s.f ∧ min3 (s.t - s.f) (c - s.f) (f s.r.toNat) ≤ f s.r.toNat := by
    unfold min3
    refine ⟨?_, ?_, ?_⟩ <;> (repeat' split) <;> omega
  refine ⟨⟨?_, ?_, ?_, ?_, ?_, ?_⟩, by omega, ?_⟩ <;> simp only [cutS] <;> omega
theorem goJ_good (f : Nat → Int) (c : Int) (L : Nat → Sec) : ∀ n, (∀ s ∈ (goJ f c L n).1, SecOK f c s ∧ s.t ≤ (goJ f c L n).2) ∧ (goJ f c L n).1.Pairwise (fun a b => a.t ≤ b.f)
  | 0 => ⟨fun s hs => by simp [goJ] at hs, by simp [goJ]⟩
  | n + 1 => by
    have ih := goJ_good f c L n
    have hfr := (goJ_from f c L n).1
    show (∀ s ∈ (oneJ f c (goJ f c L n) (L n)).1, SecOK f c s ∧ s.t ≤ (oneJ f c (goJ f c L n) (L n)).2) ∧ (oneJ f c (goJ f c L n) (L n)).1.Pairwise (fun a b => a.t ≤ b.f)
    unfold oneJ
    split
    · exact ih
    · split
      · rename_i h
        obtain ⟨k1, k2, k3⟩ := cut_ok hfr h
        refine ⟨fun s hs => ?_, ?_⟩
        · rcases List.mem_append.1 hs with hs | hs
          · have := (ih.1 s hs).2
            refine ⟨(ih.1 s hs).1, ?_⟩
            show s.t ≤ (cutS f c (L n)).t
            omega
          · obtain rfl := List.mem_singleton.1 hs
            exact ⟨k1, Int.le_refl _⟩
        · refine List.pairwise_append.2 ⟨ih.2, List.pairwise_singleton _ _, fun a ha b hb => ?_⟩
          obtain rfl := List.mem_singleton.1 hb
          have := (ih.1 a ha).2
          show a.t ≤ (L n).f
          omega
      · exact ih
/-- A row of sections that a job may have, one behind the other. -/
structure RowOK (f : Nat → Int) (c : Int) (g : Nat → Sec) (N : Nat) : Prop where
  ok : ∀ k, k < N → SecOK f c (g k)
  lt : ∀ j k, j < k → k < N → (g j).t ≤ (g k).f
theorem row_ok (f : Nat → Int) (c : Int) (L : Nat → Sec) (n : Nat) : RowOK f c (fun k => (secsJ f c L n).getD k default) (secsJ f c L n).length := by
  have h := goJ_good f c L n
  have hg : ∀ k (hk : k < (secsJ f c L n).length), (secsJ f c L n).getD k default = (secsJ f c L n)[k] := fun k hk => by simp [List.getD, hk]
  refine ⟨fun k hk => ?_, fun j k hj hk => ?_⟩
  · show SecOK f c ((secsJ f c L n).getD k default)
    rw [hg k hk]
    exact (h.1 _ (List.getElem_mem hk)).1
  · show ((secsJ f c L n).getD j default).t ≤ ((secsJ f c L n).getD k default).f
    rw [hg k hk, hg j (by omega)]
    exact List.pairwise_iff_getElem.1 h.2 j k (show j < (secsJ f c L n).length by omega) hk hj
theorem RowOK.one {f : Nat → Int} {c : Int} {g : Nat → Sec} {N : Nat} (h : RowOK f c g N) {d : Int} {j k : Nat} (hj : j < N) (hk : k < N) (h1 : (g j).f ≤ d) (h2 : d < (g j).t) (h3 : (g k).f ≤ d) (h4 : d < (g k).t) : j = k := by
  rcases Nat.lt_trichotomy j k with e | e | e
  · have := h.lt j k e hk; omega
  · exact e
  · have := h.lt k j e hj; omega
theorem takes_iff {d : Int} {s : Sec} : takesB d s = true ↔ s.f ≤ d ∧ d < s.t := by simp [takesB]
theorem holds_iff {d : Int} {s : Sec} : holdsB d s = true ↔ s.f < d ∧ d < s.t := by simp [holdsB]
/-- What is taken, what is held, so much done. -/
def tkJ (g : Nat → Sec) (N : Nat) (d : Int) : Int := resI g (firstI (fun k => takesB d (g k)) N 0)
def hdJ (g : Nat → Sec) (N : Nat) (d : Int) : Int := resI g (firstI (fun k => holdsB d (g k)) N 0)
theorem tk_is {f : Nat → Int} {c : Int} {g : Nat → Sec} {N : Nat} (h : RowOK f c g N) {d : Int} {k : Nat} (hk : k < N) (h1 : (g k).f ≤ d) (h2 : d < (g k).t) : tkJ g N d = (g k).r := by
  unfold tkJ
  rw [firstI_is (i := k) (takes_iff.2 ⟨h1, h2⟩) (Nat.zero_le _) (by omega) (fun j _ hj => by
    rw [Bool.eq_false_iff]
    intro hp
    obtain ⟨a, b⟩ := takes_iff.1 hp
    have := h.one (show j < N by omega) hk a b h1 h2
    omega)]
  rfl
theorem hd_is {f : Nat → Int} {c : Int} {g : Nat → Sec} {N : Nat} (h : RowOK f c g N) {d : Int} {k : Nat} (hk : k < N) (h1 : (g k).f < d) (h2 : d < (g k).t) : hdJ g N d = (g k).r := by
  unfold hdJ
  rw [firstI_is (i := k) (holds_iff.2 ⟨h1, h2⟩) (Nat.zero_le _) (by omega) (fun j _ hj => by
    rw [Bool.eq_false_iff]
    intro hp
    obtain ⟨a, b⟩ := holds_iff.1 hp
    have := h.one (show j < N by omega) hk (by omega) b (by omega) h2
    omega)]
  rfl
theorem hd_no {g : Nat → Sec} {N : Nat} {d : Int} (h : ∀ k, k < N → ¬ ((g k).f < d ∧ d < (g k).t)) : hdJ g N d = -1 := by
  unfold hdJ
  rw [firstI_no (fun j _ hj => by rw [Bool.eq_false_iff]; intro hp; exact h j (by omega) (holds_iff.1 hp))]
  rfl
theorem hd_or {g : Nat → Sec} {N : Nat} (d : Int) : (∃ k, k < N ∧ (g k).f < d ∧ d < (g k).t) ∨ ∀ k, k < N → ¬ ((g k).f < d ∧ d < (g k).t) := by
  by_cases h : ∃ k, k < N ∧ (g k).f < d ∧ d < (g k).t
  · exact .inl h
  · exact .inr fun k hk hn => h ⟨k, hk, hn⟩
theorem tk_range {f : Nat → Int} {c : Int} {g : Nat → Sec} {N : Nat} (h : RowOK f c g N) (d : Int) : -1 ≤ tkJ g N d ∧ tkJ g N d < 8 := by
  unfold tkJ
  cases ho : firstI (fun k => takesB d (g k)) N 0 with
  | none => exact ⟨Int.le_refl _, show (-1 : Int) < 8 by decide⟩
  | some k =>
    have hk := firstI_some ho
    have := h.ok k (by omega)
    show -1 ≤ (g k).r ∧ (g k).r < 8
    exact ⟨by have := this.r0; omega, this.r8⟩
/-- What the law keeps from tick to tick. -/
structure HeldJ (g : Nat → Sec) (N : Nat) (i held last : Int) : Prop where
  l : last = hdJ g N i
  h : ∀ k, k < N → (g k).f < i → i < (g k).t → held = i - (g k).f
  h0 : 0 ≤ held
  hi : held ≤ i
theorem HeldJ.start {f : Nat → Int} {c : Int} {g : Nat → Sec} {N : Nat} (hr : RowOK f c g N) : HeldJ g N 0 0 (-1) :=
  ⟨(hd_no fun k hk h => by have := (hr.ok k hk).f0; omega).symm, fun k hk h1 _ => by have := (hr.ok k hk).f0; omega, Int.le_refl _, Int.le_refl _⟩
theorem HeldJ.step {f : Nat → Int} {c : Int} {g : Nat → Sec} {N : Nat} (hr : RowOK f c g N) {i held last : Int} (hI : HeldJ g N i held last) (h0 : 0 ≤ i) :
    HeldJ g N (i + 1) ((if tkJ g N i = last then held else 0) + 1) (if hdJ g N (i + 1) < 0 then -1 else tkJ g N i) ∧
    (0 ≤ (if hdJ g N (i + 1) < 0 then -1 else tkJ g N i) → (if hdJ g N (i + 1) < 0 then -1 else tkJ g N i) < 8 ∧ (if tkJ g N i = last then held else 0) + 1 ≤ f (if hdJ g N (i + 1) < 0 then -1 else tkJ g N i).toNat) := by
  have hb : 0 ≤ (if tkJ g N i = last then held else 0) + 1 ∧ (if tkJ g N i = last then held else 0) + 1 ≤ i + 1 := by
    have h1 := hI.h0; have h2 := hI.hi
    split <;> omega
  rcases hd_or (g := g) (N := N) (i + 1) with ⟨k, hk, h1, h2⟩ | hno
  · have hK := hr.ok k hk
    have e1 := hd_is hr hk h1 h2
    have e2 := tk_is hr hk (d := i) (by omega) (by omega)
    have hr0 := hK.r0
    have e3 : (if hdJ g N (i + 1) < 0 then -1 else tkJ g N i) = (g k).r := by rw [if_neg (by rw [e1]; omega), e2]
    have key : (if tkJ g N i = last then held else 0) + 1 = i + 1 - (g k).f := by
      by_cases hf : (g k).f < i
      · have e4 := hd_is hr hk hf (by omega)
        have e5 := hI.l
        rw [if_pos (by rw [e2, e5, e4]), hI.h k hk hf (by omega)]
        omega
      · have e4 : hdJ g N i = -1 := hd_no fun j hj hn => by
          have := hr.one hj hk (d := i) (by omega) (by omega) (by omega) (by omega)
          subst this
          omega
        have e5 := hI.l
        rw [if_neg (by rw [e2, e5, e4]; omega)]
        omega
    rw [e3]
    refine ⟨⟨e1.symm, fun j hj a b => ?_, hb.1, hb.2⟩, fun _ => ⟨hK.r8, ?_⟩⟩
    · have := hr.one hj hk (d := i + 1) (by omega) b (by omega) h2
      subst this
      exact key
    · rw [key]
      have := hK.lo
      omega
  · have e1 := hd_no hno
    have e3 : (if hdJ g N (i + 1) < 0 then -1 else tkJ g N i) = -1 := if_pos (by rw [e1]; decide)
    rw [e3]
    exact ⟨⟨e1.symm, fun j hj a b => absurd ⟨a, b⟩ (hno j hj), hb.1, hb.2⟩, fun h => by omega⟩
theorem hd_end {f : Nat → Int} {c : Int} {g : Nat → Sec} {N : Nat} (hr : RowOK f c g N) : hdJ g N c = -1 := hd_no fun k hk h => by have := (hr.ok k hk).tc; omega
end Go.Proofs.Ytcipkkeegbfaeaa
