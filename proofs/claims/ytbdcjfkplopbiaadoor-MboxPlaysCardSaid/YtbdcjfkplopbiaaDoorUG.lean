/- Maths of messages that are sent and taken one by one. No statement about the program. -/
import Derived.Test.YtbdcjfkplopbiaaDoorUF
namespace Go.Proofs.YtbdcjfkplopbiaaDoor
open Go.RowKit

theorem many_upd_out (f : Nat → List Int) (d : Nat) (L : List Int) : ∀ n, n ≤ d → many (updF f d L) n = many f n
  | 0, _ => rfl
  | n + 1, h => by
    show many (updF f d L) n + (updF f d L n).length = many f n + (f n).length
    rw [many_upd_out f d L n (by omega), updF_ne _ _ _ _ (by omega)]
theorem many_upd (f : Nat → List Int) (d : Nat) (L : List Int) : ∀ n, d < n → many (updF f d L) n + (f d).length = many f n + L.length
  | 0, h => by omega
  | n + 1, h => by
    show many (updF f d L) n + (updF f d L n).length + (f d).length = many f n + (f n).length + L.length
    by_cases e : d = n
    · subst e
      rw [many_upd_out f d L d (Nat.le_refl _), updF_same]; omega
    · have := many_upd f d L n (by omega)
      rw [updF_ne _ _ _ _ (fun e' => e e'.symm)]; omega
theorem many_f0 : ∀ n, many f0 n = 0
  | 0 => rfl
  | n + 1 => by show many f0 n + 0 = 0; rw [many_f0 n]
theorem many_zero {f : Nat → List Int} (h : ∀ d, d < 32 → f d = []) : ∀ n, n ≤ 32 → many f n = 0
  | 0, _ => rfl
  | n + 1, hn => by show many f n + (f n).length = 0; rw [many_zero h n (by omega), h n (by omega)]; rfl
theorem lst_empty {f : Nat → List Int} (h : lst (dgK f 32) 32 = []) : ∀ d, d < 32 → f d = [] := fun d hd => by
  cases hf : f d with
  | nil => rfl
  | cons a t =>
    have : d ∈ lst (dgK f 32) 32 := (mem_lst _ _ _).2 ⟨hd, by rw [dgK_bit f 32 (Nat.le_refl _) d hd]; simp [hd, hf]⟩
    rw [h] at this; cases this
theorem empty_lst {f : Nat → List Int} (h : many f 32 = 0) : lst (dgK f 32) 32 = [] := by
  rw [List.eq_nil_iff_forall_not_mem]
  intro d hd
  obtain ⟨h1, h2⟩ := (mem_lst _ _ _).1 hd
  rw [dgK_bit f 32 (Nat.le_refl _) d h1] at h2
  simp at h2
  have h3 := many_mono f (d + 1) 32 (by omega)
  have h4 : many f (d + 1) = many f d + (f d).length := rfl
  have h5 : (f d).length ≠ 0 := by simpa using h2.2
  omega
theorem lst_least {f : Nat → List Int} {d : Nat} {l : List Nat} (h : lst (dgK f 32) 32 = d :: l) : ∀ e, e < d → f e = [] := fun e he => by
  have hd := (dg_cons h).1
  cases hf : f e with
  | nil => rfl
  | cons a t =>
    have hm : e ∈ lst (dgK f 32) 32 := (mem_lst _ _ _).2 ⟨by omega, by rw [dgK_bit f 32 (Nat.le_refl _) e (by omega)]; simp [hf]; omega⟩
    have hs : (lst (dgK f 32) 32).Pairwise (· < ·) := by unfold lst; exact List.Pairwise.filter _ List.pairwise_lt_range
    rw [h] at hm hs
    rcases List.mem_cons.1 hm with e1 | e1
    · omega
    · have := (List.pairwise_cons.1 hs).1 e e1
      omega
/-- Each message says at which place it was sent, those of a degree rising. -/
structure Ord (D : List Int) (f : Nat → List Int) : Prop where
  is : ∀ d : Nat, d < 32 → ∀ x ∈ f d, ∃ i : Nat, x = (i : Int) ∧ i < D.length ∧ nth D i = (d : Int)
  up : ∀ d : Nat, d < 32 → (f d).Pairwise (· < ·)
structure SendP (D : List Int) (i : Nat) (f : Nat → List Int) : Prop where
  ord : Ord D f
  lt : ∀ d : Nat, d < 32 → ∀ x ∈ f d, x < (i : Int)
  mn : many f 32 ≤ i
theorem SendP.start (D : List Int) : SendP D 0 f0 := ⟨⟨fun d hd x hx => (by cases hx), fun d hd => List.Pairwise.nil⟩, fun d hd x hx => (by cases hx), by rw [many_f0]; exact Nat.le_refl _⟩
theorem SendP.skip {D : List Int} {i : Nat} {f : Nat → List Int} (h : SendP D i f) : SendP D (i + 1) f :=
  ⟨h.ord, fun d hd x hx => by have := h.lt d hd x hx; omega, by have := h.mn; omega⟩
theorem SendP.send {D : List Int} {i : Nat} {f : Nat → List Int} (h : SendP D i f) (d : Nat) (hd : d < 32) (hi : i < D.length) (hn : nth D i = (d : Int)) : SendP D (i + 1) (updF f d (f d ++ [(i : Int)])) ∧ many (updF f d (f d ++ [(i : Int)])) 32 = many f 32 + 1 := by
  have hmu := many_upd f d (f d ++ [(i : Int)]) 32 hd
  rw [List.length_append] at hmu
  have hm1 : many (updF f d (f d ++ [(i : Int)])) 32 = many f 32 + 1 := by simp at hmu; omega
  refine ⟨⟨⟨fun e he x hx => ?_, fun e he => ?_⟩, fun e he x hx => ?_, by rw [hm1]; have := h.mn; omega⟩, hm1⟩
  · by_cases e1 : e = d
    · subst e1
      rw [updF_same] at hx
      rcases List.mem_append.1 hx with hx | hx
      · exact h.ord.is e he x hx
      · simp at hx; exact ⟨i, hx, hi, hn⟩
    · rw [updF_ne _ _ _ _ e1] at hx; exact h.ord.is e he x hx
  · by_cases e1 : e = d
    · subst e1
      rw [updF_same, List.pairwise_append]
      refine ⟨h.ord.up e he, List.pairwise_singleton _ _, fun a ha b hb => ?_⟩
      simp at hb
      have := h.lt e he a ha
      omega
    · rw [updF_ne _ _ _ _ e1]; exact h.ord.up e he
  · by_cases e1 : e = d
    · subst e1
      rw [updF_same] at hx
      rcases List.mem_append.1 hx with hx | hx
      · have := h.lt e he x hx; omega
      · simp at hx; omega
    · rw [updF_ne _ _ _ _ e1] at hx; have := h.lt e he x hx; omega
/-- What was taken last, and what is there still. -/
structure TakeP (D : List Int) (f : Nat → List Int) (wd ww : Int) : Prop where
  ord : Ord D f
  no : ∀ d : Nat, d < 32 → (d : Int) < wd → f d = []
  re : ∀ d : Nat, d < 32 → (d : Int) = wd → ∀ x ∈ f d, ww < x
theorem TakeP.take {D : List Int} {f : Nat → List Int} {wd ww : Int} (h : TakeP D f wd ww) {d : Nat} {l : List Nat} (hl : lst (dgK f 32) 32 = d :: l) :
    TakeP D (updF f d ((f d).drop 1)) (d : Int) (nth (f d) 0) ∧ wd ≤ (d : Int) ∧ ((d : Int) = wd → ww < nth (f d) 0) ∧ (∃ i : Nat, nth (f d) 0 = (i : Int) ∧ i < D.length ∧ nth D i = (d : Int)) ∧ many (updF f d ((f d).drop 1)) 32 + 1 = many f 32 := by
  obtain ⟨hd, h0⟩ := dg_cons hl
  cases hf : f d with
  | nil => rw [hf] at h0; exact absurd rfl h0
  | cons x t =>
    have hx : x ∈ f d := by rw [hf]; exact List.mem_cons_self
    have hup := h.ord.up d hd
    rw [hf] at hup
    obtain ⟨hup1, hup2⟩ := List.pairwise_cons.1 hup
    show TakeP D (updF f d t) (d : Int) x ∧ wd ≤ (d : Int) ∧ ((d : Int) = wd → ww < x) ∧ (∃ i : Nat, x = (i : Int) ∧ i < D.length ∧ nth D i = (d : Int)) ∧ many (updF f d t) 32 + 1 = many f 32
    have hmu := many_upd f d t 32 hd
    rw [hf] at hmu
    refine ⟨⟨⟨fun e he y hy => ?_, fun e he => ?_⟩, fun e he hlt => ?_, fun e he heq y hy => ?_⟩, ?_, fun e => h.re d hd e x hx, h.ord.is d hd x hx, by simp at hmu; omega⟩
    · by_cases e1 : e = d
      · subst e1
        rw [updF_same] at hy
        exact h.ord.is e he y (by rw [hf]; exact List.mem_cons_of_mem _ hy)
      · rw [updF_ne _ _ _ _ e1] at hy; exact h.ord.is e he y hy
    · by_cases e1 : e = d
      · subst e1; rw [updF_same]; exact hup2
      · rw [updF_ne _ _ _ _ e1]; exact h.ord.up e he
    · rw [updF_ne _ _ _ _ (by omega)]
      exact lst_least hl e (by omega)
    · obtain rfl : e = d := by omega
      rw [updF_same] at hy
      exact hup1 y hy
    · rcases Int.lt_or_le (d : Int) wd with h1 | h1
      · have := h.no d hd h1
        rw [hf] at this; cases this
      · exact h1
theorem SendP.taken {D : List Int} {i : Nat} {f : Nat → List Int} (h : SendP D i f) : TakeP D f (-1) 0 := ⟨h.ord, fun d hd hlt => by omega, fun d hd he => by omega⟩
end Go.Proofs.YtbdcjfkplopbiaaDoor
