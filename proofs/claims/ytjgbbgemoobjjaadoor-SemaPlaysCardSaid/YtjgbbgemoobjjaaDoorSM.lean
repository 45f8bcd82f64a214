/- Maths of a sema: what its calls make of it. No statement about the program. -/
import Derived.Test.YtjgbbgemoobjjaaDoorSA
namespace Go.Proofs.YtjgbbgemoobjjaaDoor
open Go.RowKit

/-- The sum of the first so many. -/
def tot (g : Nat → Int) : Nat → Int
  | 0 => 0
  | n + 1 => tot g n + g n
theorem tot_upd_out (g : Nat → Int) (k : Nat) (v : Int) : ∀ n, n ≤ k → tot (upd g k v) n = tot g n
  | 0, _ => rfl
  | n + 1, h => by
    have := tot_upd_out g k v n (by omega)
    show tot (upd g k v) n + upd g k v n = tot g n + g n
    rw [this]; unfold upd; rw [if_neg (by omega)]
theorem tot_upd (g : Nat → Int) (k : Nat) (v : Int) : ∀ n, k < n → tot (upd g k v) n = tot g n + (v - g k)
  | 0, h => by omega
  | n + 1, h => by
    show tot (upd g k v) n + upd g k v n = tot g n + g n + (v - g k)
    by_cases e : k = n
    · subst e
      rw [tot_upd_out g k v k (Nat.le_refl _)]; unfold upd; rw [if_pos rfl]; omega
    · rw [tot_upd g k v n (by omega)]; unfold upd; rw [if_neg (by omega)]; omega
theorem tot_ge (g : Nat → Int) (h : ∀ k, 0 ≤ g k) : ∀ n, 0 ≤ tot g n
  | 0 => Int.le_refl _
  | n + 1 => by have := tot_ge g h n; have := h n; show 0 ≤ tot g n + g n; omega
theorem tot_le (g : Nat → Int) (h : ∀ k, 0 ≤ g k) (n : Nat) : ∀ m, n ≤ m → tot g n ≤ tot g m
  | 0, hm => by obtain rfl : n = 0 := by omega
                exact Int.le_refl _
  | m + 1, hm => by
    by_cases e : n = m + 1
    · subst e; exact Int.le_refl _
    · have := tot_le g h n m (by omega); have := h m; show tot g n ≤ tot g m + g m; omega
theorem tot_one (g : Nat → Int) (h : ∀ k, 0 ≤ g k) (k n : Nat) (hk : k < n) : g k ≤ tot g n := by
  have h1 := tot_le g h (k + 1) n hk
  have h2 := tot_ge g h k
  have h3 : tot g (k + 1) = tot g k + g k := rfl
  omega
/-- All are free or had; who waits is a task; one that is free isn't waited for. -/
structure Inv (mo : Int) (s : St) : Prop where
  lo : 1 ≤ mo
  hi : mo ≤ 65536
  f0 : 0 ≤ s.f
  g0 : ∀ k, 0 ≤ s.g k
  sum : s.f + tot s.g 16 = mo
  waits : s.x = 0#32 ∨ s.f = 0
  few : ∀ n ∈ lst s.x 32, n < 16
theorem Inv.f1 {mo : Int} {s : St} (h : Inv mo s) : s.f ≤ 65536 := by have := tot_ge s.g h.g0 16; have := h.sum; have := h.hi; omega
theorem Inv.g1 {mo : Int} {s : St} (h : Inv mo s) (k : Nat) (hk : k < 16) : s.g k ≤ 65536 := by have := tot_one s.g h.g0 k 16 hk; have := h.sum; have := h.hi; have := h.f0; omega
theorem Inv.fg {mo : Int} {s : St} (h : Inv mo s) (k : Nat) (hk : k < 16) : s.f + s.g k ≤ 65536 := by have := tot_one s.g h.g0 k 16 hk; have := h.sum; have := h.hi; omega
theorem Inv.gg {mo : Int} {s : St} (h : Inv mo s) (k j : Nat) (hk : k < 16) (hj : j < 16) (hn : k ≠ j) : s.g k + s.g j ≤ 65536 := by
  have h1 := tot_upd s.g k 0 16 hk
  have hz : ∀ i, 0 ≤ upd s.g k 0 i := fun i => by unfold upd; split; exact Int.le_refl _; exact h.g0 i
  have h2 := tot_one (upd s.g k 0) hz j 16 hj
  have h3 : upd s.g k 0 j = s.g j := by unfold upd; rw [if_neg (fun e => hn e.symm)]
  have := h.sum; have := h.hi; have := h.f0
  omega
theorem btw_zero (a b : Int) : btw 0#32 a b = 0#32 := by
  apply BitVec.eq_of_getLsbD_eq
  intro i hi
  rw [btw_bit _ _ _ _ hi]; simp
theorem lst_or (x : BitVec 32) (t : Int) (n : Nat) : n ∈ lst (x ||| onl t) 32 ↔ n < 32 ∧ (n ∈ lst x 32 ∨ (n : Int) = t) := by
  rw [mem_lst, mem_lst]
  constructor
  · rintro ⟨h1, h2⟩
    rw [BitVec.getLsbD_or, onl_bit _ _ h1] at h2
    simp only [Bool.or_eq_true, decide_eq_true_iff] at h2
    exact ⟨h1, h2.imp (fun h => ⟨h1, h⟩) id⟩
  · rintro ⟨h1, h2⟩
    refine ⟨h1, ?_⟩
    rw [BitVec.getLsbD_or, onl_bit _ _ h1]
    simp only [Bool.or_eq_true, decide_eq_true_iff]
    exact h2.imp (fun h => h.2) id
theorem lst_not (x : BitVec 32) (t : Int) (n : Nat) : n ∈ lst (x &&& ~~~onl t) 32 ↔ n ∈ lst x 32 ∧ (n : Int) ≠ t := by
  rw [mem_lst, mem_lst]
  constructor
  · rintro ⟨h1, h2⟩
    rw [BitVec.getLsbD_and, BitVec.getLsbD_not, onl_bit _ _ h1] at h2
    simp only [Bool.and_eq_true, decide_eq_true_iff, Bool.not_eq_true', decide_eq_false_iff_not] at h2
    exact ⟨⟨h1, h2.1⟩, h2.2.2⟩
  · rintro ⟨⟨h1, h2⟩, h3⟩
    refine ⟨h1, ?_⟩
    rw [BitVec.getLsbD_and, BitVec.getLsbD_not, onl_bit _ _ h1]
    simp only [Bool.and_eq_true, decide_eq_true_iff, Bool.not_eq_true', decide_eq_false_iff_not]
    exact ⟨h2, h1, h3⟩
theorem lst_nil_zero (x : BitVec 32) (h : lst x 32 = []) : x = 0#32 := by
  apply BitVec.eq_of_getLsbD_eq
  intro i hi
  rw [BitVec.getLsbD_zero]
  cases hx : x.getLsbD i with
  | false => rfl
  | true => have : i ∈ lst x 32 := (mem_lst x 32 i).2 ⟨hi, hx⟩
            rw [h] at this; cases this
/-- What Get makes of it, and answers. -/
def getS (s : St) (t : Int) : St × Bool × Int :=
  if ¬ (0 ≤ t ∧ t < 16) then (s, false, 100)
  else if t ∈ ints (lst s.x 32) then (s, false, 300)
  else if s.f = 0 ∨ btw s.x (-1) t ≠ 0#32 then (⟨s.f, s.g, s.x ||| onl t⟩, false, 0)
  else (⟨s.f - 1, upd s.g t.toNat (s.g t.toNat + 1), s.x⟩, true, 0)
/-- What Put makes of it, and answers. -/
def putS (s : St) (t : Int) : St × Int × Bool × Int :=
  if ¬ (0 ≤ t ∧ t < 16) then (s, 0, false, 100)
  else if s.g t.toNat = 0 then (s, 0, false, 80)
  else match lst s.x 32 with
    | [] => (⟨s.f + 1, upd s.g t.toNat (s.g t.toNat - 1), s.x⟩, 0, false, 0)
    | n :: _ => (⟨s.f, upd (upd s.g t.toNat (s.g t.toNat - 1)) n (upd s.g t.toNat (s.g t.toNat - 1) n + 1), s.x &&& ~~~onl (n : Int)⟩, (n : Int), true, 0)
def quitS (s : St) (t : Int) : St := ⟨s.f, s.g, s.x &&& ~~~onl t⟩
/-- Gives back, so many times: the sema then, and who got them. -/
def endK (s : St) (t : Int) : Nat → St × List Int
  | 0 => (s, [])
  | k + 1 => ((putS (endK s t k).1 t).1, if (putS (endK s t k).1 t).2.2.1 then (endK s t k).2 ++ [(putS (endK s t k).1 t).2.1] else (endK s t k).2)
/-- How many a task has; 0, if there is no such. -/
def hasS (s : St) (t : Int) : Int := if 0 ≤ t ∧ t < 16 then s.g t.toNat else 0
def endS (s : St) (t : Int) : St × List Int := endK (quitS s t) t (hasS s t).toNat

theorem upd_ge (g : Nat → Int) (h : ∀ k, 0 ≤ g k) (k : Nat) (v : Int) (hv : 0 ≤ v) : ∀ i, 0 ≤ upd g k v i := fun i => by unfold upd; split; exact hv; exact h i
theorem Inv.get {mo : Int} {s : St} (h : Inv mo s) (t : Int) : Inv mo (getS s t).1 := by
  unfold getS
  split
  · exact h
  rename_i ht
  have ht : 0 ≤ t ∧ t < 16 := Classical.not_not.1 ht
  split
  · exact h
  split
  · rename_i hw
    refine ⟨h.lo, h.hi, h.f0, h.g0, h.sum, ?_, fun n hn => ?_⟩
    · rcases hw with hw | hw
      · exact .inr hw
      · rcases h.waits with hx | hf
        · exact absurd (by rw [hx]; exact btw_zero _ _) hw
        · exact .inr hf
    · rcases ((lst_or _ _ _).1 hn).2 with h1 | h1
      · exact h.few n h1
      · omega
  · rename_i hw
    have hf : s.f ≠ 0 := fun e => hw (.inl e)
    have h0 := h.f0
    refine ⟨h.lo, h.hi, by show 0 ≤ s.f - 1; omega, upd_ge _ h.g0 _ _ (by have := h.g0 t.toNat; omega), ?_, .inl (h.waits.resolve_right hf), h.few⟩
    show s.f - 1 + tot (upd s.g t.toNat (s.g t.toNat + 1)) 16 = mo
    rw [tot_upd _ _ _ 16 (by omega)]
    have := h.sum
    omega
theorem Inv.quit {mo : Int} {s : St} (h : Inv mo s) (t : Int) : Inv mo (quitS s t) := by
  refine ⟨h.lo, h.hi, h.f0, h.g0, h.sum, ?_, fun n hn => h.few n ((lst_not _ _ _).1 hn).1⟩
  rcases h.waits with hx | hf
  · exact .inl (by show s.x &&& ~~~onl t = 0#32; rw [hx]; simp)
  · exact .inr hf
theorem Inv.put {mo : Int} {s : St} (h : Inv mo s) (t : Int) : Inv mo (putS s t).1 := by
  unfold putS
  split
  · exact h
  rename_i ht
  have ht : 0 ≤ t ∧ t < 16 := Classical.not_not.1 ht
  split
  · exact h
  rename_i hg
  have hg0 := h.g0 t.toNat
  split
  · rename_i hl
    refine ⟨h.lo, h.hi, by show 0 ≤ s.f + 1; have := h.f0; omega, upd_ge _ h.g0 _ _ (by omega), ?_, .inl (lst_nil_zero _ hl), h.few⟩
    show s.f + 1 + tot (upd s.g t.toNat (s.g t.toNat - 1)) 16 = mo
    rw [tot_upd _ _ _ 16 (by omega)]
    have := h.sum
    omega
  · rename_i n l hl
    have hn : n < 16 := h.few n (by rw [hl]; exact List.mem_cons_self)
    have hg1 := upd_ge s.g h.g0 t.toNat (s.g t.toNat - 1) (by omega)
    refine ⟨h.lo, h.hi, h.f0, upd_ge _ hg1 _ _ (by have := hg1 n; omega), ?_, ?_, fun m hm => h.few m ((lst_not _ _ _).1 hm).1⟩
    · show s.f + tot (upd (upd s.g t.toNat (s.g t.toNat - 1)) n (upd s.g t.toNat (s.g t.toNat - 1) n + 1)) 16 = mo
      rw [tot_upd _ _ _ 16 hn, tot_upd _ _ _ 16 (by omega)]
      have := h.sum
      omega
    · rcases h.waits with hx | hf
      · rw [hx, lst_zero] at hl; cases hl
      · exact .inr hf
theorem Inv.endK {mo : Int} {s : St} (h : Inv mo s) (t : Int) : ∀ k, Inv mo (endK s t k).1
  | 0 => h
  | k + 1 => (Inv.endK h t k).put t
/-- Who doesn't wait and gives back has one less each time, and goes on not waiting. -/
theorem put_less {mo : Int} {s : St} (_h : Inv mo s) (t : Nat) (ht : t < 16) (hn : t ∉ lst s.x 32) (h0 : s.g t ≠ 0) : (putS s (t : Nat)).1.g t = s.g t - 1 ∧ t ∉ lst (putS s (t : Nat)).1.x 32 := by
  unfold putS
  rw [if_neg (by omega), if_neg (by rw [Int.toNat_natCast]; exact h0), Int.toNat_natCast]
  split
  · exact ⟨by show upd s.g t (s.g t - 1) t = _; unfold upd; rw [if_pos rfl], hn⟩
  · rename_i n l hl
    have hne : t ≠ n := fun e => hn (by rw [hl, e]; exact List.mem_cons_self)
    refine ⟨?_, fun hm => hn ((lst_not _ _ _).1 hm).1⟩
    show upd (upd s.g t (s.g t - 1)) n _ t = _
    unfold upd
    rw [if_neg hne, if_pos rfl]
theorem endK_has {mo : Int} {s : St} (h : Inv mo s) (t : Nat) (ht : t < 16) (hn : t ∉ lst s.x 32) : ∀ k : Nat, (k : Int) ≤ s.g t → (endK s (t : Nat) k).1.g t = s.g t - (k : Int) ∧ t ∉ lst (endK s (t : Nat) k).1.x 32
  | 0, _ => ⟨by show s.g t = s.g t - ((0 : Nat) : Int); omega, hn⟩
  | k + 1, hk => by
    obtain ⟨h1, h2⟩ := endK_has h t ht hn k (by omega)
    have := put_less (h.endK (t : Nat) k) t ht h2 (by omega)
    exact ⟨by show (putS _ _).1.g t = _; rw [this.1, h1]; omega, this.2⟩
theorem endK_len (s : St) (t : Int) : ∀ k, (endK s t k).2.length ≤ k
  | 0 => Nat.le_refl _
  | k + 1 => by
    have := endK_len s t k
    show (if _ then _ else _ : List Int).length ≤ _
    split
    · rw [List.length_append]; simp; omega
    · omega
theorem quit_has (s : St) (t : Nat) : t ∉ lst (quitS s (t : Nat)).x 32 := fun h => ((lst_not _ _ _).1 h).2 rfl
theorem quit_no {mo : Int} {s : St} (h : Inv mo s) (t : Int) (ht : ¬ (0 ≤ t ∧ t < 16)) : quitS s t = s := by
  unfold quitS
  have : s.x &&& ~~~onl t = s.x := by
    apply BitVec.eq_of_getLsbD_eq
    intro i hi
    rw [BitVec.getLsbD_and, BitVec.getLsbD_not, onl_bit _ _ hi]
    cases hx : s.x.getLsbD i with
    | false => rfl
    | true =>
      have := h.few i ((mem_lst _ _ _).2 ⟨hi, hx⟩)
      have hne : ¬ ((i : Int) = t) := by omega
      simp [hi, hne]
  rw [this]
end Go.Proofs.YtjgbbgemoobjjaaDoor
