/- The maths of a server: how many of so many ticks it gets, and in how many it gets so many. -/
import Derived.Test.YtmaackdfhmpicaaXA
namespace Go.Proofs.Ytmaackdfhmpicaa
open Go.RowKit

theorem dm_of {a P q r : Int} (hP : 0 < P) (h : a = q * P + r) (h0 : 0 ≤ r) (h1 : r < P) : a / P = q ∧ a % P = r :=
  (Int.ediv_emod_unique hP).2 ⟨by rw [h, Int.mul_comm]; omega, h0, h1⟩
/-- How many of so many ticks, behind the first ones. -/
def fS (P B m : Int) : Int := m / P * B + min (m % P) B
theorem fS_at {P B q r : Int} (hP : 0 < P) (h0 : 0 ≤ r) (h1 : r < P) : fS P B (q * P + r) = q * B + min r B := by
  obtain ⟨a, b⟩ := dm_of (a := q * P + r) hP rfl h0 h1
  unfold fS
  rw [a, b]
theorem fS_succ {P B m : Int} (hB : 1 ≤ B) (hP : B ≤ P) : fS P B (m + 1) = fS P B m + if m % P < B then 1 else 0 := by
  have hP0 : 0 < P := by omega
  obtain ⟨q, hq⟩ : ∃ q, m / P = q := ⟨_, rfl⟩
  obtain ⟨r, hr⟩ : ∃ r, m % P = r := ⟨_, rfl⟩
  have r0 : 0 ≤ r := by rw [← hr]; exact Int.emod_nonneg m (by omega)
  have r1 : r < P := by rw [← hr]; exact Int.emod_lt_of_pos m hP0
  have e : m = q * P + r := by rw [← hq, ← hr, Int.mul_comm]; exact (Int.mul_ediv_add_emod m P).symm
  rw [hr, e, fS_at hP0 r0 r1]
  by_cases h : r + 1 < P
  · rw [show q * P + r + 1 = q * P + (r + 1) by omega, fS_at hP0 (by omega) h]
    split <;> omega
  · have e1 : r + 1 = P := by omega
    rw [show q * P + r + 1 = (q + 1) * P + 0 by rw [Int.add_mul]; omega, fS_at hP0 (by omega) hP0, Int.add_mul]
    split <;> omega
/-- May there be such a server? -/
def svR (P B : Int) : Bool := decide (1 ≤ B ∧ B ≤ P ∧ P ≤ 4096)
theorem svR_iff {P B : Int} : svR P B = true ↔ 1 ≤ B ∧ B ≤ P ∧ P ≤ 4096 := by simp [svR]
/-- How many of so many ticks a server gets at the least. -/
def svL (P B t : Int) : Int := if t ≤ 2 * (P - B) then 0 else fS P B (t - 2 * (P - B))
def svG (P B t : Int) : Bool := decide (2 * (P - B) ≤ t) && decide ((t - 2 * (P - B)) % P < B)
theorem fS_zero {P B : Int} (hB : 1 ≤ B) (hP : B ≤ P) : fS P B 0 = 0 := by
  have := fS_at (P := P) (B := B) (q := 0) (r := 0) (by omega) (by omega) (by omega)
  simp only [Int.zero_mul, Int.add_zero, Int.zero_add] at this
  rw [this]
  omega
theorem svL_eq {P B t : Int} (hB : 1 ≤ B) (hP : B ≤ P) (h : 2 * (P - B) ≤ t) : svL P B t = fS P B (t - 2 * (P - B)) := by
  unfold svL
  split
  · rw [show t - 2 * (P - B) = 0 by omega, fS_zero hB hP]
  · rfl
theorem svL_succ {P B t : Int} (h : svR P B = true) : svL P B (t + 1) = svL P B t + if svG P B t = true then 1 else 0 := by
  obtain ⟨hB, hP, -⟩ := svR_iff.1 h
  by_cases ht : 2 * (P - B) ≤ t
  · rw [svL_eq hB hP ht, svL_eq hB hP (by omega), show t + 1 - 2 * (P - B) = t - 2 * (P - B) + 1 by omega, fS_succ hB hP]
    simp [svG, ht]
  · unfold svL
    rw [if_pos (by omega), if_pos (by omega), if_neg (by simp [svG, ht])]
    rfl
theorem svL_nonneg {P B : Int} (h : svR P B = true) : ∀ k : Nat, 0 ≤ svL P B k ∧ svL P B k ≤ k
  | 0 => by
    obtain ⟨hB, hP, -⟩ := svR_iff.1 h
    unfold svL
    rw [if_pos (by omega)]
    omega
  | k + 1 => by
    have ih := svL_nonneg h k
    have := svL_succ (t := k) h
    rw [show ((k + 1 : Nat) : Int) = (k : Int) + 1 by omega, this]
    split <;> omega
theorem svL_le {P B : Int} (h : svR P B = true) {a : Int} (k : Nat) : svL P B a ≤ svL P B (a + k) := by
  induction k with
  | zero => simp
  | succ k ih =>
    have := svL_succ (t := a + k) h
    rw [show a + ((k + 1 : Nat) : Int) = a + k + 1 by omega, this]
    split <;> omega
theorem svL_mono {P B a b : Int} (h : svR P B = true) (hab : a ≤ b) : svL P B a ≤ svL P B b := by
  have := svL_le h (a := a) (b - a).toNat
  rwa [show a + ((b - a).toNat : Int) = b by omega] at this
theorem svL_neg {P B t : Int} (h : svR P B = true) (ht : t ≤ 0) : svL P B t = 0 := by
  obtain ⟨hB, hP, -⟩ := svR_iff.1 h
  unfold svL
  rw [if_pos (by omega)]
/-- In how many ticks it gets so many, above none. -/
def svT (P B w : Int) : Int := 2 * (P - B) + (w - 1) / B * P + w - (w - 1) / B * B
/-- In how many ticks it gets so many. -/
def svW (P B w : Int) : Option Int :=
  if svR P B = false ∨ w < 0 ∨ 65536 < w then none
  else if w = 0 then some 0
  else if 65536 < svT P B w then none else some (svT P B w)
def wN (o : Option Int) : Int := o.getD 0
theorem svT_good {P B w : Int} (h : svR P B = true) (hw : 1 ≤ w) : svL P B (svT P B w) = w ∧ svL P B (svT P B w - 1) = w - 1 ∧ 1 ≤ svT P B w ∧ 0 ≤ (w - 1) / B ∧ (w - 1) / B ≤ w - 1 ∧ 0 ≤ (w - 1) / B * B ∧ (w - 1) / B * B ≤ w - 1 ∧ 0 ≤ (w - 1) / B * P ∧ (w - 1) / B * P ≤ (w - 1) * 4096 := by
  obtain ⟨hB, hP, hM⟩ := svR_iff.1 h
  have q0 : 0 ≤ (w - 1) / B := Int.ediv_nonneg (by omega) (by omega)
  have q3 : (w - 1) / B ≤ w - 1 := Int.ediv_le_self _ (by omega)
  have q1 := Int.mul_ediv_add_emod (w - 1) B
  have q2 := Int.emod_lt_of_pos (w - 1) (show 0 < B by omega)
  have q4 := Int.emod_nonneg (w - 1) (show B ≠ 0 by omega)
  obtain ⟨q, hq⟩ : ∃ q, (w - 1) / B = q := ⟨_, rfl⟩
  obtain ⟨r, hr⟩ : ∃ r, (w - 1) % B = r := ⟨_, rfl⟩
  rw [hq, hr, Int.mul_comm] at q1
  rw [hr] at q2 q4
  rw [hq] at q0 q3
  have p0 : 0 ≤ q * P := Int.mul_nonneg q0 (by omega)
  have p1 : 0 ≤ q * B := Int.mul_nonneg q0 (by omega)
  have p2 : q * P ≤ (w - 1) * 4096 := Int.mul_le_mul q3 hM (by omega) (by omega)
  unfold svT
  rw [hq]
  rw [svL_eq hB hP (by omega), svL_eq hB hP (by omega)]
  have e1 : 2 * (P - B) + q * P + w - q * B - 1 - 2 * (P - B) = q * P + r := by omega
  have e2 : 2 * (P - B) + q * P + w - q * B - 2 * (P - B) = q * P + r + 1 := by omega
  rw [e1, e2, fS_succ hB hP, fS_at (by omega) q4 (by omega)]
  rw [(dm_of (a := q * P + r) (show 0 < P by omega) rfl q4 (by omega)).2, if_pos q2]
  refine ⟨by omega, by omega, by omega, by omega, by omega, by omega, by omega, by omega, by omega⟩
theorem svT_least {P B w t : Int} (h : svR P B = true) (hw : 1 ≤ w) : w ≤ svL P B t ↔ svT P B w ≤ t := by
  obtain ⟨a, b, -⟩ := svT_good h hw
  constructor
  · intro hl
    rcases Int.lt_or_le t (svT P B w) with c | c
    · have := svL_mono h (show t ≤ svT P B w - 1 by omega); omega
    · exact c
  · intro hl
    have := svL_mono h hl
    omega
theorem svT_mono {P B v w : Int} (h : svR P B = true) (hv : 1 ≤ v) (hw : v ≤ w) : svT P B v ≤ svT P B w := by
  rw [← svT_least h hv]
  have := (svT_good h (show 1 ≤ w by omega)).1
  omega
theorem svT_ge {P B w : Int} (h : svR P B = true) (hw : 1 ≤ w) : w ≤ svT P B w := by
  obtain ⟨a, -, c, -⟩ := svT_good h hw
  have := (svL_nonneg h (svT P B w).toNat).2
  rw [show ((svT P B w).toNat : Int) = svT P B w by omega] at this
  omega
end Go.Proofs.Ytmaackdfhmpicaa
