/- What one call of the law makes of both devices: the state, and where it lies. -/
import Derived.Test.YthpagbfabpfngaaGB
namespace Go.Proofs.Ythpagbfabpfngaa
open Go.RowKit

/-- The reference's numbers: what is below 0 is 0. -/
def Dev.nn (d : Dev) : Dev := { d with after := max d.after 0 }
theorem nn_goes (d : Dev) : d.nn.goes = (d.goes.1.nn, d.goes.2) := by
  obtain ⟨ns, nw, lim, on, op, ar, af, sd, wd, wn⟩ := d
  unfold Dev.goes Dev.nn
  cases ar with
  | false => rfl
  | true =>
    simp only [if_true]
    by_cases h : 0 < af
    · have h2 : 0 < max af 0 := by omega
      rw [if_pos h, if_pos h2]
      simp only [Prod.mk.injEq, and_true, Dev.mk.injEq, true_and]
      omega
    · have h2 : ¬ 0 < max af 0 := by omega
      rw [if_neg h, if_neg h2]
theorem nn_readE (d : Dev) (s k : Int) : d.nn.readE s k = d.readE s k := rfl
theorem nn_readW (d : Dev) (s k : Int) : d.nn.readW s k = d.readW s k := rfl
theorem nn_mask (d : Dev) : d.nn.mask = d.mask := by unfold Dev.mask; rw [nn_goes]; rfl
theorem nn_program (d : Dev) (s k : Int) (x : BitVec 32) : d.nn.program s k x = ((d.program s k x).1.nn, (d.program s k x).2) := by
  unfold Dev.program
  rw [nn_readE, nn_readW, nn_mask, nn_goes]
  split
  · split
    · split <;> rfl
    · rfl
  · rfl
theorem nn_wear (d : Dev) (i : Nat) : d.nn.wear i = (d.wear i).nn := rfl
theorem nn_erase (d : Dev) (s : Int) : d.nn.erase s = ((d.erase s).1.nn, (d.erase s).2) := by
  unfold Dev.erase
  rw [nn_readE, nn_wear, nn_mask, nn_goes]
  show (if d.readE s 0 = 0 then (if d.limit ≤ d.worn s.toNat then (d.nn, 62) else _) else _) = _
  split
  · split
    · rfl
    · split <;> rfl
  · rfl
theorem nn_okE {d : Dev} (h : d.okE) : d.nn.okE := by
  obtain ⟨⟨h1, h2, h3, h4⟩, h5, h6⟩ := h
  exact ⟨⟨h1, h2, by show _ ≤ max d.after 0; omega, by show max d.after 0 ≤ _; omega⟩, h5, h6⟩
/-- What a call is. -/
structure FOp where
  kind : Int
  sec : Int
  wrd : Int
  w : BitVec 32
def FOp.val (o : FOp) : Value := .agg #[.int .i64 o.kind, .int .i64 o.sec, .int .i64 o.wrd, .int .u32 (w32 o.w)]
/-- What a call makes of the device. -/
def Dev.step (d : Dev) (o : FOp) : Dev :=
  if o.kind % 8 = 4 then (d.erase o.sec).1 else if o.kind % 8 = 5 then d.arm o.wrd o.w else if o.kind % 8 = 6 then d.power true else if o.kind % 8 = 7 then d.power false else (d.program o.sec o.wrd o.w).1
theorem mod8 (k : Int) : ∃ r r8, k.tmod 8 = r ∧ wrap64 (r + 8) = r8 ∧ r8.tmod 8 = k % 8 := by
  have h1 := Int.tmod_lt_of_pos k (show (0 : Int) < 8 by decide)
  have h2 : -8 < k.tmod 8 := by
    have := Int.neg_lt_of_neg_lt (a := k.tmod 8) (b := 8)
    have h3 := Int.tmod_lt_of_pos (-k) (show (0 : Int) < 8 by decide)
    rw [Int.neg_tmod] at h3; omega
  have h3 : k.tmod 8 % 8 = k % 8 := by
    have := Int.mul_tdiv_add_tmod k 8
    omega
  refine ⟨_, k.tmod 8 + 8, rfl, ?_, ?_⟩
  · simp only [wrap64]; omega
  · rw [Int.tmod_eq_emod_of_nonneg (by omega)]; omega
theorem goes_ok {d : Dev} (h : d.ok) : 0 ≤ d.goes.1.ops ∧ d.goes.1.ops ≤ d.ops + 1 ∧ -9223372036854775808 ≤ d.goes.1.after ∧ d.goes.1.after ≤ 9223372036854775807 := by
  obtain ⟨h1, h2, h3, h4⟩ := h
  unfold Dev.goes
  split
  · split
    · refine ⟨?_, ?_, ?_, ?_⟩ <;> simp only <;> omega
    · refine ⟨?_, ?_, ?_, ?_⟩ <;> simp only <;> omega
  · refine ⟨?_, ?_, ?_, ?_⟩ <;> simp only <;> omega
/-- What stays of the numbers, whatever is called. -/
structure Dev.kept (d d' : Dev) : Prop where
  ns : d'.ns = d.ns
  nw : d'.nw = d.nw
  lim : d'.limit = d.limit
  ops : 0 ≤ d'.ops ∧ d'.ops ≤ d.ops + 1
  af : -9223372036854775808 ≤ d'.after ∧ d'.after ≤ 9223372036854775807
  worn : ∀ i, 0 ≤ d'.worn i
theorem step_kept {d : Dev} (h : d.okE) (o : FOp) (ho : -9223372036854775808 ≤ o.wrd ∧ o.wrd ≤ 9223372036854775807) : d.kept (d.step o) := by
  have self : d.kept d := ⟨rfl, rfl, rfl, ⟨h.1.1, by omega⟩, h.1.2.2, h.2.2⟩
  unfold Dev.step
  split
  · unfold Dev.erase
    have hw : ∀ i j, 0 ≤ (d.wear i).worn j := fun i j => by
      show 0 ≤ updI d.worn i (d.worn i + 1) j
      unfold updI; split
      · have := h.2.2 i; omega
      · exact h.2.2 j
    obtain ⟨g1, g2, g3, g4⟩ := goes_ok (wear_ok h.1 o.sec.toNat)
    obtain ⟨e1, e2, e3, e4, e5⟩ := goes_same (d.wear o.sec.toNat)
    split
    · split
      · exact self
      · split
        · exact ⟨e1, e2, e5, ⟨g1, g2⟩, ⟨g3, g4⟩, fun i => by show 0 ≤ (d.wear o.sec.toNat).goes.1.worn i; rw [e4]; exact hw _ i⟩
        · exact ⟨e1, e2, e5, ⟨g1, g2⟩, ⟨g3, g4⟩, fun i => by show 0 ≤ (d.wear o.sec.toNat).goes.1.worn i; rw [e4]; exact hw _ i⟩
    · exact self
  split
  · exact ⟨rfl, rfl, rfl, self.ops, ho, h.2.2⟩
  split
  · exact ⟨rfl, rfl, rfl, self.ops, self.af, h.2.2⟩
  split
  · exact ⟨rfl, rfl, rfl, self.ops, self.af, h.2.2⟩
  · unfold Dev.program
    obtain ⟨g1, g2, g3, g4⟩ := goes_ok h.1
    obtain ⟨e1, e2, e3, e4, e5⟩ := goes_same d
    split
    · split
      · split
        · exact ⟨e1, e2, e5, ⟨g1, g2⟩, ⟨g3, g4⟩, fun i => by show 0 ≤ d.goes.1.worn i; rw [e4]; exact h.2.2 i⟩
        · exact ⟨e1, e2, e5, ⟨g1, g2⟩, ⟨g3, g4⟩, fun i => by show 0 ≤ d.goes.1.worn i; rw [e4]; exact h.2.2 i⟩
      · exact self
    · exact self
end Go.Proofs.Ythpagbfabpfngaa
