/- The contract of the reference's Program: what it makes of a device. -/
import Derived.Test.YthpagbfabpfngaaFV
namespace Go.Proofs.Ythpagbfabpfngaa
open Go.RowKit

theorem within_or (X Y : BitVec 32) : (w32 (X ||| Y) == w32 Y) = within X Y := by
  rw [Bool.eq_iff_iff, beq_iff_eq, w32_inj, within_iff]
  constructor
  · intro h i hi hx
    have := congrArg (·.getLsbD i) h
    simp only [BitVec.getLsbD_or, hx] at this
    simpa using this.symm
  · intro h
    apply BitVec.eq_of_getLsbD_eq; intro i hi
    rw [BitVec.getLsbD_or]
    cases hx : X.getLsbD i
    · simp
    · simp [h i hi hx]
/-- What a call of the reference leaves: a device, its rows the old ones or new ones. -/
def RefOut (w w' : World) (bL bW : Nat) (d' : Dev) (r : Value → Value) (e : Ending) : Prop :=
  ∃ bL' cL' bW' cW', e = .returned (r (refX bL' cL' bW' cW' d')) ∧ RefIn w' bL' bW' d' ∧ (bL' = bL ∨ w.heap.size ≤ bL') ∧ (bW' = bW ∨ w.heap.size ≤ bW') ∧ Below w.heap.size w w'

theorem progR_any {w : World} {bL bW : Nat} {d : Dev} (h : RefIn w bL bW d) (ho : d.ok) (cL cW : Nat) (s k : Int) (X : BitVec 32) :
    Calls Try.prog 92 #[refX bL cL bW cW d, .int .i64 s, .int .i64 k, .int .u32 (w32 X)] w fun e w' =>
      RefOut w w' bL bW (d.program s k X).1 (fun v => .tuple #[v, .int .i64 (d.program s k X).2]) e := by
  have hi := fun w => isR_any (.slice (some ⟨bL, 0, none⟩) (d.ns * d.nw : Nat) cL) (.slice (some ⟨bW, 0, none⟩) d.ns cW) d s k w
  unfold refV at hi
  by_cases he : d.readE s k = 0
  · obtain ⟨s0, s1, k0, k1, hw⟩ := readE_ok he
    have hon : d.on = true := by
      cases hon : d.on
      · unfold Dev.readE at he; rw [hon] at he; simp at he
      · rfl
    have hok : d.okK s k = true := by
      cases hok : d.okK s k
      · unfold Dev.readE at he; rw [hon, hok] at he; simp at he
      · rfl
    rw [hon, hok] at hi
    obtain ⟨i, rfl⟩ : ∃ i : Nat, s = i := ⟨s.toNat, by omega⟩
    obtain ⟨j, rfl⟩ : ∃ j : Nat, k = j := ⟨k.toNat, by omega⟩
    simp only [Int.toNat_natCast] at hw
    have hz := h.zn
    have hm : i * d.nw ≤ 64 * 1024 := Nat.mul_le_mul (by omega) (by omega)
    have m1 := wrap_nat ((i : Int) * (d.nw : Int)) (i * d.nw) (by simp) (by omega)
    have m2 := wrap_nat (((i * d.nw : Nat) : Int) + (j : Int)) (i * d.nw + j) (by simp) (by omega)
    have ht := flat_lt d.ns d.nw i j (by omega) (by omega)
    have hwo := within_or X (d.word i j)
    cases hin : within X (d.word i j) with
    | false =>
      rw [hin] at hwo
      have hp : d.program i j X = (d, 61) := by
        unfold Dev.program
        rw [if_pos he, hw, hin]; rfl
      rw [hp]
      have hc := progV_bits (n0 := d.ns) (n1 := d.nw) (n2 := d.limit) (bL := bL) (nL := d.ns * d.nw) (cL := cL) (bW := bW) (nW := d.ns) (cW := cW) (ar := d.armed) (af := d.after) (sd := w32 d.seed) (op := d.ops) w i j _ _ X (d.word i j) hi m1 m2 ht (h.cl i j (by omega) (by omega)) hwo
      unfold RefOut refX refV
      rw [hon]
      refine hc.mono ?_
      rintro e w' ⟨rfl, hb⟩
      exact ⟨bL, cL, bW, cW, by simp only []; rfl, h.new hb, .inl rfl, .inl rfl, hb⟩
    | true =>
      rw [hin] at hwo
      have hcp := fun w2 (h2 : RefIn w2 bL bW d) => copyR_any h2 cL cW
      have hgo := fun bL cL bW cW w2 => goesR_any d bL cL bW cW ho w2
      obtain ⟨g1, g2, g3, g4, g5⟩ := goes_same d
      have hd : ∀ x, (d.goes.1.put i j x).ns = d.ns ∧ (d.goes.1.put i j x).nw = d.nw ∧ (d.goes.1.put i j x).word = (d.put i j x).word ∧ (d.goes.1.put i j x).worn = d.worn ∧ (d.goes.1.put i j x).limit = d.limit := fun x => ⟨g1, g2, by show upd d.goes.1.word i j x = upd d.word i j x; rw [g3], g4, g5⟩
      cases hcut : d.goes.2 with
      | false =>
        have hp : d.program i j X = (d.goes.1.put i j X, 0) := by
          unfold Dev.program
          rw [if_pos he, hw, hin, hcut]; rfl
        rw [hp]
        unfold refX refV at hcp hgo
        rw [hon] at hcp hgo
        rw [hcut] at hgo
        rw [g1, g2, g5, show d.goes.1.seed = d.seed by unfold Dev.goes; split <;> (try split) <;> rfl] at hgo
        have hc := progV_put (n0 := d.ns) (n1 := d.nw) (n2 := d.limit) (bL := bL) (nL := d.ns * d.nw) (cL := cL) (bW := bW) (nW := d.ns) (cW := cW) (ar := d.armed) (af := d.after) (sd := w32 d.seed) (op := d.ops) w d i j i j _ _ (!d.goes.1.on) d.goes.1.armed d.goes.1.after d.goes.1.ops X (d.word i j) hi m1 m2 ht h (by omega) (by omega) rfl rfl hwo hcp hgo
        unfold RefOut refX refV
        rw [hon]
        refine hc.mono ?_
        rintro e w' ⟨bL', cL', bW', cW', rfl, hr, h1, h2, hb⟩
        obtain ⟨e1, e2, e3, e4, e5⟩ := hd X
        refine ⟨bL', cL', bW', cW', ?_, hr.same e1 e2 e3 e4, .inr h1, .inr h2, hb⟩
        rw [e1, e2, e5, show (d.goes.1.put i j X).seed = d.seed by show d.goes.1.seed = d.seed; unfold Dev.goes; split <;> (try split) <;> rfl]
        rfl
      | true =>
        have hp : d.program i j X = (d.goes.1.put i j (d.word i j &&& (X ||| Go.Proofs.Ythpagbfabpfngaa.sd d.seed)), 63) := by
          unfold Dev.program Dev.mask
          rw [if_pos he, hw, hin, hcut]; rfl
        rw [hp]
        unfold refX refV at hcp hgo
        rw [hon] at hcp hgo
        rw [hcut] at hgo
        rw [g1, g2, g5, show d.goes.1.seed = d.seed by unfold Dev.goes; split <;> (try split) <;> rfl] at hgo
        have hc := progV_cut (n0 := d.ns) (n1 := d.nw) (n2 := d.limit) (bL := bL) (nL := d.ns * d.nw) (cL := cL) (bW := bW) (nW := d.ns) (cW := cW) (ar := d.armed) (af := d.after) (sd := w32 d.seed) (op := d.ops) w d i j i j _ _ (!d.goes.1.on) d.goes.1.armed d.goes.1.after d.goes.1.ops X (d.word i j) hi m1 m2 ht h (by omega) (by omega) rfl rfl hwo hcp hgo d.seed _ _ rfl rfl (falls_eq _ _ _).symm
        unfold RefOut refX refV
        rw [hon]
        refine hc.mono ?_
        rintro e w' ⟨bL', cL', bW', cW', rfl, hr, h1, h2, hb⟩
        obtain ⟨e1, e2, e3, e4, e5⟩ := hd (d.word i j &&& (X ||| Go.Proofs.Ythpagbfabpfngaa.sd d.seed))
        refine ⟨bL', cL', bW', cW', ?_, hr.same e1 e2 e3 e4, .inr h1, .inr h2, hb⟩
        rw [e1, e2, e5, show (d.goes.1.put i j (d.word i j &&& (X ||| Go.Proofs.Ythpagbfabpfngaa.sd d.seed))).seed = d.seed by show d.goes.1.seed = d.seed; unfold Dev.goes; split <;> (try split) <;> rfl]
        rfl
  · have hp : d.program s k X = (d, d.readE s k) := by
      unfold Dev.program
      rw [if_neg he]
    rw [hp]
    unfold RefOut refX refV
    cases hon : d.on with
    | false =>
      have hE : d.readE s k = 63 := by unfold Dev.readE; rw [hon]; rfl
      refine (progV_off w s k (w32 X)).mono ?_
      rintro e w' ⟨rfl, hb⟩
      exact ⟨bL, cL, bW, cW, by simp only [hE]; rfl, h.new hb, .inl rfl, .inl rfl, hb⟩
    | true =>
      have hok : d.okK s k = false := by
        cases hok : d.okK s k
        · rfl
        · unfold Dev.readE at he; rw [hon, hok] at he; simp at he
      have hE : d.readE s k = 60 := by unfold Dev.readE; rw [hon, hok]; rfl
      rw [hon, hok] at hi
      refine (progV_no w s k (w32 X) hi).mono ?_
      rintro e w' ⟨rfl, hb⟩
      exact ⟨bL, cL, bW, cW, by simp only [hE]; rfl, h.new hb, .inl rfl, .inl rfl, hb⟩
end Go.Proofs.Ythpagbfabpfngaa
