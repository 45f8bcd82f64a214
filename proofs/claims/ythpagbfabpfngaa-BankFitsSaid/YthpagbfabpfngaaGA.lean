/- The contract of the reference's Erase: what it makes of a device. -/
import Derived.Test.YthpagbfabpfngaaFZ
namespace Go.Proofs.Ythpagbfabpfngaa
open Go.RowKit

theorem goes_seed (d : Dev) : d.goes.1.seed = d.seed := by unfold Dev.goes; split <;> (try split) <;> rfl
theorem readE_zero (d : Dev) (s : Int) (hz : 0 < d.nw) : d.readE s 0 = if d.on then (if d.has s then 0 else 60) else 63 := by
  unfold Dev.readE Dev.okK
  rw [show decide ((0 : Int) ≤ 0) = true from rfl, show decide ((0 : Int) < (d.nw : Int)) = true by simp; omega]
  simp
theorem eraseR_any {w : World} {bL bW : Nat} {d : Dev} (h : RefIn w bL bW d) (ho : d.okE) (h5 : d.nw ≤ 500) (cL cW : Nat) (s : Int) :
    Calls Try.prog 93 #[refX bL cL bW cW d, .int .i64 s] w fun e w' =>
      RefOut w w' bL bW (d.erase s).1 (fun v => .tuple #[v, .int .i64 (d.erase s).2]) e := by
  have hz := h.zn
  have hE := readE_zero d s hz.2.2.2
  cases hon : d.on with
  | false =>
    rw [hon] at hE
    simp only [Bool.false_eq_true, if_false] at hE
    have hp : d.erase s = (d, 63) := by unfold Dev.erase; rw [hE]; rfl
    rw [hp]
    unfold RefOut refX refV
    rw [hon]
    refine (eraseV_off w s).mono ?_
    rintro e w' ⟨rfl, hb⟩
    exact ⟨bL, cL, bW, cW, by simp only []; rfl, h.new hb, .inl rfl, .inl rfl, hb⟩
  | true =>
    rw [hon] at hE
    cases hs : d.has s with
    | false =>
      rw [hs] at hE
      simp only [if_true, Bool.false_eq_true, if_false] at hE
      have hp : d.erase s = (d, 60) := by unfold Dev.erase; rw [hE]; rfl
      rw [hp]
      unfold RefOut refX refV
      rw [hon]
      refine (eraseV_no w s (by unfold Dev.has at hs; simp at hs; omega)).mono ?_
      rintro e w' ⟨rfl, hb⟩
      exact ⟨bL, cL, bW, cW, by simp only []; rfl, h.new hb, .inl rfl, .inl rfl, hb⟩
    | true =>
      rw [hs] at hE
      simp only [if_true] at hE
      unfold Dev.has at hs
      simp at hs
      obtain ⟨i, rfl⟩ : ∃ i : Nat, s = i := ⟨s.toNat, by omega⟩
      by_cases hl : d.limit ≤ d.worn i
      · have hp : d.erase i = (d, 62) := by unfold Dev.erase; rw [if_pos hE, if_pos (by rw [Int.toNat_natCast]; exact hl)]
        rw [hp]
        unfold RefOut refX refV
        rw [hon]
        refine (eraseV_worn w i (d.worn i) hs.2 (by omega) (h.cw i (by omega)) hl).mono ?_
        rintro e w' ⟨rfl, hb⟩
        exact ⟨bL, cL, bW, cW, by simp only []; rfl, h.new hb, .inl rfl, .inl rfl, hb⟩
      · have hcp := fun w2 (h2 : RefIn w2 bL bW d) => copyR_any h2 cL cW
        have hgo := fun bL cL bW cW w2 => goesR_any (d.wear i) bL cL bW cW (wear_ok ho.1 i) w2
        obtain ⟨g1, g2, g3, g4, g5⟩ := goes_same (d.wear i)
        have g6 := goes_seed (d.wear i)
        have w1 := ho.2.2 i
        have hlim := ho.2.1
        have hw1 : IntKind.i64.wrap (d.worn i + 1) = d.worn i + 1 := by rw [IntKind.wrap_i64]; omega
        have hm : i * d.nw ≤ 64 * 1024 := Nat.mul_le_mul (by omega) (by omega)
        have m1 := wrap_nat ((i : Int) * (d.nw : Int)) (i * d.nw) (by simp) (by omega)
        unfold refX refV at hcp hgo
        rw [hon] at hcp
        rw [g1, g2, g5, g6, show (d.wear i).on = true from hon] at hgo
        have e1 : ∀ f, ((d.wear i).goes.1.part i f d.nw).ns = ((d.wear i).part i f d.nw).ns := fun f => g1
        have e2 : ∀ f, ((d.wear i).goes.1.part i f d.nw).nw = ((d.wear i).part i f d.nw).nw := fun f => g2
        have e3 : ∀ f, ((d.wear i).goes.1.part i f d.nw).word = ((d.wear i).part i f d.nw).word := fun f => by
          show (fun a b => if a = i ∧ b < d.nw then f b else (d.wear i).goes.1.word a b) = _
          rw [g3]; rfl
        have e4 : ∀ f, ((d.wear i).goes.1.part i f d.nw).worn = ((d.wear i).part i f d.nw).worn := fun f => g4
        cases hcut : (d.wear i).goes.2 with
        | false =>
          rw [hcut] at hgo
          have hp : d.erase i = ((d.wear i).goes.1.part i (fun _ => 4294967295#32) d.nw, 0) := by
            unfold Dev.erase
            rw [if_pos hE, Int.toNat_natCast, if_neg hl, hcut]; rfl
          rw [hp]
          have hc := eraseV_ok (n0 := d.ns) (n2 := d.limit) (bL := bL) (nL := d.ns * d.nw) (cL := cL) (bW := bW) (nW := d.ns) (cW := cW) (ar := d.armed) (af := d.after) (sd := w32 d.seed) (op := d.ops) w d i d.nw _ _ (!(d.wear i).goes.1.on) (d.wear i).goes.1.armed (d.wear i).goes.1.after (d.wear i).goes.1.ops (fun _ => 4294967295#32) hs.2 (by omega) rfl rfl m1 (by omega) rfl ⟨hz.2.1, hz.2.2.2⟩ h (by omega) rfl hl hw1 hcp hgo (fun _ => rfl)
          unfold RefOut refX refV
          rw [hon]
          refine hc.mono ?_
          rintro e w' ⟨bL', cL', bW', cW', rfl, hr, h1, h2, hb⟩
          refine ⟨bL', cL', bW', cW', ?_, hr.same (e1 _) (e2 _) (e3 _) (e4 _), .inr h1, .inr h2, hb⟩
          rw [e1, e2]
          show _ = Ending.returned (.tuple #[.agg #[_, _, .int .i64 (d.wear i).goes.1.limit, _, _, _, _, _, .int .u32 (w32 (d.wear i).goes.1.seed), _], _])
          rw [g5, g6]
          rfl
        | true =>
          rw [hcut] at hgo
          have hp : d.erase i = ((d.wear i).goes.1.part i (fun k => d.word i k ||| it (Go.Proofs.Ythpagbfabpfngaa.sd d.seed) k) d.nw, 63) := by
            unfold Dev.erase Dev.mask
            rw [if_pos hE, Int.toNat_natCast, if_neg hl, hcut]; rfl
          rw [hp]
          have hc := eraseV_cut (n0 := d.ns) (n2 := d.limit) (bL := bL) (nL := d.ns * d.nw) (cL := cL) (bW := bW) (nW := d.ns) (cW := cW) (ar := d.armed) (af := d.after) (sd := w32 d.seed) (op := d.ops) w d i d.nw _ _ (!(d.wear i).goes.1.on) (d.wear i).goes.1.armed (d.wear i).goes.1.after (d.wear i).goes.1.ops (fun k => d.word i k ||| it (Go.Proofs.Ythpagbfabpfngaa.sd d.seed) k) hs.2 (by omega) rfl rfl m1 (by omega) rfl ⟨hz.2.1, hz.2.2.2⟩ h (by omega) rfl hl hw1 hcp hgo d.seed _ h5 rfl rfl (fun _ => rfl)
          unfold RefOut refX refV
          rw [hon]
          refine hc.mono ?_
          rintro e w' ⟨bL', cL', bW', cW', rfl, hr, h1, h2, hb⟩
          refine ⟨bL', cL', bW', cW', ?_, hr.same (e1 _) (e2 _) (e3 _) (e4 _), .inr h1, .inr h2, hb⟩
          rw [e1, e2]
          show _ = Ending.returned (.tuple #[.agg #[_, _, .int .i64 (d.wear i).goes.1.limit, _, _, _, _, _, .int .u32 (w32 (d.wear i).goes.1.seed), _], _])
          rw [g5, g6]
          rfl
end Go.Proofs.Ythpagbfabpfngaa
