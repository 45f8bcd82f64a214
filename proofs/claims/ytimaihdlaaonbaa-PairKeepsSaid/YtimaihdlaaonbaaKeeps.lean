/- The walk of PairKeeps. -/
import Derived.Test.YtimaihdlaaonbaaTells0
namespace Go.Proofs.Ytimaihdlaaonbaa
open Go.RowKit

theorem held_drew {B N : Nat} {u v : Value} {W0 wz : World} (h : wz.cell? ⟨B, 0, none⟩ = some u ∧ wz.cell? ⟨B, 1, none⟩ = some v ∧ N ≤ wz.heap.size ∧ Below N W0 wz) :
    wz.drew.cell? ⟨B, 0, none⟩ = some u ∧ wz.drew.cell? ⟨B, 1, none⟩ = some v ∧ N ≤ wz.drew.heap.size ∧ Below N W0 wz.drew := ⟨h.1, h.2.1, h.2.2.1, h.2.2.2.drew⟩
theorem held_alloc {B N : Nat} {u v : Value} {o : Obj} {W0 wz : World} (hB : B < N) (h : wz.cell? ⟨B, 0, none⟩ = some u ∧ wz.cell? ⟨B, 1, none⟩ = some v ∧ N ≤ wz.heap.size ∧ Below N W0 wz) :
    (wz.alloc o).cell? ⟨B, 0, none⟩ = some u ∧ (wz.alloc o).cell? ⟨B, 1, none⟩ = some v ∧ N ≤ (wz.alloc o).heap.size ∧ Below N W0 (wz.alloc o) :=
  ⟨(World.cell?_alloc_lt wz o ⟨B, 0, none⟩ (Nat.lt_of_lt_of_le hB h.2.2.1)).trans h.1, (World.cell?_alloc_lt wz o ⟨B, 1, none⟩ (Nat.lt_of_lt_of_le hB h.2.2.1)).trans h.2.1, by simp; have := h.2.2.1; omega, h.2.2.2.alloc h.2.2.1 _⟩

theorem keep_bits {x y z : BitVec 32} (h : (~~~x ||| z) = ~~~(x ||| y)) : x ||| y = x ∧ (~~~x ||| z) = ~~~x := by
  have k : ∀ i, i < 32 → (x ||| y).getLsbD i = x.getLsbD i ∧ (~~~x ||| z).getLsbD i = (~~~x).getLsbD i := fun i hi => by
    have := congrArg (·.getLsbD i) h
    simp only [BitVec.getLsbD_or, BitVec.getLsbD_not, hi, decide_true, Bool.true_and] at this ⊢
    revert this
    cases x.getLsbD i <;> cases y.getLsbD i <;> cases z.getLsbD i <;> decide
  exact ⟨BitVec.eq_of_getLsbD_eq fun i hi => (k i hi).1, BitVec.eq_of_getLsbD_eq fun i hi => (k i hi).2⟩
theorem within_or (x y : BitVec 32) : within x (x ||| y) = true := by
  rw [within_iff]; intro i _ hx; rw [BitVec.getLsbD_or, hx]; rfl
theorem within_all (x : BitVec 32) : within x (~~~0#32) = true := by
  rw [within_iff]; intro i hi _; rw [BitVec.getLsbD_not]; simp [hi]

set_option maxHeartbeats 4000000 in
theorem keeps_walk (x y z : BitVec 32) (r : Bool) (hr : (~~~x ||| z == ~~~(x ||| y)) = r) (w : World) :
    Calls Try.prog 5 #[.int .u32 (w32 x), .int .u32 (w32 y), .int .u32 (w32 z)] w fun e w' => e = .returned (.bool true) ∧ Below w.heap.size w w' := by
  have c14 : ∀ (u v : BitVec 32) (wz : World), Calls Try.prog 14 #[.int .u32 4294967295, .int .u32 (w32 u), .int .u32 (w32 v)] wz fun e w' => e = .returned (.int .u32 (w32 (u ||| v))) ∧ wz = w' := fun u v wz => by
    have := falls_any (~~~0#32) u v wz
    rwa [show (~~~0#32 &&& (u ||| v)) = u ||| v by rw [show ~~~0#32 = BitVec.allOnes 32 by decide, BitVec.allOnes_and], show w32 (~~~0#32) = 4294967295 by decide] at this
  have c10 : ∀ wz : World, Calls Try.prog 10 #[.int .u32 4294967295, .int .u32 (w32 x), .int .u32 (w32 (x ||| y))] wz fun e w' => e = .returned (.bool true) ∧ wz = w' := fun wz => by
    have := fell_any (~~~0#32) x (x ||| y) wz
    rwa [within_all, within_or, show w32 (~~~0#32) = 4294967295 by decide] at this
  have c12 : ∀ wz : World, Calls Try.prog 12 #[.int .u32 (w32 (~~~x)), .int .u32 (w32 (~~~x ||| z))] wz fun e w' => e = .returned (.bool true) ∧ wz = w' := fun wz => by
    have := rose_any (~~~x) (~~~x ||| z) wz
    rwa [within_or] at this
  have c8 : ∀ wz : World, Calls Try.prog 8 #[.agg #[.int .u32 (w32 (x ||| y)), .int .u32 (w32 (~~~x ||| z))]] wz fun e w' => e = .returned (.bool r) ∧ Below wz.heap.size wz w' := fun wz => by
    have := right_any (x ||| y) (~~~x ||| z) wz
    rwa [hr] at this
  have h12 : r = true → (w32 (x ||| y) == w32 x) = true ∧ (w32 (~~~x ||| z) == w32 (~~~x)) = true := fun h => by
    rw [h, beq_iff_eq] at hr
    obtain ⟨h1, h2⟩ := keep_bits hr
    rw [h1, h2]; simp
  have al : ∀ wz : World, Calls Try.prog 18 #[] wz fun e w' => e = .returned (.bool true) ∧ Below wz.heap.size wz w' := alive_any
  have CAl := Lib.hid al
  have C14 := Lib.hid c14
  have C10 := Lib.hid c10
  have C12 := Lib.hid c12
  have C8 := Lib.hid c8
  have HR := Lib.hid h12
  clear c14 c10 c12 c8 hr h12 al
  go_enter Try.func5, Try.ntmps5
  go_wp2_with fail
  refine (of_any x _).mono ?_
  rintro e w1 ⟨rfl, rfl⟩
  go_wp2
  have b0 : ∀ W2 : World, ((w.alloc (.cells #[.int .u32 (w32 x), .int .u32 (w32 (~~~x))] 24)).alloc (.cells #[.int .u32 (w32 x), .int .u32 (w32 (~~~x))] 24)) = W2 → Below w.heap.size w W2 ∧ W2.heap.size = w.heap.size + 1 + 1 ∧
      W2.cell? ⟨w.heap.size + 1, 0, none⟩ = some (.int .u32 (w32 x)) ∧ W2.cell? ⟨w.heap.size + 1, 1, none⟩ = some (.int .u32 (w32 (~~~x))) := by
    rintro W2 rfl
    refine ⟨((Below.refl _ _).alloc (Nat.le_refl _) _).alloc (by simp) _, by simp, ?_⟩
    simp [go_sem]
  generalize hW2 : World.alloc _ _ = W2
  obtain ⟨bW, sW, c0, c1⟩ := b0 W2 hW2
  clear hW2 b0
  have BW := Lib.hid bW
  clear bW
  generalize hB : w.heap.size + 1 = B at *
  obtain ⟨N, hN⟩ : ∃ N, N = W2.heap.size := ⟨_, rfl⟩
  have HB := Lib.hid (show B < N by omega)
  have hN2 := Lib.hid hN
  have S0 := Lib.hid (And.intro c0 (And.intro c1 (And.intro (Nat.le_of_eq hN) (Below.refl N W2))))
  clear c0 c1 sW hN hB
  go_region_held3 (fun w' => w'.cell? ⟨B, 0, none⟩ = some (.int .u32 (w32 x)) ∧ w'.cell? ⟨B, 1, none⟩ = some (.int .u32 (w32 (~~~x))) ∧ N ≤ w'.heap.size ∧ Below N W2 w')
    (first | assumption | exact held_drew S0.out | exact held_drew (held_alloc HB.out S0.out))
    ((go_at_call 14; refine (C14.out _ _ _).mono ?_; rintro e w' ⟨rfl, rfl⟩))
  all_goals
    go_wp2
    have b1 : ∀ W3 : World, (W2.alloc (.cells #[.int .u32 (w32 (x ||| y)), .int .u32 (w32 (~~~x ||| z))] 24)).drew = W3 →
        ((W3.cell? ⟨B, 0, none⟩ = some (.int .u32 (w32 x)) ∧ W3.cell? ⟨B, 1, none⟩ = some (.int .u32 (w32 (~~~x))) ∧ N ≤ W3.heap.size ∧ Below N W2 W3) ∧ W2.heap.size < W3.heap.size) ∧
        W3.cell? ⟨W2.heap.size, 0, none⟩ = some (.int .u32 (w32 (x ||| y))) ∧ W3.cell? ⟨W2.heap.size, 1, none⟩ = some (.int .u32 (w32 (~~~x ||| z))) := by
      rintro W3 rfl
      refine ⟨⟨held_drew (held_alloc HB.out S0.out), by simp⟩, ?_⟩
      simp [go_sem]
    generalize hW3 : (World.alloc W2 _).drew = W3
    obtain ⟨⟨s3, n3⟩, d0, d1⟩ := b1 W3 hW3
    clear b1 hW3
    have S3 := Lib.hid s3
    have N3 := Lib.hid n3
    clear s3 n3
    generalize hF : W2.heap.size = F at *
    go_region_held3 (fun w' => w'.cell? ⟨B, 0, none⟩ = some (.int .u32 (w32 x)) ∧ w'.cell? ⟨B, 1, none⟩ = some (.int .u32 (w32 (~~~x))) ∧ N ≤ w'.heap.size ∧ Below N W2 w')
      (first | assumption | exact held_drew S3.out | exact held_drew (held_alloc HB.out S3.out))
      ((go_at_call 16; refine (rises_any _ _ _).mono ?_; rintro e w' ⟨rfl, rfl⟩))
  all_goals
    have b2 : ∀ W5 : World, (W3.alloc (.cells #[.int .u32 (w32 (x ||| y)), .int .u32 (w32 (~~~x ||| z))] 24)).drew = W5 →
        (W5.cell? ⟨B, 0, none⟩ = some (.int .u32 (w32 x)) ∧ W5.cell? ⟨B, 1, none⟩ = some (.int .u32 (w32 (~~~x))) ∧ N ≤ W5.heap.size ∧ Below N W2 W5) ∧
        (W5.cell? ⟨F, 0, none⟩ = some (.int .u32 (w32 (x ||| y))) ∧ W5.cell? ⟨F, 1, none⟩ = some (.int .u32 (w32 (~~~x ||| z)))) ∧
        W5.cell? ⟨W3.heap.size, 0, none⟩ = some (.int .u32 (w32 (x ||| y))) ∧ W5.cell? ⟨W3.heap.size, 1, none⟩ = some (.int .u32 (w32 (~~~x ||| z))) ∧ W3.heap.size < W5.heap.size := by
      rintro W5 rfl
      refine ⟨held_drew (held_alloc HB.out S3.out), ⟨?_, ?_⟩, ?_⟩
      · exact (World.cell?_alloc_lt W3 _ ⟨F, 0, none⟩ N3.out).trans d0
      · exact (World.cell?_alloc_lt W3 _ ⟨F, 1, none⟩ N3.out).trans d1
      · simp [go_sem]
    generalize hW5 : (World.alloc W3 _).drew = W5
    obtain ⟨⟨p0, p1, pN, pB⟩, ⟨f0, f1⟩, g0, g1, gN⟩ := b2 W5 hW5
    clear b2 hW5
    have BW2 : Below w.heap.size w W2 := BW.out
    have eF := hN2.out
    have FIN := Lib.hid (BW2.trans (pB.mono (by rw [eF, ← hF]; exact BW2.size)))
    clear eF
    have CE := Lib.hid (show ∀ wz : World, Below W5.heap.size W5 wz →
        (wz.cell? ⟨B, 0, none⟩ = some (.int .u32 (w32 x)) ∧ wz.cell? ⟨B, 1, none⟩ = some (.int .u32 (w32 (~~~x)))) ∧
        (wz.cell? ⟨F, 0, none⟩ = some (.int .u32 (w32 (x ||| y))) ∧ wz.cell? ⟨F, 1, none⟩ = some (.int .u32 (w32 (~~~x ||| z)))) ∧
        (wz.cell? ⟨W3.heap.size, 0, none⟩ = some (.int .u32 (w32 (x ||| y))) ∧ wz.cell? ⟨W3.heap.size, 1, none⟩ = some (.int .u32 (w32 (~~~x ||| z)))) from fun wz hz => by
      have k : ∀ (D o : Nat), D < W5.heap.size → wz.cell? ⟨D, o, none⟩ = W5.cell? ⟨D, o, none⟩ := fun D o hD => hz.cell (p := ⟨D, o, none⟩) hD
      have hBn := Nat.lt_of_lt_of_le HB.out pN
      have hFn := Nat.lt_of_lt_of_le N3.out (Nat.le_of_lt gN)
      exact ⟨⟨(k _ _ hBn).trans p0, (k _ _ hBn).trans p1⟩, ⟨(k _ _ hFn).trans f0, (k _ _ hFn).trans f1⟩, (k _ _ gN).trans g0, (k _ _ gN).trans g1⟩)
    clear pN pB gN BW2
    cases r
    · clear HR
      go_wp2_with fail
      refine (C10.out _).mono ?_
      rintro e w10 ⟨rfl, rfl⟩
      go_wp2_with fail
      refine (C12.out _).mono ?_
      rintro e w12 ⟨rfl, rfl⟩
      go_wp2_with fail
      refine (C8.out _).mono ?_
      rintro e w6 ⟨rfl, hb6⟩
      clear p0 p1 f0 f1 g0 g1
      obtain ⟨⟨p0, p1⟩, ⟨f0, f1⟩, g0, g1⟩ := CE.out _ hb6
      have H6 := Lib.hid hb6
      clear hb6
      go_wp2_with fail
      refine (C8.out _).mono ?_
      rintro e w7 ⟨rfl, hb7⟩
      have H7 := Lib.hid (H6.out.trans (hb7.mono H6.out.size))
      clear hb7 p0 p1 f0 f1 g0 g1
      go_wp2_with fail
      refine (CAl.out _).mono ?_
      rintro e w8 ⟨rfl, hb8⟩
      have H8 := Lib.hid (H7.out.trans (hb8.mono H7.out.size))
      clear hb8
      go_wp2
      go_ret
      exact ⟨rfl, FIN.out.trans (H8.out.mono FIN.out.size)⟩
    · obtain ⟨e1, e2⟩ := HR.out rfl
      clear HR
      go_wp2_with fail
      refine (C10.out _).mono ?_
      rintro e w10 ⟨rfl, rfl⟩
      go_wp2_with fail
      refine (C12.out _).mono ?_
      rintro e w12 ⟨rfl, rfl⟩
      go_wp2_with fail
      refine (C8.out _).mono ?_
      rintro e w6 ⟨rfl, hb6⟩
      clear p0 p1 f0 f1 g0 g1
      obtain ⟨⟨p0, p1⟩, ⟨f0, f1⟩, g0, g1⟩ := CE.out _ hb6
      have H6 := Lib.hid hb6
      clear hb6
      go_wp2_with fail
      refine (C8.out _).mono ?_
      rintro e w7 ⟨rfl, hb7⟩
      have H7 := Lib.hid (H6.out.trans (hb7.mono H6.out.size))
      clear hb7 p0 p1 f0 f1 g0 g1
      obtain ⟨⟨p0, p1⟩, ⟨f0, f1⟩, g0, g1⟩ := CE.out _ H7.out
      go_wp2_with fail
      refine (CAl.out _).mono ?_
      rintro e w8 ⟨rfl, hb8⟩
      have H8 := Lib.hid (H7.out.trans (hb8.mono H7.out.size))
      clear hb8
      go_wp2
      go_ret
      exact ⟨rfl, FIN.out.trans (H8.out.mono FIN.out.size)⟩
theorem law_keeps (x y z : BitVec 32) (w : World) :
    Calls Try.prog 5 #[.int .u32 (w32 x), .int .u32 (w32 y), .int .u32 (w32 z)] w fun e w' => e = .returned (.bool true) ∧ Below w.heap.size w w' :=
  keeps_walk x y z _ rfl w
end Go.Proofs.Ytimaihdlaaonbaa
