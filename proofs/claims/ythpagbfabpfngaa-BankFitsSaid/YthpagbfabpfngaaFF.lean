/- The contract of flash's Program. -/
import Derived.Test.YthpagbfabpfngaaFE
namespace Go.Proofs.Ythpagbfabpfngaa
open Go.RowKit

def upd (f : Nat → Nat → BitVec 32) (i j : Nat) (x : BitVec 32) : Nat → Nat → BitVec 32 := fun a b => if a = i ∧ b = j then x else f a b
def Dev.put (d : Dev) (i j : Nat) (x : BitVec 32) : Dev := { d with word := upd d.word i j x }
variable {w w' : World} {q S : Nat} {g : Nat → Nat} {d : Dev}
/-- A store into a word. -/
theorem DevAt.setW (h : DevAt w q S g d) (i j : Nat) (x : BitVec 32) (hi : i < d.ns) (hj : j < d.nw) : DevAt (w.setCell ⟨g i, j, none⟩ (Value.int .u32 (w32 x))) q S g (d.put i j x) ∧ Ch (OwnD q S g d.ns) w (w.setCell ⟨g i, j, none⟩ (Value.int .u32 (w32 x))) := by
  have far : ∀ b k, b ≠ g i → (w.setCell ⟨g i, j, none⟩ (Value.int .u32 (w32 x))).cell? ⟨b, k, none⟩ = w.cell? ⟨b, k, none⟩ := fun b k hb =>
    World.cell?_setCell_other w _ _ _ (fun e' => hb (by injection e' with e' _; exact e'.symm))
  have hq := (h.gq i hi).1.symm
  have hS := (h.gq i hi).2.symm
  refine ⟨⟨(far _ _ hq).trans h.c0, (far _ _ hq).trans h.c1, (far _ _ hq).trans h.c2, (far _ _ hq).trans h.c3, (far _ _ hq).trans h.c4, (far _ _ hq).trans h.c5, (far _ _ hq).trans h.c6, (far _ _ hq).trans h.c7, fun j => by rw [World.frozen?_setCell]; exact h.fq j,
    fun i' hi' => (far _ _ hS).trans (h.cs i' hi'), fun i' hi' => (far _ _ hS).trans (h.cw i' hi'), fun j => by rw [World.frozen?_setCell]; exact h.fs j, fun a b ha hb => ?_, fun a b ha hb => by rw [World.frozen?_setCell]; exact h.fg a b ha hb, h.qs, h.gq, h.gi, h.zn⟩, (Ch.refl _ _).setCell _ _ (.inl (.inr (.inr ⟨i, hi, rfl⟩)))⟩
  show _ = some (Value.int .u32 (w32 (upd d.word i j x a b)))
  unfold upd
  by_cases e : a = i
  · subst e
    by_cases e2 : b = j
    · subst e2
      rw [if_pos ⟨rfl, rfl⟩]
      exact World.cell?_setCell_same _ _ _ (h.cg a b ha hb)
    · rw [if_neg (fun e => e2 e.2), World.cell?_setCell_other _ _ _ _ (fun e' => e2 (by injection e' with _ e'; exact e'.symm))]
      exact h.cg a b ha hb
  · rw [if_neg (fun e' => e e'.1), far _ _ (fun e' => e (h.gi a i ha hi e'))]
    exact h.cg a b ha hb

/-- What programming a word does. -/
def Dev.program (d : Dev) (s k : Int) (x : BitVec 32) : Dev × Int :=
  if d.readE s k = 0 then
    (if within x (d.readW s k) then
      (if d.goes.2 then (d.goes.1.put s.toNat k.toNat (d.readW s k &&& (x ||| d.mask)), 63) else (d.goes.1.put s.toNat k.toNat x, 0))
    else (d, 61))
  else (d, d.readE s k)
theorem readE_ok {d : Dev} {s k : Int} (h : d.readE s k = 0) : 0 ≤ s ∧ s < (d.ns : Int) ∧ 0 ≤ k ∧ k < (d.nw : Int) ∧ d.readW s k = d.word s.toNat k.toNat := by
  unfold Dev.readE at h
  split at h
  · rename_i h1
    split at h
    · rename_i h2
      have h3 := h2
      unfold Dev.okK Dev.has at h3
      simp at h3
      refine ⟨h3.1.1, h3.1.2, h3.2.1, h3.2.2, ?_⟩
      unfold Dev.readW
      rw [h1, h2]; rfl
    · cases h
  · cases h
theorem goes_same (d : Dev) : d.goes.1.ns = d.ns ∧ d.goes.1.nw = d.nw ∧ d.goes.1.word = d.word ∧ d.goes.1.worn = d.worn ∧ d.goes.1.limit = d.limit := by
  unfold Dev.goes
  split
  · split <;> exact ⟨rfl, rfl, rfl, rfl, rfl⟩
  · exact ⟨rfl, rfl, rfl, rfl, rfl⟩

set_option maxHeartbeats 1000000 in
theorem program_any (h : DevAt w q S g d) (ho : d.ok) (s k : Int) (x : BitVec 32) : Calls Try.prog 98 #[.pointer (some ⟨q, 0, none⟩), .int .i64 s, .int .i64 k, .int .u32 (w32 x)] w fun e w' =>
    e = .returned (.int .i64 (d.program s k x).2) ∧ DevAt w' q S g (d.program s k x).1 ∧ Ch (OwnD q S g d.ns) w w' := by
  have hr := fun w2 (h2 : DevAt w2 q S g d) => read_any h2 s k
  unfold Dev.program
  by_cases he : d.readE s k = 0
  · rw [if_pos he]
    obtain ⟨s0, s1, k0, k1, hw⟩ := readE_ok he
    obtain ⟨i, rfl⟩ : ∃ i : Nat, s = i := ⟨s.toNat, by omega⟩
    obtain ⟨j, rfl⟩ : ∃ j : Nat, k = j := ⟨k.toNat, by omega⟩
    rw [he] at hr
    simp only [Int.toNat_natCast] at hw ⊢
    obtain ⟨y, hy⟩ : ∃ y, d.readW i j = y := ⟨_, rfl⟩
    rw [hy] at hr ⊢
    have HR := Lib.hid hr
    have HH := Lib.hid h
    have HO := Lib.hid (fun w2 (h2 : DevAt w2 q S g d) => operate_any h2 ho)
    clear hr
    have hro := rose_any x y
    cases hin : within x y with
    | false =>
      rw [hin] at hro
      have HI := Lib.hid hro
      simp only [Bool.false_eq_true, if_false]
      clear h hro
      go_enter Try.func98, Try.ntmps98
      go_wp2_with (first
        | (go_at_call 84; refine (HR.out _ HH.out).mono ?_; rintro e w' ⟨rfl, rfl⟩)
        | (go_at_call 119; refine (HI.out _).mono ?_; rintro e w' ⟨rfl, rfl⟩)
        | fail)
      go_ret
      exact ⟨rfl, HH.out, Ch.refl _ _⟩
    | true =>
      rw [hin] at hro
      have HI := Lib.hid hro
      have c0 := h.c0
      have c4 := h.cs i (by omega)
      simp only [if_true]
      clear h hro
      obtain ⟨e1, e2, e3, -, -⟩ := goes_same d
      obtain ⟨D1, hD1⟩ : ∃ D1, d.goes.1 = D1 := ⟨_, rfl⟩
      obtain ⟨M, hM⟩ : ∃ M, d.mask = M := ⟨_, rfl⟩
      rw [hD1] at e1 e2 e3
      have hi1 : i < D1.ns := by omega
      have hj1 : j < D1.nw := by omega
      rw [hD1, hM]
      rw [hD1, hM] at HO
      have HE := Lib.hid (And.intro e1 (And.intro hi1 hj1))
      cases hcut : d.goes.2 with
      | false =>
        rw [hcut] at HO
        simp only [Bool.false_eq_true, if_false]
        clear hD1 hM e1 e2 e3 hcut
        go_enter Try.func98, Try.ntmps98
        go_wp2_with (first
          | (go_at_call 84; refine (HR.out _ HH.out).mono ?_; rintro e w' ⟨rfl, rfl⟩)
          | (go_at_call 119; refine (HI.out _).mono ?_; rintro e w' ⟨rfl, rfl⟩)
          | (go_at_call 120; refine (HO.out _ HH.out).mono ?_; rintro e w2 ⟨rfl, hd2, hc2⟩; have hdA := hd2.new ((Below.refl w2.heap.size w2).alloc (Nat.le_refl _) (.cells #[.int .u32 (w32 M)] 186)); have HD := Lib.hid (And.intro hdA (And.intro (hc2.trans (Ch.new ((Below.refl w2.heap.size w2).alloc (Nat.le_refl _) (.cells #[.int .u32 (w32 M)] 186)))) (fun (e : OwnD q S g D1.ns w2.heap.size) => Nat.lt_irrefl _ (hd2.own_lt _ e)))); have p1 := hdA.cg i j hi1 hj1; have p2 := hdA.fg i j hi1 hj1; have p3 : (w2.alloc (.cells #[.int .u32 (w32 M)] 186)).cell? ⟨w2.heap.size, 0, none⟩ = some (.int .u32 (w32 M)) := by simp [go_sem]
             have p4 : (w2.alloc (.cells #[.int .u32 (w32 M)] 186)).frozen? ⟨w2.heap.size, 0, none⟩ = false := by simp [go_sem]
             have gN : ¬ g i = w2.heap.size := fun e => Nat.lt_irrefl _ (hd2.own_lt _ (.inr (.inr ⟨i, hi1, e.symm⟩)))
             have gN2 : ¬ w2.heap.size = g i := fun e => gN e.symm
             clear hd2 hc2 hi1 hj1 hdA)
          | fail)
        have h1 := HD.out.1.setW i j x HE.out.2.1 HE.out.2.2
        refine ⟨rfl, .int .i64 0, by simp [results, Try.results98, go_sem], rfl, h1.1, ?_⟩
        rw [← HE.out.1]
        exact (by rw [HE.out.1]; exact HD.out.2.1 : Ch (OwnD q S g D1.ns) w _).setCell _ _ (.inl (.inr (.inr ⟨i, HE.out.2.1, rfl⟩)))
      | true =>
        rw [hcut] at HO
        simp only [if_true]
        clear hD1 hM e1 e2 e3 hcut
        go_enter Try.func98, Try.ntmps98
        go_wp2_with (first
          | (go_at_call 84; refine (HR.out _ HH.out).mono ?_; rintro e w' ⟨rfl, rfl⟩)
          | (go_at_call 119; refine (HI.out _).mono ?_; rintro e w' ⟨rfl, rfl⟩)
          | (go_at_call 120; refine (HO.out _ HH.out).mono ?_; rintro e w2 ⟨rfl, hd2, hc2⟩; have hdA := hd2.new ((Below.refl w2.heap.size w2).alloc (Nat.le_refl _) (.cells #[.int .u32 (w32 M)] 186)); have HD := Lib.hid (And.intro hdA (And.intro (hc2.trans (Ch.new ((Below.refl w2.heap.size w2).alloc (Nat.le_refl _) (.cells #[.int .u32 (w32 M)] 186)))) (fun (e : OwnD q S g D1.ns w2.heap.size) => Nat.lt_irrefl _ (hd2.own_lt _ e)))); have p1 := hdA.cg i j hi1 hj1; have p2 := hdA.fg i j hi1 hj1; have p3 : (w2.alloc (.cells #[.int .u32 (w32 M)] 186)).cell? ⟨w2.heap.size, 0, none⟩ = some (.int .u32 (w32 M)) := by simp [go_sem]
             have p4 : (w2.alloc (.cells #[.int .u32 (w32 M)] 186)).frozen? ⟨w2.heap.size, 0, none⟩ = false := by simp [go_sem]
             have gN : ¬ g i = w2.heap.size := fun e => Nat.lt_irrefl _ (hd2.own_lt _ (.inr (.inr ⟨i, hi1, e.symm⟩)))
             have gN2 : ¬ w2.heap.size = g i := fun e => gN e.symm
             have hdB := hd2.new ((Below.refl w2.heap.size w2).alloc (Nat.le_refl _) (.cells #[.int .u32 (w32 (nxt M))] 186))
             have p5 := hdB.cg i j hi1 hj1
             have p6 := hdB.fg i j hi1 hj1
             have HD2 := Lib.hid (And.intro hdB (hc2.trans (Ch.new ((Below.refl w2.heap.size w2).alloc (Nat.le_refl _) (.cells #[.int .u32 (w32 (nxt M))] 186)))))
             clear hd2 hc2 hi1 hj1 hdA hdB)
          | (go_at_call 122; refine (next_any w2.heap.size M _ p3 p4).mono ?_; rintro e w3 ⟨rfl, rfl⟩)
          | (go_at_call 121; refine (falls_any y x M _).mono ?_; rintro e w3 ⟨rfl, rfl⟩)
          | fail)
        have h1 := HD2.out.1.setW i j (y &&& (x ||| M)) HE.out.2.1 HE.out.2.2
        refine ⟨rfl, .int .i64 63, by simp [results, Try.results98, go_sem], rfl, h1.1, ?_⟩
        rw [← HE.out.1]
        exact (by rw [HE.out.1]; exact HD2.out.2 : Ch (OwnD q S g D1.ns) w _).setCell _ _ (.inl (.inr (.inr ⟨i, HE.out.2.1, rfl⟩)))
  · rw [if_neg he]
    have HR := Lib.hid (hr w h)
    have HH := Lib.hid h
    obtain ⟨z, hz⟩ : ∃ z, d.readE s k = z := ⟨_, rfl⟩
    rw [hz] at HR he ⊢
    clear h hr
    go_enter Try.func98, Try.ntmps98
    go_wp2_with (first
      | (go_at_call 84; refine HR.out.mono ?_; rintro e w' ⟨rfl, rfl⟩)
      | fail)
    go_ret
    exact ⟨rfl, HH.out, Ch.refl _ _⟩
end Go.Proofs.Ythpagbfabpfngaa
