/- Where a flash device lies; the contracts of its small calls. -/
import Derived.Test.YthpagbfabpfngaaFP
import Derived.Test.YthpagbfabpfngaaFoot
import Derived.BigQuiet
import Derived.Deep.QuietTactic
import Derived.IntWalk
import Derived.StillTail
import Derived.StillTactics
import Derived.StillTailTactics
import Derived.Deep.RegionHeld3
namespace Go.Proofs.Ythpagbfabpfngaa
open Go.RowKit

/-- A device's state. -/
structure Dev where
  ns : Nat
  nw : Nat
  limit : Int
  on : Bool
  ops : Int
  armed : Bool
  after : Int
  seed : BitVec 32
  word : Nat → Nat → BitVec 32
  worn : Nat → Int
/-- Where a device lies: its own block, its sectors', the words' of each. -/
structure DevAt (w : World) (q S : Nat) (g : Nat → Nat) (d : Dev) : Prop where
  c0 : w.cell? ⟨q, 0, none⟩ = some (.slice (some ⟨S, 0, none⟩) d.ns d.ns)
  c1 : w.cell? ⟨q, 1, none⟩ = some (.int .i64 d.nw)
  c2 : w.cell? ⟨q, 2, none⟩ = some (.int .i64 d.limit)
  c3 : w.cell? ⟨q, 3, none⟩ = some (.bool d.on)
  c4 : w.cell? ⟨q, 4, none⟩ = some (.int .i64 d.ops)
  c5 : w.cell? ⟨q, 5, none⟩ = some (.bool d.armed)
  c6 : w.cell? ⟨q, 6, none⟩ = some (.int .i64 d.after)
  c7 : w.cell? ⟨q, 7, none⟩ = some (.int .u32 (w32 d.seed))
  fq : ∀ j, w.frozen? ⟨q, j, none⟩ = false
  cs : ∀ i, i < d.ns → w.cell? ⟨S, i * 2, none⟩ = some (.slice (some ⟨g i, 0, none⟩) d.nw d.nw)
  cw : ∀ i, i < d.ns → w.cell? ⟨S, i * 2 + 1, none⟩ = some (.int .i64 (d.worn i))
  fs : ∀ j, w.frozen? ⟨S, j, none⟩ = false
  cg : ∀ i k, i < d.ns → k < d.nw → w.cell? ⟨g i, k, none⟩ = some (.int .u32 (w32 (d.word i k)))
  fg : ∀ i k, i < d.ns → k < d.nw → w.frozen? ⟨g i, k, none⟩ = false
  qs : q ≠ S
  gq : ∀ i, i < d.ns → g i ≠ q ∧ g i ≠ S
  gi : ∀ i j, i < d.ns → j < d.ns → g i = g j → i = j
  zn : d.ns ≤ 64 ∧ d.nw ≤ 1024 ∧ 0 < d.ns ∧ 0 < d.nw
/-- Which blocks are a device's. -/
def OwnD (q S : Nat) (g : Nat → Nat) (ns j : Nat) : Prop := j = q ∨ j = S ∨ ∃ i, i < ns ∧ j = g i
section
variable {w w' : World} {q S : Nat} {g : Nat → Nat} {d : Dev}
theorem DevAt.drewN (h : DevAt w q S g d) (n : Nat) : DevAt (w.drewN n) q S g d := ⟨h.c0, h.c1, h.c2, h.c3, h.c4, h.c5, h.c6, h.c7, h.fq, h.cs, h.cw, h.fs, h.cg, h.fg, h.qs, h.gq, h.gi, h.zn⟩
theorem DevAt.keep {T : Nat → Prop} (h : DevAt w q S g d) (c : Ch T w w') (hT : ∀ j, OwnD q S g d.ns j → ¬ T j) : DevAt w' q S g d := by
  have tq := hT q (.inl rfl)
  have tS := hT S (.inr (.inl rfl))
  have tg : ∀ i, i < d.ns → ¬ T (g i) := fun i hi => hT _ (.inr (.inr ⟨i, hi, rfl⟩))
  have hS : S < w.heap.size := by have := World.block_lt_of_cell? w _ (h.cs 0 h.zn.2.2.1); simpa using this
  have hq : q < w.heap.size := by have := World.block_lt_of_cell? w _ h.c0; simpa using this
  exact ⟨c.cell h.c0 tq, c.cell h.c1 tq, c.cell h.c2 tq, c.cell h.c3 tq, c.cell h.c4 tq, c.cell h.c5 tq, c.cell h.c6 tq, c.cell h.c7 tq, fun j => (c.frozen (p := ⟨q, j, none⟩) hq tq).trans (h.fq j),
    fun i hi => c.cell (h.cs i hi) tS, fun i hi => c.cell (h.cw i hi) tS, fun j => (c.frozen (p := ⟨S, j, none⟩) hS tS).trans (h.fs j),
    fun i k hi hk => c.cell (h.cg i k hi hk) (tg i hi), fun i k hi hk => (c.frozenCell (h.cg i k hi hk) (tg i hi)).trans (h.fg i k hi hk), h.qs, h.gq, h.gi, h.zn⟩
theorem DevAt.new (h : DevAt w q S g d) (c : Below w.heap.size w w') : DevAt w' q S g d := h.keep (T := fun _ => False) (Ch.new c) (fun _ _ h => h)

/-- The cells of a device's own block. -/
def rowQ (d : Dev) (S : Nat) : List Value := [.slice (some ⟨S, 0, none⟩) d.ns d.ns, .int .i64 d.nw, .int .i64 d.limit, .bool d.on, .int .i64 d.ops, .bool d.armed, .int .i64 d.after, .int .u32 (w32 d.seed)]
theorem DevAt.row (h : DevAt w q S g d) (j : Nat) (u : Value) (hu : (rowQ d S)[j]? = some u) : w.cell? ⟨q, j, none⟩ = some u := by
  match j, hu with
  | 0, hu => rw [← hu]; exact h.c0
  | 1, hu => rw [← hu]; exact h.c1
  | 2, hu => rw [← hu]; exact h.c2
  | 3, hu => rw [← hu]; exact h.c3
  | 4, hu => rw [← hu]; exact h.c4
  | 5, hu => rw [← hu]; exact h.c5
  | 6, hu => rw [← hu]; exact h.c6
  | 7, hu => rw [← hu]; exact h.c7
  | j + 8, hu => simp [rowQ] at hu
/-- A store into a device's own block. -/
theorem DevAt.setQ (h : DevAt w q S g d) (j0 : Nat) (v : Value) (d' : Dev) (hj : j0 < 8) (hr : rowQ d' S = (rowQ d S).set j0 v) (h1 : d'.ns = d.ns) (h2 : d'.nw = d.nw) (h3 : d'.word = d.word) (h4 : d'.worn = d.worn) :
    DevAt (w.setCell ⟨q, j0, none⟩ v) q S g d' := by
  have hl : (rowQ d S).length = 8 := rfl
  have row : ∀ j u, (rowQ d' S)[j]? = some u → (w.setCell ⟨q, j0, none⟩ v).cell? ⟨q, j, none⟩ = some u := by
    intro j u hu
    rw [hr] at hu
    by_cases e : j = j0
    · subst e
      rw [List.getElem?_set_self (by omega)] at hu
      rw [← hu]
      exact World.cell?_setCell_same _ _ _ (h.row j _ (List.getElem?_eq_getElem (by omega)))
    · rw [List.getElem?_set_ne (fun e' => e e'.symm)] at hu
      rw [World.cell?_setCell_other _ _ _ _ (fun e' => e (by injection e' with _ e'; exact e'.symm))]
      exact h.row j u hu
  have far : ∀ b k, b ≠ q → (w.setCell ⟨q, j0, none⟩ v).cell? ⟨b, k, none⟩ = w.cell? ⟨b, k, none⟩ := fun b k hb =>
    World.cell?_setCell_other _ _ _ _ (fun e' => hb (by injection e' with e' _; exact e'.symm))
  refine ⟨row 0 _ rfl, row 1 _ rfl, row 2 _ rfl, row 3 _ rfl, row 4 _ rfl, row 5 _ rfl, row 6 _ rfl, row 7 _ rfl, fun j => by rw [World.frozen?_setCell]; exact h.fq j,
    fun i hi => ?_, fun i hi => ?_, fun j => by rw [World.frozen?_setCell]; exact h.fs j, fun i k hi hk => ?_, fun i k hi hk => ?_, h.qs, fun i hi => h.gq i (by rw [← h1]; exact hi), fun i j hi hj => h.gi i j (by rw [← h1]; exact hi) (by rw [← h1]; exact hj), by rw [h1, h2]; exact h.zn⟩
  · rw [far _ _ h.qs.symm, h2]; exact h.cs i (by rw [← h1]; exact hi)
  · rw [far _ _ h.qs.symm, h4]; exact h.cw i (by rw [← h1]; exact hi)
  · rw [far _ _ (h.gq i (by rw [← h1]; exact hi)).1, h3]; exact h.cg i k (by rw [← h1]; exact hi) (by rw [← h2]; exact hk)
  · rw [World.frozen?_setCell]; exact h.fg i k (by rw [← h1]; exact hi) (by rw [← h2]; exact hk)
theorem ownD_q {ns : Nat} (v : Value) (j0 : Nat) : Ch (OwnD q S g ns) w (w.setCell ⟨q, j0, none⟩ v) := (Ch.refl _ _).setCell _ _ (.inl (.inl rfl))
/-- Is there such a sector? -/
def Dev.has (d : Dev) (s : Int) : Bool := decide (0 ≤ s) && decide (s < (d.ns : Int))
theorem hasD_any (h : DevAt w q S g d) (s : Int) : Calls Try.prog 66 #[.pointer (some ⟨q, 0, none⟩), .int .i64 s] w fun e w' => e = .returned (.bool (d.has s)) ∧ w = w' := by
  have c0 := h.c0
  clear h
  unfold Dev.has
  have HN := Lib.hid (fun h1 : ¬ 0 ≤ s => decide_eq_false h1)
  by_cases h1 : 0 ≤ s
  · by_cases h2 : s < (d.ns : Int)
    all_goals
      go_enter Try.func66, Try.ntmps66
      go_wp2
      go_ret
      exact ⟨by simp [h2], rfl⟩
  · rw [HN.out h1]
    go_enter Try.func66, Try.ntmps66
    go_wp2
    go_ret
    exact ⟨rfl, rfl⟩
theorem sectors_any (h : DevAt w q S g d) : Calls Try.prog 42 #[.pointer (some ⟨q, 0, none⟩)] w fun e w' => e = .returned (.int .i64 d.ns) ∧ w = w' := by
  have c0 := h.c0
  clear h
  go_enter Try.func42, Try.ntmps42
  go_wp2
  go_ret
  exact ⟨rfl, rfl⟩
theorem words_any (h : DevAt w q S g d) : Calls Try.prog 41 #[.pointer (some ⟨q, 0, none⟩)] w fun e w' => e = .returned (.int .i64 d.nw) ∧ w = w' := by
  have c0 := h.c1
  clear h
  go_enter Try.func41, Try.ntmps41
  go_wp2
  go_ret
  exact ⟨rfl, rfl⟩
theorem limit_any (h : DevAt w q S g d) : Calls Try.prog 53 #[.pointer (some ⟨q, 0, none⟩)] w fun e w' => e = .returned (.int .i64 d.limit) ∧ w = w' := by
  have c0 := h.c2
  clear h
  go_enter Try.func53, Try.ntmps53
  go_wp2
  go_ret
  exact ⟨rfl, rfl⟩
theorem on_any (h : DevAt w q S g d) : Calls Try.prog 46 #[.pointer (some ⟨q, 0, none⟩)] w fun e w' => e = .returned (.bool d.on) ∧ w = w' := by
  have c0 := h.c3
  clear h
  go_enter Try.func46, Try.ntmps46
  go_wp2
  go_ret
  exact ⟨rfl, rfl⟩
/-- How often a sector was erased. -/
def Dev.wornS (d : Dev) (s : Int) : Int := if d.has s then d.worn s.toNat else 0
theorem worn_any (h : DevAt w q S g d) (s : Int) : Calls Try.prog 52 #[.pointer (some ⟨q, 0, none⟩), .int .i64 s] w fun e w' => e = .returned (.int .i64 (d.wornS s)) ∧ w = w' := by
  have hh := hasD_any h s
  unfold Dev.wornS
  cases hs : d.has s with
  | true =>
    rw [hs] at hh
    have HH := Lib.hid hh
    unfold Dev.has at hs
    simp at hs
    obtain ⟨i, rfl⟩ : ∃ i : Nat, s = i := ⟨s.toNat, by omega⟩
    have c0 := h.c0
    have c1 := h.cw i (by omega)
    have i0 : (0 : Int) ≤ (i : Int) := by omega
    have i1 : (i : Int) < (d.ns : Int) := hs.2
    obtain ⟨x, hx⟩ : ∃ x, d.worn i = x := ⟨_, rfl⟩
    rw [hx] at c1
    simp only [Int.toNat_natCast, hx, if_true]
    clear h hh hs hx
    go_enter Try.func52, Try.ntmps52
    go_wp2_with (go_at_call 66; refine HH.out.mono ?_; rintro e w' ⟨rfl, rfl⟩)
    go_ret
    exact ⟨rfl, rfl⟩
  | false =>
    rw [hs] at hh
    have HH := Lib.hid hh
    clear h hh hs
    go_enter Try.func52, Try.ntmps52
    go_wp2_with (go_at_call 66; refine HH.out.mono ?_; rintro e w' ⟨rfl, rfl⟩)
    go_ret
    exact ⟨rfl, rfl⟩
/-- What is read. -/
def Dev.okK (d : Dev) (s k : Int) : Bool := d.has s && (decide (0 ≤ k) && decide (k < (d.nw : Int)))
def Dev.readW (d : Dev) (s k : Int) : BitVec 32 := if d.on && d.okK s k then d.word s.toNat k.toNat else 0#32
def Dev.readE (d : Dev) (s k : Int) : Int := if d.on then (if d.okK s k then 0 else 60) else 63
theorem read_any (h : DevAt w q S g d) (s k : Int) : Calls Try.prog 84 #[.pointer (some ⟨q, 0, none⟩), .int .i64 s, .int .i64 k] w fun e w' => e = .returned (.tuple #[.int .u32 (w32 (d.readW s k)), .int .i64 (d.readE s k)]) ∧ w = w' := by
  have hh := hasD_any h s
  have c3 := h.c3
  unfold Dev.readW Dev.readE
  cases hon : d.on with
  | false =>
    rw [hon] at c3
    clear hh h
    go_enter Try.func84, Try.ntmps84
    go_wp2
    go_ret2
    exact ⟨rfl, rfl⟩
  | true =>
    rw [hon] at c3
    unfold Dev.okK
    cases hs : d.has s with
    | false =>
      rw [hs] at hh
      have HH := Lib.hid hh
      clear h hh hs hon
      go_enter Try.func84, Try.ntmps84
      go_wp2_with (go_at_call 66; refine HH.out.mono ?_; rintro e w' ⟨rfl, rfl⟩)
      go_ret2
      exact ⟨rfl, rfl⟩
    | true =>
      rw [hs] at hh
      have HH := Lib.hid hh
      have c1 := h.c1
      by_cases h1 : 0 ≤ k
      · by_cases h2 : k < (d.nw : Int)
        · unfold Dev.has at hs
          simp at hs
          obtain ⟨i, rfl⟩ : ∃ i : Nat, s = i := ⟨s.toNat, by omega⟩
          obtain ⟨j, rfl⟩ : ∃ j : Nat, k = j := ⟨k.toNat, by omega⟩
          have c0 := h.c0
          have c4 := h.cs i (by omega)
          have c5 := h.cg i j (by omega) (by omega)
          have i0 : (0 : Int) ≤ (i : Int) := by omega
          have i1 : (i : Int) < (d.ns : Int) := hs.2
          obtain ⟨x, hx⟩ : ∃ x, d.word i j = x := ⟨_, rfl⟩
          rw [hx] at c5
          have e1 : decide ((0 : Int) ≤ (j : Int)) = true := by simp
          have e2 : decide ((j : Int) < (d.nw : Int)) = true := by simpa using h2
          simp only [Int.toNat_natCast, hx, e1, e2, Bool.and_self, if_true]
          clear h hh hs hx hon e1 e2
          go_enter Try.func84, Try.ntmps84
          go_wp2_with (go_at_call 66; refine HH.out.mono ?_; rintro e w' ⟨rfl, rfl⟩)
          go_ret2
          exact ⟨rfl, rfl⟩
        · rw [decide_eq_false h2, Bool.and_false, Bool.and_false, Bool.and_false]
          have e1 : decide (k < 0) = false := by rw [decide_eq_false_iff_not]; omega
          have e2 : decide ((d.nw : Int) ≤ k) = true := by simp; omega
          simp only [Bool.false_eq_true, if_false, if_true]
          clear h hh hs hon h1 h2
          go_enter Try.func84, Try.ntmps84
          go_wp2_with (go_at_call 66; refine HH.out.mono ?_; rintro e w' ⟨rfl, rfl⟩)
          go_ret2
          exact ⟨rfl, rfl⟩
      · rw [decide_eq_false h1, Bool.false_and, Bool.and_false, Bool.and_false]
        have e1 : decide (k < 0) = true := by simp; omega
        simp only [Bool.false_eq_true, if_false, if_true]
        clear h hh hs hon h1
        go_enter Try.func84, Try.ntmps84
        go_wp2_with (go_at_call 66; refine HH.out.mono ?_; rintro e w' ⟨rfl, rfl⟩)
        go_ret2
        exact ⟨rfl, rfl⟩
/-- The power is to go. -/
def Dev.arm (d : Dev) (after : Int) (seed : BitVec 32) : Dev := { d with armed := true, after := after, seed := seed }
def Dev.power (d : Dev) (on : Bool) : Dev := { d with on := on }
theorem power_any (h : DevAt w q S g d) (on : Bool) : Calls Try.prog 61 #[.pointer (some ⟨q, 0, none⟩), .bool on] w fun e w' => e = .returned (.tuple #[]) ∧ DevAt w' q S g (d.power on) ∧ Ch (OwnD q S g d.ns) w w' := by
  have c3 := h.c3
  have f3 := h.fq 3
  have HH := Lib.hid h
  clear h
  go_enter Try.func61, Try.ntmps61
  go_wp2
  refine ⟨rfl, .tuple #[], by simp [results, Try.results61, go_sem], rfl, ?_⟩
  exact ⟨HH.out.setQ 3 _ _ (by omega) rfl rfl rfl rfl rfl, ownD_q _ _⟩
theorem arm_any (h : DevAt w q S g d) (after : Int) (seed : BitVec 32) : Calls Try.prog 59 #[.pointer (some ⟨q, 0, none⟩), .agg #[.int .i64 after, .int .u32 (w32 seed)]] w fun e w' => e = .returned (.tuple #[]) ∧ DevAt w' q S g (d.arm after seed) ∧ Ch (OwnD q S g d.ns) w w' := by
  have HH := Lib.hid h
  clear h
  go_enter Try.func59, Try.ntmps59
  go_wp2
  obtain ⟨N, hN⟩ : ∃ N, w.heap.size = N := ⟨_, rfl⟩
  generalize hwa : World.alloc w _ = wa
  rw [hN]
  have hb : Below w.heap.size w wa := by rw [← hwa]; exact (Below.refl _ w).alloc (Nat.le_refl _) _
  have hd := HH.out.new hb
  have p0 : wa.cell? ⟨N, 0, none⟩ = some (.int .i64 after) := by rw [← hwa, ← hN]; simp [go_sem]
  have p1 : wa.cell? ⟨N, 1, none⟩ = some (.int .u32 (w32 seed)) := by rw [← hwa, ← hN]; simp [go_sem]
  have hqN : q < N := by rw [← hN]; have := World.block_lt_of_cell? w _ HH.out.c0; simpa using this
  have HW := Lib.hid (And.intro hd (And.intro hb hN))
  have c5 := hd.c5
  have c6 := hd.c6
  have c7 := hd.c7
  have f5 := hd.fq 5
  have f6 := hd.fq 6
  have f7 := hd.fq 7
  have hne : q ≠ N := by omega
  have hne2 : N ≠ q := by omega
  clear hwa hd hb hN
  go_region_held3 (fun w' => w'.cell? ⟨N, 0, none⟩ = some (.int .i64 after) ∧ w'.cell? ⟨N, 1, none⟩ = some (.int .u32 (w32 seed))) (first | exact ⟨p0, p1⟩ | go_keep) (fail)
  refine ⟨rfl, .tuple #[], by simp [results, Try.results59, go_sem], rfl, ?_⟩
  have h1 := HW.out.1.setQ 5 (.bool true) { d with armed := true } (by omega) rfl rfl rfl rfl rfl
  have h2 := h1.setQ 6 (.int .i64 after) { d with armed := true, after := after } (by omega) rfl rfl rfl rfl rfl
  have h3 := h2.setQ 7 (.int .u32 (w32 seed)) (d.arm after seed) (by omega) rfl rfl rfl rfl rfl
  refine ⟨h3.drewN 1, ?_⟩
  have hc : Ch (OwnD q S g d.ns) w wa := Ch.new HW.out.2.1
  exact (((hc.trans (ownD_q _ _)).trans (ownD_q _ _)).trans (ownD_q _ _)).drewN 1
end
end Go.Proofs.Ythpagbfabpfngaa
