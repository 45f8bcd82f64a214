/- Several texts in one: HI, CD, BM, Col2. -/
import Derived.Test.YthpagbfabpfngaaPk10
import Derived.Test.YthpagbfabpfngaaPk18
import Derived.Test.YthpagbfabpfngaaPk11
/- The contracts of the law's Alike and of the reference's Words. -/
namespace Go.Proofs.Ythpagbfabpfngaa
open Go.RowKit

/-- The first words of a row. -/
def rowH (H : Nat → BitVec 32) (n : Nat) : List Value := (List.range n).map fun i => .int .u32 (w32 (H i))
theorem rowH_succ (H : Nat → BitVec 32) (n : Nat) : rowH H (n + 1) = rowH H n ++ [.int .u32 (w32 (H n))] := by unfold rowH; rw [List.range_succ, List.map_append]; rfl
theorem rowH_len (H : Nat → BitVec 32) (n : Nat) : (rowH H n).length = n := by unfold rowH; simp
theorem info25 : (Try.prog.info? 26).map (fun i => (i.zero, i.size, i.bytes)) = some (some (.int .u32 0), 1, 4) := by kernel_rfl
theorem one_word (n : Int) : ∀ u ∈ [Value.int .u32 n], u.oneCell' = true := by intro u hu; simp at hu; subst hu; rfl
/-- Where a call's own words lie. -/
theorem own_words {w : World} {base : Nat} {v : Value} {H : Nat → BitVec 32} {n : Nat} (h : w.ownsRow base 26 1 v n (rowH H n)) (hn : 0 < n) : ∃ g cap, v = .slice (some ⟨g, 0, none⟩) n cap ∧ base ≤ g ∧ Ws w (some ⟨g, 0, none⟩) g 0 n H ∧ (∀ j, w.frozen? ⟨g, j, none⟩ = false) := by
  rcases h.2 with ⟨_, h0⟩ | ⟨g, cap, cur, rfl, hb, hg, _⟩
  · omega
  · have hl := h.lt g rfl
    refine ⟨g, cap, rfl, hb, ⟨fun _ => ⟨rfl, hl.2⟩, fun k hk => ?_⟩, fun j => frozen_of_row w g j _ _ hg⟩
    rw [Nat.zero_add]
    refine (h.cellAt k (by omega)).trans ?_
    unfold rowH; simp [hk]
/-- A word of a call's own turned. -/
theorem own_set {w : World} {base g cap n : Nat} {H : Nat → BitVec 32} (h : w.ownsRow base 26 1 (.slice (some ⟨g, 0, none⟩) n cap) n (rowH H n)) (j : Nat) (x : BitVec 32) (hj : j < n) : (w.setCell ⟨g, j, none⟩ (.int .u32 (w32 x))).ownsRow base 26 1 (.slice (some ⟨g, 0, none⟩) n cap) n (rowH (updB H j x) n) := by
  refine ⟨by rw [rowH_len, Nat.mul_one], ?_⟩
  rcases h.2 with ⟨h0, _⟩ | ⟨g', cap', cur, hv, hb, hg, h1, h2, h3, h4⟩
  · cases h0
  · injection hv with e1 e2 e3
    injection e1 with e1
    injection e1 with e1
    subst e1 e3
    refine .inr ⟨g, cap, cur.setIfInBounds j (.int .u32 (w32 x)), rfl, hb, heap_setCell_same w g j _ _ _ hg, h1, h2, by simpa using h3, ?_⟩
    rw [Array.toList_setIfInBounds, List.take_set, h4]
    apply List.ext_getElem?
    intro i
    by_cases e : i = j
    · subst e
      rw [List.getElem?_set_self (by rw [rowH_len]; exact hj)]
      unfold rowH; simp [hj, updB]
    · rw [List.getElem?_set_ne (fun e' => e e'.symm)]
      unfold rowH
      by_cases hi : i < n
      · simp [hi, updB, e]
      · simp [hi]
/-- A header's words, none committed, none confirmed. -/
def wd0 (s l c : BitVec 32) : Nat → BitVec 32
  | 0 => s | 1 => ~~~s | 2 => l | 3 => ~~~l | 4 => c | 5 => ~~~c | _ => BitVec.allOnes 32
def wdC (H : Nat → BitVec 32) (cm : Bool) : Nat → BitVec 32 := if cm then updB (updB H 6 comW) 7 (~~~comW) else H
def wdF (H : Nat → BitVec 32) (cf : Bool) : Nat → BitVec 32 := if cf then updB (updB H 8 conW) 9 (~~~conW) else H

set_option maxHeartbeats 2000000 in
set_option maxRecDepth 100000 in
theorem hwords_any (s l c : BitVec 32) (cm cf : Bool) (w : World) : Calls Try.prog 94 #[.int .u32 (w32 s), .int .u32 (w32 l), .int .u32 (w32 c), .bool cm, .bool cf] w fun e w' =>
    ∃ g cap, e = .returned (.slice (some ⟨g, 0, none⟩) 13 cap) ∧ w'.ownsRow w.heap.size 26 1 (.slice (some ⟨g, 0, none⟩) 13 cap) 13 (rowH (wdF (wdC (wd0 s l c) cm) cf) 13) ∧ Below w.heap.size w w' := by
  obtain ⟨i0, hi, hz0, hz1, hz2⟩ := info_parts info25
  have HO := fun x w => Lib.hid (refother_any x w)
  obtain ⟨w1, hw1⟩ : ∃ w1, w1 = w.alloc (.cells #[.int .u32 (w32 s), .int .u32 (w32 (~~~s)), .int .u32 (w32 l), .int .u32 (w32 (~~~l)), .int .u32 (w32 c), .int .u32 (w32 (~~~c))] 26) := ⟨_, rfl⟩
  have H1 := Lib.hid (show w1.ownsRow w.heap.size 26 1 (.slice (some ⟨w.heap.size, 0, none⟩) 6 6) 6 (rowH (wd0 s l c) 6) ∧ Below w.heap.size w w1 from
    ⟨⟨by rw [rowH_len], .inr ⟨w.heap.size, 6, _, rfl, Nat.le_refl _, by rw [hw1]; exact heap_alloc_new w _, Nat.le_refl _, by unfold maxLen; omega, rfl, rfl⟩⟩, by rw [hw1]; exact (Below.refl _ _).alloc (Nat.le_refl _) _⟩)
  go_enter Try.func94, Try.ntmps94
  go_wp2_with fail
  refine (HO _ _).out.mono ?_
  rintro e w9 ⟨rfl, rfl⟩
  go_wp2_with fail
  refine (HO _ _).out.mono ?_
  rintro e w9 ⟨rfl, rfl⟩
  go_wp2_with fail
  refine (HO _ _).out.mono ?_
  rintro e w9 ⟨rfl, rfl⟩
  go_wp2
  rw [← hw1]
  clear hw1
  go_loopg [11, 12] 7 (fun g v i wr => ∃ (k : Nat), k + g = 7 ∧ i = .int .i64 (6 + k : Nat) ∧ wr.ownsRow w.heap.size 26 1 v (6 + k) (rowH (wd0 s l c) (6 + k)) ∧ Below w.heap.size w wr)
  case atStart => exact ⟨0, by omega, rfl, H1.out.1, H1.out.2⟩
  case round =>
    obtain ⟨k, hkg, rfl, hown, hB⟩ := hrel
    have HW := Lib.hid hown
    have HB := Lib.hid hB
    clear hown hB
    cases gk with
    | zero =>
      obtain rfl : k = 7 := by omega
      obtain ⟨g, cap, rfl, hg, hW, hf⟩ := own_words HW.out (by omega)
      have d6 : wr.cell? ⟨g, 6, none⟩ = some (.int .u32 (w32 (wd0 s l c 6))) := hW.cell 6 (by omega)
      have d7 : wr.cell? ⟨g, 7, none⟩ = some (.int .u32 (w32 (wd0 s l c 7))) := hW.cell 7 (by omega)
      have d8 : wr.cell? ⟨g, 8, none⟩ = some (.int .u32 (w32 (wd0 s l c 8))) := hW.cell 8 (by omega)
      have d9 : wr.cell? ⟨g, 9, none⟩ = some (.int .u32 (w32 (wd0 s l c 9))) := hW.cell 9 (by omega)
      have f6 := hf 6
      have f7 := hf 7
      have f8 := hf 8
      have f9 := hf 9
      have HC := fun wz => Lib.hid (show Calls Try.prog 118 #[.int .u32 1668246893] wz fun e w' => e = .returned (.int .u32 (w32 (~~~comW))) ∧ wz = w' by rw [comW_int]; exact (HO comW wz).out)
      have HN := fun wz => Lib.hid (show Calls Try.prog 118 #[.int .u32 1668247142] wz fun e w' => e = .returned (.int .u32 (w32 (~~~conW))) ∧ wz = w' by rw [conW_int]; exact (HO conW wz).out)
      have HG := Lib.hid hg
      clear hW hf hg hkg
      cases cm <;> cases cf
      · go_wp2
        go_ret
        refine ⟨g, cap, rfl, ?_, HB.out⟩
        have := HW.out
        exact this
      · go_wp2_with fail
        refine (HN _).out.mono ?_
        rintro e w9 ⟨rfl, rfl⟩
        go_wp2
        go_ret
        refine ⟨g, cap, rfl, ?_, ((HB.out.setCell HG.out _).setCell HG.out _)⟩
        have := (own_set (own_set HW.out 8 conW (by omega)) 9 (~~~conW) (by omega))
        rw [← conW_int] at this
        exact this
      · go_wp2_with fail
        refine (HC _).out.mono ?_
        rintro e w9 ⟨rfl, rfl⟩
        go_wp2
        go_ret
        refine ⟨g, cap, rfl, ?_, ((HB.out.setCell HG.out _).setCell HG.out _)⟩
        have := (own_set (own_set HW.out 6 comW (by omega)) 7 (~~~comW) (by omega))
        rw [← comW_int] at this
        exact this
      · go_wp2_with fail
        refine (HC _).out.mono ?_
        rintro e w9 ⟨rfl, rfl⟩
        go_wp2_with fail
        refine (HN _).out.mono ?_
        rintro e w9 ⟨rfl, rfl⟩
        go_wp2
        go_ret
        refine ⟨g, cap, rfl, ?_, ((((HB.out.setCell HG.out _).setCell HG.out _).setCell HG.out _).setCell HG.out _)⟩
        have := (own_set (own_set (own_set (own_set HW.out 6 comW (by omega)) 7 (~~~comW) (by omega)) 8 conW (by omega)) 9 (~~~conW) (by omega))
        rw [← comW_int, ← conW_int] at this
        exact this
    | succ g1 =>
      have hk : k < 7 := by omega
      have hk2 : ((6 + k : Nat) : Int) < 13 := by omega
      go_wp2_with (first | (at_builtin; refine wpList_append_own _ rfl (.tmp 27) (.tmp 28) 24 rfl w.heap.size 26 i0 (.int .u32 0) 1 4 Try.underlying24 hi hz0 hz1 hz2 rfl Nat.one_pos _ (6 + k) (rowH (wd0 s l c) (6 + k)) rfl (HW.out.alloc _) ⟨wr.heap.size, 0, none⟩ 1 1 [.int .u32 4294967295] rfl rfl (cell_one_new _ _ _) (one_word _) (by unfold maxLen; omega) (by omega) (by rw [World.size_alloc]; exact Nat.le_succ_of_le HB.out.size) ?_; intro v1 w2 hown1 hg1 _; have HO1 := Lib.hid hown1; have HB1 := Lib.hid (Below.grown (Below.alloc HB.out HB.out.size _) hg1 (by rw [World.size_alloc]; exact Nat.le_succ_of_le HB.out.size) (fun j e => (HW.out.lt j e).1)); clear hown1 hg1) | fail)
      go_roundg g1
      case measure => omega
      case rel =>
        refine ⟨k + 1, by omega, by go_num, ?_, HB1.out⟩
        have h := HO1.out
        rw [show 6 + (k + 1) = 6 + k + 1 by omega, rowH_succ, show wd0 s l c (6 + k) = BitVec.allOnes 32 by rw [show 6 + k = k + 6 by omega]; rfl, w32_ones]
        exact h
end Go.Proofs.Ythpagbfabpfngaa
/- Plain facts: what a commit programs, said both ways. No statement about the program. -/
namespace Go.Proofs.Ythpagbfabpfngaa

theorem words8 (s l c : BitVec 32) : ∀ k, k < 6 → wdC (wd0 s l c) true k = wrW (hdW s l c) k := by
  intro k hk
  obtain rfl | rfl | rfl | rfl | rfl | rfl : k = 0 ∨ k = 1 ∨ k = 2 ∨ k = 3 ∨ k = 4 ∨ k = 5 := by omega
  all_goals rfl
theorem words8' (s l c : BitVec 32) : ∀ k, k < 2 → wdC (wd0 s l c) true (6 + k) = wrW (fun _ => comW) k := by
  intro k hk
  obtain rfl | rfl : k = 0 ∨ k = 1 := by omega
  all_goals rfl
theorem commit8 {d : Dev} {base : Nat} (P : List (BitVec 32)) (seq : BitVec 32) (ho : d.okE) (hn : d.ops + 8 ≤ 1000000) (hw : d.nw ≤ 100000) (h0 : 0 < d.nw) :
    progK d (base + 1) (fun k => 0 + k) (wdC (wd0 seq (BitVec.ofNat 32 P.length) (~~~(runW ones P))) true) 8 = commitD d base P seq := by
  have e6 : progK d (base + 1) (fun k => 0 + k) (wdC (wd0 seq (BitVec.ofNat 32 P.length) (~~~(runW ones P))) true) 6 = commitK d base P seq := by
    unfold commitK
    exact progK_ext 6 (fun k hk => ⟨rfl, words8 _ _ _ k hk⟩)
  have hk := progK_kept (from_ := base + 1) (at_ := fun k => 0 + k) (ws := wdC (wd0 seq (BitVec.ofNat 32 P.length) (~~~(runW ones P))) true) (n := 6) ho (by omega) hw h0 6 (by omega)
  have := progK_add d (base + 1) (fun k => 0 + k) (wdC (wd0 seq (BitVec.ofNat 32 P.length) (~~~(runW ones P))) true) 6 hk.nw 2
  rw [show 6 + 2 = 8 from rfl] at this
  rw [this, e6]
  unfold commitD
  split
  · exact progK_ext 2 (fun k hk => ⟨by omega, words8' _ _ _ k hk⟩)
  · rfl
/-- The header's words that say confirmed keep their bits. -/
def keepC (d : Dev) (base : Nat) : Prop := within conW (d.word (base + 1) 8) = true ∧ within (~~~conW) (d.word (base + 1) 9) = true
theorem keepC_spoilt {d : Dev} {base : Nat} (h : keepC d base) : spoiltB d base 2 (fun k => 8 + k) (wrW (fun _ => conW)) = false :=
  spoiltB_none (fun i hi => by
    obtain rfl | rfl : i = 0 ∨ i = 1 := by omega
    · exact h.1
    · exact h.2)
theorem keepC_erase {d : Dev} {base : Nat} (h : keepC d base) (s : Int) : keepC (d.erase s).1 base := ⟨erase_word h.1 s, erase_word h.2 s⟩
theorem keepC_eraseK {d : Dev} {base b many : Nat} (h : keepC d base) : ∀ k, keepC (eraseK d b many k).1 base := by
  intro k
  induction k with
  | zero => exact h
  | succ k ih =>
    show keepC (if (eraseK d b many k).2 = 0 then _ else eraseK d b many k).1 base
    split
    · exact keepC_erase ih _
    · exact ih
theorem keepC_program {d : Dev} {base : Nat} (h : keepC d base) (s k : Int) (y : BitVec 32) (h8 : s.toNat = base + 1 → k.toNat = 8 → within conW y = true) (h9 : s.toNat = base + 1 → k.toNat = 9 → within (~~~conW) y = true) : keepC (d.program s k y).1 base :=
  ⟨program_word h.1 s k y h8, program_word h.2 s k y h9⟩
theorem keepC_fresh (ns nw : Nat) (lim : Int) (base : Nat) : keepC (Dev.fresh ns nw lim) base := ⟨within_ones _, within_ones _⟩
theorem within_self (x : BitVec 32) : within x x = true := by rw [within_iff]; exact fun _ _ h => h
theorem keepC_progK {d : Dev} {base f n : Nat} {at_ : Nat → Nat} {ws : Nat → BitVec 32} (h : keepC d base)
    (h8 : ∀ k, k < n → f + at_ k / d.nw = base + 1 → at_ k % d.nw = 8 → within conW (ws k) = true) (h9 : ∀ k, k < n → f + at_ k / d.nw = base + 1 → at_ k % d.nw = 9 → within (~~~conW) (ws k) = true) : ∀ k, k ≤ n → keepC (progK d f at_ ws k).1 base := by
  intro k
  induction k with
  | zero => intro _; exact h
  | succ k ih =>
    intro hk
    have i := ih (by omega)
    rw [progK_succ]
    split
    · refine keepC_program i _ _ _ (fun e1 e2 => ?_) (fun e1 e2 => ?_)
      · rw [Int.toNat_natCast] at e1 e2
        exact h8 k (by omega) e1 e2
      · rw [Int.toNat_natCast] at e1 e2
        exact h9 k (by omega) e1 e2
    · exact i
theorem keepC_put {d : Dev} {base : Nat} {P X : List (BitVec 32)} (h : keepC d base) : keepC (putK d base P X).1 base :=
  have hf : ∀ x, base + 2 + x ≠ base + 1 := fun x e => by omega
  keepC_progK h (fun k _ e => absurd e (hf _)) (fun k _ e => absurd e (hf _)) _ (Nat.le_refl _)
theorem keepC_commitK {d : Dev} {base : Nat} {P : List (BitVec 32)} {seq : BitVec 32} (h : keepC d base) (hw : 13 ≤ d.nw) : keepC (commitK d base P seq).1 base :=
  keepC_progK h (fun k hk _ e => by rw [Nat.mod_eq_of_lt (by omega)] at e; omega) (fun k hk _ e => by rw [Nat.mod_eq_of_lt (by omega)] at e; omega) 6 (Nat.le_refl _)
theorem keepC_commit {d : Dev} {base : Nat} {P : List (BitVec 32)} {seq : BitVec 32} (h : keepC d base) (hw : 13 ≤ d.nw) (hk : (commitK d base P seq).1.nw = d.nw) : keepC (commitD d base P seq).1 base := by
  have h1 := keepC_commitK (P := P) (seq := seq) h hw
  unfold commitD
  split
  · exact keepC_progK h1 (fun k hk2 _ e => by rw [hk, Nat.mod_eq_of_lt (by omega)] at e; omega) (fun k hk2 _ e => by rw [hk, Nat.mod_eq_of_lt (by omega)] at e; omega) 2 (Nat.le_refl _)
  · exact h1
theorem keepC_confirm {d : Dev} {base : Nat} (h : keepC d base) (hw : 13 ≤ d.nw) : keepC (progK d (base + 1) (fun k => 8 + k) (wrW (fun _ => conW)) 2).1 base :=
  keepC_progK h
    (fun k hk _ e => by
      rw [Nat.mod_eq_of_lt (by omega)] at e
      obtain rfl : k = 0 := by omega
      exact within_self _)
    (fun k hk _ e => by
      rw [Nat.mod_eq_of_lt (by omega)] at e
      obtain rfl : k = 1 := by omega
      exact within_self _) 2 (Nat.le_refl _)
theorem keepC_blank {d : Dev} {base many : Nat} (h : keepC d base) : keepC (blankD d base many).1 base := by
  have h1 : keepC (d.program (base : Nat) 0 0#32).1 base := keepC_program h _ _ _ (fun e _ => by rw [Int.toNat_natCast] at e; omega) (fun e _ => by rw [Int.toNat_natCast] at e; omega)
  unfold blankD
  split
  · exact keepC_eraseK h1 many
  · exact h1
end Go.Proofs.Ythpagbfabpfngaa
/- The contracts of bank's words: the closure, and what it goes through. -/
namespace Go.Proofs.Ythpagbfabpfngaa
open Go.RowKit
attribute [local go_sem] Oper.semAt_some

/-- The words of data. -/
def dataW (d : Dev) (base k : Nat) : BitVec 32 := d.word (base + 2 + k / d.nw) (k % d.nw)
theorem place_quiet {w : World} {B q S : Nat} {g : Nat → Nat} {d : Dev} {base many : Nat} {op : Bool} {P : List (BitVec 32)} (h : Bk w B q S g d base many op P) (frm at_ : Nat) (h1 : frm ≤ 64) (h2 : at_ ≤ 10000) (n : Nat) :
    Calls Try.prog 85 #[.pointer (some ⟨B, 0, none⟩), .int .i64 frm, .int .i64 at_] (w.drewN n) fun e w' => e = .returned (.tuple #[.int .i64 ((base + frm + at_ / d.nw : Nat) : Int), .int .i64 ((at_ % d.nw : Nat) : Int)]) ∧ ∃ m, w' = w.drewN m :=
  (place_any (h.dn n) frm at_ h1 h2).mono fun _ _ ⟨h1, m, h2⟩ => ⟨h1, n + m, by rw [h2, World.drewN_drewN]⟩
theorem wordsB_any (B n : Nat) (w : World) : Calls Try.prog 47 #[.pointer (some ⟨B, 0, none⟩), .int .i64 n] w fun e w' => e = .returned (.func (.func 83) #[] #[.pointer (some ⟨w.heap.size + 1, 0, none⟩), .pointer (some ⟨w.heap.size, 0, none⟩)]) ∧ w' = (w.alloc (.cells #[.pointer (some ⟨B, 0, none⟩)] 35)).alloc (.cells #[.int .i64 n] 3) := by
  have hmf : ∀ (fn : Fn) (first cap : Array Value) (w : World), (Instr.makeFunc fn first cap).run Try.prog w = .ok (.func fn first cap) w := fun _ _ _ _ => rfl
  go_enter Try.func47, Try.ntmps47
  go_wp2
  go_ret
  exact ⟨rfl, rfl⟩
theorem data_at {d : Dev} {base many k : Nat} (hf : base + many ≤ d.ns ∧ 3 ≤ many ∧ 13 ≤ d.nw) (hon : d.on = true) (hk : k < roomN d many) : d.readE ((base + 2 + k / d.nw : Nat) : Int) ((k % d.nw : Nat) : Int) = 0 ∧ d.readW ((base + 2 + k / d.nw : Nat) : Int) ((k % d.nw : Nat) : Int) = dataW d base k := by
  have h0 : k < (many - 2) * d.nw := by unfold roomN at hk; omega
  have h1 : k / d.nw < many - 2 := Nat.div_lt_of_lt_mul (by rw [Nat.mul_comm]; exact h0)
  have h2 := Nat.mod_lt k (show 0 < d.nw by omega)
  unfold dataW
  obtain ⟨x, hx⟩ : ∃ x, k / d.nw = x := ⟨_, rfl⟩
  obtain ⟨y, hy⟩ : ∃ y, k % d.nw = y := ⟨_, rfl⟩
  rw [hx] at h1 ⊢
  rw [hy] at h2 ⊢
  have ho : d.okK ((base + 2 + x : Nat) : Int) (y : Int) = true := by
    unfold Dev.okK Dev.has
    simp only [Bool.and_eq_true, decide_eq_true_eq]
    omega
  unfold Dev.readE Dev.readW
  rw [ho, hon]
  exact ⟨rfl, rfl⟩
set_option maxHeartbeats 2000000 in
set_option maxRecDepth 100000 in
theorem words_in (l0 XM XB B q S : Nat) (g : Nat → Nat) (d : Dev) (base many n : Nat) (op : Bool) (P : List (BitVec 32)) (F : World → Nat → Prop) (J Jx : Nat → World → Prop) (W : World) (hn : n ≤ roomN d many) (hon : d.on = true)
    (hC : ∀ k W', J k W' → W'.cell? ⟨XM, 0, none⟩ = some (.int .i64 n) ∧ W'.cell? ⟨XB, 0, none⟩ = some (.pointer (some ⟨B, 0, none⟩)) ∧ Bk W' B q S g d base many op P)
    (hR : RoundsF Try.prog l0 n (fun k => #[.int .u32 (w32 (dataW d base k))]) F J Jx) (fJ : ∀ k, Foot F (J k)) (h0 : J 0 W) :
    Iter Try.prog 83 #[.pointer (some ⟨XM, 0, none⟩), .pointer (some ⟨XB, 0, none⟩)] l0 n J Jx W := by
  refine callsIn_of_wp Try.func83 rfl trivial ?_ rfl
  simp only [Try.ntmps83, List.size_toArray, List.length_cons, List.length_nil, Nat.reduceAdd, Nat.reduceSub, Array.replicate_succ, Array.replicate_zero, List.push_toArray, List.append_toArray, List.nil_append, List.cons_append]
  have HJ := Lib.hid (And.intro fJ (And.intro h0 (And.intro hR hC)))
  obtain ⟨c0, -, -⟩ := hC 0 W h0
  have hr4 : roomN d many ≤ 4096 := by unfold roomN; omega
  clear fJ h0 hR hC
  gi_wp2
  gi_loopg [8] n (fun m v wr => ∃ i : Nat, i + m = n ∧ v = .int .i64 (i : Nat) ∧ Aside (J i wr))
  case atStart => exact ⟨0, by omega, rfl, HJ.out.2.1⟩
  case round =>
    obtain ⟨i, him, rfl, HA⟩ := hrel
    cases gk with
    | zero =>
      obtain rfl : i = n := by omega
      gi_wp2
      go_end0
      exact ⟨⟨_, rfl⟩, .inl HA.out⟩
    | succ m1 =>
      have hlt : i < n := by omega
      obtain ⟨-, k1, hb⟩ := HJ.out.2.2.2 _ _ HA.out
      have k0 := hb.c0
      have hJ1 := fun nq => ((HJ.out.1 i).keepBelow HA.out (below_dn (Below.refl _ _) nq)).1
      have HYd := Lib.hid (fun nq => HJ.out.2.2.1 i _ (hJ1 nq) hlt)
      obtain ⟨e0, ew⟩ := data_at hb.fit hon (show i < roomN d many by omega)
      have HPl := fun nq => Lib.hid (place_quiet hb 2 i (by omega) (by omega) nq)
      have HRd := fun nq => Lib.hid (by have := quietly (read_any (hb.dn nq).dev ((base + 2 + i / d.nw : Nat) : Int) ((i % d.nw : Nat) : Int)); rw [e0, ew] at this; exact this)
      obtain ⟨s, hs⟩ : ∃ s, ((base + 2 + i / d.nw : Nat) : Int) = s := ⟨_, rfl⟩
      obtain ⟨c, hcc⟩ : ∃ c, ((i % d.nw : Nat) : Int) = c := ⟨_, rfl⟩
      simp only [hs, hcc] at HPl HRd
      clear c0 hJ1 hb e0 ew hs hcc
      gi_wp2
      refine wpIn_wide.2 ?_
      go_quiet ((first | (go_at_call 85; exact (HPl _).out) | (go_at_call 84; exact (HRd _).out)))
      obtain ⟨fn, tmps, assign, body, hyd, hRo⟩ := HYd.out nq
      gi_wp2
      refine ⟨rfl, hRo.mono ?_⟩
      rintro e W3 (⟨rfl, hJ3, -⟩ | ⟨rfl, hJx3, -⟩)
      · have H3 := Lib.hid hJ3
        clear hJ3 hyd hRo
        gi_wp2
        go_roundg m1
        case measure => omega
        case rel => exact ⟨i + 1, by omega, by go_num, H3.out⟩
      · have H3 := Lib.hid hJx3
        clear hJx3 hyd hRo
        gi_wp2
        refine bodyPost_ret (results_none rfl _ _ _) rfl ?_
        exact ⟨⟨_, rfl⟩, .inr ⟨i + 1, by omega, H3.out⟩⟩
end Go.Proofs.Ythpagbfabpfngaa
/- Plain lemmas of this prover's own: a loop over a function that collects into a row that a variable names, where all else that was there at its beginning stays. No statement about the program. -/
namespace Go.Proofs.Ythpagbfabpfngaa
open Go.RowKit

/-- What such a loop owns: all that was there at its beginning, and the row that the variable names. -/
def FC2 (w2 : World) (Oc : Nat) (W : World) (j : Nat) : Prop := j < w2.heap.size ∨ ∃ v, W.cell? ⟨Oc, 0, none⟩ = some v ∧ v.ownBlock = some j
/-- k elements are collected: they are rf k. -/
def IC2 (e : TypeId) (size : Nat) (rf : Nat → List Value) (w2 : World) (Oc : Nat) (k : Nat) (W : World) : Prop :=
  Ch (fun j => j = Oc) w2 W ∧ ∃ v, W.cell? ⟨Oc, 0, none⟩ = some v ∧ W.frozen? ⟨Oc, 0, none⟩ = false ∧ W.ownsRow w2.heap.size e size v k (rf k)
section
variable {e : TypeId} {size : Nat} {rf : Nat → List Value}
theorem IC2.foot {w2 : World} {Oc : Nat} (hs : Oc < w2.heap.size) (k : Nat) : Foot (FC2 w2 Oc) (IC2 e size rf w2 Oc k) where
  lt := fun W ⟨h2, v, h3, _, h5⟩ j hj => by
    rcases hj with hj | ⟨v', hv, hj⟩
    · have := h2.size; omega
    · rw [h3] at hv; injection hv with hv; subst hv
      exact (h5.lt j hj).2
  keep := fun W W' ⟨h2, v, h3, h4, h5⟩ hc => by
    have nO : ¬ ¬ FC2 w2 Oc W Oc := fun hn => hn (.inl hs)
    have e3 : W'.cell? ⟨Oc, 0, none⟩ = some v := hc.cell h3 nO
    refine ⟨⟨⟨hc.os.trans h2.os, hc.tape.trans h2.tape, hc.output.trans h2.output, Nat.le_trans h2.size hc.size, fun j hj hn => ?_⟩, v, e3, (hc.frozenCell h3 nO).trans h4,
      own_same h5 fun g hg => hc.block g (h5.lt g hg).2 fun hn => hn (.inr ⟨v, h3, hg⟩)⟩, fun j hj => ?_⟩
    · rw [hc.block j (Nat.lt_of_lt_of_le hj h2.size) (fun hn => hn (.inl hj))]
      exact h2.block j hj hn
    · rcases hj with hj | ⟨v', hv, hj⟩
      · exact .inl hj
      · rw [e3] at hv; injection hv with hv; subst hv
        exact .inr ⟨v, h3, hj⟩
theorem grow_cell2 {A w1 w2 : World} {Oc : Nat} {v : Value} {n : Nat} {xs : List Value} {ob : Obj} (hs : Oc < w2.heap.size) (h3 : A.cell? ⟨Oc, 0, none⟩ = some v) (h4 : A.frozen? ⟨Oc, 0, none⟩ = false)
    (h5 : A.ownsRow w2.heap.size e size v n xs) (hg : (A.alloc ob).grownBy w1 v.ownBlock) : w1.cell? ⟨Oc, 0, none⟩ = some v ∧ w1.frozen? ⟨Oc, 0, none⟩ = false := by
  have hcr : Ch (fun j => v.ownBlock = some j) A w1 := (((Ch.refl (fun _ => False) A).alloc ob).mono (fun _ _ h => h.elim)).trans (ch_grown hg)
  exact ⟨hcr.cell h3 fun hj => by have := own_ge h5 _ hj; simp only at this; omega, (hcr.frozenCell h3 fun hj => by have := own_ge h5 _ hj; simp only at this; omega).trans h4⟩
/-- A round's append: the row has grown, the variable names it. -/
theorem IC2.grow {w2 A w1 : World} {Oc : Nat} {k : Nat} {v v' : Value} {ob : Obj} (hs : Oc < w2.heap.size) (h2 : Ch (fun j => j = Oc) w2 A) (h3 : A.cell? ⟨Oc, 0, none⟩ = some v) (h4 : A.frozen? ⟨Oc, 0, none⟩ = false)
    (h5 : A.ownsRow w2.heap.size e size v k (rf k))
    (ho : w1.ownsRow w2.heap.size e size v' (k + 1) (rf (k + 1))) (hg : (A.alloc ob).grownBy w1 v.ownBlock) (hat : v'.ownBlock = v.ownBlock ∨ v'.ownBlock = some (A.alloc ob).heap.size) :
    Step (FC2 w2 Oc) A (w1.setCell ⟨Oc, 0, none⟩ v') ∧ IC2 e size rf w2 Oc (k + 1) (w1.setCell ⟨Oc, 0, none⟩ v') := by
  have hz := h2.size
  have hge : ∀ j, v.ownBlock = some j → w2.heap.size ≤ j := fun j hj => own_ge h5 j hj
  have hcr : Ch (fun j => v.ownBlock = some j) A w1 := (((Ch.refl (fun _ => False) A).alloc ob).mono (fun _ _ h => h.elim)).trans (ch_grown hg)
  have e3 : w1.cell? ⟨Oc, 0, none⟩ = some v := hcr.cell h3 fun hj => by have := hge _ hj; simp only at this; omega
  have e4 : w1.frozen? ⟨Oc, 0, none⟩ = false := (hcr.frozenCell h3 fun hj => by have := hge _ hj; simp only at this; omega).trans h4
  have e5 : (w1.setCell ⟨Oc, 0, none⟩ v').cell? ⟨Oc, 0, none⟩ = some v' := World.cell?_setCell_same _ _ _ e3
  have hcW : Ch (fun j => j = Oc ∨ v.ownBlock = some j) A (w1.setCell ⟨Oc, 0, none⟩ v') := (hcr.mono fun _ _ h => .inr h).setCell _ _ (.inl (.inl rfl))
  refine ⟨⟨hcW.mono fun j _ hj => ?_, fun j hj => ?_⟩, ⟨hcW.os.trans h2.os, hcW.tape.trans h2.tape, hcW.output.trans h2.output, Nat.le_trans h2.size hcW.size, fun j hj hn => ?_⟩, v', e5, ?_, ?_⟩
  · rcases hj with rfl | hj
    · exact .inl hs
    · exact .inr ⟨v, h3, hj⟩
  · rcases hj with hj | ⟨v'', hv, hj⟩
    · exact .inl (.inl hj)
    · rw [e5] at hv; injection hv with hv; subst hv
      rcases hat with ha | ha
      · rw [ha] at hj; exact .inl (.inr ⟨v, h3, hj⟩)
      · rw [ha] at hj; injection hj with hj; subst hj
        right; simp
  · rw [hcW.block j (by omega) (fun h => by rcases h with h | h; exact hn h; have := hge j h; omega)]
    exact h2.block j hj hn
  · rw [World.frozen?_setCell]; exact e4
  · exact own_same ho fun g hg' => Below.heap_setCell w1 ⟨Oc, 0, none⟩ v' g (by have := own_ge ho g hg'; show g ≠ Oc; omega)
end
/-- A piece of code that leaves in no other way. -/
def nOnly (Q : Exit → Act → World → Prop) : Exit → Act → World → Prop
  | .normal, a, w => Q .normal a w
  | _, _, _ => False
theorem nOnly_normal {Q : Exit → Act → World → Prop} {a : Act} {w : World} (h : Q .normal a w) : nOnly Q .normal a w := h
theorem wp_nOnly {P : Program} {c : Code} {Q : Exit → Act → World → Prop} {a : Act} {w : World} (h : c.wp P (nOnly Q) a w) : c.wp P Q a w :=
  Code.wp_mono (fun e a w h => by cases e <;> first | exact h | exact h.elim) h
end Go.Proofs.Ythpagbfabpfngaa
