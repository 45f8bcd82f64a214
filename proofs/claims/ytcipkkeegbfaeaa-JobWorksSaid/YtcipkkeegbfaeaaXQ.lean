/- The contracts of a job's Over, Late, Work, Takes and Holds, and of ref25's Holds. -/
import Derived.Test.YtcipkkeegbfaeaaXO
import Derived.BigQuiet
namespace Go.Proofs.Ytcipkkeegbfaeaa
open Go.RowKit

/-- A job's cells, so much of it done. -/
abbrev jobD (id now dl c d : Int) (v : Value) : Array Value := #[.int .i64 id, .int .i64 now, .int .i64 dl, .int .i64 c, .int .i64 d, v]
theorem boxJ {w w2 : World} {cs : Array Value} {t : TypeId} (h : w.alloc (.cells cs t) = w2) : Below w.heap.size w w2 ∧ RowAt w2 w.heap.size t cs := by
  rw [← h]; exact ⟨(Below.refl _ w).alloc (Nat.le_refl _) _, RowAt.mk w _ _⟩
theorem over_any (id now dl c d : Int) (v : Value) (hv : ∃ sp n k, v = .slice sp n k) (w : World) : Calls Try.prog 35 #[.agg (jobD id now dl c d v)] w fun e w' => e = .returned (.bool (decide (c ≤ d))) ∧ Below w.heap.size w w' := by
  obtain ⟨sp, n, k, rfl⟩ := hv
  by_cases h : c ≤ d
  · rw [decide_eq_true h]
    go_enter Try.func35, Try.ntmps35
    go_wp2
    go_ret
    exact ⟨rfl, (boxJ rfl).1⟩
  · rw [decide_eq_false h]
    go_enter Try.func35, Try.ntmps35
    go_wp2
    go_ret
    exact ⟨rfl, (boxJ rfl).1⟩
theorem late_any (id now dl c d : Int) (v : Value) (hv : ∃ sp n k, v = .slice sp n k) (x : Int) (w : World) : Calls Try.prog 39 #[.agg (jobD id now dl c d v), .int .i64 x] w fun e w' => e = .returned (.bool (decide (dl < x))) ∧ Below w.heap.size w w' := by
  obtain ⟨sp, n, k, rfl⟩ := hv
  by_cases h : dl < x
  · rw [decide_eq_true h]
    go_enter Try.func39, Try.ntmps39
    go_wp2
    go_ret
    exact ⟨rfl, (boxJ rfl).1⟩
  · rw [decide_eq_false h]
    go_enter Try.func39, Try.ntmps39
    go_wp2
    go_ret
    exact ⟨rfl, (boxJ rfl).1⟩
/-- A tick of work, where the work isn't done. -/
theorem work_any {w : World} {B : Nat} {id now dl c d : Int} {v : Value} (hv : ∃ sp n k, v = .slice sp n k) (h : RowAt w B 71 (jobD id now dl c d v)) (hd : d < c) (hb : 0 ≤ d ∧ c ≤ 1000) :
    Calls Try.prog 38 #[.pointer (some ⟨B, 0, none⟩)] w fun e w' => e = .returned (.bool (decide (c ≤ d + 1))) ∧ RowAt w' B 71 (jobD id now dl c (d + 1) v) ∧ Ch (fun j => j = B) w w' := by
  obtain ⟨sp, n, k, rfl⟩ := hv
  have c0 : w.cell? ⟨B, 0, none⟩ = some (.int .i64 id) := h.cell 0
  have c3 : w.cell? ⟨B, 3, none⟩ = some (.int .i64 c) := h.cell 3
  have c4 : w.cell? ⟨B, 4, none⟩ = some (.int .i64 d) := h.cell 4
  have f4 : w.frozen? ⟨B, 4, none⟩ = false := h.fr 4
  have hw : IntKind.i64.wrap (d + 1) = d + 1 := by rw [IntKind.wrap_i64]; omega
  have HO := Lib.hid (fun wx => over_any id now dl c (d + 1) (.slice sp n k) ⟨sp, n, k, rfl⟩ wx)
  have HR := Lib.hid h
  clear h
  go_enter Try.func38, Try.ntmps38
  go_upto_region 1 with fail
  go_quiet (fail)
  obtain ⟨w1, hw1⟩ : ∃ w1, w.drewN nq = w1 := ⟨_, rfl⟩
  have H1 := Lib.hid (show RowAt w1 B 71 (jobD id now dl c d (.slice sp n k)) ∧ Ch (fun j => j = B) w w1 by
    rw [← hw1]; exact ⟨HR.out.new (below_dn (Below.refl _ w) nq), (Ch.refl _ w).drewN nq⟩)
  rw [hw1]
  clear hw1 c0 c3 c4 f4 HR
  have c0 : w1.cell? ⟨B, 0, none⟩ = some (.int .i64 id) := H1.out.1.cell 0
  have c4 : w1.cell? ⟨B, 4, none⟩ = some (.int .i64 d) := H1.out.1.cell 4
  have f4 : w1.frozen? ⟨B, 4, none⟩ = false := H1.out.1.fr 4
  go_upto_region 4 with fail
  generalize hw2 : World.setCell _ _ _ = w2
  have H2 := Lib.hid (show RowAt w2 B 71 (jobD id now dl c (d + 1) (.slice sp n k)) ∧ Ch (fun j => j = B) w w2 by
    rw [← hw2]; exact ⟨H1.out.1.setC 4 _, H1.out.2.setCell ⟨B, 4, none⟩ _ (.inl rfl)⟩)
  clear hw2 c0 c4 f4
  go_wp2_with (first
    | (refine wpList_load_row rfl 71 (.tmp 27) rfl B rfl 71 (jobD id now dl c (d + 1) (.slice sp n k)) (0, 0) _ H2.out.1 Try.underlying71 rfl (by kernel_rfl) ?_)
    | (go_at_call 35; refine (HO.out _).mono ?_; rintro e w3 ⟨rfl, b3⟩; have H3 := Lib.hid (And.intro (H2.out.1.new b3) (H2.out.2.trans (Ch.new b3))); clear b3)
    | fail)
  go_ret
  exact ⟨rfl, H3.out.1, H3.out.2⟩
/-- The first of n that does. -/
def firstI (p : Nat → Bool) : Nat → Nat → Option Nat
  | 0, _ => none
  | n + 1, k => if p k then some k else firstI p n (k + 1)
theorem firstI_some {p : Nat → Bool} : ∀ {n k i : Nat}, firstI p n k = some i → k ≤ i ∧ i < k + n ∧ p i = true
  | 0, _, _, h => by cases h
  | n + 1, k, i, h => by
    unfold firstI at h
    by_cases hp : p k = true
    · rw [if_pos hp] at h
      obtain rfl := Option.some.inj h
      exact ⟨Nat.le_refl _, by omega, hp⟩
    · rw [if_neg hp] at h
      obtain ⟨h1, h2, h3⟩ := firstI_some h
      exact ⟨by omega, by omega, h3⟩
theorem firstI_none {p : Nat → Bool} : ∀ {n k : Nat}, firstI p n k = none → ∀ i, k ≤ i → i < k + n → p i = false
  | 0, _, _, i, h1, h2 => by omega
  | n + 1, k, h, i, h1, h2 => by
    unfold firstI at h
    by_cases hp : p k = true
    · rw [if_pos hp] at h; cases h
    · rw [if_neg hp] at h
      by_cases e : i = k
      · subst e; simpa using hp
      · exact firstI_none h i (by omega) (by omega)
/-- Is a section taken for the next tick; is it held? -/
def takesB (d : Int) (s : Sec) : Bool := decide (s.f ≤ d) && decide (d < s.t)
def holdsB (d : Int) (s : Sec) : Bool := decide (s.f < d) && decide (d < s.t)
theorem takes1_any {w : World} {B : Nat} {id now dl c d : Int} {v : Value} (h : RowAt w B 71 (jobD id now dl c d v)) (s : Sec) :
    Calls Try.prog 63 #[.agg #[.int .i64 s.r, .int .i64 s.f, .int .i64 s.t], .pointer (some ⟨B, 0, none⟩)] w fun e w' => e = .returned (.bool (takesB d s)) ∧ Below w.heap.size w w' := by
  obtain ⟨x, y, z⟩ := s
  have c4 : (w.alloc (.cells #[.int .i64 x, .int .i64 y, .int .i64 z] 99)).cell? ⟨B, 4, none⟩ = some (.int .i64 d) := (h.new (boxJ rfl).1).cell 4
  clear h
  dsimp only [takesB]
  by_cases h1 : y ≤ d
  · by_cases h2 : d < z
    · rw [decide_eq_true h1, decide_eq_true h2]
      go_enter Try.func63, Try.ntmps63
      go_wp2
      go_ret
      exact ⟨rfl, (boxJ rfl).1⟩
    · rw [decide_eq_true h1, decide_eq_false h2]
      go_enter Try.func63, Try.ntmps63
      go_wp2
      go_ret
      exact ⟨rfl, (boxJ rfl).1⟩
  · rw [decide_eq_false h1]
    go_enter Try.func63, Try.ntmps63
    go_wp2
    go_ret
    exact ⟨rfl, (boxJ rfl).1⟩
theorem holds1_any {w : World} {B : Nat} {id now dl c d : Int} {v : Value} (h : RowAt w B 71 (jobD id now dl c d v)) (s : Sec) :
    Calls Try.prog 64 #[.agg #[.int .i64 s.r, .int .i64 s.f, .int .i64 s.t], .pointer (some ⟨B, 0, none⟩)] w fun e w' => e = .returned (.bool (holdsB d s)) ∧ Below w.heap.size w w' := by
  obtain ⟨x, y, z⟩ := s
  have c4 : (w.alloc (.cells #[.int .i64 x, .int .i64 y, .int .i64 z] 99)).cell? ⟨B, 4, none⟩ = some (.int .i64 d) := (h.new (boxJ rfl).1).cell 4
  clear h
  dsimp only [holdsB]
  by_cases h1 : y < d
  · by_cases h2 : d < z
    · rw [decide_eq_true h1, decide_eq_true h2]
      go_enter Try.func64, Try.ntmps64
      go_wp2
      go_ret
      exact ⟨rfl, (boxJ rfl).1⟩
    · rw [decide_eq_true h1, decide_eq_false h2]
      go_enter Try.func64, Try.ntmps64
      go_wp2
      go_ret
      exact ⟨rfl, (boxJ rfl).1⟩
  · rw [decide_eq_false h1]
    go_enter Try.func64, Try.ntmps64
    go_wp2
    go_ret
    exact ⟨rfl, (boxJ rfl).1⟩
end Go.Proofs.Ytcipkkeegbfaeaa
