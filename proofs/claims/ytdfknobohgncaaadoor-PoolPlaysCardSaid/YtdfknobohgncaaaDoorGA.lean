/- Where a guard lies; the contracts of guard's calls. -/
import Derived.Test.YtdfknobohgncaaaDoorProg
import Derived.Lib.Hide
import Derived.WalkKit
import Derived.ProofKit
import Derived.Test.YtdfknobohgncaaaDoorFoot
import Derived.Test.YtdfknobohgncaaaDoorOwn
import Derived.Deep.MidRow
import Derived.Handy
import Derived.IntWalk
import Derived.StillTail
import Derived.StillTactics
import Derived.StillTailTactics
import Derived.Deep.RegionHeld3
import Derived.Test.YtdfknobohgncaaaDoorLast
namespace Go.Proofs.YtdfknobohgncaaaDoor
open Go.RowKit

/-- The cells of a guard: from which tick on, and how many were dropped. -/
def gs (c : Nat → Int) : List Value := (List.range 32).map fun i => .int .i64 (c i)
theorem gs_len (c : Nat → Int) : (gs c).length = 32 := by unfold gs; simp
theorem gs_at (c : Nat → Int) (l : Nat) (hl : l < 32) : (gs c)[l]? = some (.int .i64 (c l)) := by
  unfold gs; simp [hl]
/-- An entry turned. -/
def upd (c : Nat → Int) (n : Nat) (v : Int) : Nat → Int := fun i => if i = n then v else c i
theorem gs_set (c : Nat → Int) (n : Nat) (v : Int) (hn : n < 32) : (gs c).toArray.setIfInBounds n (.int .i64 v) = (gs (upd c n v)).toArray := by
  apply Array.ext_getElem?
  intro i
  rw [Array.getElem?_setIfInBounds]
  by_cases e : n = i
  · subst e
    rw [if_pos rfl, if_pos (by simp [gs_len]; omega)]
    simp only [List.getElem?_toArray]
    rw [gs_at _ n hn]
    simp [upd]
  · rw [if_neg e]
    simp only [List.getElem?_toArray]
    unfold gs
    rw [List.getElem?_map, List.getElem?_map]
    by_cases hi : i < 32
    · have : ¬ i = n := fun h => e h.symm
      simp [hi, upd, this]
    · simp [hi]
/-- Where a guard lies. -/
def GAt (w : World) (B : Nat) (c : Nat → Int) : Prop := w.heap[B]? = some (.cells (gs c).toArray 28 (0, 0))
section
variable {w w' : World} {B : Nat} {c : Nat → Int}
theorem GAt.lt (h : GAt w B c) : B < w.heap.size := (Array.getElem?_eq_some_iff.1 h).1
theorem GAt.keep {T : Nat → Prop} (h : GAt w B c) (hc : Ch T w w') (hT : ¬ T B) : GAt w' B c := hc.obj h hT
theorem GAt.below {n : Nat} (h : GAt w B c) (hb : Below n w w') (hn : B < n) : GAt w' B c := (hb.block B hn).trans h
theorem GAt.cell (h : GAt w B c) (l : Nat) (hl : l < 32) : w.cell? ⟨B, l, none⟩ = some (.int .i64 (c l)) := by
  rw [cell_of_row w B l _ _ _ h]; simpa using gs_at c l hl
theorem GAt.frozen (h : GAt w B c) (l : Nat) : w.frozen? ⟨B, l, none⟩ = false := frozen_of_row w B l _ _ h
theorem GAt.set_ (h : GAt w B c) (l : Nat) (v : Int) (hl : l < 32) : GAt (w.setCell ⟨B, l, none⟩ (.int .i64 v)) B (upd c l v) := by
  unfold GAt at h ⊢
  rw [heap_setCell_same w B l _ _ _ h, gs_set c l v hl]
end

/-- Is there such a task? -/
def has (t : Int) : Bool := decide (0 ≤ t) && decide (t < 16)
theorem has_iff (t : Int) : has t = true ↔ 0 ≤ t ∧ t < 16 := by unfold has; simp
theorem has_any (t : Int) (w : World) : Calls Tryd.prog 21 #[.int .i64 t] w fun e w' => e = .returned (.bool (has t)) ∧ w = w' := by
  unfold has
  have HN := Lib.hid (fun h1 : ¬ 0 ≤ t => decide_eq_false h1)
  by_cases h1 : 0 ≤ t
  · by_cases h2 : t < 16
    all_goals
      go_enter Tryd.func21, Tryd.ntmps21
      go_wp2
      go_ret
      exact ⟨by simp [h2], rfl⟩
  · rw [HN.out h1]
    go_enter Tryd.func21, Tryd.ntmps21
    go_wp2
    go_ret
    exact ⟨rfl, rfl⟩
def mayG (c : Nat → Int) (t now : Int) : Bool := has t && decide (c t.toNat ≤ now)
theorem may_any {w : World} {B : Nat} {c : Nat → Int} (h : GAt w B c) (t now : Int) : Calls Tryd.prog 5 #[.pointer (some ⟨B, 0, none⟩), .int .i64 t, .int .i64 now] w fun e w' => e = .returned (.bool (mayG c t now)) ∧ w = w' := by
  have HH := Lib.hid (has_any t w)
  unfold mayG
  cases ht : has t with
  | false =>
    rw [ht] at HH
    clear h ht
    go_enter Tryd.func5, Tryd.ntmps5
    go_wp2_with (go_at_call 21; refine HH.out.mono ?_; rintro e w' ⟨rfl, rfl⟩)
    go_ret
    exact ⟨rfl, rfl⟩
  | true =>
    rw [ht] at HH
    obtain ⟨h0, h1⟩ := (has_iff t).1 ht
    obtain ⟨k, rfl⟩ : ∃ k : Nat, t = k := ⟨t.toNat, by omega⟩
    have c0 := h.cell k (by omega)
    obtain ⟨x, hx⟩ : ∃ x, c k = x := ⟨_, rfl⟩
    rw [hx] at c0
    simp only [Int.toNat_natCast, hx, Bool.true_and]
    clear h ht hx
    go_enter Tryd.func5, Tryd.ntmps5
    go_wp2_with (go_at_call 21; refine HH.out.mono ?_; rintro e w' ⟨rfl, rfl⟩)
    go_ret
    exact ⟨rfl, rfl⟩
def fromG (c : Nat → Int) (t : Int) : Int := if has t then c t.toNat else 0
def droppedG (c : Nat → Int) (t : Int) : Int := if has t then c (16 + t.toNat) else 0
theorem from_any {w : World} {B : Nat} {c : Nat → Int} (h : GAt w B c) (t : Int) : Calls Tryd.prog 10 #[.pointer (some ⟨B, 0, none⟩), .int .i64 t] w fun e w' => e = .returned (.int .i64 (fromG c t)) ∧ w = w' := by
  have HH := Lib.hid (has_any t w)
  unfold fromG
  cases ht : has t with
  | false =>
    rw [ht] at HH
    clear h ht
    go_enter Tryd.func10, Tryd.ntmps10
    go_wp2_with (go_at_call 21; refine HH.out.mono ?_; rintro e w' ⟨rfl, rfl⟩)
    go_ret
    exact ⟨rfl, rfl⟩
  | true =>
    rw [ht] at HH
    obtain ⟨h0, h1⟩ := (has_iff t).1 ht
    obtain ⟨k, rfl⟩ : ∃ k : Nat, t = k := ⟨t.toNat, by omega⟩
    have c0 := h.cell k (by omega)
    obtain ⟨x, hx⟩ : ∃ x, c k = x := ⟨_, rfl⟩
    rw [hx] at c0
    simp only [Int.toNat_natCast, hx, if_true]
    clear h ht hx
    go_enter Tryd.func10, Tryd.ntmps10
    go_wp2_with (go_at_call 21; refine HH.out.mono ?_; rintro e w' ⟨rfl, rfl⟩)
    go_ret
    exact ⟨rfl, rfl⟩
theorem dropped_any {w : World} {B : Nat} {c : Nat → Int} (h : GAt w B c) (t : Int) : Calls Tryd.prog 11 #[.pointer (some ⟨B, 0, none⟩), .int .i64 t] w fun e w' => e = .returned (.int .i64 (droppedG c t)) ∧ w = w' := by
  have HH := Lib.hid (has_any t w)
  unfold droppedG
  cases ht : has t with
  | false =>
    rw [ht] at HH
    clear h ht
    go_enter Tryd.func11, Tryd.ntmps11
    go_wp2_with (go_at_call 21; refine HH.out.mono ?_; rintro e w' ⟨rfl, rfl⟩)
    go_ret
    exact ⟨rfl, rfl⟩
  | true =>
    rw [ht] at HH
    obtain ⟨h0, h1⟩ := (has_iff t).1 ht
    obtain ⟨k, rfl⟩ : ∃ k : Nat, t = k := ⟨t.toNat, by omega⟩
    have c0 := h.cell (16 + k) (by omega)
    obtain ⟨x, hx⟩ : ∃ x, c (16 + k) = x := ⟨_, rfl⟩
    rw [hx] at c0
    simp only [Int.toNat_natCast, hx, if_true]
    clear h ht hx
    go_enter Tryd.func11, Tryd.ntmps11
    go_wp2_with (go_at_call 21; refine HH.out.mono ?_; rintro e w' ⟨rfl, rfl⟩)
    go_ret
    exact ⟨rfl, rfl⟩
/-- A period, taken from 1 to 4096. -/
def per (p : Int) : Int := min (max p 1) 4096
def cameG (c : Nat → Int) (t now p : Int) : Nat → Int :=
  if has t then (if c t.toNat ≤ now then upd c t.toNat (now + per p) else upd c (16 + t.toNat) (min (c (16 + t.toNat) + 1) 4096)) else c
/-- No entry is so great that it would overflow. -/
def okC (c : Nat → Int) : Prop := ∀ i, 0 ≤ c i ∧ c i ≤ 2199023255552
theorem okC.came {c : Nat → Int} (h : okC c) (t now p : Int) (hn : now ≤ 1099511627776) : okC (cameG c t now p) := by
  intro i
  unfold cameG upd per
  have h1 := h i
  have h2 := h (16 + t.toNat)
  have h3 := h t.toNat
  split
  · split
    all_goals
      dsimp only
      split
      all_goals omega
  · exact h1
set_option maxHeartbeats 1000000 in
theorem came_any {w : World} {B : Nat} {c : Nat → Int} (h : GAt w B c) (ok : okC c) (t now p : Int) (hn : now ≤ 1099511627776) :
    Calls Tryd.prog 8 #[.pointer (some ⟨B, 0, none⟩), .int .i64 t, .int .i64 now, .int .i64 p] w fun e w' => e = .returned (.bool (mayG c t now)) ∧ GAt w' B (cameG c t now p) ∧ Ch (fun j => j = B) w w' := by
  have HH := Lib.hid (has_any t w)
  have HM := Lib.hid (may_any h t now)
  unfold cameG
  unfold mayG at HM ⊢
  cases ht : has t with
  | false =>
    rw [ht] at HH HM
    have H := Lib.hid h
    clear h ht
    simp only [Bool.false_and, Bool.false_eq_true, if_false] at HM ⊢
    go_enter Tryd.func8, Tryd.ntmps8
    go_wp2_with (go_at_call 21; refine HH.out.mono ?_; rintro e w' ⟨rfl, rfl⟩)
    go_ret
    exact ⟨rfl, H.out, Ch.refl _ _⟩
  | true =>
    rw [ht] at HH HM
    obtain ⟨h0, h1⟩ := (has_iff t).1 ht
    obtain ⟨k, rfl⟩ : ∃ k : Nat, t = k := ⟨t.toNat, by omega⟩
    simp only [Int.toNat_natCast, Bool.true_and, if_true] at HM ⊢
    have oF := ok k
    have oD := ok (16 + k)
    have c0 := h.cell (16 + k) (by omega)
    have f0 := h.frozen k
    have f1 := h.frozen (16 + k)
    obtain ⟨x, hx⟩ : ∃ x, c (16 + k) = x := ⟨_, rfl⟩
    rw [hx] at c0 oD
    obtain ⟨y, hy⟩ : ∃ y, c k = y := ⟨_, rfl⟩
    rw [hy] at oF
    simp only [hy] at HM ⊢
    have c1 := h.cell k (by omega)
    rw [hy] at c1
    by_cases hd : y ≤ now
    · rw [if_pos hd]
      rw [decide_eq_true hd] at HM ⊢
      have H := fun z => Lib.hid (h.set_ k (now + z) (by omega))
      have h2 : (k : Int) < 16 := h1
      have hp : p < 1 ∧ per p = 1 ∨ (1 ≤ p ∧ p ≤ 4096) ∧ per p = p ∨ 4096 < p ∧ per p = 4096 := by unfold per; omega
      clear h ht ok hx hy
      rcases hp with ⟨hp, e⟩ | ⟨⟨hp, hq⟩, e⟩ | ⟨hp, e⟩
      · rw [e]
        have H := H 1
        clear e
        go_enter Tryd.func8, Tryd.ntmps8
        go_wp2_with (first | (go_at_call 21; refine HH.out.mono ?_; rintro e w' ⟨rfl, rfl⟩) | (go_at_call 5; refine HM.out.mono ?_; rintro e w' ⟨rfl, rfl⟩) | fail)
        go_ret
        exact ⟨rfl, H.out, (Ch.refl _ _).setCell _ _ (.inl rfl)⟩
      · rw [e]
        have H := H p
        clear e
        go_enter Tryd.func8, Tryd.ntmps8
        go_wp2_with (first | (go_at_call 21; refine HH.out.mono ?_; rintro e w' ⟨rfl, rfl⟩) | (go_at_call 5; refine HM.out.mono ?_; rintro e w' ⟨rfl, rfl⟩) | fail)
        go_ret
        exact ⟨rfl, H.out, (Ch.refl _ _).setCell _ _ (.inl rfl)⟩
      · rw [e]
        have H := H 4096
        have hp1 : 1 ≤ p := by omega
        clear e
        go_enter Tryd.func8, Tryd.ntmps8
        go_wp2_with (first | (go_at_call 21; refine HH.out.mono ?_; rintro e w' ⟨rfl, rfl⟩) | (go_at_call 5; refine HM.out.mono ?_; rintro e w' ⟨rfl, rfl⟩) | fail)
        go_ret
        exact ⟨rfl, H.out, (Ch.refl _ _).setCell _ _ (.inl rfl)⟩
    · rw [if_neg hd]
      rw [decide_eq_false hd] at HM ⊢
      have H := fun z => Lib.hid (h.set_ (16 + k) z (by omega))
      rw [hx]
      have h2 : (k : Int) < 16 := h1
      have hw : IntKind.i64.wrap (x + 1) = x + 1 := by rw [IntKind.wrap_i64]; omega
      have hp : x + 1 ≤ 4096 ∧ min (x + 1) 4096 = x + 1 ∨ 4096 < x + 1 ∧ min (x + 1) 4096 = 4096 := by omega
      clear h ht ok hx hy
      rcases hp with ⟨hp, e⟩ | ⟨hp, e⟩
      all_goals
        rw [e]
        clear e
        go_enter Tryd.func8, Tryd.ntmps8
        go_wp2_with (first | (go_at_call 21; refine HH.out.mono ?_; rintro e w' ⟨rfl, rfl⟩) | (go_at_call 5; refine HM.out.mono ?_; rintro e w' ⟨rfl, rfl⟩) | fail)
        refine wp_region_g (fun w' => w'.cell? ⟨B, 16 + k, none⟩ = some (.int .i64 x)) 13 (by kernel_rfl) c0 (fun hS => ?_)
        refine wpAnyG_take (i := 0) (oi := { dst := some 17, op := .move (.tmp 0), type := 25, pos := "guard.go:31", after := #[], guard := none }) (v := ?_) rfl (by kernel_rfl) (by kernel_rfl) (by kernel_rfl) (by kernel_rfl) (fun _ _ _ h => h) (Or.inl ⟨by rfl, ?_⟩) hS ?_
        rotate_left 1
        · intro w hw; obtain s0 := hw; go_simp; try (with_reducible rfl)
        simp only [Act.put, List.setIfInBounds_toArray, List.set_cons_zero, List.set_cons_succ]
        refine wpAnyG_take (i := 1) (oi := { dst := some 18, op := .move (.tmp 1), type := 3, pos := "guard.go:31", after := #[], guard := none }) (v := ?_) rfl (by kernel_rfl) (by kernel_rfl) (by kernel_rfl) (by kernel_rfl) (fun _ _ _ h => h) (Or.inl ⟨by rfl, ?_⟩) hS ?_
        rotate_left 1
        · intro w hw; obtain s0 := hw; go_simp; try (with_reducible rfl)
        simp only [Act.put, List.setIfInBounds_toArray, List.set_cons_zero, List.set_cons_succ]
        refine wpAnyG_take (i := 2) (oi := { dst := some 19, op := .move (.tmp 0), type := 25, pos := "guard.go:31", after := #[], guard := none }) (v := ?_) rfl (by kernel_rfl) (by kernel_rfl) (by kernel_rfl) (by kernel_rfl) (fun _ _ _ h => h) (Or.inl ⟨by rfl, ?_⟩) hS ?_
        rotate_left 1
        · intro w hw; obtain s0 := hw; go_simp; try (with_reducible rfl)
        simp only [Act.put, List.setIfInBounds_toArray, List.set_cons_zero, List.set_cons_succ]
        refine wpAnyG_take (i := 3) (oi := { dst := some 20, op := .move (.tmp 1), type := 3, pos := "guard.go:31", after := #[], guard := none }) (v := ?_) rfl (by kernel_rfl) (by kernel_rfl) (by kernel_rfl) (by kernel_rfl) (fun _ _ _ h => h) (Or.inl ⟨by rfl, ?_⟩) hS ?_
        rotate_left 1
        · intro w hw; obtain s0 := hw; go_simp; try (with_reducible rfl)
        simp only [Act.put, List.setIfInBounds_toArray, List.set_cons_zero, List.set_cons_succ]
        refine wpAnyG_take (i := 4) (oi := { dst := some 21, op := .nilCheck (.tmp 19), type := 0, pos := "guard.go:31", after := #[{ on := 2, ground := .data }], guard := none }) (v := ?_) rfl (by kernel_rfl) (by kernel_rfl) (by kernel_rfl) (by kernel_rfl) (fun _ _ _ h => h) (Or.inl ⟨by rfl, ?_⟩) hS ?_
        rotate_left 1
        · intro w hw; obtain s0 := hw; go_simp; try (with_reducible rfl)
        simp only [Act.put, List.setIfInBounds_toArray, List.set_cons_zero, List.set_cons_succ]
        refine wpAnyG_take (i := 5) (oi := { dst := some 22, op := .fieldAddr 28 (.tmp 21) 1, type := 0, pos := "guard.go:31", after := #[{ on := 4, ground := .data }], guard := none }) (v := ?_) rfl (by kernel_rfl) (by kernel_rfl) (by kernel_rfl) (by kernel_rfl) (fun _ _ _ h => h) (Or.inl ⟨by rfl, ?_⟩) hS ?_
        rotate_left 1
        · intro w hw; obtain s0 := hw; go_simp; try (with_reducible rfl)
        simp only [Act.put, List.setIfInBounds_toArray, List.set_cons_zero, List.set_cons_succ]
        refine wpAnyG_take (i := 6) (oi := { dst := some 23, op := .indexAddr 26 (.tmp 22) (.tmp 20), type := 0, pos := "guard.go:31", after := #[{ on := 5, ground := .data }, { on := 3, ground := .data }], guard := none }) (v := ?_) rfl (by kernel_rfl) (by kernel_rfl) (by kernel_rfl) (by kernel_rfl) (fun _ _ _ h => h) (Or.inl ⟨by rfl, ?_⟩) hS ?_
        rotate_left 1
        · intro w hw; obtain s0 := hw; go_simp; try (with_reducible rfl)
        simp only [Act.put, List.setIfInBounds_toArray, List.set_cons_zero, List.set_cons_succ]
        refine wpAnyG_take (i := 7) (oi := { dst := some 24, op := .load 3 (.tmp 23), type := 3, pos := "guard.go:31", after := #[{ on := 6, ground := .data }], guard := none }) (v := ?_) rfl (by kernel_rfl) (by kernel_rfl) (by kernel_rfl) (by kernel_rfl) (fun _ _ _ h => h) (Or.inl ⟨by rfl, ?_⟩) hS ?_
        rotate_left 1
        · intro w hw; obtain s0 := hw; go_simp; try (with_reducible rfl)
        simp only [Act.put, List.setIfInBounds_toArray, List.set_cons_zero, List.set_cons_succ]
        refine wpAnyG_take (i := 8) (oi := { dst := some 25, op := .binOp .add 3 (.tmp 24) (.const (.int .i64 1)) 3, type := 3, pos := "guard.go:31", after := #[{ on := 7, ground := .data }], guard := none }) (v := ?_) rfl (by kernel_rfl) (by kernel_rfl) (by kernel_rfl) (by kernel_rfl) (fun _ _ _ h => h) (Or.inl ⟨by rfl, ?_⟩) hS ?_
        rotate_left 1
        · intro w hw; obtain s0 := hw; go_simp; try (with_reducible rfl)
        simp only [Act.put, List.setIfInBounds_toArray, List.set_cons_zero, List.set_cons_succ]
        refine wpAnyG_take (i := 9) (oi := { dst := some 26, op := .call { callee := .builtin .min, args := #[.tmp 25, .const (.int .i64 4096)], argTypes := #[3, 3] }, type := 3, pos := "guard.go:31", after := #[{ on := 8, ground := .data }], guard := none }) (v := ?_) rfl (by kernel_rfl) (by kernel_rfl) (by kernel_rfl) (by kernel_rfl) (fun _ _ _ h => h) (Or.inl ⟨by rfl, ?_⟩) hS ?_
        rotate_left 1
        · intro w hw; obtain s0 := hw; go_simp; try (with_reducible rfl)
        simp only [Act.put, List.setIfInBounds_toArray, List.set_cons_zero, List.set_cons_succ]
        refine wpAnyG_ready (rs := [10]) (by kernel_rfl) (by simp) (AllReadyG.cons (o := { dst := some 27, op := .nilCheck (.tmp 17), type := 0, pos := "guard.go:31", after := #[{ on := 0, ground := .data }], guard := none }) rfl (fun K hK => ?_) AllReadyG.nil)
        go_simp
        refine hK.out _ _ hS (fun hHeld => ?_)
        clear hK K
        try simp only [Act.put, List.setIfInBounds_toArray, List.set_cons_zero, List.set_cons_succ]
        refine wpAnyG_ready (rs := [11]) (by kernel_rfl) (by simp) (AllReadyG.cons (o := { dst := some 28, op := .fieldAddr 28 (.tmp 27) 1, type := 0, pos := "guard.go:31", after := #[{ on := 10, ground := .data }], guard := none }) rfl (fun K hK => ?_) AllReadyG.nil)
        go_simp
        refine hK.out _ _ hS (fun hHeld => ?_)
        clear hK K
        try simp only [Act.put, List.setIfInBounds_toArray, List.set_cons_zero, List.set_cons_succ]
        refine wpAnyG_ready (rs := [12]) (by kernel_rfl) (by simp) (AllReadyG.cons (o := { dst := some 29, op := .indexAddr 26 (.tmp 28) (.tmp 18), type := 0, pos := "guard.go:31", after := #[{ on := 11, ground := .data }, { on := 1, ground := .data }, { on := 0, ground := .phase }, { on := 1, ground := .phase }, { on := 2, ground := .phase }, { on := 3, ground := .phase }, { on := 4, ground := .phase }, { on := 5, ground := .phase }, { on := 6, ground := .phase }, { on := 7, ground := .phase }, { on := 8, ground := .phase }, { on := 9, ground := .phase }], guard := none }) rfl (fun K hK => ?_) AllReadyG.nil)
        go_simp
        refine hK.out _ _ hS (fun hHeld => ?_)
        clear hK K
        try simp only [Act.put, List.setIfInBounds_toArray, List.set_cons_zero, List.set_cons_succ]
        refine wpAnyG_ready (rs := [13]) (by kernel_rfl) (by simp) (AllReadyG.last (o := { dst := none, op := .store 3 (.tmp 29) (.tmp 26), type := 0, pos := "guard.go:31", after := #[{ on := 12, ground := .data }, { on := 9, ground := .data }, { on := 0, ground := .phase }, { on := 1, ground := .phase }, { on := 2, ground := .phase }, { on := 3, ground := .phase }, { on := 4, ground := .phase }, { on := 5, ground := .phase }, { on := 6, ground := .phase }, { on := 7, ground := .phase }, { on := 8, ground := .phase }, { on := 9, ground := .phase }], guard := none }) rfl (fun K hK => ?_))
        go_simp
        refine hK.out _ _ ?_
        clear hK K
        try simp only [Act.put, List.setIfInBounds_toArray, List.set_cons_zero, List.set_cons_succ]
        refine wpAnyG_done (by kernel_rfl) ?_ _
        go_wp2
        go_ret
        exact ⟨rfl, (H _).out, ((Ch.refl (fun j => j = B) _).setCell ⟨B, 16 + k, none⟩ _ (.inl rfl)).drew⟩
end Go.Proofs.YtdfknobohgncaaaDoor
