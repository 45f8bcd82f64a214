/- Where a sema lies; the contracts of sema's small functions. -/
import Derived.Test.YtjgbbgemoobjjaaDoorMRef
import Derived.Test.YtjgbbgemoobjjaaDoorBox
import Derived.Test.YtjgbbgemoobjjaaDoorLast
import Derived.Test.YtjgbbgemoobjjaaDoorInv
import Derived.Lib.Hide
import Derived.LoopTactic
import Derived.RegionTactic
import Derived.Deep.LoopGhost
import Derived.Deep.RegionWith
import Derived.Handy
import Derived.IntWalk
import Derived.Deep.MidRow
import Derived.Laws.ResultCell
import Derived.Deep.RegionHeld3
import Derived.StillTail
import Derived.StillTactics
import Derived.StillTailTactics
import Derived.WalkLawsBesides
import Derived.Deep.QuietTactic
import Derived.BigQuiet
namespace Go.Proofs.YtjgbbgemoobjjaaDoor
open Go.RowKit

def upd (c : Nat → Int) (n : Nat) (v : Int) : Nat → Int := fun i => if i = n then v else c i
/-- How many are free, how many each task has, who waits. -/
structure St where
  f : Int
  g : Nat → Int
  x : BitVec 32
/-- The cells of a sema. -/
def sm (mo f : Int) (g : Nat → Int) (x : BitVec 32) : List Value := .int .i64 mo :: .int .i64 f :: ((List.range 16).map (fun i => .int .i64 (g i)) ++ [.int .u32 (w32 x)])
theorem sm_g (mo f : Int) (g : Nat → Int) (x : BitVec 32) (i : Nat) (hi : i < 16) : (sm mo f g x)[2 + i]? = some (.int .i64 (g i)) := by
  unfold sm
  rw [show 2 + i = i + 1 + 1 by omega, List.getElem?_cons_succ, List.getElem?_cons_succ, List.getElem?_append_left (by simpa using hi)]
  simp [hi]
theorem sm_x (mo f : Int) (g : Nat → Int) (x : BitVec 32) : (sm mo f g x)[18]? = some (.int .u32 (w32 x)) := by
  unfold sm
  rw [List.getElem?_cons_succ, List.getElem?_cons_succ, List.getElem?_append_right (by simp)]
  simp
theorem sm_len (mo f : Int) (g : Nat → Int) (x : BitVec 32) : (sm mo f g x).length = 19 := by unfold sm; simp
theorem sm_setG (mo f : Int) (g : Nat → Int) (x : BitVec 32) (k : Nat) (v : Int) (hk : k < 16) : (sm mo f g x).set (2 + k) (.int .i64 v) = sm mo f (upd g k v) x := by
  unfold sm
  rw [show 2 + k = k + 1 + 1 by omega, List.set_cons_succ, List.set_cons_succ, List.set_append_left _ _ (by simpa using hk)]
  congr 3
  apply List.ext_getElem?
  intro i
  rw [List.getElem?_set]
  by_cases e : k = i
  · subst e; simp [hk, upd]
  · rw [if_neg e]
    by_cases hi : i < 16
    · have : ¬ i = k := fun h => e h.symm
      simp [hi, upd, this]
    · simp [hi]
theorem sm_setX (mo f : Int) (g : Nat → Int) (x y : BitVec 32) : (sm mo f g x).set 18 (.int .u32 (w32 y)) = sm mo f g y := by
  unfold sm
  rw [List.set_cons_succ, List.set_cons_succ, List.set_append_right _ _ (by simp)]
  simp
/-- Where a sema lies. -/
def SAt (w : World) (B : Nat) (mo : Int) (s : St) : Prop := w.heap[B]? = some (.cells (sm mo s.f s.g s.x).toArray 90 (0, 0))
section
variable {w w' : World} {B : Nat} {mo : Int} {s : St}
theorem SAt.lt (h : SAt w B mo s) : B < w.heap.size := (Array.getElem?_eq_some_iff.1 h).1
theorem SAt.keep {T : Nat → Prop} (h : SAt w B mo s) (hc : Ch T w w') (hT : ¬ T B) : SAt w' B mo s := hc.obj h hT
theorem SAt.below {n : Nat} (h : SAt w B mo s) (hb : Below n w w') (hn : B < n) : SAt w' B mo s := (hb.block B hn).trans h
theorem SAt.new (h : SAt w B mo s) (hb : Below w.heap.size w w') : SAt w' B mo s := h.below hb h.lt
theorem SAt.dn (h : SAt w B mo s) (n : Nat) : SAt (w.drewN n) B mo s := h
theorem SAt.at_ (h : SAt w B mo s) (j : Nat) : w.cell? ⟨B, j, none⟩ = (sm mo s.f s.g s.x)[j]? := by
  rw [cell_of_row w B j _ _ _ h]; simp
theorem SAt.c0 (h : SAt w B mo s) : w.cell? ⟨B, 0, none⟩ = some (.int .i64 mo) := h.at_ 0
theorem SAt.c1 (h : SAt w B mo s) : w.cell? ⟨B, 1, none⟩ = some (.int .i64 s.f) := h.at_ 1
theorem SAt.cg (h : SAt w B mo s) (k : Nat) (hk : k < 16) : w.cell? ⟨B, 2 + k, none⟩ = some (.int .i64 (s.g k)) := (h.at_ _).trans (sm_g _ _ _ _ _ hk)
theorem SAt.cx (h : SAt w B mo s) : w.cell? ⟨B, 18, none⟩ = some (.int .u32 (w32 s.x)) := (h.at_ _).trans (sm_x _ _ _ _)
theorem SAt.frozen (h : SAt w B mo s) (l : Nat) : w.frozen? ⟨B, l, none⟩ = false := frozen_of_row w B l _ _ h
theorem SAt.setF (h : SAt w B mo s) (f : Int) : SAt (w.setCell ⟨B, 1, none⟩ (.int .i64 f)) B mo ⟨f, s.g, s.x⟩ := by
  unfold SAt at h ⊢
  rw [heap_setCell_same w B 1 _ _ _ h]; rfl
theorem SAt.setG (h : SAt w B mo s) (k : Nat) (v : Int) (hk : k < 16) : SAt (w.setCell ⟨B, 2 + k, none⟩ (.int .i64 v)) B mo ⟨s.f, upd s.g k v, s.x⟩ := by
  unfold SAt at h ⊢
  rw [heap_setCell_same w B (2 + k) _ _ _ h, List.setIfInBounds_toArray, sm_setG _ _ _ _ _ _ hk]
theorem SAt.setX (h : SAt w B mo s) (y : BitVec 32) : SAt (w.setCell ⟨B, 18, none⟩ (.int .u32 (w32 y))) B mo ⟨s.f, s.g, y⟩ := by
  unfold SAt at h ⊢
  rw [heap_setCell_same w B 18 _ _ _ h, List.setIfInBounds_toArray, sm_setX]
end
theorem ch_set (w : World) (B k : Nat) (v : Value) : Ch (fun j => j = B) w (w.setCell ⟨B, k, none⟩ v) := (Ch.refl _ _).setCell _ _ (.inl rfl)

def z0 : Nat → Int := fun _ => 0
theorem sm_new (n : Int) : (sm n n z0 0#32).toArray = #[.int .i64 n, .int .i64 n, .int .i64 0, .int .i64 0, .int .i64 0, .int .i64 0, .int .i64 0, .int .i64 0, .int .i64 0, .int .i64 0, .int .i64 0, .int .i64 0, .int .i64 0, .int .i64 0, .int .i64 0, .int .i64 0, .int .i64 0, .int .i64 0, .int .u32 0] := by rfl
theorem sright_any (t : Int) (w : World) : Calls Tryd.prog 40 #[.int .i64 t] w fun e w' => e = .returned (.bool (decide (0 ≤ t ∧ t < 16))) ∧ w = w' := by
  by_cases h0 : 0 ≤ t
  · by_cases h1 : t < 16
    · rw [decide_eq_true ⟨h0, h1⟩]
      go_enter Tryd.func40, Tryd.ntmps40
      go_wp2
      go_ret
      exact ⟨rfl, rfl⟩
    · rw [decide_eq_false (fun h => h1 h.2)]
      go_enter Tryd.func40, Tryd.ntmps40
      go_wp2
      go_ret
      exact ⟨rfl, rfl⟩
  · rw [decide_eq_false (fun h => h0 h.1)]
    go_enter Tryd.func40, Tryd.ntmps40
    go_wp2
    go_ret
    exact ⟨rfl, rfl⟩
theorem sfree_any {w : World} {B : Nat} {mo : Int} {s : St} (h : SAt w B mo s) : Calls Tryd.prog 26 #[.pointer (some ⟨B, 0, none⟩)] w fun e w' => e = .returned (.int .i64 s.f) ∧ w = w' := by
  have c := h.c1
  clear h
  go_enter Tryd.func26, Tryd.ntmps26
  go_wp2
  go_ret
  exact ⟨rfl, rfl⟩
theorem swaits_any {w : World} {B : Nat} {mo : Int} {s : St} (h : SAt w B mo s) : Calls Tryd.prog 27 #[.pointer (some ⟨B, 0, none⟩)] w fun e w' => e = .returned (.int .u32 (w32 s.x)) ∧ w = w' := by
  have c := h.cx
  clear h
  go_enter Tryd.func27, Tryd.ntmps27
  go_wp2
  go_ret
  exact ⟨rfl, rfl⟩
theorem shas_in {w : World} {B : Nat} {mo : Int} {s : St} (h : SAt w B mo s) (k : Nat) (hk : k < 16) : Calls Tryd.prog 30 #[.pointer (some ⟨B, 0, none⟩), .int .i64 (k : Nat)] w fun e w' => e = .returned (.int .i64 (s.g k)) ∧ w = w' := by
  have c := h.cg k hk
  have k0 : (0 : Int) ≤ (k : Int) := by omega
  have k1 : (k : Int) < 16 := by omega
  have HR := Lib.hid (sright_any (k : Int))
  rw [decide_eq_true ⟨k0, k1⟩] at HR
  clear h
  go_enter Tryd.func30, Tryd.ntmps30
  go_wp2_with (go_at_call 40; refine (HR.out _).mono ?_; rintro e w' ⟨rfl, rfl⟩)
  go_ret
  exact ⟨rfl, rfl⟩
theorem shas_out {w : World} {B : Nat} (t : Int) (ht : ¬ (0 ≤ t ∧ t < 16)) : Calls Tryd.prog 30 #[.pointer (some ⟨B, 0, none⟩), .int .i64 t] w fun e w' => e = .returned (.int .i64 0) ∧ w = w' := by
  have HR := Lib.hid (sright_any t)
  rw [decide_eq_false ht] at HR
  clear ht
  go_enter Tryd.func30, Tryd.ntmps30
  go_wp2_with (go_at_call 40; refine (HR.out _).mono ?_; rintro e w' ⟨rfl, rfl⟩)
  go_ret
  exact ⟨rfl, rfl⟩
theorem snew_none (n : Int) (h : n < 1 ∨ 65536 < n) (w : World) : Calls Tryd.prog 15 #[.int .i64 n] w fun e w' => e = .returned (.tuple #[.pointer none, .int .i64 64]) ∧ w = w' := by
  by_cases h1 : n < 1
  · clear h
    go_enter Tryd.func15, Tryd.ntmps15
    go_wp2
    go_ret2
    exact ⟨rfl, rfl⟩
  · have h2 : 65536 < n := by omega
    clear h
    go_enter Tryd.func15, Tryd.ntmps15
    go_wp2
    go_ret2
    exact ⟨rfl, rfl⟩
theorem snew_some (n : Int) (h1 : 1 ≤ n) (h2 : n ≤ 65536) (w : World) : Calls Tryd.prog 15 #[.int .i64 n] w fun e w' => e = .returned (.tuple #[.pointer (some ⟨w.heap.size, 0, none⟩), .int .i64 0]) ∧ SAt w' w.heap.size n ⟨n, z0, 0#32⟩ ∧ Below w.heap.size w w' := by
  have HF := Lib.hid (show ∀ o : Obj, o = .cells #[.int .i64 n, .int .i64 n, .int .i64 0, .int .i64 0, .int .i64 0, .int .i64 0, .int .i64 0, .int .i64 0, .int .i64 0, .int .i64 0, .int .i64 0, .int .i64 0, .int .i64 0, .int .i64 0, .int .i64 0, .int .i64 0, .int .i64 0, .int .i64 0, .int .u32 0] 90 → SAt (w.alloc o) w.heap.size n ⟨n, z0, 0#32⟩ from fun o ho => by
    subst ho; unfold SAt; rw [sm_new]; exact heap_alloc_new w _)
  go_enter Tryd.func15, Tryd.ntmps15
  go_wp2
  go_ret2
  exact ⟨rfl, HF.out _ rfl, (Below.refl _ _).alloc (Nat.le_refl _) _⟩
end Go.Proofs.YtjgbbgemoobjjaaDoor
