/- Where a pool lies; the contracts of pool's ref, Free, Low, New. -/
import Derived.Test.YtdfknobohgncaaaDoorGB
import Derived.Test.YtdfknobohgncaaaDoorIter
import Derived.Test.YtdfknobohgncaaaDoorLasts
import Derived.Test.YtdfknobohgncaaaDoorBox
namespace Go.Proofs.YtdfknobohgncaaaDoor
open Go.RowKit

/-- The cells of a pool: what is free, what is out, how often each was given out, the fewest that were free. -/
def pl (F U : BitVec 32) (g : Nat → Int) (lo : Int) : List Value := .int .u32 (w32 F) :: .int .u32 (w32 U) :: ((List.range 32).map (fun i => .int .i64 (g i)) ++ [.int .i64 lo])
theorem pl_g (F U : BitVec 32) (g : Nat → Int) (lo : Int) (i : Nat) (hi : i < 32) : (pl F U g lo)[2 + i]? = some (.int .i64 (g i)) := by
  unfold pl
  rw [show 2 + i = i + 1 + 1 by omega, List.getElem?_cons_succ, List.getElem?_cons_succ, List.getElem?_append_left (by simpa using hi)]
  simp [hi]
theorem pl_low (F U : BitVec 32) (g : Nat → Int) (lo : Int) : (pl F U g lo)[34]? = some (.int .i64 lo) := by
  unfold pl
  rw [List.getElem?_cons_succ, List.getElem?_cons_succ, List.getElem?_append_right (by simp)]
  simp
theorem pl_len (F U : BitVec 32) (g : Nat → Int) (lo : Int) : (pl F U g lo).length = 35 := by unfold pl; simp
theorem pl_setG (F U : BitVec 32) (g : Nat → Int) (lo : Int) (k : Nat) (v : Int) (hk : k < 32) : (pl F U g lo).set (2 + k) (.int .i64 v) = pl F U (upd g k v) lo := by
  unfold pl
  rw [show 2 + k = k + 1 + 1 by omega, List.set_cons_succ, List.set_cons_succ, List.set_append_left _ _ (by simpa using hk)]
  congr 3
  apply List.ext_getElem?
  intro i
  rw [List.getElem?_set]
  by_cases e : k = i
  · subst e; simp [hk, upd]
  · rw [if_neg e]
    by_cases hi : i < 32
    · have : ¬ i = k := fun h => e h.symm
      simp [hi, upd, this]
    · simp [hi]
theorem pl_setL (F U : BitVec 32) (g : Nat → Int) (lo v : Int) : (pl F U g lo).set 34 (.int .i64 v) = pl F U g v := by
  unfold pl
  rw [List.set_cons_succ, List.set_cons_succ, List.set_append_right _ _ (by simp)]
  simp
/-- Where a pool lies. -/
def PAt (w : World) (B : Nat) (F U : BitVec 32) (g : Nat → Int) (lo : Int) : Prop := w.heap[B]? = some (.cells (pl F U g lo).toArray 67 (0, 0))
section
variable {w w' : World} {B : Nat} {F U : BitVec 32} {g : Nat → Int} {lo : Int}
theorem PAt.lt (h : PAt w B F U g lo) : B < w.heap.size := (Array.getElem?_eq_some_iff.1 h).1
theorem PAt.keep {T : Nat → Prop} (h : PAt w B F U g lo) (hc : Ch T w w') (hT : ¬ T B) : PAt w' B F U g lo := hc.obj h hT
theorem PAt.below {n : Nat} (h : PAt w B F U g lo) (hb : Below n w w') (hn : B < n) : PAt w' B F U g lo := (hb.block B hn).trans h
theorem PAt.new (h : PAt w B F U g lo) (hb : Below w.heap.size w w') : PAt w' B F U g lo := h.below hb h.lt
theorem PAt.dn (h : PAt w B F U g lo) (n : Nat) : PAt (w.drewN n) B F U g lo := h
theorem PAt.at_ (h : PAt w B F U g lo) (j : Nat) : w.cell? ⟨B, j, none⟩ = (pl F U g lo)[j]? := by
  rw [cell_of_row w B j _ _ _ h]; simp
theorem PAt.c0 (h : PAt w B F U g lo) : w.cell? ⟨B, 0, none⟩ = some (.int .u32 (w32 F)) := h.at_ 0
theorem PAt.c1 (h : PAt w B F U g lo) : w.cell? ⟨B, 1, none⟩ = some (.int .u32 (w32 U)) := h.at_ 1
theorem PAt.cg (h : PAt w B F U g lo) (k : Nat) (hk : k < 32) : w.cell? ⟨B, 2 + k, none⟩ = some (.int .i64 (g k)) := (h.at_ _).trans (pl_g _ _ _ _ _ hk)
theorem PAt.cl (h : PAt w B F U g lo) : w.cell? ⟨B, 34, none⟩ = some (.int .i64 lo) := (h.at_ _).trans (pl_low _ _ _ _)
theorem PAt.frozen (h : PAt w B F U g lo) (l : Nat) : w.frozen? ⟨B, l, none⟩ = false := frozen_of_row w B l _ _ h
theorem PAt.setF (h : PAt w B F U g lo) (F' : BitVec 32) : PAt (w.setCell ⟨B, 0, none⟩ (.int .u32 (w32 F'))) B F' U g lo := by
  unfold PAt at h ⊢
  rw [heap_setCell_same w B 0 _ _ _ h]; rfl
theorem PAt.setU (h : PAt w B F U g lo) (U' : BitVec 32) : PAt (w.setCell ⟨B, 1, none⟩ (.int .u32 (w32 U'))) B F U' g lo := by
  unfold PAt at h ⊢
  rw [heap_setCell_same w B 1 _ _ _ h]; rfl
theorem PAt.setG (h : PAt w B F U g lo) (k : Nat) (v : Int) (hk : k < 32) : PAt (w.setCell ⟨B, 2 + k, none⟩ (.int .i64 v)) B F U (upd g k v) lo := by
  unfold PAt at h ⊢
  rw [heap_setCell_same w B (2 + k) _ _ _ h, List.setIfInBounds_toArray, pl_setG _ _ _ _ _ _ hk]
theorem PAt.setL (h : PAt w B F U g lo) (v : Int) : PAt (w.setCell ⟨B, 34, none⟩ (.int .i64 v)) B F U g v := by
  unfold PAt at h ⊢
  rw [heap_setCell_same w B 34 _ _ _ h, List.setIfInBounds_toArray, pl_setL]
end

theorem pl_new (F : BitVec 32) (n : Int) : (pl F 0#32 c0 n).toArray = #[.int .u32 (w32 F), .int .u32 0, .int .i64 0, .int .i64 0, .int .i64 0, .int .i64 0, .int .i64 0, .int .i64 0, .int .i64 0, .int .i64 0, .int .i64 0, .int .i64 0, .int .i64 0, .int .i64 0, .int .i64 0, .int .i64 0, .int .i64 0, .int .i64 0, .int .i64 0, .int .i64 0, .int .i64 0, .int .i64 0, .int .i64 0, .int .i64 0, .int .i64 0, .int .i64 0, .int .i64 0, .int .i64 0, .int .i64 0, .int .i64 0, .int .i64 0, .int .i64 0, .int .i64 0, .int .i64 0, .int .i64 n] := by rfl
theorem pat_fresh (w : World) (F : BitVec 32) (n : Int) : PAt (w.alloc (.cells #[.int .u32 (w32 F), .int .u32 0, .int .i64 0, .int .i64 0, .int .i64 0, .int .i64 0, .int .i64 0, .int .i64 0, .int .i64 0, .int .i64 0, .int .i64 0, .int .i64 0, .int .i64 0, .int .i64 0, .int .i64 0, .int .i64 0, .int .i64 0, .int .i64 0, .int .i64 0, .int .i64 0, .int .i64 0, .int .i64 0, .int .i64 0, .int .i64 0, .int .i64 0, .int .i64 0, .int .i64 0, .int .i64 0, .int .i64 0, .int .i64 0, .int .i64 0, .int .i64 0, .int .i64 0, .int .i64 0, .int .i64 n] 67)) w.heap.size F 0#32 c0 n := by
  unfold PAt; rw [pl_new]; exact heap_alloc_new w _

theorem ref_any {w : World} {B : Nat} {F U : BitVec 32} {g : Nat → Int} {lo : Int} (h : PAt w B F U g lo) (k : Nat) (hk : k < 32) :
    Calls Tryd.prog 27 #[.pointer (some ⟨B, 0, none⟩), .int .i64 (k : Nat)] w fun e w' => e = .returned (.agg #[.int .i64 (k : Nat), .int .i64 (g k)]) ∧ Below w.heap.size w w' := by
  obtain ⟨x, hx⟩ : ∃ x, g k = x := ⟨_, rfl⟩
  have hB := h.lt
  have ck := h.cg k hk
  rw [hx] at ck
  have ck2 : (w.alloc (.cells #[.int .i64 0, .int .i64 0] 50)).cell? ⟨B, 2 + k, none⟩ = some (.int .i64 x) := (World.cell?_alloc_old w _ ⟨B, 2 + k, none⟩ (Nat.ne_of_lt hB)).trans ck
  have hk' : (k : Int) < 32 := by omega
  have hk0 : (0 : Int) ≤ (k : Int) := by omega
  rw [hx]
  clear h hx hB ck
  go_enter Tryd.func27, Tryd.ntmps27
  go_wp2
  go_returns
  exact ⟨rfl, (Below.refl _ _).alloc (Nat.le_refl _) _⟩
theorem free_any {w : World} {B : Nat} {F U : BitVec 32} {g : Nat → Int} {lo : Int} (h : PAt w B F U g lo) :
    Calls Tryd.prog 18 #[.pointer (some ⟨B, 0, none⟩)] w fun e w' => e = .returned (.int .i64 ((lst F 32).length : Nat)) ∧ Below w.heap.size w w' := by
  have c0 := h.c0
  have HL := Lib.hid (len_any F w)
  clear h
  go_enter Tryd.func18, Tryd.ntmps18
  go_wp2_with (go_at_call 30; refine HL.out.mono ?_; rintro e w1 ⟨rfl, b1⟩; have HB := Lib.hid b1; clear b1)
  go_ret
  exact ⟨rfl, HB.out⟩
theorem low_any {w : World} {B : Nat} {F U : BitVec 32} {g : Nat → Int} {lo : Int} (h : PAt w B F U g lo) :
    Calls Tryd.prog 19 #[.pointer (some ⟨B, 0, none⟩)] w fun e w' => e = .returned (.int .i64 lo) ∧ w = w' := by
  have cl := h.cl
  clear h
  go_enter Tryd.func19, Tryd.ntmps19
  go_wp2
  go_ret
  exact ⟨rfl, rfl⟩
/-- All blocks below so many. -/
def fst (n : Int) : BitVec 32 := btw 4294967295#32 (-1) n
theorem new_none (n : Int) (h : n < 1 ∨ 32 < n) (w : World) : Calls Tryd.prog 13 #[.int .i64 n] w fun e w' => e = .returned (.tuple #[.pointer none, .int .i64 64]) ∧ w = w' := by
  by_cases h1 : n < 1
  · clear h
    go_enter Tryd.func13, Tryd.ntmps13
    go_wp2
    go_ret2
    exact ⟨rfl, rfl⟩
  · have h2 : 32 < n := by omega
    clear h
    go_enter Tryd.func13, Tryd.ntmps13
    go_wp2
    go_ret2
    exact ⟨rfl, rfl⟩
theorem new_some (n : Int) (h1 : 1 ≤ n) (h2 : n ≤ 32) (w : World) : Calls Tryd.prog 13 #[.int .i64 n] w fun e w' => e = .returned (.tuple #[.pointer (some ⟨w.heap.size, 0, none⟩), .int .i64 0]) ∧ PAt w' w.heap.size (fst n) 0#32 c0 n ∧ Below w.heap.size w w' := by
  have HE := Lib.hid (below_any 4294967295#32 n w)
  obtain ⟨f, hf⟩ : ∃ f, btw 4294967295#32 (-1) n = f := ⟨_, rfl⟩
  unfold fst
  rw [hf] at HE ⊢
  clear hf
  go_enter Tryd.func13, Tryd.ntmps13
  go_wp2_with (go_at_call 25; refine HE.out.mono ?_; rintro e w1 ⟨rfl, rfl⟩)
  go_ret2
  exact ⟨rfl, pat_fresh _ _ _, (Below.refl _ _).alloc (Nat.le_refl _) _⟩
end Go.Proofs.YtdfknobohgncaaaDoor
