/- Where a box of messages lies; the contracts of mbox's small functions. -/
import Derived.Test.YtbdcjfkplopbiaaDoorMRef
import Derived.Test.YtbdcjfkplopbiaaDoorSI
import Derived.Test.YtbdcjfkplopbiaaDoorBox
import Derived.Test.YtbdcjfkplopbiaaDoorLast
import Derived.Test.YtbdcjfkplopbiaaDoorInv
import Derived.Lib.Hide
import Derived.LoopTactic
import Derived.RegionTactic
import Derived.Deep.LoopGhost
import Derived.Deep.RegionWith
import Derived.Handy
import Derived.IntWalk
import Derived.Deep.MidRow
import Derived.Laws.ResultCell
import Derived.Deep.RegionHeld3
import Derived.StillTail
import Derived.StillTactics
import Derived.StillTailTactics
import Derived.WalkLawsBesides
import Derived.Deep.QuietTactic
import Derived.BigQuiet
import Derived.ArgAppend
import Derived.Deep.CutRange
import Derived.Deep.CutBlock
namespace Go.Proofs.YtbdcjfkplopbiaaDoor
open Go.RowKit

def updF {α : Type} (c : Nat → α) (n : Nat) (v : α) : Nat → α := fun i => if i = n then v else c i
theorem updF_same {α : Type} (c : Nat → α) (n : Nat) (v : α) : updF c n v n = v := by unfold updF; rw [if_pos rfl]
theorem updF_ne {α : Type} (c : Nat → α) (n : Nat) (v : α) (i : Nat) (h : i ≠ n) : updF c n v i = c i := by unfold updF; rw [if_neg h]
/-- Where a slice of one degree lies: nowhere, or from a place on within a block of ints. -/
def Slc (w : World) (sp : Option Addr) (cap : Nat) (L : List Int) : Prop :=
  (sp = none ∧ L = [] ∧ cap = 0) ∨ ∃ (g off : Nat) (cur : Array Value), sp = some ⟨g, off, none⟩ ∧ w.heap[g]? = some (.cells cur 3 (0, 0)) ∧ off + cap ≤ cur.size ∧ L.length ≤ cap ∧ ∀ k, k < L.length → cur[off + k]? = some (.int .i64 (nth L k))
/-- The cells of a box. -/
def bx (rm : Int) (sp : Nat → Option Addr) (cp : Nat → Nat) (f : Nat → List Int) : List Value := .int .i64 rm :: (List.range 32).map (fun d => .slice (sp d) (f d).length (cp d))
theorem bx_at (rm : Int) (sp : Nat → Option Addr) (cp : Nat → Nat) (f : Nat → List Int) (d : Nat) (hd : d < 32) : (bx rm sp cp f)[1 + d]? = some (.slice (sp d) (f d).length (cp d)) := by
  unfold bx
  rw [show 1 + d = d + 1 by omega, List.getElem?_cons_succ]
  simp [hd]
theorem bx_set (rm : Int) (sp : Nat → Option Addr) (cp : Nat → Nat) (f : Nat → List Int) (d : Nat) (hd : d < 32) (s : Option Addr) (c : Nat) (L : List Int) : (bx rm sp cp f).set (1 + d) (.slice s L.length c) = bx rm (updF sp d s) (updF cp d c) (updF f d L) := by
  unfold bx
  rw [show 1 + d = d + 1 by omega, List.set_cons_succ]
  congr 1
  apply List.ext_getElem?
  intro i
  rw [List.getElem?_set]
  by_cases e : d = i
  · subst e; simp [hd, updF]
  · rw [if_neg e]
    by_cases hi : i < 32
    · have : ¬ i = d := fun h => e h.symm
      simp [hi, updF, this]
    · simp [hi]
structure BX (w : World) (V : Nat → Prop) (B : Nat) (rm : Int) (sp : Nat → Option Addr) (cp : Nat → Nat) (f : Nat → List Int) : Prop where
  row : w.heap[B]? = some (.cells (bx rm sp cp f).toArray 47 (0, 0))
  vB : ¬ V B
  sl : ∀ d, d < 32 → Slc w (sp d) (cp d) (f d)
  av : ∀ d a, d < 32 → sp d = some a → ¬ V a.block ∧ a.block ≠ B ∧ a.block < w.heap.size
  dj : ∀ d e a b, d < 32 → e < 32 → d ≠ e → sp d = some a → sp e = some b → a.block ≠ b.block
/-- A box lies in no block of V. -/
def BAt (w : World) (V : Nat → Prop) (B : Nat) (rm : Int) (f : Nat → List Int) : Prop := ∃ sp cp, BX w V B rm sp cp f
theorem Slc.keep {w w' : World} {T : Nat → Prop} {sp : Option Addr} {cap : Nat} {L : List Int} (h : Slc w sp cap L) (hc : Ch T w w') (hT : ∀ a, sp = some a → ¬ T a.block) : Slc w' sp cap L := by
  rcases h with h | ⟨g, off, cur, h1, h2, h3⟩
  · exact .inl h
  · exact .inr ⟨g, off, cur, h1, hc.obj h2 (hT _ h1), h3⟩
section
variable {w w' : World} {V : Nat → Prop} {B : Nat} {rm : Int} {sp : Nat → Option Addr} {cp : Nat → Nat} {f : Nat → List Int}
theorem BX.lt (h : BX w V B rm sp cp f) : B < w.heap.size := (Array.getElem?_eq_some_iff.1 h.row).1
theorem BX.keep {T : Nat → Prop} (h : BX w V B rm sp cp f) (hc : Ch T w w') (hB : ¬ T B) (hT : ∀ d a, d < 32 → sp d = some a → ¬ T a.block) : BX w' V B rm sp cp f :=
  ⟨hc.obj h.row hB, h.vB, fun d hd => (h.sl d hd).keep hc (fun a ha => hT d a hd ha), fun d a hd ha => ⟨(h.av d a hd ha).1, (h.av d a hd ha).2.1, Nat.lt_of_lt_of_le (h.av d a hd ha).2.2 hc.size⟩, h.dj⟩
theorem BX.new (h : BX w V B rm sp cp f) (hb : Below w.heap.size w w') : BX w' V B rm sp cp f := h.keep (T := fun _ => False) (Ch.new hb) (fun h => h) (fun _ _ _ _ h => h)
theorem BX.inV (h : BX w V B rm sp cp f) (hc : Ch V w w') : BX w' V B rm sp cp f := h.keep hc h.vB (fun d a hd ha => (h.av d a hd ha).1)
theorem BX.more {V' : Nat → Prop} (h : BX w V B rm sp cp f) (hV : ∀ j, j < w.heap.size → V' j → V j) : BX w V' B rm sp cp f :=
  ⟨h.row, fun hv => h.vB (hV B h.lt hv), h.sl, fun d a hd ha => ⟨fun hv => (h.av d a hd ha).1 (hV _ (h.av d a hd ha).2.2 hv), (h.av d a hd ha).2⟩, h.dj⟩
theorem BX.at_ (h : BX w V B rm sp cp f) (j : Nat) : w.cell? ⟨B, j, none⟩ = (bx rm sp cp f)[j]? := by
  rw [cell_of_row w B j _ _ _ h.row]; simp
theorem BX.c0 (h : BX w V B rm sp cp f) : w.cell? ⟨B, 0, none⟩ = some (.int .i64 rm) := h.at_ 0
theorem BX.cd (h : BX w V B rm sp cp f) (d : Nat) (hd : d < 32) : w.cell? ⟨B, 1 + d, none⟩ = some (.slice (sp d) (f d).length (cp d)) := (h.at_ _).trans (bx_at _ _ _ _ _ hd)
theorem BX.fr (h : BX w V B rm sp cp f) (l : Nat) : w.frozen? ⟨B, l, none⟩ = false := frozen_of_row w B l _ _ h.row
/-- One degree's slice is turned. -/
theorem BX.turn (h : BX w V B rm sp cp f) (hV : ∀ j, V j → j < w.heap.size) {d : Nat} (hd : d < 32) {w1 : World} {s : Option Addr} {c : Nat} {L : List Int} (hc : Ch (fun j => ∃ a, sp d = some a ∧ a.block = j) w w1) (hs : Slc w1 s c L) (hn : ∀ a, s = some a → a.block < w1.heap.size ∧ ((∃ b, sp d = some b ∧ b.block = a.block) ∨ w.heap.size ≤ a.block)) :
    BX (w1.setCell ⟨B, 1 + d, none⟩ (.slice s L.length c)) V B rm (updF sp d s) (updF cp d c) (updF f d L) ∧ Ch (fun j => ¬ V j) w (w1.setCell ⟨B, 1 + d, none⟩ (.slice s L.length c)) := by
  have h1 : w1.heap[B]? = some (.cells (bx rm sp cp f).toArray 47 (0, 0)) := hc.obj h.row (fun ⟨a, ha, hb⟩ => (h.av d a hd ha).2.1 hb)
  have hset : Ch (fun j => j = B) w1 (w1.setCell ⟨B, 1 + d, none⟩ (.slice s L.length c)) := (Ch.refl _ _).setCell _ _ (.inl rfl)
  have hsB : ∀ a, s = some a → a.block ≠ B := fun a ha e => by
    rcases (hn a ha).2 with ⟨b, hb, hbb⟩ | hg
    · exact (h.av d b hd hb).2.1 (hbb.trans e)
    · have := h.lt; omega
  refine ⟨⟨?_, h.vB, fun e he => ?_, fun e a he ha => ?_, fun e e' a b he he' hne ha hb => ?_⟩, ?_⟩
  · rw [heap_setCell_same w1 B (1 + d) _ _ _ h1, List.setIfInBounds_toArray, bx_set _ _ _ _ _ hd]
  · by_cases e1 : e = d
    · subst e1
      rw [updF_same, updF_same, updF_same]
      exact hs.keep hset hsB
    · rw [updF_ne _ _ _ _ e1, updF_ne _ _ _ _ e1, updF_ne _ _ _ _ e1]
      exact ((h.sl e he).keep hc (fun a ha ⟨b, hb, hbb⟩ => h.dj d e b a hd he (fun e' => e1 e'.symm) hb ha hbb)).keep hset (fun a ha => (h.av e a he ha).2.1)
  · by_cases e1 : e = d
    · subst e1
      rw [updF_same] at ha
      refine ⟨?_, hsB a ha, by rw [World.size_setCell]; exact (hn a ha).1⟩
      rcases (hn a ha).2 with ⟨b, hb, hbb⟩ | hg
      · rw [← hbb]; exact (h.av e b hd hb).1
      · exact fun hv => by have := hV _ hv; omega
    · rw [updF_ne _ _ _ _ e1] at ha
      exact ⟨(h.av e a he ha).1, (h.av e a he ha).2.1, by rw [World.size_setCell]; exact Nat.lt_of_lt_of_le (h.av e a he ha).2.2 hc.size⟩
  · have key : ∀ e a b, e < 32 → e ≠ d → sp e = some a → s = some b → a.block ≠ b.block := fun e a b he e1 ha hb e2 => by
      rcases (hn b hb).2 with ⟨b', hb', hbb⟩ | hg
      · exact h.dj e d a b' he hd e1 ha hb' (e2.trans hbb.symm)
      · have := (h.av e a he ha).2.2; omega
    by_cases e1 : e = d
    · subst e1
      rw [updF_same] at ha
      rw [updF_ne _ _ _ _ (fun e' => hne e'.symm)] at hb
      exact fun e2 => key e' b a he' (fun e' => hne e'.symm) hb ha e2.symm
    · rw [updF_ne _ _ _ _ e1] at ha
      by_cases e2 : e' = d
      · subst e2
        rw [updF_same] at hb
        exact key e a b he e1 ha hb
      · rw [updF_ne _ _ _ _ e2] at hb
        exact h.dj e e' a b he he' hne ha hb
  · have c1 : Ch (fun j => ¬ V j) w w1 := hc.mono fun j _ ⟨a, ha, hb⟩ => by rw [← hb]; exact (h.av d a hd ha).1
    have c2 : Ch (fun j => ¬ V j) w1 (w1.setCell ⟨B, 1 + d, none⟩ (.slice s L.length c)) := hset.mono fun j _ e => by rw [e]; exact h.vB
    exact c1.trans c2
end
theorem mright_any (t : Int) (w : World) : Calls Tryd.prog 15 #[.int .i64 t] w fun e w' => e = .returned (.bool (decide (0 ≤ t ∧ t < 32))) ∧ w = w' := by
  by_cases h0 : 0 ≤ t
  · by_cases h1 : t < 32
    · rw [decide_eq_true ⟨h0, h1⟩]
      go_enter Tryd.func15, Tryd.ntmps15
      go_wp2
      go_ret
      exact ⟨rfl, rfl⟩
    · rw [decide_eq_false (fun h => h1 h.2)]
      go_enter Tryd.func15, Tryd.ntmps15
      go_wp2
      go_ret
      exact ⟨rfl, rfl⟩
  · rw [decide_eq_false (fun h => h0 h.1)]
    go_enter Tryd.func15, Tryd.ntmps15
    go_wp2
    go_ret
    exact ⟨rfl, rfl⟩
/-- How many of the first so many degrees there are; the degrees of which there are some. -/
def many (f : Nat → List Int) : Nat → Nat
  | 0 => 0
  | n + 1 => many f n + (f n).length
def dgK (f : Nat → List Int) : Nat → BitVec 32
  | 0 => 0#32
  | n + 1 => if (f n).length = 0 then dgK f n else dgK f n ||| onl (n : Int)
theorem dgK_bit (f : Nat → List Int) : ∀ n, n ≤ 32 → ∀ i, i < 32 → (dgK f n).getLsbD i = (decide (i < n) && decide ((f i).length ≠ 0))
  | 0, _, i, hi => by simp [dgK]
  | n + 1, hn, i, hi => by
    have ih := dgK_bit f n (by omega) i hi
    unfold dgK
    by_cases h0 : (f n).length = 0
    · rw [if_pos h0, ih]
      by_cases e : i = n
      · subst e; simp [h0]
      · have : (decide (i < n)) = decide (i < n + 1) := by rw [decide_eq_decide]; omega
        rw [this]
    · rw [if_neg h0, BitVec.getLsbD_or, ih, onl_bit _ _ hi]
      by_cases e : i = n
      · subst e; simp [h0]
      · have : (decide (i < n)) = decide (i < n + 1) := by rw [decide_eq_decide]; omega
        have h2 : ¬ ((i : Int) = (n : Int)) := by omega
        rw [this]; simp [h2]
theorem many_mono (f : Nat → List Int) (n : Nat) : ∀ m, n ≤ m → many f n ≤ many f m
  | 0, h => by obtain rfl : n = 0 := by omega
               exact Nat.le_refl _
  | m + 1, h => by
    by_cases e : n = m + 1
    · subst e; exact Nat.le_refl _
    · have := many_mono f n m (by omega); show many f n ≤ many f m + (f m).length; omega
set_option maxHeartbeats 1000000 in
theorem mlen_any {w : World} {V : Nat → Prop} {B : Nat} {rm : Int} {sp : Nat → Option Addr} {cp : Nat → Nat} {f : Nat → List Int} (h : BX w V B rm sp cp f) (hm : many f 32 ≤ 65536) :
    Calls Tryd.prog 12 #[.pointer (some ⟨B, 0, none⟩)] w fun e w' => e = .returned (.int .i64 (many f 32 : Nat)) ∧ w = w' := by
  have HX := Lib.hid h
  have HM := Lib.hid hm
  clear h hm
  go_enter Tryd.func12, Tryd.ntmps12
  go_wp2
  go_loopg [3, 5] 32 (fun g a i wr => ∃ (k : Nat), k + g = 32 ∧ a = .int .i64 (many f k : Nat) ∧ i = .int .i64 (k : Nat) ∧ Aside (w = wr))
  case atStart => exact ⟨0, by omega, rfl, rfl, rfl⟩
  case round =>
    obtain ⟨k, hkg, rfl, rfl, hw⟩ := hrel
    obtain rfl := hw.out
    clear hw
    cases gk with
    | zero =>
      obtain rfl : k = 32 := by omega
      go_wp2
      go_ret
      exact ⟨rfl, rfl⟩
    | succ g1 =>
      have hk : k < 32 := by omega
      have cd := HX.out.cd k hk
      have h1 : many f (k + 1) ≤ 65536 := Nat.le_trans (many_mono f (k + 1) 32 (by omega)) HM.out
      have h2 : many f (k + 1) = many f k + (f k).length := rfl
      obtain ⟨a, ha⟩ : ∃ a, many f k = a := ⟨_, rfl⟩
      obtain ⟨b, hb⟩ : ∃ b, (f k).length = b := ⟨_, rfl⟩
      rw [ha, hb] at h2
      rw [h2] at h1
      rw [hb] at cd
      rw [ha]
      have HC := Lib.hid h2
      have k0 : (0 : Int) ≤ (k : Int) := by omega
      have k1 : (k : Int) < 32 := by omega
      clear h2 ha hb
      go_wp2
      go_roundg g1
      case measure => omega
      case rel => exact ⟨k + 1, by omega, by rw [HC.out]; go_num, by go_num, rfl⟩
set_option maxHeartbeats 1000000 in
theorem mdeg_any {w : World} {V : Nat → Prop} {B : Nat} {rm : Int} {sp : Nat → Option Addr} {cp : Nat → Nat} {f : Nat → List Int} (h : BX w V B rm sp cp f) :
    Calls Tryd.prog 13 #[.pointer (some ⟨B, 0, none⟩)] w fun e w' => e = .returned (.int .u32 (w32 (dgK f 32))) ∧ w = w' := by
  have HX := Lib.hid h
  clear h
  go_enter Tryd.func13, Tryd.ntmps13
  go_wp2
  go_loopg [3, 5] 32 (fun g a i wr => ∃ (k : Nat), k + g = 32 ∧ a = .int .u32 (w32 (dgK f k)) ∧ i = .int .i64 (k : Nat) ∧ Aside (w = wr))
  case atStart => exact ⟨0, by omega, rfl, rfl, rfl⟩
  case round =>
    obtain ⟨k, hkg, rfl, rfl, hw⟩ := hrel
    obtain rfl := hw.out
    clear hw
    cases gk with
    | zero =>
      obtain rfl : k = 32 := by omega
      go_wp2
      go_ret
      exact ⟨rfl, rfl⟩
    | succ g1 =>
      have hk : k < 32 := by omega
      have cd := HX.out.cd k hk
      have k0 : (0 : Int) ≤ (k : Int) := by omega
      have k1 : (k : Int) < 32 := by omega
      have HW := Lib.hid (fun w => with_any (dgK f k) (k : Int) w)
      by_cases h0 : (f k).length = 0
      · have HC := Lib.hid (show dgK f (k + 1) = dgK f k by show (if _ then _ else _) = _; rw [if_pos h0])
        rw [h0] at cd
        clear h0 HW
        go_wp2
        go_roundg g1
        case measure => omega
        case rel => exact ⟨k + 1, by omega, by rw [HC.out], by go_num, rfl⟩
      · have HC := Lib.hid (show dgK f (k + 1) = dgK f k ||| onl (k : Int) by show (if _ then _ else _) = _; rw [if_neg h0])
        have h1 : (0 : Int) < ((f k).length : Int) := by omega
        obtain ⟨b, hb⟩ : ∃ b, (f k).length = b := ⟨_, rfl⟩
        rw [hb] at cd h1
        clear h0 hb
        go_wp2_with (go_at_call 20; refine (HW.out _).mono ?_; rintro e w' ⟨rfl, rfl⟩)
        go_roundg g1
        case measure => omega
        case rel => exact ⟨k + 1, by omega, by rw [HC.out], by go_num, rfl⟩
end Go.Proofs.YtbdcjfkplopbiaaDoor
