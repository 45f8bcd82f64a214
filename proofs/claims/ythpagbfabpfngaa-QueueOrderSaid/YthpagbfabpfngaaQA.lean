/- Where a queue lies; the contracts of queue's small functions. -/
import Derived.Test.YthpagbfabpfngaaProg
import Derived.Test.YthpagbfabpfngaaBox
import Derived.Test.YthpagbfabpfngaaLast
import Derived.Test.YthpagbfabpfngaaInv
import Derived.Lib.Hide
import Derived.LoopTactic
import Derived.RegionTactic
import Derived.Deep.LoopGhost
import Derived.Deep.RegionWith
import Derived.Handy
import Derived.IntWalk
import Derived.Deep.MidRow
import Derived.Laws.CopyOwn
import Derived.Laws.ResultCell
import Derived.Deep.RegionHeld3
import Derived.StillTail
import Derived.StillTactics
import Derived.StillTailTactics
import Derived.WalkLawsBesides
import Derived.Deep.QuietTactic
import Derived.BigQuiet
namespace Go.Proofs.Ythpagbfabpfngaa
open Go.RowKit

def updI (c : Nat → Int) (n : Nat) (v : Int) : Nat → Int := fun i => if i = n then v else c i
/-- The cells of a queue: how it is, the messages, how many, how many were dropped. -/
def ql (c p : Int) (g : Nat → Int) (m : Nat) (d : Int) : List Value := .int .i64 c :: .int .i64 p :: ((List.range 16).map (fun i => .int .i64 (g i)) ++ [.int .i64 m, .int .i64 d])
theorem ql_g (c p : Int) (g : Nat → Int) (m : Nat) (d : Int) (i : Nat) (hi : i < 16) : (ql c p g m d)[2 + i]? = some (.int .i64 (g i)) := by
  unfold ql
  rw [show 2 + i = i + 1 + 1 by omega, List.getElem?_cons_succ, List.getElem?_cons_succ, List.getElem?_append_left (by simpa using hi)]
  simp [hi]
theorem ql_m (c p : Int) (g : Nat → Int) (m : Nat) (d : Int) : (ql c p g m d)[18]? = some (.int .i64 m) := by
  unfold ql
  rw [List.getElem?_cons_succ, List.getElem?_cons_succ, List.getElem?_append_right (by simp)]
  simp
theorem ql_d (c p : Int) (g : Nat → Int) (m : Nat) (d : Int) : (ql c p g m d)[19]? = some (.int .i64 d) := by
  unfold ql
  rw [List.getElem?_cons_succ, List.getElem?_cons_succ, List.getElem?_append_right (by simp)]
  simp
theorem ql_len (c p : Int) (g : Nat → Int) (m : Nat) (d : Int) : (ql c p g m d).length = 20 := by unfold ql; simp
theorem ql_setG (c p : Int) (g : Nat → Int) (m : Nat) (d : Int) (k : Nat) (v : Int) (hk : k < 16) : (ql c p g m d).set (2 + k) (.int .i64 v) = ql c p (updI g k v) m d := by
  unfold ql
  rw [show 2 + k = k + 1 + 1 by omega, List.set_cons_succ, List.set_cons_succ, List.set_append_left _ _ (by simpa using hk)]
  congr 3
  apply List.ext_getElem?
  intro i
  rw [List.getElem?_set]
  by_cases e : k = i
  · subst e; simp [hk, updI]
  · rw [if_neg e]
    by_cases hi : i < 16
    · have : ¬ i = k := fun h => e h.symm
      simp [hi, updI, this]
    · simp [hi]
theorem ql_setM (c p : Int) (g : Nat → Int) (m m' : Nat) (d : Int) : (ql c p g m d).set 18 (.int .i64 m') = ql c p g m' d := by
  unfold ql
  rw [List.set_cons_succ, List.set_cons_succ, List.set_append_right _ _ (by simp)]
  simp
theorem ql_setD (c p : Int) (g : Nat → Int) (m : Nat) (d d' : Int) : (ql c p g m d).set 19 (.int .i64 d') = ql c p g m d' := by
  unfold ql
  rw [List.set_cons_succ, List.set_cons_succ, List.set_append_right _ _ (by simp)]
  simp
/-- The messages one place on. -/
def shl (g : Nat → Int) (n : Nat) : Nat → Int := fun i => if i < n then g (i + 1) else g i
def shc (g : Nat → Int) (n : Nat) : List Value := (List.range n).map fun i => .int .i64 (g (i + 1))
theorem shc_len (g : Nat → Int) (n : Nat) : (shc g n).length = n := by simp [shc]
theorem shc_at (g : Nat → Int) (n j : Nat) (v : Value) (h : (shc g n)[j]? = some v) : j < n ∧ v = .int .i64 (g (j + 1)) := by
  have hj : j < n := by have := (List.getElem?_eq_some_iff.1 h).1; rwa [shc_len] at this
  refine ⟨hj, ?_⟩
  simp [shc, hj] at h
  exact h.symm
theorem ql_shift (c p : Int) (g : Nat → Int) (m : Nat) (d : Int) (n : Nat) (hn : n < 16) :
    (ql c p g m d).take 2 ++ (shc g n ++ (ql c p g m d).drop (2 + (shc g n).length)) = ql c p (shl g n) m d := by
  rw [shc_len]
  apply List.ext_getElem?
  intro i
  have hl : (List.take 2 (ql c p g m d)).length = 2 := by rw [List.length_take, ql_len]; rfl
  rcases Nat.lt_or_ge i 2 with h | h
  · rw [List.getElem?_append_left (by rw [hl]; exact h), List.getElem?_take_of_lt h]
    match i, h with
    | 0, _ => rfl
    | 1, _ => rfl
  · obtain ⟨k, rfl⟩ : ∃ k, i = 2 + k := ⟨i - 2, by omega⟩
    rw [List.getElem?_append_right (by rw [hl]; omega), hl, show 2 + k - 2 = k by omega]
    by_cases hk : k < n
    · rw [List.getElem?_append_left (by rw [shc_len]; exact hk), ql_g _ _ _ _ _ _ (by omega)]
      simp [shc, hk, shl]
    · rw [List.getElem?_append_right (by rw [shc_len]; omega), shc_len, List.getElem?_drop, show 2 + n + (k - n) = 2 + k by omega]
      by_cases hk2 : k < 16
      · rw [ql_g _ _ _ _ _ _ hk2, ql_g _ _ _ _ _ _ hk2]
        simp [shl, hk]
      · by_cases e18 : k = 16
        · subst e18; exact (ql_m ..).trans (ql_m ..).symm
        · by_cases e19 : k = 17
          · subst e19; exact (ql_d ..).trans (ql_d ..).symm
          · rw [List.getElem?_eq_none (by rw [ql_len]; omega), List.getElem?_eq_none (by rw [ql_len]; omega)]

/-- Where a queue lies. -/
def QAt (w : World) (B : Nat) (c p : Int) (g : Nat → Int) (m : Nat) (d : Int) : Prop := w.heap[B]? = some (.cells (ql c p g m d).toArray 129 (0, 0))
section
variable {w w' : World} {B : Nat} {c p : Int} {g : Nat → Int} {m : Nat} {d : Int}
theorem QAt.lt (h : QAt w B c p g m d) : B < w.heap.size := (Array.getElem?_eq_some_iff.1 h).1
theorem QAt.keep {T : Nat → Prop} (h : QAt w B c p g m d) (hc : Ch T w w') (hT : ¬ T B) : QAt w' B c p g m d := hc.obj h hT
theorem QAt.below {n : Nat} (h : QAt w B c p g m d) (hb : Below n w w') (hn : B < n) : QAt w' B c p g m d := (hb.block B hn).trans h
theorem QAt.new (h : QAt w B c p g m d) (hb : Below w.heap.size w w') : QAt w' B c p g m d := h.below hb h.lt
theorem QAt.dn (h : QAt w B c p g m d) (n : Nat) : QAt (w.drewN n) B c p g m d := h
theorem QAt.at_ (h : QAt w B c p g m d) (j : Nat) : w.cell? ⟨B, j, none⟩ = (ql c p g m d)[j]? := by
  rw [cell_of_row w B j _ _ _ h]; simp
theorem QAt.c0 (h : QAt w B c p g m d) : w.cell? ⟨B, 0, none⟩ = some (.int .i64 c) := h.at_ 0
theorem QAt.c1 (h : QAt w B c p g m d) : w.cell? ⟨B, 1, none⟩ = some (.int .i64 p) := h.at_ 1
theorem QAt.cg (h : QAt w B c p g m d) (k : Nat) (hk : k < 16) : w.cell? ⟨B, 2 + k, none⟩ = some (.int .i64 (g k)) := (h.at_ _).trans (ql_g _ _ _ _ _ _ hk)
theorem QAt.cm (h : QAt w B c p g m d) : w.cell? ⟨B, 18, none⟩ = some (.int .i64 m) := (h.at_ _).trans (ql_m ..)
theorem QAt.cd (h : QAt w B c p g m d) : w.cell? ⟨B, 19, none⟩ = some (.int .i64 d) := (h.at_ _).trans (ql_d ..)
theorem QAt.frozen (h : QAt w B c p g m d) (l : Nat) : w.frozen? ⟨B, l, none⟩ = false := frozen_of_row w B l _ _ h
theorem QAt.setG (h : QAt w B c p g m d) (k : Nat) (v : Int) (hk : k < 16) : QAt (w.setCell ⟨B, 2 + k, none⟩ (.int .i64 v)) B c p (updI g k v) m d := by
  unfold QAt at h ⊢
  rw [heap_setCell_same w B (2 + k) _ _ _ h, List.setIfInBounds_toArray, ql_setG _ _ _ _ _ _ _ hk]
theorem QAt.setM (h : QAt w B c p g m d) (m' : Nat) : QAt (w.setCell ⟨B, 18, none⟩ (.int .i64 m')) B c p g m' d := by
  unfold QAt at h ⊢
  rw [heap_setCell_same w B 18 _ _ _ h, List.setIfInBounds_toArray, ql_setM]
theorem QAt.setD (h : QAt w B c p g m d) (d' : Int) : QAt (w.setCell ⟨B, 19, none⟩ (.int .i64 d')) B c p g m d' := by
  unfold QAt at h ⊢
  rw [heap_setCell_same w B 19 _ _ _ h, List.setIfInBounds_toArray, ql_setD]
end
theorem ch_set (w : World) (B k : Nat) (v : Value) : Ch (fun j => j = B) w (w.setCell ⟨B, k, none⟩ v) := (Ch.refl _ _).setCell _ _ (.inl rfl)
theorem ch_row (w : World) (B : Nat) (cs : Array Value) : Ch (fun j => j = B) w (w.setRow B cs) :=
  ⟨rfl, rfl, rfl, by simp [World.setRow], fun k _ hn => setRow_other w B k cs hn⟩

theorem right_any (c p : Int) (w : World) : Calls Try.prog 27 #[.agg #[.int .i64 c, .int .i64 p]] w fun e w' => e = .returned (.bool (decide (1 ≤ c ∧ c ≤ 16 ∧ 1 ≤ p ∧ p ≤ 3))) ∧ Below w.heap.size w w' := by
  have bb : Below w.heap.size w (w.alloc (.cells #[.int .i64 c, .int .i64 p] 65)) := (Below.refl _ _).alloc (Nat.le_refl _) _
  have BB := Lib.hid bb
  clear bb
  by_cases h1 : c < 1
  · rw [decide_eq_false (by omega)]
    go_enter Try.func27, Try.ntmps27
    go_wp2
    go_ret
    exact ⟨rfl, BB.out⟩
  by_cases h2 : 16 < c
  · rw [decide_eq_false (by omega)]
    go_enter Try.func27, Try.ntmps27
    go_wp2
    go_ret
    exact ⟨rfl, BB.out⟩
  by_cases e1 : p = 1
  · rw [decide_eq_true (by omega)]
    subst e1
    go_enter Try.func27, Try.ntmps27
    go_wp2
    go_ret
    exact ⟨rfl, BB.out⟩
  by_cases e2 : p = 2
  · rw [decide_eq_true (by omega)]
    subst e2
    go_enter Try.func27, Try.ntmps27
    go_wp2
    go_ret
    exact ⟨rfl, BB.out⟩
  by_cases e3 : p = 3
  · rw [decide_eq_true (by omega)]
    subst e3
    go_enter Try.func27, Try.ntmps27
    go_wp2
    go_ret
    exact ⟨rfl, BB.out⟩
  rw [decide_eq_false (by omega)]
  go_enter Try.func27, Try.ntmps27
  go_wp2
  go_ret
  exact ⟨rfl, BB.out⟩
theorem len_any {w : World} {B : Nat} {c p : Int} {g : Nat → Int} {m : Nat} {d : Int} (h : QAt w B c p g m d) :
    Calls Try.prog 35 #[.pointer (some ⟨B, 0, none⟩)] w fun e w' => e = .returned (.int .i64 (m : Nat)) ∧ w = w' := by
  have cm := h.cm
  clear h
  go_enter Try.func35, Try.ntmps35
  go_wp2
  go_ret
  exact ⟨rfl, rfl⟩
theorem dropped_any {w : World} {B : Nat} {c p : Int} {g : Nat → Int} {m : Nat} {d : Int} (h : QAt w B c p g m d) :
    Calls Try.prog 36 #[.pointer (some ⟨B, 0, none⟩)] w fun e w' => e = .returned (.int .i64 d) ∧ w = w' := by
  have cd := h.cd
  clear h
  go_enter Try.func36, Try.ntmps36
  go_wp2
  go_ret
  exact ⟨rfl, rfl⟩
theorem set_any {w : World} {B : Nat} {c p : Int} {g : Nat → Int} {m : Nat} {d : Int} (h : QAt w B c p g m d) :
    Calls Try.prog 29 #[.pointer (some ⟨B, 0, none⟩)] w fun e w' => e = .returned (.agg #[.int .i64 c, .int .i64 p]) ∧ Below w.heap.size w w' := by
  have hB := h.lt
  have c0 := (World.cell?_alloc_old w (.cells #[.int .i64 0, .int .i64 0] 65) ⟨B, 0, none⟩ (Nat.ne_of_lt hB)).trans h.c0
  have c1 := (World.cell?_alloc_old w (.cells #[.int .i64 0, .int .i64 0] 65) ⟨B, 1, none⟩ (Nat.ne_of_lt hB)).trans h.c1
  clear h hB
  go_enter Try.func29, Try.ntmps29
  go_wp2
  go_returns
  exact ⟨rfl, (Below.refl _ _).alloc (Nat.le_refl _) _⟩
theorem full_any {w : World} {B : Nat} {c p : Int} {g : Nat → Int} {m : Nat} {d : Int} (h : QAt w B c p g m d) :
    Calls Try.prog 71 #[.pointer (some ⟨B, 0, none⟩)] w fun e w' => e = .returned (.bool (decide ((m : Int) = c))) ∧ ∃ n, w' = w.drewN n := by
  have cm := h.cm
  have c0 := h.c0
  clear h
  go_enter Try.func71, Try.ntmps71
  go_wp2
  go_quiet (fail)
  go_wp2
  go_ret
  exact ⟨by congr 2, _, rfl⟩
theorem count_any {w : World} {B : Nat} {c p : Int} {g : Nat → Int} {m : Nat} {d : Int} (h : QAt w B c p g m d) (h0 : 0 ≤ d) (h1 : d ≤ 4096) :
    Calls Try.prog 73 #[.pointer (some ⟨B, 0, none⟩)] w fun e w' => e = .returned (.tuple #[]) ∧ QAt w' B c p g m (min (d + 1) 4096) ∧ Ch (fun j => j = B) w w' := by
  have cd := h.cd
  have fr := h.frozen 19
  have HQ := Lib.hid h
  clear h
  go_enter Try.func73, Try.ntmps73
  go_wp2
  all_goals
    refine ⟨rfl, .tuple #[], by simp [results, Try.results73, go_sem], rfl, ?_⟩
    exact ⟨by first | (rw [show min (d + 1) 4096 = 4096 by omega]; exact HQ.out.setD _) | (rw [show min (d + 1) 4096 = d + 1 by omega]; exact HQ.out.setD _), ch_set _ _ _ _⟩
theorem push_any {w : World} {B : Nat} {c p : Int} {g : Nat → Int} {m : Nat} {d : Int} (h : QAt w B c p g m d) (hm : m < 16) (n : Int) :
    Calls Try.prog 72 #[.pointer (some ⟨B, 0, none⟩), .int .i64 n] w fun e w' => e = .returned (.tuple #[]) ∧ QAt w' B c p (updI g m n) (m + 1) d ∧ Ch (fun j => j = B) w w' := by
  have cm := h.cm
  have fr := h.frozen (2 + m)
  have fr18 := h.frozen 18
  have cg := h.cg m hm
  have b0 : (0 : Int) ≤ (m : Int) := by omega
  have b1 : (m : Int) < 16 := by omega
  have HQ := Lib.hid h
  clear h
  go_enter Try.func72, Try.ntmps72
  go_wp2
  go_region
  have HQ1 := Lib.hid ((HQ.out.setG m n hm).dn 1)
  obtain ⟨w1, hw1⟩ : ∃ w1, w1 = (w.setCell ⟨B, 2 + m, none⟩ (.int .i64 n)).drew := ⟨_, rfl⟩
  have HC := Lib.hid (show Ch (fun j => j = B) w w1 from by rw [hw1]; exact (ch_set _ _ _ _).drew)
  have H1 := Lib.hid (show QAt w1 B c p (updI g m n) m d from by rw [hw1]; exact HQ1.out)
  rw [← hw1]
  have cm1 := H1.out.cm
  have fr1 := H1.out.frozen 18
  clear hw1 cm fr fr18 cg
  go_wp2
  refine ⟨rfl, .tuple #[], by simp [results, Try.results72, go_sem], rfl, ?_⟩
  exact ⟨H1.out.setM _, HC.out.trans (ch_set _ _ _ _)⟩
set_option maxHeartbeats 1000000 in
set_option maxRecDepth 100000 in
theorem shift_any {w : World} {B : Nat} {c p : Int} {g : Nat → Int} {n : Nat} {d : Int} (h : QAt w B c p g (n + 1) d) (hn : n < 16) :
    Calls Try.prog 68 #[.pointer (some ⟨B, 0, none⟩)] w fun e w' => e = .returned (.tuple #[]) ∧ QAt w' B c p (shl g n) n d ∧ Ch (fun j => j = B) w w' := by
  have cm := h.cm
  have hsz : (Try.prog.info? 3).map (·.size) = some 1 := by kernel_rfl
  have HN := Lib.hid (shc_len g n)
  have HS := Lib.hid (show ∀ j v, (shc g n)[j]? = some v → w.drew.cell? ((⟨B, 3, none⟩ : Addr).add j) = some v from fun j v hv => by
    obtain ⟨hj, rfl⟩ := shc_at _ _ _ _ hv
    have := h.cg (j + 1) (by omega)
    rw [show 2 + (j + 1) = 3 + j by omega] at this
    rw [Addr.add_lit]
    exact this)
  have HF := Lib.hid (show 2 + (shc g n).length ≤ (ql c p g (n + 1) d).toArray.size from by rw [shc_len]; simp [ql_len]; omega)
  have HO := Lib.hid (show ∀ v ∈ shc g n, v.oneCell' = true from fun v hv => by simp [shc] at hv; obtain ⟨_, _, rfl⟩ := hv; rfl)
  have b0 : (1 : Int) ≤ (n : Int) + 1 := by omega
  have b1 : (n : Int) + 1 ≤ 16 := by omega
  have HM := Lib.hid (show (shc g n).length = Nat.min n 16 from by rw [shc_len]; exact (Nat.min_eq_left (by omega)).symm)
  have HQ := Lib.hid h
  clear h
  go_enter Try.func68, Try.ntmps68
  go_wp2
  go_still_tail 12, (by kernel_rfl)
  refine wpList_copy_own (by rfl) (.tmp 5) (.tmp 13) 25 25 (by rfl) 3 Try.underlying25 hsz B 2 16 16 ⟨B, 3, none⟩ n 15 (by rfl) (by rfl) (ql c p g (n + 1) d).toArray 129 (by exact HQ.out) (shc g n) HM.out (by exact HS.out) HF.out HO.out ?_
  generalize hw1 : World.setRow _ _ _ = w1
  have H1 := Lib.hid (show QAt w1 B c p (shl g n) (n + 1) d ∧ Ch (fun j => j = B) w w1 from by
    rw [← hw1]
    refine ⟨?_, ((Ch.refl _ w).drew).trans (ch_row w.drew _ _)⟩
    have := ql_shift c p g (n + 1) d n hn
    simp only []
    rw [this]
    exact setRow_heap w.drew B _ _ _ (0, 0) HQ.out)
  have cm1 := H1.out.1.cm
  have fr1 := H1.out.1.frozen 18
  have e1 : (((n + 1 : Nat) : Int) - 1) = (n : Nat) := by omega
  clear hw1 cm
  go_wp2
  refine ⟨rfl, .tuple #[], by simp [results, Try.results68, go_sem], rfl, ?_⟩
  exact ⟨H1.out.1.setM _, H1.out.2.trans (ch_set _ _ _ _)⟩
end Go.Proofs.Ythpagbfabpfngaa
