/- Several texts in one: Inv, HA, HB, HC. -/
import Derived.OrdersHeld
import Derived.Deep.RegionHeld
import Derived.WalkKit
import Derived.ProofKit
import Derived.Test.YthpagbfabpfngaaPk03
import Derived.Test.YthpagbfabpfngaaPk02
import Derived.LoopTactic
import Derived.RegionTactic
import Derived.Deep.LoopGhost
import Derived.Deep.RegionWith
import Derived.Lib.Hide
import Derived.Handy
import Derived.IntWalk
import Derived.Deep.MidRow
import Derived.Laws.CopyOwn
import Derived.Laws.ResultCell
import Derived.Deep.RegionHeld3
import Derived.StillTail
import Derived.StillTactics
import Derived.StillTailTactics
import Derived.Deep.CutRange
import Derived.Deep.CutBlock
import Derived.Deep.DeepMust
/- A plain law of this prover's own: a region that draws its order, walked by a condition on what has come up, on the activation and on the world, which each operation keeps whichever came ahead of it. No statement about the program. -/
namespace Go.Proofs.Ythpagbfabpfngaa
open Go.RowKit

section
variable {P : Program} {ops : Array Oper} {Q : Exit → Act → World → Prop} {md : Region.Mode}
/-- What has come up, and one more. -/
def putD (d : Nat → Bool) (i : Nat) : Nat → Bool := fun j => if j = i then true else d j
def dOf (listed : Array Bool) : Nat → Bool := fun j => listed.getD j false
theorem dOf_set (listed : Array Bool) (i : Nat) (hi : i < listed.size) : dOf (listed.setIfInBounds i true) = putD (dOf listed) i := by
  funext j
  unfold dOf putD
  by_cases e : j = i
  · subst e; simp [hi]
  · rw [if_neg e, getD_set_ne false (fun h => e h.symm)]
/-- Does each operation wait for earlier ones alone? -/
def aheadB (md : Region.Mode) (ops : Array Oper) : Bool := (List.range ops.size).all fun j => match ops[j]? with
  | some o => o.after.toList.all fun e => !Region.binds md e || Nat.blt e.on j
  | none => true
theorem ahead_spec (h : aheadB md ops = true) {j : Nat} {o : Oper} (ho : ops[j]? = some o) : ∀ e ∈ o.after, Region.binds md e = true → e.on < j := by
  intro e he hb
  have hj := (Array.getElem?_eq_some_iff.1 ho).1
  unfold aheadB at h
  rw [List.all_eq_true] at h
  have := h j (List.mem_range.2 hj)
  rw [ho] at this
  simp only [List.all_eq_true] at this
  have := this e (by simpa using he)
  rw [hb] at this
  simpa using this
theorem all_up (h : aheadB md ops = true) {listed : Array Bool} (hs : listed.size = ops.size) (hr : Region.ready md ops listed = []) : ∀ j, j < ops.size → dOf listed j = true := by
  intro j
  induction j using Nat.strongRecOn with
  | _ j ih =>
    intro hj
    cases hd : dOf listed j
    · have hm : j ∈ Region.ready md ops listed := by
        refine mem_ready.2 ⟨?_, ops[j], Array.getElem?_eq_getElem hj, fun e he hb => ?_⟩
        · unfold dOf at hd
          have : j < listed.size := by omega
          simpa [this] using hd
        · have := ahead_spec h (Array.getElem?_eq_getElem hj) e he hb
          exact ih e.on this (by omega)
      rw [hr] at hm; cases hm
    · rfl
theorem count_set : ∀ (l : List Bool) (i : Nat), l[i]? = some false → (l.set i true).count false + 1 = l.count false
  | [], i, h => by simp at h
  | a :: l, 0, h => by simp at h; subst h; simp
  | a :: l, i + 1, h => by
    have := count_set l i (by simpa using h)
    simp only [List.set_cons_succ, List.count_cons]
    omega
theorem wpAny_inv (I : (Nat → Bool) → Act → World → Prop) (hb : aheadB md ops = true)
    (hdone : ∀ d a w, (∀ j, j < ops.size → d j = true) → I d a w → Q .normal a w)
    (hstep : ∀ i o d a w, ops[i]? = some o → I d a w → d i = false → (∀ e ∈ o.after, Region.binds md e = true → d e.on = true) →
      ∀ K' : Act → World → Prop, Shut (∀ a w, I (putD d i) a w → K' a w) → if Region.wanted o (yielded ops a.tmps) = true then Oper.wp P o a w K' Q else K' (a.put o.dst undef) w) :
    ∀ (fuel : Nat) (listed : Array Bool) (a : Act) (w : World), listed.size = ops.size → listed.toList.count false = fuel → I (dOf listed) a w → wpAny P md ops Q fuel listed a w := by
  intro fuel
  induction fuel with
  | zero =>
    intro listed a w hs hc hI
    have hr : Region.ready md ops listed = [] := by
      rw [List.eq_nil_iff_forall_not_mem]
      intro j hj
      obtain ⟨h1, o, ho, _⟩ := mem_ready.1 hj
      have hjs : j < listed.size := by rw [hs]; exact (Array.getElem?_eq_some_iff.1 ho).1
      have h2 : listed[j] = false := by simpa [hjs] using h1
      have : false ∈ listed.toList := by rw [← h2]; simp
      have := List.count_pos_iff.2 this
      omega
    exact ⟨hr, hdone _ a w (all_up hb hs hr) hI⟩
  | succ fuel ih =>
    intro listed a w hs hc hI
    refine ⟨fun hr => hdone _ a w (all_up hb hs hr) hI, fun i hi => ?_⟩
    obtain ⟨h1, o, ho, hall⟩ := mem_ready.1 hi
    have his : i < listed.size := by rw [hs]; exact (Array.getElem?_eq_some_iff.1 ho).1
    refine wpOp_step ho fun K' hK => hstep i o _ a w ho hI (by unfold dOf; simpa [his] using h1) hall K' (fun a w hI' => hK a w (ih _ a w (by simpa using hs) ?_ (by rw [dOf_set _ _ his]; exact hI')))
    have h2 : listed.toList[i]? = some false := by
      have : listed[i] = false := by simpa [his] using h1
      simp [his, this]
    have := count_set listed.toList i h2
    rw [Array.toList_setIfInBounds]
    omega
theorem wp_region_inv {id : Nat} {a : Act} {w : World} (I : (Nat → Bool) → Act → World → Prop) (hm : P.follows .mixedOrders = true) (hb : aheadB .any ops = true) (h0 : I (fun _ => false) a w.drew)
    (hdone : ∀ d a w, (∀ j, j < ops.size → d j = true) → I d a w → Q .normal a w)
    (hstep : ∀ i o d a w, ops[i]? = some o → I d a w → d i = false → (∀ e ∈ o.after, Region.binds .any e = true → d e.on = true) →
      ∀ K' : Act → World → Prop, Shut (∀ a w, I (putD d i) a w → K' a w) → if Region.wanted o (yielded ops a.tmps) = true then Oper.wp P o a w K' Q else K' (a.put o.dst undef) w) :
    (Code.region id ops true).wp P Q a w := by
  refine wp_region_any hm (wpAny_inv I hb hdone hstep ops.size _ a w.drew (by simp) (by simp) ?_)
  have : dOf (Array.replicate ops.size false) = fun _ => false := by
    funext j
    unfold dOf
    by_cases e : j < ops.size <;> simp [e]
  rw [this]
  exact h0
end
end Go.Proofs.Ythpagbfabpfngaa
/- The contracts of pair's functions and of ref05's Other; where a header's words lie; the contract of filled. -/
namespace Go.Proofs.Ythpagbfabpfngaa
open Go.RowKit

theorem refother_any (x : BitVec 32) (w : World) : Calls Try.prog 118 #[.int .u32 (w32 x)] w fun e w' => e = .returned (.int .u32 (w32 (~~~x))) ∧ w = w' := by
  rw [← other_int x]
  go_enter Try.func118, Try.ntmps118
  go_wp2
  go_ret
  exact ⟨rfl, rfl⟩
theorem pof_any (x : BitVec 32) (w : World) : Calls Try.prog 111 #[.int .u32 (w32 x)] w fun e w' => e = .returned (.agg #[.int .u32 (w32 x), .int .u32 (w32 (~~~x))]) ∧ w' = w.alloc (.cells #[.int .u32 (w32 x), .int .u32 (w32 (~~~x))] 152) := by
  have hn := not32 x
  go_enter Try.func111, Try.ntmps111
  go_wp2
  go_returns
  exact ⟨rfl, rfl⟩
set_option maxHeartbeats 2000000 in
theorem pis_any (x y z : BitVec 32) (w : World) : Calls Try.prog 89 #[.agg #[.int .u32 (w32 x), .int .u32 (w32 y)], .int .u32 (w32 z)] w fun e w' => e = .returned (.bool (x == z && y == ~~~z)) ∧ Below w.heap.size w w' := by
  have e1 : (x == z) = (w32 x == w32 z) := by rw [Bool.eq_iff_iff, beq_iff_eq, beq_iff_eq, w32_inj]
  have e2 : (y == ~~~z) = (w32 y == w32 (~~~z)) := by rw [Bool.eq_iff_iff, beq_iff_eq, beq_iff_eq, w32_inj]
  rw [e1, e2]
  clear e1 e2
  have bb : Below w.heap.size w ((w.alloc (.cells #[.int .u32 (w32 x), .int .u32 (w32 y)] 152)).alloc (.cells #[.int .u32 (w32 z), .int .u32 (w32 (~~~z))] 152)) := ((Below.refl _ _).alloc (Nat.le_refl _) _).alloc (by simp) _
  have BB := Lib.hid bb
  clear bb
  cases h1 : (w32 x == w32 z) <;> cases h2 : (w32 y == w32 (~~~z))
  all_goals
    go_enter Try.func89, Try.ntmps89
    go_wp2
    go_region_with (go_at_call 111; refine (pof_any _ _).mono ?_; rintro e w' ⟨rfl, rfl⟩)
    all_goals go_wp2
    all_goals go_ret
    all_goals exact ⟨rfl, BB.out.drew⟩
theorem pright_any (x y : BitVec 32) (w : World) : Calls Try.prog 110 #[.agg #[.int .u32 (w32 x), .int .u32 (w32 y)]] w fun e w' => e = .returned (.bool (y == ~~~x)) ∧ Below w.heap.size w w' := by
  have HI := fun w => Lib.hid (pis_any x y x w)
  simp only [beq_self_eq_true, Bool.true_and] at HI
  have bb : Below w.heap.size w (w.alloc (.cells #[.int .u32 (w32 x), .int .u32 (w32 y)] 152)) := (Below.refl _ _).alloc (Nat.le_refl _) _
  have BB := Lib.hid bb
  clear bb
  go_enter Try.func110, Try.ntmps110
  go_wp2_with (go_at_call 89; refine (HI _).out.mono ?_; rintro e w' ⟨rfl, hb⟩; have B2 := Lib.hid (BB.out.trans (hb.mono BB.out.size)); clear hb)
  go_ret
  exact ⟨rfl, B2.out⟩

/-- A header's words. -/
def hs (H : Nat → BitVec 32) : List Value := (List.range 13).map fun i => .int .u32 (w32 (H i))
theorem hs_len (H : Nat → BitVec 32) : (hs H).length = 13 := by unfold hs; simp
theorem hs_at (H : Nat → BitVec 32) (l : Nat) (hl : l < 13) : (hs H)[l]? = some (.int .u32 (w32 (H l))) := by
  unfold hs; simp [hl]
theorem hs_congr {H G : Nat → BitVec 32} (h : ∀ i, i < 13 → H i = G i) : hs H = hs G := by
  unfold hs
  refine List.map_congr_left fun i hi => ?_
  rw [h i (by simpa using hi)]
theorem hs_one (H : Nat → BitVec 32) : ∀ v ∈ hs H, v.oneCell' = true := by
  intro v hv
  unfold hs at hv
  obtain ⟨i, _, rfl⟩ := List.mem_map.1 hv
  rfl
def updB (c : Nat → BitVec 32) (n : Nat) (v : BitVec 32) : Nat → BitVec 32 := fun i => if i = n then v else c i
theorem hs_set (c : Nat → BitVec 32) (n : Nat) (v : BitVec 32) (hn : n < 13) : (hs c).toArray.setIfInBounds n (.int .u32 (w32 v)) = (hs (updB c n v)).toArray := by
  apply Array.ext_getElem?
  intro i
  rw [Array.getElem?_setIfInBounds]
  by_cases e : n = i
  · subst e
    rw [if_pos rfl, if_pos (by simp [hs_len]; omega)]
    simp only [List.getElem?_toArray]
    rw [hs_at _ n hn]
    simp [updB]
  · rw [if_neg e]
    simp only [List.getElem?_toArray]
    unfold hs
    rw [List.getElem?_map, List.getElem?_map]
    by_cases hi : i < 13
    · have : ¬ i = n := fun h => e h.symm
      simp [hi, updB, this]
    · simp [hi]
/-- Where a header's words lie. -/
def HAt (w : World) (B : Nat) (c : Nat → BitVec 32) : Prop := w.heap[B]? = some (.cells (hs c).toArray 147 (0, 0))
section
variable {w w' : World} {B : Nat} {c : Nat → BitVec 32}
theorem HAt.lt (h : HAt w B c) : B < w.heap.size := (Array.getElem?_eq_some_iff.1 h).1
theorem HAt.keep {T : Nat → Prop} (h : HAt w B c) (hc : Ch T w w') (hT : ¬ T B) : HAt w' B c := hc.obj h hT
theorem HAt.below {n : Nat} (h : HAt w B c) (hb : Below n w w') (hn : B < n) : HAt w' B c := (hb.block B hn).trans h
theorem HAt.cell (h : HAt w B c) (l : Nat) (hl : l < 13) : w.cell? ⟨B, l, none⟩ = some (.int .u32 (w32 (c l))) := by
  rw [cell_of_row w B l _ _ _ h]; simpa using hs_at c l hl
theorem HAt.frozen (h : HAt w B c) (l : Nat) : w.frozen? ⟨B, l, none⟩ = false := frozen_of_row w B l _ _ h
theorem HAt.set_ (h : HAt w B c) (l : Nat) (v : BitVec 32) (hl : l < 13) : HAt (w.setCell ⟨B, l, none⟩ (.int .u32 (w32 v))) B (updB c l v) := by
  unfold HAt at h ⊢
  rw [heap_setCell_same w B l _ _ _ h, hs_set c l v hl]
theorem HAt.congr {G : Nat → BitVec 32} (h : HAt w B c) (e : ∀ i, i < 13 → c i = G i) : HAt w B G := by unfold HAt at h ⊢; rw [← hs_congr e]; exact h
end
theorem info73 : (Try.prog.info? 147).map (·.size) = some 13 := by kernel_rfl
theorem size25 : (Try.prog.info? 26).map (·.size) = some 1 := by kernel_rfl
def z13 : Nat → BitVec 32 := fun _ => 0#32
theorem hs_zero : (hs z13).toArray = #[.int .u32 0, .int .u32 0, .int .u32 0, .int .u32 0, .int .u32 0, .int .u32 0, .int .u32 0, .int .u32 0, .int .u32 0, .int .u32 0, .int .u32 0, .int .u32 0, .int .u32 0] := by kernel_rfl
theorem HAt.new (w : World) (c : Nat → BitVec 32) : HAt (w.alloc (.cells (hs c).toArray 147)) w.heap.size c := heap_alloc_new w _

/-- Where a slice's words lie. -/
structure Ws (w : World) (sp : Option Addr) (b off n : Nat) (l : Nat → BitVec 32) : Prop where
  sp : 0 < n → sp = some ⟨b, off, none⟩ ∧ b < w.heap.size
  cell : ∀ k, k < n → w.cell? ⟨b, off + k, none⟩ = some (.int .u32 (w32 (l k)))
theorem Ws.below {w w' : World} {sp : Option Addr} {b off n m : Nat} {l : Nat → BitVec 32} (h : Ws w sp b off n l) (hb : Below m w w') (hm : 0 < n → b < m) : Ws w' sp b off n l :=
  ⟨fun h0 => ⟨(h.sp h0).1, Nat.lt_of_lt_of_le (h.sp h0).2 hb.size⟩, fun k hk => by rw [hb.cell (p := ⟨b, off + k, none⟩) (hm (by omega))]; exact h.cell k hk⟩
theorem Ws.new {w w' : World} {sp : Option Addr} {b off n : Nat} {l : Nat → BitVec 32} (h : Ws w sp b off n l) (hb : Below w.heap.size w w') : Ws w' sp b off n l := h.below hb fun h0 => (h.sp h0).2
/-- A word; what is missing is blank. -/
def atW (n : Nat) (l : Nat → BitVec 32) (i : Nat) : BitVec 32 := if i < n then l i else BitVec.allOnes 32
theorem w32_ones : w32 (BitVec.allOnes 32) = 4294967295 := by decide
/-- What filled's words are behind so many rounds. -/
def fillW (m : Nat) (l : Nat → BitVec 32) (k i : Nat) : BitVec 32 := if i < m then l i else if i < m + k then BitVec.allOnes 32 else 0#32
theorem splice_hs (m : Nat) (l : Nat → BitVec 32) (hm : m ≤ 13) : splice (hs z13) 0 ((List.range m).map fun i => Value.int .u32 (w32 (l i))) = hs (fillW m l 0) := by
  apply List.ext_getElem?
  intro i
  unfold splice
  simp only [List.take_zero, List.nil_append, List.length_map, List.length_range, Nat.zero_add]
  by_cases h : i < m
  · rw [List.getElem?_append_left (by simpa using h), hs_at _ i (by omega)]
    simp [fillW, h]
  · rw [List.getElem?_append_right (by simpa using h)]
    simp only [List.length_map, List.length_range, List.getElem?_drop]
    rw [show m + (i - m) = i by omega]
    by_cases h2 : i < 13
    · rw [hs_at _ i h2, hs_at _ i h2]
      simp [fillW, h, z13]
    · rw [List.getElem?_eq_none (by rw [hs_len]; omega), List.getElem?_eq_none (by rw [hs_len]; omega)]
theorem fillW_succ (m k : Nat) (l : Nat → BitVec 32) : updB (fillW m l k) (m + k) (BitVec.allOnes 32) = fillW m l (k + 1) := by
  funext i
  unfold updB fillW
  by_cases e : i = m + k
  · subst e
    rw [if_pos rfl, if_neg (by omega), if_pos (by omega)]
  · rw [if_neg e]
    by_cases h : i < m
    · rw [if_pos h, if_pos h]
    · rw [if_neg h, if_neg h]
      by_cases h2 : i < m + k
      · rw [if_pos h2, if_pos (by omega)]
      · rw [if_neg h2, if_neg (by omega)]
theorem fillW_all (n : Nat) (l : Nat → BitVec 32) (i : Nat) (hi : i < 13) : fillW (Nat.min n 13) l (13 - Nat.min n 13) i = atW n l i := by
  unfold fillW atW
  have h : Nat.min n 13 = min n 13 := rfl
  rw [h]
  by_cases h1 : i < n
  · rw [if_pos (by omega), if_pos h1]
  · rw [if_neg (by omega), if_neg h1, if_pos (by omega)]
end Go.Proofs.Ythpagbfabpfngaa
/- The contracts of filled, pairAt and trials. -/
namespace Go.Proofs.Ythpagbfabpfngaa
open Go.RowKit

set_option maxHeartbeats 2000000 in
set_option maxRecDepth 100000 in
theorem filled_any (n b off cap : Nat) (sp : Option Addr) (l : Nat → BitVec 32) (w : World) (hn : n ≤ 9223372036854775807) (h : Ws w sp b off n l) :
    Calls Try.prog 86 #[.slice sp n cap] w fun e w' => e = .returned (.agg (hs (atW n l)).toArray) ∧ Below w.heap.size w w' := by
  obtain ⟨m, hm⟩ : ∃ m, Nat.min n 13 = m := ⟨_, rfl⟩
  have hm1 : m ≤ 13 ∧ m ≤ n := by have : min n 13 = m := hm; omega
  obtain ⟨r, hr⟩ : ∃ r, r = w.heap.size := ⟨_, rfl⟩
  obtain ⟨w1, hw1⟩ : ∃ w1, w1 = w.alloc (.cells #[.int .u32 0, .int .u32 0, .int .u32 0, .int .u32 0, .int .u32 0, .int .u32 0, .int .u32 0, .int .u32 0, .int .u32 0, .int .u32 0, .int .u32 0, .int .u32 0, .int .u32 0] 147) := ⟨_, rfl⟩
  obtain ⟨w2, hw2⟩ : ∃ w2, w2 = w1.alloc (.cells #[.int .u32 0, .int .u32 0, .int .u32 0, .int .u32 0, .int .u32 0, .int .u32 0, .int .u32 0, .int .u32 0, .int .u32 0, .int .u32 0, .int .u32 0, .int .u32 0, .int .u32 0] 147) := ⟨_, rfl⟩
  have s1 : w1.heap.size = r + 1 := by rw [hw1, hr]; simp
  have z1 : HAt w1 r z13 := by unfold HAt; rw [hs_zero, hw1, hr]; exact heap_alloc_new w _
  have z2 : HAt w2 (r + 1) z13 := by unfold HAt; rw [hs_zero, hw2, ← s1]; exact heap_alloc_new w1 _
  have z3 : HAt w2 r z13 := by rw [hw2]; exact z1.below ((Below.refl w1.heap.size w1).alloc (Nat.le_refl _) _) (by omega)
  have b2 : Below r w w2 := by rw [hw2, hw1, hr]; exact ((Below.refl _ _).alloc (Nat.le_refl _) _).alloc (by simp) _
  have hwz : Ws w2 sp b off n l := h.below b2 (fun h0 => by rw [hr]; exact (h.sp h0).2)
  have HCS := Lib.hid (show ((List.range m).map fun i => Value.int .u32 (w32 (l i))).length = Nat.min n 13 by rw [hm]; simp)
  have HPOS := Lib.hid (show 0 < ((List.range m).map fun i => Value.int .u32 (w32 (l i))).length → (some ⟨r + 1, 0, none⟩ : Option Addr) = some ⟨r + 1, 0, none⟩ ∧ ∃ ad, sp = some ad ∧ ∀ j v, ((List.range m).map fun i => Value.int .u32 (w32 (l i)))[j]? = some v → w2.cell? (ad.add j) = some v from fun h0 => by
    have hp : 0 < n := by simp at h0; omega
    refine ⟨rfl, _, (hwz.sp hp).1, fun j v hv => ?_⟩
    have hj : j < m := by have := (List.getElem?_eq_some_iff.1 hv).1; simpa using this
    rw [Addr.add_lit, hwz.cell j (by omega), ← hv]
    simp [hj])
  have HFIT := Lib.hid (show 0 + ((List.range m).map fun i => Value.int .u32 (w32 (l i))).length ≤ (hs z13).length by rw [hs_len]; simp; omega)
  have H1C := Lib.hid (show ∀ v ∈ ((List.range m).map fun i => Value.int .u32 (w32 (l i))), v.oneCell' = true by
    intro v hv
    obtain ⟨i, _, rfl⟩ := List.mem_map.1 hv
    rfl)
  have HSP := Lib.hid (splice_hs m l hm1.1)
  have hcl : ((List.range m).map fun i => Value.int .u32 (w32 (l i))).length = m := by simp
  obtain ⟨cs, hcs⟩ : ∃ cs, cs = ((List.range m).map fun i => Value.int .u32 (w32 (l i))) := ⟨_, rfl⟩
  rw [← hcs] at HCS HPOS HFIT H1C HSP hcl
  have HZh := Lib.hid (show w2.heap[r + 1]? = some (.cells (hs z13).toArray 147 (0, 0)) from z2)
  have HZ := Lib.hid (And.intro z2 (And.intro z3 (And.intro b2 hr)))
  have HM := Lib.hid hm
  have hsz := size25
  have hm3 : (m : Int) ≤ 13 := by omega
  have hm0 : (0 : Int) ≤ (m : Int) := by omega
  clear hm z1 z2 z3 b2 hwz hcs h
  by_cases e13 : m = 13
  · subst e13
    go_enter Try.func86, Try.ntmps86
    go_upto_region 2 with fail
    rw [← hw1, ← hw2, ← hr]
    clear hw1 hw2 hr s1
    go_wp2_with (first
      | (with_reducible refine wpList_copy_splice rfl (.tmp 6) (.tmp 7) 24 24 rfl 26 Try.underlying24 hsz _ _ _ _ _ _ rfl rfl (r + 1) 0 (hs z13) 147 HZh.out cs HCS.out HPOS.out HFIT.out H1C.out (r + 1) w2 (Below.refl _ _) (Nat.le_refl _) ?_; intro w4 hg4 hb4)
      | fail)
    · have H4 := Lib.hid (show HAt w4 (r + 1) (fillW 13 l 0) ∧ HAt w4 r z13 ∧ Below r w w4 from ⟨by unfold HAt; rw [← HSP.out]; exact hg4.out, HZ.out.2.1.below hb4 (by omega), HZ.out.2.2.1.trans (hb4.mono (by omega))⟩)
      clear hg4 hb4 HPOS HCS HFIT H1C HSP hcl
      go_loopg [12] (13 - 13) (fun g i wr => ∃ (k : Nat), k + g = 13 - 13 ∧ i = .int .i64 k ∧ Aside (HAt wr (r + 1) (fillW 13 l k) ∧ HAt wr r z13 ∧ Below r w wr))
      case atStart => exact ⟨0, by omega, rfl, H4.out⟩
      case round =>
        obtain ⟨k, hkg, rfl, HR⟩ := hrel
        cases gk with
        | zero =>
          have HE := Lib.hid (show HAt wr (r + 1) (atW n l) from HR.out.1.congr (fun i hi => by rw [← fillW_all n l i hi, HM.out, show 13 - 13 = k by omega]))
          have hge : (0 : Int) ≤ (k : Int) := by omega
          have hge2 : 13 - 13 ≤ k := by omega
          go_wp2_with (first
            | (refine wpList_load_row rfl 147 (.tmp 3) rfl (r + 1) rfl 147 (hs (atW n l)).toArray (0, 0) _ HE.out Try.underlying147 rfl (by rw [info73]; simp [hs_len]) ?_)
            | (refine wpList_store_row rfl 147 (.tmp 2) (.tmp 20) rfl r (hs (atW n l)).toArray rfl rfl 147 _ HR.out.2.1 (by rw [info73]; simp [hs_len]) (by simp [hs_len]) (all_oneCell_toArray (hs_one _)) ?_))
          refine bodyPost_ret (results_cell_row rfl _ _ r 147 (hs (atW n l)).toArray (0, 0) _ rfl (setRow_heap _ _ _ _ 147 (0, 0) HR.out.2.1) Try.underlying147 rfl (by rw [info73]; simp [hs_len])) rfl ?_
          refine ⟨rfl, ?_⟩
          rw [← HZ.out.2.2.2]
          exact below_setRow HR.out.2.2 (Nat.le_refl _) _
        | succ g1 => exact absurd hkg (by omega)
  have h13 : ¬ 13 = m := fun e => e13 e.symm
  clear e13
  go_enter Try.func86, Try.ntmps86
  go_upto_region 2 with fail
  rw [← hw1, ← hw2, ← hr]
  clear hw1 hw2 hr s1
  go_wp2_with (first
    | (with_reducible refine wpList_copy_splice rfl (.tmp 6) (.tmp 7) 24 24 rfl 26 Try.underlying24 hsz _ _ _ _ _ _ rfl rfl (r + 1) 0 (hs z13) 147 HZh.out cs HCS.out HPOS.out HFIT.out H1C.out (r + 1) w2 (Below.refl _ _) (Nat.le_refl _) ?_; intro w4 hg4 hb4)
    | fail)
  · have H4 := Lib.hid (show HAt w4 (r + 1) (fillW m l 0) ∧ HAt w4 r z13 ∧ Below r w w4 from ⟨by unfold HAt; rw [← HSP.out]; exact hg4.out, HZ.out.2.1.below hb4 (by omega), HZ.out.2.2.1.trans (hb4.mono (by omega))⟩)
    clear hg4 hb4 HPOS HCS HFIT H1C HSP hcl
    go_loopg [12] (13 - m) (fun g i wr => ∃ (k : Nat), k + g = 13 - m ∧ i = .int .i64 k ∧ Aside (HAt wr (r + 1) (fillW m l k) ∧ HAt wr r z13 ∧ Below r w wr))
    case atStart => exact ⟨0, by omega, rfl, H4.out⟩
    case round =>
      obtain ⟨k, hkg, rfl, HR⟩ := hrel
      cases gk with
      | zero =>
        have HE := Lib.hid (show HAt wr (r + 1) (atW n l) from HR.out.1.congr (fun i hi => by rw [← fillW_all n l i hi, HM.out, show 13 - m = k by omega]))
        have hge : (13 : Int) - m ≤ (k : Int) := by omega
        have hge2 : 13 - m ≤ k := by omega
        go_wp2_with (first
          | (refine wpList_load_row rfl 147 (.tmp 3) rfl (r + 1) rfl 147 (hs (atW n l)).toArray (0, 0) _ HE.out Try.underlying147 rfl (by rw [info73]; simp [hs_len]) ?_)
          | (refine wpList_store_row rfl 147 (.tmp 2) (.tmp 20) rfl r (hs (atW n l)).toArray rfl rfl 147 _ HR.out.2.1 (by rw [info73]; simp [hs_len]) (by simp [hs_len]) (all_oneCell_toArray (hs_one _)) ?_))
        refine bodyPost_ret (results_cell_row rfl _ _ r 147 (hs (atW n l)).toArray (0, 0) _ rfl (setRow_heap _ _ _ _ 147 (0, 0) HR.out.2.1) Try.underlying147 rfl (by rw [info73]; simp [hs_len])) rfl ?_
        refine ⟨rfl, ?_⟩
        rw [← HZ.out.2.2.2]
        exact below_setRow HR.out.2.2 (Nat.le_refl _) _
      | succ g1 =>
        have hc := HR.out.1.cell (m + k) (by omega)
        have hf := HR.out.1.frozen (m + k)
        have hlt : k < 13 - m := by omega
        have hi13 : m + k < 13 := by omega
        have hw : IntKind.i64.wrap ((m : Int) + (k : Int)) = ((m + k : Nat) : Int) := by rw [IntKind.wrap_i64]; omega
        go_wp2
        go_roundg g1
        case measure => omega
        case rel =>
          refine ⟨k + 1, by omega, by go_num, ?_, ?_, ?_⟩
          · rw [← fillW_succ, ← w32_ones]
            exact HR.out.1.set_ (m + k) _ (by omega)
          · exact HR.out.2.1.keep ((Ch.refl (fun j => j = r + 1) _).setCell ⟨r + 1, m + k, none⟩ _ (.inl rfl)) (by omega)
          · exact HR.out.2.2.setCell (Nat.le_succ r) _
end Go.Proofs.Ythpagbfabpfngaa
/- The contracts of pairAt, trials and NextTrial. -/
namespace Go.Proofs.Ythpagbfabpfngaa
open Go.RowKit

set_option maxHeartbeats 1000000 in
theorem pairAt0 (H : Nat → BitVec 32) (w : World) : Calls Try.prog 88 #[.agg (hs H).toArray, .int .i64 0] w fun e w' => e = .returned (.agg #[.int .u32 (w32 (H 0)), .int .u32 (w32 (H 1))]) ∧ Below w.heap.size w w' := by
  obtain ⟨r, hr⟩ : ∃ r, r = w.heap.size := ⟨_, rfl⟩
  obtain ⟨w1, hw1⟩ : ∃ w1, w1 = w.alloc (.cells (hs H).toArray 147) := ⟨_, rfl⟩
  obtain ⟨w2, hw2⟩ : ∃ w2, w2 = w1.alloc (.cells #[.int .u32 0, .int .u32 0] 152) := ⟨_, rfl⟩
  have s1 : w1.heap.size = r + 1 := by rw [hw1, hr]; simp
  have z1 : HAt w1 r H := by unfold HAt; rw [hw1, hr]; exact heap_alloc_new w _
  have z2 : HAt w2 r H := by rw [hw2]; exact z1.below ((Below.refl w1.heap.size w1).alloc (Nat.le_refl _) _) (by omega)
  have x2 : BoxAt w2 (r + 1) [.int .u32 0, .int .u32 0] := by rw [hw2, ← s1]; exact BoxAt.mk_new w1 _ _
  have b2 : Below r w w2 := by rw [hw2, hw1, hr]; exact ((Below.refl _ _).alloc (Nat.le_refl _) _).alloc (by simp) _
  have c0 := z2.cell 0 (by omega)
  have c1 := z2.cell 1 (by omega)
  have d0 := x2.cell 0 _ rfl
  have d1 := x2.cell 1 _ rfl
  have f0 := x2.fr 0
  have f1 := x2.fr 1
  have HB := Lib.hid (And.intro b2 hr)
  obtain ⟨x, hx⟩ : ∃ x, w32 (H 0) = x := ⟨_, rfl⟩
  obtain ⟨y, hy⟩ : ∃ y, w32 (H 1) = y := ⟨_, rfl⟩
  rw [hx] at c0 ⊢
  rw [hy] at c1 ⊢
  have h2 : w2.heap[r + 1]? = some (.cells #[.int .u32 0, .int .u32 0] 152 (0, 0)) := by rw [hw2, ← s1]; exact heap_alloc_new w1 _
  have h3 := heap_setCell_same w2 (r + 1) 0 _ _ (.int .u32 x) h2
  have h4 := heap_setCell_same _ (r + 1) 1 _ _ (.int .u32 y) h3
  have X3 := Lib.hid h4
  clear z1 z2 x2 b2 hx hy h2 h3 h4
  have wr : IntKind.i64.wrap 1 = 1 := by decide
  go_enter Try.func88, Try.ntmps88
  go_upto_region 1 with fail
  rw [← hw1, ← hw2, ← hr]
  clear hw1 hw2 hr s1
  go_region_held3 (fun w' => w'.cell? ⟨r, 0, none⟩ = some (.int .u32 x) ∧ w'.cell? ⟨r, 1, none⟩ = some (.int .u32 y)) (first | exact ⟨c0, c1⟩ | go_keep) (fail)
  go_wp2
  have HW := Lib.hid (show Below r w ((w2.setCell ⟨r + 1, 0, none⟩ (.int .u32 x)).setCell ⟨r + 1, 1, none⟩ (.int .u32 y)).drew from ((HB.out.1.setCell (Nat.le_succ r) _).setCell (Nat.le_succ r) _).drew)
  have HX := Lib.hid (show ((w2.setCell ⟨r + 1, 0, none⟩ (.int .u32 x)).setCell ⟨r + 1, 1, none⟩ (.int .u32 y)).drew.heap[r + 1]? = some (.cells #[.int .u32 x, .int .u32 y] 152 (0, 0)) from X3.out)
  generalize ((w2.setCell ⟨r + 1, 0, none⟩ (.int .u32 x)).setCell ⟨r + 1, 1, none⟩ (.int .u32 y)).drew = w5 at HW HX ⊢
  refine bodyPost_ret (results_cell_row rfl _ _ (r + 1) 152 #[.int .u32 x, .int .u32 y] (0, 0) _ rfl HX.out Try.underlying152 rfl (by kernel_rfl)) rfl ?_
  rw [← HB.out.2]
  exact ⟨rfl, HW.out⟩
set_option maxHeartbeats 1000000 in
theorem pairAt2 (H : Nat → BitVec 32) (w : World) : Calls Try.prog 88 #[.agg (hs H).toArray, .int .i64 2] w fun e w' => e = .returned (.agg #[.int .u32 (w32 (H 2)), .int .u32 (w32 (H 3))]) ∧ Below w.heap.size w w' := by
  obtain ⟨r, hr⟩ : ∃ r, r = w.heap.size := ⟨_, rfl⟩
  obtain ⟨w1, hw1⟩ : ∃ w1, w1 = w.alloc (.cells (hs H).toArray 147) := ⟨_, rfl⟩
  obtain ⟨w2, hw2⟩ : ∃ w2, w2 = w1.alloc (.cells #[.int .u32 0, .int .u32 0] 152) := ⟨_, rfl⟩
  have s1 : w1.heap.size = r + 1 := by rw [hw1, hr]; simp
  have z1 : HAt w1 r H := by unfold HAt; rw [hw1, hr]; exact heap_alloc_new w _
  have z2 : HAt w2 r H := by rw [hw2]; exact z1.below ((Below.refl w1.heap.size w1).alloc (Nat.le_refl _) _) (by omega)
  have x2 : BoxAt w2 (r + 1) [.int .u32 0, .int .u32 0] := by rw [hw2, ← s1]; exact BoxAt.mk_new w1 _ _
  have b2 : Below r w w2 := by rw [hw2, hw1, hr]; exact ((Below.refl _ _).alloc (Nat.le_refl _) _).alloc (by simp) _
  have c0 := z2.cell 2 (by omega)
  have c1 := z2.cell 3 (by omega)
  have d0 := x2.cell 0 _ rfl
  have d1 := x2.cell 1 _ rfl
  have f0 := x2.fr 0
  have f1 := x2.fr 1
  have HB := Lib.hid (And.intro b2 hr)
  obtain ⟨x, hx⟩ : ∃ x, w32 (H 2) = x := ⟨_, rfl⟩
  obtain ⟨y, hy⟩ : ∃ y, w32 (H 3) = y := ⟨_, rfl⟩
  rw [hx] at c0 ⊢
  rw [hy] at c1 ⊢
  have h2 : w2.heap[r + 1]? = some (.cells #[.int .u32 0, .int .u32 0] 152 (0, 0)) := by rw [hw2, ← s1]; exact heap_alloc_new w1 _
  have h3 := heap_setCell_same w2 (r + 1) 0 _ _ (.int .u32 x) h2
  have h4 := heap_setCell_same _ (r + 1) 1 _ _ (.int .u32 y) h3
  have X3 := Lib.hid h4
  clear z1 z2 x2 b2 hx hy h2 h3 h4
  have wr : IntKind.i64.wrap 3 = 3 := by decide
  go_enter Try.func88, Try.ntmps88
  go_upto_region 1 with fail
  rw [← hw1, ← hw2, ← hr]
  clear hw1 hw2 hr s1
  go_region_held3 (fun w' => w'.cell? ⟨r, 2, none⟩ = some (.int .u32 x) ∧ w'.cell? ⟨r, 3, none⟩ = some (.int .u32 y)) (first | exact ⟨c0, c1⟩ | go_keep) (fail)
  go_wp2
  have HW := Lib.hid (show Below r w ((w2.setCell ⟨r + 1, 0, none⟩ (.int .u32 x)).setCell ⟨r + 1, 1, none⟩ (.int .u32 y)).drew from ((HB.out.1.setCell (Nat.le_succ r) _).setCell (Nat.le_succ r) _).drew)
  have HX := Lib.hid (show ((w2.setCell ⟨r + 1, 0, none⟩ (.int .u32 x)).setCell ⟨r + 1, 1, none⟩ (.int .u32 y)).drew.heap[r + 1]? = some (.cells #[.int .u32 x, .int .u32 y] 152 (0, 0)) from X3.out)
  generalize ((w2.setCell ⟨r + 1, 0, none⟩ (.int .u32 x)).setCell ⟨r + 1, 1, none⟩ (.int .u32 y)).drew = w5 at HW HX ⊢
  refine bodyPost_ret (results_cell_row rfl _ _ (r + 1) 152 #[.int .u32 x, .int .u32 y] (0, 0) _ rfl HX.out Try.underlying152 rfl (by kernel_rfl)) rfl ?_
  rw [← HB.out.2]
  exact ⟨rfl, HW.out⟩
set_option maxHeartbeats 1000000 in
theorem pairAt4 (H : Nat → BitVec 32) (w : World) : Calls Try.prog 88 #[.agg (hs H).toArray, .int .i64 4] w fun e w' => e = .returned (.agg #[.int .u32 (w32 (H 4)), .int .u32 (w32 (H 5))]) ∧ Below w.heap.size w w' := by
  obtain ⟨r, hr⟩ : ∃ r, r = w.heap.size := ⟨_, rfl⟩
  obtain ⟨w1, hw1⟩ : ∃ w1, w1 = w.alloc (.cells (hs H).toArray 147) := ⟨_, rfl⟩
  obtain ⟨w2, hw2⟩ : ∃ w2, w2 = w1.alloc (.cells #[.int .u32 0, .int .u32 0] 152) := ⟨_, rfl⟩
  have s1 : w1.heap.size = r + 1 := by rw [hw1, hr]; simp
  have z1 : HAt w1 r H := by unfold HAt; rw [hw1, hr]; exact heap_alloc_new w _
  have z2 : HAt w2 r H := by rw [hw2]; exact z1.below ((Below.refl w1.heap.size w1).alloc (Nat.le_refl _) _) (by omega)
  have x2 : BoxAt w2 (r + 1) [.int .u32 0, .int .u32 0] := by rw [hw2, ← s1]; exact BoxAt.mk_new w1 _ _
  have b2 : Below r w w2 := by rw [hw2, hw1, hr]; exact ((Below.refl _ _).alloc (Nat.le_refl _) _).alloc (by simp) _
  have c0 := z2.cell 4 (by omega)
  have c1 := z2.cell 5 (by omega)
  have d0 := x2.cell 0 _ rfl
  have d1 := x2.cell 1 _ rfl
  have f0 := x2.fr 0
  have f1 := x2.fr 1
  have HB := Lib.hid (And.intro b2 hr)
  obtain ⟨x, hx⟩ : ∃ x, w32 (H 4) = x := ⟨_, rfl⟩
  obtain ⟨y, hy⟩ : ∃ y, w32 (H 5) = y := ⟨_, rfl⟩
  rw [hx] at c0 ⊢
  rw [hy] at c1 ⊢
  have h2 : w2.heap[r + 1]? = some (.cells #[.int .u32 0, .int .u32 0] 152 (0, 0)) := by rw [hw2, ← s1]; exact heap_alloc_new w1 _
  have h3 := heap_setCell_same w2 (r + 1) 0 _ _ (.int .u32 x) h2
  have h4 := heap_setCell_same _ (r + 1) 1 _ _ (.int .u32 y) h3
  have X3 := Lib.hid h4
  clear z1 z2 x2 b2 hx hy h2 h3 h4
  have wr : IntKind.i64.wrap 5 = 5 := by decide
  go_enter Try.func88, Try.ntmps88
  go_upto_region 1 with fail
  rw [← hw1, ← hw2, ← hr]
  clear hw1 hw2 hr s1
  go_region_held3 (fun w' => w'.cell? ⟨r, 4, none⟩ = some (.int .u32 x) ∧ w'.cell? ⟨r, 5, none⟩ = some (.int .u32 y)) (first | exact ⟨c0, c1⟩ | go_keep) (fail)
  go_wp2
  have HW := Lib.hid (show Below r w ((w2.setCell ⟨r + 1, 0, none⟩ (.int .u32 x)).setCell ⟨r + 1, 1, none⟩ (.int .u32 y)).drew from ((HB.out.1.setCell (Nat.le_succ r) _).setCell (Nat.le_succ r) _).drew)
  have HX := Lib.hid (show ((w2.setCell ⟨r + 1, 0, none⟩ (.int .u32 x)).setCell ⟨r + 1, 1, none⟩ (.int .u32 y)).drew.heap[r + 1]? = some (.cells #[.int .u32 x, .int .u32 y] 152 (0, 0)) from X3.out)
  generalize ((w2.setCell ⟨r + 1, 0, none⟩ (.int .u32 x)).setCell ⟨r + 1, 1, none⟩ (.int .u32 y)).drew = w5 at HW HX ⊢
  refine bodyPost_ret (results_cell_row rfl _ _ (r + 1) 152 #[.int .u32 x, .int .u32 y] (0, 0) _ rfl HX.out Try.underlying152 rfl (by kernel_rfl)) rfl ?_
  rw [← HB.out.2]
  exact ⟨rfl, HW.out⟩
set_option maxHeartbeats 1000000 in
theorem pairAt6 (H : Nat → BitVec 32) (w : World) : Calls Try.prog 88 #[.agg (hs H).toArray, .int .i64 6] w fun e w' => e = .returned (.agg #[.int .u32 (w32 (H 6)), .int .u32 (w32 (H 7))]) ∧ Below w.heap.size w w' := by
  obtain ⟨r, hr⟩ : ∃ r, r = w.heap.size := ⟨_, rfl⟩
  obtain ⟨w1, hw1⟩ : ∃ w1, w1 = w.alloc (.cells (hs H).toArray 147) := ⟨_, rfl⟩
  obtain ⟨w2, hw2⟩ : ∃ w2, w2 = w1.alloc (.cells #[.int .u32 0, .int .u32 0] 152) := ⟨_, rfl⟩
  have s1 : w1.heap.size = r + 1 := by rw [hw1, hr]; simp
  have z1 : HAt w1 r H := by unfold HAt; rw [hw1, hr]; exact heap_alloc_new w _
  have z2 : HAt w2 r H := by rw [hw2]; exact z1.below ((Below.refl w1.heap.size w1).alloc (Nat.le_refl _) _) (by omega)
  have x2 : BoxAt w2 (r + 1) [.int .u32 0, .int .u32 0] := by rw [hw2, ← s1]; exact BoxAt.mk_new w1 _ _
  have b2 : Below r w w2 := by rw [hw2, hw1, hr]; exact ((Below.refl _ _).alloc (Nat.le_refl _) _).alloc (by simp) _
  have c0 := z2.cell 6 (by omega)
  have c1 := z2.cell 7 (by omega)
  have d0 := x2.cell 0 _ rfl
  have d1 := x2.cell 1 _ rfl
  have f0 := x2.fr 0
  have f1 := x2.fr 1
  have HB := Lib.hid (And.intro b2 hr)
  obtain ⟨x, hx⟩ : ∃ x, w32 (H 6) = x := ⟨_, rfl⟩
  obtain ⟨y, hy⟩ : ∃ y, w32 (H 7) = y := ⟨_, rfl⟩
  rw [hx] at c0 ⊢
  rw [hy] at c1 ⊢
  have h2 : w2.heap[r + 1]? = some (.cells #[.int .u32 0, .int .u32 0] 152 (0, 0)) := by rw [hw2, ← s1]; exact heap_alloc_new w1 _
  have h3 := heap_setCell_same w2 (r + 1) 0 _ _ (.int .u32 x) h2
  have h4 := heap_setCell_same _ (r + 1) 1 _ _ (.int .u32 y) h3
  have X3 := Lib.hid h4
  clear z1 z2 x2 b2 hx hy h2 h3 h4
  have wr : IntKind.i64.wrap 7 = 7 := by decide
  go_enter Try.func88, Try.ntmps88
  go_upto_region 1 with fail
  rw [← hw1, ← hw2, ← hr]
  clear hw1 hw2 hr s1
  go_region_held3 (fun w' => w'.cell? ⟨r, 6, none⟩ = some (.int .u32 x) ∧ w'.cell? ⟨r, 7, none⟩ = some (.int .u32 y)) (first | exact ⟨c0, c1⟩ | go_keep) (fail)
  go_wp2
  have HW := Lib.hid (show Below r w ((w2.setCell ⟨r + 1, 0, none⟩ (.int .u32 x)).setCell ⟨r + 1, 1, none⟩ (.int .u32 y)).drew from ((HB.out.1.setCell (Nat.le_succ r) _).setCell (Nat.le_succ r) _).drew)
  have HX := Lib.hid (show ((w2.setCell ⟨r + 1, 0, none⟩ (.int .u32 x)).setCell ⟨r + 1, 1, none⟩ (.int .u32 y)).drew.heap[r + 1]? = some (.cells #[.int .u32 x, .int .u32 y] 152 (0, 0)) from X3.out)
  generalize ((w2.setCell ⟨r + 1, 0, none⟩ (.int .u32 x)).setCell ⟨r + 1, 1, none⟩ (.int .u32 y)).drew = w5 at HW HX ⊢
  refine bodyPost_ret (results_cell_row rfl _ _ (r + 1) 152 #[.int .u32 x, .int .u32 y] (0, 0) _ rfl HX.out Try.underlying152 rfl (by kernel_rfl)) rfl ?_
  rw [← HB.out.2]
  exact ⟨rfl, HW.out⟩
set_option maxHeartbeats 1000000 in
theorem pairAt8 (H : Nat → BitVec 32) (w : World) : Calls Try.prog 88 #[.agg (hs H).toArray, .int .i64 8] w fun e w' => e = .returned (.agg #[.int .u32 (w32 (H 8)), .int .u32 (w32 (H 9))]) ∧ Below w.heap.size w w' := by
  obtain ⟨r, hr⟩ : ∃ r, r = w.heap.size := ⟨_, rfl⟩
  obtain ⟨w1, hw1⟩ : ∃ w1, w1 = w.alloc (.cells (hs H).toArray 147) := ⟨_, rfl⟩
  obtain ⟨w2, hw2⟩ : ∃ w2, w2 = w1.alloc (.cells #[.int .u32 0, .int .u32 0] 152) := ⟨_, rfl⟩
  have s1 : w1.heap.size = r + 1 := by rw [hw1, hr]; simp
  have z1 : HAt w1 r H := by unfold HAt; rw [hw1, hr]; exact heap_alloc_new w _
  have z2 : HAt w2 r H := by rw [hw2]; exact z1.below ((Below.refl w1.heap.size w1).alloc (Nat.le_refl _) _) (by omega)
  have x2 : BoxAt w2 (r + 1) [.int .u32 0, .int .u32 0] := by rw [hw2, ← s1]; exact BoxAt.mk_new w1 _ _
  have b2 : Below r w w2 := by rw [hw2, hw1, hr]; exact ((Below.refl _ _).alloc (Nat.le_refl _) _).alloc (by simp) _
  have c0 := z2.cell 8 (by omega)
  have c1 := z2.cell 9 (by omega)
  have d0 := x2.cell 0 _ rfl
  have d1 := x2.cell 1 _ rfl
  have f0 := x2.fr 0
  have f1 := x2.fr 1
  have HB := Lib.hid (And.intro b2 hr)
  obtain ⟨x, hx⟩ : ∃ x, w32 (H 8) = x := ⟨_, rfl⟩
  obtain ⟨y, hy⟩ : ∃ y, w32 (H 9) = y := ⟨_, rfl⟩
  rw [hx] at c0 ⊢
  rw [hy] at c1 ⊢
  have h2 : w2.heap[r + 1]? = some (.cells #[.int .u32 0, .int .u32 0] 152 (0, 0)) := by rw [hw2, ← s1]; exact heap_alloc_new w1 _
  have h3 := heap_setCell_same w2 (r + 1) 0 _ _ (.int .u32 x) h2
  have h4 := heap_setCell_same _ (r + 1) 1 _ _ (.int .u32 y) h3
  have X3 := Lib.hid h4
  clear z1 z2 x2 b2 hx hy h2 h3 h4
  have wr : IntKind.i64.wrap 9 = 9 := by decide
  go_enter Try.func88, Try.ntmps88
  go_upto_region 1 with fail
  rw [← hw1, ← hw2, ← hr]
  clear hw1 hw2 hr s1
  go_region_held3 (fun w' => w'.cell? ⟨r, 8, none⟩ = some (.int .u32 x) ∧ w'.cell? ⟨r, 9, none⟩ = some (.int .u32 y)) (first | exact ⟨c0, c1⟩ | go_keep) (fail)
  go_wp2
  have HW := Lib.hid (show Below r w ((w2.setCell ⟨r + 1, 0, none⟩ (.int .u32 x)).setCell ⟨r + 1, 1, none⟩ (.int .u32 y)).drew from ((HB.out.1.setCell (Nat.le_succ r) _).setCell (Nat.le_succ r) _).drew)
  have HX := Lib.hid (show ((w2.setCell ⟨r + 1, 0, none⟩ (.int .u32 x)).setCell ⟨r + 1, 1, none⟩ (.int .u32 y)).drew.heap[r + 1]? = some (.cells #[.int .u32 x, .int .u32 y] 152 (0, 0)) from X3.out)
  generalize ((w2.setCell ⟨r + 1, 0, none⟩ (.int .u32 x)).setCell ⟨r + 1, 1, none⟩ (.int .u32 y)).drew = w5 at HW HX ⊢
  refine bodyPost_ret (results_cell_row rfl _ _ (r + 1) 152 #[.int .u32 x, .int .u32 y] (0, 0) _ rfl HX.out Try.underlying152 rfl (by kernel_rfl)) rfl ?_
  rw [← HB.out.2]
  exact ⟨rfl, HW.out⟩
end Go.Proofs.Ythpagbfabpfngaa
