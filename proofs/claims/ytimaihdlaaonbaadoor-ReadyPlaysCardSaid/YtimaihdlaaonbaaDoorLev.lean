/- What a queue of numbers at levels is: of each number its level and one (0: it isn't ready); the contracts of ready's Level, Drop, Put, First and Set. -/
import Derived.Test.YtimaihdlaaonbaaDoorRef
import Derived.Test.YtimaihdlaaonbaaDoorFoot
import Derived.Deep.MidRow
import Derived.Deep.WholeRow
import Derived.Handy
import Derived.Deep.RegionWith
import Derived.Deep.RegionHeld3
namespace Go.Proofs.YtimaihdlaaonbaaDoor
open Go.RowKit

/-- The set of what is ready at a level. -/
def lv (q : Nat → Nat) (l : Nat) : BitVec 32 := pre (fun n => decide (q n = l + 1)) 32
theorem lv_bit (q : Nat → Nat) (l i : Nat) (hi : i < 32) : (lv q l).getLsbD i = decide (q i = l + 1) := by
  unfold lv; rw [pre_bit _ _ i hi]; simp [hi]
def lvs (q : Nat → Nat) : List Value := (List.range 32).map fun l => .int .u32 (w32 (lv q l))
theorem lvs_len (q : Nat → Nat) : (lvs q).length = 32 := by unfold lvs; simp
theorem lvs_at (q : Nat → Nat) (l : Nat) (hl : l < 32) : (lvs q)[l]? = some (.int .u32 (w32 (lv q l))) := by
  unfold lvs; simp [hl]
/-- Where a queue lies. -/
def QAt (w : World) (B : Nat) (q : Nat → Nat) : Prop := w.heap[B]? = some (.cells (lvs q).toArray 28 (0, 0))
theorem info26 : (Tryd.prog.info? 26).map (·.size) = some 32 := by kernel_rfl
theorem QAt.range {w : World} {B : Nat} {q : Nat → Nat} (h : QAt w B q) : w.rangeAt B 0 (lvs q) := fun j v hv => by
  rw [cell_of_row w B (0 + j) _ _ _ h]; simpa using hv
theorem QAt.load {w : World} {B : Nat} {q : Nat → Nat} (h : QAt w B q) : (Instr.loadAt 26 (.pointer (some ⟨B, 0, none⟩))).run Tryd.prog w = .ok (.agg (lvs q).toArray) w :=
  run_loadAt_mid w B 0 26 (lvs q) _ h.range Tryd.underlying26 rfl (by rw [info26, lvs_len])
theorem QAt.lt {w : World} {B : Nat} {q : Nat → Nat} (h : QAt w B q) : B < w.heap.size := (Array.getElem?_eq_some_iff.1 h).1
theorem QAt.below {w w' : World} {B n : Nat} {q : Nat → Nat} (h : QAt w B q) (hb : Below n w w') (hn : B < n) : QAt w' B q := (hb.block B hn).trans h

/-- Is a number ready, and at which level? -/
def inQ (q : Nat → Nat) (n : Int) : Bool := decide (0 ≤ n ∧ n < 32 ∧ q n.toNat ≠ 0)
def lvOf (q : Nat → Nat) (n : Int) : Nat := if inQ q n then q n.toNat - 1 else 0
theorem has_lv (q : Nat → Nat) (l : Nat) (n : Int) : decide (n ∈ ints (lst (lv q l) 32)) = decide (0 ≤ n ∧ n < 32 ∧ q n.toNat = l + 1) := by
  rw [Bool.eq_iff_iff, decide_eq_true_iff, decide_eq_true_iff, mem_ints, mem_lst]
  constructor
  · rintro ⟨h0, h1, h2⟩
    rw [lv_bit q l _ h1] at h2
    exact ⟨h0, by omega, by simpa using h2⟩
  · rintro ⟨h0, h1, h2⟩
    have h3 : n.toNat < 32 := by omega
    exact ⟨h0, h3, by rw [lv_bit q l _ h3]; simpa using h2⟩

theorem index_lvs (q : Nat → Nat) (k : Nat) (hk : k < 32) (w : World) : (Instr.index 26 (.agg (lvs q).toArray) (.int .i64 k)).run Tryd.prog w = .ok (.int .u32 (w32 (lv q k))) w := by
  have ha := lvs_at q k hk
  have h1 : ((k : Int) < 32) := by omega
  have h0 : (0 : Int) ≤ (k : Int) := by omega
  simp [Instr.index, go_sem, run_underlying Tryd.underlying26, asIntOf, ha]
  intro h; omega
theorem in_no {q : Nat → Nat} {n : Int} (hb : ∀ i, q i ≤ 32) (h : ∀ l, l < 32 → decide (0 ≤ n ∧ n < 32 ∧ q n.toNat = l + 1) = false) : inQ q n = false ∧ lvOf q n = 0 := by
  have e : inQ q n = false := by
    unfold inQ
    rw [decide_eq_false_iff_not]
    rintro ⟨h0, h1, h2⟩
    have := h (q n.toNat - 1) (by have := hb n.toNat; omega)
    rw [decide_eq_false_iff_not] at this
    exact this ⟨h0, h1, by omega⟩
  exact ⟨e, by unfold lvOf; rw [e]; rfl⟩
theorem in_yes {q : Nat → Nat} {n : Int} {l : Nat} (h : decide (0 ≤ n ∧ n < 32 ∧ q n.toNat = l + 1) = true) : inQ q n = true ∧ lvOf q n = l := by
  rw [decide_eq_true_iff] at h
  have e : inQ q n = true := by unfold inQ; rw [decide_eq_true_iff]; exact ⟨h.1, h.2.1, by omega⟩
  exact ⟨e, by unfold lvOf; rw [e, if_pos rfl, h.2.2]; rfl⟩
theorem level_any (B : Nat) (q : Nat → Nat) (n : Int) (w : World) (h : QAt w B q) (hb : ∀ i, q i ≤ 32) :
    Calls Tryd.prog 14 #[.pointer (some ⟨B, 0, none⟩), .int .i64 n] w fun e w' => e = .returned (.tuple #[.int .i64 (lvOf q n), .bool (inQ q n)]) ∧ w = w' := by
  have H := Lib.hid h
  clear h
  go_enter Tryd.func14, Tryd.ntmps14
  go_wp2_with (refine wpList_load_mid rfl 26 (.tmp 10) rfl B 0 rfl (lvs q) _ H.out.range Tryd.underlying26 rfl (by rw [info26, lvs_len]) ?_)
  go_loopg [6, 7, 12] 32 (fun g a b i wr => ∃ (k : Nat), k + g = 32 ∧ i = .int .i64 k ∧ Aside (∀ l, l < k → decide (0 ≤ n ∧ n < 32 ∧ q n.toNat = l + 1) = false) ∧ Aside (w = wr))
  case atStart => exact ⟨0, by omega, rfl, fun l hl => by omega, rfl⟩
  case round =>
    obtain ⟨k, hkg, rfl, HN, hw⟩ := hrel
    obtain rfl := hw.out
    clear hw
    cases gk with
    | zero =>
      obtain rfl : k = 32 := by omega
      have E := Lib.hid (in_no hb HN.out)
      go_wp2
      go_ret2
      exact ⟨by rw [E.out.1, E.out.2]; rfl, rfl⟩
    | succ g1 =>
      have hk : k < 32 := by omega
      have hix := index_lvs q k hk
      have HH := Lib.hid (fun wz => has_any (lv q k) n wz)
      have e := has_lv q k n
      cases hd : decide (0 ≤ n ∧ n < 32 ∧ q n.toNat = k + 1)
      · rw [hd] at e
        rw [e] at HH
        have HD := Lib.hid hd
        clear e hd
        go_wp2_with (go_at_call 22; refine (HH.out _).mono ?_; rintro e w' ⟨rfl, rfl⟩)
        go_roundg g1
        case measure => omega
        case rel =>
          refine ⟨k + 1, by omega, by go_num, fun l hl => ?_, rfl⟩
          by_cases hl2 : l = k
          · subst hl2; exact HD.out
          · exact HN.out l (by omega)
      · rw [hd] at e
        rw [e] at HH
        have E := Lib.hid (in_yes hd)
        clear e hd
        go_wp2_with (go_at_call 22; refine (HH.out _).mono ?_; rintro e w' ⟨rfl, rfl⟩)
        go_ret2
        exact ⟨by rw [E.out.1, E.out.2]; rfl, rfl⟩

/-- A number's entry turned. -/
def upd (q : Nat → Nat) (n : Nat) (v : Nat) : Nat → Nat := fun i => if i = n then v else q i
theorem upd_le {q : Nat → Nat} {n v : Nat} (hb : ∀ i, q i ≤ 32) (hv : v ≤ 32) : ∀ i, upd q n v i ≤ 32 := fun i => by unfold upd; split; exact hv; exact hb i
theorem lv_drop (q : Nat → Nat) (n l : Nat) (h : q n = l + 1) : lv (upd q n 0) l = lv q l &&& ~~~onl (n : Int) := by
  apply BitVec.eq_of_getLsbD_eq; intro i hi
  rw [BitVec.getLsbD_and, BitVec.getLsbD_not, lv_bit _ _ i hi, lv_bit _ _ i hi, onl_bit _ i hi]
  unfold upd
  by_cases e : i = n
  · subst e; simp
  · have : decide ((i : Int) = (n : Int)) = false := by rw [decide_eq_false_iff_not]; omega
    rw [this]; simp [hi, e]
theorem lv_other (q : Nat → Nat) (n v l : Nat) (h : q n ≠ l + 1) (hv : v ≠ l + 1) : lv (upd q n v) l = lv q l := by
  apply BitVec.eq_of_getLsbD_eq; intro i hi
  rw [lv_bit _ _ i hi, lv_bit _ _ i hi]
  unfold upd
  by_cases e : i = n
  · subst e; simp [h, hv]
  · simp [e]
theorem lv_put (q : Nat → Nat) (n l : Nat) : lv (upd q n (l + 1)) l = lv q l ||| onl (n : Int) := by
  apply BitVec.eq_of_getLsbD_eq; intro i hi
  rw [BitVec.getLsbD_or, lv_bit _ _ i hi, lv_bit _ _ i hi, onl_bit _ i hi]
  unfold upd
  by_cases e : i = n
  · subst e; simp
  · have : decide ((i : Int) = (n : Int)) = false := by rw [decide_eq_false_iff_not]; omega
    rw [this]; simp [e]
/-- One level's cell written: another queue lies there. -/
theorem lvs_set (q q' : Nat → Nat) (l : Nat) (x : BitVec 32) (hl : l < 32) (h1 : lv q' l = x) (h2 : ∀ k, k ≠ l → lv q' k = lv q k) : (lvs q).toArray.setIfInBounds l (.int .u32 (w32 x)) = (lvs q').toArray := by
  apply Array.ext_getElem?
  intro i
  rw [Array.getElem?_setIfInBounds]
  by_cases e : l = i
  · subst e
    rw [if_pos rfl, if_pos (by simp [lvs_len]; omega)]
    simp only [List.getElem?_toArray]
    rw [lvs_at q' l hl, h1]
  · rw [if_neg e]
    simp only [List.getElem?_toArray]
    unfold lvs
    rw [List.getElem?_map, List.getElem?_map]
    by_cases hi : i < 32
    · simp [hi, h2 i (fun h => e h.symm)]
    · simp [hi]
theorem QAt.set_ {w : World} {B : Nat} {q q' : Nat → Nat} (h : QAt w B q) (l : Nat) (x : BitVec 32) (hl : l < 32) (h1 : lv q' l = x) (h2 : ∀ k, k ≠ l → lv q' k = lv q k) : QAt (w.setCell ⟨B, l, none⟩ (.int .u32 (w32 x))) B q' := by
  unfold QAt at h ⊢
  rw [heap_setCell_same w B l _ _ _ h, lvs_set q q' l x hl h1 h2]
theorem QAt.cell {w : World} {B : Nat} {q : Nat → Nat} (h : QAt w B q) (l : Nat) (hl : l < 32) : w.cell? ⟨B, l, none⟩ = some (.int .u32 (w32 (lv q l))) := by
  rw [cell_of_row w B l _ _ _ h]; simpa using lvs_at q l hl
theorem QAt.frozen {w : World} {B : Nat} {q : Nat → Nat} (h : QAt w B q) (l : Nat) : w.frozen? ⟨B, l, none⟩ = false := frozen_of_row w B l _ _ h

def dropQ (q : Nat → Nat) (n : Int) : Nat → Nat := if inQ q n then upd q n.toNat 0 else q
theorem dropQ_le {q : Nat → Nat} {n : Int} (hb : ∀ i, q i ≤ 32) : ∀ i, dropQ q n i ≤ 32 := by unfold dropQ; split; exact upd_le hb (by omega); exact hb

set_option maxHeartbeats 1000000 in
theorem drop_any (B : Nat) (q : Nat → Nat) (n : Int) (w : World) (h : QAt w B q) (hb : ∀ i, q i ≤ 32) :
    Calls Tryd.prog 5 #[.pointer (some ⟨B, 0, none⟩), .int .i64 n] w fun e w' => e = .returned (.bool (inQ q n)) ∧ QAt w' B (dropQ q n) ∧ Ch (fun j => j = B) w w' := by
  have HL := Lib.hid (level_any B q n w h hb)
  have H := Lib.hid h
  clear h
  unfold dropQ
  cases hi : inQ q n
  · rw [hi] at HL
    rw [if_neg (by decide)]
    go_enter Tryd.func5, Tryd.ntmps5
    go_wp2_with (go_at_call 14; refine HL.out.mono ?_; rintro e w' ⟨rfl, rfl⟩)
    go_ret
    exact ⟨rfl, H.out, Ch.refl _ _⟩
  · rw [hi] at HL
    rw [if_pos rfl]
    have hi' := hi
    unfold inQ at hi'
    rw [decide_eq_true_iff] at hi'
    obtain ⟨h0, h1, h2⟩ := hi'
    obtain ⟨l, hl⟩ : ∃ l, q n.toNat = l + 1 := ⟨q n.toNat - 1, by omega⟩
    have hl32 : l < 32 := by have := hb n.toNat; omega
    have el : lvOf q n = l := by unfold lvOf; rw [hi, if_pos rfl, hl]; rfl
    rw [el] at HL
    have hc := H.out.cell l hl32
    have hf := H.out.frozen l
    have hli : (l : Int) < 32 := by omega
    have hl0 : (0 : Int) ≤ (l : Int) := by omega
    have hn : ((n.toNat : Nat) : Int) = n := by omega
    have hq := Lib.hid (H.out.set_ (q' := upd q n.toNat 0) l (lv q l &&& ~~~onl n) hl32 (by rw [lv_drop q n.toNat l hl, hn]) (fun k hk => lv_other q n.toNat 0 k (by omega) (by omega)))
    clear hn hl hi h2 el
    go_enter Tryd.func5, Tryd.ntmps5
    go_wp2_with (go_at_call 14; refine HL.out.mono ?_; rintro e w' ⟨rfl, rfl⟩)
    go_region_with (go_at_call 15; refine (without_any _ _ _).mono ?_; rintro e w' ⟨rfl, rfl⟩)
    all_goals
      go_wp2
      go_ret
      exact ⟨rfl, hq.out, ((Ch.refl (fun j => j = B) _).setCell ⟨B, l, none⟩ _ (.inl rfl)).drew⟩

/-- May a number be put at a level? -/
def okQ (n l : Int) : Bool := decide (0 ≤ n ∧ n < 32 ∧ 0 ≤ l ∧ l < 32)
def putQ (q : Nat → Nat) (n l : Int) : Nat → Nat := if okQ n l then upd q n.toNat (l.toNat + 1) else q
theorem putQ_le {q : Nat → Nat} {n l : Int} (hb : ∀ i, q i ≤ 32) : ∀ i, putQ q n l i ≤ 32 := by
  unfold putQ okQ
  by_cases h : 0 ≤ n ∧ n < 32 ∧ 0 ≤ l ∧ l < 32
  · rw [if_pos (by simpa using h)]; exact upd_le hb (by omega)
  · rw [if_neg (by simpa using h)]; exact hb
theorem of_one (n : Int) : ofL [n] = onl n := by
  unfold ofL; simp
theorem onl_zero (n : Int) : (w32 (onl n) == 0) = !decide (0 ≤ n ∧ n < 32) := by
  show (w32 (onl n) == w32 0#32) = _
  rw [Bool.eq_iff_iff, beq_iff_eq, w32_inj]
  by_cases h : 0 ≤ n ∧ n < 32
  · rw [show decide (0 ≤ n ∧ n < 32) = true by simpa using h]
    constructor
    · intro e
      have h1 : (onl n).getLsbD n.toNat = false := by rw [e]; simp
      rw [onl_bit n n.toNat (by omega), decide_eq_false_iff_not] at h1
      omega
    · intro e; cases e
  · rw [show decide (0 ≤ n ∧ n < 32) = false by simpa using h]
    constructor
    · intro _; rfl
    · intro _; unfold onl; rw [if_neg h]
theorem upd_drop (q : Nat → Nat) (n : Int) (v : Nat) : upd (dropQ q n) n.toNat v = upd q n.toNat v := by
  funext i
  unfold dropQ upd
  by_cases e : i = n.toNat
  · simp [e]
  · rw [if_neg e, if_neg e]
    split
    · show (if i = n.toNat then 0 else q i) = q i
      rw [if_neg e]
    · rfl
theorem of1_any (n : Int) (w : World) : Calls Tryd.prog 16 #[.slice (some ⟨w.heap.size, 0, none⟩) 1 1] (w.alloc (.cells #[.int .i64 n] 3)) fun e w' => e = .returned (.int .u32 (w32 (onl n))) ∧ (w.alloc (.cells #[.int .i64 n] 3)) = w' := by
  have := of_any (some ⟨w.heap.size, 0, none⟩) w.heap.size 0 1 [n] (w.alloc (.cells #[.int .i64 n] 3)) (by simp) ⟨fun _ => ⟨rfl, by simp⟩, fun k hk => by
      have hk' : k < 1 := hk
      rcases k with _ | k
      all_goals first | omega | (simp [nth])⟩
  rw [of_one] at this
  exact this

set_option maxHeartbeats 1000000 in
theorem put_any (B : Nat) (q : Nat → Nat) (n l : Int) (w : World) (h : QAt w B q) (hb : ∀ i, q i ≤ 32) :
    Calls Tryd.prog 7 #[.pointer (some ⟨B, 0, none⟩), .int .i64 n, .int .i64 l] w fun e w' => e = .returned (.bool (okQ n l)) ∧ QAt w' B (putQ q n l) ∧ Ch (fun j => j = B) w w' := by
  have hz := onl_zero n
  have HO := Lib.hid (of1_any n w)
  have Bw : Ch (fun j => j = B) w (w.alloc (.cells #[.int .i64 n] 3)) := (Ch.refl _ _).alloc _
  have HA := Lib.hid (h.below ((Below.refl w.heap.size w).alloc (Nat.le_refl _) (.cells #[.int .i64 n] 3)) h.lt)
  have BW := Lib.hid Bw
  clear Bw h
  by_cases hn : 0 ≤ n ∧ n < 32
  · by_cases hl : 0 ≤ l ∧ l < 32
    · have e : okQ n l = true := by unfold okQ; rw [decide_eq_true_iff]; exact ⟨hn.1, hn.2, hl⟩
      rw [show decide (0 ≤ n ∧ n < 32) = true by simpa using hn] at hz
      obtain ⟨k, rfl⟩ := Int.eq_ofNat_of_zero_le hl.1
      have hk32 : k < 32 := by omega
      have ep : putQ q n k = upd q n.toNat (k + 1) := by unfold putQ; rw [e, if_pos rfl]; rfl
      rw [e, ep]
      have HD := Lib.hid (drop_any B q n _ HA.out hb)
      have hkl : (k : Int) < 32 := hl.2
      have hk0 : (0 : Int) ≤ (k : Int) := hl.1
      have HN := Lib.hid hn
      clear hl hn e ep
      have d1 : decide ((k : Int) < 0) = false := by simp
      have d2 : decide ((32 : Int) ≤ (k : Int)) = false := by simp; omega
      go_enter Tryd.func7, Tryd.ntmps7
      go_wp2_with fail
      refine HO.out.mono ?_
      rintro e w1 ⟨rfl, rfl⟩
      go_wp2_with fail
      refine HD.out.mono ?_
      rintro e w2 ⟨rfl, hq2, hb2⟩
      have hc := hq2.cell k hk32
      have hf := hq2.frozen k
      have H2 := Lib.hid hq2
      have B2 := Lib.hid (BW.out.trans hb2)
      clear hq2 hb2
      go_wp2
      go_region_with (go_at_call 17; refine (with_any _ _ _).mono ?_; rintro e w' ⟨rfl, rfl⟩)
      all_goals
        go_wp2
        go_ret
        have hne : ∀ j, j ≠ k → lv (upd q n.toNat (k + 1)) j = lv (dropQ q n) j := fun j hj => by
          rw [← upd_drop]
          refine lv_other (dropQ q n) n.toNat (k + 1) j ?_ (by omega)
          unfold dropQ
          split
          · unfold upd; simp
          · rename_i hi
            unfold inQ at hi
            intro hc
            apply hi
            rw [decide_eq_true_iff]
            exact ⟨HN.out.1, HN.out.2, by omega⟩
        have hto : ((n.toNat : Nat) : Int) = n := by have := HN.out.1; omega
        refine ⟨rfl, H2.out.set_ (q' := upd q n.toNat (k + 1)) k (lv (dropQ q n) k ||| onl n) hk32 (by rw [← upd_drop, lv_put, hto]) hne, (B2.out.setCell ⟨B, k, none⟩ _ (.inl rfl)).drew⟩
    · have e : okQ n l = false := by unfold okQ; rw [decide_eq_false_iff_not]; rintro ⟨_, _, h⟩; exact hl h
      rw [show decide (0 ≤ n ∧ n < 32) = true by simpa using hn] at hz
      have ep : putQ q n l = q := by unfold putQ; rw [e]; rfl
      rw [e, ep]
      clear e ep hn
      by_cases h0 : l < 0
      · have d1 : decide (l < 0) = true := by simpa using h0
        go_enter Tryd.func7, Tryd.ntmps7
        go_wp2_with fail
        refine HO.out.mono ?_
        rintro e w1 ⟨rfl, rfl⟩
        go_wp2
        go_ret
        exact ⟨rfl, HA.out, BW.out⟩
      · have d1 : decide (l < 0) = false := by simpa using h0
        have d2 : decide ((32 : Int) ≤ l) = true := by simp; omega
        go_enter Tryd.func7, Tryd.ntmps7
        go_wp2_with fail
        refine HO.out.mono ?_
        rintro e w1 ⟨rfl, rfl⟩
        go_wp2
        go_ret
        exact ⟨rfl, HA.out, BW.out⟩
  · have e : okQ n l = false := by unfold okQ; rw [decide_eq_false_iff_not]; rintro ⟨h1, h2, _⟩; exact hn ⟨h1, h2⟩
    rw [show decide (0 ≤ n ∧ n < 32) = false by simpa using hn] at hz
    have ep : putQ q n l = q := by unfold putQ; rw [e]; rfl
    rw [e, ep]
    clear e ep hn
    go_enter Tryd.func7, Tryd.ntmps7
    go_wp2_with fail
    refine HO.out.mono ?_
    rintro e w1 ⟨rfl, rfl⟩
    go_wp2
    go_ret
    exact ⟨rfl, HA.out, BW.out⟩

/-- What goes first: of the levels from k on. -/
theorem fst_none (q : Nat → Nat) (l : Nat) : decide (0 < (lst (lv q l) 32).length) = false ↔ ∀ n, n < 32 → q n ≠ l + 1 := by
  rw [decide_eq_false_iff_not]
  constructor
  · intro h n hn hq
    apply h
    have : n ∈ lst (lv q l) 32 := by rw [mem_lst]; exact ⟨hn, by rw [lv_bit q l n hn]; simpa using hq⟩
    exact List.length_pos_of_mem this
  · intro h hp
    obtain ⟨n, hn⟩ := List.exists_mem_of_length_pos hp
    rw [mem_lst] at hn
    have := hn.2
    rw [lv_bit q l n hn.1] at this
    exact h n hn.1 (by simpa using this)
/-- All that is ready, as it goes: numbers and levels, of the levels below k. -/
def allP (q : Nat → Nat) : Nat → List (Nat × Nat)
  | 0 => []
  | k + 1 => allP q k ++ (lst (lv q k) 32).map fun n => (n, k)
def headP (q : Nat → Nat) : Nat := ((allP q 32).map (·.1)).headD 0
theorem allP_nil {q : Nat → Nat} {k : Nat} (h : ∀ l, l < k → decide (0 < (lst (lv q l) 32).length) = false) : allP q k = [] := by
  induction k with
  | zero => rfl
  | succ k ih =>
    unfold allP
    rw [ih fun l hl => h l (by omega)]
    have := h k (by omega)
    rw [decide_eq_false_iff_not] at this
    have : lst (lv q k) 32 = [] := List.eq_nil_of_length_eq_zero (by omega)
    rw [this]; rfl
theorem allP_more (q : Nat → Nat) (k m : Nat) (h : k ≤ m) : ∃ r, allP q m = allP q k ++ r := by
  induction m with
  | zero =>
    obtain rfl : k = 0 := by omega
    exact ⟨[], (List.append_nil _).symm⟩
  | succ m ih =>
    by_cases e : k = m + 1
    · subst e; exact ⟨[], by simp⟩
    · obtain ⟨r, hr⟩ := ih (by omega)
      exact ⟨r ++ (lst (lv q m) 32).map fun n => (n, m), by rw [allP, hr, List.append_assoc]⟩
theorem headP_at {q : Nat → Nat} {k : Nat} (hk : k < 32) (h : ∀ l, l < k → decide (0 < (lst (lv q l) 32).length) = false) (hp : decide (0 < (lst (lv q k) 32).length) = true) :
    headP q = (lst (lv q k) 32).headD 0 ∧ decide (0 < (allP q 32).length) = true := by
  obtain ⟨r, hr⟩ := allP_more q (k + 1) 32 (by omega)
  have e0 := allP_nil h
  have e1 : allP q (k + 1) = (lst (lv q k) 32).map fun n => (n, k) := by rw [allP, e0, List.nil_append]
  rw [e1] at hr
  clear e1
  rw [decide_eq_true_iff] at hp
  cases hl : lst (lv q k) 32 with
  | nil => rw [hl] at hp; simp at hp
  | cons a t =>
    rw [hl] at hr
    unfold headP
    rw [hr]
    simp

theorem first_q (B : Nat) (q : Nat → Nat) (w : World) (h : QAt w B q) (ht : Tab w) :
    Calls Tryd.prog 12 #[.pointer (some ⟨B, 0, none⟩)] w fun e w' => e = .returned (.tuple #[.int .i64 (headP q), .bool (decide (0 < (allP q 32).length))]) ∧ w = w' := by
  have H := Lib.hid h
  clear h
  have HF := fun k => Lib.hid (first_any (lv q k) w ht)
  clear ht
  go_enter Tryd.func12, Tryd.ntmps12
  go_wp2_with (refine wpList_load_mid rfl 26 (.tmp 10) rfl B 0 rfl (lvs q) _ H.out.range Tryd.underlying26 rfl (by rw [info26, lvs_len]) ?_)
  go_loopg [5, 6, 7, 12] 32 (fun g s a b i wr => ∃ (k : Nat), k + g = 32 ∧ i = .int .i64 k ∧ Aside (∀ l, l < k → decide (0 < (lst (lv q l) 32).length) = false) ∧ Aside (w = wr))
  case atStart => exact ⟨0, by omega, rfl, fun l hl => by omega, rfl⟩
  case round =>
    obtain ⟨k, hkg, rfl, HN, hw⟩ := hrel
    obtain rfl := hw.out
    clear hw
    cases gk with
    | zero =>
      obtain rfl : k = 32 := by omega
      have E := Lib.hid (allP_nil HN.out)
      go_wp2
      go_ret2
      exact ⟨by unfold headP; rw [E.out]; rfl, rfl⟩
    | succ g1 =>
      have hk : k < 32 := by omega
      have hix := index_lvs q k hk
      have HK := HF k
      cases hd : decide (0 < (lst (lv q k) 32).length)
      · rw [hd] at HK
        have HD := Lib.hid hd
        clear hd
        go_wp2_with (go_at_call 21; refine HK.out.mono ?_; rintro e w' ⟨rfl, rfl⟩)
        go_roundg g1
        case measure => omega
        case rel =>
          refine ⟨k + 1, by omega, by go_num, fun l hl => ?_, rfl⟩
          by_cases hl2 : l = k
          · subst hl2; exact HD.out
          · exact HN.out l (by omega)
      · rw [hd] at HK
        have E := Lib.hid (headP_at hk HN.out hd)
        have E2 := Lib.hid (List.headD_eq_head?_getD (l := lst (lv q k) 32) (a := 0))
        clear hd
        go_wp2_with (go_at_call 21; refine HK.out.mono ?_; rintro e w' ⟨rfl, rfl⟩)
        go_ret2
        exact ⟨by rw [E.out.1, E.out.2, E2.out]; rfl, rfl⟩
end Go.Proofs.YtimaihdlaaonbaaDoor
