/- Several texts in one: YE, Coll, DA, XLoop. -/
import Derived.Test.YtchmdnmifpjfkaaDoorPk04
import Derived.Test.YtchmdnmifpjfkaaDoorPk02
import Derived.Test.YtchmdnmifpjfkaaDoorPk01
import Derived.Test.YtchmdnmifpjfkaaDoorPk03
import Derived.Handy
import Derived.RangeFuncNested
import Derived.RangeFuncBound
import Derived.RangeFuncCalls
import Derived.RangeFuncLeaves
import Derived.Below
import Derived.Deep.Draws
import Derived.WalkKit
/- Maths of ceilings; the contract of law15's Ceiling and of mask's Of. -/
namespace Go.Proofs.YtchmdnmifpjfkaaDoor
open Go.RowKit

/-- A task of the set that the image has uses a resource. -/
def usesR (x : Img) (s : BitVec 32) (r i : Nat) : Prop := i < 32 ∧ s.getLsbD i = true ∧ i < x.tasks.length ∧ 0 < lonF x i r
theorem tasksL_mem {x : Img} {s : BitVec 32} {i : Nat} : i ∈ tasksL x s ↔ i < 32 ∧ s.getLsbD i = true ∧ i < x.tasks.length := by
  unfold tasksL
  rw [mem_lst]
  constructor
  · rintro ⟨h1, h2⟩
    rw [btw_bit _ _ _ _ h1] at h2
    simp at h2
    exact ⟨h1, h2.1, by omega⟩
  · rintro ⟨h1, h2, h3⟩
    refine ⟨h1, ?_⟩
    rw [btw_bit _ _ _ _ h1]
    simp [h2]
    omega
/-- The least of some numbers, 16 at most. -/
structure Least (v : Int) (p : Nat → Prop) : Prop where
  le : v ≤ 16
  lo : ∀ i, p i → v ≤ (i : Int)
  at_ : v = 16 ∨ ∃ i, p i ∧ v = (i : Int)
theorem Least.uniq {v u : Int} {p : Nat → Prop} (h : Least v p) (g : Least u p) : v = u := by
  have a1 := h.le
  have a2 := g.le
  rcases h.at_ with h1 | ⟨i, hi, h1⟩ <;> rcases g.at_ with g1 | ⟨j, hj, g1⟩
  · omega
  · have := h.lo j hj; omega
  · have := g.lo i hi; omega
  · have := h.lo j hj; have := g.lo i hi; omega
theorem cfK_least (x : Img) (L : List Nat) (r : Nat) (hr : r < 8) : ∀ k, k ≤ L.length → Least (cfK x L k r) (fun i => i ∈ L.take k ∧ 0 < lonF x i r)
  | 0, _ => ⟨Int.le_refl _, fun i h => by simp at h, .inl rfl⟩
  | k + 1, hk => by
    have ih := cfK_least x L r hr k (by omega)
    have e : L.getD k 0 = L[k] := by rw [List.getD_eq_getElem?_getD, List.getElem?_eq_getElem (by omega)]; rfl
    have ht : L.take (k + 1) = L.take k ++ [L[k]] := List.take_succ_eq_append_getElem (by omega)
    have hc : cfK x L (k + 1) r = if r ∈ usesK (lonF x L[k]) 8 then min (cfK x L k r) ((L[k] : Nat) : Int) else cfK x L k r := by
      show tbIn (cfK x L k) (L.getD k 0) (usesK (lonF x (L.getD k 0)) 8) r = _
      rw [e]; rfl
    rw [hc, ht]
    by_cases hu : r ∈ usesK (lonF x L[k]) 8
    · rw [if_pos hu]
      have hp := (usesK_mem.1 hu).2
      refine ⟨by have := ih.le; omega, fun i hi => ?_, ?_⟩
      · rcases List.mem_append.1 hi.1 with h | h
        · have := ih.lo i ⟨h, hi.2⟩; omega
        · simp at h; subst h; omega
      · rcases Int.le_total (cfK x L k r) ((L[k] : Nat) : Int) with h | h
        · rw [Int.min_eq_left h]
          rcases ih.at_ with h1 | ⟨i, hi, h1⟩
          · exact .inl h1
          · exact .inr ⟨i, ⟨List.mem_append.2 (.inl hi.1), hi.2⟩, h1⟩
        · rw [Int.min_eq_right h]
          exact .inr ⟨L[k], ⟨List.mem_append.2 (.inr (by simp)), hp⟩, rfl⟩
    · rw [if_neg hu]
      have hp : ¬ 0 < lonF x L[k] r := fun h => hu (usesK_mem.2 ⟨hr, h⟩)
      refine ⟨ih.le, fun i hi => ?_, ?_⟩
      · rcases List.mem_append.1 hi.1 with h | h
        · exact ih.lo i ⟨h, hi.2⟩
        · simp at h; subst h; exact absurd hi.2 hp
      · rcases ih.at_ with h1 | ⟨i, hi, h1⟩
        · exact .inl h1
        · exact .inr ⟨i, ⟨List.mem_append.2 (.inl hi.1), hi.2⟩, h1⟩
theorem ceilF_least (x : Img) (s : BitVec 32) (r : Nat) (hr : r < 8) : Least (ceilF x s r) (usesR x s r) := by
  have h := cfK_least x (tasksL x s) r hr _ (Nat.le_refl _)
  rw [List.take_length] at h
  have e : ∀ i, (i ∈ tasksL x s ∧ 0 < lonF x i r) ↔ usesR x s r i := fun i => by rw [tasksL_mem]; unfold usesR; constructor <;> (rintro h; simp_all)
  exact ⟨h.le, fun i hi => h.lo i ((e i).2 hi), by
    rcases h.at_ with h1 | ⟨i, hi, h1⟩
    · exact .inl h1
    · exact .inr ⟨i, (e i).1 hi, h1⟩⟩
theorem ceilF_join (x : Img) (a b : BitVec 32) (r : Nat) (hr : r < 8) : min (ceilF x a r) (ceilF x b r) = ceilF x (a ||| b) r := by
  have h1 := ceilF_least x a r hr
  have h2 := ceilF_least x b r hr
  refine Least.uniq (p := usesR x (a ||| b) r) ⟨by have := h1.le; omega, fun i hi => ?_, ?_⟩ (ceilF_least x _ r hr)
  · obtain ⟨i1, i2, i3, i4⟩ := hi
    rw [BitVec.getLsbD_or] at i2
    rcases (Bool.or_eq_true _ _).mp i2 with h | h
    · have := h1.lo i ⟨i1, h, i3, i4⟩; omega
    · have := h2.lo i ⟨i1, h, i3, i4⟩; omega
  · rcases Int.le_total (ceilF x a r) (ceilF x b r) with h | h
    · rw [Int.min_eq_left h]
      rcases h1.at_ with h1 | ⟨i, hi, h1⟩
      · exact .inl h1
      · exact .inr ⟨i, ⟨hi.1, by rw [BitVec.getLsbD_or, hi.2.1]; rfl, hi.2.2.1, hi.2.2.2⟩, h1⟩
    · rw [Int.min_eq_right h]
      rcases h2.at_ with h1 | ⟨i, hi, h1⟩
      · exact .inl h1
      · exact .inr ⟨i, ⟨hi.1, by rw [BitVec.getLsbD_or, hi.2.1]; simp, hi.2.2.1, hi.2.2.2⟩, h1⟩
theorem ceilF_le (x : Img) (s : BitVec 32) (r : Nat) (hr : r < 8) : ceilF x s r ≤ 16 := (ceilF_least x s r hr).le
/-- None of the first so many tasks of the set uses a resource. -/
theorem ceilF_first (x : Img) (s : BitVec 32) (r : Nat) (hr : r < 8) (k : Nat) (hk : k < 16) (hn : ∀ j, j < k → ¬ (s.getLsbD j = true ∧ 0 < lonF x j r)) (h : s.getLsbD k = true) (ht : k < x.tasks.length) (h0 : 0 < lonF x k r) : ceilF x s r = (k : Int) :=
  Least.uniq (ceilF_least x s r hr) ⟨by omega, fun i hi => by
    by_cases e : i < k
    · exact absurd ⟨hi.2.1, hi.2.2.2⟩ (hn i e)
    · omega, .inr ⟨k, ⟨by omega, h, ht, h0⟩, rfl⟩⟩
theorem ceilF_none (x : Img) (s : BitVec 32) (r : Nat) (hr : r < 8) (hn : ∀ j, j < min x.tasks.length 16 → ¬ (s.getLsbD j = true ∧ 0 < lonF x j r)) : ceilF x s r = 16 :=
  Least.uniq (ceilF_least x s r hr) ⟨Int.le_refl _, fun i hi => by
    by_cases e : i < 16
    · exact absurd ⟨hi.2.1, hi.2.2.2⟩ (hn i (by have := hi.2.2.1; omega))
    · omega, .inl rfl⟩
set_option maxHeartbeats 1000000 in
theorem mOf_any (sp : Option Addr) (b off cap : Nat) (l : List Int) (w : World) (hl : l.length ≤ 9223372036854775807) (h : Lies w sp b off l) :
    Calls Tryd.prog 55 #[.slice sp l.length cap] w fun e w' => e = .returned (.int .u32 (w32 (ofL l))) ∧ w = w' := by
  have HL := Lib.hid h
  have HO := Lib.hid (show ofL l = (l.take l.length).foldl (fun s n => s ||| onl n) 0#32 by rw [List.take_length]; rfl)
  obtain ⟨o, ho⟩ : ∃ o, ofL l = o := ⟨_, rfl⟩
  rw [ho] at HO ⊢
  obtain ⟨n, hn⟩ : ∃ n, l.length = n := ⟨_, rfl⟩
  rw [hn] at HO hl ⊢
  have HN := Lib.hid hn
  clear h ho hn
  go_enter Tryd.func55, Tryd.ntmps55
  go_wp2
  go_loopg [3, 8] n (fun g v i wr => ∃ (k : Nat), k + g = n ∧ i = .int .i64 (k : Nat) ∧ v = .int .u32 (w32 ((l.take k).foldl (fun s n => s ||| onl n) 0#32)) ∧ Aside (w = wr))
  case atStart => exact ⟨0, by omega, rfl, rfl, rfl⟩
  case round =>
    obtain ⟨k, hkg, rfl, rfl, hw⟩ := hrel
    obtain rfl := hw.out
    clear hw
    cases gk with
    | zero =>
      obtain rfl : k = n := by omega
      rw [← HO.out]
      go_wp2
      go_ret
      exact ⟨rfl, rfl⟩
    | succ g1 =>
      have hlt : k < l.length := by rw [HN.out]; omega
      obtain ⟨rfl, hbl⟩ := HL.out.1 (by omega)
      have hc := HL.out.2 k hlt
      have ht := take_succ_nth l k hlt
      have hk2 : (k : Int) < (n : Int) := by omega
      obtain ⟨y, hy⟩ : ∃ y, nth l k = y := ⟨_, rfl⟩
      rw [hy] at hc ht
      have HT := Lib.hid ht
      obtain ⟨z, hz⟩ : ∃ z, (l.take k).foldl (fun s n => s ||| onl n) 0#32 = z := ⟨_, rfl⟩
      rw [hz]
      have HZ := Lib.hid hz
      have HW := Lib.hid (fun wx => with_any z y wx)
      clear ht hy hz hlt
      go_wp2_with (go_at_call 85; refine (HW.out _).mono ?_; rintro e w' ⟨rfl, rfl⟩)
      go_roundg g1
      case measure => omega
      case rel => exact ⟨k + 1, by omega, by go_num, by rw [HT.out, List.foldl_append, HZ.out]; rfl, rfl⟩
end Go.Proofs.YtchmdnmifpjfkaaDoor
/- Plain lemmas of this prover's own: a loop over a function that collects what it goes through into a row that a variable names: what it owns, what it keeps. No statement about the program. -/
namespace Go.Proofs.YtchmdnmifpjfkaaDoor
open Go.RowKit

/-- What the collecting loop owns: all that was there before it, its variable, and the row that the variable names. -/
def FC (Oc : Nat) (W : World) (j : Nat) : Prop := j < Oc ∨ j = Oc ∨ ∃ v, W.cell? ⟨Oc, 0, none⟩ = some v ∧ v.ownBlock = some j
/-- k elements (of size cells each, of type e) are collected: they are rf k; m is how many elements that makes. -/
def IC (e : TypeId) (size : Nat) (rf : Nat → List Value) (w0 : World) (Oc : Nat) (k : Nat) (W : World) : Prop :=
  Below Oc w0 W ∧ ∃ v, W.cell? ⟨Oc, 0, none⟩ = some v ∧ W.frozen? ⟨Oc, 0, none⟩ = false ∧ W.ownsRow (Oc + 1) e size v k (rf k)
section
variable {e : TypeId} {size : Nat} {rf : Nat → List Value}
theorem IC.foot {w0 : World} {Oc : Nat} (hs : Oc ≤ w0.heap.size) (k : Nat) : Foot (FC Oc) (IC e size rf w0 Oc k) where
  lt := fun W ⟨h2, v, h3, _, h5⟩ j hj => by
    rcases hj with hj | rfl | ⟨v', hv, hj⟩
    · have := h2.size; omega
    · exact World.block_lt_of_cell? W _ h3
    · rw [h3] at hv; injection hv with hv; subst hv
      exact (h5.lt j hj).2
  keep := fun W W' ⟨h2, v, h3, h4, h5⟩ hc => by
    have nO : ¬ ¬ FC Oc W Oc := fun hn => hn (.inr (.inl rfl))
    have e3 : W'.cell? ⟨Oc, 0, none⟩ = some v := hc.cell h3 nO
    refine ⟨⟨h2.trans (Ch.below hc (fun j hj hn => hn (.inl hj)) (by have := h2.size; omega)), v, e3, (hc.frozenCell h3 nO).trans h4,
      own_same h5 fun g hg => hc.block g (h5.lt g hg).2 fun hn => hn (.inr (.inr ⟨v, h3, hg⟩))⟩, fun j hj => ?_⟩
    rcases hj with hj | hj | ⟨v', hv, hj⟩
    · exact .inl hj
    · exact .inr (.inl hj)
    · rw [e3] at hv; injection hv with hv; subst hv
      exact .inr (.inr ⟨v, h3, hj⟩)
theorem grow_cell {A w1 : World} {Oc : Nat} {v : Value} {n : Nat} {xs : List Value} {ob : Obj} (h3 : A.cell? ⟨Oc, 0, none⟩ = some v) (h4 : A.frozen? ⟨Oc, 0, none⟩ = false)
    (h5 : A.ownsRow (Oc + 1) e size v n xs) (hg : (A.alloc ob).grownBy w1 v.ownBlock) : w1.cell? ⟨Oc, 0, none⟩ = some v ∧ w1.frozen? ⟨Oc, 0, none⟩ = false := by
  have hcr : Ch (fun j => v.ownBlock = some j) A w1 := (((Ch.refl (fun _ => False) A).alloc ob).mono (fun _ _ h => h.elim)).trans (ch_grown hg)
  exact ⟨hcr.cell h3 fun hj => by have := own_ge h5 _ hj; simp only at this; omega, (hcr.frozenCell h3 fun hj => by have := own_ge h5 _ hj; simp only at this; omega).trans h4⟩
/-- A round's append: the row has grown, the variable names it. -/
theorem IC.grow {w0 A w1 : World} {Oc : Nat} {k : Nat} {v v' : Value} {ob : Obj} (h2 : Below Oc w0 A) (hs0 : Oc ≤ w0.heap.size) (h3 : A.cell? ⟨Oc, 0, none⟩ = some v) (h4 : A.frozen? ⟨Oc, 0, none⟩ = false)
    (h5 : A.ownsRow (Oc + 1) e size v k (rf k))
    (ho : w1.ownsRow (Oc + 1) e size v' (k + 1) (rf (k + 1))) (hg : (A.alloc ob).grownBy w1 v.ownBlock) (hat : v'.ownBlock = v.ownBlock ∨ v'.ownBlock = some (A.alloc ob).heap.size) :
    Step (FC Oc) A (w1.setCell ⟨Oc, 0, none⟩ v') ∧ IC e size rf w0 Oc (k + 1) (w1.setCell ⟨Oc, 0, none⟩ v') := by
  have hz := h2.size
  have hge : ∀ j, v.ownBlock = some j → Oc + 1 ≤ j := fun j hj => own_ge h5 j hj
  have hcr : Ch (fun j => v.ownBlock = some j) A w1 := (((Ch.refl (fun _ => False) A).alloc ob).mono (fun _ _ h => h.elim)).trans (ch_grown hg)
  have e3 : w1.cell? ⟨Oc, 0, none⟩ = some v := hcr.cell h3 fun hj => by have := hge _ hj; simp only at this; omega
  have e4 : w1.frozen? ⟨Oc, 0, none⟩ = false := (hcr.frozenCell h3 fun hj => by have := hge _ hj; simp only at this; omega).trans h4
  have e5 : (w1.setCell ⟨Oc, 0, none⟩ v').cell? ⟨Oc, 0, none⟩ = some v' := World.cell?_setCell_same _ _ _ e3
  have hcW : Ch (fun j => j = Oc ∨ v.ownBlock = some j) A (w1.setCell ⟨Oc, 0, none⟩ v') := (hcr.mono fun _ _ h => .inr h).setCell _ _ (.inl (.inl rfl))
  refine ⟨⟨hcW.mono fun j _ hj => ?_, fun j hj => ?_⟩, h2.trans (hcW.below (fun j hj hn => ?_) (by omega)), v', e5, ?_, ?_⟩
  · rcases hj with hj | hj
    · exact .inr (.inl hj)
    · exact .inr (.inr ⟨v, h3, hj⟩)
  · rcases hj with hj | hj | ⟨v'', hv, hj⟩
    · exact .inl (.inl hj)
    · exact .inl (.inr (.inl hj))
    · rw [e5] at hv; injection hv with hv; subst hv
      rcases hat with ha | ha
      · rw [ha] at hj; exact .inl (.inr (.inr ⟨v, h3, hj⟩))
      · rw [ha] at hj; injection hj with hj; subst hj
        right; simp
  · rcases hn with hn | hn
    · omega
    · have := hge _ hn; omega
  · rw [World.frozen?_setCell]; exact e4
  · exact own_same ho fun g hg' => Below.heap_setCell w1 ⟨Oc, 0, none⟩ v' g (by have := own_ge ho g hg'; show g ≠ Oc; omega)
end
end Go.Proofs.YtchmdnmifpjfkaaDoor
/- The contracts of demand's Of and Terms. -/
namespace Go.Proofs.YtchmdnmifpjfkaaDoor
open Go.RowKit
attribute [local go_sem] Oper.semAt_some

theorem dOf_any (a0 a1 a2 : Int) (f : Nat → Int) (z : Int) (w : World) : Calls Tryd.prog 63 #[.agg #[.int .i64 a0, .int .i64 a1, .int .i64 a2, .int .i64 (f 0), .int .i64 (f 1), .int .i64 (f 2), .int .i64 (f 3), .int .i64 (f 4), .int .i64 (f 5), .int .i64 (f 6), .int .i64 (f 7)], .int .i64 z] w fun e w' => e = .returned (.agg #[.int .i64 a0, .int .i64 a2, .int .i64 z, .int .i64 0]) ∧ Below w.heap.size w w' := by
  have HB := Lib.hid (show ∀ w2 : World, True → True from fun _ _ => trivial)
  go_enter Tryd.func63, Tryd.ntmps63
  go_wp2
  go_returns
  exact ⟨rfl, ((Below.refl _ _).alloc (Nat.le_refl _) _).alloc (by simp) _⟩
theorem wpIn_region_g0 {l0 : Nat} {P : Program} {id : Nat} {l : List Oper} {Q : Exit → Act → World → Prop} {a : Act} {w : World} (S : World → Prop) (n : Nat) (hm : P.follows .mixedOrders = true) (hd : noDefer l = true) (hQ : ∀ a w, ¬ Q .outgrown a w) (hS : S w.drew)
    (h : S w.drew → wpAnyG P .any l.toArray Q S n l.toArray.size (Array.replicate l.toArray.size false) a w.drew) : (Code.region id l.toArray true).wpIn (Fence.wide.inRound l0) 0 P Q a w :=
  wpIn_region_any0 hm hd hQ (wpAny_of_g _ _ _ _ (h hS))
def termV (x : Img) (L : List Nat) (k : Nat) : List Value := [.int .i64 (x.t (L.getD k 0)).per, .int .i64 (x.t (L.getD k 0)).cost, .int .i64 0, .int .i64 0]
theorem rowsOf_snoc (g : Nat → List Value) (k : Nat) : rowsOf g (k + 1) = rowsOf g k ++ g k := by
  unfold rowsOf
  rw [List.range_succ, List.map_append, List.flatten_append]
  simp
theorem four_new (A : World) (x y z u : Value) (t : TypeId) : ∀ j v, [x, y, z, u][j]? = some v → (A.alloc (.cells #[x, y, z, u] t)).cell? ((⟨A.heap.size, 0, none⟩ : Addr).add j) = some v := by
  intro j v hv
  rw [Addr.add_lit]
  have := (RowAt.mk A t #[x, y, z, u]).cell (0 + j)
  refine this.trans ?_
  rcases j with _ | _ | _ | _ | j
  · exact hv
  · exact hv
  · exact hv
  · exact hv
  · simp at hv
/-- A call that leaves all as it was: what the loop has collected is still there. -/
theorem terms_same {w1 W W2 : World} {Oc k : Nat} {v : Value} {rf : Nat → List Value} (h3 : W.cell? ⟨Oc, 0, none⟩ = some v) (h4 : W.frozen? ⟨Oc, 0, none⟩ = false) (h5 : W.ownsRow (Oc + 1) 118 4 v k (rf k)) (h2 : Below Oc w1 W) (hs : Oc ≤ w1.heap.size) (hb : Below W.drew.heap.size W.drew W2) :
    Step (FC Oc) W W2 ∧ Below Oc w1 W2 ∧ (W2.cell? ⟨Oc, 0, none⟩ = some v ∧ W2.frozen? ⟨Oc, 0, none⟩ = false) ∧ W2.ownsRow (Oc + 1) 118 4 v k (rf k) ∧ Oc < W.heap.size := by
  have hc : Ch (fun _ => False) W W2 := ((Ch.refl _ W).drew).trans (Ch.new hb)
  have e3 : W2.cell? ⟨Oc, 0, none⟩ = some v := hc.cell h3 (fun h => h)
  refine ⟨⟨hc.mono fun _ _ h => h.elim, fun j hj => ?_⟩, h2.trans (hc.below (fun _ _ h => h.elim) (by have := h2.size; omega)), ⟨e3, (hc.frozenCell h3 (fun h => h)).trans h4⟩, own_same h5 fun g hg => hc.block g (h5.lt g hg).2 (fun h => h), World.block_lt_of_cell? W _ h3⟩
  rcases hj with hj | hj | ⟨v', hv, hj⟩
  · exact .inl (.inl hj)
  · exact .inl (.inr (.inl hj))
  · rw [e3] at hv; injection hv with hv; subst hv
    exact .inl (.inr (.inr ⟨v, h3, hj⟩))
set_option maxHeartbeats 4000000 in
set_option maxRecDepth 100000 in
theorem terms_any {w : World} {V : Nat → Prop} {x : Img} {S : ImgS} (h : ImgAt w V x S) (ht : Tab w) (s : BitVec 32) :
    Calls Tryd.prog 69 #[.agg #[.int .i64 x.res, .slice S.t.sp x.tasks.length S.t.c, .slice S.m.sp x.modes.length S.m.c, .slice S.e.sp x.edges.length S.e.c], .int .u32 (w32 s)] w fun e w' => ∃ v, e = .returned v ∧ w'.ownsRow w.heap.size 118 4 v (tasksL x s).length (rowsOf (termV x (tasksL x s)) (tasksL x s).length) ∧ Below w.heap.size w w' := by
  refine (callsIn_wide (n := 0)).1 ?_
  obtain ⟨i0, hi, hz0, hz1, hz2⟩ := info_parts (show (Tryd.prog.info? 118).map (fun i => (i.zero, i.size, i.bytes)) = some (some (.agg #[.int .i64 0, .int .i64 0, .int .i64 0, .int .i64 0]), 4, 32) from by kernel_rfl)
  have hp := ht.pos
  have HI := Lib.hid h
  have HTb := Lib.hid (show ∀ w', Below w.heap.size w w' → Tab w' from fun w' hb => ht.below hp hb)
  have HLt := Lib.hid (fun (k : Nat) (hk : k < (tasksL x s).length) => tasksL_lt hk)
  have HBl := Lib.hid (show ∀ wx, _ from fun wx => below_any s (x.tasks.length : Int) wx)
  obtain ⟨nT, hnT⟩ : ∃ n, x.tasks.length = n := ⟨_, rfl⟩
  obtain ⟨nM, hnM⟩ : ∃ n, x.modes.length = n := ⟨_, rfl⟩
  obtain ⟨nE, hnE⟩ : ∃ n, x.edges.length = n := ⟨_, rfl⟩
  have HTL := Lib.hid (show tasksL x s = lst (btw s (-1) (nT : Int)) 32 by rw [← hnT]; rfl)
  rw [hnT] at HBl HLt
  rw [hnT, hnM, hnE]
  have HN := Lib.hid hnT
  obtain ⟨y, hy⟩ : ∃ y, btw s (-1) (nT : Int) = y := ⟨_, rfl⟩
  rw [hy] at HBl HTL
  obtain ⟨Z, hZ⟩ : ∃ Z, Z = w.heap.size := ⟨_, rfl⟩
  have HZ := Lib.hid hZ
  clear h ht hp hnT hnM hnE hy
  obtain ⟨L, hL⟩ : ∃ L, tasksL x s = L := ⟨_, rfl⟩
  rw [hL] at HTL HLt ⊢
  clear hL
  have HL32 := Lib.hid (show L.length ≤ 32 by rw [HTL.out]; exact lst_len _ _)
  obtain ⟨N, hN⟩ : ∃ N, L.length = N := ⟨_, rfl⟩
  rw [hN] at HLt HL32 ⊢
  have HNN := Lib.hid hN
  clear hN
  obtain ⟨rf, hrf⟩ : ∃ rf, rowsOf (termV x L) = rf := ⟨_, rfl⟩
  have HRf := Lib.hid (fun k => show rf (k + 1) = rf k ++ termV x L k by rw [← hrf]; exact rowsOf_snoc _ k)
  have HR0 := Lib.hid (show rf 0 = [] by rw [← hrf]; rfl)
  rw [hrf]
  clear hrf
  refine callsIn_of_wp_marks Tryd.func69 rfl trivial ?_ rfl
  simp only [Tryd.ntmps69, List.size_toArray, List.length_cons, List.length_nil, Nat.reduceAdd, Nat.reduceSub, Array.replicate_succ, Array.replicate_zero, List.push_toArray, List.append_toArray, List.nil_append, List.cons_append]
  gi_wp2_with (first
    | (refine ⟨trivial, rfl, ?_⟩; gi_at_call 61; refine (callsIn_wide.2 (HBl.out _)).mono ?_; rintro e w' ⟨rfl, rfl⟩)
    | (refine ⟨trivial, rfl, ?_⟩; gi_at_call 53; refine (callsIn_wide.2 (All_any _ _)).mono ?_; rintro e w' ⟨rfl, rfl⟩)
    | fail)
  obtain ⟨w1, hw1⟩ : ∃ w1, w.alloc (.cells #[.int .i64 x.res, .slice S.t.sp nT S.t.c, .slice S.m.sp nM S.m.c, .slice S.e.sp nE S.e.c] 26) = w1 := ⟨_, rfl⟩
  have z1 : w1.heap.size = Z + 1 := by rw [← hw1, hZ]; simp
  have b1 : Below w.heap.size w w1 := by rw [← hw1]; exact (Below.refl _ w).alloc (Nat.le_refl _) _
  have r1 : RowAt w1 Z 26 #[.int .i64 x.res, .slice S.t.sp nT S.t.c, .slice S.m.sp nM S.m.c, .slice S.e.sp nE S.e.c] := by rw [← hw1, hZ]; exact RowAt.mk _ _ _
  rw [hw1, ← hZ]
  generalize hw3 : World.alloc (World.alloc w1 _) _ = w3
  have b3 : Below w1.heap.size w1 w3 := by rw [← hw3]; exact ((Below.refl _ _).alloc (Nat.le_refl _) _).alloc (by simp) _
  have z3 : w3.heap.size = Z + 3 := by rw [← hw3]; simp [z1]
  have o3 : RowAt w3 (Z + 1) 117 #[.slice none 0 0] := by rw [← hw3, ← z1]; exact (RowAt.mk _ _ _).new ((Below.refl _ _).alloc (Nat.le_refl _) _)
  have s3 : w3.cell? ⟨Z + 2, 0, none⟩ = some (.int .u32 (w32 y)) := by rw [← hw3, show Z + 2 = (w1.alloc (.cells #[.slice none 0 0] 117)).heap.size by simp [z1]]; exact (RowAt.mk _ _ _).cell 0
  have oc : w3.cell? ⟨Z + 1, 0, none⟩ = some (.slice none 0 0) := o3.cell 0
  have H3 := Lib.hid (And.intro z1 (And.intro b1 (And.intro r1 (And.intro b3 (And.intro z3 (And.intro oc (And.intro (o3.fr 0) s3)))))))
  have HI0 := Lib.hid (show IC 118 4 rf w1 (Z + 1) 0 w3 from ⟨by rw [← z1]; exact b3, _, o3.cell 0, o3.fr 0, by rw [HR0.out]; exact World.ownsRow_nil _ _ _ _⟩)
  have HBe := Lib.hid (show ∀ (k : Nat) (W' : World), IC 118 4 rf w1 (Z + 1) k W' → Below w.heap.size w W' from fun k W' h => b1.trans (h.1.mono (by rw [← hZ]; omega)))
  have HS1 := Lib.hid (show Z + 1 ≤ w1.heap.size by omega)
  clear hw1 z1 b1 r1 hw3 b3 z3 o3 oc s3 HBl hZ
  refine wpIn_rangeF3 (gf := 80) (lb := #[.pointer (some ⟨Z + 2, 0, none⟩)]) rfl (enters_of Tryd.func80 (by kernel_rfl) rfl)
    N (fun k => #[.int .i64 (nth (ints L) k)]) (fun _ => rfl) (FC (Z + 1))
    (fun k W => IC 118 4 rf w1 (Z + 1) k W) (fun _ _ _ => False)
    (fun k => IC.foot HS1.out k) (fun _ _ => ⟨fun _ h => h.elim, fun _ _ h => h.elim⟩) HI0.out
    (fun k a' W' => a' = { tmps := #[.agg #[.int .i64 x.res, .slice S.t.sp nT S.t.c, .slice S.m.sp nM S.m.c, .slice S.e.sp nE S.e.c], .int .u32 (w32 s), .pointer (some ⟨Z, 0, none⟩), undef, .slice none 0 0, .pointer (some ⟨Z + 1, 0, none⟩), .int .i64 (nth (ints L) k), .int .u32 (w32 s), .pointer (some ⟨Z, 1, none⟩), .slice S.t.sp nT S.t.c, .int .i64 nT, .int .u32 (w32 y), .func (.func 80) #[] #[.pointer (some ⟨Z + 2, 0, none⟩)], .int .i64 (nth (ints L) k), undef, undef, undef, undef, undef, undef, undef, undef, undef, undef], defers := [] })
    (fun _ _ _ _ h _ => h) ?hit ?assign ?body ?done (fun _ _ _ _ h => h.elim)
  case hit =>
    intro J' Jx' W1 h1 h2 h3 h4 h5 h6 h7 h8
    rw [HTL.out] at h7
    have hN2 : N = (lst y 32).length := by rw [← HNN.out, HTL.out]
    rw [hN2] at h7 ⊢
    exact all_in _ (Z + 2) y _ J' Jx' W1 (fun k W' hJ => HTb.out W' (HBe.out _ W' (h3 k W' hJ).1)) ((h2.cell (p := ⟨Z + 2, 0, none⟩) (show Z + 2 < w3.heap.size by rw [H3.out.2.2.2.2.1]; omega)).trans H3.out.2.2.2.2.2.2.2) h7 h8
  case assign =>
    intro k W K hi' hk hz hK
    rw [H3.out.2.2.2.2.1] at hz
    have HK := Lib.hid hK
    have HKI := Lib.hid hi'
    clear hK hi'
    gi_wp2
    exact HK.out _ _ rfl (Ch.refl _ _) HKI.out (fun _ h => h)
  case body =>
    rintro k a' W hI hk rfl hz ⟨rec0, hrec⟩ hnl
    rw [H3.out.2.2.2.2.1] at hz hrec hnl ⊢
    have hkL : k < L.length := by rw [HNN.out]; exact hk
    have hil := HLt.out k hk
    have hpt := HRf.out k
    unfold termV at hpt
    rw [nth_ints hkL]
    have HBW := Lib.hid (HBe.out k W hI)
    obtain ⟨i, hi'⟩ : ∃ i, L.getD k 0 = i := ⟨_, rfl⟩
    rw [hi'] at hil hpt ⊢
    have HIW := Lib.hid (HI.out.new HBW.out)
    obtain ⟨hcs, h8⟩ := HIW.out.tk i (by rw [HN.out]; exact hil)
    obtain ⟨hsp, -, -⟩ := HIW.out.st.at_ (by rw [HN.out]; omega)
    have q0 : W.cell? ⟨S.t.b, S.t.o + i * 11, none⟩ = some (.int .i64 (x.t i).per) := hcs 0 _ rfl
    have q1 : W.cell? ⟨S.t.b, S.t.o + i * 11 + 1, none⟩ = some (.int .i64 (x.t i).dl) := hcs 1 _ rfl
    have q2 : W.cell? ⟨S.t.b, S.t.o + i * 11 + 2, none⟩ = some (.int .i64 (x.t i).cost) := hcs 2 _ rfl
    have q3 : W.cell? ⟨S.t.b, S.t.o + i * 11 + 3, none⟩ = some (.int .i64 (lonF x i 0)) := hcs 3 _ (lon_at h8 0 (by omega))
    have q4 : W.cell? ⟨S.t.b, S.t.o + i * 11 + 4, none⟩ = some (.int .i64 (lonF x i 1)) := hcs 4 _ (lon_at h8 1 (by omega))
    have q5 : W.cell? ⟨S.t.b, S.t.o + i * 11 + 5, none⟩ = some (.int .i64 (lonF x i 2)) := hcs 5 _ (lon_at h8 2 (by omega))
    have q6 : W.cell? ⟨S.t.b, S.t.o + i * 11 + 6, none⟩ = some (.int .i64 (lonF x i 3)) := hcs 6 _ (lon_at h8 3 (by omega))
    have q7 : W.cell? ⟨S.t.b, S.t.o + i * 11 + 7, none⟩ = some (.int .i64 (lonF x i 4)) := hcs 7 _ (lon_at h8 4 (by omega))
    have q8 : W.cell? ⟨S.t.b, S.t.o + i * 11 + 8, none⟩ = some (.int .i64 (lonF x i 5)) := hcs 8 _ (lon_at h8 5 (by omega))
    have q9 : W.cell? ⟨S.t.b, S.t.o + i * 11 + 9, none⟩ = some (.int .i64 (lonF x i 6)) := hcs 9 _ (lon_at h8 6 (by omega))
    have q10 : W.cell? ⟨S.t.b, S.t.o + i * 11 + 10, none⟩ = some (.int .i64 (lonF x i 7)) := hcs 10 _ (lon_at h8 7 (by omega))
    obtain ⟨f, hf⟩ : ∃ f, lonF x i = f := ⟨_, rfl⟩
    rw [hf] at q3 q4 q5 q6 q7 q8 q9 q10
    obtain ⟨a0, ha0⟩ : ∃ a, (x.t i).per = a := ⟨_, rfl⟩
    obtain ⟨a1, ha1⟩ : ∃ a, (x.t i).dl = a := ⟨_, rfl⟩
    obtain ⟨a2, ha2⟩ : ∃ a, (x.t i).cost = a := ⟨_, rfl⟩
    rw [ha0] at q0 hpt
    rw [ha1] at q1
    rw [ha2] at q2 hpt
    have z1 : W.cell? ⟨Z, 1, none⟩ = some (.slice S.t.sp nT S.t.c) := by
      exact (H3.out.2.2.1.new (by rw [H3.out.1]; exact hI.1)).cell 1
    rw [hsp] at z1 ⊢
    obtain ⟨h2, v, h3, h4, h5⟩ := hI
    obtain ⟨sp', cap, rfl⟩ := own_val h5
    have H5 := Lib.hid h5
    have H1 := Lib.hid h2
    have HP := Lib.hid hpt
    have hi2 : (i : Int) < (nT : Int) := by omega
    clear h2 h5 hpt hcs h8 hf ha0 ha1 ha2 hi' HIW hsp hkL hrec hnl
    gi_wp2
    have HW := Lib.hid (show S.t.b < Z + 2 from by
      have h0 := (HI.out.tk i (by rw [HN.out]; omega)).1 0 _ rfl
      have h1 := World.block_lt_of_cell? w _ h0
      rw [HZ.out]; simp only at h1; omega)
    have HO := Lib.hid (show ∀ w', Ch (fun j => Z + 2 ≤ j) W w' → w'.cell? ⟨Z + 1, 0, none⟩ = some (.slice sp' k cap) from fun w' h => h.cell h3 (by simp))
    have HO2 := Lib.hid (show ∀ w', Ch (fun j => Z + 2 ≤ j) W w' → w'.cell? ⟨Z, 1, none⟩ = some (.slice (some ⟨S.t.b, S.t.o, none⟩) nT S.t.c) from fun w' h => h.cell z1 (by simp))
    have HO5 := Lib.hid (show ∀ w', Ch (fun j => Z + 2 ≤ j) W w' → w'.cell? ⟨S.t.b, S.t.o + i * 11, none⟩ = some (.int .i64 a0) ∧ w'.cell? ⟨S.t.b, S.t.o + i * 11 + 1, none⟩ = some (.int .i64 a1) ∧ w'.cell? ⟨S.t.b, S.t.o + i * 11 + 2, none⟩ = some (.int .i64 a2) ∧ w'.cell? ⟨S.t.b, S.t.o + i * 11 + 3, none⟩ = some (.int .i64 (f 0)) ∧ w'.cell? ⟨S.t.b, S.t.o + i * 11 + 4, none⟩ = some (.int .i64 (f 1)) ∧ w'.cell? ⟨S.t.b, S.t.o + i * 11 + 5, none⟩ = some (.int .i64 (f 2)) ∧ w'.cell? ⟨S.t.b, S.t.o + i * 11 + 6, none⟩ = some (.int .i64 (f 3)) ∧ w'.cell? ⟨S.t.b, S.t.o + i * 11 + 7, none⟩ = some (.int .i64 (f 4)) ∧ w'.cell? ⟨S.t.b, S.t.o + i * 11 + 8, none⟩ = some (.int .i64 (f 5)) ∧ w'.cell? ⟨S.t.b, S.t.o + i * 11 + 9, none⟩ = some (.int .i64 (f 6)) ∧ w'.cell? ⟨S.t.b, S.t.o + i * 11 + 10, none⟩ = some (.int .i64 (f 7)) from fun w' h => by
      have hT : ¬ (Z + 2 ≤ S.t.b) := by have := HW.out; omega
      exact ⟨h.cell q0 hT, h.cell q1 hT, h.cell q2 hT, h.cell q3 hT, h.cell q4 hT, h.cell q5 hT, h.cell q6 hT, h.cell q7 hT, h.cell q8 hT, h.cell q9 hT, h.cell q10 hT⟩)
    have H34 := Lib.hid (And.intro h3 h4)
    clear h3 h4 q0 q1 q2 q3 q4 q5 q6 q7 q8 q9 q10 z1
    refine wpIn_region_g0 (fun w' => Ch (fun j => Z + 2 ≤ j) W w') 9 (by kernel_rfl) (by kernel_rfl) (fun _ _ h => h) ((Ch.refl _ W).drew) (fun hS => ?_)
    refine wpAnyG_take (i := 0) (oi := { dst := some 14, op := .load 117 (.tmp 5), type := 117, pos := "demand.go:46", after := #[], guard := none }) (v := ?_) rfl (by kernel_rfl) (by kernel_rfl) (by kernel_rfl) (by kernel_rfl) (fun _ _ _ h => h) (Or.inl ⟨by rfl, ?_⟩) hS ?_
    rotate_left 1
    · intro w hw; obtain hs := hw; have k0 := HO.out _ hw; go_simp; try (with_reducible rfl)
    simp only [Act.put, List.setIfInBounds_toArray, List.set_cons_zero, List.set_cons_succ]
    refine wpAnyG_take (i := 1) (oi := { dst := some 15, op := .fieldAddr 26 (.tmp 2) 1, type := 0, pos := "demand.go:46", after := #[], guard := none }) (v := ?_) rfl (by kernel_rfl) (by kernel_rfl) (by kernel_rfl) (by kernel_rfl) (fun _ _ _ h => h) (Or.inl ⟨by rfl, ?_⟩) hS ?_
    rotate_left 1
    · intro w hw; obtain hs := hw; go_simp; try (with_reducible rfl)
    simp only [Act.put, List.setIfInBounds_toArray, List.set_cons_zero, List.set_cons_succ]
    refine wpAnyG_take (i := 2) (oi := { dst := some 16, op := .load 22 (.tmp 15), type := 22, pos := "demand.go:46", after := #[{ on := 1, ground := .data }], guard := none }) (v := ?_) rfl (by kernel_rfl) (by kernel_rfl) (by kernel_rfl) (by kernel_rfl) (fun _ _ _ h => h) (Or.inl ⟨by rfl, ?_⟩) hS ?_
    rotate_left 1
    · intro w hw; obtain hs := hw; have k0 := HO2.out _ hw; go_simp; try (with_reducible rfl)
    simp only [Act.put, List.setIfInBounds_toArray, List.set_cons_zero, List.set_cons_succ]
    refine wpAnyG_take (i := 3) (oi := { dst := some 17, op := .move (.tmp 6), type := 3, pos := "demand.go:46", after := #[], guard := none }) (v := ?_) rfl (by kernel_rfl) (by kernel_rfl) (by kernel_rfl) (by kernel_rfl) (fun _ _ _ h => h) (Or.inl ⟨by rfl, ?_⟩) hS ?_
    rotate_left 1
    · intro w hw; obtain hs := hw; go_simp; try (with_reducible rfl)
    simp only [Act.put, List.setIfInBounds_toArray, List.set_cons_zero, List.set_cons_succ]
    refine wpAnyG_take (i := 4) (oi := { dst := some 18, op := .indexAddr 22 (.tmp 16) (.tmp 17), type := 0, pos := "demand.go:46", after := #[{ on := 2, ground := .data }, { on := 3, ground := .data }], guard := none }) (v := ?_) rfl (by kernel_rfl) (by kernel_rfl) (by kernel_rfl) (by kernel_rfl) (fun _ _ _ h => h) (Or.inl ⟨by rfl, ?_⟩) hS ?_
    rotate_left 1
    · intro w hw; obtain hs := hw; go_simp; try (with_reducible rfl)
    simp only [Act.put, List.setIfInBounds_toArray, List.set_cons_zero, List.set_cons_succ]
    refine wpAnyG_take (i := 5) (oi := { dst := some 19, op := .load 70 (.tmp 18), type := 70, pos := "demand.go:46", after := #[{ on := 4, ground := .data }], guard := none }) (v := ?_) rfl (by kernel_rfl) (by kernel_rfl) (by kernel_rfl) (by kernel_rfl) (fun _ _ _ h => h) (Or.inl ⟨by rfl, ?_⟩) hS ?_
    rotate_left 1
    · intro w hw; obtain hs := hw; obtain ⟨k0, k1, k2, k3, k4, k5, k6, k7, k8, k9, k10⟩ := HO5.out _ hw; go_simp; try (with_reducible rfl)
    simp only [Act.put, List.setIfInBounds_toArray, List.set_cons_zero, List.set_cons_succ]
    refine wpAnyG_ready (rs := [6]) (by kernel_rfl) (by simp) (AllReadyG.cons (o := { dst := some 20, op := .call { callee := .value (.func 63), args := #[.tmp 19, .const (.int .i64 0)], argTypes := #[70, 3] }, type := 118, pos := "demand.go:46", after := #[{ on := 5, ground := .data }], guard := none }) rfl (fun K hK => ?_) AllReadyG.nil)
    go_simp
    go_at_call 63
    refine (dOf_any a0 a1 a2 f 0 _).mono ?_
    rintro e W2 ⟨rfl, hb2⟩
    have H2 := Lib.hid (terms_same H34.out.1 H34.out.2 H5.out H1.out HS1.out hb2)
    have H6 := Lib.hid (show Ch (fun j => Z + 2 ≤ j) W W2 from ((Ch.refl _ W).drew).trans (Ch.new hb2))
    clear hb2
    try dsimp only
    refine hK.out _ _ H6.out (fun hHeld => ?_)
    clear hK K
    try simp only [Act.put, List.setIfInBounds_toArray, List.set_cons_zero, List.set_cons_succ]
    refine wpAnyG_ready (rs := [7]) (by kernel_rfl) (by simp) (AllReadyG.cons (o := { dst := some 21, op := .buildSlice 117 1 #[(0, .tmp 20)], type := 117, pos := "demand.go:46", after := #[{ on := 6, ground := .data }], guard := none }) rfl (fun K hK => ?_) AllReadyG.nil)
    go_simp
    refine hK.out _ _ (H6.out.alloc _) (fun hHeld => ?_)
    clear hK K
    try simp only [Act.put, List.setIfInBounds_toArray, List.set_cons_zero, List.set_cons_succ]
    refine wpAnyG_ready (rs := [8]) (by kernel_rfl) (by simp) (AllReadyG.cons (o := { dst := some 22, op := .call { callee := .builtin .append, args := #[.tmp 14, .tmp 21], argTypes := #[117, 117] }, type := 117, pos := "demand.go:46", after := #[{ on := 0, ground := .data }, { on := 7, ground := .data }, { on := 6, ground := .chain }], guard := none }) rfl (fun K hK => ?_) AllReadyG.nil)
    rw [if_pos (by rfl)]
    refine wp_append_vary (.tmp 14) (.tmp 21) 117 (by rfl) (Z + 1 + 1) 118 i0 (.agg #[.int .i64 0, .int .i64 0, .int .i64 0, .int .i64 0]) 4 32 Tryd.underlying117 hi hz0 hz1 hz2 rfl (by decide) (.slice sp' k cap) k _ (by rfl) (H2.out.2.2.2.1.alloc _) (some ⟨W2.heap.size, 0, none⟩) 1 1 [.int .i64 a0, .int .i64 a2, .int .i64 0, .int .i64 0] (by rfl) rfl (fun h => nomatch h) (fun ad h => by obtain rfl := Option.some.inj h; exact four_new _ _ _ _ _ _) (by simp [Value.oneCell']) (by have := HL32.out; unfold maxLen; omega) (by have := HL32.out; omega) (by have := H2.out.2.2.2.2; have := H2.out.1.1.size; simp; omega) ?_
    intro v' w4 hown' hgrow hat
    obtain ⟨sp2, cap', rfl⟩ := own_val hown'
    have HG := Lib.hid (IC.grow (rf := rf) H2.out.2.1 HS1.out H2.out.2.2.1.1 H2.out.2.2.1.2 H2.out.2.2.2.1 (by rw [HP.out]; exact hown') hgrow hat)
    have gA : w4.cell? ⟨Z + 1, 0, none⟩ = some (.slice sp' k cap) := (grow_cell H2.out.2.2.1.1 H2.out.2.2.1.2 H2.out.2.2.2.1 hgrow).1
    have gB : w4.frozen? ⟨Z + 1, 0, none⟩ = false := (grow_cell H2.out.2.2.1.1 H2.out.2.2.1.2 H2.out.2.2.2.1 hgrow).2
    have H8 := Lib.hid (show Ch (fun j => Z + 2 ≤ j) W w4 from (H6.out.alloc _).trans ((ch_grown hgrow).mono fun j _ hj => by have := own_ge H2.out.2.2.2.1 j hj; omega))
    clear hown' hgrow hat
    refine hK.out _ _ H8.out (fun hHeld => ?_)
    clear hK K
    try simp only [Act.put, List.setIfInBounds_toArray, List.set_cons_zero, List.set_cons_succ]
    refine wpAnyG_ready (rs := [9]) (by kernel_rfl) (by simp) (AllReadyG.last (o := { dst := none, op := .store 117 (.tmp 5) (.tmp 22), type := 0, pos := "demand.go:46", after := #[{ on := 8, ground := .data }, { on := 8, ground := .chain }, { on := 0, ground := .phase }, { on := 1, ground := .phase }, { on := 2, ground := .phase }, { on := 3, ground := .phase }, { on := 4, ground := .phase }, { on := 5, ground := .phase }, { on := 6, ground := .phase }, { on := 7, ground := .phase }, { on := 8, ground := .phase }], guard := none }) rfl (fun K hK => ?_))
    go_simp
    refine hK.out _ _ ?_
    clear hK K
    try simp only [Act.put, List.setIfInBounds_toArray, List.set_cons_zero, List.set_cons_succ]
    refine wpAnyG_done (by kernel_rfl) ?_ _

    exact ⟨H2.out.1.trans HG.out.1, HG.out.2⟩
  case done =>
    rintro A ⟨h2, v, h3, h4, h5⟩ hD hnD hz
    rw [H3.out.2.2.2.2.1] at hD hnD hz
    obtain ⟨sp', cap, rfl⟩ := own_val h5
    have hne : ∀ g, (Value.slice sp' N cap).ownBlock = some g → g ≠ Z + 3 := fun g hg e => by subst e; exact hnD (.inr (.inr ⟨_, h3, hg⟩))
    have HK := Lib.hid (And.intro h2 (And.intro h5 (And.intro hD hne)))
    clear h2 h5 hD hnD hne
    gi_wp2
    rw [H3.out.2.2.2.2.1]
    have hp : Ch (fun j => j = Z + 3) A (A.putObj (Z + 3) (.deferred none)) := (Ch.refl _ _).putObj _ _ rfl
    refine ⟨by simp, .inl ⟨_, _, rfl, run_takeDeferred HK.out.2.2.1, ?_⟩⟩
    have hZ := HZ.out
    refine ⟨.slice sp' N cap, ?_, _, rfl, ?_, ?_⟩
    · simp [results, Tryd.results69, go_sem]
    · have h8 : (A.putObj (Z + 3) (.deferred none)).ownsRow (Z + 1 + 1) 118 4 (.slice sp' N cap) N (rf N) := own_same HK.out.2.1 fun g hg => hp.block g (HK.out.2.1.lt g hg).2 (HK.out.2.2.2 g hg)
      exact own_mono h8 (by omega)
    · have h9 : Below (Z + 1) A (A.putObj (Z + 3) (.deferred none)) := hp.below (fun j hj e => by have : j < Z + 1 := hj; have : j = Z + 3 := e; omega) (by have : Z + 3 + 2 ≤ A.heap.size := hz; omega)
      exact H3.out.2.1.trans ((HK.out.1.trans h9).mono (by omega))
end Go.Proofs.YtchmdnmifpjfkaaDoor
/- Plain laws of this prover's own on a range over a function: what a loop owes and gets when its iterator keeps blocks of its own, stated by numbers of rounds. No statement about the program. -/
namespace Go.Proofs.YtchmdnmifpjfkaaDoor
open Go.RowKit

/-- How a round's body may be left; Tb: the blocks that it may turn. -/
def roundEnd (Tb : Nat → Prop) (I : Nat → World → Prop) (Ix : Code → Nat → World → Prop) (k : Nat) (W : World) : Exit → Act → World → Prop
  | .normal, _, W' => Ch Tb W W' ∧ I k W'
  | .ret, _, W' => Ch Tb W W' ∧ Ix .ret k W'
  | .exit id, _, W' => Ch Tb W W' ∧ Ix (.exit id) k W'
  | .goto t, _, W' => Ch Tb W W' ∧ Ix (.goto t) k W'
  | .panic _, _, _ => False
  | .outgrown, _, _ => False

/-- What an iterator may count on, and what it gives: N rounds at most, the k-th with args k. own: its own blocks; T: what a round may turn. -/
def IterX (P : Program) (gf : Nat) (lb : Array Value) (l : Nat) (N : Nat) (_args : Nat → Array Value) (_T : Nat → Prop) (J Jx : Nat → World → Prop) (W : World) : Prop :=
  CallsIn Fence.wide 0 P gf (#[.func (.yield l) #[] #[]] ++ lb) W fun e W' => (∃ v, e = .returned v) ∧ (J N W' ∨ ∃ k, k ≤ N ∧ Jx k W')

/-- A round of the loop whose record is l. -/
def Rounds (P : Program) (l N : Nat) (args : Nat → Array Value) (T : Nat → Prop) (J Jx : Nat → World → Prop) : Prop :=
  ∀ k W, J k W → k < N → YieldAt Fence.wide 0 P l (args k) W fun e W' =>
    (e = .returned (.bool true) ∧ J (k + 1) W' ∧ Ch T W W') ∨ (e = .returned (.bool false) ∧ Jx (k + 1) W')

variable {P : Program}

/-- THE LOOP: an invariant I of the rounds, stable under the iterator's own blocks and the loop's two; Ix: where a round has left by a jump. -/
theorem wpIn_range {g : Operand} {ps : Array Tmp} {assign body : Code} {Q : Exit → Act → World → Prop} {a : Act} {w : World}
    {gf : Nat} {lb : Array Value} (hg : a.eval g = .func (.func gf) #[] lb) (eg : ∀ args w, (callFunc gf args).run P w = .ok (.enter gf args) w)
    (N : Nat) (args : Nat → Array Value) (hps : ∀ k, (args k).size = ps.size) (Tb own : Nat → Prop)
    (hTb : ∀ k, Tb k → k ≠ w.heap.size ∧ k ≠ w.heap.size + 1) (hown : ∀ k, own k → w.heap.size + 2 ≤ k)
    (I : Nat → World → Prop) (Ix : Code → Nat → World → Prop)
    (hI : ∀ k W W', I k W → Ch (fun j => own j ∨ j = w.heap.size ∨ j = w.heap.size + 1) W W' → I k W')
    (hIx : ∀ c k W W', Ix c k W → Ch (fun j => own j ∨ j = w.heap.size ∨ j = w.heap.size + 1) W W' → Ix c k W')
    (h0 : I 0 w) (Ax : Nat → Act → World → Prop)
    (hAx : ∀ k a' W W', Ax k a' W → Ch (fun j => j = w.heap.size + 1) W W' → Ax k a' W')
    (hit : ∀ J Jx W1, w.heap.size + 2 = W1.heap.size → Below w.heap.size w W1 →
      (∀ k W, J k W → I k W) → (∀ k W, Jx k W → ∃ c, Ix c k W) →
      (∀ k W W', J k W → Ch own W W' → J k W') → (∀ k W W', Jx k W → Ch own W W' → Jx k W') →
      Rounds P (w.heap.size + 1) N args (fun j => Tb j ∨ j = w.heap.size + 1) J Jx → J 0 W1 →
      IterX P gf lb (w.heap.size + 1) N args (fun j => Tb j ∨ j = w.heap.size + 1) J Jx W1)
    (hassign : ∀ k W (K : Act → World → Prop), I k W → k < N → (∀ a' W', Ax k a' W' → Ch (fun _ => False) W W' → I k W' → K a' W') →
      assign.wpIn (Fence.wide.inRound (w.heap.size + 1)) 0 P (Exit.then K (fun _ _ _ => False)) { tmps := (ps.zip (args k)).foldl (fun t (p, v) => t.setIfInBounds p v) a.tmps, defers := [] } W)
    (hbody : ∀ k a' W, I k W → k < N → Ax k a' W → w.heap.size + 2 ≤ W.heap.size → body.wpIn (Fence.wide.inRound (w.heap.size + 1)) 0 P (roundEnd Tb I Ix (k + 1) W) a' W)
    (hdone : ∀ W, I N W → W.heap[w.heap.size]? = some (.deferred (some [])) → Q .normal { a with defers := { target := .collected w.heap.size, args := #[] } :: a.defers } W)
    (hstop : ∀ c k W, k ≤ N → Ix c k W → W.heap[w.heap.size]? = some (.deferred (some [])) → c.wpIn Fence.wide 0 P Q { a with defers := { target := .collected w.heap.size, args := #[] } :: a.defers } W) :
    (Code.rangeFunc g ps assign body).wpIn Fence.wide 0 P Q a w := by
  refine wpIn_rangeFunc fun fn hfn => ?_
  let mk : LoopState → Option Code → Obj := fun st pe => .loop { state := st, pending := pe, fn, tmps := a.tmps, params := ps, assign, body, defers := w.heap.size }
  let D := w.heap.size
  let l := w.heap.size + 1
  let W1 := (w.alloc (.deferred (some []))).alloc (mk .ready none)
  have z1 : W1.heap.size = w.heap.size + 2 := by simp [W1]
  have l1 : W1.heap[l]? = some (mk .ready none) := by
    have := World.alloc_heap_new (w.alloc (.deferred (some []))) (mk .ready none); rwa [World.size_alloc] at this
  have d1 : W1.heap[D]? = some (.deferred (some [])) := by
    rw [Below.heap_alloc _ _ _ (by simp [D])]; exact World.alloc_heap_new w _
  have c1 : Ch (fun j => own j ∨ j = D ∨ j = l) w W1 := ((Ch.refl _ w).alloc _).alloc _
  have st : ∀ {k W W'} {B : Nat → Prop}, I k W → Ch B W W' → (∀ j, B j → own j ∨ j = D ∨ j = l) → I k W' := fun h c hb => hI _ _ _ h (c.mono fun j _ => hb j)
  have stx : ∀ {c k W W'} {B : Nat → Prop}, Ix c k W → Ch B W W' → (∀ j, B j → own j ∨ j = D ∨ j = l) → Ix c k W' := fun h c hb => hIx _ _ _ _ h (c.mono fun j _ => hb j)
  have nl : ∀ {T : Nat → Prop} {W W' : World} {o : Obj} {j : Nat}, Ch T W W' → ¬ T j → W.heap[j]? = some o → W'.heap[j]? = some o := fun c ht h => c.obj h ht
  have ownD : ¬ own D := fun h => by have := hown _ h; simp only [D] at this; omega
  have ownl : ¬ own l := fun h => by have := hown _ h; simp only [l] at this; omega
  have TbD : ¬ Tb D := fun h => (hTb _ h).1 rfl
  have Tbl : ¬ Tb l := fun h => (hTb _ h).2 rfl
  refine ⟨l, [{ target := .collected D, args := #[] }], W1, { target := .fn (.func gf) lb, args := #[.func (.yield l) #[] #[]] }, W1, gf, #[.func (.yield l) #[] #[]] ++ lb, W1,
    run_enterLoop_outer _ _ _ _ _, ?_, fun _ _ => trivial, ?_, fun h => absurd h (by simp [Fence.wide]), ?_⟩
  · simp only [resolve, hg]; simp [go_sem]
  · simp [invoke, go_sem, eg]
  refine (hit (fun k W => I k W ∧ W.heap[l]? = some (mk .ready none) ∧ W.heap[D]? = some (.deferred (some [])) ∧ w.heap.size + 2 ≤ W.heap.size)
    (fun k W => ∃ c, Ix c k W ∧ W.heap[l]? = some (mk .done (some c)) ∧ W.heap[D]? = some (.deferred (some []))) W1 z1.symm
    (((Below.refl _ w).alloc (Nat.le_refl _) _).alloc (by simp) _) (fun _ _ h => h.1) (fun _ _ h => ⟨h.choose, h.choose_spec.1⟩)
    (fun k W W' h c => ⟨st h.1 c (fun j hj => .inl hj), nl c ownl h.2.1, nl c ownD h.2.2.1, Nat.le_trans h.2.2.2 c.size⟩)
    (fun k W W' h c => ⟨h.choose, stx h.choose_spec.1 c (fun j hj => .inl hj), nl c ownl h.choose_spec.2.1, nl c ownD h.choose_spec.2.2⟩)
    ?_ ⟨st h0 c1 (fun j hj => hj), l1, d1, by omega⟩).mono ?_
  · rintro k W ⟨hi, hl, hd, hz⟩ hk
    refine ⟨fn, _, assign, body, run_yield hl (hps k), roundIn_of_wpIn hfn (hassign k W _ hi hk fun a' W2 ha c2 hi2 => ?_)⟩
    have hl2 := nl c2 (fun h => h) hl
    refine ⟨_, run_beginRound hl2 rfl, ?_⟩
    have cb : Ch (fun j => j = l) W2 (W2.putObj l (mk .busy none)) := (Ch.refl _ W2).putObj _ _ rfl
    have hlb : (W2.putObj l (mk .busy none)).heap[l]? = some (mk .busy none) := World.putObj_heap_same (Array.getElem?_eq_some_iff.1 hl2).1
    have hdb := nl cb (fun h : D = l => by simp [D, l] at h) (nl c2 (fun h => h) hd)
    refine wpIn_mono (hbody k a' _ (st hi2 cb fun j hj => .inr (.inr hj)) hk (hAx _ _ _ _ ha cb) (Nat.le_trans (Nat.le_trans hz c2.size) cb.size)) ?_
    have fin : ∀ (jump : Option Code) (W3 : World), Ch Tb (W2.putObj l (mk .busy none)) W3 →
        ∃ W4, (Instr.endRound l jump).run P W3 = .ok (.bool jump.isNone) W4 ∧ Ch (fun j => j = l) W3 W4 ∧
          W4.heap[l]? = some (mk (if jump.isNone then .ready else .done) jump) ∧ W4.heap[D]? = some (.deferred (some [])) ∧ Ch (fun j => Tb j ∨ j = l) W W4 := fun jump W3 c3 => by
      have hl3 := nl c3 Tbl hlb
      have c4 : Ch (fun j => j = l) W3 (W3.putObj l (mk (if jump.isNone then .ready else .done) jump)) := (Ch.refl _ W3).putObj _ _ rfl
      exact ⟨_, run_endRound jump hl3, c4, World.putObj_heap_same (Array.getElem?_eq_some_iff.1 hl3).1, nl c4 (fun h : D = l => by simp [D, l] at h) (nl c3 TbD hdb),
        (((c2.mono fun _ _ h => h.elim).trans (cb.mono fun j _ hj => .inr hj)).trans (c3.mono fun j _ hj => .inl hj)).trans (c4.mono fun j _ hj => .inr hj)⟩
    rintro e a3 W3 hp
    cases e with
    | normal =>
      obtain ⟨W4, hr, c4, hl4, hd4, call⟩ := fin none W3 hp.1
      exact ⟨_, _, hr, .inl ⟨rfl, ⟨st hp.2 c4 fun j hj => .inr (.inr hj), hl4, hd4, Nat.le_trans hz call.size⟩, call⟩⟩
    | ret =>
      obtain ⟨W4, hr, c4, hl4, hd4, call⟩ := fin (some .ret) W3 hp.1
      exact ⟨_, _, hr, .inr ⟨rfl, _, stx hp.2 c4 fun j hj => .inr (.inr hj), hl4, hd4⟩⟩
    | exit id =>
      obtain ⟨W4, hr, c4, hl4, hd4, call⟩ := fin (some (.exit id)) W3 hp.1
      exact ⟨_, _, hr, .inr ⟨rfl, _, stx hp.2 c4 fun j hj => .inr (.inr hj), hl4, hd4⟩⟩
    | goto t =>
      obtain ⟨W4, hr, c4, hl4, hd4, call⟩ := fin (some (.goto t)) W3 hp.1
      exact ⟨_, _, hr, .inr ⟨rfl, _, stx hp.2 c4 fun j hj => .inr (.inr hj), hl4, hd4⟩⟩
    | panic ch => exact hp.elim
    | outgrown => exact hp.elim
  · rintro e W2 ⟨⟨v, rfl⟩, (⟨hi, hl, hd, -⟩ | ⟨k, hk, c, hi, hl, hd⟩)⟩
    · have c4 : ∀ o, Ch (fun j => j = l) W2 (W2.putObj l o) := fun o => (Ch.refl _ W2).putObj _ _ rfl
      exact ⟨none, _, run_endLoop hl (by simp), hdone _ (st hi (c4 _) fun j hj => .inr (.inr hj)) (nl (c4 _) (fun h : D = l => by simp [D, l] at h) hd)⟩
    · have c4 : ∀ o, Ch (fun j => j = l) W2 (W2.putObj l o) := fun o => (Ch.refl _ W2).putObj _ _ rfl
      exact ⟨some c, _, run_endLoop hl (by simp), hstop c k _ hk (stx hi (c4 _) fun j hj => .inr (.inr hj)) (nl (c4 _) (fun h : D = l => by simp [D, l] at h) hd)⟩

end Go.Proofs.YtchmdnmifpjfkaaDoor
