/- Several texts in one: FU, Last, FV, FW. -/
import Derived.Test.YthpagbfabpfngaaPk05
import Derived.Deep.Cut
import Derived.Deep.CutRange
import Derived.OrdersHeld
import Derived.Deep.RegionHeld
import Derived.WalkKit
import Derived.ProofKit
/- The contract of the reference's Program. -/
namespace Go.Proofs.Ythpagbfabpfngaa
open Go.RowKit
variable {n0 n1 n2 : Int} {bL nL cL bW nW cW : Nat} {off ar : Bool} {af sd op : Int}
set_option maxHeartbeats 1000000 in
theorem progV_put (w : World) (d : Dev) (s k : Int) (i j m t : Nat) (off' ar' : Bool) (af' op' : Int) (X Y : BitVec 32) (hi : ∀ w, Calls Try.prog 112 #[vD n0 n1 n2 bL nL cL bW nW cW false ar af sd op, .int .i64 s, .int .i64 k] w fun e w' => e = .returned (.bool true) ∧ Below w.heap.size w w')
    (m1 : IntKind.i64.wrap (s * n1) = (m : Int)) (m2 : IntKind.i64.wrap ((m : Int) + k) = (t : Int)) (ht : t < nL) (hr : RefIn w bL bW d) (hi1 : i < d.ns) (hj1 : j < d.nw) (hij : i * d.nw + j = t) (hY : d.word i j = Y) (hne : (w32 (X ||| Y) == w32 Y) = true)
    (hcp : ∀ w2, RefIn w2 bL bW d → Calls Try.prog 113 #[vD n0 n1 n2 bL nL cL bW nW cW false ar af sd op] w2 fun e w' => ∃ bL' cL' bW' cW', e = .returned (vD n0 n1 n2 bL' nL cL' bW' nW cW' false ar af sd op) ∧ RefIn w' bL' bW' d ∧ w2.heap.size ≤ bL' ∧ w2.heap.size ≤ bW' ∧ nL ≤ cL' ∧ Below w2.heap.size w2 w')
    (hgo : ∀ bL cL bW cW w2, Calls Try.prog 114 #[vD n0 n1 n2 bL nL cL bW nW cW false ar af sd op] w2 fun e w' => e = .returned (.tuple #[vD n0 n1 n2 bL nL cL bW nW cW off' ar' af' sd op', .bool false]) ∧ Below w2.heap.size w2 w') :
    Calls Try.prog 92 #[vD n0 n1 n2 bL nL cL bW nW cW false ar af sd op, .int .i64 s, .int .i64 k, .int .u32 (w32 X)] w fun e w' =>
    ∃ bL' cL' bW' cW', e = .returned (.tuple #[vD n0 n1 n2 bL' nL cL' bW' nW cW' off' ar' af' sd op', .int .i64 0]) ∧ RefIn w' bL' bW' (d.put i j (X)) ∧ w.heap.size ≤ bL' ∧ w.heap.size ≤ bW' ∧ nL ≤ cL' ∧ Below w.heap.size w w' := by
  have HI := Lib.hid hi
  have HT := Lib.hid (TwoAt.start w n0 n1 n2 bL nL cL bW nW cW false ar af sd op)
  have HC := Lib.hid (fun (w2 : World) (hb : Below w.heap.size w w2) => hr.new hb)
  have HCP := Lib.hid hcp
  have HGO := Lib.hid hgo
  have hcl := hr.cl i j hi1 hj1
  have HIJ := Lib.hid (And.intro hi1 (And.intro hj1 hij))
  have HY := Lib.hid hY
  have t0 : (0 : Int) ≤ (t : Int) := by omega
  have t1 : (t : Int) < (nL : Int) := by omega
  have hor := or32 X Y
  have hn2 : (w32 (X ||| Y) == w32 Y) = true := hne
  obtain ⟨B, hB⟩ : ∃ B, w.heap.size = B := ⟨_, rfl⟩
  clear hi hne ht hr hcp hgo hcl hi1 hj1 hij hY
  go_enter Try.func92, Try.ntmps92
  rw [hB]
  go_wp2_with (first
    | (go_at_call 112; go_must (refine (HI.out _).mono ?_; rintro e w1 ⟨rfl, hb⟩; have h1 := HT.out.new hb; have hr1 := HC.out _ h1.b; have hc1 := hr1.cl i j HIJ.out.1 HIJ.out.2.1; rw [HIJ.out.2.2, HY.out] at hc1; have H1 := Lib.hid (And.intro h1 hr1); obtain ⟨x1, y1, b1⟩ := h1; rw [hB] at x1; have c0 := x1.cell 0 _ rfl; have c1 := x1.cell 1 _ rfl; have c2 := x1.cell 2 _ rfl; have c3 := x1.cell 3 _ rfl; have c4 := x1.cell 4 _ rfl; have c5 := x1.cell 5 _ rfl; have c6 := x1.cell 6 _ rfl; have c7 := x1.cell 7 _ rfl; have c8 := x1.cell 8 _ rfl; have c9 := x1.cell 9 _ rfl; clear hb x1 y1 b1 hr1))
    | fail)
  go_quiet (fail)
  go_upto_region 11 with (first
    | (go_at_call 113; go_must (
        refine (HCP.out _ (H1.out.2.drewN _)).mono ?_
        rintro e w2 ⟨bL', cL', bW', cW', rfl, hr2, hb2L, hb2W, hcap2, hb2⟩
        have HCAP := Lib.hid hcap2
        clear hcap2
        have h2 := H1.out.1.new ((below_dn (Below.refl _ _) _).trans hb2)
        have hlt : B + 1 < w1.heap.size := by have := H1.out.1.y.lt; omega
        have hb2L' : w1.heap.size ≤ bL' := hb2L
        have hb2W' : w1.heap.size ≤ bW' := hb2W
        have H2 := Lib.hid (And.intro h2 (And.intro hr2 (And.intro (show B + 1 < bL' by omega) (show B + 1 < bW' by omega))))
        obtain ⟨x2, y2, b2⟩ := h2; rw [hB] at x2
        clear c0 c1 c2 c3 c4 c5 c6 c7 c8 c9
        have g0 := x2.cell 0 _ rfl; have g1 := x2.cell 1 _ rfl; have g2 := x2.cell 2 _ rfl; have g3 := x2.cell 3 _ rfl; have g4 := x2.cell 4 _ rfl; have g5 := x2.cell 5 _ rfl; have g6 := x2.cell 6 _ rfl; have g7 := x2.cell 7 _ rfl; have g8 := x2.cell 8 _ rfl; have g9 := x2.cell 9 _ rfl; have h0 := x2.fr 0; have h1 := x2.fr 1; have h2 := x2.fr 2; have h3 := x2.fr 3; have h4 := x2.fr 4; have h5 := x2.fr 5; have h6 := x2.fr 6; have h7 := x2.fr 7; have h8 := x2.fr 8; have h9 := x2.fr 9
        clear hr2 hb2L hb2W hb2 x2 y2 b2 hlt hb2L' hb2W'))
    | (go_at_call 114; go_must (
        refine (HGO.out _ _ _ _ _).mono ?_
        rintro e w3 ⟨rfl, hb3⟩
        have h3 := (H2.out.1.put rfl (.int .i64 n0) (.int .i64 n1) (.int .i64 n2) (.slice (some ⟨bL', 0, none⟩) nL cL') (.slice (some ⟨bW', 0, none⟩) nW cW') (.bool false) (.bool ar) (.int .i64 af) (.int .u32 sd) (.int .i64 op)).new (by rw [hB]; exact hb3)
        have hr3 := (H2.out.2.1.keep (ch_put w2 B (.int .i64 n0) (.int .i64 n1) (.int .i64 n2) (.slice (some ⟨bL', 0, none⟩) nL cL') (.slice (some ⟨bW', 0, none⟩) nW cW') (.bool false) (.bool ar) (.int .i64 af) (.int .u32 sd) (.int .i64 op)) (by have := H2.out.2.2.1; omega) (by have := H2.out.2.2.2; omega)).new hb3
        have H3 := Lib.hid (And.intro h3 hr3)
        obtain ⟨x3, y3, b3⟩ := h3; rw [hB] at x3
        clear g0 h0 g1 h1 g2 h2 g3 h3 g4 h4 g5 h5 g6 h6 g7 h7 g8 h8 g9 h9
        have c0 := x3.cell 0 _ rfl; have c1 := x3.cell 1 _ rfl; have c2 := x3.cell 2 _ rfl; have c3 := x3.cell 3 _ rfl; have c4 := x3.cell 4 _ rfl; have c5 := x3.cell 5 _ rfl; have c6 := x3.cell 6 _ rfl; have c7 := x3.cell 7 _ rfl; have c8 := x3.cell 8 _ rfl; have c9 := x3.cell 9 _ rfl; have f0 := x3.fr 0; have f1 := x3.fr 1; have f2 := x3.fr 2; have f3 := x3.fr 3; have f4 := x3.fr 4; have f5 := x3.fr 5; have f6 := x3.fr 6; have f7 := x3.fr 7; have f8 := x3.fr 8; have f9 := x3.fr 9
        clear hr3 x3 y3 b3 hb3))
    | fail)
  have h4 := H3.out.1.put rfl (.int .i64 n0) (.int .i64 n1) (.int .i64 n2) (.slice (some ⟨bL', 0, none⟩) nL cL') (.slice (some ⟨bW', 0, none⟩) nW cW') (.bool off') (.bool ar') (.int .i64 af') (.int .u32 sd) (.int .i64 op')
  have hr4 := H3.out.2.keep (ch_put w3 B (.int .i64 n0) (.int .i64 n1) (.int .i64 n2) (.slice (some ⟨bL', 0, none⟩) nL cL') (.slice (some ⟨bW', 0, none⟩) nW cW') (.bool off') (.bool ar') (.int .i64 af') (.int .u32 sd) (.int .i64 op')) (by have := H2.out.2.2.1; omega) (by have := H2.out.2.2.2; omega)
  rw [hB] at h4
  generalize hw4 : World.setCell _ _ _ = w4 at h4 hr4 ⊢
  have q1 := hr4.cl i j HIJ.out.1 HIJ.out.2.1
  have q2 := hr4.fl (i * d.nw + j) (flat_lt _ _ _ _ HIJ.out.1 HIJ.out.2.1)
  rw [HIJ.out.2.2] at q1 q2
  rw [HY.out] at q1
  have H4 := Lib.hid (And.intro h4 hr4)
  obtain ⟨x4, y4, b4⟩ := h4
  rw [hB] at x4 y4
  clear c0 f0 c1 f1 c2 f2 c3 f3 c4 f4 c5 f5 c6 f6 c7 f7 c8 f8 c9 f9 hw4
  have c0 := x4.cell 0 _ rfl; have c1 := x4.cell 1 _ rfl; have c2 := x4.cell 2 _ rfl; have c3 := x4.cell 3 _ rfl; have c4 := x4.cell 4 _ rfl; have c5 := x4.cell 5 _ rfl; have c6 := x4.cell 6 _ rfl; have c7 := x4.cell 7 _ rfl; have c8 := x4.cell 8 _ rfl; have c9 := x4.cell 9 _ rfl; have d0 := y4.cell 0 _ rfl; have d1 := y4.cell 1 _ rfl; have d2 := y4.cell 2 _ rfl; have d3 := y4.cell 3 _ rfl; have d4 := y4.cell 4 _ rfl; have d5 := y4.cell 5 _ rfl; have d6 := y4.cell 6 _ rfl; have d7 := y4.cell 7 _ rfl; have d8 := y4.cell 8 _ rfl; have d9 := y4.cell 9 _ rfl; have e0 := y4.fr 0; have e1 := y4.fr 1; have e2 := y4.fr 2; have e3 := y4.fr 3; have e4 := y4.fr 4; have e5 := y4.fr 5; have e6 := y4.fr 6; have e7 := y4.fr 7; have e8 := y4.fr 8; have e9 := y4.fr 9
  have n1' : ¬ bL' = B := by have := H2.out.2.2.1; omega
  have n2' : ¬ B = bL' := by have := H2.out.2.2.1; omega
  have n3' : ¬ bL' = B + 1 := by have := H2.out.2.2.1; omega
  have n4' : ¬ B + 1 = bL' := by have := H2.out.2.2.1; omega
  clear x4 y4 b4 hr4
  go_wp2
  have hL := H2.out.2.2.1
  have hW := H2.out.2.2.2
  have hs := H4.out.2.setW i j (X) HIJ.out.1 HIJ.out.2.1
  rw [HIJ.out.2.2] at hs
  refine ⟨rfl, .tuple #[vD n0 n1 n2 bL' nL cL' bW' nW cW' off' ar' af' sd op', .int .i64 0], ?_, bL', cL', bW', cW', rfl, ?_, by omega, by omega, HCAP.out, ?_⟩
  · simp [results, Try.results92, go_sem, *]
  · refine hs.keep (T := fun j => j = B + 1) ?_ (by omega) (by omega)
    repeat' (first | (with_reducible exact Ch.refl _ _) | refine Ch.setCell ?_ _ _ ?_)
    all_goals exact .inl rfl
  · have hb := H4.out.1.b
    rw [hB] at hb
    repeat' (first | refine Below.setCell ?_ ?_ _ | exact hb)
    all_goals first | exact Nat.le_succ B | exact (show B ≤ bL' by omega)
end Go.Proofs.Ythpagbfabpfngaa
/- Plain lemmas of this prover's own: a region that draws its order, over a condition on the world that need not hold behind the last operation, which waits for all that is taken first. No statement about the program. -/
namespace Go.Proofs.Ythpagbfabpfngaa
open Go.RowKit

section
variable {P : Program} {ops : Array Oper} {Q : Exit → Act → World → Prop} {md : Region.Mode} {S : World → Prop} {l : Nat}
/-- Whatever order is picked from here on; S holds behind every operation that is carried out, but behind number l. -/
def wpAnyG (P : Program) (md : Region.Mode) (ops : Array Oper) (Q : Exit → Act → World → Prop) (S : World → Prop) (l : Nat) : Nat → Array Bool → Act → World → Prop
  | 0, listed, a, w => Region.ready md ops listed = [] ∧ Q .normal a w
  | fuel + 1, listed, a, w =>
    (Region.ready md ops listed = [] → Q .normal a w) ∧
    ∀ i ∈ Region.ready md ops listed, wpOp P ops Q i (fun a' w' => (i = l ∨ S w') ∧ wpAnyG P md ops Q S l fuel (listed.setIfInBounds i true) a' w') a w
theorem wpAny_of_g : ∀ (fuel : Nat) (listed : Array Bool) (a : Act) (w : World), wpAnyG P md ops Q S l fuel listed a w → wpAny P md ops Q fuel listed a w
  | 0, _, _, _, h => h
  | fuel + 1, _, _, _, h => ⟨h.1, fun i hi => wpOp_mono (fun a' w' h' => wpAny_of_g fuel _ a' w' h'.2) (h.2 i hi)⟩
/-- Does operation l wait for operation i? -/
def waitsOn (md : Region.Mode) (ops : Array Oper) (l i : Nat) : Bool := match ops[l]? with
  | some o => o.after.toList.any fun e => Region.binds md e && Nat.beq e.on i
  | none => true
theorem waitsOn_spec {i : Nat} {listed : Array Bool} (h : waitsOn md ops l i = true) (hu : listed.getD i false = false) : l ∉ Region.ready md ops listed := by
  intro hl
  obtain ⟨_, o, ho, hall⟩ := mem_ready.1 hl
  unfold waitsOn at h
  rw [ho] at h
  rw [List.any_eq_true] at h
  obtain ⟨e, he, hb⟩ := h
  simp only [Bool.and_eq_true] at hb
  have h1 := hall e (by simpa using he) hb.1
  have : e.on = i := by simpa using hb.2
  rw [this, hu] at h1
  cases h1
theorem wpAnyG_first {i : Nat} {oi : Oper} {v : Value} (hi : ops[i]? = some oi) (hsel : ∀ (j : Nat) (o : Oper) cs b, ops[j]? = some o → o.op ≠ .select cs b) (hwt : waitsOn md ops l i = true)
    (hQ : ∀ c a w, Q (.panic c) (a.put oi.dst v) w → Q (.panic c) a w) :
    ∀ (fuel : Nat) (listed : Array Bool) (a : Act) (w : World),
      (∀ j oj, ops[j]? = some oj → j ≠ i → listed.getD j true = false → (∀ e ∈ oj.after, Region.binds md e = true → e.on ≠ i) → oi.apart ops oj = true) →
      i ∈ Region.ready md ops listed → YieldsIf P ops S oi v a → S w →
      wpAnyG P md ops Q S l fuel (listed.setIfInBounds i true) (a.put oi.dst v) w → wpAnyG P md ops Q S l (fuel + 1) listed a w := by
  intro fuel
  induction fuel with
  | zero =>
    intro listed a w _ hr hy hS H
    refine ⟨fun h => (by rw [h] at hr; cases hr), fun j hj => ?_⟩
    by_cases hji : j = i
    · subst hji; exact hy.wpOp hi hS ⟨.inr hS, H⟩
    · have := ready_mono hj hji
      rw [H.1] at this
      cases this
  | succ fuel ih =>
    intro listed a w hfree hr hy hS H
    refine ⟨fun h => (by rw [h] at hr; cases hr), fun j hj => ?_⟩
    by_cases hji : j = i
    · subst hji; exact hy.wpOp hi hS ⟨.inr hS, H⟩
    · have h1 := H.2 j (ready_mono hj hji)
      obtain ⟨hjun, oj, hoj, hall⟩ := mem_ready.1 hj
      have h0i : listed.getD i false = false := by
        have h0 := (mem_ready.1 hr).1
        rcases Nat.lt_or_ge i listed.size with h' | h'
        · simp [h'] at h0 ⊢; exact h0
        · simp [Array.getElem?_eq_none h']
      have hnot : ∀ e ∈ oj.after, Region.binds md e = true → e.on ≠ i := fun e he hb heq => by
        have h1 := hall e he hb
        rw [heq, h0i] at h1; cases h1
      have hjl : j ≠ l := fun e => waitsOn_spec (listed := listed) hwt h0i (e ▸ hj)
      have h2 := wpOp_putIf hoj (hfree j oj hoj hji hjun hnot) (fun cs b => hsel i oi cs b hi) (fun cs b => hsel j oj cs b hoj) hQ hy h1
      have hfree' : ∀ k ok, ops[k]? = some ok → k ≠ i → (listed.setIfInBounds j true).getD k true = false →
          (∀ e ∈ ok.after, Region.binds md e = true → e.on ≠ i) → oi.apart ops ok = true := fun k ok hk hki hun hno => by
        refine hfree k ok hk hki ?_ hno
        by_cases hjk : j = k
        · subst hjk; exact hjun
        · rw [getD_set_ne true hjk] at hun; exact hun
      refine wpOp_mono (fun a' w' h3 => ?_) h2
      have hS' : S w' := h3.2.1.resolve_left hjl
      exact ⟨.inr hS', ih (listed.setIfInBounds j true) a' w' hfree' (ready_mono hr (Ne.symm hji)) h3.1 hS' (by rw [Array.setIfInBounds_comm _ _ hji]; exact h3.2.2)⟩
theorem wpAnyG_take {i : Nat} {oi : Oper} {v : Value} {fuel : Nat} {listed : Array Bool} {a : Act} {w : World} (hi : ops[i]? = some oi)
    (hs : Region.noSelect ops = true) (hf : Region.free md ops listed i = true) (hr : (Region.ready md ops listed).contains i = true) (hwt : waitsOn md ops l i = true)
    (hQ : ∀ c a w, Q (.panic c) (a.put oi.dst v) w → Q (.panic c) a w) (hy : YieldsIf P ops S oi v a) (hS : S w)
    (h : wpAnyG P md ops Q S l fuel (listed.setIfInBounds i true) (a.put oi.dst v) w) : wpAnyG P md ops Q S l (fuel + 1) listed a w :=
  wpAnyG_first hi (Region.noSelect_spec hs) hwt hQ fuel listed a w (Region.free_spec hi hf) (by simpa using hr) hy hS h
def AllReadyG (P : Program) (md : Region.Mode) (ops : Array Oper) (Q : Exit → Act → World → Prop) (S : World → Prop) (l fuel : Nat) (listed : Array Bool) (a : Act) (w : World) (rs : List Nat) : Prop :=
  ∀ i ∈ rs, wpOp P ops Q i (fun a' w' => (i = l ∨ S w') ∧ wpAnyG P md ops Q S l fuel (listed.setIfInBounds i true) a' w') a w
theorem AllReadyG.nil {fuel : Nat} {listed : Array Bool} {a : Act} {w : World} : AllReadyG P md ops Q S l fuel listed a w [] := fun _ h => by cases h
/-- An operation on the way: S is shown anew behind it. -/
theorem AllReadyG.cons {fuel : Nat} {listed : Array Bool} {a : Act} {w : World} {i : Nat} {o : Oper} {rs : List Nat} (ho : ops[i]? = some o)
    (h : ∀ K' : Act → World → Prop, Shut (∀ a w, S w → (S w → wpAnyG P md ops Q S l fuel (listed.setIfInBounds i true) a w) → K' a w) → if Region.wanted o (yielded ops a.tmps) = true then Oper.wp P o a w K' Q else K' (a.put o.dst undef) w)
    (hs : AllReadyG P md ops Q S l fuel listed a w rs) : AllReadyG P md ops Q S l fuel listed a w (i :: rs) := fun j hj => by
  rcases List.mem_cons.1 hj with rfl | hj
  · exact wpOp_step ho (fun K' hK => h K' (fun a w hS hW => hK a w ⟨.inr hS, hW hS⟩))
  · exact hs j hj
/-- The last operation. -/
theorem AllReadyG.last {fuel : Nat} {listed : Array Bool} {a : Act} {w : World} {o : Oper} (ho : ops[l]? = some o)
    (h : ∀ K' : Act → World → Prop, Shut (∀ a w, wpAnyG P md ops Q S l fuel (listed.setIfInBounds l true) a w → K' a w) → if Region.wanted o (yielded ops a.tmps) = true then Oper.wp P o a w K' Q else K' (a.put o.dst undef) w) :
    AllReadyG P md ops Q S l fuel listed a w [l] := fun j hj => by
  rcases List.mem_cons.1 hj with rfl | hj
  · exact wpOp_step ho (fun K' hK => h K' (fun a w hW => hK a w ⟨.inl rfl, hW⟩))
  · cases hj
theorem wpAnyG_ready {rs : List Nat} {fuel : Nat} {listed : Array Bool} {a : Act} {w : World} (hr : Region.ready md ops listed = rs) (hne : rs ≠ [])
    (h : AllReadyG P md ops Q S l fuel listed a w rs) : wpAnyG P md ops Q S l (fuel + 1) listed a w := ⟨fun h0 => absurd (hr ▸ h0) hne, hr ▸ h⟩
theorem wpAnyG_done {listed : Array Bool} {a : Act} {w : World} (hr : Region.ready md ops listed = []) (h : Q .normal a w) :
    ∀ fuel, wpAnyG P md ops Q S l fuel listed a w
  | 0 => ⟨hr, h⟩
  | _ + 1 => ⟨fun _ => h, by rw [hr]; simp⟩
theorem wp_region_g {id : Nat} {a : Act} {w : World} (S : World → Prop) (l : Nat) (hm : P.follows .mixedOrders = true) (hS : S w.drew)
    (h : S w.drew → wpAnyG P .any ops Q S l ops.size (Array.replicate ops.size false) a w.drew) : (Code.region id ops true).wp P Q a w :=
  wp_region_any hm (wpAny_of_g _ _ _ _ (h hS))
end
end Go.Proofs.Ythpagbfabpfngaa
/- The contract of the reference's Program. -/
namespace Go.Proofs.Ythpagbfabpfngaa
open Go.RowKit
variable {n0 n1 n2 : Int} {bL nL cL bW nW cW : Nat} {off ar : Bool} {af sd op : Int}
set_option maxHeartbeats 1000000 in
theorem progV_cut (w : World) (d : Dev) (s k : Int) (i j m t : Nat) (off' ar' : Bool) (af' op' : Int) (X Y : BitVec 32) (hi : ∀ w, Calls Try.prog 112 #[vD n0 n1 n2 bL nL cL bW nW cW false ar af sd op, .int .i64 s, .int .i64 k] w fun e w' => e = .returned (.bool true) ∧ Below w.heap.size w w')
    (m1 : IntKind.i64.wrap (s * n1) = (m : Int)) (m2 : IntKind.i64.wrap ((m : Int) + k) = (t : Int)) (ht : t < nL) (hr : RefIn w bL bW d) (hi1 : i < d.ns) (hj1 : j < d.nw) (hij : i * d.nw + j = t) (hY : d.word i j = Y) (hne : (w32 (X ||| Y) == w32 Y) = true)
    (hcp : ∀ w2, RefIn w2 bL bW d → Calls Try.prog 113 #[vD n0 n1 n2 bL nL cL bW nW cW false ar af sd op] w2 fun e w' => ∃ bL' cL' bW' cW', e = .returned (vD n0 n1 n2 bL' nL cL' bW' nW cW' false ar af sd op) ∧ RefIn w' bL' bW' d ∧ w2.heap.size ≤ bL' ∧ w2.heap.size ≤ bW' ∧ nL ≤ cL' ∧ Below w2.heap.size w2 w')
    (hgo : ∀ bL cL bW cW w2, Calls Try.prog 114 #[vD n0 n1 n2 bL nL cL bW nW cW false ar af sd op] w2 fun e w' => e = .returned (.tuple #[vD n0 n1 n2 bL nL cL bW nW cW off' ar' af' sd op', .bool true]) ∧ Below w2.heap.size w2 w')
    (SD M Z : BitVec 32) (hsd : sd = w32 SD) (hM : Go.Proofs.Ythpagbfabpfngaa.sd SD = M) (hZ : pre (fallsP Y X M) 32 = Z) :
    Calls Try.prog 92 #[vD n0 n1 n2 bL nL cL bW nW cW false ar af sd op, .int .i64 s, .int .i64 k, .int .u32 (w32 X)] w fun e w' =>
    ∃ bL' cL' bW' cW', e = .returned (.tuple #[vD n0 n1 n2 bL' nL cL' bW' nW cW' off' ar' af' sd op', .int .i64 63]) ∧ RefIn w' bL' bW' (d.put i j (Z)) ∧ w.heap.size ≤ bL' ∧ w.heap.size ≤ bW' ∧ nL ≤ cL' ∧ Below w.heap.size w w' := by
  subst hsd
  have HM := Lib.hid (And.intro hM hZ)
  clear hM hZ
  have HI := Lib.hid hi
  have HT := Lib.hid (TwoAt.start w n0 n1 n2 bL nL cL bW nW cW false ar af (w32 SD) op)
  have HC := Lib.hid (fun (w2 : World) (hb : Below w.heap.size w w2) => hr.new hb)
  have HCP := Lib.hid hcp
  have HGO := Lib.hid hgo
  have hcl := hr.cl i j hi1 hj1
  have HIJ := Lib.hid (And.intro hi1 (And.intro hj1 hij))
  have HY := Lib.hid hY
  have t0 : (0 : Int) ≤ (t : Int) := by omega
  have t1 : (t : Int) < (nL : Int) := by omega
  have hor := or32 X Y
  have hn2 : (w32 (X ||| Y) == w32 Y) = true := hne
  obtain ⟨B, hB⟩ : ∃ B, w.heap.size = B := ⟨_, rfl⟩
  clear hi hne ht hr hcp hgo hcl hi1 hj1 hij hY
  go_enter Try.func92, Try.ntmps92
  rw [hB]
  go_wp2_with (first
    | (go_at_call 112; go_must (refine (HI.out _).mono ?_; rintro e w1 ⟨rfl, hb⟩; have h1 := HT.out.new hb; have hr1 := HC.out _ h1.b; have hc1 := hr1.cl i j HIJ.out.1 HIJ.out.2.1; rw [HIJ.out.2.2, HY.out] at hc1; have H1 := Lib.hid (And.intro h1 hr1); obtain ⟨x1, y1, b1⟩ := h1; rw [hB] at x1; have c0 := x1.cell 0 _ rfl; have c1 := x1.cell 1 _ rfl; have c2 := x1.cell 2 _ rfl; have c3 := x1.cell 3 _ rfl; have c4 := x1.cell 4 _ rfl; have c5 := x1.cell 5 _ rfl; have c6 := x1.cell 6 _ rfl; have c7 := x1.cell 7 _ rfl; have c8 := x1.cell 8 _ rfl; have c9 := x1.cell 9 _ rfl; clear hb x1 y1 b1 hr1))
    | fail)
  go_quiet (fail)
  go_upto_region 11 with (first
    | (go_at_call 113; go_must (
        refine (HCP.out _ (H1.out.2.drewN _)).mono ?_
        rintro e w2 ⟨bL', cL', bW', cW', rfl, hr2, hb2L, hb2W, hcap2, hb2⟩
        have HCAP := Lib.hid hcap2
        clear hcap2
        have h2 := H1.out.1.new ((below_dn (Below.refl _ _) _).trans hb2)
        have hlt : B + 1 < w1.heap.size := by have := H1.out.1.y.lt; omega
        have hb2L' : w1.heap.size ≤ bL' := hb2L
        have hb2W' : w1.heap.size ≤ bW' := hb2W
        have H2 := Lib.hid (And.intro h2 (And.intro hr2 (And.intro (show B + 1 < bL' by omega) (show B + 1 < bW' by omega))))
        obtain ⟨x2, y2, b2⟩ := h2; rw [hB] at x2
        clear c0 c1 c2 c3 c4 c5 c6 c7 c8 c9
        have g0 := x2.cell 0 _ rfl; have g1 := x2.cell 1 _ rfl; have g2 := x2.cell 2 _ rfl; have g3 := x2.cell 3 _ rfl; have g4 := x2.cell 4 _ rfl; have g5 := x2.cell 5 _ rfl; have g6 := x2.cell 6 _ rfl; have g7 := x2.cell 7 _ rfl; have g8 := x2.cell 8 _ rfl; have g9 := x2.cell 9 _ rfl; have h0 := x2.fr 0; have h1 := x2.fr 1; have h2 := x2.fr 2; have h3 := x2.fr 3; have h4 := x2.fr 4; have h5 := x2.fr 5; have h6 := x2.fr 6; have h7 := x2.fr 7; have h8 := x2.fr 8; have h9 := x2.fr 9
        clear hr2 hb2L hb2W hb2 x2 y2 b2 hlt hb2L' hb2W'))
    | (go_at_call 114; go_must (
        refine (HGO.out _ _ _ _ _).mono ?_
        rintro e w3 ⟨rfl, hb3⟩
        have h3 := (H2.out.1.put rfl (.int .i64 n0) (.int .i64 n1) (.int .i64 n2) (.slice (some ⟨bL', 0, none⟩) nL cL') (.slice (some ⟨bW', 0, none⟩) nW cW') (.bool false) (.bool ar) (.int .i64 af) (.int .u32 (w32 SD)) (.int .i64 op)).new (by rw [hB]; exact hb3)
        have hr3 := (H2.out.2.1.keep (ch_put w2 B (.int .i64 n0) (.int .i64 n1) (.int .i64 n2) (.slice (some ⟨bL', 0, none⟩) nL cL') (.slice (some ⟨bW', 0, none⟩) nW cW') (.bool false) (.bool ar) (.int .i64 af) (.int .u32 (w32 SD)) (.int .i64 op)) (by have := H2.out.2.2.1; omega) (by have := H2.out.2.2.2; omega)).new hb3
        have H3 := Lib.hid (And.intro h3 hr3)
        obtain ⟨x3, y3, b3⟩ := h3; rw [hB] at x3
        clear g0 h0 g1 h1 g2 h2 g3 h3 g4 h4 g5 h5 g6 h6 g7 h7 g8 h8 g9 h9
        have c0 := x3.cell 0 _ rfl; have c1 := x3.cell 1 _ rfl; have c2 := x3.cell 2 _ rfl; have c3 := x3.cell 3 _ rfl; have c4 := x3.cell 4 _ rfl; have c5 := x3.cell 5 _ rfl; have c6 := x3.cell 6 _ rfl; have c7 := x3.cell 7 _ rfl; have c8 := x3.cell 8 _ rfl; have c9 := x3.cell 9 _ rfl; have f0 := x3.fr 0; have f1 := x3.fr 1; have f2 := x3.fr 2; have f3 := x3.fr 3; have f4 := x3.fr 4; have f5 := x3.fr 5; have f6 := x3.fr 6; have f7 := x3.fr 7; have f8 := x3.fr 8; have f9 := x3.fr 9
        clear hr3 x3 y3 b3 hb3))
    | fail)
  have h4 := H3.out.1.put rfl (.int .i64 n0) (.int .i64 n1) (.int .i64 n2) (.slice (some ⟨bL', 0, none⟩) nL cL') (.slice (some ⟨bW', 0, none⟩) nW cW') (.bool off') (.bool ar') (.int .i64 af') (.int .u32 (w32 SD)) (.int .i64 op')
  have hr4 := H3.out.2.keep (ch_put w3 B (.int .i64 n0) (.int .i64 n1) (.int .i64 n2) (.slice (some ⟨bL', 0, none⟩) nL cL') (.slice (some ⟨bW', 0, none⟩) nW cW') (.bool off') (.bool ar') (.int .i64 af') (.int .u32 (w32 SD)) (.int .i64 op')) (by have := H2.out.2.2.1; omega) (by have := H2.out.2.2.2; omega)
  rw [hB] at h4
  generalize hw4 : World.setCell _ _ _ = w4 at h4 hr4 ⊢
  have q1 := hr4.cl i j HIJ.out.1 HIJ.out.2.1
  have q2 := hr4.fl (i * d.nw + j) (flat_lt _ _ _ _ HIJ.out.1 HIJ.out.2.1)
  rw [HIJ.out.2.2] at q1 q2
  rw [HY.out] at q1
  have H4 := Lib.hid (And.intro h4 hr4)
  obtain ⟨x4, y4, b4⟩ := h4
  rw [hB] at x4 y4
  clear c0 f0 c1 f1 c2 f2 c3 f3 c4 f4 c5 f5 c6 f6 c7 f7 c8 f8 c9 f9 hw4
  have c0 := x4.cell 0 _ rfl; have c1 := x4.cell 1 _ rfl; have c2 := x4.cell 2 _ rfl; have c3 := x4.cell 3 _ rfl; have c4 := x4.cell 4 _ rfl; have c5 := x4.cell 5 _ rfl; have c6 := x4.cell 6 _ rfl; have c7 := x4.cell 7 _ rfl; have c8 := x4.cell 8 _ rfl; have c9 := x4.cell 9 _ rfl; have d0 := y4.cell 0 _ rfl; have d1 := y4.cell 1 _ rfl; have d2 := y4.cell 2 _ rfl; have d3 := y4.cell 3 _ rfl; have d4 := y4.cell 4 _ rfl; have d5 := y4.cell 5 _ rfl; have d6 := y4.cell 6 _ rfl; have d7 := y4.cell 7 _ rfl; have d8 := y4.cell 8 _ rfl; have d9 := y4.cell 9 _ rfl; have e0 := y4.fr 0; have e1 := y4.fr 1; have e2 := y4.fr 2; have e3 := y4.fr 3; have e4 := y4.fr 4; have e5 := y4.fr 5; have e6 := y4.fr 6; have e7 := y4.fr 7; have e8 := y4.fr 8; have e9 := y4.fr 9
  have n1' : ¬ bL' = B := by have := H2.out.2.2.1; omega
  have n2' : ¬ B = bL' := by have := H2.out.2.2.1; omega
  have n3' : ¬ bL' = B + 1 := by have := H2.out.2.2.1; omega
  have n4' : ¬ B + 1 = bL' := by have := H2.out.2.2.1; omega
  clear x4 y4 b4 hr4
  go_wp2
  have HT4 := H4
  refine wp_region_g (fun w' => w'.cell? ⟨B, 3, none⟩ = some (.slice (some ⟨bL', 0, none⟩) nL cL') ∧ w'.cell? ⟨B, 8, none⟩ = some (.int .u32 (w32 SD)) ∧ w'.cell? ⟨bL', t, none⟩ = some (.int .u32 (w32 Y))) 16 (by kernel_rfl) ⟨c3, c8, q1⟩ (fun hS => ?_)
  refine wpAnyG_take (i := 0) (oi := { dst := some 49, op := .fieldAddr 28 (.tmp 4) 3, type := 0, pos := "ref.go:94", after := #[], guard := none }) (v := ?_) rfl (by kernel_rfl) (by kernel_rfl) (by kernel_rfl) (by kernel_rfl) (fun _ _ _ h => h) (Or.inl ⟨by rfl, ?_⟩) hS ?_
  rotate_left 1
  · intro w hw; obtain ⟨s0, s1, s2⟩ := hw; go_simp; try (with_reducible rfl)
  simp only [Act.put, List.setIfInBounds_toArray, List.set_cons_zero, List.set_cons_succ]
  refine wpAnyG_take (i := 1) (oi := { dst := some 50, op := .load 24 (.tmp 49), type := 24, pos := "ref.go:94", after := #[{ on := 0, ground := .data }], guard := none }) (v := ?_) rfl (by kernel_rfl) (by kernel_rfl) (by kernel_rfl) (by kernel_rfl) (fun _ _ _ h => h) (Or.inl ⟨by rfl, ?_⟩) hS ?_
  rotate_left 1
  · intro w hw; obtain ⟨s0, s1, s2⟩ := hw; go_simp; try (with_reducible rfl)
  simp only [Act.put, List.setIfInBounds_toArray, List.set_cons_zero, List.set_cons_succ]
  refine wpAnyG_take (i := 2) (oi := { dst := some 51, op := .move (.tmp 10), type := 3, pos := "ref.go:94", after := #[], guard := none }) (v := ?_) rfl (by kernel_rfl) (by kernel_rfl) (by kernel_rfl) (by kernel_rfl) (fun _ _ _ h => h) (Or.inl ⟨by rfl, ?_⟩) hS ?_
  rotate_left 1
  · intro w hw; obtain ⟨s0, s1, s2⟩ := hw; go_simp; try (with_reducible rfl)
  simp only [Act.put, List.setIfInBounds_toArray, List.set_cons_zero, List.set_cons_succ]
  refine wpAnyG_take (i := 3) (oi := { dst := some 52, op := .fieldAddr 28 (.tmp 4) 3, type := 0, pos := "ref.go:94", after := #[], guard := none }) (v := ?_) rfl (by kernel_rfl) (by kernel_rfl) (by kernel_rfl) (by kernel_rfl) (fun _ _ _ h => h) (Or.inl ⟨by rfl, ?_⟩) hS ?_
  rotate_left 1
  · intro w hw; obtain ⟨s0, s1, s2⟩ := hw; go_simp; try (with_reducible rfl)
  simp only [Act.put, List.setIfInBounds_toArray, List.set_cons_zero, List.set_cons_succ]
  refine wpAnyG_take (i := 4) (oi := { dst := some 53, op := .load 24 (.tmp 52), type := 24, pos := "ref.go:94", after := #[{ on := 3, ground := .data }], guard := none }) (v := ?_) rfl (by kernel_rfl) (by kernel_rfl) (by kernel_rfl) (by kernel_rfl) (fun _ _ _ h => h) (Or.inl ⟨by rfl, ?_⟩) hS ?_
  rotate_left 1
  · intro w hw; obtain ⟨s0, s1, s2⟩ := hw; go_simp; try (with_reducible rfl)
  simp only [Act.put, List.setIfInBounds_toArray, List.set_cons_zero, List.set_cons_succ]
  refine wpAnyG_take (i := 5) (oi := { dst := some 54, op := .move (.tmp 10), type := 3, pos := "ref.go:94", after := #[], guard := none }) (v := ?_) rfl (by kernel_rfl) (by kernel_rfl) (by kernel_rfl) (by kernel_rfl) (fun _ _ _ h => h) (Or.inl ⟨by rfl, ?_⟩) hS ?_
  rotate_left 1
  · intro w hw; obtain ⟨s0, s1, s2⟩ := hw; go_simp; try (with_reducible rfl)
  simp only [Act.put, List.setIfInBounds_toArray, List.set_cons_zero, List.set_cons_succ]
  refine wpAnyG_take (i := 6) (oi := { dst := some 55, op := .indexAddr 24 (.tmp 53) (.tmp 54), type := 0, pos := "ref.go:94", after := #[{ on := 4, ground := .data }, { on := 5, ground := .data }], guard := none }) (v := ?_) rfl (by kernel_rfl) (by kernel_rfl) (by kernel_rfl) (by kernel_rfl) (fun _ _ _ h => h) (Or.inl ⟨by rfl, ?_⟩) hS ?_
  rotate_left 1
  · intro w hw; obtain ⟨s0, s1, s2⟩ := hw; go_simp; try (with_reducible rfl)
  simp only [Act.put, List.setIfInBounds_toArray, List.set_cons_zero, List.set_cons_succ]
  refine wpAnyG_take (i := 7) (oi := { dst := some 56, op := .load 26 (.tmp 55), type := 26, pos := "ref.go:94", after := #[{ on := 6, ground := .data }], guard := none }) (v := ?_) rfl (by kernel_rfl) (by kernel_rfl) (by kernel_rfl) (by kernel_rfl) (fun _ _ _ h => h) (Or.inl ⟨by rfl, ?_⟩) hS ?_
  rotate_left 1
  · intro w hw; obtain ⟨s0, s1, s2⟩ := hw; go_simp; try (with_reducible rfl)
  simp only [Act.put, List.setIfInBounds_toArray, List.set_cons_zero, List.set_cons_succ]
  refine wpAnyG_take (i := 8) (oi := { dst := some 57, op := .move (.tmp 3), type := 26, pos := "ref.go:94", after := #[], guard := none }) (v := ?_) rfl (by kernel_rfl) (by kernel_rfl) (by kernel_rfl) (by kernel_rfl) (fun _ _ _ h => h) (Or.inl ⟨by rfl, ?_⟩) hS ?_
  rotate_left 1
  · intro w hw; obtain ⟨s0, s1, s2⟩ := hw; go_simp; try (with_reducible rfl)
  simp only [Act.put, List.setIfInBounds_toArray, List.set_cons_zero, List.set_cons_succ]
  refine wpAnyG_take (i := 9) (oi := { dst := some 58, op := .fieldAddr 28 (.tmp 4) 8, type := 0, pos := "ref.go:94", after := #[], guard := none }) (v := ?_) rfl (by kernel_rfl) (by kernel_rfl) (by kernel_rfl) (by kernel_rfl) (fun _ _ _ h => h) (Or.inl ⟨by rfl, ?_⟩) hS ?_
  rotate_left 1
  · intro w hw; obtain ⟨s0, s1, s2⟩ := hw; go_simp; try (with_reducible rfl)
  simp only [Act.put, List.setIfInBounds_toArray, List.set_cons_zero, List.set_cons_succ]
  refine wpAnyG_take (i := 10) (oi := { dst := some 59, op := .load 26 (.tmp 58), type := 26, pos := "ref.go:94", after := #[{ on := 9, ground := .data }], guard := none }) (v := ?_) rfl (by kernel_rfl) (by kernel_rfl) (by kernel_rfl) (by kernel_rfl) (fun _ _ _ h => h) (Or.inl ⟨by rfl, ?_⟩) hS ?_
  rotate_left 1
  · intro w hw; obtain ⟨s0, s1, s2⟩ := hw; go_simp; try (with_reducible rfl)
  simp only [Act.put, List.setIfInBounds_toArray, List.set_cons_zero, List.set_cons_succ]
  refine wpAnyG_ready (rs := [11]) (by kernel_rfl) (by simp) (AllReadyG.cons (o := { dst := some 60, op := .call { callee := .value (.func 116), args := #[.tmp 59, .const (.int .i64 1)], argTypes := #[26, 3] }, type := 24, pos := "ref.go:94", after := #[{ on := 10, ground := .data }], guard := none }) rfl (fun K hK => ?_) AllReadyG.nil)
  go_simp
  refine (refmasks_any SD 1 (by decide) _).mono ?_
  rintro e w5 ⟨v5, rfl, ho5, hb5⟩
  obtain ⟨g5, k5, rfl, h5a, h5b⟩ := own_some ho5 (by decide)
  have p5 := ho5.cellAt 0 (by decide)
  rw [show (rowB (ms (Go.Proofs.Ythpagbfabpfngaa.sd SD) (1 : Int).toNat))[0]? = some (.int .u32 (w32 M)) from by rw [HM.out.1]; rfl] at p5
  have hx5 := H4.out.1.new (below_dn (Below.refl _ _) 1 |>.trans hb5)
  have hr5 := H4.out.2.new (below_dn (Below.refl _ _) 1 |>.trans hb5)
  have H5 := Lib.hid (And.intro hx5 hr5)
  have z3 := hx5.x.cell 3 _ rfl; have z8 := hx5.x.cell 8 _ rfl; rw [hB] at z3 z8
  have zt := hr5.cl i j HIJ.out.1 HIJ.out.2.1; have zf := hr5.fl (i * d.nw + j) (flat_lt _ _ _ _ HIJ.out.1 HIJ.out.2.1); rw [HIJ.out.2.2] at zt zf; rw [HY.out] at zt
  clear ho5 hb5 h5a h5b hx5 hr5
  dsimp only
  refine hK.out _ _ ⟨z3, z8, zt⟩ (fun hHeld => ?_)
  clear hK K
  try simp only [Act.put, List.setIfInBounds_toArray, List.set_cons_zero, List.set_cons_succ]
  refine wpAnyG_take (i := 12) (oi := { dst := some 61, op := .indexAddr 24 (.tmp 60) (.const (.int .i64 0)), type := 0, pos := "ref.go:94", after := #[{ on := 11, ground := .data }], guard := none }) (v := ?_) rfl (by kernel_rfl) (by kernel_rfl) (by kernel_rfl) (by kernel_rfl) (fun _ _ _ h => h) (Or.inl ⟨by rfl, ?_⟩) ⟨z3, z8, zt⟩ ?_
  rotate_left 1
  · intro w hw; obtain ⟨s0, s1, s2⟩ := hw; go_simp; try (with_reducible rfl)
  simp only [Act.put, List.setIfInBounds_toArray, List.set_cons_zero, List.set_cons_succ]
  refine wpAnyG_ready (rs := [13]) (by kernel_rfl) (by simp) (AllReadyG.cons (o := { dst := some 62, op := .load 26 (.tmp 61), type := 26, pos := "ref.go:94", after := #[{ on := 12, ground := .data }], guard := none }) rfl (fun K hK => ?_) AllReadyG.nil)
  go_simp
  refine hK.out _ _ ⟨z3, z8, zt⟩ (fun hHeld => ?_)
  clear hK K
  try simp only [Act.put, List.setIfInBounds_toArray, List.set_cons_zero, List.set_cons_succ]
  refine wpAnyG_ready (rs := [14]) (by kernel_rfl) (by simp) (AllReadyG.cons (o := { dst := some 63, op := .call { callee := .value (.func 115), args := #[.tmp 56, .tmp 57, .tmp 62], argTypes := #[26, 26, 26] }, type := 26, pos := "ref.go:94", after := #[{ on := 7, ground := .data }, { on := 8, ground := .data }, { on := 13, ground := .data }, { on := 11, ground := .chain }], guard := none }) rfl (fun K hK => ?_) AllReadyG.nil)
  go_simp
  refine (reffalls_any Y X M _).mono ?_
  rintro e w6 ⟨rfl, rfl⟩
  rw [HM.out.2]
  dsimp only
  refine hK.out _ _ ⟨z3, z8, zt⟩ (fun hHeld => ?_)
  clear hK K
  try simp only [Act.put, List.setIfInBounds_toArray, List.set_cons_zero, List.set_cons_succ]
  refine wpAnyG_take (i := 15) (oi := { dst := some 64, op := .indexAddr 24 (.tmp 50) (.tmp 51), type := 0, pos := "ref.go:94", after := #[{ on := 1, ground := .data }, { on := 2, ground := .data }, { on := 0, ground := .phase }, { on := 1, ground := .phase }, { on := 2, ground := .phase }, { on := 3, ground := .phase }, { on := 4, ground := .phase }, { on := 5, ground := .phase }, { on := 6, ground := .phase }, { on := 7, ground := .phase }, { on := 8, ground := .phase }, { on := 9, ground := .phase }, { on := 10, ground := .phase }, { on := 11, ground := .phase }, { on := 12, ground := .phase }, { on := 13, ground := .phase }, { on := 14, ground := .phase }], guard := none }) (v := ?_) rfl (by kernel_rfl) (by kernel_rfl) (by kernel_rfl) (by kernel_rfl) (fun _ _ _ h => h) (Or.inl ⟨by rfl, ?_⟩) ⟨z3, z8, zt⟩ ?_
  rotate_left 1
  · intro w hw; obtain ⟨s0, s1, s2⟩ := hw; go_simp; try (with_reducible rfl)
  simp only [Act.put, List.setIfInBounds_toArray, List.set_cons_zero, List.set_cons_succ]
  refine wpAnyG_ready (rs := [16]) (by kernel_rfl) (by simp) (AllReadyG.last (o := { dst := none, op := .store 26 (.tmp 64) (.tmp 63), type := 0, pos := "ref.go:94", after := #[{ on := 15, ground := .data }, { on := 14, ground := .data }, { on := 14, ground := .chain }, { on := 0, ground := .phase }, { on := 1, ground := .phase }, { on := 2, ground := .phase }, { on := 3, ground := .phase }, { on := 4, ground := .phase }, { on := 5, ground := .phase }, { on := 6, ground := .phase }, { on := 7, ground := .phase }, { on := 8, ground := .phase }, { on := 9, ground := .phase }, { on := 10, ground := .phase }, { on := 11, ground := .phase }, { on := 12, ground := .phase }, { on := 13, ground := .phase }, { on := 14, ground := .phase }], guard := none }) rfl (fun K hK => ?_))
  go_simp
  refine hK.out _ _ ?_
  clear hK K
  try simp only [Act.put, List.setIfInBounds_toArray, List.set_cons_zero, List.set_cons_succ]
  refine wpAnyG_done (by kernel_rfl) ?_ _
  obtain ⟨hx5, hr5⟩ := H5.out
  obtain ⟨x5, y5, b5⟩ := hx5
  rw [hB] at x5 y5
  clear c0 d0 e0 c1 d1 e1 c2 d2 e2 c3 d3 e3 c4 d4 e4 c5 d5 e5 c6 d6 e6 c7 d7 e7 c8 d8 e8 c9 d9 e9
  have c0 := x5.cell 0 _ rfl; have c1 := x5.cell 1 _ rfl; have c2 := x5.cell 2 _ rfl; have c3 := x5.cell 3 _ rfl; have c4 := x5.cell 4 _ rfl; have c5 := x5.cell 5 _ rfl; have c6 := x5.cell 6 _ rfl; have c7 := x5.cell 7 _ rfl; have c8 := x5.cell 8 _ rfl; have c9 := x5.cell 9 _ rfl; have d0 := y5.cell 0 _ rfl; have d1 := y5.cell 1 _ rfl; have d2 := y5.cell 2 _ rfl; have d3 := y5.cell 3 _ rfl; have d4 := y5.cell 4 _ rfl; have d5 := y5.cell 5 _ rfl; have d6 := y5.cell 6 _ rfl; have d7 := y5.cell 7 _ rfl; have d8 := y5.cell 8 _ rfl; have d9 := y5.cell 9 _ rfl; have e0 := y5.fr 0; have e1 := y5.fr 1; have e2 := y5.fr 2; have e3 := y5.fr 3; have e4 := y5.fr 4; have e5 := y5.fr 5; have e6 := y5.fr 6; have e7 := y5.fr 7; have e8 := y5.fr 8; have e9 := y5.fr 9
  clear x5 y5 b5 hr5
  go_wp2
  have hL := H2.out.2.2.1
  have hW := H2.out.2.2.2
  have hs := H5.out.2.setW i j (Z) HIJ.out.1 HIJ.out.2.1
  rw [HIJ.out.2.2] at hs
  refine ⟨rfl, .tuple #[vD n0 n1 n2 bL' nL cL' bW' nW cW' off' ar' af' (w32 SD) op', .int .i64 63], ?_, bL', cL', bW', cW', rfl, ?_, by omega, by omega, HCAP.out, ?_⟩
  · simp [results, Try.results92, go_sem, *]
  · refine hs.keep (T := fun j => j = B + 1) ?_ (by omega) (by omega)
    repeat' (first | (with_reducible exact Ch.refl _ _) | refine Ch.setCell ?_ _ _ ?_)
    all_goals exact .inl rfl
  · have hb := H5.out.1.b
    rw [hB] at hb
    repeat' (first | refine Below.setCell ?_ ?_ _ | exact hb)
    all_goals first | exact Nat.le_succ B | exact (show B ≤ bL' by omega)
end Go.Proofs.Ythpagbfabpfngaa
/- The contract of the reference's Program: what it makes of a device. -/
namespace Go.Proofs.Ythpagbfabpfngaa
open Go.RowKit

theorem within_or (X Y : BitVec 32) : (w32 (X ||| Y) == w32 Y) = within X Y := by
  rw [Bool.eq_iff_iff, beq_iff_eq, w32_inj, within_iff]
  constructor
  · intro h i hi hx
    have := congrArg (·.getLsbD i) h
    simp only [BitVec.getLsbD_or, hx] at this
    simpa using this.symm
  · intro h
    apply BitVec.eq_of_getLsbD_eq; intro i hi
    rw [BitVec.getLsbD_or]
    cases hx : X.getLsbD i
    · simp
    · simp [h i hi hx]
/-- What a call of the reference leaves: a device, its rows the old ones or new ones. -/
def RefOut (w w' : World) (bL bW : Nat) (d' : Dev) (r : Value → Value) (e : Ending) : Prop :=
  ∃ bL' cL' bW' cW', e = .returned (r (refX bL' cL' bW' cW' d')) ∧ RefIn w' bL' bW' d' ∧ (bL' = bL ∨ w.heap.size ≤ bL') ∧ (bW' = bW ∨ w.heap.size ≤ bW') ∧ d'.ns * d'.nw ≤ cL' ∧ Below w.heap.size w w'

theorem progR_any {w : World} {bL bW : Nat} {d : Dev} (h : RefIn w bL bW d) (ho : d.ok) (cL cW : Nat) (hcL : d.ns * d.nw ≤ cL) (s k : Int) (X : BitVec 32) :
    Calls Try.prog 92 #[refX bL cL bW cW d, .int .i64 s, .int .i64 k, .int .u32 (w32 X)] w fun e w' =>
      RefOut w w' bL bW (d.program s k X).1 (fun v => .tuple #[v, .int .i64 (d.program s k X).2]) e := by
  have hi := fun w => isR_any (.slice (some ⟨bL, 0, none⟩) (d.ns * d.nw : Nat) cL) (.slice (some ⟨bW, 0, none⟩) d.ns cW) d s k w
  unfold refV at hi
  by_cases he : d.readE s k = 0
  · obtain ⟨s0, s1, k0, k1, hw⟩ := readE_ok he
    have hon : d.on = true := by
      cases hon : d.on
      · unfold Dev.readE at he; rw [hon] at he; simp at he
      · rfl
    have hok : d.okK s k = true := by
      cases hok : d.okK s k
      · unfold Dev.readE at he; rw [hon, hok] at he; simp at he
      · rfl
    rw [hon, hok] at hi
    obtain ⟨i, rfl⟩ : ∃ i : Nat, s = i := ⟨s.toNat, by omega⟩
    obtain ⟨j, rfl⟩ : ∃ j : Nat, k = j := ⟨k.toNat, by omega⟩
    simp only [Int.toNat_natCast] at hw
    have hz := h.zn
    have hm : i * d.nw ≤ 64 * 1024 := Nat.mul_le_mul (by omega) (by omega)
    have m1 := wrap_nat ((i : Int) * (d.nw : Int)) (i * d.nw) (by simp) (by omega)
    have m2 := wrap_nat (((i * d.nw : Nat) : Int) + (j : Int)) (i * d.nw + j) (by simp) (by omega)
    have ht := flat_lt d.ns d.nw i j (by omega) (by omega)
    have hwo := within_or X (d.word i j)
    cases hin : within X (d.word i j) with
    | false =>
      rw [hin] at hwo
      have hp : d.program i j X = (d, 61) := by
        unfold Dev.program
        rw [if_pos he, hw, hin]; rfl
      rw [hp]
      have hc := progV_bits (n0 := d.ns) (n1 := d.nw) (n2 := d.limit) (bL := bL) (nL := d.ns * d.nw) (cL := cL) (bW := bW) (nW := d.ns) (cW := cW) (ar := d.armed) (af := d.after) (sd := w32 d.seed) (op := d.ops) w i j _ _ X (d.word i j) hi m1 m2 ht (h.cl i j (by omega) (by omega)) hwo
      unfold RefOut refX refV
      rw [hon]
      refine hc.mono ?_
      rintro e w' ⟨rfl, hb⟩
      exact ⟨bL, cL, bW, cW, by simp only []; rfl, h.new hb, .inl rfl, .inl rfl, hcL, hb⟩
    | true =>
      rw [hin] at hwo
      have hcp := fun w2 (h2 : RefIn w2 bL bW d) => copyR_any h2 cL cW
      have hgo := fun bL cL bW cW w2 => goesR_any d bL cL bW cW ho w2
      obtain ⟨g1, g2, g3, g4, g5⟩ := goes_same d
      have hd : ∀ x, (d.goes.1.put i j x).ns = d.ns ∧ (d.goes.1.put i j x).nw = d.nw ∧ (d.goes.1.put i j x).word = (d.put i j x).word ∧ (d.goes.1.put i j x).worn = d.worn ∧ (d.goes.1.put i j x).limit = d.limit := fun x => ⟨g1, g2, by show upd d.goes.1.word i j x = upd d.word i j x; rw [g3], g4, g5⟩
      cases hcut : d.goes.2 with
      | false =>
        have hp : d.program i j X = (d.goes.1.put i j X, 0) := by
          unfold Dev.program
          rw [if_pos he, hw, hin, hcut]; rfl
        rw [hp]
        unfold refX refV at hcp hgo
        rw [hon] at hcp hgo
        rw [hcut] at hgo
        rw [g1, g2, g5, show d.goes.1.seed = d.seed by unfold Dev.goes; split <;> (try split) <;> rfl] at hgo
        have hc := progV_put (n0 := d.ns) (n1 := d.nw) (n2 := d.limit) (bL := bL) (nL := d.ns * d.nw) (cL := cL) (bW := bW) (nW := d.ns) (cW := cW) (ar := d.armed) (af := d.after) (sd := w32 d.seed) (op := d.ops) w d i j i j _ _ (!d.goes.1.on) d.goes.1.armed d.goes.1.after d.goes.1.ops X (d.word i j) hi m1 m2 ht h (by omega) (by omega) rfl rfl hwo hcp hgo
        unfold RefOut refX refV
        rw [hon]
        refine hc.mono ?_
        rintro e w' ⟨bL', cL', bW', cW', rfl, hr, h1, h2, h3, hb⟩
        obtain ⟨e1, e2, e3, e4, e5⟩ := hd X
        refine ⟨bL', cL', bW', cW', ?_, hr.same e1 e2 e3 e4, .inr h1, .inr h2, by rw [e1, e2]; exact h3, hb⟩
        rw [e1, e2, e5, show (d.goes.1.put i j X).seed = d.seed by show d.goes.1.seed = d.seed; unfold Dev.goes; split <;> (try split) <;> rfl]
        rfl
      | true =>
        have hp : d.program i j X = (d.goes.1.put i j (d.word i j &&& (X ||| Go.Proofs.Ythpagbfabpfngaa.sd d.seed)), 63) := by
          unfold Dev.program Dev.mask
          rw [if_pos he, hw, hin, hcut]; rfl
        rw [hp]
        unfold refX refV at hcp hgo
        rw [hon] at hcp hgo
        rw [hcut] at hgo
        rw [g1, g2, g5, show d.goes.1.seed = d.seed by unfold Dev.goes; split <;> (try split) <;> rfl] at hgo
        have hc := progV_cut (n0 := d.ns) (n1 := d.nw) (n2 := d.limit) (bL := bL) (nL := d.ns * d.nw) (cL := cL) (bW := bW) (nW := d.ns) (cW := cW) (ar := d.armed) (af := d.after) (sd := w32 d.seed) (op := d.ops) w d i j i j _ _ (!d.goes.1.on) d.goes.1.armed d.goes.1.after d.goes.1.ops X (d.word i j) hi m1 m2 ht h (by omega) (by omega) rfl rfl hwo hcp hgo d.seed _ _ rfl rfl (falls_eq _ _ _).symm
        unfold RefOut refX refV
        rw [hon]
        refine hc.mono ?_
        rintro e w' ⟨bL', cL', bW', cW', rfl, hr, h1, h2, h3, hb⟩
        obtain ⟨e1, e2, e3, e4, e5⟩ := hd (d.word i j &&& (X ||| Go.Proofs.Ythpagbfabpfngaa.sd d.seed))
        refine ⟨bL', cL', bW', cW', ?_, hr.same e1 e2 e3 e4, .inr h1, .inr h2, by rw [e1, e2]; exact h3, hb⟩
        rw [e1, e2, e5, show (d.goes.1.put i j (d.word i j &&& (X ||| Go.Proofs.Ythpagbfabpfngaa.sd d.seed))).seed = d.seed by show d.goes.1.seed = d.seed; unfold Dev.goes; split <;> (try split) <;> rfl]
        rfl
  · have hp : d.program s k X = (d, d.readE s k) := by
      unfold Dev.program
      rw [if_neg he]
    rw [hp]
    unfold RefOut refX refV
    cases hon : d.on with
    | false =>
      have hE : d.readE s k = 63 := by unfold Dev.readE; rw [hon]; rfl
      refine (progV_off w s k (w32 X)).mono ?_
      rintro e w' ⟨rfl, hb⟩
      exact ⟨bL, cL, bW, cW, by simp only [hE]; rfl, h.new hb, .inl rfl, .inl rfl, hcL, hb⟩
    | true =>
      have hok : d.okK s k = false := by
        cases hok : d.okK s k
        · rfl
        · unfold Dev.readE at he; rw [hon, hok] at he; simp at he
      have hE : d.readE s k = 60 := by unfold Dev.readE; rw [hon, hok]; rfl
      rw [hon, hok] at hi
      refine (progV_no w s k (w32 X) hi).mono ?_
      rintro e w' ⟨rfl, hb⟩
      exact ⟨bL, cL, bW, cW, by simp only [hE]; rfl, h.new hb, .inl rfl, .inl rfl, hcL, hb⟩
end Go.Proofs.Ythpagbfabpfngaa
