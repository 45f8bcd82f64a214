/- Several texts in one: Si, BC, BD. -/
import Derived.OrdersIn
import Derived.StillTail
import Derived.StillTactics
import Derived.StillTailTactics
import Derived.RangeFuncCalls
import Derived.Deep.RegionHeld3
import Derived.BigQuiet
import Derived.Deep.QuietTactic
import Derived.WalkKit
import Derived.Test.YthpagbfabpfngaaPk12
/- Plain laws of this prover's own: a region that draws its order, whose head only reads and whose tail stands in a row, in the body of an iterator (a wide fence without a round). No statement about the program. -/
namespace Go.Proofs.Ythpagbfabpfngaa
open Go.RowKit
section
variable {n0 : Nat} {P : Program} {ops : Array Oper} {md : Region.Mode} {w : World}
theorem operIn_of_still {o : Oper} {a : Act} {K : Act → Prop} {K' : Act → World → Prop} {Q' : Exit → Act → World → Prop} (h : ∀ a, K a → K' a w) (hh : o.still P a w K) : o.wpIn Fence.wide n0 P a w K' Q' := by
  have h1 := Oper.wp_of_still (Q' := Q') h hh
  refine ⟨fun _ _ => trivial, ?_⟩
  have e : o.semAt Fence.wide.round a.eval = execOp a.eval o := by rw [show Fence.wide.round = none from rfl, Oper.semAt_none]
  rw [e]
  unfold Oper.still at hh
  unfold Oper.wp at h1
  generalize (execOp a.eval o).run P w = r at h1 hh
  cases r with
  | ok x w' =>
    cases x <;> simp only [Oper.stillUpon] at hh <;> simp only [Oper.uponIn]
    case enter f args =>
      obtain ⟨rfl, v, hc, hn⟩ := hh
      refine ⟨fun h => by simp [Fence.wide] at h, callsIn_wide.2 (hc.mono ?_)⟩
      rintro e w'' ⟨rfl, rfl⟩
      exact h _ hn
    all_goals (obtain ⟨rfl, h2⟩ := hh; exact h _ h2)
  | halt x w' => simp only [Oper.stillUpon] at hh
theorem wpOpIn_of_stOp {i : Nat} {a : Act} {K : Act → Prop} {K' : Act → World → Prop} {Q' : Exit → Act → World → Prop} (h : ∀ a, K a → K' a w) (hh : stOp P ops w i K a) : wpOpIn Fence.wide n0 P ops Q' i K' a w := by
  unfold stOp at hh
  unfold wpOpIn
  split
  · rename_i ho; simp only [ho] at hh; exact h _ hh
  · rename_i o ho
    simp only [ho] at hh
    split
    · rename_i hw; simp only [hw, if_true] at hh; exact operIn_of_still h hh
    · rename_i hw; simp only [hw] at hh; exact ⟨fun _ _ => trivial, h _ hh⟩
theorem wpAnyIn_of_head {n g : Nat} {L : Array Bool → Act → Prop} {Q' : Exit → Act → World → Prop} (hL : ∀ listed a, L listed a → wpAnyIn Fence.wide n0 P md ops Q' g listed a w) :
    ∀ (f : Nat) (listed : Array Bool) (a : Act), wpAnyL P md ops w n L f listed a → wpAnyIn Fence.wide n0 P md ops Q' (f + g) listed a w
  | 0, listed, a, h => by rw [Nat.zero_add]; exact hL _ _ h
  | f + 1, listed, a, h => by
    rw [show f + 1 + g = (f + g) + 1 by omega]
    exact ⟨fun h0 => absurd h0 h.1, fun i hi => wpOpIn_of_stOp (fun a' h' => wpAnyIn_of_head hL f _ a' h') (h.2 i hi).2⟩
theorem wpAnyIn_of_seq {F : Fence} {Q' : Exit → Act → World → Prop} : ∀ (l : List Oper) (k : Nat) (listed : Array Bool) (a : Act) (w : World), (∀ j, l[j]? = ops[k + j]?) →
    Region.seqB md ops l.length k listed = true → wpListIn F n0 P ops Q' l a w → wpAnyIn F n0 P md ops Q' l.length listed a w
  | [], _, _, _, _, _, hB, h => ⟨by simpa [Region.seqB] using hB, h⟩
  | o :: l, k, listed, a, w, hl, hB, h => by
    have h0 : ops[k]? = some o := by simpa using (hl 0).symm
    simp only [List.length_cons, Region.seqB, Bool.and_eq_true, decide_eq_true_eq] at hB
    refine ⟨fun h1 => (by rw [hB.1] at h1; cases h1), fun i hi => ?_⟩
    rw [hB.1] at hi
    have hik : i = k := by simpa using hi
    subst hik
    have hw : wpOpIn F n0 P ops Q' i (wpListIn F n0 P ops Q' l) a w := by unfold wpOpIn; simp only [h0]; exact h
    exact wpOpIn_mono (fun a' w' h' => wpAnyIn_of_seq l (i + 1) _ a' w' (fun j => by have := hl (j + 1); simpa [Nat.add_assoc, Nat.add_comm 1 j] using this) hB.2 h') hw
theorem wpIn_region_still_tail {id : Nat} {Q : Exit → Act → World → Prop} {a : Act} {w : World} {l : List Oper} (n : Nat) (hm : P.follows .mixedOrders = true) (hB : Region.lexTailB .any l.toArray n = true)
    (h : wpStill P l.toArray { w with drawn := w.drawn + 1 } (fun a' => wpListIn Fence.wide n0 P l.toArray Q (l.drop n) a' { w with drawn := w.drawn + 1 }) (l.take n) a) : (Code.region id l.toArray true).wpIn Fence.wide n0 P Q a w := by
  simp only [Region.lexTailB, Bool.and_eq_true, decide_eq_true_eq] at hB
  obtain ⟨⟨⟨⟨hsel, hn⟩, hs⟩, hc⟩, hlex⟩ := hB
  have hn' : n < l.length := by simpa using hn
  have htl : (l.take n).length = n := by simp; omega
  have hdl : (l.drop n).length = l.toArray.size - n := by simp
  have inv0 : HeadInv .any l.toArray n (Array.replicate l.toArray.size false) :=
    ⟨by simp, fun j oj _ hl => (by rw [getD_replicate_false] at hl; cases hl), fun t _ ht => getD_in (by simpa using ht) (getD_replicate_false _ _)⟩
  have H := wpAnyL_lex (md := .any) (g := l.toArray.size - n) hsel hs hc hn (l.take n) 0 _ a (fun j hj => by
    have hj' : j < n := by rw [htl] at hj; exact hj
    simp [hj']) (by simpa using htl) inv0 (by rw [htl]; exact hlex) h
  refine wpIn_region_any hm ?_
  have := wpAnyIn_of_head (Q' := Q) (n0 := n0) (g := l.toArray.size - n) (fun listed a' hL => by
    have := wpAnyIn_of_seq (F := Fence.wide) (n0 := n0) (md := .any) (Q' := Q) (l.drop n) n listed a' { w with drawn := w.drawn + 1 } (fun j => by simp [List.getElem?_drop]) (by rw [hdl]; exact hL.1) hL.2
    rwa [hdl] at this) _ _ _ H
  rw [htl, show n + (l.toArray.size - n) = l.toArray.size by omega] at this
  exact this
end
theorem oper_in {l0 : Nat} {P : Program} {o : Oper} {a : Act} {w : World} {next next' : Act → World → Prop} {Q : Exit → Act → World → Prop} (hd : ∀ c, o.op ≠ .defer c) (hn : ∀ a w, next a w → next' a w)
    (h : o.wp P a w next Q) : o.wpIn (Fence.wide.inRound l0) 0 P a w next' Q := by
  refine ⟨fun _ _ => trivial, ?_⟩
  have e : o.semAt (Fence.wide.inRound l0).round a.eval = execOp a.eval o := Oper.semAt_some l0 _ _ hd
  rw [e]
  unfold Oper.wp at h
  generalize (execOp a.eval o).run P w = r at h
  unfold Oper.upon at h
  unfold Oper.uponIn
  split at h
  · exact hn _ _ h
  · exact hn _ _ h
  · exact hn _ _ h
  · refine ⟨fun h => by simp [Fence.wide] at h, CallsIn.inRound l0 ((callsIn_wide.2 h).mono ?_)⟩
    rintro e w'' he
    cases e with
    | returned v => exact hn _ _ he
    | panicked c => exact he
    | outgrown => exact he
  · refine ⟨fun h => by simp [Fence.wide] at h, fun c cs _ => ?_⟩
    obtain ⟨v, w', hr, hs⟩ := h c cs
    exact ⟨v, w', hn _ _ hr, stepsIn_wide.2 hs⟩
  · exact h
  · exact h.elim

def noDefer (l : List Oper) : Bool := l.all fun o => match o.op with | .defer _ => false | _ => true
theorem noDefer_spec {l : List Oper} (h : noDefer l = true) : ∀ (i : Nat) (o : Oper), l.toArray[i]? = some o → ∀ c, o.op ≠ .defer c := by
  intro i o ho c e
  have hm : o ∈ l := by
    have : l[i]? = some o := by simpa using ho
    exact List.mem_of_getElem? this
  have := List.all_eq_true.1 h o hm
  rw [e] at this
  cases this

theorem wpOps_in {l0 : Nat} {P : Program} {ops : Array Oper} {Q : Exit → Act → World → Prop} (hd : ∀ (i : Nat) (o : Oper), ops[i]? = some o → ∀ c, o.op ≠ .defer c) (hQ : ∀ a w, ¬ Q .outgrown a w) :
    ∀ (l : List Nat) (a : Act) (w : World), wpOps P ops Q l a w → wpOpsIn (Fence.wide.inRound l0) 0 P ops Q l a w
  | [], _, _, h => h
  | i :: rest, a, w, h => by
    unfold wpOps at h
    unfold wpOpsIn
    cases ho : ops[i]? with
    | none =>
      rw [ho] at h
      exact wpOps_in hd hQ rest a w h
    | some o =>
      rw [ho] at h
      simp only at h ⊢
      split
      · rename_i hw
        rw [if_pos hw] at h
        rcases h with h | ⟨_, a0, w0, h⟩
        · exact oper_in (hd i o ho) (fun a w h => wpOps_in hd hQ rest a w h) h
        · exact absurd h (hQ a0 w0)
      · rename_i hw
        rw [if_neg hw] at h
        exact ⟨fun _ _ => trivial, wpOps_in hd hQ rest _ w h⟩

theorem wpIn_region_any0 {l0 : Nat} {P : Program} {id : Nat} {l : List Oper} {Q : Exit → Act → World → Prop} {a : Act} {w : World} (hm : P.follows .mixedOrders = true) (hd : noDefer l = true) (hQ : ∀ a w, ¬ Q .outgrown a w)
    (h : wpAny P .any l.toArray Q l.toArray.size (Array.replicate l.toArray.size false) a w.drew) : (Code.region id l.toArray true).wpIn (Fence.wide.inRound l0) 0 P Q a w :=
  wpIn_region_draw fun t => by
    simp only [Region.schedule, hm, Bool.true_or, if_true]
    exact wpOps_in (noDefer_spec hd) hQ _ a _ (wpAny_sound _ t _ a _ h)

theorem wpIn_region_held0 {l0 : Nat} {P : Program} {id : Nat} {l : List Oper} {Q : Exit → Act → World → Prop} {S : World → Prop} {a : Act} {w : World} (hm : P.follows .mixedOrders = true) (hd : noDefer l = true) (hQ : ∀ a w, ¬ Q .outgrown a w) (hS : S w.drew)
    (h : S w.drew → wpAnyH P .any l.toArray Q S l.toArray.size (Array.replicate l.toArray.size false) a w.drew) : (Code.region id l.toArray true).wpIn (Fence.wide.inRound l0) 0 P Q a w :=
  wpIn_region_any0 hm hd hQ (wpAny_of_held _ _ _ _ (h hS))
theorem wpIn_region_quiet0 {l0 : Nat} {P : Program} {id : Nat} {l : List Oper} {Q : Exit → Act → World → Prop} {a : Act} {w : World} (hm : P.follows .mixedOrders = true) (hd : noDefer l = true) (hB : Region.lexB .any l.toArray = true) (hQ : ∀ a w, ¬ Q .outgrown a w)
    (h : wpQuiet P l.toArray (fun w' => ∃ n, w' = w.drewN n) (fun a' => ∀ w', (∃ n, w' = w.drewN n) → Q .normal a' w') l a) : (Code.region id l.toArray true).wpIn (Fence.wide.inRound l0) 0 P Q a w := by
  simp only [Region.lexB, Bool.and_eq_true] at hB
  refine wpIn_region_any0 hm hd hQ (wpAny_of_quiet (C := fun w' => ∃ n, w' = w.drewN n) (Q := fun a' => ∀ w', (∃ n, w' = w.drewN n) → Q .normal a' w') (fun _ w' hw' h => h w' hw') _ _ _ _ ⟨1, rfl⟩ ?_)
  have := wpAnyQ_lex (C := fun w' => ∃ n, w' = w.drewN n) (md := .any) hB.1 l 0 (Array.replicate l.toArray.size false) a (by simp) (by simpa using hB.2) h
  simpa using this
/-- The same inside a round: its tail is walked outside of every fence. -/
theorem wpIn_region_still_tail0 {l0 : Nat} {P : Program} {id : Nat} {Q : Exit → Act → World → Prop} {a : Act} {w : World} {l : List Oper} (n : Nat) (hm : P.follows .mixedOrders = true) (hd : noDefer l = true) (hB : Region.lexTailB .any l.toArray n = true) (hQ : ∀ a w, ¬ Q .outgrown a w)
    (h : wpStill P l.toArray w.drew (fun a' => wpList P l.toArray Q (l.drop n) a' w.drew) (l.take n) a) : (Code.region id l.toArray true).wpIn (Fence.wide.inRound l0) 0 P Q a w := by
  simp only [Region.lexTailB, Bool.and_eq_true, decide_eq_true_eq] at hB
  obtain ⟨⟨⟨⟨hsel, hn⟩, hs⟩, hc⟩, hlex⟩ := hB
  have hn' : n < l.length := by simpa using hn
  have htl : (l.take n).length = n := by simp; omega
  have hdl : (l.drop n).length = l.toArray.size - n := by simp
  have inv0 : HeadInv .any l.toArray n (Array.replicate l.toArray.size false) :=
    ⟨by simp, fun j oj _ hl => (by rw [getD_replicate_false] at hl; cases hl), fun t _ ht => getD_in (by simpa using ht) (getD_replicate_false _ _)⟩
  have H := wpAnyL_lex (md := .any) (g := l.toArray.size - n) hsel hs hc hn (l.take n) 0 _ a (fun j hj => by
    have hj' : j < n := by rw [htl] at hj; exact hj
    simp [hj']) (by simpa using htl) inv0 (by rw [htl]; exact hlex) h
  refine wpIn_region_any0 hm hd hQ ?_
  have := wpAny_of_head (Q' := Q) (g := l.toArray.size - n) (fun listed a' hL => by
    have := wpAny_of_seq (md := .any) (Q' := Q) (l.drop n) n listed a' w.drew (fun j => by simp [List.getElem?_drop]) (by rw [hdl]; exact hL.1) hL.2
    rwa [hdl] at this) _ _ _ H
  rw [htl, show n + (l.toArray.size - n) = l.toArray.size by omega] at this
  exact this
end Go.Proofs.Ythpagbfabpfngaa
/- The contracts of bank's sectors and behind: the closures, and what they go through. -/
namespace Go.Proofs.Ythpagbfabpfngaa
open Go.RowKit
attribute [local go_sem] Oper.semAt_some

/-- The sectors as they are erased. -/
def secN (base many k : Nat) : Nat := base + (k + 1) % many
theorem secN_lt {base many k : Nat} (h : 3 ≤ many) : secN base many k < base + many := by
  have := Nat.mod_lt (k + 1) (show 0 < many by omega)
  unfold secN; omega
theorem sectorsB_any (B : Nat) (w : World) : Calls Try.prog 51 #[.pointer (some ⟨B, 0, none⟩)] w fun e w' => e = .returned (.func (.func 91) #[] #[.pointer (some ⟨w.heap.size, 0, none⟩)]) ∧ w' = w.alloc (.cells #[.pointer (some ⟨B, 0, none⟩)] 35) := by
  have hmf : ∀ (fn : Fn) (first cap : Array Value) (w : World), (Instr.makeFunc fn first cap).run Try.prog w = .ok (.func fn first cap) w := fun _ _ _ _ => rfl
  go_enter Try.func51, Try.ntmps51
  go_wp2
  go_ret
  exact ⟨rfl, rfl⟩
set_option maxHeartbeats 2000000 in
set_option maxRecDepth 100000 in
theorem sectors_in (l0 X B base many : Nat) (F : World → Nat → Prop) (J Jx : Nat → World → Prop) (W : World) (hm : 1 ≤ many ∧ many ≤ 64 ∧ base ≤ 64)
    (hC : ∀ k W', J k W' → W'.cell? ⟨X, 0, none⟩ = some (.pointer (some ⟨B, 0, none⟩)) ∧ W'.cell? ⟨B, 1, none⟩ = some (.int .i64 base) ∧ W'.cell? ⟨B, 2, none⟩ = some (.int .i64 many))
    (hR : RoundsF Try.prog l0 many (fun k => #[.int .i64 (secN base many k : Nat)]) F J Jx) (fJ : ∀ k, Foot F (J k)) (h0 : J 0 W) :
    Iter Try.prog 91 #[.pointer (some ⟨X, 0, none⟩)] l0 many J Jx W := by
  refine callsIn_of_wp Try.func91 rfl trivial ?_ rfl
  simp only [Try.ntmps91, List.size_toArray, List.length_cons, List.length_nil, Nat.reduceAdd, Nat.reduceSub, Array.replicate_succ, Array.replicate_zero, List.push_toArray, List.append_toArray, List.nil_append, List.cons_append]
  have HJ := Lib.hid (And.intro fJ (And.intro h0 (And.intro hR hC)))
  obtain ⟨c0, -, c2⟩ := hC 0 W h0
  clear fJ h0 hR hC
  gi_wp2
  gi_loopg [8] many (fun m v wr => ∃ i : Nat, i + m = many ∧ v = .int .i64 (i : Nat) ∧ Aside (J i wr))
  case atStart => exact ⟨0, by omega, rfl, HJ.out.2.1⟩
  case round =>
    obtain ⟨i, him, rfl, HA⟩ := hrel
    cases gk with
    | zero =>
      obtain rfl : i = many := by omega
      gi_wp2
      go_end0
      exact ⟨⟨_, rfl⟩, .inl HA.out⟩
    | succ m1 =>
      have hlt : i < many := by omega
      obtain ⟨k0, k1, k2⟩ := HJ.out.2.2.2 _ _ HA.out
      have hJ1 : J i wr.drew := ((HJ.out.1 i).keepBelow HA.out (below_dn (Below.refl _ _) 1)).1
      obtain ⟨fn, tmps, assign, body, hyd, hRo⟩ := HJ.out.2.2.1 i _ hJ1 hlt
      have hsec : secN base many i = base + (i + 1) % many := rfl
      have hy0 := Nat.mod_lt (i + 1) (show 0 < many by omega)
      have e2 : ((i : Int) + 1).tmod (many : Int) = (((i + 1) % many : Nat) : Int) := by rw [Int.tmod_eq_emod_of_nonneg (by omega)]; push_cast; rfl
      obtain ⟨y, hy⟩ : ∃ y, (i + 1) % many = y := ⟨_, rfl⟩
      rw [hy] at e2 hy0 hsec
      dsimp only at hyd
      rw [hsec, show (((base + y : Nat) : Int)) = (base : Int) + (y : Int) by push_cast; rfl] at hyd
      have b1 : (1 : Int) ≤ (many : Int) := by omega
      have b2 : ¬ many = 0 := by omega
      have b3 : (0 : Int) ≤ (i : Int) + 1 := by omega
      have f1 : IntKind.i64.wrap ((i : Int) + 1) = (i : Int) + 1 := by rw [IntKind.wrap_i64]; omega
      have f2 : IntKind.i64.wrap ((base : Int) + (y : Int)) = (base : Int) + (y : Int) := by rw [IntKind.wrap_i64]; omega
      have f3 : IntKind.i64.wrap (y : Int) = (y : Int) := by rw [IntKind.wrap_i64]; omega
      clear c0 c2 hy hsec hJ1
      gi_wp2
      refine wpIn_region_still_tail 13 (by kernel_rfl) (by kernel_rfl) ?_
      simp only [List.take_succ_cons, List.take_zero, List.drop_succ_cons, List.drop_zero]
      repeat still_step
      try refine wpStill_nil ?_
      gi_wp2
      refine ⟨rfl, hRo.mono ?_⟩
      rintro e W3 (⟨rfl, hJ3, -⟩ | ⟨rfl, hJx3, -⟩)
      · have H3 := Lib.hid hJ3
        clear hJ3 hyd hRo
        gi_wp2
        go_roundg m1
        case measure => omega
        case rel => exact ⟨i + 1, by omega, by go_num, H3.out⟩
      · have H3 := Lib.hid hJx3
        clear hJx3 hyd hRo
        gi_wp2
        refine bodyPost_ret (results_none rfl _ _ _) rfl ?_
        exact ⟨⟨_, rfl⟩, .inr ⟨i + 1, by omega, H3.out⟩⟩
theorem behindB_any (B : Nat) (v : Value) (hv : ∃ sp n c, v = .slice sp n c) (w : World) : Calls Try.prog 78 #[.pointer (some ⟨B, 0, none⟩), v] w fun e w' => e = .returned (.func (.func 107) #[] #[.pointer (some ⟨w.heap.size + 1, 0, none⟩), .pointer (some ⟨w.heap.size, 0, none⟩)]) ∧ w' = (w.alloc (.cells #[.pointer (some ⟨B, 0, none⟩)] 35)).alloc (.cells #[v] 24) := by
  have hmf : ∀ (fn : Fn) (first cap : Array Value) (w : World), (Instr.makeFunc fn first cap).run Try.prog w = .ok (.func fn first cap) w := fun _ _ _ _ => rfl
  obtain ⟨sp, n, c, rfl⟩ := hv
  go_enter Try.func78, Try.ntmps78
  go_wp2
  go_ret
  exact ⟨rfl, rfl⟩
set_option maxHeartbeats 2000000 in
set_option maxRecDepth 100000 in
theorem behind_in (l0 XS XB B p n b off cap : Nat) (sp : Option Addr) (l : Nat → BitVec 32) (F : World → Nat → Prop) (J Jx : Nat → World → Prop) (W : World) (hp : p ≤ 100000 ∧ n ≤ 100000)
    (hC : ∀ k W', J k W' → W'.cell? ⟨XS, 0, none⟩ = some (.slice sp n cap) ∧ W'.cell? ⟨XB, 0, none⟩ = some (.pointer (some ⟨B, 0, none⟩)) ∧ W'.cell? ⟨B, 4, none⟩ = some (.int .i64 p) ∧ Ws W' sp b off n l)
    (hR : RoundsF Try.prog l0 n (fun k => #[.agg #[.int .i64 ((p + k : Nat) : Int), .int .u32 (w32 (l k))]]) F J Jx) (fJ : ∀ k, Foot F (J k)) (h0 : J 0 W) :
    Iter Try.prog 107 #[.pointer (some ⟨XS, 0, none⟩), .pointer (some ⟨XB, 0, none⟩)] l0 n J Jx W := by
  refine callsIn_of_wp Try.func107 rfl trivial ?_ rfl
  simp only [Try.ntmps107, List.size_toArray, List.length_cons, List.length_nil, Nat.reduceAdd, Nat.reduceSub, Array.replicate_succ, Array.replicate_zero, List.push_toArray, List.append_toArray, List.nil_append, List.cons_append]
  have HJ := Lib.hid (And.intro fJ (And.intro h0 (And.intro hR hC)))
  obtain ⟨c0, -, -, -⟩ := hC 0 W h0
  clear fJ h0 hR hC
  gi_wp2
  gi_loopg [8] n (fun m v wr => ∃ i : Nat, i + m = n ∧ v = .int .i64 (i : Nat) ∧ Aside (J i wr))
  case atStart => exact ⟨0, by omega, rfl, HJ.out.2.1⟩
  case round =>
    obtain ⟨i, him, rfl, HA⟩ := hrel
    cases gk with
    | zero =>
      obtain rfl : i = n := by omega
      gi_wp2
      go_end0
      exact ⟨⟨_, rfl⟩, .inl HA.out⟩
    | succ m1 =>
      have hlt : i < n := by omega
      obtain ⟨-, k1, k2, hW⟩ := HJ.out.2.2.2 _ _ HA.out
      obtain ⟨rfl, -⟩ := hW.sp (by omega)
      have hc := hW.cell i hlt
      obtain ⟨fn, tmps, assign, body, hyd, hRo⟩ := HJ.out.2.2.1 i _ HA.out hlt
      dsimp only at hyd
      rw [show (((p + i : Nat) : Int)) = (p : Int) + (i : Int) by push_cast; rfl] at hyd
      clear c0 hW
      gi_wp2
      refine ⟨rfl, hRo.mono ?_⟩
      rintro e W3 (⟨rfl, hJ3, -⟩ | ⟨rfl, hJx3, -⟩)
      · have H3 := Lib.hid hJ3
        clear hJ3 hyd hRo
        gi_wp2
        go_roundg m1
        case measure => omega
        case rel => exact ⟨i + 1, by omega, by go_num, H3.out⟩
      · have H3 := Lib.hid hJx3
        clear hJx3 hyd hRo
        gi_wp2
        refine bodyPost_ret (results_none rfl _ _ _) rfl ?_
        exact ⟨⟨_, rfl⟩, .inr ⟨i + 1, by omega, H3.out⟩⟩
end Go.Proofs.Ythpagbfabpfngaa
/- What bank's loops keep from round to round; the contract of Worn. -/
namespace Go.Proofs.Ythpagbfabpfngaa
open Go.RowKit
attribute [local go_sem] Oper.semAt_some

/-- What a loop over a bank keeps: the bank, cells of the call's own, its result. -/
structure LI (w0 : World) (T : Nat → Prop) (Z R : Nat) (C : List (Addr × Value)) (B q S : Nat) (g : Nat → Nat) (n0 : Nat) (d : Dev) (base many : Nat) (op : Bool) (P : List (BitVec 32)) (r : Value) (w : World) : Prop where
  bk : Bk w B q S g d base many op P
  ns : d.ns = n0
  cs : ∀ x ∈ C, w.cell? x.1 = some x.2 ∧ w0.heap.size ≤ x.1.block ∧ x.1.block < Z ∧ x.1.block ≠ R
  res : w.cell? ⟨R, 0, none⟩ = some r
  fr : w.frozen? ⟨R, 0, none⟩ = false
  rz : w0.heap.size ≤ R ∧ R < Z
  sz : Z ≤ w.heap.size
  ch : Ch T w0 w
  lo : ∀ j, OwnB B q S g n0 j → j < w0.heap.size
def LF (Z : Nat) (_ : World) (j : Nat) : Prop := j < Z
section
variable {w0 : World} {T : Nat → Prop} {Z R : Nat} {C : List (Addr × Value)} {B q S : Nat} {g : Nat → Nat} {n0 : Nat} {d d' : Dev} {base many : Nat} {op : Bool} {P : List (BitVec 32)} {r : Value} {w w' : World}
theorem LI.new (h : LI w0 T Z R C B q S g n0 d base many op P r w) (hb : Below w.heap.size w w') : LI w0 T Z R C B q S g n0 d base many op P r w' := by
  have c : Ch (fun _ => False) w w' := Ch.new hb
  exact ⟨h.bk.new hb, h.ns, fun x hx => ⟨c.cell (h.cs x hx).1 (fun h => h), (h.cs x hx).2⟩, c.cell h.res (fun h => h), (c.frozenCell h.res (fun h => h)).trans h.fr, h.rz, Nat.le_trans h.sz c.size, h.ch.trans (Ch.new hb), h.lo⟩
theorem LI.dn (h : LI w0 T Z R C B q S g n0 d base many op P r w) (n : Nat) : LI w0 T Z R C B q S g n0 d base many op P r (w.drewN n) := h.new (below_dn (Below.refl _ _) n)
theorem LI.keep (h : LI w0 T Z R C B q S g n0 d base many op P r w) (hc : Ch (fun j => ¬ LF Z w j) w w') : LI w0 T Z R C B q S g n0 d base many op P r w' := by
  have h1 : ∀ j, j < Z → ¬ ¬ LF Z w j := fun j hj hn => hn hj
  have hz := h.rz
  refine ⟨h.bk.keep hc (fun j hj => h1 j (by have := h.lo j (by rw [← h.ns]; exact hj); omega)), h.ns, fun x hx => ⟨hc.cell (h.cs x hx).1 (h1 _ (h.cs x hx).2.2.1), (h.cs x hx).2⟩, hc.cell h.res (h1 _ hz.2), (hc.frozenCell h.res (h1 _ hz.2)).trans h.fr, h.rz, Nat.le_trans h.sz hc.size, ?_, h.lo⟩
  refine ⟨hc.os.trans h.ch.os, hc.tape.trans h.ch.tape, hc.output.trans h.ch.output, Nat.le_trans h.ch.size hc.size, fun k hk hn => ?_⟩
  rw [hc.block k (Nat.lt_of_lt_of_le hk h.ch.size) (h1 k (by omega))]
  exact h.ch.block k hk hn
theorem LI.foot : Foot (LF Z) (LI w0 T Z R C B q S g n0 d base many op P r) where
  lt := fun _W h _j hj => Nat.lt_of_lt_of_le hj h.sz
  keep := fun _W _W' h hc => ⟨h.keep hc, fun _j hj => hj⟩
/-- The device is turned. -/
theorem LI.turn (h : LI w0 T Z R C B q S g n0 d base many op P r w) (hT : ∀ j, OwnD q S g n0 j → T j) (hd : DevAt w' q S g d') (hs : d'.ns = d.ns ∧ d'.nw = d.nw) (hc : Ch (OwnD q S g d.ns) w w') : LI w0 T Z R C B q S g n0 d' base many op P r w' := by
  have hz := h.rz
  have hl : ∀ j, w0.heap.size ≤ j → ¬ OwnD q S g d.ns j := fun j hj ho => by have := h.lo j (.inr (by rw [← h.ns]; exact ho)); omega
  exact ⟨h.bk.dev' hd hs hc, hs.1.trans h.ns, fun x hx => ⟨hc.cell (h.cs x hx).1 (hl _ (h.cs x hx).2.1), (h.cs x hx).2⟩, hc.cell h.res (hl _ hz.1), (hc.frozenCell h.res (hl _ hz.1)).trans h.fr, h.rz, Nat.le_trans h.sz hc.size, h.ch.trans (hc.mono fun j _ hj => hT j (by rw [← h.ns]; exact hj)), h.lo⟩
/-- The result is set. -/
theorem LI.ret (h : LI w0 T Z R C B q S g n0 d base many op P r w) (v : Value) : LI w0 T Z R C B q S g n0 d base many op P v (w.setCell ⟨R, 0, none⟩ v) := by
  have hz := h.rz
  have hc : Ch (fun j => j = R) w (w.setCell ⟨R, 0, none⟩ v) := (Ch.refl _ _).setCell _ _ (.inl rfl)
  refine ⟨h.bk.keep hc (fun j hj e => by have := h.lo j (by rw [← h.ns]; exact hj); omega), h.ns, fun x hx => ⟨hc.cell (h.cs x hx).1 (h.cs x hx).2.2.2, (h.cs x hx).2⟩, World.cell?_setCell_same _ _ _ h.res, by rw [World.frozen?_setCell]; exact h.fr, h.rz, Nat.le_trans h.sz hc.size, ?_, h.lo⟩
  exact ⟨hc.os.trans h.ch.os, hc.tape.trans h.ch.tape, hc.output.trans h.ch.output, Nat.le_trans h.ch.size hc.size, fun k hk hn => (hc.block k (Nat.lt_of_lt_of_le hk h.ch.size) (by omega)).trans (h.ch.block k hk hn)⟩
theorem LI.off (h : LI w0 T Z R C B q S g n0 d base many op P r w) (j : Nat) (hj : OwnB B q S g d.ns j) : j < Z ∧ j ≠ R := by
  have := h.lo j (by rw [← h.ns]; exact hj)
  have := h.rz
  exact ⟨by omega, by omega⟩
theorem LF.step (h : Ch (LF Z w) w w') : Step (LF Z) w w' := ⟨h, fun _j hj => .inl hj⟩
/-- What is there behind the loop: the range's mark is taken off. -/
theorem LI.done (h : LI w0 T Z R C B q S g n0 d base many op P r w) (o : Obj) : LI w0 T Z R C B q S g n0 d base many op P r (w.putObj Z o) := h.keep ((Ch.refl _ w).putObj _ _ (fun hn => Nat.lt_irrefl _ hn))
theorem LI.none_below (h : LI w0 (fun _ => False) Z R C B q S g n0 d base many op P r w) : Below w0.heap.size w0 w := h.ch.below (fun _ _ h => h) (Nat.le_refl _)
end

theorem LI.grow {w0 : World} {T : Nat → Prop} {Z R : Nat} {C : List (Addr × Value)} {B q S : Nat} {g : Nat → Nat} {n0 : Nat} {d : Dev} {base many : Nat} {op : Bool} {P : List (BitVec 32)} {r : Value} {w : World} (h : LI w0 T Z R C B q S g n0 d base many op P r w) (v : Value) (ty : TypeId) :
    LI w0 T (w.heap.size + 1) R ((⟨w.heap.size, 0, none⟩, v) :: C) B q S g n0 d base many op P r (w.alloc (.cells #[v] ty)) := by
  have h1 := h.new ((Below.refl w.heap.size w).alloc (Nat.le_refl _) (.cells #[v] ty))
  have hs := h.sz
  have hrz := h.rz
  refine ⟨h1.bk, h1.ns, fun x hx => ?_, h1.res, h1.fr, ⟨hrz.1, by omega⟩, by simp, h1.ch, h1.lo⟩
  rcases List.mem_cons.1 hx with rfl | hx
  · exact ⟨(BoxAt.mk_new w #[v] ty).cell 0 _ rfl, h.ch.size, Nat.lt_succ_self _, by simp only; omega⟩
  · obtain ⟨a1, a2, a3, a4⟩ := h1.cs x hx
    exact ⟨a1, a2, by omega, a4⟩
theorem LI.cell {w0 : World} {T : Nat → Prop} {Z R : Nat} {C : List (Addr × Value)} {B q S : Nat} {g : Nat → Nat} {n0 : Nat} {d : Dev} {base many : Nat} {op : Bool} {P : List (BitVec 32)} {r : Value} {w : World} (h : LI w0 T Z R C B q S g n0 d base many op P r w) (x : Addr × Value) (hx : x ∈ C) : w.cell? x.1 = some x.2 := (h.cs x hx).1

/-- Can a sector not be erased any more? -/
def wornB (d : Dev) (base many : Nat) : Bool := (List.range many).any fun k => decide (d.limit ≤ d.worn (secN base many k))
theorem worn_sec {d : Dev} (s : Nat) (h : s < d.ns) : d.wornS (s : Int) = d.worn s := by
  unfold Dev.wornS Dev.has
  simp [h]
theorem wornB_none {d : Dev} {base many : Nat} (h : ∀ i, i < many → ¬ d.limit ≤ d.worn (secN base many i)) : wornB d base many = false := by
  unfold wornB
  rw [List.any_eq_false]
  intro i hi
  simpa using h i (by simpa using hi)
theorem wornB_some {d : Dev} {base many k : Nat} (hk : k < many) (h : d.limit ≤ d.worn (secN base many k)) : wornB d base many = true := by
  unfold wornB
  rw [List.any_eq_true]
  exact ⟨k, by simpa using hk, by simpa using h⟩
set_option maxHeartbeats 4000000 in
set_option maxRecDepth 100000 in
theorem bworn_any {w : World} {B q S : Nat} {g : Nat → Nat} {d : Dev} {base many : Nat} {op : Bool} {P : List (BitVec 32)} (h : Bk w B q S g d base many op P) :
    Calls Try.prog 17 #[.pointer (some ⟨B, 0, none⟩)] w fun e w' => e = .returned (.bool (wornB d base many)) ∧ Below w.heap.size w w' := by
  refine (callsIn_wide (n := 0)).1 ?_
  refine callsIn_of_wp_marks Try.func17 rfl trivial ?_ rfl
  simp only [Try.ntmps17, List.size_toArray, List.length_cons, List.length_nil, Nat.reduceAdd, Nat.reduceSub, Array.replicate_succ, Array.replicate_zero, List.push_toArray, List.append_toArray, List.nil_append, List.cons_append]
  obtain ⟨A, hA⟩ : ∃ A, A = w.heap.size := ⟨_, rfl⟩
  gi_wp2_with (refine ⟨trivial, rfl, ?_⟩; gi_at_call 51; refine (callsIn_wide.2 (sectorsB_any _ _)).mono ?_; rintro e w' ⟨rfl, rfl⟩)
  generalize hw1 : World.alloc _ (Obj.cells #[Value.pointer (some ⟨B, 0, none⟩)] 35) = w1
  have z1 : w1.heap.size = A + 3 := by rw [← hw1, hA]; simp
  have b1 : Below w.heap.size w w1 := by rw [← hw1]; exact (((Below.refl _ w).alloc (Nat.le_refl _) _).alloc (by simp) _).alloc (by simp; omega) _
  have hlo := h.lt
  have H1 := Lib.hid (show LI w (fun _ => False) (A + 3) (A + 1) [(⟨A, 0, none⟩, .pointer (some ⟨B, 0, none⟩)), (⟨A + 1 + 1, 0, none⟩, .pointer (some ⟨B, 0, none⟩))] B q S g d.ns d base many op P (.bool false) w1 from by
    refine ⟨h.new b1, rfl, ?_, by rw [← hw1, hA]; simp [go_sem], by rw [← hw1, hA]; simp [go_sem], by omega, by omega, Ch.new b1, hlo⟩
    intro x hx
    simp at hx
    rcases hx with rfl | rfl
    · exact ⟨by rw [← hw1, hA]; simp [go_sem], by simp; omega, by simp, by simp⟩
    · exact ⟨by rw [← hw1, hA]; simp [go_sem], by simp; omega, by simp, by simp⟩)
  have HH := Lib.hid (And.intro hA (And.intro z1 h.fit))
  have hz := h.dev.zn
  have HZ := Lib.hid hz
  rw [← hA]
  clear hw1 b1 hlo h z1 hz hA
  refine wpIn_rangeF (gf := 91) (lb := #[.pointer (some ⟨A + 1 + 1, 0, none⟩)]) rfl (enters_of Try.func91 (by kernel_rfl) rfl)
    many (fun k => #[.int .i64 (secN base many k : Nat)]) (fun _ => rfl) (LF (A + 3))
    (fun k W => LI w (fun _ => False) (A + 3) (A + 1) [(⟨A, 0, none⟩, .pointer (some ⟨B, 0, none⟩)), (⟨A + 1 + 1, 0, none⟩, .pointer (some ⟨B, 0, none⟩))] B q S g d.ns d base many op P (.bool false) W ∧ ∀ i, i < k → ¬ d.limit ≤ d.worn (secN base many i))
    (fun c _ W => c = .ret ∧ LI w (fun _ => False) (A + 3) (A + 1) [(⟨A, 0, none⟩, .pointer (some ⟨B, 0, none⟩)), (⟨A + 1 + 1, 0, none⟩, .pointer (some ⟨B, 0, none⟩))] B q S g d.ns d base many op P (.bool true) W ∧ wornB d base many = true)
    (fun _ => ⟨fun W h => LI.foot.lt W h.1, fun W W' h hc => ⟨⟨(LI.foot.keep W W' h.1 hc).1, h.2⟩, fun _ hj => hj⟩⟩)
    (fun _ _ => ⟨fun W h => LI.foot.lt W h.2.1, fun W W' h hc => ⟨⟨h.1, (LI.foot.keep W W' h.2.1 hc).1, h.2.2⟩, fun _ hj => hj⟩⟩) ⟨H1.out, fun i hi => absurd hi (Nat.not_lt_zero i)⟩
    (fun k a' _ => a' = { tmps := #[.pointer (some ⟨B, 0, none⟩), .pointer (some ⟨A, 0, none⟩), .pointer (some ⟨A + 1, 0, none⟩), .int .i64 (secN base many k : Nat), .pointer (some ⟨B, 0, none⟩), .func (.func 91) #[] #[.pointer (some ⟨A + 1 + 1, 0, none⟩)], .int .i64 (secN base many k : Nat), undef, undef, undef, undef, undef, undef, undef, undef, undef, undef, undef, undef], defers := [] })
    (fun _ _ _ _ h _ => h) ?hit ?assign ?body ?done ?stop
  case hit =>
    intro J Jx W1 h1 h2 h3 h4 h5 h6 h7 h8
    refine sectors_in _ (A + 1 + 1) B base many _ J Jx W1 (by have := HH.out; have := HZ.out; omega) (fun k W' hJ => ?_) h7 h5 h8
    have hL := (h3 k W' hJ).1.1
    exact ⟨(hL.cs (⟨A + 1 + 1, 0, none⟩, .pointer (some ⟨B, 0, none⟩)) (by simp)).1, hL.bk.c1, hL.bk.c2⟩
  case assign =>
    intro k W K hi hk hK
    gi_wp2
    exact hK _ _ rfl (Ch.refl _ _) hi (fun _ h => h)
  case body =>
    rintro k a' W ⟨hi, hn⟩ hk rfl hz
    have p0 := (hi.cs (⟨A, 0, none⟩, .pointer (some ⟨B, 0, none⟩)) (by simp)).1
    have c0 := hi.bk.c0
    have hs := secN_lt (base := base) (k := k) HH.out.2.2.2.1
    have hsn : secN base many k < d.ns := by have := HH.out; omega
    have HWn := fun n => Lib.hid (by have := quietly (worn_any (hi.dn n).bk.dev (secN base many k : Nat)); rw [worn_sec _ hsn] at this; exact this)
    have HLm := fun n => Lib.hid (quietly (limit_any (hi.dn n).bk.dev))
    have HI := Lib.hid (And.intro hi hn)
    obtain ⟨s, hsec⟩ : ∃ s, secN base many k = s := ⟨_, rfl⟩
    rw [hsec] at HWn hs hsn
    obtain ⟨lm, hlm⟩ : ∃ lm, d.limit = lm := ⟨_, rfl⟩
    obtain ⟨ww, hww⟩ : ∃ ww, d.worn s = ww := ⟨_, rfl⟩
    rw [hlm] at HLm
    rw [hww] at HWn
    rw [hsec]
    have HE := Lib.hid (And.intro hsec (And.intro hlm hww))
    clear hi hn hsec hlm hww hs hsn hz
    by_cases hw : lm ≤ ww
    · have d1 : decide (lm ≤ ww) = true := by simpa using hw
      have HW := Lib.hid hw
      clear hw
      gi_wp2
      refine wpIn_region_quiet0 (by kernel_rfl) (by kernel_rfl) (by kernel_rfl) (fun _ _ h => h) ?_
      repeat (quiet_step (first | (go_at_call 52; exact (HWn _).out) | (go_at_call 53; exact (HLm _).out)))
      refine wpQuiet_nil ?_
      intro _ hw1
      obtain ⟨nq, hw2⟩ := hw1
      subst hw2
      have H2 := Lib.hid (HI.out.1.dn nq)
      have r2 := H2.out.res
      have f2 := H2.out.fr
      gi_wp2
      refine ⟨LF.step (((Ch.refl _ W).drewN nq).setCell _ _ (.inl (show A + 1 < A + 3 by omega))), rfl, H2.out.ret _, wornB_some hk ?_⟩
      rw [HE.out.1, HE.out.2.1, HE.out.2.2]
      exact HW.out
    · have d1 : decide (lm ≤ ww) = false := by simpa using hw
      have HW := Lib.hid hw
      clear hw
      gi_wp2
      refine wpIn_region_quiet0 (by kernel_rfl) (by kernel_rfl) (by kernel_rfl) (fun _ _ h => h) ?_
      repeat (quiet_step (first | (go_at_call 52; exact (HWn _).out) | (go_at_call 53; exact (HLm _).out)))
      refine wpQuiet_nil ?_
      intro _ hw1
      obtain ⟨nq, hw2⟩ := hw1
      subst hw2
      have H2 := Lib.hid (HI.out.1.dn nq)
      gi_wp2
      refine ⟨LF.step ((Ch.refl _ W).drewN nq), H2.out, fun i hi => ?_⟩
      rcases Nat.lt_or_ge i k with h1 | h1
      · exact HI.out.2 i h1
      · obtain rfl : i = k := by omega
        rw [HE.out.1, HE.out.2.1, HE.out.2.2]
        exact HW.out
  case done =>
    rintro W ⟨hi, hn⟩ hD hnD hz
    rw [HH.out.2.1] at hD hnD hz
    have HI := Lib.hid (And.intro hi (wornB_none hn))
    have HD := Lib.hid (And.intro hD hz)
    have r2 := hi.res
    have f2 := hi.fr
    clear hi hn hD hnD hz
    gi_wp2
    rw [HH.out.2.1]
    have hc : Ch (fun j => j = A + 1) W (W.setCell ⟨A + 1, 0, none⟩ (.bool false)) := (Ch.refl _ _).setCell _ _ (.inl rfl)
    have hD' := hc.obj HD.out.1 (by omega)
    have hI := (HI.out.1.ret (.bool false)).done (.deferred none)
    have hr := hI.res
    refine ⟨by simp, .inl ⟨_, _, rfl, run_takeDeferred hD', ?_⟩⟩
    refine ⟨.bool false, ?_, ?_, hI.none_below⟩
    · simp [results, Try.results17, go_sem, hr]
    · rw [HI.out.2]
  case stop =>
    rintro c k W hk ⟨rfl, hi, ht⟩ hD hnD hz
    rw [HH.out.2.1] at hD hnD hz
    have HI := Lib.hid (And.intro hi ht)
    have HD := Lib.hid (And.intro hD hz)
    clear hi ht hD hnD hz
    gi_wp2
    rw [HH.out.2.1]
    have hI := HI.out.1.done (.deferred none)
    have hr := hI.res
    refine ⟨by simp, .inl ⟨_, _, rfl, run_takeDeferred HD.out.1, ?_⟩⟩
    refine ⟨.bool true, ?_, ?_, hI.none_below⟩
    · simp [results, Try.results17, go_sem, hr]
    · rw [HI.out.2]
end Go.Proofs.Ythpagbfabpfngaa
