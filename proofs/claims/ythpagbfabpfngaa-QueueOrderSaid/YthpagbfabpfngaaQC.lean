/- The contracts of what slices' Values and queue's All hand back: the closures, and what they go through. -/
import Derived.Test.YthpagbfabpfngaaQB
import Derived.Test.YthpagbfabpfngaaFoot2
import Derived.RecoverIn
import Derived.OwnWalkIn
import Derived.TacticsInMore
import Derived.RegionIn
import Derived.LoopNIn
import Derived.LoopIn
import Derived.Shelf.Abstract
import Derived.Shelf.RegionOpen
import Derived.Sort.LoopGhostIn
namespace Go.Proofs.Ythpagbfabpfngaa
open Go.RowKit
attribute [local go_sem] Oper.semAt_some

/-- Where a slice's ints lie. -/
def Lies (w : World) (sp : Option Addr) (b off : Nat) (l : List Int) : Prop :=
  (0 < l.length → sp = some ⟨b, off, none⟩ ∧ b < w.heap.size) ∧ ∀ k, k < l.length → w.cell? ⟨b, off + k, none⟩ = some (.int .i64 (nth l k))
theorem Lies.keep {T : Nat → Prop} {w w' : World} {sp : Option Addr} {b off : Nat} {l : List Int} (h : Lies w sp b off l) (hc : Ch T w w') (hT : 0 < l.length → ¬ T b) : Lies w' sp b off l :=
  ⟨fun h0 => ⟨(h.1 h0).1, Nat.lt_of_lt_of_le (h.1 h0).2 hc.size⟩, fun k hk => hc.cell (h.2 k hk) (hT (by omega))⟩
theorem Lies.below {w w' : World} {sp : Option Addr} {b off n : Nat} {l : List Int} (h : Lies w sp b off l) (hb : Below n w w') (hn : 0 < l.length → b < n) : Lies w' sp b off l :=
  h.keep (Ch.of_below hb) (fun h0 => by have := hn h0; omega)
theorem Lies.new {w w' : World} {sp : Option Addr} {b off : Nat} {l : List Int} (h : Lies w sp b off l) (hb : Below w.heap.size w w') : Lies w' sp b off l := h.keep (T := fun _ => False) (Ch.new hb) (fun _ h => h)

/-- New blocks alone: the caller's footprint is as it was. -/
theorem Step.fresh {FF : World → Nat → Prop} {I : World → Prop} {A B : World} (f : Foot FF I) (hI : I A) (hb : Below A.heap.size A B) : Step FF A B ∧ I B := by
  have hk := f.keep A B hI (Off.new hb)
  exact ⟨⟨Ch.new hb, fun j hj => .inl (hk.2 j hj)⟩, hk.1⟩

theorem values_any (v : Value) (sp : Option Addr) (n cap : Nat) (hv : v = .slice sp n cap) (w : World) : Calls Try.prog 33 #[v] w fun e w' => e = .returned (.func (.func 70) #[] #[.pointer (some ⟨w.heap.size, 0, none⟩)]) ∧ w' = w.alloc (.cells #[v] 25) := by
  have hmf : ∀ (fn : Fn) (first cap : Array Value) (w : World), (Instr.makeFunc fn first cap).run Try.prog w = .ok (.func fn first cap) w := fun _ _ _ _ => rfl
  subst hv
  go_enter Try.func33, Try.ntmps33
  go_wp2
  go_ret
  exact ⟨rfl, rfl⟩
theorem values_in (l Bs : Nat) (sp : Option Addr) (g off cap : Nat) (L : List Int) (FF : World → Nat → Prop) (J Jx : Nat → World → Prop) (W : World)
    (hlen : L.length ≤ 9223372036854775807) (hs0 : W.cell? ⟨Bs, 0, none⟩ = some (.slice sp L.length cap)) (hL : ∀ k W', J k W' → Lies W' sp g off L)
    (hR : RoundsF Try.prog l L.length (fun k => #[.int .i64 (nth L k)]) FF J Jx) (h0 : J 0 W) :
    Iter Try.prog 70 #[.pointer (some ⟨Bs, 0, none⟩)] l L.length J Jx W := by
  refine callsIn_of_wp Try.func70 rfl trivial ?_ rfl
  simp only [Try.ntmps70, List.size_toArray, List.length_cons, List.length_nil, Nat.reduceAdd, Nat.reduceSub, Array.replicate_succ, Array.replicate_zero, List.push_toArray, List.append_toArray, List.nil_append, List.cons_append]
  have HL := Lib.hid hL
  have HR := Lib.hid hR
  obtain ⟨N, hN⟩ : ∃ N, N = L.length := ⟨_, rfl⟩
  have HN := Lib.hid hN
  rw [← hN] at hs0 hlen ⊢
  clear hL hR hN
  gi_wp2
  clear hs0
  gi_loopg [7] N (fun gh i wr => ∃ k : Nat, k + gh = N ∧ i = .int .i64 k ∧ Aside (J k wr))
  case atStart => exact ⟨0, by omega, rfl, h0⟩
  case round =>
    obtain ⟨k, hkg, rfl, HJ⟩ := hrel
    cases gk with
    | zero =>
      obtain rfl : k = N := by omega
      gi_wp2
      go_end0
      exact ⟨⟨_, rfl⟩, .inl HJ.out⟩
    | succ g1 =>
      have hlt : k < N := by omega
      have hl := HL.out k wr HJ.out
      obtain ⟨rfl, hg⟩ := hl.1 (by rw [← HN.out]; omega)
      have hc := hl.2 k (by rw [← HN.out]; exact hlt)
      obtain ⟨fn, tmps, assign, body, hyd, hRo⟩ := HR.out k wr HJ.out (by rw [← HN.out]; exact hlt)
      dsimp only at hyd
      clear hl
      gi_wp2
      refine ⟨rfl, hRo.mono ?_⟩
      rintro e W3 (⟨rfl, hJ3, hc3⟩ | ⟨rfl, hJx3, -⟩)
      · have HJ3 := Lib.hid hJ3
        clear hJ3 hyd
        gi_wp2
        go_roundg g1
        case measure => omega
        case rel => exact ⟨k + 1, by omega, by go_num, HJ3.out⟩
      · gi_wp2
        refine bodyPost_ret (results_none rfl _ _ _) rfl ?_
        exact ⟨⟨_, rfl⟩, .inr ⟨k + 1, by omega, hJx3⟩⟩

theorem q_after {W w2 : World} {c p : Int} {g : Nat → Int} {N : Nat} {d : Int} {z : Array Value}
    (hz : (W.alloc (.cells z 129)).heap[W.heap.size]? = some (.cells z 129 (0, 0)))
    (hw2 : (W.alloc (.cells z 129)).setRow W.heap.size (ql c p g N d).toArray = w2) :
    QAt w2 W.heap.size c p g N d ∧ Below W.heap.size W w2 ∧ w2.heap.size = W.heap.size + 1 := by
  rw [← hw2]
  exact ⟨setRow_heap _ _ _ _ 129 (0, 0) hz, below_setRow ((Below.refl _ _).alloc (Nat.le_refl _) _) (Nat.le_refl _) _, by simp⟩
theorem qAll_any (B : Nat) (w : World) : Calls Try.prog 74 #[.pointer (some ⟨B, 0, none⟩)] w fun e w' => e = .returned (.func (.func 103) #[] #[.pointer (some ⟨w.heap.size, 0, none⟩)]) ∧ w' = w.alloc (.cells #[.pointer (some ⟨B, 0, none⟩)] 67) := by
  have hmf : ∀ (fn : Fn) (first cap : Array Value) (w : World), (Instr.makeFunc fn first cap).run Try.prog w = .ok (.func fn first cap) w := fun _ _ _ _ => rfl
  go_enter Try.func74, Try.ntmps74
  go_wp2
  go_ret
  exact ⟨rfl, rfl⟩
theorem wpListIn_load_mid {P : Program} {F : Fence} {n : Nat} {ops : Array Oper} {rest : List Oper} {op : Oper} {a : Act} {w : World} {Q : Exit → Act → World → Prop} (hgd : op.guard = none) (ty : TypeId) (x : Operand) (ho : op.op = .load ty x)
    (b o : Nat) (hx : a.eval x = .pointer (some ⟨b, o, none⟩)) (cs : List Value) (d : TypeDesc) (hc : w.rangeAt b o cs)
    (hu : P.underlying ty = some d) (hd : d.isRow = true) (hi : (P.info? ty).map (·.size) = some cs.length)
    (h : wpListIn F n P ops Q rest (a.put op.dst (.agg cs.toArray)) w) : wpListIn F n P ops Q (op :: rest) a w :=
  wpListIn_plain hgd fun _ hK => by
    unfold Oper.wpIn
    refine ⟨?_, ?_⟩
    · simp [Oper.about, ho]
    · rw [Oper.semAt_plain F _ _ (by rw [ho]; intro c hc'; cases hc')]
      simp only [execOp, ho, hx, Instr.loadAt, Instr.sureAddr, Sem.run_bind, Sem.run_pure, Result.andThen_ok, run_loadVar_mid w b o ty cs d hc hu hd hi]
      exact hK _ _ h
theorem wpListIn_store_row {P : Program} {F : Fence} {n : Nat} {ops : Array Oper} {rest : List Oper} {o : Oper} {a : Act} {w : World} {Q : Exit → Act → World → Prop} (hgd : o.guard = none) (ty : TypeId) (x y : Operand) (ho : o.op = .store ty x y)
    (g : Nat) (cells : Array Value) (hx : a.eval x = .pointer (some ⟨g, 0, none⟩)) (hy : a.eval y = .agg cells)
    (t : TypeId) (old : Array Value) (hg : w.heap[g]? = some (.cells old t (0, 0))) (hi : (P.info? ty).map (·.size) = some cells.size)
    (hold : old.size = cells.size) (h1 : cells.all (·.oneCell') = true)
    (h : wpListIn F n P ops Q rest (a.put o.dst undef) (w.setRow g cells)) : wpListIn F n P ops Q (o :: rest) a w :=
  wpListIn_plain hgd fun _ hK => by
    unfold Oper.wpIn
    refine ⟨?_, ?_⟩
    · simp [Oper.about, ho]
    · rw [Oper.semAt_plain F _ _ (by rw [ho]; intro c hc'; cases hc')]
      simp only [execOp, ho, hx, hy, Instr.storeAt, Instr.sureAddr, Sem.run_bind, Sem.run_pure, Result.andThen_ok, run_storeVar_row w g t ty old cells hg hi hold h1]
      exact hK _ _ h
theorem QAt.range {w : World} {B : Nat} {c p : Int} {g : Nat → Int} {m : Nat} {d : Int} (h : QAt w B c p g m d) : w.rangeAt B 0 (ql c p g m d) := fun j v hv => by
  rw [cell_of_row w B (0 + j) _ _ _ h]; simpa using hv
theorem infoQ : (Try.prog.info? 129).map (·.size) = some 20 := by kernel_rfl
theorem ql_one (c p : Int) (g : Nat → Int) (m : Nat) (d : Int) : ((ql c p g m d).toArray).all (·.oneCell') = true := all_oneCell_toArray (cs := ql c p g m d) (fun v hv => by
  unfold ql at hv
  simp at hv
  rcases hv with rfl | rfl | ⟨_, _, rfl⟩ | rfl | rfl <;> rfl)
set_option maxHeartbeats 2000000 in
set_option maxRecDepth 100000 in
theorem qall_in (l Bs B : Nat) (c p : Int) (L : List Int) (d : Int) (FF : World → Nat → Prop) (J Jx : Nat → World → Prop) (W : World)
    (hs0 : W.cell? ⟨Bs, 0, none⟩ = some (.pointer (some ⟨B, 0, none⟩))) (hQ : QL W B c p L d)
    (hR : RoundsF Try.prog l L.length (fun k => #[.int .i64 (nth L k)]) FF J Jx) (fJ : ∀ k, Foot FF (J k)) (h0 : J 0 W) :
    Iter Try.prog 103 #[.pointer (some ⟨Bs, 0, none⟩)] l L.length J Jx W := by
  refine callsIn_of_wp Try.func103 rfl trivial ?_ rfl
  simp only [Try.ntmps103, List.size_toArray, List.length_cons, List.length_nil, Nat.reduceAdd, Nat.reduceSub, Array.replicate_succ, Array.replicate_zero, List.push_toArray, List.append_toArray, List.nil_append, List.cons_append]
  obtain ⟨g, hq, hgL⟩ := hQ.at_
  have hcap : (L.length : Int) ≤ 16 := by have := hQ.cap; have := hQ.c16; omega
  have hz : (W.alloc (.cells #[.int .i64 0, .int .i64 0, .int .i64 0, .int .i64 0, .int .i64 0, .int .i64 0, .int .i64 0, .int .i64 0, .int .i64 0, .int .i64 0, .int .i64 0, .int .i64 0, .int .i64 0, .int .i64 0, .int .i64 0, .int .i64 0, .int .i64 0, .int .i64 0, .int .i64 0, .int .i64 0] 129)).heap[W.heap.size]? = some (.cells #[.int .i64 0, .int .i64 0, .int .i64 0, .int .i64 0, .int .i64 0, .int .i64 0, .int .i64 0, .int .i64 0, .int .i64 0, .int .i64 0, .int .i64 0, .int .i64 0, .int .i64 0, .int .i64 0, .int .i64 0, .int .i64 0, .int .i64 0, .int .i64 0, .int .i64 0, .int .i64 0] 129 (0, 0)) := heap_alloc_new W _
  have HG := Lib.hid hgL
  have HR := Lib.hid hR
  have HJ := Lib.hid (And.intro fJ h0)
  have HZ := Lib.hid hz
  have HQR := Lib.hid hq.range
  obtain ⟨N, hN⟩ : ∃ N, N = L.length := ⟨_, rfl⟩
  have HN := Lib.hid hN
  rw [← hN] at hq hcap HQR ⊢
  have b0 : (0 : Int) ≤ (N : Int) := by omega
  clear hQ hgL hR fJ h0 hz hN hq
  gi_wp2_with (first
    | (refine wpListIn_load_mid rfl 129 (.tmp 7) rfl B 0 rfl (ql c p g N d) _ HQR.out Try.underlying129 rfl (by rw [infoQ, ql_len]) ?_)
    | (refine wpListIn_store_row rfl 129 (.tmp 3) (.tmp 8) rfl _ (ql c p g N d).toArray rfl rfl 129 _ HZ.out (by rw [infoQ]; simp [ql_len]) (by simp [ql_len]) (ql_one _ _ _ _ _) ?_; generalize hw2 : World.setRow _ _ _ = w2; have H2 := Lib.hid (q_after HZ.out hw2); have cm := H2.out.1.cm; clear hw2)
    | fail)
  obtain ⟨Wb, hWb⟩ : ∃ Wb, Wb = W.heap.size := ⟨_, rfl⟩
  have k1 := Step.fresh (HJ.out.1 0) HJ.out.2 H2.out.2.1
  have H3 := Lib.hid (show J 0 w2 ∧ ¬ FF w2 Wb ∧ QAt w2 Wb c p g N d from ⟨k1.2, fun hf => by
    have := ((HJ.out.1 0).keep W w2 HJ.out.2 (Off.new H2.out.2.1)).2 _ hf
    have := (HJ.out.1 0).lt W HJ.out.2 _ this
    omega, by rw [hWb]; exact H2.out.1⟩)
  rw [← hWb]
  clear k1 H2 HZ hWb cm hs0
  gi_loopg [14] N (fun gh i wr => ∃ k : Nat, k + gh = N ∧ i = .int .i64 k ∧ Aside (J k wr ∧ ¬ FF wr Wb ∧ QAt wr Wb c p g N d))
  case atStart => exact ⟨0, by omega, rfl, H3.out⟩
  case round =>
    obtain ⟨k, hkg, rfl, HK⟩ := hrel
    cases gk with
    | zero =>
      obtain rfl : k = N := by omega
      gi_wp2
      go_end0
      exact ⟨⟨_, rfl⟩, .inl HK.out.1⟩
    | succ g1 =>
      have hlt : k < N := by omega
      have hc := HK.out.2.2.cg k (by omega)
      rw [HG.out k (by rw [← HN.out]; exact hlt)] at hc
      obtain ⟨fn, tmps, assign, body, hyd, hRo⟩ := HR.out k wr HK.out.1 (by rw [← HN.out]; exact hlt)
      dsimp only at hyd
      gi_wp2
      refine ⟨rfl, hRo.mono ?_⟩
      rintro e W3 (⟨rfl, hJ3, hs3⟩ | ⟨rfl, hJx3, -⟩)
      · have HJ3 := Lib.hid (show J (k + 1) W3 ∧ ¬ FF W3 Wb ∧ QAt W3 Wb c p g N d from ⟨hJ3, hs3.no HK.out.2.1 HK.out.2.2.lt, HK.out.2.2.keep hs3.1 HK.out.2.1⟩)
        clear hJ3 hs3 hyd
        gi_wp2
        go_roundg g1
        case measure => omega
        case rel => exact ⟨k + 1, by omega, by go_num, HJ3.out⟩
      · gi_wp2
        refine bodyPost_ret (results_none rfl _ _ _) rfl ?_
        exact ⟨⟨_, rfl⟩, .inr ⟨k + 1, by omega, hJx3⟩⟩
end Go.Proofs.Ythpagbfabpfngaa
