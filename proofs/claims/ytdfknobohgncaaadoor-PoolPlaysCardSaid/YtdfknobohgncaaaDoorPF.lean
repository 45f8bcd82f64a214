/- The contract of what pool's Out hands back: the closure, and what it goes through. -/
import Derived.Test.YtdfknobohgncaaaDoorPE
import Derived.RegionIn
import Derived.Laws.CopyOwn
namespace Go.Proofs.YtdfknobohgncaaaDoor
open Go.RowKit
attribute [local go_sem] Oper.semAt_some

theorem Out_any (B : Nat) (w : World) : Calls Tryd.prog 31 #[.pointer (some ⟨B, 0, none⟩)] w fun e w' => e = .returned (.func (.func 36) #[] #[.pointer (some ⟨w.heap.size, 0, none⟩)]) ∧ w' = w.alloc (.cells #[.pointer (some ⟨B, 0, none⟩)] 42) := by
  have hmf : ∀ (fn : Fn) (first cap : Array Value) (w : World), (Instr.makeFunc fn first cap).run Tryd.prog w = .ok (.func fn first cap) w := fun _ _ _ _ => rfl
  go_enter Tryd.func31, Tryd.ntmps31
  go_wp2
  go_ret
  exact ⟨rfl, rfl⟩

theorem wpListIn_load_mid {P : Program} {F : Fence} {n : Nat} {ops : Array Oper} {rest : List Oper} {op : Oper} {a : Act} {w : World} {Q : Exit → Act → World → Prop} (hgd : op.guard = none) (ty : TypeId) (x : Operand) (ho : op.op = .load ty x)
    (b o : Nat) (hx : a.eval x = .pointer (some ⟨b, o, none⟩)) (cs : List Value) (d : TypeDesc) (hc : w.rangeAt b o cs)
    (hu : P.underlying ty = some d) (hd : d.isRow = true) (hi : (P.info? ty).map (·.size) = some cs.length)
    (h : wpListIn F n P ops Q rest (a.put op.dst (.agg cs.toArray)) w) : wpListIn F n P ops Q (op :: rest) a w :=
  wpListIn_plain hgd fun _ hK => by
    unfold Oper.wpIn
    refine ⟨?_, ?_⟩
    · simp [Oper.about, ho]
    · rw [Oper.semAt_plain F _ _ (by rw [ho]; intro c hc'; cases hc')]
      simp only [execOp, ho, hx, Instr.loadAt, Instr.sureAddr, Sem.run_bind, Sem.run_pure, Result.andThen_ok, run_loadVar_mid w b o ty cs d hc hu hd hi]
      exact hK _ _ h
theorem wpListIn_store_row {P : Program} {F : Fence} {n : Nat} {ops : Array Oper} {rest : List Oper} {o : Oper} {a : Act} {w : World} {Q : Exit → Act → World → Prop} (hgd : o.guard = none) (ty : TypeId) (x y : Operand) (ho : o.op = .store ty x y)
    (g : Nat) (cells : Array Value) (hx : a.eval x = .pointer (some ⟨g, 0, none⟩)) (hy : a.eval y = .agg cells)
    (t : TypeId) (old : Array Value) (hg : w.heap[g]? = some (.cells old t (0, 0))) (hi : (P.info? ty).map (·.size) = some cells.size)
    (hold : old.size = cells.size) (h1 : cells.all (·.oneCell') = true)
    (h : wpListIn F n P ops Q rest (a.put o.dst undef) (w.setRow g cells)) : wpListIn F n P ops Q (o :: rest) a w :=
  wpListIn_plain hgd fun _ hK => by
    unfold Oper.wpIn
    refine ⟨?_, ?_⟩
    · simp [Oper.about, ho]
    · rw [Oper.semAt_plain F _ _ (by rw [ho]; intro c hc'; cases hc')]
      simp only [execOp, ho, hx, hy, Instr.storeAt, Instr.sureAddr, Sem.run_bind, Sem.run_pure, Result.andThen_ok, run_storeVar_row w g t ty old cells hg hi hold h1]
      exact hK _ _ h
theorem PAt.range {w : World} {B : Nat} {F U : BitVec 32} {g : Nat → Int} {lo : Int} (h : PAt w B F U g lo) : w.rangeAt B 0 (pl F U g lo) := fun j v hv => by
  rw [cell_of_row w B (0 + j) _ _ _ h]; simpa using hv
theorem info67 : (Tryd.prog.info? 67).map (·.size) = some 35 := by kernel_rfl
theorem pl_one (F U : BitVec 32) (g : Nat → Int) (lo : Int) : ((pl F U g lo).toArray).all (·.oneCell') = true := all_oneCell_toArray (cs := pl F U g lo) (fun v hv => by
  unfold pl at hv
  simp at hv
  rcases hv with rfl | rfl | ⟨_, _, rfl⟩ | rfl <;> rfl)
theorem setRow_new (w : World) (cs vs : Array Value) (t : TypeId) : ((w.alloc (.cells cs t)).setRow w.heap.size vs).heap[w.heap.size]? = some (.cells vs t (0, 0)) := setRow_heap _ _ _ _ t (0, 0) (heap_alloc_new w _)

/-- The marks of ranges that are over. -/
def marks (rs : List Nat) : List Deferred := rs.map fun r => { target := .collected r, args := #[] }
def Marked (F : World → Nat → Prop) (rs : List Nat) (W : World) : Prop := rs.Nodup ∧ ∀ r, r ∈ rs → W.heap[r]? = some (.deferred (some [])) ∧ ¬ F W r
theorem leaves_marks {P : Program} {fn : Func} {R : Ending → World → Prop} {F : World → Nat → Prop} {I : World → Prop} (tmps : Array Value) (hres : fn.results = #[]) (fI : Foot F I) (hI : ∀ A, I A → R (.returned (.tuple #[])) A) :
    ∀ (rs : List Nat) (A : World), Marked F rs A → I A → LeavesInM Fence.wide 0 P fn tmps R (marks rs) .returning A
  | [], A, _, h => ⟨_, results_none hres _ _ _, hI A h⟩
  | r :: rs, A, hm, h => by
    obtain ⟨hd, hall⟩ := hm
    obtain ⟨h1, h2⟩ := hall r (by simp)
    rw [List.nodup_cons] at hd
    have hc : Ch (fun j => j = r) A (A.putObj r (.deferred none)) := (Ch.refl _ A).putObj _ _ rfl
    have hk := fI.keep A _ h (Off.of hc fun j hj => by subst hj; exact h2)
    refine ⟨by simp, .inl ⟨_, _, rfl, run_takeDeferred h1, leaves_marks tmps hres fI hI rs _ ⟨hd.2, fun r' hr' => ?_⟩ hk.1⟩⟩
    obtain ⟨h3, h4⟩ := hall r' (by simp [hr'])
    exact ⟨hc.obj h3 (fun e => by subst e; exact hd.1 hr'), fun hf => h4 (hk.2 _ hf)⟩
theorem Foot.some {FF : World → Nat → Prop} {Jx : Nat → World → Prop} (h : ∀ k, Foot FF (Jx k)) (N : Nat) : Foot FF (fun A => ∃ m, m ≤ N ∧ Jx m A) :=
  ⟨fun W ⟨m, _, hj⟩ => (h m).lt W hj, fun W W' ⟨m, hm, hj⟩ hc => ⟨⟨m, hm, ((h m).keep W W' hj hc).1⟩, ((h m).keep W W' hj hc).2⟩⟩

/-- What the closure keeps beside what the caller's range keeps: its yield, and the pool as it was. -/
def In (FF : World → Nat → Prop) (I : World → Prop) (Yb Wb l : Nat) (F U : BitVec 32) (g : Nat → Int) (lo : Int) (A : World) : Prop :=
  I A ∧ (∀ x, x = Yb ∨ x = Wb → ¬ FF A x ∧ x < A.heap.size) ∧ A.cell? ⟨Yb, 0, none⟩ = some (.func (.yield l) #[] #[]) ∧ PAt A Wb F U g lo
def FIn (FF : World → Nat → Prop) (Yb Wb : Nat) (W : World) (j : Nat) : Prop := FF W j ∨ j = Yb ∨ j = Wb
theorem In.foot {FF : World → Nat → Prop} {I : World → Prop} (f : Foot FF I) (Yb Wb l : Nat) (F U : BitVec 32) (g : Nat → Int) (lo : Int) : Foot (FIn FF Yb Wb) (In FF I Yb Wb l F U g lo) where
  lt := fun W ⟨h1, h2, _⟩ j hj => by
    rcases hj with hj | hj
    · exact f.lt W h1 j hj
    · exact (h2 j hj).2
  keep := fun W W' ⟨h1, h2, h3, h4⟩ hc => by
    have hk := f.keep W W' h1 (Ch.mono hc fun j _ hn hf => hn (.inl hf))
    exact ⟨⟨hk.1, fun x hx => ⟨fun hf => (h2 x hx).1 (hk.2 _ hf), Nat.lt_of_lt_of_le (h2 x hx).2 hc.size⟩, hc.cell h3 (fun hn => hn (.inr (.inl rfl))), h4.keep hc (fun hn => hn (.inr (.inr rfl)))⟩, fun j hj => by
        rcases hj with hj | hj
        · exact .inl (hk.2 _ hj)
        · exact .inr hj⟩
theorem In.step {FF : World → Nat → Prop} {I I' : World → Prop} {Yb Wb l : Nat} {F U : BitVec 32} {g : Nat → Int} {lo : Int} {A B : World} (h : In FF I Yb Wb l F U g lo A) (hs : Step FF A B) (hI : I' B) : Step (FIn FF Yb Wb) A B ∧ In FF I' Yb Wb l F U g lo B := by
  obtain ⟨h1, h2, h3, h4⟩ := h
  have hn : ∀ x, x = Yb ∨ x = Wb → ¬ FF B x := fun x hx => hs.no (h2 x hx).1 (h2 x hx).2
  refine ⟨⟨Ch.mono hs.1 fun _ _ hf => .inl hf, fun j hj => ?_⟩, hI, fun x hx => ⟨hn x hx, Nat.lt_of_lt_of_le (h2 x hx).2 hs.1.size⟩, hs.1.cell h3 (h2 Yb (.inl rfl)).1, h4.keep hs.1 (h2 Wb (.inr rfl)).1⟩
  rcases hj with hj | hj
  · rcases hs.2 j hj with h | h
    · exact .inl (.inl h)
    · exact .inr h
  · exact .inl (.inr hj)
/-- New blocks alone: the caller's footprint is as it was. -/
theorem Step.fresh {FF : World → Nat → Prop} {I : World → Prop} {A B : World} (f : Foot FF I) (hI : I A) (hb : Below A.heap.size A B) : Step FF A B ∧ I B := by
  have hk := f.keep A B hI (Off.new hb)
  exact ⟨⟨Ch.new hb, fun j hj => .inl (hk.2 j hj)⟩, hk.1⟩

theorem after_store {W w2 : World} {Y : Array Value} {F U : BitVec 32} {g : Nat → Int} {lo : Int}
    (hz : ((W.alloc (.cells Y 53)).alloc (.cells #[.int .u32 0, .int .u32 0, .int .i64 0, .int .i64 0, .int .i64 0, .int .i64 0, .int .i64 0, .int .i64 0, .int .i64 0, .int .i64 0, .int .i64 0, .int .i64 0, .int .i64 0, .int .i64 0, .int .i64 0, .int .i64 0, .int .i64 0, .int .i64 0, .int .i64 0, .int .i64 0, .int .i64 0, .int .i64 0, .int .i64 0, .int .i64 0, .int .i64 0, .int .i64 0, .int .i64 0, .int .i64 0, .int .i64 0, .int .i64 0, .int .i64 0, .int .i64 0, .int .i64 0, .int .i64 0, .int .i64 0] 67)).heap[W.heap.size + 1]? = some (.cells #[.int .u32 0, .int .u32 0, .int .i64 0, .int .i64 0, .int .i64 0, .int .i64 0, .int .i64 0, .int .i64 0, .int .i64 0, .int .i64 0, .int .i64 0, .int .i64 0, .int .i64 0, .int .i64 0, .int .i64 0, .int .i64 0, .int .i64 0, .int .i64 0, .int .i64 0, .int .i64 0, .int .i64 0, .int .i64 0, .int .i64 0, .int .i64 0, .int .i64 0, .int .i64 0, .int .i64 0, .int .i64 0, .int .i64 0, .int .i64 0, .int .i64 0, .int .i64 0, .int .i64 0, .int .i64 0, .int .i64 0] 67 (0, 0)))
    (hw2 : ((W.alloc (.cells Y 53)).alloc (.cells #[.int .u32 0, .int .u32 0, .int .i64 0, .int .i64 0, .int .i64 0, .int .i64 0, .int .i64 0, .int .i64 0, .int .i64 0, .int .i64 0, .int .i64 0, .int .i64 0, .int .i64 0, .int .i64 0, .int .i64 0, .int .i64 0, .int .i64 0, .int .i64 0, .int .i64 0, .int .i64 0, .int .i64 0, .int .i64 0, .int .i64 0, .int .i64 0, .int .i64 0, .int .i64 0, .int .i64 0, .int .i64 0, .int .i64 0, .int .i64 0, .int .i64 0, .int .i64 0, .int .i64 0, .int .i64 0, .int .i64 0] 67)).setRow (W.heap.size + 1) (pl F U g lo).toArray = w2) :
    PAt w2 (W.heap.size + 1) F U g lo ∧ Below (W.alloc (.cells Y 53)).heap.size (W.alloc (.cells Y 53)) w2 ∧ w2.heap.size = W.heap.size + 2 := by
  rw [← hw2]
  exact ⟨setRow_heap _ _ _ _ 67 (0, 0) hz, below_setRow ((Below.refl _ _).alloc (Nat.le_refl _) _) (by rw [size_add]; exact Nat.le_refl _) _, by simp⟩
/-- The k-th of a set, and the how manieth time it is out. -/
def outAt (U : BitVec 32) (g : Nat → Int) (k : Nat) : Array Value := #[.agg #[.int .i64 (nth (ints (lst U 32)) k), .int .i64 (g (nth (ints (lst U 32)) k).toNat)]]
theorem nth_lst (U : BitVec 32) (k : Nat) (hk : k < (lst U 32).length) : ∃ n : Nat, nth (ints (lst U 32)) k = n ∧ n < 32 := by
  refine ⟨(lst U 32)[k], ?_, ((mem_lst _ _ _).1 (List.getElem_mem hk)).1⟩
  unfold nth ints
  simp [hk]
set_option maxHeartbeats 4000000 in
theorem out_in (l Bs B : Nat) (F U : BitVec 32) (g : Nat → Int) (lo : Int) (FF : World → Nat → Prop) (J Jx : Nat → World → Prop) (W : World)
    (hT0 : ∀ k W', J k W' → Tab W') (hs0 : W.cell? ⟨Bs, 0, none⟩ = some (.pointer (some ⟨B, 0, none⟩))) (hQ : PAt W B F U g lo)
    (hR : RoundsF Tryd.prog l (lst U 32).length (outAt U g) FF J Jx)
    (fJ : ∀ k, Foot FF (J k)) (fJx : ∀ k, Foot FF (Jx k)) (h0 : J 0 W) :
    Iter Tryd.prog 36 #[.pointer (some ⟨Bs, 0, none⟩)] l (lst U 32).length J Jx W := by
  refine callsIn_of_wp_marks Tryd.func36 rfl trivial ?_ rfl
  simp only [Tryd.ntmps36, List.size_toArray, List.length_cons, List.length_nil, Nat.reduceAdd, Nat.reduceSub, Array.replicate_succ, Array.replicate_zero, List.push_toArray, List.append_toArray, List.nil_append, List.cons_append]
  have hbs : Bs < W.heap.size := World.block_lt_of_cell? W _ hs0
  obtain ⟨Yb, hYb⟩ : ∃ Yb, Yb = W.heap.size := ⟨_, rfl⟩
  obtain ⟨w1, hw1⟩ : ∃ w1, w1 = W.alloc (.cells #[.func (.yield l) #[] #[]] 53) := ⟨_, rfl⟩
  have b1 : Below W.heap.size W w1 := by rw [hw1]; exact (Below.refl _ _).alloc (Nat.le_refl _) _
  have hs1 : w1.cell? ⟨Bs, 0, none⟩ = some (.pointer (some ⟨B, 0, none⟩)) := (b1.cell (p := ⟨Bs, 0, none⟩) hbs).trans hs0
  have hQ1 : PAt w1 B F U g lo := hQ.new b1
  have y1 : w1.cell? ⟨Yb, 0, none⟩ = some (.func (.yield l) #[] #[]) := by rw [hw1, hYb]; simp [go_sem]
  have z1 : w1.heap.size = Yb + 1 := by rw [hw1, hYb]; simp
  have k1 := Step.fresh (fJ 0) h0 b1
  have n1 : ¬ FF w1 Yb := fun hf => by
    rcases k1.1.2 _ hf with h | h
    · have := (fJ 0).lt W h0 _ h; omega
    · have := ((fJ 0).keep W w1 h0 (Off.new b1)).2 _ hf; have := (fJ 0).lt W h0 _ this; omega
  have hz1 : (w1.alloc (.cells #[.int .u32 0, .int .u32 0, .int .i64 0, .int .i64 0, .int .i64 0, .int .i64 0, .int .i64 0, .int .i64 0, .int .i64 0, .int .i64 0, .int .i64 0, .int .i64 0, .int .i64 0, .int .i64 0, .int .i64 0, .int .i64 0, .int .i64 0, .int .i64 0, .int .i64 0, .int .i64 0, .int .i64 0, .int .i64 0, .int .i64 0, .int .i64 0, .int .i64 0, .int .i64 0, .int .i64 0, .int .i64 0, .int .i64 0, .int .i64 0, .int .i64 0, .int .i64 0, .int .i64 0, .int .i64 0, .int .i64 0] 67)).heap[W.heap.size + 1]? = some (.cells #[.int .u32 0, .int .u32 0, .int .i64 0, .int .i64 0, .int .i64 0, .int .i64 0, .int .i64 0, .int .i64 0, .int .i64 0, .int .i64 0, .int .i64 0, .int .i64 0, .int .i64 0, .int .i64 0, .int .i64 0, .int .i64 0, .int .i64 0, .int .i64 0, .int .i64 0, .int .i64 0, .int .i64 0, .int .i64 0, .int .i64 0, .int .i64 0, .int .i64 0, .int .i64 0, .int .i64 0, .int .i64 0, .int .i64 0, .int .i64 0, .int .i64 0, .int .i64 0, .int .i64 0, .int .i64 0, .int .i64 0] 67 (0, 0)) := by rw [← hYb, ← z1]; exact heap_alloc_new w1 _
  have HZ1 := Lib.hid hz1
  have HK := Lib.hid (And.intro k1.2 (And.intro y1 (And.intro n1 (And.intro z1 hQ1))))
  have HR := Lib.hid hR
  have HT := Lib.hid hT0
  have HJ := Lib.hid (And.intro fJ fJx)
  clear hz1 b1 hs0 hQ k1 y1 n1 z1 hQ1 hR hT0 fJ fJx h0 hbs
  subst hw1
  gi_wp2_with (first
    | (refine wpListIn_load_mid rfl 67 (.tmp 6) rfl B 0 rfl (pl F U g lo) _ HK.out.2.2.2.2.range Tryd.underlying67 rfl (by rw [info67, pl_len]) ?_)
    | (refine wpListIn_store_row rfl 67 (.tmp 3) (.tmp 7) rfl _ (pl F U g lo).toArray rfl rfl 67 _ HZ1.out (by rw [info67]; simp [pl_len]) (by simp [pl_len]) (pl_one _ _ _ _) ?_; generalize hw2 : World.setRow _ _ _ = w2; have H2 := Lib.hid (after_store HZ1.out hw2); have c1 := H2.out.1.c1; clear hw2)
    | (refine ⟨trivial, rfl, ?_⟩; gi_at_call 22; refine (callsIn_wide.2 (All_any _ _)).mono ?_; rintro e w' ⟨rfl, rfl⟩)
    | fail)
  obtain ⟨w3, hw3⟩ : ∃ w3, w2.alloc (Obj.cells #[Value.int IntKind.u32 (w32 U)] 24) = w3 := ⟨_, rfl⟩
  have z3 : w3.heap.size = Yb + 3 := by rw [← hw3, size_add, H2.out.2.2, hYb]
  have b3 : Below w2.heap.size w2 w3 := by rw [← hw3]; exact (Below.refl _ _).alloc (Nat.le_refl _) _
  have s3 : w3.cell? ⟨Yb + 2, 0, none⟩ = some (.int .u32 (w32 U)) := by rw [← hw3, hYb, ← H2.out.2.2]; simp [go_sem]
  rw [hw3, H2.out.2.2, ← hYb]
  have k2 := Step.fresh (HJ.out.1 0) HK.out.1 H2.out.2.1
  have k3 := Step.fresh (HJ.out.1 0) k2.2 b3
  have hIn : In FF (J 0) Yb (Yb + 1) l F U g lo w3 := by
    have z1 := HK.out.2.2.2.1
    have z2 := H2.out.2.2
    refine ⟨k3.2, fun x hx => ?_, (b3.cell (p := ⟨Yb, 0, none⟩) (show Yb < w2.heap.size by omega)).trans ((H2.out.2.1.cell (p := ⟨Yb, 0, none⟩) (show Yb < _ by omega)).trans HK.out.2.1), by rw [hYb]; exact H2.out.1.new b3⟩
    rcases hx with rfl | rfl
    · exact ⟨k3.1.no (k2.1.no HK.out.2.2.1 (by omega)) (by omega), by omega⟩
    · refine ⟨k3.1.no (fun hf => ?_) (by omega), by omega⟩
      have := ((HJ.out.1 0).keep _ w2 HK.out.1 (Off.new H2.out.2.1)).2 _ hf
      have := (HJ.out.1 0).lt _ HK.out.1 _ this
      omega
  have HS := Lib.hid (And.intro hIn (And.intro s3 z3))
  clear hw3 z3 b3 s3 k2 k3 hIn c1 hs1 hYb H2 HZ1 HK
  refine wpIn_rangeF (gf := 32) (lb := #[.pointer (some ⟨Yb + 2, 0, none⟩)]) rfl (enters_of Tryd.func32 (by kernel_rfl) rfl)
    (lst U 32).length (fun j => #[.int .i64 (nth (ints (lst U 32)) j)]) (fun _ => rfl) (FIn FF Yb (Yb + 1))
    (fun j A => In FF (J j) Yb (Yb + 1) l F U g lo A) (fun c _ A => c = .ret ∧ In FF (fun A => ∃ m, m ≤ (lst U 32).length ∧ Jx m A) Yb (Yb + 1) l F U g lo A)
    (fun j => In.foot (HJ.out.1 _) _ _ _ _ _ _ _) ?fX HS.out.1
    (fun j a' _ => a' = { tmps := #[.func (.yield l) #[] #[], .pointer (some ⟨Bs, 0, none⟩), .pointer (some ⟨Yb, 0, none⟩), .pointer (some ⟨Yb + 1, 0, none⟩), .int .i64 (nth (ints (lst U 32)) j), .pointer (some ⟨B, 0, none⟩), .pointer (some ⟨B, 0, none⟩), .agg (pl F U g lo).toArray, .pointer (some ⟨Yb + 1, 1, none⟩), .int .u32 (w32 U), .func (.func 32) #[] #[.pointer (some ⟨Yb + 2, 0, none⟩)], .int .i64 (nth (ints (lst U 32)) j), undef, undef, undef, undef, undef], defers := [] })
    (fun _ _ _ _ h _ => h) ?hit ?assign ?body ?done ?stop
  case fX =>
    intro c j
    have hx := Foot.some HJ.out.2 (lst U 32).length
    have hf := In.foot hx Yb (Yb + 1) l F U g lo
    exact ⟨fun W h => hf.lt W h.2, fun W W' h hc => ⟨⟨h.1, (hf.keep W W' h.2 hc).1⟩, (hf.keep W W' h.2 hc).2⟩⟩
  case hit =>
    intro J' Jx' W1 h1 h2 h3 h4 h5 h6 h7 h8
    rw [HS.out.2.2] at h1 h2 h7 ⊢
    exact all_in _ (Yb + 2) U _ J' Jx' W1 (fun j W' h => HT.out _ W' (h3 j W' h).1.1) ((h2.cell (p := ⟨Yb + 2, 0, none⟩) (show Yb + 2 < Yb + 3 by omega)).trans HS.out.2.1) h7 h8
  case assign =>
    intro j A' K hi hj hK
    gi_wp2
    exact hK _ _ rfl (Ch.refl _ _) hi (fun _ h => h)
  case body =>
    rintro j a' A' hi hj rfl hz
    obtain ⟨n, hn, hn32⟩ := nth_lst U j hj
    have HO := Lib.hid (show outAt U g j = #[.agg #[.int .i64 (n : Nat), .int .i64 (g n)]] by unfold outAt; rw [hn]; simp)
    rw [hn]
    have hcY := hi.2.2.1
    have HI := Lib.hid hi
    clear hn hi
    gi_wp2_with fail
    refine wpIn_region_any (by kernel_rfl) ?_
    change wpAnyIn _ _ _ _ _ _ _ _ _ (World.drew _)
    refine wpAnyIn_ready (rs := [0, 1]) (by kernel_rfl) (by simp) (AllReadyIn.cons (o := { dst := some 12, op := .load 53 (.tmp 2), type := 53, pos := "pool.go:80", after := #[], guard := none }) rfl (fun K hK => ?_) (AllReadyIn.cons (o := { dst := some 13, op := .move (.tmp 4), type := 3, pos := "pool.go:80", after := #[], guard := none }) rfl (fun K hK => ?_) AllReadyIn.nil))
    · go_simp
      refine hK _ _ ?_
      clear hK K
      try simp only [Act.put, List.setIfInBounds_toArray, List.set_cons_zero, List.set_cons_succ]
      refine wpAnyIn_ready (rs := [1]) (by kernel_rfl) (by simp) (AllReadyIn.cons (o := { dst := some 13, op := .move (.tmp 4), type := 3, pos := "pool.go:80", after := #[], guard := none }) rfl (fun K hK => ?_) AllReadyIn.nil)
      go_simp
      refine hK _ _ ?_
      clear hK K
      try simp only [Act.put, List.setIfInBounds_toArray, List.set_cons_zero, List.set_cons_succ]
      refine wpAnyIn_ready (rs := [2]) (by kernel_rfl) (by simp) (AllReadyIn.cons (o := { dst := some 14, op := .call { callee := .value (.func 27), args := #[.tmp 3, .tmp 13], argTypes := #[67, 3] }, type := 50, pos := "pool.go:80", after := #[{ on := 1, ground := .data }], guard := none }) rfl (fun K hK => ?_) AllReadyIn.nil)
      go_simp
      refine ⟨trivial, rfl, ?_⟩
      gi_at_call 27
      refine (CallsIn.inRound _ (callsIn_wide.2 (ref_any (HI.out.2.2.2.dn 1) n hn32))).mono ?_
      rintro e w5 ⟨rfl, b5⟩
      have H5 := Lib.hid (Step.fresh (In.foot (HJ.out.1 j) Yb (Yb + 1) l F U g lo) HI.out ((below_dn (Below.refl _ _) 1).trans b5))
      have hcY5 := H5.out.2.2.2.1
      clear b5
      dsimp only
      refine hK _ _ ?_
      clear hK K
      try simp only [Act.put, List.setIfInBounds_toArray, List.set_cons_zero, List.set_cons_succ]
      refine wpAnyIn_ready (rs := [3]) (by kernel_rfl) (by simp) (AllReadyIn.cons (o := { dst := some 15, op := .call { callee := .value (.tmp 12), args := #[.tmp 14], argTypes := #[50] }, type := 4, pos := "pool.go:80", after := #[{ on := 0, ground := .data }, { on := 2, ground := .data }, { on := 2, ground := .chain }], guard := none }) rfl (fun K hK => ?_) AllReadyIn.nil)
      obtain ⟨fn, tmps, assign, body, hyd, hRo⟩ := HR.out j w5 H5.out.2.1 hj
      rw [HO.out] at hyd
      go_simp
      refine ⟨rfl, hRo.mono ?_⟩
      rintro e W3 (⟨rfl, hJ3, hs3⟩ | ⟨rfl, hJx3, hs3⟩)
      · have H6 := Lib.hid (H5.out.2.step hs3 hJ3)
        clear hJ3 hs3 hyd hcY hcY5
        refine hK _ _ ?_
        clear hK K
        try simp only [Act.put, List.setIfInBounds_toArray, List.set_cons_zero, List.set_cons_succ]
        refine wpAnyIn_ready (rs := [4]) (by kernel_rfl) (by simp) (AllReadyIn.cons (o := { dst := some 16, op := .unOp .not 4 (.tmp 15), type := 4, pos := "pool.go:80", after := #[{ on := 3, ground := .data }], guard := none }) rfl (fun K hK => ?_) AllReadyIn.nil)
        go_simp
        refine hK _ _ ?_
        clear hK K
        try simp only [Act.put, List.setIfInBounds_toArray, List.set_cons_zero, List.set_cons_succ]
        refine wpAnyIn_done (by kernel_rfl) ?_ _
        gi_wp2
        exact ⟨H5.out.1.trans H6.out.1, H6.out.2⟩
      · have H6 := Lib.hid (H5.out.2.step (I' := fun A => ∃ m, m ≤ (lst U 32).length ∧ Jx m A) hs3 ⟨_, by omega, hJx3⟩)
        clear hJx3 hs3 hyd hcY hcY5
        refine hK _ _ ?_
        clear hK K
        try simp only [Act.put, List.setIfInBounds_toArray, List.set_cons_zero, List.set_cons_succ]
        refine wpAnyIn_ready (rs := [4]) (by kernel_rfl) (by simp) (AllReadyIn.cons (o := { dst := some 16, op := .unOp .not 4 (.tmp 15), type := 4, pos := "pool.go:80", after := #[{ on := 3, ground := .data }], guard := none }) rfl (fun K hK => ?_) AllReadyIn.nil)
        go_simp
        refine hK _ _ ?_
        clear hK K
        try simp only [Act.put, List.setIfInBounds_toArray, List.set_cons_zero, List.set_cons_succ]
        refine wpAnyIn_done (by kernel_rfl) ?_ _
        gi_wp2
        exact ⟨H5.out.1.trans H6.out.1, rfl, H6.out.2⟩
    · go_simp
      refine hK _ _ ?_
      clear hK K
      try simp only [Act.put, List.setIfInBounds_toArray, List.set_cons_zero, List.set_cons_succ]
      refine wpAnyIn_ready (rs := [0, 2]) (by kernel_rfl) (by simp) (AllReadyIn.cons (o := { dst := some 12, op := .load 53 (.tmp 2), type := 53, pos := "pool.go:80", after := #[], guard := none }) rfl (fun K hK => ?_) (AllReadyIn.cons (o := { dst := some 14, op := .call { callee := .value (.func 27), args := #[.tmp 3, .tmp 13], argTypes := #[67, 3] }, type := 50, pos := "pool.go:80", after := #[{ on := 1, ground := .data }], guard := none }) rfl (fun K hK => ?_) AllReadyIn.nil))
      · go_simp
        refine hK _ _ ?_
        clear hK K
        try simp only [Act.put, List.setIfInBounds_toArray, List.set_cons_zero, List.set_cons_succ]
        refine wpAnyIn_ready (rs := [2]) (by kernel_rfl) (by simp) (AllReadyIn.cons (o := { dst := some 14, op := .call { callee := .value (.func 27), args := #[.tmp 3, .tmp 13], argTypes := #[67, 3] }, type := 50, pos := "pool.go:80", after := #[{ on := 1, ground := .data }], guard := none }) rfl (fun K hK => ?_) AllReadyIn.nil)
        go_simp
        refine ⟨trivial, rfl, ?_⟩
        gi_at_call 27
        refine (CallsIn.inRound _ (callsIn_wide.2 (ref_any (HI.out.2.2.2.dn 1) n hn32))).mono ?_
        rintro e w5 ⟨rfl, b5⟩
        have H5 := Lib.hid (Step.fresh (In.foot (HJ.out.1 j) Yb (Yb + 1) l F U g lo) HI.out ((below_dn (Below.refl _ _) 1).trans b5))
        have hcY5 := H5.out.2.2.2.1
        clear b5
        dsimp only
        refine hK _ _ ?_
        clear hK K
        try simp only [Act.put, List.setIfInBounds_toArray, List.set_cons_zero, List.set_cons_succ]
        refine wpAnyIn_ready (rs := [3]) (by kernel_rfl) (by simp) (AllReadyIn.cons (o := { dst := some 15, op := .call { callee := .value (.tmp 12), args := #[.tmp 14], argTypes := #[50] }, type := 4, pos := "pool.go:80", after := #[{ on := 0, ground := .data }, { on := 2, ground := .data }, { on := 2, ground := .chain }], guard := none }) rfl (fun K hK => ?_) AllReadyIn.nil)
        obtain ⟨fn, tmps, assign, body, hyd, hRo⟩ := HR.out j w5 H5.out.2.1 hj
        rw [HO.out] at hyd
        go_simp
        refine ⟨rfl, hRo.mono ?_⟩
        rintro e W3 (⟨rfl, hJ3, hs3⟩ | ⟨rfl, hJx3, hs3⟩)
        · have H6 := Lib.hid (H5.out.2.step hs3 hJ3)
          clear hJ3 hs3 hyd hcY hcY5
          refine hK _ _ ?_
          clear hK K
          try simp only [Act.put, List.setIfInBounds_toArray, List.set_cons_zero, List.set_cons_succ]
          refine wpAnyIn_ready (rs := [4]) (by kernel_rfl) (by simp) (AllReadyIn.cons (o := { dst := some 16, op := .unOp .not 4 (.tmp 15), type := 4, pos := "pool.go:80", after := #[{ on := 3, ground := .data }], guard := none }) rfl (fun K hK => ?_) AllReadyIn.nil)
          go_simp
          refine hK _ _ ?_
          clear hK K
          try simp only [Act.put, List.setIfInBounds_toArray, List.set_cons_zero, List.set_cons_succ]
          refine wpAnyIn_done (by kernel_rfl) ?_ _
          gi_wp2
          exact ⟨H5.out.1.trans H6.out.1, H6.out.2⟩
        · have H6 := Lib.hid (H5.out.2.step (I' := fun A => ∃ m, m ≤ (lst U 32).length ∧ Jx m A) hs3 ⟨_, by omega, hJx3⟩)
          clear hJx3 hs3 hyd hcY hcY5
          refine hK _ _ ?_
          clear hK K
          try simp only [Act.put, List.setIfInBounds_toArray, List.set_cons_zero, List.set_cons_succ]
          refine wpAnyIn_ready (rs := [4]) (by kernel_rfl) (by simp) (AllReadyIn.cons (o := { dst := some 16, op := .unOp .not 4 (.tmp 15), type := 4, pos := "pool.go:80", after := #[{ on := 3, ground := .data }], guard := none }) rfl (fun K hK => ?_) AllReadyIn.nil)
          go_simp
          refine hK _ _ ?_
          clear hK K
          try simp only [Act.put, List.setIfInBounds_toArray, List.set_cons_zero, List.set_cons_succ]
          refine wpAnyIn_done (by kernel_rfl) ?_ _
          gi_wp2
          exact ⟨H5.out.1.trans H6.out.1, rfl, H6.out.2⟩
      · go_simp
        refine ⟨trivial, rfl, ?_⟩
        gi_at_call 27
        refine (CallsIn.inRound _ (callsIn_wide.2 (ref_any (HI.out.2.2.2.dn 1) n hn32))).mono ?_
        rintro e w5 ⟨rfl, b5⟩
        have H5 := Lib.hid (Step.fresh (In.foot (HJ.out.1 j) Yb (Yb + 1) l F U g lo) HI.out ((below_dn (Below.refl _ _) 1).trans b5))
        have hcY5 := H5.out.2.2.2.1
        clear b5
        dsimp only
        refine hK _ _ ?_
        clear hK K
        try simp only [Act.put, List.setIfInBounds_toArray, List.set_cons_zero, List.set_cons_succ]
        refine wpAnyIn_ready (rs := [0]) (by kernel_rfl) (by simp) (AllReadyIn.cons (o := { dst := some 12, op := .load 53 (.tmp 2), type := 53, pos := "pool.go:80", after := #[], guard := none }) rfl (fun K hK => ?_) AllReadyIn.nil)
        go_simp
        refine hK _ _ ?_
        clear hK K
        try simp only [Act.put, List.setIfInBounds_toArray, List.set_cons_zero, List.set_cons_succ]
        refine wpAnyIn_ready (rs := [3]) (by kernel_rfl) (by simp) (AllReadyIn.cons (o := { dst := some 15, op := .call { callee := .value (.tmp 12), args := #[.tmp 14], argTypes := #[50] }, type := 4, pos := "pool.go:80", after := #[{ on := 0, ground := .data }, { on := 2, ground := .data }, { on := 2, ground := .chain }], guard := none }) rfl (fun K hK => ?_) AllReadyIn.nil)
        obtain ⟨fn, tmps, assign, body, hyd, hRo⟩ := HR.out j w5 H5.out.2.1 hj
        rw [HO.out] at hyd
        go_simp
        refine ⟨rfl, hRo.mono ?_⟩
        rintro e W3 (⟨rfl, hJ3, hs3⟩ | ⟨rfl, hJx3, hs3⟩)
        · have H6 := Lib.hid (H5.out.2.step hs3 hJ3)
          clear hJ3 hs3 hyd hcY hcY5
          refine hK _ _ ?_
          clear hK K
          try simp only [Act.put, List.setIfInBounds_toArray, List.set_cons_zero, List.set_cons_succ]
          refine wpAnyIn_ready (rs := [4]) (by kernel_rfl) (by simp) (AllReadyIn.cons (o := { dst := some 16, op := .unOp .not 4 (.tmp 15), type := 4, pos := "pool.go:80", after := #[{ on := 3, ground := .data }], guard := none }) rfl (fun K hK => ?_) AllReadyIn.nil)
          go_simp
          refine hK _ _ ?_
          clear hK K
          try simp only [Act.put, List.setIfInBounds_toArray, List.set_cons_zero, List.set_cons_succ]
          refine wpAnyIn_done (by kernel_rfl) ?_ _
          gi_wp2
          exact ⟨H5.out.1.trans H6.out.1, H6.out.2⟩
        · have H6 := Lib.hid (H5.out.2.step (I' := fun A => ∃ m, m ≤ (lst U 32).length ∧ Jx m A) hs3 ⟨_, by omega, hJx3⟩)
          clear hJx3 hs3 hyd hcY hcY5
          refine hK _ _ ?_
          clear hK K
          try simp only [Act.put, List.setIfInBounds_toArray, List.set_cons_zero, List.set_cons_succ]
          refine wpAnyIn_ready (rs := [4]) (by kernel_rfl) (by simp) (AllReadyIn.cons (o := { dst := some 16, op := .unOp .not 4 (.tmp 15), type := 4, pos := "pool.go:80", after := #[{ on := 3, ground := .data }], guard := none }) rfl (fun K hK => ?_) AllReadyIn.nil)
          go_simp
          refine hK _ _ ?_
          clear hK K
          try simp only [Act.put, List.setIfInBounds_toArray, List.set_cons_zero, List.set_cons_succ]
          refine wpAnyIn_done (by kernel_rfl) ?_ _
          gi_wp2
          exact ⟨H5.out.1.trans H6.out.1, rfl, H6.out.2⟩
  case done =>
    intro A' hi hD hnD hz
    have HA := Lib.hid (show Marked FF [w3.heap.size] A' ∧ J (lst U 32).length A' from ⟨⟨by simp, fun r hr => by simp at hr; subst hr; exact ⟨hD, fun hf => hnD (.inl hf)⟩⟩, hi.1⟩)
    clear hi hD hnD hz
    gi_wp2
    exact leaves_marks _ rfl (HJ.out.1 _) (fun A hA => ⟨⟨_, rfl⟩, .inl hA⟩) [w3.heap.size] A' HA.out.1 HA.out.2
  case stop =>
    rintro c j A' hj ⟨rfl, hi⟩ hD hnD hz
    have HA := Lib.hid (show Marked FF [w3.heap.size] A' ∧ (∃ m, m ≤ (lst U 32).length ∧ Jx m A') from ⟨⟨by simp, fun r hr => by simp at hr; subst hr; exact ⟨hD, fun hf => hnD (.inl hf)⟩⟩, hi.1⟩)
    clear hi hD hnD hz
    gi_wp2
    exact leaves_marks _ rfl (Foot.some HJ.out.2 _) (fun A hA => ⟨⟨_, rfl⟩, .inr hA⟩) [w3.heap.size] A' HA.out.1 HA.out.2
end Go.Proofs.YtdfknobohgncaaaDoor
