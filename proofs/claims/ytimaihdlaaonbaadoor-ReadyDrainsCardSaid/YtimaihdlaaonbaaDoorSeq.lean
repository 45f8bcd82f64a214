/- The contract of what ready's All hands back: the closure, and what it goes through, level by level. -/
import Derived.Test.YtimaihdlaaonbaaDoorIter
namespace Go.Proofs.YtimaihdlaaonbaaDoor
open Go.RowKit
attribute [local go_sem] Oper.semAt_some

theorem AllQ_any (B : Nat) (w : World) : Calls Tryd.prog 20 #[.pointer (some ⟨B, 0, none⟩)] w fun e w' => e = .returned (.func (.func 25) #[] #[.pointer (some ⟨w.heap.size, 0, none⟩)]) ∧ w' = w.alloc (.cells #[.pointer (some ⟨B, 0, none⟩)] 23) := by
  have hmf : ∀ (fn : Fn) (first cap : Array Value) (w : World), (Instr.makeFunc fn first cap).run Tryd.prog w = .ok (.func fn first cap) w := fun _ _ _ _ => rfl
  go_enter Tryd.func20, Tryd.ntmps20
  go_wp2
  go_ret
  exact ⟨rfl, rfl⟩

theorem wpListIn_load_mid {P : Program} {F : Fence} {n : Nat} {ops : Array Oper} {rest : List Oper} {op : Oper} {a : Act} {w : World} {Q : Exit → Act → World → Prop} (hgd : op.guard = none) (ty : TypeId) (x : Operand) (ho : op.op = .load ty x)
    (b o : Nat) (hx : a.eval x = .pointer (some ⟨b, o, none⟩)) (cs : List Value) (d : TypeDesc) (hc : w.rangeAt b o cs)
    (hu : P.underlying ty = some d) (hd : d.isRow = true) (hi : (P.info? ty).map (·.size) = some cs.length)
    (h : wpListIn F n P ops Q rest (a.put op.dst (.agg cs.toArray)) w) : wpListIn F n P ops Q (op :: rest) a w :=
  wpListIn_plain hgd fun _ hK => by
    unfold Oper.wpIn
    refine ⟨?_, ?_⟩
    · simp [Oper.about, ho]
    · rw [Oper.semAt_plain F _ _ (by rw [ho]; intro c hc'; cases hc')]
      simp only [execOp, ho, hx, Instr.loadAt, Instr.sureAddr, Sem.run_bind, Sem.run_pure, Result.andThen_ok, run_loadVar_mid w b o ty cs d hc hu hd hi]
      exact hK _ _ h

/-- The marks of ranges that are over. -/
def marks (rs : List Nat) : List Deferred := rs.map fun r => { target := .collected r, args := #[] }
def Marked (F : World → Nat → Prop) (rs : List Nat) (W : World) : Prop := rs.Nodup ∧ ∀ r, r ∈ rs → W.heap[r]? = some (.deferred (some [])) ∧ ¬ F W r
theorem leaves_marks {P : Program} {fn : Func} {R : Ending → World → Prop} {F : World → Nat → Prop} {I : World → Prop} (tmps : Array Value) (hres : fn.results = #[]) (fI : Foot F I) (hI : ∀ A, I A → R (.returned (.tuple #[])) A) :
    ∀ (rs : List Nat) (A : World), Marked F rs A → I A → LeavesInM Fence.wide 0 P fn tmps R (marks rs) .returning A
  | [], A, _, h => ⟨_, results_none hres _ _ _, hI A h⟩
  | r :: rs, A, hm, h => by
    obtain ⟨hd, hall⟩ := hm
    obtain ⟨h1, h2⟩ := hall r (by simp)
    rw [List.nodup_cons] at hd
    have hc : Ch (fun j => j = r) A (A.putObj r (.deferred none)) := (Ch.refl _ A).putObj _ _ rfl
    have hk := fI.keep A _ h (Off.of hc fun j hj => by subst hj; exact h2)
    refine ⟨by simp, .inl ⟨_, _, rfl, run_takeDeferred h1, leaves_marks tmps hres fI hI rs _ ⟨hd.2, fun r' hr' => ?_⟩ hk.1⟩⟩
    obtain ⟨h3, h4⟩ := hall r' (by simp [hr'])
    exact ⟨hc.obj h3 (fun e => by subst e; exact hd.1 hr'), fun hf => h4 (hk.2 _ hf)⟩

theorem allP_len (q : Nat → Nat) (k : Nat) : (allP q (k + 1)).length = (allP q k).length + (lst (lv q k) 32).length := by
  rw [allP, List.length_append, List.length_map]
/-- The k-th pair's number and level. -/
def nP (q : Nat → Nat) (k : Nat) : Nat := ((allP q 32).getD k (0, 0)).1
def lP (q : Nat → Nat) (k : Nat) : Nat := ((allP q 32).getD k (0, 0)).2
theorem allP_at (q : Nat → Nat) (k j : Nat) (hk : k < 32) (hj : j < (lst (lv q k) 32).length) :
    (allP q k).length + j < (allP q 32).length ∧ (nP q ((allP q k).length + j) : Int) = nth (ints (lst (lv q k) 32)) j ∧ lP q ((allP q k).length + j) = k := by
  obtain ⟨r, hr⟩ := allP_more q (k + 1) 32 (by omega)
  have hlen := allP_len q k
  have h0 : (allP q 32)[(allP q k).length + j]? = some ((lst (lv q k) 32)[j], k) := by
    rw [hr, List.getElem?_append_left (by omega), allP, List.getElem?_append_right (by omega)]
    simp [hj]
  have hlt := (List.getElem?_eq_some_iff.1 h0).1
  refine ⟨hlt, ?_, ?_⟩
  · unfold nP; rw [List.getD_eq_getElem?_getD, h0]
    simp [nth, ints, hj]
  · unfold lP; rw [List.getD_eq_getElem?_getD, h0]; rfl

/-- The inner range's invariant: the outer one's, and what the closure itself keeps: its yield, its level, the marks. -/
def In (F : World → Nat → Prop) (I : World → Prop) (Yb Lb l k : Nat) (rs : List Nat) (A : World) : Prop :=
  I A ∧ (∀ x, x = Yb ∨ x = Lb ∨ x ∈ rs → ¬ F A x ∧ x < A.heap.size) ∧ A.cell? ⟨Yb, 0, none⟩ = some (.func (.yield l) #[] #[]) ∧ A.cell? ⟨Lb, 0, none⟩ = some (.int .i64 k) ∧ ∀ r, r ∈ rs → A.heap[r]? = some (.deferred (some []))
def FIn (F : World → Nat → Prop) (Yb Lb : Nat) (rs : List Nat) (W : World) (j : Nat) : Prop := F W j ∨ j = Yb ∨ j = Lb ∨ j ∈ rs
theorem In.foot {F : World → Nat → Prop} {I : World → Prop} (f : Foot F I) (Yb Lb l k : Nat) (rs : List Nat) : Foot (FIn F Yb Lb rs) (In F I Yb Lb l k rs) where
  lt := fun W ⟨h1, h2, _⟩ j hj => by
    rcases hj with hj | hj
    · exact f.lt W h1 j hj
    · exact (h2 j hj).2
  keep := fun W W' ⟨h1, h2, h3, h4, h5⟩ hc => by
    have hk := f.keep W W' h1 (Ch.mono hc fun j _ hn hf => hn (.inl hf))
    exact ⟨⟨hk.1, fun x hx => ⟨fun hf => (h2 x hx).1 (hk.2 _ hf), Nat.lt_of_lt_of_le (h2 x hx).2 hc.size⟩, hc.cell h3 (fun hn => hn (.inr (.inl rfl))), hc.cell h4 (fun hn => hn (.inr (.inr (.inl rfl)))),
      fun r hr => hc.obj (h5 r hr) (fun hn => hn (.inr (.inr (.inr hr))))⟩, fun j hj => by
        rcases hj with hj | hj
        · exact .inl (hk.2 _ hj)
        · exact .inr hj⟩
theorem In.step {F : World → Nat → Prop} {I I' : World → Prop} {Yb Lb l k : Nat} {rs : List Nat} {A B : World} (h : In F I Yb Lb l k rs A) (hs : Step F A B) (hI : I' B) : Step (FIn F Yb Lb rs) A B ∧ In F I' Yb Lb l k rs B := by
  obtain ⟨h1, h2, h3, h4, h5⟩ := h
  have hn : ∀ x, x = Yb ∨ x = Lb ∨ x ∈ rs → ¬ F B x := fun x hx => hs.no (h2 x hx).1 (h2 x hx).2
  refine ⟨⟨Ch.mono hs.1 fun _ _ hf => .inl hf, fun j hj => ?_⟩, hI, fun x hx => ⟨hn x hx, Nat.lt_of_lt_of_le (h2 x hx).2 hs.1.size⟩, hs.1.cell h3 (h2 Yb (.inl rfl)).1, hs.1.cell h4 (h2 Lb (.inr (.inl rfl))).1, fun r hr => hs.1.obj (h5 r hr) (h2 r (.inr (.inr hr))).1⟩
  rcases hj with hj | hj
  · rcases hs.2 j hj with h | h
    · exact .inl (.inl h)
    · exact .inr h
  · exact .inl (.inr hj)

theorem seq_in (l Bs B : Nat) (q : Nat → Nat) (F : World → Nat → Prop) (J Jx : Nat → World → Prop) (W : World)
    (hT0 : ∀ k W', J k W' → Tab W') (hs0 : W.cell? ⟨Bs, 0, none⟩ = some (.pointer (some ⟨B, 0, none⟩))) (hQ : QAt W B q)
    (hR : RoundsF Tryd.prog l (allP q 32).length (fun k => #[.int .i64 (nP q k), .int .i64 (lP q k)]) F J Jx)
    (fJ : ∀ k, Foot F (J k)) (fJx : ∀ k, Foot F (Jx k)) (h0 : J 0 W) :
    Iter Tryd.prog 25 #[.pointer (some ⟨Bs, 0, none⟩)] l (allP q 32).length J Jx W := by
  refine callsIn_of_wp_marks Tryd.func25 rfl trivial ?_ rfl
  simp only [Tryd.ntmps25, List.size_toArray, List.length_cons, List.length_nil, Nat.reduceAdd, Nat.reduceSub, Array.replicate_succ, Array.replicate_zero, List.push_toArray, List.append_toArray, List.nil_append, List.cons_append]
  have hbs : Bs < W.heap.size := World.block_lt_of_cell? W _ hs0
  obtain ⟨Yb, hYb⟩ : ∃ Yb, Yb = W.heap.size := ⟨_, rfl⟩
  have b1 : Below W.heap.size W (W.alloc (.cells #[.func (.yield l) #[] #[]] 36)) := (Below.refl _ _).alloc (Nat.le_refl _) _
  have hs1 : (W.alloc (.cells #[.func (.yield l) #[] #[]] 36)).cell? ⟨Bs, 0, none⟩ = some (.pointer (some ⟨B, 0, none⟩)) := (World.cell?_alloc_lt W _ ⟨Bs, 0, none⟩ hbs).trans hs0
  have hQ1 : QAt (W.alloc (.cells #[.func (.yield l) #[] #[]] 36)) B q := hQ.below b1 hQ.lt
  have k1 := (fJ 0).keep W _ h0 (Off.new b1)
  have y1 : (W.alloc (.cells #[.func (.yield l) #[] #[]] 36)).cell? ⟨Yb, 0, none⟩ = some (.func (.yield l) #[] #[]) := by rw [hYb]; simp [go_sem]
  have n1 : ¬ F (W.alloc (.cells #[.func (.yield l) #[] #[]] 36)) Yb := fun hf => by have := (fJ 0).lt W h0 _ (k1.2 _ hf); omega
  have z1 : (W.alloc (.cells #[.func (.yield l) #[] #[]] 36)).heap.size = Yb + 1 := by rw [hYb]; simp
  have HK := Lib.hid (And.intro k1.1 (And.intro y1 (And.intro n1 z1)))
  have HQ := Lib.hid hQ1
  have HR := Lib.hid hR
  have HT := Lib.hid hT0
  have HJ := Lib.hid (And.intro fJ fJx)
  clear b1 hs0 hQ k1 y1 n1 z1 hQ1 hR hT0 fJ fJx h0 hbs
  gi_wp2_with (refine wpListIn_load_mid rfl 26 (.tmp 8) rfl B 0 rfl (lvs q) _ HQ.out.range Tryd.underlying26 rfl (by rw [info26, lvs_len]) ?_)
  rw [← hYb]
  refine wpIn_loop_ghost (fun g a A => ∃ (k : Nat) (rs : List Nat) (u3 u4 u5 u11 u12 u13 u14 u15 u16 u17 u18 u19 u20 u21 u22 : Value), k + g = 32 ∧ a = { tmps := #[.func (.yield l) #[] #[], .pointer (some ⟨Bs, 0, none⟩), .pointer (some ⟨Yb, 0, none⟩), u3, u4, u5, .pointer (some ⟨B, 0, none⟩), .pointer (some ⟨B, 0, none⟩), .pointer (some ⟨B, 0, none⟩), .agg (lvs q).toArray, .int .i64 k, u11, u12, u13, u14, u15, u16, u17, u18, u19, u20, u21, u22], defers := marks rs } ∧
    Marked F rs A ∧ J (allP q k).length A ∧ A.cell? ⟨Yb, 0, none⟩ = some (.func (.yield l) #[] #[]) ∧ ¬ F A Yb) 32 ?start ?round
  case start => exact ⟨0, [], undef, undef, undef, undef, undef, undef, undef, undef, undef, undef, undef, undef, undef, undef, undef, by omega, rfl, ⟨List.nodup_nil, fun r hr => by cases hr⟩, HK.out.1, HK.out.2.1, HK.out.2.2.1⟩
  case round =>
    clear hs1 hYb
    rintro g a A ⟨k, rs, u3, u4, u5, u11, u12, u13, u14, u15, u16, u17, u18, u19, u20, u21, u22, hkg, rfl, hM, hJk, hY, hnY⟩
    cases g with
    | zero =>
      obtain rfl : k = 32 := by omega
      have HM := Lib.hid (And.intro hM hJk)
      clear hM hJk
      gi_wp2
      exact leaves_marks _ rfl (HJ.out.1 _) (fun A hA => ⟨⟨_, rfl⟩, .inl hA⟩) rs A HM.out.1 HM.out.2
    | succ g1 =>
      have hk : k < 32 := by omega
      have hix := index_lvs q k hk
      have hki : (k : Int) < 32 := by omega
      have HM := Lib.hid (And.intro hM (And.intro hJk (And.intro hY hnY)))
      clear hM hJk hY hnY
      gi_wp2_with (refine ⟨trivial, rfl, ?_⟩; gi_at_call 26; refine (callsIn_wide.2 (All_any _ _)).mono ?_; rintro e w' ⟨rfl, rfl⟩)
      obtain ⟨Lb, hLb⟩ : ∃ Lb, Lb = A.heap.size := ⟨_, rfl⟩
      obtain ⟨w3, hw3⟩ : ∃ w3, (A.alloc (Obj.cells #[Value.int IntKind.i64 k] 3)).alloc (Obj.cells #[Value.int IntKind.u32 (w32 (lv q k))] 25) = w3 := ⟨_, rfl⟩
      have z3 : w3.heap.size = Lb + 2 := by rw [← hw3, hLb]; simp
      have b3 : Below A.heap.size A w3 := by rw [← hw3]; exact ((Below.refl _ A).alloc (Nat.le_refl _) _).alloc (by simp) _
      have l3 : w3.cell? ⟨Lb, 0, none⟩ = some (.int .i64 k) := by rw [← hw3, hLb]; simp [go_sem]
      have s3 : w3.cell? ⟨Lb + 1, 0, none⟩ = some (.int .u32 (w32 (lv q k))) := by rw [← hw3, hLb]; simp [go_sem]
      rw [hw3, ← hLb]
      clear hw3
      have k3 := (HJ.out.1 _).keep A w3 HM.out.2.1 (Off.new b3)
      have hYA : Yb < A.heap.size := World.block_lt_of_cell? A _ HM.out.2.2.1
      have hrA : ∀ r, r ∈ rs → r < A.heap.size := fun r hr => (Array.getElem?_eq_some_iff.1 (HM.out.1.2 r hr).1).1
      have hIn : In F (J (allP q k).length) Yb Lb l k rs w3 := by
        refine ⟨k3.1, fun x hx => ?_, (b3.cell (p := ⟨Yb, 0, none⟩) hYA).trans HM.out.2.2.1, l3, fun r hr => (b3.block r (hrA r hr)).trans (HM.out.1.2 r hr).1⟩
        rcases hx with rfl | rfl | hx
        · exact ⟨fun hf => HM.out.2.2.2 (k3.2 _ hf), by omega⟩
        · exact ⟨fun hf => by have := (HJ.out.1 _).lt A HM.out.2.1 _ (k3.2 _ hf); omega, by omega⟩
        · exact ⟨fun hf => (HM.out.1.2 x hx).2 (k3.2 _ hf), by have := hrA x hx; omega⟩
      have hlen := allP_len q k
      have HF := Lib.hid (And.intro hlen (fun j hj => allP_at q k j hk hj))
      have HS := Lib.hid (And.intro hIn (And.intro s3 (And.intro z3 (And.intro hLb hrA))))
      clear hIn hlen k3 b3 l3 s3 hYA hrA hLb z3
      refine wpIn_rangeF (gf := 28) (lb := #[.pointer (some ⟨Lb + 1, 0, none⟩)]) rfl (enters_of Tryd.func28 (by kernel_rfl) rfl)
        (lst (lv q k) 32).length (fun j => #[.int .i64 (nth (ints (lst (lv q k) 32)) j)]) (fun _ => rfl) (FIn F Yb Lb rs)
        (fun j A => In F (J ((allP q k).length + j)) Yb Lb l k rs A) (fun c _ A => c = .ret ∧ In F (fun A => ∃ m, m ≤ (allP q 32).length ∧ Jx m A) Yb Lb l k rs A)
        (fun j => In.foot (HJ.out.1 _) _ _ _ _ _) ?fX HS.out.1
        (fun j a' _ => a' = { tmps := #[.func (.yield l) #[] #[], .pointer (some ⟨Bs, 0, none⟩), .pointer (some ⟨Yb, 0, none⟩), .pointer (some ⟨Lb, 0, none⟩), .int .u32 (w32 (lv q k)), .int .i64 (nth (ints (lst (lv q k) 32)) j), .pointer (some ⟨B, 0, none⟩), .pointer (some ⟨B, 0, none⟩), .pointer (some ⟨B, 0, none⟩), .agg (lvs q).toArray, .int .i64 k, .bool true, .int .i64 k, .int .u32 (w32 (lv q k)), .int .u32 (w32 (lv q k)), .func (.func 28) #[] #[.pointer (some ⟨Lb + 1, 0, none⟩)], .int .i64 (nth (ints (lst (lv q k) 32)) j), u17, u18, u19, u20, u21, u22], defers := [] })
        (fun _ _ _ _ h _ => h) ?hit ?assign ?body ?done ?stop
      case fX =>
        intro c j
        have hx : Foot F (fun A => ∃ m, m ≤ (allP q 32).length ∧ Jx m A) := ⟨fun W ⟨m, _, h⟩ => (HJ.out.2 m).lt W h, fun W W' ⟨m, hm, h⟩ hc => ⟨⟨m, hm, ((HJ.out.2 m).keep W W' h hc).1⟩, ((HJ.out.2 m).keep W W' h hc).2⟩⟩
        have hf := In.foot hx Yb Lb l k rs
        exact ⟨fun W h => hf.lt W h.2, fun W W' h hc => ⟨⟨h.1, (hf.keep W W' h.2 hc).1⟩, (hf.keep W W' h.2 hc).2⟩⟩
      case hit =>
        intro J' Jx' W1 h1 h2 h3 h4 h5 h6 h7 h8
        rw [HS.out.2.2.1] at h1 h2 h7 ⊢
        exact all_in _ (Lb + 1) (lv q k) _ J' Jx' W1 (fun j W' h => HT.out _ W' (h3 j W' h).1.1) ((h2.cell (p := ⟨Lb + 1, 0, none⟩) (show Lb + 1 < Lb + 2 by omega)).trans HS.out.2.1) h7 h8
      case assign =>
        intro j A' K hi hj hK
        gi_wp2
        exact hK _ _ rfl (Ch.refl _ _) hi (fun _ h => h)
      case body =>
        rintro j a' A' hi hj rfl hz
        obtain ⟨hat1, hat2, hat3⟩ := HF.out.2 j hj
        obtain ⟨fn, tmps, assign, body, hyd, hRo⟩ := HR.out ((allP q k).length + j) A' hi.1 hat1
        dsimp only at hyd
        rw [hat2, hat3] at hyd
        have hcY := hi.2.2.1
        have hcL := hi.2.2.2.1
        have HI := Lib.hid hi
        clear hat1 hat2 hat3 hi
        gi_wp2
        refine ⟨rfl, hRo.mono ?_⟩
        rintro e W3 (⟨rfl, hJ3, hs3⟩ | ⟨rfl, hJx3, hs3⟩)
        · have H3 := Lib.hid (HI.out.step hs3 hJ3)
          clear hJ3 hs3 hyd hcY hcL
          gi_wp2
          exact ⟨H3.out.1, H3.out.2⟩
        · have H3 := Lib.hid (HI.out.step (I' := fun A => ∃ m, m ≤ (allP q 32).length ∧ Jx m A) hs3 ⟨_, by have := (HF.out.2 j hj).1; omega, hJx3⟩)
          clear hJx3 hs3 hyd hcY hcL
          gi_wp2
          exact ⟨H3.out.1, rfl, H3.out.2⟩
      case done =>
        intro A' hi hD hnD hz
        have hM' : Marked F (w3.heap.size :: rs) A' := by
          obtain ⟨h1, h2, h3, h4, h5⟩ := hi
          refine ⟨List.nodup_cons.2 ⟨fun hr => by have := HS.out.2.2.2.2 _ hr; have := HS.out.2.2.1; have := HS.out.2.2.2.1; omega, HM.out.1.1⟩, fun r hr => ?_⟩
          rcases List.mem_cons.1 hr with rfl | hr
          · exact ⟨hD, fun hf => hnD (.inl hf)⟩
          · exact ⟨h5 r hr, (h2 r (.inr (.inr hr))).1⟩
        have HA := Lib.hid (And.intro hM' hi)
        clear hM' hi hD hnD hz
        gi_wp2
        refine ⟨g1, by omega, k + 1, w3.heap.size :: rs, _, _, _, _, _, _, _, _, _, _, _, _, _, _, _, by omega, rfl, HA.out.1, ?_, HA.out.2.2.2.1, (HA.out.2.2.1 Yb (.inl rfl)).1⟩
        rw [HF.out.1]; exact HA.out.2.1
      case stop =>
        rintro c j A' hj ⟨rfl, hi⟩ hD hnD hz
        have hM' : Marked F (w3.heap.size :: rs) A' := by
          obtain ⟨h1, h2, h3, h4, h5⟩ := hi
          refine ⟨List.nodup_cons.2 ⟨fun hr => by have := HS.out.2.2.2.2 _ hr; have := HS.out.2.2.1; have := HS.out.2.2.2.1; omega, HM.out.1.1⟩, fun r hr => ?_⟩
          rcases List.mem_cons.1 hr with rfl | hr
          · exact ⟨hD, fun hf => hnD (.inl hf)⟩
          · exact ⟨h5 r hr, (h2 r (.inr (.inr hr))).1⟩
        have HA := Lib.hid (And.intro hM' hi.1)
        have hx : Foot F (fun A => ∃ m, m ≤ (allP q 32).length ∧ Jx m A) := ⟨fun W ⟨m, _, h⟩ => (HJ.out.2 m).lt W h, fun W W' ⟨m, hm, h⟩ hc => ⟨⟨m, hm, ((HJ.out.2 m).keep W W' h hc).1⟩, ((HJ.out.2 m).keep W W' h hc).2⟩⟩
        have HX := Lib.hid hx
        clear hM' hi hD hnD hz hx
        gi_wp2
        exact leaves_marks _ rfl HX.out (fun A hA => ⟨⟨_, rfl⟩, .inr hA⟩) (w3.heap.size :: rs) A' HA.out.1 HA.out.2
end Go.Proofs.YtimaihdlaaonbaaDoor
