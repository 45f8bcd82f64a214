/- The contract of what mbox's All hands back, and of the law's all. -/
import Derived.Test.YtbdcjfkplopbiaaDoorUK
namespace Go.Proofs.YtbdcjfkplopbiaaDoor
open Go.RowKit
attribute [local go_sem] Oper.semAt_some

theorem Step.fresh {FF : World → Nat → Prop} {I : World → Prop} {A B : World} (f : Foot FF I) (hI : I A) (hb : Below A.heap.size A B) : Step FF A B ∧ I B := by
  have hk := f.keep A B hI (Off.new hb)
  exact ⟨⟨Ch.new hb, fun j hj => .inl (hk.2 j hj)⟩, hk.1⟩
theorem All_box (B : Nat) (w : World) : Calls Tryd.prog 18 #[.pointer (some ⟨B, 0, none⟩)] w fun e w' => e = .returned (.func (.func 24) #[] #[.pointer (some ⟨w.heap.size, 0, none⟩)]) ∧ w' = w.alloc (.cells #[.pointer (some ⟨B, 0, none⟩)] 23) := by
  have hmf : ∀ (fn : Fn) (first cap : Array Value) (w : World), (Instr.makeFunc fn first cap).run Tryd.prog w = .ok (.func fn first cap) w := fun _ _ _ _ => rfl
  go_enter Tryd.func18, Tryd.ntmps18
  go_wp2
  go_ret
  exact ⟨rfl, rfl⟩
theorem own_notes {w : World} {base : Nat} {v : Value} {n : Nat} {l : List (Int × Int)} (h : w.ownsRow base 30 2 v n (prow l)) (hn : n = l.length) (h0 : 0 < n) :
    ∃ g cap, v = .slice (some ⟨g, 0, none⟩) n cap ∧ base ≤ g ∧ g < w.heap.size ∧ ∀ k, k < n → w.cell? ⟨g, k * 2, none⟩ = some (.int .i64 (pth l k).1) ∧ w.cell? ⟨g, k * 2 + 1, none⟩ = some (.int .i64 (pth l k).2) := by
  rcases h.2 with ⟨rfl, hh⟩ | ⟨g, cap, cur, rfl, _⟩
  · omega
  · have hl := h.lt g rfl
    refine ⟨g, cap, rfl, hl.1, hl.2, fun k hk => ?_⟩
    have hp := prow_at l k (by omega)
    have hlen := prow_len l
    have a1 := (h.cellAt (2 * k) (by omega)).trans hp.1
    have a2 := (h.cellAt (2 * k + 1) (by omega)).trans hp.2
    rw [Nat.mul_comm] at a1 a2
    exact ⟨a1, a2⟩
/-- The k-th of what would be taken. -/
def nAt (X : List (Int × Int)) (k : Nat) : Array Value := #[.agg #[.int .i64 (pth X k).1, .int .i64 (pth X k).2]]
/-- What the closure keeps: the caller's state, and the row that was told. -/
structure Tl (FF : World → Nat → Prop) (v : Value) (X : List (Int × Int)) (A : World) : Prop where
  own : A.ownsRow 0 30 2 v X.length (prow X)
  no : ∀ j, v.ownBlock = some j → ¬ FF A j
theorem Tl.step {FF : World → Nat → Prop} {v : Value} {X : List (Int × Int)} {A B : World} (h : Tl FF v X A) (hs : Step FF A B) : Tl FF v X B :=
  ⟨own_same h.own fun g hg => hs.1.block g (h.own.lt g hg).2 (h.no g hg), fun j hj => hs.no (h.no j hj) (h.own.lt j hj).2⟩
set_option maxHeartbeats 4000000 in
theorem ball_in (l Bs B : Nat) (V : Nat → Prop) (rm : Int) (f : Nat → List Int) (FF : World → Nat → Prop) (J Jx : Nat → World → Prop) (W : World)
    (hT : Tab W) (hm : many f 32 ≤ 65536) (hs0 : W.cell? ⟨Bs, 0, none⟩ = some (.pointer (some ⟨B, 0, none⟩))) (hB : BAt W V B rm f)
    (hR : RoundsF Tryd.prog l (toldF f).length (nAt (toldF f)) FF J Jx) (fJ : ∀ k, Foot FF (J k)) (h0 : J 0 W) :
    Iter Tryd.prog 24 #[.pointer (some ⟨Bs, 0, none⟩)] l (toldF f).length J Jx W := by
  refine callsIn_of_wp Tryd.func24 rfl trivial ?_ rfl
  simp only [Tryd.ntmps24, List.size_toArray, List.length_cons, List.length_nil, Nat.reduceAdd, Nat.reduceSub, Array.replicate_succ, Array.replicate_zero, List.push_toArray, List.append_toArray, List.nil_append, List.cons_append]
  have HTo := Lib.hid (told_any hB hT hm)
  have hN2 : (toldF f).length ≤ 65536 := Nat.le_trans (tk_len f _) hm
  obtain ⟨X, hX⟩ : ∃ X, toldF f = X := ⟨_, rfl⟩
  rw [hX] at HTo hR hN2 ⊢
  obtain ⟨N, hN⟩ : ∃ N, X.length = N := ⟨_, rfl⟩
  have HN := Lib.hid hN
  rw [hN] at HTo hR hN2 ⊢
  have HR := Lib.hid hR
  have HJ := Lib.hid (And.intro fJ h0)
  have HW := Lib.hid (show ∀ v w', w'.ownsRow W.heap.size 30 2 v N (prow X) → Below W.heap.size W w' → Tl FF v X w' ∧ J 0 w' from fun v w' ho hb => by
    obtain ⟨hs, hj⟩ := Step.fresh (fJ 0) h0 hb
    rw [← hN] at ho
    refine ⟨⟨own_mono ho (Nat.zero_le _), fun j hj2 hf => ?_⟩, hj⟩
    have h1 := own_ge ho j hj2
    have h2 := ((fJ 0).keep W w' h0 (Off.new hb)).2 j hf
    have h3 := (fJ 0).lt W h0 j h2
    omega)
  clear hR hT hB hm fJ h0 hX hN
  gi_wp2_with (refine ⟨trivial, rfl, ?_⟩; gi_at_call 25; refine (callsIn_wide.2 HTo.out).mono ?_; rintro e w1 ⟨v, rfl, ho, hb⟩; obtain ⟨spv, cpv, rfl⟩ := own_val ho; have H1 := Lib.hid (HW.out _ _ ho hb); clear ho hb)
  clear hs0
  gi_loopg [8] N (fun gh i wr => ∃ k : Nat, k + gh = N ∧ i = .int .i64 (k : Nat) ∧ Aside (J k wr ∧ Tl FF (.slice spv N cpv) X wr))
  case atStart => exact ⟨0, by omega, rfl, H1.out.2, H1.out.1⟩
  case round =>
    obtain ⟨k, hkg, rfl, HK⟩ := hrel
    clear H1
    cases gk with
    | zero =>
      obtain rfl : k = N := by omega
      gi_wp2
      go_end0
      exact ⟨⟨_, rfl⟩, .inl HK.out.1⟩
    | succ g1 =>
      have hlt : k < N := by omega
      obtain ⟨q, cq, hv, -, hq, hcs⟩ := own_notes HK.out.2.own rfl (by rw [HN.out]; omega)
      have hv1 : spv = some ⟨q, 0, none⟩ := by injection hv
      subst hv1
      obtain ⟨c0, c1⟩ := hcs k (by rw [HN.out]; exact hlt)
      obtain ⟨x, hxx⟩ : ∃ x, (pth X k).1 = x := ⟨_, rfl⟩
      obtain ⟨y, hyy⟩ : ∃ y, (pth X k).2 = y := ⟨_, rfl⟩
      rw [hxx] at c0
      rw [hyy] at c1
      have ha : Below wr.heap.size wr (wr.alloc (.cells #[.int .i64 x, .int .i64 y] 30)) := (Below.refl _ _).alloc (Nat.le_refl _) _
      obtain ⟨hs2, hj2⟩ := Step.fresh (HJ.out.1 k) HK.out.1 ha
      have HT2 := Lib.hid (HK.out.2.step hs2)
      obtain ⟨fn, tmps, assign, body, hyd, hRo⟩ := HR.out k _ hj2 hlt
      have hnk : nAt X k = #[.agg #[.int .i64 x, .int .i64 y]] := by unfold nAt; rw [hxx, hyy]
      rw [hnk] at hyd
      have hkN : (k : Int) + 1 ≤ 65536 := by omega
      clear hv hcs hnk hxx hyy ha hs2 hj2 HK hq
      gi_wp2
      refine ⟨rfl, hRo.mono ?_⟩
      rintro e W3 (⟨rfl, hJ3, hc3⟩ | ⟨rfl, hJx3, -⟩)
      · have HJ3 := Lib.hid (And.intro hJ3 (HT2.out.step hc3))
        clear hJ3 hyd c0 c1 hc3
        gi_wp2
        go_roundg g1
        case measure => omega
        case rel => exact ⟨k + 1, by omega, by go_num, HJ3.out.1, HJ3.out.2⟩
      · gi_wp2
        refine bodyPost_ret (results_none rfl _ _ _) rfl ?_
        exact ⟨⟨_, rfl⟩, .inr ⟨k + 1, by omega, hJx3⟩⟩
end Go.Proofs.YtbdcjfkplopbiaaDoor
