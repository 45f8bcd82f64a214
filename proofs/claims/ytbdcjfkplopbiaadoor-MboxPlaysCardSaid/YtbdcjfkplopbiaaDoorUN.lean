/- The contracts of slices' Clone on ints, of mbox's Of and of what it hands back. -/
import Derived.Test.YtbdcjfkplopbiaaDoorUL
namespace Go.Proofs.YtbdcjfkplopbiaaDoor
open Go.RowKit
attribute [local go_sem] Oper.semAt_some

theorem eqSl_in (d : Nat) (sp : Option Addr) (n c : Nat) (w : World) : (Op.equalIn (d + 1) 40 (.slice sp n c) (.slice none 0 0)).run Tryd.prog w = .ok sp.isNone w := by
  have ht : Tryd.prog.underlying 40 = some (.slice 3) := by kernel_rfl
  cases sp <;> simp [Op.equalIn, run_underlying ht]
theorem eqSl (sp : Option Addr) (n c : Nat) (w : World) : (Go.binOp .eql 40 (.slice sp n c) (.slice none 0 0)).run Tryd.prog w = .ok (.bool sp.isNone) w := by
  have h : (Op.equal 40 (.slice sp n c) (.slice none 0 0)).run Tryd.prog w = .ok sp.isNone w := eqSl_in 9999 sp n c w
  simp [Go.binOp, h]
theorem app_first' {w w1 : World} {n : Nat} {L : List Int} {v1 : Value} (hown : w1.ownsRow w.heap.size 3 1 v1 (0 + n) ([] ++ rowI L)) (hg : (w.alloc (.cells #[] 3)).grownBy w1 (Value.slice (some ⟨w.heap.size, 0, none⟩) 0 0).ownBlock) :
    w1.ownsRow w.heap.size 3 1 v1 n (rowI L) ∧ Below w.heap.size w w1 := by
  rw [Nat.zero_add, List.nil_append] at hown
  have hb : Below w.heap.size w (w.alloc (.cells #[] 3)) := (Below.refl _ _).alloc (Nat.le_refl _) _
  exact ⟨hown, hb.grown hg (by rw [size_add]; omega) (fun j e => by simp [Value.ownBlock] at e; omega)⟩
set_option maxHeartbeats 1000000 in
theorem clone_any {w : World} {sp : Option Addr} {c : Nat} {L : List Int} (h : Slc w sp c L) (hl : L.length ≤ 100000) :
    Calls Tryd.prog 27 #[.slice sp L.length c] w fun e w' => ∃ v, e = .returned v ∧ w'.ownsRow w.heap.size 3 1 v L.length (rowI L) ∧ Below w.heap.size w w' := by
  obtain ⟨i0, hi, hz0, hz1, hz2⟩ := info_parts infoI
  rcases h with ⟨rfl, rfl, rfl⟩ | ⟨g, off, cur, rfl, hg, hoc, hlc, hcs⟩
  · have hq := fun w => eqSl none 0 0 w
    go_enter Tryd.func27, Tryd.ntmps27
    go_wp2
    go_ret
    exact ⟨_, rfl, World.ownsRow_nil _ _ _ _, Below.refl _ _⟩
  · have HO := Lib.hid (own_fresh w w.heap.size 3 1 (Nat.le_refl _))
    have ha : Below w.heap.size w (w.alloc (.cells #[] 3)) := (Below.refl _ _).alloc (Nat.le_refl _) _
    have HB := Lib.hid ha
    have HSRC := Lib.hid (show ∀ ad, some (⟨g, off, none⟩ : Addr) = some ad → ∀ j u, (rowI L)[j]? = some u → (w.alloc (.cells #[] 3)).cell? (ad.add j) = some u from fun ad hd j u hu => by
      injection hd with hd
      subst hd
      obtain ⟨hj, rfl⟩ := rowI_at _ _ _ hu
      have hgl : g < w.heap.size := (Array.getElem?_eq_some_iff.1 hg).1
      rw [Addr.add_lit, ha.cell (p := ⟨g, off + j, none⟩) hgl, cell_of_row w g _ _ _ _ hg]
      exact hcs j hj)
    obtain ⟨n, hn⟩ : ∃ n, L.length = n := ⟨_, rfl⟩
    have HLEN := Lib.hid (show (rowI L).length = n * 1 from by rw [rowI_len, hn, Nat.mul_one])
    rw [hn] at hl ⊢
    clear hg hoc hlc hcs ha hn
    have hq := fun w => eqSl (some ⟨g, off, none⟩) n c w
    go_enter Tryd.func27, Tryd.ntmps27
    go_wp2_with (at_builtin; refine wpList_append_vary rfl (.tmp 5) (.tmp 6) 40 rfl w.heap.size 3 i0 (.int .i64 0) 1 8 Tryd.underlying40 hi hz0 hz1 hz2 rfl (by decide) _ 0 [] rfl HO.out _ n _ (rowI L) rfl HLEN.out (fun h => by cases h) HSRC.out (rowI_one _) (by unfold maxLen; omega) (by omega) (by rw [size_add]; omega) ?_; intro v1 w1 hown1 hg1 hat1; have H1 := Lib.hid (app_first' hown1 hg1); clear hown1 hg1 hat1)
    go_ret
    exact ⟨_, rfl, H1.out.1, H1.out.2⟩
theorem Of_box (B : Nat) (t : Int) (w : World) : Calls Tryd.prog 19 #[.pointer (some ⟨B, 0, none⟩), .int .i64 t] w fun e w' => e = .returned (.func (.func 26) #[] #[.pointer (some ⟨w.heap.size + 1, 0, none⟩), .pointer (some ⟨w.heap.size, 0, none⟩)]) ∧ w' = (w.alloc (.cells #[.pointer (some ⟨B, 0, none⟩)] 23)).alloc (.cells #[.int .i64 t] 3) := by
  have hmf : ∀ (fn : Fn) (first cap : Array Value) (w : World), (Instr.makeFunc fn first cap).run Tryd.prog w = .ok (.func fn first cap) w := fun _ _ _ _ => rfl
  go_enter Tryd.func19, Tryd.ntmps19
  go_wp2
  go_ret
  exact ⟨rfl, rfl⟩
/-- What the closure keeps: the caller's state, and the row that was cloned. -/
structure Ti (FF : World → Nat → Prop) (v : Value) (L : List Int) (A : World) : Prop where
  own : A.ownsRow 0 3 1 v L.length (rowI L)
  no : ∀ j, v.ownBlock = some j → ¬ FF A j
theorem Ti.step {FF : World → Nat → Prop} {v : Value} {L : List Int} {A B : World} (h : Ti FF v L A) (hs : Step FF A B) : Ti FF v L B :=
  ⟨own_same h.own fun g hg => hs.1.block g (h.own.lt g hg).2 (h.no g hg), fun j hj => hs.no (h.no j hj) (h.own.lt j hj).2⟩
set_option maxHeartbeats 1000000 in
theorem bof_no (l Db Pb : Nat) (t : Int) (ht : ¬ (0 ≤ t ∧ t < 32)) (FF : World → Nat → Prop) (args : Nat → Array Value) (J Jx : Nat → World → Prop) (W : World)
    (hs0 : W.cell? ⟨Db, 0, none⟩ = some (.int .i64 t)) (_hR : RoundsF Tryd.prog l 0 args FF J Jx) (h0 : J 0 W) :
    Iter Tryd.prog 26 #[.pointer (some ⟨Db, 0, none⟩), .pointer (some ⟨Pb, 0, none⟩)] l 0 J Jx W := by
  refine callsIn_of_wp Tryd.func26 rfl trivial ?_ rfl
  simp only [Tryd.ntmps26, List.size_toArray, List.length_cons, List.length_nil, Nat.reduceAdd, Nat.reduceSub, Array.replicate_succ, Array.replicate_zero, List.push_toArray, List.append_toArray, List.nil_append, List.cons_append]
  have HR := Lib.hid (mright_any t)
  rw [decide_eq_false ht] at HR
  have HJ := Lib.hid h0
  clear ht h0 _hR
  gi_wp2_with (refine ⟨trivial, rfl, ?_⟩; gi_at_call 15; refine (callsIn_wide.2 (HR.out _)).mono ?_; rintro e w' ⟨rfl, rfl⟩)
  refine bodyPost_ret (results_none rfl _ _ _) rfl ?_
  exact ⟨⟨_, rfl⟩, .inl HJ.out⟩
set_option maxHeartbeats 4000000 in
theorem bof_in (l Db Pb B : Nat) (V : Nat → Prop) (rm : Int) (f : Nat → List Int) (d : Nat) (hd : d < 32) (FF : World → Nat → Prop) (J Jx : Nat → World → Prop) (W : World)
    (hm : (f d).length ≤ 65536) (hs0 : W.cell? ⟨Db, 0, none⟩ = some (.int .i64 (d : Nat))) (hs1 : W.cell? ⟨Pb, 0, none⟩ = some (.pointer (some ⟨B, 0, none⟩))) (hB : BAt W V B rm f)
    (hR : RoundsF Tryd.prog l (f d).length (fun k => #[.int .i64 (nth (f d) k)]) FF J Jx) (fJ : ∀ k, Foot FF (J k)) (h0 : J 0 W) :
    Iter Tryd.prog 26 #[.pointer (some ⟨Db, 0, none⟩), .pointer (some ⟨Pb, 0, none⟩)] l (f d).length J Jx W := by
  refine callsIn_of_wp Tryd.func26 rfl trivial ?_ rfl
  simp only [Tryd.ntmps26, List.size_toArray, List.length_cons, List.length_nil, Nat.reduceAdd, Nat.reduceSub, Array.replicate_succ, Array.replicate_zero, List.push_toArray, List.append_toArray, List.nil_append, List.cons_append]
  have HRt := Lib.hid (mright_any (d : Int))
  rw [decide_eq_true (by omega)] at HRt
  obtain ⟨sp, cp, hx⟩ := hB
  have cd := hx.cd d hd
  have hxd : BX W.drew V B rm sp cp f := hx.new (below_dn (Below.refl _ _) 1)
  have HCl := Lib.hid (clone_any (hxd.sl d hd) (by omega))
  obtain ⟨L, hL⟩ : ∃ L, f d = L := ⟨_, rfl⟩
  rw [hL] at HCl cd hR hm ⊢
  obtain ⟨N, hN⟩ : ∃ N, L.length = N := ⟨_, rfl⟩
  have HN := Lib.hid hN
  rw [hN] at HCl cd hR hm ⊢
  have HR := Lib.hid hR
  have HW := Lib.hid (show ∀ v w', w'.ownsRow W.drew.heap.size 3 1 v N (rowI L) → Below W.drew.heap.size W.drew w' → Ti FF v L w' ∧ J 0 w' from fun v w' ho hb => by
    have hb2 : Below W.heap.size W w' := (below_dn (Below.refl _ _) 1).trans hb
    obtain ⟨hs, hj⟩ := Step.fresh (fJ 0) h0 hb2
    rw [← hN] at ho
    refine ⟨⟨own_mono ho (Nat.zero_le _), fun j hj2 hf => ?_⟩, hj⟩
    have h1 : W.heap.size ≤ j := own_ge ho j hj2
    have h2 := ((fJ 0).keep W w' h0 (Off.new hb2)).2 j hf
    have h3 := (fJ 0).lt W h0 j h2
    omega)
  obtain ⟨sq, hsq⟩ : ∃ sq, sp d = sq := ⟨_, rfl⟩
  obtain ⟨cq, hcq⟩ : ∃ cq, cp d = cq := ⟨_, rfl⟩
  rw [hsq, hcq] at HCl cd
  have d0 : (0 : Int) ≤ (d : Int) := by omega
  have d1 : (d : Int) < 32 := by omega
  have mixed : Tryd.prog.follows .mixedOrders = true := by kernel_rfl
  clear hR hx hxd fJ h0 hN hL hsq hcq hd
  gi_wp2_with (refine ⟨trivial, rfl, ?_⟩; gi_at_call 15; refine (callsIn_wide.2 (HRt.out _)).mono ?_; rintro e w' ⟨rfl, rfl⟩)
  gi_region_with_o (refine ⟨trivial, rfl, ?_⟩; gi_at_call 27; refine (callsIn_wide.2 HCl.out).mono ?_; rintro e w1 ⟨v, rfl, ho, hb⟩; obtain ⟨spv, cpv, rfl⟩ := own_val ho; have H1 := Lib.hid (HW.out _ _ ho hb); clear ho hb)
  all_goals
    clear hs0 hs1 cd HCl HRt mixed
    gi_wp2
    gi_loopg [17] N (fun gh i wr => ∃ k : Nat, k + gh = N ∧ i = .int .i64 (k : Nat) ∧ Aside (J k wr ∧ Ti FF (.slice spv N cpv) L wr))
    case atStart => exact ⟨0, by omega, rfl, H1.out.2, H1.out.1⟩
    case round =>
      obtain ⟨k, hkg, rfl, HK⟩ := hrel
      clear H1
      cases gk with
      | zero =>
        obtain rfl : k = N := by omega
        gi_wp2
        go_end0
        exact ⟨⟨_, rfl⟩, .inl HK.out.1⟩
      | succ g1 =>
        have hlt : k < N := by omega
        obtain ⟨sp1, q, cq1, hv, hsq, hcs⟩ := own_ints HK.out.2.own rfl
        have hv1 : spv = some ⟨q, 0, none⟩ := by
          injection hv with e1 _ _
          rw [e1]; exact (hsq (by rw [HN.out]; omega)).1
        subst hv1
        have c0 := hcs k (by rw [HN.out]; exact hlt)
        obtain ⟨x, hxx⟩ : ∃ x, nth L k = x := ⟨_, rfl⟩
        rw [hxx] at c0
        obtain ⟨fn, tmps, assign, body, hyd, hRo⟩ := HR.out k _ HK.out.1 hlt
        dsimp only at hyd
        rw [hxx] at hyd
        have hkN : (k : Int) + 1 ≤ 65536 := by omega
        have HT2 := Lib.hid HK.out.2
        clear hv hcs hsq hxx HK
        gi_wp2
        refine ⟨rfl, hRo.mono ?_⟩
        rintro e W3 (⟨rfl, hJ3, hc3⟩ | ⟨rfl, hJx3, -⟩)
        · have HJ3 := Lib.hid (And.intro hJ3 (HT2.out.step hc3))
          clear hJ3 hyd c0 hc3
          gi_wp2
          go_roundg g1
          case measure => omega
          case rel => exact ⟨k + 1, by omega, by go_num, HJ3.out.1, HJ3.out.2⟩
        · gi_wp2
          refine bodyPost_ret (results_none rfl _ _ _) rfl ?_
          exact ⟨⟨_, rfl⟩, .inr ⟨k + 1, by omega, hJx3⟩⟩
end Go.Proofs.YtbdcjfkplopbiaaDoor
