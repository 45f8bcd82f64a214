/- The contract of the reference's Make. -/
import Derived.Test.YtjgnclhkoncnkaaWJ
import Derived.Test.YtjgnclhkoncnkaaLast
import Derived.Deep.CutBlock
import Derived.Deep.RegionHeld3
namespace Go.Proofs.Ytjgnclhkoncnkaa
open Go.RowKit

/-- What the reference's loop keeps: t words are done, g are left. -/
structure RMakeI (w wr : World) (a b : List Int) (g t : Nat) (v : Value) (acc : List OpM) (nv : Nat → Value) : Prop where
  tg : t + g = b.length
  made : makeM a g (b.drop t) acc = makeM a b.length b []
  ops : ROpsAt wr w.heap.size v acc nv
  b : Below w.heap.size w wr
  l1 : acc.length ≤ t
  l2 : ∀ o ∈ acc, o.new.length ≤ t
theorem RMakeI.old {w wr w2 w' : World} {a b : List Int} {g t f m : Nat} {v v' : Value} {acc : List OpM} {nv : Nat → Value} (h : RMakeI w wr a b (g + 1) t v acc nv) (hp : longM a (b.drop t) a.length = (f, m)) (h4 : 4 ≤ m) (hml : m ≤ g + 1)
    (hb : Below wr.heap.size wr w2) (hb2 : Below w.heap.size w w')
    (hr : w'.ownsRow w.heap.size 71 3 v' (acc.length + 1) (rowsOf (fun k => opC (acc.getD k default) (nv k)) acc.length ++ opC ⟨f, m, []⟩ (.slice none 0 0))) (hg : w2.grownBy w' v.ownBlock) :
    RMakeI w w' a b (g + 1 - m) (t + m) v' (acc ++ [⟨f, m, []⟩]) (fun j => if j = acc.length then .slice none 0 0 else nv j) := by
  have hk := h.tg
  refine ⟨by omega, ?_, h.ops.push hb ⟨f, m, []⟩ _ hr hg (World.ownsRow_nil _ _ _ _) (fun g hg => by simp [Value.ownBlock] at hg), hb2, ?_, fun o ho => ?_⟩
  · rw [← h.made, makeM_old (by rw [List.length_drop]; omega) hp h4 hml, List.drop_drop]
  · have := h.l1; simp; omega
  · rcases List.mem_append.1 ho with h1 | h1
    · have := h.l2 o h1; omega
    · obtain rfl := List.mem_singleton.1 h1
      simp
theorem RMakeI.new_ {w wr w' : World} {a b : List Int} {g t f m : Nat} {v v' : Value} {acc : List OpM} {nv nv' : Nat → Value} (h : RMakeI w wr a b (g + 1) t v acc nv) (hp : longM a (b.drop t) a.length = (f, m)) (h4 : ¬ 4 ≤ m)
    (hb : Below w.heap.size w w') (ho : ROpsAt w' w.heap.size v' (addNewM acc (nth b t)) nv') : RMakeI w w' a b g (t + 1) v' (addNewM acc (nth b t)) nv' := by
  have hk := h.tg
  obtain ⟨n1, n2⟩ := addNew_len (x := nth b t) h.l1 h.l2
  refine ⟨by omega, ?_, ho, hb, n1, n2⟩
  rw [← h.made, makeM_new (by rw [List.length_drop]; omega) hp h4, List.drop_drop, nth_drop]
  rfl
/-- What the next word is put behind. -/
structure LastR (w wx : World) (acc l : List OpM) (o : OpM) (nv : Nat → Value) (x : Int) (g cap t : Nat) : Prop where
  ops : ROpsAt wx w.heap.size (.slice (some ⟨g, 0, none⟩) (l.length + 1) cap) (l ++ [o]) nv
  b : Below w.heap.size w wx
  add : addNewM acc x = l ++ [⟨o.fr, o.many, o.new ++ [x]⟩]
  l1 : l.length ≤ t
  l2 : o.new.length ≤ t
/-- Does no new piece stand last? -/
def needB (acc : List OpM) : Bool := match acc.getLast? with | none => true | some o => decide (o.new = [])
theorem need_nil {acc : List OpM} (h : acc.length = 0) : needB acc = true := by
  obtain rfl : acc = [] := by simpa using h
  rfl
theorem need_snoc (l : List OpM) (o : OpM) : needB (l ++ [o]) = decide (o.new = []) := by simp [needB]
theorem need_yes {acc : List OpM} (h : needB acc = true) (x : Int) : addNewM acc x = acc ++ [⟨0, 0, [] ++ [x]⟩] := by
  unfold needB at h; unfold addNewM
  split
  · rfl
  · rename_i o ho
    rw [ho] at h
    exact if_pos (of_decide_eq_true h)
theorem last_cell {w : World} {base n1 : Nat} {v : Value} {acc : List OpM} {nv : Nat → Value} (h : ROpsAt w base v acc nv) (hn : acc.length = n1 + 1) : ∃ (l : List OpM) (o : OpM) (g cap : Nat) (sp2 : Option Addr) (cap2 : Nat), acc = l ++ [o] ∧ l.length = n1 ∧ v = .slice (some ⟨g, 0, none⟩) (n1 + 1) cap ∧ base ≤ g ∧ nv n1 = .slice sp2 o.new.length cap2 ∧ w.cell? ⟨g, n1 * 3 + 2, none⟩ = some (.slice sp2 o.new.length cap2) := by
  have hne : acc ≠ [] := by intro e; rw [e] at hn; simp at hn
  obtain ⟨o, ho⟩ : ∃ o, acc.getLast? = some o := by
    cases h2 : acc.getLast? with
    | none => exact absurd (by simpa using h2) hne
    | some o => exact ⟨o, rfl⟩
  have hs := last_split ho
  have hl : acc.dropLast.length = n1 := by rw [List.length_dropLast]; omega
  have hr := h.row
  have hnl := h.new n1 (by omega)
  have hg : acc.getD n1 default = o := by rw [hs, ← hl]; exact getD_snoc_eq _ _
  rw [hg] at hnl
  obtain ⟨sp2, cap2, hnv⟩ := own_val hnl
  rw [hn] at hr
  obtain ⟨g, cap, rfl, hgb, -⟩ := own_some hr (by omega)
  have hc := hr.cellAt (n1 * 3 + 2) (by omega)
  rw [rowsOf_at (sz := 3) (fun k _ => rfl) n1 2 (by omega) (by omega), hg, hnv] at hc
  exact ⟨_, o, g, cap, sp2, cap2, hs, hl, rfl, hgb, hnv, hc⟩
set_option maxHeartbeats 16000000 in
set_option maxRecDepth 100000 in
theorem rmake_any {w : World} {A B : Src} {a b : List Int} (ha : WAt w A a) (hb : WAt w B b) (la : a.length ≤ 4096) (lb : b.length ≤ 4096) :
    Calls Try.prog 33 #[.slice A.sp a.length A.c, .slice B.sp b.length B.c] w fun e w' => ∃ v nv, e = .returned v ∧ ROpsAt w' w.heap.size v (makeM a b.length b []) nv ∧ Below w.heap.size w w' := by
  obtain ⟨i0, hi, hz0, hz1, hz2⟩ := info_parts (show (Try.prog.info? 71).map (fun i => (i.zero, i.size, i.bytes)) = some (some (.agg #[.int .i64 0, .int .i64 0, .slice none 0 0]), 3, 40) from by kernel_rfl)
  obtain ⟨j0, hj, ha0, ha1, ha2⟩ := info_parts (show (Try.prog.info? 73).map (fun i => (i.zero, i.size, i.bytes)) = some (some (.int .u32 0), 1, 4) from by kernel_rfl)
  have HSt := Lib.hid (fun (f m t : Nat) (h1 : f ≤ a.length) (h2 : t ≤ b.length) (h3 : m ≤ 10000) (wx : World) (hx : Below w.heap.size w wx) => stands_any (ha.new hx) (hb.new hx) (by omega) (by omega) f m t h1 h2 h3)
  have HW := Lib.hid (fun (k : Nat) (hk : k < b.length) (wx : World) (hx : Below w.heap.size w wx) => And.intro (hb.sl.at_ (by omega)) ((hb.new hx).e k hk))
  have HOK := Lib.hid (fun (t i : Nat) => And.intro (longM_ok a (b.drop t) i).1 (show longM a (b.drop t) (i + 1) = if (longM a (b.drop t) i).2 < alikeN (a.drop i) (b.drop t) then (i, alikeN (a.drop i) (b.drop t)) else longM a (b.drop t) i from rfl))
  have HAl := Lib.hid (fun (t i : Nat) => (alikeN_le (a.drop i) (b.drop t)).2.1)
  obtain ⟨pa, qa, oa, ca⟩ := A
  obtain ⟨pb, qb, ob, cb⟩ := B
  obtain ⟨N, hN⟩ : ∃ n, a.length = n := ⟨_, rfl⟩
  obtain ⟨M, hM⟩ : ∃ n, b.length = n := ⟨_, rfl⟩
  have HN := Lib.hid hN
  have HM := Lib.hid hM
  have HStart := Lib.hid (show RMakeI w w a b M 0 (.slice none 0 0) [] (fun _ => .slice none 0 0) from ⟨by rw [HM.out]; omega, by rw [HM.out, List.drop_zero], ⟨⟨rfl, .inl ⟨rfl, rfl⟩⟩, fun k hk => by simp at hk, fun k hk => by simp at hk⟩, Below.refl _ _, by simp, fun o ho => by simp at ho⟩)
  dsimp only at HSt HW ⊢
  rw [hN, hM] at HSt
  rw [hM] at HW lb
  rw [hN] at la
  rw [hN, hM]
  clear ha hb hN hM
  go_enter Try.func33, Try.ntmps33
  go_wp2
  go_loopg [5, 6] M (fun g x5 x6 wr => ∃ (t : Nat) (acc : List OpM) (nv : Nat → Value), x6 = .int .i64 (t : Nat) ∧ Aside (RMakeI w wr a b g t x5 acc nv))
  case atStart => exact ⟨0, _, _, rfl, HStart.out⟩
  case round =>
    obtain ⟨t, acc, nv, rfl, HR⟩ := hrel
    cases gk with
    | zero =>
      have ht : t = M := by have := HR.out.tg; rw [HM.out] at this; omega
      have HX := Lib.hid (show ROpsAt wr w.heap.size u5 (makeM a M b []) nv from by
        have hm := HR.out.made
        rw [HM.out] at hm
        rw [← hm]
        exact HR.out.ops)
      subst ht
      go_wp2
      go_ret
      exact ⟨_, _, rfl, HX.out, HR.out.b⟩
    | succ g1 =>
      obtain ⟨wo, hwo⟩ : ∃ x, x = wr := ⟨_, rfl⟩
      subst hwo
      have htM : t < M := by have := HR.out.tg; rw [HM.out] at this; omega
      have htM2 : (t : Int) < M := by omega
      have hgM : M - t = g1 + 1 := by have := HR.out.tg; rw [HM.out] at this; omega
      have HI := Lib.hid HR.out
      have HLt := Lib.hid (show (b.drop t).length = g1 + 1 by rw [List.length_drop, HM.out, hgM])
      have hg5 : g1 + 1 ≤ 4096 := by omega
      clear hgM HR HStart
      obtain ⟨p, hp⟩ : ∃ p, longM a (b.drop t) N = p := ⟨_, rfl⟩
      obtain ⟨f, m⟩ := p
      have HP := Lib.hid hp
      have hok := (HOK.out t N).1
      rw [hp, HLt.out] at hok
      dsimp only at hok
      have HAl2 := Lib.hid (fun (i : Nat) => show alikeN (a.drop i) (b.drop t) ≤ 4096 from by have := HAl.out t i; rw [HLt.out] at this; omega)
      have HOK2 := Lib.hid (fun (i : Nat) => (HOK.out t i).2)
      have HOK3 := Lib.hid (fun (i : Nat) => show (longM a (b.drop t) i).2 ≤ 4096 from by have := (HOK.out t i).1; rw [HLt.out] at this; omega)
      have HBk := Lib.hid HI.out.b
      have HSt2 := Lib.hid (fun (i m : Nat) (h1 : i ≤ N) (h3 : m ≤ 10000) (wx : World) (hx : Below wo.heap.size wo wx) => HSt.out i m t h1 (by omega) h3 wx (HBk.out.trans (hx.mono HBk.out.size)))
      clear hp HOK HAl HSt
      go_upto_region 4 with fail
      go_upto_block 2 with fail
      go_cut [7, 8, 9] from 11 to 80 (fun s7 s8 _ wx => s7 = .int .i64 (f : Nat) ∧ s8 = .int .i64 (m : Nat) ∧ Below wo.heap.size wo wx)
      case first => as_aux_lemma =>
        clear hok htM2
        go_wp2_with fail
        go_loopg [7, 8, 9] N (fun g x7 x8 x9 wx => ∃ i : Nat, i + g = N ∧ x7 = .int .i64 ((longM a (b.drop t) i).1 : Nat) ∧ x8 = .int .i64 ((longM a (b.drop t) i).2 : Nat) ∧ x9 = .int .i64 (i : Nat) ∧ Aside (Below wo.heap.size wo wx))
        case atStart => exact ⟨0, by omega, rfl, rfl, rfl, Below.refl _ _⟩
        case round =>
          obtain ⟨i, hig, rfl, rfl, rfl, HB⟩ := hrel
          cases gk with
          | zero =>
            obtain rfl : i = N := by omega
            rw [HP.out]
            go_wp2
            go_meet
            case rel => exact ⟨rfl, rfl, HB.out⟩
          | succ g2 =>
            have hi1 : i < N := by omega
            have hi2 : (i : Int) < N := by omega
            have hs := HOK2.out i
            have hal := HAl2.out i
            obtain ⟨q, hq⟩ : ∃ q, longM a (b.drop t) i = q := ⟨_, rfl⟩
            obtain ⟨z, hz⟩ : ∃ z, alikeN (a.drop i) (b.drop t) = z := ⟨_, rfl⟩
            rw [hq, hz] at hs
            rw [hz] at hal
            rw [hq]
            obtain ⟨f0, m0⟩ := q
            dsimp only at hs ⊢
            have HS := Lib.hid hs
            have HZ := Lib.hid hz
            have hm04 : m0 ≤ 4096 := by have := (HOK3.out i); rw [hq] at this; exact this
            clear hq hz hs HP HOK2 HOK3 HAl2
            go_wp2
            go_loopg [7, 8] (max m0 z - m0) (fun g x7 x8 wy => ∃ f1 m1 : Nat, x7 = .int .i64 (f1 : Nat) ∧ x8 = .int .i64 (m1 : Nat) ∧ m1 + g = max m0 z ∧ Aside ((m1 = m0 ∧ f1 = f0 ∨ m0 < m1 ∧ f1 = i ∧ m1 ≤ z) ∧ Below wo.heap.size wo wy))
            case atStart => exact ⟨f0, m0, rfl, rfl, by omega, .inl ⟨rfl, rfl⟩, HB.out⟩
            case round =>
              obtain ⟨f1, m1, rfl, rfl, hmg, HC⟩ := hrel
              have HC1 := Lib.hid HC.out.1
              have HC2 := Lib.hid HC.out.2
              have HT := Lib.hid (fun (h3 : m1 + 1 ≤ 10000) => HSt2.out i (m1 + 1) (by omega) h3 _ HC2.out)
              unfold standB at HT
              rw [HZ.out] at HT
              have hm9 : m1 ≤ 4096 := by
                rcases HC1.out with ⟨h, -⟩ | ⟨-, -, h⟩ <;> omega
              by_cases hlt : m1 + 1 ≤ z
              · have HT2 := Lib.hid (HT.out (by omega))
                rw [decide_eq_true hlt] at HT2
                have HC3 := Lib.hid (show m0 < m1 + 1 ∧ m1 + 1 ≤ z from ⟨by rcases HC1.out with ⟨h, -⟩ | ⟨h, -⟩ <;> omega, hlt⟩)
                cases gk with
                | zero => omega
                | succ g3 =>
                  clear HT
                  go_wp2_with (go_at_call 51; refine HT2.out.mono ?_; rintro e w3 ⟨rfl, b3⟩; have H3 := Lib.hid (HC2.out.trans (b3.mono HC2.out.size)); clear b3 HT2)
                  go_roundg g3
                  case measure => omega
                  case rel => exact ⟨i, m1 + 1, rfl, by go_num, by omega, .inr ⟨HC3.out.1, rfl, HC3.out.2⟩, H3.out⟩
              · have HT2 := Lib.hid (HT.out (by omega))
                rw [decide_eq_false hlt] at HT2
                have HE := Lib.hid (show longM a (b.drop t) (i + 1) = (f1, m1) from by
                  rw [HS.out]
                  rcases HC1.out with ⟨h1, h2⟩ | ⟨h1, h2, h3⟩
                  · rw [if_neg (by omega), h1, h2]
                  · rw [if_pos (by omega), h2, show z = m1 by omega])
                clear HT
                go_wp2_with (go_at_call 51; refine HT2.out.mono ?_; rintro e w3 ⟨rfl, b3⟩; have H3 := Lib.hid (HC2.out.trans (b3.mono HC2.out.size)); clear b3 HT2)
                go_roundg g2
                case measure => omega
                case rel => exact ⟨i + 1, by omega, by rw [HE.out], by rw [HE.out], by go_num, H3.out⟩
      case rest =>
      obtain ⟨rfl, rfl, hC⟩ := hcut
      have HC := Lib.hid hC
      clear hC HOK2 HOK3 HAl2 HSt2
      obtain ⟨spv, capv, hv⟩ := own_val HI.out.ops.row
      subst hv
      have HP2 := Lib.hid (show longM a (b.drop t) a.length = (f, m) by rw [HN.out, HP.out])
      have HRow := Lib.hid HI.out.ops.row
      have hal := HI.out.l1
      have HBw := Lib.hid (HBk.out.trans (HC.out.mono HBk.out.size))
      have HOld := Lib.hid (fun (w3 w4 : World) (v' : Value) (h4 : 4 ≤ m) (h1 : Below wo.heap.size wo w3) (h2 : Below w.heap.size w w4) hr hg => HI.out.old (w2 := w3) (w' := w4) (v' := v') HP2.out h4 hok h1 h2 hr hg)
      have HNew := Lib.hid (fun (w4 : World) (v' : Value) (nv' : Nat → Value) (h4 : ¬ 4 ≤ m) (h1 : Below w.heap.size w w4) ho => HI.out.new_ (w' := w4) (v' := v') (nv' := nv') HP2.out h4 h1 ho)
      have HPu := Lib.hid (fun (w3 w4 : World) (v' : Value) (h1 : Below wo.heap.size wo w3) hr hg => HI.out.ops.push (w2 := w3) (w' := w4) (v' := v') h1 ⟨0, 0, []⟩ (.slice none 0 0) hr hg (World.ownsRow_nil _ _ _ _) (fun g hg => by simp [Value.ownBlock] at hg))
      obtain ⟨n, hn⟩ : ∃ n, acc.length = n := ⟨_, rfl⟩
      have HNn := Lib.hid hn
      rw [hn] at HRow hal HOld HPu ⊢
      have hn5 : n ≤ 4096 := by omega
      clear hn
      by_cases h4 : 4 ≤ m
      · have h4i : (4 : Int) ≤ m := by omega
        have hoki : (m : Int) ≤ (g1 : Int) + 1 := by omega
        go_wp2_with (first
          | (at_builtin; refine wpList_append_vary rfl (.tmp 33) (.tmp 37) 67 rfl w.heap.size 71 i0 (.agg #[.int .i64 0, .int .i64 0, .slice none 0 0]) 3 40 Try.underlying67 hi hz0 hz1 hz2 rfl (by decide) _ n _ rfl ((own_below HRow.out HC.out (Nat.le_refl _)).alloc _) (some ⟨wc.heap.size, 0, none⟩) 1 1 [.int .i64 (f : Nat), .int .i64 (m : Nat), .slice none 0 0] rfl rfl (fun h => nomatch h) (fun ad h => by obtain rfl := Option.some.inj h; exact op_new _ _ _) (by simp [Value.oneCell']) (by unfold maxLen; omega) (by omega) (by have := HC.out.size; have := HBk.out.size; simp; omega) ?_; intro v' w4 hown hgrow hat; have HO := Lib.hid (HOld.out _ w4 v' h4 (HC.out.alloc HC.out.size _) ((HBw.out.alloc HBw.out.size _).grown hgrow (by have := HBw.out.size; simp; omega) (fun k hk => (HRow.out.lt k hk).1)) hown hgrow); clear hown hgrow hat)
          | fail)
        go_roundg (g1 + 1 - m)
        case measure => omega
        case rel => exact ⟨t + m, _, _, by go_num, HO.out⟩
      · have h4i : ¬ (4 : Int) ≤ m := by omega
        have HAcc2 := Lib.hid HI.out.l2
        go_upto_region 15 with fail
        go_cut [10, 55] from 11 to 80 (fun s10 s55 wx => s10 = .int .i64 ((n : Int) - 1) ∧ s55 = .bool (needB acc) ∧ wc = wx)
        case first => as_aux_lemma =>
          cases n with
          | zero =>
            have HX := Lib.hid (need_nil HNn.out)
            go_wp2
            go_meet
            case rel => exact ⟨(by first | rfl | (congr 1; omega) | (simp; omega)), (by rw [HX.out]; first | done | simp), rfl⟩
          | succ n1 =>
            obtain ⟨l, o, g, cap, sp2, cap2, hacc, hln, hv, hgb, -, hc⟩ := last_cell (HI.out.ops.below HC.out) HNn.out
            obtain ⟨hv1, -⟩ : spv = some ⟨g, 0, none⟩ ∧ capv = cap := by simp at hv; exact ⟨hv.1, hv.2.2⟩
            subst hv1
            have HX := Lib.hid (show needB acc = decide (o.new = []) by rw [hacc]; exact need_snoc l o)
            obtain ⟨k2, hk2⟩ : ∃ k, o.new.length = k := ⟨_, rfl⟩
            have HK2 := Lib.hid hk2
            rw [hk2] at hc
            clear hk2 hacc hln hv hgb
            by_cases hk0 : k2 = 0
            · subst hk0
              have HX2 := Lib.hid (show needB acc = true by rw [HX.out]; exact decide_eq_true (List.length_eq_zero_iff.1 HK2.out))
              go_wp2
              go_meet
              case rel => exact ⟨(by first | rfl | (congr 1; omega) | (simp; omega)), (by rw [HX2.out]; first | done | simp), rfl⟩
            · have HX2 := Lib.hid (show needB acc = false by rw [HX.out]; exact decide_eq_false (fun e => hk0 (by rw [← HK2.out, e]; rfl)))
              have hk1 : ((k2 : Int) == 0) = false := by simp; omega
              clear hk0
              go_wp2
              go_meet
              case rel => exact ⟨(by first | rfl | (congr 1; omega) | (simp; omega)), (by rw [HX2.out]; first | done | simp), rfl⟩
        case rest =>
        obtain ⟨rfl, rfl, rfl⟩ := hcut
        go_upto_if 55 with fail
        go_cut [5, 10] from 11 to 80 (fun s5 s10 wx => ∃ (l : List OpM) (o : OpM) (nv' : Nat → Value) (g cap : Nat), s5 = .slice (some ⟨g, 0, none⟩) (l.length + 1) cap ∧ s10 = .int .i64 (l.length : Nat) ∧ Aside (LastR w wx acc l o nv' (nth b t) g cap t))
        case first => as_aux_lemma =>
          cases hbc : needB acc with
          | true =>
            have HAdd := Lib.hid (need_yes hbc (nth b t))
            clear hbc
            go_wp2_with (first
              | (at_builtin; refine wpList_append_vary rfl (.tmp 56) (.tmp 58) 67 rfl w.heap.size 71 i0 (.agg #[.int .i64 0, .int .i64 0, .slice none 0 0]) 3 40 Try.underlying67 hi hz0 hz1 hz2 rfl (by decide) _ n _ rfl ((own_below HRow.out HC.out (Nat.le_refl _)).alloc _) (some ⟨wc.heap.size, 0, none⟩) 1 1 [.int .i64 0, .int .i64 0, .slice none 0 0] rfl rfl (fun h => nomatch h) (fun ad h => by obtain rfl := Option.some.inj h; exact op_new _ _ _) (by simp [Value.oneCell']) (by unfold maxLen; omega) (by omega) (by have := HC.out.size; have := HBk.out.size; simp; omega) ?_; intro v' w4 hown hgrow hat; obtain ⟨g9, cap9, rfl, -, -⟩ := own_some hown (by omega); have HO := Lib.hid (And.intro (HPu.out _ w4 _ (HC.out.alloc HC.out.size _) hown hgrow) ((HBw.out.alloc HBw.out.size _).grown hgrow (by have := HBw.out.size; simp; omega) (fun k hk => (HRow.out.lt k hk).1))); clear hown hgrow hat)
              | fail)
            go_meet
            case rel => exact ⟨acc, ⟨0, 0, []⟩, _, g9, cap9, by rw [HNn.out], (by rw [HNn.out]; first | done | (congr 1; done) | (congr 1; omega)), (by rw [HNn.out]; exact HO.out.1), HO.out.2, HAdd.out, by rw [HNn.out]; exact hal, Nat.zero_le _⟩
          | false =>
            cases n with
            | zero => rw [need_nil HNn.out] at hbc; cases hbc
            | succ n1 =>
              obtain ⟨l, o, g, cap, sp2, cap2, hacc, hln, hv, hgb, -, hc⟩ := last_cell (HI.out.ops.below HC.out) HNn.out
              obtain ⟨hv1, hv2⟩ : spv = some ⟨g, 0, none⟩ ∧ capv = cap := by simp at hv; exact ⟨hv.1, hv.2.2⟩
              subst hv1 hv2
              have HX := Lib.hid (show LastR w wc acc l o nv (nth b t) g capv t from by
                rw [hacc, need_snoc] at hbc
                have hne : o.new ≠ [] := of_decide_eq_false hbc
                refine ⟨?_, HBw.out, ?_, by omega, HAcc2.out o (by rw [hacc]; exact List.mem_append_right _ (List.mem_singleton.2 rfl))⟩
                · have h1 := HI.out.ops.below HC.out
                  rw [hacc, show (l ++ [o]).length = n1 + 1 by simp [hln]] at h1
                  rw [hln]
                  exact h1
                · rw [hacc]; unfold addNewM; rw [List.getLast?_concat]; exact (if_neg hne).trans (by rw [List.dropLast_concat]))
              have HLn := Lib.hid hln
              clear hacc hln hv hgb hc hbc
              go_wp2
              go_meet
              case rel => exact ⟨l, o, nv, g, capv, by rw [HLn.out], (by rw [HLn.out]; first | done | (congr 1; done) | (congr 1; omega)), HX.out⟩
        case rest =>
        obtain ⟨l, o, nv2, g, cap, rfl, rfl, HL⟩ := hcut
        have hll := HL.out.l1
        have hol := HL.out.l2
        have hlen : (l ++ [o]).length = l.length + 1 := by simp
        obtain ⟨T, hT1, hT2, -⟩ := own_words (HL.out.ops.new l.length (by omega)) rfl
        rw [getD_snoc_eq] at hT1 hT2
        have hrow := HL.out.ops.row
        rw [hlen] at hrow
        have hgb := (hrow.lt g rfl).1
        have HRw := Lib.hid (fun (wy : World) (hy : Below wc.heap.size wc wy) => show wy.cell? ⟨g, l.length * 3 + 2, none⟩ = some (.slice T.sp o.new.length T.c) ∧ wy.frozen? ⟨g, l.length * 3 + 2, none⟩ = false ∧ WAt wy T o.new from by
          have hk := own_below hrow hy (Nat.le_refl _)
          have hc := hk.cellAt (l.length * 3 + 2) (by omega)
          rw [rowsOf_at (sz := 3) (fun k _ => rfl) l.length 2 (by omega) (by omega)] at hc
          exact ⟨hc.trans (by rw [← hT1]; rfl), hk.frozenAt _, hT2.new hy⟩)
        have HSet := Lib.hid (fun (wy : World) (y : Value) (hy : Below wc.heap.size wc wy) (hx : wy.ownsRow wc.heap.size 73 1 y (o.new.length + 1) (rowU o.new ++ [.int .u32 (nth b t)])) => show ROpsAt (wy.setCell ⟨g, l.length * 3 + 2, none⟩ y) w.heap.size (.slice (some ⟨g, 0, none⟩) (l.length + 1) cap) (addNewM acc (nth b t)) _ ∧ Below w.heap.size w (wy.setCell ⟨g, l.length * 3 + 2, none⟩ y) from by
          rw [HL.out.add]
          refine ⟨HL.out.ops.set (ws := o.new ++ [nth b t]) hy ?_ (fun j hj => (hx.lt j hj).1), (HL.out.b.trans (hy.mono HL.out.b.size)).setCell hgb _⟩
          rw [rowU_snoc, List.length_append, List.length_singleton]
          exact own_mono hx HL.out.b.size)
        have HWd := Lib.hid (fun (wy : World) (hy : Below w.heap.size w wy) => (HW.out t htM wy hy).2)
        have hpb := (HW.out t htM wc HL.out.b).1.1
        have HBc := Lib.hid HL.out.b
        have HNew2 := Lib.hid (fun (w4 : World) (v' : Value) (nv' : Nat → Value) (h1 : Below w.heap.size w w4) ho => HNew.out w4 v' nv' h4 h1 ho)
        subst hpb
        obtain ⟨q, hq⟩ : ∃ q, l.length = q := ⟨_, rfl⟩
        obtain ⟨k2, hk2⟩ : ∃ q, o.new.length = q := ⟨_, rfl⟩
        have HK2 := Lib.hid hk2
        rw [hq, hk2] at HRw HSet
        rw [hq] at hll ⊢
        rw [hk2] at hol
        have hgB := Lib.hid hgb
        clear hlen hT1 hT2 hrow hgb HL hq hk2 HOld HNew HPu HRow HI HC HBw HBk HAcc2 HP HP2 HW
        obtain ⟨x, hx⟩ : ∃ x, nth b t = x := ⟨_, rfl⟩
        have HX := Lib.hid hx
        rw [hx] at HSet HWd
        clear hx
        go_upto_region 18 with fail
        obtain ⟨wd, hwd⟩ : ∃ wd, wc.drew = wd := ⟨_, rfl⟩
        have HD := Lib.hid (show Below wc.heap.size wc wd by rw [← hwd]; exact (Below.refl _ _).drew)
        have HwS := Lib.hid (fun (wy : World) (hy : Below wc.heap.size wc wy) => HBc.out.trans (hy.mono HBc.out.size))
        go_cut [] from 11 to 80 (fun wx => ∃ nv3, Aside (ROpsAt wx w.heap.size (.slice (some ⟨g, 0, none⟩) (q + 1) cap) (addNewM acc x) nv3 ∧ Below w.heap.size w wx))
        case first => as_aux_lemma =>
          refine wp_region_held_drew (S := fun w' => Below w.heap.size w w') (by kernel_rfl) (by rw [hwd]; exact HwS.out _ HD.out) (fun hS => ?_)
          rw [hwd] at hS ⊢
          clear hwd
          refine wpAnyH_take (i := 0) (oi := { dst := some 62, op := .move (.tmp 5), type := 67, pos := "ref.go:44", after := #[], guard := none }) (v := ?_) rfl (by kernel_rfl) (by kernel_rfl) (by kernel_rfl) (fun _ _ _ h => h) (Or.inl ⟨by rfl, ?_⟩) hS ?_
          rotate_left 1
          · intro w hw; obtain s0 := hw; go_simp; try (with_reducible rfl)
          simp only [Act.put, List.setIfInBounds_toArray, List.set_cons_zero, List.set_cons_succ]
          refine wpAnyH_take (i := 1) (oi := { dst := some 63, op := .move (.tmp 10), type := 3, pos := "ref.go:44", after := #[], guard := none }) (v := ?_) rfl (by kernel_rfl) (by kernel_rfl) (by kernel_rfl) (fun _ _ _ h => h) (Or.inl ⟨by rfl, ?_⟩) hS ?_
          rotate_left 1
          · intro w hw; obtain s0 := hw; go_simp; try (with_reducible rfl)
          simp only [Act.put, List.setIfInBounds_toArray, List.set_cons_zero, List.set_cons_succ]
          refine wpAnyH_take (i := 3) (oi := { dst := some 65, op := .move (.tmp 5), type := 67, pos := "ref.go:44", after := #[], guard := none }) (v := ?_) rfl (by kernel_rfl) (by kernel_rfl) (by kernel_rfl) (fun _ _ _ h => h) (Or.inl ⟨by rfl, ?_⟩) hS ?_
          rotate_left 1
          · intro w hw; obtain s0 := hw; go_simp; try (with_reducible rfl)
          simp only [Act.put, List.setIfInBounds_toArray, List.set_cons_zero, List.set_cons_succ]
          refine wpAnyH_take (i := 4) (oi := { dst := some 66, op := .move (.tmp 10), type := 3, pos := "ref.go:44", after := #[], guard := none }) (v := ?_) rfl (by kernel_rfl) (by kernel_rfl) (by kernel_rfl) (fun _ _ _ h => h) (Or.inl ⟨by rfl, ?_⟩) hS ?_
          rotate_left 1
          · intro w hw; obtain s0 := hw; go_simp; try (with_reducible rfl)
          simp only [Act.put, List.setIfInBounds_toArray, List.set_cons_zero, List.set_cons_succ]
          refine wpAnyH_take (i := 5) (oi := { dst := some 67, op := .indexAddr 67 (.tmp 65) (.tmp 66), type := 0, pos := "ref.go:44", after := #[{ on := 3, ground := .data }, { on := 4, ground := .data }], guard := none }) (v := ?_) rfl (by kernel_rfl) (by kernel_rfl) (by kernel_rfl) (fun _ _ _ h => h) (Or.inl ⟨by rfl, ?_⟩) hS ?_
          rotate_left 1
          · intro w hw; obtain s0 := hw; have k0 : (q : Int) < (q : Int) + 1 := (by omega); go_simp; try (with_reducible rfl)
          simp only [Act.put, List.setIfInBounds_toArray, List.set_cons_zero, List.set_cons_succ]
          refine wpAnyH_take (i := 6) (oi := { dst := some 68, op := .fieldAddr 71 (.tmp 67) 2, type := 0, pos := "ref.go:44", after := #[{ on := 5, ground := .data }], guard := none }) (v := ?_) rfl (by kernel_rfl) (by kernel_rfl) (by kernel_rfl) (fun _ _ _ h => h) (Or.inl ⟨by rfl, ?_⟩) hS ?_
          rotate_left 1
          · intro w hw; obtain s0 := hw; go_simp; try (with_reducible rfl)
          simp only [Act.put, List.setIfInBounds_toArray, List.set_cons_zero, List.set_cons_succ]
          refine wpAnyH_take (i := 9) (oi := { dst := some 71, op := .move (.tmp 1), type := 63, pos := "ref.go:44", after := #[], guard := none }) (v := ?_) rfl (by kernel_rfl) (by kernel_rfl) (by kernel_rfl) (fun _ _ _ h => h) (Or.inl ⟨by rfl, ?_⟩) hS ?_
          rotate_left 1
          · intro w hw; obtain s0 := hw; go_simp; try (with_reducible rfl)
          simp only [Act.put, List.setIfInBounds_toArray, List.set_cons_zero, List.set_cons_succ]
          refine wpAnyH_take (i := 10) (oi := { dst := some 72, op := .move (.tmp 6), type := 3, pos := "ref.go:44", after := #[], guard := none }) (v := ?_) rfl (by kernel_rfl) (by kernel_rfl) (by kernel_rfl) (fun _ _ _ h => h) (Or.inl ⟨by rfl, ?_⟩) hS ?_
          rotate_left 1
          · intro w hw; obtain s0 := hw; go_simp; try (with_reducible rfl)
          simp only [Act.put, List.setIfInBounds_toArray, List.set_cons_zero, List.set_cons_succ]
          refine wpAnyH_take (i := 11) (oi := { dst := some 73, op := .indexAddr 63 (.tmp 71) (.tmp 72), type := 0, pos := "ref.go:44", after := #[{ on := 9, ground := .data }, { on := 10, ground := .data }], guard := none }) (v := ?_) rfl (by kernel_rfl) (by kernel_rfl) (by kernel_rfl) (fun _ _ _ h => h) (Or.inl ⟨by rfl, ?_⟩) hS ?_
          rotate_left 1
          · intro w hw; obtain s0 := hw; go_simp; try (with_reducible rfl)
          simp only [Act.put, List.setIfInBounds_toArray, List.set_cons_zero, List.set_cons_succ]
          refine wpAnyH_take (i := 12) (oi := { dst := some 74, op := .load 73 (.tmp 73), type := 73, pos := "ref.go:44", after := #[{ on := 11, ground := .data }], guard := none }) (v := ?_) rfl (by kernel_rfl) (by kernel_rfl) (by kernel_rfl) (fun _ _ _ h => h) (Or.inl ⟨by rfl, ?_⟩) hS ?_
          rotate_left 1
          · intro w hw; obtain s0 := hw; have k0 := HWd.out _ hw; go_simp; try (with_reducible rfl)
          simp only [Act.put, List.setIfInBounds_toArray, List.set_cons_zero, List.set_cons_succ]
          refine wpAnyH_ready (rs := [2, 7, 13]) (by kernel_rfl) (by simp) (AllReadyH.cons (o := { dst := some 64, op := .buildSlice 63 0 #[], type := 63, pos := "ref.go:44", after := #[], guard := none }) rfl (fun K hK => ?_) (AllReadyH.cons (o := { dst := some 69, op := .load 63 (.tmp 68), type := 63, pos := "ref.go:44", after := #[{ on := 6, ground := .data }], guard := none }) rfl (fun K hK => ?_) (AllReadyH.cons (o := { dst := some 75, op := .buildSlice 63 1 #[(0, .tmp 74)], type := 63, pos := "ref.go:44", after := #[{ on := 12, ground := .data }], guard := none }) rfl (fun K hK => ?_) AllReadyH.nil)))
          · go_simp
            obtain ⟨za, hza⟩ : ∃ b, b = (wd).heap.size := ⟨_, rfl⟩
            rw [← hza]
            generalize hwg1 : World.alloc _ _ = wg1
            have GB2 := Lib.hid (show Below wc.heap.size wc wg1 by rw [← hwg1]; exact HD.out.alloc HD.out.size _)
            have GA3 := Lib.hid (show wg1.ownsRow wc.heap.size 73 1 (.slice (some ⟨za, 0, none⟩) 0 0) 0 [] by rw [← hwg1, hza]; exact own_fresh wd wc.heap.size 73 1 HD.out.size)
            clear hwg1 hza
            refine hK.out _ _ (HwS.out _ GB2.out) (fun hHeld => ?_)
            clear hK K
            try simp only [Act.put, List.setIfInBounds_toArray, List.set_cons_zero, List.set_cons_succ]
            refine wpAnyH_ready (rs := [7, 13]) (by kernel_rfl) (by simp) (AllReadyH.cons (o := { dst := some 69, op := .load 63 (.tmp 68), type := 63, pos := "ref.go:44", after := #[{ on := 6, ground := .data }], guard := none }) rfl (fun K hK => ?_) (AllReadyH.cons (o := { dst := some 75, op := .buildSlice 63 1 #[(0, .tmp 74)], type := 63, pos := "ref.go:44", after := #[{ on := 12, ground := .data }], guard := none }) rfl (fun K hK => ?_) AllReadyH.nil))
            · have c4 := (HRw.out _ GB2.out).1
              go_simp
              clear c4
              refine hK.out _ _ (HwS.out _ GB2.out) (fun hHeld => ?_)
              clear hK K
              try simp only [Act.put, List.setIfInBounds_toArray, List.set_cons_zero, List.set_cons_succ]
              refine wpAnyH_ready (rs := [8, 13]) (by kernel_rfl) (by simp) (AllReadyH.cons (o := { dst := some 70, op := .call { callee := .builtin .append, args := #[.tmp 64, .tmp 69], argTypes := #[63, 63] }, type := 63, pos := "ref.go:44", after := #[{ on := 2, ground := .data }, { on := 7, ground := .data }], guard := none }) rfl (fun K hK => ?_) (AllReadyH.cons (o := { dst := some 75, op := .buildSlice 63 1 #[(0, .tmp 74)], type := 63, pos := "ref.go:44", after := #[{ on := 12, ground := .data }], guard := none }) rfl (fun K hK => ?_) AllReadyH.nil))
              · rw [if_pos (by rfl)]
                refine wp_append_vary (.tmp 64) (.tmp 69) 63 (by rfl) wc.heap.size 73 j0 (.int .u32 0) 1 4 Try.underlying63 hj ha0 ha1 ha2 rfl (by decide) (.slice (some ⟨za, 0, none⟩) 0 0) 0 [] (by rfl) GA3.out T.sp k2 T.c (rowU o.new) (by rfl) (by rw [rowU_len, HK2.out, Nat.mul_one]) (fun h => by rw [← HK2.out]; exact (HRw.out _ GB2.out).2.2.news.1 h) (HRw.out _ GB2.out).2.2.news.2 (rowU_one _) (by unfold maxLen; omega) (by omega) GB2.out.size ?_
                intro v8 wg5 hown hgrow hat
                rw [Nat.zero_add, List.nil_append] at hown
                obtain ⟨sp8, cap8, rfl⟩ := own_val hown
                have GB6 := Lib.hid (GB2.out.grown hgrow GB2.out.size (fun j hj => (GA3.out.lt j hj).1))
                have GO7 := Lib.hid hown
                clear hown hgrow hat
                refine hK.out _ _ (HwS.out _ GB6.out) (fun hHeld => ?_)
                clear hK K
                try simp only [Act.put, List.setIfInBounds_toArray, List.set_cons_zero, List.set_cons_succ]
                refine wpAnyH_ready (rs := [13]) (by kernel_rfl) (by simp) (AllReadyH.cons (o := { dst := some 75, op := .buildSlice 63 1 #[(0, .tmp 74)], type := 63, pos := "ref.go:44", after := #[{ on := 12, ground := .data }], guard := none }) rfl (fun K hK => ?_) AllReadyH.nil)
                go_simp
                obtain ⟨ze, hze⟩ : ∃ b, b = (wg5).heap.size := ⟨_, rfl⟩
                rw [← hze]
                generalize hwg8 : World.alloc _ _ = wg8
                have GB9 := Lib.hid (show Below wc.heap.size wc wg8 by rw [← hwg8]; exact GB6.out.alloc GB6.out.size _)
                have GE10 := Lib.hid (show wg8.ownsRow wc.heap.size 73 1 (.slice (some ⟨ze, 0, none⟩) 1 1) 1 [.int .u32 x] by rw [← hwg8, hze]; exact World.ownsRow_lit wg5 #[.int .u32 x] 1 GB6.out.size (by unfold maxLen; omega) rfl)
                have GO11 := Lib.hid (show wg8.ownsRow wc.heap.size 73 1 (.slice sp8 k2 cap8) k2 (rowU o.new) by rw [← hwg8]; exact GO7.out.alloc _)
                clear hwg8 hze
                refine hK.out _ _ (HwS.out _ GB9.out) (fun hHeld => ?_)
                clear hK K
                try simp only [Act.put, List.setIfInBounds_toArray, List.set_cons_zero, List.set_cons_succ]
                refine wpAnyH_ready (rs := [14]) (by kernel_rfl) (by simp) (AllReadyH.cons (o := { dst := some 76, op := .call { callee := .builtin .append, args := #[.tmp 70, .tmp 75], argTypes := #[63, 63] }, type := 63, pos := "ref.go:44", after := #[{ on := 8, ground := .data }, { on := 13, ground := .data }, { on := 8, ground := .chain }], guard := none }) rfl (fun K hK => ?_) AllReadyH.nil)
                rw [if_pos (by rfl)]
                refine wp_append_vary (.tmp 70) (.tmp 75) 63 (by rfl) wc.heap.size 73 j0 (.int .u32 0) 1 4 Try.underlying63 hj ha0 ha1 ha2 rfl (by decide) (.slice sp8 k2 cap8) k2 (rowU o.new) (by rfl) GO11.out (some ⟨ze, 0, none⟩) 1 1 [.int .u32 x] (by rfl) rfl (fun h => nomatch h) (fun ad h => by obtain rfl := Option.some.inj h; exact GE10.out.cells rfl) (by simp [Value.oneCell']) (by unfold maxLen; omega) (by omega) GB9.out.size ?_
                intro v14 wg12 hown hgrow hat
                obtain ⟨sp14, cap14, rfl⟩ := own_val hown
                have GB13 := Lib.hid (GB9.out.grown hgrow GB9.out.size (fun j hj => (GO11.out.lt j hj).1))
                have GR14 := Lib.hid hown
                clear hown hgrow hat
                refine hK.out _ _ (HwS.out _ GB13.out) (fun hHeld => ?_)
                clear hK K
                try simp only [Act.put, List.setIfInBounds_toArray, List.set_cons_zero, List.set_cons_succ]
                refine wpAnyH_take (i := 15) (oi := { dst := some 77, op := .indexAddr 67 (.tmp 62) (.tmp 63), type := 0, pos := "ref.go:44", after := #[{ on := 0, ground := .data }, { on := 1, ground := .data }, { on := 0, ground := .phase }, { on := 1, ground := .phase }, { on := 2, ground := .phase }, { on := 3, ground := .phase }, { on := 4, ground := .phase }, { on := 5, ground := .phase }, { on := 6, ground := .phase }, { on := 7, ground := .phase }, { on := 8, ground := .phase }, { on := 9, ground := .phase }, { on := 10, ground := .phase }, { on := 11, ground := .phase }, { on := 12, ground := .phase }, { on := 13, ground := .phase }, { on := 14, ground := .phase }], guard := none }) (v := ?_) rfl (by kernel_rfl) (by kernel_rfl) (by kernel_rfl) (fun _ _ _ h => h) (Or.inl ⟨by rfl, ?_⟩) (HwS.out _ GB13.out) ?_
                rotate_left 1
                · intro w hw; obtain s0 := hw; have k0 : (q : Int) < (q : Int) + 1 := (by omega); go_simp; try (with_reducible rfl)
                simp only [Act.put, List.setIfInBounds_toArray, List.set_cons_zero, List.set_cons_succ]
                refine wpAnyH_take (i := 16) (oi := { dst := some 78, op := .fieldAddr 71 (.tmp 77) 2, type := 0, pos := "ref.go:44", after := #[{ on := 15, ground := .data }, { on := 0, ground := .phase }, { on := 1, ground := .phase }, { on := 2, ground := .phase }, { on := 3, ground := .phase }, { on := 4, ground := .phase }, { on := 5, ground := .phase }, { on := 6, ground := .phase }, { on := 7, ground := .phase }, { on := 8, ground := .phase }, { on := 9, ground := .phase }, { on := 10, ground := .phase }, { on := 11, ground := .phase }, { on := 12, ground := .phase }, { on := 13, ground := .phase }, { on := 14, ground := .phase }], guard := none }) (v := ?_) rfl (by kernel_rfl) (by kernel_rfl) (by kernel_rfl) (fun _ _ _ h => h) (Or.inl ⟨by rfl, ?_⟩) (HwS.out _ GB13.out) ?_
                rotate_left 1
                · intro w hw; obtain s0 := hw; go_simp; try (with_reducible rfl)
                simp only [Act.put, List.setIfInBounds_toArray, List.set_cons_zero, List.set_cons_succ]
                refine wpAnyH_ready (rs := [17]) (by kernel_rfl) (by simp) (AllReadyH.cons (o := { dst := none, op := .store 63 (.tmp 78) (.tmp 76), type := 0, pos := "ref.go:44", after := #[{ on := 16, ground := .data }, { on := 14, ground := .data }, { on := 14, ground := .chain }, { on := 0, ground := .phase }, { on := 1, ground := .phase }, { on := 2, ground := .phase }, { on := 3, ground := .phase }, { on := 4, ground := .phase }, { on := 5, ground := .phase }, { on := 6, ground := .phase }, { on := 7, ground := .phase }, { on := 8, ground := .phase }, { on := 9, ground := .phase }, { on := 10, ground := .phase }, { on := 11, ground := .phase }, { on := 12, ground := .phase }, { on := 13, ground := .phase }, { on := 14, ground := .phase }], guard := none }) rfl (fun K hK => ?_) AllReadyH.nil)
                have c15 := (HRw.out _ GB13.out).1
                have c15f := (HRw.out _ GB13.out).2.1
                have GF16 := Lib.hid (HSet.out _ _ GB13.out GR14.out)
                go_simp
                clear c15 c15f
                refine hK.out _ _ GF16.out.2 (fun hHeld => ?_)
                clear hK K
                try simp only [Act.put, List.setIfInBounds_toArray, List.set_cons_zero, List.set_cons_succ]
                refine wpAnyH_done (by kernel_rfl) ?_ _
                go_wp2
                go_meet
                case rel => exact ⟨_, GF16.out.1, GF16.out.2⟩
              · go_simp
                obtain ⟨ze, hze⟩ : ∃ b, b = (wg1).heap.size := ⟨_, rfl⟩
                rw [← hze]
                generalize hwg17 : World.alloc _ _ = wg17
                have GB18 := Lib.hid (show Below wc.heap.size wc wg17 by rw [← hwg17]; exact GB2.out.alloc GB2.out.size _)
                have GE19 := Lib.hid (show wg17.ownsRow wc.heap.size 73 1 (.slice (some ⟨ze, 0, none⟩) 1 1) 1 [.int .u32 x] by rw [← hwg17, hze]; exact World.ownsRow_lit wg1 #[.int .u32 x] 1 GB2.out.size (by unfold maxLen; omega) rfl)
                have GA20 := Lib.hid (show wg17.ownsRow wc.heap.size 73 1 (.slice (some ⟨za, 0, none⟩) 0 0) 0 [] by rw [← hwg17]; exact GA3.out.alloc _)
                have hne := Lib.hid (show ze ≠ za by have := (GA3.out.lt za rfl).2; omega)
                clear hwg17 hze
                refine hK.out _ _ (HwS.out _ GB18.out) (fun hHeld => ?_)
                clear hK K
                try simp only [Act.put, List.setIfInBounds_toArray, List.set_cons_zero, List.set_cons_succ]
                refine wpAnyH_ready (rs := [8]) (by kernel_rfl) (by simp) (AllReadyH.cons (o := { dst := some 70, op := .call { callee := .builtin .append, args := #[.tmp 64, .tmp 69], argTypes := #[63, 63] }, type := 63, pos := "ref.go:44", after := #[{ on := 2, ground := .data }, { on := 7, ground := .data }], guard := none }) rfl (fun K hK => ?_) AllReadyH.nil)
                rw [if_pos (by rfl)]
                refine wp_append_vary (.tmp 64) (.tmp 69) 63 (by rfl) wc.heap.size 73 j0 (.int .u32 0) 1 4 Try.underlying63 hj ha0 ha1 ha2 rfl (by decide) (.slice (some ⟨za, 0, none⟩) 0 0) 0 [] (by rfl) GA20.out T.sp k2 T.c (rowU o.new) (by rfl) (by rw [rowU_len, HK2.out, Nat.mul_one]) (fun h => by rw [← HK2.out]; exact (HRw.out _ GB18.out).2.2.news.1 h) (HRw.out _ GB18.out).2.2.news.2 (rowU_one _) (by unfold maxLen; omega) (by omega) GB18.out.size ?_
                intro v8 wg21 hown hgrow hat
                rw [Nat.zero_add, List.nil_append] at hown
                obtain ⟨sp8, cap8, rfl⟩ := own_val hown
                have GB22 := Lib.hid (GB18.out.grown hgrow GB18.out.size (fun j hj => (GA20.out.lt j hj).1))
                have GO23 := Lib.hid hown
                have GE24 := Lib.hid (GE19.out.kept hgrow (.inr (fun e => hne.out (by simpa [Value.ownBlock] using e))))
                clear hown hgrow hat
                refine hK.out _ _ (HwS.out _ GB22.out) (fun hHeld => ?_)
                clear hK K
                try simp only [Act.put, List.setIfInBounds_toArray, List.set_cons_zero, List.set_cons_succ]
                refine wpAnyH_ready (rs := [14]) (by kernel_rfl) (by simp) (AllReadyH.cons (o := { dst := some 76, op := .call { callee := .builtin .append, args := #[.tmp 70, .tmp 75], argTypes := #[63, 63] }, type := 63, pos := "ref.go:44", after := #[{ on := 8, ground := .data }, { on := 13, ground := .data }, { on := 8, ground := .chain }], guard := none }) rfl (fun K hK => ?_) AllReadyH.nil)
                rw [if_pos (by rfl)]
                refine wp_append_vary (.tmp 70) (.tmp 75) 63 (by rfl) wc.heap.size 73 j0 (.int .u32 0) 1 4 Try.underlying63 hj ha0 ha1 ha2 rfl (by decide) (.slice sp8 k2 cap8) k2 (rowU o.new) (by rfl) GO23.out (some ⟨ze, 0, none⟩) 1 1 [.int .u32 x] (by rfl) rfl (fun h => nomatch h) (fun ad h => by obtain rfl := Option.some.inj h; exact GE24.out.cells rfl) (by simp [Value.oneCell']) (by unfold maxLen; omega) (by omega) GB22.out.size ?_
                intro v14 wg25 hown hgrow hat
                obtain ⟨sp14, cap14, rfl⟩ := own_val hown
                have GB26 := Lib.hid (GB22.out.grown hgrow GB22.out.size (fun j hj => (GO23.out.lt j hj).1))
                have GR27 := Lib.hid hown
                clear hown hgrow hat
                refine hK.out _ _ (HwS.out _ GB26.out) (fun hHeld => ?_)
                clear hK K
                try simp only [Act.put, List.setIfInBounds_toArray, List.set_cons_zero, List.set_cons_succ]
                refine wpAnyH_take (i := 15) (oi := { dst := some 77, op := .indexAddr 67 (.tmp 62) (.tmp 63), type := 0, pos := "ref.go:44", after := #[{ on := 0, ground := .data }, { on := 1, ground := .data }, { on := 0, ground := .phase }, { on := 1, ground := .phase }, { on := 2, ground := .phase }, { on := 3, ground := .phase }, { on := 4, ground := .phase }, { on := 5, ground := .phase }, { on := 6, ground := .phase }, { on := 7, ground := .phase }, { on := 8, ground := .phase }, { on := 9, ground := .phase }, { on := 10, ground := .phase }, { on := 11, ground := .phase }, { on := 12, ground := .phase }, { on := 13, ground := .phase }, { on := 14, ground := .phase }], guard := none }) (v := ?_) rfl (by kernel_rfl) (by kernel_rfl) (by kernel_rfl) (fun _ _ _ h => h) (Or.inl ⟨by rfl, ?_⟩) (HwS.out _ GB26.out) ?_
                rotate_left 1
                · intro w hw; obtain s0 := hw; have k0 : (q : Int) < (q : Int) + 1 := (by omega); go_simp; try (with_reducible rfl)
                simp only [Act.put, List.setIfInBounds_toArray, List.set_cons_zero, List.set_cons_succ]
                refine wpAnyH_take (i := 16) (oi := { dst := some 78, op := .fieldAddr 71 (.tmp 77) 2, type := 0, pos := "ref.go:44", after := #[{ on := 15, ground := .data }, { on := 0, ground := .phase }, { on := 1, ground := .phase }, { on := 2, ground := .phase }, { on := 3, ground := .phase }, { on := 4, ground := .phase }, { on := 5, ground := .phase }, { on := 6, ground := .phase }, { on := 7, ground := .phase }, { on := 8, ground := .phase }, { on := 9, ground := .phase }, { on := 10, ground := .phase }, { on := 11, ground := .phase }, { on := 12, ground := .phase }, { on := 13, ground := .phase }, { on := 14, ground := .phase }], guard := none }) (v := ?_) rfl (by kernel_rfl) (by kernel_rfl) (by kernel_rfl) (fun _ _ _ h => h) (Or.inl ⟨by rfl, ?_⟩) (HwS.out _ GB26.out) ?_
                rotate_left 1
                · intro w hw; obtain s0 := hw; go_simp; try (with_reducible rfl)
                simp only [Act.put, List.setIfInBounds_toArray, List.set_cons_zero, List.set_cons_succ]
                refine wpAnyH_ready (rs := [17]) (by kernel_rfl) (by simp) (AllReadyH.cons (o := { dst := none, op := .store 63 (.tmp 78) (.tmp 76), type := 0, pos := "ref.go:44", after := #[{ on := 16, ground := .data }, { on := 14, ground := .data }, { on := 14, ground := .chain }, { on := 0, ground := .phase }, { on := 1, ground := .phase }, { on := 2, ground := .phase }, { on := 3, ground := .phase }, { on := 4, ground := .phase }, { on := 5, ground := .phase }, { on := 6, ground := .phase }, { on := 7, ground := .phase }, { on := 8, ground := .phase }, { on := 9, ground := .phase }, { on := 10, ground := .phase }, { on := 11, ground := .phase }, { on := 12, ground := .phase }, { on := 13, ground := .phase }, { on := 14, ground := .phase }], guard := none }) rfl (fun K hK => ?_) AllReadyH.nil)
                have c28 := (HRw.out _ GB26.out).1
                have c28f := (HRw.out _ GB26.out).2.1
                have GF29 := Lib.hid (HSet.out _ _ GB26.out GR27.out)
                go_simp
                clear c28 c28f
                refine hK.out _ _ GF29.out.2 (fun hHeld => ?_)
                clear hK K
                try simp only [Act.put, List.setIfInBounds_toArray, List.set_cons_zero, List.set_cons_succ]
                refine wpAnyH_done (by kernel_rfl) ?_ _
                go_wp2
                go_meet
                case rel => exact ⟨_, GF29.out.1, GF29.out.2⟩
            · go_simp
              obtain ⟨ze, hze⟩ : ∃ b, b = (wg1).heap.size := ⟨_, rfl⟩
              rw [← hze]
              generalize hwg30 : World.alloc _ _ = wg30
              have GB31 := Lib.hid (show Below wc.heap.size wc wg30 by rw [← hwg30]; exact GB2.out.alloc GB2.out.size _)
              have GE32 := Lib.hid (show wg30.ownsRow wc.heap.size 73 1 (.slice (some ⟨ze, 0, none⟩) 1 1) 1 [.int .u32 x] by rw [← hwg30, hze]; exact World.ownsRow_lit wg1 #[.int .u32 x] 1 GB2.out.size (by unfold maxLen; omega) rfl)
              have GA33 := Lib.hid (show wg30.ownsRow wc.heap.size 73 1 (.slice (some ⟨za, 0, none⟩) 0 0) 0 [] by rw [← hwg30]; exact GA3.out.alloc _)
              have hne := Lib.hid (show ze ≠ za by have := (GA3.out.lt za rfl).2; omega)
              clear hwg30 hze
              refine hK.out _ _ (HwS.out _ GB31.out) (fun hHeld => ?_)
              clear hK K
              try simp only [Act.put, List.setIfInBounds_toArray, List.set_cons_zero, List.set_cons_succ]
              refine wpAnyH_ready (rs := [7]) (by kernel_rfl) (by simp) (AllReadyH.cons (o := { dst := some 69, op := .load 63 (.tmp 68), type := 63, pos := "ref.go:44", after := #[{ on := 6, ground := .data }], guard := none }) rfl (fun K hK => ?_) AllReadyH.nil)
              have c34 := (HRw.out _ GB31.out).1
              go_simp
              clear c34
              refine hK.out _ _ (HwS.out _ GB31.out) (fun hHeld => ?_)
              clear hK K
              try simp only [Act.put, List.setIfInBounds_toArray, List.set_cons_zero, List.set_cons_succ]
              refine wpAnyH_ready (rs := [8]) (by kernel_rfl) (by simp) (AllReadyH.cons (o := { dst := some 70, op := .call { callee := .builtin .append, args := #[.tmp 64, .tmp 69], argTypes := #[63, 63] }, type := 63, pos := "ref.go:44", after := #[{ on := 2, ground := .data }, { on := 7, ground := .data }], guard := none }) rfl (fun K hK => ?_) AllReadyH.nil)
              rw [if_pos (by rfl)]
              refine wp_append_vary (.tmp 64) (.tmp 69) 63 (by rfl) wc.heap.size 73 j0 (.int .u32 0) 1 4 Try.underlying63 hj ha0 ha1 ha2 rfl (by decide) (.slice (some ⟨za, 0, none⟩) 0 0) 0 [] (by rfl) GA33.out T.sp k2 T.c (rowU o.new) (by rfl) (by rw [rowU_len, HK2.out, Nat.mul_one]) (fun h => by rw [← HK2.out]; exact (HRw.out _ GB31.out).2.2.news.1 h) (HRw.out _ GB31.out).2.2.news.2 (rowU_one _) (by unfold maxLen; omega) (by omega) GB31.out.size ?_
              intro v8 wg35 hown hgrow hat
              rw [Nat.zero_add, List.nil_append] at hown
              obtain ⟨sp8, cap8, rfl⟩ := own_val hown
              have GB36 := Lib.hid (GB31.out.grown hgrow GB31.out.size (fun j hj => (GA33.out.lt j hj).1))
              have GO37 := Lib.hid hown
              have GE38 := Lib.hid (GE32.out.kept hgrow (.inr (fun e => hne.out (by simpa [Value.ownBlock] using e))))
              clear hown hgrow hat
              refine hK.out _ _ (HwS.out _ GB36.out) (fun hHeld => ?_)
              clear hK K
              try simp only [Act.put, List.setIfInBounds_toArray, List.set_cons_zero, List.set_cons_succ]
              refine wpAnyH_ready (rs := [14]) (by kernel_rfl) (by simp) (AllReadyH.cons (o := { dst := some 76, op := .call { callee := .builtin .append, args := #[.tmp 70, .tmp 75], argTypes := #[63, 63] }, type := 63, pos := "ref.go:44", after := #[{ on := 8, ground := .data }, { on := 13, ground := .data }, { on := 8, ground := .chain }], guard := none }) rfl (fun K hK => ?_) AllReadyH.nil)
              rw [if_pos (by rfl)]
              refine wp_append_vary (.tmp 70) (.tmp 75) 63 (by rfl) wc.heap.size 73 j0 (.int .u32 0) 1 4 Try.underlying63 hj ha0 ha1 ha2 rfl (by decide) (.slice sp8 k2 cap8) k2 (rowU o.new) (by rfl) GO37.out (some ⟨ze, 0, none⟩) 1 1 [.int .u32 x] (by rfl) rfl (fun h => nomatch h) (fun ad h => by obtain rfl := Option.some.inj h; exact GE38.out.cells rfl) (by simp [Value.oneCell']) (by unfold maxLen; omega) (by omega) GB36.out.size ?_
              intro v14 wg39 hown hgrow hat
              obtain ⟨sp14, cap14, rfl⟩ := own_val hown
              have GB40 := Lib.hid (GB36.out.grown hgrow GB36.out.size (fun j hj => (GO37.out.lt j hj).1))
              have GR41 := Lib.hid hown
              clear hown hgrow hat
              refine hK.out _ _ (HwS.out _ GB40.out) (fun hHeld => ?_)
              clear hK K
              try simp only [Act.put, List.setIfInBounds_toArray, List.set_cons_zero, List.set_cons_succ]
              refine wpAnyH_take (i := 15) (oi := { dst := some 77, op := .indexAddr 67 (.tmp 62) (.tmp 63), type := 0, pos := "ref.go:44", after := #[{ on := 0, ground := .data }, { on := 1, ground := .data }, { on := 0, ground := .phase }, { on := 1, ground := .phase }, { on := 2, ground := .phase }, { on := 3, ground := .phase }, { on := 4, ground := .phase }, { on := 5, ground := .phase }, { on := 6, ground := .phase }, { on := 7, ground := .phase }, { on := 8, ground := .phase }, { on := 9, ground := .phase }, { on := 10, ground := .phase }, { on := 11, ground := .phase }, { on := 12, ground := .phase }, { on := 13, ground := .phase }, { on := 14, ground := .phase }], guard := none }) (v := ?_) rfl (by kernel_rfl) (by kernel_rfl) (by kernel_rfl) (fun _ _ _ h => h) (Or.inl ⟨by rfl, ?_⟩) (HwS.out _ GB40.out) ?_
              rotate_left 1
              · intro w hw; obtain s0 := hw; have k0 : (q : Int) < (q : Int) + 1 := (by omega); go_simp; try (with_reducible rfl)
              simp only [Act.put, List.setIfInBounds_toArray, List.set_cons_zero, List.set_cons_succ]
              refine wpAnyH_take (i := 16) (oi := { dst := some 78, op := .fieldAddr 71 (.tmp 77) 2, type := 0, pos := "ref.go:44", after := #[{ on := 15, ground := .data }, { on := 0, ground := .phase }, { on := 1, ground := .phase }, { on := 2, ground := .phase }, { on := 3, ground := .phase }, { on := 4, ground := .phase }, { on := 5, ground := .phase }, { on := 6, ground := .phase }, { on := 7, ground := .phase }, { on := 8, ground := .phase }, { on := 9, ground := .phase }, { on := 10, ground := .phase }, { on := 11, ground := .phase }, { on := 12, ground := .phase }, { on := 13, ground := .phase }, { on := 14, ground := .phase }], guard := none }) (v := ?_) rfl (by kernel_rfl) (by kernel_rfl) (by kernel_rfl) (fun _ _ _ h => h) (Or.inl ⟨by rfl, ?_⟩) (HwS.out _ GB40.out) ?_
              rotate_left 1
              · intro w hw; obtain s0 := hw; go_simp; try (with_reducible rfl)
              simp only [Act.put, List.setIfInBounds_toArray, List.set_cons_zero, List.set_cons_succ]
              refine wpAnyH_ready (rs := [17]) (by kernel_rfl) (by simp) (AllReadyH.cons (o := { dst := none, op := .store 63 (.tmp 78) (.tmp 76), type := 0, pos := "ref.go:44", after := #[{ on := 16, ground := .data }, { on := 14, ground := .data }, { on := 14, ground := .chain }, { on := 0, ground := .phase }, { on := 1, ground := .phase }, { on := 2, ground := .phase }, { on := 3, ground := .phase }, { on := 4, ground := .phase }, { on := 5, ground := .phase }, { on := 6, ground := .phase }, { on := 7, ground := .phase }, { on := 8, ground := .phase }, { on := 9, ground := .phase }, { on := 10, ground := .phase }, { on := 11, ground := .phase }, { on := 12, ground := .phase }, { on := 13, ground := .phase }, { on := 14, ground := .phase }], guard := none }) rfl (fun K hK => ?_) AllReadyH.nil)
              have c42 := (HRw.out _ GB40.out).1
              have c42f := (HRw.out _ GB40.out).2.1
              have GF43 := Lib.hid (HSet.out _ _ GB40.out GR41.out)
              go_simp
              clear c42 c42f
              refine hK.out _ _ GF43.out.2 (fun hHeld => ?_)
              clear hK K
              try simp only [Act.put, List.setIfInBounds_toArray, List.set_cons_zero, List.set_cons_succ]
              refine wpAnyH_done (by kernel_rfl) ?_ _
              go_wp2
              go_meet
              case rel => exact ⟨_, GF43.out.1, GF43.out.2⟩
          · have c44 := (HRw.out _ HD.out).1
            go_simp
            clear c44
            refine hK.out _ _ (HwS.out _ HD.out) (fun hHeld => ?_)
            clear hK K
            try simp only [Act.put, List.setIfInBounds_toArray, List.set_cons_zero, List.set_cons_succ]
            refine wpAnyH_ready (rs := [2, 13]) (by kernel_rfl) (by simp) (AllReadyH.cons (o := { dst := some 64, op := .buildSlice 63 0 #[], type := 63, pos := "ref.go:44", after := #[], guard := none }) rfl (fun K hK => ?_) (AllReadyH.cons (o := { dst := some 75, op := .buildSlice 63 1 #[(0, .tmp 74)], type := 63, pos := "ref.go:44", after := #[{ on := 12, ground := .data }], guard := none }) rfl (fun K hK => ?_) AllReadyH.nil))
            · go_simp
              obtain ⟨za, hza⟩ : ∃ b, b = (wd).heap.size := ⟨_, rfl⟩
              rw [← hza]
              generalize hwg45 : World.alloc _ _ = wg45
              have GB46 := Lib.hid (show Below wc.heap.size wc wg45 by rw [← hwg45]; exact HD.out.alloc HD.out.size _)
              have GA47 := Lib.hid (show wg45.ownsRow wc.heap.size 73 1 (.slice (some ⟨za, 0, none⟩) 0 0) 0 [] by rw [← hwg45, hza]; exact own_fresh wd wc.heap.size 73 1 HD.out.size)
              clear hwg45 hza
              refine hK.out _ _ (HwS.out _ GB46.out) (fun hHeld => ?_)
              clear hK K
              try simp only [Act.put, List.setIfInBounds_toArray, List.set_cons_zero, List.set_cons_succ]
              refine wpAnyH_ready (rs := [8, 13]) (by kernel_rfl) (by simp) (AllReadyH.cons (o := { dst := some 70, op := .call { callee := .builtin .append, args := #[.tmp 64, .tmp 69], argTypes := #[63, 63] }, type := 63, pos := "ref.go:44", after := #[{ on := 2, ground := .data }, { on := 7, ground := .data }], guard := none }) rfl (fun K hK => ?_) (AllReadyH.cons (o := { dst := some 75, op := .buildSlice 63 1 #[(0, .tmp 74)], type := 63, pos := "ref.go:44", after := #[{ on := 12, ground := .data }], guard := none }) rfl (fun K hK => ?_) AllReadyH.nil))
              · rw [if_pos (by rfl)]
                refine wp_append_vary (.tmp 64) (.tmp 69) 63 (by rfl) wc.heap.size 73 j0 (.int .u32 0) 1 4 Try.underlying63 hj ha0 ha1 ha2 rfl (by decide) (.slice (some ⟨za, 0, none⟩) 0 0) 0 [] (by rfl) GA47.out T.sp k2 T.c (rowU o.new) (by rfl) (by rw [rowU_len, HK2.out, Nat.mul_one]) (fun h => by rw [← HK2.out]; exact (HRw.out _ GB46.out).2.2.news.1 h) (HRw.out _ GB46.out).2.2.news.2 (rowU_one _) (by unfold maxLen; omega) (by omega) GB46.out.size ?_
                intro v8 wg48 hown hgrow hat
                rw [Nat.zero_add, List.nil_append] at hown
                obtain ⟨sp8, cap8, rfl⟩ := own_val hown
                have GB49 := Lib.hid (GB46.out.grown hgrow GB46.out.size (fun j hj => (GA47.out.lt j hj).1))
                have GO50 := Lib.hid hown
                clear hown hgrow hat
                refine hK.out _ _ (HwS.out _ GB49.out) (fun hHeld => ?_)
                clear hK K
                try simp only [Act.put, List.setIfInBounds_toArray, List.set_cons_zero, List.set_cons_succ]
                refine wpAnyH_ready (rs := [13]) (by kernel_rfl) (by simp) (AllReadyH.cons (o := { dst := some 75, op := .buildSlice 63 1 #[(0, .tmp 74)], type := 63, pos := "ref.go:44", after := #[{ on := 12, ground := .data }], guard := none }) rfl (fun K hK => ?_) AllReadyH.nil)
                go_simp
                obtain ⟨ze, hze⟩ : ∃ b, b = (wg48).heap.size := ⟨_, rfl⟩
                rw [← hze]
                generalize hwg51 : World.alloc _ _ = wg51
                have GB52 := Lib.hid (show Below wc.heap.size wc wg51 by rw [← hwg51]; exact GB49.out.alloc GB49.out.size _)
                have GE53 := Lib.hid (show wg51.ownsRow wc.heap.size 73 1 (.slice (some ⟨ze, 0, none⟩) 1 1) 1 [.int .u32 x] by rw [← hwg51, hze]; exact World.ownsRow_lit wg48 #[.int .u32 x] 1 GB49.out.size (by unfold maxLen; omega) rfl)
                have GO54 := Lib.hid (show wg51.ownsRow wc.heap.size 73 1 (.slice sp8 k2 cap8) k2 (rowU o.new) by rw [← hwg51]; exact GO50.out.alloc _)
                clear hwg51 hze
                refine hK.out _ _ (HwS.out _ GB52.out) (fun hHeld => ?_)
                clear hK K
                try simp only [Act.put, List.setIfInBounds_toArray, List.set_cons_zero, List.set_cons_succ]
                refine wpAnyH_ready (rs := [14]) (by kernel_rfl) (by simp) (AllReadyH.cons (o := { dst := some 76, op := .call { callee := .builtin .append, args := #[.tmp 70, .tmp 75], argTypes := #[63, 63] }, type := 63, pos := "ref.go:44", after := #[{ on := 8, ground := .data }, { on := 13, ground := .data }, { on := 8, ground := .chain }], guard := none }) rfl (fun K hK => ?_) AllReadyH.nil)
                rw [if_pos (by rfl)]
                refine wp_append_vary (.tmp 70) (.tmp 75) 63 (by rfl) wc.heap.size 73 j0 (.int .u32 0) 1 4 Try.underlying63 hj ha0 ha1 ha2 rfl (by decide) (.slice sp8 k2 cap8) k2 (rowU o.new) (by rfl) GO54.out (some ⟨ze, 0, none⟩) 1 1 [.int .u32 x] (by rfl) rfl (fun h => nomatch h) (fun ad h => by obtain rfl := Option.some.inj h; exact GE53.out.cells rfl) (by simp [Value.oneCell']) (by unfold maxLen; omega) (by omega) GB52.out.size ?_
                intro v14 wg55 hown hgrow hat
                obtain ⟨sp14, cap14, rfl⟩ := own_val hown
                have GB56 := Lib.hid (GB52.out.grown hgrow GB52.out.size (fun j hj => (GO54.out.lt j hj).1))
                have GR57 := Lib.hid hown
                clear hown hgrow hat
                refine hK.out _ _ (HwS.out _ GB56.out) (fun hHeld => ?_)
                clear hK K
                try simp only [Act.put, List.setIfInBounds_toArray, List.set_cons_zero, List.set_cons_succ]
                refine wpAnyH_take (i := 15) (oi := { dst := some 77, op := .indexAddr 67 (.tmp 62) (.tmp 63), type := 0, pos := "ref.go:44", after := #[{ on := 0, ground := .data }, { on := 1, ground := .data }, { on := 0, ground := .phase }, { on := 1, ground := .phase }, { on := 2, ground := .phase }, { on := 3, ground := .phase }, { on := 4, ground := .phase }, { on := 5, ground := .phase }, { on := 6, ground := .phase }, { on := 7, ground := .phase }, { on := 8, ground := .phase }, { on := 9, ground := .phase }, { on := 10, ground := .phase }, { on := 11, ground := .phase }, { on := 12, ground := .phase }, { on := 13, ground := .phase }, { on := 14, ground := .phase }], guard := none }) (v := ?_) rfl (by kernel_rfl) (by kernel_rfl) (by kernel_rfl) (fun _ _ _ h => h) (Or.inl ⟨by rfl, ?_⟩) (HwS.out _ GB56.out) ?_
                rotate_left 1
                · intro w hw; obtain s0 := hw; have k0 : (q : Int) < (q : Int) + 1 := (by omega); go_simp; try (with_reducible rfl)
                simp only [Act.put, List.setIfInBounds_toArray, List.set_cons_zero, List.set_cons_succ]
                refine wpAnyH_take (i := 16) (oi := { dst := some 78, op := .fieldAddr 71 (.tmp 77) 2, type := 0, pos := "ref.go:44", after := #[{ on := 15, ground := .data }, { on := 0, ground := .phase }, { on := 1, ground := .phase }, { on := 2, ground := .phase }, { on := 3, ground := .phase }, { on := 4, ground := .phase }, { on := 5, ground := .phase }, { on := 6, ground := .phase }, { on := 7, ground := .phase }, { on := 8, ground := .phase }, { on := 9, ground := .phase }, { on := 10, ground := .phase }, { on := 11, ground := .phase }, { on := 12, ground := .phase }, { on := 13, ground := .phase }, { on := 14, ground := .phase }], guard := none }) (v := ?_) rfl (by kernel_rfl) (by kernel_rfl) (by kernel_rfl) (fun _ _ _ h => h) (Or.inl ⟨by rfl, ?_⟩) (HwS.out _ GB56.out) ?_
                rotate_left 1
                · intro w hw; obtain s0 := hw; go_simp; try (with_reducible rfl)
                simp only [Act.put, List.setIfInBounds_toArray, List.set_cons_zero, List.set_cons_succ]
                refine wpAnyH_ready (rs := [17]) (by kernel_rfl) (by simp) (AllReadyH.cons (o := { dst := none, op := .store 63 (.tmp 78) (.tmp 76), type := 0, pos := "ref.go:44", after := #[{ on := 16, ground := .data }, { on := 14, ground := .data }, { on := 14, ground := .chain }, { on := 0, ground := .phase }, { on := 1, ground := .phase }, { on := 2, ground := .phase }, { on := 3, ground := .phase }, { on := 4, ground := .phase }, { on := 5, ground := .phase }, { on := 6, ground := .phase }, { on := 7, ground := .phase }, { on := 8, ground := .phase }, { on := 9, ground := .phase }, { on := 10, ground := .phase }, { on := 11, ground := .phase }, { on := 12, ground := .phase }, { on := 13, ground := .phase }, { on := 14, ground := .phase }], guard := none }) rfl (fun K hK => ?_) AllReadyH.nil)
                have c58 := (HRw.out _ GB56.out).1
                have c58f := (HRw.out _ GB56.out).2.1
                have GF59 := Lib.hid (HSet.out _ _ GB56.out GR57.out)
                go_simp
                clear c58 c58f
                refine hK.out _ _ GF59.out.2 (fun hHeld => ?_)
                clear hK K
                try simp only [Act.put, List.setIfInBounds_toArray, List.set_cons_zero, List.set_cons_succ]
                refine wpAnyH_done (by kernel_rfl) ?_ _
                go_wp2
                go_meet
                case rel => exact ⟨_, GF59.out.1, GF59.out.2⟩
              · go_simp
                obtain ⟨ze, hze⟩ : ∃ b, b = (wg45).heap.size := ⟨_, rfl⟩
                rw [← hze]
                generalize hwg60 : World.alloc _ _ = wg60
                have GB61 := Lib.hid (show Below wc.heap.size wc wg60 by rw [← hwg60]; exact GB46.out.alloc GB46.out.size _)
                have GE62 := Lib.hid (show wg60.ownsRow wc.heap.size 73 1 (.slice (some ⟨ze, 0, none⟩) 1 1) 1 [.int .u32 x] by rw [← hwg60, hze]; exact World.ownsRow_lit wg45 #[.int .u32 x] 1 GB46.out.size (by unfold maxLen; omega) rfl)
                have GA63 := Lib.hid (show wg60.ownsRow wc.heap.size 73 1 (.slice (some ⟨za, 0, none⟩) 0 0) 0 [] by rw [← hwg60]; exact GA47.out.alloc _)
                have hne := Lib.hid (show ze ≠ za by have := (GA47.out.lt za rfl).2; omega)
                clear hwg60 hze
                refine hK.out _ _ (HwS.out _ GB61.out) (fun hHeld => ?_)
                clear hK K
                try simp only [Act.put, List.setIfInBounds_toArray, List.set_cons_zero, List.set_cons_succ]
                refine wpAnyH_ready (rs := [8]) (by kernel_rfl) (by simp) (AllReadyH.cons (o := { dst := some 70, op := .call { callee := .builtin .append, args := #[.tmp 64, .tmp 69], argTypes := #[63, 63] }, type := 63, pos := "ref.go:44", after := #[{ on := 2, ground := .data }, { on := 7, ground := .data }], guard := none }) rfl (fun K hK => ?_) AllReadyH.nil)
                rw [if_pos (by rfl)]
                refine wp_append_vary (.tmp 64) (.tmp 69) 63 (by rfl) wc.heap.size 73 j0 (.int .u32 0) 1 4 Try.underlying63 hj ha0 ha1 ha2 rfl (by decide) (.slice (some ⟨za, 0, none⟩) 0 0) 0 [] (by rfl) GA63.out T.sp k2 T.c (rowU o.new) (by rfl) (by rw [rowU_len, HK2.out, Nat.mul_one]) (fun h => by rw [← HK2.out]; exact (HRw.out _ GB61.out).2.2.news.1 h) (HRw.out _ GB61.out).2.2.news.2 (rowU_one _) (by unfold maxLen; omega) (by omega) GB61.out.size ?_
                intro v8 wg64 hown hgrow hat
                rw [Nat.zero_add, List.nil_append] at hown
                obtain ⟨sp8, cap8, rfl⟩ := own_val hown
                have GB65 := Lib.hid (GB61.out.grown hgrow GB61.out.size (fun j hj => (GA63.out.lt j hj).1))
                have GO66 := Lib.hid hown
                have GE67 := Lib.hid (GE62.out.kept hgrow (.inr (fun e => hne.out (by simpa [Value.ownBlock] using e))))
                clear hown hgrow hat
                refine hK.out _ _ (HwS.out _ GB65.out) (fun hHeld => ?_)
                clear hK K
                try simp only [Act.put, List.setIfInBounds_toArray, List.set_cons_zero, List.set_cons_succ]
                refine wpAnyH_ready (rs := [14]) (by kernel_rfl) (by simp) (AllReadyH.cons (o := { dst := some 76, op := .call { callee := .builtin .append, args := #[.tmp 70, .tmp 75], argTypes := #[63, 63] }, type := 63, pos := "ref.go:44", after := #[{ on := 8, ground := .data }, { on := 13, ground := .data }, { on := 8, ground := .chain }], guard := none }) rfl (fun K hK => ?_) AllReadyH.nil)
                rw [if_pos (by rfl)]
                refine wp_append_vary (.tmp 70) (.tmp 75) 63 (by rfl) wc.heap.size 73 j0 (.int .u32 0) 1 4 Try.underlying63 hj ha0 ha1 ha2 rfl (by decide) (.slice sp8 k2 cap8) k2 (rowU o.new) (by rfl) GO66.out (some ⟨ze, 0, none⟩) 1 1 [.int .u32 x] (by rfl) rfl (fun h => nomatch h) (fun ad h => by obtain rfl := Option.some.inj h; exact GE67.out.cells rfl) (by simp [Value.oneCell']) (by unfold maxLen; omega) (by omega) GB65.out.size ?_
                intro v14 wg68 hown hgrow hat
                obtain ⟨sp14, cap14, rfl⟩ := own_val hown
                have GB69 := Lib.hid (GB65.out.grown hgrow GB65.out.size (fun j hj => (GO66.out.lt j hj).1))
                have GR70 := Lib.hid hown
                clear hown hgrow hat
                refine hK.out _ _ (HwS.out _ GB69.out) (fun hHeld => ?_)
                clear hK K
                try simp only [Act.put, List.setIfInBounds_toArray, List.set_cons_zero, List.set_cons_succ]
                refine wpAnyH_take (i := 15) (oi := { dst := some 77, op := .indexAddr 67 (.tmp 62) (.tmp 63), type := 0, pos := "ref.go:44", after := #[{ on := 0, ground := .data }, { on := 1, ground := .data }, { on := 0, ground := .phase }, { on := 1, ground := .phase }, { on := 2, ground := .phase }, { on := 3, ground := .phase }, { on := 4, ground := .phase }, { on := 5, ground := .phase }, { on := 6, ground := .phase }, { on := 7, ground := .phase }, { on := 8, ground := .phase }, { on := 9, ground := .phase }, { on := 10, ground := .phase }, { on := 11, ground := .phase }, { on := 12, ground := .phase }, { on := 13, ground := .phase }, { on := 14, ground := .phase }], guard := none }) (v := ?_) rfl (by kernel_rfl) (by kernel_rfl) (by kernel_rfl) (fun _ _ _ h => h) (Or.inl ⟨by rfl, ?_⟩) (HwS.out _ GB69.out) ?_
                rotate_left 1
                · intro w hw; obtain s0 := hw; have k0 : (q : Int) < (q : Int) + 1 := (by omega); go_simp; try (with_reducible rfl)
                simp only [Act.put, List.setIfInBounds_toArray, List.set_cons_zero, List.set_cons_succ]
                refine wpAnyH_take (i := 16) (oi := { dst := some 78, op := .fieldAddr 71 (.tmp 77) 2, type := 0, pos := "ref.go:44", after := #[{ on := 15, ground := .data }, { on := 0, ground := .phase }, { on := 1, ground := .phase }, { on := 2, ground := .phase }, { on := 3, ground := .phase }, { on := 4, ground := .phase }, { on := 5, ground := .phase }, { on := 6, ground := .phase }, { on := 7, ground := .phase }, { on := 8, ground := .phase }, { on := 9, ground := .phase }, { on := 10, ground := .phase }, { on := 11, ground := .phase }, { on := 12, ground := .phase }, { on := 13, ground := .phase }, { on := 14, ground := .phase }], guard := none }) (v := ?_) rfl (by kernel_rfl) (by kernel_rfl) (by kernel_rfl) (fun _ _ _ h => h) (Or.inl ⟨by rfl, ?_⟩) (HwS.out _ GB69.out) ?_
                rotate_left 1
                · intro w hw; obtain s0 := hw; go_simp; try (with_reducible rfl)
                simp only [Act.put, List.setIfInBounds_toArray, List.set_cons_zero, List.set_cons_succ]
                refine wpAnyH_ready (rs := [17]) (by kernel_rfl) (by simp) (AllReadyH.cons (o := { dst := none, op := .store 63 (.tmp 78) (.tmp 76), type := 0, pos := "ref.go:44", after := #[{ on := 16, ground := .data }, { on := 14, ground := .data }, { on := 14, ground := .chain }, { on := 0, ground := .phase }, { on := 1, ground := .phase }, { on := 2, ground := .phase }, { on := 3, ground := .phase }, { on := 4, ground := .phase }, { on := 5, ground := .phase }, { on := 6, ground := .phase }, { on := 7, ground := .phase }, { on := 8, ground := .phase }, { on := 9, ground := .phase }, { on := 10, ground := .phase }, { on := 11, ground := .phase }, { on := 12, ground := .phase }, { on := 13, ground := .phase }, { on := 14, ground := .phase }], guard := none }) rfl (fun K hK => ?_) AllReadyH.nil)
                have c71 := (HRw.out _ GB69.out).1
                have c71f := (HRw.out _ GB69.out).2.1
                have GF72 := Lib.hid (HSet.out _ _ GB69.out GR70.out)
                go_simp
                clear c71 c71f
                refine hK.out _ _ GF72.out.2 (fun hHeld => ?_)
                clear hK K
                try simp only [Act.put, List.setIfInBounds_toArray, List.set_cons_zero, List.set_cons_succ]
                refine wpAnyH_done (by kernel_rfl) ?_ _
                go_wp2
                go_meet
                case rel => exact ⟨_, GF72.out.1, GF72.out.2⟩
            · go_simp
              obtain ⟨ze, hze⟩ : ∃ b, b = (wd).heap.size := ⟨_, rfl⟩
              rw [← hze]
              generalize hwg73 : World.alloc _ _ = wg73
              have GB74 := Lib.hid (show Below wc.heap.size wc wg73 by rw [← hwg73]; exact HD.out.alloc HD.out.size _)
              have GE75 := Lib.hid (show wg73.ownsRow wc.heap.size 73 1 (.slice (some ⟨ze, 0, none⟩) 1 1) 1 [.int .u32 x] by rw [← hwg73, hze]; exact World.ownsRow_lit wd #[.int .u32 x] 1 HD.out.size (by unfold maxLen; omega) rfl)
              clear hwg73 hze
              refine hK.out _ _ (HwS.out _ GB74.out) (fun hHeld => ?_)
              clear hK K
              try simp only [Act.put, List.setIfInBounds_toArray, List.set_cons_zero, List.set_cons_succ]
              refine wpAnyH_ready (rs := [2]) (by kernel_rfl) (by simp) (AllReadyH.cons (o := { dst := some 64, op := .buildSlice 63 0 #[], type := 63, pos := "ref.go:44", after := #[], guard := none }) rfl (fun K hK => ?_) AllReadyH.nil)
              go_simp
              obtain ⟨za, hza⟩ : ∃ b, b = (wg73).heap.size := ⟨_, rfl⟩
              rw [← hza]
              generalize hwg76 : World.alloc _ _ = wg76
              have GB77 := Lib.hid (show Below wc.heap.size wc wg76 by rw [← hwg76]; exact GB74.out.alloc GB74.out.size _)
              have GA78 := Lib.hid (show wg76.ownsRow wc.heap.size 73 1 (.slice (some ⟨za, 0, none⟩) 0 0) 0 [] by rw [← hwg76, hza]; exact own_fresh wg73 wc.heap.size 73 1 GB74.out.size)
              have GE79 := Lib.hid (show wg76.ownsRow wc.heap.size 73 1 (.slice (some ⟨ze, 0, none⟩) 1 1) 1 [.int .u32 x] by rw [← hwg76]; exact GE75.out.alloc _)
              have hne := Lib.hid (show ze ≠ za by have := (GE75.out.lt ze rfl).2; omega)
              clear hwg76 hza
              refine hK.out _ _ (HwS.out _ GB77.out) (fun hHeld => ?_)
              clear hK K
              try simp only [Act.put, List.setIfInBounds_toArray, List.set_cons_zero, List.set_cons_succ]
              refine wpAnyH_ready (rs := [8]) (by kernel_rfl) (by simp) (AllReadyH.cons (o := { dst := some 70, op := .call { callee := .builtin .append, args := #[.tmp 64, .tmp 69], argTypes := #[63, 63] }, type := 63, pos := "ref.go:44", after := #[{ on := 2, ground := .data }, { on := 7, ground := .data }], guard := none }) rfl (fun K hK => ?_) AllReadyH.nil)
              rw [if_pos (by rfl)]
              refine wp_append_vary (.tmp 64) (.tmp 69) 63 (by rfl) wc.heap.size 73 j0 (.int .u32 0) 1 4 Try.underlying63 hj ha0 ha1 ha2 rfl (by decide) (.slice (some ⟨za, 0, none⟩) 0 0) 0 [] (by rfl) GA78.out T.sp k2 T.c (rowU o.new) (by rfl) (by rw [rowU_len, HK2.out, Nat.mul_one]) (fun h => by rw [← HK2.out]; exact (HRw.out _ GB77.out).2.2.news.1 h) (HRw.out _ GB77.out).2.2.news.2 (rowU_one _) (by unfold maxLen; omega) (by omega) GB77.out.size ?_
              intro v8 wg80 hown hgrow hat
              rw [Nat.zero_add, List.nil_append] at hown
              obtain ⟨sp8, cap8, rfl⟩ := own_val hown
              have GB81 := Lib.hid (GB77.out.grown hgrow GB77.out.size (fun j hj => (GA78.out.lt j hj).1))
              have GO82 := Lib.hid hown
              have GE83 := Lib.hid (GE79.out.kept hgrow (.inr (fun e => hne.out (by simpa [Value.ownBlock] using e))))
              clear hown hgrow hat
              refine hK.out _ _ (HwS.out _ GB81.out) (fun hHeld => ?_)
              clear hK K
              try simp only [Act.put, List.setIfInBounds_toArray, List.set_cons_zero, List.set_cons_succ]
              refine wpAnyH_ready (rs := [14]) (by kernel_rfl) (by simp) (AllReadyH.cons (o := { dst := some 76, op := .call { callee := .builtin .append, args := #[.tmp 70, .tmp 75], argTypes := #[63, 63] }, type := 63, pos := "ref.go:44", after := #[{ on := 8, ground := .data }, { on := 13, ground := .data }, { on := 8, ground := .chain }], guard := none }) rfl (fun K hK => ?_) AllReadyH.nil)
              rw [if_pos (by rfl)]
              refine wp_append_vary (.tmp 70) (.tmp 75) 63 (by rfl) wc.heap.size 73 j0 (.int .u32 0) 1 4 Try.underlying63 hj ha0 ha1 ha2 rfl (by decide) (.slice sp8 k2 cap8) k2 (rowU o.new) (by rfl) GO82.out (some ⟨ze, 0, none⟩) 1 1 [.int .u32 x] (by rfl) rfl (fun h => nomatch h) (fun ad h => by obtain rfl := Option.some.inj h; exact GE83.out.cells rfl) (by simp [Value.oneCell']) (by unfold maxLen; omega) (by omega) GB81.out.size ?_
              intro v14 wg84 hown hgrow hat
              obtain ⟨sp14, cap14, rfl⟩ := own_val hown
              have GB85 := Lib.hid (GB81.out.grown hgrow GB81.out.size (fun j hj => (GO82.out.lt j hj).1))
              have GR86 := Lib.hid hown
              clear hown hgrow hat
              refine hK.out _ _ (HwS.out _ GB85.out) (fun hHeld => ?_)
              clear hK K
              try simp only [Act.put, List.setIfInBounds_toArray, List.set_cons_zero, List.set_cons_succ]
              refine wpAnyH_take (i := 15) (oi := { dst := some 77, op := .indexAddr 67 (.tmp 62) (.tmp 63), type := 0, pos := "ref.go:44", after := #[{ on := 0, ground := .data }, { on := 1, ground := .data }, { on := 0, ground := .phase }, { on := 1, ground := .phase }, { on := 2, ground := .phase }, { on := 3, ground := .phase }, { on := 4, ground := .phase }, { on := 5, ground := .phase }, { on := 6, ground := .phase }, { on := 7, ground := .phase }, { on := 8, ground := .phase }, { on := 9, ground := .phase }, { on := 10, ground := .phase }, { on := 11, ground := .phase }, { on := 12, ground := .phase }, { on := 13, ground := .phase }, { on := 14, ground := .phase }], guard := none }) (v := ?_) rfl (by kernel_rfl) (by kernel_rfl) (by kernel_rfl) (fun _ _ _ h => h) (Or.inl ⟨by rfl, ?_⟩) (HwS.out _ GB85.out) ?_
              rotate_left 1
              · intro w hw; obtain s0 := hw; have k0 : (q : Int) < (q : Int) + 1 := (by omega); go_simp; try (with_reducible rfl)
              simp only [Act.put, List.setIfInBounds_toArray, List.set_cons_zero, List.set_cons_succ]
              refine wpAnyH_take (i := 16) (oi := { dst := some 78, op := .fieldAddr 71 (.tmp 77) 2, type := 0, pos := "ref.go:44", after := #[{ on := 15, ground := .data }, { on := 0, ground := .phase }, { on := 1, ground := .phase }, { on := 2, ground := .phase }, { on := 3, ground := .phase }, { on := 4, ground := .phase }, { on := 5, ground := .phase }, { on := 6, ground := .phase }, { on := 7, ground := .phase }, { on := 8, ground := .phase }, { on := 9, ground := .phase }, { on := 10, ground := .phase }, { on := 11, ground := .phase }, { on := 12, ground := .phase }, { on := 13, ground := .phase }, { on := 14, ground := .phase }], guard := none }) (v := ?_) rfl (by kernel_rfl) (by kernel_rfl) (by kernel_rfl) (fun _ _ _ h => h) (Or.inl ⟨by rfl, ?_⟩) (HwS.out _ GB85.out) ?_
              rotate_left 1
              · intro w hw; obtain s0 := hw; go_simp; try (with_reducible rfl)
              simp only [Act.put, List.setIfInBounds_toArray, List.set_cons_zero, List.set_cons_succ]
              refine wpAnyH_ready (rs := [17]) (by kernel_rfl) (by simp) (AllReadyH.cons (o := { dst := none, op := .store 63 (.tmp 78) (.tmp 76), type := 0, pos := "ref.go:44", after := #[{ on := 16, ground := .data }, { on := 14, ground := .data }, { on := 14, ground := .chain }, { on := 0, ground := .phase }, { on := 1, ground := .phase }, { on := 2, ground := .phase }, { on := 3, ground := .phase }, { on := 4, ground := .phase }, { on := 5, ground := .phase }, { on := 6, ground := .phase }, { on := 7, ground := .phase }, { on := 8, ground := .phase }, { on := 9, ground := .phase }, { on := 10, ground := .phase }, { on := 11, ground := .phase }, { on := 12, ground := .phase }, { on := 13, ground := .phase }, { on := 14, ground := .phase }], guard := none }) rfl (fun K hK => ?_) AllReadyH.nil)
              have c87 := (HRw.out _ GB85.out).1
              have c87f := (HRw.out _ GB85.out).2.1
              have GF88 := Lib.hid (HSet.out _ _ GB85.out GR86.out)
              go_simp
              clear c87 c87f
              refine hK.out _ _ GF88.out.2 (fun hHeld => ?_)
              clear hK K
              try simp only [Act.put, List.setIfInBounds_toArray, List.set_cons_zero, List.set_cons_succ]
              refine wpAnyH_done (by kernel_rfl) ?_ _
              go_wp2
              go_meet
              case rel => exact ⟨_, GF88.out.1, GF88.out.2⟩
          · go_simp
            obtain ⟨ze, hze⟩ : ∃ b, b = (wd).heap.size := ⟨_, rfl⟩
            rw [← hze]
            generalize hwg89 : World.alloc _ _ = wg89
            have GB90 := Lib.hid (show Below wc.heap.size wc wg89 by rw [← hwg89]; exact HD.out.alloc HD.out.size _)
            have GE91 := Lib.hid (show wg89.ownsRow wc.heap.size 73 1 (.slice (some ⟨ze, 0, none⟩) 1 1) 1 [.int .u32 x] by rw [← hwg89, hze]; exact World.ownsRow_lit wd #[.int .u32 x] 1 HD.out.size (by unfold maxLen; omega) rfl)
            clear hwg89 hze
            refine hK.out _ _ (HwS.out _ GB90.out) (fun hHeld => ?_)
            clear hK K
            try simp only [Act.put, List.setIfInBounds_toArray, List.set_cons_zero, List.set_cons_succ]
            refine wpAnyH_ready (rs := [2, 7]) (by kernel_rfl) (by simp) (AllReadyH.cons (o := { dst := some 64, op := .buildSlice 63 0 #[], type := 63, pos := "ref.go:44", after := #[], guard := none }) rfl (fun K hK => ?_) (AllReadyH.cons (o := { dst := some 69, op := .load 63 (.tmp 68), type := 63, pos := "ref.go:44", after := #[{ on := 6, ground := .data }], guard := none }) rfl (fun K hK => ?_) AllReadyH.nil))
            · go_simp
              obtain ⟨za, hza⟩ : ∃ b, b = (wg89).heap.size := ⟨_, rfl⟩
              rw [← hza]
              generalize hwg92 : World.alloc _ _ = wg92
              have GB93 := Lib.hid (show Below wc.heap.size wc wg92 by rw [← hwg92]; exact GB90.out.alloc GB90.out.size _)
              have GA94 := Lib.hid (show wg92.ownsRow wc.heap.size 73 1 (.slice (some ⟨za, 0, none⟩) 0 0) 0 [] by rw [← hwg92, hza]; exact own_fresh wg89 wc.heap.size 73 1 GB90.out.size)
              have GE95 := Lib.hid (show wg92.ownsRow wc.heap.size 73 1 (.slice (some ⟨ze, 0, none⟩) 1 1) 1 [.int .u32 x] by rw [← hwg92]; exact GE91.out.alloc _)
              have hne := Lib.hid (show ze ≠ za by have := (GE91.out.lt ze rfl).2; omega)
              clear hwg92 hza
              refine hK.out _ _ (HwS.out _ GB93.out) (fun hHeld => ?_)
              clear hK K
              try simp only [Act.put, List.setIfInBounds_toArray, List.set_cons_zero, List.set_cons_succ]
              refine wpAnyH_ready (rs := [7]) (by kernel_rfl) (by simp) (AllReadyH.cons (o := { dst := some 69, op := .load 63 (.tmp 68), type := 63, pos := "ref.go:44", after := #[{ on := 6, ground := .data }], guard := none }) rfl (fun K hK => ?_) AllReadyH.nil)
              have c96 := (HRw.out _ GB93.out).1
              go_simp
              clear c96
              refine hK.out _ _ (HwS.out _ GB93.out) (fun hHeld => ?_)
              clear hK K
              try simp only [Act.put, List.setIfInBounds_toArray, List.set_cons_zero, List.set_cons_succ]
              refine wpAnyH_ready (rs := [8]) (by kernel_rfl) (by simp) (AllReadyH.cons (o := { dst := some 70, op := .call { callee := .builtin .append, args := #[.tmp 64, .tmp 69], argTypes := #[63, 63] }, type := 63, pos := "ref.go:44", after := #[{ on := 2, ground := .data }, { on := 7, ground := .data }], guard := none }) rfl (fun K hK => ?_) AllReadyH.nil)
              rw [if_pos (by rfl)]
              refine wp_append_vary (.tmp 64) (.tmp 69) 63 (by rfl) wc.heap.size 73 j0 (.int .u32 0) 1 4 Try.underlying63 hj ha0 ha1 ha2 rfl (by decide) (.slice (some ⟨za, 0, none⟩) 0 0) 0 [] (by rfl) GA94.out T.sp k2 T.c (rowU o.new) (by rfl) (by rw [rowU_len, HK2.out, Nat.mul_one]) (fun h => by rw [← HK2.out]; exact (HRw.out _ GB93.out).2.2.news.1 h) (HRw.out _ GB93.out).2.2.news.2 (rowU_one _) (by unfold maxLen; omega) (by omega) GB93.out.size ?_
              intro v8 wg97 hown hgrow hat
              rw [Nat.zero_add, List.nil_append] at hown
              obtain ⟨sp8, cap8, rfl⟩ := own_val hown
              have GB98 := Lib.hid (GB93.out.grown hgrow GB93.out.size (fun j hj => (GA94.out.lt j hj).1))
              have GO99 := Lib.hid hown
              have GE100 := Lib.hid (GE95.out.kept hgrow (.inr (fun e => hne.out (by simpa [Value.ownBlock] using e))))
              clear hown hgrow hat
              refine hK.out _ _ (HwS.out _ GB98.out) (fun hHeld => ?_)
              clear hK K
              try simp only [Act.put, List.setIfInBounds_toArray, List.set_cons_zero, List.set_cons_succ]
              refine wpAnyH_ready (rs := [14]) (by kernel_rfl) (by simp) (AllReadyH.cons (o := { dst := some 76, op := .call { callee := .builtin .append, args := #[.tmp 70, .tmp 75], argTypes := #[63, 63] }, type := 63, pos := "ref.go:44", after := #[{ on := 8, ground := .data }, { on := 13, ground := .data }, { on := 8, ground := .chain }], guard := none }) rfl (fun K hK => ?_) AllReadyH.nil)
              rw [if_pos (by rfl)]
              refine wp_append_vary (.tmp 70) (.tmp 75) 63 (by rfl) wc.heap.size 73 j0 (.int .u32 0) 1 4 Try.underlying63 hj ha0 ha1 ha2 rfl (by decide) (.slice sp8 k2 cap8) k2 (rowU o.new) (by rfl) GO99.out (some ⟨ze, 0, none⟩) 1 1 [.int .u32 x] (by rfl) rfl (fun h => nomatch h) (fun ad h => by obtain rfl := Option.some.inj h; exact GE100.out.cells rfl) (by simp [Value.oneCell']) (by unfold maxLen; omega) (by omega) GB98.out.size ?_
              intro v14 wg101 hown hgrow hat
              obtain ⟨sp14, cap14, rfl⟩ := own_val hown
              have GB102 := Lib.hid (GB98.out.grown hgrow GB98.out.size (fun j hj => (GO99.out.lt j hj).1))
              have GR103 := Lib.hid hown
              clear hown hgrow hat
              refine hK.out _ _ (HwS.out _ GB102.out) (fun hHeld => ?_)
              clear hK K
              try simp only [Act.put, List.setIfInBounds_toArray, List.set_cons_zero, List.set_cons_succ]
              refine wpAnyH_take (i := 15) (oi := { dst := some 77, op := .indexAddr 67 (.tmp 62) (.tmp 63), type := 0, pos := "ref.go:44", after := #[{ on := 0, ground := .data }, { on := 1, ground := .data }, { on := 0, ground := .phase }, { on := 1, ground := .phase }, { on := 2, ground := .phase }, { on := 3, ground := .phase }, { on := 4, ground := .phase }, { on := 5, ground := .phase }, { on := 6, ground := .phase }, { on := 7, ground := .phase }, { on := 8, ground := .phase }, { on := 9, ground := .phase }, { on := 10, ground := .phase }, { on := 11, ground := .phase }, { on := 12, ground := .phase }, { on := 13, ground := .phase }, { on := 14, ground := .phase }], guard := none }) (v := ?_) rfl (by kernel_rfl) (by kernel_rfl) (by kernel_rfl) (fun _ _ _ h => h) (Or.inl ⟨by rfl, ?_⟩) (HwS.out _ GB102.out) ?_
              rotate_left 1
              · intro w hw; obtain s0 := hw; have k0 : (q : Int) < (q : Int) + 1 := (by omega); go_simp; try (with_reducible rfl)
              simp only [Act.put, List.setIfInBounds_toArray, List.set_cons_zero, List.set_cons_succ]
              refine wpAnyH_take (i := 16) (oi := { dst := some 78, op := .fieldAddr 71 (.tmp 77) 2, type := 0, pos := "ref.go:44", after := #[{ on := 15, ground := .data }, { on := 0, ground := .phase }, { on := 1, ground := .phase }, { on := 2, ground := .phase }, { on := 3, ground := .phase }, { on := 4, ground := .phase }, { on := 5, ground := .phase }, { on := 6, ground := .phase }, { on := 7, ground := .phase }, { on := 8, ground := .phase }, { on := 9, ground := .phase }, { on := 10, ground := .phase }, { on := 11, ground := .phase }, { on := 12, ground := .phase }, { on := 13, ground := .phase }, { on := 14, ground := .phase }], guard := none }) (v := ?_) rfl (by kernel_rfl) (by kernel_rfl) (by kernel_rfl) (fun _ _ _ h => h) (Or.inl ⟨by rfl, ?_⟩) (HwS.out _ GB102.out) ?_
              rotate_left 1
              · intro w hw; obtain s0 := hw; go_simp; try (with_reducible rfl)
              simp only [Act.put, List.setIfInBounds_toArray, List.set_cons_zero, List.set_cons_succ]
              refine wpAnyH_ready (rs := [17]) (by kernel_rfl) (by simp) (AllReadyH.cons (o := { dst := none, op := .store 63 (.tmp 78) (.tmp 76), type := 0, pos := "ref.go:44", after := #[{ on := 16, ground := .data }, { on := 14, ground := .data }, { on := 14, ground := .chain }, { on := 0, ground := .phase }, { on := 1, ground := .phase }, { on := 2, ground := .phase }, { on := 3, ground := .phase }, { on := 4, ground := .phase }, { on := 5, ground := .phase }, { on := 6, ground := .phase }, { on := 7, ground := .phase }, { on := 8, ground := .phase }, { on := 9, ground := .phase }, { on := 10, ground := .phase }, { on := 11, ground := .phase }, { on := 12, ground := .phase }, { on := 13, ground := .phase }, { on := 14, ground := .phase }], guard := none }) rfl (fun K hK => ?_) AllReadyH.nil)
              have c104 := (HRw.out _ GB102.out).1
              have c104f := (HRw.out _ GB102.out).2.1
              have GF105 := Lib.hid (HSet.out _ _ GB102.out GR103.out)
              go_simp
              clear c104 c104f
              refine hK.out _ _ GF105.out.2 (fun hHeld => ?_)
              clear hK K
              try simp only [Act.put, List.setIfInBounds_toArray, List.set_cons_zero, List.set_cons_succ]
              refine wpAnyH_done (by kernel_rfl) ?_ _
              go_wp2
              go_meet
              case rel => exact ⟨_, GF105.out.1, GF105.out.2⟩
            · have c106 := (HRw.out _ GB90.out).1
              go_simp
              clear c106
              refine hK.out _ _ (HwS.out _ GB90.out) (fun hHeld => ?_)
              clear hK K
              try simp only [Act.put, List.setIfInBounds_toArray, List.set_cons_zero, List.set_cons_succ]
              refine wpAnyH_ready (rs := [2]) (by kernel_rfl) (by simp) (AllReadyH.cons (o := { dst := some 64, op := .buildSlice 63 0 #[], type := 63, pos := "ref.go:44", after := #[], guard := none }) rfl (fun K hK => ?_) AllReadyH.nil)
              go_simp
              obtain ⟨za, hza⟩ : ∃ b, b = (wg89).heap.size := ⟨_, rfl⟩
              rw [← hza]
              generalize hwg107 : World.alloc _ _ = wg107
              have GB108 := Lib.hid (show Below wc.heap.size wc wg107 by rw [← hwg107]; exact GB90.out.alloc GB90.out.size _)
              have GA109 := Lib.hid (show wg107.ownsRow wc.heap.size 73 1 (.slice (some ⟨za, 0, none⟩) 0 0) 0 [] by rw [← hwg107, hza]; exact own_fresh wg89 wc.heap.size 73 1 GB90.out.size)
              have GE110 := Lib.hid (show wg107.ownsRow wc.heap.size 73 1 (.slice (some ⟨ze, 0, none⟩) 1 1) 1 [.int .u32 x] by rw [← hwg107]; exact GE91.out.alloc _)
              have hne := Lib.hid (show ze ≠ za by have := (GE91.out.lt ze rfl).2; omega)
              clear hwg107 hza
              refine hK.out _ _ (HwS.out _ GB108.out) (fun hHeld => ?_)
              clear hK K
              try simp only [Act.put, List.setIfInBounds_toArray, List.set_cons_zero, List.set_cons_succ]
              refine wpAnyH_ready (rs := [8]) (by kernel_rfl) (by simp) (AllReadyH.cons (o := { dst := some 70, op := .call { callee := .builtin .append, args := #[.tmp 64, .tmp 69], argTypes := #[63, 63] }, type := 63, pos := "ref.go:44", after := #[{ on := 2, ground := .data }, { on := 7, ground := .data }], guard := none }) rfl (fun K hK => ?_) AllReadyH.nil)
              rw [if_pos (by rfl)]
              refine wp_append_vary (.tmp 64) (.tmp 69) 63 (by rfl) wc.heap.size 73 j0 (.int .u32 0) 1 4 Try.underlying63 hj ha0 ha1 ha2 rfl (by decide) (.slice (some ⟨za, 0, none⟩) 0 0) 0 [] (by rfl) GA109.out T.sp k2 T.c (rowU o.new) (by rfl) (by rw [rowU_len, HK2.out, Nat.mul_one]) (fun h => by rw [← HK2.out]; exact (HRw.out _ GB108.out).2.2.news.1 h) (HRw.out _ GB108.out).2.2.news.2 (rowU_one _) (by unfold maxLen; omega) (by omega) GB108.out.size ?_
              intro v8 wg111 hown hgrow hat
              rw [Nat.zero_add, List.nil_append] at hown
              obtain ⟨sp8, cap8, rfl⟩ := own_val hown
              have GB112 := Lib.hid (GB108.out.grown hgrow GB108.out.size (fun j hj => (GA109.out.lt j hj).1))
              have GO113 := Lib.hid hown
              have GE114 := Lib.hid (GE110.out.kept hgrow (.inr (fun e => hne.out (by simpa [Value.ownBlock] using e))))
              clear hown hgrow hat
              refine hK.out _ _ (HwS.out _ GB112.out) (fun hHeld => ?_)
              clear hK K
              try simp only [Act.put, List.setIfInBounds_toArray, List.set_cons_zero, List.set_cons_succ]
              refine wpAnyH_ready (rs := [14]) (by kernel_rfl) (by simp) (AllReadyH.cons (o := { dst := some 76, op := .call { callee := .builtin .append, args := #[.tmp 70, .tmp 75], argTypes := #[63, 63] }, type := 63, pos := "ref.go:44", after := #[{ on := 8, ground := .data }, { on := 13, ground := .data }, { on := 8, ground := .chain }], guard := none }) rfl (fun K hK => ?_) AllReadyH.nil)
              rw [if_pos (by rfl)]
              refine wp_append_vary (.tmp 70) (.tmp 75) 63 (by rfl) wc.heap.size 73 j0 (.int .u32 0) 1 4 Try.underlying63 hj ha0 ha1 ha2 rfl (by decide) (.slice sp8 k2 cap8) k2 (rowU o.new) (by rfl) GO113.out (some ⟨ze, 0, none⟩) 1 1 [.int .u32 x] (by rfl) rfl (fun h => nomatch h) (fun ad h => by obtain rfl := Option.some.inj h; exact GE114.out.cells rfl) (by simp [Value.oneCell']) (by unfold maxLen; omega) (by omega) GB112.out.size ?_
              intro v14 wg115 hown hgrow hat
              obtain ⟨sp14, cap14, rfl⟩ := own_val hown
              have GB116 := Lib.hid (GB112.out.grown hgrow GB112.out.size (fun j hj => (GO113.out.lt j hj).1))
              have GR117 := Lib.hid hown
              clear hown hgrow hat
              refine hK.out _ _ (HwS.out _ GB116.out) (fun hHeld => ?_)
              clear hK K
              try simp only [Act.put, List.setIfInBounds_toArray, List.set_cons_zero, List.set_cons_succ]
              refine wpAnyH_take (i := 15) (oi := { dst := some 77, op := .indexAddr 67 (.tmp 62) (.tmp 63), type := 0, pos := "ref.go:44", after := #[{ on := 0, ground := .data }, { on := 1, ground := .data }, { on := 0, ground := .phase }, { on := 1, ground := .phase }, { on := 2, ground := .phase }, { on := 3, ground := .phase }, { on := 4, ground := .phase }, { on := 5, ground := .phase }, { on := 6, ground := .phase }, { on := 7, ground := .phase }, { on := 8, ground := .phase }, { on := 9, ground := .phase }, { on := 10, ground := .phase }, { on := 11, ground := .phase }, { on := 12, ground := .phase }, { on := 13, ground := .phase }, { on := 14, ground := .phase }], guard := none }) (v := ?_) rfl (by kernel_rfl) (by kernel_rfl) (by kernel_rfl) (fun _ _ _ h => h) (Or.inl ⟨by rfl, ?_⟩) (HwS.out _ GB116.out) ?_
              rotate_left 1
              · intro w hw; obtain s0 := hw; have k0 : (q : Int) < (q : Int) + 1 := (by omega); go_simp; try (with_reducible rfl)
              simp only [Act.put, List.setIfInBounds_toArray, List.set_cons_zero, List.set_cons_succ]
              refine wpAnyH_take (i := 16) (oi := { dst := some 78, op := .fieldAddr 71 (.tmp 77) 2, type := 0, pos := "ref.go:44", after := #[{ on := 15, ground := .data }, { on := 0, ground := .phase }, { on := 1, ground := .phase }, { on := 2, ground := .phase }, { on := 3, ground := .phase }, { on := 4, ground := .phase }, { on := 5, ground := .phase }, { on := 6, ground := .phase }, { on := 7, ground := .phase }, { on := 8, ground := .phase }, { on := 9, ground := .phase }, { on := 10, ground := .phase }, { on := 11, ground := .phase }, { on := 12, ground := .phase }, { on := 13, ground := .phase }, { on := 14, ground := .phase }], guard := none }) (v := ?_) rfl (by kernel_rfl) (by kernel_rfl) (by kernel_rfl) (fun _ _ _ h => h) (Or.inl ⟨by rfl, ?_⟩) (HwS.out _ GB116.out) ?_
              rotate_left 1
              · intro w hw; obtain s0 := hw; go_simp; try (with_reducible rfl)
              simp only [Act.put, List.setIfInBounds_toArray, List.set_cons_zero, List.set_cons_succ]
              refine wpAnyH_ready (rs := [17]) (by kernel_rfl) (by simp) (AllReadyH.cons (o := { dst := none, op := .store 63 (.tmp 78) (.tmp 76), type := 0, pos := "ref.go:44", after := #[{ on := 16, ground := .data }, { on := 14, ground := .data }, { on := 14, ground := .chain }, { on := 0, ground := .phase }, { on := 1, ground := .phase }, { on := 2, ground := .phase }, { on := 3, ground := .phase }, { on := 4, ground := .phase }, { on := 5, ground := .phase }, { on := 6, ground := .phase }, { on := 7, ground := .phase }, { on := 8, ground := .phase }, { on := 9, ground := .phase }, { on := 10, ground := .phase }, { on := 11, ground := .phase }, { on := 12, ground := .phase }, { on := 13, ground := .phase }, { on := 14, ground := .phase }], guard := none }) rfl (fun K hK => ?_) AllReadyH.nil)
              have c118 := (HRw.out _ GB116.out).1
              have c118f := (HRw.out _ GB116.out).2.1
              have GF119 := Lib.hid (HSet.out _ _ GB116.out GR117.out)
              go_simp
              clear c118 c118f
              refine hK.out _ _ GF119.out.2 (fun hHeld => ?_)
              clear hK K
              try simp only [Act.put, List.setIfInBounds_toArray, List.set_cons_zero, List.set_cons_succ]
              refine wpAnyH_done (by kernel_rfl) ?_ _
              go_wp2
              go_meet
              case rel => exact ⟨_, GF119.out.1, GF119.out.2⟩

        case rest =>
        obtain ⟨nv3, HF⟩ := hcut
        have HG := Lib.hid (HNew2.out _ _ nv3 HF.out.2 (by rw [HX.out]; exact HF.out.1))
        go_wp2
        go_roundg g1
        case measure => omega
        case rel => exact ⟨t + 1, _, _, by go_num, HG.out⟩
end Go.Proofs.Ytjgnclhkoncnkaa
