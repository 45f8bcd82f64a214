/- The contract of patch's Make. -/
import Derived.Test.YtjgnclhkoncnkaaWC
namespace Go.Proofs.Ytjgnclhkoncnkaa
open Go.RowKit

/-- What Make's loop keeps: k words are done, g are left. -/
structure MakeI (w wr : World) (a b : List Int) (g k c cb : Nat) (v : Value) (acc : List OpM) (nv : Nat → Value) : Prop where
  kg : k + g = b.length
  c : c = cb - k
  made : makeM a g (b.drop k) acc = makeM a b.length b []
  ops : OpsAt wr w.heap.size v acc nv
  b : Below w.heap.size w wr
  l1 : acc.length ≤ k
  l2 : ∀ o ∈ acc, o.new.length ≤ k
theorem addNew_len {acc : List OpM} {x : Int} {k : Nat} (h1 : acc.length ≤ k) (h2 : ∀ o ∈ acc, o.new.length ≤ k) : (addNewM acc x).length ≤ k + 1 ∧ ∀ o ∈ addNewM acc x, o.new.length ≤ k + 1 := by
  unfold addNewM
  split
  · refine ⟨by simp; omega, fun o ho => ?_⟩
    rcases List.mem_append.1 ho with h | h
    · have := h2 o h; omega
    · obtain rfl := List.mem_singleton.1 h
      simp
  · rename_i q hq
    split
    · refine ⟨by simp; omega, fun o ho => ?_⟩
      rcases List.mem_append.1 ho with h | h
      · have := h2 o h; omega
      · obtain rfl := List.mem_singleton.1 h
        simp
    · refine ⟨by simp; omega, fun o ho => ?_⟩
      rcases List.mem_append.1 ho with h | h
      · have := h2 o (by rw [last_split hq]; exact List.mem_append_left _ h); omega
      · obtain rfl := List.mem_singleton.1 h
        have := h2 q (List.mem_of_getLast? hq)
        simp; omega
theorem drop_nth {b : List Int} {k : Nat} (h : k < b.length) : b.drop k = nth b k :: b.drop (k + 1) := by
  rw [List.drop_eq_getElem_cons h]
  simp [nth, List.getD, h]
theorem makeM_old {a : List Int} {g f m : Nat} {l : List Int} {acc : List OpM} (hl : l.length = g + 1) (hp : longM a l a.length = (f, m)) (h4 : 4 ≤ m) (hml : m ≤ g + 1) : makeM a (g + 1) l acc = makeM a (g + 1 - m) (l.drop m) (acc ++ [⟨f, m, []⟩]) := by
  cases l with
  | nil => simp at hl
  | cons x r =>
    have e : makeM a (g + 1) (x :: r) acc = makeM a g ((x :: r).drop m) (acc ++ [⟨f, m, []⟩]) := by
      show (if 4 ≤ (longM a (x :: r) a.length).2 then _ else _) = _
      rw [hp, if_pos h4]
    rw [e]
    exact makeM_fuel _ _ _ _ (by rw [List.length_drop]; omega) (by rw [List.length_drop]; omega)
where
  makeM_fuel : ∀ (g g' : Nat) (l : List Int) (acc : List OpM), l.length ≤ g → l.length ≤ g' → makeM a g l acc = makeM a g' l acc
  | 0, g', l, acc, h, _ => by
    obtain rfl : l = [] := by simpa using h
    cases g' <;> rfl
  | g + 1, 0, l, acc, _, h => by
    obtain rfl : l = [] := by simpa using h
    rfl
  | g + 1, g' + 1, [], acc, _, _ => rfl
  | g + 1, g' + 1, x :: r, acc, h, h' => by
    unfold makeM
    split
    · exact makeM_fuel g g' _ _ (by rw [List.length_drop]; simp at h ⊢; omega) (by rw [List.length_drop]; simp at h' ⊢; omega)
    · exact makeM_fuel g g' _ _ (by simpa using h) (by simpa using h')
theorem makeM_new {a : List Int} {g f m : Nat} {l : List Int} {acc : List OpM} (hl : l.length = g + 1) (hp : longM a l a.length = (f, m)) (h4 : ¬ 4 ≤ m) : makeM a (g + 1) l acc = makeM a g (l.drop 1) (addNewM acc (nth l 0)) := by
  cases l with
  | nil => simp at hl
  | cons x r =>
    show (if 4 ≤ (longM a (x :: r) a.length).2 then _ else _) = _
    rw [hp, if_neg h4]
    rfl
theorem MakeI.old {w wr w2 w' : World} {a b : List Int} {g k c cb f m : Nat} {v v' : Value} {acc : List OpM} {nv : Nat → Value} (h : MakeI w wr a b (g + 1) k c cb v acc nv) (hp : longM a (b.drop k) a.length = (f, m)) (h4 : 4 ≤ m) (hml : m ≤ g + 1)
    (hb : Below wr.heap.size wr w2) (hb2 : Below w.heap.size w w')
    (hr : w'.ownsRow w.heap.size 70 3 v' (acc.length + 1) (rowsOf (fun k => opC (acc.getD k default) (nv k)) acc.length ++ opC ⟨f, m, []⟩ (.slice none 0 0))) (hg : w2.grownBy w' v.ownBlock) :
    MakeI w w' a b (g + 1 - m) (k + m) (c - m) cb v' (acc ++ [⟨f, m, []⟩]) (fun j => if j = acc.length then .slice none 0 0 else nv j) := by
  have hk := h.kg
  refine ⟨by omega, by have := h.c; omega, ?_, h.ops.push hb ⟨f, m, []⟩ _ hr hg (World.ownsRow_nil _ _ _ _) (fun g hg => by simp [Value.ownBlock] at hg), hb2, ?_, fun o ho => ?_⟩
  · rw [← h.made, makeM_old (by rw [List.length_drop]; omega) hp h4 hml, List.drop_drop]
  · have := h.l1; simp; omega
  · rcases List.mem_append.1 ho with h1 | h1
    · have := h.l2 o h1; omega
    · obtain rfl := List.mem_singleton.1 h1
      simp
theorem MakeI.new_ {w wr w' : World} {a b : List Int} {g k c cb f m : Nat} {v v' : Value} {acc : List OpM} {nv nv' : Nat → Value} (h : MakeI w wr a b (g + 1) k c cb v acc nv) (hp : longM a (b.drop k) a.length = (f, m)) (h4 : ¬ 4 ≤ m)
    (hb : Below w.heap.size wr w') (ho : OpsAt w' w.heap.size v' (addNewM acc (nth b k)) nv') : MakeI w w' a b g (k + 1) (c - 1) cb v' (addNewM acc (nth b k)) nv' := by
  have hk := h.kg
  obtain ⟨n1, n2⟩ := addNew_len (x := nth b k) h.l1 h.l2
  refine ⟨by omega, by have := h.c; omega, ?_, ho, h.b.trans hb, n1, n2⟩
  rw [← h.made, makeM_new (by rw [List.length_drop]; omega) hp h4, List.drop_drop, nth_drop]
  rfl
set_option maxHeartbeats 8000000 in
set_option maxRecDepth 100000 in
theorem make_any {w : World} {A B : Src} {a b : List Int} (ha : WAt w A a) (hb : WAt w B b) (la : a.length ≤ 4096) (lb : b.length ≤ 4096) :
    Calls Try.prog 32 #[.slice A.sp a.length A.c, .slice B.sp b.length B.c] w fun e w' => ∃ v nv, e = .returned (.tuple #[v, .int .i64 0]) ∧ OpsAt w' w.heap.size v (makeM a b.length b []) nv ∧ Below w.heap.size w w' := by
  obtain ⟨i0, hi, hz0, hz1, hz2⟩ := info_parts (show (Try.prog.info? 70).map (fun i => (i.zero, i.size, i.bytes)) = some (some (.agg #[.int .i64 0, .int .i64 0, .slice none 0 0]), 3, 40) from by kernel_rfl)
  have HL := Lib.hid (fun (k c : Nat) (hk : k < b.length) (hc : c = B.c - k) (wx : World) (hx : Below w.heap.size w wx) => show Calls Try.prog 49 #[.slice A.sp a.length A.c, .slice (some ⟨B.b, B.o + k, none⟩) (b.length - k) c] wx fun e w' => e = .returned (.tuple #[.int .i64 ((longM a (b.drop k) a.length).1 : Nat), .int .i64 ((longM a (b.drop k) a.length).2 : Nat)]) ∧ Below wx.heap.size wx w' from by
    have := longest_any (ha.new hx) ((hb.new hx).drop k (by omega) (some ⟨B.b, B.o + k, none⟩) (fun _ => rfl)) (by omega) (by rw [List.length_drop]; omega)
    rw [List.length_drop] at this
    subst hc
    exact this)
  have HW := Lib.hid (fun (k : Nat) (hk : k < b.length) (wx : World) (hx : Below w.heap.size w wx) => (hb.new hx).e k hk)
  have HSp := Lib.hid (fun (h0 : 0 < b.length) => (hb.sl.at_ h0).1)
  have HOK := Lib.hid (fun (k : Nat) => (longM_ok a (b.drop k) a.length).1)
  have hcap := hb.cap
  obtain ⟨pa, qa, oa, ca⟩ := A
  obtain ⟨pb, qb, ob, cb⟩ := B
  obtain ⟨N, hN⟩ : ∃ n, b.length = n := ⟨_, rfl⟩
  obtain ⟨M, hM⟩ : ∃ n, a.length = n := ⟨_, rfl⟩
  have HN := Lib.hid hN
  have HM := Lib.hid hM
  dsimp only at HL HW HSp hcap ⊢
  rw [hN] at HW HSp lb hcap
  rw [hN, hM] at HL
  rw [hM] at HOK la
  rw [hN, hM]
  have HStart := Lib.hid (show MakeI w w a b N 0 cb cb (.slice none 0 0) [] (fun _ => .slice none 0 0) from ⟨by rw [HN.out]; omega, by omega, by rw [HN.out, List.drop_zero], OpsAt.start _ _ _, Below.refl _ _, by simp, fun o ho => by simp at ho⟩)
  have la2 : ¬ (4096 : Int) < M := by omega
  have lb2 : ¬ (4096 : Int) < N := by omega
  clear ha hb hN hM
  go_enter Try.func32, Try.ntmps32
  go_wp2
  go_loopg [1, 6] N (fun g x1 x6 wr => ∃ (k c : Nat) (sp' : Option Addr) (acc : List OpM) (nv : Nat → Value), x1 = .slice sp' g c ∧ Aside ((0 < g → sp' = some ⟨qb, ob + k, none⟩) ∧ MakeI w wr a b g k c cb x6 acc nv))
  case atStart => exact ⟨0, cb, pb, _, _, rfl, fun h0 => HSp.out h0, HStart.out⟩
  case round =>
    obtain ⟨k, c, sp', acc, nv, rfl, HR⟩ := hrel
    cases gk with
    | zero =>
      have HX := Lib.hid (show OpsAt wr w.heap.size u6 (makeM a N b []) nv from by
        have hm := HR.out.2.made
        rw [HN.out] at hm
        rw [← hm]
        exact HR.out.2.ops)
      go_wp2
      go_ret2
      exact ⟨_, _, rfl, HX.out, HR.out.2.b⟩
    | succ g1 =>
      have hkN : k < N := by have := HR.out.2.kg; rw [HN.out] at this; omega
      have hgN : N - k = g1 + 1 := by have := HR.out.2.kg; rw [HN.out] at this; omega
      have hcc := HR.out.2.c
      have hcg : g1 + 1 ≤ c := by omega
      have hg5 : g1 ≤ 4096 := by omega
      obtain rfl := HR.out.1 (by omega)
      have hL := HL.out k c hkN hcc wr HR.out.2.b
      have hok := HOK.out k
      rw [List.length_drop, HN.out, hgN] at hok
      have hw := HW.out k hkN wr HR.out.2.b
      rw [hgN] at hL
      obtain ⟨p, hp⟩ : ∃ p, longM a (b.drop k) M = p := ⟨_, rfl⟩
      rw [hp] at hL hok
      obtain ⟨f, m⟩ := p
      dsimp only at hL hok
      have HLk := Lib.hid hL
      have HP := Lib.hid (show longM a (b.drop k) a.length = (f, m) by rw [HM.out, hp])
      have HI := Lib.hid HR.out.2
      have hal := HR.out.2.l1
      have hg0 : (0 : Int) < (g1 : Int) + 1 := by omega
      clear hL hp HL HW HSp HOK HStart hcc HR
      have HC := Lib.hid (And.intro hkN hgN)
      clear hgN
      by_cases h4 : 4 ≤ m
      · have h4i : (4 : Int) ≤ m := by omega
        have HOwn := Lib.hid (fun o => (HI.out.ops.row.alloc o))
        have hbs := HI.out.b.size
        have HOld := Lib.hid (fun (w3 w4 : World) (v' : Value) (h1 : Below wr.heap.size wr w3) (h2 : Below w.heap.size w w4) hr hg => HI.out.old (w2 := w3) (w' := w4) (v' := v') HP.out h4 hok h1 h2 hr hg)
        clear hw
        have hoki : (m : Int) ≤ (g1 : Int) + 1 := by omega
        have hk5 : k ≤ 4096 := by omega
        by_cases hcm : c = m
        · have e0 : g1 + 1 - m = 0 := by omega
          obtain rfl := hcm
          go_wp2_with (first
            | (go_at_call 49; refine HLk.out.mono ?_; rintro e w3 ⟨rfl, b3⟩; have H3 := Lib.hid b3; clear b3 HLk)
            | (at_builtin; refine wpList_append_vary rfl (.tmp 28) (.tmp 32) 64 rfl w.heap.size 70 i0 (.agg #[.int .i64 0, .int .i64 0, .slice none 0 0]) 3 40 Try.underlying64 hi hz0 hz1 hz2 rfl (by decide) _ acc.length _ rfl ((own_below HI.out.ops.row H3.out (Nat.le_refl _)).alloc _) (some ⟨w3.heap.size, 0, none⟩) 1 1 [.int .i64 (f : Nat), .int .i64 (c : Nat), .slice none 0 0] rfl rfl (fun h => nomatch h) (fun ad h => by obtain rfl := Option.some.inj h; exact op_new _ _ _) (by simp [Value.oneCell']) (by unfold maxLen; omega) (by omega) (by have := H3.out.size; simp; omega) ?_; intro v' w4 hown hgrow hat; have HO := Lib.hid (HOld.out _ w4 v' (H3.out.alloc H3.out.size _) (((HI.out.b.trans (H3.out.mono HI.out.b.size)).alloc (Nat.le_trans HI.out.b.size H3.out.size) _).grown hgrow (by have := H3.out.size; simp; omega) (fun k hk => (HI.out.ops.row.lt k hk).1)) hown hgrow); clear hown hgrow hat)
            | fail)
          go_roundg 0
          case measure => omega
          case rel =>
            have ho := HO.out
            rw [e0, Nat.sub_self] at ho
            exact ⟨_, 0, some ⟨qb, ob + k, none⟩, _, _, by simp, fun h => by omega, ho⟩
        · go_wp2_with (first
            | (go_at_call 49; refine HLk.out.mono ?_; rintro e w3 ⟨rfl, b3⟩; have H3 := Lib.hid b3; clear b3 HLk)
            | (at_builtin; refine wpList_append_vary rfl (.tmp 28) (.tmp 32) 64 rfl w.heap.size 70 i0 (.agg #[.int .i64 0, .int .i64 0, .slice none 0 0]) 3 40 Try.underlying64 hi hz0 hz1 hz2 rfl (by decide) _ acc.length _ rfl ((own_below HI.out.ops.row H3.out (Nat.le_refl _)).alloc _) (some ⟨w3.heap.size, 0, none⟩) 1 1 [.int .i64 (f : Nat), .int .i64 (m : Nat), .slice none 0 0] rfl rfl (fun h => nomatch h) (fun ad h => by obtain rfl := Option.some.inj h; exact op_new _ _ _) (by simp [Value.oneCell']) (by unfold maxLen; omega) (by omega) (by have := H3.out.size; simp; omega) ?_; intro v' w4 hown hgrow hat; have HO := Lib.hid (HOld.out _ w4 v' (H3.out.alloc H3.out.size _) (((HI.out.b.trans (H3.out.mono HI.out.b.size)).alloc (Nat.le_trans HI.out.b.size H3.out.size) _).grown hgrow (by have := H3.out.size; simp; omega) (fun k hk => (HI.out.ops.row.lt k hk).1)) hown hgrow); clear hown hgrow hat)
            | fail)
          go_roundg (g1 + 1 - m)
          case measure => omega
          case rel => exact ⟨k + m, c - m, some ⟨qb, ob + k + m, none⟩, _, _, rfl, fun _ => by rw [Nat.add_assoc], HO.out⟩
      · have h4i : ¬ (4 : Int) ≤ m := by omega
        have hk5 : k ≤ 4096 := by omega
        have HCell := Lib.hid (fun (wx : World) (hx : Below wr.heap.size wr wx) => (Ch.new hx (T := fun _ => False)).cell hw (fun h => h))
        have HAdd := Lib.hid (fun (wx : World) (hx : Below wr.heap.size wr wx) => addnew_any (HI.out.ops.below hx) (nth b k) (by omega) (fun o ho => by have := HI.out.l2 o ho; omega) (Nat.le_trans HI.out.b.size hx.size))
        have HNew := Lib.hid (fun (w4 : World) (v' : Value) (nv' : Nat → Value) (h1 : Below w.heap.size wr w4) ho => HI.out.new_ (w' := w4) (v' := v') (nv' := nv') HP.out h4 h1 ho)
        have hbs := Lib.hid HI.out.b.size
        clear hw
        by_cases hcm : c = 1
        · have e0 : g1 = 0 := by omega
          obtain rfl := hcm
          subst e0
          go_wp2_with (first
            | (go_at_call 49; refine HLk.out.mono ?_; rintro e w3 ⟨rfl, b3⟩; have H3 := Lib.hid b3; have hw3 := HCell.out w3 b3; clear b3 HLk HCell)
            | (go_at_call 50; refine (HAdd.out w3 H3.out).mono ?_; rintro e w4 ⟨v', nv', rfl, ho, b4⟩; have HO := Lib.hid (HNew.out w4 v' nv' ((H3.out.mono hbs.out).trans b4) ho); clear b4 ho)
            | fail)
          go_roundg 0
          case measure => omega
          case rel => exact ⟨k + 1, 1 - 1, some ⟨qb, ob + k, none⟩, _, _, by simp, fun h => by omega, HO.out⟩
        · go_wp2_with (first
            | (go_at_call 49; refine HLk.out.mono ?_; rintro e w3 ⟨rfl, b3⟩; have H3 := Lib.hid b3; have hw3 := HCell.out w3 b3; clear b3 HLk HCell)
            | (go_at_call 50; refine (HAdd.out w3 H3.out).mono ?_; rintro e w4 ⟨v', nv', rfl, ho, b4⟩; have HO := Lib.hid (HNew.out w4 v' nv' ((H3.out.mono hbs.out).trans b4) ho); clear b4 ho)
            | fail)
          go_roundg g1
          case measure => omega
          case rel => exact ⟨k + 1, c - 1, some ⟨qb, ob + k + 1, none⟩, _, _, by simp, fun _ => by rw [Nat.add_assoc], HO.out⟩
end Go.Proofs.Ytjgnclhkoncnkaa
