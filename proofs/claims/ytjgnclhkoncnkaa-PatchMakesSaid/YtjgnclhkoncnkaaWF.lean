/- The contracts of patch's Apply, of slices.Equal over words, of Make of too many words, and law55's alive. -/
import Derived.Test.YtjgnclhkoncnkaaWE
namespace Go.Proofs.Ytjgnclhkoncnkaa
open Go.RowKit

/-- What pieces come to: the error, the words. -/
def applyM (a : List Int) : List OpI → List Int → Int × List Int
  | [], acc => (0, acc)
  | o :: r, acc => if pieceB a.length o then (if 4096 < acc.length + (wordsI a o).length then (64, []) else applyM a r (acc ++ wordsI a o)) else (80, [])
theorem words_len {a : List Int} {o : OpI} (la : a.length ≤ 4096) (ho : o.new.length ≤ 5000) : (wordsI a o).length ≤ 5000 := by
  unfold wordsI
  split
  · rw [List.length_take, List.length_drop]; omega
  · exact ho
theorem WAt.news {w : World} {S : Src} {l : List Int} (h : WAt w S l) : (S.sp = none → l.length = 0) ∧ ∀ ad, S.sp = some ad → ∀ j u, (rowU l)[j]? = some u → w.cell? (ad.add j) = some u := by
  refine ⟨fun h0 => ?_, fun ad had j u hu => ?_⟩
  · rcases Nat.eq_zero_or_pos l.length with e | e
    · exact e
    · rw [(h.sl.at_ e).1] at h0; cases h0
  · have hj : j < l.length := by have := (List.getElem?_eq_some_iff.1 hu).1; rwa [rowU_len] at this
    rw [(h.sl.at_ (by omega)).1] at had
    obtain rfl := Option.some.inj had
    rw [Addr.add_lit, h.e j hj, ← hu]
    simp [rowU, nth, List.getD, hj]
theorem rowU_one (l : List Int) : ∀ u ∈ rowU l, u.oneCell' = true := by
  intro u hu
  obtain ⟨x, _, rfl⟩ := List.mem_map.1 hu
  rfl
theorem drop_getI {l : List OpI} {k : Nat} (h : k < l.length) : l.drop k = l.getD k default :: l.drop (k + 1) := by
  rw [List.drop_eq_getElem_cons h]
  simp [List.getD, h]
set_option maxHeartbeats 8000000 in
set_option maxRecDepth 100000 in
theorem apply_any {w : World} {A S : Src} {a : List Int} {l : List OpI} {Sn : Nat → Src} (ha : WAt w A a) (h : PAt w S l Sn) (la : a.length ≤ 4096) (hl : l.length ≤ 5000) (hm : ∀ o ∈ l, o.new.length ≤ 5000) (hf : ∀ o ∈ l, o.fr ≤ 9223372036854775807) :
    Calls Try.prog 36 #[.slice A.sp a.length A.c, .slice S.sp l.length S.c] w fun e w' => ∃ v, e = .returned (.tuple #[v, .int .i64 (applyM a l []).1]) ∧ w'.ownsRow w.heap.size 73 1 v (applyM a l []).2.length (rowU (applyM a l []).2) ∧ Below w.heap.size w w' := by
  obtain ⟨i0, hi, hz0, hz1, hz2⟩ := info_parts (show (Try.prog.info? 73).map (fun i => (i.zero, i.size, i.bytes)) = some (some (.int .u32 0), 1, 4) from by kernel_rfl)
  have HC := Lib.hid (fun (k : Nat) (hk : k < l.length) (wx : World) (hb : Below w.heap.size w wx) => And.intro (h.sl.at_ (by omega)).1 (And.intro ((h.new hb).c0 k hk) (And.intro ((h.new hb).c1 k hk) ((h.new hb).c2 k hk))))
  have HP := Lib.hid (fun (k : Nat) (hk : k < l.length) (wx : World) (hb : Below w.heap.size w wx) => piece_any (ha.new hb) ((h.new hb).nw k hk) (by omega) (hf _ (mem_getD hk)))
  have HS := Lib.hid (fun (k : Nat) (hk : k < l.length) (acc : List Int) => show applyM a (l.drop k) acc = (if pieceB a.length (l.getD k default) then (if 4096 < acc.length + (wordsI a (l.getD k default)).length then (64, []) else applyM a (l.drop (k + 1)) (acc ++ wordsI a (l.getD k default))) else (80, [])) ∧ (wordsI a (l.getD k default)).length ≤ 5000 from by
    rw [drop_getI hk]
    exact ⟨rfl, words_len la (hm _ (mem_getD hk))⟩)
  have HE := Lib.hid (show ∀ acc, applyM a (l.drop l.length) acc = (0, acc) from fun acc => by rw [List.drop_length]; rfl)
  obtain ⟨R, hR⟩ : ∃ R, applyM a l [] = R := ⟨_, rfl⟩
  have HR0 := Lib.hid (show applyM a (l.drop 0) [] = R by rw [List.drop_zero, hR])
  rw [hR]
  obtain ⟨pa, qa, oa, ca⟩ := A
  obtain ⟨sp, sb, so, sc⟩ := S
  obtain ⟨N, hN⟩ : ∃ n, l.length = n := ⟨_, rfl⟩
  obtain ⟨M, hM⟩ : ∃ n, a.length = n := ⟨_, rfl⟩
  dsimp only at HC HP ⊢
  rw [hN] at HC HP HS HE hl
  rw [hM] at HP HS la
  rw [hN, hM]
  clear ha h hm hf hN hM hR
  go_enter Try.func36, Try.ntmps36
  go_wp2
  go_loopg [6, 13] N (fun g x6 x13 wr => ∃ (k : Nat) (acc : List Int), k + g = N ∧ x13 = .int .i64 (k : Nat) ∧ Aside (applyM a (l.drop k) acc = R ∧ acc.length ≤ 4096 ∧ wr.ownsRow w.heap.size 73 1 x6 acc.length (rowU acc) ∧ Below w.heap.size w wr))
  case atStart => exact ⟨0, [], by omega, rfl, HR0.out, by simp, World.ownsRow_nil _ _ _ _, Below.refl _ _⟩
  case round =>
    obtain ⟨k, acc, hkg, rfl, HR⟩ := hrel
    cases gk with
    | zero =>
      obtain rfl : k = N := by omega
      have HX := Lib.hid (show R = (0, acc) by rw [← HR.out.1, HE.out])
      go_wp2
      go_ret2
      exact ⟨u6, by rw [HX.out]; rfl, by rw [HX.out]; exact HR.out.2.2.1, HR.out.2.2.2⟩
    | succ g1 =>
      have hk : k < N := by omega
      have hk2 : (k : Int) < N := by omega
      obtain ⟨e1, c0, c1, c2⟩ := HC.out k hk wr HR.out.2.2.2
      subst e1
      obtain ⟨hs, hwl⟩ := HS.out k hk acc
      have hP := HP.out k hk
      obtain ⟨o, ho⟩ : ∃ z, l.getD k default = z := ⟨_, rfl⟩
      rw [ho] at hs hwl hP c0 c1 c2
      obtain ⟨pb, hpb⟩ : ∃ b, pieceB M o = b := ⟨_, rfl⟩
      obtain ⟨wd, hwd⟩ : ∃ b, wordsI a o = b := ⟨_, rfl⟩
      rw [hpb, hwd] at hs hP
      rw [hwd] at hwl
      obtain ⟨f, m, nw⟩ := o
      dsimp only at hP c0 c1 c2
      obtain ⟨n, hn⟩ : ∃ z, nw.length = z := ⟨_, rfl⟩
      rw [hn] at hP c2
      obtain ⟨⟨p, pb', po, pc⟩, hS⟩ : ∃ s, Sn k = s := ⟨_, rfl⟩
      rw [hS] at c2 hP
      dsimp only at c2 hP
      obtain ⟨v, hv⟩ : ∃ v, u6 = v := ⟨_, rfl⟩
      have hacc := HR.out.2.1
      have HOw := Lib.hid HR.out.2.2.1
      have HBb := Lib.hid HR.out.2.2.2
      have HRr := Lib.hid HR.out.1
      obtain ⟨spv, capv, rfl⟩ := own_val HOw.out
      have HS2 := Lib.hid (hs.symm.trans HRr.out)
      have HB1 := Lib.hid (HBb.out.alloc HBb.out.size (.cells #[.int .i64 f, .int .i64 m, .slice p n pc] 70))
      have HPk := Lib.hid (hP _ HB1.out)
      have HO1 := Lib.hid (HOw.out.alloc (.cells #[.int .i64 f, .int .i64 m, .slice p n pc] 70))
      clear hs hP ho hpb hwd hn hS hv HC HP HS HR HRr
      cases pb with
      | false =>
        go_wp2_with (go_at_call 52; refine HPk.out.mono ?_; rintro e w3 ⟨Rx, nx, rfl, -, b3⟩; have H3 := Lib.hid (HB1.out.trans (b3.mono HB1.out.size)); clear b3 HPk)
        go_ret2
        have hr : R = (80, []) := by rw [← HS2.out]; rfl
        exact ⟨_, by rw [hr]; rfl, by rw [hr]; exact World.ownsRow_nil _ _ _ _, H3.out⟩
      | true =>
        obtain ⟨n0, hn0⟩ : ∃ n, wd.length = n := ⟨_, rfl⟩
        have HN0 := Lib.hid hn0
        rw [hn0] at hwl
        by_cases hbig : 4096 < acc.length + n0
        · have hbi : (4096 : Int) < (acc.length : Int) + n0 := by omega
          have HR2 := Lib.hid (show R = (64, []) by
            rw [← HS2.out, if_pos rfl, HN0.out, if_pos hbig])
          clear hn0
          go_wp2_with (go_at_call 52; refine HPk.out.mono ?_; rintro e w3 ⟨Rx, nx, rfl, hx, b3⟩; have H3 := Lib.hid (HB1.out.trans (b3.mono HB1.out.size)); obtain ⟨e2, hW⟩ := hx rfl; obtain rfl : nx = n0 := (by rw [e2, HN0.out]); clear b3 HPk hx e2 hW)
          go_ret2
          exact ⟨_, by rw [HR2.out]; rfl, by rw [HR2.out]; exact World.ownsRow_nil _ _ _ _, H3.out⟩
        · have hbi : ¬ (4096 : Int) < (acc.length : Int) + n0 := by omega
          have HR2 := Lib.hid (show applyM a (l.drop (k + 1)) (acc ++ wd) = R by
            rw [← HS2.out, if_pos rfl, HN0.out, if_neg hbig])
          clear hn0
          go_wp2_with (first
            | (go_at_call 52; refine HPk.out.mono ?_; rintro e w3 ⟨Rx, nx, rfl, hx, b3⟩; have H3 := Lib.hid (And.intro (HB1.out.trans (b3.mono HB1.out.size)) (own_below HO1.out b3 (Nat.le_refl _))); obtain ⟨e2, hW⟩ := hx rfl; obtain rfl : nx = n0 := (by rw [e2, HN0.out]); have HW := Lib.hid hW; clear b3 HPk hx e2 hW)
            | (at_builtin; refine wpList_append_vary rfl (.tmp 31) (.tmp 32) 63 rfl w.heap.size 73 i0 (.int .u32 0) 1 4 Try.underlying63 hi hz0 hz1 hz2 rfl (by decide) _ acc.length (rowU acc) rfl H3.out.2 Rx.sp nx Rx.c (rowU wd) rfl (by rw [rowU_len, HN0.out, Nat.mul_one]) (fun h => by rw [← HN0.out]; exact HW.out.news.1 h) HW.out.news.2 (rowU_one _) (by unfold maxLen; omega) (by omega) H3.out.1.size ?_; intro v' w4 hown hgrow hat; have HO := Lib.hid (And.intro (H3.out.1.grown hgrow H3.out.1.size (fun j hj => (H3.out.2.lt j hj).1)) hown); clear hown hgrow hat)
            | fail)
          go_roundg g1
          case measure => omega
          case rel => exact ⟨k + 1, acc ++ wd, by omega, by go_num, HR2.out, by rw [List.length_append, HN0.out]; omega, by
            have ho := HO.out.2
            rw [List.length_append, HN0.out]
            rw [show rowU (acc ++ wd) = rowU acc ++ rowU wd by simp [rowU]]
            exact ho, HO.out.1⟩
theorem words_eq {a b : List Int} (hl : a.length = b.length) (h : ∀ j, j < a.length → nth a j = nth b j) : a = b := by
  apply List.ext_getElem?
  intro j
  by_cases hj : j < a.length
  · rw [nth_at a j hj, nth_at b j (by omega), h j hj]
  · rw [List.getElem?_eq_none (by omega), List.getElem?_eq_none (by omega)]
set_option maxHeartbeats 4000000 in
theorem equalU_any {w : World} {A B : Src} {a b : List Int} (ha : WAt w A a) (hb : WAt w B b) (la : a.length ≤ 10000) (lb : b.length ≤ 10000) :
    Calls Try.prog 34 #[.slice A.sp a.length A.c, .slice B.sp b.length B.c] w fun e w' => e = .returned (.bool (decide (a = b))) ∧ Below w.heap.size w w' := by
  have HA := Lib.hid (fun (k : Nat) (hk : k < a.length) (wx : World) (hx : Below w.heap.size w wx) => And.intro (ha.sl.at_ (by omega)).1 ((ha.new hx).e k hk))
  have HB := Lib.hid (fun (k : Nat) (hk : k < b.length) (wx : World) (hx : Below w.heap.size w wx) => And.intro (hb.sl.at_ (by omega)).1 ((hb.new hx).e k hk))
  have HE := Lib.hid (fun (h1 : a.length = b.length) (h2 : ∀ j, j < a.length → nth a j = nth b j) => decide_eq_true (words_eq h1 h2))
  have HNo := Lib.hid (fun (h1 : a.length ≠ b.length) => show decide (a = b) = false from decide_eq_false (fun e => h1 (by rw [e])))
  have HNe := Lib.hid (fun (k : Nat) (h1 : nth a k ≠ nth b k) => show decide (a = b) = false from decide_eq_false (fun e => h1 (by rw [e])))
  obtain ⟨pa, qa, oa, ca⟩ := A
  obtain ⟨pb, qb, ob, cb⟩ := B
  obtain ⟨N, hN⟩ : ∃ n, a.length = n := ⟨_, rfl⟩
  obtain ⟨M, hM⟩ : ∃ n, b.length = n := ⟨_, rfl⟩
  obtain ⟨v, hv⟩ : ∃ n, decide (a = b) = n := ⟨_, rfl⟩
  dsimp only at HA HB ⊢
  rw [hN] at HA la
  rw [hM] at HB lb
  rw [hN, hM, hv] at HE HNo
  rw [hv] at HNe
  rw [hN, hM, hv]
  clear ha hb hN hM hv
  by_cases hl : N = M
  · subst hl
    have HE2 := Lib.hid (HE.out rfl)
    clear HE HNo
    go_enter Try.func34, Try.ntmps34
    go_wp2
    go_loopg [13] N (fun g u wr => ∃ k : Nat, k + g = N ∧ u = .int .i64 (k : Nat) ∧ Aside ((∀ j, j < k → nth a j = nth b j) ∧ Below w.heap.size w wr))
    case atStart => exact ⟨0, by omega, rfl, fun j hj => by omega, Below.refl _ _⟩
    case round =>
      obtain ⟨k, hkg, rfl, HR⟩ := hrel
      cases gk with
      | zero =>
        obtain rfl : k = N := by omega
        have HX := Lib.hid (HE2.out HR.out.1)
        go_wp2
        go_ret
        exact ⟨by rw [HX.out]; rfl, HR.out.2⟩
      | succ g1 =>
        have hk : k < N := by omega
        have hk2 : (k : Int) < N := by omega
        obtain ⟨e1, h1⟩ := HA.out k hk wr HR.out.2
        obtain ⟨e2, h2⟩ := HB.out k hk wr HR.out.2
        subst e1 e2
        by_cases hx : nth a k = nth b k
        · have HX := Lib.hid hx
          rw [hx] at h1
          clear hx
          go_wp2
          go_quiet (fail)
          go_wp2
          go_roundg g1
          case measure => omega
          case rel => exact ⟨k + 1, by omega, by go_num, fun j hj => by
            by_cases e : j = k
            · subst e; exact HX.out
            · exact HR.out.1 j (by omega), below_dn HR.out.2 _⟩
        · have HX := Lib.hid (HNe.out k hx)
          have hxb : (nth a k != nth b k) = true := by simp [hx]
          go_wp2
          go_quiet (fail)
          go_wp2
          go_ret
          exact ⟨by rw [HX.out]; rfl, below_dn HR.out.2 _⟩
  · have HX := Lib.hid (HNo.out hl)
    have hl2 : ¬ (N : Int) = M := by omega
    have hl3 : ((N : Int) != M) = true := by simp [hl2]
    clear HE HNo HNe HA HB
    go_enter Try.func34, Try.ntmps34
    go_wp2
    go_ret
    exact ⟨by rw [HX.out]; rfl, Below.refl _ _⟩
/-- Of too many words nothing is made. -/
theorem make_big {w : World} {sp sq : Option Addr} {n m c d : Nat} (h : 4096 < n ∨ 4096 < m) :
    Calls Try.prog 32 #[.slice sp n c, .slice sq m d] w fun e w' => e = .returned (.tuple #[.slice none 0 0, .int .i64 64]) ∧ w = w' := by
  by_cases h1 : 4096 < n
  · have h2 : (4096 : Int) < n := by omega
    clear h
    go_enter Try.func32, Try.ntmps32
    go_wp2
    go_ret2
    exact ⟨rfl, rfl⟩
  · have h2 : ¬ (4096 : Int) < n := by omega
    have h3 : (4096 : Int) < m := by omega
    clear h h1
    go_enter Try.func32, Try.ntmps32
    go_wp2
    go_ret2
    exact ⟨rfl, rfl⟩
theorem lit_words (w : World) (l : List Int) (cs : Array Value) (hc : cs.toList = rowU l) (hl : l.length ≤ 1000) : WAt (w.alloc (.cells cs 73)) ⟨some ⟨w.heap.size, 0, none⟩, w.heap.size, 0, l.length⟩ l := by
  have hs : cs.size = l.length * 1 := by rw [← Array.length_toList, hc, rowU_len, Nat.mul_one]
  have h := World.ownsRow_lit (base := 0) (e := 73) (size := 1) w cs l.length (Nat.zero_le _) (by unfold maxLen; omega) hs
  rw [hc] at h
  refine ⟨⟨fun _ => ⟨rfl, by simp, fun h => h⟩, by omega⟩, fun k hk => ?_, Nat.le_refl _⟩
  have := h.cellAt k (by omega)
  show (w.alloc (.cells cs 73)).cell? ⟨w.heap.size, 0 + k, none⟩ = _
  rw [Nat.zero_add, this]
  simp [rowU, nth, List.getD, hk]
theorem make_x : makeM [1, 2, 3, 4, 5] 5 [9, 1, 2, 3, 4] [] = [⟨0, 0, [9]⟩, ⟨0, 4, []⟩] := by kernel_rfl
set_option maxHeartbeats 8000000 in
set_option maxRecDepth 100000 in
theorem l55alive_any (w : World) : Calls Try.prog 35 #[] w fun e w' => e = .returned (.bool true) ∧ Below w.heap.size w w' := by
  obtain ⟨wa, hwa⟩ : ∃ wa, w.alloc (.cells #[.int .u32 1, .int .u32 2, .int .u32 3, .int .u32 4, .int .u32 5] 73) = wa := ⟨_, rfl⟩
  have hA : WAt wa ⟨some ⟨w.heap.size, 0, none⟩, w.heap.size, 0, 5⟩ [1, 2, 3, 4, 5] := by rw [← hwa]; exact lit_words w [1, 2, 3, 4, 5] _ rfl (by simp)
  have hsz : wa.heap.size = w.heap.size + 1 := by rw [← hwa]; simp
  have hb1 : Below w.heap.size w wa := by rw [← hwa]; exact (Below.refl _ _).alloc (Nat.le_refl _) _
  have HMk := Lib.hid (show ∀ wx, wa.alloc (.cells #[.int .u32 9, .int .u32 1, .int .u32 2, .int .u32 3, .int .u32 4] 73) = wx → Calls Try.prog 32 #[.slice (some ⟨w.heap.size, 0, none⟩) 5 5, .slice (some ⟨wa.heap.size, 0, none⟩) 5 5] wx fun e w' => ∃ (S : Src) (Sn : Nat → Src), e = .returned (.tuple #[.slice S.sp 2 S.c, .int .i64 0]) ∧ PAt w' S [⟨0, 0, [9]⟩, ⟨0, 4, []⟩] Sn ∧ Below w.heap.size w w' from fun wx hx => by
    have hB : WAt wx ⟨some ⟨wa.heap.size, 0, none⟩, wa.heap.size, 0, 5⟩ [9, 1, 2, 3, 4] := by
      have := lit_words wa [9, 1, 2, 3, 4] #[.int .u32 9, .int .u32 1, .int .u32 2, .int .u32 3, .int .u32 4] rfl (by simp)
      rw [hx] at this
      exact this
    have hb2 : Below wa.heap.size wa wx := by rw [← hx]; exact (Below.refl _ _).alloc (Nat.le_refl _) _
    have hb3 : Below w.heap.size w wx := hb1.trans (hb2.mono hb1.size)
    refine (make_any (hA.new hb2) hB (by simp) (by simp)).mono ?_
    rintro e w' ⟨v, nv, rfl, ho, hb⟩
    rw [show ([9, 1, 2, 3, 4] : List Int).length = 5 from rfl, make_x] at ho
    obtain ⟨S, Sn, rfl, hp⟩ := ho.toP (by simp)
    exact ⟨S, Sn, rfl, hp, hb3.trans (hb.mono hb3.size)⟩)
  have HSz := Lib.hid (fun (S : Src) (Sn : Nat → Src) (wx : World) (hp : PAt wx S [⟨0, 0, [9]⟩, ⟨0, 4, []⟩] Sn) => show Calls Try.prog 38 #[.slice S.sp 2 S.c] wx fun e w' => e = .returned (.int .i64 4) ∧ Below wx.heap.size wx w' from size_any hp (by simp) (fun o ho => by simp at ho; rcases ho with rfl | rfl <;> simp))
  clear hA hsz hb1
  go_enter Try.func35, Try.ntmps35
  go_wp2_with (first
    | (go_at_call 32; refine (HMk.out _ rfl).mono ?_; rintro e w3 ⟨S, Sn, rfl, hp, b3⟩; have H3 := Lib.hid (And.intro b3 hp); obtain ⟨sp, sb, so, sc⟩ := S; obtain rfl : sp = some ⟨sb, so, none⟩ := (hp.sl.at_ (by simp)).1; have c1 : w3.cell? ⟨sb, so + 2, none⟩ = some (.slice (Sn 0).sp 1 (Sn 0).c) := hp.c2 0 (by simp); have c2 : w3.cell? ⟨sb, so + 3, none⟩ = some (.int .i64 0) := hp.c0 1 (by simp); have c3 : w3.cell? ⟨sb, so + 4, none⟩ = some (.int .i64 4) := hp.c1 1 (by simp); have c4 : w3.cell? ⟨sb, so + 3 + 1, none⟩ = some (.int .i64 4) := hp.c1 1 (by simp); clear b3 hp)
    | (go_at_call 38; refine (HSz.out _ Sn _ H3.out.2).mono ?_; rintro e w4 ⟨rfl, b4⟩; have H4 := Lib.hid (H3.out.1.trans (b4.mono H3.out.1.size)); clear b4)
    | fail)
  go_ret
  exact ⟨rfl, H4.out⟩
end Go.Proofs.Ytjgnclhkoncnkaa
