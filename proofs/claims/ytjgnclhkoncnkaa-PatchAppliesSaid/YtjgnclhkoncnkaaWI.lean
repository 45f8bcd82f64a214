/- The walk of PatchApplies. -/
import Derived.Test.YtjgnclhkoncnkaaWH
import Derived.Deep.RegionHeld3
namespace Go.Proofs.Ytjgnclhkoncnkaa
open Go.RowKit

theorem applyM_len (a : List Int) : ∀ (l : List OpI) (acc : List Int), acc.length ≤ 4096 → (applyM a l acc).2.length ≤ 4096
  | [], acc, h => h
  | o :: r, acc, h => by
    unfold applyM
    split
    · split
      · simp
      · exact applyM_len a r _ (by rw [List.length_append]; omega)
    · simp
def opV (l : List OpI) (Sn : Nat → Src) (k : Nat) : List Value := [.int .i64 (l.getD k default).fr, .int .i64 (l.getD k default).many, .slice (Sn k).sp (l.getD k default).new.length (Sn k).c]
theorem row_pat {w : World} {base : Nat} {v : Value} {l : List OpI} {Sn : Nat → Src} {e : TypeId} (h : w.ownsRow base e 3 v l.length (rowsOf (opV l Sn) l.length)) (hl : l.length ≤ 1000000) (hn : ∀ k, k < l.length → WAt w (Sn k) (l.getD k default).new) : ∃ S : Src, v = .slice S.sp l.length S.c ∧ PAt w S l Sn := by
  obtain ⟨S, hv, h1, h2⟩ := own_rows h (sz := 3) (fun k _ => rfl) (by omega)
  refine ⟨S, hv, ⟨⟨fun h0 => ?_, by omega⟩, fun k hk => h2 k hk 0 _ rfl, fun k hk => h2 k hk 1 _ rfl, fun k hk => h2 k hk 2 _ rfl, hn⟩⟩
  exact ⟨(h1 h0).1, (h1 h0).2.2.1, fun h => h⟩
set_option maxHeartbeats 16000000 in
set_option maxRecDepth 100000 in
theorem law_applies {w : World} {A S : Src} {a : List Int} {l : List OpI} {Sn : Nat → Src} (ha : WAt w A a) (h : PAt w S l Sn) (hf : ∀ o ∈ l, o.fr ≤ 9223372036854775807) :
    Calls Try.prog 9 #[.slice A.sp a.length A.c, .slice S.sp l.length S.c] w fun e w' => e = .returned (.bool true) ∧ Below w.heap.size w w' := by
  by_cases g0 : 4096 < a.length
  · have g0i : (4096 : Int) < a.length := by omega
    clear ha h hf g0
    generalize a.length = N at g0i ⊢
    generalize l.length = M
    generalize A.sp = sp
    generalize A.c = c
    generalize S.sp = sq
    generalize S.c = d
    go_enter Try.func9, Try.ntmps9
    go_wp2
    go_ret
    exact ⟨rfl, Below.refl _ _⟩
  by_cases g1 : 50 < l.length
  · have g0i : ¬ (4096 : Int) < a.length := by omega
    have g1i : (50 : Int) < l.length := by omega
    clear ha h hf g0 g1
    generalize a.length = N at g0i ⊢
    generalize l.length = M at g1i ⊢
    generalize A.sp = sp
    generalize A.c = c
    generalize S.sp = sq
    generalize S.c = d
    go_enter Try.func9, Try.ntmps9
    go_wp2
    go_ret
    exact ⟨rfl, Below.refl _ _⟩
  obtain ⟨i0, hi, hz0, hz1, hz2⟩ := info_parts (show (Try.prog.info? 71).map (fun i => (i.zero, i.size, i.bytes)) = some (some (.agg #[.int .i64 0, .int .i64 0, .slice none 0 0]), 3, 40) from by kernel_rfl)
  have HC := Lib.hid (fun (k : Nat) (hk : k < l.length) (wx : World) (hb : Below w.heap.size w wx) => And.intro (h.sl.at_ (by omega)).1 (And.intro ((h.new hb).c0 k hk) (And.intro ((h.new hb).c1 k hk) ((h.new hb).c2 k hk))))
  have HSz := Lib.hid (fun (k : Nat) (hk : k < l.length) => sizeI_take hk)
  have HTk := Lib.hid (fun (k : Nat) (hk : k < l.length) (hm : ∀ o ∈ l.take k, o.new.length ≤ 2000) (hx : (l.getD k default).new.length ≤ 2000) => show ∀ o ∈ l.take (k + 1), o.new.length ≤ 2000 from fun o ho => by
    rw [List.take_succ_eq_append_getElem hk] at ho
    rcases List.mem_append.1 ho with h1 | h1
    · exact hm o h1
    · obtain rfl := List.mem_singleton.1 h1
      rwa [show l.getD k default = l[k] by simp [List.getD, hk]] at hx)
  have HSb := Lib.hid (fun (k : Nat) (hm : ∀ o ∈ l.take k, o.new.length ≤ 2000) => show sizeI (l.take k) ≤ 250050 from by
    have h1 := sizeI_le (l := l.take k) fun o ho => by have := hm o ho; omega
    have h2 : (l.take k).length ≤ 50 := by rw [List.length_take]; omega
    have := Nat.mul_le_mul_right 5001 h2
    omega)
  obtain ⟨wd, hwd⟩ : ∃ x, (applyM a l []).2 = x := ⟨_, rfl⟩
  obtain ⟨z, hz⟩ : ∃ x, (applyM a l []).1 = x := ⟨_, rfl⟩
  have hwl : wd.length ≤ 4096 := by rw [← hwd]; exact applyM_len a l [] (by simp)
  have HAp := Lib.hid (fun (hm : ∀ o ∈ l, o.new.length ≤ 2000) (wx : World) (hx : Below w.heap.size w wx) => show Calls Try.prog 36 #[.slice A.sp a.length A.c, .slice S.sp l.length S.c] wx fun e w' => ∃ R : Src, e = .returned (.tuple #[.slice R.sp wd.length R.c, .int .i64 z]) ∧ WAt w' R wd ∧ Below wx.heap.size wx w' from by
    have h1 := apply_any (ha.new hx) (h.new hx) (by omega) (by omega) (fun o ho => by have := hm o ho; omega) hf
    rw [hwd, hz] at h1
    refine h1.mono ?_
    rintro e w' ⟨v, rfl, ho, hbl⟩
    obtain ⟨R, rfl, hR, -⟩ := own_words ho rfl
    exact ⟨R, rfl, hR, hbl⟩)
  have HRp := Lib.hid (fun (hm : ∀ o ∈ l, o.new.length ≤ 2000) (S' : Src) (wx : World) (hx : Below w.heap.size w wx) (hp : PAt wx S' l Sn) => show Calls Try.prog 37 #[.slice A.sp a.length A.c, .slice S'.sp l.length S'.c] wx fun e w' => ∃ R : Src, e = .returned (.tuple #[.slice R.sp wd.length R.c, .int .i64 z]) ∧ WAt w' R wd ∧ Below wx.heap.size wx w' from by
    have h1 := rapply_any (ha.new hx) hp (by omega) (by omega) (fun o ho => by have := hm o ho; omega) hf
    rw [hwd, hz] at h1
    refine h1.mono ?_
    rintro e w' ⟨v, rfl, ho, hbl⟩
    obtain ⟨R, rfl, hR, -⟩ := own_words ho rfl
    exact ⟨R, rfl, hR, hbl⟩)
  have HSi := Lib.hid (fun (hm : ∀ o ∈ l, o.new.length ≤ 2000) (wx : World) (hx : Below w.heap.size w wx) => size_any (h.new hx) (by omega) (fun o ho => by have := hm o ho; omega))
  have HEq := Lib.hid (fun (R T : Src) (wx : World) (hR : WAt wx R wd) (hT : WAt wx T wd) => show Calls Try.prog 34 #[.slice R.sp wd.length R.c, .slice T.sp wd.length T.c] wx fun e w' => e = .returned (.bool true) ∧ Below wx.heap.size wx w' from by
    have h1 := equalU_any hR hT (by omega) (by omega)
    rw [decide_eq_true rfl] at h1
    exact h1)
  have HPt := Lib.hid (fun (wx : World) (v : Value) (hx : Below w.heap.size w wx) (ho : wx.ownsRow w.heap.size 71 3 v l.length (rowsOf (opV l Sn) l.length)) => row_pat ho (by omega) (fun k hk => (h.new hx).nw k hk))
  have HF := Lib.hid (show l.take l.length = l from List.take_length)
  obtain ⟨pa, qa, oa, ca⟩ := A
  obtain ⟨sp, sb, so, sc⟩ := S
  obtain ⟨N, hN⟩ : ∃ n, l.length = n := ⟨_, rfl⟩
  obtain ⟨M, hM⟩ : ∃ n, a.length = n := ⟨_, rfl⟩
  obtain ⟨W, hW⟩ : ∃ n, wd.length = n := ⟨_, rfl⟩
  have g0i : ¬ (4096 : Int) < M := by omega
  have g1i : ¬ (50 : Int) < N := by omega
  have hN50 : N ≤ 50 := by omega
  have hsb : 0 < N → sb < w.heap.size := fun h0 => (h.sl.at_ (by omega)).2.1
  have HSB := Lib.hid hsb
  dsimp only at HC HAp HRp HSi ⊢
  rw [hN] at HC HSz HTk HPt HF
  rw [hN, hM, hW] at HAp HRp
  rw [hN] at HSi
  rw [hW] at HEq
  rw [hN, hM]
  clear ha h hf hN hM hW g0 g1 hwd hz hwl hsb
  go_enter Try.func9, Try.ntmps9
  go_wp2
  go_loopg [5, 6, 7] N (fun g x5 x6 x7 wr => ∃ k : Nat, k + g = N ∧ x6 = .int .i64 (sizeI (l.take k) : Nat) ∧ x7 = .int .i64 (k : Nat) ∧ Aside ((∀ o ∈ l.take k, o.new.length ≤ 2000) ∧ wr.ownsRow w.heap.size 71 3 x5 k (rowsOf (opV l Sn) k) ∧ Below w.heap.size w wr))
  case atStart => exact ⟨0, by omega, rfl, rfl, fun o ho => by simp at ho, World.ownsRow_nil _ _ _ _, Below.refl _ _⟩
  case round =>
    obtain ⟨k, hkg, rfl, rfl, HR⟩ := hrel
    cases gk with
    | zero =>
      obtain rfl : k = N := by omega
      have hm : ∀ o ∈ l, o.new.length ≤ 2000 := by have := HR.out.1; rwa [HF.out] at this
      obtain ⟨S', hS', hP'⟩ := HPt.out wr _ HR.out.2.2 HR.out.2.1
      subst hS'
      have HP' := Lib.hid (And.intro HR.out.2.2 hP')
      have HAp2 := Lib.hid (HAp.out hm)
      have HRp2 := Lib.hid (HRp.out hm S')
      have HSi2 := Lib.hid (HSi.out hm)
      rw [HF.out]
      obtain ⟨y, hy⟩ : ∃ y, sizeI l = y := ⟨_, rfl⟩
      rw [hy] at HSi2 ⊢
      have hzz : (z == z) = true := by simp
      have hyy : ((y : Int) == (y : Int)) = true := by simp
      clear hy hm hP' HAp HRp HSi HC HSz HTk HSb HPt HF HR
      go_wp2_with (first
        | (go_at_call 36; refine (HAp2.out _ HP'.out.1).mono ?_; rintro e w3 ⟨R, rfl, hR, b3⟩; have H3 := Lib.hid (And.intro (HP'.out.1.trans (b3.mono HP'.out.1.size)) (And.intro hR (HP'.out.2.new b3))); clear b3 hR HAp2)
        | (go_at_call 37; refine (HRp2.out _ H3.out.1 H3.out.2.2).mono ?_; rintro e w4 ⟨T, rfl, hT, b4⟩; have H4 := Lib.hid (And.intro (H3.out.1.trans (b4.mono H3.out.1.size)) (And.intro (H3.out.2.1.new b4) hT)); clear b4 hT HRp2)
        | (go_at_call 34; refine (HEq.out R T _ H4.out.2.1 H4.out.2.2).mono ?_; rintro e w5 ⟨rfl, b5⟩; have H5 := Lib.hid (H4.out.1.trans (b5.mono H4.out.1.size)); clear b5 HEq)
        | (go_at_call 38; refine (HSi2.out _ H5.out).mono ?_; rintro e w6 ⟨rfl, b6⟩; have H6 := Lib.hid (H5.out.trans (b6.mono H5.out.size)); clear b6 HSi2)
        | (go_at_call 35; refine (l55alive_any _).mono ?_; rintro e w7 ⟨rfl, b7⟩; have H7 := Lib.hid (H6.out.trans (b7.mono H6.out.size)); clear b7)
        | fail)
      go_ret
      exact ⟨by simp, H7.out⟩
    | succ g1 =>
      have hk : k < N := by omega
      have hk2 : (k : Int) < N := by omega
      obtain ⟨e1, c0, c1, c2⟩ := HC.out k hk wr HR.out.2.2
      subst e1
      have hs := HSz.out k hk
      have hsbd := HSb.out k HR.out.1
      have HT2 := Lib.hid (HTk.out k hk HR.out.1)
      have HOw := Lib.hid HR.out.2.1
      have HBb := Lib.hid HR.out.2.2
      have HRow := Lib.hid (show rowsOf (opV l Sn) (k + 1) = rowsOf (opV l Sn) k ++ opV l Sn k from rowsOf_snoc _ _)
      unfold opV at HRow
      have hsw := HSB.out (by omega)
      obtain ⟨y, hy⟩ : ∃ y, sizeI (l.take k) = y := ⟨_, rfl⟩
      obtain ⟨o, ho⟩ : ∃ z, l.getD k default = z := ⟨_, rfl⟩
      rw [hy] at hs hsbd
      rw [ho] at hs HT2 c0 c1 c2
      rw [hy]
      have HRow2 := Lib.hid (show rowsOf (opV l Sn) (k + 1) = rowsOf (opV l Sn) k ++ [.int .i64 o.fr, .int .i64 o.many, .slice (Sn k).sp o.new.length (Sn k).c] by rw [← ho]; exact rowsOf_snoc _ _)
      obtain ⟨f, m, nw⟩ := o
      dsimp only at hs HT2 c0 c1 c2 HRow2
      obtain ⟨n, hn⟩ : ∃ z, nw.length = z := ⟨_, rfl⟩
      rw [hn] at hs HT2 c2 HRow2
      have HSn := Lib.hid hs
      obtain ⟨⟨p, pb, po, pc⟩, hS⟩ : ∃ s, Sn k = s := ⟨_, rfl⟩
      rw [hS] at c2 HRow2
      dsimp only at c2 HRow2
      have HCC := Lib.hid (fun (wx : World) (hb : Below w.heap.size w wx) => show wx.cell? ⟨sb, so + k * 3, none⟩ = some (.int .i64 f) ∧ wx.cell? ⟨sb, so + k * 3 + 1, none⟩ = some (.int .i64 m) ∧ wx.cell? ⟨sb, so + k * 3 + 2, none⟩ = some (.slice p n pc) from by
        obtain ⟨-, d0, d1, d2⟩ := HC.out k hk wx hb
        rw [ho] at d0 d1 d2
        rw [hn, hS] at d2
        exact ⟨d0, d1, d2⟩)
      clear hs hy ho hn hS HC HSz HTk HSb HR HRow HSB HAp HRp HSi HEq HPt HF
      by_cases hbig : 2000 < n
      · have hbi : (2000 : Int) < n := by omega
        go_wp2
        go_ret
        exact ⟨rfl, HBb.out⟩
      · have hbi : ¬ (2000 : Int) < n := by omega
        have HT3 := Lib.hid (HT2.out (by omega))
        have HN1 := Lib.hid (fun o => World.ownsRow.alloc (w := wr.drew) HOw.out o)
        have HL := Lib.hid (show w.heap.size ≤ (wr.drew.alloc (.cells #[.int .i64 f, .int .i64 m, .slice p n pc] 71)).heap.size by rw [World.size_alloc]; exact Nat.le_succ_of_le HBb.out.size)
        have HKK := Lib.hid (show ∀ j u, [.int .i64 f, .int .i64 m, .slice p n pc][j]? = some u → (wr.drew.alloc (.cells #[.int .i64 f, .int .i64 m, .slice p n pc] 71)).cell? ((⟨wr.heap.size, 0, none⟩ : Addr).add j) = some u from World.news_of_block (World.alloc_heap_new wr.drew (.cells #[.int .i64 f, .int .i64 m, .slice p n pc] 71)))
        have HG := Lib.hid (fun (w1 : World) (hg : World.grownBy (wr.drew.alloc (.cells #[.int .i64 f, .int .i64 m, .slice p n pc] 71)) w1 u5.ownBlock) =>
          Below.grown (Below.alloc (B := w.heap.size) (a := w) (w := wr.drew) ⟨HBb.out.os, HBb.out.tape, HBb.out.output, HBb.out.size, HBb.out.block⟩ HBb.out.size _) hg HL.out (fun j e => (HOw.out.lt j e).1))
        have H63 := Lib.hid (show k + 1 ≤ maxLen ∧ (k + 1) * 40 ≤ 140737488355328 by unfold maxLen; omega)
        have hk3 : (k : Int) + 1 ≤ 9223372036854775807 := by omega
        clear HT2
        go_upto_region 10 with fail
        go_region_held3 (fun w' => w'.cell? ⟨sb, so + k * 3, none⟩ = some (.int .i64 f) ∧ w'.cell? ⟨sb, so + k * 3 + 1, none⟩ = some (.int .i64 m) ∧ w'.cell? ⟨sb, so + k * 3 + 2, none⟩ = some (.slice p n pc)) (first | exact hcn | go_keep)
          (first
            | (refine step_append_lies _ rfl (.tmp 33) (.tmp 50) 67 rfl w.heap.size 71 i0 (.agg #[.int .i64 0, .int .i64 0, .slice none 0 0]) 3 40 Try.underlying67 hi hz0 hz1 hz2 rfl (by decide) _ k (rowsOf (opV l Sn) k) rfl (HN1.out _) ⟨wr.heap.size, 0, none⟩ 1 1 [.int .i64 f, .int .i64 m, .slice p n pc] rfl rfl HKK.out (by simp [Value.oneCell']) Nat.one_pos H63.out.1 H63.out.2 HL.out _ rfl ?_; intro g cap w1 hown1 hgrow hat hlt1; have hBn : Below w.heap.size w w1 := HG.out _ hgrow; have hcn := HCC.out w1 hBn))
        have HO := Lib.hid (And.intro hown1 hBn)
        obtain ⟨d0, d1, d2⟩ := hcn
        clear hown1 hgrow hat hBn c0 c1 c2
        by_cases hn0 : n = 0
        · subst hn0
          go_wp2
          go_roundg g1
          case measure => omega
          case rel => exact ⟨k + 1, by omega, by rw [HSn.out]; first | done | (congr 1; done) | (congr 1; omega), by go_num, HT3.out, by rw [HRow2.out]; exact HO.out.1, HO.out.2⟩
        · have hn1 : (0 : Int) < n := by omega
          have HNz := Lib.hid hn0
          have hw1 : IntKind.i64.wrap ((n : Int) - 1) = (n : Int) - 1 := by rw [IntKind.wrap_i64]; omega
          have hw2 : IntKind.i64.wrap ((y : Int) + 2 + ((n : Int) - 1)) = (y : Int) + 2 + ((n : Int) - 1) := by rw [IntKind.wrap_i64]; omega
          have hn2 : 0 < n := by omega
          clear hn0 hbi hbig
          go_wp2
          go_roundg g1
          case measure => omega
          case rel => exact ⟨k + 1, by omega, by rw [HSn.out]; first | done | (congr 1; done) | (congr 1; have := HNz.out; omega), by go_num, HT3.out, by rw [HRow2.out]; exact HO.out.1, HO.out.2⟩
end Go.Proofs.Ytjgnclhkoncnkaa
