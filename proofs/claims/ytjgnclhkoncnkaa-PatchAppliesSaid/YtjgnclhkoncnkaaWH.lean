/- The contract of the reference's Apply. -/
import Derived.Test.YtjgnclhkoncnkaaWF
namespace Go.Proofs.Ytjgnclhkoncnkaa
open Go.RowKit

set_option maxHeartbeats 16000000 in
set_option maxRecDepth 100000 in
theorem rapply_any {w : World} {A S : Src} {a : List Int} {l : List OpI} {Sn : Nat → Src} (ha : WAt w A a) (h : PAt w S l Sn) (la : a.length ≤ 4096) (hl : l.length ≤ 5000) (hm : ∀ o ∈ l, o.new.length ≤ 5000) (hf : ∀ o ∈ l, o.fr ≤ 9223372036854775807) :
    Calls Try.prog 37 #[.slice A.sp a.length A.c, .slice S.sp l.length S.c] w fun e w' => ∃ v, e = .returned (.tuple #[v, .int .i64 (applyM a l []).1]) ∧ w'.ownsRow w.heap.size 73 1 v (applyM a l []).2.length (rowU (applyM a l []).2) ∧ Below w.heap.size w w' := by
  obtain ⟨i0, hi, hz0, hz1, hz2⟩ := info_parts (show (Try.prog.info? 73).map (fun i => (i.zero, i.size, i.bytes)) = some (some (.int .u32 0), 1, 4) from by kernel_rfl)
  have HC := Lib.hid (fun (k : Nat) (hk : k < l.length) (wx : World) (hb : Below w.heap.size w wx) => And.intro (h.sl.at_ (by omega)).1 (And.intro ((h.new hb).c0 k hk) (And.intro ((h.new hb).c1 k hk) ((h.new hb).c2 k hk))))
  have HN := Lib.hid (fun (k : Nat) (hk : k < l.length) (wx : World) (hb : Below w.heap.size w wx) => And.intro ((h.new hb).nw k hk) (hf _ (mem_getD hk)))
  have HCut := Lib.hid (fun (x y : Nat) (h1 : x + y ≤ a.length) (h2 : 1 ≤ y) (wx : World) (hb : Below w.heap.size w wx) => (ha.new hb).cut x y h1 h2)
  have HSpA := Lib.hid (fun (h0 : 0 < a.length) => (ha.sl.at_ h0).1)
  have hcap := ha.cap
  have HS := Lib.hid (fun (k : Nat) (hk : k < l.length) (acc : List Int) => show applyM a (l.drop k) acc = (if pieceB a.length (l.getD k default) then (if 4096 < acc.length + (wordsI a (l.getD k default)).length then (64, []) else applyM a (l.drop (k + 1)) (acc ++ wordsI a (l.getD k default))) else (80, [])) ∧ (wordsI a (l.getD k default)).length ≤ 5000 ∧ (l.getD k default).new.length ≤ 5000 from by
    rw [drop_getI hk]
    exact ⟨rfl, words_len la (hm _ (mem_getD hk)), hm _ (mem_getD hk)⟩)
  have HE := Lib.hid (show ∀ acc, applyM a (l.drop l.length) acc = (0, acc) from fun acc => by rw [List.drop_length]; rfl)
  obtain ⟨R, hR⟩ : ∃ R, applyM a l [] = R := ⟨_, rfl⟩
  have HR0 := Lib.hid (show applyM a (l.drop 0) [] = R by rw [List.drop_zero, hR])
  rw [hR]
  obtain ⟨pa, qa, oa, ca⟩ := A
  obtain ⟨sp, sb, so, sc⟩ := S
  obtain ⟨N, hN⟩ : ∃ n, l.length = n := ⟨_, rfl⟩
  obtain ⟨M, hM⟩ : ∃ n, a.length = n := ⟨_, rfl⟩
  have HLenA := Lib.hid (fun (x y : Nat) (h1 : x + y ≤ M) => show ((a.drop x).take y).length = y from by rw [List.length_take, List.length_drop]; omega)
  dsimp only at HC HCut HSpA hcap ⊢
  rw [hN] at HC HN HS HE hl
  rw [hM] at HS la HCut HSpA hcap
  rw [hN, hM]
  clear ha h hm hf hN hM hR
  go_enter Try.func37, Try.ntmps37
  go_wp2
  go_loopg [6, 7] N (fun g x6 x7 wr => ∃ (k : Nat) (acc : List Int), k + g = N ∧ x7 = .int .i64 (k : Nat) ∧ Aside (applyM a (l.drop k) acc = R ∧ acc.length ≤ 4096 ∧ wr.ownsRow w.heap.size 73 1 x6 acc.length (rowU acc) ∧ Below w.heap.size w wr))
  case atStart => exact ⟨0, [], by omega, rfl, HR0.out, by simp, World.ownsRow_nil _ _ _ _, Below.refl _ _⟩
  case round =>
    obtain ⟨k, acc, hkg, rfl, HR⟩ := hrel
    cases gk with
    | zero =>
      obtain rfl : k = N := by omega
      have HX := Lib.hid (show R = (0, acc) by rw [← HR.out.1, HE.out])
      go_wp2
      go_ret2
      exact ⟨u6, by rw [HX.out]; rfl, by rw [HX.out]; exact HR.out.2.2.1, HR.out.2.2.2⟩
    | succ g1 =>
      have hk : k < N := by omega
      have hk2 : (k : Int) < N := by omega
      obtain ⟨e1, c0, c1, c2⟩ := HC.out k hk wr HR.out.2.2.2
      subst e1
      obtain ⟨hs, hwl, hnl⟩ := HS.out k hk acc
      have hacc := HR.out.2.1
      have HOw := Lib.hid HR.out.2.2.1
      have HBb := Lib.hid HR.out.2.2.2
      have HRr := Lib.hid HR.out.1
      have hfr := (HN.out k hk wr HBb.out).2
      have HNk := Lib.hid (fun (wx : World) hb => (HN.out k hk wx hb).1)
      obtain ⟨o, ho⟩ : ∃ z, l.getD k default = z := ⟨_, rfl⟩
      rw [ho] at hs hwl hnl c0 c1 c2 hfr HNk
      obtain ⟨f, m, nw⟩ := o
      dsimp only at c0 c1 c2 hnl hfr HNk
      obtain ⟨⟨p, qn, on, pc⟩, hS⟩ : ∃ s, Sn k = s := ⟨_, rfl⟩
      rw [hS] at c2 HNk
      dsimp only at c2
      obtain ⟨spv, capv, rfl⟩ := own_val HOw.out
      have HS2 := Lib.hid (hs.symm.trans HRr.out)
      clear hs ho hS HC HS HR HRr HN
      by_cases hnw : nw = []
      · subst hnw
        have HB1 := Lib.hid (show Below w.heap.size w (wr.alloc (.cells #[.int .i64 f, .int .i64 m, .slice p 0 pc] 71)) from HBb.out.alloc HBb.out.size _)
        have HO1 := Lib.hid (HOw.out.alloc (.cells #[.int .i64 f, .int .i64 m, .slice p 0 pc] 71))
        have hpb : pieceB M ⟨f, m, []⟩ = decide (0 ≤ f ∧ 1 ≤ m ∧ m ≤ M - f) := by unfold pieceB; rw [if_pos rfl]
        have hwd : wordsI a ⟨f, m, []⟩ = (a.drop f.toNat).take m.toNat := by unfold wordsI; rw [if_pos rfl]
        rw [hpb, hwd] at HS2
        rw [hwd] at hwl
        rw [show ([] : List Int).length = 0 from rfl] at c2
        clear hpb hwd HNk hnl
        by_cases x0 : f < 0
        · have HX := Lib.hid (show R = (80, []) by rw [← HS2.out, decide_eq_false (by omega)]; rfl)
          clear HS2 hwl
          go_wp2
          go_ret2
          exact ⟨_, by rw [HX.out]; rfl, by rw [HX.out]; exact World.ownsRow_nil _ _ _ _, HB1.out⟩
        by_cases x1 : m < 1
        · have HX := Lib.hid (show R = (80, []) by rw [← HS2.out, decide_eq_false (by omega)]; rfl)
          clear HS2 hwl
          go_wp2
          go_ret2
          exact ⟨_, by rw [HX.out]; rfl, by rw [HX.out]; exact World.ownsRow_nil _ _ _ _, HB1.out⟩
        by_cases x2 : (M : Int) ≤ f
        · have HX := Lib.hid (show R = (80, []) by rw [← HS2.out, decide_eq_false (by omega)]; rfl)
          clear HS2 hwl
          go_wp2
          go_ret2
          exact ⟨_, by rw [HX.out]; rfl, by rw [HX.out]; exact World.ownsRow_nil _ _ _ _, HB1.out⟩
        have hw1 : IntKind.i64.wrap ((M : Int) - f) = (M : Int) - f := by rw [IntKind.wrap_i64]; omega
        by_cases x3 : (M : Int) - f < m
        · have HX := Lib.hid (show R = (80, []) by rw [← HS2.out, decide_eq_false (by omega)]; rfl)
          clear HS2 hwl
          go_wp2
          go_ret2
          exact ⟨_, by rw [HX.out]; rfl, by rw [HX.out]; exact World.ownsRow_nil _ _ _ _, HB1.out⟩
        rw [decide_eq_true (by omega), if_pos rfl] at HS2
        obtain ⟨x, rfl⟩ := Int.eq_ofNat_of_zero_le (show 0 ≤ f by omega)
        obtain ⟨y, rfl⟩ := Int.eq_ofNat_of_zero_le (show 0 ≤ m by omega)
        simp only [Int.toNat_natCast] at HS2 hwl
        have hxy : x + y ≤ M := by omega
        have hy1 : 1 ≤ y := by omega
        have hcx : ¬ ca = x := by omega
        have hxi : (x : Int) ≤ (x : Int) + y := by omega
        have hyi : (x : Int) + y ≤ ca := by omega
        have hxM : (x : Int) < M := by omega
        have HW2 := Lib.hid (fun wx hb => (HCut.out x y hxy hy1 wx hb))
        obtain ⟨wd, hwd⟩ : ∃ z, (a.drop x).take y = z := ⟨_, rfl⟩
        have HL2 := Lib.hid (show wd.length = y by rw [← hwd]; exact HLenA.out x y hxy)
        rw [hwd] at HW2 HS2 hwl
        rw [HL2.out] at HS2 hwl
        obtain rfl := HSpA.out (by omega)
        clear HCut HLenA HSpA hwd hxy
        by_cases hbig : 4096 < acc.length + y
        · have hbi : (4096 : Int) < (acc.length : Int) + y := by omega
          have hbi2 : (4096 : Int) < ((acc.length + y : Nat) : Int) := by omega
          have HX := Lib.hid (show R = (64, []) by rw [← HS2.out, if_pos hbig])
          go_wp2_with (first
            | (at_builtin; refine wpList_append_vary rfl (.tmp 60) (.tmp 69) 63 rfl w.heap.size 73 i0 (.int .u32 0) 1 4 Try.underlying63 hi hz0 hz1 hz2 rfl (by decide) _ acc.length (rowU acc) rfl HO1.out (some ⟨qa, oa + x, none⟩) y (ca - x) (rowU wd) (by simp [Act.eval]) (by rw [rowU_len, HL2.out, Nat.mul_one]) (fun h => nomatch h) ((HW2.out _ HB1.out).news.2) (rowU_one _) (by unfold maxLen; omega) (by omega) HB1.out.size ?_; intro v' w4 hown hgrow hat; have HO := Lib.hid (And.intro (HB1.out.grown hgrow HB1.out.size (fun j hj => (HO1.out.lt j hj).1)) hown); obtain ⟨sp9, cap9, rfl⟩ := own_val hown; clear hown hgrow hat)
            | fail)
          go_ret2
          exact ⟨_, by rw [HX.out]; rfl, by rw [HX.out]; exact World.ownsRow_nil _ _ _ _, HO.out.1⟩
        · have hbi : ¬ (4096 : Int) < (acc.length : Int) + y := by omega
          have hbi2 : ¬ (4096 : Int) < ((acc.length + y : Nat) : Int) := by omega
          have HX := Lib.hid (show applyM a (l.drop (k + 1)) (acc ++ wd) = R by rw [← HS2.out, if_neg hbig])
          go_wp2_with (first
            | (at_builtin; refine wpList_append_vary rfl (.tmp 60) (.tmp 69) 63 rfl w.heap.size 73 i0 (.int .u32 0) 1 4 Try.underlying63 hi hz0 hz1 hz2 rfl (by decide) _ acc.length (rowU acc) rfl HO1.out (some ⟨qa, oa + x, none⟩) y (ca - x) (rowU wd) (by simp [Act.eval]) (by rw [rowU_len, HL2.out, Nat.mul_one]) (fun h => nomatch h) ((HW2.out _ HB1.out).news.2) (rowU_one _) (by unfold maxLen; omega) (by omega) HB1.out.size ?_; intro v' w4 hown hgrow hat; have HO := Lib.hid (And.intro (HB1.out.grown hgrow HB1.out.size (fun j hj => (HO1.out.lt j hj).1)) hown); obtain ⟨sp9, cap9, rfl⟩ := own_val hown; clear hown hgrow hat)
            | fail)
          go_roundg g1
          case measure => omega
          case rel => exact ⟨k + 1, acc ++ wd, by omega, by go_num, HX.out, by rw [List.length_append, HL2.out]; omega, by
            have ho := HO.out.2
            rw [List.length_append, HL2.out]
            rw [show rowU (acc ++ wd) = rowU acc ++ rowU wd by simp [rowU]]
            exact ho, HO.out.1⟩
      · have hnp : 0 < nw.length := List.length_pos_iff.2 hnw
        have hpb : pieceB M ⟨f, m, nw⟩ = decide (f = 0 ∧ m = 0) := by unfold pieceB; rw [if_neg hnw]
        have hwd : wordsI a ⟨f, m, nw⟩ = nw := by unfold wordsI; rw [if_neg hnw]
        rw [hpb, hwd] at HS2
        rw [hwd] at hwl
        obtain ⟨n, hn⟩ : ∃ z, nw.length = z := ⟨_, rfl⟩
        have HL2 := Lib.hid hn
        rw [hn] at hnp hwl hnl c2 HS2
        have HB1 := Lib.hid (show Below w.heap.size w (wr.alloc (.cells #[.int .i64 f, .int .i64 m, .slice p n pc] 71)) from HBb.out.alloc HBb.out.size _)
        have HO1 := Lib.hid (HOw.out.alloc (.cells #[.int .i64 f, .int .i64 m, .slice p n pc] 71))
        have hnp2 : (0 : Int) < n := by omega
        clear hpb hwd hn HCut HLenA HSpA hnw
        by_cases x0 : f = 0
        · subst x0
          by_cases x1 : m = 0
          · subst x1
            rw [show decide ((0 : Int) = 0 ∧ (0 : Int) = 0) = true from rfl, if_pos rfl] at HS2
            by_cases hbig : 4096 < acc.length + n
            · have hbi : (4096 : Int) < (acc.length : Int) + n := by omega
              have hbi2 : (4096 : Int) < ((acc.length + n : Nat) : Int) := by omega
              have HX := Lib.hid (show R = (64, []) by rw [← HS2.out, if_pos hbig])
              go_wp2_with (first
                | (at_builtin; refine wpList_append_vary rfl (.tmp 31) (.tmp 33) 63 rfl w.heap.size 73 i0 (.int .u32 0) 1 4 Try.underlying63 hi hz0 hz1 hz2 rfl (by decide) _ acc.length (rowU acc) rfl HO1.out p n pc (rowU nw) (by simp [Act.eval]) (by rw [rowU_len, HL2.out, Nat.mul_one]) (fun h => by rw [← HL2.out]; exact (HNk.out _ HB1.out).news.1 h) ((HNk.out _ HB1.out).news.2) (rowU_one _) (by unfold maxLen; omega) (by omega) HB1.out.size ?_; intro v' w4 hown hgrow hat; have HO := Lib.hid (And.intro (HB1.out.grown hgrow HB1.out.size (fun j hj => (HO1.out.lt j hj).1)) hown); obtain ⟨sp9, cap9, rfl⟩ := own_val hown; clear hown hgrow hat)
                | fail)
              go_ret2
              exact ⟨_, by rw [HX.out]; rfl, by rw [HX.out]; exact World.ownsRow_nil _ _ _ _, HO.out.1⟩
            · have hbi : ¬ (4096 : Int) < (acc.length : Int) + n := by omega
              have hbi2 : ¬ (4096 : Int) < ((acc.length + n : Nat) : Int) := by omega
              have HX := Lib.hid (show applyM a (l.drop (k + 1)) (acc ++ nw) = R by rw [← HS2.out, if_neg hbig])
              go_wp2_with (first
                | (at_builtin; refine wpList_append_vary rfl (.tmp 31) (.tmp 33) 63 rfl w.heap.size 73 i0 (.int .u32 0) 1 4 Try.underlying63 hi hz0 hz1 hz2 rfl (by decide) _ acc.length (rowU acc) rfl HO1.out p n pc (rowU nw) (by simp [Act.eval]) (by rw [rowU_len, HL2.out, Nat.mul_one]) (fun h => by rw [← HL2.out]; exact (HNk.out _ HB1.out).news.1 h) ((HNk.out _ HB1.out).news.2) (rowU_one _) (by unfold maxLen; omega) (by omega) HB1.out.size ?_; intro v' w4 hown hgrow hat; have HO := Lib.hid (And.intro (HB1.out.grown hgrow HB1.out.size (fun j hj => (HO1.out.lt j hj).1)) hown); obtain ⟨sp9, cap9, rfl⟩ := own_val hown; clear hown hgrow hat)
                | fail)
              go_roundg g1
              case measure => omega
              case rel => exact ⟨k + 1, acc ++ nw, by omega, by go_num, HX.out, by rw [List.length_append, HL2.out]; omega, by
                have ho := HO.out.2
                rw [List.length_append, HL2.out]
                rw [show rowU (acc ++ nw) = rowU acc ++ rowU nw by simp [rowU]]
                exact ho, HO.out.1⟩
          · have HX := Lib.hid (show R = (80, []) by rw [← HS2.out, decide_eq_false (fun h => x1 h.2)]; rfl)
            have x1b : (m != 0) = true := by simp; omega
            go_wp2
            go_ret2
            exact ⟨_, by rw [HX.out]; rfl, by rw [HX.out]; exact World.ownsRow_nil _ _ _ _, HB1.out⟩
        · have HX := Lib.hid (show R = (80, []) by rw [← HS2.out, decide_eq_false (fun h => x0 h.1)]; rfl)
          have x0b : (f != 0) = true := by simp; omega
          go_wp2
          go_ret2
          exact ⟨_, by rw [HX.out]; rfl, by rw [HX.out]; exact World.ownsRow_nil _ _ _ _, HB1.out⟩
end Go.Proofs.Ytjgnclhkoncnkaa
