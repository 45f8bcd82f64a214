/- The walk of FixGrows. -/
import Derived.Test.YtjgnclhkoncnkaaZG
namespace Go.Proofs.Ytjgnclhkoncnkaa
open Go.RowKit

/-- All terms but the first one. -/
theorem TermsAt.tail {V : Nat → Prop} {w : World} {S : Src} {L : List Tm} (h : TermsAt w V S L) (sp' : Option Addr) (c' : Nat) (hsp : 1 < L.length → sp' = some ⟨S.b, S.o + 4, none⟩) : TermsAt w V ⟨sp', S.b, S.o + 4, c'⟩ L.tail := by
  have hl : L.tail.length = L.length - 1 := List.length_tail
  refine ⟨⟨fun h0 => ?_, ?_⟩, fun k hk => ?_⟩
  · have hp : 1 < L.length := by omega
    exact ⟨hsp hp, (h.sl.at_ (by omega)).2⟩
  · have := h.sl.sm; omega
  · have := h.at_ (k + 1) (by omega)
    rw [show L.tail.getD k default = L.getD (k + 1) default by cases L <;> simp]
    show At w S.b (S.o + 4 + k * 4) _
    rw [show S.o + 4 + k * 4 = S.o + (k + 1) * 4 by omega]
    exact this
theorem grows_a {own : Int} {L : List Tm} (hg : ∀ x ∈ L, GoodT x) (hl : L.length ≤ 20) (h0 : 0 ≤ own) (ho : own ≤ 100000) : tB (lookR own 3000 L) = true → tB (lookR own 3000 L.tail) = true ∧ tT (lookR own 3000 L.tail) ≤ tT (lookR own 3000 L) := by
  have hgt : ∀ x ∈ L.tail, GoodT x := fun x hx => hg x (List.mem_of_mem_tail hx)
  have hlt : L.tail.length ≤ 20 := by rw [List.length_tail]; omega
  refine lookR_mono h0 (Int.le_refl _) (fun t h1 h2 => ⟨_, good_ff hgt hlt h0 (by omega) h1 h2⟩) (fun t h1 h2 => ⟨_, good_ff hg hl h0 (by omega) h1 h2⟩) fun t n n' h1 h2 a b => ?_
  rw [good_ff hgt hlt h0 (by omega) h1 h2] at a
  rw [good_ff hg hl h0 (by omega) h1 h2] at b
  obtain rfl := Option.some.inj a
  obtain rfl := Option.some.inj b
  rw [valL_eq (good_ok hgt hlt h1 h2).1, valL_eq (good_ok hg hl h1 h2).1]
  cases L with
  | nil => simp
  | cons x r =>
    have := (hg x (List.mem_cons_self ..)).work h1 h2
    have := tmN_mono this.1 (by omega) (Int.le_refl t)
    rw [sumL_cons, List.tail_cons]; omega
theorem grows_b {own more : Int} {L : List Tm} (hg : ∀ x ∈ L, GoodT x) (hl : L.length ≤ 20) (h0 : 0 ≤ own) (ho : own ≤ 100000) (hm : 0 ≤ more) (hm2 : more ≤ 100000) : tB (lookR (own + more) 3000 L) = true → tB (lookR own 3000 L) = true ∧ tT (lookR own 3000 L) ≤ tT (lookR (own + more) 3000 L) := by
  refine lookR_mono h0 (by omega) (fun t h1 h2 => ⟨_, good_ff hg hl h0 (by omega) h1 h2⟩) (fun t h1 h2 => ⟨_, good_ff hg hl (by omega) (by omega) h1 h2⟩) fun t n n' h1 h2 a b => ?_
  rw [good_ff hg hl h0 (by omega) h1 h2] at a
  rw [good_ff hg hl (by omega) (by omega) h1 h2] at b
  obtain rfl := Option.some.inj a
  obtain rfl := Option.some.inj b
  omega
set_option maxHeartbeats 8000000 in
set_option maxRecDepth 100000 in
theorem law_grows {w : World} {V : Nat → Prop} {S : Src} {L : List Tm} (h : TermsAt w V S L) (hcap : L.length ≤ S.c) (own more : Int) :
    Calls Try.prog 5 #[.int .i64 own, .int .i64 more, .slice S.sp L.length S.c] w fun e w' => e = .returned (.bool true) ∧ Below w.heap.size w w' := by
  have HCell := Lib.hid (fun (k : Nat) (hk : k < L.length) (wx : World) (hb : Below w.heap.size w wx) => (h.new hb).at_ k hk)
  have HSp := Lib.hid (fun (h0 : 0 < L.length) => (h.sl.at_ h0).1)
  have HTl := Lib.hid (fun (hl : L.length ≤ 20) (sp' : Option Addr) (c' : Nat) (hsp : 1 < L.length → sp' = some ⟨S.b, S.o + 4, none⟩) (wx : World) (hb : Below w.heap.size w wx) => show Calls Try.prog 14 #[.int .i64 own, .int .i64 3000, .slice sp' (L.length - 1) c'] wx fun e w' => e = .returned (.tuple #[.int .i64 (tT (lookR own 3000 L.tail)), .bool (tB (lookR own 3000 L.tail))]) ∧ Below wx.heap.size wx w' from by
    have := least_any ((h.new hb).tail sp' c' hsp) (show L.tail.length ≤ 1000 by rw [List.length_tail]; omega) own 3000 (by omega)
    rw [List.length_tail] at this
    exact this)
  have HLe := Lib.hid (fun (hl : L.length ≤ 20) (wx : World) (hb : Below w.heap.size w wx) => least_any (h.new hb) (show L.length ≤ 1000 by omega) own 3000 (by omega))
  have HLm := Lib.hid (fun (hl : L.length ≤ 20) (wx : World) (hb : Below w.heap.size w wx) => least_any (h.new hb) (show L.length ≤ 1000 by omega) (own + more) 3000 (by omega))
  have HA := Lib.hid (fun (hl : L.length ≤ 20) (h0 : 0 ≤ own) (ho : own ≤ 100000) (hg : ∀ k, k < L.length → GoodT (L.getD k default)) => grows_a (getD_mem hg) hl h0 ho)
  have HBm := Lib.hid (fun (hl : L.length ≤ 20) (h0 : 0 ≤ own) (ho : own ≤ 100000) (hm : 0 ≤ more) (hm2 : more ≤ 100000) (hg : ∀ k, k < L.length → GoodT (L.getD k default)) => grows_b (getD_mem hg) hl h0 ho hm hm2)
  obtain ⟨sp, hspn⟩ : ∃ s, S.sp = s := ⟨_, rfl⟩
  obtain ⟨b, hb⟩ : ∃ s, S.b = s := ⟨_, rfl⟩
  obtain ⟨o, ho'⟩ : ∃ s, S.o = s := ⟨_, rfl⟩
  obtain ⟨c, hc⟩ : ∃ s, S.c = s := ⟨_, rfl⟩
  obtain ⟨N, hN⟩ : ∃ s, L.length = s := ⟨_, rfl⟩
  have HN := Lib.hid hN
  rw [hb, ho', hN] at HCell
  rw [hspn, hb, ho', hN] at HSp
  rw [hb, ho', hN] at HTl
  rw [hspn, hc, hN] at HLe HLm
  rw [hN] at HA HBm hcap
  rw [hc] at hcap
  rw [hspn, hc, hN]
  clear h hspn hb ho' hc hN
  generalize lookR own 3000 L.tail = R1 at HTl HA
  generalize lookR own 3000 L = R2 at HLe HA HBm
  generalize lookR (own + more) 3000 L = R3 at HLm HBm
  by_cases g0 : N < 1
  · have g0i : (N : Int) < 1 := by omega
    go_enter Try.func5, Try.ntmps5
    go_wp2
    go_ret
    exact ⟨rfl, Below.refl _ _⟩
  have g0i : ¬ (N : Int) < 1 := by omega
  by_cases g1 : 20 < N
  · have g1i : (20 : Int) < (N : Int) := by omega
    go_enter Try.func5, Try.ntmps5
    go_wp2
    go_ret
    exact ⟨rfl, Below.refl _ _⟩
  have g1i : ¬ (20 : Int) < (N : Int) := by omega
  by_cases g2 : own < 0
  · go_enter Try.func5, Try.ntmps5
    go_wp2
    go_ret
    exact ⟨rfl, Below.refl _ _⟩
  by_cases g3 : 100000 < own
  · go_enter Try.func5, Try.ntmps5
    go_wp2
    go_ret
    exact ⟨rfl, Below.refl _ _⟩
  by_cases g4 : more < 0
  · go_enter Try.func5, Try.ntmps5
    go_wp2
    go_ret
    exact ⟨rfl, Below.refl _ _⟩
  by_cases g5 : 100000 < more
  · go_enter Try.func5, Try.ntmps5
    go_wp2
    go_ret
    exact ⟨rfl, Below.refl _ _⟩
  have HTl2 := Lib.hid (HTl.out (by omega))
  have HLe2 := Lib.hid (HLe.out (by omega))
  have HLm2 := Lib.hid (HLm.out (by omega))
  have HA2 := Lib.hid (HA.out (by omega) (by omega) (by omega))
  have HB2 := Lib.hid (HBm.out (by omega) (by omega) (by omega) (by omega) (by omega))
  clear HTl HLe HLm HA HBm
  go_enter Try.func5, Try.ntmps5
  go_wp2
  go_loopg [7] N (fun g u wr => ∃ k : Nat, k + g = N ∧ u = .int .i64 (k : Nat) ∧ Aside ((∀ j, j < k → GoodT (L.getD j default)) ∧ Below w.heap.size w wr))
  case atStart => exact ⟨0, by omega, rfl, fun j hj => by omega, Below.refl _ _⟩
  case round =>
    obtain ⟨k, hkg, rfl, HR⟩ := hrel
    cases gk with
    | zero =>
      obtain rfl : k = N := by omega
      have HG := Lib.hid HR.out.1
      have HB := Lib.hid HR.out.2
      clear HR HCell
      have HSpN := Lib.hid (fun (h0 : 0 < k) => HSp.out h0)
      have hA := HA2.out HG.out
      have hB := HB2.out HG.out
      have HAA := Lib.hid hA
      have HBB := Lib.hid hB
      obtain rfl := HSpN.out (by omega)
      clear HG HA2 HB2 HSpN HSp hA hB
      generalize tT R1 = t1 at HTl2 HAA
      generalize tB R1 = b1 at HTl2 HAA
      generalize tT R2 = t2 at HLe2 HAA HBB
      generalize tB R2 = b2 at HLe2 HAA HBB
      generalize tT R3 = t3 at HLm2 HBB
      generalize tB R3 = b3 at HLm2 HBB
      have hk1 : 1 ≤ k := by omega
      go_upto_region 9 with fail
      go_cut [9, 10] from 87 to 93 (fun s9 s10 wx => s9 = .int .i64 t1 ∧ s10 = .bool b1 ∧ Below w.heap.size w wx)
      case first => as_aux_lemma =>
        by_cases hc1 : c = 1
        · obtain rfl := hc1
          have HT3 := Lib.hid (HTl2.out (some ⟨b, o, none⟩) 0 (fun h1 => by omega) _ HB.out)
          rw [show k - 1 = 0 by omega] at HT3
          go_wp2_with (go_at_call 14; refine HT3.out.mono ?_; rintro e w3 ⟨rfl, b3⟩; have H3 := Lib.hid (HB.out.trans (b3.mono HB.out.size)); clear b3 HT3)
          go_meet
          case rel => exact ⟨rfl, rfl, H3.out⟩
        · have HT3 := Lib.hid (HTl2.out (some ⟨b, o + 4, none⟩) (c - 1) (fun h1 => rfl) _ HB.out)
          go_wp2_with (go_at_call 14; refine HT3.out.mono ?_; rintro e w3 ⟨rfl, b3⟩; have H3 := Lib.hid (HB.out.trans (b3.mono HB.out.size)); clear b3 HT3)
          go_meet
          case rel => exact ⟨rfl, rfl, H3.out⟩
      case rest =>
      obtain ⟨rfl, rfl, hB1⟩ := hcut
      have HB1 := Lib.hid hB1
      clear hB1 HTl2 HB
      cases b2 with
      | false =>
        obtain rfl : b3 = false := by cases b3 with | false => rfl | true => cases (HBB.out rfl).1
        clear HAA HBB
        go_wp2_with (first
          | (go_at_call 14; refine (HLe2.out _ HB1.out).mono ?_; clear HLe2; rintro e w4 ⟨rfl, b4⟩; have H4 := Lib.hid (HB1.out.trans (b4.mono HB1.out.size)); clear b4)
          | (go_at_call 14; refine (HLm2.out _ H4.out).mono ?_; clear HLm2; rintro e w5 ⟨rfl, b5⟩; have H5 := Lib.hid (H4.out.trans (b5.mono H4.out.size)); clear b5)
          | (go_at_call 17; refine (l17alive_any _).mono ?_; rintro e w6 ⟨rfl, b6⟩; have H6 := Lib.hid (H5.out.trans (b6.mono H5.out.size)); clear b6)
          | fail)
        go_ret
        exact ⟨by simp, H6.out⟩
      | true =>
        obtain ⟨rfl, hle⟩ := HAA.out rfl
        clear HAA
        cases b3 with
        | false =>
          clear HBB
          go_wp2_with (first
            | (go_at_call 14; refine (HLe2.out _ HB1.out).mono ?_; clear HLe2; rintro e w4 ⟨rfl, b4⟩; have H4 := Lib.hid (HB1.out.trans (b4.mono HB1.out.size)); clear b4)
            | (go_at_call 14; refine (HLm2.out _ H4.out).mono ?_; clear HLm2; rintro e w5 ⟨rfl, b5⟩; have H5 := Lib.hid (H4.out.trans (b5.mono H4.out.size)); clear b5)
            | (go_at_call 17; refine (l17alive_any _).mono ?_; rintro e w6 ⟨rfl, b6⟩; have H6 := Lib.hid (H5.out.trans (b6.mono H5.out.size)); clear b6)
            | fail)
          go_ret
          exact ⟨by simp, H6.out⟩
        | true =>
          have hle2 := (HBB.out rfl).2
          clear HBB
          go_wp2_with (first
            | (go_at_call 14; refine (HLe2.out _ HB1.out).mono ?_; clear HLe2; rintro e w4 ⟨rfl, b4⟩; have H4 := Lib.hid (HB1.out.trans (b4.mono HB1.out.size)); clear b4)
            | (go_at_call 14; refine (HLm2.out _ H4.out).mono ?_; clear HLm2; rintro e w5 ⟨rfl, b5⟩; have H5 := Lib.hid (H4.out.trans (b5.mono H4.out.size)); clear b5)
            | (go_at_call 17; refine (l17alive_any _).mono ?_; rintro e w6 ⟨rfl, b6⟩; have H6 := Lib.hid (H5.out.trans (b6.mono H5.out.size)); clear b6)
            | fail)
          go_ret
          exact ⟨by simp, H6.out⟩

    | succ g1 =>
      have hk : k < N := by omega
      obtain rfl := HSp.out (by omega)
      have hc := HCell.out k hk wr HR.out.2
      have HG := Lib.hid (fun (hx : GoodT (L.getD k default)) => show ∀ j, j < k + 1 → GoodT (L.getD j default) from fun j hj => by
        by_cases e : j = k
        · subst e; exact hx
        · exact HR.out.1 j (by omega))
      obtain ⟨t, ht⟩ : ∃ t, L.getD k default = t := ⟨_, rfl⟩
      rw [ht] at hc HG
      obtain ⟨P, C, O, K⟩ := t
      have c0 : wr.cell? ⟨b, o + k * 4, none⟩ = some (.int .i64 P) := hc 0 _ rfl
      have c1 : wr.cell? ⟨b, o + k * 4 + 1, none⟩ = some (.int .i64 C) := hc 1 _ rfl
      have c2 : wr.cell? ⟨b, o + k * 4 + 2, none⟩ = some (.int .i64 O) := hc 2 _ rfl
      have c3 : wr.cell? ⟨b, o + k * 4 + 3, none⟩ = some (.int .i64 K) := hc 3 _ rfl
      have hk2 : (k : Int) < (N : Int) := by omega
      have hk3 : (k : Int) + 1 ≤ 9223372036854775807 := by omega
      have HBb := Lib.hid (HR.out.2.alloc HR.out.2.size (.cells #[.int .i64 P, .int .i64 C, .int .i64 O, .int .i64 K] 32))
      clear hc ht HCell HSp
      by_cases x0 : P < 1
      · go_wp2
        go_ret
        exact ⟨rfl, HBb.out⟩
      by_cases x1 : 1099511627776 < P
      · go_wp2
        go_ret
        exact ⟨rfl, HBb.out⟩
      by_cases x2 : C < 0
      · go_wp2
        go_ret
        exact ⟨rfl, HBb.out⟩
      by_cases x3 : 100000 < C
      · go_wp2
        go_ret
        exact ⟨rfl, HBb.out⟩
      by_cases x4 : O < 0
      · go_wp2
        go_ret
        exact ⟨rfl, HBb.out⟩
      by_cases x5 : 100000 < O
      · go_wp2
        go_ret
        exact ⟨rfl, HBb.out⟩
      by_cases x6 : K < 0
      · go_wp2
        go_ret
        exact ⟨rfl, HBb.out⟩
      by_cases x7 : 100000 < K
      · go_wp2
        go_ret
        exact ⟨rfl, HBb.out⟩
      have HX := Lib.hid (HG.out ⟨⟨by show 1 ≤ P; omega, by show P ≤ 1099511627776; omega⟩, ⟨by show 0 ≤ C; omega, by show C ≤ 100000; omega⟩, ⟨by show 0 ≤ O; omega, by show O ≤ 100000; omega⟩, ⟨by show 0 ≤ K; omega, by show K ≤ 100000; omega⟩⟩)
      clear HG
      go_wp2
      go_roundg g1
      case measure => omega
      case rel => exact ⟨k + 1, by omega, by go_num, HX.out, HBb.out⟩
end Go.Proofs.Ytjgnclhkoncnkaa
