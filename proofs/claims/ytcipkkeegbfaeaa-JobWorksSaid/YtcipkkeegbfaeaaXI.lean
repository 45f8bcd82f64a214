/- What job's Sections goes through. -/
import Derived.Test.YtcipkkeegbfaeaaXH
import Derived.Test.YtcipkkeegbfaeaaFoot2
import Derived.Test.YtcipkkeegbfaeaaSi
import Derived.Test.YtcipkkeegbfaeaaFoot
import Derived.RecoverIn
import Derived.OwnWalkIn
import Derived.TacticsInMore
import Derived.RegionIn
import Derived.LoopNIn
import Derived.LoopIn
import Derived.Shelf.Abstract
import Derived.Shelf.RegionOpen
import Derived.Sort.LoopGhostIn
import Derived.StillTail
import Derived.StillTactics
import Derived.StillTailTactics
import Derived.Deep.RegionWith
import Derived.Deep.RegionHeld3
import Derived.RangeFuncRecord
import Derived.RangeFuncNested
import Derived.RangeFuncBound
namespace Go.Proofs.Ytcipkkeegbfaeaa
open Go.RowKit
attribute [local go_sem] Oper.semAt_some

/-- A section is met: the list so far, and the tick behind its last one. -/
def oneJ (lon : Nat → Int) (cost : Int) (p : List Sec × Int) (s : Sec) : List Sec × Int :=
  if p.1.length = 8 then p else if cutB lon p.2 cost s = true then (p.1 ++ [cutS lon cost s], (cutS lon cost s).t) else p
/-- The first n of them are met. -/
def goJ (lon : Nat → Int) (cost : Int) (L : Nat → Sec) : Nat → List Sec × Int
  | 0 => ([], 0)
  | n + 1 => oneJ lon cost (goJ lon cost L n) (L n)
/-- What is gone through. -/
def secsJ (lon : Nat → Int) (cost : Int) (L : Nat → Sec) (n : Nat) : List Sec := (goJ lon cost L n).1
theorem goJ_full {lon : Nat → Int} {cost : Int} {L : Nat → Sec} {k : Nat} (h : (goJ lon cost L k).1.length = 8) : ∀ n, goJ lon cost L (k + n) = goJ lon cost L k
  | 0 => rfl
  | n + 1 => by
    have ih := goJ_full h n
    show oneJ lon cost (goJ lon cost L (k + n)) (L (k + n)) = _
    rw [ih, oneJ, if_pos h]
theorem goJ_len (lon : Nat → Int) (cost : Int) (L : Nat → Sec) : ∀ n, (goJ lon cost L n).1.length ≤ 8
  | 0 => by simp [goJ]
  | n + 1 => by
    have ih := goJ_len lon cost L n
    show (oneJ lon cost (goJ lon cost L n) (L n)).1.length ≤ 8
    unfold oneJ
    split
    · exact ih
    · split
      · rw [List.length_append]; simp; omega
      · exact ih
theorem goJ_pre (lon : Nat → Int) (cost : Int) (L : Nat → Sec) (k : Nat) : ∀ n, ∃ l, (goJ lon cost L (k + n)).1 = (goJ lon cost L k).1 ++ l
  | 0 => ⟨[], (List.append_nil _).symm⟩
  | n + 1 => by
    obtain ⟨l, hl⟩ := goJ_pre lon cost L k n
    show ∃ l, (oneJ lon cost (goJ lon cost L (k + n)) (L (k + n))).1 = _
    unfold oneJ
    split
    · exact ⟨l, hl⟩
    · split
      · exact ⟨l ++ [cutS lon cost (L (k + n))], by rw [hl, List.append_assoc]⟩
      · exact ⟨l, hl⟩
theorem goJ_yes {lon : Nat → Int} {cost : Int} {L : Nat → Sec} {k : Nat} (h8 : (goJ lon cost L k).1.length ≠ 8) (h : cutB lon (goJ lon cost L k).2 cost (L k) = true) : goJ lon cost L (k + 1) = ((goJ lon cost L k).1 ++ [cutS lon cost (L k)], (cutS lon cost (L k)).t) := by
  show oneJ _ _ _ _ = _
  rw [oneJ, if_neg h8, if_pos h]
theorem goJ_no {lon : Nat → Int} {cost : Int} {L : Nat → Sec} {k : Nat} (h : cutB lon (goJ lon cost L k).2 cost (L k) = false) : goJ lon cost L (k + 1) = goJ lon cost L k := by
  show oneJ _ _ _ _ = _
  rw [oneJ]
  split
  · rfl
  · rw [if_neg (by rw [h]; simp)]
theorem goJ_at {lon : Nat → Int} {cost : Int} {L : Nat → Sec} {k n : Nat} (hk : k < n) (h8 : (goJ lon cost L k).1.length ≠ 8) (h : cutB lon (goJ lon cost L k).2 cost (L k) = true) :
    (goJ lon cost L k).1.length < (secsJ lon cost L n).length ∧ (secsJ lon cost L n).getD (goJ lon cost L k).1.length default = cutS lon cost (L k) := by
  obtain ⟨l, hl⟩ := goJ_pre lon cost L (k + 1) (n - (k + 1))
  rw [show k + 1 + (n - (k + 1)) = n by omega, goJ_yes h8 h] at hl
  unfold secsJ
  rw [hl]
  constructor
  · simp
  · simp
/-- Behind the tick from which a section may begin lies no negative one. -/
theorem goJ_from (lon : Nat → Int) (cost : Int) (L : Nat → Sec) : ∀ n, 0 ≤ (goJ lon cost L n).2 ∧ (goJ lon cost L n).2 ≤ max 0 cost
  | 0 => by simp [goJ]; omega
  | n + 1 => by
    have ih := goJ_from lon cost L n
    show 0 ≤ (oneJ lon cost (goJ lon cost L n) (L n)).2 ∧ (oneJ lon cost (goJ lon cost L n) (L n)).2 ≤ max 0 cost
    unfold oneJ
    split
    · exact ih
    · split
      · rename_i h
        simp only [cutB, Bool.and_eq_true, Bool.not_eq_true', decide_eq_false_iff_not] at h
        obtain ⟨-, -, h3, h4, h5, h6⟩ := h
        simp only [cutS, min3]
        constructor <;> (repeat' split) <;> omega
      · exact ih
/-- What is handed over in a round. -/
def secA (s : Sec) : Array Value := #[.agg #[.int .i64 s.r, .int .i64 s.f, .int .i64 s.t]]
/-- Where the iterator's things lie: apart from F. -/
structure SecsAt (w : World) (F : World → Nat → Prop) (Tb Cb : Nat) (a0 a1 a2 : Int) (lon : Nat → Int) (cost : Int) (S : Src) (n : Nat) (L : Nat → Sec) : Prop where
  t : RowAt w Tb 62 (task11 a0 a1 a2 lon)
  c : w.cell? ⟨Cb, 0, none⟩ = some (.int .i64 cost)
  e : ∀ k, k < n → At w S.b (S.o + k * 3) (secC (L k))
  nT : ¬ F w Tb
  nC : ¬ F w Cb
  nS : 0 < n → ¬ F w S.b
theorem SecsAt.step {w w' : World} {F : World → Nat → Prop} {Tb Cb : Nat} {a0 a1 a2 : Int} {lon : Nat → Int} {cost : Int} {S : Src} {n : Nat} {L : Nat → Sec} (h : SecsAt w F Tb Cb a0 a1 a2 lon cost S n L) (hs : Step F w w') : SecsAt w' F Tb Cb a0 a1 a2 lon cost S n L where
  t := h.t.keep hs.1 h.nT
  c := hs.1.cell h.c h.nC
  e := fun k hk => (h.e k hk).keep hs.1 (h.nS (by omega))
  nT := hs.no h.nT h.t.lt
  nC := hs.no h.nC (World.block_lt_of_cell? w _ h.c)
  nS := fun h0 => hs.no (h.nS h0) (World.block_lt_of_cell? w _ ((h.e 0 h0) 0 _ rfl))
theorem SecsAt.new {w w' : World} {F : World → Nat → Prop} {I : World → Prop} {Tb Cb : Nat} {a0 a1 a2 : Int} {lon : Nat → Int} {cost : Int} {S : Src} {n : Nat} {L : Nat → Sec} (h : SecsAt w F Tb Cb a0 a1 a2 lon cost S n L) (fI : Foot F I) (hI : I w) (hb : Below w.heap.size w w') : SecsAt w' F Tb Cb a0 a1 a2 lon cost S n L ∧ I w' := by
  obtain ⟨h1, h2⟩ := fI.keep _ _ hI (Off.new hb)
  have hc : Ch (fun _ => False) w w' := Ch.new hb
  exact ⟨⟨h.t.new hb, hc.cell h.c (fun h => h), fun k hk => (h.e k hk).keep hc (fun h => h), fun hf => h.nT (h2 _ hf), fun hf => h.nC (h2 _ hf), fun h0 hf => h.nS h0 (h2 _ hf)⟩, h1⟩
theorem sec_keep {F : World → Nat → Prop} {I : World → Prop} (fI : Foot F I) {w : World} (hI : I w) (t : TypeId) {x y z : Int} : ∀ W', Step F (w.alloc (.cells #[.int .i64 x, .int .i64 y, .int .i64 z] t)) W' → W'.cell? ⟨w.heap.size, 2, none⟩ = some (.int .i64 z) := by
  intro W' hs
  obtain ⟨h1, h2⟩ := fI.keep _ _ hI (Off.new ((Below.refl _ w).alloc (Nat.le_refl _) (.cells #[.int .i64 x, .int .i64 y, .int .i64 z] t)))
  exact hs.1.cell (p := ⟨w.heap.size, 2, none⟩) ((RowAt.mk w t _).cell 2) (fun hf => by have := fI.lt _ hI _ (h2 _ hf); simp at this)
set_option maxHeartbeats 4000000 in
set_option maxRecDepth 100000 in
theorem sections_in (l Ob Tb Cb : Nat) (a0 a1 a2 : Int) (lon : Nat → Int) (cost : Int) (S : Src) (n : Nat) (L : Nat → Sec) (F : World → Nat → Prop) (J Jx : Nat → World → Prop) (W : World)
    (hi : ∀ k, k < n → (-9223372036854775808 ≤ (L k).t ∧ (L k).t ≤ 9223372036854775807)) (hc0 : -9223372036854775808 ≤ cost ∧ cost ≤ 9223372036854775807) (hn : n ≤ 1000)
    (ho : W.cell? ⟨Ob, 0, none⟩ = some (.slice S.sp n S.c)) (hsp : 0 < n → S.sp = some ⟨S.b, S.o, none⟩) (hA : SecsAt W F Tb Cb a0 a1 a2 lon cost S n L)
    (hR : RoundsF Try.prog l (secsJ lon cost L n).length (fun k => secA ((secsJ lon cost L n).getD k default)) F J Jx) (fJ : ∀ k, Foot F (J k)) (fJx : ∀ k, Foot F (Jx k)) (h0 : J 0 W) :
    Iter Try.prog 79 #[.pointer (some ⟨Ob, 0, none⟩), .pointer (some ⟨Tb, 0, none⟩), .pointer (some ⟨Cb, 0, none⟩)] l (secsJ lon cost L n).length J Jx W := by
  refine callsIn_of_wp Try.func79 rfl trivial ?_ rfl
  simp only [Try.ntmps79, List.size_toArray, List.length_cons, List.length_nil, Nat.reduceAdd, Nat.reduceSub, Array.replicate_succ, Array.replicate_zero, List.push_toArray, List.append_toArray, List.nil_append, List.cons_append]
  have HX := Lib.hid (And.intro hi (And.intro hsp (And.intro hR (And.intro fJ fJx))))
  have HA0 := Lib.hid (And.intro hA h0)
  obtain ⟨sp, sb, so, sc⟩ := S
  dsimp only at ho HX
  clear hi hsp hA hR fJ fJx h0
  gi_wp2
  gi_loopg [5, 6, 13] n (fun gh v5 v6 i wr => ∃ k : Nat, k + gh = n ∧ v5 = .int .i64 ((goJ lon cost L k).1.length : Nat) ∧ v6 = .int .i64 (goJ lon cost L k).2 ∧ i = .int .i64 (k : Nat) ∧ Aside (SecsAt wr F Tb Cb a0 a1 a2 lon cost ⟨sp, sb, so, sc⟩ n L ∧ J (goJ lon cost L k).1.length wr))
  case atStart => exact ⟨0, by omega, rfl, rfl, rfl, HA0.out⟩
  clear HA0
  case round =>
    obtain ⟨k, hkg, rfl, rfl, rfl, HK⟩ := hrel
    cases gk with
    | zero =>
      obtain rfl : k = n := by omega
      gi_wp2
      go_end0
      exact ⟨⟨_, rfl⟩, .inl HK.out.2⟩
    | succ g1 =>
      have hk : k < n := by omega
      have hk2 : (k : Int) < n := by omega
      obtain rfl : sp = some ⟨sb, so, none⟩ := HX.out.2.1 (by omega)
      obtain ⟨⟨sr, sf, st⟩, hL⟩ : ∃ s, L k = s := ⟨_, rfl⟩
      have hc := HK.out.1.e k hk
      have hi := HX.out.1 k hk
      have hfr := (goJ_from lon cost L k).1
      have G := Lib.hid (And.intro (fun h => goJ_full (lon := lon) (cost := cost) (L := L) (k := k) h (n - k)) (And.intro (fun h8 h => goJ_yes (lon := lon) (cost := cost) (L := L) (k := k) h8 h) (And.intro (fun h => goJ_no (lon := lon) (cost := cost) (L := L) (k := k) h) (fun h8 h => goJ_at (lon := lon) (cost := cost) (L := L) (k := k) hk h8 h))))
      rw [hL] at hc hi G
      obtain ⟨m, hm⟩ : ∃ m, (goJ lon cost L k).1.length = m := ⟨_, rfl⟩
      obtain ⟨fr, hf⟩ : ∃ x, (goJ lon cost L k).2 = x := ⟨_, rfl⟩
      have hm8 : m ≤ 8 := by rw [← hm]; exact goJ_len lon cost L k
      rw [hf] at hfr G ⊢
      rw [hm] at G HK ⊢
      have HM := Lib.hid hm
      have HF := Lib.hid hf
      have c0 : wr.cell? ⟨sb, so + k * 3, none⟩ = some (.int .i64 sr) := hc 0 _ rfl
      have c1 : wr.cell? ⟨sb, so + k * 3 + 1, none⟩ = some (.int .i64 sf) := hc 1 _ rfl
      have c2 : wr.cell? ⟨sb, so + k * 3 + 2, none⟩ = some (.int .i64 st) := hc 2 _ rfl
      clear hc hL hf hm
      by_cases h8 : m = 8
      · subst h8
        have HF8 := Lib.hid (show (secsJ lon cost L n).length = 8 from by unfold secsJ; rw [show n = k + (n - k) by omega, G.out.1 rfl, HM.out])
        have H2 := Lib.hid (HK.out.1.new (HX.out.2.2.2.1 8) HK.out.2 ((Below.refl _ wr).alloc (Nat.le_refl _) (.cells #[.int .i64 sr, .int .i64 sf, .int .i64 st] 99)))
        clear G HK
        gi_wp2
        refine bodyPost_ret (results_none rfl _ _ _) rfl ?_
        exact ⟨⟨_, rfl⟩, .inl (by rw [HF8.out]; exact H2.out.2)⟩
      · have H2 := Lib.hid (HK.out.1.new (HX.out.2.2.2.1 m) HK.out.2 ((Below.refl _ wr).alloc (Nat.le_refl _) (.cells #[.int .i64 sr, .int .i64 sf, .int .i64 st] 99)))
        have HC := Lib.hid (fun wx => cut_any a0 a1 a2 lon fr cost sr sf st hfr hi hc0 wx)
        have h8i : ¬ (m : Int) = 8 := by omega
        have t0 : (wr.alloc (.cells #[.int .i64 sr, .int .i64 sf, .int .i64 st] 99)).cell? ⟨Tb, 0, none⟩ = some (.int .i64 a0) := H2.out.1.t.cell 0
        have t1 : (wr.alloc (.cells #[.int .i64 sr, .int .i64 sf, .int .i64 st] 99)).cell? ⟨Tb, 1, none⟩ = some (.int .i64 a1) := H2.out.1.t.cell 1
        have t2 : (wr.alloc (.cells #[.int .i64 sr, .int .i64 sf, .int .i64 st] 99)).cell? ⟨Tb, 2, none⟩ = some (.int .i64 a2) := H2.out.1.t.cell 2
        have t3 : (wr.alloc (.cells #[.int .i64 sr, .int .i64 sf, .int .i64 st] 99)).cell? ⟨Tb, 3, none⟩ = some (.int .i64 (lon 0)) := H2.out.1.t.cell 3
        have t4 : (wr.alloc (.cells #[.int .i64 sr, .int .i64 sf, .int .i64 st] 99)).cell? ⟨Tb, 4, none⟩ = some (.int .i64 (lon 1)) := H2.out.1.t.cell 4
        have t5 : (wr.alloc (.cells #[.int .i64 sr, .int .i64 sf, .int .i64 st] 99)).cell? ⟨Tb, 5, none⟩ = some (.int .i64 (lon 2)) := H2.out.1.t.cell 5
        have t6 : (wr.alloc (.cells #[.int .i64 sr, .int .i64 sf, .int .i64 st] 99)).cell? ⟨Tb, 6, none⟩ = some (.int .i64 (lon 3)) := H2.out.1.t.cell 6
        have t7 : (wr.alloc (.cells #[.int .i64 sr, .int .i64 sf, .int .i64 st] 99)).cell? ⟨Tb, 7, none⟩ = some (.int .i64 (lon 4)) := H2.out.1.t.cell 7
        have t8 : (wr.alloc (.cells #[.int .i64 sr, .int .i64 sf, .int .i64 st] 99)).cell? ⟨Tb, 8, none⟩ = some (.int .i64 (lon 5)) := H2.out.1.t.cell 8
        have t9 : (wr.alloc (.cells #[.int .i64 sr, .int .i64 sf, .int .i64 st] 99)).cell? ⟨Tb, 9, none⟩ = some (.int .i64 (lon 6)) := H2.out.1.t.cell 9
        have t10 : (wr.alloc (.cells #[.int .i64 sr, .int .i64 sf, .int .i64 st] 99)).cell? ⟨Tb, 10, none⟩ = some (.int .i64 (lon 7)) := H2.out.1.t.cell 10
        have tc : (wr.alloc (.cells #[.int .i64 sr, .int .i64 sf, .int .i64 st] 99)).cell? ⟨Cb, 0, none⟩ = some (.int .i64 cost) := H2.out.1.c
        have hk1 : (IntKind.i64.wrap ((k : Int) + 1)) = ((k + 1 : Nat) : Int) := by rw [IntKind.wrap_i64]; omega
        have hm1 : (IntKind.i64.wrap ((m : Int) + 1)) = ((m + 1 : Nat) : Int) := by rw [IntKind.wrap_i64]; omega
        clear HK hfr hi
        obtain ⟨v, hv⟩ : ∃ v, cutB lon fr cost ⟨sr, sf, st⟩ = v := ⟨_, rfl⟩
        rw [hv] at G HC
        cases v with
        | false =>
          have HN := Lib.hid (G.out.2.2.1 rfl)
          clear hv G
          gi_wp2_with (refine ⟨trivial, rfl, ?_⟩; gi_at_call 80; refine (callsIn_wide.2 (HC.out _)).mono ?_; rintro e w3 ⟨s, rfl, -, hb3⟩; have H3 := Lib.hid (H2.out.1.new (HX.out.2.2.2.1 m) H2.out.2 hb3); have H4 := Lib.hid (H3.out.1.new (HX.out.2.2.2.1 m) H3.out.2 ((Below.refl _ w3).alloc (Nat.le_refl _) (.cells #[.int .i64 s.r, .int .i64 s.f, .int .i64 s.t] 99))); clear hb3 H3)
          go_roundg g1
          case measure => omega
          case rel => exact ⟨k + 1, by omega, by rw [HN.out, HM.out], by rw [HN.out, HF.out], by go_num, by rw [HN.out, HM.out]; exact ⟨H4.out.1, H4.out.2⟩⟩
        | true =>
          have HY := Lib.hid (G.out.2.1 h8 rfl)
          have HT := Lib.hid (G.out.2.2.2 h8 rfl)
          clear hv G
          gi_wp2_with (first
            | (refine ⟨trivial, rfl, ?_⟩; gi_at_call 80; refine (callsIn_wide.2 (HC.out _)).mono ?_; rintro e w3 ⟨⟨x, y, z⟩, rfl, hs3, hb3⟩; have H3 := Lib.hid (H2.out.1.new (HX.out.2.2.2.1 m) H2.out.2 hb3)
               have H4 := Lib.hid (H3.out.1.new (HX.out.2.2.2.1 m) H3.out.2 ((Below.refl _ w3).alloc (Nat.le_refl _) (.cells #[.int .i64 x, .int .i64 y, .int .i64 z] 99)))
               have HQ := Lib.hid (sec_keep (HX.out.2.2.2.1 m) H3.out.2 99 (x := x) (y := y) (z := z))
               have HS := Lib.hid (hs3 rfl)
               clear hb3 H3 hs3
               obtain ⟨fn, tmps, assign, body, hyd, hRo⟩ := HX.out.2.2.1 m _ H4.out.2 HT.out.1
               dsimp only at hyd
               rw [HT.out.2, ← HS.out] at hyd
               dsimp only [secA] at hyd)
            | fail)
          refine ⟨rfl, hRo.mono ?_⟩
          rintro e W3 (⟨rfl, hJ3, hst⟩ | ⟨rfl, hJx3, -⟩)
          · have q2 := HQ.out W3 hst
            have H5 := Lib.hid (show SecsAt W3.drew F Tb Cb a0 a1 a2 lon cost ⟨some ⟨sb, so, none⟩, sb, so, sc⟩ n L ∧ J (m + 1) W3.drew from (H4.out.1.step hst).new (HX.out.2.2.2.1 (m + 1)) hJ3 (below_dn (Below.refl _ W3) 1))
            clear hJ3 hyd hRo hst t0 t1 t2 t3 t4 t5 t6 t7 t8 t9 t10 tc c0 c1 c2
            gi_wp2
            gi_region
            gi_wp2
            go_roundg g1
            case measure => omega
            case rel => exact ⟨k + 1, by omega, by rw [HY.out, List.length_append, HM.out]; go_num, by rw [HY.out, ← HS.out], by go_num, by rw [HY.out, List.length_append, HM.out]; exact ⟨H5.out.1, H5.out.2⟩⟩
          · gi_wp2
            refine bodyPost_ret (results_none rfl _ _ _) rfl ?_
            exact ⟨⟨_, rfl⟩, .inr ⟨_, by have := HT.out.1; omega, hJx3⟩⟩
end Go.Proofs.Ytcipkkeegbfaeaa
