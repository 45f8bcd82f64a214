/- The walk of FixFinds. -/
import Derived.Test.YtjgnclhkoncnkaaZE
import Derived.Deep.CutBlock
namespace Go.Proofs.Ytjgnclhkoncnkaa
open Go.RowKit

/-- What the law's own look keeps. -/
def FindI (own most : Int) (L : List Tm) (g : Nat) (t m : Int) (b : Bool) : Prop :=
  (b = true ∧ 0 ≤ own ∧ t ≤ most ∧ lookR own most L = some (t, m)) ∨ (b = false ∧ own < 0) ∨ (b = false ∧ 0 ≤ own ∧ ∃ g0, g = g0 + 1 ∧ LookI own most L g0 t (m + 1) most)
theorem look_neg {own most : Int} {L : List Tm} (h : own < 0) : lookR own most L = none := by unfold lookR; rw [if_pos h]
set_option maxHeartbeats 8000000 in
theorem law_finds {w : World} {V : Nat → Prop} {S : Src} {L : List Tm} (h : TermsAt w V S L) (own most : Int) :
    Calls Try.prog 3 #[.int .i64 own, .int .i64 most, .slice S.sp L.length S.c] w fun e w' => e = .returned (.bool true) ∧ Below w.heap.size w w' := by
  by_cases hlb : 20 < L.length
  · have hl2 : (20 : Int) < (L.length : Int) := by omega
    clear h hlb
    generalize L.length = N at hl2 ⊢
    generalize S.sp = sp
    generalize S.c = c
    go_enter Try.func3, Try.ntmps3
    go_wp2
    go_ret
    exact ⟨rfl, Below.refl _ _⟩
  by_cases hmb : 5000 < most
  · have hl2 : ¬ (20 : Int) < (L.length : Int) := by omega
    clear h hlb
    generalize L.length = N at hl2 ⊢
    generalize S.sp = sp
    generalize S.c = c
    go_enter Try.func3, Try.ntmps3
    go_wp2
    go_ret
    exact ⟨rfl, Below.refl _ _⟩
  have hm : most ≤ 5000 := by omega
  have hl : L.length ≤ 1000 := by omega
  have HP := Lib.hid (plain_any h hl)
  have HLe := Lib.hid (fun (wx : World) (hb : Below w.heap.size w wx) => least_any (h.new hb) hl own most hm)
  have HSt := Lib.hid (fun (wx : World) (hb : Below w.heap.size w wx) => steps_any (h.new hb) hl own most hm)
  have HDo := Lib.hid (fun (wx : World) (hb : Below w.heap.size w wx) => done_any (h.new hb) hl own most)
  have HSp := Lib.hid (fun (S' : Src) (V' : Nat → Prop) (wx : World) (hx : TermsAt wx V' S' L) (n : Int) => step_any hx hl own n)
  have HSt0 := Lib.hid (fun (h0 : 0 ≤ own) => LookI.start (own := own) (most := most) L h0)
  have hl2 : ¬ (20 : Int) < (L.length : Int) := by omega
  have hl3 : L.length ≤ 20 := by omega
  obtain ⟨sp, hspn⟩ : ∃ s, S.sp = s := ⟨_, rfl⟩
  obtain ⟨c, hc⟩ : ∃ s, S.c = s := ⟨_, rfl⟩
  obtain ⟨N, hN⟩ : ∃ s, L.length = s := ⟨_, rfl⟩
  rw [hspn, hc, hN] at HP HLe HSt HDo
  rw [hN] at HSp hl2 hl3
  rw [hspn, hc, hN]
  clear h hl hspn hc hN hlb hmb
  obtain ⟨R, hR⟩ : ∃ R, lookR own most L = R := ⟨_, rfl⟩
  have HR := Lib.hid hR
  rw [hR] at HLe HSt
  clear hR
  obtain ⟨t0, ht0⟩ : ∃ t, (if own < 1 then 1 else own) = t := ⟨_, rfl⟩
  have HT0 := Lib.hid ht0
  clear ht0
  go_enter Try.func3, Try.ntmps3
  go_upto_if 30 with (go_at_call 12; refine HP.out.mono ?_; rintro e w1 ⟨S', rfl, hS', hb1⟩; have H1 := Lib.hid (And.intro hS' hb1); clear hS' hb1 HP)
  go_cut [8] from 29 to 30 (fun s8 wx => s8 = .int .i64 t0 ∧ w1 = wx)
  case first => as_aux_lemma =>
    by_cases x1 : own < 1
    · have HX := Lib.hid (show t0 = 1 by rw [← HT0.out, if_pos x1])
      go_wp2
      go_meet
      case rel => exact ⟨by rw [HX.out], rfl⟩
    · have HX := Lib.hid (show t0 = own by rw [← HT0.out, if_neg x1])
      go_wp2
      go_meet
      case rel => exact ⟨by rw [HX.out], rfl⟩
  case rest =>
  obtain ⟨rfl, rfl⟩ := hcut
  go_upto_block 0 with fail
  go_cut [8, 9, 10] from 31 to 58 (fun s8 s9 s10 wx => ∃ t m : Int, s8 = .int .i64 t ∧ s9 = .int .i64 m ∧ s10 = .bool (tB R) ∧ Aside ((tB R = true → R = some (t, m)) ∧ Below w1.heap.size w1 wx))
  case first => as_aux_lemma =>
    go_wp2_with fail
    go_loopg [8, 9, 10] ((most + 1).toNat + 1) (fun g s8 s9 s10 wr => ∃ (t m : Int) (b : Bool), s8 = .int .i64 t ∧ s9 = .int .i64 m ∧ s10 = .bool b ∧ Aside (FindI own most L g t m b ∧ Below w1.heap.size w1 wr))
    case atStart =>
      refine ⟨t0, 0, false, rfl, rfl, rfl, ?_, Below.refl _ _⟩
      by_cases h0 : 0 ≤ own
      · have hs := HSt0.out h0
        rw [← max_one, HT0.out] at hs
        exact .inr (.inr ⟨rfl, h0, _, rfl, hs⟩)
      · exact .inr (.inl ⟨rfl, by omega⟩)
    case round =>
      obtain ⟨t, m, b, rfl, rfl, rfl, HK⟩ := hrel
      have HKi := HK.out.1
      have HKb := Lib.hid HK.out.2
      clear HK
      rcases HKi with ⟨rfl, h0, ht, hf⟩ | ⟨rfl, h0⟩ | ⟨rfl, h0, g0, rfl, hI⟩
      · have HF := Lib.hid (show R = some (t, m) by rw [← HR.out, hf])
        clear hf
        go_wp2
        go_meet
        case rel => exact ⟨t, m, rfl, rfl, by rw [HF.out]; rfl, fun _ => HF.out, HKb.out⟩
      · have HF := Lib.hid (show R = none by rw [← HR.out, look_neg h0])
        go_wp2
        go_meet
        case rel => exact ⟨t, m, rfl, rfl, by rw [HF.out]; rfl, fun h => (by rw [HF.out] at h; cases h), HKb.out⟩
      · have t1 := hI.lw
        have m1 := hI.m1
        have m2 := hI.mw
        by_cases ht : t ≤ most
        · have HT := Lib.hid (HSp.out S' _ _ (H1.out.1.new HKb.out) t)
          cases hb : togB own L t with
          | false =>
            have HF := Lib.hid (show R = none by rw [← HR.out, hI.no_ ht hb])
            rw [hb] at HT
            clear hb hI
            go_wp2_with (go_at_call 13; refine HT.out.mono ?_; rintro e w3 ⟨rfl, b3⟩; have H3 := Lib.hid (HKb.out.trans (b3.mono HKb.out.size)); clear b3 HT)
            go_meet
            case rel => exact ⟨t, m + 1, rfl, rfl, by rw [HF.out]; rfl, fun h => (by rw [HF.out] at h; cases h), H3.out⟩
          | true =>
            rw [hb] at HT
            by_cases hn : togN own L t ≤ t
            · have HF := Lib.hid (hI.found ht hb hn)
              obtain ⟨z, hz⟩ : ∃ z, togN own L t = z := ⟨_, rfl⟩
              rw [hz] at HT hn
              have hd1 : decide (z ≤ t) = true := decide_eq_true hn
              clear hz hb hI
              go_wp2_with (go_at_call 13; refine HT.out.mono ?_; rintro e w3 ⟨rfl, b3⟩; have H3 := Lib.hid (HKb.out.trans (b3.mono HKb.out.size)); clear b3 HT)
              go_roundg g0
              case measure => omega
              case rel => exact ⟨t, m + 1, true, rfl, rfl, rfl, .inl ⟨rfl, h0, ht, HF.out⟩, H3.out⟩
            · obtain ⟨g1, hg1, hI2⟩ := hI.next (mo' := most) ht hb hn (.inl rfl)
              subst hg1
              have HF := Lib.hid hI2
              obtain ⟨z, hz⟩ : ∃ z, togN own L t = z := ⟨_, rfl⟩
              rw [hz] at HT hn HF
              have hd1 : decide (z ≤ t) = false := decide_eq_false hn
              clear hz hb hI hI2
              go_wp2_with (go_at_call 13; refine HT.out.mono ?_; rintro e w3 ⟨rfl, b3⟩; have H3 := Lib.hid (HKb.out.trans (b3.mono HKb.out.size)); clear b3 HT)
              go_roundg (g1 + 1)
              case measure => omega
              case rel => exact ⟨z, m + 1, false, rfl, rfl, rfl, .inr (.inr ⟨rfl, h0, g1, rfl, HF.out⟩), H3.out⟩
        · have HF := Lib.hid (show R = none by rw [← HR.out, hI.over (by omega)])
          clear hI
          go_wp2
          go_meet
          case rel => exact ⟨t, m, rfl, rfl, by rw [HF.out]; rfl, fun h => (by rw [HF.out] at h; cases h), HKb.out⟩
  case rest =>
  obtain ⟨t, m, rfl, rfl, rfl, HC⟩ := hcut
  have HB := Lib.hid (And.intro HC.out.2 (H1.out.2.trans (HC.out.2.mono H1.out.2.size)))
  have HS1 := Lib.hid (fun (wx : World) (hb : Below w1.heap.size w1 wx) => HSp.out S' _ wx (H1.out.1.new hb) most)
  have HC1 := HC.out.1
  clear HR HSt0 HSp HC HT0
  unfold doneB at HDo
  obtain ⟨dv, hdv⟩ : ∃ z, togN own L most = z := ⟨_, rfl⟩
  obtain ⟨tb, htb⟩ : ∃ z, togB own L most = z := ⟨_, rfl⟩
  rw [hdv, htb] at HDo HS1
  clear hdv htb
  have hfin : ∃ db : Bool, (tb && decide (dv ≤ most)) = db := ⟨_, rfl⟩
  obtain ⟨db, hdb⟩ := hfin
  rw [hdb] at HDo
  rcases R with _ | ⟨a, b⟩
  · rw [show tB none = false from rfl] at HLe HSt ⊢
    rw [show tT none = 0 from rfl] at HLe
    rw [show tM none = 0 from rfl] at HSt
    clear HC1
    cases tb with
    | false =>
      obtain rfl : db = false := by rw [← hdb]; rfl
      clear hdb
      go_wp2_with (first
      | (go_at_call 14; refine (HLe.out _ HB.out.2).mono ?_; rintro e w3 ⟨rfl, b3⟩; have H3 := Lib.hid (And.intro (HB.out.1.trans (b3.mono HB.out.1.size)) (HB.out.2.trans (b3.mono HB.out.2.size))); clear b3 HLe)
      | (go_at_call 15; refine (HSt.out _ H3.out.2).mono ?_; rintro e w4 ⟨rfl, b4⟩; have H4 := Lib.hid (And.intro (H3.out.1.trans (b4.mono H3.out.1.size)) (H3.out.2.trans (b4.mono H3.out.2.size))); clear b4 HSt)
      | (go_at_call 13; refine (HS1.out _ H4.out.1).mono ?_; rintro e w5 ⟨rfl, b5⟩; have H5 := Lib.hid (And.intro (H4.out.1.trans (b5.mono H4.out.1.size)) (H4.out.2.trans (b5.mono H4.out.2.size))); clear b5 HS1)
      | (go_at_call 16; refine (HDo.out _ H5.out.2).mono ?_; rintro e w6 ⟨rfl, b6⟩; have H6 := Lib.hid (H5.out.2.trans (b6.mono H5.out.2.size)); clear b6 HDo)
      | (go_at_call 17; refine (l17alive_any _).mono ?_; rintro e w7 ⟨rfl, b7⟩; have H7 := Lib.hid (H6.out.trans (b7.mono H6.out.size)); clear b7)
      | fail)
      go_ret
      exact ⟨by simp, H7.out⟩
    | true =>
      by_cases hd : dv ≤ most
      · obtain rfl : db = true := by rw [← hdb]; simp [hd]
        clear hdb
        go_wp2_with (first
      | (go_at_call 14; refine (HLe.out _ HB.out.2).mono ?_; rintro e w3 ⟨rfl, b3⟩; have H3 := Lib.hid (And.intro (HB.out.1.trans (b3.mono HB.out.1.size)) (HB.out.2.trans (b3.mono HB.out.2.size))); clear b3 HLe)
      | (go_at_call 15; refine (HSt.out _ H3.out.2).mono ?_; rintro e w4 ⟨rfl, b4⟩; have H4 := Lib.hid (And.intro (H3.out.1.trans (b4.mono H3.out.1.size)) (H3.out.2.trans (b4.mono H3.out.2.size))); clear b4 HSt)
      | (go_at_call 13; refine (HS1.out _ H4.out.1).mono ?_; rintro e w5 ⟨rfl, b5⟩; have H5 := Lib.hid (And.intro (H4.out.1.trans (b5.mono H4.out.1.size)) (H4.out.2.trans (b5.mono H4.out.2.size))); clear b5 HS1)
      | (go_at_call 16; refine (HDo.out _ H5.out.2).mono ?_; rintro e w6 ⟨rfl, b6⟩; have H6 := Lib.hid (H5.out.2.trans (b6.mono H5.out.2.size)); clear b6 HDo)
      | (go_at_call 17; refine (l17alive_any _).mono ?_; rintro e w7 ⟨rfl, b7⟩; have H7 := Lib.hid (H6.out.trans (b7.mono H6.out.size)); clear b7)
      | fail)
        go_ret
        exact ⟨by simp <;> omega, H7.out⟩
      · obtain rfl : db = false := by rw [← hdb]; simp [hd]
        clear hdb
        go_wp2_with (first
      | (go_at_call 14; refine (HLe.out _ HB.out.2).mono ?_; rintro e w3 ⟨rfl, b3⟩; have H3 := Lib.hid (And.intro (HB.out.1.trans (b3.mono HB.out.1.size)) (HB.out.2.trans (b3.mono HB.out.2.size))); clear b3 HLe)
      | (go_at_call 15; refine (HSt.out _ H3.out.2).mono ?_; rintro e w4 ⟨rfl, b4⟩; have H4 := Lib.hid (And.intro (H3.out.1.trans (b4.mono H3.out.1.size)) (H3.out.2.trans (b4.mono H3.out.2.size))); clear b4 HSt)
      | (go_at_call 13; refine (HS1.out _ H4.out.1).mono ?_; rintro e w5 ⟨rfl, b5⟩; have H5 := Lib.hid (And.intro (H4.out.1.trans (b5.mono H4.out.1.size)) (H4.out.2.trans (b5.mono H4.out.2.size))); clear b5 HS1)
      | (go_at_call 16; refine (HDo.out _ H5.out.2).mono ?_; rintro e w6 ⟨rfl, b6⟩; have H6 := Lib.hid (H5.out.2.trans (b6.mono H5.out.2.size)); clear b6 HDo)
      | (go_at_call 17; refine (l17alive_any _).mono ?_; rintro e w7 ⟨rfl, b7⟩; have H7 := Lib.hid (H6.out.trans (b7.mono H6.out.size)); clear b7)
      | fail)
        go_ret
        exact ⟨by simp <;> omega, H7.out⟩
  · rw [show tB (some (a, b)) = true from rfl] at HLe HSt HC1 ⊢
    rw [show tT (some (a, b)) = a from rfl] at HLe
    rw [show tM (some (a, b)) = b from rfl] at HSt
    obtain ⟨rfl, rfl⟩ : a = t ∧ b = m := by simpa using HC1 rfl
    clear HC1
    cases tb with
    | false =>
      obtain rfl : db = false := by rw [← hdb]; rfl
      clear hdb
      go_wp2_with (first
      | (go_at_call 14; refine (HLe.out _ HB.out.2).mono ?_; rintro e w3 ⟨rfl, b3⟩; have H3 := Lib.hid (And.intro (HB.out.1.trans (b3.mono HB.out.1.size)) (HB.out.2.trans (b3.mono HB.out.2.size))); clear b3 HLe)
      | (go_at_call 15; refine (HSt.out _ H3.out.2).mono ?_; rintro e w4 ⟨rfl, b4⟩; have H4 := Lib.hid (And.intro (H3.out.1.trans (b4.mono H3.out.1.size)) (H3.out.2.trans (b4.mono H3.out.2.size))); clear b4 HSt)
      | (go_at_call 13; refine (HS1.out _ H4.out.1).mono ?_; rintro e w5 ⟨rfl, b5⟩; have H5 := Lib.hid (And.intro (H4.out.1.trans (b5.mono H4.out.1.size)) (H4.out.2.trans (b5.mono H4.out.2.size))); clear b5 HS1)
      | (go_at_call 16; refine (HDo.out _ H5.out.2).mono ?_; rintro e w6 ⟨rfl, b6⟩; have H6 := Lib.hid (H5.out.2.trans (b6.mono H5.out.2.size)); clear b6 HDo)
      | (go_at_call 17; refine (l17alive_any _).mono ?_; rintro e w7 ⟨rfl, b7⟩; have H7 := Lib.hid (H6.out.trans (b7.mono H6.out.size)); clear b7)
      | fail)
      go_ret
      exact ⟨by simp, H7.out⟩
    | true =>
      by_cases hd : dv ≤ most
      · obtain rfl : db = true := by rw [← hdb]; simp [hd]
        clear hdb
        go_wp2_with (first
      | (go_at_call 14; refine (HLe.out _ HB.out.2).mono ?_; rintro e w3 ⟨rfl, b3⟩; have H3 := Lib.hid (And.intro (HB.out.1.trans (b3.mono HB.out.1.size)) (HB.out.2.trans (b3.mono HB.out.2.size))); clear b3 HLe)
      | (go_at_call 15; refine (HSt.out _ H3.out.2).mono ?_; rintro e w4 ⟨rfl, b4⟩; have H4 := Lib.hid (And.intro (H3.out.1.trans (b4.mono H3.out.1.size)) (H3.out.2.trans (b4.mono H3.out.2.size))); clear b4 HSt)
      | (go_at_call 13; refine (HS1.out _ H4.out.1).mono ?_; rintro e w5 ⟨rfl, b5⟩; have H5 := Lib.hid (And.intro (H4.out.1.trans (b5.mono H4.out.1.size)) (H4.out.2.trans (b5.mono H4.out.2.size))); clear b5 HS1)
      | (go_at_call 16; refine (HDo.out _ H5.out.2).mono ?_; rintro e w6 ⟨rfl, b6⟩; have H6 := Lib.hid (H5.out.2.trans (b6.mono H5.out.2.size)); clear b6 HDo)
      | (go_at_call 17; refine (l17alive_any _).mono ?_; rintro e w7 ⟨rfl, b7⟩; have H7 := Lib.hid (H6.out.trans (b7.mono H6.out.size)); clear b7)
      | fail)
        go_ret
        exact ⟨by simp <;> omega, H7.out⟩
      · obtain rfl : db = false := by rw [← hdb]; simp [hd]
        clear hdb
        go_wp2_with (first
      | (go_at_call 14; refine (HLe.out _ HB.out.2).mono ?_; rintro e w3 ⟨rfl, b3⟩; have H3 := Lib.hid (And.intro (HB.out.1.trans (b3.mono HB.out.1.size)) (HB.out.2.trans (b3.mono HB.out.2.size))); clear b3 HLe)
      | (go_at_call 15; refine (HSt.out _ H3.out.2).mono ?_; rintro e w4 ⟨rfl, b4⟩; have H4 := Lib.hid (And.intro (H3.out.1.trans (b4.mono H3.out.1.size)) (H3.out.2.trans (b4.mono H3.out.2.size))); clear b4 HSt)
      | (go_at_call 13; refine (HS1.out _ H4.out.1).mono ?_; rintro e w5 ⟨rfl, b5⟩; have H5 := Lib.hid (And.intro (H4.out.1.trans (b5.mono H4.out.1.size)) (H4.out.2.trans (b5.mono H4.out.2.size))); clear b5 HS1)
      | (go_at_call 16; refine (HDo.out _ H5.out.2).mono ?_; rintro e w6 ⟨rfl, b6⟩; have H6 := Lib.hid (H5.out.2.trans (b6.mono H5.out.2.size)); clear b6 HDo)
      | (go_at_call 17; refine (l17alive_any _).mono ?_; rintro e w7 ⟨rfl, b7⟩; have H7 := Lib.hid (H6.out.trans (b7.mono H6.out.size)); clear b7)
      | fail)
        go_ret
        exact ⟨by simp <;> omega, H7.out⟩
end Go.Proofs.Ytjgnclhkoncnkaa
