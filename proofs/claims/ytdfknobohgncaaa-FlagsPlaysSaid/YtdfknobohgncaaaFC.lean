/- The walk of FlagsPlays: true for every slice of calls. -/
import Derived.Test.YtdfknobohgncaaaFB
import Derived.Deep.CutRange
import Derived.Deep.CutBlock
namespace Go.Proofs.Ytdfknobohgncaaa
open Go.RowKit

/-- A call of flags: its kind and its flags. -/
structure GOp where
  kind : Int
  l : BitVec 32
instance : Inhabited GOp := ⟨⟨0, 0#32⟩⟩
def opG (O : List GOp) (k : Nat) : GOp := O.getD k default
/-- Where calls lie. -/
structure GOps (w : World) (sp : Option Addr) (b off : Nat) (O : List GOp) : Prop where
  sp : 0 < O.length → sp = some ⟨b, off, none⟩ ∧ b < w.heap.size
  kind : ∀ k, k < O.length → w.cell? ⟨b, off + k * 2, none⟩ = some (.int .i64 (opG O k).kind)
  l : ∀ k, k < O.length → w.cell? ⟨b, off + k * 2 + 1, none⟩ = some (.int .u32 (w32 (opG O k).l))
/-- What is there between two calls: the flags, and the numbers that the law has. -/
structure FS (w0 : World) (B q : Nat) (w : World) (v : Value) (F : BitVec 32) (H : List Int) : Prop where
  own : w.ownsRow B 3 1 v H.length (rowI H)
  perm : H.Perm (setL F)
  fat : FAt w q F
  qB : q < B
  Bw : B ≤ w.heap.size
  below : Below q w0 w
theorem FS.len {w0 : World} {B q : Nat} {w : World} {v : Value} {F : BitVec 32} {H : List Int} (h : FS w0 B q w v F H) : H.length ≤ 32 := by
  rw [h.perm.length_eq]; exact setL_len F
theorem FS.lies {w0 : World} {B q : Nat} {w : World} {v : Value} {F : BitVec 32} {H : List Int} (h : FS w0 B q w v F H) : ∃ sp g cap, v = .slice sp H.length cap ∧ Lies w sp g 0 H ∧ (0 < H.length → B ≤ g ∧ g < w.heap.size) := own_lies h.own
/-- The world grows. -/
theorem FS.new {w0 : World} {B q : Nat} {w w' : World} {v : Value} {F : BitVec 32} {H : List Int} (h : FS w0 B q w v F H) (hb : Below w.heap.size w w') : FS w0 B q w' v F H :=
  ⟨own_below h.own hb (Nat.le_refl _), h.perm, h.fat.new hb, h.qB, Nat.le_trans h.Bw hb.size, h.below.trans (hb.mono (by have := h.qB; have := h.Bw; omega))⟩
/-- The flags turn. -/
theorem FS.turn {w0 : World} {B q : Nat} {w w' : World} {v : Value} {F G : BitVec 32} {H : List Int} (h : FS w0 B q w v F H) (hc : Ch (fun j => j = q) w w') (hf : FAt w' q G) : w'.ownsRow B 3 1 v H.length (rowI H) ∧ Below q w0 w' ∧ B ≤ w'.heap.size ∧ FAt w' q G :=
  ⟨own_ch h.own hc (fun g hg e => by have := own_ge h.own g hg; have := h.qB; omega), h.below.trans (hc.below (fun j hj e => by omega) (by have := h.qB; have := h.Bw; omega)), Nat.le_trans h.Bw hc.size, hf⟩
theorem Lies.ch {T : Nat → Prop} {w w' : World} {sp : Option Addr} {b off : Nat} {l : List Int} (h : Lies w sp b off l) (hc : Ch T w w') (hT : 0 < l.length → ¬ T b) : Lies w' sp b off l :=
  ⟨fun h0 => ⟨(h.1 h0).1, Nat.lt_of_lt_of_le (h.1 h0).2 hc.size⟩, fun k hk => hc.cell (h.2 k hk) (hT (by omega))⟩
theorem Lies.nil (w : World) (sp : Option Addr) (b off : Nat) : Lies w sp b off [] := ⟨fun h => by simp at h, fun k hk => by simp at hk⟩
theorem Lies.none {w : World} {b off : Nat} {l : List Int} (h : Lies w none b off l) : l.length = 0 := by
  rcases Nat.eq_zero_or_pos l.length with e | e
  · exact e
  · have := (h.1 e).1; cases this
/-- What is to be answered. -/
def Said (L : BitVec 32) (q G : Int) (W : List Int) (c : Int) (nn : BitVec 32) (ee : Int) : Prop :=
  (L = 0#32 → nn = 0#32 ∧ ee = 280) ∧ (L ≠ 0#32 → nn = ofR W ∧ ee = if (q = 3 ∨ q = 5) ∧ G = 0 then 270 else c)
theorem kind6 (k : Int) : ∃ r, k.tmod 6 = r ∧ -5 ≤ r ∧ r ≤ 5 ∧ ∃ y, (r + 6) % 6 = y ∧ 0 ≤ y ∧ y ≤ 5 := by
  have h1 := Int.tmod_lt_of_pos k (show (0 : Int) < 6 by decide)
  have h2 := Int.lt_tmod_of_pos k (show (0 : Int) < 6 by decide)
  exact ⟨_, rfl, by omega, by omega, _, rfl, by omega, by omega⟩

theorem FS.wo {w0 : World} {B q : Nat} {w w5 w6 : World} {v v6 : Value} {F G : BitVec 32} {H H' : List Int} (h : FS w0 B q w v F H) (hc : Ch (fun j => j = q) w w5) (hf : FAt w5 q G) (ho : w6.ownsRow w5.heap.size 3 1 v6 H'.length (rowI H')) (hb : Below w5.heap.size w5 w6) (hp : H'.Perm (setL G)) : FS w0 B q w6 v6 G H' := by
  obtain ⟨_, h2, h3, _⟩ := h.turn hc hf
  exact ⟨own_mono ho h3, hp, hf.new hb, h.qB, Nat.le_trans h3 hb.size, h2.trans (hb.mono (by have := h.qB; omega))⟩
theorem FS.add {w0 : World} {B q : Nat} {w w5 w6 w7 : World} {v v7 : Value} {F G : BitVec 32} {H Z : List Int} (h : FS w0 B q w v F H) (hc : Ch (fun j => j = q) w w5) (hf : FAt w5 q G) (hb : Below w5.heap.size w5 w6) (ho : w7.ownsRow B 3 1 v7 (H.length + Z.length) (rowI H ++ rowI Z)) (hg : w6.grownBy w7 v.ownBlock) (hp : (H ++ Z).Perm (setL G)) : FS w0 B q w7 v7 G (H ++ Z) := by
  obtain ⟨h1, h2, h3, _⟩ := h.turn hc hf
  have hqb : ∀ j, v.ownBlock = some j → q < j := fun j e => by have := own_ge h1 j e; have := h.qB; omega
  have hc7 := ch_grown hg
  refine ⟨by rw [List.length_append, show rowI (H ++ Z) = rowI H ++ rowI Z by simp [rowI]]; exact ho, hp, (hf.new hb).keep hc7 (fun e => by have := hqb q e; omega), h.qB, Nat.le_trans (Nat.le_trans h3 hb.size) hc7.size, (h2.trans (hb.mono (by have := h.qB; omega))).trans (hc7.below (fun j hj e => by have := hqb j e; omega) (by have := h.qB; have := hb.size; omega))⟩
theorem said_none (L : BitVec 32) (y G : Int) (h3 : y ≠ 3) (h5 : y ≠ 5) : Said L y G [] 0 0#32 (ofNone L) := by
  refine ⟨fun h => ⟨rfl, if_pos h⟩, fun h => ⟨by decide, ?_⟩⟩
  unfold ofNone
  rw [if_neg h, if_neg (by omega)]
theorem said_any {F L : BitVec 32} {H : List Int} (hp : H.Perm (setL F)) (y : Int) (h : y = 3 ∨ y = 5) : Said L y ((H.filter fun n => decide (n ∈ setL L)).length : Nat) (H.filter fun n => decide (n ∈ setL L)) 0 (F &&& L) (anyE F L) := by
  have hg := got_perm (L := L) hp
  refine ⟨fun h => ⟨by rw [h]; simp, if_pos h⟩, fun hL => ⟨(ofR_setL _ _ hg).symm, ?_⟩⟩
  have e := setL_nil (F &&& L)
  rw [← hg.length_eq] at e
  unfold anyE
  rw [if_neg hL]
  by_cases h0 : F &&& L = 0#32
  · rw [if_pos h0, if_pos ⟨h, by have := e.2 h0; omega⟩]
  · rw [if_neg h0, if_neg (fun hh => h0 (e.1 (by omega)))]
theorem said_every_yes {F L : BitVec 32} (g : Int) (h : F &&& L = L) : Said L 4 g (setL L) 0 (everyN F L) (everyE F L) := by
  unfold everyN everyE
  refine ⟨fun h0 => ⟨by rw [if_pos h, h0], if_pos h0⟩, fun hL => ⟨?_, ?_⟩⟩
  · rw [if_pos h, ofR_setL L _ (List.Perm.refl _)]
  · rw [if_neg hL, if_pos h, if_neg (by omega)]
theorem said_every_no {F L : BitVec 32} (g : Int) (h : F &&& L ≠ L) : Said L 4 g [] 270 (everyN F L) (everyE F L) := by
  unfold everyN everyE
  refine ⟨fun h0 => ⟨by rw [if_neg h], if_pos h0⟩, fun hL => ⟨?_, ?_⟩⟩
  · rw [if_neg h]; decide
  · rw [if_neg hL, if_neg h, if_neg (by omega)]
theorem lies_cells {w : World} {sp : Option Addr} {g : Nat} {l : List Int} (h : Lies w sp g 0 l) : ∀ ad, sp = some ad → ∀ j u, (rowI l)[j]? = some u → w.cell? (ad.add j) = some u := by
  intro ad ha j u hu
  have hj : j < l.length := by have := (List.getElem?_eq_some_iff.1 hu).1; simpa [rowI_len] using this
  have hs := (h.1 (by omega)).1
  rw [ha] at hs
  injection hs with hs
  subst hs
  rw [rowI_get l j hj] at hu
  injection hu with hu
  rw [← hu, Addr.add_lit]
  exact h.2 j hj
theorem rowI_one (l : List Int) : ∀ u ∈ rowI l, u.oneCell' = true := by
  intro u hu
  obtain ⟨x, _, rfl⟩ := List.mem_map.1 hu
  rfl

set_option maxRecDepth 100000 in
set_option maxHeartbeats 4000000 in
theorem law_flags (sp : Option Addr) (b off cap : Nat) (O : List GOp) (w : World) (hlen : O.length ≤ 9223372036854775807) (hO : GOps w sp b off O) :
    Calls Try.prog 7 #[.slice sp O.length cap] w fun e w' => e = .returned (.bool true) ∧ Below w.heap.size w w' := by
  by_cases hn : O.length ≤ 200
  case neg =>
    have d2 : (200 : Int) < (O.length : Int) := by omega
    clear hO
    go_enter Try.func7, Try.ntmps7
    go_wp2
    go_ret
    exact ⟨rfl, Below.refl _ _⟩
  have d1 : ¬ (200 : Int) < (O.length : Int) := by omega
  have HO := Lib.hid hO
  obtain ⟨w1, hw1⟩ : ∃ w1, w1 = w.alloc (.cells #[.int .u32 0] 60) := ⟨_, rfl⟩
  obtain ⟨q, hq⟩ : ∃ q, q = w.heap.size := ⟨_, rfl⟩
  have hs1 : w1.heap.size = q + 1 := by rw [hw1, hq]; simp
  have HQ0 := Lib.hid (show FS w (q + 1) q w1 (.slice none 0 0) 0#32 [] from ⟨World.ownsRow_nil _ _ _ _, by rw [show setL 0#32 = [] by decide], by rw [hw1, hq]; exact FAt.new0 w, by omega, by omega, by rw [hw1, hq]; exact (Below.refl _ _).alloc (Nat.le_refl _) _⟩)
  obtain ⟨N, hN⟩ : ∃ N, N = O.length := ⟨_, rfl⟩
  have HN := Lib.hid hN
  have HQ := Lib.hid hq
  obtain ⟨i0, hi, hz0, hz1, hz2⟩ := info_parts info3
  clear hO hs1
  go_enter Try.func7, Try.ntmps7
  go_wp2
  rw [← hw1, ← hq]
  rw [← hN] at hn d1 hlen ⊢
  clear hw1 hq hN
  go_loopg [4, 5] N (fun g v i wr => ∃ (k : Nat) (F : BitVec 32) (H : List Int), k + g = N ∧ i = .int .i64 k ∧ Aside (FS w (q + 1) q wr v F H))
  case atStart => exact ⟨0, 0#32, [], by omega, rfl, HQ0.out⟩
  case round =>
    obtain ⟨k, F, H, hkg, rfl, HR⟩ := hrel
    cases gk with
    | zero =>
      obtain rfl : k = N := by omega
      have HAl := Lib.hid (falive_any wr)
      go_wp2_with (go_at_call 32; refine HAl.out.mono ?_; rintro e w3 ⟨rfl, b3⟩; have HB3 := Lib.hid (HR.out.new b3).below; clear b3)
      go_ret
      exact ⟨rfl, by rw [← HQ.out]; exact HB3.out⟩
    | succ m1 =>
      have hlt : k < N := by omega
      have hki : (k : Int) < (N : Int) := by omega
      have hk0 : (0 : Int) ≤ (k : Int) := by omega
      obtain ⟨rfl, hbl⟩ := HO.out.sp (by rw [← HN.out]; omega)
      obtain ⟨kd, hkd⟩ : ∃ x, (opG O k).kind = x := ⟨_, rfl⟩
      obtain ⟨L, hL⟩ : ∃ x, (opG O k).l = x := ⟨_, rfl⟩
      have HC := Lib.hid (show ∀ wz, Below q w wz → wz.cell? ⟨b, off + k * 2, none⟩ = some (.int .i64 kd) ∧ wz.cell? ⟨b, off + k * 2 + 1, none⟩ = some (.int .u32 (w32 L)) from fun wz hz => by
        have h1 := HO.out.kind k (by rw [← HN.out]; exact hlt)
        have h2 := HO.out.l k (by rw [← HN.out]; exact hlt)
        rw [← hkd, ← hL]
        have hbq : b < q := by rw [HQ.out]; exact hbl
        exact ⟨by rw [hz.cell (p := ⟨b, off + k * 2, none⟩) hbq]; exact h1, by rw [hz.cell (p := ⟨b, off + k * 2 + 1, none⟩) hbq]; exact h2⟩)
      clear hkd hL hbl
      obtain ⟨c0, c1⟩ := HC.out _ HR.out.below
      obtain ⟨r, hr, r1, r2, y, hy, y1, y2⟩ := kind6 kd
      obtain ⟨spH, gH, cpH, rfl, hT⟩ := HR.out.lies
      have HT := Lib.hid hT
      have hHl := HR.out.len
      have HL0 := Lib.hid (list_any L wr)
      clear hT
      obtain ⟨X, hX⟩ : ∃ X, X = setL L := ⟨_, rfl⟩
      have hXl : X.length ≤ 32 := by rw [hX]; exact setL_len L
      rw [show (lst L 32).length = X.length by rw [hX]; unfold setL ints; rw [List.length_map], show ints (lst L 32) = X from hX.symm] at HL0
      have HX := Lib.hid hX
      clear hX
      go_wp2_with fail
      refine HL0.out.mono ?_
      rintro e w2 ⟨v2, rfl, o2, b2⟩
      obtain ⟨sX, gX, cX, rfl, lX, tX⟩ := own_lies o2
      have H2 := Lib.hid (And.intro (HR.out.new b2) lX)
      have TX := Lib.hid tX
      have SZ := Lib.hid HR.out.Bw
      have HT2 := Lib.hid (HT.out.1.below b2 (fun h => (HT.out.2 h).2))
      have HB := Lib.hid (both_any H X spH sX gH 0 gX 0 cpH cX w2 HT2.out lX (by omega) (by omega))
      obtain ⟨G, hG⟩ : ∃ G, G = H.filter (fun n => decide (n ∈ X)) := ⟨_, rfl⟩
      have hGl : G.length ≤ 32 := by rw [hG]; exact Nat.le_trans (List.length_filter_le _ _) hHl
      rw [← hG] at HB
      have HG := Lib.hid hG
      clear hG c0 c1 b2 o2 lX tX
      go_wp2_with fail
      refine HB.out.mono ?_
      rintro e w3 ⟨v3, rfl, o3, b3⟩
      obtain ⟨sG, gG, cG, rfl, lG, tG⟩ := own_lies o3
      have H3 := Lib.hid (And.intro (H2.out.1.new b3) (And.intro (H2.out.2.below b3 (fun h => (TX.out h).2)) lG))
      have TG := Lib.hid tG
      have SZ2 := Lib.hid (And.intro H2.out.1.Bw b3.size)
      have HT3 := Lib.hid (HT2.out.below b3 (fun h => (HT2.out.1 h).2))
      have b4 : Below w3.heap.size w3 (w3.alloc (.cells #[] 3)) := (Below.refl _ _).alloc (Nat.le_refl _) _
      obtain ⟨c0, c1⟩ := HC.out _ (H3.out.1.new b4).below
      obtain ⟨w4, hw4⟩ : ∃ w4, w4 = w3.alloc (.cells #[] 3) := ⟨_, rfl⟩
      rw [← hw4] at b4
      have H4 := Lib.hid (And.intro (H3.out.1.new b4) (And.intro (H3.out.2.1.below b4 (fun h => (H3.out.2.1.1 h).2)) (H3.out.2.2.below b4 (fun h => (H3.out.2.2.1 h).2))))
      have SZ3 := Lib.hid (And.intro H3.out.1.Bw b4.size)
      have HT4 := Lib.hid (HT3.out.below b4 (fun h => (HT3.out.1 h).2))
      clear o3 b3 lG tG b4
      go_upto_block 2 with fail
      rw [← hw4, hy]
      rw [← hw4] at c0 c1
      clear hw4
      have HY := Lib.hid (And.intro hr (And.intro hy (And.intro r1 r2)))
      clear hr hy r1 r2
      go_cut [4, 8, 9, 10, 11] from 20 to 150 (fun s4 s8 s9 s10 s11 wx => ∃ (F' : BitVec 32) (H' W : List Int) (c : Int) (nn : BitVec 32) (ee : Int) (sW : Option Addr) (gW cW : Nat), s8 = .slice sW W.length cW ∧ s9 = .int .i64 c ∧ s10 = .int .u32 (w32 nn) ∧ s11 = .int .i64 ee ∧ Aside (FS w (q + 1) q wx s4 F' H' ∧ Lies wx sW gW 0 W ∧ W.length ≤ 32 ∧ Said L y (G.length : Int) W c nn ee))
      case first =>
        have hnil : H4.out.1 = H4.out.1 := rfl
        clear hnil
        by_cases h2 : y = 2
        · subst h2
          have HK := Lib.hid (fclear_any H4.out.1.fat L)
          go_wp2_with (first
            | (go_at_call 24; refine HK.out.mono ?_; rintro e w5 ⟨rfl, f5, h5⟩; have C5 := Lib.hid (And.intro f5 h5); have HT5 := Lib.hid (HT4.out.ch h5 (fun h e => by have := (HT.out.2 h).1; omega)); have HX5 := Lib.hid (H4.out.2.1.ch h5 (fun h e => by have := (TX.out h).1; have := SZ.out; omega)); obtain ⟨c0, c1⟩ := HC.out _ (H4.out.1.turn h5 f5).2.1; clear f5 h5)
            | (go_at_call 25; refine (without_any H X spH sX gH 0 gX 0 cpH cX w5 HT5.out HX5.out (by omega) (by omega)).mono ?_; rintro e w6 ⟨v6, rfl, o6, b6⟩; have O6 := Lib.hid (And.intro o6 b6); clear o6 b6)
            | fail)
          go_meet
          case rel =>
            refine ⟨F &&& ~~~L, H.filter (fun n => !decide (n ∈ X)), [], 0, 0#32, ofNone L, _, 0, 0, rfl, rfl, rfl, rfl, H4.out.1.wo C5.out.2 C5.out.1 O6.out.1 O6.out.2 (by rw [HX.out]; exact wo_perm HR.out.perm), Lies.nil _ _ _ _, by simp, said_none L 2 _ (by decide) (by decide)⟩
        by_cases h3 : y = 3
        · subst h3
          have HK := Lib.hid (fany_any H4.out.1.fat L)
          go_wp2_with (first
            | (go_at_call 26; refine HK.out.mono ?_; rintro e w5 ⟨rfl, rfl⟩)
            | fail)
          go_meet
          case rel =>
            refine ⟨F, H, G, 0, F &&& L, anyE F L, _, gG, cG, rfl, rfl, rfl, rfl, H4.out.1, H4.out.2.2, hGl, by rw [HG.out, HX.out]; exact said_any HR.out.perm 3 (.inl rfl)⟩
        by_cases h4 : y = 4
        · subst h4
          have HK := Lib.hid (fevery_any H4.out.1.fat L)
          have hfull := setL_full F L
          rw [← (got_perm (L := L) HR.out.perm).length_eq, ← HX.out, ← HG.out] at hfull
          by_cases hf : F &&& L = L
          · have e1 : ((G.length : Int) == (X.length : Int)) = true := by have := hfull.2 hf; rw [this]; simp
            have HF := Lib.hid hf
            clear hf hfull
            go_wp2_with (first
              | (go_at_call 27; refine HK.out.mono ?_; rintro e w5 ⟨rfl, rfl⟩)
              | fail)
            go_meet
            case rel =>
              refine ⟨F, H, X, 0, everyN F L, everyE F L, _, gX, cX, rfl, rfl, rfl, rfl, H4.out.1, H4.out.2.1, hXl, by rw [HX.out]; exact said_every_yes _ HF.out⟩
          · have e1 : ((G.length : Int) == (X.length : Int)) = false := by
              have : ¬ G.length = X.length := fun e => hf (hfull.1 e)
              rw [beq_eq_false_iff_ne]; omega
            have HF := Lib.hid hf
            clear hf hfull
            go_wp2_with (first
              | (go_at_call 27; refine HK.out.mono ?_; rintro e w5 ⟨rfl, rfl⟩)
              | fail)
            go_meet
            case rel =>
              refine ⟨F, H, [], 270, everyN F L, everyE F L, _, 0, 0, rfl, rfl, rfl, rfl, H4.out.1, Lies.nil _ _ _ _, by simp, said_every_no _ HF.out⟩
        by_cases h5 : y = 5
        · subst h5
          have HK := Lib.hid (ftake_any H4.out.1.fat L)
          go_wp2_with (first
            | (go_at_call 28; refine HK.out.mono ?_; rintro e w5 ⟨rfl, f5, h5⟩; have C5 := Lib.hid (And.intro f5 h5); have HT5 := Lib.hid (HT4.out.ch h5 (fun h e => by have := (HT.out.2 h).1; omega)); have HX5 := Lib.hid (H4.out.2.1.ch h5 (fun h e => by have := (TX.out h).1; have := SZ.out; omega)); obtain ⟨c0, c1⟩ := HC.out _ (H4.out.1.turn h5 f5).2.1; clear f5 h5; have HG5 := Lib.hid (H4.out.2.2.ch C5.out.2 (fun h e => by have := (TG.out h).1; have := SZ.out; have := SZ2.out; omega)))
            | (go_at_call 25; refine (without_any H X spH sX gH 0 gX 0 cpH cX w5 HT5.out HX5.out (by omega) (by omega)).mono ?_; rintro e w6 ⟨v6, rfl, o6, b6⟩; have O6 := Lib.hid (And.intro o6 b6); clear o6 b6)
            | fail)
          go_meet
          case rel =>
            refine ⟨F &&& ~~~L, H.filter (fun n => !decide (n ∈ X)), G, 0, F &&& L, anyE F L, _, gG, cG, rfl, rfl, rfl, rfl, H4.out.1.wo C5.out.2 C5.out.1 O6.out.1 O6.out.2 (by rw [HX.out]; exact wo_perm HR.out.perm), HG5.out.below O6.out.2 (fun h => (HG5.out.1 h).2), hGl, by rw [HG.out, HX.out]; exact said_any HR.out.perm 5 (.inr rfl)⟩
        have e2 : (y == 2) = false := by simpa using h2
        have e3 : (y == 3) = false := by simpa using h3
        have e4 : (y == 4) = false := by simpa using h4
        have e5 : (y == 5) = false := by simpa using h5
        have HN3 := Lib.hid (And.intro h3 h5)
        have HK := Lib.hid (fset_any H4.out.1.fat L)
        obtain ⟨Z, hZ⟩ : ∃ Z, Z = X.filter (fun n => !decide (n ∈ H)) := ⟨_, rfl⟩
        have hZl : Z.length ≤ 32 := by rw [hZ]; exact Nat.le_trans (List.length_filter_le _ _) hXl
        have HZ := Lib.hid hZ
        clear hZ h2 h3 h4 h5
        go_wp2_with (first
          | (go_at_call 29; refine HK.out.mono ?_; rintro e w5 ⟨rfl, f5, h5⟩; have C5 := Lib.hid (And.intro f5 h5); have HT5 := Lib.hid (HT4.out.ch h5 (fun h e => by have := (HT.out.2 h).1; omega)); have HX5 := Lib.hid (H4.out.2.1.ch h5 (fun h e => by have := (TX.out h).1; have := SZ.out; omega)); obtain ⟨c0, c1⟩ := HC.out _ (H4.out.1.turn h5 f5).2.1; clear f5 h5; have HO5 := Lib.hid (H4.out.1.turn C5.out.2 C5.out.1).1; have HW := Lib.hid (without_any X H sX spH gX 0 gH 0 cX cpH w5 HX5.out HT5.out (by omega) (by omega)); rw [← HZ.out] at HW)
          | (go_at_call 25; refine HW.out.mono ?_; rintro e w6 ⟨v6, rfl, o6, b6⟩; obtain ⟨s6, g6, p6, rfl, l6, t6⟩ := own_lies o6; have L6 := Lib.hid (And.intro l6 b6); have HO6 := Lib.hid (own_below HO5.out b6 (Nat.le_refl _)); have S6 := Lib.hid (show q + 1 ≤ w6.heap.size by have := (H4.out.1.turn C5.out.2 C5.out.1).2.2.1; have := b6.size; omega); clear o6 l6 b6 t6)
          | (at_builtin; refine wpList_append_vary rfl (.tmp 49) (.tmp 52) 49 rfl (q + 1) 3 i0 (.int .i64 0) 1 8 Try.underlying49 hi hz0 hz1 hz2 rfl Nat.one_pos _ H.length (rowI H) rfl HO6.out s6 Z.length p6 (rowI Z) rfl (by rw [rowI_len]; omega) (fun e => by have l6 := L6.out.1; subst e; exact l6.none) (lies_cells L6.out.1) (rowI_one Z) (by unfold maxLen; omega) (by omega) S6.out ?_; intro v7 w7 o7 g7 _; have O7 := Lib.hid (And.intro o7 g7); clear o7 g7)
          | fail)
        go_meet
        case rel =>
          refine ⟨F ||| L, H ++ Z, [], 0, 0#32, ofNone L, _, 0, 0, rfl, rfl, rfl, rfl, H4.out.1.add C5.out.2 C5.out.1 L6.out.2 O7.out.1 O7.out.2 (by rw [HZ.out, HX.out]; exact add_perm HR.out.perm), Lies.nil _ _ _ _, by simp, said_none L y _ HN3.out.1 HN3.out.2⟩
      case rest =>
        obtain ⟨F2, H2', W, c, nn, ee, sW, gW, cW, rfl, rfl, rfl, rfl, HK⟩ := hcut
        obtain ⟨c0, c1⟩ := HC.out _ HK.out.1.below
        obtain ⟨sV, gV, cV, rfl, lV, _⟩ := HK.out.1.lies
        have hVl := HK.out.1.len
        have HWl := HK.out.2.2.1
        have HV := Lib.hid (refof_any sV gV 0 cV H2' wc (by omega) lV)
        rw [ofR_setL F2 H2' HK.out.1.perm] at HV
        have HA := Lib.hid (fall_any HK.out.1.fat)
        have HW := Lib.hid (refof_any sW gW 0 cW W wc (by omega) HK.out.2.1)
        have H0 := Lib.hid (refof_any none 0 0 0 [] wc (by simp) (Lies.nil _ _ _ _))
        rw [show ofR [] = 0#32 by decide] at H0
        have hgl := (got_perm (L := L) HR.out.perm).length_eq
        rw [← HX.out, ← HG.out] at hgl
        obtain ⟨hr, hy, r1, r2⟩ := HY.out
        have HS := HK.out.2.2.2
        have HKI := Lib.hid HK.out.1
        clear lV c1
        by_cases hL : L = 0#32
        · obtain ⟨rfl, rfl⟩ := HS.1 hL
          have hX0 : X.length = 0 := by rw [HX.out]; exact (setL_nil L).2 hL
          have hG0 : G.length = 0 := by rw [hgl, hL]; exact (setL_nil _).2 (by simp)
          have x0 : ((X.length : Int) == 0) = true := by rw [hX0]; rfl
          have g0 : ((G.length : Int) == 0) = true := by rw [hG0]; rfl
          clear hX0 hG0 hgl HS hL
          by_cases h3 : y = 3
          · have e3 : (y == 3) = true := by simpa using h3
            clear h3
            go_wp2_with fail
            refine H0.out.mono ?_
            rintro e w8 ⟨rfl, rfl⟩
            go_wp2_with fail
            refine HA.out.mono ?_
            rintro e w8 ⟨rfl, rfl⟩
            go_wp2_with fail
            refine HV.out.mono ?_
            rintro e w8 ⟨rfl, rfl⟩
            go_wp2
            go_roundg m1
            case measure => omega
            case rel => exact ⟨k + 1, F2, H2', by omega, by go_num, HKI.out⟩
          by_cases h5 : y = 5
          · have e3 : (y == 3) = false := by simpa using h3
            have e5 : (y == 5) = true := by simpa using h5
            clear h3 h5
            go_wp2_with fail
            refine H0.out.mono ?_
            rintro e w8 ⟨rfl, rfl⟩
            go_wp2_with fail
            refine HA.out.mono ?_
            rintro e w8 ⟨rfl, rfl⟩
            go_wp2_with fail
            refine HV.out.mono ?_
            rintro e w8 ⟨rfl, rfl⟩
            go_wp2
            go_roundg m1
            case measure => omega
            case rel => exact ⟨k + 1, F2, H2', by omega, by go_num, HKI.out⟩
          · have e3 : (y == 3) = false := by simpa using h3
            have e5 : (y == 5) = false := by simpa using h5
            clear h3 h5
            go_wp2_with fail
            refine H0.out.mono ?_
            rintro e w8 ⟨rfl, rfl⟩
            go_wp2_with fail
            refine HA.out.mono ?_
            rintro e w8 ⟨rfl, rfl⟩
            go_wp2_with fail
            refine HV.out.mono ?_
            rintro e w8 ⟨rfl, rfl⟩
            go_wp2
            go_roundg m1
            case measure => omega
            case rel => exact ⟨k + 1, F2, H2', by omega, by go_num, HKI.out⟩
        · obtain ⟨rfl, rfl⟩ := HS.2 hL
          have x0 : ((X.length : Int) == 0) = false := by
            have : ¬ X.length = 0 := fun e => hL ((setL_nil L).1 (by rw [← HX.out]; exact e))
            rw [beq_eq_false_iff_ne]; omega
          clear hgl HS hL
          by_cases hG0 : G.length = 0
          · have g0 : ((G.length : Int) == 0) = true := by rw [hG0]; rfl
            have gg : (G.length : Int) = 0 := by omega
            clear hG0
            by_cases h3 : y = 3
            · have e3 : (y == 3) = true := by simpa using h3
              rw [if_pos ⟨.inl h3, gg⟩]
              clear h3 gg
              go_wp2_with fail
              refine HW.out.mono ?_
              rintro e w8 ⟨rfl, rfl⟩
              go_wp2_with fail
              refine HA.out.mono ?_
              rintro e w8 ⟨rfl, rfl⟩
              go_wp2_with fail
              refine HV.out.mono ?_
              rintro e w8 ⟨rfl, rfl⟩
              go_wp2
              go_roundg m1
              case measure => omega
              case rel => exact ⟨k + 1, F2, H2', by omega, by go_num, HKI.out⟩
            by_cases h5 : y = 5
            · have e3 : (y == 3) = false := by simpa using h3
              have e5 : (y == 5) = true := by simpa using h5
              rw [if_pos ⟨.inr h5, gg⟩]
              clear h3 h5 gg
              go_wp2_with fail
              refine HW.out.mono ?_
              rintro e w8 ⟨rfl, rfl⟩
              go_wp2_with fail
              refine HA.out.mono ?_
              rintro e w8 ⟨rfl, rfl⟩
              go_wp2_with fail
              refine HV.out.mono ?_
              rintro e w8 ⟨rfl, rfl⟩
              go_wp2
              go_roundg m1
              case measure => omega
              case rel => exact ⟨k + 1, F2, H2', by omega, by go_num, HKI.out⟩
            · have e3 : (y == 3) = false := by simpa using h3
              have e5 : (y == 5) = false := by simpa using h5
              rw [if_neg (fun h => h.1.elim h3 h5)]
              clear h3 h5 gg
              go_wp2_with fail
              refine HW.out.mono ?_
              rintro e w8 ⟨rfl, rfl⟩
              go_wp2_with fail
              refine HA.out.mono ?_
              rintro e w8 ⟨rfl, rfl⟩
              go_wp2_with fail
              refine HV.out.mono ?_
              rintro e w8 ⟨rfl, rfl⟩
              go_wp2
              go_roundg m1
              case measure => omega
              case rel => exact ⟨k + 1, F2, H2', by omega, by go_num, HKI.out⟩
          · have g0 : ((G.length : Int) == 0) = false := by rw [beq_eq_false_iff_ne]; omega
            have gg : ¬ (G.length : Int) = 0 := by omega
            clear hG0
            rw [if_neg (fun h => gg h.2)]
            clear gg
            by_cases h3 : y = 3
            · have e3 : (y == 3) = true := by simpa using h3
              clear h3
              go_wp2_with fail
              refine HW.out.mono ?_
              rintro e w8 ⟨rfl, rfl⟩
              go_wp2_with fail
              refine HA.out.mono ?_
              rintro e w8 ⟨rfl, rfl⟩
              go_wp2_with fail
              refine HV.out.mono ?_
              rintro e w8 ⟨rfl, rfl⟩
              go_wp2
              go_roundg m1
              case measure => omega
              case rel => exact ⟨k + 1, F2, H2', by omega, by go_num, HKI.out⟩
            by_cases h5 : y = 5
            · have e3 : (y == 3) = false := by simpa using h3
              have e5 : (y == 5) = true := by simpa using h5
              clear h3 h5
              go_wp2_with fail
              refine HW.out.mono ?_
              rintro e w8 ⟨rfl, rfl⟩
              go_wp2_with fail
              refine HA.out.mono ?_
              rintro e w8 ⟨rfl, rfl⟩
              go_wp2_with fail
              refine HV.out.mono ?_
              rintro e w8 ⟨rfl, rfl⟩
              go_wp2
              go_roundg m1
              case measure => omega
              case rel => exact ⟨k + 1, F2, H2', by omega, by go_num, HKI.out⟩
            · have e3 : (y == 3) = false := by simpa using h3
              have e5 : (y == 5) = false := by simpa using h5
              clear h3 h5
              go_wp2_with fail
              refine HW.out.mono ?_
              rintro e w8 ⟨rfl, rfl⟩
              go_wp2_with fail
              refine HA.out.mono ?_
              rintro e w8 ⟨rfl, rfl⟩
              go_wp2_with fail
              refine HV.out.mono ?_
              rintro e w8 ⟨rfl, rfl⟩
              go_wp2
              go_roundg m1
              case measure => omega
              case rel => exact ⟨k + 1, F2, H2', by omega, by go_num, HKI.out⟩
end Go.Proofs.Ytdfknobohgncaaa
