/- The walk of MaskGoes: true for every set and every number of rounds. -/
import Derived.Test.YtkfaccbabagooaaDoorColl
import Derived.Deep.RegionHeld3
import Derived.BigRegion
namespace Go.Proofs.YtkfaccbabagooaaDoor
open Go.RowKit

theorem below_drew {n : Nat} {w w' : World} (h : Below n w w') : Below n w w'.drew := ⟨h.os, h.tape, h.output, h.size, h.block⟩

theorem row_any (sa sb : Option Addr) (ga oa ca gb ob cb : Nat) (l : List Int) (w : World) (hl : l.length ≤ 1000) (ha : Lies w sa ga oa l) (hb : Lies w sb gb ob l) :
    Calls Tryd.prog 19 #[.slice sa l.length ca, .slice sb l.length cb] w fun e w' => e = .returned (.bool true) ∧ Below w.heap.size w w' := by
  have HA := Lib.hid ha
  have HB := Lib.hid hb
  clear ha hb
  go_enter Tryd.func19, Tryd.ntmps19
  go_wp2
  go_loopg [5] l.length (fun g i wr => ∃ (k : Nat), k + g = l.length ∧ i = .int .i64 k ∧ Aside (Below w.heap.size w wr))
  case atStart => exact ⟨0, by omega, rfl, Below.refl _ _⟩
  case round =>
    obtain ⟨k, hkg, rfl, HW⟩ := hrel
    cases gk with
    | zero =>
      obtain rfl : k = l.length := by omega
      go_wp2
      go_ret
      exact ⟨rfl, HW.out⟩
    | succ g1 =>
      have hlt : k < l.length := by omega
      have hk1 : (k : Int) < (l.length : Int) := by omega
      obtain ⟨rfl, hga⟩ := HA.out.1 (by omega)
      obtain ⟨rfl, hgb⟩ := HB.out.1 (by omega)
      have hca : wr.cell? ⟨ga, oa + k, none⟩ = some (.int .i64 (nth l k)) := by rw [HW.out.cell (p := ⟨ga, oa + k, none⟩) hga]; exact HA.out.2 k hlt
      have hcb : wr.cell? ⟨gb, ob + k, none⟩ = some (.int .i64 (nth l k)) := by rw [HW.out.cell (p := ⟨gb, ob + k, none⟩) hgb]; exact HB.out.2 k hlt
      go_wp2
      go_region
      go_wp2
      go_roundg g1
      case measure => omega
      case rel => exact ⟨k + 1, by omega, by go_num, below_drew HW.out⟩

/-- What all hands back, as a slice that lies. -/
def Same (w1 : World) (L : List Int) (e : Ending) (w' : World) : Prop :=
  ∃ sp g cap, e = .returned (.slice sp L.length cap) ∧ Lies w' sp g 0 L ∧ Below w1.heap.size w1 w'

theorem all_any (x : BitVec 32) (m : Nat) (hm : m ≤ 1000) (w1 w : World) (h1 : Below w1.heap.size w1 w) (ht : Tab w) :
    Calls Tryd.prog 20 #[.int .u32 (w32 x), .int .i64 m] w (Same w1 ((ints (lst x 32)).take m)) := by
  by_cases h0 : m = 0
  · subst h0
    refine (all_zero x w).mono ?_
    rintro e w' ⟨rfl, hb⟩
    exact ⟨none, 0, 0, rfl, ⟨fun h => absurd h (by simp), fun k hk => absurd hk (by simp)⟩, h1.trans (hb.mono h1.size)⟩
  · refine (all_law x m ⟨by omega, hm⟩ w ht).mono ?_
    rintro e w' ⟨v, rfl, hown, hb⟩
    obtain ⟨sp, g, cap, rfl, hl, _⟩ := own_lies hown
    exact ⟨sp, g, cap, rfl, hl, h1.trans (hb.mono h1.size)⟩
/-- The same with a length said apart. -/
def Same2 (w1 : World) (L : List Int) (n : Nat) (e : Ending) (w' : World) : Prop :=
  ∃ sp g cap, e = .returned (.slice sp n cap) ∧ Lies w' sp g 0 L ∧ Below w1.heap.size w1 w'
theorem lies_take {w : World} {sp : Option Addr} {g : Nat} {L : List Int} (h : Lies w sp g 0 L) (K : Nat) : Lies w sp g 0 (L.take K) :=
  ⟨fun h0 => h.1 (by simp at h0; omega), fun k hk => by
    have hk' : k < L.length ∧ k < K := by simp at hk; omega
    rw [h.2 k hk'.1]
    simp [nth, hk'.1, hk'.2]⟩

theorem shl_len (n : Nat) (hn : n < 9) : wrap64 ((2 : Int) ^ n) = ((2 ^ n : Nat) : Int) := by
  have h : (2 : Int) ^ n = ((2 ^ n : Nat) : Int) := by simp
  have h2 : 2 ^ n ≤ 2 ^ 8 := Nat.pow_le_pow_right (by omega) (by omega)
  have h3 : 0 < 2 ^ n := Nat.two_pow_pos n
  rw [h]; generalize 2 ^ n = m at *; unfold wrap64; omega

set_option maxRecDepth 100000 in
set_option maxHeartbeats 8000000 in
theorem law_goes (x : BitVec 32) (mo : Nat) (hmo : mo < 256) (w : World) (ht : Tab w) :
    Calls Tryd.prog 5 #[.int .u32 (w32 x), .int .u8 mo] w fun e w' => e = .returned (.bool true) ∧ Below w.heap.size w w' := by
  have hp := Lib.hid ht.pos
  have HT := Lib.hid ht
  have hmoI : (mo : Int) < 256 := by omega
  clear ht
  go_enter Tryd.func5, Tryd.ntmps5
  go_wp2_with fail
  refine (list_any x w).mono ?_
  rintro e w1 ⟨v, rfl, hown, hb1⟩
  obtain ⟨L, hL⟩ : ∃ L, L = ints (lst x 32) := ⟨_, rfl⟩
  have hlen : (lst x 32).length = L.length := by rw [hL]; unfold ints; simp
  have h32 : L.length ≤ 32 := by rw [← hlen]; exact lst_len x 32
  rw [← hL, hlen] at hown
  have HB1 := Lib.hid hb1
  have HT1 : ∀ wz : World, Below w1.heap.size w1 wz → Tab wz := fun wz hz => HT.out.below hp.out (hb1.trans (hz.mono hb1.size))
  have CA0 : ∀ wz : World, Below w1.heap.size w1 wz → Calls Tryd.prog 20 #[.int .u32 (w32 x), .int .i64 40] wz (Same2 w1 L L.length) := fun wz hz => by
    have h := all_any x 40 (by decide) w1 wz hz (HT1 wz hz)
    rw [← hL, List.take_of_length_le (by omega)] at h
    exact h
  have CM0 : ∀ (K : Nat), K ≤ L.length → ∀ wz : World, Below w1.heap.size w1 wz → Calls Tryd.prog 20 #[.int .u32 (w32 x), .int .i64 K] wz (Same2 w1 (L.take K) K) := fun K hK wz hz => by
    have h := all_any x K (by omega) w1 wz hz (HT1 wz hz)
    rw [← hL] at h
    refine h.mono ?_
    rintro e w' ⟨sp, g, cap, h1, h2, h3⟩
    have : (L.take K).length = K := by simp; omega
    rw [this] at h1
    exact ⟨sp, g, cap, h1, h2, h3⟩
  have CR0 : ∀ (spx : Option Addr) (gx capx : Nat), Lies w1 spx gx 0 L → (0 < L.length → gx < w1.heap.size) → ∀ (K : Nat), K ≤ L.length → ∀ (wz : World) (sp : Option Addr) (gg cp cpx : Nat), Below w1.heap.size w1 wz → Lies wz sp gg 0 (L.take K) →
      Calls Tryd.prog 19 #[.slice sp K cp, .slice spx K cpx] wz fun e w' => e = .returned (.bool true) ∧ Below w1.heap.size w1 w' := fun spx gx capx hl hg K hK wz sp gg cp cpx hz hlz => by
    have h := row_any sp spx gg 0 cp gx 0 cpx (L.take K) wz (by simp; omega) hlz (lies_take (hl.below hz hg) K)
    have e : (L.take K).length = K := by simp; omega
    rw [e] at h
    exact h.mono fun e w' h => ⟨h.1, hz.trans (h.2.mono hz.size)⟩
  have CA := Lib.hid CA0
  have CM := Lib.hid CM0
  have CR := Lib.hid CR0
  have HLen := Lib.hid (And.intro hL hlen)
  have HT1' := Lib.hid HT1
  have S0 : Below w1.heap.size w1 w1 := Below.refl _ _
  clear CA0 CM0 CR0 HT1 hL hlen hb1
  rcases hown.2 with ⟨rfl, h0⟩ | ⟨g, cap, cur, rfl, hbg, hheap, hncap, hcapm, hrest⟩
  · obtain rfl : L = [] := List.eq_nil_of_length_eq_zero h0
    have HL0 := Lib.hid (show (lst x 32).length = 0 from HLen.out.2)
    have CRn := CR.out none 0 0 ⟨fun h => absurd h (by decide), fun k hk => absurd hk (by simp)⟩ (fun h => absurd h (by decide)) 0 (Nat.le_refl _)
    have D20 := Lib.hid (show ∀ (z : Int) (l : List Int), (z = 40 ∨ z = 0) → ∀ wz : World, Below w1.heap.size w1 wz → Calls Tryd.prog 20 #[.int .u32 (w32 x), .int .i64 z] wz (Same2 w1 [] 0) by
      rintro z l (rfl | rfl) wz hz
      · exact CA.out wz hz
      · exact CM.out 0 (Nat.le_refl _) wz hz)
    have D19 := Lib.hid (show ∀ (wz : World) (sp : Option Addr) (gg cp cpx : Nat), Below w1.heap.size w1 wz → Lies wz sp gg 0 [] →
        Calls Tryd.prog 19 #[.slice sp 0 cp, .slice none 0 cpx] wz fun e w' => e = .returned (.bool true) ∧ Below w1.heap.size w1 w' from fun wz sp gg cp cpx hz hl => CRn wz sp gg cp cpx hz hl)
    clear hown CRn
    by_cases hm : 0 < mo
    · have hmI : (0 : Int) < (mo : Int) := by omega
      go_wp2
      go_region_held3 (fun w' => Below w1.heap.size w1 w') (first | assumption | exact below_drew (by assumption))
        (first
          | (go_at_call 20; refine (D20.out _ [] (by first | exact .inl rfl | exact .inr rfl) _ (by assumption)).mono ?_; rintro e w' ⟨sp, gg, cp, rfl, hlie, hbel⟩)
          | (go_at_call 19; refine (D19.out _ _ _ _ _ (by assumption) (by assumption)).mono ?_; rintro e w' ⟨rfl, hbel⟩))
      have B6 := Lib.hid hbel
      clear hlie hbel D20 D19
      go_wp2_with fail
      refine (parts_law x 300 (by decide) _).mono ?_
      rintro e w2 ⟨v2, rfl, hown2, hb2⟩
      rw [HL0.out, show min (2 ^ 0) 300 = 1 from rfl] at hown2
      have B2 := Lib.hid (B6.out.trans (hb2.mono B6.out.size))
      clear hb2
      obtain ⟨g2, cap2, rfl⟩ : ∃ g2 cap2, v2 = .slice (some ⟨g2, 0, none⟩) 1 cap2 := by
        rcases hown2.2 with ⟨_, h0⟩ | ⟨g2, cap2, _, h, _⟩
        · omega
        · exact ⟨g2, cap2, h⟩
      have hg2 := (hown2.lt g2 rfl).2
      have hcells : ∀ (wz : World), Below w2.heap.size w2 wz → wz.cell? ⟨g2, 0, none⟩ = some (.int .u32 0) := fun wz hz => by
        rw [hz.cell (p := ⟨g2, 0, none⟩) hg2, hown2.cellAt 0 (by omega)]
        rfl
      have HC2 := Lib.hid hcells
      clear hown2 hcells
      go_wp2
      go_loopg [8] 1 (fun n i wr => ∃ (k : Nat), k + n = 1 ∧ i = .int .i64 k ∧ Aside (Below w2.heap.size w2 wr))
      case atStart => exact ⟨0, by omega, rfl, Below.refl _ _⟩
      case round =>
        obtain ⟨k, hkg, rfl, HW⟩ := hrel
        have hc0 := HC2.out wr HW.out
        cases gk with
        | zero =>
          obtain rfl : k = 1 := by omega
          have BW := Lib.hid (B2.out.trans (HW.out.mono B2.out.size))
          have hal := Lib.hid (alive_any wr (HT1'.out wr BW.out))
          have fin := fun (w' : World) (h : Below wr.heap.size wr w') => HB1.out.trans ((BW.out.trans (h.mono BW.out.size)).mono HB1.out.size)
          have FIN := Lib.hid fin
          clear fin
          go_wp2_with (go_at_call 16; refine hal.out.mono ?_; rintro e w' ⟨rfl, hb⟩)
          go_ret
          exact ⟨rfl, FIN.out _ hb⟩
        | succ g1 =>
          obtain rfl : k = 0 := by omega
          obtain rfl : g1 = 0 := by omega
          have hin : bits .andNot .u32 0 (w32 x) = 0 := by rw [w32_zero, andNot32]; simp [w32]
          go_wp2
          go_region
          go_wp2
          go_roundg 0
          case measure => omega
          case rel => exact ⟨1, by omega, by go_num, below_drew HW.out⟩
    · obtain rfl : mo = 0 := by omega
      go_wp2
      go_region_held3 (fun w' => Below w1.heap.size w1 w') (first | assumption | exact below_drew (by assumption))
        (first
          | (go_at_call 20; refine (D20.out _ [] (by first | exact .inl rfl | exact .inr rfl) _ (by assumption)).mono ?_; rintro e w' ⟨sp, gg, cp, rfl, hlie, hbel⟩)
          | (go_at_call 19; refine (D19.out _ _ _ _ _ (by assumption) (by assumption)).mono ?_; rintro e w' ⟨rfl, hbel⟩))
      have B6 := Lib.hid hbel
      clear hlie hbel D20 D19
      go_wp2_with fail
      refine (parts_law x 300 (by decide) _).mono ?_
      rintro e w2 ⟨v2, rfl, hown2, hb2⟩
      rw [HL0.out, show min (2 ^ 0) 300 = 1 from rfl] at hown2
      have B2 := Lib.hid (B6.out.trans (hb2.mono B6.out.size))
      clear hb2
      obtain ⟨g2, cap2, rfl⟩ : ∃ g2 cap2, v2 = .slice (some ⟨g2, 0, none⟩) 1 cap2 := by
        rcases hown2.2 with ⟨_, h0⟩ | ⟨g2, cap2, _, h, _⟩
        · omega
        · exact ⟨g2, cap2, h⟩
      have hg2 := (hown2.lt g2 rfl).2
      have hcells : ∀ (wz : World), Below w2.heap.size w2 wz → wz.cell? ⟨g2, 0, none⟩ = some (.int .u32 0) := fun wz hz => by
        rw [hz.cell (p := ⟨g2, 0, none⟩) hg2, hown2.cellAt 0 (by omega)]
        rfl
      have HC2 := Lib.hid hcells
      clear hown2 hcells
      go_wp2
      go_loopg [8] 1 (fun n i wr => ∃ (k : Nat), k + n = 1 ∧ i = .int .i64 k ∧ Aside (Below w2.heap.size w2 wr))
      case atStart => exact ⟨0, by omega, rfl, Below.refl _ _⟩
      case round =>
        obtain ⟨k, hkg, rfl, HW⟩ := hrel
        have hc0 := HC2.out wr HW.out
        cases gk with
        | zero =>
          obtain rfl : k = 1 := by omega
          have BW := Lib.hid (B2.out.trans (HW.out.mono B2.out.size))
          have hal := Lib.hid (alive_any wr (HT1'.out wr BW.out))
          have fin := fun (w' : World) (h : Below wr.heap.size wr w') => HB1.out.trans ((BW.out.trans (h.mono BW.out.size)).mono HB1.out.size)
          have FIN := Lib.hid fin
          clear fin
          go_wp2_with (go_at_call 16; refine hal.out.mono ?_; rintro e w' ⟨rfl, hb⟩)
          go_ret
          exact ⟨rfl, FIN.out _ hb⟩
        | succ g1 =>
          obtain rfl : k = 0 := by omega
          obtain rfl : g1 = 0 := by omega
          have hin : bits .andNot .u32 0 (w32 x) = 0 := by rw [w32_zero, andNot32]; simp [w32]
          go_wp2
          go_region
          go_wp2
          go_roundg 0
          case measure => omega
          case rel => exact ⟨1, by omega, by go_num, below_drew HW.out⟩
  · have hgl := (hown.lt g rfl).2
    have hl1 : Lies w1 (some ⟨g, 0, none⟩) g 0 L := ⟨fun _ => ⟨rfl, hgl⟩, fun k hk => by rw [Nat.zero_add]; exact (hown.cellAt k (by omega)).trans (rowI_get _ k hk)⟩
    have CRg := Lib.hid (CR.out _ g cap hl1 (fun _ => hgl))
    have hcapI : (L.length : Int) ≤ (cap : Int) := by omega
    clear hown hbg hheap hrest hl1
    have C20 : ∀ (K : Nat), K ≤ L.length → ∀ (z : Int) (n : Nat) (l : List Int), ((z = 40 ∧ n = L.length ∧ l = L) ∨ (z = (K : Int) ∧ n = K ∧ l = L.take K)) → ∀ wz : World, Below w1.heap.size w1 wz → Calls Tryd.prog 20 #[.int .u32 (w32 x), .int .i64 z] wz (Same2 w1 l n) := by
      rintro K hK z n l (⟨rfl, rfl, rfl⟩ | ⟨rfl, rfl, rfl⟩) wz hz
      · exact CA.out wz hz
      · exact CM.out n hK wz hz
    have C19 : ∀ (K : Nat), K ≤ L.length → ∀ (wz : World) (sp : Option Addr) (gg cp cpx : Nat) (n : Nat) (l : List Int), Below w1.heap.size w1 wz → Lies wz sp gg 0 l → ((l = L ∧ n = L.length) ∨ (l = L.take K ∧ n = K)) →
        Calls Tryd.prog 19 #[.slice sp n cp, .slice (some ⟨g, 0, none⟩) n cpx] wz fun e w' => e = .returned (.bool true) ∧ Below w1.heap.size w1 w' := by
      rintro K hK wz sp gg cp cpx n l hz hl (⟨rfl, rfl⟩ | ⟨rfl, rfl⟩)
      · have h := CRg.out l.length (Nat.le_refl _) wz sp gg cp cpx hz
        rw [List.take_length] at h
        exact h hl
      · exact CRg.out n hK wz sp gg cp cpx hz hl
    by_cases hm : L.length < mo
    · have hmI : (L.length : Int) < (mo : Int) := by omega
      have D20 := Lib.hid (C20 L.length (Nat.le_refl _))
      have D19 := Lib.hid (C19 L.length (Nat.le_refl _))
      clear C20 C19
      go_wp2
      go_region_held3 (fun w' => Below w1.heap.size w1 w') (first | assumption | exact below_drew (by assumption))
        (first
          | (go_at_call 20; refine (D20.out _ _ _ (by first | exact .inl ⟨rfl, rfl, rfl⟩ | exact .inr ⟨rfl, rfl, rfl⟩) _ (by assumption)).mono ?_; rintro e w' ⟨sp, gg, cp, rfl, hlie, hbel⟩)
          | (go_at_call 19; refine (D19.out _ _ _ _ _ _ _ (by assumption) (by assumption) (by first | exact .inl ⟨rfl, rfl⟩ | exact .inr ⟨rfl, rfl⟩)).mono ?_; rintro e w' ⟨rfl, hbel⟩))
      have B6 := Lib.hid hbel
      clear hlie hbel D20 D19
      go_wp2_with fail
      refine (parts_law x 300 (by decide) _).mono ?_
      rintro e w2 ⟨v2, rfl, hown2, hb2⟩
      rw [HLen.out.2] at hown2
      have B2 := Lib.hid (B6.out.trans (hb2.mono B6.out.size))
      clear hb2
      obtain ⟨P, hP⟩ : ∃ P, min (2 ^ L.length) 300 = P := ⟨_, rfl⟩
      have hPpos : 0 < P := by have := Nat.two_pow_pos L.length; omega
      have hP300 : P ≤ 300 := by omega
      have hPN : P ≤ 2 ^ cnt 32 x.toNat := by rw [cnt_len, HLen.out.2]; omega
      rw [hP] at hown2
      obtain ⟨g2, cap2, rfl⟩ : ∃ g2 cap2, v2 = .slice (some ⟨g2, 0, none⟩) P cap2 := by
        rcases hown2.2 with ⟨_, h0⟩ | ⟨g2, cap2, _, h, _⟩
        · omega
        · exact ⟨g2, cap2, h⟩
      have hg2 := (hown2.lt g2 rfl).2
      have hcells : ∀ (wz : World), Below w2.heap.size w2 wz → ∀ k, k < P → wz.cell? ⟨g2, k, none⟩ = some (.int .u32 (w32 (prt x k))) := fun wz hz k hk => by
        rw [hz.cell (p := ⟨g2, k, none⟩) hg2, hown2.cellAt k (by omega)]
        unfold rowP
        simp [hk]
      have HC2 := Lib.hid hcells
      have HPP := Lib.hid (And.intro hP hPN)
      clear hown2 hcells hP hPN
      go_wp2
      go_loopg [8] P (fun n i wr => ∃ (k : Nat), k + n = P ∧ i = .int .i64 k ∧ Aside (Below w2.heap.size w2 wr))
      case atStart => exact ⟨0, by omega, rfl, Below.refl _ _⟩
      case round =>
        obtain ⟨k, hkg, rfl, HW⟩ := hrel
        cases gk with
        | zero =>
          obtain rfl : k = P := by omega
          have hc0 : wr.cell? ⟨g2, 0, none⟩ = some (.int .u32 0) := HC2.out wr HW.out 0 (by omega)
          have BW := Lib.hid (B2.out.trans (HW.out.mono B2.out.size))
          have hal := Lib.hid (alive_any wr (HT1'.out wr BW.out))
          have hPI : (0 : Int) < (k : Int) := by omega
          have fin := fun (w' : World) (h : Below wr.heap.size wr w') => HB1.out.trans ((BW.out.trans (h.mono BW.out.size)).mono HB1.out.size)
          have FIN := Lib.hid fin
          clear fin
          by_cases h9 : L.length < 9
          · have h9I : (L.length : Int) < 9 := by omega
            have hk2 : k = 2 ^ L.length := by
              have h1 := HPP.out.1
              have h2 : 2 ^ L.length ≤ 2 ^ 8 := Nat.pow_le_pow_right (by omega) (by omega)
              omega
            have HK2 := Lib.hid hk2
            have hsh := shl_len L.length h9
            rw [← hk2] at hsh
            clear hk2
            go_wp2_with (go_at_call 16; refine hal.out.mono ?_; rintro e w' ⟨rfl, hb⟩)
            go_ret
            exact ⟨rfl, FIN.out _ hb⟩
          · have h9I : (9 : Int) ≤ (L.length : Int) := by omega
            have hk2 : k = 300 := by
              have h1 := HPP.out.1
              have h2 : 2 ^ 9 ≤ 2 ^ L.length := Nat.pow_le_pow_right (by omega) (by omega)
              omega
            subst hk2
            go_wp2_with (go_at_call 16; refine hal.out.mono ?_; rintro e w' ⟨rfl, hb⟩)
            go_ret
            exact ⟨rfl, FIN.out _ hb⟩
        | succ g1 =>
          have hlt : k < P := by omega
          have hkI : (k : Int) < (P : Int) := by omega
          have hc := HC2.out wr HW.out k hlt
          have hin : bits .andNot .u32 (w32 (prt x k)) (w32 x) = 0 := by rw [andNot32, prt_in]; rfl
          cases k with
          | zero =>
            have HCk := Lib.hid hc
            go_wp2
            go_region
            go_wp2
            go_roundg g1
            case measure => omega
            case rel => exact ⟨1, by omega, by go_num, below_drew HW.out⟩
          | succ j =>
            have hcj := HC2.out wr HW.out j (by omega)
            have hrise := prt_rise x j (by have := HPP.out.2; omega)
            have hle : decide (w32 (prt x (j + 1)) ≤ w32 (prt x j)) = false := by
              rw [decide_eq_false_iff_not]; unfold w32; omega
            have hjI : (j : Int) < (P : Int) := by omega
            have hj1 : (((j + 1 : Nat) : Int) - 1) = (j : Int) := by omega
            go_wp2
            go_region
            go_wp2
            go_roundg g1
            case measure => omega
            case rel => exact ⟨j + 1 + 1, by omega, by go_num, below_drew HW.out⟩
    · have hmI : ¬ ((L.length : Int) < (mo : Int)) := by omega
      have hmK : (mo : Int) ≤ (cap : Int) := by omega
      have D20 := Lib.hid (C20 mo (by omega))
      have D19 := Lib.hid (C19 mo (by omega))
      clear C20 C19
      go_wp2
      go_region_held3 (fun w' => Below w1.heap.size w1 w') (first | assumption | exact below_drew (by assumption))
        (first
          | (go_at_call 20; refine (D20.out _ _ _ (by first | exact .inl ⟨rfl, rfl, rfl⟩ | exact .inr ⟨rfl, rfl, rfl⟩) _ (by assumption)).mono ?_; rintro e w' ⟨sp, gg, cp, rfl, hlie, hbel⟩)
          | (go_at_call 19; refine (D19.out _ _ _ _ _ _ _ (by assumption) (by assumption) (by first | exact .inl ⟨rfl, rfl⟩ | exact .inr ⟨rfl, rfl⟩)).mono ?_; rintro e w' ⟨rfl, hbel⟩))
      have B6 := Lib.hid hbel
      clear hlie hbel D20 D19
      go_wp2_with fail
      refine (parts_law x 300 (by decide) _).mono ?_
      rintro e w2 ⟨v2, rfl, hown2, hb2⟩
      rw [HLen.out.2] at hown2
      have B2 := Lib.hid (B6.out.trans (hb2.mono B6.out.size))
      clear hb2
      obtain ⟨P, hP⟩ : ∃ P, min (2 ^ L.length) 300 = P := ⟨_, rfl⟩
      have hPpos : 0 < P := by have := Nat.two_pow_pos L.length; omega
      have hP300 : P ≤ 300 := by omega
      have hPN : P ≤ 2 ^ cnt 32 x.toNat := by rw [cnt_len, HLen.out.2]; omega
      rw [hP] at hown2
      obtain ⟨g2, cap2, rfl⟩ : ∃ g2 cap2, v2 = .slice (some ⟨g2, 0, none⟩) P cap2 := by
        rcases hown2.2 with ⟨_, h0⟩ | ⟨g2, cap2, _, h, _⟩
        · omega
        · exact ⟨g2, cap2, h⟩
      have hg2 := (hown2.lt g2 rfl).2
      have hcells : ∀ (wz : World), Below w2.heap.size w2 wz → ∀ k, k < P → wz.cell? ⟨g2, k, none⟩ = some (.int .u32 (w32 (prt x k))) := fun wz hz k hk => by
        rw [hz.cell (p := ⟨g2, k, none⟩) hg2, hown2.cellAt k (by omega)]
        unfold rowP
        simp [hk]
      have HC2 := Lib.hid hcells
      have HPP := Lib.hid (And.intro hP hPN)
      clear hown2 hcells hP hPN
      go_wp2
      go_loopg [8] P (fun n i wr => ∃ (k : Nat), k + n = P ∧ i = .int .i64 k ∧ Aside (Below w2.heap.size w2 wr))
      case atStart => exact ⟨0, by omega, rfl, Below.refl _ _⟩
      case round =>
        obtain ⟨k, hkg, rfl, HW⟩ := hrel
        cases gk with
        | zero =>
          obtain rfl : k = P := by omega
          have hc0 : wr.cell? ⟨g2, 0, none⟩ = some (.int .u32 0) := HC2.out wr HW.out 0 (by omega)
          have BW := Lib.hid (B2.out.trans (HW.out.mono B2.out.size))
          have hal := Lib.hid (alive_any wr (HT1'.out wr BW.out))
          have hPI : (0 : Int) < (k : Int) := by omega
          have fin := fun (w' : World) (h : Below wr.heap.size wr w') => HB1.out.trans ((BW.out.trans (h.mono BW.out.size)).mono HB1.out.size)
          have FIN := Lib.hid fin
          clear fin
          by_cases h9 : L.length < 9
          · have h9I : (L.length : Int) < 9 := by omega
            have hk2 : k = 2 ^ L.length := by
              have h1 := HPP.out.1
              have h2 : 2 ^ L.length ≤ 2 ^ 8 := Nat.pow_le_pow_right (by omega) (by omega)
              omega
            have HK2 := Lib.hid hk2
            have hsh := shl_len L.length h9
            rw [← hk2] at hsh
            clear hk2
            go_wp2_with (go_at_call 16; refine hal.out.mono ?_; rintro e w' ⟨rfl, hb⟩)
            go_ret
            exact ⟨rfl, FIN.out _ hb⟩
          · have h9I : (9 : Int) ≤ (L.length : Int) := by omega
            have hk2 : k = 300 := by
              have h1 := HPP.out.1
              have h2 : 2 ^ 9 ≤ 2 ^ L.length := Nat.pow_le_pow_right (by omega) (by omega)
              omega
            subst hk2
            go_wp2_with (go_at_call 16; refine hal.out.mono ?_; rintro e w' ⟨rfl, hb⟩)
            go_ret
            exact ⟨rfl, FIN.out _ hb⟩
        | succ g1 =>
          have hlt : k < P := by omega
          have hkI : (k : Int) < (P : Int) := by omega
          have hc := HC2.out wr HW.out k hlt
          have hin : bits .andNot .u32 (w32 (prt x k)) (w32 x) = 0 := by rw [andNot32, prt_in]; rfl
          cases k with
          | zero =>
            have HCk := Lib.hid hc
            go_wp2
            go_region
            go_wp2
            go_roundg g1
            case measure => omega
            case rel => exact ⟨1, by omega, by go_num, below_drew HW.out⟩
          | succ j =>
            have hcj := HC2.out wr HW.out j (by omega)
            have hrise := prt_rise x j (by have := HPP.out.2; omega)
            have hle : decide (w32 (prt x (j + 1)) ≤ w32 (prt x j)) = false := by
              rw [decide_eq_false_iff_not]; unfold w32; omega
            have hjI : (j : Int) < (P : Int) := by omega
            have hj1 : (((j + 1 : Nat) : Int) - 1) = (j : Int) := by omega
            go_wp2
            go_region
            go_wp2
            go_roundg g1
            case measure => omega
            case rel => exact ⟨j + 1 + 1, by omega, by go_num, below_drew HW.out⟩
end Go.Proofs.YtkfaccbabagooaaDoor
