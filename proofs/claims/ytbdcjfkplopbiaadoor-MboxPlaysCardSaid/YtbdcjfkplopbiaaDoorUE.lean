/- The contracts of mbox's giveWay and Send. -/
import Derived.Test.YtbdcjfkplopbiaaDoorUD
namespace Go.Proofs.YtbdcjfkplopbiaaDoor
open Go.RowKit

theorem last_mem {y : BitVec 32} (hy : y ≠ 0#32) : ∃ g : Nat, lastI y = (g : Int) ∧ g ∈ lst y 32 ∧ ∀ n ∈ lst y 32, n ≤ g := by
  have hl : 0 < (lst y 32).length := by
    rcases Nat.eq_zero_or_pos (lst y 32).length with h | h
    · exact absurd (by
        apply BitVec.eq_of_getLsbD_eq
        intro i hi
        rw [BitVec.getLsbD_zero]
        cases hx : y.getLsbD i with
        | false => rfl
        | true =>
          have : i ∈ lst y 32 := (mem_lst y 32 i).2 ⟨hi, hx⟩
          rw [List.length_eq_zero_iff.1 h] at this; cases this) hy
    · exact h
  obtain ⟨m, hm⟩ : ∃ m, (lst y 32).length = m + 1 := ⟨(lst y 32).length - 1, by omega⟩
  have hlt : m < (lst y 32).length := by omega
  refine ⟨(lst y 32)[m], ?_, List.getElem_mem hlt, fun n hn => ?_⟩
  · unfold lastI
    rw [hm]
    show nth (ints (lst y 32)) m = _
    unfold nth ints
    simp [hlt]
  · obtain ⟨i, hi, rfl⟩ := List.mem_iff_getElem.1 hn
    have hs : (lst y 32).Pairwise (· < ·) := by unfold lst; exact List.Pairwise.filter _ List.pairwise_lt_range
    rcases Nat.lt_or_ge i m with h | h
    · exact Nat.le_of_lt (List.pairwise_iff_getElem.1 hs i m hi hlt h)
    · have : i = m := by omega
      subst this; exact Nat.le_refl _
theorem above_mem {f : Nat → List Int} {t : Int} {g : Nat} (h : g ∈ lst (btw (dgK f 32) t 32) 32) : g < 32 ∧ (f g).length ≠ 0 ∧ t < (g : Int) := by
  obtain ⟨h1, h2⟩ := (mem_lst _ _ _).1 h
  rw [btw_bit _ _ _ _ h1, dgK_bit f 32 (Nat.le_refl _) g h1] at h2
  simp at h2
  exact ⟨h1, by simpa using h2.1.2, h2.2.1⟩
theorem w32_neq {y : BitVec 32} (h : y ≠ 0#32) : (w32 y != 0) = true := by
  have : w32 y ≠ 0 := fun e => h (w32_inj.1 (e.trans w32_zero))
  simpa using this
set_option maxHeartbeats 1000000 in
theorem give_no {w : World} {V : Nat → Prop} {B : Nat} {rm : Int} {f : Nat → List Int} (h : BAt w V B rm f) (ht : Tab w) (t : Int) (hy : btw (dgK f 32) t 32 = 0#32) :
    Calls Tryd.prog 16 #[.pointer (some ⟨B, 0, none⟩), .int .i64 t] w fun e w' => e = .returned (.bool false) ∧ Below w.heap.size w w' := by
  obtain ⟨sp, cp, hx⟩ := h
  have HD := Lib.hid (mdeg_any hx)
  have HA := Lib.hid (fun w => above_any (dgK f 32) t w)
  rw [hy] at HA
  have HL := Lib.hid (mlast_any 0#32 w ht)
  rw [show (w32 0#32 != 0) = false from rfl] at HL
  clear hx ht hy
  go_enter Tryd.func16, Tryd.ntmps16
  go_wp2_with (first
    | (go_at_call 13; refine HD.out.mono ?_; rintro e w2 ⟨rfl, rfl⟩)
    | (go_at_call 23; refine (HA.out _).mono ?_; rintro e w2 ⟨rfl, rfl⟩)
    | (go_at_call 22; refine HL.out.mono ?_; rintro e w3 ⟨rfl, b3⟩; have H3 := Lib.hid b3; clear b3))
  go_ret
  exact ⟨rfl, H3.out⟩
theorem nth_init (L : List Int) (k : Nat) (hk : k < L.dropLast.length) : nth L.dropLast k = nth L k := by
  have h1 : k < L.length := by rw [List.length_dropLast] at hk; omega
  unfold nth
  rw [List.getD_eq_getElem?_getD, List.getD_eq_getElem?_getD, List.getElem?_eq_getElem hk, List.getElem?_eq_getElem h1, List.getElem_dropLast]
set_option maxHeartbeats 4000000 in
set_option maxRecDepth 100000 in
theorem give_yes {w : World} {V : Nat → Prop} {B : Nat} {rm : Int} {f : Nat → List Int} (h : BAt w V B rm f) (hV : ∀ j, V j → j < w.heap.size) (ht : Tab w) (t : Int) (g : Nat) (hy : btw (dgK f 32) t 32 ≠ 0#32) (hg : lastI (btw (dgK f 32) t 32) = (g : Int)) (hd : g < 32) (h0 : (f g).length ≠ 0) (hm : (f g).length ≤ 65536) :
    Calls Tryd.prog 16 #[.pointer (some ⟨B, 0, none⟩), .int .i64 t] w fun e w' => e = .returned (.bool true) ∧ BAt w' V B rm (updF f g (f g).dropLast) ∧ Ch (fun j => ¬ V j) w w' := by
  obtain ⟨sp, cp, hx⟩ := h
  have HD := Lib.hid (mdeg_any hx)
  have HA := Lib.hid (fun w => above_any (dgK f 32) t w)
  have HL := Lib.hid (mlast_any (btw (dgK f 32) t 32) w ht)
  rw [hg, w32_neq hy] at HL
  have HX := Lib.hid (And.intro hx hV)
  have HF := Lib.hid (And.intro hd (And.intro h0 hm))
  have g0 : (0 : Int) ≤ (g : Int) := by omega
  have g1 : (g : Int) < 32 := by omega
  clear hx ht hy hg hV hd h0 hm
  go_enter Tryd.func16, Tryd.ntmps16
  go_upto_region 4 with (first
    | (go_at_call 13; refine HD.out.mono ?_; rintro e w2 ⟨rfl, rfl⟩)
    | (go_at_call 23; refine (HA.out _).mono ?_; rintro e w2 ⟨rfl, rfl⟩)
    | (go_at_call 22; refine HL.out.mono ?_; rintro e w3 ⟨rfl, b3⟩; have H3 := Lib.hid b3; clear b3))
  obtain ⟨w1, hw1⟩ : ∃ w1, w1 = w3 := ⟨_, rfl⟩
  have hx1 := HX.out.1.new H3.out
  have hV1 : ∀ j, V j → j < w3.heap.size := fun j hj => by have := HX.out.2 j hj; have := H3.out.size; omega
  obtain ⟨q, off, cur, hsp, hq, hoc, hlc, hcs⟩ := (hx1.sl g HF.out.1).cons HF.out.2.1
  have cd := hx1.cd g HF.out.1
  have fd := hx1.fr (1 + g)
  have hlen : (f g).dropLast.length = (f g).length - 1 := List.length_dropLast
  have hslc : Slc w3 (some ⟨q, off, none⟩) (cp g) (f g).dropLast := .inr ⟨q, off, cur, rfl, hq, hoc, by omega, fun k hk => by rw [nth_init _ _ hk]; exact hcs k (by omega)⟩
  have ht1 := hx1.turn hV1 HF.out.1 (Ch.refl _ _) hslc (fun a ha => by injection ha with ha; subst ha; exact ⟨(hx1.av g _ HF.out.1 hsp).2.2, .inl ⟨_, hsp, rfl⟩⟩)
  rw [hlen] at ht1
  have HE := Lib.hid (And.intro ht1.1 (Ch.trans (show Ch (fun j => ¬ V j) w w3 from Ch.new H3.out) ht1.2))
  obtain ⟨n, hn⟩ : ∃ n, (f g).length = n := ⟨_, rfl⟩
  have n1 : 1 ≤ n := by have := HF.out.2.1; omega
  have n2 : n ≤ 65536 := by have := HF.out.2.2; omega
  obtain ⟨c, hc⟩ : ∃ c, cp g = c := ⟨_, rfl⟩
  have nc : n ≤ c := by rw [← hn, ← hc]; exact hlc
  rw [hsp, hn, hc] at cd
  rw [hn, hc] at HE
  have c0 : ¬ c = 0 := by omega
  have e1 : ((n : Nat) : Int) - 1 = ((n - 1 : Nat) : Int) := by omega
  have e2 : n - 1 ≤ c := by omega
  clear hx1 hV1 hsp hq hoc hlc hcs hlen hslc ht1 hn hc hw1 HX
  go_wp2
  go_region
  go_wp2
  go_ret
  exact ⟨rfl, ⟨_, _, HE.out.1.new (below_dn (Below.refl _ _) 1)⟩, HE.out.2.drewN 1⟩
end Go.Proofs.YtbdcjfkplopbiaaDoor
