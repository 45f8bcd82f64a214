/- A text's lines, and the contracts of strings.Lines' closure, of strings.Cut at a sign and of strings.TrimSuffix at the byte 10. -/
import Derived.Test.YtnmejabmnapmpaaDoorCol
namespace Go.Proofs.YtnmejabmnapmpaaDoor
open Go.RowKit
attribute [local go_sem] Oper.semAt_some

/-- The lines of a text, each with the byte 10 at its end. -/
def lns : List UInt8 → List (List UInt8)
  | [] => []
  | x :: l => if x = 10 then [10] :: lns l else match lns l with
    | [] => [[x]]
    | h :: t => (x :: h) :: t
theorem lns_none (l : List UInt8) (hne : l ≠ []) (h : Lib.indexByte l 10 = -1) : lns l = [l] := by
  induction l with
  | nil => exact absurd rfl hne
  | cons x l ih =>
    have hge := Lib.indexByte_ge l 10
    simp only [Lib.indexByte] at h
    split at h
    · cases h
    · rename_i hx
      split at h
      · rename_i h1
        simp only [lns]
        rw [if_neg (by simpa using hx)]
        by_cases hl : l = []
        · subst hl; rfl
        · rw [ih hl (by simpa using h1)]
      · omega
theorem lns_some (l : List UInt8) (i : Nat) (h : Lib.indexByte l 10 = (i : Int)) : lns l = l.take (i + 1) :: lns (l.drop (i + 1)) := by
  induction l generalizing i with
  | nil => exact absurd h (by simp only [Lib.indexByte]; omega)
  | cons x l ih =>
    have hge := Lib.indexByte_ge l 10
    simp only [Lib.indexByte] at h
    split at h
    · rename_i hx
      obtain rfl : i = 0 := by omega
      simp only [lns]
      have hx' : x = 10 := by simpa using hx
      rw [if_pos hx', hx']; rfl
    · rename_i hx
      split at h
      · omega
      · rename_i h1
        have h1' : Lib.indexByte l 10 ≠ -1 := by simpa using h1
        obtain ⟨j, rfl⟩ : ∃ j, i = j + 1 := ⟨i - 1, by omega⟩
        have := ih j (by omega)
        simp only [lns]
        rw [if_neg (by simpa using hx), this]; rfl
theorem lns_short (l : List UInt8) : ∀ p ∈ lns l, p.length ≤ l.length := by
  induction l with
  | nil => simp [lns]
  | cons x l ih =>
    intro p hp
    simp only [lns] at hp
    split at hp
    · rcases List.mem_cons.1 hp with rfl | hp
      · simp
      · have := ih p hp; simp; omega
    · split at hp
      · simp at hp; subst hp; simp
      · rename_i h t e
        rw [e] at ih
        rcases List.mem_cons.1 hp with rfl | hp
        · have := ih h (by simp); simp; omega
        · have := ih p (by simp [hp]); simp; omega
theorem lns_at (l : List UInt8) (k : Nat) : (at_ (lns l) k).length ≤ l.length := by
  unfold at_
  cases h : (lns l)[k]? with
  | none => simp
  | some p => exact lns_short l p (List.mem_of_getElem? h)
theorem lns_count (l : List UInt8) : (lns l).length ≤ l.length := by
  induction l with
  | nil => simp [lns]
  | cons x l ih =>
    simp only [lns]
    split
    · simp; omega
    · split
      · simp
      · rename_i e; rw [e] at ih; simp at ih ⊢; omega

/-- What stands ahead of the first sign 35. -/
def cut35 (q : List UInt8) : List UInt8 := if 0 ≤ Lib.indexByte q 35 then q.take (Lib.indexByte q 35).toNat else q
def trimNl (p : List UInt8) : List UInt8 := Lib.trimSuffix p [10]
def lin (l : List UInt8) : List (List UInt8) := (lns l).map fun p => cut35 (trimNl p)
theorem cut35_len (q : List UInt8) : (cut35 q).length ≤ q.length := by
  unfold cut35; split
  · simp; omega
  · exact Nat.le_refl _
theorem trimNl_len (q : List UInt8) : (trimNl q).length ≤ q.length := by
  unfold trimNl Lib.trimSuffix; split
  · simp
  · exact Nat.le_refl _
theorem lin_at (l : List UInt8) (k : Nat) (h : k < (lns l).length) : at_ (lin l) k = cut35 (trimNl (at_ (lns l) k)) := by
  simp [at_, lin, List.getElem?_eq_getElem h]
theorem lin_len (l : List UInt8) : (lin l).length = (lns l).length := by simp [lin]


theorem cut39_any (s : ByteArray) (w : World) (hs : s.size ≤ 9223372036854775806) : Calls Tryd.prog 39 #[.string s, .string ⟨#[35]⟩] w fun e w' =>
    ∃ b : ByteArray, ∃ c : Bool, e = .returned (.tuple #[.string (bs (cut35 s.data.toList)), .string b, .bool c]) ∧ Drewn w w' := by
  have hI : ∀ w', Calls Tryd.prog 49 #[.string s, .string ⟨#[35]⟩] w' fun e w'' => e = .returned (.int .i64 (Lib.indexByte s.data.toList 35)) ∧ w' = w'' := by
    intro w'
    refine (Tryd.stringslite_Index_one s 35 w').mono ?_
    rintro e w'' ⟨rfl, rfl⟩
    exact ⟨rfl, rfl⟩
  have hge := Lib.indexByte_ge s.data.toList 35
  by_cases h : 0 ≤ Lib.indexByte s.data.toList 35
  · obtain ⟨i, hi⟩ : ∃ i : Nat, Lib.indexByte s.data.toList 35 = (i : Int) := ⟨(Lib.indexByte s.data.toList 35).toNat, by omega⟩
    have hlt := index_lt hi
    have hlt' : i < s.size := by simpa using hlt
    have hi1 : (i : Int) ≤ (s.size : Int) := by omega
    have hi2 : (i : Int) + 1 ≤ (s.size : Int) := by omega
    have hc : bs (cut35 s.data.toList) = s.extract 0 i := by
      unfold cut35; rw [if_pos h, hi, ← bs_extract]; simp
    rw [hc]
    rw [hi] at hI
    have HI := Lib.hid hI
    clear hI hi hge h hlt hc
    go_enter Tryd.func39, Tryd.ntmps39
    go_wp2_with (go_at_call 49; refine (HI.out _).mono ?_; rintro e w' ⟨rfl, rfl⟩)
    go_quiet (fail)
    go_wp2
    go_ret3
    exact ⟨_, _, rfl, _, rfl⟩
  · have hneg : Lib.indexByte s.data.toList 35 = -1 := by omega
    have hc : bs (cut35 s.data.toList) = s := by unfold cut35; rw [if_neg h, bs_self]
    rw [hc]
    rw [hneg] at hI
    have HI := Lib.hid hI
    clear hI hge h hneg hc
    go_enter Tryd.func39, Tryd.ntmps39
    go_wp2_with (go_at_call 49; refine (HI.out _).mono ?_; rintro e w' ⟨rfl, rfl⟩)
    go_ret3
    exact ⟨_, _, rfl, Drewn.refl _⟩
theorem cut_any (s : ByteArray) (w : World) (hs : s.size ≤ 9223372036854775806) : Calls Tryd.prog 32 #[.string s, .string ⟨#[35]⟩] w fun e w' =>
    ∃ b : ByteArray, ∃ c : Bool, e = .returned (.tuple #[.string (bs (cut35 s.data.toList)), .string b, .bool c]) ∧ Drewn w w' := by
  go_enter Tryd.func32, Tryd.ntmps32
  go_wp2_with fail
  refine (cut39_any s w hs).mono ?_
  rintro e w' ⟨b, c, rfl, hd⟩
  go_wp2
  go_ret3
  exact ⟨b, c, rfl, hd⟩

theorem trim_any (s : ByteArray) (w : World) (hs : s.size ≤ 9223372036854775807) : Calls Tryd.prog 33 #[.string s, .string ⟨#[10]⟩] w fun e w' => e = .returned (.string (bs (trimNl s.data.toList))) ∧ w = w' := by
  refine (Tryd.strings_TrimSuffix s ⟨#[10]⟩ w hs).mono ?_
  rintro e w' ⟨rfl, rfl⟩
  exact ⟨rfl, rfl⟩


theorem slines_in (l Bs : Nat) (s : ByteArray) (hs : s.size ≤ 9223372036854775806) (T : Nat → Prop) (J Jx : Nat → World → Prop) (W : World)
    (hJ : ∀ k W W', J k W → Ch (fun j => j = Bs) W W' → J k W')
    (hT : ¬ T Bs) (hc0 : W.cell? ⟨Bs, 0, none⟩ = some (.string s)) (hf0 : W.frozen? ⟨Bs, 0, none⟩ = false)
    (hR : Rounds Tryd.prog l (lns s.data.toList).length (fun k => #[.string (bs (at_ (lns s.data.toList) k))]) T 0 J Jx) (h0 : J 0 W) :
    Iter Tryd.prog 37 #[.pointer (some ⟨Bs, 0, none⟩)] l (lns s.data.toList).length J Jx W := by
  refine callsIn_of_wp Tryd.func37 rfl trivial ?_ rfl
  simp only [Tryd.ntmps37, List.size_toArray, List.length_cons, List.length_nil, Nat.reduceAdd, Nat.reduceSub, Array.replicate_succ, Array.replicate_zero, List.push_toArray, List.append_toArray, List.nil_append, List.cons_append]
  have HJ := Lib.hid hJ
  clear hJ
  gi_wp2
  gi_loopg [] (lns s.data.toList).length (fun g wr => ∃ (k : Nat) (r : ByteArray), k + g = (lns s.data.toList).length ∧ r.size ≤ 9223372036854775806 ∧ wr.cell? ⟨Bs, 0, none⟩ = some (.string r) ∧ wr.frozen? ⟨Bs, 0, none⟩ = false ∧ Aside (lns r.data.toList = (lns s.data.toList).drop k) ∧ Aside (J k wr))
  case atStart => exact ⟨0, s, by omega, hs, hc0, hf0, rfl, h0⟩
  case round =>
    obtain ⟨k, r, hkg, hrs, hcr, hfr, HS, HJk⟩ := hrel
    by_cases hz : r.size = 0
    · have hk : k = (lns s.data.toList).length := by
        have h1 := congrArg List.length HS.out
        have h2 : r.data.toList = [] := List.eq_nil_of_length_eq_zero (by simpa using hz)
        rw [h2] at h1
        simp [lns] at h1; omega
      have hz0 : ((r.size : Nat) : Int) ≤ 0 := by omega
      clear hz
      gi_wp2
      go_end0
      exact ⟨⟨_, rfl⟩, .inl (hk ▸ HJk.out)⟩
    · have hz1 : (0 : Int) < (r.size : Int) := by omega
      have hrne : r.data.toList ≠ [] := by intro h; apply hz; have := congrArg List.length h; simpa using this
      have hge := Lib.indexByte_ge r.data.toList 10
      obtain ⟨ib, hib⟩ : ∃ ib, Lib.indexByte r.data.toList 10 = ib := ⟨_, rfl⟩
      have hI : ∀ w', Calls Tryd.prog 38 #[.string r, .int .u8 10] w' fun e w'' => e = .returned (.int .i64 ib) ∧ w' = w'' := by
        intro w'
        refine (Tryd.strings_IndexByte r 10 w').mono ?_
        rintro e w'' ⟨rfl, rfl⟩
        exact ⟨by rw [← hib]; rfl, rfl⟩
      rw [hib] at hge
      have HI := Lib.hid hI
      clear hI hz
      by_cases hneg : ib < 0
      · have hn1 : ib = -1 := by omega
        subst hn1
        have HG := Lib.hid (lns_none _ hrne hib)
        have hkl : k < (lns s.data.toList).length := by
          have := congrArg List.length HS.out
          rw [HG.out] at this
          simp at this; omega
        clear hib hge hrne
        obtain ⟨W2, hW2⟩ : ∃ W2, wr.setCell ⟨Bs, 0, none⟩ (.string ⟨#[]⟩) = W2 := ⟨_, rfl⟩
        have hch : Ch (fun j => j = Bs) wr W2 := by rw [← hW2]; exact (Ch.refl _ _).setCell _ _ (.inl rfl)
        have hcr2 : W2.cell? ⟨Bs, 0, none⟩ = some (.string ⟨#[]⟩) := by rw [← hW2]; simp [go_sem, hcr]
        have hfr2 : W2.frozen? ⟨Bs, 0, none⟩ = false := by rw [← hW2]; simp [go_sem, hfr]
        obtain ⟨fn, tmps, assign, body, hy, hRo⟩ := hR k W2 (HJ.out _ _ _ HJk.out hch) hkl (Nat.zero_le _)
        have hfrag : bs (at_ (lns s.data.toList) k) = r := by
          rw [(at_drop (HG.out.symm.trans HS.out)).1, bs_self]
        dsimp only at hy
        rw [hfrag] at hy
        clear hfrag
        gi_wp2_with (refine ⟨trivial, rfl, ?_⟩; gi_at_call 38; refine (callsIn_wide.2 (HI.out _)).mono ?_; rintro e w' ⟨rfl, rfl⟩)
        refine ⟨rfl, hRo.mono ?_⟩
        clear hW2 hy
        rintro e W3 (⟨rfl, hJ3, hc3⟩ | ⟨rfl, hJx3, -⟩)
        · have hcr3 := hc3.cell hcr2 hT
          have hfr3 := (hc3.frozenCell hcr2 hT).trans hfr2
          clear hcr hfr hcr2 hfr2
          gi_wp2
          go_roundg (gk - 1)
          case measure => omega
          case rel =>
            refine ⟨k + 1, ⟨#[]⟩, by omega, by simp [ByteArray.size], hcr3, hfr3, ?_, hJ3⟩
            show lns _ = _
            rw [← (at_drop (HG.out.symm.trans HS.out)).2]; rfl
        · gi_wp2
          refine bodyPost_ret (results_none rfl _ _ _) rfl ?_
          exact ⟨⟨_, rfl⟩, .inr ⟨k + 1, by omega, hJx3⟩⟩
      · obtain ⟨i, rfl⟩ : ∃ i : Nat, ib = (i : Int) := ⟨ib.toNat, by omega⟩
        have hil := index_lt hib
        have hil' : i < r.size := by simpa using hil
        have hi1 : (i : Int) + 1 ≤ (r.size : Int) := by omega
        have HG := Lib.hid (lns_some _ _ hib)
        have hkl : k < (lns s.data.toList).length := by
          have := congrArg List.length HS.out
          rw [HG.out] at this
          simp at this; omega
        clear hib hge hrne hil
        have hfrag : bs (at_ (lns s.data.toList) k) = r.extract 0 (i + 1) := by
          rw [(at_drop (HG.out.symm.trans HS.out)).1, ← bs_extract]; simp
        have HF := Lib.hid hfrag
        clear hfrag
        gi_wp2_with (refine ⟨trivial, rfl, ?_⟩; gi_at_call 38; refine (callsIn_wide.2 (HI.out _)).mono ?_; rintro e w' ⟨rfl, rfl⟩)
        gi_region
        all_goals
          obtain ⟨W2, hW2⟩ : ∃ W2, (wr.setCell ⟨Bs, 0, none⟩ (.string (r.extract (i + 1) r.size))).drew = W2 := ⟨_, rfl⟩
          have hch : Ch (fun j => j = Bs) wr W2 := by rw [← hW2]; exact ((Ch.refl (fun j => j = Bs) wr).setCell ⟨Bs, 0, none⟩ _ (.inl rfl)).drew
          have hcr2 : W2.cell? ⟨Bs, 0, none⟩ = some (.string (r.extract (i + 1) r.size)) := by rw [← hW2]; simp [go_sem, hcr]
          have hfr2 : W2.frozen? ⟨Bs, 0, none⟩ = false := by rw [← hW2]; simp [go_sem, hfr]
          rw [hW2]
          obtain ⟨fn, tmps, assign, body, hy, hRo⟩ := hR k W2 (HJ.out _ _ _ HJk.out hch) hkl (Nat.zero_le _)
          dsimp only at hy
          rw [HF.out] at hy
          clear hW2
          gi_wp2
          refine ⟨rfl, hRo.mono ?_⟩
          clear hy
          rintro e W3 (⟨rfl, hJ3, hc3⟩ | ⟨rfl, hJx3, -⟩)
          · have hcr3 := hc3.cell hcr2 hT
            have hfr3 := (hc3.frozenCell hcr2 hT).trans hfr2
            clear hcr hfr hcr2 hfr2
            gi_wp2
            go_roundg (gk - 1)
            case measure => omega
            case rel =>
              refine ⟨k + 1, r.extract (i + 1) r.size, by omega, ?_, hcr3, hfr3, ?_, hJ3⟩
              · rw [ByteArray.size_extract]; omega
              · show lns _ = _
                rw [← (at_drop (HG.out.symm.trans HS.out)).2, extract_list, List.take_of_length_le (by simp)]
          · gi_wp2
            refine bodyPost_ret (results_none rfl _ _ _) rfl ?_
            exact ⟨⟨_, rfl⟩, .inr ⟨k + 1, by omega, hJx3⟩⟩

theorem slines_any (s : ByteArray) (w : World) : Calls Tryd.prog 31 #[.string s] w fun e w' => e = .returned (.func (.func 37) #[] #[.pointer (some ⟨w.heap.size, 0, none⟩)]) ∧ w' = w.alloc (.cells #[.string s] 9) := by
  have hmf : ∀ (fn : Fn) (first cap : Array Value) (w : World), (Instr.makeFunc fn first cap).run Tryd.prog w = .ok (.func fn first cap) w := fun _ _ _ _ => rfl
  go_enter Tryd.func31, Tryd.ntmps31
  go_wp2
  go_ret
  exact ⟨rfl, rfl⟩
theorem Lines_any (s : ByteArray) (w : World) : Calls Tryd.prog 24 #[.string s] w fun e w' => e = .returned (.func (.func 30) #[] #[.pointer (some ⟨w.heap.size, 0, none⟩)]) ∧ w' = w.alloc (.cells #[.string s] 9) := by
  have hmf : ∀ (fn : Fn) (first cap : Array Value) (w : World), (Instr.makeFunc fn first cap).run Tryd.prog w = .ok (.func fn first cap) w := fun _ _ _ _ => rfl
  go_enter Tryd.func24, Tryd.ntmps24
  go_wp2
  go_ret
  exact ⟨rfl, rfl⟩

end Go.Proofs.YtnmejabmnapmpaaDoor
