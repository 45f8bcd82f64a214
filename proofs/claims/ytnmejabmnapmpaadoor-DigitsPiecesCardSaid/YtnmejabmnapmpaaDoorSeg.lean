/- A text's pieces between a byte, and the contract of strings.SplitSeq's closure at a separator of one blank. -/
import Derived.Test.YtnmejabmnapmpaaDoorLoop
import Derived.Test.YtnmejabmnapmpaaDoorWord
import Derived.RecoverIn
import Derived.OwnWalkIn
import Derived.TacticsInMore
import Derived.RegionIn
import Derived.LoopNIn
import Derived.LoopIn
import Derived.Shelf.Abstract
import Derived.Shelf.RegionOpen
import Derived.Lib.IndexLaws
import Derived.Sort.LoopGhostIn
namespace Go.Proofs.YtnmejabmnapmpaaDoor
open Go.RowKit
attribute [local go_sem] Oper.semAt_some

/-- What stands between the bytes c. -/
def segs (c : UInt8) : List UInt8 → List (List UInt8)
  | [] => [[]]
  | x :: l => if x = c then [] :: segs c l else match segs c l with
    | [] => [[x]]
    | h :: t => (x :: h) :: t
theorem segs_ne (c : UInt8) (l : List UInt8) : segs c l ≠ [] := by
  cases l with
  | nil => simp [segs]
  | cons x l => simp only [segs]; split <;> (try split) <;> simp
theorem segs_none (c : UInt8) (l : List UInt8) (h : Lib.indexByte l c = -1) : segs c l = [l] := by
  induction l with
  | nil => rfl
  | cons x l ih =>
    have hge := Lib.indexByte_ge l c
    simp only [Lib.indexByte] at h
    split at h
    · cases h
    · rename_i hx
      split at h
      · rename_i h1
        have := ih (by simpa using h1)
        simp only [segs]
        rw [if_neg (by simpa using hx), this]
      · omega
theorem segs_some (c : UInt8) (l : List UInt8) (i : Nat) (h : Lib.indexByte l c = (i : Int)) : segs c l = l.take i :: segs c (l.drop (i + 1)) := by
  induction l generalizing i with
  | nil => exact absurd h (by simp only [Lib.indexByte]; omega)
  | cons x l ih =>
    have hge := Lib.indexByte_ge l c
    simp only [Lib.indexByte] at h
    split at h
    · rename_i hx
      obtain rfl : i = 0 := by omega
      simp only [segs]
      rw [if_pos (by simpa using hx)]; rfl
    · rename_i hx
      split at h
      · omega
      · rename_i h1
        have h1' : Lib.indexByte l c ≠ -1 := by simpa using h1
        obtain ⟨j, rfl⟩ : ∃ j, i = j + 1 := ⟨i - 1, by omega⟩
        have := ih j (by omega)
        simp only [segs]
        rw [if_neg (by simpa using hx), this]; rfl
theorem index_lt {l : List UInt8} {c : UInt8} {i : Nat} (h : Lib.indexByte l c = (i : Int)) : i < l.length := by
  have := (Lib.indexByte_some h).1
  exact (List.getElem?_eq_some_iff.1 this).1

def bs (l : List UInt8) : ByteArray := ⟨l.toArray⟩
/-- The k-th of a list of lists. -/
def at_ (L : List (List UInt8)) (k : Nat) : List UInt8 := L[k]?.getD []

theorem at_drop {L : List (List UInt8)} {k : Nat} {h : List UInt8} {t : List (List UInt8)} (e : h :: t = L.drop k) : at_ L k = h ∧ t = L.drop (k + 1) := by
  have h0 : L[k]? = some h := by
    have := congrArg (·[0]?) e
    simpa using this.symm
  refine ⟨by unfold at_; rw [h0]; rfl, ?_⟩
  have := congrArg List.tail e
  simpa using this
theorem bs_extract (r : ByteArray) (a b : Nat) : bs ((r.data.toList.drop a).take (b - a)) = r.extract a b := by
  have h := Lib.extract_toList r a b
  rw [ByteArray.toList_eq] at h
  exact (bytes_ext h).symm
theorem bs_list (l : List UInt8) : (bs l).data.toList = l := by simp [bs]
theorem bs_self (r : ByteArray) : bs r.data.toList = r := rfl
theorem extract_list (r : ByteArray) (a b : Nat) : (r.extract a b).data.toList = (r.data.toList.drop a).take (b - a) := by
  rw [← ByteArray.toList_eq]; exact Lib.extract_toList r a b

theorem clone_any (s : ByteArray) (w : World) (h : s.size ≤ 281474976710656) : Calls Tryd.prog 29 #[.string s] w fun e w' => e = .returned (.string s) ∧ Below w.heap.size w w' := by
  go_enter Tryd.func29, Tryd.ntmps29
  go_wp2_with (go_at_call 36; refine (Tryd.stringslite_Clone _ _ h).mono ?_; rintro e w' ⟨rfl, hb⟩)
  go_ret
  exact ⟨rfl, hb⟩

theorem split_in (l Bs Bp Bz : Nat) (s : ByteArray) (hs : s.size ≤ 9223372036854775807) (T : Nat → Prop) (J Jx : Nat → World → Prop) (W : World)
    (_hps : Bp ≠ Bs) (_hzs : Bz ≠ Bs)
    (hsep : ∀ k W', J k W' → W'.cell? ⟨Bp, 0, none⟩ = some (.string ⟨#[32]⟩)) (hsav : ∀ k W', J k W' → W'.cell? ⟨Bz, 0, none⟩ = some (.int .i64 0))
    (hJ : ∀ k W W', J k W → Ch (fun j => j = Bs) W W' → J k W')
    (hT : ¬ T Bs) (hc0 : W.cell? ⟨Bs, 0, none⟩ = some (.string s)) (hf0 : W.frozen? ⟨Bs, 0, none⟩ = false)
    (hR : Rounds Tryd.prog l (segs 32 s.data.toList).length (fun k => #[.string (bs (at_ (segs 32 s.data.toList) k))]) T 0 J Jx) (h0 : J 0 W) :
    Iter Tryd.prog 45 #[.pointer (some ⟨Bp, 0, none⟩), .pointer (some ⟨Bs, 0, none⟩), .pointer (some ⟨Bz, 0, none⟩)] l (segs 32 s.data.toList).length J Jx W := by
  refine callsIn_of_wp Tryd.func45 rfl trivial ?_ rfl
  simp only [Tryd.ntmps45, List.size_toArray, List.length_cons, List.length_nil, Nat.reduceAdd, Nat.reduceSub, Array.replicate_succ, Array.replicate_zero, List.push_toArray, List.append_toArray, List.nil_append, List.cons_append]
  have hp0 := hsep 0 W h0
  have HP := Lib.hid hsep
  have HZ := Lib.hid hsav
  have HJ := Lib.hid hJ
  clear hsep hsav hJ
  gi_wp2
  clear hp0
  gi_loopg [] (segs 32 s.data.toList).length (fun g wr => ∃ (k : Nat) (r : ByteArray), k + g = (segs 32 s.data.toList).length ∧ r.size ≤ 9223372036854775807 ∧ wr.cell? ⟨Bs, 0, none⟩ = some (.string r) ∧ wr.frozen? ⟨Bs, 0, none⟩ = false ∧ Aside (segs 32 r.data.toList = (segs 32 s.data.toList).drop k) ∧ Aside (J k wr))
  case atStart => exact ⟨0, s, by omega, hs, hc0, hf0, rfl, h0⟩
  case round =>
    obtain ⟨k, r, hkg, hrs, hcr, hfr, HS, HJk⟩ := hrel
    have hz := HZ.out k wr HJk.out
    have hp := HP.out k wr HJk.out
    have hge := Lib.indexByte_ge r.data.toList 32
    obtain ⟨ib, hib⟩ : ∃ ib, Lib.indexByte r.data.toList 32 = ib := ⟨_, rfl⟩
    have hI : ∀ w', Calls Tryd.prog 47 #[.string r, .string ⟨#[32]⟩] w' fun e w'' => e = .returned (.int .i64 ib) ∧ w' = w'' := by
      intro w'
      refine (Tryd.strings_Index_one r 32 w').mono ?_
      rintro e w'' ⟨rfl, rfl⟩
      exact ⟨by rw [hib], rfl⟩
    rw [hib] at hge
    have HI := Lib.hid hI
    clear hI
    by_cases hneg : ib < 0
    · have hn1 : ib = -1 := by omega
      subst hn1
      have hseg := segs_none 32 _ hib
      have hone : k + 1 = (segs 32 s.data.toList).length := by
        have := congrArg List.length HS.out
        rw [hseg] at this
        simp at this; omega
      have HG := Lib.hid hseg
      clear hib hseg hge
      obtain ⟨fn, tmps, assign, body, hy, hRo⟩ := hR k wr HJk.out (by omega) (Nat.zero_le _)
      have hfrag : bs (at_ (segs 32 s.data.toList) k) = r := by
        rw [(at_drop (HG.out.symm.trans HS.out)).1, bs_self]
      dsimp only at hy
      rw [hfrag] at hy
      clear hfrag
      gi_wp2_with (refine ⟨trivial, rfl, ?_⟩; gi_at_call 47; refine (callsIn_wide.2 (HI.out _)).mono ?_; rintro e w' ⟨rfl, rfl⟩)
      refine ⟨rfl, hRo.mono ?_⟩
      rintro e W3 (⟨rfl, hJ3, hc3⟩ | ⟨rfl, hJx3, -⟩)
      · rw [hone] at hJ3
        gi_wp2
        go_end0
        exact ⟨⟨_, rfl⟩, .inl hJ3⟩
      · gi_wp2
        go_end0
        exact ⟨⟨_, rfl⟩, .inr ⟨k + 1, by omega, hJx3⟩⟩
    · obtain ⟨i, rfl⟩ : ∃ i : Nat, ib = (i : Int) := ⟨ib.toNat, by omega⟩
      have hil := index_lt hib
      have hil' : i < r.size := by simpa using hil
      have hseg := segs_some 32 _ _ hib
      have hlen : k + 1 < (segs 32 s.data.toList).length := by
        have := congrArg List.length HS.out
        rw [hseg] at this
        have h2 := List.length_pos_iff.2 (segs_ne 32 (r.data.toList.drop (i + 1)))
        simp at this; omega
      have HG := Lib.hid hseg
      clear hib hseg hil hge
      obtain ⟨fn, tmps, assign, body, hy, hRo⟩ := hR k wr HJk.out (by omega) (Nat.zero_le _)
      have hfrag : bs (at_ (segs 32 s.data.toList) k) = r.extract 0 i := by
        rw [(at_drop (HG.out.symm.trans HS.out)).1, ← bs_extract]; simp
      dsimp only at hy
      rw [hfrag] at hy
      clear hfrag
      gi_wp2_with (refine ⟨trivial, rfl, ?_⟩; gi_at_call 47; refine (callsIn_wide.2 (HI.out _)).mono ?_; rintro e w' ⟨rfl, rfl⟩)
      refine ⟨rfl, hRo.mono ?_⟩
      rintro e W3 (⟨rfl, hJ3, hc3⟩ | ⟨rfl, hJx3, -⟩)
      · have hcr3 := hc3.cell hcr hT
        have hfr3 := (hc3.frozenCell hcr hT).trans hfr
        have hp3 := HP.out _ W3 hJ3
        clear hp hz hcr hfr hy
        gi_wp2
        go_roundg (gk - 1)
        case measure => omega
        case rel =>
          refine ⟨k + 1, r.extract (i + 1) r.size, by omega, ?_, ?_, ?_, ?_, ?_⟩
          · rw [ByteArray.size_extract]; omega
          · simp [go_sem, hcr3]
          · simp [go_sem, hfr3]
          · show segs 32 _ = _
            rw [← (at_drop (HG.out.symm.trans HS.out)).2, extract_list, List.take_of_length_le (by simp)]
          · exact HJ.out _ _ _ hJ3 ((Ch.refl _ _).setCell _ _ (.inl rfl))
      · gi_wp2
        refine bodyPost_ret (results_none rfl _ _ _) rfl ?_
        exact ⟨⟨_, rfl⟩, .inr ⟨k + 1, by omega, hJx3⟩⟩

end Go.Proofs.YtnmejabmnapmpaaDoor
