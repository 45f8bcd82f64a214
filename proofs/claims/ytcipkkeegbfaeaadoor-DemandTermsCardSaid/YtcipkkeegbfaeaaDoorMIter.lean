/- The contracts of what mask's All and ready's All hand back: the closures, and what they go through. -/
import Derived.Test.YtcipkkeegbfaeaaDoorFoot
import Derived.Test.YtcipkkeegbfaeaaDoorMRef
import Derived.RecoverIn
import Derived.OwnWalkIn
import Derived.TacticsInMore
import Derived.RegionIn
import Derived.LoopNIn
import Derived.LoopIn
import Derived.Shelf.Abstract
import Derived.Shelf.RegionOpen
import Derived.Sort.LoopGhostIn
namespace Go.Proofs.YtcipkkeegbfaeaaDoor
open Go.RowKit
attribute [local go_sem] Oper.semAt_some

theorem lst_rest (y : BitVec 32) (h : Nat) (t : List Nat) (e : lst y 32 = h :: t) : lst (y &&& ~~~onl (h : Int)) 32 = t := by
  have hnd : (lst y 32).Nodup := by
    unfold lst; exact List.Pairwise.filter _ List.nodup_range
  rw [e] at hnd
  have hn : h ∉ t := (List.nodup_cons.1 hnd).1
  have h1 : lst (y &&& ~~~onl (h : Int)) 32 = (lst y 32).filter (fun i => decide (i ≠ h)) := by
    unfold lst
    rw [List.filter_filter]
    apply List.filter_congr
    intro i hi
    have hi' : i < 32 := by simpa using hi
    rw [BitVec.getLsbD_and, BitVec.getLsbD_not, onl_bit _ i hi']
    by_cases e : i = h
    · subst e; simp
    · have : ¬ ((i : Int) = (h : Int)) := by omega
      simp [hi', e, this]
  rw [h1, e, List.filter_cons]
  simp
  intro a ha e
  exact hn (e ▸ ha)

theorem All_any (x : BitVec 32) (w : World) : Calls Tryd.prog 39 #[.int .u32 (w32 x)] w fun e w' => e = .returned (.func (.func 55) #[] #[.pointer (some ⟨w.heap.size, 0, none⟩)]) ∧ w' = w.alloc (.cells #[.int .u32 (w32 x)] 45) := by
  have hmf : ∀ (fn : Fn) (first cap : Array Value) (w : World), (Instr.makeFunc fn first cap).run Tryd.prog w = .ok (.func fn first cap) w := fun _ _ _ _ => rfl
  go_enter Tryd.func39, Tryd.ntmps39
  go_wp2
  go_ret
  exact ⟨rfl, rfl⟩
theorem all_in (l Bs : Nat) (x : BitVec 32) (F : World → Nat → Prop) (J Jx : Nat → World → Prop) (W : World)
    (hT0 : ∀ k W', J k W' → Tab W') (hs0 : W.cell? ⟨Bs, 0, none⟩ = some (.int .u32 (w32 x)))
    (hR : RoundsF Tryd.prog l (lst x 32).length (fun k => #[.int .i64 (nth (ints (lst x 32)) k)]) F J Jx) (h0 : J 0 W) :
    Iter Tryd.prog 55 #[.pointer (some ⟨Bs, 0, none⟩)] l (lst x 32).length J Jx W := by
  refine callsIn_of_wp Tryd.func55 rfl trivial ?_ rfl
  simp only [Tryd.ntmps55, List.size_toArray, List.length_cons, List.length_nil, Nat.reduceAdd, Nat.reduceSub, Array.replicate_succ, Array.replicate_zero, List.push_toArray, List.append_toArray, List.nil_append, List.cons_append]
  have HF := fun (y : BitVec 32) k W' (hJ : J k W') => Lib.hid (first_any y W' (hT0 k W' hJ))
  clear hT0
  gi_wp2_with (refine ⟨trivial, rfl, ?_⟩; gi_at_call 56; refine (callsIn_wide.2 (HF x 0 W h0).out).mono ?_; rintro e w' ⟨rfl, rfl⟩)
  clear hs0
  gi_loopg [3, 4, 5] (lst x 32).length (fun g v n ok wr => ∃ (k : Nat) (y : BitVec 32), k + g = (lst x 32).length ∧ v = .int .u32 (w32 y) ∧ n = .int .i64 ((lst y 32).headD 0 : Nat) ∧ ok = .bool (decide (0 < (lst y 32).length)) ∧ Aside (lst y 32 = (lst x 32).drop k) ∧ Aside (J k wr))
  case atStart => exact ⟨0, x, by omega, rfl, by rw [List.headD_eq_head?_getD], rfl, rfl, h0⟩
  case round =>
    obtain ⟨k, y, hkg, rfl, rfl, rfl, HS, HJk⟩ := hrel
    cases gk with
    | zero =>
      have hy : lst y 32 = [] := by rw [HS.out, List.drop_of_length_le (by omega)]
      have hd : decide (0 < (lst y 32).length) = false := by rw [hy]; rfl
      rw [hd]
      obtain rfl : k = (lst x 32).length := by omega
      clear hy hd
      gi_wp2
      go_end0
      exact ⟨⟨_, rfl⟩, .inl HJk.out⟩
    | succ g1 =>
      have hlt : k < (lst x 32).length := by omega
      obtain ⟨h, t, hy⟩ : ∃ h t, lst y 32 = h :: t := by
        cases hl : lst y 32 with
        | nil => rw [hl] at HS; have := congrArg List.length HS.out; simp at this; omega
        | cons h t => exact ⟨h, t, rfl⟩
      have hd : decide (0 < (lst y 32).length) = true := by rw [hy]; rfl
      have hh : (lst y 32).headD 0 = h := by rw [hy]; rfl
      have hcons : h :: t = (lst x 32).drop k := by rw [← hy]; exact HS.out
      have hat : nth (ints (lst x 32)) k = (h : Int) := by
        have h1 : (lst x 32)[k]? = some h := by
          have := congrArg (·[0]?) hcons
          simpa using this.symm
        unfold nth ints
        simp [h1]
      have htl : t = (lst x 32).drop (k + 1) := by
        have := congrArg List.tail hcons
        simpa using this
      have hre := lst_rest y h t hy
      rw [hd, hh]
      obtain ⟨z, hz⟩ : ∃ z, y &&& ~~~onl (h : Int) = z := ⟨_, rfl⟩
      rw [hz] at hre
      have HW := fun W' => Lib.hid (without_any y h W')
      rw [hz] at HW
      have HTL := Lib.hid (hre.trans htl)
      obtain ⟨fn, tmps, assign, body, hyd, hRo⟩ := hR k wr HJk.out hlt
      dsimp only at hyd
      rw [hat] at hyd
      clear hre htl hat hcons hh hd hz
      gi_wp2
      refine ⟨rfl, hRo.mono ?_⟩
      rintro e W3 (⟨rfl, hJ3, hc3⟩ | ⟨rfl, hJx3, -⟩)
      · have HJ3 := Lib.hid hJ3
        have HF3 := HF z _ W3 hJ3
        clear hJ3 hyd
        gi_wp2_with (first
          | (refine ⟨trivial, rfl, ?_⟩; gi_at_call 57; refine (callsIn_wide.2 (HW _).out).mono ?_; rintro e w' ⟨rfl, rfl⟩)
          | (refine ⟨trivial, rfl, ?_⟩; gi_at_call 56; refine (callsIn_wide.2 HF3.out).mono ?_; rintro e w' ⟨rfl, rfl⟩))
        go_roundg g1
        case measure => omega
        case rel => exact ⟨k + 1, z, by omega, rfl, by rw [List.headD_eq_head?_getD], rfl, HTL.out, HJ3.out⟩
      · gi_wp2
        refine bodyPost_ret (results_none rfl _ _ _) rfl ?_
        exact ⟨⟨_, rfl⟩, .inr ⟨k + 1, by omega, hJx3⟩⟩
end Go.Proofs.YtcipkkeegbfaeaaDoor
