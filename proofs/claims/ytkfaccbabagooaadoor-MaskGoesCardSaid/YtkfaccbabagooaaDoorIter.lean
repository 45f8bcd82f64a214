/- The contracts of what mask's All and Parts hand back: the closures, and what they go through. -/
import Derived.Test.YtkfaccbabagooaaDoorLoop
import Derived.Test.YtkfaccbabagooaaDoorLaws
import Derived.Test.YtkfaccbabagooaaDoorParts
import Derived.RecoverIn
import Derived.OwnWalkIn
import Derived.TacticsInMore
import Derived.RegionIn
import Derived.LoopNIn
import Derived.LoopIn
import Derived.Shelf.Abstract
import Derived.Shelf.RegionOpen
import Derived.Sort.LoopGhostIn
namespace Go.Proofs.YtkfaccbabagooaaDoor
open Go.RowKit
attribute [local go_sem] Oper.semAt_some

theorem All_any (x : BitVec 32) (w : World) : Calls Tryd.prog 25 #[.int .u32 (w32 x)] w fun e w' => e = .returned (.func (.func 27) #[] #[.pointer (some ⟨w.heap.size, 0, none⟩)]) ∧ w' = w.alloc (.cells #[.int .u32 (w32 x)] 24) := by
  have hmf : ∀ (fn : Fn) (first cap : Array Value) (w : World), (Instr.makeFunc fn first cap).run Tryd.prog w = .ok (.func fn first cap) w := fun _ _ _ _ => rfl
  go_enter Tryd.func25, Tryd.ntmps25
  go_wp2
  go_ret
  exact ⟨rfl, rfl⟩
theorem Parts_any (x : BitVec 32) (w : World) : Calls Tryd.prog 26 #[.int .u32 (w32 x)] w fun e w' => e = .returned (.func (.func 28) #[] #[.pointer (some ⟨w.heap.size, 0, none⟩)]) ∧ w' = w.alloc (.cells #[.int .u32 (w32 x)] 24) := by
  have hmf : ∀ (fn : Fn) (first cap : Array Value) (w : World), (Instr.makeFunc fn first cap).run Tryd.prog w = .ok (.func fn first cap) w := fun _ _ _ _ => rfl
  go_enter Tryd.func26, Tryd.ntmps26
  go_wp2
  go_ret
  exact ⟨rfl, rfl⟩

theorem all_in (l Bs : Nat) (x : BitVec 32) (T : Nat → Prop) (J Jx : Nat → World → Prop) (W : World)
    (hT0 : ∀ k W', J k W' → Tab W') (hsav : ∀ k W', J k W' → W'.cell? ⟨Bs, 0, none⟩ = some (.int .u32 (w32 x)))
    (hR : Rounds Tryd.prog l (lst x 32).length (fun k => #[.int .i64 (nth (ints (lst x 32)) k)]) T 0 J Jx) (h0 : J 0 W) :
    Iter Tryd.prog 27 #[.pointer (some ⟨Bs, 0, none⟩)] l (lst x 32).length J Jx W := by
  refine callsIn_of_wp Tryd.func27 rfl trivial ?_ rfl
  simp only [Tryd.ntmps27, List.size_toArray, List.length_cons, List.length_nil, Nat.reduceAdd, Nat.reduceSub, Array.replicate_succ, Array.replicate_zero, List.push_toArray, List.append_toArray, List.nil_append, List.cons_append]
  have hs0 := hsav 0 W h0
  have HF := fun (y : BitVec 32) k W' (hJ : J k W') => Lib.hid (first_any y W' (hT0 k W' hJ))
  clear hsav hT0
  gi_wp2_with (refine ⟨trivial, rfl, ?_⟩; gi_at_call 7; refine (callsIn_wide.2 (HF x 0 W h0).out).mono ?_; rintro e w' ⟨rfl, rfl⟩)
  clear hs0
  gi_loopg [3, 4, 5] (lst x 32).length (fun g v n ok wr => ∃ (k : Nat) (y : BitVec 32), k + g = (lst x 32).length ∧ v = .int .u32 (w32 y) ∧ n = .int .i64 ((lst y 32).headD 0 : Nat) ∧ ok = .bool (decide (0 < (lst y 32).length)) ∧ Aside (lst y 32 = (lst x 32).drop k) ∧ Aside (J k wr))
  case atStart => exact ⟨0, x, by omega, rfl, by rw [List.headD_eq_head?_getD], rfl, rfl, h0⟩
  case round =>
    obtain ⟨k, y, hkg, rfl, rfl, rfl, HS, HJk⟩ := hrel
    cases gk with
    | zero =>
      have hy : lst y 32 = [] := by rw [HS.out, List.drop_of_length_le (by omega)]
      have hd : decide (0 < (lst y 32).length) = false := by rw [hy]; rfl
      rw [hd]
      obtain rfl : k = (lst x 32).length := by omega
      clear hy hd
      gi_wp2
      go_end0
      exact ⟨⟨_, rfl⟩, .inl HJk.out⟩
    | succ g1 =>
      have hlt : k < (lst x 32).length := by omega
      obtain ⟨h, t, hy⟩ : ∃ h t, lst y 32 = h :: t := by
        cases hl : lst y 32 with
        | nil => rw [hl] at HS; have := congrArg List.length HS.out; simp at this; omega
        | cons h t => exact ⟨h, t, rfl⟩
      have hd : decide (0 < (lst y 32).length) = true := by rw [hy]; rfl
      have hh : (lst y 32).headD 0 = h := by rw [hy]; rfl
      have hcons : h :: t = (lst x 32).drop k := by rw [← hy]; exact HS.out
      have hat : nth (ints (lst x 32)) k = (h : Int) := by
        have h1 : (lst x 32)[k]? = some h := by
          have := congrArg (·[0]?) hcons
          simpa using this.symm
        unfold nth ints
        simp [h1]
      have htl : t = (lst x 32).drop (k + 1) := by
        have := congrArg List.tail hcons
        simpa using this
      have hre := lst_rest y h t hy
      rw [hd, hh]
      obtain ⟨z, hz⟩ : ∃ z, y &&& ~~~onl (h : Int) = z := ⟨_, rfl⟩
      rw [hz] at hre
      have HW := fun W' => Lib.hid (without_any y h W')
      rw [hz] at HW
      have HTL := Lib.hid (hre.trans htl)
      obtain ⟨fn, tmps, assign, body, hyd, hRo⟩ := hR k wr HJk.out hlt (Nat.zero_le _)
      dsimp only at hyd
      rw [hat] at hyd
      clear hre htl hat hcons hh hd hz
      gi_wp2
      refine ⟨rfl, hRo.mono ?_⟩
      rintro e W3 (⟨rfl, hJ3, hc3⟩ | ⟨rfl, hJx3, -⟩)
      · have HJ3 := Lib.hid hJ3
        have HF3 := HF z _ W3 hJ3
        clear hJ3 hyd
        gi_wp2_with (first
          | (refine ⟨trivial, rfl, ?_⟩; gi_at_call 14; refine (callsIn_wide.2 (HW _).out).mono ?_; rintro e w' ⟨rfl, rfl⟩)
          | (refine ⟨trivial, rfl, ?_⟩; gi_at_call 7; refine (callsIn_wide.2 HF3.out).mono ?_; rintro e w' ⟨rfl, rfl⟩))
        go_roundg g1
        case measure => omega
        case rel => exact ⟨k + 1, z, by omega, rfl, by rw [List.headD_eq_head?_getD], rfl, HTL.out, HJ3.out⟩
      · gi_wp2
        refine bodyPost_ret (results_none rfl _ _ _) rfl ?_
        exact ⟨⟨_, rfl⟩, .inr ⟨k + 1, by omega, hJx3⟩⟩

theorem one_more (z : BitVec 32) : (w32 z + 1) % (4294967296 : Int) = w32 (z + 1#32) := add32 z 1#32

theorem parts_in (l Bs : Nat) (x : BitVec 32) (T : Nat → Prop) (J Jx : Nat → World → Prop) (W : World)
    (hsav : ∀ k W', J k W' → W'.cell? ⟨Bs, 0, none⟩ = some (.int .u32 (w32 x)))
    (hsax : ∀ k W', Jx k W' → W'.cell? ⟨Bs, 0, none⟩ = some (.int .u32 (w32 x)))
    (hR : Rounds Tryd.prog l (2 ^ (lst x 32).length) (fun k => #[.int .u32 (w32 (prt x k))]) T 0 J Jx) (h0 : J 0 W) :
    Iter Tryd.prog 28 #[.pointer (some ⟨Bs, 0, none⟩)] l (2 ^ (lst x 32).length) J Jx W := by
  refine callsIn_of_wp Tryd.func28 rfl trivial ?_ rfl
  simp only [Tryd.ntmps28, List.size_toArray, List.length_cons, List.length_nil, Nat.reduceAdd, Nat.reduceSub, Array.replicate_succ, Array.replicate_zero, List.push_toArray, List.append_toArray, List.nil_append, List.cons_append]
  obtain ⟨N, hN⟩ : ∃ N, 2 ^ (lst x 32).length = N := ⟨_, rfl⟩
  have hpos : 0 < N := by rw [← hN]; exact Nat.two_pow_pos _
  have hlast : ∀ j, j < N → ((prt x j = x) ↔ j + 1 = N) := fun j hj => by rw [← hN, ← cnt_len]; exact prt_last x j (by rw [cnt_len, hN]; exact hj)
  rw [hN] at hR ⊢
  have HL := Lib.hid hlast
  have HS := Lib.hid hsav
  have HX := Lib.hid hsax
  clear hlast hN hsav hsax
  gi_wp2
  gi_loopg [3] N (fun g v wr => ∃ (k : Nat), k + (g + 1) = N + 1 ∧ k < N ∧ v = .int .u32 (w32 (prt x k)) ∧ Aside (J k wr))
  case atStart => exact ⟨0, by omega, hpos, rfl, h0⟩
  case round =>
    obtain ⟨k, hkg, hlt, rfl, HJk⟩ := hrel
    have hs := HS.out k wr HJk.out
    obtain ⟨fn, tmps, assign, body, hyd, hRo⟩ := hR k wr HJk.out hlt (Nat.zero_le _)
    dsimp only at hyd
    by_cases hend : k + 1 = N
    · have hx : prt x k = x := (HL.out k hlt).2 hend
      have hne : (w32 (prt x k) != w32 x) = false := by rw [hx]; simp
      have hb : ∀ W3, J (k + 1) W3 → W3.cell? ⟨Bs, 0, none⟩ = some (.int .u32 (w32 x)) := fun W3 h => HS.out _ _ h
      have hbx : ∀ W3, Jx (k + 1) W3 → W3.cell? ⟨Bs, 0, none⟩ = some (.int .u32 (w32 x)) := fun W3 h => HX.out _ _ h
      have HB := Lib.hid hb
      have HBX := Lib.hid hbx
      clear hx hb hbx
      gi_wp2
      refine ⟨rfl, hRo.mono ?_⟩
      rintro e W3 (⟨rfl, hJ3, hc3⟩ | ⟨rfl, hJx3, -⟩)
      · have hs3 := HB.out W3 hJ3
        have HJ3 := Lib.hid hJ3
        clear hs hyd hJ3
        gi_wp2
        go_end0
        exact ⟨⟨_, rfl⟩, .inl (by rw [← hend]; exact HJ3.out)⟩
      · have hs3 := HBX.out W3 hJx3
        have HJ3 := Lib.hid hJx3
        clear hs hyd hJx3
        gi_wp2
        go_end0
        exact ⟨⟨_, rfl⟩, .inr ⟨k + 1, by omega, HJ3.out⟩⟩
    · have hx : prt x k ≠ x := fun h => hend ((HL.out k hlt).1 h)
      have hne : (w32 (prt x k) != w32 x) = true := by rw [bne_iff_ne]; exact fun h => hx (w32_inj.1 h)
      have hb : ∀ W3, J (k + 1) W3 → W3.cell? ⟨Bs, 0, none⟩ = some (.int .u32 (w32 x)) := fun W3 h => HS.out _ _ h
      have hbx : ∀ W3, Jx (k + 1) W3 → W3.cell? ⟨Bs, 0, none⟩ = some (.int .u32 (w32 x)) := fun W3 h => HX.out _ _ h
      have HB := Lib.hid hb
      have HBX := Lib.hid hbx
      have e1 := not32 x
      have e2 := or32 (prt x k) (~~~x)
      have e3 := one_more (prt x k ||| ~~~x)
      have e4 := and32 ((prt x k ||| ~~~x) + 1#32) x
      have e5 : ((prt x k ||| ~~~x) + 1#32) &&& x = prt x (k + 1) := rfl
      rw [e5] at e4
      clear hx hb hbx e5
      gi_wp2
      refine ⟨rfl, hRo.mono ?_⟩
      rintro e W3 (⟨rfl, hJ3, hc3⟩ | ⟨rfl, hJx3, -⟩)
      · have hs3 := HB.out W3 hJ3
        have HJ3 := Lib.hid hJ3
        clear hs hyd hJ3
        gi_wp2
        go_roundg (gk - 1)
        case measure => omega
        case rel => exact ⟨k + 1, by omega, by omega, rfl, HJ3.out⟩
      · have hs3 := HBX.out W3 hJx3
        have HJ3 := Lib.hid hJx3
        clear hs hyd hJx3
        gi_wp2
        go_end0
        exact ⟨⟨_, rfl⟩, .inr ⟨k + 1, by omega, HJ3.out⟩⟩

end Go.Proofs.YtkfaccbabagooaaDoor
