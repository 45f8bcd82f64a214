/- The contracts of what is ranged over in rle: runs. -/
import Derived.Test.YtkbmgilceioieaaRW
import Derived.RecoverIn
import Derived.TacticsInMore
import Derived.RegionIn
import Derived.LoopNIn
import Derived.LoopIn
import Derived.Shelf.Abstract
import Derived.Shelf.RegionOpen
import Derived.Sort.LoopGhostIn
namespace Go.Proofs.Ytkbmgilceioieaa
open Go.RowKit
attribute [local go_sem] Oper.semAt_some

theorem Runs_any (_v : Value) (sp : Option Addr) (n cap : Nat) (w : World) : Calls Try.prog 64 #[.slice sp n cap] w fun e w' => e = .returned (.func (.func 79) #[] #[.pointer (some ⟨w.heap.size, 0, none⟩)]) ∧ w' = w.alloc (.cells #[.slice sp n cap] 25) := by
  have hmf : ∀ (fn : Fn) (first cap : Array Value) (w : World), (Instr.makeFunc fn first cap).run Try.prog w = .ok (.func fn first cap) w := fun _ _ _ _ => rfl
  go_enter Try.func64, Try.ntmps64
  go_wp2
  go_ret
  exact ⟨rfl, rfl⟩

theorem Foot.drewN {F : World → Nat → Prop} {I : World → Prop} (f : Foot F I) {W : World} (h : I W) (n : Nat) : I (W.drewN n) ∧ ∀ j, F (W.drewN n) j → F W j := f.keep W _ h (Off.nothing ((Ch.refl _ _).drewN n))

set_option maxRecDepth 100000 in
theorem runs_in (l0 Bs : Nat) (l : List Nat) (sp : Option Addr) (b off cap : Nat) (F : World → Nat → Prop) (J Jx : Nat → World → Prop) (W : World)
    (hs0 : W.cell? ⟨Bs, 0, none⟩ = some (.slice sp l.length cap)) (hcap : l.length ≤ cap) (hlen : l.length ≤ 100000)
    (hL : ∀ k W', J k W' → SL W' sp b off l)
    (hR : RoundsF Try.prog l0 (runL l).length (fun k => #[.slice (some ⟨b, off + posR l k, none⟩) (often (l.drop (posR l k))) (often (l.drop (posR l k)))]) F J Jx)
    (fJ : ∀ k, Foot F (J k)) (h0 : J 0 W) :
    Iter Try.prog 79 #[.pointer (some ⟨Bs, 0, none⟩)] l0 (runL l).length J Jx W := by
  refine callsIn_of_wp Try.func79 rfl trivial ?_ rfl
  simp only [Try.ntmps79, List.size_toArray, List.length_cons, List.length_nil, Nat.reduceAdd, Nat.reduceSub, Array.replicate_succ, Array.replicate_zero, List.push_toArray, List.append_toArray, List.nil_append, List.cons_append]
  have HJ := Lib.hid (And.intro fJ (And.intro h0 (And.intro hR hL)))
  clear fJ h0 hR hL
  gi_wp2
  clear hs0
  gi_loopg [3, 4] (runL l).length (fun m v u wr => ∃ (k : Nat) (ad : Option Addr) (R cp : Nat), k + m = (runL l).length ∧ v = .slice ad R cp ∧ Aside (J k wr ∧ R = (l.drop (posR l k)).length ∧ (posR l k < l.length → ad = some ⟨b, off + posR l k, none⟩) ∧ R ≤ cp))
  case atStart => exact ⟨0, sp, l.length, cap, by omega, rfl, HJ.out.2.1, by simp [posR], fun h => by have := (HJ.out.2.2.2 0 W HJ.out.2.1).1 (by omega); simpa [posR] using this, hcap⟩
  case round =>
    obtain ⟨k, ad, R, cp, hkm, rfl, HA⟩ := hrel
    cases gk with
    | zero =>
      obtain rfl : k = (runL l).length := by omega
      obtain rfl : R = 0 := by rw [HA.out.2.1, posR_end]; simp
      gi_wp2
      go_end0
      exact ⟨⟨_, rfl⟩, .inl HA.out.1⟩
    | succ m1 =>
      have hlt : k < (runL l).length := by omega
      obtain ⟨-, hp1, hpl⟩ := run_at l k hlt
      obtain rfl := HA.out.2.2.1 hpl
      have hcp := HA.out.2.2.2
      have hR1 := HA.out.2.1
      obtain ⟨nn, hnn⟩ : ∃ nn, often (l.drop (posR l k)) = nn := ⟨_, rfl⟩
      have hne : l.drop (posR l k) ≠ [] := by intro e; have := congrArg List.length e; simp at this; omega
      have hno := often_pos hne
      have hle := often_le (l.drop (posR l k))
      rw [← hR1, hnn] at hle
      rw [hnn] at hno hp1
      have hsl := (HJ.out.2.2.2 k wr HA.out.1).drop (posR l k)
      have HC := Lib.hid (often_any (l.drop (posR l k)) (some ⟨b, off + posR l k, none⟩) b (off + posR l k) cp wr hsl hne (by rw [List.length_drop]; omega))
      rw [← hR1, hnn] at HC
      have hRp : 0 < R := by omega
      have h1 : (0 : Int) < (R : Int) := by omega
      have h2 : (nn : Int) ≤ (R : Int) := by omega
      have h3 : (nn : Int) ≤ (cp : Int) := by omega
      have h4 : (0 : Int) ≤ (nn : Int) := by omega
      have HP := Lib.hid (And.intro hp1 (And.intro hnn (And.intro hR1 (And.intro hle.2 hpl))))
      clear hp1 hnn hR1 hsl hne hle hpl
      gi_wp2_with (refine ⟨trivial, rfl, ?_⟩; gi_at_call 80; refine (callsIn_wide.2 HC.out).mono ?_; rintro e w1 ⟨rfl, n1, rfl⟩)
      have hJ1 := Foot.drewN (HJ.out.1 k) HA.out.1 n1
      obtain ⟨fn, tmps, assign, body, hyd, hRo⟩ := HJ.out.2.2.1 k _ hJ1.1 hlt
      dsimp only at hyd
      rw [HP.out.2.1] at hyd
      clear hJ1
      gi_wp2
      rw [hyd, Oper.uponIn_round]
      refine ⟨fun h => by simp [Fence.wide] at h, hRo.mono ?_⟩
      rintro e W3 (⟨rfl, hJ3, hs3⟩ | ⟨rfl, hJx3, -⟩)
      · have H3 := Lib.hid hJ3
        clear hJ3 hs3 hyd hRo
        by_cases hc : cp = nn
        · have hRn : R = nn := by omega
          subst hc hRn
          gi_wp2
          go_roundg m1
          case measure => omega
          case rel =>
            have hl0 : (l.drop (posR l (k + 1))).length = 0 := by
              have h := HP.out.2.2.1
              rw [List.length_drop] at h
              rw [List.length_drop, HP.out.1]; omega
            exact ⟨k + 1, _, _, _, by omega, rfl, H3.out, hl0.symm, fun h => by rw [List.length_drop] at hl0; omega, Nat.zero_le _⟩
        · gi_wp2
          go_roundg m1
          case measure => omega
          case rel =>
            exact ⟨k + 1, _, _, _, by omega, rfl, H3.out, by have h := HP.out.2.2.1; rw [List.length_drop] at h; rw [List.length_drop, HP.out.1]; omega, fun h => by rw [HP.out.1, Nat.add_assoc], by omega⟩
      · have H3 := Lib.hid hJx3
        clear hJx3 hyd hRo
        gi_wp2
        refine bodyPost_ret (results_none rfl _ _ _) rfl ?_
        exact ⟨⟨_, rfl⟩, .inr ⟨k + 1, by omega, H3.out⟩⟩
end Go.Proofs.Ytkbmgilceioieaa
