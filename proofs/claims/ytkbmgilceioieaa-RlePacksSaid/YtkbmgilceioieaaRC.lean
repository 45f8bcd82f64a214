/- The contracts of slices.Chunk and its closure. -/
import Derived.Test.YtkbmgilceioieaaRI
namespace Go.Proofs.Ytkbmgilceioieaa
open Go.RowKit
attribute [local go_sem] Oper.semAt_some

theorem Chunk_any (sp : Option Addr) (n cap : Nat) (w : World) : Calls Try.prog 81 #[.slice sp n cap, .int .i64 4096] w fun e w' => e = .returned (.func (.func 88) #[] #[.pointer (some ⟨w.heap.size, 0, none⟩), .pointer (some ⟨w.heap.size + 1, 0, none⟩)]) ∧ w' = (w.alloc (.cells #[.slice sp n cap] 25)).alloc (.cells #[.int .i64 4096] 3) := by
  have hmf : ∀ (fn : Fn) (first cap : Array Value) (w : World), (Instr.makeFunc fn first cap).run Try.prog w = .ok (.func fn first cap) w := fun _ _ _ _ => rfl
  go_enter Try.func81, Try.ntmps81
  go_wp2
  go_ret
  exact ⟨rfl, rfl⟩

theorem Foot.drew {F : World → Nat → Prop} {I : World → Prop} (f : Foot F I) {W : World} (h : I W) : I W.drew ∧ ∀ j, F W.drew j → F W j := f.keep W _ h (Off.nothing (Ch.refl _ _).drew)
/-- How long the k-th chunk is; how many there are. -/
def chL (n k : Nat) : Nat := min 4096 (n - 4096 * k)
def chN (n : Nat) : Nat := (n + 4095) / 4096

set_option maxRecDepth 100000 in
theorem chunk_in (l0 B1 B2 n b off cap : Nat) (sp : Option Addr) (F : World → Nat → Prop) (J Jx : Nat → World → Prop) (W : World)
    (hs1 : W.cell? ⟨B1, 0, none⟩ = some (.slice sp n cap)) (hs2 : W.cell? ⟨B2, 0, none⟩ = some (.int .i64 4096)) (hsp : 0 < n → sp = some ⟨b, off, none⟩) (hcap : n ≤ cap) (hlen : n ≤ 100000)
    (hnF : ∀ k W', J k W' → ¬ F W' B1 ∧ ¬ F W' B2)
    (hR : RoundsF Try.prog l0 (chN n) (fun k => #[.slice (some ⟨b, off + 4096 * k, none⟩) (chL n k) (chL n k)]) F J Jx)
    (fJ : ∀ k, Foot F (J k)) (h0 : J 0 W) :
    Iter Try.prog 88 #[.pointer (some ⟨B1, 0, none⟩), .pointer (some ⟨B2, 0, none⟩)] l0 (chN n) J Jx W := by
  refine callsIn_of_wp Try.func88 rfl trivial ?_ rfl
  simp only [Try.ntmps88, List.size_toArray, List.length_cons, List.length_nil, Nat.reduceAdd, Nat.reduceSub, Array.replicate_succ, Array.replicate_zero, List.push_toArray, List.append_toArray, List.nil_append, List.cons_append]
  have HJ := Lib.hid (And.intro hnF (And.intro h0 (And.intro hR fJ)))
  have HS := Lib.hid (And.intro hs1 hs2)
  have HSP := Lib.hid hsp
  clear hnF h0 hR fJ hs1 hs2 hsp
  gi_wp2
  gi_loopg [4] (chN n) (fun m v wr => ∃ k : Nat, k + m = chN n ∧ v = .int .i64 ((4096 * k : Nat) : Int) ∧ Aside (J k wr ∧ wr.cell? ⟨B1, 0, none⟩ = some (.slice sp n cap) ∧ wr.cell? ⟨B2, 0, none⟩ = some (.int .i64 4096)))
  case atStart => exact ⟨0, by omega, rfl, HJ.out.2.1, HS.out.1, HS.out.2⟩
  case round =>
    obtain ⟨k, hkm, rfl, HA⟩ := hrel
    obtain ⟨-, c1, c2⟩ := HA.out
    obtain ⟨i, hi⟩ : ∃ i, 4096 * k = i := ⟨_, rfl⟩
    rw [hi]
    have HI := Lib.hid hi
    cases gk with
    | zero =>
      have h1 : ¬ (i : Int) < (n : Int) := by unfold chN at hkm; omega
      obtain rfl : k = chN n := by omega
      clear hi hkm
      gi_wp2
      go_end0
      exact ⟨⟨_, rfl⟩, .inl HA.out.1⟩
    | succ m1 =>
      have hin : i < n := by unfold chN at hkm; omega
      obtain rfl := HSP.out (by omega)
      have h1 : (i : Int) < (n : Int) := by omega
      have h2 : (0 : Int) ≤ (i : Int) := by omega
      have h3 : (i : Int) ≤ (n : Int) := by omega
      have h4 : (n : Int) ≤ (cap : Int) := by omega
      have h5 : ¬ cap = i := by omega
      have hm : (if ((n - i : Nat) : Int) < 4096 then ((n - i : Nat) : Int) else 4096) = ((chL n k : Nat) : Int) := by
        unfold chL; rw [hi]; split <;> omega
      obtain ⟨mm, hmm⟩ : ∃ mm, chL n k = mm := ⟨_, rfl⟩
      have hm1 : i + mm ≤ n ∧ 0 < mm ∧ mm ≤ 4096 := by rw [← hmm]; unfold chL; rw [hi]; omega
      obtain ⟨hm1, hm2, hm3⟩ := hm1
      rw [hmm] at hm
      have HM := Lib.hid hmm
      clear hmm
      have hlt : k < chN n := by omega
      have hJ1 := Foot.drew (HJ.out.2.2.2 k) HA.out.1
      have hN1 := HJ.out.1 k _ hJ1.1
      have HN1 := Lib.hid hN1
      obtain ⟨fn, tmps, assign, body, hyd, hRo⟩ := HJ.out.2.2.1 k _ hJ1.1 hlt
      dsimp only at hyd
      rw [HI.out, HM.out] at hyd
      have HC := Lib.hid (And.intro c1 c2)
      have h6 : (0 : Int) ≤ (mm : Int) := by omega
      have h7 : (i : Int) + (mm : Int) ≤ (cap : Int) := by omega
      clear hi hin hJ1 hN1
      gi_wp2
      gi_region
      clear hm
      gi_wp2
      refine ⟨rfl, hRo.mono ?_⟩
      rintro e W3 (⟨rfl, hJ3, hs3⟩ | ⟨rfl, hJx3, -⟩)
      · have d1 := hs3.1.cell (p := ⟨B1, 0, none⟩) HC.out.1 HN1.out.1
        have d2 := hs3.1.cell (p := ⟨B2, 0, none⟩) HC.out.2 HN1.out.2
        have H3 := Lib.hid (And.intro hJ3 (And.intro d1 d2))
        clear hJ3 hs3 hyd hRo c1 c2
        gi_wp2
        go_roundg m1
        case measure => omega
        case rel => exact ⟨k + 1, by omega, by rw [show 4096 * (k + 1) = i + 4096 by have := HI.out; omega]; go_num, H3.out.1, H3.out.2.1, H3.out.2.2⟩
      · have H3 := Lib.hid hJx3
        clear hJx3 hyd hRo
        gi_wp2
        refine bodyPost_ret (results_none rfl _ _ _) rfl ?_
        exact ⟨⟨_, rfl⟩, .inr ⟨k + 1, by omega, H3.out⟩⟩
end Go.Proofs.Ytkbmgilceioieaa
