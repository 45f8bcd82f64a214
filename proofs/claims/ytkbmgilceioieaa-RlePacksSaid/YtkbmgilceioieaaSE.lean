/- The walk of RlePacks. -/
import Derived.Test.YtkbmgilceioieaaSD
namespace Go.Proofs.Ytkbmgilceioieaa
open Go.RowKit
attribute [local go_sem] Oper.semAt_some

set_option maxHeartbeats 2000000 in
set_option maxRecDepth 100000 in
theorem law_packs (sp : Option Addr) (b off cap : Nat) (l : List Nat) (many : Int) (w : World) (hl : SL w sp b off l) (hcap : l.length ≤ cap) (hmax : cap ≤ maxLen) (hb : ∀ x ∈ l, x < 4294967296) :
    Calls Try.prog 8 #[.slice sp l.length cap, .int .i64 many] w fun e w' => e = .returned (.bool true) ∧ Below w.heap.size w w' := by
  by_cases e1 : (10000 : Int) < (l.length : Int)
  · go_enter Try.func8, Try.ntmps8
    go_wp2
    go_ret
    exact ⟨rfl, Below.refl _ _⟩
  by_cases e2 : many < 0
  · go_enter Try.func8, Try.ntmps8
    go_wp2
    go_ret
    exact ⟨rfl, Below.refl _ _⟩
  by_cases e3 : 20000 < many
  · go_enter Try.func8, Try.ntmps8
    go_wp2
    go_ret
    exact ⟨rfl, Below.refl _ _⟩
  obtain ⟨m, rfl⟩ : ∃ m : Nat, many = m := ⟨many.toNat, by omega⟩
  have z0 : l.length ≤ 10000 := by omega
  have z1 : m ≤ 20000 := by omega
  obtain ⟨P, hP⟩ : ∃ P, packS l = P := ⟨_, rfl⟩
  have hPl : P.length ≤ 20000 := by have h1 := (small_any l).1; rw [hP] at h1; omega
  obtain ⟨U, hU⟩ : ∃ U, unpackS m l = U := ⟨_, rfl⟩
  have hUl : U.length ≤ 20000 := by have := unpackS_len m l; rw [hU] at this; omega
  obtain ⟨R, hR⟩ : ∃ R, rightB m l = R := ⟨_, rfl⟩
  have hc : ∀ (W' : World), Below w.heap.size w W' → SL W' sp b off l := fun W' h => hl.below h (fun h0 => hl.lt h0)
  have hu1 := unpack_any m l sp b off cap w hl hcap hmax (by omega) hb (by omega)
  rw [hU, hR] at hu1
  have hu2 : ∀ (W' : World), Below w.heap.size w W' → Calls Try.prog 39 #[.int .i64 m, .slice sp l.length cap] W' fun e w' => ∃ v, e = .returned (.tuple #[v, .bool R]) ∧ w'.ownsRow W'.heap.size 27 1 v U.length (rowW U) ∧ Below W'.heap.size W' w' := by
    intro W' h1
    have h4 := runpack_any m l sp b off cap W' (hc W' h1) hcap (by omega) hb (by omega)
    rw [hU, hR] at h4
    exact h4
  have hp1 : ∀ (W' : World), Below w.heap.size w W' → Calls Try.prog 41 #[.slice sp l.length cap] W' fun e w' => ∃ v, e = .returned v ∧ w'.ownsRow W'.heap.size 27 1 v P.length (rowW P) ∧ Below W'.heap.size W' w' := by
    intro W' h1
    have h4 := pack_any l sp b off cap W' (hc W' h1) hcap (by omega) hmax hb
    rw [hP] at h4
    exact h4
  have hp2 : ∀ (W' : World), Below w.heap.size w W' → Calls Try.prog 42 #[.slice sp l.length cap] W' fun e w' => ∃ v, e = .returned v ∧ w'.ownsRow W'.heap.size 27 1 v P.length (rowW P) ∧ Below W'.heap.size W' w' := by
    intro W' h1
    have h4 := rpack_any l sp b off cap W' (hc W' h1) hcap (by omega)
    rw [hP] at h4
    exact h4
  have he : ∀ (Q : List Nat) (W' : World) (spa spb : Option Addr) (ga gb ca cb : Nat), Q.length ≤ 20000 → SL W' spa ga 0 Q → SL W' spb gb 0 Q → Calls Try.prog 40 #[.slice spa Q.length ca, .slice spb Q.length cb] W' fun e w' => e = .returned (.bool true) ∧ ∃ n, w' = W'.drewN n := by
    intro Q W' spa spb ga gb ca cb h0 h1 h2
    have h4 := equal_any Q Q spa spb ga 0 gb 0 ca cb W' h1 h2 (by omega) (by omega)
    rw [decide_eq_true rfl] at h4
    exact h4
  have HU1 := Lib.hid hu1
  have HU2 := Lib.hid hu2
  have HP1 := Lib.hid hp1
  have HP2 := Lib.hid hp2
  have HE1 := Lib.hid (fun W' spa spb ga gb ca cb => he P W' spa spb ga gb ca cb hPl)
  have HE2 := Lib.hid (fun W' spa spb ga gb ca cb => he U W' spa spb ga gb ca cb hUl)
  clear hu1 hu2 hp1 hp2 he hl hb hcap hmax hc hP hPl hU hUl hR z0 z1
  cases R
  all_goals
    go_enter Try.func8, Try.ntmps8
    go_wp2_with (first
      | (go_at_call 38; refine HU1.out.mono ?_; clear HU1; rintro e w1 ⟨v1, rfl, ho1, hb1⟩; obtain ⟨sp1, g1, cap1, rfl, hs1, hc1, hx1, -⟩ := own_SL2 ho1; have HS1 := Lib.hid hs1; have HB1 := Lib.hid hb1; have HA2 := Lib.hid (HU2.out w1 hb1); clear ho1 hb1 hs1 hc1 hx1)
      | (go_at_call 39; refine HA2.out.mono ?_; clear HA2; rintro e w2 ⟨v2, rfl, ho2, hb2⟩; obtain ⟨sp2, g2, cap2, rfl, hs2, hc2, hx2, -⟩ := own_SL2 ho2; have HB2 := Lib.hid (HB1.out.trans (hb2.mono HB1.out.size)); have HS2 := Lib.hid (And.intro (HS1.out.below hb2 (fun h0 => HS1.out.lt h0)) hs2); have HA3 := Lib.hid (HP1.out w2 HB2.out); clear ho2 hb2 hs2 hc2 hx2)
      | (go_at_call 41; refine HA3.out.mono ?_; clear HA3; rintro e w3 ⟨v3, rfl, ho3, hb3⟩; obtain ⟨sp3, g3, cap3, rfl, hs3, hc3, hx3, -⟩ := own_SL2 ho3; have HB3 := Lib.hid (HB2.out.trans (hb3.mono HB2.out.size)); have HS3 := Lib.hid (And.intro (HS2.out.1.below hb3 (fun h0 => HS2.out.1.lt h0)) (And.intro (HS2.out.2.below hb3 (fun h0 => HS2.out.2.lt h0)) hs3)); have HA4 := Lib.hid (HP2.out w3 HB3.out); clear ho3 hb3 hs3 hc3 hx3)
      | (go_at_call 42; refine HA4.out.mono ?_; clear HA4; rintro e w4 ⟨v4, rfl, ho4, hb4⟩; obtain ⟨sp4, g4, cap4, rfl, hs4, hc4, hx4, -⟩ := own_SL2 ho4; have HB4 := Lib.hid (HB3.out.trans (hb4.mono HB3.out.size)); have HS4 := Lib.hid (And.intro (HS3.out.1.below hb4 (fun h0 => HS3.out.1.lt h0)) (HS3.out.2.1.below hb4 (fun h0 => HS3.out.2.1.lt h0))); have HA5 := Lib.hid (HE1.out w4 sp3 sp4 g3 g4 cap3 cap4 (HS3.out.2.2.below hb4 (fun h0 => HS3.out.2.2.lt h0)) hs4); clear ho4 hb4 hs4 hc4 hx4)
      | (go_at_call 40; refine HA5.out.mono ?_; clear HA5; rintro e w5 ⟨rfl, n5, rfl⟩; have HB5 := Lib.hid (below_drewN HB4.out n5); have HA6 := Lib.hid (HE2.out (w4.drewN n5) sp1 sp2 g1 g2 cap1 cap2 (HS4.out.1.drewN n5) (HS4.out.2.drewN n5)))
      | (go_at_call 40; refine HA6.out.mono ?_; clear HA6; rintro e w6 ⟨rfl, n6, rfl⟩; have HB6 := Lib.hid (below_drewN HB4.out (n5 + n6)))
      | (go_at_call 43; refine (alive_any _).mono ?_; rintro e w8 ⟨rfl, hb8⟩; have HB8 := Lib.hid (HB6.out.trans (hb8.mono HB6.out.size)); clear hb8)
      | fail)
    go_ret
    exact ⟨rfl, HB8.out⟩
end Go.Proofs.Ytkbmgilceioieaa
