/- The walk of RleBack. -/
import Derived.Test.YtkbmgilceioieaaRX
import Derived.Test.YtkbmgilceioieaaRA
namespace Go.Proofs.Ytkbmgilceioieaa
open Go.RowKit
attribute [local go_sem] Oper.semAt_some

theorem pack_told (l : List Nat) : toldG (parse (packS l)).1 = l := by rw [pack_parse]; exact groups_told l
theorem rightB_pack (most : Nat) (l : List Nat) : rightB most (packS l) = decide (l.length ≤ most) := by
  unfold rightB
  rw [pack_told]
  simp
theorem unpack_pack (most : Nat) (l : List Nat) (h : l.length ≤ most) : unpackS most (packS l) = l := by
  unfold unpackS
  rw [rightB_pack, pack_told]; simp [h]
theorem pack_unpack (most : Nat) (l : List Nat) (h : rightB most l = true) : packS (unpackS most l) = l := by
  unfold unpackS
  rw [if_pos h]
  exact (rightB_true.1 h).1
theorem unpackS_len (most : Nat) (l : List Nat) : (unpackS most l).length ≤ most := by
  unfold unpackS
  split
  · rename_i h; exact (rightB_true.1 h).2
  · simp
theorem unpackS_lt (most : Nat) (l : List Nat) (h : ∀ x ∈ l, x < 4294967296) : ∀ x ∈ unpackS most l, x < 4294967296 := by
  unfold unpackS
  split
  · refine told_lt _ fun x hx => h x ?_
    rw [← (parse_enc l).1]
    exact List.mem_append_left _ hx
  · intro x hx; cases hx
theorem good_cond {gs : List Grp} (h : Good gs) : ∀ g ∈ gs, ∃ u, Cond g u := by
  induction gs with
  | nil => simp
  | cons g r ih =>
    intro x hx
    rcases List.mem_cons.1 hx with rfl | hx
    · exact ⟨_, (first_iff _ _).1 h.1⟩
    · exact ih h.2 x hx
theorem packS_lt (l : List Nat) (h : ∀ x ∈ l, x < 4294967296) : ∀ x ∈ packS l, x < 4294967296 := by
  intro x hx
  unfold packS encG at hx
  obtain ⟨g, hg, hx⟩ := List.mem_flatMap.1 hx
  have hw := good_wf (good_groups l) g hg
  obtain ⟨u, hu⟩ := good_cond (good_groups l) g hg
  have hm : ∀ y ∈ g.told, y ∈ l := fun y hy => by
    have h1 : y ∈ toldG (groups l) := List.mem_flatMap.2 ⟨g, hg, hy⟩
    rwa [groups_told] at h1
  cases g with
  | rep n y =>
    have hw' : n ≤ 4096 := hw
    have hn : 3 ≤ n := hu.1
    rcases List.mem_cons.1 hx with rfl | hx
    · omega
    · simp at hx
      subst hx
      refine h _ (hm _ ?_)
      show x ∈ List.replicate n x
      rw [List.mem_replicate]
      exact ⟨by omega, rfl⟩
  | oth ws =>
    have hw' : ws.length ≤ 4096 := hw
    rcases List.mem_cons.1 hx with rfl | hx
    · omega
    · exact h _ (hm _ hx)

theorem below_drewN {b : Nat} {A B : World} (h : Below b A B) (n : Nat) : Below b A (B.drewN n) := ⟨h.os, h.tape, h.output, h.size, h.block⟩

set_option maxHeartbeats 2000000 in
set_option maxRecDepth 100000 in
theorem law_back (sp : Option Addr) (b off cap : Nat) (l : List Nat) (spg : Option Addr) (bg og cg : Nat) (gs : List Nat) (w : World) (hl : SL w sp b off l) (hcap : l.length ≤ cap) (hmax : cap ≤ maxLen) (hb : ∀ x ∈ l, x < 4294967296)
    (hg : SL w spg bg og gs) (hcg : gs.length ≤ cg) (hmg : cg ≤ maxLen) (hbg : ∀ x ∈ gs, x < 4294967296) :
    Calls Try.prog 9 #[.slice sp l.length cap, .slice spg gs.length cg] w fun e w' => e = .returned (.bool true) ∧ Below w.heap.size w w' := by
  by_cases e1 : (10000 : Int) < (l.length : Int)
  · go_enter Try.func9, Try.ntmps9
    go_wp2
    go_ret
    exact ⟨rfl, Below.refl _ _⟩
  by_cases e2 : (10000 : Int) < (gs.length : Int)
  · go_enter Try.func9, Try.ntmps9
    go_wp2
    go_ret
    exact ⟨rfl, Below.refl _ _⟩
  have z0 : l.length ≤ 10000 := by omega
  have z1 : gs.length ≤ 10000 := by omega
  obtain ⟨P, hP⟩ : ∃ P, packS l = P := ⟨_, rfl⟩
  have hPl : P.length ≤ 20000 := by have h1 := (small_any l).1; rw [hP] at h1; omega
  have hPb : ∀ x ∈ P, x < 4294967296 := by rw [← hP]; exact packS_lt l hb
  have ha1 := pack_any l sp b off cap w hl hcap (by omega) hmax hb
  rw [hP] at ha1
  have hu1 : ∀ (W' : World) (sp1 : Option Addr) (g1 cap1 : Nat), SL W' sp1 g1 0 P → P.length ≤ cap1 → cap1 ≤ maxLen → Calls Try.prog 38 #[.int .i64 l.length, .slice sp1 P.length cap1] W' fun e w' => ∃ v, e = .returned (.tuple #[v, .bool true]) ∧ w'.ownsRow W'.heap.size 27 1 v l.length (rowW l) ∧ Below W'.heap.size W' w' := by
    intro W' sp1 g1 cap1 h1 h2 h3
    have h4 := unpack_any l.length P sp1 g1 0 cap1 W' h1 h2 h3 (by omega) hPb (by omega)
    rw [← hP, rightB_pack, unpack_pack _ _ (Nat.le_refl _), hP, decide_eq_true (Nat.le_refl _)] at h4
    exact h4
  obtain ⟨m1, hm1⟩ : ∃ m1, l.length - 1 = m1 := ⟨_, rfl⟩
  have hu2 : ∀ (W' : World) (sp1 : Option Addr) (g1 cap1 : Nat), SL W' sp1 g1 0 P → P.length ≤ cap1 → cap1 ≤ maxLen → Calls Try.prog 38 #[.int .i64 m1, .slice sp1 P.length cap1] W' fun e w' => ∃ v, e = .returned (.tuple #[v, .bool (decide (l.length ≤ m1))]) ∧ w'.ownsRow W'.heap.size 27 1 v (unpackS m1 P).length (rowW (unpackS m1 P)) ∧ Below W'.heap.size W' w' := by
    intro W' sp1 g1 cap1 h1 h2 h3
    have h4 := unpack_any m1 P sp1 g1 0 cap1 W' h1 h2 h3 (by omega) hPb (by omega)
    rw [← hP, rightB_pack, hP] at h4
    exact h4
  obtain ⟨U, hU⟩ : ∃ U, unpackS 20000 gs = U := ⟨_, rfl⟩
  have hUl : U.length ≤ 20000 := by rw [← hU]; exact unpackS_len _ _
  have hUb : ∀ x ∈ U, x < 4294967296 := by rw [← hU]; exact unpackS_lt _ _ hbg
  obtain ⟨is, his⟩ : ∃ is, rightB 20000 gs = is := ⟨_, rfl⟩
  have hu3 : ∀ (W' : World), Below w.heap.size w W' → Calls Try.prog 38 #[.int .i64 20000, .slice spg gs.length cg] W' fun e w' => ∃ v, e = .returned (.tuple #[v, .bool is]) ∧ w'.ownsRow W'.heap.size 27 1 v U.length (rowW U) ∧ Below W'.heap.size W' w' := by
    intro W' h1
    have h4 := unpack_any 20000 gs spg bg og cg W' (hg.below h1 (fun h0 => hg.lt h0)) hcg hmg (by omega) hbg (by omega)
    rw [hU, his] at h4
    exact h4
  have he1 : ∀ (W' : World) (spa : Option Addr) (ga ca : Nat), SL W' spa ga 0 l → Below w.heap.size w W' → Calls Try.prog 40 #[.slice spa l.length ca, .slice sp l.length cap] W' fun e w' => e = .returned (.bool true) ∧ ∃ n, w' = W'.drewN n := by
    intro W' spa ga ca h1 h2
    have h4 := equal_any l l spa sp ga 0 b off ca cap W' h1 (hl.below h2 (fun h0 => hl.lt h0)) (by omega) (by omega)
    rw [decide_eq_true rfl] at h4
    exact h4
  have he2 : ∀ (W' : World) (spa : Option Addr) (ga ca : Nat), SL W' spa ga 0 gs → Below w.heap.size w W' → Calls Try.prog 40 #[.slice spa gs.length ca, .slice spg gs.length cg] W' fun e w' => e = .returned (.bool true) ∧ ∃ n, w' = W'.drewN n := by
    intro W' spa ga ca h1 h2
    have h4 := equal_any gs gs spa spg ga 0 bg og ca cg W' h1 (hg.below h2 (fun h0 => hg.lt h0)) (by omega) (by omega)
    rw [decide_eq_true rfl] at h4
    exact h4
  have HA1 := Lib.hid ha1
  have HU1 := Lib.hid hu1
  have HU2 := Lib.hid hu2
  have HU3 := Lib.hid hu3
  have HE1 := Lib.hid he1
  have HE2 := Lib.hid he2
  clear ha1 hu1 hu2 hu3 he1 he2 hl hg hb hbg hP hPl hPb hcap hmax hcg hmg
  have IS : is = true → ∀ (W' : World) (sp1 : Option Addr) (g1 cap1 : Nat), SL W' sp1 g1 0 U → U.length ≤ cap1 → cap1 ≤ maxLen → Calls Try.prog 41 #[.slice sp1 U.length cap1] W' fun e w' => ∃ v, e = .returned v ∧ w'.ownsRow W'.heap.size 27 1 v gs.length (rowW gs) ∧ Below W'.heap.size W' w' := by
    intro hi W' sp1 g1 cap1 h1 h2 h3
    have h4 := pack_any U sp1 g1 0 cap1 W' h1 h2 (by omega) h3 hUb
    rw [← hU, pack_unpack _ _ (his.trans hi), hU] at h4
    exact h4
  clear hU hUl hUb his z0 z1
  by_cases hz : l.length = 0
  · have d1 : ¬ (0 : Int) < (l.length : Int) := by omega
    have HZ := Lib.hid hz
    clear hz HU2 hm1
    cases is with
    | true =>
      have HP := Lib.hid (IS rfl)
      clear IS
      go_enter Try.func9, Try.ntmps9
      go_wp2_with (first
        | (go_at_call 41; refine HA1.out.mono ?_; clear HA1; rintro e w1 ⟨v1, rfl, ho1, hb1⟩; obtain ⟨sp1, g1, cap1, rfl, hs1, hc1, hx1, -⟩ := own_SL2 ho1; have HO1 := Lib.hid (And.intro hs1 (And.intro hc1 hx1)); have HB1 := Lib.hid hb1; have HA2 := Lib.hid (HU1.out w1 sp1 g1 cap1 hs1 hc1 hx1); clear ho1 hb1 hs1 hc1 hx1)
        | (go_at_call 38; refine HA2.out.mono ?_; clear HA2; rintro e w2 ⟨v2, rfl, ho2, hb2⟩; obtain ⟨sp2, g2, cap2, rfl, hs2, hc2, hx2, hg2⟩ := own_SL2 ho2; have HB2 := Lib.hid (HB1.out.trans (hb2.mono HB1.out.size)); have HA3 := Lib.hid (HE1.out w2 sp2 g2 cap2 hs2 HB2.out); have HP2 := Lib.hid (HO1.out.1.below hb2 (fun h0 => HO1.out.1.lt h0)); clear ho2 hb2 hs2 hc2 hx2 hg2)
        | (go_at_call 40; refine HA3.out.mono ?_; clear HA3; rintro e w3 ⟨rfl, n3, rfl⟩; have HB3 := Lib.hid (below_drewN HB2.out n3); have HA5 := Lib.hid (HU3.out (w2.drewN n3) HB3.out))
        | (go_at_call 38; refine HA5.out.mono ?_; clear HA5; rintro e w5 ⟨v5, rfl, ho5, hb5⟩; obtain ⟨sp5, g5, cap5, rfl, hs5, hc5, hx5, -⟩ := own_SL2 ho5; have HB5 := Lib.hid (HB3.out.trans (hb5.mono HB3.out.size)); have HA7 := Lib.hid (HP.out w5 sp5 g5 cap5 hs5 hc5 hx5); clear ho5 hb5 hs5 hc5 hx5)
        | (go_at_call 41; refine HA7.out.mono ?_; clear HA7; rintro e w6 ⟨v6, rfl, ho6, hb6⟩; obtain ⟨sp6, g6, cap6, rfl, hs6, hc6, hx6, -⟩ := own_SL2 ho6; have HB6 := Lib.hid (HB5.out.trans (hb6.mono HB5.out.size)); have HA8 := Lib.hid (HE2.out w6 sp6 g6 cap6 hs6 HB6.out); clear ho6 hb6 hs6 hc6 hx6)
        | (go_at_call 40; refine HA8.out.mono ?_; clear HA8; rintro e w7 ⟨rfl, n7, rfl⟩; have HB7 := Lib.hid (below_drewN HB6.out n7))
        | (go_at_call 43; refine (alive_any _).mono ?_; rintro e w8 ⟨rfl, hb8⟩; have HB8 := Lib.hid (HB7.out.trans (hb8.mono HB7.out.size)); clear hb8)
        | fail)
      go_ret
      exact ⟨rfl, HB8.out⟩
    | false =>
      clear IS
      go_enter Try.func9, Try.ntmps9
      go_wp2_with (first
        | (go_at_call 41; refine HA1.out.mono ?_; clear HA1; rintro e w1 ⟨v1, rfl, ho1, hb1⟩; obtain ⟨sp1, g1, cap1, rfl, hs1, hc1, hx1, -⟩ := own_SL2 ho1; have HO1 := Lib.hid (And.intro hs1 (And.intro hc1 hx1)); have HB1 := Lib.hid hb1; have HA2 := Lib.hid (HU1.out w1 sp1 g1 cap1 hs1 hc1 hx1); clear ho1 hb1 hs1 hc1 hx1)
        | (go_at_call 38; refine HA2.out.mono ?_; clear HA2; rintro e w2 ⟨v2, rfl, ho2, hb2⟩; obtain ⟨sp2, g2, cap2, rfl, hs2, hc2, hx2, hg2⟩ := own_SL2 ho2; have HB2 := Lib.hid (HB1.out.trans (hb2.mono HB1.out.size)); have HA3 := Lib.hid (HE1.out w2 sp2 g2 cap2 hs2 HB2.out); have HP2 := Lib.hid (HO1.out.1.below hb2 (fun h0 => HO1.out.1.lt h0)); clear ho2 hb2 hs2 hc2 hx2 hg2)
        | (go_at_call 40; refine HA3.out.mono ?_; clear HA3; rintro e w3 ⟨rfl, n3, rfl⟩; have HB3 := Lib.hid (below_drewN HB2.out n3); have HA5 := Lib.hid (HU3.out (w2.drewN n3) HB3.out))
        | (go_at_call 38; refine HA5.out.mono ?_; clear HA5; rintro e w5 ⟨v5, rfl, ho5, hb5⟩; obtain ⟨sp5, g5, cap5, rfl, hs5, hc5, hx5, -⟩ := own_SL2 ho5; have HB5 := Lib.hid (HB3.out.trans (hb5.mono HB3.out.size)); skip; clear ho5 hb5 hs5 hc5 hx5)
        | (go_at_call 43; refine (alive_any _).mono ?_; rintro e w8 ⟨rfl, hb8⟩; have HB8 := Lib.hid (HB5.out.trans (hb8.mono HB5.out.size)); clear hb8)
        | fail)
      go_ret
      exact ⟨rfl, HB8.out⟩
  · have d1 : (0 : Int) < (l.length : Int) := by omega
    have d2 : (l.length : Int) - 1 = (m1 : Int) := by omega
    have d3 : decide (l.length ≤ m1) = false := by rw [decide_eq_false_iff_not]; omega
    have d4 : IntKind.i64.wrap (m1 : Int) = (m1 : Int) := by rw [IntKind.wrap_i64]; omega
    rw [d3] at HU2
    clear hz hm1 d3
    cases is with
    | true =>
      have HP := Lib.hid (IS rfl)
      clear IS
      go_enter Try.func9, Try.ntmps9
      go_wp2_with (first
        | (go_at_call 41; refine HA1.out.mono ?_; clear HA1; rintro e w1 ⟨v1, rfl, ho1, hb1⟩; obtain ⟨sp1, g1, cap1, rfl, hs1, hc1, hx1, -⟩ := own_SL2 ho1; have HO1 := Lib.hid (And.intro hs1 (And.intro hc1 hx1)); have HB1 := Lib.hid hb1; have HA2 := Lib.hid (HU1.out w1 sp1 g1 cap1 hs1 hc1 hx1); clear ho1 hb1 hs1 hc1 hx1)
        | (go_at_call 38; refine HA2.out.mono ?_; clear HA2; rintro e w2 ⟨v2, rfl, ho2, hb2⟩; obtain ⟨sp2, g2, cap2, rfl, hs2, hc2, hx2, hg2⟩ := own_SL2 ho2; have HB2 := Lib.hid (HB1.out.trans (hb2.mono HB1.out.size)); have HA3 := Lib.hid (HE1.out w2 sp2 g2 cap2 hs2 HB2.out); have HP2 := Lib.hid (HO1.out.1.below hb2 (fun h0 => HO1.out.1.lt h0)); clear ho2 hb2 hs2 hc2 hx2 hg2)
        | (go_at_call 40; refine HA3.out.mono ?_; clear HA3; rintro e w3 ⟨rfl, n3, rfl⟩; have HB3 := Lib.hid (below_drewN HB2.out n3); have HA4 := Lib.hid (HU2.out (w2.drewN n3) sp1 g1 cap1 HP2.out HO1.out.2.1 HO1.out.2.2); have HA5 := Lib.hid (HU3.out (w2.drewN n3) HB3.out))
        | (go_at_call 38; refine HA4.out.mono ?_; clear HA4; rintro e w4 ⟨v4, rfl, ho4, hb4⟩; have HB4 := Lib.hid (HB3.out.trans (hb4.mono HB3.out.size)); clear HA5; have HA6 := Lib.hid (HU3.out w4 HB4.out); clear ho4 hb4)
        | (go_at_call 38; refine HA6.out.mono ?_; clear HA6; rintro e w5 ⟨v5, rfl, ho5, hb5⟩; obtain ⟨sp5, g5, cap5, rfl, hs5, hc5, hx5, -⟩ := own_SL2 ho5; have HB5 := Lib.hid (HB4.out.trans (hb5.mono HB4.out.size)); have HA7 := Lib.hid (HP.out w5 sp5 g5 cap5 hs5 hc5 hx5); clear ho5 hb5 hs5 hc5 hx5)
        | (go_at_call 41; refine HA7.out.mono ?_; clear HA7; rintro e w6 ⟨v6, rfl, ho6, hb6⟩; obtain ⟨sp6, g6, cap6, rfl, hs6, hc6, hx6, -⟩ := own_SL2 ho6; have HB6 := Lib.hid (HB5.out.trans (hb6.mono HB5.out.size)); have HA8 := Lib.hid (HE2.out w6 sp6 g6 cap6 hs6 HB6.out); clear ho6 hb6 hs6 hc6 hx6)
        | (go_at_call 40; refine HA8.out.mono ?_; clear HA8; rintro e w7 ⟨rfl, n7, rfl⟩; have HB7 := Lib.hid (below_drewN HB6.out n7))
        | (go_at_call 43; refine (alive_any _).mono ?_; rintro e w8 ⟨rfl, hb8⟩; have HB8 := Lib.hid (HB7.out.trans (hb8.mono HB7.out.size)); clear hb8)
        | fail)
      go_ret
      exact ⟨rfl, HB8.out⟩
    | false =>
      clear IS
      go_enter Try.func9, Try.ntmps9
      go_wp2_with (first
        | (go_at_call 41; refine HA1.out.mono ?_; clear HA1; rintro e w1 ⟨v1, rfl, ho1, hb1⟩; obtain ⟨sp1, g1, cap1, rfl, hs1, hc1, hx1, -⟩ := own_SL2 ho1; have HO1 := Lib.hid (And.intro hs1 (And.intro hc1 hx1)); have HB1 := Lib.hid hb1; have HA2 := Lib.hid (HU1.out w1 sp1 g1 cap1 hs1 hc1 hx1); clear ho1 hb1 hs1 hc1 hx1)
        | (go_at_call 38; refine HA2.out.mono ?_; clear HA2; rintro e w2 ⟨v2, rfl, ho2, hb2⟩; obtain ⟨sp2, g2, cap2, rfl, hs2, hc2, hx2, hg2⟩ := own_SL2 ho2; have HB2 := Lib.hid (HB1.out.trans (hb2.mono HB1.out.size)); have HA3 := Lib.hid (HE1.out w2 sp2 g2 cap2 hs2 HB2.out); have HP2 := Lib.hid (HO1.out.1.below hb2 (fun h0 => HO1.out.1.lt h0)); clear ho2 hb2 hs2 hc2 hx2 hg2)
        | (go_at_call 40; refine HA3.out.mono ?_; clear HA3; rintro e w3 ⟨rfl, n3, rfl⟩; have HB3 := Lib.hid (below_drewN HB2.out n3); have HA4 := Lib.hid (HU2.out (w2.drewN n3) sp1 g1 cap1 HP2.out HO1.out.2.1 HO1.out.2.2); have HA5 := Lib.hid (HU3.out (w2.drewN n3) HB3.out))
        | (go_at_call 38; refine HA4.out.mono ?_; clear HA4; rintro e w4 ⟨v4, rfl, ho4, hb4⟩; have HB4 := Lib.hid (HB3.out.trans (hb4.mono HB3.out.size)); clear HA5; have HA6 := Lib.hid (HU3.out w4 HB4.out); clear ho4 hb4)
        | (go_at_call 38; refine HA6.out.mono ?_; clear HA6; rintro e w5 ⟨v5, rfl, ho5, hb5⟩; obtain ⟨sp5, g5, cap5, rfl, hs5, hc5, hx5, -⟩ := own_SL2 ho5; have HB5 := Lib.hid (HB4.out.trans (hb5.mono HB4.out.size)); skip; clear ho5 hb5 hs5 hc5 hx5)
        | (go_at_call 43; refine (alive_any _).mono ?_; rintro e w8 ⟨rfl, hb8⟩; have HB8 := Lib.hid (HB5.out.trans (hb8.mono HB5.out.size)); clear hb8)
        | fail)
      go_ret
      exact ⟨rfl, HB8.out⟩
end Go.Proofs.Ytkbmgilceioieaa
