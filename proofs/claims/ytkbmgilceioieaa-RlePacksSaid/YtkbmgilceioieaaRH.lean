/- The contracts of groups, a range over a function of two values. -/
import Derived.Test.YtkbmgilceioieaaRG
import Derived.Test.YtkbmgilceioieaaRI
import Derived.Laws.BitsLemmas
namespace Go.Proofs.Ytkbmgilceioieaa
open Go.RowKit
attribute [local go_sem] Oper.semAt_some

theorem Groups_any (sp : Option Addr) (n cap : Nat) (w : World) : Calls Try.prog 78 #[.slice sp n cap] w fun e w' => e = .returned (.func (.func 87) #[] #[.pointer (some ⟨w.heap.size, 0, none⟩)]) ∧ w' = w.alloc (.cells #[.slice sp n cap] 25) := by
  have hmf : ∀ (fn : Fn) (first cap : Array Value) (w : World), (Instr.makeFunc fn first cap).run Try.prog w = .ok (.func fn first cap) w := fun _ _ _ _ => rfl
  go_enter Try.func78, Try.ntmps78
  go_wp2
  go_ret
  exact ⟨rfl, rfl⟩

theorem andNot_head (h : Nat) (hh : h < 4294967296) : bits .andNot .u32 (h : Int) 2147483648 = (headN h : Int) := by
  have h2 : (BitVec.ofInt 32 (h : Int)).toNat = h := by
    rw [BitVec.ofInt_natCast, BitVec.toNat_ofNat]; exact Nat.mod_eq_of_lt (by omega)
  have h3 : (~~~(BitVec.ofInt 32 (2147483648 : Int))).toNat = 2147483647 := by decide
  have h4 : h &&& 2147483647 = h % 2147483648 := by have := Nat.and_two_pow_sub_one_eq_mod h 31; simpa using this
  show IntKind.u32.wrap ((BitVec.ofInt 32 (h : Int) &&& ~~~(BitVec.ofInt 32 (2147483648 : Int))).toNat : Int) = _
  rw [BitVec.toNat_and, h2, h3, h4, IntKind.wrap_u32]
  unfold headN
  omega

/-- How many words group number k tells, and how long it is. -/
def gN (l : List Nat) (k : Nat) : Nat := (((parse l).1[k]?).map fun g => g.told.length).getD 0
def gE (l : List Nat) (k : Nat) : Nat := (((parse l).1[k]?).map fun g => g.enc.length).getD 0

theorem g_at {l : List Nat} {k : Nat} (hk : k < (parse l).1.length) : ∃ g, (parse l).1[k]? = some g ∧ gN l k = g.told.length ∧ gE l k = g.enc.length := by
  refine ⟨_, List.getElem?_eq_getElem hk, ?_, ?_⟩
  · unfold gN; rw [List.getElem?_eq_getElem hk]; rfl
  · unfold gE; rw [List.getElem?_eq_getElem hk]; rfl
theorem drop_head {l : List Nat} {p : Nat} (h : p < l.length) : l.drop p = nthW l p :: l.drop (p + 1) := by
  rw [List.drop_eq_getElem_cons h]
  unfold nthW
  rw [List.getD_eq_getElem?_getD, List.getElem?_eq_getElem h]
  rfl
theorem nthW_lt {l : List Nat} (hb : ∀ x ∈ l, x < 4294967296) {p : Nat} (h : p < l.length) : nthW l p < 4294967296 := by
  unfold nthW
  rw [List.getD_eq_getElem?_getD, List.getElem?_eq_getElem h]
  exact hb _ (List.getElem_mem h)
/-- A round's facts: the head, how many words, how long. -/
theorem g_round {l : List Nat} (hb : ∀ x ∈ l, x < 4294967296) {k : Nat} (hk : k < (parse l).1.length) :
    posG l (k + 1) = posG l k + gE l k ∧ posG l k < l.length ∧ posG l (k + 1) ≤ l.length ∧ gN l k = headN (nthW l (posG l k)) ∧ headN (nthW l (posG l k)) ≤ 4096 ∧ gE l k = headS (nthW l (posG l k)) := by
  obtain ⟨g, hg, e1, e2⟩ := g_at hk
  obtain ⟨h1, h2, h3, h4, -, -⟩ := grp_at l k g hg
  rw [drop_head h3] at h1
  obtain ⟨f1, f2, f3, -⟩ := head_some (nthW_lt hb h3) h1
  exact ⟨by rw [h2, e2], h3, h4, by rw [e1, f1], f2, by rw [e2, f3]⟩
theorem g_end {l : List Nat} (hb : ∀ x ∈ l, x < 4294967296) (h : posG l (parse l).1.length < l.length) :
    4096 < headN (nthW l (posG l (parse l).1.length)) ∨ l.length - posG l (parse l).1.length < headS (nthW l (posG l (parse l).1.length)) := by
  have h1 := (grp_end l).1
  rw [drop_head h] at h1
  have := head_none (nthW_lt hb h) h1
  rw [List.length_drop] at this
  omega

set_option maxHeartbeats 4000000 in
set_option maxRecDepth 100000 in
theorem groups_in (l0 Bs : Nat) (l : List Nat) (sp : Option Addr) (b off cap : Nat) (F : World → Nat → Prop) (J Jx : Nat → World → Prop) (W : World)
    (hs0 : W.cell? ⟨Bs, 0, none⟩ = some (.slice sp l.length cap)) (hcap : l.length ≤ cap) (_hlen : l.length ≤ 100000) (hb : ∀ x ∈ l, x < 4294967296)
    (hL : ∀ k W', J k W' → SL W' sp b off l)
    (hR : RoundsF Try.prog l0 (parse l).1.length (fun k => #[.int .i64 (gN l k), .slice (some ⟨b, off + posG l k, none⟩) (gE l k) (gE l k)]) F J Jx)
    (fJ : ∀ k, Foot F (J k)) (h0 : J 0 W) :
    Iter Try.prog 87 #[.pointer (some ⟨Bs, 0, none⟩)] l0 (parse l).1.length J Jx W := by
  refine callsIn_of_wp Try.func87 rfl trivial ?_ rfl
  simp only [Try.ntmps87, List.size_toArray, List.length_cons, List.length_nil, Nat.reduceAdd, Nat.reduceSub, Array.replicate_succ, Array.replicate_zero, List.push_toArray, List.append_toArray, List.nil_append, List.cons_append]
  have HJ := Lib.hid (And.intro fJ (And.intro h0 (And.intro hR hL)))
  clear fJ h0 hR hL
  gi_wp2
  clear hs0
  gi_loopg [3, 4, 5] (parse l).1.length (fun m v u1 u2 wr => ∃ (k : Nat) (ad : Option Addr) (R cp : Nat), k + m = (parse l).1.length ∧ v = .slice ad R cp ∧ Aside (J k wr ∧ R = l.length - posG l k ∧ (posG l k < l.length → ad = some ⟨b, off + posG l k, none⟩) ∧ R ≤ cp))
  case atStart => exact ⟨0, sp, l.length, cap, by omega, rfl, HJ.out.2.1, by rw [posG_zero]; rfl, fun h => by rw [posG_zero] at h ⊢; exact (HJ.out.2.2.2 0 W HJ.out.2.1).1 h, hcap⟩
  case round =>
    obtain ⟨k, ad, R, cp, hkm, rfl, HA⟩ := hrel
    cases gk with
    | zero =>
      obtain rfl : k = (parse l).1.length := by omega
      by_cases hR0 : R = 0
      · subst hR0
        gi_wp2
        go_end0
        exact ⟨⟨_, rfl⟩, .inl HA.out.1⟩
      · have hpl : posG l (parse l).1.length < l.length := by have := HA.out.2.1; omega
        obtain rfl := HA.out.2.2.1 hpl
        have hge := g_end hb hpl
        rw [← HA.out.2.1] at hge
        have c0 := (HJ.out.2.2.2 _ wr HA.out.1).2 _ hpl
        obtain ⟨x, hx⟩ : ∃ x, nthW l (posG l (parse l).1.length) = x := ⟨_, rfl⟩
        have hx2 : x < 4294967296 := by rw [← hx]; exact nthW_lt hb hpl
        rw [hx] at c0 hge
        obtain ⟨nn, hnn⟩ : ∃ nn, headN x = nn := ⟨_, rfl⟩
        have hbt := andNot_head x hx2
        rw [hnn] at hbt hge
        obtain ⟨ss, hss⟩ : ∃ ss, headS x = ss := ⟨_, rfl⟩
        rw [hss] at hge
        have hw1 : IntKind.i64.wrap (nn : Int) = (nn : Int) := by rw [IntKind.wrap_i64, ← hnn]; unfold headN; omega
        have h1 : (0 : Int) < (R : Int) := by omega
        have hsc : decide ((2147483648 : Int) ≤ (x : Int)) = true ∧ ss = 2 ∨ decide ((2147483648 : Int) ≤ (x : Int)) = false ∧ IntKind.i64.wrap (1 + (nn : Int)) = (ss : Int) := by
          rw [← hss, ← hnn]
          unfold headS headN
          split
          · exact .inl ⟨by simp; omega, rfl⟩
          · exact .inr ⟨by simp; omega, by rw [IntKind.wrap_i64]; omega⟩
        have hge2 : decide ((4096 : Int) < (nn : Int)) = true ∨ decide ((4096 : Int) < (nn : Int)) = false ∧ (R : Int) < (ss : Int) := by
          by_cases h : (4096 : Int) < (nn : Int)
          · exact .inl (by simp; omega)
          · exact .inr ⟨by simp; omega, by omega⟩
        clear hnn hss hx hpl hx2 hge
        rcases hsc with ⟨d1, rfl⟩ | ⟨d1, hw2⟩
        · rcases hge2 with d2 | ⟨d2, d3⟩
          · gi_wp2
            refine ⟨fun _ h => (nomatch h), ?_⟩
            gi_wp2
            refine bodyPost_ret (results_none rfl _ _ _) rfl ?_
            exact ⟨⟨_, rfl⟩, .inl HA.out.1⟩
          · gi_wp2
            refine ⟨fun _ h => (nomatch h), ?_⟩
            gi_wp2
            refine bodyPost_ret (results_none rfl _ _ _) rfl ?_
            exact ⟨⟨_, rfl⟩, .inl HA.out.1⟩
        · rcases hge2 with d2 | ⟨d2, d3⟩
          · gi_wp2
            refine ⟨fun _ h => (nomatch h), ?_⟩
            gi_wp2
            refine bodyPost_ret (results_none rfl _ _ _) rfl ?_
            exact ⟨⟨_, rfl⟩, .inl HA.out.1⟩
          · gi_wp2
            refine ⟨fun _ h => (nomatch h), ?_⟩
            gi_wp2
            refine bodyPost_ret (results_none rfl _ _ _) rfl ?_
            exact ⟨⟨_, rfl⟩, .inl HA.out.1⟩
    | succ m1 =>
      have hlt : k < (parse l).1.length := by omega
      obtain ⟨hp1, hpl, hp2, hgn, hn4, hge⟩ := g_round hb hlt
      obtain rfl := HA.out.2.2.1 hpl
      have hcp := HA.out.2.2.2
      have hR1 := HA.out.2.1
      obtain ⟨x, hx⟩ : ∃ x, nthW l (posG l k) = x := ⟨_, rfl⟩
      have hx2 : x < 4294967296 := by rw [← hx]; exact nthW_lt hb hpl
      have c0 := (HJ.out.2.2.2 k wr HA.out.1).2 _ hpl
      rw [hx] at c0 hgn hn4 hge
      obtain ⟨nn, hnn⟩ : ∃ nn, headN x = nn := ⟨_, rfl⟩
      have hbt := andNot_head x hx2
      rw [hnn] at hbt hn4 hgn
      obtain ⟨ss, hss⟩ : ∃ ss, headS x = ss := ⟨_, rfl⟩
      rw [hss] at hge
      have hs2 : ss ≤ R := by omega
      have h1 : (0 : Int) < (R : Int) := by omega
      have h2 : (ss : Int) ≤ (R : Int) := by omega
      have h3 : (ss : Int) ≤ (cp : Int) := by omega
      have h4 : (0 : Int) ≤ (ss : Int) := by omega
      have h5 : (nn : Int) ≤ 4096 := by omega
      have hsc : (2147483648 : Int) ≤ (x : Int) ∧ ss = 2 ∨ (x : Int) < 2147483648 ∧ ss = 1 + nn := by
        rw [← hss, ← hnn]
        unfold headS headN
        split <;> omega
      have HP := Lib.hid (And.intro hp1 (And.intro hgn (And.intro hge (And.intro hR1 (And.intro hp2 hpl)))))
      have hJ1 := HA.out.1
      obtain ⟨fn, tmps, assign, body, hyd, hRo⟩ := HJ.out.2.2.1 k _ hJ1 hlt
      dsimp only at hyd
      rw [hgn, hge] at hyd
      clear hp1 hgn hge hR1 hp2 hpl hnn hss hx hn4 hs2
      rcases hsc with ⟨d1, rfl⟩ | ⟨d1, hse⟩
      · gi_wp2
        refine ⟨rfl, hRo.mono ?_⟩
        rintro e W3 (⟨rfl, hJ3, hs3⟩ | ⟨rfl, hJx3, -⟩)
        · have H3 := Lib.hid hJ3
          clear hJ3 hs3 hyd hRo
          by_cases hc : cp = 2
          · have hRn : R = 2 := by omega
            subst hc hRn
            gi_wp2
            go_roundg m1
            case measure => omega
            case rel => exact ⟨k + 1, _, _, _, by omega, rfl, H3.out, by have := HP.out; omega, fun h => by have := HP.out; omega, Nat.zero_le _⟩
          · gi_wp2
            go_roundg m1
            case measure => omega
            case rel => exact ⟨k + 1, _, _, _, by omega, rfl, H3.out, by have := HP.out; omega, fun h => by rw [HP.out.1, HP.out.2.2.1, Nat.add_assoc], by omega⟩
        · have H3 := Lib.hid hJx3
          clear hJx3 hyd hRo
          gi_wp2
          refine bodyPost_ret (results_none rfl _ _ _) rfl ?_
          exact ⟨⟨_, rfl⟩, .inr ⟨k + 1, by omega, H3.out⟩⟩
      · have hsi : (1 : Int) + (nn : Int) = (ss : Int) := by omega
        have hd1 : decide ((2147483648 : Int) ≤ (x : Int)) = false := by simp; omega
        have HD := Lib.hid (And.intro hse d1)
        clear hse d1
        gi_wp2
        refine ⟨rfl, hRo.mono ?_⟩
        rintro e W3 (⟨rfl, hJ3, hs3⟩ | ⟨rfl, hJx3, -⟩)
        · have H3 := Lib.hid hJ3
          clear hJ3 hs3 hyd hRo
          by_cases hc : cp = ss
          · have hRn : R = ss := by omega
            subst hc hRn
            gi_wp2
            go_roundg m1
            case measure => omega
            case rel => exact ⟨k + 1, _, _, _, by omega, rfl, H3.out, by have := HP.out; omega, fun h => by have := HP.out; omega, Nat.zero_le _⟩
          · gi_wp2
            go_roundg m1
            case measure => omega
            case rel => exact ⟨k + 1, _, _, _, by omega, rfl, H3.out, by have := HP.out; omega, fun h => by rw [HP.out.1, HP.out.2.2.1, Nat.add_assoc], by omega⟩
        · have H3 := Lib.hid hJx3
          clear hJx3 hyd hRo
          gi_wp2
          refine bodyPost_ret (results_none rfl _ _ _) rfl ?_
          exact ⟨⟨_, rfl⟩, .inr ⟨k + 1, by omega, H3.out⟩⟩
end Go.Proofs.Ytkbmgilceioieaa
