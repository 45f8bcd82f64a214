/- The contract of the reference's Unpack. -/
import Derived.Test.YtkbmgilceioieaaSB
import Derived.Test.YtkbmgilceioieaaSC
namespace Go.Proofs.Ytkbmgilceioieaa
open Go.RowKit
attribute [local go_sem] Oper.semAt_some

theorem nthW_ext {a b : List Nat} (hl : a.length = b.length) (h : ∀ k, k < a.length → nthW a k = nthW b k) : a = b := of_decide_eq_true (eqW_nth hl h)

set_option maxHeartbeats 2000000 in
set_option maxRecDepth 100000 in
theorem runpack_any (most : Nat) (l : List Nat) (sp : Option Addr) (b off cap : Nat) (w : World) (hl : SL w sp b off l) (hcap : l.length ≤ cap) (hlen : l.length ≤ 30000) (hb : ∀ x ∈ l, x < 4294967296) (hm : most ≤ 20000) :
    Calls Try.prog 39 #[.int .i64 most, .slice sp l.length cap] w fun e w' => ∃ v, e = .returned (.tuple #[v, .bool (rightB most l)]) ∧ w'.ownsRow w.heap.size 27 1 v (unpackS most l).length (rowW (unpackS most l)) ∧ Below w.heap.size w w' := by
  have ho := ropen_any most l sp b off cap w hl hcap hlen hb hm
  cases hop : openS most l with
  | none =>
    rw [hop] at ho
    obtain ⟨h1, h2⟩ := open_wrong (m := most) (l := l) (fun out h => by rw [hop] at h; cases h)
    rw [h1, h2]
    have HO := Lib.hid ho
    clear ho hl hb hop h1 h2
    go_enter Try.func39, Try.ntmps39
    go_wp2_with (first
      | (go_at_call 63; refine HO.out.mono ?_; clear HO; rintro e w1 ⟨v1, rfl, ho1, hb1⟩; obtain ⟨sp1, g1, cap1, rfl, hs1, hc1, hx1, -⟩ := own_SL2 ho1; have HO1 := Lib.hid (And.intro ho1 hb1); have HP1 := Lib.hid (rpack_any _ sp1 g1 0 cap1 w1 hs1 hc1 (by simp)); clear ho1 hb1 hs1 hc1 hx1)
      | (go_at_call 42; refine HP1.out.mono ?_; rintro e w2 ⟨v2, rfl, ho2, hb2⟩; obtain ⟨sp2, g2, cap2, rfl, hs2, hc2, hx2, -⟩ := own_SL2 ho2; have HB2 := Lib.hid hb2; clear ho2 hb2 hs2 hc2 hx2)
      | fail)
    exact ⟨rfl, .tuple #[.slice none 0 0, .bool false], by simp [results, Try.results39, go_sem], _, rfl, World.ownsRow_nil _ _ _ _, HO1.out.2.trans (HB2.out.mono HO1.out.2.size)⟩
  | some out =>
    rw [hop] at ho
    have hol : out.length ≤ most := openF_len _ _ _ _ hop
    obtain ⟨P, hP⟩ : ∃ P, packS out = P := ⟨_, rfl⟩
    have hPl : P.length ≤ 50000 := by have h1 := (small_any out).1; rw [hP] at h1; omega
    have hback : P = l → rightB most l = true ∧ unpackS most l = out := fun h => open_back hop (by rw [hP]; exact h)
    have hwrong : P ≠ l → rightB most l = false ∧ unpackS most l = [] := fun h => open_wrong (fun o h1 h2 => by rw [hop] at h1; injection h1 with h1; subst h1; exact h (hP.symm.trans h2))
    have HBW := Lib.hid (And.intro hback hwrong)
    have HL := Lib.hid (And.intro hl (fun h0 : 0 < l.length => hl.lt h0))
    have HO := Lib.hid (show Calls Try.prog 63 #[.int .i64 most, .slice sp l.length cap] w fun e w' => ∃ v, e = .returned (.tuple #[v, .bool true]) ∧ w'.ownsRow w.heap.size 27 1 v out.length (rowW out) ∧ Below w.heap.size w w' from ho)
    have hpp : ∀ (sp1 : Option Addr) (g1 cap1 : Nat) (w1 : World), SL w1 sp1 g1 0 out → out.length ≤ cap1 → Calls Try.prog 42 #[.slice sp1 out.length cap1] w1 fun e w' => ∃ v, e = .returned v ∧ w'.ownsRow w1.heap.size 27 1 v P.length (rowW P) ∧ Below w1.heap.size w1 w' := by
      intro sp1 g1 cap1 w1 h1 h2
      rw [← hP]
      exact rpack_any out sp1 g1 0 cap1 w1 h1 h2 (by omega)
    have HPP := Lib.hid hpp
    clear ho hl hb hop hback hwrong hpp hP
    by_cases hne : P.length = l.length
    · have hne' : ((P.length : Int) != (l.length : Int)) = false := by simp; omega
      have HN := Lib.hid hne
      clear hne
      go_enter Try.func39, Try.ntmps39
      go_wp2_with (first
        | (go_at_call 63; refine HO.out.mono ?_; clear HO; rintro e w1 ⟨v1, rfl, ho1, hb1⟩; obtain ⟨sp1, g1, cap1, rfl, hs1, hc1, hx1, -⟩ := own_SL2 ho1; have HO1 := Lib.hid (And.intro ho1 hb1); have HP1 := Lib.hid (HPP.out sp1 g1 cap1 w1 hs1 hc1); clear ho1 hb1 hs1 hc1 hx1)
        | (go_at_call 42; refine HP1.out.mono ?_; rintro e w2 ⟨v2, rfl, ho2, hb2⟩; obtain ⟨sp2, g2, cap2, rfl, hs2, hc2, hx2, -⟩ := own_SL2 ho2; have HB2 := Lib.hid (And.intro (And.intro (own_below HO1.out.1 hb2 (Nat.le_refl _)) (HO1.out.2.trans (hb2.mono HO1.out.2.size))) hs2); clear ho2 hb2 hs2 hc2 hx2)
        | fail)
      have hsl := HL.out.1.below HB2.out.1.2 HL.out.2
      have HSL := Lib.hid hsl
      clear hne' hsl
      go_loopg [9] l.length (fun g i wr => ∃ k : Nat, k + g = l.length ∧ i = .int .i64 k ∧ Aside ((∀ j, j < k → nthW P j = nthW l j) ∧ ∃ n, wr = w2.drewN n))
      case atStart => exact ⟨0, by omega, rfl, fun j hj => by omega, 0, rfl⟩
      case round =>
        obtain ⟨k, hkg, rfl, HR⟩ := hrel
        obtain ⟨heq, n, rfl⟩ := HR.out
        clear HR
        have HE := Lib.hid heq
        clear heq
        cases gk with
        | zero =>
          obtain rfl : k = l.length := by omega
          have hpe : P = l := nthW_ext HN.out (fun j hj => HE.out j (by have := HN.out; omega))
          obtain ⟨h1, h2⟩ := HBW.out.1 hpe
          have hd : decide (l.length < P.length) = false := by rw [decide_eq_false_iff_not]; have := HN.out; omega
          have HPE := Lib.hid (And.intro h1 h2)
          clear hpe h1 h2
          go_wp2
          rw [HPE.out.1, HPE.out.2]
          exact ⟨rfl, .tuple #[.slice sp1 out.length cap1, .bool true], by simp [results, Try.results39, go_sem], _, rfl, HB2.out.1.1, below_drewN HB2.out.1.2 n⟩
        | succ g1 =>
          have hlt : k < l.length := by omega
          have hltP : k < P.length := by have := HN.out; omega
          obtain rfl := HL.out.1.1 (by omega)
          have c1 := HB2.out.2.2 k hltP
          obtain rfl := HB2.out.2.1 (by omega)
          rw [Nat.zero_add] at c1
          have c2 := HSL.out.2 k hlt
          have i1 : (k : Int) < (P.length : Int) := by omega
          have i2 : (k : Int) < (l.length : Int) := by omega
          have i0 : (0 : Int) ≤ (k : Int) := by omega
          by_cases hx : nthW P k = nthW l k
          · have hxb : ((nthW P k : Int) != (nthW l k : Int)) = false := by rw [hx]; simp
            have HX := Lib.hid hx
            clear hx
            go_wp2
            go_quiet (fail)
            go_wp2
            go_roundg g1
            case measure => omega
            case rel => exact ⟨k + 1, by omega, by go_num, fun j hj => by
              by_cases e : j = k
              · rw [e]; exact HX.out
              · exact HE.out j (by omega), _, rfl⟩
          · have hxb : ((nthW P k : Int) != (nthW l k : Int)) = true := by simp; omega
            obtain ⟨h1, h2⟩ := HBW.out.2 (fun e => hx (by rw [e]))
            have HX := Lib.hid (And.intro h1 h2)
            clear hx h1 h2
            go_wp2
            go_quiet (fail)
            go_wp2
            rw [HX.out.1, HX.out.2]
            exact ⟨rfl, .tuple #[.slice none 0 0, .bool false], by simp [results, Try.results39, go_sem], _, rfl, World.ownsRow_nil _ _ _ _, below_drewN (below_drewN HB2.out.1.2 n) _⟩
    · have hne' : ((P.length : Int) != (l.length : Int)) = true := by simp; omega
      obtain ⟨h1, h2⟩ := HBW.out.2 (fun e => hne (by rw [e]))
      rw [h1, h2]
      clear hne h1 h2
      go_enter Try.func39, Try.ntmps39
      go_wp2_with (first
        | (go_at_call 63; refine HO.out.mono ?_; clear HO; rintro e w1 ⟨v1, rfl, ho1, hb1⟩; obtain ⟨sp1, g1, cap1, rfl, hs1, hc1, hx1, -⟩ := own_SL2 ho1; have HO1 := Lib.hid (And.intro ho1 hb1); have HP1 := Lib.hid (HPP.out sp1 g1 cap1 w1 hs1 hc1); clear ho1 hb1 hs1 hc1 hx1)
        | (go_at_call 42; refine HP1.out.mono ?_; rintro e w2 ⟨v2, rfl, ho2, hb2⟩; obtain ⟨sp2, g2, cap2, rfl, hs2, hc2, hx2, -⟩ := own_SL2 ho2; have HB2 := Lib.hid hb2; clear ho2 hb2 hs2 hc2 hx2)
        | fail)
      exact ⟨rfl, .tuple #[.slice none 0 0, .bool false], by simp [results, Try.results39, go_sem], _, rfl, World.ownsRow_nil _ _ _ _, HO1.out.2.trans (HB2.out.mono HO1.out.2.size)⟩
end Go.Proofs.Ytkbmgilceioieaa
