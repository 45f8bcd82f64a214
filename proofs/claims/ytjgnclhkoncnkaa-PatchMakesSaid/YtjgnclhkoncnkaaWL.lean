/- The walk of PatchMakes. -/
import Derived.Test.YtjgnclhkoncnkaaWK
namespace Go.Proofs.Ytjgnclhkoncnkaa
open Go.RowKit

theorem equal_dn {w : World} {A B : Src} {a : List Int} (ha : WAt w A a) (hb : WAt w B a) (la : a.length ≤ 10000) (n : Nat) :
    Calls Try.prog 34 #[.slice A.sp a.length A.c, .slice B.sp a.length B.c] (w.drewN n) fun e w' => e = .returned (.bool true) ∧ ∃ m, w' = w.drewN m := by
  have h := equalU_quiet (ha.new (below_dn (Below.refl _ _) n)) (hb.new (below_dn (Below.refl _ _) n)) la la
  rw [decide_eq_true rfl] at h
  refine h.mono ?_
  rintro e w' ⟨rfl, m, rfl⟩
  exact ⟨rfl, _, World.drewN_drewN _ _ _⟩
theorem makeM_len (old : List Int) : ∀ (g : Nat) (l : List Int) (acc : List OpM) (k : Nat), acc.length ≤ k → (∀ o ∈ acc, o.new.length ≤ k) → (makeM old g l acc).length ≤ k + l.length ∧ ∀ o ∈ makeM old g l acc, o.new.length ≤ k + l.length
  | 0, l, acc, k, h1, h2 => ⟨by show acc.length ≤ _; omega, fun o ho => by have := h2 o ho; omega⟩
  | g + 1, [], acc, k, h1, h2 => ⟨by show acc.length ≤ _; omega, fun o ho => by have := h2 o ho; omega⟩
  | g + 1, x :: r, acc, k, h1, h2 => by
    unfold makeM
    split
    · rename_i h4
      obtain ⟨k1, -, -⟩ := longM_ok old (x :: r) old.length
      obtain ⟨i1, i2⟩ := makeM_len old g ((x :: r).drop (longM old (x :: r) old.length).2) (acc ++ [⟨(longM old (x :: r) old.length).1, (longM old (x :: r) old.length).2, []⟩]) (k + (longM old (x :: r) old.length).2) (by simp; omega) (fun o ho => by
        rcases List.mem_append.1 ho with h | h
        · have := h2 o h; omega
        · obtain rfl := List.mem_singleton.1 h
          simp)
      rw [List.length_drop] at i1 i2
      exact ⟨by omega, fun o ho => by have := i2 o ho; omega⟩
    · obtain ⟨n1, n2⟩ := addNew_len (x := x) h1 h2
      obtain ⟨i1, i2⟩ := makeM_len old g r (addNewM acc x) (k + 1) n1 n2
      rw [List.length_cons]
      exact ⟨by omega, fun o ho => by have := i2 o ho; omega⟩
set_option maxHeartbeats 8000000 in
set_option maxRecDepth 100000 in
theorem law_makes {w : World} {A B : Src} {a b : List Int} (ha : WAt w A a) (hb : WAt w B b) : Calls Try.prog 8 #[.slice A.sp a.length A.c, .slice B.sp b.length B.c] w fun e w' => e = .returned (.bool true) ∧ Below w.heap.size w w' := by
  by_cases g0 : 200 < a.length
  · have g0i : (200 : Int) < a.length := by omega
    clear ha hb g0
    generalize a.length = N at g0i ⊢
    generalize b.length = M
    generalize A.sp = sp
    generalize A.c = c
    generalize B.sp = sq
    generalize B.c = d
    go_enter Try.func8, Try.ntmps8
    go_wp2
    go_ret
    exact ⟨rfl, Below.refl _ _⟩
  by_cases g1 : 200 < b.length
  · have g0i : ¬ (200 : Int) < a.length := by omega
    have g1i : (200 : Int) < b.length := by omega
    clear ha hb g0 g1
    generalize a.length = N at g0i ⊢
    generalize b.length = M at g1i ⊢
    generalize A.sp = sp
    generalize A.c = c
    generalize B.sp = sq
    generalize B.c = d
    go_enter Try.func8, Try.ntmps8
    go_wp2
    go_ret
    exact ⟨rfl, Below.refl _ _⟩
  obtain ⟨m1, m2⟩ := makeM_len a b.length b [] 0 (by simp) (fun o ho => by simp at ho)
  have HMk := Lib.hid (make_any ha hb (by omega) (by omega))
  have HRk := Lib.hid (fun (wx : World) (hx : Below w.heap.size w wx) => rmake_any (ha.new hx) (hb.new hx) (by omega) (by omega))
  obtain ⟨P, hP⟩ : ∃ P, makeM a b.length b [] = P := ⟨_, rfl⟩
  rw [hP] at m1 m2 HMk HRk
  have hPl : P.length ≤ 1000000 := by omega
  have HMk2 := Lib.hid (show Calls Try.prog 32 #[.slice A.sp a.length A.c, .slice B.sp b.length B.c] w fun e w' => ∃ (S : Src) (Sn : Nat → Src), e = .returned (.tuple #[.slice S.sp P.length S.c, .int .i64 0]) ∧ PAt w' S (P.map OpM.toI) Sn ∧ Below w.heap.size w w' from HMk.out.mono fun e w' ⟨v, nv, h1, h2, h3⟩ => by
    obtain ⟨S, Sn, rfl, h4⟩ := h2.toP hPl
    exact ⟨S, Sn, h1, h4, h3⟩)
  have HRk2 := Lib.hid (fun (wx : World) (hx : Below w.heap.size w wx) => show Calls Try.prog 33 #[.slice A.sp a.length A.c, .slice B.sp b.length B.c] wx fun e w' => ∃ (S : Src) (Sn : Nat → Src), e = .returned (.slice S.sp P.length S.c) ∧ PAt w' S (P.map OpM.toI) Sn ∧ Below wx.heap.size wx w' from (HRk.out wx hx).mono fun e w' ⟨v, nv, h1, h2, h3⟩ => by
    obtain ⟨S, Sn, rfl, h4⟩ := h2.toP hPl
    exact ⟨S, Sn, h1, h4, h3⟩)
  obtain ⟨N, hN⟩ : ∃ n, a.length = n := ⟨_, rfl⟩
  obtain ⟨M, hM⟩ : ∃ n, b.length = n := ⟨_, rfl⟩
  obtain ⟨K, hK⟩ : ∃ n, P.length = n := ⟨_, rfl⟩
  have g0i : ¬ (200 : Int) < N := by omega
  have g1i : ¬ (200 : Int) < M := by omega
  have hK5 : K ≤ 5000 := by omega
  have HKI := Lib.hid (show (P.map OpM.toI).length = K by rw [List.length_map, hK])
  have HMm := Lib.hid (fun (k : Nat) (hk : k < K) => show ((P.map OpM.toI).getD k default).new.length ≤ 10000 from by
    have hk2 : k < P.length := by omega
    have := m2 P[k] (List.getElem_mem hk2)
    simp only [List.getD, List.getElem?_map, List.getElem?_eq_getElem hk2, Option.map_some, Option.getD_some]
    show P[k].new.length ≤ 10000
    omega)
  rw [hN, hM, hK] at HMk2 HRk2
  rw [hN, hM]
  obtain ⟨I, hI⟩ : ∃ I, P.map OpM.toI = I := ⟨_, rfl⟩
  rw [hI] at HMk2 HRk2 HKI HMm
  obtain ⟨pa, qa, oa, ca⟩ := A
  obtain ⟨pb, qb, ob, cb⟩ := B
  dsimp only at HMk2 HRk2 ⊢
  clear ha hb g0 g1 m1 m2 HMk HRk hP hPl hN hM hK hI
  go_enter Try.func8, Try.ntmps8
  go_wp2_with (first
    | (go_at_call 32; refine HMk2.out.mono ?_; rintro e w3 ⟨⟨sp, sb, so, sc⟩, Sn, rfl, hp, b3⟩; have H3 := Lib.hid (And.intro b3 hp); clear b3 hp HMk2)
    | (go_at_call 33; refine (HRk2.out _ H3.out.1).mono ?_; rintro e w4 ⟨⟨tp, tb, to_, tc⟩, Tn, rfl, hp, b4⟩; have H4 := Lib.hid (And.intro (H3.out.1.trans (b4.mono H3.out.1.size)) (And.intro (H3.out.2.new b4) hp)); clear b4 hp HRk2)
    | fail)
  go_loopg [8] K (fun g u wr => ∃ k : Nat, k + g = K ∧ u = .int .i64 (k : Nat) ∧ Aside (Below w4.heap.size w4 wr))
  case atStart => exact ⟨0, by omega, rfl, Below.refl _ _⟩
  case round =>
    obtain ⟨k, hkg, rfl, HR⟩ := hrel
    cases gk with
    | zero =>
      obtain rfl : k = K := by omega
      have HB := Lib.hid (H4.out.1.trans (HR.out.mono H4.out.1.size))
      go_wp2_with (go_at_call 35; refine (l55alive_any _).mono ?_; rintro e w7 ⟨rfl, b7⟩; have H7 := Lib.hid (HB.out.trans (b7.mono HB.out.size)); clear b7)
      go_ret
      exact ⟨rfl, H7.out⟩
    | succ g1 =>
      have hk : k < K := by omega
      have hk2 : (k : Int) < K := by omega
      have hS := H4.out.2.1.new HR.out
      have hT := H4.out.2.2.new HR.out
      have hkI : k < I.length := by rw [HKI.out]; exact hk
      have hEq := fun n => Lib.hid (equal_dn (hS.nw k hkI) (hT.nw k hkI) (HMm.out k hk) n)
      have s0 := hS.c0 k hkI
      have s1 := hS.c1 k hkI
      have s2 := hS.c2 k hkI
      have t0 := hT.c0 k hkI
      have t1 := hT.c1 k hkI
      have t2 := hT.c2 k hkI
      have hsp := (hS.sl.at_ (by omega)).1
      have htp := (hT.sl.at_ (by omega)).1
      obtain ⟨o, ho⟩ : ∃ z, I.getD k default = z := ⟨_, rfl⟩
      rw [ho] at hEq s0 s1 s2 t0 t1 t2
      obtain ⟨f, m, nw⟩ := o
      dsimp only at hEq s0 s1 s2 t0 t1 t2 hsp htp
      subst hsp htp
      have hff : (f != f) = false := by simp
      have hmm : (m != m) = false := by simp
      have HBr := Lib.hid HR.out
      clear hS hT ho hkI HKI HMm
      go_wp2
      go_quiet ((go_at_call 34; exact (hEq _).out))
      go_wp2
      go_roundg g1
      case measure => omega
      case rel => exact ⟨k + 1, by omega, by go_num, below_dn HBr.out _⟩
end Go.Proofs.Ytjgnclhkoncnkaa
