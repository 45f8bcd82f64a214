/- The least budget: the chapter's search, and what ServerBudget says. -/
import Derived.Test.YtmaackdfhmpicaaSVJ
namespace Go.Proofs.Ytmaackdfhmpicaa
open Go.RowKit

/-- What a search by halves finds. -/
def SrtRes (p : Nat → Bool) (n : Nat) (w : World) (e : Ending) (w' : World) : Prop := ∃ i : Nat, e = .returned (.int .i64 (i : Nat)) ∧ i ≤ n ∧ (0 < i → p (i - 1) = false) ∧ (i < n → p i = true) ∧ Below w.heap.size w w'
theorem svBud1_any {w : World} {V : Nat → Prop} {S : Src} {L : List TaskM} (h : TksAt w V S L) (hl : L.length ≤ 20) (hcp : L.length ≤ S.c) (hg : ∀ k, k < L.length → tkB (L.getD k default) = true) {P : Int} {p q : Nat}
    (h0 : w.cell? ⟨p, 0, none⟩ = some (.int .i64 P)) (h1 : w.cell? ⟨q, 0, none⟩ = some (.slice S.sp L.length S.c)) (k : Nat) (hk : (k : Int) ≤ 100000) :
    Calls Try.prog 48 #[.int .i64 (k : Nat), .pointer (some ⟨p, 0, none⟩), .pointer (some ⟨q, 0, none⟩)] w fun e w' => e = .returned (.bool (fitsB P ((k : Int) + 1) L)) ∧ Below w.heap.size w w' := by
  have HF := Lib.hid (svFits_any h hl hcp hg P ((k : Int) + 1))
  obtain ⟨R, hR⟩ : ∃ o, fitsB P ((k : Int) + 1) L = o := ⟨_, rfl⟩
  rw [hR] at HF ⊢
  obtain ⟨n, hn⟩ : ∃ n, L.length = n := ⟨_, rfl⟩
  rw [hn] at HF h1
  obtain ⟨sp, b, so, sc⟩ := S
  dsimp only at HF h1
  clear h hR hn hg hl hcp
  go_enter Try.func48, Try.ntmps48
  go_wp2_with (first
    | (go_at_call 30; refine HF.out.mono ?_; rintro e w1 ⟨rfl, b1⟩; have H1 := Lib.hid b1; clear b1)
    | fail)
  go_ret
  exact ⟨rfl, H1.out⟩
set_option maxHeartbeats 4000000 in
set_option maxRecDepth 100000 in
theorem srtBud_any {w : World} {p q n : Nat} (hn : n ≤ 100000) (pr : Nat → Bool)
    (hf : ∀ wx, Below w.heap.size w wx → ∀ k, k < n → Calls Try.prog 48 #[.int .i64 (k : Nat), .pointer (some ⟨p, 0, none⟩), .pointer (some ⟨q, 0, none⟩)] wx fun e w' => e = .returned (.bool (pr k)) ∧ Below wx.heap.size wx w') :
    Calls Try.prog 47 #[.int .i64 (n : Nat), .func (.func 48) #[] #[.pointer (some ⟨p, 0, none⟩), .pointer (some ⟨q, 0, none⟩)]] w (SrtRes pr n w) := by
  have HF := Lib.hid hf
  clear hf
  go_enter Try.func47, Try.ntmps47
  go_wp2
  go_loopg [5, 6] n (fun g u v wr => ∃ i j : Nat, u = .int .i64 (i : Nat) ∧ v = .int .i64 (j : Nat) ∧ i ≤ j ∧ j ≤ n ∧ j ≤ i + g ∧ Aside ((0 < i → pr (i - 1) = false) ∧ (j < n → pr j = true) ∧ Below w.heap.size w wr))
  case atStart => exact ⟨0, n, rfl, rfl, by omega, by omega, by omega, fun h => by omega, fun h => by omega, Below.refl _ _⟩
  case round =>
    obtain ⟨i, j, rfl, rfl, h1, h2, h3, HK⟩ := hrel
    by_cases hij : i < j
    · have hij2 : (i : Int) < (j : Int) := by omega
      cases gk with
      | zero => omega
      | succ g1 =>
        obtain ⟨m, hm⟩ : ∃ m : Nat, m = (i + j) / 2 := ⟨_, rfl⟩
        have hm1 : i ≤ m ∧ m < j := by omega
        have HC := Lib.hid (HF.out wr HK.out.2.2 m (by omega))
        have HM := Lib.hid hm
        obtain ⟨v, hv⟩ : ∃ v, pr m = v := ⟨_, rfl⟩
        rw [hv] at HC
        have HV := Lib.hid hv
        clear hv
        go_upto_region 4 with fail
        rw [show ((i : Int) + (j : Int)) / 2 = (m : Int) by have := HM.out; omega]
        clear hm
        cases v with
        | true =>
          go_wp2_with (first
            | (go_at_call 48; refine HC.out.mono ?_; rintro e w1 ⟨rfl, b1⟩; have H1 := Lib.hid (HK.out.2.2.trans (b1.mono HK.out.2.2.size)); clear b1)
            | fail)
          go_roundg g1
          case measure => omega
          case rel => exact ⟨i, m, rfl, rfl, by omega, by omega, by omega, HK.out.1, fun _ => HV.out, H1.out⟩
        | false =>
          go_wp2_with (first
            | (go_at_call 48; refine HC.out.mono ?_; rintro e w1 ⟨rfl, b1⟩; have H1 := Lib.hid (HK.out.2.2.trans (b1.mono HK.out.2.2.size)); clear b1)
            | fail)
          go_roundg g1
          case measure => omega
          case rel => exact ⟨m + 1, j, by go_num, rfl, by omega, by omega, by omega, fun _ => by simpa using HV.out, HK.out.2.1, H1.out⟩
    · obtain rfl : i = j := by omega
      go_wp2
      go_ret
      exact ⟨i, rfl, h2, HK.out⟩
/-- What Budget tells. -/
def BudRes (P : Int) (L : List TaskM) (w : World) (e : Ending) (w' : World) : Prop := ∃ (n : Int) (ok : Bool), e = .returned (.tuple #[.int .i64 n, .bool ok]) ∧
  ((1 ≤ P ∧ fitsB P P L = true) → ok = true ∧ 1 ≤ n ∧ n ≤ P ∧ fitsB P n L = true ∧ (n ≠ 1 → fitsB P (n - 1) L = false)) ∧ (¬ (1 ≤ P ∧ fitsB P P L = true) → n = 0 ∧ ok = false) ∧ Below w.heap.size w w'
set_option maxHeartbeats 4000000 in
set_option maxRecDepth 100000 in
theorem svBudget_any {w : World} {V : Nat → Prop} {S : Src} {L : List TaskM} (h : TksAt w V S L) (hl : L.length ≤ 20) (hcp : L.length ≤ S.c) (hg : ∀ k, k < L.length → tkB (L.getD k default) = true) (P : Int) (hP : P ≤ 4096) :
    Calls Try.prog 32 #[.int .i64 P, .slice S.sp L.length S.c] w (BudRes P L w) := by
  have HRt := Lib.hid (fun wx => svRight_any P P wx)
  have HF := Lib.hid (fun (wx : World) (hb : Below w.heap.size w wx) => svFits_any (h.new hb) hl hcp hg P P)
  have H1 := Lib.hid (fun (wx : World) (hb : Below w.heap.size w wx) (p q : Nat) (h0 : wx.cell? ⟨p, 0, none⟩ = some (.int .i64 P)) (h1 : wx.cell? ⟨q, 0, none⟩ = some (.slice S.sp L.length S.c)) (k : Nat) (hk : (k : Int) ≤ 100000) => svBud1_any (h.new hb) hl hcp hg h0 h1 k hk)
  obtain ⟨fb, hfb⟩ : ∃ f : Int → Bool, (fun x => fitsB P x L) = f := ⟨_, rfl⟩
  have HFb := Lib.hid (show ∀ x, fitsB P x L = fb x from fun x => by rw [← hfb])
  rw [HFb.out] at HF
  have HBR := Lib.hid (show ∀ e w', BudRes P L w e w' = ∃ (n : Int) (ok : Bool), e = .returned (.tuple #[.int .i64 n, .bool ok]) ∧ ((1 ≤ P ∧ fb P = true) → ok = true ∧ 1 ≤ n ∧ n ≤ P ∧ fb n = true ∧ (n ≠ 1 → fb (n - 1) = false)) ∧ (¬ (1 ≤ P ∧ fb P = true) → n = 0 ∧ ok = false) ∧ Below w.heap.size w w' from fun e w' => by unfold BudRes; simp only [HFb.out])
  obtain ⟨n, hn⟩ : ∃ n, L.length = n := ⟨_, rfl⟩
  rw [hn] at HF H1 ⊢
  obtain ⟨sp, b, so, sc⟩ := S
  dsimp only at HF H1 ⊢
  obtain ⟨Z, hZ⟩ : ∃ Z, Z = w.heap.size := ⟨_, rfl⟩
  have HZ := Lib.hid hZ
  clear h hfb hn hg hl hcp
  by_cases hp : P < 1
  · have hr : svR P P = false := by simp [svR]; omega
    rw [hr] at HRt
    have HNo := Lib.hid hp
    clear hr
    go_enter Try.func32, Try.ntmps32
    go_upto_region 2 with fail
    rw [← hZ]
    generalize hw2 : World.alloc _ _ = w2
    have H2 := Lib.hid (show Below w.heap.size w w2 ∧ RowAt w2 (Z + 2) 36 #[.int .i64 P, .int .i64 P] by
      rw [← hw2, hZ]
      refine ⟨(((Below.refl _ _).alloc (Nat.le_refl _) _).alloc (by simp) _).alloc (by simp; omega) _, ?_⟩
      have := RowAt.mk ((w.alloc (.cells #[.int .i64 P] 3)).alloc (.cells #[.slice sp n sc] 22)) 36 #[.int .i64 P, .int .i64 P]
      simpa using this)
    clear hw2 hZ
    have a0 : w2.cell? ⟨Z + 2, 0, none⟩ = some (.int .i64 P) := H2.out.2.cell 0
    have a1 : w2.cell? ⟨Z + 2, 1, none⟩ = some (.int .i64 P) := H2.out.2.cell 1
    go_wp2_with (first
      | (go_at_call 22; refine (HRt.out _).mono ?_; rintro e w3 ⟨rfl, b3⟩; have H3 := Lib.hid (H2.out.1.trans (b3.mono H2.out.1.size)); clear b3)
      | fail)
    go_ret2
    rw [HBR.out]
    exact ⟨0, false, rfl, fun h => absurd h.1 (by have := HNo.out; omega), fun _ => ⟨rfl, rfl⟩, H3.out⟩
  have hr : svR P P = true := by simp [svR]; omega
  rw [hr] at HRt
  clear hr
  obtain ⟨N, hN⟩ : ∃ N : Nat, P = (N : Int) + 1 := ⟨(P - 1).toNat, by omega⟩
  have HN := Lib.hid hN
  have hN2 : IntKind.i64.wrap (P - 1) = (N : Int) := by rw [IntKind.wrap_i64]; omega
  have HSr := Lib.hid (fun (wx : World) (p q : Nat) (hf : ∀ wy, Below wx.heap.size wx wy → ∀ k, k < N → Calls Try.prog 48 #[.int .i64 (k : Nat), .pointer (some ⟨p, 0, none⟩), .pointer (some ⟨q, 0, none⟩)] wy fun e w' => e = .returned (.bool ((fun k : Nat => fb ((k : Int) + 1)) k)) ∧ Below wy.heap.size wy w') => srtBud_any (w := wx) (show N ≤ 100000 by omega) (fun k : Nat => fb ((k : Int) + 1)) hf)
  have HP1 := Lib.hid (show 1 ≤ P by omega)
  obtain ⟨v, hv⟩ : ∃ v, fb P = v := ⟨_, rfl⟩
  rw [hv] at HF HBR
  have HV := Lib.hid hv
  clear hv hN
  go_enter Try.func32, Try.ntmps32
  go_upto_region 2 with fail
  rw [← hZ]
  generalize hw2 : World.alloc _ _ = w2
  have H2 := Lib.hid (show Below w.heap.size w w2 ∧ RowAt w2 (Z + 2) 36 #[.int .i64 P, .int .i64 P] ∧ RowAt w2 Z 3 #[.int .i64 P] ∧ RowAt w2 (Z + 1) 22 #[.slice sp n sc] by
    rw [← hw2, hZ]
    have e1 := RowAt.mk w 3 #[.int .i64 P]
    have e2 := RowAt.mk (w.alloc (.cells #[.int .i64 P] 3)) 22 #[.slice sp n sc]
    have e3 := RowAt.mk ((w.alloc (.cells #[.int .i64 P] 3)).alloc (.cells #[.slice sp n sc] 22)) 36 #[.int .i64 P, .int .i64 P]
    refine ⟨(((Below.refl _ _).alloc (Nat.le_refl _) _).alloc (by simp) _).alloc (by simp; omega) _, by simpa using e3, (e1.new ((Below.refl _ _).alloc (Nat.le_refl _) _)).new ((Below.refl _ _).alloc (Nat.le_refl _) _), ?_⟩
    have := e2.new ((Below.refl _ _).alloc (Nat.le_refl _) (.cells #[.int .i64 P, .int .i64 P] 36))
    simpa using this)
  clear hw2 hZ
  have a0 : w2.cell? ⟨Z + 2, 0, none⟩ = some (.int .i64 P) := H2.out.2.1.cell 0
  have a1 : w2.cell? ⟨Z + 2, 1, none⟩ = some (.int .i64 P) := H2.out.2.1.cell 1
  cases v with
  | false =>
    go_wp2_with (first
      | (go_at_call 22; refine (HRt.out _).mono ?_; rintro e w3 ⟨rfl, b3⟩; have H3 := Lib.hid b3; have HB3 := Lib.hid (H2.out.1.trans (b3.mono H2.out.1.size)); have c0 : w3.cell? ⟨Z + 2, 0, none⟩ = some (.int .i64 P) := (H2.out.2.1.new b3).cell 0; have c1 : w3.cell? ⟨Z + 2, 1, none⟩ = some (.int .i64 P) := (H2.out.2.1.new b3).cell 1; have c2 : w3.cell? ⟨Z + 1, 0, none⟩ = some (.slice sp n sc) := (H2.out.2.2.2.new b3).cell 0; clear b3 a0 a1)
      | (go_at_call 30; refine (HF.out _ HB3.out).mono ?_; rintro e w4 ⟨rfl, b4⟩; have H4 := Lib.hid (HB3.out.trans (b4.mono HB3.out.size)); clear b4 c0 c1 c2)
      | fail)
    go_ret2
    rw [HBR.out]
    exact ⟨0, false, rfl, fun h => absurd h.2 (by decide), fun _ => ⟨rfl, rfl⟩, H4.out⟩
  | true =>
    go_wp2_with (first
      | (go_at_call 22; refine (HRt.out _).mono ?_; rintro e w3 ⟨rfl, b3⟩; have H3 := Lib.hid b3; have HB3 := Lib.hid (H2.out.1.trans (b3.mono H2.out.1.size)); have c0 : w3.cell? ⟨Z + 2, 0, none⟩ = some (.int .i64 P) := (H2.out.2.1.new b3).cell 0; have c1 : w3.cell? ⟨Z + 2, 1, none⟩ = some (.int .i64 P) := (H2.out.2.1.new b3).cell 1; have c2 : w3.cell? ⟨Z + 1, 0, none⟩ = some (.slice sp n sc) := (H2.out.2.2.2.new b3).cell 0; clear b3 a0 a1)
      | (go_at_call 30; refine (HF.out _ HB3.out).mono ?_; rintro e w4 ⟨rfl, b4⟩; have HQ := Lib.hid (H3.out.trans (b4.mono H3.out.size)); have H4 := Lib.hid (HB3.out.trans (b4.mono HB3.out.size)); have d0 : w4.cell? ⟨Z, 0, none⟩ = some (.int .i64 P) := (H2.out.2.2.1.new HQ.out).cell 0; clear b4 c0 c1 c2)
      | fail)
    refine (HSr.out w4 Z (Z + 1) (fun wy hb k hk => by
      have := H1.out wy (H4.out.trans (hb.mono H4.out.size)) Z (Z + 1) (((H2.out.2.2.1.new HQ.out).new hb).cell 0) (((H2.out.2.2.2.new HQ.out).new hb).cell 0) k (by have := HN.out; omega)
      rw [HFb.out] at this
      exact this)).mono ?_
    rintro e w5 ⟨i, rfl, i1, i2, i3, b5⟩
    have H5 := Lib.hid (H4.out.trans (b5.mono H4.out.size))
    have HI := Lib.hid (And.intro i2 i3)
    have hN3 : (N : Int) ≤ 4096 := by have := HN.out; omega
    clear i2 i3 b5 d0
    go_wp2
    go_ret2
    rw [HBR.out]
    have h1 := HP1.out
    have h2 := HN.out
    refine ⟨1 + (i : Int), true, rfl, fun _ => ⟨rfl, by omega, by omega, ?_, fun hne => ?_⟩, fun h => absurd ⟨h1, trivial⟩ h, H5.out⟩
    · by_cases e : i < N
      · have := HI.out.2 e
        rw [show 1 + (i : Int) = (i : Int) + 1 by omega]
        exact this
      · rw [show 1 + (i : Int) = P by omega]
        exact HV.out
    · have := HI.out.1 (by omega)
      rw [show 1 + (i : Int) - 1 = ((i - 1 : Nat) : Int) + 1 by omega]
      exact this
set_option maxHeartbeats 8000000 in
set_option maxRecDepth 100000 in
theorem law_budget {w : World} {V : Nat → Prop} {S : Src} {L : List TaskM} (h : TksAt w V S L) (hcp : L.length ≤ S.c) (P : Int) :
    Calls Try.prog 8 #[.int .i64 P, .slice S.sp L.length S.c] w fun e w' => e = .returned (.bool true) ∧ Below w.heap.size w w' := by
  have HA := Lib.hid (fun wx => l56alive_any wx)
  by_cases hp : 400 < P
  · go_enter Try.func8, Try.ntmps8
    go_wp2
    go_ret
    exact ⟨rfl, Below.refl _ _⟩
  have HRg := Lib.hid (l56right_any h 4 (by omega))
  cases hgg : rgB L ((4 : Nat) : Int)
  case false =>
    rw [hgg] at HRg
    obtain ⟨sp, hsp⟩ : ∃ v, S.sp = v := ⟨_, rfl⟩
    obtain ⟨sc, hc⟩ : ∃ v, S.c = v := ⟨_, rfl⟩
    obtain ⟨n, hn⟩ : ∃ v, L.length = v := ⟨_, rfl⟩
    rw [hsp, hc, hn] at HRg ⊢
    clear hgg hsp hc hn h hcp
    go_enter Try.func8, Try.ntmps8
    go_wp2_with (first
      | (go_at_call 27; refine (HRg.out).mono ?_; rintro e w1 ⟨rfl, b1⟩; have K1 := Lib.hid b1; clear b1)
      | fail)
    go_ret
    exact ⟨rfl, K1.out⟩
  case true =>
  rw [hgg] at HRg
  obtain ⟨hl5, hg⟩ := rgB_iff.1 hgg
  have hl : L.length ≤ 20 := by omega
  have HB := Lib.hid (fun (wx : World) (hb : Below w.heap.size w wx) => svBudget_any (h.new hb) hl hcp hg P (by omega))
  have HF := Lib.hid (fun (wx : World) (hb : Below w.heap.size w wx) (x : Int) (hr : svR P x = true) => r56Fits_any (h.new hb) hl hcp hg hr)
  have HRs := Lib.hid (show ∀ x : Int, 1 ≤ x → x ≤ P → svR P x = true from fun x h1 h2 => by simp [svR]; omega)
  have HBR := Lib.hid (show ∀ (wx : World) e w', BudRes P L wx e w' → ∃ (n : Int) (ok : Bool), e = .returned (.tuple #[.int .i64 n, .bool ok]) ∧ ((1 ≤ P ∧ fitsB P P L = true) → ok = true ∧ 1 ≤ n ∧ n ≤ P ∧ fitsB P n L = true ∧ (n ≠ 1 → fitsB P (n - 1) L = false)) ∧ (¬ (1 ≤ P ∧ fitsB P P L = true) → n = 0 ∧ ok = false) ∧ Below wx.heap.size wx w' from fun wx e w' h => h)
  obtain ⟨fb, hfb⟩ : ∃ f : Int → Bool, (fun x => fitsB P x L) = f := ⟨_, rfl⟩
  have HFb := Lib.hid (show ∀ x, fitsB P x L = fb x from fun x => by rw [← hfb])
  simp only [HFb.out] at HF HBR
  obtain ⟨sp, hsp⟩ : ∃ v, S.sp = v := ⟨_, rfl⟩
  obtain ⟨sc, hc⟩ : ∃ v, S.c = v := ⟨_, rfl⟩
  obtain ⟨n0, hn⟩ : ∃ v, L.length = v := ⟨_, rfl⟩
  rw [hsp, hc, hn] at HRg HB HF ⊢
  clear hgg hsp hc hn h hcp hg hl hl5 hfb
  by_cases hp1 : P < 1
  · have HNo := Lib.hid hp1
    go_enter Try.func8, Try.ntmps8
    go_upto_region 4 with (first
      | (go_at_call 27; refine (HRg.out).mono ?_; rintro e w1 ⟨rfl, b1⟩; have K1 := Lib.hid b1; clear b1)
      | (go_at_call 32; refine (HB.out _ K1.out).mono ?_; intro e w2 hres; obtain ⟨n, ok, rfl, r1, r2, b2⟩ := HBR.out _ _ _ hres; obtain ⟨rfl, rfl⟩ := r2 (fun h => by have := HNo.out; omega); have K2 := Lib.hid (K1.out.trans (b2.mono K1.out.size)); clear r1 r2 b2 hres)
      | fail)
    go_wp2_with (first
      | (go_at_call 25; refine (HA.out _).mono ?_; rintro e w3 ⟨rfl, b3⟩; have K3 := Lib.hid (K2.out.trans (b3.mono K2.out.size)); clear b3)
      | fail)
    go_ret
    exact ⟨rfl, K3.out⟩
  have HP1 := Lib.hid (show 1 ≤ P by omega)
  obtain ⟨v, hv⟩ : ∃ v, fb P = v := ⟨_, rfl⟩
  have HV := Lib.hid hv
  clear hv
  cases v with
  | false =>
    have HVf := HV.out
    go_enter Try.func8, Try.ntmps8
    go_upto_region 4 with (first
      | (go_at_call 27; refine (HRg.out).mono ?_; rintro e w1 ⟨rfl, b1⟩; have K1 := Lib.hid b1; clear b1)
      | (go_at_call 32; refine (HB.out _ K1.out).mono ?_; intro e w2 hres; obtain ⟨n, ok, rfl, r1, r2, b2⟩ := HBR.out _ _ _ hres; obtain ⟨rfl, rfl⟩ := r2 (fun h => by have h2 := h.2; rw [HV.out] at h2; cases h2); have K2 := Lib.hid (K1.out.trans (b2.mono K1.out.size)); clear r1 r2 b2 hres)
      | fail)
    go_wp2_with (first
      | (go_at_call 31; refine (HF.out _ K2.out _ (HRs.out _ (by omega) (by omega))).mono ?_; rintro e w3 ⟨rfl, b3⟩; have K3 := Lib.hid (K2.out.trans (b3.mono K2.out.size)); clear b3)
      | (go_at_call 25; refine (HA.out _).mono ?_; rintro e w4 ⟨rfl, b4⟩; have K4 := Lib.hid (K3.out.trans (b4.mono K3.out.size)); clear b4)
      | fail)
    go_ret
    exact ⟨rfl, K4.out⟩
  | true =>
    have HVt := HV.out
    go_enter Try.func8, Try.ntmps8
    go_upto_region 4 with (first
      | (go_at_call 27; refine (HRg.out).mono ?_; rintro e w1 ⟨rfl, b1⟩; have K1 := Lib.hid b1; clear b1)
      | (go_at_call 32; refine (HB.out _ K1.out).mono ?_; intro e w2 hres; obtain ⟨n, ok, rfl, r1, r2, b2⟩ := HBR.out _ _ _ hres; obtain ⟨rfl, n1, n2, n3, n4⟩ := r1 ⟨HP1.out, HV.out⟩; have K2 := Lib.hid (K1.out.trans (b2.mono K1.out.size)); have HN4 := Lib.hid n4; clear r1 r2 b2 hres n4)
      | fail)
    by_cases hn1 : n = 1
    · subst hn1
      go_wp2_with (first
        | (go_at_call 31; refine (HF.out _ K3.out _ (HRs.out _ (by omega) (by omega))).mono ?_; rintro e w5 ⟨rfl, b5⟩; have K5 := Lib.hid (K3.out.trans (b5.mono K3.out.size)); clear b5)
        | (go_at_call 31; refine (HF.out _ K2.out _ (HRs.out _ (by omega) (by omega))).mono ?_; rintro e w3 ⟨rfl, b3⟩; have K3 := Lib.hid (K2.out.trans (b3.mono K2.out.size)); clear b3)
        | (go_at_call 25; refine (HA.out _).mono ?_; rintro e w4 ⟨rfl, b4⟩; have K4 := Lib.hid (K5.out.trans (b4.mono K5.out.size)); clear b4)
        | fail)
      go_ret
      exact ⟨rfl, K4.out⟩
    · have hn5 := HN4.out hn1
      have hne : (n == 1) = false := by simpa using hn1
      go_wp2_with (first
        | (go_at_call 31; refine (HF.out _ K5.out _ (HRs.out _ (by omega) (by omega))).mono ?_; rintro e w6 ⟨rfl, b6⟩; have K6 := Lib.hid (K5.out.trans (b6.mono K5.out.size)); clear b6)
        | (go_at_call 31; refine (HF.out _ K3.out _ (HRs.out _ (by omega) (by omega))).mono ?_; rintro e w5 ⟨rfl, b5⟩; have K5 := Lib.hid (K3.out.trans (b5.mono K3.out.size)); clear b5)
        | (go_at_call 31; refine (HF.out _ K2.out _ (HRs.out _ (by omega) (by omega))).mono ?_; rintro e w3 ⟨rfl, b3⟩; have K3 := Lib.hid (K2.out.trans (b3.mono K2.out.size)); clear b3)
        | (go_at_call 25; refine (HA.out _).mono ?_; rintro e w4 ⟨rfl, b4⟩; have K4 := Lib.hid (K6.out.trans (b4.mono K6.out.size)); clear b4)
        | fail)
      go_ret
      exact ⟨rfl, K4.out⟩
end Go.Proofs.Ytmaackdfhmpicaa
