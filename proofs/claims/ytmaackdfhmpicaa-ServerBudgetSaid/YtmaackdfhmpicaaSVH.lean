/- Which tasks the law takes. -/
import Derived.Test.YtmaackdfhmpicaaSVG
namespace Go.Proofs.Ytmaackdfhmpicaa
open Go.RowKit

set_option maxHeartbeats 4000000 in
set_option maxRecDepth 100000 in
theorem l56right_any {w : World} {V : Nat → Prop} {S : Src} {L : List TaskM} (h : TksAt w V S L) (most : Nat) (hm : most ≤ 100) : Calls Try.prog 27 #[.slice S.sp L.length S.c, .int .i64 most] w fun e w' => e = .returned (.bool (rgB L most)) ∧ Below w.heap.size w w' := by
  have HC := Lib.hid (fun (wx : World) (hb : Below w.heap.size w wx) (k : Nat) (hk : k < L.length) => (h.new hb).cells hk)
  have HSp := Lib.hid (fun (h0 : 0 < L.length) => (h.sl.at_ h0).1)
  have HF := Lib.hid (show ∀ k, k < L.length → tkB (L.getD k default) = false → rgB L most = false by
    intro k hk hb
    cases hr : rgB L most with
    | false => rfl
    | true => have := (rgB_iff.1 hr).2 k hk; rw [hb] at this; cases this)
  have HT := Lib.hid (show (L.length : Int) ≤ most → (∀ k, k < L.length → tkB (L.getD k default) = true) → rgB L most = true from fun a b => rgB_iff.2 ⟨a, b⟩)
  have HG := Lib.hid (show ¬ (L.length : Int) ≤ most → rgB L most = false from fun a => by
    cases hr : rgB L most with
    | false => rfl
    | true => exact absurd (rgB_iff.1 hr).1 a)
  have hsm := h.sl.sm
  obtain ⟨o, ho⟩ : ∃ o, rgB L most = o := ⟨_, rfl⟩
  rw [ho] at HF HT HG ⊢
  obtain ⟨n, hn⟩ : ∃ n, L.length = n := ⟨_, rfl⟩
  rw [hn] at HF HT HG HC HSp hsm ⊢
  obtain ⟨sp, b, so, sc⟩ := S
  dsimp only at HC HSp ⊢
  clear h ho hn
  by_cases hlen : most < n
  · have HO := Lib.hid (HG.out (by omega))
    have hl2 : (most : Int) < (n : Int) := by omega
    go_enter Try.func27, Try.ntmps27
    go_wp2
    go_ret
    exact ⟨by rw [HO.out]; rfl, Below.refl _ _⟩
  have hl2 : ¬ (most : Int) < (n : Int) := by omega
  go_enter Try.func27, Try.ntmps27
  go_wp2
  go_loopg [5] n (fun g i wr => ∃ k : Nat, k + g = n ∧ i = .int .i64 (k : Nat) ∧ Aside (Below w.heap.size w wr ∧ ∀ j, j < k → tkB (L.getD j default) = true))
  case atStart => exact ⟨0, by omega, rfl, Below.refl _ _, fun j hj => by omega⟩
  case round =>
    obtain ⟨k, hkg, rfl, HW⟩ := hrel
    cases gk with
    | zero =>
      obtain rfl : k = n := by omega
      have HE := Lib.hid (HT.out (by omega) HW.out.2)
      go_wp2
      go_ret
      exact ⟨by rw [HE.out]; rfl, HW.out.1⟩
    | succ g1 =>
      have hk : k < n := by omega
      have hk2 : (k : Int) < (n : Int) := by omega
      obtain rfl : sp = some ⟨b, so, none⟩ := HSp.out (by omega)
      obtain ⟨f, ⟨d0, d1, d2⟩, -, d3, d4, d5, d6, d7, d8, d9, d10⟩ := HC.out wr HW.out.1 k hk
      have HFk := Lib.hid (HF.out k hk)
      have HTb := Lib.hid (tkB_iff (L.getD k default))
      have HTn := Lib.hid (show tkB (L.getD k default) = true → ∀ j, j < k + 1 → tkB (L.getD j default) = true by
        intro x j hj
        by_cases e : j = k
        · subst e; exact x
        · exact HW.out.2 j (by omega))
      have HBo := Lib.hid (fun (cs : Array Value) => below_alloc HW.out.1 (Nat.le_refl _) (.cells cs 44))
      obtain ⟨p, hp⟩ : ∃ p, (L.getD k default).per = p := ⟨_, rfl⟩
      obtain ⟨d, hd⟩ : ∃ p, (L.getD k default).dl = p := ⟨_, rfl⟩
      obtain ⟨c, hc⟩ : ∃ p, (L.getD k default).cost = p := ⟨_, rfl⟩
      obtain ⟨bb, hbb⟩ : ∃ p, tkB (L.getD k default) = p := ⟨_, rfl⟩
      rw [hp] at d0 HTb
      rw [hd] at d1 HTb
      rw [hc] at d2 HTb
      rw [hbb] at HTb HFk HTn
      obtain ⟨f0, hf0⟩ : ∃ v, f 0 = v := ⟨_, rfl⟩
      obtain ⟨f1, hf1⟩ : ∃ v, f 1 = v := ⟨_, rfl⟩
      obtain ⟨f2, hf2⟩ : ∃ v, f 2 = v := ⟨_, rfl⟩
      obtain ⟨f3, hf3⟩ : ∃ v, f 3 = v := ⟨_, rfl⟩
      obtain ⟨f4, hf4⟩ : ∃ v, f 4 = v := ⟨_, rfl⟩
      obtain ⟨f5, hf5⟩ : ∃ v, f 5 = v := ⟨_, rfl⟩
      obtain ⟨f6, hf6⟩ : ∃ v, f 6 = v := ⟨_, rfl⟩
      obtain ⟨f7, hf7⟩ : ∃ v, f 7 = v := ⟨_, rfl⟩
      rw [hf0] at d3
      rw [hf1] at d4
      rw [hf2] at d5
      rw [hf3] at d6
      rw [hf4] at d7
      rw [hf5] at d8
      rw [hf6] at d9
      rw [hf7] at d10
      clear hp hd hc hbb hf0 hf1 hf2 hf3 hf4 hf5 hf6 hf7
      by_cases c1 : p < 1
      · have HO := Lib.hid (HFk.out (by cases bb with
          | false => rfl
          | true => have := HTb.out.1 rfl; omega))
        go_wp2
        go_ret
        exact ⟨by rw [HO.out]; rfl, HBo.out _⟩
      by_cases c2 : 400 < p
      · have HO := Lib.hid (HFk.out (by cases bb with
          | false => rfl
          | true => have := HTb.out.1 rfl; omega))
        go_wp2
        go_ret
        exact ⟨by rw [HO.out]; rfl, HBo.out _⟩
      by_cases c3 : d < 1
      · have HO := Lib.hid (HFk.out (by cases bb with
          | false => rfl
          | true => have := HTb.out.1 rfl; omega))
        go_wp2
        go_ret
        exact ⟨by rw [HO.out]; rfl, HBo.out _⟩
      by_cases c4 : p < d
      · have HO := Lib.hid (HFk.out (by cases bb with
          | false => rfl
          | true => have := HTb.out.1 rfl; omega))
        go_wp2
        go_ret
        exact ⟨by rw [HO.out]; rfl, HBo.out _⟩
      by_cases c5 : c < 1
      · have HO := Lib.hid (HFk.out (by cases bb with
          | false => rfl
          | true => have := HTb.out.1 rfl; omega))
        go_wp2
        go_ret
        exact ⟨by rw [HO.out]; rfl, HBo.out _⟩
      by_cases c6 : d < c
      · have HO := Lib.hid (HFk.out (by cases bb with
          | false => rfl
          | true => have := HTb.out.1 rfl; omega))
        go_wp2
        go_ret
        exact ⟨by rw [HO.out]; rfl, HBo.out _⟩
      have HO := Lib.hid (HTn.out (HTb.out.2 (by omega)))
      go_wp2
      go_roundg g1
      case measure => omega
      case rel => exact ⟨k + 1, by omega, by go_num, HBo.out _, HO.out⟩
set_option maxHeartbeats 4000000 in
set_option maxRecDepth 100000 in
theorem l38right_any {w : World} {V : Nat → Prop} {S : Src} {L : List TaskM} (h : TksAt w V S L) (most : Nat) (hm : most ≤ 100) : Calls Try.prog 9 #[.slice S.sp L.length S.c, .int .i64 most] w fun e w' => e = .returned (.bool (rgB L most)) ∧ Below w.heap.size w w' := by
  have HC := Lib.hid (fun (wx : World) (hb : Below w.heap.size w wx) (k : Nat) (hk : k < L.length) => (h.new hb).cells hk)
  have HSp := Lib.hid (fun (h0 : 0 < L.length) => (h.sl.at_ h0).1)
  have HF := Lib.hid (show ∀ k, k < L.length → tkB (L.getD k default) = false → rgB L most = false by
    intro k hk hb
    cases hr : rgB L most with
    | false => rfl
    | true => have := (rgB_iff.1 hr).2 k hk; rw [hb] at this; cases this)
  have HT := Lib.hid (show (L.length : Int) ≤ most → (∀ k, k < L.length → tkB (L.getD k default) = true) → rgB L most = true from fun a b => rgB_iff.2 ⟨a, b⟩)
  have HG := Lib.hid (show ¬ (L.length : Int) ≤ most → rgB L most = false from fun a => by
    cases hr : rgB L most with
    | false => rfl
    | true => exact absurd (rgB_iff.1 hr).1 a)
  have hsm := h.sl.sm
  obtain ⟨o, ho⟩ : ∃ o, rgB L most = o := ⟨_, rfl⟩
  rw [ho] at HF HT HG ⊢
  obtain ⟨n, hn⟩ : ∃ n, L.length = n := ⟨_, rfl⟩
  rw [hn] at HF HT HG HC HSp hsm ⊢
  obtain ⟨sp, b, so, sc⟩ := S
  dsimp only at HC HSp ⊢
  clear h ho hn
  by_cases hlen : most < n
  · have HO := Lib.hid (HG.out (by omega))
    have hl2 : (most : Int) < (n : Int) := by omega
    go_enter Try.func9, Try.ntmps9
    go_wp2
    go_ret
    exact ⟨by rw [HO.out]; rfl, Below.refl _ _⟩
  have hl2 : ¬ (most : Int) < (n : Int) := by omega
  go_enter Try.func9, Try.ntmps9
  go_wp2
  go_loopg [5] n (fun g i wr => ∃ k : Nat, k + g = n ∧ i = .int .i64 (k : Nat) ∧ Aside (Below w.heap.size w wr ∧ ∀ j, j < k → tkB (L.getD j default) = true))
  case atStart => exact ⟨0, by omega, rfl, Below.refl _ _, fun j hj => by omega⟩
  case round =>
    obtain ⟨k, hkg, rfl, HW⟩ := hrel
    cases gk with
    | zero =>
      obtain rfl : k = n := by omega
      have HE := Lib.hid (HT.out (by omega) HW.out.2)
      go_wp2
      go_ret
      exact ⟨by rw [HE.out]; rfl, HW.out.1⟩
    | succ g1 =>
      have hk : k < n := by omega
      have hk2 : (k : Int) < (n : Int) := by omega
      obtain rfl : sp = some ⟨b, so, none⟩ := HSp.out (by omega)
      obtain ⟨f, ⟨d0, d1, d2⟩, -, d3, d4, d5, d6, d7, d8, d9, d10⟩ := HC.out wr HW.out.1 k hk
      have HFk := Lib.hid (HF.out k hk)
      have HTb := Lib.hid (tkB_iff (L.getD k default))
      have HTn := Lib.hid (show tkB (L.getD k default) = true → ∀ j, j < k + 1 → tkB (L.getD j default) = true by
        intro x j hj
        by_cases e : j = k
        · subst e; exact x
        · exact HW.out.2 j (by omega))
      have HBo := Lib.hid (fun (cs : Array Value) => below_alloc HW.out.1 (Nat.le_refl _) (.cells cs 44))
      obtain ⟨p, hp⟩ : ∃ p, (L.getD k default).per = p := ⟨_, rfl⟩
      obtain ⟨d, hd⟩ : ∃ p, (L.getD k default).dl = p := ⟨_, rfl⟩
      obtain ⟨c, hc⟩ : ∃ p, (L.getD k default).cost = p := ⟨_, rfl⟩
      obtain ⟨bb, hbb⟩ : ∃ p, tkB (L.getD k default) = p := ⟨_, rfl⟩
      rw [hp] at d0 HTb
      rw [hd] at d1 HTb
      rw [hc] at d2 HTb
      rw [hbb] at HTb HFk HTn
      obtain ⟨f0, hf0⟩ : ∃ v, f 0 = v := ⟨_, rfl⟩
      obtain ⟨f1, hf1⟩ : ∃ v, f 1 = v := ⟨_, rfl⟩
      obtain ⟨f2, hf2⟩ : ∃ v, f 2 = v := ⟨_, rfl⟩
      obtain ⟨f3, hf3⟩ : ∃ v, f 3 = v := ⟨_, rfl⟩
      obtain ⟨f4, hf4⟩ : ∃ v, f 4 = v := ⟨_, rfl⟩
      obtain ⟨f5, hf5⟩ : ∃ v, f 5 = v := ⟨_, rfl⟩
      obtain ⟨f6, hf6⟩ : ∃ v, f 6 = v := ⟨_, rfl⟩
      obtain ⟨f7, hf7⟩ : ∃ v, f 7 = v := ⟨_, rfl⟩
      rw [hf0] at d3
      rw [hf1] at d4
      rw [hf2] at d5
      rw [hf3] at d6
      rw [hf4] at d7
      rw [hf5] at d8
      rw [hf6] at d9
      rw [hf7] at d10
      clear hp hd hc hbb hf0 hf1 hf2 hf3 hf4 hf5 hf6 hf7
      by_cases c1 : p < 1
      · have HO := Lib.hid (HFk.out (by cases bb with
          | false => rfl
          | true => have := HTb.out.1 rfl; omega))
        go_wp2
        go_ret
        exact ⟨by rw [HO.out]; rfl, HBo.out _⟩
      by_cases c2 : 400 < p
      · have HO := Lib.hid (HFk.out (by cases bb with
          | false => rfl
          | true => have := HTb.out.1 rfl; omega))
        go_wp2
        go_ret
        exact ⟨by rw [HO.out]; rfl, HBo.out _⟩
      by_cases c3 : d < 1
      · have HO := Lib.hid (HFk.out (by cases bb with
          | false => rfl
          | true => have := HTb.out.1 rfl; omega))
        go_wp2
        go_ret
        exact ⟨by rw [HO.out]; rfl, HBo.out _⟩
      by_cases c4 : p < d
      · have HO := Lib.hid (HFk.out (by cases bb with
          | false => rfl
          | true => have := HTb.out.1 rfl; omega))
        go_wp2
        go_ret
        exact ⟨by rw [HO.out]; rfl, HBo.out _⟩
      by_cases c5 : c < 1
      · have HO := Lib.hid (HFk.out (by cases bb with
          | false => rfl
          | true => have := HTb.out.1 rfl; omega))
        go_wp2
        go_ret
        exact ⟨by rw [HO.out]; rfl, HBo.out _⟩
      by_cases c6 : d < c
      · have HO := Lib.hid (HFk.out (by cases bb with
          | false => rfl
          | true => have := HTb.out.1 rfl; omega))
        go_wp2
        go_ret
        exact ⟨by rw [HO.out]; rfl, HBo.out _⟩
      have HO := Lib.hid (HTn.out (HTb.out.2 (by omega)))
      go_wp2
      go_roundg g1
      case measure => omega
      case rel => exact ⟨k + 1, by omega, by go_num, HBo.out _, HO.out⟩
end Go.Proofs.Ytmaackdfhmpicaa
