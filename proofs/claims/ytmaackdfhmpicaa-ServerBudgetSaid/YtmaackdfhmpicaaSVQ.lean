/- Is none of the tasks late on a server: the document's. -/
import Derived.Test.YtmaackdfhmpicaaSVP
namespace Go.Proofs.Ytmaackdfhmpicaa
open Go.RowKit

set_option maxHeartbeats 8000000 in
set_option maxRecDepth 100000 in
theorem r56Fits_any {w : World} {V : Nat → Prop} {S : Src} {L : List TaskM} (h : TksAt w V S L) (hl : L.length ≤ 20) (hcp : L.length ≤ S.c) (hg : ∀ k, k < L.length → tkB (L.getD k default) = true) {P B : Int} (hr : svR P B = true) :
    Calls Try.prog 31 #[.int .i64 P, .int .i64 B, .slice S.sp L.length S.c] w fun e w' => e = .returned (.bool (fitsB P B L)) ∧ Below w.heap.size w w' := by
  have HC := Lib.hid (fun (wx : World) (hb : Below w.heap.size w wx) (k : Nat) (hk : k < L.length) => (h.new hb).cells2 hk)
  have HSp := Lib.hid (fun (h0 : 0 < L.length) => (h.sl.at_ h0).1)
  have HBb := Lib.hid (fun (h0 : 0 < L.length) => (h.sl.at_ h0).2.1)
  have HR := Lib.hid (fun (wx : World) (hb : Below w.heap.size w wx) (k : Nat) (hk : k < L.length) => r56Resp_at (h.new hb) hl hg hr k hk)
  have HF := Lib.hid (fun (i : Nat) => @fitsB_f P B L i)
  have HT := Lib.hid (@fitsB_t P B L)
  obtain ⟨R, hR⟩ : ∃ o, fitsB P B L = o := ⟨_, rfl⟩
  rw [hR] at HF HT ⊢
  obtain ⟨n, hn⟩ : ∃ n, L.length = n := ⟨_, rfl⟩
  rw [hn] at HBb HC HSp HR HF HT hl hcp ⊢
  obtain ⟨sp, b, so, sc⟩ := S
  dsimp only at HBb HC HSp HR hcp ⊢
  have hcp2 : (n : Int) ≤ (sc : Int) := by omega
  clear h hR hn hg hr
  have HL0 := Lib.hid (show 0 < n → b < w.heap.size from fun h0 => HBb.out h0)
  go_enter Try.func31, Try.ntmps31
  go_wp2
  go_loopg [7] n (fun g i wr => ∃ k : Nat, k + g = n ∧ i = .int .i64 (k : Nat) ∧ Aside (Below w.heap.size w wr ∧ ∀ j, j < k → (fitAt P B L j).isSome = true))
  case atStart => exact ⟨0, by omega, rfl, Below.refl _ _, fun j hj => by omega⟩
  case round =>
    obtain ⟨k, hkg, rfl, HQ⟩ := hrel
    have HBl := Lib.hid HQ.out.1
    cases gk with
    | zero =>
      obtain rfl : k = n := by omega
      have HE := Lib.hid (HT.out HQ.out.2)
      go_wp2
      go_ret
      exact ⟨by rw [HE.out]; rfl, HBl.out⟩
    | succ g1 =>
      have hk : k < n := by omega
      have hk2 : (k : Int) < (n : Int) := by omega
      have hk3 : (k : Int) ≤ (sc : Int) := by omega
      obtain rfl : sp = some ⟨b, so, none⟩ := HSp.out (by omega)
      obtain ⟨⟨d0, d1, d2⟩, d3, d4, d5, d6, d7, d8, d9, d10⟩ := HC.out wr HBl.out k hk
      have HD := Lib.hid (fun (wx : World) (hb : Below w.heap.size w wx) => HR.out wx hb k hk)
      have HFk := Lib.hid (HF.out k hk)
      have HTk := Lib.hid (show (fitAt P B L k).isSome = true → ∀ j, j < k + 1 → (fitAt P B L j).isSome = true from fun x j hj => by
        by_cases e : j = k
        · subst e; exact x
        · exact HQ.out.2 j (by omega))
      obtain ⟨o, ho⟩ : ∃ o, fitAt P B L k = o := ⟨_, rfl⟩
      rw [ho] at HD HFk HTk
      clear ho
      obtain ⟨tp, htp⟩ : ∃ v, (L.getD k default).per = v := ⟨_, rfl⟩
      obtain ⟨td, htd⟩ : ∃ v, (L.getD k default).dl = v := ⟨_, rfl⟩
      obtain ⟨tc, htc⟩ : ∃ v, (L.getD k default).cost = v := ⟨_, rfl⟩
      rw [htp] at d0 HD
      rw [htd] at d1 HD
      rw [htc] at d2 HD
      clear htp htd htc
      obtain ⟨f0, hf0⟩ : ∃ v, lonK (L.getD k default) 0 = v := ⟨_, rfl⟩
      obtain ⟨f1, hf1⟩ : ∃ v, lonK (L.getD k default) 1 = v := ⟨_, rfl⟩
      obtain ⟨f2, hf2⟩ : ∃ v, lonK (L.getD k default) 2 = v := ⟨_, rfl⟩
      obtain ⟨f3, hf3⟩ : ∃ v, lonK (L.getD k default) 3 = v := ⟨_, rfl⟩
      obtain ⟨f4, hf4⟩ : ∃ v, lonK (L.getD k default) 4 = v := ⟨_, rfl⟩
      obtain ⟨f5, hf5⟩ : ∃ v, lonK (L.getD k default) 5 = v := ⟨_, rfl⟩
      obtain ⟨f6, hf6⟩ : ∃ v, lonK (L.getD k default) 6 = v := ⟨_, rfl⟩
      obtain ⟨f7, hf7⟩ : ∃ v, lonK (L.getD k default) 7 = v := ⟨_, rfl⟩
      rw [hf0] at d3 HD
      rw [hf1] at d4 HD
      rw [hf2] at d5 HD
      rw [hf3] at d6 HD
      rw [hf4] at d7 HD
      rw [hf5] at d8 HD
      rw [hf6] at d9 HD
      rw [hf7] at d10 HD
      clear hf0 hf1 hf2 hf3 hf4 hf5 hf6 hf7
      have HBD := Lib.hid (show Below w.heap.size w wr.drew from below_dn HBl.out 1)
      have HCD := Lib.hid (HD.out wr.drew HBD.out)
      have hbb := HL0.out (by omega)
      have HK := Lib.hid (show ∀ w', Below wr.heap.size wr w' → (w'.cell? ⟨b, so + k * 11, none⟩ = some (.int .i64 tp) ∧ w'.cell? ⟨b, so + k * 11 + 1, none⟩ = some (.int .i64 td) ∧ w'.cell? ⟨b, so + k * 11 + 2, none⟩ = some (.int .i64 tc) ∧ w'.cell? ⟨b, so + k * 11 + 3, none⟩ = some (.int .i64 f0) ∧ w'.cell? ⟨b, so + k * 11 + 4, none⟩ = some (.int .i64 f1) ∧ w'.cell? ⟨b, so + k * 11 + 5, none⟩ = some (.int .i64 f2) ∧ w'.cell? ⟨b, so + k * 11 + 6, none⟩ = some (.int .i64 f3) ∧ w'.cell? ⟨b, so + k * 11 + 7, none⟩ = some (.int .i64 f4) ∧ w'.cell? ⟨b, so + k * 11 + 8, none⟩ = some (.int .i64 f5) ∧ w'.cell? ⟨b, so + k * 11 + 9, none⟩ = some (.int .i64 f6) ∧ w'.cell? ⟨b, so + k * 11 + 10, none⟩ = some (.int .i64 f7)) from fun w' hb => ⟨(hb.cell (Nat.lt_of_lt_of_le hbb HBl.out.size)).trans d0, (hb.cell (Nat.lt_of_lt_of_le hbb HBl.out.size)).trans d1, (hb.cell (Nat.lt_of_lt_of_le hbb HBl.out.size)).trans d2, (hb.cell (Nat.lt_of_lt_of_le hbb HBl.out.size)).trans d3, (hb.cell (Nat.lt_of_lt_of_le hbb HBl.out.size)).trans d4, (hb.cell (Nat.lt_of_lt_of_le hbb HBl.out.size)).trans d5, (hb.cell (Nat.lt_of_lt_of_le hbb HBl.out.size)).trans d6, (hb.cell (Nat.lt_of_lt_of_le hbb HBl.out.size)).trans d7, (hb.cell (Nat.lt_of_lt_of_le hbb HBl.out.size)).trans d8, (hb.cell (Nat.lt_of_lt_of_le hbb HBl.out.size)).trans d9, (hb.cell (Nat.lt_of_lt_of_le hbb HBl.out.size)).trans d10⟩)
      clear HD HC HSp HR
      go_upto_region 4 with fail
      go_region_held3 (fun w' => w'.cell? ⟨b, so + k * 11, none⟩ = some (.int .i64 tp) ∧ w'.cell? ⟨b, so + k * 11 + 1, none⟩ = some (.int .i64 td) ∧ w'.cell? ⟨b, so + k * 11 + 2, none⟩ = some (.int .i64 tc) ∧ w'.cell? ⟨b, so + k * 11 + 3, none⟩ = some (.int .i64 f0) ∧ w'.cell? ⟨b, so + k * 11 + 4, none⟩ = some (.int .i64 f1) ∧ w'.cell? ⟨b, so + k * 11 + 5, none⟩ = some (.int .i64 f2) ∧ w'.cell? ⟨b, so + k * 11 + 6, none⟩ = some (.int .i64 f3) ∧ w'.cell? ⟨b, so + k * 11 + 7, none⟩ = some (.int .i64 f4) ∧ w'.cell? ⟨b, so + k * 11 + 8, none⟩ = some (.int .i64 f5) ∧ w'.cell? ⟨b, so + k * 11 + 9, none⟩ = some (.int .i64 f6) ∧ w'.cell? ⟨b, so + k * 11 + 10, none⟩ = some (.int .i64 f7)) (first | exact ⟨d0, d1, d2, d3, d4, d5, d6, d7, d8, d9, d10⟩ | exact HK.out _ ((below_dn (Below.refl _ _) 1).trans bw) | go_keep)
        (first
          | (go_at_call 29; refine HCD.out.mono ?_; rintro e w5 ⟨rfl, bw⟩; have H5 := Lib.hid (HBD.out.trans (bw.mono HBD.out.size)))
          | fail)
      clear d0 d1 d2 d3 d4 d5 d6 d7 d8 d9 d10 bw
      cases o with
      | none =>
        have HE := Lib.hid (HFk.out rfl)
        go_wp2
        go_ret
        exact ⟨by rw [HE.out]; rfl, H5.out⟩
      | some x =>
        have HE := Lib.hid (HTk.out rfl)
        go_wp2
        go_roundg g1
        case measure => omega
        case rel => exact ⟨k + 1, by omega, by go_num, H5.out, HE.out⟩
end Go.Proofs.Ytmaackdfhmpicaa
