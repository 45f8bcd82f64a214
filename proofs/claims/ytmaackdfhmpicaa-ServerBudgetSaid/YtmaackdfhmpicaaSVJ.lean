/- What ServerFits says. -/
import Derived.Test.YtmaackdfhmpicaaSVQ
import Derived.Test.YtmaackdfhmpicaaSVF
namespace Go.Proofs.Ytmaackdfhmpicaa
open Go.RowKit

set_option maxHeartbeats 8000000 in
set_option maxRecDepth 100000 in
theorem law_fits56 {w : World} {V : Nat → Prop} {S : Src} {L : List TaskM} (h : TksAt w V S L) (hcp : L.length ≤ S.c) (P B : Int) :
    Calls Try.prog 7 #[.agg #[.int .i64 P, .int .i64 B], .slice S.sp L.length S.c] w fun e w' => e = .returned (.bool true) ∧ Below w.heap.size w w' := by
  have HRt := Lib.hid (fun wx => r56Right_any P B wx)
  have HA := Lib.hid (fun wx => l56alive_any wx)
  cases hr : svR P B
  case false =>
    rw [hr] at HRt
    clear hr
    go_enter Try.func7, Try.ntmps7
    go_wp2_with (first
      | (go_at_call 19; refine (HRt.out _).mono ?_; rintro e w1 ⟨rfl, rfl⟩)
      | fail)
    go_ret
    exact ⟨rfl, (Below.refl _ _).alloc (Nat.le_refl _) _⟩
  case true =>
  rw [hr] at HRt
  by_cases hp : 400 < P
  · clear hr
    go_enter Try.func7, Try.ntmps7
    go_wp2_with (first
      | (go_at_call 19; refine (HRt.out _).mono ?_; rintro e w1 ⟨rfl, rfl⟩)
      | fail)
    go_ret
    exact ⟨rfl, (Below.refl _ _).alloc (Nat.le_refl _) _⟩
  have HRg := Lib.hid (fun (wx : World) (hb : Below w.heap.size w wx) => l56right_any (h.new hb) 5 (by omega))
  cases hgg : rgB L ((5 : Nat) : Int)
  case false =>
    rw [hgg] at HRg
    have hbx : Below w.heap.size w (w.alloc (.cells #[.int .i64 P, .int .i64 B] 36)) := (Below.refl _ _).alloc (Nat.le_refl _) _
    have HBX := Lib.hid (HRg.out _ hbx)
    clear hr hgg hbx HRg
    obtain ⟨sp, hsp⟩ : ∃ v, S.sp = v := ⟨_, rfl⟩
    obtain ⟨sc, hc⟩ : ∃ v, S.c = v := ⟨_, rfl⟩
    obtain ⟨n, hn⟩ : ∃ v, L.length = v := ⟨_, rfl⟩
    rw [hsp, hc, hn] at HBX ⊢
    clear hsp hc hn h hcp
    go_enter Try.func7, Try.ntmps7
    go_wp2_with (first
      | (go_at_call 19; refine (HRt.out _).mono ?_; rintro e w1 ⟨rfl, rfl⟩)
      | (go_at_call 27; refine (HBX.out).mono ?_; rintro e w1 ⟨rfl, b1⟩; have K1 := Lib.hid (box_of b1); clear b1)
      | fail)
    go_ret
    exact ⟨rfl, K1.out.1⟩
  case true =>
  rw [hgg] at HRg
  have hgk := rgB_iff.1 hgg
  obtain ⟨hl5, hg⟩ := hgk
  have hl : L.length ≤ 20 := by omega
  have HC := Lib.hid (fun (wx : World) (hb : Below w.heap.size w wx) (k : Nat) (hk : k < L.length) => (h.new hb).cells2 hk)
  have HSp := Lib.hid (fun (h0 : 0 < L.length) => (h.sl.at_ h0).1)
  have HBb := Lib.hid (fun (h0 : 0 < L.length) => (h.sl.at_ h0).2.1)
  have HR := Lib.hid (fun (wx : World) (hb : Below w.heap.size w wx) (k : Nat) (hk : k < L.length) => svResp_at (h.new hb) hl hg P B k hk)
  have HRr := Lib.hid (fun (wx : World) (hb : Below w.heap.size w wx) (k : Nat) (hk : k < L.length) => r56Resp_at (h.new hb) hl hg hr k hk)
  have HF1 := Lib.hid (fun (wx : World) (hb : Below w.heap.size w wx) => svFits_any (h.new hb) hl hcp hg P B)
  have HF2 := Lib.hid (fun (wx : World) (hb : Below w.heap.size w wx) => r56Fits_any (h.new hb) hl hcp hg hr)
  obtain ⟨R, hR⟩ : ∃ o, fitsB P B L = o := ⟨_, rfl⟩
  rw [hR] at HF1 HF2
  have hbx : Below w.heap.size w (w.alloc (.cells #[.int .i64 P, .int .i64 B] 36)) := (Below.refl _ _).alloc (Nat.le_refl _) _
  have HBX := Lib.hid (HRg.out _ hbx)
  obtain ⟨n, hn⟩ : ∃ n, L.length = n := ⟨_, rfl⟩
  rw [hn] at HBb HC HSp HR HRr HF1 HF2 HBX hl hcp ⊢
  obtain ⟨sp, b, so, sc⟩ := S
  dsimp only at HBb HC HSp HR HRr HF1 HF2 HBX hcp ⊢
  have hcp2 : (n : Int) ≤ (sc : Int) := by omega
  obtain ⟨Z, hZ⟩ : ∃ Z, Z = w.heap.size := ⟨_, rfl⟩
  have HZ := Lib.hid hZ
  clear h hR hn hg hr hgg hbx HRg hl5
  have HL0 := Lib.hid (show 0 < n → b < w.heap.size from fun h0 => HBb.out h0)
  go_enter Try.func7, Try.ntmps7
  go_wp2_with (first
    | (go_at_call 19; refine (HRt.out _).mono ?_; rintro e w1 ⟨rfl, rfl⟩)
    | (go_at_call 27; refine (HBX.out).mono ?_; rintro e w1 ⟨rfl, b1⟩; have K1 := Lib.hid (CBx.of b1); clear b1)
    | fail)
  rw [← hZ]
  clear hZ
  go_loopg [5] n (fun g i wr => ∃ k : Nat, k + g = n ∧ i = .int .i64 (k : Nat) ∧ Aside (CBx w 36 (.int .i64 P) (.int .i64 B) wr))
  case atStart => exact ⟨0, by omega, rfl, K1.out⟩
  case round =>
    obtain ⟨k, hkg, rfl, HQ⟩ := hrel
    have HBl := Lib.hid HQ.out.bl
    have HRw := Lib.hid (show RowAt wr Z 36 #[.int .i64 P, .int .i64 B] by rw [HZ.out]; exact HQ.out.row)
    cases gk with
    | zero =>
      obtain rfl : k = n := by omega
      have HQd := Lib.hid HQ.out.dn
      go_upto_region 10 with fail
      clear HC HSp HR HRr HBb HL0
      rw [HZ.out]
      cases R
      all_goals
        (try dsimp only [List.append_eq, List.cons_append, List.nil_append])
        refine wp_region_class (C := CBx w 36 (.int .i64 P) (.int .i64 B)) (by kernel_rfl) (by kernel_rfl) (by kernel_rfl) HQd.out ?_
        repeat
          first
            | go_big_quiet_skip
            | (go_big_quiet_want
               first
                 | (apply quiet_enter
                    · intro wz
                      go_simp
                      exact ⟨rfl, rfl⟩
                    · intro wz hz
                      first
                        | (go_at_call 30; refine (HF1.out _ hz.bl).mono ?_; rintro e w' ⟨rfl, hbn⟩; exact ⟨rfl, hz.next hbn⟩)
                        | (go_at_call 31; refine (HF2.out _ hz.bl).mono ?_; rintro e w' ⟨rfl, hbn⟩; exact ⟨rfl, hz.next hbn⟩)
                        | (go_at_call 25; refine (HA.out _).mono ?_; rintro e w' ⟨rfl, hbn⟩; exact ⟨rfl, hz.next hbn⟩)
                        | fail)
                 | (apply quiet_run
                    · intro wz hz
                      have h0 : wz.cell? ⟨w.heap.size, 0, none⟩ = some (.int .i64 P) := hz.row.cell 0
                      have h1 : wz.cell? ⟨w.heap.size, 1, none⟩ = some (.int .i64 B) := hz.row.cell 1
                      go_simp
                      try with_reducible rfl)
               simp only [Act.put, List.setIfInBounds_toArray, List.set_cons_zero, List.set_cons_succ]
               go_big_quiet_on)
        refine wpQuiet_nil ?_
        intro w5 h5
        go_wp2
        go_ret
        exact ⟨rfl, h5.bl⟩
    | succ g1 =>
      have hk : k < n := by omega
      have hk2 : (k : Int) < (n : Int) := by omega
      have hk3 : (k : Int) ≤ (sc : Int) := by omega
      obtain rfl : sp = some ⟨b, so, none⟩ := HSp.out (by omega)
      obtain ⟨⟨d0, d1, d2⟩, d3, d4, d5, d6, d7, d8, d9, d10⟩ := HC.out wr HBl.out k hk
      have HD := Lib.hid (And.intro (fun (wx : World) (hb : Below w.heap.size w wx) => HR.out wx hb k hk) (fun (wx : World) (hb : Below w.heap.size w wx) => HRr.out wx hb k hk))
      obtain ⟨o, ho⟩ : ∃ o, fitAt P B L k = o := ⟨_, rfl⟩
      rw [ho] at HD
      clear ho
      obtain ⟨tp, htp⟩ : ∃ v, (L.getD k default).per = v := ⟨_, rfl⟩
      obtain ⟨td, htd⟩ : ∃ v, (L.getD k default).dl = v := ⟨_, rfl⟩
      obtain ⟨tc, htc⟩ : ∃ v, (L.getD k default).cost = v := ⟨_, rfl⟩
      rw [htp] at d0 HD
      rw [htd] at d1 HD
      rw [htc] at d2 HD
      clear htp htd htc
      obtain ⟨f0, hf0⟩ : ∃ v, lonK (L.getD k default) 0 = v := ⟨_, rfl⟩
      obtain ⟨f1, hf1⟩ : ∃ v, lonK (L.getD k default) 1 = v := ⟨_, rfl⟩
      obtain ⟨f2, hf2⟩ : ∃ v, lonK (L.getD k default) 2 = v := ⟨_, rfl⟩
      obtain ⟨f3, hf3⟩ : ∃ v, lonK (L.getD k default) 3 = v := ⟨_, rfl⟩
      obtain ⟨f4, hf4⟩ : ∃ v, lonK (L.getD k default) 4 = v := ⟨_, rfl⟩
      obtain ⟨f5, hf5⟩ : ∃ v, lonK (L.getD k default) 5 = v := ⟨_, rfl⟩
      obtain ⟨f6, hf6⟩ : ∃ v, lonK (L.getD k default) 6 = v := ⟨_, rfl⟩
      obtain ⟨f7, hf7⟩ : ∃ v, lonK (L.getD k default) 7 = v := ⟨_, rfl⟩
      rw [hf0] at d3 HD
      rw [hf1] at d4 HD
      rw [hf2] at d5 HD
      rw [hf3] at d6 HD
      rw [hf4] at d7 HD
      rw [hf5] at d8 HD
      rw [hf6] at d9 HD
      rw [hf7] at d10 HD
      clear hf0 hf1 hf2 hf3 hf4 hf5 hf6 hf7
      have HBD := Lib.hid (show Below w.heap.size w wr.drew from below_dn HBl.out 1)
      have HCD := Lib.hid (HD.out.1 wr.drew HBD.out)
      have hbb := HL0.out (by omega)
      have a0 : wr.cell? ⟨Z, 0, none⟩ = some (.int .i64 P) := HRw.out.cell 0
      have a1 : wr.cell? ⟨Z, 1, none⟩ = some (.int .i64 B) := HRw.out.cell 1
      have HK := Lib.hid (show ∀ w', Below wr.heap.size wr w' → (w'.cell? ⟨Z, 0, none⟩ = some (.int .i64 P) ∧ w'.cell? ⟨Z, 1, none⟩ = some (.int .i64 B) ∧ w'.cell? ⟨b, so + k * 11, none⟩ = some (.int .i64 tp) ∧ w'.cell? ⟨b, so + k * 11 + 1, none⟩ = some (.int .i64 td) ∧ w'.cell? ⟨b, so + k * 11 + 2, none⟩ = some (.int .i64 tc) ∧ w'.cell? ⟨b, so + k * 11 + 3, none⟩ = some (.int .i64 f0) ∧ w'.cell? ⟨b, so + k * 11 + 4, none⟩ = some (.int .i64 f1) ∧ w'.cell? ⟨b, so + k * 11 + 5, none⟩ = some (.int .i64 f2) ∧ w'.cell? ⟨b, so + k * 11 + 6, none⟩ = some (.int .i64 f3) ∧ w'.cell? ⟨b, so + k * 11 + 7, none⟩ = some (.int .i64 f4) ∧ w'.cell? ⟨b, so + k * 11 + 8, none⟩ = some (.int .i64 f5) ∧ w'.cell? ⟨b, so + k * 11 + 9, none⟩ = some (.int .i64 f6) ∧ w'.cell? ⟨b, so + k * 11 + 10, none⟩ = some (.int .i64 f7)) from fun w' hb => ⟨(HRw.out.new hb).cell 0, (HRw.out.new hb).cell 1, (hb.cell (Nat.lt_of_lt_of_le hbb HBl.out.size)).trans d0, (hb.cell (Nat.lt_of_lt_of_le hbb HBl.out.size)).trans d1, (hb.cell (Nat.lt_of_lt_of_le hbb HBl.out.size)).trans d2, (hb.cell (Nat.lt_of_lt_of_le hbb HBl.out.size)).trans d3, (hb.cell (Nat.lt_of_lt_of_le hbb HBl.out.size)).trans d4, (hb.cell (Nat.lt_of_lt_of_le hbb HBl.out.size)).trans d5, (hb.cell (Nat.lt_of_lt_of_le hbb HBl.out.size)).trans d6, (hb.cell (Nat.lt_of_lt_of_le hbb HBl.out.size)).trans d7, (hb.cell (Nat.lt_of_lt_of_le hbb HBl.out.size)).trans d8, (hb.cell (Nat.lt_of_lt_of_le hbb HBl.out.size)).trans d9, (hb.cell (Nat.lt_of_lt_of_le hbb HBl.out.size)).trans d10⟩)
      clear HC HSp HR HRr hbb
      go_upto_region 6 with fail
      go_region_held3 (fun w' => w'.cell? ⟨Z, 0, none⟩ = some (.int .i64 P) ∧ w'.cell? ⟨Z, 1, none⟩ = some (.int .i64 B) ∧ w'.cell? ⟨b, so + k * 11, none⟩ = some (.int .i64 tp) ∧ w'.cell? ⟨b, so + k * 11 + 1, none⟩ = some (.int .i64 td) ∧ w'.cell? ⟨b, so + k * 11 + 2, none⟩ = some (.int .i64 tc) ∧ w'.cell? ⟨b, so + k * 11 + 3, none⟩ = some (.int .i64 f0) ∧ w'.cell? ⟨b, so + k * 11 + 4, none⟩ = some (.int .i64 f1) ∧ w'.cell? ⟨b, so + k * 11 + 5, none⟩ = some (.int .i64 f2) ∧ w'.cell? ⟨b, so + k * 11 + 6, none⟩ = some (.int .i64 f3) ∧ w'.cell? ⟨b, so + k * 11 + 7, none⟩ = some (.int .i64 f4) ∧ w'.cell? ⟨b, so + k * 11 + 8, none⟩ = some (.int .i64 f5) ∧ w'.cell? ⟨b, so + k * 11 + 9, none⟩ = some (.int .i64 f6) ∧ w'.cell? ⟨b, so + k * 11 + 10, none⟩ = some (.int .i64 f7)) (first | exact ⟨a0, a1, d0, d1, d2, d3, d4, d5, d6, d7, d8, d9, d10⟩ | exact HK.out _ ((below_dn (Below.refl _ _) 1).trans bw) | go_keep)
        (first
          | (go_at_call 28; refine HCD.out.mono ?_; rintro e w5 ⟨rfl, bw⟩; have H5 := Lib.hid (And.intro (HBD.out.trans (bw.mono HBD.out.size)) ((below_dn (Below.refl _ wr) 1).trans bw)))
          | fail)
      clear a0 a1 d0 d1 d2 d3 d4 d5 d6 d7 d8 d9 d10 bw
      obtain ⟨a0, a1, d0, d1, d2, d3, d4, d5, d6, d7, d8, d9, d10⟩ := HK.out _ H5.out.2
      have HBD2 := Lib.hid (show Below w.heap.size w w5.drew from below_dn H5.out.1 1)
      have HCD2 := Lib.hid (HD.out.2 w5.drew HBD2.out)
      clear HCD HD
      go_upto_region 7 with fail
      go_region_held3 (fun w' => w'.cell? ⟨Z, 0, none⟩ = some (.int .i64 P) ∧ w'.cell? ⟨Z, 1, none⟩ = some (.int .i64 B) ∧ w'.cell? ⟨b, so + k * 11, none⟩ = some (.int .i64 tp) ∧ w'.cell? ⟨b, so + k * 11 + 1, none⟩ = some (.int .i64 td) ∧ w'.cell? ⟨b, so + k * 11 + 2, none⟩ = some (.int .i64 tc) ∧ w'.cell? ⟨b, so + k * 11 + 3, none⟩ = some (.int .i64 f0) ∧ w'.cell? ⟨b, so + k * 11 + 4, none⟩ = some (.int .i64 f1) ∧ w'.cell? ⟨b, so + k * 11 + 5, none⟩ = some (.int .i64 f2) ∧ w'.cell? ⟨b, so + k * 11 + 6, none⟩ = some (.int .i64 f3) ∧ w'.cell? ⟨b, so + k * 11 + 7, none⟩ = some (.int .i64 f4) ∧ w'.cell? ⟨b, so + k * 11 + 8, none⟩ = some (.int .i64 f5) ∧ w'.cell? ⟨b, so + k * 11 + 9, none⟩ = some (.int .i64 f6) ∧ w'.cell? ⟨b, so + k * 11 + 10, none⟩ = some (.int .i64 f7)) (first | exact ⟨a0, a1, d0, d1, d2, d3, d4, d5, d6, d7, d8, d9, d10⟩ | exact HK.out _ (H5.out.2.trans (((below_dn (Below.refl _ _) 1).trans bv).mono H5.out.2.size)) | go_keep)
        (first
          | (go_at_call 29; refine HCD2.out.mono ?_; rintro e w6 ⟨rfl, bv⟩; have H6 := Lib.hid (H5.out.2.trans (((below_dn (Below.refl _ w5) 1).trans bv).mono H5.out.2.size)))
          | fail)
      clear a0 a1 d0 d1 d2 d3 d4 d5 d6 d7 d8 d9 d10 bv
      have HQ2 := Lib.hid (HQ.out.next H6.out)
      obtain ⟨v, hv⟩ : ∃ v, wN o = v := ⟨_, rfl⟩
      rw [hv]
      have hvv : (v != v) = false := by simp
      clear hv
      cases o with
      | none =>
        go_wp2
        go_roundg g1
        case measure => omega
        case rel => exact ⟨k + 1, by omega, by go_num, HQ2.out⟩
      | some x =>
        go_wp2
        go_roundg g1
        case measure => omega
        case rel => exact ⟨k + 1, by omega, by go_num, HQ2.out⟩
end Go.Proofs.Ytmaackdfhmpicaa
