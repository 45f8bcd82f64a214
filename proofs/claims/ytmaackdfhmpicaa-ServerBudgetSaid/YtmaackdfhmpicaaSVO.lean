/- A server's response: the document's. -/
import Derived.Test.YtmaackdfhmpicaaSVN
import Derived.Test.YtmaackdfhmpicaaSVD
namespace Go.Proofs.Ytmaackdfhmpicaa
open Go.RowKit

theorem togW_good {P B c t : Int} {L : List Tm} (hg : ∀ x ∈ L, GoodT x) (hl : L.length ≤ 20) (h0 : 1 ≤ c) (h1 : c ≤ 400) (ht : 1 ≤ t) (ht2 : t ≤ 70000) : togW P B c L t = svW P B (c + valL L t) ∧ okL L t = true ∧ 0 ≤ valL L t ∧ valL L t ≤ 140002000000 := by
  obtain ⟨a, b, e⟩ := good_ok hg hl ht ht2
  refine ⟨?_, a, b, e⟩
  have hb : addB c (valL L t) = true := by simp only [addB, Bool.and_eq_true, numB_iff]; omega
  have hn : addN c (valL L t) = c + valL L t := by unfold addN; rw [if_pos (by simpa [addB] using hb)]
  unfold togW togB togN
  rw [a, hb, hn]
  rfl
theorem valL_mono {L : List Tm} {t u : Int} (hg : ∀ x ∈ L, GoodT x) (hl : L.length ≤ 20) (ht : 1 ≤ t) (hu : t ≤ u) (hu2 : u ≤ 70000) : valL L t ≤ valL L u :=
  (okL_down (good_ok hg hl (show 1 ≤ u by omega) hu2).1 (by omega) hu).2.2
theorem svW_big {P B w : Int} (h : 65536 < w) : svW P B w = none := by unfold svW; rw [if_pos (.inr (.inr h))]
theorem svW_pos {P B w n : Int} (_hr : svR P B = true) (h1 : 1 ≤ w) (h : svW P B w = some n) : n = svT P B w ∧ n ≤ 65536 ∧ w ≤ 65536 := by
  unfold svW at h
  split at h
  · cases h
  · rename_i hc
    rw [if_neg (by omega)] at h
    split at h
    · cases h
    · rename_i h2
      obtain rfl : svT P B w = n := by simpa using h
      exact ⟨rfl, by omega, by
        rcases Int.lt_or_le 65536 w with x | x
        · exact absurd (.inr (.inr x)) hc
        · exact x⟩
/-- What the document's rounds keep. -/
def RInv (P B c d : Int) (L : List Tm) (R : Option Int) (g : Nat) (t : Int) : Prop :=
  (rspG P B c d L g (some t) = R ∧ 402 ≤ t + g ∧ 1 ≤ t ∧ ∃ v, 1 ≤ v ∧ svT P B v = t ∧ v ≤ c + valL L t) ∨ (d < t ∧ R = none)
set_option maxHeartbeats 8000000 in
set_option maxRecDepth 100000 in
theorem r56Resp_any {w : World} {V : Nat → Prop} {S : Src} {L : List TaskM} (h : TksAt w V S L) (hl : L.length ≤ 20) (P B p d c : Int) (f : Nat → Int) (hd : d ≤ 400) (hr : svR P B = true) (hg : ∀ t ∈ L, tkB t = true) (hc1 : 1 ≤ c) (hc2 : c ≤ d) :
    Calls Try.prog 29 #[.int .i64 P, .int .i64 B, .agg #[.int .i64 p, .int .i64 d, .int .i64 c, .int .i64 (f 0), .int .i64 (f 1), .int .i64 (f 2), .int .i64 (f 3), .int .i64 (f 4), .int .i64 (f 5), .int .i64 (f 6), .int .i64 (f 7)], .slice S.sp L.length S.c] w fun e w' => e = .returned (.tuple #[.int .i64 (wN (rspS P B c d L)), .bool (rspS P B c d L).isSome]) ∧ Below w.heap.size w w' := by
  obtain ⟨i0, hi, hz0, hz1, hz2⟩ := info_parts (show (Try.prog.info? 73).map (fun i => (i.zero, i.size, i.bytes)) = some (some (.agg #[.int .i64 0, .int .i64 0, .int .i64 0, .int .i64 0]), 4, 32) from by kernel_rfl)
  have HC := Lib.hid (fun (wx : World) (hb : Below w.heap.size w wx) (k : Nat) (hk : k < L.length) => (h.new hb).cells hk)
  have HSp := Lib.hid (fun (h0 : 0 < L.length) => (h.sl.at_ h0).1)
  have HRow := Lib.hid (fun (k : Nat) (hk : k < L.length) => tkL_snoc L hk)
  obtain ⟨rf, hrf⟩ : ∃ rf : Nat → List Value, (fun k => tmRow (tkL (L.take k))) = rf := ⟨_, rfl⟩
  have HRf := Lib.hid (show ∀ k, tmRow (tkL (L.take k)) = rf k from fun k => by rw [← hrf])
  have HR0 := Lib.hid (show rf 0 = [] by rw [← hrf]; rfl)
  have HRn := Lib.hid (show rf L.length = tmRow (tkL L) by rw [← hrf]; simp)
  have HLL := Lib.hid (tkL_len L)
  have HW0 := Lib.hid (fun (v : Int) (h0 : 0 ≤ v) (h1 : v ≤ 65536) wx => r56Within_any hr h0 h1 wx)
  have HTog := Lib.hid (fun (wx : World) (V' : Nat → Prop) (S' : Src) (hT : TermsAt wx V' S' (tkL L)) (n : Int) => show Calls Try.prog 46 #[.slice S'.sp (tkL L).length S'.c, .int .i64 n] wx fun e w' => e = .returned (.tuple #[.int .i64 (valL (tkL L) n), .bool (okL (tkL L) n)]) ∧ Below wx.heap.size wx w' from rall_any hT (by rw [tkL_len]; omega) n)
  have HGood := Lib.hid (fun (t : Int) (h1 : 1 ≤ t) (h2 : t ≤ 70000) => togW_good (P := P) (B := B) (tk_good hg) (by rw [tkL_len]; exact hl) hc1 (by omega) h1 h2)
  have HMono := Lib.hid (fun (t u : Int) (h1 : 1 ≤ t) (h2 : t ≤ u) (h3 : u ≤ 70000) => valL_mono (tk_good hg) (by rw [tkL_len]; exact hl) h1 h2 h3)
  have HPos := Lib.hid (fun (w n : Int) => @svW_pos P B w n hr)
  have HTM := Lib.hid (fun (v u : Int) => @svT_mono P B v u hr)
  have HGe := Lib.hid (fun (w : Int) => @svT_ge P B w hr)
  have HR := Lib.hid (show rspS P B c d L = rspG P B c d (tkL L) 402 (svW P B c) from rfl)
  obtain ⟨LT, hLT⟩ : ∃ l, tkL L = l := ⟨_, rfl⟩
  rw [hLT] at HRn HLL HTog HR HGood HMono
  obtain ⟨R, hRR⟩ : ∃ o, rspS P B c d L = o := ⟨_, rfl⟩
  rw [hRR] at HR ⊢
  obtain ⟨n, hn⟩ : ∃ n, L.length = n := ⟨_, rfl⟩
  rw [hn] at HC HSp HRow HRn HLL hl ⊢
  obtain ⟨sp, b, so, sc⟩ := S
  dsimp only at HC HSp ⊢
  obtain ⟨Z, hZ⟩ : ∃ Z, Z = w.heap.size := ⟨_, rfl⟩
  have HZ := Lib.hid hZ
  clear h hrf hLT hRR hn hr hg
  go_enter Try.func29, Try.ntmps29
  go_upto_region 1 with fail
  rw [← hZ]
  generalize hw2 : World.alloc _ _ = w2
  have H2 := Lib.hid (show Below w.heap.size w w2 ∧ RowAt w2 Z 44 #[.int .i64 p, .int .i64 d, .int .i64 c, .int .i64 (f 0), .int .i64 (f 1), .int .i64 (f 2), .int .i64 (f 3), .int .i64 (f 4), .int .i64 (f 5), .int .i64 (f 6), .int .i64 (f 7)] ∧ w2.heap.size = Z + 1 by
    rw [← hw2, hZ]
    exact ⟨(Below.refl _ _).alloc (Nat.le_refl _) _, RowAt.mk _ _ _, by simp⟩)
  clear hw2 hZ
  go_wp2
  go_loopg [10, 11] n (fun g u i wr => ∃ k : Nat, k + g = n ∧ i = .int .i64 (k : Nat) ∧ Aside (Below (Z + 1) w2 wr ∧ wr.ownsRow (Z + 1) 73 4 u k (rf k)))
  case atStart => exact ⟨0, by omega, rfl, Below.refl _ _, by rw [HR0.out]; exact World.ownsRow_nil _ _ _ _⟩
  case round =>
    obtain ⟨k, hkg, rfl, HQ⟩ := hrel
    have HBl := Lib.hid (show Below w.heap.size w wr from H2.out.1.trans (HQ.out.1.mono (by have := HZ.out; omega)))
    cases gk with
    | zero =>
      obtain rfl : k = n := by omega
      obtain ⟨wo, rfl⟩ : ∃ wo : World, wo = wr := ⟨_, rfl⟩
      obtain ⟨ST, hST, hTT⟩ := own_terms (L := LT) (by rw [HLL.out, ← HRn.out]; exact HQ.out.2) (by rw [HLL.out]; omega)
      rw [HLL.out] at hST
      obtain rfl := hST
      have HTg := Lib.hid (fun (wx : World) (hb : Below wo.heap.size wo wx) (n : Int) => HTog.out wx _ ST (hTT.new hb) n)
      rw [HLL.out] at HTg
      obtain ⟨tsp, htsp⟩ : ∃ v, ST.sp = v := ⟨_, rfl⟩
      obtain ⟨tcp, htcp⟩ : ∃ v, ST.c = v := ⟨_, rfl⟩
      rw [htsp, htcp] at HTg
      rw [htsp, htcp]
      have HB := Lib.hid (show RowAt wo Z 44 #[.int .i64 p, .int .i64 d, .int .i64 c, .int .i64 (f 0), .int .i64 (f 1), .int .i64 (f 2), .int .i64 (f 3), .int .i64 (f 4), .int .i64 (f 5), .int .i64 (f 6), .int .i64 (f 7)] from H2.out.2.1.new (by rw [H2.out.2.2]; exact HQ.out.1))
      have a2 : wo.cell? ⟨Z, 2, none⟩ = some (.int .i64 c) := HB.out.cell 2
      have HSz := Lib.hid (show Z + 1 ≤ wo.heap.size by have := HQ.out.1.size; have := H2.out.2.2; omega)
      have HWc := Lib.hid (fun wx => HW0.out c (by omega) (by omega) wx)
      have HSt := Lib.hid (show ((svW P B c).isSome = true → RInv P B c d LT R 402 (wN (svW P B c))) ∧ ((svW P B c).isSome = false → R = none) by
        cases ho : svW P B c with
        | none => exact ⟨fun h => absurd h (by simp), fun _ => by rw [HR.out, ho]; exact rspG_none _ _ _ _ _ _⟩
        | some n =>
          obtain ⟨e1, e2, e3⟩ := HPos.out c n hc1 ho
          have := HGe.out c hc1
          have g1 := HGood.out n (by omega) (by omega)
          exact ⟨fun _ => .inl ⟨by rw [HR.out, ho]; rfl, by show 402 ≤ n + 402; omega, by show 1 ≤ n; omega, c, hc1, e1.symm, by show c ≤ c + valL LT n; omega⟩, fun h => absurd h (by simp)⟩)
      obtain ⟨t0, ht0⟩ : ∃ v, wN (svW P B c) = v := ⟨_, rfl⟩
      obtain ⟨k0, hk0⟩ : ∃ v, (svW P B c).isSome = v := ⟨_, rfl⟩
      rw [ht0, hk0] at HWc HSt
      clear hTT htsp htcp ht0 hk0 HTog HC HSp HRow HRf HR0 HRn hi hz0 hz1 hz2
      cases k0 with
      | false =>
        have HE := Lib.hid (HSt.out.2 rfl)
        go_upto_region 7 with (first
          | (go_at_call 26; refine (HWc.out _).mono ?_; rintro e w3 ⟨rfl, rfl⟩; clear a2)
          | fail)
        go_loopg [12] 402 (fun g u wq => ∃ t : Int, u = .int .i64 t ∧ Aside (Below wo.heap.size wo wq))
        case atStart => exact ⟨t0, rfl, Below.refl _ _⟩
        case round =>
          obtain ⟨t, rfl, HI⟩ := hrel
          go_wp2
          go_ret2
          exact ⟨by rw [HE.out]; rfl, HBl.out.trans (HI.out.mono HBl.out.size)⟩
      | true =>
        have HSt2 := Lib.hid (HSt.out.1 rfl)
        clear HSt
        go_upto_region 7 with (first
          | (go_at_call 26; refine (HWc.out _).mono ?_; rintro e w3 ⟨rfl, rfl⟩; clear a2)
          | fail)
        go_loopg [12] 402 (fun g u wq => ∃ t : Int, u = .int .i64 t ∧ Aside (RInv P B c d LT R g t ∧ Below wo.heap.size wo wq))
        case atStart => exact ⟨t0, rfl, HSt2.out, Below.refl _ _⟩
        case round =>
          obtain ⟨t, rfl, HI⟩ := hrel
          have HBq := Lib.hid (show Below w.heap.size w wr from HBl.out.trans (HI.out.2.mono HBl.out.size))
          have k2 : wr.cell? ⟨Z, 1, none⟩ = some (.int .i64 d) := (HB.out.new HI.out.2).cell 1
          by_cases htd : t ≤ d
          · cases gk with
            | zero =>
              rcases HI.out.1 with ⟨-, h2, -⟩ | ⟨h2, -⟩ <;> omega
            | succ g1 =>
              obtain ⟨s1, s2, s3, v, s4, s5, s6⟩ : rspG P B c d LT (g1 + 1) (some t) = R ∧ 402 ≤ t + ((g1 + 1 : Nat) : Int) ∧ 1 ≤ t ∧ ∃ v, 1 ≤ v ∧ svT P B v = t ∧ v ≤ c + valL LT t := by
                rcases HI.out.1 with h | ⟨h2, -⟩
                · exact h
                · omega
              rw [rspG_some, if_pos htd] at s1
              obtain ⟨m1, m2, m3, m4⟩ := HGood.out t s3 (by omega)
              rw [m1] at s1
              have HT1 := Lib.hid (HTg.out wr HI.out.2 t)
              rw [m2] at HT1
              have HMo := Lib.hid (fun (u : Int) => HMono.out t u s3)
              obtain ⟨y, hy⟩ : ∃ y, valL LT t = y := ⟨_, rfl⟩
              rw [hy] at s1 s6 m3 m4 HT1 HMo
              have HS5 := Lib.hid s5
              have k3 : ∀ wx, Below wr.heap.size wr wx → wx.cell? ⟨Z, 2, none⟩ = some (.int .i64 c) := fun wx hb => (HB.out.new (HI.out.2.trans (hb.mono HI.out.2.size))).cell 2
              have HK3 := Lib.hid k3
              clear m1 m2 hy s5 HTg k3
              by_cases hbig : 65536 < y + c
              · have HRN := Lib.hid (show R = none by rw [← s1, svW_big (show 65536 < c + y by omega)])
                have HWb := Lib.hid (fun wx => HW0.out 65536 (by omega) (by omega) wx)
                have HPb := Lib.hid (show ∀ n, svW P B 65536 = some n → t < n ∧ d < n from fun n hn => by
                  obtain ⟨e1, -, -⟩ := HPos.out 65536 n (by omega) hn
                  have := HTM.out v 65536 s4 (by have := HGe.out v s4; have := HS5.out; omega)
                  have h7 := HGe.out 65536 (by omega)
                  omega)
                obtain ⟨o, ho⟩ : ∃ o, svW P B 65536 = o := ⟨_, rfl⟩
                rw [ho] at HWb HPb
                clear ho s1 s2 s4 s6 HMo HS5
                cases o with
                | none =>
                  rw [show wN none = 0 from rfl] at HWb
                  go_wp2_with (first
                    | (go_at_call 46; refine HT1.out.mono ?_; rintro e w5 ⟨rfl, b5⟩; have H5 := Lib.hid b5; have k3 := HK3.out _ b5; clear b5)
                    | (go_at_call 26; refine (HWb.out _).mono ?_; rintro e w6 ⟨rfl, rfl⟩)
                    | fail)
                  go_ret2
                  exact ⟨by rw [HRN.out]; rfl, HBq.out.trans (H5.out.mono HBq.out.size)⟩
                | some n =>
                  rw [show wN (some n) = n from rfl] at HWb
                  obtain ⟨n1, n2⟩ := HPb.out n rfl
                  have hnt : ¬ n ≤ t := by omega
                  clear n1
                  have HN2 := Lib.hid n2
                  clear n2
                  go_wp2_with (first
                    | (go_at_call 46; refine HT1.out.mono ?_; rintro e w5 ⟨rfl, b5⟩; have H5 := Lib.hid b5; have k3 := HK3.out _ b5; clear b5)
                    | (go_at_call 26; refine (HWb.out _).mono ?_; rintro e w6 ⟨rfl, rfl⟩)
                    | fail)
                  go_roundg g1
                  case measure => omega
                  case rel => exact ⟨n, rfl, .inr ⟨HN2.out, HRN.out⟩, HI.out.2.trans (H5.out.mono HI.out.2.size)⟩
              · have HWb := Lib.hid (fun wx => HW0.out (y + c) (by omega) (by omega) wx)
                have HPb := Lib.hid (show ∀ n, svW P B (y + c) = some n → t ≤ n ∧ 1 ≤ n ∧ n ≤ 65536 ∧ svT P B (y + c) = n from fun n hn => by
                  obtain ⟨e1, e2, -⟩ := HPos.out (y + c) n (by omega) hn
                  have := HTM.out v (y + c) s4 (by omega)
                  have := HS5.out
                  omega)
                rw [show c + y = y + c by omega] at s1
                obtain ⟨o, ho⟩ : ∃ o, svW P B (y + c) = o := ⟨_, rfl⟩
                rw [ho] at HWb HPb s1
                clear ho HS5
                cases o with
                | none =>
                  rw [show wN none = 0 from rfl] at HWb
                  have HRN := Lib.hid (show R = none from s1.symm)
                  clear s1 s2 s4 s6 HMo
                  go_wp2_with (first
                    | (go_at_call 46; refine HT1.out.mono ?_; rintro e w5 ⟨rfl, b5⟩; have H5 := Lib.hid b5; have k3 := HK3.out _ b5; clear b5)
                    | (go_at_call 26; refine (HWb.out _).mono ?_; rintro e w6 ⟨rfl, rfl⟩)
                    | fail)
                  go_ret2
                  exact ⟨by rw [HRN.out]; rfl, HBq.out.trans (H5.out.mono HBq.out.size)⟩
                | some n =>
                  rw [show wN (some n) = n from rfl] at HWb
                  obtain ⟨n1, n2, n3, n4⟩ := HPb.out n rfl
                  by_cases hnt : n ≤ t
                  · have HRN := Lib.hid (show R = some t by rw [← s1]; simp only [if_pos hnt]; rw [show n = t by omega])
                    clear s1 s2 s4 s6 HMo n1 n2 n3 n4
                    go_wp2_with (first
                      | (go_at_call 46; refine HT1.out.mono ?_; rintro e w5 ⟨rfl, b5⟩; have H5 := Lib.hid b5; have k3 := HK3.out _ b5; clear b5)
                      | (go_at_call 26; refine (HWb.out _).mono ?_; rintro e w6 ⟨rfl, rfl⟩)
                      | fail)
                    go_ret2
                    exact ⟨by rw [HRN.out]; rfl, HBq.out.trans (H5.out.mono HBq.out.size)⟩
                  · have HRN := Lib.hid (show RInv P B c d LT R g1 n from .inl ⟨by simp only [if_neg hnt] at s1; exact s1, by omega, n2, y + c, by omega, n4, by have := HMo.out n n1 (by omega); omega⟩)
                    clear s1 s2 s4 s6 HMo n1 n2 n3 n4
                    go_wp2_with (first
                      | (go_at_call 46; refine HT1.out.mono ?_; rintro e w5 ⟨rfl, b5⟩; have H5 := Lib.hid b5; have k3 := HK3.out _ b5; clear b5)
                      | (go_at_call 26; refine (HWb.out _).mono ?_; rintro e w6 ⟨rfl, rfl⟩)
                      | fail)
                    go_roundg g1
                    case measure => omega
                    case rel => exact ⟨n, rfl, HRN.out, HI.out.2.trans (H5.out.mono HI.out.2.size)⟩
          · have HE := Lib.hid (show R = none by
              rcases HI.out.1 with ⟨h1, -⟩ | ⟨-, h1⟩
              · cases gk with
                | zero => exact h1.symm
                | succ g1 => rw [rspG_some, if_neg htd] at h1; exact h1.symm
              · exact h1)
            go_wp2
            go_ret2
            exact ⟨by rw [HE.out]; rfl, HBq.out⟩
    | succ g1 =>
      have hk : k < n := by omega
      have hk2 : (k : Int) < (n : Int) := by omega
      obtain rfl : sp = some ⟨b, so, none⟩ := HSp.out (by omega)
      have HRk := Lib.hid (show rf (k + 1) = rf k ++ [.int .i64 (L.getD k default).per, .int .i64 (L.getD k default).cost, .int .i64 0, .int .i64 0] by
        have := HRow.out k hk
        rw [HRf.out, HRf.out] at this
        exact this)
      obtain ⟨-, ⟨q0, -, q2⟩, -⟩ := HC.out wr HBl.out k hk
      obtain ⟨tp, htp⟩ : ∃ v, (L.getD k default).per = v := ⟨_, rfl⟩
      obtain ⟨tc, htc⟩ : ∃ v, (L.getD k default).cost = v := ⟨_, rfl⟩
      rw [htp] at HRk q0
      rw [htc] at HRk q2
      have HSz := Lib.hid (show Z + 1 ≤ wr.heap.size by have := HQ.out.1.size; have := H2.out.2.2; omega)
      have hSb : b < Z + 1 := by
        obtain ⟨-, ⟨h0, -, -⟩, -⟩ := HC.out w (Below.refl _ _) k hk
        have h1 := World.block_lt_of_cell? w _ h0
        have := HZ.out; simp only at h1; omega
      have HCe := Lib.hid (show ∀ w', Below (Z + 1) wr w' → (w'.cell? ⟨b, so + k * 11, none⟩ = some (.int .i64 tp) ∧ w'.cell? ⟨b, so + k * 11 + 2, none⟩ = some (.int .i64 tc)) from fun w' hb => ⟨(hb.cell hSb).trans q0, (hb.cell hSb).trans q2⟩)
      clear htp htc q0 q2 hSb
      obtain ⟨sp', cap, rfl⟩ := own_val HQ.out.2
      go_upto_region 5 with fail
      have HQ2 := Lib.hid (show Below (Z + 1) w2 wr.drew ∧ wr.drew.ownsRow (Z + 1) 73 4 (.slice sp' k cap) k (rf k) from ⟨below_dn HQ.out.1 1, HQ.out.2⟩)
      refine wp_region_held_drew (S := fun w' => Below (Z + 1) wr w') (by kernel_rfl) (below_dn (Below.refl _ _) 1) (fun hS => ?_)
      refine wpAnyH_take (i := 0) (oi := { dst := some 24, op := .move (.tmp 10), type := 72, pos := "ref.go:49", after := #[], guard := none }) (v := ?_) rfl (by kernel_rfl) (by kernel_rfl) (by kernel_rfl) (fun _ _ _ h => h) (Or.inl ⟨by rfl, ?_⟩) hS ?_
      rotate_left 1
      · intro w hw; obtain hs := hw; go_simp; try (with_reducible rfl)
      simp only [Act.put, List.setIfInBounds_toArray, List.set_cons_zero, List.set_cons_succ]
      refine wpAnyH_take (i := 1) (oi := { dst := some 25, op := .move (.tmp 3), type := 22, pos := "ref.go:49", after := #[], guard := none }) (v := ?_) rfl (by kernel_rfl) (by kernel_rfl) (by kernel_rfl) (fun _ _ _ h => h) (Or.inl ⟨by rfl, ?_⟩) hS ?_
      rotate_left 1
      · intro w hw; obtain hs := hw; go_simp; try (with_reducible rfl)
      simp only [Act.put, List.setIfInBounds_toArray, List.set_cons_zero, List.set_cons_succ]
      refine wpAnyH_take (i := 2) (oi := { dst := some 26, op := .move (.tmp 11), type := 3, pos := "ref.go:49", after := #[], guard := none }) (v := ?_) rfl (by kernel_rfl) (by kernel_rfl) (by kernel_rfl) (fun _ _ _ h => h) (Or.inl ⟨by rfl, ?_⟩) hS ?_
      rotate_left 1
      · intro w hw; obtain hs := hw; go_simp; try (with_reducible rfl)
      simp only [Act.put, List.setIfInBounds_toArray, List.set_cons_zero, List.set_cons_succ]
      refine wpAnyH_take (i := 3) (oi := { dst := some 27, op := .indexAddr 22 (.tmp 25) (.tmp 26), type := 0, pos := "ref.go:49", after := #[{ on := 1, ground := .data }, { on := 2, ground := .data }], guard := none }) (v := ?_) rfl (by kernel_rfl) (by kernel_rfl) (by kernel_rfl) (fun _ _ _ h => h) (Or.inl ⟨by rfl, ?_⟩) hS ?_
      rotate_left 1
      · intro w hw; obtain hs := hw; obtain ⟨k0, k1⟩ := HCe.out _ hw; go_simp; try (with_reducible rfl)
      simp only [Act.put, List.setIfInBounds_toArray, List.set_cons_zero, List.set_cons_succ]
      refine wpAnyH_take (i := 4) (oi := { dst := some 28, op := .fieldAddr 44 (.tmp 27) 0, type := 0, pos := "ref.go:49", after := #[{ on := 3, ground := .data }], guard := none }) (v := ?_) rfl (by kernel_rfl) (by kernel_rfl) (by kernel_rfl) (fun _ _ _ h => h) (Or.inl ⟨by rfl, ?_⟩) hS ?_
      rotate_left 1
      · intro w hw; obtain hs := hw; go_simp; try (with_reducible rfl)
      simp only [Act.put, List.setIfInBounds_toArray, List.set_cons_zero, List.set_cons_succ]
      refine wpAnyH_take (i := 5) (oi := { dst := some 29, op := .load 3 (.tmp 28), type := 3, pos := "ref.go:49", after := #[{ on := 4, ground := .data }], guard := none }) (v := ?_) rfl (by kernel_rfl) (by kernel_rfl) (by kernel_rfl) (fun _ _ _ h => h) (Or.inl ⟨by rfl, ?_⟩) hS ?_
      rotate_left 1
      · intro w hw; obtain hs := hw; obtain ⟨k0, k1⟩ := HCe.out _ hw; go_simp; try (with_reducible rfl)
      simp only [Act.put, List.setIfInBounds_toArray, List.set_cons_zero, List.set_cons_succ]
      refine wpAnyH_take (i := 6) (oi := { dst := some 30, op := .move (.tmp 3), type := 22, pos := "ref.go:49", after := #[], guard := none }) (v := ?_) rfl (by kernel_rfl) (by kernel_rfl) (by kernel_rfl) (fun _ _ _ h => h) (Or.inl ⟨by rfl, ?_⟩) hS ?_
      rotate_left 1
      · intro w hw; obtain hs := hw; go_simp; try (with_reducible rfl)
      simp only [Act.put, List.setIfInBounds_toArray, List.set_cons_zero, List.set_cons_succ]
      refine wpAnyH_take (i := 7) (oi := { dst := some 31, op := .move (.tmp 11), type := 3, pos := "ref.go:49", after := #[], guard := none }) (v := ?_) rfl (by kernel_rfl) (by kernel_rfl) (by kernel_rfl) (fun _ _ _ h => h) (Or.inl ⟨by rfl, ?_⟩) hS ?_
      rotate_left 1
      · intro w hw; obtain hs := hw; go_simp; try (with_reducible rfl)
      simp only [Act.put, List.setIfInBounds_toArray, List.set_cons_zero, List.set_cons_succ]
      refine wpAnyH_take (i := 8) (oi := { dst := some 32, op := .indexAddr 22 (.tmp 30) (.tmp 31), type := 0, pos := "ref.go:49", after := #[{ on := 6, ground := .data }, { on := 7, ground := .data }], guard := none }) (v := ?_) rfl (by kernel_rfl) (by kernel_rfl) (by kernel_rfl) (fun _ _ _ h => h) (Or.inl ⟨by rfl, ?_⟩) hS ?_
      rotate_left 1
      · intro w hw; obtain hs := hw; obtain ⟨k0, k1⟩ := HCe.out _ hw; go_simp; try (with_reducible rfl)
      simp only [Act.put, List.setIfInBounds_toArray, List.set_cons_zero, List.set_cons_succ]
      refine wpAnyH_take (i := 9) (oi := { dst := some 33, op := .fieldAddr 44 (.tmp 32) 2, type := 0, pos := "ref.go:49", after := #[{ on := 8, ground := .data }], guard := none }) (v := ?_) rfl (by kernel_rfl) (by kernel_rfl) (by kernel_rfl) (fun _ _ _ h => h) (Or.inl ⟨by rfl, ?_⟩) hS ?_
      rotate_left 1
      · intro w hw; obtain hs := hw; go_simp; try (with_reducible rfl)
      simp only [Act.put, List.setIfInBounds_toArray, List.set_cons_zero, List.set_cons_succ]
      refine wpAnyH_take (i := 10) (oi := { dst := some 34, op := .load 3 (.tmp 33), type := 3, pos := "ref.go:49", after := #[{ on := 9, ground := .data }], guard := none }) (v := ?_) rfl (by kernel_rfl) (by kernel_rfl) (by kernel_rfl) (fun _ _ _ h => h) (Or.inl ⟨by rfl, ?_⟩) hS ?_
      rotate_left 1
      · intro w hw; obtain hs := hw; obtain ⟨k0, k1⟩ := HCe.out _ hw; go_simp; try (with_reducible rfl)
      simp only [Act.put, List.setIfInBounds_toArray, List.set_cons_zero, List.set_cons_succ]
      refine wpAnyH_take (i := 11) (oi := { dst := some 35, op := .build 73 #[(0, .tmp 29), (1, .tmp 34)], type := 73, pos := "ref.go:49", after := #[{ on := 5, ground := .data }, { on := 10, ground := .data }], guard := none }) (v := ?_) rfl (by kernel_rfl) (by kernel_rfl) (by kernel_rfl) (fun _ _ _ h => h) (Or.inl ⟨by rfl, ?_⟩) hS ?_
      rotate_left 1
      · intro w hw; obtain hs := hw; go_simp; try (with_reducible rfl)
      simp only [Act.put, List.setIfInBounds_toArray, List.set_cons_zero, List.set_cons_succ]
      refine wpAnyH_ready (rs := [12]) (by kernel_rfl) (by simp) (AllReadyH.cons (o := { dst := some 36, op := .buildSlice 72 1 #[(0, .tmp 35)], type := 72, pos := "ref.go:49", after := #[{ on := 11, ground := .data }], guard := none }) rfl (fun K hK => ?_) AllReadyH.nil)
      go_simp
      refine hK.out _ _ (((below_dn (Below.refl _ _) 1)).alloc (by have := HSz.out; simp; omega) _) (fun hHeld => ?_)
      clear hK K
      try simp only [Act.put, List.setIfInBounds_toArray, List.set_cons_zero, List.set_cons_succ]
      refine wpAnyH_ready (rs := [13]) (by kernel_rfl) (by simp) (AllReadyH.cons (o := { dst := some 37, op := .call { callee := .builtin .append, args := #[.tmp 24, .tmp 36], argTypes := #[72, 72] }, type := 72, pos := "ref.go:49", after := #[{ on := 0, ground := .data }, { on := 12, ground := .data }], guard := none }) rfl (fun K hK => ?_) AllReadyH.nil)
      rw [if_pos (by rfl)]
      refine wp_append_vary (.tmp 24) (.tmp 36) 72 (by rfl) (Z + 1) 73 i0 (.agg #[.int .i64 0, .int .i64 0, .int .i64 0, .int .i64 0]) 4 32 Try.underlying72 hi hz0 hz1 hz2 rfl (by decide) (.slice sp' k cap) k _ (by rfl) (HQ2.out.2.alloc _) (some ⟨wr.drew.heap.size, 0, none⟩) 1 1 [.int .i64 tp, .int .i64 tc, .int .i64 0, .int .i64 0] (by rfl) rfl (fun h => nomatch h) (fun ad h => by obtain rfl := Option.some.inj h; exact four_newS _ _ _ _ _ _) (by simp [Value.oneCell']) (by unfold maxLen; omega) (by omega) (by have h1 := HSz.out; show Z + 1 ≤ (wr.alloc _).heap.size; rw [World.size_alloc]; omega) ?_
      intro v' w4 hown' hgrow hat
      obtain ⟨sp2, cap', rfl⟩ := own_val hown'
      have H8 := Lib.hid (show Below (Z + 1) wr w4 from Below.grown hHeld hgrow (by have h1 := HSz.out; show Z + 1 ≤ (wr.alloc _).heap.size; rw [World.size_alloc]; omega) (own_ge HQ.out.2))
      have H9 := Lib.hid hown'
      clear hown' hgrow hat
      refine hK.out _ _ H8.out (fun hHeld => ?_)
      clear hK K
      try simp only [Act.put, List.setIfInBounds_toArray, List.set_cons_zero, List.set_cons_succ]
      refine wpAnyH_ready (rs := [14]) (by kernel_rfl) (by simp) (AllReadyH.cons (o := { dst := some 10, op := .assign (.tmp 37), type := 72, pos := "ref.go:49", after := #[{ on := 13, ground := .data }, { on := 13, ground := .chain }, { on := 0, ground := .phase }, { on := 1, ground := .phase }, { on := 2, ground := .phase }, { on := 3, ground := .phase }, { on := 4, ground := .phase }, { on := 5, ground := .phase }, { on := 6, ground := .phase }, { on := 7, ground := .phase }, { on := 8, ground := .phase }, { on := 9, ground := .phase }, { on := 10, ground := .phase }, { on := 11, ground := .phase }, { on := 12, ground := .phase }, { on := 13, ground := .phase }], guard := none }) rfl (fun K hK => ?_) AllReadyH.nil)
      go_simp
      refine hK.out _ _ H8.out (fun hHeld => ?_)
      clear hK K
      try simp only [Act.put, List.setIfInBounds_toArray, List.set_cons_zero, List.set_cons_succ]
      refine wpAnyH_done (by kernel_rfl) ?_ _

      go_wp2
      go_roundg g1
      case measure => omega
      case rel => exact ⟨k + 1, by omega, by go_num, HQ.out.1.trans H8.out, by rw [HRk.out]; exact H9.out⟩
end Go.Proofs.Ytmaackdfhmpicaa
