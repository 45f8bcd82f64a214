/- A server's response: the chapter's. -/
import Derived.Test.YtmaackdfhmpicaaSVI
import Derived.Test.YtmaackdfhmpicaaSVE
import Derived.Deep.DeepMust
namespace Go.Proofs.Ytmaackdfhmpicaa
open Go.RowKit

theorem svW_nn {P B v n : Int} (h : svW P B v = some n) : 0 ≤ n := by
  unfold svW at h
  split at h
  · cases h
  · rename_i hc
    split at h
    · obtain rfl : 0 = n := by simpa using h
      exact Int.le_refl _
    · split at h
      · cases h
      · obtain rfl : svT P B v = n := by simpa using h
        have := (svT_good (P := P) (B := B) (w := v) (by cases hr : svR P B with
          | true => rfl
          | false => exact absurd (.inl hr) hc) (by omega)).2.2.1
        omega
theorem rspG_none (P B own D : Int) (L : List Tm) (g : Nat) : rspG P B own D L g none = none := by cases g <;> rfl
theorem rspG_some (P B own D : Int) (L : List Tm) (g : Nat) (n : Int) : rspG P B own D L (g + 1) (some n) = if n ≤ D then (match togW P B own L n with
    | none => none
    | some m => if m ≤ n then some m else rspG P B own D L g (some m)) else none := rfl
theorem four_newS (A : World) (x y z u : Value) (t : TypeId) : ∀ j v, [x, y, z, u][j]? = some v → (A.alloc (.cells #[x, y, z, u] t)).cell? ((⟨A.heap.size, 0, none⟩ : Addr).add j) = some v := by
  intro j v hv
  rw [Addr.add_lit]
  have := (RowAt.mk A t #[x, y, z, u]).cell (0 + j)
  refine this.trans ?_
  rcases j with _ | _ | _ | _ | j
  · exact hv
  · exact hv
  · exact hv
  · exact hv
  · exact hv
set_option maxHeartbeats 8000000 in
set_option maxRecDepth 100000 in
theorem svResp_any {w : World} {V : Nat → Prop} {S : Src} {L : List TaskM} (h : TksAt w V S L) (hl : L.length ≤ 20) (P B p d c : Int) (f : Nat → Int) (hd : d ≤ 400) :
    Calls Try.prog 28 #[.agg #[.int .i64 P, .int .i64 B], .agg #[.int .i64 p, .int .i64 d, .int .i64 c, .int .i64 (f 0), .int .i64 (f 1), .int .i64 (f 2), .int .i64 (f 3), .int .i64 (f 4), .int .i64 (f 5), .int .i64 (f 6), .int .i64 (f 7)], .slice S.sp L.length S.c] w fun e w' => e = .returned (.tuple #[.int .i64 (wN (rspS P B c d L)), .bool (rspS P B c d L).isSome]) ∧ Below w.heap.size w w' := by
  obtain ⟨i0, hi, hz0, hz1, hz2⟩ := info_parts (show (Try.prog.info? 69).map (fun i => (i.zero, i.size, i.bytes)) = some (some (.agg #[.int .i64 0, .int .i64 0, .int .i64 0, .int .i64 0]), 4, 32) from by kernel_rfl)
  have HC := Lib.hid (fun (wx : World) (hb : Below w.heap.size w wx) (k : Nat) (hk : k < L.length) => (h.new hb).cells hk)
  have HSp := Lib.hid (fun (h0 : 0 < L.length) => (h.sl.at_ h0).1)
  have HRow := Lib.hid (fun (k : Nat) (hk : k < L.length) => tkL_snoc L hk)
  obtain ⟨rf, hrf⟩ : ∃ rf : Nat → List Value, (fun k => tmRow (tkL (L.take k))) = rf := ⟨_, rfl⟩
  have HRf := Lib.hid (show ∀ k, tmRow (tkL (L.take k)) = rf k from fun k => by rw [← hrf])
  have HR0 := Lib.hid (show rf 0 = [] by rw [← hrf]; rfl)
  have HRn := Lib.hid (show rf L.length = tmRow (tkL L) by rw [← hrf]; simp)
  have HLL := Lib.hid (tkL_len L)
  have HW0 := Lib.hid (fun wx => svWithin_any P B c wx)
  have HTog := Lib.hid (fun (wx : World) (V' : Nat → Prop) (S' : Src) (hT : TermsAt wx V' S' (tkL L)) (n : Int) => svtog_any hT (by rw [tkL_len]; omega) P B c n)
  have HR := Lib.hid (show rspS P B c d L = rspG P B c d (tkL L) 402 (svW P B c) from rfl)
  obtain ⟨LT, hLT⟩ : ∃ l, tkL L = l := ⟨_, rfl⟩
  rw [hLT] at HRn HLL HTog HR
  obtain ⟨R, hRR⟩ : ∃ o, rspS P B c d L = o := ⟨_, rfl⟩
  rw [hRR] at HR ⊢
  obtain ⟨n, hn⟩ : ∃ n, L.length = n := ⟨_, rfl⟩
  rw [hn] at HC HSp HRow HRn HLL hl ⊢
  obtain ⟨sp, b, so, sc⟩ := S
  dsimp only at HC HSp ⊢
  obtain ⟨Z, hZ⟩ : ∃ Z, Z = w.heap.size := ⟨_, rfl⟩
  have HZ := Lib.hid hZ
  clear h hrf hLT hRR hn
  go_enter Try.func28, Try.ntmps28
  go_upto_region 1 with fail
  rw [← hZ]
  generalize hw2 : World.alloc _ _ = w2
  have H2 := Lib.hid (show Below w.heap.size w w2 ∧ RowAt w2 Z 36 #[.int .i64 P, .int .i64 B] ∧ RowAt w2 (Z + 1) 44 #[.int .i64 p, .int .i64 d, .int .i64 c, .int .i64 (f 0), .int .i64 (f 1), .int .i64 (f 2), .int .i64 (f 3), .int .i64 (f 4), .int .i64 (f 5), .int .i64 (f 6), .int .i64 (f 7)] ∧ w2.heap.size = Z + 2 by
    rw [← hw2, hZ]
    have e1 := RowAt.mk w 36 #[.int .i64 P, .int .i64 B]
    have e2 := RowAt.mk (w.alloc (.cells #[.int .i64 P, .int .i64 B] 36)) 44 #[.int .i64 p, .int .i64 d, .int .i64 c, .int .i64 (f 0), .int .i64 (f 1), .int .i64 (f 2), .int .i64 (f 3), .int .i64 (f 4), .int .i64 (f 5), .int .i64 (f 6), .int .i64 (f 7)]
    rw [World.size_alloc] at e2
    exact ⟨((Below.refl _ _).alloc (Nat.le_refl _) _).alloc (by simp) _, e1.new ((Below.refl _ _).alloc (Nat.le_refl _) _), e2, by simp⟩)
  clear hw2 hZ
  go_wp2
  go_loopg [8, 17] n (fun g u i wr => ∃ k : Nat, k + g = n ∧ i = .int .i64 (k : Nat) ∧ Aside (Below (Z + 2) w2 wr ∧ wr.ownsRow (Z + 2) 69 4 u k (rf k)))
  case atStart => exact ⟨0, by omega, rfl, Below.refl _ _, by rw [HR0.out]; exact World.ownsRow_nil _ _ _ _⟩
  case round =>
    obtain ⟨k, hkg, rfl, HQ⟩ := hrel
    have HBl := Lib.hid (show Below w.heap.size w wr from H2.out.1.trans (HQ.out.1.mono (by have := HZ.out; omega)))
    cases gk with
    | zero =>
      obtain rfl : k = n := by omega
      obtain ⟨wo, rfl⟩ : ∃ wo : World, wo = wr := ⟨_, rfl⟩
      obtain ⟨ST, hST, hTT⟩ := own_terms (L := LT) (by rw [HLL.out, ← HRn.out]; exact HQ.out.2) (by rw [HLL.out]; omega)
      rw [HLL.out] at hST
      obtain rfl := hST
      have HTg := Lib.hid (fun (wx : World) (hb : Below wo.heap.size wo wx) (n : Int) => HTog.out wx _ ST (hTT.new hb) n)
      rw [HLL.out] at HTg
      obtain ⟨tsp, htsp⟩ : ∃ v, ST.sp = v := ⟨_, rfl⟩
      obtain ⟨tcp, htcp⟩ : ∃ v, ST.c = v := ⟨_, rfl⟩
      rw [htsp, htcp] at HTg
      rw [htsp, htcp]
      have HA := Lib.hid (show RowAt wo Z 36 #[.int .i64 P, .int .i64 B] from H2.out.2.1.new (by rw [H2.out.2.2.2]; exact HQ.out.1))
      have HB := Lib.hid (show RowAt wo (Z + 1) 44 #[.int .i64 p, .int .i64 d, .int .i64 c, .int .i64 (f 0), .int .i64 (f 1), .int .i64 (f 2), .int .i64 (f 3), .int .i64 (f 4), .int .i64 (f 5), .int .i64 (f 6), .int .i64 (f 7)] from H2.out.2.2.1.new (by rw [H2.out.2.2.2]; exact HQ.out.1))
      have a0 : wo.cell? ⟨Z, 0, none⟩ = some (.int .i64 P) := HA.out.cell 0
      have a1 : wo.cell? ⟨Z, 1, none⟩ = some (.int .i64 B) := HA.out.cell 1
      have a2 : wo.cell? ⟨Z + 1, 2, none⟩ = some (.int .i64 c) := HB.out.cell 2
      have HSz := Lib.hid (show Z + 2 ≤ wo.heap.size by have := HQ.out.1.size; have := H2.out.2.2.2; omega)
      have HRP := Lib.hid (show ∀ n : Int, svW P B c = some n → rspG P B c d LT 402 (some n) = R ∧ 0 ≤ n from fun n hn => ⟨by rw [HR.out, hn], svW_nn hn⟩)
      have HRN := Lib.hid (show svW P B c = none → R = none from fun hn => by rw [HR.out, hn]; exact rspG_none _ _ _ _ _ _)
      obtain ⟨o0, ho0⟩ : ∃ o, svW P B c = o := ⟨_, rfl⟩
      rw [ho0] at HW0 HRP HRN
      have HSt := Lib.hid (show (o0.isSome = true → rspG P B c d LT 402 (some (wN o0)) = R ∧ 402 ≤ wN o0 + (402 : Nat)) ∧ (o0.isSome = false → R = none) by
        cases o0 with
        | none => exact ⟨fun h => absurd h (by simp), fun _ => HRN.out rfl⟩
        | some n => exact ⟨fun _ => ⟨(HRP.out n rfl).1, by have := (HRP.out n rfl).2; show 402 ≤ n + 402; omega⟩, fun h => absurd h (by simp)⟩)
      obtain ⟨t0, ht0⟩ : ∃ v, wN o0 = v := ⟨_, rfl⟩
      obtain ⟨k0, hk0⟩ : ∃ v, o0.isSome = v := ⟨_, rfl⟩
      rw [ht0, hk0] at HW0 HSt
      clear hTT htsp htcp ho0 ht0 hk0 HRP HRN HTog HC HSp HRow HRf HR0 HRn hi hz0 hz1 hz2
      go_upto_region 8 with (first
        | (go_at_call 21; refine (HW0.out _).mono ?_; rintro e w3 ⟨rfl, b3⟩; have H3 := Lib.hid b3; clear b3 a0 a1 a2)
        | fail)
      go_loopg [11, 12] 402 (fun g u v wq => ∃ (t : Int) (b : Bool), u = .int .i64 t ∧ v = .bool b ∧ Aside ((b = true → rspG P B c d LT g (some t) = R ∧ 402 ≤ t + g) ∧ (b = false → R = none) ∧ Below wo.heap.size wo wq))
      case atStart => exact ⟨t0, k0, rfl, rfl, HSt.out.1, HSt.out.2, H3.out⟩
      case round =>
        obtain ⟨t, b2, rfl, rfl, HI⟩ := hrel
        have HBq := Lib.hid (show Below w.heap.size w wr from HBl.out.trans (HI.out.2.2.mono HBl.out.size))
        cases b2 with
        | false =>
          have HE := Lib.hid (HI.out.2.1 rfl)
          go_wp2
          go_ret2
          exact ⟨by rw [HE.out]; rfl, HBq.out⟩
        | true =>
          have HS := Lib.hid (HI.out.1 rfl)
          have k0 : wr.cell? ⟨Z, 0, none⟩ = some (.int .i64 P) := (HA.out.new HI.out.2.2).cell 0
          have k1 : wr.cell? ⟨Z, 1, none⟩ = some (.int .i64 B) := (HA.out.new HI.out.2.2).cell 1
          have k2 : wr.cell? ⟨Z + 1, 1, none⟩ = some (.int .i64 d) := (HB.out.new HI.out.2.2).cell 1
          have k3 : wr.cell? ⟨Z + 1, 2, none⟩ = some (.int .i64 c) := (HB.out.new HI.out.2.2).cell 2
          by_cases htd : t ≤ d
          · cases gk with
            | zero => have := HS.out.2; omega
            | succ g1 =>
              have HX := Lib.hid (show (match togW P B c LT t with
                | none => none
                | some m => if m ≤ t then some m else rspG P B c d LT g1 (some m)) = R by
                have := HS.out.1
                rw [rspG_some, if_pos htd] at this
                exact this)
              have HT1 := Lib.hid (HTg.out wr HI.out.2.2 t)
              have HM := Lib.hid (show 402 ≤ t + ((g1 + 1 : Nat) : Int) from HS.out.2)
              obtain ⟨o2, ho2⟩ : ∃ o, togW P B c LT t = o := ⟨_, rfl⟩
              rw [ho2] at HX HT1
              clear ho2 HTg
              cases o2 with
              | none =>
                have HX2 := Lib.hid (show R = none from HX.out.symm)
                rw [show wN none = 0 from rfl] at HT1
                go_wp2_with (first
                  | (go_at_call 45; refine (HT1.out).mono ?_; rintro e w5 ⟨rfl, b5⟩; have H5 := Lib.hid b5; clear b5)
                  | fail)
                go_roundg g1
                case measure => omega
                case rel => exact ⟨_, _, rfl, rfl, fun h => absurd h (by decide), fun _ => HX2.out, HI.out.2.2.trans (H5.out.mono HI.out.2.2.size)⟩
              | some m =>
                rw [show wN (some m) = m from rfl] at HT1
                by_cases hmt : m ≤ t
                · have HX2 := Lib.hid (show R = some m by have := HX.out; simp only [if_pos hmt] at this; exact this.symm)
                  go_wp2_with (first
                    | (go_at_call 45; refine (HT1.out).mono ?_; rintro e w5 ⟨rfl, b5⟩; have H5 := Lib.hid b5; clear b5)
                    | fail)
                  go_ret2
                  exact ⟨by rw [HX2.out]; rfl, HBq.out.trans (H5.out.mono HBq.out.size)⟩
                · have HX2 := Lib.hid (show rspG P B c d LT g1 (some m) = R by have := HX.out; simp only [if_neg hmt] at this; exact this)
                  go_wp2_with (first
                    | (go_at_call 45; refine (HT1.out).mono ?_; rintro e w5 ⟨rfl, b5⟩; have H5 := Lib.hid b5; clear b5)
                    | fail)
                  go_roundg g1
                  case measure => omega
                  case rel => exact ⟨_, _, rfl, rfl, fun _ => ⟨HX2.out, by have := HM.out; omega⟩, fun h => absurd h (by decide), HI.out.2.2.trans (H5.out.mono HI.out.2.2.size)⟩
          · have HE := Lib.hid (show R = none by
              have := HS.out.1
              cases gk with
              | zero => exact this.symm
              | succ g1 => rw [rspG_some, if_neg htd] at this; exact this.symm)
            go_wp2
            go_ret2
            exact ⟨by rw [HE.out]; rfl, HBq.out⟩
    | succ g1 =>
      have hk : k < n := by omega
      have hk2 : (k : Int) < (n : Int) := by omega
      obtain rfl : sp = some ⟨b, so, none⟩ := HSp.out (by omega)
      obtain ⟨fl, ⟨d0, d1, d2⟩, -, d3, d4, d5, d6, d7, d8, d9, d10⟩ := HC.out wr HBl.out k hk
      have HRk := Lib.hid (show rf (k + 1) = rf k ++ [.int .i64 (L.getD k default).per, .int .i64 (L.getD k default).cost, .int .i64 0, .int .i64 0] by
        have := HRow.out k hk
        rw [HRf.out, HRf.out] at this
        exact this)
      have HD := Lib.hid (fun wx => dOf2_any (L.getD k default).per (L.getD k default).dl (L.getD k default).cost fl 0 wx)
      obtain ⟨tp, htp⟩ : ∃ v, (L.getD k default).per = v := ⟨_, rfl⟩
      obtain ⟨td, htd⟩ : ∃ v, (L.getD k default).dl = v := ⟨_, rfl⟩
      obtain ⟨tc, htc⟩ : ∃ v, (L.getD k default).cost = v := ⟨_, rfl⟩
      rw [htp] at d0 HRk HD
      rw [htd] at d1 HD
      rw [htc] at d2 HRk HD
      clear htp htd htc
      obtain ⟨f0, hf0⟩ : ∃ v, fl 0 = v := ⟨_, rfl⟩
      obtain ⟨f1, hf1⟩ : ∃ v, fl 1 = v := ⟨_, rfl⟩
      obtain ⟨f2, hf2⟩ : ∃ v, fl 2 = v := ⟨_, rfl⟩
      obtain ⟨f3, hf3⟩ : ∃ v, fl 3 = v := ⟨_, rfl⟩
      obtain ⟨f4, hf4⟩ : ∃ v, fl 4 = v := ⟨_, rfl⟩
      obtain ⟨f5, hf5⟩ : ∃ v, fl 5 = v := ⟨_, rfl⟩
      obtain ⟨f6, hf6⟩ : ∃ v, fl 6 = v := ⟨_, rfl⟩
      obtain ⟨f7, hf7⟩ : ∃ v, fl 7 = v := ⟨_, rfl⟩
      rw [hf0] at d3 HD
      rw [hf1] at d4 HD
      rw [hf2] at d5 HD
      rw [hf3] at d6 HD
      rw [hf4] at d7 HD
      rw [hf5] at d8 HD
      rw [hf6] at d9 HD
      rw [hf7] at d10 HD
      clear hf0 hf1 hf2 hf3 hf4 hf5 hf6 hf7
      have HSz := Lib.hid (show Z + 2 ≤ wr.heap.size by have := HQ.out.1.size; have := H2.out.2.2.2; omega)
      obtain ⟨sp', cap, rfl⟩ := own_val HQ.out.2
      go_wp2_with (first
        | (go_at_call 44; refine (HD.out _).mono ?_; rintro e w3 ⟨rfl, b3⟩; have H3 := Lib.hid (show Below (Z + 2) wr w3 ∧ Below wr.heap.size wr w3 from ⟨alloc_then b3 HSz.out, alloc_then b3 (Nat.le_refl _)⟩); have HO3 := Lib.hid (own_below HQ.out.2 H3.out.2 (Nat.le_refl _)); clear b3 d0 d1 d2 d3 d4 d5 d6 d7 d8 d9 d10)
        | (at_builtin; go_must (refine wpList_append_own _ rfl (.tmp 21) (.tmp 24) 67 rfl (Z + 2) 69 i0 (.agg #[.int .i64 0, .int .i64 0, .int .i64 0, .int .i64 0]) 4 32 Try.underlying67 hi hz0 hz1 hz2 rfl (by decide) _ k (rf k) rfl (HO3.out.alloc _) ⟨w3.heap.size, 0, none⟩ 1 1 [.int .i64 tp, .int .i64 tc, .int .i64 0, .int .i64 0] rfl rfl (four_newS _ _ _ _ _ _) (by simp [Value.oneCell']) (by unfold maxLen; omega) (by omega) (by have := HSz.out; have := H3.out.1.size; rw [World.size_alloc]; omega) ?_); intro v4 w4 hown4 hg4 _; have H4 := Lib.hid (show Below (Z + 2) wr w4 from Below.grown (below_alloc H3.out.1 HSz.out _) hg4 (by have := HSz.out; have := H3.out.1.size; rw [World.size_alloc]; omega) (own_ge HO3.out)); have HO4 := Lib.hid hown4; clear hown4 hg4)
        | fail)
      go_roundg g1
      case measure => omega
      case rel => exact ⟨k + 1, by omega, by go_num, HQ.out.1.trans H4.out, by rw [HRk.out]; exact HO4.out⟩
end Go.Proofs.Ytmaackdfhmpicaa
