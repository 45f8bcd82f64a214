/- Is none of the tasks late on a server: both sides. -/
import Derived.Test.YtmaackdfhmpicaaSVO
import Derived.Test.YtmaackdfhmpicaaSVH
import Derived.StillTailTactics
import Derived.Deep.RegionHeld3
namespace Go.Proofs.Ytmaackdfhmpicaa
open Go.RowKit

def fitAt (P B : Int) (L : List TaskM) (i : Nat) : Option Int := rspS P B (L.getD i default).cost (L.getD i default).dl (L.take i)
def fitsB (P B : Int) (L : List TaskM) : Bool := (List.range L.length).all fun i => (fitAt P B L i).isSome
theorem fitsB_t {P B : Int} {L : List TaskM} (h : ∀ i, i < L.length → (fitAt P B L i).isSome = true) : fitsB P B L = true := by
  unfold fitsB
  rw [List.all_eq_true]
  exact fun i hi => h i (List.mem_range.1 hi)
theorem fitsB_f {P B : Int} {L : List TaskM} {i : Nat} (hi : i < L.length) (h : (fitAt P B L i).isSome = false) : fitsB P B L = false := by
  cases e : fitsB P B L with
  | false => rfl
  | true =>
    unfold fitsB at e
    rw [List.all_eq_true] at e
    have := e i (List.mem_range.2 hi)
    rw [h] at this
    cases this
/-- The arguments of one call. -/
def tkA (t : TaskM) : Value := .agg #[.int .i64 t.per, .int .i64 t.dl, .int .i64 t.cost, .int .i64 (lonK t 0), .int .i64 (lonK t 1), .int .i64 (lonK t 2), .int .i64 (lonK t 3), .int .i64 (lonK t 4), .int .i64 (lonK t 5), .int .i64 (lonK t 6), .int .i64 (lonK t 7)]
theorem svResp_at {w : World} {V : Nat → Prop} {S : Src} {L : List TaskM} (h : TksAt w V S L) (hl : L.length ≤ 20) (hg : ∀ k, k < L.length → tkB (L.getD k default) = true) (P B : Int) (k : Nat) (hk : k < L.length) :
    Calls Try.prog 28 #[.agg #[.int .i64 P, .int .i64 B], .agg #[.int .i64 (L.getD k default).per, .int .i64 (L.getD k default).dl, .int .i64 (L.getD k default).cost, .int .i64 (lonK (L.getD k default) 0), .int .i64 (lonK (L.getD k default) 1), .int .i64 (lonK (L.getD k default) 2), .int .i64 (lonK (L.getD k default) 3), .int .i64 (lonK (L.getD k default) 4), .int .i64 (lonK (L.getD k default) 5), .int .i64 (lonK (L.getD k default) 6), .int .i64 (lonK (L.getD k default) 7)], .slice S.sp k S.c] w fun e w' => e = .returned (.tuple #[.int .i64 (wN (fitAt P B L k)), .bool (fitAt P B L k).isSome]) ∧ Below w.heap.size w w' := by
  have e : (L.take k).length = k := by rw [List.length_take]; omega
  have := svResp_any (h.take (i := k) (by omega)) (by rw [e]; omega) P B (L.getD k default).per (L.getD k default).dl (L.getD k default).cost (lonK (L.getD k default)) (by have := (tkB_iff _).1 (hg k hk); omega)
  rw [e] at this
  exact this
theorem r56Resp_at {w : World} {V : Nat → Prop} {S : Src} {L : List TaskM} (h : TksAt w V S L) (hl : L.length ≤ 20) (hg : ∀ k, k < L.length → tkB (L.getD k default) = true) {P B : Int} (hr : svR P B = true) (k : Nat) (hk : k < L.length) :
    Calls Try.prog 29 #[.int .i64 P, .int .i64 B, .agg #[.int .i64 (L.getD k default).per, .int .i64 (L.getD k default).dl, .int .i64 (L.getD k default).cost, .int .i64 (lonK (L.getD k default) 0), .int .i64 (lonK (L.getD k default) 1), .int .i64 (lonK (L.getD k default) 2), .int .i64 (lonK (L.getD k default) 3), .int .i64 (lonK (L.getD k default) 4), .int .i64 (lonK (L.getD k default) 5), .int .i64 (lonK (L.getD k default) 6), .int .i64 (lonK (L.getD k default) 7)], .slice S.sp k S.c] w fun e w' => e = .returned (.tuple #[.int .i64 (wN (fitAt P B L k)), .bool (fitAt P B L k).isSome]) ∧ Below w.heap.size w w' := by
  have e : (L.take k).length = k := by rw [List.length_take]; omega
  have hb := (tkB_iff _).1 (hg k hk)
  have := r56Resp_any (h.take (i := k) (by omega)) (by rw [e]; omega) P B (L.getD k default).per (L.getD k default).dl (L.getD k default).cost (lonK (L.getD k default)) (by omega) hr (fun t ht => tk_mem hg t (List.mem_of_mem_take ht)) (by omega) (by omega)
  rw [e] at this
  exact this
set_option maxHeartbeats 8000000 in
set_option maxRecDepth 100000 in
theorem svFits_any {w : World} {V : Nat → Prop} {S : Src} {L : List TaskM} (h : TksAt w V S L) (hl : L.length ≤ 20) (hcp : L.length ≤ S.c) (hg : ∀ k, k < L.length → tkB (L.getD k default) = true) (P B : Int) :
    Calls Try.prog 30 #[.agg #[.int .i64 P, .int .i64 B], .slice S.sp L.length S.c] w fun e w' => e = .returned (.bool (fitsB P B L)) ∧ Below w.heap.size w w' := by
  have HC := Lib.hid (fun (wx : World) (hb : Below w.heap.size w wx) (k : Nat) (hk : k < L.length) => (h.new hb).cells2 hk)
  have HSp := Lib.hid (fun (h0 : 0 < L.length) => (h.sl.at_ h0).1)
  have HR := Lib.hid (fun (wx : World) (hb : Below w.heap.size w wx) (k : Nat) (hk : k < L.length) => svResp_at (h.new hb) hl hg P B k hk)
  have HF := Lib.hid (fun (i : Nat) => @fitsB_f P B L i)
  have HT := Lib.hid (@fitsB_t P B L)
  obtain ⟨R, hR⟩ : ∃ o, fitsB P B L = o := ⟨_, rfl⟩
  rw [hR] at HF HT ⊢
  obtain ⟨n, hn⟩ : ∃ n, L.length = n := ⟨_, rfl⟩
  rw [hn] at HC HSp HR HF HT hl hcp ⊢
  obtain ⟨sp, b, so, sc⟩ := S
  dsimp only at HC HSp HR hcp ⊢
  have hcp2 : (n : Int) ≤ (sc : Int) := by omega
  obtain ⟨Z, hZ⟩ : ∃ Z, Z = w.heap.size := ⟨_, rfl⟩
  have HZ := Lib.hid hZ
  clear h hR hn hg
  go_enter Try.func30, Try.ntmps30
  go_upto_region 1 with fail
  rw [← hZ]
  generalize hw2 : World.alloc _ _ = w2
  have H2 := Lib.hid (show Below w.heap.size w w2 ∧ RowAt w2 Z 36 #[.int .i64 P, .int .i64 B] ∧ w2.heap.size = Z + 1 by
    rw [← hw2, hZ]
    exact ⟨(Below.refl _ _).alloc (Nat.le_refl _) _, RowAt.mk _ _ _, by simp⟩)
  clear hw2 hZ
  go_wp2
  go_loopg [11] n (fun g i wr => ∃ k : Nat, k + g = n ∧ i = .int .i64 (k : Nat) ∧ Aside (Below (Z + 1) w2 wr ∧ ∀ j, j < k → (fitAt P B L j).isSome = true))
  case atStart => exact ⟨0, by omega, rfl, Below.refl _ _, fun j hj => by omega⟩
  case round =>
    obtain ⟨k, hkg, rfl, HQ⟩ := hrel
    have HBl := Lib.hid (show Below w.heap.size w wr from H2.out.1.trans (HQ.out.1.mono (by have := HZ.out; omega)))
    cases gk with
    | zero =>
      obtain rfl : k = n := by omega
      have HE := Lib.hid (HT.out HQ.out.2)
      go_wp2
      go_ret
      exact ⟨by rw [HE.out]; rfl, HBl.out⟩
    | succ g1 =>
      have hk : k < n := by omega
      have hk2 : (k : Int) < (n : Int) := by omega
      have hk3 : (k : Int) ≤ (sc : Int) := by omega
      obtain rfl : sp = some ⟨b, so, none⟩ := HSp.out (by omega)
      obtain ⟨⟨d0, d1, d2⟩, d3, d4, d5, d6, d7, d8, d9, d10⟩ := HC.out wr HBl.out k hk
      have HD := Lib.hid (fun (wx : World) (hb : Below w.heap.size w wx) => HR.out wx hb k hk)
      have HFk := Lib.hid (HF.out k hk)
      have HTk := Lib.hid (show (fitAt P B L k).isSome = true → ∀ j, j < k + 1 → (fitAt P B L j).isSome = true from fun x j hj => by
        by_cases e : j = k
        · subst e; exact x
        · exact HQ.out.2 j (by omega))
      have HA := Lib.hid (show RowAt wr Z 36 #[.int .i64 P, .int .i64 B] from H2.out.2.1.new (by rw [H2.out.2.2]; exact HQ.out.1))
      have HSz := Lib.hid (show Z + 1 ≤ wr.heap.size by have := HQ.out.1.size; have := H2.out.2.2; omega)
      obtain ⟨o, ho⟩ : ∃ o, fitAt P B L k = o := ⟨_, rfl⟩
      rw [ho] at HD HFk HTk
      clear ho
      obtain ⟨tp, htp⟩ : ∃ v, (L.getD k default).per = v := ⟨_, rfl⟩
      obtain ⟨td, htd⟩ : ∃ v, (L.getD k default).dl = v := ⟨_, rfl⟩
      obtain ⟨tc, htc⟩ : ∃ v, (L.getD k default).cost = v := ⟨_, rfl⟩
      rw [htp] at d0 HD
      rw [htd] at d1 HD
      rw [htc] at d2 HD
      clear htp htd htc
      obtain ⟨f0, hf0⟩ : ∃ v, lonK (L.getD k default) 0 = v := ⟨_, rfl⟩
      obtain ⟨f1, hf1⟩ : ∃ v, lonK (L.getD k default) 1 = v := ⟨_, rfl⟩
      obtain ⟨f2, hf2⟩ : ∃ v, lonK (L.getD k default) 2 = v := ⟨_, rfl⟩
      obtain ⟨f3, hf3⟩ : ∃ v, lonK (L.getD k default) 3 = v := ⟨_, rfl⟩
      obtain ⟨f4, hf4⟩ : ∃ v, lonK (L.getD k default) 4 = v := ⟨_, rfl⟩
      obtain ⟨f5, hf5⟩ : ∃ v, lonK (L.getD k default) 5 = v := ⟨_, rfl⟩
      obtain ⟨f6, hf6⟩ : ∃ v, lonK (L.getD k default) 6 = v := ⟨_, rfl⟩
      obtain ⟨f7, hf7⟩ : ∃ v, lonK (L.getD k default) 7 = v := ⟨_, rfl⟩
      rw [hf0] at d3 HD
      rw [hf1] at d4 HD
      rw [hf2] at d5 HD
      rw [hf3] at d6 HD
      rw [hf4] at d7 HD
      rw [hf5] at d8 HD
      rw [hf6] at d9 HD
      rw [hf7] at d10 HD
      clear hf0 hf1 hf2 hf3 hf4 hf5 hf6 hf7
      go_upto_region 4 with fail
      generalize hw3 : World.alloc _ _ = w3
      have H3 := Lib.hid (show Below w.heap.size w w3 ∧ Below (Z + 1) wr w3 ∧ RowAt w3 Z 36 #[.int .i64 P, .int .i64 B] ∧ RowAt w3 wr.heap.size 44 #[.int .i64 tp, .int .i64 td, .int .i64 tc, .int .i64 f0, .int .i64 f1, .int .i64 f2, .int .i64 f3, .int .i64 f4, .int .i64 f5, .int .i64 f6, .int .i64 f7] by
        rw [← hw3]
        exact ⟨below_alloc HBl.out (Nat.le_refl _) _, (Below.refl _ _).alloc HSz.out _, HA.out.new ((Below.refl _ _).alloc (Nat.le_refl _) _), RowAt.mk _ _ _⟩)
      clear hw3 d0 d1 d2 d3 d4 d5 d6 d7 d8 d9 d10
      have a0 : w3.cell? ⟨Z, 0, none⟩ = some (.int .i64 P) := H3.out.2.2.1.cell 0
      have a1 : w3.cell? ⟨Z, 1, none⟩ = some (.int .i64 B) := H3.out.2.2.1.cell 1
      have b0 : w3.cell? ⟨wr.heap.size, 0, none⟩ = some (.int .i64 tp) := H3.out.2.2.2.cell 0
      have b1 : w3.cell? ⟨wr.heap.size, 1, none⟩ = some (.int .i64 td) := H3.out.2.2.2.cell 1
      have b2 : w3.cell? ⟨wr.heap.size, 2, none⟩ = some (.int .i64 tc) := H3.out.2.2.2.cell 2
      have b3 : w3.cell? ⟨wr.heap.size, 3, none⟩ = some (.int .i64 f0) := H3.out.2.2.2.cell 3
      have b4 : w3.cell? ⟨wr.heap.size, 4, none⟩ = some (.int .i64 f1) := H3.out.2.2.2.cell 4
      have b5 : w3.cell? ⟨wr.heap.size, 5, none⟩ = some (.int .i64 f2) := H3.out.2.2.2.cell 5
      have b6 : w3.cell? ⟨wr.heap.size, 6, none⟩ = some (.int .i64 f3) := H3.out.2.2.2.cell 6
      have b7 : w3.cell? ⟨wr.heap.size, 7, none⟩ = some (.int .i64 f4) := H3.out.2.2.2.cell 7
      have b8 : w3.cell? ⟨wr.heap.size, 8, none⟩ = some (.int .i64 f5) := H3.out.2.2.2.cell 8
      have b9 : w3.cell? ⟨wr.heap.size, 9, none⟩ = some (.int .i64 f6) := H3.out.2.2.2.cell 9
      have b10 : w3.cell? ⟨wr.heap.size, 10, none⟩ = some (.int .i64 f7) := H3.out.2.2.2.cell 10
      have HBD := Lib.hid (show Below w.heap.size w w3.drew ∧ Below (Z + 1) wr w3.drew from ⟨below_dn H3.out.1 1, below_dn H3.out.2.1 1⟩)
      have HCD := Lib.hid (HD.out w3.drew HBD.out.1)
      have HK := Lib.hid (show ∀ w', Below w3.drew.heap.size w3.drew w' → (w'.cell? ⟨Z, 0, none⟩ = some (.int .i64 P) ∧ w'.cell? ⟨Z, 1, none⟩ = some (.int .i64 B) ∧ w'.cell? ⟨wr.heap.size, 0, none⟩ = some (.int .i64 tp) ∧ w'.cell? ⟨wr.heap.size, 1, none⟩ = some (.int .i64 td) ∧ w'.cell? ⟨wr.heap.size, 2, none⟩ = some (.int .i64 tc) ∧ w'.cell? ⟨wr.heap.size, 3, none⟩ = some (.int .i64 f0) ∧ w'.cell? ⟨wr.heap.size, 4, none⟩ = some (.int .i64 f1) ∧ w'.cell? ⟨wr.heap.size, 5, none⟩ = some (.int .i64 f2) ∧ w'.cell? ⟨wr.heap.size, 6, none⟩ = some (.int .i64 f3) ∧ w'.cell? ⟨wr.heap.size, 7, none⟩ = some (.int .i64 f4) ∧ w'.cell? ⟨wr.heap.size, 8, none⟩ = some (.int .i64 f5) ∧ w'.cell? ⟨wr.heap.size, 9, none⟩ = some (.int .i64 f6) ∧ w'.cell? ⟨wr.heap.size, 10, none⟩ = some (.int .i64 f7)) from fun w' hb => ⟨(RowAt.new (w := w3.drew) H3.out.2.2.1 hb).cell 0, (RowAt.new (w := w3.drew) H3.out.2.2.1 hb).cell 1, (RowAt.new (w := w3.drew) H3.out.2.2.2 hb).cell 0, (RowAt.new (w := w3.drew) H3.out.2.2.2 hb).cell 1, (RowAt.new (w := w3.drew) H3.out.2.2.2 hb).cell 2, (RowAt.new (w := w3.drew) H3.out.2.2.2 hb).cell 3, (RowAt.new (w := w3.drew) H3.out.2.2.2 hb).cell 4, (RowAt.new (w := w3.drew) H3.out.2.2.2 hb).cell 5, (RowAt.new (w := w3.drew) H3.out.2.2.2 hb).cell 6, (RowAt.new (w := w3.drew) H3.out.2.2.2 hb).cell 7, (RowAt.new (w := w3.drew) H3.out.2.2.2 hb).cell 8, (RowAt.new (w := w3.drew) H3.out.2.2.2 hb).cell 9, (RowAt.new (w := w3.drew) H3.out.2.2.2 hb).cell 10⟩)
      clear HD HC HSp HR
      go_region_held3 (fun w' => w'.cell? ⟨Z, 0, none⟩ = some (.int .i64 P) ∧ w'.cell? ⟨Z, 1, none⟩ = some (.int .i64 B) ∧ w'.cell? ⟨wr.heap.size, 0, none⟩ = some (.int .i64 tp) ∧ w'.cell? ⟨wr.heap.size, 1, none⟩ = some (.int .i64 td) ∧ w'.cell? ⟨wr.heap.size, 2, none⟩ = some (.int .i64 tc) ∧ w'.cell? ⟨wr.heap.size, 3, none⟩ = some (.int .i64 f0) ∧ w'.cell? ⟨wr.heap.size, 4, none⟩ = some (.int .i64 f1) ∧ w'.cell? ⟨wr.heap.size, 5, none⟩ = some (.int .i64 f2) ∧ w'.cell? ⟨wr.heap.size, 6, none⟩ = some (.int .i64 f3) ∧ w'.cell? ⟨wr.heap.size, 7, none⟩ = some (.int .i64 f4) ∧ w'.cell? ⟨wr.heap.size, 8, none⟩ = some (.int .i64 f5) ∧ w'.cell? ⟨wr.heap.size, 9, none⟩ = some (.int .i64 f6) ∧ w'.cell? ⟨wr.heap.size, 10, none⟩ = some (.int .i64 f7)) (first | exact ⟨a0, a1, b0, b1, b2, b3, b4, b5, b6, b7, b8, b9, b10⟩ | exact HK.out _ bw | go_keep)
        (first
          | (go_at_call 28; refine HCD.out.mono ?_; rintro e w5 ⟨rfl, bw⟩; have H5 := Lib.hid (And.intro (HBD.out.1.trans (bw.mono HBD.out.1.size)) (HBD.out.2.trans (bw.mono (by have := HSz.out; have := HBD.out.2.size; omega)))))
          | fail)
      clear a0 a1 b0 b1 b2 b3 b4 b5 b6 b7 b8 b9 b10 bw
      cases o with
      | none =>
        have HE := Lib.hid (HFk.out rfl)
        go_wp2
        go_ret
        exact ⟨by rw [HE.out]; rfl, H5.out.1⟩
      | some x =>
        have HE := Lib.hid (HTk.out rfl)
        go_wp2
        go_roundg g1
        case measure => omega
        case rel => exact ⟨k + 1, by omega, by go_num, HQ.out.1.trans H5.out.2, HE.out⟩
end Go.Proofs.Ytmaackdfhmpicaa
