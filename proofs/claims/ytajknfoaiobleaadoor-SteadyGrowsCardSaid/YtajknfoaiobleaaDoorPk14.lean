/- Several texts in one: TJ, YF, TK, TL, DB, TM. -/
import Derived.Test.YtajknfoaiobleaaDoorPk12
import Derived.Test.YtajknfoaiobleaaDoorPk04
import Derived.Test.YtajknfoaiobleaaDoorPk13
import Derived.Test.YtajknfoaiobleaaDoorPk05
import Derived.Test.YtajknfoaiobleaaDoorPk06
import Derived.Handy
import Derived.Deep.QuietTactic
import Derived.DeepKeys
import Derived.ChangeKeysEq
/- The contracts of Busy, of both sides. -/
namespace Go.Proofs.YtajknfoaiobleaaDoor
open Go.RowKit

/-- A row of terms whose first so many have their cost at once, too. -/
structure CarI (W : World) (S4 : Src) (x : Img) (L : List Nat) (k : Nat) : Prop where
  lt : 0 < L.length → S4.b < W.heap.size
  fr : ∀ q, 0 < L.length → W.frozen? ⟨S4.b, q, none⟩ = false
  c0 : ∀ j, j < L.length → W.cell? ⟨S4.b, S4.o + j * 4, none⟩ = some (.int .i64 (x.t (L.getD j 0)).per)
  c1 : ∀ j, j < L.length → W.cell? ⟨S4.b, S4.o + j * 4 + 1, none⟩ = some (.int .i64 (x.t (L.getD j 0)).cost)
  c2 : ∀ j, j < L.length → W.cell? ⟨S4.b, S4.o + j * 4 + 2, none⟩ = some (.int .i64 0)
  c3 : ∀ j, j < L.length → W.cell? ⟨S4.b, S4.o + j * 4 + 3, none⟩ = some (.int .i64 (if j < k then (x.t (L.getD j 0)).cost else 0))
theorem CarI.new {W W' : World} {S4 : Src} {x : Img} {L : List Nat} {k : Nat} (h : CarI W S4 x L k) (hb : Below W.heap.size W W') : CarI W' S4 x L k where
  lt := fun h0 => Nat.lt_of_lt_of_le (h.lt h0) hb.size
  fr := fun q h0 => (hb.frozen (h.lt h0)).trans (h.fr q h0)
  c0 := fun j hj => (hb.cell (h.lt (by omega))).trans (h.c0 j hj)
  c1 := fun j hj => (hb.cell (h.lt (by omega))).trans (h.c1 j hj)
  c2 := fun j hj => (hb.cell (h.lt (by omega))).trans (h.c2 j hj)
  c3 := fun j hj => (hb.cell (h.lt (by omega))).trans (h.c3 j hj)
theorem CarI.step {W : World} {S4 : Src} {x : Img} {L : List Nat} {k : Nat} (h : CarI W S4 x L k) (hk : k < L.length) : CarI (W.setCell ⟨S4.b, S4.o + k * 4 + 3, none⟩ (.int .i64 (x.t (L.getD k 0)).cost)) S4 x L (k + 1) := by
  have ho : ∀ q v, q ≠ S4.o + k * 4 + 3 → W.cell? ⟨S4.b, q, none⟩ = some v → (W.setCell ⟨S4.b, S4.o + k * 4 + 3, none⟩ (.int .i64 (x.t (L.getD k 0)).cost)).cell? ⟨S4.b, q, none⟩ = some v := fun q v hq hc => by
    rw [World.cell?_setCell_other _ _ _ _ (fun e => by injection e with _ e _; exact hq e.symm)]; exact hc
  refine ⟨fun h0 => ?_, fun q h0 => ?_, fun j hj => ho _ _ (by omega) (h.c0 j hj), fun j hj => ho _ _ (by omega) (h.c1 j hj), fun j hj => ho _ _ (by omega) (h.c2 j hj), fun j hj => ?_⟩
  · have := ((Ch.refl (fun _ => True) W).setCell ⟨S4.b, S4.o + k * 4 + 3, none⟩ (.int .i64 (x.t (L.getD k 0)).cost) (.inl trivial)).size
    have := h.lt h0
    omega
  · rw [World.frozen?_setCell]; exact h.fr q h0
  · by_cases e : j = k
    · subst e
      rw [if_pos (by omega)]
      exact World.cell?_setCell_same _ _ _ (h.c3 j hj)
    · have h3 := h.c3 j hj
      by_cases e2 : j < k
      · rw [if_pos e2] at h3; rw [if_pos (by omega)]; exact ho _ _ (by omega) h3
      · rw [if_neg e2] at h3; rw [if_neg (by omega)]; exact ho _ _ (by omega) h3
/-- The terms, each with its cost at once. -/
def tmB2 (x : Img) (i : Nat) : Tm := ⟨(x.t i).per, (x.t i).cost, 0, (x.t i).cost⟩
def carL (x : Img) (L : List Nat) : List Tm := L.map (tmB2 x)
theorem carL_len (x : Img) (L : List Nat) : (carL x L).length = L.length := by simp [carL]
theorem CarI.terms {W : World} {S4 : Src} {x : Img} {L : List Nat} (h : CarI W S4 x L L.length) (hsp : 0 < L.length → S4.sp = some ⟨S4.b, S4.o, none⟩) (hl : L.length ≤ 1000) : TermsAt W (fun _ => False) S4 (carL x L) := by
  refine ⟨⟨fun h0 => ⟨hsp (by rwa [carL_len] at h0), h.lt (by rwa [carL_len] at h0), fun h => h⟩, by rw [carL_len]; omega⟩, fun k hk j u hu => ?_⟩
  rw [carL_len] at hk
  have e : (carL x L).getD k default = tmB2 x (L.getD k 0) := by unfold carL; simp [hk]
  rw [e] at hu
  rcases j with _ | _ | _ | _ | j
  · rw [← hu]; exact h.c0 k hk
  · rw [← hu]; exact h.c1 k hk
  · rw [← hu]; exact h.c2 k hk
  · rw [← hu]; have := h.c3 k hk; rwa [if_pos hk] at this
  · simp [tmC] at hu
theorem CarI.start {W : World} {base : Nat} {v : Value} {e : TypeId} {x : Img} {L : List Nat} (h : W.ownsRow base e 4 v L.length (rowsOf (termV x L) L.length)) (hl : L.length ≤ 1000) :
    ∃ S4 : Src, v = .slice S4.sp L.length S4.c ∧ (0 < L.length → S4.sp = some ⟨S4.b, S4.o, none⟩ ∧ base ≤ S4.b) ∧ CarI W S4 x L 0 := by
  obtain ⟨S4, rfl, h4, at4⟩ := own_rows h (fun _ _ => rfl) (by omega)
  refine ⟨S4, rfl, fun h0 => ⟨(h4 h0).1, (h4 h0).2.1⟩, ⟨fun h0 => (h4 h0).2.2.1, fun q h0 => (h4 h0).2.2.2 q, fun j hj => at4 j hj 0 _ rfl, fun j hj => at4 j hj 1 _ rfl, fun j hj => at4 j hj 2 _ rfl, fun j hj => ?_⟩⟩
  rw [if_neg (by omega)]
  exact at4 j hj 3 _ rfl
theorem good_car {x : Img} (h : GoodI x) {L : List Nat} (hL : ∀ i, i ∈ L → i < x.tasks.length) : ∀ t ∈ carL x L, GoodT t := by
  intro t ht
  obtain ⟨i, hi, rfl⟩ := List.mem_map.1 ht
  have h1 := h.per i (hL i hi)
  have h2 := h.cost i (hL i hi)
  exact ⟨⟨h1.1, by show (x.t i).per ≤ _; omega⟩, ⟨by show 0 ≤ (x.t i).cost; omega, by show (x.t i).cost ≤ _; omega⟩, ⟨Int.le_refl _, by show (0 : Int) ≤ _; omega⟩, ⟨by show 0 ≤ (x.t i).cost; omega, by show (x.t i).cost ≤ _; omega⟩⟩
/-- Within how many ticks nobody is there. -/
def bsR (x : Img) (s : BitVec 32) : Option (Int × Int) := lookR 0 65536 (carL x (aheadL x s x.tasks.length))
set_option maxHeartbeats 4000000 in
set_option maxRecDepth 100000 in
theorem stBusy_any {w : World} {V : Nat → Prop} {x : Img} {S : ImgS} (h : ImgAt w V x S) (ht : Tab w) (hG : GoodI x) (s : BitVec 32) :
    Calls Tryd.prog 16 #[.agg #[.int .i64 x.res, .slice S.t.sp x.tasks.length S.t.c, .slice S.m.sp x.modes.length S.m.c, .slice S.e.sp x.edges.length S.e.c], .int .u32 (w32 s)] w fun e w' => e = .returned (.tuple #[.int .i64 (tT (bsR x s)), .bool (tB (bsR x s))]) ∧ Below w.heap.size w w' := by
  have hp := ht.pos
  have HTm := Lib.hid (show ∀ wx, Below w.heap.size w wx → _ from fun wx hb => terms_any (h.new hb) (ht.below hp hb) s)
  rw [tasksL_eq hG] at HTm
  obtain ⟨L, hL⟩ : ∃ L, aheadL x s x.tasks.length = L := ⟨_, rfl⟩
  have HLl := Lib.hid (show L.length ≤ 16 by rw [← hL]; exact aheadL_len hG s _)
  have HR := Lib.hid (show bsR x s = lookR 0 65536 (carL x L) by rw [← hL]; rfl)
  rw [HR.out]
  rw [hL] at HTm
  have HLe := Lib.hid (show ∀ (wx : World) (V' : Nat → Prop) (S' : Src), TermsAt wx V' S' (carL x L) → _ from fun wx V' S' ht => least_any ht (by rw [carL_len]; have := HLl.out; omega) 0 65536 (by omega))
  rw [carL_len] at HLe
  obtain ⟨tt, htt⟩ : ∃ v, tT (lookR 0 65536 (carL x L)) = v := ⟨_, rfl⟩
  obtain ⟨bt, hbt⟩ : ∃ v, tB (lookR 0 65536 (carL x L)) = v := ⟨_, rfl⟩
  rw [htt, hbt] at HLe ⊢
  clear htt hbt hL
  have HSt := Lib.hid (show ∀ (W : World) (base : Nat) (v : Value), W.ownsRow base 80 4 v L.length (rowsOf (termV x L) L.length) → _ from fun W base v ho => CarI.start ho (by have := HLl.out; omega))
  have HSp := Lib.hid (show ∀ (W : World) (S4 : Src) k, CarI W S4 x L k → k < L.length → _ from fun W S4 k hc hk => hc.step hk)
  have HTe := Lib.hid (show ∀ (W : World) (S4 : Src), CarI W S4 x L L.length → (0 < L.length → S4.sp = some ⟨S4.b, S4.o, none⟩) → _ from fun W S4 hc hsp => hc.terms hsp (by have := HLl.out; omega))
  obtain ⟨N, hN⟩ : ∃ N, L.length = N := ⟨_, rfl⟩
  have HNN := Lib.hid hN
  rw [hN] at HTm HLe HSt HSp HTe HLl
  obtain ⟨nT, hnT⟩ : ∃ n, x.tasks.length = n := ⟨_, rfl⟩
  obtain ⟨nM, hnM⟩ : ∃ n, x.modes.length = n := ⟨_, rfl⟩
  obtain ⟨nE, hnE⟩ : ∃ n, x.edges.length = n := ⟨_, rfl⟩
  rw [hnT, hnM, hnE] at HTm
  rw [hnT, hnM, hnE]
  obtain ⟨Z, hZ⟩ : ∃ Z, Z = w.heap.size := ⟨_, rfl⟩
  have HZ := Lib.hid hZ
  clear h ht hp hnT hnM hnE hG hN
  go_enter Tryd.func16, Tryd.ntmps16
  go_upto_region 1 with fail
  rw [← hZ]
  generalize hw2 : World.alloc _ _ = w2
  have H2 := Lib.hid (show Below w.heap.size w w2 ∧ RowAt w2 Z 26 #[.int .i64 x.res, .slice S.t.sp nT S.t.c, .slice S.m.sp nM S.m.c, .slice S.e.sp nE S.e.c] by
    rw [← hw2, hZ]
    exact ⟨(Below.refl _ _).alloc (Nat.le_refl _) _, RowAt.mk _ _ _⟩)
  clear hw2 hZ
  have c0 : w2.cell? ⟨Z, 0, none⟩ = some (.int .i64 x.res) := H2.out.2.cell 0
  have c1 : w2.cell? ⟨Z, 1, none⟩ = some (.slice S.t.sp nT S.t.c) := H2.out.2.cell 1
  have c2 : w2.cell? ⟨Z, 2, none⟩ = some (.slice S.m.sp nM S.m.c) := H2.out.2.cell 2
  have c3 : w2.cell? ⟨Z, 3, none⟩ = some (.slice S.e.sp nE S.e.c) := H2.out.2.cell 3
  go_upto_region 2 with (first
    | (go_at_call 28; refine (HTm.out _ H2.out.1).mono ?_; rintro e w3 ⟨v3, rfl, o3, b3⟩; obtain ⟨S4, rfl, hs4, hc4⟩ := HSt.out _ _ _ o3; have H3 := Lib.hid (show Below w.heap.size w w3 ∧ CarI w3 S4 x L 0 ∧ (0 < N → S4.sp = some ⟨S4.b, S4.o, none⟩ ∧ w.heap.size ≤ S4.b) from ⟨H2.out.1.trans (b3.mono H2.out.1.size), hc4, fun h0 => ⟨(hs4 h0).1, by have := (hs4 h0).2; have := H2.out.1.size; omega⟩⟩); clear b3 o3 hs4 hc4 c0 c1 c2 c3)
    | fail)
  clear H2 HTm HSt
  obtain ⟨sp4, b4, o4, cp4⟩ := S4
  dsimp only at H3 ⊢
  go_wp2
  go_loopg [13] N (fun g u wr => ∃ k : Nat, k + g = N ∧ u = .int .i64 (k : Nat) ∧ Aside (Below w.heap.size w wr ∧ CarI wr ⟨sp4, b4, o4, cp4⟩ x L k))
  case atStart => exact ⟨0, by omega, rfl, H3.out.1, H3.out.2.1⟩
  case round =>
    obtain ⟨k, hkg, rfl, HQ⟩ := hrel
    cases gk with
    | zero =>
      obtain rfl : k = N := by omega
      have HC := Lib.hid (HLe.out wr _ ⟨sp4, b4, o4, cp4⟩ (HTe.out wr ⟨sp4, b4, o4, cp4⟩ HQ.out.2 (fun h0 => (H3.out.2.2 h0).1)))
      go_wp2_with (first
        | (go_at_call 27; refine HC.out.mono ?_; rintro e w5 ⟨rfl, b5⟩; have H5 := Lib.hid (HQ.out.1.trans (b5.mono HQ.out.1.size)); clear b5)
        | fail)
      go_ret2
      exact ⟨rfl, H5.out⟩
    | succ g1 =>
      have hk : k < N := by omega
      have hk2 : (k : Int) < (N : Int) := by omega
      have hk16 : (k : Int) < 16 := by have := HLl.out; omega
      have hkL : k < L.length := by rw [HNN.out]; exact hk
      have q1 := HQ.out.2.c1 k hkL
      have q3 := HQ.out.2.c3 k hkL
      rw [if_neg (by omega)] at q3
      have f3 := HQ.out.2.fr (o4 + k * 4 + 3) (by omega)
      have HS := Lib.hid (HSp.out wr ⟨sp4, b4, o4, cp4⟩ k HQ.out.2 hk)
      obtain ⟨rfl, hge⟩ := H3.out.2.2 (by omega)
      have HG2 := Lib.hid hge
      dsimp only at q1 q3 f3 HS
      obtain ⟨a, ha⟩ : ∃ a, (x.t (L.getD k 0)).cost = a := ⟨_, rfl⟩
      rw [ha] at q1 HS
      clear ha hge hkL
      go_wp2
      go_roundg g1
      case measure => omega
      case rel => exact ⟨k + 1, by omega, by go_num, HQ.out.1.setCell HG2.out _, HS.out⟩
/-- How far the reference has looked. -/
def BI (L : List Tm) (g : Nat) (w m : Int) : Prop := lookF (FF 0 L) 65536 g w m = lookR 0 65536 L ∧ 1 ≤ w ∧ (65536 : Int) < w + g
theorem BI.start (L : List Tm) : BI L 65537 1 1 := by
  refine ⟨?_, by omega, by omega⟩
  unfold lookR w0
  rw [if_neg (by omega)]
  rfl
theorem BI.over {L : List Tm} {g : Nat} {w m : Int} (h : BI L g w m) (hw : 65536 < w) : tT (lookR 0 65536 L) = 0 ∧ tB (lookR 0 65536 L) = false := by
  rw [← h.1, lookF_most g hw]; exact ⟨rfl, rfl⟩
theorem BI.ff {L : List Tm} {g : Nat} {w m : Int} (h : BI L g w m) (hl : L.length ≤ 20) (hg : ∀ x ∈ L, GoodT x) (hw : w ≤ 65536) :
    ∃ g1, g = g1 + 1 ∧ lookR 0 65536 L = (if valL L w ≤ w then some (w, m) else lookF (FF 0 L) 65536 g1 (valL L w) (m + 1)) := by
  obtain ⟨h1, h2, h3⟩ := h
  cases g with
  | zero => omega
  | succ g1 =>
    refine ⟨g1, rfl, ?_⟩
    have hf := good_ff (own := 0) hg hl (by omega) (by omega) h2 (show w ≤ 70000 by omega)
    rw [← h1]
    conv => lhs; unfold lookF
    rw [if_pos hw, hf]
    simp only [Int.zero_add]
theorem BI.found {L : List Tm} {g : Nat} {w m : Int} (h : BI L g w m) (hl : L.length ≤ 20) (hg : ∀ x ∈ L, GoodT x) (hw : w ≤ 65536) (hn : valL L w ≤ w) : tT (lookR 0 65536 L) = w ∧ tB (lookR 0 65536 L) = true := by
  obtain ⟨g1, -, e⟩ := h.ff hl hg hw
  rw [e, if_pos hn]; exact ⟨rfl, rfl⟩
theorem BI.next {L : List Tm} {g : Nat} {w m : Int} (h : BI L g w m) (hl : L.length ≤ 20) (hg : ∀ x ∈ L, GoodT x) (hw : w ≤ 65536) (hn : ¬ valL L w ≤ w) : ∃ g1, g = g1 + 1 ∧ BI L g1 (valL L w) (m + 1) := by
  obtain ⟨g1, e1, e⟩ := h.ff hl hg hw
  refine ⟨g1, e1, ?_⟩
  obtain ⟨-, h2, h3⟩ := h
  rw [if_neg hn] at e
  exact ⟨e.symm, by omega, by omega⟩
set_option maxHeartbeats 4000000 in
set_option maxRecDepth 100000 in
theorem r18Busy_any {w : World} {V : Nat → Prop} {x : Img} {S : ImgS} (h : ImgAt w V x S) (hG : GoodI x) (s : BitVec 32) :
    Calls Tryd.prog 17 #[.agg #[.int .i64 x.res, .slice S.t.sp x.tasks.length S.t.c, .slice S.m.sp x.modes.length S.m.c, .slice S.e.sp x.edges.length S.e.c], .int .u32 (w32 s)] w fun e w' => e = .returned (.tuple #[.int .i64 (tT (bsR x s)), .bool (tB (bsR x s))]) ∧ Below w.heap.size w w' := by
  have HTm := Lib.hid (show ∀ wx, Below w.heap.size w wx → _ from fun wx hb => Ahead_any (h.new hb) hG s x.tasks.length)
  rw [← tmL_row, tmL_len] at HTm
  have hgL := good_car hG (L := aheadL x s x.tasks.length) (fun j hj => (aheadL_lt hj).1)
  obtain ⟨L, hL⟩ : ∃ L, aheadL x s x.tasks.length = L := ⟨_, rfl⟩
  have HLl := Lib.hid (show L.length ≤ 16 by rw [← hL]; exact aheadL_len hG s _)
  have HR := Lib.hid (show bsR x s = lookR 0 65536 (carL x L) by rw [← hL]; rfl)
  rw [HR.out]
  rw [hL] at HTm hgL
  have HAl := Lib.hid (show ∀ (wx : World) (V' : Nat → Prop) (S' : Src), TermsAt wx V' S' (carL x L) → ∀ n, (show Prop from Calls Tryd.prog 37 #[.slice S'.sp (carL x L).length S'.c, .int .i64 n] wx fun e w' => e = .returned (.tuple #[.int .i64 (valL (carL x L) n), .bool (okL (carL x L) n)]) ∧ Below wx.heap.size wx w') from fun wx V' S' ht n => rall_any ht (by rw [carL_len]; have := HLl.out; omega) n)
  rw [carL_len] at HAl
  have HBs := Lib.hid (BI.start (carL x L))
  have hll : (carL x L).length ≤ 20 := by rw [carL_len]; have := HLl.out; omega
  have HBo := Lib.hid (show ∀ (g : Nat) (w m : Int), BI (carL x L) g w m → _ from fun g w m hb => hb.over)
  have HBf := Lib.hid (show ∀ (g : Nat) (w m : Int), BI (carL x L) g w m → _ from fun g w m hb => hb.found hll hgL)
  have HBn := Lib.hid (show ∀ (g : Nat) (w m : Int), BI (carL x L) g w m → _ from fun g w m hb => hb.next hll hgL)
  have HVr := Lib.hid (show ∀ n, 1 ≤ n → n ≤ 65536 → 0 ≤ valL (carL x L) n ∧ valL (carL x L) n ≤ 140002000000 from fun n h1 h2 => (good_ok hgL hll h1 (by omega)).2)
  obtain ⟨tt, htt⟩ : ∃ v, tT (lookR 0 65536 (carL x L)) = v := ⟨_, rfl⟩
  obtain ⟨bt, hbt⟩ : ∃ v, tB (lookR 0 65536 (carL x L)) = v := ⟨_, rfl⟩
  rw [htt, hbt] at HBo HBf ⊢
  clear htt hbt hL hgL hll
  have HSt := Lib.hid (show ∀ (W : World) (base : Nat) (v : Value), W.ownsRow base 81 4 v L.length (rowsOf (termV x L) L.length) → _ from fun W base v ho => CarI.start ho (by have := HLl.out; omega))
  have HSp := Lib.hid (show ∀ (W : World) (S4 : Src) k, CarI W S4 x L k → k < L.length → _ from fun W S4 k hc hk => hc.step hk)
  have HTe := Lib.hid (show ∀ (W : World) (S4 : Src), CarI W S4 x L L.length → (0 < L.length → S4.sp = some ⟨S4.b, S4.o, none⟩) → _ from fun W S4 hc hsp => hc.terms hsp (by have := HLl.out; omega))
  obtain ⟨N, hN⟩ : ∃ N, L.length = N := ⟨_, rfl⟩
  have HNN := Lib.hid hN
  rw [hN] at HTm HAl HSt HSp HTe HLl
  obtain ⟨cL, hcL⟩ : ∃ l, carL x L = l := ⟨_, rfl⟩
  rw [hcL] at HAl HBs HBo HBf HBn HVr HTe
  obtain ⟨nT, hnT⟩ : ∃ n, x.tasks.length = n := ⟨_, rfl⟩
  obtain ⟨nM, hnM⟩ : ∃ n, x.modes.length = n := ⟨_, rfl⟩
  obtain ⟨nE, hnE⟩ : ∃ n, x.edges.length = n := ⟨_, rfl⟩
  rw [hnT, hnM, hnE] at HTm
  rw [hnT, hnM, hnE]
  obtain ⟨Z, hZ⟩ : ∃ Z, Z = w.heap.size := ⟨_, rfl⟩
  have HZ := Lib.hid hZ
  clear h hnT hnM hnE hG hN hcL
  go_enter Tryd.func17, Tryd.ntmps17
  go_upto_region 1 with fail
  rw [← hZ]
  generalize hw2 : World.alloc _ _ = w2
  have H2 := Lib.hid (show Below w.heap.size w w2 ∧ RowAt w2 Z 26 #[.int .i64 x.res, .slice S.t.sp nT S.t.c, .slice S.m.sp nM S.m.c, .slice S.e.sp nE S.e.c] by
    rw [← hw2, hZ]
    exact ⟨(Below.refl _ _).alloc (Nat.le_refl _) _, RowAt.mk _ _ _⟩)
  clear hw2 hZ
  have c0 : w2.cell? ⟨Z, 0, none⟩ = some (.int .i64 x.res) := H2.out.2.cell 0
  have c1 : w2.cell? ⟨Z, 1, none⟩ = some (.slice S.t.sp nT S.t.c) := H2.out.2.cell 1
  have c2 : w2.cell? ⟨Z, 2, none⟩ = some (.slice S.m.sp nM S.m.c) := H2.out.2.cell 2
  have c3 : w2.cell? ⟨Z, 3, none⟩ = some (.slice S.e.sp nE S.e.c) := H2.out.2.cell 3
  go_upto_region 2 with (first
    | (go_at_call 26; refine (HTm.out _ H2.out.1).mono ?_; rintro e w3 ⟨v3, rfl, o3, b3⟩; obtain ⟨S4, rfl, hs4, hc4⟩ := HSt.out _ _ _ o3; have H3 := Lib.hid (show Below w.heap.size w w3 ∧ CarI w3 S4 x L 0 ∧ (0 < N → S4.sp = some ⟨S4.b, S4.o, none⟩ ∧ w.heap.size ≤ S4.b) from ⟨H2.out.1.trans (b3.mono H2.out.1.size), hc4, fun h0 => ⟨(hs4 h0).1, by have := (hs4 h0).2; have := H2.out.1.size; omega⟩⟩); clear b3 o3 hs4 hc4 c0 c1 c2 c3)
    | fail)
  clear H2 HTm HSt
  obtain ⟨sp4, b4, o4, cp4⟩ := S4
  dsimp only at H3 ⊢
  go_wp2
  go_loopg [7] N (fun g u wr => ∃ k : Nat, k + g = N ∧ u = .int .i64 (k : Nat) ∧ Aside (Below w.heap.size w wr ∧ CarI wr ⟨sp4, b4, o4, cp4⟩ x L k))
  case atStart => exact ⟨0, by omega, rfl, H3.out.1, H3.out.2.1⟩
  case round =>
    obtain ⟨k, hkg, rfl, HQ⟩ := hrel
    cases gk with
    | zero =>
      obtain rfl : k = N := by omega
      have HT := Lib.hid (HTe.out wr ⟨sp4, b4, o4, cp4⟩ HQ.out.2 (fun h0 => (H3.out.2.2 h0).1))
      obtain ⟨wo, rfl⟩ : ∃ wo, wo = wr := ⟨_, rfl⟩
      have HA2 := Lib.hid (show ∀ (wx : World), Below wo.heap.size wo wx → ∀ n, _ from fun wx hb n => HAl.out wx _ ⟨sp4, b4, o4, cp4⟩ (HT.out.new hb) n)
      have HQw := Lib.hid HQ.out.1
      clear HT HAl HTe HSp HQ H3
      dsimp only at HA2
      go_wp2
      go_loopg [8] 65537 (fun g u wx => ∃ (t m : Int), u = .int .i64 t ∧ Aside (BI cL g t m ∧ Below wo.heap.size wo wx))
      case atStart => exact ⟨1, 1, rfl, HBs.out, Below.refl _ _⟩
      case round =>
        obtain ⟨t, m, rfl, HB⟩ := hrel
        have ht1 := HB.out.1.2.1
        by_cases hover : 65536 < t
        · have HE := Lib.hid (HBo.out _ _ _ HB.out.1 hover)
          go_wp2
          go_ret2
          exact ⟨by rw [HE.out.1, HE.out.2]; rfl, HQw.out.trans (HB.out.2.mono HQw.out.size)⟩
        · have hle : t ≤ 65536 := by omega
          have HC := Lib.hid (HA2.out wr HB.out.2 t)
          have HF := Lib.hid (HBf.out _ _ _ HB.out.1 hle)
          have HN2 := Lib.hid (HBn.out _ _ _ HB.out.1 hle)
          obtain ⟨v, hv⟩ : ∃ v, valL cL t = v := ⟨_, rfl⟩
          obtain ⟨ok, hok⟩ : ∃ v, okL cL t = v := ⟨_, rfl⟩
          rw [hv, hok] at HC
          rw [hv] at HF HN2
          clear hv hok hover
          by_cases hn : v ≤ t
          · have HE := Lib.hid (HF.out hn)
            go_wp2_with (first
              | (go_at_call 37; refine HC.out.mono ?_; rintro e w5 ⟨rfl, b5⟩; have H5 := Lib.hid (HB.out.2.trans (b5.mono HB.out.2.size)); clear b5 HC)
              | fail)
            go_ret2
            exact ⟨by rw [HE.out.1, HE.out.2]; rfl, HQw.out.trans (H5.out.mono HQw.out.size)⟩
          · obtain ⟨g1, hg1, hB1⟩ := HN2.out (by omega)
            have HB1 := Lib.hid hB1
            clear hB1
            go_wp2_with (first
              | (go_at_call 37; refine HC.out.mono ?_; rintro e w5 ⟨rfl, b5⟩; have H5 := Lib.hid (HB.out.2.trans (b5.mono HB.out.2.size)); clear b5 HC)
              | fail)
            go_roundg g1
            case measure => omega
            case rel => exact ⟨v, m + 1, rfl, HB1.out, H5.out⟩
    | succ g1 =>
      have hk : k < N := by omega
      have hk2 : (k : Int) < (N : Int) := by omega
      have hk16 : (k : Int) < 16 := by have := HLl.out; omega
      have hkL : k < L.length := by rw [HNN.out]; exact hk
      have q1 := HQ.out.2.c1 k hkL
      have q3 := HQ.out.2.c3 k hkL
      rw [if_neg (by omega)] at q3
      have f3 := HQ.out.2.fr (o4 + k * 4 + 3) (by omega)
      have HS := Lib.hid (HSp.out wr ⟨sp4, b4, o4, cp4⟩ k HQ.out.2 hk)
      obtain ⟨rfl, hge⟩ := H3.out.2.2 (by omega)
      have HG2 := Lib.hid hge
      dsimp only at q1 q3 f3 HS
      obtain ⟨a, ha⟩ : ∃ a, (x.t (L.getD k 0)).cost = a := ⟨_, rfl⟩
      rw [ha] at q1 HS
      clear ha hge hkL
      go_wp2
      go_roundg g1
      case measure => omega
      case rel => exact ⟨k + 1, by omega, by go_num, HQ.out.1.setCell HG2.out _, HS.out⟩
end Go.Proofs.YtajknfoaiobleaaDoor
/- The contract of law15's alive. -/
namespace Go.Proofs.YtajknfoaiobleaaDoor
open Go.RowKit

def TZ : TaskM := ⟨0, 0, 0, [0, 0, 0, 0, 0, 0, 0, 0]⟩
def T1 : TaskM := ⟨0, 0, 0, [1, 0, 0, 0, 0, 0, 0, 0]⟩
def X0 : Img := ⟨0, [TZ, T1, T1], [], []⟩
def S0 (b c : Nat) : ImgS := ⟨⟨some ⟨b, 0, none⟩, b, 0, c⟩, ⟨none, 0, 0, 0⟩, ⟨none, 0, 0, 0⟩, fun _ => ⟨none, 0, 0, 0⟩⟩
def row33 : Array Value := (taskC TZ ++ (taskC T1 ++ taskC T1)).toArray
theorem at_of_row {w : World} {b off : Nat} {t : TypeId} {cs : Array Value} {l : List Value} (h : RowAt w b t cs) (hs : ∀ j, j < l.length → cs[off + j]? = l[j]?) : At w b off l := fun j u hu => by
  rw [h.cell, hs j (List.getElem?_eq_some_iff.1 hu).1]; exact hu
theorem lt11 {p : Nat → Prop} (h0 : p 0) (h1 : p 1) (h2 : p 2) (h3 : p 3) (h4 : p 4) (h5 : p 5) (h6 : p 6) (h7 : p 7) (h8 : p 8) (h9 : p 9) (h10 : p 10) : ∀ k, k < 11 → p k := by
  intro k hk
  rcases k with _ | _ | _ | _ | _ | _ | _ | _ | _ | _ | _ | k
  all_goals first | assumption | omega
theorem X0_at {w : World} {b c : Nat} {t : TypeId} (h : RowAt w b t row33) : ImgAt w (fun _ => False) X0 (S0 b c) where
  st := ⟨fun _ => ⟨rfl, h.lt, fun h => h⟩, by show (3 : Nat) ≤ _; omega⟩
  sm := ⟨fun h0 => absurd h0 (Nat.lt_irrefl 0), Nat.zero_le _⟩
  se := ⟨fun h0 => absurd h0 (Nat.lt_irrefl 0), Nat.zero_le _⟩
  tk := fun k hk => by
    have hk3 : k < 3 := hk
    rcases k with _ | _ | _ | k
    · exact ⟨at_of_row h (lt11 rfl rfl rfl rfl rfl rfl rfl rfl rfl rfl rfl), rfl⟩
    · exact ⟨at_of_row h (lt11 rfl rfl rfl rfl rfl rfl rfl rfl rfl rfl rfl), rfl⟩
    · exact ⟨at_of_row h (lt11 rfl rfl rfl rfl rfl rfl rfl rfl rfl rfl rfl), rfl⟩
    · omega
  md := fun k hk => absurd hk (Nat.not_lt_zero k)
  qu := fun k hk => absurd hk (Nat.not_lt_zero k)
  ed := fun k hk => absurd hk (Nat.not_lt_zero k)
def g0 : Nat → Int := fun r => if r = 0 then 1 else 16
theorem g0_is : tb (ceilF X0 (ofL [0, 1, 2])) = tb g0 := tb_ext (lt8c (by decide +kernel) (by decide +kernel) (by decide +kernel) (by decide +kernel) (by decide +kernel) (by decide +kernel) (by decide +kernel) (by decide +kernel))
theorem g0_lv : tbLv g0 2 0 = 1 := by decide
theorem g0_ov : tbOv g0 1 8 = ofL [0] := by decide +kernel
end Go.Proofs.YtajknfoaiobleaaDoor
/- The contracts of law18's Within and alive. -/
namespace Go.Proofs.YtajknfoaiobleaaDoor
open Go.RowKit

/-- Those of a set that the image has. -/
def wthF (x : Img) (s : BitVec 32) : BitVec 32 := pre s.getLsbD x.tasks.length
theorem wthF_bit (x : Img) (s : BitVec 32) (i : Nat) (hi : i < 32) : (wthF x s).getLsbD i = (decide (i < x.tasks.length) && s.getLsbD i) := pre_bit _ _ _ hi
theorem wthF_lt {x : Img} {s : BitVec 32} {i : Nat} (hi : i < 32) (h : (wthF x s).getLsbD i = true) : i < x.tasks.length := by
  rw [wthF_bit _ _ _ hi] at h
  simp at h
  exact h.1
set_option maxHeartbeats 2000000 in
set_option maxRecDepth 100000 in
theorem Within_any {w : World} {x : Img} {S : ImgS} (s : BitVec 32) (hn : x.tasks.length ≤ 32) :
    Calls Tryd.prog 8 #[.agg #[.int .i64 x.res, .slice S.t.sp x.tasks.length S.t.c, .slice S.m.sp x.modes.length S.m.c, .slice S.e.sp x.edges.length S.e.c], .int .u32 (w32 s)] w fun e w' => e = .returned (.int .u32 (w32 (wthF x s))) ∧ Below w.heap.size w w' := by
  unfold wthF
  obtain ⟨nT, hnT⟩ : ∃ n, x.tasks.length = n := ⟨_, rfl⟩
  obtain ⟨nM, hnM⟩ : ∃ n, x.modes.length = n := ⟨_, rfl⟩
  obtain ⟨nE, hnE⟩ : ∃ n, x.edges.length = n := ⟨_, rfl⟩
  rw [hnT] at hn
  rw [hnT, hnM, hnE]
  obtain ⟨Z, hZ⟩ : ∃ Z, Z = w.heap.size := ⟨_, rfl⟩
  have HPs := Lib.hid (show ∀ k, pre s.getLsbD (k + 1) = if s.getLsbD k = true then pre s.getLsbD k ||| 1#32 <<< k else pre s.getLsbD k from fun k => rfl)
  have HP0 := Lib.hid (show pre s.getLsbD 0 = 0#32 from rfl)
  clear hnT hnM hnE
  go_enter Tryd.func8, Tryd.ntmps8
  go_upto_region 1 with fail
  rw [← hZ]
  generalize hw2 : World.alloc _ _ = w2
  have H2 := Lib.hid (show Below w.heap.size w w2 ∧ RowAt w2 Z 26 #[.int .i64 x.res, .slice S.t.sp nT S.t.c, .slice S.m.sp nM S.m.c, .slice S.e.sp nE S.e.c] by
    rw [← hw2, hZ]
    exact ⟨(Below.refl _ _).alloc (Nat.le_refl _) _, RowAt.mk _ _ _⟩)
  clear hw2 hZ
  have c1 : w2.cell? ⟨Z, 1, none⟩ = some (.slice S.t.sp nT S.t.c) := H2.out.2.cell 1
  go_wp2
  go_loopg [5, 6] nT (fun g u v wr => ∃ k : Nat, k + g = nT ∧ u = .int .u32 (w32 (pre s.getLsbD k)) ∧ v = .int .i64 (k : Nat) ∧ Aside (w2 = wr))
  case atStart => exact ⟨0, by omega, by rw [HP0.out]; rfl, rfl, rfl⟩
  case round =>
    obtain ⟨k, hkg, rfl, rfl, hw⟩ := hrel
    obtain rfl := hw.out
    clear hw
    cases gk with
    | zero =>
      obtain rfl : k = nT := by omega
      go_wp2
      go_ret
      exact ⟨rfl, H2.out.1⟩
    | succ g1 =>
      have hk : k < nT := by omega
      have e1 : (k : Int) < (nT : Int) := by omega
      have e2 : (k : Int) < 32 := by omega
      have HH := Lib.hid (has10_any s (k : Int) w2)
      rw [hasB_nat s k (by omega)] at HH
      have HW := Lib.hid (with_any (pre s.getLsbD k) (k : Int) w2)
      rw [onl_nat k (by omega)] at HW
      have hps := HPs.out k
      obtain ⟨p, hp⟩ : ∃ p, pre s.getLsbD k = p := ⟨_, rfl⟩
      rw [hp] at HW hps ⊢
      clear hp
      cases hbb : s.getLsbD k
      case false =>
        rw [hbb] at HH hps
        have HPS := Lib.hid (show pre s.getLsbD (k + 1) = p from hps.trans (if_neg (by decide)))
        clear hps hbb
        go_wp2_with (first
          | (go_at_call 20; refine HH.out.mono ?_; rintro e w' ⟨rfl, rfl⟩)
          | fail)
        go_roundg g1
        case measure => omega
        case rel => exact ⟨k + 1, by omega, by rw [HPS.out], by go_num, rfl⟩
      case true =>
        rw [hbb] at HH hps
        have HPS := Lib.hid (show pre s.getLsbD (k + 1) = p ||| 1#32 <<< k from hps.trans (if_pos rfl))
        clear hps hbb
        go_wp2_with (first
          | (go_at_call 20; refine HH.out.mono ?_; rintro e w' ⟨rfl, rfl⟩)
          | (go_at_call 18; refine HW.out.mono ?_; rintro e w' ⟨rfl, rfl⟩)
          | fail)
        go_roundg g1
        case measure => omega
        case rel => exact ⟨k + 1, by omega, by rw [HPS.out], by go_num, rfl⟩
def Z8 : List Int := [0, 0, 0, 0, 0, 0, 0, 0]
def X18 : Img := ⟨0, [⟨10, 10, 2, Z8⟩, ⟨20, 20, 5, Z8⟩], [⟨3#32, []⟩], []⟩
def S18 (b c : Nat) : ImgS := ⟨⟨some ⟨b, 0, none⟩, b, 0, 2⟩, ⟨some ⟨c, 0, none⟩, c, 0, 1⟩, ⟨none, 0, 0, 0⟩, fun _ => ⟨none, 0, 0, 0⟩⟩
def row22 : Array Value := (taskC ⟨10, 10, 2, Z8⟩ ++ taskC ⟨20, 20, 5, Z8⟩).toArray
theorem X18_at {w : World} {b c : Nat} {t u : TypeId} (h : RowAt w b t row22) (h2 : RowAt w c u #[.int .u32 3, .slice none 0 0]) : ImgAt w (fun _ => False) X18 (S18 b c) where
  st := ⟨fun _ => ⟨rfl, h.lt, fun h => h⟩, by decide⟩
  sm := ⟨fun _ => ⟨rfl, h2.lt, fun h => h⟩, by decide⟩
  se := ⟨fun h => absurd h (Nat.not_lt_zero 0), by decide⟩
  tk := fun k hk => by
    have hk2 : k < 2 := hk
    rcases k with _ | _ | k
    · exact ⟨at_of_row h (lt11 rfl rfl rfl rfl rfl rfl rfl rfl rfl rfl rfl), rfl⟩
    · exact ⟨at_of_row h (lt11 rfl rfl rfl rfl rfl rfl rfl rfl rfl rfl rfl), rfl⟩
    · omega
  md := fun k hk => by
    have hk2 : k < 1 := hk
    rcases k with _ | k
    · exact ⟨h2.cell 0, h2.cell 1, ⟨fun h => absurd h (Nat.not_lt_zero 0), by decide⟩⟩
    · omega
  qu := fun k hk j hj => by
    have hk2 : k < 1 := hk
    rcases k with _ | k
    · exact absurd hj (Nat.not_lt_zero j)
    · omega
  ed := fun k hk => absurd hk (Nat.not_lt_zero k)
theorem good18 : GoodI X18 := good_of_code (by kernel_rfl)
theorem mode18 : mdBad X18 3#32 = none ∧ (lst 3#32 32).length = 2 ∧ tT (mdR X18 3#32 ((lst 3#32 32).getD 0 0)) = 2 ∧ tT (mdR X18 3#32 ((lst 3#32 32).getD 1 0)) = 7 ∧ tT (bsR X18 3#32) = 16 ∧ tB (bsR X18 3#32) = true :=
  ⟨by kernel_rfl, by kernel_rfl, by kernel_rfl, by kernel_rfl, by kernel_rfl, by kernel_rfl⟩
set_option maxHeartbeats 2000000 in
set_option maxRecDepth 100000 in
theorem l18alive_any (w : World) (ht : Tab w) : Calls Tryd.prog 15 #[] w fun e w' => e = .returned (.bool true) ∧ Below w.heap.size w w' := by
  have hp := ht.pos
  have HTb := Lib.hid (show ∀ w', Below w.heap.size w w' → Tab w' from fun w' hb => ht.below hp hb)
  clear ht hp
  go_enter Tryd.func15, Tryd.ntmps15
  go_upto_region 2 with fail
  obtain ⟨Z, hZ⟩ : ∃ Z, Z = w.heap.size := ⟨_, rfl⟩
  generalize hw2 : World.alloc (World.alloc (World.alloc w _) _) _ = w2
  have H2 := Lib.hid (show Below w.heap.size w w2 ∧ w2.heap.size = Z + 3 ∧ RowAt w2 Z 50 row22 ∧ RowAt w2 (Z + 1) 55 #[.int .u32 3, .slice none 0 0] ∧ RowAt w2 (Z + 2) 26 #[.int .i64 0, .slice (some ⟨Z, 0, none⟩) 2 2, .slice (some ⟨Z + 1, 0, none⟩) 1 1, .slice none 0 0] by
    rw [← hw2, hZ]
    exact rows3 w _ _ _ _ _ _)
  rw [show w.heap.size + 1 + 1 = Z + 2 by omega, show w.heap.size + 1 = Z + 1 by omega, ← hZ]
  have HZ := Lib.hid hZ
  clear hw2 hZ
  have HMd := Lib.hid (show ∀ wx, Below w2.heap.size w2 wx → Calls Tryd.prog 34 #[.agg #[.int .i64 0, .slice (some ⟨Z, 0, none⟩) 2 2, .slice (some ⟨Z + 1, 0, none⟩) 1 1, .slice none 0 0], .int .u32 3] wx fun e w' => ∃ v ix ok, e = .returned (.tuple #[v, .int .i64 ix, .bool ok]) ∧ MdOut X18 3#32 w' wx.heap.size v ix ok ∧ Below wx.heap.size wx w' from fun wx hb =>
    stMode_any (X18_at (H2.out.2.2.1.new hb) (H2.out.2.2.2.1.new hb)) (HTb.out wx (H2.out.1.trans (hb.mono H2.out.1.size))) good18 3#32 (by decide +kernel))
  have HBu := Lib.hid (show ∀ wx, Below w2.heap.size w2 wx → Calls Tryd.prog 16 #[.agg #[.int .i64 0, .slice (some ⟨Z, 0, none⟩) 2 2, .slice (some ⟨Z + 1, 0, none⟩) 1 1, .slice none 0 0], .int .u32 3] wx fun e w' => e = .returned (.tuple #[.int .i64 16, .bool true]) ∧ Below wx.heap.size wx w' from fun wx hb => by
    have := stBusy_any (X18_at (H2.out.2.2.1.new hb) (H2.out.2.2.2.1.new hb)) (HTb.out wx (H2.out.1.trans (hb.mono H2.out.1.size))) good18 3#32
    rw [mode18.2.2.2.2.1, mode18.2.2.2.2.2] at this
    exact this)
  have c0 : w2.cell? ⟨Z + 2, 0, none⟩ = some (.int .i64 0) := H2.out.2.2.2.2.cell 0
  have c1 : w2.cell? ⟨Z + 2, 1, none⟩ = some (.slice (some ⟨Z, 0, none⟩) 2 2) := H2.out.2.2.2.2.cell 1
  have c2 : w2.cell? ⟨Z + 2, 2, none⟩ = some (.slice (some ⟨Z + 1, 0, none⟩) 1 1) := H2.out.2.2.2.2.cell 2
  have c3 : w2.cell? ⟨Z + 2, 3, none⟩ = some (.slice none 0 0) := H2.out.2.2.2.2.cell 3
  go_upto_region 3 with (first
    | (go_at_call 34; refine (HMd.out _ (Below.refl _ _)).mono ?_; rintro e w3 ⟨v, ix, ok, rfl, hm, b3⟩; have H3 := Lib.hid (And.intro b3 hm); clear b3 hm)
    | fail)
  have hm := H3.out.2
  unfold MdOut at hm
  rw [mode18.1, mode18.2.1] at hm
  obtain ⟨-, rfl, rfl, ho⟩ | ⟨b, hb, -⟩ := hm
  · obtain ⟨S4, rfl, h4, at4⟩ := own_rows ho (fun _ _ => rfl) (by decide)
    obtain ⟨hp4, -, hl4, -⟩ := h4 (by decide)
    obtain ⟨sp4, b4, o4, cp4⟩ := S4
    dsimp only at hp4 hl4 at4 ⊢
    subst hp4
    have r0 := at4 0 (by decide) 2 _ rfl
    have r1 := at4 1 (by decide) 2 _ rfl
    rw [mode18.2.2.1] at r0
    rw [mode18.2.2.2.1] at r1
    have HR := Lib.hid (show ∀ wx, Below w3.heap.size w3 wx → (wx.cell? ⟨b4, o4 + 2, none⟩ = some (.int .i64 2) ∧ wx.cell? ⟨b4, o4 + 3 + 2, none⟩ = some (.int .i64 7)) from fun wx hb => ⟨(hb.cell hl4).trans (by simpa using r0), (hb.cell hl4).trans (by simpa using r1)⟩)
    have HB3 := Lib.hid H3.out.1
    have HIm := Lib.hid (H2.out.2.2.2.2.new H3.out.1)
    clear c0 c1 c2 c3 ho h4 at4 r0 r1 H3 hl4 HMd
    have c0 : w3.cell? ⟨Z + 2, 0, none⟩ = some (.int .i64 0) := HIm.out.cell 0
    have c1 : w3.cell? ⟨Z + 2, 1, none⟩ = some (.slice (some ⟨Z, 0, none⟩) 2 2) := HIm.out.cell 1
    have c2 : w3.cell? ⟨Z + 2, 2, none⟩ = some (.slice (some ⟨Z + 1, 0, none⟩) 1 1) := HIm.out.cell 2
    have c3 : w3.cell? ⟨Z + 2, 3, none⟩ = some (.slice none 0 0) := HIm.out.cell 3
    go_wp2_with (first
      | (go_at_call 16; refine (HBu.out _ HB3.out).mono ?_; rintro e w4 ⟨rfl, b4⟩; have H4 := Lib.hid (And.intro (H2.out.1.trans ((HB3.out.trans (b4.mono HB3.out.size)).mono H2.out.1.size)) b4); obtain ⟨q0, q1⟩ := HR.out _ b4; clear b4 c0 c1 c2 c3)
      | fail)
    go_ret
    exact ⟨rfl, H4.out.1⟩
  · cases hb
end Go.Proofs.YtajknfoaiobleaaDoor
/- The contract of the reference's Right; the walk of SteadyBusy. -/
namespace Go.Proofs.YtajknfoaiobleaaDoor
open Go.RowKit

theorem img_cells {w : World} {Z : Nat} {a b c d : Value} (h : RowAt w Z 26 #[a, b, c, d]) : w.cell? ⟨Z, 0, none⟩ = some a ∧ w.cell? ⟨Z, 1, none⟩ = some b ∧ w.cell? ⟨Z, 2, none⟩ = some c ∧ w.cell? ⟨Z, 3, none⟩ = some d :=
  ⟨h.cell 0, h.cell 1, h.cell 2, h.cell 3⟩
/-- May an image be? -/
def rightB (x : Img) : Bool := (codeAll x).2 == 0
theorem rightB_good {x : Img} (h : rightB x = true) : GoodI x := good_of_code (by simpa [rightB] using h)
set_option maxHeartbeats 1000000 in
theorem rRight_any {w : World} {V : Nat → Prop} {x : Img} {S : ImgS} (h : ImgAt w V x S) :
    Calls Tryd.prog 7 #[.agg #[.int .i64 x.res, .slice S.t.sp x.tasks.length S.t.c, .slice S.m.sp x.modes.length S.m.c, .slice S.e.sp x.edges.length S.e.c]] w fun e w' => e = .returned (.bool (rightB x)) ∧ Below w.heap.size w w' := by
  have HC := Lib.hid (show ∀ wx, Below w.heap.size w wx → _ from fun wx hb => rCheck_any (h.new hb))
  unfold rightB
  obtain ⟨a, ha⟩ : ∃ a, (codeAll x).1 = a := ⟨_, rfl⟩
  obtain ⟨b, hb⟩ : ∃ a, (codeAll x).2 = a := ⟨_, rfl⟩
  rw [ha, hb] at HC
  rw [hb]
  clear ha hb h
  generalize x.tasks.length = nT at HC ⊢
  generalize x.modes.length = nM at HC ⊢
  generalize x.edges.length = nE at HC ⊢
  have HB := Lib.hid (show ∀ o, Below w.heap.size w (w.alloc o) from fun o => (Below.refl _ _).alloc (Nat.le_refl _) _)
  go_enter Tryd.func7, Tryd.ntmps7
  go_wp2_with (first
    | (go_at_call 19; refine (HC.out _ (HB.out _)).mono ?_; rintro e w3 ⟨rfl, b3⟩; have H3 := Lib.hid ((HB.out _).trans (b3.mono (HB.out _).size)); clear b3)
    | fail)
  go_ret
  exact ⟨rfl, H3.out⟩
set_option maxHeartbeats 4000000 in
set_option maxRecDepth 100000 in
theorem law_busy {w : World} {V : Nat → Prop} {x : Img} {S : ImgS} (h : ImgAt w V x S) (ht : Tab w) (s : BitVec 32) :
    Calls Tryd.prog 4 #[.agg #[.int .i64 x.res, .slice S.t.sp x.tasks.length S.t.c, .slice S.m.sp x.modes.length S.m.c, .slice S.e.sp x.edges.length S.e.c], .int .u32 (w32 s)] w fun e w' => e = .returned (.bool true) ∧ Below w.heap.size w w' := by
  have hp := ht.pos
  have HGr := Lib.hid (show ∀ wx, Below w.heap.size w wx → _ from fun wx hb => great10_any (h.new hb))
  have HRi := Lib.hid (show ∀ wx, Below w.heap.size w wx → _ from fun wx hb => rRight_any (h.new hb))
  have HWi := Lib.hid (show x.tasks.length ≤ 32 → ∀ wx : World, _ from fun hn wx => Within_any (w := wx) (x := x) (S := S) s hn)
  have HBs := Lib.hid (show GoodI x → ∀ wx, Below w.heap.size w wx → _ from fun hG wx hb => stBusy_any (h.new hb) (ht.below hp hb) hG (wthF x s))
  have HBr := Lib.hid (show GoodI x → ∀ wx, Below w.heap.size w wx → _ from fun hG wx hb => r18Busy_any (h.new hb) hG (wthF x s))
  have HAl := Lib.hid (show ∀ wx, Below w.heap.size w wx → _ from fun wx hb => l18alive_any wx (ht.below hp hb))
  have HGd := Lib.hid (show rightB x = true → GoodI x from rightB_good)
  obtain ⟨nT, hnT⟩ : ∃ n, x.tasks.length = n := ⟨_, rfl⟩
  obtain ⟨nM, hnM⟩ : ∃ n, x.modes.length = n := ⟨_, rfl⟩
  obtain ⟨nE, hnE⟩ : ∃ n, x.edges.length = n := ⟨_, rfl⟩
  rw [hnT, hnM, hnE] at HGr HRi HWi HBs HBr
  rw [hnT, hnM, hnE]
  have HN := Lib.hid hnT
  obtain ⟨Z, hZ⟩ : ∃ Z, Z = w.heap.size := ⟨_, rfl⟩
  clear h ht hp hnT hnM hnE
  go_enter Tryd.func4, Tryd.ntmps4
  go_upto_region 1 with fail
  rw [← hZ]
  generalize hw2 : World.alloc _ _ = w2
  have H2 := Lib.hid (show Below w.heap.size w w2 ∧ RowAt w2 Z 26 #[.int .i64 x.res, .slice S.t.sp nT S.t.c, .slice S.m.sp nM S.m.c, .slice S.e.sp nE S.e.c] by
    rw [← hw2, hZ]
    exact ⟨(Below.refl _ _).alloc (Nat.le_refl _) _, RowAt.mk _ _ _⟩)
  clear hw2 hZ
  obtain ⟨c0, c1, c2, c3⟩ := img_cells H2.out.2
  cases hg : greatI x
  case true =>
    rw [hg] at HGr
    clear hg
    go_wp2_with (first
      | (go_at_call 6; refine (HGr.out _ H2.out.1).mono ?_; rintro e w3 ⟨rfl, b3⟩; have H3 := Lib.hid (H2.out.1.trans (b3.mono H2.out.1.size)); clear b3)
      | fail)
    go_ret
    exact ⟨rfl, H3.out⟩
  case false =>
    rw [hg] at HGr
    clear hg
    cases hr : rightB x
    case false =>
      rw [hr] at HRi
      clear hr
      go_wp2_with (first
        | (go_at_call 6; refine (HGr.out _ H2.out.1).mono ?_; rintro e w3 ⟨rfl, b3⟩; have H3 := Lib.hid (And.intro (H2.out.1.trans (b3.mono H2.out.1.size)) (H2.out.2.new b3)); clear b3 c0 c1 c2 c3 HGr; obtain ⟨c0, c1, c2, c3⟩ := img_cells H3.out.2)
        | (go_at_call 7; refine (HRi.out _ H3.out.1).mono ?_; rintro e w4 ⟨rfl, b4⟩; have H4 := Lib.hid (H3.out.1.trans (b4.mono H3.out.1.size)); clear b4)
        | fail)
      go_ret
      exact ⟨rfl, H4.out⟩
    case true =>
      have HG := Lib.hid (HGd.out hr)
      rw [hr] at HRi
      have HWi2 := Lib.hid (fun (wx : World) (_ : Below w.heap.size w wx) => HWi.out (by have := HG.out.n16; have := HN.out; omega) wx)
      have HBs2 := Lib.hid (HBs.out HG.out)
      have HBr2 := Lib.hid (HBr.out HG.out)
      clear hr HWi HBs HBr HGd
      obtain ⟨y, hy⟩ : ∃ y, wthF x s = y := ⟨_, rfl⟩
      rw [hy] at HWi2 HBs2 HBr2
      obtain ⟨tt, htt⟩ : ∃ t, tT (bsR x y) = t := ⟨_, rfl⟩
      obtain ⟨bt, hbt⟩ : ∃ t, tB (bsR x y) = t := ⟨_, rfl⟩
      rw [htt, hbt] at HBs2 HBr2
      clear hy htt hbt
      go_wp2_with (first
        | (go_at_call 6; refine (HGr.out _ H2.out.1).mono ?_; rintro e w3 ⟨rfl, b3⟩; have H3 := Lib.hid (And.intro (H2.out.1.trans (b3.mono H2.out.1.size)) (H2.out.2.new b3)); clear b3 c0 c1 c2 c3 HGr; obtain ⟨c0, c1, c2, c3⟩ := img_cells H3.out.2)
        | (go_at_call 7; refine (HRi.out _ H3.out.1).mono ?_; rintro e w4 ⟨rfl, b4⟩; have H4 := Lib.hid (And.intro (H3.out.1.trans (b4.mono H3.out.1.size)) (H3.out.2.new b4)); clear b4 c0 c1 c2 c3 HRi; obtain ⟨c0, c1, c2, c3⟩ := img_cells H4.out.2)
        | (go_at_call 8; refine (HWi2.out _ H4.out.1).mono ?_; rintro e w5 ⟨rfl, b5⟩; have H5 := Lib.hid (And.intro (H4.out.1.trans (b5.mono H4.out.1.size)) (H4.out.2.new b5)); clear b5 c0 c1 c2 c3 HWi2; obtain ⟨c0, c1, c2, c3⟩ := img_cells H5.out.2)
        | (go_at_call 16; refine (HBs2.out _ H5.out.1).mono ?_; rintro e w6 ⟨rfl, b6⟩; have H6 := Lib.hid (And.intro (H5.out.1.trans (b6.mono H5.out.1.size)) (H5.out.2.new b6)); clear b6 c0 c1 c2 c3 HBs2; obtain ⟨c0, c1, c2, c3⟩ := img_cells H6.out.2)
        | (go_at_call 17; refine (HBr2.out _ H6.out.1).mono ?_; rintro e w7 ⟨rfl, b7⟩; have H7 := Lib.hid (And.intro (H6.out.1.trans (b7.mono H6.out.1.size)) (H6.out.2.new b7)); clear b7 c0 c1 c2 c3 HBr2; obtain ⟨c0, c1, c2, c3⟩ := img_cells H7.out.2)
        | (go_at_call 15; refine (HAl.out _ H7.out.1).mono ?_; rintro e w8 ⟨rfl, b8⟩; have H8 := Lib.hid (H7.out.1.trans (b8.mono H7.out.1.size)); clear b8)
        | fail)
      go_ret
      exact ⟨rfl, H8.out⟩
end Go.Proofs.YtajknfoaiobleaaDoor
/- The walk of DemandTerms. -/
namespace Go.Proofs.YtajknfoaiobleaaDoor
open Go.RowKit

theorem lst_pre (y : BitVec 32) (i n : Nat) (h : i ≤ n) : ∃ r, lst y n = lst y i ++ r := by
  induction n with
  | zero => exact ⟨[], by rw [show i = 0 by omega, List.append_nil]⟩
  | succ n ih =>
    by_cases e : i = n + 1
    · exact ⟨[], by rw [e, List.append_nil]⟩
    · obtain ⟨r, hr⟩ := ih (by omega)
      rw [lst_succ]
      split
      · exact ⟨r ++ [n], by rw [hr, List.append_assoc]⟩
      · exact ⟨r, hr⟩
theorem lst_flat (y : BitVec 32) (i n : Nat) (h : i ≤ n) (hb : ∀ j, i ≤ j → j < n → y.getLsbD j = false) : lst y n = lst y i := by
  induction n with
  | zero => rw [show i = 0 by omega]
  | succ n ih =>
    by_cases e : i = n + 1
    · rw [e]
    · rw [lst_succ, if_neg (by rw [hb n (by omega) (by omega)]; decide), ih (by omega) (fun j h1 h2 => hb j h1 (by omega))]
theorem lst_at {y : BitVec 32} {i : Nat} (hi : i < 32) (hb : y.getLsbD i = true) : (lst y i).length < (lst y 32).length ∧ (lst y 32).getD (lst y i).length 0 = i := by
  obtain ⟨r, hr⟩ := lst_pre y (i + 1) 32 (by omega)
  have h1 := lst_succ y i
  rw [if_pos hb] at h1
  rw [hr, h1]
  simp
theorem wrap_succ {k : Nat} (h : k < 100) : Value.int .i64 (wrap64 ((k : Int) + 1)) = .int .i64 ((k + 1 : Nat) : Int) := by
  rw [show wrap64 ((k : Int) + 1) = (k : Int) + 1 by unfold wrap64; omega]; rfl
theorem eqIn_term (dd : Nat) (a b c d : Int) (w : World) : (Op.equalIn (dd + 2) 80 (.agg #[.int .i64 a, .int .i64 b, .int .i64 c, .int .i64 d]) (.agg #[.int .i64 a, .int .i64 b, .int .i64 c, .int .i64 d])).run Tryd.prog w = .ok true w := by
  rw [run_equalIn_agg (P := Tryd.prog) w (dd + 1) 80 _ _ (by kernel_rfl) (by kernel_rfl)]
  simp [Op.eqFields, go_sem, part]
theorem neq_term (a b c d : Int) (w : World) : (Go.binOp .neq 80 (.agg #[.int .i64 a, .int .i64 b, .int .i64 c, .int .i64 d]) (.agg #[.int .i64 a, .int .i64 b, .int .i64 c, .int .i64 d])).run Tryd.prog w = .ok (.bool false) w := by
  have h : (Op.equal 80 (.agg #[.int .i64 a, .int .i64 b, .int .i64 c, .int .i64 d]) (.agg #[.int .i64 a, .int .i64 b, .int .i64 c, .int .i64 d])).run Tryd.prog w = .ok true w := eqIn_term 9998 a b c d w
  simp [Go.binOp, h]
end Go.Proofs.YtajknfoaiobleaaDoor
/- The contract of law18's modes. -/
namespace Go.Proofs.YtajknfoaiobleaaDoor
open Go.RowKit

set_option maxHeartbeats 4000000 in
set_option maxRecDepth 100000 in
theorem modes_any {w : World} {V : Nat → Prop} {x : Img} {S : ImgS} (h : ImgAt w V x S) (ht : Tab w) (hG : GoodI x) (s : BitVec 32) (hs : ∀ i, i < 32 → s.getLsbD i = true → i < x.tasks.length) :
    Calls Tryd.prog 14 #[.agg #[.int .i64 x.res, .slice S.t.sp x.tasks.length S.t.c, .slice S.m.sp x.modes.length S.m.c, .slice S.e.sp x.edges.length S.e.c], .int .u32 (w32 s)] w fun e w' => e = .returned (.bool true) ∧ Below w.heap.size w w' := by
  have hp := ht.pos
  have HI := Lib.hid h
  have HMd := Lib.hid (show ∀ wx, Below w.heap.size w wx → _ from fun wx hb => stMode_any (h.new hb) (ht.below hp hb) hG s hs)
  have HMr := Lib.hid (show ∀ wx, Below w.heap.size w wx → _ from fun wx hb => r18Mode_any (h.new hb) hG s hs)
  have HSl := Lib.hid (show ∀ wx, Below w.heap.size w wx → _ from fun wx hb => stSlack_any (h.new hb) (ht.below hp hb) hG s hs)
  have HRs := Lib.hid (show ∀ wx, Below w.heap.size w wx → ∀ i, i < x.tasks.length → _ from fun wx hb i hi => r18Resp_any (h.new hb) hG s s s i hi)
  have H16 := hG.n16
  have HLt := Lib.hid (show ∀ k, k < (lst s 32).length → (lst s 32).getD k 0 < x.tasks.length from fun k hk => by
    have hm : (lst s 32).getD k 0 ∈ lst s 32 := by rw [List.getD_eq_getElem?_getD, List.getElem?_eq_getElem hk]; exact List.getElem_mem hk
    have := (mem_lst _ _ _).1 hm
    exact hs _ this.1 this.2)
  have HSr := Lib.hid (slK_rng hG s HLt.out)
  have HRr := Lib.hid (show ∀ i, i < x.tasks.length → 0 ≤ tT (mdR x s i) ∧ tT (mdR x s i) ≤ (x.t i).dl ∧ (x.t i).dl ≤ 4096 from fun i hi => ⟨(rsp_rng hG s s (ceilF x s) hi).1, (rsp_rng hG s s (ceilF x s) hi).2, (hG.dl i hi).2⟩)
  have HEnd := Lib.hid (show lst s x.tasks.length = lst s 32 from (lst_cut (by omega) (fun i a b => by
    cases hb : s.getLsbD i
    · rfl
    · have := hs i b hb; omega)).symm)
  have HL32 := Lib.hid (lst_len s 32)
  have HLa := Lib.hid (show ∀ i, i < 32 → s.getLsbD i = true → (lst s i).length < (lst s 32).length ∧ (lst s 32).getD (lst s i).length 0 = i from fun i a b => lst_at a b)
  unfold MdOut at HMd
  have HSV := Lib.hid (show slV x s = (if mdBad x s = none ∧ 0 < (lst s 32).length then slK x s (lst s 32) (lst s 32).length else 0) ∧ slB x s = ((mdBad x s).isNone && decide (0 < (lst s 32).length)) from ⟨rfl, rfl⟩)
  have HMI := Lib.hid (show mdI x s = (match mdBad x s with | some b => (b : Int) | none => -1) from rfl)
  obtain ⟨sv, hsv⟩ : ∃ v, slV x s = v := ⟨_, rfl⟩
  obtain ⟨sb, hsb⟩ : ∃ v, slB x s = v := ⟨_, rfl⟩
  obtain ⟨mi, hmi⟩ : ∃ v, mdI x s = v := ⟨_, rfl⟩
  rw [hsv, hsb] at HSV HSl
  rw [hmi] at HMI HMr
  clear hsv hsb hmi
  obtain ⟨L, hL⟩ : ∃ L, lst s 32 = L := ⟨_, rfl⟩
  rw [hL] at HLt HL32 HMd HSr HSV HEnd HLa
  obtain ⟨nT, hnT⟩ : ∃ n, x.tasks.length = n := ⟨_, rfl⟩
  obtain ⟨nM, hnM⟩ : ∃ n, x.modes.length = n := ⟨_, rfl⟩
  obtain ⟨nE, hnE⟩ : ∃ n, x.edges.length = n := ⟨_, rfl⟩
  rw [hnT, hnM, hnE] at HMd HMr HSl HRs
  rw [hnT] at HLt HRr HEnd H16
  rw [hnT, hnM, hnE]
  have HN := Lib.hid hnT
  obtain ⟨Z, hZ⟩ : ∃ Z, Z = w.heap.size := ⟨_, rfl⟩
  clear h ht hp hnT hnM hnE hG hs hL
  go_enter Tryd.func14, Tryd.ntmps14
  go_upto_region 1 with fail
  rw [← hZ]
  generalize hw2 : World.alloc _ _ = w2
  have H2 := Lib.hid (show Below w.heap.size w w2 ∧ RowAt w2 Z 26 #[.int .i64 x.res, .slice S.t.sp nT S.t.c, .slice S.m.sp nM S.m.c, .slice S.e.sp nE S.e.c] by
    rw [← hw2, hZ]
    exact ⟨(Below.refl _ _).alloc (Nat.le_refl _) _, RowAt.mk _ _ _⟩)
  clear hw2 hZ
  obtain ⟨c0, c1, c2, c3⟩ := img_cells H2.out.2
  go_upto_region 4 with (first
    | (go_at_call 34; refine (HMd.out _ H2.out.1).mono ?_; rintro e w3 ⟨v, ix, ok, rfl, hm, b3⟩; have H3 := Lib.hid (And.intro (H2.out.1.trans (b3.mono H2.out.1.size)) (H2.out.2.new b3)); have HM := Lib.hid hm; clear b3 hm c0 c1 c2 c3; obtain ⟨c0, c1, c2, c3⟩ := img_cells H3.out.2)
    | (go_at_call 35; refine (HMr.out _ H3.out.1).mono ?_; rintro e w4 ⟨rfl, b4⟩; have H4 := Lib.hid (show Below w.heap.size w w4 ∧ RowAt w4 Z 26 #[.int .i64 x.res, .slice S.t.sp nT S.t.c, .slice S.m.sp nM S.m.c, .slice S.e.sp nE S.e.c] ∧ Below w3.heap.size w3 w4 from ⟨H3.out.1.trans (b4.mono H3.out.1.size), H3.out.2.new b4, b4⟩); clear b4 c0 c1 c2 c3; obtain ⟨c0, c1, c2, c3⟩ := img_cells H4.out.2.1)
    | (go_at_call 36; refine (HSl.out _ H4.out.1).mono ?_; rintro e w5 ⟨rfl, b5⟩; have H5 := Lib.hid (show Below w.heap.size w w5 ∧ RowAt w5 Z 26 #[.int .i64 x.res, .slice S.t.sp nT S.t.c, .slice S.m.sp nM S.m.c, .slice S.e.sp nE S.e.c] ∧ Below w3.heap.size w3 w5 from ⟨H4.out.1.trans (b5.mono H4.out.1.size), H4.out.2.1.new b5, H4.out.2.2.trans (b5.mono H4.out.2.2.size)⟩); clear b5 c0 c1 c2 c3)
    | fail)
  clear H2 HMd HMr HSl H4
  obtain ⟨hn, rfl, rfl, ho⟩ | ⟨b, hb, rfl, rfl, rfl⟩ := HM.out
  · clear HM
    obtain ⟨N, hN⟩ : ∃ N, L.length = N := ⟨_, rfl⟩
    rw [hN] at ho
    have hmi : mi = -1 := by rw [HMI.out, hn]
    subst hmi
    have HSV2 := Lib.hid (show sv = (if 0 < N then slK x s L N else 0) ∧ sb = decide (0 < N) by
      rw [HSV.out.1, HSV.out.2, hn, hN]; simp)
    obtain ⟨sp, cap, rfl⟩ := own_val ho
    have HNN := Lib.hid hN
    have HAt := Lib.hid (show ∃ S4 : Src, (0 < N → sp = some ⟨S4.b, S4.o, none⟩) ∧ ∀ k, k < N → ∀ wx, Below w3.heap.size w3 wx → (wx.cell? ⟨S4.b, S4.o + k * 3, none⟩ = some (.int .i64 (L.getD k 0 : Nat)) ∧ wx.cell? ⟨S4.b, S4.o + k * 3 + 2, none⟩ = some (.int .i64 (tT (mdR x s (L.getD k 0))))) by
      obtain ⟨S4, e4, h4, at4⟩ := own_rows ho (fun _ _ => rfl) (by have := HL32.out; omega)
      refine ⟨S4, fun h0 => by injection e4 with e4; rw [e4, (h4 h0).1], fun k hk wx hb => ⟨(hb.cell (h4 (by omega)).2.2.1).trans (at4 k hk 0 _ rfl), (hb.cell (h4 (by omega)).2.2.1).trans (at4 k hk 2 _ rfl)⟩⟩)
    obtain ⟨S4, hsp4, hat4⟩ := HAt.out
    have HSp := Lib.hid hsp4
    have HA4 := Lib.hid hat4
    clear ho hn hN HSV HMI HAt hsp4 hat4
    obtain ⟨b4, hb4⟩ : ∃ b, S4.b = b := ⟨_, rfl⟩
    obtain ⟨o4, ho4⟩ : ∃ b, S4.o = b := ⟨_, rfl⟩
    rw [hb4, ho4] at HSp HA4
    clear hb4 ho4
    have c1 : w5.cell? ⟨Z, 1, none⟩ = some (.slice S.t.sp nT S.t.c) := H5.out.2.1.cell 1
    go_upto_region 7 with fail
    clear c1
    go_wp2
    go_loopg [11, 12, 13] nT (fun g u11 u12 u13 wr => ∃ i : Nat, i + g = nT ∧ u11 = .int .i64 ((lst s i).length : Nat) ∧ u12 = .int .i64 (slK x s L (lst s i).length) ∧ u13 = .int .i64 (i : Nat) ∧ Aside (Below w5.heap.size w5 wr))
    case atStart => exact ⟨0, by omega, rfl, rfl, rfl, Below.refl _ _⟩
    case round =>
      obtain ⟨i, hig, rfl, rfl, rfl, HQ⟩ := hrel
      have HQ2 := Lib.hid (show Below w.heap.size w wr ∧ RowAt wr Z 26 #[.int .i64 x.res, .slice S.t.sp nT S.t.c, .slice S.m.sp nM S.m.c, .slice S.e.sp nE S.e.c] ∧ Below w3.heap.size w3 wr from ⟨H5.out.1.trans (HQ.out.mono H5.out.1.size), H5.out.2.1.new HQ.out, H5.out.2.2.trans (HQ.out.mono H5.out.2.2.size)⟩)
      obtain ⟨c0, c1, c2, c3⟩ := img_cells HQ2.out.2.1
      cases gk with
      | zero =>
        obtain rfl : i = nT := by omega
        rw [HEnd.out, HNN.out]
        obtain ⟨hsv, hsb⟩ := HSV2.out
        by_cases h0 : N = 0
        · subst h0
          rw [if_neg (by omega)] at hsv
          obtain rfl := hsv
          obtain rfl : sb = false := by rw [hsb]; rfl
          clear HSV2 hsb
          go_wp2
          go_ret
          exact ⟨rfl, HQ2.out.1⟩
        · rw [if_pos (by omega)] at hsv
          obtain rfl : sb = true := by rw [hsb]; simp; omega
          have hN0 : ¬ ((N : Nat) : Int) = 0 := by omega
          have hN1 : (0 : Int) < ((N : Nat) : Int) := by omega
          have hN2 : 0 < N := by omega
          rw [← hsv]
          clear HSV2 hsb hsv
          go_wp2
          go_ret
          exact ⟨rfl, HQ2.out.1⟩
      | succ g1 =>
        have hk : i < nT := by omega
        have e1 : (i : Int) < (nT : Int) := by omega
        have HH := Lib.hid (has10_any s (i : Int) wr)
        rw [hasB_nat s i (by omega)] at HH
        have hl1 := lst_succ s i
        cases hbb : s.getLsbD i
        case false =>
          rw [hbb] at HH hl1
          have HLS := Lib.hid (show lst s (i + 1) = lst s i from hl1.trans (if_neg (by decide)))
          clear hl1 hbb
          go_wp2_with (first
            | (go_at_call 20; refine HH.out.mono ?_; rintro e w' ⟨rfl, rfl⟩)
            | fail)
          go_roundg g1
          case measure => omega
          case rel => exact ⟨i + 1, by omega, by rw [HLS.out], by rw [HLS.out], by go_num, HQ.out⟩
        case true =>
          rw [hbb] at HH hl1
          have HLS := Lib.hid (show (lst s (i + 1)).length = (lst s i).length + 1 by rw [hl1, if_pos rfl, List.length_append]; rfl)
          obtain ⟨hkl, hkg⟩ := HLa.out i (by omega) hbb
          have HSt := Lib.hid (show slK x s L ((lst s i).length + 1) = min (slK x s L (lst s i).length) ((x.t i).dl - tT (mdR x s i)) by
            have e : slK x s L ((lst s i).length + 1) = min (slK x s L (lst s i).length) ((x.t (L.getD (lst s i).length 0)).dl - tT (mdR x s (L.getD (lst s i).length 0))) := rfl
            rw [e, hkg])
          have HSs := Lib.hid (HSr.out (lst s i).length (by omega))
          have hrr := HRr.out i hk
          have HA := Lib.hid (HA4.out (lst s i).length (by rw [← HNN.out]; exact hkl))
          rw [hkg] at HA
          obtain ⟨k, hkk⟩ : ∃ k, (lst s i).length = k := ⟨_, rfl⟩
          rw [hkk] at HLS HSt HSs HA hkl ⊢
          rw [HNN.out] at hkl
          obtain rfl := HSp.out (by omega)
          have hk2 : (k : Int) < (N : Int) := by omega
          have hk32 : (k : Int) < 32 := by have := HL32.out; rw [HNN.out] at this; omega
          have HC := Lib.hid (HRs.out wr HQ2.out.1 i hk)
          rw [show rspF x s s (ceilF x s) i = mdR x s i from rfl] at HC
          have HIw := Lib.hid (show ∀ wx, Below wr.heap.size wr wx → (wx.cell? ⟨Z, 1, none⟩ = some (.slice (some ⟨S.t.b, S.t.o, none⟩) nT S.t.c) ∧ wx.cell? ⟨S.t.b, S.t.o + i * 11 + 1, none⟩ = some (.int .i64 (x.t i).dl) ∧ Below w3.heap.size w3 wx ∧ Below w5.heap.size w5 wx) from fun wx hb => by
            have h1 := HI.out.new (HQ2.out.1.trans (hb.mono HQ2.out.1.size))
            obtain ⟨hsp, -, -⟩ := h1.st.at_ (by rw [HN.out]; omega)
            rw [← hsp]
            exact ⟨(HQ2.out.2.1.new hb).cell 1, (task_cells h1 (i := i) (by rw [HN.out]; exact hk)).2.1, HQ2.out.2.2.trans (hb.mono HQ2.out.2.2.size), HQ.out.trans (hb.mono HQ.out.size)⟩)
          obtain ⟨tt, htt⟩ : ∃ a, tT (mdR x s i) = a := ⟨_, rfl⟩
          obtain ⟨bt, hbt⟩ : ∃ a, tB (mdR x s i) = a := ⟨_, rfl⟩
          obtain ⟨dl, hdl⟩ : ∃ a, (x.t i).dl = a := ⟨_, rfl⟩
          obtain ⟨m, hm⟩ : ∃ a, slK x s L k = a := ⟨_, rfl⟩
          rw [htt, hbt] at HC
          rw [htt, hdl] at hrr HSt
          rw [htt] at HA
          rw [hdl] at HIw
          rw [hm] at HSt HSs ⊢
          have hwr : IntKind.i64.wrap (dl - tt) = dl - tt := by rw [IntKind.wrap_i64]; omega
          clear hl1 hbb hkg hkk htt hbt hdl hm HLa
          by_cases hlt : dl - tt < m
          · have HS2 := Lib.hid (show slK x s L (k + 1) = dl - tt by rw [HSt.out]; omega)
            go_wp2_with (first
              | (go_at_call 20; refine HH.out.mono ?_; rintro e w' ⟨rfl, rfl⟩)
              | (go_at_call 10; refine HC.out.mono ?_; rintro e w6 ⟨rfl, b6⟩; clear c0 c1 c2 c3; obtain ⟨c1, q1, b36, b56⟩ := HIw.out _ b6; obtain ⟨r0, r2⟩ := HA.out _ b36; have H6 := Lib.hid b56; clear b6 b36 b56)
              | fail)
            go_roundg g1
            case measure => omega
            case rel => exact ⟨i + 1, by omega, by rw [HLS.out]; go_num, by rw [HLS.out, HS2.out], by go_num, H6.out⟩
          · have HS2 := Lib.hid (show slK x s L (k + 1) = m by rw [HSt.out]; omega)
            go_wp2_with (first
              | (go_at_call 20; refine HH.out.mono ?_; rintro e w' ⟨rfl, rfl⟩)
              | (go_at_call 10; refine HC.out.mono ?_; rintro e w6 ⟨rfl, b6⟩; clear c0 c1 c2 c3; obtain ⟨c1, q1, b36, b56⟩ := HIw.out _ b6; obtain ⟨r0, r2⟩ := HA.out _ b36; have H6 := Lib.hid b56; clear b6 b36 b56)
              | fail)
            go_roundg g1
            case measure => omega
            case rel => exact ⟨i + 1, by omega, by rw [HLS.out]; go_num, by rw [HLS.out, HS2.out], by go_num, H6.out⟩
  · have hmi : mi = (b : Int) := by rw [HMI.out, hb]
    subst hmi
    have HE := Lib.hid (show sv = 0 ∧ sb = false by rw [HSV.out.1, HSV.out.2, hb]; simp)
    obtain ⟨rfl, rfl⟩ := HE.out
    clear hb HM HSV HMI HE
    have hb0 : (0 : Int) ≤ (b : Int) := by omega
    go_wp2
    go_ret
    exact ⟨rfl, H5.out.1⟩
end Go.Proofs.YtajknfoaiobleaaDoor
