/- Several texts in one: CR. -/
import Derived.Test.YthpagbfabpfngaaPk31
import Derived.Deep.Cut
import Derived.Deep.CutRange
/- The walk of BankPlays. -/
namespace Go.Proofs.Ythpagbfabpfngaa
open Go.RowKit

/-- What lies where between two rounds of the law: the bench, and both sides. -/
structure PL (w0 w : World) (Z B q S : Nat) (g : Nat → Nat) (bL cL bW cW : Nat) (s : Jt) (sp : Option Addr) (bp cap : Nat) : Prop where
  x : RowAt w Z 53 (benchC q B bL cL bW cW s.d.nn s.op sp s.X.length cap)
  j : JAt w B q S g bL cL bW s sp bp
  own : ∀ j, OwnB B q S g 4 j → w0.heap.size ≤ j
  nx : ¬ OwnB B q S g 4 Z
  xb : w0.heap.size ≤ Z
  b : Below w0.heap.size w0 w
section
variable {w0 w w' : World} {Z B q S : Nat} {g : Nat → Nat} {bL cL bW cW : Nat} {s : Jt} {sp : Option Addr} {bp cap : Nat}
theorem PL.new (h : PL w0 w Z B q S g bL cL bW cW s sp bp cap) (hb : Below w.heap.size w w') : PL w0 w' Z B q S g bL cL bW cW s sp bp cap :=
  ⟨h.x.new hb, h.j.new hb, h.own, h.nx, h.xb, h.b.trans (hb.mono h.b.size)⟩
theorem JAt.put {cs old : Array Value} {u : Addr} (h : JAt w B q S g bL cL bW s sp bp) (hx : RowAt w Z 53 old) (h0 : old[0]? = some (.pointer (some u))) (hn : ¬ OwnB B q S g 4 Z) : JAt (w.setRow Z cs) B q S g bL cL bW s sp bp := by
  have c0 : w.cell? ⟨Z, 0, none⟩ = some (.pointer (some u)) := (hx.cell 0).trans h0
  have hz := h.good.h4
  have nL : ¬ bL = Z := fun e => by
    have := h.ref.cl 0 0 (by show 0 < s.d.ns; omega) (by show 0 < s.d.nw; omega)
    rw [Nat.zero_mul, e, c0] at this
    cases this
  have nW : ¬ bW = Z := fun e => by
    have := h.ref.cw 0 (by show 0 < s.d.ns; omega)
    rw [e, c0] at this
    cases this
  have hc : Ch (fun j => j = Z) w (w.setRow Z cs) := ch_setRow w Z cs
  refine ⟨h.bk.keep hc (fun j hj e => hn (by rw [← e]; rw [hz.1] at hj; exact hj)), h.ref.keep hc nL nW, h.cp, h.ws.keep hc (fun h1 e => ?_), h.apL, h.apW, h.apP, h.good⟩
  have := h.ws.cell 0 h1
  rw [e, c0] at this
  cases this
theorem PL.step {s' : Jt} {bL' cL' bW' cW' bp' cap' : Nat} {sp' : Option Addr} (h : PL w0 w Z B q S g bL cL bW cW s sp bp cap) (hj : JAt w' B q S g bL' cL' bW' s' sp' bp') (hc : Ch (OwnB B q S g 4) w w') :
    RowAt w' Z 53 (benchC q B bL cL bW cW s.d.nn s.op sp s.X.length cap) ∧ PL w0 (w'.setRow Z (benchC q B bL' cL' bW' cW' s'.d.nn s'.op sp' s'.X.length cap')) Z B q S g bL' cL' bW' cW' s' sp' bp' cap' := by
  have hx := h.x.keep hc h.nx
  exact ⟨hx, RowAt.put hx, hj.put hx rfl h.nx, h.own, h.nx, h.xb, below_setRow (h.b.trans (hc.below (fun j hj ho => by have := h.own j ho; omega) h.b.size)) h.xb _⟩
end
section
variable {w0 w : World} {Z B q S : Nat} {g : Nat → Nat} {bL cL bW cW : Nat} {s : Jt} {sp : Option Addr} {bp cap : Nat}
theorem PL.c0 (h : PL w0 w Z B q S g bL cL bW cW s sp bp cap) : w.cell? ⟨Z, 0, none⟩ = some (.pointer (some ⟨q, 0, none⟩)) := h.x.cell 0
theorem PL.c1 (h : PL w0 w Z B q S g bL cL bW cW s sp bp cap) : w.cell? ⟨Z, 1, none⟩ = some (.pointer (some ⟨B, 0, none⟩)) := h.x.cell 1
theorem PL.c7 (h : PL w0 w Z B q S g bL cL bW cW s sp bp cap) : w.cell? ⟨Z, 7, none⟩ = some (.bool (!s.d.nn.on)) := h.x.cell 7
theorem PL.c12 (h : PL w0 w Z B q S g bL cL bW cW s sp bp cap) : w.cell? ⟨Z, 12, none⟩ = some (.bool s.op) := h.x.cell 12
theorem PL.c13 (h : PL w0 w Z B q S g bL cL bW cW s sp bp cap) : w.cell? ⟨Z, 13, none⟩ = some (.slice sp s.X.length cap) := h.x.cell 13
end
/-- The image, as a row: none is the row of no words. -/
def imgL (d : Dev) : List (BitVec 32) := (imageR d 0 4).getD []
def imgB (d : Dev) : Bool := (imageR d 0 4).isSome
theorem code_image {w : World} {B q S : Nat} {g : Nat → Nat} {s : Jt} (hg : s.good) (h : Bk w B q S g s.d 0 4 s.op s.P) : Calls Try.prog 13 #[.pointer (some ⟨B, 0, none⟩)] w fun e w' =>
    ∃ sp b o cap, e = .returned (.tuple #[.slice sp (imgL s.d).length cap, .bool (imgB s.d)]) ∧ Ws w' sp b o (imgL s.d).length (nthW (imgL s.d)) ∧ (0 < (imgL s.d).length → w.heap.size ≤ b) ∧ Below w.heap.size w w' := by
  refine (image_any h (by rw [room4 hg.h4.2]; omega)).mono ?_
  intro e w' hv
  unfold imgL imgB
  unfold ImageV at hv
  cases hi : imageR s.d 0 4 with
  | none =>
    rw [hi] at hv
    obtain ⟨rfl, hb⟩ := hv
    exact ⟨none, 0, 0, 0, rfl, ⟨fun h0 => absurd h0 (Nat.lt_irrefl 0), fun k hk => absurd hk (Nat.not_lt_zero k)⟩, fun h0 => absurd h0 (Nat.lt_irrefl 0), hb⟩
  | some L =>
    rw [hi] at hv
    obtain ⟨v, rfl, ho, hb⟩ := hv
    obtain ⟨sp, b, cap, rfl, hw, hlo⟩ := own_ws ho rfl
    exact ⟨sp, b, 0, cap, rfl, hw, hlo, hb⟩
theorem law_image {w : World} {s : Jt} {bL bW : Nat} (hg : s.good) (h : RefIn w bL bW s.d.nn) (cL cW : Nat) (hc : 4 * 13 ≤ cL) : Calls Try.prog 21 #[.agg (cellsD bL cL bW cW s.d.nn)] w fun e w' =>
    ∃ sp b o cap, e = .returned (.tuple #[.slice sp (imgL s.d).length cap, .bool (imgB s.d)]) ∧ Ws w' sp b o (imgL s.d).length (nthW (imgL s.d)) ∧ (imgL s.d).length ≤ 26 ∧ Below w.heap.size w w' := by
  refine (limage_any h cL cW (by rw [show s.d.nn.ns = 4 from hg.h4.1, show s.d.nn.nw = 13 from hg.h4.2]; exact hc) hg.h4).mono ?_
  intro e w' hv
  rw [nn_imageR] at hv
  unfold imgL imgB
  unfold LImageV at hv
  cases hi : imageR s.d 0 4 with
  | none =>
    rw [hi] at hv
    obtain ⟨rfl, hb⟩ := hv
    exact ⟨none, 0, 0, 0, rfl, ⟨fun h0 => absurd h0 (Nat.lt_irrefl 0), fun k hk => absurd hk (Nat.not_lt_zero k)⟩, Nat.zero_le _, hb⟩
  | some L =>
    rw [hi] at hv
    obtain ⟨cap, rfl, hl, hw, hb⟩ := hv
    exact ⟨_, _, _, cap, rfl, hw, hl, hb⟩
theorem ws_sector {w : World} {b : Nat} {l : Nat → BitVec 32} {sp : Option Addr} {o : Nat} (h : Ws w sp b o 13 l) : Ws w sp b o ((List.range 13).map l).length (nthW ((List.range 13).map l)) := by
  rw [show ((List.range 13).map l).length = 13 by simp]
  exact ⟨h.sp, fun k hk => by rw [h.cell k hk]; simp [nthW, hk]⟩
/-- A row of words is itself. -/
theorem lrow_self {w : World} {spA spB : Option Addr} {bA oA cA bB oB cB : Nat} (L : List (BitVec 32)) (hL : L.length ≤ 100000) (hA : Ws w spA bA oA L.length (nthW L)) (hB : Ws w spB bB oB L.length (nthW L)) :
    Calls Try.prog 22 #[.slice spA L.length cA, .slice spB L.length cB] w fun e w' => e = .returned (.bool true) ∧ ∃ n, w' = w.drewN n := by
  have := lrow_any (cA := cA) (cB := cB) L L hL hL hA hB
  rw [decide_eq_true rfl] at this
  exact this
theorem lrow13 {w : World} {spA spB : Option Addr} {bA oA cA bB oB cB : Nat} {l : Nat → BitVec 32} (hA : Ws w spA bA oA 13 l) (hB : Ws w spB bB oB 13 l) :
    Calls Try.prog 22 #[.slice spA 13 cA, .slice spB 13 cB] w fun e w' => e = .returned (.bool true) ∧ ∃ n, w' = w.drewN n := by
  have h := lrow_self (cA := cA) (cB := cB) ((List.range 13).map l) (by rw [List.length_map, List.length_range]; omega) (ws_sector hA) (ws_sector hB)
  rw [show ((List.range 13).map l).length = 13 by rw [List.length_map, List.length_range]] at h
  exact h
set_option maxHeartbeats 16000000 in
set_option maxRecDepth 100000 in
theorem law_plays {w : World} {b off : Nat} {O : List Op8} {R : Nat → Src} (h : Ops8 w b off O R) {spo : Option Addr} (hs : 0 < O.length → spo = some ⟨b, off, none⟩) (capo : Nat) :
    Calls Try.prog 4 #[.slice spo O.length capo] w fun e w' => e = .returned (.bool true) ∧ Below w.heap.size w w' := by
  have HO := Lib.hid (show ∀ wx, Below w.heap.size w wx → Ops8 wx b off O R from fun wx hb => h.below hb)
  have HS := Lib.hid hs
  have HGr := Lib.hid (great_any h hs capo)
  have HSt := Lib.hid (fun wx => start_any 5 ⟨by decide, by decide⟩ wx)
  have HAl := Lib.hid (fun wx => balive_any wx)
  have HLo := Lib.hid (show ∀ (B q S : Nat) (g : Nat → Nat), (∀ j, OwnB B q S g 4 j → w.heap.size ≤ j) → ∀ k, k < O.length → 0 < (op8 O k).W.length → ¬ OwnB B q S g 4 (R k).bm from fun B q S g ho k hk h0 hb => by
    have := ho _ hb
    have := ((h.ws k hk).sp h0).2
    omega)
  obtain ⟨n, hn⟩ : ∃ n, O.length = n := ⟨_, rfl⟩
  have HN := Lib.hid hn
  rw [hn] at HGr ⊢
  clear h hs hn
  cases hg : greatB O with
  | true =>
    rw [hg] at HGr
    clear hg
    go_enter Try.func4, Try.ntmps4
    go_wp2_with (first
      | (go_at_call 18; refine HGr.out.mono ?_; rintro e w1 ⟨rfl, q1, rfl⟩)
      | fail)
    go_ret
    exact ⟨rfl, below_dn (Below.refl _ _) _⟩
  | false =>
    rw [hg] at HGr
    have HNG := Lib.hid (great_no hg)
    clear hg
    go_enter Try.func4, Try.ntmps4
    go_upto_region 4 with (first
      | (go_at_call 18; refine HGr.out.mono ?_; rintro e w1 ⟨rfl, q1, rfl⟩)
      | (go_at_call 19; refine (HSt.out _).mono ?_; rintro e w2 ⟨B, q, S, g, bL0, cL0, bW0, cW0, rfl, hj2, ho2, hb2⟩; have H2 := Lib.hid (And.intro hj2 (And.intro ho2 hb2)); clear hj2 ho2 hb2)
      | (refine wpList_store_row rfl 53 (.tmp 3) (.tmp 17) rfl w2.heap.size (benchC q B bL0 cL0 bW0 cW0 (Jt.fresh 5).d.nn false none 0 0) rfl rfl 53 benchZ (RowAt.mk w2 _ _) (by kernel_rfl) rfl (benchC_one _ _ _ _ _ _ _ _ _ _ _) ?_
         generalize hw3 : World.setRow _ _ _ = w3
         have H3 := Lib.hid (show PL w w3 w2.heap.size B q S g bL0 cL0 bW0 cW0 (Jt.fresh 5) none 0 0 by
           have hba : Below w2.heap.size w2 (w2.alloc (.cells benchZ 53)) := (Below.refl _ _).alloc (Nat.le_refl _) _
           have hja := H2.out.1.new hba
           have hlt := H2.out.1.lt
           have hnx : ¬ OwnB B q S g 4 w2.heap.size := fun h1 => by have := hlt _ h1; omega
           have hrow : RowAt (w2.alloc (.cells benchZ 53)) w2.heap.size 53 benchZ := RowAt.mk w2 _ _
           have hc := ch_setRow (w2.alloc (.cells benchZ 53)) w2.heap.size (benchC q B bL0 cL0 bW0 cW0 (Jt.fresh 5).d.nn false none 0 0)
           have hb0 : Below w.heap.size w w2 := (below_dn (Below.refl w.heap.size w) q1).trans H2.out.2.2
           rw [← hw3]
           refine ⟨RowAt.put hrow, ⟨hja.bk.keep hc (fun j hj e => hnx (by rw [← e]; exact hj)), hja.ref.keep hc (by have := H2.out.1.ref.ltL; show ¬ bL0 = _; omega) (by have := H2.out.1.ref.ltW; show ¬ bW0 = _; omega), hja.cp, ⟨fun h0 => absurd h0 (Nat.lt_irrefl 0), fun k hk => absurd hk (Nat.not_lt_zero k)⟩, hja.apL, hja.apW, hja.apP, hja.good⟩, H2.out.2.1, hnx, hb0.size, below_setRow (hb0.trans (hba.mono hb0.size)) hb0.size _⟩)
         clear hw3)
      | fail)
    obtain ⟨Z, hZ⟩ : ∃ Z, w2.heap.size = Z := ⟨_, rfl⟩
    rw [hZ] at H3 ⊢
    clear H2 hZ HGr HSt
    go_upto_region 7 with fail
    go_loopg [5] n (fun m v wr => ∃ k : Nat, k + m = n ∧ v = .int .i64 (k : Nat) ∧ Aside (∃ bL cL bW cW s sp bp cap, PL w wr Z B q S g bL cL bW cW s sp bp cap ∧ s.d.ops ≤ 41 * k))
    case atStart => exact ⟨0, by omega, rfl, _, _, _, _, _, _, _, _, H3.out, by show (0 : Int) ≤ _; omega⟩
    case round =>
      obtain ⟨k, hkm, rfl, HA⟩ := hrel
      obtain ⟨bL, cL, bW, cW, s, sp, bp, cap, hPL, hops⟩ := HA.out
      have HPL := Lib.hid hPL
      clear H3 HA
      cases gk with
      | zero =>
        obtain rfl : k = n := by omega
        clear hPL hops
        go_wp2_with (first
          | (go_at_call 11; refine (HAl.out _).mono ?_; rintro e w9 ⟨rfl, hb9⟩; have H9 := Lib.hid hb9; clear hb9)
          | fail)
        go_ret
        exact ⟨rfl, HPL.out.b.trans (H9.out.mono HPL.out.b.size)⟩
      | succ g1 =>
        have hk1 : k < n := by omega
        have hkO : k < O.length := by rw [HN.out]; exact hk1
        obtain rfl := HS.out (by omega)
        have hOx := HO.out _ hPL.b
        obtain ⟨i0, i1, i2, i3⟩ := hOx.cl k hkO
        have hlen := HNG.out
        have hops2 : s.d.ops + 41 ≤ 1000000 := by have := hlen.1; omega
        have HOne := Lib.hid (show ∀ nq, Calls Try.prog 20 #[.agg (benchC q B bL cL bW cW s.d.nn s.op sp s.X.length cap), .agg #[.int .i64 (op8 O k).kind, .int .i64 (op8 O k).n, .int .u32 (w32 (op8 O k).s), .slice (R k).sm (op8 O k).W.length (R k).cm]] (wr.drewN nq) fun e w' => OneOut (wr.drewN nq) w' B q S g (s.one (op8 O k)) e from fun nq =>
          one_any (hPL.j.new (below_dn (Below.refl _ _) nq)) cW cap hops2 (op8 O k) ⟨(hOx.int k hkO).1, (hOx.int k hkO).2, hlen.2 k hkO⟩ ((hOx.ws k hkO).new (below_dn (Below.refl _ _) nq)) (HLo.out B q S g hPL.own k hkO))
        have hk60 : k < 60 := by have := hlen.1; omega
        have HTo := Lib.hid (show s.to (s.one (op8 O k)) from Jt.one_to hPL.j.good hops2 (op8 O k) ⟨(hOx.int k hkO).1, (hOx.int k hkO).2, hlen.2 k hkO⟩)
        have HK := Lib.hid (And.intro hops (And.intro hk1 hkm))
        have c0 : wr.cell? ⟨Z, 0, none⟩ = some (.pointer (some ⟨q, 0, none⟩)) := hPL.x.cell 0
        have c1 : wr.cell? ⟨Z, 1, none⟩ = some (.pointer (some ⟨B, 0, none⟩)) := hPL.x.cell 1
        have c2 : wr.cell? ⟨Z, 2, none⟩ = some (.int .i64 s.d.nn.ns) := hPL.x.cell 2
        have c3 : wr.cell? ⟨Z, 3, none⟩ = some (.int .i64 s.d.nn.nw) := hPL.x.cell 3
        have c4 : wr.cell? ⟨Z, 4, none⟩ = some (.int .i64 s.d.nn.limit) := hPL.x.cell 4
        have c5 : wr.cell? ⟨Z, 5, none⟩ = some (.slice (some ⟨bL, 0, none⟩) (s.d.nn.ns * s.d.nn.nw : Nat) cL) := hPL.x.cell 5
        have c6 : wr.cell? ⟨Z, 6, none⟩ = some (.slice (some ⟨bW, 0, none⟩) s.d.nn.ns cW) := hPL.x.cell 6
        have c7 : wr.cell? ⟨Z, 7, none⟩ = some (.bool (!s.d.nn.on)) := hPL.x.cell 7
        have c8 : wr.cell? ⟨Z, 8, none⟩ = some (.bool s.d.nn.armed) := hPL.x.cell 8
        have c9 : wr.cell? ⟨Z, 9, none⟩ = some (.int .i64 s.d.nn.after) := hPL.x.cell 9
        have c10 : wr.cell? ⟨Z, 10, none⟩ = some (.int .u32 (w32 s.d.nn.seed)) := hPL.x.cell 10
        have c11 : wr.cell? ⟨Z, 11, none⟩ = some (.int .i64 s.d.nn.ops) := hPL.x.cell 11
        have c12 : wr.cell? ⟨Z, 12, none⟩ = some (.bool s.op) := hPL.x.cell 12
        have c13 : wr.cell? ⟨Z, 13, none⟩ = some (.slice sp s.X.length cap) := hPL.x.cell 13
        clear hOx hlen hops2 hops hkm
        obtain ⟨kd, hkd⟩ : ∃ kd, (op8 O k).kind = kd := ⟨_, rfl⟩
        obtain ⟨on, hon⟩ : ∃ on, (op8 O k).n = on := ⟨_, rfl⟩
        obtain ⟨sd, hsd⟩ : ∃ sd, w32 (op8 O k).s = sd := ⟨_, rfl⟩
        obtain ⟨nw, hnw⟩ : ∃ nw, (op8 O k).W.length = nw := ⟨_, rfl⟩
        rw [hkd] at i0
        rw [hon] at i1
        rw [hsd] at i2
        rw [hnw] at i3
        rw [hkd, hon, hsd, hnw] at HOne
        obtain ⟨s2, hs2⟩ : ∃ s2, s.one (op8 O k) = s2 := ⟨_, rfl⟩
        rw [hs2] at HOne HTo
        clear hkd hon hsd hnw hs2 hPL hkO
        go_upto_region 9 with fail
        go_cut [4] from 21 to 96 (fun s4 wx => s4 = .bool true ∧ Aside (∃ bL cL bW cW sp bp cap, PL w wx Z B q S g bL cL bW cW s2 sp bp cap))
        case first =>
          refine wp_region_headt (C := fun w' => ∃ n, w' = wr.drewN n) _ 5 6 [0, 4] rfl rfl (by kernel_rfl) (by kernel_rfl) (by kernel_rfl) (by kernel_rfl) (by kernel_rfl) (by kernel_rfl) ⟨1, rfl⟩ ?_
          simp only [List.take_succ_cons, List.take_zero]
          repeat (quiet_step (fail))
          refine wpQuiet_nil ?_
          intro _ hw1
          obtain ⟨nq, hw2⟩ := hw1
          subst hw2
          refine wpAny_ready (rs := [5]) (by kernel_rfl) (by simp) (AllReady.cons (o := { dst := some 33, op := .call { callee := .value (.func 20), args := #[.tmp 28, .tmp 32], argTypes := #[53, 58] }, type := 54, pos := "law.go:231", after := #[{ on := 0, ground := .data }, { on := 4, ground := .data }], guard := none }) rfl (fun K hK => ?_) AllReady.nil)
          go_simp
          go_at_call 20
          refine (HOne.out nq).mono ?_
          rintro e w5 ⟨bL', cL', bW', cW', sp', bp', cap', rfl, hj5, hc5⟩
          have hp5 := (HPL.out.new (below_dn (Below.refl _ _) nq)).step (cW' := cW') (cap' := cap') hj5 hc5
          have H5 := Lib.hid hp5
          clear hj5 hc5 hp5
          try dsimp only
          refine hK _ _ ?_
          clear hK K
          try simp only [List.setIfInBounds_toArray]
          refine wpAny_ready (rs := [6]) (by kernel_rfl) (by simp) (AllReady.cons (o := { dst := some 27, op := .move (.tmp 33), type := 54, pos := "law.go:231", after := #[{ on := 5, ground := .data }], guard := none }) rfl (fun K hK => ?_) AllReady.nil)
          go_simp
          refine hK _ _ ?_
          clear hK K
          try simp only [List.setIfInBounds_toArray]
          refine wpAny_ready (rs := [7, 8]) (by kernel_rfl) (by simp) (AllReady.cons (o := { dst := some 34, op := .extract (.tmp 27) 0, type := 53, pos := "law.go:231", after := #[{ on := 6, ground := .data }], guard := none }) rfl (fun K hK => ?_) (AllReady.cons (o := { dst := some 35, op := .extract (.tmp 27) 1, type := 4, pos := "law.go:231", after := #[{ on := 6, ground := .data }, { on := 9, ground := .gcOnly Go.Departure.lateStores }], guard := none }) rfl (fun K hK => ?_) AllReady.nil))
          · go_simp
            refine hK _ _ ?_
            clear hK K
            try simp only [List.setIfInBounds_toArray]
            refine wpAny_ready (rs := [8, 9]) (by kernel_rfl) (by simp) (AllReady.cons (o := { dst := some 35, op := .extract (.tmp 27) 1, type := 4, pos := "law.go:231", after := #[{ on := 6, ground := .data }, { on := 9, ground := .gcOnly Go.Departure.lateStores }], guard := none }) rfl (fun K hK => ?_) (AllReady.cons (o := { dst := none, op := .store 53 (.tmp 3) (.tmp 34), type := 0, pos := "law.go:231", after := #[{ on := 7, ground := .data }, { on := 5, ground := .chain }, { on := 0, ground := .phase }, { on := 1, ground := .phase }, { on := 2, ground := .phase }, { on := 3, ground := .phase }, { on := 4, ground := .phase }, { on := 5, ground := .phase }, { on := 6, ground := .phase }, { on := 7, ground := .phase }, { on := 8, ground := .textOnly Go.Departure.lateStores }], guard := none }) rfl (fun K hK => ?_) AllReady.nil))
            · go_simp
              refine hK _ _ ?_
              clear hK K
              try simp only [List.setIfInBounds_toArray]
              refine wpAny_ready (rs := [9]) (by kernel_rfl) (by simp) (AllReady.cons (o := { dst := none, op := .store 53 (.tmp 3) (.tmp 34), type := 0, pos := "law.go:231", after := #[{ on := 7, ground := .data }, { on := 5, ground := .chain }, { on := 0, ground := .phase }, { on := 1, ground := .phase }, { on := 2, ground := .phase }, { on := 3, ground := .phase }, { on := 4, ground := .phase }, { on := 5, ground := .phase }, { on := 6, ground := .phase }, { on := 7, ground := .phase }, { on := 8, ground := .textOnly Go.Departure.lateStores }], guard := none }) rfl (fun K hK => ?_) AllReady.nil)
              rw [if_pos (by rfl)]
              refine wp_store_row 53 (.tmp 3) (.tmp 34) (by rfl) Z (benchC q B bL' cL' bW' cW' s2.d.nn s2.op sp' s2.X.length cap') (by rfl) (by rfl) 53 _ H5.out.1 (by kernel_rfl) rfl (benchC_one _ _ _ _ _ _ _ _ _ _ _) ?_
              generalize hw6 : World.setRow _ _ _ = w6
              have H6 := Lib.hid (show PL w w6 Z B q S g bL' cL' bW' cW' s2 sp' bp' cap' by rw [← hw6]; exact H5.out.2)
              clear hw6
              refine hK _ _ ?_
              clear hK K
              try simp only [Act.put, List.setIfInBounds_toArray]
              refine wpAny_ready (rs := [10]) (by kernel_rfl) (by simp) (AllReady.cons (o := { dst := some 4, op := .assign (.tmp 35), type := 4, pos := "law.go:231", after := #[{ on := 8, ground := .data }, { on := 9, ground := .chain }, { on := 0, ground := .phase }, { on := 1, ground := .phase }, { on := 2, ground := .phase }, { on := 3, ground := .phase }, { on := 4, ground := .phase }, { on := 5, ground := .phase }, { on := 6, ground := .phase }, { on := 7, ground := .phase }, { on := 8, ground := .phase }, { on := 9, ground := .phase }], guard := none }) rfl (fun K hK => ?_) AllReady.nil)
              go_simp
              refine hK _ _ ?_
              clear hK K
              try simp only [List.setIfInBounds_toArray]
              refine wpAny_done (by kernel_rfl) ?_ _
              go_wp2
              go_meet
              case rel => exact ⟨rfl, _, _, _, _, _, _, _, H6.out⟩
            · rw [if_pos (by rfl)]
              refine wp_store_row 53 (.tmp 3) (.tmp 34) (by rfl) Z (benchC q B bL' cL' bW' cW' s2.d.nn s2.op sp' s2.X.length cap') (by rfl) (by rfl) 53 _ H5.out.1 (by kernel_rfl) rfl (benchC_one _ _ _ _ _ _ _ _ _ _ _) ?_
              generalize hw6 : World.setRow _ _ _ = w6
              have H6 := Lib.hid (show PL w w6 Z B q S g bL' cL' bW' cW' s2 sp' bp' cap' by rw [← hw6]; exact H5.out.2)
              clear hw6
              refine hK _ _ ?_
              clear hK K
              try simp only [Act.put, List.setIfInBounds_toArray]
              refine wpAny_ready (rs := [8]) (by kernel_rfl) (by simp) (AllReady.cons (o := { dst := some 35, op := .extract (.tmp 27) 1, type := 4, pos := "law.go:231", after := #[{ on := 6, ground := .data }, { on := 9, ground := .gcOnly Go.Departure.lateStores }], guard := none }) rfl (fun K hK => ?_) AllReady.nil)
              go_simp
              refine hK _ _ ?_
              clear hK K
              try simp only [List.setIfInBounds_toArray]
              refine wpAny_ready (rs := [10]) (by kernel_rfl) (by simp) (AllReady.cons (o := { dst := some 4, op := .assign (.tmp 35), type := 4, pos := "law.go:231", after := #[{ on := 8, ground := .data }, { on := 9, ground := .chain }, { on := 0, ground := .phase }, { on := 1, ground := .phase }, { on := 2, ground := .phase }, { on := 3, ground := .phase }, { on := 4, ground := .phase }, { on := 5, ground := .phase }, { on := 6, ground := .phase }, { on := 7, ground := .phase }, { on := 8, ground := .phase }, { on := 9, ground := .phase }], guard := none }) rfl (fun K hK => ?_) AllReady.nil)
              go_simp
              refine hK _ _ ?_
              clear hK K
              try simp only [List.setIfInBounds_toArray]
              refine wpAny_done (by kernel_rfl) ?_ _
              go_wp2
              go_meet
              case rel => exact ⟨rfl, _, _, _, _, _, _, _, H6.out⟩
          · go_simp
            refine hK _ _ ?_
            clear hK K
            try simp only [List.setIfInBounds_toArray]
            refine wpAny_ready (rs := [7]) (by kernel_rfl) (by simp) (AllReady.cons (o := { dst := some 34, op := .extract (.tmp 27) 0, type := 53, pos := "law.go:231", after := #[{ on := 6, ground := .data }], guard := none }) rfl (fun K hK => ?_) AllReady.nil)
            go_simp
            refine hK _ _ ?_
            clear hK K
            try simp only [List.setIfInBounds_toArray]
            refine wpAny_ready (rs := [9]) (by kernel_rfl) (by simp) (AllReady.cons (o := { dst := none, op := .store 53 (.tmp 3) (.tmp 34), type := 0, pos := "law.go:231", after := #[{ on := 7, ground := .data }, { on := 5, ground := .chain }, { on := 0, ground := .phase }, { on := 1, ground := .phase }, { on := 2, ground := .phase }, { on := 3, ground := .phase }, { on := 4, ground := .phase }, { on := 5, ground := .phase }, { on := 6, ground := .phase }, { on := 7, ground := .phase }, { on := 8, ground := .textOnly Go.Departure.lateStores }], guard := none }) rfl (fun K hK => ?_) AllReady.nil)
            rw [if_pos (by rfl)]
            refine wp_store_row 53 (.tmp 3) (.tmp 34) (by rfl) Z (benchC q B bL' cL' bW' cW' s2.d.nn s2.op sp' s2.X.length cap') (by rfl) (by rfl) 53 _ H5.out.1 (by kernel_rfl) rfl (benchC_one _ _ _ _ _ _ _ _ _ _ _) ?_
            generalize hw6 : World.setRow _ _ _ = w6
            have H6 := Lib.hid (show PL w w6 Z B q S g bL' cL' bW' cW' s2 sp' bp' cap' by rw [← hw6]; exact H5.out.2)
            clear hw6
            refine hK _ _ ?_
            clear hK K
            try simp only [Act.put, List.setIfInBounds_toArray]
            refine wpAny_ready (rs := [10]) (by kernel_rfl) (by simp) (AllReady.cons (o := { dst := some 4, op := .assign (.tmp 35), type := 4, pos := "law.go:231", after := #[{ on := 8, ground := .data }, { on := 9, ground := .chain }, { on := 0, ground := .phase }, { on := 1, ground := .phase }, { on := 2, ground := .phase }, { on := 3, ground := .phase }, { on := 4, ground := .phase }, { on := 5, ground := .phase }, { on := 6, ground := .phase }, { on := 7, ground := .phase }, { on := 8, ground := .phase }, { on := 9, ground := .phase }], guard := none }) rfl (fun K hK => ?_) AllReady.nil)
            go_simp
            refine hK _ _ ?_
            clear hK K
            try simp only [List.setIfInBounds_toArray]
            refine wpAny_done (by kernel_rfl) ?_ _
            go_wp2
            go_meet
            case rel => exact ⟨rfl, _, _, _, _, _, _, _, H6.out⟩

        case rest =>
          obtain ⟨rfl, HX⟩ := hcut
          obtain ⟨bL1, cL1, bW1, cW1, sp1, bp1, cap1, hP1⟩ := HX.out
          have HP1 := Lib.hid hP1
          clear HOne HPL HX i0 i1 i2 i3 c0 c1 c2 c3 c4 c5 c6 c7 c8 c9 c10 c11 c12 c13 hP1
          have c1 := HP1.out.c1
          have HOp := Lib.hid (open_any HP1.out.j.bk)
          obtain ⟨m, hm⟩ : ∃ m, s2.X.length = m := ⟨_, rfl⟩
          have hpx := HP1.out.j.good.px
          have HIm := Lib.hid (fun (wx : World) (hx : PL w wx Z B q S g bL1 cL1 bW1 cW1 s2 sp1 bp1 cap1) => code_image hx.j.good hx.j.bk)
          have HLi := Lib.hid (fun (wx : World) (hx : PL w wx Z B q S g bL1 cL1 bW1 cW1 s2 sp1 bp1 cap1) => law_image hx.j.good hx.j.ref cL1 cW1 hx.j.cp)
          obtain ⟨L, hL⟩ : ∃ L, imgL s2.d = L := ⟨_, rfl⟩
          obtain ⟨hb, hhb⟩ : ∃ hb, imgB s2.d = hb := ⟨_, rfl⟩
          simp only [hL, hhb] at HIm HLi
          obtain ⟨nl, hnl⟩ : ∃ nl, L.length = nl := ⟨_, rfl⟩
          simp only [hnl] at HIm HLi
          have HM := Lib.hid (And.intro hm (And.intro hpx (And.intro hL hnl)))
          clear hm hpx hL hhb hnl
          go_upto_region 13 with (first
            | (go_at_call 12; refine HOp.out.mono ?_; rintro e w7 ⟨rfl, rfl⟩)
            | (go_at_call 13; refine (HIm.out _ HP1.out).mono ?_; rintro e w8 ⟨sA, bA, oA, cA, rfl, hwA, -, hbA⟩; have H8 := Lib.hid (And.intro hwA (HP1.out.new hbA)); clear hwA hbA c1)
            | (refine wpList_load_mid rfl 28 (.tmp 49) rfl Z 2 rfl (cellsD bL1 cL1 bW1 cW1 s2.d.nn).toList _ (bench_range H8.out.2.x) Try.underlying28 rfl (by kernel_rfl) ?_)
            | (go_at_call 21; refine (HLi.out _ H8.out.2).mono ?_; rintro e w9 ⟨sB, bB, oB, cB, rfl, hwB, hl26, hbB⟩; have H9 := Lib.hid (And.intro (H8.out.1.new hbB) (And.intro hwB (And.intro hl26 (H8.out.2.new hbB)))); clear hwB hl26 hbB)
            | fail)
          go_cut [6, 7, 82] from 21 to 96 (fun s6 s7 s82 wx => s82 = .bool false ∧ Aside (PL w wx Z B q S g bL1 cL1 bW1 cW1 s2 sp1 bp1 cap1))
          case first =>
            have c12 := H9.out.2.2.2.c12
            have c13 := H9.out.2.2.2.c13
            rw [HM.out.1] at c13
            have HRw := Lib.hid (show Calls Try.prog 22 #[.slice sA nl cA, .slice sB nl cB] w9 fun e w' => e = .returned (.bool true) ∧ ∃ n, w' = w9.drewN n by
              have := lrow_self (cA := cA) (cB := cB) L (by rw [HM.out.2.2.2]; have := H9.out.2.2.1; omega) (by rw [HM.out.2.2.2]; exact H9.out.1) (by rw [HM.out.2.2.2]; exact H9.out.2.1)
              rw [HM.out.2.2.2] at this
              exact this)
            cases hop : s2.op with
            | false =>
              rw [hop] at c12
              go_wp2_with (first
                | (go_at_call 22; refine HRw.out.mono ?_; rintro e wA ⟨rfl, qa, rfl⟩)
                | fail)
              go_meet
              case rel => exact ⟨rfl, H9.out.2.2.2.new (below_dn (Below.refl _ _) _)⟩
            | true =>
              rw [hop] at c12
              have hpm : s2.P.length = m := by rw [HM.out.2.1 hop]; exact HM.out.1
              rw [hpm]
              clear hpm
              go_wp2_with (first
                | (go_at_call 22; refine HRw.out.mono ?_; rintro e wA ⟨rfl, qa, rfl⟩)
                | fail)
              go_meet
              case rel => exact ⟨rfl, H9.out.2.2.2.new (below_dn (Below.refl _ _) _)⟩
          case rest =>
            obtain ⟨rfl, HY⟩ := hcut
            have HP2 := Lib.hid HY.out
            clear HY H9 H8 HIm HLi HOp HP1
            go_upto_region 16 with fail
            go_loopg [12] 4 (fun m v wr2 => ∃ i : Nat, i + m = 4 ∧ v = .int .i64 (i : Nat) ∧ Aside (PL w wr2 Z B q S g bL1 cL1 bW1 cW1 s2 sp1 bp1 cap1))
            case atStart => exact ⟨0, by omega, rfl, HP2.out⟩
            case round =>
              obtain ⟨i, him, rfl, HZ0⟩ := hrel
              have HP3 := Lib.hid HZ0.out
              clear HZ0 HP2
              cases gk with
              | zero =>
                obtain rfl : i = 4 := by omega
                go_wp2
                go_roundg g1
                case measure => omega
                case rel => exact ⟨k + 1, by have := HK.out; omega, by go_num, _, _, _, _, s2, _, _, _, HP3.out, by have := HTo.out.ops; have := HK.out.1; push_cast; omega⟩
              | succ g2 =>
                have hi4 : i < 4 := by omega
                have hiI : (i : Int) < 4 := by omega
                have HSc := Lib.hid (show ∀ wx, PL w wx Z B q S g bL1 cL1 bW1 cW1 s2 sp1 bp1 cap1 → Calls Try.prog 23 #[.pointer (some ⟨q, 0, none⟩), .int .i64 i] wx fun e w' => ∃ b cap, e = .returned (.slice (some ⟨b, 0, none⟩) 13 cap) ∧ wx.heap.size ≤ b ∧ Ws w' (some ⟨b, 0, none⟩) b 0 13 (s2.d.word i) ∧ 13 ≤ cap ∧ Below wx.heap.size wx w' from fun wx hx => by have := sectorN_any hx.j.bk.dev i (by rw [hx.j.good.h4.1]; exact hi4); rw [hx.j.good.h4.2] at this; exact this)
                have HLw := Lib.hid (show ∀ wx, PL w wx Z B q S g bL1 cL1 bW1 cW1 s2 sp1 bp1 cap1 → Calls Try.prog 24 #[.agg (cellsD bL1 cL1 bW1 cW1 s2.d.nn), .int .i64 i] wx fun e w' => e = .returned (.slice (some ⟨bL1, i * 13, none⟩) 13 (cL1 - i * 13)) ∧ Ws w' (some ⟨bL1, i * 13, none⟩) bL1 (i * 13) 13 (s2.d.word i) ∧ Below wx.heap.size wx w' from fun wx hx => by
                  have h13 : s2.d.nn.nw = 13 := hx.j.good.h4.2
                  have h4 : s2.d.nn.ns = 4 := hx.j.good.h4.1
                  have h1 := lwords_any hx.j.ref cL1 cW1 i (by omega) (by rw [h4, h13]; exact hx.j.cp)
                  refine h1.mono ?_
                  rintro e w' ⟨rfl, hb⟩
                  have h2 := ref_ws (hx.j.ref.new hb) i (by omega)
                  rw [h13] at h2 ⊢
                  exact ⟨rfl, h2, hb⟩)
                obtain ⟨ci, hci⟩ : ∃ ci, cL1 - i * 13 = ci := ⟨_, rfl⟩
                obtain ⟨i13, hi13⟩ : ∃ x, i * 13 = x := ⟨_, rfl⟩
                simp only [hi13] at HLw
                clear hci hi13
                have hx3 := HP3.out.x
                go_upto_region 18 with fail
                refine wp_region_held_drew (S := fun w' => RowAt w' Z 53 (benchC q B bL1 cL1 bW1 cW1 s2.d.nn s2.op sp1 s2.X.length cap1)) (by kernel_rfl) hx3 (fun hS => ?_)
                refine wpAnyH_take (i := 0) (oi := { dst := some 87, op := .fieldAddr 53 (.tmp 3) 0, type := 0, pos := "law.go:239", after := #[], guard := none }) (v := ?_) rfl (by kernel_rfl) (by kernel_rfl) (by kernel_rfl) (fun _ _ _ h => h) (Or.inl ⟨by rfl, ?_⟩) hS ?_
                rotate_left 1
                · intro w hw; obtain hw := hw; go_simp; try (with_reducible rfl)
                simp only [Act.put, List.setIfInBounds_toArray, List.set_cons_zero, List.set_cons_succ]
                refine wpAnyH_take (i := 1) (oi := { dst := some 88, op := .load 31 (.tmp 87), type := 31, pos := "law.go:239", after := #[{ on := 0, ground := .data }], guard := none }) (v := ?_) rfl (by kernel_rfl) (by kernel_rfl) (by kernel_rfl) (fun _ _ _ h => h) (Or.inl ⟨by rfl, ?_⟩) hS ?_
                rotate_left 1
                · intro w hw; obtain hw := hw; have k0 : w.cell? ⟨Z, 0, none⟩ = some (.pointer (some ⟨q, 0, none⟩)) := RowAt.cell hw 0; go_simp; try (with_reducible rfl)
                simp only [Act.put, List.setIfInBounds_toArray, List.set_cons_zero, List.set_cons_succ]
                refine wpAnyH_take (i := 2) (oi := { dst := some 89, op := .move (.tmp 12), type := 3, pos := "law.go:239", after := #[], guard := none }) (v := ?_) rfl (by kernel_rfl) (by kernel_rfl) (by kernel_rfl) (fun _ _ _ h => h) (Or.inl ⟨by rfl, ?_⟩) hS ?_
                rotate_left 1
                · intro w hw; obtain hw := hw; go_simp; try (with_reducible rfl)
                simp only [Act.put, List.setIfInBounds_toArray, List.set_cons_zero, List.set_cons_succ]
                refine wpAnyH_take (i := 4) (oi := { dst := some 91, op := .fieldAddr 53 (.tmp 3) 2, type := 0, pos := "law.go:239", after := #[], guard := none }) (v := ?_) rfl (by kernel_rfl) (by kernel_rfl) (by kernel_rfl) (fun _ _ _ h => h) (Or.inl ⟨by rfl, ?_⟩) hS ?_
                rotate_left 1
                · intro w hw; obtain hw := hw; go_simp; try (with_reducible rfl)
                simp only [Act.put, List.setIfInBounds_toArray, List.set_cons_zero, List.set_cons_succ]
                refine wpAnyH_take (i := 5) (oi := { dst := some 92, op := .load 28 (.tmp 91), type := 28, pos := "law.go:239", after := #[{ on := 4, ground := .data }], guard := none }) (v := ?_) rfl (by kernel_rfl) (by kernel_rfl) (by kernel_rfl) (fun _ _ _ h => h) (Or.inl ⟨by rfl, ?_⟩) hS ?_
                rotate_left 1
                · intro w hw; obtain hw := hw; have k2 : w.cell? ⟨Z, 2, none⟩ = some (.int .i64 s2.d.nn.ns) := RowAt.cell hw 2; have k3 : w.cell? ⟨Z, 3, none⟩ = some (.int .i64 s2.d.nn.nw) := RowAt.cell hw 3; have k4 : w.cell? ⟨Z, 4, none⟩ = some (.int .i64 s2.d.nn.limit) := RowAt.cell hw 4; have k5 : w.cell? ⟨Z, 5, none⟩ = some (.slice (some ⟨bL1, 0, none⟩) (s2.d.nn.ns * s2.d.nn.nw : Nat) cL1) := RowAt.cell hw 5; have k6 : w.cell? ⟨Z, 6, none⟩ = some (.slice (some ⟨bW1, 0, none⟩) s2.d.nn.ns cW1) := RowAt.cell hw 6; have k7 : w.cell? ⟨Z, 7, none⟩ = some (.bool (!s2.d.nn.on)) := RowAt.cell hw 7; have k8 : w.cell? ⟨Z, 8, none⟩ = some (.bool s2.d.nn.armed) := RowAt.cell hw 8; have k9 : w.cell? ⟨Z, 9, none⟩ = some (.int .i64 s2.d.nn.after) := RowAt.cell hw 9; have k10 : w.cell? ⟨Z, 10, none⟩ = some (.int .u32 (w32 s2.d.nn.seed)) := RowAt.cell hw 10; have k11 : w.cell? ⟨Z, 11, none⟩ = some (.int .i64 s2.d.nn.ops) := RowAt.cell hw 11; go_simp; try (with_reducible rfl)
                simp only [Act.put, List.setIfInBounds_toArray, List.set_cons_zero, List.set_cons_succ]
                refine wpAnyH_take (i := 6) (oi := { dst := some 93, op := .move (.tmp 12), type := 3, pos := "law.go:239", after := #[], guard := none }) (v := ?_) rfl (by kernel_rfl) (by kernel_rfl) (by kernel_rfl) (fun _ _ _ h => h) (Or.inl ⟨by rfl, ?_⟩) hS ?_
                rotate_left 1
                · intro w hw; obtain hw := hw; go_simp; try (with_reducible rfl)
                simp only [Act.put, List.setIfInBounds_toArray, List.set_cons_zero, List.set_cons_succ]
                refine wpAnyH_ready (rs := [3]) (by kernel_rfl) (by simp) (AllReadyH.cons (o := { dst := some 90, op := .call { callee := .value (.func 23), args := #[.tmp 88, .tmp 89], argTypes := #[31, 3] }, type := 24, pos := "law.go:239", after := #[{ on := 1, ground := .data }, { on := 2, ground := .data }], guard := none }) rfl (fun K hK => ?_) AllReadyH.nil)
                go_simp
                go_at_call 23
                refine (HSc.out _ (HP3.out.new (below_dn (Below.refl _ _) 1))).mono ?_
                rintro e w7 ⟨b7, k7, rfl, h7a, h7w, -, h7b⟩
                have H7 := Lib.hid (And.intro h7w ((HP3.out.new (below_dn (Below.refl _ _) 1)).new h7b))
                clear h7a h7w h7b
                try dsimp only
                refine hK.out _ _ H7.out.2.x (fun hHeld => ?_)
                clear hK K
                try simp only [Act.put, List.setIfInBounds_toArray, List.set_cons_zero, List.set_cons_succ]
                refine wpAnyH_ready (rs := [7]) (by kernel_rfl) (by simp) (AllReadyH.cons (o := { dst := some 94, op := .call { callee := .value (.func 24), args := #[.tmp 92, .tmp 93], argTypes := #[28, 3] }, type := 24, pos := "law.go:239", after := #[{ on := 5, ground := .data }, { on := 6, ground := .data }, { on := 3, ground := .chain }], guard := none }) rfl (fun K hK => ?_) AllReadyH.nil)
                go_simp
                go_at_call 24
                refine (HLw.out _ H7.out.2).mono ?_
                rintro e w8 ⟨rfl, h8w, h8b⟩
                have H8 := Lib.hid (And.intro (H7.out.1.new h8b) (And.intro h8w (H7.out.2.new h8b)))
                clear h8w h8b
                try dsimp only
                refine hK.out _ _ H8.out.2.2.x (fun hHeld => ?_)
                clear hK K
                try simp only [Act.put, List.setIfInBounds_toArray, List.set_cons_zero, List.set_cons_succ]
                refine wpAnyH_ready (rs := [8]) (by kernel_rfl) (by simp) (AllReadyH.cons (o := { dst := some 95, op := .call { callee := .value (.func 22), args := #[.tmp 90, .tmp 94], argTypes := #[24, 24] }, type := 4, pos := "law.go:239", after := #[{ on := 3, ground := .data }, { on := 7, ground := .data }, { on := 7, ground := .chain }], guard := none }) rfl (fun K hK => ?_) AllReadyH.nil)
                go_simp
                go_at_call 22
                refine (lrow13 H8.out.1 H8.out.2.1).mono ?_
                rintro e w9 ⟨rfl, q9, rfl⟩
                have H9 := Lib.hid (H8.out.2.2.new (below_dn (Below.refl _ _) q9))
                try dsimp only
                refine hK.out _ _ H9.out.x (fun hHeld => ?_)
                clear hK K
                try simp only [Act.put, List.setIfInBounds_toArray, List.set_cons_zero, List.set_cons_succ]
                refine wpAnyH_take (i := 9) (oi := { dst := some 96, op := .unOp .not 4 (.tmp 95), type := 4, pos := "law.go:239", after := #[{ on := 8, ground := .data }], guard := none }) (v := ?_) rfl (by kernel_rfl) (by kernel_rfl) (by kernel_rfl) (fun _ _ _ h => h) (Or.inl ⟨by rfl, ?_⟩) H9.out.x ?_
                rotate_left 1
                · intro w hw; obtain hw := hw; go_simp; try (with_reducible rfl)
                simp only [Act.put, List.setIfInBounds_toArray, List.set_cons_zero, List.set_cons_succ]
                refine wpAnyH_done (by kernel_rfl) ?_ _

                clear hx3
                go_wp2
                go_roundg g2
                case measure => omega
                case rel => exact ⟨i + 1, by omega, by go_num, H9.out⟩
end Go.Proofs.Ythpagbfabpfngaa
