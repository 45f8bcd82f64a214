/- The walk of BankWhole. -/
import Derived.Test.YthpagbfabpfngaaPk32
import Derived.Test.YthpagbfabpfngaaPwA
namespace Go.Proofs.Ythpagbfabpfngaa
open Go.RowKit

/-- A row of words that is not the bank's, nor the bench's. -/
def Row8 (w : World) (B q S : Nat) (g : Nat → Nat) (Z : Nat) (sl : Option Addr) (n : Nat) (L : List (BitVec 32)) : Prop := L.length = n ∧ n ≤ 26 ∧ ∃ b o, Ws w sl b o n (nthW L) ∧ (0 < n → ¬ OwnB B q S g 4 b ∧ b ≠ Z)
section
variable {w0 w w' : World} {Z B q S : Nat} {g : Nat → Nat} {bL cL bW cW : Nat} {s : Jt} {sp sl : Option Addr} {bp cap n : Nat} {L : List (BitVec 32)}
theorem Row8.new (h : Row8 w B q S g Z sl n L) (hb : Below w.heap.size w w') : Row8 w' B q S g Z sl n L := by
  obtain ⟨h1, h2, b, o, h3, h4⟩ := h
  exact ⟨h1, h2, b, o, h3.new hb, h4⟩
theorem Row8.one (h : Row8 w B q S g Z sl n L) (hc : Ch (OwnB B q S g 4) w w') (cs : Array Value) : Row8 (w'.setRow Z cs) B q S g Z sl n L := by
  obtain ⟨h1, h2, b, o, h3, h4⟩ := h
  exact ⟨h1, h2, b, o, (h3.keep hc (fun h0 => (h4 h0).1)).keep (ch_setRow w' Z cs) (fun h0 => (h4 h0).2), h4⟩
theorem Row8.none (w : World) : Row8 w B q S g Z none 0 [] := ⟨rfl, Nat.zero_le _, 0, 0, ⟨fun h => absurd h (Nat.lt_irrefl 0), fun k hk => absurd hk (Nat.not_lt_zero k)⟩, fun h => absurd h (Nat.lt_irrefl 0)⟩
theorem PL.row (h : PL w0 w Z B q S g bL cL bW cW s sp bp cap) : Row8 w B q S g Z sp s.X.length s.X := by
  refine ⟨rfl, h.j.good.xl, bp, 0, h.j.ws, fun h0 => ⟨h.j.apP h0, fun e => ?_⟩⟩
  have h1 := h.j.ws.cell 0 h0
  rw [e, Nat.zero_add, h.c0] at h1
  cases h1
theorem lrow_is {w : World} {spA spB : Option Addr} {cA cB nA nB : Nat} {L M : List (BitVec 32)} {B' q' S' Z' : Nat} {g' : Nat → Nat} (hA : Row8 w B q S g Z spA nA L) (hB : Row8 w B' q' S' g' Z' spB nB M) :
    Calls Try.prog 22 #[.slice spA nA cA, .slice spB nB cB] w fun e w' => e = .returned (.bool (decide (L = M))) ∧ ∃ n, w' = w.drewN n := by
  obtain ⟨a1, a2, bA, oA, a3, -⟩ := hA
  obtain ⟨b1, b2, bB, oB, b3, -⟩ := hB
  subst a1 b1
  exact lrow_any (cA := cA) (cB := cB) L M (by omega) (by omega) a3 b3
end
/-- What holds of the images: the one that is there was committed wholly. -/
def Img (d : Dev) (sm : Bool) (last now : List (BitVec 32)) : Prop := ∀ L, imgW d = some L → L = now ∨ (sm = true ∧ L = last)
theorem imgB_some {d : Dev} (h : imgB d = true) : d.on = true ∧ imgW d = some (imgL d) := by
  unfold imgB imgL at *
  rw [imageR_W] at *
  cases hon : d.on with
  | false => rw [hon] at h; cases h
  | true =>
    rw [hon] at h
    refine ⟨rfl, ?_⟩
    simp only [if_true] at h ⊢
    obtain ⟨L, hL⟩ := Option.isSome_iff_exists.1 h
    rw [hL]
    rfl
theorem imgB_none {d : Dev} (h : imgB d = false) : d.on = false ∨ imgW d = none := by
  unfold imgB at h
  rw [imageR_W] at h
  cases hon : d.on with
  | false => exact .inl rfl
  | true =>
    rw [hon] at h
    simp only [if_true] at h
    exact .inr (by simpa using h)
theorem imgL_len {d : Dev} (h : d.nw = 13) : (imgL d).length ≤ 26 := by
  unfold imgL
  rw [imageR_W]
  unfold imgW
  cases hs : stOK d 0 4 with
  | false => cases d.on <;> exact Nat.zero_le _
  | true =>
    have h1 := stOK_long hs
    rw [room4 h] at h1
    cases d.on with
    | false => exact Nat.zero_le _
    | true =>
      simp only [if_true]
      split
      · show (rowD d 0 (longN d 0)).length ≤ 26
        rw [rowD_len]; exact h1
      · exact Nat.zero_le _
theorem was12 {w : World} {z q B bL cL bW cW n cap : Nat} {d : Dev} {op : Bool} {sp : Option Addr} (h : RowAt w z 53 (benchC q B bL cL bW cW d op sp n cap)) : w.cell? ⟨z, 12, none⟩ = some (.bool op) := h.cell 12
theorem was13 {w : World} {z q B bL cL bW cW n cap : Nat} {d : Dev} {op : Bool} {sp : Option Addr} (h : RowAt w z 53 (benchC q B bL cL bW cW d op sp n cap)) : w.cell? ⟨z, 13, none⟩ = some (.slice sp n cap) := h.cell 13
def cmB (s : Jt) (kd : Int) : Bool := decide (kd = 3) && (s.op && decide (0 < s.X.length))
theorem Img.step {s : Jt} (h : s.good) (hw : s.whole) {sm : Bool} {last now : List (BitVec 32)} (hi : Img s.d sm last now) (o : Op8) : (s.one o).whole ∧ Img (s.one o).d sm last (if cmB s (o.kind % 8) then s.X else now) := by
  obtain ⟨h1, h2, h3⟩ := Jt.one_whole h hw o
  refine ⟨h1, fun L hL => ?_⟩
  have hcm : cmB s (o.kind % 8) = true ↔ s.commits o := by unfold cmB Jt.commits; simp
  by_cases hc : s.commits o
  · rw [if_pos (hcm.2 hc)]
    rcases h3 hc with e | e
    · rw [e] at hL; cases hL
    · rw [e] at hL; exact .inl (Option.some.inj hL).symm
  · rw [if_neg (fun e => hc (hcm.1 e))]
    rcases h2 hc with e | e
    · rw [e] at hL; exact hi L hL
    · rw [e] at hL; cases hL
set_option maxHeartbeats 16000000 in
set_option maxRecDepth 100000 in
theorem law_whole {w : World} {b off : Nat} {O : List Op8} {R : Nat → Src} (h : Ops8 w b off O R) {spo : Option Addr} (hs : 0 < O.length → spo = some ⟨b, off, none⟩) (capo : Nat) :
    Calls Try.prog 5 #[.slice spo O.length capo] w fun e w' => e = .returned (.bool true) ∧ Below w.heap.size w w' := by
  have HO := Lib.hid (show ∀ wx, Below w.heap.size w wx → Ops8 wx b off O R from fun wx hb => h.below hb)
  have HS := Lib.hid hs
  have HGr := Lib.hid (great_any h hs capo)
  have HSt := Lib.hid (fun wx => start_any 60 ⟨by decide, by decide⟩ wx)
  have HAl := Lib.hid (fun wx => balive_any wx)
  have HLo := Lib.hid (show ∀ (B q S : Nat) (g : Nat → Nat), (∀ j, OwnB B q S g 4 j → w.heap.size ≤ j) → ∀ k, k < O.length → 0 < (op8 O k).W.length → ¬ OwnB B q S g 4 (R k).bm from fun B q S g ho k hk h0 hb => by
    have := ho _ hb
    have := ((h.ws k hk).sp h0).2
    omega)
  obtain ⟨n, hn⟩ : ∃ n, O.length = n := ⟨_, rfl⟩
  have HN := Lib.hid hn
  rw [hn] at HGr ⊢
  clear h hs hn
  cases hg : greatB O with
  | true =>
    rw [hg] at HGr
    clear hg
    go_enter Try.func5, Try.ntmps5
    go_wp2_with (first
      | (go_at_call 18; refine HGr.out.mono ?_; rintro e w1 ⟨rfl, q1, rfl⟩)
      | fail)
    go_ret
    exact ⟨rfl, below_dn (Below.refl _ _) _⟩
  | false =>
    rw [hg] at HGr
    have HNG := Lib.hid (great_no hg)
    clear hg
    go_enter Try.func5, Try.ntmps5
    go_upto_region 4 with (first
      | (go_at_call 18; refine HGr.out.mono ?_; rintro e w1 ⟨rfl, q1, rfl⟩)
      | (go_at_call 19; refine (HSt.out _).mono ?_; rintro e w2 ⟨B, q, S, g, bL0, cL0, bW0, cW0, rfl, hj2, ho2, hb2⟩; have H2 := Lib.hid (And.intro hj2 (And.intro ho2 hb2)); clear hj2 ho2 hb2)
      | (refine wpList_store_row rfl 53 (.tmp 3) (.tmp 17) rfl w2.heap.size (benchC q B bL0 cL0 bW0 cW0 (Jt.fresh 60).d.nn false none 0 0) rfl rfl 53 benchZ (RowAt.mk w2 _ _) (by kernel_rfl) rfl (benchC_one _ _ _ _ _ _ _ _ _ _ _) ?_
         generalize hw3 : World.setRow _ _ _ = w3
         have H3 := Lib.hid (show PL w w3 w2.heap.size B q S g bL0 cL0 bW0 cW0 (Jt.fresh 60) none 0 0 by
           have hba : Below w2.heap.size w2 (w2.alloc (.cells benchZ 53)) := (Below.refl _ _).alloc (Nat.le_refl _) _
           have hja := H2.out.1.new hba
           have hlt := H2.out.1.lt
           have hnx : ¬ OwnB B q S g 4 w2.heap.size := fun h1 => by have := hlt _ h1; omega
           have hrow : RowAt (w2.alloc (.cells benchZ 53)) w2.heap.size 53 benchZ := RowAt.mk w2 _ _
           have hc := ch_setRow (w2.alloc (.cells benchZ 53)) w2.heap.size (benchC q B bL0 cL0 bW0 cW0 (Jt.fresh 60).d.nn false none 0 0)
           have hb0 : Below w.heap.size w w2 := (below_dn (Below.refl w.heap.size w) q1).trans H2.out.2.2
           rw [← hw3]
           refine ⟨RowAt.put hrow, ⟨hja.bk.keep hc (fun j hj e => hnx (by rw [← e]; exact hj)), hja.ref.keep hc (by have := H2.out.1.ref.ltL; show ¬ bL0 = _; omega) (by have := H2.out.1.ref.ltW; show ¬ bW0 = _; omega), hja.cp, ⟨fun h0 => absurd h0 (Nat.lt_irrefl 0), fun k hk => absurd hk (Nat.not_lt_zero k)⟩, hja.apL, hja.apW, hja.apP, hja.good⟩, H2.out.2.1, hnx, hb0.size, below_setRow (hb0.trans (hba.mono hb0.size)) hb0.size _⟩)
         clear hw3)
      | fail)
    obtain ⟨Z, hZ⟩ : ∃ Z, w2.heap.size = Z := ⟨_, rfl⟩
    rw [hZ] at H3 ⊢
    clear H2 hZ HGr HSt
    have HI0 := Lib.hid (show (Jt.fresh 60).whole ∧ Img (Jt.fresh 60).d false [] [] from ⟨⟨fun e => (by cases e), fun e => (by cases e)⟩, fun L hL => by
      have : imgW (Jt.fresh 60).d = none := imgW_blank rfl
      rw [this] at hL; cases hL⟩)
    go_upto_region 9 with fail
    go_loopg [5, 6, 7, 8] n (fun m v5 v6 v7 v wr => ∃ k : Nat, ∃ s5 n5 cp5 s6 n6 cp6 sm, k + m = n ∧ v = .int .i64 (k : Nat) ∧ v5 = .slice s5 n5 cp5 ∧ v6 = .slice s6 n6 cp6 ∧ v7 = .bool sm ∧ Aside (∃ bL cL bW cW s sp bp cap last now, PL w wr Z B q S g bL cL bW cW s sp bp cap ∧ s.d.ops ≤ 41 * k ∧ s.whole ∧ Img s.d sm last now ∧ Row8 wr B q S g Z s5 n5 last ∧ Row8 wr B q S g Z s6 n6 now))
    case atStart => exact ⟨0, none, 0, 0, none, 0, 0, false, by omega, rfl, rfl, rfl, rfl, _, _, _, _, _, _, _, _, [], [], H3.out, by show (0 : Int) ≤ _; omega, HI0.out.1, HI0.out.2, Row8.none _, Row8.none _⟩
    case round =>
      obtain ⟨k, s5, n5, cp5, s6, n6, cp6, sm, hkm, rfl, rfl, rfl, rfl, HA⟩ := hrel
      obtain ⟨bL, cL, bW, cW, s, sp, bp, cap, last, now, hPL, hops, hwh, himg, hrl, hrn⟩ := HA.out
      have HPL := Lib.hid hPL
      have HRL := Lib.hid (And.intro hrl hrn)
      clear H3 HA HI0 hrl hrn
      cases gk with
      | zero =>
        obtain rfl : k = n := by omega
        clear hPL hops hwh himg
        go_wp2_with (first
          | (go_at_call 11; refine (HAl.out _).mono ?_; rintro e w9 ⟨rfl, hb9⟩; have H9 := Lib.hid hb9; clear hb9)
          | fail)
        go_ret
        exact ⟨rfl, HPL.out.b.trans (H9.out.mono HPL.out.b.size)⟩
      | succ g1 =>
        have hk1 : k < n := by omega
        have hkO : k < O.length := by rw [HN.out]; exact hk1
        obtain rfl := HS.out (by omega)
        have hOx := HO.out _ hPL.b
        obtain ⟨i0, i1, i2, i3⟩ := hOx.cl k hkO
        have hlen := HNG.out
        have hk60 : k < 60 := by have := hlen.1; omega
        have hops2 : s.d.ops + 41 ≤ 1000000 := by omega
        have HSt2 := Lib.hid (Img.step hPL.j.good hwh himg (op8 O k))
        have HOne := Lib.hid (show ∀ wx, Below wr.heap.size wr wx → Calls Try.prog 20 #[.agg (benchC q B bL cL bW cW s.d.nn s.op sp s.X.length cap), .agg #[.int .i64 (op8 O k).kind, .int .i64 (op8 O k).n, .int .u32 (w32 (op8 O k).s), .slice (R k).sm (op8 O k).W.length (R k).cm]] wx fun e w' => OneOut wx w' B q S g (s.one (op8 O k)) e from fun wx hb =>
          one_any (hPL.j.new hb) cW cap hops2 (op8 O k) ⟨(hOx.int k hkO).1, (hOx.int k hkO).2, hlen.2 k hkO⟩ ((hOx.ws k hkO).new hb) (HLo.out B q S g hPL.own k hkO))
        have HTo := Lib.hid (show s.to (s.one (op8 O k)) from Jt.one_to hPL.j.good hops2 (op8 O k) ⟨(hOx.int k hkO).1, (hOx.int k hkO).2, hlen.2 k hkO⟩)
        have HK := Lib.hid (And.intro hops (And.intro hk1 hkm))
        have hOlt := hOx.lt (by omega)
        clear hlen hops2 hops hkm hwh himg
        obtain ⟨kd, hkd⟩ : ∃ kd, (op8 O k).kind = kd := ⟨_, rfl⟩
        obtain ⟨on, hon⟩ : ∃ on, (op8 O k).n = on := ⟨_, rfl⟩
        obtain ⟨sd, hsd⟩ : ∃ sd, w32 (op8 O k).s = sd := ⟨_, rfl⟩
        obtain ⟨nw, hnw⟩ : ∃ nw, (op8 O k).W.length = nw := ⟨_, rfl⟩
        rw [hkd] at i0
        rw [hon] at i1
        rw [hsd] at i2
        rw [hnw] at i3
        rw [hkd, hon, hsd, hnw] at HOne
        rw [hkd] at HSt2
        obtain ⟨s2, hs2⟩ : ∃ s2, s.one (op8 O k) = s2 := ⟨_, rfl⟩
        rw [hs2] at HOne HTo HSt2
        obtain ⟨r, r8, m1, m2, m3⟩ := mod8 kd
        obtain ⟨k8, hk8⟩ : ∃ k8, kd % 8 = k8 := ⟨_, rfl⟩
        rw [hk8] at m3 HSt2
        have wk8 : IntKind.i64.wrap k8 = k8 := by rw [IntKind.wrap_i64, ← hk8]; omega
        clear hkd hon hsd hnw hs2 hk8 hOx
        go_upto_region 12 with fail
        go_upto_region 13 with (first
          | (refine wpList_load_row rfl 53 (.tmp 3) rfl Z rfl 53 (benchC q B bL cL bW cW s.d.nn s.op sp s.X.length cap) (0, 0) _ HPL.out.x Try.underlying53 rfl (by kernel_rfl) ?_)
          | (refine wpList_store_row rfl 53 (.tmp 10) (.tmp 35) rfl wr.heap.size (benchC q B bL cL bW cW s.d.nn s.op sp s.X.length cap) rfl rfl 53 benchZ (RowAt.mk wr _ _) (by kernel_rfl) rfl (benchC_one _ _ _ _ _ _ _ _ _ _ _) ?_
             generalize hwa : World.setRow _ _ _ = wa
             have HWa := Lib.hid (show RowAt wa wr.heap.size 53 (benchC q B bL cL bW cW s.d.nn s.op sp s.X.length cap) ∧ Below wr.heap.size wr wa by
               rw [← hwa]
               exact ⟨RowAt.put (RowAt.mk wr _ _), below_setRow ((Below.refl _ _).alloc (Nat.le_refl _) _) (Nat.le_refl _) _⟩)
             clear hwa)
          | fail)
        have hPa := HPL.out.new HWa.out.2
        have HPa := Lib.hid hPa
        have hcl := fun (o : Nat) => HWa.out.2.cell (p := ⟨b, o, none⟩) hOlt
        rw [← hcl] at i0 i1 i2 i3
        have HOn2 := Lib.hid (show ∀ nq, Calls Try.prog 20 #[.agg (benchC q B bL cL bW cW s.d.nn s.op sp s.X.length cap), .agg #[.int .i64 kd, .int .i64 on, .int .u32 sd, .slice (R k).sm nw (R k).cm]] (wa.drewN nq) fun e w' => OneOut (wa.drewN nq) w' B q S g s2 e from fun nq => HOne.out _ (HWa.out.2.trans (below_dn ((Below.refl _ _).mono HWa.out.2.size) nq)))
        have c0 : wa.cell? ⟨Z, 0, none⟩ = some (.pointer (some ⟨q, 0, none⟩)) := hPa.x.cell 0
        have c1 : wa.cell? ⟨Z, 1, none⟩ = some (.pointer (some ⟨B, 0, none⟩)) := hPa.x.cell 1
        have c2 : wa.cell? ⟨Z, 2, none⟩ = some (.int .i64 s.d.nn.ns) := hPa.x.cell 2
        have c3 : wa.cell? ⟨Z, 3, none⟩ = some (.int .i64 s.d.nn.nw) := hPa.x.cell 3
        have c4 : wa.cell? ⟨Z, 4, none⟩ = some (.int .i64 s.d.nn.limit) := hPa.x.cell 4
        have c5 : wa.cell? ⟨Z, 5, none⟩ = some (.slice (some ⟨bL, 0, none⟩) (s.d.nn.ns * s.d.nn.nw : Nat) cL) := hPa.x.cell 5
        have c6 : wa.cell? ⟨Z, 6, none⟩ = some (.slice (some ⟨bW, 0, none⟩) s.d.nn.ns cW) := hPa.x.cell 6
        have c7 : wa.cell? ⟨Z, 7, none⟩ = some (.bool (!s.d.nn.on)) := hPa.x.cell 7
        have c8 : wa.cell? ⟨Z, 8, none⟩ = some (.bool s.d.nn.armed) := hPa.x.cell 8
        have c9 : wa.cell? ⟨Z, 9, none⟩ = some (.int .i64 s.d.nn.after) := hPa.x.cell 9
        have c10 : wa.cell? ⟨Z, 10, none⟩ = some (.int .u32 (w32 s.d.nn.seed)) := hPa.x.cell 10
        have c11 : wa.cell? ⟨Z, 11, none⟩ = some (.int .i64 s.d.nn.ops) := hPa.x.cell 11
        have c12 : wa.cell? ⟨Z, 12, none⟩ = some (.bool s.op) := hPa.x.cell 12
        have c13 : wa.cell? ⟨Z, 13, none⟩ = some (.slice sp s.X.length cap) := hPa.x.cell 13
        clear hcl hOlt hPL hPa HOne
        simp only [Act.put]
        go_cut [4] from 21 to 88 (fun s4 wx => s4 = .bool true ∧ Aside (∃ bL1 cL1 bW1 cW1 sp1 bp1 cap1, PL w wx Z B q S g bL1 cL1 bW1 cW1 s2 sp1 bp1 cap1 ∧ Row8 wx B q S g Z s5 n5 last ∧ Row8 wx B q S g Z s6 n6 now ∧ Row8 wx B q S g Z sp s.X.length s.X ∧ RowAt wx wr.heap.size 53 (benchC q B bL cL bW cW s.d.nn s.op sp s.X.length cap)))
        case first =>
          refine wp_region_headt (C := fun w' => ∃ n, w' = wa.drewN n) _ 5 6 [0, 4] rfl rfl (by kernel_rfl) (by kernel_rfl) (by kernel_rfl) (by kernel_rfl) (by kernel_rfl) (by kernel_rfl) ⟨1, rfl⟩ ?_
          simp only [List.take_succ_cons, List.take_zero]
          repeat (quiet_step (fail))
          refine wpQuiet_nil ?_
          intro _ hw1
          obtain ⟨nq, hw2⟩ := hw1
          subst hw2
          refine wpAny_ready (rs := [5]) (by kernel_rfl) (by simp) (AllReady.cons (o := { dst := some 42, op := .call { callee := .value (.func 20), args := #[.tmp 37, .tmp 41], argTypes := #[53, 58] }, type := 54, pos := "law.go:274", after := #[{ on := 0, ground := .data }, { on := 4, ground := .data }], guard := none }) rfl (fun K hK => ?_) AllReady.nil)
          go_simp
          go_at_call 20
          refine (HOn2.out nq).mono ?_
          rintro e w5 ⟨bL', cL', bW', cW', sp', bp', cap', rfl, hj5, hc5⟩
          have hp5 := (HPa.out.new (below_dn (Below.refl _ _) nq)).step (cW' := cW') (cap' := cap') hj5 hc5
          have hbn := below_dn (Below.refl wa.heap.size wa) nq
          have H5 := Lib.hid (And.intro hp5 (And.intro (((HRL.out.1.new HWa.out.2).new hbn).one hc5 (benchC q B bL' cL' bW' cW' s2.d.nn s2.op sp' s2.X.length cap')) (And.intro (((HRL.out.2.new HWa.out.2).new hbn).one hc5 (benchC q B bL' cL' bW' cW' s2.d.nn s2.op sp' s2.X.length cap')) (And.intro (((HPa.out.row).new hbn).one hc5 (benchC q B bL' cL' bW' cW' s2.d.nn s2.op sp' s2.X.length cap')) (((HWa.out.1.new hbn).keep hc5 (fun h1 => by have := HPL.out.j.lt _ h1; omega)).other (vs := benchC q B bL' cL' bW' cW' s2.d.nn s2.op sp' s2.X.length cap') (g := Z) (by have := HPL.out.x.lt; omega))))))
          clear hj5 hc5 hp5 hbn
          try dsimp only
          refine hK _ _ ?_
          clear hK K
          try simp only [List.setIfInBounds_toArray]
          refine wpAny_ready (rs := [6]) (by kernel_rfl) (by simp) (AllReady.cons (o := { dst := some 36, op := .move (.tmp 42), type := 54, pos := "law.go:274", after := #[{ on := 5, ground := .data }], guard := none }) rfl (fun K hK => ?_) AllReady.nil)
          go_simp
          refine hK _ _ ?_
          clear hK K
          try simp only [List.setIfInBounds_toArray]
          refine wpAny_ready (rs := [7, 8]) (by kernel_rfl) (by simp) (AllReady.cons (o := { dst := some 43, op := .extract (.tmp 36) 0, type := 53, pos := "law.go:274", after := #[{ on := 6, ground := .data }], guard := none }) rfl (fun K hK => ?_) (AllReady.cons (o := { dst := some 44, op := .extract (.tmp 36) 1, type := 4, pos := "law.go:274", after := #[{ on := 6, ground := .data }, { on := 9, ground := .gcOnly Go.Departure.lateStores }], guard := none }) rfl (fun K hK => ?_) AllReady.nil))
          · go_simp
            refine hK _ _ ?_
            clear hK K
            try simp only [List.setIfInBounds_toArray]
            refine wpAny_ready (rs := [8, 9]) (by kernel_rfl) (by simp) (AllReady.cons (o := { dst := some 44, op := .extract (.tmp 36) 1, type := 4, pos := "law.go:274", after := #[{ on := 6, ground := .data }, { on := 9, ground := .gcOnly Go.Departure.lateStores }], guard := none }) rfl (fun K hK => ?_) (AllReady.cons (o := { dst := none, op := .store 53 (.tmp 3) (.tmp 43), type := 0, pos := "law.go:274", after := #[{ on := 7, ground := .data }, { on := 5, ground := .chain }, { on := 0, ground := .phase }, { on := 1, ground := .phase }, { on := 2, ground := .phase }, { on := 3, ground := .phase }, { on := 4, ground := .phase }, { on := 5, ground := .phase }, { on := 6, ground := .phase }, { on := 7, ground := .phase }, { on := 8, ground := .textOnly Go.Departure.lateStores }], guard := none }) rfl (fun K hK => ?_) AllReady.nil))
            · go_simp
              refine hK _ _ ?_
              clear hK K
              try simp only [List.setIfInBounds_toArray]
              refine wpAny_ready (rs := [9]) (by kernel_rfl) (by simp) (AllReady.cons (o := { dst := none, op := .store 53 (.tmp 3) (.tmp 43), type := 0, pos := "law.go:274", after := #[{ on := 7, ground := .data }, { on := 5, ground := .chain }, { on := 0, ground := .phase }, { on := 1, ground := .phase }, { on := 2, ground := .phase }, { on := 3, ground := .phase }, { on := 4, ground := .phase }, { on := 5, ground := .phase }, { on := 6, ground := .phase }, { on := 7, ground := .phase }, { on := 8, ground := .textOnly Go.Departure.lateStores }], guard := none }) rfl (fun K hK => ?_) AllReady.nil)
              rw [if_pos (by rfl)]
              refine wp_store_row 53 (.tmp 3) (.tmp 43) (by rfl) Z (benchC q B bL' cL' bW' cW' s2.d.nn s2.op sp' s2.X.length cap') (by rfl) (by rfl) 53 _ H5.out.1.1 (by kernel_rfl) rfl (benchC_one _ _ _ _ _ _ _ _ _ _ _) ?_
              refine hK _ _ ?_
              clear hK K
              try simp only [Act.put, List.setIfInBounds_toArray]
              refine wpAny_ready (rs := [10]) (by kernel_rfl) (by simp) (AllReady.cons (o := { dst := some 4, op := .assign (.tmp 44), type := 4, pos := "law.go:274", after := #[{ on := 8, ground := .data }, { on := 9, ground := .chain }, { on := 0, ground := .phase }, { on := 1, ground := .phase }, { on := 2, ground := .phase }, { on := 3, ground := .phase }, { on := 4, ground := .phase }, { on := 5, ground := .phase }, { on := 6, ground := .phase }, { on := 7, ground := .phase }, { on := 8, ground := .phase }, { on := 9, ground := .phase }], guard := none }) rfl (fun K hK => ?_) AllReady.nil)
              go_simp
              refine hK _ _ ?_
              clear hK K
              try simp only [List.setIfInBounds_toArray]
              refine wpAny_done (by kernel_rfl) ?_ _
              go_wp2
              go_meet
              case rel => exact ⟨rfl, _, _, _, _, _, _, _, H5.out.1.2, H5.out.2.1, H5.out.2.2.1, H5.out.2.2.2.1, H5.out.2.2.2.2⟩
            · rw [if_pos (by rfl)]
              refine wp_store_row 53 (.tmp 3) (.tmp 43) (by rfl) Z (benchC q B bL' cL' bW' cW' s2.d.nn s2.op sp' s2.X.length cap') (by rfl) (by rfl) 53 _ H5.out.1.1 (by kernel_rfl) rfl (benchC_one _ _ _ _ _ _ _ _ _ _ _) ?_
              refine hK _ _ ?_
              clear hK K
              try simp only [Act.put, List.setIfInBounds_toArray]
              refine wpAny_ready (rs := [8]) (by kernel_rfl) (by simp) (AllReady.cons (o := { dst := some 44, op := .extract (.tmp 36) 1, type := 4, pos := "law.go:274", after := #[{ on := 6, ground := .data }, { on := 9, ground := .gcOnly Go.Departure.lateStores }], guard := none }) rfl (fun K hK => ?_) AllReady.nil)
              go_simp
              refine hK _ _ ?_
              clear hK K
              try simp only [List.setIfInBounds_toArray]
              refine wpAny_ready (rs := [10]) (by kernel_rfl) (by simp) (AllReady.cons (o := { dst := some 4, op := .assign (.tmp 44), type := 4, pos := "law.go:274", after := #[{ on := 8, ground := .data }, { on := 9, ground := .chain }, { on := 0, ground := .phase }, { on := 1, ground := .phase }, { on := 2, ground := .phase }, { on := 3, ground := .phase }, { on := 4, ground := .phase }, { on := 5, ground := .phase }, { on := 6, ground := .phase }, { on := 7, ground := .phase }, { on := 8, ground := .phase }, { on := 9, ground := .phase }], guard := none }) rfl (fun K hK => ?_) AllReady.nil)
              go_simp
              refine hK _ _ ?_
              clear hK K
              try simp only [List.setIfInBounds_toArray]
              refine wpAny_done (by kernel_rfl) ?_ _
              go_wp2
              go_meet
              case rel => exact ⟨rfl, _, _, _, _, _, _, _, H5.out.1.2, H5.out.2.1, H5.out.2.2.1, H5.out.2.2.2.1, H5.out.2.2.2.2⟩
          · go_simp
            refine hK _ _ ?_
            clear hK K
            try simp only [List.setIfInBounds_toArray]
            refine wpAny_ready (rs := [7]) (by kernel_rfl) (by simp) (AllReady.cons (o := { dst := some 43, op := .extract (.tmp 36) 0, type := 53, pos := "law.go:274", after := #[{ on := 6, ground := .data }], guard := none }) rfl (fun K hK => ?_) AllReady.nil)
            go_simp
            refine hK _ _ ?_
            clear hK K
            try simp only [List.setIfInBounds_toArray]
            refine wpAny_ready (rs := [9]) (by kernel_rfl) (by simp) (AllReady.cons (o := { dst := none, op := .store 53 (.tmp 3) (.tmp 43), type := 0, pos := "law.go:274", after := #[{ on := 7, ground := .data }, { on := 5, ground := .chain }, { on := 0, ground := .phase }, { on := 1, ground := .phase }, { on := 2, ground := .phase }, { on := 3, ground := .phase }, { on := 4, ground := .phase }, { on := 5, ground := .phase }, { on := 6, ground := .phase }, { on := 7, ground := .phase }, { on := 8, ground := .textOnly Go.Departure.lateStores }], guard := none }) rfl (fun K hK => ?_) AllReady.nil)
            rw [if_pos (by rfl)]
            refine wp_store_row 53 (.tmp 3) (.tmp 43) (by rfl) Z (benchC q B bL' cL' bW' cW' s2.d.nn s2.op sp' s2.X.length cap') (by rfl) (by rfl) 53 _ H5.out.1.1 (by kernel_rfl) rfl (benchC_one _ _ _ _ _ _ _ _ _ _ _) ?_
            refine hK _ _ ?_
            clear hK K
            try simp only [Act.put, List.setIfInBounds_toArray]
            refine wpAny_ready (rs := [10]) (by kernel_rfl) (by simp) (AllReady.cons (o := { dst := some 4, op := .assign (.tmp 44), type := 4, pos := "law.go:274", after := #[{ on := 8, ground := .data }, { on := 9, ground := .chain }, { on := 0, ground := .phase }, { on := 1, ground := .phase }, { on := 2, ground := .phase }, { on := 3, ground := .phase }, { on := 4, ground := .phase }, { on := 5, ground := .phase }, { on := 6, ground := .phase }, { on := 7, ground := .phase }, { on := 8, ground := .phase }, { on := 9, ground := .phase }], guard := none }) rfl (fun K hK => ?_) AllReady.nil)
            go_simp
            refine hK _ _ ?_
            clear hK K
            try simp only [List.setIfInBounds_toArray]
            refine wpAny_done (by kernel_rfl) ?_ _
            go_wp2
            go_meet
            case rel => exact ⟨rfl, _, _, _, _, _, _, _, H5.out.1.2, H5.out.2.1, H5.out.2.2.1, H5.out.2.2.2.1, H5.out.2.2.2.2⟩

        case rest =>
          obtain ⟨rfl, HX⟩ := hcut
          obtain ⟨bL1, cL1, bW1, cW1, sp1, bp1, cap1, hP1, hl1, hn1, hw1, hx1⟩ := HX.out
          have HP0 := Lib.hid (And.intro hP1 (And.intro hl1 (And.intro hn1 (And.intro hw1 hx1))))
          obtain ⟨zw, hzw⟩ : ∃ zw, wr.heap.size = zw := ⟨_, rfl⟩
          rw [hzw] at HP0 ⊢
          obtain ⟨nX, hnX⟩ : ∃ nX, s.X.length = nX := ⟨_, rfl⟩
          rw [hnX] at HP0
          obtain ⟨cm, hcm⟩ : ∃ cm, cmB s k8 = cm := ⟨_, rfl⟩
          have HCM := Lib.hid (And.intro hcm hnX)
          rw [hcm] at HSt2
          have HIm := Lib.hid (fun (wx : World) (hx : PL w wx Z B q S g bL1 cL1 bW1 cW1 s2 sp1 bp1 cap1) => code_image hx.j.good hx.j.bk)
          obtain ⟨L, hL⟩ : ∃ L, imgL s2.d = L := ⟨_, rfl⟩
          obtain ⟨hb, hhb⟩ : ∃ hb, imgB s2.d = hb := ⟨_, rfl⟩
          simp only [hL, hhb] at HIm
          obtain ⟨nl, hnl⟩ : ∃ nl, L.length = nl := ⟨_, rfl⟩
          simp only [hnl] at HIm
          have HM := Lib.hid (And.intro (show nl ≤ 26 by rw [← hnl, ← hL]; exact imgL_len hP1.j.good.h4.2) hnl)
          have HLL := Lib.hid hL
          have HHb := Lib.hid hhb
          clear HOn2 HPL HX HRL HWa HPa i0 i1 i2 i3 c0 c2 c3 c4 c5 c6 c7 c8 c9 c10 c11 c12 c13 c1 hP1 hl1 hn1 hw1 hx1 hzw m1 m2 m3 wk8 hL hhb hnl hcm hnX
          go_upto_region 16 with fail
          go_cut [58] from 21 to 88 (fun s58 wx => s58 = .bool cm ∧ Aside (PL w wx Z B q S g bL1 cL1 bW1 cW1 s2 sp1 bp1 cap1 ∧ Row8 wx B q S g Z s5 n5 last ∧ Row8 wx B q S g Z s6 n6 now ∧ Row8 wx B q S g Z sp nX s.X ∧ RowAt wx zw 53 (benchC q B bL cL bW cW s.d.nn s.op sp nX cap)))
          case first =>
            have c12 := was12 HP0.out.2.2.2.2
            have c13 := was13 HP0.out.2.2.2.2
            have hcm := HCM.out.1
            unfold cmB at hcm
            rw [HCM.out.2] at hcm
            by_cases h3 : k8 = 3
            · have e3 : (k8 == 3) = true := by simp [h3]
              rw [decide_eq_true h3, Bool.true_and] at hcm
              clear h3
              by_cases hop : s.op = true
              · rw [hop] at c12 hcm
                rw [Bool.true_and] at hcm
                by_cases h0 : 0 < nX
                · have g0 : (0 : Int) < (nX : Int) := by omega
                  have HD := Lib.hid (decide_eq_true h0)
                  rw [decide_eq_true h0] at hcm
                  have HC := Lib.hid hcm
                  clear hcm h0 hop
                  go_wp2
                  go_meet
                  case rel => exact ⟨by rw [← HC.out, HD.out], HP0.out⟩
                · have g0 : ¬ (0 : Int) < (nX : Int) := by omega
                  have HD := Lib.hid (decide_eq_false h0)
                  rw [decide_eq_false h0] at hcm
                  have HC := Lib.hid hcm
                  clear hcm h0 hop
                  go_wp2
                  go_meet
                  case rel => exact ⟨by rw [← HC.out, HD.out], HP0.out⟩
              · have hop : s.op = false := by simpa using hop
                rw [hop] at c12 hcm
                rw [Bool.false_and] at hcm
                have HC := Lib.hid hcm
                clear hcm hop
                go_wp2
                go_meet
                case rel => exact ⟨by rw [← HC.out], HP0.out⟩
            · have e3 : (k8 == 3) = false := by simp [h3]
              rw [decide_eq_false h3, Bool.false_and] at hcm
              have HC := Lib.hid hcm
              clear h3 hcm
              go_wp2
              go_meet
              case rel => exact ⟨by rw [← HC.out], HP0.out⟩
          case rest =>
            obtain ⟨rfl, HY⟩ := hcut
            have HQ := Lib.hid HY.out
            have c13 := was13 HQ.out.2.2.2.2
            have c1 := HQ.out.1.c1
            clear HY HP0
            cases cm with
            | true =>
              have HIg := Lib.hid (show Img s2.d sm last s.X from HSt2.out.2)
              have HWh := Lib.hid HSt2.out.1
              have HP1 := Lib.hid (And.intro HQ.out.1 (And.intro HQ.out.2.1 (And.intro HQ.out.2.2.2.1 True.intro)))
              clear HQ HSt2
              go_upto_region 19 with (first
                | (go_at_call 13; refine (HIm.out _ HP1.out.1).mono ?_; rintro e w8 ⟨sA, bA, oA, cA, rfl, hwA, hloA, hbA⟩; have H8 := Lib.hid (And.intro (show Row8 w8 B q S g Z sA nl L from ⟨HM.out.2, HM.out.1, bA, oA, hwA, fun h0 => ⟨fun h1 => by have := HP1.out.1.j.lt _ h1; have := hloA h0; omega, fun e => by have := HP1.out.1.x.lt; have := hloA h0; omega⟩⟩) (And.intro (HP1.out.1.new hbA) (And.intro (HP1.out.2.1.new hbA) (HP1.out.2.2.1.new hbA)))); clear hwA hloA hbA)
                | fail)
              clear c1
              cases hb with
              | false =>
                have c7 := H8.out.2.1.c7
                have HJn := Lib.hid (show Img s2.d (sm && !s2.d.on) last s.X from fun L hL => by
                  rcases imgB_none HHb.out with h1 | h1
                  · rw [h1, Bool.not_false, Bool.and_true]; exact HIg.out L hL
                  · rw [h1] at hL; cases hL)
                cases sm with
                | true =>
                  go_wp2
                  go_roundg g1
                  case measure => omega
                  case rel => exact ⟨k + 1, s5, n5, cp5, sp, nX, cap, !s2.d.on, by have := HK.out; omega, by go_num, rfl, rfl, rfl, _, _, _, _, s2, _, _, _, last, s.X, H8.out.2.1, by have := HTo.out.ops; have := HK.out.1; push_cast; omega, HWh.out, HJn.out, H8.out.2.2.1, H8.out.2.2.2⟩
                | false =>
                  go_wp2
                  go_roundg g1
                  case measure => omega
                  case rel => exact ⟨k + 1, s5, n5, cp5, sp, nX, cap, false, by have := HK.out; omega, by go_num, rfl, rfl, rfl, _, _, _, _, s2, _, _, _, last, s.X, H8.out.2.1, by have := HTo.out.ops; have := HK.out.1; push_cast; omega, HWh.out, HJn.out, H8.out.2.2.1, H8.out.2.2.2⟩
              | true =>
                have hL1 : imgW s2.d = some L := by have := (imgB_some HHb.out).2; rw [HLL.out] at this; exact this
                have hcs := HIg.out L hL1
                have HJn := Lib.hid (show Img s2.d true L s.X from fun L' hL' => by rw [hL1] at hL'; exact .inr ⟨rfl, (Option.some.inj hL').symm⟩)
                have HR1 := Lib.hid (lrow_is (cA := cA) (cB := cp5) H8.out.1 H8.out.2.2.1)
                have HR2 := Lib.hid (fun nq => lrow_is (cA := cA) (cB := cap) (H8.out.1.new (below_dn (Below.refl _ _) nq)) (H8.out.2.2.2.new (below_dn (Below.refl _ _) nq)))
                obtain ⟨b1, hb1⟩ : ∃ b1, decide (L = last) = b1 := ⟨_, rfl⟩
                obtain ⟨b2, hb2⟩ : ∃ b2, decide (L = s.X) = b2 := ⟨_, rfl⟩
                simp only [hb1] at HR1
                simp only [hb2] at HR2
                have hor : b2 = true ∨ (sm = true ∧ b1 = true) := by
                  rcases hcs with h1 | ⟨h1, h2⟩
                  · left; rw [← hb2]; exact decide_eq_true h1
                  · right; exact ⟨h1, by rw [← hb1]; exact decide_eq_true h2⟩
                clear hb1 hb2 hcs hL1
                cases sm with
                | true =>
                  cases b1 with
                  | true =>
                    clear hor
                    go_wp2_with (first
                      | (go_at_call 22; refine HR1.out.mono ?_; rintro e wA ⟨rfl, qa, rfl⟩)
                      | fail)
                    go_roundg g1
                    case measure => omega
                    case rel =>
                      have hbq := below_dn (Below.refl w8.heap.size w8) qa
                      exact ⟨k + 1, sA, nl, cA, sp, nX, cap, true, by have := HK.out; omega, by go_num, rfl, rfl, rfl, _, _, _, _, s2, _, _, _, L, s.X, H8.out.2.1.new hbq, by have := HTo.out.ops; have := HK.out.1; push_cast; omega, HWh.out, HJn.out, H8.out.1.new hbq, H8.out.2.2.2.new hbq⟩
                  | false =>
                    obtain rfl : b2 = true := by rcases hor with h | ⟨_, h⟩; exact h; cases h
                    clear hor
                    go_wp2_with (first
                      | (go_at_call 22; refine HR1.out.mono ?_; rintro e wA ⟨rfl, qa, rfl⟩; clear HR1)
                      | (go_at_call 22; refine (HR2.out qa).mono ?_; rintro e wB ⟨rfl, qb, rfl⟩)
                      | fail)
                    go_roundg g1
                    case measure => omega
                    case rel =>
                      have hbq := fun q => below_dn (Below.refl w8.heap.size w8) q
                      exact ⟨k + 1, sA, nl, cA, sp, nX, cap, true, by have := HK.out; omega, by go_num, rfl, rfl, rfl, _, _, _, _, s2, _, _, _, L, s.X, H8.out.2.1.new (hbq _), by have := HTo.out.ops; have := HK.out.1; push_cast; omega, HWh.out, HJn.out, H8.out.1.new (hbq _), H8.out.2.2.2.new (hbq _)⟩
                | false =>
                  obtain rfl : b2 = true := by rcases hor with h | ⟨h, _⟩; exact h; cases h
                  clear hor
                  go_wp2_with (first
                    | (go_at_call 22; refine (HR2.out 0).mono ?_; rintro e wB ⟨rfl, qb, rfl⟩)
                    | fail)
                  go_roundg g1
                  case measure => omega
                  case rel =>
                    have hbq := fun q => below_dn (Below.refl w8.heap.size w8) q
                    exact ⟨k + 1, sA, nl, cA, sp, nX, cap, true, by have := HK.out; omega, by go_num, rfl, rfl, rfl, _, _, _, _, s2, _, _, _, L, s.X, H8.out.2.1.new (hbq _), by have := HTo.out.ops; have := HK.out.1; push_cast; omega, HWh.out, HJn.out, H8.out.1.new (hbq _), H8.out.2.2.2.new (hbq _)⟩
            | false =>
              have HIg := Lib.hid (show Img s2.d sm last now from HSt2.out.2)
              have HWh := Lib.hid HSt2.out.1
              have HP1 := Lib.hid (And.intro HQ.out.1 (And.intro HQ.out.2.1 (And.intro HQ.out.2.2.1 True.intro)))
              clear HQ HSt2
              go_upto_region 19 with (first
                | (go_at_call 13; refine (HIm.out _ HP1.out.1).mono ?_; rintro e w8 ⟨sA, bA, oA, cA, rfl, hwA, hloA, hbA⟩; have H8 := Lib.hid (And.intro (show Row8 w8 B q S g Z sA nl L from ⟨HM.out.2, HM.out.1, bA, oA, hwA, fun h0 => ⟨fun h1 => by have := HP1.out.1.j.lt _ h1; have := hloA h0; omega, fun e => by have := HP1.out.1.x.lt; have := hloA h0; omega⟩⟩) (And.intro (HP1.out.1.new hbA) (And.intro (HP1.out.2.1.new hbA) (HP1.out.2.2.1.new hbA)))); clear hwA hloA hbA)
                | fail)
              clear c1
              cases hb with
              | false =>
                have c7 := H8.out.2.1.c7
                have HJn := Lib.hid (show Img s2.d (sm && !s2.d.on) last now from fun L hL => by
                  rcases imgB_none HHb.out with h1 | h1
                  · rw [h1, Bool.not_false, Bool.and_true]; exact HIg.out L hL
                  · rw [h1] at hL; cases hL)
                cases sm with
                | true =>
                  go_wp2
                  go_roundg g1
                  case measure => omega
                  case rel => exact ⟨k + 1, s5, n5, cp5, s6, n6, cp6, !s2.d.on, by have := HK.out; omega, by go_num, rfl, rfl, rfl, _, _, _, _, s2, _, _, _, last, now, H8.out.2.1, by have := HTo.out.ops; have := HK.out.1; push_cast; omega, HWh.out, HJn.out, H8.out.2.2.1, H8.out.2.2.2⟩
                | false =>
                  go_wp2
                  go_roundg g1
                  case measure => omega
                  case rel => exact ⟨k + 1, s5, n5, cp5, s6, n6, cp6, false, by have := HK.out; omega, by go_num, rfl, rfl, rfl, _, _, _, _, s2, _, _, _, last, now, H8.out.2.1, by have := HTo.out.ops; have := HK.out.1; push_cast; omega, HWh.out, HJn.out, H8.out.2.2.1, H8.out.2.2.2⟩
              | true =>
                have hL1 : imgW s2.d = some L := by have := (imgB_some HHb.out).2; rw [HLL.out] at this; exact this
                have hcs := HIg.out L hL1
                have HJn := Lib.hid (show Img s2.d true L now from fun L' hL' => by rw [hL1] at hL'; exact .inr ⟨rfl, (Option.some.inj hL').symm⟩)
                have HR1 := Lib.hid (lrow_is (cA := cA) (cB := cp5) H8.out.1 H8.out.2.2.1)
                have HR2 := Lib.hid (fun nq => lrow_is (cA := cA) (cB := cp6) (H8.out.1.new (below_dn (Below.refl _ _) nq)) (H8.out.2.2.2.new (below_dn (Below.refl _ _) nq)))
                obtain ⟨b1, hb1⟩ : ∃ b1, decide (L = last) = b1 := ⟨_, rfl⟩
                obtain ⟨b2, hb2⟩ : ∃ b2, decide (L = now) = b2 := ⟨_, rfl⟩
                simp only [hb1] at HR1
                simp only [hb2] at HR2
                have hor : b2 = true ∨ (sm = true ∧ b1 = true) := by
                  rcases hcs with h1 | ⟨h1, h2⟩
                  · left; rw [← hb2]; exact decide_eq_true h1
                  · right; exact ⟨h1, by rw [← hb1]; exact decide_eq_true h2⟩
                clear hb1 hb2 hcs hL1
                cases sm with
                | true =>
                  cases b1 with
                  | true =>
                    clear hor
                    go_wp2_with (first
                      | (go_at_call 22; refine HR1.out.mono ?_; rintro e wA ⟨rfl, qa, rfl⟩)
                      | fail)
                    go_roundg g1
                    case measure => omega
                    case rel =>
                      have hbq := below_dn (Below.refl w8.heap.size w8) qa
                      exact ⟨k + 1, sA, nl, cA, s6, n6, cp6, true, by have := HK.out; omega, by go_num, rfl, rfl, rfl, _, _, _, _, s2, _, _, _, L, now, H8.out.2.1.new hbq, by have := HTo.out.ops; have := HK.out.1; push_cast; omega, HWh.out, HJn.out, H8.out.1.new hbq, H8.out.2.2.2.new hbq⟩
                  | false =>
                    obtain rfl : b2 = true := by rcases hor with h | ⟨_, h⟩; exact h; cases h
                    clear hor
                    go_wp2_with (first
                      | (go_at_call 22; refine HR1.out.mono ?_; rintro e wA ⟨rfl, qa, rfl⟩; clear HR1)
                      | (go_at_call 22; refine (HR2.out qa).mono ?_; rintro e wB ⟨rfl, qb, rfl⟩)
                      | fail)
                    go_roundg g1
                    case measure => omega
                    case rel =>
                      have hbq := fun q => below_dn (Below.refl w8.heap.size w8) q
                      exact ⟨k + 1, sA, nl, cA, s6, n6, cp6, true, by have := HK.out; omega, by go_num, rfl, rfl, rfl, _, _, _, _, s2, _, _, _, L, now, H8.out.2.1.new (hbq _), by have := HTo.out.ops; have := HK.out.1; push_cast; omega, HWh.out, HJn.out, H8.out.1.new (hbq _), H8.out.2.2.2.new (hbq _)⟩
                | false =>
                  obtain rfl : b2 = true := by rcases hor with h | ⟨h, _⟩; exact h; cases h
                  clear hor
                  go_wp2_with (first
                    | (go_at_call 22; refine (HR2.out 0).mono ?_; rintro e wB ⟨rfl, qb, rfl⟩)
                    | fail)
                  go_roundg g1
                  case measure => omega
                  case rel =>
                    have hbq := fun q => below_dn (Below.refl w8.heap.size w8) q
                    exact ⟨k + 1, sA, nl, cA, s6, n6, cp6, true, by have := HK.out; omega, by go_num, rfl, rfl, rfl, _, _, _, _, s2, _, _, _, L, now, H8.out.2.1.new (hbq _), by have := HTo.out.ops; have := HK.out.1; push_cast; omega, HWh.out, HJn.out, H8.out.1.new (hbq _), H8.out.2.2.2.new (hbq _)⟩
end Go.Proofs.Ythpagbfabpfngaa
