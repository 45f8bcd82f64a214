/- Several texts in one: CO. -/
import Derived.Test.YthpagbfabpfngaaPk29
/- The contract of law08's one. -/
namespace Go.Proofs.Ythpagbfabpfngaa
open Go.RowKit

theorem wrap_u32_bv (x : Int) : IntKind.u32.wrap x = w32 (BitVec.ofInt 32 x) := by
  rw [IntKind.wrap_u32]
  unfold w32
  rw [BitVec.toNat_ofInt]
  omega
set_option maxHeartbeats 8000000 in
set_option maxRecDepth 100000 in
theorem one_begin {w : World} {B q S : Nat} {g : Nat → Nat} {s : Jt} {bL cL bW bp : Nat} {sp : Option Addr} (h : JAt w B q S g bL cL bW s sp bp) (cW cap : Nat) (hn : s.d.ops + 41 ≤ 1000000) (o : Op8) (ho : o.fit) (hk : o.kind % 8 = 0) {sm : Option Addr} {bm om cm : Nat} (hM : Ws w sm bm om o.W.length (nthW o.W)) (hmb : 0 < o.W.length → ¬ OwnB B q S g 4 bm) :
    Calls Try.prog 20 #[.agg (benchC q B bL cL bW cW s.d.nn s.op sp s.X.length cap), .agg #[.int .i64 o.kind, .int .i64 o.n, .int .u32 (w32 o.s), .slice sm o.W.length cm]] w fun e w' => OneOut w w' B q S g s.begin e := by
  obtain ⟨bp1, hO, -⟩ := OJ.start h cW cap #[.int .i64 o.kind, .int .i64 o.n, .int .u32 (w32 o.s), .slice sm o.W.length cm]
  have hsz := h.lt
  obtain ⟨X, hX⟩ : ∃ X, X = w.heap.size := ⟨_, rfl⟩
  obtain ⟨w1, hw1⟩ : ∃ w1, ((w.alloc (.cells (benchC q B bL cL bW cW s.d.nn s.op sp s.X.length cap) 53)).alloc (.cells #[.int .i64 o.kind, .int .i64 o.n, .int .u32 (w32 o.s), .slice sm o.W.length cm] 58)).alloc (.cells #[.pointer none, .pointer none, .int .i64 0, .int .i64 0, .int .i64 0, .slice none 0 0, .slice none 0 0, .bool false, .bool false, .int .i64 0, .int .u32 0, .int .i64 0, .bool false, .slice none 0 0] 53) = w1 := ⟨_, rfl⟩
  have H1 := Lib.hid (show OJ w w1 X B q S g s.d s.op s.P bL cL bW cW s.d.nn s.op sp bp1 cap s.X #[.int .i64 o.kind, .int .i64 o.n, .int .u32 (w32 o.s), .slice sm o.W.length cm] by rw [← hw1, hX]; exact hO)
  have HG := Lib.hid (And.intro h.good (And.intro hn ho))
  have HM := Lib.hid (show ∀ wx, Ch (OwnB B q S g 4) w wx → Ws wx sm bm om o.W.length (nthW o.W) from fun wx hc => hM.keep hc hmb)
  have HMB := Lib.hid hmb
  obtain ⟨c0, hc0⟩ : ∃ c0, benchC q B bL cL bW cW s.d.nn s.op sp s.X.length cap = c0 := ⟨_, rfl⟩
  rw [hc0] at hw1 ⊢
  obtain ⟨r, r8, m1, m2, m3⟩ := mod8 o.kind
  obtain ⟨kd, hkd⟩ : ∃ kd, o.kind = kd := ⟨_, rfl⟩
  obtain ⟨on, hon⟩ : ∃ on, o.n = on := ⟨_, rfl⟩
  obtain ⟨sd, hsd⟩ : ∃ sd, w32 o.s = sd := ⟨_, rfl⟩
  obtain ⟨nw, hnw⟩ : ∃ nw, o.W.length = nw := ⟨_, rfl⟩
  have HE := Lib.hid (And.intro hkd (And.intro hon (And.intro hsd hnw)))
  rw [hkd, hon, hsd, hnw] at hw1 H1 ⊢
  rw [hkd] at m1 m3
  have o0 : w1.cell? ⟨X + 1, 0, none⟩ = some (.int .i64 kd) := H1.out.o.cell 0
  have o1 : w1.cell? ⟨X + 1, 1, none⟩ = some (.int .i64 on) := H1.out.o.cell 1
  have o2 : w1.cell? ⟨X + 1, 2, none⟩ = some (.int .u32 sd) := H1.out.o.cell 2
  have o3 : w1.cell? ⟨X + 1, 3, none⟩ = some (.slice sm nw cm) := H1.out.o.cell 3
  have HT := Lib.hid (show s.to s.begin from s.begin_to HG.out.1 HG.out.2.1)
  have HL := Lib.hid (show ∀ wx, OJ w wx X B q S g s.d s.op s.P bL cL bW cW s.d.nn s.op sp bp1 cap s.X #[.int .i64 kd, .int .i64 on, .int .u32 sd, .slice sm nw cm] → Calls Try.prog 54 #[.agg (benchC q B bL cL bW cW s.d.nn s.op sp s.X.length cap)] wx fun e w' => BenchOut wx w' q B bL bW bp1 s.begin.d.nn s.begin.op s.begin.X (fun v => .tuple #[v, .int .i64 (beginR s.d 0 4 s.P).1]) e from fun wx hx => begin_law HG.out.1 HG.out.2.1 hx.ref cL cW hx.cp hx.ws)
  have HPg := Lib.hid (show ∀ wx, Bk wx B q S g s.d 0 4 s.op s.P → Ch (OwnB B q S g 4) w wx → Calls Try.prog 43 #[.pointer (some ⟨B, 0, none⟩)] wx fun e w' => e = .returned (.int .i64 (beginR s.d 0 4 s.P).1) ∧ Bk w' B q S g s.begin.d 0 4 s.begin.op s.begin.P ∧ Ch (OwnB B q S g 4) wx w' from fun wx hx hch => begin_code HG.out.1 HG.out.2.1 hx)
  obtain ⟨t, ht⟩ : ∃ t, s.begin = t := ⟨_, rfl⟩
  obtain ⟨e1, he1⟩ : ∃ e1, (beginR s.d 0 4 s.P).1 = e1 := ⟨_, rfl⟩
  simp only [ht, he1] at HL HPg HT
  rw [ht]
  clear ht he1
  rw [show kd % 8 = 0 from HE.out.1 ▸ hk] at m3
  clear hc0 h hO hM hmb hkd hon hsd hnw hn ho hsz
  go_enter Try.func20, Try.ntmps20
  go_upto_region 1 with fail
  rw [← hX]
  clear hw1 hX
  go_upto_region 8 with (first
    | (refine wpList_load_row rfl 53 (.tmp 2) rfl X rfl 53 (benchC q B bL cL bW cW s.d.nn s.op sp s.X.length cap) (0, 0) _ H1.out.x Try.underlying53 rfl (by kernel_rfl) ?_)
    | (go_at_call 54; refine (HL.out _ H1.out).mono ?_; rintro e w2 hlo; obtain ⟨bL1, cL1, bW1, cW1, sp1, bp2, cap1, rfl, hx2, ho2⟩ := H1.out.law hlo; have H2 := Lib.hid (And.intro hx2 ho2); clear hlo hx2 ho2; try dsimp only)
    | (refine wpList_store_row rfl 53 (.tmp 2) (.tmp 31) rfl X (benchC q B bL1 cL1 bW1 cW1 t.d.nn t.op sp1 t.X.length cap1) rfl rfl 53 _ H2.out.1 (by kernel_rfl) rfl (benchC_one _ _ _ _ _ _ _ _ _ _ _) ?_
       generalize hw3 : World.setRow _ _ _ = w3
       have H3 := Lib.hid (show OJ w w3 X B q S g s.d s.op s.P bL1 cL1 bW1 cW1 t.d.nn t.op sp1 bp2 cap1 t.X #[.int .i64 kd, .int .i64 on, .int .u32 sd, .slice sm nw cm] by rw [← hw3]; exact H2.out.2)
       have d1 : w3.cell? ⟨X, 1, none⟩ = some (.pointer (some ⟨B, 0, none⟩)) := H3.out.x.cell 1
       have p0 : w3.cell? ⟨X + 1, 0, none⟩ = some (.int .i64 kd) := H3.out.o.cell 0
       have p1 : w3.cell? ⟨X + 1, 1, none⟩ = some (.int .i64 on) := H3.out.o.cell 1
       have p3 : w3.cell? ⟨X + 1, 3, none⟩ = some (.slice sm nw cm) := H3.out.o.cell 3
       clear hw3)
    | fail)
  clear o0 o1 o2 o3
  go_upto_region 25 with (first
    | (go_at_call 43; refine (HPg.out _ H3.out.bk H3.out.ch).mono ?_; rintro e w4 ⟨rfl, hb4, hc4⟩; have H4 := Lib.hid (H3.out.prog hb4 hc4 HT.out.good.h4.1); clear hb4 hc4)
    | fail)
  clear d1 p0 p1 p3 m1 m2 m3
  go_wp2_with (first
    | (refine wpList_load_row rfl 53 (.tmp 2) rfl X rfl 53 (benchC q B bL1 cL1 bW1 cW1 t.d.nn t.op sp1 t.X.length cap1) (0, 0) _ H4.out.x Try.underlying53 rfl (by kernel_rfl) ?_)
    | (refine wpList_store_row rfl 53 (.tmp 4) (.tmp 99) rfl (X + 2) (benchC q B bL1 cL1 bW1 cW1 t.d.nn t.op sp1 t.X.length cap1) rfl rfl 53 _ H4.out.y (by kernel_rfl) rfl (benchC_one _ _ _ _ _ _ _ _ _ _ _) ?_)
    | fail)
  refine bodyPost_ret (results_row rfl _ _ (X + 2) 53 (benchC q B bL1 cL1 bW1 cW1 t.d.nn t.op sp1 t.X.length cap1) _ rfl (RowAt.put H4.out.y) Try.underlying53 rfl (by kernel_rfl)) rfl ?_
  have hf := OJ.fin (s := t) H4.out HT.out.good (benchC q B bL1 cL1 bW1 cW1 t.d.nn t.op sp1 t.X.length cap1)
  exact ⟨_, _, _, _, _, _, _, rfl, hf.1, hf.2⟩
set_option maxHeartbeats 8000000 in
set_option maxRecDepth 100000 in
theorem one_commit {w : World} {B q S : Nat} {g : Nat → Nat} {s : Jt} {bL cL bW bp : Nat} {sp : Option Addr} (h : JAt w B q S g bL cL bW s sp bp) (cW cap : Nat) (hn : s.d.ops + 41 ≤ 1000000) (o : Op8) (ho : o.fit) (hk : o.kind % 8 = 3) {sm : Option Addr} {bm om cm : Nat} (hM : Ws w sm bm om o.W.length (nthW o.W)) (hmb : 0 < o.W.length → ¬ OwnB B q S g 4 bm) :
    Calls Try.prog 20 #[.agg (benchC q B bL cL bW cW s.d.nn s.op sp s.X.length cap), .agg #[.int .i64 o.kind, .int .i64 o.n, .int .u32 (w32 o.s), .slice sm o.W.length cm]] w fun e w' => OneOut w w' B q S g (s.commit (BitVec.ofInt 32 o.n)) e := by
  obtain ⟨bp1, hO, -⟩ := OJ.start h cW cap #[.int .i64 o.kind, .int .i64 o.n, .int .u32 (w32 o.s), .slice sm o.W.length cm]
  have hsz := h.lt
  obtain ⟨X, hX⟩ : ∃ X, X = w.heap.size := ⟨_, rfl⟩
  obtain ⟨w1, hw1⟩ : ∃ w1, ((w.alloc (.cells (benchC q B bL cL bW cW s.d.nn s.op sp s.X.length cap) 53)).alloc (.cells #[.int .i64 o.kind, .int .i64 o.n, .int .u32 (w32 o.s), .slice sm o.W.length cm] 58)).alloc (.cells #[.pointer none, .pointer none, .int .i64 0, .int .i64 0, .int .i64 0, .slice none 0 0, .slice none 0 0, .bool false, .bool false, .int .i64 0, .int .u32 0, .int .i64 0, .bool false, .slice none 0 0] 53) = w1 := ⟨_, rfl⟩
  have H1 := Lib.hid (show OJ w w1 X B q S g s.d s.op s.P bL cL bW cW s.d.nn s.op sp bp1 cap s.X #[.int .i64 o.kind, .int .i64 o.n, .int .u32 (w32 o.s), .slice sm o.W.length cm] by rw [← hw1, hX]; exact hO)
  have HG := Lib.hid (And.intro h.good (And.intro hn ho))
  have HM := Lib.hid (show ∀ wx, Ch (OwnB B q S g 4) w wx → Ws wx sm bm om o.W.length (nthW o.W) from fun wx hc => hM.keep hc hmb)
  have HMB := Lib.hid hmb
  obtain ⟨c0, hc0⟩ : ∃ c0, benchC q B bL cL bW cW s.d.nn s.op sp s.X.length cap = c0 := ⟨_, rfl⟩
  rw [hc0] at hw1 ⊢
  obtain ⟨r, r8, m1, m2, m3⟩ := mod8 o.kind
  obtain ⟨kd, hkd⟩ : ∃ kd, o.kind = kd := ⟨_, rfl⟩
  obtain ⟨on, hon⟩ : ∃ on, o.n = on := ⟨_, rfl⟩
  obtain ⟨sd, hsd⟩ : ∃ sd, w32 o.s = sd := ⟨_, rfl⟩
  obtain ⟨nw, hnw⟩ : ∃ nw, o.W.length = nw := ⟨_, rfl⟩
  have HE := Lib.hid (And.intro hkd (And.intro hon (And.intro hsd hnw)))
  rw [hkd, hon, hsd, hnw] at hw1 H1 ⊢
  rw [hkd] at m1 m3
  have o0 : w1.cell? ⟨X + 1, 0, none⟩ = some (.int .i64 kd) := H1.out.o.cell 0
  have o1 : w1.cell? ⟨X + 1, 1, none⟩ = some (.int .i64 on) := H1.out.o.cell 1
  have o2 : w1.cell? ⟨X + 1, 2, none⟩ = some (.int .u32 sd) := H1.out.o.cell 2
  have o3 : w1.cell? ⟨X + 1, 3, none⟩ = some (.slice sm nw cm) := H1.out.o.cell 3
  have HT := Lib.hid (show s.to (s.commit (BitVec.ofInt 32 on)) from s.commit_to HG.out.1 HG.out.2.1 _)
  have HL := Lib.hid (show ∀ wx, OJ w wx X B q S g s.d s.op s.P bL cL bW cW s.d.nn s.op sp bp1 cap s.X #[.int .i64 kd, .int .i64 on, .int .u32 sd, .slice sm nw cm] → Calls Try.prog 55 #[.agg (benchC q B bL cL bW cW s.d.nn s.op sp s.X.length cap), .int .u32 (w32 (BitVec.ofInt 32 on))] wx fun e w' => BenchOut wx w' q B bL bW bp1 (s.commit (BitVec.ofInt 32 on)).d.nn (s.commit (BitVec.ofInt 32 on)).op (s.commit (BitVec.ofInt 32 on)).X (fun v => .tuple #[v, .int .i64 (s.commitE (BitVec.ofInt 32 on))]) e from fun wx hx => commit_law HG.out.1 HG.out.2.1 hx.ref cL cW hx.cp hx.ws _)
  have HPg := Lib.hid (show ∀ wx, Bk wx B q S g s.d 0 4 s.op s.P → Ch (OwnB B q S g 4) w wx → Calls Try.prog 45 #[.pointer (some ⟨B, 0, none⟩), .int .u32 (w32 (BitVec.ofInt 32 on))] wx fun e w' => e = .returned (.int .i64 (s.commitE (BitVec.ofInt 32 on))) ∧ Bk w' B q S g (s.commit (BitVec.ofInt 32 on)).d 0 4 (s.commit (BitVec.ofInt 32 on)).op (s.commit (BitVec.ofInt 32 on)).P ∧ Ch (OwnB B q S g 4) wx w' from fun wx hx hch => commit_code HG.out.1 HG.out.2.1 hx _)
  obtain ⟨t, ht⟩ : ∃ t, (s.commit (BitVec.ofInt 32 on)) = t := ⟨_, rfl⟩
  obtain ⟨e1, he1⟩ : ∃ e1, (s.commitE (BitVec.ofInt 32 on)) = e1 := ⟨_, rfl⟩
  simp only [ht, he1] at HL HPg HT
  rw [ht]
  clear ht he1
  have cv : IntKind.u32.wrap on = w32 (BitVec.ofInt 32 on) := by exact wrap_u32_bv on
  obtain ⟨sq, hsq⟩ : ∃ sq, w32 (BitVec.ofInt 32 on) = sq := ⟨_, rfl⟩
  rw [hsq] at cv HL HPg
  clear hsq
  rw [show kd % 8 = 3 from HE.out.1 ▸ hk] at m3
  clear hc0 h hO hM hmb hkd hon hsd hnw hn ho hsz
  go_enter Try.func20, Try.ntmps20
  go_upto_region 1 with fail
  rw [← hX]
  clear hw1 hX
  go_upto_region 11 with (first
    | (refine wpList_load_row rfl 53 (.tmp 2) rfl X rfl 53 (benchC q B bL cL bW cW s.d.nn s.op sp s.X.length cap) (0, 0) _ H1.out.x Try.underlying53 rfl (by kernel_rfl) ?_)
    | (go_at_call 55; refine (HL.out _ H1.out).mono ?_; rintro e w2 hlo; obtain ⟨bL1, cL1, bW1, cW1, sp1, bp2, cap1, rfl, hx2, ho2⟩ := H1.out.law hlo; have H2 := Lib.hid (And.intro hx2 ho2); clear hlo hx2 ho2; try dsimp only)
    | (refine wpList_store_row rfl 53 (.tmp 2) (.tmp 44) rfl X (benchC q B bL1 cL1 bW1 cW1 t.d.nn t.op sp1 t.X.length cap1) rfl rfl 53 _ H2.out.1 (by kernel_rfl) rfl (benchC_one _ _ _ _ _ _ _ _ _ _ _) ?_
       generalize hw3 : World.setRow _ _ _ = w3
       have H3 := Lib.hid (show OJ w w3 X B q S g s.d s.op s.P bL1 cL1 bW1 cW1 t.d.nn t.op sp1 bp2 cap1 t.X #[.int .i64 kd, .int .i64 on, .int .u32 sd, .slice sm nw cm] by rw [← hw3]; exact H2.out.2)
       have d1 : w3.cell? ⟨X, 1, none⟩ = some (.pointer (some ⟨B, 0, none⟩)) := H3.out.x.cell 1
       have p0 : w3.cell? ⟨X + 1, 0, none⟩ = some (.int .i64 kd) := H3.out.o.cell 0
       have p1 : w3.cell? ⟨X + 1, 1, none⟩ = some (.int .i64 on) := H3.out.o.cell 1
       have p3 : w3.cell? ⟨X + 1, 3, none⟩ = some (.slice sm nw cm) := H3.out.o.cell 3
       clear hw3)
    | fail)
  clear o0 o1 o2 o3
  go_upto_region 25 with (first
    | (go_at_call 45; refine (HPg.out _ H3.out.bk H3.out.ch).mono ?_; rintro e w4 ⟨rfl, hb4, hc4⟩; have H4 := Lib.hid (H3.out.prog hb4 hc4 HT.out.good.h4.1); clear hb4 hc4)
    | fail)
  clear d1 p0 p1 p3 m1 m2 m3
  go_wp2_with (first
    | (refine wpList_load_row rfl 53 (.tmp 2) rfl X rfl 53 (benchC q B bL1 cL1 bW1 cW1 t.d.nn t.op sp1 t.X.length cap1) (0, 0) _ H4.out.x Try.underlying53 rfl (by kernel_rfl) ?_)
    | (refine wpList_store_row rfl 53 (.tmp 4) (.tmp 99) rfl (X + 2) (benchC q B bL1 cL1 bW1 cW1 t.d.nn t.op sp1 t.X.length cap1) rfl rfl 53 _ H4.out.y (by kernel_rfl) rfl (benchC_one _ _ _ _ _ _ _ _ _ _ _) ?_)
    | fail)
  refine bodyPost_ret (results_row rfl _ _ (X + 2) 53 (benchC q B bL1 cL1 bW1 cW1 t.d.nn t.op sp1 t.X.length cap1) _ rfl (RowAt.put H4.out.y) Try.underlying53 rfl (by kernel_rfl)) rfl ?_
  have hf := OJ.fin (s := t) H4.out HT.out.good (benchC q B bL1 cL1 bW1 cW1 t.d.nn t.op sp1 t.X.length cap1)
  exact ⟨_, _, _, _, _, _, _, rfl, hf.1, hf.2⟩
set_option maxHeartbeats 8000000 in
set_option maxRecDepth 100000 in
theorem one_confirm {w : World} {B q S : Nat} {g : Nat → Nat} {s : Jt} {bL cL bW bp : Nat} {sp : Option Addr} (h : JAt w B q S g bL cL bW s sp bp) (cW cap : Nat) (hn : s.d.ops + 41 ≤ 1000000) (o : Op8) (ho : o.fit) (hk : o.kind % 8 = 4) {sm : Option Addr} {bm om cm : Nat} (hM : Ws w sm bm om o.W.length (nthW o.W)) (hmb : 0 < o.W.length → ¬ OwnB B q S g 4 bm) :
    Calls Try.prog 20 #[.agg (benchC q B bL cL bW cW s.d.nn s.op sp s.X.length cap), .agg #[.int .i64 o.kind, .int .i64 o.n, .int .u32 (w32 o.s), .slice sm o.W.length cm]] w fun e w' => OneOut w w' B q S g (s.mark false) e := by
  obtain ⟨bp1, hO, -⟩ := OJ.start h cW cap #[.int .i64 o.kind, .int .i64 o.n, .int .u32 (w32 o.s), .slice sm o.W.length cm]
  have hsz := h.lt
  obtain ⟨X, hX⟩ : ∃ X, X = w.heap.size := ⟨_, rfl⟩
  obtain ⟨w1, hw1⟩ : ∃ w1, ((w.alloc (.cells (benchC q B bL cL bW cW s.d.nn s.op sp s.X.length cap) 53)).alloc (.cells #[.int .i64 o.kind, .int .i64 o.n, .int .u32 (w32 o.s), .slice sm o.W.length cm] 58)).alloc (.cells #[.pointer none, .pointer none, .int .i64 0, .int .i64 0, .int .i64 0, .slice none 0 0, .slice none 0 0, .bool false, .bool false, .int .i64 0, .int .u32 0, .int .i64 0, .bool false, .slice none 0 0] 53) = w1 := ⟨_, rfl⟩
  have H1 := Lib.hid (show OJ w w1 X B q S g s.d s.op s.P bL cL bW cW s.d.nn s.op sp bp1 cap s.X #[.int .i64 o.kind, .int .i64 o.n, .int .u32 (w32 o.s), .slice sm o.W.length cm] by rw [← hw1, hX]; exact hO)
  have HG := Lib.hid (And.intro h.good (And.intro hn ho))
  have HM := Lib.hid (show ∀ wx, Ch (OwnB B q S g 4) w wx → Ws wx sm bm om o.W.length (nthW o.W) from fun wx hc => hM.keep hc hmb)
  have HMB := Lib.hid hmb
  obtain ⟨c0, hc0⟩ : ∃ c0, benchC q B bL cL bW cW s.d.nn s.op sp s.X.length cap = c0 := ⟨_, rfl⟩
  rw [hc0] at hw1 ⊢
  obtain ⟨r, r8, m1, m2, m3⟩ := mod8 o.kind
  obtain ⟨kd, hkd⟩ : ∃ kd, o.kind = kd := ⟨_, rfl⟩
  obtain ⟨on, hon⟩ : ∃ on, o.n = on := ⟨_, rfl⟩
  obtain ⟨sd, hsd⟩ : ∃ sd, w32 o.s = sd := ⟨_, rfl⟩
  obtain ⟨nw, hnw⟩ : ∃ nw, o.W.length = nw := ⟨_, rfl⟩
  have HE := Lib.hid (And.intro hkd (And.intro hon (And.intro hsd hnw)))
  rw [hkd, hon, hsd, hnw] at hw1 H1 ⊢
  rw [hkd] at m1 m3
  have o0 : w1.cell? ⟨X + 1, 0, none⟩ = some (.int .i64 kd) := H1.out.o.cell 0
  have o1 : w1.cell? ⟨X + 1, 1, none⟩ = some (.int .i64 on) := H1.out.o.cell 1
  have o2 : w1.cell? ⟨X + 1, 2, none⟩ = some (.int .u32 sd) := H1.out.o.cell 2
  have o3 : w1.cell? ⟨X + 1, 3, none⟩ = some (.slice sm nw cm) := H1.out.o.cell 3
  have HT := Lib.hid (show s.to (s.mark false) from s.confirm_to HG.out.1 HG.out.2.1)
  have HL := Lib.hid (show ∀ wx, OJ w wx X B q S g s.d s.op s.P bL cL bW cW s.d.nn s.op sp bp1 cap s.X #[.int .i64 kd, .int .i64 on, .int .u32 sd, .slice sm nw cm] → Calls Try.prog 56 #[.agg (benchC q B bL cL bW cW s.d.nn s.op sp s.X.length cap), .bool false] wx fun e w' => BenchOut wx w' q B bL bW bp1 (s.mark false).d.nn (s.mark false).op (s.mark false).X (fun v => .tuple #[v, .int .i64 (markR s.d false).2]) e from fun wx hx => mark_law HG.out.1 HG.out.2.1 hx.ref cL cW hx.cp hx.ws false)
  have HPg := Lib.hid (show ∀ wx, Bk wx B q S g s.d 0 4 s.op s.P → Ch (OwnB B q S g 4) w wx → Calls Try.prog 58 #[.pointer (some ⟨B, 0, none⟩)] wx fun e w' => e = .returned (.int .i64 (markR s.d false).2) ∧ Bk w' B q S g (s.mark false).d 0 4 (s.mark false).op (s.mark false).P ∧ Ch (OwnB B q S g 4) wx w' from fun wx hx hch => confirm_code HG.out.1 HG.out.2.1 hx)
  obtain ⟨t, ht⟩ : ∃ t, (s.mark false) = t := ⟨_, rfl⟩
  obtain ⟨e1, he1⟩ : ∃ e1, (markR s.d false).2 = e1 := ⟨_, rfl⟩
  simp only [ht, he1] at HL HPg HT
  rw [ht]
  clear ht he1
  rw [show kd % 8 = 4 from HE.out.1 ▸ hk] at m3
  clear hc0 h hO hM hmb hkd hon hsd hnw hn ho hsz
  go_enter Try.func20, Try.ntmps20
  go_upto_region 1 with fail
  rw [← hX]
  clear hw1 hX
  go_upto_region 16 with (first
    | (refine wpList_load_row rfl 53 (.tmp 2) rfl X rfl 53 (benchC q B bL cL bW cW s.d.nn s.op sp s.X.length cap) (0, 0) _ H1.out.x Try.underlying53 rfl (by kernel_rfl) ?_)
    | (go_at_call 56; refine (HL.out _ H1.out).mono ?_; rintro e w2 hlo; obtain ⟨bL1, cL1, bW1, cW1, sp1, bp2, cap1, rfl, hx2, ho2⟩ := H1.out.law hlo; have H2 := Lib.hid (And.intro hx2 ho2); clear hlo hx2 ho2; try dsimp only)
    | (refine wpList_store_row rfl 53 (.tmp 2) (.tmp 65) rfl X (benchC q B bL1 cL1 bW1 cW1 t.d.nn t.op sp1 t.X.length cap1) rfl rfl 53 _ H2.out.1 (by kernel_rfl) rfl (benchC_one _ _ _ _ _ _ _ _ _ _ _) ?_
       generalize hw3 : World.setRow _ _ _ = w3
       have H3 := Lib.hid (show OJ w w3 X B q S g s.d s.op s.P bL1 cL1 bW1 cW1 t.d.nn t.op sp1 bp2 cap1 t.X #[.int .i64 kd, .int .i64 on, .int .u32 sd, .slice sm nw cm] by rw [← hw3]; exact H2.out.2)
       have d1 : w3.cell? ⟨X, 1, none⟩ = some (.pointer (some ⟨B, 0, none⟩)) := H3.out.x.cell 1
       have p0 : w3.cell? ⟨X + 1, 0, none⟩ = some (.int .i64 kd) := H3.out.o.cell 0
       have p1 : w3.cell? ⟨X + 1, 1, none⟩ = some (.int .i64 on) := H3.out.o.cell 1
       have p3 : w3.cell? ⟨X + 1, 3, none⟩ = some (.slice sm nw cm) := H3.out.o.cell 3
       clear hw3)
    | fail)
  clear o0 o1 o2 o3
  go_upto_region 25 with (first
    | (go_at_call 58; refine (HPg.out _ H3.out.bk H3.out.ch).mono ?_; rintro e w4 ⟨rfl, hb4, hc4⟩; have H4 := Lib.hid (H3.out.prog hb4 hc4 HT.out.good.h4.1); clear hb4 hc4)
    | fail)
  clear d1 p0 p1 p3 m1 m2 m3
  go_wp2_with (first
    | (refine wpList_load_row rfl 53 (.tmp 2) rfl X rfl 53 (benchC q B bL1 cL1 bW1 cW1 t.d.nn t.op sp1 t.X.length cap1) (0, 0) _ H4.out.x Try.underlying53 rfl (by kernel_rfl) ?_)
    | (refine wpList_store_row rfl 53 (.tmp 4) (.tmp 99) rfl (X + 2) (benchC q B bL1 cL1 bW1 cW1 t.d.nn t.op sp1 t.X.length cap1) rfl rfl 53 _ H4.out.y (by kernel_rfl) rfl (benchC_one _ _ _ _ _ _ _ _ _ _ _) ?_)
    | fail)
  refine bodyPost_ret (results_row rfl _ _ (X + 2) 53 (benchC q B bL1 cL1 bW1 cW1 t.d.nn t.op sp1 t.X.length cap1) _ rfl (RowAt.put H4.out.y) Try.underlying53 rfl (by kernel_rfl)) rfl ?_
  have hf := OJ.fin (s := t) H4.out HT.out.good (benchC q B bL1 cL1 bW1 cW1 t.d.nn t.op sp1 t.X.length cap1)
  exact ⟨_, _, _, _, _, _, _, rfl, hf.1, hf.2⟩
set_option maxHeartbeats 8000000 in
set_option maxRecDepth 100000 in
theorem one_try {w : World} {B q S : Nat} {g : Nat → Nat} {s : Jt} {bL cL bW bp : Nat} {sp : Option Addr} (h : JAt w B q S g bL cL bW s sp bp) (cW cap : Nat) (hn : s.d.ops + 41 ≤ 1000000) (o : Op8) (ho : o.fit) (hk : o.kind % 8 = 5) {sm : Option Addr} {bm om cm : Nat} (hM : Ws w sm bm om o.W.length (nthW o.W)) (hmb : 0 < o.W.length → ¬ OwnB B q S g 4 bm) :
    Calls Try.prog 20 #[.agg (benchC q B bL cL bW cW s.d.nn s.op sp s.X.length cap), .agg #[.int .i64 o.kind, .int .i64 o.n, .int .u32 (w32 o.s), .slice sm o.W.length cm]] w fun e w' => OneOut w w' B q S g (s.mark true) e := by
  obtain ⟨bp1, hO, -⟩ := OJ.start h cW cap #[.int .i64 o.kind, .int .i64 o.n, .int .u32 (w32 o.s), .slice sm o.W.length cm]
  have hsz := h.lt
  obtain ⟨X, hX⟩ : ∃ X, X = w.heap.size := ⟨_, rfl⟩
  obtain ⟨w1, hw1⟩ : ∃ w1, ((w.alloc (.cells (benchC q B bL cL bW cW s.d.nn s.op sp s.X.length cap) 53)).alloc (.cells #[.int .i64 o.kind, .int .i64 o.n, .int .u32 (w32 o.s), .slice sm o.W.length cm] 58)).alloc (.cells #[.pointer none, .pointer none, .int .i64 0, .int .i64 0, .int .i64 0, .slice none 0 0, .slice none 0 0, .bool false, .bool false, .int .i64 0, .int .u32 0, .int .i64 0, .bool false, .slice none 0 0] 53) = w1 := ⟨_, rfl⟩
  have H1 := Lib.hid (show OJ w w1 X B q S g s.d s.op s.P bL cL bW cW s.d.nn s.op sp bp1 cap s.X #[.int .i64 o.kind, .int .i64 o.n, .int .u32 (w32 o.s), .slice sm o.W.length cm] by rw [← hw1, hX]; exact hO)
  have HG := Lib.hid (And.intro h.good (And.intro hn ho))
  have HM := Lib.hid (show ∀ wx, Ch (OwnB B q S g 4) w wx → Ws wx sm bm om o.W.length (nthW o.W) from fun wx hc => hM.keep hc hmb)
  have HMB := Lib.hid hmb
  obtain ⟨c0, hc0⟩ : ∃ c0, benchC q B bL cL bW cW s.d.nn s.op sp s.X.length cap = c0 := ⟨_, rfl⟩
  rw [hc0] at hw1 ⊢
  obtain ⟨r, r8, m1, m2, m3⟩ := mod8 o.kind
  obtain ⟨kd, hkd⟩ : ∃ kd, o.kind = kd := ⟨_, rfl⟩
  obtain ⟨on, hon⟩ : ∃ on, o.n = on := ⟨_, rfl⟩
  obtain ⟨sd, hsd⟩ : ∃ sd, w32 o.s = sd := ⟨_, rfl⟩
  obtain ⟨nw, hnw⟩ : ∃ nw, o.W.length = nw := ⟨_, rfl⟩
  have HE := Lib.hid (And.intro hkd (And.intro hon (And.intro hsd hnw)))
  rw [hkd, hon, hsd, hnw] at hw1 H1 ⊢
  rw [hkd] at m1 m3
  have o0 : w1.cell? ⟨X + 1, 0, none⟩ = some (.int .i64 kd) := H1.out.o.cell 0
  have o1 : w1.cell? ⟨X + 1, 1, none⟩ = some (.int .i64 on) := H1.out.o.cell 1
  have o2 : w1.cell? ⟨X + 1, 2, none⟩ = some (.int .u32 sd) := H1.out.o.cell 2
  have o3 : w1.cell? ⟨X + 1, 3, none⟩ = some (.slice sm nw cm) := H1.out.o.cell 3
  have HT := Lib.hid (show s.to (s.mark true) from s.try_to HG.out.1 HG.out.2.1)
  have HL := Lib.hid (show ∀ wx, OJ w wx X B q S g s.d s.op s.P bL cL bW cW s.d.nn s.op sp bp1 cap s.X #[.int .i64 kd, .int .i64 on, .int .u32 sd, .slice sm nw cm] → Calls Try.prog 56 #[.agg (benchC q B bL cL bW cW s.d.nn s.op sp s.X.length cap), .bool true] wx fun e w' => BenchOut wx w' q B bL bW bp1 (s.mark true).d.nn (s.mark true).op (s.mark true).X (fun v => .tuple #[v, .int .i64 (markR s.d true).2]) e from fun wx hx => mark_law HG.out.1 HG.out.2.1 hx.ref cL cW hx.cp hx.ws true)
  have HPg := Lib.hid (show ∀ wx, Bk wx B q S g s.d 0 4 s.op s.P → Ch (OwnB B q S g 4) w wx → Calls Try.prog 57 #[.pointer (some ⟨B, 0, none⟩)] wx fun e w' => e = .returned (.int .i64 (markR s.d true).2) ∧ Bk w' B q S g (s.mark true).d 0 4 (s.mark true).op (s.mark true).P ∧ Ch (OwnB B q S g 4) wx w' from fun wx hx hch => try_code HG.out.1 hx)
  obtain ⟨t, ht⟩ : ∃ t, (s.mark true) = t := ⟨_, rfl⟩
  obtain ⟨e1, he1⟩ : ∃ e1, (markR s.d true).2 = e1 := ⟨_, rfl⟩
  simp only [ht, he1] at HL HPg HT
  rw [ht]
  clear ht he1
  rw [show kd % 8 = 5 from HE.out.1 ▸ hk] at m3
  clear hc0 h hO hM hmb hkd hon hsd hnw hn ho hsz
  go_enter Try.func20, Try.ntmps20
  go_upto_region 1 with fail
  rw [← hX]
  clear hw1 hX
  go_upto_region 16 with (first
    | (refine wpList_load_row rfl 53 (.tmp 2) rfl X rfl 53 (benchC q B bL cL bW cW s.d.nn s.op sp s.X.length cap) (0, 0) _ H1.out.x Try.underlying53 rfl (by kernel_rfl) ?_)
    | (go_at_call 56; refine (HL.out _ H1.out).mono ?_; rintro e w2 hlo; obtain ⟨bL1, cL1, bW1, cW1, sp1, bp2, cap1, rfl, hx2, ho2⟩ := H1.out.law hlo; have H2 := Lib.hid (And.intro hx2 ho2); clear hlo hx2 ho2; try dsimp only)
    | (refine wpList_store_row rfl 53 (.tmp 2) (.tmp 65) rfl X (benchC q B bL1 cL1 bW1 cW1 t.d.nn t.op sp1 t.X.length cap1) rfl rfl 53 _ H2.out.1 (by kernel_rfl) rfl (benchC_one _ _ _ _ _ _ _ _ _ _ _) ?_
       generalize hw3 : World.setRow _ _ _ = w3
       have H3 := Lib.hid (show OJ w w3 X B q S g s.d s.op s.P bL1 cL1 bW1 cW1 t.d.nn t.op sp1 bp2 cap1 t.X #[.int .i64 kd, .int .i64 on, .int .u32 sd, .slice sm nw cm] by rw [← hw3]; exact H2.out.2)
       have d1 : w3.cell? ⟨X, 1, none⟩ = some (.pointer (some ⟨B, 0, none⟩)) := H3.out.x.cell 1
       have p0 : w3.cell? ⟨X + 1, 0, none⟩ = some (.int .i64 kd) := H3.out.o.cell 0
       have p1 : w3.cell? ⟨X + 1, 1, none⟩ = some (.int .i64 on) := H3.out.o.cell 1
       have p3 : w3.cell? ⟨X + 1, 3, none⟩ = some (.slice sm nw cm) := H3.out.o.cell 3
       clear hw3)
    | fail)
  clear o0 o1 o2 o3
  go_upto_region 25 with (first
    | (go_at_call 57; refine (HPg.out _ H3.out.bk H3.out.ch).mono ?_; rintro e w4 ⟨rfl, hb4, hc4⟩; have H4 := Lib.hid (H3.out.prog hb4 hc4 HT.out.good.h4.1); clear hb4 hc4)
    | fail)
  clear d1 p0 p1 p3 m1 m2 m3
  go_wp2_with (first
    | (refine wpList_load_row rfl 53 (.tmp 2) rfl X rfl 53 (benchC q B bL1 cL1 bW1 cW1 t.d.nn t.op sp1 t.X.length cap1) (0, 0) _ H4.out.x Try.underlying53 rfl (by kernel_rfl) ?_)
    | (refine wpList_store_row rfl 53 (.tmp 4) (.tmp 99) rfl (X + 2) (benchC q B bL1 cL1 bW1 cW1 t.d.nn t.op sp1 t.X.length cap1) rfl rfl 53 _ H4.out.y (by kernel_rfl) rfl (benchC_one _ _ _ _ _ _ _ _ _ _ _) ?_)
    | fail)
  refine bodyPost_ret (results_row rfl _ _ (X + 2) 53 (benchC q B bL1 cL1 bW1 cW1 t.d.nn t.op sp1 t.X.length cap1) _ rfl (RowAt.put H4.out.y) Try.underlying53 rfl (by kernel_rfl)) rfl ?_
  have hf := OJ.fin (s := t) H4.out HT.out.good (benchC q B bL1 cL1 bW1 cW1 t.d.nn t.op sp1 t.X.length cap1)
  exact ⟨_, _, _, _, _, _, _, rfl, hf.1, hf.2⟩
set_option maxHeartbeats 8000000 in
set_option maxRecDepth 100000 in
theorem one_put {w : World} {B q S : Nat} {g : Nat → Nat} {s : Jt} {bL cL bW bp : Nat} {sp : Option Addr} (h : JAt w B q S g bL cL bW s sp bp) (cW cap : Nat) (hn : s.d.ops + 41 ≤ 1000000) (o : Op8) (ho : o.fit) (hk : o.kind % 8 = 1 ∨ o.kind % 8 = 2) {sm : Option Addr} {bm om cm : Nat} (hM : Ws w sm bm om o.W.length (nthW o.W)) (hmb : 0 < o.W.length → ¬ OwnB B q S g 4 bm) :
    Calls Try.prog 20 #[.agg (benchC q B bL cL bW cW s.d.nn s.op sp s.X.length cap), .agg #[.int .i64 o.kind, .int .i64 o.n, .int .u32 (w32 o.s), .slice sm o.W.length cm]] w fun e w' => OneOut w w' B q S g (s.put o.W) e := by
  obtain ⟨bp1, hO, -⟩ := OJ.start h cW cap #[.int .i64 o.kind, .int .i64 o.n, .int .u32 (w32 o.s), .slice sm o.W.length cm]
  have hsz := h.lt
  obtain ⟨X, hX⟩ : ∃ X, X = w.heap.size := ⟨_, rfl⟩
  obtain ⟨w1, hw1⟩ : ∃ w1, ((w.alloc (.cells (benchC q B bL cL bW cW s.d.nn s.op sp s.X.length cap) 53)).alloc (.cells #[.int .i64 o.kind, .int .i64 o.n, .int .u32 (w32 o.s), .slice sm o.W.length cm] 58)).alloc (.cells #[.pointer none, .pointer none, .int .i64 0, .int .i64 0, .int .i64 0, .slice none 0 0, .slice none 0 0, .bool false, .bool false, .int .i64 0, .int .u32 0, .int .i64 0, .bool false, .slice none 0 0] 53) = w1 := ⟨_, rfl⟩
  have H1 := Lib.hid (show OJ w w1 X B q S g s.d s.op s.P bL cL bW cW s.d.nn s.op sp bp1 cap s.X #[.int .i64 o.kind, .int .i64 o.n, .int .u32 (w32 o.s), .slice sm o.W.length cm] by rw [← hw1, hX]; exact hO)
  have HG := Lib.hid (And.intro h.good (And.intro hn ho))
  have HM := Lib.hid (show ∀ wx, Ch (OwnB B q S g 4) w wx → Ws wx sm bm om o.W.length (nthW o.W) from fun wx hc => hM.keep hc hmb)
  have HMB := Lib.hid hmb
  obtain ⟨c0, hc0⟩ : ∃ c0, benchC q B bL cL bW cW s.d.nn s.op sp s.X.length cap = c0 := ⟨_, rfl⟩
  rw [hc0] at hw1 ⊢
  obtain ⟨r, r8, m1, m2, m3⟩ := mod8 o.kind
  obtain ⟨kd, hkd⟩ : ∃ kd, o.kind = kd := ⟨_, rfl⟩
  obtain ⟨on, hon⟩ : ∃ on, o.n = on := ⟨_, rfl⟩
  obtain ⟨sd, hsd⟩ : ∃ sd, w32 o.s = sd := ⟨_, rfl⟩
  obtain ⟨nw, hnw⟩ : ∃ nw, o.W.length = nw := ⟨_, rfl⟩
  have HE := Lib.hid (And.intro hkd (And.intro hon (And.intro hsd hnw)))
  rw [hkd, hon, hsd, hnw] at hw1 H1 ⊢
  rw [hkd] at m1 m3
  have o0 : w1.cell? ⟨X + 1, 0, none⟩ = some (.int .i64 kd) := H1.out.o.cell 0
  have o1 : w1.cell? ⟨X + 1, 1, none⟩ = some (.int .i64 on) := H1.out.o.cell 1
  have o2 : w1.cell? ⟨X + 1, 2, none⟩ = some (.int .u32 sd) := H1.out.o.cell 2
  have o3 : w1.cell? ⟨X + 1, 3, none⟩ = some (.slice sm nw cm) := H1.out.o.cell 3
  have HT := Lib.hid (show s.to (s.put o.W) from s.put_to HG.out.1 HG.out.2.1 _ HG.out.2.2.w)
  have HL := Lib.hid (show ∀ wx, OJ w wx X B q S g s.d s.op s.P bL cL bW cW s.d.nn s.op sp bp1 cap s.X #[.int .i64 kd, .int .i64 on, .int .u32 sd, .slice sm nw cm] → Calls Try.prog 62 #[.agg (benchC q B bL cL bW cW s.d.nn s.op sp s.X.length cap), .slice sm nw cm] wx fun e w' => BenchOut wx w' q B bL bW bp1 (s.put o.W).d.nn (s.put o.W).op (s.put o.W).X (fun v => .tuple #[v, .int .i64 (s.putE o.W)]) e from fun wx hx => by have := put_law (cap := cap) (cm := cm) (q := q) (B := B) HG.out.1 HG.out.2.1 hx.ref cL cW hx.cp hx.ws o.W HG.out.2.2.w (HM.out _ hx.ch); rw [HE.out.2.2.2] at this; exact this)
  have HPg := Lib.hid (show ∀ wx, Bk wx B q S g s.d 0 4 s.op s.P → Ch (OwnB B q S g 4) w wx → Calls Try.prog 44 #[.pointer (some ⟨B, 0, none⟩), .slice sm nw cm] wx fun e w' => e = .returned (.int .i64 (s.putE o.W)) ∧ Bk w' B q S g (s.put o.W).d 0 4 (s.put o.W).op (s.put o.W).P ∧ Ch (OwnB B q S g 4) wx w' from fun wx hx hch => by have := put_code (cm := cm) HG.out.1 HG.out.2.1 hx o.W HG.out.2.2.w (HM.out _ hch) HMB.out; rw [HE.out.2.2.2] at this; exact this)
  obtain ⟨t, ht⟩ : ∃ t, (s.put o.W) = t := ⟨_, rfl⟩
  obtain ⟨e1, he1⟩ : ∃ e1, (s.putE o.W) = e1 := ⟨_, rfl⟩
  simp only [ht, he1] at HL HPg HT
  rw [ht]
  clear ht he1
  obtain ⟨kk, hkk⟩ : ∃ kk, kd % 8 = kk := ⟨_, rfl⟩
  have hk2 : kk = 1 ∨ kk = 2 := by rw [← hkk, ← HE.out.1]; exact hk
  rw [hkk] at m3
  have n0 : (kk == 0) = false := by rcases hk2 with h | h <;> rw [h] <;> rfl
  have n3 : (kk == 3) = false := by rcases hk2 with h | h <;> rw [h] <;> rfl
  have n4 : (kk == 4) = false := by rcases hk2 with h | h <;> rw [h] <;> rfl
  have n5 : (kk == 5) = false := by rcases hk2 with h | h <;> rw [h] <;> rfl
  have n6 : (kk == 6) = false := by rcases hk2 with h | h <;> rw [h] <;> rfl
  have n7 : (kk == 7) = false := by rcases hk2 with h | h <;> rw [h] <;> rfl
  have ww : IntKind.i64.wrap kk = kk := by rw [IntKind.wrap_i64]; rcases hk2 with h | h <;> rw [h] <;> rfl
  clear hk hk2 hkk
  clear hc0 h hO hM hmb hkd hon hsd hnw hn ho hsz
  go_enter Try.func20, Try.ntmps20
  go_upto_region 1 with fail
  rw [← hX]
  clear hw1 hX
  go_upto_region 5 with (first
    | (refine wpList_load_row rfl 53 (.tmp 2) rfl X rfl 53 (benchC q B bL cL bW cW s.d.nn s.op sp s.X.length cap) (0, 0) _ H1.out.x Try.underlying53 rfl (by kernel_rfl) ?_)
    | (go_at_call 62; refine (HL.out _ H1.out).mono ?_; rintro e w2 hlo; obtain ⟨bL1, cL1, bW1, cW1, sp1, bp2, cap1, rfl, hx2, ho2⟩ := H1.out.law hlo; have H2 := Lib.hid (And.intro hx2 ho2); clear hlo hx2 ho2; try dsimp only)
    | (refine wpList_store_row rfl 53 (.tmp 2) (.tmp 19) rfl X (benchC q B bL1 cL1 bW1 cW1 t.d.nn t.op sp1 t.X.length cap1) rfl rfl 53 _ H2.out.1 (by kernel_rfl) rfl (benchC_one _ _ _ _ _ _ _ _ _ _ _) ?_
       generalize hw3 : World.setRow _ _ _ = w3
       have H3 := Lib.hid (show OJ w w3 X B q S g s.d s.op s.P bL1 cL1 bW1 cW1 t.d.nn t.op sp1 bp2 cap1 t.X #[.int .i64 kd, .int .i64 on, .int .u32 sd, .slice sm nw cm] by rw [← hw3]; exact H2.out.2)
       have d1 : w3.cell? ⟨X, 1, none⟩ = some (.pointer (some ⟨B, 0, none⟩)) := H3.out.x.cell 1
       have p0 : w3.cell? ⟨X + 1, 0, none⟩ = some (.int .i64 kd) := H3.out.o.cell 0
       have p1 : w3.cell? ⟨X + 1, 1, none⟩ = some (.int .i64 on) := H3.out.o.cell 1
       have p3 : w3.cell? ⟨X + 1, 3, none⟩ = some (.slice sm nw cm) := H3.out.o.cell 3
       clear hw3)
    | fail)
  clear o0 o1 o2 o3
  go_upto_region 25 with (first
    | (go_at_call 44; refine (HPg.out _ H3.out.bk H3.out.ch).mono ?_; rintro e w4 ⟨rfl, hb4, hc4⟩; have H4 := Lib.hid (H3.out.prog hb4 hc4 HT.out.good.h4.1); clear hb4 hc4)
    | fail)
  clear d1 p0 p1 p3 m1 m2 m3
  go_wp2_with (first
    | (refine wpList_load_row rfl 53 (.tmp 2) rfl X rfl 53 (benchC q B bL1 cL1 bW1 cW1 t.d.nn t.op sp1 t.X.length cap1) (0, 0) _ H4.out.x Try.underlying53 rfl (by kernel_rfl) ?_)
    | (refine wpList_store_row rfl 53 (.tmp 4) (.tmp 99) rfl (X + 2) (benchC q B bL1 cL1 bW1 cW1 t.d.nn t.op sp1 t.X.length cap1) rfl rfl 53 _ H4.out.y (by kernel_rfl) rfl (benchC_one _ _ _ _ _ _ _ _ _ _ _) ?_)
    | fail)
  refine bodyPost_ret (results_row rfl _ _ (X + 2) 53 (benchC q B bL1 cL1 bW1 cW1 t.d.nn t.op sp1 t.X.length cap1) _ rfl (RowAt.put H4.out.y) Try.underlying53 rfl (by kernel_rfl)) rfl ?_
  have hf := OJ.fin (s := t) H4.out HT.out.good (benchC q B bL1 cL1 bW1 cW1 t.d.nn t.op sp1 t.X.length cap1)
  exact ⟨_, _, _, _, _, _, _, rfl, hf.1, hf.2⟩
end Go.Proofs.Ythpagbfabpfngaa
