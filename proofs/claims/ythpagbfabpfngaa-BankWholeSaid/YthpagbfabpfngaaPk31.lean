/- Several texts in one: CP, CQ, OD, BP, BQ. -/
import Derived.Test.YthpagbfabpfngaaPk30
import Derived.Test.YthpagbfabpfngaaPk14
import Derived.Test.YthpagbfabpfngaaPk20
import Derived.Test.YthpagbfabpfngaaPk01
/- The contract of law08's one: the power. -/
namespace Go.Proofs.Ythpagbfabpfngaa
open Go.RowKit

set_option maxHeartbeats 8000000 in
set_option maxRecDepth 100000 in
theorem one_arm {w : World} {B q S : Nat} {g : Nat → Nat} {s : Jt} {bL cL bW bp : Nat} {sp : Option Addr} (h : JAt w B q S g bL cL bW s sp bp) (cW cap : Nat) (hn : s.d.ops + 41 ≤ 1000000) (o : Op8) (ho : o.fit) (hk : o.kind % 8 = 6) {sm : Option Addr} {bm om cm : Nat} (hM : Ws w sm bm om o.W.length (nthW o.W)) (hmb : 0 < o.W.length → ¬ OwnB B q S g 4 bm) :
    Calls Try.prog 20 #[.agg (benchC q B bL cL bW cW s.d.nn s.op sp s.X.length cap), .agg #[.int .i64 o.kind, .int .i64 o.n, .int .u32 (w32 o.s), .slice sm o.W.length cm]] w fun e w' => OneOut w w' B q S g (s.armed o.n o.s) e := by
  obtain ⟨bp1, hO, -⟩ := OJ.start h cW cap #[.int .i64 o.kind, .int .i64 o.n, .int .u32 (w32 o.s), .slice sm o.W.length cm]
  have hsz := h.lt
  obtain ⟨X, hX⟩ : ∃ X, X = w.heap.size := ⟨_, rfl⟩
  obtain ⟨w1, hw1⟩ : ∃ w1, ((w.alloc (.cells (benchC q B bL cL bW cW s.d.nn s.op sp s.X.length cap) 53)).alloc (.cells #[.int .i64 o.kind, .int .i64 o.n, .int .u32 (w32 o.s), .slice sm o.W.length cm] 58)).alloc (.cells #[.pointer none, .pointer none, .int .i64 0, .int .i64 0, .int .i64 0, .slice none 0 0, .slice none 0 0, .bool false, .bool false, .int .i64 0, .int .u32 0, .int .i64 0, .bool false, .slice none 0 0] 53) = w1 := ⟨_, rfl⟩
  have H1 := Lib.hid (show OJ w w1 X B q S g s.d s.op s.P bL cL bW cW s.d.nn s.op sp bp1 cap s.X #[.int .i64 o.kind, .int .i64 o.n, .int .u32 (w32 o.s), .slice sm o.W.length cm] by rw [← hw1, hX]; exact hO)
  have HG := Lib.hid (And.intro h.good (And.intro hn ho))
  have HM := Lib.hid (show ∀ wx, Ch (OwnB B q S g 4) w wx → Ws wx sm bm om o.W.length (nthW o.W) from fun wx hc => hM.keep hc hmb)
  have HMB := Lib.hid hmb
  obtain ⟨c0, hc0⟩ : ∃ c0, benchC q B bL cL bW cW s.d.nn s.op sp s.X.length cap = c0 := ⟨_, rfl⟩
  rw [hc0] at hw1 ⊢
  obtain ⟨r, r8, m1, m2, m3⟩ := mod8 o.kind
  obtain ⟨kd, hkd⟩ : ∃ kd, o.kind = kd := ⟨_, rfl⟩
  obtain ⟨on, hon⟩ : ∃ on, o.n = on := ⟨_, rfl⟩
  obtain ⟨sd, hsd⟩ : ∃ sd, w32 o.s = sd := ⟨_, rfl⟩
  obtain ⟨nw, hnw⟩ : ∃ nw, o.W.length = nw := ⟨_, rfl⟩
  have HE := Lib.hid (And.intro hkd (And.intro hon (And.intro hsd hnw)))
  rw [hkd, hon, hsd, hnw] at hw1 H1 ⊢
  rw [hkd] at m1 m3
  have o0 : w1.cell? ⟨X + 1, 0, none⟩ = some (.int .i64 kd) := H1.out.o.cell 0
  have o1 : w1.cell? ⟨X + 1, 1, none⟩ = some (.int .i64 on) := H1.out.o.cell 1
  have o2 : w1.cell? ⟨X + 1, 2, none⟩ = some (.int .u32 sd) := H1.out.o.cell 2
  have o3 : w1.cell? ⟨X + 1, 3, none⟩ = some (.slice sm nw cm) := H1.out.o.cell 3
  have HT := Lib.hid (show s.to (s.armed on o.s) from s.armed_to HG.out.1 _ _ (by rw [← HE.out.2.1]; exact HG.out.2.2.n))
  have HPg := Lib.hid (show ∀ wx, Bk wx B q S g s.d 0 4 s.op s.P → Calls Try.prog 59 #[.pointer (some ⟨q, 0, none⟩), .agg #[.int .i64 on, .int .u32 sd]] wx fun e w' => e = .returned (.tuple #[]) ∧ Bk w' B q S g (s.armed on o.s).d 0 4 (s.armed on o.s).op (s.armed on o.s).P ∧ Ch (OwnB B q S g 4) wx w' from fun wx hx => by rw [← HE.out.2.2.1]; exact arm_code HG.out.1 hx on o.s)
  have HAr := Lib.hid (show ∀ wx, Calls Try.prog 60 #[.agg (cellsD bL cL bW cW s.d.nn), .int .i64 on, .int .u32 sd] wx fun e w' => e = .returned (.agg (cellsD bL cL bW cW (s.d.arm on o.s).nn)) ∧ Below wx.heap.size wx w' from fun wx => by rw [← HE.out.2.2.1]; exact armR_any s.d.nn bL cL bW cW on o.s wx)
  rw [show kd % 8 = 6 from HE.out.1 ▸ hk] at m3
  clear hc0 h hO hM hmb hkd hon hsd hnw hn ho hsz
  go_enter Try.func20, Try.ntmps20
  go_upto_region 1 with fail
  rw [← hX]
  clear hw1 hX
  have c00 : w1.cell? ⟨X, 0, none⟩ = some (.pointer (some ⟨q, 0, none⟩)) := H1.out.x.cell 0
  go_upto_region 21 with (first
    | (go_at_call 59; refine (HPg.out _ H1.out.bk).mono ?_; rintro e w2 ⟨rfl, hb2, hc2⟩; have H2 := Lib.hid (H1.out.prog hb2 hc2 HT.out.good.h4.1); have p1 : w2.cell? ⟨X + 1, 1, none⟩ = some (.int .i64 on) := H2.out.o.cell 1; have p2 : w2.cell? ⟨X + 1, 2, none⟩ = some (.int .u32 sd) := H2.out.o.cell 2; clear hb2 hc2)
    | fail)
  clear o0 o1 o2 o3 c00
  go_upto_region 25 with (first
    | (refine wpList_load_mid rfl 28 (.tmp 84) rfl X 2 rfl (cellsD bL cL bW cW s.d.nn).toList _ (bench_range H2.out.x) Try.underlying28 rfl (by kernel_rfl) ?_)
    | (go_at_call 60; refine (HAr.out _).mono ?_; rintro e w3 ⟨rfl, hb3⟩; have H3 := Lib.hid (H2.out.new hb3); clear hb3)
    | (refine wpList_store_mid rfl 28 (.tmp 91) (.tmp 90) rfl X 2 (cellsD bL cL bW cW (s.d.arm on o.s).nn) rfl rfl (bench_there H3.out.x) (by kernel_rfl) (cellsD_one _ _ _ _ _) ?_
       generalize hw4 : World.setCells _ _ _ _ = w4
       have H4 := Lib.hid (show OJ w w4 X B q S g (s.armed on o.s).d s.op s.P bL cL bW cW (s.d.arm on o.s).nn s.op sp bp1 cap s.X #[.int .i64 kd, .int .i64 on, .int .u32 sd, .slice sm nw cm] by rw [← hw4]; exact H3.out.arm ⟨rfl, rfl, rfl, rfl⟩ (ch_setCells X _ 2 w3) (bench_put H3.out.x _ _ _ _ _))
       clear hw4)
    | fail)
  clear p1 p2 m1 m2 m3
  go_wp2_with (first
    | (refine wpList_load_row rfl 53 (.tmp 2) rfl X rfl 53 (benchC q B bL cL bW cW (s.d.arm on o.s).nn s.op sp s.X.length cap) (0, 0) _ H4.out.x Try.underlying53 rfl (by kernel_rfl) ?_)
    | (refine wpList_store_row rfl 53 (.tmp 4) (.tmp 99) rfl (X + 2) (benchC q B bL cL bW cW (s.d.arm on o.s).nn s.op sp s.X.length cap) rfl rfl 53 _ H4.out.y (by kernel_rfl) rfl (benchC_one _ _ _ _ _ _ _ _ _ _ _) ?_)
    | fail)
  refine bodyPost_ret (results_row rfl _ _ (X + 2) 53 (benchC q B bL cL bW cW (s.d.arm on o.s).nn s.op sp s.X.length cap) _ rfl (RowAt.put H4.out.y) Try.underlying53 rfl (by kernel_rfl)) rfl ?_
  have hf := OJ.fin (s := s.armed on o.s) H4.out HT.out.good (benchC q B bL cL bW cW (s.d.arm on o.s).nn s.op sp s.X.length cap)
  exact ⟨_, _, _, _, _, _, _, rfl, hf.1, hf.2⟩
set_option maxHeartbeats 8000000 in
set_option maxRecDepth 100000 in
theorem one_power {w : World} {B q S : Nat} {g : Nat → Nat} {s : Jt} {bL cL bW bp : Nat} {sp : Option Addr} (h : JAt w B q S g bL cL bW s sp bp) (cW cap : Nat) (hn : s.d.ops + 41 ≤ 1000000) (o : Op8) (ho : o.fit) (hk : o.kind % 8 = 7) {sm : Option Addr} {bm om cm : Nat} (hM : Ws w sm bm om o.W.length (nthW o.W)) (hmb : 0 < o.W.length → ¬ OwnB B q S g 4 bm) :
    Calls Try.prog 20 #[.agg (benchC q B bL cL bW cW s.d.nn s.op sp s.X.length cap), .agg #[.int .i64 o.kind, .int .i64 o.n, .int .u32 (w32 o.s), .slice sm o.W.length cm]] w fun e w' => OneOut w w' B q S g s.power e := by
  obtain ⟨bp1, hO, -⟩ := OJ.start h cW cap #[.int .i64 o.kind, .int .i64 o.n, .int .u32 (w32 o.s), .slice sm o.W.length cm]
  have hsz := h.lt
  obtain ⟨X, hX⟩ : ∃ X, X = w.heap.size := ⟨_, rfl⟩
  obtain ⟨w1, hw1⟩ : ∃ w1, ((w.alloc (.cells (benchC q B bL cL bW cW s.d.nn s.op sp s.X.length cap) 53)).alloc (.cells #[.int .i64 o.kind, .int .i64 o.n, .int .u32 (w32 o.s), .slice sm o.W.length cm] 58)).alloc (.cells #[.pointer none, .pointer none, .int .i64 0, .int .i64 0, .int .i64 0, .slice none 0 0, .slice none 0 0, .bool false, .bool false, .int .i64 0, .int .u32 0, .int .i64 0, .bool false, .slice none 0 0] 53) = w1 := ⟨_, rfl⟩
  have H1 := Lib.hid (show OJ w w1 X B q S g s.d s.op s.P bL cL bW cW s.d.nn s.op sp bp1 cap s.X #[.int .i64 o.kind, .int .i64 o.n, .int .u32 (w32 o.s), .slice sm o.W.length cm] by rw [← hw1, hX]; exact hO)
  have HG := Lib.hid (And.intro h.good (And.intro hn ho))
  have HM := Lib.hid (show ∀ wx, Ch (OwnB B q S g 4) w wx → Ws wx sm bm om o.W.length (nthW o.W) from fun wx hc => hM.keep hc hmb)
  have HMB := Lib.hid hmb
  obtain ⟨c0, hc0⟩ : ∃ c0, benchC q B bL cL bW cW s.d.nn s.op sp s.X.length cap = c0 := ⟨_, rfl⟩
  rw [hc0] at hw1 ⊢
  obtain ⟨r, r8, m1, m2, m3⟩ := mod8 o.kind
  obtain ⟨kd, hkd⟩ : ∃ kd, o.kind = kd := ⟨_, rfl⟩
  obtain ⟨on, hon⟩ : ∃ on, o.n = on := ⟨_, rfl⟩
  obtain ⟨sd, hsd⟩ : ∃ sd, w32 o.s = sd := ⟨_, rfl⟩
  obtain ⟨nw, hnw⟩ : ∃ nw, o.W.length = nw := ⟨_, rfl⟩
  have HE := Lib.hid (And.intro hkd (And.intro hon (And.intro hsd hnw)))
  rw [hkd, hon, hsd, hnw] at hw1 H1 ⊢
  rw [hkd] at m1 m3
  have o0 : w1.cell? ⟨X + 1, 0, none⟩ = some (.int .i64 kd) := H1.out.o.cell 0
  have o1 : w1.cell? ⟨X + 1, 1, none⟩ = some (.int .i64 on) := H1.out.o.cell 1
  have o2 : w1.cell? ⟨X + 1, 2, none⟩ = some (.int .u32 sd) := H1.out.o.cell 2
  have o3 : w1.cell? ⟨X + 1, 3, none⟩ = some (.slice sm nw cm) := H1.out.o.cell 3
  have HT := Lib.hid (show s.to s.power from s.power_to HG.out.1)
  have HPg := Lib.hid (show ∀ wx, Bk wx B q S g s.d 0 4 s.op s.P → Calls Try.prog 61 #[.pointer (some ⟨q, 0, none⟩), .bool true] wx fun e w' => e = .returned (.tuple #[]) ∧ Bk w' B q S g s.power.d 0 4 s.power.op s.power.P ∧ Ch (OwnB B q S g 4) wx w' from fun wx hx => power_code HG.out.1 hx)
  rw [show kd % 8 = 7 from HE.out.1 ▸ hk] at m3
  clear hc0 h hO hM hmb hkd hon hsd hnw hn ho hsz
  go_enter Try.func20, Try.ntmps20
  go_upto_region 1 with fail
  rw [← hX]
  clear hw1 hX
  have c00 : w1.cell? ⟨X, 0, none⟩ = some (.pointer (some ⟨q, 0, none⟩)) := H1.out.x.cell 0
  go_upto_region 24 with (first
    | (go_at_call 61; refine (HPg.out _ H1.out.bk).mono ?_; rintro e w2 ⟨rfl, hb2, hc2⟩; have H2 := Lib.hid (H1.out.prog hb2 hc2 HT.out.good.h4.1); clear hb2 hc2)
    | fail)
  clear o0 o1 o2 o3 c00
  have c7 : w2.cell? ⟨X, 7, none⟩ = some (.bool (!s.d.nn.on)) := H2.out.x.cell 7
  have f7 : w2.frozen? ⟨X, 7, none⟩ = false := H2.out.x.fr 7
  go_upto_region 25 with fail
  generalize hw4 : World.setCell _ _ _ = w4
  have H4 := Lib.hid (show OJ w w4 X B q S g s.power.d s.op s.P bL cL bW cW (s.d.power true).nn s.op sp bp1 cap s.X #[.int .i64 kd, .int .i64 on, .int .u32 sd, .slice sm nw cm] by rw [← hw4]; exact H2.out.arm ⟨rfl, rfl, rfl, rfl⟩ ((Ch.refl _ w2).setCell ⟨X, 7, none⟩ _ (.inl rfl)) (H2.out.x.setC 7 (.bool false)))
  clear hw4 c7 f7 m1 m2 m3
  go_wp2_with (first
    | (refine wpList_load_row rfl 53 (.tmp 2) rfl X rfl 53 (benchC q B bL cL bW cW (s.d.power true).nn s.op sp s.X.length cap) (0, 0) _ H4.out.x Try.underlying53 rfl (by kernel_rfl) ?_)
    | (refine wpList_store_row rfl 53 (.tmp 4) (.tmp 99) rfl (X + 2) (benchC q B bL cL bW cW (s.d.power true).nn s.op sp s.X.length cap) rfl rfl 53 _ H4.out.y (by kernel_rfl) rfl (benchC_one _ _ _ _ _ _ _ _ _ _ _) ?_)
    | fail)
  refine bodyPost_ret (results_row rfl _ _ (X + 2) 53 (benchC q B bL cL bW cW (s.d.power true).nn s.op sp s.X.length cap) _ rfl (RowAt.put H4.out.y) Try.underlying53 rfl (by kernel_rfl)) rfl ?_
  have hf := OJ.fin (s := s.power) H4.out HT.out.good (benchC q B bL cL bW cW (s.d.power true).nn s.op sp s.X.length cap)
  exact ⟨_, _, _, _, _, _, _, rfl, hf.1, hf.2⟩
/-- One call of both sides: they answer alike, and lie so behind it. -/
theorem one_any {w : World} {B q S : Nat} {g : Nat → Nat} {s : Jt} {bL cL bW bp : Nat} {sp : Option Addr} (h : JAt w B q S g bL cL bW s sp bp) (cW cap : Nat) (hn : s.d.ops + 41 ≤ 1000000) (o : Op8) (ho : o.fit) {sm : Option Addr} {bm om cm : Nat} (hM : Ws w sm bm om o.W.length (nthW o.W)) (hmb : 0 < o.W.length → ¬ OwnB B q S g 4 bm) :
    Calls Try.prog 20 #[.agg (benchC q B bL cL bW cW s.d.nn s.op sp s.X.length cap), .agg #[.int .i64 o.kind, .int .i64 o.n, .int .u32 (w32 o.s), .slice sm o.W.length cm]] w fun e w' => OneOut w w' B q S g (s.one o) e := by
  unfold Jt.one
  by_cases h0 : o.kind % 8 = 0
  · rw [if_pos h0]; exact one_begin h cW cap hn o ho h0 hM hmb
  rw [if_neg h0]
  by_cases h3 : o.kind % 8 = 3
  · rw [if_pos h3]; exact one_commit h cW cap hn o ho h3 hM hmb
  rw [if_neg h3]
  by_cases h4 : o.kind % 8 = 4
  · rw [if_pos h4]; exact one_confirm h cW cap hn o ho h4 hM hmb
  rw [if_neg h4]
  by_cases h5 : o.kind % 8 = 5
  · rw [if_pos h5]; exact one_try h cW cap hn o ho h5 hM hmb
  rw [if_neg h5]
  by_cases h6 : o.kind % 8 = 6
  · rw [if_pos h6]; exact one_arm h cW cap hn o ho h6 hM hmb
  rw [if_neg h6]
  by_cases h7 : o.kind % 8 = 7
  · rw [if_pos h7]; exact one_power h cW cap hn o ho h7 hM hmb
  rw [if_neg h7]
  exact one_put h cW cap hn o ho (by omega) hM hmb
end Go.Proofs.Ythpagbfabpfngaa
/- The contracts of law08's great and start; where a row's calls lie. -/
namespace Go.Proofs.Ythpagbfabpfngaa
open Go.RowKit

instance : Inhabited Op8 := ⟨⟨0, 0, 0#32, []⟩⟩
def op8 (O : List Op8) (k : Nat) : Op8 := O.getD k default
/-- Where a slice of words lies. -/
structure Src where
  sm : Option Addr
  bm : Nat
  om : Nat
  cm : Nat
structure Ops8 (w : World) (b off : Nat) (O : List Op8) (R : Nat → Src) : Prop where
  cl : ∀ k, k < O.length → w.cell? ⟨b, off + k * 4, none⟩ = some (.int .i64 (op8 O k).kind) ∧ w.cell? ⟨b, off + k * 4 + 1, none⟩ = some (.int .i64 (op8 O k).n) ∧ w.cell? ⟨b, off + k * 4 + 2, none⟩ = some (.int .u32 (w32 (op8 O k).s)) ∧ w.cell? ⟨b, off + k * 4 + 3, none⟩ = some (.slice (R k).sm (op8 O k).W.length (R k).cm)
  ws : ∀ k, k < O.length → Ws w (R k).sm (R k).bm (R k).om (op8 O k).W.length (nthW (op8 O k).W)
  int : ∀ k, k < O.length → (-9223372036854775808 ≤ (op8 O k).n ∧ (op8 O k).n ≤ 9223372036854775807) ∧ (-9223372036854775808 ≤ (op8 O k).kind ∧ (op8 O k).kind ≤ 9223372036854775807)
  lt : 0 < O.length → b < w.heap.size
theorem Ops8.below {w w' : World} {b off : Nat} {O : List Op8} {R : Nat → Src} (h : Ops8 w b off O R) (c : Below w.heap.size w w') : Ops8 w' b off O R :=
  ⟨fun k hk => by
    have hl := h.lt (by omega)
    obtain ⟨h0, h1, h2, h3⟩ := h.cl k hk
    exact ⟨by rw [c.cell (p := ⟨b, off + k * 4, none⟩) hl]; exact h0, by rw [c.cell (p := ⟨b, off + k * 4 + 1, none⟩) hl]; exact h1, by rw [c.cell (p := ⟨b, off + k * 4 + 2, none⟩) hl]; exact h2, by rw [c.cell (p := ⟨b, off + k * 4 + 3, none⟩) hl]; exact h3⟩,
   fun k hk => (h.ws k hk).new c, h.int, fun h0 => Nat.lt_of_lt_of_le (h.lt h0) c.size⟩
/-- Is too much asked? -/
def greatB (O : List Op8) : Bool := ((List.range (min O.length 60)).any fun k => decide (40 < (op8 O k).W.length)) || decide (60 < O.length)
theorem great_no {O : List Op8} (h : greatB O = false) : O.length ≤ 60 ∧ ∀ k, k < O.length → (op8 O k).W.length ≤ 40 := by
  unfold greatB at h
  rw [Bool.or_eq_false_iff] at h
  have h1 : O.length ≤ 60 := by have := of_decide_eq_false h.2; omega
  refine ⟨h1, fun k hk => ?_⟩
  have := (List.any_eq_false.1 h.1) k (by rw [List.mem_range]; omega)
  have := of_decide_eq_false (by simpa using this : decide (40 < (op8 O k).W.length) = false)
  omega
set_option maxHeartbeats 4000000 in
theorem great_any {w : World} {b off : Nat} {O : List Op8} {R : Nat → Src} (h : Ops8 w b off O R) {sp : Option Addr} (hs : 0 < O.length → sp = some ⟨b, off, none⟩) (cap : Nat) :
    Calls Try.prog 18 #[.slice sp O.length cap] w fun e w' => e = .returned (.bool (greatB O)) ∧ ∃ n, w' = w.drewN n := by
  have HO := Lib.hid h
  have HS := Lib.hid hs
  obtain ⟨n, hn⟩ : ∃ n, O.length = n := ⟨_, rfl⟩
  have HN := Lib.hid hn
  rw [hn]
  clear h hs hn
  go_enter Try.func18, Try.ntmps18
  go_wp2
  go_loopg [3] (min n 60) (fun m v wr => ∃ k : Nat, k + m = min n 60 ∧ v = .int .i64 (k : Nat) ∧ Aside ((∃ q, wr = w.drewN q) ∧ ∀ j, j < k → ¬ 40 < (op8 O j).W.length))
  case atStart => exact ⟨0, by omega, rfl, ⟨0, rfl⟩, fun j hj => absurd hj (Nat.not_lt_zero j)⟩
  case round =>
    obtain ⟨k, hkm, rfl, HR⟩ := hrel
    obtain ⟨⟨q, rfl⟩, -⟩ := HR.out
    cases gk with
    | zero =>
      have hk : k = min n 60 := by omega
      have hA : ((List.range (min O.length 60)).any fun k => decide (40 < (op8 O k).W.length)) = false := by
        rw [List.any_eq_false]
        intro j hj
        rw [List.mem_range, HN.out, ← hk] at hj
        simpa using HR.out.2 j hj
      have HG := Lib.hid (show greatB O = decide (60 < n) by unfold greatB; rw [hA, HN.out]; rfl)
      clear hA
      by_cases h6 : n ≤ 60
      · obtain rfl : k = n := by omega
        have g1 : decide (60 < k) = false := decide_eq_false (by omega)
        have g2 : decide ((60 : Int) < (k : Int)) = false := decide_eq_false (by omega)
        clear hk
        go_wp2
        refine bodyPost_ret (results_tmp rfl _ _ _) rfl ?_
        rw [HG.out, g1]
        exact ⟨rfl, _, rfl⟩
      · obtain rfl : k = 60 := by omega
        have g1 : decide (60 < n) = true := decide_eq_true (by omega)
        have g2 : decide ((60 : Int) < (n : Int)) = true := decide_eq_true (by omega)
        clear hk
        go_wp2
        refine bodyPost_ret (results_tmp rfl _ _ _) rfl ?_
        rw [HG.out, g1]
        exact ⟨rfl, _, rfl⟩
    | succ g1 =>
      have hk1 : k < n := by omega
      have hk2 : k < 60 := by omega
      have hkO : k < O.length := by rw [HN.out]; exact hk1
      obtain rfl := HS.out (by omega)
      have c3 := (HO.out.cl k hkO).2.2.2
      obtain ⟨m, hm⟩ : ∃ m, (op8 O k).W.length = m := ⟨_, rfl⟩
      rw [hm] at c3
      have HM := Lib.hid hm
      clear hm hkO
      have e1 : (k : Int) < (n : Int) := by omega
      have e2 : (k : Int) < 60 := by omega
      by_cases hg : 40 < m
      · have HG := Lib.hid (show greatB O = true by
          unfold greatB
          rw [Bool.or_eq_true]
          left
          rw [List.any_eq_true]
          exact ⟨k, by rw [List.mem_range, HN.out]; omega, by rw [HM.out]; exact decide_eq_true hg⟩)
        have g2 : (40 : Int) < (m : Int) := by omega
        clear hg
        go_wp2
        refine bodyPost_ret (results_tmp rfl _ _ _) rfl ?_
        rw [HG.out]
        exact ⟨rfl, _, rfl⟩
      · have g2 : ¬ (40 : Int) < (m : Int) := by omega
        have HG := Lib.hid hg
        clear hg
        go_wp2
        go_roundg g1
        case measure => omega
        case rel =>
          refine ⟨k + 1, by omega, by go_num, ⟨_, rfl⟩, fun j hj => ?_⟩
          rcases Nat.lt_or_ge j k with h1 | h1
          · exact HR.out.2 j h1
          · obtain rfl : j = k := by omega
            rw [HM.out]; exact HG.out
/-- The state at the start. -/
def Jt.fresh (lim : Int) : Jt := ⟨Dev.fresh 4 13 lim, false, [], []⟩
theorem Jt.fresh_good (lim : Int) (h : lim ≤ 1048576) : (Jt.fresh lim).good := ⟨⟨rfl, rfl⟩, ⟨⟨by show (0 : Int) ≤ 0; decide, by show (0 : Int) ≤ 1000000; decide, by show (-9223372036854775808 : Int) ≤ 0; decide, by show (0 : Int) ≤ 9223372036854775807; decide⟩, h, fun _ => Int.le_refl _⟩, keepC_fresh 4 13 lim 0, fun e => (by cases e), Nat.zero_le _, Nat.zero_le _⟩
def StartOut (w w' : World) (lim : Int) (e : Ending) : Prop :=
  ∃ B q S g bL cL bW cW, e = .returned (.tuple #[.agg (benchC q B bL cL bW cW (Jt.fresh lim).d.nn false none 0 0), .bool true]) ∧ JAt w' B q S g bL cL bW (Jt.fresh lim) none 0 ∧ (∀ j, OwnB B q S g 4 j → w.heap.size ≤ j) ∧ Below w.heap.size w w'
theorem built_bench (q B bL cL bW cW : Nat) (d : Dev) : Try.prog.built 53 [(0, .pointer (some ⟨q, 0, none⟩)), (1, .pointer (some ⟨B, 0, none⟩)), (2, .agg (cellsD bL cL bW cW d))] = some (benchC q B bL cL bW cW d false none 0 0) := by kernel_rfl
theorem wpList_build_is {P : Program} {ops : Array Oper} {rest : List Oper} {o : Oper} {a : Act} {w : World} {Q : Exit → Act → World → Prop} (hg : o.guard = none) (t : TypeId) (parts : List (Nat × Operand)) (ho : o.op = .build t parts.toArray) (cs : Array Value)
    (hf : P.built t (parts.map fun x => (x.1, a.eval x.2)) = some cs) (h : wpList P ops Q rest (a.put o.dst (.agg cs)) w) : wpList P ops Q (o :: rest) a w := by
  have e : (parts.toArray.map fun (i, x) => (i, a.eval x)).toList = parts.map fun x => (x.1, a.eval x.2) := by simp
  exact wpList_build hg t parts.toArray ho (by rw [e, hf]; rfl) (by rw [e, hf]; exact h)
set_option maxHeartbeats 8000000 in
set_option maxRecDepth 100000 in
theorem start_any (lim : Int) (hl : 0 ≤ lim ∧ lim ≤ 1048576) (w : World) : Calls Try.prog 19 #[.int .i64 lim] w fun e w' => StartOut w w' lim e := by
  have hok : okSize 4 13 lim := ⟨by decide, by decide, by decide, by decide, hl.1, hl.2⟩
  obtain ⟨Y, hY⟩ : ∃ Y, Y = w.heap.size := ⟨_, rfl⟩
  obtain ⟨w1, hw1⟩ : ∃ w1, w.alloc (.cells #[.pointer none, .pointer none, .int .i64 0, .int .i64 0, .int .i64 0, .slice none 0 0, .slice none 0 0, .bool false, .bool false, .int .i64 0, .int .u32 0, .int .i64 0, .bool false, .slice none 0 0] 53) = w1 := ⟨_, rfl⟩
  have b1 : Below w.heap.size w w1 := by rw [← hw1]; exact (Below.refl _ _).alloc (Nat.le_refl _) _
  have x1 : RowAt w1 Y 53 benchZ := by rw [← hw1, hY]; exact RowAt.mk w _ _
  have H1 := Lib.hid (And.intro b1 x1)
  have HY := Lib.hid hY
  have HN := Lib.hid (fun wx => new_ok 4 13 lim wx hok)
  have HB := Lib.hid (fun (wx : World) (q S : Nat) (g : Nat → Nat) (hd : DevAt wx q S g (Dev.fresh 4 13 lim)) => bnew_ok hd 0 4 ⟨by show 0 + 4 ≤ 4; omega, by omega, by show 13 ≤ 13; omega⟩)
  have HR := Lib.hid (show ∀ wx, Calls Try.prog 8 #[.int .i64 4, .int .i64 13, .int .i64 lim] wx fun e w' =>
    ∃ bL cL bW cW : Nat, e = .returned (.tuple #[.agg #[.int .i64 4, .int .i64 13, .int .i64 lim, .slice (some ⟨bL, 0, none⟩) 52 cL, .slice (some ⟨bW, 0, none⟩) 4 cW, .bool false, .bool false, .int .i64 0, .int .u32 0, .int .i64 0], .int .i64 0]) ∧ RefIn w' bL bW (Dev.fresh 4 13 lim) ∧ wx.heap.size ≤ bL ∧ wx.heap.size ≤ bW ∧ 4 * 13 ≤ cL ∧ Below wx.heap.size wx w' from fun wx => by
    refine (newR_ok 4 13 lim wx hok).mono ?_
    rintro e w' ⟨bL, cL, bW, cW, rfl, h1, h2, h3, h4, h5⟩
    exact ⟨bL, cL, bW, cW, rfl, h1, h2, h3, h4, h5⟩)
  have HG := Lib.hid (Jt.fresh_good lim hl.2)
  clear b1 x1 hok hl
  go_enter Try.func19, Try.ntmps19
  go_upto_region 1 with fail
  rw [← hY]
  clear hw1 hY
  go_upto_region 4 with (first
    | (go_at_call 9; refine (HN.out _).mono ?_; rintro e w2 ⟨q, S, g, rfl, hd2, hl2, hb2⟩; have H2 := Lib.hid (And.intro hd2 (And.intro hl2 hb2)); clear hd2 hl2 hb2)
    | (go_at_call 10; refine (HB.out _ q S g H2.out.1).mono ?_; rintro e w3 ⟨rfl, hk3, hb3⟩; have H3 := Lib.hid (And.intro hk3 hb3); clear hk3 hb3)
    | (go_at_call 8; refine (HR.out _).mono ?_; rintro e w4 ⟨bL, cL, bW, cW, rfl, hr4, hl4, hl4b, hc4, hb4⟩; have H4 := Lib.hid (And.intro hr4 (And.intro hl4 (And.intro hl4b (And.intro hc4 hb4)))); clear hr4 hl4 hl4b hc4 hb4)
    | fail)
  obtain ⟨z, hz⟩ : ∃ z, w4.heap.size = z := ⟨_, rfl⟩
  obtain ⟨B, hB⟩ : ∃ B, w2.heap.size = B := ⟨_, rfl⟩
  have HZ := Lib.hid (And.intro hz hB)
  generalize hw5 : World.alloc w4 _ = w5
  have b5 : Below w4.heap.size w4 w5 := by rw [← hw5]; exact (Below.refl _ _).alloc (Nat.le_refl _) _
  have hr5 : RowAt w5 z 28 (cellsD bL cL bW cW (Dev.fresh 4 13 lim).nn) := by rw [← hw5, ← hz]; exact RowAt.mk _ _ _
  have y2 := (H1.out.2.new H2.out.2.2).new H3.out.2
  have y5 := (y2.new H4.out.2.2.2.2).new b5
  have H5 := Lib.hid (And.intro hr5 (And.intro y5 b5))
  rw [hz, hB]
  clear hz hB hw5 b5 hr5 y2 y5
  go_wp2_with (first
    | (refine wpList_load_row rfl 28 (.tmp 8) rfl z rfl 28 (cellsD bL cL bW cW (Dev.fresh 4 13 lim).nn) (0, 0) _ H5.out.1 Try.underlying28 rfl (by kernel_rfl) ?_)
    | (refine wpList_build_is rfl 53 [(0, .tmp 25), (1, .tmp 26), (2, .tmp 27)] rfl (benchC q B bL cL bW cW (Dev.fresh 4 13 lim).nn false none 0 0) (built_bench _ _ _ _ _ _ _) ?_)
    | (refine wpList_store_row rfl 53 (.tmp 2) (.tmp 28) rfl Y (benchC q B bL cL bW cW (Dev.fresh 4 13 lim).nn false none 0 0) rfl rfl 53 _ H5.out.2.1 (by kernel_rfl) rfl (benchC_one _ _ _ _ _ _ _ _ _ _ _) ?_)
    | fail)
  refine bodyPost_ret (results_row rfl _ _ Y 53 (benchC q B bL cL bW cW (Dev.fresh 4 13 lim).nn false none 0 0) _ rfl (RowAt.put H5.out.2.1) Try.underlying53 rfl (by kernel_rfl)) rfl ?_
  have hY1 : Y < w1.heap.size := H1.out.2.lt
  have z2 := H2.out.2.2.size
  have z3 := H3.out.2.size
  have z4 := H4.out.2.2.2.2.size
  have hB := HZ.out.2
  have hk3 := H3.out.1
  rw [hB] at hk3
  have hk5 := (hk3.new H4.out.2.2.2.2).new H5.out.2.2
  have hr5 := H4.out.1.new H5.out.2.2
  have hlt3 : ∀ j, OwnB B q S g 4 j → j < w3.heap.size := hk3.lt
  have hge : ∀ j, OwnB B q S g 4 j → w1.heap.size ≤ j := by
    rintro j (rfl | hj)
    · omega
    · exact H2.out.2.1 j hj
  have hbL := H4.out.2.1
  have hbW := H4.out.2.2.1
  have cs := ch_setRow w5 Y (benchC q B bL cL bW cW (Dev.fresh 4 13 lim).nn false none 0 0)
  refine ⟨B, q, S, g, bL, cL, bW, cW, rfl, ⟨hk5.keep cs (fun j hj e => by have := hge j hj; omega), ?_, H4.out.2.2.2.1, ⟨fun h0 => absurd h0 (Nat.lt_irrefl 0), fun k hk => absurd hk (Nat.not_lt_zero k)⟩, fun h1 => by have := hlt3 _ h1; omega, fun h1 => by have := hlt3 _ h1; omega, fun h0 => absurd h0 (Nat.lt_irrefl 0), HG.out⟩, fun j hj => ?_, ?_⟩
  · exact hr5.keep cs (by show ¬ bL = Y; omega) (by show ¬ bW = Y; omega)
  · have := hge j hj
    have := HY.out
    omega
  · have h1 := H1.out.1
    have h0 := h1.size
    exact below_setRow ((((h1.trans (H2.out.2.2.mono h0)).trans (H3.out.2.mono (by omega))).trans (H4.out.2.2.2.2.mono (by omega))).trans (H5.out.2.2.mono (by omega))) (by have := HY.out; omega) _
end Go.Proofs.Ythpagbfabpfngaa
/- Plain facts for the law texts of bank: what a slice of calls that a row hands in is. No statement about the program's functions. -/
namespace Go.Proofs.Ythpagbfabpfngaa
open Go.ChangeShapes Go.WideShapes Go.ChangeAt Go.RowKit Go.Deep Go.Joins

instance : Inhabited Src := ⟨⟨none, 0, 0, 0⟩⟩
theorem cellsOp8 : Try.prog.cellsOf 58 = 4 := by kernel_rfl
theorem cellsU32 : Try.prog.cellsOf 26 = 1 := by kernel_rfl
theorem cellsI64 : Try.prog.cellsOf 3 = 1 := by kernel_rfl
theorem cellsW : Try.prog.cellsOf 24 = 1 := by kernel_rfl
theorem four_of_len {α : Type} (l : List α) (h : l.length = 4) : ∃ a b c d, l = [a, b, c, d] := by
  rcases l with _ | ⟨a, _ | ⟨b, _ | ⟨c, _ | ⟨d, _ | ⟨e, l⟩⟩⟩⟩⟩
  · simp at h
  · simp at h
  · simp at h
  · simp at h
  · exact ⟨a, b, c, d, rfl⟩
  · simp at h
section
variable {H : Type} {enc : TypeId × Value → H} {w : World} {base : Nat} {spare : Nat → Bool} {held : Bool}
/-- A slice of words. -/
theorem open_wordsB {fuel : Nat} {cs : List Value} {x : DataW H × List MemPlace} (h : DataW.trod enc Try.prog w base spare held fuel 24 cs = some x) :
    ∃ sp cap, ∃ L : List (BitVec 32), ∃ b off, cs = [.slice sp L.length cap] ∧ L.length ≤ maxLen ∧ Ws w sp b off L.length (nthW L) := by
  rcases open_slice Try.underlying24 h with ⟨hcs, _⟩ | ⟨a, len, cap, m, n, D, Pl, hcs, _, hl, hm, hmm, _, hi⟩
  · exact ⟨none, 0, [], 0, 0, hcs, Nat.zero_le _, ⟨fun h => absurd h (Nat.lt_irrefl 0), fun k hk => absurd hk (Nat.not_lt_zero k)⟩⟩
  · have hlm : len ≤ m := by split at hmm <;> omega
    have hone : ∀ k, k < len → ∃ y : BitVec 32, w.cell? (a.add k) = some (.int .u32 (w32 y)) := by
      intro k hk
      obtain ⟨cs, hc, ht⟩ := hi k (by omega)
      rw [cellsU32, Nat.mul_one] at hc
      obtain ⟨_, hcl, hat⟩ := World.cells?_some hc
      obtain ⟨n0, e0, _, hw⟩ := DataW.trod_int Try.underlying26 ht
      have a0 := hat 0 (by omega)
      rw [Go.Deep.add_add] at a0
      subst e0
      obtain ⟨w1, w2⟩ := word_of hw
      refine ⟨BitVec.ofNat 32 n0.toNat, ?_⟩
      rw [show w32 (BitVec.ofNat 32 n0.toNat) = n0 by unfold w32; rw [BitVec.toNat_ofNat]; omega]
      simpa using a0
    obtain ⟨f, hf⟩ := choose_lt hone
    obtain ⟨b, off, spot⟩ := a
    refine ⟨_, cap, (List.range len).map f, b, off, by rw [List.length_map, List.length_range]; exact hcs, by rw [List.length_map, List.length_range]; omega, ⟨fun h0 => ?_, fun k hk => ?_⟩⟩
    · rw [List.length_map, List.length_range] at h0
      obtain rfl : spot = none := by simpa [Addr.add] using World.cell?_spot (hf 0 h0)
      exact ⟨rfl, by simpa [Addr.add] using World.block_lt_of_cell? w _ (hf 0 h0)⟩
    · rw [List.length_map, List.length_range] at hk
      obtain rfl : spot = none := by simpa [Addr.add] using World.cell?_spot (hf 0 (by omega))
      have := hf k hk
      rw [Addr.add_lit] at this
      rw [this]
      simp [nthW, hk]
/-- A slice of calls. -/
theorem open_ops8 {fuel : Nat} {sp : Option Addr} {len cap : Nat} {x : DataW H × List MemPlace} (h : DataW.trod enc Try.prog w base spare held fuel 50 [.slice sp len cap] = some x) :
    len ≤ maxLen ∧ ∃ (O : List Op8) (R : Nat → Src) (b off : Nat), O.length = len ∧ (0 < O.length → sp = some ⟨b, off, none⟩) ∧ Ops8 w b off O R := by
  rcases open_slice Try.underlying50 h with ⟨hcs, _⟩ | ⟨a, len', cap', m, n, D, Pl, hcs, _, hl, hm, hmm, _, hi⟩
  · simp at hcs
    obtain ⟨rfl, rfl, rfl⟩ := hcs
    exact ⟨by unfold maxLen; omega, [], fun _ => ⟨none, 0, 0, 0⟩, 0, 0, rfl, fun h => by simp at h, ⟨fun k hk => by simp at hk, fun k hk => by simp at hk, fun k hk => by simp at hk, fun h => by simp at h⟩⟩
  · simp at hcs
    obtain ⟨rfl, rfl, rfl⟩ := hcs
    have hlm : len ≤ m := by split at hmm <;> omega
    have hone : ∀ k, k < len → ∃ y : Op8 × Src, (w.cell? (a.add (k * 4)) = some (.int .i64 y.1.kind) ∧ w.cell? (a.add (k * 4 + 1)) = some (.int .i64 y.1.n) ∧ w.cell? (a.add (k * 4 + 2)) = some (.int .u32 (w32 y.1.s)) ∧ w.cell? (a.add (k * 4 + 3)) = some (.slice y.2.sm y.1.W.length y.2.cm)) ∧ Ws w y.2.sm y.2.bm y.2.om y.1.W.length (nthW y.1.W) ∧ (-9223372036854775808 ≤ y.1.n ∧ y.1.n ≤ 9223372036854775807) ∧ (-9223372036854775808 ≤ y.1.kind ∧ y.1.kind ≤ 9223372036854775807) := by
      intro k hk
      obtain ⟨cs, hc, ht⟩ := hi k (by omega)
      rw [cellsOp8] at hc
      obtain ⟨_, hcl, hat⟩ := World.cells?_some hc
      obtain ⟨y0, y1, y2, y3, n', _, _, t0, t1, t2, t3⟩ := trod_struct4 Try.underlying58 ht
      obtain ⟨u0, u1, u2, u3, rfl⟩ := four_of_len cs hcl
      rw [cellsI64] at t0 t1
      rw [cellsU32] at t2
      rw [cellsW] at t3
      obtain ⟨n0, e0, f0⟩ := DataW.trod_int Try.underlying3 t0
      obtain ⟨n1, e1, f1⟩ := DataW.trod_int Try.underlying3 t1
      obtain ⟨n2, e2, f2⟩ := DataW.trod_int Try.underlying26 t2
      obtain ⟨s3, c3, L, b3, o3, e3, _, h3⟩ := open_wordsB t3
      have a0 := hat 0 (by omega)
      have a1 := hat 1 (by omega)
      have a2 := hat 2 (by omega)
      have a3 := hat 3 (by omega)
      rw [Go.Deep.add_add] at a0 a1 a2 a3
      simp at e0 e1 e2 e3
      subst e0 e1 e2 e3
      obtain ⟨w1, w2⟩ := word_of f2.2
      refine ⟨(⟨n0, n1, BitVec.ofNat 32 n2.toNat, L⟩, ⟨s3, b3, o3, c3⟩), ⟨a0, a1, ?_, a3⟩, h3, int_of f1.2, int_of f0.2⟩
      rw [show w32 (BitVec.ofNat 32 n2.toNat) = n2 by unfold w32; rw [BitVec.toNat_ofNat]; omega]
      exact a2
    obtain ⟨f, hf⟩ := choose_lt hone
    have hg : ∀ k, k < len → op8 ((List.range len).map fun i => (f i).1) k = (f k).1 := fun k hk => by simp [op8, hk]
    obtain ⟨b, off, spot⟩ := a
    have spn : ∀ k, k < len → spot = none := fun k hk => by simpa [Addr.add] using World.cell?_spot (hf 0 (by omega)).1.1
    refine ⟨by omega, (List.range len).map (fun i => (f i).1), fun i => (f i).2, b, off, by simp, fun h0 => ?_, fun k hk => ?_, fun k hk => ?_, fun k hk => ?_, fun h0 => ?_⟩
    · rw [spn 0 (by simpa using h0)]
    · have hk' : k < len := by simpa using hk
      obtain rfl := spn k hk'
      have := (hf k hk').1
      rw [hg k hk']
      rwa [Addr.add_lit, Addr.add_lit, Addr.add_lit, Addr.add_lit] at this
    · have hk' : k < len := by simpa using hk
      rw [hg k hk']; exact (hf k hk').2.1
    · have hk' : k < len := by simpa using hk
      rw [hg k hk']; exact (hf k hk').2.2
    · have h0' : 0 < len := by simpa using h0
      obtain rfl := spn 0 h0'
      simpa [Addr.add] using World.block_lt_of_cell? w _ (hf 0 h0').1.1
end
end Go.Proofs.Ythpagbfabpfngaa
/- The chapter's example, in numbers. -/
namespace Go.Proofs.Ythpagbfabpfngaa
open Go.RowKit

def ex0 : Dev := Dev.fresh 4 16 9
def ex1 : Dev := (blankD ex0 1 3).1
def ex2 : Dev := (putK ex1 1 [] [1#32, 2#32]).1
def ex3 : Dev := (commitD ex2 1 [1#32, 2#32] 7#32).1
theorem ex_worn : wornB ex0 1 3 = false := by kernel_rfl
theorem ex_blank : (blankD ex0 1 3).2 = 0 := by kernel_rfl
theorem ex_put : (putK ex1 1 [] [1#32, 2#32]).2 = 0 := by kernel_rfl
theorem ex_commit : (commitD ex2 1 [1#32, 2#32] 7#32).2 = 0 := by kernel_rfl
theorem ex_image : imageR ex3 1 3 = some [1#32, 2#32] := by kernel_rfl
theorem ex_ok : stOK ex3 1 3 = true := by kernel_rfl
theorem ex_seq : ex3.word (1 + 1) 0 = 7#32 := by kernel_rfl
end Go.Proofs.Ythpagbfabpfngaa
/- The contract of law08's alive: the chapter's example. -/
namespace Go.Proofs.Ythpagbfabpfngaa
open Go.RowKit

theorem ex_okE : ex0.okE := ⟨⟨by decide, by decide, by decide, by decide⟩, by decide, fun i => by simp [ex0, Dev.fresh]⟩
theorem ex_kept1 : ex0.keptN ex1 4 := blankD_kept (base := 1) (many := 3) ex_okE (by decide)
theorem ex_kept2 : ex1.keptN ex2 2 := progK_kept (n := 2) (ex_kept1.okE ex_okE (by decide)) (by have := ex_kept1.ops; have : ex0.ops = 0 := rfl; omega) (by rw [ex_kept1.nw]; decide) (by rw [ex_kept1.nw]; decide) 2 (by omega)
theorem ex_ok1 : ex1.okE := ex_kept1.okE ex_okE (by decide)
theorem ex_ops1 : ex1.ops ≤ 4 := by have := ex_kept1.ops; have : ex0.ops = 0 := rfl; omega
theorem ex_ok2 : ex2.okE := ex_kept2.okE ex_ok1 (by have := ex_ops1; omega)
theorem ex_ops2 : ex2.ops ≤ 6 := by have := ex_kept2.ops; have := ex_ops1; omega
theorem ex_ns1 : ex1.ns = 4 := ex_kept1.ns
theorem ex_ns2 : ex2.ns = 4 := ex_kept2.ns.trans ex_ns1
theorem ex_ns3 : ex3.ns = 4 := by kernel_rfl
theorem ex_nw3 : ex3.nw = 16 := by kernel_rfl
theorem ex_beginR : beginR ex0 1 3 [] = (0, ex1, true, []) := by
  unfold beginR
  rw [ex_worn, ex_blank]
  rfl
section
variable {w : World} {B q S : Nat} {g : Nat → Nat}
theorem ex_begin_any (h : Bk w B q S g ex0 1 3 false []) : Calls Try.prog 43 #[.pointer (some ⟨B, 0, none⟩)] w fun e w' => e = .returned (.int .i64 0) ∧ Bk w' B q S g ex1 1 3 true [] ∧ Ch (OwnB B q S g 4) w w' := by
  have := begin_any h ex_okE (by decide)
  rw [ex_beginR] at this
  exact this
theorem ex_put_any (h : Bk w B q S g ex1 1 3 true []) {b : Nat} (hX : Ws w (some ⟨b, 0, none⟩) b 0 2 (nthW [1#32, 2#32])) (hb : ¬ OwnB B q S g 4 b) :
    Calls Try.prog 44 #[.pointer (some ⟨B, 0, none⟩), .slice (some ⟨b, 0, none⟩) 2 2] w fun e w' => e = .returned (.int .i64 0) ∧ Bk w' B q S g ex2 1 3 true [1#32, 2#32] ∧ Ch (OwnB B q S g 4) w w' := by
  have := put_go (cap := 2) (X := [1#32, 2#32]) h ex_ok1 (by have := ex_ops1; simp; omega) hX (fun _ => by rw [ex_ns1]; exact hb) (by simp) (by unfold roomN; rw [show ex1.nw = 16 from ex_kept1.nw]; decide)
  rw [ex_put, ex_ns1] at this
  exact this
theorem ex_commit_any (h : Bk w B q S g ex2 1 3 true [1#32, 2#32]) : Calls Try.prog 45 #[.pointer (some ⟨B, 0, none⟩), .int .u32 7] w fun e w' => e = .returned (.int .i64 0) ∧ Bk w' B q S g ex3 1 3 false [1#32, 2#32] ∧ Ch (OwnB B q S g 4) w w' := by
  have := commit_any h ex_ok2 (by have := ex_ops2; omega) 7#32 (by simp)
  rw [ex_commit, ex_ns2] at this
  exact this
theorem ex_image_any (h : Bk w B q S g ex3 1 3 false [1#32, 2#32]) : Calls Try.prog 13 #[.pointer (some ⟨B, 0, none⟩)] w fun e w' => ∃ v, e = .returned (.tuple #[v, .bool true]) ∧ w'.ownsRow w.heap.size 26 1 v 2 (rowB [1#32, 2#32]) ∧ Below w.heap.size w w' := by
  have := image_any h (by unfold roomN; rw [ex_nw3]; decide)
  rw [ex_image] at this
  exact this
theorem ex_state_any (h : Bk w B q S g ex3 1 3 false [1#32, 2#32]) : Calls Try.prog 16 #[.pointer (some ⟨B, 0, none⟩)] w fun e w' => ∃ l c : BitVec 32, ∃ cf : Bool, ∃ t : Nat, e = .returned (.agg #[.int .u32 7, .int .u32 (w32 l), .int .u32 (w32 c), .bool true, .bool cf, .int .i64 t]) ∧ Below w.heap.size w w' := by
  have := state_any h
  unfold stV at this
  rw [ex_ok] at this
  simp only [if_true] at this
  rw [ex_seq, show w32 7#32 = 7 by decide] at this
  exact this.mono fun e w' ⟨h1, h2⟩ => ⟨_, _, _, _, h1, h2⟩
end
theorem run_fieldS0 (a b c f t : Value) (v : Bool) (w : World) : (Instr.field 47 (.agg #[a, b, c, .bool v, f, t]) 0).run Try.prog w = .ok (.agg #[a, b, c]) w := by
  simp [Instr.field, run_underlying Try.underlying47, go_sem, asAgg]
theorem run_fieldS1 (a b c f t : Value) (v : Bool) (w : World) : (Instr.field 47 (.agg #[a, b, c, .bool v, f, t]) 1).run Try.prog w = .ok (.bool v) w := by
  simp [Instr.field, run_underlying Try.underlying47, go_sem, asAgg]
theorem run_fieldH0 (b c : Value) (k : IntKind) (x : Int) (w : World) : (Instr.field 45 (.agg #[.int k x, b, c]) 0).run Try.prog w = .ok (.int k x) w := by
  simp [Instr.field, run_underlying Try.underlying45, go_sem, asAgg]
set_option maxHeartbeats 4000000 in
set_option maxRecDepth 100000 in
theorem balive_any (w : World) : Calls Try.prog 11 #[] w fun e w' => e = .returned (.bool true) ∧ Below w.heap.size w w' := by
  have HN := Lib.hid (new_ok 4 16 9 w ⟨by decide, by decide, by decide, by decide, by decide, by decide⟩)
  have F0 := run_fieldS0
  have F1 := run_fieldH0
  go_enter Try.func11, Try.ntmps11
  go_wp2_with (first
    | (go_at_call 9; refine HN.out.mono ?_; rintro e w1 ⟨q, S, g, rfl, h1, hl, hb⟩; have H1 := Lib.hid (And.intro (show DevAt w1 q S g ex0 from h1) (And.intro hl hb)); clear h1 hl hb)
    | (go_at_call 10; refine (bnew_ok H1.out.1 1 3 (by decide)).mono ?_; rintro e w2 ⟨rfl, h2, hb⟩; have H2 := Lib.hid (And.intro h2 (And.intro (H1.out.2.2.trans (hb.mono H1.out.2.2.size)) (show ∀ j, OwnB w1.heap.size q S g 4 j → w.heap.size ≤ j from fun j hj => by rcases hj with rfl | hj; exact H1.out.2.2.size; exact H1.out.2.1 j hj))); clear h2 hb)
    | (go_at_call 43; refine (ex_begin_any H2.out.1).mono ?_; rintro e w3 ⟨rfl, h3, k3⟩; have H3 := Lib.hid (And.intro h3 (H2.out.2.1.trans (k3.below (fun j hj ho => by have := H2.out.2.2 j ho; omega) H2.out.2.1.size))); clear h3 k3)
    | fail)
  have hb4 : Below w3.heap.size w3 (w3.alloc (.cells #[.int .u32 1, .int .u32 2] 26)) := (Below.refl _ _).alloc (Nat.le_refl _) _
  have hx4 : BoxAt (w3.alloc (.cells #[.int .u32 1, .int .u32 2] 26)) w3.heap.size [.int .u32 1, .int .u32 2] := BoxAt.mk_new w3 _ _
  have HW4 := Lib.hid (show Ws (w3.alloc (.cells #[.int .u32 1, .int .u32 2] 26)) (some ⟨w3.heap.size, 0, none⟩) w3.heap.size 0 2 (nthW [1#32, 2#32]) from ⟨fun _ => ⟨rfl, hx4.lt⟩, fun k hk => by
    rw [Nat.zero_add]
    obtain rfl | rfl : k = 0 ∨ k = 1 := by omega
    · exact hx4.cell 0 _ rfl
    · exact hx4.cell 1 _ rfl⟩)
  have H4 := Lib.hid (And.intro (H3.out.1.new hb4) (H3.out.2.trans (hb4.mono H3.out.2.size)))
  have hno : ¬ OwnB w1.heap.size q S g 4 w3.heap.size := fun ho => by have := H3.out.1.lt w3.heap.size (by rw [ex_ns1]; exact ho); omega
  refine (ex_put_any H4.out.1 HW4.out hno).mono ?_
  rintro e w5 ⟨rfl, h5, k5⟩
  have H5 := Lib.hid (And.intro h5 (H4.out.2.trans (k5.below (fun j hj ho => by have := H2.out.2.2 j ho; omega) H4.out.2.size)))
  clear h5 k5 hb4 hx4 hno
  go_wp2_with (first
    | (go_at_call 45; refine (ex_commit_any H5.out.1).mono ?_; rintro e w6 ⟨rfl, h6, k6⟩; have H6 := Lib.hid (And.intro h6 (H5.out.2.trans (k6.below (fun j hj ho => by have := H2.out.2.2 j ho; omega) H5.out.2.size))); clear h6 k6)
    | (go_at_call 13; refine (ex_image_any H6.out.1).mono ?_; rintro e w7 ⟨v, rfl, ho, hb⟩; obtain ⟨b, cap, rfl, -⟩ := own_some ho (by decide); have q7 : w7.cell? ⟨b, 1, none⟩ = some (.int .u32 2) := ho.cellAt 1 (by decide); have H7 := Lib.hid (And.intro (H6.out.1.new hb) (H6.out.2.trans (hb.mono H6.out.2.size))); clear ho hb)
    | (go_at_call 16; refine (ex_state_any H7.out.1).mono ?_; rintro e w8 ⟨l, c, cf, t, rfl, hb⟩; have H8 := Lib.hid (H7.out.2.trans (hb.mono H7.out.2.size)); clear hb)
    | fail)
  go_ret
  exact ⟨rfl, H8.out⟩
end Go.Proofs.Ythpagbfabpfngaa
