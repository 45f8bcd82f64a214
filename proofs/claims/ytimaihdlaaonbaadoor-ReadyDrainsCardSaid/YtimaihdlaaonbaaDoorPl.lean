/- The walk of ReadyPlays. -/
import Derived.Test.YtimaihdlaaonbaaDoorPlays
import Derived.Test.YtimaihdlaaonbaaDoorHeld
import Derived.Test.YtimaihdlaaonbaaDoorFloat
namespace Go.Proofs.YtimaihdlaaonbaaDoor
open Go.RowKit

/-- Calls: a Drop or a Put, the number, the level. -/
def stepQ (q : Nat → Nat) (x : Bool × Int × Int) : Nat → Nat := if x.1 then dropQ q x.2.1 else putQ q x.2.1 x.2.2
def opAt (O : List (Bool × Int × Int)) (k : Nat) : Bool × Int × Int := O.getD k (false, 0, 0)
def rq (O : List (Bool × Int × Int)) : Nat → (Nat → Nat)
  | 0 => q0
  | k + 1 => stepQ (rq O k) (opAt O k)
theorem rq_le (O : List (Bool × Int × Int)) : ∀ k i, rq O k i ≤ 32
  | 0, i => by unfold rq q0; omega
  | k + 1, i => by
    unfold rq stepQ
    split
    · exact dropQ_le (rq_le O k) i
    · exact putQ_le (rq_le O k) i
/-- Where the calls lie. -/
def Ops (w : World) (sp : Option Addr) (b off : Nat) (O : List (Bool × Int × Int)) : Prop :=
  (0 < O.length → sp = some ⟨b, off, none⟩ ∧ b < w.heap.size) ∧ ∀ k, k < O.length → w.cell? ⟨b, off + k * 3, none⟩ = some (.bool (opAt O k).1) ∧ w.cell? ⟨b, off + k * 3 + 1, none⟩ = some (.int .i64 (opAt O k).2.1) ∧ w.cell? ⟨b, off + k * 3 + 2, none⟩ = some (.int .i64 (opAt O k).2.2)
theorem Ops.at_ {w w' : World} {sp : Option Addr} {b off : Nat} {O : List (Bool × Int × Int)} (h : Ops w sp b off O) (hb : Below w.heap.size w w') (k : Nat) (hk : k < O.length) :
    w'.cell? ⟨b, off + k * 3, none⟩ = some (.bool (opAt O k).1) ∧ w'.cell? ⟨b, off + k * 3 + 1, none⟩ = some (.int .i64 (opAt O k).2.1) ∧ w'.cell? ⟨b, off + k * 3 + 2, none⟩ = some (.int .i64 (opAt O k).2.2) := by
  have hl := (h.1 (by omega)).2
  obtain ⟨h1, h2, h3⟩ := h.2 k hk
  exact ⟨(hb.cell (p := ⟨b, off + k * 3, none⟩) hl).trans h1, (hb.cell (p := ⟨b, off + k * 3 + 1, none⟩) hl).trans h2, (hb.cell (p := ⟨b, off + k * 3 + 2, none⟩) hl).trans h3⟩

/-- Where the reference's queue lies. -/
def RAt (w : World) (Br : Nat) (q : Nat → Nat) : Prop := w.rangeAt Br 0 (qs q) ∧ w.there Br 0 32
theorem RAt.of_heap {w w' : World} {Br : Nat} {q : Nat → Nat} (h : RAt w Br q) (he : w'.heap[Br]? = w.heap[Br]?) : RAt w' Br q := by
  have c : ∀ o, w'.cell? ⟨Br, o, none⟩ = w.cell? ⟨Br, o, none⟩ := fun o => World.cell?_of_block he
  refine ⟨fun j v hv => (c _).trans (h.1 j v hv), fun j hj => ?_⟩
  obtain ⟨h1, h2⟩ := h.2 j hj
  refine ⟨by rw [c]; exact h1, ?_⟩
  unfold World.frozen? at h2 ⊢
  rw [he]; exact h2
theorem RAt.of_block {w : World} {Br : Nat} {q : Nat → Nat} (h : w.heap[Br]? = some (.cells (qs q).toArray 30 (0, 0))) : RAt w Br q := by
  refine ⟨fun j v hv => ?_, fun j hj => ?_⟩
  · rw [cell_of_row w Br (0 + j) _ _ _ h]; simpa using hv
  · rw [cell_of_row w Br (0 + j) _ _ _ h]
    exact ⟨by simp [qs_at q j hj], frozen_of_row w Br _ _ _ h⟩
theorem RAt.lt {w : World} {Br : Nat} {q : Nat → Nat} (h : RAt w Br q) : Br < w.heap.size := World.block_lt_of_cell? w _ (h.1 0 _ (qs_at q 0 (by omega)))
theorem RAt.store {w : World} {Br : Nat} (h : w.there Br 0 32) (q' : Nat → Nat) : RAt (w.setCells Br 0 (qs q')) Br q' :=
  ⟨World.rangeAt_setCells_same w Br 0 (qs q') (by rw [qs_len]; exact h), World.there_setCells h Br 0 _⟩
theorem ch_setCells (b : Nat) : ∀ (vs : List Value) (o : Nat) (w : World), Ch (fun j => j = b) w (w.setCells b o vs)
  | [], _, w => Ch.refl _ w
  | v :: r, o, w => ((Ch.refl (fun j => j = b) w).setCell ⟨b, o, none⟩ v (.inl rfl)).trans (ch_setCells b r (o + 1) _)
theorem RAt.load {w : World} {Br : Nat} {q : Nat → Nat} (h : RAt w Br q) : (Instr.loadAt 30 (.pointer (some ⟨Br, 0, none⟩))).run Tryd.prog w = .ok (.agg (qs q).toArray) w :=
  run_loadAt_mid w Br 0 30 (qs q) _ h.1 Tryd.underlying30 rfl (by rw [info30, qs_len])

/-- What holds between two calls. -/
def PI (w0 : World) (Bq Br : Nat) (q : Nat → Nat) (w : World) : Prop := QAt w Bq q ∧ RAt w Br q ∧ Below w0.heap.size w0 w

theorem quiet_load30 {C : World → Prop} {o : Oper} {a : Act} {K : Act → Prop} {x : Operand} {Br : Nat} {q : Nat → Nat} (ho : o.op = .load 30 x) (hx : a.eval x = .pointer (some ⟨Br, 0, none⟩)) (hC : ∀ w, C w → RAt w Br q)
    (hk : K (a.put o.dst (.agg (qs q).toArray))) : o.quiet Tryd.prog a C K :=
  quiet_run (fun w hw => by
    unfold execOp
    simp only [ho, hx, (hC w hw).load, Sem.run_bind, Sem.run_pure, Result.andThen_ok]) hk
theorem PI.below {w0 w w' : World} {Bq Br : Nat} {q : Nat → Nat} (h : PI w0 Bq Br q w) (hb : Below w.heap.size w w') : PI w0 Bq Br q w' :=
  ⟨h.1.below hb h.1.lt, h.2.1.of_heap (hb.block Br h.2.1.lt), h.2.2.trans (hb.mono h.2.2.size)⟩
theorem PI.drew {w0 w : World} {Bq Br : Nat} {q : Nat → Nat} (h : PI w0 Bq Br q w) : PI w0 Bq Br q w.drew := h.below (Below.refl _ _).drew
theorem qs_mem (q : Nat → Nat) : ∀ v ∈ qs q, v.oneCell' = true := by
  intro v hv
  unfold qs at hv
  rw [List.mem_map] at hv
  obtain ⟨i, _, rfl⟩ := hv
  rfl
theorem info30q (q : Nat → Nat) : (Tryd.prog.info? 30).map (·.size) = some (qs q).length := by rw [info30, qs_len]
/-- Both queues stepped: the program's by a call, the reference's by a store. -/
theorem PI.step {w0 w2 w3 : World} {Bq Br : Nat} {q' : Nat → Nat} (hne : Br ≠ Bq) (h2 : QAt w2 Bq q') (hb2 : Below w0.heap.size w0 w2) (hlt : w0.heap.size ≤ Br) (hr : Br < w2.heap.size) (hb3 : Below w2.heap.size w2 w3) (ht : w3.there Br 0 32) :
    PI w0 Bq Br q' (w3.setCells Br 0 (qs q')) := by
  have hc := ch_setCells Br (qs q') 0 w3
  have q3 : QAt w3 Bq q' := h2.below hb3 h2.lt
  refine ⟨hc.obj q3 (fun e => hne e.symm), RAt.store ht q', (hb2.trans (hb3.mono hb2.size)).trans (hc.below (fun j hj e => by omega) (by have := hb2.size; have := hb3.size; omega))⟩

/-- The program's queue stepped, the reference's not yet. -/
def PM (w0 : World) (Bq Br : Nat) (q' q : Nat → Nat) (w : World) : Prop := QAt w Bq q' ∧ RAt w Br q ∧ Below w0.heap.size w0 w
theorem PM.below {w0 w w' : World} {Bq Br : Nat} {q' q : Nat → Nat} (h : PM w0 Bq Br q' q w) (hb : Below w.heap.size w w') : PM w0 Bq Br q' q w' :=
  ⟨h.1.below hb h.1.lt, h.2.1.of_heap (hb.block Br h.2.1.lt), h.2.2.trans (hb.mono h.2.2.size)⟩
theorem PM.drew {w0 w : World} {Bq Br : Nat} {q' q : Nat → Nat} (h : PM w0 Bq Br q' q w) : PM w0 Bq Br q' q w.drew := h.below (Below.refl _ _).drew
theorem PM.step {w0 w : World} {Bq Br : Nat} {q' q : Nat → Nat} (hne : Br ≠ Bq) (hlt : w0.heap.size ≤ Br) (h : PM w0 Bq Br q' q w) : PI w0 Bq Br q' (w.setCells Br 0 (qs q')) :=
  PI.step hne h.1 h.2.2 hlt h.2.1.lt (Below.refl _ _) h.2.1.2
theorem quiet_loadq {C : World → Prop} {o : Oper} {a : Act} {K : Act → Prop} {x : Operand} {Br : Nat} {q : Nat → Nat} {Qo : List Value} (ho : o.op = .load 30 x) (hx : a.eval x = .pointer (some ⟨Br, 0, none⟩)) (hC : ∀ w, C w → RAt w Br q) (hQ : Qo = qs q)
    (hk : K (a.put o.dst (.agg Qo.toArray))) : o.quiet Tryd.prog a C K := quiet_load30 ho hx hC (by rw [← hQ]; exact hk)

set_option maxRecDepth 100000 in
set_option maxHeartbeats 8000000 in
theorem law_plays (sp : Option Addr) (b off cap : Nat) (O : List (Bool × Int × Int)) (w : World) (hlen : O.length ≤ 9223372036854775807) (hO : Ops w sp b off O) (ht : Tab w) :
    Calls Tryd.prog 3 #[.slice sp O.length cap] w fun e w' => e = .returned (.bool true) ∧ Below w.heap.size w w' := by
  by_cases hn : O.length ≤ 200
  · have hp := ht.pos
    have HO := Lib.hid hO
    have HT := Lib.hid ht
    clear ht hO
    have hz : ((w.alloc (.cells (lvs q0).toArray 28)).alloc (.cells (qs q0).toArray 30)).heap[w.heap.size + 1]? = some (.cells (qs q0).toArray 30 (0, 0)) := heap_alloc2_new _ _ _
    rw [lvs_zero, qs_zero] at hz
    have HZ := Lib.hid hz
    clear hz
    go_enter Tryd.func3, Tryd.ntmps3
    go_wp2_with (refine wpList_store_row rfl 30 (.tmp 4) (.tmp 13) rfl (w.heap.size + 1) _ rfl rfl 30 _ HZ.out (by kernel_rfl) rfl (by kernel_rfl) ?_)
    rw [← lvs_zero, ← qs_zero]
    have b0 : ∀ W0 : World, (((w.alloc (.cells (lvs q0).toArray 28)).alloc (.cells (qs q0).toArray 30)).setRow (w.heap.size + 1) (qs q0).toArray) = W0 → PI w w.heap.size (w.heap.size + 1) q0 W0 := by
      rintro W0 rfl
      refine ⟨?_, RAt.of_block (setRow_heap _ _ _ _ 30 (0, 0) (heap_alloc2_new _ _ _)), ?_⟩
      · unfold QAt
        rw [setRow_other _ _ _ _ (by omega)]
        exact heap_alloc2_old w _ _
      · have b1 := ((Below.refl w.heap.size w).alloc (Nat.le_refl _) (.cells (lvs q0).toArray 28)).alloc (by simp) (.cells (qs q0).toArray 30)
        exact ⟨b1.os, b1.tape, b1.output, by rw [size_setRow]; exact b1.size, fun k hk => by rw [setRow_other _ _ _ _ (by omega)]; exact b1.block k hk⟩
    generalize hW0 : World.setRow _ _ _ = W0
    have HP0 := Lib.hid (b0 W0 hW0)
    clear hW0 b0 HZ
    obtain ⟨Bq, hBq⟩ : ∃ Bq, Bq = w.heap.size := ⟨_, rfl⟩
    obtain ⟨Br, hBr⟩ : ∃ Br, Br = w.heap.size + 1 := ⟨_, rfl⟩
    rw [← hBr, ← hBq] at HP0 ⊢
    have HB := Lib.hid (show Bq = w.heap.size ∧ Br = Bq + 1 by omega)
    clear hBq hBr
    obtain ⟨N, hN⟩ : ∃ N, N = O.length := ⟨_, rfl⟩
    rw [← hN] at hn
    rw [← hN]
    have HN := Lib.hid hN
    clear hN hlen
    go_loopg [5, 6, 7] N (fun g i ok is wr => ∃ (k : Nat), k + g = N ∧ i = .int .i64 k ∧ Aside (PI w Bq Br (rq O k) wr))
    case atStart => exact ⟨0, by omega, rfl, HP0.out⟩
    case round =>
      obtain ⟨k, hkg, rfl, HPk⟩ := hrel
      cases gk with
      | zero =>
        obtain rfl : k = N := by omega
        go_wp2_with fail
        refine (alive_any wr (HT.out.below hp HPk.out.2.2)).mono ?_
        rintro e w5 ⟨rfl, hb5⟩
        have FIN := Lib.hid (HPk.out.2.2.trans (hb5.mono HPk.out.2.2.size))
        clear hb5
        go_wp2
        go_ret
        exact ⟨rfl, FIN.out⟩
      | succ m1 =>
        have hk : k < N := by omega
        have hli : (k : Int) < (N : Int) := by omega
        have hl0 : (0 : Int) ≤ (k : Int) := by omega
        have hkO : k < O.length := by have := HN.out; omega
        obtain ⟨rfl, hbw⟩ := HO.out.1 (by omega)
        obtain ⟨⟨d, n, l⟩, hop⟩ : ∃ x, x = opAt O k := ⟨_, rfl⟩
        have hcell := HO.out.at_ HPk.out.2.2 k hkO
        rw [← hop] at hcell
        obtain ⟨hc1, hc2, hc3⟩ := hcell
        have HKO := Lib.hid (And.intro hkO hbw)
        have HOP := Lib.hid hop
        clear hop hkO hbw
        dsimp only at hc1 hc2 hc3
        obtain ⟨q, hq⟩ : ∃ q, q = rq O k := ⟨_, rfl⟩
        have hb : ∀ i, q i ≤ 32 := by rw [hq]; exact rq_le O k
        rw [← hq] at HPk
        have HQ := Lib.hid hq
        clear hq
        have hbne : b ≠ Bq := by have := HKO.out.2; have := HB.out.1; omega
        have hbnr : b ≠ Br := by have := HKO.out.2; have := HB.out.1; have := HB.out.2; omega
        have hwr : Br ≠ Bq ∧ w.heap.size ≤ Br := by have := HB.out.1; have := HB.out.2; omega
        have CN := Lib.hid (show ∀ (q' : Nat → Nat) wz, PI w Bq Br q' wz → wz.cell? ⟨b, off + k * 3 + 1, none⟩ = some (.int .i64 n) from fun q' wz hz => by
          have := (HO.out.at_ hz.2.2 k HKO.out.1).2.1
          rw [← HOP.out] at this
          exact this)
        have HW := Lib.hid (And.intro hbne (And.intro hbnr hwr))
        clear hbne hbnr hwr
        cases d
        · obtain ⟨q', hq'⟩ : ∃ q', q' = putQ q n l := ⟨_, rfl⟩
          have hb' : ∀ i, q' i ≤ 32 := by rw [hq']; exact putQ_le hb
          have CN := Lib.hid (CN.out q')
          have K1 := Lib.hid (show ∀ w2, Ch (fun j => j = Bq) wr.drew w2 → w2.cell? ⟨b, off + k * 3 + 1, none⟩ = some (.int .i64 n) ∧ w2.cell? ⟨b, off + k * 3 + 2, none⟩ = some (.int .i64 l) from fun w2 hc =>
            ⟨hc.cell (p := ⟨b, off + k * 3 + 1, none⟩) hc2 HW.out.1, hc.cell (p := ⟨b, off + k * 3 + 2, none⟩) hc3 HW.out.1⟩)
          have C7 := Lib.hid (put_any Bq q n l wr.drew HPk.out.drew.1 hb)
          have S0 := Lib.hid (And.intro hc2 hc3)
          rw [← hq'] at C7
          obtain ⟨Qo, hQo⟩ : ∃ Qo, Qo = qs q := ⟨_, rfl⟩
          obtain ⟨Qn, hQn⟩ : ∃ Qn, Qn = qs q' := ⟨_, rfl⟩
          have C8 := Lib.hid (show ∀ wz, Calls Tryd.prog 8 #[.agg Qo.toArray, .int .i64 n, .int .i64 l] wz fun e w' => e = .returned (.tuple #[.agg Qn.toArray, .bool (okQ n l)]) ∧ Below wz.heap.size wz w' from fun wz => by
            rw [hQo, hQn, hq']; exact refput_any q n l wz)
          have HQP := Lib.hid hq'
          have HQN := Lib.hid (And.intro hQo hQn)
          clear hq' hQo hQn
          clear hc2 hc3
          go_wp2
          go_region_held3 (fun w' => w'.cell? ⟨b, off + k * 3 + 1, none⟩ = some (.int .i64 n) ∧ w'.cell? ⟨b, off + k * 3 + 2, none⟩ = some (.int .i64 l))
            (first | assumption | exact S0.out | exact K1.out _ (by assumption))
            ((go_at_call 7; refine C7.out.mono ?_; rintro e w2 ⟨rfl, hq2, hch2⟩))
          all_goals
            have hz2 : Br < w2.heap.size := Nat.lt_of_lt_of_le HPk.out.2.1.lt hch2.size
            have r2 : RAt w2 Br q := HPk.out.drew.2.1.of_heap (hch2.block Br HPk.out.drew.2.1.lt HW.out.2.2.1)
            have hbw2 : Below w.heap.size w w2 := HPk.out.drew.2.2.trans (hch2.below (fun j hj e => by have := HB.out.1; omega) HPk.out.drew.2.2.size)
            have cs2 := K1.out w2 hch2
            have H2 := Lib.hid (And.intro hq2 (And.intro r2 (And.intro hbw2 (And.intro cs2 hz2))))
            have HM := Lib.hid (show PM w Bq Br q' q w2.drew from PM.drew ⟨hq2, r2, hbw2⟩)
            have CM := Lib.hid (show ∀ wz, PM w Bq Br q' q wz → wz.cell? ⟨b, off + k * 3 + 1, none⟩ = some (.int .i64 n) ∧ wz.cell? ⟨b, off + k * 3 + 2, none⟩ = some (.int .i64 l) from fun wz hz => by
              have ho := HO.out.at_ hz.2.2 k HKO.out.1
              rw [← HOP.out] at ho
              exact ho.2)
            clear hq2 hch2 r2 hbw2 cs2 hz2 H2
            go_wp2
            refine wp_region_floatt (C := PM w Bq Br q' q) _ 14 rfl rfl (by kernel_rfl) (by kernel_rfl) (by kernel_rfl) (by kernel_rfl) (by kernel_rfl) (by kernel_rfl) (by kernel_rfl) (by kernel_rfl) (by kernel_rfl) (by kernel_rfl) HM.out ?_
            simp only [Nat.reduceAdd, List.take_succ_cons, List.take_zero]
            repeat
              first
                | go_big_quiet_skip
                | (go_big_quiet_want
                   first
                     | (refine quiet_loadq rfl rfl (fun wz hz => hz.2.1) HQN.out.1 ?_)
                     | (apply quiet_enter
                        · intro wz
                          go_simp
                          exact ⟨rfl, rfl⟩
                        · intro wz hz
                          refine (C8.out wz).mono ?_
                          rintro e w' ⟨rfl, hbn⟩
                          exact ⟨rfl, hz.below hbn⟩)
                     | (apply quiet_run
                        · intro wz hz
                          have hcn := (CM.out wz hz).1
                          have hcl := (CM.out wz hz).2
                          go_simp
                          try with_reducible rfl)
                   simp only [Act.put, List.setIfInBounds_toArray, List.set_cons_zero, List.set_cons_succ]
                   go_big_quiet_on)
            refine wpQuiet_nil (And.intro (fun w3 h3 => ?_) (fun u w3 h3 => ?_))
            all_goals
              (try simp only [Act.put, List.setIfInBounds_toArray, List.set_cons_zero, List.set_cons_succ])
              have hi30 : (Tryd.prog.info? 30).map (·.size) = some Qn.toArray.size := by rw [HQN.out.2]; exact info30q q'
              have ho30 : ∀ v ∈ Qn, v.oneCell' = true := by rw [HQN.out.2]; exact qs_mem q'
              have hth : w3.there Br 0 Qn.toArray.size := by rw [HQN.out.2, List.size_toArray, qs_len]; exact h3.2.1.2
              have hp5 := h3.step HW.out.2.2.1 HW.out.2.2.2
              rw [← HQN.out.2] at hp5
              refine wpList_store_mid rfl 30 (.tmp 4) (.tmp 67) rfl Br 0 Qn.toArray rfl rfl hth hi30 (all_oneCell_toArray ho30) ?_
            all_goals
              rw [show w3.setCells Br 0 Qn.toArray.toList = w3.setCells Br 0 Qn from rfl]
              clear hth hi30 ho30 h3
              generalize w3.setCells Br 0 Qn = w5 at hp5 ⊢
              have HP5 := Lib.hid hp5
              clear hp5
              go_wp2
              refine wp_region_class (C := PI w Bq Br q') (by kernel_rfl) (by kernel_rfl) (by kernel_rfl) HP5.out.drew ?_
              repeat
                first
                  | go_big_quiet_skip
                  | (go_big_quiet_want
                     first
                       | (refine quiet_load30 rfl rfl (fun wz hz => hz.2.1) ?_)
                       | (apply quiet_enter
                          · intro wz
                            go_simp
                            exact ⟨rfl, rfl⟩
                          · intro wz hz
                            refine (same_any Bq q' n wz hz.1 hb' (HT.out.below hp hz.2.2)).mono ?_
                            rintro e w' ⟨rfl, hbn⟩
                            exact ⟨rfl, hz.below hbn⟩)
                       | (apply quiet_run
                          · intro wz hz
                            have hcn := (CN.out wz hz)
                            go_simp
                            try with_reducible rfl)
                     simp only [Act.put, List.setIfInBounds_toArray, List.set_cons_zero, List.set_cons_succ]
                     go_big_quiet_on)
              refine wpQuiet_nil ?_
              intro w6 h6
              have H6 := Lib.hid h6
              clear h6
              go_wp2
              go_roundg m1
              case measure => omega
              case rel => exact ⟨k + 1, by omega, by go_num, by show PI w Bq Br (stepQ (rq O k) (opAt O k)) w6; rw [← HOP.out, ← HQ.out]; show PI w Bq Br (putQ q n l) w6; rw [← HQP.out]; exact H6.out⟩
        · obtain ⟨q', hq'⟩ : ∃ q', q' = dropQ q n := ⟨_, rfl⟩
          have hb' : ∀ i, q' i ≤ 32 := by rw [hq']; exact dropQ_le hb
          have CN := Lib.hid (CN.out q')
          have K1 := Lib.hid (show ∀ w2, Ch (fun j => j = Bq) wr w2 → w2.cell? ⟨b, off + k * 3 + 1, none⟩ = some (.int .i64 n) ∧ w2.cell? ⟨b, off + k * 3 + 2, none⟩ = some (.int .i64 l) from fun w2 hc =>
            ⟨hc.cell (p := ⟨b, off + k * 3 + 1, none⟩) hc2 HW.out.1, hc.cell (p := ⟨b, off + k * 3 + 2, none⟩) hc3 HW.out.1⟩)
          have C7 := Lib.hid (drop_any Bq q n wr HPk.out.1 hb)
          have S0 := Lib.hid (And.intro hc2 hc3)
          rw [← hq'] at C7
          obtain ⟨Qo, hQo⟩ : ∃ Qo, Qo = qs q := ⟨_, rfl⟩
          obtain ⟨Qn, hQn⟩ : ∃ Qn, Qn = qs q' := ⟨_, rfl⟩
          have C8 := Lib.hid (show ∀ wz, Calls Tryd.prog 6 #[.agg Qo.toArray, .int .i64 n] wz fun e w' => e = .returned (.tuple #[.agg Qn.toArray, .bool (inQ q n)]) ∧ Below wz.heap.size wz w' from fun wz => by
            rw [hQo, hQn, hq']; exact refdrop_any q n wz)
          have HQP := Lib.hid hq'
          have HQN := Lib.hid (And.intro hQo hQn)
          clear hq' hQo hQn
          clear hc2 hc3
          have hc2 := S0.out.1
          go_wp2_with fail
          clear hc2
          refine C7.out.mono ?_
          rintro e w2 ⟨rfl, hq2, hch2⟩
          all_goals
            have hz2 : Br < w2.heap.size := Nat.lt_of_lt_of_le HPk.out.2.1.lt hch2.size
            have r2 : RAt w2 Br q := HPk.out.2.1.of_heap (hch2.block Br HPk.out.2.1.lt HW.out.2.2.1)
            have hbw2 : Below w.heap.size w w2 := HPk.out.2.2.trans (hch2.below (fun j hj e => by have := HB.out.1; omega) HPk.out.2.2.size)
            have cs2 := K1.out w2 hch2
            have H2 := Lib.hid (And.intro hq2 (And.intro r2 (And.intro hbw2 (And.intro cs2 hz2))))
            have HM := Lib.hid (show PM w Bq Br q' q w2.drew from PM.drew ⟨hq2, r2, hbw2⟩)
            have CM := Lib.hid (show ∀ wz, PM w Bq Br q' q wz → wz.cell? ⟨b, off + k * 3 + 1, none⟩ = some (.int .i64 n) ∧ wz.cell? ⟨b, off + k * 3 + 2, none⟩ = some (.int .i64 l) from fun wz hz => by
              have ho := HO.out.at_ hz.2.2 k HKO.out.1
              rw [← HOP.out] at ho
              exact ho.2)
            clear hq2 hch2 r2 hbw2 cs2 hz2 H2
            go_wp2
            refine wp_region_floatt (C := PM w Bq Br q' q) _ 9 rfl rfl (by kernel_rfl) (by kernel_rfl) (by kernel_rfl) (by kernel_rfl) (by kernel_rfl) (by kernel_rfl) (by kernel_rfl) (by kernel_rfl) (by kernel_rfl) (by kernel_rfl) HM.out ?_
            simp only [Nat.reduceAdd, List.take_succ_cons, List.take_zero]
            repeat
              first
                | go_big_quiet_skip
                | (go_big_quiet_want
                   first
                     | (refine quiet_loadq rfl rfl (fun wz hz => hz.2.1) HQN.out.1 ?_)
                     | (apply quiet_enter
                        · intro wz
                          go_simp
                          exact ⟨rfl, rfl⟩
                        · intro wz hz
                          refine (C8.out wz).mono ?_
                          rintro e w' ⟨rfl, hbn⟩
                          exact ⟨rfl, hz.below hbn⟩)
                     | (apply quiet_run
                        · intro wz hz
                          have hcn := (CM.out wz hz).1
                          go_simp
                          try with_reducible rfl)
                   simp only [Act.put, List.setIfInBounds_toArray, List.set_cons_zero, List.set_cons_succ]
                   go_big_quiet_on)
            refine wpQuiet_nil (And.intro (fun w3 h3 => ?_) (fun u w3 h3 => ?_))
            all_goals
              (try simp only [Act.put, List.setIfInBounds_toArray, List.set_cons_zero, List.set_cons_succ])
              have hi30 : (Tryd.prog.info? 30).map (·.size) = some Qn.toArray.size := by rw [HQN.out.2]; exact info30q q'
              have ho30 : ∀ v ∈ Qn, v.oneCell' = true := by rw [HQN.out.2]; exact qs_mem q'
              have hth : w3.there Br 0 Qn.toArray.size := by rw [HQN.out.2, List.size_toArray, qs_len]; exact h3.2.1.2
              have hp5 := h3.step HW.out.2.2.1 HW.out.2.2.2
              rw [← HQN.out.2] at hp5
              refine wpList_store_mid rfl 30 (.tmp 4) (.tmp 40) rfl Br 0 Qn.toArray rfl rfl hth hi30 (all_oneCell_toArray ho30) ?_
            all_goals
              rw [show w3.setCells Br 0 Qn.toArray.toList = w3.setCells Br 0 Qn from rfl]
              clear hth hi30 ho30 h3
              generalize w3.setCells Br 0 Qn = w5 at hp5 ⊢
              have HP5 := Lib.hid hp5
              clear hp5
              go_wp2
              refine wp_region_class (C := PI w Bq Br q') (by kernel_rfl) (by kernel_rfl) (by kernel_rfl) HP5.out.drew ?_
              repeat
                first
                  | go_big_quiet_skip
                  | (go_big_quiet_want
                     first
                       | (refine quiet_load30 rfl rfl (fun wz hz => hz.2.1) ?_)
                       | (apply quiet_enter
                          · intro wz
                            go_simp
                            exact ⟨rfl, rfl⟩
                          · intro wz hz
                            refine (same_any Bq q' n wz hz.1 hb' (HT.out.below hp hz.2.2)).mono ?_
                            rintro e w' ⟨rfl, hbn⟩
                            exact ⟨rfl, hz.below hbn⟩)
                       | (apply quiet_run
                          · intro wz hz
                            have hcn := (CN.out wz hz)
                            go_simp
                            try with_reducible rfl)
                     simp only [Act.put, List.setIfInBounds_toArray, List.set_cons_zero, List.set_cons_succ]
                     go_big_quiet_on)
              refine wpQuiet_nil ?_
              intro w6 h6
              have H6 := Lib.hid h6
              clear h6
              go_wp2
              go_roundg m1
              case measure => omega
              case rel => exact ⟨k + 1, by omega, by go_num, by show PI w Bq Br (stepQ (rq O k) (opAt O k)) w6; rw [← HOP.out, ← HQ.out]; show PI w Bq Br (dropQ q n) w6; rw [← HQP.out]; exact H6.out⟩
  · go_enter Tryd.func3, Tryd.ntmps3
    go_wp2
    go_ret
    exact ⟨rfl, Below.refl _ _⟩
end Go.Proofs.YtimaihdlaaonbaaDoor
