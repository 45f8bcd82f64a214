/- The contract of ref25's Sections. -/
import Derived.Test.YtcipkkeegbfaeaaXK
import Derived.BigRegion
import Derived.BigQuiet
namespace Go.Proofs.Ytcipkkeegbfaeaa
open Go.RowKit

def secLs (l : List Sec) : List Value := l.flatMap secC
theorem secLs_snoc (l : List Sec) (s : Sec) : secLs (l ++ [s]) = secLs l ++ secC s := by simp [secLs]
theorem secLs_len (l : List Sec) : (secLs l).length = l.length * 3 := by
  induction l with
  | nil => rfl
  | cons s l ih => simp only [secLs, List.flatMap_cons, List.length_append, List.length_cons] at ih ⊢; rw [ih]; simp [secC]; omega
theorem least_any (x y : Int) (w : World) : Calls Try.prog 61 #[.int .i64 x, .int .i64 y] w fun e w' => e = .returned (.int .i64 (if x < y then x else y)) ∧ w' = w := by
  by_cases h : x < y
  · rw [if_pos h]
    go_enter Try.func61, Try.ntmps61
    go_wp2
    go_ret
    exact ⟨rfl, rfl⟩
  · rw [if_neg h]
    go_enter Try.func61, Try.ntmps61
    go_wp2
    go_ret
    exact ⟨rfl, rfl⟩
/-- Where ref25's things lie between two rounds. -/
structure RJ (w wr : World) (a0 a1 a2 : Int) (f : Nat → Int) (v : Value) (l : List Sec) : Prop where
  o : wr.ownsRow (w.heap.size + 1) 99 3 v l.length (secLs l)
  b : Below w.heap.size w wr
  t : RowAt wr w.heap.size 62 (task11 a0 a1 a2 f)
theorem RJ.new {w wr w2 : World} {a0 a1 a2 : Int} {f : Nat → Int} {v : Value} {l : List Sec} (h : RJ w wr a0 a1 a2 f v l) (hb : Below wr.heap.size wr w2) : RJ w w2 a0 a1 a2 f v l :=
  ⟨own_below h.o hb (Nat.le_refl _), h.b.trans (hb.mono h.b.size), h.t.new hb⟩
theorem RJ.keep {w wr w2 : World} {a0 a1 a2 : Int} {f : Nat → Int} {v : Value} {l : List Sec} (h : RJ w wr a0 a1 a2 f v l) {Z : Nat} (hc : Ch (fun j => j = Z) wr w2) (hZ : wr.heap.size ≤ Z) : RJ w w2 a0 a1 a2 f v l :=
  h.new (hc.below (fun j hj e => by omega) (Nat.le_refl _))
theorem cut_long {st sf cost y u : Int} (hu : (if st < cost then st else cost) = u) (h : y < u - sf) : sf + min3 (st - sf) (cost - sf) y = sf + y := by
  unfold min3; split at hu <;> (repeat' split) <;> omega
theorem cut_short {st sf cost y u : Int} (hu : (if st < cost then st else cost) = u) (h : ¬ y < u - sf) : sf + min3 (st - sf) (cost - sf) y = u := by
  unfold min3; split at hu <;> (repeat' split) <;> omega
theorem RJ.app {w wr w4 w6 : World} {a0 a1 a2 : Int} {f : Nat → Int} {v v1 : Value} {l : List Sec} {m : Nat} {s : Sec} {ob : Obj} {cs : Array Value} (h : RJ w wr a0 a1 a2 f v l) (hm : l.length = m) (hb : Below wr.heap.size wr w4) (hz : RowAt w4 wr.heap.size 99 cs)
    (ho : w6.ownsRow (w.heap.size + 1) 99 3 v1 (m + 1) (secLs l ++ secC s)) (hg : (w4.alloc ob).grownBy w6 v.ownBlock) : RJ w w6 a0 a1 a2 f v1 (l ++ [s]) ∧ RowAt w6 wr.heap.size 99 cs := by
  have hcr : Ch (fun j => v.ownBlock = some j) w4 w6 := (((Ch.refl (fun _ => False) w4).alloc ob).mono (fun _ _ h => h.elim)).trans (ch_grown hg)
  have h4 := h.new hb
  refine ⟨⟨?_, ?_, h4.t.keep hcr fun e => ?_⟩, hz.keep hcr fun e => ?_⟩
  · rw [secLs_snoc, List.length_append, hm]; exact ho
  · exact h4.b.trans (hcr.below (fun j hj e => by have := (h.o.lt j e).1; omega) h4.b.size)
  · have := (h.o.lt _ e).1; omega
  · have := (h.o.lt _ e).2; omega
set_option maxHeartbeats 8000000 in
set_option maxRecDepth 100000 in
theorem rSecs_any (a0 a1 a2 : Int) (f : Nat → Int) (cost : Int) (S : Src) (n : Nat) (L : Nat → Sec) (w : World) (hn : n ≤ 1000) (hf0 : ∀ r, r < 8 → 0 ≤ f r) (hr : ∀ k, k < n → (-9223372036854775808 ≤ (L k).t ∧ (L k).t ≤ 9223372036854775807)) (hc : -9223372036854775808 ≤ cost ∧ cost ≤ 9223372036854775807)
    (hs : SlAt w (fun _ => False) S n) (he : ∀ k, k < n → At w S.b (S.o + k * 3) (secC (L k))) :
    Calls Try.prog 31 #[.agg #[.int .i64 a0, .int .i64 a1, .int .i64 a2, .int .i64 (f 0), .int .i64 (f 1), .int .i64 (f 2), .int .i64 (f 3), .int .i64 (f 4), .int .i64 (f 5), .int .i64 (f 6), .int .i64 (f 7)], .int .i64 cost, .slice S.sp n S.c] w
      fun e w' => ∃ v, e = .returned v ∧ w'.ownsRow w.heap.size 99 3 v (secsJ f cost L n).length (secLs (secsJ f cost L n)) ∧ Below w.heap.size w w' := by
  obtain ⟨i0, hi0, hz0, hz1, hz2⟩ := info_parts infoSc
  have HE := Lib.hid (show ∀ k, k < n → ∀ wr, Below w.heap.size w wr → At wr S.b (S.o + k * 3) (secC (L k)) from fun k hk wr hb => (he k hk).keep (Ch.of_below hb) (by have := (hs.at_ (by omega)).2.1; omega))
  have HSP := Lib.hid (fun (h0 : 0 < n) => (hs.at_ h0).1)
  have HR := Lib.hid (And.intro hr hf0)
  obtain ⟨sp, sb, so, sc⟩ := S
  dsimp only at HE HSP
  have HRJ := Lib.hid (show RJ w (w.alloc (.cells #[.int .i64 a0, .int .i64 a1, .int .i64 a2, .int .i64 (f 0), .int .i64 (f 1), .int .i64 (f 2), .int .i64 (f 3), .int .i64 (f 4), .int .i64 (f 5), .int .i64 (f 6), .int .i64 (f 7)] 62)) a0 a1 a2 f (.slice none 0 0) [] from ⟨World.ownsRow_nil _ _ _ _, (Below.refl _ w).alloc (Nat.le_refl _) _, RowAt.mk w _ _⟩)
  clear hs he hr hf0
  go_enter Try.func31, Try.ntmps31
  go_wp2
  go_loopg [7, 8, 9] n (fun g v u8 u9 wr => ∃ k : Nat, k + g = n ∧ u8 = .int .i64 (goJ f cost L k).2 ∧ u9 = .int .i64 (k : Nat) ∧ Aside (RJ w wr a0 a1 a2 f v (goJ f cost L k).1))
  case atStart => exact ⟨0, by omega, rfl, rfl, HRJ.out⟩
  clear HRJ
  case round =>
    obtain ⟨k, hkg, rfl, rfl, HK⟩ := hrel
    obtain ⟨osp, ocap, hv⟩ := own_val HK.out.o
    cases gk with
    | zero =>
      obtain rfl : k = n := by omega
      subst hv
      go_wp2
      go_ret
      exact ⟨_, rfl, own_mono HK.out.o (by omega), HK.out.b⟩
    | succ g1 =>
      have hk : k < n := by omega
      have hk2 : (k : Int) < n := by omega
      obtain rfl : sp = some ⟨sb, so, none⟩ := HSP.out (by omega)
      obtain ⟨⟨sr, sf, st⟩, hL⟩ : ∃ s, L k = s := ⟨_, rfl⟩
      have hi := HR.out.1 k hk
      have hfr := (goJ_from f cost L k).1
      have HEK := Lib.hid (HE.out k hk)
      have G := Lib.hid (And.intro (fun h => goJ_full (lon := f) (cost := cost) (L := L) (k := k) h (n - k)) (And.intro (fun h8 h => goJ_yes (lon := f) (cost := cost) (L := L) (k := k) h8 h) (And.intro (fun h => goJ_no (lon := f) (cost := cost) (L := L) (k := k) h) trivial)))
      rw [hL] at hi G HEK
      obtain ⟨m, hm⟩ : ∃ m, (goJ f cost L k).1.length = m := ⟨_, rfl⟩
      obtain ⟨fr, hf⟩ : ∃ x, (goJ f cost L k).2 = x := ⟨_, rfl⟩
      obtain ⟨lk, hlk⟩ : ∃ x, (goJ f cost L k).1 = x := ⟨_, rfl⟩
      have hm8 : m ≤ 8 := by rw [← hm]; exact goJ_len f cost L k
      rw [hf] at hfr G ⊢
      rw [hm] at G hv
      rw [hlk] at hm HK
      have HM := Lib.hid hlk
      have HF := Lib.hid hf
      have HMM := Lib.hid hm
      subst hv
      clear hL hf hm hlk
      by_cases h8 : m = 8
      · have HN := Lib.hid (show goJ f cost L n = goJ f cost L k by have := G.out.1 h8; rwa [show k + (n - k) = n by omega] at this)
        subst h8
        clear G HEK hi
        go_wp2
        go_ret
        exact ⟨_, rfl, by unfold secsJ; rw [HN.out, HM.out]; exact own_mono HK.out.o (by omega), HK.out.b⟩
      · have h8i : (m : Int) < 8 := by omega
        have cc := HEK.out wr HK.out.b
        have c0 : wr.cell? ⟨sb, so + k * 3, none⟩ = some (.int .i64 sr) := cc 0 _ rfl
        have c1 : wr.cell? ⟨sb, so + k * 3 + 1, none⟩ = some (.int .i64 sf) := cc 1 _ rfl
        have c2 : wr.cell? ⟨sb, so + k * 3 + 2, none⟩ = some (.int .i64 st) := cc 2 _ rfl
        obtain ⟨Z, hZ⟩ : ∃ Z, Z = wr.heap.size := ⟨_, rfl⟩
        have HW := Lib.hid (show ∀ w2, wr.alloc (.cells #[.int .i64 sr, .int .i64 sf, .int .i64 st] 99) = w2 → Below wr.heap.size wr w2 ∧ RowAt w2 Z 99 #[.int .i64 sr, .int .i64 sf, .int .i64 st] ∧ RowAt w2 w.heap.size 62 (task11 a0 a1 a2 f) from fun w2 hw => by
          have hb : Below wr.heap.size wr w2 := by rw [← hw]; exact (Below.refl _ wr).alloc (Nat.le_refl _) _
          refine ⟨hb, ?_, HK.out.t.new hb⟩
          rw [← hw, hZ]; exact RowAt.mk wr _ _)
        have HZ := Lib.hid hZ
        clear cc HEK
        go_upto_region 7 with fail
        rw [← hZ]
        generalize hw2 : World.alloc _ _ = w2
        have H2 := Lib.hid (HW.out w2 hw2)
        clear hw2 HW hZ c0 c1 c2
        have c0 : w2.cell? ⟨Z, 0, none⟩ = some (.int .i64 sr) := H2.out.2.1.cell 0
        have c1 : w2.cell? ⟨Z, 1, none⟩ = some (.int .i64 sf) := H2.out.2.1.cell 1
        have c2 : w2.cell? ⟨Z, 2, none⟩ = some (.int .i64 st) := H2.out.2.1.cell 2
        by_cases q0 : sr < 0
        · have HN := Lib.hid (G.out.2.2.1 (show cutB f fr cost ⟨sr, sf, st⟩ = false by
              simp [cutB, q0]))
          clear G
          go_wp2
          go_roundg g1
          case measure => omega
          case rel => exact ⟨k + 1, by omega, by rw [HN.out, HF.out], by go_num, by rw [HN.out, HM.out]; exact HK.out.new H2.out.1⟩
        by_cases q1 : 7 < sr
        · have HN := Lib.hid (G.out.2.2.1 (show cutB f fr cost ⟨sr, sf, st⟩ = false by
              have : decide (8 ≤ sr) = true := by simp; omega
              simp only [cutB, this]; simp))
          clear G
          go_wp2
          go_roundg g1
          case measure => omega
          case rel => exact ⟨k + 1, by omega, by rw [HN.out, HF.out], by go_num, by rw [HN.out, HM.out]; exact HK.out.new H2.out.1⟩
        obtain ⟨rn, rfl⟩ := Int.eq_ofNat_of_zero_le (show 0 ≤ sr by omega)
        have hrn : rn < 8 := by omega
        have hrn2 : (rn : Int) < 8 := by omega
        have t0 : w2.cell? ⟨w.heap.size, 3 + rn, none⟩ = some (.int .i64 (f rn)) := (H2.out.2.2.cell (3 + rn)).trans (task11_at a0 a1 a2 f rn hrn)
        have hy0 := HR.out.2 rn hrn
        obtain ⟨y, hy⟩ : ∃ y, f rn = y := ⟨_, rfl⟩
        have HY := Lib.hid hy
        rw [hy] at t0 hy0
        clear hy
        by_cases q2 : y = 0
        · have HN := Lib.hid (G.out.2.2.1 (show cutB f fr cost ⟨rn, sf, st⟩ = false by
              subst q2; simp [cutB, HY.out]))
          clear G
          go_wp2
          go_roundg g1
          case measure => omega
          case rel => exact ⟨k + 1, by omega, by rw [HN.out, HF.out], by go_num, by rw [HN.out, HM.out]; exact HK.out.new H2.out.1⟩
        by_cases q3 : sf < fr
        · have HN := Lib.hid (G.out.2.2.1 (show cutB f fr cost ⟨rn, sf, st⟩ = false by
              simp [cutB, q3]))
          clear G
          go_wp2
          go_roundg g1
          case measure => omega
          case rel => exact ⟨k + 1, by omega, by rw [HN.out, HF.out], by go_num, by rw [HN.out, HM.out]; exact HK.out.new H2.out.1⟩
        by_cases q4 : cost ≤ sf
        · have HN := Lib.hid (G.out.2.2.1 (show cutB f fr cost ⟨rn, sf, st⟩ = false by
              simp [cutB, q4]))
          clear G
          go_wp2
          go_roundg g1
          case measure => omega
          case rel => exact ⟨k + 1, by omega, by rw [HN.out, HF.out], by go_num, by rw [HN.out, HM.out]; exact HK.out.new H2.out.1⟩
        by_cases q5 : st ≤ sf
        · have HN := Lib.hid (G.out.2.2.1 (show cutB f fr cost ⟨rn, sf, st⟩ = false by
              simp [cutB, q5]))
          clear G
          go_wp2
          go_roundg g1
          case measure => omega
          case rel => exact ⟨k + 1, by omega, by rw [HN.out, HF.out], by go_num, by rw [HN.out, HM.out]; exact HK.out.new H2.out.1⟩
        obtain ⟨u, hu⟩ : ∃ u, (if st < cost then st else cost) = u := ⟨_, rfl⟩
        have HU := Lib.hid hu
        have HL := Lib.hid (fun wx => least_any st cost wx)
        rw [hu] at HL
        have hu1 : sf < u ∧ u ≤ cost ∧ u ≤ st := by rw [← hu]; split <;> omega
        have u1 : IntKind.i64.wrap (u - sf) = u - sf := by rw [IntKind.wrap_i64]; (try dsimp only at hi); omega
        have fz : w2.frozen? ⟨Z, 2, none⟩ = false := H2.out.2.1.fr 2
        have HW3 := Lib.hid (show ∀ (x : Int) w3, w2.setCell ⟨Z, 2, none⟩ (.int .i64 x) = w3 → Below wr.heap.size wr w3 ∧ RowAt w3 Z 99 #[.int .i64 rn, .int .i64 sf, .int .i64 x] ∧ RowAt w3 w.heap.size 62 (task11 a0 a1 a2 f) from fun x w3 hw => by
          have hc : Ch (fun j => j = Z) w2 w3 := by rw [← hw]; exact (Ch.refl (fun j => j = Z) w2).setCell ⟨Z, 2, none⟩ _ (.inl rfl)
          have hz := HZ.out
          have hl := HK.out.t.lt
          refine ⟨H2.out.1.trans (hc.below (fun j hj e => by omega) H2.out.1.size), ?_, H2.out.2.2.keep hc (by omega)⟩
          rw [← hw]; exact H2.out.2.1.setC 2 _)
        clear hu
        go_upto_region 9 with (go_at_call 61; refine (HL.out _).mono ?_; rintro e w' ⟨rfl, rfl⟩)
        generalize hw3 : World.setCell _ _ _ = w3
        have H3 := Lib.hid (HW3.out u w3 hw3)
        clear hw3 HW3 c0 c1 c2 t0 fz H2 HL
        have c0 : w3.cell? ⟨Z, 0, none⟩ = some (.int .i64 rn) := H3.out.2.1.cell 0
        have c1 : w3.cell? ⟨Z, 1, none⟩ = some (.int .i64 sf) := H3.out.2.1.cell 1
        have c2 : w3.cell? ⟨Z, 2, none⟩ = some (.int .i64 u) := H3.out.2.1.cell 2
        have t0 : w3.cell? ⟨w.heap.size, 3 + rn, none⟩ = some (.int .i64 y) := (H3.out.2.2.cell (3 + rn)).trans ((task11_at a0 a1 a2 f rn hrn).trans (by rw [HY.out]))
        by_cases q6 : y < u - sf
        · have hq := q6
          go_quiet (fail)
          obtain ⟨w4, hw4⟩ : ∃ w4, w3.drewN nq = w4 := ⟨_, rfl⟩
          have H4 := Lib.hid (show Below wr.heap.size wr w4 ∧ RowAt w4 Z 99 #[.int .i64 rn, .int .i64 sf, .int .i64 u] ∧ RowAt w4 w.heap.size 62 (task11 a0 a1 a2 f) by
            have hd : Below w3.heap.size w3 w4 := by rw [← hw4]; exact below_dn (Below.refl _ w3) nq
            exact ⟨H3.out.1.trans (hd.mono H3.out.1.size), H3.out.2.1.new hd, H3.out.2.2.new hd⟩)
          rw [hw4]
          clear hw4 c0 c1 c2 t0 H3
          have c0 : w4.cell? ⟨Z, 0, none⟩ = some (.int .i64 rn) := H4.out.2.1.cell 0
          have c1 : w4.cell? ⟨Z, 1, none⟩ = some (.int .i64 sf) := H4.out.2.1.cell 1
          have c2 : w4.cell? ⟨Z, 2, none⟩ = some (.int .i64 u) := H4.out.2.1.cell 2
          have t0 : w4.cell? ⟨w.heap.size, 3 + rn, none⟩ = some (.int .i64 y) := (H4.out.2.2.cell (3 + rn)).trans ((task11_at a0 a1 a2 f rn hrn).trans (by rw [HY.out]))
          have fz : w4.frozen? ⟨Z, 2, none⟩ = false := H4.out.2.1.fr 2
          have u3 : IntKind.i64.wrap (sf + y) = sf + y := by rw [IntKind.wrap_i64]; (try dsimp only at hi); omega
          go_upto_region 10 with fail
          refine wp_region_g (fun w' => w'.cell? ⟨Z, 0, none⟩ = some (.int .i64 (rn : Int)) ∧ w'.cell? ⟨Z, 1, none⟩ = some (.int .i64 sf) ∧ w'.cell? ⟨Z, 2, none⟩ = some (.int .i64 u) ∧ w'.cell? ⟨w.heap.size, 3 + rn, none⟩ = some (.int .i64 y)) 9 (by kernel_rfl) ⟨c0, c1, c2, t0⟩ (fun hS => ?_)
          refine wpAnyG_take (i := 0) (oi := { dst := some 77, op := .fieldAddr 99 (.tmp 10) 1, type := 0, pos := "ref.go:25", after := #[], guard := none }) (v := ?_) rfl (by kernel_rfl) (by kernel_rfl) (by kernel_rfl) (by kernel_rfl) (fun _ _ _ h => h) (Or.inl ⟨by rfl, ?_⟩) hS ?_
          rotate_left 1
          · intro w hw; obtain ⟨s0, s1, s2, s3⟩ := hw; go_simp; try (with_reducible rfl)
          simp only [Act.put, List.setIfInBounds_toArray, List.set_cons_zero, List.set_cons_succ]
          refine wpAnyG_take (i := 1) (oi := { dst := some 78, op := .load 3 (.tmp 77), type := 3, pos := "ref.go:25", after := #[{ on := 0, ground := .data }], guard := none }) (v := ?_) rfl (by kernel_rfl) (by kernel_rfl) (by kernel_rfl) (by kernel_rfl) (fun _ _ _ h => h) (Or.inl ⟨by rfl, ?_⟩) hS ?_
          rotate_left 1
          · intro w hw; obtain ⟨s0, s1, s2, s3⟩ := hw; go_simp; try (with_reducible rfl)
          simp only [Act.put, List.setIfInBounds_toArray, List.set_cons_zero, List.set_cons_succ]
          refine wpAnyG_take (i := 2) (oi := { dst := some 79, op := .fieldAddr 99 (.tmp 10) 0, type := 0, pos := "ref.go:25", after := #[], guard := none }) (v := ?_) rfl (by kernel_rfl) (by kernel_rfl) (by kernel_rfl) (by kernel_rfl) (fun _ _ _ h => h) (Or.inl ⟨by rfl, ?_⟩) hS ?_
          rotate_left 1
          · intro w hw; obtain ⟨s0, s1, s2, s3⟩ := hw; go_simp; try (with_reducible rfl)
          simp only [Act.put, List.setIfInBounds_toArray, List.set_cons_zero, List.set_cons_succ]
          refine wpAnyG_take (i := 3) (oi := { dst := some 80, op := .load 3 (.tmp 79), type := 3, pos := "ref.go:25", after := #[{ on := 2, ground := .data }], guard := none }) (v := ?_) rfl (by kernel_rfl) (by kernel_rfl) (by kernel_rfl) (by kernel_rfl) (fun _ _ _ h => h) (Or.inl ⟨by rfl, ?_⟩) hS ?_
          rotate_left 1
          · intro w hw; obtain ⟨s0, s1, s2, s3⟩ := hw; go_simp; try (with_reducible rfl)
          simp only [Act.put, List.setIfInBounds_toArray, List.set_cons_zero, List.set_cons_succ]
          refine wpAnyG_take (i := 4) (oi := { dst := some 81, op := .fieldAddr 62 (.tmp 3) 3, type := 0, pos := "ref.go:25", after := #[], guard := none }) (v := ?_) rfl (by kernel_rfl) (by kernel_rfl) (by kernel_rfl) (by kernel_rfl) (fun _ _ _ h => h) (Or.inl ⟨by rfl, ?_⟩) hS ?_
          rotate_left 1
          · intro w hw; obtain ⟨s0, s1, s2, s3⟩ := hw; go_simp; try (with_reducible rfl)
          simp only [Act.put, List.setIfInBounds_toArray, List.set_cons_zero, List.set_cons_succ]
          refine wpAnyG_take (i := 5) (oi := { dst := some 82, op := .indexAddr 60 (.tmp 81) (.tmp 80), type := 0, pos := "ref.go:25", after := #[{ on := 4, ground := .data }, { on := 3, ground := .data }], guard := none }) (v := ?_) rfl (by kernel_rfl) (by kernel_rfl) (by kernel_rfl) (by kernel_rfl) (fun _ _ _ h => h) (Or.inl ⟨by rfl, ?_⟩) hS ?_
          rotate_left 1
          · intro w hw; obtain ⟨s0, s1, s2, s3⟩ := hw; go_simp; try (with_reducible rfl)
          simp only [Act.put, List.setIfInBounds_toArray, List.set_cons_zero, List.set_cons_succ]
          refine wpAnyG_take (i := 6) (oi := { dst := some 83, op := .load 3 (.tmp 82), type := 3, pos := "ref.go:25", after := #[{ on := 5, ground := .data }], guard := none }) (v := ?_) rfl (by kernel_rfl) (by kernel_rfl) (by kernel_rfl) (by kernel_rfl) (fun _ _ _ h => h) (Or.inl ⟨by rfl, ?_⟩) hS ?_
          rotate_left 1
          · intro w hw; obtain ⟨s0, s1, s2, s3⟩ := hw; go_simp; try (with_reducible rfl)
          simp only [Act.put, List.setIfInBounds_toArray, List.set_cons_zero, List.set_cons_succ]
          refine wpAnyG_take (i := 7) (oi := { dst := some 84, op := .binOp .add 3 (.tmp 78) (.tmp 83) 3, type := 3, pos := "ref.go:25", after := #[{ on := 1, ground := .data }, { on := 6, ground := .data }], guard := none }) (v := .int .i64 (sf + y)) rfl (by kernel_rfl) (by kernel_rfl) (by kernel_rfl) (by kernel_rfl) (fun _ _ _ h => h) (Or.inl ⟨by rfl, ?_⟩) hS ?_
          · intro w hw; obtain ⟨s0, s1, s2, s3⟩ := hw; go_simp
          simp only [Act.put, List.setIfInBounds_toArray, List.set_cons_zero, List.set_cons_succ]
          refine wpAnyG_take (i := 8) (oi := { dst := some 85, op := .fieldAddr 99 (.tmp 10) 2, type := 0, pos := "ref.go:25", after := #[{ on := 0, ground := .phase }, { on := 1, ground := .phase }, { on := 2, ground := .phase }, { on := 3, ground := .phase }, { on := 4, ground := .phase }, { on := 5, ground := .phase }, { on := 6, ground := .phase }, { on := 7, ground := .phase }], guard := none }) (v := ?_) rfl (by kernel_rfl) (by kernel_rfl) (by kernel_rfl) (by kernel_rfl) (fun _ _ _ h => h) (Or.inl ⟨by rfl, ?_⟩) hS ?_
          rotate_left 1
          · intro w hw; obtain ⟨s0, s1, s2, s3⟩ := hw; go_simp; try (with_reducible rfl)
          simp only [Act.put, List.setIfInBounds_toArray, List.set_cons_zero, List.set_cons_succ]
          refine wpAnyG_ready (rs := [9]) (by kernel_rfl) (by simp) (AllReadyG.last (o := { dst := none, op := .store 3 (.tmp 85) (.tmp 84), type := 0, pos := "ref.go:25", after := #[{ on := 8, ground := .data }, { on := 7, ground := .data }, { on := 0, ground := .phase }, { on := 1, ground := .phase }, { on := 2, ground := .phase }, { on := 3, ground := .phase }, { on := 4, ground := .phase }, { on := 5, ground := .phase }, { on := 6, ground := .phase }, { on := 7, ground := .phase }], guard := none }) rfl (fun K hK => ?_))
          go_simp
          refine hK.out _ _ ?_
          clear hK K
          try simp only [Act.put, List.setIfInBounds_toArray, List.set_cons_zero, List.set_cons_succ]
          refine wpAnyG_done (by kernel_rfl) ?_ _

          obtain ⟨w5, hw5'⟩ : ∃ w5, (w4.setCell ⟨Z, 2, none⟩ (.int .i64 (sf + y))).drew = w5 := ⟨_, rfl⟩
          have hw5 : w4.drew.setCell ⟨Z, 2, none⟩ (.int .i64 (sf + y)) = w5 := by rw [← hw5']; rfl
          have H5' := Lib.hid (show Below wr.heap.size wr w5 ∧ RowAt w5 Z 99 #[.int .i64 rn, .int .i64 sf, .int .i64 (sf + y)] ∧ RowAt w5 w.heap.size 62 (task11 a0 a1 a2 f) by
            have hd : Below w4.heap.size w4 w4.drew := below_dn (Below.refl _ w4) 1
            have hc : Ch (fun j => j = Z) w4.drew w5 := by rw [← hw5]; exact (Ch.refl (fun j => j = Z) w4.drew).setCell ⟨Z, 2, none⟩ _ (.inl rfl)
            have hb : Below wr.heap.size wr w4.drew := H4.out.1.trans (hd.mono H4.out.1.size)
            have hz := HZ.out
            have hl := HK.out.t.lt
            refine ⟨hb.trans (hc.below (fun j hj e => by omega) hb.size), ?_, (H4.out.2.2.new hd).keep hc (by omega)⟩
            rw [← hw5]; exact (H4.out.2.1.new hd).setC 2 _)
          rw [hw5']
          clear hw5 hw5' H4 hS c0 c1 c2 t0 fz
          have HY2 := Lib.hid (G.out.2.1 h8 (show cutB f fr cost ⟨(rn : Int), sf, st⟩ = true by simp [cutB, HY.out, q3, q4, q5]; omega))
          have HS := Lib.hid (show cutS f cost ⟨(rn : Int), sf, st⟩ = ⟨rn, sf, sf + y⟩ by
            unfold cutS
            rw [Int.toNat_natCast, HY.out, cut_long HU.out hq])
          rw [HS.out] at HY2
          have H5 := Lib.hid (show w5.ownsRow (w.heap.size + 1) 99 3 (.slice osp m ocap) m (secLs lk) ∧ w.heap.size + 1 ≤ w5.heap.size from ⟨by have := (HK.out.new H5'.out.1).o; rwa [HMM.out] at this, H5'.out.2.2.lt⟩)
          have HA := Lib.hid (fun v1 w6 ob ho hg => HK.out.app (s := ⟨(rn : Int), sf, sf + y⟩) (ob := ob) (v1 := v1) (w6 := w6) HMM.out H5'.out.1 (by rw [← HZ.out]; exact H5'.out.2.1) ho hg)
          rw [← HZ.out] at HA
          clear G hi hu1 HK HF
          go_wp2_with (first
            | (refine wpList_load_row rfl 99 (.tmp 10) rfl Z rfl 99 #[.int .i64 rn, .int .i64 sf, .int .i64 (sf + y)] (0, 0) _ H5'.out.2.1 Try.underlying99 rfl (by kernel_rfl) ?_)
            | (at_builtin; refine wpList_append_own _ rfl (.tmp 86) (.tmp 88) 63 rfl (w.heap.size + 1) 99 i0 (.agg #[.int .i64 0, .int .i64 0, .int .i64 0]) 3 24 Try.underlying63 hi0 hz0 hz1 hz2 rfl (by decide) _ m (secLs lk) rfl (H5.out.1.alloc _) ⟨w5.heap.size, 0, none⟩ 1 1 [.int .i64 rn, .int .i64 sf, .int .i64 (sf + y)] rfl rfl (three_new _ _ _ _ _) (by simp [Value.oneCell']) (by unfold maxLen; omega) (by omega) (by have := H5.out.2; rw [World.size_alloc]; omega) ?_; intro v1 w6 hown1 hg1 _; have H6 := Lib.hid (HA.out v1 w6 _ hown1 hg1); clear hown1 hg1; have e2 : w6.cell? ⟨Z, 2, none⟩ = some (.int .i64 (sf + y)) := H6.out.2.cell 2)
            | fail)
          go_roundg g1
          case measure => omega
          case rel => exact ⟨k + 1, by omega, by rw [HY2.out], by go_num, by rw [HY2.out, HM.out]; exact H6.out.1⟩
        · go_quiet (fail)
          obtain ⟨w4, hw4⟩ : ∃ w4, w3.drewN nq = w4 := ⟨_, rfl⟩
          have H4 := Lib.hid (show Below wr.heap.size wr w4 ∧ RowAt w4 Z 99 #[.int .i64 rn, .int .i64 sf, .int .i64 u] ∧ RowAt w4 w.heap.size 62 (task11 a0 a1 a2 f) by
            have hd : Below w3.heap.size w3 w4 := by rw [← hw4]; exact below_dn (Below.refl _ w3) nq
            exact ⟨H3.out.1.trans (hd.mono H3.out.1.size), H3.out.2.1.new hd, H3.out.2.2.new hd⟩)
          rw [hw4]
          clear hw4 c0 c1 c2 t0 H3
          have HY2 := Lib.hid (G.out.2.1 h8 (show cutB f fr cost ⟨(rn : Int), sf, st⟩ = true by simp [cutB, HY.out, q3, q4, q5]; omega))
          have HS := Lib.hid (show cutS f cost ⟨(rn : Int), sf, st⟩ = ⟨rn, sf, u⟩ by
            unfold cutS
            rw [Int.toNat_natCast, HY.out, cut_short HU.out q6])
          rw [HS.out] at HY2
          have H5 := Lib.hid (show w4.ownsRow (w.heap.size + 1) 99 3 (.slice osp m ocap) m (secLs lk) ∧ w.heap.size + 1 ≤ w4.heap.size from ⟨by have := (HK.out.new H4.out.1).o; rwa [HMM.out] at this, H4.out.2.2.lt⟩)
          have HA := Lib.hid (fun v1 w6 ob ho hg => HK.out.app (s := ⟨(rn : Int), sf, u⟩) (ob := ob) (v1 := v1) (w6 := w6) HMM.out H4.out.1 (by rw [← HZ.out]; exact H4.out.2.1) ho hg)
          rw [← HZ.out] at HA
          clear G hi hu1 HK HF
          go_wp2_with (first
            | (refine wpList_load_row rfl 99 (.tmp 10) rfl Z rfl 99 #[.int .i64 rn, .int .i64 sf, .int .i64 (u)] (0, 0) _ H4.out.2.1 Try.underlying99 rfl (by kernel_rfl) ?_)
            | (at_builtin; refine wpList_append_own _ rfl (.tmp 86) (.tmp 88) 63 rfl (w.heap.size + 1) 99 i0 (.agg #[.int .i64 0, .int .i64 0, .int .i64 0]) 3 24 Try.underlying63 hi0 hz0 hz1 hz2 rfl (by decide) _ m (secLs lk) rfl (H5.out.1.alloc _) ⟨w4.heap.size, 0, none⟩ 1 1 [.int .i64 rn, .int .i64 sf, .int .i64 (u)] rfl rfl (three_new _ _ _ _ _) (by simp [Value.oneCell']) (by unfold maxLen; omega) (by omega) (by have := H5.out.2; rw [World.size_alloc]; omega) ?_; intro v1 w6 hown1 hg1 _; have H6 := Lib.hid (HA.out v1 w6 _ hown1 hg1); clear hown1 hg1; have e2 : w6.cell? ⟨Z, 2, none⟩ = some (.int .i64 (u)) := H6.out.2.cell 2)
            | fail)
          go_roundg g1
          case measure => omega
          case rel => exact ⟨k + 1, by omega, by rw [HY2.out], by go_num, by rw [HY2.out, HM.out]; exact H6.out.1⟩
end Go.Proofs.Ytcipkkeegbfaeaa
