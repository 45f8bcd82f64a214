/- The walk of GuardPlays. -/
import Derived.Test.YtdfknobohgncaaaDoorGE
import Derived.Test.YtdfknobohgncaaaDoorBox
import Derived.Deep.CutRange
import Derived.Deep.CutBlock
import Derived.BigQuiet
import Derived.Deep.QuietTactic
namespace Go.Proofs.YtdfknobohgncaaaDoor
open Go.RowKit

/-- A call of the law's, and where calls lie. -/
def opT (O : List (Int × Int × Int)) (k : Nat) : Int × Int × Int := O.getD k (0, 0, 0)
def OpsT (w : World) (sp : Option Addr) (b off : Nat) (O : List (Int × Int × Int)) : Prop := (0 < O.length → sp = some ⟨b, off, none⟩ ∧ b < w.heap.size) ∧
  ∀ k, k < O.length → w.cell? ⟨b, off + k * 3, none⟩ = some (.int .i64 (opT O k).1) ∧ w.cell? ⟨b, off + k * 3 + 1, none⟩ = some (.int .i64 (opT O k).2.1) ∧ w.cell? ⟨b, off + k * 3 + 2, none⟩ = some (.int .i64 (opT O k).2.2)
/-- What is there between two calls. -/
structure GS (w0 : World) (q k : Nat) (c : Nat → Int) (w : World) : Prop where
  g : GAt w q c
  a : AAt w (q + 1) c
  d : AAt w (q + 2) (fun i => c (16 + i))
  ok : okC c
  few : ∀ i, i < 16 → c (16 + i) ≤ k
  below : Below q w0 w
  size : q + 3 ≤ w.heap.size
  tab : Tab w
theorem GS.new {w0 : World} {q k : Nat} {c : Nat → Int} {w w' : World} (h : GS w0 q k c w) (hb : Below w.heap.size w w') : GS w0 q k c w' :=
  ⟨h.g.below hb h.g.lt, h.a.keep (Ch.new (T := fun _ => False) hb) (fun h => h), h.d.keep (Ch.new (T := fun _ => False) hb) (fun h => h), h.ok, h.few, h.below.trans (hb.mono (by have := h.size; omega)), Nat.le_trans h.size hb.size, h.tab.below h.tab.pos hb⟩
/-- And the copy of the call that is looked at. -/
structure G9 (w0 : World) (q k : Nat) (c : Nat → Int) (z : Nat) (t now p : Int) (w : World) : Prop where
  s : GS w0 q k c w
  box : BoxAt w z [.int .i64 t, .int .i64 now, .int .i64 p]
  zq : q + 3 ≤ z
theorem G9.new {w0 : World} {q k : Nat} {c : Nat → Int} {z : Nat} {t now p : Int} {w w' : World} (h : G9 w0 q k c z t now p w) (hb : Below w.heap.size w w') : G9 w0 q k c z t now p w' :=
  ⟨h.s.new hb, h.box.new hb, h.zq⟩
theorem G9.dn {w0 : World} {q k : Nat} {c : Nat → Int} {z : Nat} {t now p : Int} {w : World} (h : G9 w0 q k c z t now p w) (n : Nat) : G9 w0 q k c z t now p (w.drewN n) :=
  h.new (below_dn (Below.refl _ _) n)
/-- Behind the call: the guard's cells are c', the law's own arrays fa and fd. -/
structure G10 (w0 : World) (q : Nat) (c' fa fd : Nat → Int) (z : Nat) (t now p : Int) (w : World) : Prop where
  g : GAt w q c'
  a : AAt w (q + 1) fa
  d : AAt w (q + 2) fd
  below : Below q w0 w
  size : q + 3 ≤ w.heap.size
  tab : Tab w
  box : BoxAt w z [.int .i64 t, .int .i64 now, .int .i64 p]
  zq : q + 3 ≤ z
theorem G9.came {w0 : World} {q k : Nat} {c c' : Nat → Int} {z : Nat} {t now p : Int} {w w' : World} (h : G9 w0 q k c z t now p w) (hp : 0 < q) (hg : GAt w' q c') (hc : Ch (fun j => j = q) w w') : G10 w0 q c' c (fun i => c (16 + i)) z t now p w' :=
  have hb : Below q w w' := hc.below (fun j hj e => by omega) (by have := h.s.size; omega)
  ⟨hg, h.s.a.keep hc (by omega), h.s.d.keep hc (by omega), h.s.below.trans hb, Nat.le_trans h.s.size hc.size, h.s.tab.below hp hb, h.box.keep hc (by have := h.zq; omega), h.zq⟩
theorem G10.dn {w0 : World} {q : Nat} {c' fa fd : Nat → Int} {z : Nat} {t now p : Int} {w : World} (h : G10 w0 q c' fa fd z t now p w) (n : Nat) : G10 w0 q c' fa fd z t now p (w.drewN n) :=
  have hb : Below w.heap.size w (w.drewN n) := below_dn (Below.refl _ _) n
  ⟨h.g.below hb h.g.lt, h.a.keep (Ch.new (T := fun _ => False) hb) (fun h => h), h.d.keep (Ch.new (T := fun _ => False) hb) (fun h => h), below_dn h.below n, h.size, h.tab.below h.tab.pos hb, h.box.new hb, h.zq⟩
theorem G10.setA {w0 : World} {q : Nat} {c' fa fd : Nat → Int} {z : Nat} {t now p : Int} {w : World} (h : G10 w0 q c' fa fd z t now p w) (hp : 0 < q) (n : Nat) (v : Int) (hn : n < 16) : G10 w0 q c' (upd fa n v) fd z t now p (w.setCell ⟨q + 1, n, none⟩ (.int .i64 v)) :=
  have hc : Ch (fun j => j = q + 1) w (w.setCell ⟨q + 1, n, none⟩ (.int .i64 v)) := (Ch.refl _ _).setCell _ _ (.inl rfl)
  have hb : Below (q + 1) w (w.setCell ⟨q + 1, n, none⟩ (.int .i64 v)) := hc.below (fun j hj e => by omega) (by have := h.size; omega)
  ⟨h.g.keep hc (by omega), h.a.set_ n v hn, h.d.keep hc (by omega), h.below.trans (hb.mono (by omega)), Nat.le_trans h.size hc.size, h.tab.below (by omega) hb, h.box.keep hc (by have := h.zq; omega), h.zq⟩
theorem G10.setD {w0 : World} {q : Nat} {c' fa fd : Nat → Int} {z : Nat} {t now p : Int} {w : World} (h : G10 w0 q c' fa fd z t now p w) (hp : 0 < q) (n : Nat) (v : Int) (hn : n < 16) : G10 w0 q c' fa (upd fd n v) z t now p (w.setCell ⟨q + 2, n, none⟩ (.int .i64 v)) :=
  have hc : Ch (fun j => j = q + 2) w (w.setCell ⟨q + 2, n, none⟩ (.int .i64 v)) := (Ch.refl _ _).setCell _ _ (.inl rfl)
  have hb : Below (q + 2) w (w.setCell ⟨q + 2, n, none⟩ (.int .i64 v)) := hc.below (fun j hj e => by omega) (by have := h.size; omega)
  ⟨h.g.keep hc (by omega), h.a.keep hc (by omega), h.d.set_ n v hn, h.below.trans (hb.mono (by omega)), Nat.le_trans h.size hc.size, h.tab.below (by omega) hb, h.box.keep hc (by have := h.zq; omega), h.zq⟩
theorem G10.gs {w0 : World} {q k : Nat} {c' fa fd : Nat → Int} {z : Nat} {t now p : Int} {w : World} (h : G10 w0 q c' fa fd z t now p w) (ha : ∀ i, i < 16 → fa i = c' i) (hd : ∀ i, i < 16 → fd i = c' (16 + i)) (hok : okC c') (few : ∀ i, i < 16 → c' (16 + i) ≤ k) : GS w0 q k c' w :=
  ⟨h.g, h.a.congr ha, h.d.congr hd, hok, few, h.below, h.size, h.tab⟩
theorem cameA {c : Nat → Int} {n : Nat} {now : Int} (p : Int) (hn : n < 16) (h : c n ≤ now) : cameG c (n : Int) now p = upd c n (now + per p) := by
  unfold cameG; rw [if_pos ((has_iff _).2 ⟨by omega, by omega⟩)]; simp [h]
theorem cameB {c : Nat → Int} {n : Nat} {now : Int} (p : Int) (hn : n < 16) (h : ¬ c n ≤ now) (hf : c (16 + n) < 4096) : cameG c (n : Int) now p = upd c (16 + n) (c (16 + n) + 1) := by
  unfold cameG; rw [if_pos ((has_iff _).2 ⟨by omega, by omega⟩)]; simp only [Int.toNat_natCast]; rw [if_neg h, show min (c (16 + n) + 1) 4096 = c (16 + n) + 1 by omega]
theorem cameC {c : Nat → Int} {t now : Int} (p : Int) (h : has t = false) : cameG c t now p = c := by unfold cameG; simp [h]
theorem fromN (c : Nat → Int) (n : Nat) (hn : n < 16) : fromG c (n : Int) = c n := by unfold fromG; rw [if_pos ((has_iff _).2 ⟨by omega, by omega⟩)]; simp
theorem droppedN (c : Nat → Int) (n : Nat) (hn : n < 16) : droppedG c (n : Int) = c (16 + n) := by unfold droppedG; rw [if_pos ((has_iff _).2 ⟨by omega, by omega⟩)]; simp
theorem r16_zero : (r16 c0).toArray = #[.int .i64 0, .int .i64 0, .int .i64 0, .int .i64 0, .int .i64 0, .int .i64 0, .int .i64 0, .int .i64 0, .int .i64 0, .int .i64 0, .int .i64 0, .int .i64 0, .int .i64 0, .int .i64 0, .int .i64 0, .int .i64 0] := by kernel_rfl
theorem odd_test (x : BitVec 32) (k : Nat) : ((w32 x / 2 ^ k).tmod 2 == 1) = x.getLsbD k := by
  have e1 : w32 x / 2 ^ k = ((x.toNat / 2 ^ k : Nat) : Int) := by unfold w32; simp
  have e2 : ((x.toNat / 2 ^ k : Nat) : Int).tmod 2 = ((x.toNat / 2 ^ k % 2 : Nat) : Int) := rfl
  rw [e1, e2, BitVec.getLsbD, Nat.testBit_eq_decide_div_mod_eq]
  have : x.toNat / 2 ^ k % 2 < 2 := Nat.mod_lt _ (by omega)
  rw [Bool.eq_iff_iff, beq_iff_eq, decide_eq_true_iff]
  omega
theorem info3 : (Tryd.prog.info? 3).map (fun i => (i.zero, i.size, i.bytes)) = some (some (.int .i64 0), 1, 8) := by kernel_rfl
theorem one_cell (n : Int) : ∀ u ∈ [Value.int .i64 n], u.oneCell' = true := by intro u hu; simp at hu; subst hu; rfl
theorem ints_snoc (l : List Nat) (k : Nat) : rowI (ints (l ++ [k])) = rowI (ints l) ++ [.int .i64 (k : Int)] := by unfold ints rowI; simp
theorem mod16 (t : Int) (h0 : 0 ≤ t) (h1 : t < 16) : t.tmod 16 = t ∧ (t + 16) % 16 = t := by
  rw [Int.tmod_eq_emod_of_nonneg h0]; omega

set_option maxHeartbeats 8000000 in
set_option maxRecDepth 100000 in
theorem law_guard (s : BitVec 32) (sp : Option Addr) (b off cap : Nat) (O : List (Int × Int × Int)) (w : World) (ht : Tab w) (hlen : O.length ≤ 9223372036854775807) (hO : OpsT w sp b off O) :
    Calls Tryd.prog 3 #[.slice sp O.length cap, .int .u32 (w32 s)] w fun e w' => e = .returned (.bool true) ∧ Below w.heap.size w w' := by
  obtain ⟨i0, hi, hz0, hz1, hz2⟩ := info_parts info3
  by_cases hn : O.length ≤ 200
  case neg =>
    have d2 : (200 : Int) < (O.length : Int) := by omega
    clear hO
    go_enter Tryd.func3, Tryd.ntmps3
    go_wp2
    go_ret
    exact ⟨rfl, Below.refl _ _⟩
  have d1 : ¬ (200 : Int) < (O.length : Int) := by omega
  have HO := Lib.hid hO
  obtain ⟨q, hq⟩ : ∃ q, q = w.heap.size := ⟨_, rfl⟩
  obtain ⟨w1, hw1⟩ : ∃ w1, w1 = w.alloc (.cells #[.int .i64 0, .int .i64 0, .int .i64 0, .int .i64 0, .int .i64 0, .int .i64 0, .int .i64 0, .int .i64 0, .int .i64 0, .int .i64 0, .int .i64 0, .int .i64 0, .int .i64 0, .int .i64 0, .int .i64 0, .int .i64 0, .int .i64 0, .int .i64 0, .int .i64 0, .int .i64 0, .int .i64 0, .int .i64 0, .int .i64 0, .int .i64 0, .int .i64 0, .int .i64 0, .int .i64 0, .int .i64 0, .int .i64 0, .int .i64 0, .int .i64 0, .int .i64 0] 28) := ⟨_, rfl⟩
  obtain ⟨w2, hw2⟩ : ∃ w2, w2 = w1.alloc (.cells #[.int .i64 0, .int .i64 0, .int .i64 0, .int .i64 0, .int .i64 0, .int .i64 0, .int .i64 0, .int .i64 0, .int .i64 0, .int .i64 0, .int .i64 0, .int .i64 0, .int .i64 0, .int .i64 0, .int .i64 0, .int .i64 0] 26) := ⟨_, rfl⟩
  obtain ⟨w3, hw3⟩ : ∃ w3, w3 = w2.alloc (.cells #[.int .i64 0, .int .i64 0, .int .i64 0, .int .i64 0, .int .i64 0, .int .i64 0, .int .i64 0, .int .i64 0, .int .i64 0, .int .i64 0, .int .i64 0, .int .i64 0, .int .i64 0, .int .i64 0, .int .i64 0, .int .i64 0] 26) := ⟨_, rfl⟩
  have s1 : w1.heap.size = q + 1 := by rw [hw1, hq]; simp
  have s2 : w2.heap.size = q + 2 := by rw [hw2, World.size_alloc, s1]
  have s3 : w3.heap.size = q + 3 := by rw [hw3, World.size_alloc, s2]
  have g1 : GAt w1 q c0 := by rw [hw1, hq]; exact GAt.new0 w
  have b12 : Below w1.heap.size w1 w2 := by rw [hw2]; exact (Below.refl _ _).alloc (Nat.le_refl _) _
  have b23 : Below w2.heap.size w2 w3 := by rw [hw3]; exact (Below.refl _ _).alloc (Nat.le_refl _) _
  have a2 : AAt w2 (q + 1) c0 := by unfold AAt; rw [r16_zero, hw2, ← s1]; exact heap_alloc_new w1 _
  have a3 : AAt w3 (q + 2) c0 := by unfold AAt; rw [r16_zero, hw3, ← s2]; exact heap_alloc_new w2 _
  have bw : Below q w w3 := by rw [hw3, hw2, hw1, hq]; exact (((Below.refl _ _).alloc (Nat.le_refl _) _).alloc (by simp) _).alloc (by simp; omega) _
  have HG0 := Lib.hid (show GS w q 0 c0 w3 from ⟨(g1.below b12 (by omega)).below b23 (by omega), a2.keep (Ch.new (T := fun _ => False) b23) (fun h => h), a3, okC0, fun i _ => by unfold c0; omega, bw, by omega, ht.below (by have := ht.pos; omega) bw⟩)
  obtain ⟨N, hN⟩ : ∃ N, N = O.length := ⟨_, rfl⟩
  have HN := Lib.hid hN
  have HQ := Lib.hid hq
  have HQ0 := Lib.hid (show 0 < q by rw [hq]; exact ht.pos)
  clear hO g1 b12 b23 a2 a3 bw ht s1 s2 s3
  go_enter Tryd.func3, Tryd.ntmps3
  go_upto_region 5 with fail
  rw [← hw1, ← hw2, ← hw3, ← hq, show q + 1 + 1 = q + 2 from rfl]
  rw [← hN] at hn d1 hlen ⊢
  clear hw1 hw2 hw3 hq hN
  go_wp2
  go_loopg [8] N (fun g i wr => ∃ (k : Nat) (c : Nat → Int), k + g = N ∧ i = .int .i64 k ∧ Aside (GS w q k c wr))
  case atStart => exact ⟨0, c0, by omega, rfl, HG0.out⟩
  case round =>
    obtain ⟨k, c, hkg, rfl, HR⟩ := hrel
    cases gk with
    | zero =>
      obtain rfl : k = N := by omega
      have HAl := Lib.hid (galive_any wr)
      go_wp2_with (go_at_call 12; refine HAl.out.mono ?_; rintro e w3 ⟨rfl, b3⟩; have HB3 := Lib.hid (HR.out.new b3).below; clear b3)
      go_ret
      exact ⟨rfl, by rw [← HQ.out]; exact HB3.out⟩
    | succ m1 =>
      have hlt : k < N := by omega
      have hki : (k : Int) < (N : Int) := by omega
      have hk0 : (0 : Int) ≤ (k : Int) := by omega
      obtain ⟨rfl, hbl⟩ := HO.out.1 (by rw [← HN.out]; omega)
      obtain ⟨p0, p1, p2⟩ := HO.out.2 k (by rw [← HN.out]; exact hlt)
      obtain ⟨t, ht⟩ : ∃ t, (opT O k).1 = t := ⟨_, rfl⟩
      obtain ⟨now, hnow⟩ : ∃ t, (opT O k).2.1 = t := ⟨_, rfl⟩
      obtain ⟨p, hp⟩ : ∃ t, (opT O k).2.2 = t := ⟨_, rfl⟩
      rw [ht] at p0; rw [hnow] at p1; rw [hp] at p2
      have hbq : b < q := by rw [HQ.out]; exact hbl
      have e0 : wr.cell? ⟨b, off + k * 3, none⟩ = some (.int .i64 t) := (HR.out.below.cell (p := ⟨b, off + k * 3, none⟩) hbq).trans p0
      have e1 : wr.cell? ⟨b, off + k * 3 + 1, none⟩ = some (.int .i64 now) := (HR.out.below.cell (p := ⟨b, off + k * 3 + 1, none⟩) hbq).trans p1
      have e2 : wr.cell? ⟨b, off + k * 3 + 2, none⟩ = some (.int .i64 p) := (HR.out.below.cell (p := ⟨b, off + k * 3 + 2, none⟩) hbq).trans p2
      obtain ⟨z, hz⟩ : ∃ z, z = wr.heap.size := ⟨_, rfl⟩
      obtain ⟨w9, hw9⟩ : ∃ w9, w9 = wr.alloc (.cells #[.int .i64 t, .int .i64 now, .int .i64 p] 30) := ⟨_, rfl⟩
      have x9 : w9.heap[z]? = some (.cells #[.int .i64 t, .int .i64 now, .int .i64 p] 30 (0, 0)) := by rw [hw9, hz]; exact heap_alloc_new wr _
      have b9 : Below wr.heap.size wr w9 := by rw [hw9]; exact (Below.refl _ _).alloc (Nat.le_refl _) _
      have H9 := Lib.hid (show G9 w q k c z t now p w9 from ⟨HR.out.new b9, by rw [hw9, hz]; exact BoxAt.mk_new wr _ _, by rw [hz]; exact HR.out.size⟩)
      have o0 : w9.cell? ⟨z, 0, none⟩ = some (.int .i64 t) := by rw [cell_of_row w9 z 0 _ _ _ x9]; rfl
      have o1 : w9.cell? ⟨z, 1, none⟩ = some (.int .i64 now) := by rw [cell_of_row w9 z 1 _ _ _ x9]; rfl
      have o2 : w9.cell? ⟨z, 2, none⟩ = some (.int .i64 p) := by rw [cell_of_row w9 z 2 _ _ _ x9]; rfl
      clear p0 p1 p2 ht hnow hp hbl x9 b9
      go_upto_region 9 with fail
      rw [← hw9, ← hz]
      clear hw9 hz e0 e1 e2
      by_cases hnw : 1099511627776 < now
      · go_wp2
        go_ret
        exact ⟨rfl, by rw [← HQ.out]; exact H9.out.s.below⟩
      clear o0 o2
      have hnw : now ≤ 1099511627776 := by omega
      have HNW := Lib.hid hnw
      go_upto_region 11 with fail
      clear o1
      go_cut [10] from 19 to 164 (fun s10 wx => s10 = .bool (has t) ∧ Aside (G9 w q k c z t now p wx))
      case first =>
        have o0 := H9.out.box.cell 0 _ rfl
        have HT := Lib.hid (show has t = (decide (0 ≤ t) && decide (t < 16)) from rfl)
        rcases (show t < 0 ∨ 16 ≤ t ∨ (0 ≤ t ∧ t < 16) by omega) with h | h | ⟨h0, h1⟩
        · have h' : ¬ 0 ≤ t := by omega
          have HF := Lib.hid (decide_eq_false h')
          go_wp2
          go_meet
          case rel => exact ⟨by rw [HT.out, HF.out]; rfl, H9.out⟩
        · have h0 : 0 ≤ t := by omega
          have h' : ¬ t < 16 := by omega
          have HF := Lib.hid (decide_eq_false h')
          go_wp2
          go_meet
          case rel => exact ⟨by rw [HT.out, HF.out]; simp, H9.out⟩
        · go_wp2
          go_meet
          case rel => exact ⟨by rw [HT.out, decide_eq_true h0, decide_eq_true h1]; rfl, H9.out⟩
      case rest =>
        obtain ⟨rfl, HX0⟩ := hcut
        have HX := Lib.hid HX0.out
        clear H9 HX0
        go_upto_region 12 with fail
        go_cut [10, 11] from 19 to 164 (fun s10 s11 wx => s10 = .bool (has t) ∧ s11 = .bool (mayG c t now) ∧ Aside (G9 w q k c z t now p wx))
        case first =>
          have o0 := HX.out.box.cell 0 _ rfl
          have o1 := HX.out.box.cell 1 _ rfl
          have HM := Lib.hid (show mayG c t now = (has t && decide (c t.toNat ≤ now)) from rfl)
          cases hh : has t with
          | false =>
            rw [hh] at HM
            have HH := Lib.hid hh
            clear hh
            go_quiet (fail)
            go_wp2
            go_meet
            case rel => exact ⟨by rw [HH.out], by rw [HM.out]; rfl, HX.out.dn _⟩
          | true =>
            obtain ⟨h0, h1⟩ := (has_iff t).1 hh
            rw [hh] at HM
            obtain ⟨n, rfl⟩ : ∃ n : Nat, t = n := ⟨t.toNat, by omega⟩
            obtain ⟨m1', m2'⟩ := mod16 (n : Int) h0 h1
            have an := HX.out.s.a.cell n (by omega)
            rw [Int.toNat_natCast] at HM
            obtain ⟨cn, hcn⟩ : ∃ x, c n = x := ⟨_, rfl⟩
            rw [hcn] at an HM
            have HH := Lib.hid hh
            clear hh hcn
            go_quiet (fail)
            go_wp2
            go_meet
            case rel => exact ⟨by rw [HH.out], by rw [HM.out]; rfl, HX.out.dn _⟩
        case rest =>
          obtain ⟨rfl, rfl, HY0⟩ := hcut
          have HY := Lib.hid HY0.out
          clear HX HY0
          obtain ⟨m, hm⟩ : ∃ m, mayG c t now = m := ⟨_, rfl⟩
          obtain ⟨hb, hhb⟩ : ∃ m, has t = m := ⟨_, rfl⟩
          rw [hm, hhb]
          have HM := Lib.hid hm
          have HB := Lib.hid hhb
          clear hm hhb
          clear hnw
          go_wp2
          go_loopg [12, 13] 16 (fun g v i wx => ∃ j : Nat, j + g = 16 ∧ i = .int .i64 (j : Nat) ∧ Aside (wx.ownsRow wc.heap.size 3 1 v (opL c now s j).length (rowI (ints (opL c now s j))) ∧ Below wc.heap.size wc wx))
          case atStart => exact ⟨0, by omega, rfl, World.ownsRow_nil _ _ _ _, Below.refl _ _⟩
          case round =>
            obtain ⟨j, hjg, rfl, HL⟩ := hrel
            have HX := Lib.hid (HY.out.new HL.out.2)
            have o1 := HX.out.box.cell 1 _ rfl
            cases gk with
            | succ g2 =>
              have hj : j < 16 := by omega
              have hj16 : (j : Int) < 16 := by omega
              have aj := HX.out.s.a.cell j hj
              have hodd := odd_test s j
              have hls := opL_succ c now s j
              have hln := opL_len c now s j
              obtain ⟨cj, hcj⟩ : ∃ x, c j = x := ⟨_, rfl⟩
              rw [hcj] at aj hls
              by_cases hle : cj ≤ now
              · rw [decide_eq_true hle, Bool.true_and] at hls
                cases hb : s.getLsbD j with
                | true =>
                  rw [hb] at hodd hls
                  have HLS := Lib.hid hls
                  clear hls hb hcj
                  go_wp2
                  go_quiet (fail)
                  go_wp2_with (first | (at_builtin; (refine wpList_append_own _ rfl (.tmp 71) (.tmp 73) 31 rfl wc.heap.size 3 i0 (.int .i64 0) 1 8 Tryd.underlying31 hi hz0 hz1 hz2 rfl Nat.one_pos _ (opL c now s j).length (rowI (ints (opL c now s j))) rfl ((own_below HL.out.1 (below_dn (Below.refl wr.heap.size wr) nq) (Nat.le_refl _)).alloc _) ⟨wr.heap.size, 0, none⟩ 1 1 [.int .i64 j] rfl rfl (cell_one_new _ _ _) (one_cell _) (by unfold maxLen; omega) (by omega) (by rw [World.size_alloc]; exact Nat.le_succ_of_le HL.out.2.size) ?_; intro v1 w1 hown1 hg1 _; have HO3 := Lib.hid hown1; have HB3 := Lib.hid (Below.grown (Below.alloc (below_dn HL.out.2 nq) HL.out.2.size _) hg1 (by rw [World.size_alloc]; exact Nat.le_succ_of_le HL.out.2.size) (fun j e => (HL.out.1.lt j e).1)); clear hown1 hg1)) | fail)
                  go_roundg g2
                  case measure => omega
                  case rel =>
                    have h := HO3.out
                    have hl : opL c now s (j + 1) = opL c now s j ++ [j] := HLS.out
                    refine ⟨j + 1, by omega, by go_num, ?_, HB3.out⟩
                    rw [hl, ints_snoc, List.length_append]
                    exact h
                | false =>
                  rw [hb] at hodd hls
                  have HLS := Lib.hid (show opL c now s (j + 1) = opL c now s j from hls)
                  clear hls hb hcj
                  go_wp2
                  go_quiet (fail)
                  go_wp2
                  go_roundg g2
                  case measure => omega
                  case rel => exact ⟨j + 1, by omega, by go_num, by rw [HLS.out]; exact own_below HL.out.1 (below_dn (Below.refl wr.heap.size wr) nq) (Nat.le_refl _), below_dn HL.out.2 nq⟩
              · have hlf : decide (cj ≤ now) = false := decide_eq_false hle
                have hlg : now < cj := by omega
                rw [hlf, Bool.false_and] at hls
                have HLS := Lib.hid (show opL c now s (j + 1) = opL c now s j from hls)
                clear hls hcj
                go_wp2
                go_quiet (fail)
                go_wp2
                go_roundg g2
                case measure => omega
                case rel => exact ⟨j + 1, by omega, by go_num, by rw [HLS.out]; exact own_below HL.out.1 (below_dn (Below.refl wr.heap.size wr) nq) (Nat.le_refl _), below_dn HL.out.2 nq⟩
            | zero =>
              obtain rfl : j = 16 := by omega
              have HOp := Lib.hid (op_eq c now s)
              have HNO := Lib.hid (opL_len c now s 16)
              obtain ⟨sl, gl, cl, rfl, hs1, hs2⟩ := own_ints HL.out.1 (by unfold ints; simp)
              have hll : (opL c now s 16).length = (ints (opL c now s 16)).length := by unfold ints; simp
              have HLi := Lib.hid (show Lies wr sl gl 0 (ints (opL c now s 16)) from ⟨fun h => ⟨(hs1 (by omega)).1, (hs1 (by omega)).2.2⟩, fun k hk => by rw [Nat.zero_add]; exact hs2 k (by omega)⟩)
              obtain ⟨li, hli⟩ : ∃ li, li = ints (opL c now s 16) := ⟨_, rfl⟩
              rw [← hli] at hll HLi HOp
              rw [hll] at HNO ⊢
              have o0 := HX.out.box.cell 0 _ rfl
              clear hs1 hs2 hll hli
              go_upto_region 21 with (first
                | (go_at_call 5; refine (may_any HX.out.s.g t now).mono ?_; rintro e w5 ⟨rfl, rfl⟩; rw [HM.out])
                | (go_at_call 6; refine (open_any HX.out.s.g HX.out.s.tab s now).mono ?_; rintro e w6 ⟨rfl, b6⟩; rw [HOp.out]; have H6 := Lib.hid (HX.out.new b6); have HLi2 := Lib.hid (HLi.out.below b6 (fun h => (HLi.out.1 h).2)); have o02 := H6.out.box.cell 0 _ rfl; have o12 := H6.out.box.cell 1 _ rfl; have o22 := H6.out.box.cell 2 _ rfl; clear b6)
                | (go_at_call 7; refine (refof_any sl gl 0 cl li _ (by have := HNO.out; omega) HLi2.out).mono ?_; rintro e w7 ⟨rfl, rfl⟩)
                | (go_at_call 8; refine (came_any H6.out.s.g H6.out.s.ok t now p HNW.out).mono ?_; rintro e w8 ⟨rfl, g8, c8⟩; rw [HM.out]; have H8 := Lib.hid (And.intro g8 c8); clear g8 c8)
                | fail)
              have hkN : (k : Int) + 1 ≤ N := by omega
              have hN2 : (N : Int) ≤ 200 := by omega
              have H9 := Lib.hid (H6.out.came HQ0.out H8.out.1 H8.out.2)
              have HOK := Lib.hid (H6.out.s.ok.came t now p HNW.out)
              have HFw := Lib.hid H6.out.s.few
              have HKN := Lib.hid (And.intro hkN hN2)
              clear o0 o1 o02 o12 o22 H8 HL HX HLi HLi2 HOp HNO hkN hN2
              cases hb with
              | false =>
                have hm : m = false := by rw [← HM.out]; unfold mayG; rw [HB.out]; rfl
                subst hm
                have HC := Lib.hid (cameC (c := c) (now := now) p HB.out)
                have p0 := H9.out.box.cell 0 _ rfl
                have HF := Lib.hid (show ∀ wz, GAt wz q (cameG c t now p) → Calls Tryd.prog 10 #[.pointer (some ⟨q, 0, none⟩), .int .i64 t] wz fun e w' => e = .returned (.int .i64 0) ∧ wz = w' from fun wz hz => by
                  have := from_any hz t; unfold fromG at this; rw [HB.out] at this; exact this)
                have HG := Lib.hid (show ∀ wz, GAt wz q (cameG c t now p) → Calls Tryd.prog 11 #[.pointer (some ⟨q, 0, none⟩), .int .i64 t] wz fun e w' => e = .returned (.int .i64 0) ∧ wz = w' from fun wz hz => by
                  have := dropped_any hz t; unfold droppedG at this; rw [HB.out] at this; exact this)
                go_upto_region 25 with fail
                go_quiet (first
                  | (go_at_call 10; exact quietly (HF.out _ (H9.out.dn _).g))
                  | (go_at_call 11; exact quietly (HG.out _ (H9.out.dn _).g)))
                go_wp2
                go_roundg m1
                case measure => omega
                case rel => exact ⟨k + 1, cameG c t now p, by omega, by go_num, (H9.out.dn _).gs (fun i hi => by rw [HC.out]) (fun i hi => by rw [HC.out]) HOK.out (fun i hi => by rw [HC.out]; have := HFw.out i hi; omega)⟩
              | true =>
                obtain ⟨h0, h1⟩ := (has_iff t).1 HB.out
                obtain ⟨n, rfl⟩ : ∃ n : Nat, t = n := ⟨t.toNat, by omega⟩
                have hn16 : n < 16 := by omega
                clear h0 h1
                obtain ⟨C', hC'⟩ : ∃ C', C' = cameG c (n : Int) now p := ⟨_, rfl⟩
                rw [← hC'] at H9 HOK
                cases m with
                | true =>
                  have hle : c n ≤ now := by
                    have := HM.out
                    unfold mayG at this
                    rw [HB.out, Int.toNat_natCast, Bool.true_and, decide_eq_true_iff] at this
                    exact this
                  have hc2 := cameA p hn16 hle
                  rw [← hC'] at hc2
                  obtain ⟨pp, hpp⟩ : ∃ pp, per p = pp := ⟨_, rfl⟩
                  have HP := Lib.hid hpp
                  have hb1 : 1 ≤ pp ∧ pp ≤ 4096 := by rw [← hpp]; unfold per; omega
                  rw [hpp] at hc2
                  have HA := Lib.hid (show ∀ i, i < 16 → upd c n (now + pp) i = C' i from fun i _ => by rw [hc2])
                  have HD := Lib.hid (show ∀ i, i < 16 → c (16 + i) = C' (16 + i) from fun i _ => by rw [hc2]; unfold upd; rw [if_neg (by omega)])
                  have HK := Lib.hid (show okC C' ∧ ∀ i, i < 16 → C' (16 + i) ≤ (k + 1 : Nat) from ⟨HOK.out, fun i hi => by rw [← HD.out i hi]; have := HFw.out i hi; omega⟩)
                  have hcn0 := (H6.out.s.ok n).1
                  have hw : IntKind.i64.wrap (now + pp) = now + pp := by rw [IntKind.wrap_i64]; have := HNW.out; omega
                  have o03 := H9.out.box.cell 0 _ rfl
                  have o13 := H9.out.box.cell 1 _ rfl
                  have o23 := H9.out.box.cell 2 _ rfl
                  have fz := H9.out.a.frozen n
                  have cz := H9.out.a.cell n hn16
                  have hnI : (n : Int) < 16 := by omega
                  have hn0 : (0 : Int) ≤ (n : Int) := by omega
                  clear hpp hb1 hcn0 hc2 hle
                  go_upto_region 22 with fail
                  refine wp_region_g (fun w' => w'.cell? ⟨z, 0, none⟩ = some (.int .i64 (n : Nat)) ∧ w'.cell? ⟨z, 1, none⟩ = some (.int .i64 now) ∧ w'.cell? ⟨z, 2, none⟩ = some (.int .i64 p)) 9 (by kernel_rfl) ⟨o03, o13, o23⟩ (fun hS => ?_)
                  refine wpAnyG_take (i := 0) (oi := { dst := some 106, op := .fieldAddr 30 (.tmp 9) 0, type := 0, pos := "law.go:56", after := #[], guard := none }) (v := ?_) rfl (by kernel_rfl) (by kernel_rfl) (by kernel_rfl) (by kernel_rfl) (fun _ _ _ h => h) (Or.inl ⟨by rfl, ?_⟩) hS ?_
                  rotate_left 1
                  · intro w hw; obtain ⟨s0, s1, s2⟩ := hw; go_simp; try (with_reducible rfl)
                  simp only [Act.put, List.setIfInBounds_toArray, List.set_cons_zero, List.set_cons_succ]
                  refine wpAnyG_take (i := 1) (oi := { dst := some 107, op := .load 3 (.tmp 106), type := 3, pos := "law.go:56", after := #[{ on := 0, ground := .data }], guard := none }) (v := ?_) rfl (by kernel_rfl) (by kernel_rfl) (by kernel_rfl) (by kernel_rfl) (fun _ _ _ h => h) (Or.inl ⟨by rfl, ?_⟩) hS ?_
                  rotate_left 1
                  · intro w hw; obtain ⟨s0, s1, s2⟩ := hw; go_simp; try (with_reducible rfl)
                  simp only [Act.put, List.setIfInBounds_toArray, List.set_cons_zero, List.set_cons_succ]
                  refine wpAnyG_take (i := 2) (oi := { dst := some 108, op := .fieldAddr 30 (.tmp 9) 1, type := 0, pos := "law.go:56", after := #[], guard := none }) (v := ?_) rfl (by kernel_rfl) (by kernel_rfl) (by kernel_rfl) (by kernel_rfl) (fun _ _ _ h => h) (Or.inl ⟨by rfl, ?_⟩) hS ?_
                  rotate_left 1
                  · intro w hw; obtain ⟨s0, s1, s2⟩ := hw; go_simp; try (with_reducible rfl)
                  simp only [Act.put, List.setIfInBounds_toArray, List.set_cons_zero, List.set_cons_succ]
                  refine wpAnyG_take (i := 3) (oi := { dst := some 109, op := .load 3 (.tmp 108), type := 3, pos := "law.go:56", after := #[{ on := 2, ground := .data }], guard := none }) (v := ?_) rfl (by kernel_rfl) (by kernel_rfl) (by kernel_rfl) (by kernel_rfl) (fun _ _ _ h => h) (Or.inl ⟨by rfl, ?_⟩) hS ?_
                  rotate_left 1
                  · intro w hw; obtain ⟨s0, s1, s2⟩ := hw; go_simp; try (with_reducible rfl)
                  simp only [Act.put, List.setIfInBounds_toArray, List.set_cons_zero, List.set_cons_succ]
                  refine wpAnyG_take (i := 4) (oi := { dst := some 110, op := .fieldAddr 30 (.tmp 9) 2, type := 0, pos := "law.go:56", after := #[], guard := none }) (v := ?_) rfl (by kernel_rfl) (by kernel_rfl) (by kernel_rfl) (by kernel_rfl) (fun _ _ _ h => h) (Or.inl ⟨by rfl, ?_⟩) hS ?_
                  rotate_left 1
                  · intro w hw; obtain ⟨s0, s1, s2⟩ := hw; go_simp; try (with_reducible rfl)
                  simp only [Act.put, List.setIfInBounds_toArray, List.set_cons_zero, List.set_cons_succ]
                  refine wpAnyG_take (i := 5) (oi := { dst := some 111, op := .load 3 (.tmp 110), type := 3, pos := "law.go:56", after := #[{ on := 4, ground := .data }], guard := none }) (v := ?_) rfl (by kernel_rfl) (by kernel_rfl) (by kernel_rfl) (by kernel_rfl) (fun _ _ _ h => h) (Or.inl ⟨by rfl, ?_⟩) hS ?_
                  rotate_left 1
                  · intro w hw; obtain ⟨s0, s1, s2⟩ := hw; go_simp; try (with_reducible rfl)
                  simp only [Act.put, List.setIfInBounds_toArray, List.set_cons_zero, List.set_cons_succ]
                  refine wpAnyG_ready (rs := [6]) (by kernel_rfl) (by simp) (AllReadyG.cons (o := { dst := some 112, op := .call { callee := .value (.func 9), args := #[.tmp 111, .const (.int .i64 1), .const (.int .i64 4096)], argTypes := #[3, 3, 3] }, type := 3, pos := "law.go:56", after := #[{ on := 5, ground := .data }], guard := none }) rfl (fun K hK => ?_) AllReadyG.nil)
                  go_simp
                  go_at_call 9
                  refine (within_any _ _).mono ?_
                  rintro e w' ⟨rfl, rfl⟩
                  rw [HP.out]
                  try dsimp only
                  refine hK.out _ _ hS (fun hHeld => ?_)
                  clear hK K
                  try simp only [Act.put, List.setIfInBounds_toArray, List.set_cons_zero, List.set_cons_succ]
                  refine wpAnyG_take (i := 7) (oi := { dst := some 113, op := .binOp .add 3 (.tmp 109) (.tmp 112) 3, type := 3, pos := "law.go:56", after := #[{ on := 3, ground := .data }, { on := 6, ground := .data }], guard := none }) (v := ?_) rfl (by kernel_rfl) (by kernel_rfl) (by kernel_rfl) (by kernel_rfl) (fun _ _ _ h => h) (Or.inl ⟨by rfl, ?_⟩) hS ?_
                  rotate_left 1
                  · intro w hw; obtain ⟨s0, s1, s2⟩ := hw; go_simp; try (with_reducible rfl)
                  simp only [Act.put, List.setIfInBounds_toArray, List.set_cons_zero, List.set_cons_succ]
                  refine wpAnyG_take (i := 8) (oi := { dst := some 114, op := .indexAddr 26 (.tmp 6) (.tmp 107), type := 0, pos := "law.go:56", after := #[{ on := 1, ground := .data }, { on := 0, ground := .phase }, { on := 1, ground := .phase }, { on := 2, ground := .phase }, { on := 3, ground := .phase }, { on := 4, ground := .phase }, { on := 5, ground := .phase }, { on := 6, ground := .phase }, { on := 7, ground := .phase }], guard := none }) (v := ?_) rfl (by kernel_rfl) (by kernel_rfl) (by kernel_rfl) (by kernel_rfl) (fun _ _ _ h => h) (Or.inl ⟨by rfl, ?_⟩) hS ?_
                  rotate_left 1
                  · intro w hw; obtain ⟨s0, s1, s2⟩ := hw; go_simp; try (with_reducible rfl)
                  simp only [Act.put, List.setIfInBounds_toArray, List.set_cons_zero, List.set_cons_succ]
                  refine wpAnyG_ready (rs := [9]) (by kernel_rfl) (by simp) (AllReadyG.last (o := { dst := none, op := .store 3 (.tmp 114) (.tmp 113), type := 0, pos := "law.go:56", after := #[{ on := 8, ground := .data }, { on := 7, ground := .data }, { on := 6, ground := .chain }, { on := 0, ground := .phase }, { on := 1, ground := .phase }, { on := 2, ground := .phase }, { on := 3, ground := .phase }, { on := 4, ground := .phase }, { on := 5, ground := .phase }, { on := 6, ground := .phase }, { on := 7, ground := .phase }], guard := none }) rfl (fun K hK => ?_))
                  go_simp
                  refine hK.out _ _ ?_
                  clear hK K
                  try simp only [Act.put, List.setIfInBounds_toArray, List.set_cons_zero, List.set_cons_succ]
                  refine wpAnyG_done (by kernel_rfl) ?_ _
                  go_upto_region 23 with fail
                  generalize hw10 : World.drew _ = w10
                  have H10 := Lib.hid (show G10 w q C' (upd c n (now + pp)) (fun i => c (16 + i)) z (n : Int) now p w10 by rw [← hw10]; exact (H9.out.setA HQ0.out n (now + pp) hn16).dn 1)
                  clear hw10 fz cz o03 o13 o23 hw hnI hn0
                  obtain ⟨y, hy⟩ : ∃ y, C' (16 + n) = y := ⟨_, rfl⟩
                  obtain ⟨x, hx⟩ : ∃ x, C' n = x := ⟨_, rfl⟩
                  have f0 : w10.cell? ⟨q + 1, n, none⟩ = some (.int .i64 x) := by rw [← hx, ← HA.out n hn16]; exact H10.out.a.cell n hn16
                  have d0 : w10.cell? ⟨q + 2, n, none⟩ = some (.int .i64 y) := by rw [← hy, ← HD.out n hn16]; exact H10.out.d.cell n hn16
                  have p0 := H10.out.box.cell 0 _ rfl
                  have HF := Lib.hid (show ∀ wz, GAt wz q C' → Calls Tryd.prog 10 #[.pointer (some ⟨q, 0, none⟩), .int .i64 (n : Nat)] wz fun e w' => e = .returned (.int .i64 x) ∧ wz = w' from fun wz hz => by
                    have := from_any hz (n : Int); rw [fromN _ n hn16, hx] at this; exact this)
                  have HG := Lib.hid (show ∀ wz, GAt wz q C' → Calls Tryd.prog 11 #[.pointer (some ⟨q, 0, none⟩), .int .i64 (n : Nat)] wz fun e w' => e = .returned (.int .i64 y) ∧ wz = w' from fun wz hz => by
                    have := dropped_any hz (n : Int); rw [droppedN _ n hn16, hy] at this; exact this)
                  clear hx hy
                  go_upto_region 25 with fail
                  go_quiet (first
                    | (go_at_call 10; exact quietly (HF.out _ (H10.out.dn _).g))
                    | (go_at_call 11; exact quietly (HG.out _ (H10.out.dn _).g)))
                  go_wp2
                  go_roundg m1
                  case measure => omega
                  case rel => exact ⟨k + 1, C', by omega, by go_num, (H10.out.dn _).gs HA.out HD.out HK.out.1 HK.out.2⟩
                | false =>
                  have hle : ¬ c n ≤ now := by
                    have := HM.out
                    unfold mayG at this
                    rw [HB.out, Int.toNat_natCast, Bool.true_and, decide_eq_false_iff_not] at this
                    exact this
                  have hfn := HFw.out n hn16
                  have hc2 := cameB p hn16 hle (by have := HKN.out; omega)
                  rw [← hC'] at hc2
                  obtain ⟨v, hv⟩ : ∃ v, c (16 + n) = v := ⟨_, rfl⟩
                  rw [hv] at hc2 hfn
                  have HA := Lib.hid (show ∀ i, i < 16 → c i = C' i from fun i hi => by rw [hc2]; unfold upd; rw [if_neg (by omega)])
                  have HD := Lib.hid (show ∀ i, i < 16 → upd (fun i => c (16 + i)) n (v + 1) i = C' (16 + i) from fun i _ => by
                    rw [hc2]; unfold upd
                    by_cases e : i = n
                    · subst e; rw [if_pos rfl, if_pos rfl]
                    · rw [if_neg e, if_neg (by omega)])
                  have HK := Lib.hid (show okC C' ∧ ∀ i, i < 16 → C' (16 + i) ≤ (k + 1 : Nat) from ⟨HOK.out, fun i hi => by
                    rw [← HD.out i hi]; unfold upd
                    by_cases e : i = n
                    · rw [if_pos e]; omega
                    · rw [if_neg e]; have := HFw.out i hi; show c (16 + i) ≤ _; omega⟩)
                  have hv0 := (H6.out.s.ok (16 + n)).1
                  rw [hv] at hv0
                  have hw : IntKind.i64.wrap (v + 1) = v + 1 := by rw [IntKind.wrap_i64]; have := HKN.out; omega
                  have o03 := H9.out.box.cell 0 _ rfl
                  have fz := H9.out.d.frozen n
                  have cz := H9.out.d.cell n hn16
                  rw [hv] at cz
                  have hnI : (n : Int) < 16 := by omega
                  have hn0 : (0 : Int) ≤ (n : Int) := by omega
                  clear hc2 hle hfn hv0 hv
                  go_upto_region 25 with fail
                  generalize hw10 : World.setCell _ _ _ = w10
                  have H10 := Lib.hid (show G10 w q C' c (upd (fun i => c (16 + i)) n (v + 1)) z (n : Int) now p w10 by rw [← hw10]; exact H9.out.setD HQ0.out n (v + 1) hn16)
                  clear hw10 fz cz o03 hw hnI hn0
                  obtain ⟨y, hy⟩ : ∃ y, C' (16 + n) = y := ⟨_, rfl⟩
                  obtain ⟨x, hx⟩ : ∃ x, C' n = x := ⟨_, rfl⟩
                  have f0 : w10.cell? ⟨q + 1, n, none⟩ = some (.int .i64 x) := by rw [← hx, ← HA.out n hn16]; exact H10.out.a.cell n hn16
                  have d0 : w10.cell? ⟨q + 2, n, none⟩ = some (.int .i64 y) := by rw [← hy, ← HD.out n hn16]; exact H10.out.d.cell n hn16
                  have p0 := H10.out.box.cell 0 _ rfl
                  have HF := Lib.hid (show ∀ wz, GAt wz q C' → Calls Tryd.prog 10 #[.pointer (some ⟨q, 0, none⟩), .int .i64 (n : Nat)] wz fun e w' => e = .returned (.int .i64 x) ∧ wz = w' from fun wz hz => by
                    have := from_any hz (n : Int); rw [fromN _ n hn16, hx] at this; exact this)
                  have HG := Lib.hid (show ∀ wz, GAt wz q C' → Calls Tryd.prog 11 #[.pointer (some ⟨q, 0, none⟩), .int .i64 (n : Nat)] wz fun e w' => e = .returned (.int .i64 y) ∧ wz = w' from fun wz hz => by
                    have := dropped_any hz (n : Int); rw [droppedN _ n hn16, hy] at this; exact this)
                  clear hx hy
                  go_upto_region 25 with fail
                  go_quiet (first
                    | (go_at_call 10; exact quietly (HF.out _ (H10.out.dn _).g))
                    | (go_at_call 11; exact quietly (HG.out _ (H10.out.dn _).g)))
                  go_wp2
                  go_roundg m1
                  case measure => omega
                  case rel => exact ⟨k + 1, C', by omega, by go_num, (H10.out.dn _).gs HA.out HD.out HK.out.1 HK.out.2⟩
end Go.Proofs.YtdfknobohgncaaaDoor
