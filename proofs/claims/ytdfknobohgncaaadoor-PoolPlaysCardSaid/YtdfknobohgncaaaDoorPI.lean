/- The walk of PoolPlays. -/
import Derived.Test.YtdfknobohgncaaaDoorPH
import Derived.Deep.CutRange
import Derived.Deep.CutBlock
import Derived.BigQuiet
import Derived.Deep.QuietTactic
namespace Go.Proofs.YtdfknobohgncaaaDoor
open Go.RowKit

/-- A call of the law's, and where calls lie. -/
def opP (O : List (Bool × Bool × Int × Int × Int)) (k : Nat) : Bool × Bool × Int × Int × Int := O.getD k (false, false, 0, 0, 0)
def OpsP (w : World) (sp : Option Addr) (b off : Nat) (O : List (Bool × Bool × Int × Int × Int)) : Prop := (0 < O.length → sp = some ⟨b, off, none⟩ ∧ b < w.heap.size) ∧
  ∀ k, k < O.length → w.cell? ⟨b, off + k * 5, none⟩ = some (.bool (opP O k).1) ∧ w.cell? ⟨b, off + k * 5 + 1, none⟩ = some (.bool (opP O k).2.1) ∧ w.cell? ⟨b, off + k * 5 + 2, none⟩ = some (.int .i64 (opP O k).2.2.1) ∧ w.cell? ⟨b, off + k * 5 + 3, none⟩ = some (.int .i64 (opP O k).2.2.2.1) ∧ w.cell? ⟨b, off + k * 5 + 4, none⟩ = some (.int .i64 (opP O k).2.2.2.2)
/-- And the reference that is looked at. -/
structure PZ (w0 : World) (q G : Nat) (F U : BitVec 32) (g : Nat → Int) (lo : Int) (ga : Nat → Int) (dv : Nat → Bool) (v : Value) (got : List (Int × Int)) (z : Nat) (b y : Int) (w : World) : Prop where
  x : PX w0 q G F U g lo ga dv v got w
  box : BoxAt w z [.int .i64 b, .int .i64 y]
  zG : G + 2 ≤ z
  zr : ∀ j, v.ownBlock = some j → j ≠ z
section
variable {w0 w w' : World} {q G z : Nat} {F U F' U' : BitVec 32} {g g' ga : Nat → Int} {lo lo' b y : Int} {dv : Nat → Bool} {v v' : Value} {got : List (Int × Int)}
theorem PZ.new (h : PZ w0 q G F U g lo ga dv v got z b y w) (hb : Below w.heap.size w w') : PZ w0 q G F U g lo ga dv v got z b y w' := ⟨h.x.new hb, h.box.new hb, h.zG, h.zr⟩
theorem PZ.dn (h : PZ w0 q G F U g lo ga dv v got z b y w) (n : Nat) : PZ w0 q G F U g lo ga dv v got z b y (w.drewN n) := h.new (below_dn (Below.refl _ _) n)
theorem PZ.pool (h : PZ w0 q G F U g lo ga dv v got z b y w) (h0 : 0 < q) (hc : Ch (fun j => j = q) w w') (hp : PAt w' q F' U' g' lo') : PZ w0 q G F' U' g' lo' ga dv v got z b y w' :=
  ⟨h.x.pool h0 hc hp, h.box.keep hc (by have := h.zG; have := h.x.qG; omega), h.zG, h.zr⟩
theorem PZ.setA (h : PZ w0 q G F U g lo ga dv v got z b y w) (h0 : 0 < q) (n : Nat) (x : Int) (hn : n < 32) : PZ w0 q G F U g lo (upd ga n x) dv v got z b y (w.setCell ⟨G, n, none⟩ (.int .i64 x)) :=
  ⟨h.x.setA h0 n x hn, h.box.other ⟨G, n, none⟩ _ (by have := h.zG; show G ≠ z; omega), h.zG, h.zr⟩
theorem PZ.setD (h : PZ w0 q G F U g lo ga dv v got z b y w) (h0 : 0 < q) (n : Nat) (x : Bool) (hn : n < 32) : PZ w0 q G F U g lo ga (updB dv n x) v got z b y (w.setCell ⟨G + 1, n, none⟩ (.bool x)) :=
  ⟨h.x.setD h0 n x hn, h.box.other ⟨G + 1, n, none⟩ _ (by have := h.zG; show G + 1 ≠ z; omega), h.zG, h.zr⟩
end
/-- An element of an owned row of pairs. -/
theorem own_pairs {w : World} {base : Nat} {v : Value} {n : Nat} {l : List (Int × Int)} (h : w.ownsRow base 50 2 v n (prow l)) (hn : n = l.length) (h0 : 0 < n) :
    ∃ g cap, v = .slice (some ⟨g, 0, none⟩) n cap ∧ base ≤ g ∧ g < w.heap.size ∧ ∀ k, k < n → w.cell? ⟨g, 2 * k, none⟩ = some (.int .i64 (pth l k).1) ∧ w.cell? ⟨g, 2 * k + 1, none⟩ = some (.int .i64 (pth l k).2) := by
  rcases h.2 with ⟨rfl, hh⟩ | ⟨g, cap, cur, rfl, _⟩
  · omega
  · have hl := h.lt g rfl
    refine ⟨g, cap, rfl, hl.1, hl.2, fun k hk => ?_⟩
    have hp := prow_at l k (by omega)
    have hlen := prow_len l
    exact ⟨(h.cellAt (2 * k) (by omega)).trans hp.1, (h.cellAt (2 * k + 1) (by omega)).trans hp.2⟩
theorem mod32 (t : Int) (h0 : 0 ≤ t) (h1 : t < 32) : t.tmod 32 = t ∧ (t + 32) % 32 = t := by
  rw [Int.tmod_eq_emod_of_nonneg h0]; omega
theorem all_free : ∀ n : Fin 33, (lst (fst (n.val : Int)) 32).length = n.val := by decide +kernel
theorem gs46_zero : (gs c0).toArray = #[.int .i64 0, .int .i64 0, .int .i64 0, .int .i64 0, .int .i64 0, .int .i64 0, .int .i64 0, .int .i64 0, .int .i64 0, .int .i64 0, .int .i64 0, .int .i64 0, .int .i64 0, .int .i64 0, .int .i64 0, .int .i64 0, .int .i64 0, .int .i64 0, .int .i64 0, .int .i64 0, .int .i64 0, .int .i64 0, .int .i64 0, .int .i64 0, .int .i64 0, .int .i64 0, .int .i64 0, .int .i64 0, .int .i64 0, .int .i64 0, .int .i64 0, .int .i64 0] := gs_zero
theorem rB_zero : (rB (0#32).getLsbD).toArray = #[.bool false, .bool false, .bool false, .bool false, .bool false, .bool false, .bool false, .bool false, .bool false, .bool false, .bool false, .bool false, .bool false, .bool false, .bool false, .bool false, .bool false, .bool false, .bool false, .bool false, .bool false, .bool false, .bool false, .bool false, .bool false, .bool false, .bool false, .bool false, .bool false, .bool false, .bool false, .bool false] := by kernel_rfl
theorem PC.zero (m : Int) : PC m 0 0#32 c0 [] := ⟨fun i _ h => by simp at h, fun i _ => by unfold c0; omega, by simp⟩

set_option maxHeartbeats 16000000 in
set_option maxRecDepth 100000 in
theorem law_pool (m : Int) (sp : Option Addr) (b off cap : Nat) (O : List (Bool × Bool × Int × Int × Int)) (w : World) (ht : Tab w) (hlen : O.length ≤ 9223372036854775807) (hO : OpsP w sp b off O) :
    Calls Tryd.prog 4 #[.int .i64 m, .slice sp O.length cap] w fun e w' => e = .returned (.bool true) ∧ Below w.heap.size w w' := by
  obtain ⟨i0, hi, hz0, hz1, hz2⟩ := info_parts info50
  by_cases hn : O.length ≤ 200
  case neg =>
    have d2 : (200 : Int) < (O.length : Int) := by omega
    clear hO
    go_enter Tryd.func4, Tryd.ntmps4
    go_wp2
    go_ret
    exact ⟨rfl, Below.refl _ _⟩
  have d1 : ¬ (200 : Int) < (O.length : Int) := by omega
  have HO := Lib.hid hO
  have HT := Lib.hid ht
  obtain ⟨NN, hN⟩ : ∃ N, N = O.length := ⟨_, rfl⟩
  have HN := Lib.hid hN
  rw [← hN] at hn d1 hlen ⊢
  clear hO hN ht
  by_cases hm : m < 1 ∨ 32 < m
  case pos =>
    have HNw := Lib.hid (new_none m hm w)
    have HAl := Lib.hid (palive_any w HT.out)
    rcases hm with hm | hm
    · go_enter Tryd.func4, Tryd.ntmps4
      go_wp2_with (first
        | (go_at_call 13; refine HNw.out.mono ?_; rintro e w1 ⟨rfl, rfl⟩)
        | (go_at_call 14; refine HAl.out.mono ?_; rintro e w1 ⟨rfl, b1⟩; have HB := Lib.hid b1; clear b1)
        | fail)
      go_ret
      exact ⟨rfl, HB.out⟩
    · have hm1 : ¬ m < 1 := by omega
      go_enter Tryd.func4, Tryd.ntmps4
      go_wp2_with (first
        | (go_at_call 13; refine HNw.out.mono ?_; rintro e w1 ⟨rfl, rfl⟩)
        | (go_at_call 14; refine HAl.out.mono ?_; rintro e w1 ⟨rfl, b1⟩; have HB := Lib.hid b1; clear b1)
        | fail)
      go_ret
      exact ⟨rfl, HB.out⟩
  have hm1 : 1 ≤ m := by omega
  have hm2 : m ≤ 32 := by omega
  have HMM := Lib.hid (And.intro hm1 hm2)
  have HNw := Lib.hid (new_some m hm1 hm2 w)
  obtain ⟨q, hq⟩ : ∃ q, q = w.heap.size := ⟨_, rfl⟩
  have HQ := Lib.hid hq
  have HQ0 := Lib.hid (show 0 < q by rw [hq]; exact HT.out.pos)
  clear hm
  go_enter Tryd.func4, Tryd.ntmps4
  go_upto_region 6 with (go_at_call 13; refine HNw.out.mono ?_; rintro e w1 ⟨rfl, p1, b1⟩; rw [← hq] at p1 b1; have H1 := Lib.hid (And.intro p1 b1); clear p1 b1)
  rw [← hq]
  clear hq
  go_upto_region 10 with fail
  obtain ⟨G, hG⟩ : ∃ G, G = w1.heap.size := ⟨_, rfl⟩
  obtain ⟨w2, hw2⟩ : ∃ w2, w2 = w1.alloc (.cells #[.int .i64 0, .int .i64 0, .int .i64 0, .int .i64 0, .int .i64 0, .int .i64 0, .int .i64 0, .int .i64 0, .int .i64 0, .int .i64 0, .int .i64 0, .int .i64 0, .int .i64 0, .int .i64 0, .int .i64 0, .int .i64 0, .int .i64 0, .int .i64 0, .int .i64 0, .int .i64 0, .int .i64 0, .int .i64 0, .int .i64 0, .int .i64 0, .int .i64 0, .int .i64 0, .int .i64 0, .int .i64 0, .int .i64 0, .int .i64 0, .int .i64 0, .int .i64 0] 46) := ⟨_, rfl⟩
  obtain ⟨w3, hw3⟩ : ∃ w3, w3 = w2.alloc (.cells #[.bool false, .bool false, .bool false, .bool false, .bool false, .bool false, .bool false, .bool false, .bool false, .bool false, .bool false, .bool false, .bool false, .bool false, .bool false, .bool false, .bool false, .bool false, .bool false, .bool false, .bool false, .bool false, .bool false, .bool false, .bool false, .bool false, .bool false, .bool false, .bool false, .bool false, .bool false, .bool false] 47) := ⟨_, rfl⟩
  have s2 : w2.heap.size = G + 1 := by rw [hw2, World.size_alloc, hG]
  have b12 : Below w1.heap.size w1 w2 := by rw [hw2]; exact (Below.refl _ _).alloc (Nat.le_refl _) _
  have b23 : Below w2.heap.size w2 w3 := by rw [hw3]; exact (Below.refl _ _).alloc (Nat.le_refl _) _
  have H3 := Lib.hid (show PX w q G (fr m 0#32) 0#32 c0 m c0 (0#32).getLsbD (.slice none 0 0) [] w3 ∧ PC m 0 0#32 c0 [] from by
    have hqG : q < G := by rw [hG]; exact H1.out.1.lt
    have bw : Below q w w3 := (H1.out.2.trans (b12.mono (by omega))).trans (b23.mono (by omega))
    refine ⟨⟨by rw [fr_zero]; exact (H1.out.1.new b12).new b23, ?_, ?_, World.ownsRow_nil _ _ _ _, bw, hqG, by rw [hw3, World.size_alloc, s2]; exact Nat.le_refl _, HT.out.below HQ0.out bw⟩, PC.zero m⟩
    · rw [b23.block G (by omega), gs46_zero, hw2, hG]; exact heap_alloc_new w1 _
    · rw [rB_zero, hw3, ← s2]; exact heap_alloc_new w2 _)
  have HL0 := Lib.hid (show (lst (fr m 0#32) 32).length = m.toNat from by
    have := all_free ⟨m.toNat, by omega⟩
    rw [fr_zero]
    rw [show ((⟨m.toNat, by omega⟩ : Fin 33).val : Int) = m from by show ((m.toNat : Nat) : Int) = m; omega] at this
    exact this)
  rw [← hw2, ← hw3, ← hG]
  clear hw2 hw3 b12 b23 s2 hG
  go_wp2
  go_loopg [9, 10, 11, 12] NN (fun gh s9 s10 s11 s12 wr => ∃ (k : Nat) (U : BitVec 32) (g : Nat → Int) (lo : Int) (got : List (Int × Int)), k + gh = NN ∧ s9 = .int .i64 ((lst (fr m U) 32).length : Nat) ∧ s10 = .int .i64 lo ∧ s12 = .int .i64 k ∧ Aside (PX w q G (fr m U) U g lo g U.getLsbD s11 got wr ∧ PC m k U g got))
  case atStart => exact ⟨0, 0#32, c0, m, [], by omega, by rw [HL0.out]; have := HMM.out; congr 1; omega, rfl, rfl, H3.out⟩
  case round =>
    obtain ⟨k, U, g, lo, got, hkg, rfl, rfl, rfl, HR⟩ := hrel
    obtain ⟨sg, cg, rfl⟩ := own_val HR.out.1.row
    cases gk with
    | zero => as_aux_lemma =>
      obtain rfl : k = NN := by omega
      obtain ⟨M, hM⟩ : ∃ M : Nat, m = (M : Int) := ⟨m.toNat, by omega⟩
      subst hM
      have hM32 : M ≤ 32 := by omega
      have HSb := Lib.hid HR.out.2.sub
      go_upto_region 45 with (go_at_call 20; refine (out_any HR.out.1.p HR.out.1.tab).mono ?_; rintro e w4 ⟨v4, rfl, hown, b4⟩; have H4 := Lib.hid (And.intro (HR.out.1.new b4) (own_mono hown (Nat.zero_le _))); clear hown b4)
      obtain ⟨so, co, rfl⟩ := own_val H4.out.2
      go_wp2
      go_loopg [20, 21] M (fun gh s20 s21 wx => ∃ j : Nat, j + gh = M ∧ s20 = .int .i64 ((lst U j).length : Nat) ∧ s21 = .int .i64 (j : Nat) ∧ Aside (∃ n, wx = w4.drewN n))
      case atStart => exact ⟨0, by omega, rfl, rfl, 0, rfl⟩
      case round =>
        obtain ⟨j, hjM, rfl, rfl, hww⟩ := hrel
        obtain ⟨nd, hnd⟩ := hww.out
        clear hww
        cases gk with
        | zero =>
          obtain rfl : j = M := by omega
          have hall : lst U j = lst U 32 := (lst_all U j (fun i h1 h2 => by have := HSb.out i h1 h2; omega) 32 (Nat.le_refl _) hM32).symm
          rw [hall]
          have H5 := Lib.hid (show PX w q G (fr (j : Int) U) U g lo g U.getLsbD (.slice sg got.length cg) got wr from by rw [hnd]; exact H4.out.1.dn nd)
          clear hall hnd
          go_wp2_with (first
            | (go_at_call 18; refine (free_any H5.out.p).mono ?_; rintro e w6 ⟨rfl, b6⟩; have H6 := Lib.hid (H5.out.new b6); clear b6)
            | (go_at_call 19; refine (low_any H6.out.p).mono ?_; rintro e w7 ⟨rfl, rfl⟩)
            | (go_at_call 14; refine (palive_any _ H6.out.tab).mono ?_; rintro e w8 ⟨rfl, b8⟩; have H8 := Lib.hid (H6.out.new b8); clear b8)
            | fail)
          go_ret
          exact ⟨rfl, by rw [← HQ.out]; exact H8.out.below⟩
        | succ g2 =>
          have hjm : j < M := by omega
          have hjmI : (j : Int) < (M : Int) := by omega
          have hj32 : j < 32 := by omega
          have hjI : (j : Int) < 32 := by omega
          have hj0 : (0 : Int) ≤ (j : Int) := by omega
          have H5 := Lib.hid (show PX w q G (fr (M : Int) U) U g lo g U.getLsbD (.slice sg got.length cg) got wr ∧ wr.ownsRow 0 50 2 (.slice so (lst U 32).length co) (lst U 32).length (prow (outP U g)) from by rw [hnd]; exact ⟨H4.out.1.dn nd, own_below H4.out.2 (below_dn (Below.refl _ _) nd) (Nat.le_refl _)⟩)
          have HND := Lib.hid hnd
          have cd := H5.out.1.cd j hj32
          have hls := lst_succ U j
          clear hnd
          cases hu : U.getLsbD j with
          | false =>
            rw [hu] at cd hls
            have HLS := Lib.hid (show lst U (j + 1) = lst U j from hls)
            clear hu hls
            go_wp2
            go_roundg g2
            case measure => omega
            case rel => exact ⟨j + 1, by omega, by rw [HLS.out], by go_num, nd, HND.out⟩
          | true =>
            obtain ⟨hlt1, hpt⟩ := out_nth U g j hj32 hu
            rw [hu] at cd hls
            have HLS := Lib.hid (show lst U (j + 1) = lst U j ++ [j] from hls)
            obtain ⟨gb, cgo, hv, _, hgb2, hgc⟩ := own_pairs H5.out.2 (outP_len U g).symm (by omega)
            injection hv with hv1 hv2 hv3
            subst hv1
            obtain ⟨c1', c2'⟩ := hgc _ hlt1
            rw [hpt] at c1' c2'
            rw [Nat.mul_comm] at c1' c2'
            have an := H5.out.1.ca j hj32
            obtain ⟨x, hx⟩ : ∃ x, g j = x := ⟨_, rfl⟩
            rw [hx] at an c2'
            obtain ⟨c, hc⟩ : ∃ c, (lst U j).length = c := ⟨_, rfl⟩
            have HC := Lib.hid hc
            have hc32 : c ≤ 32 := by rw [← hc]; have := lst_len U j; omega
            rw [hc] at hlt1 c1' c2' ⊢
            have hdI : decide (((lst U 32).length : Int) ≤ (c : Int)) = false := by simp; omega
            have hdN : decide ((lst U 32).length ≤ c) = false := by simp; omega
            have hltI : (c : Int) < ((lst U 32).length : Int) := by omega
            have hc0 : (0 : Int) ≤ (c : Int) := by omega
            have hw : IntKind.i64.wrap ((c : Int) + 1) = (c : Int) + 1 := by rw [IntKind.wrap_i64]; omega
            clear hu hls hv2 hv3 hgc hpt hx hc
            go_wp2
            go_quiet (fail)
            go_wp2
            go_roundg g2
            case measure => omega
            case rel => exact ⟨j + 1, by omega, by rw [HLS.out, List.length_append, HC.out]; rfl, by go_num, nd + nq, by rw [HND.out, World.drewN_drewN]⟩
    | succ m1 =>
      have hlt : k < NN := by omega
      have hki : (k : Int) < (NN : Int) := by omega
      have hk0 : (0 : Int) ≤ (k : Int) := by omega
      obtain ⟨rfl, hbl⟩ := HO.out.1 (by rw [← HN.out]; omega)
      obtain ⟨p0, p1, p2, p3, p4⟩ := HO.out.2 k (by rw [← HN.out]; exact hlt)
      obtain ⟨op, hop⟩ : ∃ o, opP O k = o := ⟨_, rfl⟩
      obtain ⟨put, raw, at_, rb, ry⟩ := op
      rw [hop] at p0 p1 p2 p3 p4
      have hbq : b < q := by rw [HQ.out]; exact hbl
      have HE := Lib.hid (show ∀ W', Below q w W' → W'.cell? ⟨b, off + k * 5, none⟩ = some (.bool put) ∧ W'.cell? ⟨b, off + k * 5 + 1, none⟩ = some (.bool raw) ∧ W'.cell? ⟨b, off + k * 5 + 2, none⟩ = some (.int .i64 at_) ∧ W'.cell? ⟨b, off + k * 5 + 3, none⟩ = some (.int .i64 rb) ∧ W'.cell? ⟨b, off + k * 5 + 4, none⟩ = some (.int .i64 ry) from
        fun W' hb => ⟨(hb.cell (p := ⟨b, off + k * 5, none⟩) hbq).trans p0, (hb.cell (p := ⟨b, off + k * 5 + 1, none⟩) hbq).trans p1, (hb.cell (p := ⟨b, off + k * 5 + 2, none⟩) hbq).trans p2, (hb.cell (p := ⟨b, off + k * 5 + 3, none⟩) hbq).trans p3, (hb.cell (p := ⟨b, off + k * 5 + 4, none⟩) hbq).trans p4⟩)
      obtain ⟨-, -, -, e3, e4⟩ := HE.out wr HR.out.1.below
      obtain ⟨z, hz⟩ : ∃ z, z = wr.heap.size := ⟨_, rfl⟩
      obtain ⟨w5, hw5⟩ : ∃ w5, w5 = wr.alloc (.cells #[.int .i64 rb, .int .i64 ry] 50) := ⟨_, rfl⟩
      have H5 := Lib.hid (show PZ w q G (fr m U) U g lo g U.getLsbD (.slice sg got.length cg) got z rb ry w5 from
        ⟨HR.out.1.new (by rw [hw5]; exact (Below.refl _ _).alloc (Nat.le_refl _) _), by rw [hw5, hz]; exact BoxAt.mk_new wr _ _, by rw [hz]; exact HR.out.1.size, fun j hj => by have := (HR.out.1.rowG j hj).2; omega⟩)
      clear p0 p1 p2 p3 p4 hop hbl
      go_upto_region 16 with fail
      rw [← hw5, ← hz]
      clear hw5 hz e3 e4
      go_cut [74] from 53 to 206 (fun s74 wx => s74 = .bool (!raw && decide (0 < got.length)) ∧ Aside (PZ w q G (fr m U) U g lo g U.getLsbD (.slice sg got.length cg) got z rb ry wx))
      case first => as_aux_lemma =>
        obtain ⟨-, e1, -, -, -⟩ := HE.out w5 H5.out.x.below
        cases raw with
        | true =>
          go_wp2
          go_meet
          case rel => exact ⟨rfl, H5.out⟩
        | false =>
          by_cases hg0 : 0 < got.length
          · have hg1 : (0 : Int) < (got.length : Int) := by omega
            have HD := Lib.hid (decide_eq_true hg0)
            clear hg0
            go_wp2
            go_meet
            case rel => exact ⟨by rw [HD.out]; rfl, H5.out⟩
          · have hg1 : ¬ (0 : Int) < (got.length : Int) := by omega
            have HD := Lib.hid (decide_eq_false hg0)
            clear hg0
            go_wp2
            go_meet
            case rel => exact ⟨by rw [HD.out]; rfl, H5.out⟩
      case rest =>
        obtain ⟨rfl, HX0⟩ := hcut
        have HX := Lib.hid HX0.out
        clear H5 HX0
        go_upto_if 74 with fail
        go_cut [] from 53 to 206 (fun wx => ∃ b' y' : Int, Aside (PZ w q G (fr m U) U g lo g U.getLsbD (.slice sg got.length cg) got z b' y' wx))
        case first => as_aux_lemma =>
          obtain ⟨-, -, e2, -, -⟩ := HE.out _ HX.out.x.below
          by_cases hc : raw = false ∧ 0 < got.length
          · obtain ⟨rfl, hg0⟩ := hc
            obtain ⟨gb, cg', hv, hgb1, hgb2, hgc⟩ := own_pairs HX.out.x.row rfl hg0
            injection hv with hv1 hv2 hv3
            subst hv1
            have HD := Lib.hid (decide_eq_true hg0)
            have HGC := Lib.hid hgc
            have HGZ := Lib.hid (HX.out.zr gb rfl)
            obtain ⟨L, hL⟩ : ∃ L, got.length = L := ⟨_, rfl⟩
            rw [hL] at hg0
            have hLI : (0 : Int) < (L : Int) := by omega
            obtain ⟨x, hx⟩ : ∃ x, at_.tmod (L : Int) = x := ⟨_, rfl⟩
            have hx1 : -(L : Int) < x := by rw [← hx]; exact Int.lt_tmod_of_pos at_ hLI
            have hx2 : x < (L : Int) := by rw [← hx]; exact Int.tmod_lt_of_pos at_ hLI
            have hLb : L ≤ 200 := by rw [← hL]; have := HR.out.2.gl; omega
            have hw : wrap64 (x + (L : Int)) = x + (L : Int) := by simp only [wrap64]; omega
            obtain ⟨j, hj⟩ : ∃ j : Nat, (x + (L : Int)).tmod (L : Int) = j := ⟨((x + (L : Int)).tmod (L : Int)).toNat, by
              have := Int.tmod_nonneg (L : Int) (show 0 ≤ x + (L : Int) by omega)
              omega⟩
            have hjL : (j : Int) < (L : Int) := by rw [← hj]; exact Int.tmod_lt_of_pos _ hLI
            have hjN : j < L := by omega
            obtain ⟨c0', c1'⟩ := HGC.out j (by rw [hL]; exact hjN)
            rw [Nat.mul_comm] at c0' c1'
            obtain ⟨b', hb'⟩ : ∃ t, (pth got j).1 = t := ⟨_, rfl⟩
            obtain ⟨y', hy'⟩ : ∃ t, (pth got j).2 = t := ⟨_, rfl⟩
            rw [hb'] at c0'; rw [hy'] at c1'
            have z0 := HX.out.box.cell 0 _ rfl
            have z1 := HX.out.box.cell 1 _ rfl
            have fz0 := HX.out.box.fr 0
            have fz1 := HX.out.box.fr 1
            have HL := Lib.hid hL
            rw [HD.out, hL]
            clear hgc hv2 hv3 HD hb' hy' hL
            go_wp2
            rw [← HL.out]
            go_meet
            case rel =>
              have hc : Ch (fun i => i = z) wc ((wc.setCell ⟨z, 0, none⟩ (.int .i64 b')).setCell ⟨z, 1, none⟩ (.int .i64 y')) := ((Ch.refl (fun i => i = z) wc).setCell ⟨z, 0, none⟩ _ (.inl rfl)).setCell ⟨z, 1, none⟩ _ (.inl rfl)
              have hzG := HX.out.zG
              have hqG := HX.out.x.qG
              refine ⟨b', y', ?_⟩
              exact ⟨HX.out.x.ch hc HQ0.out (fun i hi => by omega) (fun i hi => ⟨by omega, by omega, fun e => HX.out.zr i e hi⟩) (HX.out.x.p.keep hc (by omega)), (HX.out.box.set 0 (.int .i64 b') (by simp)).set 1 (.int .i64 y') (by simp), hzG, HX.out.zr⟩
          · have hcf : (!raw && decide (0 < got.length)) = false := by
              cases raw
              · simp at hc ⊢; exact hc
              · rfl
            rw [hcf]
            go_wp2
            go_meet
            case rel => exact ⟨rb, ry, HX.out⟩
        case rest =>
          obtain ⟨b', y', HY0⟩ := hcut
          have HY := Lib.hid HY0.out
          clear HX HY0
          go_upto_region 18 with fail
          go_cut [14] from 53 to 206 (fun s14 wx => s14 = .bool (good U g b' y') ∧ Aside (PZ w q G (fr m U) U g lo g U.getLsbD (.slice sg got.length cg) got z b' y' wx))
          case first => as_aux_lemma =>
            have o0 := HY.out.box.cell 0 _ rfl
            have o1 := HY.out.box.cell 1 _ rfl
            by_cases hb0 : b' < 0
            · have HG := Lib.hid (good_neg U g b' y' hb0)
              have hd : decide (0 ≤ b') = false := by simp; omega
              go_quiet (fail)
              go_wp2
              go_meet
              case rel => exact ⟨by rw [HG.out], HY.out.dn _⟩
            · have hb1 : 0 ≤ b' := by omega
              have hd : decide (0 ≤ b') = true := decide_eq_true hb1
              by_cases hbm : b' < m
              · obtain ⟨n, rfl⟩ : ∃ n : Nat, b' = n := ⟨b'.toNat, by omega⟩
                have hn32 : n < 32 := by omega
                have hd2 : decide ((n : Int) < m) = true := decide_eq_true hbm
                obtain ⟨m1', m2'⟩ := mod32 (n : Int) hb1 (by omega)
                have HG := Lib.hid (good_in U g n y' hn32)
                have dn := HY.out.x.cd n hn32
                have an := HY.out.x.ca n hn32
                obtain ⟨x, hx⟩ : ∃ x, g n = x := ⟨_, rfl⟩
                rw [hx] at an HG
                cases hu : U.getLsbD n with
                | false =>
                  rw [hu] at dn HG
                  clear hu hx
                  go_quiet (fail)
                  go_wp2
                  go_meet
                  case rel => exact ⟨by rw [HG.out]; rfl, HY.out.dn _⟩
                | true =>
                  rw [hu] at dn HG
                  clear hu hx
                  go_quiet (fail)
                  go_wp2
                  go_meet
                  case rel => exact ⟨by rw [HG.out]; congr 1; rw [Bool.eq_iff_iff]; simp; exact eq_comm, HY.out.dn _⟩
              · have HG := Lib.hid (good_ge (m := m) U g b' y' HR.out.2.sub (by omega))
                have hd2 : decide (b' < m) = false := decide_eq_false hbm
                go_quiet (fail)
                go_wp2
                go_meet
                case rel => exact ⟨by rw [HG.out], HY.out.dn _⟩
          case rest =>
            obtain ⟨rfl, HY1⟩ := hcut
            have HZ := Lib.hid HY1.out
            clear HY HY1
            obtain ⟨gd, hgd⟩ : ∃ x, good U g b' y' = x := ⟨_, rfl⟩
            rw [hgd]
            have HGD := Lib.hid hgd
            have o0 := HZ.out.box.cell 0 _ rfl
            have o1 := HZ.out.box.cell 1 _ rfl
            have hL32 := lst_len (fr m U) 32
            clear hgd
            go_upto_region 21 with (go_at_call 15; refine (good_any HZ.out.x.p b' y').mono ?_; rintro e w6 ⟨rfl, b6⟩; rw [HGD.out]; have H6 := Lib.hid (HZ.out.new b6); clear b6)
            obtain ⟨e0, -, -, -, -⟩ := HE.out w6 H6.out.x.below
            have q0 := H6.out.box.cell 0 _ rfl
            have q1 := H6.out.box.cell 1 _ rfl
            clear o0 o1
            cases put with
            | true => as_aux_lemma =>
              cases gd with
              | true =>
                obtain ⟨n, rfl, hn32, hnm, hU⟩ := good_out HR.out.2.sub HGD.out
                have fd := H6.out.x.fd n
                have cd := H6.out.x.cd n hn32
                have hnI : (n : Int) < 32 := by omega
                have hn0 : (0 : Int) ≤ (n : Int) := by omega
                have HC := Lib.hid (cnt_put m U n hn32 hnm hU)
                have HFP := Lib.hid (fr_put m U n hnm)
                obtain ⟨L, hL⟩ : ∃ L, (lst (fr m U) 32).length = L := ⟨_, rfl⟩
                rw [hL] at HC hL32 ⊢
                have hw : IntKind.i64.wrap ((L : Int) + 1) = (L : Int) + 1 := by rw [IntKind.wrap_i64]; omega
                clear hL hU hnm
                go_upto_region 27 with fail
                generalize hw7 : World.setCell _ _ _ = w7
                have H7 := Lib.hid (show PZ w q G (fr m U) U g lo g (updB U.getLsbD n false) (.slice sg got.length cg) got z (n : Int) y' w7 by rw [← hw7]; exact H6.out.setD HQ0.out n false hn32)
                have r0 := H7.out.box.cell 0 _ rfl
                have r1 := H7.out.box.cell 1 _ rfl
                clear hw7 q0 q1 fd cd
                go_wp2_with (first
                  | (go_at_call 16; refine (put_good H7.out.x.p n y' HGD.out).mono ?_; rintro e w8 ⟨rfl, p8, c8⟩; have H8 := Lib.hid (H7.out.pool HQ0.out c8 p8); have t0 := H8.out.box.cell 0 _ rfl; have t1 := H8.out.box.cell 1 _ rfl; clear p8 c8)
                  | (go_at_call 15; refine (good_any H8.out.x.p n y').mono ?_; rintro e w9 ⟨rfl, b9⟩; rw [good_put]; have H9 := Lib.hid (H8.out.new b9); clear b9)
                  | fail)
                go_roundg m1
                case measure => omega
                case rel =>
                  have h := H9.out.x
                  rw [HFP.out] at h
                  exact ⟨k + 1, U &&& ~~~onl (n : Int), g, lo, got, by omega, by rw [HC.out]; rfl, rfl, by go_num, h.congr (fun _ _ => rfl) (fun i hi => dv_put U n i hi), HR.out.2.put _⟩
              | false =>
                go_wp2_with (first
                  | (go_at_call 16; refine (put_bad H6.out.x.p b' y' HGD.out).mono ?_; rintro e w8 ⟨rfl, b8⟩; have H8 := Lib.hid (H6.out.new b8); have t0 := H8.out.box.cell 0 _ rfl; have t1 := H8.out.box.cell 1 _ rfl; clear b8)
                  | (go_at_call 15; refine (good_any H8.out.x.p b' y').mono ?_; rintro e w9 ⟨rfl, b9⟩; rw [HGD.out]; have H9 := Lib.hid (H8.out.new b9); clear b9)
                  | fail)
                go_roundg m1
                case measure => omega
                case rel => exact ⟨k + 1, U, g, lo, got, by omega, rfl, rfl, by go_num, H9.out.x, HR.out.2.succ⟩
            | false => as_aux_lemma =>
              by_cases hne : lst (fr m U) 32 = []
              · have HGN := Lib.hid (get_none H6.out.x.p H6.out.x.tab hne)
                have hL0 : (lst (fr m U) 32).length = 0 := by rw [hne]; rfl
                have HL0' := Lib.hid hL0
                rw [hL0]
                clear hL0 hne q0 q1 hL32
                go_upto_region 30 with (go_at_call 17; refine HGN.out.mono ?_; rintro e w7 ⟨rfl, b7⟩; have H7 := Lib.hid (H6.out.new b7); clear b7)
                generalize hw8 : World.alloc _ _ = w8
                obtain ⟨z2, hz2'⟩ : ∃ z2, z2 = w7.heap.size := ⟨_, rfl⟩
                rw [← hz2']
                have H8 := Lib.hid (show PX w q G (fr m U) U g lo g U.getLsbD (.slice sg got.length cg) got w8 ∧ BoxAt w8 z2 [.int .i64 0, .int .i64 0] from
                  ⟨H7.out.x.new (by rw [← hw8]; exact (Below.refl _ _).alloc (Nat.le_refl _) _), by rw [← hw8, hz2']; exact BoxAt.mk_new w7 _ _⟩)
                have r0 := H8.out.2.cell 0 _ rfl
                have r1 := H8.out.2.cell 1 _ rfl
                clear hw8 hz2'
                go_wp2
                go_roundg m1
                case measure => omega
                case rel => exact ⟨k + 1, U, g, lo, got, by omega, by rw [HL0'.out]; rfl, rfl, by go_num, H8.out.1, HR.out.2.succ⟩
              · obtain ⟨k0, hk0'⟩ : ∃ k0, (lst (fr m U) 32).headD 0 = k0 := ⟨_, rfl⟩
                obtain ⟨hk32, hkm, hkU, hkl, hkL⟩ := least hk0' hne
                have hgb := HR.out.2.gb k0 hk32
                have HGS := Lib.hid (get_some H6.out.x.p H6.out.x.tab k0 hk0' hne ⟨hgb.1, by have := HR.out.2.gb k0 hk32; omega⟩)
                rw [fr_get] at HGS
                obtain ⟨L', hL'⟩ : ∃ L', (lst (fr m (U ||| onl (k0 : Int))) 32).length = L' := ⟨_, rfl⟩
                rw [hL'] at HGS hkL
                have HL' := Lib.hid hL'
                obtain ⟨x, hx⟩ : ∃ x, g k0 = x := ⟨_, rfl⟩
                rw [hx] at HGS hgb
                have HX1 := Lib.hid hx
                rw [← hkL] at hL32 ⊢
                have HKK := Lib.hid (And.intro hkm hkU)
                have HKL := Lib.hid hkl
                have hkI : (k0 : Int) < 32 := by omega
                have hkI0 : (0 : Int) ≤ (k0 : Int) := by omega
                have hwx : IntKind.i64.wrap (x + 1) = x + 1 := by rw [IntKind.wrap_i64]; omega
                clear hk0' hne hL' hx hkm hkU hkl hkL q0 q1
                go_upto_region 30 with (go_at_call 17; refine HGS.out.mono ?_; rintro e w7 ⟨rfl, p7, c7⟩; have H7 := Lib.hid (H6.out.pool HQ0.out c7 p7); clear p7 c7)
                generalize hw8 : World.alloc _ _ = w8
                obtain ⟨z2, hz2'⟩ : ∃ z2, z2 = w7.heap.size := ⟨_, rfl⟩
                rw [← hz2']
                have H8 := Lib.hid (show PZ w q G (fr m (U ||| onl (k0 : Int))) (U ||| onl (k0 : Int)) (upd g k0 (x + 1)) (min lo (L' : Int)) g U.getLsbD (.slice sg got.length cg) got z2 (k0 : Int) (x + 1) w8 from
                  ⟨H7.out.x.new (by rw [← hw8]; exact (Below.refl _ _).alloc (Nat.le_refl _) _), by rw [← hw8, hz2']; exact BoxAt.mk_new w7 _ _, by rw [hz2']; exact H7.out.x.size, fun j hj => by have := (H7.out.x.rowG j hj).2; omega⟩)
                clear hw8 hz2'
                have hl0 : (((L' + 1 : Nat) : Int) == 0) = false := by simp; omega
                go_wp2
                go_loopg [18] k0 (fun gh s18 wr => ∃ j : Nat, j + gh = k0 ∧ s18 = .int .i64 j ∧ Aside (wr = w8))
                case atStart => exact ⟨0, by omega, rfl, rfl⟩
                case round =>
                  obtain ⟨j, hjk, rfl, hww⟩ := hrel
                  obtain rfl := hww.out
                  clear hww
                  have hj32 : j < 32 := by omega
                  have hjI : (j : Int) < 32 := by omega
                  have hjI0 : (0 : Int) ≤ (j : Int) := by omega
                  have dj := H8.out.x.cd j hj32
                  cases gk with
                  | succ g2 =>
                    rw [HKL.out j (by omega)] at dj
                    go_wp2
                    go_roundg g2
                    case measure => omega
                    case rel => exact ⟨j + 1, by omega, by go_num, rfl⟩
                  | zero =>
                    obtain rfl : j = k0 := by omega
                    rw [HKK.out.2] at dj
                    have fj := H8.out.x.fd j
                    go_upto_region 37 with fail
                    generalize hw9 : World.setCell _ _ _ = w9
                    have H9 := Lib.hid (show PZ w q G (fr m (U ||| onl (j : Int))) (U ||| onl (j : Int)) (upd g j (x + 1)) (min lo (L' : Int)) g (updB U.getLsbD j true) (.slice sg got.length cg) got z2 (j : Int) (x + 1) w9 by rw [← hw9]; exact H8.out.setD HQ0.out j true hj32)
                    have aj := H9.out.x.ca j hj32
                    rw [HX1.out] at aj
                    have gj := H9.out.x.fa j
                    clear hw9 dj fj
                    go_upto_region 38 with fail
                    generalize hw10 : World.setCell _ _ _ = w10
                    have H10 := Lib.hid (show PZ w q G (fr m (U ||| onl (j : Int))) (U ||| onl (j : Int)) (upd g j (x + 1)) (min lo (L' : Int)) (upd g j (x + 1)) (updB U.getLsbD j true) (.slice sg got.length cg) got z2 (j : Int) (x + 1) w10 by rw [← hw10]; exact H9.out.setA HQ0.out j (x + 1) hj32)
                    clear hw10 aj gj
                    have x0 := H10.out.box.cell 0 _ rfl
                    have x1 := H10.out.box.cell 1 _ rfl
                    have hwl : IntKind.i64.wrap (((L' + 1 : Nat) : Int) - 1) = (L' : Int) := by rw [IntKind.wrap_i64]; omega
                    have hgl := HR.out.2.gl
                    have HGl := Lib.hid (show got.length ≤ 200 by omega)
                    rcases (show (L' : Int) < lo ∧ min lo (L' : Int) = L' ∨ lo ≤ (L' : Int) ∧ min lo (L' : Int) = lo by omega) with ⟨hlo, e⟩ | ⟨hlo, e⟩
                    all_goals
                      have HE1 := Lib.hid e
                      clear e hgl
                      go_upto_region 42 with (at_builtin; refine wpList_append_own _ rfl (.tmp 180) (.tmp 182) 48 rfl (G + 2) 50 i0 (.agg #[.int .i64 0, .int .i64 0]) 2 16 Tryd.underlying48 hi hz0 hz1 hz2 rfl (by decide) _ got.length (prow got) rfl (H10.out.x.row.alloc _) ⟨w10.heap.size, 0, none⟩ 1 1 [.int .i64 (j : Nat), .int .i64 (x + 1)] rfl rfl (two_new _ _ _ _) (by simp [Value.oneCell']) (by unfold maxLen; have := HGl.out; omega) (by have := HGl.out; omega) (by rw [World.size_alloc]; exact Nat.le_succ_of_le H10.out.x.size) ?_; intro v1 w11 hown1 hg1 _; have H11 := Lib.hid (And.intro hown1 hg1); clear hown1 hg1)
                      have H12 := Lib.hid (show PX w q G (fr m (U ||| onl (j : Int))) (U ||| onl (j : Int)) (upd g j (x + 1)) (min lo (L' : Int)) (upd g j (x + 1)) (updB U.getLsbD j true) v1 (got ++ [((j : Int), x + 1)]) w11 ∧ BoxAt w11 z2 [.int .i64 (j : Nat), .int .i64 (x + 1)] from
                        ⟨(H10.out.x.new ((Below.refl _ _).alloc (Nat.le_refl _) _)).grow HQ0.out ((j : Int), x + 1) H11.out.2 H11.out.1, (H10.out.box.new ((Below.refl _ _).alloc (Nat.le_refl _) _)).keep (ch_grown H11.out.2) (fun e => H10.out.zr _ e rfl)⟩)
                      have y0 := H12.out.2.cell 0 _ rfl
                      have y1 := H12.out.2.cell 1 _ rfl
                      have ya := H12.out.1.ca j hj32
                      rw [show upd g j (x + 1) j = x + 1 by unfold upd; rw [if_pos rfl]] at ya
                      clear x0 x1
                      refine wp_region_held_drew (S := fun w' => w'.cell? ⟨z2, 0, none⟩ = some (.int .i64 (j : Nat)) ∧ w'.cell? ⟨z2, 1, none⟩ = some (.int .i64 (x + 1)) ∧ w'.cell? ⟨G, j, none⟩ = some (.int .i64 (x + 1))) (by kernel_rfl) ⟨y0, y1, ya⟩ (fun hS => ?_)
                      refine wpAnyH_take (i := 0) (oi := { dst := some 184, op := .move (.tmp 17), type := 43, pos := "law.go:93", after := #[], guard := none }) (v := ?_) rfl (by kernel_rfl) (by kernel_rfl) (by kernel_rfl) (fun _ _ _ h => h) (Or.inl ⟨by rfl, ?_⟩) hS ?_
                      rotate_left 1
                      · intro w hw; obtain ⟨s0, s1, s2⟩ := hw; go_simp; try (with_reducible rfl)
                      simp only [Act.put, List.setIfInBounds_toArray, List.set_cons_zero, List.set_cons_succ]
                      refine wpAnyH_take (i := 1) (oi := { dst := some 185, op := .binOp .neq 43 (.tmp 184) (.const (.int .i64 0)) 43, type := 4, pos := "law.go:93", after := #[{ on := 0, ground := .data }], guard := none }) (v := ?_) rfl (by kernel_rfl) (by kernel_rfl) (by kernel_rfl) (fun _ _ _ h => h) (Or.inl ⟨by rfl, ?_⟩) hS ?_
                      rotate_left 1
                      · intro w hw; obtain ⟨s0, s1, s2⟩ := hw; go_simp; try (with_reducible rfl)
                      simp only [Act.put, List.setIfInBounds_toArray, List.set_cons_zero, List.set_cons_succ]
                      refine wpAnyH_take (i := 2) (oi := { dst := some 186, op := .move (.tmp 185), type := 4, pos := "law.go:93", after := #[{ on := 1, ground := .data }], guard := none }) (v := ?_) rfl (by kernel_rfl) (by kernel_rfl) (by kernel_rfl) (fun _ _ _ h => h) (Or.inl ⟨by rfl, ?_⟩) hS ?_
                      rotate_left 1
                      · intro w hw; obtain ⟨s0, s1, s2⟩ := hw; go_simp; try (with_reducible rfl)
                      simp only [Act.put, List.setIfInBounds_toArray, List.set_cons_zero, List.set_cons_succ]
                      refine wpAnyH_take (i := 3) (oi := { dst := some 187, op := .load 50 (.tmp 16), type := 50, pos := "law.go:93", after := #[{ on := 2, ground := .guard }], guard := some (2, false) }) (v := ?_) rfl (by kernel_rfl) (by kernel_rfl) (by kernel_rfl) (fun _ _ _ h => h) (Or.inl ⟨by rfl, ?_⟩) hS ?_
                      rotate_left 1
                      · intro w hw; obtain ⟨s0, s1, s2⟩ := hw; go_simp; try (with_reducible rfl)
                      simp only [Act.put, List.setIfInBounds_toArray, List.set_cons_zero, List.set_cons_succ]
                      refine wpAnyH_take (i := 4) (oi := { dst := some 188, op := .move (.tmp 18), type := 3, pos := "law.go:93", after := #[{ on := 2, ground := .guard }], guard := some (2, false) }) (v := ?_) rfl (by kernel_rfl) (by kernel_rfl) (by kernel_rfl) (fun _ _ _ h => h) (Or.inl ⟨by rfl, ?_⟩) hS ?_
                      rotate_left 1
                      · intro w hw; obtain ⟨s0, s1, s2⟩ := hw; go_simp; try (with_reducible rfl)
                      simp only [Act.put, List.setIfInBounds_toArray, List.set_cons_zero, List.set_cons_succ]
                      refine wpAnyH_take (i := 5) (oi := { dst := some 189, op := .move (.tmp 18), type := 3, pos := "law.go:93", after := #[{ on := 2, ground := .guard }], guard := some (2, false) }) (v := ?_) rfl (by kernel_rfl) (by kernel_rfl) (by kernel_rfl) (fun _ _ _ h => h) (Or.inl ⟨by rfl, ?_⟩) hS ?_
                      rotate_left 1
                      · intro w hw; obtain ⟨s0, s1, s2⟩ := hw; go_simp; try (with_reducible rfl)
                      simp only [Act.put, List.setIfInBounds_toArray, List.set_cons_zero, List.set_cons_succ]
                      refine wpAnyH_take (i := 6) (oi := { dst := some 190, op := .indexAddr 46 (.tmp 7) (.tmp 189), type := 0, pos := "law.go:93", after := #[{ on := 5, ground := .data }, { on := 2, ground := .guard }], guard := some (2, false) }) (v := ?_) rfl (by kernel_rfl) (by kernel_rfl) (by kernel_rfl) (fun _ _ _ h => h) (Or.inl ⟨by rfl, ?_⟩) hS ?_
                      rotate_left 1
                      · intro w hw; obtain ⟨s0, s1, s2⟩ := hw; go_simp; try (with_reducible rfl)
                      simp only [Act.put, List.setIfInBounds_toArray, List.set_cons_zero, List.set_cons_succ]
                      refine wpAnyH_take (i := 7) (oi := { dst := some 191, op := .load 3 (.tmp 190), type := 3, pos := "law.go:93", after := #[{ on := 6, ground := .data }, { on := 2, ground := .guard }], guard := some (2, false) }) (v := ?_) rfl (by kernel_rfl) (by kernel_rfl) (by kernel_rfl) (fun _ _ _ h => h) (Or.inl ⟨by rfl, ?_⟩) hS ?_
                      rotate_left 1
                      · intro w hw; obtain ⟨s0, s1, s2⟩ := hw; go_simp; try (with_reducible rfl)
                      simp only [Act.put, List.setIfInBounds_toArray, List.set_cons_zero, List.set_cons_succ]
                      refine wpAnyH_take (i := 8) (oi := { dst := some 192, op := .build 50 #[(0, .tmp 188), (1, .tmp 191)], type := 50, pos := "law.go:93", after := #[{ on := 4, ground := .data }, { on := 7, ground := .data }, { on := 2, ground := .guard }], guard := some (2, false) }) (v := ?_) rfl (by kernel_rfl) (by kernel_rfl) (by kernel_rfl) (fun _ _ _ h => h) (Or.inl ⟨by rfl, ?_⟩) hS ?_
                      rotate_left 1
                      · intro w hw; obtain ⟨s0, s1, s2⟩ := hw; go_simp; try (with_reducible rfl)
                      simp only [Act.put, List.setIfInBounds_toArray, List.set_cons_zero, List.set_cons_succ]
                      refine wpAnyH_take (i := 9) (oi := { dst := some 193, op := .binOp .neq 50 (.tmp 187) (.tmp 192) 50, type := 4, pos := "law.go:93", after := #[{ on := 3, ground := .data }, { on := 8, ground := .data }, { on := 2, ground := .guard }], guard := some (2, false) }) (v := ?_) rfl (by kernel_rfl) (by kernel_rfl) (by kernel_rfl) (fun _ _ _ h => h) (Or.inl ⟨by rfl, ?_⟩) hS ?_
                      rotate_left 1
                      · intro w hw; obtain ⟨s0, s1, s2⟩ := hw; go_simp; try (with_reducible rfl)
                      simp only [Act.put, List.setIfInBounds_toArray, List.set_cons_zero, List.set_cons_succ]
                      refine wpAnyH_take (i := 10) (oi := { dst := some 194, op := .pick (.tmp 186) (.const (.bool true)) (.tmp 193), type := 4, pos := "law.go:93", after := #[{ on := 2, ground := .data }, { on := 9, ground := .data }], guard := none }) (v := ?_) rfl (by kernel_rfl) (by kernel_rfl) (by kernel_rfl) (fun _ _ _ h => h) (Or.inl ⟨by rfl, ?_⟩) hS ?_
                      rotate_left 1
                      · intro w hw; obtain ⟨s0, s1, s2⟩ := hw; go_simp; try (with_reducible rfl)
                      simp only [Act.put, List.setIfInBounds_toArray, List.set_cons_zero, List.set_cons_succ]
                      refine wpAnyH_take (i := 11) (oi := { dst := some 195, op := .move (.tmp 194), type := 4, pos := "law.go:93", after := #[{ on := 10, ground := .data }, { on := 2, ground := .chain }], guard := none }) (v := ?_) rfl (by kernel_rfl) (by kernel_rfl) (by kernel_rfl) (fun _ _ _ h => h) (Or.inl ⟨by rfl, ?_⟩) hS ?_
                      rotate_left 1
                      · intro w hw; obtain ⟨s0, s1, s2⟩ := hw; go_simp; try (with_reducible rfl)
                      simp only [Act.put, List.setIfInBounds_toArray, List.set_cons_zero, List.set_cons_succ]
                      refine wpAnyH_take (i := 12) (oi := { dst := some 196, op := .move (.tmp 5), type := 42, pos := "law.go:93", after := #[{ on := 11, ground := .guard }], guard := some (11, false) }) (v := ?_) rfl (by kernel_rfl) (by kernel_rfl) (by kernel_rfl) (fun _ _ _ h => h) (Or.inl ⟨by rfl, ?_⟩) hS ?_
                      rotate_left 1
                      · intro w hw; obtain ⟨s0, s1, s2⟩ := hw; go_simp; try (with_reducible rfl)
                      simp only [Act.put, List.setIfInBounds_toArray, List.set_cons_zero, List.set_cons_succ]
                      refine wpAnyH_take (i := 14) (oi := { dst := some 198, op := .move (.tmp 9), type := 3, pos := "law.go:93", after := #[{ on := 11, ground := .guard }], guard := some (11, false) }) (v := ?_) rfl (by kernel_rfl) (by kernel_rfl) (by kernel_rfl) (fun _ _ _ h => h) (Or.inl ⟨by rfl, ?_⟩) hS ?_
                      rotate_left 1
                      · intro w hw; obtain ⟨s0, s1, s2⟩ := hw; go_simp; try (with_reducible rfl)
                      simp only [Act.put, List.setIfInBounds_toArray, List.set_cons_zero, List.set_cons_succ]
                      refine wpAnyH_ready (rs := [13]) (by kernel_rfl) (by simp) (AllReadyH.cons (o := { dst := some 197, op := .call { callee := .value (.func 18), args := #[.tmp 196], argTypes := #[42] }, type := 3, pos := "law.go:93", after := #[{ on := 12, ground := .data }, { on := 11, ground := .chain }, { on := 11, ground := .guard }], guard := some (11, false) }) rfl (fun K hK => ?_) AllReadyH.nil)
                      go_simp
                      go_at_call 18
                      refine (free_any (H12.out.1.dn 1).p).mono ?_
                      rintro e w12 ⟨rfl, b12⟩
                      rw [HL'.out]
                      have H13 := Lib.hid (And.intro ((H12.out.1.dn 1).new b12) ((H12.out.2.new (below_dn (Below.refl _ _) 1)).new b12))
                      have t0 := H13.out.2.cell 0 _ rfl
                      have t1 := H13.out.2.cell 1 _ rfl
                      have ta := H13.out.1.ca j hj32
                      rw [show upd g j (x + 1) j = x + 1 by unfold upd; rw [if_pos rfl]] at ta
                      clear b12
                      try dsimp only
                      refine hK.out _ _ ⟨t0, t1, ta⟩ (fun hHeld => ?_)
                      clear hK K
                      try simp only [Act.put, List.setIfInBounds_toArray, List.set_cons_zero, List.set_cons_succ]
                      refine wpAnyH_take (i := 15) (oi := { dst := some 199, op := .binOp .neq 3 (.tmp 197) (.tmp 198) 3, type := 4, pos := "law.go:93", after := #[{ on := 13, ground := .data }, { on := 14, ground := .data }, { on := 11, ground := .guard }], guard := some (11, false) }) (v := ?_) rfl (by kernel_rfl) (by kernel_rfl) (by kernel_rfl) (fun _ _ _ h => h) (Or.inl ⟨by rfl, ?_⟩) ⟨t0, t1, ta⟩ ?_
                      rotate_left 1
                      · intro w hw; obtain ⟨s0, s1, s2⟩ := hw; go_simp; try (with_reducible rfl)
                      simp only [Act.put, List.setIfInBounds_toArray, List.set_cons_zero, List.set_cons_succ]
                      refine wpAnyH_take (i := 16) (oi := { dst := some 200, op := .pick (.tmp 195) (.const (.bool true)) (.tmp 199), type := 4, pos := "law.go:93", after := #[{ on := 11, ground := .data }, { on := 15, ground := .data }], guard := none }) (v := ?_) rfl (by kernel_rfl) (by kernel_rfl) (by kernel_rfl) (fun _ _ _ h => h) (Or.inl ⟨by rfl, ?_⟩) ⟨t0, t1, ta⟩ ?_
                      rotate_left 1
                      · intro w hw; obtain ⟨s0, s1, s2⟩ := hw; go_simp; try (with_reducible rfl)
                      simp only [Act.put, List.setIfInBounds_toArray, List.set_cons_zero, List.set_cons_succ]
                      refine wpAnyH_take (i := 17) (oi := { dst := some 201, op := .move (.tmp 200), type := 4, pos := "law.go:93", after := #[{ on := 16, ground := .data }, { on := 13, ground := .chain }], guard := none }) (v := ?_) rfl (by kernel_rfl) (by kernel_rfl) (by kernel_rfl) (fun _ _ _ h => h) (Or.inl ⟨by rfl, ?_⟩) ⟨t0, t1, ta⟩ ?_
                      rotate_left 1
                      · intro w hw; obtain ⟨s0, s1, s2⟩ := hw; go_simp; try (with_reducible rfl)
                      simp only [Act.put, List.setIfInBounds_toArray, List.set_cons_zero, List.set_cons_succ]
                      refine wpAnyH_take (i := 18) (oi := { dst := some 202, op := .move (.tmp 5), type := 42, pos := "law.go:93", after := #[{ on := 17, ground := .guard }], guard := some (17, false) }) (v := ?_) rfl (by kernel_rfl) (by kernel_rfl) (by kernel_rfl) (fun _ _ _ h => h) (Or.inl ⟨by rfl, ?_⟩) ⟨t0, t1, ta⟩ ?_
                      rotate_left 1
                      · intro w hw; obtain ⟨s0, s1, s2⟩ := hw; go_simp; try (with_reducible rfl)
                      simp only [Act.put, List.setIfInBounds_toArray, List.set_cons_zero, List.set_cons_succ]
                      refine wpAnyH_take (i := 20) (oi := { dst := some 204, op := .move (.tmp 10), type := 3, pos := "law.go:93", after := #[{ on := 17, ground := .guard }], guard := some (17, false) }) (v := ?_) rfl (by kernel_rfl) (by kernel_rfl) (by kernel_rfl) (fun _ _ _ h => h) (Or.inl ⟨by rfl, ?_⟩) ⟨t0, t1, ta⟩ ?_
                      rotate_left 1
                      · intro w hw; obtain ⟨s0, s1, s2⟩ := hw; go_simp; try (with_reducible rfl)
                      simp only [Act.put, List.setIfInBounds_toArray, List.set_cons_zero, List.set_cons_succ]
                      refine wpAnyH_ready (rs := [19]) (by kernel_rfl) (by simp) (AllReadyH.cons (o := { dst := some 203, op := .call { callee := .value (.func 19), args := #[.tmp 202], argTypes := #[42] }, type := 3, pos := "law.go:93", after := #[{ on := 18, ground := .data }, { on := 17, ground := .chain }, { on := 17, ground := .guard }], guard := some (17, false) }) rfl (fun K hK => ?_) AllReadyH.nil)
                      go_simp
                      go_at_call 19
                      refine (low_any H13.out.1.p).mono ?_
                      rintro e w' ⟨rfl, rfl⟩
                      rw [HE1.out]
                      try dsimp only
                      refine hK.out _ _ ⟨t0, t1, ta⟩ (fun hHeld => ?_)
                      clear hK K
                      try simp only [Act.put, List.setIfInBounds_toArray, List.set_cons_zero, List.set_cons_succ]
                      refine wpAnyH_take (i := 21) (oi := { dst := some 205, op := .binOp .neq 3 (.tmp 203) (.tmp 204) 3, type := 4, pos := "law.go:93", after := #[{ on := 19, ground := .data }, { on := 20, ground := .data }, { on := 17, ground := .guard }], guard := some (17, false) }) (v := ?_) rfl (by kernel_rfl) (by kernel_rfl) (by kernel_rfl) (fun _ _ _ h => h) (Or.inl ⟨by rfl, ?_⟩) ⟨t0, t1, ta⟩ ?_
                      rotate_left 1
                      · intro w hw; obtain ⟨s0, s1, s2⟩ := hw; go_simp; try (with_reducible rfl)
                      simp only [Act.put, List.setIfInBounds_toArray, List.set_cons_zero, List.set_cons_succ]
                      refine wpAnyH_take (i := 22) (oi := { dst := some 206, op := .pick (.tmp 201) (.const (.bool true)) (.tmp 205), type := 4, pos := "law.go:93", after := #[{ on := 17, ground := .data }, { on := 21, ground := .data }], guard := none }) (v := ?_) rfl (by kernel_rfl) (by kernel_rfl) (by kernel_rfl) (fun _ _ _ h => h) (Or.inl ⟨by rfl, ?_⟩) ⟨t0, t1, ta⟩ ?_
                      rotate_left 1
                      · intro w hw; obtain ⟨s0, s1, s2⟩ := hw; go_simp; try (with_reducible rfl)
                      simp only [Act.put, List.setIfInBounds_toArray, List.set_cons_zero, List.set_cons_succ]
                      refine wpAnyH_done (by kernel_rfl) ?_ _
                      go_wp2
                      go_roundg m1
                      case measure => omega
                      case rel =>
                        have hpc := HR.out.2.get j hj32 HKK.out.1 ((j : Int), x + 1)
                        rw [HX1.out] at hpc
                        exact ⟨k + 1, U ||| onl (j : Int), upd g j (x + 1), min lo (L' : Int), got ++ [((j : Int), x + 1)], by omega, by rw [HL'.out], by rw [HE1.out], by go_num, H13.out.1.congr (fun _ _ => rfl) (fun i hi => dv_get U j i hi), hpc⟩
end Go.Proofs.YtdfknobohgncaaaDoor
