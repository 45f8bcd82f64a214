/- The contracts of told, All and its closure on a queue of timers. -/
import Derived.Test.YtkbmgilceioieaaDL
import Derived.RecoverIn
import Derived.TacticsInMore
import Derived.RegionIn
import Derived.LoopNIn
import Derived.LoopIn
import Derived.Shelf.Abstract
import Derived.Shelf.RegionOpen
import Derived.Sort.LoopGhostIn
namespace Go.Proofs.Ytkbmgilceioieaa
open Go.RowKit
attribute [local go_sem] Oper.semAt_some

/-- Numbers and ticks in a row. -/
def flatA (A : List (Int × Int)) : List Int := A.flatMap fun p => [p.1, p.2]
theorem flatA_app (A B : List (Int × Int)) : flatA (A ++ B) = flatA A ++ flatA B := by unfold flatA; simp
theorem flatA_len (A : List (Int × Int)) : (flatA A).length = 2 * A.length := by
  induction A with
  | nil => rfl
  | cons x A ih => unfold flatA at *; simp [ih]; omega
theorem rowI_two (A : List (Int × Int)) (a b : Int) : rowI (flatA (A ++ [(a, b)])) = rowI (flatA A) ++ [.int .i64 a, .int .i64 b] := by
  rw [flatA_app]; unfold rowI; rw [List.map_append]; rfl
theorem rowI_two' (A : List (Int × Int)) (c : Int) (t : Tm) : rowI (flatA (A ++ tolds (0 + c) [t])) = rowI (flatA A) ++ [.int .i64 t.id, .int .i64 (c + t.af)] := by
  have := rowI_two A t.id (c + t.af)
  simpa [tolds] using this
theorem info132 : (Try.prog.info? 132).map (fun i => (i.zero, i.size, i.bytes)) = some (some (.agg #[.int .i64 0, .int .i64 0]), 2, 16) := by kernel_rfl

set_option maxHeartbeats 1000000 in
theorem told_any (q : Nat) (L : List Tm) (w : World) (h : QAt w q L) (hok : OkA (tolds 0 L)) :
    Calls Try.prog 77 #[.pointer (some ⟨q, 0, none⟩)] w fun e w' => ∃ v, e = .returned v ∧ w'.ownsRow w.heap.size 132 2 v L.length (rowI (flatA (tolds 0 L))) ∧ Below w.heap.size w w' := by
  obtain ⟨i0, hi, hz0, hz1, hz2⟩ := info_parts info132
  have hlen : L.length ≤ 64 := by have := hok.len; rw [tolds_len] at this; exact this
  have HQ := Lib.hid h
  have HO := Lib.hid hok
  have hq0 := cell_of_one h.q0
  have hqz := free_of_one h.q0
  clear h hok
  go_enter Try.func77, Try.ntmps77
  go_wp2
  clear hq0 hqz
  go_loopg [3, 4, 5] L.length (fun g v c p wr => ∃ us vs, vs.length = g ∧ c = .int .i64 (sumL us) ∧ p = .pointer (hdE vs none) ∧ Aside (L = us ++ vs ∧ wr.ownsRow w.heap.size 132 2 v us.length (rowI (flatA (tolds 0 us))) ∧ Below w.heap.size w wr))
  case atStart => exact ⟨[], L, rfl, rfl, rfl, rfl, World.ownsRow_nil _ _ _ _, Below.refl _ _⟩
  case round =>
    obtain ⟨us, vs, hg, rfl, rfl, HR⟩ := hrel
    cases vs with
    | nil =>
      rw [hdE_nil]
      have e1 : L = us := by simpa using HR.out.1
      subst e1
      clear hg
      go_wp2
      go_ret
      exact ⟨_, rfl, HR.out.2.1, HR.out.2.2⟩
    | cons t r =>
      rw [hdE_cons]
      have hQ : QAt w q (us ++ t :: r) := by rw [← HR.out.1]; exact HQ.out
      have hb := mid_bounds (by rw [← HR.out.1]; exact HO.out)
      obtain ⟨hb1, hb2, hb3, -, hb5⟩ := hb
      have hQr := hQ.new HR.out.2.2
      obtain ⟨t0, t1, t2, -⟩ := hQr.mid
      have hg' : r.length + 1 = gk := by simpa using hg
      have hul : us.length + 1 ≤ 64 := by
        have := congrArg List.length HR.out.1
        simp at this; omega
      have HQr := Lib.hid hQ
      clear hg hQ hQr
      go_wp2_with (at_builtin; refine wpList_append_own _ rfl (.tmp 22) (.tmp 29) 129 rfl w.heap.size 132 i0 (.agg #[.int .i64 0, .int .i64 0]) 2 16 Try.underlying129 hi hz0 hz1 hz2 rfl (by decide) _ us.length (rowI (flatA (tolds 0 us))) rfl (HR.out.2.1.alloc _) ⟨wr.heap.size, 0, none⟩ 1 1 [.int .i64 t.id, .int .i64 (sumL us + t.af)] rfl rfl (two_new _ _ _ _) (by simp [Value.oneCell']) (by unfold maxLen; omega) (by omega) (by rw [World.size_alloc]; exact Nat.le_succ_of_le HR.out.2.2.size) ?_; intro v1 w1 hown1 hg1 _; have HO1 := Lib.hid hown1; have hB1 := Below.grown (Below.alloc HR.out.2.2 HR.out.2.2.size _) hg1 (by rw [World.size_alloc]; exact Nat.le_succ_of_le HR.out.2.2.size) (fun j e => (HR.out.2.1.lt j e).1); obtain ⟨-, -, t2, -⟩ := (HQr.out.new hB1).mid; have HB1 := Lib.hid hB1; clear hown1 hg1 hB1)
      go_roundg r.length
      case measure => omega
      case rel =>
        refine ⟨us ++ [t], r, rfl, by simp, rfl, by rw [HR.out.1]; simp, ?_, HB1.out⟩
        have := HO1.out
        rw [tolds_append, rowI_two', List.length_append]
        exact this

theorem AllD_any (q : Nat) (w : World) : Calls Try.prog 60 #[.pointer (some ⟨q, 0, none⟩)] w fun e w' => e = .returned (.func (.func 76) #[] #[.pointer (some ⟨w.heap.size, 0, none⟩)]) ∧ w' = w.alloc (.cells #[.pointer (some ⟨q, 0, none⟩)] 54) := by
  have hmf : ∀ (fn : Fn) (first cap : Array Value) (w : World), (Instr.makeFunc fn first cap).run Try.prog w = .ok (.func fn first cap) w := fun _ _ _ _ => rfl
  go_enter Try.func60, Try.ntmps60
  go_wp2
  go_ret
  exact ⟨rfl, rfl⟩

def aI (A : List (Int × Int)) (k : Nat) : Int := (A.getD k (0, 0)).1
def aT (A : List (Int × Int)) (k : Nat) : Int := (A.getD k (0, 0)).2
theorem flatA_at (A : List (Int × Int)) (k : Nat) (hk : k < A.length) : (rowI (flatA A))[k * 2]? = some (.int .i64 (aI A k)) ∧ (rowI (flatA A))[k * 2 + 1]? = some (.int .i64 (aT A k)) := by
  induction A generalizing k with
  | nil => simp at hk
  | cons x A ih =>
    cases k with
    | zero => exact ⟨rfl, rfl⟩
    | succ k =>
      have h := ih k (by simpa using hk)
      have e : (k + 1) * 2 = k * 2 + 1 + 1 := by omega
      rw [e]
      unfold flatA rowI aI aT at *
      simpa using h

/-- An owned row of pairs, as a slice whose cells are known. -/
theorem own_pairs {w : World} {base : Nat} {v : Value} {n : Nat} {A : List (Int × Int)} (h : w.ownsRow base 132 2 v n (rowI (flatA A))) (hn : n = A.length) :
    ∃ sp g cap, v = .slice sp n cap ∧ (0 < n → sp = some ⟨g, 0, none⟩ ∧ base ≤ g ∧ g < w.heap.size) ∧ ∀ k, k < n → w.cell? ⟨g, k * 2, none⟩ = some (.int .i64 (aI A k)) ∧ w.cell? ⟨g, k * 2 + 1, none⟩ = some (.int .i64 (aT A k)) := by
  rcases h.2 with ⟨rfl, h0⟩ | ⟨g, cap, cur, rfl, _⟩
  · exact ⟨none, 0, 0, by rw [h0], fun h => by omega, fun k hk => by omega⟩
  · have hl := h.lt g rfl
    refine ⟨some ⟨g, 0, none⟩, g, cap, rfl, fun _ => ⟨rfl, hl.1, hl.2⟩, fun k hk => ?_⟩
    have hf := flatA_at A k (by omega)
    exact ⟨(h.cellAt (k * 2) (by omega)).trans hf.1, (h.cellAt (k * 2 + 1) (by omega)).trans hf.2⟩

theorem dall_in (l Bs q : Nat) (L : List Tm) (A : List (Int × Int)) (F : World → Nat → Prop) (J Jx : Nat → World → Prop) (W : World)
    (hs0 : W.cell? ⟨Bs, 0, none⟩ = some (.pointer (some ⟨q, 0, none⟩))) (hQ : QAt W q L) (hA : tolds 0 L = A) (hok : OkA A)
    (hR : RoundsF Try.prog l A.length (fun k => #[.int .i64 (aI A k), .int .i64 (aT A k)]) F J Jx)
    (fJ : ∀ k, Foot F (J k)) (h0 : J 0 W) :
    Iter Try.prog 76 #[.pointer (some ⟨Bs, 0, none⟩)] l A.length J Jx W := by
  refine callsIn_of_wp Try.func76 rfl trivial ?_ rfl
  simp only [Try.ntmps76, List.size_toArray, List.length_cons, List.length_nil, Nat.reduceAdd, Nat.reduceSub, Array.replicate_succ, Array.replicate_zero, List.push_toArray, List.append_toArray, List.nil_append, List.cons_append]
  have HC := Lib.hid (told_any q L W hQ (by rw [hA]; exact hok))
  have hlen : L.length = A.length := by rw [← hA, tolds_len]
  have hle := hok.len
  rw [hA, hlen] at HC
  have HJ := Lib.hid (And.intro fJ (And.intro h0 hR))
  clear fJ h0 hR hQ hA hok hlen
  gi_wp2_with (refine ⟨trivial, rfl, ?_⟩; gi_at_call 77; refine (callsIn_wide.2 HC.out).mono ?_; rintro e w1 ⟨v, rfl, ho, hb⟩; obtain ⟨sp, g, cap, rfl, hg1, hg2⟩ := own_pairs ho rfl; have HG := Lib.hid (And.intro hg1 hg2); have HB := Lib.hid hb; clear ho hb hg1 hg2)
  have n1 : ∀ x, F w1 x → x < W.heap.size := fun x hx => (HJ.out.1 0).lt W HJ.out.2.1 x (((HJ.out.1 0).keep W w1 HJ.out.2.1 (Off.new HB.out)).2 x hx)
  have HS := Lib.hid (show J 0 w1 ∧ (0 < A.length → ¬ F w1 g) from ⟨((HJ.out.1 0).keep W w1 HJ.out.2.1 (Off.new HB.out)).1, fun h0 hf => by have := (HG.out.1 h0).2.1; have := n1 g hf; omega⟩)
  clear n1 hs0
  gi_loopg [4, 8] A.length (fun m p i wr => ∃ k : Nat, k + m = A.length ∧ i = .int .i64 k ∧ Aside (J k wr ∧ (0 < A.length → ¬ F wr g) ∧ ∀ j, j < A.length → wr.cell? ⟨g, j * 2, none⟩ = some (.int .i64 (aI A j)) ∧ wr.cell? ⟨g, j * 2 + 1, none⟩ = some (.int .i64 (aT A j))))
  case atStart => exact ⟨0, by omega, rfl, HS.out.1, HS.out.2, HG.out.2⟩
  case round =>
    obtain ⟨k, hkg, rfl, HR⟩ := hrel
    cases gk with
    | zero =>
      obtain rfl : k = A.length := by omega
      gi_wp2
      go_end0
      exact ⟨⟨_, rfl⟩, .inl HR.out.1⟩
    | succ m1 =>
      have hlt : k < A.length := by omega
      obtain rfl := (HG.out.1 (by omega)).1
      obtain ⟨c0, c1⟩ := HR.out.2.2 k hlt
      have bz : Below wr.heap.size wr (wr.alloc (.cells #[.int .i64 (aI A k), .int .i64 (aT A k)] 132)) := (Below.refl _ _).alloc (Nat.le_refl _) _
      have hJ1 := (HJ.out.1 k).keep wr _ HR.out.1 (Off.new bz)
      obtain ⟨fn, tmps, assign, body, hyd, hRo⟩ := HJ.out.2.2 k _ hJ1.1 hlt
      dsimp only at hyd
      have hni : ¬ F (wr.alloc (.cells #[.int .i64 (aI A k), .int .i64 (aT A k)] 132)) g := fun hf => HR.out.2.1 (by omega) (hJ1.2 g hf)
      have hgl : g < wr.heap.size := World.block_lt_of_cell? wr _ c0
      have HN := Lib.hid (And.intro hni (And.intro hgl bz))
      clear hJ1 hni bz hgl
      gi_wp2
      refine ⟨rfl, hRo.mono ?_⟩
      rintro e W3 (⟨rfl, hJ3, hs3⟩ | ⟨rfl, hJx3, -⟩)
      · have H3 := Lib.hid (And.intro hJ3 hs3)
        clear hJ3 hs3 hyd c0 c1 hRo
        gi_wp2
        go_roundg m1
        case measure => omega
        case rel =>
          have hz : g < (wr.alloc (.cells #[.int .i64 (aI A k), .int .i64 (aT A k)] 132)).heap.size := Nat.lt_of_lt_of_le HN.out.2.1 HN.out.2.2.size
          have hn3 : ¬ F W3 g := H3.out.2.no HN.out.1 hz
          refine ⟨k + 1, by omega, by go_num, H3.out.1, fun _ => hn3, fun j hj => ?_⟩
          obtain ⟨d0, d1⟩ := HR.out.2.2 j hj
          exact ⟨H3.out.2.1.cell ((HN.out.2.2.cell (p := ⟨g, j * 2, none⟩) HN.out.2.1).trans d0) HN.out.1, H3.out.2.1.cell ((HN.out.2.2.cell (p := ⟨g, j * 2 + 1, none⟩) HN.out.2.1).trans d1) HN.out.1⟩
      · clear hyd c0 c1 hRo
        have H3 := Lib.hid hJx3
        clear hJx3
        gi_wp2
        refine bodyPost_ret (results_none rfl _ _ _) rfl ?_
        exact ⟨⟨_, rfl⟩, .inr ⟨k + 1, by omega, H3.out⟩⟩
end Go.Proofs.Ytkbmgilceioieaa
