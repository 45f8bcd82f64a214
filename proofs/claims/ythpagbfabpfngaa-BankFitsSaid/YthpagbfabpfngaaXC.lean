/- Several texts in one: BO, BP, BQ. -/
import Derived.Test.YthpagbfabpfngaaBN
/- The contract of bank's New. -/
namespace Go.Proofs.Ythpagbfabpfngaa
open Go.RowKit

theorem bnew_nil (base many : Int) (w : World) : Calls Try.prog 10 #[.pointer none, .int .i64 base, .int .i64 many] w fun e w' => e = .returned (.tuple #[.pointer none, .int .i64 64]) ∧ w = w' := by
  go_enter Try.func10, Try.ntmps10
  go_wp2
  go_ret2
  exact ⟨rfl, rfl⟩
set_option maxHeartbeats 4000000 in
theorem bnew_bad {w : World} {q S : Nat} {g : Nat → Nat} {d : Dev} (h : DevAt w q S g d) (base many : Int) (hb : -9223372036854775808 ≤ base ∧ base ≤ 9223372036854775807) (hm : -9223372036854775808 ≤ many ∧ many ≤ 9223372036854775807) (hno : ¬ (3 ≤ many ∧ many ≤ 64 ∧ 13 ≤ d.nw ∧ 0 ≤ base ∧ base ≤ (d.ns : Int) - many)) :
    Calls Try.prog 10 #[.pointer (some ⟨q, 0, none⟩), .int .i64 base, .int .i64 many] w fun e w' => e = .returned (.tuple #[.pointer none, .int .i64 64]) ∧ w = w' := by
  have HW := Lib.hid (words_any h)
  have HS := Lib.hid (sectors_any h)
  have hz := h.zn
  obtain ⟨nw, hnw⟩ : ∃ nw, d.nw = nw := ⟨_, rfl⟩
  obtain ⟨ns, hns⟩ : ∃ ns, d.ns = ns := ⟨_, rfl⟩
  rw [hnw] at HW hz hno
  rw [hns] at HS hz hno
  clear h hnw hns
  by_cases m1 : many < 3
  · go_enter Try.func10, Try.ntmps10
    go_wp2
    go_ret2
    exact ⟨rfl, rfl⟩
  · have m1' : (3 : Int) ≤ many := by omega
    by_cases m2 : 64 < many
    · go_enter Try.func10, Try.ntmps10
      go_wp2
      go_ret2
      exact ⟨rfl, rfl⟩
    · have m2' : many ≤ 64 := by omega
      by_cases m3 : (nw : Int) < 13
      · go_enter Try.func10, Try.ntmps10
        go_wp2_with (first
          | (go_at_call 41; refine HW.out.mono ?_; rintro e w2 ⟨rfl, rfl⟩)
          | fail)
        go_ret2
        exact ⟨rfl, rfl⟩
      · by_cases m4 : base < 0
        · go_enter Try.func10, Try.ntmps10
          go_wp2_with (first
            | (go_at_call 41; refine HW.out.mono ?_; rintro e w2 ⟨rfl, rfl⟩)
            | fail)
          go_ret2
          exact ⟨rfl, rfl⟩
        · have m5 : (ns : Int) - many < base := by omega
          have ew : IntKind.i64.wrap ((ns : Int) - many) = (ns : Int) - many := by rw [IntKind.wrap_i64]; omega
          go_enter Try.func10, Try.ntmps10
          go_wp2_with (first
            | (go_at_call 41; refine HW.out.mono ?_; rintro e w2 ⟨rfl, rfl⟩)
            | (go_at_call 42; refine HS.out.mono ?_; rintro e w2 ⟨rfl, rfl⟩)
            | fail)
          go_ret2
          exact ⟨rfl, rfl⟩
set_option maxHeartbeats 4000000 in
theorem bnew_ok {w : World} {q S : Nat} {g : Nat → Nat} {d : Dev} (h : DevAt w q S g d) (base many : Nat) (ho : base + many ≤ d.ns ∧ 3 ≤ many ∧ 13 ≤ d.nw) :
    Calls Try.prog 10 #[.pointer (some ⟨q, 0, none⟩), .int .i64 base, .int .i64 many] w fun e w' => e = .returned (.tuple #[.pointer (some ⟨w.heap.size, 0, none⟩), .int .i64 0]) ∧ Bk w' w.heap.size q S g d base many false [] ∧ Below w.heap.size w w' := by
  have HW := Lib.hid (words_any h)
  have HS := Lib.hid (sectors_any h)
  have hz := h.zn
  have HB := Lib.hid (show Bk (w.alloc (.cells #[.pointer (some ⟨q, 0, none⟩), .int .i64 base, .int .i64 many, .bool false, .int .i64 0, .int .u32 0, .int .i64 0] 99)) w.heap.size q S g d base many false [] ∧ Below w.heap.size w (w.alloc (.cells #[.pointer (some ⟨q, 0, none⟩), .int .i64 base, .int .i64 many, .bool false, .int .i64 0, .int .u32 0, .int .i64 0] 99)) from by
    have hb : Below w.heap.size w (w.alloc (.cells #[.pointer (some ⟨q, 0, none⟩), .int .i64 base, .int .i64 many, .bool false, .int .i64 0, .int .u32 0, .int .i64 0] 99)) := (Below.refl _ _).alloc (Nat.le_refl _) _
    exact ⟨⟨BoxAt.mk_new w _ _, h.keep (Ch.new hb : Ch (fun _ => False) _ _) (fun _ _ h => h), fun hj => Nat.lt_irrefl _ (h.own_lt _ hj), ho⟩, hb⟩)
  obtain ⟨nw, hnw⟩ : ∃ nw, d.nw = nw := ⟨_, rfl⟩
  obtain ⟨ns, hns⟩ : ∃ ns, d.ns = ns := ⟨_, rfl⟩
  rw [hnw] at HW hz ho
  rw [hns] at HS hz ho
  have m1 : ¬ (many : Int) < 3 := by omega
  have m2 : ¬ (64 : Int) < (many : Int) := by omega
  have m3 : ¬ (nw : Int) < 13 := by omega
  have m5 : ¬ (ns : Int) - (many : Int) < (base : Int) := by omega
  have n1 : ¬ many < 3 := by omega
  have n2 : ¬ 64 < many := by omega
  have n3 : ¬ nw < 13 := by omega
  have ew : IntKind.i64.wrap ((ns : Int) - (many : Int)) = (ns : Int) - many := by rw [IntKind.wrap_i64]; omega
  clear h hnw hns hz
  go_enter Try.func10, Try.ntmps10
  go_wp2_with (first
    | (go_at_call 41; refine HW.out.mono ?_; rintro e w2 ⟨rfl, rfl⟩)
    | (go_at_call 42; refine HS.out.mono ?_; rintro e w2 ⟨rfl, rfl⟩)
    | fail)
  go_ret2
  exact ⟨rfl, HB.out⟩
end Go.Proofs.Ythpagbfabpfngaa
/- The chapter's example, in numbers. -/
namespace Go.Proofs.Ythpagbfabpfngaa
open Go.RowKit

def ex0 : Dev := Dev.fresh 4 16 9
def ex1 : Dev := (blankD ex0 1 3).1
def ex2 : Dev := (putK ex1 1 [] [1#32, 2#32]).1
def ex3 : Dev := (commitD ex2 1 [1#32, 2#32] 7#32).1
theorem ex_worn : wornB ex0 1 3 = false := by kernel_rfl
theorem ex_blank : (blankD ex0 1 3).2 = 0 := by kernel_rfl
theorem ex_put : (putK ex1 1 [] [1#32, 2#32]).2 = 0 := by kernel_rfl
theorem ex_commit : (commitD ex2 1 [1#32, 2#32] 7#32).2 = 0 := by kernel_rfl
theorem ex_image : imageR ex3 1 3 = some [1#32, 2#32] := by kernel_rfl
theorem ex_ok : stOK ex3 1 3 = true := by kernel_rfl
theorem ex_seq : ex3.word (1 + 1) 0 = 7#32 := by kernel_rfl
end Go.Proofs.Ythpagbfabpfngaa
/- The contract of law08's alive: the chapter's example. -/
namespace Go.Proofs.Ythpagbfabpfngaa
open Go.RowKit

theorem ex_okE : ex0.okE := ⟨⟨by decide, by decide, by decide, by decide⟩, by decide, fun i => by simp [ex0, Dev.fresh]⟩
theorem ex_kept1 : ex0.keptN ex1 4 := blankD_kept (base := 1) (many := 3) ex_okE (by decide)
theorem ex_kept2 : ex1.keptN ex2 2 := progK_kept (n := 2) (ex_kept1.okE ex_okE (by decide)) (by have := ex_kept1.ops; have : ex0.ops = 0 := rfl; omega) (by rw [ex_kept1.nw]; decide) (by rw [ex_kept1.nw]; decide) 2 (by omega)
theorem ex_ok1 : ex1.okE := ex_kept1.okE ex_okE (by decide)
theorem ex_ops1 : ex1.ops ≤ 4 := by have := ex_kept1.ops; have : ex0.ops = 0 := rfl; omega
theorem ex_ok2 : ex2.okE := ex_kept2.okE ex_ok1 (by have := ex_ops1; omega)
theorem ex_ops2 : ex2.ops ≤ 6 := by have := ex_kept2.ops; have := ex_ops1; omega
theorem ex_ns1 : ex1.ns = 4 := ex_kept1.ns
theorem ex_ns2 : ex2.ns = 4 := ex_kept2.ns.trans ex_ns1
theorem ex_ns3 : ex3.ns = 4 := by kernel_rfl
theorem ex_nw3 : ex3.nw = 16 := by kernel_rfl
theorem ex_beginR : beginR ex0 1 3 [] = (0, ex1, true, []) := by
  unfold beginR
  rw [ex_worn, ex_blank]
  rfl
section
variable {w : World} {B q S : Nat} {g : Nat → Nat}
theorem ex_begin_any (h : Bk w B q S g ex0 1 3 false []) : Calls Try.prog 43 #[.pointer (some ⟨B, 0, none⟩)] w fun e w' => e = .returned (.int .i64 0) ∧ Bk w' B q S g ex1 1 3 true [] ∧ Ch (OwnB B q S g 4) w w' := by
  have := begin_any h ex_okE (by decide)
  rw [ex_beginR] at this
  exact this
theorem ex_put_any (h : Bk w B q S g ex1 1 3 true []) {b : Nat} (hX : Ws w (some ⟨b, 0, none⟩) b 0 2 (nthW [1#32, 2#32])) (hb : ¬ OwnB B q S g 4 b) :
    Calls Try.prog 44 #[.pointer (some ⟨B, 0, none⟩), .slice (some ⟨b, 0, none⟩) 2 2] w fun e w' => e = .returned (.int .i64 0) ∧ Bk w' B q S g ex2 1 3 true [1#32, 2#32] ∧ Ch (OwnB B q S g 4) w w' := by
  have := put_go (cap := 2) (X := [1#32, 2#32]) h ex_ok1 (by have := ex_ops1; simp; omega) hX (fun _ => by rw [ex_ns1]; exact hb) (by simp) (by unfold roomN; rw [show ex1.nw = 16 from ex_kept1.nw]; decide)
  rw [ex_put, ex_ns1] at this
  exact this
theorem ex_commit_any (h : Bk w B q S g ex2 1 3 true [1#32, 2#32]) : Calls Try.prog 45 #[.pointer (some ⟨B, 0, none⟩), .int .u32 7] w fun e w' => e = .returned (.int .i64 0) ∧ Bk w' B q S g ex3 1 3 false [1#32, 2#32] ∧ Ch (OwnB B q S g 4) w w' := by
  have := commit_any h ex_ok2 (by have := ex_ops2; omega) 7#32 (by simp)
  rw [ex_commit, ex_ns2] at this
  exact this
theorem ex_image_any (h : Bk w B q S g ex3 1 3 false [1#32, 2#32]) : Calls Try.prog 13 #[.pointer (some ⟨B, 0, none⟩)] w fun e w' => ∃ v, e = .returned (.tuple #[v, .bool true]) ∧ w'.ownsRow w.heap.size 26 1 v 2 (rowB [1#32, 2#32]) ∧ Below w.heap.size w w' := by
  have := image_any h (by unfold roomN; rw [ex_nw3]; decide)
  rw [ex_image] at this
  exact this
theorem ex_state_any (h : Bk w B q S g ex3 1 3 false [1#32, 2#32]) : Calls Try.prog 16 #[.pointer (some ⟨B, 0, none⟩)] w fun e w' => ∃ l c : BitVec 32, ∃ cf : Bool, ∃ t : Nat, e = .returned (.agg #[.int .u32 7, .int .u32 (w32 l), .int .u32 (w32 c), .bool true, .bool cf, .int .i64 t]) ∧ Below w.heap.size w w' := by
  have := state_any h
  unfold stV at this
  rw [ex_ok] at this
  simp only [if_true] at this
  rw [ex_seq, show w32 7#32 = 7 by decide] at this
  exact this.mono fun e w' ⟨h1, h2⟩ => ⟨_, _, _, _, h1, h2⟩
end
theorem run_fieldS0 (a b c f t : Value) (v : Bool) (w : World) : (Instr.field 47 (.agg #[a, b, c, .bool v, f, t]) 0).run Try.prog w = .ok (.agg #[a, b, c]) w := by
  simp [Instr.field, run_underlying Try.underlying47, go_sem, asAgg]
theorem run_fieldS1 (a b c f t : Value) (v : Bool) (w : World) : (Instr.field 47 (.agg #[a, b, c, .bool v, f, t]) 1).run Try.prog w = .ok (.bool v) w := by
  simp [Instr.field, run_underlying Try.underlying47, go_sem, asAgg]
theorem run_fieldH0 (b c : Value) (k : IntKind) (x : Int) (w : World) : (Instr.field 45 (.agg #[.int k x, b, c]) 0).run Try.prog w = .ok (.int k x) w := by
  simp [Instr.field, run_underlying Try.underlying45, go_sem, asAgg]
set_option maxHeartbeats 4000000 in
set_option maxRecDepth 100000 in
theorem balive_any (w : World) : Calls Try.prog 11 #[] w fun e w' => e = .returned (.bool true) ∧ Below w.heap.size w w' := by
  have HN := Lib.hid (new_ok 4 16 9 w ⟨by decide, by decide, by decide, by decide, by decide, by decide⟩)
  have F0 := run_fieldS0
  have F1 := run_fieldH0
  go_enter Try.func11, Try.ntmps11
  go_wp2_with (first
    | (go_at_call 9; refine HN.out.mono ?_; rintro e w1 ⟨q, S, g, rfl, h1, hl, hb⟩; have H1 := Lib.hid (And.intro (show DevAt w1 q S g ex0 from h1) (And.intro hl hb)); clear h1 hl hb)
    | (go_at_call 10; refine (bnew_ok H1.out.1 1 3 (by decide)).mono ?_; rintro e w2 ⟨rfl, h2, hb⟩; have H2 := Lib.hid (And.intro h2 (And.intro (H1.out.2.2.trans (hb.mono H1.out.2.2.size)) (show ∀ j, OwnB w1.heap.size q S g 4 j → w.heap.size ≤ j from fun j hj => by rcases hj with rfl | hj; exact H1.out.2.2.size; exact H1.out.2.1 j hj))); clear h2 hb)
    | (go_at_call 43; refine (ex_begin_any H2.out.1).mono ?_; rintro e w3 ⟨rfl, h3, k3⟩; have H3 := Lib.hid (And.intro h3 (H2.out.2.1.trans (k3.below (fun j hj ho => by have := H2.out.2.2 j ho; omega) H2.out.2.1.size))); clear h3 k3)
    | fail)
  have hb4 : Below w3.heap.size w3 (w3.alloc (.cells #[.int .u32 1, .int .u32 2] 26)) := (Below.refl _ _).alloc (Nat.le_refl _) _
  have hx4 : BoxAt (w3.alloc (.cells #[.int .u32 1, .int .u32 2] 26)) w3.heap.size [.int .u32 1, .int .u32 2] := BoxAt.mk_new w3 _ _
  have HW4 := Lib.hid (show Ws (w3.alloc (.cells #[.int .u32 1, .int .u32 2] 26)) (some ⟨w3.heap.size, 0, none⟩) w3.heap.size 0 2 (nthW [1#32, 2#32]) from ⟨fun _ => ⟨rfl, hx4.lt⟩, fun k hk => by
    rw [Nat.zero_add]
    obtain rfl | rfl : k = 0 ∨ k = 1 := by omega
    · exact hx4.cell 0 _ rfl
    · exact hx4.cell 1 _ rfl⟩)
  have H4 := Lib.hid (And.intro (H3.out.1.new hb4) (H3.out.2.trans (hb4.mono H3.out.2.size)))
  have hno : ¬ OwnB w1.heap.size q S g 4 w3.heap.size := fun ho => by have := H3.out.1.lt w3.heap.size (by rw [ex_ns1]; exact ho); omega
  refine (ex_put_any H4.out.1 HW4.out hno).mono ?_
  rintro e w5 ⟨rfl, h5, k5⟩
  have H5 := Lib.hid (And.intro h5 (H4.out.2.trans (k5.below (fun j hj ho => by have := H2.out.2.2 j ho; omega) H4.out.2.size)))
  clear h5 k5 hb4 hx4 hno
  go_wp2_with (first
    | (go_at_call 45; refine (ex_commit_any H5.out.1).mono ?_; rintro e w6 ⟨rfl, h6, k6⟩; have H6 := Lib.hid (And.intro h6 (H5.out.2.trans (k6.below (fun j hj ho => by have := H2.out.2.2 j ho; omega) H5.out.2.size))); clear h6 k6)
    | (go_at_call 13; refine (ex_image_any H6.out.1).mono ?_; rintro e w7 ⟨v, rfl, ho, hb⟩; obtain ⟨b, cap, rfl, -⟩ := own_some ho (by decide); have q7 : w7.cell? ⟨b, 1, none⟩ = some (.int .u32 2) := ho.cellAt 1 (by decide); have H7 := Lib.hid (And.intro (H6.out.1.new hb) (H6.out.2.trans (hb.mono H6.out.2.size))); clear ho hb)
    | (go_at_call 16; refine (ex_state_any H7.out.1).mono ?_; rintro e w8 ⟨l, c, cf, t, rfl, hb⟩; have H8 := Lib.hid (H7.out.2.trans (hb.mono H7.out.2.size)); clear hb)
    | fail)
  go_ret
  exact ⟨rfl, H8.out⟩
end Go.Proofs.Ythpagbfabpfngaa
