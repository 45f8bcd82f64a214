/- Pieces that are read; the contracts of patch's Size and piece. -/
import Derived.Test.YtjgnclhkoncnkaaWD
import Derived.Deep.Slices
namespace Go.Proofs.Ytjgnclhkoncnkaa
open Go.RowKit

instance : Inhabited Src := ⟨⟨none, 0, 0, 0⟩⟩
/-- A piece of any numbers. -/
structure OpI where
  fr : Int
  many : Int
  new : List Int
instance : Inhabited OpI := ⟨⟨0, 0, []⟩⟩
def OpM.toI (o : OpM) : OpI := ⟨(o.fr : Nat), (o.many : Nat), o.new⟩
/-- Pieces lie there. -/
structure PAt (w : World) (S : Src) (l : List OpI) (Sn : Nat → Src) : Prop where
  sl : SlAt w (fun _ => False) S l.length
  c0 : ∀ k, k < l.length → w.cell? ⟨S.b, S.o + k * 3, none⟩ = some (.int .i64 (l.getD k default).fr)
  c1 : ∀ k, k < l.length → w.cell? ⟨S.b, S.o + k * 3 + 1, none⟩ = some (.int .i64 (l.getD k default).many)
  c2 : ∀ k, k < l.length → w.cell? ⟨S.b, S.o + k * 3 + 2, none⟩ = some (.slice (Sn k).sp (l.getD k default).new.length (Sn k).c)
  nw : ∀ k, k < l.length → WAt w (Sn k) (l.getD k default).new
theorem PAt.new {w w' : World} {S : Src} {l : List OpI} {Sn : Nat → Src} (h : PAt w S l Sn) (hb : Below w.heap.size w w') : PAt w' S l Sn := by
  have hc := Ch.new hb (T := fun _ => False)
  exact ⟨h.sl.keep hc, fun k hk => hc.cell (h.c0 k hk) (fun h => h), fun k hk => hc.cell (h.c1 k hk) (fun h => h), fun k hk => hc.cell (h.c2 k hk) (fun h => h), fun k hk => (h.nw k hk).new hb⟩
theorem own_words {w : World} {base n : Nat} {v : Value} {l : List Int} {e : TypeId} (h : w.ownsRow base e 1 v n (rowU l)) (hn : n = l.length) : ∃ S : Src, v = .slice S.sp l.length S.c ∧ WAt w S l ∧ (0 < l.length → base ≤ S.b) := by
  subst hn
  rcases h.2 with ⟨rfl, h0⟩ | ⟨g, cap, cur, rfl, hgb, hg, hnc, hcm, -⟩
  · exact ⟨⟨none, 0, 0, 0⟩, by rw [h0], ⟨⟨fun h1 => by omega, by omega⟩, fun k hk => by omega, by omega⟩, fun h1 => by omega⟩
  · have hl := h.lt g rfl
    refine ⟨⟨some ⟨g, 0, none⟩, g, 0, cap⟩, rfl, ⟨⟨fun _ => ⟨rfl, hl.2, fun h => h⟩, ?_⟩, fun k hk => ?_, hnc⟩, fun _ => hgb⟩
    · unfold maxLen at hcm; omega
    · have := h.cellAt k (by omega)
      show w.cell? ⟨g, 0 + k, none⟩ = _
      rw [Nat.zero_add, this]
      simp [rowU, nth, List.getD, hk]
theorem OpsAt.toP {w : World} {base : Nat} {v : Value} {l : List OpM} {nv : Nat → Value} (h : OpsAt w base v l nv) (hl : l.length ≤ 1000000) : ∃ (S : Src) (Sn : Nat → Src), v = .slice S.sp l.length S.c ∧ PAt w S (l.map OpM.toI) Sn := by
  have hn : ∀ k, k < l.length → ∃ S : Src, nv k = .slice S.sp (l.getD k default).new.length S.c ∧ WAt w S (l.getD k default).new := fun k hk => by
    obtain ⟨S, h1, h2, -⟩ := own_words (h.new k hk) rfl
    exact ⟨S, h1, h2⟩
  obtain ⟨Sn, hSn⟩ := Go.Deep.choose_lt hn
  obtain ⟨S, hv, h1, h2⟩ := own_rows h.row (sz := 3) (fun k _ => rfl) (by omega)
  have hg : ∀ k, k < l.length → (l.map OpM.toI).getD k default = (l.getD k default).toI := fun k hk => by simp [List.getD, hk]
  refine ⟨S, Sn, hv, ⟨⟨fun h0 => ?_, by rw [List.length_map]; omega⟩, ?_, ?_, ?_, ?_⟩⟩
  · rw [List.length_map] at h0
    exact ⟨(h1 h0).1, (h1 h0).2.2.1, fun h => h⟩
  all_goals (intro k hk; rw [List.length_map] at hk; rw [hg k hk])
  · exact h2 k hk 0 _ rfl
  · exact h2 k hk 1 _ rfl
  · have := h2 k hk 2 _ rfl
    rw [(hSn k hk).1] at this
    exact this
  · exact (hSn k hk).2
def sizeI (l : List OpI) : Nat := (l.map fun o => 1 + max o.new.length 1).sum
theorem sizeI_take {l : List OpI} {k : Nat} (hk : k < l.length) : sizeI (l.take (k + 1)) = sizeI (l.take k) + (1 + max (l.getD k default).new.length 1) := by
  rw [List.take_succ_eq_append_getElem hk]
  unfold sizeI
  rw [List.map_append, List.sum_append]
  simp [List.getD, hk]
theorem sizeI_le {l : List OpI} (h : ∀ o ∈ l, o.new.length ≤ 5000) : sizeI l ≤ l.length * 5001 := by
  induction l with
  | nil => simp [sizeI]
  | cons o r ih =>
    have h1 := h o (List.mem_cons_self ..)
    have h2 := ih fun x hx => h x (List.mem_cons_of_mem _ hx)
    simp only [sizeI, List.map_cons, List.sum_cons, List.length_cons] at h2 ⊢
    omega
theorem mem_getD {l : List OpI} {k : Nat} (hk : k < l.length) : l.getD k default ∈ l := by
  have : l.getD k default = l[k] := by simp [List.getD, hk]
  rw [this]; exact List.getElem_mem hk
set_option maxHeartbeats 4000000 in
theorem size_any {w : World} {S : Src} {l : List OpI} {Sn : Nat → Src} (h : PAt w S l Sn) (hl : l.length ≤ 5000) (hm : ∀ o ∈ l, o.new.length ≤ 5000) :
    Calls Try.prog 38 #[.slice S.sp l.length S.c] w fun e w' => e = .returned (.int .i64 (sizeI l : Nat)) ∧ Below w.heap.size w w' := by
  have hmx := hmax Try.prog
  have HC := Lib.hid (fun (k : Nat) (hk : k < l.length) (wx : World) (hb : Below w.heap.size w wx) => And.intro (h.sl.at_ (by omega)).1 (And.intro ((h.new hb).c0 k hk) (And.intro ((h.new hb).c1 k hk) ((h.new hb).c2 k hk))))
  have HS := Lib.hid (fun (k : Nat) (hk : k < l.length) => And.intro (sizeI_take hk) (hm _ (mem_getD hk)))
  have HB := Lib.hid (fun (k : Nat) => show sizeI (l.take k) ≤ 25005000 from by
    have h1 := sizeI_le (l := l.take k) fun o ho => hm o (List.mem_of_mem_take ho)
    have h2 : (l.take k).length ≤ 5000 := by rw [List.length_take]; omega
    have := Nat.mul_le_mul_right 5001 h2
    omega)
  have HF := Lib.hid (show l.take l.length = l from List.take_length)
  obtain ⟨sp, sb, so, sc⟩ := S
  obtain ⟨N, hN⟩ : ∃ n, l.length = n := ⟨_, rfl⟩
  dsimp only at HC ⊢
  rw [hN] at HC HS HF hl
  rw [hN]
  clear h hm hN
  go_enter Try.func38, Try.ntmps38
  go_wp2
  go_loopg [3, 8] N (fun g x3 x8 wr => ∃ k : Nat, k + g = N ∧ x3 = .int .i64 (sizeI (l.take k) : Nat) ∧ x8 = .int .i64 (k : Nat) ∧ Aside (Below w.heap.size w wr))
  case atStart => exact ⟨0, by omega, rfl, rfl, Below.refl _ _⟩
  case round =>
    obtain ⟨k, hkg, rfl, rfl, HR⟩ := hrel
    cases gk with
    | zero =>
      obtain rfl : k = N := by omega
      obtain ⟨z, hz⟩ : ∃ z, sizeI (l.take k) = z := ⟨_, rfl⟩
      have HZ := Lib.hid (show sizeI l = z by rw [← hz, HF.out])
      rw [hz]
      clear hz
      go_wp2
      go_ret
      exact ⟨by rw [HZ.out]; rfl, HR.out⟩
    | succ g1 =>
      have hk : k < N := by omega
      have hk2 : (k : Int) < N := by omega
      obtain ⟨e1, c0, c1, c2⟩ := HC.out k hk wr HR.out
      subst e1
      obtain ⟨hs, hm⟩ := HS.out k hk
      have hb := HB.out k
      obtain ⟨z, hz⟩ : ∃ z, sizeI (l.take k) = z := ⟨_, rfl⟩
      obtain ⟨o, ho⟩ : ∃ z, l.getD k default = z := ⟨_, rfl⟩
      rw [hz] at hs hb
      rw [ho] at hs hm c0 c1 c2
      rw [hz]
      obtain ⟨f, m, nw⟩ := o
      dsimp only at hs hm c0 c1 c2
      obtain ⟨n, hn⟩ : ∃ z, nw.length = z := ⟨_, rfl⟩
      rw [hn] at hs hm c2
      have HSz := Lib.hid hs
      obtain ⟨⟨p, pb, po, pc⟩, hS⟩ : ∃ s, Sn k = s := ⟨_, rfl⟩
      rw [hS] at c2
      dsimp only at c2
      have HA := Lib.hid (HR.out.alloc HR.out.size (.cells #[.int .i64 f, .int .i64 m, .slice p n pc] 70))
      clear hz ho hn hs hS
      go_wp2
      go_roundg g1
      case measure => omega
      case rel => exact ⟨k + 1, by omega, by rw [HSz.out]; congr 1; omega, by go_num, HA.out⟩
/-- The words of a piece; may it be? -/
def wordsI (old : List Int) (o : OpI) : List Int := if o.new = [] then (old.drop o.fr.toNat).take o.many.toNat else o.new
def pieceB (n : Nat) (o : OpI) : Bool := if o.new = [] then decide (0 ≤ o.fr ∧ 1 ≤ o.many ∧ o.many ≤ n - o.fr) else decide (o.fr = 0 ∧ o.many = 0)
/-- A stretch of words. -/
theorem WAt.cut {w : World} {S : Src} {l : List Int} (h : WAt w S l) (f m : Nat) (hm : f + m ≤ l.length) (h1 : 1 ≤ m) : WAt w ⟨some ⟨S.b, S.o + f, none⟩, S.b, S.o + f, S.c - f⟩ ((l.drop f).take m) := by
  have hl : ((l.drop f).take m).length = m := by rw [List.length_take, List.length_drop]; omega
  have hc := h.cap
  refine ⟨⟨fun _ => ⟨rfl, (h.sl.at_ (by omega)).2⟩, ?_⟩, fun k hk => ?_, ?_⟩
  · rw [hl]; have := h.sl.sm; omega
  · rw [hl] at hk
    have := h.e (f + k) (by omega)
    show w.cell? ⟨S.b, S.o + f + k, none⟩ = _
    rw [Nat.add_assoc, this]
    simp [nth, List.getD, hk]
  · rw [hl]; show m ≤ S.c - f; omega
/-- What a piece's words are, if it may be. -/
def PieceIs (b : Bool) (l : List Int) (n : Nat) (R : Src) (w : World) : Prop := b = true → n = l.length ∧ WAt w R l
set_option maxHeartbeats 8000000 in
theorem piece_any {w : World} {A T : Src} {a : List Int} {o : OpI} (ha : WAt w A a) (ho : WAt w T o.new) (la : a.length ≤ 5000) (hfr : o.fr ≤ 9223372036854775807) :
    Calls Try.prog 52 #[.slice A.sp a.length A.c, .agg #[.int .i64 o.fr, .int .i64 o.many, .slice T.sp o.new.length T.c]] w fun e w' => ∃ (R : Src) (n : Nat), e = .returned (.tuple #[.slice R.sp n R.c, .bool (pieceB a.length o)]) ∧ PieceIs (pieceB a.length o) (wordsI a o) n R w' ∧ Below w.heap.size w w' := by
  obtain ⟨f, m, nw⟩ := o
  dsimp only at ho hfr ⊢
  obtain ⟨Z, hZ⟩ : ∃ Z, Z = w.heap.size := ⟨_, rfl⟩
  by_cases hnw : nw = []
  · subst hnw
    have hpb : pieceB a.length ⟨f, m, []⟩ = decide (0 ≤ f ∧ 1 ≤ m ∧ m ≤ a.length - f) := by unfold pieceB; rw [if_pos rfl]
    have hwd : wordsI a ⟨f, m, []⟩ = (a.drop f.toNat).take m.toNat := by unfold wordsI; rw [if_pos rfl]
    rw [hpb, hwd, show ([] : List Int).length = 0 from rfl]
    have HB := Lib.hid (show Below w.heap.size w (w.alloc (.cells #[.int .i64 f, .int .i64 m, .slice T.sp 0 T.c] 70)) from (Below.refl _ _).alloc (Nat.le_refl _) _)
    have HCut := Lib.hid (fun (x y : Nat) (h1 : x + y ≤ a.length) (h2 : 1 ≤ y) => (ha.new HB.out).cut x y h1 h2)
    have HSp := Lib.hid (fun (h0 : 0 < a.length) => (ha.sl.at_ h0).1)
    have hcap := ha.cap
    obtain ⟨pa, qa, oa, ca⟩ := A
    obtain ⟨pt, qt, ot, ct⟩ := T
    dsimp only at HB HCut HSp hcap ⊢
    obtain ⟨N, hN⟩ : ∃ n, a.length = n := ⟨_, rfl⟩
    rw [hN] at HCut HSp hcap la
    rw [hN]
    have HLen := Lib.hid (fun (x y : Nat) (h1 : x + y ≤ N) => show ((a.drop x).take y).length = y from by rw [List.length_take, List.length_drop]; omega)
    clear ha ho hpb hwd hN hZ
    by_cases x0 : f < 0
    · have hd : decide (0 ≤ f ∧ 1 ≤ m ∧ m ≤ (N : Int) - f) = false := decide_eq_false (by omega)
      rw [hd]
      clear hd
      go_enter Try.func52, Try.ntmps52
      go_wp2
      go_ret2
      exact ⟨⟨none, 0, 0, 0⟩, 0, rfl, (fun h => by cases h), HB.out⟩
    by_cases x1 : m < 1
    · have hd : decide (0 ≤ f ∧ 1 ≤ m ∧ m ≤ (N : Int) - f) = false := decide_eq_false (by omega)
      rw [hd]
      clear hd
      go_enter Try.func52, Try.ntmps52
      go_wp2
      go_ret2
      exact ⟨⟨none, 0, 0, 0⟩, 0, rfl, (fun h => by cases h), HB.out⟩
    by_cases x2 : (N : Int) - f < m
    · have hd : decide (0 ≤ f ∧ 1 ≤ m ∧ m ≤ (N : Int) - f) = false := decide_eq_false (by omega)
      rw [hd]
      clear hd
      have hw1 : IntKind.i64.wrap ((N : Int) - f) = (N : Int) - f := by rw [IntKind.wrap_i64]; omega
      go_enter Try.func52, Try.ntmps52
      go_wp2
      go_ret2
      exact ⟨⟨none, 0, 0, 0⟩, 0, rfl, (fun h => by cases h), HB.out⟩
    · have hd : decide (0 ≤ f ∧ 1 ≤ m ∧ m ≤ (N : Int) - f) = true := decide_eq_true (by omega)
      rw [hd]
      clear hd
      obtain ⟨x, rfl⟩ := Int.eq_ofNat_of_zero_le (show 0 ≤ f by omega)
      obtain ⟨y, rfl⟩ := Int.eq_ofNat_of_zero_le (show 0 ≤ m by omega)
      simp only [Int.toNat_natCast]
      have hxy : x + y ≤ N := by omega
      have hy1 : 1 ≤ y := by omega
      have hcx : ¬ ca = x := by omega
      have hxi : (x : Int) ≤ (x : Int) + y := by omega
      have hyi : (x : Int) + y ≤ ca := by omega
      have HW2 := Lib.hid (HCut.out x y hxy hy1)
      have HL2 := Lib.hid (HLen.out x y hxy)
      obtain rfl := HSp.out (by omega)
      clear HCut HLen HSp
      go_enter Try.func52, Try.ntmps52
      go_wp2
      go_ret2
      exact ⟨⟨some ⟨qa, oa + x, none⟩, qa, oa + x, ca - x⟩, y, by simp, fun _ => ⟨HL2.out.symm, HW2.out⟩, HB.out⟩
  · have hpb : pieceB a.length ⟨f, m, nw⟩ = decide (f = 0 ∧ m = 0) := by unfold pieceB; rw [if_neg hnw]
    have hwd : wordsI a ⟨f, m, nw⟩ = nw := by unfold wordsI; rw [if_neg hnw]
    rw [hpb, hwd]
    have hnp : 0 < nw.length := List.length_pos_iff.2 hnw
    have HB := Lib.hid (show Below w.heap.size w (w.alloc (.cells #[.int .i64 f, .int .i64 m, .slice T.sp nw.length T.c] 70)) from (Below.refl _ _).alloc (Nat.le_refl _) _)
    have HT := Lib.hid (fun (wx : World) (hx : Below w.heap.size w wx) => ho.new hx)
    obtain ⟨pa, qa, oa, ca⟩ := A
    obtain ⟨pt, qt, ot, ct⟩ := T
    dsimp only at HB HT ⊢
    obtain ⟨N, hN⟩ : ∃ n, a.length = n := ⟨_, rfl⟩
    obtain ⟨n, hn⟩ : ∃ n, nw.length = n := ⟨_, rfl⟩
    have HNn := Lib.hid hn
    rw [hN]
    rw [hn] at HB hnp ⊢
    have hnp2 : (0 : Int) < n := by omega
    clear ha ho hpb hwd hN hn hZ hnw
    by_cases x0 : f = 0
    · subst x0
      by_cases x1 : m = 0
      · subst x1
        rw [show decide ((0 : Int) = 0 ∧ (0 : Int) = 0) = true from rfl]
        go_enter Try.func52, Try.ntmps52
        go_wp2
        go_quiet (fail)
        go_wp2
        go_ret2
        exact ⟨⟨pt, qt, ot, ct⟩, n, rfl, (fun _ => ⟨HNn.out.symm, HT.out _ (below_dn HB.out _)⟩), below_dn HB.out _⟩
      · rw [show decide ((0 : Int) = 0 ∧ m = 0) = false from decide_eq_false (fun h => x1 h.2)]
        have x1b : (m == 0) = false := by simp; omega
        go_enter Try.func52, Try.ntmps52
        go_wp2
        go_quiet (fail)
        go_wp2
        go_ret2
        exact ⟨⟨pt, qt, ot, ct⟩, n, rfl, (fun h => by cases h), below_dn HB.out _⟩
    · rw [show decide (f = 0 ∧ m = 0) = false from decide_eq_false (fun h => x0 h.1)]
      go_enter Try.func52, Try.ntmps52
      go_wp2
      go_quiet (fail)
      go_wp2
      go_ret2
      exact ⟨⟨pt, qt, ot, ct⟩, n, rfl, (fun h => by cases h), below_dn HB.out _⟩
end Go.Proofs.Ytjgnclhkoncnkaa
