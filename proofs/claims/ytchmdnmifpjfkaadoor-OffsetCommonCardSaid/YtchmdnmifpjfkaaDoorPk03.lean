/- Several texts in one: YA, Foot2, YB, MFew, MRef, MIter, YC. -/
import Derived.Test.YtchmdnmifpjfkaaDoorPk01
import Derived.Test.YtchmdnmifpjfkaaDoorPk02
import Derived.DeepKeys
import Derived.ChangeKeysEq
import Derived.StillTail
import Derived.StillTactics
import Derived.StillTailTactics
import Derived.Deep.RegionWith
import Derived.Deep.RegionHeld3
import Derived.Lib.LaidTab
import Derived.Laws.AppendOwn
import Derived.Carry
import Derived.Maps.AppendAt
import Derived.Deep.AppendLies
import Derived.RangeFuncRecord
import Derived.RecoverIn
import Derived.OwnWalkIn
import Derived.TacticsInMore
import Derived.RegionIn
import Derived.LoopNIn
import Derived.LoopIn
import Derived.Shelf.Abstract
import Derived.Shelf.RegionOpen
import Derived.Sort.LoopGhostIn
import Derived.RangeFuncNested
import Derived.RangeFuncBound
/- Tables of eight numbers, as values and as rows; the contracts of ceil's Empty, At and Level. -/
namespace Go.Proofs.YtchmdnmifpjfkaaDoor
open Go.RowKit

def updF {α : Type} (c : Nat → α) (n : Nat) (v : α) : Nat → α := fun i => if i = n then v else c i
/-- A table, as cells. -/
def tb (f : Nat → Int) : Array Value := #[.int .i64 (f 0), .int .i64 (f 1), .int .i64 (f 2), .int .i64 (f 3), .int .i64 (f 4), .int .i64 (f 5), .int .i64 (f 6), .int .i64 (f 7)]
theorem lt8c {p : Nat → Prop} (h0 : p 0) (h1 : p 1) (h2 : p 2) (h3 : p 3) (h4 : p 4) (h5 : p 5) (h6 : p 6) (h7 : p 7) : ∀ k, k < 8 → p k := by
  intro k hk
  rcases k with _ | _ | _ | _ | _ | _ | _ | _ | k
  · exact h0
  · exact h1
  · exact h2
  · exact h3
  · exact h4
  · exact h5
  · exact h6
  · exact h7
  · omega
theorem tb_at (f : Nat → Int) : ∀ k, k < 8 → (tb f)[k]? = some (.int .i64 (f k)) := lt8c rfl rfl rfl rfl rfl rfl rfl rfl
theorem tb_set (f : Nat → Int) (v : Int) : ∀ k, k < 8 → (tb f).setIfInBounds k (.int .i64 v) = tb (updF f k v) := lt8c rfl rfl rfl rfl rfl rfl rfl rfl
theorem tb_ext {f g : Nat → Int} (h : ∀ k, k < 8 → f k = g k) : tb f = tb g := by
  unfold tb
  rw [h 0 (by omega), h 1 (by omega), h 2 (by omega), h 3 (by omega), h 4 (by omega), h 5 (by omega), h 6 (by omega), h 7 (by omega)]
theorem tb_one (f : Nat → Int) : (tb f).all (·.oneCell') = true := by simp [tb, Value.oneCell']
theorem tb_size (f : Nat → Int) : (tb f).size = 8 := rfl
theorem tb_info (f : Nat → Int) : (Tryd.prog.info? 73).map (·.size) = some (tb f).size := by rw [tb_size]; kernel_rfl
/-- Are two tables the same? -/
def tbEq (f g : Nat → Int) : Bool := f 0 == g 0 && (f 1 == g 1 && (f 2 == g 2 && (f 3 == g 3 && (f 4 == g 4 && (f 5 == g 5 && (f 6 == g 6 && f 7 == g 7))))))
theorem tbEq_iff (f g : Nat → Int) : tbEq f g = true ↔ ∀ k, k < 8 → f k = g k := by
  unfold tbEq
  simp only [Bool.and_eq_true, beq_iff_eq]
  constructor
  · rintro ⟨h0, h1, h2, h3, h4, h5, h6, h7⟩
    exact lt8c h0 h1 h2 h3 h4 h5 h6 h7
  · intro h
    exact ⟨h 0 (by omega), h 1 (by omega), h 2 (by omega), h 3 (by omega), h 4 (by omega), h 5 (by omega), h 6 (by omega), h 7 (by omega)⟩
theorem infoI : ∃ i, Tryd.prog.info? 3 = some i ∧ i.size = 1 := by
  have h : (Tryd.prog.info? 3).map (·.size) = some 1 := by kernel_rfl
  cases hi : Tryd.prog.info? 3 with
  | none => rw [hi] at h; cases h
  | some i => rw [hi] at h; exact ⟨i, rfl, by simpa using h⟩
theorem eqIn_tb (d : Nat) (f g : Nat → Int) (w : World) : (Op.equalIn (d + 2) 73 (.agg (tb f)) (.agg (tb g))).run Tryd.prog w = .ok (tbEq f g) w := by
  obtain ⟨i, hi, -⟩ := infoI
  rw [run_equalIn_array w (d + 1) (tb f) (tb g) Tryd.underlying73 hi, show Tryd.prog.cellsOf 3 = 1 by kernel_rfl]
  have hr : List.range 8 = [0, 1, 2, 3, 4, 5, 6, 7] := by decide
  rw [hr]
  simp [Op.eqItems, tb, go_sem, part, tbEq]
  repeat' split
  all_goals simp_all
theorem run_eql_tb (f g : Nat → Int) (w : World) : (Go.binOp .eql 73 (.agg (tb f)) (.agg (tb g))).run Tryd.prog w = .ok (.bool (tbEq f g)) w := by
  have h : (Op.equal 73 (.agg (tb f)) (.agg (tb g))).run Tryd.prog w = .ok (tbEq f g) w := eqIn_tb 9998 f g w
  simp [Go.binOp, h]
theorem run_index_tb (f : Nat → Int) (w : World) : ∀ k : Nat, k < 8 → (Instr.index 73 (.agg (tb f)) (.int .i64 (k : Int))).run Tryd.prog w = .ok (.int .i64 (f k)) w := by
  refine lt8c ?_ ?_ ?_ ?_ ?_ ?_ ?_ ?_
  all_goals simp [Instr.index, run_underlying Tryd.underlying73, go_sem, part, asIntOf, tb]
set_option maxHeartbeats 2000000 in
theorem cEmpty_any (w : World) : Calls Tryd.prog 60 #[] w fun e w' => e = .returned (.agg (tb (fun _ => 16))) ∧ Below w.heap.size w w' := by
  obtain ⟨Z, hZ⟩ : ∃ Z, Z = w.heap.size := ⟨_, rfl⟩
  have HZ := Lib.hid hZ
  go_enter Tryd.func60, Tryd.ntmps60
  go_upto_region 2 with fail
  rw [← hZ]
  generalize hw2 : World.alloc _ _ = w2
  have H2 := Lib.hid (show Below w.heap.size w w2 ∧ RowAt w2 Z 73 (tb (fun _ => 0)) ∧ RowAt w2 (Z + 1) 73 (tb (fun _ => 0)) by
    rw [← hw2]
    refine ⟨((Below.refl _ _).alloc (Nat.le_refl _) _).alloc (by simp) _, ?_, ?_⟩
    · rw [hZ]; exact (RowAt.mk w 73 (tb (fun _ => 0))).new ((Below.refl _ _).alloc (Nat.le_refl _) _)
    · have := RowAt.mk (w.alloc (.cells (tb (fun _ => 0)) 73)) 73 (tb (fun _ => 0))
      rw [World.size_alloc, ← hZ] at this
      exact this)
  clear hw2 hZ
  go_wp2
  go_loopg [3] 8 (fun g v wr => ∃ k : Nat, k + g = 8 ∧ v = .int .i64 (k : Nat) ∧ Aside (Below w.heap.size w wr ∧ RowAt wr Z 73 (tb (fun _ => 0)) ∧ RowAt wr (Z + 1) 73 (tb (fun j => if j < k then 16 else 0))))
  case atStart => exact ⟨0, by omega, rfl, H2.out.1, H2.out.2.1, H2.out.2.2⟩
  case round =>
    obtain ⟨k, hkg, rfl, HR⟩ := hrel
    clear H2
    cases gk with
    | zero =>
      obtain rfl : k = 8 := by omega
      go_wp2_with (first
        | (refine wpList_load_row rfl 73 (.tmp 1) rfl (Z + 1) rfl 73 _ (0, 0) _ HR.out.2.2 Tryd.underlying73 rfl (tb_info _) ?_)
        | (refine wpList_store_row rfl 73 (.tmp 0) (.tmp 9) rfl Z _ rfl rfl 73 _ HR.out.2.1 (tb_info _) rfl (tb_one _) ?_)
        | fail)
      refine bodyPost_ret (results_cell_row rfl _ _ Z 73 _ (0, 0) _ rfl HR.out.2.1.put Tryd.underlying73 rfl (tb_info _)) rfl ?_
      exact ⟨by rw [tb_ext (f := fun j => if j < 8 then 16 else 0) (g := fun _ => 16) (fun k hk => by simp [hk])], below_row HR.out.1 (Nat.le_refl _) (Nat.le_of_eq HZ.out.symm) _⟩
    | succ g1 =>
      have hk : k < 8 := by omega
      have c0 := (HR.out.2.2.cell k).trans (tb_at _ k hk)
      have f0 := HR.out.2.2.fr k
      have hk2 : (k : Int) < 8 := by omega
      go_wp2
      go_roundg g1
      case measure => omega
      case rel =>
        have hz := HZ.out
        refine ⟨k + 1, by omega, by go_num, HR.out.1.trans ((Ch.refl _ _).setCell _ _ (.inl rfl) |>.below (fun j hj e => ?_) HR.out.1.size), HR.out.2.1.keep ((Ch.refl _ _).setCell _ _ (.inl rfl)) (fun e : Z + 1 = Z => by omega), ?_⟩
        · have : Z + 1 = j := e
          omega
        · have h := HR.out.2.2.setC k (.int .i64 16)
          rw [tb_set _ 16 k hk] at h
          rw [tb_ext (g := updF (fun j => if j < k then 16 else 0) k 16) (fun j hj => ?_)]
          · exact h
          · unfold updF
            by_cases e : j = k
            · subst e; simp
            · rw [if_neg e]
              have : (j < k + 1) ↔ (j < k) := by omega
              simp [this]
/-- A resource's ceiling. -/
def tbAt (f : Nat → Int) (r : Int) : Int := if 0 ≤ r ∧ r < 8 then f r.toNat else 16
/-- As which task one goes. -/
def tbLv (f : Nat → Int) (t r : Int) : Int := if r < 0 then t else min t (tbAt f r)
/-- The resources whose ceiling is a task, or one ahead of it. -/
def tbOv (f : Nat → Int) (t : Int) (n : Nat) : BitVec 32 := pre (fun j => decide (f j ≤ t ∧ f j < 16)) n
theorem onl_nat (k : Nat) (hk : k < 32) : onl (k : Int) = 1#32 <<< k := by unfold onl; rw [if_pos (by omega), Int.toNat_natCast]
set_option maxHeartbeats 2000000 in
theorem cOver_any (f : Nat → Int) (t : Int) (w : World) : Calls Tryd.prog 67 #[.agg (tb f), .int .i64 t] w fun e w' => e = .returned (.int .u32 (w32 (tbOv f t 8))) ∧ Below w.heap.size w w' := by
  have HB := Lib.hid (show Below w.heap.size w (w.alloc (.cells (tb f) 73)) from (Below.refl _ _).alloc (Nat.le_refl _) _)
  have hrow := RowAt.mk w 73 (tb f)
  have hi := tb_info f
  have HX := Lib.hid (fun (k : Nat) (hk : k < 8) (wx : World) => run_index_tb f wx k hk)
  obtain ⟨T, hT⟩ : ∃ T, tb f = T := ⟨_, rfl⟩
  rw [hT] at HB hrow hi HX ⊢
  have HR := Lib.hid (And.intro hrow hi)
  clear hT hrow hi
  go_enter Tryd.func67, Tryd.ntmps67
  go_wp2_with (refine wpList_load_row rfl 73 (.tmp 2) rfl w.heap.size rfl 73 T (0, 0) _ HR.out.1 Tryd.underlying73 rfl HR.out.2 ?_)
  generalize hw2 : World.alloc _ _ = w2 at HB HR ⊢
  clear hw2
  go_loopg [5, 9] 8 (fun g s v wr => ∃ k : Nat, k + g = 8 ∧ v = .int .i64 (k : Nat) ∧ s = .int .u32 (w32 (tbOv f t k)) ∧ Aside (w2 = wr))
  case atStart => exact ⟨0, by omega, rfl, rfl, rfl⟩
  case round =>
    obtain ⟨k, hkg, rfl, rfl, hw⟩ := hrel
    obtain rfl := hw.out
    clear hw
    cases gk with
    | zero =>
      obtain rfl : k = 8 := by omega
      go_wp2
      go_ret
      exact ⟨rfl, HB.out⟩
    | succ g1 =>
      have hk : k < 8 := by omega
      have hk2 : (k : Int) < 8 := by omega
      have hx := HX.out k hk
      have HS := Lib.hid (show tbOv f t (k + 1) = if (decide (f k ≤ t ∧ f k < 16)) = true then tbOv f t k ||| 1#32 <<< k else tbOv f t k from rfl)
      have HWi := Lib.hid (show ∀ wx, _ from fun wx => with_any (tbOv f t k) k wx)
      rw [onl_nat k (by omega)] at HWi
      obtain ⟨y, hy⟩ : ∃ y, f k = y := ⟨_, rfl⟩
      rw [hy] at hx HS
      clear hy
      by_cases h1 : y ≤ t
      · by_cases h2 : y < 16
        · have HD := Lib.hid (decide_eq_true (⟨h1, h2⟩ : y ≤ t ∧ y < 16))
          go_wp2_with (go_at_call 85; refine (HWi.out _).mono ?_; rintro e w' ⟨rfl, rfl⟩)
          go_roundg g1
          case measure => omega
          case rel => exact ⟨k + 1, by omega, by go_num, by rw [HS.out, if_pos HD.out], rfl⟩
        · have HD := Lib.hid (decide_eq_false (fun h : y ≤ t ∧ y < 16 => h2 h.2))
          go_wp2
          go_roundg g1
          case measure => omega
          case rel => exact ⟨k + 1, by omega, by go_num, by rw [HS.out, if_neg (by rw [HD.out]; decide)], rfl⟩
      · have HD := Lib.hid (decide_eq_false (fun h : y ≤ t ∧ y < 16 => h1 h.1))
        go_wp2
        go_roundg g1
        case measure => omega
        case rel => exact ⟨k + 1, by omega, by go_num, by rw [HS.out, if_neg (by rw [HD.out]; decide)], rfl⟩
end Go.Proofs.YtchmdnmifpjfkaaDoor
/- The law of text Foot on a range over a function, where the loop's own variables are boxed: what a round assigns lies behind the loop's record. No statement about the program. -/
namespace Go.Proofs.YtchmdnmifpjfkaaDoor
open Go.RowKit
variable {P : Program}

/-- THE LOOP: the rounds' invariant I (and Ix, where a round has left by a jump) lies within the footprint F; all else the iterator may turn. -/
theorem wpIn_rangeF2 {g : Operand} {ps : Array Tmp} {assign body : Code} {Q : Exit → Act → World → Prop} {a : Act} {w : World}
    {gf : Nat} {lb : Array Value} (hg : a.eval g = .func (.func gf) #[] lb) (eg : ∀ args w, (callFunc gf args).run P w = .ok (.enter gf args) w)
    (N : Nat) (args : Nat → Array Value) (hps : ∀ k, (args k).size = ps.size) (F : World → Nat → Prop)
    (I : Nat → World → Prop) (Ix : Code → Nat → World → Prop) (fI : ∀ k, Foot F (I k)) (fX : ∀ c k, Foot F (Ix c k))
    (h0 : I 0 w) (Ax : Nat → Act → World → Prop)
    (hAx : ∀ k a' W W', Ax k a' W → Ch (fun j => j = w.heap.size + 1) W W' → Ax k a' W')
    (hit : ∀ J Jx W1, w.heap.size + 2 = W1.heap.size → Below w.heap.size w W1 →
      (∀ k W, J k W → I k W ∧ w.heap.size + 2 ≤ W.heap.size) → (∀ k W, Jx k W → (∃ c, Ix c k W) ∧ w.heap.size + 2 ≤ W.heap.size) →
      (∀ k, Foot (fun W j => F W j ∨ j = w.heap.size ∨ j = w.heap.size + 1) (J k)) → (∀ k, Foot (fun W j => F W j ∨ j = w.heap.size ∨ j = w.heap.size + 1) (Jx k)) →
      RoundsF P (w.heap.size + 1) N args (fun W j => F W j ∨ j = w.heap.size ∨ j = w.heap.size + 1) J Jx → J 0 W1 →
      Iter P gf lb (w.heap.size + 1) N J Jx W1)
    (hassign : ∀ k W (K : Act → World → Prop), I k W → k < N → w.heap.size + 2 ≤ W.heap.size → (∀ a' W', Ax k a' W' → Ch (fun _ => False) W W' → I k W' → (∀ j, F W' j → F W j) → K a' W') →
      assign.wpIn (Fence.wide.inRound (w.heap.size + 1)) 0 P (Exit.then K (fun _ _ _ => False)) { tmps := (ps.zip (args k)).foldl (fun t (p, v) => t.setIfInBounds p v) a.tmps, defers := [] } W)
    (hbody : ∀ k a' W, I k W → k < N → Ax k a' W → w.heap.size + 2 ≤ W.heap.size → body.wpIn (Fence.wide.inRound (w.heap.size + 1)) 0 P (roundEndF F I Ix (k + 1) W) a' W)
    (hdone : ∀ W, I N W → W.heap[w.heap.size]? = some (.deferred (some [])) → ¬ F W w.heap.size → w.heap.size + 2 ≤ W.heap.size → Q .normal { a with defers := { target := .collected w.heap.size, args := #[] } :: a.defers } W)
    (hstop : ∀ c k W, k ≤ N → Ix c k W → W.heap[w.heap.size]? = some (.deferred (some [])) → ¬ F W w.heap.size → w.heap.size + 2 ≤ W.heap.size → c.wpIn Fence.wide 0 P Q { a with defers := { target := .collected w.heap.size, args := #[] } :: a.defers } W) :
    (Code.rangeFunc g ps assign body).wpIn Fence.wide 0 P Q a w := by
  refine wpIn_rangeFunc fun fn hfn => ?_
  let mk : LoopState → Option Code → Obj := fun st pe => .loop { state := st, pending := pe, fn, tmps := a.tmps, params := ps, assign, body, defers := w.heap.size }
  let D := w.heap.size
  let l := w.heap.size + 1
  let FJ : World → Nat → Prop := fun W j => F W j ∨ j = D ∨ j = l
  let W1 := (w.alloc (.deferred (some []))).alloc (mk .ready none)
  have z1 : W1.heap.size = w.heap.size + 2 := by simp [W1]
  have l1 : W1.heap[l]? = some (mk .ready none) := by
    have := World.alloc_heap_new (w.alloc (.deferred (some []))) (mk .ready none); rwa [World.size_alloc] at this
  have d1 : W1.heap[D]? = some (.deferred (some [])) := by
    rw [Below.heap_alloc _ _ _ (by simp [D])]; exact World.alloc_heap_new w _
  have c1 : Ch (fun _ => False) w W1 := ((Ch.refl _ w).alloc _).alloc _
  have nl : ∀ {T : Nat → Prop} {W W' : World} {o : Obj} {j : Nat}, Ch T W W' → ¬ T j → W.heap[j]? = some o → W'.heap[j]? = some o := fun c ht h => c.obj h ht
  have i1 := (fI 0).keep w W1 h0 (Off.nothing c1)
  have n1 : ¬ F W1 l ∧ ¬ F W1 D := ⟨fun h => by have := (fI 0).lt w h0 _ (i1.2 _ h); simp [l] at this; omega, fun h => by have := (fI 0).lt w h0 _ (i1.2 _ h); simp [D] at this⟩
  have hDl : ¬ D = l := by simp [D, l]
  refine ⟨l, [{ target := .collected D, args := #[] }], W1, { target := .fn (.func gf) lb, args := #[.func (.yield l) #[] #[]] }, W1, gf, #[.func (.yield l) #[] #[]] ++ lb, W1,
    run_enterLoop_outer _ _ _ _ _, ?_, fun _ _ => trivial, ?_, fun h => absurd h (by simp [Fence.wide]), ?_⟩
  · simp only [resolve, hg]; simp [go_sem]
  · simp [invoke, go_sem, eg]
  let J : Nat → World → Prop := fun k W => I k W ∧ W.heap[l]? = some (mk .ready none) ∧ W.heap[D]? = some (.deferred (some [])) ∧ w.heap.size + 2 ≤ W.heap.size ∧ ¬ F W l ∧ ¬ F W D
  let Jx : Nat → World → Prop := fun k W => ∃ c, Ix c k W ∧ W.heap[l]? = some (mk .done (some c)) ∧ W.heap[D]? = some (.deferred (some [])) ∧ w.heap.size + 2 ≤ W.heap.size ∧ ¬ F W l ∧ ¬ F W D
  have offJ : ∀ {W W' : World}, Off FJ W W' → Off F W W' := fun h => Ch.mono h fun j _ hn hf => hn (.inl hf)
  have fJ : ∀ k, Foot FJ (J k) := fun k => ⟨fun W h j hj => by
      rcases hj with hj | rfl | rfl
      · exact (fI k).lt W h.1 j hj
      · have := h.2.2.2.1; simp only [D]; omega
      · have := h.2.2.2.1; simp only [l]; omega,
    fun W W' h hc => by
      have hi := (fI k).keep W W' h.1 (offJ hc)
      refine ⟨⟨hi.1, nl hc (fun h => h (.inr (.inr rfl))) h.2.1, nl hc (fun h => h (.inr (.inl rfl))) h.2.2.1, Nat.le_trans h.2.2.2.1 hc.size, fun hf => h.2.2.2.2.1 (hi.2 _ hf), fun hf => h.2.2.2.2.2 (hi.2 _ hf)⟩, fun j hj => ?_⟩
      rcases hj with hj | hj
      · exact .inl (hi.2 j hj)
      · exact .inr hj⟩
  have fJx : ∀ k, Foot FJ (Jx k) := fun k => ⟨fun W ⟨c, h⟩ j hj => by
      rcases hj with hj | rfl | rfl
      · exact (fX c k).lt W h.1 j hj
      · have := h.2.2.2.1; simp only [D]; omega
      · have := h.2.2.2.1; simp only [l]; omega,
    fun W W' ⟨c, h⟩ hc => by
      have hi := (fX c k).keep W W' h.1 (offJ hc)
      refine ⟨⟨c, hi.1, nl hc (fun h => h (.inr (.inr rfl))) h.2.1, nl hc (fun h => h (.inr (.inl rfl))) h.2.2.1, Nat.le_trans h.2.2.2.1 hc.size, fun hf => h.2.2.2.2.1 (hi.2 _ hf), fun hf => h.2.2.2.2.2 (hi.2 _ hf)⟩, fun j hj => ?_⟩
      rcases hj with hj | hj
      · exact .inl (hi.2 j hj)
      · exact .inr hj⟩
  have put : ∀ (W : World) (o : Obj), Ch (fun j => j = l) W (W.putObj l o) := fun W o => (Ch.refl _ W).putObj _ _ rfl
  have offput : ∀ {W : World} {o : Obj}, ¬ F W l → Off F W (W.putObj l o) := fun h => Off.of (put _ _) fun j hj => by subst hj; exact h
  refine (hit J Jx W1 z1.symm (((Below.refl _ w).alloc (Nat.le_refl _) _).alloc (by simp) _) (fun _ _ h => ⟨h.1, h.2.2.2.1⟩) (fun _ _ ⟨c, h⟩ => ⟨⟨c, h.1⟩, h.2.2.2.1⟩)
    fJ fJx ?_ ⟨i1.1, l1, d1, by omega, n1⟩).mono ?_
  · rintro k W ⟨hi, hl, hd, hz, hnl, hnD⟩ hk
    refine ⟨fn, _, assign, body, run_yield hl (hps k), roundIn_of_wpIn hfn (hassign k W _ hi hk hz fun a' W2 ha c2 hi2 hf2 => ?_)⟩
    have hl2 := nl c2 (fun h => h) hl
    refine ⟨_, run_beginRound hl2 rfl, ?_⟩
    have hnl2 : ¬ F W2 l := fun h => hnl (hf2 _ h)
    have cb := put W2 (mk .busy none)
    have hlb : (W2.putObj l (mk .busy none)).heap[l]? = some (mk .busy none) := World.putObj_heap_same (Array.getElem?_eq_some_iff.1 hl2).1
    have hdb := nl cb (fun h : D = l => hDl h) (nl c2 (fun h => h) hd)
    have ib := (fI k).keep W2 (W2.putObj l (mk .busy none)) hi2 (offput hnl2)
    have hnlb : ¬ F (W2.putObj l (mk .busy none)) l := fun h => hnl2 (ib.2 _ h)
    have hnDb : ¬ F (W2.putObj l (mk .busy none)) D := fun h => hnD (hf2 _ (ib.2 _ h))
    have zb : w.heap.size + 2 ≤ (W2.putObj l (mk .busy none)).heap.size := Nat.le_trans (Nat.le_trans hz c2.size) cb.size
    have cWb : Ch (fun j => FJ W j) W (W2.putObj l (mk .busy none)) := (c2.mono fun _ _ h => h.elim).trans (cb.mono fun j _ hj => .inr (.inr hj))
    have fWb : ∀ j, F (W2.putObj l (mk .busy none)) j → F W j := fun j h => hf2 _ (ib.2 _ h)
    refine wpIn_mono (hbody k a' _ ib.1 hk (hAx _ _ _ _ ha cb) zb) ?_
    have fin : ∀ (jump : Option Code) (W3 : World), Step F (W2.putObj l (mk .busy none)) W3 →
        ∃ W4, (Instr.endRound l jump).run P W3 = .ok (.bool jump.isNone) W4 ∧ Ch (fun j => j = l) W3 W4 ∧ Off F W3 W4 ∧ ¬ F W3 l ∧ ¬ F W3 D ∧
          W4.heap[l]? = some (mk (if jump.isNone then .ready else .done) jump) ∧ W4.heap[D]? = some (.deferred (some [])) ∧ Ch (FJ W) W W4 ∧ w.heap.size + 2 ≤ W4.heap.size ∧ (∀ j, F W3 j → F W j ∨ W.heap.size ≤ j) := fun jump W3 s3 => by
      have hn3 := s3.no hnlb (by omega)
      have hD3 := s3.no hnDb (by omega)
      have hl3 := nl s3.1 hnlb hlb
      have c4 := put W3 (mk (if jump.isNone then .ready else .done) jump)
      refine ⟨_, run_endRound jump hl3, c4, offput hn3, hn3, hD3, World.putObj_heap_same (Array.getElem?_eq_some_iff.1 hl3).1, nl c4 (fun h : D = l => hDl h) (nl s3.1 hnDb hdb), ?_, ?_, ?_⟩
      · refine (((cWb.mono (T' := fun j => FJ W j ∨ W.heap.size ≤ j) fun _ _ h => .inl h).trans (s3.1.mono fun j _ hj => .inl (.inl (fWb j hj)))).trans (c4.mono fun j _ hj => .inl (.inr (.inr hj)))).mono fun j hj h => ?_
        rcases h with h | h
        · exact h
        · omega
      · exact Nat.le_trans zb (Nat.le_trans s3.1.size c4.size)
      · intro j hj
        rcases s3.2 j hj with h | h
        · exact .inl (fWb j h)
        · exact .inr (Nat.le_trans cWb.size h)
    have stp : ∀ {W3 W4 : World}, Ch (FJ W) W W4 → (∀ j, F W4 j → F W3 j) → (∀ j, F W3 j → F W j ∨ W.heap.size ≤ j) → Step FJ W W4 := fun c h4 h3 => ⟨c, fun j hj => by
      rcases hj with hj | hj
      · rcases h3 _ (h4 _ hj) with h | h
        · exact .inl (.inl h)
        · exact .inr h
      · exact .inl (.inr hj)⟩
    have left : ∀ (c : Code) (a3 : Act) (W3 : World), Step F (W2.putObj l (mk .busy none)) W3 → Ix c (k + 1) W3 → ∃ W4, (Instr.endRound l (some c)).run P W3 = .ok (.bool false) W4 ∧ Jx (k + 1) W4 ∧ Step FJ W W4 := fun c a3 W3 s3 hx => by
      obtain ⟨W4, hr, c4, o4, hn3, hD3, hl4, hd4, call, z4, f3⟩ := fin (some c) W3 s3
      have i4 := (fX c (k + 1)).keep W3 W4 hx o4
      exact ⟨W4, hr, ⟨c, i4.1, hl4, hd4, z4, fun h => hn3 (i4.2 _ h), fun h => hD3 (i4.2 _ h)⟩, stp call i4.2 f3⟩
    rintro e a3 W3 hp
    cases e with
    | normal =>
      obtain ⟨W4, hr, c4, o4, hn3, hD3, hl4, hd4, call, z4, f3⟩ := fin none W3 hp.1
      have i4 := (fI (k + 1)).keep W3 W4 hp.2 o4
      exact ⟨_, _, hr, .inl ⟨rfl, ⟨i4.1, hl4, hd4, z4, fun h => hn3 (i4.2 _ h), fun h => hD3 (i4.2 _ h)⟩, stp call i4.2 f3⟩⟩
    | ret =>
      obtain ⟨W4, hr, hx, hs⟩ := left .ret a3 W3 hp.1 hp.2
      exact ⟨_, _, hr, .inr ⟨rfl, hx, hs⟩⟩
    | exit id =>
      obtain ⟨W4, hr, hx, hs⟩ := left (.exit id) a3 W3 hp.1 hp.2
      exact ⟨_, _, hr, .inr ⟨rfl, hx, hs⟩⟩
    | goto t =>
      obtain ⟨W4, hr, hx, hs⟩ := left (.goto t) a3 W3 hp.1 hp.2
      exact ⟨_, _, hr, .inr ⟨rfl, hx, hs⟩⟩
    | panic ch => exact hp.elim
    | outgrown => exact hp.elim
  · rintro e W2 ⟨⟨v, rfl⟩, (⟨hi, hl, hd, hz, hnl, hnD⟩ | ⟨k, hk, c, hi, hl, hd, hz, hnl, hnD⟩)⟩
    · exact ⟨none, _, run_endLoop hl (by simp), hdone _ ((fI N).keep W2 _ hi (offput hnl)).1 (nl (put _ _) (fun h : D = l => hDl h) hd) (fun h => hnD (((fI N).keep W2 _ hi (offput hnl)).2 _ h)) (by rw [World.putObj_size]; exact hz)⟩
    · exact ⟨some c, _, run_endLoop hl (by simp), hstop c k _ hk ((fX c k).keep W2 _ hi (offput hnl)).1 (nl (put _ _) (fun h : D = l => hDl h) hd) (fun h => hnD (((fX c k).keep W2 _ hi (offput hnl)).2 _ h)) (by rw [World.putObj_size]; exact hz)⟩

end Go.Proofs.YtchmdnmifpjfkaaDoor
/- The contracts of ceil's Covers, and of image's Uses. -/
namespace Go.Proofs.YtchmdnmifpjfkaaDoor
open Go.RowKit

/-- Does a table cover another one? -/
def tbCov (f g : Nat → Int) : Bool := tbEq (fun k => min (f k) (g k)) f
end Go.Proofs.YtchmdnmifpjfkaaDoor
/- The contracts of mask's Len, First and Of, and of math/bits' two functions beneath. -/
namespace Go.Proofs.YtchmdnmifpjfkaaDoor
open Go.RowKit

theorem and255 (n : Nat) (hn : n < 4294967296) : bits .and .u32 (n : Int) 255 = ((n % 256 : Nat) : Int) := by
  have h : bits .and .u32 (n : Int) ((255 : Nat) : Int) = ((n &&& 255 : Nat) : Int) := u32_and_nat n 255 hn (by omega)
  have e : n &&& 255 = n % 256 := Nat.and_two_pow_sub_one_eq_mod n 8
  rw [e] at h; exact h

/-- How many of the eight lowest bits are set. -/
def cnt8 (n : Nat) : Nat := ((List.range 8).filter n.testBit).length
theorem cnt8_le (n : Nat) : cnt8 n ≤ 8 := by
  unfold cnt8; have := List.length_filter_le n.testBit (List.range 8); simpa using this
theorem len_shift (x : BitVec 32) (d : Nat) (n : Nat) (h : ∀ i, i < 8 → n.testBit i = x.getLsbD (i + d)) : (((List.range 8).map (· + d)).filter x.getLsbD).length = cnt8 n := by
  unfold cnt8
  rw [List.filter_map, List.length_map]
  congr 1
  apply List.filter_congr
  intro i hi
  rw [h i (by simpa using hi)]
  rfl
theorem lst_cnt (x : BitVec 32) : (lst x 32).length = cnt8 (x.toNat / 16777216) + cnt8 (x.toNat / 65536 % 256) + cnt8 (x.toNat / 256 % 256) + cnt8 (x.toNat % 256) := by
  have hr : List.range 32 = (List.range 8).map (· + 0) ++ (List.range 8).map (· + 8) ++ (List.range 8).map (· + 16) ++ (List.range 8).map (· + 24) := by decide
  unfold lst
  rw [hr, List.filter_append, List.filter_append, List.filter_append, List.length_append, List.length_append, List.length_append]
  have hb : ∀ d i, x.getLsbD (i + d) = (x.toNat / 2 ^ d).testBit i := fun d i => by
    rw [Nat.testBit_div_two_pow, BitVec.getLsbD]
  have hm : ∀ n i, i < 8 → (n % 256).testBit i = n.testBit i := fun n i hi => by
    rw [show (256 : Nat) = 2 ^ 8 from rfl, Nat.testBit_mod_two_pow]; simp [hi]
  rw [len_shift x 0 (x.toNat % 256) (fun i hi => by rw [hm _ _ hi, hb]; simp), len_shift x 8 (x.toNat / 256 % 256) (fun i hi => by rw [hm _ _ hi, hb]),
    len_shift x 16 (x.toNat / 65536 % 256) (fun i hi => by rw [hm _ _ hi, hb]), len_shift x 24 (x.toNat / 16777216) (fun i hi => by rw [hb])]
  omega
theorem ones_fin (T : ByteArray) (hs : T.size = 256) (hT : ∀ i : Fin 256, (T.data.toList.getD i.val 0).toNat = cnt8 i.val) (x : BitVec 32) (y3 y2 y1 y0 : Nat) (l3 : y3 < 256) (l2 : y2 < 256) (l1 : y1 < 256) (l0 : y0 < 256)
    (h3 : x.toNat / 16777216 = y3) (h2 : x.toNat / 65536 % 256 = y2) (h1 : x.toNat / 256 % 256 = y1) (h0 : x.toNat % 256 = y0) :
    Ending.returned (.int .i64 (((T[y3]'(by omega)).toNat + (T[y2]'(by omega)).toNat + (T[y1]'(by omega)).toNat + (T[y0]'(by omega)).toNat : Int) % 256)) = .returned (.int .i64 ((lst x 32).length : Nat)) := by
  have g : ∀ (y : Nat) (hy : y < T.size), y < 256 → (T[y]'hy).toNat = cnt8 y := fun y hy hl => by
    rw [← hT ⟨y, hl⟩]
    have hl2 : y < T.data.toList.length := by simpa using hy
    simp only [List.getD_eq_getElem?_getD, List.getElem?_eq_getElem hl2, Option.getD_some]
    rfl
  rw [g y3 _ l3, g y2 _ l2, g y1 _ l1, g y0 _ l0, lst_cnt, h3, h2, h1, h0]
  have := cnt8_le y3; have := cnt8_le y2; have := cnt8_le y1; have := cnt8_le y0
  congr 2
  omega

def Tab (w : World) : Prop := Lib.TabIs Tryd.prog w "math/bits.deBruijn32tab" .u8 (Lib.deBruijn32tab.map Int.ofNat)
theorem global0 : Tryd.prog.globalNamed "math/bits.deBruijn32tab" = some 0 := by kernel_rfl
theorem Tab.below {w w' : World} {n : Nat} (h : Tab w) (hn : 0 < n) (hb : Below n w w') : Tab w' := by
  unfold Tab Lib.TabIs at h ⊢
  unfold World.var? at h ⊢
  rw [global0] at h ⊢
  simp only [Option.bind_some] at h ⊢
  rw [hb.block 0 hn]; exact h
theorem Tab.pos {w : World} (h : Tab w) : 0 < w.heap.size := by
  unfold Tab Lib.TabIs World.var? at h
  rw [global0] at h
  simp only [Option.bind_some] at h
  cases hh : w.heap[0]? with
  | none => rw [hh] at h; cases h
  | some o => exact (Array.getElem?_eq_some_iff.1 hh).1
theorem Tab.cell {w : World} (h : Tab w) (j : Nat) (hj : j < 32) : w.cell? ⟨0, j, none⟩ = some (.int .u8 ((Lib.deBruijn32tab.getD j 0 : Nat) : Int)) := by
  unfold Tab Lib.TabIs World.var? at h
  rw [global0] at h
  simp only [Option.bind_some] at h
  cases hh : w.heap[0]? with
  | none => rw [hh] at h; cases h
  | some o =>
    rw [hh] at h
    cases o with
    | cells cs t fr =>
      simp only [Option.some.injEq] at h
      unfold World.cell?
      simp only [hh, h]
      have hl : j < Lib.deBruijn32tab.length := hj
      simp [hl]
    | _ => cases h

theorem tz_any (x : BitVec 32) (w : World) (ht : Tab w) : Calls Tryd.prog 96 #[.int .u32 (w32 x)] w fun e w' => e = .returned (.int .i64 (Lib.ctz 32 x.toNat : Nat)) ∧ w = w' := by
  by_cases h0 : x.toNat = 0
  · have : w32 x = 0 := by unfold w32; omega
    rw [this]
    have hc : Lib.ctz 32 x.toNat = 32 := by rw [h0]; rfl
    rw [hc]
    go_enter Tryd.func96, Tryd.ntmps96
    go_wp2
    go_ret
    exact ⟨rfl, rfl⟩
  · have hne : (w32 x == 0) = false := by unfold w32; simpa using h0
    obtain ⟨hlow, hk⟩ := Lib.lowest_bit 32 x.toNat h0 x.isLt
    obtain ⟨hi, htab⟩ := Lib.deBruijn32_at _ hk
    have hcell := ht.cell _ hi
    rw [htab] at hcell
    obtain ⟨idx, hidx⟩ : ∃ idx, 2 ^ Lib.ctz 32 x.toNat * 125613361 % 4294967296 / 134217728 = idx := ⟨_, rfl⟩
    have key : bits .and .u32 (w32 x) (-w32 x % (4294967296 : Int)) * 125613361 % (4294967296 : Int) / (134217728 : Int) = (idx : Int) := by
      have e1 : -w32 x % (4294967296 : Int) = ((4294967296 - x.toNat : Nat) : Int) := by have := x.isLt; unfold w32; omega
      have e2 : bits .and .u32 (w32 x) ((4294967296 - x.toNat : Nat) : Int) = ((x.toNat &&& (4294967296 - x.toNat) : Nat) : Int) := u32_and_nat _ _ x.isLt (by omega)
      rw [e1, e2, show (4294967296 : Nat) = 2 ^ 32 from rfl, hlow, ← hidx]
      generalize 2 ^ Lib.ctz 32 x.toNat = P
      omega
    rw [hidx] at hi hcell
    clear hlow htab hidx
    go_enter Tryd.func96, Tryd.ntmps96
    go_wp2_with (simp only [key])
    go_ret
    exact ⟨rfl, rfl⟩
end Go.Proofs.YtchmdnmifpjfkaaDoor
/- The contracts of mask's First, Len and Of, and of the reference's In, Of, List and Between. -/
namespace Go.Proofs.YtchmdnmifpjfkaaDoor
open Go.RowKit

theorem ctz_bits {n : Nat} (h0 : n ≠ 0) (h : n < 2 ^ 32) : Lib.ctz 32 n < 32 ∧ n.testBit (Lib.ctz 32 n) = true ∧ ∀ i, i < Lib.ctz 32 n → n.testBit i = false := by
  have hc : Lib.ctz 32 n = Lib.ctzFrom 32 n := by unfold Lib.ctz; rw [if_neg h0]
  obtain ⟨m, hm, hl⟩ := Lib.ctzFrom_spec 32 n (by omega) h
  rw [← hc] at hm hl
  clear hc
  generalize Lib.ctz 32 n = c at hm hl ⊢
  refine ⟨hl, ?_, ?_⟩
  · rw [hm, Nat.testBit_two_pow_mul]; simp
  · intro i hi
    rw [hm, Nat.testBit_two_pow_mul]; simp; omega
theorem lst_zero : lst 0#32 32 = [] := by decide
theorem lst_head {x : BitVec 32} (h0 : x.toNat ≠ 0) : (lst x 32).headD 0 = Lib.ctz 32 x.toNat ∧ 0 < (lst x 32).length := by
  obtain ⟨h1, h2, h3⟩ := ctz_bits h0 x.isLt
  have hh : (lst x 32).head? = some (Lib.ctz 32 x.toNat) := by
    unfold lst
    rw [List.head?_filter, List.find?_range_eq_some]
    refine ⟨h2, by simpa using h1, fun j hj => ?_⟩
    show (!x.toNat.testBit j) = true
    rw [h3 j hj]; rfl
  cases hl : lst x 32 with
  | nil => rw [hl] at hh; cases hh
  | cons a l => rw [hl] at hh; simp at hh; simp [hh]

theorem first_any (x : BitVec 32) (w : World) (ht : Tab w) : Calls Tryd.prog 81 #[.int .u32 (w32 x)] w fun e w' => e = .returned (.tuple #[.int .i64 ((lst x 32).headD 0 : Nat), .bool (decide (0 < (lst x 32).length))]) ∧ w = w' := by
  by_cases h0 : x.toNat = 0
  · obtain rfl : x = 0#32 := by apply BitVec.eq_of_toNat_eq; simpa using h0
    rw [lst_zero]
    go_enter Tryd.func81, Tryd.ntmps81
    go_wp2
    go_ret2
    exact ⟨rfl, rfl⟩
  · have hne : (w32 x == 0) = false := by unfold w32; simpa using h0
    obtain ⟨h1, h2⟩ := lst_head h0
    rw [h1]
    have h3 : decide (0 < (lst x 32).length) = true := by simpa using h2
    rw [h3]
    clear h1 h2 h3
    go_enter Tryd.func81, Tryd.ntmps81
    go_wp2_with (go_at_call 96; refine (tz_any _ _ ht).mono ?_; rintro e w' ⟨rfl, rfl⟩)
    go_ret2
    exact ⟨rfl, rfl⟩

/-- Where a slice's ints lie. -/
def Lies (w : World) (sp : Option Addr) (b off : Nat) (l : List Int) : Prop :=
  (0 < l.length → sp = some ⟨b, off, none⟩ ∧ b < w.heap.size) ∧ ∀ k, k < l.length → w.cell? ⟨b, off + k, none⟩ = some (.int .i64 (nth l k))
theorem Lies.below {w w' : World} {sp : Option Addr} {b off n : Nat} {l : List Int} (h : Lies w sp b off l) (hb : Below n w w') (hn : 0 < l.length → b < n) : Lies w' sp b off l :=
  ⟨fun h0 => ⟨(h.1 h0).1, Nat.lt_of_lt_of_le (h.1 h0).2 hb.size⟩, fun k hk => by rw [hb.cell (p := ⟨b, off + k, none⟩) (hn (by omega))]; exact h.2 k hk⟩

end Go.Proofs.YtchmdnmifpjfkaaDoor
/- The contracts of what mask's All and ready's All hand back: the closures, and what they go through. -/
namespace Go.Proofs.YtchmdnmifpjfkaaDoor
open Go.RowKit
attribute [local go_sem] Oper.semAt_some

theorem lst_rest (y : BitVec 32) (h : Nat) (t : List Nat) (e : lst y 32 = h :: t) : lst (y &&& ~~~onl (h : Int)) 32 = t := by
  have hnd : (lst y 32).Nodup := by
    unfold lst; exact List.Pairwise.filter _ List.nodup_range
  rw [e] at hnd
  have hn : h ∉ t := (List.nodup_cons.1 hnd).1
  have h1 : lst (y &&& ~~~onl (h : Int)) 32 = (lst y 32).filter (fun i => decide (i ≠ h)) := by
    unfold lst
    rw [List.filter_filter]
    apply List.filter_congr
    intro i hi
    have hi' : i < 32 := by simpa using hi
    rw [BitVec.getLsbD_and, BitVec.getLsbD_not, onl_bit _ i hi']
    by_cases e : i = h
    · subst e; simp
    · have : ¬ ((i : Int) = (h : Int)) := by omega
      simp [hi', e, this]
  rw [h1, e, List.filter_cons]
  simp
  intro a ha e
  exact hn (e ▸ ha)

theorem All_any (x : BitVec 32) (w : World) : Calls Tryd.prog 53 #[.int .u32 (w32 x)] w fun e w' => e = .returned (.func (.func 80) #[] #[.pointer (some ⟨w.heap.size, 0, none⟩)]) ∧ w' = w.alloc (.cells #[.int .u32 (w32 x)] 31) := by
  have hmf : ∀ (fn : Fn) (first cap : Array Value) (w : World), (Instr.makeFunc fn first cap).run Tryd.prog w = .ok (.func fn first cap) w := fun _ _ _ _ => rfl
  go_enter Tryd.func53, Tryd.ntmps53
  go_wp2
  go_ret
  exact ⟨rfl, rfl⟩
theorem all_in (l Bs : Nat) (x : BitVec 32) (F : World → Nat → Prop) (J Jx : Nat → World → Prop) (W : World)
    (hT0 : ∀ k W', J k W' → Tab W') (hs0 : W.cell? ⟨Bs, 0, none⟩ = some (.int .u32 (w32 x)))
    (hR : RoundsF Tryd.prog l (lst x 32).length (fun k => #[.int .i64 (nth (ints (lst x 32)) k)]) F J Jx) (h0 : J 0 W) :
    Iter Tryd.prog 80 #[.pointer (some ⟨Bs, 0, none⟩)] l (lst x 32).length J Jx W := by
  refine callsIn_of_wp Tryd.func80 rfl trivial ?_ rfl
  simp only [Tryd.ntmps80, List.size_toArray, List.length_cons, List.length_nil, Nat.reduceAdd, Nat.reduceSub, Array.replicate_succ, Array.replicate_zero, List.push_toArray, List.append_toArray, List.nil_append, List.cons_append]
  have HF := fun (y : BitVec 32) k W' (hJ : J k W') => Lib.hid (first_any y W' (hT0 k W' hJ))
  clear hT0
  gi_wp2_with (refine ⟨trivial, rfl, ?_⟩; gi_at_call 81; refine (callsIn_wide.2 (HF x 0 W h0).out).mono ?_; rintro e w' ⟨rfl, rfl⟩)
  clear hs0
  gi_loopg [3, 4, 5] (lst x 32).length (fun g v n ok wr => ∃ (k : Nat) (y : BitVec 32), k + g = (lst x 32).length ∧ v = .int .u32 (w32 y) ∧ n = .int .i64 ((lst y 32).headD 0 : Nat) ∧ ok = .bool (decide (0 < (lst y 32).length)) ∧ Aside (lst y 32 = (lst x 32).drop k) ∧ Aside (J k wr))
  case atStart => exact ⟨0, x, by omega, rfl, by rw [List.headD_eq_head?_getD], rfl, rfl, h0⟩
  case round =>
    obtain ⟨k, y, hkg, rfl, rfl, rfl, HS, HJk⟩ := hrel
    cases gk with
    | zero =>
      have hy : lst y 32 = [] := by rw [HS.out, List.drop_of_length_le (by omega)]
      have hd : decide (0 < (lst y 32).length) = false := by rw [hy]; rfl
      rw [hd]
      obtain rfl : k = (lst x 32).length := by omega
      clear hy hd
      gi_wp2
      go_end0
      exact ⟨⟨_, rfl⟩, .inl HJk.out⟩
    | succ g1 =>
      have hlt : k < (lst x 32).length := by omega
      obtain ⟨h, t, hy⟩ : ∃ h t, lst y 32 = h :: t := by
        cases hl : lst y 32 with
        | nil => rw [hl] at HS; have := congrArg List.length HS.out; simp at this; omega
        | cons h t => exact ⟨h, t, rfl⟩
      have hd : decide (0 < (lst y 32).length) = true := by rw [hy]; rfl
      have hh : (lst y 32).headD 0 = h := by rw [hy]; rfl
      have hcons : h :: t = (lst x 32).drop k := by rw [← hy]; exact HS.out
      have hat : nth (ints (lst x 32)) k = (h : Int) := by
        have h1 : (lst x 32)[k]? = some h := by
          have := congrArg (·[0]?) hcons
          simpa using this.symm
        unfold nth ints
        simp [h1]
      have htl : t = (lst x 32).drop (k + 1) := by
        have := congrArg List.tail hcons
        simpa using this
      have hre := lst_rest y h t hy
      rw [hd, hh]
      obtain ⟨z, hz⟩ : ∃ z, y &&& ~~~onl (h : Int) = z := ⟨_, rfl⟩
      rw [hz] at hre
      have HW := fun W' => Lib.hid (without_any y h W')
      rw [hz] at HW
      have HTL := Lib.hid (hre.trans htl)
      obtain ⟨fn, tmps, assign, body, hyd, hRo⟩ := hR k wr HJk.out hlt
      dsimp only at hyd
      rw [hat] at hyd
      clear hre htl hat hcons hh hd hz
      gi_wp2
      refine ⟨rfl, hRo.mono ?_⟩
      rintro e W3 (⟨rfl, hJ3, hc3⟩ | ⟨rfl, hJx3, -⟩)
      · have HJ3 := Lib.hid hJ3
        have HF3 := HF z _ W3 hJ3
        clear hJ3 hyd
        gi_wp2_with (first
          | (refine ⟨trivial, rfl, ?_⟩; gi_at_call 82; refine (callsIn_wide.2 (HW _).out).mono ?_; rintro e w' ⟨rfl, rfl⟩)
          | (refine ⟨trivial, rfl, ?_⟩; gi_at_call 81; refine (callsIn_wide.2 HF3.out).mono ?_; rintro e w' ⟨rfl, rfl⟩))
        go_roundg g1
        case measure => omega
        case rel => exact ⟨k + 1, z, by omega, rfl, by rw [List.headD_eq_head?_getD], rfl, HTL.out, HJ3.out⟩
      · gi_wp2
        refine bodyPost_ret (results_none rfl _ _ _) rfl ?_
        exact ⟨⟨_, rfl⟩, .inr ⟨k + 1, by omega, hJx3⟩⟩
end Go.Proofs.YtchmdnmifpjfkaaDoor
/- What image's Uses goes through. -/
namespace Go.Proofs.YtchmdnmifpjfkaaDoor
open Go.RowKit
attribute [local go_sem] Oper.semAt_some

/-- The resources that are used, of the first n. -/
def usesK (f : Nat → Int) (n : Nat) : List Nat := (List.range n).filter (fun r => decide (0 < f r))
theorem usesK_yes {f : Nat → Int} {n : Nat} (h : 0 < f n) : usesK f (n + 1) = usesK f n ++ [n] := by
  unfold usesK; rw [List.range_succ, List.filter_append]; simp [h]
theorem usesK_no {f : Nat → Int} {n : Nat} (h : ¬ 0 < f n) : usesK f (n + 1) = usesK f n := by
  unfold usesK; rw [List.range_succ, List.filter_append]; simp; omega
theorem usesK_pre (f : Nat → Int) {m : Nat} : ∀ n, n ≤ m → ∃ l, usesK f m = usesK f n ++ l := by
  induction m with
  | zero =>
    intro n hn
    obtain rfl : n = 0 := by omega
    exact ⟨[], (List.append_nil _).symm⟩
  | succ m ih =>
    intro n hn
    by_cases e : n = m + 1
    · subst e; exact ⟨[], (List.append_nil _).symm⟩
    · obtain ⟨l, hl⟩ := ih n (by omega)
      by_cases h : 0 < f m
      · exact ⟨l ++ [m], by rw [usesK_yes h, hl, List.append_assoc]⟩
      · exact ⟨l, by rw [usesK_no h, hl]⟩
theorem usesK_at {f : Nat → Int} {n : Nat} (hn : n < 8) (h : 0 < f n) : (usesK f n).length < (usesK f 8).length ∧ (usesK f 8).getD (usesK f n).length 0 = n := by
  obtain ⟨l, hl⟩ := usesK_pre f (n + 1) (show n + 1 ≤ 8 by omega)
  rw [usesK_yes h] at hl
  rw [hl]
  constructor
  · simp
  · simp
/-- What is handed over in a round. -/
def usesA (f : Nat → Int) (k : Nat) : Array Value := #[.int .i64 ((usesK f 8).getD k 0 : Nat), .int .i64 (f ((usesK f 8).getD k 0))]
theorem run_index_a8c (f : Nat → Int) (w : World) : ∀ k : Nat, k < 8 → (Instr.index 68 (.agg (tb f)) (.int .i64 (k : Int))).run Tryd.prog w = .ok (.int .i64 (f k)) w := by
  refine lt8c ?_ ?_ ?_ ?_ ?_ ?_ ?_ ?_
  all_goals simp [Instr.index, run_underlying Tryd.underlying68, go_sem, part, asIntOf, tb]
theorem a8_info (f : Nat → Int) : (Tryd.prog.info? 68).map (·.size) = some (tb f).size := by rw [tb_size]; kernel_rfl
theorem Uses_any (T : Array Value) (w : World) : Calls Tryd.prog 62 #[.agg T] w fun e w' => e = .returned (.func (.func 91) #[] #[.pointer (some ⟨w.heap.size, 0, none⟩)]) ∧ w' = w.alloc (.cells T 70) := by
  have hmf : ∀ (fn : Fn) (first cap : Array Value) (w : World), (Instr.makeFunc fn first cap).run Tryd.prog w = .ok (.func fn first cap) w := fun _ _ _ _ => rfl
  go_enter Tryd.func62, Tryd.ntmps62
  go_wp2
  go_ret
  exact ⟨rfl, rfl⟩
set_option maxHeartbeats 2000000 in
theorem uses_in (l Ts : Nat) (f : Nat → Int) (F : World → Nat → Prop) (J Jx : Nat → World → Prop) (W : World)
    (hs0 : W.rangeAt Ts 3 (tb f).toList) (hR : RoundsF Tryd.prog l (usesK f 8).length (usesA f) F J Jx) (h0 : J 0 W) :
    Iter Tryd.prog 91 #[.pointer (some ⟨Ts, 0, none⟩)] l (usesK f 8).length J Jx W := by
  refine callsIn_of_wp Tryd.func91 rfl trivial ?_ rfl
  simp only [Tryd.ntmps91, List.size_toArray, List.length_cons, List.length_nil, Nat.reduceAdd, Nat.reduceSub, Array.replicate_succ, Array.replicate_zero, List.push_toArray, List.append_toArray, List.nil_append, List.cons_append]
  have HX := Lib.hid (show ∀ (k : Nat), k < 8 → ∀ (wx : World), (Instr.index 68 (.agg #[.int .i64 (f 0), .int .i64 (f 1), .int .i64 (f 2), .int .i64 (f 3), .int .i64 (f 4), .int .i64 (f 5), .int .i64 (f 6), .int .i64 (f 7)]) (.int .i64 (k : Int))).run Tryd.prog wx = .ok (.int .i64 (f k)) wx from fun k hk wx => run_index_a8c f wx k hk)
  have HR := Lib.hid hR
  have c3 : W.cell? ⟨Ts, 3, none⟩ = some (.int .i64 (f 0)) := hs0 0 _ rfl
  have c4 : W.cell? ⟨Ts, 4, none⟩ = some (.int .i64 (f 1)) := hs0 1 _ rfl
  have c5 : W.cell? ⟨Ts, 5, none⟩ = some (.int .i64 (f 2)) := hs0 2 _ rfl
  have c6 : W.cell? ⟨Ts, 6, none⟩ = some (.int .i64 (f 3)) := hs0 3 _ rfl
  have c7 : W.cell? ⟨Ts, 7, none⟩ = some (.int .i64 (f 4)) := hs0 4 _ rfl
  have c8 : W.cell? ⟨Ts, 8, none⟩ = some (.int .i64 (f 5)) := hs0 5 _ rfl
  have c9 : W.cell? ⟨Ts, 9, none⟩ = some (.int .i64 (f 6)) := hs0 6 _ rfl
  have c10 : W.cell? ⟨Ts, 10, none⟩ = some (.int .i64 (f 7)) := hs0 7 _ rfl
  have HAt := Lib.hid (fun (n : Nat) (hn : n < 8) (h : 0 < f n) => usesK_at hn h)
  have HYs := Lib.hid (fun (n : Nat) (h : 0 < f n) => usesK_yes h)
  have HNo := Lib.hid (fun (n : Nat) (h : ¬ 0 < f n) => usesK_no h)
  clear hs0 hR
  gi_wp2
  clear c3 c4 c5 c6 c7 c8 c9 c10
  gi_loopg [7] 8 (fun gh i wr => ∃ k : Nat, k + gh = 8 ∧ i = .int .i64 (k : Nat) ∧ Aside (J (usesK f k).length wr))
  case atStart => exact ⟨0, by omega, rfl, h0⟩
  case round =>
    obtain ⟨k, hkg, rfl, HK⟩ := hrel
    cases gk with
    | zero =>
      obtain rfl : k = 8 := by omega
      gi_wp2
      go_end0
      exact ⟨⟨_, rfl⟩, .inl HK.out⟩
    | succ g1 =>
      have hk : k < 8 := by omega
      have hk2 : (k : Int) < 8 := by omega
      have hx := HX.out k hk
      by_cases hp : 0 < f k
      · obtain ⟨hlt, hat⟩ := HAt.out k hk hp
        obtain ⟨fn, tmps, assign, body, hyd, hRo⟩ := HR.out _ _ HK.out hlt
        have ha : usesA f (usesK f k).length = #[.int .i64 (k : Nat), .int .i64 (f k)] := by unfold usesA; rw [hat]
        rw [ha] at hyd
        have HY := Lib.hid (HYs.out k hp)
        clear ha hat
        gi_wp2
        refine ⟨rfl, hRo.mono ?_⟩
        rintro e W3 (⟨rfl, hJ3, hc3⟩ | ⟨rfl, hJx3, -⟩)
        · have HJ3 := Lib.hid hJ3
          clear hJ3 hyd hc3
          gi_wp2
          go_roundg g1
          case measure => omega
          case rel => exact ⟨k + 1, by omega, by go_num, by rw [HY.out, List.length_append]; exact HJ3.out⟩
        · gi_wp2
          refine bodyPost_ret (results_none rfl _ _ _) rfl ?_
          exact ⟨⟨_, rfl⟩, .inr ⟨_, by omega, hJx3⟩⟩
      · have HN := Lib.hid (HNo.out k (by omega))
        gi_wp2
        all_goals
          refine ⟨fun _ h => (nomatch h), ?_⟩
          gi_wp2
          go_roundg g1
          case measure => omega
          case rel => exact ⟨k + 1, by omega, by go_num, by rw [HN.out]; exact HK.out⟩
end Go.Proofs.YtchmdnmifpjfkaaDoor
