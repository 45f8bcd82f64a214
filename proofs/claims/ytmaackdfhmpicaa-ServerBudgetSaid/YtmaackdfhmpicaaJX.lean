/- When two tasks, two edges and two queues are the same to the program. -/
import Derived.Test.YtmaackdfhmpicaaJD
import Derived.DeepKeys
import Derived.ChangeKeysEq
namespace Go.Proofs.Ytmaackdfhmpicaa
open Go.RowKit

theorem infoIX : ∃ i, Try.prog.info? 3 = some i ∧ i.size = 1 := by
  have h : (Try.prog.info? 3).map (·.size) = some 1 := by kernel_rfl
  cases hi : Try.prog.info? 3 with
  | none => rw [hi] at h; cases h
  | some i => rw [hi] at h; exact ⟨i, rfl, by simpa using h⟩
theorem rowZ_at (l : List Int) {k : Nat} (hk : k < l.length) : (rowZ l).toArray[k]? = some (.int .i64 (l.getD k 0)) := by
  simp [rowZ, hk, List.getD]
theorem part_row (l : List Int) {k : Nat} (hk : k < l.length) (w : World) : (part 3 (rowZ l).toArray (k * 1)).run Try.prog w = .ok (.int .i64 (l.getD k 0)) w := by
  have h1 := rowZ_at l hk
  rw [Nat.mul_one]
  simp only [part, Sem.run_bind, show (isAgg 3).run Try.prog w = .ok false w from by simp [go_sem], Result.andThen_ok, Bool.false_eq_true, if_false, h1, Sem.run_pure]
theorem eqItems_row (d : Nat) (a b : List Int) (hl : a.length = b.length) (w : World) : ∀ is : List Nat, (∀ i ∈ is, i < a.length) → (Op.eqItems (d + 1) 3 1 (rowZ a).toArray (rowZ b).toArray is).run Try.prog w = .ok (is.all fun i => a.getD i 0 == b.getD i 0) w
  | [], _ => by simp [Op.eqItems]
  | i :: is, h => by
    have h1 := part_row a (h i (by simp)) w
    have h2 := part_row b (k := i) (by rw [← hl]; exact h i (by simp)) w
    have ih := eqItems_row d a b hl w is (fun j hj => h j (by simp [hj]))
    have h3 := run_equalIn_int (P := Try.prog) w d 3 .i64 .i64 (a.getD i 0) (b.getD i 0) Try.underlying3
    simp only [Op.eqItems, Sem.run_bind, h1, h2, h3, Result.andThen_ok, List.all_cons]
    cases hb : (a.getD i 0 == b.getD i 0)
    · simp
    · simp only [Bool.not_true, Bool.false_eq_true, if_false, ih, Bool.true_and]
theorem getD_ext {a b : List Int} (hl : a.length = b.length) : ((List.range a.length).all fun i => a.getD i 0 == b.getD i 0) = decide (a = b) := by
  rw [Bool.eq_iff_iff, List.all_eq_true, decide_eq_true_iff]
  constructor
  · intro h
    refine List.ext_getElem hl fun i h1 h2 => ?_
    have := h i (List.mem_range.2 h1)
    simpa [List.getD, h1, h2] using this
  · rintro rfl i _
    simp
theorem eqIn_arr (d n : Nat) {t : TypeId} (ht : Try.prog.underlying t = some (.array n 3)) (a b : List Int) (ha : a.length = n) (hb : b.length = n) (w : World) :
    (Op.equalIn (d + 2) t (.agg (rowZ a).toArray) (.agg (rowZ b).toArray)).run Try.prog w = .ok (decide (a = b)) w := by
  obtain ⟨i, hi, -⟩ := infoIX
  have hl : a.length = b.length := by omega
  rw [run_equalIn_array w (d + 1) (rowZ a).toArray (rowZ b).toArray ht hi, show Try.prog.cellsOf 3 = 1 by kernel_rfl, eqItems_row d a b hl w _ (fun i hi => by rw [ha]; exact List.mem_range.1 hi), ← ha, getD_ext hl]
theorem ext_task {t : TaskM} (h : t.lon.length = 8) : (taskC t).toArray.extract 3 11 = (rowZ t.lon).toArray := by
  have hl : (rowZ t.lon).length = 8 := by rw [rowZ_len, h]
  unfold taskC
  rw [List.extract_toArray]
  simp only [List.extract, List.drop_succ_cons, List.drop_zero]
  rw [List.take_of_length_le (by omega)]
/-- Are two tasks the same? -/
def tEq (s t : TaskM) : Bool := decide (s.per = t.per ∧ s.dl = t.dl ∧ s.cost = t.cost ∧ s.lon = t.lon)
theorem eqIn_task (d : Nat) {s t : TaskM} (hs : s.lon.length = 8) (ht : t.lon.length = 8) (w : World) : (Op.equalIn (d + 3) 44 (.agg (taskC s).toArray) (.agg (taskC t).toArray)).run Try.prog w = .ok (tEq s t) w := by
  rw [run_equalIn_agg (P := Try.prog) w (d + 2) 44 _ _ (by kernel_rfl) (by kernel_rfl)]
  have e1 := ext_task hs
  have e2 := ext_task ht
  have e3 := eqIn_arr d 8 Try.underlying42 s.lon t.lon hs ht w
  have s0 : (taskC s).toArray[0]? = some (.int .i64 s.per) := rfl
  have s1 : (taskC s).toArray[1]? = some (.int .i64 s.dl) := rfl
  have s2 : (taskC s).toArray[2]? = some (.int .i64 s.cost) := rfl
  have t0 : (taskC t).toArray[0]? = some (.int .i64 t.per) := rfl
  have t1 : (taskC t).toArray[1]? = some (.int .i64 t.dl) := rfl
  have t2 : (taskC t).toArray[2]? = some (.int .i64 t.cost) := rfl
  obtain ⟨cs, hcs⟩ : ∃ c, (taskC s).toArray = c := ⟨_, rfl⟩
  obtain ⟨ct, hct⟩ : ∃ c, (taskC t).toArray = c := ⟨_, rfl⟩
  obtain ⟨ra, hra⟩ : ∃ c, (rowZ s.lon).toArray = c := ⟨_, rfl⟩
  obtain ⟨rb, hrb⟩ : ∃ c, (rowZ t.lon).toArray = c := ⟨_, rfl⟩
  rw [hcs, hra] at e1
  rw [hct, hrb] at e2
  rw [hra, hrb] at e3
  rw [hcs] at s0 s1 s2 ⊢
  rw [hct] at t0 t1 t2 ⊢
  simp [Op.eqFields, go_sem, part, s0, s1, s2, t0, t1, t2, e1, e2, e3]
  unfold tEq
  repeat' split
  all_goals simp_all
theorem ext_offs {e : EdgeM} (h : e.offs.length = 16) : (edgeC e).toArray.extract 3 19 = (rowZ e.offs).toArray := by
  have hl : (rowZ e.offs).length = 16 := by rw [rowZ_len, h]
  unfold edgeC
  rw [List.extract_toArray]
  simp only [List.extract, List.drop_succ_cons, List.drop_zero]
  rw [List.take_append_of_le_length (by omega), List.take_of_length_le (by omega)]
theorem ext_map {e : EdgeM} (h : e.offs.length = 16) (h2 : e.map.length = 4) : (edgeC e).toArray.extract 19 23 = (rowZ e.map).toArray := by
  have hl : (rowZ e.offs).length = 16 := by rw [rowZ_len, h]
  have hl2 : (rowZ e.map).length = 4 := by rw [rowZ_len, h2]
  unfold edgeC
  rw [List.extract_toArray]
  simp only [List.extract, List.drop_succ_cons]
  rw [← hl, List.drop_left, List.take_of_length_le (by omega)]
/-- Are two edges the same? -/
def eEq (s t : EdgeM) : Bool := decide (s.frm = t.frm ∧ s.dst = t.dst ∧ s.prot = t.prot ∧ s.offs = t.offs ∧ s.map = t.map)
theorem neq_task {s t : TaskM} (hs : s.lon.length = 8) (ht : t.lon.length = 8) (w : World) : (Go.binOp .neq 44 (.agg (taskC s).toArray) (.agg (taskC t).toArray)).run Try.prog w = .ok (.bool (!tEq s t)) w := by
  rw [run_neq_struct, eqIn_task 9997 hs ht w]; rfl
end Go.Proofs.Ytmaackdfhmpicaa
