/- The contract of the reference's Tick on timers. -/
import Derived.Test.YtkbmgilceioieaaDG
namespace Go.Proofs.Ytkbmgilceioieaa
open Go.RowKit

def dueR (r : List (Int × Int)) : List Int := (r.filter fun p => decide (p.2 = 1)).map (·.1)
def restR (r : List (Int × Int)) : List (Int × Int) := (r.filter fun p => decide (p.2 ≠ 1)).map fun p => (p.1, p.2 - 1)
theorem tick_take (r : List (Int × Int)) (k : Nat) (h : k < r.length) :
    dueR (r.take (k + 1)) = (if aT r k = 1 then dueR (r.take k) ++ [aI r k] else dueR (r.take k)) ∧ restR (r.take (k + 1)) = (if aT r k = 1 then restR (r.take k) else restR (r.take k) ++ [(aI r k, aT r k - 1)]) := by
  rw [take_snocA r k h]
  unfold dueR restR
  rw [List.filter_append, List.filter_append]
  by_cases e : aT r k = 1 <;> simp [e]
theorem mem_atA (r : List (Int × Int)) (k : Nat) (h : k < r.length) : (aI r k, aT r k) ∈ r := by
  have e : (aI r k, aT r k) = r[k] := by unfold aI aT; simp [h]
  rw [e]; exact List.getElem_mem h
theorem two_one (a b : Int) : ∀ u ∈ [Value.int .i64 a, .int .i64 b], u.oneCell' = true := by intro u hu; simp at hu; rcases hu with rfl | rfl <;> rfl
theorem one_one (a : Int) : ∀ u ∈ [Value.int .i64 a], u.oneCell' = true := by intro u hu; simp at hu; subst hu; rfl

/-- Both rows of the loop: what is left, what is due, apart from each other. -/
def TwoRows (w : World) (v u : Value) (r : List (Int × Int)) (wr : World) : Prop :=
  wr.ownsRow w.heap.size 73 2 v (restR r).length (rowI (flatA (restR r))) ∧ wr.ownsRow w.heap.size 3 1 u (dueR r).length (rowI (dueR r)) ∧ Below w.heap.size w wr ∧ ∀ g, v.ownBlock = some g → u.ownBlock ≠ some g

theorem TwoRows.due {w wr w1 : World} {v u u1 : Value} {r r1 : List (Int × Int)} {x : Int} {ob : Obj} (h : TwoRows w v u r wr) (hr : restR r1 = restR r) (hd : dueR r1 = dueR r ++ [x])
    (ho : w1.ownsRow w.heap.size 3 1 u1 ((dueR r).length + 1) (rowI (dueR r) ++ [.int .i64 x])) (hg : (wr.alloc ob).grownBy w1 u.ownBlock) (hat : u1.ownBlock = u.ownBlock ∨ u1.ownBlock = some (wr.alloc ob).heap.size) : TwoRows w v u1 r1 w1 := by
  obtain ⟨h1, h2, h3, h4⟩ := h
  refine ⟨?_, ?_, ?_, ?_⟩
  · rw [hr]
    exact (h1.alloc ob).kept hg (by
      cases e : v.ownBlock with
      | none => exact .inl rfl
      | some g => exact .inr fun e' => h4 g e e'.symm)
  · rw [hd, rowI_snoc, List.length_append]; exact ho
  · exact Below.grown (Below.alloc h3 h3.size _) hg (by rw [World.size_alloc]; exact Nat.le_succ_of_le h3.size) (fun j e => (h2.lt j e).1)
  · intro g e
    rcases hat with e' | e'
    · rw [e']; exact h4 g e
    · rw [e']
      intro e2
      injection e2 with e2
      have := (h1.lt g e).2
      rw [World.size_alloc] at e2
      omega
theorem TwoRows.rest {w wr w1 : World} {v v1 u : Value} {r r1 : List (Int × Int)} {x y : Int} {ob : Obj} (h : TwoRows w v u r wr) (hr : restR r1 = restR r ++ [(x, y)]) (hd : dueR r1 = dueR r)
    (ho : w1.ownsRow w.heap.size 73 2 v1 ((restR r).length + 1) (rowI (flatA (restR r)) ++ [.int .i64 x, .int .i64 y])) (hg : (wr.alloc ob).grownBy w1 v.ownBlock) (hat : v1.ownBlock = v.ownBlock ∨ v1.ownBlock = some (wr.alloc ob).heap.size) : TwoRows w v1 u r1 w1 := by
  obtain ⟨h1, h2, h3, h4⟩ := h
  refine ⟨?_, ?_, ?_, ?_⟩
  · rw [hr, rowI_two, List.length_append]; exact ho
  · rw [hd]
    exact (h2.alloc ob).kept hg (by
      cases e : u.ownBlock with
      | none => exact .inl rfl
      | some g => exact .inr fun e' => h4 g e'.symm e)
  · exact Below.grown (Below.alloc h3 h3.size _) hg (by rw [World.size_alloc]; exact Nat.le_succ_of_le h3.size) (fun j e => (h1.lt j e).1)
  · intro g e
    rcases hat with e' | e'
    · rw [e'] at e; exact h4 g e
    · rw [e'] at e
      injection e with e
      intro e2
      have := (h2.lt g e2).2
      rw [World.size_alloc] at e
      omega
theorem TwoRows.drew {w wr : World} {v u : Value} {r : List (Int × Int)} (h : TwoRows w v u r wr) : TwoRows w v u r wr.drew := ⟨h.1, h.2.1, h.2.2.1.drew, h.2.2.2⟩

set_option maxRecDepth 100000 in
set_option maxHeartbeats 2000000 in
theorem reftick_any (r : List (Int × Int)) (sp : Option Addr) (g cap : Nat) (w : World) (h : RowT w sp g r) (hlen : r.length ≤ 1000) (hb : ∀ p ∈ r, 1 ≤ p.2 ∧ p.2 ≤ 65536) :
    Calls Try.prog 29 #[.slice sp r.length cap] w fun e w' => ∃ v u, e = .returned (.tuple #[v, u]) ∧ TwoRows w v u r w' := by
  obtain ⟨i0, hi, hz0, hz1, hz2⟩ := info_parts info73
  obtain ⟨j0, hj, hy0, hy1, hy2⟩ := info_parts info3
  have HQ := Lib.hid h
  have HB := Lib.hid hb
  clear h hb
  go_enter Try.func29, Try.ntmps29
  go_wp2
  go_loopg [4, 5, 6] r.length (fun m v u i wr => ∃ k : Nat, k + m = r.length ∧ i = .int .i64 k ∧ Aside (TwoRows w v u (r.take k) wr))
  case atStart => exact ⟨0, by omega, rfl, World.ownsRow_nil _ _ _ _, World.ownsRow_nil _ _ _ _, Below.refl _ _, fun g e => by cases e⟩
  case round =>
    obtain ⟨k, hkm, rfl, HR⟩ := hrel
    cases gk with
    | zero =>
      obtain rfl : k = r.length := by omega
      rw [List.take_length] at HR
      go_wp2
      go_ret2
      exact ⟨_, _, rfl, HR.out⟩
    | succ m1 =>
      have hlt : k < r.length := by omega
      have hki : (k : Int) < (r.length : Int) := by omega
      have hQ := HQ.out.new HR.out.2.2.1
      obtain rfl := hQ.1 (by omega)
      obtain ⟨c0, c1⟩ := hQ.2 k hlt
      have HD := Lib.hid (tick_take r k hlt)
      have hbk := HB.out (aI r k, aT r k) (mem_atA r k hlt)
      obtain ⟨hb1, hb2⟩ := hbk
      dsimp only at hb1 hb2
      have hl1 : (restR (r.take k)).length ≤ 1000 := by
        unfold restR
        rw [List.length_map]
        exact Nat.le_trans (List.length_filter_le _ _) (by rw [List.length_take]; omega)
      have hl2 : (dueR (r.take k)).length ≤ 1000 := by
        unfold dueR
        rw [List.length_map]
        exact Nat.le_trans (List.length_filter_le _ _) (by rw [List.length_take]; omega)
      by_cases he : aT r k = 1
      · have hb : (aT r k == 1) = true := by simpa using he
        have HE := Lib.hid he
        clear hQ he
        go_wp2_with (at_builtin; refine wpList_append_own_at _ rfl (.tmp 19) (.tmp 25) 26 rfl w.heap.size 3 j0 (.int .i64 0) 1 8 Try.underlying26 hj hy0 hy1 hy2 rfl Nat.one_pos _ (dueR (r.take k)).length (rowI (dueR (r.take k))) rfl (HR.out.2.1.alloc _) ⟨wr.heap.size, 0, none⟩ 1 1 [.int .i64 (aI r k)] rfl rfl (cell_one_new _ _ _) (one_one _) (by unfold maxLen; omega) (by omega) (by rw [World.size_alloc]; exact Nat.le_succ_of_le HR.out.2.2.1.size) ?_; intro v1 w1 hown1 hg1 _ hat1; have HO1 := Lib.hid (HR.out.due (by rw [HD.out.2, if_pos HE.out]) (by rw [HD.out.1, if_pos HE.out]) hown1 hg1 hat1); clear hown1 hg1 hat1)
        go_roundg m1
        case measure => omega
        case rel => exact ⟨k + 1, by omega, by go_num, HO1.out⟩
      · have hb : (aT r k == 1) = false := by simpa using he
        have HE := Lib.hid he
        clear hQ he
        have hS0 : IntKind.i64.wrap (aT r k - 1) = aT r k - 1 := IntWalk.i64_in _ (by omega)
        have HDR := Lib.hid HR.out.drew
        have H63 := Lib.hid (show (restR (r.take k)).length + 1 ≤ maxLen ∧ ((restR (r.take k)).length + 1) * 16 ≤ 140737488355328 by unfold maxLen; omega)
        have HL := Lib.hid (show w.heap.size ≤ (wr.drew.alloc (.cells #[.int .i64 (aI r k), .int .i64 (aT r k - 1)] 73)).heap.size by rw [World.size_alloc]; exact Nat.le_succ_of_le HR.out.2.2.1.size)
        have HK := Lib.hid (two_new wr.drew (.int .i64 (aI r k)) (.int .i64 (aT r k - 1)) 73)
        have HCC := Lib.hid (fun (w1 : World) (hg : World.grownBy (wr.drew.alloc (.cells #[.int .i64 (aI r k), .int .i64 (aT r k - 1)] 73)) w1 u4.ownBlock) =>
          (HQ.out.new (Below.grown (Below.alloc HDR.out.2.2.1 HDR.out.2.2.1.size _) hg HL.out (fun j e => (HDR.out.1.lt j e).1))).2 k hlt)
        have HN := Lib.hid (fun o => World.ownsRow.alloc (w := wr.drew) HDR.out.1 o)
        have H2 := Lib.hid (two_one (aI r k) (aT r k - 1))
        go_wp2
        go_region_held3 (fun w' => w'.cell? ⟨g, k * 2, none⟩ = some (.int .i64 (aI r k)) ∧ w'.cell? ⟨g, k * 2 + 1, none⟩ = some (.int .i64 (aT r k))) (first | exact hcn | exact ⟨c0, c1⟩ | go_keep)
          (first
            | (refine step_append_lies _ rfl (.tmp 27) (.tmp 40) 58 rfl w.heap.size 73 i0 (.agg #[.int .i64 0, .int .i64 0]) 2 16 Try.underlying58 hi hz0 hz1 hz2 rfl (Nat.succ_pos 1) _ (restR (r.take k)).length (rowI (flatA (restR (r.take k)))) rfl (HN.out _) ⟨wr.heap.size, 0, none⟩ 1 1 [.int .i64 (aI r k), .int .i64 (aT r k - 1)] rfl rfl HK.out H2.out Nat.one_pos H63.out.1 H63.out.2 HL.out _ rfl ?_; intro g1 cap1 w1 hown1 hgrow hat hlt1; have hcn := HCC.out _ hgrow))
        have HO1 := Lib.hid (HDR.out.rest (r1 := r.take (k + 1)) (by rw [HD.out.2, if_neg HE.out]) (by rw [HD.out.1, if_neg HE.out]) hown1 hgrow (by
          rcases hat with e | e
          · exact .inl e.symm
          · exact .inr (congrArg some e)))
        clear hown1 hgrow hat hcn hS0
        go_wp2
        go_roundg m1
        case measure => omega
        case rel => exact ⟨k + 1, by omega, by go_num, HO1.out⟩
end Go.Proofs.Ytkbmgilceioieaa
