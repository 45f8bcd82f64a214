/- The contracts of check.Sum, slices.Values, the reference's Sum and the law's lazy, and the walk of CheckSums: true for every slice of ints. -/
import Derived.Test.YtnmejabmnapmpaaSum
import Derived.Laws.AppendOwn
import Derived.Carry
import Derived.Maps.AppendAt
import Derived.Outline
namespace Go.Proofs.Ytnmejabmnapmpaa
open Go.RowKit

theorem equalIn_func_nil (d gf : Nat) (lb : Array Value) (w : World) : (Op.equalIn (d + 1) 29 (.func (.func gf) #[] lb) .nilFunc).run Try.prog w = .ok false w := by
  have ht : Try.prog.underlying 29 = some (.func #[35] #[] false) := by kernel_rfl
  simp [Op.equalIn, run_underlying ht]
theorem eql_func_nil (gf : Nat) (lb : Array Value) (w : World) : (Go.binOp .eql 29 (.func (.func gf) #[] lb) .nilFunc).run Try.prog w = .ok (.bool false) w := by
  have h : (Op.equal 29 (.func (.func gf) #[] lb) .nilFunc).run Try.prog w = .ok false w := equalIn_func_nil 9999 gf lb w
  simp [Go.binOp, h]

theorem sum_of (gf : Nat) (lb : Array Value) (xs : List Int) (w : World) (h : Calls Try.prog 25 #[.func (.func gf) #[] lb] w fun e w' => e = resOf xs ∧ Below w.heap.size w w') :
    Calls Try.prog 15 #[.func (.func gf) #[] lb] w fun e w' => e = resOf xs ∧ Below w.heap.size w w' := by
  unfold resOf at h ⊢
  have hne := eql_func_nil gf lb
  go_enter Try.func15, Try.ntmps15
  go_wp2_with (go_at_call 25; refine h.mono ?_; rintro e w' ⟨rfl, hb⟩)
  go_ret2
  exact ⟨rfl, hb⟩

theorem values_any (sp : Option Addr) (n c : Nat) (w : World) : Calls Try.prog 16 #[.slice sp n c] w fun e w' => e = .returned (.func (.func 26) #[] #[.pointer (some ⟨w.heap.size, 0, none⟩)]) ∧ w' = w.alloc (.cells #[.slice sp n c] 26) := by
  have hmf : ∀ (fn : Fn) (first cap : Array Value) (w : World), (Instr.makeFunc fn first cap).run Try.prog w = .ok (.func fn first cap) w := fun _ _ _ _ => rfl
  go_enter Try.func16, Try.ntmps16
  go_wp2
  go_ret
  exact ⟨rfl, rfl⟩

theorem row_any (sp : Option Addr) (n c : Nat) (p : Option Addr) (w : World) : Calls Try.prog 27 #[.slice sp n c, .pointer p] w fun e w' => e = .returned (.func (.func 29) #[] #[.pointer (some ⟨w.heap.size, 0, none⟩), .pointer (some ⟨w.heap.size + 1, 0, none⟩)]) ∧ w' = (w.alloc (.cells #[.slice sp n c] 26)).alloc (.cells #[.pointer p] 38) := by
  have hmf : ∀ (fn : Fn) (first cap : Array Value) (w : World), (Instr.makeFunc fn first cap).run Try.prog w = .ok (.func fn first cap) w := fun _ _ _ _ => rfl
  go_enter Try.func27, Try.ntmps27
  go_wp2
  go_ret
  exact ⟨rfl, rfl⟩

theorem refsum_any (b off cap : Nat) (sp : Option Addr) (xs : List Int) (w : World)
    (hcap : xs.length ≤ 9223372036854775807) (hsp : 0 < xs.length → sp = some ⟨b, off, none⟩)
    (hcell : ∀ k, k < xs.length → w.cell? ⟨b, off + k, none⟩ = some (.int .i64 (nth xs k))) :
    Calls Try.prog 17 #[.slice sp xs.length cap] w fun e w' => e = resOf xs ∧ w = w' := by
  have HC := Lib.hid hcell
  have HS := Lib.hid hsp
  clear hcell hsp
  go_enter Try.func17, Try.ntmps17
  go_wp2
  go_loop [4, 5] (fun n i => ∃ k : Nat, ∃ s : Int, k ≤ xs.length ∧ i = .int .i64 k ∧ n = .int .i64 s ∧ runS 0 (xs.take k) = some s) (fun _ i => xs.length - (intOf i).toNat)
  case atStart => exact ⟨0, 0, Nat.zero_le _, rfl, rfl, rfl⟩
  case round =>
    obtain ⟨k, s, hk, rfl, rfl, hs⟩ := hrel
    have H2 := Lib.hid hs
    clear hs
    by_cases hlt : k < xs.length
    · have hc := HC.out k hlt
      obtain rfl := HS.out (by omega)
      have ht := take_succ_getD xs k hlt
      have hrun : runS 0 (xs.take (k + 1)) = if addB s (nth xs k) then some (addN s (nth xs k)) else none := by rw [ht, runS_snoc, H2.out]; rfl
      have HR := Lib.hid hrun
      clear hrun ht
      cases hb : addB s (nth xs k)
      · go_wp2_with (go_at_call 10; refine (refadd_any _ _ _).mono ?_; rintro e w' ⟨rfl, rfl⟩)
        go_ret2
        have hr := HR.out
        rw [hb] at hr
        exact ⟨by unfold resOf; rw [runS_take_none hr]; rfl, rfl⟩
      · go_wp2_with (go_at_call 10; refine (refadd_any _ _ _).mono ?_; rintro e w' ⟨rfl, rfl⟩)
        go_round
        case rel => exact ⟨k + 1, addN s (nth xs k), by omega, by go_num, rfl, by rw [HR.out, hb]; rfl⟩
        case measure => simp [intOf]; omega
    · obtain rfl : k = xs.length := by omega
      go_wp2
      go_ret2
      have h2 := H2.out
      rw [List.take_length] at h2
      exact ⟨by unfold resOf; rw [h2]; rfl, rfl⟩

theorem lazy_ok (v : Value) (w : World) (h : ∃ sp n c, v = .slice sp n c) : Calls Try.prog 18 #[v, .bool true] w fun e w' => e = .returned (.bool true) ∧ Below w.heap.size w w' := by
  obtain ⟨sp, n, c, rfl⟩ := h
  go_enter Try.func18, Try.ntmps18
  go_wp2
  go_ret
  exact ⟨rfl, Below.refl _ _⟩

theorem info3 : (Try.prog.info? 3).map (fun i => (i.zero, i.size, i.bytes)) = some (some (.int .i64 0), 1, 8) := by kernel_rfl

theorem take_short {xs ys : List Int} {k : Nat} (hn : runS 0 xs = none) (h : ∃ s, runS 0 ((xs ++ ys).take k) = some s) : k < xs.length := by
  obtain ⟨s, hs⟩ := h
  by_cases hk : k < xs.length
  · exact hk
  · rw [List.take_append, List.take_of_length_le (by omega), runS_none 0 _ _ hn] at hs
    cases hs

theorem sum_row (Bx By g cap : Nat) (xs : List Int) (w : World) (hl : xs.length ≤ 1000) (hnone : runS 0 xs = none) (hx : Bx < w.heap.size) (hg : g < w.heap.size)
    (hbox : w.cell? ⟨Bx, 0, none⟩ = some (.slice (some ⟨g, 0, none⟩) (xs.length + 1) cap))
    (hcell : ∀ k, k < xs.length + 1 → w.cell? ⟨g, 0 + k, none⟩ = some (.int .i64 (nth (xs ++ [0]) k))) :
    Calls Try.prog 15 #[.func (.func 29) #[] #[.pointer (some ⟨Bx, 0, none⟩), .pointer (some ⟨By, 0, none⟩)]] w fun e w' => e = resOf (xs ++ [0]) ∧ Below w.heap.size w w' := by
  refine sum_of 29 _ _ w (total_in 29 _ (enters_of Try.func29 (by kernel_rfl) rfl) (xs ++ [0]) w ?_)
  intro J Jx W1 _ _ hJ _ _ hR h0
  refine row_in _ Bx g 0 cap (some ⟨g, 0, none⟩) (xs ++ [0]) _ J Jx W1 By (by simp; omega) (fun _ => rfl) (fun k W' h => by have := take_short hnone (hJ k W' h).2; simp; omega)
    (fun k W' h => ?_) (fun k W' h hk => ?_) hR h0
  · rw [List.length_append, List.length_singleton]; exact ((hJ k W' h).1.cell (p := ⟨Bx, 0, none⟩) hx).trans hbox
  · exact ((hJ k W' h).1.cell (p := ⟨g, 0 + k, none⟩) hg).trans (hcell k (by simpa using hk))

theorem sum_values (Bx b off cap : Nat) (sp : Option Addr) (xs : List Int) (w : World) (hl : xs.length ≤ 1000) (hx : Bx < w.heap.size) (hsp : 0 < xs.length → sp = some ⟨b, off, none⟩ ∧ b < w.heap.size)
    (hbox : w.cell? ⟨Bx, 0, none⟩ = some (.slice sp xs.length cap))
    (hcell : ∀ k, k < xs.length → w.cell? ⟨b, off + k, none⟩ = some (.int .i64 (nth xs k))) :
    Calls Try.prog 15 #[.func (.func 26) #[] #[.pointer (some ⟨Bx, 0, none⟩)]] w fun e w' => e = resOf xs ∧ Below w.heap.size w w' := by
  refine sum_of 26 _ _ w (total_in 26 _ (enters_of Try.func26 (by kernel_rfl) rfl) xs w ?_)
  intro J Jx W1 _ _ hJ _ _ hR h0
  refine values_in _ Bx b off cap sp xs _ J Jx W1 (by omega) (fun h => (hsp h).1) (fun k W' h => ?_) (fun k W' h hk => ?_) hR h0
  · exact ((hJ k W' h).1.cell (p := ⟨Bx, 0, none⟩) hx).trans hbox
  · exact ((hJ k W' h).1.cell (p := ⟨b, off + k, none⟩) (hsp (by omega)).2).trans (hcell k hk)

theorem own_fresh0 (w : World) (base : Nat) (h : base ≤ w.heap.size) : (w.alloc (.cells #[] 3)).ownsRow base 3 1 (.slice (some ⟨w.heap.size, 0, none⟩) 0 0) 0 [] :=
  ⟨rfl, .inr ⟨w.heap.size, 0, #[], rfl, h, World.alloc_heap_new _ _, Nat.le_refl _, Nat.zero_le _, rfl, rfl⟩⟩
theorem cells_map {xs : List Int} {w W : World} {b off : Nat} (hB : Below w.heap.size w W) (hb : b < w.heap.size)
    (hcell : ∀ k, k < xs.length → w.cell? ⟨b, off + k, none⟩ = some (.int .i64 (nth xs k))) :
    ∀ j u, (xs.map (Value.int .i64))[j]? = some u → W.cell? ((⟨b, off, none⟩ : Addr).add j) = some u := by
  intro j u hu
  have hj : j < xs.length := by simpa using (Array.getElem?_eq_some_iff (xs := (xs.map (Value.int .i64)).toArray)).1 (by simpa using hu) |>.1
  rw [Addr.add_lit, hB.cell (p := ⟨b, off + j, none⟩) hb, hcell j hj]
  simp [hj] at hu
  simp [nth, hj, hu]

theorem lazy_fails (b off cap : Nat) (xs : List Int) (w : World) (hn : xs.length ≤ 1000) (hnone : runS 0 xs = none) (hb : b < w.heap.size)
    (hcell : ∀ k, k < xs.length → w.cell? ⟨b, off + k, none⟩ = some (.int .i64 (nth xs k))) :
    Calls Try.prog 18 #[.slice (some ⟨b, off, none⟩) xs.length cap, .bool false] w fun e w' => e = .returned (.bool true) ∧ Below w.heap.size w w' := by
  obtain ⟨i0, hi, hz0, hz1, hz2⟩ := info_parts info3
  have HC := Lib.hid hcell
  have HN := Lib.hid hnone
  clear hcell hnone
  go_enter Try.func18, Try.ntmps18
  have B2 : Below w.heap.size w ((w.alloc (Obj.cells #[Value.bool false] 4)).alloc (Obj.cells #[] 3)) := ((Below.refl _ _).alloc (Nat.le_refl _) _).alloc (by simp) _
  have OW := Lib.hid (own_fresh0 (w.alloc (Obj.cells #[Value.bool false] 4)) (w.heap.size + 1) (by simp))
  rw [World.size_alloc] at OW
  have C1 := Lib.hid (cells_map B2 hb HC.out)
  go_wp2_with (first
    | (at_builtin; refine wpList_append_own _ rfl (.tmp 7) (.tmp 8) 26 rfl (w.heap.size + 1) 3 i0 (.int .i64 0) 1 8 Try.underlying26 hi hz0 hz1 hz2 rfl (by decide) _ 0 [] rfl OW.out ⟨b, off, none⟩ xs.length cap (xs.map (.int .i64)) rfl (by simp) C1.out (ints_oneCell _ _) (by unfold maxLen; omega) (by omega) (by simp) ?_; intro v1 w1 hown1 hg1 _; simp only [Nat.zero_add, List.nil_append] at hown1)
    | (at_builtin; refine wpList_append_own _ rfl (.tmp 9) (.tmp 10) 26 rfl (w.heap.size + 1) 3 i0 (.int .i64 0) 1 8 Try.underlying26 hi hz0 hz1 hz2 rfl (by decide) _ xs.length (xs.map (.int .i64)) rfl (hown1.alloc _) ⟨w1.heap.size, 0, none⟩ 1 1 [.int .i64 0] rfl rfl (cell_one_new _ _ _) (by simp [Value.oneCell']) (by unfold maxLen; omega) (by omega) (by have := hg1.size; simp at this; simp; omega) ?_; intro v2 w2 hown2 hg2 _))
  obtain ⟨g2, cap2, rfl⟩ := ownsRow_succ hown2
  have z1 := hg1.size
  have z2 := hg2.size
  simp only [World.size_alloc] at z1 z2
  have BL : Below (w.heap.size + 1) ((w.alloc (Obj.cells #[Value.bool false] 4)).alloc (Obj.cells #[] 3)) w2 := by
    refine Below.grown (Below.alloc (Below.grown (Below.refl _ _) hg1 (by simp) (by intro k e; cases e; simp)) (by omega) _) hg2 (by simp; omega) (fun k e => ?_)
    exact (hown1.lt k e).1
  have BB : Below w.heap.size w w2 := B2.trans (BL.mono (by omega))
  have gl := hown2.lt g2 rfl
  have HO2 := Lib.hid hown2
  have hl0 : w2.cell? ⟨w.heap.size, 0, none⟩ = some (.bool false) := by
    rw [BL.cell (p := ⟨w.heap.size, 0, none⟩) (by simp)]; simp [go_sem]
  clear hown1 hown2 hg1 hg2
  refine (row_any _ _ _ _ _).mono ?_
  rintro e w' ⟨rfl, rfl⟩
  have R2 : ∀ k, k < xs.length + 1 → ((w2.alloc (Obj.cells #[Value.slice (some ⟨g2, 0, none⟩) (xs.length + 1) cap2] 26)).alloc (Obj.cells #[Value.pointer (some ⟨w.heap.size, 0, none⟩)] 38)).cell? ⟨g2, 0 + k, none⟩ = some (.int .i64 (nth (xs ++ [0]) k)) := by
    intro k hk
    have hb2 : Below w2.heap.size w2 ((w2.alloc (Obj.cells #[Value.slice (some ⟨g2, 0, none⟩) (xs.length + 1) cap2] 26)).alloc (Obj.cells #[Value.pointer (some ⟨w.heap.size, 0, none⟩)] 38)) := ((Below.refl _ _).alloc (Nat.le_refl _) _).alloc (by simp) _
    rw [hb2.cell (p := ⟨g2, 0 + k, none⟩) gl.2, Nat.zero_add, HO2.out.cellAt k (by omega)]
    have e : xs.map (Value.int IntKind.i64) ++ [Value.int IntKind.i64 0] = (xs ++ [0]).map (Value.int .i64) := by simp
    have hk' : k < (xs ++ [0]).length := by simp; omega
    rw [e, List.getElem?_map, List.getElem?_eq_getElem hk']
    simp only [Option.map_some, nth, List.getElem?_eq_getElem hk', Option.getD_some]
  have R2' := Lib.hid R2
  clear R2
  go_wp2_with fail
  refine (sum_row (By := w2.heap.size + 1) w2.heap.size g2 cap2 xs _ hn HN.out (by simp; omega) (by simp; omega) (by simp [go_sem]) R2'.out).mono ?_
  rintro e w' ⟨he, hbw⟩
  unfold resOf at he
  subst he
  have hl1 := hbw.cell (p := ⟨w.heap.size, 0, none⟩) (by rw [World.size_alloc, World.size_alloc]; show w.heap.size < _; omega)
  have hl2 : w'.cell? ⟨w.heap.size, 0, none⟩ = some (.bool false) := by
    have hb2 : Below w2.heap.size w2 ((w2.alloc (Obj.cells #[Value.slice (some ⟨g2, 0, none⟩) (xs.length + 1) cap2] 26)).alloc (Obj.cells #[Value.pointer (some ⟨w.heap.size, 0, none⟩)] 38)) := ((Below.refl _ _).alloc (Nat.le_refl _) _).alloc (by simp) _
    rw [hl1, hb2.cell (p := ⟨w.heap.size, 0, none⟩) (show w.heap.size < _ by omega)]; exact hl0
  have hA1 := BB.alloc (by omega) (Obj.cells #[Value.slice (some ⟨g2, 0, none⟩) (xs.length + 1) cap2] 26)
  have hA2 := hA1.alloc (by rw [World.size_alloc]; omega) (Obj.cells #[Value.pointer (some ⟨w.heap.size, 0, none⟩)] 38)
  have hB3 : Below w.heap.size w w' := hA2.trans (hbw.mono (by rw [World.size_alloc, World.size_alloc]; omega))
  clear hA1 hA2
  clear hl1
  go_wp2
  go_ret
  exact ⟨rfl, hB3⟩

theorem law_sums (b off cap : Nat) (sp : Option Addr) (xs : List Int) (w : World) (hlen : xs.length ≤ 9223372036854775807) (hsp : 0 < xs.length → sp = some ⟨b, off, none⟩ ∧ b < w.heap.size)
    (hcell : ∀ k, k < xs.length → w.cell? ⟨b, off + k, none⟩ = some (.int .i64 (nth xs k))) :
    Calls Try.prog 4 #[.slice sp xs.length cap] w fun e w' => e = .returned (.bool true) ∧ Below w.heap.size w w' := by
  by_cases hn : xs.length ≤ 1000
  · have HC := Lib.hid hcell
    have HS := Lib.hid hsp
    clear hcell hsp
    have hB1 : Below w.heap.size w (w.alloc (.cells #[.slice sp xs.length cap] 26)) := (Below.refl _ _).alloc (Nat.le_refl _) _
    go_enter Try.func4, Try.ntmps4
    go_wp2_with (go_at_call 16; refine (values_any _ _ _ _).mono ?_; rintro e w' ⟨rfl, rfl⟩)
    refine (sum_values w.heap.size b off cap sp xs _ hn (by simp) (fun h => ⟨(HS.out h).1, by have := (HS.out h).2; simp; omega⟩) (by simp [go_sem]) (fun k hk => ?_)).mono ?_
    · rw [hB1.cell (p := ⟨b, off + k, none⟩) (HS.out (by omega)).2]; exact HC.out k hk
    have hRef : ∀ w' : World, Below w.heap.size w w' → Calls Try.prog 17 #[.slice sp xs.length cap] w' fun e w'' => e = resOf xs ∧ w' = w'' := fun w' hB2 =>
      refsum_any b off cap sp xs _ (by omega) (fun h => (HS.out h).1) (fun k hk => by rw [hB2.cell (p := ⟨b, off + k, none⟩) (HS.out (by omega)).2]; exact HC.out k hk)
    have HR := Lib.hid hRef
    clear hRef
    cases hr : runS 0 xs with
    | some s =>
      have e1 : resOf xs = .returned (.tuple #[.int .i64 s, .bool true]) := by unfold resOf; rw [hr]; rfl
      have E1 := Lib.hid e1
      clear e1 hr
      rintro e w' ⟨he, hbw⟩
      rw [E1.out] at he
      subst he
      have hB2 : Below w.heap.size w w' := hB1.trans (hbw.mono (by simp))
      clear hbw hB1
      go_wp2_with (first
        | (go_at_call 17; refine (HR.out _ hB2).mono ?_; rintro e w' ⟨he, rfl⟩; rw [E1.out] at he; subst he)
        | (go_at_call 18; refine (lazy_ok _ _ ⟨_, _, _, rfl⟩).mono ?_; rintro e w1 ⟨rfl, hb1⟩)
        | (go_at_call 14; refine (alive_any _).mono ?_; rintro e w2 ⟨rfl, hd⟩))
      go_ret
      obtain ⟨n, rfl⟩ := hd
      exact ⟨rfl, (hB2.trans (hb1.mono hB2.size)).trans ⟨rfl, rfl, rfl, Nat.le_refl _, fun _ _ => rfl⟩⟩
    | none =>
      have e1 : resOf xs = .returned (.tuple #[.int .i64 0, .bool false]) := by unfold resOf; rw [hr]; rfl
      have E1 := Lib.hid e1
      have hpos : 0 < xs.length := by cases xs with
        | nil => cases hr
        | cons x r => simp
      have HN := Lib.hid hr
      clear e1 hr
      obtain ⟨rfl, hbl⟩ := HS.out hpos
      rintro e w' ⟨he, hbw⟩
      rw [E1.out] at he
      subst he
      have hB2 : Below w.heap.size w w' := hB1.trans (hbw.mono (by simp))
      have hL := lazy_fails b off cap xs w' hn HN.out (by have := hB2.size; omega) (fun k hk => by rw [hB2.cell (p := ⟨b, off + k, none⟩) hbl]; exact HC.out k hk)
      have HL := Lib.hid hL
      clear hbw hB1 hL
      go_wp2_with (first
        | (go_at_call 17; refine (HR.out _ hB2).mono ?_; rintro e w' ⟨he, rfl⟩; rw [E1.out] at he; subst he)
        | (go_at_call 18; refine HL.out.mono ?_; rintro e w1 ⟨rfl, hb1⟩)
        | (go_at_call 14; refine (alive_any _).mono ?_; rintro e w2 ⟨rfl, hd⟩))
      go_ret
      obtain ⟨n, rfl⟩ := hd
      exact ⟨rfl, (hB2.trans (hb1.mono hB2.size)).trans ⟨rfl, rfl, rfl, Nat.le_refl _, fun _ _ => rfl⟩⟩
  · go_enter Try.func4, Try.ntmps4
    go_wp2
    go_ret
    exact ⟨rfl, Below.refl _ _⟩

end Go.Proofs.Ytnmejabmnapmpaa
