/- The contracts of the reference's In, Of and List, and of the law's both and without. -/
import Derived.Test.YtdfknobohgncaaaProg
import Derived.Test.YtdfknobohgncaaaMath
import Derived.Test.YtdfknobohgncaaaBox
import Derived.Lib.Hide
import Derived.LoopTactic
import Derived.RegionTactic
import Derived.Deep.LoopGhost
import Derived.Deep.RegionWith
import Derived.Handy
import Derived.IntWalk
namespace Go.Proofs.Ytdfknobohgncaaa
open Go.RowKit

/-- Where a slice's ints lie. -/
def Lies (w : World) (sp : Option Addr) (b off : Nat) (l : List Int) : Prop :=
  (0 < l.length → sp = some ⟨b, off, none⟩ ∧ b < w.heap.size) ∧ ∀ k, k < l.length → w.cell? ⟨b, off + k, none⟩ = some (.int .i64 (nth l k))
theorem Lies.below {w w' : World} {sp : Option Addr} {b off n : Nat} {l : List Int} (h : Lies w sp b off l) (hb : Below n w w') (hn : 0 < l.length → b < n) : Lies w' sp b off l :=
  ⟨fun h0 => ⟨(h.1 h0).1, Nat.lt_of_lt_of_le (h.1 h0).2 hb.size⟩, fun k hk => by rw [hb.cell (p := ⟨b, off + k, none⟩) (hn (by omega))]; exact h.2 k hk⟩

theorem in_any (sp : Option Addr) (b off cap : Nat) (l : List Int) (n : Int) (w : World) (hl : l.length ≤ 9223372036854775807) (h : Lies w sp b off l) :
    Calls Try.prog 46 #[.slice sp l.length cap, .int .i64 n] w fun e w' => e = .returned (.bool (decide (n ∈ l))) ∧ w = w' := by
  have HL := Lib.hid h
  clear h
  go_enter Try.func46, Try.ntmps46
  go_wp2
  go_loopg [5] l.length (fun g i wr => ∃ (k : Nat), k + g = l.length ∧ i = .int .i64 k ∧ Aside (n ∉ l.take k) ∧ Aside (w = wr))
  case atStart => exact ⟨0, by omega, rfl, by show _ ∉ _; simp, rfl⟩
  case round =>
    obtain ⟨k, hkg, rfl, HN, hw⟩ := hrel
    obtain rfl := hw.out
    clear hw
    cases gk with
    | zero =>
      obtain rfl : k = l.length := by omega
      go_wp2
      go_ret
      have := HN.out
      rw [List.take_length] at this
      exact ⟨by simp [this], rfl⟩
    | succ g1 =>
      have hlt : k < l.length := by omega
      obtain ⟨rfl, hbl⟩ := HL.out.1 (by omega)
      have hc := HL.out.2 k hlt
      by_cases he : nth l k = n
      · have he' : (nth l k == n) = true := by simpa using he
        have hmem : decide (n ∈ l) = true := by
          rw [decide_eq_true_iff, ← he]
          simp [nth, hlt]
        have HM := Lib.hid hmem
        clear he hmem
        go_wp2
        go_ret
        exact ⟨by rw [HM.out]; rfl, rfl⟩
      · have he' : (nth l k == n) = false := by simpa using he
        have hni : n ∉ l.take (k + 1) := by
          rw [take_succ_nth l k hlt]
          intro hm
          rcases List.mem_append.1 hm with hm | hm
          · exact HN.out hm
          · simp at hm; exact he hm.symm
        have HM := Lib.hid hni
        clear he hni
        go_wp2
        go_roundg g1
        case measure => omega
        case rel => exact ⟨k + 1, by omega, by go_num, HM.out, rfl⟩

theorem refof_any (sp : Option Addr) (b off cap : Nat) (l : List Int) (w : World) (hl : l.length ≤ 9223372036854775807) (h : Lies w sp b off l) :
    Calls Try.prog 30 #[.slice sp l.length cap] w fun e w' => e = .returned (.int .u32 (w32 (ofR l))) ∧ w = w' := by
  have HL := Lib.hid h
  clear h
  go_enter Try.func30, Try.ntmps30
  go_wp2
  go_loopg [3, 4] 32 (fun g v i wr => ∃ (k : Nat), k + g = 32 ∧ i = .int .i64 k ∧ v = .int .u32 (w32 (pre (fun k => decide ((k : Int) ∈ l)) k)) ∧ Aside (w = wr))
  case atStart => exact ⟨0, by omega, rfl, rfl, rfl⟩
  case round =>
    obtain ⟨k, hkg, rfl, rfl, hw⟩ := hrel
    obtain rfl := hw.out
    clear hw
    cases gk with
    | zero =>
      obtain rfl : k = 32 := by omega
      go_wp2
      go_ret
      exact ⟨rfl, rfl⟩
    | succ g1 =>
      have hk : k < 32 := by omega
      have hi := Lib.hid (in_any sp b off cap l k w hl HL.out)
      have hs := shl_one k (by omega)
      cases hd : decide ((k : Int) ∈ l)
      · have HD := Lib.hid hd
        rw [hd] at hi
        clear hd
        go_wp2_with (go_at_call 46; refine hi.out.mono ?_; rintro e w' ⟨rfl, rfl⟩)
        go_roundg g1
        case measure => omega
        case rel => exact ⟨k + 1, by omega, by go_num, by rw [pre]; simp [HD.out], rfl⟩
      · have HD := Lib.hid hd
        rw [hd] at hi
        clear hd
        go_wp2_with (go_at_call 46; refine hi.out.mono ?_; rintro e w' ⟨rfl, rfl⟩)
        go_roundg g1
        case measure => omega
        case rel => exact ⟨k + 1, by omega, by go_num, by rw [pre]; simp only [HD.out, if_true]; exact congrArg (Value.int .u32) (pre_add _ k hk), rfl⟩

theorem info3 : (Try.prog.info? 3).map (fun i => (i.zero, i.size, i.bytes)) = some (some (.int .i64 0), 1, 8) := by kernel_rfl
theorem rowI_get (l : List Int) (j : Nat) (h : j < l.length) : (rowI l)[j]? = some (.int .i64 (nth l j)) := by
  unfold rowI nth
  rw [List.getElem?_map, List.getElem?_eq_getElem h]; simp [h]
theorem odd_test (x : BitVec 32) (k : Nat) : ((w32 x / 2 ^ k).tmod 2 == 1) = x.getLsbD k := by
  have e1 : w32 x / 2 ^ k = ((x.toNat / 2 ^ k : Nat) : Int) := by unfold w32; simp
  have e2 : ((x.toNat / 2 ^ k : Nat) : Int).tmod 2 = ((x.toNat / 2 ^ k % 2 : Nat) : Int) := rfl
  rw [e1, e2, BitVec.getLsbD, Nat.testBit_eq_decide_div_mod_eq]
  have : x.toNat / 2 ^ k % 2 < 2 := Nat.mod_lt _ (by omega)
  rw [Bool.eq_iff_iff, beq_iff_eq, decide_eq_true_iff]
  omega
theorem one_cell (n : Int) : ∀ u ∈ [Value.int .i64 n], u.oneCell' = true := by intro u hu; simp at hu; subst hu; rfl

theorem list_any (x : BitVec 32) (w : World) : Calls Try.prog 22 #[.int .u32 (w32 x)] w fun e w' =>
    ∃ v, e = .returned v ∧ w'.ownsRow w.heap.size 3 1 v (lst x 32).length (rowI (ints (lst x 32))) ∧ Below w.heap.size w w' := by
  obtain ⟨i0, hi, hz0, hz1, hz2⟩ := info_parts info3
  go_enter Try.func22, Try.ntmps22
  go_wp2
  go_loopg [3, 4] 32 (fun g v i wr => ∃ (k : Nat), k + g = 32 ∧ i = .int .i64 k ∧ wr.ownsRow w.heap.size 3 1 v (lst x k).length (rowI (ints (lst x k))) ∧ Below w.heap.size w wr)
  case atStart => exact ⟨0, by omega, rfl, World.ownsRow_nil _ _ _ _, Below.refl _ _⟩
  case round =>
    obtain ⟨k, hkg, rfl, hown, hB⟩ := hrel
    have HO := Lib.hid hown
    have HB := Lib.hid hB
    clear hown hB
    cases gk with
    | zero =>
      obtain rfl : k = 32 := by omega
      go_wp2
      go_ret
      exact ⟨_, rfl, HO.out, HB.out⟩
    | succ g1 =>
      have hk : k < 32 := by omega
      have hkl := lst_len x k
      have ht := odd_test x k
      have hls := lst_succ x k
      cases hd : x.getLsbD k
      · rw [hd] at ht hls
        have HLS := Lib.hid hls
        clear hls hd
        go_wp2
        go_roundg g1
        case measure => omega
        case rel =>
          have e : lst x (k + 1) = lst x k := HLS.out
          exact ⟨k + 1, by omega, by go_num, by rw [e]; exact HO.out, HB.out⟩
      · rw [hd] at ht hls
        have HLS := Lib.hid hls
        clear hls hd
        go_wp2_with (at_builtin; refine wpList_append_own _ rfl (.tmp 15) (.tmp 17) 49 rfl w.heap.size 3 i0 (.int .i64 0) 1 8 Try.underlying49 hi hz0 hz1 hz2 rfl Nat.one_pos _ (lst x k).length (rowI (ints (lst x k))) rfl (HO.out.alloc _) ⟨wr.heap.size, 0, none⟩ 1 1 [.int .i64 k] rfl rfl (cell_one_new _ _ _) (one_cell _) (by unfold maxLen; omega) (by omega) (by rw [World.size_alloc]; exact Nat.le_succ_of_le HB.out.size) ?_; intro v1 w1 hown1 hg1 _; have HO1 := Lib.hid hown1; have HB1 := Lib.hid (Below.grown (Below.alloc HB.out HB.out.size _) hg1 (by rw [World.size_alloc]; exact Nat.le_succ_of_le HB.out.size) (fun j e => (HO.out.lt j e).1)); clear hown1 hg1)
        go_roundg g1
        case measure => omega
        case rel =>
          have e : lst x (k + 1) = lst x k ++ [k] := HLS.out
          have h := HO1.out
          refine ⟨k + 1, by omega, by go_num, ?_, HB1.out⟩
          rw [e]
          unfold ints rowI at h ⊢
          rw [List.length_append, List.map_append, List.map_append]
          exact h

/-- An owned row, as a slice that lies. -/
theorem own_lies {w : World} {base : Nat} {v : Value} {l : List Int} (h : w.ownsRow base 3 1 v l.length (rowI l)) :
    ∃ sp g cap, v = .slice sp l.length cap ∧ Lies w sp g 0 l ∧ (0 < l.length → base ≤ g ∧ g < w.heap.size) := by
  rcases h.2 with ⟨rfl, h0⟩ | ⟨g, cap, cur, rfl, _⟩
  · exact ⟨none, 0, 0, by rw [h0], ⟨fun h => by omega, fun k hk => by omega⟩, fun h => by omega⟩
  · have hl := h.lt g rfl
    exact ⟨some ⟨g, 0, none⟩, g, cap, rfl, ⟨fun _ => ⟨rfl, hl.2⟩, fun k hk => by rw [Nat.zero_add]; exact (h.cellAt k (by omega)).trans (rowI_get _ k hk)⟩, fun _ => hl⟩


/-- The numbers of a row that are in another one, and those that aren't. -/
def inL (p : Int → Bool) (a : List Int) (k : Nat) : List Int := (a.take k).filter p
theorem inL_succ (p : Int → Bool) (a : List Int) (k : Nat) (hk : k < a.length) : inL p a (k + 1) = if p (nth a k) then inL p a k ++ [nth a k] else inL p a k := by
  unfold inL
  rw [take_succ_nth _ k hk, List.filter_append]
  cases h : p (nth a k)
  · simp [h]
  · simp [h]
theorem inL_len (p : Int → Bool) (a : List Int) (k : Nat) : (inL p a k).length ≤ a.length := by
  unfold inL
  have h1 := List.length_filter_le p (a.take k)
  have h2 : (a.take k).length ≤ a.length := by simp; omega
  omega

theorem both_any (a b : List Int) (sa sb : Option Addr) (ga oa gb ob ca cb : Nat) (w : World) (ha : Lies w sa ga oa a) (hb : Lies w sb gb ob b) (la : a.length ≤ 10000) (lb : b.length ≤ 10000) :
    Calls Try.prog 23 #[.slice sa a.length ca, .slice sb b.length cb] w fun e w' => ∃ v, e = .returned v ∧ w'.ownsRow w.heap.size 3 1 v (a.filter (fun n => decide (n ∈ b))).length (rowI (a.filter (fun n => decide (n ∈ b)))) ∧ Below w.heap.size w w' := by
  obtain ⟨i0, hi, hz0, hz1, hz2⟩ := info_parts info3
  have HA := Lib.hid ha
  have HB0 := Lib.hid hb
  obtain ⟨q, hq⟩ : ∃ q : Int → Bool, q = (fun n => decide (n ∈ b)) := ⟨_, rfl⟩
  rw [← hq]
  have HP := Lib.hid (show inL q a a.length = a.filter q by unfold inL; rw [List.take_length])
  have HS := fun k hk => Lib.hid (inL_succ q a k hk)
  have HLn := fun k => inL_len q a k
  have HQ := Lib.hid (show ∀ n, q n = decide (n ∈ b) from fun n => by rw [hq])
  clear ha hb hq
  go_enter Try.func23, Try.ntmps23
  go_wp2
  go_loopg [5, 6] a.length (fun g v i wr => ∃ (k : Nat), k + g = a.length ∧ i = .int .i64 k ∧ wr.ownsRow w.heap.size 3 1 v (inL q a k).length (rowI (inL q a k)) ∧ Below w.heap.size w wr)
  case atStart => exact ⟨0, by omega, rfl, World.ownsRow_nil _ _ _ _, Below.refl _ _⟩
  case round =>
    obtain ⟨k, hkg, rfl, hown, hB⟩ := hrel
    have HO := Lib.hid hown
    have HB := Lib.hid hB
    clear hown hB
    cases gk with
    | zero =>
      obtain rfl : k = a.length := by omega
      go_wp2
      go_ret
      have h := HO.out
      rw [HP.out] at h
      exact ⟨_, rfl, h, HB.out⟩
    | succ g1 =>
      have hlt : k < a.length := by omega
      have hki : (k : Int) < (a.length : Int) := by omega
      obtain ⟨rfl, hbl⟩ := HA.out.1 (by omega)
      have hc : wr.cell? ⟨ga, oa + k, none⟩ = some (.int .i64 (nth a k)) := by rw [HB.out.cell (p := ⟨ga, oa + k, none⟩) hbl]; exact HA.out.2 k hlt
      have hkl := HLn k
      have HIn := Lib.hid (in_any sb gb ob cb b (nth a k) wr (by omega) (HB0.out.below HB.out fun h => (HB0.out.1 h).2))
      have hq := HQ.out (nth a k)
      have hs := (HS k hlt).out
      cases hd : decide (nth a k ∈ b)
      all_goals
        rw [hd] at HIn hq
        rw [hq] at hs
        have HSS := Lib.hid hs
        clear hd hq hs hbl
      · skip
        go_wp2_with (go_at_call 46; refine HIn.out.mono ?_; rintro e w' ⟨rfl, rfl⟩)
        go_roundg g1
        case measure => omega
        case rel =>
          have e : inL q a (k + 1) = inL q a k := HSS.out
          exact ⟨k + 1, by omega, by go_num, by rw [e]; exact HO.out, HB.out⟩
      · skip
        go_wp2_with (first | (go_at_call 46; refine HIn.out.mono ?_; rintro e w' ⟨rfl, rfl⟩) | (at_builtin; refine wpList_append_own _ rfl (.tmp 19) (.tmp 24) 49 rfl w.heap.size 3 i0 (.int .i64 0) 1 8 Try.underlying49 hi hz0 hz1 hz2 rfl Nat.one_pos _ (inL q a k).length (rowI (inL q a k)) rfl (HO.out.alloc _) ⟨wr.heap.size, 0, none⟩ 1 1 [.int .i64 (nth a k)] rfl rfl (cell_one_new _ _ _) (one_cell _) (by unfold maxLen; omega) (by omega) (by rw [World.size_alloc]; exact Nat.le_succ_of_le HB.out.size) ?_; intro v1 w1 hown1 hg1 _; have HO1 := Lib.hid hown1; have HB1 := Lib.hid (Below.grown (Below.alloc HB.out HB.out.size _) hg1 (by rw [World.size_alloc]; exact Nat.le_succ_of_le HB.out.size) (fun j e => (HO.out.lt j e).1)); clear hown1 hg1) | fail)
        go_roundg g1
        case measure => omega
        case rel =>
          have e : inL q a (k + 1) = inL q a k ++ [nth a k] := HSS.out
          have h := HO1.out
          refine ⟨k + 1, by omega, by go_num, ?_, HB1.out⟩
          rw [e]
          unfold rowI at h ⊢
          rw [List.length_append, List.map_append]
          exact h

theorem without_any (a b : List Int) (sa sb : Option Addr) (ga oa gb ob ca cb : Nat) (w : World) (ha : Lies w sa ga oa a) (hb : Lies w sb gb ob b) (la : a.length ≤ 10000) (lb : b.length ≤ 10000) :
    Calls Try.prog 25 #[.slice sa a.length ca, .slice sb b.length cb] w fun e w' => ∃ v, e = .returned v ∧ w'.ownsRow w.heap.size 3 1 v (a.filter (fun n => !decide (n ∈ b))).length (rowI (a.filter (fun n => !decide (n ∈ b)))) ∧ Below w.heap.size w w' := by
  obtain ⟨i0, hi, hz0, hz1, hz2⟩ := info_parts info3
  have HA := Lib.hid ha
  have HB0 := Lib.hid hb
  obtain ⟨q, hq⟩ : ∃ q : Int → Bool, q = (fun n => !decide (n ∈ b)) := ⟨_, rfl⟩
  rw [← hq]
  have HP := Lib.hid (show inL q a a.length = a.filter q by unfold inL; rw [List.take_length])
  have HS := fun k hk => Lib.hid (inL_succ q a k hk)
  have HLn := fun k => inL_len q a k
  have HQ := Lib.hid (show ∀ n, q n = !decide (n ∈ b) from fun n => by rw [hq])
  clear ha hb hq
  go_enter Try.func25, Try.ntmps25
  go_wp2
  go_loopg [5, 6] a.length (fun g v i wr => ∃ (k : Nat), k + g = a.length ∧ i = .int .i64 k ∧ wr.ownsRow w.heap.size 3 1 v (inL q a k).length (rowI (inL q a k)) ∧ Below w.heap.size w wr)
  case atStart => exact ⟨0, by omega, rfl, World.ownsRow_nil _ _ _ _, Below.refl _ _⟩
  case round =>
    obtain ⟨k, hkg, rfl, hown, hB⟩ := hrel
    have HO := Lib.hid hown
    have HB := Lib.hid hB
    clear hown hB
    cases gk with
    | zero =>
      obtain rfl : k = a.length := by omega
      go_wp2
      go_ret
      have h := HO.out
      rw [HP.out] at h
      exact ⟨_, rfl, h, HB.out⟩
    | succ g1 =>
      have hlt : k < a.length := by omega
      have hki : (k : Int) < (a.length : Int) := by omega
      obtain ⟨rfl, hbl⟩ := HA.out.1 (by omega)
      have hc : wr.cell? ⟨ga, oa + k, none⟩ = some (.int .i64 (nth a k)) := by rw [HB.out.cell (p := ⟨ga, oa + k, none⟩) hbl]; exact HA.out.2 k hlt
      have hkl := HLn k
      have HIn := Lib.hid (in_any sb gb ob cb b (nth a k) wr (by omega) (HB0.out.below HB.out fun h => (HB0.out.1 h).2))
      have hq := HQ.out (nth a k)
      have hs := (HS k hlt).out
      cases hd : decide (nth a k ∈ b)
      all_goals
        rw [hd] at HIn hq
        rw [hq] at hs
        have HSS := Lib.hid hs
        clear hd hq hs hbl
      · skip
        go_wp2_with (first | (go_at_call 46; refine HIn.out.mono ?_; rintro e w' ⟨rfl, rfl⟩) | (at_builtin; refine wpList_append_own _ rfl (.tmp 20) (.tmp 25) 49 rfl w.heap.size 3 i0 (.int .i64 0) 1 8 Try.underlying49 hi hz0 hz1 hz2 rfl Nat.one_pos _ (inL q a k).length (rowI (inL q a k)) rfl (HO.out.alloc _) ⟨wr.heap.size, 0, none⟩ 1 1 [.int .i64 (nth a k)] rfl rfl (cell_one_new _ _ _) (one_cell _) (by unfold maxLen; omega) (by omega) (by rw [World.size_alloc]; exact Nat.le_succ_of_le HB.out.size) ?_; intro v1 w1 hown1 hg1 _; have HO1 := Lib.hid hown1; have HB1 := Lib.hid (Below.grown (Below.alloc HB.out HB.out.size _) hg1 (by rw [World.size_alloc]; exact Nat.le_succ_of_le HB.out.size) (fun j e => (HO.out.lt j e).1)); clear hown1 hg1) | fail)
        go_roundg g1
        case measure => omega
        case rel =>
          have e : inL q a (k + 1) = inL q a k ++ [nth a k] := HSS.out
          have h := HO1.out
          refine ⟨k + 1, by omega, by go_num, ?_, HB1.out⟩
          rw [e]
          unfold rowI at h ⊢
          rw [List.length_append, List.map_append]
          exact h
      · skip
        go_wp2_with (go_at_call 46; refine HIn.out.mono ?_; rintro e w' ⟨rfl, rfl⟩)
        go_roundg g1
        case measure => omega
        case rel =>
          have e : inL q a (k + 1) = inL q a k := HSS.out
          exact ⟨k + 1, by omega, by go_num, by rw [e]; exact HO.out, HB.out⟩
end Go.Proofs.Ytdfknobohgncaaa
