/- The walk of DeltaFull. -/
import Derived.Test.YtkbmgilceioieaaDF
namespace Go.Proofs.Ytkbmgilceioieaa
open Go.RowKit

def fullA (id t : Int) (k : Nat) : List (Int × Int) := (List.range k).map fun j : Nat => (id + (j : Int), t)
theorem takeWhile_all {A : List (Int × Int)} {p : Int × Int → Bool} (h : ∀ a ∈ A, p a = true) : A.takeWhile p = A := by
  induction A with
  | nil => rfl
  | cons a A ih => rw [List.takeWhile_cons, h a (List.mem_cons_self ..), if_pos rfl, ih fun b hb => h b (List.mem_cons_of_mem _ hb)]
theorem fullA_succ (id t : Int) (k : Nat) : fullA id t (k + 1) = fullA id t k ++ [(id + (k : Int), t)] := by
  unfold fullA; rw [List.range_succ, List.map_append]; rfl
theorem fullA_len (id t : Int) (k : Nat) : (fullA id t k).length = k := by unfold fullA; simp
theorem fullA_mem {id t : Int} {k : Nat} {p : Int × Int} : p ∈ fullA id t k ↔ ∃ j : Nat, j < k ∧ p = (id + (j : Int), t) := by
  unfold fullA
  rw [List.mem_map]
  constructor
  · rintro ⟨j, hj, rfl⟩; exact ⟨j, by simpa using hj, rfl⟩
  · rintro ⟨j, hj, rfl⟩; exact ⟨j, by simpa using hj, rfl⟩
theorem fullA_no (id t : Int) (k : Nat) : inA (id + (k : Int)) (fullA id t k) = false := by
  cases h : inA (id + (k : Int)) (fullA id t k) with
  | false => rfl
  | true =>
    obtain ⟨p, hp, e⟩ := List.mem_map.1 ((inA_iff _ _).1 h)
    obtain ⟨j, hj, rfl⟩ := fullA_mem.1 hp
    simp at e; omega
theorem ins_all {A : List (Int × Int)} {id t : Int} (h : ∀ p ∈ A, p.2 ≤ t) : insA id t A = A ++ [(id, t)] := by
  have := take_of (A := A) (B := []) h (by simp)
  rw [List.append_nil] at this
  unfold insA
  rw [this.1, this.2]
theorem ins_none {A : List (Int × Int)} {id t : Int} (h : ∀ p ∈ A, t < p.2) : insA id t A = (id, t) :: A := by
  have := take_of (A := []) (B := A) (t := t) (by simp) (fun p hp => h p (by
    cases A with
    | nil => simp at hp
    | cons a A => simp at hp; subst hp; exact List.mem_cons_self ..))
  rw [List.nil_append] at this
  unfold insA
  rw [this.1, this.2]; rfl
theorem full_add {id t : Int} {k : Nat} (hk : k < 64) (h1 : 1 ≤ t) (h2 : t ≤ 65536) : fitsA (id + (k : Int)) t (fullA id t k) = true ∧ addA (id + (k : Int)) t (fullA id t k) = fullA id t (k + 1) := by
  have hf : fitsA (id + (k : Int)) t (fullA id t k) = true := by
    unfold fitsA
    simp only [Bool.and_eq_true, Bool.or_eq_true, decide_eq_true_eq, fullA_len]
    exact ⟨⟨h1, h2⟩, .inr hk⟩
  refine ⟨hf, ?_⟩
  unfold addA
  rw [if_pos hf, cancelA_none (fullA_no id t k), ins_all, fullA_succ]
  intro p hp
  obtain ⟨j, _, rfl⟩ := fullA_mem.1 hp
  exact Int.le_refl _
theorem full_over (id t : Int) : fitsA (id + 64) 1 (fullA id t 64) = false ∧ addA (id + 64) 1 (fullA id t 64) = fullA id t 64 := by
  have hf : fitsA (id + 64) 1 (fullA id t 64) = false := by
    have := fullA_no id t 64
    unfold fitsA
    rw [fullA_len]
    rw [show id + ((64 : Nat) : Int) = id + 64 from rfl] at this
    rw [this]; rfl
  exact ⟨hf, by unfold addA; rw [hf]; rfl⟩
/-- Behind the last one's turning. -/
def lastA (id t : Int) : List (Int × Int) := addA (id + 63) 1 (fullA id t 64)
theorem full_last (id t : Int) : fitsA (id + 63) 1 (fullA id t 64) = true ∧ lastA id t = insA (id + 63) 1 (fullA id t 63) := by
  have hi : inA (id + 63) (fullA id t 64) = true := by
    rw [inA_iff]
    exact List.mem_map.2 ⟨(id + ((63 : Nat) : Int), t), fullA_mem.2 ⟨63, by omega, rfl⟩, rfl⟩
  have hf : fitsA (id + 63) 1 (fullA id t 64) = true := by unfold fitsA; rw [hi]; rfl
  refine ⟨hf, ?_⟩
  unfold lastA addA
  rw [if_pos hf]
  congr 1
  have := fullA_no id t 63
  rw [fullA_succ]
  unfold cancelA
  rw [List.filter_append]
  have e : [(id + ((63 : Nat) : Int), t)].filter (fun p : Int × Int => decide (p.1 ≠ id + 63)) = [] := by simp
  rw [e, List.append_nil]
  exact cancelA_none this
theorem last_one (id : Int) : lastA id 1 = fullA id 1 64 := by
  rw [(full_last id 1).2, ins_all]
  · exact (fullA_succ id 1 63).symm
  · intro p hp
    obtain ⟨j, _, rfl⟩ := fullA_mem.1 hp
    exact Int.le_refl _
theorem last_more {id t : Int} (ht : 1 < t) : lastA id t = (id + 63, 1) :: fullA id t 63 := by
  rw [(full_last id t).2, ins_none]
  intro p hp
  obtain ⟨j, _, rfl⟩ := fullA_mem.1 hp
  exact ht
theorem no_fit (id t : Int) (A : List (Int × Int)) (h : t < 1 ∨ 65536 < t) : fitsA id t A = false ∧ addA id t A = A := by
  have hf : fitsA id t A = false := by
    unfold fitsA
    rcases h with h | h
    · have : decide (1 ≤ t) = false := by simp; omega
      simp [this]
    · have : decide (t ≤ 65536) = false := by simp; omega
      simp [this]
  exact ⟨hf, by unfold addA; rw [hf]; rfl⟩
theorem fullA_at (id t : Int) (k j : Nat) (hj : j < k) : aI (fullA id t k) j = id + (j : Int) ∧ aT (fullA id t k) j = t := by
  unfold aI aT fullA
  simp [hj]
theorem full_look (id t : Int) (k : Nat) (hk : 5 < k) : lookT (id + 5) (fullA id t k) = t ∧ inA (id + 5) (fullA id t k) = true := by
  have h := look_some (id := id + 5) (A := fullA id t k) (k := 5) (by rw [fullA_len]; exact hk) (fun j hj => by rw [(fullA_at id t k j (by omega)).1]; omega) (fullA_at id t k 5 hk).1
  rw [(fullA_at id t k 5 hk).2] at h
  exact h
theorem last_look {id t : Int} (ht : 1 ≤ t) : lookT (id + 5) (lastA id t) = t ∧ inA (id + 5) (lastA id t) = true := by
  by_cases e : t = 1
  · subst e; rw [last_one]; exact full_look id 1 64 (by omega)
  · rw [last_more (by omega)]
    have h := full_look id t 63 (by omega)
    have hn : ¬ id + 63 = id + 5 := by omega
    have h1 := h.1
    have h2 := h.2
    unfold lookT at h1 ⊢
    unfold inA at h2 ⊢
    rw [List.find?_cons]
    simp only [hn, decide_false, List.any_cons, Bool.false_or]
    exact ⟨h1, h2⟩
theorem due_one (id : Int) : (dueA (lastA id 1)).length = 64 ∧ nth (dueA (lastA id 1)) 63 = id + 63 := by
  rw [last_one]
  have e : dueA (fullA id 1 64) = (List.range 64).map fun j : Nat => id + (j : Int) := by
    unfold dueA
    have : (fullA id 1 64).takeWhile (fun p => decide (p.2 = 1)) = fullA id 1 64 := by
      refine takeWhile_all ?_
      intro p hp
      obtain ⟨j, _, rfl⟩ := fullA_mem.1 hp
      rfl
    rw [this]
    unfold fullA
    rw [List.map_map]; rfl
  rw [e]
  refine ⟨by simp, ?_⟩
  unfold nth
  simp
theorem due_more {id t : Int} (ht : 1 < t) : dueA (lastA id t) = [id + 63] := by
  rw [last_more ht]
  unfold dueA
  rw [List.takeWhile_cons]
  have : (fullA id t 63).takeWhile (fun p => decide (p.2 = 1)) = [] := by
    have e : fullA id t 63 = (id + ((0 : Nat) : Int), t) :: (fullA id t 63).tail := rfl
    have hn : ¬ t = 1 := by omega
    rw [e, List.takeWhile_cons]
    simp [hn]
  rw [this]
  rfl
theorem due_dq {B q : Nat} {A : List (Int × Int)} {w : World} (id : Int) (h : DQ B w q A) :
    Calls Try.prog 33 #[.pointer (some ⟨q, 0, none⟩), .int .i64 id] w fun e w' => e = .returned (.tuple #[.int .i64 (lookT id A), .bool (inA id A)]) ∧ DQ B w' q A ∧ Below w.heap.size w w' := by
  have h' := h
  obtain ⟨L, h1, hA, hok, hB, hb⟩ := h
  refine (due_any q L A id w h1 hA hok).mono ?_
  rintro e w' ⟨rfl, hb'⟩
  exact ⟨rfl, h'.below hb' (Nat.le_refl _), hb'⟩

set_option maxRecDepth 100000 in
set_option maxHeartbeats 4000000 in
theorem law_full (id t : Int) (w : World) : Calls Try.prog 7 #[.int .i64 id, .int .i64 t] w fun e w' => e = .returned (.bool true) ∧ Below w.heap.size w w' := by
  by_cases h1 : id < 0
  · go_enter Try.func7, Try.ntmps7
    go_wp2
    go_ret
    exact ⟨rfl, Below.refl _ _⟩
  by_cases h2 : 1099511627776 < id
  · go_enter Try.func7, Try.ntmps7
    go_wp2
    go_ret
    exact ⟨rfl, Below.refl _ _⟩
  by_cases h3 : t < 1
  · go_enter Try.func7, Try.ntmps7
    go_wp2
    go_ret
    exact ⟨rfl, Below.refl _ _⟩
  by_cases h4 : 65536 < t
  · go_enter Try.func7, Try.ntmps7
    go_wp2
    go_ret
    exact ⟨rfl, Below.refl _ _⟩
  obtain ⟨w1, hw1⟩ : ∃ w1, w1 = w.alloc (.cells #[.pointer none] 57) := ⟨_, rfl⟩
  obtain ⟨q, hq⟩ : ∃ q, q = w.heap.size := ⟨_, rfl⟩
  have HQ0 := Lib.hid (show DQ w.heap.size w1 q [] by rw [hw1, hq]; exact DQ.new w _ (Nat.le_refl _))
  have HB0 := Lib.hid (show Below w.heap.size w w1 by rw [hw1]; exact (Below.refl _ _).alloc (Nat.le_refl _) _)
  have g1 : 0 ≤ id := by omega
  have g2 : id ≤ 1099511627776 := by omega
  have g3 : 1 ≤ t := by omega
  have g4 : t ≤ 65536 := by omega
  go_enter Try.func7, Try.ntmps7
  go_wp2
  rw [← hw1, ← hq]
  clear hw1 hq
  go_loopg [6] 64 (fun g i wr => ∃ k : Nat, k + g = 64 ∧ i = .int .i64 k ∧ Aside (DQ w.heap.size wr q (fullA id t k) ∧ Below w.heap.size w wr))
  case atStart => exact ⟨0, by omega, rfl, HQ0.out, HB0.out⟩
  case round =>
    obtain ⟨k, hkg, rfl, HR⟩ := hrel
    cases gk with
    | succ m =>
      have hk : k < 64 := by omega
      have hki : (k : Int) < 64 := by omega
      have hf := full_add (id := id) (t := t) hk g3 g4
      have HC := Lib.hid (add_dq (id + (k : Int)) t (by exact HR.out.2.size) HR.out.1)
      rw [hf.1, hf.2] at HC
      clear hf
      go_wp2_with (go_at_call 31; refine HC.out.mono ?_; rintro e w2 ⟨rfl, q2, b2⟩; have HQ2 := Lib.hid q2; have HB2 := Lib.hid (HR.out.2.trans b2); clear q2 b2)
      go_roundg m
      case measure => omega
      case rel => exact ⟨k + 1, by omega, by go_num, HQ2.out, HB2.out⟩
    | zero =>
      obtain rfl : k = 64 := by omega
      clear hkg
      have ho := full_over id t
      have HC1 := Lib.hid (add_dq (id + 64) 1 (by exact HR.out.2.size) HR.out.1)
      rw [ho.1, ho.2] at HC1
      clear ho
      go_wp2_with fail
      refine HC1.out.mono ?_
      rintro e w2 ⟨rfl, q2, b2⟩
      have HB2 := Lib.hid (HR.out.2.trans b2)
      have HC2 := Lib.hid (add_dq (id + 63) 1 (by exact HB2.out.size) q2)
      rw [(full_last id t).1] at HC2
      clear q2 b2
      go_wp2_with fail
      refine HC2.out.mono ?_
      rintro e w3 ⟨rfl, q3, b3⟩
      have HB3 := Lib.hid (HB2.out.trans b3)
      have n1 := no_fit (id + 5) 0 (lastA id t) (.inl (by omega))
      have HC3 := Lib.hid (add_dq (id + 5) 0 (by exact HB3.out.size) (show DQ _ _ _ (lastA id t) from q3))
      rw [n1.1, n1.2] at HC3
      clear q3 b3 n1
      go_wp2_with fail
      refine HC3.out.mono ?_
      rintro e w4 ⟨rfl, q4, b4⟩
      have HB4 := Lib.hid (HB3.out.trans b4)
      have n1 := no_fit (id + 5) 65537 (lastA id t) (.inr (by omega))
      have HC4 := Lib.hid (add_dq (id + 5) 65537 (by exact HB4.out.size) q4)
      rw [n1.1, n1.2] at HC4
      clear q4 b4 n1
      go_wp2_with fail
      refine HC4.out.mono ?_
      rintro e w5 ⟨rfl, q5, b5⟩
      have HB5 := Lib.hid (HB4.out.trans b5)
      have HC5 := Lib.hid (due_dq (id + 5) q5)
      rw [(last_look g3).1, (last_look g3).2] at HC5
      clear q5 b5
      go_wp2_with fail
      refine HC5.out.mono ?_
      rintro e w6 ⟨rfl, q6, b6⟩
      have HB6 := Lib.hid (HB5.out.trans (b6.mono HB5.out.size))
      have HC6 := Lib.hid (tick_dq (by exact HB6.out.size) q6)
      clear q6 b6
      go_wp2_with fail
      by_cases ht : t = 1
      · subst ht
        have hd := due_one id
        rw [hd.1] at HC6
        refine HC6.out.mono ?_
        rintro e w7 ⟨sp, g, cap, rfl, r7, g7, -, b7⟩
        have HB7 := Lib.hid (HB6.out.trans b7)
        obtain rfl := r7.1 (by rw [hd.1]; omega)
        have c7 := r7.2 63 (by rw [hd.1]; omega)
        rw [hd.2] at c7
        have HAl := Lib.hid (alive_any w7)
        clear r7 g7 b7 hd
        go_wp2_with (go_at_call 37; refine HAl.out.mono ?_; rintro e w8 ⟨rfl, b8⟩; have HB8 := Lib.hid (HB7.out.trans (b8.mono HB7.out.size)); clear b8)
        go_ret
        exact ⟨rfl, HB8.out⟩
      · have ht1 : 1 < t := by omega
        have htb : (t == 1) = false := by simpa using ht
        have hd := due_more (id := id) ht1
        rw [hd] at HC6
        refine HC6.out.mono ?_
        rintro e w7 ⟨sp, g, cap, rfl, r7, g7, -, b7⟩
        have HB7 := Lib.hid (HB6.out.trans b7)
        have HR7 := Lib.hid r7
        have HG7 := Lib.hid g7
        clear r7 g7 b7 hd ht
        go_wp2_with fail
        have b8 : Below w7.heap.size w7 (w7.alloc (.cells #[.int .i64 (id + 63)] 3)) := (Below.refl _ _).alloc (Nat.le_refl _) _
        refine (row_any [id + 63] [id + 63] sp (some ⟨w7.heap.size, 0, none⟩) g w7.heap.size cap 1 _ (HR7.out.below b8 fun h => (HG7.out h).2) (row_one _ _) (by simp) (by simp)).mono ?_
        rintro e w8 ⟨rfl, n, rfl⟩
        have HB8 := Lib.hid (Below.drewN (HB7.out.trans (b8.mono HB7.out.size)) n)
        have HAl := Lib.hid (alive_any ((w7.alloc (.cells #[.int .i64 (id + 63)] 3)).drewN n))
        have hdec : decide ([id + 63] = [id + 63]) = true := by simp
        rw [hdec]
        clear b8 hdec
        go_wp2_with (go_at_call 37; refine HAl.out.mono ?_; rintro e w9 ⟨rfl, b9⟩; have HB9 := Lib.hid (HB8.out.trans (b9.mono HB8.out.size)); clear b9)
        go_ret
        exact ⟨rfl, HB9.out⟩
end Go.Proofs.Ytkbmgilceioieaa
