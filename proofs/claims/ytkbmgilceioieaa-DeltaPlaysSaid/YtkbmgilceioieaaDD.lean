/- The walk of DeltaDue. -/
import Derived.Test.YtkbmgilceioieaaDL
namespace Go.Proofs.Ytkbmgilceioieaa
open Go.RowKit

def opAt (O : List (Int × Int × Int)) (k : Nat) : Int × Int × Int := O.getD k (0, 0, 0)
/-- Where the calls lie. -/
def Ops (w : World) (sp : Option Addr) (b off : Nat) (O : List (Int × Int × Int)) : Prop :=
  (0 < O.length → sp = some ⟨b, off, none⟩ ∧ b < w.heap.size) ∧ ∀ k, k < O.length → w.cell? ⟨b, off + k * 3, none⟩ = some (.int .i64 (opAt O k).1) ∧ w.cell? ⟨b, off + k * 3 + 1, none⟩ = some (.int .i64 (opAt O k).2.1) ∧ w.cell? ⟨b, off + k * 3 + 2, none⟩ = some (.int .i64 (opAt O k).2.2)
theorem Ops.at_ {w w' : World} {sp : Option Addr} {b off : Nat} {O : List (Int × Int × Int)} (h : Ops w sp b off O) (hb : Below w.heap.size w w') (k : Nat) (hk : k < O.length) :
    w'.cell? ⟨b, off + k * 3, none⟩ = some (.int .i64 (opAt O k).1) ∧ w'.cell? ⟨b, off + k * 3 + 1, none⟩ = some (.int .i64 (opAt O k).2.1) ∧ w'.cell? ⟨b, off + k * 3 + 2, none⟩ = some (.int .i64 (opAt O k).2.2) := by
  have hl := (h.1 (by omega)).2
  obtain ⟨h1, h2, h3⟩ := h.2 k hk
  exact ⟨(hb.cell (p := ⟨b, off + k * 3, none⟩) hl).trans h1, (hb.cell (p := ⟨b, off + k * 3 + 1, none⟩) hl).trans h2, (hb.cell (p := ⟨b, off + k * 3 + 2, none⟩) hl).trans h3⟩

/-- The others added. -/
def othA (O : List (Int × Int × Int)) (id : Int) : Nat → List (Int × Int)
  | 0 => []
  | k + 1 => if (opAt O k).2.1 = id then othA O id k else addA (opAt O k).2.1 (opAt O k).2.2 (othA O id k)

theorem len_addA (id t : Int) (A : List (Int × Int)) : (addA id t A).length ≤ A.length + 1 := by
  unfold addA
  split
  · rw [len_insA]
    have := List.length_filter_le (fun p : Int × Int => decide (p.1 ≠ id)) A
    unfold cancelA; omega
  · omega
theorem in_addA {id id' t : Int} {A : List (Int × Int)} (h : id ∉ A.map (·.1)) (hne : id' ≠ id) : id ∉ (addA id' t A).map (·.1) := by
  unfold addA
  split
  · intro hm
    obtain ⟨p, hp, e⟩ := List.mem_map.1 hm
    rcases mem_insA.1 hp with rfl | hp
    · exact hne e
    · exact h (List.mem_map.2 ⟨p, (List.mem_filter.1 hp).1, e⟩)
  · exact h
theorem othA_spec (O : List (Int × Int × Int)) (id : Int) (k : Nat) : (othA O id k).length ≤ k ∧ id ∉ (othA O id k).map (·.1) := by
  induction k with
  | zero => exact ⟨by simp [othA], by simp [othA]⟩
  | succ k ih =>
    unfold othA
    split
    · exact ⟨by omega, ih.2⟩
    · rename_i hne
      exact ⟨Nat.le_trans (len_addA _ _ _) (by omega), in_addA ih.2 hne⟩

theorem oth_add {O : List (Int × Int × Int)} {id t : Int} {k : Nat} (hk : k ≤ 60) (h1 : 1 ≤ t) (h2 : t ≤ 2000) :
    fitsA id t (othA O id k) = true ∧ (id, t) ∈ addA id t (othA O id k) := by
  have hs := othA_spec O id k
  have hf : fitsA id t (othA O id k) = true := by
    unfold fitsA
    simp only [Bool.and_eq_true, Bool.or_eq_true, decide_eq_true_eq]
    exact ⟨⟨h1, by omega⟩, .inr (by omega)⟩
  refine ⟨hf, ?_⟩
  unfold addA
  rw [hf]
  exact mem_insA.2 (.inl rfl)

/-- A timer's way: due now, or one tick nearer. -/
theorem due_now {id : Int} {A : List (Int × Int)} (hok : OkA A) (h : (id, 1) ∈ A) : id ∈ dueA A := by
  unfold dueA
  rw [List.mem_map]
  refine ⟨(id, 1), ?_, rfl⟩
  rw [← List.takeWhile_append_dropWhile (p := fun p : Int × Int => decide (p.2 = 1)) (l := A)] at h
  rcases List.mem_append.1 h with h | h
  · exact h
  · have := drop_one hok _ h; simp at this
theorem due_later {id t : Int} {A : List (Int × Int)} (hok : OkA A) (h : (id, t) ∈ A) (ht : t ≠ 1) : id ∉ dueA A ∧ (id, t - 1) ∈ tickA A := by
  have hsp := List.takeWhile_append_dropWhile (p := fun p : Int × Int => decide (p.2 = 1)) (l := A)
  have hall : ∀ p ∈ A.takeWhile (fun p => decide (p.2 = 1)), p.2 = 1 := by
    intro p hp
    have := List.all_eq_true.1 (List.all_takeWhile (p := fun p : Int × Int => decide (p.2 = 1)) (l := A)) p hp
    simpa using this
  have hd : (id, t) ∈ A.dropWhile fun p => decide (p.2 = 1) := by
    rw [← hsp] at h
    rcases List.mem_append.1 h with h | h
    · exact absurd (hall _ h) ht
    · exact h
  refine ⟨fun hm => ?_, List.mem_map.2 ⟨(id, t), hd, rfl⟩⟩
  have hnd := hok.nd
  rw [← hsp, List.map_append, List.nodup_append] at hnd
  exact hnd.2.2 id hm id (List.mem_map.2 ⟨_, hd, rfl⟩) rfl

def ticksA (A : List (Int × Int)) : Nat → List (Int × Int)
  | 0 => A
  | k + 1 => tickA (ticksA A k)
theorem okA_ticks {A : List (Int × Int)} (h : OkA A) : ∀ k, OkA (ticksA A k)
  | 0 => h
  | k + 1 => okA_tick (okA_ticks h k)
theorem ticks_mem {id t : Int} {A : List (Int × Int)} (hok : OkA A) (h : (id, t) ∈ A) : ∀ k : Nat, (k : Int) < t → (id, t - k) ∈ ticksA A k
  | 0, _ => by simpa [ticksA] using h
  | k + 1, hk => by
    have ih := ticks_mem hok h k (by omega)
    have := (due_later (okA_ticks hok k) ih (by omega)).2
    unfold ticksA
    rwa [show t - (k : Int) - 1 = t - ((k + 1 : Nat) : Int) by omega] at this
theorem ticks_due {id t : Int} {A : List (Int × Int)} (hok : OkA A) (h : (id, t) ∈ A) (k : Nat) (hk : (k : Int) < t) : decide (id ∈ dueA (ticksA A k)) = decide ((k : Int) + 1 = t) := by
  have hm := ticks_mem hok h k hk
  by_cases e : (k : Int) + 1 = t
  · rw [show t - (k : Int) = 1 by omega] at hm
    have := due_now (okA_ticks hok k) hm
    simp [this, e]
  · have := (due_later (okA_ticks hok k) hm (by omega)).1
    simp [this, e]
theorem dueA_len {A : List (Int × Int)} (h : OkA A) : (dueA A).length ≤ 64 := by
  unfold dueA
  rw [List.length_map]
  exact Nat.le_trans (List.takeWhile_sublist _).length_le h.len
theorem DQ.ok {B q : Nat} {A : List (Int × Int)} {w : World} (h : DQ B w q A) : OkA A := by
  obtain ⟨L, -, -, h, -⟩ := h; exact h
theorem take_mem_succ (D : List Int) (id : Int) (k : Nat) (hk : k < D.length) : decide (id ∈ D.take (k + 1)) = (decide (id ∈ D.take k) || decide (nth D k = id)) := by
  rw [take_succ_nth D k hk, Bool.eq_iff_iff]
  simp
  constructor
  · rintro (h | h)
    · exact .inl h
    · exact .inr h.symm
  · rintro (h | h)
    · exact .inl h
    · exact .inr h.symm

set_option maxHeartbeats 4000000 in
set_option maxRecDepth 100000 in
theorem law_due (sp : Option Addr) (b off cap : Nat) (O : List (Int × Int × Int)) (id t : Int) (w : World) (hlen : O.length ≤ 9223372036854775807) (hO : Ops w sp b off O) :
    Calls Try.prog 6 #[.slice sp O.length cap, .int .i64 id, .int .i64 t] w fun e w' => e = .returned (.bool true) ∧ Below w.heap.size w w' := by
  by_cases hn : O.length ≤ 60
  case neg =>
    have d1 : decide ((60 : Int) < (O.length : Int)) = true := by simp; omega
    have d2 : (60 : Int) < (O.length : Int) := by omega
    clear hO
    go_enter Try.func6, Try.ntmps6
    go_wp2
    go_ret
    exact ⟨rfl, Below.refl _ _⟩
  by_cases h1 : t < 1
  · have d1 : ¬ (60 : Int) < (O.length : Int) := by omega
    clear hO
    go_enter Try.func6, Try.ntmps6
    go_wp2
    go_ret
    exact ⟨rfl, Below.refl _ _⟩
  by_cases h2 : 2000 < t
  · have d1 : ¬ (60 : Int) < (O.length : Int) := by omega
    clear hO
    go_enter Try.func6, Try.ntmps6
    go_wp2
    go_ret
    exact ⟨rfl, Below.refl _ _⟩
  have d1 : ¬ (60 : Int) < (O.length : Int) := by omega
  have HO := Lib.hid hO
  obtain ⟨w1, hw1⟩ : ∃ w1, w1 = w.alloc (.cells #[.pointer none] 57) := ⟨_, rfl⟩
  obtain ⟨q, hq⟩ : ∃ q, q = w.heap.size := ⟨_, rfl⟩
  have HQ0 := Lib.hid (show DQ w.heap.size w1 q [] by rw [hw1, hq]; exact DQ.new w _ (Nat.le_refl _))
  have HB0 := Lib.hid (show Below w.heap.size w w1 by rw [hw1]; exact (Below.refl _ _).alloc (Nat.le_refl _) _)
  obtain ⟨N, hN⟩ : ∃ N, N = O.length := ⟨_, rfl⟩
  have HN := Lib.hid hN
  clear hO
  go_enter Try.func6, Try.ntmps6
  go_wp2
  rw [← hw1, ← hq]
  rw [← hN] at hn d1 hlen ⊢
  clear hw1 hq hN
  go_loopg [8] N (fun g i wr => ∃ k : Nat, k + g = N ∧ i = .int .i64 k ∧ Aside (DQ w.heap.size wr q (othA O id k) ∧ Below w.heap.size w wr))
  case atStart => exact ⟨0, by omega, rfl, HQ0.out, HB0.out⟩
  case round =>
    obtain ⟨k, hkg, rfl, HR⟩ := hrel
    cases gk with
    | zero =>
      obtain rfl : k = N := by omega
      have hf := oth_add (O := O) (id := id) (t := t) hn (by omega) (by omega)
      have HC := Lib.hid (add_dq id t (by exact HR.out.2.size) HR.out.1)
      rw [hf.1] at HC
      obtain ⟨A, hA⟩ : ∃ A, A = addA id t (othA O id k) := ⟨_, rfl⟩
      rw [← hA] at HC hf
      have HM := Lib.hid hf.2
      clear hf hA
      go_wp2_with (go_at_call 31; refine HC.out.mono ?_; rintro e w2 ⟨rfl, q2, b2⟩; have HQ2 := Lib.hid q2; have HB2 := Lib.hid (HR.out.2.trans b2); clear q2 b2)
      obtain ⟨m, hm⟩ : ∃ m : Nat, (m : Int) = t := ⟨t.toNat, by omega⟩
      have HT := Lib.hid hm
      clear hm
      have HOK := Lib.hid HQ2.out.ok
      go_loopg [9, 10, 11, 12] m (fun g i u1 u2 u3 wr => ∃ j : Nat, j + g = m ∧ i = .int .i64 ((j : Int) + 1) ∧ Aside (DQ w.heap.size wr q (ticksA A j) ∧ Below w.heap.size w wr))
      case atStart => exact ⟨0, by omega, by rfl, HQ2.out, HB2.out⟩
      case round =>
        obtain ⟨j, hjg, rfl, HR3⟩ := hrel
        have hmt := HT.out
        cases gk with
        | zero =>
          have e1 : ¬ (j : Int) + 1 ≤ t := by omega
          clear hmt
          have HAl := Lib.hid (alive_any wr)
          go_wp2_with (go_at_call 37; refine HAl.out.mono ?_; rintro e w3 ⟨rfl, b3⟩; have HB3 := Lib.hid (HR3.out.2.trans (b3.mono HR3.out.2.size)); clear b3)
          go_ret
          exact ⟨rfl, HB3.out⟩
        | succ g2 =>
          have e1 : (j : Int) + 1 ≤ t := by omega
          have hj : (j : Int) < t := by omega
          have hj2 : (j : Int) ≤ 2000 := by omega
          have hd := ticks_due HOK.out HM.out j hj
          have hl := dueA_len HR3.out.1.ok
          have HC3 := Lib.hid (tick_dq (by exact HR3.out.2.size) HR3.out.1)
          obtain ⟨D, hD⟩ : ∃ D, D = dueA (ticksA A j) := ⟨_, rfl⟩
          rw [← hD] at HC3 hd hl
          have HD := Lib.hid hd
          clear hmt hd hj hD
          go_wp2_with (go_at_call 28; refine HC3.out.mono ?_; rintro e w4 ⟨sp4, g4, cp4, rfl, r4, -, q4, b4⟩; have HR4 := Lib.hid r4; have HQ4 := Lib.hid q4; have HB4 := Lib.hid (HR3.out.2.trans b4); clear r4 q4 b4)
          go_loopg [11, 12] D.length (fun g x i wr => ∃ c : Nat, c + g = D.length ∧ i = .int .i64 c ∧ x = .bool (decide (id ∈ D.take c)) ∧ Aside (w4 = wr))
          case atStart => exact ⟨0, by omega, by rfl, by rfl, rfl⟩
          case round =>
            obtain ⟨c, hcg, rfl, rfl, hw⟩ := hrel
            obtain rfl := hw.out
            clear hw
            cases gk with
            | zero =>
              obtain rfl : c = D.length := by omega
              rw [List.take_length, HD.out]
              by_cases hjt : (j : Int) + 1 = t
              · have ed : decide ((j : Int) + 1 = t) = true := by simpa using hjt
                have eb : ((j : Int) + 1 == t) = true := by simpa using hjt
                rw [ed]
                clear hjt ed
                go_wp2
                go_roundg g2
                case measure => omega
                case rel => exact ⟨j + 1, by omega, by go_num, HQ4.out, HB4.out⟩
              · have ed : decide ((j : Int) + 1 = t) = false := by simpa using hjt
                have eb : ((j : Int) + 1 == t) = false := by simpa using hjt
                rw [ed]
                clear hjt ed
                go_wp2
                go_roundg g2
                case measure => omega
                case rel => exact ⟨j + 1, by omega, by go_num, HQ4.out, HB4.out⟩
            | succ g3 =>
              have hct : c < D.length := by omega
              obtain rfl := HR4.out.1 (by omega)
              have hc := HR4.out.2 c hct
              have hci : (c : Int) < (D.length : Int) := by omega
              have HS := Lib.hid (take_mem_succ D id c hct)
              cases hb : decide (id ∈ D.take c) with
              | true =>
                rw [hb] at HS
                clear hb
                go_wp2
                go_roundg g3
                case measure => omega
                case rel => exact ⟨c + 1, by omega, by go_num, by rw [HS.out]; rfl, rfl⟩
              | false =>
                rw [hb] at HS
                clear hb
                by_cases he : nth D c = id
                · have hb : (nth D c == id) = true := by simpa using he
                  have hd : decide (nth D c = id) = true := by simpa using he
                  rw [hd] at HS
                  clear he hd
                  go_wp2
                  go_roundg g3
                  case measure => omega
                  case rel => exact ⟨c + 1, by omega, by go_num, by rw [HS.out]; rfl, rfl⟩
                · have hb : (nth D c == id) = false := by simpa using he
                  have hd : decide (nth D c = id) = false := by simpa using he
                  rw [hd] at HS
                  clear he hd
                  go_wp2
                  go_roundg g3
                  case measure => omega
                  case rel => exact ⟨c + 1, by omega, by go_num, by rw [HS.out]; rfl, rfl⟩
    | succ g1 =>
      have hlt : k < N := by omega
      obtain ⟨rfl, hbl⟩ := HO.out.1 (by rw [← HN.out]; omega)
      obtain ⟨c0, c1, c2⟩ := HO.out.at_ HR.out.2 k (by rw [← HN.out]; exact hlt)
      have i1 : (k : Int) < (N : Int) := by omega
      have i0 : (0 : Int) ≤ (k : Int) := by omega
      by_cases hx : (opAt O k).2.1 = id
      · have hxb : ((opAt O k).2.1 != id) = false := by simpa using hx
        have HX := Lib.hid hx
        clear hx c0 c2 hbl
        go_wp2
        go_roundg g1
        case measure => omega
        case rel => exact ⟨k + 1, by omega, by go_num, by unfold othA; rw [if_pos HX.out]; exact HR.out.1, HR.out.2⟩
      · have hxb : ((opAt O k).2.1 != id) = true := by simpa using hx
        have HX := Lib.hid hx
        have HC := Lib.hid (add_dq (opAt O k).2.1 (opAt O k).2.2 (by exact HR.out.2.size) HR.out.1.drew)
        clear hx c0 hbl
        go_wp2
        go_still_tail 11, (by kernel_rfl)
        go_wp2_with (go_at_call 31; refine HC.out.mono ?_; rintro e w2 ⟨rfl, q2, b2⟩; have HQ2 := Lib.hid q2; have HB2 := Lib.hid (HR.out.2.drew.trans b2); clear q2 b2)
        go_roundg g1
        case measure => omega
        case rel => exact ⟨k + 1, by omega, by go_num, by unfold othA; rw [if_neg HX.out]; exact HQ2.out, HB2.out⟩
end Go.Proofs.Ytkbmgilceioieaa
