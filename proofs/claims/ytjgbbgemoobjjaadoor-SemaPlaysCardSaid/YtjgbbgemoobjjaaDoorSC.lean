/- The contracts of sema's Sound and End. -/
import Derived.Test.YtjgbbgemoobjjaaDoorSB
import Derived.Test.YtjgbbgemoobjjaaDoorMList
namespace Go.Proofs.YtjgbbgemoobjjaaDoor
open Go.RowKit

/-- The ints of a row of sixteen. -/
def r16 (g : Nat → Int) : List Value := (List.range 16).map fun i => .int .i64 (g i)
theorem r16_len (g : Nat → Int) : (r16 g).length = 16 := by simp [r16]
theorem r16_at (g : Nat → Int) (k : Nat) (hk : k < 16) : (r16 g)[k]? = some (.int .i64 (g k)) := by simp [r16, hk]
theorem info16 : (Tryd.prog.info? 46).map (·.size) = some 16 := by kernel_rfl
theorem index16 (g : Nat → Int) (k : Nat) (hk : k < 16) (w : World) : (Instr.index 46 (.agg (r16 g).toArray) (.int .i64 k)).run Tryd.prog w = .ok (.int .i64 (g k)) w := by
  have ha := r16_at g k hk
  have h1 : ((k : Int) < 16) := by omega
  have h0 : (0 : Int) ≤ (k : Int) := by omega
  simp [Instr.index, go_sem, run_underlying Tryd.underlying46, asIntOf, ha]
  intro h; omega
theorem SAt.range {w : World} {B : Nat} {mo : Int} {s : St} (h : SAt w B mo s) : w.rangeAt B 2 (r16 s.g) := fun j v hv => by
  have hj : j < 16 := by have := (List.getElem?_eq_some_iff.1 hv).1; rwa [r16_len] at this
  rw [h.cg j hj, ← r16_at s.g j hj]; exact hv
set_option maxHeartbeats 2000000 in
theorem sound_any {w : World} {B : Nat} {mo : Int} {s : St} (h : SAt w B mo s) (hi : Inv mo s) :
    Calls Tryd.prog 29 #[.pointer (some ⟨B, 0, none⟩)] w fun e w' => e = .returned (.bool true) ∧ w = w' := by
  have c0 := h.c0
  have c1 := h.c1
  have cx := h.cx
  have HR := Lib.hid h.range
  obtain ⟨f, hf⟩ : ∃ f, s.f = f := ⟨_, rfl⟩
  have HI := Lib.hid (And.intro hi hf)
  rw [hf] at c1
  clear h hi hf
  go_enter Tryd.func29, Tryd.ntmps29
  go_wp2_with (refine wpList_load_mid rfl 46 (.tmp 12) rfl B 2 rfl (r16 s.g) _ HR.out Tryd.underlying46 rfl (by rw [info16, r16_len]) ?_)
  go_loopg [3, 14] 16 (fun g a i wr => ∃ (k : Nat), k + g = 16 ∧ a = .int .i64 (f + tot s.g k) ∧ i = .int .i64 k ∧ Aside (w = wr))
  case atStart => exact ⟨0, by omega, by show _ = Value.int .i64 (f + 0); rw [Int.add_zero], rfl, rfl⟩
  case round =>
    obtain ⟨k, hkg, rfl, rfl, hw⟩ := hrel
    obtain rfl := hw.out
    clear hw
    cases gk with
    | zero =>
      obtain rfl : k = 16 := by omega
      have hs : f + tot s.g 16 = mo := by rw [← HI.out.2]; exact HI.out.1.sum
      rw [hs]
      rcases HI.out.1.waits with hx | hx
      · rw [hx] at cx
        have cx' : w.cell? ⟨B, 18, none⟩ = some (.int .u32 0) := cx
        clear cx hx
        go_wp2
        go_ret
        exact ⟨rfl, rfl⟩
      · rw [← HI.out.2, hx] at c1
        by_cases hx0 : s.x = 0#32
        · rw [hx0] at cx
          have cx' : w.cell? ⟨B, 18, none⟩ = some (.int .u32 0) := cx
          clear cx hx hx0
          go_wp2
          go_ret
          exact ⟨rfl, rfl⟩
        · have hb := w32_ne hx0
          clear hx hx0
          go_wp2
          go_ret
          exact ⟨rfl, rfl⟩
    | succ g1 =>
      have hk : k < 16 := by omega
      have hix := index16 s.g k hk
      have ht0 := tot_ge s.g HI.out.1.g0 k
      have ht1 : f + tot s.g k ≤ 65536 := by have := tot_le s.g HI.out.1.g0 k 16 (by omega); have := HI.out.1.sum; have := HI.out.1.hi; have := HI.out.2; omega
      have hg0 := HI.out.1.g0 k
      have hg1 := HI.out.1.g1 k hk
      have hf0 : 0 ≤ f := by rw [← HI.out.2]; exact HI.out.1.f0
      have e1 : IntKind.i64.wrap (f + tot s.g k + s.g k) = f + tot s.g (k + 1) := by rw [IntKind.wrap_i64]; show _ = f + (tot s.g k + s.g k); omega
      obtain ⟨a, ha⟩ : ∃ a, f + tot s.g k = a := ⟨_, rfl⟩
      obtain ⟨b, hb⟩ : ∃ b, s.g k = b := ⟨_, rfl⟩
      obtain ⟨c, hc⟩ : ∃ c, f + tot s.g (k + 1) = c := ⟨_, rfl⟩
      rw [ha, hb, hc] at e1
      rw [hb] at hix
      rw [ha] at ht1 ⊢
      have HC := Lib.hid hc
      clear hc ha hb ht0 ht1 hg0 hg1 hf0
      go_wp2
      go_roundg g1
      case measure => omega
      case rel => exact ⟨k + 1, by omega, by rw [HC.out], by go_num, rfl⟩

theorem Ch.then2 {T T2 : Nat → Prop} {A B C : World} (h : Ch T A B) (h2 : Ch T2 B C) (hT : ∀ k, k < A.heap.size → T2 k → T k) : Ch T A C :=
  ⟨h2.os.trans h.os, h2.tape.trans h.tape, h2.output.trans h.output, Nat.le_trans h.size h2.size, fun k hk hn => (h2.block k (Nat.lt_of_lt_of_le hk h.size) (fun e => hn (hT k hk e))).trans (h.block k hk hn)⟩
theorem hasS_in (s : St) (k : Nat) (hk : k < 16) : hasS s (k : Nat) = s.g k := by unfold hasS; rw [if_pos (by omega), Int.toNat_natCast]
theorem hasS_out (s : St) (t : Int) (ht : ¬ (0 ≤ t ∧ t < 16)) : hasS s t = 0 := by unfold hasS; rw [if_neg ht]
/-- What a task has, while it gives back. -/
theorem endK_hasS {mo : Int} {s : St} (h : Inv mo s) (t : Int) (k : Nat) (hk : k ≤ (hasS s t).toNat) : hasS (endK (quitS s t) t k).1 t = (((hasS s t).toNat - k : Nat) : Int) := by
  by_cases ht : 0 ≤ t ∧ t < 16
  · obtain ⟨n, rfl⟩ := Int.eq_ofNat_of_zero_le ht.1
    have hn : n < 16 := by omega
    rw [hasS_in _ _ hn] at hk ⊢
    rw [hasS_in _ _ hn]
    have h0 := h.g0 n
    have := (endK_has (h.quit (n : Int)) n hn (quit_has s n) k (by show (k : Int) ≤ s.g n; omega)).1
    rw [this]
    show s.g n - (k : Int) = _
    omega
  · rw [hasS_out _ _ ht] at hk ⊢
    rw [hasS_out _ _ ht]
    simp
theorem shas_any {w : World} {B : Nat} {mo : Int} {s : St} (h : SAt w B mo s) (t : Int) : Calls Tryd.prog 30 #[.pointer (some ⟨B, 0, none⟩), .int .i64 t] w fun e w' => e = .returned (.int .i64 (hasS s t)) ∧ w = w' := by
  by_cases ht : 0 ≤ t ∧ t < 16
  · obtain ⟨n, rfl⟩ := Int.eq_ofNat_of_zero_le ht.1
    rw [hasS_in _ _ (by omega)]
    exact shas_in h n (by omega)
  · rw [hasS_out _ _ ht]
    exact shas_out t ht
/-- What lies where while End runs: the sema, and the row of those that got one. -/
structure EI (w0 : World) (B : Nat) (mo : Int) (r : St × List Int) (v : Value) (w : World) : Prop where
  s : SAt w B mo r.1
  own : w.ownsRow w0.heap.size 3 1 v r.2.length (rowI r.2)
  ch : Ch (fun j => j = B) w0 w
  lt : B < w0.heap.size
theorem EI.put {w0 : World} {B : Nat} {mo : Int} {r : St × List Int} {v : Value} {w w1 : World} {s' : St} (h : EI w0 B mo r v w) (h1 : SAt w1 B mo s') (hc : Ch (fun j => j = B) w w1) : EI w0 B mo (s', r.2) v w1 :=
  ⟨h1, own_ch h.own hc (fun g hg e => by have := own_ge h.own g hg; have := h.lt; omega), h.ch.trans hc, h.lt⟩
theorem EI.app {w0 : World} {B : Nat} {mo : Int} {r : St × List Int} {v v' : Value} {w w1 : World} {n : Int} {o : Array Value} {ty : TypeId} (h : EI w0 B mo r v w) (hown : w1.ownsRow w0.heap.size 3 1 v' (r.2.length + 1) (rowI r.2 ++ [.int .i64 n])) (hg : (w.alloc (.cells o ty)).grownBy w1 v.ownBlock) : EI w0 B mo (r.1, r.2 ++ [n]) v' w1 := by
  have hz := h.ch.size
  have hc : Ch (fun j => v.ownBlock = some j) (w.alloc (.cells o ty)) w1 := ch_grown hg
  have hv : ∀ j, v.ownBlock = some j → w0.heap.size ≤ j := fun j e => own_ge h.own j e
  have ha : Below w.heap.size w (w.alloc (.cells o ty)) := (Below.refl _ _).alloc (Nat.le_refl _) _
  refine ⟨(h.s.new ha).keep hc (fun e => by have := hv B e; have := h.lt; omega), ?_, (h.ch.then_below (ha.mono hz)).then2 hc (fun k hk e => by have := hv k e; omega), h.lt⟩
  rw [List.length_append, rowI_snoc]; exact hown
set_option maxHeartbeats 4000000 in
set_option maxRecDepth 100000 in
theorem send_any {w : World} {B : Nat} {mo : Int} {s : St} (h : SAt w B mo s) (hi : Inv mo s) (ht0 : Tab w) (hB : B ≠ 0) (t : Int) :
    Calls Tryd.prog 22 #[.pointer (some ⟨B, 0, none⟩), .int .i64 t] w fun e w' => ∃ v, e = .returned v ∧ EI w B mo (endS s t) v w' := by
  obtain ⟨i0, hin, hz0, hz1, hz2⟩ := info_parts info3
  have HQ := Lib.hid (squit_any h t)
  have HT := Lib.hid (show ∀ w', Ch (fun j => j = B) w w' → Tab w' from fun w' c => ht0.below (Nat.zero_lt_one) (c.below (fun k hk e => hB (by omega)) (by have := h.lt; omega)))
  obtain ⟨N, hN⟩ : ∃ N, (hasS s t).toNat = N := ⟨_, rfl⟩
  have HH := Lib.hid (show ∀ k, k ≤ N → hasS (endK (quitS s t) t k).1 t = ((N - k : Nat) : Int) from fun k hk => by rw [← hN] at hk ⊢; exact endK_hasS hi t k hk)
  have HI := Lib.hid (show ∀ k, Inv mo (endK (quitS s t) t k).1 from fun k => (hi.quit t).endK t k)
  have HE := Lib.hid (show endS s t = endK (quitS s t) t N from by unfold endS; rw [hN])
  have HL := Lib.hid (show ∀ k, (endK (quitS s t) t k).2.length ≤ k from fun k => endK_len _ t k)
  have HN := Lib.hid (show N ≤ 65536 from by
    rw [← hN]; unfold hasS; split
    · have := hi.g1 t.toNat (by omega); omega
    · decide)
  have HB := Lib.hid (And.intro hB h.lt)
  clear h hi ht0 hB hN
  go_enter Tryd.func22, Tryd.ntmps22
  go_upto_region 2 with (go_at_call 19; refine HQ.out.mono ?_; rintro e w1 ⟨rfl, h1, c1⟩; have H1 := Lib.hid (And.intro h1 c1); clear h1 c1)
  go_wp2
  go_loopg [5] N (fun g v wr => ∃ (k : Nat), k + g = N ∧ EI w B mo (endK (quitS s t) t k) v wr)
  case atStart => exact ⟨0, by omega, ⟨H1.out.1, World.ownsRow_nil _ _ _ _, H1.out.2, HB.out.2⟩⟩
  case round =>
    obtain ⟨k, hkg, he⟩ := hrel
    have HK := Lib.hid he
    clear he
    have HC := Lib.hid (shas_any HK.out.s t)
    rw [HH.out k (by omega)] at HC
    cases gk with
    | zero =>
      obtain rfl : k = N := by omega
      rw [Nat.sub_self] at HC
      go_wp2_with (go_at_call 30; refine HC.out.mono ?_; rintro e w2 ⟨rfl, rfl⟩)
      go_ret
      exact ⟨_, rfl, by rw [HE.out]; exact HK.out⟩
    | succ g1 =>
      have hpos : (0 : Int) < ((N - k : Nat) : Int) := by omega
      obtain ⟨m, hm⟩ : ∃ m : Int, ((N - k : Nat) : Int) = m := ⟨_, rfl⟩
      rw [hm] at HC hpos
      clear hm
      obtain ⟨r, hr⟩ : ∃ r, endK (quitS s t) t k = r := ⟨_, rfl⟩
      have hr1 : endK (quitS s t) t (k + 1) = ((putS r.1 t).1, if (putS r.1 t).2.2.1 then r.2 ++ [(putS r.1 t).2.1] else r.2) := by rw [← hr]; rfl
      have HR1 := Lib.hid hr1
      clear hr1
      have hrl : r.2.length ≤ 65536 := by rw [← hr]; have := HL.out k; have := HN.out; omega
      have HP := Lib.hid (sput_any HK.out.s (HI.out k) (HT.out _ HK.out.ch) HB.out.1 t)
      rw [hr] at HK HP
      clear hr
      obtain ⟨s', hs'⟩ : ∃ s', (putS r.1 t).1 = s' := ⟨_, rfl⟩
      obtain ⟨n, hn⟩ : ∃ n, (putS r.1 t).2.1 = n := ⟨_, rfl⟩
      rw [hs', hn] at HR1 HP
      clear hs' hn
      cases hok : (putS r.1 t).2.2.1 with
      | false =>
        rw [hok] at HR1 HP
        clear hok
        go_wp2_with (first
          | (go_at_call 30; refine HC.out.mono ?_; rintro e w2 ⟨rfl, rfl⟩)
          | (go_at_call 17; refine HP.out.mono ?_; rintro e w2 ⟨rfl, h2, c2⟩; have H2 := Lib.hid (HK.out.put h2 c2); clear h2 c2))
        go_roundg g1
        case measure => omega
        case rel => exact ⟨k + 1, by omega, by rw [HR1.out]; exact H2.out⟩
      | true =>
        rw [hok] at HR1 HP
        clear hok
        go_wp2_with (first
          | (go_at_call 30; refine HC.out.mono ?_; rintro e w2 ⟨rfl, rfl⟩)
          | (go_at_call 17; refine HP.out.mono ?_; rintro e w2 ⟨rfl, h2, c2⟩; have H2 := Lib.hid (HK.out.put h2 c2); clear h2 c2)
          | (at_builtin; refine wpList_append_own _ rfl (.tmp 24) (.tmp 26) 22 rfl w.heap.size 3 i0 (.int .i64 0) 1 8 Tryd.underlying22 hin hz0 hz1 hz2 rfl Nat.one_pos _ r.2.length (rowI r.2) rfl (H2.out.own.alloc _) ⟨w2.heap.size, 0, none⟩ 1 1 [.int .i64 n] rfl rfl (cell_one_new _ _ _) (one_cell _) (by unfold maxLen; omega) (by omega) (by have := H2.out.ch.size; rw [World.size_alloc]; omega) ?_; intro v1 w3 hown1 hg1 _; have H3 := Lib.hid (H2.out.app hown1 hg1); clear hown1 hg1))
        go_roundg g1
        case measure => omega
        case rel => exact ⟨k + 1, by omega, by rw [HR1.out]; exact H3.out⟩
end Go.Proofs.YtjgbbgemoobjjaaDoor
