/- The contracts of sema's Get, Put and Quit. -/
import Derived.Test.YtjgbbgemoobjjaaDoorSM
import Derived.Deep.CutRange
import Derived.Deep.CutBlock
namespace Go.Proofs.YtjgbbgemoobjjaaDoor
open Go.RowKit

def SR (w : World) (B : Nat) (mo : Int) (v : Value) (s' : St) (e : Ending) (w' : World) : Prop := e = .returned v ∧ SAt w' B mo s' ∧ Ch (fun j => j = B) w w'
theorem ne_beq {a b : Int} (h : a ≠ b) : (a == b) = false := by simpa using h
theorem w32_ne {y : BitVec 32} (h : y ≠ 0#32) : (w32 y == 0) = false := ne_beq (fun e => h (w32_inj.1 (e.trans w32_zero)))
set_option maxHeartbeats 1000000 in
theorem sget_any {w : World} {B : Nat} {mo : Int} {s : St} (h : SAt w B mo s) (hi : Inv mo s) (t : Int) :
    Calls Tryd.prog 24 #[.pointer (some ⟨B, 0, none⟩), .int .i64 t] w (SR w B mo (.tuple #[.bool (getS s t).2.1, .int .i64 (getS s t).2.2]) (getS s t).1) := by
  have HR := Lib.hid (sright_any t)
  by_cases ht : 0 ≤ t ∧ t < 16
  case neg =>
    rw [decide_eq_false ht] at HR
    have hg : getS s t = (s, false, 100) := by unfold getS; rw [if_pos ht]
    rw [hg]
    have HF := Lib.hid (And.intro h (Ch.refl (fun j => j = B) w))
    clear h hi ht hg
    unfold SR
    go_enter Tryd.func24, Tryd.ntmps24
    go_wp2_with (go_at_call 40; refine (HR.out _).mono ?_; rintro e w' ⟨rfl, rfl⟩)
    go_ret2
    exact ⟨rfl, HF.out⟩
  rw [decide_eq_true ht] at HR
  obtain ⟨k, rfl⟩ := Int.eq_ofNat_of_zero_le ht.1
  have hk : k < 16 := by omega
  have HM := Lib.hid (fun w => mhas_any s.x (k : Int) w)
  have cx := h.cx
  by_cases hm : (k : Int) ∈ ints (lst s.x 32)
  · have hg : getS s (k : Nat) = (s, false, 300) := by unfold getS; rw [if_neg (fun hn => hn ht), if_pos hm]
    rw [hg]
    rw [decide_eq_true hm] at HM
    have HF := Lib.hid (And.intro h (Ch.refl (fun j => j = B) w))
    clear h hi ht hg hk hm
    unfold SR
    go_enter Tryd.func24, Tryd.ntmps24
    go_wp2_with (first
      | (go_at_call 40; refine (HR.out _).mono ?_; rintro e w' ⟨rfl, rfl⟩)
      | (go_at_call 43; refine (HM.out _).mono ?_; rintro e w' ⟨rfl, rfl⟩))
    go_ret2
    exact ⟨rfl, HF.out⟩
  rw [decide_eq_false hm] at HM
  have c1 := h.c1
  have HW := Lib.hid (fun w => with_any s.x (k : Int) w)
  have f18 := h.frozen 18
  have HX := Lib.hid (And.intro (h.setX (s.x ||| onl (k : Int))) (ch_set w B 18 (.int .u32 (w32 (s.x ||| onl (k : Int))))))
  obtain ⟨y, hy⟩ : ∃ y, btw s.x (-1) (k : Int) = y := ⟨_, rfl⟩
  have HB := Lib.hid (fun w => below_any s.x (k : Int) w)
  rw [hy] at HB
  by_cases hw : s.f = 0 ∨ y ≠ 0#32
  · have hg : getS s (k : Nat) = (⟨s.f, s.g, s.x ||| onl (k : Int)⟩, false, 0) := by unfold getS; rw [if_neg (fun hn => hn ht), if_neg hm, if_pos (by rw [hy]; exact hw)]
    rw [hg]
    by_cases hf : s.f = 0
    · rw [hf] at c1
      clear h hi ht hg hk hm hw hy hf
      unfold SR
      go_enter Tryd.func24, Tryd.ntmps24
      go_wp2_with (first
        | (go_at_call 40; refine (HR.out _).mono ?_; rintro e w' ⟨rfl, rfl⟩)
        | (go_at_call 43; refine (HM.out _).mono ?_; rintro e w' ⟨rfl, rfl⟩)
        | (go_at_call 45; refine (HW.out _).mono ?_; rintro e w' ⟨rfl, rfl⟩))
      go_ret2
      exact ⟨rfl, HX.out⟩
    · have hb := ne_beq hf
      have hyb := w32_ne (hw.resolve_left hf)
      obtain ⟨f, hff⟩ : ∃ f, s.f = f := ⟨_, rfl⟩
      have HFF := Lib.hid hff
      rw [hff] at c1 hb
      clear h hi ht hg hk hm hw hy hf hff
      unfold SR
      go_enter Tryd.func24, Tryd.ntmps24
      go_wp2_with (first
        | (go_at_call 40; refine (HR.out _).mono ?_; rintro e w' ⟨rfl, rfl⟩)
        | (go_at_call 43; refine (HM.out _).mono ?_; rintro e w' ⟨rfl, rfl⟩)
        | (go_at_call 44; refine (HB.out _).mono ?_; rintro e w' ⟨rfl, rfl⟩)
        | (go_at_call 45; refine (HW.out _).mono ?_; rintro e w' ⟨rfl, rfl⟩))
      go_ret2
      exact ⟨rfl, HX.out⟩
  · have hg : getS s (k : Nat) = (⟨s.f - 1, upd s.g k (s.g k + 1), s.x⟩, true, 0) := by unfold getS; rw [if_neg (fun hn => hn ht), if_neg hm, if_neg (by rw [hy]; exact hw), Int.toNat_natCast]
    rw [hg]
    have hf : s.f ≠ 0 := fun e => hw (.inl e)
    have hy0 : y = 0#32 := Classical.not_not.1 (fun e => hw (.inr e))
    have hb := ne_beq hf
    rw [hy0, ← w32_zero] at HB
    have hr1 := hi.f1
    have hr0 := hi.f0
    have hq1 := hi.g1 k hk
    have hq0 := hi.g0 k
    have f1 := h.frozen 1
    have cg : (w.setCell ⟨B, 1, none⟩ (.int .i64 (s.f - 1))).cell? ⟨B, 2 + k, none⟩ = some (.int .i64 (s.g k)) := (h.setF (s.f - 1)).cg k hk
    have fg := (h.setF (s.f - 1)).frozen (2 + k)
    have HG := Lib.hid (And.intro (((h.setF (s.f - 1)).setG k (s.g k + 1) hk).dn 1) (((ch_set w B 1 (.int .i64 (s.f - 1))).trans (ch_set _ B (2 + k) (.int .i64 (s.g k + 1)))).drewN 1))
    have e1 : IntKind.i64.wrap (s.f - 1) = s.f - 1 := by rw [IntKind.wrap_i64]; omega
    have e2 : IntKind.i64.wrap (s.g k + 1) = s.g k + 1 := by rw [IntKind.wrap_i64]; omega
    obtain ⟨f, hff⟩ : ∃ f, s.f = f := ⟨_, rfl⟩
    obtain ⟨q, hqq⟩ : ∃ q, s.g k = q := ⟨_, rfl⟩
    have k0 : (0 : Int) ≤ (k : Int) := by omega
    have k1 : (k : Int) < 16 := by omega
    rw [hff] at c1 hb cg fg HG hr1 hr0 e1 ⊢
    rw [hqq] at cg HG hq1 hq0 e2 ⊢
    clear h hi ht hg hk hm hw hy hf hy0 HX f18
    unfold SR
    go_enter Tryd.func24, Tryd.ntmps24
    go_wp2_with (first
      | (go_at_call 40; refine (HR.out _).mono ?_; rintro e w' ⟨rfl, rfl⟩)
      | (go_at_call 43; refine (HM.out _).mono ?_; rintro e w' ⟨rfl, rfl⟩)
      | (go_at_call 44; refine (HB.out _).mono ?_; rintro e w' ⟨rfl, rfl⟩))
    go_region
    go_wp2
    go_ret2
    exact ⟨rfl, HG.out⟩
set_option maxHeartbeats 1000000 in
theorem squit_any {w : World} {B : Nat} {mo : Int} {s : St} (h : SAt w B mo s) (t : Int) :
    Calls Tryd.prog 19 #[.pointer (some ⟨B, 0, none⟩), .int .i64 t] w (SR w B mo (.bool (decide (t ∈ ints (lst s.x 32)))) (quitS s t)) := by
  have HM := Lib.hid (fun w => mhas_any s.x t w)
  have HW := Lib.hid (fun w => without_any s.x t w)
  have cx := h.cx
  have f18 := h.frozen 18
  have HX := Lib.hid (And.intro (h.setX (s.x &&& ~~~onl t)) (ch_set w B 18 (.int .u32 (w32 (s.x &&& ~~~onl t)))))
  clear h
  unfold SR
  go_enter Tryd.func19, Tryd.ntmps19
  go_wp2_with (first
    | (go_at_call 43; refine (HM.out _).mono ?_; rintro e w' ⟨rfl, rfl⟩)
    | (go_at_call 42; refine (HW.out _).mono ?_; rintro e w' ⟨rfl, rfl⟩))
  go_ret
  exact ⟨rfl, HX.out⟩
set_option maxHeartbeats 2000000 in
theorem sput_any {w : World} {B : Nat} {mo : Int} {s : St} (h : SAt w B mo s) (hi : Inv mo s) (ht0 : Tab w) (hB : B ≠ 0) (t : Int) :
    Calls Tryd.prog 17 #[.pointer (some ⟨B, 0, none⟩), .int .i64 t] w (SR w B mo (.tuple #[.int .i64 (putS s t).2.1, .bool (putS s t).2.2.1, .int .i64 (putS s t).2.2.2]) (putS s t).1) := by
  have HR := Lib.hid (sright_any t)
  by_cases ht : 0 ≤ t ∧ t < 16
  case neg =>
    rw [decide_eq_false ht] at HR
    have hg : putS s t = (s, 0, false, 100) := by unfold putS; rw [if_pos ht]
    rw [hg]
    have HF := Lib.hid (And.intro h (Ch.refl (fun j => j = B) w))
    clear h hi ht hg ht0
    unfold SR
    go_enter Tryd.func17, Tryd.ntmps17
    go_wp2_with (go_at_call 40; refine (HR.out _).mono ?_; rintro e w' ⟨rfl, rfl⟩)
    go_ret3
    exact ⟨rfl, HF.out⟩
  rw [decide_eq_true ht] at HR
  obtain ⟨k, rfl⟩ := Int.eq_ofNat_of_zero_le ht.1
  have hk : k < 16 := by omega
  have k0 : (0 : Int) ≤ (k : Int) := by omega
  have k1 : (k : Int) < 16 := by omega
  have cg := h.cg k hk
  by_cases hq : s.g k = 0
  · have hg : putS s (k : Nat) = (s, 0, false, 80) := by unfold putS; rw [if_neg (fun hn => hn ht), if_pos (by rw [Int.toNat_natCast]; exact hq)]
    rw [hg]
    rw [hq] at cg
    have HF := Lib.hid (And.intro h (Ch.refl (fun j => j = B) w))
    clear h hi ht hg hq ht0
    unfold SR
    go_enter Tryd.func17, Tryd.ntmps17
    go_wp2_with (go_at_call 40; refine (HR.out _).mono ?_; rintro e w' ⟨rfl, rfl⟩)
    go_ret3
    exact ⟨rfl, HF.out⟩
  have hb := ne_beq hq
  have hq1 := hi.g1 k hk
  have hq0 := hi.g0 k
  have e1 : IntKind.i64.wrap (s.g k - 1) = s.g k - 1 := by rw [IntKind.wrap_i64]; omega
  have fg := h.frozen (2 + k)
  have h1 : SAt (w.setCell ⟨B, 2 + k, none⟩ (.int .i64 (s.g k - 1))).drew B mo ⟨s.f, upd s.g k (s.g k - 1), s.x⟩ := (h.setG k (s.g k - 1) hk).dn 1
  have c1 : Ch (fun j => j = B) w (w.setCell ⟨B, 2 + k, none⟩ (.int .i64 (s.g k - 1))).drew := (ch_set w B (2 + k) _).drew
  obtain ⟨w1, hw1⟩ : ∃ w1, (w.setCell ⟨B, 2 + k, none⟩ (.int .i64 (s.g k - 1))).drew = w1 := ⟨_, rfl⟩
  rw [hw1] at h1 c1
  have ht1 : Tab w1 := ht0.below (Nat.zero_lt_one) (c1.below (fun k hk e => hB (by omega)) (by have := h.lt; omega))
  have HT := Lib.hid (first_any s.x w1 ht1)
  have cx := h1.cx
  dsimp only at cx
  have f18 := h1.frozen 18
  have ff1 := h1.frozen 1
  have cf := h1.c1
  dsimp only at cf
  cases hl : lst s.x 32 with
  | nil =>
    have hg : putS s (k : Nat) = (⟨s.f + 1, upd s.g k (s.g k - 1), s.x⟩, 0, false, 0) := by
      unfold putS
      rw [if_neg (fun hn => hn ht), if_neg (by rw [Int.toNat_natCast]; exact hq), Int.toNat_natCast, hl]
    rw [hg]
    rw [hl] at HT
    have hfg := hi.fg k hk
    have hf0 := hi.f0
    have e2 : IntKind.i64.wrap (s.f + 1) = s.f + 1 := by rw [IntKind.wrap_i64]; omega
    have HF := Lib.hid (And.intro (h1.setF (s.f + 1)) (c1.trans (ch_set w1 B 1 (.int .i64 (s.f + 1)))))
    obtain ⟨f, hff⟩ : ∃ f, s.f = f := ⟨_, rfl⟩
    obtain ⟨q, hqq⟩ : ∃ q, s.g k = q := ⟨_, rfl⟩
    rw [hff] at cf HF hfg hf0 e2 ⊢
    rw [hqq] at cg hb hq1 hq0 e1 hw1 HF hfg ⊢
    clear h hi ht hg hq ht0 h1 c1 ht1 hl hk
    unfold SR
    go_enter Tryd.func17, Tryd.ntmps17
    go_wp2_with (go_at_call 40; refine (HR.out _).mono ?_; rintro e w' ⟨rfl, rfl⟩)
    go_region
    try rw [hw1]
    clear hw1 cg fg
    go_wp2_with (go_at_call 41; refine HT.out.mono ?_; rintro e w' ⟨rfl, rfl⟩)
    go_ret3
    exact ⟨rfl, HF.out⟩
  | cons n l =>
    have hn : n < 16 := hi.few n (by rw [hl]; exact List.mem_cons_self)
    have hg : putS s (k : Nat) = (⟨s.f, upd (upd s.g k (s.g k - 1)) n (upd s.g k (s.g k - 1) n + 1), s.x &&& ~~~onl (n : Int)⟩, (n : Int), true, 0) := by
      unfold putS
      rw [if_neg (fun hn => hn ht), if_neg (by rw [Int.toNat_natCast]; exact hq), Int.toNat_natCast, hl]
    rw [hg]
    rw [hl] at HT
    have HW := Lib.hid (fun w => without_any s.x (n : Int) w)
    have h2 := h1.setX (s.x &&& ~~~onl (n : Int))
    have c2 := c1.trans (ch_set w1 B 18 (.int .u32 (w32 (s.x &&& ~~~onl (n : Int)))))
    obtain ⟨w2, hw2⟩ : ∃ w2, w1.setCell ⟨B, 18, none⟩ (.int .u32 (w32 (s.x &&& ~~~onl (n : Int)))) = w2 := ⟨_, rfl⟩
    rw [hw2] at h2 c2
    have cn := h2.cg n hn
    dsimp only at cn
    have fn := h2.frozen (2 + n)
    have hu0 : 0 ≤ upd s.g k (s.g k - 1) n ∧ upd s.g k (s.g k - 1) n ≤ 65536 := by
      unfold upd
      split
      · omega
      · exact ⟨hi.g0 n, hi.g1 n hn⟩
    have e2 : IntKind.i64.wrap (upd s.g k (s.g k - 1) n + 1) = upd s.g k (s.g k - 1) n + 1 := by rw [IntKind.wrap_i64]; omega
    have HF := Lib.hid (And.intro ((h2.setG n (upd s.g k (s.g k - 1) n + 1) hn).dn 1) ((c2.trans (ch_set w2 B (2 + n) (.int .i64 (upd s.g k (s.g k - 1) n + 1)))).drewN 1))
    obtain ⟨u, hu⟩ : ∃ u, upd s.g k (s.g k - 1) n = u := ⟨_, rfl⟩
    rw [hu] at cn hu0 e2 HF ⊢
    have n0 : (0 : Int) ≤ (n : Int) := by omega
    have n1 : (n : Int) < 16 := by omega
    obtain ⟨q, hqq⟩ : ∃ q, s.g k = q := ⟨_, rfl⟩
    rw [hqq] at cg hb hq1 hq0 e1 hw1 HF ⊢
    clear h hi ht hg hq ht0 h1 c1 ht1 hl hk h2 c2 hn hu cf ff1
    unfold SR
    go_enter Tryd.func17, Tryd.ntmps17
    go_wp2_with (go_at_call 40; refine (HR.out _).mono ?_; rintro e w' ⟨rfl, rfl⟩)
    go_region
    try rw [hw1]
    clear hw1 cg fg
    go_wp2_with (first
      | (go_at_call 41; refine HT.out.mono ?_; rintro e w' ⟨rfl, rfl⟩)
      | (go_at_call 42; refine (HW.out _).mono ?_; rintro e w' ⟨rfl, rfl⟩))
    try rw [hw2]
    clear hw2
    go_region
    go_wp2
    go_ret3
    exact ⟨rfl, HF.out⟩
end Go.Proofs.YtjgbbgemoobjjaaDoor
