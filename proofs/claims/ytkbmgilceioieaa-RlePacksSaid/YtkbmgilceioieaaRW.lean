/- Where words lie; the contracts of slices.Equal and of often. -/
import Derived.Test.YtkbmgilceioieaaRPack
import Derived.Test.YtkbmgilceioieaaOwn
import Derived.Test.YtkbmgilceioieaaProg
import Derived.WalkKit
import Derived.Deep.LoopGhost
import Derived.Lib.Hide
import Derived.IntWalk
import Derived.BigQuiet
import Derived.Deep.QuietTactic
namespace Go.Proofs.Ytkbmgilceioieaa
open Go.RowKit

def nthW (l : List Nat) (k : Nat) : Nat := l.getD k 0
/-- Where a slice's words lie. -/
def SL (w : World) (sp : Option Addr) (b off : Nat) (l : List Nat) : Prop :=
  (0 < l.length → sp = some ⟨b, off, none⟩) ∧ ∀ k, k < l.length → w.cell? ⟨b, off + k, none⟩ = some (.int .u32 (nthW l k : Nat))
theorem nthW_drop (l : List Nat) (p k : Nat) : nthW (l.drop p) k = nthW l (p + k) := by unfold nthW; simp [List.getD_eq_getElem?_getD, List.getElem?_drop]
theorem nthW_take (l : List Nat) (p k : Nat) (h : k < p) : nthW (l.take p) k = nthW l k := by unfold nthW; simp [List.getD_eq_getElem?_getD, h]
theorem SL.drop {w : World} {sp : Option Addr} {b off : Nat} {l : List Nat} (h : SL w sp b off l) (p : Nat) : SL w (some ⟨b, off + p, none⟩) b (off + p) (l.drop p) :=
  ⟨fun _ => rfl, fun k hk => by
    rw [List.length_drop] at hk
    rw [nthW_drop, Nat.add_assoc]; exact h.2 _ (by omega)⟩
theorem SL.take {w : World} {sp : Option Addr} {b off : Nat} {l : List Nat} (h : SL w sp b off l) (p : Nat) : SL w sp b off (l.take p) :=
  ⟨fun h0 => h.1 (by rw [List.length_take] at h0; omega), fun k hk => by
    rw [List.length_take] at hk
    rw [nthW_take l p k (by omega)]; exact h.2 _ (by omega)⟩
theorem SL.drewN {w : World} {sp : Option Addr} {b off : Nat} {l : List Nat} (h : SL w sp b off l) (n : Nat) : SL (w.drewN n) sp b off l := h
theorem SL.below {w w' : World} {sp : Option Addr} {b off n : Nat} {l : List Nat} (h : SL w sp b off l) (hb : Below n w w') (hn : 0 < l.length → b < n) : SL w' sp b off l :=
  ⟨h.1, fun k hk => by rw [hb.cell (p := ⟨b, off + k, none⟩) (hn (by omega))]; exact h.2 k hk⟩
theorem SL.ch {T : Nat → Prop} {w w' : World} {sp : Option Addr} {b off : Nat} {l : List Nat} (h : SL w sp b off l) (hb : Ch T w w') (hn : 0 < l.length → ¬ T b) : SL w' sp b off l :=
  ⟨h.1, fun k hk => hb.cell (h.2 k hk) (hn (by omega))⟩
theorem SL.lt {w : World} {sp : Option Addr} {b off : Nat} {l : List Nat} (h : SL w sp b off l) (h0 : 0 < l.length) : b < w.heap.size := by
  have := World.block_lt_of_cell? w _ (h.2 0 h0); simpa using this
theorem SL.nil (w : World) (sp : Option Addr) (b off : Nat) : SL w sp b off [] := ⟨fun h => by simp at h, fun k hk => by simp at hk⟩

theorem neW_len {a b : List Nat} (h : a.length ≠ b.length) : decide (a = b) = false := by
  rw [decide_eq_false_iff_not]; intro e; exact h (by rw [e])
theorem eqW_nth {a b : List Nat} (hl : a.length = b.length) (h : ∀ k, k < a.length → nthW a k = nthW b k) : decide (a = b) = true := by
  rw [decide_eq_true_iff]
  apply List.ext_getElem hl
  intro i h1 h2
  have := h i h1
  unfold nthW at this
  simpa [h1, h2] using this
theorem neW_nth {a b : List Nat} {k : Nat} (h : nthW a k ≠ nthW b k) : decide (a = b) = false := by
  rw [decide_eq_false_iff_not]; intro e; exact h (by rw [e])

theorem equal_any (a b : List Nat) (spa spb : Option Addr) (ga oa gb ob ca cb : Nat) (w : World) (ha : SL w spa ga oa a) (hb : SL w spb gb ob b) (hla : a.length ≤ 1000000) (hlb : b.length ≤ 1000000) :
    Calls Try.prog 40 #[.slice spa a.length ca, .slice spb b.length cb] w fun e w' => e = .returned (.bool (decide (a = b))) ∧ ∃ n, w' = w.drewN n := by
  by_cases hne : a.length = b.length
  · have hne' : ((a.length : Int) != (b.length : Int)) = false := by simp; omega
    have HA := Lib.hid ha
    have HB := Lib.hid hb
    have HN := Lib.hid hne
    clear ha hb hne
    go_enter Try.func40, Try.ntmps40
    go_wp2
    clear hne'
    go_loopg [5, 13] a.length (fun g u i wr => ∃ k : Nat, k + g = a.length ∧ i = .int .i64 k ∧ Aside ((∀ j, j < k → nthW a j = nthW b j) ∧ ∃ n, wr = w.drewN n))
    case atStart => exact ⟨0, by omega, rfl, fun j hj => by omega, 0, rfl⟩
    case round =>
      obtain ⟨k, hkg, rfl, HR⟩ := hrel
      obtain ⟨heq, n, rfl⟩ := HR.out
      clear HR
      have HE := Lib.hid heq
      clear heq
      cases gk with
      | zero =>
        obtain rfl : k = a.length := by omega
        go_wp2
        go_ret
        exact ⟨by rw [eqW_nth HN.out HE.out]; rfl, n, rfl⟩
      | succ g1 =>
        have hlt : k < a.length := by omega
        have hlt2 : k < b.length := by have := HN.out; omega
        obtain rfl := HA.out.1 (by omega)
        obtain rfl := HB.out.1 (by omega)
        have c1 := HA.out.2 k hlt
        have c2 := HB.out.2 k hlt2
        have i1 : (k : Int) < (a.length : Int) := by omega
        have i2 : (k : Int) < (b.length : Int) := by omega
        have i0 : (0 : Int) ≤ (k : Int) := by omega
        by_cases hx : nthW a k = nthW b k
        · have hxb : ((nthW a k : Int) != (nthW b k : Int)) = false := by rw [hx]; simp
          have HX := Lib.hid hx
          clear hx
          go_wp2
          go_quiet (fail)
          go_wp2
          go_roundg g1
          case measure => omega
          case rel => exact ⟨k + 1, by omega, by go_num, fun j hj => by
            by_cases e : j = k
            · rw [e]; exact HX.out
            · exact HE.out j (by omega), _, rfl⟩
        · have hxb : ((nthW a k : Int) != (nthW b k : Int)) = true := by simp; omega
          have HX := Lib.hid hx
          clear hx
          go_wp2
          go_quiet (fail)
          go_wp2
          go_ret
          exact ⟨by rw [neW_nth HX.out]; rfl, _, World.drewN_drewN ..⟩
  · have hne' : ((a.length : Int) != (b.length : Int)) = true := by simp; omega
    have HN := Lib.hid hne
    clear ha hb hne
    go_enter Try.func40, Try.ntmps40
    go_wp2
    go_ret
    exact ⟨by rw [neW_len HN.out]; rfl, 0, rfl⟩

theorem often_at (l : List Nat) (k : Nat) (h : k < often l) : nthW l k = nthW l 0 := by
  have ht := often_take l
  have e1 : nthW (l.take (often l)) k = nthW (l.take (often l)) 0 := by
    rw [ht]; unfold nthW; simp [h, show 0 < often l by omega]
  rwa [nthW_take _ _ _ h, nthW_take _ _ _ (by omega)] at e1
theorem often_stop {l : List Nat} (h : l ≠ []) : often l = 4096 ∨ often l = l.length ∨ (often l < l.length ∧ nthW l (often l) ≠ nthW l 0) := by
  cases l with
  | nil => exact absurd rfl h
  | cons x l =>
    have hs := rep_same x 4095 l
    have hl := same_le x 4095 l
    rw [often_cons]
    rcases hs with hs | hs
    · exact .inl (by omega)
    · by_cases e : same x 4095 l = l.length
      · exact .inr (.inl (by simp [e]))
      · refine .inr (.inr ⟨by simp; omega, ?_⟩)
        rw [List.head?_drop] at hs
        unfold nthW
        have hlt : same x 4095 l < l.length := by omega
        simp [hlt] at hs ⊢
        exact hs

theorem often_any (l : List Nat) (sp : Option Addr) (b off cap : Nat) (w : World) (h : SL w sp b off l) (h0 : l ≠ []) (hl : l.length ≤ 100000) :
    Calls Try.prog 80 #[.slice sp l.length cap] w fun e w' => e = .returned (.int .i64 (often l)) ∧ ∃ n, w' = w.drewN n := by
  have HL := Lib.hid h
  have hpos : 0 < l.length := by cases l with | nil => exact absurd rfl h0 | cons x l => simp
  obtain rfl := h.1 hpos
  have HS := Lib.hid (often_stop h0)
  have hop := often_pos h0
  have hole := often_le l
  have c0 := h.2 0 hpos
  have hpi : (0 : Int) < (l.length : Int) := by omega
  obtain ⟨M, hM⟩ : ∃ M : Int, (if (4096 : Int) < (l.length : Int) then (4096 : Int) else (l.length : Int)) = M := ⟨_, rfl⟩
  have HM := Lib.hid (show M ≤ 4096 ∧ M ≤ l.length ∧ (M = 4096 ∨ M = l.length) by rw [← hM]; split <;> omega)
  rw [Nat.add_zero] at c0
  clear h h0
  go_enter Try.func80, Try.ntmps80
  go_wp2
  go_loopg [3] (often l - 1) (fun g v wr => ∃ k : Nat, k + g = often l ∧ 0 < k ∧ v = .int .i64 k ∧ Aside (∃ n, wr = w.drewN n))
  case atStart => exact ⟨1, by omega, by omega, rfl, 0, rfl⟩
  case round =>
    obtain ⟨k, hkg, hk0, rfl, HR⟩ := hrel
    obtain ⟨n, rfl⟩ := HR.out
    clear HR
    have i0 : (0 : Int) ≤ (k : Int) := by omega
    cases gk with
    | zero =>
      by_cases hlt : (k : Int) < M
      · have hd : decide ((k : Int) < M) = true := by simpa using hlt
        have hk1 : k < l.length := by have := HM.out; omega
        have c1 := HL.out.2 k hk1
        have hne : nthW l k ≠ nthW l 0 := by
          have hm := HM.out
          rcases HS.out with h | h | ⟨-, h⟩
          · omega
          · omega
          · have : often l = k := by omega
            rwa [this] at h
        have hb : ((nthW l k : Int) == (nthW l 0 : Int)) = false := by simp; omega
        have i1 : (k : Int) < (l.length : Int) := by omega
        have he : often l = k := by omega
        have HE := Lib.hid he
        clear hne hlt he hkg hole hop
        go_wp2
        go_quiet (fail)
        go_wp2
        go_ret
        exact ⟨by rw [HE.out]; rfl, _, World.drewN_drewN ..⟩
      · have hd : decide ((k : Int) < M) = false := by simpa using hlt
        have he : often l = k := by omega
        have HE := Lib.hid he
        clear hlt he hkg hole hop
        go_wp2
        go_quiet (fail)
        go_wp2
        go_ret
        exact ⟨by rw [HE.out]; rfl, _, World.drewN_drewN ..⟩
    | succ g1 =>
      have hk1 : k < l.length := by omega
      have c1 := HL.out.2 k hk1
      have he := often_at l k (by omega)
      rw [he] at c1
      have i1 : (k : Int) < (l.length : Int) := by omega
      have hd : decide ((k : Int) < M) = true := by have := HM.out; simp; omega
      have hk4 : (k : Int) < 4096 := by omega
      clear he hole hop
      go_wp2
      go_quiet (fail)
      go_wp2
      go_roundg g1
      case measure => omega
      case rel => exact ⟨k + 1, by omega, by omega, by go_num, _, rfl⟩
end Go.Proofs.Ytkbmgilceioieaa
