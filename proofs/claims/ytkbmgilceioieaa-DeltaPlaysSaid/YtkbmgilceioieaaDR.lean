/- The contract of the law's Row: two rows of numbers held against each other. -/
import Derived.Test.YtkbmgilceioieaaDT
import Derived.BigQuiet
import Derived.Deep.QuietTactic
namespace Go.Proofs.Ytkbmgilceioieaa
open Go.RowKit

/-- Where a row of numbers lies. -/
def IsRow (w : World) (sp : Option Addr) (g : Nat) (l : List Int) : Prop :=
  (0 < l.length → sp = some ⟨g, 0, none⟩) ∧ ∀ k, k < l.length → w.cell? ⟨g, k, none⟩ = some (.int .i64 (nth l k))
theorem own_row {w : World} {base : Nat} {v : Value} {l : List Int} (h : w.ownsRow base 3 1 v l.length (rowI l)) :
    ∃ sp g cap, v = .slice sp l.length cap ∧ IsRow w sp g l ∧ (0 < l.length → base ≤ g ∧ g < w.heap.size) := by
  obtain ⟨sp, g, cap, e, h1, h2⟩ := own_ints h rfl
  exact ⟨sp, g, cap, e, ⟨fun h0 => (h1 h0).1, h2⟩, fun h0 => (h1 h0).2⟩
theorem IsRow.below {w w' : World} {sp : Option Addr} {g n : Nat} {l : List Int} (h : IsRow w sp g l) (hb : Below n w w') (hn : 0 < l.length → g < n) : IsRow w' sp g l :=
  ⟨h.1, fun k hk => by rw [hb.cell (p := ⟨g, k, none⟩) (hn (by omega))]; exact h.2 k hk⟩
theorem IsRow.drewN {w : World} {sp : Option Addr} {g : Nat} {l : List Int} (h : IsRow w sp g l) (n : Nat) : IsRow (w.drewN n) sp g l := h
theorem IsRow.ch {T : Nat → Prop} {w w' : World} {sp : Option Addr} {g : Nat} {l : List Int} (h : IsRow w sp g l) (hb : Ch T w w') (hn : 0 < l.length → ¬ T g) : IsRow w' sp g l :=
  ⟨h.1, fun k hk => hb.cell (h.2 k hk) (hn (by omega))⟩

theorem ne_of_len {a b : List Int} (h : a.length ≠ b.length) : decide (a = b) = false := by
  rw [decide_eq_false_iff_not]; intro e; exact h (by rw [e])
theorem eq_of_nth {a b : List Int} (hl : a.length = b.length) (h : ∀ k, k < a.length → nth a k = nth b k) : decide (a = b) = true := by
  rw [decide_eq_true_iff]
  apply List.ext_getElem hl
  intro i h1 h2
  have := h i h1
  unfold nth at this
  simpa [h1, h2] using this
theorem ne_of_nth {a b : List Int} {k : Nat} (h : nth a k ≠ nth b k) : decide (a = b) = false := by
  rw [decide_eq_false_iff_not]; intro e; exact h (by rw [e])

theorem row_any (a b : List Int) (spa spb : Option Addr) (ga gb ca cb : Nat) (w : World) (ha : IsRow w spa ga a) (hb : IsRow w spb gb b) (hla : a.length ≤ 1000000) (hlb : b.length ≤ 1000000) :
    Calls Try.prog 30 #[.slice spa a.length ca, .slice spb b.length cb] w fun e w' => e = .returned (.bool (decide (a = b))) ∧ ∃ n, w' = w.drewN n := by
  by_cases hne : a.length = b.length
  · have hne' : ((a.length : Int) != (b.length : Int)) = false := by simp; omega
    have HA := Lib.hid ha
    have HB := Lib.hid hb
    have HN := Lib.hid hne
    clear ha hb hne
    go_enter Try.func30, Try.ntmps30
    go_wp2
    clear hne'
    go_loopg [5] a.length (fun g i wr => ∃ k : Nat, k + g = a.length ∧ i = .int .i64 k ∧ Aside ((∀ j, j < k → nth a j = nth b j) ∧ ∃ n, wr = w.drewN n))
    case atStart => exact ⟨0, by omega, rfl, fun j hj => by omega, 0, rfl⟩
    case round =>
      obtain ⟨k, hkg, rfl, HR⟩ := hrel
      obtain ⟨heq, n, rfl⟩ := HR.out
      clear HR
      have HE := Lib.hid heq
      clear heq
      cases gk with
      | zero =>
        obtain rfl : k = a.length := by omega
        go_wp2
        go_ret
        exact ⟨by rw [eq_of_nth HN.out HE.out]; rfl, n, rfl⟩
      | succ g1 =>
        have hlt : k < a.length := by omega
        have hlt2 : k < b.length := by have := HN.out; omega
        obtain rfl := HA.out.1 (by omega)
        obtain rfl := HB.out.1 (by omega)
        have c1 := HA.out.2 k hlt
        have c2 := HB.out.2 k hlt2
        have i1 : (k : Int) < (a.length : Int) := by omega
        have i2 : (k : Int) < (b.length : Int) := by omega
        have i0 : (0 : Int) ≤ (k : Int) := by omega
        by_cases hx : nth a k = nth b k
        · have hxb : (nth a k != nth b k) = false := by simpa using hx
          have HX := Lib.hid hx
          clear hx
          go_wp2
          go_quiet (fail)
          go_wp2
          go_roundg g1
          case measure => omega
          case rel => exact ⟨k + 1, by omega, by go_num, fun j hj => by
            by_cases e : j = k
            · rw [e]; exact HX.out
            · exact HE.out j (by omega), _, rfl⟩
        · have hxb : (nth a k != nth b k) = true := by simpa using hx
          have HX := Lib.hid hx
          clear hx
          go_wp2
          go_quiet (fail)
          go_wp2
          go_ret
          exact ⟨by rw [ne_of_nth HX.out]; rfl, _, World.drewN_drewN ..⟩
  · have hne' : ((a.length : Int) != (b.length : Int)) = true := by simp; omega
    have HN := Lib.hid hne
    clear ha hb hne
    go_enter Try.func30, Try.ntmps30
    go_wp2
    go_ret
    exact ⟨by rw [ne_of_len HN.out]; rfl, 0, rfl⟩
end Go.Proofs.Ytkbmgilceioieaa
