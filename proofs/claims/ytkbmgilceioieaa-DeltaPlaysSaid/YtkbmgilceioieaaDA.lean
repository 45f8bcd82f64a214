/- The contracts of the calls on a queue of timers. -/
import Derived.Test.YtkbmgilceioieaaDQ
import Derived.WalkKit
import Derived.Deep.LoopGhost
import Derived.Lib.Hide
import Derived.IntWalk
import Derived.RangeFuncRecord
namespace Go.Proofs.Ytkbmgilceioieaa
open Go.RowKit

/-- Where the timer of a number stands, or where one behind the last would. -/
theorem link_any (q : Nat) (xs ys : List Tm) (id : Int) (lb lo : Nat) (w : World) (h : QAt w q (xs ++ ys)) (hl : lnk q xs = ⟨lb, lo, none⟩) (hx : ∀ t ∈ xs, t.id ≠ id) (hy : ∀ t r, ys = t :: r → t.id = id) :
    Calls Try.prog 58 #[.pointer (some ⟨q, 0, none⟩), .int .i64 id] w fun e w' => e = .returned (.pointer (some ⟨lb, lo, none⟩)) ∧ w = w' := by
  have HQ := Lib.hid h
  have HL := Lib.hid hl
  have HX := Lib.hid hx
  have HY := Lib.hid hy
  clear h hl hx hy
  go_enter Try.func58, Try.ntmps58
  go_wp2
  go_loopg [5] xs.length (fun g v wr => ∃ (us vs : List Tm) (b o : Nat), vs.length = g ∧ v = .pointer (some ⟨b, o, none⟩) ∧ Aside (xs = us ++ vs ∧ lnk q us = ⟨b, o, none⟩ ∧ w = wr))
  case atStart => exact ⟨[], xs, q, 0, rfl, rfl, rfl, rfl, rfl⟩
  case round =>
    obtain ⟨us, vs, b, o, hg, rfl, HA⟩ := hrel
    obtain ⟨he, hlk, hw⟩ := HA.out
    subst hw
    clear HA
    cases vs with
    | nil =>
      have e1 : us = xs := by simpa using he.symm
      subst e1
      have e2 := hlk.symm.trans HL.out
      obtain ⟨rfl, rfl⟩ : b = lb ∧ o = lo := by simpa using e2
      have hc := HQ.out.link
      rw [hlk] at hc
      have HYs := HY.out
      cases ys with
      | nil =>
        simp only [hdE_nil] at hc
        obtain ⟨hc, hz⟩ := hc
        clear hlk he e2 HYs
        go_wp2
        go_ret
        exact ⟨rfl, rfl⟩
      | cons t r =>
        simp only [hdE_cons] at hc
        obtain ⟨hc, hz⟩ := hc
        have hm := HQ.out.mid
        obtain ⟨m0, -⟩ := hm
        have hid := HYs t r rfl
        rw [hid] at m0
        clear hlk he e2 HYs hid
        go_wp2
        go_ret
        exact ⟨rfl, rfl⟩
    | cons t r =>
      have hQ' := HQ.out
      rw [he, List.append_assoc] at hQ'
      have hc := hQ'.link
      rw [hlk] at hc
      simp only [hdE_cons, List.cons_append] at hc
      obtain ⟨hc, hz⟩ := hc
      obtain ⟨m0, -⟩ := QAt.mid (xs := us) (t := t) (ys := r ++ ys) hQ'
      have hne := HX.out t (by rw [he]; simp)
      have hb : (t.id != id) = true := by simpa using hne
      have HE := Lib.hid he
      have hg' : r.length + 1 = gk := by simpa using hg
      clear hlk he hQ' hne hg
      go_wp2
      go_roundg r.length
      case measure => omega
      case rel => exact ⟨us ++ [t], r, t.b, 2, rfl, rfl, by rw [HE.out]; simp, lnk_snoc _ _ _, rfl⟩
end Go.Proofs.Ytkbmgilceioieaa
