/- A server's response: its maths, and the chapter's. -/
import Derived.Test.YtmaackdfhmpicaaSVC
import Derived.Test.YtmaackdfhmpicaaSVG
import Derived.Test.YtmaackdfhmpicaaXF
namespace Go.Proofs.Ytmaackdfhmpicaa
open Go.RowKit

/-- Within how many ticks a server gets what a job needs and what comes ahead of it in so many ticks. -/
def togW (P B own : Int) (L : List Tm) (t : Int) : Option Int := if togB own L t then svW P B (togN own L t) else none
def rspG (P B own D : Int) (L : List Tm) : Nat → Option Int → Option Int
  | 0, _ => none
  | _ + 1, none => none
  | g + 1, some n => if n ≤ D then (match togW P B own L n with
    | none => none
    | some m => if m ≤ n then some m else rspG P B own D L g (some m)) else none
/-- Within how many ticks a task's jobs are done on a server, behind others. -/
def rspS (P B c d : Int) (L : List TaskM) : Option Int := rspG P B c d (tkL L) 402 (svW P B c)
theorem svtog_any {w : World} {V : Nat → Prop} {S : Src} {L : List Tm} (h : TermsAt w V S L) (hl : L.length ≤ 1000) (P B own n : Int) :
    Calls Try.prog 45 #[.agg #[.int .i64 P, .int .i64 B], .int .i64 own, .int .i64 n, .slice S.sp L.length S.c] w fun e w' => e = .returned (.tuple #[.int .i64 (wN (togW P B own L n)), .bool (togW P B own L n).isSome]) ∧ Below w.heap.size w w' := by
  have HW := Lib.hid (show ∀ wx, Below w.heap.size w wx → Calls Try.prog 54 #[.int .i64 n, .slice S.sp L.length S.c] wx fun e w' => e = .returned (.tuple #[.int .i64 (valL L n), .bool (okL L n)]) ∧ Below wx.heap.size wx w' from fun wx hb => dwork_any (h.new hb) hl n)
  have HA := Lib.hid (fun wx => add_any own (valL L n) wx)
  have HB := Lib.hid (fun wx => svWithin_any P B (addN own (valL L n)) wx)
  have HE := Lib.hid (show togW P B own L n = if okL L n = true ∧ addB own (valL L n) = true then svW P B (addN own (valL L n)) else none by
    unfold togW togB togN
    cases okL L n <;> cases addB own (valL L n) <;> rfl)
  obtain ⟨o, ho⟩ : ∃ o, togW P B own L n = o := ⟨_, rfl⟩
  rw [ho] at HE ⊢
  obtain ⟨v, hv⟩ : ∃ v, valL L n = v := ⟨_, rfl⟩
  rw [hv] at HW HA HB HE
  obtain ⟨s, hs⟩ : ∃ y, addN own v = y := ⟨_, rfl⟩
  rw [hs] at HA HB HE
  obtain ⟨o2, ho2⟩ : ∃ v, svW P B s = v := ⟨_, rfl⟩
  rw [ho2] at HB HE
  obtain ⟨sp, hsp⟩ : ∃ v, S.sp = v := ⟨_, rfl⟩
  obtain ⟨c, hc⟩ : ∃ v, S.c = v := ⟨_, rfl⟩
  obtain ⟨N, hN⟩ : ∃ v, L.length = v := ⟨_, rfl⟩
  rw [hsp, hc, hN] at HW ⊢
  clear h ho hv hs ho2 hsp hc hN hl
  have hbx : Below w.heap.size w (w.alloc (.cells #[.int .i64 P, .int .i64 B] 36)) := (Below.refl _ _).alloc (Nat.le_refl _) _
  have HBX := Lib.hid hbx
  clear hbx
  cases h1 : okL L n
  case false =>
    rw [h1] at HW HE
    rw [if_neg (by simp)] at HE
    clear h1
    go_enter Try.func45, Try.ntmps45
    go_wp2_with (first
      | (go_at_call 54; refine (HW.out _ HBX.out).mono ?_; rintro e w1 ⟨rfl, b1⟩; have K1 := Lib.hid (box_of b1); clear b1)
      | fail)
    go_ret2
    exact ⟨by rw [HE.out]; rfl, K1.out.1⟩
  case true =>
    rw [h1] at HW HE
    cases h2 : addB own v
    case false =>
      rw [h2] at HA HE
      rw [if_neg (by simp)] at HE
      clear h1 h2
      go_enter Try.func45, Try.ntmps45
      go_wp2_with (first
        | (go_at_call 54; refine (HW.out _ HBX.out).mono ?_; rintro e w1 ⟨rfl, b1⟩; have K1 := Lib.hid (box_of b1); clear b1)
        | (go_at_call 55; refine (HA.out _).mono ?_; rintro e w1 ⟨rfl, rfl⟩)
        | fail)
      go_ret2
      exact ⟨by rw [HE.out]; rfl, K1.out.1⟩
    case true =>
      rw [h2] at HA HE
      rw [if_pos ⟨rfl, rfl⟩] at HE
      clear h1 h2
      go_enter Try.func45, Try.ntmps45
      go_wp2_with (first
        | (go_at_call 54; refine (HW.out _ HBX.out).mono ?_; rintro e w1 ⟨rfl, b1⟩; have K1 := Lib.hid (box_of b1); have k0 : w1.cell? ⟨w.heap.size, 0, none⟩ = some (.int .i64 P) := K1.out.2.cell 0; have k1 : w1.cell? ⟨w.heap.size, 1, none⟩ = some (.int .i64 B) := K1.out.2.cell 1; clear b1)
        | (go_at_call 55; refine (HA.out _).mono ?_; rintro e w1 ⟨rfl, rfl⟩)
        | (go_at_call 21; refine (HB.out _).mono ?_; rintro e w2 ⟨rfl, b2⟩; have K2 := Lib.hid (BoxOf.next K1.out b2); clear b2)
        | fail)
      go_ret2
      exact ⟨by rw [HE.out]; rfl, K2.out.1⟩
end Go.Proofs.Ytmaackdfhmpicaa
