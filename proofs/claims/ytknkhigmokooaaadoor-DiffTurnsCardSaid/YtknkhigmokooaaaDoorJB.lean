/- The contracts of image's queuesMayBe and what it calls, and of ref10's queues. -/
import Derived.Test.YtknkhigmokooaaaDoorJA
namespace Go.Proofs.YtknkhigmokooaaaDoor
open Go.RowKit

def qth (l : List (Int × Int)) (k : Nat) : Int × Int := l.getD k (0, 0)
/-- A row of queues lies there. -/
structure QAt (w : World) (V : Nat → Prop) (s : Src) (l : List (Int × Int)) : Prop where
  sl : SlAt w V s l.length
  q : ∀ j, j < l.length → w.cell? ⟨s.b, s.o + j * 2, none⟩ = some (.int .i64 (qth l j).1) ∧ w.cell? ⟨s.b, s.o + j * 2 + 1, none⟩ = some (.int .i64 (qth l j).2)
theorem QAt.keep {V : Nat → Prop} {w w' : World} {s : Src} {l : List (Int × Int)} (h : QAt w V s l) (c : Ch V w w') : QAt w' V s l :=
  ⟨h.sl.keep c, fun j hj => ⟨c.cell (h.q j hj).1 ((h.sl.at_ (by omega)).2.2), c.cell (h.q j hj).2 ((h.sl.at_ (by omega)).2.2)⟩⟩
theorem QAt.new {V : Nat → Prop} {w w' : World} {s : Src} {l : List (Int × Int)} (h : QAt w V s l) (hb : Below w.heap.size w w') : QAt w' V s l := h.keep (Ch.new hb)
theorem ImgAt.qat {w : World} {V : Nat → Prop} {x : Img} {S : ImgS} (h : ImgAt w V x S) (k : Nat) (hk : k < x.modes.length) : QAt w V (S.q k) (x.m k).qs := ⟨(h.md k hk).2.2, h.qu k hk⟩
def queueOK (q : Int × Int) : Bool := inB q.1 1 16 && inB q.2 1 3
def queuesOK (l : List (Int × Int)) : Bool := decide (l.length ≤ 4) && l.all queueOK
theorem all_split {l : List (Int × Int)} {k : Nat} (hk : k < l.length) (h : queueOK (qth l k) = false) : l.all queueOK = false := by
  rw [List.all_eq_false]
  refine ⟨l[k], List.getElem_mem hk, ?_⟩
  have : qth l k = l[k] := by unfold qth; rw [List.getD_eq_getElem?_getD, List.getElem?_eq_getElem hk]; rfl
  rw [← this, h]; decide
theorem all_whole {l : List (Int × Int)} (h : ∀ k, k < l.length → queueOK (qth l k) = true) : l.all queueOK = true := by
  rw [List.all_eq_true]
  intro q hq
  obtain ⟨k, hk, rfl⟩ := List.getElem_of_mem hq
  have : qth l k = l[k] := by unfold qth; rw [List.getD_eq_getElem?_getD, List.getElem?_eq_getElem hk]; rfl
  rw [← this]; exact h k hk
set_option maxHeartbeats 2000000 in
theorem rqueues_any {w : World} {V : Nat → Prop} {s : Src} {l : List (Int × Int)} (h : QAt w V s l) :
    Calls Tryd.prog 61 #[.slice s.sp l.length s.c] w fun e w' => e = .returned (.bool (queuesOK l)) ∧ w = w' := by
  obtain ⟨sp, sb, so, sc⟩ := s
  dsimp only
  have HQ := Lib.hid h
  have hsm := h.sl.sm
  have HE := Lib.hid (show queuesOK l = (decide (l.length ≤ 4) && l.all queueOK) from rfl)
  have HS := Lib.hid (fun (k : Nat) (hk : k < l.length) (hb : queueOK (qth l k) = false) => all_split hk hb)
  have HW := Lib.hid (fun (hb : ∀ k, k < l.length → queueOK (qth l k) = true) => all_whole hb)
  obtain ⟨n, hn⟩ : ∃ n, l.length = n := ⟨_, rfl⟩
  obtain ⟨v, hv⟩ : ∃ b, queuesOK l = b := ⟨_, rfl⟩
  rw [hn] at HS HW HE hsm ⊢
  rw [hv] at HE ⊢
  have HN := Lib.hid hn
  clear h hn hv
  go_enter Tryd.func61, Tryd.ntmps61
  go_wp2
  go_loopg [3] n (fun g u wr => ∃ k : Nat, k + g = n ∧ u = .int .i64 (k : Nat) ∧ Aside (w = wr ∧ k ≤ 4 ∧ ∀ j, j < k → queueOK (qth l j) = true))
  case atStart => exact ⟨0, by omega, rfl, rfl, by omega, fun j hj => absurd hj (Nat.not_lt_zero j)⟩
  case round =>
    obtain ⟨k, hkg, rfl, HR⟩ := hrel
    obtain ⟨rfl, hk4, hr⟩ := HR.out
    have HR2 := Lib.hid hr
    clear HR hr
    cases gk with
    | zero =>
      obtain rfl : k = n := by omega
      have HV := Lib.hid (show v = true by rw [HE.out, HW.out HR2.out, decide_eq_true hk4]; rfl)
      go_wp2
      go_ret
      exact ⟨by rw [HV.out]; rfl, rfl⟩
    | succ g1 =>
      have hk : k < n := by omega
      have hkl : k < l.length := by rw [HN.out]; exact hk
      have hk2 : (k : Int) < (n : Int) := by omega
      by_cases h4 : k < 4
      · obtain ⟨hsp, -, -⟩ := HQ.out.sl.at_ (by omega)
        have hsp : sp = some ⟨sb, so, none⟩ := hsp
        subst hsp
        obtain ⟨q0, q1⟩ := HQ.out.q k hkl
        dsimp only at q0 q1
        obtain ⟨c, hc⟩ : ∃ c, (qth l k).1 = c := ⟨_, rfl⟩
        obtain ⟨p, hp⟩ : ∃ p, (qth l k).2 = p := ⟨_, rfl⟩
        have hcp : qth l k = (c, p) := by rw [← hc, ← hp]
        rw [hc] at q0
        rw [hp] at q1
        have H1 := Lib.hid (fun wx => rin_any c 1 16 wx)
        have H2 := Lib.hid (fun wx => rin_any p 1 3 wx)
        have HF := Lib.hid (fun (hb : (inB c 1 16 && inB p 1 3) = false) => show v = false from by
          rw [HE.out, HS.out k hk (by rw [hcp]; exact hb), Bool.and_false])
        have HY := Lib.hid (fun (hb : (inB c 1 16 && inB p 1 3) = true) => show ∀ j, j < k + 1 → queueOK (qth l j) = true from fun j hj => by
          rcases Nat.lt_or_ge j k with h2 | h2
          · exact HR2.out j h2
          · obtain rfl : j = k := by omega
            rw [hcp]; exact hb)
        obtain ⟨b1, e1⟩ : ∃ b, inB c 1 16 = b := ⟨_, rfl⟩
        obtain ⟨b2, e2⟩ : ∃ b, inB p 1 3 = b := ⟨_, rfl⟩
        rw [e1] at H1 HF HY
        rw [e2] at H2 HF HY
        have h4' : (k : Int) < 4 := by omega
        clear e1 e2 hcp hc hp hkl hk4
        cases b1 with
        | false =>
          go_wp2_with (first | (go_at_call 59; refine (H1.out _).mono ?_; rintro e w' ⟨rfl, rfl⟩; clear H1) | fail)
          go_ret
          exact ⟨by rw [HF.out (by simp)]; rfl, rfl⟩
        | true =>
          cases b2 with
          | false =>
            go_wp2_with (first | (go_at_call 59; refine (H1.out _).mono ?_; rintro e w' ⟨rfl, rfl⟩; clear H1) | (go_at_call 59; refine (H2.out _).mono ?_; rintro e w' ⟨rfl, rfl⟩; clear H2) | fail)
            go_ret
            exact ⟨by rw [HF.out (by simp)]; rfl, rfl⟩
          | true =>
            go_wp2_with (first | (go_at_call 59; refine (H1.out _).mono ?_; rintro e w' ⟨rfl, rfl⟩; clear H1) | (go_at_call 59; refine (H2.out _).mono ?_; rintro e w' ⟨rfl, rfl⟩; clear H2) | fail)
            go_roundg g1
            case measure => omega
            case rel => exact ⟨k + 1, by omega, by go_num, rfl, by omega, HY.out (by simp)⟩
      · obtain rfl : k = 4 := by omega
        have HV := Lib.hid (show v = false by rw [HE.out, decide_eq_false (by omega)]; rfl)
        go_wp2
        go_ret
        exact ⟨by rw [HV.out]; rfl, rfl⟩
end Go.Proofs.YtknkhigmokooaaaDoor
