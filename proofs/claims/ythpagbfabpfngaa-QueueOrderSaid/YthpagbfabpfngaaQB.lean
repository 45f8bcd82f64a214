/- Where a queue lies, by its messages; the contracts of queue's New, Send, Take. -/
import Derived.Test.YthpagbfabpfngaaQA
import Derived.Deep.CutRange
import Derived.Deep.CutBlock
namespace Go.Proofs.Ythpagbfabpfngaa
open Go.RowKit

/-- Where a queue lies, by its messages, the oldest first. -/
structure QL (w : World) (B : Nat) (c p : Int) (L : List Int) (d : Int) : Prop where
  at_ : ∃ g, QAt w B c p g L.length d ∧ ∀ i, i < L.length → g i = nth L i
  cap : (L.length : Int) ≤ c
  c16 : c ≤ 16
  c1 : 1 ≤ c
  d0 : 0 ≤ d
  d1 : d ≤ 4096
section
variable {w w' : World} {B : Nat} {c p : Int} {L : List Int} {d : Int}
theorem QL.lt (h : QL w B c p L d) : B < w.heap.size := by obtain ⟨g, h1, _⟩ := h.at_; exact h1.lt
theorem QL.keep {T : Nat → Prop} (h : QL w B c p L d) (hc : Ch T w w') (hT : ¬ T B) : QL w' B c p L d := by
  obtain ⟨g, h1, h2⟩ := h.at_
  exact ⟨⟨g, h1.keep hc hT, h2⟩, h.cap, h.c16, h.c1, h.d0, h.d1⟩
theorem QL.new (h : QL w B c p L d) (hb : Below w.heap.size w w') : QL w' B c p L d := h.keep (T := fun _ => False) (Ch.new hb) (fun h => h)
theorem QL.dn (h : QL w B c p L d) (n : Nat) : QL (w.drewN n) B c p L d := h.new (below_dn (Below.refl _ _) n)
end
theorem qlen_any {w : World} {B : Nat} {c p : Int} {L : List Int} {d : Int} (h : QL w B c p L d) :
    Calls Try.prog 35 #[.pointer (some ⟨B, 0, none⟩)] w fun e w' => e = .returned (.int .i64 (L.length : Nat)) ∧ w = w' := by
  obtain ⟨g, h1, _⟩ := h.at_
  exact len_any h1
theorem qdropped_any {w : World} {B : Nat} {c p : Int} {L : List Int} {d : Int} (h : QL w B c p L d) :
    Calls Try.prog 36 #[.pointer (some ⟨B, 0, none⟩)] w fun e w' => e = .returned (.int .i64 d) ∧ w = w' := by
  obtain ⟨g, h1, _⟩ := h.at_
  exact dropped_any h1
theorem qset_any {w : World} {B : Nat} {c p : Int} {L : List Int} {d : Int} (h : QL w B c p L d) :
    Calls Try.prog 29 #[.pointer (some ⟨B, 0, none⟩)] w fun e w' => e = .returned (.agg #[.int .i64 c, .int .i64 p]) ∧ Below w.heap.size w w' := by
  obtain ⟨g, h1, _⟩ := h.at_
  exact set_any h1
theorem qfull_any {w : World} {B : Nat} {c p : Int} {L : List Int} {d : Int} (h : QL w B c p L d) (b : Bool) (hb : b = decide ((L.length : Int) = c)) :
    Calls Try.prog 71 #[.pointer (some ⟨B, 0, none⟩)] w fun e w' => e = .returned (.bool b) ∧ ∃ n, w' = w.drewN n := by
  obtain ⟨g, h1, _⟩ := h.at_
  subst hb
  exact full_any h1
theorem qcount_any {w : World} {B : Nat} {c p : Int} {L : List Int} {d : Int} (h : QL w B c p L d) :
    Calls Try.prog 73 #[.pointer (some ⟨B, 0, none⟩)] w fun e w' => e = .returned (.tuple #[]) ∧ QL w' B c p L (min (d + 1) 4096) ∧ Ch (fun j => j = B) w w' := by
  obtain ⟨g, h1, h2⟩ := h.at_
  refine (count_any h1 h.d0 h.d1).mono ?_
  rintro e w' ⟨rfl, h3, h4⟩
  have := h.d0
  have := h.d1
  exact ⟨rfl, ⟨⟨g, h3, h2⟩, h.cap, h.c16, h.c1, by omega, by omega⟩, h4⟩
theorem nth_snoc (L : List Int) (x : Int) (i : Nat) (hi : i < L.length + 1) : nth (L ++ [x]) i = if i = L.length then x else nth L i := by
  unfold nth
  by_cases h : i = L.length
  · subst h; simp
  · rw [if_neg h]; simp [List.getD_eq_getElem?_getD, List.getElem?_append_left (show i < L.length by omega)]
theorem qpush_any {w : World} {B : Nat} {c p : Int} {L : List Int} {d : Int} (h : QL w B c p L d) (hl : (L.length : Int) < c) (n : Int) :
    Calls Try.prog 72 #[.pointer (some ⟨B, 0, none⟩), .int .i64 n] w fun e w' => e = .returned (.tuple #[]) ∧ QL w' B c p (L ++ [n]) d ∧ Ch (fun j => j = B) w w' := by
  obtain ⟨g, h1, h2⟩ := h.at_
  have h16 := h.c16
  refine (push_any h1 (by omega) n).mono ?_
  rintro e w' ⟨rfl, h3, h4⟩
  refine ⟨rfl, ⟨⟨updI g L.length n, by rw [List.length_append]; exact h3, fun i hi => ?_⟩, by rw [List.length_append]; simp; omega, h.c16, h.c1, h.d0, h.d1⟩, h4⟩
  rw [List.length_append] at hi
  rw [nth_snoc _ _ _ hi]
  unfold updI
  by_cases e : i = L.length
  · rw [if_pos e, if_pos e]
  · rw [if_neg e, if_neg e]; exact h2 i (by simp at hi; omega)
theorem qshift_any {w : World} {B : Nat} {c p : Int} {x : Int} {L : List Int} {d : Int} (h : QL w B c p (x :: L) d) :
    Calls Try.prog 68 #[.pointer (some ⟨B, 0, none⟩)] w fun e w' => e = .returned (.tuple #[]) ∧ QL w' B c p L d ∧ Ch (fun j => j = B) w w' := by
  obtain ⟨g, h1, h2⟩ := h.at_
  have h16 := h.c16
  have hc := h.cap
  simp only [List.length_cons] at hc
  refine (shift_any h1 (by omega)).mono ?_
  rintro e w' ⟨rfl, h3, h4⟩
  refine ⟨rfl, ⟨⟨_, h3, fun i hi => ?_⟩, by omega, h.c16, h.c1, h.d0, h.d1⟩, h4⟩
  unfold shl
  rw [if_pos hi]
  exact h2 (i + 1) (by simp; omega)

theorem qz_new (c p : Int) : (ql c p (fun _ => 0) 0 0).toArray = #[.int .i64 c, .int .i64 p, .int .i64 0, .int .i64 0, .int .i64 0, .int .i64 0, .int .i64 0, .int .i64 0, .int .i64 0, .int .i64 0, .int .i64 0, .int .i64 0, .int .i64 0, .int .i64 0, .int .i64 0, .int .i64 0, .int .i64 0, .int .i64 0, .int .i64 0, .int .i64 0] := by kernel_rfl
/-- May there be such a queue? -/
def qOK (c p : Int) : Bool := decide (1 ≤ c ∧ c ≤ 16 ∧ 1 ≤ p ∧ p ≤ 3)
set_option maxHeartbeats 1000000 in
theorem qnew_no (c p : Int) (h : qOK c p = false) (w : World) : Calls Try.prog 25 #[.agg #[.int .i64 c, .int .i64 p]] w fun e w' => e = .returned (.tuple #[.pointer none, .int .i64 104]) ∧ Below w.heap.size w w' := by
  have HB := Lib.hid (show Below w.heap.size w (w.alloc (.cells #[.int .i64 c, .int .i64 p] 65)) from (Below.refl _ _).alloc (Nat.le_refl _) _)
  have HR := Lib.hid (right_any c p (w.alloc (.cells #[.int .i64 c, .int .i64 p] 65)))
  unfold qOK at h
  rw [h] at HR
  clear h
  go_enter Try.func25, Try.ntmps25
  go_wp2_with (go_at_call 27; refine HR.out.mono ?_; rintro e w1 ⟨rfl, b1⟩; have H1 := Lib.hid (HB.out.trans (b1.mono (by rw [size_add]; omega))); clear b1)
  go_ret2
  exact ⟨rfl, H1.out⟩
set_option maxHeartbeats 1000000 in
theorem qnew_yes (c p : Int) (h : qOK c p = true) (w : World) : Calls Try.prog 25 #[.agg #[.int .i64 c, .int .i64 p]] w fun e w' => ∃ q, e = .returned (.tuple #[.pointer (some ⟨q, 0, none⟩), .int .i64 0]) ∧ QL w' q c p [] 0 ∧ w.heap.size ≤ q ∧ Below w.heap.size w w' := by
  obtain ⟨z, hz⟩ : ∃ z, z = w.heap.size := ⟨_, rfl⟩
  obtain ⟨w0, hw0⟩ : ∃ w0, w0 = w.alloc (.cells #[.int .i64 c, .int .i64 p] 65) := ⟨_, rfl⟩
  have HX := Lib.hid (show BoxAt w0 z [.int .i64 c, .int .i64 p] from by rw [hw0, hz]; exact BoxAt.mk_new w _ _)
  have HB := Lib.hid (show Below w.heap.size w w0 from by rw [hw0]; exact (Below.refl _ _).alloc (Nat.le_refl _) _)
  have HR := Lib.hid (right_any c p w0)
  have HH := Lib.hid (show 1 ≤ c ∧ c ≤ 16 from by unfold qOK at h; have := of_decide_eq_true h; omega)
  unfold qOK at h
  rw [h] at HR
  clear h
  go_enter Try.func25, Try.ntmps25
  go_upto_region 1 with fail
  rw [← hw0, ← hz]
  have HZ := Lib.hid hz
  clear hw0 hz
  have x0 := HX.out.cell 0 _ rfl
  have x1 := HX.out.cell 1 _ rfl
  go_upto_region 3 with (go_at_call 27; refine HR.out.mono ?_; rintro e w1 ⟨rfl, b1⟩; have H1 := Lib.hid (And.intro (HB.out.trans (b1.mono HB.out.size)) (HX.out.new b1)); have y0 := H1.out.2.cell 0 _ rfl; have y1 := H1.out.2.cell 1 _ rfl; clear b1 x0 x1)
  go_wp2
  go_ret2
  refine ⟨_, rfl, ⟨⟨fun _ => 0, ?_, fun i hi => by simp at hi⟩, by simp; have := HH.out; omega, HH.out.2, HH.out.1, by omega, by omega⟩, H1.out.1.size, H1.out.1.alloc H1.out.1.size _⟩
  unfold QAt
  rw [show ([] : List Int).length = 0 from rfl, qz_new]
  exact heap_alloc_new w1 _

/-- What Send makes of a queue: the messages, how many were dropped, its answer. -/
def sendL (c p : Int) (L : List Int) (d n : Int) : List Int × Int × Int :=
  if (L.length : Int) < c then (L ++ [n], d, 0) else if p = 2 then (L.tail ++ [n], min (d + 1) 4096, 0) else if p = 3 then (L, min (d + 1) 4096, 0) else (L, d, 271)
set_option maxHeartbeats 2000000 in
theorem send_any {w : World} {B : Nat} {c p : Int} {L : List Int} {d : Int} (h : QL w B c p L d) (n : Int) :
    Calls Try.prog 34 #[.pointer (some ⟨B, 0, none⟩), .int .i64 n] w fun e w' => e = .returned (.int .i64 (sendL c p L d n).2.2) ∧ QL w' B c p (sendL c p L d n).1 (sendL c p L d n).2.1 ∧ Ch (fun j => j = B) w w' := by
  unfold sendL
  by_cases hl : (L.length : Int) < c
  · rw [if_pos hl]
    have HF := Lib.hid (qfull_any h false (by rw [decide_eq_false (by omega)]))
    have HP := Lib.hid (fun k => qpush_any (h.dn k) hl n)
    clear h hl
    go_enter Try.func34, Try.ntmps34
    go_wp2_with (first
      | (go_at_call 71; refine HF.out.mono ?_; rintro e w1 ⟨rfl, k, rfl⟩)
      | (go_at_call 72; refine (HP.out k).mono ?_; rintro e w2 ⟨rfl, q2, c2⟩; have H2 := Lib.hid (And.intro q2 c2); clear q2 c2)
      | fail)
    go_ret
    exact ⟨rfl, H2.out.1, (Ch.refl _ w |>.drewN k).trans H2.out.2⟩
  · rw [if_neg hl]
    have hcap := h.cap
    have HF := Lib.hid (qfull_any h true (by rw [decide_eq_true (by omega)]))
    obtain ⟨x, L', rfl⟩ : ∃ x L', L = x :: L' := by
      cases L with
      | nil => have := h.c1; simp at hl; omega
      | cons x L' => exact ⟨x, L', rfl⟩
    obtain ⟨g, hg, _⟩ := h.at_
    have e1 := hg.c1
    have hE := fun k => (hg.dn k).c1
    clear hg
    by_cases p2 : p = 2
    · rw [if_pos p2]
      subst p2
      have HS := Lib.hid (fun k => qshift_any (h.dn k))
      have hl' : (L'.length : Int) < c := by simp at hcap; omega
      have HP := Lib.hid (fun wx (hx : QL wx B c 2 L' d) => qpush_any hx hl' n)
      clear h hl hl' hcap
      go_enter Try.func34, Try.ntmps34
      go_wp2_with (first
        | (go_at_call 71; refine HF.out.mono ?_; rintro e w1 ⟨rfl, k, rfl⟩; have e2 := hE k)
        | (go_at_call 68; refine (HS.out k).mono ?_; rintro e w2 ⟨rfl, q2, c2⟩; have H2 := Lib.hid (And.intro q2 ((Ch.refl _ w |>.drewN k).trans c2)); clear q2 c2)
        | (go_at_call 72; refine (HP.out _ H2.out.1).mono ?_; rintro e w3 ⟨rfl, q3, c3⟩; have H3 := Lib.hid (And.intro q3 (H2.out.2.trans c3)); clear q3 c3)
        | (go_at_call 73; refine (qcount_any H3.out.1).mono ?_; rintro e w4 ⟨rfl, q4, c4⟩; have H4 := Lib.hid (And.intro q4 (H3.out.2.trans c4)); clear q4 c4)
        | fail)
      go_ret
      exact ⟨rfl, H4.out.1, H4.out.2⟩
    · rw [if_neg p2]
      by_cases p3 : p = 3
      · rw [if_pos p3]
        subst p3
        have HC := Lib.hid (fun k => qcount_any (h.dn k))
        clear h hl hcap p2
        go_enter Try.func34, Try.ntmps34
        go_wp2_with (first
          | (go_at_call 71; refine HF.out.mono ?_; rintro e w1 ⟨rfl, k, rfl⟩; have e2 := hE k)
          | (go_at_call 73; refine (HC.out k).mono ?_; rintro e w4 ⟨rfl, q4, c4⟩; have H4 := Lib.hid (And.intro q4 ((Ch.refl _ w |>.drewN k).trans c4)); clear q4 c4)
          | fail)
        go_ret
        exact ⟨rfl, H4.out.1, H4.out.2⟩
      · rw [if_neg p3]
        have HQ := Lib.hid h
        clear h hl hcap
        go_enter Try.func34, Try.ntmps34
        go_wp2_with (first
          | (go_at_call 71; refine HF.out.mono ?_; rintro e w1 ⟨rfl, k, rfl⟩; have e2 := hE k)
          | fail)
        go_ret
        exact ⟨rfl, HQ.out.dn k, (Ch.refl _ w |>.drewN k)⟩
theorem take_none {w : World} {B : Nat} {c p : Int} {d : Int} (h : QL w B c p [] d) :
    Calls Try.prog 31 #[.pointer (some ⟨B, 0, none⟩)] w fun e w' => e = .returned (.tuple #[.int .i64 0, .int .i64 270]) ∧ w = w' := by
  obtain ⟨g, h1, _⟩ := h.at_
  have cm : w.cell? ⟨B, 18, none⟩ = some (.int .i64 0) := h1.cm
  clear h h1
  go_enter Try.func31, Try.ntmps31
  go_wp2
  go_ret2
  exact ⟨rfl, rfl⟩
theorem take_some {w : World} {B : Nat} {c p : Int} {x : Int} {L : List Int} {d : Int} (h : QL w B c p (x :: L) d) :
    Calls Try.prog 31 #[.pointer (some ⟨B, 0, none⟩)] w fun e w' => e = .returned (.tuple #[.int .i64 x, .int .i64 0]) ∧ QL w' B c p L d ∧ Ch (fun j => j = B) w w' := by
  obtain ⟨g, h1, h2⟩ := h.at_
  have cm : w.cell? ⟨B, 18, none⟩ = some (.int .i64 ((L.length : Int) + 1)) := h1.cm
  have cg : w.cell? ⟨B, 2, none⟩ = some (.int .i64 x) := by rw [h1.cg 0 (by omega), h2 0 (by simp)]; rfl
  have hn : ¬ (L.length : Int) + 1 = 0 := by omega
  have HS := Lib.hid (qshift_any h)
  clear h h1 h2
  go_enter Try.func31, Try.ntmps31
  go_wp2_with (go_at_call 68; refine HS.out.mono ?_; rintro e w2 ⟨rfl, q2, c2⟩; have H2 := Lib.hid (And.intro q2 c2); clear q2 c2)
  go_ret2
  exact ⟨rfl, H2.out⟩
end Go.Proofs.Ythpagbfabpfngaa
