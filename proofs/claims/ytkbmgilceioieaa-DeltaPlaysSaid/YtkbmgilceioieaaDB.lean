/- The contracts of Len and Cancel on a queue of timers. -/
import Derived.Test.YtkbmgilceioieaaDA
import Derived.StillTailTactics
import Derived.RegionTactic
import Derived.BigRegion
namespace Go.Proofs.Ytkbmgilceioieaa
open Go.RowKit

theorem len_any (q : Nat) (L : List Tm) (w : World) (h : QAt w q L) (hlen : L.length ≤ 64) :
    Calls Try.prog 34 #[.pointer (some ⟨q, 0, none⟩)] w fun e w' => e = .returned (.int .i64 L.length) ∧ w = w' := by
  have HQ := Lib.hid h
  have hc := cell_of_one h.q0
  have hz := free_of_one h.q0
  clear h
  go_enter Try.func34, Try.ntmps34
  go_wp2
  go_loopg [3, 4] L.length (fun g n v wr => ∃ (us vs : List Tm), vs.length = g ∧ n = .int .i64 us.length ∧ v = .pointer (hdE vs none) ∧ Aside (L = us ++ vs ∧ w = wr))
  case atStart => exact ⟨[], L, rfl, rfl, rfl, rfl, rfl⟩
  case round =>
    obtain ⟨us, vs, hg, rfl, rfl, HA⟩ := hrel
    obtain ⟨he, hw⟩ := HA.out
    subst hw
    clear HA
    have hul : us.length + vs.length ≤ 64 := by rw [he] at hlen; simpa using hlen
    cases vs with
    | nil =>
      obtain rfl : L = us := by simpa using he
      simp only [hdE_nil]
      clear hc hz he hul hg
      go_wp2
      go_ret
      exact ⟨rfl, rfl⟩
    | cons t r =>
      simp only [hdE_cons]
      have hQ' := HQ.out
      rw [he] at hQ'
      obtain ⟨-, -, m2, -⟩ := hQ'.mid
      have HE := Lib.hid he
      have hg' : r.length + 1 = gk := by simpa using hg
      simp only [List.length_cons] at hul
      clear he hQ' hc hz hg
      go_wp2
      go_roundg r.length
      case measure => omega
      case rel => exact ⟨us ++ [t], r, rfl, by simp, rfl, by rw [HE.out]; simp, rfl⟩

theorem cancel_no (q : Nat) (L : List Tm) (id : Int) (w : World) (h : QAt w q L) (hn : ∀ t ∈ L, t.id ≠ id) :
    Calls Try.prog 26 #[.pointer (some ⟨q, 0, none⟩), .int .i64 id] w fun e w' => e = .returned (.bool false) ∧ w = w' := by
  obtain ⟨lb, lo, hl⟩ := lnk_spot q L
  have hL := link_any q L [] id lb lo w (by simpa using h) hl hn (by simp)
  have HL := Lib.hid hL
  have hc := (show QAt w q (L ++ []) by simpa using h).link
  rw [hl] at hc
  simp only [hdE_nil] at hc
  obtain ⟨hc, hz⟩ := hc
  clear hL hl h hn
  go_enter Try.func26, Try.ntmps26
  go_wp2_with (go_at_call 58; refine HL.out.mono ?_; rintro e w' ⟨rfl, rfl⟩)
  go_ret
  exact ⟨rfl, rfl⟩

theorem cancel_last (q : Nat) (xs : List Tm) (t : Tm) (lb lo : Nat) (w : World) (h : QAt w q (xs ++ [t])) (hl : lnk q xs = ⟨lb, lo, none⟩) (hn : ∀ u ∈ xs, u.id ≠ t.id) :
    Calls Try.prog 26 #[.pointer (some ⟨q, 0, none⟩), .int .i64 t.id] w fun e w' => e = .returned (.bool true) ∧ w' = w.setCell ⟨lb, lo, none⟩ (.pointer none) := by
  have hL := link_any q xs [t] t.id lb lo w h hl hn (by intro u r e; cases e; rfl)
  have HL := Lib.hid hL
  have hc := h.link
  rw [hl] at hc
  rw [hdE_cons] at hc
  obtain ⟨hc, hz⟩ := hc
  obtain ⟨-, -, m2, -⟩ := h.mid
  rw [hdE_nil] at m2
  clear hL hl h hn
  go_enter Try.func26, Try.ntmps26
  go_wp2_with (go_at_call 58; refine HL.out.mono ?_; rintro e w' ⟨rfl, rfl⟩)
  go_ret
  exact ⟨rfl, rfl⟩

theorem cancel_mid (q : Nat) (xs : List Tm) (t u : Tm) (zs : List Tm) (lb lo : Nat) (w : World) (h : QAt w q (xs ++ t :: u :: zs)) (hl : lnk q xs = ⟨lb, lo, none⟩) (hn : ∀ u ∈ xs, u.id ≠ t.id)
    (b1 : 0 ≤ t.af) (b2 : t.af ≤ 65536) (b3 : 0 ≤ u.af) (b4 : u.af ≤ 65536) :
    Calls Try.prog 26 #[.pointer (some ⟨q, 0, none⟩), .int .i64 t.id] w fun e w' => e = .returned (.bool true) ∧ w' = ((w.setCell ⟨u.b, 1, none⟩ (.int .i64 (u.af + t.af))).drew).setCell ⟨lb, lo, none⟩ (.pointer (some ⟨u.b, 0, none⟩)) := by
  have hL := link_any q xs (t :: u :: zs) t.id lb lo w h hl hn (by intro u r e; cases e; rfl)
  have HL := Lib.hid hL
  have hc := h.link
  rw [hl] at hc
  rw [hdE_cons] at hc
  obtain ⟨hc, hz⟩ := hc
  obtain ⟨t0, t1, t2, y0, y1, y2⟩ := h.mid
  rw [hdE_cons] at t2
  have h' : QAt w q ((xs ++ [t]) ++ u :: zs) := by simpa using h
  obtain ⟨u0, u1, u2, z0, z1, z2⟩ := h'.mid
  have h2 : QAt (w.setCell ⟨u.b, 1, none⟩ (.int .i64 (u.af + t.af))) q (xs ++ t :: { u with af := u.af + t.af } :: zs) := by
    have := h'.setAf (u.af + t.af)
    simpa using this
  have c2 := h2.link
  rw [hl, hdE_cons] at c2
  obtain ⟨c2, d2⟩ := c2
  obtain ⟨s0, s1, s2, v0, v1, v2⟩ := h2.mid
  rw [hdE_cons] at s2
  clear hL hl h hn h' h2
  go_enter Try.func26, Try.ntmps26
  go_wp2_with (go_at_call 58; refine HL.out.mono ?_; rintro e w' ⟨rfl, rfl⟩)
  go_region
  go_wp2
  go_ret
  exact ⟨rfl, rfl⟩

theorem mem_of_in {A : List (Int × Int)} {L : List Tm} {id : Int} {c : Int} (hA : tolds c L = A) (h : inA id A = true) : ∃ xs t ys, L = xs ++ t :: ys ∧ t.id = id ∧ ∀ u ∈ xs, u.id ≠ id := by
  have hm := (inA_iff id A).1 h
  rw [← hA, tolds_ids] at hm
  clear h hA
  induction L with
  | nil => simp at hm
  | cons a L ih =>
    by_cases e : a.id = id
    · exact ⟨[], a, L, rfl, e, by simp⟩
    · have : id ∈ L.map (·.id) := by
        rcases List.mem_cons.1 hm with h | h
        · exact absurd h.symm e
        · exact h
      obtain ⟨xs, t, ys, rfl, h1, h2⟩ := ih this
      exact ⟨a :: xs, t, ys, rfl, h1, fun u hu => by
        rcases List.mem_cons.1 hu with rfl | hu
        · exact e
        · exact h2 u hu⟩
theorem not_of_in {A : List (Int × Int)} {L : List Tm} {id : Int} {c : Int} (hA : tolds c L = A) (h : inA id A = false) : ∀ u ∈ L, u.id ≠ id := by
  intro u hu e
  have : inA id A = true := (inA_iff id A).2 (by rw [← hA, tolds_ids]; exact List.mem_map.2 ⟨u, hu, e⟩)
  rw [h] at this; cases this

/-- What a call makes of the queue: what it tells now, and which blocks alone have turned. -/
def Next (w : World) (q : Nat) (L : List Tm) (A' : List (Int × Int)) (w' : World) : Prop :=
  ∃ L', QAt w' q L' ∧ tolds 0 L' = A' ∧ Ch (fun j => j = q ∨ j ∈ bsL L) w w' ∧ ∀ t ∈ L', t.b ∈ bsL L ∨ w.heap.size ≤ t.b

theorem Next.trans {w w1 w2 : World} {q : Nat} {L L1 : List Tm} {A : List (Int × Int)} (_h1 : QAt w1 q L1) (c1 : Ch (fun j => j = q ∨ j ∈ bsL L) w w1) (b1 : ∀ t ∈ L1, t.b ∈ bsL L ∨ w.heap.size ≤ t.b) (h2 : Next w1 q L1 A w2) : Next w q L A w2 := by
  obtain ⟨L2, q2, e2, c2, b2⟩ := h2
  refine ⟨L2, q2, e2, ?_, ?_⟩
  · refine ⟨c2.os.trans c1.os, c2.tape.trans c1.tape, c2.output.trans c1.output, Nat.le_trans c1.size c2.size, fun k hk hn => ?_⟩
    rw [c2.block k (Nat.lt_of_lt_of_le hk c1.size), c1.block k hk hn]
    rintro (e | hm)
    · exact hn (.inl e)
    · obtain ⟨t, ht, rfl⟩ := List.mem_map.1 hm
      rcases b1 t ht with h | h
      · exact hn (.inr h)
      · omega
  · intro t ht
    rcases b2 t ht with hm | hm
    · obtain ⟨t', ht', e⟩ := List.mem_map.1 hm
      rw [← e]; exact b1 t' ht'
    · right; have := c1.size; omega

theorem cancel_yes (q : Nat) (L : List Tm) (A : List (Int × Int)) (id : Int) (w : World) (h : QAt w q L) (hA : tolds 0 L = A) (hok : OkA A) (hi : inA id A = true) :
    Calls Try.prog 26 #[.pointer (some ⟨q, 0, none⟩), .int .i64 id] w fun e w' => e = .returned (.bool true) ∧ Next w q L (cancelA id A) w' ∧ w'.heap.size = w.heap.size := by
  obtain ⟨xs, t, ys, rfl, rfl, hn⟩ := mem_of_in hA hi
  obtain ⟨lb, lo, hl⟩ := lnk_spot q xs
  subst hA
  have hlk := lnk_in q xs
  have hin : ∀ (V : World), Ch (fun j => j = q ∨ j ∈ bsL (xs ++ t :: ys)) w V → ∀ v, Ch (fun j => j = q ∨ j ∈ bsL (xs ++ t :: ys)) w (V.setCell (lnk q xs) v) := fun V c v => by
    refine c.setCell _ _ (.inl ?_)
    rcases hlk with e | e
    · exact .inl e
    · refine .inr ?_
      unfold bsL at *; rw [List.map_append]; exact List.mem_append_left _ e
  cases ys with
  | nil =>
    refine (cancel_last q xs t lb lo w h hl hn).mono ?_
    rintro e w' ⟨rfl, rfl⟩
    rw [← hl]
    have h1 := h.unlink
    rw [hdE_nil] at h1
    refine ⟨rfl, ⟨xs ++ [], h1, by rw [List.append_nil]; exact told_cancel_last hok, hin w (Ch.refl _ _) _, fun u hu => .inl ?_⟩, by simp [World.setCell]⟩
    unfold bsL; exact List.mem_map.2 ⟨u, by simp at hu ⊢; exact .inl hu, rfl⟩
  | cons u zs =>
    have hb1 := mid_bounds hok
    have hb2 := mid_bounds (xs := xs ++ [t]) (t := u) (ys := zs) (by simpa using hok)
    simp at hb2
    refine (cancel_mid q xs t u zs lb lo w h hl hn (by omega) (by omega) (by omega) (by omega)).mono ?_
    rintro e w' ⟨rfl, rfl⟩
    rw [← hl]
    have h' : QAt w q ((xs ++ [t]) ++ u :: zs) := by simpa using h
    have h2 : QAt (w.setCell ⟨u.b, 1, none⟩ (.int .i64 (u.af + t.af))).drew q (xs ++ t :: { u with af := u.af + t.af } :: zs) := by
      have := (h'.setAf (u.af + t.af)).drew
      simpa using this
    have h3 := h2.unlink
    rw [hdE_cons] at h3
    have c1 : Ch (fun j => j = q ∨ j ∈ bsL (xs ++ t :: u :: zs)) w (w.setCell ⟨u.b, 1, none⟩ (.int .i64 (u.af + t.af))).drew :=
      ((Ch.refl _ _).setCell _ _ (.inl (.inr (by unfold bsL; simp)))).drew
    refine ⟨rfl, ⟨_, h3, told_cancel hok, hin _ c1 _, fun v hv => .inl ?_⟩, by simp [World.setCell, World.drew]⟩
    unfold bsL
    simp at hv ⊢
    rcases hv with h | rfl | h
    · exact .inl ⟨v, h, rfl⟩
    · exact .inr (.inr (.inl rfl))
    · exact .inr (.inr (.inr ⟨v, h, rfl⟩))
end Go.Proofs.Ytkbmgilceioieaa
