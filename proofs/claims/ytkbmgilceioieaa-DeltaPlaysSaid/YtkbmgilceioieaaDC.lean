/- The contract of insert and of Add on a queue of timers. -/
import Derived.Test.YtkbmgilceioieaaDB
namespace Go.Proofs.Ytkbmgilceioieaa
open Go.RowKit

theorem lnk_lt {w : World} {q : Nat} {xs ys : List Tm} (h : QAt w q (xs ++ ys)) : (lnk q xs).block < w.heap.size := by
  rcases lnk_in q xs with e | e
  · rw [e]; exact h.lt.1
  · obtain ⟨t, ht, e⟩ := List.mem_map.1 e
    rw [← e]; exact h.lt.2 t (List.mem_append_left _ ht)

theorem insert_last {w : World} {q : Nat} {xs : List Tm} {id t : Int} (h : QAt w q xs) (hle : ∀ p ∈ tolds 0 xs, p.2 ≤ t) :
    Next w q xs (insA id t (tolds 0 xs)) ((w.alloc (.cells #[.int .i64 id, .int .i64 (t - sumL xs), .pointer none] 105)).setCell (lnk q xs) (.pointer (some ⟨w.heap.size, 0, none⟩))) := by
  have h1 := (show QAt w q (xs ++ []) by simpa using h).insert id (t - sumL xs)
  rw [hdE_nil] at h1
  refine ⟨_, h1, told_ins_last hle, ((Ch.refl _ _).alloc _).setCell _ _ (.inl ?_), fun u hu => ?_⟩
  · rcases lnk_in q xs with e | e
    · exact .inl e
    · exact .inr e
  · rcases List.mem_append.1 hu with hu | hu
    · exact .inl (List.mem_map.2 ⟨u, hu, rfl⟩)
    · simp at hu; subst hu; exact .inr (Nat.le_refl _)

theorem insert_mid {w : World} {q : Nat} {xs : List Tm} {u : Tm} {zs : List Tm} {id t : Int} (h : QAt w q (xs ++ u :: zs)) (hle : ∀ p ∈ tolds 0 xs, p.2 ≤ t) (hgt : t - sumL xs < u.af) :
    Next w q (xs ++ u :: zs) (insA id t (tolds 0 (xs ++ u :: zs))) (((w.setCell ⟨u.b, 1, none⟩ (.int .i64 (u.af - (t - sumL xs)))).alloc (.cells #[.int .i64 id, .int .i64 (t - sumL xs), .pointer (some ⟨u.b, 0, none⟩)] 105)).setCell (lnk q xs) (.pointer (some ⟨(w.setCell ⟨u.b, 1, none⟩ (.int .i64 (u.af - (t - sumL xs)))).heap.size, 0, none⟩))) := by
  have h0 := h.setAf (u.af - (t - sumL xs))
  have h1 := h0.insert id (t - sumL xs)
  rw [hdE_cons] at h1
  have a1 : u.b ∈ bsL (xs ++ u :: zs) := by unfold bsL; simp
  have a2 : (lnk q xs).block = q ∨ (lnk q xs).block ∈ bsL (xs ++ u :: zs) := by
    rcases lnk_in q xs with e | e
    · exact .inl e
    · refine .inr ?_
      unfold bsL at *; rw [List.map_append]; exact List.mem_append_left _ e
  refine ⟨_, h1, told_ins hle hgt, (((Ch.refl _ _).setCell _ _ (.inl (.inr a1))).alloc _).setCell _ _ (.inl a2), fun v hv => ?_⟩
  unfold bsL
  simp at hv ⊢
  rcases hv with hv | rfl | rfl | hv
  · exact .inl (.inl ⟨v, hv, rfl⟩)
  · exact .inr (by simp)
  · exact .inl (.inr (.inl rfl))
  · exact .inl (.inr (.inr ⟨v, hv, rfl⟩))

theorem insert_any (q : Nat) (L : List Tm) (A : List (Int × Int)) (id t : Int) (w : World) (h : QAt w q L) (hA : tolds 0 L = A) (hok : OkA A) (h1 : 1 ≤ t) (h2 : t ≤ 65536) :
    Calls Try.prog 59 #[.pointer (some ⟨q, 0, none⟩), .int .i64 id, .int .i64 t] w fun e w' => (∃ v, e = .returned v) ∧ Next w q L (insA id t A) w' := by
  have HQ := Lib.hid h
  have HA := Lib.hid hA
  have HO := Lib.hid hok
  clear h hA hok
  go_enter Try.func59, Try.ntmps59
  go_wp2
  go_loopg [2, 6] L.length (fun g n v wr => ∃ (us vs : List Tm) (b o : Nat), vs.length = g ∧ n = .int .i64 (t - sumL us) ∧ v = .pointer (some ⟨b, o, none⟩) ∧ Aside (L = us ++ vs ∧ lnk q us = ⟨b, o, none⟩ ∧ (∀ p ∈ tolds 0 us, p.2 ≤ t) ∧ w = wr))
  case atStart => exact ⟨[], L, q, 0, rfl, by simp, rfl, rfl, rfl, (by simp [tolds]), rfl⟩
  case round =>
    obtain ⟨us, vs, b, o, hg, rfl, rfl, HH⟩ := hrel
    obtain ⟨he, hlk, hle, hw⟩ := HH.out
    subst hw
    clear HH
    have hQ := HQ.out
    rw [he] at hQ
    have hS := HO.out
    rw [← HA.out, he] at hS
    have sb := sum_bounds hS
    obtain ⟨sb1, sb2⟩ := sb
    have hbw := lnk_lt hQ
    rw [hlk] at hbw
    dsimp only at hbw
    have hc := hQ.link
    rw [hlk] at hc
    cases vs with
    | nil =>
      rw [hdE_nil] at hc
      obtain ⟨hc, hz⟩ := hc
      have hN := insert_last (id := id) (show QAt w q us by simpa using hQ) hle
      rw [hlk, World.setCell_alloc_past _ _ _ _ (by exact hbw)] at hN
      have e1 : L = us := by simpa using he
      subst e1
      rw [HA.out] at hN
      have HN := Lib.hid hN
      clear he hlk hle hQ hS hN hg
      go_wp2
      go_end0
      exact ⟨⟨_, rfl⟩, HN.out⟩
    | cons u r =>
      rw [hdE_cons] at hc
      obtain ⟨hc, hz⟩ := hc
      obtain ⟨u0, u1, u2, z0, z1, z2⟩ := hQ.mid
      have mb := mid_bounds hS
      obtain ⟨mb1, -, mb2, -, -⟩ := mb
      by_cases hcmp : u.af ≤ t - sumL us
      · have hsn := told_snoc_le hle hcmp
        have HE := Lib.hid he
        have HS := Lib.hid hsn
        have hg' : r.length + 1 = gk := by simpa using hg
        clear he hlk hle hQ hS hg hsn z0 z1 z2 u0 u2
        go_wp2
        go_roundg r.length
        case measure => omega
        case rel => exact ⟨us ++ [u], r, u.b, 2, rfl, by simp; omega, rfl, by rw [HE.out]; simp, lnk_snoc _ _ _, HS.out, rfl⟩
      · have hgt : t - sumL us < u.af := by omega
        have hN := insert_mid (id := id) hQ hle hgt
        rw [hlk, World.setCell_alloc_past _ _ _ _ (by simpa [World.setCell] using hbw)] at hN
        have hsz : (w.setCell ⟨u.b, 1, none⟩ (.int .i64 (u.af - (t - sumL us)))).heap.size = w.heap.size := by simp [World.setCell]
        rw [hsz] at hN
        clear hsz
        rw [← he, HA.out] at hN
        have HN := Lib.hid hN
        have h3 := (hQ.setAf (u.af - (t - sumL us))).link
        rw [hlk, hdE_cons] at h3
        obtain ⟨h3, h4⟩ := h3
        have hbu : u.b < w.heap.size := hQ.lt.2 u (by simp)
        clear he hlk hle hQ hS hN hg
        go_wp2
        go_end0
        exact ⟨⟨_, rfl⟩, HN.out⟩

theorem Next.mono {w w' : World} {q : Nat} {L : List Tm} {A A' : List (Int × Int)} (h : Next w q L A w') (e : A = A') : Next w q L A' w' := e ▸ h
theorem Next.refl {w : World} {q : Nat} {L : List Tm} {A : List (Int × Int)} (h : QAt w q L) (hA : tolds 0 L = A) : Next w q L A w :=
  ⟨L, h, hA, Ch.refl _ _, fun t ht => .inl (List.mem_map.2 ⟨t, ht, rfl⟩)⟩

/-- After Cancel: insert. -/
theorem add_ins (q : Nat) (L : List Tm) (B : List (Int × Int)) (id t : Int) (w w1 : World) (hN : Next w q L B w1) (hok : OkA B) (h1 : 1 ≤ t) (h2 : t ≤ 65536) :
    Calls Try.prog 59 #[.pointer (some ⟨q, 0, none⟩), .int .i64 id, .int .i64 t] w1 fun e w' => (∃ v, e = .returned v) ∧ Next w q L (insA id t B) w' := by
  obtain ⟨L1, q1, e1, c1, b1⟩ := hN
  refine (insert_any q L1 B id t w1 q1 e1 hok h1 h2).mono ?_
  rintro e w' ⟨hv, hN'⟩
  exact ⟨hv, Next.trans q1 c1 b1 hN'⟩

theorem add_out (q : Nat) (L : List Tm) (A : List (Int × Int)) (id t : Int) (w : World) (h : QAt w q L) (hA : tolds 0 L = A) (ht : t < 1 ∨ 65536 < t) :
    Calls Try.prog 31 #[.pointer (some ⟨q, 0, none⟩), .int .i64 id, .int .i64 t] w fun e w' => e = .returned (.bool (fitsA id t A)) ∧ Next w q L (addA id t A) w' := by
  have hf : fitsA id t A = false := by
    unfold fitsA
    rcases ht with h | h
    · have : decide (1 ≤ t) = false := by simp; omega
      simp [this]
    · have : decide (t ≤ 65536) = false := by simp; omega
      simp [this]
  have ha : addA id t A = A := by unfold addA; rw [hf]; rfl
  rw [hf, ha]
  have HN := Lib.hid (Next.refl h hA)
  clear hf ha h hA
  rcases ht with h | h
  · have d1 : decide (t < 1) = true := by simpa using h
    go_enter Try.func31, Try.ntmps31
    go_wp2
    go_ret
    exact ⟨rfl, HN.out⟩
  · have d1 : decide (t < 1) = false := by simp; omega
    have d2 : decide (65536 < t) = true := by simpa using h
    go_enter Try.func31, Try.ntmps31
    go_wp2
    go_ret
    exact ⟨rfl, HN.out⟩

theorem add_any (q : Nat) (L : List Tm) (A : List (Int × Int)) (id t : Int) (w : World) (h : QAt w q L) (hA : tolds 0 L = A) (hok : OkA A) :
    Calls Try.prog 31 #[.pointer (some ⟨q, 0, none⟩), .int .i64 id, .int .i64 t] w fun e w' => e = .returned (.bool (fitsA id t A)) ∧ Next w q L (addA id t A) w' := by
  by_cases ht : t < 1 ∨ 65536 < t
  · exact add_out q L A id t w h hA ht
  · have h1 : 1 ≤ t := by omega
    have h2 : t ≤ 65536 := by omega
    have g1 : decide (1 ≤ t) = true := by simpa using h1
    have g2 : decide (t ≤ 65536) = true := by simpa using h2
    have d1 : decide (t < 1) = false := by simp; omega
    have d2 : decide (65536 < t) = false := by simp; omega
    have hlen : L.length = A.length := by rw [← hA, tolds_len]
    cases hi : inA id A with
    | true =>
      have hf : fitsA id t A = true := by unfold fitsA; rw [g1, g2, hi]; rfl
      have ha : addA id t A = insA id t (cancelA id A) := by unfold addA; rw [hf]; rfl
      rw [hf, ha]
      have HC := Lib.hid (cancel_yes q L A id w h hA hok hi)
      have HO := Lib.hid (okA_cancel (id := id) hok)
      clear hf ha h hA hok hi ht hlen g1 g2
      go_enter Try.func31, Try.ntmps31
      go_wp2_with (first
        | (go_at_call 26; refine HC.out.mono ?_; rintro e w1 ⟨rfl, hN, -⟩; have HN := Lib.hid hN; clear hN)
        | (go_at_call 59; refine (add_ins q L _ id t w _ HN.out HO.out h1 h2).mono ?_; rintro e w2 ⟨⟨v, rfl⟩, hM⟩; have HM := Lib.hid hM; clear hM))
      go_ret
      exact ⟨rfl, HM.out⟩
    | false =>
      have HC := Lib.hid (cancel_no q L id w h (not_of_in hA hi))
      have HL := Lib.hid (len_any q L w h (by rw [hlen]; exact hok.len))
      by_cases hl : L.length < 64
      · have hf : fitsA id t A = true := by unfold fitsA; rw [g1, g2, ← hlen]; simp [hl]
        have ha : addA id t A = insA id t A := by unfold addA; rw [hf, cancelA_none hi]; rfl
        rw [hf, ha]
        have HI := Lib.hid (insert_any q L A id t w h hA hok h1 h2)
        clear hf ha h hA hok hi ht hlen g1 g2
        go_enter Try.func31, Try.ntmps31
        go_wp2_with (first
          | (go_at_call 26; refine HC.out.mono ?_; rintro e w1 ⟨rfl, rfl⟩)
          | (go_at_call 34; refine HL.out.mono ?_; rintro e w1 ⟨rfl, rfl⟩)
          | (go_at_call 59; refine HI.out.mono ?_; rintro e w2 ⟨⟨v, rfl⟩, hM⟩; have HM := Lib.hid hM; clear hM))
        go_ret
        exact ⟨rfl, HM.out⟩
      · have hf : fitsA id t A = false := by
          unfold fitsA; rw [g1, g2, hi, ← hlen]; simp; omega
        have ha : addA id t A = A := by unfold addA; rw [hf]; rfl
        rw [hf, ha]
        have HN := Lib.hid (Next.refl h hA)
        clear hf ha h hA hok hi ht hlen g1 g2
        go_enter Try.func31, Try.ntmps31
        go_wp2_with (first
          | (go_at_call 26; refine HC.out.mono ?_; rintro e w1 ⟨rfl, rfl⟩)
          | (go_at_call 34; refine HL.out.mono ?_; rintro e w1 ⟨rfl, rfl⟩))
        go_ret
        exact ⟨rfl, HN.out⟩
end Go.Proofs.Ytkbmgilceioieaa
