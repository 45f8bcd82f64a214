/- The contract of fix.horizon. -/
import Derived.Test.YtmaackdfhmpicaaZB
import Derived.Test.YtmaackdfhmpicaaMx
namespace Go.Proofs.Ytmaackdfhmpicaa
open Go.RowKit

theorem alloc_then {n : Nat} {w w' : World} {o : Obj} (h : Below (w.alloc o).heap.size (w.alloc o) w') (hn : n ≤ w.heap.size) : Below n w w' :=
  ((Below.refl _ w).alloc hn o).trans (h.mono (by simp; omega))
theorem max_one (own : Int) : (if own < 1 then 1 else own) = max own 1 := by split <;> omega
/-- What the horizon's loop keeps: from is no less than any offset, round a common multiple of all periods, or 0. -/
structure HorI (own : Int) (L : List Tm) (k : Nat) (fr rd : Int) : Prop where
  f0 : (if own < 1 then 1 else own) ≤ fr
  f1 : fr ≤ 1099511627776
  off : ∀ j, j < k → (L.getD j default).off ≤ fr
  r0 : 0 ≤ rd
  r1 : rd ≤ 1099511627776
  dv : rd = 0 ∨ ∀ j, j < k → (L.getD j default).per ∣ rd
theorem HorI.start {own : Int} (L : List Tm) (h : own ≤ 1099511627776) : HorI own L 0 (max own 1) 1 :=
  ⟨by rw [max_one]; exact Int.le_refl _, by omega, fun j hj => by omega, by omega, by omega, .inr fun j hj => by omega⟩
theorem HorI.step {own : Int} {L : List Tm} {k : Nat} {fr rd : Int} (h : HorI own L k fr rd) (ho : (L.getD k default).off ≤ 1099511627776) : HorI own L (k + 1) (max fr (L.getD k default).off) (mupN rd (L.getD k default).per) := by
  obtain ⟨m0, m1, m2⟩ := mup_good rd (L.getD k default).per
  have f0 := h.f0
  have f1 := h.f1
  refine ⟨by omega, by omega, fun j hj => ?_, m0, m1, ?_⟩
  · by_cases e : j = k
    · subst e; omega
    · have := h.off j (by omega); omega
  · rcases m2 with e | ⟨d1, d2⟩
    · exact .inl e
    · by_cases e0 : mupN rd (L.getD k default).per = 0
      · exact .inl e0
      rcases h.dv with e | hd
      · exfalso; subst e; exact e0 (Int.zero_dvd.1 d1)
      · refine .inr fun j hj => ?_
        by_cases e : j = k
        · subst e; exact d2
        · exact Int.dvd_trans (hd j (by omega)) d1
theorem HorI.good {own : Int} {L : List Tm} {fr rd : Int} (h : HorI own L L.length fr rd) (hr : 0 < rd) (hk : okL L (fr + rd) = true) (hge : rd ≤ valL L (fr + rd) - valL L fr) : HZ own L (fr + rd) := by
  refine horizon_good h.f0 hr (fun x hx => ?_) hk hge
  obtain ⟨j, hj, rfl⟩ := List.mem_iff_getElem.1 hx
  have e : L.getD j default = L[j] := by simp [hj]
  have o := h.off j hj
  rw [e] at o
  rcases h.dv with h0 | hd
  · omega
  · have := hd j hj
    rw [e] at this
    exact ⟨o, this⟩
theorem val_range (L : List Tm) (t : Int) : 0 ≤ valL L t ∧ valL L t ≤ 1099511627776 := by
  cases h : okL L t with
  | true =>
    have h1 := ((okL_iff L t).1 h)
    rw [valL_eq h]
    refine ⟨sum_nonneg fun y hy => ?_, h1.2⟩
    obtain ⟨x, hx, rfl⟩ := List.mem_map.1 hy
    have hb := h1.1 x hx
    have := tmN_mono hb ((tmB_iff x t).1 hb).1.1 (Int.le_refl _)
    omega
  | false =>
    unfold okL resB at h
    unfold valL resN
    rw [Option.isSome_eq_false_iff, Option.isNone_iff_eq_none] at h
    rw [h]
    exact ⟨Int.le_refl _, by simp⟩
set_option maxHeartbeats 4000000 in
theorem horizon_any {w : World} {V : Nat → Prop} {S : Src} {L : List Tm} (h : TermsAt w V S L) (hl : L.length ≤ 1000) {own t0 : Int} (h0 : 0 ≤ own) (h1 : own ≤ 1099511627776) (hok : okL L t0 = true) :
    Calls Try.prog 71 #[.int .i64 own, .slice S.sp L.length S.c] w fun e w' => ∃ z : Int, e = .returned (.int .i64 z) ∧ (z = 1099511627776 ∨ HZ own L z) ∧ (1 ≤ z ∧ z ≤ 2199023255552) ∧ Below w.heap.size w w' := by
  have HW := Lib.hid (fun (wx : World) (hb : Below w.heap.size w wx) (n : Int) => (show Calls Try.prog 54 #[.int .i64 n, .slice S.sp L.length S.c] wx fun e w' => e = .returned (.tuple #[.int .i64 (valL L n), .bool (okL L n)]) ∧ Below wx.heap.size wx w' from dwork_any (h.new hb) hl n))
  have HCell := Lib.hid (fun (k : Nat) (hk : k < L.length) (wx : World) (hb : Below w.heap.size w wx) => (h.new hb).at_ k hk)
  have HSp := Lib.hid (fun (h0 : 0 < L.length) => (h.sl.at_ h0).1)
  have HOf := Lib.hid (show ∀ k, k < L.length → -9223372036854775808 ≤ (L.getD k default).off ∧ (L.getD k default).off ≤ 1099511627776 from fun k hk => by
    have e : L.getD k default = L[k] := by simp [hk]
    have := ((tmB_iff _ _).1 (((okL_iff L t0).1 hok).1 L[k] (List.getElem_mem hk))).2.1
    rw [e]; omega)
  have HSt := Lib.hid (HorI.start L h1)
  have HGo := Lib.hid (fun (fr rd : Int) (hi : HorI own L L.length fr rd) => @HorI.good own L fr rd hi)
  obtain ⟨sp, hspn⟩ : ∃ s, S.sp = s := ⟨_, rfl⟩
  obtain ⟨b, hb⟩ : ∃ s, S.b = s := ⟨_, rfl⟩
  obtain ⟨o, ho⟩ : ∃ s, S.o = s := ⟨_, rfl⟩
  obtain ⟨c, hc⟩ : ∃ s, S.c = s := ⟨_, rfl⟩
  obtain ⟨N, hN⟩ : ∃ s, L.length = s := ⟨_, rfl⟩
  rw [hspn, hc, hN] at HW
  rw [hb, ho, hN] at HCell
  rw [hspn, hb, ho, hN] at HSp
  rw [hN] at HOf HGo hl
  rw [hspn, hc, hN]
  clear h hok hspn hb ho hc hN
  have hmx := hmax Try.prog
  go_enter Try.func71, Try.ntmps71
  go_wp2
  go_loopg [5, 6, 17] N (fun g u v x wr => ∃ (k : Nat) (fr rd : Int), k + g = N ∧ u = .int .i64 fr ∧ v = .int .i64 rd ∧ x = .int .i64 (k : Nat) ∧ Aside (HorI own L k fr rd ∧ Below w.heap.size w wr))
  case atStart => exact ⟨0, max own 1, 1, by omega, rfl, rfl, rfl, HSt.out, Below.refl _ _⟩
  case round =>
    obtain ⟨k, fr, rd, hkg, rfl, rfl, rfl, HR⟩ := hrel
    cases gk with
    | zero =>
      obtain rfl : k = N := by omega
      have f0 : 1 ≤ fr := by have := HR.out.1.f0; split at this <;> omega
      have f1 := HR.out.1.f1
      have r0 := HR.out.1.r0
      have r1 := HR.out.1.r1
      have hwr : IntKind.i64.wrap (fr + rd) = fr + rd := by rw [IntKind.wrap_i64]; omega
      have W1 := Lib.hid (fun (wx : World) hb => HW.out wx hb fr)
      have W2 := Lib.hid (fun (wx : World) hb => HW.out wx hb (fr + rd))
      have v1 := val_range L fr
      have v2 := val_range L (fr + rd)
      have HG := Lib.hid (HGo.out fr rd HR.out.1)
      clear HW HCell HSp HOf HSt HGo
      obtain ⟨x, hx⟩ : ∃ q, valL L fr = q := ⟨_, rfl⟩
      obtain ⟨y, hy⟩ : ∃ q, valL L (fr + rd) = q := ⟨_, rfl⟩
      obtain ⟨p, hp⟩ : ∃ q, okL L fr = q := ⟨_, rfl⟩
      rw [hx] at W1 v1 HG
      rw [hy] at W2 v2 HG
      rw [hp] at W1
      have hs3 : 1 ≤ fr + rd ∧ fr + rd ≤ 2199023255552 := by omega
      have hws : IntKind.i64.wrap (y - x) = y - x := by rw [IntKind.wrap_i64]; omega
      clear hx hy hp
      cases hk : okL L (fr + rd) with
      | false =>
        rw [hk] at W2
        clear hk HG
        go_wp2_with (first
          | (go_at_call 54; refine (W1.out _ HR.out.2).mono ?_; rintro e w3 ⟨rfl, b3⟩; have H3 := Lib.hid (HR.out.2.trans (b3.mono HR.out.2.size)); clear b3 W1)
          | (go_at_call 54; refine (W2.out _ H3.out).mono ?_; rintro e w4 ⟨rfl, b4⟩; have H4 := Lib.hid (H3.out.trans (b4.mono H3.out.size)); clear b4)
          | fail)
        go_ret
        exact ⟨_, rfl, .inl rfl, ⟨by omega, by omega⟩, H4.out⟩
      | true =>
        rw [hk] at W2
        have HG2 := Lib.hid (fun h0 h1 => HG.out h0 hk h1)
        clear hk HG
        by_cases c0 : 0 < rd
        · by_cases c1 : rd ≤ y - x
          · have HZ2 := Lib.hid (HG2.out c0 c1)
            go_wp2_with (first
              | (go_at_call 54; refine (W1.out _ HR.out.2).mono ?_; rintro e w3 ⟨rfl, b3⟩; have H3 := Lib.hid (HR.out.2.trans (b3.mono HR.out.2.size)); clear b3 W1)
              | (go_at_call 54; refine (W2.out _ H3.out).mono ?_; rintro e w4 ⟨rfl, b4⟩; have H4 := Lib.hid (H3.out.trans (b4.mono H3.out.size)); clear b4)
              | fail)
            go_ret
            exact ⟨_, rfl, .inr HZ2.out, hs3, H4.out⟩
          · go_wp2_with (first
              | (go_at_call 54; refine (W1.out _ HR.out.2).mono ?_; rintro e w3 ⟨rfl, b3⟩; have H3 := Lib.hid (HR.out.2.trans (b3.mono HR.out.2.size)); clear b3 W1)
              | (go_at_call 54; refine (W2.out _ H3.out).mono ?_; rintro e w4 ⟨rfl, b4⟩; have H4 := Lib.hid (H3.out.trans (b4.mono H3.out.size)); clear b4)
              | fail)
            go_ret
            exact ⟨_, rfl, .inl rfl, ⟨by omega, by omega⟩, H4.out⟩
        · go_wp2_with (first
            | (go_at_call 54; refine (W1.out _ HR.out.2).mono ?_; rintro e w3 ⟨rfl, b3⟩; have H3 := Lib.hid (HR.out.2.trans (b3.mono HR.out.2.size)); clear b3 W1)
            | (go_at_call 54; refine (W2.out _ H3.out).mono ?_; rintro e w4 ⟨rfl, b4⟩; have H4 := Lib.hid (H3.out.trans (b4.mono H3.out.size)); clear b4)
            | fail)
          go_ret
          exact ⟨_, rfl, .inl rfl, ⟨by omega, by omega⟩, H4.out⟩
    | succ g1 =>
      have hk : k < N := by omega
      obtain rfl := HSp.out (by omega)
      have hc := HCell.out k hk wr HR.out.2
      have ho := HOf.out k hk
      have HX := Lib.hid (HR.out.1.step ho.2)
      obtain ⟨t, ht⟩ : ∃ t, L.getD k default = t := ⟨_, rfl⟩
      rw [ht] at hc ho HX
      obtain ⟨P, C, O, K⟩ := t
      have c0 : wr.cell? ⟨b, o + k * 4, none⟩ = some (.int .i64 P) := hc 0 _ rfl
      have c1 : wr.cell? ⟨b, o + k * 4 + 1, none⟩ = some (.int .i64 C) := hc 1 _ rfl
      have c2 : wr.cell? ⟨b, o + k * 4 + 2, none⟩ = some (.int .i64 O) := hc 2 _ rfl
      have c3 : wr.cell? ⟨b, o + k * 4 + 3, none⟩ = some (.int .i64 K) := hc 3 _ rfl
      dsimp only at HX ho
      have hk2 : (k : Int) < (N : Int) := by omega
      have hk3 : (k : Int) + 1 ≤ 9223372036854775807 := by omega
      clear hc ht HCell HSp HOf HSt HGo HW
      go_wp2_with (first
        | (go_at_call 77; refine (multiple_any _ _ _).mono ?_; rintro e w4 ⟨rfl, b4⟩; have H4 := Lib.hid (HR.out.2.trans (alloc_then b4 HR.out.2.size)); clear b4)
        | fail)
      go_roundg g1
      case measure => omega
      case rel => exact ⟨k + 1, _, _, by omega, rfl, rfl, by go_num, HX.out, H4.out⟩
end Go.Proofs.Ytmaackdfhmpicaa
