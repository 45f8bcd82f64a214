/- Several texts in one: BK, BL, CC. -/
import Derived.Test.YthpagbfabpfngaaPk17
/- The contract of bank's Try. -/
namespace Go.Proofs.Ythpagbfabpfngaa
open Go.RowKit

/-- What Try makes of the device, and what it answers. -/
def tryR (d : Dev) (base many : Nat) : Dev × Int :=
  if d.on then (if stOK d base many then (if confH (d.word (base + 1)) then (d, 80) else (if nxB (d.word (base + 1)) then d.program ((base + 1 : Nat) : Int) (nxN (d.word (base + 1)) : Nat) 0#32 else (d, 80))) else (d, 80)) else (d, 63)
theorem nx_at {n : Nat} (hn : 13 ≤ n) (l : Nat → BitVec 32) : nxN (atW n l) = nxN l ∧ nxB (atW n l) = nxB l := by
  unfold nxN nxB atW
  simp only [show 10 < n by omega, show 11 < n by omega, show 12 < n by omega, if_true]
  exact ⟨trivial, trivial⟩
theorem nxN_le (l : Nat → BitVec 32) : nxN l ≤ 12 := by unfold nxN; split; omega; split; omega; split <;> omega
set_option maxHeartbeats 4000000 in
set_option maxRecDepth 100000 in
theorem try_any {w : World} {B q S : Nat} {g : Nat → Nat} {d : Dev} {base many : Nat} {op : Bool} {P : List (BitVec 32)} (h : Bk w B q S g d base many op P) (ho : d.okE) :
    Calls Try.prog 57 #[.pointer (some ⟨B, 0, none⟩)] w fun e w' => e = .returned (.int .i64 (tryR d base many).2) ∧ Bk w' B q S g (tryR d base many).1 base many op P ∧ Ch (OwnD q S g d.ns) w w' := by
  have hR : tryR d base many = if d.on then (if stOK d base many then (if confH (d.word (base + 1)) then (d, 80) else (if nxB (d.word (base + 1)) then d.program ((base + 1 : Nat) : Int) (nxN (d.word (base + 1)) : Nat) 0#32 else (d, 80))) else (d, 80)) else (d, 63) := rfl
  obtain ⟨R, hRR⟩ : ∃ R, tryR d base many = R := ⟨_, rfl⟩
  rw [hRR] at hR ⊢
  clear hRR
  have c0 := h.c0
  have HOn := Lib.hid (on_any h.dev)
  have hst := state_any h
  obtain ⟨t, ht⟩ : ∃ t, trC (d.word (base + 1)) 3 = t := ⟨_, rfl⟩
  unfold stV at hst
  rw [ht] at hst
  have H1 := Lib.hid h
  have hnw := h.fit.2.2
  have hz := h.dev.zn
  have hbs : (base : Int) ≤ 64 := by have := h.fit; omega
  have HNx := Lib.hid (fun (wx : World) (b cap : Nat) (hw : Ws wx (some ⟨b, 0, none⟩) b 0 d.nw (d.word (base + 1))) => (by have := hnext_any d.nw b 0 cap _ _ wx (by omega) hw; rw [(nx_at hnw _).1, (nx_at hnw _).2] at this; exact this : Calls Try.prog 97 #[.slice (some ⟨b, 0, none⟩) d.nw cap] wx fun e w' => e = .returned (.tuple #[.int .i64 (nxN (d.word (base + 1)) : Nat), .bool (nxB (d.word (base + 1)))]) ∧ Below wx.heap.size wx w'))
  have hnn := nxN_le (d.word (base + 1))
  obtain ⟨nx, hnx⟩ : ∃ nx, nxN (d.word (base + 1)) = nx := ⟨_, rfl⟩
  simp only [hnx] at HNx
  rw [hnx] at hR hnn
  have HPr := Lib.hid (fun (wx : World) (hx : Bk wx B q S g d base many op P) => (program_any hx.dev ho.1 ((base + 1 : Nat) : Int) (nx : Nat) 0#32))
  have hpk := program_kept ho ((base + 1 : Nat) : Int) (nx : Nat) 0#32 (by omega)
  obtain ⟨⟨d1, e1⟩, hp⟩ : ∃ p, d.program ((base + 1 : Nat) : Int) (nx : Nat) 0#32 = p := ⟨_, rfl⟩
  rw [hp] at hR hpk
  simp only [hp] at HPr
  rw [show ((base + 1 : Nat) : Int) = (base : Int) + 1 by omega] at HPr
  have HPK := Lib.hid hpk
  clear h ht ho hnw hz hnx hp hpk hnn
  cases hon : d.on with
  | false =>
    rw [hon] at HOn hR
    simp only [Bool.false_eq_true, if_false] at hR
    clear hst
    go_enter Try.func57, Try.ntmps57
    go_wp2_with (first
      | (go_at_call 46; refine HOn.out.mono ?_; rintro e w2 ⟨rfl, rfl⟩)
      | fail)
    go_ret
    subst hR
    exact ⟨rfl, H1.out, Ch.refl _ _⟩
  | true =>
    rw [hon] at HOn hR
    simp only [if_true] at hR
    cases hok : stOK d base many with
    | false =>
      rw [hok] at hst hR
      simp only [Bool.false_eq_true, if_false] at hst hR
      have HSt := Lib.hid hst
      clear hst
      obtain ⟨nb, hnb⟩ : ∃ nb, nxB (d.word (base + 1)) = nb := ⟨_, rfl⟩
      simp only [hnb] at HNx
      go_enter Try.func57, Try.ntmps57
      go_wp2_with (first
        | (go_at_call 46; refine HOn.out.mono ?_; rintro e w2 ⟨rfl, rfl⟩)
        | (go_at_call 16; refine HSt.out.mono ?_; rintro e w3 ⟨rfl, hb3⟩; have H3 := Lib.hid hb3; clear hb3)
        | fail)
      have hbA := H3.out.trans (((Below.refl w3.heap.size w3).alloc (Nat.le_refl _) (.cells #[.int .u32 0, .int .u32 0, .int .u32 0, .bool false, .bool false, .int .i64 (t : Nat)] 47)).mono H3.out.size)
      have HA := Lib.hid (And.intro (H1.out.new hbA) hbA)
      have q1 : (w3.alloc (.cells #[.int .u32 0, .int .u32 0, .int .u32 0, .bool false, .bool false, .int .i64 (t : Nat)] 47)).cell? ⟨w3.heap.size, 3, none⟩ = some (.bool false) := (show RowAt (w3.alloc (.cells #[.int .u32 0, .int .u32 0, .int .u32 0, .bool false, .bool false, .int .i64 (t : Nat)] 47)) w3.heap.size 47 #[.int .u32 0, .int .u32 0, .int .u32 0, .bool false, .bool false, .int .i64 (t : Nat)] from RowAt.mk w3 _ _).cell 3
      have q2 : (w3.alloc (.cells #[.int .u32 0, .int .u32 0, .int .u32 0, .bool false, .bool false, .int .i64 (t : Nat)] 47)).cell? ⟨w3.heap.size, 4, none⟩ = some (.bool false) := (show RowAt (w3.alloc (.cells #[.int .u32 0, .int .u32 0, .int .u32 0, .bool false, .bool false, .int .i64 (t : Nat)] 47)) w3.heap.size 47 #[.int .u32 0, .int .u32 0, .int .u32 0, .bool false, .bool false, .int .i64 (t : Nat)] from RowAt.mk w3 _ _).cell 4
      obtain ⟨z, hz⟩ : ∃ z, w3.heap.size = z := ⟨_, rfl⟩
      obtain ⟨wa, hwa⟩ : ∃ wa, w3.alloc (.cells #[.int .u32 0, .int .u32 0, .int .u32 0, .bool false, .bool false, .int .i64 (t : Nat)] 47) = wa := ⟨_, rfl⟩
      have hzl : z < wa.heap.size := by rw [← hwa, ← hz]; simp
      rw [hwa] at HA q1 q2 ⊢
      rw [hz] at q1 q2 ⊢
      have HQ := Lib.hid (show ∀ W', Below wa.heap.size wa W' → W'.cell? ⟨z, 3, none⟩ = some (.bool false) ∧ W'.cell? ⟨z, 4, none⟩ = some (.bool false) from fun W' hb => ⟨(hb.cell (p := ⟨z, 3, none⟩) hzl).trans q1, (hb.cell (p := ⟨z, 4, none⟩) hzl).trans q2⟩)
      clear hbA hwa hz hzl q1 q2
      refine (bhead_any HA.out.1).mono ?_
      rintro e w4 ⟨b, cap, rfl, h1, h2, h3, h4⟩
      have H4 := Lib.hid (And.intro (HA.out.1.new h4) (And.intro (HA.out.2.trans (h4.mono HA.out.2.size)) (And.intro h4 h2)))
      clear h1 h2 h3 h4
      go_wp2_with (first
        | (go_at_call 97; refine (HNx.out _ _ _ H4.out.2.2.2).mono ?_; rintro e w5 ⟨rfl, hb5⟩; have H5 := Lib.hid (And.intro (H4.out.1.new hb5) (H4.out.2.1.trans (hb5.mono H4.out.2.1.size))); obtain ⟨q1, q2⟩ := HQ.out w5 (H4.out.2.2.1.trans (hb5.mono H4.out.2.2.1.size)); have c5 := H5.out.1.c0; have c51 := H5.out.1.c1; clear hb5)
        | fail)
      go_ret
      subst hR
      exact ⟨rfl, H5.out.1, Ch.new H5.out.2⟩
    | true =>
      rw [hok] at hst hR
      simp only [if_true] at hst hR
      cases hcf : confH (d.word (base + 1)) with
      | true =>
        rw [hcf] at hst hR
        simp only [if_true] at hR
        have HSt := Lib.hid hst
        clear hst
        obtain ⟨nb, hnb⟩ : ∃ nb, nxB (d.word (base + 1)) = nb := ⟨_, rfl⟩
        simp only [hnb] at HNx
        go_enter Try.func57, Try.ntmps57
        go_wp2_with (first
          | (go_at_call 46; refine HOn.out.mono ?_; rintro e w2 ⟨rfl, rfl⟩)
          | (go_at_call 16; refine HSt.out.mono ?_; rintro e w3 ⟨rfl, hb3⟩; have H3 := Lib.hid hb3; clear hb3)
          | fail)
        have hbA := H3.out.trans (((Below.refl w3.heap.size w3).alloc (Nat.le_refl _) (.cells #[.int .u32 (w32 (d.word (base + 1) 0)), .int .u32 (w32 (d.word (base + 1) 2)), .int .u32 (w32 (d.word (base + 1) 4)), .bool true, .bool true, .int .i64 (t : Nat)] 47)).mono H3.out.size)
        have HA := Lib.hid (And.intro (H1.out.new hbA) hbA)
        have q1 : (w3.alloc (.cells #[.int .u32 (w32 (d.word (base + 1) 0)), .int .u32 (w32 (d.word (base + 1) 2)), .int .u32 (w32 (d.word (base + 1) 4)), .bool true, .bool true, .int .i64 (t : Nat)] 47)).cell? ⟨w3.heap.size, 3, none⟩ = some (.bool true) := (show RowAt (w3.alloc (.cells #[.int .u32 (w32 (d.word (base + 1) 0)), .int .u32 (w32 (d.word (base + 1) 2)), .int .u32 (w32 (d.word (base + 1) 4)), .bool true, .bool true, .int .i64 (t : Nat)] 47)) w3.heap.size 47 #[.int .u32 (w32 (d.word (base + 1) 0)), .int .u32 (w32 (d.word (base + 1) 2)), .int .u32 (w32 (d.word (base + 1) 4)), .bool true, .bool true, .int .i64 (t : Nat)] from RowAt.mk w3 _ _).cell 3
        have q2 : (w3.alloc (.cells #[.int .u32 (w32 (d.word (base + 1) 0)), .int .u32 (w32 (d.word (base + 1) 2)), .int .u32 (w32 (d.word (base + 1) 4)), .bool true, .bool true, .int .i64 (t : Nat)] 47)).cell? ⟨w3.heap.size, 4, none⟩ = some (.bool true) := (show RowAt (w3.alloc (.cells #[.int .u32 (w32 (d.word (base + 1) 0)), .int .u32 (w32 (d.word (base + 1) 2)), .int .u32 (w32 (d.word (base + 1) 4)), .bool true, .bool true, .int .i64 (t : Nat)] 47)) w3.heap.size 47 #[.int .u32 (w32 (d.word (base + 1) 0)), .int .u32 (w32 (d.word (base + 1) 2)), .int .u32 (w32 (d.word (base + 1) 4)), .bool true, .bool true, .int .i64 (t : Nat)] from RowAt.mk w3 _ _).cell 4
        obtain ⟨z, hz⟩ : ∃ z, w3.heap.size = z := ⟨_, rfl⟩
        obtain ⟨wa, hwa⟩ : ∃ wa, w3.alloc (.cells #[.int .u32 (w32 (d.word (base + 1) 0)), .int .u32 (w32 (d.word (base + 1) 2)), .int .u32 (w32 (d.word (base + 1) 4)), .bool true, .bool true, .int .i64 (t : Nat)] 47) = wa := ⟨_, rfl⟩
        have hzl : z < wa.heap.size := by rw [← hwa, ← hz]; simp
        rw [hwa] at HA q1 q2 ⊢
        rw [hz] at q1 q2 ⊢
        have HQ := Lib.hid (show ∀ W', Below wa.heap.size wa W' → W'.cell? ⟨z, 3, none⟩ = some (.bool true) ∧ W'.cell? ⟨z, 4, none⟩ = some (.bool true) from fun W' hb => ⟨(hb.cell (p := ⟨z, 3, none⟩) hzl).trans q1, (hb.cell (p := ⟨z, 4, none⟩) hzl).trans q2⟩)
        clear hbA hwa hz hzl q1 q2
        refine (bhead_any HA.out.1).mono ?_
        rintro e w4 ⟨b, cap, rfl, h1, h2, h3, h4⟩
        have H4 := Lib.hid (And.intro (HA.out.1.new h4) (And.intro (HA.out.2.trans (h4.mono HA.out.2.size)) (And.intro h4 h2)))
        clear h1 h2 h3 h4
        go_wp2_with (first
          | (go_at_call 97; refine (HNx.out _ _ _ H4.out.2.2.2).mono ?_; rintro e w5 ⟨rfl, hb5⟩; have H5 := Lib.hid (And.intro (H4.out.1.new hb5) (H4.out.2.1.trans (hb5.mono H4.out.2.1.size))); obtain ⟨q1, q2⟩ := HQ.out w5 (H4.out.2.2.1.trans (hb5.mono H4.out.2.2.1.size)); have c5 := H5.out.1.c0; have c51 := H5.out.1.c1; clear hb5)
          | fail)
        go_ret
        subst hR
        exact ⟨rfl, H5.out.1, Ch.new H5.out.2⟩
      | false =>
        rw [hcf] at hst hR
        simp only [Bool.false_eq_true, if_false] at hR
        have HSt := Lib.hid hst
        clear hst
        cases hnb : nxB (d.word (base + 1)) with
        | false =>
          simp only [hnb] at HNx
          rw [hnb] at hR
          simp only [Bool.false_eq_true, if_false] at hR
          go_enter Try.func57, Try.ntmps57
          go_wp2_with (first
            | (go_at_call 46; refine HOn.out.mono ?_; rintro e w2 ⟨rfl, rfl⟩)
            | (go_at_call 16; refine HSt.out.mono ?_; rintro e w3 ⟨rfl, hb3⟩; have H3 := Lib.hid hb3; clear hb3)
            | fail)
          have hbA := H3.out.trans (((Below.refl w3.heap.size w3).alloc (Nat.le_refl _) (.cells #[.int .u32 (w32 (d.word (base + 1) 0)), .int .u32 (w32 (d.word (base + 1) 2)), .int .u32 (w32 (d.word (base + 1) 4)), .bool true, .bool false, .int .i64 (t : Nat)] 47)).mono H3.out.size)
          have HA := Lib.hid (And.intro (H1.out.new hbA) hbA)
          have q1 : (w3.alloc (.cells #[.int .u32 (w32 (d.word (base + 1) 0)), .int .u32 (w32 (d.word (base + 1) 2)), .int .u32 (w32 (d.word (base + 1) 4)), .bool true, .bool false, .int .i64 (t : Nat)] 47)).cell? ⟨w3.heap.size, 3, none⟩ = some (.bool true) := (show RowAt (w3.alloc (.cells #[.int .u32 (w32 (d.word (base + 1) 0)), .int .u32 (w32 (d.word (base + 1) 2)), .int .u32 (w32 (d.word (base + 1) 4)), .bool true, .bool false, .int .i64 (t : Nat)] 47)) w3.heap.size 47 #[.int .u32 (w32 (d.word (base + 1) 0)), .int .u32 (w32 (d.word (base + 1) 2)), .int .u32 (w32 (d.word (base + 1) 4)), .bool true, .bool false, .int .i64 (t : Nat)] from RowAt.mk w3 _ _).cell 3
          have q2 : (w3.alloc (.cells #[.int .u32 (w32 (d.word (base + 1) 0)), .int .u32 (w32 (d.word (base + 1) 2)), .int .u32 (w32 (d.word (base + 1) 4)), .bool true, .bool false, .int .i64 (t : Nat)] 47)).cell? ⟨w3.heap.size, 4, none⟩ = some (.bool false) := (show RowAt (w3.alloc (.cells #[.int .u32 (w32 (d.word (base + 1) 0)), .int .u32 (w32 (d.word (base + 1) 2)), .int .u32 (w32 (d.word (base + 1) 4)), .bool true, .bool false, .int .i64 (t : Nat)] 47)) w3.heap.size 47 #[.int .u32 (w32 (d.word (base + 1) 0)), .int .u32 (w32 (d.word (base + 1) 2)), .int .u32 (w32 (d.word (base + 1) 4)), .bool true, .bool false, .int .i64 (t : Nat)] from RowAt.mk w3 _ _).cell 4
          obtain ⟨z, hz⟩ : ∃ z, w3.heap.size = z := ⟨_, rfl⟩
          obtain ⟨wa, hwa⟩ : ∃ wa, w3.alloc (.cells #[.int .u32 (w32 (d.word (base + 1) 0)), .int .u32 (w32 (d.word (base + 1) 2)), .int .u32 (w32 (d.word (base + 1) 4)), .bool true, .bool false, .int .i64 (t : Nat)] 47) = wa := ⟨_, rfl⟩
          have hzl : z < wa.heap.size := by rw [← hwa, ← hz]; simp
          rw [hwa] at HA q1 q2 ⊢
          rw [hz] at q1 q2 ⊢
          have HQ := Lib.hid (show ∀ W', Below wa.heap.size wa W' → W'.cell? ⟨z, 3, none⟩ = some (.bool true) ∧ W'.cell? ⟨z, 4, none⟩ = some (.bool false) from fun W' hb => ⟨(hb.cell (p := ⟨z, 3, none⟩) hzl).trans q1, (hb.cell (p := ⟨z, 4, none⟩) hzl).trans q2⟩)
          clear hbA hwa hz hzl q1 q2
          refine (bhead_any HA.out.1).mono ?_
          rintro e w4 ⟨b, cap, rfl, h1, h2, h3, h4⟩
          have H4 := Lib.hid (And.intro (HA.out.1.new h4) (And.intro (HA.out.2.trans (h4.mono HA.out.2.size)) (And.intro h4 h2)))
          clear h1 h2 h3 h4
          go_wp2_with (first
            | (go_at_call 97; refine (HNx.out _ _ _ H4.out.2.2.2).mono ?_; rintro e w5 ⟨rfl, hb5⟩; have H5 := Lib.hid (And.intro (H4.out.1.new hb5) (H4.out.2.1.trans (hb5.mono H4.out.2.1.size))); obtain ⟨q1, q2⟩ := HQ.out w5 (H4.out.2.2.1.trans (hb5.mono H4.out.2.2.1.size)); have c5 := H5.out.1.c0; have c51 := H5.out.1.c1; clear hb5)
            | fail)
          go_ret
          subst hR
          exact ⟨rfl, H5.out.1, Ch.new H5.out.2⟩
        | true =>
          simp only [hnb] at HNx
          rw [hnb] at hR
          simp only [if_true] at hR
          go_enter Try.func57, Try.ntmps57
          go_wp2_with (first
            | (go_at_call 46; refine HOn.out.mono ?_; rintro e w2 ⟨rfl, rfl⟩)
            | (go_at_call 16; refine HSt.out.mono ?_; rintro e w3 ⟨rfl, hb3⟩; have H3 := Lib.hid hb3; clear hb3)
            | fail)
          have hbA := H3.out.trans (((Below.refl w3.heap.size w3).alloc (Nat.le_refl _) (.cells #[.int .u32 (w32 (d.word (base + 1) 0)), .int .u32 (w32 (d.word (base + 1) 2)), .int .u32 (w32 (d.word (base + 1) 4)), .bool true, .bool false, .int .i64 (t : Nat)] 47)).mono H3.out.size)
          have HA := Lib.hid (And.intro (H1.out.new hbA) hbA)
          have q1 : (w3.alloc (.cells #[.int .u32 (w32 (d.word (base + 1) 0)), .int .u32 (w32 (d.word (base + 1) 2)), .int .u32 (w32 (d.word (base + 1) 4)), .bool true, .bool false, .int .i64 (t : Nat)] 47)).cell? ⟨w3.heap.size, 3, none⟩ = some (.bool true) := (show RowAt (w3.alloc (.cells #[.int .u32 (w32 (d.word (base + 1) 0)), .int .u32 (w32 (d.word (base + 1) 2)), .int .u32 (w32 (d.word (base + 1) 4)), .bool true, .bool false, .int .i64 (t : Nat)] 47)) w3.heap.size 47 #[.int .u32 (w32 (d.word (base + 1) 0)), .int .u32 (w32 (d.word (base + 1) 2)), .int .u32 (w32 (d.word (base + 1) 4)), .bool true, .bool false, .int .i64 (t : Nat)] from RowAt.mk w3 _ _).cell 3
          have q2 : (w3.alloc (.cells #[.int .u32 (w32 (d.word (base + 1) 0)), .int .u32 (w32 (d.word (base + 1) 2)), .int .u32 (w32 (d.word (base + 1) 4)), .bool true, .bool false, .int .i64 (t : Nat)] 47)).cell? ⟨w3.heap.size, 4, none⟩ = some (.bool false) := (show RowAt (w3.alloc (.cells #[.int .u32 (w32 (d.word (base + 1) 0)), .int .u32 (w32 (d.word (base + 1) 2)), .int .u32 (w32 (d.word (base + 1) 4)), .bool true, .bool false, .int .i64 (t : Nat)] 47)) w3.heap.size 47 #[.int .u32 (w32 (d.word (base + 1) 0)), .int .u32 (w32 (d.word (base + 1) 2)), .int .u32 (w32 (d.word (base + 1) 4)), .bool true, .bool false, .int .i64 (t : Nat)] from RowAt.mk w3 _ _).cell 4
          obtain ⟨z, hz⟩ : ∃ z, w3.heap.size = z := ⟨_, rfl⟩
          obtain ⟨wa, hwa⟩ : ∃ wa, w3.alloc (.cells #[.int .u32 (w32 (d.word (base + 1) 0)), .int .u32 (w32 (d.word (base + 1) 2)), .int .u32 (w32 (d.word (base + 1) 4)), .bool true, .bool false, .int .i64 (t : Nat)] 47) = wa := ⟨_, rfl⟩
          have hzl : z < wa.heap.size := by rw [← hwa, ← hz]; simp
          rw [hwa] at HA q1 q2 ⊢
          rw [hz] at q1 q2 ⊢
          have HQ := Lib.hid (show ∀ W', Below wa.heap.size wa W' → W'.cell? ⟨z, 3, none⟩ = some (.bool true) ∧ W'.cell? ⟨z, 4, none⟩ = some (.bool false) from fun W' hb => ⟨(hb.cell (p := ⟨z, 3, none⟩) hzl).trans q1, (hb.cell (p := ⟨z, 4, none⟩) hzl).trans q2⟩)
          clear hbA hwa hz hzl q1 q2
          refine (bhead_any HA.out.1).mono ?_
          rintro e w4 ⟨b, cap, rfl, h1, h2, h3, h4⟩
          have H4 := Lib.hid (And.intro (HA.out.1.new h4) (And.intro (HA.out.2.trans (h4.mono HA.out.2.size)) (And.intro h4 h2)))
          clear h1 h2 h3 h4
          go_wp2_with (first
            | (go_at_call 97; refine (HNx.out _ _ _ H4.out.2.2.2).mono ?_; rintro e w5 ⟨rfl, hb5⟩; have H5 := Lib.hid (And.intro (H4.out.1.new hb5) (H4.out.2.1.trans (hb5.mono H4.out.2.1.size))); obtain ⟨q1, q2⟩ := HQ.out w5 (H4.out.2.2.1.trans (hb5.mono H4.out.2.2.1.size)); have c5 := H5.out.1.c0; have c51 := H5.out.1.c1; clear hb5)
            | fail)
          go_still_tail 10, (by kernel_rfl)
          go_wp2_with (first
            | (go_at_call 98; refine (HPr.out _ (H5.out.1.dn 1)).mono ?_; rintro e w6 ⟨rfl, h6, k6⟩; have H6 := Lib.hid (And.intro ((H5.out.1.dn 1).dev' h6 ⟨HPK.out.ns, HPK.out.nw⟩ k6) (((Ch.new H5.out.2 : Ch (OwnD q S g d.ns) w w5).drewN 1).trans k6)); clear h6 k6)
            | fail)
          go_ret
          subst hR
          exact ⟨rfl, H6.out⟩
end Go.Proofs.Ythpagbfabpfngaa
/- The contract of bank's Put. -/
namespace Go.Proofs.Ythpagbfabpfngaa
open Go.RowKit

theorem room_quiet {w : World} {B q S : Nat} {g : Nat → Nat} {d : Dev} {base many : Nat} {op : Bool} {P : List (BitVec 32)} (h : Bk w B q S g d base many op P) (n : Nat) :
    Calls Try.prog 14 #[.pointer (some ⟨B, 0, none⟩)] (w.drewN n) fun e w' => e = .returned (.int .i64 (roomN d many : Nat)) ∧ ∃ m, w' = w.drewN m :=
  (room_any (h.dn n)).mono fun _ _ ⟨h1, m, h2⟩ => ⟨h1, n + m, by rw [h2, World.drewN_drewN]⟩
set_option maxHeartbeats 4000000 in
set_option maxRecDepth 100000 in
theorem put_no {w : World} {B q S : Nat} {g : Nat → Nat} {d : Dev} {base many : Nat} {P : List (BitVec 32)} (h : Bk w B q S g d base many false P) (sp : Option Addr) (n cap : Nat) :
    Calls Try.prog 44 #[.pointer (some ⟨B, 0, none⟩), .slice sp n cap] w fun e w' => e = .returned (.int .i64 80) ∧ w = w' := by
  have c3 := h.c3
  clear h
  go_enter Try.func44, Try.ntmps44
  go_wp2
  go_ret
  exact ⟨rfl, rfl⟩
set_option maxHeartbeats 4000000 in
set_option maxRecDepth 100000 in
theorem put_full {w : World} {B q S : Nat} {g : Nat → Nat} {d : Dev} {base many : Nat} {P : List (BitVec 32)} (h : Bk w B q S g d base many true P) (sp : Option Addr) (n cap : Nat) (hP : P.length ≤ 4096) (hn : (roomN d many : Int) - P.length < n) (hn2 : n ≤ 100000) :
    Calls Try.prog 44 #[.pointer (some ⟨B, 0, none⟩), .slice sp n cap] w fun e w' => e = .returned (.int .i64 81) ∧ ∃ m, w' = w.drewN m := by
  have c3 := h.c3
  have c4 := h.c4
  have HRm := fun n => Lib.hid (room_quiet h n)
  have hrm : roomN d many ≤ 4096 := by unfold roomN; omega
  obtain ⟨rm, hrr⟩ : ∃ rm, roomN d many = rm := ⟨_, rfl⟩
  obtain ⟨p, hpp⟩ : ∃ p, P.length = p := ⟨_, rfl⟩
  rw [hrr] at HRm hrm hn
  rw [hpp] at c4 hP hn
  have e1 : IntKind.i64.wrap ((rm : Int) - (p : Int)) = (rm : Int) - p := by rw [IntKind.wrap_i64]; omega
  clear h hrr hpp
  go_enter Try.func44, Try.ntmps44
  go_wp2
  go_quiet ((go_at_call 14; exact (HRm _).out))
  go_wp2
  go_ret
  exact ⟨rfl, _, rfl⟩
theorem behind_to {w : World} {B q S : Nat} {g : Nat → Nat} {d : Dev} {base many : Nat} {op : Bool} {P X : List (BitVec 32)} (h : Bk w B q S g d base many op P) {sp : Option Addr} {b off cap : Nat} (hP : P.length ≤ 100000 ∧ X.length ≤ 100000) (hX : Ws w sp b off X.length (nthW X)) (hb : 0 < X.length → ¬ OwnB B q S g d.ns b) :
    GivesTo ((w.alloc (.cells #[.pointer (some ⟨B, 0, none⟩)] 35)).alloc (.cells #[.slice sp X.length cap] 24)) q S g d.ns 107 #[.pointer (some ⟨w.heap.size + 1, 0, none⟩), .pointer (some ⟨w.heap.size, 0, none⟩)] X.length (fun k => P.length + k) (nthW X) := by
  obtain ⟨w1, hw1⟩ : ∃ w1, w.alloc (.cells #[.pointer (some ⟨B, 0, none⟩)] 35) = w1 := ⟨_, rfl⟩
  obtain ⟨w2, hw2⟩ : ∃ w2, w1.alloc (.cells #[.slice sp X.length cap] 24) = w2 := ⟨_, rfl⟩
  rw [hw1, hw2]
  have z1 : w1.heap.size = w.heap.size + 1 := by rw [← hw1]; simp
  have b1 : Below w.heap.size w w1 := by rw [← hw1]; exact (Below.refl _ _).alloc (Nat.le_refl _) _
  have b2 : Below w1.heap.size w1 w2 := by rw [← hw2]; exact (Below.refl _ _).alloc (Nat.le_refl _) _
  have x2 : w2.cell? ⟨w.heap.size + 1, 0, none⟩ = some (.slice sp X.length cap) := by rw [← hw2, ← z1]; exact (BoxAt.mk_new w1 #[.slice sp X.length cap] _).cell 0 _ rfl
  have x1 : w2.cell? ⟨w.heap.size, 0, none⟩ = some (.pointer (some ⟨B, 0, none⟩)) := by rw [← hw2, ← hw1]; exact ((BoxAt.mk_new w #[.pointer (some ⟨B, 0, none⟩)] 35).alloc _).cell 0 _ rfl
  have h2 := (h.new b1).new b2
  have hW2 := (hX.new b1).new b2
  have hlt := h.lt
  have off2 : ∀ j, w.heap.size ≤ j → ¬ OwnD q S g d.ns j := fun j hj ho => by have := hlt j (.inr ho); omega
  refine ⟨fun args w => enters_of Try.func107 (by kernel_rfl) rfl args w, fun l0 F J Jx W1 hJ fJ hR h0 => ?_⟩
  refine behind_in l0 (w.heap.size + 1) w.heap.size B P.length X.length b off cap sp (nthW X) F J Jx W1 hP (fun k W' hk => ?_) hR fJ h0
  have c := hJ k W' hk
  exact ⟨c.cell x2 (off2 _ (by simp)), c.cell x1 (off2 _ (by simp)), c.cell h2.c4 h.nb, hW2.keep c (fun h0 ho => hb h0 (.inr ho))⟩
/-- What Put programs. -/
def putK (d : Dev) (base : Nat) (P X : List (BitVec 32)) : Dev × Int := progK d (base + 2) (fun k => P.length + k) (nthW X) X.length
/-- Where a bank lies in the midst of a sum. -/
structure Bs (w : World) (B q S : Nat) (g : Nat → Nat) (d : Dev) (base many : Nat) (p : Nat) (Y : List (BitVec 32)) : Prop where
  box : BoxAt w B (putSum (bankC q base many true p) 5 (runW ones Y) ((4 * Y.length : Nat) : Int))
  dev : DevAt w q S g d
set_option maxHeartbeats 4000000 in
set_option maxRecDepth 100000 in
theorem put_go {w : World} {B q S : Nat} {g : Nat → Nat} {d : Dev} {base many : Nat} {P X : List (BitVec 32)} (h : Bk w B q S g d base many true P) (ho : d.okE) (hops : d.ops + X.length ≤ 1000000) {sp : Option Addr} {b off cap : Nat} (hX : Ws w sp b off X.length (nthW X)) (hb : 0 < X.length → ¬ OwnB B q S g d.ns b) (hP : P.length ≤ 4096) (hn : (X.length : Int) ≤ (roomN d many : Int) - P.length) :
    Calls Try.prog 44 #[.pointer (some ⟨B, 0, none⟩), .slice sp X.length cap] w fun e w' => e = .returned (.int .i64 (putK d base P X).2) ∧ Bk w' B q S g (putK d base P X).1 base many (decide ((putK d base P X).2 = 0)) (if (putK d base P X).2 = 0 then P ++ X else P) ∧ Ch (OwnB B q S g d.ns) w w' := by
  have c3 := h.c3
  have c4 := h.c4
  have HRm := fun n => Lib.hid (room_quiet h n)
  have hrm : roomN d many ≤ 4096 := by unfold roomN; omega
  have hz := h.dev.zn
  have hk := progK_kept (from_ := base + 2) (at_ := fun k => P.length + k) (ws := nthW X) (n := X.length) ho hops (by omega) hz.2.2.2 X.length (Nat.le_refl _)
  have HPr := Lib.hid (fun (wx : World) (gf : Nat) (lb : Array Value) (hx : Bk wx B q S g d base many true P) (hg : GivesTo wx q S g d.ns gf lb X.length (fun k => P.length + k) (nthW X)) => bprogram_any hx ho 2 (by omega) gf lb X.length _ _ hops (fun k hk => by omega) hg)
  have hKK : putK d base P X = progK d (base + 2) (fun k => P.length + k) (nthW X) X.length := rfl
  obtain ⟨⟨d1, e1⟩, hp1⟩ : ∃ p, progK d (base + 2) (fun k => P.length + k) (nthW X) X.length = p := ⟨_, rfl⟩
  rw [hp1] at hKK hk
  simp only [hp1] at HPr
  rw [hKK]
  simp only at hk ⊢
  have HTo := Lib.hid (fun nq => behind_to (cap := cap) (h.dn nq) (X := X) (by omega) (hX.new (below_dn (Below.refl _ _) nq)) hb)
  have hHX := hX
  have H1 := Lib.hid (And.intro h (And.intro hX (And.intro hb hk)))
  obtain ⟨rm, hrr⟩ : ∃ rm, roomN d many = rm := ⟨_, rfl⟩
  rw [hrr] at HRm hrm hn
  obtain ⟨n, hnn⟩ : ∃ n, X.length = n := ⟨_, rfl⟩
  have HX := Lib.hid (And.intro hnn hX)
  rw [hnn] at HTo HPr hn ⊢
  obtain ⟨p, hpp⟩ : ∃ p, P.length = p := ⟨_, rfl⟩
  have HPp := Lib.hid hpp
  rw [hpp] at c4 hP hn
  have e1w : IntKind.i64.wrap ((rm : Int) - (p : Int)) = (rm : Int) - p := by rw [IntKind.wrap_i64]; omega
  have hle : ¬ (rm : Int) - (p : Int) < (n : Int) := by omega
  clear h hz hk hp1 hKK hrr hX hb hnn hpp ho hops
  have HBl := Lib.hid (show ∀ nq, Below w.heap.size w (((w.drewN nq).alloc (.cells #[.pointer (some ⟨B, 0, none⟩)] 35)).alloc (.cells #[.slice sp n cap] 24)) from fun nq => ((below_dn (Below.refl _ _) nq).alloc (Nat.le_refl _) _).alloc (by simp) _)
  have HB2 := Lib.hid (show ∀ nq, Bk (((w.drewN nq).alloc (.cells #[.pointer (some ⟨B, 0, none⟩)] 35)).alloc (.cells #[.slice sp n cap] 24)) B q S g d base many true P from fun nq => H1.out.1.new (HBl.out nq))
  by_cases he : e1 = 0
  · subst he
    go_enter Try.func44, Try.ntmps44
    go_wp2
    go_quiet ((go_at_call 14; exact (HRm _).out))
    go_wp2_with fail
    refine (behindB_any B _ ⟨_, _, _, rfl⟩ _).mono ?_
    rintro e w4 ⟨rfl, rfl⟩
    go_wp2_with (first
      | (go_at_call 77; refine (HPr.out _ _ _ (HB2.out nq) (HTo.out nq)).mono ?_; rintro e w5 ⟨rfl, h5, k5⟩; have H5 := Lib.hid (And.intro h5 (And.intro k5 ((Ch.new (HBl.out nq) : Ch (OwnB B q S g d.ns) w _).trans (k5.mono fun j _ hj => .inr hj))));  clear h5 k5)
      | fail)
    obtain ⟨N, hN⟩ : ∃ N, N = n := ⟨_, rfl⟩
    have hXn := HX.out.1
    have hs5 : Ws w5 sp b off n (nthW X) := by
      have := (H1.out.2.1.new (HBl.out nq)).keep H5.out.2.1 (fun h0 ho => H1.out.2.2.1 h0 (.inr ho))
      rw [HX.out.1] at this
      exact this
    have H50 := Lib.hid (show Bs w5 B q S g d1 base many p P from ⟨by have := H5.out.1.box; unfold bankL at this; rw [HPp.out] at this ⊢; exact this, H5.out.1.dev⟩)
    have HW5 := Lib.hid hs5
    have HNS := Lib.hid H1.out.2.2.2.ns
    clear hs5 hN
    go_loopg [36] n (fun m v wr => ∃ i : Nat, i + m = n ∧ v = .int .i64 (i : Nat) ∧ Aside (Bs wr B q S g d1 base many p (P ++ X.take i) ∧ Ws wr sp b off n (nthW X) ∧ Ch (fun j => j = B) w5 wr))
    case atStart => exact ⟨0, by omega, rfl, by simpa using H50.out, HW5.out, Ch.refl _ _⟩
    case round =>
      obtain ⟨i, him, rfl, HA⟩ := hrel
      cases gk with
      | zero =>
        obtain rfl : i = n := by omega
        have q4 := HA.out.1.box.cell 4 (.int .i64 (p : Nat)) rfl
        have f4 := HA.out.1.box.fr 4
        have ew : IntKind.i64.wrap ((p : Int) + (i : Int)) = (p : Int) + i := by rw [IntKind.wrap_i64]; omega
        clear c3 c4 HTo HPr HB2 HBl HRm H50 HW5
        go_wp2
        refine bodyPost_ret (results_tmp rfl _ _ _) rfl ?_
        simp only []
        have et : X.take i = X := by rw [← hXn]; exact List.take_length
        refine ⟨rfl, ⟨?_, ?_, by rw [HNS.out]; exact H1.out.1.nb, by rw [HNS.out, H1.out.2.2.2.nw]; exact H1.out.1.fit⟩, ?_⟩
        · have hB := HA.out.1.box.set 4 (.int .i64 ((p : Int) + i)) (by rw [putSum_len]; unfold bankC; simp)
          have e : (putSum (bankC q base many true p) 5 (runW ones (P ++ X.take i)) ((4 * (P ++ X.take i).length : Nat) : Int)).set 4 (.int .i64 ((p : Int) + i)) = bankL q base many true (P ++ X) := by
            rw [et]
            unfold bankL
            rw [show (P ++ X).length = p + i by rw [List.length_append, HPp.out, hXn], show (p : Int) + (i : Int) = ((p + i : Nat) : Int) by push_cast; rfl]
            rfl
          rw [e] at hB
          exact hB
        · exact HA.out.1.dev.keep (ch_setK wr B 4 _) (fun j hj e => H1.out.1.nb (by rw [← HNS.out, ← e]; exact hj))
        · exact H5.out.2.2.trans ((HA.out.2.2.trans (ch_setK wr B 4 _)).mono fun j _ e => .inl e)
      | succ m1 =>
        have hlt : i < n := by omega
        obtain ⟨rfl, -⟩ := HA.out.2.1.sp (by omega)
        have hc := HA.out.2.1.cell i hlt
        have hlw := HA.out.1.box
        have hl4 : (P ++ X.take i).length = p + i := by rw [List.length_append, HPp.out, List.length_take, hXn]; omega
        have hwo := wordO_any (nthW X i) (m := ((4 * (P ++ X.take i).length : Nat) : Int)) (by omega) (by unfold bankC; simp) hlw
        have er : wrd (runW ones (P ++ X.take i)) (nthW X i) = runW ones (P ++ X.take (i + 1)) := by
          have ra : ∀ Z, runW ones (P ++ Z) = runW (runW ones P) Z := fun Z => by unfold runW; rw [List.foldl_append]
          rw [ra, ra, runW_snoc _ _ _ (by omega)]
        have em : ((4 * (P ++ X.take i).length : Nat) : Int) + 4 = ((4 * (P ++ X.take (i + 1)).length : Nat) : Int) := by
          rw [hl4, show (P ++ X.take (i + 1)).length = p + (i + 1) by rw [List.length_append, HPp.out, List.length_take, hXn]; omega]
          omega
        rw [er, em] at hwo
        have HWo := Lib.hid hwo
        clear c3 c4 HTo HPr HB2 HBl HRm H50 HW5 hwo er em hl4 hlw
        go_wp2_with (go_at_call 79; refine HWo.out.mono ?_; rintro e w6 ⟨rfl, h6, k6⟩; have H6 := Lib.hid (And.intro h6 k6); clear h6 k6)
        go_roundg m1
        case measure => omega
        case rel =>
          refine ⟨i + 1, by omega, by go_num, ⟨H6.out.1, ?_⟩, ?_, HA.out.2.2.trans H6.out.2⟩
          · exact HA.out.1.dev.keep H6.out.2 (fun j hj e => H1.out.1.nb (by rw [← HNS.out, ← e]; exact hj))
          · exact HA.out.2.1.keep H6.out.2 (fun h0 e => H1.out.2.2.1 (by omega) (.inl e))
  · go_enter Try.func44, Try.ntmps44
    go_wp2
    go_quiet ((go_at_call 14; exact (HRm _).out))
    go_wp2_with fail
    refine (behindB_any B _ ⟨_, _, _, rfl⟩ _).mono ?_
    rintro e w4 ⟨rfl, rfl⟩
    go_wp2_with (first
      | (go_at_call 77; refine (HPr.out _ _ _ (HB2.out nq) (HTo.out nq)).mono ?_; rintro e w5 ⟨rfl, h5, k5⟩; have H5 := Lib.hid (And.intro h5 (And.intro k5 ((Ch.new (HBl.out nq) : Ch (OwnB B q S g d.ns) w _).trans (k5.mono fun j _ hj => .inr hj)))); have c53 := h5.c3; have f53 := h5.box.fr 3; clear h5 k5)
      | fail)
    go_ret
    simp only []
    exact ⟨rfl, H5.out.1.setOp false, H5.out.2.2.trans ((ch_setK w5 B 3 _).mono fun j _ e => .inl e)⟩
end Go.Proofs.Ythpagbfabpfngaa
/- Plain facts on what both sides make of a device: what an operation leaves of a word's bits; runs of words; the reference's numbers. No statement about the program. -/
namespace Go.Proofs.Ythpagbfabpfngaa

theorem within_and {x a b : BitVec 32} (h1 : within x a = true) (h2 : within x b = true) : within x (a &&& b) = true := by
  rw [within_iff] at *
  intro i hi hx
  rw [BitVec.getLsbD_and, h1 i hi hx, h2 i hi hx]
  rfl
theorem within_orL {x a : BitVec 32} (b : BitVec 32) (h : within x a = true) : within x (a ||| b) = true := by
  rw [within_iff] at *
  intro i hi hx
  rw [BitVec.getLsbD_or, h i hi hx]
  rfl
theorem within_ones (x : BitVec 32) : within x 4294967295#32 = true := by
  rw [within_iff]
  intro i hi _
  rw [show (4294967295#32 : BitVec 32) = BitVec.allOnes 32 by decide, BitVec.getLsbD_allOnes]
  simpa using hi
/-- Do some bits of a word stay? -/
theorem program_word {d : Dev} {x : BitVec 32} {a b : Nat} (h : within x (d.word a b) = true) (s k : Int) (y : BitVec 32) (hy : s.toNat = a → k.toNat = b → within x y = true) : within x ((d.program s k y).1.word a b) = true := by
  unfold Dev.program
  obtain ⟨-, -, e3, -, -⟩ := goes_same d
  split
  · rename_i he
    obtain ⟨-, -, -, -, hw⟩ := readE_ok he
    split
    · split
      · show within x (upd d.goes.1.word s.toNat k.toNat (d.readW s k &&& (y ||| d.mask)) a b) = true
        unfold upd
        split
        · rename_i hab
          rw [hw, ← hab.1, ← hab.2]
          exact within_and h (within_orL _ (hy hab.1.symm hab.2.symm))
        · rw [e3]; exact h
      · show within x (upd d.goes.1.word s.toNat k.toNat y a b) = true
        unfold upd
        split
        · rename_i hab
          exact hy hab.1.symm hab.2.symm
        · rw [e3]; exact h
    · exact h
  · exact h
theorem erase_word {d : Dev} {x : BitVec 32} {a b : Nat} (h : within x (d.word a b) = true) (s : Int) : within x ((d.erase s).1.word a b) = true := by
  unfold Dev.erase
  obtain ⟨-, -, e3, -, -⟩ := goes_same (d.wear s.toNat)
  have hw : (d.wear s.toNat).word = d.word := rfl
  split
  · split
    · exact h
    · split
      · show within x (if a = s.toNat ∧ b < d.nw then d.word s.toNat b ||| it (d.wear s.toNat).mask b else (d.wear s.toNat).goes.1.word a b) = true
        split
        · rename_i hab
          rw [← hab.1]
          exact within_orL _ h
        · rw [e3, hw]; exact h
      · show within x (if a = s.toNat ∧ b < d.nw then 4294967295#32 else (d.wear s.toNat).goes.1.word a b) = true
        split
        · exact within_ones x
        · rw [e3, hw]; exact h
  · exact h
theorem progK_succ (d : Dev) (f : Nat) (at_ : Nat → Nat) (ws : Nat → BitVec 32) (k : Nat) : progK d f at_ ws (k + 1) = if (progK d f at_ ws k).2 = 0 then (progK d f at_ ws k).1.program ((f + at_ k / d.nw : Nat) : Int) ((at_ k % d.nw : Nat) : Int) (ws k) else progK d f at_ ws k := rfl
/-- Runs of words, one behind the other. -/
theorem progK_add (d : Dev) (f : Nat) (at_ : Nat → Nat) (ws : Nat → BitVec 32) (n : Nat) (hw : (progK d f at_ ws n).1.nw = d.nw) : ∀ m, progK d f at_ ws (n + m) = if (progK d f at_ ws n).2 = 0 then progK (progK d f at_ ws n).1 f (fun k => at_ (n + k)) (fun k => ws (n + k)) m else progK d f at_ ws n := by
  intro m
  induction m with
  | zero =>
    show progK d f at_ ws n = _
    split
    · rename_i h
      show _ = ((progK d f at_ ws n).1, 0)
      rw [← h]
    · rfl
  | succ m ih =>
    rw [← Nat.add_assoc, progK_succ]
    by_cases h : (progK d f at_ ws n).2 = 0
    · rw [if_pos h] at ih ⊢
      rw [ih, progK_succ, hw]
    · rw [if_neg h] at ih ⊢
      rw [ih, if_neg h]
theorem progK_ext {d : Dev} {f : Nat} {at_ at2 : Nat → Nat} {ws ws2 : Nat → BitVec 32} : ∀ n, (∀ k, k < n → at_ k = at2 k ∧ ws k = ws2 k) → progK d f at_ ws n = progK d f at2 ws2 n := by
  intro n
  induction n with
  | zero => intro _; rfl
  | succ n ih =>
    intro h
    show (if (progK d f at_ ws n).2 = 0 then _ else progK d f at_ ws n) = (if (progK d f at2 ws2 n).2 = 0 then _ else progK d f at2 ws2 n)
    rw [ih (fun k hk => h k (by omega)), (h n (by omega)).1, (h n (by omega)).2]
/-- The reference's numbers. -/
theorem nn_progK (d : Dev) (f : Nat) (at_ : Nat → Nat) (ws : Nat → BitVec 32) : ∀ n, progK d.nn f at_ ws n = ((progK d f at_ ws n).1.nn, (progK d f at_ ws n).2) := by
  intro n
  induction n with
  | zero => rfl
  | succ n ih =>
    show (if (progK d.nn f at_ ws n).2 = 0 then (progK d.nn f at_ ws n).1.program _ _ _ else progK d.nn f at_ ws n) = _
    rw [ih]
    show _ = ((if (progK d f at_ ws n).2 = 0 then _ else progK d f at_ ws n).1.nn, (if (progK d f at_ ws n).2 = 0 then _ else progK d f at_ ws n).2)
    split
    · rw [nn_program]; rfl
    · rfl
theorem nn_eraseK (d : Dev) (base many : Nat) : ∀ n, eraseK d.nn base many n = ((eraseK d base many n).1.nn, (eraseK d base many n).2) := by
  intro n
  induction n with
  | zero => rfl
  | succ n ih =>
    show (if (eraseK d.nn base many n).2 = 0 then (eraseK d.nn base many n).1.erase _ else eraseK d.nn base many n) = _
    rw [ih]
    show _ = ((if (eraseK d base many n).2 = 0 then _ else eraseK d base many n).1.nn, (if (eraseK d base many n).2 = 0 then _ else eraseK d base many n).2)
    split
    · rw [nn_erase]
    · rfl
end Go.Proofs.Ythpagbfabpfngaa
