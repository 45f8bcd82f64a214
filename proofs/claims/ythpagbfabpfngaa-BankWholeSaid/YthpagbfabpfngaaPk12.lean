/- Several texts in one: BA, BB. -/
import Derived.Test.YthpagbfabpfngaaPk02
import Derived.Test.YthpagbfabpfngaaPk07
import Derived.Test.YthpagbfabpfngaaPk11
/- Where a bank lies; the contracts of bank's Room, head, Void, place, Open. -/
namespace Go.Proofs.Ythpagbfabpfngaa
open Go.RowKit

/-- The cells of a bank, all but the sum; the sum is laid into them. -/
def bankC (q base many : Nat) (op : Bool) (n : Nat) : List Value := [.pointer (some ⟨q, 0, none⟩), .int .i64 base, .int .i64 many, .bool op, .int .i64 n, .int .u32 0, .int .i64 0]
def bankL (q base many : Nat) (op : Bool) (P : List (BitVec 32)) : List Value := putSum (bankC q base many op P.length) 5 (runW ones P) ((4 * P.length : Nat) : Int)
theorem bankL_eq (q base many : Nat) (op : Bool) (P : List (BitVec 32)) : bankL q base many op P = [.pointer (some ⟨q, 0, none⟩), .int .i64 base, .int .i64 many, .bool op, .int .i64 P.length, .int .u32 (w32 (~~~(runW ones P))), .int .i64 ((4 * P.length : Nat) : Int)] := rfl
/-- Where a bank lies, and its device. -/
structure Bk (w : World) (B q S : Nat) (g : Nat → Nat) (d : Dev) (base many : Nat) (op : Bool) (P : List (BitVec 32)) : Prop where
  box : BoxAt w B (bankL q base many op P)
  dev : DevAt w q S g d
  nb : ¬ OwnD q S g d.ns B
  fit : base + many ≤ d.ns ∧ 3 ≤ many ∧ 13 ≤ d.nw
/-- Which blocks are a bank's. -/
def OwnB (B q S : Nat) (g : Nat → Nat) (ns j : Nat) : Prop := j = B ∨ OwnD q S g ns j
section
variable {w w' : World} {B q S : Nat} {g : Nat → Nat} {d : Dev} {base many : Nat} {op : Bool} {P : List (BitVec 32)}
theorem Bk.keep {T : Nat → Prop} (h : Bk w B q S g d base many op P) (c : Ch T w w') (hT : ∀ j, OwnB B q S g d.ns j → ¬ T j) : Bk w' B q S g d base many op P :=
  ⟨h.box.keep c (hT B (.inl rfl)), h.dev.keep c (fun j hj => hT j (.inr hj)), h.nb, h.fit⟩
theorem Bk.new (h : Bk w B q S g d base many op P) (c : Below w.heap.size w w') : Bk w' B q S g d base many op P := h.keep (T := fun _ => False) (Ch.new c) (fun _ _ h => h)
theorem Bk.dn (h : Bk w B q S g d base many op P) (n : Nat) : Bk (w.drewN n) B q S g d base many op P := h.new (below_dn (Below.refl _ _) n)
theorem Bk.lt (h : Bk w B q S g d base many op P) : ∀ j, OwnB B q S g d.ns j → j < w.heap.size := by
  intro j hj
  rcases hj with rfl | hj
  · exact h.box.lt
  · exact h.dev.own_lt j hj
theorem Bk.c0 (h : Bk w B q S g d base many op P) : w.cell? ⟨B, 0, none⟩ = some (.pointer (some ⟨q, 0, none⟩)) := h.box.cell 0 _ rfl
theorem Bk.c1 (h : Bk w B q S g d base many op P) : w.cell? ⟨B, 1, none⟩ = some (.int .i64 base) := h.box.cell 1 _ rfl
theorem Bk.c2 (h : Bk w B q S g d base many op P) : w.cell? ⟨B, 2, none⟩ = some (.int .i64 many) := h.box.cell 2 _ rfl
theorem Bk.c3 (h : Bk w B q S g d base many op P) : w.cell? ⟨B, 3, none⟩ = some (.bool op) := h.box.cell 3 _ rfl
theorem Bk.c4 (h : Bk w B q S g d base many op P) : w.cell? ⟨B, 4, none⟩ = some (.int .i64 P.length) := h.box.cell 4 _ rfl
/-- The device is turned. -/
theorem Bk.dev' {d' : Dev} (h : Bk w B q S g d base many op P) (hd : DevAt w' q S g d') (hs : d'.ns = d.ns ∧ d'.nw = d.nw) (hc : Ch (OwnD q S g d.ns) w w') : Bk w' B q S g d' base many op P :=
  ⟨h.box.keep hc h.nb, hd, by rw [hs.1]; exact h.nb, by rw [hs.1, hs.2]; exact h.fit⟩
/-- Open is turned. -/
theorem Bk.setOp (h : Bk w B q S g d base many op P) (op' : Bool) : Bk (w.setCell ⟨B, 3, none⟩ (.bool op')) B q S g d base many op' P :=
  ⟨h.box.set 3 (.bool op') (by rw [bankL_eq]; simp), h.dev.keep (ch_setK w B 3 _) (fun j hj e => h.nb (by rw [← e]; exact hj)), h.nb, h.fit⟩
end

/-- How many words of data there may be. -/
def roomN (d : Dev) (many : Nat) : Nat := min ((many - 2) * d.nw) 4096
set_option maxHeartbeats 1000000 in
theorem room_any {w : World} {B q S : Nat} {g : Nat → Nat} {d : Dev} {base many : Nat} {op : Bool} {P : List (BitVec 32)} (h : Bk w B q S g d base many op P) :
    Calls Try.prog 14 #[.pointer (some ⟨B, 0, none⟩)] w fun e w' => e = .returned (.int .i64 (roomN d many : Nat)) ∧ ∃ n, w' = w.drewN n := by
  have c0 := h.c0
  have c2 := h.c2
  have HW := fun n => Lib.hid (quietly (words_any (h.dev.drewN n)))
  have hfit := h.fit
  obtain ⟨m, hm⟩ : ∃ m, many = m + 2 := ⟨many - 2, by omega⟩
  have hz := h.dev.zn
  have hle : m * d.nw ≤ 70000 := Nat.le_trans (Nat.mul_le_mul (show m ≤ 64 by omega) hz.2.1) (by decide)
  have hr : roomN d many = min (m * d.nw) 4096 := by unfold roomN; rw [hm]; rfl
  have e1 : (((m + 2 : Nat) : Int) - 2) = (m : Nat) := by omega
  have e2 : (m : Int) * (d.nw : Int) = ((m * d.nw : Nat) : Int) := by push_cast; rfl
  obtain ⟨nw, hnw⟩ : ∃ nw, d.nw = nw := ⟨_, rfl⟩
  rw [hr]
  rw [hnw] at hle e2 HW ⊢
  rw [hm] at c2
  obtain ⟨t, ht⟩ : ∃ t, m * nw = t := ⟨_, rfl⟩
  rw [ht] at hle e2 ⊢
  have hm64 : m ≤ 64 := by omega
  have e3 : IntKind.i64.wrap ((t : Nat) : Int) = (t : Nat) := by rw [IntKind.wrap_i64]; omega
  have e4 : IntKind.i64.wrap ((m : Nat) : Int) = (m : Nat) := by rw [IntKind.wrap_i64]; omega
  have b1 : ((t : Nat) : Int) ≤ 70000 := by omega
  clear h hm hz hr ht hnw hle hfit hm64
  by_cases hl : t ≤ 4096
  · rw [Nat.min_eq_left hl]
    have d1 : ((t : Nat) : Int) ≤ 4096 := by omega
    clear hl
    go_enter Try.func14, Try.ntmps14
    go_wp2
    go_quiet ((go_at_call 41; exact (HW _).out))
    go_wp2
    go_ret
    exact ⟨rfl, _, rfl⟩
  · rw [Nat.min_eq_right (by omega)]
    have d1 : ¬ ((t : Nat) : Int) ≤ 4096 := by omega
    have d2 : (4096 : Int) < ((t : Nat) : Int) := by omega
    clear hl
    go_enter Try.func14, Try.ntmps14
    go_wp2
    go_quiet ((go_at_call 41; exact (HW _).out))
    go_wp2
    go_ret
    exact ⟨rfl, _, rfl⟩
/-- A sector that there is. -/
theorem sectorN_any {w : World} {q S : Nat} {g : Nat → Nat} {d : Dev} (h : DevAt w q S g d) (i : Nat) (hi : i < d.ns) :
    Calls Try.prog 23 #[.pointer (some ⟨q, 0, none⟩), .int .i64 i] w fun e w' => ∃ b cap, e = .returned (.slice (some ⟨b, 0, none⟩) d.nw cap) ∧ w.heap.size ≤ b ∧ Ws w' (some ⟨b, 0, none⟩) b 0 d.nw (d.word i) ∧ d.nw ≤ cap ∧ Below w.heap.size w w' := by
  refine (sector_any h i).mono ?_
  rintro e w' ⟨v, rfl, hv, hb⟩
  have hh : d.has i = true := by unfold Dev.has; simp; omega
  rw [if_pos hh, Int.toNat_natCast] at hv
  obtain ⟨b, cap, rfl, h1, h2⟩ := own_some hv h.zn.2.2.2
  have hcap : d.nw ≤ cap := by
    rcases hv.2 with ⟨e, _⟩ | ⟨g', cap', cur, e, _, _, hc, _⟩
    · cases e
    · injection e with _ _ e; omega
  refine ⟨b, cap, rfl, h1, ⟨fun _ => ⟨rfl, h2⟩, fun k hk => ?_⟩, hcap, hb⟩
  have := hv.cellAt k (by omega)
  rw [Nat.zero_add]
  rw [this]
  unfold rowB Dev.ws
  simp [hk]
set_option maxHeartbeats 1000000 in
set_option maxRecDepth 100000 in
/-- The header's words. -/
theorem bhead_any {w : World} {B q S : Nat} {g : Nat → Nat} {d : Dev} {base many : Nat} {op : Bool} {P : List (BitVec 32)} (h : Bk w B q S g d base many op P) :
    Calls Try.prog 50 #[.pointer (some ⟨B, 0, none⟩)] w fun e w' => ∃ b cap, e = .returned (.slice (some ⟨b, 0, none⟩) d.nw cap) ∧ w.heap.size ≤ b ∧ Ws w' (some ⟨b, 0, none⟩) b 0 d.nw (d.word (base + 1)) ∧ d.nw ≤ cap ∧ Below w.heap.size w w' := by
  have c0 := h.c0
  have c1 := h.c1
  have hf := h.fit
  have hz := h.dev.zn
  have HS := Lib.hid (sectorN_any (h.dn 1).dev (base + 1) (by omega))
  have b0 : (base : Int) ≤ 64 := by omega
  have e1 : ((base + 1 : Nat) : Int) = (base : Int) + 1 := by omega
  rw [e1] at HS
  have HB := Lib.hid (below_dn (Below.refl w.heap.size w) 1)
  clear h hf hz e1
  go_enter Try.func50, Try.ntmps50
  go_wp2
  go_still_tail 9, (by kernel_rfl)
  go_wp2_with (go_at_call 23; refine HS.out.mono ?_; rintro e w1 ⟨b, cap, rfl, h1, h2, h3, h4⟩; have H1 := Lib.hid (And.intro h1 (And.intro h2 (And.intro h3 h4))); clear h1 h2 h3 h4)
  go_ret
  exact ⟨_, _, rfl, H1.out.1, H1.out.2.1, H1.out.2.2.1, HB.out.trans H1.out.2.2.2⟩
/-- Does the bank not count? -/
def voidB (d : Dev) (base : Nat) : Bool := !(d.word base 0 == BitVec.allOnes 32)
set_option maxHeartbeats 1000000 in
set_option maxRecDepth 100000 in
theorem void_any {w : World} {B q S : Nat} {g : Nat → Nat} {d : Dev} {base many : Nat} {op : Bool} {P : List (BitVec 32)} (h : Bk w B q S g d base many op P) :
    Calls Try.prog 15 #[.pointer (some ⟨B, 0, none⟩)] w fun e w' => e = .returned (.bool (voidB d base)) ∧ Below w.heap.size w w' := by
  have c0 := h.c0
  have c1 := h.c1
  have hf := h.fit
  have hz := h.dev.zn
  have HS := Lib.hid (sectorN_any (h.dn 1).dev base (by omega))
  have b0 : (base : Int) ≤ 64 := by omega
  have HB := Lib.hid (below_dn (Below.refl w.heap.size w) 1)
  have hn := ones_nb (d.word base 0)
  have hnw : 0 < d.nw := hz.2.2.2
  obtain ⟨x, hx⟩ : ∃ x, w32 (d.word base 0) = x := ⟨_, rfl⟩
  have HX := Lib.hid hx
  rw [hx] at hn
  have HN := Lib.hid hn
  obtain ⟨nw, hnn⟩ : ∃ nw, nw = d.nw := ⟨_, rfl⟩
  rw [← hnn] at HS hnw
  clear h hf hz hx hn hnn
  go_enter Try.func15, Try.ntmps15
  go_wp2
  go_still_tail 9, (by kernel_rfl)
  go_wp2_with (go_at_call 23; refine HS.out.mono ?_; rintro e w1 ⟨b, cap, rfl, h1, h2, h3, h4⟩; have k0 := h2.cell 0 hnw; rw [HX.out] at k0; have H1 := Lib.hid h4; clear h1 h2 h3 h4)
  go_ret
  exact ⟨by rw [HN.out]; rfl, HB.out.trans H1.out⟩
set_option maxHeartbeats 1000000 in
/-- The sector and the word where a word is. -/
theorem place_any {w : World} {B q S : Nat} {g : Nat → Nat} {d : Dev} {base many : Nat} {op : Bool} {P : List (BitVec 32)} (h : Bk w B q S g d base many op P) (frm at_ : Nat) (h1 : frm ≤ 64) (h2 : at_ ≤ 10000) :
    Calls Try.prog 85 #[.pointer (some ⟨B, 0, none⟩), .int .i64 frm, .int .i64 at_] w fun e w' => e = .returned (.tuple #[.int .i64 ((base + frm + at_ / d.nw : Nat) : Int), .int .i64 ((at_ % d.nw : Nat) : Int)]) ∧ ∃ n, w' = w.drewN n := by
  have c0 := h.c0
  have c1 := h.c1
  have hf := h.fit
  have hz := h.dev.zn
  have HW := fun n => Lib.hid (quietly (words_any (h.dev.drewN n)))
  obtain ⟨nw, hnn⟩ : ∃ nw, d.nw = nw := ⟨_, rfl⟩
  rw [hnn] at HW hz ⊢
  have hdv : at_ / nw ≤ 10000 := Nat.le_trans (Nat.div_le_self _ _) h2
  have e1 : (at_ : Int) / (nw : Int) = ((at_ / nw : Nat) : Int) := by push_cast; rfl
  have e2 : (at_ : Int) % (nw : Int) = ((at_ % nw : Nat) : Int) := by push_cast; rfl
  have b0 : (0 : Int) ≤ (at_ : Int) := by omega
  have b1 : (1 : Int) ≤ (nw : Int) := by omega
  have b2 : ¬ (nw : Int) = 0 := by omega
  obtain ⟨x, hx⟩ : ∃ x, at_ / nw = x := ⟨_, rfl⟩
  obtain ⟨y, hy⟩ : ∃ y, at_ % nw = y := ⟨_, rfl⟩
  rw [hx] at e1 hdv ⊢
  rw [hy] at e2 ⊢
  have f1 : IntKind.i64.wrap ((base : Int) + (frm : Int)) = (base : Int) + frm := by rw [IntKind.wrap_i64]; omega
  have f2 : IntKind.i64.wrap ((base : Int) + (frm : Int) + (x : Int)) = (base : Int) + frm + x := by rw [IntKind.wrap_i64]; omega
  have f3 : IntKind.i64.wrap (x : Int) = (x : Int) := by rw [IntKind.wrap_i64]; omega
  clear h hf hz hnn hx hy hdv h1 h2
  go_enter Try.func85, Try.ntmps85
  go_wp2
  go_quiet ((go_at_call 41; exact (HW _).out))
  go_wp2
  rw [← e2]
  go_ret2
  exact ⟨by push_cast; rfl, _, rfl⟩
end Go.Proofs.Ythpagbfabpfngaa
/- The contract of bank's State. -/
namespace Go.Proofs.Ythpagbfabpfngaa
open Go.RowKit

/-- Is the bank's state valid? -/
def stOK (d : Dev) (base many : Nat) : Bool := validH (d.word (base + 1)) && (!voidB d base && decide ((d.word (base + 1) 2).toNat ≤ roomN d many))
/-- A bank's state. -/
def stV (d : Dev) (base many : Nat) : Array Value :=
  if stOK d base many then #[.int .u32 (w32 (d.word (base + 1) 0)), .int .u32 (w32 (d.word (base + 1) 2)), .int .u32 (w32 (d.word (base + 1) 4)), .bool true, .bool (confH (d.word (base + 1))), .int .i64 (trC (d.word (base + 1)) 3 : Nat)]
  else #[.int .u32 0, .int .u32 0, .int .u32 0, .bool false, .bool false, .int .i64 (trC (d.word (base + 1)) 3 : Nat)]
theorem stV_raw (d : Dev) (base many : Nat) (hv : voidB d base = false) (hl : (headH (d.word (base + 1)) 2).toNat ≤ roomN d many) :
    #[.int .u32 (w32 (headH (d.word (base + 1)) 0)), .int .u32 (w32 (headH (d.word (base + 1)) 2)), .int .u32 (w32 (headH (d.word (base + 1)) 4)), .bool (validH (d.word (base + 1))), .bool (confH (d.word (base + 1))), .int .i64 (trC (d.word (base + 1)) 3 : Nat)] = stV d base many := by
  unfold stV stOK
  cases h : validH (d.word (base + 1)) with
  | true =>
    unfold headH at hl ⊢
    rw [h] at hl ⊢
    simp only [if_true] at hl ⊢
    rw [hv, decide_eq_true hl]
    rfl
  | false =>
    unfold headH confH
    rw [h]
    rfl
theorem stV_bad (d : Dev) (base many : Nat) (h : voidB d base = true ∨ ¬ (headH (d.word (base + 1)) 2).toNat ≤ roomN d many) :
    #[.int .u32 0, .int .u32 0, .int .u32 0, .bool false, .bool false, .int .i64 (trC (d.word (base + 1)) 3 : Nat)] = stV d base many := by
  unfold stV stOK
  rcases h with h | h
  · rw [h]; simp
  · cases hv : validH (d.word (base + 1)) with
    | true =>
      unfold headH at h
      rw [hv] at h
      simp only [if_true] at h
      rw [decide_eq_false h]; simp
    | false => rfl
set_option maxHeartbeats 4000000 in
set_option maxRecDepth 100000 in
theorem state_any {w : World} {B q S : Nat} {g : Nat → Nat} {d : Dev} {base many : Nat} {op : Bool} {P : List (BitVec 32)} (h : Bk w B q S g d base many op P) :
    Calls Try.prog 16 #[.pointer (some ⟨B, 0, none⟩)] w fun e w' => e = .returned (.agg (stV d base many)) ∧ Below w.heap.size w w' := by
  obtain ⟨r, hr⟩ : ∃ r, r = w.heap.size := ⟨_, rfl⟩
  obtain ⟨w0, hw0⟩ : ∃ w0, w0 = w.alloc (.cells #[.int .u32 0, .int .u32 0, .int .u32 0, .bool false, .bool false, .int .i64 0] 47) := ⟨_, rfl⟩
  have b0 : Below w.heap.size w w0 := by rw [hw0]; exact (Below.refl _ _).alloc (Nat.le_refl _) _
  have x0 : RowAt w0 r 47 #[.int .u32 0, .int .u32 0, .int .u32 0, .bool false, .bool false, .int .i64 0] := by rw [hw0, hr]; exact RowAt.mk w _ _
  have hnw : 13 ≤ d.nw := h.fit.2.2
  have hz := h.dev.zn
  have HD := Lib.hid (bhead_any (h.new b0))
  have HRd := Lib.hid (fun (wx : World) (b cap : Nat) (hw : Ws wx (some ⟨b, 0, none⟩) b 0 d.nw (d.word (base + 1))) => hread_any d.nw b 0 cap _ _ wx (by omega) hw (d.word (base + 1)) (fun i hi => by unfold atW; rw [if_pos (by omega)]))
  have HB := Lib.hid (fun (wx : World) (hb : Below w.heap.size w wx) => (h.new hb))
  have HX0 := Lib.hid (show ∀ wx, Below w0.heap.size w0 wx → RowAt wx r 47 #[.int .u32 0, .int .u32 0, .int .u32 0, .bool false, .bool false, .int .i64 0] ∧ r < wx.heap.size from fun wx hb => ⟨x0.new hb, Nat.lt_of_lt_of_le x0.lt hb.size⟩)
  have H0 := Lib.hid (And.intro b0 (And.intro x0 hr))
  have hL : (headH (d.word (base + 1)) 2).toNat < 4294967296 := (headH (d.word (base + 1)) 2).isLt
  have hrm : roomN d many ≤ 4096 := by unfold roomN; omega
  have HV1 := Lib.hid (stV_raw d base many)
  have HV2 := Lib.hid (stV_bad d base many)
  obtain ⟨rm, hrr⟩ : ∃ rm, roomN d many = rm := ⟨_, rfl⟩
  have HRm := Lib.hid (fun (wx : World) (hb : Bk wx B q S g d base many op P) => (by have := room_any hb; rw [hrr] at this; exact this : Calls Try.prog 14 #[.pointer (some ⟨B, 0, none⟩)] wx fun e w' => e = .returned (.int .i64 (rm : Nat)) ∧ ∃ n, w' = wx.drewN n))
  have HVd := Lib.hid (fun (wx : World) (hb : Bk wx B q S g d base many op P) => void_any hb)
  rw [hrr] at HV1 HV2 hrm
  obtain ⟨vb, hvb⟩ : ∃ vb, voidB d base = vb := ⟨_, rfl⟩
  rw [hvb] at HV1 HV2 HVd
  obtain ⟨x, hx⟩ : ∃ x, headH (d.word (base + 1)) 2 = x := ⟨_, rfl⟩
  rw [hx] at HV1 HV2 hL
  simp only [hx] at HRd
  obtain ⟨R, hR⟩ : ∃ R, stV d base many = R := ⟨_, rfl⟩
  rw [hR] at HV1 HV2 ⊢
  rw [← hr]
  clear h b0 x0 hz hrr hvb hx hR hnw
  go_enter Try.func16, Try.ntmps16
  go_upto_region 1 with fail
  rw [← hw0, ← hr]
  have HR0 := Lib.hid hr
  clear hw0 hr
  go_wp2_with (first
    | (go_at_call 50; refine HD.out.mono ?_; rintro e w1 ⟨b, cap, rfl, h1, h2, h3, h4⟩; have H1 := Lib.hid (And.intro h2 h4); clear h1 h2 h3 h4)
    | (go_at_call 49; refine (HRd.out _ _ _ H1.out.1).mono ?_; rintro e w2 ⟨rfl, h4⟩; have H2 := Lib.hid (H1.out.2.trans (h4.mono H1.out.2.size)); clear h4)
    | fail)
  obtain ⟨z, hz⟩ : ∃ z, z = w2.heap.size := ⟨_, rfl⟩
  obtain ⟨w3, hw3⟩ : ∃ w3, w3 = w2.alloc (.cells #[.int .u32 (w32 (headH (d.word (base + 1)) 0)), .int .u32 (w32 x), .int .u32 (w32 (headH (d.word (base + 1)) 4)), .bool (validH (d.word (base + 1))), .bool (confH (d.word (base + 1))), .int .i64 (trC (d.word (base + 1)) 3 : Nat)] 47) := ⟨_, rfl⟩
  have H3 := Lib.hid (show Below w.heap.size w w3 ∧ RowAt w3 z 47 #[.int .u32 (w32 (headH (d.word (base + 1)) 0)), .int .u32 (w32 x), .int .u32 (w32 (headH (d.word (base + 1)) 4)), .bool (validH (d.word (base + 1))), .bool (confH (d.word (base + 1))), .int .i64 (trC (d.word (base + 1)) 3 : Nat)] ∧ RowAt w3 r 47 #[.int .u32 0, .int .u32 0, .int .u32 0, .bool false, .bool false, .int .i64 0] ∧ r < z ∧ z < w3.heap.size from by
    have b3 : Below w2.heap.size w2 w3 := by rw [hw3]; exact (Below.refl _ _).alloc (Nat.le_refl _) _
    have hb0 := H2.out.trans (b3.mono H2.out.size)
    have hb : Below w.heap.size w w3 := H0.out.1.trans (hb0.mono H0.out.1.size)
    have x3 : RowAt w3 z 47 #[.int .u32 (w32 (headH (d.word (base + 1)) 0)), .int .u32 (w32 x), .int .u32 (w32 (headH (d.word (base + 1)) 4)), .bool (validH (d.word (base + 1))), .bool (confH (d.word (base + 1))), .int .i64 (trC (d.word (base + 1)) 3 : Nat)] := by rw [hw3, hz]; exact RowAt.mk w2 _ _
    have hrz : r < z := by rw [hz]; exact (HX0.out w2 H2.out).2
    exact ⟨hb, x3, (HX0.out w3 hb0).1, hrz, x3.lt⟩)
  rw [← hw3, ← hz]
  clear hw3 hz
  have l1 : w3.cell? ⟨z, 1, none⟩ = some (.int .u32 (w32 x)) := H3.out.2.1.cell 1
  cases vb with
  | true =>
    refine wp_region_held_drew (S := fun w' => True) (by kernel_rfl) trivial (fun hS => ?_)
    refine wpAnyH_take (i := 0) (oi := { dst := some 7, op := .move (.tmp 0), type := 35, pos := "bank.go:62", after := #[], guard := none }) (v := ?_) rfl (by kernel_rfl) (by kernel_rfl) (by kernel_rfl) (fun _ _ _ h => h) (Or.inl ⟨by rfl, ?_⟩) hS ?_
    rotate_left 1
    · intro w hw; obtain _ := hw; go_simp; try (with_reducible rfl)
    simp only [Act.put, List.setIfInBounds_toArray, List.set_cons_zero, List.set_cons_succ]
    refine wpAnyH_ready (rs := [1]) (by kernel_rfl) (by simp) (AllReadyH.cons (o := { dst := some 8, op := .call { callee := .value (.func 15), args := #[.tmp 7], argTypes := #[35] }, type := 4, pos := "bank.go:62", after := #[{ on := 0, ground := .data }], guard := none }) rfl (fun K hK => ?_) AllReadyH.nil)
    go_simp
    go_at_call 15
    refine (HVd.out _ (HB.out _ (below_dn H3.out.1 1))).mono ?_
    rintro e w4 ⟨rfl, b4⟩
    have b34 : Below w3.heap.size w3 w4 := (below_dn (Below.refl _ _) 1).trans b4
    have H4 := Lib.hid (And.intro (H3.out.1.trans (b34.mono H3.out.1.size)) (And.intro (H3.out.2.1.new b34) (H3.out.2.2.1.new b34)))
    have t4 : w4.cell? ⟨z, 5, none⟩ = some (.int .i64 (trC (d.word (base + 1)) 3 : Nat)) := H4.out.2.1.cell 5
    clear b4 b34
    try dsimp only
    refine hK.out _ _ hS (fun hHeld => ?_)
    clear hK K
    try simp only [Act.put, List.setIfInBounds_toArray, List.set_cons_zero, List.set_cons_succ]
    refine wpAnyH_take (i := 2) (oi := { dst := some 9, op := .move (.tmp 8), type := 4, pos := "bank.go:62", after := #[{ on := 1, ground := .data }, { on := 1, ground := .chain }], guard := none }) (v := ?_) rfl (by kernel_rfl) (by kernel_rfl) (by kernel_rfl) (fun _ _ _ h => h) (Or.inl ⟨by rfl, ?_⟩) hS ?_
    rotate_left 1
    · intro w hw; obtain _ := hw; go_simp; try (with_reducible rfl)
    simp only [Act.put, List.setIfInBounds_toArray, List.set_cons_zero, List.set_cons_succ]
    refine wpAnyH_take (i := 3) (oi := { dst := some 10, op := .fieldAddr 47 (.tmp 3) 0, type := 0, pos := "bank.go:62", after := #[{ on := 2, ground := .guard }], guard := some (2, false) }) (v := undef) rfl (by kernel_rfl) (by kernel_rfl) (by kernel_rfl) (fun _ _ _ h => h) (Or.inr ⟨by rfl, rfl⟩) hS ?_
    simp only [Act.put, List.setIfInBounds_toArray, List.set_cons_zero, List.set_cons_succ]
    refine wpAnyH_take (i := 4) (oi := { dst := some 11, op := .fieldAddr 45 (.tmp 10) 1, type := 0, pos := "bank.go:62", after := #[{ on := 3, ground := .data }, { on := 2, ground := .guard }], guard := some (2, false) }) (v := undef) rfl (by kernel_rfl) (by kernel_rfl) (by kernel_rfl) (fun _ _ _ h => h) (Or.inr ⟨by rfl, rfl⟩) hS ?_
    simp only [Act.put, List.setIfInBounds_toArray, List.set_cons_zero, List.set_cons_succ]
    refine wpAnyH_take (i := 5) (oi := { dst := some 12, op := .load 26 (.tmp 11), type := 26, pos := "bank.go:62", after := #[{ on := 4, ground := .data }, { on := 2, ground := .guard }], guard := some (2, false) }) (v := undef) rfl (by kernel_rfl) (by kernel_rfl) (by kernel_rfl) (fun _ _ _ h => h) (Or.inr ⟨by rfl, rfl⟩) hS ?_
    simp only [Act.put, List.setIfInBounds_toArray, List.set_cons_zero, List.set_cons_succ]
    refine wpAnyH_take (i := 6) (oi := { dst := some 13, op := .move (.tmp 0), type := 35, pos := "bank.go:62", after := #[{ on := 2, ground := .guard }], guard := some (2, false) }) (v := undef) rfl (by kernel_rfl) (by kernel_rfl) (by kernel_rfl) (fun _ _ _ h => h) (Or.inr ⟨by rfl, rfl⟩) hS ?_
    simp only [Act.put, List.setIfInBounds_toArray, List.set_cons_zero, List.set_cons_succ]
    refine wpAnyH_take (i := 7) (oi := { dst := some 14, op := .call { callee := .value (.func 14), args := #[.tmp 13], argTypes := #[35] }, type := 3, pos := "bank.go:62", after := #[{ on := 6, ground := .data }, { on := 2, ground := .chain }, { on := 2, ground := .guard }], guard := some (2, false) }) (v := undef) rfl (by kernel_rfl) (by kernel_rfl) (by kernel_rfl) (fun _ _ _ h => h) (Or.inr ⟨by rfl, rfl⟩) hS ?_
    simp only [Act.put, List.setIfInBounds_toArray, List.set_cons_zero, List.set_cons_succ]
    refine wpAnyH_take (i := 8) (oi := { dst := some 15, op := .convert 3 26 (.tmp 14), type := 26, pos := "bank.go:62", after := #[{ on := 7, ground := .data }, { on := 2, ground := .guard }], guard := some (2, false) }) (v := undef) rfl (by kernel_rfl) (by kernel_rfl) (by kernel_rfl) (fun _ _ _ h => h) (Or.inr ⟨by rfl, rfl⟩) hS ?_
    simp only [Act.put, List.setIfInBounds_toArray, List.set_cons_zero, List.set_cons_succ]
    refine wpAnyH_take (i := 9) (oi := { dst := some 16, op := .binOp .gtr 26 (.tmp 12) (.tmp 15) 26, type := 4, pos := "bank.go:62", after := #[{ on := 5, ground := .data }, { on := 8, ground := .data }, { on := 2, ground := .guard }], guard := some (2, false) }) (v := undef) rfl (by kernel_rfl) (by kernel_rfl) (by kernel_rfl) (fun _ _ _ h => h) (Or.inr ⟨by rfl, rfl⟩) hS ?_
    simp only [Act.put, List.setIfInBounds_toArray, List.set_cons_zero, List.set_cons_succ]
    refine wpAnyH_take (i := 10) (oi := { dst := some 17, op := .pick (.tmp 9) (.const (.bool true)) (.tmp 16), type := 4, pos := "bank.go:62", after := #[{ on := 2, ground := .data }, { on := 9, ground := .data }], guard := none }) (v := ?_) rfl (by kernel_rfl) (by kernel_rfl) (by kernel_rfl) (fun _ _ _ h => h) (Or.inl ⟨by rfl, ?_⟩) hS ?_
    rotate_left 1
    · intro w hw; obtain _ := hw; go_simp; try (with_reducible rfl)
    simp only [Act.put, List.setIfInBounds_toArray, List.set_cons_zero, List.set_cons_succ]
    refine wpAnyH_done (by kernel_rfl) ?_ _

    go_wp2_with (refine wpList_store_row rfl 47 (.tmp 2) (.tmp 20) rfl r #[.int .u32 0, .int .u32 0, .int .u32 0, .bool false, .bool false, .int .i64 (trC (d.word (base + 1)) 3 : Nat)] rfl rfl 47 _ H4.out.2.2 (by kernel_rfl) rfl (state_one _ _ _ _ _ _) ?_)
    refine bodyPost_ret (results_cell_row rfl _ _ r 47 #[.int .u32 0, .int .u32 0, .int .u32 0, .bool false, .bool false, .int .i64 (trC (d.word (base + 1)) 3 : Nat)] (0, 0) _ rfl (RowAt.put H4.out.2.2) Try.underlying47 rfl (by kernel_rfl)) rfl ?_
    exact ⟨by rw [HV2.out (.inl (by trivial))], by rw [HR0.out]; exact below_setRow H4.out.1 (Nat.le_refl _) _⟩
  | false =>
    by_cases hl : x.toNat ≤ rm
    · have dx : decide ((rm : Int) < w32 x) = false := by unfold w32; simp; omega
      have cv : IntKind.u32.wrap (rm : Int) = (rm : Int) := by rw [IntKind.wrap_u32]; omega
      have HL := Lib.hid hl
      clear hl hL
      refine wp_region_held_drew (S := fun w' => w'.cell? ⟨z, 1, none⟩ = some (.int .u32 (w32 x))) (by kernel_rfl) l1 (fun hS => ?_)
      refine wpAnyH_take (i := 0) (oi := { dst := some 7, op := .move (.tmp 0), type := 35, pos := "bank.go:62", after := #[], guard := none }) (v := ?_) rfl (by kernel_rfl) (by kernel_rfl) (by kernel_rfl) (fun _ _ _ h => h) (Or.inl ⟨by rfl, ?_⟩) hS ?_
      rotate_left 1
      · intro w hw; obtain s0 := hw; go_simp; try (with_reducible rfl)
      simp only [Act.put, List.setIfInBounds_toArray, List.set_cons_zero, List.set_cons_succ]
      refine wpAnyH_ready (rs := [1]) (by kernel_rfl) (by simp) (AllReadyH.cons (o := { dst := some 8, op := .call { callee := .value (.func 15), args := #[.tmp 7], argTypes := #[35] }, type := 4, pos := "bank.go:62", after := #[{ on := 0, ground := .data }], guard := none }) rfl (fun K hK => ?_) AllReadyH.nil)
      go_simp
      go_at_call 15
      refine (HVd.out _ (HB.out _ (below_dn H3.out.1 1))).mono ?_
      rintro e w4 ⟨rfl, b4⟩
      have b34 : Below w3.heap.size w3 w4 := (below_dn (Below.refl _ _) 1).trans b4
      have H4 := Lib.hid (And.intro (H3.out.1.trans (b34.mono H3.out.1.size)) (And.intro (H3.out.2.1.new b34) (H3.out.2.2.1.new b34)))
      have t4 : w4.cell? ⟨z, 5, none⟩ = some (.int .i64 (trC (d.word (base + 1)) 3 : Nat)) := H4.out.2.1.cell 5
      have l4 : w4.cell? ⟨z, 1, none⟩ = some (.int .u32 (w32 x)) := H4.out.2.1.cell 1
      clear b4 b34
      try dsimp only
      refine hK.out _ _ l4 (fun hHeld => ?_)
      clear hK K
      try simp only [Act.put, List.setIfInBounds_toArray, List.set_cons_zero, List.set_cons_succ]
      refine wpAnyH_take (i := 2) (oi := { dst := some 9, op := .move (.tmp 8), type := 4, pos := "bank.go:62", after := #[{ on := 1, ground := .data }, { on := 1, ground := .chain }], guard := none }) (v := ?_) rfl (by kernel_rfl) (by kernel_rfl) (by kernel_rfl) (fun _ _ _ h => h) (Or.inl ⟨by rfl, ?_⟩) l4 ?_
      rotate_left 1
      · intro w hw; obtain s0 := hw; go_simp; try (with_reducible rfl)
      simp only [Act.put, List.setIfInBounds_toArray, List.set_cons_zero, List.set_cons_succ]
      refine wpAnyH_take (i := 3) (oi := { dst := some 10, op := .fieldAddr 47 (.tmp 3) 0, type := 0, pos := "bank.go:62", after := #[{ on := 2, ground := .guard }], guard := some (2, false) }) (v := ?_) rfl (by kernel_rfl) (by kernel_rfl) (by kernel_rfl) (fun _ _ _ h => h) (Or.inl ⟨by rfl, ?_⟩) l4 ?_
      rotate_left 1
      · intro w hw; obtain s0 := hw; go_simp; try (with_reducible rfl)
      simp only [Act.put, List.setIfInBounds_toArray, List.set_cons_zero, List.set_cons_succ]
      refine wpAnyH_take (i := 4) (oi := { dst := some 11, op := .fieldAddr 45 (.tmp 10) 1, type := 0, pos := "bank.go:62", after := #[{ on := 3, ground := .data }, { on := 2, ground := .guard }], guard := some (2, false) }) (v := ?_) rfl (by kernel_rfl) (by kernel_rfl) (by kernel_rfl) (fun _ _ _ h => h) (Or.inl ⟨by rfl, ?_⟩) l4 ?_
      rotate_left 1
      · intro w hw; obtain s0 := hw; go_simp; try (with_reducible rfl)
      simp only [Act.put, List.setIfInBounds_toArray, List.set_cons_zero, List.set_cons_succ]
      refine wpAnyH_take (i := 5) (oi := { dst := some 12, op := .load 26 (.tmp 11), type := 26, pos := "bank.go:62", after := #[{ on := 4, ground := .data }, { on := 2, ground := .guard }], guard := some (2, false) }) (v := ?_) rfl (by kernel_rfl) (by kernel_rfl) (by kernel_rfl) (fun _ _ _ h => h) (Or.inl ⟨by rfl, ?_⟩) l4 ?_
      rotate_left 1
      · intro w hw; obtain s0 := hw; go_simp; try (with_reducible rfl)
      simp only [Act.put, List.setIfInBounds_toArray, List.set_cons_zero, List.set_cons_succ]
      refine wpAnyH_take (i := 6) (oi := { dst := some 13, op := .move (.tmp 0), type := 35, pos := "bank.go:62", after := #[{ on := 2, ground := .guard }], guard := some (2, false) }) (v := ?_) rfl (by kernel_rfl) (by kernel_rfl) (by kernel_rfl) (fun _ _ _ h => h) (Or.inl ⟨by rfl, ?_⟩) l4 ?_
      rotate_left 1
      · intro w hw; obtain s0 := hw; go_simp; try (with_reducible rfl)
      simp only [Act.put, List.setIfInBounds_toArray, List.set_cons_zero, List.set_cons_succ]
      refine wpAnyH_ready (rs := [7]) (by kernel_rfl) (by simp) (AllReadyH.cons (o := { dst := some 14, op := .call { callee := .value (.func 14), args := #[.tmp 13], argTypes := #[35] }, type := 3, pos := "bank.go:62", after := #[{ on := 6, ground := .data }, { on := 2, ground := .chain }, { on := 2, ground := .guard }], guard := some (2, false) }) rfl (fun K hK => ?_) AllReadyH.nil)
      go_simp
      go_at_call 14
      refine (HRm.out _ (HB.out _ H4.out.1)).mono ?_
      rintro e w5 ⟨rfl, n5, rfl⟩
      have l5 : (w4.drewN n5).cell? ⟨z, 1, none⟩ = some (.int .u32 (w32 x)) := l4
      try dsimp only
      refine hK.out _ _ l5 (fun hHeld => ?_)
      clear hK K
      try simp only [Act.put, List.setIfInBounds_toArray, List.set_cons_zero, List.set_cons_succ]
      refine wpAnyH_take (i := 8) (oi := { dst := some 15, op := .convert 3 26 (.tmp 14), type := 26, pos := "bank.go:62", after := #[{ on := 7, ground := .data }, { on := 2, ground := .guard }], guard := some (2, false) }) (v := ?_) rfl (by kernel_rfl) (by kernel_rfl) (by kernel_rfl) (fun _ _ _ h => h) (Or.inl ⟨by rfl, ?_⟩) l5 ?_
      rotate_left 1
      · intro w hw; obtain s0 := hw; go_simp; try (with_reducible rfl)
      simp only [Act.put, List.setIfInBounds_toArray, List.set_cons_zero, List.set_cons_succ]
      refine wpAnyH_take (i := 9) (oi := { dst := some 16, op := .binOp .gtr 26 (.tmp 12) (.tmp 15) 26, type := 4, pos := "bank.go:62", after := #[{ on := 5, ground := .data }, { on := 8, ground := .data }, { on := 2, ground := .guard }], guard := some (2, false) }) (v := ?_) rfl (by kernel_rfl) (by kernel_rfl) (by kernel_rfl) (fun _ _ _ h => h) (Or.inl ⟨by rfl, ?_⟩) l5 ?_
      rotate_left 1
      · intro w hw; obtain s0 := hw; go_simp; try (with_reducible rfl)
      simp only [Act.put, List.setIfInBounds_toArray, List.set_cons_zero, List.set_cons_succ]
      refine wpAnyH_take (i := 10) (oi := { dst := some 17, op := .pick (.tmp 9) (.const (.bool true)) (.tmp 16), type := 4, pos := "bank.go:62", after := #[{ on := 2, ground := .data }, { on := 9, ground := .data }], guard := none }) (v := ?_) rfl (by kernel_rfl) (by kernel_rfl) (by kernel_rfl) (fun _ _ _ h => h) (Or.inl ⟨by rfl, ?_⟩) l5 ?_
      rotate_left 1
      · intro w hw; obtain s0 := hw; go_simp; try (with_reducible rfl)
      simp only [Act.put, List.setIfInBounds_toArray, List.set_cons_zero, List.set_cons_succ]
      refine wpAnyH_done (by kernel_rfl) ?_ _

      go_wp2_with (first
        | (refine wpList_load_row rfl 47 (.tmp 3) rfl z rfl 47 #[.int .u32 (w32 (headH (d.word (base + 1)) 0)), .int .u32 (w32 x), .int .u32 (w32 (headH (d.word (base + 1)) 4)), .bool (validH (d.word (base + 1))), .bool (confH (d.word (base + 1))), .int .i64 (trC (d.word (base + 1)) 3 : Nat)] (0, 0) _ (H4.out.2.1.new (below_dn (Below.refl _ _) n5)) Try.underlying47 rfl (by kernel_rfl) ?_)
        | (refine wpList_store_row rfl 47 (.tmp 2) (.tmp 21) rfl r #[.int .u32 (w32 (headH (d.word (base + 1)) 0)), .int .u32 (w32 x), .int .u32 (w32 (headH (d.word (base + 1)) 4)), .bool (validH (d.word (base + 1))), .bool (confH (d.word (base + 1))), .int .i64 (trC (d.word (base + 1)) 3 : Nat)] rfl rfl 47 _ (H4.out.2.2.new (below_dn (Below.refl _ _) n5)) (by kernel_rfl) rfl (state_one _ _ _ _ _ _) ?_)
        | fail)
      refine bodyPost_ret (results_cell_row rfl _ _ r 47 #[.int .u32 (w32 (headH (d.word (base + 1)) 0)), .int .u32 (w32 x), .int .u32 (w32 (headH (d.word (base + 1)) 4)), .bool (validH (d.word (base + 1))), .bool (confH (d.word (base + 1))), .int .i64 (trC (d.word (base + 1)) 3 : Nat)] (0, 0) _ rfl (RowAt.put (H4.out.2.2.new (below_dn (Below.refl _ _) n5))) Try.underlying47 rfl (by kernel_rfl)) rfl ?_
      exact ⟨by rw [← HV1.out (by trivial) HL.out], by rw [HR0.out]; exact below_setRow (below_dn H4.out.1 n5) (Nat.le_refl _) _⟩
    · have dx : decide ((rm : Int) < w32 x) = true := by unfold w32; simp; omega
      have cv : IntKind.u32.wrap (rm : Int) = (rm : Int) := by rw [IntKind.wrap_u32]; omega
      have HNL := Lib.hid hl
      clear hl hL
      refine wp_region_held_drew (S := fun w' => w'.cell? ⟨z, 1, none⟩ = some (.int .u32 (w32 x))) (by kernel_rfl) l1 (fun hS => ?_)
      refine wpAnyH_take (i := 0) (oi := { dst := some 7, op := .move (.tmp 0), type := 35, pos := "bank.go:62", after := #[], guard := none }) (v := ?_) rfl (by kernel_rfl) (by kernel_rfl) (by kernel_rfl) (fun _ _ _ h => h) (Or.inl ⟨by rfl, ?_⟩) hS ?_
      rotate_left 1
      · intro w hw; obtain s0 := hw; go_simp; try (with_reducible rfl)
      simp only [Act.put, List.setIfInBounds_toArray, List.set_cons_zero, List.set_cons_succ]
      refine wpAnyH_ready (rs := [1]) (by kernel_rfl) (by simp) (AllReadyH.cons (o := { dst := some 8, op := .call { callee := .value (.func 15), args := #[.tmp 7], argTypes := #[35] }, type := 4, pos := "bank.go:62", after := #[{ on := 0, ground := .data }], guard := none }) rfl (fun K hK => ?_) AllReadyH.nil)
      go_simp
      go_at_call 15
      refine (HVd.out _ (HB.out _ (below_dn H3.out.1 1))).mono ?_
      rintro e w4 ⟨rfl, b4⟩
      have b34 : Below w3.heap.size w3 w4 := (below_dn (Below.refl _ _) 1).trans b4
      have H4 := Lib.hid (And.intro (H3.out.1.trans (b34.mono H3.out.1.size)) (And.intro (H3.out.2.1.new b34) (H3.out.2.2.1.new b34)))
      have t4 : w4.cell? ⟨z, 5, none⟩ = some (.int .i64 (trC (d.word (base + 1)) 3 : Nat)) := H4.out.2.1.cell 5
      have l4 : w4.cell? ⟨z, 1, none⟩ = some (.int .u32 (w32 x)) := H4.out.2.1.cell 1
      clear b4 b34
      try dsimp only
      refine hK.out _ _ l4 (fun hHeld => ?_)
      clear hK K
      try simp only [Act.put, List.setIfInBounds_toArray, List.set_cons_zero, List.set_cons_succ]
      refine wpAnyH_take (i := 2) (oi := { dst := some 9, op := .move (.tmp 8), type := 4, pos := "bank.go:62", after := #[{ on := 1, ground := .data }, { on := 1, ground := .chain }], guard := none }) (v := ?_) rfl (by kernel_rfl) (by kernel_rfl) (by kernel_rfl) (fun _ _ _ h => h) (Or.inl ⟨by rfl, ?_⟩) l4 ?_
      rotate_left 1
      · intro w hw; obtain s0 := hw; go_simp; try (with_reducible rfl)
      simp only [Act.put, List.setIfInBounds_toArray, List.set_cons_zero, List.set_cons_succ]
      refine wpAnyH_take (i := 3) (oi := { dst := some 10, op := .fieldAddr 47 (.tmp 3) 0, type := 0, pos := "bank.go:62", after := #[{ on := 2, ground := .guard }], guard := some (2, false) }) (v := ?_) rfl (by kernel_rfl) (by kernel_rfl) (by kernel_rfl) (fun _ _ _ h => h) (Or.inl ⟨by rfl, ?_⟩) l4 ?_
      rotate_left 1
      · intro w hw; obtain s0 := hw; go_simp; try (with_reducible rfl)
      simp only [Act.put, List.setIfInBounds_toArray, List.set_cons_zero, List.set_cons_succ]
      refine wpAnyH_take (i := 4) (oi := { dst := some 11, op := .fieldAddr 45 (.tmp 10) 1, type := 0, pos := "bank.go:62", after := #[{ on := 3, ground := .data }, { on := 2, ground := .guard }], guard := some (2, false) }) (v := ?_) rfl (by kernel_rfl) (by kernel_rfl) (by kernel_rfl) (fun _ _ _ h => h) (Or.inl ⟨by rfl, ?_⟩) l4 ?_
      rotate_left 1
      · intro w hw; obtain s0 := hw; go_simp; try (with_reducible rfl)
      simp only [Act.put, List.setIfInBounds_toArray, List.set_cons_zero, List.set_cons_succ]
      refine wpAnyH_take (i := 5) (oi := { dst := some 12, op := .load 26 (.tmp 11), type := 26, pos := "bank.go:62", after := #[{ on := 4, ground := .data }, { on := 2, ground := .guard }], guard := some (2, false) }) (v := ?_) rfl (by kernel_rfl) (by kernel_rfl) (by kernel_rfl) (fun _ _ _ h => h) (Or.inl ⟨by rfl, ?_⟩) l4 ?_
      rotate_left 1
      · intro w hw; obtain s0 := hw; go_simp; try (with_reducible rfl)
      simp only [Act.put, List.setIfInBounds_toArray, List.set_cons_zero, List.set_cons_succ]
      refine wpAnyH_take (i := 6) (oi := { dst := some 13, op := .move (.tmp 0), type := 35, pos := "bank.go:62", after := #[{ on := 2, ground := .guard }], guard := some (2, false) }) (v := ?_) rfl (by kernel_rfl) (by kernel_rfl) (by kernel_rfl) (fun _ _ _ h => h) (Or.inl ⟨by rfl, ?_⟩) l4 ?_
      rotate_left 1
      · intro w hw; obtain s0 := hw; go_simp; try (with_reducible rfl)
      simp only [Act.put, List.setIfInBounds_toArray, List.set_cons_zero, List.set_cons_succ]
      refine wpAnyH_ready (rs := [7]) (by kernel_rfl) (by simp) (AllReadyH.cons (o := { dst := some 14, op := .call { callee := .value (.func 14), args := #[.tmp 13], argTypes := #[35] }, type := 3, pos := "bank.go:62", after := #[{ on := 6, ground := .data }, { on := 2, ground := .chain }, { on := 2, ground := .guard }], guard := some (2, false) }) rfl (fun K hK => ?_) AllReadyH.nil)
      go_simp
      go_at_call 14
      refine (HRm.out _ (HB.out _ H4.out.1)).mono ?_
      rintro e w5 ⟨rfl, n5, rfl⟩
      have l5 : (w4.drewN n5).cell? ⟨z, 1, none⟩ = some (.int .u32 (w32 x)) := l4
      try dsimp only
      refine hK.out _ _ l5 (fun hHeld => ?_)
      clear hK K
      try simp only [Act.put, List.setIfInBounds_toArray, List.set_cons_zero, List.set_cons_succ]
      refine wpAnyH_take (i := 8) (oi := { dst := some 15, op := .convert 3 26 (.tmp 14), type := 26, pos := "bank.go:62", after := #[{ on := 7, ground := .data }, { on := 2, ground := .guard }], guard := some (2, false) }) (v := ?_) rfl (by kernel_rfl) (by kernel_rfl) (by kernel_rfl) (fun _ _ _ h => h) (Or.inl ⟨by rfl, ?_⟩) l5 ?_
      rotate_left 1
      · intro w hw; obtain s0 := hw; go_simp; try (with_reducible rfl)
      simp only [Act.put, List.setIfInBounds_toArray, List.set_cons_zero, List.set_cons_succ]
      refine wpAnyH_take (i := 9) (oi := { dst := some 16, op := .binOp .gtr 26 (.tmp 12) (.tmp 15) 26, type := 4, pos := "bank.go:62", after := #[{ on := 5, ground := .data }, { on := 8, ground := .data }, { on := 2, ground := .guard }], guard := some (2, false) }) (v := ?_) rfl (by kernel_rfl) (by kernel_rfl) (by kernel_rfl) (fun _ _ _ h => h) (Or.inl ⟨by rfl, ?_⟩) l5 ?_
      rotate_left 1
      · intro w hw; obtain s0 := hw; go_simp; try (with_reducible rfl)
      simp only [Act.put, List.setIfInBounds_toArray, List.set_cons_zero, List.set_cons_succ]
      refine wpAnyH_take (i := 10) (oi := { dst := some 17, op := .pick (.tmp 9) (.const (.bool true)) (.tmp 16), type := 4, pos := "bank.go:62", after := #[{ on := 2, ground := .data }, { on := 9, ground := .data }], guard := none }) (v := ?_) rfl (by kernel_rfl) (by kernel_rfl) (by kernel_rfl) (fun _ _ _ h => h) (Or.inl ⟨by rfl, ?_⟩) l5 ?_
      rotate_left 1
      · intro w hw; obtain s0 := hw; go_simp; try (with_reducible rfl)
      simp only [Act.put, List.setIfInBounds_toArray, List.set_cons_zero, List.set_cons_succ]
      refine wpAnyH_done (by kernel_rfl) ?_ _

      go_wp2_with (refine wpList_store_row rfl 47 (.tmp 2) (.tmp 20) rfl r #[.int .u32 0, .int .u32 0, .int .u32 0, .bool false, .bool false, .int .i64 (trC (d.word (base + 1)) 3 : Nat)] rfl rfl 47 _ (H4.out.2.2.new (below_dn (Below.refl _ _) n5)) (by kernel_rfl) rfl (state_one _ _ _ _ _ _) ?_)
      refine bodyPost_ret (results_cell_row rfl _ _ r 47 #[.int .u32 0, .int .u32 0, .int .u32 0, .bool false, .bool false, .int .i64 (trC (d.word (base + 1)) 3 : Nat)] (0, 0) _ rfl (RowAt.put (H4.out.2.2.new (below_dn (Below.refl _ _) n5))) Try.underlying47 rfl (by kernel_rfl)) rfl ?_
      exact ⟨by rw [HV2.out (.inr HNL.out)], by rw [HR0.out]; exact below_setRow (below_dn H4.out.1 n5) (Nat.le_refl _) _⟩
end Go.Proofs.Ythpagbfabpfngaa
