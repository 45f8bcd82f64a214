/- Several texts in one: BA, BB, BC, BD, BE, BF, BG, BH. -/
import Derived.Test.YthpagbfabpfngaaKD
import Derived.Test.YthpagbfabpfngaaGA
import Derived.Test.YthpagbfabpfngaaHM
import Derived.Test.YthpagbfabpfngaaColl
import Derived.Test.YthpagbfabpfngaaVary
import Derived.Test.YthpagbfabpfngaaSi
import Derived.Test.YthpagbfabpfngaaGC
import Derived.Test.YthpagbfabpfngaaFoot2
/- Where a bank lies; the contracts of bank's Room, head, Void, place, Open. -/
namespace Go.Proofs.Ythpagbfabpfngaa
open Go.RowKit

/-- The cells of a bank, all but the sum; the sum is laid into them. -/
def bankC (q base many : Nat) (op : Bool) (n : Nat) : List Value := [.pointer (some ⟨q, 0, none⟩), .int .i64 base, .int .i64 many, .bool op, .int .i64 n, .int .u32 0, .int .i64 0]
def bankL (q base many : Nat) (op : Bool) (P : List (BitVec 32)) : List Value := putSum (bankC q base many op P.length) 5 (runW ones P) ((4 * P.length : Nat) : Int)
theorem bankL_eq (q base many : Nat) (op : Bool) (P : List (BitVec 32)) : bankL q base many op P = [.pointer (some ⟨q, 0, none⟩), .int .i64 base, .int .i64 many, .bool op, .int .i64 P.length, .int .u32 (w32 (~~~(runW ones P))), .int .i64 ((4 * P.length : Nat) : Int)] := rfl
/-- Where a bank lies, and its device. -/
structure Bk (w : World) (B q S : Nat) (g : Nat → Nat) (d : Dev) (base many : Nat) (op : Bool) (P : List (BitVec 32)) : Prop where
  box : BoxAt w B (bankL q base many op P)
  dev : DevAt w q S g d
  nb : ¬ OwnD q S g d.ns B
  fit : base + many ≤ d.ns ∧ 3 ≤ many ∧ 13 ≤ d.nw
/-- Which blocks are a bank's. -/
def OwnB (B q S : Nat) (g : Nat → Nat) (ns j : Nat) : Prop := j = B ∨ OwnD q S g ns j
section
variable {w w' : World} {B q S : Nat} {g : Nat → Nat} {d : Dev} {base many : Nat} {op : Bool} {P : List (BitVec 32)}
theorem Bk.keep {T : Nat → Prop} (h : Bk w B q S g d base many op P) (c : Ch T w w') (hT : ∀ j, OwnB B q S g d.ns j → ¬ T j) : Bk w' B q S g d base many op P :=
  ⟨h.box.keep c (hT B (.inl rfl)), h.dev.keep c (fun j hj => hT j (.inr hj)), h.nb, h.fit⟩
theorem Bk.new (h : Bk w B q S g d base many op P) (c : Below w.heap.size w w') : Bk w' B q S g d base many op P := h.keep (T := fun _ => False) (Ch.new c) (fun _ _ h => h)
theorem Bk.dn (h : Bk w B q S g d base many op P) (n : Nat) : Bk (w.drewN n) B q S g d base many op P := h.new (below_dn (Below.refl _ _) n)
theorem Bk.lt (h : Bk w B q S g d base many op P) : ∀ j, OwnB B q S g d.ns j → j < w.heap.size := by
  intro j hj
  rcases hj with rfl | hj
  · exact h.box.lt
  · exact h.dev.own_lt j hj
theorem Bk.c0 (h : Bk w B q S g d base many op P) : w.cell? ⟨B, 0, none⟩ = some (.pointer (some ⟨q, 0, none⟩)) := h.box.cell 0 _ rfl
theorem Bk.c1 (h : Bk w B q S g d base many op P) : w.cell? ⟨B, 1, none⟩ = some (.int .i64 base) := h.box.cell 1 _ rfl
theorem Bk.c2 (h : Bk w B q S g d base many op P) : w.cell? ⟨B, 2, none⟩ = some (.int .i64 many) := h.box.cell 2 _ rfl
theorem Bk.c3 (h : Bk w B q S g d base many op P) : w.cell? ⟨B, 3, none⟩ = some (.bool op) := h.box.cell 3 _ rfl
theorem Bk.c4 (h : Bk w B q S g d base many op P) : w.cell? ⟨B, 4, none⟩ = some (.int .i64 P.length) := h.box.cell 4 _ rfl
/-- The device is turned. -/
theorem Bk.dev' {d' : Dev} (h : Bk w B q S g d base many op P) (hd : DevAt w' q S g d') (hs : d'.ns = d.ns ∧ d'.nw = d.nw) (hc : Ch (OwnD q S g d.ns) w w') : Bk w' B q S g d' base many op P :=
  ⟨h.box.keep hc h.nb, hd, by rw [hs.1]; exact h.nb, by rw [hs.1, hs.2]; exact h.fit⟩
/-- Open is turned. -/
theorem Bk.setOp (h : Bk w B q S g d base many op P) (op' : Bool) : Bk (w.setCell ⟨B, 3, none⟩ (.bool op')) B q S g d base many op' P :=
  ⟨h.box.set 3 (.bool op') (by rw [bankL_eq]; simp), h.dev.keep (ch_setK w B 3 _) (fun j hj e => h.nb (by rw [← e]; exact hj)), h.nb, h.fit⟩
end

/-- How many words of data there may be. -/
def roomN (d : Dev) (many : Nat) : Nat := min ((many - 2) * d.nw) 4096
set_option maxHeartbeats 1000000 in
theorem room_any {w : World} {B q S : Nat} {g : Nat → Nat} {d : Dev} {base many : Nat} {op : Bool} {P : List (BitVec 32)} (h : Bk w B q S g d base many op P) :
    Calls Try.prog 14 #[.pointer (some ⟨B, 0, none⟩)] w fun e w' => e = .returned (.int .i64 (roomN d many : Nat)) ∧ ∃ n, w' = w.drewN n := by
  have c0 := h.c0
  have c2 := h.c2
  have HW := fun n => Lib.hid (quietly (words_any (h.dev.drewN n)))
  have hfit := h.fit
  obtain ⟨m, hm⟩ : ∃ m, many = m + 2 := ⟨many - 2, by omega⟩
  have hz := h.dev.zn
  have hle : m * d.nw ≤ 70000 := Nat.le_trans (Nat.mul_le_mul (show m ≤ 64 by omega) hz.2.1) (by decide)
  have hr : roomN d many = min (m * d.nw) 4096 := by unfold roomN; rw [hm]; rfl
  have e1 : (((m + 2 : Nat) : Int) - 2) = (m : Nat) := by omega
  have e2 : (m : Int) * (d.nw : Int) = ((m * d.nw : Nat) : Int) := by push_cast; rfl
  obtain ⟨nw, hnw⟩ : ∃ nw, d.nw = nw := ⟨_, rfl⟩
  rw [hr]
  rw [hnw] at hle e2 HW ⊢
  rw [hm] at c2
  obtain ⟨t, ht⟩ : ∃ t, m * nw = t := ⟨_, rfl⟩
  rw [ht] at hle e2 ⊢
  have hm64 : m ≤ 64 := by omega
  have e3 : IntKind.i64.wrap ((t : Nat) : Int) = (t : Nat) := by rw [IntKind.wrap_i64]; omega
  have e4 : IntKind.i64.wrap ((m : Nat) : Int) = (m : Nat) := by rw [IntKind.wrap_i64]; omega
  have b1 : ((t : Nat) : Int) ≤ 70000 := by omega
  clear h hm hz hr ht hnw hle hfit hm64
  by_cases hl : t ≤ 4096
  · rw [Nat.min_eq_left hl]
    have d1 : ((t : Nat) : Int) ≤ 4096 := by omega
    clear hl
    go_enter Try.func14, Try.ntmps14
    go_wp2
    go_quiet ((go_at_call 41; exact (HW _).out))
    go_wp2
    go_ret
    exact ⟨rfl, _, rfl⟩
  · rw [Nat.min_eq_right (by omega)]
    have d1 : ¬ ((t : Nat) : Int) ≤ 4096 := by omega
    have d2 : (4096 : Int) < ((t : Nat) : Int) := by omega
    clear hl
    go_enter Try.func14, Try.ntmps14
    go_wp2
    go_quiet ((go_at_call 41; exact (HW _).out))
    go_wp2
    go_ret
    exact ⟨rfl, _, rfl⟩
/-- A sector that there is. -/
theorem sectorN_any {w : World} {q S : Nat} {g : Nat → Nat} {d : Dev} (h : DevAt w q S g d) (i : Nat) (hi : i < d.ns) :
    Calls Try.prog 23 #[.pointer (some ⟨q, 0, none⟩), .int .i64 i] w fun e w' => ∃ b cap, e = .returned (.slice (some ⟨b, 0, none⟩) d.nw cap) ∧ w.heap.size ≤ b ∧ Ws w' (some ⟨b, 0, none⟩) b 0 d.nw (d.word i) ∧ d.nw ≤ cap ∧ Below w.heap.size w w' := by
  refine (sector_any h i).mono ?_
  rintro e w' ⟨v, rfl, hv, hb⟩
  have hh : d.has i = true := by unfold Dev.has; simp; omega
  rw [if_pos hh, Int.toNat_natCast] at hv
  obtain ⟨b, cap, rfl, h1, h2⟩ := own_some hv h.zn.2.2.2
  have hcap : d.nw ≤ cap := by
    rcases hv.2 with ⟨e, _⟩ | ⟨g', cap', cur, e, _, _, hc, _⟩
    · cases e
    · injection e with _ _ e; omega
  refine ⟨b, cap, rfl, h1, ⟨fun _ => ⟨rfl, h2⟩, fun k hk => ?_⟩, hcap, hb⟩
  have := hv.cellAt k (by omega)
  rw [Nat.zero_add]
  rw [this]
  unfold rowB Dev.ws
  simp [hk]
set_option maxHeartbeats 1000000 in
set_option maxRecDepth 100000 in
/-- The header's words. -/
theorem bhead_any {w : World} {B q S : Nat} {g : Nat → Nat} {d : Dev} {base many : Nat} {op : Bool} {P : List (BitVec 32)} (h : Bk w B q S g d base many op P) :
    Calls Try.prog 50 #[.pointer (some ⟨B, 0, none⟩)] w fun e w' => ∃ b cap, e = .returned (.slice (some ⟨b, 0, none⟩) d.nw cap) ∧ w.heap.size ≤ b ∧ Ws w' (some ⟨b, 0, none⟩) b 0 d.nw (d.word (base + 1)) ∧ d.nw ≤ cap ∧ Below w.heap.size w w' := by
  have c0 := h.c0
  have c1 := h.c1
  have hf := h.fit
  have hz := h.dev.zn
  have HS := Lib.hid (sectorN_any (h.dn 1).dev (base + 1) (by omega))
  have b0 : (base : Int) ≤ 64 := by omega
  have e1 : ((base + 1 : Nat) : Int) = (base : Int) + 1 := by omega
  rw [e1] at HS
  have HB := Lib.hid (below_dn (Below.refl w.heap.size w) 1)
  clear h hf hz e1
  go_enter Try.func50, Try.ntmps50
  go_wp2
  go_still_tail 9, (by kernel_rfl)
  go_wp2_with (go_at_call 23; refine HS.out.mono ?_; rintro e w1 ⟨b, cap, rfl, h1, h2, h3, h4⟩; have H1 := Lib.hid (And.intro h1 (And.intro h2 (And.intro h3 h4))); clear h1 h2 h3 h4)
  go_ret
  exact ⟨_, _, rfl, H1.out.1, H1.out.2.1, H1.out.2.2.1, HB.out.trans H1.out.2.2.2⟩
/-- Does the bank not count? -/
def voidB (d : Dev) (base : Nat) : Bool := !(d.word base 0 == BitVec.allOnes 32)
set_option maxHeartbeats 1000000 in
set_option maxRecDepth 100000 in
theorem void_any {w : World} {B q S : Nat} {g : Nat → Nat} {d : Dev} {base many : Nat} {op : Bool} {P : List (BitVec 32)} (h : Bk w B q S g d base many op P) :
    Calls Try.prog 15 #[.pointer (some ⟨B, 0, none⟩)] w fun e w' => e = .returned (.bool (voidB d base)) ∧ Below w.heap.size w w' := by
  have c0 := h.c0
  have c1 := h.c1
  have hf := h.fit
  have hz := h.dev.zn
  have HS := Lib.hid (sectorN_any (h.dn 1).dev base (by omega))
  have b0 : (base : Int) ≤ 64 := by omega
  have HB := Lib.hid (below_dn (Below.refl w.heap.size w) 1)
  have hn := ones_nb (d.word base 0)
  have hnw : 0 < d.nw := hz.2.2.2
  obtain ⟨x, hx⟩ : ∃ x, w32 (d.word base 0) = x := ⟨_, rfl⟩
  have HX := Lib.hid hx
  rw [hx] at hn
  have HN := Lib.hid hn
  obtain ⟨nw, hnn⟩ : ∃ nw, nw = d.nw := ⟨_, rfl⟩
  rw [← hnn] at HS hnw
  clear h hf hz hx hn hnn
  go_enter Try.func15, Try.ntmps15
  go_wp2
  go_still_tail 9, (by kernel_rfl)
  go_wp2_with (go_at_call 23; refine HS.out.mono ?_; rintro e w1 ⟨b, cap, rfl, h1, h2, h3, h4⟩; have k0 := h2.cell 0 hnw; rw [HX.out] at k0; have H1 := Lib.hid h4; clear h1 h2 h3 h4)
  go_ret
  exact ⟨by rw [HN.out]; rfl, HB.out.trans H1.out⟩
set_option maxHeartbeats 1000000 in
/-- The sector and the word where a word is. -/
theorem place_any {w : World} {B q S : Nat} {g : Nat → Nat} {d : Dev} {base many : Nat} {op : Bool} {P : List (BitVec 32)} (h : Bk w B q S g d base many op P) (frm at_ : Nat) (h1 : frm ≤ 64) (h2 : at_ ≤ 10000) :
    Calls Try.prog 85 #[.pointer (some ⟨B, 0, none⟩), .int .i64 frm, .int .i64 at_] w fun e w' => e = .returned (.tuple #[.int .i64 ((base + frm + at_ / d.nw : Nat) : Int), .int .i64 ((at_ % d.nw : Nat) : Int)]) ∧ ∃ n, w' = w.drewN n := by
  have c0 := h.c0
  have c1 := h.c1
  have hf := h.fit
  have hz := h.dev.zn
  have HW := fun n => Lib.hid (quietly (words_any (h.dev.drewN n)))
  obtain ⟨nw, hnn⟩ : ∃ nw, d.nw = nw := ⟨_, rfl⟩
  rw [hnn] at HW hz ⊢
  have hdv : at_ / nw ≤ 10000 := Nat.le_trans (Nat.div_le_self _ _) h2
  have e1 : (at_ : Int) / (nw : Int) = ((at_ / nw : Nat) : Int) := by push_cast; rfl
  have e2 : (at_ : Int) % (nw : Int) = ((at_ % nw : Nat) : Int) := by push_cast; rfl
  have b0 : (0 : Int) ≤ (at_ : Int) := by omega
  have b1 : (1 : Int) ≤ (nw : Int) := by omega
  have b2 : ¬ (nw : Int) = 0 := by omega
  obtain ⟨x, hx⟩ : ∃ x, at_ / nw = x := ⟨_, rfl⟩
  obtain ⟨y, hy⟩ : ∃ y, at_ % nw = y := ⟨_, rfl⟩
  rw [hx] at e1 hdv ⊢
  rw [hy] at e2 ⊢
  have f1 : IntKind.i64.wrap ((base : Int) + (frm : Int)) = (base : Int) + frm := by rw [IntKind.wrap_i64]; omega
  have f2 : IntKind.i64.wrap ((base : Int) + (frm : Int) + (x : Int)) = (base : Int) + frm + x := by rw [IntKind.wrap_i64]; omega
  have f3 : IntKind.i64.wrap (x : Int) = (x : Int) := by rw [IntKind.wrap_i64]; omega
  clear h hf hz hnn hx hy hdv h1 h2
  go_enter Try.func85, Try.ntmps85
  go_wp2
  go_quiet ((go_at_call 41; exact (HW _).out))
  go_wp2
  rw [← e2]
  go_ret2
  exact ⟨by push_cast; rfl, _, rfl⟩
end Go.Proofs.Ythpagbfabpfngaa
/- The contract of bank's State. -/
namespace Go.Proofs.Ythpagbfabpfngaa
open Go.RowKit

/-- Is the bank's state valid? -/
def stOK (d : Dev) (base many : Nat) : Bool := validH (d.word (base + 1)) && (!voidB d base && decide ((d.word (base + 1) 2).toNat ≤ roomN d many))
/-- A bank's state. -/
def stV (d : Dev) (base many : Nat) : Array Value :=
  if stOK d base many then #[.int .u32 (w32 (d.word (base + 1) 0)), .int .u32 (w32 (d.word (base + 1) 2)), .int .u32 (w32 (d.word (base + 1) 4)), .bool true, .bool (confH (d.word (base + 1))), .int .i64 (trC (d.word (base + 1)) 3 : Nat)]
  else #[.int .u32 0, .int .u32 0, .int .u32 0, .bool false, .bool false, .int .i64 (trC (d.word (base + 1)) 3 : Nat)]
theorem stV_raw (d : Dev) (base many : Nat) (hv : voidB d base = false) (hl : (headH (d.word (base + 1)) 2).toNat ≤ roomN d many) :
    #[.int .u32 (w32 (headH (d.word (base + 1)) 0)), .int .u32 (w32 (headH (d.word (base + 1)) 2)), .int .u32 (w32 (headH (d.word (base + 1)) 4)), .bool (validH (d.word (base + 1))), .bool (confH (d.word (base + 1))), .int .i64 (trC (d.word (base + 1)) 3 : Nat)] = stV d base many := by
  unfold stV stOK
  cases h : validH (d.word (base + 1)) with
  | true =>
    unfold headH at hl ⊢
    rw [h] at hl ⊢
    simp only [if_true] at hl ⊢
    rw [hv, decide_eq_true hl]
    rfl
  | false =>
    unfold headH confH
    rw [h]
    rfl
theorem stV_bad (d : Dev) (base many : Nat) (h : voidB d base = true ∨ ¬ (headH (d.word (base + 1)) 2).toNat ≤ roomN d many) :
    #[.int .u32 0, .int .u32 0, .int .u32 0, .bool false, .bool false, .int .i64 (trC (d.word (base + 1)) 3 : Nat)] = stV d base many := by
  unfold stV stOK
  rcases h with h | h
  · rw [h]; simp
  · cases hv : validH (d.word (base + 1)) with
    | true =>
      unfold headH at h
      rw [hv] at h
      simp only [if_true] at h
      rw [decide_eq_false h]; simp
    | false => rfl
set_option maxHeartbeats 4000000 in
set_option maxRecDepth 100000 in
theorem state_any {w : World} {B q S : Nat} {g : Nat → Nat} {d : Dev} {base many : Nat} {op : Bool} {P : List (BitVec 32)} (h : Bk w B q S g d base many op P) :
    Calls Try.prog 16 #[.pointer (some ⟨B, 0, none⟩)] w fun e w' => e = .returned (.agg (stV d base many)) ∧ Below w.heap.size w w' := by
  obtain ⟨r, hr⟩ : ∃ r, r = w.heap.size := ⟨_, rfl⟩
  obtain ⟨w0, hw0⟩ : ∃ w0, w0 = w.alloc (.cells #[.int .u32 0, .int .u32 0, .int .u32 0, .bool false, .bool false, .int .i64 0] 47) := ⟨_, rfl⟩
  have b0 : Below w.heap.size w w0 := by rw [hw0]; exact (Below.refl _ _).alloc (Nat.le_refl _) _
  have x0 : RowAt w0 r 47 #[.int .u32 0, .int .u32 0, .int .u32 0, .bool false, .bool false, .int .i64 0] := by rw [hw0, hr]; exact RowAt.mk w _ _
  have hnw : 13 ≤ d.nw := h.fit.2.2
  have hz := h.dev.zn
  have HD := Lib.hid (bhead_any (h.new b0))
  have HRd := Lib.hid (fun (wx : World) (b cap : Nat) (hw : Ws wx (some ⟨b, 0, none⟩) b 0 d.nw (d.word (base + 1))) => hread_any d.nw b 0 cap _ _ wx (by omega) hw (d.word (base + 1)) (fun i hi => by unfold atW; rw [if_pos (by omega)]))
  have HB := Lib.hid (fun (wx : World) (hb : Below w.heap.size w wx) => (h.new hb))
  have HX0 := Lib.hid (show ∀ wx, Below w0.heap.size w0 wx → RowAt wx r 47 #[.int .u32 0, .int .u32 0, .int .u32 0, .bool false, .bool false, .int .i64 0] ∧ r < wx.heap.size from fun wx hb => ⟨x0.new hb, Nat.lt_of_lt_of_le x0.lt hb.size⟩)
  have H0 := Lib.hid (And.intro b0 (And.intro x0 hr))
  have hL : (headH (d.word (base + 1)) 2).toNat < 4294967296 := (headH (d.word (base + 1)) 2).isLt
  have hrm : roomN d many ≤ 4096 := by unfold roomN; omega
  have HV1 := Lib.hid (stV_raw d base many)
  have HV2 := Lib.hid (stV_bad d base many)
  obtain ⟨rm, hrr⟩ : ∃ rm, roomN d many = rm := ⟨_, rfl⟩
  have HRm := Lib.hid (fun (wx : World) (hb : Bk wx B q S g d base many op P) => (by have := room_any hb; rw [hrr] at this; exact this : Calls Try.prog 14 #[.pointer (some ⟨B, 0, none⟩)] wx fun e w' => e = .returned (.int .i64 (rm : Nat)) ∧ ∃ n, w' = wx.drewN n))
  have HVd := Lib.hid (fun (wx : World) (hb : Bk wx B q S g d base many op P) => void_any hb)
  rw [hrr] at HV1 HV2 hrm
  obtain ⟨vb, hvb⟩ : ∃ vb, voidB d base = vb := ⟨_, rfl⟩
  rw [hvb] at HV1 HV2 HVd
  obtain ⟨x, hx⟩ : ∃ x, headH (d.word (base + 1)) 2 = x := ⟨_, rfl⟩
  rw [hx] at HV1 HV2 hL
  simp only [hx] at HRd
  obtain ⟨R, hR⟩ : ∃ R, stV d base many = R := ⟨_, rfl⟩
  rw [hR] at HV1 HV2 ⊢
  rw [← hr]
  clear h b0 x0 hz hrr hvb hx hR hnw
  go_enter Try.func16, Try.ntmps16
  go_upto_region 1 with fail
  rw [← hw0, ← hr]
  have HR0 := Lib.hid hr
  clear hw0 hr
  go_wp2_with (first
    | (go_at_call 50; refine HD.out.mono ?_; rintro e w1 ⟨b, cap, rfl, h1, h2, h3, h4⟩; have H1 := Lib.hid (And.intro h2 h4); clear h1 h2 h3 h4)
    | (go_at_call 49; refine (HRd.out _ _ _ H1.out.1).mono ?_; rintro e w2 ⟨rfl, h4⟩; have H2 := Lib.hid (H1.out.2.trans (h4.mono H1.out.2.size)); clear h4)
    | fail)
  obtain ⟨z, hz⟩ : ∃ z, z = w2.heap.size := ⟨_, rfl⟩
  obtain ⟨w3, hw3⟩ : ∃ w3, w3 = w2.alloc (.cells #[.int .u32 (w32 (headH (d.word (base + 1)) 0)), .int .u32 (w32 x), .int .u32 (w32 (headH (d.word (base + 1)) 4)), .bool (validH (d.word (base + 1))), .bool (confH (d.word (base + 1))), .int .i64 (trC (d.word (base + 1)) 3 : Nat)] 47) := ⟨_, rfl⟩
  have H3 := Lib.hid (show Below w.heap.size w w3 ∧ RowAt w3 z 47 #[.int .u32 (w32 (headH (d.word (base + 1)) 0)), .int .u32 (w32 x), .int .u32 (w32 (headH (d.word (base + 1)) 4)), .bool (validH (d.word (base + 1))), .bool (confH (d.word (base + 1))), .int .i64 (trC (d.word (base + 1)) 3 : Nat)] ∧ RowAt w3 r 47 #[.int .u32 0, .int .u32 0, .int .u32 0, .bool false, .bool false, .int .i64 0] ∧ r < z ∧ z < w3.heap.size from by
    have b3 : Below w2.heap.size w2 w3 := by rw [hw3]; exact (Below.refl _ _).alloc (Nat.le_refl _) _
    have hb0 := H2.out.trans (b3.mono H2.out.size)
    have hb : Below w.heap.size w w3 := H0.out.1.trans (hb0.mono H0.out.1.size)
    have x3 : RowAt w3 z 47 #[.int .u32 (w32 (headH (d.word (base + 1)) 0)), .int .u32 (w32 x), .int .u32 (w32 (headH (d.word (base + 1)) 4)), .bool (validH (d.word (base + 1))), .bool (confH (d.word (base + 1))), .int .i64 (trC (d.word (base + 1)) 3 : Nat)] := by rw [hw3, hz]; exact RowAt.mk w2 _ _
    have hrz : r < z := by rw [hz]; exact (HX0.out w2 H2.out).2
    exact ⟨hb, x3, (HX0.out w3 hb0).1, hrz, x3.lt⟩)
  rw [← hw3, ← hz]
  clear hw3 hz
  have l1 : w3.cell? ⟨z, 1, none⟩ = some (.int .u32 (w32 x)) := H3.out.2.1.cell 1
  cases vb with
  | true =>
    refine wp_region_held_drew (S := fun w' => True) (by kernel_rfl) trivial (fun hS => ?_)
    refine wpAnyH_take (i := 0) (oi := { dst := some 7, op := .move (.tmp 0), type := 35, pos := "bank.go:62", after := #[], guard := none }) (v := ?_) rfl (by kernel_rfl) (by kernel_rfl) (by kernel_rfl) (fun _ _ _ h => h) (Or.inl ⟨by rfl, ?_⟩) hS ?_
    rotate_left 1
    · intro w hw; obtain _ := hw; go_simp; try (with_reducible rfl)
    simp only [Act.put, List.setIfInBounds_toArray, List.set_cons_zero, List.set_cons_succ]
    refine wpAnyH_ready (rs := [1]) (by kernel_rfl) (by simp) (AllReadyH.cons (o := { dst := some 8, op := .call { callee := .value (.func 15), args := #[.tmp 7], argTypes := #[35] }, type := 4, pos := "bank.go:62", after := #[{ on := 0, ground := .data }], guard := none }) rfl (fun K hK => ?_) AllReadyH.nil)
    go_simp
    go_at_call 15
    refine (HVd.out _ (HB.out _ (below_dn H3.out.1 1))).mono ?_
    rintro e w4 ⟨rfl, b4⟩
    have b34 : Below w3.heap.size w3 w4 := (below_dn (Below.refl _ _) 1).trans b4
    have H4 := Lib.hid (And.intro (H3.out.1.trans (b34.mono H3.out.1.size)) (And.intro (H3.out.2.1.new b34) (H3.out.2.2.1.new b34)))
    have t4 : w4.cell? ⟨z, 5, none⟩ = some (.int .i64 (trC (d.word (base + 1)) 3 : Nat)) := H4.out.2.1.cell 5
    clear b4 b34
    try dsimp only
    refine hK.out _ _ hS (fun hHeld => ?_)
    clear hK K
    try simp only [Act.put, List.setIfInBounds_toArray, List.set_cons_zero, List.set_cons_succ]
    refine wpAnyH_take (i := 2) (oi := { dst := some 9, op := .move (.tmp 8), type := 4, pos := "bank.go:62", after := #[{ on := 1, ground := .data }, { on := 1, ground := .chain }], guard := none }) (v := ?_) rfl (by kernel_rfl) (by kernel_rfl) (by kernel_rfl) (fun _ _ _ h => h) (Or.inl ⟨by rfl, ?_⟩) hS ?_
    rotate_left 1
    · intro w hw; obtain _ := hw; go_simp; try (with_reducible rfl)
    simp only [Act.put, List.setIfInBounds_toArray, List.set_cons_zero, List.set_cons_succ]
    refine wpAnyH_take (i := 3) (oi := { dst := some 10, op := .fieldAddr 47 (.tmp 3) 0, type := 0, pos := "bank.go:62", after := #[{ on := 2, ground := .guard }], guard := some (2, false) }) (v := undef) rfl (by kernel_rfl) (by kernel_rfl) (by kernel_rfl) (fun _ _ _ h => h) (Or.inr ⟨by rfl, rfl⟩) hS ?_
    simp only [Act.put, List.setIfInBounds_toArray, List.set_cons_zero, List.set_cons_succ]
    refine wpAnyH_take (i := 4) (oi := { dst := some 11, op := .fieldAddr 45 (.tmp 10) 1, type := 0, pos := "bank.go:62", after := #[{ on := 3, ground := .data }, { on := 2, ground := .guard }], guard := some (2, false) }) (v := undef) rfl (by kernel_rfl) (by kernel_rfl) (by kernel_rfl) (fun _ _ _ h => h) (Or.inr ⟨by rfl, rfl⟩) hS ?_
    simp only [Act.put, List.setIfInBounds_toArray, List.set_cons_zero, List.set_cons_succ]
    refine wpAnyH_take (i := 5) (oi := { dst := some 12, op := .load 26 (.tmp 11), type := 26, pos := "bank.go:62", after := #[{ on := 4, ground := .data }, { on := 2, ground := .guard }], guard := some (2, false) }) (v := undef) rfl (by kernel_rfl) (by kernel_rfl) (by kernel_rfl) (fun _ _ _ h => h) (Or.inr ⟨by rfl, rfl⟩) hS ?_
    simp only [Act.put, List.setIfInBounds_toArray, List.set_cons_zero, List.set_cons_succ]
    refine wpAnyH_take (i := 6) (oi := { dst := some 13, op := .move (.tmp 0), type := 35, pos := "bank.go:62", after := #[{ on := 2, ground := .guard }], guard := some (2, false) }) (v := undef) rfl (by kernel_rfl) (by kernel_rfl) (by kernel_rfl) (fun _ _ _ h => h) (Or.inr ⟨by rfl, rfl⟩) hS ?_
    simp only [Act.put, List.setIfInBounds_toArray, List.set_cons_zero, List.set_cons_succ]
    refine wpAnyH_take (i := 7) (oi := { dst := some 14, op := .call { callee := .value (.func 14), args := #[.tmp 13], argTypes := #[35] }, type := 3, pos := "bank.go:62", after := #[{ on := 6, ground := .data }, { on := 2, ground := .chain }, { on := 2, ground := .guard }], guard := some (2, false) }) (v := undef) rfl (by kernel_rfl) (by kernel_rfl) (by kernel_rfl) (fun _ _ _ h => h) (Or.inr ⟨by rfl, rfl⟩) hS ?_
    simp only [Act.put, List.setIfInBounds_toArray, List.set_cons_zero, List.set_cons_succ]
    refine wpAnyH_take (i := 8) (oi := { dst := some 15, op := .convert 3 26 (.tmp 14), type := 26, pos := "bank.go:62", after := #[{ on := 7, ground := .data }, { on := 2, ground := .guard }], guard := some (2, false) }) (v := undef) rfl (by kernel_rfl) (by kernel_rfl) (by kernel_rfl) (fun _ _ _ h => h) (Or.inr ⟨by rfl, rfl⟩) hS ?_
    simp only [Act.put, List.setIfInBounds_toArray, List.set_cons_zero, List.set_cons_succ]
    refine wpAnyH_take (i := 9) (oi := { dst := some 16, op := .binOp .gtr 26 (.tmp 12) (.tmp 15) 26, type := 4, pos := "bank.go:62", after := #[{ on := 5, ground := .data }, { on := 8, ground := .data }, { on := 2, ground := .guard }], guard := some (2, false) }) (v := undef) rfl (by kernel_rfl) (by kernel_rfl) (by kernel_rfl) (fun _ _ _ h => h) (Or.inr ⟨by rfl, rfl⟩) hS ?_
    simp only [Act.put, List.setIfInBounds_toArray, List.set_cons_zero, List.set_cons_succ]
    refine wpAnyH_take (i := 10) (oi := { dst := some 17, op := .pick (.tmp 9) (.const (.bool true)) (.tmp 16), type := 4, pos := "bank.go:62", after := #[{ on := 2, ground := .data }, { on := 9, ground := .data }], guard := none }) (v := ?_) rfl (by kernel_rfl) (by kernel_rfl) (by kernel_rfl) (fun _ _ _ h => h) (Or.inl ⟨by rfl, ?_⟩) hS ?_
    rotate_left 1
    · intro w hw; obtain _ := hw; go_simp; try (with_reducible rfl)
    simp only [Act.put, List.setIfInBounds_toArray, List.set_cons_zero, List.set_cons_succ]
    refine wpAnyH_done (by kernel_rfl) ?_ _

    go_wp2_with (refine wpList_store_row rfl 47 (.tmp 2) (.tmp 20) rfl r #[.int .u32 0, .int .u32 0, .int .u32 0, .bool false, .bool false, .int .i64 (trC (d.word (base + 1)) 3 : Nat)] rfl rfl 47 _ H4.out.2.2 (by kernel_rfl) rfl (state_one _ _ _ _ _ _) ?_)
    refine bodyPost_ret (results_cell_row rfl _ _ r 47 #[.int .u32 0, .int .u32 0, .int .u32 0, .bool false, .bool false, .int .i64 (trC (d.word (base + 1)) 3 : Nat)] (0, 0) _ rfl (RowAt.put H4.out.2.2) Try.underlying47 rfl (by kernel_rfl)) rfl ?_
    exact ⟨by rw [HV2.out (.inl (by trivial))], by rw [HR0.out]; exact below_setRow H4.out.1 (Nat.le_refl _) _⟩
  | false =>
    by_cases hl : x.toNat ≤ rm
    · have dx : decide ((rm : Int) < w32 x) = false := by unfold w32; simp; omega
      have cv : IntKind.u32.wrap (rm : Int) = (rm : Int) := by rw [IntKind.wrap_u32]; omega
      have HL := Lib.hid hl
      clear hl hL
      refine wp_region_held_drew (S := fun w' => w'.cell? ⟨z, 1, none⟩ = some (.int .u32 (w32 x))) (by kernel_rfl) l1 (fun hS => ?_)
      refine wpAnyH_take (i := 0) (oi := { dst := some 7, op := .move (.tmp 0), type := 35, pos := "bank.go:62", after := #[], guard := none }) (v := ?_) rfl (by kernel_rfl) (by kernel_rfl) (by kernel_rfl) (fun _ _ _ h => h) (Or.inl ⟨by rfl, ?_⟩) hS ?_
      rotate_left 1
      · intro w hw; obtain s0 := hw; go_simp; try (with_reducible rfl)
      simp only [Act.put, List.setIfInBounds_toArray, List.set_cons_zero, List.set_cons_succ]
      refine wpAnyH_ready (rs := [1]) (by kernel_rfl) (by simp) (AllReadyH.cons (o := { dst := some 8, op := .call { callee := .value (.func 15), args := #[.tmp 7], argTypes := #[35] }, type := 4, pos := "bank.go:62", after := #[{ on := 0, ground := .data }], guard := none }) rfl (fun K hK => ?_) AllReadyH.nil)
      go_simp
      go_at_call 15
      refine (HVd.out _ (HB.out _ (below_dn H3.out.1 1))).mono ?_
      rintro e w4 ⟨rfl, b4⟩
      have b34 : Below w3.heap.size w3 w4 := (below_dn (Below.refl _ _) 1).trans b4
      have H4 := Lib.hid (And.intro (H3.out.1.trans (b34.mono H3.out.1.size)) (And.intro (H3.out.2.1.new b34) (H3.out.2.2.1.new b34)))
      have t4 : w4.cell? ⟨z, 5, none⟩ = some (.int .i64 (trC (d.word (base + 1)) 3 : Nat)) := H4.out.2.1.cell 5
      have l4 : w4.cell? ⟨z, 1, none⟩ = some (.int .u32 (w32 x)) := H4.out.2.1.cell 1
      clear b4 b34
      try dsimp only
      refine hK.out _ _ l4 (fun hHeld => ?_)
      clear hK K
      try simp only [Act.put, List.setIfInBounds_toArray, List.set_cons_zero, List.set_cons_succ]
      refine wpAnyH_take (i := 2) (oi := { dst := some 9, op := .move (.tmp 8), type := 4, pos := "bank.go:62", after := #[{ on := 1, ground := .data }, { on := 1, ground := .chain }], guard := none }) (v := ?_) rfl (by kernel_rfl) (by kernel_rfl) (by kernel_rfl) (fun _ _ _ h => h) (Or.inl ⟨by rfl, ?_⟩) l4 ?_
      rotate_left 1
      · intro w hw; obtain s0 := hw; go_simp; try (with_reducible rfl)
      simp only [Act.put, List.setIfInBounds_toArray, List.set_cons_zero, List.set_cons_succ]
      refine wpAnyH_take (i := 3) (oi := { dst := some 10, op := .fieldAddr 47 (.tmp 3) 0, type := 0, pos := "bank.go:62", after := #[{ on := 2, ground := .guard }], guard := some (2, false) }) (v := ?_) rfl (by kernel_rfl) (by kernel_rfl) (by kernel_rfl) (fun _ _ _ h => h) (Or.inl ⟨by rfl, ?_⟩) l4 ?_
      rotate_left 1
      · intro w hw; obtain s0 := hw; go_simp; try (with_reducible rfl)
      simp only [Act.put, List.setIfInBounds_toArray, List.set_cons_zero, List.set_cons_succ]
      refine wpAnyH_take (i := 4) (oi := { dst := some 11, op := .fieldAddr 45 (.tmp 10) 1, type := 0, pos := "bank.go:62", after := #[{ on := 3, ground := .data }, { on := 2, ground := .guard }], guard := some (2, false) }) (v := ?_) rfl (by kernel_rfl) (by kernel_rfl) (by kernel_rfl) (fun _ _ _ h => h) (Or.inl ⟨by rfl, ?_⟩) l4 ?_
      rotate_left 1
      · intro w hw; obtain s0 := hw; go_simp; try (with_reducible rfl)
      simp only [Act.put, List.setIfInBounds_toArray, List.set_cons_zero, List.set_cons_succ]
      refine wpAnyH_take (i := 5) (oi := { dst := some 12, op := .load 26 (.tmp 11), type := 26, pos := "bank.go:62", after := #[{ on := 4, ground := .data }, { on := 2, ground := .guard }], guard := some (2, false) }) (v := ?_) rfl (by kernel_rfl) (by kernel_rfl) (by kernel_rfl) (fun _ _ _ h => h) (Or.inl ⟨by rfl, ?_⟩) l4 ?_
      rotate_left 1
      · intro w hw; obtain s0 := hw; go_simp; try (with_reducible rfl)
      simp only [Act.put, List.setIfInBounds_toArray, List.set_cons_zero, List.set_cons_succ]
      refine wpAnyH_take (i := 6) (oi := { dst := some 13, op := .move (.tmp 0), type := 35, pos := "bank.go:62", after := #[{ on := 2, ground := .guard }], guard := some (2, false) }) (v := ?_) rfl (by kernel_rfl) (by kernel_rfl) (by kernel_rfl) (fun _ _ _ h => h) (Or.inl ⟨by rfl, ?_⟩) l4 ?_
      rotate_left 1
      · intro w hw; obtain s0 := hw; go_simp; try (with_reducible rfl)
      simp only [Act.put, List.setIfInBounds_toArray, List.set_cons_zero, List.set_cons_succ]
      refine wpAnyH_ready (rs := [7]) (by kernel_rfl) (by simp) (AllReadyH.cons (o := { dst := some 14, op := .call { callee := .value (.func 14), args := #[.tmp 13], argTypes := #[35] }, type := 3, pos := "bank.go:62", after := #[{ on := 6, ground := .data }, { on := 2, ground := .chain }, { on := 2, ground := .guard }], guard := some (2, false) }) rfl (fun K hK => ?_) AllReadyH.nil)
      go_simp
      go_at_call 14
      refine (HRm.out _ (HB.out _ H4.out.1)).mono ?_
      rintro e w5 ⟨rfl, n5, rfl⟩
      have l5 : (w4.drewN n5).cell? ⟨z, 1, none⟩ = some (.int .u32 (w32 x)) := l4
      try dsimp only
      refine hK.out _ _ l5 (fun hHeld => ?_)
      clear hK K
      try simp only [Act.put, List.setIfInBounds_toArray, List.set_cons_zero, List.set_cons_succ]
      refine wpAnyH_take (i := 8) (oi := { dst := some 15, op := .convert 3 26 (.tmp 14), type := 26, pos := "bank.go:62", after := #[{ on := 7, ground := .data }, { on := 2, ground := .guard }], guard := some (2, false) }) (v := ?_) rfl (by kernel_rfl) (by kernel_rfl) (by kernel_rfl) (fun _ _ _ h => h) (Or.inl ⟨by rfl, ?_⟩) l5 ?_
      rotate_left 1
      · intro w hw; obtain s0 := hw; go_simp; try (with_reducible rfl)
      simp only [Act.put, List.setIfInBounds_toArray, List.set_cons_zero, List.set_cons_succ]
      refine wpAnyH_take (i := 9) (oi := { dst := some 16, op := .binOp .gtr 26 (.tmp 12) (.tmp 15) 26, type := 4, pos := "bank.go:62", after := #[{ on := 5, ground := .data }, { on := 8, ground := .data }, { on := 2, ground := .guard }], guard := some (2, false) }) (v := ?_) rfl (by kernel_rfl) (by kernel_rfl) (by kernel_rfl) (fun _ _ _ h => h) (Or.inl ⟨by rfl, ?_⟩) l5 ?_
      rotate_left 1
      · intro w hw; obtain s0 := hw; go_simp; try (with_reducible rfl)
      simp only [Act.put, List.setIfInBounds_toArray, List.set_cons_zero, List.set_cons_succ]
      refine wpAnyH_take (i := 10) (oi := { dst := some 17, op := .pick (.tmp 9) (.const (.bool true)) (.tmp 16), type := 4, pos := "bank.go:62", after := #[{ on := 2, ground := .data }, { on := 9, ground := .data }], guard := none }) (v := ?_) rfl (by kernel_rfl) (by kernel_rfl) (by kernel_rfl) (fun _ _ _ h => h) (Or.inl ⟨by rfl, ?_⟩) l5 ?_
      rotate_left 1
      · intro w hw; obtain s0 := hw; go_simp; try (with_reducible rfl)
      simp only [Act.put, List.setIfInBounds_toArray, List.set_cons_zero, List.set_cons_succ]
      refine wpAnyH_done (by kernel_rfl) ?_ _

      go_wp2_with (first
        | (refine wpList_load_row rfl 47 (.tmp 3) rfl z rfl 47 #[.int .u32 (w32 (headH (d.word (base + 1)) 0)), .int .u32 (w32 x), .int .u32 (w32 (headH (d.word (base + 1)) 4)), .bool (validH (d.word (base + 1))), .bool (confH (d.word (base + 1))), .int .i64 (trC (d.word (base + 1)) 3 : Nat)] (0, 0) _ (H4.out.2.1.new (below_dn (Below.refl _ _) n5)) Try.underlying47 rfl (by kernel_rfl) ?_)
        | (refine wpList_store_row rfl 47 (.tmp 2) (.tmp 21) rfl r #[.int .u32 (w32 (headH (d.word (base + 1)) 0)), .int .u32 (w32 x), .int .u32 (w32 (headH (d.word (base + 1)) 4)), .bool (validH (d.word (base + 1))), .bool (confH (d.word (base + 1))), .int .i64 (trC (d.word (base + 1)) 3 : Nat)] rfl rfl 47 _ (H4.out.2.2.new (below_dn (Below.refl _ _) n5)) (by kernel_rfl) rfl (state_one _ _ _ _ _ _) ?_)
        | fail)
      refine bodyPost_ret (results_cell_row rfl _ _ r 47 #[.int .u32 (w32 (headH (d.word (base + 1)) 0)), .int .u32 (w32 x), .int .u32 (w32 (headH (d.word (base + 1)) 4)), .bool (validH (d.word (base + 1))), .bool (confH (d.word (base + 1))), .int .i64 (trC (d.word (base + 1)) 3 : Nat)] (0, 0) _ rfl (RowAt.put (H4.out.2.2.new (below_dn (Below.refl _ _) n5))) Try.underlying47 rfl (by kernel_rfl)) rfl ?_
      exact ⟨by rw [← HV1.out (by trivial) HL.out], by rw [HR0.out]; exact below_setRow (below_dn H4.out.1 n5) (Nat.le_refl _) _⟩
    · have dx : decide ((rm : Int) < w32 x) = true := by unfold w32; simp; omega
      have cv : IntKind.u32.wrap (rm : Int) = (rm : Int) := by rw [IntKind.wrap_u32]; omega
      have HNL := Lib.hid hl
      clear hl hL
      refine wp_region_held_drew (S := fun w' => w'.cell? ⟨z, 1, none⟩ = some (.int .u32 (w32 x))) (by kernel_rfl) l1 (fun hS => ?_)
      refine wpAnyH_take (i := 0) (oi := { dst := some 7, op := .move (.tmp 0), type := 35, pos := "bank.go:62", after := #[], guard := none }) (v := ?_) rfl (by kernel_rfl) (by kernel_rfl) (by kernel_rfl) (fun _ _ _ h => h) (Or.inl ⟨by rfl, ?_⟩) hS ?_
      rotate_left 1
      · intro w hw; obtain s0 := hw; go_simp; try (with_reducible rfl)
      simp only [Act.put, List.setIfInBounds_toArray, List.set_cons_zero, List.set_cons_succ]
      refine wpAnyH_ready (rs := [1]) (by kernel_rfl) (by simp) (AllReadyH.cons (o := { dst := some 8, op := .call { callee := .value (.func 15), args := #[.tmp 7], argTypes := #[35] }, type := 4, pos := "bank.go:62", after := #[{ on := 0, ground := .data }], guard := none }) rfl (fun K hK => ?_) AllReadyH.nil)
      go_simp
      go_at_call 15
      refine (HVd.out _ (HB.out _ (below_dn H3.out.1 1))).mono ?_
      rintro e w4 ⟨rfl, b4⟩
      have b34 : Below w3.heap.size w3 w4 := (below_dn (Below.refl _ _) 1).trans b4
      have H4 := Lib.hid (And.intro (H3.out.1.trans (b34.mono H3.out.1.size)) (And.intro (H3.out.2.1.new b34) (H3.out.2.2.1.new b34)))
      have t4 : w4.cell? ⟨z, 5, none⟩ = some (.int .i64 (trC (d.word (base + 1)) 3 : Nat)) := H4.out.2.1.cell 5
      have l4 : w4.cell? ⟨z, 1, none⟩ = some (.int .u32 (w32 x)) := H4.out.2.1.cell 1
      clear b4 b34
      try dsimp only
      refine hK.out _ _ l4 (fun hHeld => ?_)
      clear hK K
      try simp only [Act.put, List.setIfInBounds_toArray, List.set_cons_zero, List.set_cons_succ]
      refine wpAnyH_take (i := 2) (oi := { dst := some 9, op := .move (.tmp 8), type := 4, pos := "bank.go:62", after := #[{ on := 1, ground := .data }, { on := 1, ground := .chain }], guard := none }) (v := ?_) rfl (by kernel_rfl) (by kernel_rfl) (by kernel_rfl) (fun _ _ _ h => h) (Or.inl ⟨by rfl, ?_⟩) l4 ?_
      rotate_left 1
      · intro w hw; obtain s0 := hw; go_simp; try (with_reducible rfl)
      simp only [Act.put, List.setIfInBounds_toArray, List.set_cons_zero, List.set_cons_succ]
      refine wpAnyH_take (i := 3) (oi := { dst := some 10, op := .fieldAddr 47 (.tmp 3) 0, type := 0, pos := "bank.go:62", after := #[{ on := 2, ground := .guard }], guard := some (2, false) }) (v := ?_) rfl (by kernel_rfl) (by kernel_rfl) (by kernel_rfl) (fun _ _ _ h => h) (Or.inl ⟨by rfl, ?_⟩) l4 ?_
      rotate_left 1
      · intro w hw; obtain s0 := hw; go_simp; try (with_reducible rfl)
      simp only [Act.put, List.setIfInBounds_toArray, List.set_cons_zero, List.set_cons_succ]
      refine wpAnyH_take (i := 4) (oi := { dst := some 11, op := .fieldAddr 45 (.tmp 10) 1, type := 0, pos := "bank.go:62", after := #[{ on := 3, ground := .data }, { on := 2, ground := .guard }], guard := some (2, false) }) (v := ?_) rfl (by kernel_rfl) (by kernel_rfl) (by kernel_rfl) (fun _ _ _ h => h) (Or.inl ⟨by rfl, ?_⟩) l4 ?_
      rotate_left 1
      · intro w hw; obtain s0 := hw; go_simp; try (with_reducible rfl)
      simp only [Act.put, List.setIfInBounds_toArray, List.set_cons_zero, List.set_cons_succ]
      refine wpAnyH_take (i := 5) (oi := { dst := some 12, op := .load 26 (.tmp 11), type := 26, pos := "bank.go:62", after := #[{ on := 4, ground := .data }, { on := 2, ground := .guard }], guard := some (2, false) }) (v := ?_) rfl (by kernel_rfl) (by kernel_rfl) (by kernel_rfl) (fun _ _ _ h => h) (Or.inl ⟨by rfl, ?_⟩) l4 ?_
      rotate_left 1
      · intro w hw; obtain s0 := hw; go_simp; try (with_reducible rfl)
      simp only [Act.put, List.setIfInBounds_toArray, List.set_cons_zero, List.set_cons_succ]
      refine wpAnyH_take (i := 6) (oi := { dst := some 13, op := .move (.tmp 0), type := 35, pos := "bank.go:62", after := #[{ on := 2, ground := .guard }], guard := some (2, false) }) (v := ?_) rfl (by kernel_rfl) (by kernel_rfl) (by kernel_rfl) (fun _ _ _ h => h) (Or.inl ⟨by rfl, ?_⟩) l4 ?_
      rotate_left 1
      · intro w hw; obtain s0 := hw; go_simp; try (with_reducible rfl)
      simp only [Act.put, List.setIfInBounds_toArray, List.set_cons_zero, List.set_cons_succ]
      refine wpAnyH_ready (rs := [7]) (by kernel_rfl) (by simp) (AllReadyH.cons (o := { dst := some 14, op := .call { callee := .value (.func 14), args := #[.tmp 13], argTypes := #[35] }, type := 3, pos := "bank.go:62", after := #[{ on := 6, ground := .data }, { on := 2, ground := .chain }, { on := 2, ground := .guard }], guard := some (2, false) }) rfl (fun K hK => ?_) AllReadyH.nil)
      go_simp
      go_at_call 14
      refine (HRm.out _ (HB.out _ H4.out.1)).mono ?_
      rintro e w5 ⟨rfl, n5, rfl⟩
      have l5 : (w4.drewN n5).cell? ⟨z, 1, none⟩ = some (.int .u32 (w32 x)) := l4
      try dsimp only
      refine hK.out _ _ l5 (fun hHeld => ?_)
      clear hK K
      try simp only [Act.put, List.setIfInBounds_toArray, List.set_cons_zero, List.set_cons_succ]
      refine wpAnyH_take (i := 8) (oi := { dst := some 15, op := .convert 3 26 (.tmp 14), type := 26, pos := "bank.go:62", after := #[{ on := 7, ground := .data }, { on := 2, ground := .guard }], guard := some (2, false) }) (v := ?_) rfl (by kernel_rfl) (by kernel_rfl) (by kernel_rfl) (fun _ _ _ h => h) (Or.inl ⟨by rfl, ?_⟩) l5 ?_
      rotate_left 1
      · intro w hw; obtain s0 := hw; go_simp; try (with_reducible rfl)
      simp only [Act.put, List.setIfInBounds_toArray, List.set_cons_zero, List.set_cons_succ]
      refine wpAnyH_take (i := 9) (oi := { dst := some 16, op := .binOp .gtr 26 (.tmp 12) (.tmp 15) 26, type := 4, pos := "bank.go:62", after := #[{ on := 5, ground := .data }, { on := 8, ground := .data }, { on := 2, ground := .guard }], guard := some (2, false) }) (v := ?_) rfl (by kernel_rfl) (by kernel_rfl) (by kernel_rfl) (fun _ _ _ h => h) (Or.inl ⟨by rfl, ?_⟩) l5 ?_
      rotate_left 1
      · intro w hw; obtain s0 := hw; go_simp; try (with_reducible rfl)
      simp only [Act.put, List.setIfInBounds_toArray, List.set_cons_zero, List.set_cons_succ]
      refine wpAnyH_take (i := 10) (oi := { dst := some 17, op := .pick (.tmp 9) (.const (.bool true)) (.tmp 16), type := 4, pos := "bank.go:62", after := #[{ on := 2, ground := .data }, { on := 9, ground := .data }], guard := none }) (v := ?_) rfl (by kernel_rfl) (by kernel_rfl) (by kernel_rfl) (fun _ _ _ h => h) (Or.inl ⟨by rfl, ?_⟩) l5 ?_
      rotate_left 1
      · intro w hw; obtain s0 := hw; go_simp; try (with_reducible rfl)
      simp only [Act.put, List.setIfInBounds_toArray, List.set_cons_zero, List.set_cons_succ]
      refine wpAnyH_done (by kernel_rfl) ?_ _

      go_wp2_with (refine wpList_store_row rfl 47 (.tmp 2) (.tmp 20) rfl r #[.int .u32 0, .int .u32 0, .int .u32 0, .bool false, .bool false, .int .i64 (trC (d.word (base + 1)) 3 : Nat)] rfl rfl 47 _ (H4.out.2.2.new (below_dn (Below.refl _ _) n5)) (by kernel_rfl) rfl (state_one _ _ _ _ _ _) ?_)
      refine bodyPost_ret (results_cell_row rfl _ _ r 47 #[.int .u32 0, .int .u32 0, .int .u32 0, .bool false, .bool false, .int .i64 (trC (d.word (base + 1)) 3 : Nat)] (0, 0) _ rfl (RowAt.put (H4.out.2.2.new (below_dn (Below.refl _ _) n5))) Try.underlying47 rfl (by kernel_rfl)) rfl ?_
      exact ⟨by rw [HV2.out (.inr HNL.out)], by rw [HR0.out]; exact below_setRow (below_dn H4.out.1 n5) (Nat.le_refl _) _⟩
end Go.Proofs.Ythpagbfabpfngaa
/- The contracts of bank's sectors and behind: the closures, and what they go through. -/
namespace Go.Proofs.Ythpagbfabpfngaa
open Go.RowKit
attribute [local go_sem] Oper.semAt_some

/-- The sectors as they are erased. -/
def secN (base many k : Nat) : Nat := base + (k + 1) % many
theorem secN_lt {base many k : Nat} (h : 3 ≤ many) : secN base many k < base + many := by
  have := Nat.mod_lt (k + 1) (show 0 < many by omega)
  unfold secN; omega
theorem sectorsB_any (B : Nat) (w : World) : Calls Try.prog 51 #[.pointer (some ⟨B, 0, none⟩)] w fun e w' => e = .returned (.func (.func 91) #[] #[.pointer (some ⟨w.heap.size, 0, none⟩)]) ∧ w' = w.alloc (.cells #[.pointer (some ⟨B, 0, none⟩)] 35) := by
  have hmf : ∀ (fn : Fn) (first cap : Array Value) (w : World), (Instr.makeFunc fn first cap).run Try.prog w = .ok (.func fn first cap) w := fun _ _ _ _ => rfl
  go_enter Try.func51, Try.ntmps51
  go_wp2
  go_ret
  exact ⟨rfl, rfl⟩
set_option maxHeartbeats 2000000 in
set_option maxRecDepth 100000 in
theorem sectors_in (l0 X B base many : Nat) (F : World → Nat → Prop) (J Jx : Nat → World → Prop) (W : World) (hm : 1 ≤ many ∧ many ≤ 64 ∧ base ≤ 64)
    (hC : ∀ k W', J k W' → W'.cell? ⟨X, 0, none⟩ = some (.pointer (some ⟨B, 0, none⟩)) ∧ W'.cell? ⟨B, 1, none⟩ = some (.int .i64 base) ∧ W'.cell? ⟨B, 2, none⟩ = some (.int .i64 many))
    (hR : RoundsF Try.prog l0 many (fun k => #[.int .i64 (secN base many k : Nat)]) F J Jx) (fJ : ∀ k, Foot F (J k)) (h0 : J 0 W) :
    Iter Try.prog 91 #[.pointer (some ⟨X, 0, none⟩)] l0 many J Jx W := by
  refine callsIn_of_wp Try.func91 rfl trivial ?_ rfl
  simp only [Try.ntmps91, List.size_toArray, List.length_cons, List.length_nil, Nat.reduceAdd, Nat.reduceSub, Array.replicate_succ, Array.replicate_zero, List.push_toArray, List.append_toArray, List.nil_append, List.cons_append]
  have HJ := Lib.hid (And.intro fJ (And.intro h0 (And.intro hR hC)))
  obtain ⟨c0, -, c2⟩ := hC 0 W h0
  clear fJ h0 hR hC
  gi_wp2
  gi_loopg [8] many (fun m v wr => ∃ i : Nat, i + m = many ∧ v = .int .i64 (i : Nat) ∧ Aside (J i wr))
  case atStart => exact ⟨0, by omega, rfl, HJ.out.2.1⟩
  case round =>
    obtain ⟨i, him, rfl, HA⟩ := hrel
    cases gk with
    | zero =>
      obtain rfl : i = many := by omega
      gi_wp2
      go_end0
      exact ⟨⟨_, rfl⟩, .inl HA.out⟩
    | succ m1 =>
      have hlt : i < many := by omega
      obtain ⟨k0, k1, k2⟩ := HJ.out.2.2.2 _ _ HA.out
      have hJ1 : J i wr.drew := ((HJ.out.1 i).keepBelow HA.out (below_dn (Below.refl _ _) 1)).1
      obtain ⟨fn, tmps, assign, body, hyd, hRo⟩ := HJ.out.2.2.1 i _ hJ1 hlt
      have hsec : secN base many i = base + (i + 1) % many := rfl
      have hy0 := Nat.mod_lt (i + 1) (show 0 < many by omega)
      have e2 : ((i : Int) + 1).tmod (many : Int) = (((i + 1) % many : Nat) : Int) := by rw [Int.tmod_eq_emod_of_nonneg (by omega)]; push_cast; rfl
      obtain ⟨y, hy⟩ : ∃ y, (i + 1) % many = y := ⟨_, rfl⟩
      rw [hy] at e2 hy0 hsec
      dsimp only at hyd
      rw [hsec, show (((base + y : Nat) : Int)) = (base : Int) + (y : Int) by push_cast; rfl] at hyd
      have b1 : (1 : Int) ≤ (many : Int) := by omega
      have b2 : ¬ many = 0 := by omega
      have b3 : (0 : Int) ≤ (i : Int) + 1 := by omega
      have f1 : IntKind.i64.wrap ((i : Int) + 1) = (i : Int) + 1 := by rw [IntKind.wrap_i64]; omega
      have f2 : IntKind.i64.wrap ((base : Int) + (y : Int)) = (base : Int) + (y : Int) := by rw [IntKind.wrap_i64]; omega
      have f3 : IntKind.i64.wrap (y : Int) = (y : Int) := by rw [IntKind.wrap_i64]; omega
      clear c0 c2 hy hsec hJ1
      gi_wp2
      refine wpIn_region_still_tail 13 (by kernel_rfl) (by kernel_rfl) ?_
      simp only [List.take_succ_cons, List.take_zero, List.drop_succ_cons, List.drop_zero]
      repeat still_step
      try refine wpStill_nil ?_
      gi_wp2
      refine ⟨rfl, hRo.mono ?_⟩
      rintro e W3 (⟨rfl, hJ3, -⟩ | ⟨rfl, hJx3, -⟩)
      · have H3 := Lib.hid hJ3
        clear hJ3 hyd hRo
        gi_wp2
        go_roundg m1
        case measure => omega
        case rel => exact ⟨i + 1, by omega, by go_num, H3.out⟩
      · have H3 := Lib.hid hJx3
        clear hJx3 hyd hRo
        gi_wp2
        refine bodyPost_ret (results_none rfl _ _ _) rfl ?_
        exact ⟨⟨_, rfl⟩, .inr ⟨i + 1, by omega, H3.out⟩⟩
theorem behindB_any (B : Nat) (v : Value) (hv : ∃ sp n c, v = .slice sp n c) (w : World) : Calls Try.prog 78 #[.pointer (some ⟨B, 0, none⟩), v] w fun e w' => e = .returned (.func (.func 107) #[] #[.pointer (some ⟨w.heap.size + 1, 0, none⟩), .pointer (some ⟨w.heap.size, 0, none⟩)]) ∧ w' = (w.alloc (.cells #[.pointer (some ⟨B, 0, none⟩)] 35)).alloc (.cells #[v] 24) := by
  have hmf : ∀ (fn : Fn) (first cap : Array Value) (w : World), (Instr.makeFunc fn first cap).run Try.prog w = .ok (.func fn first cap) w := fun _ _ _ _ => rfl
  obtain ⟨sp, n, c, rfl⟩ := hv
  go_enter Try.func78, Try.ntmps78
  go_wp2
  go_ret
  exact ⟨rfl, rfl⟩
set_option maxHeartbeats 2000000 in
set_option maxRecDepth 100000 in
theorem behind_in (l0 XS XB B p n b off cap : Nat) (sp : Option Addr) (l : Nat → BitVec 32) (F : World → Nat → Prop) (J Jx : Nat → World → Prop) (W : World) (hp : p ≤ 100000 ∧ n ≤ 100000)
    (hC : ∀ k W', J k W' → W'.cell? ⟨XS, 0, none⟩ = some (.slice sp n cap) ∧ W'.cell? ⟨XB, 0, none⟩ = some (.pointer (some ⟨B, 0, none⟩)) ∧ W'.cell? ⟨B, 4, none⟩ = some (.int .i64 p) ∧ Ws W' sp b off n l)
    (hR : RoundsF Try.prog l0 n (fun k => #[.agg #[.int .i64 ((p + k : Nat) : Int), .int .u32 (w32 (l k))]]) F J Jx) (fJ : ∀ k, Foot F (J k)) (h0 : J 0 W) :
    Iter Try.prog 107 #[.pointer (some ⟨XS, 0, none⟩), .pointer (some ⟨XB, 0, none⟩)] l0 n J Jx W := by
  refine callsIn_of_wp Try.func107 rfl trivial ?_ rfl
  simp only [Try.ntmps107, List.size_toArray, List.length_cons, List.length_nil, Nat.reduceAdd, Nat.reduceSub, Array.replicate_succ, Array.replicate_zero, List.push_toArray, List.append_toArray, List.nil_append, List.cons_append]
  have HJ := Lib.hid (And.intro fJ (And.intro h0 (And.intro hR hC)))
  obtain ⟨c0, -, -, -⟩ := hC 0 W h0
  clear fJ h0 hR hC
  gi_wp2
  gi_loopg [8] n (fun m v wr => ∃ i : Nat, i + m = n ∧ v = .int .i64 (i : Nat) ∧ Aside (J i wr))
  case atStart => exact ⟨0, by omega, rfl, HJ.out.2.1⟩
  case round =>
    obtain ⟨i, him, rfl, HA⟩ := hrel
    cases gk with
    | zero =>
      obtain rfl : i = n := by omega
      gi_wp2
      go_end0
      exact ⟨⟨_, rfl⟩, .inl HA.out⟩
    | succ m1 =>
      have hlt : i < n := by omega
      obtain ⟨-, k1, k2, hW⟩ := HJ.out.2.2.2 _ _ HA.out
      obtain ⟨rfl, -⟩ := hW.sp (by omega)
      have hc := hW.cell i hlt
      obtain ⟨fn, tmps, assign, body, hyd, hRo⟩ := HJ.out.2.2.1 i _ HA.out hlt
      dsimp only at hyd
      rw [show (((p + i : Nat) : Int)) = (p : Int) + (i : Int) by push_cast; rfl] at hyd
      clear c0 hW
      gi_wp2
      refine ⟨rfl, hRo.mono ?_⟩
      rintro e W3 (⟨rfl, hJ3, -⟩ | ⟨rfl, hJx3, -⟩)
      · have H3 := Lib.hid hJ3
        clear hJ3 hyd hRo
        gi_wp2
        go_roundg m1
        case measure => omega
        case rel => exact ⟨i + 1, by omega, by go_num, H3.out⟩
      · have H3 := Lib.hid hJx3
        clear hJx3 hyd hRo
        gi_wp2
        refine bodyPost_ret (results_none rfl _ _ _) rfl ?_
        exact ⟨⟨_, rfl⟩, .inr ⟨i + 1, by omega, H3.out⟩⟩
end Go.Proofs.Ythpagbfabpfngaa
/- What bank's loops keep from round to round; the contract of Worn. -/
namespace Go.Proofs.Ythpagbfabpfngaa
open Go.RowKit
attribute [local go_sem] Oper.semAt_some

/-- What a loop over a bank keeps: the bank, cells of the call's own, its result. -/
structure LI (w0 : World) (T : Nat → Prop) (Z R : Nat) (C : List (Addr × Value)) (B q S : Nat) (g : Nat → Nat) (n0 : Nat) (d : Dev) (base many : Nat) (op : Bool) (P : List (BitVec 32)) (r : Value) (w : World) : Prop where
  bk : Bk w B q S g d base many op P
  ns : d.ns = n0
  cs : ∀ x ∈ C, w.cell? x.1 = some x.2 ∧ w0.heap.size ≤ x.1.block ∧ x.1.block < Z ∧ x.1.block ≠ R
  res : w.cell? ⟨R, 0, none⟩ = some r
  fr : w.frozen? ⟨R, 0, none⟩ = false
  rz : w0.heap.size ≤ R ∧ R < Z
  sz : Z ≤ w.heap.size
  ch : Ch T w0 w
  lo : ∀ j, OwnB B q S g n0 j → j < w0.heap.size
def LF (Z : Nat) (_ : World) (j : Nat) : Prop := j < Z
section
variable {w0 : World} {T : Nat → Prop} {Z R : Nat} {C : List (Addr × Value)} {B q S : Nat} {g : Nat → Nat} {n0 : Nat} {d d' : Dev} {base many : Nat} {op : Bool} {P : List (BitVec 32)} {r : Value} {w w' : World}
theorem LI.new (h : LI w0 T Z R C B q S g n0 d base many op P r w) (hb : Below w.heap.size w w') : LI w0 T Z R C B q S g n0 d base many op P r w' := by
  have c : Ch (fun _ => False) w w' := Ch.new hb
  exact ⟨h.bk.new hb, h.ns, fun x hx => ⟨c.cell (h.cs x hx).1 (fun h => h), (h.cs x hx).2⟩, c.cell h.res (fun h => h), (c.frozenCell h.res (fun h => h)).trans h.fr, h.rz, Nat.le_trans h.sz c.size, h.ch.trans (Ch.new hb), h.lo⟩
theorem LI.dn (h : LI w0 T Z R C B q S g n0 d base many op P r w) (n : Nat) : LI w0 T Z R C B q S g n0 d base many op P r (w.drewN n) := h.new (below_dn (Below.refl _ _) n)
theorem LI.keep (h : LI w0 T Z R C B q S g n0 d base many op P r w) (hc : Ch (fun j => ¬ LF Z w j) w w') : LI w0 T Z R C B q S g n0 d base many op P r w' := by
  have h1 : ∀ j, j < Z → ¬ ¬ LF Z w j := fun j hj hn => hn hj
  have hz := h.rz
  refine ⟨h.bk.keep hc (fun j hj => h1 j (by have := h.lo j (by rw [← h.ns]; exact hj); omega)), h.ns, fun x hx => ⟨hc.cell (h.cs x hx).1 (h1 _ (h.cs x hx).2.2.1), (h.cs x hx).2⟩, hc.cell h.res (h1 _ hz.2), (hc.frozenCell h.res (h1 _ hz.2)).trans h.fr, h.rz, Nat.le_trans h.sz hc.size, ?_, h.lo⟩
  refine ⟨hc.os.trans h.ch.os, hc.tape.trans h.ch.tape, hc.output.trans h.ch.output, Nat.le_trans h.ch.size hc.size, fun k hk hn => ?_⟩
  rw [hc.block k (Nat.lt_of_lt_of_le hk h.ch.size) (h1 k (by omega))]
  exact h.ch.block k hk hn
theorem LI.foot : Foot (LF Z) (LI w0 T Z R C B q S g n0 d base many op P r) where
  lt := fun _W h _j hj => Nat.lt_of_lt_of_le hj h.sz
  keep := fun _W _W' h hc => ⟨h.keep hc, fun _j hj => hj⟩
/-- The device is turned. -/
theorem LI.turn (h : LI w0 T Z R C B q S g n0 d base many op P r w) (hT : ∀ j, OwnD q S g n0 j → T j) (hd : DevAt w' q S g d') (hs : d'.ns = d.ns ∧ d'.nw = d.nw) (hc : Ch (OwnD q S g d.ns) w w') : LI w0 T Z R C B q S g n0 d' base many op P r w' := by
  have hz := h.rz
  have hl : ∀ j, w0.heap.size ≤ j → ¬ OwnD q S g d.ns j := fun j hj ho => by have := h.lo j (.inr (by rw [← h.ns]; exact ho)); omega
  exact ⟨h.bk.dev' hd hs hc, hs.1.trans h.ns, fun x hx => ⟨hc.cell (h.cs x hx).1 (hl _ (h.cs x hx).2.1), (h.cs x hx).2⟩, hc.cell h.res (hl _ hz.1), (hc.frozenCell h.res (hl _ hz.1)).trans h.fr, h.rz, Nat.le_trans h.sz hc.size, h.ch.trans (hc.mono fun j _ hj => hT j (by rw [← h.ns]; exact hj)), h.lo⟩
/-- The result is set. -/
theorem LI.ret (h : LI w0 T Z R C B q S g n0 d base many op P r w) (v : Value) : LI w0 T Z R C B q S g n0 d base many op P v (w.setCell ⟨R, 0, none⟩ v) := by
  have hz := h.rz
  have hc : Ch (fun j => j = R) w (w.setCell ⟨R, 0, none⟩ v) := (Ch.refl _ _).setCell _ _ (.inl rfl)
  refine ⟨h.bk.keep hc (fun j hj e => by have := h.lo j (by rw [← h.ns]; exact hj); omega), h.ns, fun x hx => ⟨hc.cell (h.cs x hx).1 (h.cs x hx).2.2.2, (h.cs x hx).2⟩, World.cell?_setCell_same _ _ _ h.res, by rw [World.frozen?_setCell]; exact h.fr, h.rz, Nat.le_trans h.sz hc.size, ?_, h.lo⟩
  exact ⟨hc.os.trans h.ch.os, hc.tape.trans h.ch.tape, hc.output.trans h.ch.output, Nat.le_trans h.ch.size hc.size, fun k hk hn => (hc.block k (Nat.lt_of_lt_of_le hk h.ch.size) (by omega)).trans (h.ch.block k hk hn)⟩
theorem LI.off (h : LI w0 T Z R C B q S g n0 d base many op P r w) (j : Nat) (hj : OwnB B q S g d.ns j) : j < Z ∧ j ≠ R := by
  have := h.lo j (by rw [← h.ns]; exact hj)
  have := h.rz
  exact ⟨by omega, by omega⟩
theorem LF.step (h : Ch (LF Z w) w w') : Step (LF Z) w w' := ⟨h, fun _j hj => .inl hj⟩
/-- What is there behind the loop: the range's mark is taken off. -/
theorem LI.done (h : LI w0 T Z R C B q S g n0 d base many op P r w) (o : Obj) : LI w0 T Z R C B q S g n0 d base many op P r (w.putObj Z o) := h.keep ((Ch.refl _ w).putObj _ _ (fun hn => Nat.lt_irrefl _ hn))
theorem LI.none_below (h : LI w0 (fun _ => False) Z R C B q S g n0 d base many op P r w) : Below w0.heap.size w0 w := h.ch.below (fun _ _ h => h) (Nat.le_refl _)
end

theorem LI.grow {w0 : World} {T : Nat → Prop} {Z R : Nat} {C : List (Addr × Value)} {B q S : Nat} {g : Nat → Nat} {n0 : Nat} {d : Dev} {base many : Nat} {op : Bool} {P : List (BitVec 32)} {r : Value} {w : World} (h : LI w0 T Z R C B q S g n0 d base many op P r w) (v : Value) (ty : TypeId) :
    LI w0 T (w.heap.size + 1) R ((⟨w.heap.size, 0, none⟩, v) :: C) B q S g n0 d base many op P r (w.alloc (.cells #[v] ty)) := by
  have h1 := h.new ((Below.refl w.heap.size w).alloc (Nat.le_refl _) (.cells #[v] ty))
  have hs := h.sz
  have hrz := h.rz
  refine ⟨h1.bk, h1.ns, fun x hx => ?_, h1.res, h1.fr, ⟨hrz.1, by omega⟩, by simp, h1.ch, h1.lo⟩
  rcases List.mem_cons.1 hx with rfl | hx
  · exact ⟨(BoxAt.mk_new w #[v] ty).cell 0 _ rfl, h.ch.size, Nat.lt_succ_self _, by simp only; omega⟩
  · obtain ⟨a1, a2, a3, a4⟩ := h1.cs x hx
    exact ⟨a1, a2, by omega, a4⟩
theorem LI.cell {w0 : World} {T : Nat → Prop} {Z R : Nat} {C : List (Addr × Value)} {B q S : Nat} {g : Nat → Nat} {n0 : Nat} {d : Dev} {base many : Nat} {op : Bool} {P : List (BitVec 32)} {r : Value} {w : World} (h : LI w0 T Z R C B q S g n0 d base many op P r w) (x : Addr × Value) (hx : x ∈ C) : w.cell? x.1 = some x.2 := (h.cs x hx).1

/-- Can a sector not be erased any more? -/
def wornB (d : Dev) (base many : Nat) : Bool := (List.range many).any fun k => decide (d.limit ≤ d.worn (secN base many k))
theorem worn_sec {d : Dev} (s : Nat) (h : s < d.ns) : d.wornS (s : Int) = d.worn s := by
  unfold Dev.wornS Dev.has
  simp [h]
theorem wornB_none {d : Dev} {base many : Nat} (h : ∀ i, i < many → ¬ d.limit ≤ d.worn (secN base many i)) : wornB d base many = false := by
  unfold wornB
  rw [List.any_eq_false]
  intro i hi
  simpa using h i (by simpa using hi)
theorem wornB_some {d : Dev} {base many k : Nat} (hk : k < many) (h : d.limit ≤ d.worn (secN base many k)) : wornB d base many = true := by
  unfold wornB
  rw [List.any_eq_true]
  exact ⟨k, by simpa using hk, by simpa using h⟩
set_option maxHeartbeats 4000000 in
set_option maxRecDepth 100000 in
theorem bworn_any {w : World} {B q S : Nat} {g : Nat → Nat} {d : Dev} {base many : Nat} {op : Bool} {P : List (BitVec 32)} (h : Bk w B q S g d base many op P) :
    Calls Try.prog 17 #[.pointer (some ⟨B, 0, none⟩)] w fun e w' => e = .returned (.bool (wornB d base many)) ∧ Below w.heap.size w w' := by
  refine (callsIn_wide (n := 0)).1 ?_
  refine callsIn_of_wp_marks Try.func17 rfl trivial ?_ rfl
  simp only [Try.ntmps17, List.size_toArray, List.length_cons, List.length_nil, Nat.reduceAdd, Nat.reduceSub, Array.replicate_succ, Array.replicate_zero, List.push_toArray, List.append_toArray, List.nil_append, List.cons_append]
  obtain ⟨A, hA⟩ : ∃ A, A = w.heap.size := ⟨_, rfl⟩
  gi_wp2_with (refine ⟨trivial, rfl, ?_⟩; gi_at_call 51; refine (callsIn_wide.2 (sectorsB_any _ _)).mono ?_; rintro e w' ⟨rfl, rfl⟩)
  generalize hw1 : World.alloc _ (Obj.cells #[Value.pointer (some ⟨B, 0, none⟩)] 35) = w1
  have z1 : w1.heap.size = A + 3 := by rw [← hw1, hA]; simp
  have b1 : Below w.heap.size w w1 := by rw [← hw1]; exact (((Below.refl _ w).alloc (Nat.le_refl _) _).alloc (by simp) _).alloc (by simp; omega) _
  have hlo := h.lt
  have H1 := Lib.hid (show LI w (fun _ => False) (A + 3) (A + 1) [(⟨A, 0, none⟩, .pointer (some ⟨B, 0, none⟩)), (⟨A + 1 + 1, 0, none⟩, .pointer (some ⟨B, 0, none⟩))] B q S g d.ns d base many op P (.bool false) w1 from by
    refine ⟨h.new b1, rfl, ?_, by rw [← hw1, hA]; simp [go_sem], by rw [← hw1, hA]; simp [go_sem], by omega, by omega, Ch.new b1, hlo⟩
    intro x hx
    simp at hx
    rcases hx with rfl | rfl
    · exact ⟨by rw [← hw1, hA]; simp [go_sem], by simp; omega, by simp, by simp⟩
    · exact ⟨by rw [← hw1, hA]; simp [go_sem], by simp; omega, by simp, by simp⟩)
  have HH := Lib.hid (And.intro hA (And.intro z1 h.fit))
  have hz := h.dev.zn
  have HZ := Lib.hid hz
  rw [← hA]
  clear hw1 b1 hlo h z1 hz hA
  refine wpIn_rangeF (gf := 91) (lb := #[.pointer (some ⟨A + 1 + 1, 0, none⟩)]) rfl (enters_of Try.func91 (by kernel_rfl) rfl)
    many (fun k => #[.int .i64 (secN base many k : Nat)]) (fun _ => rfl) (LF (A + 3))
    (fun k W => LI w (fun _ => False) (A + 3) (A + 1) [(⟨A, 0, none⟩, .pointer (some ⟨B, 0, none⟩)), (⟨A + 1 + 1, 0, none⟩, .pointer (some ⟨B, 0, none⟩))] B q S g d.ns d base many op P (.bool false) W ∧ ∀ i, i < k → ¬ d.limit ≤ d.worn (secN base many i))
    (fun c _ W => c = .ret ∧ LI w (fun _ => False) (A + 3) (A + 1) [(⟨A, 0, none⟩, .pointer (some ⟨B, 0, none⟩)), (⟨A + 1 + 1, 0, none⟩, .pointer (some ⟨B, 0, none⟩))] B q S g d.ns d base many op P (.bool true) W ∧ wornB d base many = true)
    (fun _ => ⟨fun W h => LI.foot.lt W h.1, fun W W' h hc => ⟨⟨(LI.foot.keep W W' h.1 hc).1, h.2⟩, fun _ hj => hj⟩⟩)
    (fun _ _ => ⟨fun W h => LI.foot.lt W h.2.1, fun W W' h hc => ⟨⟨h.1, (LI.foot.keep W W' h.2.1 hc).1, h.2.2⟩, fun _ hj => hj⟩⟩) ⟨H1.out, fun i hi => absurd hi (Nat.not_lt_zero i)⟩
    (fun k a' _ => a' = { tmps := #[.pointer (some ⟨B, 0, none⟩), .pointer (some ⟨A, 0, none⟩), .pointer (some ⟨A + 1, 0, none⟩), .int .i64 (secN base many k : Nat), .pointer (some ⟨B, 0, none⟩), .func (.func 91) #[] #[.pointer (some ⟨A + 1 + 1, 0, none⟩)], .int .i64 (secN base many k : Nat), undef, undef, undef, undef, undef, undef, undef, undef, undef, undef, undef, undef], defers := [] })
    (fun _ _ _ _ h _ => h) ?hit ?assign ?body ?done ?stop
  case hit =>
    intro J Jx W1 h1 h2 h3 h4 h5 h6 h7 h8
    refine sectors_in _ (A + 1 + 1) B base many _ J Jx W1 (by have := HH.out; have := HZ.out; omega) (fun k W' hJ => ?_) h7 h5 h8
    have hL := (h3 k W' hJ).1.1
    exact ⟨(hL.cs (⟨A + 1 + 1, 0, none⟩, .pointer (some ⟨B, 0, none⟩)) (by simp)).1, hL.bk.c1, hL.bk.c2⟩
  case assign =>
    intro k W K hi hk hK
    gi_wp2
    exact hK _ _ rfl (Ch.refl _ _) hi (fun _ h => h)
  case body =>
    rintro k a' W ⟨hi, hn⟩ hk rfl hz
    have p0 := (hi.cs (⟨A, 0, none⟩, .pointer (some ⟨B, 0, none⟩)) (by simp)).1
    have c0 := hi.bk.c0
    have hs := secN_lt (base := base) (k := k) HH.out.2.2.2.1
    have hsn : secN base many k < d.ns := by have := HH.out; omega
    have HWn := fun n => Lib.hid (by have := quietly (worn_any (hi.dn n).bk.dev (secN base many k : Nat)); rw [worn_sec _ hsn] at this; exact this)
    have HLm := fun n => Lib.hid (quietly (limit_any (hi.dn n).bk.dev))
    have HI := Lib.hid (And.intro hi hn)
    obtain ⟨s, hsec⟩ : ∃ s, secN base many k = s := ⟨_, rfl⟩
    rw [hsec] at HWn hs hsn
    obtain ⟨lm, hlm⟩ : ∃ lm, d.limit = lm := ⟨_, rfl⟩
    obtain ⟨ww, hww⟩ : ∃ ww, d.worn s = ww := ⟨_, rfl⟩
    rw [hlm] at HLm
    rw [hww] at HWn
    rw [hsec]
    have HE := Lib.hid (And.intro hsec (And.intro hlm hww))
    clear hi hn hsec hlm hww hs hsn hz
    by_cases hw : lm ≤ ww
    · have d1 : decide (lm ≤ ww) = true := by simpa using hw
      have HW := Lib.hid hw
      clear hw
      gi_wp2
      refine wpIn_region_quiet0 (by kernel_rfl) (by kernel_rfl) (by kernel_rfl) (fun _ _ h => h) ?_
      repeat (quiet_step (first | (go_at_call 52; exact (HWn _).out) | (go_at_call 53; exact (HLm _).out)))
      refine wpQuiet_nil ?_
      intro _ hw1
      obtain ⟨nq, hw2⟩ := hw1
      subst hw2
      have H2 := Lib.hid (HI.out.1.dn nq)
      have r2 := H2.out.res
      have f2 := H2.out.fr
      gi_wp2
      refine ⟨LF.step (((Ch.refl _ W).drewN nq).setCell _ _ (.inl (show A + 1 < A + 3 by omega))), rfl, H2.out.ret _, wornB_some hk ?_⟩
      rw [HE.out.1, HE.out.2.1, HE.out.2.2]
      exact HW.out
    · have d1 : decide (lm ≤ ww) = false := by simpa using hw
      have HW := Lib.hid hw
      clear hw
      gi_wp2
      refine wpIn_region_quiet0 (by kernel_rfl) (by kernel_rfl) (by kernel_rfl) (fun _ _ h => h) ?_
      repeat (quiet_step (first | (go_at_call 52; exact (HWn _).out) | (go_at_call 53; exact (HLm _).out)))
      refine wpQuiet_nil ?_
      intro _ hw1
      obtain ⟨nq, hw2⟩ := hw1
      subst hw2
      have H2 := Lib.hid (HI.out.1.dn nq)
      gi_wp2
      refine ⟨LF.step ((Ch.refl _ W).drewN nq), H2.out, fun i hi => ?_⟩
      rcases Nat.lt_or_ge i k with h1 | h1
      · exact HI.out.2 i h1
      · obtain rfl : i = k := by omega
        rw [HE.out.1, HE.out.2.1, HE.out.2.2]
        exact HW.out
  case done =>
    rintro W ⟨hi, hn⟩ hD hnD hz
    rw [HH.out.2.1] at hD hnD hz
    have HI := Lib.hid (And.intro hi (wornB_none hn))
    have HD := Lib.hid (And.intro hD hz)
    have r2 := hi.res
    have f2 := hi.fr
    clear hi hn hD hnD hz
    gi_wp2
    rw [HH.out.2.1]
    have hc : Ch (fun j => j = A + 1) W (W.setCell ⟨A + 1, 0, none⟩ (.bool false)) := (Ch.refl _ _).setCell _ _ (.inl rfl)
    have hD' := hc.obj HD.out.1 (by omega)
    have hI := (HI.out.1.ret (.bool false)).done (.deferred none)
    have hr := hI.res
    refine ⟨by simp, .inl ⟨_, _, rfl, run_takeDeferred hD', ?_⟩⟩
    refine ⟨.bool false, ?_, ?_, hI.none_below⟩
    · simp [results, Try.results17, go_sem, hr]
    · rw [HI.out.2]
  case stop =>
    rintro c k W hk ⟨rfl, hi, ht⟩ hD hnD hz
    rw [HH.out.2.1] at hD hnD hz
    have HI := Lib.hid (And.intro hi ht)
    have HD := Lib.hid (And.intro hD hz)
    clear hi ht hD hnD hz
    gi_wp2
    rw [HH.out.2.1]
    have hI := HI.out.1.done (.deferred none)
    have hr := hI.res
    refine ⟨by simp, .inl ⟨_, _, rfl, run_takeDeferred HD.out.1, ?_⟩⟩
    refine ⟨.bool true, ?_, ?_, hI.none_below⟩
    · simp [results, Try.results17, go_sem, hr]
    · rw [HI.out.2]
end Go.Proofs.Ythpagbfabpfngaa
/- The contract of bank's blank. -/
namespace Go.Proofs.Ythpagbfabpfngaa
open Go.RowKit
attribute [local go_sem] Oper.semAt_some

/-- What stays of the numbers, in so many operations. -/
structure Dev.keptN (d d' : Dev) (n : Nat) : Prop where
  ns : d'.ns = d.ns
  nw : d'.nw = d.nw
  lim : d'.limit = d.limit
  ops : 0 ≤ d'.ops ∧ d'.ops ≤ d.ops + n
  af : -9223372036854775808 ≤ d'.after ∧ d'.after ≤ 9223372036854775807
  worn : ∀ i, 0 ≤ d'.worn i
theorem keptN_refl {d : Dev} (h : d.okE) : d.keptN d 0 := ⟨rfl, rfl, rfl, ⟨h.1.1, by omega⟩, h.1.2.2, h.2.2⟩
theorem Dev.kept.n {d d' : Dev} (h : d.kept d') : d.keptN d' 1 := ⟨h.ns, h.nw, h.lim, ⟨h.ops.1, by have := h.ops.2; omega⟩, h.af, h.worn⟩
theorem Dev.keptN.trans {d d' d'' : Dev} {n m : Nat} (h : d.keptN d' n) (h' : d'.keptN d'' m) : d.keptN d'' (n + m) :=
  ⟨h'.ns.trans h.ns, h'.nw.trans h.nw, h'.lim.trans h.lim, ⟨h'.ops.1, by have := h'.ops.2; have := h.ops.2; omega⟩, h'.af, h'.worn⟩
theorem Dev.keptN.mono {d d' : Dev} {n m : Nat} (h : d.keptN d' n) (hm : n ≤ m) : d.keptN d' m := ⟨h.ns, h.nw, h.lim, ⟨h.ops.1, by have := h.ops.2; omega⟩, h.af, h.worn⟩
theorem Dev.keptN.okE {d d' : Dev} {n : Nat} (h : d.keptN d' n) (ho : d.okE) (hn : d.ops + n ≤ 1000000) : d'.okE := ⟨⟨h.ops.1, by have := h.ops.2; omega, h.af⟩, by rw [h.lim]; exact ho.2.1, h.worn⟩
theorem erase_kept {d : Dev} (h : d.okE) (s : Int) : d.keptN (d.erase s).1 1 := (step_kept h ⟨4, s, 0, 0#32⟩ (by simp)).n
theorem program_kept {d : Dev} (h : d.okE) (s k : Int) (x : BitVec 32) (hk : -9223372036854775808 ≤ k ∧ k ≤ 9223372036854775807) : d.keptN (d.program s k x).1 1 := (step_kept h ⟨0, s, k, x⟩ hk).n

/-- Sectors are erased one behind the other, as long as it goes. -/
def eraseK (d : Dev) (base many : Nat) : Nat → Dev × Int
  | 0 => (d, 0)
  | k + 1 => if (eraseK d base many k).2 = 0 then (eraseK d base many k).1.erase (secN base many k : Nat) else eraseK d base many k
theorem eraseK_stuck {d : Dev} {base many k : Nat} (h : (eraseK d base many k).2 ≠ 0) : ∀ j, k ≤ j → eraseK d base many j = eraseK d base many k := by
  intro j hj
  induction j with
  | zero => obtain rfl : k = 0 := by omega
            rfl
  | succ j ih =>
    rcases Nat.lt_or_ge j k with h1 | h1
    · obtain rfl : k = j + 1 := by omega
      rfl
    · have e := ih h1
      show (if (eraseK d base many j).2 = 0 then _ else eraseK d base many j) = _
      rw [e, if_neg h]
theorem eraseK_kept {d : Dev} {base many : Nat} (h : d.okE) (hn : d.ops + many ≤ 1000000) : ∀ k, k ≤ many → d.keptN (eraseK d base many k).1 k := by
  intro k
  induction k with
  | zero => intro _; exact keptN_refl h
  | succ k ih =>
    intro hk
    have i := ih (by omega)
    show d.keptN (if (eraseK d base many k).2 = 0 then _ else eraseK d base many k).1 _
    split
    · exact i.trans (erase_kept (i.okE h (by omega)) _)
    · exact i.mono (by omega)
/-- Void, and then blank, up to the first error. -/
def blankD (d : Dev) (base many : Nat) : Dev × Int := if (d.program (base : Nat) 0 0#32).2 = 0 then eraseK (d.program (base : Nat) 0 0#32).1 base many many else d.program (base : Nat) 0 0#32
theorem blankD_kept {d : Dev} {base many : Nat} (h : d.okE) (hn : d.ops + many + 1 ≤ 1000000) : d.keptN (blankD d base many).1 (many + 1) := by
  have h1 := program_kept h (base : Nat) 0 0#32 (by omega)
  have h2 := h1.okE h (by omega)
  unfold blankD
  split
  · have := h1.ops
    exact (h1.trans (eraseK_kept h2 (by omega) many (Nat.le_refl _))).mono (by omega)
  · exact h1.mono (by omega)
set_option maxHeartbeats 4000000 in
set_option maxRecDepth 100000 in
theorem bblank_any {w : World} {B q S : Nat} {g : Nat → Nat} {d : Dev} {base many : Nat} {op : Bool} {P : List (BitVec 32)} (h : Bk w B q S g d base many op P) (ho : d.okE) (hn : d.ops + many + 1 ≤ 1000000) :
    Calls Try.prog 76 #[.pointer (some ⟨B, 0, none⟩)] w fun e w' => e = .returned (.int .i64 (blankD d base many).2) ∧ Bk w' B q S g (blankD d base many).1 base many op P ∧ Ch (OwnD q S g d.ns) w w' := by
  refine (callsIn_wide (n := 0)).1 ?_
  refine callsIn_of_wp_marks Try.func76 rfl trivial ?_ rfl
  simp only [Try.ntmps76, List.size_toArray, List.length_cons, List.length_nil, Nat.reduceAdd, Nat.reduceSub, Array.replicate_succ, Array.replicate_zero, List.push_toArray, List.append_toArray, List.nil_append, List.cons_append]
  obtain ⟨A, hA⟩ : ∃ A, A = w.heap.size := ⟨_, rfl⟩
  obtain ⟨w0, hw0⟩ : ∃ w0, w0 = (w.alloc (.cells #[.pointer (some ⟨B, 0, none⟩)] 35)).alloc (.cells #[.int .i64 0] 32) := ⟨_, rfl⟩
  have b0 : Below w.heap.size w w0 := by rw [hw0]; exact ((Below.refl _ w).alloc (Nat.le_refl _) _).alloc (by simp) _
  have z0 : w0.heap.size = A + 2 := by rw [hw0, hA]; simp
  have hlo := h.lt
  have h0 : LI w (OwnD q S g d.ns) (A + 2) (A + 1) [(⟨A, 0, none⟩, .pointer (some ⟨B, 0, none⟩))] B q S g d.ns d base many op P (.int .i64 0) w0 := by
    refine ⟨h.new b0, rfl, ?_, by rw [hw0, hA]; simp [go_sem], by rw [hw0, hA]; simp [go_sem], by omega, by omega, Ch.new b0, hlo⟩
    intro x hx
    simp at hx
    subst hx
    exact ⟨by rw [hw0, hA]; simp [go_sem], by simp; omega, by simp, by simp⟩
  have H0 := Lib.hid h0
  have c0 := h0.bk.c0
  have c1 := h0.bk.c1
  have p0 := (h0.cs (⟨A, 0, none⟩, .pointer (some ⟨B, 0, none⟩)) (by simp)).1
  have r0 := h0.res
  have f0 := h0.fr
  have HZ := Lib.hid h.dev.zn
  have HH := Lib.hid (And.intro hA (And.intro h.fit (And.intro ho hn)))
  have hbs : (base : Int) ≤ 64 := by have := h.fit; have := h.dev.zn; omega
  have HPr := Lib.hid (program_any (H0.out.dn 1).bk.dev ho.1 (base : Nat) 0 0#32)
  have HK := Lib.hid (program_kept ho (base : Nat) 0 0#32 (by omega))
  have HE := Lib.hid (show blankD d base many = if (d.program (base : Nat) 0 0#32).2 = 0 then eraseK (d.program (base : Nat) 0 0#32).1 base many many else d.program (base : Nat) 0 0#32 from rfl)
  obtain ⟨⟨d1, e1⟩, hpr⟩ : ∃ p, d.program (base : Nat) 0 0#32 = p := ⟨_, rfl⟩
  rw [hpr] at HPr HK HE
  simp only at HPr HK HE
  clear h h0 b0 ho hn hpr
  gi_wp2
  rw [← hA, ← hw0]
  have HW0 := Lib.hid (And.intro hA hw0)
  clear hw0 hA
  by_cases he : e1 = 0
  · subst he
    rw [if_pos rfl] at HE
    refine wpIn_region_still_tail 9 (by kernel_rfl) (by kernel_rfl) ?_
    simp only [List.take_succ_cons, List.take_zero, List.drop_succ_cons, List.drop_zero]
    repeat still_step
    try refine wpStill_nil ?_
    gi_wp2_with (first
      | (refine ⟨trivial, rfl, ?_⟩; gi_at_call 98; refine (callsIn_wide.2 HPr.out).mono ?_; rintro e w2 ⟨rfl, h2d, h2c⟩; have H2 := Lib.hid ((H0.out.dn 1).turn (fun _ h => h) h2d ⟨HK.out.ns, HK.out.nw⟩ h2c); have p2 := H2.out.cell (⟨A, 0, none⟩, .pointer (some ⟨B, 0, none⟩)) (by simp); clear h2d h2c)
      | (refine ⟨trivial, rfl, ?_⟩; gi_at_call 51; refine (callsIn_wide.2 (sectorsB_any _ _)).mono ?_; rintro e w' ⟨rfl, rfl⟩)
      | fail)
    obtain ⟨X, hX⟩ : ∃ X, X = w2.heap.size := ⟨_, rfl⟩
    obtain ⟨w3, hw3⟩ : ∃ w3, w3 = w2.alloc (.cells #[.pointer (some ⟨B, 0, none⟩)] 35) := ⟨_, rfl⟩
    have H3 := Lib.hid (show LI w (OwnD q S g d.ns) (X + 1) (A + 1) [(⟨X, 0, none⟩, .pointer (some ⟨B, 0, none⟩)), (⟨A, 0, none⟩, .pointer (some ⟨B, 0, none⟩))] B q S g d.ns d1 base many op P (.int .i64 0) w3 from by rw [hw3, hX]; exact H2.out.grow _ _)
    have z3 := Lib.hid (show w3.heap.size = X + 1 from by rw [hw3, hX]; simp)
    have HO := Lib.hid (HK.out.okE HH.out.2.2.1 (by have := HH.out.2.2.2; omega))
    have HOn := Lib.hid (show d1.ops + many ≤ 1000000 from by have := HK.out.ops; have := HH.out.2.2.2; omega)
    rw [← hw3, ← hX]
    clear hw3 hX p2 c0 c1 p0 r0 f0 H0 H2 HPr
    refine wpIn_rangeF (gf := 91) (lb := #[.pointer (some ⟨X, 0, none⟩)]) rfl (enters_of Try.func91 (by kernel_rfl) rfl)
      many (fun k => #[.int .i64 (secN base many k : Nat)]) (fun _ => rfl) (LF (X + 1))
      (fun k W => LI w (OwnD q S g d.ns) (X + 1) (A + 1) [(⟨X, 0, none⟩, .pointer (some ⟨B, 0, none⟩)), (⟨A, 0, none⟩, .pointer (some ⟨B, 0, none⟩))] B q S g d.ns (eraseK d1 base many k).1 base many op P (.int .i64 0) W ∧ (eraseK d1 base many k).2 = 0)
      (fun c _ W => c = .ret ∧ ∃ k e, k ≤ many ∧ e ≠ 0 ∧ (eraseK d1 base many k).2 = e ∧ LI w (OwnD q S g d.ns) (X + 1) (A + 1) [(⟨X, 0, none⟩, .pointer (some ⟨B, 0, none⟩)), (⟨A, 0, none⟩, .pointer (some ⟨B, 0, none⟩))] B q S g d.ns (eraseK d1 base many k).1 base many op P (.int .i64 e) W)
      (fun _ => ⟨fun W h => LI.foot.lt W h.1, fun W W' h hc => ⟨⟨(LI.foot.keep W W' h.1 hc).1, h.2⟩, fun _ hj => hj⟩⟩)
      (fun _ _ => ⟨fun W ⟨_, _, _, _, _, _, h⟩ => LI.foot.lt W h, fun W W' ⟨h1, k, e, h2, h3, h4, h⟩ hc => ⟨⟨h1, k, e, h2, h3, h4, (LI.foot.keep W W' h hc).1⟩, fun _ hj => hj⟩⟩) ⟨H3.out, rfl⟩
      (fun k a' _ => ∃ t3 t5 t6 t7 t8 t9 t10 t11 t12 t13 t14 t15 t16 t17 t18 t19 t22 t23 t24 t25 t26 t27 t28 t29 t30 : Value, a' = { tmps := #[.pointer (some ⟨B, 0, none⟩), .pointer (some ⟨A, 0, none⟩), .pointer (some ⟨A + 1, 0, none⟩), t3, .int .i64 (secN base many k : Nat), t5, t6, t7, t8, t9, t10, t11, t12, t13, t14, t15, t16, t17, t18, t19, .func (.func 91) #[] #[.pointer (some ⟨X, 0, none⟩)], .int .i64 (secN base many k : Nat), t22, t23, t24, t25, t26, t27, t28, t29, t30], defers := [] })
      (fun _ _ _ _ h _ => h) ?hit ?assign ?body ?done ?stop
    case hit =>
      intro J Jx W1 h1 h2 h3 h4 h5 h6 h7 h8
      refine sectors_in _ X B base many _ J Jx W1 (by have := HH.out; have := HZ.out; omega) (fun k W' hJ => ?_) h7 h5 h8
      have hL := (h3 k W' hJ).1.1
      exact ⟨hL.cell (⟨X, 0, none⟩, .pointer (some ⟨B, 0, none⟩)) (by simp), hL.bk.c1, hL.bk.c2⟩
    case assign =>
      intro k W K hi hk hK
      gi_wp2
      exact hK _ _ ⟨_, _, _, _, _, _, _, _, _, _, _, _, _, _, _, _, _, _, _, _, _, _, _, _, _, rfl⟩ (Ch.refl _ _) hi (fun _ h => h)
    case body =>
      rintro k a' W ⟨hi, hn⟩ hk ⟨t3, t5, t6, t7, t8, t9, t10, t11, t12, t13, t14, t15, t16, t17, t18, t19, t22, t23, t24, t25, t26, t27, t28, t29, t30, rfl⟩ hz
      have hE : eraseK d1 base many (k + 1) = (eraseK d1 base many k).1.erase (secN base many k : Nat) := by show (if (eraseK d1 base many k).2 = 0 then _ else _) = _; rw [if_pos hn]
      have hkk := eraseK_kept (base := base) HO.out HOn.out k (by omega)
      have hok := hkk.okE HO.out (by have := HOn.out; omega)
      obtain ⟨dk, hdk⟩ : ∃ dk, (eraseK d1 base many k).1 = dk := ⟨_, rfl⟩
      rw [hdk] at hi hE hok
      obtain ⟨s, hs⟩ : ∃ s, secN base many k = s := ⟨_, rfl⟩
      rw [hs] at hE ⊢
      have her := erase_any hi.bk.dev hok (s : Nat)
      have hek := erase_kept hok (s : Nat)
      obtain ⟨⟨d2, e2⟩, hp⟩ : ∃ p, dk.erase (s : Nat) = p := ⟨_, rfl⟩
      rw [hp] at hE her hek
      simp only at her hek
      have HEr := Lib.hid her
      have HI := Lib.hid (And.intro hi (And.intro hek hE))
      have p0 := hi.cell (⟨A, 0, none⟩, .pointer (some ⟨B, 0, none⟩)) (by simp)
      have c0 := hi.bk.c0
      clear hn hkk hok hdk hs her hek hp hE hi hz
      by_cases he : e2 = 0
      · subst he
        gi_wp2_with (first
          | (refine ⟨trivial, rfl, ?_⟩; gi_at_call 106; refine (CallsIn.inRound _ (callsIn_wide.2 HEr.out)).mono ?_; rintro e w4 ⟨rfl, h4d, h4c⟩; have H4 := Lib.hid (And.intro (HI.out.1.turn (fun _ h => h) h4d ⟨HI.out.2.1.ns, HI.out.2.1.nw⟩ h4c) h4c); clear h4d h4c)
          | fail)
        refine ⟨LF.step (H4.out.2.mono fun j _ hj => (HI.out.1.off j (.inr hj)).1), ?_, ?_⟩
        · rw [HI.out.2.2]; exact H4.out.1
        · rw [HI.out.2.2]
      · gi_wp2_with (first
          | (refine ⟨trivial, rfl, ?_⟩; gi_at_call 106; refine (CallsIn.inRound _ (callsIn_wide.2 HEr.out)).mono ?_; rintro e w4 ⟨rfl, h4d, h4c⟩; have H4 := Lib.hid (And.intro (HI.out.1.turn (fun _ h => h) h4d ⟨HI.out.2.1.ns, HI.out.2.1.nw⟩ h4c) h4c); have r4 := H4.out.1.res; have f4 := H4.out.1.fr; clear h4d h4c)
          | fail)
        refine ⟨LF.step ((H4.out.2.mono fun j _ hj => (HI.out.1.off j (.inr hj)).1).setCell _ _ (.inl (show A + 1 < X + 1 from by have := HI.out.1.rz; omega))), rfl, k + 1, e2, by omega, he, ?_, ?_⟩
        · rw [HI.out.2.2]
        · rw [HI.out.2.2]; exact H4.out.1.ret _
    case done =>
      rintro W ⟨hi, hn⟩ hD hnD hz
      rw [z3.out] at hD hnD hz
      have HI := Lib.hid (And.intro hi hn)
      have HD := Lib.hid (And.intro hD hz)
      have r2 := hi.res
      have f2 := hi.fr
      clear hi hn hD hnD hz
      gi_wp2
      rw [z3.out]
      have hc : Ch (fun j => j = A + 1) W (W.setCell ⟨A + 1, 0, none⟩ (.int .i64 0)) := (Ch.refl _ _).setCell _ _ (.inl rfl)
      have hD' := hc.obj HD.out.1 (by have := HI.out.1.rz; omega)
      have hI := (HI.out.1.ret (.int .i64 0)).done (.deferred none)
      have hr := hI.res
      refine ⟨by simp, .inl ⟨_, _, rfl, run_takeDeferred hD', ?_⟩⟩
      refine ⟨.int .i64 0, ?_, ?_, ?_, hI.ch⟩
      · simp [results, Try.results76, go_sem, hr]
      · rw [HE.out, HI.out.2]
      · rw [HE.out]; exact hI.bk
    case stop =>
      rintro c _ W _ ⟨rfl, k, e, hk, hne, hn, hi⟩ hD hnD hz
      rw [z3.out] at hD hnD hz
      have hst := eraseK_stuck (by rw [hn]; exact hne) many hk
      have HI := Lib.hid (And.intro hi (And.intro hn hst))
      have HD := Lib.hid (And.intro hD hz)
      clear hi hn hD hnD hz hst
      gi_wp2
      rw [z3.out]
      have hI := HI.out.1.done (.deferred none)
      have hr := hI.res
      refine ⟨by simp, .inl ⟨_, _, rfl, run_takeDeferred HD.out.1, ?_⟩⟩
      refine ⟨.int .i64 e, ?_, ?_, ?_, hI.ch⟩
      · simp [results, Try.results76, go_sem, hr]
      · rw [HE.out, HI.out.2.2, HI.out.2.1]
      · rw [HE.out, HI.out.2.2]; exact hI.bk
  · rw [if_neg he] at HE
    refine wpIn_region_still_tail 9 (by kernel_rfl) (by kernel_rfl) ?_
    simp only [List.take_succ_cons, List.take_zero, List.drop_succ_cons, List.drop_zero]
    repeat still_step
    try refine wpStill_nil ?_
    gi_wp2_with (first
      | (refine ⟨trivial, rfl, ?_⟩; gi_at_call 98; refine (callsIn_wide.2 HPr.out).mono ?_; rintro e w2 ⟨rfl, h2d, h2c⟩; have H2 := Lib.hid ((H0.out.dn 1).turn (fun _ h => h) h2d ⟨HK.out.ns, HK.out.nw⟩ h2c); have r2 := H2.out.res; have f2 := H2.out.fr; clear h2d h2c)
      | fail)
    have hI := H2.out.ret (.int .i64 e1)
    have hr := hI.res
    refine ⟨.int .i64 e1, ?_, ?_, ?_, hI.ch⟩
    · simp [results, Try.results76, go_sem, hr]
    · rw [HE.out]
    · rw [HE.out]; exact hI.bk
end Go.Proofs.Ythpagbfabpfngaa
/- The contract of bank's program. -/
namespace Go.Proofs.Ythpagbfabpfngaa
open Go.RowKit
attribute [local go_sem] Oper.semAt_some

/-- Words are programmed one behind the other, as long as it goes. -/
def progK (d : Dev) (from_ : Nat) (at_ : Nat → Nat) (ws : Nat → BitVec 32) : Nat → Dev × Int
  | 0 => (d, 0)
  | k + 1 => if (progK d from_ at_ ws k).2 = 0 then (progK d from_ at_ ws k).1.program ((from_ + at_ k / d.nw : Nat) : Int) ((at_ k % d.nw : Nat) : Int) (ws k) else progK d from_ at_ ws k
theorem progK_stuck {d : Dev} {from_ : Nat} {at_ : Nat → Nat} {ws : Nat → BitVec 32} {k : Nat} (h : (progK d from_ at_ ws k).2 ≠ 0) : ∀ j, k ≤ j → progK d from_ at_ ws j = progK d from_ at_ ws k := by
  intro j hj
  induction j with
  | zero => obtain rfl : k = 0 := by omega
            rfl
  | succ j ih =>
    rcases Nat.lt_or_ge j k with h1 | h1
    · obtain rfl : k = j + 1 := by omega
      rfl
    · have e := ih h1
      show (if (progK d from_ at_ ws j).2 = 0 then _ else progK d from_ at_ ws j) = _
      rw [e, if_neg h]
theorem progK_kept {d : Dev} {from_ : Nat} {at_ : Nat → Nat} {ws : Nat → BitVec 32} {n : Nat} (h : d.okE) (hn : d.ops + n ≤ 1000000) (hw : d.nw ≤ 100000) (h0 : 0 < d.nw) : ∀ k, k ≤ n → d.keptN (progK d from_ at_ ws k).1 k := by
  intro k
  induction k with
  | zero => intro _; exact keptN_refl h
  | succ k ih =>
    intro hk
    have i := ih (by omega)
    show d.keptN (if (progK d from_ at_ ws k).2 = 0 then _ else progK d from_ at_ ws k).1 _
    split
    · exact i.trans (program_kept (i.okE h (by omega)) _ _ _ (by have := Nat.mod_lt (at_ k) h0; omega))
    · exact i.mono (by omega)
/-- What an iterator of words to be programmed promises. -/
def GivesTo (w : World) (q S : Nat) (g : Nat → Nat) (n0 : Nat) (gf : Nat) (lb : Array Value) (n : Nat) (at_ : Nat → Nat) (ws : Nat → BitVec 32) : Prop :=
  (∀ args w, (callFunc gf args).run Try.prog w = .ok (.enter gf args) w) ∧ ∀ l0 F J Jx W1, (∀ k W', J k W' → Ch (OwnD q S g n0) w W') → (∀ k, Foot F (J k)) →
    RoundsF Try.prog l0 n (fun k => #[.agg #[.int .i64 (at_ k : Nat), .int .u32 (w32 (ws k))]]) F J Jx → J 0 W1 → Iter Try.prog gf lb l0 n J Jx W1
set_option maxHeartbeats 4000000 in
set_option maxRecDepth 100000 in
theorem bprogram_any {w : World} {B q S : Nat} {g : Nat → Nat} {d : Dev} {base many : Nat} {op : Bool} {P : List (BitVec 32)} (h : Bk w B q S g d base many op P) (ho : d.okE) (frm : Nat) (hfr : frm ≤ 64) (gf : Nat) (lb : Array Value) (n : Nat) (at_ : Nat → Nat) (ws : Nat → BitVec 32)
    (hn : d.ops + n ≤ 1000000) (hat : ∀ k, k < n → at_ k ≤ 10000) (hG : GivesTo w q S g d.ns gf lb n at_ ws) :
    Calls Try.prog 77 #[.pointer (some ⟨B, 0, none⟩), .int .i64 (frm : Nat), .func (.func gf) #[] lb] w fun e w' => e = .returned (.int .i64 (progK d (base + frm) at_ ws n).2) ∧ Bk w' B q S g (progK d (base + frm) at_ ws n).1 base many op P ∧ Ch (OwnD q S g d.ns) w w' := by
  refine (callsIn_wide (n := 0)).1 ?_
  refine callsIn_of_wp_marks Try.func77 rfl trivial ?_ rfl
  simp only [Try.ntmps77, List.size_toArray, List.length_cons, List.length_nil, Nat.reduceAdd, Nat.reduceSub, Array.replicate_succ, Array.replicate_zero, List.push_toArray, List.append_toArray, List.nil_append, List.cons_append]
  obtain ⟨A, hA⟩ : ∃ A, A = w.heap.size := ⟨_, rfl⟩
  obtain ⟨w0, hw0⟩ : ∃ w0, ((w.alloc (.cells #[.pointer (some ⟨B, 0, none⟩)] 35)).alloc (.cells #[.int .i64 (frm : Nat)] 3)).alloc (.cells #[.int .i64 0] 32) = w0 := ⟨_, rfl⟩
  have b0 : Below w.heap.size w w0 := by rw [← hw0]; exact (((Below.refl _ w).alloc (Nat.le_refl _) _).alloc (by simp) _).alloc (by simp; omega) _
  have hlo := h.lt
  have h0 : LI w (OwnD q S g d.ns) (A + 3) (A + 1 + 1) [(⟨A, 0, none⟩, .pointer (some ⟨B, 0, none⟩)), (⟨A + 1, 0, none⟩, .int .i64 (frm : Nat))] B q S g d.ns d base many op P (.int .i64 0) w0 := by
    refine ⟨h.new b0, rfl, ?_, by rw [← hw0, hA]; simp [go_sem], by rw [← hw0, hA]; simp [go_sem], by omega, by rw [← hw0, hA]; simp, Ch.new b0, hlo⟩
    intro x hx
    simp at hx
    rcases hx with rfl | rfl
    · exact ⟨by rw [← hw0, hA]; simp [go_sem], by simp; omega, by simp, by simp; omega⟩
    · exact ⟨by rw [← hw0, hA]; simp [go_sem], by simp; omega, by simp, by simp⟩
  have H0 := Lib.hid h0
  have z0 := Lib.hid (show w0.heap.size = A + 3 from by rw [← hw0, hA]; simp)
  have HZ := Lib.hid h.dev.zn
  have HH := Lib.hid (And.intro hA (And.intro h.fit (And.intro ho (And.intro hn (And.intro hfr hat)))))
  have HG := Lib.hid hG
  clear h h0 b0 ho hn hG hlo
  gi_wp2
  try rw [← hA]
  try rw [hw0]
  clear hw0 hA
  refine wpIn_rangeF2 (gf := gf) (lb := lb) rfl HG.out.1
    n (fun k => #[.agg #[.int .i64 (at_ k : Nat), .int .u32 (w32 (ws k))]]) (fun _ => rfl) (LF (A + 3))
    (fun k W => LI w (OwnD q S g d.ns) (A + 3) (A + 1 + 1) [(⟨A, 0, none⟩, .pointer (some ⟨B, 0, none⟩)), (⟨A + 1, 0, none⟩, .int .i64 (frm : Nat))] B q S g d.ns (progK d (base + frm) at_ ws k).1 base many op P (.int .i64 0) W ∧ (progK d (base + frm) at_ ws k).2 = 0)
    (fun c _ W => c = .ret ∧ ∃ k e, k ≤ n ∧ e ≠ 0 ∧ (progK d (base + frm) at_ ws k).2 = e ∧ LI w (OwnD q S g d.ns) (A + 3) (A + 1 + 1) [(⟨A, 0, none⟩, .pointer (some ⟨B, 0, none⟩)), (⟨A + 1, 0, none⟩, .int .i64 (frm : Nat))] B q S g d.ns (progK d (base + frm) at_ ws k).1 base many op P (.int .i64 e) W)
    (fun _ => ⟨fun W h => LI.foot.lt W h.1, fun W W' h hc => ⟨⟨(LI.foot.keep W W' h.1 hc).1, h.2⟩, fun _ hj => hj⟩⟩)
    (fun _ _ => ⟨fun W ⟨_, _, _, _, _, _, h⟩ => LI.foot.lt W h, fun W W' ⟨h1, k, e, h2, h3, h4, h⟩ hc => ⟨⟨h1, k, e, h2, h3, h4, (LI.foot.keep W W' h hc).1⟩, fun _ hj => hj⟩⟩) ⟨H0.out, rfl⟩
    (fun k a' W' => ∃ b t5 t8 t9 t10 t13 t14 t15 t16 t17 t18 t19 t20 t21 t22 t23 t24 t25 t26 t27 t28 t29 t30 t31 t32, A + 5 ≤ b ∧ a' = { tmps := #[.pointer (some ⟨B, 0, none⟩), .int .i64 (frm : Nat), .func (.func gf) #[] lb, .pointer (some ⟨A, 0, none⟩), .pointer (some ⟨A + 1, 0, none⟩), t5, .pointer (some ⟨A + 1 + 1, 0, none⟩), .pointer (some ⟨b, 0, none⟩), t8, t9, t10, .func (.func gf) #[] lb, .agg #[.int .i64 (at_ k : Nat), .int .u32 (w32 (ws k))], t13, t14, t15, t16, t17, t18, t19, t20, t21, t22, t23, t24, t25, t26, t27, t28, t29, t30, t31, t32], defers := [] } ∧ RowAt W' b 169 #[.int .i64 (at_ k : Nat), .int .u32 (w32 (ws k))])
    ?hax ?hit ?assign ?body ?done ?stop
  case hax =>
    rintro k a' W W' ⟨b, t5, t8, t9, t10, t13, t14, t15, t16, t17, t18, t19, t20, t21, t22, t23, t24, t25, t26, t27, t28, t29, t30, t31, t32, hb, rfl, hr⟩ hc
    rw [z0.out] at hc
    exact ⟨b, _, _, _, _, _, _, _, _, _, _, _, _, _, _, _, _, _, _, _, _, _, _, _, _, hb, rfl, hc.obj hr (by omega)⟩
  case hit =>
    intro J Jx W1 h1 h2 h3 h4 h5 h6 h7 h8
    exact HG.out.2 _ _ J Jx W1 (fun k W' hJ => (h3 k W' hJ).1.1.ch) h5 h7 h8
  case assign =>
    intro k W K hi hk hz hK
    rw [z0.out] at hz
    have HK := Lib.hid hK
    have hi1 := hi.1.new ((Below.refl W.heap.size W).alloc (Nat.le_refl _) (.cells #[.int .i64 (at_ k : Nat), .int .u32 (w32 (ws k))] 169))
    have HI := Lib.hid (And.intro hi1 hi.2)
    clear hK hi hi1
    gi_wp2
    exact HK.out _ _ ⟨W.heap.size, _, _, _, _, _, _, _, _, _, _, _, _, _, _, _, _, _, _, _, _, _, _, _, _, by omega, rfl, RowAt.mk W 169 _⟩ ((Ch.refl _ _).alloc _) HI.out (fun _ h => h)
  case body =>
    rintro k a' W ⟨hi, hn⟩ hk ⟨b, t5, t8, t9, t10, t13, t14, t15, t16, t17, t18, t19, t20, t21, t22, t23, t24, t25, t26, t27, t28, t29, t30, t31, t32, hb, rfl, hr⟩ hz
    have hE : progK d (base + frm) at_ ws (k + 1) = (progK d (base + frm) at_ ws k).1.program ((base + frm + at_ k / d.nw : Nat) : Int) ((at_ k % d.nw : Nat) : Int) (ws k) := by show (if (progK d (base + frm) at_ ws k).2 = 0 then _ else _) = _; rw [if_pos hn]
    have hkk := progK_kept (from_ := base + frm) (at_ := at_) (ws := ws) HH.out.2.2.1 HH.out.2.2.2.1 (by have := HZ.out; omega) HZ.out.2.2.2 k (by omega)
    have hok := hkk.okE HH.out.2.2.1 (by have := HH.out.2.2.2.1; omega)
    have hnw := hkk.nw
    obtain ⟨dk, hdk⟩ : ∃ dk, (progK d (base + frm) at_ ws k).1 = dk := ⟨_, rfl⟩
    rw [hdk] at hi hE hok hnw
    obtain ⟨a, ha⟩ : ∃ a, at_ k = a := ⟨_, rfl⟩
    obtain ⟨x, hx⟩ : ∃ x, ws k = x := ⟨_, rfl⟩
    have hal : a ≤ 10000 := by rw [← ha]; exact HH.out.2.2.2.2.2 k hk
    rw [ha] at hE hr ⊢
    rw [hx] at hE hr ⊢
    have hpl := place_any hi.bk frm a HH.out.2.2.2.2.1 hal
    rw [hnw] at hpl
    have hml := Nat.mod_lt a HZ.out.2.2.2
    obtain ⟨s, hs⟩ : ∃ s, base + frm + a / d.nw = s := ⟨_, rfl⟩
    obtain ⟨c, hc⟩ : ∃ c, a % d.nw = c := ⟨_, rfl⟩
    rw [hs, hc] at hE hpl
    rw [hc] at hml
    have hpr := fun m => program_any (hi.dn m).bk.dev hok.1 (s : Nat) (c : Nat) x
    have hpk := program_kept hok (s : Nat) (c : Nat) x (by have := HZ.out; omega)
    obtain ⟨⟨d2, e2⟩, hp⟩ : ∃ p, dk.program (s : Nat) (c : Nat) x = p := ⟨_, rfl⟩
    rw [hp] at hE hpk
    simp only [hp] at hpr
    have HPl := Lib.hid hpl
    have HPr := Lib.hid hpr
    have HI := Lib.hid (And.intro hi (And.intro hpk hE))
    have p0 := hi.cell (⟨A, 0, none⟩, .pointer (some ⟨B, 0, none⟩)) (by simp)
    have p1 := hi.cell (⟨A + 1, 0, none⟩, .int .i64 (frm : Nat)) (by simp)
    have c0 := hi.bk.c0
    have q0 : W.cell? ⟨b, 0, none⟩ = some (.int .i64 (a : Nat)) := hr.cell 0
    have q1 : W.cell? ⟨b, 1, none⟩ = some (.int .u32 (w32 x)) := hr.cell 1
    clear hn hkk hok hdk hs hc hpl hpr hpk hp hE hi hz hr ha hx hml hnw
    by_cases he : e2 = 0
    · subst he
      gi_wp2_with (first
        | (refine ⟨trivial, rfl, ?_⟩; gi_at_call 85; refine (CallsIn.inRound _ (callsIn_wide.2 HPl.out)).mono ?_; rintro e w3 ⟨rfl, m, rfl⟩)
        | fail)
      refine wpIn_region_still_tail0 8 (by kernel_rfl) (by kernel_rfl) (by kernel_rfl) (fun _ _ h => h) ?_
      simp only [List.take_succ_cons, List.take_zero, List.drop_succ_cons, List.drop_zero]
      repeat still_step
      try refine wpStill_nil ?_
      go_wp2_with (first
        | (go_at_call 98; refine (HPr.out (m + 1)).mono ?_; rintro e w4 ⟨rfl, h4d, h4c⟩; have H4 := Lib.hid (And.intro ((HI.out.1.dn (m + 1)).turn (fun _ h => h) h4d ⟨HI.out.2.1.ns, HI.out.2.1.nw⟩ h4c) (((Ch.refl _ W).drewN (m + 1)).trans h4c)); clear h4d h4c)
        | fail)
      gi_wp2
      refine ⟨LF.step (H4.out.2.mono fun j _ hj => (HI.out.1.off j (.inr hj)).1), ?_, ?_⟩
      · rw [HI.out.2.2]; exact H4.out.1
      · rw [HI.out.2.2]
    · gi_wp2_with (first
        | (refine ⟨trivial, rfl, ?_⟩; gi_at_call 85; refine (CallsIn.inRound _ (callsIn_wide.2 HPl.out)).mono ?_; rintro e w3 ⟨rfl, m, rfl⟩)
        | fail)
      refine wpIn_region_still_tail0 8 (by kernel_rfl) (by kernel_rfl) (by kernel_rfl) (fun _ _ h => h) ?_
      simp only [List.take_succ_cons, List.take_zero, List.drop_succ_cons, List.drop_zero]
      repeat still_step
      try refine wpStill_nil ?_
      go_wp2_with (first
        | (go_at_call 98; refine (HPr.out (m + 1)).mono ?_; rintro e w4 ⟨rfl, h4d, h4c⟩; have H4 := Lib.hid (And.intro ((HI.out.1.dn (m + 1)).turn (fun _ h => h) h4d ⟨HI.out.2.1.ns, HI.out.2.1.nw⟩ h4c) (((Ch.refl _ W).drewN (m + 1)).trans h4c)); have r4 := H4.out.1.res; have f4 := H4.out.1.fr; clear h4d h4c)
        | fail)
      gi_wp2
      refine ⟨LF.step ((H4.out.2.mono fun j _ hj => (HI.out.1.off j (.inr hj)).1).setCell _ _ (.inl (show A + 1 + 1 < A + 3 by omega))), rfl, k + 1, e2, by omega, he, ?_, ?_⟩
      · rw [HI.out.2.2]
      · rw [HI.out.2.2]; exact H4.out.1.ret _
  case done =>
    rintro W ⟨hi, hn⟩ hD hnD hz
    rw [z0.out] at hD hnD hz
    have HI := Lib.hid (And.intro hi hn)
    have HD := Lib.hid (And.intro hD hz)
    have r2 := hi.res
    have f2 := hi.fr
    clear hi hn hD hnD hz
    gi_wp2
    rw [z0.out]
    have hc : Ch (fun j => j = A + 1 + 1) W (W.setCell ⟨A + 1 + 1, 0, none⟩ (.int .i64 0)) := (Ch.refl _ _).setCell _ _ (.inl rfl)
    have hD' := hc.obj HD.out.1 (by have := HI.out.1.rz; omega)
    have hI := (HI.out.1.ret (.int .i64 0)).done (.deferred none)
    have hr := hI.res
    refine ⟨by simp, .inl ⟨_, _, rfl, run_takeDeferred hD', ?_⟩⟩
    refine ⟨.int .i64 0, ?_, ?_, ?_, hI.ch⟩
    · simp [results, Try.results77, go_sem, hr]
    · rw [HI.out.2]
    · exact hI.bk
  case stop =>
    rintro c _ W _ ⟨rfl, k, e, hk, hne, hn, hi⟩ hD hnD hz
    rw [z0.out] at hD hnD hz
    have hst := progK_stuck (by rw [hn]; exact hne) n hk
    have HI := Lib.hid (And.intro hi (And.intro hn hst))
    have HD := Lib.hid (And.intro hD hz)
    clear hi hn hD hnD hz hst
    gi_wp2
    rw [z0.out]
    have hI := HI.out.1.done (.deferred none)
    have hr := hI.res
    refine ⟨by simp, .inl ⟨_, _, rfl, run_takeDeferred HD.out.1, ?_⟩⟩
    refine ⟨.int .i64 e, ?_, ?_, ?_, hI.ch⟩
    · simp [results, Try.results77, go_sem, hr]
    · rw [HI.out.2.2, HI.out.2.1]
    · rw [HI.out.2.2]; exact hI.bk
theorem Ws.keep {T : Nat → Prop} {w w' : World} {sp : Option Addr} {b off n : Nat} {l : Nat → BitVec 32} (h : Ws w sp b off n l) (c : Ch T w w') (hT : 0 < n → ¬ T b) : Ws w' sp b off n l :=
  ⟨fun h0 => ⟨(h.sp h0).1, Nat.lt_of_lt_of_le (h.sp h0).2 c.size⟩, fun k hk => c.cell (h.cell k hk) (hT (by omega))⟩
/-- What the pairs of words that were handed back promise. -/
theorem Gives.to {w : World} {lo : Nat} {v : Value} {n : Nat} {at_ : Nat} {l : Nat → BitVec 32} {q S : Nat} {g : Nat → Nat} {n0 : Nat} (h : Gives lo w v n (at_ : Int) l) (h1 : at_ ≤ 1000) (hn : n ≤ 1000) (hlo : ∀ j, OwnD q S g n0 j → j < lo) :
    ∃ gf lb, v = .func (.func gf) #[] lb ∧ GivesTo w q S g n0 gf lb (2 * n) (fun k => at_ + k) (wrW l) := by
  obtain ⟨BS, BA, b, off, cap, sp, rfl, ⟨l1, l2, l3⟩, h2, h3, h4⟩ := h
  refine ⟨_, _, rfl, fun args w => enters_of Try.func124 (by kernel_rfl) rfl args w, fun l0 F J Jx W1 hJ fJ hR h0 => ?_⟩
  have hoff : ∀ j, lo ≤ j → ¬ OwnD q S g n0 j := fun j hj ho => by have := hlo j ho; omega
  refine pairs_in l0 BS BA n b off cap (at_ : Int) sp l F J Jx W1 (by omega) hn (fun k W' hk => ?_) (fun k W' hk hlt => ?_) fJ h0
  · have c := hJ k W' hk
    exact ⟨c.cell h2 (hoff _ l1), c.cell h3 (hoff _ l2), h4.keep c (fun _ => hoff _ l3)⟩
  · have := hR k W' hk hlt
    unfold wrA
    dsimp only at this
    rw [show (((at_ + k : Nat) : Int)) = (at_ : Int) + (k : Int) by push_cast; rfl] at this
    exact this
end Go.Proofs.Ythpagbfabpfngaa
/- The contract of bank's spoilt. -/
namespace Go.Proofs.Ythpagbfabpfngaa
open Go.RowKit
attribute [local go_sem] Oper.semAt_some

/-- Can a word of the header not be programmed any more? -/
def spoiltB (d : Dev) (base n : Nat) (at_ : Nat → Nat) (ws : Nat → BitVec 32) : Bool := (List.range n).any fun k => !within (ws k) (d.word (base + 1) (at_ k))
theorem spoiltB_none {d : Dev} {base n : Nat} {at_ : Nat → Nat} {ws : Nat → BitVec 32} (h : ∀ i, i < n → within (ws i) (d.word (base + 1) (at_ i)) = true) : spoiltB d base n at_ ws = false := by
  unfold spoiltB
  rw [List.any_eq_false]
  intro i hi
  simp [h i (by simpa using hi)]
theorem spoiltB_some {d : Dev} {base n k : Nat} {at_ : Nat → Nat} {ws : Nat → BitVec 32} (hk : k < n) (h : within (ws k) (d.word (base + 1) (at_ k)) = false) : spoiltB d base n at_ ws = true := by
  unfold spoiltB
  rw [List.any_eq_true]
  exact ⟨k, by simpa using hk, by simp [h]⟩
set_option maxHeartbeats 4000000 in
set_option maxRecDepth 100000 in
theorem bspoilt_any {w : World} {B q S : Nat} {g : Nat → Nat} {d : Dev} {base many : Nat} {op : Bool} {P : List (BitVec 32)} (h : Bk w B q S g d base many op P) (gf : Nat) (lb : Array Value) (n : Nat) (at_ : Nat → Nat) (ws : Nat → BitVec 32)
    (hat : ∀ k, k < n → at_ k < 13) (hG : GivesTo w q S g d.ns gf lb n at_ ws) :
    Calls Try.prog 99 #[.pointer (some ⟨B, 0, none⟩), .func (.func gf) #[] lb] w fun e w' => e = .returned (.bool (spoiltB d base n at_ ws)) ∧ Below w.heap.size w w' := by
  refine (callsIn_wide (n := 0)).1 ?_
  refine callsIn_of_wp_marks Try.func99 rfl trivial ?_ rfl
  simp only [Try.ntmps99, List.size_toArray, List.length_cons, List.length_nil, Nat.reduceAdd, Nat.reduceSub, Array.replicate_succ, Array.replicate_zero, List.push_toArray, List.append_toArray, List.nil_append, List.cons_append]
  obtain ⟨A, hA⟩ : ∃ A, A = w.heap.size := ⟨_, rfl⟩
  obtain ⟨w0, hw0⟩ : ∃ w0, w.alloc (.cells #[.bool false] 4) = w0 := ⟨_, rfl⟩
  have b0 : Below w.heap.size w w0 := by rw [← hw0]; exact (Below.refl _ w).alloc (Nat.le_refl _) _
  have hlo := h.lt
  have h0 : LI w (fun _ => False) (A + 1) A [] B q S g d.ns d base many op P (.bool false) w0 := by
    exact ⟨h.new b0, rfl, fun x hx => by simp at hx, by rw [← hw0, hA]; simp [go_sem], by rw [← hw0, hA]; simp [go_sem], by omega, by rw [← hw0, hA]; simp, Ch.new b0, hlo⟩
  have H0 := Lib.hid h0
  have HB := Lib.hid (bhead_any h0.bk)
  have HZ := Lib.hid h.dev.zn
  have HH := Lib.hid (And.intro hA (And.intro h.fit hat))
  have HG := Lib.hid hG
  clear h h0 b0 hG hlo
  gi_wp2
  refine ⟨trivial, rfl, (callsIn_wide.2 HB.out).mono ?_⟩
  rintro e w1 ⟨Hb, cap, rfl, h1, h2, h3, h4⟩
  have H1 := Lib.hid (And.intro h1 (And.intro h2 (And.intro h3 h4)))
  clear h1 h2 h3 h4
  gi_wp2
  try rw [← hA]
  clear hw0 hA
  obtain ⟨X, hX⟩ : ∃ X, X = w1.heap.size := ⟨_, rfl⟩
  obtain ⟨w3, hw3⟩ : ∃ w3, w3 = w1.alloc (.cells #[.slice (some ⟨Hb, 0, none⟩) d.nw cap] 24) := ⟨_, rfl⟩
  have h3 : LI w (fun _ => False) (X + 1) A ((⟨X, 0, none⟩, .slice (some ⟨Hb, 0, none⟩) d.nw cap) :: (List.range d.nw).map fun i => (⟨Hb, i, none⟩, .int .u32 (w32 (d.word (base + 1) i)))) B q S g d.ns d base many op P (.bool false) w3 := by
    have hg := (H0.out.new H1.out.2.2.2).grow (.slice (some ⟨Hb, 0, none⟩) d.nw cap) 24
    rw [← hw3, ← hX] at hg
    have c3 : Ch (fun _ => False) w1 w3 := by rw [hw3]; exact (Ch.refl _ _).alloc _
    have z0 := H0.out.sz
    have hb1 := H1.out.1
    have hbX : 0 < d.nw → Hb < X := fun h0 => by rw [hX]; exact (H1.out.2.1.sp h0).2
    refine ⟨hg.bk, hg.ns, fun x hx => ?_, hg.res, hg.fr, hg.rz, hg.sz, hg.ch, hg.lo⟩
    rcases List.mem_cons.1 hx with rfl | hx
    · exact hg.cs _ (by simp)
    · simp only [List.mem_map, List.mem_range] at hx
      obtain ⟨i, hi, rfl⟩ := hx
      have := H1.out.2.1.cell i hi
      rw [Nat.zero_add] at this
      have hr := H0.out.rz
      have hbx := hbX (by omega)
      refine ⟨c3.cell this (fun h => h), ?_, ?_, ?_⟩
      · show w.heap.size ≤ Hb; omega
      · show Hb < X + 1; omega
      · show Hb ≠ A; omega
  have H3 := Lib.hid h3
  have z3 := Lib.hid (show w3.heap.size = X + 1 from by rw [hw3, hX]; simp)
  rw [← hw3, ← hX]
  clear hw3 hX h3
  refine wpIn_rangeF2 (gf := gf) (lb := lb) rfl HG.out.1
    n (fun k => #[.agg #[.int .i64 (at_ k : Nat), .int .u32 (w32 (ws k))]]) (fun _ => rfl) (LF (X + 1))
    (fun k W => LI w (fun _ => False) (X + 1) A ((⟨X, 0, none⟩, .slice (some ⟨Hb, 0, none⟩) d.nw cap) :: (List.range d.nw).map fun i => (⟨Hb, i, none⟩, .int .u32 (w32 (d.word (base + 1) i)))) B q S g d.ns d base many op P (.bool false) W ∧ ∀ i, i < k → within (ws i) (d.word (base + 1) (at_ i)) = true)
    (fun c _ W => c = .ret ∧ LI w (fun _ => False) (X + 1) A ((⟨X, 0, none⟩, .slice (some ⟨Hb, 0, none⟩) d.nw cap) :: (List.range d.nw).map fun i => (⟨Hb, i, none⟩, .int .u32 (w32 (d.word (base + 1) i)))) B q S g d.ns d base many op P (.bool true) W ∧ spoiltB d base n at_ ws = true)
    (fun _ => ⟨fun W h => LI.foot.lt W h.1, fun W W' h hc => ⟨⟨(LI.foot.keep W W' h.1 hc).1, h.2⟩, fun _ hj => hj⟩⟩)
    (fun _ _ => ⟨fun W h => LI.foot.lt W h.2.1, fun W W' h hc => ⟨⟨h.1, (LI.foot.keep W W' h.2.1 hc).1, h.2.2⟩, fun _ hj => hj⟩⟩) ⟨H3.out, fun i hi => absurd hi (Nat.not_lt_zero i)⟩
    (fun k a' W' => ∃ b t2 t3 t7 t8 t11 t12 t13 t14 t15 t16 t17 t18 t19, X + 3 ≤ b ∧ a' = { tmps := #[.pointer (some ⟨B, 0, none⟩), .func (.func gf) #[] lb, t2, t3, .pointer (some ⟨A, 0, none⟩), .pointer (some ⟨X, 0, none⟩), .pointer (some ⟨b, 0, none⟩), t7, t8, .func (.func gf) #[] lb, .agg #[.int .i64 (at_ k : Nat), .int .u32 (w32 (ws k))], t11, t12, t13, t14, t15, t16, t17, t18, t19], defers := [] } ∧ RowAt W' b 169 #[.int .i64 (at_ k : Nat), .int .u32 (w32 (ws k))])
    ?hax ?hit ?assign ?body ?done ?stop
  case hax =>
    rintro k a' W W' ⟨b, t2, t3, t7, t8, t11, t12, t13, t14, t15, t16, t17, t18, t19, hb, rfl, hr⟩ hc
    rw [z3.out] at hc
    exact ⟨b, _, _, _, _, _, _, _, _, _, _, _, _, _, hb, rfl, hc.obj hr (by omega)⟩
  case hit =>
    intro J Jx W1 h1 h2 h3 h4 h5 h6 h7 h8
    exact HG.out.2 _ _ J Jx W1 (fun k W' hJ => (h3 k W' hJ).1.1.ch.mono fun _ _ h => h.elim) h5 h7 h8
  case assign =>
    intro k W K hi hk hz hK
    rw [z3.out] at hz
    have HK := Lib.hid hK
    have hi1 := hi.1.new ((Below.refl W.heap.size W).alloc (Nat.le_refl _) (.cells #[.int .i64 (at_ k : Nat), .int .u32 (w32 (ws k))] 169))
    have HI := Lib.hid (And.intro hi1 hi.2)
    clear hK hi hi1
    gi_wp2
    exact HK.out _ _ ⟨W.heap.size, _, _, _, _, _, _, _, _, _, _, _, _, _, by omega, rfl, RowAt.mk W 169 _⟩ ((Ch.refl _ _).alloc _) HI.out (fun _ h => h)
  case body =>
    rintro k a' W ⟨hi, hn⟩ hk ⟨b, t2, t3, t7, t8, t11, t12, t13, t14, t15, t16, t17, t18, t19, hb, rfl, hr⟩ hz
    obtain ⟨a, ha⟩ : ∃ a, at_ k = a := ⟨_, rfl⟩
    obtain ⟨x, hx⟩ : ∃ x, ws k = x := ⟨_, rfl⟩
    have hal : a < 13 := by rw [← ha]; exact HH.out.2.2 k hk
    have hai : (a : Int) < (d.nw : Int) := by have := HH.out.2.1.2.2; omega
    have hl := hi.cell (⟨Hb, a, none⟩, .int .u32 (w32 (d.word (base + 1) a))) (List.mem_cons_of_mem _ (List.mem_map.2 ⟨a, List.mem_range.2 (by omega), rfl⟩))
    have hs := hi.cell (⟨X, 0, none⟩, .slice (some ⟨Hb, 0, none⟩) d.nw cap) (by simp)
    obtain ⟨y, hy⟩ : ∃ y, d.word (base + 1) a = y := ⟨_, rfl⟩
    have HE := Lib.hid (And.intro ha (And.intro hx hy))
    rw [ha, hx] at hr
    rw [hy] at hl
    rw [ha, hx]
    simp only at hl hs
    have HR := fun n => Lib.hid (quietly (rose_any x y (W.drewN n)))
    have q0 : W.cell? ⟨b, 0, none⟩ = some (.int .i64 (a : Nat)) := hr.cell 0
    have q1 : W.cell? ⟨b, 1, none⟩ = some (.int .u32 (w32 x)) := hr.cell 1
    obtain ⟨t, ht⟩ : ∃ t, within x y = t := ⟨_, rfl⟩
    rw [ht] at HR
    have HI := Lib.hid (And.intro hi (And.intro hn ht))
    obtain ⟨nw, hnw⟩ : ∃ nw, d.nw = nw := ⟨_, rfl⟩
    rw [hnw] at hs hai
    clear hi hn hr hz ha hx hy ht hal hnw
    cases t with
    | true =>
      gi_wp2
      refine wpIn_region_quiet0 (by kernel_rfl) (by kernel_rfl) (by kernel_rfl) (fun _ _ h => h) ?_
      repeat (quiet_step ((go_at_call 119; exact (HR _).out)))
      refine wpQuiet_nil ?_
      intro _ hw1
      obtain ⟨nq, hw2⟩ := hw1
      subst hw2
      have H2 := Lib.hid (HI.out.1.dn nq)
      have r2 := H2.out.res
      have f2 := H2.out.fr
      gi_wp2
      refine ⟨LF.step ((Ch.refl _ W).drewN nq), H2.out, fun i hi => ?_⟩
      rcases Nat.lt_or_ge i k with h1 | h1
      · exact HI.out.2.1 i h1
      · obtain rfl : i = k := by omega
        rw [HE.out.1, HE.out.2.1, HE.out.2.2]
        exact HI.out.2.2
    | false =>
      gi_wp2
      refine wpIn_region_quiet0 (by kernel_rfl) (by kernel_rfl) (by kernel_rfl) (fun _ _ h => h) ?_
      repeat (quiet_step ((go_at_call 119; exact (HR _).out)))
      refine wpQuiet_nil ?_
      intro _ hw1
      obtain ⟨nq, hw2⟩ := hw1
      subst hw2
      have H2 := Lib.hid (HI.out.1.dn nq)
      have r2 := H2.out.res
      have f2 := H2.out.fr
      gi_wp2
      refine ⟨LF.step (((Ch.refl _ W).drewN nq).setCell _ _ (.inl (show A < X + 1 from by have := HI.out.1.rz; omega))), rfl, H2.out.ret _, spoiltB_some hk ?_⟩
      rw [HE.out.1, HE.out.2.1, HE.out.2.2]
      exact HI.out.2.2
  case done =>
    rintro W ⟨hi, hn⟩ hD hnD hz
    rw [z3.out] at hD hnD hz
    have HI := Lib.hid (And.intro hi (spoiltB_none hn))
    have HD := Lib.hid (And.intro hD hz)
    have r2 := hi.res
    have f2 := hi.fr
    clear hi hn hD hnD hz
    gi_wp2
    rw [z3.out]
    have hc : Ch (fun j => j = A) W (W.setCell ⟨A, 0, none⟩ (.bool false)) := (Ch.refl _ _).setCell _ _ (.inl rfl)
    have hD' := hc.obj HD.out.1 (by have := HI.out.1.rz; omega)
    have hI := (HI.out.1.ret (.bool false)).done (.deferred none)
    have hr := hI.res
    refine ⟨by simp, .inl ⟨_, _, rfl, run_takeDeferred hD', ?_⟩⟩
    refine ⟨.bool false, ?_, ?_, hI.none_below⟩
    · simp [results, Try.results99, go_sem, hr]
    · rw [HI.out.2]
  case stop =>
    rintro c k W hk ⟨rfl, hi, ht⟩ hD hnD hz
    rw [z3.out] at hD hnD hz
    have HI := Lib.hid (And.intro hi ht)
    have HD := Lib.hid (And.intro hD hz)
    clear hi ht hD hnD hz
    gi_wp2
    rw [z3.out]
    have hI := HI.out.1.done (.deferred none)
    have hr := hI.res
    refine ⟨by simp, .inl ⟨_, _, rfl, run_takeDeferred HD.out.1, ?_⟩⟩
    refine ⟨.bool true, ?_, ?_, hI.none_below⟩
    · simp [results, Try.results99, go_sem, hr]
    · rw [HI.out.2]
end Go.Proofs.Ythpagbfabpfngaa
/- The contracts of bank's Begin, Open. -/
namespace Go.Proofs.Ythpagbfabpfngaa
open Go.RowKit

/-- What Begin answers, and what the bank is then. -/
def beginR (d : Dev) (base many : Nat) (P : List (BitVec 32)) : Int × Dev × Bool × List (BitVec 32) :=
  if d.on then (if wornB d base many then (62, d, false, P) else (if (blankD d base many).2 = 0 then (0, (blankD d base many).1, true, []) else ((blankD d base many).2, (blankD d base many).1, false, P))) else (63, d, false, P)
theorem open_any {w : World} {B q S : Nat} {g : Nat → Nat} {d : Dev} {base many : Nat} {op : Bool} {P : List (BitVec 32)} (h : Bk w B q S g d base many op P) :
    Calls Try.prog 12 #[.pointer (some ⟨B, 0, none⟩)] w fun e w' => e = .returned (.tuple #[.int .i64 (if op then P.length else 0 : Nat), .bool op]) ∧ w = w' := by
  have c3 := h.c3
  have c4 := h.c4
  clear h
  cases op with
  | true =>
    go_enter Try.func12, Try.ntmps12
    go_wp2
    go_ret2
    exact ⟨by simp, rfl⟩
  | false =>
    go_enter Try.func12, Try.ntmps12
    go_wp2
    go_ret2
    exact ⟨by simp, rfl⟩
set_option maxHeartbeats 4000000 in
set_option maxRecDepth 100000 in
theorem begin_any {w : World} {B q S : Nat} {g : Nat → Nat} {d : Dev} {base many : Nat} {op : Bool} {P : List (BitVec 32)} (h : Bk w B q S g d base many op P) (ho : d.okE) (hn : d.ops + many + 1 ≤ 1000000) :
    Calls Try.prog 43 #[.pointer (some ⟨B, 0, none⟩)] w fun e w' => e = .returned (.int .i64 (beginR d base many P).1) ∧ Bk w' B q S g (beginR d base many P).2.1 base many (beginR d base many P).2.2.1 (beginR d base many P).2.2.2 ∧ Ch (OwnB B q S g d.ns) w w' := by
  have hR : beginR d base many P = if d.on then (if wornB d base many then (62, d, false, P) else (if (blankD d base many).2 = 0 then (0, (blankD d base many).1, true, []) else ((blankD d base many).2, (blankD d base many).1, false, P))) else (63, d, false, P) := rfl
  obtain ⟨R, hRR⟩ : ∃ R, beginR d base many P = R := ⟨_, rfl⟩
  rw [hRR] at hR ⊢
  clear hRR
  have h1 := h.setOp false
  have c3 := h.c3
  have f3 := h.box.fr 3
  obtain ⟨w1, hw1⟩ : ∃ w1, w.setCell ⟨B, 3, none⟩ (.bool false) = w1 := ⟨_, rfl⟩
  have ch1 : Ch (OwnB B q S g d.ns) w w1 := by rw [← hw1]; exact (Ch.refl _ _).setCell _ _ (.inl (.inl rfl))
  rw [hw1] at h1
  have c0 := h1.c0
  have H1 := Lib.hid (And.intro h1 ch1)
  have HOn := Lib.hid (on_any h1.dev)
  have HW := Lib.hid (bworn_any h1)
  have hkk := blankD_kept (base := base) (many := many) ho hn
  have HBl := Lib.hid (fun (wx : World) (hx : Bk wx B q S g d base many false P) => bblank_any hx ho hn)
  obtain ⟨⟨d1, e1⟩, hb⟩ : ∃ p, blankD d base many = p := ⟨_, rfl⟩
  simp only [hb] at HBl hR hkk
  clear h h1 ch1 hb ho hn
  cases hon : d.on with
  | false =>
    rw [hon] at HOn hR
    go_enter Try.func43, Try.ntmps43
    go_wp2_with (first
      | (go_at_call 46; refine HOn.out.mono ?_; rintro e w2 ⟨rfl, rfl⟩)
      | (go_at_call 17; refine HW.out.mono ?_; rintro e w3 ⟨rfl, hb3⟩; have H3 := Lib.hid (And.intro (H1.out.1.new hb3) (H1.out.2.trans (Ch.new hb3))); clear hb3)
      | (go_at_call 76; refine (HBl.out _ H3.out.1).mono ?_; rintro e w4 ⟨rfl, h4, k4⟩; have H4 := Lib.hid (And.intro h4 (H3.out.2.trans (k4.mono fun j _ hj => .inr hj))); clear h4 k4)
      | fail)
    go_ret
    simp only [Bool.false_eq_true, if_false] at hR
    subst hR
    exact ⟨rfl, H1.out⟩
  | true =>
    rw [hon] at HOn hR
    simp only [if_true] at hR
    cases hwb : wornB d base many with
    | true =>
      rw [hwb] at HW hR
      simp only [if_true] at hR
      go_enter Try.func43, Try.ntmps43
      go_wp2_with (first
        | (go_at_call 46; refine HOn.out.mono ?_; rintro e w2 ⟨rfl, rfl⟩)
        | (go_at_call 17; refine HW.out.mono ?_; rintro e w3 ⟨rfl, hb3⟩; have H3 := Lib.hid (And.intro (H1.out.1.new hb3) (H1.out.2.trans (Ch.new hb3))); clear hb3)
        | (go_at_call 76; refine (HBl.out _ H3.out.1).mono ?_; rintro e w4 ⟨rfl, h4, k4⟩; have H4 := Lib.hid (And.intro h4 (H3.out.2.trans (k4.mono fun j _ hj => .inr hj))); clear h4 k4)
        | fail)
      go_ret
      subst hR
      exact ⟨rfl, H3.out⟩
    | false =>
      rw [hwb] at HW hR
      simp only [Bool.false_eq_true, if_false] at hR
      by_cases he : e1 = 0
      · subst he
        rw [if_pos rfl] at hR
        go_enter Try.func43, Try.ntmps43
        go_wp2_with (first
          | (go_at_call 46; refine HOn.out.mono ?_; rintro e w2 ⟨rfl, rfl⟩)
          | (go_at_call 17; refine HW.out.mono ?_; rintro e w3 ⟨rfl, hb3⟩; have H3 := Lib.hid (And.intro (H1.out.1.new hb3) (H1.out.2.trans (Ch.new hb3))); clear hb3)
          | (go_at_call 76; refine (HBl.out _ H3.out.1).mono ?_; rintro e w4 ⟨rfl, h4, k4⟩; have H4 := Lib.hid (And.intro h4 (H3.out.2.trans (k4.mono fun j _ hj => .inr hj))); have f43 := h4.box.fr 3; have f44 := h4.box.fr 4; have f45 := h4.box.fr 5; have f46 := h4.box.fr 6; have q43 := h4.c3; have q44 := h4.c4; have q45 := h4.box.cell 5 _ rfl; have q46 := h4.box.cell 6 _ rfl; clear h4 k4)
          | fail)
        go_ret
        subst hR
        refine ⟨rfl, ⟨?_, ?_, H4.out.1.nb, H4.out.1.fit⟩, ?_⟩
        · have hB := (((H4.out.1.box.set 3 (.bool true) (by rw [bankL_eq]; simp)).set 4 (.int .i64 0) (by rw [bankL_eq]; simp)).set 5 (.int .u32 0) (by rw [bankL_eq]; simp)).set 6 (.int .i64 0) (by rw [bankL_eq]; simp)
          have e : ((((bankL q base many false P).set 3 (.bool true)).set 4 (.int .i64 0)).set 5 (.int .u32 0)).set 6 (.int .i64 0) = bankL q base many true [] := by
            rw [bankL_eq, bankL_eq]
            rfl
          rw [e] at hB
          exact hB
        · exact (H4.out.1.dev.keep (T := fun j => j = B) ((((ch_setK w4 B 3 _).trans (ch_setK _ B 4 _)).trans (ch_setK _ B 5 _)).trans (ch_setK _ B 6 _)) (fun j hj e => H4.out.1.nb (by rw [← e]; exact hj)))
        · exact H4.out.2.trans (((((ch_setK w4 B 3 _).trans (ch_setK _ B 4 _)).trans (ch_setK _ B 5 _)).trans (ch_setK _ B 6 _)).mono fun j _ e => .inl e)
      · rw [if_neg he] at hR
        go_enter Try.func43, Try.ntmps43
        go_wp2_with (first
          | (go_at_call 46; refine HOn.out.mono ?_; rintro e w2 ⟨rfl, rfl⟩)
          | (go_at_call 17; refine HW.out.mono ?_; rintro e w3 ⟨rfl, hb3⟩; have H3 := Lib.hid (And.intro (H1.out.1.new hb3) (H1.out.2.trans (Ch.new hb3))); clear hb3)
          | (go_at_call 76; refine (HBl.out _ H3.out.1).mono ?_; rintro e w4 ⟨rfl, h4, k4⟩; have H4 := Lib.hid (And.intro h4 (H3.out.2.trans (k4.mono fun j _ hj => .inr hj))); clear h4 k4)
          | fail)
        go_ret
        subst hR
        exact ⟨rfl, H4.out⟩
end Go.Proofs.Ythpagbfabpfngaa
