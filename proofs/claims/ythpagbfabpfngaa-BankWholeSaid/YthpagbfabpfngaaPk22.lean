/- Several texts in one: CA, CB, CE. -/
import Derived.Test.YthpagbfabpfngaaPk20
import Derived.Test.YthpagbfabpfngaaPk21
import Derived.Test.YthpagbfabpfngaaPk19
import Derived.Deep.MidRow
/- The contract of law08's program. -/
namespace Go.Proofs.Ythpagbfabpfngaa
open Go.RowKit

/-- The cells of the reference's device. -/
def cellsD (bL cL bW cW : Nat) (d : Dev) : Array Value := #[.int .i64 d.ns, .int .i64 d.nw, .int .i64 d.limit, .slice (some ⟨bL, 0, none⟩) (d.ns * d.nw : Nat) cL, .slice (some ⟨bW, 0, none⟩) d.ns cW, .bool (!d.on), .bool d.armed, .int .i64 d.after, .int .u32 (w32 d.seed), .int .i64 d.ops]
theorem cellsD_one (bL cL bW cW : Nat) (d : Dev) : (cellsD bL cL bW cW d).all (·.oneCell') = true := all_oneCell_toArray (cs := [.int .i64 d.ns, .int .i64 d.nw, .int .i64 d.limit, .slice (some ⟨bL, 0, none⟩) (d.ns * d.nw : Nat) cL, .slice (some ⟨bW, 0, none⟩) d.ns cW, .bool (!d.on), .bool d.armed, .int .i64 d.after, .int .u32 (w32 d.seed), .int .i64 d.ops]) (fun v hv => by simp at hv; rcases hv with rfl | rfl | rfl | rfl | rfl | rfl | rfl | rfl | rfl | rfl <;> rfl)
theorem ch_setRow (w : World) (A : Nat) (cs : Array Value) : Ch (fun j => j = A) w (w.setRow A cs) :=
  ⟨rfl, rfl, rfl, by rw [size_setRow]; exact Nat.le_refl _, fun k _ hn => setRow_other _ _ _ _ hn⟩
/-- What program keeps from word to word. -/
structure PI (w0 : World) (A : Nat) (oL oW : Nat) (d : Dev) (w : World) (bL cL bW cW : Nat) : Prop where
  row : RowAt w A 28 (cellsD bL cL bW cW d)
  ref : RefIn w bL bW d
  nl : bL = oL ∨ w0.heap.size ≤ bL
  nw : bW = oW ∨ w0.heap.size ≤ bW
  na : bL ≠ A ∧ bW ≠ A
  ch : Ch (fun j => j = A) w0 w
  cp : d.ns * d.nw ≤ cL
theorem PI.dn {w0 w : World} {A oL oW bL cL bW cW : Nat} {d : Dev} (h : PI w0 A oL oW d w bL cL bW cW) (n : Nat) : PI w0 A oL oW d (w.drewN n) bL cL bW cW :=
  ⟨h.row, h.ref.drewN n, h.nl, h.nw, h.na, h.ch.drewN n, h.cp⟩
theorem PI.next {w0 w w' : World} {A oL oW bL cL bW cW : Nat} {d d' : Dev} {r : Value → Value} {e : Ending} (h : PI w0 A oL oW d w bL cL bW cW) (hA : A < w0.heap.size) (ho : RefOut w w' bL bW d' r e) :
    ∃ bL' cL' bW' cW', e = .returned (r (.agg (cellsD bL' cL' bW' cW' d'))) ∧ RowAt w' A 28 (cellsD bL cL bW cW d) ∧ PI w0 A oL oW d' (w'.setRow A (cellsD bL' cL' bW' cW' d')) bL' cL' bW' cW' := by
  obtain ⟨bL', cL', bW', cW', he, h1, h2, h3, hcp, hb⟩ := ho
  have hz := h.ch.size
  have hr := h.row.new hb
  have n1 : bL' ≠ A := by rcases h2 with h2 | h2; rw [h2]; exact h.na.1; omega
  have n2 : bW' ≠ A := by rcases h3 with h3 | h3; rw [h3]; exact h.na.2; omega
  have cs : Ch (fun j => j = A) w' (w'.setRow A (cellsD bL' cL' bW' cW' d')) := ch_setRow w' A _
  refine ⟨bL', cL', bW', cW', he, hr, RowAt.put hr, h1.keep cs n1 n2, ?_, ?_, ⟨n1, n2⟩, (h.ch.trans (Ch.new hb)).trans cs, hcp⟩
  · rcases h2 with h2 | h2
    · rw [h2]; exact h.nl
    · exact .inr (by omega)
  · rcases h3 with h3 | h3
    · rw [h3]; exact h.nw
    · exact .inr (by omega)
set_option maxHeartbeats 8000000 in
set_option maxRecDepth 100000 in
theorem lprogram_any {w : World} {bL bW : Nat} {d : Dev} (h : RefIn w bL bW d) (ho : d.okE) (cL cW sec frm : Nat) (hcL : d.ns * d.nw ≤ cL) (hsec : sec ≤ 64) (hfr : frm ≤ 10000) {sp : Option Addr} {b off cap n : Nat} (ws : Nat → BitVec 32) (hn : d.ops + n ≤ 1000000) (hn2 : n ≤ 10000) (hX : Ws w sp b off n ws) :
    Calls Try.prog 95 #[refX bL cL bW cW d, .int .i64 sec, .int .i64 frm, .slice sp n cap] w fun e w' => RefOut w w' bL bW (progK d sec (fun k => frm + k) ws n).1 (fun v => .tuple #[v, .int .i64 (progK d sec (fun k => frm + k) ws n).2]) e := by
  obtain ⟨A, hA⟩ : ∃ A, A = w.heap.size := ⟨_, rfl⟩
  obtain ⟨w1, hw1⟩ : ∃ w1, (w.alloc (.cells (cellsD bL cL bW cW d) 28)).alloc (.cells #[.int .i64 0, .int .i64 0, .int .i64 0, .slice none 0 0, .slice none 0 0, .bool false, .bool false, .int .i64 0, .int .u32 0, .int .i64 0] 28) = w1 := ⟨_, rfl⟩
  have b1 : Below w.heap.size w w1 := by rw [← hw1]; exact ((Below.refl _ _).alloc (Nat.le_refl _) _).alloc (by simp) _
  have xa : RowAt w1 A 28 (cellsD bL cL bW cW d) := by rw [← hw1, hA]; exact (RowAt.mk w _ _).new ((Below.refl _ _).alloc (Nat.le_refl _) _)
  have xr : RowAt w1 (A + 1) 28 #[.int .i64 0, .int .i64 0, .int .i64 0, .slice none 0 0, .slice none 0 0, .bool false, .bool false, .int .i64 0, .int .u32 0, .int .i64 0] := by rw [← hw1, hA, ← World.size_alloc w (.cells (cellsD bL cL bW cW d) 28)]; exact RowAt.mk _ _ _
  have z1 : w1.heap.size = A + 2 := by rw [← hw1, hA]; simp
  have hlL := h.ltL
  have hlW := h.ltW
  have HP0 := Lib.hid (show PI w1 A bL bW d w1 bL cL bW cW from ⟨xa, h.new b1, .inl rfl, .inl rfl, ⟨by omega, by omega⟩, Ch.refl _ _, hcL⟩)
  have hbA : 0 < n → b < A := fun h0 => by rw [hA]; exact (hX.sp h0).2
  have HX := Lib.hid (And.intro (hX.new b1) hbA)
  have HH := Lib.hid (And.intro hA (And.intro z1 (And.intro b1 (And.intro xr (And.intro ho (And.intro hn h.zn))))))
  clear hX hbA xa xr hlL hlW b1 z1
  have hg : refX bL cL bW cW d = .agg (cellsD bL cL bW cW d) := rfl
  rw [hg]
  obtain ⟨c0, hc0⟩ : ∃ c0, cellsD bL cL bW cW d = c0 := ⟨_, rfl⟩
  have HC0 := Lib.hid hc0
  rw [hc0] at hw1 ⊢
  have hkept := fun k hk => progK_kept (from_ := sec) (at_ := (fun k => frm + k)) (ws := ws) ho hn (by have := h.zn; omega) h.zn.2.2.2 k hk
  have HKp := Lib.hid hkept
  have hns1 := h.zn.2.2.1
  have hnw1 := h.zn.2.2.2
  have hnwz : d.nw ≤ 1024 := h.zn.2.1
  have HLT := Lib.hid (show bL < A ∧ bW < A from ⟨by rw [hA]; exact h.ltL, by rw [hA]; exact h.ltW⟩)
  clear hc0 hg hkept h ho hn
  go_enter Try.func95, Try.ntmps95
  go_wp2
  rw [← hA]
  clear hw1 hA
  go_loopg [10, 11] n (fun m ve vi wr => ∃ k : Nat, k + m = n ∧ vi = .int .i64 (k : Nat) ∧ ve = .int .i64 (progK d sec (fun k => frm + k) ws k).2 ∧ Aside ((∀ j, j < k → (progK d sec (fun k => frm + k) ws j).2 = 0) ∧ ∃ xL yL xW yW, PI w1 A bL bW (progK d sec (fun k => frm + k) ws k).1 wr xL yL xW yW))
  case atStart => exact ⟨0, by omega, rfl, rfl, fun j hj => absurd hj (Nat.not_lt_zero j), _, _, _, _, HP0.out⟩
  case round =>
    obtain ⟨k, hkm, rfl, rfl, HA⟩ := hrel
    obtain ⟨-, xL, yL, xW, yW, hPk⟩ := HA.out
    have hkk := HKp.out k (by omega)
    have hst : (progK d sec (fun k => frm + k) ws k).2 ≠ 0 → progK d sec (fun k => frm + k) ws n = progK d sec (fun k => frm + k) ws k := fun hne => progK_stuck hne n (by omega)
    have hsucc : (progK d sec (fun k => frm + k) ws k).2 = 0 → progK d sec (fun k => frm + k) ws (k + 1) = (progK d sec (fun k => frm + k) ws k).1.program ((sec + (frm + k) / d.nw : Nat) : Int) (((frm + k) % d.nw : Nat) : Int) (ws k) := fun h0 => by show (if (progK d sec (fun k => frm + k) ws k).2 = 0 then _ else _) = _; rw [if_pos h0]
    obtain ⟨⟨dk, ek⟩, hdk⟩ : ∃ p, progK d sec (fun k => frm + k) ws k = p := ⟨_, rfl⟩
    have HDk := Lib.hid hdk
    rw [hdk] at hPk hkk hst hsucc ⊢
    simp only at hPk hkk hst hsucc ⊢
    have HST := Lib.hid (And.intro hst hsucc)
    have HPk := Lib.hid hPk
    have HKk := Lib.hid hkk
    clear hPk hkk hst hsucc hdk
    cases gk with
    | zero =>
      obtain rfl : k = n := by omega
      clear HX
      by_cases he : ek = 0
      · subst he
        clear HP0 HC0
        have hrr := HPk.out.ch.obj HH.out.2.2.2.1 (show ¬ A + 1 = A by omega)
        have HRR := Lib.hid hrr
        clear hrr
        go_wp2_with (first
          | (refine wpList_load_row rfl 28 (.tmp 4) rfl A rfl 28 (cellsD xL yL xW yW dk) (0, 0) _ HPk.out.row Try.underlying28 rfl (by kernel_rfl) ?_)
          | (refine wpList_store_row rfl 28 (.tmp 8) (.tmp 45) rfl (A + 1) (cellsD xL yL xW yW dk) rfl rfl 28 _ HRR.out (by kernel_rfl) rfl (cellsD_one _ _ _ _ _) ?_)
          | fail)
        refine bodyPost_ret (results_row rfl _ _ (A + 1) 28 (cellsD xL yL xW yW dk) _ rfl (RowAt.put HRR.out) Try.underlying28 rfl (by kernel_rfl)) rfl ?_
        have hz1 := HH.out.2.1
        have hwA := HH.out.1
        have nL : xL ≠ A + 1 := by rcases HPk.out.nl with h | h; (rw [h]; have := HLT.out.1; omega); omega
        have nW : xW ≠ A + 1 := by rcases HPk.out.nw with h | h; (rw [h]; have := HLT.out.2; omega); omega
        rw [HDk.out]
        refine ⟨xL, yL, xW, yW, rfl, HPk.out.ref.keep (ch_setRow wr (A + 1) _) nL nW, ?_, ?_, HPk.out.cp, ?_⟩
        · rcases HPk.out.nl with h | h
          · exact .inl h
          · exact .inr (by omega)
        · rcases HPk.out.nw with h | h
          · exact .inl h
          · exact .inr (by omega)
        · exact below_setRow (HH.out.2.2.1.trans (HPk.out.ch.below (fun j hj e => by omega) (by omega))) (by omega) _
      · clear HP0 HC0
        have hrr := HPk.out.ch.obj HH.out.2.2.2.1 (show ¬ A + 1 = A by omega)
        have HRR := Lib.hid hrr
        clear hrr
        go_wp2_with (first
          | (refine wpList_load_row rfl 28 (.tmp 4) rfl A rfl 28 (cellsD xL yL xW yW dk) (0, 0) _ HPk.out.row Try.underlying28 rfl (by kernel_rfl) ?_)
          | (refine wpList_store_row rfl 28 (.tmp 8) (.tmp 45) rfl (A + 1) (cellsD xL yL xW yW dk) rfl rfl 28 _ HRR.out (by kernel_rfl) rfl (cellsD_one _ _ _ _ _) ?_)
          | fail)
        refine bodyPost_ret (results_row rfl _ _ (A + 1) 28 (cellsD xL yL xW yW dk) _ rfl (RowAt.put HRR.out) Try.underlying28 rfl (by kernel_rfl)) rfl ?_
        have hz1 := HH.out.2.1
        have hwA := HH.out.1
        have nL : xL ≠ A + 1 := by rcases HPk.out.nl with h | h; (rw [h]; have := HLT.out.1; omega); omega
        have nW : xW ≠ A + 1 := by rcases HPk.out.nw with h | h; (rw [h]; have := HLT.out.2; omega); omega
        rw [HDk.out]
        refine ⟨xL, yL, xW, yW, rfl, HPk.out.ref.keep (ch_setRow wr (A + 1) _) nL nW, ?_, ?_, HPk.out.cp, ?_⟩
        · rcases HPk.out.nl with h | h
          · exact .inl h
          · exact .inr (by omega)
        · rcases HPk.out.nw with h | h
          · exact .inl h
          · exact .inr (by omega)
        · exact below_setRow (HH.out.2.2.1.trans (HPk.out.ch.below (fun j hj e => by omega) (by omega))) (by omega) _
    | succ m1 =>
      have hlt : k < n := by omega
      by_cases he : ek = 0
      · subst he
        obtain ⟨rfl, -⟩ := HX.out.1.sp (by omega)
        have hc := HPk.out.ch.cell (HX.out.1.cell k hlt) (by show ¬ b = A; have := HX.out.2 (by omega); omega)
        have hnk : dk.nw = d.nw := HKk.out.nw
        have q0 : wr.cell? ⟨A, 0, none⟩ = some (.int .i64 dk.ns) := HPk.out.row.cell 0
        have q1 : wr.cell? ⟨A, 1, none⟩ = some (.int .i64 dk.nw) := HPk.out.row.cell 1
        have q2 : wr.cell? ⟨A, 2, none⟩ = some (.int .i64 dk.limit) := HPk.out.row.cell 2
        have q3 : wr.cell? ⟨A, 3, none⟩ = some (.slice (some ⟨xL, 0, none⟩) (dk.ns * dk.nw : Nat) yL) := HPk.out.row.cell 3
        have q4 : wr.cell? ⟨A, 4, none⟩ = some (.slice (some ⟨xW, 0, none⟩) dk.ns yW) := HPk.out.row.cell 4
        have q5 : wr.cell? ⟨A, 5, none⟩ = some (.bool (!dk.on)) := HPk.out.row.cell 5
        have q6 : wr.cell? ⟨A, 6, none⟩ = some (.bool dk.armed) := HPk.out.row.cell 6
        have q7 : wr.cell? ⟨A, 7, none⟩ = some (.int .i64 dk.after) := HPk.out.row.cell 7
        have q8 : wr.cell? ⟨A, 8, none⟩ = some (.int .u32 (w32 dk.seed)) := HPk.out.row.cell 8
        have q9 : wr.cell? ⟨A, 9, none⟩ = some (.int .i64 dk.ops) := HPk.out.row.cell 9
        have hsu := HST.out.2 rfl
        have e2 : ((frm : Int) + (k : Int)).tdiv (dk.nw : Int) = (((frm + k) / d.nw : Nat) : Int) := by rw [hnk, Int.tdiv_eq_ediv_of_nonneg (by omega)]; push_cast; rfl
        have e3 : ((frm : Int) + (k : Int)).tmod (dk.nw : Int) = (((frm + k) % d.nw : Nat) : Int) := by rw [hnk, Int.tmod_eq_emod_of_nonneg (by omega)]; push_cast; rfl
        have hx1 : (frm + k) / d.nw ≤ 20000 := Nat.le_trans (Nat.div_le_self _ _) (by omega)
        have hy1 := Nat.mod_lt (frm + k) hnw1
        have hokk := HKk.out.okE HH.out.2.2.2.2.1 (by have := HH.out.2.2.2.2.2.1; omega)
        obtain ⟨x, hx⟩ : ∃ x, (frm + k) / d.nw = x := ⟨_, rfl⟩
        obtain ⟨y, hy⟩ : ∃ y, (frm + k) % d.nw = y := ⟨_, rfl⟩
        rw [hx, hy] at hsu
        rw [hx] at e2 hx1
        rw [hy] at e3 hy1
        have hpr := fun nq => progR_any (HPk.out.dn nq).ref hokk.1 yL yW HPk.out.cp ((sec + x : Nat) : Int) (y : Int) (ws k)
        obtain ⟨⟨d2, e2n⟩, hp2⟩ : ∃ p, dk.program ((sec + x : Nat) : Int) (y : Int) (ws k) = p := ⟨_, rfl⟩
        rw [hp2] at hsu
        simp only [hp2] at hpr
        rw [show ((sec + x : Nat) : Int) = (sec : Int) + (x : Int) by push_cast; rfl] at hpr
        have HPr := Lib.hid hpr
        have HSu := Lib.hid hsu
        have f1 : IntKind.i64.wrap ((frm : Int) + (k : Int)) = (frm : Int) + k := by rw [IntKind.wrap_i64]; omega
        have f2 : IntKind.i64.wrap ((sec : Int) + (x : Int)) = (sec : Int) + x := by rw [IntKind.wrap_i64]; omega
        have f3 : IntKind.i64.wrap (x : Int) = (x : Int) := by rw [IntKind.wrap_i64]; omega
        have f4 : IntKind.i64.wrap (y : Int) = (y : Int) := by rw [IntKind.wrap_i64]; omega
        have g1 : ¬ dk.nw = 0 := by omega
        clear HP0 HC0 hnk hsu hx1 hokk hx hy hpr hp2
        have HNX := Lib.hid (fun (nq : Nat) (w5 : World) (e : Ending) (h : RefOut (wr.drewN nq) w5 xL xW d2 (fun v => .tuple #[v, .int .i64 e2n]) e) => (HPk.out.dn nq).next (show A < w1.heap.size by have := HH.out.2.1; omega) h)
        go_wp2
        refine wp_region_headt (C := fun w' => ∃ n, w' = wr.drewN n) _ 15 6 [0, 6, 10, 14] rfl rfl (by kernel_rfl) (by kernel_rfl) (by kernel_rfl) (by kernel_rfl) (by kernel_rfl) (by kernel_rfl) ⟨1, rfl⟩ ?_
        simp only [List.take_succ_cons, List.take_zero]
        repeat (quiet_step (fail))
        refine wpQuiet_nil ?_
        intro _ hw1
        obtain ⟨nq, hw2⟩ := hw1
        subst hw2
        refine wpAny_ready (rs := [15]) (by kernel_rfl) (by simp) (AllReady.cons (o := { dst := some 42, op := .call { callee := .value (.func 92), args := #[.tmp 27, .tmp 33, .tmp 37, .tmp 41], argTypes := #[28, 3, 3, 26] }, type := 29, pos := "law.go:92", after := #[{ on := 0, ground := .data }, { on := 6, ground := .data }, { on := 10, ground := .data }, { on := 14, ground := .data }], guard := none }) rfl (fun K hK => ?_) AllReady.nil)
        go_simp
        go_at_call 92
        refine (HPr.out nq).mono ?_
        rintro e w5 hro
        obtain ⟨xL', yL', xW', yW', rfl, hr5, hp5⟩ := HNX.out nq w5 e hro
        have H5 := Lib.hid (And.intro hr5 hp5)
        clear hr5 hp5 hro
        try dsimp only
        refine hK _ _ ?_
        clear hK K
        try simp only [List.setIfInBounds_toArray]
        refine wpAny_ready (rs := [16]) (by kernel_rfl) (by simp) (AllReady.cons (o := { dst := some 26, op := .move (.tmp 42), type := 29, pos := "law.go:92", after := #[{ on := 15, ground := .data }], guard := none }) rfl (fun K hK => ?_) AllReady.nil)
        go_simp
        refine hK _ _ ?_
        clear hK K
        try simp only [List.setIfInBounds_toArray]
        refine wpAny_ready (rs := [17, 18]) (by kernel_rfl) (by simp) (AllReady.cons (o := { dst := some 43, op := .extract (.tmp 26) 0, type := 28, pos := "law.go:92", after := #[{ on := 16, ground := .data }], guard := none }) rfl (fun K hK => ?_) (AllReady.cons (o := { dst := some 44, op := .extract (.tmp 26) 1, type := 3, pos := "law.go:92", after := #[{ on := 16, ground := .data }, { on := 19, ground := .gcOnly Go.Departure.lateStores }], guard := none }) rfl (fun K hK => ?_) AllReady.nil))
        · go_simp
          refine hK _ _ ?_
          clear hK K
          try simp only [List.setIfInBounds_toArray]
          refine wpAny_ready (rs := [18, 19]) (by kernel_rfl) (by simp) (AllReady.cons (o := { dst := some 44, op := .extract (.tmp 26) 1, type := 3, pos := "law.go:92", after := #[{ on := 16, ground := .data }, { on := 19, ground := .gcOnly Go.Departure.lateStores }], guard := none }) rfl (fun K hK => ?_) (AllReady.cons (o := { dst := none, op := .store 28 (.tmp 4) (.tmp 43), type := 0, pos := "law.go:92", after := #[{ on := 17, ground := .data }, { on := 15, ground := .chain }, { on := 0, ground := .phase }, { on := 1, ground := .phase }, { on := 2, ground := .phase }, { on := 3, ground := .phase }, { on := 4, ground := .phase }, { on := 5, ground := .phase }, { on := 6, ground := .phase }, { on := 7, ground := .phase }, { on := 8, ground := .phase }, { on := 9, ground := .phase }, { on := 10, ground := .phase }, { on := 11, ground := .phase }, { on := 12, ground := .phase }, { on := 13, ground := .phase }, { on := 14, ground := .phase }, { on := 15, ground := .phase }, { on := 16, ground := .phase }, { on := 17, ground := .phase }, { on := 18, ground := .textOnly Go.Departure.lateStores }], guard := none }) rfl (fun K hK => ?_) AllReady.nil))
          · go_simp
            refine hK _ _ ?_
            clear hK K
            try simp only [List.setIfInBounds_toArray]
            refine wpAny_ready (rs := [19]) (by kernel_rfl) (by simp) (AllReady.cons (o := { dst := none, op := .store 28 (.tmp 4) (.tmp 43), type := 0, pos := "law.go:92", after := #[{ on := 17, ground := .data }, { on := 15, ground := .chain }, { on := 0, ground := .phase }, { on := 1, ground := .phase }, { on := 2, ground := .phase }, { on := 3, ground := .phase }, { on := 4, ground := .phase }, { on := 5, ground := .phase }, { on := 6, ground := .phase }, { on := 7, ground := .phase }, { on := 8, ground := .phase }, { on := 9, ground := .phase }, { on := 10, ground := .phase }, { on := 11, ground := .phase }, { on := 12, ground := .phase }, { on := 13, ground := .phase }, { on := 14, ground := .phase }, { on := 15, ground := .phase }, { on := 16, ground := .phase }, { on := 17, ground := .phase }, { on := 18, ground := .textOnly Go.Departure.lateStores }], guard := none }) rfl (fun K hK => ?_) AllReady.nil)
            rw [if_pos (by rfl)]
            refine wp_store_row 28 (.tmp 4) (.tmp 43) (by rfl) A (cellsD xL' yL' xW' yW' d2) (by rfl) (by rfl) 28 _ H5.out.1 (by kernel_rfl) rfl (cellsD_one _ _ _ _ _) ?_
            refine hK _ _ ?_
            clear hK K
            try simp only [Act.put, List.setIfInBounds_toArray]
            refine wpAny_ready (rs := [20]) (by kernel_rfl) (by simp) (AllReady.cons (o := { dst := some 10, op := .assign (.tmp 44), type := 3, pos := "law.go:92", after := #[{ on := 18, ground := .data }, { on := 19, ground := .chain }, { on := 0, ground := .phase }, { on := 1, ground := .phase }, { on := 2, ground := .phase }, { on := 3, ground := .phase }, { on := 4, ground := .phase }, { on := 5, ground := .phase }, { on := 6, ground := .phase }, { on := 7, ground := .phase }, { on := 8, ground := .phase }, { on := 9, ground := .phase }, { on := 10, ground := .phase }, { on := 11, ground := .phase }, { on := 12, ground := .phase }, { on := 13, ground := .phase }, { on := 14, ground := .phase }, { on := 15, ground := .phase }, { on := 16, ground := .phase }, { on := 17, ground := .phase }, { on := 18, ground := .phase }, { on := 19, ground := .phase }], guard := none }) rfl (fun K hK => ?_) AllReady.nil)
            go_simp
            refine hK _ _ ?_
            clear hK K
            try simp only [List.setIfInBounds_toArray]
            refine wpAny_done (by kernel_rfl) ?_ _
            go_wp2
            go_roundg m1
            case measure => omega
            case rel =>
              refine ⟨k + 1, by omega, by go_num, by rw [HSu.out], fun j hj => ?_, _, _, _, _, by rw [HSu.out]; exact H5.out.2⟩
              rcases Nat.lt_or_ge j k with h1 | h1
              · exact HA.out.1 j h1
              · obtain rfl : j = k := by omega
                rw [HDk.out]
          · rw [if_pos (by rfl)]
            refine wp_store_row 28 (.tmp 4) (.tmp 43) (by rfl) A (cellsD xL' yL' xW' yW' d2) (by rfl) (by rfl) 28 _ H5.out.1 (by kernel_rfl) rfl (cellsD_one _ _ _ _ _) ?_
            refine hK _ _ ?_
            clear hK K
            try simp only [Act.put, List.setIfInBounds_toArray]
            refine wpAny_ready (rs := [18]) (by kernel_rfl) (by simp) (AllReady.cons (o := { dst := some 44, op := .extract (.tmp 26) 1, type := 3, pos := "law.go:92", after := #[{ on := 16, ground := .data }, { on := 19, ground := .gcOnly Go.Departure.lateStores }], guard := none }) rfl (fun K hK => ?_) AllReady.nil)
            go_simp
            refine hK _ _ ?_
            clear hK K
            try simp only [List.setIfInBounds_toArray]
            refine wpAny_ready (rs := [20]) (by kernel_rfl) (by simp) (AllReady.cons (o := { dst := some 10, op := .assign (.tmp 44), type := 3, pos := "law.go:92", after := #[{ on := 18, ground := .data }, { on := 19, ground := .chain }, { on := 0, ground := .phase }, { on := 1, ground := .phase }, { on := 2, ground := .phase }, { on := 3, ground := .phase }, { on := 4, ground := .phase }, { on := 5, ground := .phase }, { on := 6, ground := .phase }, { on := 7, ground := .phase }, { on := 8, ground := .phase }, { on := 9, ground := .phase }, { on := 10, ground := .phase }, { on := 11, ground := .phase }, { on := 12, ground := .phase }, { on := 13, ground := .phase }, { on := 14, ground := .phase }, { on := 15, ground := .phase }, { on := 16, ground := .phase }, { on := 17, ground := .phase }, { on := 18, ground := .phase }, { on := 19, ground := .phase }], guard := none }) rfl (fun K hK => ?_) AllReady.nil)
            go_simp
            refine hK _ _ ?_
            clear hK K
            try simp only [List.setIfInBounds_toArray]
            refine wpAny_done (by kernel_rfl) ?_ _
            go_wp2
            go_roundg m1
            case measure => omega
            case rel =>
              refine ⟨k + 1, by omega, by go_num, by rw [HSu.out], fun j hj => ?_, _, _, _, _, by rw [HSu.out]; exact H5.out.2⟩
              rcases Nat.lt_or_ge j k with h1 | h1
              · exact HA.out.1 j h1
              · obtain rfl : j = k := by omega
                rw [HDk.out]
        · go_simp
          refine hK _ _ ?_
          clear hK K
          try simp only [List.setIfInBounds_toArray]
          refine wpAny_ready (rs := [17]) (by kernel_rfl) (by simp) (AllReady.cons (o := { dst := some 43, op := .extract (.tmp 26) 0, type := 28, pos := "law.go:92", after := #[{ on := 16, ground := .data }], guard := none }) rfl (fun K hK => ?_) AllReady.nil)
          go_simp
          refine hK _ _ ?_
          clear hK K
          try simp only [List.setIfInBounds_toArray]
          refine wpAny_ready (rs := [19]) (by kernel_rfl) (by simp) (AllReady.cons (o := { dst := none, op := .store 28 (.tmp 4) (.tmp 43), type := 0, pos := "law.go:92", after := #[{ on := 17, ground := .data }, { on := 15, ground := .chain }, { on := 0, ground := .phase }, { on := 1, ground := .phase }, { on := 2, ground := .phase }, { on := 3, ground := .phase }, { on := 4, ground := .phase }, { on := 5, ground := .phase }, { on := 6, ground := .phase }, { on := 7, ground := .phase }, { on := 8, ground := .phase }, { on := 9, ground := .phase }, { on := 10, ground := .phase }, { on := 11, ground := .phase }, { on := 12, ground := .phase }, { on := 13, ground := .phase }, { on := 14, ground := .phase }, { on := 15, ground := .phase }, { on := 16, ground := .phase }, { on := 17, ground := .phase }, { on := 18, ground := .textOnly Go.Departure.lateStores }], guard := none }) rfl (fun K hK => ?_) AllReady.nil)
          rw [if_pos (by rfl)]
          refine wp_store_row 28 (.tmp 4) (.tmp 43) (by rfl) A (cellsD xL' yL' xW' yW' d2) (by rfl) (by rfl) 28 _ H5.out.1 (by kernel_rfl) rfl (cellsD_one _ _ _ _ _) ?_
          refine hK _ _ ?_
          clear hK K
          try simp only [Act.put, List.setIfInBounds_toArray]
          refine wpAny_ready (rs := [20]) (by kernel_rfl) (by simp) (AllReady.cons (o := { dst := some 10, op := .assign (.tmp 44), type := 3, pos := "law.go:92", after := #[{ on := 18, ground := .data }, { on := 19, ground := .chain }, { on := 0, ground := .phase }, { on := 1, ground := .phase }, { on := 2, ground := .phase }, { on := 3, ground := .phase }, { on := 4, ground := .phase }, { on := 5, ground := .phase }, { on := 6, ground := .phase }, { on := 7, ground := .phase }, { on := 8, ground := .phase }, { on := 9, ground := .phase }, { on := 10, ground := .phase }, { on := 11, ground := .phase }, { on := 12, ground := .phase }, { on := 13, ground := .phase }, { on := 14, ground := .phase }, { on := 15, ground := .phase }, { on := 16, ground := .phase }, { on := 17, ground := .phase }, { on := 18, ground := .phase }, { on := 19, ground := .phase }], guard := none }) rfl (fun K hK => ?_) AllReady.nil)
          go_simp
          refine hK _ _ ?_
          clear hK K
          try simp only [List.setIfInBounds_toArray]
          refine wpAny_done (by kernel_rfl) ?_ _
          go_wp2
          go_roundg m1
          case measure => omega
          case rel =>
            refine ⟨k + 1, by omega, by go_num, by rw [HSu.out], fun j hj => ?_, _, _, _, _, by rw [HSu.out]; exact H5.out.2⟩
            rcases Nat.lt_or_ge j k with h1 | h1
            · exact HA.out.1 j h1
            · obtain rfl : j = k := by omega
              rw [HDk.out]

      · clear HP0 HC0 HX
        have hrr := HPk.out.ch.obj HH.out.2.2.2.1 (show ¬ A + 1 = A by omega)
        have HRR := Lib.hid hrr
        clear hrr
        go_wp2_with (first
          | (refine wpList_load_row rfl 28 (.tmp 4) rfl A rfl 28 (cellsD xL yL xW yW dk) (0, 0) _ HPk.out.row Try.underlying28 rfl (by kernel_rfl) ?_)
          | (refine wpList_store_row rfl 28 (.tmp 8) (.tmp 45) rfl (A + 1) (cellsD xL yL xW yW dk) rfl rfl 28 _ HRR.out (by kernel_rfl) rfl (cellsD_one _ _ _ _ _) ?_)
          | fail)
        refine bodyPost_ret (results_row rfl _ _ (A + 1) 28 (cellsD xL yL xW yW dk) _ rfl (RowAt.put HRR.out) Try.underlying28 rfl (by kernel_rfl)) rfl ?_
        have hz1 := HH.out.2.1
        have hwA := HH.out.1
        have nL : xL ≠ A + 1 := by rcases HPk.out.nl with h | h; (rw [h]; have := HLT.out.1; omega); omega
        have nW : xW ≠ A + 1 := by rcases HPk.out.nw with h | h; (rw [h]; have := HLT.out.2; omega); omega
        rw [HST.out.1 he]
        refine ⟨xL, yL, xW, yW, rfl, HPk.out.ref.keep (ch_setRow wr (A + 1) _) nL nW, ?_, ?_, HPk.out.cp, ?_⟩
        · rcases HPk.out.nl with h | h
          · exact .inl h
          · exact .inr (by omega)
        · rcases HPk.out.nw with h | h
          · exact .inl h
          · exact .inr (by omega)
        · exact below_setRow (HH.out.2.2.1.trans (HPk.out.ch.below (fun j hj e => by omega) (by omega))) (by omega) _
end Go.Proofs.Ythpagbfabpfngaa
/- The contracts of law08's row and words. -/
namespace Go.Proofs.Ythpagbfabpfngaa
open Go.RowKit

theorem nthW_ext {L M : List (BitVec 32)} (hl : L.length = M.length) (h : ∀ k, k < L.length → nthW L k = nthW M k) : L = M := by
  apply List.ext_getElem hl
  intro i h1 h2
  have := h i h1
  simpa [nthW, h1, h2] using this
set_option maxHeartbeats 2000000 in
theorem lrow_any {w : World} {spA spB : Option Addr} {bA oA cA bB oB cB : Nat} (L M : List (BitVec 32)) (hL : L.length ≤ 100000) (hM : M.length ≤ 100000) (hA : Ws w spA bA oA L.length (nthW L)) (hB : Ws w spB bB oB M.length (nthW M)) :
    Calls Try.prog 22 #[.slice spA L.length cA, .slice spB M.length cB] w fun e w' => e = .returned (.bool (decide (L = M))) ∧ ∃ n, w' = w.drewN n := by
  obtain ⟨n, hn⟩ : ∃ n, L.length = n := ⟨_, rfl⟩
  obtain ⟨m, hm⟩ : ∃ m, M.length = m := ⟨_, rfl⟩
  have HA := Lib.hid hA
  have HB := Lib.hid hB
  have HN := Lib.hid (And.intro hn hm)
  rw [hn] at HA hL ⊢
  rw [hm] at HB hM ⊢
  clear hA hB
  by_cases hnm : n = m
  · subst hnm
    clear hn hm
    go_enter Try.func22, Try.ntmps22
    go_wp2
    go_loopg [5] n (fun g v wr => ∃ i : Nat, i + g = n ∧ v = .int .i64 (i : Nat) ∧ Aside ((∃ q, wr = w.drewN q) ∧ ∀ j, j < i → nthW L j = nthW M j))
    case atStart => exact ⟨0, by omega, rfl, ⟨0, rfl⟩, fun j hj => absurd hj (Nat.not_lt_zero j)⟩
    case round =>
      obtain ⟨i, hig, rfl, HR⟩ := hrel
      obtain ⟨⟨q, rfl⟩, -⟩ := HR.out
      cases gk with
      | zero =>
        obtain rfl : i = n := by omega
        have ht : decide (L = M) = true := decide_eq_true (nthW_ext (by rw [HN.out.1, HN.out.2]) (fun k hk => HR.out.2 k (by rw [← HN.out.1]; exact hk)))
        have HT := Lib.hid ht
        clear ht
        go_wp2
        refine bodyPost_ret (results_tmp rfl _ _ _) rfl ?_
        rw [HT.out]
        exact ⟨rfl, q, rfl⟩
      | succ g1 =>
        have hlt : i < n := by omega
        obtain ⟨rfl, -⟩ := HA.out.sp (by omega)
        obtain ⟨rfl, -⟩ := HB.out.sp (by omega)
        have a1 := HA.out.cell i hlt
        have b1 := HB.out.cell i hlt
        obtain ⟨x, hx⟩ : ∃ x, nthW L i = x := ⟨_, rfl⟩
        obtain ⟨y, hy⟩ : ∃ y, nthW M i = y := ⟨_, rfl⟩
        have HXY := Lib.hid (And.intro hx hy)
        rw [hx] at a1
        rw [hy] at b1
        clear hx hy
        by_cases he : x = y
        · subst he
          have HE := Lib.hid (HXY.out.1.trans HXY.out.2.symm)
          go_wp2
          go_quiet (fail)
          go_wp2
          go_roundg g1
          case measure => omega
          case rel =>
            refine ⟨i + 1, by omega, by go_num, ⟨_, rfl⟩, fun j hj => ?_⟩
            rcases Nat.lt_or_ge j i with h1 | h1
            · exact HR.out.2 j h1
            · obtain rfl : j = i := by omega
              exact HE.out
        · have hne : ¬ w32 x = w32 y := fun e => he (w32_inj.1 e)
          have hf : decide (L = M) = false := decide_eq_false fun e => he (by rw [← HXY.out.1, ← HXY.out.2, e])
          have HF := Lib.hid hf
          clear hf
          go_wp2
          go_quiet (fail)
          go_wp2
          refine bodyPost_ret (results_tmp rfl _ _ _) rfl ?_
          rw [HF.out]
          exact ⟨rfl, _, World.drewN_drewN ..⟩
  · have hne : decide (L = M) = false := decide_eq_false fun e => hnm (by rw [← hn, ← hm, e])
    have hnn : ¬ (n : Int) = (m : Int) := by omega
    rw [hne]
    clear hn hm
    go_enter Try.func22, Try.ntmps22
    go_wp2
    go_ret
    exact ⟨rfl, 0, rfl⟩
set_option maxHeartbeats 2000000 in
/-- A sector's words, of the document's device. -/
theorem lwords_any {w : World} {bL bW : Nat} {d : Dev} (h : RefIn w bL bW d) (cL cW s : Nat) (hs : s < d.ns) (hc : d.ns * d.nw ≤ cL) :
    Calls Try.prog 24 #[refX bL cL bW cW d, .int .i64 s] w fun e w' => e = .returned (.slice (some ⟨bL, s * d.nw, none⟩) d.nw (cL - s * d.nw)) ∧ Below w.heap.size w w' := by
  have hz := h.zn
  have e1 : ((s : Int) + 1) * (d.nw : Int) = (((s + 1) * d.nw : Nat) : Int) := by push_cast; rfl
  have e0 : (s : Int) * (d.nw : Int) = ((s * d.nw : Nat) : Int) := by push_cast; rfl
  have hle : (s + 1) * d.nw ≤ d.ns * d.nw := Nat.mul_le_mul (by omega) (Nat.le_refl _)
  have hM : d.ns * d.nw ≤ 70000 := Nat.le_trans (Nat.mul_le_mul hz.1 hz.2.1) (by decide)
  have hs1 : (s + 1) * d.nw = s * d.nw + d.nw := by rw [Nat.add_mul, Nat.one_mul]
  obtain ⟨a, ha⟩ : ∃ a, s * d.nw = a := ⟨_, rfl⟩
  obtain ⟨M, hMM⟩ : ∃ M, d.ns * d.nw = M := ⟨_, rfl⟩
  have hg : refX bL cL bW cW d = .agg #[.int .i64 d.ns, .int .i64 d.nw, .int .i64 d.limit, .slice (some ⟨bL, 0, none⟩) M cL, .slice (some ⟨bW, 0, none⟩) d.ns cW, .bool (!d.on), .bool d.armed, .int .i64 d.after, .int .u32 (w32 d.seed), .int .i64 d.ops] := by rw [← hMM]; rfl
  rw [hg]
  rw [hs1, ha] at e1 hle
  rw [ha] at e0 ⊢
  rw [hMM] at hle hM hc
  obtain ⟨nw, hnw⟩ : ∃ nw, d.nw = nw := ⟨_, rfl⟩
  rw [hnw] at e0 e1 hle ⊢
  have f0 : IntKind.i64.wrap ((a : Nat) : Int) = (a : Nat) := by rw [IntKind.wrap_i64]; omega
  have f1 : IntKind.i64.wrap ((a : Int) + (nw : Int)) = (a : Int) + (nw : Int) := by rw [IntKind.wrap_i64]; omega
  have f2 : IntKind.i64.wrap ((s : Int) + 1) = (s : Int) + 1 := by rw [IntKind.wrap_i64]; omega
  have g1 : (a : Int) + (nw : Int) ≤ (cL : Int) := by omega
  have g2 : (a : Int) ≤ (a : Int) + (nw : Int) := by omega
  have g7 : (0 : Int) ≤ (a : Int) + (nw : Int) := by omega
  have g3 : (0 : Int) ≤ (a : Int) := by omega
  have g4 : a + nw ≤ cL := by omega
  have g5 : a + nw - a = nw := by omega
  have g6 : ¬ cL = a := by have := hz.2.2.2; omega
  clear hs1 ha hMM hg h hz hle hM hnw
  go_enter Try.func24, Try.ntmps24
  go_wp2
  go_ret
  rw [g5]
  exact ⟨rfl, (Below.refl _ _).alloc (Nat.le_refl _) _⟩
end Go.Proofs.Ythpagbfabpfngaa
/- Where law08's bench lies: a block of fourteen cells; the block that a call boxes it in, and its result's. -/
namespace Go.Proofs.Ythpagbfabpfngaa
open Go.RowKit

theorem RowAt.setC {w : World} {b : Nat} {t : TypeId} {cs : Array Value} (h : RowAt w b t cs) (j : Nat) (v : Value) : RowAt (w.setCell ⟨b, j, none⟩ v) b t (cs.setIfInBounds j v) := heap_setCell_same w b j cs t v h
/-- A row with cells from a place on turned. -/
def setL (cs : Array Value) : Nat → List Value → Array Value
  | _, [] => cs
  | o, v :: r => setL (cs.setIfInBounds o v) (o + 1) r
theorem RowAt.setCs {b : Nat} {t : TypeId} : ∀ (vs : List Value) (o : Nat) {cs : Array Value} {w : World}, RowAt w b t cs → RowAt (w.setCells b o vs) b t (setL cs o vs)
  | [], _, _, _, h => h
  | v :: r, o, _, _, h => RowAt.setCs r (o + 1) (h.setC o v)
theorem ch_setCells (b : Nat) : ∀ (vs : List Value) (o : Nat) (w : World), Ch (fun j => j = b) w (w.setCells b o vs)
  | [], _, w => Ch.refl _ w
  | v :: r, o, w => (show Ch (fun j => j = b) w (w.setCell ⟨b, o, none⟩ v) from (Ch.refl _ w).setCell _ _ (.inl rfl)).trans (ch_setCells b r (o + 1) _)
theorem RowAt.keep {T : Nat → Prop} {w w' : World} {b : Nat} {t : TypeId} {cs : Array Value} (h : RowAt w b t cs) (c : Ch T w w') (hT : ¬ T b) : RowAt w' b t cs := (c.block b h.lt hT).trans h

/-- The cells of a bench. -/
def benchC (q B bL cL bW cW : Nat) (d : Dev) (op : Bool) (sp : Option Addr) (n cap : Nat) : Array Value := #[.pointer (some ⟨q, 0, none⟩), .pointer (some ⟨B, 0, none⟩), .int .i64 d.ns, .int .i64 d.nw, .int .i64 d.limit, .slice (some ⟨bL, 0, none⟩) (d.ns * d.nw : Nat) cL, .slice (some ⟨bW, 0, none⟩) d.ns cW, .bool (!d.on), .bool d.armed, .int .i64 d.after, .int .u32 (w32 d.seed), .int .i64 d.ops, .bool op, .slice sp n cap]
def benchZ : Array Value := #[.pointer none, .pointer none, .int .i64 0, .int .i64 0, .int .i64 0, .slice none 0 0, .slice none 0 0, .bool false, .bool false, .int .i64 0, .int .u32 0, .int .i64 0, .bool false, .slice none 0 0]
theorem benchC_one (q B bL cL bW cW : Nat) (d : Dev) (op : Bool) (sp : Option Addr) (n cap : Nat) : (benchC q B bL cL bW cW d op sp n cap).all (·.oneCell') = true :=
  all_oneCell_toArray (cs := [.pointer (some ⟨q, 0, none⟩), .pointer (some ⟨B, 0, none⟩), .int .i64 d.ns, .int .i64 d.nw, .int .i64 d.limit, .slice (some ⟨bL, 0, none⟩) (d.ns * d.nw : Nat) cL, .slice (some ⟨bW, 0, none⟩) d.ns cW, .bool (!d.on), .bool d.armed, .int .i64 d.after, .int .u32 (w32 d.seed), .int .i64 d.ops, .bool op, .slice sp n cap]) (fun v hv => by simp at hv; rcases hv with rfl | rfl | rfl | rfl | rfl | rfl | rfl | rfl | rfl | rfl | rfl | rfl | rfl | rfl <;> rfl)
theorem bench_setR (q B bL cL bW cW : Nat) (d : Dev) (op : Bool) (sp : Option Addr) (n cap bL' cL' bW' cW' : Nat) (d' : Dev) : setL (benchC q B bL cL bW cW d op sp n cap) 2 (cellsD bL' cL' bW' cW' d').toList = benchC q B bL' cL' bW' cW' d' op sp n cap := by
  simp only [benchC, cellsD, setL, List.setIfInBounds_toArray, List.set_cons_zero, List.set_cons_succ]
section
variable {w : World} {X q B bL cL bW cW : Nat} {d : Dev} {op : Bool} {sp : Option Addr} {n cap : Nat}
theorem bench_range (h : RowAt w X 53 (benchC q B bL cL bW cW d op sp n cap)) : w.rangeAt X 2 (cellsD bL cL bW cW d).toList := by
  intro j v hv
  rw [h.cell]
  have hj : j < 10 := (List.getElem?_eq_some_iff.1 hv).1
  obtain rfl | rfl | rfl | rfl | rfl | rfl | rfl | rfl | rfl | rfl : j = 0 ∨ j = 1 ∨ j = 2 ∨ j = 3 ∨ j = 4 ∨ j = 5 ∨ j = 6 ∨ j = 7 ∨ j = 8 ∨ j = 9 := by omega
  all_goals exact hv
theorem bench_there (h : RowAt w X 53 (benchC q B bL cL bW cW d op sp n cap)) : w.there X 2 10 := by
  intro j hj
  refine ⟨?_, h.fr _⟩
  rw [h.cell]
  obtain rfl | rfl | rfl | rfl | rfl | rfl | rfl | rfl | rfl | rfl : j = 0 ∨ j = 1 ∨ j = 2 ∨ j = 3 ∨ j = 4 ∨ j = 5 ∨ j = 6 ∨ j = 7 ∨ j = 8 ∨ j = 9 := by omega
  all_goals rfl
end
theorem bench_put {w : World} {X q B bL cL bW cW : Nat} {d : Dev} {op : Bool} {sp : Option Addr} {n cap : Nat} (h : RowAt w X 53 (benchC q B bL cL bW cW d op sp n cap)) (bL' cL' bW' cW' : Nat) (d' : Dev) :
    RowAt (w.setCells X 2 (cellsD bL' cL' bW' cW' d').toList) X 53 (benchC q B bL' cL' bW' cW' d' op sp n cap) := by
  rw [← bench_setR q B bL cL bW cW d op sp n cap]; exact h.setCs _ 2

/-- What lies where while a call of the law runs: the bench that it boxed, its result's block behind it. -/
structure BI (w0 w : World) (X q B oL oW bL cL bW cW : Nat) (d : Dev) (op : Bool) (sp : Option Addr) (n cap : Nat) : Prop where
  x : RowAt w X 53 (benchC q B bL cL bW cW d op sp n cap)
  y : RowAt w (X + 1) 53 benchZ
  ref : RefIn w bL bW d
  cp : d.ns * d.nw ≤ cL
  pl : (bL = oL ∧ oL < X) ∨ X + 1 < bL
  pw : (bW = oW ∧ oW < X) ∨ X + 1 < bW
  b : Below X w0 w
  hX : w0.heap.size = X
section
variable {w0 w w' : World} {X q B oL oW bL cL bW cW : Nat} {d : Dev} {op : Bool} {sp : Option Addr} {n cap : Nat}
theorem BI.start {w : World} {q B bL cL bW cW : Nat} {d : Dev} {op : Bool} {sp : Option Addr} {n cap : Nat} (h : RefIn w bL bW d) (hc : d.ns * d.nw ≤ cL) :
    BI w ((w.alloc (.cells (benchC q B bL cL bW cW d op sp n cap) 53)).alloc (.cells benchZ 53)) w.heap.size q B bL bW bL cL bW cW d op sp n cap := by
  have b1 : Below w.heap.size w ((w.alloc (.cells (benchC q B bL cL bW cW d op sp n cap) 53)).alloc (.cells benchZ 53)) := ((Below.refl _ _).alloc (Nat.le_refl _) _).alloc (by simp) _
  refine ⟨(RowAt.mk w _ _).new ((Below.refl _ _).alloc (Nat.le_refl _) _), ?_, h.new b1, hc, .inl ⟨rfl, h.ltL⟩, .inl ⟨rfl, h.ltW⟩, b1, rfl⟩
  have := RowAt.mk (w.alloc (.cells (benchC q B bL cL bW cW d op sp n cap) 53)) 53 benchZ
  rw [World.size_alloc] at this
  exact this
theorem BI.lt (h : BI w0 w X q B oL oW bL cL bW cW d op sp n cap) : X + 1 < w.heap.size := h.y.lt
theorem BI.apart (h : BI w0 w X q B oL oW bL cL bW cW d op sp n cap) : bL ≠ X ∧ bL ≠ X + 1 ∧ bW ≠ X ∧ bW ≠ X + 1 := by
  rcases h.pl with ⟨h1, h2⟩ | h1 <;> rcases h.pw with ⟨h3, h4⟩ | h3 <;> omega
theorem BI.new (h : BI w0 w X q B oL oW bL cL bW cW d op sp n cap) (hb : Below w.heap.size w w') : BI w0 w' X q B oL oW bL cL bW cW d op sp n cap :=
  ⟨h.x.new hb, h.y.new hb, h.ref.new hb, h.cp, h.pl, h.pw, h.b.trans (hb.mono (by have := h.lt; omega)), h.hX⟩
theorem BI.dn (h : BI w0 w X q B oL oW bL cL bW cW d op sp n cap) (m : Nat) : BI w0 (w.drewN m) X q B oL oW bL cL bW cW d op sp n cap := h.new (below_dn (Below.refl _ _) m)
theorem BI.setOp (h : BI w0 w X q B oL oW bL cL bW cW d op sp n cap) (op' : Bool) : BI w0 (w.setCell ⟨X, 12, none⟩ (.bool op')) X q B oL oW bL cL bW cW d op' sp n cap :=
  ⟨h.x.setC 12 (.bool op'), h.y.keep ((Ch.refl (fun j => j = X) w).setCell _ _ (.inl rfl)) (by omega), h.ref.keep ((Ch.refl (fun j => j = X) w).setCell _ _ (.inl rfl)) h.apart.1 h.apart.2.2.1, h.cp, h.pl, h.pw, h.b.setCell (Nat.le_refl _) _, h.hX⟩
theorem BI.setPut (h : BI w0 w X q B oL oW bL cL bW cW d op sp n cap) (sp' : Option Addr) (n' cap' : Nat) : BI w0 (w.setCell ⟨X, 13, none⟩ (.slice sp' n' cap')) X q B oL oW bL cL bW cW d op sp' n' cap' :=
  ⟨h.x.setC 13 (.slice sp' n' cap'), h.y.keep ((Ch.refl (fun j => j = X) w).setCell _ _ (.inl rfl)) (by omega), h.ref.keep ((Ch.refl (fun j => j = X) w).setCell _ _ (.inl rfl)) h.apart.1 h.apart.2.2.1, h.cp, h.pl, h.pw, h.b.setCell (Nat.le_refl _) _, h.hX⟩
theorem below_setCells {m : Nat} {w0 : World} (b : Nat) (hb : m ≤ b) : ∀ (vs : List Value) (o : Nat) (w : World), Below m w0 w → Below m w0 (w.setCells b o vs)
  | [], _, _, h => h
  | v :: r, o, _, h => below_setCells b hb r (o + 1) _ (h.setCell hb v)
/-- The reference's device is turned. -/
theorem BI.next {d' : Dev} {r : Value → Value} {e : Ending} (h : BI w0 w X q B oL oW bL cL bW cW d op sp n cap) (ho : RefOut w w' bL bW d' r e) :
    ∃ bL' cL' bW' cW', e = .returned (r (.agg (cellsD bL' cL' bW' cW' d'))) ∧ RowAt w' X 53 (benchC q B bL cL bW cW d op sp n cap) ∧ BI w0 (w'.setCells X 2 (cellsD bL' cL' bW' cW' d').toList) X q B oL oW bL' cL' bW' cW' d' op sp n cap := by
  obtain ⟨bL', cL', bW', cW', he, h1, h2, h3, hcp, hb⟩ := ho
  have hn := h.new hb
  have hl := h.lt
  have p1 : (bL' = oL ∧ oL < X) ∨ X + 1 < bL' := by
    rcases h2 with h2 | h2
    · rw [h2]; exact h.pl
    · exact .inr (by omega)
  have p2 : (bW' = oW ∧ oW < X) ∨ X + 1 < bW' := by
    rcases h3 with h3 | h3
    · rw [h3]; exact h.pw
    · exact .inr (by omega)
  have cs : Ch (fun j => j = X) w' (w'.setCells X 2 (cellsD bL' cL' bW' cW' d').toList) := ch_setCells X _ 2 w'
  refine ⟨bL', cL', bW', cW', he, hn.x, bench_put hn.x _ _ _ _ _, hn.y.keep cs (by omega), h1.keep cs ?_ ?_, hcp, p1, p2, below_setCells X (Nat.le_refl _) _ 2 w' hn.b, h.hX⟩
  · rcases p1 with ⟨e1, e2⟩ | e1
    · rw [e1]; omega
    · show ¬ bL' = X; omega
  · rcases p2 with ⟨e1, e2⟩ | e1
    · rw [e1]; omega
    · show ¬ bW' = X; omega
end
/-- What a call of the law hands back: a bench, and where its reference and what was put lie. -/
def BenchOut (w w' : World) (q B bL bW bp : Nat) (d' : Dev) (op' : Bool) (X' : List (BitVec 32)) (r : Value → Value) (e : Ending) : Prop :=
  ∃ bL' cL' bW' cW' sp' bp' cap', e = .returned (r (.agg (benchC q B bL' cL' bW' cW' d' op' sp' X'.length cap'))) ∧ RefIn w' bL' bW' d' ∧ (bL' = bL ∨ w.heap.size ≤ bL') ∧ (bW' = bW ∨ w.heap.size ≤ bW') ∧ d'.ns * d'.nw ≤ cL' ∧ Ws w' sp' bp' 0 X'.length (nthW X') ∧ (0 < X'.length → bp' = bp ∨ w.heap.size ≤ bp') ∧ Below w.heap.size w w'
theorem BI.fin {w0 w : World} {X q B oL oW bL cL bW cW : Nat} {d : Dev} {op : Bool} {sp : Option Addr} {cap : Nat} {L : List (BitVec 32)} {bp bp' : Nat} {r : Value → Value} (h : BI w0 w X q B oL oW bL cL bW cW d op sp L.length cap) (hw : Ws w sp bp' 0 L.length (nthW L)) (hp : 0 < L.length → (bp' = bp ∧ bp' < X) ∨ X + 1 < bp') :
    BenchOut w0 (w.setRow (X + 1) (benchC q B bL cL bW cW d op sp L.length cap)) q B oL oW bp d op L r (.returned (r (.agg (benchC q B bL cL bW cW d op sp L.length cap)))) := by
  have cs := ch_setRow w (X + 1) (benchC q B bL cL bW cW d op sp L.length cap)
  have ha := h.apart
  refine ⟨bL, cL, bW, cW, sp, bp', cap, rfl, h.ref.keep cs ha.2.1 ha.2.2.2, ?_, ?_, h.cp, ?_, fun h0 => ?_, ?_⟩
  · rcases h.pl with ⟨h1, _⟩ | h1
    · exact .inl h1
    · right; rw [h.hX]; omega
  · rcases h.pw with ⟨h1, _⟩ | h1
    · exact .inl h1
    · right; rw [h.hX]; omega
  · refine ⟨fun h0 => ⟨(hw.sp h0).1, ?_⟩, fun k hk => ?_⟩
    · rw [size_setRow]; exact (hw.sp h0).2
    · refine cs.cell (hw.cell k hk) ?_
      show ¬ bp' = X + 1
      rcases hp (by omega) with ⟨_, h1⟩ | h1 <;> omega
  · rcases hp h0 with ⟨h1, _⟩ | h1
    · exact .inl h1
    · right; rw [h.hX]; omega
  · rw [h.hX]; exact below_setRow h.b (by omega) _
end Go.Proofs.Ythpagbfabpfngaa
