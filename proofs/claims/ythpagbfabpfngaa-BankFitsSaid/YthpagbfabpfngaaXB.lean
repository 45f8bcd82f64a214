/- Several texts in one: Col2, BI, BJ, BK, BL, BM. -/
import Derived.Test.YthpagbfabpfngaaColl
import Derived.Test.YthpagbfabpfngaaXA
/- Plain lemmas of this prover's own: a loop over a function that collects into a row that a variable names, where all else that was there at its beginning stays. No statement about the program. -/
namespace Go.Proofs.Ythpagbfabpfngaa
open Go.RowKit

/-- What such a loop owns: all that was there at its beginning, and the row that the variable names. -/
def FC2 (w2 : World) (Oc : Nat) (W : World) (j : Nat) : Prop := j < w2.heap.size ∨ ∃ v, W.cell? ⟨Oc, 0, none⟩ = some v ∧ v.ownBlock = some j
/-- k elements are collected: they are rf k. -/
def IC2 (e : TypeId) (size : Nat) (rf : Nat → List Value) (w2 : World) (Oc : Nat) (k : Nat) (W : World) : Prop :=
  Ch (fun j => j = Oc) w2 W ∧ ∃ v, W.cell? ⟨Oc, 0, none⟩ = some v ∧ W.frozen? ⟨Oc, 0, none⟩ = false ∧ W.ownsRow w2.heap.size e size v k (rf k)
section
variable {e : TypeId} {size : Nat} {rf : Nat → List Value}
theorem IC2.foot {w2 : World} {Oc : Nat} (hs : Oc < w2.heap.size) (k : Nat) : Foot (FC2 w2 Oc) (IC2 e size rf w2 Oc k) where
  lt := fun W ⟨h2, v, h3, _, h5⟩ j hj => by
    rcases hj with hj | ⟨v', hv, hj⟩
    · have := h2.size; omega
    · rw [h3] at hv; injection hv with hv; subst hv
      exact (h5.lt j hj).2
  keep := fun W W' ⟨h2, v, h3, h4, h5⟩ hc => by
    have nO : ¬ ¬ FC2 w2 Oc W Oc := fun hn => hn (.inl hs)
    have e3 : W'.cell? ⟨Oc, 0, none⟩ = some v := hc.cell h3 nO
    refine ⟨⟨⟨hc.os.trans h2.os, hc.tape.trans h2.tape, hc.output.trans h2.output, Nat.le_trans h2.size hc.size, fun j hj hn => ?_⟩, v, e3, (hc.frozenCell h3 nO).trans h4,
      own_same h5 fun g hg => hc.block g (h5.lt g hg).2 fun hn => hn (.inr ⟨v, h3, hg⟩)⟩, fun j hj => ?_⟩
    · rw [hc.block j (Nat.lt_of_lt_of_le hj h2.size) (fun hn => hn (.inl hj))]
      exact h2.block j hj hn
    · rcases hj with hj | ⟨v', hv, hj⟩
      · exact .inl hj
      · rw [e3] at hv; injection hv with hv; subst hv
        exact .inr ⟨v, h3, hj⟩
theorem grow_cell2 {A w1 w2 : World} {Oc : Nat} {v : Value} {n : Nat} {xs : List Value} {ob : Obj} (hs : Oc < w2.heap.size) (h3 : A.cell? ⟨Oc, 0, none⟩ = some v) (h4 : A.frozen? ⟨Oc, 0, none⟩ = false)
    (h5 : A.ownsRow w2.heap.size e size v n xs) (hg : (A.alloc ob).grownBy w1 v.ownBlock) : w1.cell? ⟨Oc, 0, none⟩ = some v ∧ w1.frozen? ⟨Oc, 0, none⟩ = false := by
  have hcr : Ch (fun j => v.ownBlock = some j) A w1 := (((Ch.refl (fun _ => False) A).alloc ob).mono (fun _ _ h => h.elim)).trans (ch_grown hg)
  exact ⟨hcr.cell h3 fun hj => by have := own_ge h5 _ hj; simp only at this; omega, (hcr.frozenCell h3 fun hj => by have := own_ge h5 _ hj; simp only at this; omega).trans h4⟩
/-- A round's append: the row has grown, the variable names it. -/
theorem IC2.grow {w2 A w1 : World} {Oc : Nat} {k : Nat} {v v' : Value} {ob : Obj} (hs : Oc < w2.heap.size) (h2 : Ch (fun j => j = Oc) w2 A) (h3 : A.cell? ⟨Oc, 0, none⟩ = some v) (h4 : A.frozen? ⟨Oc, 0, none⟩ = false)
    (h5 : A.ownsRow w2.heap.size e size v k (rf k))
    (ho : w1.ownsRow w2.heap.size e size v' (k + 1) (rf (k + 1))) (hg : (A.alloc ob).grownBy w1 v.ownBlock) (hat : v'.ownBlock = v.ownBlock ∨ v'.ownBlock = some (A.alloc ob).heap.size) :
    Step (FC2 w2 Oc) A (w1.setCell ⟨Oc, 0, none⟩ v') ∧ IC2 e size rf w2 Oc (k + 1) (w1.setCell ⟨Oc, 0, none⟩ v') := by
  have hz := h2.size
  have hge : ∀ j, v.ownBlock = some j → w2.heap.size ≤ j := fun j hj => own_ge h5 j hj
  have hcr : Ch (fun j => v.ownBlock = some j) A w1 := (((Ch.refl (fun _ => False) A).alloc ob).mono (fun _ _ h => h.elim)).trans (ch_grown hg)
  have e3 : w1.cell? ⟨Oc, 0, none⟩ = some v := hcr.cell h3 fun hj => by have := hge _ hj; simp only at this; omega
  have e4 : w1.frozen? ⟨Oc, 0, none⟩ = false := (hcr.frozenCell h3 fun hj => by have := hge _ hj; simp only at this; omega).trans h4
  have e5 : (w1.setCell ⟨Oc, 0, none⟩ v').cell? ⟨Oc, 0, none⟩ = some v' := World.cell?_setCell_same _ _ _ e3
  have hcW : Ch (fun j => j = Oc ∨ v.ownBlock = some j) A (w1.setCell ⟨Oc, 0, none⟩ v') := (hcr.mono fun _ _ h => .inr h).setCell _ _ (.inl (.inl rfl))
  refine ⟨⟨hcW.mono fun j _ hj => ?_, fun j hj => ?_⟩, ⟨hcW.os.trans h2.os, hcW.tape.trans h2.tape, hcW.output.trans h2.output, Nat.le_trans h2.size hcW.size, fun j hj hn => ?_⟩, v', e5, ?_, ?_⟩
  · rcases hj with rfl | hj
    · exact .inl hs
    · exact .inr ⟨v, h3, hj⟩
  · rcases hj with hj | ⟨v'', hv, hj⟩
    · exact .inl (.inl hj)
    · rw [e5] at hv; injection hv with hv; subst hv
      rcases hat with ha | ha
      · rw [ha] at hj; exact .inl (.inr ⟨v, h3, hj⟩)
      · rw [ha] at hj; injection hj with hj; subst hj
        right; simp
  · rw [hcW.block j (by omega) (fun h => by rcases h with h | h; exact hn h; have := hge j h; omega)]
    exact h2.block j hj hn
  · rw [World.frozen?_setCell]; exact e4
  · exact own_same ho fun g hg' => Below.heap_setCell w1 ⟨Oc, 0, none⟩ v' g (by have := own_ge ho g hg'; show g ≠ Oc; omega)
end
/-- A piece of code that leaves in no other way. -/
def nOnly (Q : Exit → Act → World → Prop) : Exit → Act → World → Prop
  | .normal, a, w => Q .normal a w
  | _, _, _ => False
theorem nOnly_normal {Q : Exit → Act → World → Prop} {a : Act} {w : World} (h : Q .normal a w) : nOnly Q .normal a w := h
theorem wp_nOnly {P : Program} {c : Code} {Q : Exit → Act → World → Prop} {a : Act} {w : World} (h : c.wp P (nOnly Q) a w) : c.wp P Q a w :=
  Code.wp_mono (fun e a w h => by cases e <;> first | exact h | exact h.elim) h
end Go.Proofs.Ythpagbfabpfngaa
/- The contract of bank's Commit. -/
namespace Go.Proofs.Ythpagbfabpfngaa
open Go.RowKit

theorem valueO_any {w : World} {B o : Nat} {v : Value} (h : w.cell? ⟨B, o, none⟩ = some v) (hv : ∃ x : Int, v = .int .u32 x) : Calls Try.prog 80 #[.pointer (some ⟨B, o, none⟩)] w fun e w' => e = .returned v ∧ w = w' := by
  obtain ⟨x, rfl⟩ := hv
  go_enter Try.func80, Try.ntmps80
  go_wp2
  go_ret
  exact ⟨rfl, rfl⟩
/-- What Commit programs. -/
def commitK (d : Dev) (base : Nat) (P : List (BitVec 32)) (seq : BitVec 32) : Dev × Int := progK d (base + 1) (fun k => 0 + k) (wrW (hdW seq (BitVec.ofNat 32 P.length) (~~~(runW ones P)))) 6
def commitD (d : Dev) (base : Nat) (P : List (BitVec 32)) (seq : BitVec 32) : Dev × Int :=
  if (commitK d base P seq).2 = 0 then progK (commitK d base P seq).1 (base + 1) (fun k => 6 + k) (wrW (fun _ => comW)) 2 else commitK d base P seq
set_option maxHeartbeats 4000000 in
set_option maxRecDepth 100000 in
theorem commit_no {w : World} {B q S : Nat} {g : Nat → Nat} {d : Dev} {base many : Nat} {op : Bool} {P : List (BitVec 32)} (h : Bk w B q S g d base many op P) (seq : BitVec 32) (hno : op = false ∨ P.length = 0) (hP : P.length ≤ 4096) :
    Calls Try.prog 45 #[.pointer (some ⟨B, 0, none⟩), .int .u32 (w32 seq)] w fun e w' => e = .returned (.int .i64 80) ∧ w = w' := by
  have c3 := h.c3
  have c4 := h.c4
  clear h
  obtain ⟨n, hn⟩ : ∃ n, P.length = n := ⟨_, rfl⟩
  rw [hn] at c4 hno hP
  clear hn
  cases op with
  | true =>
    obtain rfl : n = 0 := by simpa using hno
    go_enter Try.func45, Try.ntmps45
    go_wp2
    go_ret
    exact ⟨rfl, rfl⟩
  | false =>
    go_enter Try.func45, Try.ntmps45
    go_wp2
    go_ret
    exact ⟨rfl, rfl⟩
set_option maxHeartbeats 4000000 in
set_option maxRecDepth 100000 in
theorem commit_any {w : World} {B q S : Nat} {g : Nat → Nat} {d : Dev} {base many : Nat} {P : List (BitVec 32)} (h : Bk w B q S g d base many true P) (ho : d.okE) (hn : d.ops + 8 ≤ 1000000) (seq : BitVec 32) (hP : 0 < P.length ∧ P.length ≤ 4096) :
    Calls Try.prog 45 #[.pointer (some ⟨B, 0, none⟩), .int .u32 (w32 seq)] w fun e w' => e = .returned (.int .i64 (commitD d base P seq).2) ∧ Bk w' B q S g (commitD d base P seq).1 base many false P ∧ Ch (OwnB B q S g d.ns) w w' := by
  have c3 := h.c3
  have c4 := h.c4
  have f3 := h.box.fr 3
  have h1 := h.setOp false
  obtain ⟨w1, hw1⟩ : ∃ w1, w.setCell ⟨B, 3, none⟩ (.bool false) = w1 := ⟨_, rfl⟩
  have ch1 : Ch (OwnB B q S g d.ns) w w1 := by rw [← hw1]; exact (Ch.refl _ _).setCell _ _ (.inl (.inl rfl))
  rw [hw1] at h1
  have H1 := Lib.hid (And.intro h1 ch1)
  have s4 := h1.c4
  have s5 := h1.box.cell 5 _ rfl
  obtain ⟨n, hnn⟩ : ∃ n, P.length = n := ⟨_, rfl⟩
  obtain ⟨cs, hcs⟩ : ∃ cs, ~~~(runW ones P) = cs := ⟨_, rfl⟩
  rw [hnn] at c4 s4 hP
  rw [hcs] at s5
  have HN := Lib.hid (And.intro hnn (And.intro hcs (And.intro hP hn)))
  have dn : ¬ n = 0 := by omega
  have cv : IntKind.u32.wrap (n : Int) = (n : Int) := by rw [IntKind.wrap_u32]; omega
  have HK := Lib.hid (show ∀ W', Below w1.heap.size w1 W' → W'.cell? ⟨B, 4, none⟩ = some (.int .i64 (n : Nat)) ∧ W'.cell? ⟨B, 5, none⟩ = some (.int .u32 (w32 cs)) from fun W' hb => ⟨(hb.cell (p := ⟨B, 4, none⟩) h1.box.lt).trans s4, (hb.cell (p := ⟨B, 5, none⟩) h1.box.lt).trans s5⟩)
  have hK : commitK d base P seq = progK d (base + 1) (fun k => 0 + k) (wrW (hdW seq (BitVec.ofNat 32 n) cs)) 6 := by unfold commitK; rw [hnn, hcs]
  have hD : commitD d base P seq = if (commitK d base P seq).2 = 0 then progK (commitK d base P seq).1 (base + 1) (fun k => 6 + k) (wrW (fun _ => comW)) 2 else commitK d base P seq := rfl
  rw [hK] at hD
  have hz := h1.dev.zn
  have hk1 := progK_kept (from_ := base + 1) (at_ := fun k => 0 + k) (ws := wrW (hdW seq (BitVec.ofNat 32 n) cs)) (n := 6) ho (by omega) (by omega) hz.2.2.2 6 (by omega)
  have HPr1 := Lib.hid (fun (wx : World) (gf : Nat) (lb : Array Value) (hx : Bk wx B q S g d base many false P) (hg : GivesTo wx q S g d.ns gf lb 6 (fun k => 0 + k) (wrW (hdW seq (BitVec.ofNat 32 n) cs))) => bprogram_any hx ho 1 (by omega) gf lb 6 _ _ (by omega) (fun k hk => by omega) hg)
  obtain ⟨⟨d1, e1⟩, hp1⟩ : ∃ p, progK d (base + 1) (fun k => 0 + k) (wrW (hdW seq (BitVec.ofNat 32 n) cs)) 6 = p := ⟨_, rfl⟩
  rw [hp1] at hD hk1
  simp only [hp1] at HPr1
  simp only at hD hk1
  have ho1 := hk1.okE ho (by omega)
  have HPr2 := Lib.hid (fun (wx : World) (gf : Nat) (lb : Array Value) (hx : Bk wx B q S g d1 base many false P) (hg : GivesTo wx q S g d1.ns gf lb 2 (fun k => 6 + k) (wrW (fun _ => comW))) => bprogram_any hx ho1 1 (by omega) gf lb 2 _ _ (by have := hk1.ops; omega) (fun k hk => by omega) hg)
  have wn : w32 (BitVec.ofNat 32 n) = (n : Int) := by unfold w32; rw [BitVec.toNat_ofNat]; omega
  have HWr := Lib.hid (fun (wx : World) => (by have := writes_any seq (BitVec.ofNat 32 n) cs wx; rw [wn] at this; exact this : Calls Try.prog 81 #[.agg #[.int .u32 (w32 seq), .int .u32 (n : Nat), .int .u32 (w32 cs)]] wx fun e w' => ∃ v, e = .returned v ∧ Gives wx.heap.size w' v 3 0 (hdW seq (BitVec.ofNat 32 n) cs) ∧ Below wx.heap.size wx w'))
  have HNs := Lib.hid hk1.ns
  obtain ⟨DD, hDD⟩ : ∃ DD, commitD d base P seq = DD := ⟨_, rfl⟩
  rw [hDD] at hD ⊢
  have H2 := Lib.hid (show Bk (w1.alloc (.cells #[.int .u32 (w32 seq), .int .u32 (n : Nat), .int .u32 (w32 cs)] 45)).drew B q S g d base many false P ∧ Ch (OwnB B q S g d.ns) w (w1.alloc (.cells #[.int .u32 (w32 seq), .int .u32 (n : Nat), .int .u32 (w32 cs)] 45)).drew from by
    have hb : Below w1.heap.size w1 (w1.alloc (.cells #[.int .u32 (w32 seq), .int .u32 (n : Nat), .int .u32 (w32 cs)] 45)).drew := ((Below.refl _ _).alloc (Nat.le_refl _) _).drew
    exact ⟨h1.new hb, ch1.trans (Ch.new hb)⟩)
  have HQ := Lib.hid (show RowAt (w1.alloc (.cells #[.int .u32 (w32 seq), .int .u32 (n : Nat), .int .u32 (w32 cs)] 45)).drew w1.heap.size 45 #[.int .u32 (w32 seq), .int .u32 (n : Nat), .int .u32 (w32 cs)] from RowAt.mk w1 _ _)
  clear h h1 ch1 hnn hcs hP s4 s5 hn ho hK hp1 ho1 hk1 hz wn hDD
  by_cases he : e1 = 0
  · subst he
    rw [if_pos rfl] at hD
    go_enter Try.func45, Try.ntmps45
    go_wp2
    clear hw1 c3 c4 f3
    refine wp_region_held_drew (S := fun w' => w'.cell? ⟨B, 4, none⟩ = some (.int .i64 (n : Nat)) ∧ w'.cell? ⟨B, 5, none⟩ = some (.int .u32 (w32 cs))) (by kernel_rfl) (HK.out _ (Below.refl _ _).drew) (fun hS => ?_)
    refine wpAnyH_take (i := 0) (oi := { dst := some 22, op := .move (.tmp 1), type := 26, pos := "bank.go:206", after := #[], guard := none }) (v := ?_) rfl (by kernel_rfl) (by kernel_rfl) (by kernel_rfl) (fun _ _ _ h => h) (Or.inl ⟨by rfl, ?_⟩) hS ?_
    rotate_left 1
    · intro w hw; obtain ⟨s0, s1⟩ := hw; go_simp; try (with_reducible rfl)
    simp only [Act.put, List.setIfInBounds_toArray, List.set_cons_zero, List.set_cons_succ]
    refine wpAnyH_take (i := 1) (oi := { dst := some 23, op := .move (.tmp 0), type := 35, pos := "bank.go:206", after := #[], guard := none }) (v := ?_) rfl (by kernel_rfl) (by kernel_rfl) (by kernel_rfl) (fun _ _ _ h => h) (Or.inl ⟨by rfl, ?_⟩) hS ?_
    rotate_left 1
    · intro w hw; obtain ⟨s0, s1⟩ := hw; go_simp; try (with_reducible rfl)
    simp only [Act.put, List.setIfInBounds_toArray, List.set_cons_zero, List.set_cons_succ]
    refine wpAnyH_take (i := 2) (oi := { dst := some 24, op := .nilCheck (.tmp 23), type := 0, pos := "bank.go:206", after := #[{ on := 1, ground := .data }], guard := none }) (v := ?_) rfl (by kernel_rfl) (by kernel_rfl) (by kernel_rfl) (fun _ _ _ h => h) (Or.inl ⟨by rfl, ?_⟩) hS ?_
    rotate_left 1
    · intro w hw; obtain ⟨s0, s1⟩ := hw; go_simp; try (with_reducible rfl)
    simp only [Act.put, List.setIfInBounds_toArray, List.set_cons_zero, List.set_cons_succ]
    refine wpAnyH_take (i := 3) (oi := { dst := some 25, op := .fieldAddr 99 (.tmp 24) 4, type := 0, pos := "bank.go:206", after := #[{ on := 2, ground := .data }], guard := none }) (v := ?_) rfl (by kernel_rfl) (by kernel_rfl) (by kernel_rfl) (fun _ _ _ h => h) (Or.inl ⟨by rfl, ?_⟩) hS ?_
    rotate_left 1
    · intro w hw; obtain ⟨s0, s1⟩ := hw; go_simp; try (with_reducible rfl)
    simp only [Act.put, List.setIfInBounds_toArray, List.set_cons_zero, List.set_cons_succ]
    refine wpAnyH_take (i := 4) (oi := { dst := some 26, op := .load 3 (.tmp 25), type := 3, pos := "bank.go:206", after := #[{ on := 3, ground := .data }], guard := none }) (v := ?_) rfl (by kernel_rfl) (by kernel_rfl) (by kernel_rfl) (fun _ _ _ h => h) (Or.inl ⟨by rfl, ?_⟩) hS ?_
    rotate_left 1
    · intro w hw; obtain ⟨s0, s1⟩ := hw; go_simp; try (with_reducible rfl)
    simp only [Act.put, List.setIfInBounds_toArray, List.set_cons_zero, List.set_cons_succ]
    refine wpAnyH_take (i := 5) (oi := { dst := some 27, op := .convert 3 26 (.tmp 26), type := 26, pos := "bank.go:206", after := #[{ on := 4, ground := .data }], guard := none }) (v := ?_) rfl (by kernel_rfl) (by kernel_rfl) (by kernel_rfl) (fun _ _ _ h => h) (Or.inl ⟨by rfl, ?_⟩) hS ?_
    rotate_left 1
    · intro w hw; obtain ⟨s0, s1⟩ := hw; go_simp; try (with_reducible rfl)
    simp only [Act.put, List.setIfInBounds_toArray, List.set_cons_zero, List.set_cons_succ]
    refine wpAnyH_take (i := 6) (oi := { dst := some 28, op := .move (.tmp 0), type := 35, pos := "bank.go:206", after := #[], guard := none }) (v := ?_) rfl (by kernel_rfl) (by kernel_rfl) (by kernel_rfl) (fun _ _ _ h => h) (Or.inl ⟨by rfl, ?_⟩) hS ?_
    rotate_left 1
    · intro w hw; obtain ⟨s0, s1⟩ := hw; go_simp; try (with_reducible rfl)
    simp only [Act.put, List.setIfInBounds_toArray, List.set_cons_zero, List.set_cons_succ]
    refine wpAnyH_take (i := 7) (oi := { dst := some 29, op := .nilCheck (.tmp 28), type := 0, pos := "bank.go:206", after := #[{ on := 6, ground := .data }], guard := none }) (v := ?_) rfl (by kernel_rfl) (by kernel_rfl) (by kernel_rfl) (fun _ _ _ h => h) (Or.inl ⟨by rfl, ?_⟩) hS ?_
    rotate_left 1
    · intro w hw; obtain ⟨s0, s1⟩ := hw; go_simp; try (with_reducible rfl)
    simp only [Act.put, List.setIfInBounds_toArray, List.set_cons_zero, List.set_cons_succ]
    refine wpAnyH_take (i := 8) (oi := { dst := some 30, op := .fieldAddr 99 (.tmp 29) 5, type := 0, pos := "bank.go:206", after := #[{ on := 7, ground := .data }], guard := none }) (v := ?_) rfl (by kernel_rfl) (by kernel_rfl) (by kernel_rfl) (fun _ _ _ h => h) (Or.inl ⟨by rfl, ?_⟩) hS ?_
    rotate_left 1
    · intro w hw; obtain ⟨s0, s1⟩ := hw; go_simp; try (with_reducible rfl)
    simp only [Act.put, List.setIfInBounds_toArray, List.set_cons_zero, List.set_cons_succ]
    refine wpAnyH_ready (rs := [9, 11]) (by kernel_rfl) (by simp) (AllReadyH.cons (o := { dst := some 31, op := .call { callee := .value (.func 80), args := #[.tmp 30], argTypes := #[97] }, type := 26, pos := "bank.go:206", after := #[{ on := 8, ground := .data }], guard := none }) rfl (fun K hK => ?_) (AllReadyH.cons (o := { dst := some 5, op := .alloc 45, type := 0, pos := "bank.go:206", after := #[], guard := none }) rfl (fun K hK => ?_) AllReadyH.nil))
    · go_simp
      refine (valueO_any (HK.out _ (Below.refl _ _).drew).2 ⟨_, rfl⟩).mono ?_
      rintro e w4 ⟨rfl, rfl⟩
      try dsimp only
      refine hK.out _ _ (HK.out _ (Below.refl _ _).drew) (fun hHeld => ?_)
      clear hK K
      try simp only [Act.put, List.setIfInBounds_toArray, List.set_cons_zero, List.set_cons_succ]
      refine wpAnyH_take (i := 10) (oi := { dst := some 32, op := .build 45 #[(0, .tmp 22), (1, .tmp 27), (2, .tmp 31)], type := 45, pos := "bank.go:206", after := #[{ on := 0, ground := .data }, { on := 5, ground := .data }, { on := 9, ground := .data }], guard := none }) (v := ?_) rfl (by kernel_rfl) (by kernel_rfl) (by kernel_rfl) (fun _ _ _ h => h) (Or.inl ⟨by rfl, ?_⟩) (HK.out _ (Below.refl _ _).drew) ?_
      rotate_left 1
      · intro w hw; obtain ⟨s0, s1⟩ := hw; go_simp; try (with_reducible rfl)
      simp only [Act.put, List.setIfInBounds_toArray, List.set_cons_zero, List.set_cons_succ]
      refine wpAnyH_ready (rs := [11]) (by kernel_rfl) (by simp) (AllReadyH.cons (o := { dst := some 5, op := .alloc 45, type := 0, pos := "bank.go:206", after := #[], guard := none }) rfl (fun K hK => ?_) AllReadyH.nil)
      go_simp
      refine hK.out _ _ (HK.out _ ((Below.refl _ _).alloc (Nat.le_refl _) _).drew) (fun hHeld => ?_)
      clear hK K
      try simp only [Act.put, List.setIfInBounds_toArray, List.set_cons_zero, List.set_cons_succ]
      refine wpAnyH_ready (rs := [12]) (by kernel_rfl) (by simp) (AllReadyH.cons (o := { dst := none, op := .store 45 (.tmp 5) (.tmp 32), type := 0, pos := "bank.go:206", after := #[{ on := 11, ground := .data }, { on := 10, ground := .data }, { on := 9, ground := .chain }, { on := 0, ground := .phase }, { on := 1, ground := .phase }, { on := 2, ground := .phase }, { on := 3, ground := .phase }, { on := 4, ground := .phase }, { on := 5, ground := .phase }, { on := 6, ground := .phase }, { on := 7, ground := .phase }, { on := 8, ground := .phase }, { on := 9, ground := .phase }, { on := 10, ground := .phase }, { on := 11, ground := .phase }], guard := none }) rfl (fun K hK => ?_) AllReadyH.nil)
      go_simp
      refine hK.out _ _ (HK.out _ ((Below.refl _ _).alloc (Nat.le_refl _) _).drew) (fun hHeld => ?_)
      clear hK K
      try simp only [Act.put, List.setIfInBounds_toArray, List.set_cons_zero, List.set_cons_succ]
      refine wpAnyH_done (by kernel_rfl) ?_ _
      have q0 : (w1.alloc (.cells #[.int .u32 (w32 seq), .int .u32 (n : Nat), .int .u32 (w32 cs)] 45)).drew.cell? ⟨w1.heap.size, 0, none⟩ = some (.int .u32 (w32 seq)) := HQ.out.cell 0
      have q1 : (w1.alloc (.cells #[.int .u32 (w32 seq), .int .u32 (n : Nat), .int .u32 (w32 cs)] 45)).drew.cell? ⟨w1.heap.size, 1, none⟩ = some (.int .u32 (n : Nat)) := HQ.out.cell 1
      have q2 : (w1.alloc (.cells #[.int .u32 (w32 seq), .int .u32 (n : Nat), .int .u32 (w32 cs)] 45)).drew.cell? ⟨w1.heap.size, 2, none⟩ = some (.int .u32 (w32 cs)) := HQ.out.cell 2
      obtain ⟨z, hz⟩ : ∃ z, w1.heap.size = z := ⟨_, rfl⟩
      obtain ⟨w3, hw3⟩ : ∃ w3, (w1.alloc (.cells #[.int .u32 (w32 seq), .int .u32 (n : Nat), .int .u32 (w32 cs)] 45)).drew = w3 := ⟨_, rfl⟩
      rw [hw3] at H2 HQ q0 q1 q2 ⊢
      rw [hz] at HQ q0 q1 q2 ⊢
      clear hw3 hz hS
      go_wp2_with (first
        | (go_at_call 81; refine (HWr.out _).mono ?_; rintro e w4 ⟨v, rfl, hg, hb⟩; have H4 := Lib.hid (And.intro (H2.out.1.new hb) (H2.out.2.trans (Ch.new hb))); obtain ⟨gf, lb, rfl, hto⟩ := Gives.to (at_ := 0) hg (by omega) (by omega) (fun j hj => H2.out.1.lt j (.inr hj)); have HT := Lib.hid hto; clear hg hb hto)
        | (go_at_call 77; refine (HPr1.out _ _ _ H4.out.1 HT.out).mono ?_; rintro e w5 ⟨rfl, h5, k5⟩; have H5 := Lib.hid (And.intro h5 (H4.out.2.trans (k5.mono fun j _ hj => .inr hj))); clear h5 k5)
        | fail)
      refine (commits_any _).mono ?_
      rintro e w6 ⟨v, rfl, hg, hb⟩
      have H6 := Lib.hid (And.intro (H5.out.1.new hb) (H5.out.2.trans (Ch.new hb)))
      obtain ⟨gf6, lb6, rfl, hto⟩ := Gives.to (at_ := 6) hg (by omega) (by omega) (fun j hj => H5.out.1.lt j (.inr hj))
      have HT6 := Lib.hid hto
      clear hg hb hto
      go_wp2_with (first
        | (go_at_call 77; refine (HPr2.out _ _ _ H6.out.1 HT6.out).mono ?_; rintro e w7 ⟨rfl, h7, k7⟩; have H7 := Lib.hid (And.intro h7 (H6.out.2.trans (k7.mono fun j _ hj => .inr (by rw [← HNs.out]; exact hj)))); clear h7 k7)
        | fail)
      go_ret
      subst hD
      exact ⟨rfl, H7.out⟩
    · go_simp
      refine hK.out _ _ (HK.out _ ((Below.refl _ _).alloc (Nat.le_refl _) _).drew) (fun hHeld => ?_)
      clear hK K
      try simp only [Act.put, List.setIfInBounds_toArray, List.set_cons_zero, List.set_cons_succ]
      refine wpAnyH_ready (rs := [9]) (by kernel_rfl) (by simp) (AllReadyH.cons (o := { dst := some 31, op := .call { callee := .value (.func 80), args := #[.tmp 30], argTypes := #[97] }, type := 26, pos := "bank.go:206", after := #[{ on := 8, ground := .data }], guard := none }) rfl (fun K hK => ?_) AllReadyH.nil)
      go_simp
      refine (valueO_any (HK.out _ ((Below.refl _ _).alloc (Nat.le_refl _) _).drew).2 ⟨_, rfl⟩).mono ?_
      rintro e w4 ⟨rfl, rfl⟩
      try dsimp only
      refine hK.out _ _ (HK.out _ ((Below.refl _ _).alloc (Nat.le_refl _) _).drew) (fun hHeld => ?_)
      clear hK K
      try simp only [Act.put, List.setIfInBounds_toArray, List.set_cons_zero, List.set_cons_succ]
      refine wpAnyH_take (i := 10) (oi := { dst := some 32, op := .build 45 #[(0, .tmp 22), (1, .tmp 27), (2, .tmp 31)], type := 45, pos := "bank.go:206", after := #[{ on := 0, ground := .data }, { on := 5, ground := .data }, { on := 9, ground := .data }], guard := none }) (v := ?_) rfl (by kernel_rfl) (by kernel_rfl) (by kernel_rfl) (fun _ _ _ h => h) (Or.inl ⟨by rfl, ?_⟩) (HK.out _ ((Below.refl _ _).alloc (Nat.le_refl _) _).drew) ?_
      rotate_left 1
      · intro w hw; obtain ⟨s0, s1⟩ := hw; go_simp; try (with_reducible rfl)
      simp only [Act.put, List.setIfInBounds_toArray, List.set_cons_zero, List.set_cons_succ]
      refine wpAnyH_ready (rs := [12]) (by kernel_rfl) (by simp) (AllReadyH.cons (o := { dst := none, op := .store 45 (.tmp 5) (.tmp 32), type := 0, pos := "bank.go:206", after := #[{ on := 11, ground := .data }, { on := 10, ground := .data }, { on := 9, ground := .chain }, { on := 0, ground := .phase }, { on := 1, ground := .phase }, { on := 2, ground := .phase }, { on := 3, ground := .phase }, { on := 4, ground := .phase }, { on := 5, ground := .phase }, { on := 6, ground := .phase }, { on := 7, ground := .phase }, { on := 8, ground := .phase }, { on := 9, ground := .phase }, { on := 10, ground := .phase }, { on := 11, ground := .phase }], guard := none }) rfl (fun K hK => ?_) AllReadyH.nil)
      go_simp
      refine hK.out _ _ (HK.out _ ((Below.refl _ _).alloc (Nat.le_refl _) _).drew) (fun hHeld => ?_)
      clear hK K
      try simp only [Act.put, List.setIfInBounds_toArray, List.set_cons_zero, List.set_cons_succ]
      refine wpAnyH_done (by kernel_rfl) ?_ _
      have q0 : (w1.alloc (.cells #[.int .u32 (w32 seq), .int .u32 (n : Nat), .int .u32 (w32 cs)] 45)).drew.cell? ⟨w1.heap.size, 0, none⟩ = some (.int .u32 (w32 seq)) := HQ.out.cell 0
      have q1 : (w1.alloc (.cells #[.int .u32 (w32 seq), .int .u32 (n : Nat), .int .u32 (w32 cs)] 45)).drew.cell? ⟨w1.heap.size, 1, none⟩ = some (.int .u32 (n : Nat)) := HQ.out.cell 1
      have q2 : (w1.alloc (.cells #[.int .u32 (w32 seq), .int .u32 (n : Nat), .int .u32 (w32 cs)] 45)).drew.cell? ⟨w1.heap.size, 2, none⟩ = some (.int .u32 (w32 cs)) := HQ.out.cell 2
      obtain ⟨z, hz⟩ : ∃ z, w1.heap.size = z := ⟨_, rfl⟩
      obtain ⟨w3, hw3⟩ : ∃ w3, (w1.alloc (.cells #[.int .u32 (w32 seq), .int .u32 (n : Nat), .int .u32 (w32 cs)] 45)).drew = w3 := ⟨_, rfl⟩
      rw [hw3] at H2 HQ q0 q1 q2 ⊢
      rw [hz] at HQ q0 q1 q2 ⊢
      clear hw3 hz hS
      go_wp2_with (first
        | (go_at_call 81; refine (HWr.out _).mono ?_; rintro e w4 ⟨v, rfl, hg, hb⟩; have H4 := Lib.hid (And.intro (H2.out.1.new hb) (H2.out.2.trans (Ch.new hb))); obtain ⟨gf, lb, rfl, hto⟩ := Gives.to (at_ := 0) hg (by omega) (by omega) (fun j hj => H2.out.1.lt j (.inr hj)); have HT := Lib.hid hto; clear hg hb hto)
        | (go_at_call 77; refine (HPr1.out _ _ _ H4.out.1 HT.out).mono ?_; rintro e w5 ⟨rfl, h5, k5⟩; have H5 := Lib.hid (And.intro h5 (H4.out.2.trans (k5.mono fun j _ hj => .inr hj))); clear h5 k5)
        | fail)
      refine (commits_any _).mono ?_
      rintro e w6 ⟨v, rfl, hg, hb⟩
      have H6 := Lib.hid (And.intro (H5.out.1.new hb) (H5.out.2.trans (Ch.new hb)))
      obtain ⟨gf6, lb6, rfl, hto⟩ := Gives.to (at_ := 6) hg (by omega) (by omega) (fun j hj => H5.out.1.lt j (.inr hj))
      have HT6 := Lib.hid hto
      clear hg hb hto
      go_wp2_with (first
        | (go_at_call 77; refine (HPr2.out _ _ _ H6.out.1 HT6.out).mono ?_; rintro e w7 ⟨rfl, h7, k7⟩; have H7 := Lib.hid (And.intro h7 (H6.out.2.trans (k7.mono fun j _ hj => .inr (by rw [← HNs.out]; exact hj)))); clear h7 k7)
        | fail)
      go_ret
      subst hD
      exact ⟨rfl, H7.out⟩

  · rw [if_neg he] at hD
    go_enter Try.func45, Try.ntmps45
    go_wp2
    clear hw1 c3 c4 f3
    refine wp_region_held_drew (S := fun w' => w'.cell? ⟨B, 4, none⟩ = some (.int .i64 (n : Nat)) ∧ w'.cell? ⟨B, 5, none⟩ = some (.int .u32 (w32 cs))) (by kernel_rfl) (HK.out _ (Below.refl _ _).drew) (fun hS => ?_)
    refine wpAnyH_take (i := 0) (oi := { dst := some 22, op := .move (.tmp 1), type := 26, pos := "bank.go:206", after := #[], guard := none }) (v := ?_) rfl (by kernel_rfl) (by kernel_rfl) (by kernel_rfl) (fun _ _ _ h => h) (Or.inl ⟨by rfl, ?_⟩) hS ?_
    rotate_left 1
    · intro w hw; obtain ⟨s0, s1⟩ := hw; go_simp; try (with_reducible rfl)
    simp only [Act.put, List.setIfInBounds_toArray, List.set_cons_zero, List.set_cons_succ]
    refine wpAnyH_take (i := 1) (oi := { dst := some 23, op := .move (.tmp 0), type := 35, pos := "bank.go:206", after := #[], guard := none }) (v := ?_) rfl (by kernel_rfl) (by kernel_rfl) (by kernel_rfl) (fun _ _ _ h => h) (Or.inl ⟨by rfl, ?_⟩) hS ?_
    rotate_left 1
    · intro w hw; obtain ⟨s0, s1⟩ := hw; go_simp; try (with_reducible rfl)
    simp only [Act.put, List.setIfInBounds_toArray, List.set_cons_zero, List.set_cons_succ]
    refine wpAnyH_take (i := 2) (oi := { dst := some 24, op := .nilCheck (.tmp 23), type := 0, pos := "bank.go:206", after := #[{ on := 1, ground := .data }], guard := none }) (v := ?_) rfl (by kernel_rfl) (by kernel_rfl) (by kernel_rfl) (fun _ _ _ h => h) (Or.inl ⟨by rfl, ?_⟩) hS ?_
    rotate_left 1
    · intro w hw; obtain ⟨s0, s1⟩ := hw; go_simp; try (with_reducible rfl)
    simp only [Act.put, List.setIfInBounds_toArray, List.set_cons_zero, List.set_cons_succ]
    refine wpAnyH_take (i := 3) (oi := { dst := some 25, op := .fieldAddr 99 (.tmp 24) 4, type := 0, pos := "bank.go:206", after := #[{ on := 2, ground := .data }], guard := none }) (v := ?_) rfl (by kernel_rfl) (by kernel_rfl) (by kernel_rfl) (fun _ _ _ h => h) (Or.inl ⟨by rfl, ?_⟩) hS ?_
    rotate_left 1
    · intro w hw; obtain ⟨s0, s1⟩ := hw; go_simp; try (with_reducible rfl)
    simp only [Act.put, List.setIfInBounds_toArray, List.set_cons_zero, List.set_cons_succ]
    refine wpAnyH_take (i := 4) (oi := { dst := some 26, op := .load 3 (.tmp 25), type := 3, pos := "bank.go:206", after := #[{ on := 3, ground := .data }], guard := none }) (v := ?_) rfl (by kernel_rfl) (by kernel_rfl) (by kernel_rfl) (fun _ _ _ h => h) (Or.inl ⟨by rfl, ?_⟩) hS ?_
    rotate_left 1
    · intro w hw; obtain ⟨s0, s1⟩ := hw; go_simp; try (with_reducible rfl)
    simp only [Act.put, List.setIfInBounds_toArray, List.set_cons_zero, List.set_cons_succ]
    refine wpAnyH_take (i := 5) (oi := { dst := some 27, op := .convert 3 26 (.tmp 26), type := 26, pos := "bank.go:206", after := #[{ on := 4, ground := .data }], guard := none }) (v := ?_) rfl (by kernel_rfl) (by kernel_rfl) (by kernel_rfl) (fun _ _ _ h => h) (Or.inl ⟨by rfl, ?_⟩) hS ?_
    rotate_left 1
    · intro w hw; obtain ⟨s0, s1⟩ := hw; go_simp; try (with_reducible rfl)
    simp only [Act.put, List.setIfInBounds_toArray, List.set_cons_zero, List.set_cons_succ]
    refine wpAnyH_take (i := 6) (oi := { dst := some 28, op := .move (.tmp 0), type := 35, pos := "bank.go:206", after := #[], guard := none }) (v := ?_) rfl (by kernel_rfl) (by kernel_rfl) (by kernel_rfl) (fun _ _ _ h => h) (Or.inl ⟨by rfl, ?_⟩) hS ?_
    rotate_left 1
    · intro w hw; obtain ⟨s0, s1⟩ := hw; go_simp; try (with_reducible rfl)
    simp only [Act.put, List.setIfInBounds_toArray, List.set_cons_zero, List.set_cons_succ]
    refine wpAnyH_take (i := 7) (oi := { dst := some 29, op := .nilCheck (.tmp 28), type := 0, pos := "bank.go:206", after := #[{ on := 6, ground := .data }], guard := none }) (v := ?_) rfl (by kernel_rfl) (by kernel_rfl) (by kernel_rfl) (fun _ _ _ h => h) (Or.inl ⟨by rfl, ?_⟩) hS ?_
    rotate_left 1
    · intro w hw; obtain ⟨s0, s1⟩ := hw; go_simp; try (with_reducible rfl)
    simp only [Act.put, List.setIfInBounds_toArray, List.set_cons_zero, List.set_cons_succ]
    refine wpAnyH_take (i := 8) (oi := { dst := some 30, op := .fieldAddr 99 (.tmp 29) 5, type := 0, pos := "bank.go:206", after := #[{ on := 7, ground := .data }], guard := none }) (v := ?_) rfl (by kernel_rfl) (by kernel_rfl) (by kernel_rfl) (fun _ _ _ h => h) (Or.inl ⟨by rfl, ?_⟩) hS ?_
    rotate_left 1
    · intro w hw; obtain ⟨s0, s1⟩ := hw; go_simp; try (with_reducible rfl)
    simp only [Act.put, List.setIfInBounds_toArray, List.set_cons_zero, List.set_cons_succ]
    refine wpAnyH_ready (rs := [9, 11]) (by kernel_rfl) (by simp) (AllReadyH.cons (o := { dst := some 31, op := .call { callee := .value (.func 80), args := #[.tmp 30], argTypes := #[97] }, type := 26, pos := "bank.go:206", after := #[{ on := 8, ground := .data }], guard := none }) rfl (fun K hK => ?_) (AllReadyH.cons (o := { dst := some 5, op := .alloc 45, type := 0, pos := "bank.go:206", after := #[], guard := none }) rfl (fun K hK => ?_) AllReadyH.nil))
    · go_simp
      refine (valueO_any (HK.out _ (Below.refl _ _).drew).2 ⟨_, rfl⟩).mono ?_
      rintro e w4 ⟨rfl, rfl⟩
      try dsimp only
      refine hK.out _ _ (HK.out _ (Below.refl _ _).drew) (fun hHeld => ?_)
      clear hK K
      try simp only [Act.put, List.setIfInBounds_toArray, List.set_cons_zero, List.set_cons_succ]
      refine wpAnyH_take (i := 10) (oi := { dst := some 32, op := .build 45 #[(0, .tmp 22), (1, .tmp 27), (2, .tmp 31)], type := 45, pos := "bank.go:206", after := #[{ on := 0, ground := .data }, { on := 5, ground := .data }, { on := 9, ground := .data }], guard := none }) (v := ?_) rfl (by kernel_rfl) (by kernel_rfl) (by kernel_rfl) (fun _ _ _ h => h) (Or.inl ⟨by rfl, ?_⟩) (HK.out _ (Below.refl _ _).drew) ?_
      rotate_left 1
      · intro w hw; obtain ⟨s0, s1⟩ := hw; go_simp; try (with_reducible rfl)
      simp only [Act.put, List.setIfInBounds_toArray, List.set_cons_zero, List.set_cons_succ]
      refine wpAnyH_ready (rs := [11]) (by kernel_rfl) (by simp) (AllReadyH.cons (o := { dst := some 5, op := .alloc 45, type := 0, pos := "bank.go:206", after := #[], guard := none }) rfl (fun K hK => ?_) AllReadyH.nil)
      go_simp
      refine hK.out _ _ (HK.out _ ((Below.refl _ _).alloc (Nat.le_refl _) _).drew) (fun hHeld => ?_)
      clear hK K
      try simp only [Act.put, List.setIfInBounds_toArray, List.set_cons_zero, List.set_cons_succ]
      refine wpAnyH_ready (rs := [12]) (by kernel_rfl) (by simp) (AllReadyH.cons (o := { dst := none, op := .store 45 (.tmp 5) (.tmp 32), type := 0, pos := "bank.go:206", after := #[{ on := 11, ground := .data }, { on := 10, ground := .data }, { on := 9, ground := .chain }, { on := 0, ground := .phase }, { on := 1, ground := .phase }, { on := 2, ground := .phase }, { on := 3, ground := .phase }, { on := 4, ground := .phase }, { on := 5, ground := .phase }, { on := 6, ground := .phase }, { on := 7, ground := .phase }, { on := 8, ground := .phase }, { on := 9, ground := .phase }, { on := 10, ground := .phase }, { on := 11, ground := .phase }], guard := none }) rfl (fun K hK => ?_) AllReadyH.nil)
      go_simp
      refine hK.out _ _ (HK.out _ ((Below.refl _ _).alloc (Nat.le_refl _) _).drew) (fun hHeld => ?_)
      clear hK K
      try simp only [Act.put, List.setIfInBounds_toArray, List.set_cons_zero, List.set_cons_succ]
      refine wpAnyH_done (by kernel_rfl) ?_ _
      have q0 : (w1.alloc (.cells #[.int .u32 (w32 seq), .int .u32 (n : Nat), .int .u32 (w32 cs)] 45)).drew.cell? ⟨w1.heap.size, 0, none⟩ = some (.int .u32 (w32 seq)) := HQ.out.cell 0
      have q1 : (w1.alloc (.cells #[.int .u32 (w32 seq), .int .u32 (n : Nat), .int .u32 (w32 cs)] 45)).drew.cell? ⟨w1.heap.size, 1, none⟩ = some (.int .u32 (n : Nat)) := HQ.out.cell 1
      have q2 : (w1.alloc (.cells #[.int .u32 (w32 seq), .int .u32 (n : Nat), .int .u32 (w32 cs)] 45)).drew.cell? ⟨w1.heap.size, 2, none⟩ = some (.int .u32 (w32 cs)) := HQ.out.cell 2
      obtain ⟨z, hz⟩ : ∃ z, w1.heap.size = z := ⟨_, rfl⟩
      obtain ⟨w3, hw3⟩ : ∃ w3, (w1.alloc (.cells #[.int .u32 (w32 seq), .int .u32 (n : Nat), .int .u32 (w32 cs)] 45)).drew = w3 := ⟨_, rfl⟩
      rw [hw3] at H2 HQ q0 q1 q2 ⊢
      rw [hz] at HQ q0 q1 q2 ⊢
      clear hw3 hz hS
      go_wp2_with (first
        | (go_at_call 81; refine (HWr.out _).mono ?_; rintro e w4 ⟨v, rfl, hg, hb⟩; have H4 := Lib.hid (And.intro (H2.out.1.new hb) (H2.out.2.trans (Ch.new hb))); obtain ⟨gf, lb, rfl, hto⟩ := Gives.to (at_ := 0) hg (by omega) (by omega) (fun j hj => H2.out.1.lt j (.inr hj)); have HT := Lib.hid hto; clear hg hb hto)
        | (go_at_call 77; refine (HPr1.out _ _ _ H4.out.1 HT.out).mono ?_; rintro e w5 ⟨rfl, h5, k5⟩; have H5 := Lib.hid (And.intro h5 (H4.out.2.trans (k5.mono fun j _ hj => .inr hj))); clear h5 k5)
        | fail)
      go_ret
      subst hD
      exact ⟨rfl, H5.out⟩
    · go_simp
      refine hK.out _ _ (HK.out _ ((Below.refl _ _).alloc (Nat.le_refl _) _).drew) (fun hHeld => ?_)
      clear hK K
      try simp only [Act.put, List.setIfInBounds_toArray, List.set_cons_zero, List.set_cons_succ]
      refine wpAnyH_ready (rs := [9]) (by kernel_rfl) (by simp) (AllReadyH.cons (o := { dst := some 31, op := .call { callee := .value (.func 80), args := #[.tmp 30], argTypes := #[97] }, type := 26, pos := "bank.go:206", after := #[{ on := 8, ground := .data }], guard := none }) rfl (fun K hK => ?_) AllReadyH.nil)
      go_simp
      refine (valueO_any (HK.out _ ((Below.refl _ _).alloc (Nat.le_refl _) _).drew).2 ⟨_, rfl⟩).mono ?_
      rintro e w4 ⟨rfl, rfl⟩
      try dsimp only
      refine hK.out _ _ (HK.out _ ((Below.refl _ _).alloc (Nat.le_refl _) _).drew) (fun hHeld => ?_)
      clear hK K
      try simp only [Act.put, List.setIfInBounds_toArray, List.set_cons_zero, List.set_cons_succ]
      refine wpAnyH_take (i := 10) (oi := { dst := some 32, op := .build 45 #[(0, .tmp 22), (1, .tmp 27), (2, .tmp 31)], type := 45, pos := "bank.go:206", after := #[{ on := 0, ground := .data }, { on := 5, ground := .data }, { on := 9, ground := .data }], guard := none }) (v := ?_) rfl (by kernel_rfl) (by kernel_rfl) (by kernel_rfl) (fun _ _ _ h => h) (Or.inl ⟨by rfl, ?_⟩) (HK.out _ ((Below.refl _ _).alloc (Nat.le_refl _) _).drew) ?_
      rotate_left 1
      · intro w hw; obtain ⟨s0, s1⟩ := hw; go_simp; try (with_reducible rfl)
      simp only [Act.put, List.setIfInBounds_toArray, List.set_cons_zero, List.set_cons_succ]
      refine wpAnyH_ready (rs := [12]) (by kernel_rfl) (by simp) (AllReadyH.cons (o := { dst := none, op := .store 45 (.tmp 5) (.tmp 32), type := 0, pos := "bank.go:206", after := #[{ on := 11, ground := .data }, { on := 10, ground := .data }, { on := 9, ground := .chain }, { on := 0, ground := .phase }, { on := 1, ground := .phase }, { on := 2, ground := .phase }, { on := 3, ground := .phase }, { on := 4, ground := .phase }, { on := 5, ground := .phase }, { on := 6, ground := .phase }, { on := 7, ground := .phase }, { on := 8, ground := .phase }, { on := 9, ground := .phase }, { on := 10, ground := .phase }, { on := 11, ground := .phase }], guard := none }) rfl (fun K hK => ?_) AllReadyH.nil)
      go_simp
      refine hK.out _ _ (HK.out _ ((Below.refl _ _).alloc (Nat.le_refl _) _).drew) (fun hHeld => ?_)
      clear hK K
      try simp only [Act.put, List.setIfInBounds_toArray, List.set_cons_zero, List.set_cons_succ]
      refine wpAnyH_done (by kernel_rfl) ?_ _
      have q0 : (w1.alloc (.cells #[.int .u32 (w32 seq), .int .u32 (n : Nat), .int .u32 (w32 cs)] 45)).drew.cell? ⟨w1.heap.size, 0, none⟩ = some (.int .u32 (w32 seq)) := HQ.out.cell 0
      have q1 : (w1.alloc (.cells #[.int .u32 (w32 seq), .int .u32 (n : Nat), .int .u32 (w32 cs)] 45)).drew.cell? ⟨w1.heap.size, 1, none⟩ = some (.int .u32 (n : Nat)) := HQ.out.cell 1
      have q2 : (w1.alloc (.cells #[.int .u32 (w32 seq), .int .u32 (n : Nat), .int .u32 (w32 cs)] 45)).drew.cell? ⟨w1.heap.size, 2, none⟩ = some (.int .u32 (w32 cs)) := HQ.out.cell 2
      obtain ⟨z, hz⟩ : ∃ z, w1.heap.size = z := ⟨_, rfl⟩
      obtain ⟨w3, hw3⟩ : ∃ w3, (w1.alloc (.cells #[.int .u32 (w32 seq), .int .u32 (n : Nat), .int .u32 (w32 cs)] 45)).drew = w3 := ⟨_, rfl⟩
      rw [hw3] at H2 HQ q0 q1 q2 ⊢
      rw [hz] at HQ q0 q1 q2 ⊢
      clear hw3 hz hS
      go_wp2_with (first
        | (go_at_call 81; refine (HWr.out _).mono ?_; rintro e w4 ⟨v, rfl, hg, hb⟩; have H4 := Lib.hid (And.intro (H2.out.1.new hb) (H2.out.2.trans (Ch.new hb))); obtain ⟨gf, lb, rfl, hto⟩ := Gives.to (at_ := 0) hg (by omega) (by omega) (fun j hj => H2.out.1.lt j (.inr hj)); have HT := Lib.hid hto; clear hg hb hto)
        | (go_at_call 77; refine (HPr1.out _ _ _ H4.out.1 HT.out).mono ?_; rintro e w5 ⟨rfl, h5, k5⟩; have H5 := Lib.hid (And.intro h5 (H4.out.2.trans (k5.mono fun j _ hj => .inr hj))); clear h5 k5)
        | fail)
      go_ret
      subst hD
      exact ⟨rfl, H5.out⟩

end Go.Proofs.Ythpagbfabpfngaa
/- The contract of bank's Confirm. -/
namespace Go.Proofs.Ythpagbfabpfngaa
open Go.RowKit

/-- What Confirm makes of the device, and what it answers. -/
def confirmR (d : Dev) (base many : Nat) : Dev × Int :=
  if d.on then (if stOK d base many then (if confH (d.word (base + 1)) then (d, 80) else (if spoiltB d base 2 (fun k => 8 + k) (wrW (fun _ => conW)) then (d, 80) else progK d (base + 1) (fun k => 8 + k) (wrW (fun _ => conW)) 2)) else (d, 80)) else (d, 63)
set_option maxHeartbeats 4000000 in
set_option maxRecDepth 100000 in
theorem confirm_any {w : World} {B q S : Nat} {g : Nat → Nat} {d : Dev} {base many : Nat} {op : Bool} {P : List (BitVec 32)} (h : Bk w B q S g d base many op P) (ho : d.okE) (hn : d.ops + 2 ≤ 1000000) :
    Calls Try.prog 58 #[.pointer (some ⟨B, 0, none⟩)] w fun e w' => e = .returned (.int .i64 (confirmR d base many).2) ∧ Bk w' B q S g (confirmR d base many).1 base many op P ∧ Ch (OwnD q S g d.ns) w w' := by
  have hR : confirmR d base many = if d.on then (if stOK d base many then (if confH (d.word (base + 1)) then (d, 80) else (if spoiltB d base 2 (fun k => 8 + k) (wrW (fun _ => conW)) then (d, 80) else progK d (base + 1) (fun k => 8 + k) (wrW (fun _ => conW)) 2)) else (d, 80)) else (d, 63) := rfl
  obtain ⟨R, hRR⟩ : ∃ R, confirmR d base many = R := ⟨_, rfl⟩
  rw [hRR] at hR ⊢
  clear hRR
  have c0 := h.c0
  have HOn := Lib.hid (on_any h.dev)
  have hst := state_any h
  obtain ⟨t, ht⟩ : ∃ t, trC (d.word (base + 1)) 3 = t := ⟨_, rfl⟩
  unfold stV at hst
  rw [ht] at hst
  have H1 := Lib.hid h
  have HSp := Lib.hid (fun (wx : World) (gf : Nat) (lb : Array Value) (hx : Bk wx B q S g d base many op P) (hg : GivesTo wx q S g d.ns gf lb 2 (fun k => 8 + k) (wrW (fun _ => conW))) => bspoilt_any hx gf lb 2 _ _ (fun k hk => by omega) hg)
  have HPr := Lib.hid (fun (wx : World) (gf : Nat) (lb : Array Value) (hx : Bk wx B q S g d base many op P) (hg : GivesTo wx q S g d.ns gf lb 2 (fun k => 8 + k) (wrW (fun _ => conW))) => bprogram_any hx ho 1 (by omega) gf lb 2 _ _ (by omega) (fun k hk => by omega) hg)
  clear h ht ho hn
  cases hon : d.on with
  | false =>
    rw [hon] at HOn hR
    simp only [Bool.false_eq_true, if_false] at hR
    clear hst
    go_enter Try.func58, Try.ntmps58
    go_wp2_with (first
      | (go_at_call 46; refine HOn.out.mono ?_; rintro e w2 ⟨rfl, rfl⟩)
      | fail)
    go_ret
    subst hR
    exact ⟨rfl, H1.out, Ch.refl _ _⟩
  | true =>
    rw [hon] at HOn hR
    simp only [if_true] at hR
    cases hok : stOK d base many with
    | false =>
      rw [hok] at hst hR
      simp only [Bool.false_eq_true, if_false] at hst hR
      have HSt := Lib.hid hst
      clear hst
      go_enter Try.func58, Try.ntmps58
      go_wp2_with (first
        | (go_at_call 46; refine HOn.out.mono ?_; rintro e w2 ⟨rfl, rfl⟩)
        | (go_at_call 16; refine HSt.out.mono ?_; rintro e w3 ⟨rfl, hb3⟩; have H3 := Lib.hid (And.intro (H1.out.new hb3) hb3); clear hb3)
        | fail)
      go_ret
      subst hR
      have hbA := H3.out.2.trans (((Below.refl w3.heap.size w3).alloc (Nat.le_refl _) (.cells #[.int .u32 0, .int .u32 0, .int .u32 0, .bool false, .bool false, .int .i64 (t : Nat)] 47)).mono H3.out.2.size)
      exact ⟨rfl, H1.out.new hbA, Ch.new hbA⟩
    | true =>
      rw [hok] at hst hR
      simp only [if_true] at hst hR
      cases hcf : confH (d.word (base + 1)) with
      | true =>
        rw [hcf] at hst hR
        simp only [if_true] at hR
        have HSt := Lib.hid hst
        clear hst
        go_enter Try.func58, Try.ntmps58
        go_wp2_with (first
          | (go_at_call 46; refine HOn.out.mono ?_; rintro e w2 ⟨rfl, rfl⟩)
          | (go_at_call 16; refine HSt.out.mono ?_; rintro e w3 ⟨rfl, hb3⟩; have H3 := Lib.hid (And.intro (H1.out.new hb3) hb3); clear hb3)
          | fail)
        go_ret
        subst hR
        have hbA := H3.out.2.trans (((Below.refl w3.heap.size w3).alloc (Nat.le_refl _) (.cells #[.int .u32 (w32 (d.word (base + 1) 0)), .int .u32 (w32 (d.word (base + 1) 2)), .int .u32 (w32 (d.word (base + 1) 4)), .bool true, .bool true, .int .i64 (t : Nat)] 47)).mono H3.out.2.size)
        exact ⟨rfl, H1.out.new hbA, Ch.new hbA⟩
      | false =>
        rw [hcf] at hst hR
        simp only [Bool.false_eq_true, if_false] at hR
        have HSt := Lib.hid hst
        clear hst
        have HALL := Lib.hid (fun (w3 : World) (hb3 : Below w.heap.size w w3) => (show Bk (w3.alloc (.cells #[.int .u32 (w32 (d.word (base + 1) 0)), .int .u32 (w32 (d.word (base + 1) 2)), .int .u32 (w32 (d.word (base + 1) 4)), .bool true, .bool false, .int .i64 (t : Nat)] 47)) B q S g d base many op P ∧ Below w.heap.size w (w3.alloc (.cells #[.int .u32 (w32 (d.word (base + 1) 0)), .int .u32 (w32 (d.word (base + 1) 2)), .int .u32 (w32 (d.word (base + 1) 4)), .bool true, .bool false, .int .i64 (t : Nat)] 47)) from by
          have hbA := hb3.trans (((Below.refl w3.heap.size w3).alloc (Nat.le_refl _) (.cells #[.int .u32 (w32 (d.word (base + 1) 0)), .int .u32 (w32 (d.word (base + 1) 2)), .int .u32 (w32 (d.word (base + 1) 4)), .bool true, .bool false, .int .i64 (t : Nat)] 47)).mono hb3.size)
          exact ⟨H1.out.new hbA, hbA⟩))
        cases hsp : spoiltB d base 2 (fun k => 8 + k) (wrW (fun _ => conW)) with
        | true =>
          simp only [hsp] at HSp
          rw [hsp] at hR
          simp only [if_true] at hR
          go_enter Try.func58, Try.ntmps58
          go_wp2_with (first
            | (go_at_call 46; refine HOn.out.mono ?_; rintro e w2 ⟨rfl, rfl⟩)
            | (go_at_call 16; refine HSt.out.mono ?_; rintro e w3 ⟨rfl, hb3⟩; have H3 := Lib.hid (And.intro (H1.out.new hb3) hb3); clear hb3)
            | fail)
          have HA := Lib.hid (HALL.out w3 H3.out.2)
          refine (confirms_any _).mono ?_
          rintro e w4 ⟨v, rfl, hg, hb⟩
          have H4 := Lib.hid (And.intro (HA.out.1.new hb) (HA.out.2.trans (hb.mono HA.out.2.size)))
          obtain ⟨gf, lb, rfl, hto⟩ := Gives.to (at_ := 8) hg (by omega) (by omega) (fun j hj => HA.out.1.lt j (.inr hj))
          have HT := Lib.hid hto
          clear hg hb hto
          go_wp2_with (first
            | (go_at_call 99; refine (HSp.out _ _ _ H4.out.1 HT.out).mono ?_; rintro e w5 ⟨rfl, hb5⟩; have H5 := Lib.hid (And.intro (H4.out.1.new hb5) (H4.out.2.trans (hb5.mono H4.out.2.size))); clear hb5)
            | fail)
          go_ret
          subst hR
          exact ⟨rfl, H5.out.1, Ch.new H5.out.2⟩
        | false =>
          simp only [hsp] at HSp
          rw [hsp] at hR
          simp only [Bool.false_eq_true, if_false] at hR
          go_enter Try.func58, Try.ntmps58
          go_wp2_with (first
            | (go_at_call 46; refine HOn.out.mono ?_; rintro e w2 ⟨rfl, rfl⟩)
            | (go_at_call 16; refine HSt.out.mono ?_; rintro e w3 ⟨rfl, hb3⟩; have H3 := Lib.hid (And.intro (H1.out.new hb3) hb3); clear hb3)
            | fail)
          have HA := Lib.hid (HALL.out w3 H3.out.2)
          refine (confirms_any _).mono ?_
          rintro e w4 ⟨v, rfl, hg, hb⟩
          have H4 := Lib.hid (And.intro (HA.out.1.new hb) (HA.out.2.trans (hb.mono HA.out.2.size)))
          obtain ⟨gf, lb, rfl, hto⟩ := Gives.to (at_ := 8) hg (by omega) (by omega) (fun j hj => HA.out.1.lt j (.inr hj))
          have HT := Lib.hid hto
          clear hg hb hto
          go_wp2_with (first
            | (go_at_call 99; refine (HSp.out _ _ _ H4.out.1 HT.out).mono ?_; rintro e w5 ⟨rfl, hb5⟩; have H5 := Lib.hid (And.intro (H4.out.1.new hb5) (H4.out.2.trans (hb5.mono H4.out.2.size))); clear hb5)
            | fail)
          refine (confirms_any _).mono ?_
          rintro e w6 ⟨v, rfl, hg, hb⟩
          have H6 := Lib.hid (And.intro (H5.out.1.new hb) (H5.out.2.trans (hb.mono H5.out.2.size)))
          obtain ⟨gf6, lb6, rfl, hto⟩ := Gives.to (at_ := 8) hg (by omega) (by omega) (fun j hj => H5.out.1.lt j (.inr hj))
          have HT6 := Lib.hid hto
          clear hg hb hto
          go_wp2_with (first
            | (go_at_call 77; refine (HPr.out _ _ _ H6.out.1 HT6.out).mono ?_; rintro e w7 ⟨rfl, h7, k7⟩; have H7 := Lib.hid (And.intro h7 ((Ch.new H6.out.2 : Ch (OwnD q S g d.ns) w w6).trans k7)); clear h7 k7)
            | fail)
          go_ret
          subst hR
          exact ⟨rfl, H7.out⟩
end Go.Proofs.Ythpagbfabpfngaa
/- The contract of bank's Try. -/
namespace Go.Proofs.Ythpagbfabpfngaa
open Go.RowKit

/-- What Try makes of the device, and what it answers. -/
def tryR (d : Dev) (base many : Nat) : Dev × Int :=
  if d.on then (if stOK d base many then (if confH (d.word (base + 1)) then (d, 80) else (if nxB (d.word (base + 1)) then d.program ((base + 1 : Nat) : Int) (nxN (d.word (base + 1)) : Nat) 0#32 else (d, 80))) else (d, 80)) else (d, 63)
theorem nx_at {n : Nat} (hn : 13 ≤ n) (l : Nat → BitVec 32) : nxN (atW n l) = nxN l ∧ nxB (atW n l) = nxB l := by
  unfold nxN nxB atW
  simp only [show 10 < n by omega, show 11 < n by omega, show 12 < n by omega, if_true]
  exact ⟨trivial, trivial⟩
theorem nxN_le (l : Nat → BitVec 32) : nxN l ≤ 12 := by unfold nxN; split; omega; split; omega; split <;> omega
set_option maxHeartbeats 4000000 in
set_option maxRecDepth 100000 in
theorem try_any {w : World} {B q S : Nat} {g : Nat → Nat} {d : Dev} {base many : Nat} {op : Bool} {P : List (BitVec 32)} (h : Bk w B q S g d base many op P) (ho : d.okE) :
    Calls Try.prog 57 #[.pointer (some ⟨B, 0, none⟩)] w fun e w' => e = .returned (.int .i64 (tryR d base many).2) ∧ Bk w' B q S g (tryR d base many).1 base many op P ∧ Ch (OwnD q S g d.ns) w w' := by
  have hR : tryR d base many = if d.on then (if stOK d base many then (if confH (d.word (base + 1)) then (d, 80) else (if nxB (d.word (base + 1)) then d.program ((base + 1 : Nat) : Int) (nxN (d.word (base + 1)) : Nat) 0#32 else (d, 80))) else (d, 80)) else (d, 63) := rfl
  obtain ⟨R, hRR⟩ : ∃ R, tryR d base many = R := ⟨_, rfl⟩
  rw [hRR] at hR ⊢
  clear hRR
  have c0 := h.c0
  have HOn := Lib.hid (on_any h.dev)
  have hst := state_any h
  obtain ⟨t, ht⟩ : ∃ t, trC (d.word (base + 1)) 3 = t := ⟨_, rfl⟩
  unfold stV at hst
  rw [ht] at hst
  have H1 := Lib.hid h
  have hnw := h.fit.2.2
  have hz := h.dev.zn
  have hbs : (base : Int) ≤ 64 := by have := h.fit; omega
  have HNx := Lib.hid (fun (wx : World) (b cap : Nat) (hw : Ws wx (some ⟨b, 0, none⟩) b 0 d.nw (d.word (base + 1))) => (by have := hnext_any d.nw b 0 cap _ _ wx (by omega) hw; rw [(nx_at hnw _).1, (nx_at hnw _).2] at this; exact this : Calls Try.prog 97 #[.slice (some ⟨b, 0, none⟩) d.nw cap] wx fun e w' => e = .returned (.tuple #[.int .i64 (nxN (d.word (base + 1)) : Nat), .bool (nxB (d.word (base + 1)))]) ∧ Below wx.heap.size wx w'))
  have hnn := nxN_le (d.word (base + 1))
  obtain ⟨nx, hnx⟩ : ∃ nx, nxN (d.word (base + 1)) = nx := ⟨_, rfl⟩
  simp only [hnx] at HNx
  rw [hnx] at hR hnn
  have HPr := Lib.hid (fun (wx : World) (hx : Bk wx B q S g d base many op P) => (program_any hx.dev ho.1 ((base + 1 : Nat) : Int) (nx : Nat) 0#32))
  have hpk := program_kept ho ((base + 1 : Nat) : Int) (nx : Nat) 0#32 (by omega)
  obtain ⟨⟨d1, e1⟩, hp⟩ : ∃ p, d.program ((base + 1 : Nat) : Int) (nx : Nat) 0#32 = p := ⟨_, rfl⟩
  rw [hp] at hR hpk
  simp only [hp] at HPr
  rw [show ((base + 1 : Nat) : Int) = (base : Int) + 1 by omega] at HPr
  have HPK := Lib.hid hpk
  clear h ht ho hnw hz hnx hp hpk hnn
  cases hon : d.on with
  | false =>
    rw [hon] at HOn hR
    simp only [Bool.false_eq_true, if_false] at hR
    clear hst
    go_enter Try.func57, Try.ntmps57
    go_wp2_with (first
      | (go_at_call 46; refine HOn.out.mono ?_; rintro e w2 ⟨rfl, rfl⟩)
      | fail)
    go_ret
    subst hR
    exact ⟨rfl, H1.out, Ch.refl _ _⟩
  | true =>
    rw [hon] at HOn hR
    simp only [if_true] at hR
    cases hok : stOK d base many with
    | false =>
      rw [hok] at hst hR
      simp only [Bool.false_eq_true, if_false] at hst hR
      have HSt := Lib.hid hst
      clear hst
      obtain ⟨nb, hnb⟩ : ∃ nb, nxB (d.word (base + 1)) = nb := ⟨_, rfl⟩
      simp only [hnb] at HNx
      go_enter Try.func57, Try.ntmps57
      go_wp2_with (first
        | (go_at_call 46; refine HOn.out.mono ?_; rintro e w2 ⟨rfl, rfl⟩)
        | (go_at_call 16; refine HSt.out.mono ?_; rintro e w3 ⟨rfl, hb3⟩; have H3 := Lib.hid hb3; clear hb3)
        | fail)
      have hbA := H3.out.trans (((Below.refl w3.heap.size w3).alloc (Nat.le_refl _) (.cells #[.int .u32 0, .int .u32 0, .int .u32 0, .bool false, .bool false, .int .i64 (t : Nat)] 47)).mono H3.out.size)
      have HA := Lib.hid (And.intro (H1.out.new hbA) hbA)
      have q1 : (w3.alloc (.cells #[.int .u32 0, .int .u32 0, .int .u32 0, .bool false, .bool false, .int .i64 (t : Nat)] 47)).cell? ⟨w3.heap.size, 3, none⟩ = some (.bool false) := (show RowAt (w3.alloc (.cells #[.int .u32 0, .int .u32 0, .int .u32 0, .bool false, .bool false, .int .i64 (t : Nat)] 47)) w3.heap.size 47 #[.int .u32 0, .int .u32 0, .int .u32 0, .bool false, .bool false, .int .i64 (t : Nat)] from RowAt.mk w3 _ _).cell 3
      have q2 : (w3.alloc (.cells #[.int .u32 0, .int .u32 0, .int .u32 0, .bool false, .bool false, .int .i64 (t : Nat)] 47)).cell? ⟨w3.heap.size, 4, none⟩ = some (.bool false) := (show RowAt (w3.alloc (.cells #[.int .u32 0, .int .u32 0, .int .u32 0, .bool false, .bool false, .int .i64 (t : Nat)] 47)) w3.heap.size 47 #[.int .u32 0, .int .u32 0, .int .u32 0, .bool false, .bool false, .int .i64 (t : Nat)] from RowAt.mk w3 _ _).cell 4
      obtain ⟨z, hz⟩ : ∃ z, w3.heap.size = z := ⟨_, rfl⟩
      obtain ⟨wa, hwa⟩ : ∃ wa, w3.alloc (.cells #[.int .u32 0, .int .u32 0, .int .u32 0, .bool false, .bool false, .int .i64 (t : Nat)] 47) = wa := ⟨_, rfl⟩
      have hzl : z < wa.heap.size := by rw [← hwa, ← hz]; simp
      rw [hwa] at HA q1 q2 ⊢
      rw [hz] at q1 q2 ⊢
      have HQ := Lib.hid (show ∀ W', Below wa.heap.size wa W' → W'.cell? ⟨z, 3, none⟩ = some (.bool false) ∧ W'.cell? ⟨z, 4, none⟩ = some (.bool false) from fun W' hb => ⟨(hb.cell (p := ⟨z, 3, none⟩) hzl).trans q1, (hb.cell (p := ⟨z, 4, none⟩) hzl).trans q2⟩)
      clear hbA hwa hz hzl q1 q2
      refine (bhead_any HA.out.1).mono ?_
      rintro e w4 ⟨b, cap, rfl, h1, h2, h3, h4⟩
      have H4 := Lib.hid (And.intro (HA.out.1.new h4) (And.intro (HA.out.2.trans (h4.mono HA.out.2.size)) (And.intro h4 h2)))
      clear h1 h2 h3 h4
      go_wp2_with (first
        | (go_at_call 97; refine (HNx.out _ _ _ H4.out.2.2.2).mono ?_; rintro e w5 ⟨rfl, hb5⟩; have H5 := Lib.hid (And.intro (H4.out.1.new hb5) (H4.out.2.1.trans (hb5.mono H4.out.2.1.size))); obtain ⟨q1, q2⟩ := HQ.out w5 (H4.out.2.2.1.trans (hb5.mono H4.out.2.2.1.size)); have c5 := H5.out.1.c0; have c51 := H5.out.1.c1; clear hb5)
        | fail)
      go_ret
      subst hR
      exact ⟨rfl, H5.out.1, Ch.new H5.out.2⟩
    | true =>
      rw [hok] at hst hR
      simp only [if_true] at hst hR
      cases hcf : confH (d.word (base + 1)) with
      | true =>
        rw [hcf] at hst hR
        simp only [if_true] at hR
        have HSt := Lib.hid hst
        clear hst
        obtain ⟨nb, hnb⟩ : ∃ nb, nxB (d.word (base + 1)) = nb := ⟨_, rfl⟩
        simp only [hnb] at HNx
        go_enter Try.func57, Try.ntmps57
        go_wp2_with (first
          | (go_at_call 46; refine HOn.out.mono ?_; rintro e w2 ⟨rfl, rfl⟩)
          | (go_at_call 16; refine HSt.out.mono ?_; rintro e w3 ⟨rfl, hb3⟩; have H3 := Lib.hid hb3; clear hb3)
          | fail)
        have hbA := H3.out.trans (((Below.refl w3.heap.size w3).alloc (Nat.le_refl _) (.cells #[.int .u32 (w32 (d.word (base + 1) 0)), .int .u32 (w32 (d.word (base + 1) 2)), .int .u32 (w32 (d.word (base + 1) 4)), .bool true, .bool true, .int .i64 (t : Nat)] 47)).mono H3.out.size)
        have HA := Lib.hid (And.intro (H1.out.new hbA) hbA)
        have q1 : (w3.alloc (.cells #[.int .u32 (w32 (d.word (base + 1) 0)), .int .u32 (w32 (d.word (base + 1) 2)), .int .u32 (w32 (d.word (base + 1) 4)), .bool true, .bool true, .int .i64 (t : Nat)] 47)).cell? ⟨w3.heap.size, 3, none⟩ = some (.bool true) := (show RowAt (w3.alloc (.cells #[.int .u32 (w32 (d.word (base + 1) 0)), .int .u32 (w32 (d.word (base + 1) 2)), .int .u32 (w32 (d.word (base + 1) 4)), .bool true, .bool true, .int .i64 (t : Nat)] 47)) w3.heap.size 47 #[.int .u32 (w32 (d.word (base + 1) 0)), .int .u32 (w32 (d.word (base + 1) 2)), .int .u32 (w32 (d.word (base + 1) 4)), .bool true, .bool true, .int .i64 (t : Nat)] from RowAt.mk w3 _ _).cell 3
        have q2 : (w3.alloc (.cells #[.int .u32 (w32 (d.word (base + 1) 0)), .int .u32 (w32 (d.word (base + 1) 2)), .int .u32 (w32 (d.word (base + 1) 4)), .bool true, .bool true, .int .i64 (t : Nat)] 47)).cell? ⟨w3.heap.size, 4, none⟩ = some (.bool true) := (show RowAt (w3.alloc (.cells #[.int .u32 (w32 (d.word (base + 1) 0)), .int .u32 (w32 (d.word (base + 1) 2)), .int .u32 (w32 (d.word (base + 1) 4)), .bool true, .bool true, .int .i64 (t : Nat)] 47)) w3.heap.size 47 #[.int .u32 (w32 (d.word (base + 1) 0)), .int .u32 (w32 (d.word (base + 1) 2)), .int .u32 (w32 (d.word (base + 1) 4)), .bool true, .bool true, .int .i64 (t : Nat)] from RowAt.mk w3 _ _).cell 4
        obtain ⟨z, hz⟩ : ∃ z, w3.heap.size = z := ⟨_, rfl⟩
        obtain ⟨wa, hwa⟩ : ∃ wa, w3.alloc (.cells #[.int .u32 (w32 (d.word (base + 1) 0)), .int .u32 (w32 (d.word (base + 1) 2)), .int .u32 (w32 (d.word (base + 1) 4)), .bool true, .bool true, .int .i64 (t : Nat)] 47) = wa := ⟨_, rfl⟩
        have hzl : z < wa.heap.size := by rw [← hwa, ← hz]; simp
        rw [hwa] at HA q1 q2 ⊢
        rw [hz] at q1 q2 ⊢
        have HQ := Lib.hid (show ∀ W', Below wa.heap.size wa W' → W'.cell? ⟨z, 3, none⟩ = some (.bool true) ∧ W'.cell? ⟨z, 4, none⟩ = some (.bool true) from fun W' hb => ⟨(hb.cell (p := ⟨z, 3, none⟩) hzl).trans q1, (hb.cell (p := ⟨z, 4, none⟩) hzl).trans q2⟩)
        clear hbA hwa hz hzl q1 q2
        refine (bhead_any HA.out.1).mono ?_
        rintro e w4 ⟨b, cap, rfl, h1, h2, h3, h4⟩
        have H4 := Lib.hid (And.intro (HA.out.1.new h4) (And.intro (HA.out.2.trans (h4.mono HA.out.2.size)) (And.intro h4 h2)))
        clear h1 h2 h3 h4
        go_wp2_with (first
          | (go_at_call 97; refine (HNx.out _ _ _ H4.out.2.2.2).mono ?_; rintro e w5 ⟨rfl, hb5⟩; have H5 := Lib.hid (And.intro (H4.out.1.new hb5) (H4.out.2.1.trans (hb5.mono H4.out.2.1.size))); obtain ⟨q1, q2⟩ := HQ.out w5 (H4.out.2.2.1.trans (hb5.mono H4.out.2.2.1.size)); have c5 := H5.out.1.c0; have c51 := H5.out.1.c1; clear hb5)
          | fail)
        go_ret
        subst hR
        exact ⟨rfl, H5.out.1, Ch.new H5.out.2⟩
      | false =>
        rw [hcf] at hst hR
        simp only [Bool.false_eq_true, if_false] at hR
        have HSt := Lib.hid hst
        clear hst
        cases hnb : nxB (d.word (base + 1)) with
        | false =>
          simp only [hnb] at HNx
          rw [hnb] at hR
          simp only [Bool.false_eq_true, if_false] at hR
          go_enter Try.func57, Try.ntmps57
          go_wp2_with (first
            | (go_at_call 46; refine HOn.out.mono ?_; rintro e w2 ⟨rfl, rfl⟩)
            | (go_at_call 16; refine HSt.out.mono ?_; rintro e w3 ⟨rfl, hb3⟩; have H3 := Lib.hid hb3; clear hb3)
            | fail)
          have hbA := H3.out.trans (((Below.refl w3.heap.size w3).alloc (Nat.le_refl _) (.cells #[.int .u32 (w32 (d.word (base + 1) 0)), .int .u32 (w32 (d.word (base + 1) 2)), .int .u32 (w32 (d.word (base + 1) 4)), .bool true, .bool false, .int .i64 (t : Nat)] 47)).mono H3.out.size)
          have HA := Lib.hid (And.intro (H1.out.new hbA) hbA)
          have q1 : (w3.alloc (.cells #[.int .u32 (w32 (d.word (base + 1) 0)), .int .u32 (w32 (d.word (base + 1) 2)), .int .u32 (w32 (d.word (base + 1) 4)), .bool true, .bool false, .int .i64 (t : Nat)] 47)).cell? ⟨w3.heap.size, 3, none⟩ = some (.bool true) := (show RowAt (w3.alloc (.cells #[.int .u32 (w32 (d.word (base + 1) 0)), .int .u32 (w32 (d.word (base + 1) 2)), .int .u32 (w32 (d.word (base + 1) 4)), .bool true, .bool false, .int .i64 (t : Nat)] 47)) w3.heap.size 47 #[.int .u32 (w32 (d.word (base + 1) 0)), .int .u32 (w32 (d.word (base + 1) 2)), .int .u32 (w32 (d.word (base + 1) 4)), .bool true, .bool false, .int .i64 (t : Nat)] from RowAt.mk w3 _ _).cell 3
          have q2 : (w3.alloc (.cells #[.int .u32 (w32 (d.word (base + 1) 0)), .int .u32 (w32 (d.word (base + 1) 2)), .int .u32 (w32 (d.word (base + 1) 4)), .bool true, .bool false, .int .i64 (t : Nat)] 47)).cell? ⟨w3.heap.size, 4, none⟩ = some (.bool false) := (show RowAt (w3.alloc (.cells #[.int .u32 (w32 (d.word (base + 1) 0)), .int .u32 (w32 (d.word (base + 1) 2)), .int .u32 (w32 (d.word (base + 1) 4)), .bool true, .bool false, .int .i64 (t : Nat)] 47)) w3.heap.size 47 #[.int .u32 (w32 (d.word (base + 1) 0)), .int .u32 (w32 (d.word (base + 1) 2)), .int .u32 (w32 (d.word (base + 1) 4)), .bool true, .bool false, .int .i64 (t : Nat)] from RowAt.mk w3 _ _).cell 4
          obtain ⟨z, hz⟩ : ∃ z, w3.heap.size = z := ⟨_, rfl⟩
          obtain ⟨wa, hwa⟩ : ∃ wa, w3.alloc (.cells #[.int .u32 (w32 (d.word (base + 1) 0)), .int .u32 (w32 (d.word (base + 1) 2)), .int .u32 (w32 (d.word (base + 1) 4)), .bool true, .bool false, .int .i64 (t : Nat)] 47) = wa := ⟨_, rfl⟩
          have hzl : z < wa.heap.size := by rw [← hwa, ← hz]; simp
          rw [hwa] at HA q1 q2 ⊢
          rw [hz] at q1 q2 ⊢
          have HQ := Lib.hid (show ∀ W', Below wa.heap.size wa W' → W'.cell? ⟨z, 3, none⟩ = some (.bool true) ∧ W'.cell? ⟨z, 4, none⟩ = some (.bool false) from fun W' hb => ⟨(hb.cell (p := ⟨z, 3, none⟩) hzl).trans q1, (hb.cell (p := ⟨z, 4, none⟩) hzl).trans q2⟩)
          clear hbA hwa hz hzl q1 q2
          refine (bhead_any HA.out.1).mono ?_
          rintro e w4 ⟨b, cap, rfl, h1, h2, h3, h4⟩
          have H4 := Lib.hid (And.intro (HA.out.1.new h4) (And.intro (HA.out.2.trans (h4.mono HA.out.2.size)) (And.intro h4 h2)))
          clear h1 h2 h3 h4
          go_wp2_with (first
            | (go_at_call 97; refine (HNx.out _ _ _ H4.out.2.2.2).mono ?_; rintro e w5 ⟨rfl, hb5⟩; have H5 := Lib.hid (And.intro (H4.out.1.new hb5) (H4.out.2.1.trans (hb5.mono H4.out.2.1.size))); obtain ⟨q1, q2⟩ := HQ.out w5 (H4.out.2.2.1.trans (hb5.mono H4.out.2.2.1.size)); have c5 := H5.out.1.c0; have c51 := H5.out.1.c1; clear hb5)
            | fail)
          go_ret
          subst hR
          exact ⟨rfl, H5.out.1, Ch.new H5.out.2⟩
        | true =>
          simp only [hnb] at HNx
          rw [hnb] at hR
          simp only [if_true] at hR
          go_enter Try.func57, Try.ntmps57
          go_wp2_with (first
            | (go_at_call 46; refine HOn.out.mono ?_; rintro e w2 ⟨rfl, rfl⟩)
            | (go_at_call 16; refine HSt.out.mono ?_; rintro e w3 ⟨rfl, hb3⟩; have H3 := Lib.hid hb3; clear hb3)
            | fail)
          have hbA := H3.out.trans (((Below.refl w3.heap.size w3).alloc (Nat.le_refl _) (.cells #[.int .u32 (w32 (d.word (base + 1) 0)), .int .u32 (w32 (d.word (base + 1) 2)), .int .u32 (w32 (d.word (base + 1) 4)), .bool true, .bool false, .int .i64 (t : Nat)] 47)).mono H3.out.size)
          have HA := Lib.hid (And.intro (H1.out.new hbA) hbA)
          have q1 : (w3.alloc (.cells #[.int .u32 (w32 (d.word (base + 1) 0)), .int .u32 (w32 (d.word (base + 1) 2)), .int .u32 (w32 (d.word (base + 1) 4)), .bool true, .bool false, .int .i64 (t : Nat)] 47)).cell? ⟨w3.heap.size, 3, none⟩ = some (.bool true) := (show RowAt (w3.alloc (.cells #[.int .u32 (w32 (d.word (base + 1) 0)), .int .u32 (w32 (d.word (base + 1) 2)), .int .u32 (w32 (d.word (base + 1) 4)), .bool true, .bool false, .int .i64 (t : Nat)] 47)) w3.heap.size 47 #[.int .u32 (w32 (d.word (base + 1) 0)), .int .u32 (w32 (d.word (base + 1) 2)), .int .u32 (w32 (d.word (base + 1) 4)), .bool true, .bool false, .int .i64 (t : Nat)] from RowAt.mk w3 _ _).cell 3
          have q2 : (w3.alloc (.cells #[.int .u32 (w32 (d.word (base + 1) 0)), .int .u32 (w32 (d.word (base + 1) 2)), .int .u32 (w32 (d.word (base + 1) 4)), .bool true, .bool false, .int .i64 (t : Nat)] 47)).cell? ⟨w3.heap.size, 4, none⟩ = some (.bool false) := (show RowAt (w3.alloc (.cells #[.int .u32 (w32 (d.word (base + 1) 0)), .int .u32 (w32 (d.word (base + 1) 2)), .int .u32 (w32 (d.word (base + 1) 4)), .bool true, .bool false, .int .i64 (t : Nat)] 47)) w3.heap.size 47 #[.int .u32 (w32 (d.word (base + 1) 0)), .int .u32 (w32 (d.word (base + 1) 2)), .int .u32 (w32 (d.word (base + 1) 4)), .bool true, .bool false, .int .i64 (t : Nat)] from RowAt.mk w3 _ _).cell 4
          obtain ⟨z, hz⟩ : ∃ z, w3.heap.size = z := ⟨_, rfl⟩
          obtain ⟨wa, hwa⟩ : ∃ wa, w3.alloc (.cells #[.int .u32 (w32 (d.word (base + 1) 0)), .int .u32 (w32 (d.word (base + 1) 2)), .int .u32 (w32 (d.word (base + 1) 4)), .bool true, .bool false, .int .i64 (t : Nat)] 47) = wa := ⟨_, rfl⟩
          have hzl : z < wa.heap.size := by rw [← hwa, ← hz]; simp
          rw [hwa] at HA q1 q2 ⊢
          rw [hz] at q1 q2 ⊢
          have HQ := Lib.hid (show ∀ W', Below wa.heap.size wa W' → W'.cell? ⟨z, 3, none⟩ = some (.bool true) ∧ W'.cell? ⟨z, 4, none⟩ = some (.bool false) from fun W' hb => ⟨(hb.cell (p := ⟨z, 3, none⟩) hzl).trans q1, (hb.cell (p := ⟨z, 4, none⟩) hzl).trans q2⟩)
          clear hbA hwa hz hzl q1 q2
          refine (bhead_any HA.out.1).mono ?_
          rintro e w4 ⟨b, cap, rfl, h1, h2, h3, h4⟩
          have H4 := Lib.hid (And.intro (HA.out.1.new h4) (And.intro (HA.out.2.trans (h4.mono HA.out.2.size)) (And.intro h4 h2)))
          clear h1 h2 h3 h4
          go_wp2_with (first
            | (go_at_call 97; refine (HNx.out _ _ _ H4.out.2.2.2).mono ?_; rintro e w5 ⟨rfl, hb5⟩; have H5 := Lib.hid (And.intro (H4.out.1.new hb5) (H4.out.2.1.trans (hb5.mono H4.out.2.1.size))); obtain ⟨q1, q2⟩ := HQ.out w5 (H4.out.2.2.1.trans (hb5.mono H4.out.2.2.1.size)); have c5 := H5.out.1.c0; have c51 := H5.out.1.c1; clear hb5)
            | fail)
          go_still_tail 10, (by kernel_rfl)
          go_wp2_with (first
            | (go_at_call 98; refine (HPr.out _ (H5.out.1.dn 1)).mono ?_; rintro e w6 ⟨rfl, h6, k6⟩; have H6 := Lib.hid (And.intro ((H5.out.1.dn 1).dev' h6 ⟨HPK.out.ns, HPK.out.nw⟩ k6) (((Ch.new H5.out.2 : Ch (OwnD q S g d.ns) w w5).drewN 1).trans k6)); clear h6 k6)
            | fail)
          go_ret
          subst hR
          exact ⟨rfl, H6.out⟩
end Go.Proofs.Ythpagbfabpfngaa
/- The contract of bank's Put. -/
namespace Go.Proofs.Ythpagbfabpfngaa
open Go.RowKit

theorem room_quiet {w : World} {B q S : Nat} {g : Nat → Nat} {d : Dev} {base many : Nat} {op : Bool} {P : List (BitVec 32)} (h : Bk w B q S g d base many op P) (n : Nat) :
    Calls Try.prog 14 #[.pointer (some ⟨B, 0, none⟩)] (w.drewN n) fun e w' => e = .returned (.int .i64 (roomN d many : Nat)) ∧ ∃ m, w' = w.drewN m :=
  (room_any (h.dn n)).mono fun _ _ ⟨h1, m, h2⟩ => ⟨h1, n + m, by rw [h2, World.drewN_drewN]⟩
set_option maxHeartbeats 4000000 in
set_option maxRecDepth 100000 in
theorem put_no {w : World} {B q S : Nat} {g : Nat → Nat} {d : Dev} {base many : Nat} {P : List (BitVec 32)} (h : Bk w B q S g d base many false P) (sp : Option Addr) (n cap : Nat) :
    Calls Try.prog 44 #[.pointer (some ⟨B, 0, none⟩), .slice sp n cap] w fun e w' => e = .returned (.int .i64 80) ∧ w = w' := by
  have c3 := h.c3
  clear h
  go_enter Try.func44, Try.ntmps44
  go_wp2
  go_ret
  exact ⟨rfl, rfl⟩
set_option maxHeartbeats 4000000 in
set_option maxRecDepth 100000 in
theorem put_full {w : World} {B q S : Nat} {g : Nat → Nat} {d : Dev} {base many : Nat} {P : List (BitVec 32)} (h : Bk w B q S g d base many true P) (sp : Option Addr) (n cap : Nat) (hP : P.length ≤ 4096) (hn : (roomN d many : Int) - P.length < n) (hn2 : n ≤ 100000) :
    Calls Try.prog 44 #[.pointer (some ⟨B, 0, none⟩), .slice sp n cap] w fun e w' => e = .returned (.int .i64 81) ∧ ∃ m, w' = w.drewN m := by
  have c3 := h.c3
  have c4 := h.c4
  have HRm := fun n => Lib.hid (room_quiet h n)
  have hrm : roomN d many ≤ 4096 := by unfold roomN; omega
  obtain ⟨rm, hrr⟩ : ∃ rm, roomN d many = rm := ⟨_, rfl⟩
  obtain ⟨p, hpp⟩ : ∃ p, P.length = p := ⟨_, rfl⟩
  rw [hrr] at HRm hrm hn
  rw [hpp] at c4 hP hn
  have e1 : IntKind.i64.wrap ((rm : Int) - (p : Int)) = (rm : Int) - p := by rw [IntKind.wrap_i64]; omega
  clear h hrr hpp
  go_enter Try.func44, Try.ntmps44
  go_wp2
  go_quiet ((go_at_call 14; exact (HRm _).out))
  go_wp2
  go_ret
  exact ⟨rfl, _, rfl⟩
theorem behind_to {w : World} {B q S : Nat} {g : Nat → Nat} {d : Dev} {base many : Nat} {op : Bool} {P X : List (BitVec 32)} (h : Bk w B q S g d base many op P) {sp : Option Addr} {b off cap : Nat} (hP : P.length ≤ 100000 ∧ X.length ≤ 100000) (hX : Ws w sp b off X.length (nthW X)) (hb : 0 < X.length → ¬ OwnB B q S g d.ns b) :
    GivesTo ((w.alloc (.cells #[.pointer (some ⟨B, 0, none⟩)] 35)).alloc (.cells #[.slice sp X.length cap] 24)) q S g d.ns 107 #[.pointer (some ⟨w.heap.size + 1, 0, none⟩), .pointer (some ⟨w.heap.size, 0, none⟩)] X.length (fun k => P.length + k) (nthW X) := by
  obtain ⟨w1, hw1⟩ : ∃ w1, w.alloc (.cells #[.pointer (some ⟨B, 0, none⟩)] 35) = w1 := ⟨_, rfl⟩
  obtain ⟨w2, hw2⟩ : ∃ w2, w1.alloc (.cells #[.slice sp X.length cap] 24) = w2 := ⟨_, rfl⟩
  rw [hw1, hw2]
  have z1 : w1.heap.size = w.heap.size + 1 := by rw [← hw1]; simp
  have b1 : Below w.heap.size w w1 := by rw [← hw1]; exact (Below.refl _ _).alloc (Nat.le_refl _) _
  have b2 : Below w1.heap.size w1 w2 := by rw [← hw2]; exact (Below.refl _ _).alloc (Nat.le_refl _) _
  have x2 : w2.cell? ⟨w.heap.size + 1, 0, none⟩ = some (.slice sp X.length cap) := by rw [← hw2, ← z1]; exact (BoxAt.mk_new w1 #[.slice sp X.length cap] _).cell 0 _ rfl
  have x1 : w2.cell? ⟨w.heap.size, 0, none⟩ = some (.pointer (some ⟨B, 0, none⟩)) := by rw [← hw2, ← hw1]; exact ((BoxAt.mk_new w #[.pointer (some ⟨B, 0, none⟩)] 35).alloc _).cell 0 _ rfl
  have h2 := (h.new b1).new b2
  have hW2 := (hX.new b1).new b2
  have hlt := h.lt
  have off2 : ∀ j, w.heap.size ≤ j → ¬ OwnD q S g d.ns j := fun j hj ho => by have := hlt j (.inr ho); omega
  refine ⟨fun args w => enters_of Try.func107 (by kernel_rfl) rfl args w, fun l0 F J Jx W1 hJ fJ hR h0 => ?_⟩
  refine behind_in l0 (w.heap.size + 1) w.heap.size B P.length X.length b off cap sp (nthW X) F J Jx W1 hP (fun k W' hk => ?_) hR fJ h0
  have c := hJ k W' hk
  exact ⟨c.cell x2 (off2 _ (by simp)), c.cell x1 (off2 _ (by simp)), c.cell h2.c4 h.nb, hW2.keep c (fun h0 ho => hb h0 (.inr ho))⟩
/-- What Put programs. -/
def putK (d : Dev) (base : Nat) (P X : List (BitVec 32)) : Dev × Int := progK d (base + 2) (fun k => P.length + k) (nthW X) X.length
/-- Where a bank lies in the midst of a sum. -/
structure Bs (w : World) (B q S : Nat) (g : Nat → Nat) (d : Dev) (base many : Nat) (p : Nat) (Y : List (BitVec 32)) : Prop where
  box : BoxAt w B (putSum (bankC q base many true p) 5 (runW ones Y) ((4 * Y.length : Nat) : Int))
  dev : DevAt w q S g d
set_option maxHeartbeats 4000000 in
set_option maxRecDepth 100000 in
theorem put_go {w : World} {B q S : Nat} {g : Nat → Nat} {d : Dev} {base many : Nat} {P X : List (BitVec 32)} (h : Bk w B q S g d base many true P) (ho : d.okE) (hops : d.ops + X.length ≤ 1000000) {sp : Option Addr} {b off cap : Nat} (hX : Ws w sp b off X.length (nthW X)) (hb : 0 < X.length → ¬ OwnB B q S g d.ns b) (hP : P.length ≤ 4096) (hn : (X.length : Int) ≤ (roomN d many : Int) - P.length) :
    Calls Try.prog 44 #[.pointer (some ⟨B, 0, none⟩), .slice sp X.length cap] w fun e w' => e = .returned (.int .i64 (putK d base P X).2) ∧ Bk w' B q S g (putK d base P X).1 base many (decide ((putK d base P X).2 = 0)) (if (putK d base P X).2 = 0 then P ++ X else P) ∧ Ch (OwnB B q S g d.ns) w w' := by
  have c3 := h.c3
  have c4 := h.c4
  have HRm := fun n => Lib.hid (room_quiet h n)
  have hrm : roomN d many ≤ 4096 := by unfold roomN; omega
  have hz := h.dev.zn
  have hk := progK_kept (from_ := base + 2) (at_ := fun k => P.length + k) (ws := nthW X) (n := X.length) ho hops (by omega) hz.2.2.2 X.length (Nat.le_refl _)
  have HPr := Lib.hid (fun (wx : World) (gf : Nat) (lb : Array Value) (hx : Bk wx B q S g d base many true P) (hg : GivesTo wx q S g d.ns gf lb X.length (fun k => P.length + k) (nthW X)) => bprogram_any hx ho 2 (by omega) gf lb X.length _ _ hops (fun k hk => by omega) hg)
  have hKK : putK d base P X = progK d (base + 2) (fun k => P.length + k) (nthW X) X.length := rfl
  obtain ⟨⟨d1, e1⟩, hp1⟩ : ∃ p, progK d (base + 2) (fun k => P.length + k) (nthW X) X.length = p := ⟨_, rfl⟩
  rw [hp1] at hKK hk
  simp only [hp1] at HPr
  rw [hKK]
  simp only at hk ⊢
  have HTo := Lib.hid (fun nq => behind_to (cap := cap) (h.dn nq) (X := X) (by omega) (hX.new (below_dn (Below.refl _ _) nq)) hb)
  have hHX := hX
  have H1 := Lib.hid (And.intro h (And.intro hX (And.intro hb hk)))
  obtain ⟨rm, hrr⟩ : ∃ rm, roomN d many = rm := ⟨_, rfl⟩
  rw [hrr] at HRm hrm hn
  obtain ⟨n, hnn⟩ : ∃ n, X.length = n := ⟨_, rfl⟩
  have HX := Lib.hid (And.intro hnn hX)
  rw [hnn] at HTo HPr hn ⊢
  obtain ⟨p, hpp⟩ : ∃ p, P.length = p := ⟨_, rfl⟩
  have HPp := Lib.hid hpp
  rw [hpp] at c4 hP hn
  have e1w : IntKind.i64.wrap ((rm : Int) - (p : Int)) = (rm : Int) - p := by rw [IntKind.wrap_i64]; omega
  have hle : ¬ (rm : Int) - (p : Int) < (n : Int) := by omega
  clear h hz hk hp1 hKK hrr hX hb hnn hpp ho hops
  have HBl := Lib.hid (show ∀ nq, Below w.heap.size w (((w.drewN nq).alloc (.cells #[.pointer (some ⟨B, 0, none⟩)] 35)).alloc (.cells #[.slice sp n cap] 24)) from fun nq => ((below_dn (Below.refl _ _) nq).alloc (Nat.le_refl _) _).alloc (by simp) _)
  have HB2 := Lib.hid (show ∀ nq, Bk (((w.drewN nq).alloc (.cells #[.pointer (some ⟨B, 0, none⟩)] 35)).alloc (.cells #[.slice sp n cap] 24)) B q S g d base many true P from fun nq => H1.out.1.new (HBl.out nq))
  by_cases he : e1 = 0
  · subst he
    go_enter Try.func44, Try.ntmps44
    go_wp2
    go_quiet ((go_at_call 14; exact (HRm _).out))
    go_wp2_with fail
    refine (behindB_any B _ ⟨_, _, _, rfl⟩ _).mono ?_
    rintro e w4 ⟨rfl, rfl⟩
    go_wp2_with (first
      | (go_at_call 77; refine (HPr.out _ _ _ (HB2.out nq) (HTo.out nq)).mono ?_; rintro e w5 ⟨rfl, h5, k5⟩; have H5 := Lib.hid (And.intro h5 (And.intro k5 ((Ch.new (HBl.out nq) : Ch (OwnB B q S g d.ns) w _).trans (k5.mono fun j _ hj => .inr hj))));  clear h5 k5)
      | fail)
    obtain ⟨N, hN⟩ : ∃ N, N = n := ⟨_, rfl⟩
    have hXn := HX.out.1
    have hs5 : Ws w5 sp b off n (nthW X) := by
      have := (H1.out.2.1.new (HBl.out nq)).keep H5.out.2.1 (fun h0 ho => H1.out.2.2.1 h0 (.inr ho))
      rw [HX.out.1] at this
      exact this
    have H50 := Lib.hid (show Bs w5 B q S g d1 base many p P from ⟨by have := H5.out.1.box; unfold bankL at this; rw [HPp.out] at this ⊢; exact this, H5.out.1.dev⟩)
    have HW5 := Lib.hid hs5
    have HNS := Lib.hid H1.out.2.2.2.ns
    clear hs5 hN
    go_loopg [36] n (fun m v wr => ∃ i : Nat, i + m = n ∧ v = .int .i64 (i : Nat) ∧ Aside (Bs wr B q S g d1 base many p (P ++ X.take i) ∧ Ws wr sp b off n (nthW X) ∧ Ch (fun j => j = B) w5 wr))
    case atStart => exact ⟨0, by omega, rfl, by simpa using H50.out, HW5.out, Ch.refl _ _⟩
    case round =>
      obtain ⟨i, him, rfl, HA⟩ := hrel
      cases gk with
      | zero =>
        obtain rfl : i = n := by omega
        have q4 := HA.out.1.box.cell 4 (.int .i64 (p : Nat)) rfl
        have f4 := HA.out.1.box.fr 4
        have ew : IntKind.i64.wrap ((p : Int) + (i : Int)) = (p : Int) + i := by rw [IntKind.wrap_i64]; omega
        clear c3 c4 HTo HPr HB2 HBl HRm H50 HW5
        go_wp2
        refine bodyPost_ret (results_tmp rfl _ _ _) rfl ?_
        simp only []
        have et : X.take i = X := by rw [← hXn]; exact List.take_length
        refine ⟨rfl, ⟨?_, ?_, by rw [HNS.out]; exact H1.out.1.nb, by rw [HNS.out, H1.out.2.2.2.nw]; exact H1.out.1.fit⟩, ?_⟩
        · have hB := HA.out.1.box.set 4 (.int .i64 ((p : Int) + i)) (by rw [putSum_len]; unfold bankC; simp)
          have e : (putSum (bankC q base many true p) 5 (runW ones (P ++ X.take i)) ((4 * (P ++ X.take i).length : Nat) : Int)).set 4 (.int .i64 ((p : Int) + i)) = bankL q base many true (P ++ X) := by
            rw [et]
            unfold bankL
            rw [show (P ++ X).length = p + i by rw [List.length_append, HPp.out, hXn], show (p : Int) + (i : Int) = ((p + i : Nat) : Int) by push_cast; rfl]
            rfl
          rw [e] at hB
          exact hB
        · exact HA.out.1.dev.keep (ch_setK wr B 4 _) (fun j hj e => H1.out.1.nb (by rw [← HNS.out, ← e]; exact hj))
        · exact H5.out.2.2.trans ((HA.out.2.2.trans (ch_setK wr B 4 _)).mono fun j _ e => .inl e)
      | succ m1 =>
        have hlt : i < n := by omega
        obtain ⟨rfl, -⟩ := HA.out.2.1.sp (by omega)
        have hc := HA.out.2.1.cell i hlt
        have hlw := HA.out.1.box
        have hl4 : (P ++ X.take i).length = p + i := by rw [List.length_append, HPp.out, List.length_take, hXn]; omega
        have hwo := wordO_any (nthW X i) (m := ((4 * (P ++ X.take i).length : Nat) : Int)) (by omega) (by unfold bankC; simp) hlw
        have er : wrd (runW ones (P ++ X.take i)) (nthW X i) = runW ones (P ++ X.take (i + 1)) := by
          have ra : ∀ Z, runW ones (P ++ Z) = runW (runW ones P) Z := fun Z => by unfold runW; rw [List.foldl_append]
          rw [ra, ra, runW_snoc _ _ _ (by omega)]
        have em : ((4 * (P ++ X.take i).length : Nat) : Int) + 4 = ((4 * (P ++ X.take (i + 1)).length : Nat) : Int) := by
          rw [hl4, show (P ++ X.take (i + 1)).length = p + (i + 1) by rw [List.length_append, HPp.out, List.length_take, hXn]; omega]
          omega
        rw [er, em] at hwo
        have HWo := Lib.hid hwo
        clear c3 c4 HTo HPr HB2 HBl HRm H50 HW5 hwo er em hl4 hlw
        go_wp2_with (go_at_call 79; refine HWo.out.mono ?_; rintro e w6 ⟨rfl, h6, k6⟩; have H6 := Lib.hid (And.intro h6 k6); clear h6 k6)
        go_roundg m1
        case measure => omega
        case rel =>
          refine ⟨i + 1, by omega, by go_num, ⟨H6.out.1, ?_⟩, ?_, HA.out.2.2.trans H6.out.2⟩
          · exact HA.out.1.dev.keep H6.out.2 (fun j hj e => H1.out.1.nb (by rw [← HNS.out, ← e]; exact hj))
          · exact HA.out.2.1.keep H6.out.2 (fun h0 e => H1.out.2.2.1 (by omega) (.inl e))
  · go_enter Try.func44, Try.ntmps44
    go_wp2
    go_quiet ((go_at_call 14; exact (HRm _).out))
    go_wp2_with fail
    refine (behindB_any B _ ⟨_, _, _, rfl⟩ _).mono ?_
    rintro e w4 ⟨rfl, rfl⟩
    go_wp2_with (first
      | (go_at_call 77; refine (HPr.out _ _ _ (HB2.out nq) (HTo.out nq)).mono ?_; rintro e w5 ⟨rfl, h5, k5⟩; have H5 := Lib.hid (And.intro h5 (And.intro k5 ((Ch.new (HBl.out nq) : Ch (OwnB B q S g d.ns) w _).trans (k5.mono fun j _ hj => .inr hj)))); have c53 := h5.c3; have f53 := h5.box.fr 3; clear h5 k5)
      | fail)
    go_ret
    simp only []
    exact ⟨rfl, H5.out.1.setOp false, H5.out.2.2.trans ((ch_setK w5 B 3 _).mono fun j _ e => .inl e)⟩
end Go.Proofs.Ythpagbfabpfngaa
/- The contracts of bank's words: the closure, and what it goes through. -/
namespace Go.Proofs.Ythpagbfabpfngaa
open Go.RowKit
attribute [local go_sem] Oper.semAt_some

/-- The words of data. -/
def dataW (d : Dev) (base k : Nat) : BitVec 32 := d.word (base + 2 + k / d.nw) (k % d.nw)
theorem place_quiet {w : World} {B q S : Nat} {g : Nat → Nat} {d : Dev} {base many : Nat} {op : Bool} {P : List (BitVec 32)} (h : Bk w B q S g d base many op P) (frm at_ : Nat) (h1 : frm ≤ 64) (h2 : at_ ≤ 10000) (n : Nat) :
    Calls Try.prog 85 #[.pointer (some ⟨B, 0, none⟩), .int .i64 frm, .int .i64 at_] (w.drewN n) fun e w' => e = .returned (.tuple #[.int .i64 ((base + frm + at_ / d.nw : Nat) : Int), .int .i64 ((at_ % d.nw : Nat) : Int)]) ∧ ∃ m, w' = w.drewN m :=
  (place_any (h.dn n) frm at_ h1 h2).mono fun _ _ ⟨h1, m, h2⟩ => ⟨h1, n + m, by rw [h2, World.drewN_drewN]⟩
theorem wordsB_any (B n : Nat) (w : World) : Calls Try.prog 47 #[.pointer (some ⟨B, 0, none⟩), .int .i64 n] w fun e w' => e = .returned (.func (.func 83) #[] #[.pointer (some ⟨w.heap.size + 1, 0, none⟩), .pointer (some ⟨w.heap.size, 0, none⟩)]) ∧ w' = (w.alloc (.cells #[.pointer (some ⟨B, 0, none⟩)] 35)).alloc (.cells #[.int .i64 n] 3) := by
  have hmf : ∀ (fn : Fn) (first cap : Array Value) (w : World), (Instr.makeFunc fn first cap).run Try.prog w = .ok (.func fn first cap) w := fun _ _ _ _ => rfl
  go_enter Try.func47, Try.ntmps47
  go_wp2
  go_ret
  exact ⟨rfl, rfl⟩
theorem data_at {d : Dev} {base many k : Nat} (hf : base + many ≤ d.ns ∧ 3 ≤ many ∧ 13 ≤ d.nw) (hon : d.on = true) (hk : k < roomN d many) : d.readE ((base + 2 + k / d.nw : Nat) : Int) ((k % d.nw : Nat) : Int) = 0 ∧ d.readW ((base + 2 + k / d.nw : Nat) : Int) ((k % d.nw : Nat) : Int) = dataW d base k := by
  have h0 : k < (many - 2) * d.nw := by unfold roomN at hk; omega
  have h1 : k / d.nw < many - 2 := Nat.div_lt_of_lt_mul (by rw [Nat.mul_comm]; exact h0)
  have h2 := Nat.mod_lt k (show 0 < d.nw by omega)
  unfold dataW
  obtain ⟨x, hx⟩ : ∃ x, k / d.nw = x := ⟨_, rfl⟩
  obtain ⟨y, hy⟩ : ∃ y, k % d.nw = y := ⟨_, rfl⟩
  rw [hx] at h1 ⊢
  rw [hy] at h2 ⊢
  have ho : d.okK ((base + 2 + x : Nat) : Int) (y : Int) = true := by
    unfold Dev.okK Dev.has
    simp only [Bool.and_eq_true, decide_eq_true_eq]
    omega
  unfold Dev.readE Dev.readW
  rw [ho, hon]
  exact ⟨rfl, rfl⟩
set_option maxHeartbeats 2000000 in
set_option maxRecDepth 100000 in
theorem words_in (l0 XM XB B q S : Nat) (g : Nat → Nat) (d : Dev) (base many n : Nat) (op : Bool) (P : List (BitVec 32)) (F : World → Nat → Prop) (J Jx : Nat → World → Prop) (W : World) (hn : n ≤ roomN d many) (hon : d.on = true)
    (hC : ∀ k W', J k W' → W'.cell? ⟨XM, 0, none⟩ = some (.int .i64 n) ∧ W'.cell? ⟨XB, 0, none⟩ = some (.pointer (some ⟨B, 0, none⟩)) ∧ Bk W' B q S g d base many op P)
    (hR : RoundsF Try.prog l0 n (fun k => #[.int .u32 (w32 (dataW d base k))]) F J Jx) (fJ : ∀ k, Foot F (J k)) (h0 : J 0 W) :
    Iter Try.prog 83 #[.pointer (some ⟨XM, 0, none⟩), .pointer (some ⟨XB, 0, none⟩)] l0 n J Jx W := by
  refine callsIn_of_wp Try.func83 rfl trivial ?_ rfl
  simp only [Try.ntmps83, List.size_toArray, List.length_cons, List.length_nil, Nat.reduceAdd, Nat.reduceSub, Array.replicate_succ, Array.replicate_zero, List.push_toArray, List.append_toArray, List.nil_append, List.cons_append]
  have HJ := Lib.hid (And.intro fJ (And.intro h0 (And.intro hR hC)))
  obtain ⟨c0, -, -⟩ := hC 0 W h0
  have hr4 : roomN d many ≤ 4096 := by unfold roomN; omega
  clear fJ h0 hR hC
  gi_wp2
  gi_loopg [8] n (fun m v wr => ∃ i : Nat, i + m = n ∧ v = .int .i64 (i : Nat) ∧ Aside (J i wr))
  case atStart => exact ⟨0, by omega, rfl, HJ.out.2.1⟩
  case round =>
    obtain ⟨i, him, rfl, HA⟩ := hrel
    cases gk with
    | zero =>
      obtain rfl : i = n := by omega
      gi_wp2
      go_end0
      exact ⟨⟨_, rfl⟩, .inl HA.out⟩
    | succ m1 =>
      have hlt : i < n := by omega
      obtain ⟨-, k1, hb⟩ := HJ.out.2.2.2 _ _ HA.out
      have k0 := hb.c0
      have hJ1 := fun nq => ((HJ.out.1 i).keepBelow HA.out (below_dn (Below.refl _ _) nq)).1
      have HYd := Lib.hid (fun nq => HJ.out.2.2.1 i _ (hJ1 nq) hlt)
      obtain ⟨e0, ew⟩ := data_at hb.fit hon (show i < roomN d many by omega)
      have HPl := fun nq => Lib.hid (place_quiet hb 2 i (by omega) (by omega) nq)
      have HRd := fun nq => Lib.hid (by have := quietly (read_any (hb.dn nq).dev ((base + 2 + i / d.nw : Nat) : Int) ((i % d.nw : Nat) : Int)); rw [e0, ew] at this; exact this)
      obtain ⟨s, hs⟩ : ∃ s, ((base + 2 + i / d.nw : Nat) : Int) = s := ⟨_, rfl⟩
      obtain ⟨c, hcc⟩ : ∃ c, ((i % d.nw : Nat) : Int) = c := ⟨_, rfl⟩
      simp only [hs, hcc] at HPl HRd
      clear c0 hJ1 hb e0 ew hs hcc
      gi_wp2
      refine wpIn_wide.2 ?_
      go_quiet ((first | (go_at_call 85; exact (HPl _).out) | (go_at_call 84; exact (HRd _).out)))
      obtain ⟨fn, tmps, assign, body, hyd, hRo⟩ := HYd.out nq
      gi_wp2
      refine ⟨rfl, hRo.mono ?_⟩
      rintro e W3 (⟨rfl, hJ3, -⟩ | ⟨rfl, hJx3, -⟩)
      · have H3 := Lib.hid hJ3
        clear hJ3 hyd hRo
        gi_wp2
        go_roundg m1
        case measure => omega
        case rel => exact ⟨i + 1, by omega, by go_num, H3.out⟩
      · have H3 := Lib.hid hJx3
        clear hJx3 hyd hRo
        gi_wp2
        refine bodyPost_ret (results_none rfl _ _ _) rfl ?_
        exact ⟨⟨_, rfl⟩, .inr ⟨i + 1, by omega, H3.out⟩⟩
end Go.Proofs.Ythpagbfabpfngaa
