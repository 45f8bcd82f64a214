/- The contract of right. -/
import Derived.Test.YtkbmgilceioieaaRU
import Derived.Test.YtkbmgilceioieaaRQ
import Derived.Test.YtkbmgilceioieaaRK
namespace Go.Proofs.Ytkbmgilceioieaa
open Go.RowKit
attribute [local go_sem] Oper.semAt_some

theorem own_SL2 {w : World} {base : Nat} {v : Value} {l : List Nat} (h : w.ownsRow base 27 1 v l.length (rowW l)) :
    ∃ sp g cap, v = .slice sp l.length cap ∧ SL w sp g 0 l ∧ l.length ≤ cap ∧ cap ≤ maxLen ∧ (0 < l.length → base ≤ g ∧ g < w.heap.size) := by
  have h' := h
  obtain ⟨sp, g, cap, rfl, h1, h2, h3⟩ := own_SL h
  refine ⟨sp, g, cap, rfl, h1, h2, ?_, fun h0 => (h3 h0).2⟩
  rcases h'.2 with ⟨h4, h5⟩ | ⟨g', cap', cur, h4, -, -, -, h5, -⟩
  · injection h4 with _ _ h4; subst h4; unfold maxLen; omega
  · injection h4 with _ _ h4; subst h4; exact h5

/-- Where right's variables lie. -/
structure IM (w0 : World) (Oc : Nat) (vl : Value) (m h a : Int) (W : World) : Prop where
  below : Below Oc w0 W
  cm : W.cell? ⟨Oc, 0, none⟩ = some (.int .i64 m)
  fm : W.frozen? ⟨Oc, 0, none⟩ = false
  cl : W.cell? ⟨Oc + 1, 0, none⟩ = some vl
  cr : W.cell? ⟨Oc + 1 + 1, 0, none⟩ = some (.bool false)
  fr : W.frozen? ⟨Oc + 1 + 1, 0, none⟩ = false
  ch : W.cell? ⟨Oc + 1 + 1 + 1, 0, none⟩ = some (.int .i64 h)
  fh : W.frozen? ⟨Oc + 1 + 1 + 1, 0, none⟩ = false
  ca : W.cell? ⟨Oc + 1 + 1 + 1 + 1, 0, none⟩ = some (.int .i64 a)
  fa : W.frozen? ⟨Oc + 1 + 1 + 1 + 1, 0, none⟩ = false
def FM (Oc : Nat) (_W : World) (j : Nat) : Prop := j < Oc + 5
section
variable {w0 W W' : World} {Oc : Nat} {vl : Value} {m h a : Int}
theorem IM.lt (h1 : IM w0 Oc vl m h a W) : Oc + 5 ≤ W.heap.size := by
  have := World.block_lt_of_cell? W _ h1.ca; simp at this; omega
theorem IM.keep {T : Nat → Prop} (h1 : IM w0 Oc vl m h a W) (c : Ch T W W') (hT : ∀ j, j < Oc + 5 → ¬ T j) : IM w0 Oc vl m h a W' :=
  ⟨h1.below.trans (c.below (fun j hj => hT j (by omega)) (by have := h1.lt; omega)), c.cell h1.cm (hT Oc (by omega)), (c.frozenCell h1.cm (hT Oc (by omega))).trans h1.fm, c.cell h1.cl (hT (Oc + 1) (by omega)),
    c.cell h1.cr (hT (Oc + 1 + 1) (by omega)), (c.frozenCell h1.cr (hT (Oc + 1 + 1) (by omega))).trans h1.fr, c.cell h1.ch (hT (Oc + 1 + 1 + 1) (by omega)), (c.frozenCell h1.ch (hT (Oc + 1 + 1 + 1) (by omega))).trans h1.fh,
    c.cell h1.ca (hT (Oc + 1 + 1 + 1 + 1) (by omega)), (c.frozenCell h1.ca (hT (Oc + 1 + 1 + 1 + 1) (by omega))).trans h1.fa⟩
theorem IM.new (h1 : IM w0 Oc vl m h a W) (c : Below W.heap.size W W') : IM w0 Oc vl m h a W' :=
  h1.keep (T := fun _ => False) (Ch.new c) (fun _ _ h => h)
theorem IM.setM (h1 : IM w0 Oc vl m h a W) (m' : Int) : IM w0 Oc vl m' h a (W.setCell ⟨Oc, 0, none⟩ (.int .i64 m')) := by
  have c : Ch (fun j => j = Oc) W (W.setCell ⟨Oc, 0, none⟩ (.int .i64 m')) := (Ch.refl _ _).setCell _ _ (.inl rfl)
  have n1 : ¬ Oc + 1 = Oc := by omega
  have n2 : ¬ Oc + 1 + 1 = Oc := by omega
  have n3 : ¬ Oc + 1 + 1 + 1 = Oc := by omega
  have n4 : ¬ Oc + 1 + 1 + 1 + 1 = Oc := by omega
  exact ⟨h1.below.trans (c.below (fun j hj e => by omega) (by have := h1.lt; omega)), World.cell?_setCell_same _ _ _ h1.cm, by rw [World.frozen?_setCell]; exact h1.fm, c.cell h1.cl n1, c.cell h1.cr n2, (c.frozenCell h1.cr n2).trans h1.fr,
    c.cell h1.ch n3, (c.frozenCell h1.ch n3).trans h1.fh, c.cell h1.ca n4, (c.frozenCell h1.ca n4).trans h1.fa⟩
theorem IM.stop (h1 : IM w0 Oc vl m h a W) : Below Oc w0 (W.setCell ⟨Oc + 1 + 1, 0, none⟩ (.bool false)) ∧ (W.setCell ⟨Oc + 1 + 1, 0, none⟩ (.bool false)).cell? ⟨Oc + 1 + 1, 0, none⟩ = some (.bool false) ∧ Oc + 5 ≤ (W.setCell ⟨Oc + 1 + 1, 0, none⟩ (.bool false)).heap.size := by
  have c : Ch (fun j => j = Oc + 1 + 1) W (W.setCell ⟨Oc + 1 + 1, 0, none⟩ (.bool false)) := (Ch.refl _ _).setCell _ _ (.inl rfl)
  exact ⟨h1.below.trans (c.below (fun j hj e => by omega) (by have := h1.lt; omega)), World.cell?_setCell_same _ _ _ h1.cr, by rw [World.size_setCell]; exact h1.lt⟩
theorem IM.setH (h1 : IM w0 Oc vl m h a W) (h' : Int) : IM w0 Oc vl m h' a (W.setCell ⟨Oc + 1 + 1 + 1, 0, none⟩ (.int .i64 h')) := by
  have c : Ch (fun j => j = Oc + 1 + 1 + 1) W (W.setCell ⟨Oc + 1 + 1 + 1, 0, none⟩ (.int .i64 h')) := (Ch.refl _ _).setCell _ _ (.inl rfl)
  have n0 : ¬ Oc = Oc + 1 + 1 + 1 := by omega
  have n1 : ¬ Oc + 1 = Oc + 1 + 1 + 1 := by omega
  have n2 : ¬ Oc + 1 + 1 = Oc + 1 + 1 + 1 := by omega
  have n4 : ¬ Oc + 1 + 1 + 1 + 1 = Oc + 1 + 1 + 1 := by omega
  exact ⟨h1.below.trans (c.below (fun j hj e => by omega) (by have := h1.lt; omega)), c.cell h1.cm n0, (c.frozenCell h1.cm n0).trans h1.fm, c.cell h1.cl n1, c.cell h1.cr n2, (c.frozenCell h1.cr n2).trans h1.fr,
    World.cell?_setCell_same _ _ _ h1.ch, by rw [World.frozen?_setCell]; exact h1.fh, c.cell h1.ca n4, (c.frozenCell h1.ca n4).trans h1.fa⟩
theorem IM.setA (h1 : IM w0 Oc vl m h a W) (a' : Int) : IM w0 Oc vl m h a' (W.setCell ⟨Oc + 1 + 1 + 1 + 1, 0, none⟩ (.int .i64 a')) := by
  have c : Ch (fun j => j = Oc + 1 + 1 + 1 + 1) W (W.setCell ⟨Oc + 1 + 1 + 1 + 1, 0, none⟩ (.int .i64 a')) := (Ch.refl _ _).setCell _ _ (.inl rfl)
  have n0 : ¬ Oc = Oc + 1 + 1 + 1 + 1 := by omega
  have n1 : ¬ Oc + 1 = Oc + 1 + 1 + 1 + 1 := by omega
  have n2 : ¬ Oc + 1 + 1 = Oc + 1 + 1 + 1 + 1 := by omega
  have n3 : ¬ Oc + 1 + 1 + 1 = Oc + 1 + 1 + 1 + 1 := by omega
  exact ⟨h1.below.trans (c.below (fun j hj e => by omega) (by have := h1.lt; omega)), c.cell h1.cm n0, (c.frozenCell h1.cm n0).trans h1.fm, c.cell h1.cl n1, c.cell h1.cr n2, (c.frozenCell h1.cr n2).trans h1.fr,
    c.cell h1.ch n3, (c.frozenCell h1.ch n3).trans h1.fh, World.cell?_setCell_same _ _ _ h1.ca, by rw [World.frozen?_setCell]; exact h1.fa⟩
end
/-- Between two rounds. -/
def IR (w0 : World) (Oc : Nat) (vl : Value) (most : Int) (l : List Nat) (k : Nat) (W : World) : Prop :=
  IM w0 Oc vl (most - (toldK l k).length) (posG l (k - 1)) (posG l k) W ∧ ((toldK l k).length : Int) ≤ most ∧ Chk none ((parse l).1.take k)
/-- When a round has left the walk. -/
def IX (w0 : World) (Oc : Nat) (most : Int) (l : List Nat) (c : Code) (_k : Nat) (W : World) : Prop :=
  c = .ret ∧ Below Oc w0 W ∧ W.cell? ⟨Oc + 1 + 1, 0, none⟩ = some (.bool false) ∧ Oc + 5 ≤ W.heap.size ∧ rightB most.toNat l = false
theorem IR.foot {w0 : World} {Oc : Nat} {vl : Value} {most : Int} {l : List Nat} {k : Nat} : Foot (FM Oc) (IR w0 Oc vl most l k) where
  lt := fun _ ⟨h1, _⟩ _ hj => Nat.lt_of_lt_of_le hj h1.lt
  keep := fun _ _ ⟨h1, h2⟩ hc => ⟨⟨h1.keep hc (fun _ hj hn => hn hj), h2⟩, fun _ hj => hj⟩
theorem IX.foot {w0 : World} {Oc : Nat} {most : Int} {l : List Nat} {c : Code} {k : Nat} : Foot (FM Oc) (IX w0 Oc most l c k) where
  lt := fun _ h _ hj => Nat.lt_of_lt_of_le hj h.2.2.2.1
  keep := fun _ _ ⟨h1, h2, h3, h4, h5⟩ hc => ⟨⟨h1, h2.trans (hc.below (fun j hj hn => hn (show j < Oc + 5 by omega)) (by omega)), hc.cell h3 (fun hn => hn (show Oc + 1 + 1 < Oc + 5 by omega)), Nat.le_trans h4 hc.size, h5⟩, fun _ hj => hj⟩
theorem step_FM {Oc : Nat} {W W' : World} (h : Ch (fun j => j < Oc + 5) W W') : Step (FM Oc) W W' := ⟨h, fun _ hj => .inl hj⟩

set_option maxHeartbeats 2000000 in
set_option maxRecDepth 100000 in
theorem right_any (most : Int) (l : List Nat) (sp : Option Addr) (b off cap : Nat) (w : World) (hl : SL w sp b off l) (hcap : l.length ≤ cap) (_hmax : cap ≤ maxLen) (hlen : l.length ≤ 100000) (hb : ∀ x ∈ l, x < 4294967296) (h0 : 0 ≤ most) (hm : most ≤ 9223372036854775807) :
    Calls Try.prog 61 #[.int .i64 most, .slice sp l.length cap] w fun e w' => e = .returned (.bool (rightB most.toNat l)) ∧ Below w.heap.size w w' := by
  refine (callsIn_wide (n := 0)).1 ?_
  refine callsIn_of_wp_marks Try.func61 rfl trivial ?_ rfl
  simp only [Try.ntmps61, List.size_toArray, List.length_cons, List.length_nil, Nat.reduceAdd, Nat.reduceSub, Array.replicate_succ, Array.replicate_zero, List.push_toArray, List.append_toArray, List.nil_append, List.cons_append]
  gi_wp2_with (refine ⟨trivial, rfl, ?_⟩; gi_at_call 78; refine (callsIn_wide.2 (Groups_any _ _ _ _)).mono ?_; rintro e w' ⟨rfl, rfl⟩)
  obtain ⟨Oc, hOc⟩ : ∃ Oc, Oc = w.heap.size := ⟨_, rfl⟩
  generalize hw2 : World.alloc _ (Obj.cells #[Value.slice sp l.length cap] 25) = w2
  have z2 : w2.heap.size = Oc + 6 := by rw [← hw2, hOc]; simp
  have b2 : Below Oc w w2 := by rw [← hw2, hOc]; exact ((((((Below.refl _ w).alloc (Nat.le_refl _) _).alloc (by simp) _).alloc (by simp; omega) _).alloc (by simp; omega) _).alloc (by simp; omega) _).alloc (by simp; omega) _
  have o2 : w2.cell? ⟨Oc, 0, none⟩ = some (.int .i64 most) ∧ w2.frozen? ⟨Oc, 0, none⟩ = false ∧ w2.cell? ⟨Oc + 1, 0, none⟩ = some (.slice sp l.length cap) ∧ w2.cell? ⟨Oc + 1 + 1, 0, none⟩ = some (.bool false) ∧ w2.frozen? ⟨Oc + 1 + 1, 0, none⟩ = false ∧ w2.cell? ⟨Oc + 1 + 1 + 1, 0, none⟩ = some (.int .i64 0) ∧ w2.frozen? ⟨Oc + 1 + 1 + 1, 0, none⟩ = false ∧ w2.cell? ⟨Oc + 1 + 1 + 1 + 1, 0, none⟩ = some (.int .i64 0) ∧ w2.frozen? ⟨Oc + 1 + 1 + 1 + 1, 0, none⟩ = false ∧ w2.cell? ⟨Oc + 1 + 1 + 1 + 1 + 1, 0, none⟩ = some (.slice sp l.length cap) := by rw [← hw2, hOc]; simp [go_sem]
  rw [← hOc]
  obtain ⟨q0, q1, q2, q3, q4, q5, q6, q7, q8, q9⟩ := o2
  have hIR : IR w Oc (.slice sp l.length cap) most l 0 w2 := by
    refine ⟨?_, by rw [toldK_zero]; simpa using h0, by simp [Chk]⟩
    rw [toldK_zero, posG_zero]
    simp only [List.length_nil, Int.cast_ofNat_Int, Int.sub_zero]
    exact ⟨b2, q0, q1, q2, q3, q4, q5, q6, q7, q8⟩
  have HH := Lib.hid (And.intro hOc (And.intro z2 (And.intro hIR (And.intro q9 b2))))
  have HL := Lib.hid hl
  have HB := Lib.hid hb
  have HM := Lib.hid (And.intro h0 hm)
  have hlb : 0 < l.length → b < Oc := fun h0 => by rw [hOc]; exact hl.lt h0
  have HLB := Lib.hid hlb
  clear hw2 z2 b2 q0 q1 q2 q3 q4 q5 q6 q7 q8 q9 hIR hl hlb hOc hb h0 hm
  refine wpIn_rangeF (gf := 87) (lb := #[.pointer (some ⟨Oc + 1 + 1 + 1 + 1 + 1, 0, none⟩)]) rfl (enters_of Try.func87 (by kernel_rfl) rfl)
    (parse l).1.length (fun k => #[.int .i64 (gN l k), .slice (some ⟨b, off + posG l k, none⟩) (gE l k) (gE l k)]) (fun _ => rfl) (FM Oc)
    (fun k W => IR w Oc (.slice sp l.length cap) most l k W) (fun c k W => IX w Oc most l c k W)
    (fun k => IR.foot) (fun _ _ => IX.foot) HH.out.2.2.1
    (fun k a' _ => a' = { tmps := #[.int .i64 most, .slice sp l.length cap, .pointer (some ⟨Oc, 0, none⟩), .pointer (some ⟨Oc + 1, 0, none⟩), .pointer (some ⟨Oc + 1 + 1, 0, none⟩), .pointer (some ⟨Oc + 1 + 1 + 1, 0, none⟩), .pointer (some ⟨Oc + 1 + 1 + 1 + 1, 0, none⟩), .int .i64 (gN l k), .slice (some ⟨b, off + posG l k, none⟩) (gE l k) (gE l k), undef, undef, .slice sp l.length cap, .func (.func 87) #[] #[.pointer (some ⟨Oc + 1 + 1 + 1 + 1 + 1, 0, none⟩)], .int .i64 (gN l k), .slice (some ⟨b, off + posG l k, none⟩) (gE l k) (gE l k), undef, undef, undef, undef, undef, undef, undef, undef, undef, undef, undef, undef, undef, undef, undef, undef, undef, undef, undef, undef, undef, undef, undef, undef, undef, undef, undef, undef], defers := [] })
    (fun _ _ _ _ h _ => h) ?hit ?assign ?body ?done ?stop
  case hit =>
    intro J' Jx' W1 h1 h2 h3 h4 h5 h6 h7 h8
    rw [HH.out.2.1] at h1 h2 h3 h4 h5 h6 h7 ⊢
    exact groups_in _ (Oc + 1 + 1 + 1 + 1 + 1) l sp b off cap _ J' Jx' W1 ((h2.cell (p := ⟨Oc + 1 + 1 + 1 + 1 + 1, 0, none⟩) (show Oc + 1 + 1 + 1 + 1 + 1 < Oc + 6 by omega)).trans HH.out.2.2.2.1) hcap hlen HB.out
      (fun k W' hJ => by obtain ⟨⟨hc, -⟩, -⟩ := h3 k W' hJ; exact HL.out.below hc.below HLB.out) h7 h5 h8
  case assign =>
    intro k W K hi hk hK
    gi_wp2
    exact hK _ _ rfl (Ch.refl _ _) hi (fun _ h => h)
  case body =>
    rintro k a' W ⟨h2, h3, h4⟩ hk rfl hz
    rw [HH.out.2.1] at hz
    obtain ⟨hp1, hpl, hp2, -, -, -⟩ := g_round HB.out hk
    have hgn := gN_le HB.out hk
    obtain ⟨zs, hzs, hzl, -⟩ := g_told hk
    obtain ⟨hw1, hw2⟩ := prG_words l k
    have hE1 := prG_parse l k
    have hT8 := prG_told l k hk
    have hchk := prG_chk l k hk
    have hEb : ∀ x ∈ encG (prG l k), x < 4294967296 := by rw [← hw1]; exact fun x hx => HB.out x (List.mem_of_mem_drop (List.mem_of_mem_take hx))
    have hTb := told_lt _ hEb
    obtain ⟨tl, htl⟩ : ∃ tl, (toldK l k).length = tl := ⟨_, rfl⟩
    have htl2 : (toldK l (k + 1)).length = tl + gN l k := by rw [hzs, List.length_append, htl, hzl]
    rw [htl] at h2 h3
    have hEl : 0 < (encG (prG l k)).length := by
      have h := posG_succ l k _ (List.getElem?_eq_getElem hk)
      have h1 := List.length_pos_iff.2 (enc_ne ((parse l).1[k]))
      have h2 : posG l (k - 1) ≤ posG l k := by
        have h3 := prG_take l (k - 1)
        cases k with
        | zero => exact Nat.le_refl _
        | succ j =>
          have h4 := posG_succ l j _ (List.getElem?_eq_getElem (show j < (parse l).1.length by omega))
          show posG l j ≤ _
          omega
      omega
    obtain ⟨E, hE⟩ : ∃ E, encG (prG l k) = E := ⟨_, rfl⟩
    obtain ⟨T, hT⟩ : ∃ T, toldG (prG l k) = T := ⟨_, rfl⟩
    obtain ⟨el, hel⟩ : ∃ el, E.length = el := ⟨_, rfl⟩
    rw [hE] at hw1 hw2 hE1 hEb hEl hchk
    rw [hT] at hT8 hTb hchk
    rw [hel] at hw2 hEl
    obtain ⟨ah, hah⟩ : ∃ ah, posG l (k - 1) = ah := ⟨_, rfl⟩
    obtain ⟨aa, haa⟩ : ∃ aa, posG l k = aa := ⟨_, rfl⟩
    obtain ⟨en, hen⟩ : ∃ en, posG l (k + 1) = en := ⟨_, rfl⟩
    obtain ⟨nn, hnn⟩ : ∃ nn, gN l k = nn := ⟨_, rfl⟩
    obtain ⟨ss, hss⟩ : ∃ ss, gE l k = ss := ⟨_, rfl⟩
    rw [hah] at h2 hw1 hw2
    rw [haa] at h2 hp1 hpl
    rw [hen] at hp1 hp2 hw1 hw2
    rw [hss] at hp1
    rw [hnn] at hgn htl2
    rw [haa, hnn, hss]
    obtain ⟨mm, hmm⟩ : ∃ mm : Int, most - (tl : Int) = mm := ⟨_, rfl⟩
    rw [hmm] at h2
    obtain ⟨m2, hm2⟩ : ∃ m2 : Int, mm - (nn : Int) = m2 := ⟨_, rfl⟩
    obtain rfl := HL.out.1 (by omega)
    have hwm : IntKind.i64.wrap m2 = m2 := by have := HM.out; rw [IntKind.wrap_i64]; omega
    have i1 : (aa : Int) + (ss : Int) = (en : Int) := by omega
    have i2 : (en : Int) ≤ (cap : Int) := by omega
    have i3 : (ah : Int) ≤ (en : Int) := by omega
    have i4 : (0 : Int) ≤ (ah : Int) := by omega
    have i5 : ¬ en = ah := by omega
    have i6 : en - ah = el := by omega
    have i7 : (en : Int) ≤ 100000 := by omega
    have HW := Lib.hid (And.intro hw1 (And.intro hw2 (And.intro hE1 (And.intro hEb (And.intro hTb (And.intro hT8 (And.intro hel hEl)))))))
    have HN := Lib.hid (And.intro htl (And.intro htl2 (And.intro hah (And.intro haa (And.intro hen (And.intro hmm (And.intro hE hT)))))))
    have HCH := Lib.hid (And.intro h3 (And.intro h4 hchk))
    have HV0 := Lib.hid h2
    have HV := Lib.hid (h2.setM m2)
    have c0 := h2.cm
    have f0 := h2.fm
    have c1 := h2.cl
    have c2 := h2.cr
    have f2 := h2.fr
    have c3 := h2.ch
    have f3 := h2.fh
    have c4 := h2.ca
    have f4 := h2.fa
    have hch1 : Ch (fun j => j < Oc + 5) W (W.setCell ⟨Oc, 0, none⟩ (.int .i64 m2)) := (Ch.refl _ _).setCell _ _ (.inl (show Oc < Oc + 5 by omega))
    have HC1 := Lib.hid hch1
    clear hw1 hw2 hE1 hEb hTb hT8 hel hEl htl htl2 hah haa hen hmm hE hT h2 h3 h4 hchk hpl hp1 hp2 hzs hzl hgn hch1 hnn hss
    by_cases hneg : m2 < 0
    · have d1 : decide (m2 < 0) = true := by simpa using hneg
      have HD := Lib.hid (And.intro hm2 hneg)
      clear hneg
      gi_wp2
      refine ⟨trivial, ?_⟩
      gi_wp2
      refine ⟨trivial, ?_⟩
      gi_wp2
      refine ⟨trivial, ?_⟩
      gi_wp2
      have hst := HV.out.stop
      exact ⟨step_FM (HC1.out.setCell _ _ (.inl (show Oc + 1 + 1 < Oc + 5 by omega))), rfl, hst.1, hst.2.1, hst.2.2, right_stop _ l k (.inl (by have h1 := HD.out; have h2 := HN.out; have h3 := HM.out; rw [h2.2.1]; omega))⟩
    · have d1 : decide (m2 < 0) = false := by simpa using hneg
      have HD := Lib.hid (And.intro hm2 hneg)
      clear hneg
      have hSE : ∀ (W' : World), Below Oc w W' → SL W' (some ⟨b, off + ah, none⟩) b (off + ah) E := by
        intro W' hb'
        have h1 := ((HL.out.below hb' HLB.out).drop ah).take (en - ah)
        rw [HW.out.1] at h1
        exact h1
      have HSE := Lib.hid hSE
      clear hSE
      have ht := told_any E _ b (off + ah) el _ (HSE.out _ HV.out.below) (Nat.le_of_eq HW.out.2.2.2.2.2.2.1) (by have := HW.out; omega) HW.out.2.2.2.1
      rw [HW.out.2.2.1, HN.out.2.2.2.2.2.2.2, HW.out.2.2.2.2.2.2.1] at ht
      have HT := Lib.hid ht
      clear ht
      obtain ⟨P, hP⟩ : ∃ P, packS T = P := ⟨_, rfl⟩
      have hPl : P.length ≤ 100000 := by have h1 := (small_any T).1; rw [hP] at h1; have := HW.out; omega
      have hpa : ∀ (sp3 : Option Addr) (g3 cap3 : Nat) (w3 : World), SL w3 sp3 g3 0 T → T.length ≤ cap3 → cap3 ≤ maxLen → Calls Try.prog 41 #[.slice sp3 T.length cap3] w3 fun e w' => ∃ v, e = .returned v ∧ w'.ownsRow w3.heap.size 27 1 v P.length (rowW P) ∧ Below w3.heap.size w3 w' := by
        intro sp3 g3 cap3 w3 h1 h2 h3
        rw [← hP]
        exact pack_any T sp3 g3 0 cap3 w3 h1 h2 (by have := HW.out; omega) h3 HW.out.2.2.2.2.1
      have HPA := Lib.hid hpa
      obtain ⟨D, hD⟩ : ∃ D, decide (P = E) = D := ⟨_, rfl⟩
      have hq : ∀ (W' : World) (sp4 : Option Addr) (g4 cap4 : Nat), SL W' sp4 g4 0 P → Below Oc w W' → Calls Try.prog 40 #[.slice sp4 P.length cap4, .slice (some ⟨b, off + ah, none⟩) el el] W' fun e w' => e = .returned (.bool D) ∧ ∃ n, w' = W'.drewN n := by
        intro W' sp4 g4 cap4 h1 h2
        have h3 := equal_any P E sp4 (some ⟨b, off + ah, none⟩) g4 0 b (off + ah) cap4 el W' h1 (HSE.out W' h2) (by omega) (by have := HW.out; omega)
        rw [hD, HW.out.2.2.2.2.2.2.1] at h3
        exact h3
      have HQ := Lib.hid hq
      have HPD := Lib.hid (And.intro hP hD)
      clear hpa hq hP hPl hD
      cases D with
      | true =>
        gi_wp2_with (first
          | (refine ⟨trivial, rfl, ?_⟩; gi_at_call 62; refine (CallsIn.inRound _ (callsIn_wide.2 HT.out)).mono ?_; rintro e w3 ⟨v3, rfl, ho3, hb3⟩; obtain ⟨sp3, g3, cap3, rfl, hs3, hc3, hx3, hg3⟩ := own_SL2 ho3; have HB3 := Lib.hid hb3; have HK4 := Lib.hid (HPA.out sp3 g3 cap3 w3 hs3 hc3 hx3); clear ho3 hb3 hs3 hc3 hx3 hg3)
          | (refine ⟨trivial, rfl, ?_⟩; gi_at_call 41; refine (CallsIn.inRound _ (callsIn_wide.2 HK4.out)).mono ?_; rintro e w4 ⟨v4, rfl, ho4, hb4⟩; obtain ⟨sp4, g4, cap4, rfl, hs4, hc4, hx4, hg4⟩ := own_SL2 ho4; have HB4 := Lib.hid hb4; have HK5 := Lib.hid (HQ.out w4 sp4 g4 cap4 hs4 (((HV.out.new HB3.out).new HB4.out).below)); clear ho4 hb4 hs4 hc4 hx4 hg4)
          | (refine ⟨trivial, rfl, ?_⟩; gi_at_call 40; refine (CallsIn.inRound _ (callsIn_wide.2 HK5.out)).mono ?_; rintro e w5 ⟨rfl, n5, rfl⟩; have HV5 := Lib.hid (((HV.out.new HB3.out).new HB4.out).keep ((Ch.refl (fun _ => False) w4).drewN n5) (fun _ _ h => h)); have HC5 := Lib.hid (((HC1.out.trans (Ch.new HB3.out)).trans (Ch.new HB4.out)).drewN n5); have e1 := HV5.out.cm; have e2 := HV5.out.cl; have e3 := HV5.out.cr; have e4 := HV5.out.fr; have e5 := HV5.out.ch; have e6 := HV5.out.fh; have e7 := HV5.out.ca; have e8 := HV5.out.fa)
          | fail)
        have hS1 := Lib.hid ((HV5.out.setH aa).setA en)
        refine ⟨step_FM ((HC5.out.setCell _ _ (.inl (show Oc + 1 + 1 + 1 < Oc + 5 by omega))).setCell _ _ (.inl (show Oc + 1 + 1 + 1 + 1 < Oc + 5 by omega))), ?_, ?_, ?_⟩
        · rw [HN.out.2.1, Nat.add_sub_cancel, HN.out.2.2.2.1, HN.out.2.2.2.2.1]
          have e9 : most - ((tl + nn : Nat) : Int) = m2 := by have := HD.out.1; have := HN.out.2.2.2.2.2.1; omega
          rw [e9]
          exact hS1.out
        · have h1 := HN.out
          rw [h1.2.1]
          have h2 := HD.out
          omega
        · exact HCH.out.2.2.2 ⟨HCH.out.2.1, HPD.out.1.trans (of_decide_eq_true HPD.out.2)⟩
      | false =>
        gi_wp2_with (first
          | (refine ⟨trivial, rfl, ?_⟩; gi_at_call 62; refine (CallsIn.inRound _ (callsIn_wide.2 HT.out)).mono ?_; rintro e w3 ⟨v3, rfl, ho3, hb3⟩; obtain ⟨sp3, g3, cap3, rfl, hs3, hc3, hx3, hg3⟩ := own_SL2 ho3; have HB3 := Lib.hid hb3; have HK4 := Lib.hid (HPA.out sp3 g3 cap3 w3 hs3 hc3 hx3); clear ho3 hb3 hs3 hc3 hx3 hg3)
          | (refine ⟨trivial, rfl, ?_⟩; gi_at_call 41; refine (CallsIn.inRound _ (callsIn_wide.2 HK4.out)).mono ?_; rintro e w4 ⟨v4, rfl, ho4, hb4⟩; obtain ⟨sp4, g4, cap4, rfl, hs4, hc4, hx4, hg4⟩ := own_SL2 ho4; have HB4 := Lib.hid hb4; have HK5 := Lib.hid (HQ.out w4 sp4 g4 cap4 hs4 (((HV.out.new HB3.out).new HB4.out).below)); clear ho4 hb4 hs4 hc4 hx4 hg4)
          | (refine ⟨trivial, rfl, ?_⟩; gi_at_call 40; refine (CallsIn.inRound _ (callsIn_wide.2 HK5.out)).mono ?_; rintro e w5 ⟨rfl, n5, rfl⟩; have HV5 := Lib.hid (((HV.out.new HB3.out).new HB4.out).keep ((Ch.refl (fun _ => False) w4).drewN n5) (fun _ _ h => h)); have HC5 := Lib.hid (((HC1.out.trans (Ch.new HB3.out)).trans (Ch.new HB4.out)).drewN n5); have e1 := HV5.out.cm; have e2 := HV5.out.cl; have e3 := HV5.out.cr; have e4 := HV5.out.fr; have e5 := HV5.out.ch; have e6 := HV5.out.fh; have e7 := HV5.out.ca; have e8 := HV5.out.fa)
          | fail)
        have hst := HV5.out.stop
        exact ⟨step_FM (HC5.out.setCell _ _ (.inl (show Oc + 1 + 1 < Oc + 5 by omega))), rfl, hst.1, hst.2.1, hst.2.2, right_stop _ l k (.inr fun hc => of_decide_eq_false HPD.out.2 (HPD.out.1.symm.trans (HCH.out.2.2.1 hc).2))⟩
  case done =>
    rintro W ⟨h2, h3, h4⟩ hD hnD hz
    rw [HH.out.2.1] at hD hnD hz
    rw [toldK_all] at h3
    rw [List.take_length] at h4
    have hre := right_end most.toNat l (by have := HM.out; omega) h4
    obtain ⟨pN, hpN⟩ : ∃ pN, posG l (parse l).1.length = pN := ⟨_, rfl⟩
    rw [hpN] at h2 hre
    obtain ⟨B, hB⟩ : ∃ B, rightB most.toNat l = B := ⟨_, rfl⟩
    have heq : ((pN : Int) == (l.length : Int)) = B := by
      rw [← hB, hre, Bool.eq_iff_iff, decide_eq_true_iff]; simp; omega
    have HRB := Lib.hid hB
    have HV := Lib.hid h2
    have c1 := h2.cl
    have c2 := h2.cr
    have f2 := h2.fr
    have c4 := h2.ca
    have hcs : Ch (fun j => j = Oc + 1 + 1) W (W.setCell ⟨Oc + 1 + 1, 0, none⟩ (.bool B)) := (Ch.refl _ _).setCell _ _ (.inl rfl)
    have HK := Lib.hid (And.intro hD hcs)
    clear h2 h3 h4 hre hpN hB hD hnD hcs
    gi_wp2
    rw [HH.out.2.1, HRB.out, ← HH.out.1]
    have hp : Ch (fun j => j = Oc + 6) (W.setCell ⟨Oc + 1 + 1, 0, none⟩ (.bool B)) ((W.setCell ⟨Oc + 1 + 1, 0, none⟩ (.bool B)).putObj (Oc + 6) (.deferred none)) := (Ch.refl _ _).putObj _ _ rfl
    have hD6 : (W.setCell ⟨Oc + 1 + 1, 0, none⟩ (.bool B)).heap[Oc + 6]? = some (.deferred (some [])) := HK.out.2.obj HK.out.1 (by omega)
    have hr := hp.cell (World.cell?_setCell_same W ⟨Oc + 1 + 1, 0, none⟩ (.bool B) c2) (show ¬ Oc + 1 + 1 = Oc + 6 by omega)
    refine ⟨by simp, .inl ⟨_, _, rfl, run_takeDeferred hD6, ?_⟩⟩
    refine ⟨.bool B, ?_, rfl, ?_⟩
    · simp [results, Try.results61, go_sem, hr]
    · have hz2 := HV.out.lt
      have hz3 := HK.out.2.size
      exact (HV.out.below.trans (HK.out.2.below (fun j hj e => by omega) (by omega))).trans (hp.below (fun j hj e => by omega) (by omega))
  case stop =>
    rintro c k W hk ⟨rfl, h2, h3, h4, h5⟩ hD hnD hz
    rw [HH.out.2.1] at hD hnD hz
    have HRB := Lib.hid h5
    have HK := Lib.hid (And.intro hD h2)
    clear h2 hD hnD h5
    gi_wp2
    rw [HH.out.2.1, HRB.out, ← HH.out.1]
    have hp : Ch (fun j => j = Oc + 6) W (W.putObj (Oc + 6) (.deferred none)) := (Ch.refl _ _).putObj _ _ rfl
    have hr := hp.cell h3 (show ¬ Oc + 1 + 1 = Oc + 6 by omega)
    refine ⟨by simp, .inl ⟨_, _, rfl, run_takeDeferred HK.out.1, ?_⟩⟩
    refine ⟨.bool false, ?_, rfl, ?_⟩
    · simp [results, Try.results61, go_sem, hr]
    · exact HK.out.2.trans (hp.below (fun j hj e => by omega) (by omega))
end Go.Proofs.Ytkbmgilceioieaa
