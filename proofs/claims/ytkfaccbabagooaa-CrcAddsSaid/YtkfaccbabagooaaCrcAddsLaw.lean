/- CrcAdds returns true for every three slices of words: the sums of three texts of one length, added without carry, are the sum of the three added so. No condition. -/
import Derived.Test.YtkfaccbabagooaaOpen
namespace Go.Proofs.Ytkfaccbabagooaa.CrcAdds
open Go.ChangeShapes Go.WideShapes Go.ChangeAt Go.RowKit
set_option linter.unusedVariables false

set_option maxRecDepth 100000 in
theorem lifted (os : Os) (started : os.Started) (H : Type) (enc : TypeId × Value → H) :
    ReturnsInHanded {} Try.checked os 5 .any (Rows.crcAddsSpec.pre6 enc Try.prog Try.f5 Rows.crcAddsRow.domain false) (Rows.crcAddsSpec.post enc Try.prog Try.f5 false true false false) := by
  refine returnsInHanded_of_change (C := Try.checked) own started (by kernel_rfl) Try.func5
    (ChangeSpec.witness6 (enc := enc) (C := Try.checked) false ⟨#[], #[.slice none 0 0, .slice none 0 0, .slice none 0 0], []⟩ 8 (by kernel_rfl) (by kernel_rfl) (by kernel_rfl) (by kernel_rfl)) ?_
  intro W base args ds gs before hval0 hW hcnd _
  have hval : ∀ (j : Nat) t v, Try.f5.params[j]? = some t → args[j]? = some v → Value.okWide Try.prog W .any base t v := hval0
  have hW' := hW
  obtain ⟨p, q, hA0, hV, rfl, hfz, hnd⟩ := hW
  have hA : DataW.TrodAll enc Try.prog W 0 (fun _ => true) true Try.f5.params.toList args.toList ds p := hA0
  rw [Try.params5] at hA hval
  obtain ⟨v0, vs0, d0, ds0, p0, q0, hargs, rfl, rfl, h0, r0⟩ := trodAll_cons hA
  obtain ⟨v1, vs1, d1, ds1, p1, q1, rfl, rfl, rfl, h1, r1⟩ := trodAll_cons r0
  obtain ⟨v2, vs2, d2, ds2, p2, q2, rfl, rfl, rfl, h2, r2⟩ := trodAll_cons r1
  obtain ⟨rfl, rfl, rfl⟩ := trodAll_nil r2
  obtain rfl : args = #[v0, v1, v2] := by cases args; simp_all
  obtain ⟨rfl, rfl⟩ := trodVars_none hV
  obtain ⟨sp0, c0, b0, o0, l0, rfl, hl0, hs0, hz0, hc0⟩ := open_words (hval 0 23 v0 rfl rfl) h0
  obtain ⟨sp1, c1, b1, o1, l1, rfl, hl1, hs1, hz1, hc1⟩ := open_words (hval 1 23 v1 rfl rfl) h1
  obtain ⟨sp2, c2, b2, o2, l2, rfl, hl2, hs2, hz2, hc2⟩ := open_words (hval 2 23 v2 rfl rfl) h2
  clear hA0 hval0
  simp only [List.append_nil] at hW'
  have walk : Calls Try.prog 5 #[.slice sp0 l0.length c0, .slice sp1 l1.length c1, .slice sp2 l2.length c2] W fun e W' => e = .returned (.bool true) ∧ Below W.heap.size W W' := by
    have m0 := hl0.2; have m1 := hl1.2; have m2 := hl2.2
    unfold maxLen at m0 m1 m2
    by_cases hno : 500 < l0.length ∨ l1.length < l0.length ∨ l2.length < l0.length
    · exact law_addsN sp0 sp1 sp2 _ c0 _ c1 _ c2 W hno (by omega)
    · by_cases h0 : l0.length = 0
      · rw [h0]
        exact law_adds0 sp0 sp1 sp2 c0 _ c1 _ c2 W hl1.1 hl2.1 (by omega) (by omega) hz1 hz2
      · obtain ⟨rfl, hb0⟩ := hs0 (by omega)
        obtain ⟨rfl, hb1⟩ := hs1 (by omega)
        obtain ⟨rfl, hb2⟩ := hs2 (by omega)
        have e1 : (l1.take l0.length).length = l0.length := by simp; omega
        have e2 : (l2.take l0.length).length = l0.length := by simp; omega
        exact law_adds b0 o0 c0 b1 o1 l1.length c1 b2 o2 l2.length c2 l0 (l1.take l0.length) (l2.take l0.length) W e1 e2 (by omega) (by omega) (by omega) hl1.1 (by omega) hl2.1 (by omega) (by omega) hb0 hb1 hb2 hc0
          (fun k hk => by rw [e1] at hk; rw [hc1 k (by omega)]; simp [nthW, hk]) (fun k hk => by rw [e2] at hk; rw [hc2 k (by omega)]; simp [nthW, hk])
  refine walk.mono fun e W' ⟨he, hb⟩ => ?_
  subst he
  exact ⟨_, rfl, law_post laidOut (by rw [Try.params5]; kernel_rfl) (by kernel_rfl) rfl Try.underlying4 hW' hb rfl rfl rfl⟩

theorem over : Rows.crcAddsRow.holds Try.pinned (OpenSpec.ofChange Rows.crcAddsSpec) :=
  OpenClaim.holds_of_wide 5 Try.f5 rfl rfl rfl rfl rfl rfl rfl ⟨rfl, rfl, rfl, rfl, rfl⟩ rfl rfl rfl rfl rfl (by kernel_rfl) Try.func5 (by kernel_rfl)
    (of_decide_eq_true (by kernel_rfl)) (by unfold Func.isWrapper; first | (rw [if_pos (by decide +kernel)]; kernel_rfl) | (rw [if_neg (by decide +kernel)]; exact ⟨rfl, rfl⟩))
    (fun os started H enc _ => lifted os started H enc)

theorem proved : Rows.CrcAddsSaid :=
  over
#print axioms proved
end Go.Proofs.Ytkfaccbabagooaa.CrcAdds
