/- The walk of CrcAdds where the first slice is empty, or where it returns at once. -/
import Derived.Test.YtkfaccbabagooaaAdds
namespace Go.Proofs.Ytkfaccbabagooaa
open Go.RowKit

theorem run_append_zero {P : Program} (w : World) (t ty e : TypeId) (i : TypeInfo) (ht : P.underlying t = some (.slice e)) (hi : P.info? e = some i)
    (ad : Option Addr) (c : Nat) (sp : Option Addr) (cx : Nat) :
    (Builtin.append_ #[t, t] ty #[.slice ad 0 c, .slice sp 0 cx]).run P w = .ok (.slice ad 0 c) w := by
  cases ad <;> cases sp <;> simp [Builtin.append_, run_underlying ht, sizeOf, typeInfo, hi, Builtin.lenOf, Builtin.firstCells, loadCells, loadCellsFrom, storeCells]

theorem wpList_append_zero {P : Program} {ops : Array Oper} {rest : List Oper} {o : Oper} {a : Act} {w : World} {Q : Exit → Act → World → Prop} (hgd : o.guard = none) (s x : Operand) (t : TypeId)
    (ho : o.op = .call { callee := .builtin .append, args := #[s, x], argTypes := #[t, t] })
    (e : TypeId) (i : TypeInfo) (ht : P.underlying t = some (.slice e)) (hi : P.info? e = some i)
    (ad : Option Addr) (c : Nat) (hs : a.eval s = .slice ad 0 c) (sp : Option Addr) (cx : Nat) (hx : a.eval x = .slice sp 0 cx)
    (h : wpList P ops Q rest (a.put o.dst (.slice ad 0 c)) w) : wpList P ops Q (o :: rest) a w :=
  wpList_plain hgd fun K hK => by
    have hr := run_append_zero (P := P) w t o.type e i ht hi ad c sp cx
    unfold Oper.wp execOp
    simp only [ho, resolve, invoke, builtin, Sem.run_bind, Sem.run_pure, Result.andThen_ok, List.map_toArray, List.map_cons, List.map_nil, hs, hx, hr]
    exact hK _ _ h

theorem words_none (sp : Option Addr) (cap : Nat) (w : World) : Calls Try.prog 12 #[.slice sp 0 cap] w fun e w' => e = .returned (.int .u32 (w32 (crcW []))) ∧ Below w.heap.size w w' :=
  words_any 0 0 cap sp [] w (by decide) (fun h => absurd h (by decide)) (fun k hk => absurd hk (by simp))

theorem law_adds0 (ao bo co : Option Addr) (ca nb cb nc cc : Nat) (w : World) (hcb : nb ≤ cb) (hcc : nc ≤ cc) (hmb : cb ≤ 9223372036854775807) (hmc : cc ≤ 9223372036854775807) (hb0 : bo = none → nb = 0 ∧ cb = 0) (hc0 : co = none → nc = 0 ∧ cc = 0) :
    Calls Try.prog 5 #[.slice ao 0 ca, .slice bo nb cb, .slice co nc cc] w fun e w' => e = .returned (.bool true) ∧ Below w.heap.size w w' := by
  obtain ⟨i0, hi, hz0, hz1, hz2⟩ := info_parts info26
  obtain ⟨c0, hc0'⟩ : ∃ c, w32 (crcW []) = c := ⟨_, rfl⟩
  obtain ⟨z0, e1⟩ : ∃ z, bits .xor .u32 c0 c0 = z := ⟨_, rfl⟩
  have e2 : bits .xor .u32 z0 c0 = c0 := by
    rw [← e1, ← hc0', xor32, xor32, show crcW [] ^^^ crcW [] ^^^ crcW [] = crcW [] by decide]
  have h2 : ((nb : Int) < 0) = False := by simp
  have h3 : ((nc : Int) < 0) = False := by simp
  have h4 : ((0 : Int) ≤ (cb : Int)) := by omega
  have h5 : ((0 : Int) ≤ (cc : Int)) := by omega
  have HWL := fun wz => Lib.hid (alive_any wz)
  have HWN := fun sp cap wz => Lib.hid (words_none sp cap wz)
  rw [hc0'] at HWN
  clear hc0'
  have B0 : Below w.heap.size w w.drew := ⟨rfl, rfl, rfl, Nat.le_refl _, fun _ _ => rfl⟩
  cases bo with
  | none =>
    obtain ⟨rfl, rfl⟩ := hb0 rfl
    cases co with
    | none =>
      obtain ⟨rfl, rfl⟩ := hc0 rfl
      go_enter Try.func5, Try.ntmps5
      go_wp2
      go_region
      obtain ⟨w0, hw0⟩ : ∃ w0, w.drew = w0 := ⟨_, rfl⟩
      rw [hw0] at B0 ⊢
      have BA := Lib.hid (B0.trans ((Below.refl w0.heap.size w0).alloc (Nat.le_refl _) (.cells #[] 26) |>.mono B0.size))
      clear hw0 B0
      go_wp2_with (at_builtin; refine wpList_append_zero rfl (.tmp 40) (.tmp 41) 23 rfl 26 i0 Try.underlying23 hi _ 0 rfl ao ca rfl ?_)
      go_loopg [10] 0 (fun n i wr => n = 0 ∧ i = .int .i64 0 ∧ Aside (Below w.heap.size w wr))
      case atStart => exact ⟨rfl, rfl, BA.out⟩
      case round =>
        obtain ⟨rfl, rfl, HW⟩ := hrel
        go_wp2_with fail
        refine (HWN _ _ _).out.mono ?_
        rintro e w2 ⟨rfl, hb2⟩
        have q2 := Lib.hid (HW.out.trans (hb2.mono HW.out.size))
        clear hb2
        go_wp2_with fail
        refine (HWN _ _ _).out.mono ?_
        rintro e w3 ⟨rfl, hb3⟩
        have q3 := Lib.hid (q2.out.trans (hb3.mono q2.out.size))
        clear hb3
        go_wp2_with fail
        refine (HWN _ _ _).out.mono ?_
        rintro e w4 ⟨rfl, hb4⟩
        have q4 := Lib.hid (q3.out.trans (hb4.mono q3.out.size))
        clear hb4
        go_wp2_with fail
        refine (HWN _ _ _).out.mono ?_
        rintro e w5 ⟨rfl, hb5⟩
        have q5 := Lib.hid (q4.out.trans (hb5.mono q4.out.size))
        clear hb5
        go_wp2_with fail
        refine (HWL _).out.mono ?_
        rintro e w6 ⟨rfl, hb6⟩
        have q6 := Lib.hid (q5.out.trans (hb6.mono q5.out.size))
        clear hb6
        go_wp2
        go_ret
        exact ⟨rfl, q6.out⟩
    | some cd =>
      go_enter Try.func5, Try.ntmps5
      go_wp2
      go_region
      obtain ⟨w0, hw0⟩ : ∃ w0, w.drew = w0 := ⟨_, rfl⟩
      rw [hw0] at B0 ⊢
      have BA := Lib.hid (B0.trans ((Below.refl w0.heap.size w0).alloc (Nat.le_refl _) (.cells #[] 26) |>.mono B0.size))
      clear hw0 B0
      go_wp2_with (at_builtin; refine wpList_append_zero rfl (.tmp 40) (.tmp 41) 23 rfl 26 i0 Try.underlying23 hi _ 0 rfl ao ca rfl ?_)
      go_loopg [10] 0 (fun n i wr => n = 0 ∧ i = .int .i64 0 ∧ Aside (Below w.heap.size w wr))
      case atStart => exact ⟨rfl, rfl, BA.out⟩
      case round =>
        obtain ⟨rfl, rfl, HW⟩ := hrel
        go_wp2_with fail
        refine (HWN _ _ _).out.mono ?_
        rintro e w2 ⟨rfl, hb2⟩
        have q2 := Lib.hid (HW.out.trans (hb2.mono HW.out.size))
        clear hb2
        go_wp2_with fail
        refine (HWN _ _ _).out.mono ?_
        rintro e w3 ⟨rfl, hb3⟩
        have q3 := Lib.hid (q2.out.trans (hb3.mono q2.out.size))
        clear hb3
        go_wp2_with fail
        refine (HWN _ _ _).out.mono ?_
        rintro e w4 ⟨rfl, hb4⟩
        have q4 := Lib.hid (q3.out.trans (hb4.mono q3.out.size))
        clear hb4
        go_wp2_with fail
        refine (HWN _ _ _).out.mono ?_
        rintro e w5 ⟨rfl, hb5⟩
        have q5 := Lib.hid (q4.out.trans (hb5.mono q4.out.size))
        clear hb5
        go_wp2_with fail
        refine (HWL _).out.mono ?_
        rintro e w6 ⟨rfl, hb6⟩
        have q6 := Lib.hid (q5.out.trans (hb6.mono q5.out.size))
        clear hb6
        go_wp2
        go_ret
        exact ⟨rfl, q6.out⟩
  | some bd =>
    cases co with
    | none =>
      obtain ⟨rfl, rfl⟩ := hc0 rfl
      go_enter Try.func5, Try.ntmps5
      go_wp2
      go_region
      obtain ⟨w0, hw0⟩ : ∃ w0, w.drew = w0 := ⟨_, rfl⟩
      rw [hw0] at B0 ⊢
      have BA := Lib.hid (B0.trans ((Below.refl w0.heap.size w0).alloc (Nat.le_refl _) (.cells #[] 26) |>.mono B0.size))
      clear hw0 B0
      go_wp2_with (at_builtin; refine wpList_append_zero rfl (.tmp 40) (.tmp 41) 23 rfl 26 i0 Try.underlying23 hi _ 0 rfl ao ca rfl ?_)
      go_loopg [10] 0 (fun n i wr => n = 0 ∧ i = .int .i64 0 ∧ Aside (Below w.heap.size w wr))
      case atStart => exact ⟨rfl, rfl, BA.out⟩
      case round =>
        obtain ⟨rfl, rfl, HW⟩ := hrel
        go_wp2_with fail
        refine (HWN _ _ _).out.mono ?_
        rintro e w2 ⟨rfl, hb2⟩
        have q2 := Lib.hid (HW.out.trans (hb2.mono HW.out.size))
        clear hb2
        go_wp2_with fail
        refine (HWN _ _ _).out.mono ?_
        rintro e w3 ⟨rfl, hb3⟩
        have q3 := Lib.hid (q2.out.trans (hb3.mono q2.out.size))
        clear hb3
        go_wp2_with fail
        refine (HWN _ _ _).out.mono ?_
        rintro e w4 ⟨rfl, hb4⟩
        have q4 := Lib.hid (q3.out.trans (hb4.mono q3.out.size))
        clear hb4
        go_wp2_with fail
        refine (HWN _ _ _).out.mono ?_
        rintro e w5 ⟨rfl, hb5⟩
        have q5 := Lib.hid (q4.out.trans (hb5.mono q4.out.size))
        clear hb5
        go_wp2_with fail
        refine (HWL _).out.mono ?_
        rintro e w6 ⟨rfl, hb6⟩
        have q6 := Lib.hid (q5.out.trans (hb6.mono q5.out.size))
        clear hb6
        go_wp2
        go_ret
        exact ⟨rfl, q6.out⟩
    | some cd =>
      go_enter Try.func5, Try.ntmps5
      go_wp2
      go_region
      obtain ⟨w0, hw0⟩ : ∃ w0, w.drew = w0 := ⟨_, rfl⟩
      rw [hw0] at B0 ⊢
      have BA := Lib.hid (B0.trans ((Below.refl w0.heap.size w0).alloc (Nat.le_refl _) (.cells #[] 26) |>.mono B0.size))
      clear hw0 B0
      go_wp2_with (at_builtin; refine wpList_append_zero rfl (.tmp 40) (.tmp 41) 23 rfl 26 i0 Try.underlying23 hi _ 0 rfl ao ca rfl ?_)
      go_loopg [10] 0 (fun n i wr => n = 0 ∧ i = .int .i64 0 ∧ Aside (Below w.heap.size w wr))
      case atStart => exact ⟨rfl, rfl, BA.out⟩
      case round =>
        obtain ⟨rfl, rfl, HW⟩ := hrel
        go_wp2_with fail
        refine (HWN _ _ _).out.mono ?_
        rintro e w2 ⟨rfl, hb2⟩
        have q2 := Lib.hid (HW.out.trans (hb2.mono HW.out.size))
        clear hb2
        go_wp2_with fail
        refine (HWN _ _ _).out.mono ?_
        rintro e w3 ⟨rfl, hb3⟩
        have q3 := Lib.hid (q2.out.trans (hb3.mono q2.out.size))
        clear hb3
        go_wp2_with fail
        refine (HWN _ _ _).out.mono ?_
        rintro e w4 ⟨rfl, hb4⟩
        have q4 := Lib.hid (q3.out.trans (hb4.mono q3.out.size))
        clear hb4
        go_wp2_with fail
        refine (HWN _ _ _).out.mono ?_
        rintro e w5 ⟨rfl, hb5⟩
        have q5 := Lib.hid (q4.out.trans (hb5.mono q4.out.size))
        clear hb5
        go_wp2_with fail
        refine (HWL _).out.mono ?_
        rintro e w6 ⟨rfl, hb6⟩
        have q6 := Lib.hid (q5.out.trans (hb6.mono q5.out.size))
        clear hb6
        go_wp2
        go_ret
        exact ⟨rfl, q6.out⟩

theorem law_addsN (ao bo co : Option Addr) (na ca nb cb nc cc : Nat) (w : World) (h : 500 < na ∨ nb < na ∨ nc < na) (hm : na ≤ 9223372036854775807 ∧ nb ≤ 9223372036854775807 ∧ nc ≤ 9223372036854775807) :
    Calls Try.prog 5 #[.slice ao na ca, .slice bo nb cb, .slice co nc cc] w fun e w' => e = .returned (.bool true) ∧ Below w.heap.size w w' := by
  by_cases h1 : 500 < na
  · have h1' : ((500 : Int) < (na : Int)) := by omega
    go_enter Try.func5, Try.ntmps5
    go_wp2
    go_ret
    exact ⟨rfl, Below.refl _ _⟩
  · have h1' : ((500 : Int) < (na : Int)) = False := by simp; omega
    by_cases h2 : nb < na
    · have h2' : ((nb : Int) < (na : Int)) := by omega
      go_enter Try.func5, Try.ntmps5
      go_wp2
      go_ret
      exact ⟨rfl, Below.refl _ _⟩
    · have h2' : ((nb : Int) < (na : Int)) = False := by simp; omega
      have h3' : ((nc : Int) < (na : Int)) := by omega
      go_enter Try.func5, Try.ntmps5
      go_wp2
      go_ret
      exact ⟨rfl, Below.refl _ _⟩
end Go.Proofs.Ytkfaccbabagooaa
