/- Several texts in one: BN, BO, Held. -/
import Derived.Test.YthpagbfabpfngaaPk19
import Derived.Test.YthpagbfabpfngaaPk11
import Derived.BigQuiet
import Derived.Deep.QuietTactic
import Derived.WalkKit
import Derived.ProofKit
/- The contract of bank's Image. -/
namespace Go.Proofs.Ythpagbfabpfngaa
open Go.RowKit
attribute [local go_sem] Oper.semAt_some

/-- The words of an image. -/
def rowD (d : Dev) (base n : Nat) : List (BitVec 32) := (List.range n).map (dataW d base)
def longN (d : Dev) (base : Nat) : Nat := (d.word (base + 1) 2).toNat
def imageR (d : Dev) (base many : Nat) : Option (List (BitVec 32)) :=
  if stOK d base many then (if d.on then (if crcW (rowD d base (longN d base)) = d.word (base + 1) 4 then some (rowD d base (longN d base)) else none) else none) else none
def ImageV (r : Option (List (BitVec 32))) (w w' : World) (e : Ending) : Prop :=
  match r with
  | none => e = .returned (.tuple #[.slice none 0 0, .bool false]) ∧ Below w.heap.size w w'
  | some L => ∃ v, e = .returned (.tuple #[v, .bool true]) ∧ w'.ownsRow w.heap.size 26 1 v L.length (rowB L) ∧ Below w.heap.size w w'
theorem rowD_len (d : Dev) (base n : Nat) : (rowD d base n).length = n := by simp [rowD]
theorem rowD_nth (d : Dev) (base n k : Nat) (hk : k < n) : nthW (rowD d base n) k = dataW d base k := by simp [nthW, rowD, hk]
theorem rowD_succ (d : Dev) (base k : Nat) : rowB (rowD d base (k + 1)) = rowB (rowD d base k) ++ [.int .u32 (w32 (dataW d base k))] := by
  unfold rowD rowB
  rw [List.range_succ, List.map_append, List.map_append]
  rfl
theorem stOK_long {d : Dev} {base many : Nat} (h : stOK d base many = true) : longN d base ≤ roomN d many := by
  unfold stOK at h
  simp only [Bool.and_eq_true, decide_eq_true_eq] at h
  exact h.2.2
set_option maxHeartbeats 4000000 in
set_option maxRecDepth 100000 in
theorem image_bad {w : World} {B q S : Nat} {g : Nat → Nat} {d : Dev} {base many : Nat} {op : Bool} {P : List (BitVec 32)} (h : Bk w B q S g d base many op P) (hok : stOK d base many = false) :
    Calls Try.prog 13 #[.pointer (some ⟨B, 0, none⟩)] w fun e w' => e = .returned (.tuple #[.slice none 0 0, .bool false]) ∧ Below w.heap.size w w' := by
  have hst := state_any h
  unfold stV at hst
  rw [hok] at hst
  simp only [Bool.false_eq_true, if_false] at hst
  have HSt := Lib.hid hst
  clear hst h
  go_enter Try.func13, Try.ntmps13
  go_wp2_with (first
    | (go_at_call 16; refine HSt.out.mono ?_; rintro e w3 ⟨rfl, hb3⟩; have H3 := Lib.hid hb3; clear hb3)
    | fail)
  go_ret2
  exact ⟨rfl, H3.out.trans (((Below.refl w3.heap.size w3).alloc (Nat.le_refl _) _).mono H3.out.size)⟩
set_option maxHeartbeats 4000000 in
set_option maxRecDepth 100000 in
theorem image_off {w : World} {B q S : Nat} {g : Nat → Nat} {d : Dev} {base many : Nat} {op : Bool} {P : List (BitVec 32)} (h : Bk w B q S g d base many op P) (hok : stOK d base many = true) (hon : d.on = false) :
    Calls Try.prog 13 #[.pointer (some ⟨B, 0, none⟩)] w fun e w' => e = .returned (.tuple #[.slice none 0 0, .bool false]) ∧ Below w.heap.size w w' := by
  have hst := state_any h
  unfold stV at hst
  rw [hok] at hst
  simp only [if_true] at hst
  have HSt := Lib.hid hst
  have HA := Lib.hid (show ∀ w3, Below w.heap.size w w3 → Bk (w3.alloc (.cells #[.int .u32 (w32 (d.word (base + 1) 0)), .int .u32 (w32 (d.word (base + 1) 2)), .int .u32 (w32 (d.word (base + 1) 4)), .bool true, .bool (confH (d.word (base + 1))), .int .i64 (trC (d.word (base + 1)) 3 : Nat)] 47)) B q S g d base many op P ∧ Below w.heap.size w (w3.alloc (.cells #[.int .u32 (w32 (d.word (base + 1) 0)), .int .u32 (w32 (d.word (base + 1) 2)), .int .u32 (w32 (d.word (base + 1) 4)), .bool true, .bool (confH (d.word (base + 1))), .int .i64 (trC (d.word (base + 1)) 3 : Nat)] 47)) from fun w3 hb3 => by
    have hbA := hb3.trans (((Below.refl w3.heap.size w3).alloc (Nat.le_refl _) (.cells #[.int .u32 (w32 (d.word (base + 1) 0)), .int .u32 (w32 (d.word (base + 1) 2)), .int .u32 (w32 (d.word (base + 1) 4)), .bool true, .bool (confH (d.word (base + 1))), .int .i64 (trC (d.word (base + 1)) 3 : Nat)] 47)).mono hb3.size)
    exact ⟨h.new hbA, hbA⟩)
  have HOn := Lib.hid (show ∀ wx, Bk wx B q S g d base many op P → Calls Try.prog 46 #[.pointer (some ⟨q, 0, none⟩)] wx fun e w' => e = .returned (.bool false) ∧ wx = w' from fun wx hx => by have := on_any hx.dev; rwa [hon] at this)
  have HC := Lib.hid (show ∀ wx, Bk wx B q S g d base many op P → wx.cell? ⟨B, 0, none⟩ = some (.pointer (some ⟨q, 0, none⟩)) from fun wx hx => hx.c0)
  clear hst h
  go_enter Try.func13, Try.ntmps13
  go_wp2_with (first
    | (go_at_call 16; refine HSt.out.mono ?_; rintro e w3 ⟨rfl, hb3⟩; have H3 := Lib.hid hb3; have c3 := HC.out _ (HA.out w3 hb3).1; clear hb3)
    | (go_at_call 46; refine (HOn.out _ (HA.out w3 H3.out).1).mono ?_; rintro e w4 ⟨rfl, rfl⟩)
    | fail)
  go_ret2
  exact ⟨rfl, (HA.out w3 H3.out).2⟩
set_option maxHeartbeats 4000000 in
set_option maxRecDepth 100000 in
theorem image_go {w : World} {B q S : Nat} {g : Nat → Nat} {d : Dev} {base many : Nat} {op : Bool} {P : List (BitVec 32)} (h : Bk w B q S g d base many op P) (hok : stOK d base many = true) (hon : d.on = true) (hrm : roomN d many ≤ 500) :
    Calls Try.prog 13 #[.pointer (some ⟨B, 0, none⟩)] w fun e w' => ImageV (if crcW (rowD d base (longN d base)) = d.word (base + 1) 4 then some (rowD d base (longN d base)) else none) w w' e := by
  have hst := state_any h
  unfold stV at hst
  rw [hok] at hst
  simp only [if_true] at hst
  have HSt := Lib.hid hst
  have HA := Lib.hid (show ∀ w3, Below w.heap.size w w3 → Bk (w3.alloc (.cells #[.int .u32 (w32 (d.word (base + 1) 0)), .int .u32 (w32 (d.word (base + 1) 2)), .int .u32 (w32 (d.word (base + 1) 4)), .bool true, .bool (confH (d.word (base + 1))), .int .i64 (trC (d.word (base + 1)) 3 : Nat)] 47)) B q S g d base many op P ∧ Below w.heap.size w (w3.alloc (.cells #[.int .u32 (w32 (d.word (base + 1) 0)), .int .u32 (w32 (d.word (base + 1) 2)), .int .u32 (w32 (d.word (base + 1) 4)), .bool true, .bool (confH (d.word (base + 1))), .int .i64 (trC (d.word (base + 1)) 3 : Nat)] 47)) from fun w3 hb3 => by
    have hbA := hb3.trans (((Below.refl w3.heap.size w3).alloc (Nat.le_refl _) (.cells #[.int .u32 (w32 (d.word (base + 1) 0)), .int .u32 (w32 (d.word (base + 1) 2)), .int .u32 (w32 (d.word (base + 1) 4)), .bool true, .bool (confH (d.word (base + 1))), .int .i64 (trC (d.word (base + 1)) 3 : Nat)] 47)).mono hb3.size)
    exact ⟨h.new hbA, hbA⟩)
  have HOn := Lib.hid (show ∀ wx, Bk wx B q S g d base many op P → Calls Try.prog 46 #[.pointer (some ⟨q, 0, none⟩)] wx fun e w' => e = .returned (.bool true) ∧ wx = w' from fun wx hx => by have := on_any hx.dev; rwa [hon] at this)
  have HC := Lib.hid (show ∀ wx, Bk wx B q S g d base many op P → wx.cell? ⟨B, 0, none⟩ = some (.pointer (some ⟨q, 0, none⟩)) from fun wx hx => hx.c0)
  obtain ⟨i0, hi, hz0, hz1, hz2⟩ := info_parts infoB
  have hnn : True := trivial
  have hN := stOK_long hok
  have hw2 : w32 (d.word (base + 1) 2) = (longN d base : Int) := rfl
  obtain ⟨N, hNN⟩ : ∃ N, longN d base = N := ⟨_, rfl⟩
  rw [hNN] at hN hw2 ⊢
  have cv : IntKind.i64.wrap (N : Int) = (N : Int) := by rw [IntKind.wrap_i64]; omega
  have HN := Lib.hid (And.intro hN (And.intro hon hrm))
  obtain ⟨r0, hr0⟩ : ∃ r, w32 (d.word (base + 1) 0) = r := ⟨_, rfl⟩
  obtain ⟨chk, hchk⟩ : ∃ r, d.word (base + 1) 4 = r := ⟨_, rfl⟩
  obtain ⟨cf, hcf⟩ : ∃ r, confH (d.word (base + 1)) = r := ⟨_, rfl⟩
  obtain ⟨tr, htr⟩ : ∃ r, trC (d.word (base + 1)) 3 = r := ⟨_, rfl⟩
  rw [hr0, hw2, hchk, hcf, htr] at HSt
  simp only [hr0, hw2, hchk, hcf, htr] at HA
  rw [hchk]
  clear hst h hr0 hchk hcf htr hw2 hNN hok hN hon hrm
  refine (callsIn_wide (n := 0)).1 ?_
  refine callsIn_of_wp_marks Try.func13 rfl trivial ?_ rfl
  simp only [Try.ntmps13, List.size_toArray, List.length_cons, List.length_nil, Nat.reduceAdd, Nat.reduceSub, Array.replicate_succ, Array.replicate_zero, List.push_toArray, List.append_toArray, List.nil_append, List.cons_append]
  gi_wp2_with (first
    | (refine ⟨trivial, rfl, ?_⟩; gi_at_call 16; refine (callsIn_wide.2 HSt.out).mono ?_; rintro e w3 ⟨rfl, hb3⟩; have H3 := Lib.hid hb3; have c3 := HC.out _ (HA.out w3 hb3).1; clear hb3)
    | (refine ⟨trivial, rfl, ?_⟩; gi_at_call 46; refine (callsIn_wide.2 (HOn.out _ (HA.out w3 H3.out).1)).mono ?_; rintro e w4 ⟨rfl, rfl⟩)
    | (refine ⟨trivial, rfl, ?_⟩; gi_at_call 47; refine (callsIn_wide.2 (wordsB_any _ _ _)).mono ?_; rintro e w' ⟨rfl, rfl⟩)
    | fail)
  obtain ⟨z, hz⟩ : ∃ z, z = w3.heap.size := ⟨_, rfl⟩
  obtain ⟨w2, hw2⟩ : ∃ w2, w2 = ((((w3.alloc (.cells #[.int .u32 r0, .int .u32 (N : Nat), .int .u32 (w32 chk), .bool true, .bool cf, .int .i64 (tr : Nat)] 47)).alloc (.cells #[.slice none 0 0] 24)).alloc (.cells #[.pointer (some ⟨B, 0, none⟩)] 35)).alloc (.cells #[.int .i64 (N : Nat)] 3)) := ⟨_, rfl⟩
  have hA := HA.out w3 H3.out
  obtain ⟨wa, hwa⟩ : ∃ wa, w3.alloc (.cells #[.int .u32 r0, .int .u32 (N : Nat), .int .u32 (w32 chk), .bool true, .bool cf, .int .i64 (tr : Nat)] 47) = wa := ⟨_, rfl⟩
  have xr : RowAt wa z 47 #[.int .u32 r0, .int .u32 (N : Nat), .int .u32 (w32 chk), .bool true, .bool cf, .int .i64 (tr : Nat)] := by rw [← hwa, hz]; exact RowAt.mk w3 _ _
  have za : wa.heap.size = z + 1 := by rw [← hwa, hz]; simp
  rw [hwa] at hA hw2
  have b2 : Below wa.heap.size wa w2 := by rw [hw2]; exact (((Below.refl _ _).alloc (Nat.le_refl _) _).alloc (by simp) _).alloc (by simp; omega) _
  have x1 : BoxAt w2 (z + 1) [.slice none 0 0] := by rw [hw2, ← za]; exact ((BoxAt.mk_new wa _ _).alloc _).alloc _
  have x2 : BoxAt w2 (z + 1 + 1) [.pointer (some ⟨B, 0, none⟩)] := by rw [hw2, ← za, ← World.size_alloc wa (.cells #[.slice none 0 0] 24)]; exact (BoxAt.mk_new _ _ _).alloc _
  have x3 : BoxAt w2 (z + 1 + 1 + 1) [.int .i64 (N : Nat)] := by rw [hw2, ← za, ← World.size_alloc wa (.cells #[.slice none 0 0] 24), ← World.size_alloc _ (.cells #[.pointer (some ⟨B, 0, none⟩)] 35)]; exact BoxAt.mk_new _ _ _
  have z2 : w2.heap.size = z + 4 := by rw [hw2]; simp [za]
  have H2 := Lib.hid (And.intro (hA.1.new b2) (And.intro (hA.2.trans (b2.mono hA.2.size)) (And.intro (xr.new b2) (And.intro x2 (And.intro x3 (And.intro z2 hA.2.size))))))
  have hlo := Lib.hid hA.1.lt
  have hzw : w.heap.size ≤ z := by have := H3.out.size; omega
  have HI0 := Lib.hid (show IC2 26 1 (fun k => rowB (rowD d base k)) w2 (z + 1) 0 w2 from ⟨Ch.refl _ _, _, x1.cell 0 _ rfl, x1.fr 0, World.ownsRow_nil _ _ _ _⟩)
  have HS := Lib.hid (show z + 1 < w2.heap.size by omega)
  have HZA := Lib.hid za
  rw [← hz]
  rw [hwa, ← hw2]
  clear HA hw2 hwa hz xr za b2 x1 x2 x3 z2 hA c3
  refine wpIn_rangeF (gf := 83) (lb := #[.pointer (some ⟨z + 1 + 1 + 1, 0, none⟩), .pointer (some ⟨z + 1 + 1, 0, none⟩)]) rfl (enters_of Try.func83 (by kernel_rfl) rfl)
    N (fun k => #[.int .u32 (w32 (dataW d base k))]) (fun _ => rfl) (FC2 w2 (z + 1)) (fun k A => IC2 26 1 (fun k => rowB (rowD d base k)) w2 (z + 1) k A) (fun _ _ _ => False)
    (fun k => IC2.foot HS.out k) (fun _ _ => ⟨fun _ h => h.elim, fun _ _ h => h.elim⟩) HI0.out
    (fun k a' _ => ∃ t1 t2 t3 t4 t7 t8 t9 t10 t11 t12 t13 t14 t15 t16 t17 t18 t19 t20 t21 t22 t23 t24 t27 t28 t29 t30 t31 t32 t33 t34 t35 t36 t37 : Value, a' = { tmps := #[.pointer (some ⟨B, 0, none⟩), t1, t2, t3, t4, .pointer (some ⟨z + 1, 0, none⟩), .int .u32 (w32 (dataW d base k)), t7, t8, t9, t10, t11, t12, t13, t14, t15, t16, t17, t18, t19, t20, t21, t22, t23, t24, .func (.func 83) #[] #[.pointer (some ⟨z + 1 + 1 + 1, 0, none⟩), .pointer (some ⟨z + 1 + 1, 0, none⟩)], .int .u32 (w32 (dataW d base k)), t27, t28, t29, t30, t31, t32, t33, t34, t35, t36, t37], defers := [] })
    (fun _ _ _ _ h _ => h) ?hit ?assign ?body ?done (fun _ _ _ _ h => h.elim)
  case hit =>
    intro J' Jx' W1 h1' h2 h3 h4 h5 h6 h7 h8
    refine words_in _ (z + 1 + 1 + 1) (z + 1 + 1) B q S g d base many N op P _ J' Jx' W1 HN.out.1 HN.out.2.1 (fun k W' hk => ?_) h7 h5 h8
    have c := (h3 k W' hk).1.1
    exact ⟨c.cell (H2.out.2.2.2.2.1.cell 0 _ rfl) (by show ¬ z + 1 + 1 + 1 = z + 1; omega), c.cell (H2.out.2.2.2.1.cell 0 _ rfl) (by show ¬ z + 1 + 1 = z + 1; omega), H2.out.1.keep c (fun j hj e => by have := hlo.out j hj; have := HZA.out; omega)⟩
  case assign =>
    intro k W K hi' hk hK
    gi_wp2
    exact hK _ _ ⟨_, _, _, _, _, _, _, _, _, _, _, _, _, _, _, _, _, _, _, _, _, _, _, _, _, _, _, _, _, _, _, _, _, rfl⟩ (Ch.refl _ _) hi' (fun _ h => h)
  case body =>
    rintro k a' A ⟨h2, v, h3, h4, h5⟩ hk ⟨t1, t2, t3, t4, t7, t8, t9, t10, t11, t12, t13, t14, t15, t16, t17, t18, t19, t20, t21, t22, t23, t24, t27, t28, t29, t30, t31, t32, t33, t34, t35, t36, t37, rfl⟩ hzz
    obtain ⟨sp, cap, rfl⟩ := own_val h5
    obtain ⟨x, hx⟩ : ∃ x, dataW d base k = x := ⟨_, rfl⟩
    have hrow : rowB (rowD d base (k + 1)) = rowB (rowD d base k) ++ [.int .u32 (w32 x)] := by rw [rowD_succ, hx]
    obtain ⟨Zb, hZb⟩ : ∃ Zb, w2.heap.size = Zb := ⟨_, rfl⟩
    have H5 := Lib.hid h5
    have H1 := Lib.hid (And.intro h2 hZb)
    have HR := Lib.hid hrow
    rw [hZb] at H5
    have hkN : k < 4096 := by have := HN.out; omega
    have hzA : Zb ≤ A.heap.size := by rw [← hZb]; exact h2.size
    rw [hx]
    clear h2 h5 hx hrow hZb
    gi_wp2_with (gi_at_builtin; refine wpListIn_append_at _ rfl _ _ 24 rfl Zb 26 i0 (.int .u32 0) 1 4 Try.underlying24 hi hz0 hz1 hz2 rfl (by decide) _ _ _ rfl (H5.out.alloc _) ⟨A.heap.size, 0, none⟩ 1 1 [.int .u32 (w32 x)] rfl rfl (cell_one_new _ _ _) (by simp [Value.oneCell']) (by unfold maxLen; omega) (by omega) (by simp; omega) ?_; intro v' w1 hown' hgrow hat; obtain ⟨sp', cap', rfl⟩ := own_val hown'; have HG := Lib.hid (IC2.grow (rf := fun k => rowB (rowD d base k)) HS.out H1.out.1 h3 h4 (by rw [H1.out.2]; exact H5.out) (by rw [H1.out.2, HR.out]; exact hown') hgrow hat); have g1 : w1.cell? ⟨z + 1, 0, none⟩ = some (.slice sp k cap) := (grow_cell2 HS.out h3 h4 (by rw [H1.out.2]; exact H5.out) hgrow).1; have g2 : w1.frozen? ⟨z + 1, 0, none⟩ = false := (grow_cell2 HS.out h3 h4 (by rw [H1.out.2]; exact H5.out) hgrow).2; clear hown' hgrow hat h3 h4)
    exact HG.out
  case done =>
    rintro A ⟨h2, v, h3, h4, h5⟩ hD hnD hzz
    obtain ⟨sp, cap, rfl⟩ := own_val h5
    dsimp only at h5
    have p8 : A.cell? ⟨z, 2, none⟩ = some (.int .u32 (w32 chk)) := h2.cell (H2.out.2.2.1.cell 2) (by show ¬ z = z + 1; omega)
    obtain ⟨Zb, hZb⟩ : ∃ Zb, w2.heap.size = Zb := ⟨_, rfl⟩
    rw [hZb] at h5 hD hnD hzz
    have hzA : Zb + 2 ≤ A.heap.size := hzz
    have hne : ∀ g, (Value.slice sp N cap).ownBlock = some g → g ≠ Zb := fun g hg e => by subst e; exact hnD (.inr ⟨_, h3, hg⟩)
    have HK := Lib.hid (And.intro h2 (And.intro h5 (And.intro hD (And.intro (And.intro h3 p8) hne))))
    have HZb := Lib.hid (And.intro hZb (show w.heap.size ≤ Zb ∧ z + 4 = Zb from ⟨by have := H2.out.2.2.2.2.2.1; omega, by have := H2.out.2.2.2.2.2.1; omega⟩))
    have HT := Lib.hid (show ∀ w4, Below A.heap.size A w4 → Below w.heap.size w w4 ∧ w4.ownsRow Zb 26 1 (.slice sp N cap) N (rowB (rowD d base N)) ∧ w4.heap[Zb]? = some (.deferred (some [])) from fun w4 hb4 => by
      refine ⟨(H2.out.2.1.trans (HK.out.1.below (fun j hj e => by have := HZb.out; omega) (by have := HZb.out; omega))).trans (hb4.mono (by have := HK.out.1.size; have := HZb.out; omega)), own_same HK.out.2.1 fun g hg => hb4.block g (HK.out.2.1.lt g hg).2, ?_⟩
      rw [hb4.block Zb (by omega)]
      exact HK.out.2.2.1)
    have HS8 := Lib.hid (show ∀ W', Below A.heap.size A W' → W'.cell? ⟨z + 1, 0, none⟩ = some (.slice sp N cap) ∧ W'.cell? ⟨z, 2, none⟩ = some (.int .u32 (w32 chk)) from fun W' hb => ⟨(hb.cell (p := ⟨z + 1, 0, none⟩) (show z + 1 < A.heap.size by have := HZb.out; omega)).trans HK.out.2.2.2.1.1, (hb.cell (p := ⟨z, 2, none⟩) (show z < A.heap.size by have := HZb.out; omega)).trans HK.out.2.2.2.1.2⟩)
    have HWd := Lib.hid (show ∀ W', Below A.heap.size A W' → Calls Try.prog 48 #[.slice sp N cap] W' fun e w' => e = .returned (.int .u32 (w32 (crcW (rowD d base N)))) ∧ Below W'.heap.size W' w' from by
      intro W' hb
      have hN5 : N ≤ 500 := by have := HN.out; omega
      rcases Nat.eq_zero_or_pos N with h0 | h0
      · have := kwords_any 0 0 cap sp (rowD d base N) W' (by rw [rowD_len]; exact hN5) (by rw [rowD_len]; omega) (by rw [rowD_len]; intro k hk; omega)
        rw [rowD_len] at this
        exact this
      · obtain ⟨b, cap', e', -⟩ := own_some HK.out.2.1 h0
        injection e' with e1 e2 e3
        subst e1
        have hbl := (HK.out.2.1.lt b rfl).2
        have := kwords_any b 0 cap (some ⟨b, 0, none⟩) (rowD d base N) W' (by rw [rowD_len]; exact hN5) (fun _ => ⟨rfl, Nat.lt_of_lt_of_le hbl hb.size⟩) (by
          rw [rowD_len]
          intro k hk
          have hc := HK.out.2.1.cellAt k (by omega)
          rw [Nat.zero_add, (hb.cell (p := ⟨b, k, none⟩) hbl), rowD_nth _ _ _ _ hk]
          rw [hc]
          simp [rowB, rowD, hk])
        rw [rowD_len] at this
        exact this)
    clear h2 h5 hD hnD hzz p8 hne hZb
    by_cases hq : crcW (rowD d base N) = chk
    · rw [hq] at HWd
      gi_wp2
      refine wpIn_wide.2 (wp_nOnly ?_)
      refine wp_region_held_drew (S := fun w' => w'.cell? ⟨z + 1, 0, none⟩ = some (.slice sp N cap) ∧ w'.cell? ⟨z, 2, none⟩ = some (.int .u32 (w32 chk))) (by kernel_rfl) (HS8.out _ ((Below.refl _ _).drew)) (fun hS => ?_)
      refine wpAnyH_take (i := 0) (oi := { dst := some 31, op := .load 24 (.tmp 5), type := 24, pos := "bank.go:95", after := #[], guard := none }) (v := ?_) rfl (by kernel_rfl) (by kernel_rfl) (by kernel_rfl) (fun _ _ _ h => h) (Or.inl ⟨by rfl, ?_⟩) hS ?_
      rotate_left 1
      · intro w hw; obtain ⟨s0, s1⟩ := hw; go_simp; try (with_reducible rfl)
      simp only [Act.put, List.setIfInBounds_toArray, List.set_cons_zero, List.set_cons_succ]
      refine wpAnyH_take (i := 2) (oi := { dst := some 33, op := .fieldAddr 47 (.tmp 4) 0, type := 0, pos := "bank.go:95", after := #[], guard := none }) (v := ?_) rfl (by kernel_rfl) (by kernel_rfl) (by kernel_rfl) (fun _ _ _ h => h) (Or.inl ⟨by rfl, ?_⟩) hS ?_
      rotate_left 1
      · intro w hw; obtain ⟨s0, s1⟩ := hw; go_simp; try (with_reducible rfl)
      simp only [Act.put, List.setIfInBounds_toArray, List.set_cons_zero, List.set_cons_succ]
      refine wpAnyH_take (i := 3) (oi := { dst := some 34, op := .fieldAddr 45 (.tmp 33) 2, type := 0, pos := "bank.go:95", after := #[{ on := 2, ground := .data }], guard := none }) (v := ?_) rfl (by kernel_rfl) (by kernel_rfl) (by kernel_rfl) (fun _ _ _ h => h) (Or.inl ⟨by rfl, ?_⟩) hS ?_
      rotate_left 1
      · intro w hw; obtain ⟨s0, s1⟩ := hw; go_simp; try (with_reducible rfl)
      simp only [Act.put, List.setIfInBounds_toArray, List.set_cons_zero, List.set_cons_succ]
      refine wpAnyH_take (i := 4) (oi := { dst := some 35, op := .load 26 (.tmp 34), type := 26, pos := "bank.go:95", after := #[{ on := 3, ground := .data }], guard := none }) (v := ?_) rfl (by kernel_rfl) (by kernel_rfl) (by kernel_rfl) (fun _ _ _ h => h) (Or.inl ⟨by rfl, ?_⟩) hS ?_
      rotate_left 1
      · intro w hw; obtain ⟨s0, s1⟩ := hw; go_simp; try (with_reducible rfl)
      simp only [Act.put, List.setIfInBounds_toArray, List.set_cons_zero, List.set_cons_succ]
      refine wpAnyH_ready (rs := [1]) (by kernel_rfl) (by simp) (AllReadyH.cons (o := { dst := some 32, op := .call { callee := .value (.func 48), args := #[.tmp 31], argTypes := #[24] }, type := 26, pos := "bank.go:95", after := #[{ on := 0, ground := .data }], guard := none }) rfl (fun K hK => ?_) AllReadyH.nil)
      go_simp
      go_at_call 48
      refine (HWd.out _ ((Below.refl _ _).drew)).mono ?_
      rintro e w4 ⟨rfl, b4⟩
      have bA := (Below.refl A.heap.size A).drew.trans b4
      have H4 := Lib.hid (HT.out w4 bA)
      have s4 := HS8.out w4 bA
      clear b4 bA
      try dsimp only
      refine hK.out _ _ s4 (fun hHeld => ?_)
      clear hK K
      try simp only [Act.put, List.setIfInBounds_toArray, List.set_cons_zero, List.set_cons_succ]
      refine wpAnyH_take (i := 5) (oi := { dst := some 36, op := .binOp .neq 26 (.tmp 32) (.tmp 35) 26, type := 4, pos := "bank.go:95", after := #[{ on := 1, ground := .data }, { on := 4, ground := .data }], guard := none }) (v := ?_) rfl (by kernel_rfl) (by kernel_rfl) (by kernel_rfl) (fun _ _ _ h => h) (Or.inl ⟨by rfl, ?_⟩) s4 ?_
      rotate_left 1
      · intro w hw; obtain ⟨s0, s1⟩ := hw; go_simp; try (with_reducible rfl)
      simp only [Act.put, List.setIfInBounds_toArray, List.set_cons_zero, List.set_cons_succ]
      refine wpAnyH_done (by kernel_rfl) ?_ _

      refine nOnly_normal ?_
      gi_wp2
      try rw [HZb.out.1]
      have hp : Ch (fun j => j = Zb) w4 (w4.putObj Zb (.deferred none)) := (Ch.refl _ _).putObj _ _ rfl
      refine ⟨by simp, .inl ⟨_, _, rfl, run_takeDeferred H4.out.2.2, ?_⟩⟩
      refine ⟨.tuple #[.slice sp N cap, .bool true], by simp [results, Try.results13, go_sem], ?_⟩
      try rw [if_pos hq]
      refine ⟨.slice sp N cap, rfl, ?_, ?_⟩
      · show ((w4.putObj Zb (.deferred none)).ownsRow w.heap.size 26 1 (.slice sp N cap) (rowD d base N).length (rowB (rowD d base N)))
        rw [rowD_len]
        exact own_mono (own_same H4.out.2.1 fun g hg => hp.block g (H4.out.2.1.lt g hg).2 (HK.out.2.2.2.2 g hg)) (by have := HZb.out; omega)
      · exact H4.out.1.trans (hp.below (fun j hj e => by have := HZb.out; omega) (by have := H4.out.1.size; omega))
    · have hne : ¬ w32 (crcW (rowD d base N)) = w32 chk := fun e => hq (w32_inj.1 e)
      gi_wp2
      refine wpIn_wide.2 (wp_nOnly ?_)
      refine wp_region_held_drew (S := fun w' => w'.cell? ⟨z + 1, 0, none⟩ = some (.slice sp N cap) ∧ w'.cell? ⟨z, 2, none⟩ = some (.int .u32 (w32 chk))) (by kernel_rfl) (HS8.out _ ((Below.refl _ _).drew)) (fun hS => ?_)
      refine wpAnyH_take (i := 0) (oi := { dst := some 31, op := .load 24 (.tmp 5), type := 24, pos := "bank.go:95", after := #[], guard := none }) (v := ?_) rfl (by kernel_rfl) (by kernel_rfl) (by kernel_rfl) (fun _ _ _ h => h) (Or.inl ⟨by rfl, ?_⟩) hS ?_
      rotate_left 1
      · intro w hw; obtain ⟨s0, s1⟩ := hw; go_simp; try (with_reducible rfl)
      simp only [Act.put, List.setIfInBounds_toArray, List.set_cons_zero, List.set_cons_succ]
      refine wpAnyH_take (i := 2) (oi := { dst := some 33, op := .fieldAddr 47 (.tmp 4) 0, type := 0, pos := "bank.go:95", after := #[], guard := none }) (v := ?_) rfl (by kernel_rfl) (by kernel_rfl) (by kernel_rfl) (fun _ _ _ h => h) (Or.inl ⟨by rfl, ?_⟩) hS ?_
      rotate_left 1
      · intro w hw; obtain ⟨s0, s1⟩ := hw; go_simp; try (with_reducible rfl)
      simp only [Act.put, List.setIfInBounds_toArray, List.set_cons_zero, List.set_cons_succ]
      refine wpAnyH_take (i := 3) (oi := { dst := some 34, op := .fieldAddr 45 (.tmp 33) 2, type := 0, pos := "bank.go:95", after := #[{ on := 2, ground := .data }], guard := none }) (v := ?_) rfl (by kernel_rfl) (by kernel_rfl) (by kernel_rfl) (fun _ _ _ h => h) (Or.inl ⟨by rfl, ?_⟩) hS ?_
      rotate_left 1
      · intro w hw; obtain ⟨s0, s1⟩ := hw; go_simp; try (with_reducible rfl)
      simp only [Act.put, List.setIfInBounds_toArray, List.set_cons_zero, List.set_cons_succ]
      refine wpAnyH_take (i := 4) (oi := { dst := some 35, op := .load 26 (.tmp 34), type := 26, pos := "bank.go:95", after := #[{ on := 3, ground := .data }], guard := none }) (v := ?_) rfl (by kernel_rfl) (by kernel_rfl) (by kernel_rfl) (fun _ _ _ h => h) (Or.inl ⟨by rfl, ?_⟩) hS ?_
      rotate_left 1
      · intro w hw; obtain ⟨s0, s1⟩ := hw; go_simp; try (with_reducible rfl)
      simp only [Act.put, List.setIfInBounds_toArray, List.set_cons_zero, List.set_cons_succ]
      refine wpAnyH_ready (rs := [1]) (by kernel_rfl) (by simp) (AllReadyH.cons (o := { dst := some 32, op := .call { callee := .value (.func 48), args := #[.tmp 31], argTypes := #[24] }, type := 26, pos := "bank.go:95", after := #[{ on := 0, ground := .data }], guard := none }) rfl (fun K hK => ?_) AllReadyH.nil)
      go_simp
      go_at_call 48
      refine (HWd.out _ ((Below.refl _ _).drew)).mono ?_
      rintro e w4 ⟨rfl, b4⟩
      have bA := (Below.refl A.heap.size A).drew.trans b4
      have H4 := Lib.hid (HT.out w4 bA)
      have s4 := HS8.out w4 bA
      clear b4 bA
      try dsimp only
      refine hK.out _ _ s4 (fun hHeld => ?_)
      clear hK K
      try simp only [Act.put, List.setIfInBounds_toArray, List.set_cons_zero, List.set_cons_succ]
      refine wpAnyH_take (i := 5) (oi := { dst := some 36, op := .binOp .neq 26 (.tmp 32) (.tmp 35) 26, type := 4, pos := "bank.go:95", after := #[{ on := 1, ground := .data }, { on := 4, ground := .data }], guard := none }) (v := ?_) rfl (by kernel_rfl) (by kernel_rfl) (by kernel_rfl) (fun _ _ _ h => h) (Or.inl ⟨by rfl, ?_⟩) s4 ?_
      rotate_left 1
      · intro w hw; obtain ⟨s0, s1⟩ := hw; go_simp; try (with_reducible rfl)
      simp only [Act.put, List.setIfInBounds_toArray, List.set_cons_zero, List.set_cons_succ]
      refine wpAnyH_done (by kernel_rfl) ?_ _

      refine nOnly_normal ?_
      gi_wp2
      try rw [HZb.out.1]
      have hp : Ch (fun j => j = Zb) w4 (w4.putObj Zb (.deferred none)) := (Ch.refl _ _).putObj _ _ rfl
      refine ⟨by simp, .inl ⟨_, _, rfl, run_takeDeferred H4.out.2.2, ?_⟩⟩
      refine ⟨.tuple #[.slice none 0 0, .bool false], by simp [results, Try.results13, go_sem], ?_⟩
      try rw [if_neg hq]
      exact ⟨rfl, H4.out.1.trans (hp.below (fun j hj e => by have := HZb.out; omega) (by have := H4.out.1.size; omega))⟩
theorem image_any {w : World} {B q S : Nat} {g : Nat → Nat} {d : Dev} {base many : Nat} {op : Bool} {P : List (BitVec 32)} (h : Bk w B q S g d base many op P) (hrm : roomN d many ≤ 500) :
    Calls Try.prog 13 #[.pointer (some ⟨B, 0, none⟩)] w fun e w' => ImageV (imageR d base many) w w' e := by
  unfold imageR
  cases hok : stOK d base many with
  | false => exact image_bad h hok
  | true =>
    cases hon : d.on with
    | false => exact image_off h hok hon
    | true => exact image_go h hok hon hrm
end Go.Proofs.Ythpagbfabpfngaa
/- The contract of bank's New. -/
namespace Go.Proofs.Ythpagbfabpfngaa
open Go.RowKit

theorem bnew_nil (base many : Int) (w : World) : Calls Try.prog 10 #[.pointer none, .int .i64 base, .int .i64 many] w fun e w' => e = .returned (.tuple #[.pointer none, .int .i64 64]) ∧ w = w' := by
  go_enter Try.func10, Try.ntmps10
  go_wp2
  go_ret2
  exact ⟨rfl, rfl⟩
set_option maxHeartbeats 4000000 in
theorem bnew_bad {w : World} {q S : Nat} {g : Nat → Nat} {d : Dev} (h : DevAt w q S g d) (base many : Int) (hb : -9223372036854775808 ≤ base ∧ base ≤ 9223372036854775807) (hm : -9223372036854775808 ≤ many ∧ many ≤ 9223372036854775807) (hno : ¬ (3 ≤ many ∧ many ≤ 64 ∧ 13 ≤ d.nw ∧ 0 ≤ base ∧ base ≤ (d.ns : Int) - many)) :
    Calls Try.prog 10 #[.pointer (some ⟨q, 0, none⟩), .int .i64 base, .int .i64 many] w fun e w' => e = .returned (.tuple #[.pointer none, .int .i64 64]) ∧ w = w' := by
  have HW := Lib.hid (words_any h)
  have HS := Lib.hid (sectors_any h)
  have hz := h.zn
  obtain ⟨nw, hnw⟩ : ∃ nw, d.nw = nw := ⟨_, rfl⟩
  obtain ⟨ns, hns⟩ : ∃ ns, d.ns = ns := ⟨_, rfl⟩
  rw [hnw] at HW hz hno
  rw [hns] at HS hz hno
  clear h hnw hns
  by_cases m1 : many < 3
  · go_enter Try.func10, Try.ntmps10
    go_wp2
    go_ret2
    exact ⟨rfl, rfl⟩
  · have m1' : (3 : Int) ≤ many := by omega
    by_cases m2 : 64 < many
    · go_enter Try.func10, Try.ntmps10
      go_wp2
      go_ret2
      exact ⟨rfl, rfl⟩
    · have m2' : many ≤ 64 := by omega
      by_cases m3 : (nw : Int) < 13
      · go_enter Try.func10, Try.ntmps10
        go_wp2_with (first
          | (go_at_call 41; refine HW.out.mono ?_; rintro e w2 ⟨rfl, rfl⟩)
          | fail)
        go_ret2
        exact ⟨rfl, rfl⟩
      · by_cases m4 : base < 0
        · go_enter Try.func10, Try.ntmps10
          go_wp2_with (first
            | (go_at_call 41; refine HW.out.mono ?_; rintro e w2 ⟨rfl, rfl⟩)
            | fail)
          go_ret2
          exact ⟨rfl, rfl⟩
        · have m5 : (ns : Int) - many < base := by omega
          have ew : IntKind.i64.wrap ((ns : Int) - many) = (ns : Int) - many := by rw [IntKind.wrap_i64]; omega
          go_enter Try.func10, Try.ntmps10
          go_wp2_with (first
            | (go_at_call 41; refine HW.out.mono ?_; rintro e w2 ⟨rfl, rfl⟩)
            | (go_at_call 42; refine HS.out.mono ?_; rintro e w2 ⟨rfl, rfl⟩)
            | fail)
          go_ret2
          exact ⟨rfl, rfl⟩
set_option maxHeartbeats 4000000 in
theorem bnew_ok {w : World} {q S : Nat} {g : Nat → Nat} {d : Dev} (h : DevAt w q S g d) (base many : Nat) (ho : base + many ≤ d.ns ∧ 3 ≤ many ∧ 13 ≤ d.nw) :
    Calls Try.prog 10 #[.pointer (some ⟨q, 0, none⟩), .int .i64 base, .int .i64 many] w fun e w' => e = .returned (.tuple #[.pointer (some ⟨w.heap.size, 0, none⟩), .int .i64 0]) ∧ Bk w' w.heap.size q S g d base many false [] ∧ Below w.heap.size w w' := by
  have HW := Lib.hid (words_any h)
  have HS := Lib.hid (sectors_any h)
  have hz := h.zn
  have HB := Lib.hid (show Bk (w.alloc (.cells #[.pointer (some ⟨q, 0, none⟩), .int .i64 base, .int .i64 many, .bool false, .int .i64 0, .int .u32 0, .int .i64 0] 99)) w.heap.size q S g d base many false [] ∧ Below w.heap.size w (w.alloc (.cells #[.pointer (some ⟨q, 0, none⟩), .int .i64 base, .int .i64 many, .bool false, .int .i64 0, .int .u32 0, .int .i64 0] 99)) from by
    have hb : Below w.heap.size w (w.alloc (.cells #[.pointer (some ⟨q, 0, none⟩), .int .i64 base, .int .i64 many, .bool false, .int .i64 0, .int .u32 0, .int .i64 0] 99)) := (Below.refl _ _).alloc (Nat.le_refl _) _
    exact ⟨⟨BoxAt.mk_new w _ _, h.keep (Ch.new hb : Ch (fun _ => False) _ _) (fun _ _ h => h), fun hj => Nat.lt_irrefl _ (h.own_lt _ hj), ho⟩, hb⟩)
  obtain ⟨nw, hnw⟩ : ∃ nw, d.nw = nw := ⟨_, rfl⟩
  obtain ⟨ns, hns⟩ : ∃ ns, d.ns = ns := ⟨_, rfl⟩
  rw [hnw] at HW hz ho
  rw [hns] at HS hz ho
  have m1 : ¬ (many : Int) < 3 := by omega
  have m2 : ¬ (64 : Int) < (many : Int) := by omega
  have m3 : ¬ (nw : Int) < 13 := by omega
  have m5 : ¬ (ns : Int) - (many : Int) < (base : Int) := by omega
  have n1 : ¬ many < 3 := by omega
  have n2 : ¬ 64 < many := by omega
  have n3 : ¬ nw < 13 := by omega
  have ew : IntKind.i64.wrap ((ns : Int) - (many : Int)) = (ns : Int) - many := by rw [IntKind.wrap_i64]; omega
  clear h hnw hns hz
  go_enter Try.func10, Try.ntmps10
  go_wp2_with (first
    | (go_at_call 41; refine HW.out.mono ?_; rintro e w2 ⟨rfl, rfl⟩)
    | (go_at_call 42; refine HS.out.mono ?_; rintro e w2 ⟨rfl, rfl⟩)
    | fail)
  go_ret2
  exact ⟨rfl, HB.out⟩
end Go.Proofs.Ythpagbfabpfngaa
/- Plain lemmas of this prover's own: a region that draws its order, walked once in the order of its text, over a class of worlds that each operation keeps. No statement about the program. -/
namespace Go.Proofs.Ythpagbfabpfngaa
open Go.RowKit

/-- May these operations, which stand from place k on, be taken in the order of the text? -/
def lexGo (md : Region.Mode) (ops : Array Oper) : Nat → List Oper → Bool
  | _, [] => true
  | k, o :: r => (o.after.toList.all fun e => !Region.binds md e || Nat.blt e.on k) && r.all (fun oj => (oj.after.toList.any fun e => Region.binds md e && Nat.beq e.on k) || o.apart ops oj) && lexGo md ops (k + 1) r

theorem lexFrom_of_go {md : Region.Mode} {ops : Array Oper} : ∀ (l : List Oper) (k : Nat) (listed : Array Bool), (∀ j, l[j]? = ops[k + j]?) → listed.size = ops.size →
    (∀ j, j < ops.size → listed.getD j true = decide (j < k)) → lexGo md ops k l = true → Region.lexFrom md ops l.length k listed = true
  | [], k, listed, hl, _, hd, _ => by
    have hk : ops.size ≤ k := by
      have := hl 0
      simp at this
      exact this
    unfold Region.lexFrom Region.ready
    simp only [List.isEmpty_iff, List.length_nil, List.filter_eq_nil_iff, List.mem_range]
    intro j hj
    rw [hd j hj, show decide (j < k) = true by simp; omega]
    simp
  | o :: r, k, listed, hl, hs, hd, h => by
    have h0 : ops[k]? = some o := by simpa using (hl 0).symm
    have hk : k < ops.size := (Array.getElem?_eq_some_iff.1 h0).1
    unfold lexGo at h
    simp only [Bool.and_eq_true] at h
    obtain ⟨⟨h1, h2⟩, h3⟩ := h
    simp only [List.length_cons, Region.lexFrom, Bool.and_eq_true]
    refine ⟨⟨?_, ?_⟩, ?_⟩
    · unfold Region.ready
      rw [List.contains_iff_mem, List.mem_filter]
      refine ⟨List.mem_range.2 hk, ?_⟩
      rw [hd k hk, h0]
      simp only [Nat.lt_irrefl, decide_false, Bool.not_false, Bool.true_and, Option.map_some, Option.getD_some]
      rw [← Array.all_toList, List.all_eq_true]
      intro e he
      have := List.all_eq_true.1 h1 e he
      simp only [Bool.or_eq_true] at this ⊢
      rcases this with h | h
      · exact .inl h
      · have hlt : e.on < k := by simpa using h
        have := hd e.on (by omega)
        right
        rw [show decide (e.on < k) = true by simpa using hlt] at this
        have hlt2 : e.on < listed.size := by omega
        simpa [Array.getD, hlt2] using this
    · unfold Region.free
      rw [h0]
      simp only [List.all_eq_true, List.mem_range]
      intro j hj
      rw [hd j hj]
      rcases Nat.lt_trichotomy j k with hjk | rfl | hjk
      · simp [hjk]
      · simp
      · have hj2 : r[j - k - 1]? = ops[j]? := by
          have := hl (j - k - 1 + 1)
          rw [List.getElem?_cons_succ] at this
          rw [this]; congr 1; omega
        cases hoj : ops[j]? with
        | none => simp
        | some oj =>
          rw [hoj] at hj2
          have hm : oj ∈ r := List.mem_of_getElem? hj2
          have := List.all_eq_true.1 h2 oj hm
          simp only [Bool.or_eq_true] at this ⊢
          right
          rcases this with h | h
          · left
            rw [List.any_eq_true] at h
            obtain ⟨e, he, hb⟩ := h
            rw [Array.any_eq_true']
            refine ⟨e, by simpa using he, ?_⟩
            simp only [Bool.and_eq_true] at hb ⊢
            exact ⟨hb.1, by simpa using hb.2⟩
          · exact .inr h
    · refine lexFrom_of_go r (k + 1) _ (fun j => ?_) (by simpa using hs) (fun j hj => ?_) h3
      · have := hl (j + 1)
        rw [List.getElem?_cons_succ] at this
        rw [this]; congr 1; omega
      · have hjs : j < listed.size := by omega
        have := hd j hj
        by_cases e : j = k
        · subst e; simp [Array.getD, hjs]
        · have hlt : (j < k + 1) ↔ (j < k) := by omega
          rw [show decide (j < k + 1) = decide (j < k) by simp [hlt], ← this]
          have e' : ¬ k = j := fun h => e h.symm
          simp [Array.getD, hjs, e']

theorem lexB_of_go {md : Region.Mode} {l : List Oper} (hn : Region.noSelect l.toArray = true) (h : lexGo md l.toArray 0 l = true) : Region.lexB md l.toArray = true := by
  unfold Region.lexB
  rw [hn, Bool.true_and]
  exact lexFrom_of_go l 0 _ (fun j => by simp) (by simp) (fun j hj => by simp at hj; simp [Array.getD, hj]) h

section
variable {P : Program} {C : World → Prop}
theorem wp_region_class {id : Nat} {Q : Exit → Act → World → Prop} {a : Act} {w : World} {l : List Oper} (hm : P.follows .mixedOrders = true) (hn : Region.noSelect l.toArray = true) (hB : lexGo .any l.toArray 0 l = true) (hC : C w.drew)
    (h : wpQuiet P l.toArray C (fun a' => ∀ w', C w' → Q .normal a' w') l a) : (Code.region id l.toArray true).wp P Q a w :=
  wp_region_quiet (C := C) hm (lexB_of_go hn hB) hC (by simpa using h)
theorem quiet_run {o : Oper} {a : Act} {K : Act → Prop} {v : Value} (h : ∀ w, C w → (execOp a.eval o).run P w = .ok (.value v) w) (hk : K (a.put o.dst v)) : o.quiet P a C K :=
  ⟨v, fun w hw => by unfold Oper.quietAt; rw [h w hw]; exact ⟨rfl, rfl⟩, hk⟩
theorem quiet_enter {o : Oper} {a : Act} {K : Act → Prop} {v : Value} {f : FuncId} {args : Array Value} (h : ∀ w, (execOp a.eval o).run P w = .ok (.enter f args) w)
    (hc : ∀ w, C w → Calls P f args w fun e w'' => e = .returned v ∧ C w'') (hk : K (a.put o.dst v)) : o.quiet P a C K :=
  ⟨v, fun w hw => by unfold Oper.quietAt; rw [h w]; exact ⟨rfl, hc w hw⟩, hk⟩
end
end Go.Proofs.Ythpagbfabpfngaa
