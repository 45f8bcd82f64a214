/- The contract of law10's uses: a task's resources, and how long each is held. -/
import Derived.Test.YtandehdgpbflmaaJU
import Derived.Test.YtandehdgpbflmaaColl
import Derived.WalkSmall
namespace Go.Proofs.Ytandehdgpbflmaa
open Go.RowKit
attribute [local go_sem] Oper.semAt_some

theorem infoIntJ : (Try.prog.info? 3).map (fun i => (i.zero, i.size, i.bytes)) = some (some (.int .i64 0), 1, 8) := by kernel_rfl
section
variable {e : TypeId} {size : Nat} {rf : Nat → List Value}
/-- A round's append of any many: the row has grown, the variable names it. -/
theorem IC.grow2 {w0 A w1 : World} {Oc : Nat} {k k' : Nat} {v v' : Value} {ob : Obj} (h2 : Below Oc w0 A) (hs0 : Oc ≤ w0.heap.size) (h3 : A.cell? ⟨Oc, 0, none⟩ = some v) (h4 : A.frozen? ⟨Oc, 0, none⟩ = false)
    (h5 : A.ownsRow (Oc + 1) e size v k (rf k))
    (ho : w1.ownsRow (Oc + 1) e size v' k' (rf k')) (hg : (A.alloc ob).grownBy w1 v.ownBlock) (hat : v'.ownBlock = v.ownBlock ∨ v'.ownBlock = some (A.alloc ob).heap.size) :
    Step (FC Oc) A (w1.setCell ⟨Oc, 0, none⟩ v') ∧ IC e size rf w0 Oc k' (w1.setCell ⟨Oc, 0, none⟩ v') := by
  have hz := h2.size
  have hge : ∀ j, v.ownBlock = some j → Oc + 1 ≤ j := fun j hj => own_ge h5 j hj
  have hcr : Ch (fun j => v.ownBlock = some j) A w1 := (((Ch.refl (fun _ => False) A).alloc ob).mono (fun _ _ h => h.elim)).trans (ch_grown hg)
  have e3 : w1.cell? ⟨Oc, 0, none⟩ = some v := hcr.cell h3 fun hj => by have := hge _ hj; simp only at this; omega
  have e4 : w1.frozen? ⟨Oc, 0, none⟩ = false := (hcr.frozenCell h3 fun hj => by have := hge _ hj; simp only at this; omega).trans h4
  have e5 : (w1.setCell ⟨Oc, 0, none⟩ v').cell? ⟨Oc, 0, none⟩ = some v' := World.cell?_setCell_same _ _ _ e3
  have hcW : Ch (fun j => j = Oc ∨ v.ownBlock = some j) A (w1.setCell ⟨Oc, 0, none⟩ v') := (hcr.mono fun _ _ h => .inr h).setCell _ _ (.inl (.inl rfl))
  refine ⟨⟨hcW.mono fun j _ hj => ?_, fun j hj => ?_⟩, h2.trans (hcW.below (fun j hj hn => ?_) (by omega)), v', e5, ?_, ?_⟩
  · rcases hj with hj | hj
    · exact .inr (.inl hj)
    · exact .inr (.inr ⟨v, h3, hj⟩)
  · rcases hj with hj | hj | ⟨v'', hv, hj⟩
    · exact .inl (.inl hj)
    · exact .inl (.inr (.inl hj))
    · rw [e5] at hv; injection hv with hv; subst hv
      rcases hat with ha | ha
      · rw [ha] at hj; exact .inl (.inr (.inr ⟨v, h3, hj⟩))
      · rw [ha] at hj; injection hj with hj; subst hj
        right; simp
  · rcases hn with hn | hn
    · omega
    · have := hge _ hn; omega
  · rw [World.frozen?_setCell]; exact e4
  · exact own_same ho fun g hg' => Below.heap_setCell w1 ⟨Oc, 0, none⟩ v' g (by have := own_ge ho g hg'; show g ≠ Oc; omega)
end
/-- What a list of resources says: each one, and how long. -/
def useL (f : Nat → Int) : List Nat → List Int
  | [] => []
  | r :: l => (r : Int) :: f r :: useL f l
theorem useL_len (f : Nat → Int) : ∀ l, (useL f l).length = 2 * l.length
  | [] => rfl
  | r :: l => by simp only [useL, List.length_cons, useL_len f l]; omega
theorem useL_app (f : Nat → Int) : ∀ a b, useL f (a ++ b) = useL f a ++ useL f b
  | [], _ => rfl
  | r :: l, b => by simp only [useL, List.cons_append, useL_app f l b]
/-- What the law's uses goes through. -/
def uses8 (f : Nat → Int) : List Int := useL f (usesK f 8)
theorem uses8_len (f : Nat → Int) : (uses8 f).length = 2 * (usesK f 8).length := useL_len f _
theorem usesK_len (f : Nat → Int) (n : Nat) : (usesK f n).length ≤ n := by
  unfold usesK
  exact Nat.le_trans (List.length_filter_le _ _) (by simp)
theorem uses_step (f : Nat → Int) {k : Nat} (hk : k < (usesK f 8).length) : (uses8 f).take (2 * (k + 1)) = (uses8 f).take (2 * k) ++ [(((usesK f 8).getD k 0 : Nat) : Int), f ((usesK f 8).getD k 0)] := by
  have key : ∀ m, m ≤ (usesK f 8).length → (uses8 f).take (2 * m) = useL f ((usesK f 8).take m) := by
    intro m hm
    have h1 : uses8 f = useL f ((usesK f 8).take m) ++ useL f ((usesK f 8).drop m) := by
      rw [← useL_app, List.take_append_drop]; rfl
    have h2 : (useL f ((usesK f 8).take m)).length = 2 * m := by rw [useL_len, List.length_take, Nat.min_eq_left hm]
    rw [h1, ← h2, List.take_left]
  rw [key (k + 1) hk, key k (by omega), List.take_succ_eq_append_getElem hk, useL_app]
  have : (usesK f 8).getD k 0 = (usesK f 8)[k] := by simp [List.getD, hk]
  rw [this]
  rfl
theorem neqIn_seq2 (d gf : Nat) (lb : Array Value) (w : World) : (Op.equalIn (d + 1) 92 (.func (.func gf) #[] lb) .nilFunc).run Try.prog w = .ok false w := by
  simp [Op.equalIn, run_underlying Try.underlying92]
theorem neq_seq2 (gf : Nat) (lb : Array Value) (w : World) : (Go.binOp .neq 92 (.func (.func gf) #[] lb) .nilFunc).run Try.prog w = .ok (.bool true) w := by
  have h : (Op.equal 92 (.func (.func gf) #[] lb) .nilFunc).run Try.prog w = .ok false w := neqIn_seq2 9999 gf lb w
  simp [Go.binOp, h]
set_option maxHeartbeats 4000000 in
set_option maxRecDepth 100000 in
theorem luses_any (a0 a1 a2 : Int) (f : Nat → Int) (w : World) :
    Calls Try.prog 12 #[.agg #[.int .i64 a0, .int .i64 a1, .int .i64 a2, .int .i64 (f 0), .int .i64 (f 1), .int .i64 (f 2), .int .i64 (f 3), .int .i64 (f 4), .int .i64 (f 5), .int .i64 (f 6), .int .i64 (f 7)]] w fun e w' => ∃ sp cap, e = .returned (.slice sp (uses8 f).length cap) ∧ w'.ownsRow w.heap.size 3 1 (.slice sp (uses8 f).length cap) (uses8 f).length (rowI (uses8 f)) ∧ Below w.heap.size w w' := by
  refine (callsIn_wide (n := 0)).1 ?_
  obtain ⟨i0, hi, hz0, hz1, hz2⟩ := info_parts infoIntJ
  have hnn := neq_seq2
  obtain ⟨N, hN⟩ : ∃ N, N = (usesK f 8).length := ⟨_, rfl⟩
  have hN8 : N ≤ 8 := by rw [hN]; exact usesK_len f 8
  have HN := Lib.hid hN
  rw [uses8_len, ← hN]
  have HU := Lib.hid (fun wx => Uses_any #[.int .i64 a0, .int .i64 a1, .int .i64 a2, .int .i64 (f 0), .int .i64 (f 1), .int .i64 (f 2), .int .i64 (f 3), .int .i64 (f 4), .int .i64 (f 5), .int .i64 (f 6), .int .i64 (f 7)] wx)
  clear hN
  refine callsIn_of_wp_marks Try.func12 rfl trivial ?_ rfl
  simp only [Try.ntmps12, List.size_toArray, List.length_cons, List.length_nil, Nat.reduceAdd, Nat.reduceSub, Array.replicate_succ, Array.replicate_zero, List.push_toArray, List.append_toArray, List.nil_append, List.cons_append]
  gi_wp2_with (refine ⟨trivial, rfl, ?_⟩; gi_at_call 40; refine (callsIn_wide.2 (HU.out _)).mono ?_; rintro e w' ⟨rfl, rfl⟩)
  obtain ⟨Oc, hOc⟩ : ∃ Oc, Oc = w.heap.size + 1 := ⟨_, rfl⟩
  obtain ⟨Zb, hZb⟩ : ∃ Z, Z = w.heap.size := ⟨_, rfl⟩
  obtain ⟨w1, hw1⟩ : ∃ w1, w.alloc (.cells #[.int .i64 a0, .int .i64 a1, .int .i64 a2, .int .i64 (f 0), .int .i64 (f 1), .int .i64 (f 2), .int .i64 (f 3), .int .i64 (f 4), .int .i64 (f 5), .int .i64 (f 6), .int .i64 (f 7)] 39) = w1 := ⟨_, rfl⟩
  rw [hw1, ← hOc, ← hZb]
  have z1 : w1.heap.size = Oc := by rw [← hw1, hOc]; simp
  have b1 : Below w.heap.size w w1 := by rw [← hw1]; exact (Below.refl _ _).alloc (Nat.le_refl _) _
  generalize hw2 : World.alloc (World.alloc w1 _) _ = w2
  have z2 : w2.heap.size = Oc + 2 := by rw [← hw2]; simp [z1]
  have b2 : Below Oc w1 w2 := by rw [← hw2, ← z1]; exact ((Below.refl _ w1).alloc (Nat.le_refl _) _).alloc (by simp) _
  have o2 : w2.cell? ⟨Oc, 0, none⟩ = some (.slice none 0 0) ∧ w2.frozen? ⟨Oc, 0, none⟩ = false := by rw [← hw2, ← z1]; simp [go_sem]
  have r2 : RowAt w2 (Oc + 1) 39 #[.int .i64 a0, .int .i64 a1, .int .i64 a2, .int .i64 (f 0), .int .i64 (f 1), .int .i64 (f 2), .int .i64 (f 3), .int .i64 (f 4), .int .i64 (f 5), .int .i64 (f 6), .int .i64 (f 7)] := by
    have := RowAt.mk (w1.alloc (.cells #[.slice none 0 0] 36)) 39 #[.int .i64 a0, .int .i64 a1, .int .i64 a2, .int .i64 (f 0), .int .i64 (f 1), .int .i64 (f 2), .int .i64 (f 3), .int .i64 (f 4), .int .i64 (f 5), .int .i64 (f 6), .int .i64 (f 7)]
    rw [World.size_alloc, z1, hw2] at this
    exact this
  have HI0 := Lib.hid (show IC 3 1 (fun m => rowI ((uses8 f).take m)) w1 Oc (2 * 0) w2 from ⟨b2, _, o2.1, o2.2, World.ownsRow_nil _ _ _ _⟩)
  have HH := Lib.hid (And.intro (show Oc ≤ w1.heap.size by omega) (And.intro z2 (And.intro hOc (And.intro b1 r2))))
  have HTs := Lib.hid (show ∀ W', Below (Oc + 2) w2 W' → W'.rangeAt (Oc + 1) 3 (tbJ f) from fun W' hb j u hu => by
    have hr : RowAt W' (Oc + 1) 39 #[.int .i64 a0, .int .i64 a1, .int .i64 a2, .int .i64 (f 0), .int .i64 (f 1), .int .i64 (f 2), .int .i64 (f 3), .int .i64 (f 4), .int .i64 (f 5), .int .i64 (f 6), .int .i64 (f 7)] := r2.new (by rw [z2]; exact hb)
    refine (hr.cell (3 + j)).trans ?_
    rcases j with _ | _ | _ | _ | _ | _ | _ | _ | j
    all_goals first | exact hu | (simp at hu))
  clear o2 b2 z2 r2 hw2 z1 b1 hw1 hOc hZb HU
  refine wpIn_rangeF (gf := 66) (lb := #[.pointer (some ⟨Oc + 1, 0, none⟩)]) rfl (enters_of Try.func66 (by kernel_rfl) rfl)
    N (usesA f) (fun _ => rfl) (FC Oc) (fun k A => IC 3 1 (fun m => rowI ((uses8 f).take m)) w1 Oc (2 * k) A) (fun _ _ _ => False)
    (fun k => IC.foot HH.out.1 (2 * k)) (fun _ _ => ⟨fun _ h => h.elim, fun _ _ h => h.elim⟩) HI0.out
    (fun k a' _ => a' = { tmps := #[.agg #[.int .i64 a0, .int .i64 a1, .int .i64 a2, .int .i64 (f 0), .int .i64 (f 1), .int .i64 (f 2), .int .i64 (f 3), .int .i64 (f 4), .int .i64 (f 5), .int .i64 (f 6), .int .i64 (f 7)], .pointer (some ⟨Zb, 0, none⟩), .slice none 0 0, .pointer (some ⟨Oc, 0, none⟩), .func (.func 66) #[] #[.pointer (some ⟨Oc + 1, 0, none⟩)], .int .i64 ((usesK f 8).getD k 0 : Nat), .int .i64 (f ((usesK f 8).getD k 0)), .agg #[.int .i64 a0, .int .i64 a1, .int .i64 a2, .int .i64 (f 0), .int .i64 (f 1), .int .i64 (f 2), .int .i64 (f 3), .int .i64 (f 4), .int .i64 (f 5), .int .i64 (f 6), .int .i64 (f 7)], .func (.func 66) #[] #[.pointer (some ⟨Oc + 1, 0, none⟩)], .func (.func 66) #[] #[.pointer (some ⟨Oc + 1, 0, none⟩)], .bool true, .func (.func 66) #[] #[.pointer (some ⟨Oc + 1, 0, none⟩)], .int .i64 ((usesK f 8).getD k 0 : Nat), .int .i64 (f ((usesK f 8).getD k 0)), undef, undef, undef, undef, undef, undef], defers := [] })
    (fun _ _ _ _ h _ => h) ?hit ?assign ?body ?done (fun _ _ _ _ h => h.elim)
  case hit =>
    intro J' Jx' W1 h1' h2 h3 h4 h5 h6 h7 h8
    rw [HH.out.2.1] at h1' h2 h5 h6 h7 ⊢
    rw [HN.out] at h7 ⊢
    exact uses_in _ (Oc + 1) f _ J' Jx' W1 (HTs.out W1 h2) h7 h8
  case assign =>
    intro k W K hi' hk hK
    unfold usesA
    gi_wp2
    exact hK _ _ rfl (Ch.refl _ _) hi' (fun _ h => h)
  case body =>
    rintro k a' A ⟨h2, v, h3, h4, h5⟩ hk rfl hz
    rw [HH.out.2.1] at hz
    obtain ⟨sp, cap, rfl⟩ := own_val h5
    have hrow : rowI ((uses8 f).take (2 * (k + 1))) = rowI ((uses8 f).take (2 * k)) ++ [.int .i64 ((usesK f 8).getD k 0 : Nat), .int .i64 (f ((usesK f 8).getD k 0))] := by rw [uses_step f (by rw [← HN.out]; exact hk)]; simp [rowI]
    obtain ⟨x, hx⟩ : ∃ x : Int, ((usesK f 8).getD k 0 : Nat) = x := ⟨_, rfl⟩
    obtain ⟨y, hy⟩ : ∃ y, f ((usesK f 8).getD k 0) = y := ⟨_, rfl⟩
    rw [hx, hy] at hrow ⊢
    have H5 := Lib.hid h5
    have H1 := Lib.hid h2
    have HR := Lib.hid hrow
    clear h2 h5 hx hy hrow
    gi_wp2_with (gi_at_builtin; refine wpListIn_append_at _ rfl _ _ 36 rfl (Oc + 1) 3 i0 (.int .i64 0) 1 8 Try.underlying36 hi hz0 hz1 hz2 rfl (by decide) _ _ _ rfl (H5.out.alloc _) ⟨A.heap.size, 0, none⟩ 2 2 [.int .i64 x, .int .i64 y] rfl rfl (cell_two_new _ _ _ _) (by simp [Value.oneCell']) (by unfold maxLen; omega) (by omega) (by simp; omega) ?_; intro v' w3 hown' hgrow hat; obtain ⟨sp', cap', rfl⟩ := own_val hown'; have HG := Lib.hid (IC.grow2 (k' := 2 * (k + 1)) (rf := fun m => rowI ((uses8 f).take m)) H1.out HH.out.1 h3 h4 H5.out (by rw [HR.out]; exact hown') hgrow hat); have g1 : w3.cell? ⟨Oc, 0, none⟩ = some (.slice sp (2 * k) cap) := (grow_cell h3 h4 H5.out hgrow).1; have g2 : w3.frozen? ⟨Oc, 0, none⟩ = false := (grow_cell h3 h4 H5.out hgrow).2; clear hown' hgrow hat h3 h4)
    exact HG.out
  case done =>
    rintro A ⟨h2, v, h3, h4, h5⟩ hD hnD hz
    rw [HH.out.2.1] at hD hnD hz
    obtain ⟨sp, cap, rfl⟩ := own_val h5
    dsimp only at h5
    rw [show (uses8 f).take (2 * N) = uses8 f by rw [HN.out, ← uses8_len, List.take_length]] at h5
    have hne : ∀ g, (Value.slice sp (2 * N) cap).ownBlock = some g → g ≠ Oc + 2 := fun g hg e => by subst e; exact hnD (.inr (.inr ⟨_, h3, hg⟩))
    have HK := Lib.hid (And.intro h2 (And.intro h5 (And.intro hD hne)))
    clear h2 h5 hD hnD hne
    gi_wp2
    rw [HH.out.2.1]
    have hp : Ch (fun j => j = Oc + 2) A (A.putObj (Oc + 2) (.deferred none)) := (Ch.refl _ _).putObj _ _ rfl
    refine ⟨by simp, .inl ⟨_, _, rfl, run_takeDeferred HK.out.2.2.1, ?_⟩⟩
    have hO := HH.out.2.2.1
    refine ⟨.slice sp (2 * N) cap, ?_, sp, cap, rfl, ?_, ?_⟩
    · simp [results, Try.results12, go_sem]
    · exact own_mono (own_same HK.out.2.1 fun g hg => hp.block g (HK.out.2.1.lt g hg).2 (HK.out.2.2.2 g hg)) (by omega)
    · exact HH.out.2.2.2.1.trans ((HK.out.1.trans (hp.below (fun j hj e => by omega) (by omega))).mono (by omega))
end Go.Proofs.Ytandehdgpbflmaa
