/- The contract of law51's of: what Of goes through, in a row. -/
import Derived.Test.YtbdcjfkplopbiaaDoorUN
import Derived.Test.YtbdcjfkplopbiaaDoorUM
namespace Go.Proofs.YtbdcjfkplopbiaaDoor
open Go.RowKit
attribute [local go_sem] Oper.semAt_some

theorem neqSeqI_nil (d gf : Nat) (lb : Array Value) (w : World) : (Op.equalIn (d + 1) 59 (.func (.func gf) #[] lb) .nilFunc).run Tryd.prog w = .ok false w := by
  have ht : Tryd.prog.underlying 59 = some (.func #[53] #[] false) := by kernel_rfl
  simp [Op.equalIn, run_underlying ht]
theorem neqSeqI (gf : Nat) (lb : Array Value) (w : World) : (Go.binOp .neq 59 (.func (.func gf) #[] lb) .nilFunc).run Tryd.prog w = .ok (.bool true) w := by
  have h : (Op.equal 59 (.func (.func gf) #[] lb) .nilFunc).run Tryd.prog w = .ok false w := neqSeqI_nil 9999 gf lb w
  simp [Go.binOp, h]
/-- These ints are collected. -/
def IN (w0 : World) (Oc : Nat) (X : List Int) (W : World) : Prop :=
  Below Oc w0 W ∧ ∃ v, W.cell? ⟨Oc, 0, none⟩ = some v ∧ W.frozen? ⟨Oc, 0, none⟩ = false ∧ W.ownsRow (Oc + 1) 3 1 v X.length (rowI X)
theorem IN.foot {w0 : World} {Oc : Nat} {X : List Int} (hs : Oc ≤ w0.heap.size) : Foot (FC Oc Oc) (IN w0 Oc X) where
  lt := fun W ⟨h2, v, h3, _, h5⟩ j hj => by
    rcases hj with hj | rfl | ⟨v', hv, hj⟩
    · have := h2.size; omega
    · exact World.block_lt_of_cell? W _ h3
    · rw [h3] at hv; injection hv with hv; subst hv
      exact (h5.lt j hj).2
  keep := fun W W' ⟨h2, v, h3, h4, h5⟩ hc => by
    have nO : ¬ ¬ FC Oc Oc W Oc := fun hn => hn (.inr (.inl rfl))
    have e3 : W'.cell? ⟨Oc, 0, none⟩ = some v := hc.cell h3 nO
    refine ⟨⟨h2.trans (Ch.below hc (fun j hj hn => hn (.inl hj)) (by have := h2.size; omega)), v, e3, (hc.frozenCell h3 nO).trans h4,
      own_same h5 fun g hg => hc.block g (h5.lt g hg).2 fun hn => hn (.inr (.inr ⟨v, h3, hg⟩))⟩, fun j hj => ?_⟩
    rcases hj with hj | hj | ⟨v', hv, hj⟩
    · exact .inl hj
    · exact .inr (.inl hj)
    · rw [e3] at hv; injection hv with hv; subst hv
      exact .inr (.inr ⟨v, h3, hj⟩)
theorem growI_cell {A w1 : World} {Oc : Nat} {v : Value} {n : Nat} {xs : List Value} {ob : Obj} (h3 : A.cell? ⟨Oc, 0, none⟩ = some v) (h4 : A.frozen? ⟨Oc, 0, none⟩ = false)
    (h5 : A.ownsRow (Oc + 1) 3 1 v n xs) (hg : (A.alloc ob).grownBy w1 v.ownBlock) : w1.cell? ⟨Oc, 0, none⟩ = some v ∧ w1.frozen? ⟨Oc, 0, none⟩ = false := by
  have hcr : Ch (fun j => v.ownBlock = some j) A w1 := (((Ch.refl (fun _ => False) A).alloc ob).mono (fun _ _ h => h.elim)).trans (ch_grown hg)
  exact ⟨hcr.cell h3 fun hj => by have := own_ge h5 _ hj; simp only at this; omega, (hcr.frozenCell h3 fun hj => by have := own_ge h5 _ hj; simp only at this; omega).trans h4⟩
theorem IN.grow {w0 A w1 : World} {Oc : Nat} {X : List Int} {x : Int} {v v' : Value} {ob : Obj} (h2 : Below Oc w0 A) (hs0 : Oc ≤ w0.heap.size) (h3 : A.cell? ⟨Oc, 0, none⟩ = some v) (h4 : A.frozen? ⟨Oc, 0, none⟩ = false)
    (h5 : A.ownsRow (Oc + 1) 3 1 v X.length (rowI X))
    (ho : w1.ownsRow (Oc + 1) 3 1 v' (X.length + 1) (rowI X ++ [.int .i64 x])) (hg : (A.alloc ob).grownBy w1 v.ownBlock) (hat : v'.ownBlock = v.ownBlock ∨ v'.ownBlock = some (A.alloc ob).heap.size) :
    Step (FC Oc Oc) A (w1.setCell ⟨Oc, 0, none⟩ v') ∧ IN w0 Oc (X ++ [x]) (w1.setCell ⟨Oc, 0, none⟩ v') := by
  have hz := h2.size
  have hge : ∀ j, v.ownBlock = some j → Oc + 1 ≤ j := fun j hj => own_ge h5 j hj
  have hcr : Ch (fun j => v.ownBlock = some j) A w1 := (((Ch.refl (fun _ => False) A).alloc ob).mono (fun _ _ h => h.elim)).trans (ch_grown hg)
  have e3 : w1.cell? ⟨Oc, 0, none⟩ = some v := hcr.cell h3 fun hj => by have := hge _ hj; simp only at this; omega
  have e4 : w1.frozen? ⟨Oc, 0, none⟩ = false := (hcr.frozenCell h3 fun hj => by have := hge _ hj; simp only at this; omega).trans h4
  have e5 : (w1.setCell ⟨Oc, 0, none⟩ v').cell? ⟨Oc, 0, none⟩ = some v' := World.cell?_setCell_same _ _ _ e3
  have hcW : Ch (fun j => j = Oc ∨ v.ownBlock = some j) A (w1.setCell ⟨Oc, 0, none⟩ v') := (hcr.mono fun _ _ h => .inr h).setCell _ _ (.inl (.inl rfl))
  refine ⟨⟨hcW.mono fun j _ hj => ?_, fun j hj => ?_⟩, h2.trans (hcW.below (fun j hj hn => ?_) (by omega)), v', e5, ?_, ?_⟩
  · rcases hj with hj | hj
    · exact .inr (.inl hj)
    · exact .inr (.inr ⟨v, h3, hj⟩)
  · rcases hj with hj | hj | ⟨v'', hv, hj⟩
    · exact .inl (.inl hj)
    · exact .inl (.inr (.inl hj))
    · rw [e5] at hv; injection hv with hv; subst hv
      rcases hat with ha | ha
      · rw [ha] at hj; exact .inl (.inr (.inr ⟨v, h3, hj⟩))
      · rw [ha] at hj; injection hj with hj; subst hj
        right; simp
  · rcases hn with hn | hn
    · omega
    · have := hge _ hn; omega
  · rw [World.frozen?_setCell]; exact e4
  · rw [List.length_append, rowI_snoc]
    exact own_same ho fun g hg' => Below.heap_setCell w1 ⟨Oc, 0, none⟩ v' g (by have := own_ge ho g hg'; show g ≠ Oc; omega)
/-- The messages of a degree; none, if it is none. -/
def ofF (f : Nat → List Int) (t : Int) : List Int := if 0 ≤ t ∧ t < 32 then f t.toNat else []
theorem one_newI (w : World) (a : Value) (t : TypeId) : ∀ (j : Nat) (u : Value), [a][j]? = some u → (w.alloc (.cells #[a] t)).cell? ((⟨w.heap.size, 0, none⟩ : Addr).add j) = some u := fun j u h => by
  rw [Addr.add_lit]
  rcases j with _ | j
  · simp at h; subst h; simp [go_sem]
  · simp at h
set_option maxHeartbeats 4000000 in
set_option maxRecDepth 100000 in
theorem lof_any {w : World} {V : Nat → Prop} {B : Nat} {rm : Int} {f : Nat → List Int} (h : BAt w V B rm f) (hm : many f 32 ≤ 65536) (t : Int) :
    Calls Tryd.prog 11 #[.pointer (some ⟨B, 0, none⟩), .int .i64 t] w fun e w' => ∃ v, e = .returned v ∧ w'.ownsRow w.heap.size 3 1 v (ofF f t).length (rowI (ofF f t)) ∧ Below w.heap.size w w' := by
  refine (callsIn_wide (n := 0)).1 ?_
  obtain ⟨i0, hi, hz0, hz1, hz2⟩ := info_parts infoI
  have hnn := neqSeqI
  have hfl : ∀ k, k < 32 → (f k).length ≤ 65536 := fun k hk => by have := many_mono f (k + 1) 32 (by omega); have e : many f (k + 1) = many f k + (f k).length := rfl; omega
  have HIt := Lib.hid (show ∀ (l Db Pb : Nat) (FF : World → Nat → Prop) (J Jx : Nat → World → Prop) (W : World), W.cell? ⟨Db, 0, none⟩ = some (.int .i64 t) → W.cell? ⟨Pb, 0, none⟩ = some (.pointer (some ⟨B, 0, none⟩)) → BAt W V B rm f → RoundsF Tryd.prog l (ofF f t).length (fun k => #[.int .i64 (nth (ofF f t) k)]) FF J Jx → (∀ k, Foot FF (J k)) → J 0 W → Iter Tryd.prog 26 #[.pointer (some ⟨Db, 0, none⟩), .pointer (some ⟨Pb, 0, none⟩)] l (ofF f t).length J Jx W from fun l Db Pb FF J Jx W hs0 hs1 hB hR fJ h0 => by
    by_cases ht : 0 ≤ t ∧ t < 32
    · obtain ⟨d, rfl⟩ := Int.eq_ofNat_of_zero_le ht.1
      have e : ofF f (d : Int) = f d := by unfold ofF; rw [if_pos ht, Int.toNat_natCast]
      rw [e] at hR ⊢
      exact bof_in l Db Pb B V rm f d (by omega) FF J Jx W (hfl d (by omega)) hs0 hs1 hB hR fJ h0
    · have e : ofF f t = [] := by unfold ofF; rw [if_neg ht]
      rw [e] at hR ⊢
      exact bof_no l Db Pb t ht FF _ J Jx W hs0 hR h0)
  have hN2 : (ofF f t).length ≤ 65536 := by
    unfold ofF
    split
    · exact hfl _ (by omega)
    · exact Nat.zero_le _
  obtain ⟨X, hX⟩ : ∃ X, ofF f t = X := ⟨_, rfl⟩
  rw [hX] at HIt hN2 ⊢
  obtain ⟨n, hn⟩ : ∃ n, X.length = n := ⟨_, rfl⟩
  rw [hn] at HIt hN2 ⊢
  have HLn := Lib.hid hn
  refine callsIn_of_wp_marks Tryd.func11 rfl trivial ?_ rfl
  simp only [Tryd.ntmps11, List.size_toArray, List.length_cons, List.length_nil, Nat.reduceAdd, Nat.reduceSub, Array.replicate_succ, Array.replicate_zero, List.push_toArray, List.append_toArray, List.nil_append, List.cons_append]
  gi_wp2_with (refine ⟨trivial, rfl, ?_⟩; gi_at_call 19; refine (callsIn_wide.2 (Of_box _ _ _)).mono ?_; rintro e w' ⟨rfl, rfl⟩)
  obtain ⟨Oc, hOc⟩ : ∃ Oc, Oc = w.heap.size := ⟨_, rfl⟩
  obtain ⟨w2, hw2⟩ : ∃ w2, ((w.alloc (Obj.cells #[Value.slice none 0 0] 40)).alloc (Obj.cells #[Value.pointer (some ⟨B, 0, none⟩)] 23)).alloc (.cells #[.int .i64 t] 3) = w2 := ⟨_, rfl⟩
  have z2 : w2.heap.size = Oc + 3 := by rw [← hw2, hOc]; simp
  have b2 : Below w.heap.size w w2 := by rw [← hw2]; exact (((Below.refl _ w).alloc (Nat.le_refl _) _).alloc (by simp) _).alloc (by simp; omega) _
  have o2 : w2.cell? ⟨Oc, 0, none⟩ = some (.slice none 0 0) ∧ w2.frozen? ⟨Oc, 0, none⟩ = false ∧ w2.cell? ⟨Oc + 1, 0, none⟩ = some (.pointer (some ⟨B, 0, none⟩)) ∧ w2.cell? ⟨Oc + 2, 0, none⟩ = some (.int .i64 t) := by rw [← hw2, hOc]; simp [go_sem]
  rw [hw2, ← hOc]
  clear hw2
  have HC := Lib.hid (show ∀ W', Below Oc w W' → BAt W' V B rm f from fun W' hb => by
    rw [hOc] at hb
    obtain ⟨sp, cp, hx⟩ := h
    exact ⟨sp, cp, hx.new hb⟩)
  rw [← hOc] at b2
  have HOc := Lib.hid hOc
  have hI0 : IN w Oc (X.take 0) w2 := ⟨b2, _, o2.1, o2.2.1, World.ownsRow_nil _ _ _ _⟩
  have HI0 := Lib.hid (And.intro hI0 (And.intro o2.2.2.1 o2.2.2.2))
  have HH := Lib.hid (And.intro (show Oc ≤ w.heap.size by omega) z2)
  clear hI0 o2 b2 z2 h hOc hn hX hm hfl
  refine wpIn_rangeF (gf := 26) (lb := #[.pointer (some ⟨Oc + 2, 0, none⟩), .pointer (some ⟨Oc + 1, 0, none⟩)]) rfl (enters_of Tryd.func26 (by kernel_rfl) rfl)
    n (fun k => #[.int .i64 (nth X k)]) (fun _ => rfl) (FC Oc Oc)
    (fun k A => IN w Oc (X.take k) A) (fun _ _ _ => False)
    (fun k => IN.foot HH.out.1) (fun _ _ => ⟨fun _ h => h.elim, fun _ _ h => h.elim⟩) HI0.out.1
    (fun k a' _ => a' = { tmps := #[.pointer (some ⟨B, 0, none⟩), .int .i64 t, undef, undef, .slice none 0 0, .pointer (some ⟨Oc, 0, none⟩), .func (.func 26) #[] #[.pointer (some ⟨Oc + 2, 0, none⟩), .pointer (some ⟨Oc + 1, 0, none⟩)], .int .i64 (nth X k), .pointer (some ⟨B, 0, none⟩), .int .i64 t, .func (.func 26) #[] #[.pointer (some ⟨Oc + 2, 0, none⟩), .pointer (some ⟨Oc + 1, 0, none⟩)], .func (.func 26) #[] #[.pointer (some ⟨Oc + 2, 0, none⟩), .pointer (some ⟨Oc + 1, 0, none⟩)], .bool true, .func (.func 26) #[] #[.pointer (some ⟨Oc + 2, 0, none⟩), .pointer (some ⟨Oc + 1, 0, none⟩)], .int .i64 (nth X k), undef, undef, undef, undef, undef], defers := [] })
    (fun _ _ _ _ h _ => h) ?hit ?assign ?body ?done (fun _ _ _ _ h => h.elim)
  case hit =>
    intro J' Jx' W1 h1' h2 h3 h4 h5 h6 h7 h8
    rw [HH.out.2] at h1' h2 h5 h6 h7 ⊢
    have hb1 : Below Oc w W1 := (h3 0 W1 h8).1.1
    exact HIt.out _ (Oc + 2) (Oc + 1) _ J' Jx' W1 ((h2.cell (p := ⟨Oc + 2, 0, none⟩) (show Oc + 2 < Oc + 3 by omega)).trans HI0.out.2.2) ((h2.cell (p := ⟨Oc + 1, 0, none⟩) (show Oc + 1 < Oc + 3 by omega)).trans HI0.out.2.1) (HC.out W1 hb1) h7 h5 h8
  case assign =>
    intro k W K hi hk hK
    gi_wp2
    exact hK _ _ rfl (Ch.refl _ _) hi (fun _ h => h)
  case body =>
    rintro k a' A ⟨h2, v, h3, h4, h5⟩ hk rfl hz
    have hkl : k < X.length := by rw [HLn.out]; exact hk
    have hpt := take_succ_nth X k hkl
    obtain ⟨x, hx⟩ : ∃ x, nth X k = x := ⟨_, rfl⟩
    rw [hx] at hpt ⊢
    obtain ⟨sp, cap, rfl⟩ := own_val h5
    have hyl : (X.take k).length ≤ 65536 := by rw [List.length_take]; omega
    obtain ⟨Y, hY⟩ : ∃ Y, X.take k = Y := ⟨_, rfl⟩
    rw [hY] at h3 h5 hpt hyl
    have H5 := Lib.hid h5
    have H1 := Lib.hid h2
    have HP := Lib.hid hpt
    clear h2 h5 hx hpt hY
    gi_wp2_with (gi_at_builtin; refine wpListIn_append_at _ rfl _ _ 40 rfl (Oc + 1) 3 i0 (.int .i64 0) 1 8 Tryd.underlying40 hi hz0 hz1 hz2 rfl (by decide) _ _ _ rfl (H5.out.alloc _) ⟨A.heap.size, 0, none⟩ 1 1 [.int .i64 x] rfl rfl (one_newI _ _ _) (by simp [Value.oneCell']) (by unfold maxLen; omega) (by omega) (by have := H1.out.size; have := HH.out.1; have := HH.out.2; simp; omega) ?_; intro v' w1 hown' hgrow hat; obtain ⟨sp', cap', rfl⟩ := own_val hown'; have HG := Lib.hid (IN.grow H1.out HH.out.1 h3 h4 H5.out hown' hgrow hat); have gA : w1.cell? ⟨Oc, 0, none⟩ = some (.slice sp Y.length cap) := (growI_cell h3 h4 H5.out hgrow).1; have gB : w1.frozen? ⟨Oc, 0, none⟩ = false := (growI_cell h3 h4 H5.out hgrow).2; clear hown' hgrow hat h3 h4)
    refine ⟨HG.out.1, ?_⟩
    show IN w Oc (X.take (k + 1)) _
    rw [HP.out]
    exact HG.out.2
  case done =>
    rintro A ⟨h2, v, h3, h4, h5⟩ hD hnD hz
    rw [HH.out.2] at hD hnD hz
    rw [List.take_of_length_le (by rw [HLn.out]; exact Nat.le_refl _)] at h5
    obtain ⟨sp, cap, rfl⟩ := own_val h5
    rw [HLn.out] at h3 h5
    have hne : ∀ g, (Value.slice sp n cap).ownBlock = some g → g ≠ Oc + 3 := fun g hg e => by subst e; exact hnD (.inr (.inr ⟨_, h3, hg⟩))
    have HK := Lib.hid (And.intro h2 (And.intro h5 (And.intro hD hne)))
    clear h2 h5 hD hnD hne
    gi_wp2
    rw [HH.out.2]
    have hp : Ch (fun j => j = Oc + 3) A (A.putObj (Oc + 3) (.deferred none)) := (Ch.refl _ _).putObj _ _ rfl
    refine ⟨by simp, .inl ⟨_, _, rfl, run_takeDeferred HK.out.2.2.1, ?_⟩⟩
    refine ⟨.slice sp n cap, ?_, _, rfl, ?_, ?_⟩
    · simp [results, Tryd.results11, go_sem]
    · rw [← HOc.out]
      exact own_mono (own_same HK.out.2.1 fun g hg => hp.block g (HK.out.2.1.lt g hg).2 (HK.out.2.2.2 g hg)) (by omega)
    · rw [← HOc.out]
      exact HK.out.1.trans (hp.below (fun j hj e => by omega) (by omega))
end Go.Proofs.YtbdcjfkplopbiaaDoor
