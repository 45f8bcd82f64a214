/- Several texts in one: NH, NI, NJ, NK, NL, NM, NN. -/
import Derived.Test.YtihomapbncnhaaaDoorPk14
import Derived.Test.YtihomapbncnhaaaDoorPk13
/- check's total over an iterator that ranges over iterators. -/
namespace Go.Proofs.YtihomapbncnhaaaDoor
open Go.RowKit
attribute [local go_sem] Oper.semAt_some

theorem Foot.ex {α : Type} {F : World → Nat → Prop} {I : α → World → Prop} (h : ∀ a, Foot F (I a)) : Foot F (fun W => ∃ a, I a W) := ⟨fun W ⟨a, hw⟩ => (h a).lt W hw, fun W W' ⟨a, hw⟩ hc => ⟨⟨a, ((h a).keep W W' hw hc).1⟩, ((h a).keep W W' hw hc).2⟩⟩
def FT (b : Nat) (_ : World) (j : Nat) : Prop := j < b + 2 ∨ j = b + 2 ∨ j = b + 3
set_option maxHeartbeats 4000000 in
set_option maxRecDepth 100000 in
theorem total_inF (gf : Nat) (lb : Array Value) (eg : ∀ args w, (callFunc gf args).run Tryd.prog w = .ok (.enter gf args) w) (xs : List Int) (w : World)
    (hit : ∀ (J Jx : Nat → World → Prop) (W1 : World), w.heap.size + 4 = W1.heap.size → Below w.heap.size w W1 →
      (∀ k W, J k W → Below w.heap.size w W) → (∀ k, Foot (FT w.heap.size) (J k)) → (∀ k, Foot (FT w.heap.size) (Jx k)) →
      RoundsF Tryd.prog (w.heap.size + 3) xs.length (fun k => #[.int .i64 (nth xs k)]) (FT w.heap.size) J Jx → J 0 W1 →
      Iter Tryd.prog gf lb (w.heap.size + 3) xs.length J Jx W1) :
    Calls Tryd.prog 86 #[.func (.func gf) #[] lb] w fun e w' => e = resOf xs ∧ Below w.heap.size w w' := by
  refine (callsIn_wide (n := 0)).1 ?_
  have hmf : ∀ (fn : Fn) (first cap : Array Value) (w : World), (Instr.makeFunc fn first cap).run Tryd.prog w = .ok (.func fn first cap) w := fun _ _ _ _ => rfl
  obtain ⟨Z, hZ⟩ : ∃ Z, Z = w.heap.size := ⟨_, rfl⟩
  have HZ := Lib.hid hZ
  rw [← hZ] at hit
  have HIT := Lib.hid hit
  clear hit
  refine callsIn_of_wp_marks Tryd.func86 rfl trivial ?_ rfl
  simp only [Tryd.ntmps86, List.size_toArray, List.length_cons, List.length_nil, Nat.reduceAdd, Nat.reduceSub, Array.replicate_succ, Array.replicate_zero, List.push_toArray, List.append_toArray, List.nil_append, List.cons_append]
  gi_wp2
  obtain ⟨w2, hw2⟩ : ∃ w2, (w.alloc (Obj.cells #[Value.int IntKind.i64 0] 3)).alloc (Obj.cells #[Value.bool true] 4) = w2 := ⟨_, rfl⟩
  have H2 := Lib.hid (show Below w.heap.size w w2 ∧ w2.heap.size = Z + 2 ∧ C2 w2 Z 3 4 #[.int .i64 0] #[.bool true] w2 by
    rw [← hw2, hZ]
    exact ⟨((Below.refl _ w).alloc (Nat.le_refl _) _).alloc (by simp) _, by simp, Ch.refl _ _, row_keep (RowAt.mk _ _ _) _, row_next _ _ (by simp) _ _⟩)
  rw [hw2]
  rw [← hZ]
  clear hw2 hZ
  have HBe := Lib.hid (show ∀ (W' : World) (cs cs' : Array Value), C2 w2 Z 3 4 cs cs' W' → Below w.heap.size w W' from fun W' f g h => H2.out.1.trans (h.1.below (fun j hj e => by have := HZ.out; rcases e with e | e <;> omega) H2.out.1.size))
  refine wpIn_rangeF3 (gf := gf) (lb := lb) rfl eg xs.length (fun k => #[.int .i64 (nth xs k)]) (fun _ => rfl) (fun _ j => j < Z + 2)
    (fun k W => ∃ s, C2 w2 Z 3 4 #[.int .i64 s] #[.bool true] W ∧ runS 0 (xs.take k) = some s)
    (fun c k W => c = .exit 0 ∧ C2 w2 Z 3 4 #[.int .i64 0] #[.bool false] W ∧ runS 0 xs = none)
    (fun k => Foot.ex fun s => Foot.snd (C2.foot H2.out.2.1 (by omega))) (fun c k => Foot.pure _ (Foot.snd (C2.foot H2.out.2.1 (by omega)))) ⟨0, H2.out.2.2, rfl⟩
    (fun k a' _ => a' = { tmps := #[.func (.func gf) #[] lb, undef, .pointer (some ⟨Z, 0, none⟩), .pointer (some ⟨Z + 1, 0, none⟩), .int .i64 (nth xs k),
      .func (.func 100) #[] #[.pointer (some ⟨Z, 0, none⟩), .pointer (some ⟨Z + 1, 0, none⟩)], .func (.func gf) #[] lb, .int .i64 (nth xs k), undef, undef, undef, undef, undef, undef, undef, undef, undef, undef], defers := [] })
    (fun _ _ _ _ h _ => h) ?hit ?assign ?body ?done ?stop
  case hit =>
    intro J Jx W1 h1 h2 h3 h4 h5 h6 h7 h8
    rw [H2.out.2.1] at h1 h2 h3 h4 h5 h6 h7 ⊢
    exact HIT.out J Jx W1 (by omega) (by have hb := H2.out.1.trans (h2.mono (by have := HZ.out; omega)); rwa [← HZ.out] at hb) (fun k W h => by obtain ⟨s, hs, -⟩ := (h3 k W h).1; have hb := HBe.out W _ _ hs; rwa [← HZ.out] at hb) h5 h6 h7 h8
  case assign =>
    intro k W K hi hk hz hK
    have HK := Lib.hid hK
    have HKI := Lib.hid hi
    clear hK hi
    gi_wp2
    exact HK.out _ _ rfl (Ch.refl _ _) HKI.out (fun _ h => h)
  case body =>
    rintro k a' W ⟨s, hI, h2⟩ hk rfl hz ⟨rec0, hrec⟩ hnl
    rw [H2.out.2.1] at hz hrec hnl ⊢
    have ht := take_succ_getD xs k hk
    have hrun : runS 0 (xs.take (k + 1)) = if addB s (nth xs k) then some (addN s (nth xs k)) else none := by rw [ht, runS_snoc, h2]; rfl
    have HR := Lib.hid hrun
    clear h2 hrun ht
    have k0 : W.cell? ⟨Z, 0, none⟩ = some (.int .i64 s) := hI.2.1.cell 0
    have k1 : W.cell? ⟨Z + 1, 0, none⟩ = some (.bool true) := hI.2.2.cell 0
    have f0 : W.frozen? ⟨Z, 0, none⟩ = false := hI.2.1.fr 0
    have f1 : W.frozen? ⟨Z + 1, 0, none⟩ = false := hI.2.2.fr 0
    have HI := Lib.hid hI
    clear hI
    cases hb : addB s (nth xs k)
    · have hn := addN_f hb
      gi_wp2_with (refine ⟨trivial, rfl, ?_⟩; gi_at_call 88; refine (CallsIn.inRound _ (callsIn_wide.2 (add_any _ _ _))).mono ?_; rintro e w' ⟨rfl, rfl⟩)
      have hr := HR.out
      rw [hb] at hr
      exact ⟨C2.turn (by omega) (Below.refl _ _) _ _, rfl, HI.out.set _ _, runS_take_none hr⟩
    · gi_wp2_with (refine ⟨trivial, rfl, ?_⟩; gi_at_call 88; refine (CallsIn.inRound _ (callsIn_wide.2 (add_any _ _ _))).mono ?_; rintro e w' ⟨rfl, rfl⟩)
      have hr := HR.out
      rw [hb] at hr
      exact ⟨C2.turn (by omega) (Below.refl _ _) _ _, _, HI.out.set _ _, hr⟩
  case done =>
    rintro W ⟨s, hI, h2⟩ hD hnD hz
    rw [H2.out.2.1] at hD hnD hz
    rw [H2.out.2.1]
    have h3 : W.cell? ⟨Z, 0, none⟩ = some (.int .i64 s) := hI.2.1.cell 0
    have h5 : W.cell? ⟨Z + 1, 0, none⟩ = some (.bool true) := hI.2.2.cell 0
    have h4 : W.frozen? ⟨Z, 0, none⟩ = false := hI.2.1.fr 0
    have h6 : W.frozen? ⟨Z + 1, 0, none⟩ = false := hI.2.2.fr 0
    have h1 := HBe.out W _ _ hI
    have HR := Lib.hid h2
    clear hI h2
    gi_wp2
    gi_region
    all_goals
      gi_wp2
      have h2 := HR.out
      rw [List.take_length] at h2
      have hc : Ch (fun j => j = Z ∨ j = Z + 1) W ((W.setCell ⟨Z, 0, none⟩ (Value.int IntKind.i64 s)).setCell ⟨Z + 1, 0, none⟩ (Value.bool true)).drew := (((Ch.refl _ W).setCell _ _ (.inl (.inl rfl))).setCell _ _ (.inl (.inr rfl))).drew
      have hZ := HZ.out
      refine total_leaves _ Z (Z + 2) s true _ _ rfl rfl (by simp [go_sem, h3]) (by simp [go_sem, h5]) (hc.obj hD (by omega)) (by omega) ⟨?_, ?_⟩
      · unfold resOf; rw [h2]; rfl
      · exact h1.trans ((hc.mono (T' := fun j => j = Z ∨ j = Z + 1 ∨ j = Z + 2) (by intro k _ h; omega)).putObj _ _ (.inr (.inr rfl)) |>.below (by intro k hk; omega) h1.size)
  case stop =>
    rintro c k W hk ⟨rfl, hI, h2⟩ hD hnD hz
    rw [H2.out.2.1] at hD hnD hz
    rw [H2.out.2.1]
    have h3 : W.cell? ⟨Z, 0, none⟩ = some (.int .i64 0) := hI.2.1.cell 0
    have h5 : W.cell? ⟨Z + 1, 0, none⟩ = some (.bool false) := hI.2.2.cell 0
    have h4 : W.frozen? ⟨Z, 0, none⟩ = false := hI.2.1.fr 0
    have h6 : W.frozen? ⟨Z + 1, 0, none⟩ = false := hI.2.2.fr 0
    have h1 := HBe.out W _ _ hI
    have HR := Lib.hid h2
    clear hI h2
    gi_wp2
    gi_region
    all_goals
      gi_wp2
      have h2 := HR.out
      have hc : Ch (fun j => j = Z ∨ j = Z + 1) W ((W.setCell ⟨Z, 0, none⟩ (Value.int IntKind.i64 0)).setCell ⟨Z + 1, 0, none⟩ (Value.bool false)).drew := (((Ch.refl _ W).setCell _ _ (.inl (.inl rfl))).setCell _ _ (.inl (.inr rfl))).drew
      have hZ := HZ.out
      refine total_leaves _ Z (Z + 2) 0 false _ _ rfl rfl (by simp [go_sem, h3]) (by simp [go_sem, h5]) (hc.obj hD (by omega)) (by omega) ⟨?_, ?_⟩
      · unfold resOf; rw [h2]; rfl
      · exact h1.trans ((hc.mono (T' := fun j => j = Z ∨ j = Z + 1 ∨ j = Z + 2) (by intro k _ h; omega)).putObj _ _ (.inr (.inr rfl)) |>.below (by intro k hk; omega) h1.size)
end Go.Proofs.YtihomapbncnhaaaDoor
/- The contract of load's Of: what its iterator hands on. -/
namespace Go.Proofs.YtihomapbncnhaaaDoor
open Go.RowKit
attribute [local go_sem] Oper.semAt_some

/-- An invariant beside a row that nobody turns. -/
def InR (F : World → Nat → Prop) (I : World → Prop) (B : Nat) (t : TypeId) (cs : Array Value) (A : World) : Prop := I A ∧ ¬ F A B ∧ RowAt A B t cs
theorem InR.foot {F : World → Nat → Prop} {I : World → Prop} (f : Foot F I) (B : Nat) (t : TypeId) (cs : Array Value) : Foot (FIn F B) (InR F I B t cs) where
  lt := fun W ⟨h1, _, h3⟩ j hj => by
    rcases hj with hj | rfl
    · exact f.lt W h1 j hj
    · exact h3.lt
  keep := fun W W' ⟨h1, h2, h3⟩ hc => by
    have hk := f.keep W W' h1 (Ch.mono hc fun j _ hn hf => hn (.inl hf))
    exact ⟨⟨hk.1, fun hf => h2 (hk.2 _ hf), h3.keep hc (fun hn => hn (.inr rfl))⟩, fun j hj => by
        rcases hj with hj | hj
        · exact .inl (hk.2 _ hj)
        · exact .inr hj⟩
theorem InR.step {F : World → Nat → Prop} {I I' : World → Prop} {B : Nat} {t : TypeId} {cs : Array Value} {A A' : World} (h : InR F I B t cs A) (hs : Step F A A') (hI : I' A') : Step (FIn F B) A A' ∧ InR F I' B t cs A' := by
  obtain ⟨h1, h2, h3⟩ := h
  refine ⟨⟨Ch.mono hs.1 fun _ _ hf => .inl hf, fun j hj => ?_⟩, hI, hs.no h2 h3.lt, h3.keep hs.1 h2⟩
  rcases hj with hj | hj
  · rcases hs.2 j hj with h | h
    · exact .inl (.inl h)
    · exact .inr h
  · exact .inl (.inr hj)
theorem InR.two {F : World → Nat → Prop} {I I' : World → Prop} {Yb l B : Nat} {t : TypeId} {cs : Array Value} {A A' : World} (h : InR (FIn F Yb) (InT F I Yb l) B t cs A) (hs : Step F A A') (hI : I' A') : Step (FIn (FIn F Yb) B) A A' ∧ InR (FIn F Yb) (InT F I' Yb l) B t cs A' := InR.step h (InT.step h.1 hs hI).1 (InT.step h.1 hs hI).2
/-- A step behind new blocks alone. -/
theorem Step.after {F : World → Nat → Prop} {A A1 B : World} (hc : Ch (fun _ => False) A A1) (hf : ∀ j, F A1 j → F A j) (h : Step F A1 B) : Step F A B :=
  ⟨(Ch.mono hc fun _ _ (h : False) => h.elim).trans (Ch.mono h.1 fun j _ hj => hf j hj), fun j hj => by
    rcases h.2 j hj with h | h
    · exact .inl (hf j h)
    · exact .inr (Nat.le_trans hc.size h)⟩
theorem Foot.any {F : World → Nat → Prop} {Jx : Nat → World → Prop} (h : ∀ k, Foot F (Jx k)) (N : Nat) : Foot F (fun A => ∃ m, m ≤ N ∧ Jx m A) := ⟨fun W ⟨m, _, hw⟩ => (h m).lt W hw, fun W W' ⟨m, hm, hw⟩ hc => ⟨⟨m, hm, ((h m).keep W W' hw hc).1⟩, ((h m).keep W W' hw hc).2⟩⟩
def thF (x : Img) (i : Nat) : Int := upN (mulN 1000 (x.t i).cost) (x.t i).per
set_option maxHeartbeats 4000000 in
set_option maxRecDepth 100000 in
theorem ldof_in (l Bs Bi : Nat) (s : BitVec 32) (x : Img) (S : ImgS) (F : World → Nat → Prop) (J Jx : Nat → World → Prop) (W : World)
    (hT0 : ∀ k W', J k W' → Tab W') (hC : ∀ k W', J k W' → ∀ B, W'.cell? ⟨B, 1, none⟩ = some (.slice S.t.sp x.tasks.length S.t.c) → TkAt W' B x S)
    (hi0 : RowAt W Bi 26 #[.int .i64 x.res, .slice S.t.sp x.tasks.length S.t.c, .slice S.m.sp x.modes.length S.m.c, .slice S.e.sp x.edges.length S.e.c]) (hs0 : W.cell? ⟨Bs, 0, none⟩ = some (.int .u32 (w32 s)))
    (hR : RoundsF Tryd.prog l (tasksL x s).length (fun k => #[.int .i64 (thF x ((tasksL x s).getD k 0))]) F J Jx)
    (fJ : ∀ k, Foot F (J k)) (fJx : ∀ k, Foot F (Jx k)) (h0 : J 0 W) :
    Iter Tryd.prog 55 #[.pointer (some ⟨Bi, 0, none⟩), .pointer (some ⟨Bs, 0, none⟩)] l (tasksL x s).length J Jx W := by
  have HIn := Lib.hid (fun l Bs Bi F J Jx W a b => ldtasks_in l Bs Bi s x S F J Jx W a b)
  obtain ⟨L, hL⟩ : ∃ L, tasksL x s = L := ⟨_, rfl⟩
  rw [hL] at hR HIn ⊢
  clear hL
  obtain ⟨N, hN⟩ : ∃ N, L.length = N := ⟨_, rfl⟩
  rw [hN] at hR HIn ⊢
  clear hN
  obtain ⟨nT, hnT⟩ : ∃ n, x.tasks.length = n := ⟨_, rfl⟩
  obtain ⟨nM, hnM⟩ : ∃ n, x.modes.length = n := ⟨_, rfl⟩
  obtain ⟨nE, hnE⟩ : ∃ n, x.edges.length = n := ⟨_, rfl⟩
  rw [hnT, hnM, hnE] at hi0
  rw [hnT] at hC
  clear hnT hnM hnE
  obtain ⟨IM, hIM⟩ : ∃ IM : Array Value, #[.int .i64 x.res, .slice S.t.sp nT S.t.c, .slice S.m.sp nM S.m.c, .slice S.e.sp nE S.e.c] = IM := ⟨_, rfl⟩
  have hIM1 := Lib.hid (show IM[1]? = some (.slice S.t.sp nT S.t.c) by rw [← hIM]; rfl)
  have i0 : W.cell? ⟨Bi, 0, none⟩ = some (.int .i64 x.res) := hi0.cell 0
  have i1 : W.cell? ⟨Bi, 1, none⟩ = some (.slice S.t.sp nT S.t.c) := hi0.cell 1
  have i2 : W.cell? ⟨Bi, 2, none⟩ = some (.slice S.m.sp nM S.m.c) := hi0.cell 2
  have i3 : W.cell? ⟨Bi, 3, none⟩ = some (.slice S.e.sp nE S.e.c) := hi0.cell 3
  refine callsIn_of_wp_marks Tryd.func55 rfl trivial ?_ rfl
  simp only [Tryd.ntmps55, List.size_toArray, List.length_cons, List.length_nil, Nat.reduceAdd, Nat.reduceSub, Array.replicate_succ, Array.replicate_zero, List.push_toArray, List.append_toArray, List.nil_append, List.cons_append]
  have hbs : Bs < W.heap.size := World.block_lt_of_cell? W _ hs0
  have hbi : Bi < W.heap.size := hi0.lt
  obtain ⟨Yb, hYb⟩ : ∃ Yb, Yb = W.heap.size := ⟨_, rfl⟩
  have y0 : ∀ p : Addr, p.block < W.heap.size → (W.alloc (.cells #[.func (.yield l) #[] #[]] 72)).cell? p = W.cell? p := fun p hp => World.cell?_alloc_lt W _ p hp
  have e0 := (y0 ⟨Bi, 0, none⟩ hbi).trans i0
  have e1 := (y0 ⟨Bi, 1, none⟩ hbi).trans i1
  have e2 := (y0 ⟨Bi, 2, none⟩ hbi).trans i2
  have e3 := (y0 ⟨Bi, 3, none⟩ hbi).trans i3
  have es := (y0 ⟨Bs, 0, none⟩ hbs).trans hs0
  have HJ := Lib.hid (And.intro fJ (And.intro fJx h0))
  have HR := Lib.hid hR
  have HT := Lib.hid hT0
  have HC := Lib.hid hC
  clear hi0 hs0 hR fJ fJx h0 hT0 hC i0 i1 i2 i3 hbs hbi y0
  gi_wp2_with (first
    | (refine ⟨trivial, rfl, ?_⟩; gi_at_call 52; refine (callsIn_wide.2 (ldTasks_any _ _ _)).mono ?_; rintro e w' ⟨rfl, rfl⟩)
    | fail)
  rw [show W.heap.size + 1 + 1 = Yb + 2 by omega, show W.heap.size + 1 = Yb + 1 by omega, ← hYb]
  generalize hw2 : World.alloc (World.alloc (World.alloc W _) _) _ = w2
  have H2 := Lib.hid (show InR (FIn F Yb) (InT F (J 0) Yb l) (Yb + 1) 26 IM w2 ∧ w2.cell? ⟨Yb + 2, 0, none⟩ = some (.int .u32 (w32 s)) ∧ w2.heap.size = Yb + 3 by
    obtain ⟨b, z, r0, r1, r2⟩ := rows3 W #[.func (.yield l) #[] #[]] IM #[.int .u32 (w32 s)] 72 26 31
    rw [hw2] at b z r0 r1 r2
    rw [← hYb] at z r0 r1 r2
    have kk := (HJ.out.1 0).keep W w2 HJ.out.2.2 (Off.new b)
    have hn : ∀ j, Yb ≤ j → ¬ F w2 j := fun j hj hf => by have := (HJ.out.1 0).lt W HJ.out.2.2 j (kk.2 j hf); omega
    exact ⟨⟨⟨kk.1, ⟨hn Yb (Nat.le_refl _), by omega⟩, r0.cell 0⟩, fun hf => by
      rcases hf with hf | hf
      · exact hn _ (by omega) hf
      · omega, r1⟩, r2.cell 0, z⟩)
  clear hw2 e0 e1 e2 e3 es hYb hIM
  have HX := Lib.hid (Foot.any HJ.out.2.1 N)
  have hfs : ∀ k, Foot (FIn (FIn F Yb) (Yb + 1)) (InR (FIn F Yb) (InT F (J k) Yb l) (Yb + 1) 26 IM) := fun k => InR.foot (InT.foot (HJ.out.1 k) Yb l) _ _ _
  have HFS := Lib.hid hfs
  clear hfs
  refine wpIn_rangeF3 (gf := 84) (lb := #[.pointer (some ⟨Yb + 2, 0, none⟩), .pointer (some ⟨Yb + 1, 0, none⟩)]) rfl (enters_of Tryd.func84 (by kernel_rfl) rfl)
    N (fun k => #[tkV x (L.getD k 0)]) (fun _ => rfl) (FIn (FIn F Yb) (Yb + 1))
    (fun k A => InR (FIn F Yb) (InT F (J k) Yb l) (Yb + 1) 26 IM A) (fun c _ A => c = .ret ∧ InR (FIn F Yb) (InT F (fun A => ∃ m, m ≤ N ∧ Jx m A) Yb l) (Yb + 1) 26 IM A)
    HFS.out (fun c k => Foot.pure _ (InR.foot (InT.foot HX.out Yb l) _ _ _)) H2.out.1
    (fun k a' W' => ∃ c, Yb + 4 < c ∧ RowAt W' c 59 #[.int .i64 (x.t (L.getD k 0)).per, .int .i64 (x.t (L.getD k 0)).dl, .int .i64 (x.t (L.getD k 0)).cost, .int .i64 (lonF x (L.getD k 0) 0), .int .i64 (lonF x (L.getD k 0) 1), .int .i64 (lonF x (L.getD k 0) 2), .int .i64 (lonF x (L.getD k 0) 3), .int .i64 (lonF x (L.getD k 0) 4), .int .i64 (lonF x (L.getD k 0) 5), .int .i64 (lonF x (L.getD k 0) 6), .int .i64 (lonF x (L.getD k 0) 7)] ∧ a' = { tmps := #[.func (.yield l) #[] #[], .pointer (some ⟨Bi, 0, none⟩), .pointer (some ⟨Bs, 0, none⟩), .pointer (some ⟨Yb, 0, none⟩), .pointer (some ⟨c, 0, none⟩), .agg IM, .int .u32 (w32 s), .func (.func 84) #[] #[.pointer (some ⟨Yb + 2, 0, none⟩), .pointer (some ⟨Yb + 1, 0, none⟩)], tkV x (L.getD k 0), undef, undef, undef, undef, undef], defers := [] })
    (fun k a' W W' hx hc => by obtain ⟨c, h1, h2, h3⟩ := hx; have hz6 := H2.out.2.2; exact ⟨c, h1, h2.keep hc (fun e => by have e' : c = w2.heap.size + 1 := e; omega), h3⟩) ?hit ?assign ?body ?done ?stop
  case hit =>
    intro J' Jx' W1 h1 h2 h3 h4 h5 h6 h7 h8
    rw [H2.out.2.2] at h1 h2 h3 h4 h5 h6 h7 ⊢
    exact HIn.out _ (Yb + 2) (Yb + 1) _ J' Jx' W1 (fun k W' hJ => HT.out _ W' (h3 k W' hJ).1.1.1) (fun k W' hJ => HC.out _ W' (h3 k W' hJ).1.1.1 (Yb + 1) (((h3 k W' hJ).1.2.2.cell 1).trans hIM1.out)) ((h2.cell (p := ⟨Yb + 2, 0, none⟩) (show Yb + 2 < Yb + 3 by omega)).trans H2.out.2.1) h7 h5 h6 h8
  case assign =>
    intro k W K hi' hk hz hK
    rw [H2.out.2.2] at hz
    have HK := Lib.hid hK
    have HKI := Lib.hid hi'
    clear hK hi'
    obtain ⟨i, hi⟩ : ∃ i, L.getD k 0 = i := ⟨_, rfl⟩
    rw [hi] at HK ⊢
    unfold tkV at HK ⊢
    clear hi
    gi_wp2
    have kk := (HFS.out k).keep _ _ HKI.out (Off.new (((Below.refl W.heap.size W).alloc (Nat.le_refl _) (.cells #[.int .i64 (x.t i).per, .int .i64 (x.t i).dl, .int .i64 (x.t i).cost, .int .i64 (lonF x i 0), .int .i64 (lonF x i 1), .int .i64 (lonF x i 2), .int .i64 (lonF x i 3), .int .i64 (lonF x i 4), .int .i64 (lonF x i 5), .int .i64 (lonF x i 6), .int .i64 (lonF x i 7)] 59))))
    exact HK.out _ _ ⟨W.heap.size, by omega, RowAt.mk _ _ _, rfl⟩ ((Ch.refl _ _).alloc _) kk.1 kk.2
  case body =>
    rintro k a' A hI hk ⟨c, hc, hr, rfl⟩ hz ⟨rec0, hrec⟩ hnl
    have HRk := Lib.hid (HR.out k)
    obtain ⟨i, hi'⟩ : ∃ i, L.getD k 0 = i := ⟨_, rfl⟩
    rw [hi'] at hr ⊢
    simp only [hi'] at HRk
    clear hi'
    obtain ⟨tk, htk⟩ : ∃ v, tkV x i = v := ⟨_, rfl⟩
    have HTh := Lib.hid (show ∀ wx, _ from fun wx => ldThou_any x i wx)
    rw [show upN (mulN 1000 (x.t i).cost) (x.t i).per = thF x i from rfl] at HTh
    rw [htk]
    unfold tkV at HTh
    obtain ⟨th, hth⟩ : ∃ v, thF x i = v := ⟨_, rfl⟩
    rw [hth] at HTh HRk
    obtain ⟨p0, h0⟩ : ∃ v, (x.t i).per = v := ⟨_, rfl⟩
    obtain ⟨p1, h1⟩ : ∃ v, (x.t i).dl = v := ⟨_, rfl⟩
    obtain ⟨p2, h2⟩ : ∃ v, (x.t i).cost = v := ⟨_, rfl⟩
    obtain ⟨f, hf⟩ : ∃ f, lonF x i = f := ⟨_, rfl⟩
    rw [h0, h1, h2, hf] at hr HTh
    have ky : A.cell? ⟨Yb, 0, none⟩ = some (.func (.yield l) #[] #[]) := hI.1.2.2
    have hyb : Yb < A.heap.size := hI.1.2.1.2
    have k0 : A.cell? ⟨c, 0, none⟩ = some (.int .i64 p0) := hr.cell 0
    have k1 : A.cell? ⟨c, 1, none⟩ = some (.int .i64 p1) := hr.cell 1
    have k2 : A.cell? ⟨c, 2, none⟩ = some (.int .i64 p2) := hr.cell 2
    have k3 : A.cell? ⟨c, 3, none⟩ = some (.int .i64 (f 0)) := hr.cell 3
    have k4 : A.cell? ⟨c, 4, none⟩ = some (.int .i64 (f 1)) := hr.cell 4
    have k5 : A.cell? ⟨c, 5, none⟩ = some (.int .i64 (f 2)) := hr.cell 5
    have k6 : A.cell? ⟨c, 6, none⟩ = some (.int .i64 (f 3)) := hr.cell 6
    have k7 : A.cell? ⟨c, 7, none⟩ = some (.int .i64 (f 4)) := hr.cell 7
    have k8 : A.cell? ⟨c, 8, none⟩ = some (.int .i64 (f 5)) := hr.cell 8
    have k9 : A.cell? ⟨c, 9, none⟩ = some (.int .i64 (f 6)) := hr.cell 9
    have k10 : A.cell? ⟨c, 10, none⟩ = some (.int .i64 (f 7)) := hr.cell 10
    have HI := Lib.hid hI
    have HNW := Lib.hid (show ∀ A1, Ch (fun _ => False) A A1 → InR (FIn F Yb) (InT F (J k) Yb l) (Yb + 1) 26 IM A1 ∧ ∀ j, FIn (FIn F Yb) (Yb + 1) A1 j → FIn (FIn F Yb) (Yb + 1) A j from fun A1 hc => (HFS.out k).keep A A1 HI.out (Off.nothing hc))
    clear hI hr htk hth h0 h1 h2 hf hz hrec hnl
    gi_wp2
    refine wpIn_region_any (by kernel_rfl) ?_
    try (change wpAnyIn _ _ _ _ _ _ _ _ _ (World.drew _))
    refine wpAnyIn_ready (rs := [0, 1]) (by kernel_rfl) (by simp) (AllReadyIn.cons rfl (fun K hK => ?_) (AllReadyIn.cons rfl (fun K hK => ?_) AllReadyIn.nil))
    · go_simp
      refine hK _ _ ?_
      clear hK K
      try simp only [Act.put, List.setIfInBounds_toArray, List.set_cons_zero, List.set_cons_succ]
      refine wpAnyIn_ready (rs := [1]) (by kernel_rfl) (by simp) (AllReadyIn.cons rfl (fun K hK => ?_) AllReadyIn.nil)
      go_simp
      refine hK _ _ ?_
      clear hK K
      try simp only [Act.put, List.setIfInBounds_toArray, List.set_cons_zero, List.set_cons_succ]
      refine wpAnyIn_ready (rs := [2]) (by kernel_rfl) (by simp) (AllReadyIn.cons rfl (fun K hK => ?_) AllReadyIn.nil)
      go_simp
      refine ⟨trivial, rfl, ?_⟩
      gi_at_call 56
      refine CallsIn.inRound _ ((callsIn_wide.2 (HTh.out _)).mono ?_)
      rintro e w7 ⟨rfl, b7⟩
      have H7 := Lib.hid (show Ch (fun _ => False) A w7 from (Ch.refl _ A).drew.trans (Ch.new b7))
      have ky7 : w7.cell? ⟨Yb, 0, none⟩ = some (.func (.yield l) #[] #[]) := H7.out.cell ky (fun h => h)
      clear b7
      try dsimp only
      refine hK _ _ ?_
      clear hK K
      try simp only [Act.put, List.setIfInBounds_toArray, List.set_cons_zero, List.set_cons_succ]
      refine wpAnyIn_ready (rs := [3]) (by kernel_rfl) (by simp) (AllReadyIn.cons rfl (fun K hK => ?_) AllReadyIn.nil)
      go_simp
      obtain ⟨fn, tmps, assign, body, hyd, hRo⟩ := HRk.out w7 (HNW.out _ H7.out).1.1.1 hk
      try dsimp only at hyd
      try go_simp
      refine ⟨rfl, hRo.mono ?_⟩
      rintro e W3 h3
      obtain ⟨b, rfl, h3⟩ : ∃ b : Bool, e = .returned (.bool b) ∧ ((b = true ∧ J (k + 1) W3 ∧ Step F w7 W3) ∨ (b = false ∧ Jx (k + 1) W3 ∧ Step F w7 W3)) := h3.elim (fun h => ⟨true, h.1, .inl ⟨rfl, h.2⟩⟩) (fun h => ⟨false, h.1, .inr ⟨rfl, h.2⟩⟩)
      have H3 := Lib.hid h3
      clear h3 hyd hRo
      try dsimp only
      refine hK _ _ ?_
      clear hK K
      try simp only [Act.put, List.setIfInBounds_toArray, List.set_cons_zero, List.set_cons_succ]
      refine wpAnyIn_ready (rs := [4]) (by kernel_rfl) (by simp) (AllReadyIn.cons rfl (fun K hK => ?_) AllReadyIn.nil)
      go_simp
      refine hK _ _ ?_
      clear hK K
      try simp only [Act.put, List.setIfInBounds_toArray, List.set_cons_zero, List.set_cons_succ]
      refine wpAnyIn_done (by kernel_rfl) ?_ _
      cases b
      · gi_wp2
        have ⟨hx, hs⟩ : Jx (k + 1) W3 ∧ Step F w7 W3 := by
          rcases H3.out with ⟨h, -⟩ | ⟨-, h⟩
          · cases h
          · exact h
        have r := InR.two (I' := fun A => ∃ m, m ≤ N ∧ Jx m A) (HNW.out _ H7.out).1 hs ⟨_, by omega, hx⟩
        exact ⟨Step.after H7.out (HNW.out _ H7.out).2 r.1, rfl, r.2⟩
      · gi_wp2
        have ⟨hx, hs⟩ : J (k + 1) W3 ∧ Step F w7 W3 := by
          rcases H3.out with ⟨-, h⟩ | ⟨h, -⟩
          · exact h
          · cases h
        have r := InR.two (HNW.out _ H7.out).1 hs hx
        exact ⟨Step.after H7.out (HNW.out _ H7.out).2 r.1, r.2⟩
    · go_simp
      refine hK _ _ ?_
      clear hK K
      try simp only [Act.put, List.setIfInBounds_toArray, List.set_cons_zero, List.set_cons_succ]
      refine wpAnyIn_ready (rs := [0, 2]) (by kernel_rfl) (by simp) (AllReadyIn.cons rfl (fun K hK => ?_) (AllReadyIn.cons rfl (fun K hK => ?_) AllReadyIn.nil))
      · go_simp
        refine hK _ _ ?_
        clear hK K
        try simp only [Act.put, List.setIfInBounds_toArray, List.set_cons_zero, List.set_cons_succ]
        refine wpAnyIn_ready (rs := [2]) (by kernel_rfl) (by simp) (AllReadyIn.cons rfl (fun K hK => ?_) AllReadyIn.nil)
        go_simp
        refine ⟨trivial, rfl, ?_⟩
        gi_at_call 56
        refine CallsIn.inRound _ ((callsIn_wide.2 (HTh.out _)).mono ?_)
        rintro e w7 ⟨rfl, b7⟩
        have H7 := Lib.hid (show Ch (fun _ => False) A w7 from (Ch.refl _ A).drew.trans (Ch.new b7))
        have ky7 : w7.cell? ⟨Yb, 0, none⟩ = some (.func (.yield l) #[] #[]) := H7.out.cell ky (fun h => h)
        clear b7
        try dsimp only
        refine hK _ _ ?_
        clear hK K
        try simp only [Act.put, List.setIfInBounds_toArray, List.set_cons_zero, List.set_cons_succ]
        refine wpAnyIn_ready (rs := [3]) (by kernel_rfl) (by simp) (AllReadyIn.cons rfl (fun K hK => ?_) AllReadyIn.nil)
        go_simp
        obtain ⟨fn, tmps, assign, body, hyd, hRo⟩ := HRk.out w7 (HNW.out _ H7.out).1.1.1 hk
        try dsimp only at hyd
        try go_simp
        refine ⟨rfl, hRo.mono ?_⟩
        rintro e W3 h3
        obtain ⟨b, rfl, h3⟩ : ∃ b : Bool, e = .returned (.bool b) ∧ ((b = true ∧ J (k + 1) W3 ∧ Step F w7 W3) ∨ (b = false ∧ Jx (k + 1) W3 ∧ Step F w7 W3)) := h3.elim (fun h => ⟨true, h.1, .inl ⟨rfl, h.2⟩⟩) (fun h => ⟨false, h.1, .inr ⟨rfl, h.2⟩⟩)
        have H3 := Lib.hid h3
        clear h3 hyd hRo
        try dsimp only
        refine hK _ _ ?_
        clear hK K
        try simp only [Act.put, List.setIfInBounds_toArray, List.set_cons_zero, List.set_cons_succ]
        refine wpAnyIn_ready (rs := [4]) (by kernel_rfl) (by simp) (AllReadyIn.cons rfl (fun K hK => ?_) AllReadyIn.nil)
        go_simp
        refine hK _ _ ?_
        clear hK K
        try simp only [Act.put, List.setIfInBounds_toArray, List.set_cons_zero, List.set_cons_succ]
        refine wpAnyIn_done (by kernel_rfl) ?_ _
        cases b
        · gi_wp2
          have ⟨hx, hs⟩ : Jx (k + 1) W3 ∧ Step F w7 W3 := by
            rcases H3.out with ⟨h, -⟩ | ⟨-, h⟩
            · cases h
            · exact h
          have r := InR.two (I' := fun A => ∃ m, m ≤ N ∧ Jx m A) (HNW.out _ H7.out).1 hs ⟨_, by omega, hx⟩
          exact ⟨Step.after H7.out (HNW.out _ H7.out).2 r.1, rfl, r.2⟩
        · gi_wp2
          have ⟨hx, hs⟩ : J (k + 1) W3 ∧ Step F w7 W3 := by
            rcases H3.out with ⟨-, h⟩ | ⟨h, -⟩
            · exact h
            · cases h
          have r := InR.two (HNW.out _ H7.out).1 hs hx
          exact ⟨Step.after H7.out (HNW.out _ H7.out).2 r.1, r.2⟩
      · go_simp
        refine ⟨trivial, rfl, ?_⟩
        gi_at_call 56
        refine CallsIn.inRound _ ((callsIn_wide.2 (HTh.out _)).mono ?_)
        rintro e w7 ⟨rfl, b7⟩
        have H7 := Lib.hid (show Ch (fun _ => False) A w7 from (Ch.refl _ A).drew.trans (Ch.new b7))
        have ky7 : w7.cell? ⟨Yb, 0, none⟩ = some (.func (.yield l) #[] #[]) := H7.out.cell ky (fun h => h)
        clear b7
        try dsimp only
        refine hK _ _ ?_
        clear hK K
        try simp only [Act.put, List.setIfInBounds_toArray, List.set_cons_zero, List.set_cons_succ]
        refine wpAnyIn_ready (rs := [0]) (by kernel_rfl) (by simp) (AllReadyIn.cons rfl (fun K hK => ?_) AllReadyIn.nil)
        go_simp
        refine hK _ _ ?_
        clear hK K
        try simp only [Act.put, List.setIfInBounds_toArray, List.set_cons_zero, List.set_cons_succ]
        refine wpAnyIn_ready (rs := [3]) (by kernel_rfl) (by simp) (AllReadyIn.cons rfl (fun K hK => ?_) AllReadyIn.nil)
        go_simp
        obtain ⟨fn, tmps, assign, body, hyd, hRo⟩ := HRk.out w7 (HNW.out _ H7.out).1.1.1 hk
        try dsimp only at hyd
        try go_simp
        refine ⟨rfl, hRo.mono ?_⟩
        rintro e W3 h3
        obtain ⟨b, rfl, h3⟩ : ∃ b : Bool, e = .returned (.bool b) ∧ ((b = true ∧ J (k + 1) W3 ∧ Step F w7 W3) ∨ (b = false ∧ Jx (k + 1) W3 ∧ Step F w7 W3)) := h3.elim (fun h => ⟨true, h.1, .inl ⟨rfl, h.2⟩⟩) (fun h => ⟨false, h.1, .inr ⟨rfl, h.2⟩⟩)
        have H3 := Lib.hid h3
        clear h3 hyd hRo
        try dsimp only
        refine hK _ _ ?_
        clear hK K
        try simp only [Act.put, List.setIfInBounds_toArray, List.set_cons_zero, List.set_cons_succ]
        refine wpAnyIn_ready (rs := [4]) (by kernel_rfl) (by simp) (AllReadyIn.cons rfl (fun K hK => ?_) AllReadyIn.nil)
        go_simp
        refine hK _ _ ?_
        clear hK K
        try simp only [Act.put, List.setIfInBounds_toArray, List.set_cons_zero, List.set_cons_succ]
        refine wpAnyIn_done (by kernel_rfl) ?_ _
        cases b
        · gi_wp2
          have ⟨hx, hs⟩ : Jx (k + 1) W3 ∧ Step F w7 W3 := by
            rcases H3.out with ⟨h, -⟩ | ⟨-, h⟩
            · cases h
            · exact h
          have r := InR.two (I' := fun A => ∃ m, m ≤ N ∧ Jx m A) (HNW.out _ H7.out).1 hs ⟨_, by omega, hx⟩
          exact ⟨Step.after H7.out (HNW.out _ H7.out).2 r.1, rfl, r.2⟩
        · gi_wp2
          have ⟨hx, hs⟩ : J (k + 1) W3 ∧ Step F w7 W3 := by
            rcases H3.out with ⟨-, h⟩ | ⟨h, -⟩
            · exact h
            · cases h
          have r := InR.two (HNW.out _ H7.out).1 hs hx
          exact ⟨Step.after H7.out (HNW.out _ H7.out).2 r.1, r.2⟩

  case done =>
    rintro A hI hD hnD hz
    rw [H2.out.2.2] at hD hnD hz
    have HA := Lib.hid (And.intro hI (And.intro hD hnD))
    clear hI hD hnD
    gi_wp2
    rw [H2.out.2.2]
    have hp : Ch (fun j => j = Yb + 3) A (A.putObj (Yb + 3) (.deferred none)) := (Ch.refl _ _).putObj _ _ rfl
    refine ⟨by simp, .inl ⟨_, _, rfl, run_takeDeferred HA.out.2.1, ?_⟩⟩
    exact ⟨_, results_none rfl _ _ _, ⟨_, rfl⟩, .inl ((HJ.out.1 N).keep A _ HA.out.1.1.1 (Off.of hp fun j hj hf => by subst hj; exact HA.out.2.2 (.inl (.inl hf)))).1⟩
  case stop =>
    rintro c k A hk ⟨rfl, hI⟩ hD hnD hz
    rw [H2.out.2.2] at hD hnD hz
    have HA := Lib.hid (And.intro hI (And.intro hD hnD))
    clear hI hD hnD
    gi_wp2
    rw [H2.out.2.2]
    have hp : Ch (fun j => j = Yb + 3) A (A.putObj (Yb + 3) (.deferred none)) := (Ch.refl _ _).putObj _ _ rfl
    refine ⟨by simp, .inl ⟨_, _, rfl, run_takeDeferred HA.out.2.1, ?_⟩⟩
    exact ⟨_, results_none rfl _ _ _, ⟨_, rfl⟩, .inr (HX.out.keep A _ HA.out.1.1.1 (Off.of hp fun j hj hf => by subst hj; exact HA.out.2.2 (.inl (.inl hf)))).1⟩
end Go.Proofs.YtihomapbncnhaaaDoor
/- The contract of load's Of. -/
namespace Go.Proofs.YtihomapbncnhaaaDoor
open Go.RowKit

theorem nth_map_th {x : Img} {L : List Nat} {k : Nat} (hk : k < L.length) : nth (L.map (thF x)) k = thF x (L.getD k 0) := by
  unfold nth
  simp [hk]
set_option maxHeartbeats 4000000 in
set_option maxRecDepth 100000 in
theorem ldOf_any {w : World} {V : Nat → Prop} {x : Img} {S : ImgS} (h : ImgAt w V x S) (ht : Tab w) (s : BitVec 32) :
    Calls Tryd.prog 25 #[.agg #[.int .i64 x.res, .slice S.t.sp x.tasks.length S.t.c, .slice S.m.sp x.modes.length S.m.c, .slice S.e.sp x.edges.length S.e.c], .int .u32 (w32 s)] w fun e w' => e = .returned (.int .i64 (resN (runS 0 ((tasksL x s).map (thF x))))) ∧ Below w.heap.size w w' := by
  have hp := ht.pos
  have HS := Lib.hid (show ∀ w2, (∃ b : Below w.heap.size w w2, w2.heap.size = w.heap.size + 2 ∧ RowAt w2 w.heap.size 26 #[.int .i64 x.res, .slice S.t.sp x.tasks.length S.t.c, .slice S.m.sp x.modes.length S.m.c, .slice S.e.sp x.edges.length S.e.c] ∧ RowAt w2 (w.heap.size + 1) 31 #[.int .u32 (w32 s)]) → Calls Tryd.prog 54 #[.func (.func 55) #[] #[.pointer (some ⟨w.heap.size, 0, none⟩), .pointer (some ⟨w.heap.size + 1, 0, none⟩)]] w2 fun e w' => e = resOf ((tasksL x s).map (thF x)) ∧ Below w2.heap.size w2 w' from fun w2 ⟨b, z, r0, r1⟩ => by
    refine sum_of _ _ _ _ (total_inF _ _ (enters_of Tryd.func55 (by kernel_rfl) rfl) _ w2 ?_)
    intro J Jx W1 h1 h2 h3 h5 h6 h7 h8
    have hl : ((tasksL x s).map (thF x)).length = (tasksL x s).length := by simp
    rw [hl] at h7 ⊢
    exact ldof_in _ (w.heap.size + 1) w.heap.size s x S _ J Jx W1 (fun k W' hJ => ht.below hp (b.trans ((h3 k W' hJ).mono b.size))) (fun k W' hJ B hc => TkAt.of (h.new (b.trans ((h3 k W' hJ).mono b.size))) hc) (r0.new h2) ((r1.new h2).cell 0)
      (fun k W' hJ hk => by have := h7 k W' hJ hk; dsimp only at this ⊢; rwa [show nth ((tasksL x s).map (thF x)) k = thF x ((tasksL x s).getD k 0) from nth_map_th hk] at this) h5 h6 h8)
  obtain ⟨xs, hxs⟩ : ∃ xs, (tasksL x s).map (thF x) = xs := ⟨_, rfl⟩
  rw [hxs] at HS ⊢
  unfold resOf at HS
  obtain ⟨rn, hrn⟩ : ∃ v, resN (runS 0 xs) = v := ⟨_, rfl⟩
  obtain ⟨rb, hrb⟩ : ∃ v, resB (runS 0 xs) = v := ⟨_, rfl⟩
  rw [hrn, hrb] at HS
  rw [hrn]
  obtain ⟨IM, hIM⟩ : ∃ IM : Array Value, #[.int .i64 x.res, .slice S.t.sp x.tasks.length S.t.c, .slice S.m.sp x.modes.length S.m.c, .slice S.e.sp x.edges.length S.e.c] = IM := ⟨_, rfl⟩
  rw [hIM] at HS ⊢
  have HR := Lib.hid (show ∃ b : Below w.heap.size w ((w.alloc (.cells IM 26)).alloc (.cells #[.int .u32 (w32 s)] 31)), ((w.alloc (.cells IM 26)).alloc (.cells #[.int .u32 (w32 s)] 31)).heap.size = w.heap.size + 2 ∧ RowAt ((w.alloc (.cells IM 26)).alloc (.cells #[.int .u32 (w32 s)] 31)) w.heap.size 26 IM ∧ RowAt ((w.alloc (.cells IM 26)).alloc (.cells #[.int .u32 (w32 s)] 31)) (w.heap.size + 1) 31 #[.int .u32 (w32 s)] from
    ⟨((Below.refl _ _).alloc (Nat.le_refl _) _).alloc (by simp) _, by simp, row_keep (RowAt.mk _ _ _) _, row_next _ _ (by simp) _ _⟩)
  clear h ht hp hxs hrn hrb hIM
  have hmf : ∀ (fn : Fn) (first cap : Array Value) (w : World), (Instr.makeFunc fn first cap).run Tryd.prog w = .ok (.func fn first cap) w := fun _ _ _ _ => rfl
  go_enter Tryd.func25, Tryd.ntmps25
  go_wp2_with (first
    | (go_at_call 54; refine (HS.out _ HR.out).mono ?_; rintro e w1 ⟨rfl, b1⟩; have H1 := Lib.hid (HR.out.choose.trans (b1.mono HR.out.choose.size)); clear b1)
    | fail)
  go_ret
  exact ⟨rfl, H1.out⟩
theorem sum_map_lst (y : BitVec 32) (g : Nat → Int) : ∀ n, ((lst y n).map g).sum = smK y.getLsbD g n
  | 0 => rfl
  | n + 1 => by
    rw [lst_succ]
    unfold smK
    split
    · rw [← sum_map_lst y g n]; simp
    · exact sum_map_lst y g n
/-- The sum in thousandths, of the tasks below a number. -/
def ofK (x : Img) (s : BitVec 32) (n : Nat) : Int := smK s.getLsbD (fun i => (1000 * (x.t i).cost + (x.t i).per - 1) / (x.t i).per) n
theorem thF_eq {x : Img} (h : GoodI x) {i : Nat} (hi : i < x.tasks.length) : thF x i = (1000 * (x.t i).cost + (x.t i).per - 1) / (x.t i).per ∧ 0 ≤ thF x i ∧ thF x i ≤ 5000000 := by
  have a := h.per i hi
  have b := h.cost i hi
  have e1 : mulN 1000 (x.t i).cost = 1000 * (x.t i).cost := by unfold mulN; rw [if_pos]; simp only [Bool.and_eq_true, numB_iff]; omega
  have e2 : thF x i = (1000 * (x.t i).cost + (x.t i).per - 1) / (x.t i).per := by unfold thF upN; rw [e1, if_pos]; simp only [Bool.and_eq_true, numB_iff, decide_eq_true_eq]; omega
  have q := quo_bds (a := 1000 * (x.t i).cost + (x.t i).per - 1) (b := (x.t i).per) (by omega) (by omega)
  rw [e2]
  exact ⟨rfl, q.1, by omega⟩
theorem of_eq {x : Img} (h : GoodI x) (s : BitVec 32) : resN (runS 0 ((tasksL x s).map (thF x))) = ofK x s x.tasks.length ∧ 0 ≤ ofK x s x.tasks.length ∧ ofK x s x.tasks.length ≤ 80000000 := by
  have hn := h.n16
  have hL : tasksL x s = lst s x.tasks.length := by rw [tasksL_eq h, aheadL, Nat.min_self]
  have hs : ((lst s x.tasks.length).map (thF x)).sum = ofK x s x.tasks.length := by
    rw [sum_map_lst]
    unfold ofK
    exact smK_ext _ (fun _ _ => rfl) fun i hi _ => (thF_eq h hi).1
  have hr : 0 ≤ ofK x s x.tasks.length ∧ ofK x s x.tasks.length ≤ (x.tasks.length : Int) * 5000000 := by
    unfold ofK
    exact smK_rng (by omega) _ fun i hi => by have := thF_eq h hi; rw [← this.1]; exact this.2
  have hr2 : (x.tasks.length : Int) * 5000000 ≤ 80000000 := by omega
  refine ⟨?_, hr.1, by omega⟩
  rw [hL]
  have : runS 0 ((lst s x.tasks.length).map (thF x)) = some (ofK x s x.tasks.length) := by
    rw [runS_iff (by omega) (by omega)]
    refine ⟨fun v hv => ?_, by rw [hs]; omega, by omega⟩
    obtain ⟨i, hi, rfl⟩ := List.mem_map.1 hv
    rw [← hL] at hi
    exact (thF_eq h (tasksL_mem.1 hi).2.2).2.1
  rw [this]
  rfl
end Go.Proofs.YtihomapbncnhaaaDoor
/- law37's alive, divided. -/
namespace Go.Proofs.YtihomapbncnhaaaDoor
open Go.RowKit

theorem num18 : rdK X18 (tasksL X18 3#32) (tasksL X18 3#32).length = 20 ∧ exK X18 (tasksL X18 3#32) (tasksL X18 3#32).length = some (9, 20) ∧ resN (runS 0 ((tasksL X18 3#32).map (thF X18))) = 450 := by decide +kernel
theorem eqIn_part (d : Nat) (a b : Int) (w : World) : (Op.equalIn (d + 2) 64 (.agg #[.int .i64 a, .int .i64 b]) (.agg #[.int .i64 a, .int .i64 b])).run Tryd.prog w = .ok true w := by
  rw [run_equalIn_agg (P := Tryd.prog) w (d + 1) 64 _ _ (by kernel_rfl) (by kernel_rfl)]
  simp [Op.eqFields, go_sem, part]
theorem eql_part (a b : Int) (w : World) : (Go.binOp .eql 64 (.agg #[.int .i64 a, .int .i64 b]) (.agg #[.int .i64 a, .int .i64 b])).run Tryd.prog w = .ok (.bool true) w := by
  have h : (Op.equal 64 (.agg #[.int .i64 a, .int .i64 b]) (.agg #[.int .i64 a, .int .i64 b])).run Tryd.prog w = .ok true w := eqIn_part 9998 a b w
  simp [Go.binOp, h]
set_option maxHeartbeats 4000000 in
set_option maxRecDepth 100000 in
theorem l37alive_any (w : World) (ht : Tab w) : Calls Tryd.prog 27 #[] w fun e w' => e = .returned (.bool true) ∧ Below w.heap.size w w' := by
  have hp := ht.pos
  have HTb := Lib.hid (show ∀ w', Below w.heap.size w w' → Tab w' from fun w' hb => ht.below hp hb)
  have heq := eql_part 9 20
  clear ht hp
  go_enter Tryd.func27, Tryd.ntmps27
  go_upto_region 2 with fail
  obtain ⟨Z, hZ⟩ : ∃ Z, Z = w.heap.size := ⟨_, rfl⟩
  generalize hw2 : World.alloc (World.alloc (World.alloc w _) _) _ = w2
  have H2 := Lib.hid (show Below w.heap.size w w2 ∧ w2.heap.size = Z + 3 ∧ RowAt w2 Z 59 row22 ∧ RowAt w2 (Z + 1) 99 #[.int .u32 3, .slice none 0 0] ∧ RowAt w2 (Z + 2) 26 #[.int .i64 0, .slice (some ⟨Z, 0, none⟩) 2 2, .slice (some ⟨Z + 1, 0, none⟩) 1 1, .slice none 0 0] by
    rw [← hw2, hZ]
    exact rows3 w _ _ _ _ _ _)
  rw [show w.heap.size + 1 + 1 = Z + 2 by omega, show w.heap.size + 1 = Z + 1 by omega, ← hZ]
  have HZ := Lib.hid hZ
  clear hw2 hZ
  have HAt := Lib.hid (show ∀ wx, Below w2.heap.size w2 wx → ImgAt wx (fun _ => False) X18 (S18 Z (Z + 1)) ∧ Tab wx from fun wx hb => ⟨X18_at (H2.out.2.2.1.new hb) (H2.out.2.2.2.1.new hb), HTb.out wx (H2.out.1.trans (hb.mono H2.out.1.size))⟩)
  have HRd := Lib.hid (show ∀ wx, Below w2.heap.size w2 wx → Calls Tryd.prog 23 #[.agg #[.int .i64 0, .slice (some ⟨Z, 0, none⟩) 2 2, .slice (some ⟨Z + 1, 0, none⟩) 1 1, .slice none 0 0], .int .u32 3] wx fun e w' => e = .returned (.tuple #[.int .i64 20, .bool true]) ∧ Below wx.heap.size wx w' from fun wx hb => by
    have := ldRound_any (HAt.out wx hb).1 (HAt.out wx hb).2 3#32
    rw [num18.1] at this
    exact this)
  have HEx := Lib.hid (show ∀ wx, Below w2.heap.size w2 wx → Calls Tryd.prog 28 #[.agg #[.int .i64 0, .slice (some ⟨Z, 0, none⟩) 2 2, .slice (some ⟨Z + 1, 0, none⟩) 1 1, .slice none 0 0], .int .u32 3] wx fun e w' => e = .returned (.tuple #[.agg #[.int .i64 9, .int .i64 20], .bool true]) ∧ Below wx.heap.size wx w' from fun wx hb => by
    have := ldExact_any (HAt.out wx hb).1 (HAt.out wx hb).2 3#32
    rw [num18.2.1] at this
    exact this)
  have HOf := Lib.hid (show ∀ wx, Below w2.heap.size w2 wx → Calls Tryd.prog 25 #[.agg #[.int .i64 0, .slice (some ⟨Z, 0, none⟩) 2 2, .slice (some ⟨Z + 1, 0, none⟩) 1 1, .slice none 0 0], .int .u32 3] wx fun e w' => e = .returned (.int .i64 450) ∧ Below wx.heap.size wx w' from fun wx hb => by
    have := ldOf_any (HAt.out wx hb).1 (HAt.out wx hb).2 3#32
    rw [num18.2.2] at this
    exact this)
  have HOv := Lib.hid (show ∀ wx, Below w2.heap.size w2 wx → Calls Tryd.prog 29 #[.agg #[.int .i64 0, .slice (some ⟨Z, 0, none⟩) 2 2, .slice (some ⟨Z + 1, 0, none⟩) 1 1, .slice none 0 0], .int .u32 3] wx fun e w' => e = .returned (.bool false) ∧ Below wx.heap.size wx w' from fun wx hb => by
    have := ldOver_any (HAt.out wx hb).1 (HAt.out wx hb).2 3#32
    rw [num18.2.1] at this
    exact this)
  have HCe := Lib.hid (show ∀ wx, Below w2.heap.size w2 wx → (wx.cell? ⟨Z + 2, 0, none⟩ = some (.int .i64 0) ∧ wx.cell? ⟨Z + 2, 1, none⟩ = some (.slice (some ⟨Z, 0, none⟩) 2 2) ∧ wx.cell? ⟨Z + 2, 2, none⟩ = some (.slice (some ⟨Z + 1, 0, none⟩) 1 1) ∧ wx.cell? ⟨Z + 2, 3, none⟩ = some (.slice none 0 0)) from fun wx hb => by
    have r := H2.out.2.2.2.2.new hb
    exact ⟨r.cell 0, r.cell 1, r.cell 2, r.cell 3⟩)
  obtain ⟨c0, c1, c2, c3⟩ := HCe.out w2 (Below.refl _ _)
  go_upto_region 4 with (first
    | (go_at_call 23; refine (HRd.out _ (Below.refl _ _)).mono ?_; rintro e w3 ⟨rfl, b3⟩; have H3 := Lib.hid b3; clear b3 c0 c1 c2 c3 HRd; obtain ⟨c0, c1, c2, c3⟩ := HCe.out w3 H3.out)
    | (go_at_call 28; refine (HEx.out _ H3.out).mono ?_; rintro e w4 ⟨rfl, b4⟩; have H4 := Lib.hid (H3.out.trans (b4.mono H3.out.size)); clear b4 c0 c1 c2 c3 HEx; obtain ⟨c0, c1, c2, c3⟩ := HCe.out w4 H4.out)
    | fail)
  obtain ⟨B, hB⟩ : ∃ B, B = w4.heap.size := ⟨_, rfl⟩
  rw [← hB]
  generalize hw5 : World.alloc w4 _ = w5
  have H5 := Lib.hid (show Below w2.heap.size w2 w5 ∧ RowAt w5 B 64 #[.int .i64 9, .int .i64 20] by
    rw [← hw5]
    exact ⟨below_alloc H4.out (Nat.le_refl _) _, row_next _ _ hB.symm _ _⟩)
  clear hw5 hB c0 c1 c2 c3 H3 H4
  obtain ⟨c0, c1, c2, c3⟩ := HCe.out w5 H5.out.1
  have d0 : w5.cell? ⟨B, 0, none⟩ = some (.int .i64 9) := H5.out.2.cell 0
  have d1 : w5.cell? ⟨B, 1, none⟩ = some (.int .i64 20) := H5.out.2.cell 1
  go_wp2_with (first
    | (go_at_call 25; refine (HOf.out _ H5.out.1).mono ?_; rintro e w6 ⟨rfl, b6⟩; have H6 := Lib.hid (H5.out.1.trans (b6.mono H5.out.1.size)); clear b6 c0 c1 c2 c3 HOf; obtain ⟨c0, c1, c2, c3⟩ := HCe.out w6 H6.out)
    | (go_at_call 29; refine (HOv.out _ H6.out).mono ?_; rintro e w7 ⟨rfl, b7⟩; have H7 := Lib.hid (H6.out.trans (b7.mono H6.out.size)); clear b7)
    | fail)
  go_ret
  exact ⟨rfl, H2.out.1.trans (H7.out.mono H2.out.1.size)⟩
end Go.Proofs.YtihomapbncnhaaaDoor
/- The walk of LoadLess. -/
namespace Go.Proofs.YtihomapbncnhaaaDoor
open Go.RowKit

set_option maxHeartbeats 8000000 in
set_option maxRecDepth 100000 in
theorem law_less37 {w : World} (ht : Tab w) (a b c d : Int) :
    Calls Tryd.prog 7 #[.agg #[.int .i64 a, .int .i64 b], .agg #[.int .i64 c, .int .i64 d]] w fun e w' => e = .returned (.bool true) ∧ Below w.heap.size w w' := by
  have hp := ht.pos
  have H1 := Lib.hid (show ∀ wx, _ from fun wx => refmul_any a d wx)
  have H2 := Lib.hid (show ∀ wx, _ from fun wx => refmul_any c b wx)
  have HL := Lib.hid (show ∀ wx, _ from fun wx => ldLess_any a b c d wx)
  have HA := Lib.hid (show ∀ wx, Below w.heap.size w wx → _ from fun wx hb => l37alive_any wx (ht.below hp hb))
  obtain ⟨u, hu⟩ : ∃ u, mulN a d = u := ⟨_, rfl⟩
  obtain ⟨v, hv⟩ : ∃ v, mulN c b = v := ⟨_, rfl⟩
  unfold lessP at HL
  rw [hu] at H1 HL
  rw [hv] at H2 HL
  clear hu hv ht hp
  have HB := Lib.hid (((Below.refl w.heap.size w).alloc (Nat.le_refl _) (.cells #[.int .i64 a, .int .i64 b] 64)).alloc (by simp) (.cells #[.int .i64 c, .int .i64 d] 64))
  cases h1 : mulB a d <;> cases h2 : mulB c b <;> by_cases hlt : u < v <;> rw [h1] at H1 HL <;> rw [h2] at H2 HL <;> first | rw [decide_eq_true hlt] at HL | rw [decide_eq_false hlt] at HL
  all_goals
    simp only [Bool.and_false, Bool.and_true] at HL
    clear h1 h2
    go_enter Tryd.func7, Tryd.ntmps7
    go_wp2_with (first
      | (go_at_call 30; refine (H1.out _).mono ?_; rintro e w' ⟨rfl, rfl⟩; clear H1)
      | (go_at_call 30; refine (H2.out _).mono ?_; rintro e w' ⟨rfl, rfl⟩; clear H2)
      | (go_at_call 31; refine (HL.out _).mono ?_; rintro e w3 ⟨rfl, b3⟩; have H3 := Lib.hid (HB.out.trans (b3.mono HB.out.size)); clear b3 HL)
      | (go_at_call 27; refine (HA.out _ H3.out).mono ?_; rintro e w4 ⟨rfl, b4⟩; have H4 := Lib.hid (H3.out.trans (b4.mono H3.out.size)); clear b4)
      | fail)
    go_ret
    first
      | exact ⟨rfl, H4.out⟩
      | exact ⟨by simp [hlt], H4.out⟩
end Go.Proofs.YtihomapbncnhaaaDoor
/- The contract of law37's divided. -/
namespace Go.Proofs.YtihomapbncnhaaaDoor
open Go.RowKit

def dvdB (x : Img) (s : BitVec 32) (n : Int) : Bool := (List.range x.tasks.length).all fun i => !(s.getLsbD i) || decide (n % (x.t i).per = 0)
theorem dvdB_no {x : Img} {s : BitVec 32} {n : Int} {i : Nat} (hi : i < x.tasks.length) (hb : s.getLsbD i = true) (h : ¬ n % (x.t i).per = 0) : dvdB x s n = false := by
  unfold dvdB
  rw [List.all_eq_false]
  exact ⟨i, List.mem_range.2 hi, by simp [hb, h]⟩
theorem dvdB_iff {x : Img} {s : BitVec 32} {n : Int} : dvdB x s n = true ↔ ∀ i, i < x.tasks.length → s.getLsbD i = true → n % (x.t i).per = 0 := by
  unfold dvdB
  rw [List.all_eq_true]
  refine ⟨fun h i hi hb => ?_, fun h i hi => ?_⟩
  · have := h i (List.mem_range.2 hi)
    simpa [hb] using this
  · cases hb : s.getLsbD i
    · rfl
    · simpa using h i (List.mem_range.1 hi) hb
set_option maxHeartbeats 4000000 in
set_option maxRecDepth 100000 in
theorem l37div_any {w : World} {V : Nat → Prop} {x : Img} {S : ImgS} (h : ImgAt w V x S) (hG : GoodI x) (s : BitVec 32) (n : Int) (h0 : 0 ≤ n) (_h1 : n ≤ 1099511627776) :
    Calls Tryd.prog 26 #[.agg #[.int .i64 x.res, .slice S.t.sp x.tasks.length S.t.c, .slice S.m.sp x.modes.length S.m.c, .slice S.e.sp x.edges.length S.e.c], .int .u32 (w32 s), .int .i64 n] w fun e w' => e = .returned (.bool (dvdB x s n)) ∧ Below w.heap.size w w' := by
  have hsp := h.st.at_
  have HTc := Lib.hid (show ∀ i, i < x.tasks.length → w.cell? ⟨S.t.b, S.t.o + i * 11, none⟩ = some (.int .i64 (x.t i).per) from fun i hi => (task_cells h hi).1)
  have HP := Lib.hid (show ∀ i, i < x.tasks.length → 1 ≤ (x.t i).per ∧ (x.t i).per ≤ 4096 from hG.per)
  have HNo := Lib.hid (show ∀ i, i < x.tasks.length → s.getLsbD i = true → ¬ n % (x.t i).per = 0 → dvdB x s n = false from fun i hi hb h => dvdB_no hi hb h)
  have HYes := Lib.hid (show (∀ i, i < x.tasks.length → s.getLsbD i = true → n % (x.t i).per = 0) → dvdB x s n = true from fun h => dvdB_iff.2 h)
  have H16 := hG.n16
  have H1 := hG.n1
  obtain ⟨hs1, -, -⟩ := hsp (by omega)
  have hcap := h.st.sm
  obtain ⟨nT, hnT⟩ : ∃ n, x.tasks.length = n := ⟨_, rfl⟩
  obtain ⟨nM, hnM⟩ : ∃ n, x.modes.length = n := ⟨_, rfl⟩
  obtain ⟨nE, hnE⟩ : ∃ n, x.edges.length = n := ⟨_, rfl⟩
  rw [hnT] at HTc HP HNo HYes H16 H1
  rw [hnT, hnM, hnE, hs1]
  obtain ⟨tb, htb⟩ : ∃ b, S.t.b = b := ⟨_, rfl⟩
  obtain ⟨to_, hto⟩ : ∃ b, S.t.o = b := ⟨_, rfl⟩
  rw [htb, hto] at HTc ⊢
  obtain ⟨Z, hZ⟩ : ∃ Z, Z = w.heap.size := ⟨_, rfl⟩
  clear h hG hsp hs1 hnT hnM hnE htb hto hcap
  go_enter Tryd.func26, Tryd.ntmps26
  go_upto_region 1 with fail
  rw [← hZ]
  generalize hw2 : World.alloc _ _ = w2
  have H2 := Lib.hid (show Below w.heap.size w w2 ∧ RowAt w2 Z 26 #[.int .i64 x.res, .slice (some ⟨tb, to_, none⟩) nT S.t.c, .slice S.m.sp nM S.m.c, .slice S.e.sp nE S.e.c] by
    rw [← hw2, hZ]
    exact ⟨(Below.refl _ _).alloc (Nat.le_refl _) _, RowAt.mk _ _ _⟩)
  have HT2 := Lib.hid (show ∀ i, i < nT → w2.cell? ⟨tb, to_ + i * 11, none⟩ = some (.int .i64 (x.t i).per) from fun i hi => (H2.out.1.cell (World.block_lt_of_cell? w _ (HTc.out i hi))).trans (HTc.out i hi))
  clear hw2 hZ HTc
  have c1 : w2.cell? ⟨Z, 1, none⟩ = some (.slice (some ⟨tb, to_, none⟩) nT S.t.c) := H2.out.2.cell 1
  go_wp2
  go_loopg [7] nT (fun g v7 wr => ∃ i : Nat, i + g = nT ∧ v7 = .int .i64 (i : Nat) ∧ Aside (w2 = wr ∧ ∀ j, j < i → s.getLsbD j = true → n % (x.t j).per = 0))
  case atStart => exact ⟨0, by omega, rfl, rfl, fun j hj => absurd hj (by omega)⟩
  case round =>
    obtain ⟨i, hig, rfl, HQ⟩ := hrel
    obtain rfl := HQ.out.1
    have HQ2 := Lib.hid HQ.out.2
    clear HQ
    cases gk with
    | zero =>
      obtain rfl : nT = i := by omega
      have hy := HYes.out HQ2.out
      go_wp2
      go_ret
      exact ⟨by rw [hy]; rfl, H2.out.1⟩
    | succ g1 =>
      have hk : i < nT := by omega
      have e1 : (i : Int) < (nT : Int) := by omega
      have hc := HT2.out i hk
      obtain ⟨hp1, hp2⟩ := HP.out i hk
      have HH := Lib.hid (has10_any s (i : Int) w2)
      rw [hasB_nat s i (by omega)] at HH
      have HN := Lib.hid (HNo.out i hk)
      have HNx := Lib.hid (show (s.getLsbD i = true → n % (x.t i).per = 0) → ∀ j, j < i + 1 → s.getLsbD j = true → n % (x.t j).per = 0 from fun h j hj hb => by
        by_cases e : j = i
        · subst e; exact h hb
        · exact HQ2.out j (by omega) hb)
      obtain ⟨p, hp⟩ : ∃ p, (x.t i).per = p := ⟨_, rfl⟩
      rw [hp] at hc hp1 hp2 HN HNx
      have hz : ¬ p = 0 := by omega
      have htm : n.tmod p = n % p := Int.tmod_eq_emod_of_nonneg h0
      obtain ⟨m, hm⟩ : ∃ m, n % p = m := ⟨_, rfl⟩
      have hm0 : 0 ≤ m ∧ m < p := by rw [← hm]; exact ⟨Int.emod_nonneg _ hz, Int.emod_lt_of_pos _ (by omega)⟩
      rw [hm] at HN HNx htm
      clear hp hm
      cases hb : s.getLsbD i
      case false =>
        rw [hb] at HH HNx
        clear hb HN
        go_wp2_with (first
          | (go_at_call 24; refine HH.out.mono ?_; rintro e w' ⟨rfl, rfl⟩)
          | fail)
        go_roundg g1
        case measure => omega
        case rel => exact ⟨i + 1, by omega, by go_num, rfl, HNx.out (fun h => absurd h (by decide))⟩
      case true =>
        rw [hb] at HH HNx HN
        clear hb
        by_cases h : m = 0
        · subst h
          go_wp2_with (first
            | (go_at_call 24; refine HH.out.mono ?_; rintro e w' ⟨rfl, rfl⟩)
            | fail)
          go_roundg g1
          case measure => omega
          case rel => exact ⟨i + 1, by omega, by go_num, rfl, HNx.out (by simp)⟩
        · have hf := HN.out (by simp) h
          go_wp2_with (first
            | (go_at_call 24; refine HH.out.mono ?_; rintro e w' ⟨rfl, rfl⟩)
            | fail)
          go_ret
          exact ⟨by rw [hf]; rfl, H2.out.1⟩
end Go.Proofs.YtihomapbncnhaaaDoor
/- Load's laws: maths. -/
namespace Go.Proofs.YtihomapbncnhaaaDoor
open Go.RowKit

theorem dl_per {x : Img} (h : rightB x = true) : ∀ i, i < x.tasks.length → (x.t i).dl ≤ (x.t i).per := by
  have hc : (codeAll x).2 = 0 := by simpa [rightB] using h
  have ht : (codeT x).2 = 0 := by
    unfold codeAll at hc
    split at hc
    · split at hc
      · assumption
      · exact hc
    · cases hc
  unfold codeT at ht
  split at ht
  case isFalse => cases ht
  case isTrue hn =>
    intro i hi
    have hall : tkOK x i = true := by
      cases hf : firstNo x.tasks.length (tkOK x) with
      | some k => rw [hf] at ht; cases ht
      | none =>
        unfold firstNo at hf
        have := List.find?_eq_none.1 hf i (List.mem_range.2 hi)
        simpa using this
    unfold tkOK taskOK inB at hall
    simp only [Bool.and_eq_true, decide_eq_true_eq, List.all_eq_true, List.mem_range] at hall
    exact hall.2.1.2
theorem tL_eq {x : Img} (h : GoodI x) (s : BitVec 32) : tasksL x s = lst s x.tasks.length := by rw [tasksL_eq h, aheadL, Nat.min_self]
theorem tL_at {x : Img} (h : GoodI x) {s : BitVec 32} {i : Nat} (hi : i < x.tasks.length) (hb : s.getLsbD i = true) : ∃ j, j < (tasksL x s).length ∧ (tasksL x s).getD j 0 = i := by
  have hn := h.n16
  have hm : i ∈ tasksL x s := tasksL_mem.2 ⟨by omega, hb, hi⟩
  obtain ⟨j, hj, e⟩ := List.mem_iff_getElem.1 hm
  exact ⟨j, hj, by rw [List.getD_eq_getElem?_getD, List.getElem?_eq_getElem hj]; exact e⟩
/-- The round of all. -/
def rdA (x : Img) (s : BitVec 32) : Int := rdK x (tasksL x s) (tasksL x s).length
theorem rdA_rng (x : Img) (s : BitVec 32) : 0 ≤ rdA x s ∧ rdA x s ≤ 1099511627776 := rdK_rng _ _ _
theorem rdA_dvd {x : Img} (h : GoodI x) {s : BitVec 32} (hp : 0 < rdA x s) {i : Nat} (hi : i < x.tasks.length) (hb : s.getLsbD i = true) : (x.t i).per ∣ rdA x s := by
  obtain ⟨j, hj, e⟩ := tL_at h hi hb
  have := ((rdK_all hp).1 j hj).2
  rwa [e] at this
theorem rdA_mod {x : Img} (h : GoodI x) {s : BitVec 32} (hp : 0 < rdA x s) {i : Nat} (hi : i < x.tasks.length) (hb : s.getLsbD i = true) : rdA x s % (x.t i).per = 0 := Int.emod_eq_zero_of_dvd (rdA_dvd h hp hi hb)
theorem rdA_least {x : Img} (_h : GoodI x) {s : BitVec 32} (hp : 0 < rdA x s) {d : Int} (hd : 2 ≤ d) (hz : rdA x s % d = 0) : dvdB x s (rdA x s / d) = false := by
  cases hb : dvdB x s (rdA x s / d) with
  | false => rfl
  | true =>
    exfalso
    have hdv : d ∣ rdA x s := Int.dvd_of_emod_eq_zero hz
    obtain ⟨a, b, c⟩ := div_pos_of hp (by omega) hdv
    have hr : rdA x s ∣ rdA x s / d := (rdK_all hp).2 _ fun j hj => by
      have hi := tasksL_lt hj
      have hm : (tasksL x s).getD j 0 ∈ tasksL x s := by rw [List.getD_eq_getElem?_getD, List.getElem?_eq_getElem hj]; exact List.getElem_mem hj
      exact Int.dvd_of_emod_eq_zero (dvdB_iff.1 hb _ hi (tasksL_mem.1 hm).2.1)
    have hle := Int.le_of_dvd a hr
    have h2 : rdA x s / d * 2 ≤ rdA x s / d * d := Int.mul_le_mul_of_nonneg_left hd (by omega)
    omega
def someB (s : BitVec 32) : Nat → Bool
  | 0 => false
  | n + 1 => someB s n || s.getLsbD n
theorem someB_no {s : BitVec 32} : ∀ {n}, someB s n = false → lst s n = []
  | 0, _ => rfl
  | n + 1, h => by
    unfold someB at h
    simp only [Bool.or_eq_false_iff] at h
    rw [lst_succ, if_neg (by simp [h.2]), someB_no h.1]
theorem rdA_one {x : Img} (h : GoodI x) {s : BitVec 32} (hs : someB s x.tasks.length = false) : rdA x s = 1 := by
  unfold rdA
  rw [tL_eq h, someB_no hs]
  rfl
/-- The exact sum of all, against the round. -/
def exS (x : Img) (s : BitVec 32) (n : Int) (k : Nat) : Int := smK s.getLsbD (fun i => (x.t i).cost * (n / (x.t i).per)) k
theorem csum_smS (x : Img) (L : List Nat) (n : Int) : ∀ k, csum x L n k = smS (fun i => (x.t i).cost * (n / (x.t i).per)) L k
  | 0 => rfl
  | k + 1 => by unfold csum smS; rw [csum_smS x L n k]
theorem csum_all {x : Img} (h : GoodI x) (s : BitVec 32) (n : Int) : csum x (tasksL x s) n (tasksL x s).length = exS x s n x.tasks.length := by
  rw [csum_smS, tL_eq h, smS_lst]
  rfl
def exA (x : Img) (s : BitVec 32) : Option (Int × Int) := exK x (tasksL x s) (tasksL x s).length
theorem rdA_fact {x : Img} (h : GoodI x) {s : BitVec 32} (hp : 0 < rdA x s) : ∀ j, j < (tasksL x s).length → 0 < (x.t ((tasksL x s).getD j 0)).per ∧ (x.t ((tasksL x s).getD j 0)).per ∣ rdA x s ∧ 0 ≤ (x.t ((tasksL x s).getD j 0)).cost ∧ (x.t ((tasksL x s).getD j 0)).cost ≤ 4096 := fun j hj => by
  have hi := tasksL_lt hj
  have a := h.per _ hi
  have b := h.cost _ hi
  exact ⟨by omega, ((rdK_all hp).1 j hj).2, by omega, by omega⟩
theorem exA_good {x : Img} (hr : rightB x = true) {s : BitVec 32} (hp : 0 < rdA x s) (hl : rdA x s ≤ 16777216) : ∃ p, exA x s = some p ∧ ExI (rdA x s) p (exS x s (rdA x s) x.tasks.length) := by
  have h := rightB_good hr
  have hlen : (tasksL x s).length ≤ 100 := by
    have := lst_len (btw s (-1) (x.tasks.length : Int)) 32
    show (lst _ 32).length ≤ 100
    omega
  obtain ⟨p, e, i⟩ := exK_good hp hl (tasksL x s).length hlen fun j hj => by
    obtain ⟨a, b, c, -⟩ := rdA_fact h hp j hj
    have hi := tasksL_lt hj
    have d1 := h.cd _ hi
    have d2 := dl_per hr _ hi
    exact ⟨a, b, c, by omega⟩
  rw [csum_all h] at i
  exact ⟨p, e, i⟩
theorem exS_rng {x : Img} (h : GoodI x) {s : BitVec 32} {n : Int} (hn : 0 ≤ n) (hl : n ≤ 16777216) : ∀ k, k ≤ x.tasks.length → 0 ≤ exS x s n k ∧ exS x s n k ≤ 1099511627776 := fun k hk => by
  have hn16 := h.n16
  have a : 0 ≤ exS x s n k ∧ exS x s n k ≤ (k : Int) * 68719476736 := by
    unfold exS
    refine smK_rng (by omega) k fun i hi => ?_
    have c := h.cost i (by omega)
    have p := h.per i (by omega)
    have q := quo_bds (a := n) (b := (x.t i).per) hn (by omega)
    refine ⟨Int.mul_nonneg (by omega) q.1, ?_⟩
    have := Int.mul_le_mul_of_nonneg_right (show (x.t i).cost ≤ 4096 by omega) q.1
    omega
  have : (k : Int) * 68719476736 ≤ 16 * 68719476736 := by omega
  omega
end Go.Proofs.YtihomapbncnhaaaDoor
