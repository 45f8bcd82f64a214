/- Several texts in one: NH, NI, PC, PD, PE, PF. -/
import Derived.Test.YtchmdnmifpjfkaaDoorPk13
import Derived.Test.YtchmdnmifpjfkaaDoorPk10
import Derived.Test.YtchmdnmifpjfkaaDoorPk09
import Derived.Test.YtchmdnmifpjfkaaDoorPk12
/- check's total over an iterator that ranges over iterators. -/
namespace Go.Proofs.YtchmdnmifpjfkaaDoor
open Go.RowKit
attribute [local go_sem] Oper.semAt_some

theorem Foot.ex {α : Type} {F : World → Nat → Prop} {I : α → World → Prop} (h : ∀ a, Foot F (I a)) : Foot F (fun W => ∃ a, I a W) := ⟨fun W ⟨a, hw⟩ => (h a).lt W hw, fun W W' ⟨a, hw⟩ hc => ⟨⟨a, ((h a).keep W W' hw hc).1⟩, ((h a).keep W W' hw hc).2⟩⟩
def FT (b : Nat) (_ : World) (j : Nat) : Prop := j < b + 2 ∨ j = b + 2 ∨ j = b + 3
set_option maxHeartbeats 4000000 in
set_option maxRecDepth 100000 in
theorem total_inF (gf : Nat) (lb : Array Value) (eg : ∀ args w, (callFunc gf args).run Tryd.prog w = .ok (.enter gf args) w) (xs : List Int) (w : World)
    (hit : ∀ (J Jx : Nat → World → Prop) (W1 : World), w.heap.size + 4 = W1.heap.size → Below w.heap.size w W1 →
      (∀ k W, J k W → Below w.heap.size w W) → (∀ k, Foot (FT w.heap.size) (J k)) → (∀ k, Foot (FT w.heap.size) (Jx k)) →
      RoundsF Tryd.prog (w.heap.size + 3) xs.length (fun k => #[.int .i64 (nth xs k)]) (FT w.heap.size) J Jx → J 0 W1 →
      Iter Tryd.prog gf lb (w.heap.size + 3) xs.length J Jx W1) :
    Calls Tryd.prog 112 #[.func (.func gf) #[] lb] w fun e w' => e = resOf xs ∧ Below w.heap.size w w' := by
  refine (callsIn_wide (n := 0)).1 ?_
  have hmf : ∀ (fn : Fn) (first cap : Array Value) (w : World), (Instr.makeFunc fn first cap).run Tryd.prog w = .ok (.func fn first cap) w := fun _ _ _ _ => rfl
  obtain ⟨Z, hZ⟩ : ∃ Z, Z = w.heap.size := ⟨_, rfl⟩
  have HZ := Lib.hid hZ
  rw [← hZ] at hit
  have HIT := Lib.hid hit
  clear hit
  refine callsIn_of_wp_marks Tryd.func112 rfl trivial ?_ rfl
  simp only [Tryd.ntmps112, List.size_toArray, List.length_cons, List.length_nil, Nat.reduceAdd, Nat.reduceSub, Array.replicate_succ, Array.replicate_zero, List.push_toArray, List.append_toArray, List.nil_append, List.cons_append]
  gi_wp2
  obtain ⟨w2, hw2⟩ : ∃ w2, (w.alloc (Obj.cells #[Value.int IntKind.i64 0] 3)).alloc (Obj.cells #[Value.bool true] 4) = w2 := ⟨_, rfl⟩
  have H2 := Lib.hid (show Below w.heap.size w w2 ∧ w2.heap.size = Z + 2 ∧ C2 w2 Z 3 4 #[.int .i64 0] #[.bool true] w2 by
    rw [← hw2, hZ]
    exact ⟨((Below.refl _ w).alloc (Nat.le_refl _) _).alloc (by simp) _, by simp, Ch.refl _ _, row_keep (RowAt.mk _ _ _) _, row_next _ _ (by simp) _ _⟩)
  rw [hw2]
  rw [← hZ]
  clear hw2 hZ
  have HBe := Lib.hid (show ∀ (W' : World) (cs cs' : Array Value), C2 w2 Z 3 4 cs cs' W' → Below w.heap.size w W' from fun W' f g h => H2.out.1.trans (h.1.below (fun j hj e => by have := HZ.out; rcases e with e | e <;> omega) H2.out.1.size))
  refine wpIn_rangeF3 (gf := gf) (lb := lb) rfl eg xs.length (fun k => #[.int .i64 (nth xs k)]) (fun _ => rfl) (fun _ j => j < Z + 2)
    (fun k W => ∃ s, C2 w2 Z 3 4 #[.int .i64 s] #[.bool true] W ∧ runS 0 (xs.take k) = some s)
    (fun c k W => c = .exit 0 ∧ C2 w2 Z 3 4 #[.int .i64 0] #[.bool false] W ∧ runS 0 xs = none)
    (fun k => Foot.ex fun s => Foot.snd (C2.foot H2.out.2.1 (by omega))) (fun c k => Foot.pure _ (Foot.snd (C2.foot H2.out.2.1 (by omega)))) ⟨0, H2.out.2.2, rfl⟩
    (fun k a' _ => a' = { tmps := #[.func (.func gf) #[] lb, undef, .pointer (some ⟨Z, 0, none⟩), .pointer (some ⟨Z + 1, 0, none⟩), .int .i64 (nth xs k),
      .func (.func 114) #[] #[.pointer (some ⟨Z, 0, none⟩), .pointer (some ⟨Z + 1, 0, none⟩)], .func (.func gf) #[] lb, .int .i64 (nth xs k), undef, undef, undef, undef, undef, undef, undef, undef, undef, undef], defers := [] })
    (fun _ _ _ _ h _ => h) ?hit ?assign ?body ?done ?stop
  case hit =>
    intro J Jx W1 h1 h2 h3 h4 h5 h6 h7 h8
    rw [H2.out.2.1] at h1 h2 h3 h4 h5 h6 h7 ⊢
    exact HIT.out J Jx W1 (by omega) (by have hb := H2.out.1.trans (h2.mono (by have := HZ.out; omega)); rwa [← HZ.out] at hb) (fun k W h => by obtain ⟨s, hs, -⟩ := (h3 k W h).1; have hb := HBe.out W _ _ hs; rwa [← HZ.out] at hb) h5 h6 h7 h8
  case assign =>
    intro k W K hi hk hz hK
    have HK := Lib.hid hK
    have HKI := Lib.hid hi
    clear hK hi
    gi_wp2
    exact HK.out _ _ rfl (Ch.refl _ _) HKI.out (fun _ h => h)
  case body =>
    rintro k a' W ⟨s, hI, h2⟩ hk rfl hz ⟨rec0, hrec⟩ hnl
    rw [H2.out.2.1] at hz hrec hnl ⊢
    have ht := take_succ_getD xs k hk
    have hrun : runS 0 (xs.take (k + 1)) = if addB s (nth xs k) then some (addN s (nth xs k)) else none := by rw [ht, runS_snoc, h2]; rfl
    have HR := Lib.hid hrun
    clear h2 hrun ht
    have k0 : W.cell? ⟨Z, 0, none⟩ = some (.int .i64 s) := hI.2.1.cell 0
    have k1 : W.cell? ⟨Z + 1, 0, none⟩ = some (.bool true) := hI.2.2.cell 0
    have f0 : W.frozen? ⟨Z, 0, none⟩ = false := hI.2.1.fr 0
    have f1 : W.frozen? ⟨Z + 1, 0, none⟩ = false := hI.2.2.fr 0
    have HI := Lib.hid hI
    clear hI
    cases hb : addB s (nth xs k)
    · have hn := addN_f hb
      gi_wp2_with (refine ⟨trivial, rfl, ?_⟩; gi_at_call 103; refine (CallsIn.inRound _ (callsIn_wide.2 (add_any _ _ _))).mono ?_; rintro e w' ⟨rfl, rfl⟩)
      have hr := HR.out
      rw [hb] at hr
      exact ⟨C2.turn (by omega) (Below.refl _ _) _ _, rfl, HI.out.set _ _, runS_take_none hr⟩
    · gi_wp2_with (refine ⟨trivial, rfl, ?_⟩; gi_at_call 103; refine (CallsIn.inRound _ (callsIn_wide.2 (add_any _ _ _))).mono ?_; rintro e w' ⟨rfl, rfl⟩)
      have hr := HR.out
      rw [hb] at hr
      exact ⟨C2.turn (by omega) (Below.refl _ _) _ _, _, HI.out.set _ _, hr⟩
  case done =>
    rintro W ⟨s, hI, h2⟩ hD hnD hz
    rw [H2.out.2.1] at hD hnD hz
    rw [H2.out.2.1]
    have h3 : W.cell? ⟨Z, 0, none⟩ = some (.int .i64 s) := hI.2.1.cell 0
    have h5 : W.cell? ⟨Z + 1, 0, none⟩ = some (.bool true) := hI.2.2.cell 0
    have h4 : W.frozen? ⟨Z, 0, none⟩ = false := hI.2.1.fr 0
    have h6 : W.frozen? ⟨Z + 1, 0, none⟩ = false := hI.2.2.fr 0
    have h1 := HBe.out W _ _ hI
    have HR := Lib.hid h2
    clear hI h2
    gi_wp2
    gi_region
    all_goals
      gi_wp2
      have h2 := HR.out
      rw [List.take_length] at h2
      have hc : Ch (fun j => j = Z ∨ j = Z + 1) W ((W.setCell ⟨Z, 0, none⟩ (Value.int IntKind.i64 s)).setCell ⟨Z + 1, 0, none⟩ (Value.bool true)).drew := (((Ch.refl _ W).setCell _ _ (.inl (.inl rfl))).setCell _ _ (.inl (.inr rfl))).drew
      have hZ := HZ.out
      refine total_leaves _ Z (Z + 2) s true _ _ rfl rfl (by simp [go_sem, h3]) (by simp [go_sem, h5]) (hc.obj hD (by omega)) (by omega) ⟨?_, ?_⟩
      · unfold resOf; rw [h2]; rfl
      · exact h1.trans ((hc.mono (T' := fun j => j = Z ∨ j = Z + 1 ∨ j = Z + 2) (by intro k _ h; omega)).putObj _ _ (.inr (.inr rfl)) |>.below (by intro k hk; omega) h1.size)
  case stop =>
    rintro c k W hk ⟨rfl, hI, h2⟩ hD hnD hz
    rw [H2.out.2.1] at hD hnD hz
    rw [H2.out.2.1]
    have h3 : W.cell? ⟨Z, 0, none⟩ = some (.int .i64 0) := hI.2.1.cell 0
    have h5 : W.cell? ⟨Z + 1, 0, none⟩ = some (.bool false) := hI.2.2.cell 0
    have h4 : W.frozen? ⟨Z, 0, none⟩ = false := hI.2.1.fr 0
    have h6 : W.frozen? ⟨Z + 1, 0, none⟩ = false := hI.2.2.fr 0
    have h1 := HBe.out W _ _ hI
    have HR := Lib.hid h2
    clear hI h2
    gi_wp2
    gi_region
    all_goals
      gi_wp2
      have h2 := HR.out
      have hc : Ch (fun j => j = Z ∨ j = Z + 1) W ((W.setCell ⟨Z, 0, none⟩ (Value.int IntKind.i64 0)).setCell ⟨Z + 1, 0, none⟩ (Value.bool false)).drew := (((Ch.refl _ W).setCell _ _ (.inl (.inl rfl))).setCell _ _ (.inl (.inr rfl))).drew
      have hZ := HZ.out
      refine total_leaves _ Z (Z + 2) 0 false _ _ rfl rfl (by simp [go_sem, h3]) (by simp [go_sem, h5]) (hc.obj hD (by omega)) (by omega) ⟨?_, ?_⟩
      · unfold resOf; rw [h2]; rfl
      · exact h1.trans ((hc.mono (T' := fun j => j = Z ∨ j = Z + 1 ∨ j = Z + 2) (by intro k _ h; omega)).putObj _ _ (.inr (.inr rfl)) |>.below (by intro k hk; omega) h1.size)
end Go.Proofs.YtchmdnmifpjfkaaDoor
/- The contract of load's Of: what its iterator hands on. -/
namespace Go.Proofs.YtchmdnmifpjfkaaDoor
open Go.RowKit
attribute [local go_sem] Oper.semAt_some

/-- An invariant beside a row that nobody turns. -/
def InR (F : World → Nat → Prop) (I : World → Prop) (B : Nat) (t : TypeId) (cs : Array Value) (A : World) : Prop := I A ∧ ¬ F A B ∧ RowAt A B t cs
theorem InR.foot {F : World → Nat → Prop} {I : World → Prop} (f : Foot F I) (B : Nat) (t : TypeId) (cs : Array Value) : Foot (FIn F B) (InR F I B t cs) where
  lt := fun W ⟨h1, _, h3⟩ j hj => by
    rcases hj with hj | rfl
    · exact f.lt W h1 j hj
    · exact h3.lt
  keep := fun W W' ⟨h1, h2, h3⟩ hc => by
    have hk := f.keep W W' h1 (Ch.mono hc fun j _ hn hf => hn (.inl hf))
    exact ⟨⟨hk.1, fun hf => h2 (hk.2 _ hf), h3.keep hc (fun hn => hn (.inr rfl))⟩, fun j hj => by
        rcases hj with hj | hj
        · exact .inl (hk.2 _ hj)
        · exact .inr hj⟩
theorem InR.step {F : World → Nat → Prop} {I I' : World → Prop} {B : Nat} {t : TypeId} {cs : Array Value} {A A' : World} (h : InR F I B t cs A) (hs : Step F A A') (hI : I' A') : Step (FIn F B) A A' ∧ InR F I' B t cs A' := by
  obtain ⟨h1, h2, h3⟩ := h
  refine ⟨⟨Ch.mono hs.1 fun _ _ hf => .inl hf, fun j hj => ?_⟩, hI, hs.no h2 h3.lt, h3.keep hs.1 h2⟩
  rcases hj with hj | hj
  · rcases hs.2 j hj with h | h
    · exact .inl (.inl h)
    · exact .inr h
  · exact .inl (.inr hj)
theorem InR.two {F : World → Nat → Prop} {I I' : World → Prop} {Yb l B : Nat} {t : TypeId} {cs : Array Value} {A A' : World} (h : InR (FIn F Yb) (InT F I Yb l) B t cs A) (hs : Step F A A') (hI : I' A') : Step (FIn (FIn F Yb) B) A A' ∧ InR (FIn F Yb) (InT F I' Yb l) B t cs A' := InR.step h (InT.step h.1 hs hI).1 (InT.step h.1 hs hI).2
/-- A step behind new blocks alone. -/
theorem Step.after {F : World → Nat → Prop} {A A1 B : World} (hc : Ch (fun _ => False) A A1) (hf : ∀ j, F A1 j → F A j) (h : Step F A1 B) : Step F A B :=
  ⟨(Ch.mono hc fun _ _ (h : False) => h.elim).trans (Ch.mono h.1 fun j _ hj => hf j hj), fun j hj => by
    rcases h.2 j hj with h | h
    · exact .inl (hf j h)
    · exact .inr (Nat.le_trans hc.size h)⟩
theorem Foot.any {F : World → Nat → Prop} {Jx : Nat → World → Prop} (h : ∀ k, Foot F (Jx k)) (N : Nat) : Foot F (fun A => ∃ m, m ≤ N ∧ Jx m A) := ⟨fun W ⟨m, _, hw⟩ => (h m).lt W hw, fun W W' ⟨m, hm, hw⟩ hc => ⟨⟨m, hm, ((h m).keep W W' hw hc).1⟩, ((h m).keep W W' hw hc).2⟩⟩
def thF (x : Img) (i : Nat) : Int := upN (mulN 1000 (x.t i).cost) (x.t i).per
end Go.Proofs.YtchmdnmifpjfkaaDoor
/- What Late goes through. -/
namespace Go.Proofs.YtchmdnmifpjfkaaDoor
open Go.RowKit
attribute [local go_sem] Oper.semAt_some

/-- Of the first so many, those that are wanted. -/
def flt (f : Nat → Bool) (L : List Nat) (k : Nat) : List Nat := (L.take k).filter f
theorem take_snoc {L : List Nat} {k : Nat} (hk : k < L.length) : L.take (k + 1) = L.take k ++ [L.getD k 0] := by
  rw [List.take_add_one, List.getD_eq_getElem?_getD, List.getElem?_eq_getElem hk]
  rfl
theorem flt_yes {f : Nat → Bool} {L : List Nat} {k : Nat} (hk : k < L.length) (h : f (L.getD k 0) = true) : flt f L (k + 1) = flt f L k ++ [L.getD k 0] := by
  unfold flt
  rw [take_snoc hk, List.filter_append]
  congr 1
  unfold List.filter
  rw [h]
  rfl
theorem flt_no {f : Nat → Bool} {L : List Nat} {k : Nat} (hk : k < L.length) (h : f (L.getD k 0) = false) : flt f L (k + 1) = flt f L k := by
  unfold flt
  rw [take_snoc hk, List.filter_append]
  unfold List.filter
  rw [h]
  simp [List.filter]
theorem flt_all (f : Nat → Bool) (L : List Nat) : flt f L L.length = L.filter f := by unfold flt; rw [List.take_length]
theorem flt_at {f : Nat → Bool} {L : List Nat} {k : Nat} (hk : k < L.length) (h : f (L.getD k 0) = true) : (flt f L k).length < (L.filter f).length ∧ (L.filter f).getD (flt f L k).length 0 = L.getD k 0 := by
  have e : L.filter f = flt f L (k + 1) ++ (L.drop (k + 1)).filter f := by
    unfold flt
    rw [← List.filter_append, List.take_append_drop]
  rw [flt_yes hk h] at e
  rw [e]
  simp
theorem flt_le (f : Nat → Bool) (L : List Nat) (k : Nat) : (flt f L k).length ≤ (L.filter f).length := by
  have e : L.filter f = flt f L k ++ (L.drop k).filter f := by
    unfold flt
    rw [← List.filter_append, List.take_append_drop]
  rw [e]
  simp
/-- The tasks that may be late. -/
def lateL (o n s : BitVec 32) (fw fb : Nat → Int) : List Nat := (lst (o ||| n ||| s) 32).filter fun i => lateB n s fw fb (i : Int)
set_option maxHeartbeats 4000000 in
set_option maxRecDepth 100000 in
theorem wnlate_in (l Bs : Nat) (o n s : BitVec 32) (fo fw fb : Nat → Int) (F : World → Nat → Prop) (J Jx : Nat → World → Prop) (W : World)
    (hT0 : ∀ k W', J k W' → Tab W') (hC : ∀ k W', J k W' → RowAt W' Bs 36 (shl_ o n s fo fw fb).toArray)
    (hR : RoundsF Tryd.prog l (lateL o n s fw fb).length (fun k => #[.int .i64 ((lateL o n s fw fb).getD k 0 : Nat)]) F J Jx)
    (fJ : ∀ k, Foot F (J k)) (fJx : ∀ k, Foot F (Jx k)) (h0 : J 0 W) :
    Iter Tryd.prog 74 #[.pointer (some ⟨Bs, 0, none⟩)] l (lateL o n s fw fb).length J Jx W := by
  have HT := Lib.hid (show (shl_ o n s fo fw fb).toArray[0]? = some (.int .u32 (w32 o)) ∧ (shl_ o n s fo fw fb).toArray[1]? = some (.int .u32 (w32 n)) ∧ (shl_ o n s fo fw fb).toArray[2]? = some (.int .u32 (w32 s)) ∧ (shl_ o n s fo fw fb).toArray.size = 51 from ⟨by simp [shl_], by simp [shl_], by simp [shl_], by simp [shl_len]⟩)
  have HLa := Lib.hid (show ∀ (i : Nat) wx, _ from fun i wx => wnlate_any o n s fo fw fb (i : Int) wx)
  have HBo := Lib.hid (show ∀ wx, _ from fun wx => clsBoth_any o n s wx)
  obtain ⟨f, hf⟩ : ∃ f : Nat → Bool, (fun i : Nat => lateB n s fw fb (i : Int)) = f := ⟨_, rfl⟩
  have HF := Lib.hid (show ∀ i : Nat, lateB n s fw fb (i : Int) = f i from fun i => by rw [← hf])
  have HLL := Lib.hid (show lateL o n s fw fb = (lst (o ||| n ||| s) 32).filter f by rw [← hf]; rfl)
  rw [HLL.out] at hR ⊢
  obtain ⟨T, hT⟩ : ∃ T, (shl_ o n s fo fw fb).toArray = T := ⟨_, rfl⟩
  rw [hT] at HT HLa hC
  have HI := Lib.hid (show (Tryd.prog.info? 36).map (·.size) = some T.size by rw [HT.out.2.2.2]; kernel_rfl)
  clear HLL hf hT
  obtain ⟨y, hy⟩ : ∃ y, o ||| n ||| s = y := ⟨_, rfl⟩
  rw [hy] at HBo hR ⊢
  clear hy
  obtain ⟨L, hL⟩ : ∃ L, lst y 32 = L := ⟨_, rfl⟩
  have HLy := Lib.hid hL
  rw [hL] at hR ⊢
  clear hL
  obtain ⟨N, hN⟩ : ∃ N, L.length = N := ⟨_, rfl⟩
  have HNN := Lib.hid hN
  obtain ⟨M, hM⟩ : ∃ M, (L.filter f).length = M := ⟨_, rfl⟩
  have HMM := Lib.hid (show (flt f L N).length = M by rw [← hN, flt_all, hM])
  have HML := Lib.hid (show ∀ k, (flt f L k).length ≤ M from fun k => by rw [← hM]; exact flt_le f L k)
  have HYs := Lib.hid (show ∀ k, k < N → f (L.getD k 0) = true → (flt f L (k + 1)).length = (flt f L k).length + 1 ∧ (flt f L k).length < M ∧ (L.filter f).getD (flt f L k).length 0 = L.getD k 0 from fun k hk h => by rw [flt_yes (by omega) h, ← hM]; exact ⟨by simp, flt_at (by omega) h⟩)
  have HNo := Lib.hid (show ∀ k, k < N → f (L.getD k 0) = false → flt f L (k + 1) = flt f L k from fun k hk h => flt_no (by omega) h)
  have HF0 := Lib.hid (show (flt f L 0).length = 0 from rfl)
  rw [hM] at hR ⊢
  clear hN hM
  have HR := Lib.hid hR
  have HTb := Lib.hid hT0
  have HC := Lib.hid hC
  have HJ := Lib.hid (And.intro fJ (And.intro fJx h0))
  have r0 := hC 0 W h0
  have hbs := r0.lt
  obtain ⟨Yb, hYb⟩ : ∃ Yb, Yb = W.heap.size := ⟨_, rfl⟩
  have r1 := row_keep r0 (.cells #[.func (.yield l) #[] #[]] 72)
  have c0 : (W.alloc (.cells #[.func (.yield l) #[] #[]] 72)).cell? ⟨Bs, 0, none⟩ = some (.int .u32 (w32 o)) := (r1.cell 0).trans HT.out.1
  have c1 : (W.alloc (.cells #[.func (.yield l) #[] #[]] 72)).cell? ⟨Bs, 1, none⟩ = some (.int .u32 (w32 n)) := (r1.cell 1).trans HT.out.2.1
  have c2 : (W.alloc (.cells #[.func (.yield l) #[] #[]] 72)).cell? ⟨Bs, 2, none⟩ = some (.int .u32 (w32 s)) := (r1.cell 2).trans HT.out.2.2.1
  clear hR hT0 hC fJ fJx h0 r0 r1 hbs
  refine callsIn_of_wp_marks Tryd.func74 rfl trivial ?_ rfl
  simp only [Tryd.ntmps74, List.size_toArray, List.length_cons, List.length_nil, Nat.reduceAdd, Nat.reduceSub, Array.replicate_succ, Array.replicate_zero, List.push_toArray, List.append_toArray, List.nil_append, List.cons_append]
  gi_wp2_with (first
    | (refine ⟨trivial, rfl, ?_⟩; gi_at_call 33; refine (callsIn_wide.2 (HBo.out _)).mono ?_; rintro e w1 ⟨rfl, b1⟩; have H1 := Lib.hid b1; clear b1)
    | (refine ⟨trivial, rfl, ?_⟩; gi_at_call 53; refine (callsIn_wide.2 (All_any _ _)).mono ?_; rintro e w' ⟨rfl, rfl⟩)
    | fail)
  obtain ⟨B, hB⟩ : ∃ B, B = w1.heap.size := ⟨_, rfl⟩
  rw [← hYb, ← hB]
  generalize hw2 : World.alloc w1 _ = w2
  have H2 := Lib.hid (show InT F (J (flt f L 0).length) Yb l w2 ∧ w2.cell? ⟨B, 0, none⟩ = some (.int .u32 (w32 y)) ∧ w2.heap.size = B + 1 by
    have b0 : Below W.heap.size W (W.alloc (.cells #[.func (.yield l) #[] #[]] 72)) := (Below.refl _ _).alloc (Nat.le_refl _) _
    have b2 : Below W.heap.size W w2 := by rw [← hw2]; exact (b0.trans (H1.out.mono b0.size)).alloc ((b0.trans (H1.out.mono b0.size)).size) _
    have kk := (HJ.out.1 0).keep W w2 HJ.out.2.2 (Off.new b2)
    have ry : RowAt w2 W.heap.size 72 #[.func (.yield l) #[] #[]] := by rw [← hw2]; exact row_keep ((RowAt.mk W _ _).new H1.out) _
    rw [← hYb] at ry
    refine ⟨⟨by rw [HF0.out]; exact kk.1, ⟨fun hf => by have := (HJ.out.1 0).lt W HJ.out.2.2 Yb (kk.2 Yb hf); omega, ry.lt⟩, ry.cell 0⟩, ?_, by rw [← hw2, hB]; simp⟩
    rw [← hw2]
    exact (row_next w1 B hB.symm _ _).cell 0)
  clear hw2 hB hYb c0 c1 c2 H1
  have HX := Lib.hid (Foot.any HJ.out.2.1 M)
  refine wpIn_rangeF (gf := 80) (lb := #[.pointer (some ⟨B, 0, none⟩)]) rfl (enters_of Tryd.func80 (by kernel_rfl) rfl)
    N (fun k => #[.int .i64 (nth (ints L) k)]) (fun _ => rfl) (FIn F Yb)
    (fun k A => InT F (J (flt f L k).length) Yb l A) (fun c _ A => c = .ret ∧ InT F (fun A => ∃ m, m ≤ M ∧ Jx m A) Yb l A)
    (fun k => InT.foot (HJ.out.1 _) Yb l) (fun c k => Foot.pure _ (InT.foot HX.out Yb l)) H2.out.1
    (fun k a' _ => a' = { tmps := #[.func (.yield l) #[] #[], .pointer (some ⟨Bs, 0, none⟩), .pointer (some ⟨Yb, 0, none⟩), .int .i64 (nth (ints L) k), .pointer (some ⟨Bs, 0, none⟩), .agg #[.int .u32 (w32 o), .int .u32 (w32 n), .int .u32 (w32 s)], .int .u32 (w32 y), .func (.func 80) #[] #[.pointer (some ⟨B, 0, none⟩)], .int .i64 (nth (ints L) k), undef, undef, undef, undef, undef, undef, undef, undef, undef], defers := [] })
    (fun _ _ _ _ h _ => h) ?hit ?assign ?body ?done ?stop
  case hit =>
    intro J' Jx' W1 h1 h2 h3 h4 h5 h6 h7 h8
    rw [H2.out.2.2] at h1 h2 h3 h4 h5 h6 h7 ⊢
    rw [← HLy.out] at h7
    have hN2 : N = (lst y 32).length := by rw [← HNN.out, HLy.out]
    rw [hN2] at h7 ⊢
    exact all_in _ B y _ J' Jx' W1 (fun j W' h => HTb.out _ W' (h3 j W' h).1.1) ((h2.cell (p := ⟨B, 0, none⟩) (show B < B + 1 by omega)).trans H2.out.2.1) h7 h8
  case assign =>
    intro k W K hi' hk hK
    have HK := Lib.hid hK
    have HKI := Lib.hid hi'
    clear hK hi'
    gi_wp2
    exact HK.out _ _ rfl (Ch.refl _ _) HKI.out (fun _ h => h)
  case body =>
    rintro k a' A hI hk rfl hz
    have hkL : k < L.length := by rw [HNN.out]; exact hk
    rw [nth_ints hkL]
    have HLk := Lib.hid (fun wx => HLa.out (L.getD k 0) wx)
    rw [HF.out] at HLk
    have HYk := Lib.hid (HYs.out k hk)
    have HNk := Lib.hid (HNo.out k hk)
    have HRk := Lib.hid (HR.out (flt f L k).length)
    have hr := HC.out _ A hI.1
    have HI2 := Lib.hid hI
    have HNW := Lib.hid (show ∀ A1, Ch (fun _ => False) A A1 → InT F (J (flt f L k).length) Yb l A1 ∧ ∀ j, FIn F Yb A1 j → FIn F Yb A j from fun A1 hc => (InT.foot (HJ.out.1 _) Yb l).keep A A1 HI2.out (Off.nothing hc))
    obtain ⟨fi, hfi⟩ : ∃ b, f (L.getD k 0) = b := ⟨_, rfl⟩
    rw [hfi] at HLk HYk HNk
    obtain ⟨i, hi'⟩ : ∃ i, L.getD k 0 = i := ⟨_, rfl⟩
    rw [hi'] at HLk HYk ⊢
    obtain ⟨p, hp⟩ : ∃ p, (flt f L k).length = p := ⟨_, rfl⟩
    rw [hp] at HYk HRk HNW
    have HP := Lib.hid hp
    have HRW := Lib.hid hr
    clear hI hr hkL hfi hi' hp hz
    cases fi
    case false =>
      gi_wp2_with (first
        | (refine wpListIn_load_rowR rfl 36 (.tmp 1) rfl Bs rfl 36 T (0, 0) _ HRW.out Tryd.underlying36 rfl HI.out ?_)
        | (refine ⟨trivial, rfl, ?_⟩; gi_at_call 75; refine CallsIn.inRound _ ((callsIn_wide.2 (HLk.out _)).mono ?_); rintro e w7 ⟨rfl, b7⟩; have H7 := Lib.hid (show Ch (fun _ => False) A w7 from Ch.new b7); clear b7)
        | fail)
      all_goals
        refine ⟨fun _ h => (nomatch h), ?_⟩
        gi_wp2
        have hh := HNW.out _ H7.out
        have hn := HNk.out (by simp)
        refine ⟨⟨Ch.mono H7.out (fun _ _ (h : False) => h.elim), fun j hj => .inl (hh.2 j hj)⟩, ?_⟩
        show InT F (J (flt f L (k + 1)).length) Yb l _
        rw [hn, HP.out]
        exact hh.1
    case true =>
      gi_wp2_with (first
        | (refine wpListIn_load_rowR rfl 36 (.tmp 1) rfl Bs rfl 36 T (0, 0) _ HRW.out Tryd.underlying36 rfl HI.out ?_)
        | (refine ⟨trivial, rfl, ?_⟩; gi_at_call 75; refine CallsIn.inRound _ ((callsIn_wide.2 (HLk.out _)).mono ?_); rintro e w7 ⟨rfl, b7⟩; have H7 := Lib.hid (show Ch (fun _ => False) A w7 from Ch.new b7); clear b7; have ky := (HNW.out _ H7.out).1.2.2; obtain ⟨hp1, hp2, hp3⟩ := HYk.out (by simp); obtain ⟨fn, tmps, assign, body, hyd, hRo⟩ := HRk.out w7 (HNW.out _ H7.out).1.1 hp2; rw [hp3] at hyd)
        | fail)
      refine ⟨rfl, hRo.mono ?_⟩
      have HH1 := Lib.hid hp1
      have HH2 := Lib.hid hp2
      rintro e W3 (⟨rfl, hJ3, hs3⟩ | ⟨rfl, hJx3, hs3⟩)
      · have H3 := Lib.hid ((HNW.out _ H7.out).1.step hs3 hJ3)
        clear hJ3 hs3 hyd hRo hp1 hp2 hp3 ky
        gi_wp2
        refine ⟨Step.after H7.out (HNW.out _ H7.out).2 H3.out.1, ?_⟩
        show InT F (J (flt f L (k + 1)).length) Yb l _
        rw [HH1.out]
        exact H3.out.2
      · have H3 := Lib.hid ((HNW.out _ H7.out).1.step (I' := fun A => ∃ m, m ≤ M ∧ Jx m A) hs3 ⟨_, by omega, hJx3⟩)
        clear hJx3 hs3 hyd hRo hp1 hp2 hp3 ky
        gi_wp2
        exact ⟨Step.after H7.out (HNW.out _ H7.out).2 H3.out.1, rfl, H3.out.2⟩
  case done =>
    rintro A hI hD hnD hz
    rw [H2.out.2.2] at hD hnD hz
    have HA := Lib.hid (And.intro hI (And.intro hD hnD))
    clear hI hD hnD
    gi_wp2
    rw [H2.out.2.2]
    have hp : Ch (fun j => j = B + 1) A (A.putObj (B + 1) (.deferred none)) := (Ch.refl _ _).putObj _ _ rfl
    refine ⟨by simp, .inl ⟨_, _, rfl, run_takeDeferred HA.out.2.1, ?_⟩⟩
    have hj := ((HJ.out.1 _).keep A _ HA.out.1.1 (Off.of hp fun j hj hf => by subst hj; exact HA.out.2.2 (.inl hf))).1
    rw [HMM.out] at hj
    exact ⟨_, results_none rfl _ _ _, ⟨_, rfl⟩, .inl hj⟩
  case stop =>
    rintro c k A hk ⟨rfl, hI⟩ hD hnD hz
    rw [H2.out.2.2] at hD hnD hz
    have HA := Lib.hid (And.intro hI (And.intro hD hnD))
    clear hI hD hnD
    gi_wp2
    rw [H2.out.2.2]
    have hp : Ch (fun j => j = B + 1) A (A.putObj (B + 1) (.deferred none)) := (Ch.refl _ _).putObj _ _ rfl
    refine ⟨by simp, .inl ⟨_, _, rfl, run_takeDeferred HA.out.2.1, ?_⟩⟩
    exact ⟨_, results_none rfl _ _ _, ⟨_, rfl⟩, .inr (HX.out.keep A _ HA.out.1.1 (Off.of hp fun j hj hf => by subst hj; exact HA.out.2.2 (.inl hf))).1⟩
end Go.Proofs.YtchmdnmifpjfkaaDoor
/- The contracts of slices.Max, and of the reference's greater. -/
namespace Go.Proofs.YtchmdnmifpjfkaaDoor
open Go.RowKit

/-- The greatest of the first so many and one more. -/
def mxf (f : Nat → Int) : Nat → Int
  | 0 => f 0
  | k + 1 => max (mxf f k) (f (k + 1))
set_option maxHeartbeats 4000000 in
set_option maxRecDepth 100000 in
theorem slMax_any {w : World} (b off n c : Nat) (f : Nat → Int) (hn : 1 ≤ n) (hn2 : n ≤ 1000) (h : ∀ k, k < n → w.cell? ⟨b, off + k, none⟩ = some (.int .i64 (f k))) :
    Calls Tryd.prog 47 #[.slice (some ⟨b, off, none⟩) n c] w fun e w' => e = .returned (.int .i64 (mxf f (n - 1))) ∧ w = w' := by
  have HC := Lib.hid h
  have c0 : w.cell? ⟨b, off, none⟩ = some (.int .i64 (f 0)) := h 0 (by omega)
  have HM := Lib.hid (show ∀ k, mxf f (k + 1) = max (mxf f k) (f (k + 1)) from fun k => rfl)
  have HM0 := Lib.hid (show mxf f 0 = f 0 from rfl)
  obtain ⟨g, hg⟩ : ∃ g, mxf f = g := ⟨_, rfl⟩
  rw [hg] at HM HM0 ⊢
  have h1 : ¬ (n : Int) < 1 := by omega
  have hp : (0 : Int) < (n : Int) := by omega
  clear h hg
  obtain ⟨f0, hf0⟩ : ∃ v, f 0 = v := ⟨_, rfl⟩
  rw [hf0] at c0 HM0
  clear hf0
  go_enter Tryd.func47, Tryd.ntmps47
  go_wp2
  clear c0
  go_loopg [3, 4] (n - 1) (fun t u v wr => ∃ k : Nat, k + t = n - 1 ∧ u = .int .i64 (g k) ∧ v = .int .i64 ((k + 1 : Nat) : Int) ∧ Aside (w = wr))
  case atStart => exact ⟨0, by omega, by rw [HM0.out], rfl, rfl⟩
  case round =>
    obtain ⟨k, hkg, rfl, rfl, hw⟩ := hrel
    obtain rfl := hw.out
    clear hw
    cases gk with
    | zero =>
      have hk : k = n - 1 := by omega
      have h2 : ¬ ((k + 1 : Nat) : Int) < (n : Int) := by omega
      have HK := Lib.hid hk
      clear hk hkg
      go_wp2
      go_ret
      exact ⟨by rw [HK.out]; rfl, rfl⟩
    | succ t1 =>
      have hk : k + 1 < n := by omega
      have h2 : ((k + 1 : Nat) : Int) < (n : Int) := by omega
      have h3 : (k : Int) + 1 < (n : Int) := by omega
      have hc := HC.out (k + 1) hk
      have hm := HM.out k
      obtain ⟨v, hv⟩ : ∃ v, f (k + 1) = v := ⟨_, rfl⟩
      rw [hv] at hc hm
      obtain ⟨m, hmm⟩ : ∃ m, g k = m := ⟨_, rfl⟩
      rw [hmm] at hm ⊢
      have HG := Lib.hid hm
      clear hm hv hmm
      by_cases hlt : m < v
      · go_wp2
        go_roundg t1
        case measure => omega
        case rel => exact ⟨k + 1, by omega, by rw [HG.out]; congr 1; omega, by go_num, rfl⟩
      · go_wp2
        go_roundg t1
        case measure => omega
        case rel => exact ⟨k + 1, by omega, by rw [HG.out]; congr 1; omega, by go_num, rfl⟩
theorem gt19_any (a b : Int) (w : World) : Calls Tryd.prog 48 #[.int .i64 a, .int .i64 b] w fun e w' => e = .returned (.int .i64 (max a b)) ∧ w = w' := by
  by_cases h : b < a
  · rw [show max a b = a by omega]
    go_enter Tryd.func48, Tryd.ntmps48
    go_wp2
    go_ret
    exact ⟨rfl, rfl⟩
  · rw [show max a b = b by omega]
    go_enter Tryd.func48, Tryd.ntmps48
    go_wp2
    go_ret
    exact ⟨rfl, rfl⟩
end Go.Proofs.YtchmdnmifpjfkaaDoor
/- The contract of the reference's Sets. -/
namespace Go.Proofs.YtchmdnmifpjfkaaDoor
open Go.RowKit

theorem edge_modes {x : Img} (hr : rightB x = true) {k : Nat} (hk : k < x.edges.length) : (0 ≤ (x.e k).frm ∧ (x.e k).frm < (x.modes.length : Int)) ∧ (0 ≤ (x.e k).dst ∧ (x.e k).dst < (x.modes.length : Int)) := by
  have hc : (codeAll x).2 = 0 := by simpa [rightB] using hr
  have he : (codeE x).2 = 0 := by
    unfold codeAll at hc
    split at hc
    · split at hc
      · split at hc
        · exact hc
        · rename_i h1; exact absurd hc h1
      · rename_i h1; exact absurd hc h1
    · cases hc
  unfold codeE at he
  split at he
  · cases he
  · have hall : edgeOK x k = true := by
      cases hf : firstNo x.edges.length (edgeOK x) with
      | some j => rw [hf] at he; cases he
      | none =>
        unfold firstNo at hf
        have := List.find?_eq_none.1 hf k (List.mem_range.2 hk)
        simpa using this
    unfold edgeOK isMode at hall
    simp only [Bool.and_eq_true, decide_eq_true_eq] at hall
    exact ⟨hall.2.1, hall.2.2.1⟩
set_option maxHeartbeats 8000000 in
set_option maxRecDepth 100000 in
theorem sets19_any {w : World} {V : Nat → Prop} {x : Img} {S : ImgS} (h : ImgAt w V x S) (hr : rightB x = true) (k : Nat) (hk : k < x.edges.length) :
    Calls Tryd.prog 40 #[.agg #[.int .i64 x.res, .slice S.t.sp x.tasks.length S.t.c, .slice S.m.sp x.modes.length S.m.c, .slice S.e.sp x.edges.length S.e.c], .int .i64 (k : Nat)] w fun e w' => e = .returned (.tuple #[.int .u32 (w32 (edgeA x k)), .int .u32 (w32 (edgeB x k))]) ∧ Below w.heap.size w w' := by
  obtain ⟨⟨f1, f2⟩, ⟨g1, g2⟩⟩ := edge_modes hr hk
  have ea : edgeA x (k : Int) = (x.m (x.e k).frm.toNat).tasks := by unfold edgeA tasksM; rw [if_pos (by omega), Int.toNat_natCast, if_pos ⟨f1, f2⟩]
  have eb : edgeB x (k : Int) = (x.m (x.e k).dst.toNat).tasks := by unfold edgeB tasksM; rw [if_pos (by omega), Int.toNat_natCast, if_pos ⟨g1, g2⟩]
  rw [ea, eb]
  obtain ⟨fk, hfk⟩ : ∃ f : Nat, (x.e k).frm = f := ⟨(x.e k).frm.toNat, by omega⟩
  obtain ⟨gk, hgk⟩ : ∃ f : Nat, (x.e k).dst = f := ⟨(x.e k).dst.toNat, by omega⟩
  obtain ⟨hcs, hl1, hl2⟩ := h.ed k hk
  have hlen := edgeC_len hl1 hl2
  have hone := edgeC_one (x.e k)
  obtain ⟨hsp, hbl, -⟩ := h.se.at_ (by omega)
  have h0 : (edgeC (x.e k))[0]? = some (.int .i64 (x.e k).frm) := rfl
  have h1 : (edgeC (x.e k))[1]? = some (.int .i64 (x.e k).dst) := rfl
  rw [hfk] at f2 h0 ⊢
  rw [hgk] at g2 h1 ⊢
  simp only [Int.toNat_natCast]
  obtain ⟨m0, -, -⟩ := h.md fk (by omega)
  obtain ⟨m1, -, -⟩ := h.md gk (by omega)
  obtain ⟨hsm, -, -⟩ := h.sm.at_ (by omega)
  obtain ⟨A, hA⟩ : ∃ A, w32 (x.m fk).tasks = A := ⟨_, rfl⟩
  obtain ⟨B, hB⟩ : ∃ A, w32 (x.m gk).tasks = A := ⟨_, rfl⟩
  rw [hA] at m0 ⊢
  rw [hB] at m1 ⊢
  obtain ⟨cs, hcc⟩ : ∃ cs, edgeC (x.e k) = cs := ⟨_, rfl⟩
  rw [hcc] at hcs hlen hone h0 h1
  obtain ⟨nT, hnT⟩ : ∃ n, x.tasks.length = n := ⟨_, rfl⟩
  obtain ⟨nM, hnM⟩ : ∃ n, x.modes.length = n := ⟨_, rfl⟩
  obtain ⟨nE, hnE⟩ : ∃ n, x.edges.length = n := ⟨_, rfl⟩
  rw [hnM] at f2 g2
  rw [hnE] at hk
  rw [hnT, hnM, hnE, hsp, hsm]
  have HC := Lib.hid (And.intro hbl hcs)
  have HM := Lib.hid (show ∀ wx, Below w.heap.size w wx → wx.cell? ⟨S.m.b, S.m.o + fk * 2, none⟩ = some (.int .u32 A) ∧ wx.cell? ⟨S.m.b, S.m.o + gk * 2, none⟩ = some (.int .u32 B) from fun wx hb => ⟨(hb.cell (World.block_lt_of_cell? w _ m0)).trans m0, (hb.cell (World.block_lt_of_cell? w _ m1)).trans m1⟩)
  have HL := Lib.hid (And.intro hlen (And.intro hone (And.intro h0 h1)))
  have HI := Lib.hid (show (Tryd.prog.info? 66).map (·.size) = some cs.length by rw [hlen]; kernel_rfl)
  have e1 : (k : Int) < (nE : Int) := by omega
  clear h hr ea eb hfk hgk hcs hl1 hl2 hlen hone hsp hbl h0 h1 m0 m1 hsm hA hB hcc hnT hnM hnE f1 g1
  obtain ⟨Z, hZ⟩ : ∃ Z, Z = w.heap.size := ⟨_, rfl⟩
  go_enter Tryd.func40, Tryd.ntmps40
  go_upto_region 1 with fail
  rw [← hZ]
  generalize hw2 : World.alloc _ _ = w2
  have H2 := Lib.hid (show Below w.heap.size w w2 ∧ w2.heap.size = Z + 1 ∧ RowAt w2 Z 26 #[.int .i64 x.res, .slice S.t.sp nT S.t.c, .slice (some ⟨S.m.b, S.m.o, none⟩) nM S.m.c, .slice (some ⟨S.e.b, S.e.o, none⟩) nE S.e.c] by
    rw [← hw2, hZ]
    exact ⟨(Below.refl _ _).alloc (Nat.le_refl _) _, by simp, RowAt.mk _ _ _⟩)
  have HR2 := Lib.hid (show w2.rangeAt S.e.b (S.e.o + k * 23) cs from fun j u hu => (H2.out.1.cell (p := ⟨S.e.b, S.e.o + k * 23 + j, none⟩) HC.out.1).trans (HC.out.2 j u hu))
  clear hw2 hZ
  obtain ⟨c0, c1, c2, c3⟩ := img_cells H2.out.2.2
  go_upto_region 2 with (first
    | (refine wpList_load_mid rfl 66 (.tmp 10) rfl S.e.b (S.e.o + k * 23) rfl cs _ HR2.out Tryd.underlying66 rfl HI.out ?_)
    | (refine wpList_store_row rfl 66 (.tmp 6) (.tmp 11) rfl w2.heap.size cs.toArray rfl rfl 66 _ (RowAt.mk w2 _ _) (by rw [List.size_toArray]; exact HI.out) (by rw [List.size_toArray]; exact HL.out.1.symm) (by rw [List.all_toArray]; exact HL.out.2.1) ?_)
    | fail)
  rw [H2.out.2.1]
  generalize hw3 : World.setRow _ _ _ = w3
  have H3 := Lib.hid (show Below w.heap.size w w3 ∧ RowAt w3 Z 26 #[.int .i64 x.res, .slice S.t.sp nT S.t.c, .slice (some ⟨S.m.b, S.m.o, none⟩) nM S.m.c, .slice (some ⟨S.e.b, S.e.o, none⟩) nE S.e.c] ∧ RowAt w3 (Z + 1) 66 cs.toArray by
    rw [← H2.out.2.1] at hw3 ⊢
    have := row_made hw3
    exact ⟨H2.out.1.trans (this.1.mono H2.out.1.size), H2.out.2.2.new this.1, this.2.1⟩)
  clear hw3 c0 c1 c2 c3
  have c2 : w3.cell? ⟨Z, 2, none⟩ = some (.slice (some ⟨S.m.b, S.m.o, none⟩) nM S.m.c) := H3.out.2.1.cell 2
  have d0 : w3.cell? ⟨Z + 1, 0, none⟩ = some (.int .i64 (fk : Nat)) := (H3.out.2.2.cell 0).trans (by rw [List.getElem?_toArray]; exact HL.out.2.2.1)
  have d1 : w3.cell? ⟨Z + 1, 1, none⟩ = some (.int .i64 (gk : Nat)) := (H3.out.2.2.cell 1).trans (by rw [List.getElem?_toArray]; exact HL.out.2.2.2)
  obtain ⟨m0, m1⟩ := HM.out w3 H3.out.1
  go_quiet (fail)
  go_wp2
  go_ret2
  exact ⟨rfl, below_dn H3.out.1 _⟩
end Go.Proofs.YtchmdnmifpjfkaaDoor
/- The contracts of the reference's Offset and Behind. -/
namespace Go.Proofs.YtchmdnmifpjfkaaDoor
open Go.RowKit

/-- From which offset on a task may come. -/
def offR (a b : BitVec 32) (l : Nat → Int) (i : Nat) : Int := if hasB b (i : Int) && !hasB a (i : Int) then l i else 0
set_option maxHeartbeats 8000000 in
set_option maxRecDepth 100000 in
theorem off19_any {w : World} {V : Nat → Prop} {x : Img} {S : ImgS} (h : ImgAt w V x S) (hr : rightB x = true) (k : Nat) (hk : k < x.edges.length) (l : Nat → Int) (i : Nat) (hi : i < 16) :
    Calls Tryd.prog 42 #[.agg #[.int .i64 x.res, .slice S.t.sp x.tasks.length S.t.c, .slice S.m.sp x.modes.length S.m.c, .slice S.e.sp x.edges.length S.e.c], .int .i64 (k : Nat), .agg (tml l).toArray, .int .i64 (i : Nat)] w fun e w' => e = .returned (.int .i64 (offR (edgeA x k) (edgeB x k) l i)) ∧ Below w.heap.size w w' := by
  have HS := Lib.hid (show ∀ wx, Below w.heap.size w wx → _ from fun wx hb => sets19_any (h.new hb) hr k hk)
  have HT := Lib.hid (show (tml l).toArray[i]? = some (.int .i64 (l i)) from by rw [List.getElem?_toArray]; exact tml_at l i hi)
  obtain ⟨T, hT⟩ : ∃ T, (tml l).toArray = T := ⟨_, rfl⟩
  rw [hT] at HT ⊢
  obtain ⟨A, hA⟩ : ∃ A, edgeA x (k : Int) = A := ⟨_, rfl⟩
  obtain ⟨B, hB⟩ : ∃ A, edgeB x (k : Int) = A := ⟨_, rfl⟩
  rw [hA, hB] at HS ⊢
  have HHa := Lib.hid (fun wx => has10_any A (i : Int) wx)
  have HHb := Lib.hid (fun wx => has10_any B (i : Int) wx)
  unfold offR
  obtain ⟨v, hv⟩ : ∃ v, l i = v := ⟨_, rfl⟩
  rw [hv] at HT ⊢
  obtain ⟨nT, hnT⟩ : ∃ n, x.tasks.length = n := ⟨_, rfl⟩
  obtain ⟨nM, hnM⟩ : ∃ n, x.modes.length = n := ⟨_, rfl⟩
  obtain ⟨nE, hnE⟩ : ∃ n, x.edges.length = n := ⟨_, rfl⟩
  rw [hnT, hnM, hnE] at HS ⊢
  have e1 : (i : Int) < 16 := by omega
  obtain ⟨Z, hZ⟩ : ∃ Z, Z = w.heap.size := ⟨_, rfl⟩
  clear h hr hk hi hT hA hB hv hnT hnM hnE
  cases hb : hasB B (i : Int) <;> cases ha : hasB A (i : Int) <;> rw [hb] at HHb <;> rw [ha] at HHa <;> clear ha hb
  all_goals
    go_enter Tryd.func42, Tryd.ntmps42
    go_upto_region 1 with fail
    rw [← hZ]
    generalize hw2 : World.alloc (World.alloc w _) _ = w2
    have H2 := Lib.hid (show Below w.heap.size w w2 ∧ RowAt w2 Z 26 #[.int .i64 x.res, .slice S.t.sp nT S.t.c, .slice S.m.sp nM S.m.c, .slice S.e.sp nE S.e.c] ∧ RowAt w2 (Z + 1) 27 T by
      rw [← hw2, hZ]
      exact ⟨((Below.refl _ _).alloc (Nat.le_refl _) _).alloc (by simp) _, row_keep (RowAt.mk _ _ _) _, row_next _ _ (by simp) _ _⟩)
    clear hw2 hZ
    obtain ⟨c0, c1, c2, c3⟩ := img_cells H2.out.2.1
    go_wp2_with (first
      | (go_at_call 40; refine (HS.out _ H2.out.1).mono ?_; rintro e w3 ⟨rfl, b3⟩; have H3 := Lib.hid (H2.out.1.trans (b3.mono H2.out.1.size)); have d0 : w3.cell? ⟨Z + 1, i, none⟩ = some (.int .i64 v) := ((H2.out.2.2.new b3).cell i).trans HT.out; clear b3)
      | (go_at_call 41; refine (HHb.out _).mono ?_; rintro e w' ⟨rfl, rfl⟩; clear HHb)
      | (go_at_call 41; refine (HHa.out _).mono ?_; rintro e w' ⟨rfl, rfl⟩)
      | fail)
    go_ret
    exact ⟨rfl, H3.out⟩
set_option maxHeartbeats 8000000 in
set_option maxRecDepth 100000 in
theorem beh19_any {w : World} {V : Nat → Prop} {x : Img} {S : ImgS} (h : ImgAt w V x S) (hr : rightB x = true) (k : Nat) (hk : k < x.edges.length) (i : Nat) (hi : i < x.tasks.length) :
    Calls Tryd.prog 15 #[.agg #[.int .i64 x.res, .slice S.t.sp x.tasks.length S.t.c, .slice S.m.sp x.modes.length S.m.c, .slice S.e.sp x.edges.length S.e.c], .int .i64 (k : Nat), .int .i64 (i : Nat)] w fun e w' => e = .returned (.tuple #[.int .i64 (if hasB (edgeB x k) (i : Int) then tT (rspF x (edgeB x k) (edgeA x k ||| edgeB x k) (ceilF x (edgeA x k ||| edgeB x k)) i) else 0), .bool (hasB (edgeB x k) (i : Int) && tB (rspF x (edgeB x k) (edgeA x k ||| edgeB x k) (ceilF x (edgeA x k ||| edgeB x k)) i))]) ∧ Below w.heap.size w w' := by
  have HS := Lib.hid (show ∀ wx, Below w.heap.size w wx → _ from fun wx hb => sets19_any (h.new hb) hr k hk)
  have hG := rightB_good hr
  obtain ⟨A, hA⟩ : ∃ A, edgeA x (k : Int) = A := ⟨_, rfl⟩
  obtain ⟨B, hB⟩ : ∃ A, edgeB x (k : Int) = A := ⟨_, rfl⟩
  rw [hA, hB] at HS ⊢
  have HRs := Lib.hid (show ∀ wx, Below w.heap.size w wx → _ from fun wx hb => r18Resp_any (h.new hb) hG B (A ||| B) (A ||| B) i hi)
  obtain ⟨t0, ht0⟩ : ∃ v, tT (rspF x B (A ||| B) (ceilF x (A ||| B)) i) = v := ⟨_, rfl⟩
  obtain ⟨t1, ht1⟩ : ∃ v, tB (rspF x B (A ||| B) (ceilF x (A ||| B)) i) = v := ⟨_, rfl⟩
  rw [ht0, ht1] at HRs ⊢
  have HHb := Lib.hid (fun wx => has10_any B (i : Int) wx)
  have HOr := Lib.hid (or32 A B)
  obtain ⟨nT, hnT⟩ : ∃ n, x.tasks.length = n := ⟨_, rfl⟩
  obtain ⟨nM, hnM⟩ : ∃ n, x.modes.length = n := ⟨_, rfl⟩
  obtain ⟨nE, hnE⟩ : ∃ n, x.edges.length = n := ⟨_, rfl⟩
  rw [hnT, hnM, hnE] at HS HRs ⊢
  obtain ⟨Z, hZ⟩ : ∃ Z, Z = w.heap.size := ⟨_, rfl⟩
  clear h hr hk hi hA hB ht0 ht1 hnT hnM hnE hG
  cases hb : hasB B (i : Int) <;> rw [hb] at HHb <;> clear hb
  all_goals
    go_enter Tryd.func15, Tryd.ntmps15
    go_upto_region 1 with fail
    rw [← hZ]
    generalize hw2 : World.alloc w _ = w2
    have H2 := Lib.hid (show Below w.heap.size w w2 ∧ RowAt w2 Z 26 #[.int .i64 x.res, .slice S.t.sp nT S.t.c, .slice S.m.sp nM S.m.c, .slice S.e.sp nE S.e.c] by
      rw [← hw2, hZ]
      exact ⟨(Below.refl _ _).alloc (Nat.le_refl _) _, RowAt.mk _ _ _⟩)
    clear hw2 hZ
    obtain ⟨c0, c1, c2, c3⟩ := img_cells H2.out.2
    have hor := HOr.out
    go_wp2_with (first
      | (go_at_call 40; refine (HS.out _ H2.out.1).mono ?_; rintro e w3 ⟨rfl, b3⟩; have H3 := Lib.hid (And.intro (H2.out.1.trans (b3.mono H2.out.1.size)) (H2.out.2.new b3)); clear b3 c0 c1 c2 c3; obtain ⟨c0, c1, c2, c3⟩ := img_cells H3.out.2)
      | (go_at_call 41; refine (HHb.out _).mono ?_; rintro e w' ⟨rfl, rfl⟩; clear HHb)
      | (go_at_call 45; refine (HRs.out _ H3.out.1).mono ?_; rintro e w4 ⟨rfl, b4⟩; have H4 := Lib.hid (H3.out.1.trans (b4.mono H3.out.1.size)); clear b4)
      | fail)
    go_ret2
    first
      | exact ⟨rfl, H4.out⟩
      | exact ⟨rfl, H3.out.1⟩
end Go.Proofs.YtchmdnmifpjfkaaDoor
