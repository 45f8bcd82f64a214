/- Several texts in one: NC, ND, NE, NF, NG. -/
import Derived.Test.YtihomapbncnhaaaDoorPk13
import Derived.Handy
/- The contract of load's Round. -/
namespace Go.Proofs.YtihomapbncnhaaaDoor
open Go.RowKit
attribute [local go_sem] Oper.semAt_some

/-- Two boxes beside each other that a range's body turns. -/
def C2 (w6 : World) (B : Nat) (t t' : TypeId) (cs cs' : Array Value) (W : World) : Prop := Ch (fun j => j = B ∨ j = B + 1) w6 W ∧ RowAt W B t cs ∧ RowAt W (B + 1) t' cs'
theorem C2.foot {w6 : World} {B b : Nat} {t t' : TypeId} {cs cs' : Array Value} (hb : w6.heap.size = b) (hB : B + 1 < b) : Foot (fun _ j => j < b) (C2 w6 B t t' cs cs') where
  lt := fun W ⟨h, _⟩ j hj => by have := h.size; omega
  keep := fun W W' ⟨h1, h2, h3⟩ hc => by
    refine ⟨⟨((h1.mono (T' := fun j => (j = B ∨ j = B + 1) ∨ b ≤ j) (fun _ _ h => .inl h)).trans (hc.mono fun j _ hn => .inr (by have : ¬ j < b := hn; omega))).mono fun j hj h => ?_, h2.keep hc (fun hn => hn (show B < b by omega)), h3.keep hc (fun hn => hn hB)⟩, fun j hj => hj⟩
    rcases h with h | h
    · exact h
    · omega
theorem C2.off {w6 W W' : World} {B : Nat} {t t' : TypeId} {cs cs' : Array Value} (h : C2 w6 B t t' cs cs' W) (hb : Below W.heap.size W W') : C2 w6 B t t' cs cs' W' :=
  ⟨h.1.trans (Ch.mono (Ch.new hb) fun _ _ (h : False) => h.elim), h.2.1.new hb, h.2.2.new hb⟩
theorem C2.set {w6 W : World} {B : Nat} {t t' : TypeId} {a b : Value} (h : C2 w6 B t t' #[a] #[b] W) (v u : Value) : C2 w6 B t t' #[v] #[u] ((W.setCell ⟨B, 0, none⟩ v).setCell ⟨B + 1, 0, none⟩ u) := by
  have c1 : Ch (fun j => j = B) W (W.setCell ⟨B, 0, none⟩ v) := (Ch.refl _ _).setCell _ _ (.inl rfl)
  have c2 : Ch (fun j => j = B + 1) (W.setCell ⟨B, 0, none⟩ v) ((W.setCell ⟨B, 0, none⟩ v).setCell ⟨B + 1, 0, none⟩ u) := (Ch.refl _ _).setCell _ _ (.inl rfl)
  exact ⟨(h.1.setCell _ _ (.inl (.inl rfl))).setCell _ _ (.inl (.inr rfl)), (h.2.1.setC 0 v).keep c2 (fun e => by have e' : B = B + 1 := e; omega), (h.2.2.keep c1 (fun e => by have e' : B + 1 = B := e; omega)).setC 0 u⟩
theorem C2.turn {W w7 : World} {B b : Nat} (hB : B + 1 < b) (hb : Below W.heap.size W w7) (v u : Value) : Step (fun _ j => j < b) W ((w7.setCell ⟨B, 0, none⟩ v).setCell ⟨B + 1, 0, none⟩ u) :=
  ⟨((Ch.mono (Ch.new hb) fun _ _ (h : False) => h.elim).setCell _ _ (.inl (show B < b by omega))).setCell _ _ (.inl hB), fun _ hj => .inl hj⟩
theorem Foot.snd {F : World → Nat → Prop} {I : World → Prop} {p : Prop} (h : Foot F I) : Foot F (fun W => I W ∧ p) := ⟨fun W hw => h.lt W hw.1, fun W W' hw hc => ⟨⟨(h.keep W W' hw.1 hc).1, hw.2⟩, (h.keep W W' hw.1 hc).2⟩⟩
set_option maxHeartbeats 4000000 in
set_option maxRecDepth 100000 in
theorem ldRound_any {w : World} {V : Nat → Prop} {x : Img} {S : ImgS} (h : ImgAt w V x S) (ht : Tab w) (s : BitVec 32) :
    Calls Tryd.prog 23 #[.agg #[.int .i64 x.res, .slice S.t.sp x.tasks.length S.t.c, .slice S.m.sp x.modes.length S.m.c, .slice S.e.sp x.edges.length S.e.c], .int .u32 (w32 s)] w fun e w' => e = .returned (.tuple #[.int .i64 (rdK x (tasksL x s) (tasksL x s).length), .bool (decide (0 < rdK x (tasksL x s) (tasksL x s).length))]) ∧ Below w.heap.size w w' := by
  refine (callsIn_wide (n := 0)).1 ?_
  have hp := ht.pos
  have HTb := Lib.hid (show ∀ w', Below w.heap.size w w' → Tab w' from fun w' hb => ht.below hp hb)
  have HTk := Lib.hid (show ∀ wx Bi, Below w.heap.size w wx → wx.cell? ⟨Bi, 1, none⟩ = some (.slice S.t.sp x.tasks.length S.t.c) → TkAt wx Bi x S from fun wx Bi hb hc => TkAt.of (h.new hb) hc)
  have HIn := Lib.hid (fun l Bs Bi F J Jx W a b => ldtasks_in l Bs Bi s x S F J Jx W a b)
  obtain ⟨L, hL⟩ : ∃ L, tasksL x s = L := ⟨_, rfl⟩
  rw [hL] at HIn ⊢
  clear hL
  obtain ⟨N, hN⟩ : ∃ N, L.length = N := ⟨_, rfl⟩
  rw [hN] at HIn ⊢
  clear hN
  obtain ⟨R, hR⟩ : ∃ R, rdK x L = R := ⟨_, rfl⟩
  have HR0 := Lib.hid (show R 0 = 1 by rw [← hR]; rfl)
  have HRs := Lib.hid (show ∀ k, R (k + 1) = mupN (R k) (x.t (L.getD k 0)).per from fun k => by rw [← hR]; rfl)
  have HRn := Lib.hid (show ∀ k, R k = 0 → ∀ m, k ≤ m → R m = 0 from fun k hk m hm => by rw [← hR] at hk ⊢; exact rdK_none hk m hm)
  have HRp := Lib.hid (show ∀ k, 0 ≤ R k from fun k => by rw [← hR]; exact (rdK_rng x L k).1)
  rw [hR]
  obtain ⟨nT, hnT⟩ : ∃ n, x.tasks.length = n := ⟨_, rfl⟩
  obtain ⟨nM, hnM⟩ : ∃ n, x.modes.length = n := ⟨_, rfl⟩
  obtain ⟨nE, hnE⟩ : ∃ n, x.edges.length = n := ⟨_, rfl⟩
  rw [hnT] at HTk
  rw [hnT, hnM, hnE]
  obtain ⟨Z, hZ⟩ : ∃ Z, Z = w.heap.size := ⟨_, rfl⟩
  have HZ := Lib.hid hZ
  clear h ht hp hnM hnE hR hnT
  refine callsIn_of_wp_marks Tryd.func23 rfl trivial ?_ rfl
  simp only [Tryd.ntmps23, List.size_toArray, List.length_cons, List.length_nil, Nat.reduceAdd, Nat.reduceSub, Array.replicate_succ, Array.replicate_zero, List.push_toArray, List.append_toArray, List.nil_append, List.cons_append]
  gi_wp2_with (first
    | (refine ⟨trivial, rfl, ?_⟩; gi_at_call 52; refine (callsIn_wide.2 (ldTasks_any _ _ _)).mono ?_; rintro e w' ⟨rfl, rfl⟩)
    | fail)
  generalize hw6 : World.alloc (World.alloc (World.alloc (World.alloc (World.alloc w _) _) _) _) _ = w6
  have H6 := Lib.hid (show Below w.heap.size w w6 ∧ w6.heap.size = Z + 5 ∧ RowAt w6 Z 26 #[.int .i64 x.res, .slice S.t.sp nT S.t.c, .slice S.m.sp nM S.m.c, .slice S.e.sp nE S.e.c] ∧ RowAt w6 (Z + 1) 3 #[.int .i64 1] ∧ RowAt w6 (Z + 2) 4 #[.bool true] ∧ RowAt w6 (Z + 3) 26 #[.int .i64 x.res, .slice S.t.sp nT S.t.c, .slice S.m.sp nM S.m.c, .slice S.e.sp nE S.e.c] ∧ RowAt w6 (Z + 4) 31 #[.int .u32 (w32 s)] by
    rw [hZ]
    exact rows5_of hw6)
  rw [show w.heap.size + 1 + 1 + 1 + 1 = Z + 4 by omega, show w.heap.size + 1 + 1 + 1 = Z + 3 by omega, show w.heap.size + 1 + 1 = Z + 2 by omega, show w.heap.size + 1 = Z + 1 by omega, ← hZ]
  clear hw6 hZ
  have HI0 := Lib.hid (show C2 w6 (Z + 1) 3 4 #[.int .i64 (R 0)] #[.bool true] w6 ∧ 0 < R 0 from by rw [HR0.out]; exact ⟨⟨Ch.refl _ _, H6.out.2.2.2.1, H6.out.2.2.2.2.1⟩, by omega⟩)
  have HBe := Lib.hid (show ∀ (W' : World) (cs cs' : Array Value), C2 w6 (Z + 1) 3 4 cs cs' W' → Below w.heap.size w W' from fun W' f g h => H6.out.1.trans (h.1.below (fun j hj e => by have := HZ.out; omega) H6.out.1.size))
  refine wpIn_rangeF3 (gf := 84) (lb := #[.pointer (some ⟨Z + 4, 0, none⟩), .pointer (some ⟨Z + 3, 0, none⟩)]) rfl (enters_of Tryd.func84 (by kernel_rfl) rfl)
    N (fun k => #[tkV x (L.getD k 0)]) (fun _ => rfl) (fun _ j => j < Z + 5)
    (fun k W => C2 w6 (Z + 1) 3 4 #[.int .i64 (R k)] #[.bool true] W ∧ 0 < R k) (fun c _ W => c = .exit 0 ∧ C2 w6 (Z + 1) 3 4 #[.int .i64 0] #[.bool false] W ∧ R N = 0)
    (fun k => Foot.snd (C2.foot H6.out.2.1 (by omega))) (fun c k => Foot.pure _ (Foot.snd (C2.foot H6.out.2.1 (by omega)))) HI0.out
    (fun k a' W' => ∃ c, Z + 6 < c ∧ RowAt W' c 59 #[.int .i64 (x.t (L.getD k 0)).per, .int .i64 (x.t (L.getD k 0)).dl, .int .i64 (x.t (L.getD k 0)).cost, .int .i64 (lonF x (L.getD k 0) 0), .int .i64 (lonF x (L.getD k 0) 1), .int .i64 (lonF x (L.getD k 0) 2), .int .i64 (lonF x (L.getD k 0) 3), .int .i64 (lonF x (L.getD k 0) 4), .int .i64 (lonF x (L.getD k 0) 5), .int .i64 (lonF x (L.getD k 0) 6), .int .i64 (lonF x (L.getD k 0) 7)] ∧ a' = { tmps := #[.agg #[.int .i64 x.res, .slice S.t.sp nT S.t.c, .slice S.m.sp nM S.m.c, .slice S.e.sp nE S.e.c], .int .u32 (w32 s), .pointer (some ⟨Z, 0, none⟩), undef, .int .i64 0, .bool false, .pointer (some ⟨Z + 1, 0, none⟩), .pointer (some ⟨Z + 2, 0, none⟩), .pointer (some ⟨c, 0, none⟩), .agg #[.int .i64 x.res, .slice S.t.sp nT S.t.c, .slice S.m.sp nM S.m.c, .slice S.e.sp nE S.e.c], .int .u32 (w32 s), .func (.func 84) #[] #[.pointer (some ⟨Z + 4, 0, none⟩), .pointer (some ⟨Z + 3, 0, none⟩)], tkV x (L.getD k 0), undef, undef, undef, undef, undef, undef, undef, undef, undef, undef, undef], defers := [] })
    (fun k a' W W' hx hc => by obtain ⟨c, h1, h2, h3⟩ := hx; have hz6 := H6.out.2.1; exact ⟨c, h1, h2.keep hc (fun e => by have e' : c = w6.heap.size + 1 := e; omega), h3⟩) ?hit ?assign ?body ?done ?stop
  case hit =>
    intro J' Jx' W1 h1 h2 h3 h4 h5 h6 h7 h8
    rw [H6.out.2.1] at h1 h2 h3 h4 h5 h6 h7 ⊢
    exact HIn.out _ (Z + 4) (Z + 3) _ J' Jx' W1 (fun k W' hJ => HTb.out W' (HBe.out W' _ _ (h3 k W' hJ).1.1)) (fun k W' hJ => HTk.out W' (Z + 3) (HBe.out W' _ _ (h3 k W' hJ).1.1) (((h3 k W' hJ).1.1.1.cell (p := ⟨Z + 3, 1, none⟩) (H6.out.2.2.2.2.2.1.cell 1) (fun e => by simp only at e; omega)))) ((h2.cell (p := ⟨Z + 4, 0, none⟩) (show Z + 4 < Z + 5 by omega)).trans (H6.out.2.2.2.2.2.2.cell 0)) h7 h5 h6 h8
  case assign =>
    intro k W K hi' hk hz hK
    rw [H6.out.2.1] at hz
    have HK := Lib.hid hK
    have HKI := Lib.hid hi'
    clear hK hi'
    obtain ⟨i, hi⟩ : ∃ i, L.getD k 0 = i := ⟨_, rfl⟩
    rw [hi] at HK ⊢
    unfold tkV at HK ⊢
    clear hi
    gi_wp2
    exact HK.out _ _ ⟨W.heap.size, by omega, RowAt.mk _ _ _, rfl⟩ ((Ch.refl _ _).alloc _) ⟨HKI.out.1.off ((Below.refl _ _).alloc (Nat.le_refl _) _), HKI.out.2⟩ (fun _ h => h)
  case body =>
    rintro k a' W hI hk ⟨c, hc, hr, rfl⟩ hz ⟨rec0, hrec⟩ hnl
    rw [H6.out.2.1] at hz hrec hnl ⊢
    have HM := Lib.hid (show ∀ wx, _ from fun wx => multiple_any (R k) (x.t (L.getD k 0)).per wx)
    rw [mup_iff, ← HRs.out] at HM
    have k0 : W.cell? ⟨Z + 1, 0, none⟩ = some (.int .i64 (R k)) := hI.1.2.1.cell 0
    have k1 : W.cell? ⟨c, 0, none⟩ = some (.int .i64 (x.t (L.getD k 0)).per) := hr.cell 0
    obtain ⟨i, hi'⟩ : ∃ i, L.getD k 0 = i := ⟨_, rfl⟩
    rw [hi'] at k1 HM ⊢
    obtain ⟨p, hp⟩ : ∃ p, (x.t i).per = p := ⟨_, rfl⟩
    rw [hp] at k1 HM
    have HK := Lib.hid hI
    have HNx := Lib.hid (show R (k + 1) = 0 → R N = 0 from fun h => HRn.out _ h _ hk)
    obtain ⟨tk, htk⟩ : ∃ v, tkV x i = v := ⟨_, rfl⟩
    rw [htk]
    obtain ⟨v0, hv0⟩ : ∃ v, R k = v := ⟨_, rfl⟩
    rw [hv0] at k0 HM HK
    clear hI hr hp hi' htk hv0
    have Hrng := Lib.hid (HRp.out (k + 1))
    by_cases hb : 0 < R (k + 1)
    · rw [decide_eq_true hb] at HM
      have HB := Lib.hid hb
      obtain ⟨v, hv⟩ : ∃ v, R (k + 1) = v := ⟨_, rfl⟩
      rw [hv] at HM HB
      have HV := Lib.hid hv
      clear hb hv
      gi_wp2_with (first
        | (refine ⟨trivial, rfl, ?_⟩; gi_at_call 53; refine CallsIn.inRound _ ((callsIn_wide.2 (HM.out _)).mono ?_); rintro e w7 ⟨rfl, b7⟩; have H7 := Lib.hid b7; have K7 := HK.out.1.off b7; have k2 := K7.2.1.cell 0; have k3 := K7.2.2.cell 0; have k4 := K7.2.1.fr 0; have k5 := K7.2.2.fr 0; clear b7 K7 k0 k1)
        | fail)
      refine ⟨C2.turn (by omega) H7.out _ _, ?_⟩
      show C2 w6 (Z + 1) 3 4 #[.int .i64 (R (k + 1))] #[.bool true] _ ∧ 0 < R (k + 1)
      rw [HV.out]
      exact ⟨(HK.out.1.off H7.out).set _ _, HB.out⟩
    · rw [decide_eq_false hb] at HM
      have h0 : R (k + 1) = 0 := by have := Hrng.out; omega
      rw [h0] at HM
      have H0 := Lib.hid h0
      clear hb h0
      gi_wp2_with (first
        | (refine ⟨trivial, rfl, ?_⟩; gi_at_call 53; refine CallsIn.inRound _ ((callsIn_wide.2 (HM.out _)).mono ?_); rintro e w7 ⟨rfl, b7⟩; have H7 := Lib.hid b7; have K7 := HK.out.1.off b7; have k2 := K7.2.1.cell 0; have k3 := K7.2.2.cell 0; have k4 := K7.2.1.fr 0; have k5 := K7.2.2.fr 0; clear b7 K7 k0 k1)
        | fail)
      refine ⟨C2.turn (by omega) H7.out _ _, ?_⟩
      exact ⟨rfl, (HK.out.1.off H7.out).set _ _, HNx.out H0.out⟩
  case done =>
    rintro A hI hD hnD hz
    rw [H6.out.2.1] at hD hnD hz
    rw [H6.out.2.1]
    have m0 : A.cell? ⟨Z + 1, 0, none⟩ = some (.int .i64 (R N)) := hI.1.2.1.cell 0
    have m1 : A.cell? ⟨Z + 2, 0, none⟩ = some (.bool true) := hI.1.2.2.cell 0
    have HK := Lib.hid (And.intro (HBe.out A _ _ hI.1) (And.intro hD hI.2))
    clear hI hD hnD
    gi_wp2
    refine wpIn_wide.2 ?_
    go_quiet (fail)
    gi_wp2
    have hp : Ch (fun j => j = Z + 5) (A.drewN nq) ((A.drewN nq).putObj (Z + 5) (.deferred none)) := (Ch.refl _ _).putObj _ _ rfl
    refine ⟨by simp, .inl ⟨_, _, rfl, run_takeDeferred (w := A.drewN nq) HK.out.2.1, ?_⟩⟩
    have hZ := HZ.out
    refine ⟨.tuple #[.int .i64 (R N), .bool true], by simp [results, Tryd.results23, go_sem], ?_, ?_⟩
    · rw [decide_eq_true HK.out.2.2]
    · exact (below_dn HK.out.1 nq).trans (hp.below (fun j hj e => by have e' : j = Z + 5 := e; omega) (below_dn HK.out.1 nq).size)
  case stop =>
    rintro c k A hk ⟨rfl, hI⟩ hD hnD hz
    rw [H6.out.2.1] at hD hnD hz
    rw [H6.out.2.1]
    have m0 : A.cell? ⟨Z + 1, 0, none⟩ = some (.int .i64 0) := hI.1.2.1.cell 0
    have m1 : A.cell? ⟨Z + 2, 0, none⟩ = some (.bool false) := hI.1.2.2.cell 0
    have HK := Lib.hid (And.intro (HBe.out A _ _ hI.1) (And.intro hD hI.2))
    clear hI hD hnD
    gi_wp2
    refine wpIn_wide.2 ?_
    go_quiet (fail)
    gi_wp2
    have hp : Ch (fun j => j = Z + 5) (A.drewN nq) ((A.drewN nq).putObj (Z + 5) (.deferred none)) := (Ch.refl _ _).putObj _ _ rfl
    refine ⟨by simp, .inl ⟨_, _, rfl, run_takeDeferred (w := A.drewN nq) HK.out.2.1, ?_⟩⟩
    have hZ := HZ.out
    refine ⟨.tuple #[.int .i64 0, .bool false], by simp [results, Tryd.results23, go_sem], ?_, ?_⟩
    · rw [HK.out.2.2]; rfl
    · exact (below_dn HK.out.1 nq).trans (hp.below (fun j hj e => by have e' : j = Z + 5 := e; omega) (below_dn HK.out.1 nq).size)
end Go.Proofs.YtihomapbncnhaaaDoor
/- The contracts of load's shorten, add, thousandths and Less. -/
namespace Go.Proofs.YtihomapbncnhaaaDoor
open Go.RowKit

set_option maxHeartbeats 4000000 in
set_option maxRecDepth 100000 in
theorem ldShort_any {a b : Int} (h : comB a b = true) (hb : 0 < b) (w : World) : Calls Tryd.prog 89 #[.agg #[.int .i64 a, .int .i64 b]] w fun e w' => e = .returned (.agg #[.int .i64 (a / comN a b), .int .i64 (b / comN a b)]) ∧ Below w.heap.size w w' := by
  obtain ⟨h0, h1, h2, h3⟩ := com_bds h
  have hg : 1 ≤ comN a b ∧ comN a b ≤ 1099511627776 := by
    have e : comN a b = (Nat.gcd a.toNat b.toNat : Int) := by unfold comN; rw [if_pos (by simpa [comB] using h)]
    have p := Nat.gcd_pos_of_pos_right a.toNat (show 0 < b.toNat by omega)
    have q := Nat.gcd_le_right a.toNat (show 0 < b.toNat by omega)
    rw [e]
    omega
  have HC := Lib.hid (show ∀ wx, _ from fun wx => common_any a b wx)
  rw [h] at HC
  obtain ⟨g, hgg⟩ : ∃ g, comN a b = g := ⟨_, rfl⟩
  rw [hgg] at hg HC ⊢
  obtain ⟨g1, g2⟩ := hg
  have gz : ¬ g = 0 := by omega
  obtain ⟨q1, q2, -, -, -⟩ := quo_bds h0 (show 0 < g by omega)
  obtain ⟨r1, r2, -, -, -⟩ := quo_bds h2 (show 0 < g by omega)
  clear h hgg
  go_enter Tryd.func89, Tryd.ntmps89
  go_upto_region 2 with (first
    | (go_at_call 85; refine (HC.out _).mono ?_; rintro e w1 ⟨rfl, b1⟩; have H1 := Lib.hid (two_alloc b1); clear b1)
    | fail)
  have c0 : w1.cell? ⟨w.heap.size, 0, none⟩ = some (.int .i64 a) := H1.out.2.1.cell 0
  have c1 : w1.cell? ⟨w.heap.size, 1, none⟩ = some (.int .i64 b) := H1.out.2.1.cell 1
  have f0 := H1.out.2.2.fr 0
  have f1 := H1.out.2.2.fr 1
  have d0 : w1.cell? ⟨w.heap.size + 1, 0, none⟩ = some (.int .i64 0) := H1.out.2.2.cell 0
  have d1 : w1.cell? ⟨w.heap.size + 1, 1, none⟩ = some (.int .i64 0) := H1.out.2.2.cell 1
  go_still_tail 9, (by kernel_rfl)
  go_wp2
  generalize hw2 : World.drew _ = w2
  have H2 : Below w.heap.size w w2 ∧ RowAt w2 (w.heap.size + 1) 64 #[.int .i64 (a / g), .int .i64 (b / g)] := by
    rw [← hw2]
    exact ⟨below_dn ((H1.out.1.setCell (by simp) _).setCell (by simp) _) 1, (H1.out.2.2.setC 0 (.int .i64 (a / g))).setC 1 (.int .i64 (b / g))⟩
  clear hw2 c0 c1 f0 f1 d0 d1
  have c0 : w2.cell? ⟨w.heap.size + 1, 0, none⟩ = some (.int .i64 (a / g)) := H2.2.cell 0
  have c1 : w2.cell? ⟨w.heap.size + 1, 1, none⟩ = some (.int .i64 (b / g)) := H2.2.cell 1
  refine bodyPost_ret (show _ = Result.ok (.agg #[.int .i64 (a / g), .int .i64 (b / g)]) w2 by simp [results, Tryd.results89, go_sem, c0, c1]) rfl ⟨rfl, H2.1⟩
theorem rows3_of {w w3 : World} {a b c : Array Value} {ta tb tc : TypeId} (h : Below (((w.alloc (.cells a ta)).alloc (.cells b tb)).alloc (.cells c tc)).heap.size (((w.alloc (.cells a ta)).alloc (.cells b tb)).alloc (.cells c tc)) w3) :
    Below w.heap.size w w3 ∧ RowAt w3 w.heap.size ta a ∧ RowAt w3 (w.heap.size + 1) tb b ∧ RowAt w3 (w.heap.size + 1 + 1) tc c := by
  obtain ⟨b0, z0, r0, r1, r2⟩ := rows3 w a b c ta tb tc
  exact ⟨b0.trans (h.mono b0.size), r0.new h, r1.new h, r2.new h⟩
def ptV (p : Int × Int) : Value := .agg #[.int .i64 p.1, .int .i64 p.2]
theorem addP_some {a b c d : Int} (hm : mupB b d = true) (h1 : mulB a (mupN b d / b) = true) (h2 : mulB c (mupN b d / d) = true) (h3 : addB (mulN a (mupN b d / b)) (mulN c (mupN b d / d)) = true) : addP (a, b) (c, d) = some (addN (mulN a (mupN b d / b)) (mulN c (mupN b d / d)) / comN (addN (mulN a (mupN b d / b)) (mulN c (mupN b d / d))) (mupN b d), mupN b d / comN (addN (mulN a (mupN b d / b)) (mulN c (mupN b d / d))) (mupN b d)) := by
  unfold addP
  simp only
  rw [if_pos hm, if_pos h1, if_pos h2, if_pos h3]
theorem addN_num {a b : Int} (h : addB a b = true) : 0 ≤ addN a b ∧ addN a b ≤ 1099511627776 := by
  unfold addN
  simp only [addB, Bool.and_eq_true, numB_iff] at h
  rw [if_pos (by simp only [Bool.and_eq_true, numB_iff]; exact h)]
  exact h.2
set_option maxHeartbeats 4000000 in
set_option maxRecDepth 100000 in
theorem ldAdd_any (a b c d : Int) (w : World) : Calls Tryd.prog 57 #[.agg #[.int .i64 a, .int .i64 b], .agg #[.int .i64 c, .int .i64 d]] w fun e w' => e = .returned (.tuple #[.agg #[.int .i64 (pN (addP (a, b) (c, d))), .int .i64 (pD (addP (a, b) (c, d)))], .bool (addP (a, b) (c, d)).isSome]) ∧ Below w.heap.size w w' := by
  have HM := Lib.hid (show ∀ wx, _ from fun wx => multiple_any b d wx)
  cases hm : mupB b d
  case false =>
    rw [show addP (a, b) (c, d) = none by unfold addP; simp only; rw [if_neg (by rw [hm]; decide)]]
    rw [hm, mup_no hm] at HM
    clear hm
    go_enter Tryd.func57, Tryd.ntmps57
    go_upto_region 3 with (first
        | (go_at_call 53; refine (HM.out _).mono ?_; rintro e w1 ⟨rfl, b1⟩; have H1 := Lib.hid (rows3_of b1); clear b1)
        | fail)
    have f0 : w1.frozen? ⟨w.heap.size + 1 + 1, 0, none⟩ = false := H1.out.2.2.2.fr 0
    have f1 : w1.frozen? ⟨w.heap.size + 1 + 1, 1, none⟩ = false := H1.out.2.2.2.fr 1
    have g0 : w1.cell? ⟨w.heap.size + 1 + 1, 0, none⟩ = some (.int .i64 0) := H1.out.2.2.2.cell 0
    have g1 : w1.cell? ⟨w.heap.size + 1 + 1, 1, none⟩ = some (.int .i64 0) := H1.out.2.2.2.cell 1
    go_wp2
    generalize hw9 : World.setCell (World.setCell w1 _ _) _ _ = w9
    have H9 : Below w.heap.size w w9 ∧ RowAt w9 (w.heap.size + 1 + 1) 64 #[.int .i64 0, .int .i64 0] := by
      rw [← hw9]
      exact ⟨((And.intro H1.out.1 H1.out.2.2.2).1.setCell (by show w.heap.size ≤ w.heap.size + 1 + 1; omega) _).setCell (by show w.heap.size ≤ w.heap.size + 1 + 1; omega) _, (((And.intro H1.out.1 H1.out.2.2.2).2.setC 0 (.int .i64 0)).setC 1 (.int .i64 0))⟩
    have x0 : w9.cell? ⟨w.heap.size + 1 + 1, 0, none⟩ = some (.int .i64 0) := H9.2.cell 0
    have x1 : w9.cell? ⟨w.heap.size + 1 + 1, 1, none⟩ = some (.int .i64 0) := H9.2.cell 1
    refine bodyPost_ret (v := .tuple #[.agg #[.int .i64 0, .int .i64 0], .bool false]) (by simp [results, Tryd.results57, go_sem, x0, x1]) rfl ⟨rfl, H9.1⟩
  case true =>
    rw [hm] at HM
    obtain ⟨m0, m1, -, -, pb, pd, -⟩ := mup_pos hm
    obtain ⟨q1, q2, -, -, -⟩ := quo_bds (a := mupN b d) (by omega) pb
    obtain ⟨r1, r2, -, -, -⟩ := quo_bds (a := mupN b d) (by omega) pd
    have bz : ¬ b = 0 := by omega
    have dz : ¬ d = 0 := by omega
    have HA1 := Lib.hid (show ∀ (wx : World) (nq : Nat), _ from fun wx nq => quietly (mul_any a (mupN b d / b) (wx.drewN nq)))
    have HA2 := Lib.hid (show ∀ (wx : World) (nq : Nat), _ from fun wx nq => quietly (mul_any c (mupN b d / d) (wx.drewN nq)))
    have HA3 := Lib.hid (show ∀ wx, _ from fun wx => add_any (mulN a (mupN b d / b)) (mulN c (mupN b d / d)) wx)
    have HSh := Lib.hid (show addB (mulN a (mupN b d / b)) (mulN c (mupN b d / d)) = true → ∀ wx, _ from fun h wx => ldShort_any (a := addN (mulN a (mupN b d / b)) (mulN c (mupN b d / d))) (b := mupN b d) (by have := addN_num h; simp only [comB, Bool.and_eq_true, numB_iff]; omega) m0 wx)
    cases h1 : mulB a (mupN b d / b)
    case false =>
      rw [show addP (a, b) (c, d) = none by unfold addP; simp only; rw [if_pos hm, if_neg (by rw [h1]; decide)]]
      rw [h1, show mulN a (mupN b d / b) = 0 by unfold mulN mulB at *; rw [h1]; rfl] at HA1
      obtain ⟨m, hmm⟩ : ∃ m, mupN b d = m := ⟨_, rfl⟩
      rw [hmm] at HM HA1 m0 m1 q1 q2
      clear hm h1 HA2 HA3 HSh hmm r1 r2
      go_enter Tryd.func57, Tryd.ntmps57
      go_upto_region 4 with (first
          | (go_at_call 53; refine (HM.out _).mono ?_; rintro e w1 ⟨rfl, b1⟩; have H1 := Lib.hid (rows3_of b1); clear b1)
          | fail)
      have c0 : w1.cell? ⟨w.heap.size, 0, none⟩ = some (.int .i64 a) := H1.out.2.1.cell 0
      have c1 : w1.cell? ⟨w.heap.size, 1, none⟩ = some (.int .i64 b) := H1.out.2.1.cell 1
      have c2 : w1.cell? ⟨w.heap.size + 1, 0, none⟩ = some (.int .i64 c) := H1.out.2.2.1.cell 0
      have c3 : w1.cell? ⟨w.heap.size + 1, 1, none⟩ = some (.int .i64 d) := H1.out.2.2.1.cell 1
      go_quiet (first | (go_at_call 59; exact HA1.out _ _))
      clear c0 c1 c2 c3
      have f0 : (w1.drewN nq).frozen? ⟨w.heap.size + 1 + 1, 0, none⟩ = false := H1.out.2.2.2.fr 0
      have f1 : (w1.drewN nq).frozen? ⟨w.heap.size + 1 + 1, 1, none⟩ = false := H1.out.2.2.2.fr 1
      have g0 : (w1.drewN nq).cell? ⟨w.heap.size + 1 + 1, 0, none⟩ = some (.int .i64 0) := H1.out.2.2.2.cell 0
      have g1 : (w1.drewN nq).cell? ⟨w.heap.size + 1 + 1, 1, none⟩ = some (.int .i64 0) := H1.out.2.2.2.cell 1
      go_wp2
      generalize hw9 : World.setCell (World.setCell (World.drewN w1 nq) _ _) _ _ = w9
      have H9 : Below w.heap.size w w9 ∧ RowAt w9 (w.heap.size + 1 + 1) 64 #[.int .i64 0, .int .i64 0] := by
        rw [← hw9]
        exact ⟨((And.intro (below_dn H1.out.1 nq) H1.out.2.2.2).1.setCell (by show w.heap.size ≤ w.heap.size + 1 + 1; omega) _).setCell (by show w.heap.size ≤ w.heap.size + 1 + 1; omega) _, (((And.intro (below_dn H1.out.1 nq) H1.out.2.2.2).2.setC 0 (.int .i64 0)).setC 1 (.int .i64 0))⟩
      have x0 : w9.cell? ⟨w.heap.size + 1 + 1, 0, none⟩ = some (.int .i64 0) := H9.2.cell 0
      have x1 : w9.cell? ⟨w.heap.size + 1 + 1, 1, none⟩ = some (.int .i64 0) := H9.2.cell 1
      refine bodyPost_ret (v := .tuple #[.agg #[.int .i64 0, .int .i64 0], .bool false]) (by simp [results, Tryd.results57, go_sem, x0, x1]) rfl ⟨rfl, H9.1⟩
    case true =>
      cases h2 : mulB c (mupN b d / d)
      case false =>
        rw [show addP (a, b) (c, d) = none by unfold addP; simp only; rw [if_pos hm, if_pos h1, if_neg (by rw [h2]; decide)]]
        rw [h2, show mulN c (mupN b d / d) = 0 by unfold mulN mulB at *; rw [h2]; rfl] at HA2
        rw [h1] at HA1
        obtain ⟨u, hu⟩ : ∃ u, mulN a (mupN b d / b) = u := ⟨_, rfl⟩
        rw [hu] at HA1
        obtain ⟨m, hmm⟩ : ∃ m, mupN b d = m := ⟨_, rfl⟩
        rw [hmm] at HM HA1 HA2 m0 m1 q1 q2 r1 r2
        clear hm h1 h2 HA3 HSh hmm hu
        go_enter Tryd.func57, Tryd.ntmps57
        go_upto_region 4 with (first
                | (go_at_call 53; refine (HM.out _).mono ?_; rintro e w1 ⟨rfl, b1⟩; have H1 := Lib.hid (rows3_of b1); clear b1)
                | fail)
        have c0 : w1.cell? ⟨w.heap.size, 0, none⟩ = some (.int .i64 a) := H1.out.2.1.cell 0
        have c1 : w1.cell? ⟨w.heap.size, 1, none⟩ = some (.int .i64 b) := H1.out.2.1.cell 1
        have c2 : w1.cell? ⟨w.heap.size + 1, 0, none⟩ = some (.int .i64 c) := H1.out.2.2.1.cell 0
        have c3 : w1.cell? ⟨w.heap.size + 1, 1, none⟩ = some (.int .i64 d) := H1.out.2.2.1.cell 1
        go_quiet (first | (go_at_call 59; exact HA1.out _ _))
        clear c0 c1 c2 c3
        obtain ⟨w2, hw2⟩ : ∃ w2, w1.drewN nq = w2 := ⟨_, rfl⟩
        have H2 := Lib.hid (show Below w.heap.size w w2 ∧ RowAt w2 w.heap.size 64 #[.int .i64 a, .int .i64 b] ∧ RowAt w2 (w.heap.size + 1) 64 #[.int .i64 c, .int .i64 d] ∧ RowAt w2 (w.heap.size + 1 + 1) 64 #[.int .i64 0, .int .i64 0] by
          rw [← hw2]
          exact ⟨below_dn H1.out.1 nq, H1.out.2.1, H1.out.2.2.1, H1.out.2.2.2⟩)
        rw [hw2]
        clear hw2 H1
        go_upto_region 7 with fail
        have c0 : w2.cell? ⟨w.heap.size, 0, none⟩ = some (.int .i64 a) := H2.out.2.1.cell 0
        have c1 : w2.cell? ⟨w.heap.size, 1, none⟩ = some (.int .i64 b) := H2.out.2.1.cell 1
        have c2 : w2.cell? ⟨w.heap.size + 1, 0, none⟩ = some (.int .i64 c) := H2.out.2.2.1.cell 0
        have c3 : w2.cell? ⟨w.heap.size + 1, 1, none⟩ = some (.int .i64 d) := H2.out.2.2.1.cell 1
        go_quiet (first | (go_at_call 59; exact HA2.out _ _))
        clear c0 c1 c2 c3
        obtain ⟨w3, hw3⟩ : ∃ w3, w2.drewN nq = w3 := ⟨_, rfl⟩
        have H3 := Lib.hid (show Below w.heap.size w w3 ∧ RowAt w3 (w.heap.size + 1 + 1) 64 #[.int .i64 0, .int .i64 0] by
          rw [← hw3]
          exact ⟨below_dn H2.out.1 nq, H2.out.2.2.2⟩)
        rw [hw3]
        clear hw3 H2
        have f0 : w3.frozen? ⟨w.heap.size + 1 + 1, 0, none⟩ = false := H3.out.2.fr 0
        have f1 : w3.frozen? ⟨w.heap.size + 1 + 1, 1, none⟩ = false := H3.out.2.fr 1
        have g0 : w3.cell? ⟨w.heap.size + 1 + 1, 0, none⟩ = some (.int .i64 0) := H3.out.2.cell 0
        have g1 : w3.cell? ⟨w.heap.size + 1 + 1, 1, none⟩ = some (.int .i64 0) := H3.out.2.cell 1
        go_wp2
        generalize hw9 : World.setCell (World.setCell w3 _ _) _ _ = w9
        have H9 : Below w.heap.size w w9 ∧ RowAt w9 (w.heap.size + 1 + 1) 64 #[.int .i64 0, .int .i64 0] := by
          rw [← hw9]
          exact ⟨(H3.out.1.setCell (by show w.heap.size ≤ w.heap.size + 1 + 1; omega) _).setCell (by show w.heap.size ≤ w.heap.size + 1 + 1; omega) _, ((H3.out.2.setC 0 (.int .i64 0)).setC 1 (.int .i64 0))⟩
        have x0 : w9.cell? ⟨w.heap.size + 1 + 1, 0, none⟩ = some (.int .i64 0) := H9.2.cell 0
        have x1 : w9.cell? ⟨w.heap.size + 1 + 1, 1, none⟩ = some (.int .i64 0) := H9.2.cell 1
        refine bodyPost_ret (v := .tuple #[.agg #[.int .i64 0, .int .i64 0], .bool false]) (by simp [results, Tryd.results57, go_sem, x0, x1]) rfl ⟨rfl, H9.1⟩
      case true =>
        cases h3 : addB (mulN a (mupN b d / b)) (mulN c (mupN b d / d))
        case false =>
          rw [show addP (a, b) (c, d) = none by unfold addP; simp only; rw [if_pos hm, if_pos h1, if_pos h2, if_neg (by rw [h3]; decide)]]
          rw [h3, addN_f h3] at HA3
          rw [h1] at HA1
          rw [h2] at HA2
          obtain ⟨u, hu⟩ : ∃ u, mulN a (mupN b d / b) = u := ⟨_, rfl⟩
          rw [hu] at HA1 HA3
          obtain ⟨v, hv⟩ : ∃ v, mulN c (mupN b d / d) = v := ⟨_, rfl⟩
          rw [hv] at HA2 HA3
          obtain ⟨m, hmm⟩ : ∃ m, mupN b d = m := ⟨_, rfl⟩
          rw [hmm] at HM HA1 HA2 m0 m1 q1 q2 r1 r2
          clear hm h1 h2 h3 HSh hmm hu hv
          go_enter Tryd.func57, Tryd.ntmps57
          go_upto_region 4 with (first
                  | (go_at_call 53; refine (HM.out _).mono ?_; rintro e w1 ⟨rfl, b1⟩; have H1 := Lib.hid (rows3_of b1); clear b1)
                  | fail)
          have c0 : w1.cell? ⟨w.heap.size, 0, none⟩ = some (.int .i64 a) := H1.out.2.1.cell 0
          have c1 : w1.cell? ⟨w.heap.size, 1, none⟩ = some (.int .i64 b) := H1.out.2.1.cell 1
          have c2 : w1.cell? ⟨w.heap.size + 1, 0, none⟩ = some (.int .i64 c) := H1.out.2.2.1.cell 0
          have c3 : w1.cell? ⟨w.heap.size + 1, 1, none⟩ = some (.int .i64 d) := H1.out.2.2.1.cell 1
          go_quiet (first | (go_at_call 59; exact HA1.out _ _))
          clear c0 c1 c2 c3
          obtain ⟨w2, hw2⟩ : ∃ w2, w1.drewN nq = w2 := ⟨_, rfl⟩
          have H2 := Lib.hid (show Below w.heap.size w w2 ∧ RowAt w2 w.heap.size 64 #[.int .i64 a, .int .i64 b] ∧ RowAt w2 (w.heap.size + 1) 64 #[.int .i64 c, .int .i64 d] ∧ RowAt w2 (w.heap.size + 1 + 1) 64 #[.int .i64 0, .int .i64 0] by
            rw [← hw2]
            exact ⟨below_dn H1.out.1 nq, H1.out.2.1, H1.out.2.2.1, H1.out.2.2.2⟩)
          rw [hw2]
          clear hw2 H1
          go_upto_region 7 with fail
          have c0 : w2.cell? ⟨w.heap.size, 0, none⟩ = some (.int .i64 a) := H2.out.2.1.cell 0
          have c1 : w2.cell? ⟨w.heap.size, 1, none⟩ = some (.int .i64 b) := H2.out.2.1.cell 1
          have c2 : w2.cell? ⟨w.heap.size + 1, 0, none⟩ = some (.int .i64 c) := H2.out.2.2.1.cell 0
          have c3 : w2.cell? ⟨w.heap.size + 1, 1, none⟩ = some (.int .i64 d) := H2.out.2.2.1.cell 1
          go_quiet (first | (go_at_call 59; exact HA2.out _ _))
          clear c0 c1 c2 c3
          obtain ⟨w3, hw3⟩ : ∃ w3, w2.drewN nq = w3 := ⟨_, rfl⟩
          have H3 := Lib.hid (show Below w.heap.size w w3 ∧ RowAt w3 (w.heap.size + 1 + 1) 64 #[.int .i64 0, .int .i64 0] by
            rw [← hw3]
            exact ⟨below_dn H2.out.1 nq, H2.out.2.2.2⟩)
          rw [hw3]
          clear hw3 H2
          have f0 : w3.frozen? ⟨w.heap.size + 1 + 1, 0, none⟩ = false := H3.out.2.fr 0
          have f1 : w3.frozen? ⟨w.heap.size + 1 + 1, 1, none⟩ = false := H3.out.2.fr 1
          have g0 : w3.cell? ⟨w.heap.size + 1 + 1, 0, none⟩ = some (.int .i64 0) := H3.out.2.cell 0
          have g1 : w3.cell? ⟨w.heap.size + 1 + 1, 1, none⟩ = some (.int .i64 0) := H3.out.2.cell 1
          go_wp2_with (first
            | (go_at_call 88; refine (HA3.out _).mono ?_; rintro e w' ⟨rfl, rfl⟩)
            | fail)
          generalize hw9 : World.setCell (World.setCell w3 _ _) _ _ = w9
          have H9 : Below w.heap.size w w9 ∧ RowAt w9 (w.heap.size + 1 + 1) 64 #[.int .i64 0, .int .i64 0] := by
            rw [← hw9]
            exact ⟨(H3.out.1.setCell (by show w.heap.size ≤ w.heap.size + 1 + 1; omega) _).setCell (by show w.heap.size ≤ w.heap.size + 1 + 1; omega) _, ((H3.out.2.setC 0 (.int .i64 0)).setC 1 (.int .i64 0))⟩
          have x0 : w9.cell? ⟨w.heap.size + 1 + 1, 0, none⟩ = some (.int .i64 0) := H9.2.cell 0
          have x1 : w9.cell? ⟨w.heap.size + 1 + 1, 1, none⟩ = some (.int .i64 0) := H9.2.cell 1
          refine bodyPost_ret (v := .tuple #[.agg #[.int .i64 0, .int .i64 0], .bool false]) (by simp [results, Tryd.results57, go_sem, x0, x1]) rfl ⟨rfl, H9.1⟩
        case true =>
          rw [addP_some hm h1 h2 h3]
          unfold pN pD
          simp only [Option.isSome_some]
          have HS := Lib.hid (HSh.out h3)
          rw [h3] at HA3
          rw [h1] at HA1
          rw [h2] at HA2
          obtain ⟨u, hu⟩ : ∃ u, mulN a (mupN b d / b) = u := ⟨_, rfl⟩
          rw [hu] at HA1 HA3 HS ⊢
          obtain ⟨v, hv⟩ : ∃ v, mulN c (mupN b d / d) = v := ⟨_, rfl⟩
          rw [hv] at HA2 HA3 HS ⊢
          obtain ⟨m, hmm⟩ : ∃ m, mupN b d = m := ⟨_, rfl⟩
          rw [hmm] at HM HA1 HA2 m0 m1 q1 q2 r1 r2 HS ⊢
          obtain ⟨t, htt⟩ : ∃ t, addN u v = t := ⟨_, rfl⟩
          rw [htt] at HA3 HS ⊢
          obtain ⟨y0, hy0⟩ : ∃ y, t / comN t m = y := ⟨_, rfl⟩
          obtain ⟨y1, hy1⟩ : ∃ y, m / comN t m = y := ⟨_, rfl⟩
          rw [hy0, hy1] at HS ⊢
          clear hm h1 h2 h3 HSh hmm hu hv htt hy0 hy1
          go_enter Tryd.func57, Tryd.ntmps57
          go_upto_region 4 with (first
                  | (go_at_call 53; refine (HM.out _).mono ?_; rintro e w1 ⟨rfl, b1⟩; have H1 := Lib.hid (rows3_of b1); clear b1)
                  | fail)
          have c0 : w1.cell? ⟨w.heap.size, 0, none⟩ = some (.int .i64 a) := H1.out.2.1.cell 0
          have c1 : w1.cell? ⟨w.heap.size, 1, none⟩ = some (.int .i64 b) := H1.out.2.1.cell 1
          have c2 : w1.cell? ⟨w.heap.size + 1, 0, none⟩ = some (.int .i64 c) := H1.out.2.2.1.cell 0
          have c3 : w1.cell? ⟨w.heap.size + 1, 1, none⟩ = some (.int .i64 d) := H1.out.2.2.1.cell 1
          go_quiet (first | (go_at_call 59; exact HA1.out _ _))
          clear c0 c1 c2 c3
          obtain ⟨w2, hw2⟩ : ∃ w2, w1.drewN nq = w2 := ⟨_, rfl⟩
          have H2 := Lib.hid (show Below w.heap.size w w2 ∧ RowAt w2 w.heap.size 64 #[.int .i64 a, .int .i64 b] ∧ RowAt w2 (w.heap.size + 1) 64 #[.int .i64 c, .int .i64 d] ∧ RowAt w2 (w.heap.size + 1 + 1) 64 #[.int .i64 0, .int .i64 0] by
            rw [← hw2]
            exact ⟨below_dn H1.out.1 nq, H1.out.2.1, H1.out.2.2.1, H1.out.2.2.2⟩)
          rw [hw2]
          clear hw2 H1
          go_upto_region 7 with fail
          have c0 : w2.cell? ⟨w.heap.size, 0, none⟩ = some (.int .i64 a) := H2.out.2.1.cell 0
          have c1 : w2.cell? ⟨w.heap.size, 1, none⟩ = some (.int .i64 b) := H2.out.2.1.cell 1
          have c2 : w2.cell? ⟨w.heap.size + 1, 0, none⟩ = some (.int .i64 c) := H2.out.2.2.1.cell 0
          have c3 : w2.cell? ⟨w.heap.size + 1, 1, none⟩ = some (.int .i64 d) := H2.out.2.2.1.cell 1
          go_quiet (first | (go_at_call 59; exact HA2.out _ _))
          clear c0 c1 c2 c3
          obtain ⟨w3, hw3⟩ : ∃ w3, w2.drewN nq = w3 := ⟨_, rfl⟩
          have H3 := Lib.hid (show Below w.heap.size w w3 ∧ RowAt w3 (w.heap.size + 1 + 1) 64 #[.int .i64 0, .int .i64 0] by
            rw [← hw3]
            exact ⟨below_dn H2.out.1 nq, H2.out.2.2.2⟩)
          rw [hw3]
          clear hw3 H2
          go_wp2_with (first
            | (go_at_call 88; refine (HA3.out _).mono ?_; rintro e w' ⟨rfl, rfl⟩)
            | (go_at_call 89; refine (HS.out _).mono ?_; rintro e w4 ⟨rfl, b4⟩; have H4 := Lib.hid (show Below w.heap.size w w4 ∧ RowAt w4 (w.heap.size + 1 + 1) 64 #[.int .i64 0, .int .i64 0] from ⟨H3.out.1.trans (b4.mono H3.out.1.size), H3.out.2.new b4⟩); clear b4; have f0 : w4.frozen? ⟨w.heap.size + 1 + 1, 0, none⟩ = false := H4.out.2.fr 0; have f1 : w4.frozen? ⟨w.heap.size + 1 + 1, 1, none⟩ = false := H4.out.2.fr 1; have g0 : w4.cell? ⟨w.heap.size + 1 + 1, 0, none⟩ = some (.int .i64 0) := H4.out.2.cell 0; have g1 : w4.cell? ⟨w.heap.size + 1 + 1, 1, none⟩ = some (.int .i64 0) := H4.out.2.cell 1)
            | fail)
          generalize hw9 : World.setCell (World.setCell w4 _ _) _ _ = w9
          have H9 : Below w.heap.size w w9 ∧ RowAt w9 (w.heap.size + 1 + 1) 64 #[.int .i64 y0, .int .i64 y1] := by
            rw [← hw9]
            exact ⟨(H4.out.1.setCell (by show w.heap.size ≤ w.heap.size + 1 + 1; omega) _).setCell (by show w.heap.size ≤ w.heap.size + 1 + 1; omega) _, ((H4.out.2.setC 0 (.int .i64 y0)).setC 1 (.int .i64 y1))⟩
          have x0 : w9.cell? ⟨w.heap.size + 1 + 1, 0, none⟩ = some (.int .i64 y0) := H9.2.cell 0
          have x1 : w9.cell? ⟨w.heap.size + 1 + 1, 1, none⟩ = some (.int .i64 y1) := H9.2.cell 1
          refine bodyPost_ret (v := .tuple #[.agg #[.int .i64 y0, .int .i64 y1], .bool true]) (by simp [results, Tryd.results57, go_sem, x0, x1]) rfl ⟨rfl, H9.1⟩
end Go.Proofs.YtihomapbncnhaaaDoor
/- The contracts of load's thousandths and Less. -/
namespace Go.Proofs.YtihomapbncnhaaaDoor
open Go.RowKit

set_option maxHeartbeats 4000000 in
set_option maxRecDepth 100000 in
theorem ldThou_any (x : Img) (i : Nat) (w : World) : Calls Tryd.prog 56 #[tkV x i] w fun e w' => e = .returned (.int .i64 (upN (mulN 1000 (x.t i).cost) (x.t i).per)) ∧ Below w.heap.size w w' := by
  unfold tkV
  go_enter Tryd.func56, Tryd.ntmps56
  go_wp2_with (first
    | (go_at_call 59; refine (mul_any _ _ _).mono ?_; rintro e w' ⟨rfl, rfl⟩)
    | (go_at_call 87; refine (up_any _ _ _).mono ?_; rintro e w' ⟨rfl, rfl⟩)
    | fail)
  go_ret
  exact ⟨rfl, (Below.refl _ _).alloc (Nat.le_refl _) _⟩
def lessP (a b c d : Int) : Bool := mulB a d && (mulB c b && decide (mulN a d < mulN c b))
set_option maxHeartbeats 4000000 in
set_option maxRecDepth 100000 in
theorem ldLess_any (a b c d : Int) (w : World) : Calls Tryd.prog 31 #[.agg #[.int .i64 a, .int .i64 b], .agg #[.int .i64 c, .int .i64 d]] w fun e w' => e = .returned (.bool (lessP a b c d)) ∧ Below w.heap.size w w' := by
  have H1 := Lib.hid (show ∀ wx, _ from fun wx => mul_any a d wx)
  have H2 := Lib.hid (show ∀ wx, _ from fun wx => mul_any c b wx)
  unfold lessP
  obtain ⟨u, hu⟩ : ∃ u, mulN a d = u := ⟨_, rfl⟩
  obtain ⟨v, hv⟩ : ∃ v, mulN c b = v := ⟨_, rfl⟩
  rw [hu] at H1 ⊢
  rw [hv] at H2 ⊢
  clear hu hv
  have HB := Lib.hid (((Below.refl w.heap.size w).alloc (Nat.le_refl _) (.cells #[.int .i64 a, .int .i64 b] 64)).alloc (by simp) (.cells #[.int .i64 c, .int .i64 d] 64))
  cases h1 : mulB a d <;> cases h2 : mulB c b <;> rw [h1] at H1 <;> rw [h2] at H2 <;> clear h1 h2
  all_goals
    go_enter Tryd.func31, Tryd.ntmps31
    go_wp2_with (first
      | (go_at_call 59; refine (H1.out _).mono ?_; rintro e w' ⟨rfl, rfl⟩; clear H1)
      | (go_at_call 59; refine (H2.out _).mono ?_; rintro e w' ⟨rfl, rfl⟩)
      | fail)
  all_goals
    try (refine ⟨fun _ h => (nomatch h), ?_⟩; go_wp2)
    go_ret
    refine ⟨?_, HB.out⟩
    try rfl
end Go.Proofs.YtihomapbncnhaaaDoor
/- The contract of load's Exact. -/
namespace Go.Proofs.YtihomapbncnhaaaDoor
open Go.RowKit
attribute [local go_sem] Oper.semAt_some

theorem C2.set3 {w6 W : World} {B : Nat} {t t' : TypeId} {a a' b : Value} (h : C2 w6 B t t' #[a, a'] #[b] W) (v v' u : Value) : C2 w6 B t t' #[v, v'] #[u] (((W.setCell ⟨B, 0, none⟩ v).setCell ⟨B, 1, none⟩ v').setCell ⟨B + 1, 0, none⟩ u) := by
  have c1 : Ch (fun j => j = B) W ((W.setCell ⟨B, 0, none⟩ v).setCell ⟨B, 1, none⟩ v') := ((Ch.refl (fun j => j = B) W).setCell _ _ (.inl rfl)).setCell _ _ (.inl rfl)
  have c2 : Ch (fun j => j = B + 1) ((W.setCell ⟨B, 0, none⟩ v).setCell ⟨B, 1, none⟩ v') (((W.setCell ⟨B, 0, none⟩ v).setCell ⟨B, 1, none⟩ v').setCell ⟨B + 1, 0, none⟩ u) := (Ch.refl _ _).setCell _ _ (.inl rfl)
  exact ⟨((h.1.setCell _ _ (.inl (.inl rfl))).setCell _ _ (.inl (.inl rfl))).setCell _ _ (.inl (.inr rfl)), ((h.2.1.setC 0 v).setC 1 v').keep c2 (fun e => by have e' : B = B + 1 := e; omega), (h.2.2.keep c1 (fun e => by have e' : B + 1 = B := e; omega)).setC 0 u⟩
theorem C2.turn3 {W w7 : World} {B b : Nat} (hB : B + 1 < b) (hb : Below W.heap.size W w7) (v v' u : Value) : Step (fun _ j => j < b) W (((w7.setCell ⟨B, 0, none⟩ v).setCell ⟨B, 1, none⟩ v').setCell ⟨B + 1, 0, none⟩ u) :=
  ⟨(((Ch.mono (Ch.new hb) fun _ _ (h : False) => h.elim).setCell _ _ (.inl (show B < b by omega))).setCell _ _ (.inl (show B < b by omega))).setCell _ _ (.inl hB), fun _ hj => .inl hj⟩
set_option maxHeartbeats 4000000 in
set_option maxRecDepth 100000 in
theorem ldExact_any {w : World} {V : Nat → Prop} {x : Img} {S : ImgS} (h : ImgAt w V x S) (ht : Tab w) (s : BitVec 32) :
    Calls Tryd.prog 28 #[.agg #[.int .i64 x.res, .slice S.t.sp x.tasks.length S.t.c, .slice S.m.sp x.modes.length S.m.c, .slice S.e.sp x.edges.length S.e.c], .int .u32 (w32 s)] w fun e w' => e = .returned (.tuple #[.agg #[.int .i64 (pN (exK x (tasksL x s) (tasksL x s).length)), .int .i64 (pD (exK x (tasksL x s) (tasksL x s).length))], .bool (exK x (tasksL x s) (tasksL x s).length).isSome]) ∧ Below w.heap.size w w' := by
  refine (callsIn_wide (n := 0)).1 ?_
  have hp := ht.pos
  have HTb := Lib.hid (show ∀ w', Below w.heap.size w w' → Tab w' from fun w' hb => ht.below hp hb)
  have HTk := Lib.hid (show ∀ wx Bi, Below w.heap.size w wx → wx.cell? ⟨Bi, 1, none⟩ = some (.slice S.t.sp x.tasks.length S.t.c) → TkAt wx Bi x S from fun wx Bi hb hc => TkAt.of (h.new hb) hc)
  have HIn := Lib.hid (fun l Bs Bi F J Jx W a b => ldtasks_in l Bs Bi s x S F J Jx W a b)
  obtain ⟨L, hL⟩ : ∃ L, tasksL x s = L := ⟨_, rfl⟩
  rw [hL] at HIn ⊢
  clear hL
  obtain ⟨N, hN⟩ : ∃ N, L.length = N := ⟨_, rfl⟩
  rw [hN] at HIn ⊢
  clear hN
  obtain ⟨R, hR⟩ : ∃ R, exK x L = R := ⟨_, rfl⟩
  have HR0 := Lib.hid (show R 0 = some (0, 1) by rw [← hR]; rfl)
  have HRs := Lib.hid (show ∀ k, (R k).isSome = true → addP (pN (R k), pD (R k)) ((x.t (L.getD k 0)).cost, (x.t (L.getD k 0)).per) = R (k + 1) from fun k hk => by
    rw [← hR] at hk ⊢
    show _ = (exK x L k).bind _
    cases h : exK x L k with
    | none => rw [h] at hk; cases hk
    | some p => rfl)
  have HRn := Lib.hid (show ∀ k, R k = none → ∀ m, k ≤ m → R m = none from fun k hk m hm => by rw [← hR] at hk ⊢; exact exK_none hk m hm)
  rw [hR]
  obtain ⟨nT, hnT⟩ : ∃ n, x.tasks.length = n := ⟨_, rfl⟩
  obtain ⟨nM, hnM⟩ : ∃ n, x.modes.length = n := ⟨_, rfl⟩
  obtain ⟨nE, hnE⟩ : ∃ n, x.edges.length = n := ⟨_, rfl⟩
  rw [hnT] at HTk
  rw [hnT, hnM, hnE]
  obtain ⟨Z, hZ⟩ : ∃ Z, Z = w.heap.size := ⟨_, rfl⟩
  have HZ := Lib.hid hZ
  clear h ht hp hnM hnE hR hnT
  refine callsIn_of_wp_marks Tryd.func28 rfl trivial ?_ rfl
  simp only [Tryd.ntmps28, List.size_toArray, List.length_cons, List.length_nil, Nat.reduceAdd, Nat.reduceSub, Array.replicate_succ, Array.replicate_zero, List.push_toArray, List.append_toArray, List.nil_append, List.cons_append]
  gi_wp2_with (first
    | (refine ⟨trivial, rfl, ?_⟩; gi_at_call 52; refine (callsIn_wide.2 (ldTasks_any _ _ _)).mono ?_; rintro e w' ⟨rfl, rfl⟩)
    | fail)
  generalize hw6 : World.alloc (World.alloc (World.alloc (World.alloc (World.alloc (World.alloc w _) _) _) _) _) _ = w6
  have H6 := Lib.hid (show Below w.heap.size w w6 ∧ w6.heap.size = Z + 6 ∧ RowAt w6 (Z + 1) 64 #[.int .i64 0, .int .i64 0] ∧ RowAt w6 (Z + 2) 64 #[.int .i64 0, .int .i64 1] ∧ RowAt w6 (Z + 3) 4 #[.bool true] ∧ RowAt w6 (Z + 4) 26 #[.int .i64 x.res, .slice S.t.sp nT S.t.c, .slice S.m.sp nM S.m.c, .slice S.e.sp nE S.e.c] ∧ RowAt w6 (Z + 5) 31 #[.int .u32 (w32 s)] by
    rw [hZ]
    generalize hw5 : World.alloc (World.alloc (World.alloc (World.alloc (World.alloc w _) _) _) _) _ = w5 at hw6
    obtain ⟨b, z, -, r1, r2, r3, r4⟩ := rows5_of hw5
    rw [← hw6]
    exact ⟨below_alloc b (Nat.le_refl _) _, by simp [z], row_keep r1 _, row_keep r2 _, row_keep r3 _, row_keep r4 _, row_next _ _ z _ _⟩)
  rw [show w.heap.size + 1 + 1 + 1 + 1 + 1 = Z + 5 by omega, show w.heap.size + 1 + 1 + 1 + 1 = Z + 4 by omega, show w.heap.size + 1 + 1 + 1 = Z + 3 by omega, show w.heap.size + 1 + 1 = Z + 2 by omega, show w.heap.size + 1 = Z + 1 by omega, ← hZ]
  clear hw6 hZ
  have HI0 := Lib.hid (show C2 w6 (Z + 2) 64 4 #[.int .i64 (pN (R 0)), .int .i64 (pD (R 0))] #[.bool true] w6 ∧ (R 0).isSome = true from by rw [HR0.out]; exact ⟨⟨Ch.refl _ _, H6.out.2.2.2.1, H6.out.2.2.2.2.1⟩, rfl⟩)
  have HBe := Lib.hid (show ∀ (W' : World) (cs cs' : Array Value), C2 w6 (Z + 2) 64 4 cs cs' W' → Below w.heap.size w W' from fun W' f g h => H6.out.1.trans (h.1.below (fun j hj e => by have := HZ.out; omega) H6.out.1.size))
  refine wpIn_rangeF3 (gf := 84) (lb := #[.pointer (some ⟨Z + 5, 0, none⟩), .pointer (some ⟨Z + 4, 0, none⟩)]) rfl (enters_of Tryd.func84 (by kernel_rfl) rfl)
    N (fun k => #[tkV x (L.getD k 0)]) (fun _ => rfl) (fun _ j => j < Z + 6)
    (fun k W => C2 w6 (Z + 2) 64 4 #[.int .i64 (pN (R k)), .int .i64 (pD (R k))] #[.bool true] W ∧ (R k).isSome = true) (fun c _ W => c = .exit 0 ∧ C2 w6 (Z + 2) 64 4 #[.int .i64 0, .int .i64 0] #[.bool false] W ∧ R N = none)
    (fun k => Foot.snd (C2.foot H6.out.2.1 (by omega))) (fun c k => Foot.pure _ (Foot.snd (C2.foot H6.out.2.1 (by omega)))) HI0.out
    (fun k a' W' => ∃ c, Z + 7 < c ∧ RowAt W' c 59 #[.int .i64 (x.t (L.getD k 0)).per, .int .i64 (x.t (L.getD k 0)).dl, .int .i64 (x.t (L.getD k 0)).cost, .int .i64 (lonF x (L.getD k 0) 0), .int .i64 (lonF x (L.getD k 0) 1), .int .i64 (lonF x (L.getD k 0) 2), .int .i64 (lonF x (L.getD k 0) 3), .int .i64 (lonF x (L.getD k 0) 4), .int .i64 (lonF x (L.getD k 0) 5), .int .i64 (lonF x (L.getD k 0) 6), .int .i64 (lonF x (L.getD k 0) 7)] ∧ a' = { tmps := #[.agg #[.int .i64 x.res, .slice S.t.sp nT S.t.c, .slice S.m.sp nM S.m.c, .slice S.e.sp nE S.e.c], .int .u32 (w32 s), .pointer (some ⟨Z, 0, none⟩), undef, .pointer (some ⟨Z + 1, 0, none⟩), .bool false, .pointer (some ⟨Z + 2, 0, none⟩), .pointer (some ⟨Z + 3, 0, none⟩), .pointer (some ⟨c, 0, none⟩), .agg #[.int .i64 0, .int .i64 1], .agg #[.int .i64 x.res, .slice S.t.sp nT S.t.c, .slice S.m.sp nM S.m.c, .slice S.e.sp nE S.e.c], .int .u32 (w32 s), .func (.func 84) #[] #[.pointer (some ⟨Z + 5, 0, none⟩), .pointer (some ⟨Z + 4, 0, none⟩)], tkV x (L.getD k 0), undef, undef, undef, undef, undef, undef, undef, undef, undef, undef, undef, undef, undef, undef], defers := [] })
    (fun k a' W W' hx hc => by obtain ⟨c, h1, h2, h3⟩ := hx; have hz6 := H6.out.2.1; exact ⟨c, h1, h2.keep hc (fun e => by have e' : c = w6.heap.size + 1 := e; omega), h3⟩) ?hit ?assign ?body ?done ?stop
  case hit =>
    intro J' Jx' W1 h1 h2 h3 h4 h5 h6 h7 h8
    rw [H6.out.2.1] at h1 h2 h3 h4 h5 h6 h7 ⊢
    exact HIn.out _ (Z + 5) (Z + 4) _ J' Jx' W1 (fun k W' hJ => HTb.out W' (HBe.out W' _ _ (h3 k W' hJ).1.1)) (fun k W' hJ => HTk.out W' (Z + 4) (HBe.out W' _ _ (h3 k W' hJ).1.1) (((h3 k W' hJ).1.1.1.cell (p := ⟨Z + 4, 1, none⟩) (H6.out.2.2.2.2.2.1.cell 1) (fun e => by simp only at e; omega)))) ((h2.cell (p := ⟨Z + 5, 0, none⟩) (show Z + 5 < Z + 6 by omega)).trans (H6.out.2.2.2.2.2.2.cell 0)) h7 h5 h6 h8
  case assign =>
    intro k W K hi' hk hz hK
    rw [H6.out.2.1] at hz
    have HK := Lib.hid hK
    have HKI := Lib.hid hi'
    clear hK hi'
    obtain ⟨i, hi⟩ : ∃ i, L.getD k 0 = i := ⟨_, rfl⟩
    rw [hi] at HK ⊢
    unfold tkV at HK ⊢
    clear hi
    gi_wp2
    exact HK.out _ _ ⟨W.heap.size, by omega, RowAt.mk _ _ _, rfl⟩ ((Ch.refl _ _).alloc _) ⟨HKI.out.1.off ((Below.refl _ _).alloc (Nat.le_refl _) _), HKI.out.2⟩ (fun _ h => h)
  case body =>
    rintro k a' W hI hk ⟨c, hc, hr, rfl⟩ hz ⟨rec0, hrec⟩ hnl
    rw [H6.out.2.1] at hz hrec hnl ⊢
    have HA := Lib.hid (show ∀ wx, _ from fun wx => ldAdd_any (pN (R k)) (pD (R k)) (x.t (L.getD k 0)).cost (x.t (L.getD k 0)).per wx)
    rw [HRs.out k hI.2] at HA
    have k0 : W.cell? ⟨Z + 2, 0, none⟩ = some (.int .i64 (pN (R k))) := hI.1.2.1.cell 0
    have k9 : W.cell? ⟨Z + 2, 1, none⟩ = some (.int .i64 (pD (R k))) := hI.1.2.1.cell 1
    have k1 : W.cell? ⟨c, 0, none⟩ = some (.int .i64 (x.t (L.getD k 0)).per) := hr.cell 0
    have k8 : W.cell? ⟨c, 2, none⟩ = some (.int .i64 (x.t (L.getD k 0)).cost) := hr.cell 2
    obtain ⟨i, hi'⟩ : ∃ i, L.getD k 0 = i := ⟨_, rfl⟩
    rw [hi'] at k1 k8 HA ⊢
    obtain ⟨p, hp⟩ : ∃ p, (x.t i).per = p := ⟨_, rfl⟩
    obtain ⟨q, hq⟩ : ∃ q, (x.t i).cost = q := ⟨_, rfl⟩
    rw [hp] at k1 HA
    rw [hq] at k8 HA
    have HK := Lib.hid hI
    have HNx := Lib.hid (show R (k + 1) = none → R N = none from fun h => HRn.out _ h _ hk)
    obtain ⟨tk, htk⟩ : ∃ v, tkV x i = v := ⟨_, rfl⟩
    rw [htk]
    obtain ⟨v0, hv0⟩ : ∃ v, pN (R k) = v := ⟨_, rfl⟩
    obtain ⟨v1, hv1⟩ : ∃ v, pD (R k) = v := ⟨_, rfl⟩
    rw [hv0] at k0 HA HK
    rw [hv1] at k9 HA HK
    clear hI hr hp hi' htk hv0 hv1 hq
    obtain ⟨u0, hu0⟩ : ∃ v, pN (R (k + 1)) = v := ⟨_, rfl⟩
    obtain ⟨u1, hu1⟩ : ∃ v, pD (R (k + 1)) = v := ⟨_, rfl⟩
    obtain ⟨ub, hub⟩ : ∃ v, (R (k + 1)).isSome = v := ⟨_, rfl⟩
    rw [hu0, hu1, hub] at HA
    have HU := Lib.hid (And.intro hu0 (And.intro hu1 hub))
    clear hu0 hu1 hub
    cases ub
    case true =>
      gi_wp2_with (first
        | (refine ⟨trivial, rfl, ?_⟩; gi_at_call 57; refine CallsIn.inRound _ ((callsIn_wide.2 (HA.out _)).mono ?_); rintro e w7 ⟨rfl, b7⟩; have H7 := Lib.hid b7; have K7 := HK.out.1.off b7; have k2 : w7.cell? ⟨Z + 2, 0, none⟩ = some (.int .i64 v0) := K7.2.1.cell 0; have k22 : w7.cell? ⟨Z + 2, 1, none⟩ = some (.int .i64 v1) := K7.2.1.cell 1; have k3 := K7.2.2.cell 0; have k4 := K7.2.1.fr 0; have k44 := K7.2.1.fr 1; have k5 := K7.2.2.fr 0; clear b7 K7 k0 k1 k8 k9)
        | fail)
      refine ⟨C2.turn3 (by omega) H7.out _ _ _, ?_⟩
      show C2 w6 (Z + 2) 64 4 #[.int .i64 (pN (R (k + 1))), .int .i64 (pD (R (k + 1)))] #[.bool true] _ ∧ (R (k + 1)).isSome = true
      rw [HU.out.1, HU.out.2.1]
      exact ⟨(HK.out.1.off H7.out).set3 _ _ _, HU.out.2.2⟩
    case false =>
      have hn : R (k + 1) = none := by have := HU.out.2.2; revert this; cases R (k + 1) <;> simp
      have e0 : u0 = 0 := by have := HU.out.1; rw [hn] at this; exact this.symm
      have e1 : u1 = 0 := by have := HU.out.2.1; rw [hn] at this; exact this.symm
      subst e0 e1
      have HN := Lib.hid hn
      clear hn HU
      gi_wp2_with (first
        | (refine ⟨trivial, rfl, ?_⟩; gi_at_call 57; refine CallsIn.inRound _ ((callsIn_wide.2 (HA.out _)).mono ?_); rintro e w7 ⟨rfl, b7⟩; have H7 := Lib.hid b7; have K7 := HK.out.1.off b7; have k2 : w7.cell? ⟨Z + 2, 0, none⟩ = some (.int .i64 v0) := K7.2.1.cell 0; have k22 : w7.cell? ⟨Z + 2, 1, none⟩ = some (.int .i64 v1) := K7.2.1.cell 1; have k3 := K7.2.2.cell 0; have k4 := K7.2.1.fr 0; have k44 := K7.2.1.fr 1; have k5 := K7.2.2.fr 0; clear b7 K7 k0 k1 k8 k9)
        | fail)
      refine ⟨C2.turn3 (by omega) H7.out _ _ _, ?_⟩
      exact ⟨rfl, (HK.out.1.off H7.out).set3 _ _ _, HNx.out HN.out⟩
  case done =>
    rintro A hI hD hnD hz
    rw [H6.out.2.1] at hD hnD hz
    rw [H6.out.2.1]
    have m0 : A.cell? ⟨Z + 2, 0, none⟩ = some (.int .i64 (pN (R N))) := hI.1.2.1.cell 0
    have m1 : A.cell? ⟨Z + 2, 1, none⟩ = some (.int .i64 (pD (R N))) := hI.1.2.1.cell 1
    have m2 : A.cell? ⟨Z + 3, 0, none⟩ = some (.bool true) := hI.1.2.2.cell 0
    have HK := Lib.hid (And.intro (HBe.out A _ _ hI.1) (And.intro hD hI.2))
    have HP := Lib.hid (show RowAt A (Z + 1) 64 #[.int .i64 0, .int .i64 0] from H6.out.2.2.1.keep hI.1.1 (fun e => by rcases e with e | e <;> omega))
    have n0 : A.cell? ⟨Z + 1, 0, none⟩ = some (.int .i64 0) := HP.out.cell 0
    have n1 : A.cell? ⟨Z + 1, 1, none⟩ = some (.int .i64 0) := HP.out.cell 1
    have f0 : A.frozen? ⟨Z + 1, 0, none⟩ = false := HP.out.fr 0
    have f1 : A.frozen? ⟨Z + 1, 1, none⟩ = false := HP.out.fr 1
    clear hI hD hnD
    gi_wp2
    refine wpIn_wide.2 ?_
    go_region
    all_goals
      gi_wp2
      generalize hA2 : World.drew _ = A2
      have H2 : Ch (fun j => j = Z + 1) A A2 ∧ RowAt A2 (Z + 1) 64 #[.int .i64 (pN (R N)), .int .i64 (pD (R N))] := by
        rw [← hA2]
        exact ⟨((((Ch.refl (fun j => j = Z + 1) A).setCell _ _ (.inl rfl)).setCell _ _ (.inl rfl))).drew, (HP.out.setC 0 (.int .i64 (pN (R N)))).setC 1 (.int .i64 (pD (R N)))⟩
      have hp : Ch (fun j => j = Z + 6) A2 (A2.putObj (Z + 6) (.deferred none)) := (Ch.refl _ _).putObj _ _ rfl
      have r1 := H2.2.keep hp (fun e => by have e' : Z + 1 = Z + 6 := e; omega)
      have x0 : (A2.putObj (Z + 6) (.deferred none)).cell? ⟨Z + 1, 0, none⟩ = some (.int .i64 (pN (R N))) := r1.cell 0
      have x1 : (A2.putObj (Z + 6) (.deferred none)).cell? ⟨Z + 1, 1, none⟩ = some (.int .i64 (pD (R N))) := r1.cell 1
      refine ⟨by simp, .inl ⟨_, _, rfl, run_takeDeferred (H2.1.obj HK.out.2.1 (fun e => by have e' : Z + 6 = Z + 1 := e; omega)), ?_⟩⟩
      have hZ := HZ.out
      refine ⟨.tuple #[.agg #[.int .i64 (pN (R N)), .int .i64 (pD (R N))], .bool true], by simp [results, Tryd.results28, go_sem, x0, x1], ?_, ?_⟩
      · rw [HK.out.2.2]
      · exact HK.out.1.trans ((Ch.trans (T := fun j => j = Z + 1 ∨ j = Z + 6) (Ch.mono H2.1 (fun _ _ h => .inl h)) (Ch.mono hp (fun _ _ h => .inr h))).below (fun j hj e => by rcases e with e | e <;> omega) HK.out.1.size)
  case stop =>
    rintro c k A hk ⟨rfl, hI⟩ hD hnD hz
    rw [H6.out.2.1] at hD hnD hz
    rw [H6.out.2.1]
    have m0 : A.cell? ⟨Z + 2, 0, none⟩ = some (.int .i64 0) := hI.1.2.1.cell 0
    have m1 : A.cell? ⟨Z + 2, 1, none⟩ = some (.int .i64 0) := hI.1.2.1.cell 1
    have m2 : A.cell? ⟨Z + 3, 0, none⟩ = some (.bool false) := hI.1.2.2.cell 0
    have HK := Lib.hid (And.intro (HBe.out A _ _ hI.1) (And.intro hD hI.2))
    have HP := Lib.hid (show RowAt A (Z + 1) 64 #[.int .i64 0, .int .i64 0] from H6.out.2.2.1.keep hI.1.1 (fun e => by rcases e with e | e <;> omega))
    have n0 : A.cell? ⟨Z + 1, 0, none⟩ = some (.int .i64 0) := HP.out.cell 0
    have n1 : A.cell? ⟨Z + 1, 1, none⟩ = some (.int .i64 0) := HP.out.cell 1
    have f0 : A.frozen? ⟨Z + 1, 0, none⟩ = false := HP.out.fr 0
    have f1 : A.frozen? ⟨Z + 1, 1, none⟩ = false := HP.out.fr 1
    clear hI hD hnD
    gi_wp2
    refine wpIn_wide.2 ?_
    go_region
    all_goals
      gi_wp2
      generalize hA2 : World.drew _ = A2
      have H2 : Ch (fun j => j = Z + 1) A A2 ∧ RowAt A2 (Z + 1) 64 #[.int .i64 0, .int .i64 0] := by
        rw [← hA2]
        exact ⟨((((Ch.refl (fun j => j = Z + 1) A).setCell _ _ (.inl rfl)).setCell _ _ (.inl rfl))).drew, (HP.out.setC 0 (.int .i64 0)).setC 1 (.int .i64 0)⟩
      have hp : Ch (fun j => j = Z + 6) A2 (A2.putObj (Z + 6) (.deferred none)) := (Ch.refl _ _).putObj _ _ rfl
      have r1 := H2.2.keep hp (fun e => by have e' : Z + 1 = Z + 6 := e; omega)
      have x0 : (A2.putObj (Z + 6) (.deferred none)).cell? ⟨Z + 1, 0, none⟩ = some (.int .i64 0) := r1.cell 0
      have x1 : (A2.putObj (Z + 6) (.deferred none)).cell? ⟨Z + 1, 1, none⟩ = some (.int .i64 0) := r1.cell 1
      refine ⟨by simp, .inl ⟨_, _, rfl, run_takeDeferred (H2.1.obj HK.out.2.1 (fun e => by have e' : Z + 6 = Z + 1 := e; omega)), ?_⟩⟩
      have hZ := HZ.out
      refine ⟨.tuple #[.agg #[.int .i64 0, .int .i64 0], .bool false], by simp [results, Tryd.results28, go_sem, x0, x1], ?_, ?_⟩
      · rw [HK.out.2.2]; rfl
      · exact HK.out.1.trans ((Ch.trans (T := fun j => j = Z + 1 ∨ j = Z + 6) (Ch.mono H2.1 (fun _ _ h => .inl h)) (Ch.mono hp (fun _ _ h => .inr h))).below (fun j hj e => by rcases e with e | e <;> omega) HK.out.1.size)
end Go.Proofs.YtihomapbncnhaaaDoor
/- The contract of load's Over. -/
namespace Go.Proofs.YtihomapbncnhaaaDoor
open Go.RowKit

set_option maxHeartbeats 4000000 in
set_option maxRecDepth 100000 in
theorem ldOver_any {w : World} {V : Nat → Prop} {x : Img} {S : ImgS} (h : ImgAt w V x S) (ht : Tab w) (s : BitVec 32) :
    Calls Tryd.prog 29 #[.agg #[.int .i64 x.res, .slice S.t.sp x.tasks.length S.t.c, .slice S.m.sp x.modes.length S.m.c, .slice S.e.sp x.edges.length S.e.c], .int .u32 (w32 s)] w fun e w' => e = .returned (.bool (ovB (exK x (tasksL x s) (tasksL x s).length))) ∧ Below w.heap.size w w' := by
  have hp := ht.pos
  have HE := Lib.hid (show ∀ wx, Below w.heap.size w wx → _ from fun wx hb => ldExact_any (h.new hb) (ht.below hp hb) s)
  obtain ⟨o, ho⟩ : ∃ o, exK x (tasksL x s) (tasksL x s).length = o := ⟨_, rfl⟩
  rw [ho] at HE ⊢
  obtain ⟨nT, hnT⟩ : ∃ n, x.tasks.length = n := ⟨_, rfl⟩
  obtain ⟨nM, hnM⟩ : ∃ n, x.modes.length = n := ⟨_, rfl⟩
  obtain ⟨nE, hnE⟩ : ∃ n, x.edges.length = n := ⟨_, rfl⟩
  rw [hnT, hnM, hnE] at HE ⊢
  clear h ht hp hnT hnM hnE ho
  have HB0 := Lib.hid (show ∀ o : Obj, Below w.heap.size w (w.alloc o) from fun o => (Below.refl _ _).alloc (Nat.le_refl _) _)
  cases o with
  | none =>
    unfold pN pD at HE
    unfold ovB
    simp only [Option.isSome_none] at HE
    go_enter Tryd.func29, Tryd.ntmps29
    go_wp2_with (first
      | (go_at_call 28; refine (HE.out _ (HB0.out _)).mono ?_; rintro e w1 ⟨rfl, b1⟩; have H1 := Lib.hid ((HB0.out _).trans (b1.mono (HB0.out _).size)); clear b1)
      | fail)
    all_goals
      go_ret
      exact ⟨rfl, H1.out.alloc H1.out.size _⟩
  | some p =>
    unfold pN pD at HE
    unfold ovB
    simp only [Option.isSome_some] at HE
    obtain ⟨a, b⟩ := p
    simp only at HE ⊢
    go_enter Tryd.func29, Tryd.ntmps29
    go_wp2_with (first
      | (go_at_call 28; refine (HE.out _ (HB0.out _)).mono ?_; rintro e w1 ⟨rfl, b1⟩; have H1 := Lib.hid ((HB0.out _).trans (b1.mono (HB0.out _).size)); clear b1)
      | fail)
    all_goals
      go_ret
      exact ⟨rfl, H1.out.alloc H1.out.size _⟩
end Go.Proofs.YtihomapbncnhaaaDoor
