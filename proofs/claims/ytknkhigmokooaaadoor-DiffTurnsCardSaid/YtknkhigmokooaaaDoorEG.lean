/- The contract of diff's Of. -/
import Derived.Test.YtknkhigmokooaaaDoorEF
namespace Go.Proofs.YtknkhigmokooaaaDoor
open Go.RowKit

theorem turnsL_len (kind : Int) (na nb : Nat) (eq : Nat → Bool) (h : na ≤ 100) (h' : nb ≤ 100) : (turnsL kind na nb eq).length ≤ 100 := by
  have := turnsK_len kind na nb eq (max na nb)
  unfold turnsL
  omega
theorem modesL_len (x y : Img) (h : x.modes.length ≤ 100) (h' : y.modes.length ≤ 100) : (modesL x y).length ≤ 200 := by
  have := modesK_len x.modes.length y.modes.length (euOf x y) (eqOf x y) (max x.modes.length y.modes.length)
  unfold modesL
  omega
theorem turnRow_one (L : List TurnM) : ∀ u ∈ turnRow L, u.oneCell' = true := by
  intro u hu
  unfold turnRow at hu
  obtain ⟨r, hr, hur⟩ := List.mem_flatten.1 hu
  obtain ⟨t, _, rfl⟩ := List.mem_map.1 hr
  unfold turnC at hur
  simp at hur
  rcases hur with rfl | rfl | rfl | rfl <;> rfl
/-- An owned row, as what is appended. -/
theorem own_news {w : World} {base n c : Nat} {e : TypeId} {size : Nat} {sp : Option Addr} {xs : List Value} (h : w.ownsRow base e size (.slice sp n c) n xs) :
    (sp = none → n = 0) ∧ xs.length = n * size ∧ ∀ ad, sp = some ad → ∀ j u, xs[j]? = some u → w.cell? (ad.add j) = some u := by
  refine ⟨?_, h.1, ?_⟩
  · rintro rfl
    rcases h.2 with ⟨h0, h1⟩ | ⟨g, cap, cur, h0, _⟩
    · exact h1
    · exact absurd h0 (by simp)
  · rintro ad rfl j u hu
    rcases h.2 with ⟨h0, h1⟩ | ⟨g, cap, cur, h0, _⟩
    · exact absurd h0 (by simp)
    · obtain ⟨rfl⟩ : ad = ⟨g, 0, none⟩ := by injection h0 with h1; exact Option.some.inj h1
      have hj : j < n * size := by have := (List.getElem?_eq_some_iff.1 hu).1; rwa [h.1] at this
      rw [Addr.add_lit, Nat.zero_add]
      exact (h.cellAt j hj).trans hu
def dfL (x y : Img) : List TurnM := turnsL 1 1 1 (fun _ => x.res == y.res) ++ turnsL 2 x.tasks.length y.tasks.length (fun k => tEq (x.t k) (y.t k)) ++ modesL x y ++ turnsL 5 x.edges.length y.edges.length (fun k => eEq (x.e k) (y.e k))
theorem ofI (A : World) (va vb : Int) (t : TypeId) (wx : World) (hb : Below ((A.alloc (.cells #[.int .i64 va] t)).alloc (.cells #[.int .i64 vb] t)).heap.size ((A.alloc (.cells #[.int .i64 va] t)).alloc (.cells #[.int .i64 vb] t)) wx) (k : Nat) (hk : k ≤ 1000) :
    Calls Tryd.prog 72 #[.int .i64 1, .int .i64 (k : Nat), .slice (some ⟨A.heap.size, 0, none⟩) 1 1, .slice (some ⟨A.heap.size + 1, 0, none⟩) 1 1] wx fun e w' => e = .returned (holdV 1 k 1 1 (va == vb)) ∧ Below wx.heap.size wx w' := by
  have r0 : RowAt ((A.alloc (.cells #[.int .i64 va] t)).alloc (.cells #[.int .i64 vb] t)) A.heap.size t #[.int .i64 va] := (RowAt.mk _ _ _).new ((Below.refl _ _).alloc (Nat.le_refl _) _)
  have r1 : RowAt ((A.alloc (.cells #[.int .i64 va] t)).alloc (.cells #[.int .i64 vb] t)) (A.heap.size + 1) t #[.int .i64 vb] := by
    have := RowAt.mk (A.alloc (.cells #[.int .i64 va] t)) t #[.int .i64 vb]
    rwa [World.size_alloc] at this
  refine dfHoldI_any 1 k 1 1 1 1 _ _ va vb A.heap.size 0 (A.heap.size + 1) 0 hk (by omega) (by omega) ?_ ?_
  · intro h0
    obtain rfl : k = 0 := by omega
    exact ⟨rfl, (r0.new hb).cell 0⟩
  · intro h0
    obtain rfl : k = 0 := by omega
    exact ⟨rfl, (r1.new hb).cell 0⟩
theorem ofT {w : World} {V V' : Nat → Prop} {x y : Img} {S S' : ImgS} (h : ImgAt w V x S) (h' : ImgAt w V' y S') (hn : x.tasks.length ≤ 100) (hn' : y.tasks.length ≤ 100) (k : Nat) (hk : k ≤ 1000) :
    Calls Tryd.prog 55 #[.int .i64 2, .int .i64 (k : Nat), .slice S.t.sp x.tasks.length S.t.c, .slice S'.t.sp y.tasks.length S'.t.c] w fun e w' => e = .returned (holdV 2 k x.tasks.length y.tasks.length (tEq (x.t k) (y.t k))) ∧ Below w.heap.size w w' :=
  dfHoldT_any 2 k x.tasks.length y.tasks.length S.t.c S'.t.c S.t.sp S'.t.sp (x.t k) (y.t k) S.t.b S.t.o S'.t.b S'.t.o hk (by omega) (by omega)
    (fun h0 => ⟨(h.st.at_ (by omega)).1, (h.st.at_ (by omega)).2.1, (h.tk k h0).1, (h.tk k h0).2⟩) (fun h0 => ⟨(h'.st.at_ (by omega)).1, (h'.st.at_ (by omega)).2.1, (h'.tk k h0).1, (h'.tk k h0).2⟩)
theorem ofE {w : World} {V V' : Nat → Prop} {x y : Img} {S S' : ImgS} (h : ImgAt w V x S) (h' : ImgAt w V' y S') (hn : x.edges.length ≤ 100) (hn' : y.edges.length ≤ 100) (k : Nat) (hk : k ≤ 1000) :
    Calls Tryd.prog 76 #[.int .i64 5, .int .i64 (k : Nat), .slice S.e.sp x.edges.length S.e.c, .slice S'.e.sp y.edges.length S'.e.c] w fun e w' => e = .returned (holdV 5 k x.edges.length y.edges.length (eEq (x.e k) (y.e k))) ∧ Below w.heap.size w w' :=
  dfHoldE_any 5 k x.edges.length y.edges.length S.e.c S'.e.c S.e.sp S'.e.sp (x.e k) (y.e k) S.e.b S.e.o S'.e.b S'.e.o hk (by omega) (by omega)
    (fun h0 => ⟨(h.se.at_ (by omega)).1, (h.se.at_ (by omega)).2.1, (h.ed k h0).1, (h.ed k h0).2⟩) (fun h0 => ⟨(h'.se.at_ (by omega)).1, (h'.se.at_ (by omega)).2.1, (h'.ed k h0).1, (h'.ed k h0).2⟩)
set_option maxHeartbeats 4000000 in
set_option maxRecDepth 100000 in
theorem dfOf_any {w : World} {V V' : Nat → Prop} {x y : Img} {S S' : ImgS} (h : ImgAt w V x S) (h' : ImgAt w V' y S') (hn : x.modes.length ≤ 100) (hn' : y.modes.length ≤ 100) (hq : ∀ k, k < x.modes.length → (x.m k).qs.length ≤ 1000) (hq' : ∀ k, k < y.modes.length → (y.m k).qs.length ≤ 1000)
    (ht : x.tasks.length ≤ 100) (ht' : y.tasks.length ≤ 100) (he : x.edges.length ≤ 100) (he' : y.edges.length ≤ 100) :
    Calls Tryd.prog 22 #[.agg #[.int .i64 x.res, .slice S.t.sp x.tasks.length S.t.c, .slice S.m.sp x.modes.length S.m.c, .slice S.e.sp x.edges.length S.e.c], .agg #[.int .i64 y.res, .slice S'.t.sp y.tasks.length S'.t.c, .slice S'.m.sp y.modes.length S'.m.c, .slice S'.e.sp y.edges.length S'.e.c]] w
      fun e w' => ∃ v, e = .returned v ∧ w'.ownsRow w.heap.size 57 4 v (dfL x y).length (turnRow (dfL x y)) ∧ Below w.heap.size w w' := by
  obtain ⟨i0, hi, hz0, hz1, hz2⟩ := info_parts infoTurn
  have HB := Lib.hid (show ∀ a b : Obj, Below w.heap.size w ((w.alloc a).alloc b) from fun a b => ((Below.refl _ _).alloc (Nat.le_refl _) _).alloc (by simp) _)
  have HI := Lib.hid (fun (A : World) (t : TypeId) => (fun wx hb k hk => ofI A x.res y.res t wx hb k hk))
  have HTc := Lib.hid (fun (wx : World) (hb : Below w.heap.size w wx) => dfTurnsT_any (w := wx) 2 x.tasks.length y.tasks.length S.t.c S'.t.c S.t.sp S'.t.sp (fun k => tEq (x.t k) (y.t k)) ht ht' (fun wy hb2 k hk => ofT (h.new (hb.trans (hb2.mono hb.size))) (h'.new (hb.trans (hb2.mono hb.size))) ht ht' k hk))
  have HMc := Lib.hid (fun (wx : World) (hb : Below w.heap.size w wx) => dfModes_any (h.new hb) (h'.new hb) hn hn' hq hq')
  have HEc := Lib.hid (fun (wx : World) (hb : Below w.heap.size w wx) => dfTurnsE_any (w := wx) 5 x.edges.length y.edges.length S.e.c S'.e.c S.e.sp S'.e.sp (fun k => eEq (x.e k) (y.e k)) he he' (fun wy hb2 k hk => ofE (h.new (hb.trans (hb2.mono hb.size))) (h'.new (hb.trans (hb2.mono hb.size))) he he' k hk))
  unfold dfL
  have l1 := turnsL_len 1 1 1 (fun _ => x.res == y.res) (by omega) (by omega)
  have l2 := turnsL_len 2 x.tasks.length y.tasks.length (fun k => tEq (x.t k) (y.t k)) ht ht'
  have l3 := modesL_len x y hn hn'
  have l4 := turnsL_len 5 x.edges.length y.edges.length (fun k => eEq (x.e k) (y.e k)) he he'
  obtain ⟨q1, hq1⟩ : ∃ f, turnsL 1 1 1 (fun _ => x.res == y.res) = f := ⟨_, rfl⟩
  have HQ1 := Lib.hid hq1
  rw [hq1] at l1 ⊢
  obtain ⟨q2, hq2⟩ : ∃ f, turnsL 2 x.tasks.length y.tasks.length (fun k => tEq (x.t k) (y.t k)) = f := ⟨_, rfl⟩
  rw [hq2] at HTc l2 ⊢
  obtain ⟨q3, hq3⟩ : ∃ f, modesL x y = f := ⟨_, rfl⟩
  rw [hq3] at HMc l3 ⊢
  obtain ⟨q4, hq4⟩ : ∃ f, turnsL 5 x.edges.length y.edges.length (fun k => eEq (x.e k) (y.e k)) = f := ⟨_, rfl⟩
  rw [hq4] at HEc l4 ⊢
  obtain ⟨m1, hm1⟩ : ∃ m, q1.length = m := ⟨_, rfl⟩
  obtain ⟨m2, hm2⟩ : ∃ m, q2.length = m := ⟨_, rfl⟩
  obtain ⟨m3, hm3⟩ : ∃ m, q3.length = m := ⟨_, rfl⟩
  obtain ⟨m4, hm4⟩ : ∃ m, q4.length = m := ⟨_, rfl⟩
  have HMM := Lib.hid hm1
  have HLL := Lib.hid (show (q1 ++ q2 ++ q3 ++ q4).length = m1 + m2 + m3 + m4 by rw [List.length_append, List.length_append, List.length_append, hm1, hm2, hm3, hm4])
  have HRR := Lib.hid (show turnRow (q1 ++ q2 ++ q3 ++ q4) = turnRow q1 ++ turnRow q2 ++ turnRow q3 ++ turnRow q4 by rw [turnRow_app, turnRow_app, turnRow_app])
  rw [hm1] at l1
  rw [hm2] at HTc l2
  rw [hm3] at HMc l3
  rw [hm4] at HEc l4
  have HLs := Lib.hid (And.intro l1 (And.intro l2 (And.intro l3 l4)))
  rw [HLL.out, HRR.out]
  clear hq1 hq2 hq3 hq4 hm1 hm2 hm3 hm4 l1 l2 l3 l4 h h' hn hn' hq hq' ht ht' he he'
  obtain ⟨rx, hrx⟩ : ∃ r, x.res = r := ⟨_, rfl⟩
  obtain ⟨ry, hry⟩ : ∃ r, y.res = r := ⟨_, rfl⟩
  rw [hrx, hry] at HQ1 HI
  rw [hrx, hry]
  clear hrx hry
  go_enter Tryd.func22, Tryd.ntmps22
  go_upto_region 1 with fail
  obtain ⟨Z, hZ⟩ : ∃ Z, Z = w.heap.size := ⟨_, rfl⟩
  generalize hw2 : World.alloc (World.alloc w _) _ = W1
  have H1 := Lib.hid (show Below w.heap.size w W1 ∧ RowAt W1 Z 26 #[.int .i64 rx, .slice S.t.sp x.tasks.length S.t.c, .slice S.m.sp x.modes.length S.m.c, .slice S.e.sp x.edges.length S.e.c] ∧ RowAt W1 (Z + 1) 26 #[.int .i64 ry, .slice S'.t.sp y.tasks.length S'.t.c, .slice S'.m.sp y.modes.length S'.m.c, .slice S'.e.sp y.edges.length S'.e.c] by
    rw [← hw2, hZ]
    exact ⟨HB.out _ _, (RowAt.mk _ _ _).new ((Below.refl _ _).alloc (Nat.le_refl _) _), by have := RowAt.mk (w.alloc (.cells #[.int .i64 rx, .slice S.t.sp x.tasks.length S.t.c, .slice S.m.sp x.modes.length S.m.c, .slice S.e.sp x.edges.length S.e.c] 26)) 26 #[.int .i64 ry, .slice S'.t.sp y.tasks.length S'.t.c, .slice S'.m.sp y.modes.length S'.m.c, .slice S'.e.sp y.edges.length S'.e.c]; rwa [World.size_alloc] at this⟩)
  rw [← hZ]
  have HZ := Lib.hid hZ
  clear hw2 hZ
  have HX := Lib.hid (show ∀ wx, Below W1.heap.size W1 wx → wx.cell? ⟨Z, 0, none⟩ = some (.int .i64 rx) ∧ wx.cell? ⟨Z + 1, 0, none⟩ = some (.int .i64 ry) ∧ wx.cell? ⟨Z, 1, none⟩ = some (.slice S.t.sp x.tasks.length S.t.c) ∧ wx.cell? ⟨Z + 1, 1, none⟩ = some (.slice S'.t.sp y.tasks.length S'.t.c) ∧ wx.cell? ⟨Z, 2, none⟩ = some (.slice S.m.sp x.modes.length S.m.c) ∧ wx.cell? ⟨Z + 1, 2, none⟩ = some (.slice S'.m.sp y.modes.length S'.m.c) ∧ wx.cell? ⟨Z, 3, none⟩ = some (.slice S.e.sp x.edges.length S.e.c) ∧ wx.cell? ⟨Z + 1, 3, none⟩ = some (.slice S'.e.sp y.edges.length S'.e.c) from fun wx hb =>
    have ra := H1.out.2.1.new hb
    have rb := H1.out.2.2.new hb
    ⟨ra.cell 0, rb.cell 0, ra.cell 1, rb.cell 1, ra.cell 2, rb.cell 2, ra.cell 3, rb.cell 3⟩)
  obtain ⟨p0, p1, -⟩ := HX.out W1 (Below.refl _ _)
  have p1' : ∀ o, (W1.alloc o).cell? ⟨Z + 1, 0, none⟩ = some (.int .i64 ry) := fun o => (HX.out _ ((Below.refl _ _).alloc (Nat.le_refl _) _)).2.1
  go_upto_region 2 with (first
    | (go_at_call 50; refine (dfTurnsI_any 1 1 1 1 1 (some ⟨W1.heap.size, 0, none⟩) (some ⟨W1.heap.size + 1, 0, none⟩) (fun _ => rx == ry) (by omega) (by omega) (HI.out W1 _)).mono ?_; rintro e w3 ⟨v1, rfl, o3, b3⟩; have H3 := Lib.hid (show Below W1.heap.size W1 w3 ∧ w3.ownsRow W1.heap.size 57 4 v1 m1 (turnRow q1) from ⟨(((Below.refl _ _).alloc (Nat.le_refl _) _).alloc (by simp) _).trans (b3.mono (by simp; omega)), by rw [HQ1.out, HMM.out] at o3; exact own_mono o3 (by simp; omega)⟩); clear o3 b3)
    | fail)
  clear p0 p1 p1'
  obtain ⟨s1, c1, rfl⟩ := own_val H3.out.2
  obtain ⟨-, -, p0, p1, -⟩ := HX.out w3 H3.out.1
  go_upto_region 3 with (first
    | (go_at_call 51; refine (HTc.out w3 (H1.out.1.trans (H3.out.1.mono H1.out.1.size))).mono ?_; rintro e w4 ⟨vv, rfl, o4, b4⟩; obtain ⟨s4, c4, rfl⟩ := own_val o4; have H4 := Lib.hid (And.intro (H3.out.1.trans (b4.mono H3.out.1.size)) (And.intro (own_below H3.out.2 b4 (Nat.le_refl _)) o4)); clear o4 b4)
    | (at_builtin; refine wpList_append_vary rfl (.tmp 13) (.tmp 18) 53 rfl W1.heap.size 57 i0 (.agg #[.int .i64 0, .int .i64 0, .bool false, .bool false]) 4 24 Tryd.underlying53 hi hz0 hz1 hz2 rfl (by decide) (.slice s1 (m1) c1) (m1) _ rfl H4.out.2.1 s4 m2 c4 (turnRow q2) rfl (own_news H4.out.2.2).2.1 (own_news H4.out.2.2).1 (own_news H4.out.2.2).2.2 (turnRow_one q2) (by obtain ⟨l1, l2, l3, l4⟩ := HLs.out; unfold maxLen; omega) (by obtain ⟨l1, l2, l3, l4⟩ := HLs.out; omega) H4.out.1.size ?_; intro v' w5 hown' hgrow hat; obtain ⟨s5, c5, rfl⟩ := own_val hown'; have H5 := Lib.hid (And.intro (Below.grown H4.out.1 hgrow H4.out.1.size (fun j e => own_ge H4.out.2.1 j e)) hown'); clear hown' hgrow hat)
    | fail)
  clear p0 p1
  obtain ⟨-, -, -, -, p0, p1, -⟩ := HX.out w5 H5.out.1
  go_upto_region 4 with (first
    | (go_at_call 52; refine (HMc.out w5 (H1.out.1.trans (H5.out.1.mono H1.out.1.size))).mono ?_; rintro e w6 ⟨vv, rfl, o4, b4⟩; obtain ⟨s6, c6, rfl⟩ := own_val o4; have H6 := Lib.hid (And.intro (H5.out.1.trans (b4.mono H5.out.1.size)) (And.intro (own_below H5.out.2 b4 (Nat.le_refl _)) o4)); clear o4 b4)
    | (at_builtin; refine wpList_append_vary rfl (.tmp 20) (.tmp 25) 53 rfl W1.heap.size 57 i0 (.agg #[.int .i64 0, .int .i64 0, .bool false, .bool false]) 4 24 Tryd.underlying53 hi hz0 hz1 hz2 rfl (by decide) (.slice s5 (m1 + m2) c5) (m1 + m2) _ rfl H6.out.2.1 s6 m3 c6 (turnRow q3) rfl (own_news H6.out.2.2).2.1 (own_news H6.out.2.2).1 (own_news H6.out.2.2).2.2 (turnRow_one q3) (by obtain ⟨l1, l2, l3, l4⟩ := HLs.out; unfold maxLen; omega) (by obtain ⟨l1, l2, l3, l4⟩ := HLs.out; omega) H6.out.1.size ?_; intro v' w7 hown' hgrow hat; obtain ⟨s7, c7, rfl⟩ := own_val hown'; have H7 := Lib.hid (And.intro (Below.grown H6.out.1 hgrow H6.out.1.size (fun j e => own_ge H6.out.2.1 j e)) hown'); clear hown' hgrow hat)
    | fail)
  clear p0 p1
  obtain ⟨-, -, -, -, -, -, p0, p1⟩ := HX.out w7 H7.out.1
  go_wp2_with (first
    | (go_at_call 53; refine (HEc.out w7 (H1.out.1.trans (H7.out.1.mono H1.out.1.size))).mono ?_; rintro e w8 ⟨vv, rfl, o4, b4⟩; obtain ⟨s8, c8, rfl⟩ := own_val o4; have H8 := Lib.hid (And.intro (H7.out.1.trans (b4.mono H7.out.1.size)) (And.intro (own_below H7.out.2 b4 (Nat.le_refl _)) o4)); clear o4 b4)
    | (at_builtin; refine wpList_append_vary rfl (.tmp 27) (.tmp 32) 53 rfl W1.heap.size 57 i0 (.agg #[.int .i64 0, .int .i64 0, .bool false, .bool false]) 4 24 Tryd.underlying53 hi hz0 hz1 hz2 rfl (by decide) (.slice s7 (m1 + m2 + m3) c7) (m1 + m2 + m3) _ rfl H8.out.2.1 s8 m4 c8 (turnRow q4) rfl (own_news H8.out.2.2).2.1 (own_news H8.out.2.2).1 (own_news H8.out.2.2).2.2 (turnRow_one q4) (by obtain ⟨l1, l2, l3, l4⟩ := HLs.out; unfold maxLen; omega) (by obtain ⟨l1, l2, l3, l4⟩ := HLs.out; omega) H8.out.1.size ?_; intro v' w9 hown' hgrow hat; obtain ⟨s9, c9, rfl⟩ := own_val hown'; have H9 := Lib.hid (And.intro (Below.grown H8.out.1 hgrow H8.out.1.size (fun j e => own_ge H8.out.2.1 j e)) hown'); clear hown' hgrow hat)
    | fail)
  go_ret
  exact ⟨_, rfl, own_mono H9.out.2 H1.out.1.size, H1.out.1.trans (H9.out.1.mono H1.out.1.size)⟩
end Go.Proofs.YtknkhigmokooaaaDoor
