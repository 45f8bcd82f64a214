/- The walk of ImageCopies. -/
import Derived.Test.YtandehdgpbflmaaJR
import Derived.Test.YtandehdgpbflmaaIG
namespace Go.Proofs.Ytandehdgpbflmaa
open Go.RowKit

theorem rangeAll_id {n : Nat} {p : Nat → Bool} (h : ∀ j, j < n → p j = true) : (List.range n).all p = true := rangeAll_yes h
theorem imgEq_refl (x : Img) : imgEq x x = true := by
  simp [imgEq, tasksEq, edgesEq, modeEq, qsEq, tEq, eEq]
/-- What can be turned in a copy: cells that hold numbers. -/
structure TurnAt (w : World) (b b2 : Nat) (nT nM nE : Nat) (C : ImgS) (ql : Nat → Nat) : Prop where
  st : 0 < nT → C.t.sp = some ⟨C.t.b, C.t.o, none⟩ ∧ b ≤ C.t.b ∧ C.t.b < b2 ∧ ∀ j, w.frozen? ⟨C.t.b, j, none⟩ = false
  sm : 0 < nM → C.m.sp = some ⟨C.m.b, C.m.o, none⟩ ∧ b ≤ C.m.b ∧ C.m.b < b2 ∧ ∀ j, w.frozen? ⟨C.m.b, j, none⟩ = false
  se : 0 < nE → C.e.sp = some ⟨C.e.b, C.e.o, none⟩ ∧ b ≤ C.e.b ∧ C.e.b < b2 ∧ ∀ j, w.frozen? ⟨C.e.b, j, none⟩ = false
  sq : ∀ i, i < nM → 0 < ql i → (C.q i).sp = some ⟨(C.q i).b, (C.q i).o, none⟩ ∧ b ≤ (C.q i).b ∧ (C.q i).b < b2 ∧ ∀ j, w.frozen? ⟨(C.q i).b, j, none⟩ = false
  tk : ∀ k, k < nT → ∃ z, w.cell? ⟨C.t.b, C.t.o + k * 11 + 2, none⟩ = some (.int .i64 z)
  ed : ∀ k, k < nE → ∃ z, w.cell? ⟨C.e.b, C.e.o + k * 23 + 1, none⟩ = some (.int .i64 z)
  md : ∀ k, k < nM → (∃ z, w.cell? ⟨C.m.b, C.m.o + k * 2, none⟩ = some (.int .u32 z)) ∧ w.cell? ⟨C.m.b, C.m.o + k * 2 + 1, none⟩ = some (.slice (C.q k).sp (ql k) (C.q k).c)
  qu : ∀ k, k < nM → ∀ j, j < ql k → ∃ z, w.cell? ⟨(C.q k).b, (C.q k).o + j * 2, none⟩ = some (.int .i64 z)
theorem kind_keep {w : World} {a p : Addr} {k : IntKind} {z z' : Int} (ha : w.cell? a = some (.int k z)) : (∀ kk, (∃ y, w.cell? p = some (.int kk y)) → ∃ y, (w.setCell a (.int k z')).cell? p = some (.int kk y)) ∧ ∀ sp n c, w.cell? p = some (.slice sp n c) → (w.setCell a (.int k z')).cell? p = some (.slice sp n c) := by
  by_cases e : p = a
  · subst e
    have h1 := World.cell?_setCell_same w p (.int k z') ha
    exact ⟨fun kk ⟨y, hy⟩ => by
      rw [ha] at hy
      injection hy with hy
      injection hy with h2 h3
      subst h2
      exact ⟨_, h1⟩, fun sp n c hy => by rw [ha] at hy; cases hy⟩
  · have h1 := World.cell?_setCell_other w a p (.int k z') (fun h => e h.symm)
    exact ⟨fun kk ⟨y, hy⟩ => ⟨y, h1.trans hy⟩, fun sp n c hy => h1.trans hy⟩
theorem TurnAt.turn {w : World} {b b2 nT nM nE : Nat} {C : ImgS} {ql : Nat → Nat} (h : TurnAt w b b2 nT nM nE C ql) {a : Addr} {k : IntKind} {z : Int} (z' : Int) (ha : w.cell? a = some (.int k z)) : TurnAt (w.setCell a (.int k z')) b b2 nT nM nE C ql := by
  have hfr : ∀ p : Addr, (w.setCell a (.int k z')).frozen? p = w.frozen? p := fun p => World.frozen?_setCell _ _ _ _
  exact ⟨fun h0 => ⟨(h.st h0).1, (h.st h0).2.1, (h.st h0).2.2.1, fun j => (hfr _).trans ((h.st h0).2.2.2 j)⟩, fun h0 => ⟨(h.sm h0).1, (h.sm h0).2.1, (h.sm h0).2.2.1, fun j => (hfr _).trans ((h.sm h0).2.2.2 j)⟩, fun h0 => ⟨(h.se h0).1, (h.se h0).2.1, (h.se h0).2.2.1, fun j => (hfr _).trans ((h.se h0).2.2.2 j)⟩,
    fun i hi h0 => ⟨(h.sq i hi h0).1, (h.sq i hi h0).2.1, (h.sq i hi h0).2.2.1, fun j => (hfr _).trans ((h.sq i hi h0).2.2.2 j)⟩,
    fun i hi => (kind_keep ha).1 _ (h.tk i hi), fun i hi => (kind_keep ha).1 _ (h.ed i hi), fun i hi => ⟨(kind_keep ha).1 _ (h.md i hi).1, (kind_keep ha).2 _ _ _ (h.md i hi).2⟩, fun i hi j hj => (kind_keep ha).1 _ (h.qu i hi j hj)⟩
theorem TurnAt.new {w w1 : World} {b b2 nT nM nE : Nat} {C : ImgS} {ql : Nat → Nat} (h : TurnAt w b b2 nT nM nE C ql) (hb2 : b2 ≤ w.heap.size) (hb : Below w.heap.size w w1) : TurnAt w1 b b2 nT nM nE C ql := by
  have hc := Ch.new (T := fun _ => False) hb
  exact ⟨fun h0 => ⟨(h.st h0).1, (h.st h0).2.1, (h.st h0).2.2.1, fun j => (froze_new hb (by have := (h.st h0).2.2.1; omega) j).trans ((h.st h0).2.2.2 j)⟩, fun h0 => ⟨(h.sm h0).1, (h.sm h0).2.1, (h.sm h0).2.2.1, fun j => (froze_new hb (by have := (h.sm h0).2.2.1; omega) j).trans ((h.sm h0).2.2.2 j)⟩, fun h0 => ⟨(h.se h0).1, (h.se h0).2.1, (h.se h0).2.2.1, fun j => (froze_new hb (by have := (h.se h0).2.2.1; omega) j).trans ((h.se h0).2.2.2 j)⟩,
    fun i hi h0 => ⟨(h.sq i hi h0).1, (h.sq i hi h0).2.1, (h.sq i hi h0).2.2.1, fun j => (froze_new hb (by have := (h.sq i hi h0).2.2.1; omega) j).trans ((h.sq i hi h0).2.2.2 j)⟩,
    fun i hi => (h.tk i hi).imp fun _ hz => hc.cell hz (fun h => h), fun i hi => (h.ed i hi).imp fun _ hz => hc.cell hz (fun h => h), fun i hi => ⟨(h.md i hi).1.imp fun _ hz => hc.cell hz (fun h => h), hc.cell (h.md i hi).2 (fun h => h)⟩, fun i hi j hj => (h.qu i hi j hj).imp fun _ hz => hc.cell hz (fun h => h)⟩
theorem CpAt.turns {w : World} {b : Nat} {x : Img} {C : ImgS} (h : CpAt w b x.modes.length x C) : TurnAt w b w.heap.size x.tasks.length x.modes.length x.edges.length C (fun i => (x.m i).qs.length) where
  st := fun h0 => ⟨(h.im.st.at_ h0).1, (h.t h0).1, (h.im.st.at_ h0).2.1, (h.t h0).2⟩
  sm := fun h0 => ⟨(h.im.sm.at_ h0).1, (h.m h0).1, (h.im.sm.at_ h0).2.1, (h.m h0).2⟩
  se := fun h0 => ⟨(h.im.se.at_ h0).1, (h.e h0).1, (h.im.se.at_ h0).2.1, (h.e h0).2⟩
  sq := fun i hi h0 => ⟨((h.im.md i hi).2.2.at_ h0).1, (h.q i hi hi h0).1, ((h.im.md i hi).2.2.at_ h0).2.1, (h.q i hi hi h0).2⟩
  tk := fun k hk => ⟨_, (h.im.tk k hk).1 2 _ rfl⟩
  ed := fun k hk => ⟨_, (h.im.ed k hk).1 1 _ rfl⟩
  md := fun k hk => ⟨⟨_, (h.im.md k hk).1⟩, (h.im.md k hk).2.1⟩
  qu := fun k hk j hj => ⟨_, (h.im.qu k hk j hj).1⟩
/-- A copy, and between which blocks it lies. -/
structure CpR (w : World) (p e : Nat) (x : Img) (C : ImgS) : Prop where
  im : CpAt w p x.modes.length x C
  t : 0 < x.tasks.length → C.t.b < e
  m : 0 < x.modes.length → C.m.b < e
  ed : 0 < x.edges.length → C.e.b < e
  q : ∀ i, i < x.modes.length → 0 < (x.m i).qs.length → (C.q i).b < e
  up : e ≤ w.heap.size
theorem CpR.mk' {w : World} {p : Nat} {x : Img} {C : ImgS} (h : CpAt w p x.modes.length x C) : CpR w p w.heap.size x C :=
  ⟨h, fun h0 => (h.im.st.at_ h0).2.1, fun h0 => (h.im.sm.at_ h0).2.1, fun h0 => (h.im.se.at_ h0).2.1, fun i hi h0 => ((h.im.md i hi).2.2.at_ h0).2.1, Nat.le_refl _⟩
theorem CpR.apart {w : World} {p e : Nat} {x : Img} {C : ImgS} (h : CpR w p e x C) : ImgAt w (fun j => ¬ (p ≤ j ∧ j < e)) x C where
  st := ⟨fun h0 => ⟨(h.im.im.st.at_ h0).1, (h.im.im.st.at_ h0).2.1, fun hn => hn ⟨(h.im.t h0).1, h.t h0⟩⟩, h.im.im.st.sm⟩
  sm := ⟨fun h0 => ⟨(h.im.im.sm.at_ h0).1, (h.im.im.sm.at_ h0).2.1, fun hn => hn ⟨(h.im.m h0).1, h.m h0⟩⟩, h.im.im.sm.sm⟩
  se := ⟨fun h0 => ⟨(h.im.im.se.at_ h0).1, (h.im.im.se.at_ h0).2.1, fun hn => hn ⟨(h.im.e h0).1, h.ed h0⟩⟩, h.im.im.se.sm⟩
  tk := h.im.im.tk
  md := fun k hk => ⟨(h.im.im.md k hk).1, (h.im.im.md k hk).2.1, ⟨fun h0 => ⟨((h.im.im.md k hk).2.2.at_ h0).1, ((h.im.im.md k hk).2.2.at_ h0).2.1, fun hn => hn ⟨(h.im.q k hk hk h0).1, h.q k hk h0⟩⟩, (h.im.im.md k hk).2.2.sm⟩⟩
  qu := h.im.im.qu
  ed := h.im.im.ed
theorem CpR.keep {T : Nat → Prop} {w w1 : World} {p e : Nat} {x : Img} {C : ImgS} (h : CpR w p e x C) (c : Ch T w w1) (hT : ∀ j, T j → ¬ (p ≤ j ∧ j < e)) : CpR w1 p e x C := by
  have c' : Ch (fun j => ¬ (p ≤ j ∧ j < e)) w w1 := c.mono fun j _ hj => hT j hj
  have hfr : ∀ g, p ≤ g → g < e → ∀ j, w1.frozen? ⟨g, j, none⟩ = w.frozen? ⟨g, j, none⟩ := fun g h1 h2 j => c'.frozen (show g < _ from Nat.lt_of_lt_of_le h2 h.up) (fun hn => hn ⟨h1, h2⟩)
  exact ⟨⟨(h.apart.keep c').more (fun _ _ h => h.elim), fun h0 => ⟨(h.im.t h0).1, fun j => (hfr _ (h.im.t h0).1 (h.t h0) j).trans ((h.im.t h0).2 j)⟩, fun h0 => ⟨(h.im.m h0).1, fun j => (hfr _ (h.im.m h0).1 (h.m h0) j).trans ((h.im.m h0).2 j)⟩, fun h0 => ⟨(h.im.e h0).1, fun j => (hfr _ (h.im.e h0).1 (h.ed h0) j).trans ((h.im.e h0).2 j)⟩,
    fun i h1 h2 h0 => ⟨(h.im.q i h1 h2 h0).1, fun j => (hfr _ (h.im.q i h1 h2 h0).1 (h.q i h2 h0) j).trans ((h.im.q i h1 h2 h0).2 j)⟩⟩, h.t, h.m, h.ed, h.q, Nat.le_trans h.up c.size⟩
theorem CpR.new {w w1 : World} {p e : Nat} {x : Img} {C : ImgS} (h : CpR w p e x C) (hb : Below w.heap.size w w1) : CpR w1 p e x C := h.keep (Ch.new (T := fun _ => False) hb) (fun _ h => h.elim)
theorem CpR.turns {w : World} {p e : Nat} {x : Img} {C : ImgS} (h : CpR w p e x C) : TurnAt w p e x.tasks.length x.modes.length x.edges.length C (fun i => (x.m i).qs.length) where
  st := fun h0 => ⟨(h.im.im.st.at_ h0).1, (h.im.t h0).1, h.t h0, (h.im.t h0).2⟩
  sm := fun h0 => ⟨(h.im.im.sm.at_ h0).1, (h.im.m h0).1, h.m h0, (h.im.m h0).2⟩
  se := fun h0 => ⟨(h.im.im.se.at_ h0).1, (h.im.e h0).1, h.ed h0, (h.im.e h0).2⟩
  sq := fun i hi h0 => ⟨((h.im.im.md i hi).2.2.at_ h0).1, (h.im.q i hi hi h0).1, h.q i hi h0, (h.im.q i hi hi h0).2⟩
  tk := fun k hk => ⟨_, (h.im.im.tk k hk).1 2 _ rfl⟩
  ed := fun k hk => ⟨_, (h.im.im.ed k hk).1 1 _ rfl⟩
  md := fun k hk => ⟨⟨_, (h.im.im.md k hk).1⟩, (h.im.im.md k hk).2.1⟩
  qu := fun k hk j hj => ⟨_, (h.im.im.qu k hk j hj).1⟩
theorem iCopyR_any {w : World} {V : Nat → Prop} {x : Img} {S : ImgS} (h : ImgAt w V x S) (hg : greatI x = false) :
    Calls Try.prog 16 #[.agg #[.int .i64 x.res, .slice S.t.sp x.tasks.length S.t.c, .slice S.m.sp x.modes.length S.m.c, .slice S.e.sp x.edges.length S.e.c]] w fun e w' => ∃ C : ImgS, e = .returned (.agg #[.int .i64 x.res, .slice C.t.sp x.tasks.length C.t.c, .slice C.m.sp x.modes.length C.m.c, .slice C.e.sp x.edges.length C.e.c]) ∧ CpR w' w.heap.size w'.heap.size x C ∧ Below w.heap.size w w' := by
  obtain ⟨g1, g2, g3, g4⟩ := great_not hg
  refine (iCopy_any h (by omega) (by omega) (by omega) (fun k hk => by have := g4 k hk; omega)).mono ?_
  rintro e w' ⟨C, h1, h2, h3⟩
  exact ⟨C, h1, CpR.mk' h2, h3⟩
set_option maxHeartbeats 16000000 in
set_option maxRecDepth 100000 in
theorem law_copies {w : World} {V V' : Nat → Prop} {x y : Img} {S S' : ImgS} (h : ImgAt w V x S) (h' : ImgAt w V' y S') :
    Calls Try.prog 5 #[.agg #[.int .i64 x.res, .slice S.t.sp x.tasks.length S.t.c, .slice S.m.sp x.modes.length S.m.c, .slice S.e.sp x.edges.length S.e.c], .agg #[.int .i64 y.res, .slice S'.t.sp y.tasks.length S'.t.c, .slice S'.m.sp y.modes.length S'.m.c, .slice S'.e.sp y.edges.length S'.e.c]] w fun e w' => e = .returned (.bool true) ∧ Below w.heap.size w w' := by
  have HG := Lib.hid (show ∀ wx, Below w.heap.size w wx → _ from fun wx hb => great10_any (h.new hb))
  have HG' := Lib.hid (show ∀ wx, Below w.heap.size w wx → _ from fun wx hb => great10_any (h'.new hb))
  have HCp := Lib.hid (fun (hg : greatI x = false) (wx : World) (hb : Below w.heap.size w wx) => iCopyR_any (h.new hb) hg)
  have HXY := Lib.hid (show ∀ wx, Below w.heap.size w wx → _ from fun wx hb => iSame_any (h.new hb) (h'.new hb))
  have HRXY := Lib.hid (show ∀ wx, Below w.heap.size w wx → _ from fun wx hb => rSame_any (h.new hb) (h'.new hb))
  have HRCX := Lib.hid (fun (wx : World) (hb : Below w.heap.size w wx) (p e : Nat) (C : ImgS) (hc : CpR wx p e x C) => by
    have h1 := rSame_any hc.im.im (h.new hb)
    rw [imgEq_refl] at h1
    exact h1)
  have HRXC := Lib.hid (fun (wx : World) (hb : Below w.heap.size w wx) (p e : Nat) (C : ImgS) (hc : CpR wx p e x C) => by
    have h1 := rSame_any (h.new hb) hc.im.im
    rw [imgEq_refl] at h1
    exact h1)
  have HIXC := Lib.hid (fun (wx : World) (hb : Below w.heap.size w wx) (p e : Nat) (C : ImgS) (hc : CpR wx p e x C) => by
    have h1 := iSame_any (h.new hb) hc.im.im
    rw [imgEq_refl] at h1
    exact h1)
  have HTu := Lib.hid (fun (wx : World) (p e : Nat) (C : ImgS) (hc : CpR wx p e x C) => hc.turns)
  have HQb := Lib.hid (fun (hg : greatI x = false) => great_not hg)
  obtain ⟨sT, hsT⟩ : ∃ s, S.t.sp = s := ⟨_, rfl⟩
  obtain ⟨sM, hsM⟩ : ∃ s, S.m.sp = s := ⟨_, rfl⟩
  obtain ⟨sE, hsE⟩ : ∃ s, S.e.sp = s := ⟨_, rfl⟩
  obtain ⟨nT, hnT⟩ : ∃ n, x.tasks.length = n := ⟨_, rfl⟩
  obtain ⟨nM, hnM⟩ : ∃ n, x.modes.length = n := ⟨_, rfl⟩
  obtain ⟨nE, hnE⟩ : ∃ n, x.edges.length = n := ⟨_, rfl⟩
  obtain ⟨res, hres⟩ : ∃ r, x.res = r := ⟨_, rfl⟩
  obtain ⟨sT', hsT'⟩ : ∃ s, S'.t.sp = s := ⟨_, rfl⟩
  obtain ⟨sM', hsM'⟩ : ∃ s, S'.m.sp = s := ⟨_, rfl⟩
  obtain ⟨sE', hsE'⟩ : ∃ s, S'.e.sp = s := ⟨_, rfl⟩
  obtain ⟨nT', hnT'⟩ : ∃ n, y.tasks.length = n := ⟨_, rfl⟩
  obtain ⟨nM', hnM'⟩ : ∃ n, y.modes.length = n := ⟨_, rfl⟩
  obtain ⟨nE', hnE'⟩ : ∃ n, y.edges.length = n := ⟨_, rfl⟩
  obtain ⟨res', hres'⟩ : ∃ r, y.res = r := ⟨_, rfl⟩
  obtain ⟨g, hg⟩ : ∃ v, greatI x = v := ⟨_, rfl⟩
  obtain ⟨g', hg'⟩ : ∃ v, greatI y = v := ⟨_, rfl⟩
  obtain ⟨eq, heq⟩ : ∃ v, imgEq x y = v := ⟨_, rfl⟩
  rw [hnT, hnM, hnE, hsT, hsM, hsE, hres] at HG HCp HRXC HRCX HIXC
  rw [hnT', hnM', hnE', hsT', hsM', hsE', hres'] at HG'
  rw [hnT, hnM, hnE, hsT, hsM, hsE, hres, hnT', hnM', hnE', hsT', hsM', hsE', hres', heq] at HXY HRXY
  rw [hg] at HG HCp HQb
  rw [hg'] at HG'
  rw [hnT, hnM, hnE] at HTu HQb
  rw [hnT, hnM, hnE, hsT, hsM, hsE, hres, hnT', hnM', hnE', hsT', hsM', hsE', hres']
  obtain ⟨ql, hql⟩ : ∃ ql : Nat → Nat, (fun i => (x.m i).qs.length) = ql := ⟨_, rfl⟩
  have HQL := Lib.hid (fun i => congrFun hql i)
  rw [hql] at HTu
  obtain ⟨Z, hZ⟩ : ∃ Z, Z = w.heap.size := ⟨_, rfl⟩
  have HZZ := Lib.hid (show w.heap.size = Z from hZ.symm)
  have HZ := Lib.hid (show ∀ w2, (w.alloc (.cells #[.int .i64 res, .slice sT nT S.t.c, .slice sM nM S.m.c, .slice sE nE S.e.c] 26)).alloc (.cells #[.int .i64 res', .slice sT' nT' S'.t.c, .slice sM' nM' S'.m.c, .slice sE' nE' S'.e.c] 26) = w2 → Below w.heap.size w w2 ∧ RowAt w2 Z 26 #[.int .i64 res, .slice sT nT S.t.c, .slice sM nM S.m.c, .slice sE nE S.e.c] ∧ RowAt w2 (Z + 1) 26 #[.int .i64 res', .slice sT' nT' S'.t.c, .slice sM' nM' S'.m.c, .slice sE' nE' S'.e.c] from fun w2 hw => by
    rw [← hw, hZ]; exact two_alloc (Below.refl _ _))
  clear h h' hnT hnM hnE hsT hsM hsE hres hnT' hnM' hnE' hsT' hsM' hsE' hres' hg hg' heq hql
  go_enter Try.func5, Try.ntmps5
  go_upto_region 1 with fail
  rw [← hZ]
  generalize hw2 : World.alloc _ _ = w2
  have H2 := Lib.hid (HZ.out w2 hw2)
  clear hw2 hZ HZ
  have e0 : w2.cell? ⟨Z, 0, none⟩ = some (.int .i64 res) := H2.out.2.1.cell 0
  cases g with
  | true =>
    go_wp2_with (first
      | (refine wpList_load_row rfl 26 (.tmp 2) rfl Z rfl 26 #[.int .i64 res, .slice sT nT S.t.c, .slice sM nM S.m.c, .slice sE nE S.e.c] (0, 0) _ H2.out.2.1 Try.underlying26 rfl (by kernel_rfl) ?_)
      | (go_at_call 8; refine (HG.out _ H2.out.1).mono ?_; rintro e w3 ⟨rfl, b3⟩; have H3 := Lib.hid (H2.out.1.trans (b3.mono H2.out.1.size)); clear b3 e0)
      | fail)
    go_ret
    exact ⟨rfl, H3.out⟩
  | false =>
  cases g' with
  | true =>
    go_wp2_with (first
      | (refine wpList_load_row rfl 26 (.tmp 2) rfl Z rfl 26 #[.int .i64 res, .slice sT nT S.t.c, .slice sM nM S.m.c, .slice sE nE S.e.c] (0, 0) _ H2.out.2.1 Try.underlying26 rfl (by kernel_rfl) ?_)
      | (go_at_call 8; refine (HG.out _ H2.out.1).mono ?_; rintro e w3 ⟨rfl, b3⟩; have H3 := Lib.hid (rrKeep H2.out b3); clear b3 e0 HG; have y0 : w3.cell? ⟨Z + 1, 0, none⟩ = some (.int .i64 res') := H3.out.2.2.cell 0; have y1 : w3.cell? ⟨Z + 1, 1, none⟩ = some (.slice sT' nT' S'.t.c) := H3.out.2.2.cell 1; have y2 : w3.cell? ⟨Z + 1, 2, none⟩ = some (.slice sM' nM' S'.m.c) := H3.out.2.2.cell 2; have y3 : w3.cell? ⟨Z + 1, 3, none⟩ = some (.slice sE' nE' S'.e.c) := H3.out.2.2.cell 3)
      | (go_at_call 8; refine (HG'.out _ H3.out.1).mono ?_; rintro e w4 ⟨rfl, b4⟩; have H4 := Lib.hid (H3.out.1.trans (b4.mono H3.out.1.size)); clear b4 y0 y1 y2 y3)
      | fail)
    go_ret
    exact ⟨rfl, H4.out⟩
  | false =>
  go_upto_region 3 with (first
      | (refine wpList_load_row rfl 26 (.tmp 2) rfl Z rfl 26 #[.int .i64 res, .slice sT nT S.t.c, .slice sM nM S.m.c, .slice sE nE S.e.c] (0, 0) _ H2.out.2.1 Try.underlying26 rfl (by kernel_rfl) ?_)
      | (go_at_call 8; refine (HG.out _ H2.out.1).mono ?_; rintro e w3 ⟨rfl, b3⟩; have H3 := Lib.hid (rrKeep H2.out b3); clear b3 e0 HG; have y0 : w3.cell? ⟨Z + 1, 0, none⟩ = some (.int .i64 res') := H3.out.2.2.cell 0; have y1 : w3.cell? ⟨Z + 1, 1, none⟩ = some (.slice sT' nT' S'.t.c) := H3.out.2.2.cell 1; have y2 : w3.cell? ⟨Z + 1, 2, none⟩ = some (.slice sM' nM' S'.m.c) := H3.out.2.2.cell 2; have y3 : w3.cell? ⟨Z + 1, 3, none⟩ = some (.slice sE' nE' S'.e.c) := H3.out.2.2.cell 3)
      | (go_at_call 8; refine (HG'.out _ H3.out.1).mono ?_; rintro e w4 ⟨rfl, b4⟩; have H4 := Lib.hid (rrKeep H3.out b4); clear b4 y0 y1 y2 y3)
      | fail)
  clear HG' H2 H3
  have HCp1 := Lib.hid (HCp.out (by first | rfl | trivial))
  have HQb1 := Lib.hid (HQb.out (by first | rfl | trivial))
  clear HCp HQb
  obtain ⟨wd, hwd⟩ : ∃ wd, w4.drew = wd := ⟨_, rfl⟩
  have HG1 := Lib.hid (show Below w.heap.size w wd ∧ RowAt wd Z 26 #[.int .i64 res, .slice sT nT S.t.c, .slice sM nM S.m.c, .slice sE nE S.e.c] ∧ RowAt wd (Z + 1) 26 #[.int .i64 res', .slice sT' nT' S'.t.c, .slice sM' nM' S'.m.c, .slice sE' nE' S'.e.c] by rw [← hwd]; exact rrD H4.out)
  clear H4
  go_cut [5, 6] from 17 to 20 (fun s5 s6 wx => ∃ (b5 b6 : Nat) (C1 C2 : ImgS) (p1 e1 p2 e2 : Nat), s5 = .pointer (some ⟨b5, 0, none⟩) ∧ s6 = .pointer (some ⟨b6, 0, none⟩) ∧ Aside ((Z + 1 < p1 ∧ e1 ≤ p2 ∧ (b5 < p1 ∨ e1 ≤ b5) ∧ (b6 < p1 ∨ e1 ≤ b6)) ∧ (Below w.heap.size w wx ∧ RowAt wx Z 26 #[.int .i64 res, .slice sT nT S.t.c, .slice sM nM S.m.c, .slice sE nE S.e.c] ∧ RowAt wx (Z + 1) 26 #[.int .i64 res', .slice sT' nT' S'.t.c, .slice sM' nM' S'.m.c, .slice sE' nE' S'.e.c]) ∧ RowAt wx b5 26 #[.int .i64 res, .slice C1.t.sp nT C1.t.c, .slice C1.m.sp nM C1.m.c, .slice C1.e.sp nE C1.e.c] ∧ RowAt wx b6 26 #[.int .i64 res, .slice C2.t.sp nT C2.t.c, .slice C2.m.sp nM C2.m.c, .slice C2.e.sp nE C2.e.c] ∧ CpR wx p1 e1 x C1 ∧ CpR wx p2 e2 x C2))
  case first => as_aux_lemma =>
    refine wp_region_held_drew (S := fun w' => Below w.heap.size w w' ∧ RowAt w' Z 26 #[.int .i64 res, .slice sT nT S.t.c, .slice sM nM S.m.c, .slice sE nE S.e.c] ∧ RowAt w' (Z + 1) 26 #[.int .i64 res', .slice sT' nT' S'.t.c, .slice sM' nM' S'.m.c, .slice sE' nE' S'.e.c]) (by kernel_rfl) (by rw [hwd]; exact HG1.out) (fun hS => ?_)
    rw [hwd] at hS ⊢
    clear hwd
    refine wpAnyH_take (i := 0) (oi := { dst := some 17, op := .load 26 (.tmp 2), type := 26, pos := "law.go:82", after := #[], guard := none }) (v := (.agg #[.int .i64 res, .slice sT nT S.t.c, .slice sM nM S.m.c, .slice sE nE S.e.c])) rfl (by kernel_rfl) (by kernel_rfl) (by kernel_rfl) (fun _ _ _ h => h) (Or.inl ⟨by rfl, ?_⟩) hS ?_
    · intro w hw; obtain ⟨s0, s1, s2⟩ := hw; exact exec_row_load 26 (.tmp 2) (by exact rfl) Z (by exact rfl) 26 #[.int .i64 res, .slice sT nT S.t.c, .slice sM nM S.m.c, .slice sE nE S.e.c] (0, 0) _ s1 Try.underlying26 rfl (by kernel_rfl)
    simp only [Act.put, List.setIfInBounds_toArray, List.set_cons_zero, List.set_cons_succ]
    refine wpAnyH_take (i := 2) (oi := { dst := some 19, op := .load 26 (.tmp 2), type := 26, pos := "law.go:82", after := #[], guard := none }) (v := (.agg #[.int .i64 res, .slice sT nT S.t.c, .slice sM nM S.m.c, .slice sE nE S.e.c])) rfl (by kernel_rfl) (by kernel_rfl) (by kernel_rfl) (fun _ _ _ h => h) (Or.inl ⟨by rfl, ?_⟩) hS ?_
    · intro w hw; obtain ⟨s0, s1, s2⟩ := hw; exact exec_row_load 26 (.tmp 2) (by exact rfl) Z (by exact rfl) 26 #[.int .i64 res, .slice sT nT S.t.c, .slice sM nM S.m.c, .slice sE nE S.e.c] (0, 0) _ s1 Try.underlying26 rfl (by kernel_rfl)
    simp only [Act.put, List.setIfInBounds_toArray, List.set_cons_zero, List.set_cons_succ]
    refine wpAnyH_ready (rs := [1, 4, 5]) (by kernel_rfl) (by simp) (AllReadyH.cons (o := { dst := some 18, op := .call { callee := .value (.func 16), args := #[.tmp 17], argTypes := #[26] }, type := 26, pos := "law.go:82", after := #[{ on := 0, ground := .data }], guard := none }) rfl (fun K hK => ?_) (AllReadyH.cons (o := { dst := some 5, op := .alloc 26, type := 0, pos := "law.go:82", after := #[], guard := none }) rfl (fun K hK => ?_) (AllReadyH.cons (o := { dst := some 6, op := .alloc 26, type := 0, pos := "law.go:82", after := #[], guard := none }) rfl (fun K hK => ?_) AllReadyH.nil)))
    · go_simp
      go_at_call 16
      refine (HCp1.out _ HG1.out.1).mono ?_
      rintro e wg101 ⟨C1, rfl, k1, bc1⟩
      obtain ⟨p1, hp1⟩ : ∃ p, p = (wd).heap.size := ⟨_, rfl⟩
      obtain ⟨e1, he1⟩ : ∃ p, p = wg101.heap.size := ⟨_, rfl⟩
      rw [← hp1, ← he1] at k1
      have HG102 := Lib.hid (show Below w.heap.size w wg101 ∧ RowAt wg101 Z 26 #[.int .i64 res, .slice sT nT S.t.c, .slice sM nM S.m.c, .slice sE nE S.e.c] ∧ RowAt wg101 (Z + 1) 26 #[.int .i64 res', .slice sT' nT' S'.t.c, .slice sM' nM' S'.m.c, .slice sE' nE' S'.e.c] ∧ CpR wg101 p1 e1 x C1 ∧ Z + 1 < p1 from ⟨(HG1.out.1.trans ((bc1).mono HG1.out.1.size)), (HG1.out.2.1.new (bc1)), (HG1.out.2.2.new (bc1)), k1, (by have := HG1.out.2.2.lt; omega)⟩)
      clear hp1 he1 bc1 k1
      try dsimp only
      refine hK.out _ _ ⟨HG102.out.1, HG102.out.2.1, HG102.out.2.2.1⟩ (fun hHeld => ?_)
      clear hK K
      try simp only [Act.put, List.setIfInBounds_toArray, List.set_cons_zero, List.set_cons_succ]
      refine wpAnyH_ready (rs := [3, 4, 5]) (by kernel_rfl) (by simp) (AllReadyH.cons (o := { dst := some 20, op := .call { callee := .value (.func 16), args := #[.tmp 19], argTypes := #[26] }, type := 26, pos := "law.go:82", after := #[{ on := 2, ground := .data }, { on := 1, ground := .chain }], guard := none }) rfl (fun K hK => ?_) (AllReadyH.cons (o := { dst := some 5, op := .alloc 26, type := 0, pos := "law.go:82", after := #[], guard := none }) rfl (fun K hK => ?_) (AllReadyH.cons (o := { dst := some 6, op := .alloc 26, type := 0, pos := "law.go:82", after := #[], guard := none }) rfl (fun K hK => ?_) AllReadyH.nil)))
      · go_simp
        go_at_call 16
        refine (HCp1.out _ HG102.out.1).mono ?_
        rintro e wg103 ⟨C2, rfl, k2, bc2⟩
        obtain ⟨p2, hp2⟩ : ∃ p, p = (wg101).heap.size := ⟨_, rfl⟩
        obtain ⟨e2, he2⟩ : ∃ p, p = wg103.heap.size := ⟨_, rfl⟩
        rw [← hp2, ← he2] at k2
        have HG104 := Lib.hid (show Below w.heap.size w wg103 ∧ RowAt wg103 Z 26 #[.int .i64 res, .slice sT nT S.t.c, .slice sM nM S.m.c, .slice sE nE S.e.c] ∧ RowAt wg103 (Z + 1) 26 #[.int .i64 res', .slice sT' nT' S'.t.c, .slice sM' nM' S'.m.c, .slice sE' nE' S'.e.c] ∧ CpR wg103 p1 e1 x C1 ∧ Z + 1 < p1 ∧ CpR wg103 p2 e2 x C2 ∧ Z + 1 < p2 ∧ e1 ≤ p2 from ⟨(HG102.out.1.trans ((bc2).mono HG102.out.1.size)), (HG102.out.2.1.new (bc2)), (HG102.out.2.2.1.new (bc2)), (HG102.out.2.2.2.1.new (bc2)), HG102.out.2.2.2.2, k2, (by have := HG102.out.2.2.1.lt; omega), (by have := HG102.out.2.2.2.1.up; omega)⟩)
        clear hp2 he2 bc2 k2
        try dsimp only
        refine hK.out _ _ ⟨HG104.out.1, HG104.out.2.1, HG104.out.2.2.1⟩ (fun hHeld => ?_)
        clear hK K
        try simp only [Act.put, List.setIfInBounds_toArray, List.set_cons_zero, List.set_cons_succ]
        refine wpAnyH_ready (rs := [4, 5]) (by kernel_rfl) (by simp) (AllReadyH.cons (o := { dst := some 5, op := .alloc 26, type := 0, pos := "law.go:82", after := #[], guard := none }) rfl (fun K hK => ?_) (AllReadyH.cons (o := { dst := some 6, op := .alloc 26, type := 0, pos := "law.go:82", after := #[], guard := none }) rfl (fun K hK => ?_) AllReadyH.nil))
        · go_simp
          obtain ⟨b5, hb5⟩ : ∃ b, b = (wg103).heap.size := ⟨_, rfl⟩
          rw [← hb5]
          generalize hwg105 : World.alloc _ _ = wg105
          have bwg105 : Below (wg103).heap.size (wg103) wg105 := by rw [← hwg105]; exact (Below.refl _ _).alloc (Nat.le_refl _) _
          have rwg105 : RowAt wg105 b5 26 (#[.int .i64 0, .slice none 0 0, .slice none 0 0, .slice none 0 0]) := by rw [← hwg105, hb5]; exact RowAt.mk _ _ _
          have HG106 := Lib.hid (show Below w.heap.size w wg105 ∧ RowAt wg105 Z 26 #[.int .i64 res, .slice sT nT S.t.c, .slice sM nM S.m.c, .slice sE nE S.e.c] ∧ RowAt wg105 (Z + 1) 26 #[.int .i64 res', .slice sT' nT' S'.t.c, .slice sM' nM' S'.m.c, .slice sE' nE' S'.e.c] ∧ CpR wg105 p1 e1 x C1 ∧ Z + 1 < p1 ∧ CpR wg105 p2 e2 x C2 ∧ Z + 1 < p2 ∧ e1 ≤ p2 ∧ RowAt wg105 b5 26 (#[.int .i64 0, .slice none 0 0, .slice none 0 0, .slice none 0 0]) ∧ Z + 1 < b5 ∧ e1 ≤ b5 ∧ e2 ≤ b5 from ⟨(HG104.out.1.trans ((bwg105).mono HG104.out.1.size)), (HG104.out.2.1.new (bwg105)), (HG104.out.2.2.1.new (bwg105)), (HG104.out.2.2.2.1.new (bwg105)), HG104.out.2.2.2.2.1, (HG104.out.2.2.2.2.2.1.new (bwg105)), HG104.out.2.2.2.2.2.2.1, HG104.out.2.2.2.2.2.2.2, rwg105, (by have := HG104.out.2.2.1.lt; omega), (by have := HG104.out.2.2.2.1.up; omega), (by have := HG104.out.2.2.2.2.2.1.up; omega)⟩)
          clear hwg105 bwg105 rwg105 hb5
          refine hK.out _ _ ⟨HG106.out.1, HG106.out.2.1, HG106.out.2.2.1⟩ (fun hHeld => ?_)
          clear hK K
          try simp only [Act.put, List.setIfInBounds_toArray, List.set_cons_zero, List.set_cons_succ]
          refine wpAnyH_ready (rs := [5]) (by kernel_rfl) (by simp) (AllReadyH.cons (o := { dst := some 6, op := .alloc 26, type := 0, pos := "law.go:82", after := #[], guard := none }) rfl (fun K hK => ?_) AllReadyH.nil)
          go_simp
          obtain ⟨b6, hb6⟩ : ∃ b, b = (wg105).heap.size := ⟨_, rfl⟩
          rw [← hb6]
          generalize hwg107 : World.alloc _ _ = wg107
          have bwg107 : Below (wg105).heap.size (wg105) wg107 := by rw [← hwg107]; exact (Below.refl _ _).alloc (Nat.le_refl _) _
          have rwg107 : RowAt wg107 b6 26 (#[.int .i64 0, .slice none 0 0, .slice none 0 0, .slice none 0 0]) := by rw [← hwg107, hb6]; exact RowAt.mk _ _ _
          have HG108 := Lib.hid (show Below w.heap.size w wg107 ∧ RowAt wg107 Z 26 #[.int .i64 res, .slice sT nT S.t.c, .slice sM nM S.m.c, .slice sE nE S.e.c] ∧ RowAt wg107 (Z + 1) 26 #[.int .i64 res', .slice sT' nT' S'.t.c, .slice sM' nM' S'.m.c, .slice sE' nE' S'.e.c] ∧ CpR wg107 p1 e1 x C1 ∧ Z + 1 < p1 ∧ CpR wg107 p2 e2 x C2 ∧ Z + 1 < p2 ∧ e1 ≤ p2 ∧ RowAt wg107 b5 26 (#[.int .i64 0, .slice none 0 0, .slice none 0 0, .slice none 0 0]) ∧ Z + 1 < b5 ∧ e1 ≤ b5 ∧ e2 ≤ b5 ∧ RowAt wg107 b6 26 (#[.int .i64 0, .slice none 0 0, .slice none 0 0, .slice none 0 0]) ∧ Z + 1 < b6 ∧ e1 ≤ b6 ∧ e2 ≤ b6 ∧ b5 ≠ b6 from ⟨(HG106.out.1.trans ((bwg107).mono HG106.out.1.size)), (HG106.out.2.1.new (bwg107)), (HG106.out.2.2.1.new (bwg107)), (HG106.out.2.2.2.1.new (bwg107)), HG106.out.2.2.2.2.1, (HG106.out.2.2.2.2.2.1.new (bwg107)), HG106.out.2.2.2.2.2.2.1, HG106.out.2.2.2.2.2.2.2.1, (HG106.out.2.2.2.2.2.2.2.2.1.new (bwg107)), HG106.out.2.2.2.2.2.2.2.2.2.1, HG106.out.2.2.2.2.2.2.2.2.2.2.1, HG106.out.2.2.2.2.2.2.2.2.2.2.2, rwg107, (by have := HG106.out.2.2.1.lt; omega), (by have := HG106.out.2.2.2.1.up; omega), (by have := HG106.out.2.2.2.2.2.1.up; omega), (by have := HG106.out.2.2.2.2.2.2.2.2.1.lt; omega)⟩)
          clear hwg107 bwg107 rwg107 hb6
          refine hK.out _ _ ⟨HG108.out.1, HG108.out.2.1, HG108.out.2.2.1⟩ (fun hHeld => ?_)
          clear hK K
          try simp only [Act.put, List.setIfInBounds_toArray, List.set_cons_zero, List.set_cons_succ]
          refine wpAnyH_ready (rs := [6]) (by kernel_rfl) (by simp) (AllReadyH.cons (o := { dst := none, op := .store 26 (.tmp 5) (.tmp 18), type := 0, pos := "law.go:82", after := #[{ on := 4, ground := .data }, { on := 1, ground := .data }, { on := 3, ground := .chain }, { on := 0, ground := .phase }, { on := 1, ground := .phase }, { on := 2, ground := .textOnly Go.Departure.lateStores }, { on := 3, ground := .textOnly Go.Departure.lateStoresUnsure }, { on := 4, ground := .phase }, { on := 5, ground := .phase }], guard := none }) rfl (fun K hK => ?_) AllReadyH.nil)
          rw [if_pos (by rfl)]
          refine wp_store_row 26 (.tmp 5) (.tmp 18) rfl b5 #[.int .i64 res, .slice C1.t.sp nT C1.t.c, .slice C1.m.sp nM C1.m.c, .slice C1.e.sp nE C1.e.c] rfl rfl 26 (#[.int .i64 0, .slice none 0 0, .slice none 0 0, .slice none 0 0]) HG108.out.2.2.2.2.2.2.2.2.1 (by kernel_rfl) (by rfl) (by simp [Value.oneCell']) ?_
          generalize hwg109 : World.setRow _ _ _ = wg109
          have HG110 := Lib.hid (show Below w.heap.size w wg109 ∧ RowAt wg109 Z 26 #[.int .i64 res, .slice sT nT S.t.c, .slice sM nM S.m.c, .slice sE nE S.e.c] ∧ RowAt wg109 (Z + 1) 26 #[.int .i64 res', .slice sT' nT' S'.t.c, .slice sM' nM' S'.m.c, .slice sE' nE' S'.e.c] ∧ CpR wg109 p1 e1 x C1 ∧ Z + 1 < p1 ∧ CpR wg109 p2 e2 x C2 ∧ Z + 1 < p2 ∧ e1 ≤ p2 ∧ RowAt wg109 b5 26 #[.int .i64 res, .slice C1.t.sp nT C1.t.c, .slice C1.m.sp nM C1.m.c, .slice C1.e.sp nE C1.e.c] ∧ Z + 1 < b5 ∧ e1 ≤ b5 ∧ e2 ≤ b5 ∧ RowAt wg109 b6 26 (#[.int .i64 0, .slice none 0 0, .slice none 0 0, .slice none 0 0]) ∧ Z + 1 < b6 ∧ e1 ≤ b6 ∧ e2 ≤ b6 ∧ b5 ≠ b6 by rw [← hwg109]; exact ⟨below_row HG108.out.1 (Nat.le_refl _) (by have := HG108.out.2.2.2.2.2.2.2.2.2.1; have := HZZ.out; omega) _, HG108.out.2.1.keep (ch_setRow _ _ _) (fun e => by have := HG108.out.2.2.2.2.2.2.2.2.2.1; omega), HG108.out.2.2.1.keep (ch_setRow _ _ _) (fun e => by have := HG108.out.2.2.2.2.2.2.2.2.2.1; omega), HG108.out.2.2.2.1.keep (ch_setRow _ _ _) (fun j e h => by subst e; have := HG108.out.2.2.2.2.2.2.2.2.2.2.1; omega), HG108.out.2.2.2.2.1, HG108.out.2.2.2.2.2.1.keep (ch_setRow _ _ _) (fun j e h => by subst e; have := HG108.out.2.2.2.2.2.2.2.2.2.2.2.1; omega), HG108.out.2.2.2.2.2.2.1, HG108.out.2.2.2.2.2.2.2.1, HG108.out.2.2.2.2.2.2.2.2.1.put, HG108.out.2.2.2.2.2.2.2.2.2.1, HG108.out.2.2.2.2.2.2.2.2.2.2.1, HG108.out.2.2.2.2.2.2.2.2.2.2.2.1, HG108.out.2.2.2.2.2.2.2.2.2.2.2.2.1.keep (ch_setRow _ _ _) (fun e => HG108.out.2.2.2.2.2.2.2.2.2.2.2.2.2.2.2.2 e.symm), HG108.out.2.2.2.2.2.2.2.2.2.2.2.2.2.1, HG108.out.2.2.2.2.2.2.2.2.2.2.2.2.2.2.1, HG108.out.2.2.2.2.2.2.2.2.2.2.2.2.2.2.2.1, HG108.out.2.2.2.2.2.2.2.2.2.2.2.2.2.2.2.2⟩)
          clear hwg109
          refine hK.out _ _ ⟨HG110.out.1, HG110.out.2.1, HG110.out.2.2.1⟩ (fun hHeld => ?_)
          clear hK K
          try simp only [Act.put]
          refine wpAnyH_ready (rs := [7]) (by kernel_rfl) (by simp) (AllReadyH.cons (o := { dst := none, op := .store 26 (.tmp 6) (.tmp 20), type := 0, pos := "law.go:82", after := #[{ on := 5, ground := .data }, { on := 3, ground := .data }, { on := 6, ground := .chain }, { on := 0, ground := .phase }, { on := 1, ground := .phase }, { on := 2, ground := .phase }, { on := 3, ground := .phase }, { on := 4, ground := .phase }, { on := 5, ground := .phase }, { on := 6, ground := .phase }], guard := none }) rfl (fun K hK => ?_) AllReadyH.nil)
          rw [if_pos (by rfl)]
          refine wp_store_row 26 (.tmp 6) (.tmp 20) rfl b6 #[.int .i64 res, .slice C2.t.sp nT C2.t.c, .slice C2.m.sp nM C2.m.c, .slice C2.e.sp nE C2.e.c] rfl rfl 26 (#[.int .i64 0, .slice none 0 0, .slice none 0 0, .slice none 0 0]) HG110.out.2.2.2.2.2.2.2.2.2.2.2.2.1 (by kernel_rfl) (by rfl) (by simp [Value.oneCell']) ?_
          generalize hwg111 : World.setRow _ _ _ = wg111
          have HG112 := Lib.hid (show Below w.heap.size w wg111 ∧ RowAt wg111 Z 26 #[.int .i64 res, .slice sT nT S.t.c, .slice sM nM S.m.c, .slice sE nE S.e.c] ∧ RowAt wg111 (Z + 1) 26 #[.int .i64 res', .slice sT' nT' S'.t.c, .slice sM' nM' S'.m.c, .slice sE' nE' S'.e.c] ∧ CpR wg111 p1 e1 x C1 ∧ Z + 1 < p1 ∧ CpR wg111 p2 e2 x C2 ∧ Z + 1 < p2 ∧ e1 ≤ p2 ∧ RowAt wg111 b5 26 #[.int .i64 res, .slice C1.t.sp nT C1.t.c, .slice C1.m.sp nM C1.m.c, .slice C1.e.sp nE C1.e.c] ∧ Z + 1 < b5 ∧ e1 ≤ b5 ∧ e2 ≤ b5 ∧ RowAt wg111 b6 26 #[.int .i64 res, .slice C2.t.sp nT C2.t.c, .slice C2.m.sp nM C2.m.c, .slice C2.e.sp nE C2.e.c] ∧ Z + 1 < b6 ∧ e1 ≤ b6 ∧ e2 ≤ b6 ∧ b5 ≠ b6 by rw [← hwg111]; exact ⟨below_row HG110.out.1 (Nat.le_refl _) (by have := HG110.out.2.2.2.2.2.2.2.2.2.2.2.2.2.1; have := HZZ.out; omega) _, HG110.out.2.1.keep (ch_setRow _ _ _) (fun e => by have := HG110.out.2.2.2.2.2.2.2.2.2.2.2.2.2.1; omega), HG110.out.2.2.1.keep (ch_setRow _ _ _) (fun e => by have := HG110.out.2.2.2.2.2.2.2.2.2.2.2.2.2.1; omega), HG110.out.2.2.2.1.keep (ch_setRow _ _ _) (fun j e h => by subst e; have := HG110.out.2.2.2.2.2.2.2.2.2.2.2.2.2.2.1; omega), HG110.out.2.2.2.2.1, HG110.out.2.2.2.2.2.1.keep (ch_setRow _ _ _) (fun j e h => by subst e; have := HG110.out.2.2.2.2.2.2.2.2.2.2.2.2.2.2.2.1; omega), HG110.out.2.2.2.2.2.2.1, HG110.out.2.2.2.2.2.2.2.1, HG110.out.2.2.2.2.2.2.2.2.1.keep (ch_setRow _ _ _) (fun e => HG110.out.2.2.2.2.2.2.2.2.2.2.2.2.2.2.2.2 e), HG110.out.2.2.2.2.2.2.2.2.2.1, HG110.out.2.2.2.2.2.2.2.2.2.2.1, HG110.out.2.2.2.2.2.2.2.2.2.2.2.1, HG110.out.2.2.2.2.2.2.2.2.2.2.2.2.1.put, HG110.out.2.2.2.2.2.2.2.2.2.2.2.2.2.1, HG110.out.2.2.2.2.2.2.2.2.2.2.2.2.2.2.1, HG110.out.2.2.2.2.2.2.2.2.2.2.2.2.2.2.2.1, HG110.out.2.2.2.2.2.2.2.2.2.2.2.2.2.2.2.2⟩)
          clear hwg111
          refine hK.out _ _ ⟨HG112.out.1, HG112.out.2.1, HG112.out.2.2.1⟩ (fun hHeld => ?_)
          clear hK K
          try simp only [Act.put]
          refine wpAnyH_done (by kernel_rfl) ?_ _
          go_wp2
          go_meet
          case rel => exact ⟨b5, b6, C1, C2, p1, e1, p2, e2, rfl, rfl, ⟨HG112.out.2.2.2.2.1, HG112.out.2.2.2.2.2.2.2.1, (.inr HG112.out.2.2.2.2.2.2.2.2.2.2.1), (.inr HG112.out.2.2.2.2.2.2.2.2.2.2.2.2.2.2.1)⟩, ⟨HG112.out.1, HG112.out.2.1, HG112.out.2.2.1⟩, HG112.out.2.2.2.2.2.2.2.2.1, HG112.out.2.2.2.2.2.2.2.2.2.2.2.2.1, HG112.out.2.2.2.1, HG112.out.2.2.2.2.2.1⟩
        · go_simp
          obtain ⟨b6, hb6⟩ : ∃ b, b = (wg103).heap.size := ⟨_, rfl⟩
          rw [← hb6]
          generalize hwg113 : World.alloc _ _ = wg113
          have bwg113 : Below (wg103).heap.size (wg103) wg113 := by rw [← hwg113]; exact (Below.refl _ _).alloc (Nat.le_refl _) _
          have rwg113 : RowAt wg113 b6 26 (#[.int .i64 0, .slice none 0 0, .slice none 0 0, .slice none 0 0]) := by rw [← hwg113, hb6]; exact RowAt.mk _ _ _
          have HG114 := Lib.hid (show Below w.heap.size w wg113 ∧ RowAt wg113 Z 26 #[.int .i64 res, .slice sT nT S.t.c, .slice sM nM S.m.c, .slice sE nE S.e.c] ∧ RowAt wg113 (Z + 1) 26 #[.int .i64 res', .slice sT' nT' S'.t.c, .slice sM' nM' S'.m.c, .slice sE' nE' S'.e.c] ∧ CpR wg113 p1 e1 x C1 ∧ Z + 1 < p1 ∧ CpR wg113 p2 e2 x C2 ∧ Z + 1 < p2 ∧ e1 ≤ p2 ∧ RowAt wg113 b6 26 (#[.int .i64 0, .slice none 0 0, .slice none 0 0, .slice none 0 0]) ∧ Z + 1 < b6 ∧ e1 ≤ b6 ∧ e2 ≤ b6 from ⟨(HG104.out.1.trans ((bwg113).mono HG104.out.1.size)), (HG104.out.2.1.new (bwg113)), (HG104.out.2.2.1.new (bwg113)), (HG104.out.2.2.2.1.new (bwg113)), HG104.out.2.2.2.2.1, (HG104.out.2.2.2.2.2.1.new (bwg113)), HG104.out.2.2.2.2.2.2.1, HG104.out.2.2.2.2.2.2.2, rwg113, (by have := HG104.out.2.2.1.lt; omega), (by have := HG104.out.2.2.2.1.up; omega), (by have := HG104.out.2.2.2.2.2.1.up; omega)⟩)
          clear hwg113 bwg113 rwg113 hb6
          refine hK.out _ _ ⟨HG114.out.1, HG114.out.2.1, HG114.out.2.2.1⟩ (fun hHeld => ?_)
          clear hK K
          try simp only [Act.put, List.setIfInBounds_toArray, List.set_cons_zero, List.set_cons_succ]
          refine wpAnyH_ready (rs := [4]) (by kernel_rfl) (by simp) (AllReadyH.cons (o := { dst := some 5, op := .alloc 26, type := 0, pos := "law.go:82", after := #[], guard := none }) rfl (fun K hK => ?_) AllReadyH.nil)
          go_simp
          obtain ⟨b5, hb5⟩ : ∃ b, b = (wg113).heap.size := ⟨_, rfl⟩
          rw [← hb5]
          generalize hwg115 : World.alloc _ _ = wg115
          have bwg115 : Below (wg113).heap.size (wg113) wg115 := by rw [← hwg115]; exact (Below.refl _ _).alloc (Nat.le_refl _) _
          have rwg115 : RowAt wg115 b5 26 (#[.int .i64 0, .slice none 0 0, .slice none 0 0, .slice none 0 0]) := by rw [← hwg115, hb5]; exact RowAt.mk _ _ _
          have HG116 := Lib.hid (show Below w.heap.size w wg115 ∧ RowAt wg115 Z 26 #[.int .i64 res, .slice sT nT S.t.c, .slice sM nM S.m.c, .slice sE nE S.e.c] ∧ RowAt wg115 (Z + 1) 26 #[.int .i64 res', .slice sT' nT' S'.t.c, .slice sM' nM' S'.m.c, .slice sE' nE' S'.e.c] ∧ CpR wg115 p1 e1 x C1 ∧ Z + 1 < p1 ∧ CpR wg115 p2 e2 x C2 ∧ Z + 1 < p2 ∧ e1 ≤ p2 ∧ RowAt wg115 b6 26 (#[.int .i64 0, .slice none 0 0, .slice none 0 0, .slice none 0 0]) ∧ Z + 1 < b6 ∧ e1 ≤ b6 ∧ e2 ≤ b6 ∧ RowAt wg115 b5 26 (#[.int .i64 0, .slice none 0 0, .slice none 0 0, .slice none 0 0]) ∧ Z + 1 < b5 ∧ e1 ≤ b5 ∧ e2 ≤ b5 ∧ b5 ≠ b6 from ⟨(HG114.out.1.trans ((bwg115).mono HG114.out.1.size)), (HG114.out.2.1.new (bwg115)), (HG114.out.2.2.1.new (bwg115)), (HG114.out.2.2.2.1.new (bwg115)), HG114.out.2.2.2.2.1, (HG114.out.2.2.2.2.2.1.new (bwg115)), HG114.out.2.2.2.2.2.2.1, HG114.out.2.2.2.2.2.2.2.1, (HG114.out.2.2.2.2.2.2.2.2.1.new (bwg115)), HG114.out.2.2.2.2.2.2.2.2.2.1, HG114.out.2.2.2.2.2.2.2.2.2.2.1, HG114.out.2.2.2.2.2.2.2.2.2.2.2, rwg115, (by have := HG114.out.2.2.1.lt; omega), (by have := HG114.out.2.2.2.1.up; omega), (by have := HG114.out.2.2.2.2.2.1.up; omega), (by have := HG114.out.2.2.2.2.2.2.2.2.1.lt; omega)⟩)
          clear hwg115 bwg115 rwg115 hb5
          refine hK.out _ _ ⟨HG116.out.1, HG116.out.2.1, HG116.out.2.2.1⟩ (fun hHeld => ?_)
          clear hK K
          try simp only [Act.put, List.setIfInBounds_toArray, List.set_cons_zero, List.set_cons_succ]
          refine wpAnyH_ready (rs := [6]) (by kernel_rfl) (by simp) (AllReadyH.cons (o := { dst := none, op := .store 26 (.tmp 5) (.tmp 18), type := 0, pos := "law.go:82", after := #[{ on := 4, ground := .data }, { on := 1, ground := .data }, { on := 3, ground := .chain }, { on := 0, ground := .phase }, { on := 1, ground := .phase }, { on := 2, ground := .textOnly Go.Departure.lateStores }, { on := 3, ground := .textOnly Go.Departure.lateStoresUnsure }, { on := 4, ground := .phase }, { on := 5, ground := .phase }], guard := none }) rfl (fun K hK => ?_) AllReadyH.nil)
          rw [if_pos (by rfl)]
          refine wp_store_row 26 (.tmp 5) (.tmp 18) rfl b5 #[.int .i64 res, .slice C1.t.sp nT C1.t.c, .slice C1.m.sp nM C1.m.c, .slice C1.e.sp nE C1.e.c] rfl rfl 26 (#[.int .i64 0, .slice none 0 0, .slice none 0 0, .slice none 0 0]) HG116.out.2.2.2.2.2.2.2.2.2.2.2.2.1 (by kernel_rfl) (by rfl) (by simp [Value.oneCell']) ?_
          generalize hwg117 : World.setRow _ _ _ = wg117
          have HG118 := Lib.hid (show Below w.heap.size w wg117 ∧ RowAt wg117 Z 26 #[.int .i64 res, .slice sT nT S.t.c, .slice sM nM S.m.c, .slice sE nE S.e.c] ∧ RowAt wg117 (Z + 1) 26 #[.int .i64 res', .slice sT' nT' S'.t.c, .slice sM' nM' S'.m.c, .slice sE' nE' S'.e.c] ∧ CpR wg117 p1 e1 x C1 ∧ Z + 1 < p1 ∧ CpR wg117 p2 e2 x C2 ∧ Z + 1 < p2 ∧ e1 ≤ p2 ∧ RowAt wg117 b6 26 (#[.int .i64 0, .slice none 0 0, .slice none 0 0, .slice none 0 0]) ∧ Z + 1 < b6 ∧ e1 ≤ b6 ∧ e2 ≤ b6 ∧ RowAt wg117 b5 26 #[.int .i64 res, .slice C1.t.sp nT C1.t.c, .slice C1.m.sp nM C1.m.c, .slice C1.e.sp nE C1.e.c] ∧ Z + 1 < b5 ∧ e1 ≤ b5 ∧ e2 ≤ b5 ∧ b5 ≠ b6 by rw [← hwg117]; exact ⟨below_row HG116.out.1 (Nat.le_refl _) (by have := HG116.out.2.2.2.2.2.2.2.2.2.2.2.2.2.1; have := HZZ.out; omega) _, HG116.out.2.1.keep (ch_setRow _ _ _) (fun e => by have := HG116.out.2.2.2.2.2.2.2.2.2.2.2.2.2.1; omega), HG116.out.2.2.1.keep (ch_setRow _ _ _) (fun e => by have := HG116.out.2.2.2.2.2.2.2.2.2.2.2.2.2.1; omega), HG116.out.2.2.2.1.keep (ch_setRow _ _ _) (fun j e h => by subst e; have := HG116.out.2.2.2.2.2.2.2.2.2.2.2.2.2.2.1; omega), HG116.out.2.2.2.2.1, HG116.out.2.2.2.2.2.1.keep (ch_setRow _ _ _) (fun j e h => by subst e; have := HG116.out.2.2.2.2.2.2.2.2.2.2.2.2.2.2.2.1; omega), HG116.out.2.2.2.2.2.2.1, HG116.out.2.2.2.2.2.2.2.1, HG116.out.2.2.2.2.2.2.2.2.1.keep (ch_setRow _ _ _) (fun e => HG116.out.2.2.2.2.2.2.2.2.2.2.2.2.2.2.2.2 e.symm), HG116.out.2.2.2.2.2.2.2.2.2.1, HG116.out.2.2.2.2.2.2.2.2.2.2.1, HG116.out.2.2.2.2.2.2.2.2.2.2.2.1, HG116.out.2.2.2.2.2.2.2.2.2.2.2.2.1.put, HG116.out.2.2.2.2.2.2.2.2.2.2.2.2.2.1, HG116.out.2.2.2.2.2.2.2.2.2.2.2.2.2.2.1, HG116.out.2.2.2.2.2.2.2.2.2.2.2.2.2.2.2.1, HG116.out.2.2.2.2.2.2.2.2.2.2.2.2.2.2.2.2⟩)
          clear hwg117
          refine hK.out _ _ ⟨HG118.out.1, HG118.out.2.1, HG118.out.2.2.1⟩ (fun hHeld => ?_)
          clear hK K
          try simp only [Act.put]
          refine wpAnyH_ready (rs := [7]) (by kernel_rfl) (by simp) (AllReadyH.cons (o := { dst := none, op := .store 26 (.tmp 6) (.tmp 20), type := 0, pos := "law.go:82", after := #[{ on := 5, ground := .data }, { on := 3, ground := .data }, { on := 6, ground := .chain }, { on := 0, ground := .phase }, { on := 1, ground := .phase }, { on := 2, ground := .phase }, { on := 3, ground := .phase }, { on := 4, ground := .phase }, { on := 5, ground := .phase }, { on := 6, ground := .phase }], guard := none }) rfl (fun K hK => ?_) AllReadyH.nil)
          rw [if_pos (by rfl)]
          refine wp_store_row 26 (.tmp 6) (.tmp 20) rfl b6 #[.int .i64 res, .slice C2.t.sp nT C2.t.c, .slice C2.m.sp nM C2.m.c, .slice C2.e.sp nE C2.e.c] rfl rfl 26 (#[.int .i64 0, .slice none 0 0, .slice none 0 0, .slice none 0 0]) HG118.out.2.2.2.2.2.2.2.2.1 (by kernel_rfl) (by rfl) (by simp [Value.oneCell']) ?_
          generalize hwg119 : World.setRow _ _ _ = wg119
          have HG120 := Lib.hid (show Below w.heap.size w wg119 ∧ RowAt wg119 Z 26 #[.int .i64 res, .slice sT nT S.t.c, .slice sM nM S.m.c, .slice sE nE S.e.c] ∧ RowAt wg119 (Z + 1) 26 #[.int .i64 res', .slice sT' nT' S'.t.c, .slice sM' nM' S'.m.c, .slice sE' nE' S'.e.c] ∧ CpR wg119 p1 e1 x C1 ∧ Z + 1 < p1 ∧ CpR wg119 p2 e2 x C2 ∧ Z + 1 < p2 ∧ e1 ≤ p2 ∧ RowAt wg119 b6 26 #[.int .i64 res, .slice C2.t.sp nT C2.t.c, .slice C2.m.sp nM C2.m.c, .slice C2.e.sp nE C2.e.c] ∧ Z + 1 < b6 ∧ e1 ≤ b6 ∧ e2 ≤ b6 ∧ RowAt wg119 b5 26 #[.int .i64 res, .slice C1.t.sp nT C1.t.c, .slice C1.m.sp nM C1.m.c, .slice C1.e.sp nE C1.e.c] ∧ Z + 1 < b5 ∧ e1 ≤ b5 ∧ e2 ≤ b5 ∧ b5 ≠ b6 by rw [← hwg119]; exact ⟨below_row HG118.out.1 (Nat.le_refl _) (by have := HG118.out.2.2.2.2.2.2.2.2.2.1; have := HZZ.out; omega) _, HG118.out.2.1.keep (ch_setRow _ _ _) (fun e => by have := HG118.out.2.2.2.2.2.2.2.2.2.1; omega), HG118.out.2.2.1.keep (ch_setRow _ _ _) (fun e => by have := HG118.out.2.2.2.2.2.2.2.2.2.1; omega), HG118.out.2.2.2.1.keep (ch_setRow _ _ _) (fun j e h => by subst e; have := HG118.out.2.2.2.2.2.2.2.2.2.2.1; omega), HG118.out.2.2.2.2.1, HG118.out.2.2.2.2.2.1.keep (ch_setRow _ _ _) (fun j e h => by subst e; have := HG118.out.2.2.2.2.2.2.2.2.2.2.2.1; omega), HG118.out.2.2.2.2.2.2.1, HG118.out.2.2.2.2.2.2.2.1, HG118.out.2.2.2.2.2.2.2.2.1.put, HG118.out.2.2.2.2.2.2.2.2.2.1, HG118.out.2.2.2.2.2.2.2.2.2.2.1, HG118.out.2.2.2.2.2.2.2.2.2.2.2.1, HG118.out.2.2.2.2.2.2.2.2.2.2.2.2.1.keep (ch_setRow _ _ _) (fun e => HG118.out.2.2.2.2.2.2.2.2.2.2.2.2.2.2.2.2 e), HG118.out.2.2.2.2.2.2.2.2.2.2.2.2.2.1, HG118.out.2.2.2.2.2.2.2.2.2.2.2.2.2.2.1, HG118.out.2.2.2.2.2.2.2.2.2.2.2.2.2.2.2.1, HG118.out.2.2.2.2.2.2.2.2.2.2.2.2.2.2.2.2⟩)
          clear hwg119
          refine hK.out _ _ ⟨HG120.out.1, HG120.out.2.1, HG120.out.2.2.1⟩ (fun hHeld => ?_)
          clear hK K
          try simp only [Act.put]
          refine wpAnyH_done (by kernel_rfl) ?_ _
          go_wp2
          go_meet
          case rel => exact ⟨b5, b6, C1, C2, p1, e1, p2, e2, rfl, rfl, ⟨HG120.out.2.2.2.2.1, HG120.out.2.2.2.2.2.2.2.1, (.inr HG120.out.2.2.2.2.2.2.2.2.2.2.2.2.2.2.1), (.inr HG120.out.2.2.2.2.2.2.2.2.2.2.1)⟩, ⟨HG120.out.1, HG120.out.2.1, HG120.out.2.2.1⟩, HG120.out.2.2.2.2.2.2.2.2.2.2.2.2.1, HG120.out.2.2.2.2.2.2.2.2.1, HG120.out.2.2.2.1, HG120.out.2.2.2.2.2.1⟩
      · go_simp
        obtain ⟨b5, hb5⟩ : ∃ b, b = (wg101).heap.size := ⟨_, rfl⟩
        rw [← hb5]
        generalize hwg121 : World.alloc _ _ = wg121
        have bwg121 : Below (wg101).heap.size (wg101) wg121 := by rw [← hwg121]; exact (Below.refl _ _).alloc (Nat.le_refl _) _
        have rwg121 : RowAt wg121 b5 26 (#[.int .i64 0, .slice none 0 0, .slice none 0 0, .slice none 0 0]) := by rw [← hwg121, hb5]; exact RowAt.mk _ _ _
        have HG122 := Lib.hid (show Below w.heap.size w wg121 ∧ RowAt wg121 Z 26 #[.int .i64 res, .slice sT nT S.t.c, .slice sM nM S.m.c, .slice sE nE S.e.c] ∧ RowAt wg121 (Z + 1) 26 #[.int .i64 res', .slice sT' nT' S'.t.c, .slice sM' nM' S'.m.c, .slice sE' nE' S'.e.c] ∧ CpR wg121 p1 e1 x C1 ∧ Z + 1 < p1 ∧ RowAt wg121 b5 26 (#[.int .i64 0, .slice none 0 0, .slice none 0 0, .slice none 0 0]) ∧ Z + 1 < b5 ∧ e1 ≤ b5 from ⟨(HG102.out.1.trans ((bwg121).mono HG102.out.1.size)), (HG102.out.2.1.new (bwg121)), (HG102.out.2.2.1.new (bwg121)), (HG102.out.2.2.2.1.new (bwg121)), HG102.out.2.2.2.2, rwg121, (by have := HG102.out.2.2.1.lt; omega), (by have := HG102.out.2.2.2.1.up; omega)⟩)
        clear hwg121 bwg121 rwg121 hb5
        refine hK.out _ _ ⟨HG122.out.1, HG122.out.2.1, HG122.out.2.2.1⟩ (fun hHeld => ?_)
        clear hK K
        try simp only [Act.put, List.setIfInBounds_toArray, List.set_cons_zero, List.set_cons_succ]
        refine wpAnyH_ready (rs := [3, 5]) (by kernel_rfl) (by simp) (AllReadyH.cons (o := { dst := some 20, op := .call { callee := .value (.func 16), args := #[.tmp 19], argTypes := #[26] }, type := 26, pos := "law.go:82", after := #[{ on := 2, ground := .data }, { on := 1, ground := .chain }], guard := none }) rfl (fun K hK => ?_) (AllReadyH.cons (o := { dst := some 6, op := .alloc 26, type := 0, pos := "law.go:82", after := #[], guard := none }) rfl (fun K hK => ?_) AllReadyH.nil))
        · go_simp
          go_at_call 16
          refine (HCp1.out _ HG122.out.1).mono ?_
          rintro e wg123 ⟨C2, rfl, k2, bc2⟩
          obtain ⟨p2, hp2⟩ : ∃ p, p = (wg121).heap.size := ⟨_, rfl⟩
          obtain ⟨e2, he2⟩ : ∃ p, p = wg123.heap.size := ⟨_, rfl⟩
          rw [← hp2, ← he2] at k2
          have HG124 := Lib.hid (show Below w.heap.size w wg123 ∧ RowAt wg123 Z 26 #[.int .i64 res, .slice sT nT S.t.c, .slice sM nM S.m.c, .slice sE nE S.e.c] ∧ RowAt wg123 (Z + 1) 26 #[.int .i64 res', .slice sT' nT' S'.t.c, .slice sM' nM' S'.m.c, .slice sE' nE' S'.e.c] ∧ CpR wg123 p1 e1 x C1 ∧ Z + 1 < p1 ∧ RowAt wg123 b5 26 (#[.int .i64 0, .slice none 0 0, .slice none 0 0, .slice none 0 0]) ∧ Z + 1 < b5 ∧ e1 ≤ b5 ∧ CpR wg123 p2 e2 x C2 ∧ Z + 1 < p2 ∧ b5 < p2 ∧ e1 ≤ p2 from ⟨(HG122.out.1.trans ((bc2).mono HG122.out.1.size)), (HG122.out.2.1.new (bc2)), (HG122.out.2.2.1.new (bc2)), (HG122.out.2.2.2.1.new (bc2)), HG122.out.2.2.2.2.1, (HG122.out.2.2.2.2.2.1.new (bc2)), HG122.out.2.2.2.2.2.2.1, HG122.out.2.2.2.2.2.2.2, k2, (by have := HG122.out.2.2.1.lt; omega), (by have := HG122.out.2.2.2.2.2.1.lt; omega), (by have := HG122.out.2.2.2.1.up; omega)⟩)
          clear hp2 he2 bc2 k2
          try dsimp only
          refine hK.out _ _ ⟨HG124.out.1, HG124.out.2.1, HG124.out.2.2.1⟩ (fun hHeld => ?_)
          clear hK K
          try simp only [Act.put, List.setIfInBounds_toArray, List.set_cons_zero, List.set_cons_succ]
          refine wpAnyH_ready (rs := [5]) (by kernel_rfl) (by simp) (AllReadyH.cons (o := { dst := some 6, op := .alloc 26, type := 0, pos := "law.go:82", after := #[], guard := none }) rfl (fun K hK => ?_) AllReadyH.nil)
          go_simp
          obtain ⟨b6, hb6⟩ : ∃ b, b = (wg123).heap.size := ⟨_, rfl⟩
          rw [← hb6]
          generalize hwg125 : World.alloc _ _ = wg125
          have bwg125 : Below (wg123).heap.size (wg123) wg125 := by rw [← hwg125]; exact (Below.refl _ _).alloc (Nat.le_refl _) _
          have rwg125 : RowAt wg125 b6 26 (#[.int .i64 0, .slice none 0 0, .slice none 0 0, .slice none 0 0]) := by rw [← hwg125, hb6]; exact RowAt.mk _ _ _
          have HG126 := Lib.hid (show Below w.heap.size w wg125 ∧ RowAt wg125 Z 26 #[.int .i64 res, .slice sT nT S.t.c, .slice sM nM S.m.c, .slice sE nE S.e.c] ∧ RowAt wg125 (Z + 1) 26 #[.int .i64 res', .slice sT' nT' S'.t.c, .slice sM' nM' S'.m.c, .slice sE' nE' S'.e.c] ∧ CpR wg125 p1 e1 x C1 ∧ Z + 1 < p1 ∧ RowAt wg125 b5 26 (#[.int .i64 0, .slice none 0 0, .slice none 0 0, .slice none 0 0]) ∧ Z + 1 < b5 ∧ e1 ≤ b5 ∧ CpR wg125 p2 e2 x C2 ∧ Z + 1 < p2 ∧ b5 < p2 ∧ e1 ≤ p2 ∧ RowAt wg125 b6 26 (#[.int .i64 0, .slice none 0 0, .slice none 0 0, .slice none 0 0]) ∧ Z + 1 < b6 ∧ e1 ≤ b6 ∧ e2 ≤ b6 ∧ b5 ≠ b6 from ⟨(HG124.out.1.trans ((bwg125).mono HG124.out.1.size)), (HG124.out.2.1.new (bwg125)), (HG124.out.2.2.1.new (bwg125)), (HG124.out.2.2.2.1.new (bwg125)), HG124.out.2.2.2.2.1, (HG124.out.2.2.2.2.2.1.new (bwg125)), HG124.out.2.2.2.2.2.2.1, HG124.out.2.2.2.2.2.2.2.1, (HG124.out.2.2.2.2.2.2.2.2.1.new (bwg125)), HG124.out.2.2.2.2.2.2.2.2.2.1, HG124.out.2.2.2.2.2.2.2.2.2.2.1, HG124.out.2.2.2.2.2.2.2.2.2.2.2, rwg125, (by have := HG124.out.2.2.1.lt; omega), (by have := HG124.out.2.2.2.1.up; omega), (by have := HG124.out.2.2.2.2.2.2.2.2.1.up; omega), (by have := HG124.out.2.2.2.2.2.1.lt; omega)⟩)
          clear hwg125 bwg125 rwg125 hb6
          refine hK.out _ _ ⟨HG126.out.1, HG126.out.2.1, HG126.out.2.2.1⟩ (fun hHeld => ?_)
          clear hK K
          try simp only [Act.put, List.setIfInBounds_toArray, List.set_cons_zero, List.set_cons_succ]
          refine wpAnyH_ready (rs := [6]) (by kernel_rfl) (by simp) (AllReadyH.cons (o := { dst := none, op := .store 26 (.tmp 5) (.tmp 18), type := 0, pos := "law.go:82", after := #[{ on := 4, ground := .data }, { on := 1, ground := .data }, { on := 3, ground := .chain }, { on := 0, ground := .phase }, { on := 1, ground := .phase }, { on := 2, ground := .textOnly Go.Departure.lateStores }, { on := 3, ground := .textOnly Go.Departure.lateStoresUnsure }, { on := 4, ground := .phase }, { on := 5, ground := .phase }], guard := none }) rfl (fun K hK => ?_) AllReadyH.nil)
          rw [if_pos (by rfl)]
          refine wp_store_row 26 (.tmp 5) (.tmp 18) rfl b5 #[.int .i64 res, .slice C1.t.sp nT C1.t.c, .slice C1.m.sp nM C1.m.c, .slice C1.e.sp nE C1.e.c] rfl rfl 26 (#[.int .i64 0, .slice none 0 0, .slice none 0 0, .slice none 0 0]) HG126.out.2.2.2.2.2.1 (by kernel_rfl) (by rfl) (by simp [Value.oneCell']) ?_
          generalize hwg127 : World.setRow _ _ _ = wg127
          have HG128 := Lib.hid (show Below w.heap.size w wg127 ∧ RowAt wg127 Z 26 #[.int .i64 res, .slice sT nT S.t.c, .slice sM nM S.m.c, .slice sE nE S.e.c] ∧ RowAt wg127 (Z + 1) 26 #[.int .i64 res', .slice sT' nT' S'.t.c, .slice sM' nM' S'.m.c, .slice sE' nE' S'.e.c] ∧ CpR wg127 p1 e1 x C1 ∧ Z + 1 < p1 ∧ RowAt wg127 b5 26 #[.int .i64 res, .slice C1.t.sp nT C1.t.c, .slice C1.m.sp nM C1.m.c, .slice C1.e.sp nE C1.e.c] ∧ Z + 1 < b5 ∧ e1 ≤ b5 ∧ CpR wg127 p2 e2 x C2 ∧ Z + 1 < p2 ∧ b5 < p2 ∧ e1 ≤ p2 ∧ RowAt wg127 b6 26 (#[.int .i64 0, .slice none 0 0, .slice none 0 0, .slice none 0 0]) ∧ Z + 1 < b6 ∧ e1 ≤ b6 ∧ e2 ≤ b6 ∧ b5 ≠ b6 by rw [← hwg127]; exact ⟨below_row HG126.out.1 (Nat.le_refl _) (by have := HG126.out.2.2.2.2.2.2.1; have := HZZ.out; omega) _, HG126.out.2.1.keep (ch_setRow _ _ _) (fun e => by have := HG126.out.2.2.2.2.2.2.1; omega), HG126.out.2.2.1.keep (ch_setRow _ _ _) (fun e => by have := HG126.out.2.2.2.2.2.2.1; omega), HG126.out.2.2.2.1.keep (ch_setRow _ _ _) (fun j e h => by subst e; have := HG126.out.2.2.2.2.2.2.2.1; omega), HG126.out.2.2.2.2.1, HG126.out.2.2.2.2.2.1.put, HG126.out.2.2.2.2.2.2.1, HG126.out.2.2.2.2.2.2.2.1, HG126.out.2.2.2.2.2.2.2.2.1.keep (ch_setRow _ _ _) (fun j e h => by subst e; have := HG126.out.2.2.2.2.2.2.2.2.2.2.1; omega), HG126.out.2.2.2.2.2.2.2.2.2.1, HG126.out.2.2.2.2.2.2.2.2.2.2.1, HG126.out.2.2.2.2.2.2.2.2.2.2.2.1, HG126.out.2.2.2.2.2.2.2.2.2.2.2.2.1.keep (ch_setRow _ _ _) (fun e => HG126.out.2.2.2.2.2.2.2.2.2.2.2.2.2.2.2.2 e.symm), HG126.out.2.2.2.2.2.2.2.2.2.2.2.2.2.1, HG126.out.2.2.2.2.2.2.2.2.2.2.2.2.2.2.1, HG126.out.2.2.2.2.2.2.2.2.2.2.2.2.2.2.2.1, HG126.out.2.2.2.2.2.2.2.2.2.2.2.2.2.2.2.2⟩)
          clear hwg127
          refine hK.out _ _ ⟨HG128.out.1, HG128.out.2.1, HG128.out.2.2.1⟩ (fun hHeld => ?_)
          clear hK K
          try simp only [Act.put]
          refine wpAnyH_ready (rs := [7]) (by kernel_rfl) (by simp) (AllReadyH.cons (o := { dst := none, op := .store 26 (.tmp 6) (.tmp 20), type := 0, pos := "law.go:82", after := #[{ on := 5, ground := .data }, { on := 3, ground := .data }, { on := 6, ground := .chain }, { on := 0, ground := .phase }, { on := 1, ground := .phase }, { on := 2, ground := .phase }, { on := 3, ground := .phase }, { on := 4, ground := .phase }, { on := 5, ground := .phase }, { on := 6, ground := .phase }], guard := none }) rfl (fun K hK => ?_) AllReadyH.nil)
          rw [if_pos (by rfl)]
          refine wp_store_row 26 (.tmp 6) (.tmp 20) rfl b6 #[.int .i64 res, .slice C2.t.sp nT C2.t.c, .slice C2.m.sp nM C2.m.c, .slice C2.e.sp nE C2.e.c] rfl rfl 26 (#[.int .i64 0, .slice none 0 0, .slice none 0 0, .slice none 0 0]) HG128.out.2.2.2.2.2.2.2.2.2.2.2.2.1 (by kernel_rfl) (by rfl) (by simp [Value.oneCell']) ?_
          generalize hwg129 : World.setRow _ _ _ = wg129
          have HG130 := Lib.hid (show Below w.heap.size w wg129 ∧ RowAt wg129 Z 26 #[.int .i64 res, .slice sT nT S.t.c, .slice sM nM S.m.c, .slice sE nE S.e.c] ∧ RowAt wg129 (Z + 1) 26 #[.int .i64 res', .slice sT' nT' S'.t.c, .slice sM' nM' S'.m.c, .slice sE' nE' S'.e.c] ∧ CpR wg129 p1 e1 x C1 ∧ Z + 1 < p1 ∧ RowAt wg129 b5 26 #[.int .i64 res, .slice C1.t.sp nT C1.t.c, .slice C1.m.sp nM C1.m.c, .slice C1.e.sp nE C1.e.c] ∧ Z + 1 < b5 ∧ e1 ≤ b5 ∧ CpR wg129 p2 e2 x C2 ∧ Z + 1 < p2 ∧ b5 < p2 ∧ e1 ≤ p2 ∧ RowAt wg129 b6 26 #[.int .i64 res, .slice C2.t.sp nT C2.t.c, .slice C2.m.sp nM C2.m.c, .slice C2.e.sp nE C2.e.c] ∧ Z + 1 < b6 ∧ e1 ≤ b6 ∧ e2 ≤ b6 ∧ b5 ≠ b6 by rw [← hwg129]; exact ⟨below_row HG128.out.1 (Nat.le_refl _) (by have := HG128.out.2.2.2.2.2.2.2.2.2.2.2.2.2.1; have := HZZ.out; omega) _, HG128.out.2.1.keep (ch_setRow _ _ _) (fun e => by have := HG128.out.2.2.2.2.2.2.2.2.2.2.2.2.2.1; omega), HG128.out.2.2.1.keep (ch_setRow _ _ _) (fun e => by have := HG128.out.2.2.2.2.2.2.2.2.2.2.2.2.2.1; omega), HG128.out.2.2.2.1.keep (ch_setRow _ _ _) (fun j e h => by subst e; have := HG128.out.2.2.2.2.2.2.2.2.2.2.2.2.2.2.1; omega), HG128.out.2.2.2.2.1, HG128.out.2.2.2.2.2.1.keep (ch_setRow _ _ _) (fun e => HG128.out.2.2.2.2.2.2.2.2.2.2.2.2.2.2.2.2 e), HG128.out.2.2.2.2.2.2.1, HG128.out.2.2.2.2.2.2.2.1, HG128.out.2.2.2.2.2.2.2.2.1.keep (ch_setRow _ _ _) (fun j e h => by subst e; have := HG128.out.2.2.2.2.2.2.2.2.2.2.2.2.2.2.2.1; omega), HG128.out.2.2.2.2.2.2.2.2.2.1, HG128.out.2.2.2.2.2.2.2.2.2.2.1, HG128.out.2.2.2.2.2.2.2.2.2.2.2.1, HG128.out.2.2.2.2.2.2.2.2.2.2.2.2.1.put, HG128.out.2.2.2.2.2.2.2.2.2.2.2.2.2.1, HG128.out.2.2.2.2.2.2.2.2.2.2.2.2.2.2.1, HG128.out.2.2.2.2.2.2.2.2.2.2.2.2.2.2.2.1, HG128.out.2.2.2.2.2.2.2.2.2.2.2.2.2.2.2.2⟩)
          clear hwg129
          refine hK.out _ _ ⟨HG130.out.1, HG130.out.2.1, HG130.out.2.2.1⟩ (fun hHeld => ?_)
          clear hK K
          try simp only [Act.put]
          refine wpAnyH_done (by kernel_rfl) ?_ _
          go_wp2
          go_meet
          case rel => exact ⟨b5, b6, C1, C2, p1, e1, p2, e2, rfl, rfl, ⟨HG130.out.2.2.2.2.1, HG130.out.2.2.2.2.2.2.2.2.2.2.2.1, (.inr HG130.out.2.2.2.2.2.2.2.1), (.inr HG130.out.2.2.2.2.2.2.2.2.2.2.2.2.2.2.1)⟩, ⟨HG130.out.1, HG130.out.2.1, HG130.out.2.2.1⟩, HG130.out.2.2.2.2.2.1, HG130.out.2.2.2.2.2.2.2.2.2.2.2.2.1, HG130.out.2.2.2.1, HG130.out.2.2.2.2.2.2.2.2.1⟩
        · go_simp
          obtain ⟨b6, hb6⟩ : ∃ b, b = (wg121).heap.size := ⟨_, rfl⟩
          rw [← hb6]
          generalize hwg131 : World.alloc _ _ = wg131
          have bwg131 : Below (wg121).heap.size (wg121) wg131 := by rw [← hwg131]; exact (Below.refl _ _).alloc (Nat.le_refl _) _
          have rwg131 : RowAt wg131 b6 26 (#[.int .i64 0, .slice none 0 0, .slice none 0 0, .slice none 0 0]) := by rw [← hwg131, hb6]; exact RowAt.mk _ _ _
          have HG132 := Lib.hid (show Below w.heap.size w wg131 ∧ RowAt wg131 Z 26 #[.int .i64 res, .slice sT nT S.t.c, .slice sM nM S.m.c, .slice sE nE S.e.c] ∧ RowAt wg131 (Z + 1) 26 #[.int .i64 res', .slice sT' nT' S'.t.c, .slice sM' nM' S'.m.c, .slice sE' nE' S'.e.c] ∧ CpR wg131 p1 e1 x C1 ∧ Z + 1 < p1 ∧ RowAt wg131 b5 26 (#[.int .i64 0, .slice none 0 0, .slice none 0 0, .slice none 0 0]) ∧ Z + 1 < b5 ∧ e1 ≤ b5 ∧ RowAt wg131 b6 26 (#[.int .i64 0, .slice none 0 0, .slice none 0 0, .slice none 0 0]) ∧ Z + 1 < b6 ∧ e1 ≤ b6 ∧ b5 ≠ b6 from ⟨(HG122.out.1.trans ((bwg131).mono HG122.out.1.size)), (HG122.out.2.1.new (bwg131)), (HG122.out.2.2.1.new (bwg131)), (HG122.out.2.2.2.1.new (bwg131)), HG122.out.2.2.2.2.1, (HG122.out.2.2.2.2.2.1.new (bwg131)), HG122.out.2.2.2.2.2.2.1, HG122.out.2.2.2.2.2.2.2, rwg131, (by have := HG122.out.2.2.1.lt; omega), (by have := HG122.out.2.2.2.1.up; omega), (by have := HG122.out.2.2.2.2.2.1.lt; omega)⟩)
          clear hwg131 bwg131 rwg131 hb6
          refine hK.out _ _ ⟨HG132.out.1, HG132.out.2.1, HG132.out.2.2.1⟩ (fun hHeld => ?_)
          clear hK K
          try simp only [Act.put, List.setIfInBounds_toArray, List.set_cons_zero, List.set_cons_succ]
          refine wpAnyH_ready (rs := [3]) (by kernel_rfl) (by simp) (AllReadyH.cons (o := { dst := some 20, op := .call { callee := .value (.func 16), args := #[.tmp 19], argTypes := #[26] }, type := 26, pos := "law.go:82", after := #[{ on := 2, ground := .data }, { on := 1, ground := .chain }], guard := none }) rfl (fun K hK => ?_) AllReadyH.nil)
          go_simp
          go_at_call 16
          refine (HCp1.out _ HG132.out.1).mono ?_
          rintro e wg133 ⟨C2, rfl, k2, bc2⟩
          obtain ⟨p2, hp2⟩ : ∃ p, p = (wg131).heap.size := ⟨_, rfl⟩
          obtain ⟨e2, he2⟩ : ∃ p, p = wg133.heap.size := ⟨_, rfl⟩
          rw [← hp2, ← he2] at k2
          have HG134 := Lib.hid (show Below w.heap.size w wg133 ∧ RowAt wg133 Z 26 #[.int .i64 res, .slice sT nT S.t.c, .slice sM nM S.m.c, .slice sE nE S.e.c] ∧ RowAt wg133 (Z + 1) 26 #[.int .i64 res', .slice sT' nT' S'.t.c, .slice sM' nM' S'.m.c, .slice sE' nE' S'.e.c] ∧ CpR wg133 p1 e1 x C1 ∧ Z + 1 < p1 ∧ RowAt wg133 b5 26 (#[.int .i64 0, .slice none 0 0, .slice none 0 0, .slice none 0 0]) ∧ Z + 1 < b5 ∧ e1 ≤ b5 ∧ RowAt wg133 b6 26 (#[.int .i64 0, .slice none 0 0, .slice none 0 0, .slice none 0 0]) ∧ Z + 1 < b6 ∧ e1 ≤ b6 ∧ b5 ≠ b6 ∧ CpR wg133 p2 e2 x C2 ∧ Z + 1 < p2 ∧ b5 < p2 ∧ b6 < p2 ∧ e1 ≤ p2 from ⟨(HG132.out.1.trans ((bc2).mono HG132.out.1.size)), (HG132.out.2.1.new (bc2)), (HG132.out.2.2.1.new (bc2)), (HG132.out.2.2.2.1.new (bc2)), HG132.out.2.2.2.2.1, (HG132.out.2.2.2.2.2.1.new (bc2)), HG132.out.2.2.2.2.2.2.1, HG132.out.2.2.2.2.2.2.2.1, (HG132.out.2.2.2.2.2.2.2.2.1.new (bc2)), HG132.out.2.2.2.2.2.2.2.2.2.1, HG132.out.2.2.2.2.2.2.2.2.2.2.1, HG132.out.2.2.2.2.2.2.2.2.2.2.2, k2, (by have := HG132.out.2.2.1.lt; omega), (by have := HG132.out.2.2.2.2.2.1.lt; omega), (by have := HG132.out.2.2.2.2.2.2.2.2.1.lt; omega), (by have := HG132.out.2.2.2.1.up; omega)⟩)
          clear hp2 he2 bc2 k2
          try dsimp only
          refine hK.out _ _ ⟨HG134.out.1, HG134.out.2.1, HG134.out.2.2.1⟩ (fun hHeld => ?_)
          clear hK K
          try simp only [Act.put, List.setIfInBounds_toArray, List.set_cons_zero, List.set_cons_succ]
          refine wpAnyH_ready (rs := [6]) (by kernel_rfl) (by simp) (AllReadyH.cons (o := { dst := none, op := .store 26 (.tmp 5) (.tmp 18), type := 0, pos := "law.go:82", after := #[{ on := 4, ground := .data }, { on := 1, ground := .data }, { on := 3, ground := .chain }, { on := 0, ground := .phase }, { on := 1, ground := .phase }, { on := 2, ground := .textOnly Go.Departure.lateStores }, { on := 3, ground := .textOnly Go.Departure.lateStoresUnsure }, { on := 4, ground := .phase }, { on := 5, ground := .phase }], guard := none }) rfl (fun K hK => ?_) AllReadyH.nil)
          rw [if_pos (by rfl)]
          refine wp_store_row 26 (.tmp 5) (.tmp 18) rfl b5 #[.int .i64 res, .slice C1.t.sp nT C1.t.c, .slice C1.m.sp nM C1.m.c, .slice C1.e.sp nE C1.e.c] rfl rfl 26 (#[.int .i64 0, .slice none 0 0, .slice none 0 0, .slice none 0 0]) HG134.out.2.2.2.2.2.1 (by kernel_rfl) (by rfl) (by simp [Value.oneCell']) ?_
          generalize hwg135 : World.setRow _ _ _ = wg135
          have HG136 := Lib.hid (show Below w.heap.size w wg135 ∧ RowAt wg135 Z 26 #[.int .i64 res, .slice sT nT S.t.c, .slice sM nM S.m.c, .slice sE nE S.e.c] ∧ RowAt wg135 (Z + 1) 26 #[.int .i64 res', .slice sT' nT' S'.t.c, .slice sM' nM' S'.m.c, .slice sE' nE' S'.e.c] ∧ CpR wg135 p1 e1 x C1 ∧ Z + 1 < p1 ∧ RowAt wg135 b5 26 #[.int .i64 res, .slice C1.t.sp nT C1.t.c, .slice C1.m.sp nM C1.m.c, .slice C1.e.sp nE C1.e.c] ∧ Z + 1 < b5 ∧ e1 ≤ b5 ∧ RowAt wg135 b6 26 (#[.int .i64 0, .slice none 0 0, .slice none 0 0, .slice none 0 0]) ∧ Z + 1 < b6 ∧ e1 ≤ b6 ∧ b5 ≠ b6 ∧ CpR wg135 p2 e2 x C2 ∧ Z + 1 < p2 ∧ b5 < p2 ∧ b6 < p2 ∧ e1 ≤ p2 by rw [← hwg135]; exact ⟨below_row HG134.out.1 (Nat.le_refl _) (by have := HG134.out.2.2.2.2.2.2.1; have := HZZ.out; omega) _, HG134.out.2.1.keep (ch_setRow _ _ _) (fun e => by have := HG134.out.2.2.2.2.2.2.1; omega), HG134.out.2.2.1.keep (ch_setRow _ _ _) (fun e => by have := HG134.out.2.2.2.2.2.2.1; omega), HG134.out.2.2.2.1.keep (ch_setRow _ _ _) (fun j e h => by subst e; have := HG134.out.2.2.2.2.2.2.2.1; omega), HG134.out.2.2.2.2.1, HG134.out.2.2.2.2.2.1.put, HG134.out.2.2.2.2.2.2.1, HG134.out.2.2.2.2.2.2.2.1, HG134.out.2.2.2.2.2.2.2.2.1.keep (ch_setRow _ _ _) (fun e => HG134.out.2.2.2.2.2.2.2.2.2.2.2.1 e.symm), HG134.out.2.2.2.2.2.2.2.2.2.1, HG134.out.2.2.2.2.2.2.2.2.2.2.1, HG134.out.2.2.2.2.2.2.2.2.2.2.2.1, HG134.out.2.2.2.2.2.2.2.2.2.2.2.2.1.keep (ch_setRow _ _ _) (fun j e h => by subst e; have := HG134.out.2.2.2.2.2.2.2.2.2.2.2.2.2.2.1; omega), HG134.out.2.2.2.2.2.2.2.2.2.2.2.2.2.1, HG134.out.2.2.2.2.2.2.2.2.2.2.2.2.2.2.1, HG134.out.2.2.2.2.2.2.2.2.2.2.2.2.2.2.2.1, HG134.out.2.2.2.2.2.2.2.2.2.2.2.2.2.2.2.2⟩)
          clear hwg135
          refine hK.out _ _ ⟨HG136.out.1, HG136.out.2.1, HG136.out.2.2.1⟩ (fun hHeld => ?_)
          clear hK K
          try simp only [Act.put]
          refine wpAnyH_ready (rs := [7]) (by kernel_rfl) (by simp) (AllReadyH.cons (o := { dst := none, op := .store 26 (.tmp 6) (.tmp 20), type := 0, pos := "law.go:82", after := #[{ on := 5, ground := .data }, { on := 3, ground := .data }, { on := 6, ground := .chain }, { on := 0, ground := .phase }, { on := 1, ground := .phase }, { on := 2, ground := .phase }, { on := 3, ground := .phase }, { on := 4, ground := .phase }, { on := 5, ground := .phase }, { on := 6, ground := .phase }], guard := none }) rfl (fun K hK => ?_) AllReadyH.nil)
          rw [if_pos (by rfl)]
          refine wp_store_row 26 (.tmp 6) (.tmp 20) rfl b6 #[.int .i64 res, .slice C2.t.sp nT C2.t.c, .slice C2.m.sp nM C2.m.c, .slice C2.e.sp nE C2.e.c] rfl rfl 26 (#[.int .i64 0, .slice none 0 0, .slice none 0 0, .slice none 0 0]) HG136.out.2.2.2.2.2.2.2.2.1 (by kernel_rfl) (by rfl) (by simp [Value.oneCell']) ?_
          generalize hwg137 : World.setRow _ _ _ = wg137
          have HG138 := Lib.hid (show Below w.heap.size w wg137 ∧ RowAt wg137 Z 26 #[.int .i64 res, .slice sT nT S.t.c, .slice sM nM S.m.c, .slice sE nE S.e.c] ∧ RowAt wg137 (Z + 1) 26 #[.int .i64 res', .slice sT' nT' S'.t.c, .slice sM' nM' S'.m.c, .slice sE' nE' S'.e.c] ∧ CpR wg137 p1 e1 x C1 ∧ Z + 1 < p1 ∧ RowAt wg137 b5 26 #[.int .i64 res, .slice C1.t.sp nT C1.t.c, .slice C1.m.sp nM C1.m.c, .slice C1.e.sp nE C1.e.c] ∧ Z + 1 < b5 ∧ e1 ≤ b5 ∧ RowAt wg137 b6 26 #[.int .i64 res, .slice C2.t.sp nT C2.t.c, .slice C2.m.sp nM C2.m.c, .slice C2.e.sp nE C2.e.c] ∧ Z + 1 < b6 ∧ e1 ≤ b6 ∧ b5 ≠ b6 ∧ CpR wg137 p2 e2 x C2 ∧ Z + 1 < p2 ∧ b5 < p2 ∧ b6 < p2 ∧ e1 ≤ p2 by rw [← hwg137]; exact ⟨below_row HG136.out.1 (Nat.le_refl _) (by have := HG136.out.2.2.2.2.2.2.2.2.2.1; have := HZZ.out; omega) _, HG136.out.2.1.keep (ch_setRow _ _ _) (fun e => by have := HG136.out.2.2.2.2.2.2.2.2.2.1; omega), HG136.out.2.2.1.keep (ch_setRow _ _ _) (fun e => by have := HG136.out.2.2.2.2.2.2.2.2.2.1; omega), HG136.out.2.2.2.1.keep (ch_setRow _ _ _) (fun j e h => by subst e; have := HG136.out.2.2.2.2.2.2.2.2.2.2.1; omega), HG136.out.2.2.2.2.1, HG136.out.2.2.2.2.2.1.keep (ch_setRow _ _ _) (fun e => HG136.out.2.2.2.2.2.2.2.2.2.2.2.1 e), HG136.out.2.2.2.2.2.2.1, HG136.out.2.2.2.2.2.2.2.1, HG136.out.2.2.2.2.2.2.2.2.1.put, HG136.out.2.2.2.2.2.2.2.2.2.1, HG136.out.2.2.2.2.2.2.2.2.2.2.1, HG136.out.2.2.2.2.2.2.2.2.2.2.2.1, HG136.out.2.2.2.2.2.2.2.2.2.2.2.2.1.keep (ch_setRow _ _ _) (fun j e h => by subst e; have := HG136.out.2.2.2.2.2.2.2.2.2.2.2.2.2.2.2.1; omega), HG136.out.2.2.2.2.2.2.2.2.2.2.2.2.2.1, HG136.out.2.2.2.2.2.2.2.2.2.2.2.2.2.2.1, HG136.out.2.2.2.2.2.2.2.2.2.2.2.2.2.2.2.1, HG136.out.2.2.2.2.2.2.2.2.2.2.2.2.2.2.2.2⟩)
          clear hwg137
          refine hK.out _ _ ⟨HG138.out.1, HG138.out.2.1, HG138.out.2.2.1⟩ (fun hHeld => ?_)
          clear hK K
          try simp only [Act.put]
          refine wpAnyH_done (by kernel_rfl) ?_ _
          go_wp2
          go_meet
          case rel => exact ⟨b5, b6, C1, C2, p1, e1, p2, e2, rfl, rfl, ⟨HG138.out.2.2.2.2.1, HG138.out.2.2.2.2.2.2.2.2.2.2.2.2.2.2.2.2, (.inr HG138.out.2.2.2.2.2.2.2.1), (.inr HG138.out.2.2.2.2.2.2.2.2.2.2.1)⟩, ⟨HG138.out.1, HG138.out.2.1, HG138.out.2.2.1⟩, HG138.out.2.2.2.2.2.1, HG138.out.2.2.2.2.2.2.2.2.1, HG138.out.2.2.2.1, HG138.out.2.2.2.2.2.2.2.2.2.2.2.2.1⟩
      · go_simp
        obtain ⟨b6, hb6⟩ : ∃ b, b = (wg101).heap.size := ⟨_, rfl⟩
        rw [← hb6]
        generalize hwg139 : World.alloc _ _ = wg139
        have bwg139 : Below (wg101).heap.size (wg101) wg139 := by rw [← hwg139]; exact (Below.refl _ _).alloc (Nat.le_refl _) _
        have rwg139 : RowAt wg139 b6 26 (#[.int .i64 0, .slice none 0 0, .slice none 0 0, .slice none 0 0]) := by rw [← hwg139, hb6]; exact RowAt.mk _ _ _
        have HG140 := Lib.hid (show Below w.heap.size w wg139 ∧ RowAt wg139 Z 26 #[.int .i64 res, .slice sT nT S.t.c, .slice sM nM S.m.c, .slice sE nE S.e.c] ∧ RowAt wg139 (Z + 1) 26 #[.int .i64 res', .slice sT' nT' S'.t.c, .slice sM' nM' S'.m.c, .slice sE' nE' S'.e.c] ∧ CpR wg139 p1 e1 x C1 ∧ Z + 1 < p1 ∧ RowAt wg139 b6 26 (#[.int .i64 0, .slice none 0 0, .slice none 0 0, .slice none 0 0]) ∧ Z + 1 < b6 ∧ e1 ≤ b6 from ⟨(HG102.out.1.trans ((bwg139).mono HG102.out.1.size)), (HG102.out.2.1.new (bwg139)), (HG102.out.2.2.1.new (bwg139)), (HG102.out.2.2.2.1.new (bwg139)), HG102.out.2.2.2.2, rwg139, (by have := HG102.out.2.2.1.lt; omega), (by have := HG102.out.2.2.2.1.up; omega)⟩)
        clear hwg139 bwg139 rwg139 hb6
        refine hK.out _ _ ⟨HG140.out.1, HG140.out.2.1, HG140.out.2.2.1⟩ (fun hHeld => ?_)
        clear hK K
        try simp only [Act.put, List.setIfInBounds_toArray, List.set_cons_zero, List.set_cons_succ]
        refine wpAnyH_ready (rs := [3, 4]) (by kernel_rfl) (by simp) (AllReadyH.cons (o := { dst := some 20, op := .call { callee := .value (.func 16), args := #[.tmp 19], argTypes := #[26] }, type := 26, pos := "law.go:82", after := #[{ on := 2, ground := .data }, { on := 1, ground := .chain }], guard := none }) rfl (fun K hK => ?_) (AllReadyH.cons (o := { dst := some 5, op := .alloc 26, type := 0, pos := "law.go:82", after := #[], guard := none }) rfl (fun K hK => ?_) AllReadyH.nil))
        · go_simp
          go_at_call 16
          refine (HCp1.out _ HG140.out.1).mono ?_
          rintro e wg141 ⟨C2, rfl, k2, bc2⟩
          obtain ⟨p2, hp2⟩ : ∃ p, p = (wg139).heap.size := ⟨_, rfl⟩
          obtain ⟨e2, he2⟩ : ∃ p, p = wg141.heap.size := ⟨_, rfl⟩
          rw [← hp2, ← he2] at k2
          have HG142 := Lib.hid (show Below w.heap.size w wg141 ∧ RowAt wg141 Z 26 #[.int .i64 res, .slice sT nT S.t.c, .slice sM nM S.m.c, .slice sE nE S.e.c] ∧ RowAt wg141 (Z + 1) 26 #[.int .i64 res', .slice sT' nT' S'.t.c, .slice sM' nM' S'.m.c, .slice sE' nE' S'.e.c] ∧ CpR wg141 p1 e1 x C1 ∧ Z + 1 < p1 ∧ RowAt wg141 b6 26 (#[.int .i64 0, .slice none 0 0, .slice none 0 0, .slice none 0 0]) ∧ Z + 1 < b6 ∧ e1 ≤ b6 ∧ CpR wg141 p2 e2 x C2 ∧ Z + 1 < p2 ∧ b6 < p2 ∧ e1 ≤ p2 from ⟨(HG140.out.1.trans ((bc2).mono HG140.out.1.size)), (HG140.out.2.1.new (bc2)), (HG140.out.2.2.1.new (bc2)), (HG140.out.2.2.2.1.new (bc2)), HG140.out.2.2.2.2.1, (HG140.out.2.2.2.2.2.1.new (bc2)), HG140.out.2.2.2.2.2.2.1, HG140.out.2.2.2.2.2.2.2, k2, (by have := HG140.out.2.2.1.lt; omega), (by have := HG140.out.2.2.2.2.2.1.lt; omega), (by have := HG140.out.2.2.2.1.up; omega)⟩)
          clear hp2 he2 bc2 k2
          try dsimp only
          refine hK.out _ _ ⟨HG142.out.1, HG142.out.2.1, HG142.out.2.2.1⟩ (fun hHeld => ?_)
          clear hK K
          try simp only [Act.put, List.setIfInBounds_toArray, List.set_cons_zero, List.set_cons_succ]
          refine wpAnyH_ready (rs := [4]) (by kernel_rfl) (by simp) (AllReadyH.cons (o := { dst := some 5, op := .alloc 26, type := 0, pos := "law.go:82", after := #[], guard := none }) rfl (fun K hK => ?_) AllReadyH.nil)
          go_simp
          obtain ⟨b5, hb5⟩ : ∃ b, b = (wg141).heap.size := ⟨_, rfl⟩
          rw [← hb5]
          generalize hwg143 : World.alloc _ _ = wg143
          have bwg143 : Below (wg141).heap.size (wg141) wg143 := by rw [← hwg143]; exact (Below.refl _ _).alloc (Nat.le_refl _) _
          have rwg143 : RowAt wg143 b5 26 (#[.int .i64 0, .slice none 0 0, .slice none 0 0, .slice none 0 0]) := by rw [← hwg143, hb5]; exact RowAt.mk _ _ _
          have HG144 := Lib.hid (show Below w.heap.size w wg143 ∧ RowAt wg143 Z 26 #[.int .i64 res, .slice sT nT S.t.c, .slice sM nM S.m.c, .slice sE nE S.e.c] ∧ RowAt wg143 (Z + 1) 26 #[.int .i64 res', .slice sT' nT' S'.t.c, .slice sM' nM' S'.m.c, .slice sE' nE' S'.e.c] ∧ CpR wg143 p1 e1 x C1 ∧ Z + 1 < p1 ∧ RowAt wg143 b6 26 (#[.int .i64 0, .slice none 0 0, .slice none 0 0, .slice none 0 0]) ∧ Z + 1 < b6 ∧ e1 ≤ b6 ∧ CpR wg143 p2 e2 x C2 ∧ Z + 1 < p2 ∧ b6 < p2 ∧ e1 ≤ p2 ∧ RowAt wg143 b5 26 (#[.int .i64 0, .slice none 0 0, .slice none 0 0, .slice none 0 0]) ∧ Z + 1 < b5 ∧ e1 ≤ b5 ∧ e2 ≤ b5 ∧ b5 ≠ b6 from ⟨(HG142.out.1.trans ((bwg143).mono HG142.out.1.size)), (HG142.out.2.1.new (bwg143)), (HG142.out.2.2.1.new (bwg143)), (HG142.out.2.2.2.1.new (bwg143)), HG142.out.2.2.2.2.1, (HG142.out.2.2.2.2.2.1.new (bwg143)), HG142.out.2.2.2.2.2.2.1, HG142.out.2.2.2.2.2.2.2.1, (HG142.out.2.2.2.2.2.2.2.2.1.new (bwg143)), HG142.out.2.2.2.2.2.2.2.2.2.1, HG142.out.2.2.2.2.2.2.2.2.2.2.1, HG142.out.2.2.2.2.2.2.2.2.2.2.2, rwg143, (by have := HG142.out.2.2.1.lt; omega), (by have := HG142.out.2.2.2.1.up; omega), (by have := HG142.out.2.2.2.2.2.2.2.2.1.up; omega), (by have := HG142.out.2.2.2.2.2.1.lt; omega)⟩)
          clear hwg143 bwg143 rwg143 hb5
          refine hK.out _ _ ⟨HG144.out.1, HG144.out.2.1, HG144.out.2.2.1⟩ (fun hHeld => ?_)
          clear hK K
          try simp only [Act.put, List.setIfInBounds_toArray, List.set_cons_zero, List.set_cons_succ]
          refine wpAnyH_ready (rs := [6]) (by kernel_rfl) (by simp) (AllReadyH.cons (o := { dst := none, op := .store 26 (.tmp 5) (.tmp 18), type := 0, pos := "law.go:82", after := #[{ on := 4, ground := .data }, { on := 1, ground := .data }, { on := 3, ground := .chain }, { on := 0, ground := .phase }, { on := 1, ground := .phase }, { on := 2, ground := .textOnly Go.Departure.lateStores }, { on := 3, ground := .textOnly Go.Departure.lateStoresUnsure }, { on := 4, ground := .phase }, { on := 5, ground := .phase }], guard := none }) rfl (fun K hK => ?_) AllReadyH.nil)
          rw [if_pos (by rfl)]
          refine wp_store_row 26 (.tmp 5) (.tmp 18) rfl b5 #[.int .i64 res, .slice C1.t.sp nT C1.t.c, .slice C1.m.sp nM C1.m.c, .slice C1.e.sp nE C1.e.c] rfl rfl 26 (#[.int .i64 0, .slice none 0 0, .slice none 0 0, .slice none 0 0]) HG144.out.2.2.2.2.2.2.2.2.2.2.2.2.1 (by kernel_rfl) (by rfl) (by simp [Value.oneCell']) ?_
          generalize hwg145 : World.setRow _ _ _ = wg145
          have HG146 := Lib.hid (show Below w.heap.size w wg145 ∧ RowAt wg145 Z 26 #[.int .i64 res, .slice sT nT S.t.c, .slice sM nM S.m.c, .slice sE nE S.e.c] ∧ RowAt wg145 (Z + 1) 26 #[.int .i64 res', .slice sT' nT' S'.t.c, .slice sM' nM' S'.m.c, .slice sE' nE' S'.e.c] ∧ CpR wg145 p1 e1 x C1 ∧ Z + 1 < p1 ∧ RowAt wg145 b6 26 (#[.int .i64 0, .slice none 0 0, .slice none 0 0, .slice none 0 0]) ∧ Z + 1 < b6 ∧ e1 ≤ b6 ∧ CpR wg145 p2 e2 x C2 ∧ Z + 1 < p2 ∧ b6 < p2 ∧ e1 ≤ p2 ∧ RowAt wg145 b5 26 #[.int .i64 res, .slice C1.t.sp nT C1.t.c, .slice C1.m.sp nM C1.m.c, .slice C1.e.sp nE C1.e.c] ∧ Z + 1 < b5 ∧ e1 ≤ b5 ∧ e2 ≤ b5 ∧ b5 ≠ b6 by rw [← hwg145]; exact ⟨below_row HG144.out.1 (Nat.le_refl _) (by have := HG144.out.2.2.2.2.2.2.2.2.2.2.2.2.2.1; have := HZZ.out; omega) _, HG144.out.2.1.keep (ch_setRow _ _ _) (fun e => by have := HG144.out.2.2.2.2.2.2.2.2.2.2.2.2.2.1; omega), HG144.out.2.2.1.keep (ch_setRow _ _ _) (fun e => by have := HG144.out.2.2.2.2.2.2.2.2.2.2.2.2.2.1; omega), HG144.out.2.2.2.1.keep (ch_setRow _ _ _) (fun j e h => by subst e; have := HG144.out.2.2.2.2.2.2.2.2.2.2.2.2.2.2.1; omega), HG144.out.2.2.2.2.1, HG144.out.2.2.2.2.2.1.keep (ch_setRow _ _ _) (fun e => HG144.out.2.2.2.2.2.2.2.2.2.2.2.2.2.2.2.2 e.symm), HG144.out.2.2.2.2.2.2.1, HG144.out.2.2.2.2.2.2.2.1, HG144.out.2.2.2.2.2.2.2.2.1.keep (ch_setRow _ _ _) (fun j e h => by subst e; have := HG144.out.2.2.2.2.2.2.2.2.2.2.2.2.2.2.2.1; omega), HG144.out.2.2.2.2.2.2.2.2.2.1, HG144.out.2.2.2.2.2.2.2.2.2.2.1, HG144.out.2.2.2.2.2.2.2.2.2.2.2.1, HG144.out.2.2.2.2.2.2.2.2.2.2.2.2.1.put, HG144.out.2.2.2.2.2.2.2.2.2.2.2.2.2.1, HG144.out.2.2.2.2.2.2.2.2.2.2.2.2.2.2.1, HG144.out.2.2.2.2.2.2.2.2.2.2.2.2.2.2.2.1, HG144.out.2.2.2.2.2.2.2.2.2.2.2.2.2.2.2.2⟩)
          clear hwg145
          refine hK.out _ _ ⟨HG146.out.1, HG146.out.2.1, HG146.out.2.2.1⟩ (fun hHeld => ?_)
          clear hK K
          try simp only [Act.put]
          refine wpAnyH_ready (rs := [7]) (by kernel_rfl) (by simp) (AllReadyH.cons (o := { dst := none, op := .store 26 (.tmp 6) (.tmp 20), type := 0, pos := "law.go:82", after := #[{ on := 5, ground := .data }, { on := 3, ground := .data }, { on := 6, ground := .chain }, { on := 0, ground := .phase }, { on := 1, ground := .phase }, { on := 2, ground := .phase }, { on := 3, ground := .phase }, { on := 4, ground := .phase }, { on := 5, ground := .phase }, { on := 6, ground := .phase }], guard := none }) rfl (fun K hK => ?_) AllReadyH.nil)
          rw [if_pos (by rfl)]
          refine wp_store_row 26 (.tmp 6) (.tmp 20) rfl b6 #[.int .i64 res, .slice C2.t.sp nT C2.t.c, .slice C2.m.sp nM C2.m.c, .slice C2.e.sp nE C2.e.c] rfl rfl 26 (#[.int .i64 0, .slice none 0 0, .slice none 0 0, .slice none 0 0]) HG146.out.2.2.2.2.2.1 (by kernel_rfl) (by rfl) (by simp [Value.oneCell']) ?_
          generalize hwg147 : World.setRow _ _ _ = wg147
          have HG148 := Lib.hid (show Below w.heap.size w wg147 ∧ RowAt wg147 Z 26 #[.int .i64 res, .slice sT nT S.t.c, .slice sM nM S.m.c, .slice sE nE S.e.c] ∧ RowAt wg147 (Z + 1) 26 #[.int .i64 res', .slice sT' nT' S'.t.c, .slice sM' nM' S'.m.c, .slice sE' nE' S'.e.c] ∧ CpR wg147 p1 e1 x C1 ∧ Z + 1 < p1 ∧ RowAt wg147 b6 26 #[.int .i64 res, .slice C2.t.sp nT C2.t.c, .slice C2.m.sp nM C2.m.c, .slice C2.e.sp nE C2.e.c] ∧ Z + 1 < b6 ∧ e1 ≤ b6 ∧ CpR wg147 p2 e2 x C2 ∧ Z + 1 < p2 ∧ b6 < p2 ∧ e1 ≤ p2 ∧ RowAt wg147 b5 26 #[.int .i64 res, .slice C1.t.sp nT C1.t.c, .slice C1.m.sp nM C1.m.c, .slice C1.e.sp nE C1.e.c] ∧ Z + 1 < b5 ∧ e1 ≤ b5 ∧ e2 ≤ b5 ∧ b5 ≠ b6 by rw [← hwg147]; exact ⟨below_row HG146.out.1 (Nat.le_refl _) (by have := HG146.out.2.2.2.2.2.2.1; have := HZZ.out; omega) _, HG146.out.2.1.keep (ch_setRow _ _ _) (fun e => by have := HG146.out.2.2.2.2.2.2.1; omega), HG146.out.2.2.1.keep (ch_setRow _ _ _) (fun e => by have := HG146.out.2.2.2.2.2.2.1; omega), HG146.out.2.2.2.1.keep (ch_setRow _ _ _) (fun j e h => by subst e; have := HG146.out.2.2.2.2.2.2.2.1; omega), HG146.out.2.2.2.2.1, HG146.out.2.2.2.2.2.1.put, HG146.out.2.2.2.2.2.2.1, HG146.out.2.2.2.2.2.2.2.1, HG146.out.2.2.2.2.2.2.2.2.1.keep (ch_setRow _ _ _) (fun j e h => by subst e; have := HG146.out.2.2.2.2.2.2.2.2.2.2.1; omega), HG146.out.2.2.2.2.2.2.2.2.2.1, HG146.out.2.2.2.2.2.2.2.2.2.2.1, HG146.out.2.2.2.2.2.2.2.2.2.2.2.1, HG146.out.2.2.2.2.2.2.2.2.2.2.2.2.1.keep (ch_setRow _ _ _) (fun e => HG146.out.2.2.2.2.2.2.2.2.2.2.2.2.2.2.2.2 e), HG146.out.2.2.2.2.2.2.2.2.2.2.2.2.2.1, HG146.out.2.2.2.2.2.2.2.2.2.2.2.2.2.2.1, HG146.out.2.2.2.2.2.2.2.2.2.2.2.2.2.2.2.1, HG146.out.2.2.2.2.2.2.2.2.2.2.2.2.2.2.2.2⟩)
          clear hwg147
          refine hK.out _ _ ⟨HG148.out.1, HG148.out.2.1, HG148.out.2.2.1⟩ (fun hHeld => ?_)
          clear hK K
          try simp only [Act.put]
          refine wpAnyH_done (by kernel_rfl) ?_ _
          go_wp2
          go_meet
          case rel => exact ⟨b5, b6, C1, C2, p1, e1, p2, e2, rfl, rfl, ⟨HG148.out.2.2.2.2.1, HG148.out.2.2.2.2.2.2.2.2.2.2.2.1, (.inr HG148.out.2.2.2.2.2.2.2.2.2.2.2.2.2.2.1), (.inr HG148.out.2.2.2.2.2.2.2.1)⟩, ⟨HG148.out.1, HG148.out.2.1, HG148.out.2.2.1⟩, HG148.out.2.2.2.2.2.2.2.2.2.2.2.2.1, HG148.out.2.2.2.2.2.1, HG148.out.2.2.2.1, HG148.out.2.2.2.2.2.2.2.2.1⟩
        · go_simp
          obtain ⟨b5, hb5⟩ : ∃ b, b = (wg139).heap.size := ⟨_, rfl⟩
          rw [← hb5]
          generalize hwg149 : World.alloc _ _ = wg149
          have bwg149 : Below (wg139).heap.size (wg139) wg149 := by rw [← hwg149]; exact (Below.refl _ _).alloc (Nat.le_refl _) _
          have rwg149 : RowAt wg149 b5 26 (#[.int .i64 0, .slice none 0 0, .slice none 0 0, .slice none 0 0]) := by rw [← hwg149, hb5]; exact RowAt.mk _ _ _
          have HG150 := Lib.hid (show Below w.heap.size w wg149 ∧ RowAt wg149 Z 26 #[.int .i64 res, .slice sT nT S.t.c, .slice sM nM S.m.c, .slice sE nE S.e.c] ∧ RowAt wg149 (Z + 1) 26 #[.int .i64 res', .slice sT' nT' S'.t.c, .slice sM' nM' S'.m.c, .slice sE' nE' S'.e.c] ∧ CpR wg149 p1 e1 x C1 ∧ Z + 1 < p1 ∧ RowAt wg149 b6 26 (#[.int .i64 0, .slice none 0 0, .slice none 0 0, .slice none 0 0]) ∧ Z + 1 < b6 ∧ e1 ≤ b6 ∧ RowAt wg149 b5 26 (#[.int .i64 0, .slice none 0 0, .slice none 0 0, .slice none 0 0]) ∧ Z + 1 < b5 ∧ e1 ≤ b5 ∧ b5 ≠ b6 from ⟨(HG140.out.1.trans ((bwg149).mono HG140.out.1.size)), (HG140.out.2.1.new (bwg149)), (HG140.out.2.2.1.new (bwg149)), (HG140.out.2.2.2.1.new (bwg149)), HG140.out.2.2.2.2.1, (HG140.out.2.2.2.2.2.1.new (bwg149)), HG140.out.2.2.2.2.2.2.1, HG140.out.2.2.2.2.2.2.2, rwg149, (by have := HG140.out.2.2.1.lt; omega), (by have := HG140.out.2.2.2.1.up; omega), (by have := HG140.out.2.2.2.2.2.1.lt; omega)⟩)
          clear hwg149 bwg149 rwg149 hb5
          refine hK.out _ _ ⟨HG150.out.1, HG150.out.2.1, HG150.out.2.2.1⟩ (fun hHeld => ?_)
          clear hK K
          try simp only [Act.put, List.setIfInBounds_toArray, List.set_cons_zero, List.set_cons_succ]
          refine wpAnyH_ready (rs := [3]) (by kernel_rfl) (by simp) (AllReadyH.cons (o := { dst := some 20, op := .call { callee := .value (.func 16), args := #[.tmp 19], argTypes := #[26] }, type := 26, pos := "law.go:82", after := #[{ on := 2, ground := .data }, { on := 1, ground := .chain }], guard := none }) rfl (fun K hK => ?_) AllReadyH.nil)
          go_simp
          go_at_call 16
          refine (HCp1.out _ HG150.out.1).mono ?_
          rintro e wg151 ⟨C2, rfl, k2, bc2⟩
          obtain ⟨p2, hp2⟩ : ∃ p, p = (wg149).heap.size := ⟨_, rfl⟩
          obtain ⟨e2, he2⟩ : ∃ p, p = wg151.heap.size := ⟨_, rfl⟩
          rw [← hp2, ← he2] at k2
          have HG152 := Lib.hid (show Below w.heap.size w wg151 ∧ RowAt wg151 Z 26 #[.int .i64 res, .slice sT nT S.t.c, .slice sM nM S.m.c, .slice sE nE S.e.c] ∧ RowAt wg151 (Z + 1) 26 #[.int .i64 res', .slice sT' nT' S'.t.c, .slice sM' nM' S'.m.c, .slice sE' nE' S'.e.c] ∧ CpR wg151 p1 e1 x C1 ∧ Z + 1 < p1 ∧ RowAt wg151 b6 26 (#[.int .i64 0, .slice none 0 0, .slice none 0 0, .slice none 0 0]) ∧ Z + 1 < b6 ∧ e1 ≤ b6 ∧ RowAt wg151 b5 26 (#[.int .i64 0, .slice none 0 0, .slice none 0 0, .slice none 0 0]) ∧ Z + 1 < b5 ∧ e1 ≤ b5 ∧ b5 ≠ b6 ∧ CpR wg151 p2 e2 x C2 ∧ Z + 1 < p2 ∧ b5 < p2 ∧ b6 < p2 ∧ e1 ≤ p2 from ⟨(HG150.out.1.trans ((bc2).mono HG150.out.1.size)), (HG150.out.2.1.new (bc2)), (HG150.out.2.2.1.new (bc2)), (HG150.out.2.2.2.1.new (bc2)), HG150.out.2.2.2.2.1, (HG150.out.2.2.2.2.2.1.new (bc2)), HG150.out.2.2.2.2.2.2.1, HG150.out.2.2.2.2.2.2.2.1, (HG150.out.2.2.2.2.2.2.2.2.1.new (bc2)), HG150.out.2.2.2.2.2.2.2.2.2.1, HG150.out.2.2.2.2.2.2.2.2.2.2.1, HG150.out.2.2.2.2.2.2.2.2.2.2.2, k2, (by have := HG150.out.2.2.1.lt; omega), (by have := HG150.out.2.2.2.2.2.2.2.2.1.lt; omega), (by have := HG150.out.2.2.2.2.2.1.lt; omega), (by have := HG150.out.2.2.2.1.up; omega)⟩)
          clear hp2 he2 bc2 k2
          try dsimp only
          refine hK.out _ _ ⟨HG152.out.1, HG152.out.2.1, HG152.out.2.2.1⟩ (fun hHeld => ?_)
          clear hK K
          try simp only [Act.put, List.setIfInBounds_toArray, List.set_cons_zero, List.set_cons_succ]
          refine wpAnyH_ready (rs := [6]) (by kernel_rfl) (by simp) (AllReadyH.cons (o := { dst := none, op := .store 26 (.tmp 5) (.tmp 18), type := 0, pos := "law.go:82", after := #[{ on := 4, ground := .data }, { on := 1, ground := .data }, { on := 3, ground := .chain }, { on := 0, ground := .phase }, { on := 1, ground := .phase }, { on := 2, ground := .textOnly Go.Departure.lateStores }, { on := 3, ground := .textOnly Go.Departure.lateStoresUnsure }, { on := 4, ground := .phase }, { on := 5, ground := .phase }], guard := none }) rfl (fun K hK => ?_) AllReadyH.nil)
          rw [if_pos (by rfl)]
          refine wp_store_row 26 (.tmp 5) (.tmp 18) rfl b5 #[.int .i64 res, .slice C1.t.sp nT C1.t.c, .slice C1.m.sp nM C1.m.c, .slice C1.e.sp nE C1.e.c] rfl rfl 26 (#[.int .i64 0, .slice none 0 0, .slice none 0 0, .slice none 0 0]) HG152.out.2.2.2.2.2.2.2.2.1 (by kernel_rfl) (by rfl) (by simp [Value.oneCell']) ?_
          generalize hwg153 : World.setRow _ _ _ = wg153
          have HG154 := Lib.hid (show Below w.heap.size w wg153 ∧ RowAt wg153 Z 26 #[.int .i64 res, .slice sT nT S.t.c, .slice sM nM S.m.c, .slice sE nE S.e.c] ∧ RowAt wg153 (Z + 1) 26 #[.int .i64 res', .slice sT' nT' S'.t.c, .slice sM' nM' S'.m.c, .slice sE' nE' S'.e.c] ∧ CpR wg153 p1 e1 x C1 ∧ Z + 1 < p1 ∧ RowAt wg153 b6 26 (#[.int .i64 0, .slice none 0 0, .slice none 0 0, .slice none 0 0]) ∧ Z + 1 < b6 ∧ e1 ≤ b6 ∧ RowAt wg153 b5 26 #[.int .i64 res, .slice C1.t.sp nT C1.t.c, .slice C1.m.sp nM C1.m.c, .slice C1.e.sp nE C1.e.c] ∧ Z + 1 < b5 ∧ e1 ≤ b5 ∧ b5 ≠ b6 ∧ CpR wg153 p2 e2 x C2 ∧ Z + 1 < p2 ∧ b5 < p2 ∧ b6 < p2 ∧ e1 ≤ p2 by rw [← hwg153]; exact ⟨below_row HG152.out.1 (Nat.le_refl _) (by have := HG152.out.2.2.2.2.2.2.2.2.2.1; have := HZZ.out; omega) _, HG152.out.2.1.keep (ch_setRow _ _ _) (fun e => by have := HG152.out.2.2.2.2.2.2.2.2.2.1; omega), HG152.out.2.2.1.keep (ch_setRow _ _ _) (fun e => by have := HG152.out.2.2.2.2.2.2.2.2.2.1; omega), HG152.out.2.2.2.1.keep (ch_setRow _ _ _) (fun j e h => by subst e; have := HG152.out.2.2.2.2.2.2.2.2.2.2.1; omega), HG152.out.2.2.2.2.1, HG152.out.2.2.2.2.2.1.keep (ch_setRow _ _ _) (fun e => HG152.out.2.2.2.2.2.2.2.2.2.2.2.1 e.symm), HG152.out.2.2.2.2.2.2.1, HG152.out.2.2.2.2.2.2.2.1, HG152.out.2.2.2.2.2.2.2.2.1.put, HG152.out.2.2.2.2.2.2.2.2.2.1, HG152.out.2.2.2.2.2.2.2.2.2.2.1, HG152.out.2.2.2.2.2.2.2.2.2.2.2.1, HG152.out.2.2.2.2.2.2.2.2.2.2.2.2.1.keep (ch_setRow _ _ _) (fun j e h => by subst e; have := HG152.out.2.2.2.2.2.2.2.2.2.2.2.2.2.2.1; omega), HG152.out.2.2.2.2.2.2.2.2.2.2.2.2.2.1, HG152.out.2.2.2.2.2.2.2.2.2.2.2.2.2.2.1, HG152.out.2.2.2.2.2.2.2.2.2.2.2.2.2.2.2.1, HG152.out.2.2.2.2.2.2.2.2.2.2.2.2.2.2.2.2⟩)
          clear hwg153
          refine hK.out _ _ ⟨HG154.out.1, HG154.out.2.1, HG154.out.2.2.1⟩ (fun hHeld => ?_)
          clear hK K
          try simp only [Act.put]
          refine wpAnyH_ready (rs := [7]) (by kernel_rfl) (by simp) (AllReadyH.cons (o := { dst := none, op := .store 26 (.tmp 6) (.tmp 20), type := 0, pos := "law.go:82", after := #[{ on := 5, ground := .data }, { on := 3, ground := .data }, { on := 6, ground := .chain }, { on := 0, ground := .phase }, { on := 1, ground := .phase }, { on := 2, ground := .phase }, { on := 3, ground := .phase }, { on := 4, ground := .phase }, { on := 5, ground := .phase }, { on := 6, ground := .phase }], guard := none }) rfl (fun K hK => ?_) AllReadyH.nil)
          rw [if_pos (by rfl)]
          refine wp_store_row 26 (.tmp 6) (.tmp 20) rfl b6 #[.int .i64 res, .slice C2.t.sp nT C2.t.c, .slice C2.m.sp nM C2.m.c, .slice C2.e.sp nE C2.e.c] rfl rfl 26 (#[.int .i64 0, .slice none 0 0, .slice none 0 0, .slice none 0 0]) HG154.out.2.2.2.2.2.1 (by kernel_rfl) (by rfl) (by simp [Value.oneCell']) ?_
          generalize hwg155 : World.setRow _ _ _ = wg155
          have HG156 := Lib.hid (show Below w.heap.size w wg155 ∧ RowAt wg155 Z 26 #[.int .i64 res, .slice sT nT S.t.c, .slice sM nM S.m.c, .slice sE nE S.e.c] ∧ RowAt wg155 (Z + 1) 26 #[.int .i64 res', .slice sT' nT' S'.t.c, .slice sM' nM' S'.m.c, .slice sE' nE' S'.e.c] ∧ CpR wg155 p1 e1 x C1 ∧ Z + 1 < p1 ∧ RowAt wg155 b6 26 #[.int .i64 res, .slice C2.t.sp nT C2.t.c, .slice C2.m.sp nM C2.m.c, .slice C2.e.sp nE C2.e.c] ∧ Z + 1 < b6 ∧ e1 ≤ b6 ∧ RowAt wg155 b5 26 #[.int .i64 res, .slice C1.t.sp nT C1.t.c, .slice C1.m.sp nM C1.m.c, .slice C1.e.sp nE C1.e.c] ∧ Z + 1 < b5 ∧ e1 ≤ b5 ∧ b5 ≠ b6 ∧ CpR wg155 p2 e2 x C2 ∧ Z + 1 < p2 ∧ b5 < p2 ∧ b6 < p2 ∧ e1 ≤ p2 by rw [← hwg155]; exact ⟨below_row HG154.out.1 (Nat.le_refl _) (by have := HG154.out.2.2.2.2.2.2.1; have := HZZ.out; omega) _, HG154.out.2.1.keep (ch_setRow _ _ _) (fun e => by have := HG154.out.2.2.2.2.2.2.1; omega), HG154.out.2.2.1.keep (ch_setRow _ _ _) (fun e => by have := HG154.out.2.2.2.2.2.2.1; omega), HG154.out.2.2.2.1.keep (ch_setRow _ _ _) (fun j e h => by subst e; have := HG154.out.2.2.2.2.2.2.2.1; omega), HG154.out.2.2.2.2.1, HG154.out.2.2.2.2.2.1.put, HG154.out.2.2.2.2.2.2.1, HG154.out.2.2.2.2.2.2.2.1, HG154.out.2.2.2.2.2.2.2.2.1.keep (ch_setRow _ _ _) (fun e => HG154.out.2.2.2.2.2.2.2.2.2.2.2.1 e), HG154.out.2.2.2.2.2.2.2.2.2.1, HG154.out.2.2.2.2.2.2.2.2.2.2.1, HG154.out.2.2.2.2.2.2.2.2.2.2.2.1, HG154.out.2.2.2.2.2.2.2.2.2.2.2.2.1.keep (ch_setRow _ _ _) (fun j e h => by subst e; have := HG154.out.2.2.2.2.2.2.2.2.2.2.2.2.2.2.2.1; omega), HG154.out.2.2.2.2.2.2.2.2.2.2.2.2.2.1, HG154.out.2.2.2.2.2.2.2.2.2.2.2.2.2.2.1, HG154.out.2.2.2.2.2.2.2.2.2.2.2.2.2.2.2.1, HG154.out.2.2.2.2.2.2.2.2.2.2.2.2.2.2.2.2⟩)
          clear hwg155
          refine hK.out _ _ ⟨HG156.out.1, HG156.out.2.1, HG156.out.2.2.1⟩ (fun hHeld => ?_)
          clear hK K
          try simp only [Act.put]
          refine wpAnyH_done (by kernel_rfl) ?_ _
          go_wp2
          go_meet
          case rel => exact ⟨b5, b6, C1, C2, p1, e1, p2, e2, rfl, rfl, ⟨HG156.out.2.2.2.2.1, HG156.out.2.2.2.2.2.2.2.2.2.2.2.2.2.2.2.2, (.inr HG156.out.2.2.2.2.2.2.2.2.2.2.1), (.inr HG156.out.2.2.2.2.2.2.2.1)⟩, ⟨HG156.out.1, HG156.out.2.1, HG156.out.2.2.1⟩, HG156.out.2.2.2.2.2.2.2.2.1, HG156.out.2.2.2.2.2.1, HG156.out.2.2.2.1, HG156.out.2.2.2.2.2.2.2.2.2.2.2.2.1⟩
    · go_simp
      obtain ⟨b5, hb5⟩ : ∃ b, b = (wd).heap.size := ⟨_, rfl⟩
      rw [← hb5]
      generalize hwg157 : World.alloc _ _ = wg157
      have bwg157 : Below (wd).heap.size (wd) wg157 := by rw [← hwg157]; exact (Below.refl _ _).alloc (Nat.le_refl _) _
      have rwg157 : RowAt wg157 b5 26 (#[.int .i64 0, .slice none 0 0, .slice none 0 0, .slice none 0 0]) := by rw [← hwg157, hb5]; exact RowAt.mk _ _ _
      have HG158 := Lib.hid (show Below w.heap.size w wg157 ∧ RowAt wg157 Z 26 #[.int .i64 res, .slice sT nT S.t.c, .slice sM nM S.m.c, .slice sE nE S.e.c] ∧ RowAt wg157 (Z + 1) 26 #[.int .i64 res', .slice sT' nT' S'.t.c, .slice sM' nM' S'.m.c, .slice sE' nE' S'.e.c] ∧ RowAt wg157 b5 26 (#[.int .i64 0, .slice none 0 0, .slice none 0 0, .slice none 0 0]) ∧ Z + 1 < b5 from ⟨(HG1.out.1.trans ((bwg157).mono HG1.out.1.size)), (HG1.out.2.1.new (bwg157)), (HG1.out.2.2.new (bwg157)), rwg157, (by have := HG1.out.2.2.lt; omega)⟩)
      clear hwg157 bwg157 rwg157 hb5
      refine hK.out _ _ ⟨HG158.out.1, HG158.out.2.1, HG158.out.2.2.1⟩ (fun hHeld => ?_)
      clear hK K
      try simp only [Act.put, List.setIfInBounds_toArray, List.set_cons_zero, List.set_cons_succ]
      refine wpAnyH_ready (rs := [1, 5]) (by kernel_rfl) (by simp) (AllReadyH.cons (o := { dst := some 18, op := .call { callee := .value (.func 16), args := #[.tmp 17], argTypes := #[26] }, type := 26, pos := "law.go:82", after := #[{ on := 0, ground := .data }], guard := none }) rfl (fun K hK => ?_) (AllReadyH.cons (o := { dst := some 6, op := .alloc 26, type := 0, pos := "law.go:82", after := #[], guard := none }) rfl (fun K hK => ?_) AllReadyH.nil))
      · go_simp
        go_at_call 16
        refine (HCp1.out _ HG158.out.1).mono ?_
        rintro e wg159 ⟨C1, rfl, k1, bc1⟩
        obtain ⟨p1, hp1⟩ : ∃ p, p = (wg157).heap.size := ⟨_, rfl⟩
        obtain ⟨e1, he1⟩ : ∃ p, p = wg159.heap.size := ⟨_, rfl⟩
        rw [← hp1, ← he1] at k1
        have HG160 := Lib.hid (show Below w.heap.size w wg159 ∧ RowAt wg159 Z 26 #[.int .i64 res, .slice sT nT S.t.c, .slice sM nM S.m.c, .slice sE nE S.e.c] ∧ RowAt wg159 (Z + 1) 26 #[.int .i64 res', .slice sT' nT' S'.t.c, .slice sM' nM' S'.m.c, .slice sE' nE' S'.e.c] ∧ RowAt wg159 b5 26 (#[.int .i64 0, .slice none 0 0, .slice none 0 0, .slice none 0 0]) ∧ Z + 1 < b5 ∧ CpR wg159 p1 e1 x C1 ∧ Z + 1 < p1 ∧ b5 < p1 from ⟨(HG158.out.1.trans ((bc1).mono HG158.out.1.size)), (HG158.out.2.1.new (bc1)), (HG158.out.2.2.1.new (bc1)), (HG158.out.2.2.2.1.new (bc1)), HG158.out.2.2.2.2, k1, (by have := HG158.out.2.2.1.lt; omega), (by have := HG158.out.2.2.2.1.lt; omega)⟩)
        clear hp1 he1 bc1 k1
        try dsimp only
        refine hK.out _ _ ⟨HG160.out.1, HG160.out.2.1, HG160.out.2.2.1⟩ (fun hHeld => ?_)
        clear hK K
        try simp only [Act.put, List.setIfInBounds_toArray, List.set_cons_zero, List.set_cons_succ]
        refine wpAnyH_ready (rs := [3, 5]) (by kernel_rfl) (by simp) (AllReadyH.cons (o := { dst := some 20, op := .call { callee := .value (.func 16), args := #[.tmp 19], argTypes := #[26] }, type := 26, pos := "law.go:82", after := #[{ on := 2, ground := .data }, { on := 1, ground := .chain }], guard := none }) rfl (fun K hK => ?_) (AllReadyH.cons (o := { dst := some 6, op := .alloc 26, type := 0, pos := "law.go:82", after := #[], guard := none }) rfl (fun K hK => ?_) AllReadyH.nil))
        · go_simp
          go_at_call 16
          refine (HCp1.out _ HG160.out.1).mono ?_
          rintro e wg161 ⟨C2, rfl, k2, bc2⟩
          obtain ⟨p2, hp2⟩ : ∃ p, p = (wg159).heap.size := ⟨_, rfl⟩
          obtain ⟨e2, he2⟩ : ∃ p, p = wg161.heap.size := ⟨_, rfl⟩
          rw [← hp2, ← he2] at k2
          have HG162 := Lib.hid (show Below w.heap.size w wg161 ∧ RowAt wg161 Z 26 #[.int .i64 res, .slice sT nT S.t.c, .slice sM nM S.m.c, .slice sE nE S.e.c] ∧ RowAt wg161 (Z + 1) 26 #[.int .i64 res', .slice sT' nT' S'.t.c, .slice sM' nM' S'.m.c, .slice sE' nE' S'.e.c] ∧ RowAt wg161 b5 26 (#[.int .i64 0, .slice none 0 0, .slice none 0 0, .slice none 0 0]) ∧ Z + 1 < b5 ∧ CpR wg161 p1 e1 x C1 ∧ Z + 1 < p1 ∧ b5 < p1 ∧ CpR wg161 p2 e2 x C2 ∧ Z + 1 < p2 ∧ b5 < p2 ∧ e1 ≤ p2 from ⟨(HG160.out.1.trans ((bc2).mono HG160.out.1.size)), (HG160.out.2.1.new (bc2)), (HG160.out.2.2.1.new (bc2)), (HG160.out.2.2.2.1.new (bc2)), HG160.out.2.2.2.2.1, (HG160.out.2.2.2.2.2.1.new (bc2)), HG160.out.2.2.2.2.2.2.1, HG160.out.2.2.2.2.2.2.2, k2, (by have := HG160.out.2.2.1.lt; omega), (by have := HG160.out.2.2.2.1.lt; omega), (by have := HG160.out.2.2.2.2.2.1.up; omega)⟩)
          clear hp2 he2 bc2 k2
          try dsimp only
          refine hK.out _ _ ⟨HG162.out.1, HG162.out.2.1, HG162.out.2.2.1⟩ (fun hHeld => ?_)
          clear hK K
          try simp only [Act.put, List.setIfInBounds_toArray, List.set_cons_zero, List.set_cons_succ]
          refine wpAnyH_ready (rs := [5]) (by kernel_rfl) (by simp) (AllReadyH.cons (o := { dst := some 6, op := .alloc 26, type := 0, pos := "law.go:82", after := #[], guard := none }) rfl (fun K hK => ?_) AllReadyH.nil)
          go_simp
          obtain ⟨b6, hb6⟩ : ∃ b, b = (wg161).heap.size := ⟨_, rfl⟩
          rw [← hb6]
          generalize hwg163 : World.alloc _ _ = wg163
          have bwg163 : Below (wg161).heap.size (wg161) wg163 := by rw [← hwg163]; exact (Below.refl _ _).alloc (Nat.le_refl _) _
          have rwg163 : RowAt wg163 b6 26 (#[.int .i64 0, .slice none 0 0, .slice none 0 0, .slice none 0 0]) := by rw [← hwg163, hb6]; exact RowAt.mk _ _ _
          have HG164 := Lib.hid (show Below w.heap.size w wg163 ∧ RowAt wg163 Z 26 #[.int .i64 res, .slice sT nT S.t.c, .slice sM nM S.m.c, .slice sE nE S.e.c] ∧ RowAt wg163 (Z + 1) 26 #[.int .i64 res', .slice sT' nT' S'.t.c, .slice sM' nM' S'.m.c, .slice sE' nE' S'.e.c] ∧ RowAt wg163 b5 26 (#[.int .i64 0, .slice none 0 0, .slice none 0 0, .slice none 0 0]) ∧ Z + 1 < b5 ∧ CpR wg163 p1 e1 x C1 ∧ Z + 1 < p1 ∧ b5 < p1 ∧ CpR wg163 p2 e2 x C2 ∧ Z + 1 < p2 ∧ b5 < p2 ∧ e1 ≤ p2 ∧ RowAt wg163 b6 26 (#[.int .i64 0, .slice none 0 0, .slice none 0 0, .slice none 0 0]) ∧ Z + 1 < b6 ∧ e1 ≤ b6 ∧ e2 ≤ b6 ∧ b5 ≠ b6 from ⟨(HG162.out.1.trans ((bwg163).mono HG162.out.1.size)), (HG162.out.2.1.new (bwg163)), (HG162.out.2.2.1.new (bwg163)), (HG162.out.2.2.2.1.new (bwg163)), HG162.out.2.2.2.2.1, (HG162.out.2.2.2.2.2.1.new (bwg163)), HG162.out.2.2.2.2.2.2.1, HG162.out.2.2.2.2.2.2.2.1, (HG162.out.2.2.2.2.2.2.2.2.1.new (bwg163)), HG162.out.2.2.2.2.2.2.2.2.2.1, HG162.out.2.2.2.2.2.2.2.2.2.2.1, HG162.out.2.2.2.2.2.2.2.2.2.2.2, rwg163, (by have := HG162.out.2.2.1.lt; omega), (by have := HG162.out.2.2.2.2.2.1.up; omega), (by have := HG162.out.2.2.2.2.2.2.2.2.1.up; omega), (by have := HG162.out.2.2.2.1.lt; omega)⟩)
          clear hwg163 bwg163 rwg163 hb6
          refine hK.out _ _ ⟨HG164.out.1, HG164.out.2.1, HG164.out.2.2.1⟩ (fun hHeld => ?_)
          clear hK K
          try simp only [Act.put, List.setIfInBounds_toArray, List.set_cons_zero, List.set_cons_succ]
          refine wpAnyH_ready (rs := [6]) (by kernel_rfl) (by simp) (AllReadyH.cons (o := { dst := none, op := .store 26 (.tmp 5) (.tmp 18), type := 0, pos := "law.go:82", after := #[{ on := 4, ground := .data }, { on := 1, ground := .data }, { on := 3, ground := .chain }, { on := 0, ground := .phase }, { on := 1, ground := .phase }, { on := 2, ground := .textOnly Go.Departure.lateStores }, { on := 3, ground := .textOnly Go.Departure.lateStoresUnsure }, { on := 4, ground := .phase }, { on := 5, ground := .phase }], guard := none }) rfl (fun K hK => ?_) AllReadyH.nil)
          rw [if_pos (by rfl)]
          refine wp_store_row 26 (.tmp 5) (.tmp 18) rfl b5 #[.int .i64 res, .slice C1.t.sp nT C1.t.c, .slice C1.m.sp nM C1.m.c, .slice C1.e.sp nE C1.e.c] rfl rfl 26 (#[.int .i64 0, .slice none 0 0, .slice none 0 0, .slice none 0 0]) HG164.out.2.2.2.1 (by kernel_rfl) (by rfl) (by simp [Value.oneCell']) ?_
          generalize hwg165 : World.setRow _ _ _ = wg165
          have HG166 := Lib.hid (show Below w.heap.size w wg165 ∧ RowAt wg165 Z 26 #[.int .i64 res, .slice sT nT S.t.c, .slice sM nM S.m.c, .slice sE nE S.e.c] ∧ RowAt wg165 (Z + 1) 26 #[.int .i64 res', .slice sT' nT' S'.t.c, .slice sM' nM' S'.m.c, .slice sE' nE' S'.e.c] ∧ RowAt wg165 b5 26 #[.int .i64 res, .slice C1.t.sp nT C1.t.c, .slice C1.m.sp nM C1.m.c, .slice C1.e.sp nE C1.e.c] ∧ Z + 1 < b5 ∧ CpR wg165 p1 e1 x C1 ∧ Z + 1 < p1 ∧ b5 < p1 ∧ CpR wg165 p2 e2 x C2 ∧ Z + 1 < p2 ∧ b5 < p2 ∧ e1 ≤ p2 ∧ RowAt wg165 b6 26 (#[.int .i64 0, .slice none 0 0, .slice none 0 0, .slice none 0 0]) ∧ Z + 1 < b6 ∧ e1 ≤ b6 ∧ e2 ≤ b6 ∧ b5 ≠ b6 by rw [← hwg165]; exact ⟨below_row HG164.out.1 (Nat.le_refl _) (by have := HG164.out.2.2.2.2.1; have := HZZ.out; omega) _, HG164.out.2.1.keep (ch_setRow _ _ _) (fun e => by have := HG164.out.2.2.2.2.1; omega), HG164.out.2.2.1.keep (ch_setRow _ _ _) (fun e => by have := HG164.out.2.2.2.2.1; omega), HG164.out.2.2.2.1.put, HG164.out.2.2.2.2.1, HG164.out.2.2.2.2.2.1.keep (ch_setRow _ _ _) (fun j e h => by subst e; have := HG164.out.2.2.2.2.2.2.2.1; omega), HG164.out.2.2.2.2.2.2.1, HG164.out.2.2.2.2.2.2.2.1, HG164.out.2.2.2.2.2.2.2.2.1.keep (ch_setRow _ _ _) (fun j e h => by subst e; have := HG164.out.2.2.2.2.2.2.2.2.2.2.1; omega), HG164.out.2.2.2.2.2.2.2.2.2.1, HG164.out.2.2.2.2.2.2.2.2.2.2.1, HG164.out.2.2.2.2.2.2.2.2.2.2.2.1, HG164.out.2.2.2.2.2.2.2.2.2.2.2.2.1.keep (ch_setRow _ _ _) (fun e => HG164.out.2.2.2.2.2.2.2.2.2.2.2.2.2.2.2.2 e.symm), HG164.out.2.2.2.2.2.2.2.2.2.2.2.2.2.1, HG164.out.2.2.2.2.2.2.2.2.2.2.2.2.2.2.1, HG164.out.2.2.2.2.2.2.2.2.2.2.2.2.2.2.2.1, HG164.out.2.2.2.2.2.2.2.2.2.2.2.2.2.2.2.2⟩)
          clear hwg165
          refine hK.out _ _ ⟨HG166.out.1, HG166.out.2.1, HG166.out.2.2.1⟩ (fun hHeld => ?_)
          clear hK K
          try simp only [Act.put]
          refine wpAnyH_ready (rs := [7]) (by kernel_rfl) (by simp) (AllReadyH.cons (o := { dst := none, op := .store 26 (.tmp 6) (.tmp 20), type := 0, pos := "law.go:82", after := #[{ on := 5, ground := .data }, { on := 3, ground := .data }, { on := 6, ground := .chain }, { on := 0, ground := .phase }, { on := 1, ground := .phase }, { on := 2, ground := .phase }, { on := 3, ground := .phase }, { on := 4, ground := .phase }, { on := 5, ground := .phase }, { on := 6, ground := .phase }], guard := none }) rfl (fun K hK => ?_) AllReadyH.nil)
          rw [if_pos (by rfl)]
          refine wp_store_row 26 (.tmp 6) (.tmp 20) rfl b6 #[.int .i64 res, .slice C2.t.sp nT C2.t.c, .slice C2.m.sp nM C2.m.c, .slice C2.e.sp nE C2.e.c] rfl rfl 26 (#[.int .i64 0, .slice none 0 0, .slice none 0 0, .slice none 0 0]) HG166.out.2.2.2.2.2.2.2.2.2.2.2.2.1 (by kernel_rfl) (by rfl) (by simp [Value.oneCell']) ?_
          generalize hwg167 : World.setRow _ _ _ = wg167
          have HG168 := Lib.hid (show Below w.heap.size w wg167 ∧ RowAt wg167 Z 26 #[.int .i64 res, .slice sT nT S.t.c, .slice sM nM S.m.c, .slice sE nE S.e.c] ∧ RowAt wg167 (Z + 1) 26 #[.int .i64 res', .slice sT' nT' S'.t.c, .slice sM' nM' S'.m.c, .slice sE' nE' S'.e.c] ∧ RowAt wg167 b5 26 #[.int .i64 res, .slice C1.t.sp nT C1.t.c, .slice C1.m.sp nM C1.m.c, .slice C1.e.sp nE C1.e.c] ∧ Z + 1 < b5 ∧ CpR wg167 p1 e1 x C1 ∧ Z + 1 < p1 ∧ b5 < p1 ∧ CpR wg167 p2 e2 x C2 ∧ Z + 1 < p2 ∧ b5 < p2 ∧ e1 ≤ p2 ∧ RowAt wg167 b6 26 #[.int .i64 res, .slice C2.t.sp nT C2.t.c, .slice C2.m.sp nM C2.m.c, .slice C2.e.sp nE C2.e.c] ∧ Z + 1 < b6 ∧ e1 ≤ b6 ∧ e2 ≤ b6 ∧ b5 ≠ b6 by rw [← hwg167]; exact ⟨below_row HG166.out.1 (Nat.le_refl _) (by have := HG166.out.2.2.2.2.2.2.2.2.2.2.2.2.2.1; have := HZZ.out; omega) _, HG166.out.2.1.keep (ch_setRow _ _ _) (fun e => by have := HG166.out.2.2.2.2.2.2.2.2.2.2.2.2.2.1; omega), HG166.out.2.2.1.keep (ch_setRow _ _ _) (fun e => by have := HG166.out.2.2.2.2.2.2.2.2.2.2.2.2.2.1; omega), HG166.out.2.2.2.1.keep (ch_setRow _ _ _) (fun e => HG166.out.2.2.2.2.2.2.2.2.2.2.2.2.2.2.2.2 e), HG166.out.2.2.2.2.1, HG166.out.2.2.2.2.2.1.keep (ch_setRow _ _ _) (fun j e h => by subst e; have := HG166.out.2.2.2.2.2.2.2.2.2.2.2.2.2.2.1; omega), HG166.out.2.2.2.2.2.2.1, HG166.out.2.2.2.2.2.2.2.1, HG166.out.2.2.2.2.2.2.2.2.1.keep (ch_setRow _ _ _) (fun j e h => by subst e; have := HG166.out.2.2.2.2.2.2.2.2.2.2.2.2.2.2.2.1; omega), HG166.out.2.2.2.2.2.2.2.2.2.1, HG166.out.2.2.2.2.2.2.2.2.2.2.1, HG166.out.2.2.2.2.2.2.2.2.2.2.2.1, HG166.out.2.2.2.2.2.2.2.2.2.2.2.2.1.put, HG166.out.2.2.2.2.2.2.2.2.2.2.2.2.2.1, HG166.out.2.2.2.2.2.2.2.2.2.2.2.2.2.2.1, HG166.out.2.2.2.2.2.2.2.2.2.2.2.2.2.2.2.1, HG166.out.2.2.2.2.2.2.2.2.2.2.2.2.2.2.2.2⟩)
          clear hwg167
          refine hK.out _ _ ⟨HG168.out.1, HG168.out.2.1, HG168.out.2.2.1⟩ (fun hHeld => ?_)
          clear hK K
          try simp only [Act.put]
          refine wpAnyH_done (by kernel_rfl) ?_ _
          go_wp2
          go_meet
          case rel => exact ⟨b5, b6, C1, C2, p1, e1, p2, e2, rfl, rfl, ⟨HG168.out.2.2.2.2.2.2.1, HG168.out.2.2.2.2.2.2.2.2.2.2.2.1, (.inl HG168.out.2.2.2.2.2.2.2.1), (.inr HG168.out.2.2.2.2.2.2.2.2.2.2.2.2.2.2.1)⟩, ⟨HG168.out.1, HG168.out.2.1, HG168.out.2.2.1⟩, HG168.out.2.2.2.1, HG168.out.2.2.2.2.2.2.2.2.2.2.2.2.1, HG168.out.2.2.2.2.2.1, HG168.out.2.2.2.2.2.2.2.2.1⟩
        · go_simp
          obtain ⟨b6, hb6⟩ : ∃ b, b = (wg159).heap.size := ⟨_, rfl⟩
          rw [← hb6]
          generalize hwg169 : World.alloc _ _ = wg169
          have bwg169 : Below (wg159).heap.size (wg159) wg169 := by rw [← hwg169]; exact (Below.refl _ _).alloc (Nat.le_refl _) _
          have rwg169 : RowAt wg169 b6 26 (#[.int .i64 0, .slice none 0 0, .slice none 0 0, .slice none 0 0]) := by rw [← hwg169, hb6]; exact RowAt.mk _ _ _
          have HG170 := Lib.hid (show Below w.heap.size w wg169 ∧ RowAt wg169 Z 26 #[.int .i64 res, .slice sT nT S.t.c, .slice sM nM S.m.c, .slice sE nE S.e.c] ∧ RowAt wg169 (Z + 1) 26 #[.int .i64 res', .slice sT' nT' S'.t.c, .slice sM' nM' S'.m.c, .slice sE' nE' S'.e.c] ∧ RowAt wg169 b5 26 (#[.int .i64 0, .slice none 0 0, .slice none 0 0, .slice none 0 0]) ∧ Z + 1 < b5 ∧ CpR wg169 p1 e1 x C1 ∧ Z + 1 < p1 ∧ b5 < p1 ∧ RowAt wg169 b6 26 (#[.int .i64 0, .slice none 0 0, .slice none 0 0, .slice none 0 0]) ∧ Z + 1 < b6 ∧ e1 ≤ b6 ∧ b5 ≠ b6 from ⟨(HG160.out.1.trans ((bwg169).mono HG160.out.1.size)), (HG160.out.2.1.new (bwg169)), (HG160.out.2.2.1.new (bwg169)), (HG160.out.2.2.2.1.new (bwg169)), HG160.out.2.2.2.2.1, (HG160.out.2.2.2.2.2.1.new (bwg169)), HG160.out.2.2.2.2.2.2.1, HG160.out.2.2.2.2.2.2.2, rwg169, (by have := HG160.out.2.2.1.lt; omega), (by have := HG160.out.2.2.2.2.2.1.up; omega), (by have := HG160.out.2.2.2.1.lt; omega)⟩)
          clear hwg169 bwg169 rwg169 hb6
          refine hK.out _ _ ⟨HG170.out.1, HG170.out.2.1, HG170.out.2.2.1⟩ (fun hHeld => ?_)
          clear hK K
          try simp only [Act.put, List.setIfInBounds_toArray, List.set_cons_zero, List.set_cons_succ]
          refine wpAnyH_ready (rs := [3]) (by kernel_rfl) (by simp) (AllReadyH.cons (o := { dst := some 20, op := .call { callee := .value (.func 16), args := #[.tmp 19], argTypes := #[26] }, type := 26, pos := "law.go:82", after := #[{ on := 2, ground := .data }, { on := 1, ground := .chain }], guard := none }) rfl (fun K hK => ?_) AllReadyH.nil)
          go_simp
          go_at_call 16
          refine (HCp1.out _ HG170.out.1).mono ?_
          rintro e wg171 ⟨C2, rfl, k2, bc2⟩
          obtain ⟨p2, hp2⟩ : ∃ p, p = (wg169).heap.size := ⟨_, rfl⟩
          obtain ⟨e2, he2⟩ : ∃ p, p = wg171.heap.size := ⟨_, rfl⟩
          rw [← hp2, ← he2] at k2
          have HG172 := Lib.hid (show Below w.heap.size w wg171 ∧ RowAt wg171 Z 26 #[.int .i64 res, .slice sT nT S.t.c, .slice sM nM S.m.c, .slice sE nE S.e.c] ∧ RowAt wg171 (Z + 1) 26 #[.int .i64 res', .slice sT' nT' S'.t.c, .slice sM' nM' S'.m.c, .slice sE' nE' S'.e.c] ∧ RowAt wg171 b5 26 (#[.int .i64 0, .slice none 0 0, .slice none 0 0, .slice none 0 0]) ∧ Z + 1 < b5 ∧ CpR wg171 p1 e1 x C1 ∧ Z + 1 < p1 ∧ b5 < p1 ∧ RowAt wg171 b6 26 (#[.int .i64 0, .slice none 0 0, .slice none 0 0, .slice none 0 0]) ∧ Z + 1 < b6 ∧ e1 ≤ b6 ∧ b5 ≠ b6 ∧ CpR wg171 p2 e2 x C2 ∧ Z + 1 < p2 ∧ b5 < p2 ∧ b6 < p2 ∧ e1 ≤ p2 from ⟨(HG170.out.1.trans ((bc2).mono HG170.out.1.size)), (HG170.out.2.1.new (bc2)), (HG170.out.2.2.1.new (bc2)), (HG170.out.2.2.2.1.new (bc2)), HG170.out.2.2.2.2.1, (HG170.out.2.2.2.2.2.1.new (bc2)), HG170.out.2.2.2.2.2.2.1, HG170.out.2.2.2.2.2.2.2.1, (HG170.out.2.2.2.2.2.2.2.2.1.new (bc2)), HG170.out.2.2.2.2.2.2.2.2.2.1, HG170.out.2.2.2.2.2.2.2.2.2.2.1, HG170.out.2.2.2.2.2.2.2.2.2.2.2, k2, (by have := HG170.out.2.2.1.lt; omega), (by have := HG170.out.2.2.2.1.lt; omega), (by have := HG170.out.2.2.2.2.2.2.2.2.1.lt; omega), (by have := HG170.out.2.2.2.2.2.1.up; omega)⟩)
          clear hp2 he2 bc2 k2
          try dsimp only
          refine hK.out _ _ ⟨HG172.out.1, HG172.out.2.1, HG172.out.2.2.1⟩ (fun hHeld => ?_)
          clear hK K
          try simp only [Act.put, List.setIfInBounds_toArray, List.set_cons_zero, List.set_cons_succ]
          refine wpAnyH_ready (rs := [6]) (by kernel_rfl) (by simp) (AllReadyH.cons (o := { dst := none, op := .store 26 (.tmp 5) (.tmp 18), type := 0, pos := "law.go:82", after := #[{ on := 4, ground := .data }, { on := 1, ground := .data }, { on := 3, ground := .chain }, { on := 0, ground := .phase }, { on := 1, ground := .phase }, { on := 2, ground := .textOnly Go.Departure.lateStores }, { on := 3, ground := .textOnly Go.Departure.lateStoresUnsure }, { on := 4, ground := .phase }, { on := 5, ground := .phase }], guard := none }) rfl (fun K hK => ?_) AllReadyH.nil)
          rw [if_pos (by rfl)]
          refine wp_store_row 26 (.tmp 5) (.tmp 18) rfl b5 #[.int .i64 res, .slice C1.t.sp nT C1.t.c, .slice C1.m.sp nM C1.m.c, .slice C1.e.sp nE C1.e.c] rfl rfl 26 (#[.int .i64 0, .slice none 0 0, .slice none 0 0, .slice none 0 0]) HG172.out.2.2.2.1 (by kernel_rfl) (by rfl) (by simp [Value.oneCell']) ?_
          generalize hwg173 : World.setRow _ _ _ = wg173
          have HG174 := Lib.hid (show Below w.heap.size w wg173 ∧ RowAt wg173 Z 26 #[.int .i64 res, .slice sT nT S.t.c, .slice sM nM S.m.c, .slice sE nE S.e.c] ∧ RowAt wg173 (Z + 1) 26 #[.int .i64 res', .slice sT' nT' S'.t.c, .slice sM' nM' S'.m.c, .slice sE' nE' S'.e.c] ∧ RowAt wg173 b5 26 #[.int .i64 res, .slice C1.t.sp nT C1.t.c, .slice C1.m.sp nM C1.m.c, .slice C1.e.sp nE C1.e.c] ∧ Z + 1 < b5 ∧ CpR wg173 p1 e1 x C1 ∧ Z + 1 < p1 ∧ b5 < p1 ∧ RowAt wg173 b6 26 (#[.int .i64 0, .slice none 0 0, .slice none 0 0, .slice none 0 0]) ∧ Z + 1 < b6 ∧ e1 ≤ b6 ∧ b5 ≠ b6 ∧ CpR wg173 p2 e2 x C2 ∧ Z + 1 < p2 ∧ b5 < p2 ∧ b6 < p2 ∧ e1 ≤ p2 by rw [← hwg173]; exact ⟨below_row HG172.out.1 (Nat.le_refl _) (by have := HG172.out.2.2.2.2.1; have := HZZ.out; omega) _, HG172.out.2.1.keep (ch_setRow _ _ _) (fun e => by have := HG172.out.2.2.2.2.1; omega), HG172.out.2.2.1.keep (ch_setRow _ _ _) (fun e => by have := HG172.out.2.2.2.2.1; omega), HG172.out.2.2.2.1.put, HG172.out.2.2.2.2.1, HG172.out.2.2.2.2.2.1.keep (ch_setRow _ _ _) (fun j e h => by subst e; have := HG172.out.2.2.2.2.2.2.2.1; omega), HG172.out.2.2.2.2.2.2.1, HG172.out.2.2.2.2.2.2.2.1, HG172.out.2.2.2.2.2.2.2.2.1.keep (ch_setRow _ _ _) (fun e => HG172.out.2.2.2.2.2.2.2.2.2.2.2.1 e.symm), HG172.out.2.2.2.2.2.2.2.2.2.1, HG172.out.2.2.2.2.2.2.2.2.2.2.1, HG172.out.2.2.2.2.2.2.2.2.2.2.2.1, HG172.out.2.2.2.2.2.2.2.2.2.2.2.2.1.keep (ch_setRow _ _ _) (fun j e h => by subst e; have := HG172.out.2.2.2.2.2.2.2.2.2.2.2.2.2.2.1; omega), HG172.out.2.2.2.2.2.2.2.2.2.2.2.2.2.1, HG172.out.2.2.2.2.2.2.2.2.2.2.2.2.2.2.1, HG172.out.2.2.2.2.2.2.2.2.2.2.2.2.2.2.2.1, HG172.out.2.2.2.2.2.2.2.2.2.2.2.2.2.2.2.2⟩)
          clear hwg173
          refine hK.out _ _ ⟨HG174.out.1, HG174.out.2.1, HG174.out.2.2.1⟩ (fun hHeld => ?_)
          clear hK K
          try simp only [Act.put]
          refine wpAnyH_ready (rs := [7]) (by kernel_rfl) (by simp) (AllReadyH.cons (o := { dst := none, op := .store 26 (.tmp 6) (.tmp 20), type := 0, pos := "law.go:82", after := #[{ on := 5, ground := .data }, { on := 3, ground := .data }, { on := 6, ground := .chain }, { on := 0, ground := .phase }, { on := 1, ground := .phase }, { on := 2, ground := .phase }, { on := 3, ground := .phase }, { on := 4, ground := .phase }, { on := 5, ground := .phase }, { on := 6, ground := .phase }], guard := none }) rfl (fun K hK => ?_) AllReadyH.nil)
          rw [if_pos (by rfl)]
          refine wp_store_row 26 (.tmp 6) (.tmp 20) rfl b6 #[.int .i64 res, .slice C2.t.sp nT C2.t.c, .slice C2.m.sp nM C2.m.c, .slice C2.e.sp nE C2.e.c] rfl rfl 26 (#[.int .i64 0, .slice none 0 0, .slice none 0 0, .slice none 0 0]) HG174.out.2.2.2.2.2.2.2.2.1 (by kernel_rfl) (by rfl) (by simp [Value.oneCell']) ?_
          generalize hwg175 : World.setRow _ _ _ = wg175
          have HG176 := Lib.hid (show Below w.heap.size w wg175 ∧ RowAt wg175 Z 26 #[.int .i64 res, .slice sT nT S.t.c, .slice sM nM S.m.c, .slice sE nE S.e.c] ∧ RowAt wg175 (Z + 1) 26 #[.int .i64 res', .slice sT' nT' S'.t.c, .slice sM' nM' S'.m.c, .slice sE' nE' S'.e.c] ∧ RowAt wg175 b5 26 #[.int .i64 res, .slice C1.t.sp nT C1.t.c, .slice C1.m.sp nM C1.m.c, .slice C1.e.sp nE C1.e.c] ∧ Z + 1 < b5 ∧ CpR wg175 p1 e1 x C1 ∧ Z + 1 < p1 ∧ b5 < p1 ∧ RowAt wg175 b6 26 #[.int .i64 res, .slice C2.t.sp nT C2.t.c, .slice C2.m.sp nM C2.m.c, .slice C2.e.sp nE C2.e.c] ∧ Z + 1 < b6 ∧ e1 ≤ b6 ∧ b5 ≠ b6 ∧ CpR wg175 p2 e2 x C2 ∧ Z + 1 < p2 ∧ b5 < p2 ∧ b6 < p2 ∧ e1 ≤ p2 by rw [← hwg175]; exact ⟨below_row HG174.out.1 (Nat.le_refl _) (by have := HG174.out.2.2.2.2.2.2.2.2.2.1; have := HZZ.out; omega) _, HG174.out.2.1.keep (ch_setRow _ _ _) (fun e => by have := HG174.out.2.2.2.2.2.2.2.2.2.1; omega), HG174.out.2.2.1.keep (ch_setRow _ _ _) (fun e => by have := HG174.out.2.2.2.2.2.2.2.2.2.1; omega), HG174.out.2.2.2.1.keep (ch_setRow _ _ _) (fun e => HG174.out.2.2.2.2.2.2.2.2.2.2.2.1 e), HG174.out.2.2.2.2.1, HG174.out.2.2.2.2.2.1.keep (ch_setRow _ _ _) (fun j e h => by subst e; have := HG174.out.2.2.2.2.2.2.2.2.2.2.1; omega), HG174.out.2.2.2.2.2.2.1, HG174.out.2.2.2.2.2.2.2.1, HG174.out.2.2.2.2.2.2.2.2.1.put, HG174.out.2.2.2.2.2.2.2.2.2.1, HG174.out.2.2.2.2.2.2.2.2.2.2.1, HG174.out.2.2.2.2.2.2.2.2.2.2.2.1, HG174.out.2.2.2.2.2.2.2.2.2.2.2.2.1.keep (ch_setRow _ _ _) (fun j e h => by subst e; have := HG174.out.2.2.2.2.2.2.2.2.2.2.2.2.2.2.2.1; omega), HG174.out.2.2.2.2.2.2.2.2.2.2.2.2.2.1, HG174.out.2.2.2.2.2.2.2.2.2.2.2.2.2.2.1, HG174.out.2.2.2.2.2.2.2.2.2.2.2.2.2.2.2.1, HG174.out.2.2.2.2.2.2.2.2.2.2.2.2.2.2.2.2⟩)
          clear hwg175
          refine hK.out _ _ ⟨HG176.out.1, HG176.out.2.1, HG176.out.2.2.1⟩ (fun hHeld => ?_)
          clear hK K
          try simp only [Act.put]
          refine wpAnyH_done (by kernel_rfl) ?_ _
          go_wp2
          go_meet
          case rel => exact ⟨b5, b6, C1, C2, p1, e1, p2, e2, rfl, rfl, ⟨HG176.out.2.2.2.2.2.2.1, HG176.out.2.2.2.2.2.2.2.2.2.2.2.2.2.2.2.2, (.inl HG176.out.2.2.2.2.2.2.2.1), (.inr HG176.out.2.2.2.2.2.2.2.2.2.2.1)⟩, ⟨HG176.out.1, HG176.out.2.1, HG176.out.2.2.1⟩, HG176.out.2.2.2.1, HG176.out.2.2.2.2.2.2.2.2.1, HG176.out.2.2.2.2.2.1, HG176.out.2.2.2.2.2.2.2.2.2.2.2.2.1⟩
      · go_simp
        obtain ⟨b6, hb6⟩ : ∃ b, b = (wg157).heap.size := ⟨_, rfl⟩
        rw [← hb6]
        generalize hwg177 : World.alloc _ _ = wg177
        have bwg177 : Below (wg157).heap.size (wg157) wg177 := by rw [← hwg177]; exact (Below.refl _ _).alloc (Nat.le_refl _) _
        have rwg177 : RowAt wg177 b6 26 (#[.int .i64 0, .slice none 0 0, .slice none 0 0, .slice none 0 0]) := by rw [← hwg177, hb6]; exact RowAt.mk _ _ _
        have HG178 := Lib.hid (show Below w.heap.size w wg177 ∧ RowAt wg177 Z 26 #[.int .i64 res, .slice sT nT S.t.c, .slice sM nM S.m.c, .slice sE nE S.e.c] ∧ RowAt wg177 (Z + 1) 26 #[.int .i64 res', .slice sT' nT' S'.t.c, .slice sM' nM' S'.m.c, .slice sE' nE' S'.e.c] ∧ RowAt wg177 b5 26 (#[.int .i64 0, .slice none 0 0, .slice none 0 0, .slice none 0 0]) ∧ Z + 1 < b5 ∧ RowAt wg177 b6 26 (#[.int .i64 0, .slice none 0 0, .slice none 0 0, .slice none 0 0]) ∧ Z + 1 < b6 ∧ b5 ≠ b6 from ⟨(HG158.out.1.trans ((bwg177).mono HG158.out.1.size)), (HG158.out.2.1.new (bwg177)), (HG158.out.2.2.1.new (bwg177)), (HG158.out.2.2.2.1.new (bwg177)), HG158.out.2.2.2.2, rwg177, (by have := HG158.out.2.2.1.lt; omega), (by have := HG158.out.2.2.2.1.lt; omega)⟩)
        clear hwg177 bwg177 rwg177 hb6
        refine hK.out _ _ ⟨HG178.out.1, HG178.out.2.1, HG178.out.2.2.1⟩ (fun hHeld => ?_)
        clear hK K
        try simp only [Act.put, List.setIfInBounds_toArray, List.set_cons_zero, List.set_cons_succ]
        refine wpAnyH_ready (rs := [1]) (by kernel_rfl) (by simp) (AllReadyH.cons (o := { dst := some 18, op := .call { callee := .value (.func 16), args := #[.tmp 17], argTypes := #[26] }, type := 26, pos := "law.go:82", after := #[{ on := 0, ground := .data }], guard := none }) rfl (fun K hK => ?_) AllReadyH.nil)
        go_simp
        go_at_call 16
        refine (HCp1.out _ HG178.out.1).mono ?_
        rintro e wg179 ⟨C1, rfl, k1, bc1⟩
        obtain ⟨p1, hp1⟩ : ∃ p, p = (wg177).heap.size := ⟨_, rfl⟩
        obtain ⟨e1, he1⟩ : ∃ p, p = wg179.heap.size := ⟨_, rfl⟩
        rw [← hp1, ← he1] at k1
        have HG180 := Lib.hid (show Below w.heap.size w wg179 ∧ RowAt wg179 Z 26 #[.int .i64 res, .slice sT nT S.t.c, .slice sM nM S.m.c, .slice sE nE S.e.c] ∧ RowAt wg179 (Z + 1) 26 #[.int .i64 res', .slice sT' nT' S'.t.c, .slice sM' nM' S'.m.c, .slice sE' nE' S'.e.c] ∧ RowAt wg179 b5 26 (#[.int .i64 0, .slice none 0 0, .slice none 0 0, .slice none 0 0]) ∧ Z + 1 < b5 ∧ RowAt wg179 b6 26 (#[.int .i64 0, .slice none 0 0, .slice none 0 0, .slice none 0 0]) ∧ Z + 1 < b6 ∧ b5 ≠ b6 ∧ CpR wg179 p1 e1 x C1 ∧ Z + 1 < p1 ∧ b5 < p1 ∧ b6 < p1 from ⟨(HG178.out.1.trans ((bc1).mono HG178.out.1.size)), (HG178.out.2.1.new (bc1)), (HG178.out.2.2.1.new (bc1)), (HG178.out.2.2.2.1.new (bc1)), HG178.out.2.2.2.2.1, (HG178.out.2.2.2.2.2.1.new (bc1)), HG178.out.2.2.2.2.2.2.1, HG178.out.2.2.2.2.2.2.2, k1, (by have := HG178.out.2.2.1.lt; omega), (by have := HG178.out.2.2.2.1.lt; omega), (by have := HG178.out.2.2.2.2.2.1.lt; omega)⟩)
        clear hp1 he1 bc1 k1
        try dsimp only
        refine hK.out _ _ ⟨HG180.out.1, HG180.out.2.1, HG180.out.2.2.1⟩ (fun hHeld => ?_)
        clear hK K
        try simp only [Act.put, List.setIfInBounds_toArray, List.set_cons_zero, List.set_cons_succ]
        refine wpAnyH_ready (rs := [3]) (by kernel_rfl) (by simp) (AllReadyH.cons (o := { dst := some 20, op := .call { callee := .value (.func 16), args := #[.tmp 19], argTypes := #[26] }, type := 26, pos := "law.go:82", after := #[{ on := 2, ground := .data }, { on := 1, ground := .chain }], guard := none }) rfl (fun K hK => ?_) AllReadyH.nil)
        go_simp
        go_at_call 16
        refine (HCp1.out _ HG180.out.1).mono ?_
        rintro e wg181 ⟨C2, rfl, k2, bc2⟩
        obtain ⟨p2, hp2⟩ : ∃ p, p = (wg179).heap.size := ⟨_, rfl⟩
        obtain ⟨e2, he2⟩ : ∃ p, p = wg181.heap.size := ⟨_, rfl⟩
        rw [← hp2, ← he2] at k2
        have HG182 := Lib.hid (show Below w.heap.size w wg181 ∧ RowAt wg181 Z 26 #[.int .i64 res, .slice sT nT S.t.c, .slice sM nM S.m.c, .slice sE nE S.e.c] ∧ RowAt wg181 (Z + 1) 26 #[.int .i64 res', .slice sT' nT' S'.t.c, .slice sM' nM' S'.m.c, .slice sE' nE' S'.e.c] ∧ RowAt wg181 b5 26 (#[.int .i64 0, .slice none 0 0, .slice none 0 0, .slice none 0 0]) ∧ Z + 1 < b5 ∧ RowAt wg181 b6 26 (#[.int .i64 0, .slice none 0 0, .slice none 0 0, .slice none 0 0]) ∧ Z + 1 < b6 ∧ b5 ≠ b6 ∧ CpR wg181 p1 e1 x C1 ∧ Z + 1 < p1 ∧ b5 < p1 ∧ b6 < p1 ∧ CpR wg181 p2 e2 x C2 ∧ Z + 1 < p2 ∧ b5 < p2 ∧ b6 < p2 ∧ e1 ≤ p2 from ⟨(HG180.out.1.trans ((bc2).mono HG180.out.1.size)), (HG180.out.2.1.new (bc2)), (HG180.out.2.2.1.new (bc2)), (HG180.out.2.2.2.1.new (bc2)), HG180.out.2.2.2.2.1, (HG180.out.2.2.2.2.2.1.new (bc2)), HG180.out.2.2.2.2.2.2.1, HG180.out.2.2.2.2.2.2.2.1, (HG180.out.2.2.2.2.2.2.2.2.1.new (bc2)), HG180.out.2.2.2.2.2.2.2.2.2.1, HG180.out.2.2.2.2.2.2.2.2.2.2.1, HG180.out.2.2.2.2.2.2.2.2.2.2.2, k2, (by have := HG180.out.2.2.1.lt; omega), (by have := HG180.out.2.2.2.1.lt; omega), (by have := HG180.out.2.2.2.2.2.1.lt; omega), (by have := HG180.out.2.2.2.2.2.2.2.2.1.up; omega)⟩)
        clear hp2 he2 bc2 k2
        try dsimp only
        refine hK.out _ _ ⟨HG182.out.1, HG182.out.2.1, HG182.out.2.2.1⟩ (fun hHeld => ?_)
        clear hK K
        try simp only [Act.put, List.setIfInBounds_toArray, List.set_cons_zero, List.set_cons_succ]
        refine wpAnyH_ready (rs := [6]) (by kernel_rfl) (by simp) (AllReadyH.cons (o := { dst := none, op := .store 26 (.tmp 5) (.tmp 18), type := 0, pos := "law.go:82", after := #[{ on := 4, ground := .data }, { on := 1, ground := .data }, { on := 3, ground := .chain }, { on := 0, ground := .phase }, { on := 1, ground := .phase }, { on := 2, ground := .textOnly Go.Departure.lateStores }, { on := 3, ground := .textOnly Go.Departure.lateStoresUnsure }, { on := 4, ground := .phase }, { on := 5, ground := .phase }], guard := none }) rfl (fun K hK => ?_) AllReadyH.nil)
        rw [if_pos (by rfl)]
        refine wp_store_row 26 (.tmp 5) (.tmp 18) rfl b5 #[.int .i64 res, .slice C1.t.sp nT C1.t.c, .slice C1.m.sp nM C1.m.c, .slice C1.e.sp nE C1.e.c] rfl rfl 26 (#[.int .i64 0, .slice none 0 0, .slice none 0 0, .slice none 0 0]) HG182.out.2.2.2.1 (by kernel_rfl) (by rfl) (by simp [Value.oneCell']) ?_
        generalize hwg183 : World.setRow _ _ _ = wg183
        have HG184 := Lib.hid (show Below w.heap.size w wg183 ∧ RowAt wg183 Z 26 #[.int .i64 res, .slice sT nT S.t.c, .slice sM nM S.m.c, .slice sE nE S.e.c] ∧ RowAt wg183 (Z + 1) 26 #[.int .i64 res', .slice sT' nT' S'.t.c, .slice sM' nM' S'.m.c, .slice sE' nE' S'.e.c] ∧ RowAt wg183 b5 26 #[.int .i64 res, .slice C1.t.sp nT C1.t.c, .slice C1.m.sp nM C1.m.c, .slice C1.e.sp nE C1.e.c] ∧ Z + 1 < b5 ∧ RowAt wg183 b6 26 (#[.int .i64 0, .slice none 0 0, .slice none 0 0, .slice none 0 0]) ∧ Z + 1 < b6 ∧ b5 ≠ b6 ∧ CpR wg183 p1 e1 x C1 ∧ Z + 1 < p1 ∧ b5 < p1 ∧ b6 < p1 ∧ CpR wg183 p2 e2 x C2 ∧ Z + 1 < p2 ∧ b5 < p2 ∧ b6 < p2 ∧ e1 ≤ p2 by rw [← hwg183]; exact ⟨below_row HG182.out.1 (Nat.le_refl _) (by have := HG182.out.2.2.2.2.1; have := HZZ.out; omega) _, HG182.out.2.1.keep (ch_setRow _ _ _) (fun e => by have := HG182.out.2.2.2.2.1; omega), HG182.out.2.2.1.keep (ch_setRow _ _ _) (fun e => by have := HG182.out.2.2.2.2.1; omega), HG182.out.2.2.2.1.put, HG182.out.2.2.2.2.1, HG182.out.2.2.2.2.2.1.keep (ch_setRow _ _ _) (fun e => HG182.out.2.2.2.2.2.2.2.1 e.symm), HG182.out.2.2.2.2.2.2.1, HG182.out.2.2.2.2.2.2.2.1, HG182.out.2.2.2.2.2.2.2.2.1.keep (ch_setRow _ _ _) (fun j e h => by subst e; have := HG182.out.2.2.2.2.2.2.2.2.2.2.1; omega), HG182.out.2.2.2.2.2.2.2.2.2.1, HG182.out.2.2.2.2.2.2.2.2.2.2.1, HG182.out.2.2.2.2.2.2.2.2.2.2.2.1, HG182.out.2.2.2.2.2.2.2.2.2.2.2.2.1.keep (ch_setRow _ _ _) (fun j e h => by subst e; have := HG182.out.2.2.2.2.2.2.2.2.2.2.2.2.2.2.1; omega), HG182.out.2.2.2.2.2.2.2.2.2.2.2.2.2.1, HG182.out.2.2.2.2.2.2.2.2.2.2.2.2.2.2.1, HG182.out.2.2.2.2.2.2.2.2.2.2.2.2.2.2.2.1, HG182.out.2.2.2.2.2.2.2.2.2.2.2.2.2.2.2.2⟩)
        clear hwg183
        refine hK.out _ _ ⟨HG184.out.1, HG184.out.2.1, HG184.out.2.2.1⟩ (fun hHeld => ?_)
        clear hK K
        try simp only [Act.put]
        refine wpAnyH_ready (rs := [7]) (by kernel_rfl) (by simp) (AllReadyH.cons (o := { dst := none, op := .store 26 (.tmp 6) (.tmp 20), type := 0, pos := "law.go:82", after := #[{ on := 5, ground := .data }, { on := 3, ground := .data }, { on := 6, ground := .chain }, { on := 0, ground := .phase }, { on := 1, ground := .phase }, { on := 2, ground := .phase }, { on := 3, ground := .phase }, { on := 4, ground := .phase }, { on := 5, ground := .phase }, { on := 6, ground := .phase }], guard := none }) rfl (fun K hK => ?_) AllReadyH.nil)
        rw [if_pos (by rfl)]
        refine wp_store_row 26 (.tmp 6) (.tmp 20) rfl b6 #[.int .i64 res, .slice C2.t.sp nT C2.t.c, .slice C2.m.sp nM C2.m.c, .slice C2.e.sp nE C2.e.c] rfl rfl 26 (#[.int .i64 0, .slice none 0 0, .slice none 0 0, .slice none 0 0]) HG184.out.2.2.2.2.2.1 (by kernel_rfl) (by rfl) (by simp [Value.oneCell']) ?_
        generalize hwg185 : World.setRow _ _ _ = wg185
        have HG186 := Lib.hid (show Below w.heap.size w wg185 ∧ RowAt wg185 Z 26 #[.int .i64 res, .slice sT nT S.t.c, .slice sM nM S.m.c, .slice sE nE S.e.c] ∧ RowAt wg185 (Z + 1) 26 #[.int .i64 res', .slice sT' nT' S'.t.c, .slice sM' nM' S'.m.c, .slice sE' nE' S'.e.c] ∧ RowAt wg185 b5 26 #[.int .i64 res, .slice C1.t.sp nT C1.t.c, .slice C1.m.sp nM C1.m.c, .slice C1.e.sp nE C1.e.c] ∧ Z + 1 < b5 ∧ RowAt wg185 b6 26 #[.int .i64 res, .slice C2.t.sp nT C2.t.c, .slice C2.m.sp nM C2.m.c, .slice C2.e.sp nE C2.e.c] ∧ Z + 1 < b6 ∧ b5 ≠ b6 ∧ CpR wg185 p1 e1 x C1 ∧ Z + 1 < p1 ∧ b5 < p1 ∧ b6 < p1 ∧ CpR wg185 p2 e2 x C2 ∧ Z + 1 < p2 ∧ b5 < p2 ∧ b6 < p2 ∧ e1 ≤ p2 by rw [← hwg185]; exact ⟨below_row HG184.out.1 (Nat.le_refl _) (by have := HG184.out.2.2.2.2.2.2.1; have := HZZ.out; omega) _, HG184.out.2.1.keep (ch_setRow _ _ _) (fun e => by have := HG184.out.2.2.2.2.2.2.1; omega), HG184.out.2.2.1.keep (ch_setRow _ _ _) (fun e => by have := HG184.out.2.2.2.2.2.2.1; omega), HG184.out.2.2.2.1.keep (ch_setRow _ _ _) (fun e => HG184.out.2.2.2.2.2.2.2.1 e), HG184.out.2.2.2.2.1, HG184.out.2.2.2.2.2.1.put, HG184.out.2.2.2.2.2.2.1, HG184.out.2.2.2.2.2.2.2.1, HG184.out.2.2.2.2.2.2.2.2.1.keep (ch_setRow _ _ _) (fun j e h => by subst e; have := HG184.out.2.2.2.2.2.2.2.2.2.2.2.1; omega), HG184.out.2.2.2.2.2.2.2.2.2.1, HG184.out.2.2.2.2.2.2.2.2.2.2.1, HG184.out.2.2.2.2.2.2.2.2.2.2.2.1, HG184.out.2.2.2.2.2.2.2.2.2.2.2.2.1.keep (ch_setRow _ _ _) (fun j e h => by subst e; have := HG184.out.2.2.2.2.2.2.2.2.2.2.2.2.2.2.2.1; omega), HG184.out.2.2.2.2.2.2.2.2.2.2.2.2.2.1, HG184.out.2.2.2.2.2.2.2.2.2.2.2.2.2.2.1, HG184.out.2.2.2.2.2.2.2.2.2.2.2.2.2.2.2.1, HG184.out.2.2.2.2.2.2.2.2.2.2.2.2.2.2.2.2⟩)
        clear hwg185
        refine hK.out _ _ ⟨HG186.out.1, HG186.out.2.1, HG186.out.2.2.1⟩ (fun hHeld => ?_)
        clear hK K
        try simp only [Act.put]
        refine wpAnyH_done (by kernel_rfl) ?_ _
        go_wp2
        go_meet
        case rel => exact ⟨b5, b6, C1, C2, p1, e1, p2, e2, rfl, rfl, ⟨HG186.out.2.2.2.2.2.2.2.2.2.1, HG186.out.2.2.2.2.2.2.2.2.2.2.2.2.2.2.2.2, (.inl HG186.out.2.2.2.2.2.2.2.2.2.2.1), (.inl HG186.out.2.2.2.2.2.2.2.2.2.2.2.1)⟩, ⟨HG186.out.1, HG186.out.2.1, HG186.out.2.2.1⟩, HG186.out.2.2.2.1, HG186.out.2.2.2.2.2.1, HG186.out.2.2.2.2.2.2.2.2.1, HG186.out.2.2.2.2.2.2.2.2.2.2.2.2.1⟩
    · go_simp
      obtain ⟨b6, hb6⟩ : ∃ b, b = (wd).heap.size := ⟨_, rfl⟩
      rw [← hb6]
      generalize hwg187 : World.alloc _ _ = wg187
      have bwg187 : Below (wd).heap.size (wd) wg187 := by rw [← hwg187]; exact (Below.refl _ _).alloc (Nat.le_refl _) _
      have rwg187 : RowAt wg187 b6 26 (#[.int .i64 0, .slice none 0 0, .slice none 0 0, .slice none 0 0]) := by rw [← hwg187, hb6]; exact RowAt.mk _ _ _
      have HG188 := Lib.hid (show Below w.heap.size w wg187 ∧ RowAt wg187 Z 26 #[.int .i64 res, .slice sT nT S.t.c, .slice sM nM S.m.c, .slice sE nE S.e.c] ∧ RowAt wg187 (Z + 1) 26 #[.int .i64 res', .slice sT' nT' S'.t.c, .slice sM' nM' S'.m.c, .slice sE' nE' S'.e.c] ∧ RowAt wg187 b6 26 (#[.int .i64 0, .slice none 0 0, .slice none 0 0, .slice none 0 0]) ∧ Z + 1 < b6 from ⟨(HG1.out.1.trans ((bwg187).mono HG1.out.1.size)), (HG1.out.2.1.new (bwg187)), (HG1.out.2.2.new (bwg187)), rwg187, (by have := HG1.out.2.2.lt; omega)⟩)
      clear hwg187 bwg187 rwg187 hb6
      refine hK.out _ _ ⟨HG188.out.1, HG188.out.2.1, HG188.out.2.2.1⟩ (fun hHeld => ?_)
      clear hK K
      try simp only [Act.put, List.setIfInBounds_toArray, List.set_cons_zero, List.set_cons_succ]
      refine wpAnyH_ready (rs := [1, 4]) (by kernel_rfl) (by simp) (AllReadyH.cons (o := { dst := some 18, op := .call { callee := .value (.func 16), args := #[.tmp 17], argTypes := #[26] }, type := 26, pos := "law.go:82", after := #[{ on := 0, ground := .data }], guard := none }) rfl (fun K hK => ?_) (AllReadyH.cons (o := { dst := some 5, op := .alloc 26, type := 0, pos := "law.go:82", after := #[], guard := none }) rfl (fun K hK => ?_) AllReadyH.nil))
      · go_simp
        go_at_call 16
        refine (HCp1.out _ HG188.out.1).mono ?_
        rintro e wg189 ⟨C1, rfl, k1, bc1⟩
        obtain ⟨p1, hp1⟩ : ∃ p, p = (wg187).heap.size := ⟨_, rfl⟩
        obtain ⟨e1, he1⟩ : ∃ p, p = wg189.heap.size := ⟨_, rfl⟩
        rw [← hp1, ← he1] at k1
        have HG190 := Lib.hid (show Below w.heap.size w wg189 ∧ RowAt wg189 Z 26 #[.int .i64 res, .slice sT nT S.t.c, .slice sM nM S.m.c, .slice sE nE S.e.c] ∧ RowAt wg189 (Z + 1) 26 #[.int .i64 res', .slice sT' nT' S'.t.c, .slice sM' nM' S'.m.c, .slice sE' nE' S'.e.c] ∧ RowAt wg189 b6 26 (#[.int .i64 0, .slice none 0 0, .slice none 0 0, .slice none 0 0]) ∧ Z + 1 < b6 ∧ CpR wg189 p1 e1 x C1 ∧ Z + 1 < p1 ∧ b6 < p1 from ⟨(HG188.out.1.trans ((bc1).mono HG188.out.1.size)), (HG188.out.2.1.new (bc1)), (HG188.out.2.2.1.new (bc1)), (HG188.out.2.2.2.1.new (bc1)), HG188.out.2.2.2.2, k1, (by have := HG188.out.2.2.1.lt; omega), (by have := HG188.out.2.2.2.1.lt; omega)⟩)
        clear hp1 he1 bc1 k1
        try dsimp only
        refine hK.out _ _ ⟨HG190.out.1, HG190.out.2.1, HG190.out.2.2.1⟩ (fun hHeld => ?_)
        clear hK K
        try simp only [Act.put, List.setIfInBounds_toArray, List.set_cons_zero, List.set_cons_succ]
        refine wpAnyH_ready (rs := [3, 4]) (by kernel_rfl) (by simp) (AllReadyH.cons (o := { dst := some 20, op := .call { callee := .value (.func 16), args := #[.tmp 19], argTypes := #[26] }, type := 26, pos := "law.go:82", after := #[{ on := 2, ground := .data }, { on := 1, ground := .chain }], guard := none }) rfl (fun K hK => ?_) (AllReadyH.cons (o := { dst := some 5, op := .alloc 26, type := 0, pos := "law.go:82", after := #[], guard := none }) rfl (fun K hK => ?_) AllReadyH.nil))
        · go_simp
          go_at_call 16
          refine (HCp1.out _ HG190.out.1).mono ?_
          rintro e wg191 ⟨C2, rfl, k2, bc2⟩
          obtain ⟨p2, hp2⟩ : ∃ p, p = (wg189).heap.size := ⟨_, rfl⟩
          obtain ⟨e2, he2⟩ : ∃ p, p = wg191.heap.size := ⟨_, rfl⟩
          rw [← hp2, ← he2] at k2
          have HG192 := Lib.hid (show Below w.heap.size w wg191 ∧ RowAt wg191 Z 26 #[.int .i64 res, .slice sT nT S.t.c, .slice sM nM S.m.c, .slice sE nE S.e.c] ∧ RowAt wg191 (Z + 1) 26 #[.int .i64 res', .slice sT' nT' S'.t.c, .slice sM' nM' S'.m.c, .slice sE' nE' S'.e.c] ∧ RowAt wg191 b6 26 (#[.int .i64 0, .slice none 0 0, .slice none 0 0, .slice none 0 0]) ∧ Z + 1 < b6 ∧ CpR wg191 p1 e1 x C1 ∧ Z + 1 < p1 ∧ b6 < p1 ∧ CpR wg191 p2 e2 x C2 ∧ Z + 1 < p2 ∧ b6 < p2 ∧ e1 ≤ p2 from ⟨(HG190.out.1.trans ((bc2).mono HG190.out.1.size)), (HG190.out.2.1.new (bc2)), (HG190.out.2.2.1.new (bc2)), (HG190.out.2.2.2.1.new (bc2)), HG190.out.2.2.2.2.1, (HG190.out.2.2.2.2.2.1.new (bc2)), HG190.out.2.2.2.2.2.2.1, HG190.out.2.2.2.2.2.2.2, k2, (by have := HG190.out.2.2.1.lt; omega), (by have := HG190.out.2.2.2.1.lt; omega), (by have := HG190.out.2.2.2.2.2.1.up; omega)⟩)
          clear hp2 he2 bc2 k2
          try dsimp only
          refine hK.out _ _ ⟨HG192.out.1, HG192.out.2.1, HG192.out.2.2.1⟩ (fun hHeld => ?_)
          clear hK K
          try simp only [Act.put, List.setIfInBounds_toArray, List.set_cons_zero, List.set_cons_succ]
          refine wpAnyH_ready (rs := [4]) (by kernel_rfl) (by simp) (AllReadyH.cons (o := { dst := some 5, op := .alloc 26, type := 0, pos := "law.go:82", after := #[], guard := none }) rfl (fun K hK => ?_) AllReadyH.nil)
          go_simp
          obtain ⟨b5, hb5⟩ : ∃ b, b = (wg191).heap.size := ⟨_, rfl⟩
          rw [← hb5]
          generalize hwg193 : World.alloc _ _ = wg193
          have bwg193 : Below (wg191).heap.size (wg191) wg193 := by rw [← hwg193]; exact (Below.refl _ _).alloc (Nat.le_refl _) _
          have rwg193 : RowAt wg193 b5 26 (#[.int .i64 0, .slice none 0 0, .slice none 0 0, .slice none 0 0]) := by rw [← hwg193, hb5]; exact RowAt.mk _ _ _
          have HG194 := Lib.hid (show Below w.heap.size w wg193 ∧ RowAt wg193 Z 26 #[.int .i64 res, .slice sT nT S.t.c, .slice sM nM S.m.c, .slice sE nE S.e.c] ∧ RowAt wg193 (Z + 1) 26 #[.int .i64 res', .slice sT' nT' S'.t.c, .slice sM' nM' S'.m.c, .slice sE' nE' S'.e.c] ∧ RowAt wg193 b6 26 (#[.int .i64 0, .slice none 0 0, .slice none 0 0, .slice none 0 0]) ∧ Z + 1 < b6 ∧ CpR wg193 p1 e1 x C1 ∧ Z + 1 < p1 ∧ b6 < p1 ∧ CpR wg193 p2 e2 x C2 ∧ Z + 1 < p2 ∧ b6 < p2 ∧ e1 ≤ p2 ∧ RowAt wg193 b5 26 (#[.int .i64 0, .slice none 0 0, .slice none 0 0, .slice none 0 0]) ∧ Z + 1 < b5 ∧ e1 ≤ b5 ∧ e2 ≤ b5 ∧ b5 ≠ b6 from ⟨(HG192.out.1.trans ((bwg193).mono HG192.out.1.size)), (HG192.out.2.1.new (bwg193)), (HG192.out.2.2.1.new (bwg193)), (HG192.out.2.2.2.1.new (bwg193)), HG192.out.2.2.2.2.1, (HG192.out.2.2.2.2.2.1.new (bwg193)), HG192.out.2.2.2.2.2.2.1, HG192.out.2.2.2.2.2.2.2.1, (HG192.out.2.2.2.2.2.2.2.2.1.new (bwg193)), HG192.out.2.2.2.2.2.2.2.2.2.1, HG192.out.2.2.2.2.2.2.2.2.2.2.1, HG192.out.2.2.2.2.2.2.2.2.2.2.2, rwg193, (by have := HG192.out.2.2.1.lt; omega), (by have := HG192.out.2.2.2.2.2.1.up; omega), (by have := HG192.out.2.2.2.2.2.2.2.2.1.up; omega), (by have := HG192.out.2.2.2.1.lt; omega)⟩)
          clear hwg193 bwg193 rwg193 hb5
          refine hK.out _ _ ⟨HG194.out.1, HG194.out.2.1, HG194.out.2.2.1⟩ (fun hHeld => ?_)
          clear hK K
          try simp only [Act.put, List.setIfInBounds_toArray, List.set_cons_zero, List.set_cons_succ]
          refine wpAnyH_ready (rs := [6]) (by kernel_rfl) (by simp) (AllReadyH.cons (o := { dst := none, op := .store 26 (.tmp 5) (.tmp 18), type := 0, pos := "law.go:82", after := #[{ on := 4, ground := .data }, { on := 1, ground := .data }, { on := 3, ground := .chain }, { on := 0, ground := .phase }, { on := 1, ground := .phase }, { on := 2, ground := .textOnly Go.Departure.lateStores }, { on := 3, ground := .textOnly Go.Departure.lateStoresUnsure }, { on := 4, ground := .phase }, { on := 5, ground := .phase }], guard := none }) rfl (fun K hK => ?_) AllReadyH.nil)
          rw [if_pos (by rfl)]
          refine wp_store_row 26 (.tmp 5) (.tmp 18) rfl b5 #[.int .i64 res, .slice C1.t.sp nT C1.t.c, .slice C1.m.sp nM C1.m.c, .slice C1.e.sp nE C1.e.c] rfl rfl 26 (#[.int .i64 0, .slice none 0 0, .slice none 0 0, .slice none 0 0]) HG194.out.2.2.2.2.2.2.2.2.2.2.2.2.1 (by kernel_rfl) (by rfl) (by simp [Value.oneCell']) ?_
          generalize hwg195 : World.setRow _ _ _ = wg195
          have HG196 := Lib.hid (show Below w.heap.size w wg195 ∧ RowAt wg195 Z 26 #[.int .i64 res, .slice sT nT S.t.c, .slice sM nM S.m.c, .slice sE nE S.e.c] ∧ RowAt wg195 (Z + 1) 26 #[.int .i64 res', .slice sT' nT' S'.t.c, .slice sM' nM' S'.m.c, .slice sE' nE' S'.e.c] ∧ RowAt wg195 b6 26 (#[.int .i64 0, .slice none 0 0, .slice none 0 0, .slice none 0 0]) ∧ Z + 1 < b6 ∧ CpR wg195 p1 e1 x C1 ∧ Z + 1 < p1 ∧ b6 < p1 ∧ CpR wg195 p2 e2 x C2 ∧ Z + 1 < p2 ∧ b6 < p2 ∧ e1 ≤ p2 ∧ RowAt wg195 b5 26 #[.int .i64 res, .slice C1.t.sp nT C1.t.c, .slice C1.m.sp nM C1.m.c, .slice C1.e.sp nE C1.e.c] ∧ Z + 1 < b5 ∧ e1 ≤ b5 ∧ e2 ≤ b5 ∧ b5 ≠ b6 by rw [← hwg195]; exact ⟨below_row HG194.out.1 (Nat.le_refl _) (by have := HG194.out.2.2.2.2.2.2.2.2.2.2.2.2.2.1; have := HZZ.out; omega) _, HG194.out.2.1.keep (ch_setRow _ _ _) (fun e => by have := HG194.out.2.2.2.2.2.2.2.2.2.2.2.2.2.1; omega), HG194.out.2.2.1.keep (ch_setRow _ _ _) (fun e => by have := HG194.out.2.2.2.2.2.2.2.2.2.2.2.2.2.1; omega), HG194.out.2.2.2.1.keep (ch_setRow _ _ _) (fun e => HG194.out.2.2.2.2.2.2.2.2.2.2.2.2.2.2.2.2 e.symm), HG194.out.2.2.2.2.1, HG194.out.2.2.2.2.2.1.keep (ch_setRow _ _ _) (fun j e h => by subst e; have := HG194.out.2.2.2.2.2.2.2.2.2.2.2.2.2.2.1; omega), HG194.out.2.2.2.2.2.2.1, HG194.out.2.2.2.2.2.2.2.1, HG194.out.2.2.2.2.2.2.2.2.1.keep (ch_setRow _ _ _) (fun j e h => by subst e; have := HG194.out.2.2.2.2.2.2.2.2.2.2.2.2.2.2.2.1; omega), HG194.out.2.2.2.2.2.2.2.2.2.1, HG194.out.2.2.2.2.2.2.2.2.2.2.1, HG194.out.2.2.2.2.2.2.2.2.2.2.2.1, HG194.out.2.2.2.2.2.2.2.2.2.2.2.2.1.put, HG194.out.2.2.2.2.2.2.2.2.2.2.2.2.2.1, HG194.out.2.2.2.2.2.2.2.2.2.2.2.2.2.2.1, HG194.out.2.2.2.2.2.2.2.2.2.2.2.2.2.2.2.1, HG194.out.2.2.2.2.2.2.2.2.2.2.2.2.2.2.2.2⟩)
          clear hwg195
          refine hK.out _ _ ⟨HG196.out.1, HG196.out.2.1, HG196.out.2.2.1⟩ (fun hHeld => ?_)
          clear hK K
          try simp only [Act.put]
          refine wpAnyH_ready (rs := [7]) (by kernel_rfl) (by simp) (AllReadyH.cons (o := { dst := none, op := .store 26 (.tmp 6) (.tmp 20), type := 0, pos := "law.go:82", after := #[{ on := 5, ground := .data }, { on := 3, ground := .data }, { on := 6, ground := .chain }, { on := 0, ground := .phase }, { on := 1, ground := .phase }, { on := 2, ground := .phase }, { on := 3, ground := .phase }, { on := 4, ground := .phase }, { on := 5, ground := .phase }, { on := 6, ground := .phase }], guard := none }) rfl (fun K hK => ?_) AllReadyH.nil)
          rw [if_pos (by rfl)]
          refine wp_store_row 26 (.tmp 6) (.tmp 20) rfl b6 #[.int .i64 res, .slice C2.t.sp nT C2.t.c, .slice C2.m.sp nM C2.m.c, .slice C2.e.sp nE C2.e.c] rfl rfl 26 (#[.int .i64 0, .slice none 0 0, .slice none 0 0, .slice none 0 0]) HG196.out.2.2.2.1 (by kernel_rfl) (by rfl) (by simp [Value.oneCell']) ?_
          generalize hwg197 : World.setRow _ _ _ = wg197
          have HG198 := Lib.hid (show Below w.heap.size w wg197 ∧ RowAt wg197 Z 26 #[.int .i64 res, .slice sT nT S.t.c, .slice sM nM S.m.c, .slice sE nE S.e.c] ∧ RowAt wg197 (Z + 1) 26 #[.int .i64 res', .slice sT' nT' S'.t.c, .slice sM' nM' S'.m.c, .slice sE' nE' S'.e.c] ∧ RowAt wg197 b6 26 #[.int .i64 res, .slice C2.t.sp nT C2.t.c, .slice C2.m.sp nM C2.m.c, .slice C2.e.sp nE C2.e.c] ∧ Z + 1 < b6 ∧ CpR wg197 p1 e1 x C1 ∧ Z + 1 < p1 ∧ b6 < p1 ∧ CpR wg197 p2 e2 x C2 ∧ Z + 1 < p2 ∧ b6 < p2 ∧ e1 ≤ p2 ∧ RowAt wg197 b5 26 #[.int .i64 res, .slice C1.t.sp nT C1.t.c, .slice C1.m.sp nM C1.m.c, .slice C1.e.sp nE C1.e.c] ∧ Z + 1 < b5 ∧ e1 ≤ b5 ∧ e2 ≤ b5 ∧ b5 ≠ b6 by rw [← hwg197]; exact ⟨below_row HG196.out.1 (Nat.le_refl _) (by have := HG196.out.2.2.2.2.1; have := HZZ.out; omega) _, HG196.out.2.1.keep (ch_setRow _ _ _) (fun e => by have := HG196.out.2.2.2.2.1; omega), HG196.out.2.2.1.keep (ch_setRow _ _ _) (fun e => by have := HG196.out.2.2.2.2.1; omega), HG196.out.2.2.2.1.put, HG196.out.2.2.2.2.1, HG196.out.2.2.2.2.2.1.keep (ch_setRow _ _ _) (fun j e h => by subst e; have := HG196.out.2.2.2.2.2.2.2.1; omega), HG196.out.2.2.2.2.2.2.1, HG196.out.2.2.2.2.2.2.2.1, HG196.out.2.2.2.2.2.2.2.2.1.keep (ch_setRow _ _ _) (fun j e h => by subst e; have := HG196.out.2.2.2.2.2.2.2.2.2.2.1; omega), HG196.out.2.2.2.2.2.2.2.2.2.1, HG196.out.2.2.2.2.2.2.2.2.2.2.1, HG196.out.2.2.2.2.2.2.2.2.2.2.2.1, HG196.out.2.2.2.2.2.2.2.2.2.2.2.2.1.keep (ch_setRow _ _ _) (fun e => HG196.out.2.2.2.2.2.2.2.2.2.2.2.2.2.2.2.2 e), HG196.out.2.2.2.2.2.2.2.2.2.2.2.2.2.1, HG196.out.2.2.2.2.2.2.2.2.2.2.2.2.2.2.1, HG196.out.2.2.2.2.2.2.2.2.2.2.2.2.2.2.2.1, HG196.out.2.2.2.2.2.2.2.2.2.2.2.2.2.2.2.2⟩)
          clear hwg197
          refine hK.out _ _ ⟨HG198.out.1, HG198.out.2.1, HG198.out.2.2.1⟩ (fun hHeld => ?_)
          clear hK K
          try simp only [Act.put]
          refine wpAnyH_done (by kernel_rfl) ?_ _
          go_wp2
          go_meet
          case rel => exact ⟨b5, b6, C1, C2, p1, e1, p2, e2, rfl, rfl, ⟨HG198.out.2.2.2.2.2.2.1, HG198.out.2.2.2.2.2.2.2.2.2.2.2.1, (.inr HG198.out.2.2.2.2.2.2.2.2.2.2.2.2.2.2.1), (.inl HG198.out.2.2.2.2.2.2.2.1)⟩, ⟨HG198.out.1, HG198.out.2.1, HG198.out.2.2.1⟩, HG198.out.2.2.2.2.2.2.2.2.2.2.2.2.1, HG198.out.2.2.2.1, HG198.out.2.2.2.2.2.1, HG198.out.2.2.2.2.2.2.2.2.1⟩
        · go_simp
          obtain ⟨b5, hb5⟩ : ∃ b, b = (wg189).heap.size := ⟨_, rfl⟩
          rw [← hb5]
          generalize hwg199 : World.alloc _ _ = wg199
          have bwg199 : Below (wg189).heap.size (wg189) wg199 := by rw [← hwg199]; exact (Below.refl _ _).alloc (Nat.le_refl _) _
          have rwg199 : RowAt wg199 b5 26 (#[.int .i64 0, .slice none 0 0, .slice none 0 0, .slice none 0 0]) := by rw [← hwg199, hb5]; exact RowAt.mk _ _ _
          have HG200 := Lib.hid (show Below w.heap.size w wg199 ∧ RowAt wg199 Z 26 #[.int .i64 res, .slice sT nT S.t.c, .slice sM nM S.m.c, .slice sE nE S.e.c] ∧ RowAt wg199 (Z + 1) 26 #[.int .i64 res', .slice sT' nT' S'.t.c, .slice sM' nM' S'.m.c, .slice sE' nE' S'.e.c] ∧ RowAt wg199 b6 26 (#[.int .i64 0, .slice none 0 0, .slice none 0 0, .slice none 0 0]) ∧ Z + 1 < b6 ∧ CpR wg199 p1 e1 x C1 ∧ Z + 1 < p1 ∧ b6 < p1 ∧ RowAt wg199 b5 26 (#[.int .i64 0, .slice none 0 0, .slice none 0 0, .slice none 0 0]) ∧ Z + 1 < b5 ∧ e1 ≤ b5 ∧ b5 ≠ b6 from ⟨(HG190.out.1.trans ((bwg199).mono HG190.out.1.size)), (HG190.out.2.1.new (bwg199)), (HG190.out.2.2.1.new (bwg199)), (HG190.out.2.2.2.1.new (bwg199)), HG190.out.2.2.2.2.1, (HG190.out.2.2.2.2.2.1.new (bwg199)), HG190.out.2.2.2.2.2.2.1, HG190.out.2.2.2.2.2.2.2, rwg199, (by have := HG190.out.2.2.1.lt; omega), (by have := HG190.out.2.2.2.2.2.1.up; omega), (by have := HG190.out.2.2.2.1.lt; omega)⟩)
          clear hwg199 bwg199 rwg199 hb5
          refine hK.out _ _ ⟨HG200.out.1, HG200.out.2.1, HG200.out.2.2.1⟩ (fun hHeld => ?_)
          clear hK K
          try simp only [Act.put, List.setIfInBounds_toArray, List.set_cons_zero, List.set_cons_succ]
          refine wpAnyH_ready (rs := [3]) (by kernel_rfl) (by simp) (AllReadyH.cons (o := { dst := some 20, op := .call { callee := .value (.func 16), args := #[.tmp 19], argTypes := #[26] }, type := 26, pos := "law.go:82", after := #[{ on := 2, ground := .data }, { on := 1, ground := .chain }], guard := none }) rfl (fun K hK => ?_) AllReadyH.nil)
          go_simp
          go_at_call 16
          refine (HCp1.out _ HG200.out.1).mono ?_
          rintro e wg201 ⟨C2, rfl, k2, bc2⟩
          obtain ⟨p2, hp2⟩ : ∃ p, p = (wg199).heap.size := ⟨_, rfl⟩
          obtain ⟨e2, he2⟩ : ∃ p, p = wg201.heap.size := ⟨_, rfl⟩
          rw [← hp2, ← he2] at k2
          have HG202 := Lib.hid (show Below w.heap.size w wg201 ∧ RowAt wg201 Z 26 #[.int .i64 res, .slice sT nT S.t.c, .slice sM nM S.m.c, .slice sE nE S.e.c] ∧ RowAt wg201 (Z + 1) 26 #[.int .i64 res', .slice sT' nT' S'.t.c, .slice sM' nM' S'.m.c, .slice sE' nE' S'.e.c] ∧ RowAt wg201 b6 26 (#[.int .i64 0, .slice none 0 0, .slice none 0 0, .slice none 0 0]) ∧ Z + 1 < b6 ∧ CpR wg201 p1 e1 x C1 ∧ Z + 1 < p1 ∧ b6 < p1 ∧ RowAt wg201 b5 26 (#[.int .i64 0, .slice none 0 0, .slice none 0 0, .slice none 0 0]) ∧ Z + 1 < b5 ∧ e1 ≤ b5 ∧ b5 ≠ b6 ∧ CpR wg201 p2 e2 x C2 ∧ Z + 1 < p2 ∧ b5 < p2 ∧ b6 < p2 ∧ e1 ≤ p2 from ⟨(HG200.out.1.trans ((bc2).mono HG200.out.1.size)), (HG200.out.2.1.new (bc2)), (HG200.out.2.2.1.new (bc2)), (HG200.out.2.2.2.1.new (bc2)), HG200.out.2.2.2.2.1, (HG200.out.2.2.2.2.2.1.new (bc2)), HG200.out.2.2.2.2.2.2.1, HG200.out.2.2.2.2.2.2.2.1, (HG200.out.2.2.2.2.2.2.2.2.1.new (bc2)), HG200.out.2.2.2.2.2.2.2.2.2.1, HG200.out.2.2.2.2.2.2.2.2.2.2.1, HG200.out.2.2.2.2.2.2.2.2.2.2.2, k2, (by have := HG200.out.2.2.1.lt; omega), (by have := HG200.out.2.2.2.2.2.2.2.2.1.lt; omega), (by have := HG200.out.2.2.2.1.lt; omega), (by have := HG200.out.2.2.2.2.2.1.up; omega)⟩)
          clear hp2 he2 bc2 k2
          try dsimp only
          refine hK.out _ _ ⟨HG202.out.1, HG202.out.2.1, HG202.out.2.2.1⟩ (fun hHeld => ?_)
          clear hK K
          try simp only [Act.put, List.setIfInBounds_toArray, List.set_cons_zero, List.set_cons_succ]
          refine wpAnyH_ready (rs := [6]) (by kernel_rfl) (by simp) (AllReadyH.cons (o := { dst := none, op := .store 26 (.tmp 5) (.tmp 18), type := 0, pos := "law.go:82", after := #[{ on := 4, ground := .data }, { on := 1, ground := .data }, { on := 3, ground := .chain }, { on := 0, ground := .phase }, { on := 1, ground := .phase }, { on := 2, ground := .textOnly Go.Departure.lateStores }, { on := 3, ground := .textOnly Go.Departure.lateStoresUnsure }, { on := 4, ground := .phase }, { on := 5, ground := .phase }], guard := none }) rfl (fun K hK => ?_) AllReadyH.nil)
          rw [if_pos (by rfl)]
          refine wp_store_row 26 (.tmp 5) (.tmp 18) rfl b5 #[.int .i64 res, .slice C1.t.sp nT C1.t.c, .slice C1.m.sp nM C1.m.c, .slice C1.e.sp nE C1.e.c] rfl rfl 26 (#[.int .i64 0, .slice none 0 0, .slice none 0 0, .slice none 0 0]) HG202.out.2.2.2.2.2.2.2.2.1 (by kernel_rfl) (by rfl) (by simp [Value.oneCell']) ?_
          generalize hwg203 : World.setRow _ _ _ = wg203
          have HG204 := Lib.hid (show Below w.heap.size w wg203 ∧ RowAt wg203 Z 26 #[.int .i64 res, .slice sT nT S.t.c, .slice sM nM S.m.c, .slice sE nE S.e.c] ∧ RowAt wg203 (Z + 1) 26 #[.int .i64 res', .slice sT' nT' S'.t.c, .slice sM' nM' S'.m.c, .slice sE' nE' S'.e.c] ∧ RowAt wg203 b6 26 (#[.int .i64 0, .slice none 0 0, .slice none 0 0, .slice none 0 0]) ∧ Z + 1 < b6 ∧ CpR wg203 p1 e1 x C1 ∧ Z + 1 < p1 ∧ b6 < p1 ∧ RowAt wg203 b5 26 #[.int .i64 res, .slice C1.t.sp nT C1.t.c, .slice C1.m.sp nM C1.m.c, .slice C1.e.sp nE C1.e.c] ∧ Z + 1 < b5 ∧ e1 ≤ b5 ∧ b5 ≠ b6 ∧ CpR wg203 p2 e2 x C2 ∧ Z + 1 < p2 ∧ b5 < p2 ∧ b6 < p2 ∧ e1 ≤ p2 by rw [← hwg203]; exact ⟨below_row HG202.out.1 (Nat.le_refl _) (by have := HG202.out.2.2.2.2.2.2.2.2.2.1; have := HZZ.out; omega) _, HG202.out.2.1.keep (ch_setRow _ _ _) (fun e => by have := HG202.out.2.2.2.2.2.2.2.2.2.1; omega), HG202.out.2.2.1.keep (ch_setRow _ _ _) (fun e => by have := HG202.out.2.2.2.2.2.2.2.2.2.1; omega), HG202.out.2.2.2.1.keep (ch_setRow _ _ _) (fun e => HG202.out.2.2.2.2.2.2.2.2.2.2.2.1 e.symm), HG202.out.2.2.2.2.1, HG202.out.2.2.2.2.2.1.keep (ch_setRow _ _ _) (fun j e h => by subst e; have := HG202.out.2.2.2.2.2.2.2.2.2.2.1; omega), HG202.out.2.2.2.2.2.2.1, HG202.out.2.2.2.2.2.2.2.1, HG202.out.2.2.2.2.2.2.2.2.1.put, HG202.out.2.2.2.2.2.2.2.2.2.1, HG202.out.2.2.2.2.2.2.2.2.2.2.1, HG202.out.2.2.2.2.2.2.2.2.2.2.2.1, HG202.out.2.2.2.2.2.2.2.2.2.2.2.2.1.keep (ch_setRow _ _ _) (fun j e h => by subst e; have := HG202.out.2.2.2.2.2.2.2.2.2.2.2.2.2.2.1; omega), HG202.out.2.2.2.2.2.2.2.2.2.2.2.2.2.1, HG202.out.2.2.2.2.2.2.2.2.2.2.2.2.2.2.1, HG202.out.2.2.2.2.2.2.2.2.2.2.2.2.2.2.2.1, HG202.out.2.2.2.2.2.2.2.2.2.2.2.2.2.2.2.2⟩)
          clear hwg203
          refine hK.out _ _ ⟨HG204.out.1, HG204.out.2.1, HG204.out.2.2.1⟩ (fun hHeld => ?_)
          clear hK K
          try simp only [Act.put]
          refine wpAnyH_ready (rs := [7]) (by kernel_rfl) (by simp) (AllReadyH.cons (o := { dst := none, op := .store 26 (.tmp 6) (.tmp 20), type := 0, pos := "law.go:82", after := #[{ on := 5, ground := .data }, { on := 3, ground := .data }, { on := 6, ground := .chain }, { on := 0, ground := .phase }, { on := 1, ground := .phase }, { on := 2, ground := .phase }, { on := 3, ground := .phase }, { on := 4, ground := .phase }, { on := 5, ground := .phase }, { on := 6, ground := .phase }], guard := none }) rfl (fun K hK => ?_) AllReadyH.nil)
          rw [if_pos (by rfl)]
          refine wp_store_row 26 (.tmp 6) (.tmp 20) rfl b6 #[.int .i64 res, .slice C2.t.sp nT C2.t.c, .slice C2.m.sp nM C2.m.c, .slice C2.e.sp nE C2.e.c] rfl rfl 26 (#[.int .i64 0, .slice none 0 0, .slice none 0 0, .slice none 0 0]) HG204.out.2.2.2.1 (by kernel_rfl) (by rfl) (by simp [Value.oneCell']) ?_
          generalize hwg205 : World.setRow _ _ _ = wg205
          have HG206 := Lib.hid (show Below w.heap.size w wg205 ∧ RowAt wg205 Z 26 #[.int .i64 res, .slice sT nT S.t.c, .slice sM nM S.m.c, .slice sE nE S.e.c] ∧ RowAt wg205 (Z + 1) 26 #[.int .i64 res', .slice sT' nT' S'.t.c, .slice sM' nM' S'.m.c, .slice sE' nE' S'.e.c] ∧ RowAt wg205 b6 26 #[.int .i64 res, .slice C2.t.sp nT C2.t.c, .slice C2.m.sp nM C2.m.c, .slice C2.e.sp nE C2.e.c] ∧ Z + 1 < b6 ∧ CpR wg205 p1 e1 x C1 ∧ Z + 1 < p1 ∧ b6 < p1 ∧ RowAt wg205 b5 26 #[.int .i64 res, .slice C1.t.sp nT C1.t.c, .slice C1.m.sp nM C1.m.c, .slice C1.e.sp nE C1.e.c] ∧ Z + 1 < b5 ∧ e1 ≤ b5 ∧ b5 ≠ b6 ∧ CpR wg205 p2 e2 x C2 ∧ Z + 1 < p2 ∧ b5 < p2 ∧ b6 < p2 ∧ e1 ≤ p2 by rw [← hwg205]; exact ⟨below_row HG204.out.1 (Nat.le_refl _) (by have := HG204.out.2.2.2.2.1; have := HZZ.out; omega) _, HG204.out.2.1.keep (ch_setRow _ _ _) (fun e => by have := HG204.out.2.2.2.2.1; omega), HG204.out.2.2.1.keep (ch_setRow _ _ _) (fun e => by have := HG204.out.2.2.2.2.1; omega), HG204.out.2.2.2.1.put, HG204.out.2.2.2.2.1, HG204.out.2.2.2.2.2.1.keep (ch_setRow _ _ _) (fun j e h => by subst e; have := HG204.out.2.2.2.2.2.2.2.1; omega), HG204.out.2.2.2.2.2.2.1, HG204.out.2.2.2.2.2.2.2.1, HG204.out.2.2.2.2.2.2.2.2.1.keep (ch_setRow _ _ _) (fun e => HG204.out.2.2.2.2.2.2.2.2.2.2.2.1 e), HG204.out.2.2.2.2.2.2.2.2.2.1, HG204.out.2.2.2.2.2.2.2.2.2.2.1, HG204.out.2.2.2.2.2.2.2.2.2.2.2.1, HG204.out.2.2.2.2.2.2.2.2.2.2.2.2.1.keep (ch_setRow _ _ _) (fun j e h => by subst e; have := HG204.out.2.2.2.2.2.2.2.2.2.2.2.2.2.2.2.1; omega), HG204.out.2.2.2.2.2.2.2.2.2.2.2.2.2.1, HG204.out.2.2.2.2.2.2.2.2.2.2.2.2.2.2.1, HG204.out.2.2.2.2.2.2.2.2.2.2.2.2.2.2.2.1, HG204.out.2.2.2.2.2.2.2.2.2.2.2.2.2.2.2.2⟩)
          clear hwg205
          refine hK.out _ _ ⟨HG206.out.1, HG206.out.2.1, HG206.out.2.2.1⟩ (fun hHeld => ?_)
          clear hK K
          try simp only [Act.put]
          refine wpAnyH_done (by kernel_rfl) ?_ _
          go_wp2
          go_meet
          case rel => exact ⟨b5, b6, C1, C2, p1, e1, p2, e2, rfl, rfl, ⟨HG206.out.2.2.2.2.2.2.1, HG206.out.2.2.2.2.2.2.2.2.2.2.2.2.2.2.2.2, (.inr HG206.out.2.2.2.2.2.2.2.2.2.2.1), (.inl HG206.out.2.2.2.2.2.2.2.1)⟩, ⟨HG206.out.1, HG206.out.2.1, HG206.out.2.2.1⟩, HG206.out.2.2.2.2.2.2.2.2.1, HG206.out.2.2.2.1, HG206.out.2.2.2.2.2.1, HG206.out.2.2.2.2.2.2.2.2.2.2.2.2.1⟩
      · go_simp
        obtain ⟨b5, hb5⟩ : ∃ b, b = (wg187).heap.size := ⟨_, rfl⟩
        rw [← hb5]
        generalize hwg207 : World.alloc _ _ = wg207
        have bwg207 : Below (wg187).heap.size (wg187) wg207 := by rw [← hwg207]; exact (Below.refl _ _).alloc (Nat.le_refl _) _
        have rwg207 : RowAt wg207 b5 26 (#[.int .i64 0, .slice none 0 0, .slice none 0 0, .slice none 0 0]) := by rw [← hwg207, hb5]; exact RowAt.mk _ _ _
        have HG208 := Lib.hid (show Below w.heap.size w wg207 ∧ RowAt wg207 Z 26 #[.int .i64 res, .slice sT nT S.t.c, .slice sM nM S.m.c, .slice sE nE S.e.c] ∧ RowAt wg207 (Z + 1) 26 #[.int .i64 res', .slice sT' nT' S'.t.c, .slice sM' nM' S'.m.c, .slice sE' nE' S'.e.c] ∧ RowAt wg207 b6 26 (#[.int .i64 0, .slice none 0 0, .slice none 0 0, .slice none 0 0]) ∧ Z + 1 < b6 ∧ RowAt wg207 b5 26 (#[.int .i64 0, .slice none 0 0, .slice none 0 0, .slice none 0 0]) ∧ Z + 1 < b5 ∧ b5 ≠ b6 from ⟨(HG188.out.1.trans ((bwg207).mono HG188.out.1.size)), (HG188.out.2.1.new (bwg207)), (HG188.out.2.2.1.new (bwg207)), (HG188.out.2.2.2.1.new (bwg207)), HG188.out.2.2.2.2, rwg207, (by have := HG188.out.2.2.1.lt; omega), (by have := HG188.out.2.2.2.1.lt; omega)⟩)
        clear hwg207 bwg207 rwg207 hb5
        refine hK.out _ _ ⟨HG208.out.1, HG208.out.2.1, HG208.out.2.2.1⟩ (fun hHeld => ?_)
        clear hK K
        try simp only [Act.put, List.setIfInBounds_toArray, List.set_cons_zero, List.set_cons_succ]
        refine wpAnyH_ready (rs := [1]) (by kernel_rfl) (by simp) (AllReadyH.cons (o := { dst := some 18, op := .call { callee := .value (.func 16), args := #[.tmp 17], argTypes := #[26] }, type := 26, pos := "law.go:82", after := #[{ on := 0, ground := .data }], guard := none }) rfl (fun K hK => ?_) AllReadyH.nil)
        go_simp
        go_at_call 16
        refine (HCp1.out _ HG208.out.1).mono ?_
        rintro e wg209 ⟨C1, rfl, k1, bc1⟩
        obtain ⟨p1, hp1⟩ : ∃ p, p = (wg207).heap.size := ⟨_, rfl⟩
        obtain ⟨e1, he1⟩ : ∃ p, p = wg209.heap.size := ⟨_, rfl⟩
        rw [← hp1, ← he1] at k1
        have HG210 := Lib.hid (show Below w.heap.size w wg209 ∧ RowAt wg209 Z 26 #[.int .i64 res, .slice sT nT S.t.c, .slice sM nM S.m.c, .slice sE nE S.e.c] ∧ RowAt wg209 (Z + 1) 26 #[.int .i64 res', .slice sT' nT' S'.t.c, .slice sM' nM' S'.m.c, .slice sE' nE' S'.e.c] ∧ RowAt wg209 b6 26 (#[.int .i64 0, .slice none 0 0, .slice none 0 0, .slice none 0 0]) ∧ Z + 1 < b6 ∧ RowAt wg209 b5 26 (#[.int .i64 0, .slice none 0 0, .slice none 0 0, .slice none 0 0]) ∧ Z + 1 < b5 ∧ b5 ≠ b6 ∧ CpR wg209 p1 e1 x C1 ∧ Z + 1 < p1 ∧ b5 < p1 ∧ b6 < p1 from ⟨(HG208.out.1.trans ((bc1).mono HG208.out.1.size)), (HG208.out.2.1.new (bc1)), (HG208.out.2.2.1.new (bc1)), (HG208.out.2.2.2.1.new (bc1)), HG208.out.2.2.2.2.1, (HG208.out.2.2.2.2.2.1.new (bc1)), HG208.out.2.2.2.2.2.2.1, HG208.out.2.2.2.2.2.2.2, k1, (by have := HG208.out.2.2.1.lt; omega), (by have := HG208.out.2.2.2.2.2.1.lt; omega), (by have := HG208.out.2.2.2.1.lt; omega)⟩)
        clear hp1 he1 bc1 k1
        try dsimp only
        refine hK.out _ _ ⟨HG210.out.1, HG210.out.2.1, HG210.out.2.2.1⟩ (fun hHeld => ?_)
        clear hK K
        try simp only [Act.put, List.setIfInBounds_toArray, List.set_cons_zero, List.set_cons_succ]
        refine wpAnyH_ready (rs := [3]) (by kernel_rfl) (by simp) (AllReadyH.cons (o := { dst := some 20, op := .call { callee := .value (.func 16), args := #[.tmp 19], argTypes := #[26] }, type := 26, pos := "law.go:82", after := #[{ on := 2, ground := .data }, { on := 1, ground := .chain }], guard := none }) rfl (fun K hK => ?_) AllReadyH.nil)
        go_simp
        go_at_call 16
        refine (HCp1.out _ HG210.out.1).mono ?_
        rintro e wg211 ⟨C2, rfl, k2, bc2⟩
        obtain ⟨p2, hp2⟩ : ∃ p, p = (wg209).heap.size := ⟨_, rfl⟩
        obtain ⟨e2, he2⟩ : ∃ p, p = wg211.heap.size := ⟨_, rfl⟩
        rw [← hp2, ← he2] at k2
        have HG212 := Lib.hid (show Below w.heap.size w wg211 ∧ RowAt wg211 Z 26 #[.int .i64 res, .slice sT nT S.t.c, .slice sM nM S.m.c, .slice sE nE S.e.c] ∧ RowAt wg211 (Z + 1) 26 #[.int .i64 res', .slice sT' nT' S'.t.c, .slice sM' nM' S'.m.c, .slice sE' nE' S'.e.c] ∧ RowAt wg211 b6 26 (#[.int .i64 0, .slice none 0 0, .slice none 0 0, .slice none 0 0]) ∧ Z + 1 < b6 ∧ RowAt wg211 b5 26 (#[.int .i64 0, .slice none 0 0, .slice none 0 0, .slice none 0 0]) ∧ Z + 1 < b5 ∧ b5 ≠ b6 ∧ CpR wg211 p1 e1 x C1 ∧ Z + 1 < p1 ∧ b5 < p1 ∧ b6 < p1 ∧ CpR wg211 p2 e2 x C2 ∧ Z + 1 < p2 ∧ b5 < p2 ∧ b6 < p2 ∧ e1 ≤ p2 from ⟨(HG210.out.1.trans ((bc2).mono HG210.out.1.size)), (HG210.out.2.1.new (bc2)), (HG210.out.2.2.1.new (bc2)), (HG210.out.2.2.2.1.new (bc2)), HG210.out.2.2.2.2.1, (HG210.out.2.2.2.2.2.1.new (bc2)), HG210.out.2.2.2.2.2.2.1, HG210.out.2.2.2.2.2.2.2.1, (HG210.out.2.2.2.2.2.2.2.2.1.new (bc2)), HG210.out.2.2.2.2.2.2.2.2.2.1, HG210.out.2.2.2.2.2.2.2.2.2.2.1, HG210.out.2.2.2.2.2.2.2.2.2.2.2, k2, (by have := HG210.out.2.2.1.lt; omega), (by have := HG210.out.2.2.2.2.2.1.lt; omega), (by have := HG210.out.2.2.2.1.lt; omega), (by have := HG210.out.2.2.2.2.2.2.2.2.1.up; omega)⟩)
        clear hp2 he2 bc2 k2
        try dsimp only
        refine hK.out _ _ ⟨HG212.out.1, HG212.out.2.1, HG212.out.2.2.1⟩ (fun hHeld => ?_)
        clear hK K
        try simp only [Act.put, List.setIfInBounds_toArray, List.set_cons_zero, List.set_cons_succ]
        refine wpAnyH_ready (rs := [6]) (by kernel_rfl) (by simp) (AllReadyH.cons (o := { dst := none, op := .store 26 (.tmp 5) (.tmp 18), type := 0, pos := "law.go:82", after := #[{ on := 4, ground := .data }, { on := 1, ground := .data }, { on := 3, ground := .chain }, { on := 0, ground := .phase }, { on := 1, ground := .phase }, { on := 2, ground := .textOnly Go.Departure.lateStores }, { on := 3, ground := .textOnly Go.Departure.lateStoresUnsure }, { on := 4, ground := .phase }, { on := 5, ground := .phase }], guard := none }) rfl (fun K hK => ?_) AllReadyH.nil)
        rw [if_pos (by rfl)]
        refine wp_store_row 26 (.tmp 5) (.tmp 18) rfl b5 #[.int .i64 res, .slice C1.t.sp nT C1.t.c, .slice C1.m.sp nM C1.m.c, .slice C1.e.sp nE C1.e.c] rfl rfl 26 (#[.int .i64 0, .slice none 0 0, .slice none 0 0, .slice none 0 0]) HG212.out.2.2.2.2.2.1 (by kernel_rfl) (by rfl) (by simp [Value.oneCell']) ?_
        generalize hwg213 : World.setRow _ _ _ = wg213
        have HG214 := Lib.hid (show Below w.heap.size w wg213 ∧ RowAt wg213 Z 26 #[.int .i64 res, .slice sT nT S.t.c, .slice sM nM S.m.c, .slice sE nE S.e.c] ∧ RowAt wg213 (Z + 1) 26 #[.int .i64 res', .slice sT' nT' S'.t.c, .slice sM' nM' S'.m.c, .slice sE' nE' S'.e.c] ∧ RowAt wg213 b6 26 (#[.int .i64 0, .slice none 0 0, .slice none 0 0, .slice none 0 0]) ∧ Z + 1 < b6 ∧ RowAt wg213 b5 26 #[.int .i64 res, .slice C1.t.sp nT C1.t.c, .slice C1.m.sp nM C1.m.c, .slice C1.e.sp nE C1.e.c] ∧ Z + 1 < b5 ∧ b5 ≠ b6 ∧ CpR wg213 p1 e1 x C1 ∧ Z + 1 < p1 ∧ b5 < p1 ∧ b6 < p1 ∧ CpR wg213 p2 e2 x C2 ∧ Z + 1 < p2 ∧ b5 < p2 ∧ b6 < p2 ∧ e1 ≤ p2 by rw [← hwg213]; exact ⟨below_row HG212.out.1 (Nat.le_refl _) (by have := HG212.out.2.2.2.2.2.2.1; have := HZZ.out; omega) _, HG212.out.2.1.keep (ch_setRow _ _ _) (fun e => by have := HG212.out.2.2.2.2.2.2.1; omega), HG212.out.2.2.1.keep (ch_setRow _ _ _) (fun e => by have := HG212.out.2.2.2.2.2.2.1; omega), HG212.out.2.2.2.1.keep (ch_setRow _ _ _) (fun e => HG212.out.2.2.2.2.2.2.2.1 e.symm), HG212.out.2.2.2.2.1, HG212.out.2.2.2.2.2.1.put, HG212.out.2.2.2.2.2.2.1, HG212.out.2.2.2.2.2.2.2.1, HG212.out.2.2.2.2.2.2.2.2.1.keep (ch_setRow _ _ _) (fun j e h => by subst e; have := HG212.out.2.2.2.2.2.2.2.2.2.2.1; omega), HG212.out.2.2.2.2.2.2.2.2.2.1, HG212.out.2.2.2.2.2.2.2.2.2.2.1, HG212.out.2.2.2.2.2.2.2.2.2.2.2.1, HG212.out.2.2.2.2.2.2.2.2.2.2.2.2.1.keep (ch_setRow _ _ _) (fun j e h => by subst e; have := HG212.out.2.2.2.2.2.2.2.2.2.2.2.2.2.2.1; omega), HG212.out.2.2.2.2.2.2.2.2.2.2.2.2.2.1, HG212.out.2.2.2.2.2.2.2.2.2.2.2.2.2.2.1, HG212.out.2.2.2.2.2.2.2.2.2.2.2.2.2.2.2.1, HG212.out.2.2.2.2.2.2.2.2.2.2.2.2.2.2.2.2⟩)
        clear hwg213
        refine hK.out _ _ ⟨HG214.out.1, HG214.out.2.1, HG214.out.2.2.1⟩ (fun hHeld => ?_)
        clear hK K
        try simp only [Act.put]
        refine wpAnyH_ready (rs := [7]) (by kernel_rfl) (by simp) (AllReadyH.cons (o := { dst := none, op := .store 26 (.tmp 6) (.tmp 20), type := 0, pos := "law.go:82", after := #[{ on := 5, ground := .data }, { on := 3, ground := .data }, { on := 6, ground := .chain }, { on := 0, ground := .phase }, { on := 1, ground := .phase }, { on := 2, ground := .phase }, { on := 3, ground := .phase }, { on := 4, ground := .phase }, { on := 5, ground := .phase }, { on := 6, ground := .phase }], guard := none }) rfl (fun K hK => ?_) AllReadyH.nil)
        rw [if_pos (by rfl)]
        refine wp_store_row 26 (.tmp 6) (.tmp 20) rfl b6 #[.int .i64 res, .slice C2.t.sp nT C2.t.c, .slice C2.m.sp nM C2.m.c, .slice C2.e.sp nE C2.e.c] rfl rfl 26 (#[.int .i64 0, .slice none 0 0, .slice none 0 0, .slice none 0 0]) HG214.out.2.2.2.1 (by kernel_rfl) (by rfl) (by simp [Value.oneCell']) ?_
        generalize hwg215 : World.setRow _ _ _ = wg215
        have HG216 := Lib.hid (show Below w.heap.size w wg215 ∧ RowAt wg215 Z 26 #[.int .i64 res, .slice sT nT S.t.c, .slice sM nM S.m.c, .slice sE nE S.e.c] ∧ RowAt wg215 (Z + 1) 26 #[.int .i64 res', .slice sT' nT' S'.t.c, .slice sM' nM' S'.m.c, .slice sE' nE' S'.e.c] ∧ RowAt wg215 b6 26 #[.int .i64 res, .slice C2.t.sp nT C2.t.c, .slice C2.m.sp nM C2.m.c, .slice C2.e.sp nE C2.e.c] ∧ Z + 1 < b6 ∧ RowAt wg215 b5 26 #[.int .i64 res, .slice C1.t.sp nT C1.t.c, .slice C1.m.sp nM C1.m.c, .slice C1.e.sp nE C1.e.c] ∧ Z + 1 < b5 ∧ b5 ≠ b6 ∧ CpR wg215 p1 e1 x C1 ∧ Z + 1 < p1 ∧ b5 < p1 ∧ b6 < p1 ∧ CpR wg215 p2 e2 x C2 ∧ Z + 1 < p2 ∧ b5 < p2 ∧ b6 < p2 ∧ e1 ≤ p2 by rw [← hwg215]; exact ⟨below_row HG214.out.1 (Nat.le_refl _) (by have := HG214.out.2.2.2.2.1; have := HZZ.out; omega) _, HG214.out.2.1.keep (ch_setRow _ _ _) (fun e => by have := HG214.out.2.2.2.2.1; omega), HG214.out.2.2.1.keep (ch_setRow _ _ _) (fun e => by have := HG214.out.2.2.2.2.1; omega), HG214.out.2.2.2.1.put, HG214.out.2.2.2.2.1, HG214.out.2.2.2.2.2.1.keep (ch_setRow _ _ _) (fun e => HG214.out.2.2.2.2.2.2.2.1 e), HG214.out.2.2.2.2.2.2.1, HG214.out.2.2.2.2.2.2.2.1, HG214.out.2.2.2.2.2.2.2.2.1.keep (ch_setRow _ _ _) (fun j e h => by subst e; have := HG214.out.2.2.2.2.2.2.2.2.2.2.2.1; omega), HG214.out.2.2.2.2.2.2.2.2.2.1, HG214.out.2.2.2.2.2.2.2.2.2.2.1, HG214.out.2.2.2.2.2.2.2.2.2.2.2.1, HG214.out.2.2.2.2.2.2.2.2.2.2.2.2.1.keep (ch_setRow _ _ _) (fun j e h => by subst e; have := HG214.out.2.2.2.2.2.2.2.2.2.2.2.2.2.2.2.1; omega), HG214.out.2.2.2.2.2.2.2.2.2.2.2.2.2.1, HG214.out.2.2.2.2.2.2.2.2.2.2.2.2.2.2.1, HG214.out.2.2.2.2.2.2.2.2.2.2.2.2.2.2.2.1, HG214.out.2.2.2.2.2.2.2.2.2.2.2.2.2.2.2.2⟩)
        clear hwg215
        refine hK.out _ _ ⟨HG216.out.1, HG216.out.2.1, HG216.out.2.2.1⟩ (fun hHeld => ?_)
        clear hK K
        try simp only [Act.put]
        refine wpAnyH_done (by kernel_rfl) ?_ _
        go_wp2
        go_meet
        case rel => exact ⟨b5, b6, C1, C2, p1, e1, p2, e2, rfl, rfl, ⟨HG216.out.2.2.2.2.2.2.2.2.2.1, HG216.out.2.2.2.2.2.2.2.2.2.2.2.2.2.2.2.2, (.inl HG216.out.2.2.2.2.2.2.2.2.2.2.1), (.inl HG216.out.2.2.2.2.2.2.2.2.2.2.2.1)⟩, ⟨HG216.out.1, HG216.out.2.1, HG216.out.2.2.1⟩, HG216.out.2.2.2.2.2.1, HG216.out.2.2.2.1, HG216.out.2.2.2.2.2.2.2.2.1, HG216.out.2.2.2.2.2.2.2.2.2.2.2.2.1⟩

  case rest =>
  obtain ⟨b5, b6, C1, C2, p1, e1, p2, e2, rfl, rfl, HQ⟩ := hcut
  clear hwd HG1 HCp1
  have HP := Lib.hid HQ.out.1
  have HK := Lib.hid HQ.out.2
  clear HQ
  obtain ⟨⟨tsp, tb, tof, tc⟩, ⟨msp, mb, mof, mc⟩, ⟨esp, eb, eof, ec⟩, cq⟩ := C1
  dsimp only at HK
  have hb1 := HQb1.out
  have HQ20 := Lib.hid (fun (k : Nat) (hk : k < nM) => show ql k ≤ 20 from by rw [← HQL.out]; exact hb1.2.2.2 k hk)
  have hnT := hb1.1
  have hnM := hb1.2.1
  have hnE := hb1.2.2.1
  clear hb1 HQb1 HQL
  have hee : (eq != eq) = false := by simp
  go_upto_region 4 with fail
  have K0 := Lib.hid (show (Below w.heap.size w wc.drew ∧ RowAt wc.drew Z 26 #[.int .i64 res, .slice sT nT S.t.c, .slice sM nM S.m.c, .slice sE nE S.e.c] ∧ RowAt wc.drew (Z + 1) 26 #[.int .i64 res', .slice sT' nT' S'.t.c, .slice sM' nM' S'.m.c, .slice sE' nE' S'.e.c]) ∧ RowAt wc.drew b5 26 #[.int .i64 res, .slice tsp nT tc, .slice msp nM mc, .slice esp nE ec] ∧ RowAt wc.drew b6 26 #[.int .i64 res, .slice C2.t.sp nT C2.t.c, .slice C2.m.sp nM C2.m.c, .slice C2.e.sp nE C2.e.c] ∧ CpR wc.drew p1 e1 x ⟨⟨tsp, tb, tof, tc⟩, ⟨msp, mb, mof, mc⟩, ⟨esp, eb, eof, ec⟩, cq⟩ ∧ CpR wc.drew p2 e2 x C2 from ⟨rrD HK.out.1, HK.out.2.1.new (below_dn (Below.refl _ _) 1), HK.out.2.2.1.new (below_dn (Below.refl _ _) 1), HK.out.2.2.2.1.new (below_dn (Below.refl _ _) 1), HK.out.2.2.2.2.new (below_dn (Below.refl _ _) 1)⟩)
  refine wp_region_held_drew (S := fun w' => (Below w.heap.size w w' ∧ RowAt w' Z 26 #[.int .i64 res, .slice sT nT S.t.c, .slice sM nM S.m.c, .slice sE nE S.e.c] ∧ RowAt w' (Z + 1) 26 #[.int .i64 res', .slice sT' nT' S'.t.c, .slice sM' nM' S'.m.c, .slice sE' nE' S'.e.c]) ∧ RowAt w' b5 26 #[.int .i64 res, .slice tsp nT tc, .slice msp nM mc, .slice esp nE ec]) (by kernel_rfl) ⟨K0.out.1, K0.out.2.1⟩ (fun hS => ?_)
  refine wpAnyH_take (i := 0) (oi := { dst := some 21, op := .load 26 (.tmp 5), type := 26, pos := "law.go:83", after := #[], guard := none }) (v := (.agg #[.int .i64 res, .slice tsp nT tc, .slice msp nM mc, .slice esp nE ec])) rfl (by kernel_rfl) (by kernel_rfl) (by kernel_rfl) (fun _ _ _ h => h) (Or.inl ⟨by rfl, ?_⟩) hS ?_
  · intro w hw; obtain ⟨s0, s1⟩ := hw; exact exec_row_load 26 (.tmp 5) (by exact rfl) b5 (by exact rfl) 26 #[.int .i64 res, .slice tsp nT tc, .slice msp nM mc, .slice esp nE ec] (0, 0) _ s1 Try.underlying26 rfl (by kernel_rfl)
  simp only [Act.put, List.setIfInBounds_toArray, List.set_cons_zero, List.set_cons_succ]
  refine wpAnyH_take (i := 1) (oi := { dst := some 22, op := .load 26 (.tmp 2), type := 26, pos := "law.go:83", after := #[], guard := none }) (v := (.agg #[.int .i64 res, .slice sT nT S.t.c, .slice sM nM S.m.c, .slice sE nE S.e.c])) rfl (by kernel_rfl) (by kernel_rfl) (by kernel_rfl) (fun _ _ _ h => h) (Or.inl ⟨by rfl, ?_⟩) hS ?_
  · intro w hw; obtain ⟨s0, s1⟩ := hw; exact exec_row_load 26 (.tmp 2) (by exact rfl) Z (by exact rfl) 26 #[.int .i64 res, .slice sT nT S.t.c, .slice sM nM S.m.c, .slice sE nE S.e.c] (0, 0) _ s0.2.1 Try.underlying26 rfl (by kernel_rfl)
  simp only [Act.put, List.setIfInBounds_toArray, List.set_cons_zero, List.set_cons_succ]
  refine wpAnyH_ready (rs := [2]) (by kernel_rfl) (by simp) (AllReadyH.cons (o := { dst := some 23, op := .call { callee := .value (.func 17), args := #[.tmp 21, .tmp 22], argTypes := #[26, 26] }, type := 4, pos := "law.go:83", after := #[{ on := 0, ground := .data }, { on := 1, ground := .data }], guard := none }) rfl (fun K hK => ?_) AllReadyH.nil)
  go_simp
  go_at_call 17
  refine (HRCX.out _ K0.out.1.1 _ _ _ K0.out.2.2.2.1).mono ?_
  rintro e wk1 ⟨rfl, bk1⟩
  have K1 := Lib.hid (show (Below w.heap.size w wk1 ∧ RowAt wk1 Z 26 #[.int .i64 res, .slice sT nT S.t.c, .slice sM nM S.m.c, .slice sE nE S.e.c] ∧ RowAt wk1 (Z + 1) 26 #[.int .i64 res', .slice sT' nT' S'.t.c, .slice sM' nM' S'.m.c, .slice sE' nE' S'.e.c]) ∧ RowAt wk1 b5 26 #[.int .i64 res, .slice tsp nT tc, .slice msp nM mc, .slice esp nE ec] ∧ RowAt wk1 b6 26 #[.int .i64 res, .slice C2.t.sp nT C2.t.c, .slice C2.m.sp nM C2.m.c, .slice C2.e.sp nE C2.e.c] ∧ CpR wk1 p1 e1 x ⟨⟨tsp, tb, tof, tc⟩, ⟨msp, mb, mof, mc⟩, ⟨esp, eb, eof, ec⟩, cq⟩ ∧ CpR wk1 p2 e2 x C2 from ⟨rrKeep K0.out.1 bk1, K0.out.2.1.new bk1, K0.out.2.2.1.new bk1, K0.out.2.2.2.1.new bk1, K0.out.2.2.2.2.new bk1⟩)
  clear bk1
  try dsimp only
  refine hK.out _ _ ⟨K1.out.1, K1.out.2.1⟩ (fun hHeld => ?_)
  clear hK K
  try simp only [Act.put, List.setIfInBounds_toArray, List.set_cons_zero, List.set_cons_succ]
  refine wpAnyH_take (i := 3) (oi := { dst := some 24, op := .unOp .not 4 (.tmp 23), type := 4, pos := "law.go:83", after := #[{ on := 2, ground := .data }], guard := none }) (v := ?_) rfl (by kernel_rfl) (by kernel_rfl) (by kernel_rfl) (fun _ _ _ h => h) (Or.inl ⟨by rfl, ?_⟩) ⟨K1.out.1, K1.out.2.1⟩ ?_
  rotate_left 1
  · intro w hw; obtain ⟨s0, s1⟩ := hw; go_simp; try (with_reducible rfl)
  simp only [Act.put, List.setIfInBounds_toArray, List.set_cons_zero, List.set_cons_succ]
  refine wpAnyH_take (i := 4) (oi := { dst := some 25, op := .move (.tmp 24), type := 4, pos := "law.go:83", after := #[{ on := 3, ground := .data }, { on := 2, ground := .chain }], guard := none }) (v := ?_) rfl (by kernel_rfl) (by kernel_rfl) (by kernel_rfl) (fun _ _ _ h => h) (Or.inl ⟨by rfl, ?_⟩) ⟨K1.out.1, K1.out.2.1⟩ ?_
  rotate_left 1
  · intro w hw; obtain ⟨s0, s1⟩ := hw; go_simp; try (with_reducible rfl)
  simp only [Act.put, List.setIfInBounds_toArray, List.set_cons_zero, List.set_cons_succ]
  refine wpAnyH_take (i := 5) (oi := { dst := some 26, op := .load 26 (.tmp 2), type := 26, pos := "law.go:83", after := #[{ on := 4, ground := .guard }], guard := some (4, false) }) (v := (.agg #[.int .i64 res, .slice sT nT S.t.c, .slice sM nM S.m.c, .slice sE nE S.e.c])) rfl (by kernel_rfl) (by kernel_rfl) (by kernel_rfl) (fun _ _ _ h => h) (Or.inl ⟨by rfl, ?_⟩) ⟨K1.out.1, K1.out.2.1⟩ ?_
  · intro w hw; obtain ⟨s0, s1⟩ := hw; exact exec_row_load 26 (.tmp 2) (by exact rfl) Z (by exact rfl) 26 #[.int .i64 res, .slice sT nT S.t.c, .slice sM nM S.m.c, .slice sE nE S.e.c] (0, 0) _ s0.2.1 Try.underlying26 rfl (by kernel_rfl)
  simp only [Act.put, List.setIfInBounds_toArray, List.set_cons_zero, List.set_cons_succ]
  refine wpAnyH_take (i := 6) (oi := { dst := some 27, op := .load 26 (.tmp 3), type := 26, pos := "law.go:83", after := #[{ on := 4, ground := .guard }], guard := some (4, false) }) (v := (.agg #[.int .i64 res', .slice sT' nT' S'.t.c, .slice sM' nM' S'.m.c, .slice sE' nE' S'.e.c])) rfl (by kernel_rfl) (by kernel_rfl) (by kernel_rfl) (fun _ _ _ h => h) (Or.inl ⟨by rfl, ?_⟩) ⟨K1.out.1, K1.out.2.1⟩ ?_
  · intro w hw; obtain ⟨s0, s1⟩ := hw; exact exec_row_load 26 (.tmp 3) (by exact rfl) (Z + 1) (by exact rfl) 26 #[.int .i64 res', .slice sT' nT' S'.t.c, .slice sM' nM' S'.m.c, .slice sE' nE' S'.e.c] (0, 0) _ s0.2.2 Try.underlying26 rfl (by kernel_rfl)
  simp only [Act.put, List.setIfInBounds_toArray, List.set_cons_zero, List.set_cons_succ]
  refine wpAnyH_take (i := 8) (oi := { dst := some 29, op := .load 26 (.tmp 2), type := 26, pos := "law.go:83", after := #[{ on := 4, ground := .guard }], guard := some (4, false) }) (v := (.agg #[.int .i64 res, .slice sT nT S.t.c, .slice sM nM S.m.c, .slice sE nE S.e.c])) rfl (by kernel_rfl) (by kernel_rfl) (by kernel_rfl) (fun _ _ _ h => h) (Or.inl ⟨by rfl, ?_⟩) ⟨K1.out.1, K1.out.2.1⟩ ?_
  · intro w hw; obtain ⟨s0, s1⟩ := hw; exact exec_row_load 26 (.tmp 2) (by exact rfl) Z (by exact rfl) 26 #[.int .i64 res, .slice sT nT S.t.c, .slice sM nM S.m.c, .slice sE nE S.e.c] (0, 0) _ s0.2.1 Try.underlying26 rfl (by kernel_rfl)
  simp only [Act.put, List.setIfInBounds_toArray, List.set_cons_zero, List.set_cons_succ]
  refine wpAnyH_take (i := 9) (oi := { dst := some 30, op := .load 26 (.tmp 3), type := 26, pos := "law.go:83", after := #[{ on := 4, ground := .guard }], guard := some (4, false) }) (v := (.agg #[.int .i64 res', .slice sT' nT' S'.t.c, .slice sM' nM' S'.m.c, .slice sE' nE' S'.e.c])) rfl (by kernel_rfl) (by kernel_rfl) (by kernel_rfl) (fun _ _ _ h => h) (Or.inl ⟨by rfl, ?_⟩) ⟨K1.out.1, K1.out.2.1⟩ ?_
  · intro w hw; obtain ⟨s0, s1⟩ := hw; exact exec_row_load 26 (.tmp 3) (by exact rfl) (Z + 1) (by exact rfl) 26 #[.int .i64 res', .slice sT' nT' S'.t.c, .slice sM' nM' S'.m.c, .slice sE' nE' S'.e.c] (0, 0) _ s0.2.2 Try.underlying26 rfl (by kernel_rfl)
  simp only [Act.put, List.setIfInBounds_toArray, List.set_cons_zero, List.set_cons_succ]
  refine wpAnyH_ready (rs := [7]) (by kernel_rfl) (by simp) (AllReadyH.cons (o := { dst := some 28, op := .call { callee := .value (.func 18), args := #[.tmp 26, .tmp 27], argTypes := #[26, 26] }, type := 4, pos := "law.go:83", after := #[{ on := 5, ground := .data }, { on := 6, ground := .data }, { on := 4, ground := .chain }, { on := 4, ground := .guard }], guard := some (4, false) }) rfl (fun K hK => ?_) AllReadyH.nil)
  go_simp
  go_at_call 18
  refine (HXY.out _ K1.out.1.1).mono ?_
  rintro e wk2 ⟨rfl, bk2⟩
  have K2 := Lib.hid (show (Below w.heap.size w wk2 ∧ RowAt wk2 Z 26 #[.int .i64 res, .slice sT nT S.t.c, .slice sM nM S.m.c, .slice sE nE S.e.c] ∧ RowAt wk2 (Z + 1) 26 #[.int .i64 res', .slice sT' nT' S'.t.c, .slice sM' nM' S'.m.c, .slice sE' nE' S'.e.c]) ∧ RowAt wk2 b5 26 #[.int .i64 res, .slice tsp nT tc, .slice msp nM mc, .slice esp nE ec] ∧ RowAt wk2 b6 26 #[.int .i64 res, .slice C2.t.sp nT C2.t.c, .slice C2.m.sp nM C2.m.c, .slice C2.e.sp nE C2.e.c] ∧ CpR wk2 p1 e1 x ⟨⟨tsp, tb, tof, tc⟩, ⟨msp, mb, mof, mc⟩, ⟨esp, eb, eof, ec⟩, cq⟩ ∧ CpR wk2 p2 e2 x C2 from ⟨rrKeep K1.out.1 bk2, K1.out.2.1.new bk2, K1.out.2.2.1.new bk2, K1.out.2.2.2.1.new bk2, K1.out.2.2.2.2.new bk2⟩)
  clear bk2
  try dsimp only
  refine hK.out _ _ ⟨K2.out.1, K2.out.2.1⟩ (fun hHeld => ?_)
  clear hK K
  try simp only [Act.put, List.setIfInBounds_toArray, List.set_cons_zero, List.set_cons_succ]
  refine wpAnyH_ready (rs := [10]) (by kernel_rfl) (by simp) (AllReadyH.cons (o := { dst := some 31, op := .call { callee := .value (.func 17), args := #[.tmp 29, .tmp 30], argTypes := #[26, 26] }, type := 4, pos := "law.go:83", after := #[{ on := 8, ground := .data }, { on := 9, ground := .data }, { on := 7, ground := .chain }, { on := 4, ground := .guard }], guard := some (4, false) }) rfl (fun K hK => ?_) AllReadyH.nil)
  go_simp
  go_at_call 17
  refine (HRXY.out _ K2.out.1.1).mono ?_
  rintro e wk3 ⟨rfl, bk3⟩
  have K3 := Lib.hid (show (Below w.heap.size w wk3 ∧ RowAt wk3 Z 26 #[.int .i64 res, .slice sT nT S.t.c, .slice sM nM S.m.c, .slice sE nE S.e.c] ∧ RowAt wk3 (Z + 1) 26 #[.int .i64 res', .slice sT' nT' S'.t.c, .slice sM' nM' S'.m.c, .slice sE' nE' S'.e.c]) ∧ RowAt wk3 b5 26 #[.int .i64 res, .slice tsp nT tc, .slice msp nM mc, .slice esp nE ec] ∧ RowAt wk3 b6 26 #[.int .i64 res, .slice C2.t.sp nT C2.t.c, .slice C2.m.sp nM C2.m.c, .slice C2.e.sp nE C2.e.c] ∧ CpR wk3 p1 e1 x ⟨⟨tsp, tb, tof, tc⟩, ⟨msp, mb, mof, mc⟩, ⟨esp, eb, eof, ec⟩, cq⟩ ∧ CpR wk3 p2 e2 x C2 from ⟨rrKeep K2.out.1 bk3, K2.out.2.1.new bk3, K2.out.2.2.1.new bk3, K2.out.2.2.2.1.new bk3, K2.out.2.2.2.2.new bk3⟩)
  clear bk3
  try dsimp only
  refine hK.out _ _ ⟨K3.out.1, K3.out.2.1⟩ (fun hHeld => ?_)
  clear hK K
  try simp only [Act.put, List.setIfInBounds_toArray, List.set_cons_zero, List.set_cons_succ]
  refine wpAnyH_take (i := 11) (oi := { dst := some 32, op := .binOp .neq 4 (.tmp 28) (.tmp 31) 4, type := 4, pos := "law.go:83", after := #[{ on := 7, ground := .data }, { on := 10, ground := .data }, { on := 4, ground := .guard }], guard := some (4, false) }) (v := ?_) rfl (by kernel_rfl) (by kernel_rfl) (by kernel_rfl) (fun _ _ _ h => h) (Or.inl ⟨by rfl, ?_⟩) ⟨K3.out.1, K3.out.2.1⟩ ?_
  rotate_left 1
  · intro w hw; obtain ⟨s0, s1⟩ := hw; go_simp; try (with_reducible rfl)
  simp only [Act.put, List.setIfInBounds_toArray, List.set_cons_zero, List.set_cons_succ]
  refine wpAnyH_take (i := 12) (oi := { dst := some 33, op := .pick (.tmp 25) (.const (.bool true)) (.tmp 32), type := 4, pos := "law.go:83", after := #[{ on := 4, ground := .data }, { on := 11, ground := .data }], guard := none }) (v := ?_) rfl (by kernel_rfl) (by kernel_rfl) (by kernel_rfl) (fun _ _ _ h => h) (Or.inl ⟨by rfl, ?_⟩) ⟨K3.out.1, K3.out.2.1⟩ ?_
  rotate_left 1
  · intro w hw; obtain ⟨s0, s1⟩ := hw; go_simp; try (with_reducible rfl)
  simp only [Act.put, List.setIfInBounds_toArray, List.set_cons_zero, List.set_cons_succ]
  refine wpAnyH_done (by kernel_rfl) ?_ _

  clear K0 K1 K2 HK HRCX HXY HRXY hee hHeld
  have HT1 := Lib.hid (HTu.out _ _ _ _ K3.out.2.2.2.1)
  have HK1 := Lib.hid (show (Below w.heap.size w wk3 ∧ RowAt wk3 Z 26 #[.int .i64 res, .slice sT nT S.t.c, .slice sM nM S.m.c, .slice sE nE S.e.c] ∧ RowAt wk3 (Z + 1) 26 #[.int .i64 res', .slice sT' nT' S'.t.c, .slice sM' nM' S'.m.c, .slice sE' nE' S'.e.c]) ∧ RowAt wk3 b5 26 #[.int .i64 res, .slice tsp nT tc, .slice msp nM mc, .slice esp nE ec] ∧ RowAt wk3 b6 26 #[.int .i64 res, .slice C2.t.sp nT C2.t.c, .slice C2.m.sp nM C2.m.c, .slice C2.e.sp nE C2.e.c] ∧ CpR wk3 p2 e2 x C2 from ⟨K3.out.1, K3.out.2.1, K3.out.2.2.1, K3.out.2.2.2.2⟩)
  clear K3 HTu
  have HW := Lib.hid (show ∀ (wx : World) (a : Addr) (k : IntKind) (z z' : Int), ((Below w.heap.size w wx ∧ RowAt wx Z 26 #[.int .i64 res, .slice sT nT S.t.c, .slice sM nM S.m.c, .slice sE nE S.e.c] ∧ RowAt wx (Z + 1) 26 #[.int .i64 res', .slice sT' nT' S'.t.c, .slice sM' nM' S'.m.c, .slice sE' nE' S'.e.c]) ∧ RowAt wx b5 26 #[.int .i64 res, .slice tsp nT tc, .slice msp nM mc, .slice esp nE ec] ∧ RowAt wx b6 26 #[.int .i64 res, .slice C2.t.sp nT C2.t.c, .slice C2.m.sp nM C2.m.c, .slice C2.e.sp nE C2.e.c] ∧ CpR wx p2 e2 x C2) → TurnAt wx p1 e1 nT nM nE ⟨⟨tsp, tb, tof, tc⟩, ⟨msp, mb, mof, mc⟩, ⟨esp, eb, eof, ec⟩, cq⟩ ql → wx.cell? a = some (.int k z) → p1 ≤ a.block → a.block < e1 → ((Below w.heap.size w (wx.setCell a (.int k z')) ∧ RowAt (wx.setCell a (.int k z')) Z 26 #[.int .i64 res, .slice sT nT S.t.c, .slice sM nM S.m.c, .slice sE nE S.e.c] ∧ RowAt (wx.setCell a (.int k z')) (Z + 1) 26 #[.int .i64 res', .slice sT' nT' S'.t.c, .slice sM' nM' S'.m.c, .slice sE' nE' S'.e.c]) ∧ RowAt (wx.setCell a (.int k z')) b5 26 #[.int .i64 res, .slice tsp nT tc, .slice msp nM mc, .slice esp nE ec] ∧ RowAt (wx.setCell a (.int k z')) b6 26 #[.int .i64 res, .slice C2.t.sp nT C2.t.c, .slice C2.m.sp nM C2.m.c, .slice C2.e.sp nE C2.e.c] ∧ CpR (wx.setCell a (.int k z')) p2 e2 x C2) ∧ TurnAt (wx.setCell a (.int k z')) p1 e1 nT nM nE ⟨⟨tsp, tb, tof, tc⟩, ⟨msp, mb, mof, mc⟩, ⟨esp, eb, eof, ec⟩, cq⟩ ql from fun wx a k z z' hk ht ha h1 h2 => by
    have hc : Ch (fun j => j = a.block) wx (wx.setCell a (.int k z')) := (Ch.refl (fun j => j = a.block) wx).setCell a _ (.inl rfl)
    have hp := HP.out
    have hz := HZZ.out
    refine ⟨⟨⟨hk.1.1.trans (hc.below (fun j hj e => by omega) hk.1.1.size), hk.1.2.1.keep hc (by omega), hk.1.2.2.keep hc (by omega)⟩, hk.2.1.keep hc (by have := hp.2.2.1; omega), hk.2.2.1.keep hc (by have := hp.2.2.2; omega), hk.2.2.2.keep hc (fun j e => by have := hp.2.1; omega)⟩, ht.turn z' ha⟩)
  have c1 : wk3.cell? ⟨b5, 1, none⟩ = some (.slice tsp nT tc) := HK1.out.2.1.cell 1
  go_wp2
  clear c1
  go_loopg [7] nT (fun g u wr => ∃ k : Nat, k + g = nT ∧ u = .int .i64 (k : Nat) ∧ Aside (((Below w.heap.size w wr ∧ RowAt wr Z 26 #[.int .i64 res, .slice sT nT S.t.c, .slice sM nM S.m.c, .slice sE nE S.e.c] ∧ RowAt wr (Z + 1) 26 #[.int .i64 res', .slice sT' nT' S'.t.c, .slice sM' nM' S'.m.c, .slice sE' nE' S'.e.c]) ∧ RowAt wr b5 26 #[.int .i64 res, .slice tsp nT tc, .slice msp nM mc, .slice esp nE ec] ∧ RowAt wr b6 26 #[.int .i64 res, .slice C2.t.sp nT C2.t.c, .slice C2.m.sp nM C2.m.c, .slice C2.e.sp nE C2.e.c] ∧ CpR wr p2 e2 x C2) ∧ TurnAt wr p1 e1 nT nM nE ⟨⟨tsp, tb, tof, tc⟩, ⟨msp, mb, mof, mc⟩, ⟨esp, eb, eof, ec⟩, cq⟩ ql))
  case atStart => exact ⟨0, by omega, rfl, HK1.out, HT1.out⟩
  clear HK1 HT1
  case round =>
  obtain ⟨k, hkg, rfl, HR⟩ := hrel
  have HG := Lib.hid hkg
  cases gk with
  | succ g1 =>
    have hk : k < nT := by omega
    have hk2 : (k : Int) < (nT : Int) := by omega
    obtain ⟨h1, h2, h3, h4⟩ := HR.out.2.st (by omega)
    obtain ⟨z, hz⟩ := HR.out.2.tk k hk
    dsimp only at h1 h2 h3 h4 hz
    subst h1
    have c1 : wr.cell? ⟨b5, 1, none⟩ = some (.slice (some ⟨tb, tof, none⟩) nT tc) := HR.out.1.2.1.cell 1
    have hf := h4 (tof + k * 11 + 2)
    have HX := Lib.hid (fun z' => HW.out wr ⟨tb, tof + k * 11 + 2, none⟩ _ _ z' HR.out.1 HR.out.2 hz h2 h3)
    clear h2 h3 h4 hkg HR
    go_wp2
    go_roundg g1
    case measure => omega
    case rel => exact ⟨k + 1, by have := HG.out; omega, by go_num, HX.out _⟩
  | zero =>
  obtain rfl : k = nT := by omega
  have HR2 := Lib.hid HR.out
  have c1 : wr.cell? ⟨b5, 1, none⟩ = some (.slice tsp k tc) := HR.out.1.2.1.cell 1
  have c3 : wr.cell? ⟨b5, 3, none⟩ = some (.slice esp nE ec) := HR.out.1.2.1.cell 3
  clear HR hkg HG
  go_wp2
  clear c1 c3
  go_loopg [8] nE (fun g u wr => ∃ i : Nat, i + g = nE ∧ u = .int .i64 (i : Nat) ∧ Aside (((Below w.heap.size w wr ∧ RowAt wr Z 26 #[.int .i64 res, .slice sT k S.t.c, .slice sM nM S.m.c, .slice sE nE S.e.c] ∧ RowAt wr (Z + 1) 26 #[.int .i64 res', .slice sT' nT' S'.t.c, .slice sM' nM' S'.m.c, .slice sE' nE' S'.e.c]) ∧ RowAt wr b5 26 #[.int .i64 res, .slice tsp k tc, .slice msp nM mc, .slice esp nE ec] ∧ RowAt wr b6 26 #[.int .i64 res, .slice C2.t.sp k C2.t.c, .slice C2.m.sp nM C2.m.c, .slice C2.e.sp nE C2.e.c] ∧ CpR wr p2 e2 x C2) ∧ TurnAt wr p1 e1 k nM nE ⟨⟨tsp, tb, tof, tc⟩, ⟨msp, mb, mof, mc⟩, ⟨esp, eb, eof, ec⟩, cq⟩ ql))
  case atStart => exact ⟨0, by omega, rfl, HR2.out⟩
  clear HR2
  case round =>
  obtain ⟨i, hig, rfl, HR⟩ := hrel
  have HG := Lib.hid hig
  cases gk with
  | succ g1 =>
    have hk : i < nE := by omega
    have hk2 : (i : Int) < (nE : Int) := by omega
    obtain ⟨h1, h2, h3, h4⟩ := HR.out.2.se (by omega)
    obtain ⟨z, hz⟩ := HR.out.2.ed i hk
    dsimp only at h1 h2 h3 h4 hz
    subst h1
    have c3 : wr.cell? ⟨b5, 3, none⟩ = some (.slice (some ⟨eb, eof, none⟩) nE ec) := HR.out.1.2.1.cell 3
    have hf := h4 (eof + i * 23 + 1)
    have HX := Lib.hid (fun z' => HW.out wr ⟨eb, eof + i * 23 + 1, none⟩ _ _ z' HR.out.1 HR.out.2 hz h2 h3)
    clear h2 h3 h4 hig HR
    go_wp2
    go_roundg g1
    case measure => omega
    case rel => exact ⟨i + 1, by have := HG.out; omega, by go_num, HX.out _⟩
  | zero =>
  obtain rfl : i = nE := by omega
  have HR2 := Lib.hid HR.out
  have c2 : wr.cell? ⟨b5, 2, none⟩ = some (.slice msp nM mc) := HR.out.1.2.1.cell 2
  have c3 : wr.cell? ⟨b5, 3, none⟩ = some (.slice esp i ec) := HR.out.1.2.1.cell 3
  clear HR hig HG
  go_wp2
  clear c2 c3
  go_loopg [9] nM (fun g u wr => ∃ m : Nat, m + g = nM ∧ u = .int .i64 (m : Nat) ∧ Aside (((Below w.heap.size w wr ∧ RowAt wr Z 26 #[.int .i64 res, .slice sT k S.t.c, .slice sM nM S.m.c, .slice sE i S.e.c] ∧ RowAt wr (Z + 1) 26 #[.int .i64 res', .slice sT' nT' S'.t.c, .slice sM' nM' S'.m.c, .slice sE' nE' S'.e.c]) ∧ RowAt wr b5 26 #[.int .i64 res, .slice tsp k tc, .slice msp nM mc, .slice esp i ec] ∧ RowAt wr b6 26 #[.int .i64 res, .slice C2.t.sp k C2.t.c, .slice C2.m.sp nM C2.m.c, .slice C2.e.sp i C2.e.c] ∧ CpR wr p2 e2 x C2) ∧ TurnAt wr p1 e1 k nM i ⟨⟨tsp, tb, tof, tc⟩, ⟨msp, mb, mof, mc⟩, ⟨esp, eb, eof, ec⟩, cq⟩ ql))
  case atStart => exact ⟨0, by omega, rfl, HR2.out⟩
  clear HR2
  case round =>
  obtain ⟨m, hmg, rfl, HR⟩ := hrel
  have HG := Lib.hid hmg
  cases gk with
  | succ g1 =>
    have hm : m < nM := by omega
    have hm2 : (m : Int) < (nM : Int) := by omega
    obtain ⟨h1, h2, h3, h4⟩ := HR.out.2.sm (by omega)
    obtain ⟨⟨z, hz⟩, hs⟩ := HR.out.2.md m hm
    have hq20 := HQ20.out m hm
    dsimp only at h1 h2 h3 h4 hz hs
    subst h1
    have c2 : wr.cell? ⟨b5, 2, none⟩ = some (.slice (some ⟨mb, mof, none⟩) nM mc) := HR.out.1.2.1.cell 2
    have hf := h4 (mof + m * 2)
    have HX := Lib.hid (fun z' => HW.out wr ⟨mb, mof + m * 2, none⟩ _ _ z' HR.out.1 HR.out.2 hz h2 h3)
    obtain ⟨nq, hnq⟩ : ∃ n, ql m = n := ⟨_, rfl⟩
    have HNQ := Lib.hid hnq
    rw [hnq] at hq20
    clear h2 h3 h4 hmg HR hs hnq hm
    go_upto_region 18 with fail
    generalize hwx : World.setCell _ _ _ = wx
    have HR := Lib.hid (show ((Below w.heap.size w wx ∧ RowAt wx Z 26 #[.int .i64 res, .slice sT k S.t.c, .slice sM nM S.m.c, .slice sE i S.e.c] ∧ RowAt wx (Z + 1) 26 #[.int .i64 res', .slice sT' nT' S'.t.c, .slice sM' nM' S'.m.c, .slice sE' nE' S'.e.c]) ∧ RowAt wx b5 26 #[.int .i64 res, .slice tsp k tc, .slice (some ⟨mb, mof, none⟩) nM mc, .slice esp i ec] ∧ RowAt wx b6 26 #[.int .i64 res, .slice C2.t.sp k C2.t.c, .slice C2.m.sp nM C2.m.c, .slice C2.e.sp i C2.e.c] ∧ CpR wx p2 e2 x C2) ∧ TurnAt wx p1 e1 k nM i ⟨⟨tsp, tb, tof, tc⟩, ⟨some ⟨mb, mof, none⟩, mb, mof, mc⟩, ⟨esp, eb, eof, ec⟩, cq⟩ ql from by rw [← hwx]; exact HX.out _)
    clear hwx HX hz hf c2
    go_wp2
    go_loopg [10] nq (fun g u wr => ∃ j : Nat, j + g = nq ∧ u = .int .i64 (j : Nat) ∧ Aside (((Below w.heap.size w wr ∧ RowAt wr Z 26 #[.int .i64 res, .slice sT k S.t.c, .slice sM nM S.m.c, .slice sE i S.e.c] ∧ RowAt wr (Z + 1) 26 #[.int .i64 res', .slice sT' nT' S'.t.c, .slice sM' nM' S'.m.c, .slice sE' nE' S'.e.c]) ∧ RowAt wr b5 26 #[.int .i64 res, .slice tsp k tc, .slice (some ⟨mb, mof, none⟩) nM mc, .slice esp i ec] ∧ RowAt wr b6 26 #[.int .i64 res, .slice C2.t.sp k C2.t.c, .slice C2.m.sp nM C2.m.c, .slice C2.e.sp i C2.e.c] ∧ CpR wr p2 e2 x C2) ∧ TurnAt wr p1 e1 k nM i ⟨⟨tsp, tb, tof, tc⟩, ⟨some ⟨mb, mof, none⟩, mb, mof, mc⟩, ⟨esp, eb, eof, ec⟩, cq⟩ ql))
    case atStart => exact ⟨0, by omega, rfl, HR.out⟩
    clear HR
    case round =>
    obtain ⟨j, hjg, rfl, HR⟩ := hrel
    have HG2 := Lib.hid hjg
    have hs := (HR.out.2.md m (by omega)).2
    dsimp only at hs
    rw [HNQ.out] at hs
    have c2 : wr.cell? ⟨b5, 2, none⟩ = some (.slice (some ⟨mb, mof, none⟩) nM mc) := HR.out.1.2.1.cell 2
    cases gk with
    | succ g2 =>
      have hj : j < nq := by omega
      have hj2 : (j : Int) < (nq : Int) := by omega
      obtain ⟨h1, h2, h3, h4⟩ := HR.out.2.sq m (by omega) (by rw [HNQ.out]; omega)
      obtain ⟨z, hz⟩ := HR.out.2.qu m (by omega) j (by rw [HNQ.out]; exact hj)
      dsimp only at h1 h2 h3 h4 hz
      obtain ⟨⟨qsp, qb, qof, qc⟩, hcq⟩ : ∃ s, cq m = s := ⟨_, rfl⟩
      rw [hcq] at h1 h2 h3 h4 hz hs
      dsimp only at h1 h2 h3 h4 hz hs
      subst h1
      have hf := h4 (qof + j * 2)
      have HX := Lib.hid (fun z' => HW.out wr ⟨qb, qof + j * 2, none⟩ _ _ z' HR.out.1 HR.out.2 hz h2 h3)
      clear h2 h3 h4 hjg HR hcq
      go_wp2
      go_roundg g2
      case measure => omega
      case rel => exact ⟨j + 1, by have := HG2.out; omega, by go_num, HX.out _⟩
    | zero =>
      obtain rfl : j = nq := by omega
      have hjj : ¬ (j : Int) < (j : Int) := by omega
      go_wp2
      go_roundg g1
      case measure => omega
      case rel => exact ⟨m + 1, by have := HG.out; omega, by go_num, HR.out⟩
  | zero =>
  obtain rfl : m = nM := by omega
  have HR2 := Lib.hid HR.out.1
  have c2 : wr.cell? ⟨b5, 2, none⟩ = some (.slice msp m mc) := HR.out.1.2.1.cell 2
  clear HR hmg HG HW
  go_wp2_with (first
    | (refine wpList_load_row rfl 26 (.tmp 2) rfl Z rfl 26 #[.int .i64 res, .slice sT k S.t.c, .slice sM m S.m.c, .slice sE i S.e.c] (0, 0) _ HR2.out.1.2.1 Try.underlying26 rfl (by kernel_rfl) ?_)
    | (refine wpList_load_row rfl 26 (.tmp 6) rfl b6 rfl 26 #[.int .i64 res, .slice C2.t.sp k C2.t.c, .slice C2.m.sp m C2.m.c, .slice C2.e.sp i C2.e.c] (0, 0) _ HR2.out.2.2.1 Try.underlying26 rfl (by kernel_rfl) ?_)
    | (go_at_call 17; refine (HRXC.out _ HR2.out.1.1 _ _ _ HR2.out.2.2.2).mono ?_; rintro e w7 ⟨rfl, b7⟩; have H7 := Lib.hid (And.intro (HR2.out.1.1.trans (b7.mono HR2.out.1.1.size)) (HR2.out.2.2.2.new b7)); have z0 : w7.cell? ⟨Z, 0, none⟩ = some (.int .i64 res) := (HR2.out.1.2.1.new b7).cell 0; have z1 : w7.cell? ⟨Z, 1, none⟩ = some (.slice sT k S.t.c) := (HR2.out.1.2.1.new b7).cell 1; have z2 : w7.cell? ⟨Z, 2, none⟩ = some (.slice sM m S.m.c) := (HR2.out.1.2.1.new b7).cell 2; have z3 : w7.cell? ⟨Z, 3, none⟩ = some (.slice sE i S.e.c) := (HR2.out.1.2.1.new b7).cell 3; have x0 : w7.cell? ⟨b6, 0, none⟩ = some (.int .i64 res) := (HR2.out.2.2.1.new b7).cell 0; have x1 : w7.cell? ⟨b6, 1, none⟩ = some (.slice C2.t.sp k C2.t.c) := (HR2.out.2.2.1.new b7).cell 1; have x2 : w7.cell? ⟨b6, 2, none⟩ = some (.slice C2.m.sp m C2.m.c) := (HR2.out.2.2.1.new b7).cell 2; have x3 : w7.cell? ⟨b6, 3, none⟩ = some (.slice C2.e.sp i C2.e.c) := (HR2.out.2.2.1.new b7).cell 3; clear b7 HR2)
    | (go_at_call 18; refine (HIXC.out _ H7.out.1 _ _ _ H7.out.2).mono ?_; rintro e w8 ⟨rfl, b8⟩; have H8 := Lib.hid (H7.out.1.trans (b8.mono H7.out.1.size)); clear b8 H7 z0 z1 z2 z3 x0 x1 x2 x3)
    | (go_at_call 11; refine (l10alive_any _).mono ?_; rintro e w9 ⟨rfl, b9⟩; have H9 := Lib.hid (H8.out.trans (b9.mono H8.out.size)); clear b9)
    | fail)
  go_ret
  exact ⟨by simp, H9.out⟩
end Go.Proofs.Ytandehdgpbflmaa
