/- The contract of image's Copy. -/
import Derived.Test.YtandehdgpbflmaaJW
import Derived.Test.YtandehdgpbflmaaJB
import Derived.Test.YtandehdgpbflmaaJE
import Derived.Test.YtandehdgpbflmaaLasts
namespace Go.Proofs.Ytandehdgpbflmaa
open Go.RowKit

def qRow (q : Int × Int) : List Value := [.int .i64 q.1, .int .i64 q.2]
def mRow (x : Img) (S : ImgS) (k : Nat) : List Value := [.int .u32 (w32 (x.m k).tasks), .slice (S.q k).sp (x.m k).qs.length (S.q k).c]
theorem cell_kind {w : World} {a p : Addr} {v va u : Value} (h : w.cell? p = some u) (ha : w.cell? a = some va) (hne : u ≠ va) : (w.setCell a v).cell? p = some u := by
  rw [World.cell?_setCell_other _ _ _ _ (fun e => hne (by subst e; rw [h] at ha; exact Option.some.inj ha))]
  exact h
theorem size_set (w : World) (a : Addr) (v : Value) : (w.setCell a v).heap.size = w.heap.size := by simp [World.setCell]
/-- An image of its own: from a block on; the queues of the first k modes too. -/
structure CpAt (w : World) (b k : Nat) (x : Img) (S : ImgS) : Prop where
  im : ImgAt w (fun _ => False) x S
  t : 0 < x.tasks.length → b ≤ S.t.b ∧ ∀ j, w.frozen? ⟨S.t.b, j, none⟩ = false
  m : 0 < x.modes.length → b ≤ S.m.b ∧ ∀ j, w.frozen? ⟨S.m.b, j, none⟩ = false
  e : 0 < x.edges.length → b ≤ S.e.b ∧ ∀ j, w.frozen? ⟨S.e.b, j, none⟩ = false
  q : ∀ i, i < k → i < x.modes.length → 0 < (x.m i).qs.length → b ≤ (S.q i).b ∧ ∀ j, w.frozen? ⟨(S.q i).b, j, none⟩ = false
theorem froze_new {w w1 : World} {g : Nat} (hb : Below w.heap.size w w1) (hg : g < w.heap.size) (j : Nat) : w1.frozen? ⟨g, j, none⟩ = w.frozen? ⟨g, j, none⟩ := (Ch.new (T := fun _ => False) hb).frozen hg (fun h => h)
theorem CpAt.new {w w1 : World} {b k : Nat} {x : Img} {S : ImgS} (h : CpAt w b k x S) (hb : Below w.heap.size w w1) : CpAt w1 b k x S where
  im := h.im.new hb
  t := fun h0 => ⟨(h.t h0).1, fun j => (froze_new hb (h.im.st.at_ h0).2.1 j).trans ((h.t h0).2 j)⟩
  m := fun h0 => ⟨(h.m h0).1, fun j => (froze_new hb (h.im.sm.at_ h0).2.1 j).trans ((h.m h0).2 j)⟩
  e := fun h0 => ⟨(h.e h0).1, fun j => (froze_new hb (h.im.se.at_ h0).2.1 j).trans ((h.e h0).2 j)⟩
  q := fun i h1 h2 h0 => ⟨(h.q i h1 h2 h0).1, fun j => (froze_new hb ((h.im.md i h2).2.2.at_ h0).2.1 j).trans ((h.q i h1 h2 h0).2 j)⟩
theorem slAt_set {w : World} {V : Nat → Prop} {s : Src} {n : Nat} (h : SlAt w V s n) (a : Addr) (v : Value) : SlAt (w.setCell a v) V s n := ⟨fun h0 => ⟨(h.at_ h0).1, by rw [size_set]; exact (h.at_ h0).2.1, (h.at_ h0).2.2⟩, h.sm⟩
theorem taskC_int {t : TaskM} {j : Nat} {u : Value} (h : (taskC t)[j]? = some u) : ∃ z, u = .int .i64 z := by
  have hm := List.mem_of_getElem? h
  unfold taskC rowZ at hm
  simp only [List.mem_cons, List.mem_map] at hm
  rcases hm with rfl | rfl | rfl | ⟨z, -, rfl⟩
  all_goals exact ⟨_, rfl⟩
theorem edgeC_int {t : EdgeM} {j : Nat} {u : Value} (h : (edgeC t)[j]? = some u) : ∃ z, u = .int .i64 z := by
  have hm := List.mem_of_getElem? h
  unfold edgeC rowZ at hm
  simp only [List.mem_cons, List.mem_append, List.mem_map] at hm
  rcases hm with rfl | rfl | rfl | ⟨z, -, rfl⟩ | ⟨z, -, rfl⟩
  all_goals exact ⟨_, rfl⟩
def ImgS.setq (S : ImgS) (k : Nat) (s : Src) : ImgS := { S with q := fun i => if i = k then s else S.q i }
theorem CpAt.next {w : World} {b k : Nat} {x : Img} {S : ImgS} (h : CpAt w b k x S) (hk : k < x.modes.length) (s : Src)
    (hs : 0 < (x.m k).qs.length → s.sp = some ⟨s.b, s.o, none⟩ ∧ b ≤ s.b ∧ s.b < w.heap.size ∧ ∀ j, w.frozen? ⟨s.b, j, none⟩ = false)
    (hq : ∀ j, j < (x.m k).qs.length → At w s.b (s.o + j * 2) (qRow (qth (x.m k).qs j))) :
    CpAt (w.setCell ⟨S.m.b, S.m.o + k * 2 + 1, none⟩ (.slice s.sp (x.m k).qs.length s.c)) b (k + 1) x (S.setq k s) := by
  have ha := (h.im.md k hk).2.1
  have hfr : ∀ p : Addr, (w.setCell ⟨S.m.b, S.m.o + k * 2 + 1, none⟩ (.slice s.sp (x.m k).qs.length s.c)).frozen? p = w.frozen? p := fun p => World.frozen?_setCell _ _ _ _
  refine ⟨⟨slAt_set h.im.st _ _, slAt_set h.im.sm _ _, slAt_set h.im.se _ _, fun i hi => ⟨fun j u hu => ?_, (h.im.tk i hi).2⟩, fun i hi => ⟨?_, ?_, ?_⟩, fun i hi j hj => ?_, fun i hi => ⟨fun j u hu => ?_, (h.im.ed i hi).2⟩⟩,
    fun h0 => ⟨(h.t h0).1, fun j => (hfr _).trans ((h.t h0).2 j)⟩, fun h0 => ⟨(h.m h0).1, fun j => (hfr _).trans ((h.m h0).2 j)⟩, fun h0 => ⟨(h.e h0).1, fun j => (hfr _).trans ((h.e h0).2 j)⟩, fun i h1 h2 h0 => ?_⟩
  · obtain ⟨z, rfl⟩ := taskC_int hu
    exact cell_kind ((h.im.tk i hi).1 j _ hu) ha (by simp)
  · exact cell_kind (h.im.md i hi).1 ha (by simp)
  · show _ = some (Value.slice (if i = k then s else S.q i).sp _ (if i = k then s else S.q i).c)
    by_cases e : i = k
    · subst e
      rw [if_pos rfl]
      exact World.cell?_setCell_same _ _ _ ha
    · rw [if_neg e]
      refine (World.cell?_setCell_other _ _ _ _ ?_).trans (h.im.md i hi).2.1
      intro h1
      simp only [ImgS.setq, Addr.mk.injEq] at h1
      omega
  · show SlAt _ _ (if i = k then s else S.q i) _
    by_cases e : i = k
    · subst e
      rw [if_pos rfl]
      exact ⟨fun h0 => ⟨(hs h0).1, by rw [size_set]; exact (hs h0).2.2.1, fun h => h⟩, (h.im.md i hi).2.2.sm⟩
    · rw [if_neg e]
      exact slAt_set (h.im.md i hi).2.2 _ _
  · show (World.setCell _ _ _).cell? ⟨(if i = k then s else S.q i).b, (if i = k then s else S.q i).o + j * 2, none⟩ = _ ∧ (World.setCell _ _ _).cell? ⟨(if i = k then s else S.q i).b, (if i = k then s else S.q i).o + j * 2 + 1, none⟩ = _
    by_cases e : i = k
    · subst e
      rw [if_pos rfl]
      have h1 := hq j hj
      exact ⟨cell_kind (h1 0 _ rfl) ha (by simp), cell_kind (h1 1 _ rfl) ha (by simp)⟩
    · rw [if_neg e]
      exact ⟨cell_kind (h.im.qu i hi j hj).1 ha (by simp), cell_kind (h.im.qu i hi j hj).2 ha (by simp)⟩
  · obtain ⟨z, rfl⟩ := edgeC_int hu
    exact cell_kind ((h.im.ed i hi).1 j _ hu) ha (by simp)
  · show b ≤ (if i = k then s else S.q i).b ∧ ∀ j, (World.setCell _ _ _).frozen? ⟨(if i = k then s else S.q i).b, j, none⟩ = false
    by_cases e : i = k
    · subst e
      rw [if_pos rfl]
      exact ⟨(hs h0).2.1, fun j => (hfr _).trans ((hs h0).2.2.2 j)⟩
    · rw [if_neg e]
      exact ⟨(h.q i (by omega) h2 h0).1, fun j => (hfr _).trans ((h.q i (by omega) h2 h0).2 j)⟩
/-- Rows that lie in a block of their own. -/
structure RowsAt (w : World) (b0 : Nat) (r : Src) (n sz : Nat) (f : Nat → List Value) : Prop where
  s : 0 < n → r.sp = some ⟨r.b, r.o, none⟩ ∧ b0 ≤ r.b ∧ r.b < w.heap.size ∧ ∀ j, w.frozen? ⟨r.b, j, none⟩ = false
  at_ : ∀ k, k < n → At w r.b (r.o + k * sz) (f k)
theorem RowsAt.keep {T : Nat → Prop} {w w1 : World} {b0 : Nat} {r : Src} {n sz : Nat} {f : Nat → List Value} (h : RowsAt w b0 r n sz f) (c : Ch T w w1) (hT : 0 < n → ¬ T r.b) : RowsAt w1 b0 r n sz f :=
  ⟨fun h0 => ⟨(h.s h0).1, (h.s h0).2.1, Nat.lt_of_lt_of_le (h.s h0).2.2.1 c.size, fun j => (c.frozen (h.s h0).2.2.1 (hT h0)).trans ((h.s h0).2.2.2 j)⟩, fun k hk => (h.at_ k hk).keep c (hT (by omega))⟩
theorem RowsAt.new {w w1 : World} {b0 : Nat} {r : Src} {n sz : Nat} {f : Nat → List Value} (h : RowsAt w b0 r n sz f) (hb : Below w.heap.size w w1) : RowsAt w1 b0 r n sz f := h.keep (Ch.new (T := fun _ => False) hb) (fun _ h => h)
theorem rows_of {w : World} {base b0 sz n : Nat} {v : Value} {f : Nat → List Value} {e : TypeId} (h : w.ownsRow base e sz v n (rowsOf f n)) (hf : ∀ k, k < n → (f k).length = sz) (hn : n ≤ 9223372036854775807) (hb : b0 ≤ base) : ∃ s : Src, v = .slice s.sp n s.c ∧ RowsAt w b0 s n sz f := by
  obtain ⟨s, h1, h2, h3⟩ := own_rows h hf hn
  exact ⟨s, h1, fun h0 => ⟨(h2 h0).1, Nat.le_trans hb (h2 h0).2.1, (h2 h0).2.2⟩, h3⟩
theorem ImgAt.begin {w w' : World} {V : Nat → Prop} {x : Img} {S : ImgS} {b0 : Nat} {t m e : Src} (h : ImgAt w V x S) (hb : Below w.heap.size w w') (ht : RowsAt w' b0 t x.tasks.length 11 (fun k => taskC (x.t k))) (hm : RowsAt w' b0 m x.modes.length 2 (mRow x S)) (he : RowsAt w' b0 e x.edges.length 23 (fun k => edgeC (x.e k))) :
    CpAt w' b0 0 x ⟨t, m, e, S.q⟩ := by
  have h1 := (h.new hb).more (V' := fun _ => False) (fun _ _ h => h.elim)
  exact ⟨⟨⟨fun h0 => ⟨(ht.s h0).1, (ht.s h0).2.2.1, fun h => h⟩, h.st.sm⟩, ⟨fun h0 => ⟨(hm.s h0).1, (hm.s h0).2.2.1, fun h => h⟩, h.sm.sm⟩, ⟨fun h0 => ⟨(he.s h0).1, (he.s h0).2.2.1, fun h => h⟩, h.se.sm⟩,
    fun k hk => ⟨ht.at_ k hk, (h.tk k hk).2⟩, fun k hk => ⟨hm.at_ k hk 0 _ rfl, hm.at_ k hk 1 _ rfl, (h1.md k hk).2.2⟩, fun k hk j hj => h1.qu k hk j hj, fun k hk => ⟨he.at_ k hk, (h.ed k hk).2⟩⟩,
    fun h0 => ⟨(ht.s h0).2.1, (ht.s h0).2.2.2⟩, fun h0 => ⟨(hm.s h0).2.1, (hm.s h0).2.2.2⟩, fun h0 => ⟨(he.s h0).2.1, (he.s h0).2.2.2⟩, fun i hi => absurd hi (Nat.not_lt_zero i)⟩
theorem CpAt.apart {w : World} {b : Nat} {x : Img} {S : ImgS} (h : CpAt w b x.modes.length x S) : ImgAt w (fun j => j < b) x S where
  st := ⟨fun h0 => ⟨(h.im.st.at_ h0).1, (h.im.st.at_ h0).2.1, Nat.not_lt.2 (h.t h0).1⟩, h.im.st.sm⟩
  sm := ⟨fun h0 => ⟨(h.im.sm.at_ h0).1, (h.im.sm.at_ h0).2.1, Nat.not_lt.2 (h.m h0).1⟩, h.im.sm.sm⟩
  se := ⟨fun h0 => ⟨(h.im.se.at_ h0).1, (h.im.se.at_ h0).2.1, Nat.not_lt.2 (h.e h0).1⟩, h.im.se.sm⟩
  tk := h.im.tk
  md := fun k hk => ⟨(h.im.md k hk).1, (h.im.md k hk).2.1, ⟨fun h0 => ⟨((h.im.md k hk).2.2.at_ h0).1, ((h.im.md k hk).2.2.at_ h0).2.1, Nat.not_lt.2 (h.q k hk hk h0).1⟩, (h.im.md k hk).2.2.sm⟩⟩
  qu := h.im.qu
  ed := h.im.ed
theorem CpAt.off {w w' : World} {b : Nat} {x : Img} {S : ImgS} (h : CpAt w b x.modes.length x S) (c : Ch (fun j => j < b) w w') : CpAt w' b x.modes.length x S where
  im := (h.apart.keep c).more (fun _ _ h => h.elim)
  t := fun h0 => ⟨(h.t h0).1, fun j => (c.frozen (h.im.st.at_ h0).2.1 (Nat.not_lt.2 (h.t h0).1)).trans ((h.t h0).2 j)⟩
  m := fun h0 => ⟨(h.m h0).1, fun j => (c.frozen (h.im.sm.at_ h0).2.1 (Nat.not_lt.2 (h.m h0).1)).trans ((h.m h0).2 j)⟩
  e := fun h0 => ⟨(h.e h0).1, fun j => (c.frozen (h.im.se.at_ h0).2.1 (Nat.not_lt.2 (h.e h0).1)).trans ((h.e h0).2 j)⟩
  q := fun i h1 h2 h0 => ⟨(h.q i h1 h2 h0).1, fun j => (c.frozen ((h.im.md i h2).2.2.at_ h0).2.1 (Nat.not_lt.2 (h.q i h1 h2 h0).1)).trans ((h.q i h1 h2 h0).2 j)⟩
theorem CpAt.mono {w : World} {b b' k : Nat} {x : Img} {S : ImgS} (h : CpAt w b k x S) (hb : b' ≤ b) : CpAt w b' k x S :=
  ⟨h.im, fun h0 => ⟨Nat.le_trans hb (h.t h0).1, (h.t h0).2⟩, fun h0 => ⟨Nat.le_trans hb (h.m h0).1, (h.m h0).2⟩, fun h0 => ⟨Nat.le_trans hb (h.e h0).1, (h.e h0).2⟩, fun i h1 h2 h0 => ⟨Nat.le_trans hb (h.q i h1 h2 h0).1, (h.q i h1 h2 h0).2⟩⟩
theorem row_src {w wx : World} {V : Nat → Prop} {s : Src} {n sz : Nat} {f : Nat → List Value} (hs : SlAt w V s n) (hb : Below w.heap.size w wx) (hsz : 0 < sz) (hl : ∀ k, k < n → (f k).length = sz) (h : ∀ k, k < n → At wx s.b (s.o + k * sz) (f k)) :
    ∀ ad, s.sp = some ad → ∀ j u, (rowsOf f n)[j]? = some u → ad.block < wx.heap.size ∧ wx.cell? (ad.add j) = some u := by
  intro ad e j u hu
  rcases Nat.eq_zero_or_pos n with h0 | h0
  · subst h0; simp [rowsOf] at hu
  · rw [(hs.at_ h0).1] at e
    obtain rfl := Option.some.inj e
    exact ⟨Nat.lt_of_lt_of_le (hs.at_ h0).2.1 hb.size, rowsOf_src hsz hl h j u hu⟩
theorem nil_len {w : World} {V : Nat → Prop} {s : Src} {n : Nat} (hs : SlAt w V s n) (e : s.sp = none) : n = 0 := by
  rcases Nat.eq_zero_or_pos n with h0 | h0
  · exact h0
  · rw [(hs.at_ h0).1] at e; cases e
set_option maxHeartbeats 8000000 in
set_option maxRecDepth 100000 in
theorem iCopy_any {w : World} {V : Nat → Prop} {x : Img} {S : ImgS} (h : ImgAt w V x S) (hT : x.tasks.length ≤ 1000) (hM : x.modes.length ≤ 1000) (hE : x.edges.length ≤ 1000) (hQ : ∀ k, k < x.modes.length → (x.m k).qs.length ≤ 1000) :
    Calls Try.prog 16 #[.agg #[.int .i64 x.res, .slice S.t.sp x.tasks.length S.t.c, .slice S.m.sp x.modes.length S.m.c, .slice S.e.sp x.edges.length S.e.c]] w fun e w' => ∃ S' : ImgS, e = .returned (.agg #[.int .i64 x.res, .slice S'.t.sp x.tasks.length S'.t.c, .slice S'.m.sp x.modes.length S'.m.c, .slice S'.e.sp x.edges.length S'.e.c]) ∧ CpAt w' w.heap.size x.modes.length x S' ∧ Below w.heap.size w w' := by
  have HCT := Lib.hid (fun (wx : World) (hb : Below w.heap.size w wx) => cloneT_any (w := wx) S.t.sp x.tasks.length S.t.c (rowsOf (fun k => taskC (x.t k)) x.tasks.length) (rowsOf_len _ fun k hk => taskC_len (h.tk k hk).2) (nil_len h.st)
    (row_src (sz := 11) h.st hb (by decide) (fun k hk => taskC_len (h.tk k hk).2) fun k hk => ((h.new hb).tk k hk).1) (rowsOf_all (p := fun u => u.oneCell' = true) fun k hk u hu => List.all_eq_true.1 (taskC_one (x.t k)) u hu) hT)
  have HCE := Lib.hid (fun (wx : World) (hb : Below w.heap.size w wx) => cloneE_any (w := wx) S.e.sp x.edges.length S.e.c (rowsOf (fun k => edgeC (x.e k)) x.edges.length) (rowsOf_len _ fun k hk => edgeC_len (h.ed k hk).2.1 (h.ed k hk).2.2) (nil_len h.se)
    (row_src (sz := 23) h.se hb (by decide) (fun k hk => edgeC_len (h.ed k hk).2.1 (h.ed k hk).2.2) fun k hk => ((h.new hb).ed k hk).1) (rowsOf_all (p := fun u => u.oneCell' = true) fun k hk u hu => List.all_eq_true.1 (edgeC_one (x.e k)) u hu) hE)
  have HCM := Lib.hid (fun (wx : World) (hb : Below w.heap.size w wx) => cloneM_any (w := wx) S.m.sp x.modes.length S.m.c (rowsOf (mRow x S) x.modes.length) (rowsOf_len _ fun k hk => rfl) (nil_len h.sm)
    (row_src (sz := 2) h.sm hb (by decide) (fun k hk => rfl) fun k hk => modeAt (h.new hb) k hk) (rowsOf_all (p := fun u => u.oneCell' = true) fun k hk u hu => by simp [mRow] at hu; rcases hu with rfl | rfl <;> rfl) hM)
  have HCQ := Lib.hid (fun (k : Nat) (hk : k < x.modes.length) (wx : World) (hb : Below w.heap.size w wx) => cloneQ_any (w := wx) (S.q k).sp (x.m k).qs.length (S.q k).c (rowsOf (fun j => qRow (qth (x.m k).qs j)) (x.m k).qs.length) (rowsOf_len _ fun j hj => rfl) (nil_len (h.md k hk).2.2)
    (row_src (sz := 2) (h.md k hk).2.2 hb (by decide) (fun j hj => rfl) fun j hj i u hu => by
      have h1 := (h.new hb).qu k hk j hj
      rcases i with _ | _ | i
      · obtain rfl : _ = u := by simpa [qRow] using hu
        exact h1.1
      · obtain rfl : _ = u := by simpa [qRow] using hu
        exact h1.2
      · simp [qRow] at hu) (rowsOf_all (p := fun u => u.oneCell' = true) fun j hj u hu => by simp [qRow] at hu; rcases hu with rfl | rfl <;> rfl) (hQ k hk))
  have HI := Lib.hid h
  have HLL := Lib.hid (show (∀ k, k < x.tasks.length → (taskC (x.t k)).length = 11) ∧ (∀ k, k < x.modes.length → (mRow x S k).length = 2) ∧ ∀ k, k < x.edges.length → (edgeC (x.e k)).length = 23 from ⟨fun k hk => taskC_len (h.tk k hk).2, fun k hk => rfl, fun k hk => edgeC_len (h.ed k hk).2.1 (h.ed k hk).2.2⟩)
  have HLT := Lib.hid (And.intro hT (And.intro hM hE))
  obtain ⟨sT, hsT⟩ : ∃ s, S.t.sp = s := ⟨_, rfl⟩
  obtain ⟨sM, hsM⟩ : ∃ s, S.m.sp = s := ⟨_, rfl⟩
  obtain ⟨sE, hsE⟩ : ∃ s, S.e.sp = s := ⟨_, rfl⟩
  obtain ⟨nT, hnT⟩ : ∃ n, x.tasks.length = n := ⟨_, rfl⟩
  obtain ⟨nM, hnM⟩ : ∃ n, x.modes.length = n := ⟨_, rfl⟩
  obtain ⟨nE, hnE⟩ : ∃ n, x.edges.length = n := ⟨_, rfl⟩
  obtain ⟨res, hres⟩ : ∃ r, x.res = r := ⟨_, rfl⟩
  have HN := Lib.hid (And.intro hnT (And.intro hnM hnE))
  rw [hnT, hnM, hnE] at HLL
  rw [hnT, hsT] at HCT
  rw [hnM, hsM] at HCM
  rw [hnE, hsE] at HCE
  rw [hnM] at HCQ
  rw [hnT, hnM, hnE, hsT, hsM, hsE, hres]
  obtain ⟨Z, hZ⟩ : ∃ Z, Z = w.heap.size := ⟨_, rfl⟩
  have HZ := Lib.hid (show ∀ w2, (w.alloc (.cells #[.int .i64 res, .slice sT nT S.t.c, .slice sM nM S.m.c, .slice sE nE S.e.c] 26)).alloc (.cells #[.int .i64 0, .slice none 0 0, .slice none 0 0, .slice none 0 0] 26) = w2 → Below w.heap.size w w2 ∧ RowAt w2 Z 26 #[.int .i64 res, .slice sT nT S.t.c, .slice sM nM S.m.c, .slice sE nE S.e.c] ∧ RowAt w2 (Z + 1) 26 #[.int .i64 0, .slice none 0 0, .slice none 0 0, .slice none 0 0] from fun w2 hw => by
    rw [← hw, hZ]; exact two_alloc (Below.refl _ _))
  have HZZ := Lib.hid (show w.heap.size = Z from hZ.symm)
  rw [hnM] at hM
  rw [hnT] at hT
  rw [hnE] at hE
  clear h hnT hnM hnE hsT hsM hsE hres hQ
  go_enter Try.func16, Try.ntmps16
  go_upto_region 1 with fail
  rw [← hZ]
  generalize hw2 : World.alloc _ _ = w2
  have HZ2 := Lib.hid (HZ.out w2 hw2)
  clear hw2 hZ HZ
  refine wp_region_l (fun w' => Below w.heap.size w w' ∧ RowAt w' Z 26 #[.int .i64 res, .slice sT nT S.t.c, .slice sM nM S.m.c, .slice sE nE S.e.c] ∧ RowAt w' (Z + 1) 26 #[.int .i64 0, .slice none 0 0, .slice none 0 0, .slice none 0 0]) (fun i => Nat.beq i 10 || Nat.beq i 11 || Nat.beq i 12 || Nat.beq i 13 || Nat.beq i 14) (by kernel_rfl) (rrD HZ2.out) (fun hS => ?_)
  refine wpAnyL_take (i := 0) (oi := { dst := some 4, op := .fieldAddr 26 (.tmp 1) 1, type := 0, pos := "image.go:197", after := #[], guard := none }) (v := ?_) rfl (by kernel_rfl) (by kernel_rfl) (by kernel_rfl) (by kernel_rfl) (fun _ _ _ h => h) (Or.inl ⟨by rfl, ?_⟩) hS ?_
  rotate_left 1
  · intro w hw; obtain ⟨s0, s1, s2⟩ := hw; go_simp; try (with_reducible rfl)
  simp only [Act.put, List.setIfInBounds_toArray, List.set_cons_zero, List.set_cons_succ]
  refine wpAnyL_take (i := 1) (oi := { dst := some 5, op := .load 22 (.tmp 4), type := 22, pos := "image.go:197", after := #[{ on := 0, ground := .data }], guard := none }) (v := ?_) rfl (by kernel_rfl) (by kernel_rfl) (by kernel_rfl) (by kernel_rfl) (fun _ _ _ h => h) (Or.inl ⟨by rfl, ?_⟩) hS ?_
  rotate_left 1
  · intro w hw; obtain ⟨s0, s1, s2⟩ := hw; have k0 := s1.cell 1; simp at k0; go_simp; try (with_reducible rfl)
  simp only [Act.put, List.setIfInBounds_toArray, List.set_cons_zero, List.set_cons_succ]
  refine wpAnyL_take (i := 3) (oi := { dst := some 7, op := .fieldAddr 26 (.tmp 1) 2, type := 0, pos := "image.go:197", after := #[], guard := none }) (v := ?_) rfl (by kernel_rfl) (by kernel_rfl) (by kernel_rfl) (by kernel_rfl) (fun _ _ _ h => h) (Or.inl ⟨by rfl, ?_⟩) hS ?_
  rotate_left 1
  · intro w hw; obtain ⟨s0, s1, s2⟩ := hw; go_simp; try (with_reducible rfl)
  simp only [Act.put, List.setIfInBounds_toArray, List.set_cons_zero, List.set_cons_succ]
  refine wpAnyL_take (i := 4) (oi := { dst := some 8, op := .load 23 (.tmp 7), type := 23, pos := "image.go:197", after := #[{ on := 3, ground := .data }], guard := none }) (v := ?_) rfl (by kernel_rfl) (by kernel_rfl) (by kernel_rfl) (by kernel_rfl) (fun _ _ _ h => h) (Or.inl ⟨by rfl, ?_⟩) hS ?_
  rotate_left 1
  · intro w hw; obtain ⟨s0, s1, s2⟩ := hw; have k0 := s1.cell 2; simp at k0; go_simp; try (with_reducible rfl)
  simp only [Act.put, List.setIfInBounds_toArray, List.set_cons_zero, List.set_cons_succ]
  refine wpAnyL_take (i := 6) (oi := { dst := some 10, op := .fieldAddr 26 (.tmp 1) 3, type := 0, pos := "image.go:197", after := #[], guard := none }) (v := ?_) rfl (by kernel_rfl) (by kernel_rfl) (by kernel_rfl) (by kernel_rfl) (fun _ _ _ h => h) (Or.inl ⟨by rfl, ?_⟩) hS ?_
  rotate_left 1
  · intro w hw; obtain ⟨s0, s1, s2⟩ := hw; go_simp; try (with_reducible rfl)
  simp only [Act.put, List.setIfInBounds_toArray, List.set_cons_zero, List.set_cons_succ]
  refine wpAnyL_take (i := 7) (oi := { dst := some 11, op := .load 24 (.tmp 10), type := 24, pos := "image.go:197", after := #[{ on := 6, ground := .data }], guard := none }) (v := ?_) rfl (by kernel_rfl) (by kernel_rfl) (by kernel_rfl) (by kernel_rfl) (fun _ _ _ h => h) (Or.inl ⟨by rfl, ?_⟩) hS ?_
  rotate_left 1
  · intro w hw; obtain ⟨s0, s1, s2⟩ := hw; have k0 := s1.cell 3; simp at k0; go_simp; try (with_reducible rfl)
  simp only [Act.put, List.setIfInBounds_toArray, List.set_cons_zero, List.set_cons_succ]
  refine wpAnyL_ready (rs := [2]) (by kernel_rfl) (by simp) (AllReadyL.cons (o := { dst := some 6, op := .call { callee := .value (.func 45), args := #[.tmp 5], argTypes := #[22] }, type := 22, pos := "image.go:197", after := #[{ on := 1, ground := .data }], guard := none }) rfl (fun K hK => ?_) AllReadyL.nil)
  go_simp
  go_at_call 45
  refine (HCT.out _ (rrD HZ2.out).1).mono ?_
  rintro e w3 ⟨v3, rfl, o3, b3⟩
  obtain ⟨St, rfl, r3⟩ := rows_of o3 HLL.out.1 (by omega) (show Z + 2 ≤ _ from (rrD HZ2.out).2.2.lt)
  clear o3
  have H3 := Lib.hid (And.intro (rrKeep (rrD HZ2.out) b3) r3)
  clear b3 r3
  try dsimp only
  refine hK.out _ _ H3.out.1 (fun hHeld => ?_)
  clear hK K
  try simp only [Act.put, List.setIfInBounds_toArray, List.set_cons_zero, List.set_cons_succ]
  refine wpAnyL_take (i := 9) (oi := { dst := some 13, op := .fieldAddr 26 (.tmp 1) 1, type := 0, pos := "image.go:197", after := #[{ on := 0, ground := .phase }, { on := 1, ground := .phase }, { on := 2, ground := .phase }, { on := 3, ground := .phase }, { on := 4, ground := .phase }, { on := 5, ground := .textOnly Go.Departure.lateStoresUnsure }, { on := 6, ground := .phase }, { on := 7, ground := .phase }, { on := 8, ground := .textOnly Go.Departure.lateStoresUnsure }], guard := none }) (v := ?_) rfl (by kernel_rfl) (by kernel_rfl) (by kernel_rfl) (by kernel_rfl) (fun _ _ _ h => h) (Or.inl ⟨by rfl, ?_⟩) H3.out.1 ?_
  rotate_left 1
  · intro w hw; obtain ⟨s0, s1, s2⟩ := hw; go_simp; try (with_reducible rfl)
  simp only [Act.put, List.setIfInBounds_toArray, List.set_cons_zero, List.set_cons_succ]
  refine wpAnyL_ready (rs := [5]) (by kernel_rfl) (by simp) (AllReadyL.cons (o := { dst := some 9, op := .call { callee := .value (.func 46), args := #[.tmp 8], argTypes := #[23] }, type := 23, pos := "image.go:197", after := #[{ on := 4, ground := .data }, { on := 2, ground := .chain }], guard := none }) rfl (fun K hK => ?_) AllReadyL.nil)
  go_simp
  go_at_call 46
  refine (HCM.out _ (H3.out.1).1).mono ?_
  rintro e w4 ⟨v4, rfl, o4, b4⟩
  obtain ⟨Sm, rfl, r4⟩ := rows_of o4 HLL.out.2.1 (by omega) (show Z + 2 ≤ _ from H3.out.1.2.2.lt)
  clear o4
  have H4 := Lib.hid (And.intro (rrKeep H3.out.1 b4) (And.intro (H3.out.2.new b4) r4))
  clear b4 r4
  try dsimp only
  refine hK.out _ _ H4.out.1 (fun hHeld => ?_)
  clear hK K
  try simp only [Act.put, List.setIfInBounds_toArray, List.set_cons_zero, List.set_cons_succ]
  refine wpAnyL_ready (rs := [8]) (by kernel_rfl) (by simp) (AllReadyL.cons (o := { dst := some 12, op := .call { callee := .value (.func 47), args := #[.tmp 11], argTypes := #[24] }, type := 24, pos := "image.go:197", after := #[{ on := 7, ground := .data }, { on := 5, ground := .chain }], guard := none }) rfl (fun K hK => ?_) AllReadyL.nil)
  go_simp
  go_at_call 47
  refine (HCE.out _ (H4.out.1).1).mono ?_
  rintro e w5 ⟨v5, rfl, o5, b5⟩
  obtain ⟨Se, rfl, r5⟩ := rows_of o5 HLL.out.2.2 (by omega) (show Z + 2 ≤ _ from H4.out.1.2.2.lt)
  clear o5
  have H5 := Lib.hid (And.intro (rrKeep H4.out.1 b5) (And.intro (H4.out.2.1.new b5) (And.intro (H4.out.2.2.new b5) r5)))
  clear b5 r5
  have c1 : w5.cell? ⟨Z, 1, none⟩ = some (.slice sT nT S.t.c) := H5.out.1.2.1.cell 1
  have c2 : w5.cell? ⟨Z, 2, none⟩ = some (.slice sM nM S.m.c) := H5.out.1.2.1.cell 2
  have c3 : w5.cell? ⟨Z, 3, none⟩ = some (.slice sE nE S.e.c) := H5.out.1.2.1.cell 3
  have f1 : w5.frozen? ⟨Z, 1, none⟩ = false := H5.out.1.2.1.fr 1
  have f2 : w5.frozen? ⟨Z, 2, none⟩ = false := H5.out.1.2.1.fr 2
  have f3 : w5.frozen? ⟨Z, 3, none⟩ = false := H5.out.1.2.1.fr 3
  try dsimp only
  refine hK.out _ _ H5.out.1 (fun hHeld => ?_)
  clear hK K
  try simp only [Act.put, List.setIfInBounds_toArray, List.set_cons_zero, List.set_cons_succ]
  refine wpAnyL_ready (rs := [10]) (by kernel_rfl) (by simp) (AllReadyL.last (l := 10) (by rfl) (o := { dst := none, op := .store 22 (.tmp 13) (.tmp 6), type := 0, pos := "image.go:197", after := #[{ on := 9, ground := .data }, { on := 2, ground := .data }, { on := 8, ground := .chain }, { on := 0, ground := .phase }, { on := 1, ground := .phase }, { on := 2, ground := .phase }, { on := 3, ground := .phase }, { on := 4, ground := .phase }, { on := 5, ground := .textOnly Go.Departure.lateStoresUnsure }, { on := 6, ground := .phase }, { on := 7, ground := .phase }, { on := 8, ground := .textOnly Go.Departure.lateStoresUnsure }], guard := none }) rfl (fun K hK => ?_))
  go_simp
  refine hK.out _ _ ?_
  clear hK K
  try simp only [Act.put, List.setIfInBounds_toArray, List.set_cons_zero, List.set_cons_succ]
  refine wpAnyL_ready (rs := [11]) (by kernel_rfl) (by simp) (AllReadyL.last (l := 11) (by rfl) (o := { dst := some 14, op := .fieldAddr 26 (.tmp 1) 2, type := 0, pos := "image.go:197", after := #[{ on := 0, ground := .phase }, { on := 1, ground := .phase }, { on := 2, ground := .phase }, { on := 3, ground := .phase }, { on := 4, ground := .phase }, { on := 5, ground := .phase }, { on := 6, ground := .phase }, { on := 7, ground := .phase }, { on := 8, ground := .textOnly Go.Departure.lateStoresUnsure }, { on := 9, ground := .phase }, { on := 10, ground := .phase }], guard := none }) rfl (fun K hK => ?_))
  go_simp
  refine hK.out _ _ ?_
  clear hK K
  try simp only [Act.put, List.setIfInBounds_toArray, List.set_cons_zero, List.set_cons_succ]
  refine wpAnyL_ready (rs := [12]) (by kernel_rfl) (by simp) (AllReadyL.last (l := 12) (by rfl) (o := { dst := none, op := .store 23 (.tmp 14) (.tmp 9), type := 0, pos := "image.go:197", after := #[{ on := 11, ground := .data }, { on := 5, ground := .data }, { on := 10, ground := .chain }, { on := 0, ground := .phase }, { on := 1, ground := .phase }, { on := 2, ground := .phase }, { on := 3, ground := .phase }, { on := 4, ground := .phase }, { on := 5, ground := .phase }, { on := 6, ground := .phase }, { on := 7, ground := .phase }, { on := 8, ground := .textOnly Go.Departure.lateStoresUnsure }, { on := 9, ground := .phase }, { on := 10, ground := .phase }], guard := none }) rfl (fun K hK => ?_))
  go_simp
  refine hK.out _ _ ?_
  clear hK K
  try simp only [Act.put, List.setIfInBounds_toArray, List.set_cons_zero, List.set_cons_succ]
  refine wpAnyL_ready (rs := [13]) (by kernel_rfl) (by simp) (AllReadyL.last (l := 13) (by rfl) (o := { dst := some 15, op := .fieldAddr 26 (.tmp 1) 3, type := 0, pos := "image.go:197", after := #[{ on := 0, ground := .phase }, { on := 1, ground := .phase }, { on := 2, ground := .phase }, { on := 3, ground := .phase }, { on := 4, ground := .phase }, { on := 5, ground := .phase }, { on := 6, ground := .phase }, { on := 7, ground := .phase }, { on := 8, ground := .phase }, { on := 9, ground := .phase }, { on := 10, ground := .phase }, { on := 11, ground := .phase }, { on := 12, ground := .phase }], guard := none }) rfl (fun K hK => ?_))
  go_simp
  refine hK.out _ _ ?_
  clear hK K
  try simp only [Act.put, List.setIfInBounds_toArray, List.set_cons_zero, List.set_cons_succ]
  refine wpAnyL_ready (rs := [14]) (by kernel_rfl) (by simp) (AllReadyL.last (l := 14) (by rfl) (o := { dst := none, op := .store 24 (.tmp 15) (.tmp 12), type := 0, pos := "image.go:197", after := #[{ on := 13, ground := .data }, { on := 8, ground := .data }, { on := 12, ground := .chain }, { on := 0, ground := .phase }, { on := 1, ground := .phase }, { on := 2, ground := .phase }, { on := 3, ground := .phase }, { on := 4, ground := .phase }, { on := 5, ground := .phase }, { on := 6, ground := .phase }, { on := 7, ground := .phase }, { on := 8, ground := .phase }, { on := 9, ground := .phase }, { on := 10, ground := .phase }, { on := 11, ground := .phase }, { on := 12, ground := .phase }], guard := none }) rfl (fun K hK => ?_))
  go_simp
  refine hK.out _ _ ?_
  clear hK K
  try simp only [Act.put, List.setIfInBounds_toArray, List.set_cons_zero, List.set_cons_succ]
  refine wpAnyL_done (by kernel_rfl) ?_ _

  clear c1 c2 c3 f1 f2 f3 hHeld HCT HCM HCE
  obtain ⟨w6, hw6⟩ : ∃ w6, ((w5.setCell ⟨Z, 1, none⟩ (.slice St.sp nT St.c)).setCell ⟨Z, 2, none⟩ (.slice Sm.sp nM Sm.c)).setCell ⟨Z, 3, none⟩ (.slice Se.sp nE Se.c) = w6 := ⟨_, rfl⟩
  have H6 := Lib.hid (show Below w.heap.size w w6 ∧ RowAt w6 Z 26 #[.int .i64 res, .slice St.sp nT St.c, .slice Sm.sp nM Sm.c, .slice Se.sp nE Se.c] ∧ RowAt w6 (Z + 1) 26 #[.int .i64 0, .slice none 0 0, .slice none 0 0, .slice none 0 0] ∧ CpAt w6 (Z + 2) 0 x ⟨St, Sm, Se, S.q⟩ by
    have hc : Ch (fun j => j = Z) w5 w6 := by rw [← hw6]; exact (((Ch.refl (fun j => j = Z) w5).setCell ⟨Z, 1, none⟩ _ (.inl rfl)).setCell ⟨Z, 2, none⟩ _ (.inl rfl)).setCell ⟨Z, 3, none⟩ _ (.inl rfl)
    have hb : Below w.heap.size w w6 := H5.out.1.1.trans (hc.below (fun j hj e => by have := HZZ.out; omega) H5.out.1.1.size)
    have r1 := H5.out.2.1.keep hc (fun h0 e => by have := (H5.out.2.1.s h0).2.1; omega)
    have r2 := H5.out.2.2.1.keep hc (fun h0 e => by have := (H5.out.2.2.1.s h0).2.1; omega)
    have r3 := H5.out.2.2.2.keep hc (fun h0 e => by have := (H5.out.2.2.2.s h0).2.1; omega)
    rw [← HN.out.1] at r1
    rw [← HN.out.2.1] at r2
    rw [← HN.out.2.2] at r3
    refine ⟨hb, ?_, H5.out.1.2.2.keep hc (by omega), HI.out.begin hb r1 r2 r3⟩
    rw [← hw6]
    exact ((H5.out.1.2.1.setC 1 _).setC 2 _).setC 3 _)
  rw [hw6]
  clear hw6 H5 HI HZ2
  have c2 : w6.cell? ⟨Z, 2, none⟩ = some (.slice Sm.sp nM Sm.c) := H6.out.2.1.cell 2
  go_wp2
  clear c2
  obtain ⟨msp, mb, mo, mc⟩ := Sm
  dsimp only at H6 ⊢
  go_loopg [19] nM (fun g u wr => ∃ k : Nat, k + g = nM ∧ u = .int .i64 (k : Nat) ∧ Aside (∃ Sk : ImgS, Sk.t = St ∧ Sk.m = ⟨msp, mb, mo, mc⟩ ∧ Sk.e = Se ∧ (∀ i, k ≤ i → Sk.q i = S.q i) ∧ CpAt wr (Z + 2) k x Sk ∧ Below w.heap.size w wr ∧ RowAt wr Z 26 #[.int .i64 res, .slice St.sp nT St.c, .slice msp nM mc, .slice Se.sp nE Se.c] ∧ RowAt wr (Z + 1) 26 #[.int .i64 0, .slice none 0 0, .slice none 0 0, .slice none 0 0]))
  case atStart => exact ⟨0, by omega, rfl, ⟨⟨St, ⟨msp, mb, mo, mc⟩, Se, S.q⟩, rfl, rfl, rfl, fun _ _ => rfl, H6.out.2.2.2, H6.out.1, H6.out.2.1, H6.out.2.2.1⟩⟩
  clear H6
  case round =>
    obtain ⟨k, hkg, rfl, HR⟩ := hrel
    obtain ⟨Sk, q1, q2, q3, q4, hcp, hb, hrz, hrz1⟩ := HR.out
    have HS := Lib.hid (And.intro q1 (And.intro q2 (And.intro q3 q4)))
    have HC := Lib.hid hcp
    have HB := Lib.hid (And.intro hb (And.intro hrz hrz1))
    clear HR q1 q2 q3 q4 hcp hb hrz hrz1
    cases gk with
    | succ g1 =>
      have hk : k < nM := by omega
      have hkx : k < x.modes.length := by rw [HN.out.2.1]; exact hk
      have HKX := Lib.hid hkx
      have HG := Lib.hid hkg
      have hk2 : (k : Int) < (nM : Int) := by omega
      have hmsp : msp = some ⟨mb, mo, none⟩ := by have := (HC.out.im.sm.at_ (by omega)).1; rw [HS.out.2.1] at this; exact this
      subst hmsp
      have hcl := HC.out.im.md k hkx
      rw [HS.out.2.1, HS.out.2.2.2 k (Nat.le_refl _)] at hcl
      have HCk := Lib.hid (HCQ.out k hk)
      have hqn := hcl.2.2.sm
      obtain ⟨sq, hsq⟩ : ∃ s, (S.q k).sp = s := ⟨_, rfl⟩
      obtain ⟨cq, hcq⟩ : ∃ s, (S.q k).c = s := ⟨_, rfl⟩
      obtain ⟨nq, hnq⟩ : ∃ s, (x.m k).qs.length = s := ⟨_, rfl⟩
      have HNQ := Lib.hid hnq
      rw [hsq, hcq, hnq] at HCk
      have hcell := hcl.2.1
      rw [hsq, hcq, hnq] at hcell
      dsimp only at hcell
      rw [hnq] at hqn
      have HCC := Lib.hid hcell
      have HFR := Lib.hid (show mb < wr.heap.size ∧ Z + 2 ≤ mb ∧ ∀ j, wr.frozen? ⟨mb, j, none⟩ = false from by
        have h1 := (HC.out.im.sm.at_ (by omega)).2.1
        have h2 := HC.out.m (by omega)
        rw [HS.out.2.1] at h1 h2
        exact ⟨h1, h2.1, h2.2⟩)
      clear hkx hkg hcl hsq hcq hnq hcell HCQ
      go_upto_region 5 with fail
      refine wp_region_g (fun w' => (Below w.heap.size w w' ∧ RowAt w' Z 26 #[.int .i64 res, .slice St.sp nT St.c, .slice (some ⟨mb, mo, none⟩) nM mc, .slice Se.sp nE Se.c] ∧ RowAt w' (Z + 1) 26 #[.int .i64 0, .slice none 0 0, .slice none 0 0, .slice none 0 0]) ∧ w'.cell? ⟨mb, mo + k * 2 + 1, none⟩ = some (.slice sq nq cq)) 12 (by kernel_rfl) ⟨rrD HB.out, HCC.out⟩ (fun hS => ?_)
      refine wpAnyG_take (i := 0) (oi := { dst := some 22, op := .fieldAddr 26 (.tmp 1) 2, type := 0, pos := "image.go:199", after := #[], guard := none }) (v := ?_) rfl (by kernel_rfl) (by kernel_rfl) (by kernel_rfl) (by kernel_rfl) (fun _ _ _ h => h) (Or.inl ⟨by rfl, ?_⟩) hS ?_
      rotate_left 1
      · intro w hw; obtain ⟨s0, s1⟩ := hw; go_simp; try (with_reducible rfl)
      simp only [Act.put, List.setIfInBounds_toArray, List.set_cons_zero, List.set_cons_succ]
      refine wpAnyG_take (i := 1) (oi := { dst := some 23, op := .load 23 (.tmp 22), type := 23, pos := "image.go:199", after := #[{ on := 0, ground := .data }], guard := none }) (v := ?_) rfl (by kernel_rfl) (by kernel_rfl) (by kernel_rfl) (by kernel_rfl) (fun _ _ _ h => h) (Or.inl ⟨by rfl, ?_⟩) hS ?_
      rotate_left 1
      · intro w hw; obtain ⟨s0, s1⟩ := hw; have k0 := s0.2.1.cell 2; simp at k0; go_simp; try (with_reducible rfl)
      simp only [Act.put, List.setIfInBounds_toArray, List.set_cons_zero, List.set_cons_succ]
      refine wpAnyG_take (i := 2) (oi := { dst := some 24, op := .move (.tmp 3), type := 3, pos := "image.go:199", after := #[], guard := none }) (v := ?_) rfl (by kernel_rfl) (by kernel_rfl) (by kernel_rfl) (by kernel_rfl) (fun _ _ _ h => h) (Or.inl ⟨by rfl, ?_⟩) hS ?_
      rotate_left 1
      · intro w hw; obtain ⟨s0, s1⟩ := hw; go_simp; try (with_reducible rfl)
      simp only [Act.put, List.setIfInBounds_toArray, List.set_cons_zero, List.set_cons_succ]
      refine wpAnyG_take (i := 3) (oi := { dst := some 25, op := .fieldAddr 26 (.tmp 1) 2, type := 0, pos := "image.go:199", after := #[], guard := none }) (v := ?_) rfl (by kernel_rfl) (by kernel_rfl) (by kernel_rfl) (by kernel_rfl) (fun _ _ _ h => h) (Or.inl ⟨by rfl, ?_⟩) hS ?_
      rotate_left 1
      · intro w hw; obtain ⟨s0, s1⟩ := hw; go_simp; try (with_reducible rfl)
      simp only [Act.put, List.setIfInBounds_toArray, List.set_cons_zero, List.set_cons_succ]
      refine wpAnyG_take (i := 4) (oi := { dst := some 26, op := .load 23 (.tmp 25), type := 23, pos := "image.go:199", after := #[{ on := 3, ground := .data }], guard := none }) (v := ?_) rfl (by kernel_rfl) (by kernel_rfl) (by kernel_rfl) (by kernel_rfl) (fun _ _ _ h => h) (Or.inl ⟨by rfl, ?_⟩) hS ?_
      rotate_left 1
      · intro w hw; obtain ⟨s0, s1⟩ := hw; have k0 := s0.2.1.cell 2; simp at k0; go_simp; try (with_reducible rfl)
      simp only [Act.put, List.setIfInBounds_toArray, List.set_cons_zero, List.set_cons_succ]
      refine wpAnyG_take (i := 5) (oi := { dst := some 27, op := .move (.tmp 3), type := 3, pos := "image.go:199", after := #[], guard := none }) (v := ?_) rfl (by kernel_rfl) (by kernel_rfl) (by kernel_rfl) (by kernel_rfl) (fun _ _ _ h => h) (Or.inl ⟨by rfl, ?_⟩) hS ?_
      rotate_left 1
      · intro w hw; obtain ⟨s0, s1⟩ := hw; go_simp; try (with_reducible rfl)
      simp only [Act.put, List.setIfInBounds_toArray, List.set_cons_zero, List.set_cons_succ]
      refine wpAnyG_take (i := 6) (oi := { dst := some 28, op := .indexAddr 23 (.tmp 26) (.tmp 27), type := 0, pos := "image.go:199", after := #[{ on := 4, ground := .data }, { on := 5, ground := .data }], guard := none }) (v := ?_) rfl (by kernel_rfl) (by kernel_rfl) (by kernel_rfl) (by kernel_rfl) (fun _ _ _ h => h) (Or.inl ⟨by rfl, ?_⟩) hS ?_
      rotate_left 1
      · intro w hw; obtain ⟨s0, s1⟩ := hw; go_simp; try (with_reducible rfl)
      simp only [Act.put, List.setIfInBounds_toArray, List.set_cons_zero, List.set_cons_succ]
      refine wpAnyG_take (i := 7) (oi := { dst := some 29, op := .fieldAddr 48 (.tmp 28) 1, type := 0, pos := "image.go:199", after := #[{ on := 6, ground := .data }], guard := none }) (v := ?_) rfl (by kernel_rfl) (by kernel_rfl) (by kernel_rfl) (by kernel_rfl) (fun _ _ _ h => h) (Or.inl ⟨by rfl, ?_⟩) hS ?_
      rotate_left 1
      · intro w hw; obtain ⟨s0, s1⟩ := hw; go_simp; try (with_reducible rfl)
      simp only [Act.put, List.setIfInBounds_toArray, List.set_cons_zero, List.set_cons_succ]
      refine wpAnyG_take (i := 8) (oi := { dst := some 30, op := .load 46 (.tmp 29), type := 46, pos := "image.go:199", after := #[{ on := 7, ground := .data }], guard := none }) (v := ?_) rfl (by kernel_rfl) (by kernel_rfl) (by kernel_rfl) (by kernel_rfl) (fun _ _ _ h => h) (Or.inl ⟨by rfl, ?_⟩) hS ?_
      rotate_left 1
      · intro w hw; obtain ⟨s0, s1⟩ := hw; go_simp; try (with_reducible rfl)
      simp only [Act.put, List.setIfInBounds_toArray, List.set_cons_zero, List.set_cons_succ]
      refine wpAnyG_ready (rs := [9]) (by kernel_rfl) (by simp) (AllReadyG.cons (o := { dst := some 31, op := .call { callee := .value (.func 48), args := #[.tmp 30], argTypes := #[46] }, type := 46, pos := "image.go:199", after := #[{ on := 8, ground := .data }], guard := none }) rfl (fun K hK => ?_) AllReadyG.nil)
      go_simp
      go_at_call 48
      refine (HCk.out _ (rrD HB.out).1).mono ?_
      rintro e w9 ⟨v9, rfl, o9, b9⟩
      obtain ⟨sQ, rfl, r9⟩ := rows_of o9 (fun _ _ => rfl) (by omega) (show Z + 2 ≤ _ from (rrD HB.out).2.2.lt)
      have H9 := Lib.hid (show (Below w.heap.size w w9 ∧ RowAt w9 Z 26 #[.int .i64 res, .slice St.sp nT St.c, .slice (some ⟨mb, mo, none⟩) nM mc, .slice Se.sp nE Se.c] ∧ RowAt w9 (Z + 1) 26 #[.int .i64 0, .slice none 0 0, .slice none 0 0, .slice none 0 0]) ∧ w9.cell? ⟨mb, mo + k * 2 + 1, none⟩ = some (.slice sq nq cq) from ⟨rrKeep (rrD HB.out) b9, (b9.cell (p := ⟨mb, mo + k * 2 + 1, none⟩) HFR.out.1).trans HCC.out⟩)
      have HR9 := Lib.hid (And.intro r9 (show Below wr.heap.size wr w9 from ⟨b9.os, b9.tape, b9.output, b9.size, b9.block⟩))
      clear b9 o9 r9
      have cc := H9.out.2
      have ff : w9.frozen? ⟨mb, mo + k * 2 + 1, none⟩ = false := (froze_new HR9.out.2 HFR.out.1 _).trans (HFR.out.2.2 _)
      try dsimp only
      refine hK.out _ _ H9.out (fun hHeld => ?_)
      clear hK K
      try simp only [Act.put, List.setIfInBounds_toArray, List.set_cons_zero, List.set_cons_succ]
      refine wpAnyG_ready (rs := [10]) (by kernel_rfl) (by simp) (AllReadyG.cons (o := { dst := some 32, op := .indexAddr 23 (.tmp 23) (.tmp 24), type := 0, pos := "image.go:199", after := #[{ on := 1, ground := .data }, { on := 2, ground := .data }, { on := 0, ground := .phase }, { on := 1, ground := .phase }, { on := 2, ground := .phase }, { on := 3, ground := .phase }, { on := 4, ground := .phase }, { on := 5, ground := .phase }, { on := 6, ground := .phase }, { on := 7, ground := .phase }, { on := 8, ground := .phase }, { on := 9, ground := .phase }], guard := none }) rfl (fun K hK => ?_) AllReadyG.nil)
      go_simp
      refine hK.out _ _ H9.out (fun hHeld => ?_)
      clear hK K
      try simp only [Act.put, List.setIfInBounds_toArray, List.set_cons_zero, List.set_cons_succ]
      refine wpAnyG_ready (rs := [11]) (by kernel_rfl) (by simp) (AllReadyG.cons (o := { dst := some 33, op := .fieldAddr 48 (.tmp 32) 1, type := 0, pos := "image.go:199", after := #[{ on := 10, ground := .data }, { on := 0, ground := .phase }, { on := 1, ground := .phase }, { on := 2, ground := .phase }, { on := 3, ground := .phase }, { on := 4, ground := .phase }, { on := 5, ground := .phase }, { on := 6, ground := .phase }, { on := 7, ground := .phase }, { on := 8, ground := .phase }, { on := 9, ground := .phase }], guard := none }) rfl (fun K hK => ?_) AllReadyG.nil)
      go_simp
      refine hK.out _ _ H9.out (fun hHeld => ?_)
      clear hK K
      try simp only [Act.put, List.setIfInBounds_toArray, List.set_cons_zero, List.set_cons_succ]
      refine wpAnyG_ready (rs := [12]) (by kernel_rfl) (by simp) (AllReadyG.last (o := { dst := none, op := .store 46 (.tmp 33) (.tmp 31), type := 0, pos := "image.go:199", after := #[{ on := 11, ground := .data }, { on := 9, ground := .data }, { on := 9, ground := .chain }, { on := 0, ground := .phase }, { on := 1, ground := .phase }, { on := 2, ground := .phase }, { on := 3, ground := .phase }, { on := 4, ground := .phase }, { on := 5, ground := .phase }, { on := 6, ground := .phase }, { on := 7, ground := .phase }, { on := 8, ground := .phase }, { on := 9, ground := .phase }], guard := none }) rfl (fun K hK => ?_))
      go_simp
      refine hK.out _ _ ?_
      clear hK K
      try simp only [Act.put, List.setIfInBounds_toArray, List.set_cons_zero, List.set_cons_succ]
      refine wpAnyG_done (by kernel_rfl) ?_ _

      have HF := Lib.hid (show CpAt (w9.setCell ⟨mb, mo + k * 2 + 1, none⟩ (.slice sQ.sp nq sQ.c)) (Z + 2) (k + 1) x (Sk.setq k sQ) from by
        have h1 := (HC.out.new HR9.out.2).next HKX.out sQ (fun h0 => HR9.out.1.s (by rw [← HNQ.out]; exact h0)) (fun j hj => HR9.out.1.at_ j (by rw [← HNQ.out]; exact hj))
        rw [HS.out.2.1, HNQ.out] at h1
        exact h1)
      obtain ⟨wf, hwf⟩ : ∃ wf, w9.setCell ⟨mb, mo + k * 2 + 1, none⟩ (.slice sQ.sp nq sQ.c) = wf := ⟨_, rfl⟩
      have HFB := Lib.hid (show Below w.heap.size w wf ∧ RowAt wf Z 26 #[.int .i64 res, .slice St.sp nT St.c, .slice (some ⟨mb, mo, none⟩) nM mc, .slice Se.sp nE Se.c] ∧ RowAt wf (Z + 1) 26 #[.int .i64 0, .slice none 0 0, .slice none 0 0, .slice none 0 0] from by
        have hc : Ch (fun j => j = mb) w9 wf := by rw [← hwf]; exact (Ch.refl (fun j => j = mb) w9).setCell ⟨mb, mo + k * 2 + 1, none⟩ _ (.inl rfl)
        have h2 := HFR.out.2.1
        have h3 := HZZ.out
        exact ⟨H9.out.1.1.trans (hc.below (fun j hj e => by omega) H9.out.1.1.size), H9.out.1.2.1.keep hc (by omega), H9.out.1.2.2.keep hc (by omega)⟩)
      rw [hwf] at HF ⊢
      clear hwf cc ff hHeld
      go_wp2
      go_roundg g1
      case measure => omega
      case rel => exact ⟨k + 1, by have := HG.out; omega, by go_num, ⟨Sk.setq k sQ, HS.out.1, HS.out.2.1, HS.out.2.2.1, fun i hi => (if_neg (by omega)).trans (HS.out.2.2.2 i (by omega)), HF.out, HFB.out⟩⟩
    | zero =>
      obtain rfl : k = nM := by omega
      go_wp2_with (first
        | (refine wpList_load_row rfl 26 (.tmp 1) rfl Z rfl 26 #[.int .i64 res, .slice St.sp nT St.c, .slice msp k mc, .slice Se.sp nE Se.c] (0, 0) _ HB.out.2.1 Try.underlying26 rfl (by kernel_rfl) ?_)
        | (refine wpList_store_row rfl 26 (.tmp 2) (.tmp 35) rfl (Z + 1) #[.int .i64 res, .slice St.sp nT St.c, .slice msp k mc, .slice Se.sp nE Se.c] (by rfl) (by rfl) 26 #[.int .i64 0, .slice none 0 0, .slice none 0 0, .slice none 0 0] HB.out.2.2 (by kernel_rfl) (by rfl) (by simp [Value.oneCell']) ?_; generalize hw3 : World.setRow _ _ _ = w3)
        | fail)
      try simp only [Act.put, List.setIfInBounds_toArray, List.set_cons_zero, List.set_cons_succ]
      have hc : Ch (fun j => j = Z + 1) wr w3 := by rw [← hw3]; exact ch_setRow _ _ _
      have hr3 : RowAt w3 (Z + 1) 26 #[.int .i64 res, .slice St.sp nT St.c, .slice msp k mc, .slice Se.sp nE Se.c] := by rw [← hw3]; exact HB.out.2.2.put
      refine bodyPost_ret (results_cell_row rfl _ _ (Z + 1) 26 #[.int .i64 res, .slice St.sp nT St.c, .slice msp k mc, .slice Se.sp nE Se.c] (0, 0) _ rfl hr3 Try.underlying26 rfl (by kernel_rfl)) rfl ?_
      obtain ⟨t', m', e', q'⟩ := Sk
      obtain ⟨h1, h2, h3, h4⟩ := HS.out
      dsimp only at h1 h2 h3
      subst h1 h2 h3
      have hcp := HC.out
      rw [← HN.out.2.1] at hcp ⊢
      exact ⟨⟨t', ⟨msp, mb, mo, mc⟩, e', q'⟩, rfl, (hcp.off (hc.mono fun j _ e => by subst e; omega)).mono (by have := HZZ.out; omega), HB.out.1.trans (hc.below (fun j hj e => by have := HZZ.out; omega) HB.out.1.size)⟩
end Go.Proofs.Ytandehdgpbflmaa
