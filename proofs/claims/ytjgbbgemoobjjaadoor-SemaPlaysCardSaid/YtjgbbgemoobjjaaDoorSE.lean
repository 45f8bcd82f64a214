/- Where law52's model lies; the contracts of its get and put. -/
import Derived.Test.YtjgbbgemoobjjaaDoorSD
namespace Go.Proofs.YtjgbbgemoobjjaaDoor
open Go.RowKit

/-- The cells of a model. -/
def md (f : Int) (g : Nat → Int) (sp : Option Addr) (n cap : Nat) : List Value := .int .i64 f :: ((List.range 16).map (fun i => .int .i64 (g i)) ++ [.slice sp n cap])
theorem md_g (f : Int) (g : Nat → Int) (sp : Option Addr) (n cap i : Nat) (hi : i < 16) : (md f g sp n cap)[1 + i]? = some (.int .i64 (g i)) := by
  unfold md
  rw [show 1 + i = i + 1 by omega, List.getElem?_cons_succ, List.getElem?_append_left (by simpa using hi)]
  simp [hi]
theorem md_w (f : Int) (g : Nat → Int) (sp : Option Addr) (n cap : Nat) : (md f g sp n cap)[17]? = some (.slice sp n cap) := by
  unfold md
  rw [List.getElem?_cons_succ, List.getElem?_append_right (by simp)]
  simp
theorem md_setG (f : Int) (g : Nat → Int) (sp : Option Addr) (n cap k : Nat) (v : Int) (hk : k < 16) : (md f g sp n cap).set (1 + k) (.int .i64 v) = md f (upd g k v) sp n cap := by
  unfold md
  rw [show 1 + k = k + 1 by omega, List.set_cons_succ, List.set_append_left _ _ (by simpa using hk)]
  congr 2
  apply List.ext_getElem?
  intro i
  rw [List.getElem?_set]
  by_cases e : k = i
  · subst e; simp [hk, upd]
  · rw [if_neg e]
    by_cases hi : i < 16
    · have : ¬ i = k := fun h => e h.symm
      simp [hi, upd, this]
    · simp [hi]
theorem md_setW (f : Int) (g : Nat → Int) (sp : Option Addr) (n cap : Nat) (sp' : Option Addr) (n' cap' : Nat) : (md f g sp n cap).set 17 (.slice sp' n' cap') = md f g sp' n' cap' := by
  unfold md
  rw [List.set_cons_succ, List.set_append_right _ _ (by simp)]
  simp
theorem md_one (f : Int) (g : Nat → Int) (sp : Option Addr) (n cap : Nat) : ((md f g sp n cap).toArray).all (·.oneCell') = true :=
  all_oneCell_toArray (cs := md f g sp n cap) (fun v hv => by
    unfold md at hv
    rcases List.mem_cons.1 hv with rfl | hv
    · rfl
    · rcases List.mem_append.1 hv with hv | hv
      · obtain ⟨i, _, rfl⟩ := List.mem_map.1 hv; rfl
      · simp at hv; subst hv; rfl)
theorem md_zero : (md 0 z0 none 0 0).toArray = #[.int .i64 0, .int .i64 0, .int .i64 0, .int .i64 0, .int .i64 0, .int .i64 0, .int .i64 0, .int .i64 0, .int .i64 0, .int .i64 0, .int .i64 0, .int .i64 0, .int .i64 0, .int .i64 0, .int .i64 0, .int .i64 0, .int .i64 0, .slice none 0 0] := by rfl
/-- What lies where while a call of the law runs: the model that it boxed, its result's block behind it. -/
structure MI (T : Nat → Prop) (w0 w : World) (X : Nat) (s : St) (sp : Option Addr) (cap : Nat) : Prop where
  x : RowAt w X 48 (md s.f s.g sp (ws s.x).length cap).toArray
  y : RowAt w (X + 1) 48 (md 0 z0 none 0 0).toArray
  q : SI (fun j => T j ∨ j = X ∨ j = X + 1) w sp cap (ws s.x)
  b : Below X w0 w
  hX : w0.heap.size = X
section
variable {T : Nat → Prop} {w0 w w' : World} {X : Nat} {s : St} {sp : Option Addr} {cap : Nat}
theorem MI.start (h : SI T w sp cap (ws s.x)) : MI T w ((w.alloc (.cells (md s.f s.g sp (ws s.x).length cap).toArray 48)).alloc (.cells (md 0 z0 none 0 0).toArray 48)) w.heap.size s sp cap := by
  have b1 : Below w.heap.size w ((w.alloc (.cells (md s.f s.g sp (ws s.x).length cap).toArray 48)).alloc (.cells (md 0 z0 none 0 0).toArray 48)) := ((Below.refl _ _).alloc (Nat.le_refl _) _).alloc (by simp) _
  refine ⟨(RowAt.mk w _ _).new ((Below.refl _ _).alloc (Nat.le_refl _) _), ?_, ?_, b1, rfl⟩
  · have := RowAt.mk (w.alloc (.cells (md s.f s.g sp (ws s.x).length cap).toArray 48)) 48 (md 0 z0 none 0 0).toArray
    rw [World.size_alloc] at this
    exact this
  · exact (h.more (T' := fun j => T j ∨ j = w.heap.size ∨ j = w.heap.size + 1) (fun j hj ht => by rcases ht with ht | ht | ht; exact ht; omega; omega)).new b1
theorem MI.lt (h : MI T w0 w X s sp cap) : X + 1 < w.heap.size := h.y.lt
theorem MI.new (h : MI T w0 w X s sp cap) (hb : Below w.heap.size w w') : MI T w0 w' X s sp cap :=
  ⟨h.x.new hb, h.y.new hb, h.q.new hb, h.b.trans (hb.mono (by have := h.lt; omega)), h.hX⟩
theorem MI.cell (h : MI T w0 w X s sp cap) (j : Nat) : w.cell? ⟨X, j, none⟩ = (md s.f s.g sp (ws s.x).length cap)[j]? := by rw [h.x.cell]; simp
theorem MI.c0 (h : MI T w0 w X s sp cap) : w.cell? ⟨X, 0, none⟩ = some (.int .i64 s.f) := h.cell 0
theorem MI.cg (h : MI T w0 w X s sp cap) (k : Nat) (hk : k < 16) : w.cell? ⟨X, 1 + k, none⟩ = some (.int .i64 (s.g k)) := (h.cell _).trans (md_g _ _ _ _ _ _ hk)
theorem MI.cw (h : MI T w0 w X s sp cap) : w.cell? ⟨X, 17, none⟩ = some (.slice sp (ws s.x).length cap) := (h.cell _).trans (md_w ..)
theorem MI.fr (h : MI T w0 w X s sp cap) (j : Nat) : w.frozen? ⟨X, j, none⟩ = false := h.x.fr j
theorem MI.chX (w : World) (X k : Nat) (v : Value) : Ch (fun j => j = X) w (w.setCell ⟨X, k, none⟩ v) := (Ch.refl _ _).setCell _ _ (.inl rfl)
theorem SI.keep' {T T2 : Nat → Prop} {w w' : World} {sp : Option Addr} {cap : Nat} {L : List Int} (h : SI T w sp cap L) (hc : Ch T2 w w') (h2 : ∀ j, T2 j → T j) : SI T w' sp cap L := h.keep (hc.mono fun k _ hk => h2 k hk)
theorem MI.setF (h : MI T w0 w X s sp cap) (f : Int) : MI T w0 (w.setCell ⟨X, 0, none⟩ (.int .i64 f)) X ⟨f, s.g, s.x⟩ sp cap :=
  ⟨h.x.setC 0 (.int .i64 f), h.y.keep (MI.chX w X 0 _) (by omega), h.q.keep' (MI.chX w X 0 _) (fun j e => .inr (.inl e)), h.b.setCell (Nat.le_refl _) _, h.hX⟩
theorem MI.setG (h : MI T w0 w X s sp cap) (k : Nat) (v : Int) (hk : k < 16) : MI T w0 (w.setCell ⟨X, 1 + k, none⟩ (.int .i64 v)) X ⟨s.f, upd s.g k v, s.x⟩ sp cap := by
  refine ⟨?_, h.y.keep (MI.chX w X (1 + k) _) (by omega), h.q.keep' (MI.chX w X (1 + k) _) (fun j e => .inr (.inl e)), h.b.setCell (Nat.le_refl _) _, h.hX⟩
  have := h.x.setC (1 + k) (.int .i64 v)
  rw [List.setIfInBounds_toArray, md_setG _ _ _ _ _ _ _ hk] at this
  exact this
theorem MI.setW (h : MI T w0 w X s sp cap) {y : BitVec 32} {sp' : Option Addr} {cap' : Nat} (hq : SI (fun j => T j ∨ j = X ∨ j = X + 1) w sp' cap' (ws y)) : MI T w0 (w.setCell ⟨X, 17, none⟩ (.slice sp' (ws y).length cap')) X ⟨s.f, s.g, y⟩ sp' cap' := by
  refine ⟨?_, h.y.keep (MI.chX w X 17 _) (by omega), hq.keep' (MI.chX w X 17 _) (fun j e => .inr (.inl e)), h.b.setCell (Nat.le_refl _) _, h.hX⟩
  have := h.x.setC 17 (.slice sp' (ws y).length cap')
  rw [List.setIfInBounds_toArray, md_setW] at this
  exact this
/-- The whole row turned, by a result. -/
theorem MI.setM (h : MI T w0 w X s sp cap) {s' : St} {sp' : Option Addr} {cap' : Nat} (hq : SI (fun j => T j ∨ j = X ∨ j = X + 1) w sp' cap' (ws s'.x)) : MI T w0 (w.setRow X (md s'.f s'.g sp' (ws s'.x).length cap').toArray) X s' sp' cap' :=
  ⟨h.x.put, h.y.keep (ch_setRow w X _) (by omega), hq.keep' (ch_setRow w X _) (fun j e => .inr (.inl e)), h.b.trans ((ch_setRow w X _).below (fun k hk e => by omega) (by have := h.lt; omega)), h.hX⟩
end
/-- What a call of the law hands back: a model, and where its row lies. -/
def MOut (T : Nat → Prop) (w w' : World) (s' : St) (r : Value → Value) (e : Ending) : Prop :=
  ∃ sp cap, e = .returned (r (.agg (md s'.f s'.g sp (ws s'.x).length cap).toArray)) ∧ SI T w' sp cap (ws s'.x) ∧ Below w.heap.size w w'
theorem MI.fin {T : Nat → Prop} {w0 w : World} {X : Nat} {s : St} {sp : Option Addr} {cap : Nat} (h : MI T w0 w X s sp cap) (r : Value → Value) :
    MOut T w0 (w.setRow (X + 1) (md s.f s.g sp (ws s.x).length cap).toArray) s r (.returned (r (.agg (md s.f s.g sp (ws s.x).length cap).toArray))) :=
  ⟨sp, cap, rfl, (h.q.keep' (ch_setRow w (X + 1) _) (fun j e => .inr (.inr e))).more (fun j _ ht => .inl ht), by rw [h.hX]; exact h.b.trans ((ch_setRow w (X + 1) _).below (fun k hk e => by omega) (by have := h.lt; omega))⟩
theorem MI.fin' {T : Nat → Prop} {w0 w : World} {X : Nat} {s s' : St} {sp : Option Addr} {cap : Nat} (h : MI T w0 w X s sp cap) (r : Value → Value) (hs : s' = s) :
    MOut T w0 (w.setRow (X + 1) (md s.f s.g sp (ws s.x).length cap).toArray) s' r (.returned (r (.agg (md s.f s.g sp (ws s.x).length cap).toArray))) := by
  subst hs; exact h.fin r
/-- Is one among those that wait? -/
theorem MI.in_ {T : Nat → Prop} {w : World} {sp : Option Addr} {cap : Nat} {L : List Int} (h : SI T w sp cap L) (hl : L.length ≤ 1000) (n : Int) : Calls Tryd.prog 20 #[.slice sp L.length cap, .int .i64 n] w fun e w' => e = .returned (.bool (decide (n ∈ L))) ∧ w = w' := by
  obtain ⟨g, off, h1, _⟩ := h.lies
  exact in_any sp g off cap L n w (by omega) h1
set_option maxHeartbeats 4000000 in
set_option maxRecDepth 100000 in
theorem lget_any {T : Nat → Prop} {w : World} {mo : Int} {s : St} {sp : Option Addr} {cap : Nat} (h : SI T w sp cap (ws s.x)) (hT : ∀ j, T j → j < w.heap.size) (hi : Inv mo s) (t : Int) :
    Calls Tryd.prog 25 #[.agg (md s.f s.g sp (ws s.x).length cap).toArray, .int .i64 t] w fun e w' => MOut T w w' (getS s t).1 (fun v => .tuple #[v, .bool (getS s t).2.1, .int .i64 (getS s t).2.2]) e := by
  obtain ⟨X, hX⟩ : ∃ X, X = w.heap.size := ⟨_, rfl⟩
  obtain ⟨w1, hw1⟩ : ∃ w1, (w.alloc (.cells (md s.f s.g sp (ws s.x).length cap).toArray 48)).alloc (.cells #[.int .i64 0, .int .i64 0, .int .i64 0, .int .i64 0, .int .i64 0, .int .i64 0, .int .i64 0, .int .i64 0, .int .i64 0, .int .i64 0, .int .i64 0, .int .i64 0, .int .i64 0, .int .i64 0, .int .i64 0, .int .i64 0, .int .i64 0, .slice none 0 0] 48) = w1 := ⟨_, rfl⟩
  have H1 := Lib.hid (show MI T w w1 X s sp cap by rw [← hw1, hX, ← md_zero]; exact MI.start h)
  have HT := Lib.hid (show ∀ w' : World, X + 1 < w'.heap.size → ∀ j : Nat, (T j ∨ j = X ∨ j = X + 1) → j < w'.heap.size from fun w' hz j hj => by
    rcases hj with hj | hj | hj
    · have := hT j hj; omega
    · omega
    · omega)
  obtain ⟨c0, hc0⟩ : ∃ c0, (md s.f s.g sp (ws s.x).length cap).toArray = c0 := ⟨_, rfl⟩
  rw [hc0] at hw1 ⊢
  clear hc0 h hT
  by_cases ht : 0 ≤ t ∧ t < 16
  case neg =>
    have hg : getS s t = (s, false, 100) := by unfold getS; rw [if_pos ht]
    have HG := Lib.hid hg
    clear hg
    go_enter Tryd.func25, Tryd.ntmps25
    go_upto_region 1 with fail
    try rw [← hX]
    clear hw1 hX
    by_cases h0 : t < 0
    · clear ht
      go_wp2_with (first
        | (refine wpList_load_row rfl 48 (.tmp 2) rfl X rfl 48 (md s.f s.g sp (ws s.x).length cap).toArray (0, 0) _ H1.out.x Tryd.underlying48 rfl (by kernel_rfl) ?_)
        | (refine wpList_store_row rfl 48 (.tmp 4) (.tmp 13) rfl (X + 1) (md s.f s.g sp (ws s.x).length cap).toArray rfl rfl 48 _ H1.out.y (by kernel_rfl) rfl (md_one _ _ _ _ _) ?_)
        | fail)
      refine bodyPost_ret (results_rest (us := [5, 6]) rfl _ _ (X + 1) 48 (md s.f s.g sp (ws s.x).length cap).toArray _ rfl (RowAt.put H1.out.y) Tryd.underlying48 rfl (by kernel_rfl) (by decide)) rfl ?_
      rw [HG.out]
      exact H1.out.fin (fun v => .tuple #[v, .bool false, .int .i64 100])
    · have h1 : 15 < t := by omega
      clear ht
      go_wp2_with (first
        | (refine wpList_load_row rfl 48 (.tmp 2) rfl X rfl 48 (md s.f s.g sp (ws s.x).length cap).toArray (0, 0) _ H1.out.x Tryd.underlying48 rfl (by kernel_rfl) ?_)
        | (refine wpList_store_row rfl 48 (.tmp 4) (.tmp 13) rfl (X + 1) (md s.f s.g sp (ws s.x).length cap).toArray rfl rfl 48 _ H1.out.y (by kernel_rfl) rfl (md_one _ _ _ _ _) ?_)
        | fail)
      refine bodyPost_ret (results_rest (us := [5, 6]) rfl _ _ (X + 1) 48 (md s.f s.g sp (ws s.x).length cap).toArray _ rfl (RowAt.put H1.out.y) Tryd.underlying48 rfl (by kernel_rfl) (by decide)) rfl ?_
      rw [HG.out]
      exact H1.out.fin (fun v => .tuple #[v, .bool false, .int .i64 100])
  obtain ⟨k, rfl⟩ := Int.eq_ofNat_of_zero_le ht.1
  have hk : k < 16 := by omega
  have k0 : (0 : Int) ≤ (k : Int) := by omega
  have k1 : (k : Int) ≤ 15 := by omega
  have cw := H1.out.cw
  have HIN := Lib.hid (MI.in_ H1.out.q (by have := ws_len s.x; omega) (k : Int))
  by_cases hm : (k : Int) ∈ ws s.x
  · have hg : getS s (k : Nat) = (s, false, 300) := by unfold getS; rw [if_neg (fun hn => hn ht), if_pos (show (k : Int) ∈ ints (lst s.x 32) from hm)]
    have HG := Lib.hid hg
    rw [decide_eq_true hm] at HIN
    clear hg hm ht hk
    go_enter Tryd.func25, Tryd.ntmps25
    go_upto_region 1 with fail
    try rw [← hX]
    clear hw1 hX
    go_wp2_with (first
      | (go_at_call 20; refine HIN.out.mono ?_; rintro e w' ⟨rfl, rfl⟩)
      | (refine wpList_load_row rfl 48 (.tmp 2) rfl X rfl 48 (md s.f s.g sp (ws s.x).length cap).toArray (0, 0) _ H1.out.x Tryd.underlying48 rfl (by kernel_rfl) ?_)
      | (refine wpList_store_row rfl 48 (.tmp 4) (.tmp 18) rfl (X + 1) (md s.f s.g sp (ws s.x).length cap).toArray rfl rfl 48 _ H1.out.y (by kernel_rfl) rfl (md_one _ _ _ _ _) ?_)
      | fail)
    refine bodyPost_ret (results_rest (us := [5, 6]) rfl _ _ (X + 1) 48 (md s.f s.g sp (ws s.x).length cap).toArray _ rfl (RowAt.put H1.out.y) Tryd.underlying48 rfl (by kernel_rfl) (by decide)) rfl ?_
    rw [HG.out]
    exact H1.out.fin (fun v => .tuple #[v, .bool false, .int .i64 300])
  rw [decide_eq_false hm] at HIN
  have cf := H1.out.c0
  by_cases hf : s.f = 0
  · have hg : getS s (k : Nat) = (⟨s.f, s.g, s.x ||| onl (k : Int)⟩, false, 0) := by unfold getS; rw [if_neg (fun hn => hn ht), if_neg (show ¬ (k : Int) ∈ ints (lst s.x 32) from hm), if_pos (.inl hf)]
    have HG := Lib.hid hg
    rw [hf] at cf
    have HW := Lib.hid (lwith_any s.x H1.out.q (HT.out w1 H1.out.lt) (k : Int))
    have f17 : w1.frozen? ⟨X, 17, none⟩ = false := H1.out.fr 17
    clear hg hm ht hf hk
    go_enter Tryd.func25, Tryd.ntmps25
    go_upto_region 1 with fail
    try rw [← hX]
    clear hw1 hX
    go_upto_region 6 with (first
      | (go_at_call 20; refine HIN.out.mono ?_; rintro e w' ⟨rfl, rfl⟩)
      | fail)
    go_upto_region 7 with (first
      | (go_at_call 46; refine HW.out.mono ?_; rintro e w2 ⟨sp2, cap2, rfl, hs2, hb2⟩; have H2 := Lib.hid (And.intro (H1.out.new hb2) hs2); have f17' := H2.out.1.fr 17; have cw' := H2.out.1.cw; clear hs2 hb2)
      | fail)
    generalize hw3 : World.setCell _ _ _ = w3
    have H3 := Lib.hid (show MI T w w3 X ⟨s.f, s.g, s.x ||| onl (k : Int)⟩ sp2 cap2 by rw [← hw3]; exact H2.out.1.setW H2.out.2)
    clear hw3
    go_wp2_with (first
      | (refine wpList_load_row rfl 48 (.tmp 2) rfl X rfl 48 (md s.f s.g sp2 (ws (s.x ||| onl (k : Int))).length cap2).toArray (0, 0) _ H3.out.x Tryd.underlying48 rfl (by kernel_rfl) ?_)
      | (refine wpList_store_row rfl 48 (.tmp 4) (.tmp 41) rfl (X + 1) (md s.f s.g sp2 (ws (s.x ||| onl (k : Int))).length cap2).toArray rfl rfl 48 _ H3.out.y (by kernel_rfl) rfl (md_one _ _ _ _ _) ?_)
      | fail)
    refine bodyPost_ret (results_rest (us := [5, 6]) rfl _ _ (X + 1) 48 (md s.f s.g sp2 (ws (s.x ||| onl (k : Int))).length cap2).toArray _ rfl (RowAt.put H3.out.y) Tryd.underlying48 rfl (by kernel_rfl) (by decide)) rfl ?_
    rw [HG.out]
    exact H3.out.fin (fun v => .tuple #[v, .bool false, .int .i64 0])
  · have hx0 : s.x = 0#32 := hi.waits.resolve_right hf
    have hg : getS s (k : Nat) = (⟨s.f - 1, upd s.g k (s.g k + 1), s.x⟩, true, 0) := by
      unfold getS
      rw [if_neg (fun hn => hn ht), if_neg (show ¬ (k : Int) ∈ ints (lst s.x 32) from hm), if_neg (fun hn => by
        rcases hn with hn | hn
        · exact hf hn
        · exact hn (by rw [hx0]; exact btw_zero _ _)), Int.toNat_natCast]
    have HG := Lib.hid hg
    have hl0 : (ws s.x).length = 0 := by rw [hx0, ws_len', lst_zero]; rfl
    have HL := Lib.hid hl0
    have cw0 := cw
    rw [hl0] at cw0
    have hfb := ne_beq hf
    have hr1 := hi.f1
    have hr0 := hi.f0
    have hq1 := hi.g1 k hk
    have hq0 := hi.g0 k
    have e1 : IntKind.i64.wrap (s.f - 1) = s.f - 1 := by rw [IntKind.wrap_i64]; omega
    have e2 : IntKind.i64.wrap (s.g k + 1) = s.g k + 1 := by rw [IntKind.wrap_i64]; omega
    have f0 := H1.out.fr 0
    obtain ⟨f, hff⟩ : ∃ f, s.f = f := ⟨_, rfl⟩
    obtain ⟨q, hqq⟩ : ∃ q, s.g k = q := ⟨_, rfl⟩
    have HF := Lib.hid (And.intro hff hqq)
    have HK := Lib.hid hk
    rw [hl0] at HIN
    rw [hff] at cf hfb e1 hr1 hr0
    rw [hqq] at e2 hq1 hq0
    clear hg hm ht hf hx0 hl0 cw hff hqq hk hi
    go_enter Tryd.func25, Tryd.ntmps25
    go_upto_region 1 with fail
    try rw [← hX]
    clear hw1 hX
    go_upto_region 8 with (first
      | (go_at_call 20; refine HIN.out.mono ?_; rintro e w' ⟨rfl, rfl⟩)
      | fail)
    go_upto_region 9 with fail
    generalize hw2 : World.setCell _ _ _ = w2
    have H2 := Lib.hid (show MI T w w2 X ⟨f - 1, s.g, s.x⟩ sp cap by rw [← hw2]; exact H1.out.setF (f - 1))
    clear hw2 cw0 cf f0
    have ck : w2.cell? ⟨X, 1 + k, none⟩ = some (.int .i64 q) := by rw [← HF.out.2]; exact H2.out.cg k HK.out
    have fk := H2.out.fr (1 + k)
    go_upto_region 10 with fail
    generalize hw3 : World.setCell _ _ _ = w3
    have H3 := Lib.hid (show MI T w w3 X ⟨f - 1, upd s.g k (q + 1), s.x⟩ sp cap by rw [← hw3]; exact H2.out.setG k (q + 1) HK.out)
    clear hw3 ck fk
    go_wp2_with (first
      | (refine wpList_load_row rfl 48 (.tmp 2) rfl X rfl 48 (md (f - 1) (upd s.g k (q + 1)) sp (ws s.x).length cap).toArray (0, 0) _ H3.out.x Tryd.underlying48 rfl (by kernel_rfl) ?_)
      | (refine wpList_store_row rfl 48 (.tmp 4) (.tmp 53) rfl (X + 1) (md (f - 1) (upd s.g k (q + 1)) sp (ws s.x).length cap).toArray rfl rfl 48 _ H3.out.y (by kernel_rfl) rfl (md_one _ _ _ _ _) ?_)
      | fail)
    refine bodyPost_ret (results_rest (us := [5, 6]) rfl _ _ (X + 1) 48 (md (f - 1) (upd s.g k (q + 1)) sp (ws s.x).length cap).toArray _ rfl (RowAt.put H3.out.y) Tryd.underlying48 rfl (by kernel_rfl) (by decide)) rfl ?_
    rw [HG.out, HF.out.1, HF.out.2]
    exact H3.out.fin (fun v => .tuple #[v, .bool true, .int .i64 0])
end Go.Proofs.YtjgbbgemoobjjaaDoor
