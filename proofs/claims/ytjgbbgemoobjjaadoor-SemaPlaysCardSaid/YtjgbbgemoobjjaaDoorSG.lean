/- The contract of law52's end. -/
import Derived.Test.YtjgbbgemoobjjaaDoorSF
namespace Go.Proofs.YtjgbbgemoobjjaaDoor
open Go.RowKit

theorem MI.app {T : Nat → Prop} {w0 w w1 : World} {X : Nat} {s : St} {sp : Option Addr} {cap : Nat} {v v' : Value} {m : Nat} {xs : List Value} {o : Array Value} {ty : TypeId} (h : MI (fun j => T j ∨ v.ownBlock = some j) w0 w X s sp cap) (hown : w.ownsRow (X + 2) 3 1 v m xs)
    (hg : (w.alloc (.cells o ty)).grownBy w1 v.ownBlock) (hv : v'.ownBlock = v.ownBlock ∨ v'.ownBlock = some (w.alloc (.cells o ty)).heap.size) : MI (fun j => T j ∨ v'.ownBlock = some j) w0 w1 X s sp cap := by
  have ha : Below w.heap.size w (w.alloc (.cells o ty)) := (Below.refl _ _).alloc (Nat.le_refl _) _
  have hc : Ch (fun j => v.ownBlock = some j) (w.alloc (.cells o ty)) w1 := ch_grown hg
  have hge : ∀ j, v.ownBlock = some j → X + 2 ≤ j := fun j e => own_ge hown j e
  have hl := h.lt
  refine ⟨(h.x.new ha).keep hc (fun e => by have := hge X e; omega), (h.y.new ha).keep hc (fun e => by have := hge (X + 1) e; omega), ?_, (h.b.alloc (by omega) _).grown hg (by rw [World.size_alloc]; omega) (fun j e => by have := hge j e; omega), h.hX⟩
  have h1 := (h.q.new ha).more (T' := fun j => ((T j ∨ v.ownBlock = some j) ∨ v'.ownBlock = some j) ∨ j = X ∨ j = X + 1) (fun j hj ht => by
    rcases ht with ((ht | ht) | ht) | ht
    · exact .inl (.inl ht)
    · exact .inl (.inr ht)
    · rcases hv with e | e
      · exact .inl (.inr (e.symm.trans ht))
      · rw [e] at ht; injection ht with ht; omega
    · exact .inr ht)
  exact (h1.keep' hc (fun j e => .inl (.inl (.inr e)))).more (fun j _ ht => by
    rcases ht with (ht | ht) | ht
    · exact .inl (.inl (.inl ht))
    · exact .inl (.inr ht)
    · exact .inr ht)
/-- A result of put is taken over. -/
theorem MI.took {T : Nat → Prop} {w0 w w2 : World} {X : Nat} {s s' : St} {sp sp' : Option Addr} {cap cap' : Nat} {v : Value} {m : Nat} {xs : List Value} (h : MI (fun j => T j ∨ v.ownBlock = some j) w0 w X s sp cap) (hown : w.ownsRow (X + 2) 3 1 v m xs)
    (hq : SI (fun j => (T j ∨ v.ownBlock = some j) ∨ j = X ∨ j = X + 1) w2 sp' cap' (ws s'.x)) (hb : Below w.heap.size w w2) :
    MI (fun j => T j ∨ v.ownBlock = some j) w0 (w2.setRow X (md s'.f s'.g sp' (ws s'.x).length cap').toArray) X s' sp' cap' ∧ (w2.setRow X (md s'.f s'.g sp' (ws s'.x).length cap').toArray).ownsRow (X + 2) 3 1 v m xs :=
  ⟨(h.new hb).setM hq, own_ch (own_ch hown (Ch.new (T := fun _ => False) hb) (fun _ _ e => e)) (ch_setRow w2 X _) (fun g hg e => by have := own_ge hown g hg; omega)⟩
/-- What end hands back. -/
def EOut (T : Nat → Prop) (w w' : World) (s' : St) (L : List Int) (e : Ending) : Prop :=
  ∃ sp cap v, e = .returned (.tuple #[.agg (md s'.f s'.g sp (ws s'.x).length cap).toArray, v]) ∧ SI T w' sp cap (ws s'.x) ∧ w'.ownsRow w.heap.size 3 1 v L.length (rowI L) ∧ Below w.heap.size w w'
theorem MI.finE {T : Nat → Prop} {w0 w : World} {X : Nat} {s : St} {sp : Option Addr} {cap : Nat} {v : Value} {L : List Int} (h : MI (fun j => T j ∨ v.ownBlock = some j) w0 w X s sp cap) (hown : w.ownsRow (X + 2) 3 1 v L.length (rowI L)) :
    EOut T w0 (w.setRow (X + 1) (md s.f s.g sp (ws s.x).length cap).toArray) s L (.returned (.tuple #[.agg (md s.f s.g sp (ws s.x).length cap).toArray, v])) := by
  obtain ⟨sp', cap', he, h1, h2⟩ := h.fin (fun x => .tuple #[x, v])
  refine ⟨sp, cap, v, rfl, (h.q.keep' (ch_setRow w (X + 1) _) (fun j e => .inr (.inr e))).more (fun j _ ht => .inl (.inl ht)), ?_, h2⟩
  exact own_mono (own_ch hown (ch_setRow w (X + 1) _) (fun g hg e => by have := own_ge hown g hg; omega)) (by have := h.hX; omega)
set_option maxHeartbeats 4000000 in
set_option maxRecDepth 100000 in
theorem lend_any {T : Nat → Prop} {w : World} {mo : Int} {s : St} {sp : Option Addr} {cap : Nat} (h : SI T w sp cap (ws s.x)) (hT : ∀ j, T j → j < w.heap.size) (hi : Inv mo s) (t : Int) :
    Calls Tryd.prog 23 #[.agg (md s.f s.g sp (ws s.x).length cap).toArray, .int .i64 t] w fun e w' => EOut T w w' (endS s t).1 (endS s t).2 e := by
  obtain ⟨i0, hin, hz0, hz1, hz2⟩ := info_parts info3
  obtain ⟨X, hX⟩ : ∃ X, X = w.heap.size := ⟨_, rfl⟩
  obtain ⟨w1, hw1⟩ : ∃ w1, (w.alloc (.cells (md s.f s.g sp (ws s.x).length cap).toArray 48)).alloc (.cells #[.int .i64 0, .int .i64 0, .int .i64 0, .int .i64 0, .int .i64 0, .int .i64 0, .int .i64 0, .int .i64 0, .int .i64 0, .int .i64 0, .int .i64 0, .int .i64 0, .int .i64 0, .int .i64 0, .int .i64 0, .int .i64 0, .int .i64 0, .slice none 0 0] 48) = w1 := ⟨_, rfl⟩
  have hm1 : MI T w w1 X s sp cap := by rw [← hw1, hX, ← md_zero]; exact MI.start h
  have H1 := Lib.hid (show MI (fun j => T j ∨ (Value.slice none 0 0).ownBlock = some j) w w1 X s sp cap from
    ⟨hm1.x, hm1.y, hm1.q.more (fun j _ ht => by
      rcases ht with (ht | ht) | ht
      · exact .inl ht
      · simp [Value.ownBlock] at ht
      · exact .inr ht), hm1.b, hm1.hX⟩)
  have HT := Lib.hid (show ∀ (w' : World) (v : Value) (m : Nat) (xs : List Value), X + 1 < w'.heap.size → w'.ownsRow (X + 2) 3 1 v m xs → ∀ j : Nat, ((T j ∨ v.ownBlock = some j) ∨ j = X ∨ j = X + 1) → j < w'.heap.size from fun w' v m xs hz ho j hj => by
    rcases hj with (hj | hj) | hj | hj
    · have := hT j hj; omega
    · exact (ho.lt j hj).2
    · omega
    · omega)
  obtain ⟨c0, hc0⟩ : ∃ c0, (md s.f s.g sp (ws s.x).length cap).toArray = c0 := ⟨_, rfl⟩
  rw [hc0] at hw1 ⊢
  clear hc0 h hT hm1
  by_cases ht : 0 ≤ t ∧ t < 16
  case neg =>
    have hg : endS s t = (s, []) := by unfold endS; rw [hasS_out _ _ ht, quit_no hi t ht]; rfl
    have HG := Lib.hid hg
    clear hg
    go_enter Tryd.func23, Tryd.ntmps23
    go_upto_region 1 with fail
    rw [← hX]
    clear hw1 hX
    by_cases h0 : t < 0
    · clear ht
      go_wp2_with (first
        | (refine wpList_load_row rfl 48 (.tmp 2) rfl X rfl 48 (md s.f s.g sp (ws s.x).length cap).toArray (0, 0) _ H1.out.x Tryd.underlying48 rfl (by kernel_rfl) ?_)
        | (refine wpList_store_row rfl 48 (.tmp 4) (.tmp 15) rfl (X + 1) (md s.f s.g sp (ws s.x).length cap).toArray rfl rfl 48 _ H1.out.y (by kernel_rfl) rfl (md_one _ _ _ _ _) ?_)
        | fail)
      refine bodyPost_ret (results_rest (us := [5]) rfl _ _ (X + 1) 48 (md s.f s.g sp (ws s.x).length cap).toArray _ rfl (RowAt.put H1.out.y) Tryd.underlying48 rfl (by kernel_rfl) (by decide)) rfl ?_
      rw [HG.out]
      exact H1.out.finE (L := []) (World.ownsRow_nil _ _ _ _)
    · have h1 : 15 < t := by omega
      clear ht
      go_wp2_with (first
        | (refine wpList_load_row rfl 48 (.tmp 2) rfl X rfl 48 (md s.f s.g sp (ws s.x).length cap).toArray (0, 0) _ H1.out.x Tryd.underlying48 rfl (by kernel_rfl) ?_)
        | (refine wpList_store_row rfl 48 (.tmp 4) (.tmp 15) rfl (X + 1) (md s.f s.g sp (ws s.x).length cap).toArray rfl rfl 48 _ H1.out.y (by kernel_rfl) rfl (md_one _ _ _ _ _) ?_)
        | fail)
      refine bodyPost_ret (results_rest (us := [5]) rfl _ _ (X + 1) 48 (md s.f s.g sp (ws s.x).length cap).toArray _ rfl (RowAt.put H1.out.y) Tryd.underlying48 rfl (by kernel_rfl) (by decide)) rfl ?_
      rw [HG.out]
      exact H1.out.finE (L := []) (World.ownsRow_nil _ _ _ _)
  obtain ⟨k, rfl⟩ := Int.eq_ofNat_of_zero_le ht.1
  have hk : k < 16 := by omega
  have k0 : (0 : Int) ≤ (k : Int) := by omega
  have k1 : (k : Int) ≤ 15 := by omega
  have k2 : (k : Int) < 16 := by omega
  have cw := H1.out.cw
  have HW := Lib.hid (lwo_ws s.x H1.out.q (HT.out w1 _ 0 [] H1.out.lt (World.ownsRow_nil _ _ _ _)) (k : Int))
  obtain ⟨N, hN⟩ : ∃ N, (hasS s (k : Int)).toNat = N := ⟨_, rfl⟩
  have HH := Lib.hid (show ∀ j, j ≤ N → (endK (quitS s (k : Int)) (k : Int) j).1.g k = ((N - j : Nat) : Int) from fun j hj => by
    rw [← hN] at hj ⊢
    have := endK_hasS hi (k : Int) j hj
    rwa [hasS_in _ _ hk] at this)
  have HI := Lib.hid (show ∀ j, Inv mo (endK (quitS s (k : Int)) (k : Int) j).1 from fun j => (hi.quit _).endK _ j)
  have HE := Lib.hid (show endS s (k : Int) = endK (quitS s (k : Int)) (k : Int) N from by unfold endS; rw [hN])
  have HL := Lib.hid (show ∀ j, (endK (quitS s (k : Int)) (k : Int) j).2.length ≤ j from fun j => endK_len _ _ j)
  have HN := Lib.hid (show N ≤ 65536 from by rw [← hN, hasS_in _ _ hk]; have := hi.g1 k hk; omega)
  have HK := Lib.hid hk
  clear hi hN ht hk
  go_enter Tryd.func23, Tryd.ntmps23
  go_upto_region 1 with fail
  rw [← hX]
  clear hw1 hX
  go_upto_region 4 with fail
  go_wp2_with (first
    | (go_at_call 21; refine HW.out.mono ?_; rintro e w3 ⟨sp3, cap3, rfl, hs3, hb3⟩; have H3 := Lib.hid (And.intro (H1.out.new hb3) hs3); have f17' := H3.out.1.fr 17; have cw' := H3.out.1.cw; clear hs3 hb3)
    | fail)
  go_loopg [6] N (fun g v wr => ∃ (j : Nat) (sp : Option Addr) (cap : Nat), j + g = N ∧ MI (fun j => T j ∨ v.ownBlock = some j) w wr X (endK (quitS s (k : Int)) (k : Int) j).1 sp cap ∧ wr.ownsRow (X + 2) 3 1 v (endK (quitS s (k : Int)) (k : Int) j).2.length (rowI (endK (quitS s (k : Int)) (k : Int) j).2))
  case atStart => exact ⟨0, sp3, cap3, by omega, H3.out.1.setW H3.out.2, World.ownsRow_nil _ _ _ _⟩
  case round =>
    obtain ⟨j, sp, cap, hjg, hm, ho⟩ := hrel
    have HM := Lib.hid (And.intro hm ho)
    clear hm ho
    have cg := HM.out.1.cg k HK.out
    rw [HH.out j (by omega)] at cg
    cases gk with
    | zero =>
      obtain rfl : j = N := by omega
      rw [Nat.sub_self] at cg
      rw [← HE.out] at HM
      obtain ⟨r, hr⟩ : ∃ r, endS s (k : Int) = r := ⟨_, rfl⟩
      rw [hr] at HM
      have HR := Lib.hid hr
      clear hr
      go_wp2_with (first
        | (refine wpList_load_row rfl 48 (.tmp 2) rfl X rfl 48 (md r.1.f r.1.g sp (ws r.1.x).length cap).toArray (0, 0) _ HM.out.1.x Tryd.underlying48 rfl (by kernel_rfl) ?_)
        | (refine wpList_store_row rfl 48 (.tmp 4) (.tmp 39) rfl (X + 1) (md r.1.f r.1.g sp (ws r.1.x).length cap).toArray rfl rfl 48 _ HM.out.1.y (by kernel_rfl) rfl (md_one _ _ _ _ _) ?_)
        | fail)
      refine bodyPost_ret (results_rest (us := [5]) rfl _ _ (X + 1) 48 (md r.1.f r.1.g sp (ws r.1.x).length cap).toArray _ rfl (RowAt.put HM.out.1.y) Tryd.underlying48 rfl (by kernel_rfl) (by decide)) rfl ?_
      rw [HR.out]
      exact HM.out.1.finE HM.out.2
    | succ g1 =>
      have hpos : (0 : Int) < ((N - j : Nat) : Int) := by omega
      obtain ⟨m, hm⟩ : ∃ m : Int, ((N - j : Nat) : Int) = m := ⟨_, rfl⟩
      rw [hm] at cg hpos
      clear hm
      obtain ⟨r, hr⟩ : ∃ r, endK (quitS s (k : Int)) (k : Int) j = r := ⟨_, rfl⟩
      have hr1 : endK (quitS s (k : Int)) (k : Int) (j + 1) = ((putS r.1 (k : Int)).1, if (putS r.1 (k : Int)).2.2.1 then r.2 ++ [(putS r.1 (k : Int)).2.1] else r.2) := by rw [← hr]; rfl
      have HR1 := Lib.hid hr1
      clear hr1
      have hrl : r.2.length ≤ 65536 := by rw [← hr]; have := HL.out j; have := HN.out; omega
      have HP := Lib.hid (lput_any HM.out.1.q (HT.out wr _ _ _ HM.out.1.lt HM.out.2) (HI.out j) (k : Int))
      rw [hr] at HM HP
      clear hr
      obtain ⟨s', hs'⟩ : ∃ s', (putS r.1 (k : Int)).1 = s' := ⟨_, rfl⟩
      obtain ⟨n, hn⟩ : ∃ n, (putS r.1 (k : Int)).2.1 = n := ⟨_, rfl⟩
      rw [hs', hn] at HR1 HP
      clear hs' hn
      cases hok : (putS r.1 (k : Int)).2.2.1 with
      | false =>
        rw [hok] at HR1 HP
        clear hok
        go_wp2_with (first
          | (refine wpList_load_row rfl 48 (.tmp 2) rfl X rfl 48 (md r.1.f r.1.g sp (ws r.1.x).length cap).toArray (0, 0) _ HM.out.1.x Tryd.underlying48 rfl (by kernel_rfl) ?_)
          | (go_at_call 18; refine HP.out.mono ?_; rintro e w2 ⟨sp2, cap2, rfl, hs2, hb2⟩; have H2 := Lib.hid (And.intro (HM.out.1.new hb2) (HM.out.1.took HM.out.2 hs2 hb2)); clear hs2 hb2; try dsimp only)
          | (refine wpList_store_row rfl 48 (.tmp 2) (.tmp 30) rfl X (md s'.f s'.g sp2 (ws s'.x).length cap2).toArray rfl rfl 48 _ H2.out.1.x (by kernel_rfl) rfl (md_one _ _ _ _ _) ?_)
          | fail)
        go_roundg g1
        case measure => omega
        case rel => exact ⟨j + 1, sp2, cap2, by omega, by rw [HR1.out]; exact H2.out.2.1, by rw [HR1.out]; exact H2.out.2.2⟩
      | true =>
        rw [hok] at HR1 HP
        clear hok
        go_upto_region 8 with (first
          | (refine wpList_load_row rfl 48 (.tmp 2) rfl X rfl 48 (md r.1.f r.1.g sp (ws r.1.x).length cap).toArray (0, 0) _ HM.out.1.x Tryd.underlying48 rfl (by kernel_rfl) ?_)
          | (go_at_call 18; refine HP.out.mono ?_; rintro e w2 ⟨sp2, cap2, rfl, hs2, hb2⟩; have H2 := Lib.hid (And.intro (HM.out.1.new hb2) (HM.out.1.took HM.out.2 hs2 hb2)); clear hs2 hb2; try dsimp only)
          | (refine wpList_store_row rfl 48 (.tmp 2) (.tmp 30) rfl X (md s'.f s'.g sp2 (ws s'.x).length cap2).toArray rfl rfl 48 _ H2.out.1.x (by kernel_rfl) rfl (md_one _ _ _ _ _) ?_)
          | fail)
        generalize hw3 : World.setRow _ _ _ = w3
        have h4 := H2.out.2
        rw [hw3] at h4
        have H4 := Lib.hid h4
        clear hw3 h4
        go_wp2_with (first
          | (at_builtin; refine wpList_append_vary rfl (.tmp 35) (.tmp 37) 22 rfl (X + 2) 3 i0 (.int .i64 0) 1 8 Tryd.underlying22 hin hz0 hz1 hz2 rfl (by decide) _ r.2.length (rowI r.2) rfl (H4.out.2.alloc _) (some ⟨w3.heap.size, 0, none⟩) 1 1 [.int .i64 n] rfl rfl (fun h => by cases h) (fun ad hd j u hu => by injection hd with hd; subst hd; exact cell_one_new _ _ _ j u hu) (one_cell _) (by unfold maxLen; omega) (by omega) (by have := H4.out.1.lt; rw [World.size_alloc]; omega) ?_; intro v5 w5 hown5 hg5 hv5; have H5 := Lib.hid (And.intro (H4.out.1.app H4.out.2 hg5 hv5) hown5); clear hown5 hg5 hv5)
          | fail)
        go_roundg g1
        case measure => omega
        case rel => exact ⟨j + 1, sp2, cap2, by omega, by rw [HR1.out]; exact H5.out.1, by rw [HR1.out]; show World.ownsRow _ _ _ _ _ (r.2 ++ [n]).length (rowI (r.2 ++ [n])); rw [List.length_append, rowI_snoc]; exact H5.out.2⟩
end Go.Proofs.YtjgbbgemoobjjaaDoor
