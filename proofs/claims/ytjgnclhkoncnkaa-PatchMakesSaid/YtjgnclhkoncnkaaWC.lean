/- Where pieces lie; the contract of patch's addNew. -/
import Derived.Test.YtjgnclhkoncnkaaWB
import Derived.Test.YtjgnclhkoncnkaaVary
import Derived.Test.YtjgnclhkoncnkaaBox
namespace Go.Proofs.Ytjgnclhkoncnkaa
open Go.RowKit

theorem rowsOf_snoc (g : Nat → List Value) (k : Nat) : rowsOf g (k + 1) = rowsOf g k ++ g k := by
  unfold rowsOf
  rw [List.range_succ, List.map_append, List.flatten_append]
  simp
theorem rowsOf_cong {f g : Nat → List Value} : ∀ {n : Nat}, (∀ k, k < n → f k = g k) → rowsOf f n = rowsOf g n
  | 0, _ => rfl
  | n + 1, h => by rw [rowsOf_snoc, rowsOf_snoc, rowsOf_cong fun k hk => h k (by omega), h n (by omega)]
def rowU (l : List Int) : List Value := l.map (Value.int .u32)
theorem rowU_len (l : List Int) : (rowU l).length = l.length := by simp [rowU]
theorem rowU_snoc (l : List Int) (x : Int) : rowU (l ++ [x]) = rowU l ++ [.int .u32 x] := by simp [rowU]
def opC (o : OpM) (v : Value) : List Value := [.int .i64 (o.fr : Nat), .int .i64 (o.many : Nat), v]
/-- Pieces lie there, each new one's words in a block of its own; the last one's in no other one's. -/
structure OpsAt (w : World) (base : Nat) (v : Value) (l : List OpM) (nv : Nat → Value) : Prop where
  row : w.ownsRow base 70 3 v l.length (rowsOf (fun k => opC (l.getD k default) (nv k)) l.length)
  new : ∀ k, k < l.length → w.ownsRow base 73 1 (nv k) (l.getD k default).new.length (rowU (l.getD k default).new)
  dis : ∀ k, k + 1 < l.length → ∀ g, (nv (l.length - 1)).ownBlock = some g → (nv k).ownBlock ≠ some g
theorem OpsAt.start (w : World) (base : Nat) (nv : Nat → Value) : OpsAt w base (.slice none 0 0) [] nv :=
  ⟨⟨rfl, .inl ⟨rfl, rfl⟩⟩, fun k hk => by simp at hk, fun k hk => by simp at hk⟩
theorem own_apart {A : World} {b1 b2 : Nat} {e1 e2 : TypeId} {s1 s2 : Nat} {v1 v2 : Value} {m1 m2 : Nat} {x1 x2 : List Value} (h1 : A.ownsRow b1 e1 s1 v1 m1 x1) (h2 : A.ownsRow b2 e2 s2 v2 m2 x2) (he : e1 ≠ e2) : v1.ownBlock = none ∨ v1.ownBlock ≠ v2.ownBlock := by
  rcases h1.2 with ⟨rfl, _⟩ | ⟨g, c, cur, rfl, r1⟩
  · exact .inl rfl
  · rcases h2.2 with ⟨rfl, _⟩ | ⟨g', c', cur', rfl, r2⟩
    · exact .inr (by simp [Value.ownBlock])
    · exact .inr (by simpa [Value.ownBlock] using own_ne h1 h2 he)
theorem OpsAt.below {w w' : World} {base : Nat} {v : Value} {l : List OpM} {nv : Nat → Value} (h : OpsAt w base v l nv) (hb : Below w.heap.size w w') : OpsAt w' base v l nv :=
  ⟨own_below h.row hb (Nat.le_refl _), fun k hk => own_below (h.new k hk) hb (Nat.le_refl _), h.dis⟩
theorem getD_snoc_lt (l : List OpM) (o : OpM) {k : Nat} (hk : k < l.length) : (l ++ [o]).getD k default = l.getD k default := by
  simp [List.getD, List.getElem?_append_left hk]
theorem getD_snoc_eq (l : List OpM) (o : OpM) : (l ++ [o]).getD l.length default = o := by simp [List.getD]
/-- One piece more. -/
theorem OpsAt.push {w w2 w' : World} {base : Nat} {v v' : Value} {l : List OpM} {nv : Nat → Value} (h : OpsAt w base v l nv) (hb : Below w.heap.size w w2) (o : OpM) (x : Value)
    (hr : w'.ownsRow base 70 3 v' (l.length + 1) (rowsOf (fun k => opC (l.getD k default) (nv k)) l.length ++ opC o x)) (hg : w2.grownBy w' v.ownBlock)
    (hx : w2.ownsRow base 73 1 x o.new.length (rowU o.new)) (hxb : ∀ g, x.ownBlock = some g → w.heap.size ≤ g) : OpsAt w' base v' (l ++ [o]) (fun k => if k = l.length then x else nv k) := by
  have hlen : (l ++ [o]).length = l.length + 1 := by simp
  have h2 := h.below hb
  refine ⟨?_, fun k hk => ?_, fun k hk g hg2 => ?_⟩
  · rw [hlen, rowsOf_snoc]
    have e1 : rowsOf (fun k => opC ((l ++ [o]).getD k default) (if k = l.length then x else nv k)) l.length = rowsOf (fun k => opC (l.getD k default) (nv k)) l.length := rowsOf_cong fun k hk => by
      rw [getD_snoc_lt l o hk, if_neg (by omega)]
    rw [e1, getD_snoc_eq, if_pos rfl]
    exact hr
  · by_cases e : k = l.length
    · subst e
      rw [getD_snoc_eq, if_pos rfl]
      exact hx.kept hg (own_apart hx h2.row (by decide))
    · have hk2 : k < l.length := by omega
      rw [getD_snoc_lt l o hk2, if_neg e]
      exact (h2.new k hk2).kept hg (own_apart (h2.new k hk2) h2.row (by decide))
  · rw [hlen, Nat.add_sub_cancel, if_pos rfl] at hg2
    rw [if_neg (by omega)]
    intro hk2
    have := ((h.new k (by omega)).lt g hk2).2
    have := hxb g hg2
    omega
/-- A word more in the last piece. -/
theorem OpsAt.grow {w w1 w2 : World} {base g cap : Nat} {l : List OpM} {o : OpM} {nv : Nat → Value} {x : Value} {u : Int} (h : OpsAt w base (.slice (some ⟨g, 0, none⟩) (l.length + 1) cap) (l ++ [o]) nv) (hb : Below w.heap.size w w1)
    (hx : w2.ownsRow base 73 1 x (o.new.length + 1) (rowU o.new ++ [.int .u32 u])) (hg : w1.grownBy w2 (nv l.length).ownBlock) (hat : x.ownBlock = (nv l.length).ownBlock ∨ x.ownBlock = some w1.heap.size) :
    OpsAt (w2.setCell ⟨g, l.length * 3 + 2, none⟩ x) base (.slice (some ⟨g, 0, none⟩) (l.length + 1) cap) (l ++ [⟨o.fr, o.many, o.new ++ [u]⟩]) (fun k => if k = l.length then x else nv k) := by
  have hlen : (l ++ [o]).length = l.length + 1 := by simp
  have hlen2 : (l ++ [(⟨o.fr, o.many, o.new ++ [u]⟩ : OpM)]).length = l.length + 1 := by simp
  have h1 := h.below hb
  have hr := h1.row
  have hn := h1.new
  rw [hlen] at hr hn
  have hlast := hn l.length (by omega)
  have hr2 := hr.kept hg (own_apart hr hlast (by decide))
  obtain ⟨s1, s2⟩ := hr2.stored (l.length * 3 + 2) x
  refine ⟨?_, fun k hk => ?_, fun k hk g2 hg2 => ?_⟩
  · rw [hlen2]
    have e1 : rowsOf (fun k => opC ((l ++ [(⟨o.fr, o.many, o.new ++ [u]⟩ : OpM)]).getD k default) (if k = l.length then x else nv k)) l.length = rowsOf (fun k => opC ((l ++ [o]).getD k default) (nv k)) l.length := rowsOf_cong fun k hk => by
      rw [getD_snoc_lt l _ hk, getD_snoc_lt l _ hk, if_neg (by omega)]
    rw [rowsOf_snoc, e1, getD_snoc_eq, if_pos rfl]
    rw [rowsOf_snoc, getD_snoc_eq] at s1
    have hl3 : (rowsOf (fun k => opC ((l ++ [o]).getD k default) (nv k)) l.length).length = l.length * 3 := rowsOf_len l.length fun k _ => rfl
    rw [List.set_append_right _ _ (by rw [hl3]; omega), hl3, Nat.add_sub_cancel_left] at s1
    exact s1
  · by_cases e : k = l.length
    · subst e
      rw [getD_snoc_eq, if_pos rfl]
      have := hx.kept s2 (own_apart hx hr2 (by decide))
      rw [rowU_snoc, List.length_append, List.length_singleton]
      exact this
    · have hk2 : k < l.length := by omega
      have hnk := hn k (by omega)
      rw [getD_snoc_lt l o hk2] at hnk
      rw [getD_snoc_lt l _ hk2, if_neg e]
      have hne : (nv k).ownBlock = none ∨ (nv k).ownBlock ≠ (nv l.length).ownBlock := by
        cases hv : (nv l.length).ownBlock with
        | none => cases hv2 : (nv k).ownBlock with
          | none => exact .inl rfl
          | some j => exact .inr (by simp)
        | some j => exact .inr (h.dis k (by omega) j (by rw [hlen, Nat.add_sub_cancel]; exact hv))
      have h3 := hnk.kept hg hne
      exact h3.kept s2 (own_apart h3 hr2 (by decide))
  · rw [hlen2, Nat.add_sub_cancel, if_pos rfl] at hg2
    rw [if_neg (by omega)]
    intro hk2
    rcases hat with e | e
    · rw [e] at hg2
      exact h.dis k (by omega) g2 (by rw [hlen, Nat.add_sub_cancel]; exact hg2) hk2
    · rw [e] at hg2
      have := ((hn k (by omega)).lt g2 hk2).2
      have : w1.heap.size = g2 := by simpa using hg2
      omega
theorem op_new (w : World) (c : Array Value) (t : TypeId) : ∀ (j : Nat) (u : Value), c.toList[j]? = some u → (w.alloc (.cells c t)).cell? ((⟨w.heap.size, 0, none⟩ : Addr).add j) = some u :=
  World.news_of_block (World.alloc_heap_new w (.cells c t))
set_option maxRecDepth 100000 in
set_option maxHeartbeats 4000000 in
/-- A new word where no new piece stands last. -/
theorem addnew_push {w : World} {base : Nat} {v : Value} {acc : List OpM} {nv : Nat → Value} (h : OpsAt w base v acc nv) (x : Int) (hn : acc.length ≤ 5000) (hb : base ≤ w.heap.size) (he : addNewM acc x = acc ++ [⟨0, 0, [x]⟩]) (hl : acc = [] ∨ ∃ l o, acc = l ++ [o] ∧ o.new = []) :
    Calls Try.prog 50 #[v, .int .u32 x] w fun e w' => ∃ v' nv', e = .returned v' ∧ OpsAt w' base v' (addNewM acc x) nv' ∧ Below base w w' := by
  obtain ⟨i0, hi, hz0, hz1, hz2⟩ := info_parts (show (Try.prog.info? 70).map (fun i => (i.zero, i.size, i.bytes)) = some (some (.agg #[.int .i64 0, .int .i64 0, .slice none 0 0]), 3, 40) from by kernel_rfl)
  have hr := h.row
  have HPush := Lib.hid (fun (w' : World) (v' : Value) (hr : w'.ownsRow base 70 3 v' (acc.length + 1) (rowsOf (fun k => opC (acc.getD k default) (nv k)) acc.length ++ [.int .i64 0, .int .i64 0, .slice (some ⟨w.heap.size, 0, none⟩) 1 1])) (hg : ((w.alloc (.cells #[.int .u32 x] 73)).alloc (.cells #[.int .i64 0, .int .i64 0, .slice (some ⟨w.heap.size, 0, none⟩) 1 1] 70)).grownBy w' v.ownBlock) => show OpsAt w' base v' (addNewM acc x) _ from by
    rw [he]
    have hb1 : Below w.heap.size w (w.alloc (.cells #[.int .u32 x] 73)) := (Below.refl _ _).alloc (Nat.le_refl _) _
    have hb2 : Below w.heap.size w ((w.alloc (.cells #[.int .u32 x] 73)).alloc (.cells #[.int .i64 0, .int .i64 0, .slice (some ⟨w.heap.size, 0, none⟩) 1 1] 70)) := hb1.alloc (by simp) _
    have hx : ((w.alloc (.cells #[.int .u32 x] 73)).alloc (.cells #[.int .i64 0, .int .i64 0, .slice (some ⟨w.heap.size, 0, none⟩) 1 1] 70)).ownsRow base 73 1 (.slice (some ⟨w.heap.size, 0, none⟩) 1 1) 1 [.int .u32 x] :=
      (World.ownsRow_lit w #[.int .u32 x] 1 hb (by unfold maxLen; omega) rfl).alloc _
    exact h.push hb2 ⟨0, 0, [x]⟩ _ hr hg hx (fun g hg => by
      have : w.heap.size = g := by simpa [Value.ownBlock] using hg
      omega))
  have HBl := Lib.hid (fun (w' : World) (hg : ((w.alloc (.cells #[.int .u32 x] 73)).alloc (.cells #[.int .i64 0, .int .i64 0, .slice (some ⟨w.heap.size, 0, none⟩) 1 1] 70)).grownBy w' v.ownBlock) => show Below base w w' from
    (((Below.refl base w).alloc hb _).alloc (by simp; omega) _).grown hg (by simp; omega) (fun k hk => (hr.lt k hk).1))
  have hr2 : ((w.alloc (.cells #[.int .u32 x] 73)).alloc (.cells #[.int .i64 0, .int .i64 0, .slice (some ⟨w.heap.size, 0, none⟩) 1 1] 70)).ownsRow base 70 3 v acc.length (rowsOf (fun k => opC (acc.getD k default) (nv k)) acc.length) := (hr.alloc _).alloc _
  have HR2 := Lib.hid hr2
  rcases hl with rfl | ⟨l, o, rfl, hno⟩
  · rcases hr.2 with ⟨rfl, -⟩ | ⟨g, cap, cur, rfl, -⟩
    · clear h hr hr2
      go_enter Try.func50, Try.ntmps50
      go_wp2_with (at_builtin; refine wpList_append_vary rfl (.tmp 20) (.tmp 24) 64 rfl base 70 i0 (.agg #[.int .i64 0, .int .i64 0, .slice none 0 0]) 3 40 Try.underlying64 hi hz0 hz1 hz2 rfl (by decide) _ 0 [] rfl HR2.out (some ⟨(w.alloc (.cells #[.int .u32 x] 73)).heap.size, 0, none⟩) 1 1 [.int .i64 0, .int .i64 0, .slice (some ⟨w.heap.size, 0, none⟩) 1 1] (by simp [World.size_alloc]; rfl) rfl (fun h => nomatch h) (fun ad h => by obtain rfl := Option.some.inj h; exact op_new _ _ _) (by simp [Value.oneCell']) (by unfold maxLen; omega) (by omega) (by simp; omega) ?_; intro v' w' hown hgrow hat; have HO := Lib.hid (And.intro hown hgrow); clear hown hgrow hat)
      go_ret
      exact ⟨_, _, rfl, HPush.out _ _ HO.out.1 HO.out.2, HBl.out _ HO.out.2⟩
    · clear h hr hr2
      go_enter Try.func50, Try.ntmps50
      go_wp2_with (at_builtin; refine wpList_append_vary rfl (.tmp 20) (.tmp 24) 64 rfl base 70 i0 (.agg #[.int .i64 0, .int .i64 0, .slice none 0 0]) 3 40 Try.underlying64 hi hz0 hz1 hz2 rfl (by decide) _ 0 [] rfl HR2.out (some ⟨(w.alloc (.cells #[.int .u32 x] 73)).heap.size, 0, none⟩) 1 1 [.int .i64 0, .int .i64 0, .slice (some ⟨w.heap.size, 0, none⟩) 1 1] (by simp [World.size_alloc]; rfl) rfl (fun h => nomatch h) (fun ad h => by obtain rfl := Option.some.inj h; exact op_new _ _ _) (by simp [Value.oneCell']) (by unfold maxLen; omega) (by omega) (by simp; omega) ?_; intro v' w' hown hgrow hat; have HO := Lib.hid (And.intro hown hgrow); clear hown hgrow hat)
      go_ret
      exact ⟨_, _, rfl, HPush.out _ _ HO.out.1 HO.out.2, HBl.out _ HO.out.2⟩
  · have hlen : (l ++ [o]).length = l.length + 1 := by simp
    have hnl := h.new l.length (by omega)
    rw [getD_snoc_eq, hno] at hnl
    obtain ⟨sp2, cap2, hnv⟩ := own_val hnl
    rw [hlen] at hr hn HR2 HPush
    obtain ⟨g, cap, rfl, -, -⟩ := own_some hr (by omega)
    have hc := hr.cellAt (l.length * 3 + 2) (by omega)
    rw [rowsOf_at (sz := 3) (fun k _ => rfl) l.length 2 (by omega) (by omega), getD_snoc_eq, hnv] at hc
    have hc2 : w.cell? ⟨g, l.length * 3 + 2, none⟩ = some (.slice sp2 0 cap2) := hc
    obtain ⟨n, hn2⟩ : ∃ n, l.length = n := ⟨_, rfl⟩
    rw [hn2] at hc2 HR2 HPush hn ⊢
    clear h hr hr2 hnl hnv hc hn2 hlen hno he
    go_enter Try.func50, Try.ntmps50
    go_wp2_with (at_builtin; refine wpList_append_vary rfl (.tmp 20) (.tmp 24) 64 rfl base 70 i0 (.agg #[.int .i64 0, .int .i64 0, .slice none 0 0]) 3 40 Try.underlying64 hi hz0 hz1 hz2 rfl (by decide) _ (n + 1) _ rfl HR2.out (some ⟨(w.alloc (.cells #[.int .u32 x] 73)).heap.size, 0, none⟩) 1 1 [.int .i64 0, .int .i64 0, .slice (some ⟨w.heap.size, 0, none⟩) 1 1] (by simp [World.size_alloc]; rfl) rfl (fun h => nomatch h) (fun ad h => by obtain rfl := Option.some.inj h; exact op_new _ _ _) (by simp [Value.oneCell']) (by unfold maxLen; omega) (by omega) (by simp; omega) ?_; intro v' w' hown hgrow hat; have HO := Lib.hid (And.intro hown hgrow); clear hown hgrow hat)
    go_ret
    exact ⟨_, _, rfl, HPush.out _ _ HO.out.1 HO.out.2, HBl.out _ HO.out.2⟩
set_option maxRecDepth 100000 in
set_option maxHeartbeats 4000000 in
/-- A new word behind those of a last new piece. -/
theorem addnew_grow {w : World} {base : Nat} {v : Value} {l : List OpM} {o : OpM} {nv : Nat → Value} (h : OpsAt w base v (l ++ [o]) nv) (x : Int) (hn : l.length ≤ 5000) (hm : o.new.length ≤ 5000) (hb : base ≤ w.heap.size) (hno : o.new ≠ []) :
    Calls Try.prog 50 #[v, .int .u32 x] w fun e w' => ∃ v' nv', e = .returned v' ∧ OpsAt w' base v' (addNewM (l ++ [o]) x) nv' ∧ Below base w w' := by
  obtain ⟨i0, hi, hz0, hz1, hz2⟩ := info_parts (show (Try.prog.info? 73).map (fun i => (i.zero, i.size, i.bytes)) = some (some (.int .u32 0), 1, 4) from by kernel_rfl)
  have he : addNewM (l ++ [o]) x = l ++ [⟨o.fr, o.many, o.new ++ [x]⟩] := by simp [addNewM, hno]
  rw [he]
  have hlen : (l ++ [o]).length = l.length + 1 := by simp
  have hr := h.row
  have hnl := h.new l.length (by omega)
  rw [getD_snoc_eq] at hnl
  rw [hlen] at hr
  obtain ⟨g, cap, rfl, hgb, hgl⟩ := own_some hr (by omega)
  have hnp : 0 < o.new.length := List.length_pos_iff.2 hno
  obtain ⟨g2, cap2, hnv, -, -⟩ := own_some hnl hnp
  have hb1 : Below w.heap.size w (w.alloc (.cells #[.int .u32 x] 73)) := (Below.refl _ _).alloc (Nat.le_refl _) _
  have hr1 := hr.alloc (.cells #[.int .u32 x] 73)
  have hnl1 := hnl.alloc (.cells #[.int .u32 x] 73)
  have HGrow := Lib.hid (fun (w2 : World) (x' : Value) (h1 : w2.ownsRow base 73 1 x' (o.new.length + 1) (rowU o.new ++ [.int .u32 x])) (h2 : (w.alloc (.cells #[.int .u32 x] 73)).grownBy w2 (nv l.length).ownBlock) (h3 : x'.ownBlock = (nv l.length).ownBlock ∨ x'.ownBlock = some (w.alloc (.cells #[.int .u32 x] 73)).heap.size) => And.intro (h.grow hb1 h1 h2 h3) (show Below base w (w2.setCell ⟨g, l.length * 3 + 2, none⟩ x') from
    (((Below.refl base w).alloc hb _).grown h2 (by simp; omega) (fun k hk => (hnl.lt k hk).1)).setCell hgb _))
  have HRow := Lib.hid (fun (w2 : World) (h2 : (w.alloc (.cells #[.int .u32 x] 73)).grownBy w2 (nv l.length).ownBlock) => show w2.cell? ⟨g, l.length * 3 + 2, none⟩ = some (nv l.length) ∧ w2.frozen? ⟨g, l.length * 3 + 2, none⟩ = false from by
    have hk := hr1.kept h2 (own_apart hr1 hnl1 (by decide))
    refine ⟨?_, hk.frozenAt _⟩
    have hc := hk.cellAt (l.length * 3 + 2) (by omega)
    rw [rowsOf_at (sz := 3) (fun k _ => rfl) l.length 2 (by omega) (by omega)] at hc
    exact hc)
  have hc := hr.cellAt (l.length * 3 + 2) (by omega)
  rw [rowsOf_at (sz := 3) (fun k _ => rfl) l.length 2 (by omega) (by omega)] at hc
  have hc2 : w.cell? ⟨g, l.length * 3 + 2, none⟩ = some (nv l.length) := hc
  have hc3 := (hr1.cellAt (l.length * 3 + 2) (by omega))
  rw [rowsOf_at (sz := 3) (fun k _ => rfl) l.length 2 (by omega) (by omega)] at hc3
  have hc4 : (w.alloc (.cells #[.int .u32 x] 73)).cell? ⟨g, l.length * 3 + 2, none⟩ = some (nv l.length) := hc3
  rw [hnv] at hc2 hc4 HGrow HRow hnl1
  obtain ⟨m, hm2⟩ : ∃ m, o.new.length = m := ⟨_, rfl⟩
  rw [hm2] at hc2 hc4 HGrow HRow hnl1 hm hnp
  have HN1 := Lib.hid hnl1
  obtain ⟨n, hn2⟩ : ∃ n, l.length = n := ⟨_, rfl⟩
  rw [hn2] at hc2 hc4 HGrow HRow hn ⊢
  have hm1 : ¬ (m : Int) = 0 := by omega
  have hm3 : ((m : Int) == 0) = false := by simp; omega
  clear h hr hr1 hnl hnl1 hnv hc hc3 hn2 hm2 hlen hno he hb1 hgb hgl hc4
  go_enter Try.func50, Try.ntmps50
  go_wp2_with (at_builtin; refine wpList_append_vary rfl (.tmp 32) (.tmp 34) 63 rfl base 73 i0 (.int .u32 0) 1 4 Try.underlying63 hi hz0 hz1 hz2 rfl (by decide) _ m _ rfl HN1.out (some ⟨w.heap.size, 0, none⟩) 1 1 [.int .u32 x] rfl rfl (fun h => nomatch h) (fun ad h => by obtain rfl := Option.some.inj h; exact op_new _ _ _) (by simp [Value.oneCell']) (by unfold maxLen; omega) (by omega) (by simp; omega) ?_; intro v' w' hown hgrow hat; obtain ⟨sp9, cap9, rfl⟩ := own_val hown; have HO := Lib.hid (HGrow.out w' _ hown hgrow hat); obtain ⟨k1, k2⟩ := HRow.out w' hgrow; clear hown hgrow hat hc2)
  go_ret
  exact ⟨_, _, rfl, HO.out.1, HO.out.2⟩
theorem addnew_any {w : World} {base : Nat} {v : Value} {acc : List OpM} {nv : Nat → Value} (h : OpsAt w base v acc nv) (x : Int) (hn : acc.length ≤ 5000) (hm : ∀ o ∈ acc, o.new.length ≤ 5000) (hb : base ≤ w.heap.size) :
    Calls Try.prog 50 #[v, .int .u32 x] w fun e w' => ∃ v' nv', e = .returned v' ∧ OpsAt w' base v' (addNewM acc x) nv' ∧ Below base w w' := by
  cases hl : acc.getLast? with
  | none =>
    obtain rfl : acc = [] := by simpa using hl
    exact addnew_push h x hn hb rfl (.inl rfl)
  | some o =>
    have hs := last_split hl
    by_cases hne : o.new = []
    · refine addnew_push h x hn hb ?_ (.inr ⟨acc.dropLast, o, hs, hne⟩)
      unfold addNewM
      rw [hl]
      exact if_pos hne
    · rw [hs] at h ⊢
      exact addnew_grow h x (by rw [List.length_dropLast]; omega) (hm o (List.mem_of_getLast? hl)) hb hne
end Go.Proofs.Ytjgnclhkoncnkaa
