/- The reference's pieces in memory; slices.Equal over words once more; the contract of the reference's stands. -/
import Derived.Test.YtjgnclhkoncnkaaWF
namespace Go.Proofs.Ytjgnclhkoncnkaa
open Go.RowKit

/-- Pieces lie there, each new one's words in a block of its own; the last one's in no other one's. -/
structure ROpsAt (w : World) (base : Nat) (v : Value) (l : List OpM) (nv : Nat → Value) : Prop where
  row : w.ownsRow base 71 3 v l.length (rowsOf (fun k => opC (l.getD k default) (nv k)) l.length)
  new : ∀ k, k < l.length → w.ownsRow base 73 1 (nv k) (l.getD k default).new.length (rowU (l.getD k default).new)
  dis : ∀ k, k + 1 < l.length → ∀ g, (nv (l.length - 1)).ownBlock = some g → (nv k).ownBlock ≠ some g
theorem ROpsAt.start (w : World) (base : Nat) (nv : Nat → Value) : ROpsAt w base (.slice none 0 0) [] nv :=
  ⟨⟨rfl, .inl ⟨rfl, rfl⟩⟩, fun k hk => by simp at hk, fun k hk => by simp at hk⟩
theorem ROpsAt.below {w w' : World} {base : Nat} {v : Value} {l : List OpM} {nv : Nat → Value} (h : ROpsAt w base v l nv) (hb : Below w.heap.size w w') : ROpsAt w' base v l nv :=
  ⟨own_below h.row hb (Nat.le_refl _), fun k hk => own_below (h.new k hk) hb (Nat.le_refl _), h.dis⟩
/-- One piece more. -/
theorem ROpsAt.push {w w2 w' : World} {base : Nat} {v v' : Value} {l : List OpM} {nv : Nat → Value} (h : ROpsAt w base v l nv) (hb : Below w.heap.size w w2) (o : OpM) (x : Value)
    (hr : w'.ownsRow base 71 3 v' (l.length + 1) (rowsOf (fun k => opC (l.getD k default) (nv k)) l.length ++ opC o x)) (hg : w2.grownBy w' v.ownBlock)
    (hx : w2.ownsRow base 73 1 x o.new.length (rowU o.new)) (hxb : ∀ g, x.ownBlock = some g → w.heap.size ≤ g) : ROpsAt w' base v' (l ++ [o]) (fun k => if k = l.length then x else nv k) := by
  have hlen : (l ++ [o]).length = l.length + 1 := by simp
  have h2 := h.below hb
  refine ⟨?_, fun k hk => ?_, fun k hk g hg2 => ?_⟩
  · rw [hlen, rowsOf_snoc]
    have e1 : rowsOf (fun k => opC ((l ++ [o]).getD k default) (if k = l.length then x else nv k)) l.length = rowsOf (fun k => opC (l.getD k default) (nv k)) l.length := rowsOf_cong fun k hk => by
      rw [getD_snoc_lt l o hk, if_neg (by omega)]
    rw [e1, getD_snoc_eq, if_pos rfl]
    exact hr
  · by_cases e : k = l.length
    · subst e
      rw [getD_snoc_eq, if_pos rfl]
      exact hx.kept hg (own_apart hx h2.row (by decide))
    · have hk2 : k < l.length := by omega
      rw [getD_snoc_lt l o hk2, if_neg e]
      exact (h2.new k hk2).kept hg (own_apart (h2.new k hk2) h2.row (by decide))
  · rw [hlen, Nat.add_sub_cancel, if_pos rfl] at hg2
    rw [if_neg (by omega)]
    intro hk2
    have := ((h.new k (by omega)).lt g hk2).2
    have := hxb g hg2
    omega
/-- The last piece's words stand in a new row. -/
theorem ROpsAt.set {w w2 : World} {base g cap : Nat} {l : List OpM} {o : OpM} {nv : Nat → Value} {x : Value} {ws : List Int} (h : ROpsAt w base (.slice (some ⟨g, 0, none⟩) (l.length + 1) cap) (l ++ [o]) nv) (hb : Below w.heap.size w w2)
    (hx : w2.ownsRow base 73 1 x ws.length (rowU ws)) (hxb : ∀ g, x.ownBlock = some g → w.heap.size ≤ g) :
    ROpsAt (w2.setCell ⟨g, l.length * 3 + 2, none⟩ x) base (.slice (some ⟨g, 0, none⟩) (l.length + 1) cap) (l ++ [⟨o.fr, o.many, ws⟩]) (fun k => if k = l.length then x else nv k) := by
  have hlen : (l ++ [o]).length = l.length + 1 := by simp
  have hlen2 : (l ++ [(⟨o.fr, o.many, ws⟩ : OpM)]).length = l.length + 1 := by simp
  have h1 := h.below hb
  have hr := h1.row
  have hn := h1.new
  rw [hlen] at hr hn
  obtain ⟨s1, s2⟩ := hr.stored (l.length * 3 + 2) x
  refine ⟨?_, fun k hk => ?_, fun k hk g2 hg2 => ?_⟩
  · rw [hlen2]
    have e1 : rowsOf (fun k => opC ((l ++ [(⟨o.fr, o.many, ws⟩ : OpM)]).getD k default) (if k = l.length then x else nv k)) l.length = rowsOf (fun k => opC ((l ++ [o]).getD k default) (nv k)) l.length := rowsOf_cong fun k hk => by
      rw [getD_snoc_lt l _ hk, getD_snoc_lt l _ hk, if_neg (by omega)]
    rw [rowsOf_snoc, e1, getD_snoc_eq, if_pos rfl]
    rw [rowsOf_snoc, getD_snoc_eq] at s1
    have hl3 : (rowsOf (fun k => opC ((l ++ [o]).getD k default) (nv k)) l.length).length = l.length * 3 := rowsOf_len l.length fun k _ => rfl
    rw [List.set_append_right _ _ (by rw [hl3]; omega), hl3, Nat.add_sub_cancel_left] at s1
    exact s1
  · by_cases e : k = l.length
    · subst e
      rw [getD_snoc_eq, if_pos rfl]
      exact hx.kept s2 (own_apart hx hr (by decide))
    · have hk2 : k < l.length := by omega
      have hnk := hn k (by omega)
      rw [getD_snoc_lt l o hk2] at hnk
      rw [getD_snoc_lt l _ hk2, if_neg e]
      exact hnk.kept s2 (own_apart hnk hr (by decide))
  · rw [hlen2, Nat.add_sub_cancel, if_pos rfl] at hg2
    rw [if_neg (by omega)]
    intro hk2
    have := ((h.new k (by omega)).lt g2 hk2).2
    have := hxb g2 hg2
    omega
theorem ROpsAt.toP {w : World} {base : Nat} {v : Value} {l : List OpM} {nv : Nat → Value} (h : ROpsAt w base v l nv) (hl : l.length ≤ 1000000) : ∃ (S : Src) (Sn : Nat → Src), v = .slice S.sp l.length S.c ∧ PAt w S (l.map OpM.toI) Sn := by
  have hn : ∀ k, k < l.length → ∃ S : Src, nv k = .slice S.sp (l.getD k default).new.length S.c ∧ WAt w S (l.getD k default).new := fun k hk => by
    obtain ⟨S, h1, h2, -⟩ := own_words (h.new k hk) rfl
    exact ⟨S, h1, h2⟩
  obtain ⟨Sn, hSn⟩ := Go.Deep.choose_lt hn
  obtain ⟨S, hv, h1, h2⟩ := own_rows h.row (sz := 3) (fun k _ => rfl) (by omega)
  have hg : ∀ k, k < l.length → (l.map OpM.toI).getD k default = (l.getD k default).toI := fun k hk => by simp [List.getD, hk]
  refine ⟨S, Sn, hv, ⟨⟨fun h0 => ?_, by rw [List.length_map]; omega⟩, ?_, ?_, ?_, ?_⟩⟩
  · rw [List.length_map] at h0
    exact ⟨(h1 h0).1, (h1 h0).2.2.1, fun h => h⟩
  all_goals (intro k hk; rw [List.length_map] at hk; rw [hg k hk])
  · exact h2 k hk 0 _ rfl
  · exact h2 k hk 1 _ rfl
  · have := h2 k hk 2 _ rfl
    rw [(hSn k hk).1] at this
    exact this
  · exact (hSn k hk).2
set_option maxHeartbeats 4000000 in
/-- The same, and it only draws. -/
theorem equalU_quiet {w : World} {A B : Src} {a b : List Int} (ha : WAt w A a) (hb : WAt w B b) (la : a.length ≤ 10000) (lb : b.length ≤ 10000) :
    Calls Try.prog 34 #[.slice A.sp a.length A.c, .slice B.sp b.length B.c] w fun e w' => e = .returned (.bool (decide (a = b))) ∧ ∃ m, w' = w.drewN m := by
  have HA := Lib.hid (fun (k : Nat) (hk : k < a.length) (_ : Nat) => show A.sp = some ⟨A.b, A.o, none⟩ ∧ w.cell? ⟨A.b, A.o + k, none⟩ = some (.int .u32 (nth a k)) from ⟨(ha.sl.at_ (by omega)).1, ha.e k hk⟩)
  have HB := Lib.hid (fun (k : Nat) (hk : k < b.length) (_ : Nat) => show B.sp = some ⟨B.b, B.o, none⟩ ∧ w.cell? ⟨B.b, B.o + k, none⟩ = some (.int .u32 (nth b k)) from ⟨(hb.sl.at_ (by omega)).1, hb.e k hk⟩)
  have HE := Lib.hid (fun (h1 : a.length = b.length) (h2 : ∀ j, j < a.length → nth a j = nth b j) => decide_eq_true (words_eq h1 h2))
  have HNo := Lib.hid (fun (h1 : a.length ≠ b.length) => show decide (a = b) = false from decide_eq_false (fun e => h1 (by rw [e])))
  have HNe := Lib.hid (fun (k : Nat) (h1 : nth a k ≠ nth b k) => show decide (a = b) = false from decide_eq_false (fun e => h1 (by rw [e])))
  obtain ⟨pa, qa, oa, ca⟩ := A
  obtain ⟨pb, qb, ob, cb⟩ := B
  obtain ⟨N, hN⟩ : ∃ n, a.length = n := ⟨_, rfl⟩
  obtain ⟨M, hM⟩ : ∃ n, b.length = n := ⟨_, rfl⟩
  obtain ⟨v, hv⟩ : ∃ n, decide (a = b) = n := ⟨_, rfl⟩
  dsimp only at HA HB ⊢
  rw [hN] at HA la
  rw [hM] at HB lb
  rw [hN, hM, hv] at HE HNo
  rw [hv] at HNe
  rw [hN, hM, hv]
  clear ha hb hN hM hv
  by_cases hl : N = M
  · subst hl
    have HE2 := Lib.hid (HE.out rfl)
    clear HE HNo
    go_enter Try.func34, Try.ntmps34
    go_wp2
    go_loopg [13] N (fun g u wr => ∃ k : Nat, k + g = N ∧ u = .int .i64 (k : Nat) ∧ Aside ((∀ j, j < k → nth a j = nth b j) ∧ ∃ m, wr = w.drewN m))
    case atStart => exact ⟨0, by omega, rfl, fun j hj => by omega, 0, rfl⟩
    case round =>
      obtain ⟨k, hkg, rfl, hrl⟩ := hrel
      obtain ⟨hr1, mm, rfl⟩ := hrl
      have HR := Lib.hid hr1
      clear hr1
      cases gk with
      | zero =>
        obtain rfl : k = N := by omega
        have HX := Lib.hid (HE2.out HR.out)
        go_wp2
        go_ret
        exact ⟨by rw [HX.out]; rfl, mm, rfl⟩
      | succ g1 =>
        have hk : k < N := by omega
        have hk2 : (k : Int) < N := by omega
        obtain ⟨e1, h1⟩ := HA.out k hk mm
        obtain ⟨e2, h2⟩ := HB.out k hk mm
        subst e1 e2
        by_cases hx : nth a k = nth b k
        · have HX := Lib.hid hx
          rw [hx] at h1
          clear hx
          go_wp2
          go_quiet (fail)
          go_wp2
          go_roundg g1
          case measure => omega
          case rel => exact ⟨k + 1, by omega, by go_num, fun j hj => by
            by_cases e : j = k
            · subst e; exact HX.out
            · exact HR.out j (by omega), (by first | exact ⟨_, rfl⟩ | exact ⟨_, World.drewN_drewN _ _ _⟩)⟩
        · have HX := Lib.hid (HNe.out k hx)
          have hxb : (nth a k != nth b k) = true := by simp [hx]
          go_wp2
          go_quiet (fail)
          go_wp2
          go_ret
          exact ⟨by rw [HX.out]; rfl, (by first | exact ⟨_, rfl⟩ | exact ⟨_, World.drewN_drewN _ _ _⟩)⟩
  · have HX := Lib.hid (HNo.out hl)
    have hl2 : ¬ (N : Int) = M := by omega
    have hl3 : ((N : Int) != M) = true := by simp [hl2]
    clear HE HNo HNe HA HB
    go_enter Try.func34, Try.ntmps34
    go_wp2
    go_ret
    exact ⟨by rw [HX.out]; rfl, 0, rfl⟩
theorem alikeN_ge : ∀ {a b : List Int} {m : Nat}, m ≤ a.length → m ≤ b.length → (∀ j, j < m → nth a j = nth b j) → m ≤ alikeN a b
  | [], b, m, h1, _, _ => by simp at h1; omega
  | x :: a, [], m, _, h2, _ => by simp at h2; omega
  | x :: a, y :: b, m, h1, h2, h3 => by
    cases m with
    | zero => omega
    | succ m =>
      have h0 : x = y := by simpa [nth] using h3 0 (by omega)
      unfold alikeN
      rw [if_pos h0]
      have := alikeN_ge (a := a) (b := b) (m := m) (by simpa using h1) (by simpa using h2) (fun j hj => by simpa [nth] using h3 (j + 1) (by omega))
      omega
def standB (a b : List Int) (f m t : Nat) : Bool := decide (m ≤ alikeN (a.drop f) (b.drop t))
set_option maxHeartbeats 8000000 in
theorem stands_any {w : World} {A B : Src} {a b : List Int} (ha : WAt w A a) (hb : WAt w B b) (la : a.length ≤ 5000) (lb : b.length ≤ 5000) (f m t : Nat) (hf : f ≤ a.length) (ht : t ≤ b.length) (hm : m ≤ 10000) :
    Calls Try.prog 51 #[.slice A.sp a.length A.c, .slice B.sp b.length B.c, .int .i64 (f : Nat), .int .i64 (m : Nat), .int .i64 (t : Nat)] w fun e w' => e = .returned (.bool (standB a b f m t)) ∧ Below w.heap.size w w' := by
  have HA := Lib.hid (fun (k : Nat) (hk : k < a.length) (wx : World) (hx : Below w.heap.size w wx) => And.intro (ha.sl.at_ (by omega)).1 ((ha.new hx).e k hk))
  have HB := Lib.hid (fun (k : Nat) (hk : k < b.length) (wx : World) (hx : Below w.heap.size w wx) => And.intro (hb.sl.at_ (by omega)).1 ((hb.new hx).e k hk))
  obtain ⟨al1, al2, al3⟩ := alikeN_le (a.drop f) (b.drop t)
  rw [List.length_drop] at al1 al2
  have HYes := Lib.hid (fun (h1 : f + m ≤ a.length) (h2 : t + m ≤ b.length) (h3 : ∀ j, j < m → nth a (f + j) = nth b (t + j)) => show standB a b f m t = true from decide_eq_true (alikeN_ge (by rw [List.length_drop]; omega) (by rw [List.length_drop]; omega) (fun j hj => by rw [nth_drop, nth_drop]; exact h3 j hj)))
  have HNo1 := Lib.hid (fun (h1 : ¬ (f + m ≤ a.length ∧ t + m ≤ b.length)) => show standB a b f m t = false from decide_eq_false (fun h => h1 (by omega)))
  have HNo2 := Lib.hid (fun (j : Nat) (hj : j < m) (h3 : nth a (f + j) ≠ nth b (t + j)) => show standB a b f m t = false from decide_eq_false (fun h => h3 (by have := al3 j (by omega); rwa [nth_drop, nth_drop] at this)))
  obtain ⟨v, hv⟩ : ∃ v, standB a b f m t = v := ⟨_, rfl⟩
  rw [hv] at HYes HNo1 HNo2 ⊢
  obtain ⟨pa, qa, oa, ca⟩ := A
  obtain ⟨pb, qb, ob, cb⟩ := B
  obtain ⟨N, hN⟩ : ∃ n, a.length = n := ⟨_, rfl⟩
  obtain ⟨M, hM⟩ : ∃ n, b.length = n := ⟨_, rfl⟩
  dsimp only at HA HB ⊢
  rw [hN] at HA la HYes HNo1 hf
  rw [hM] at HB lb HYes HNo1 ht
  rw [hN, hM]
  clear ha hb hN hM hv al1 al2 al3
  by_cases g0 : N < f + m
  · have hX := Lib.hid (HNo1.out (by omega))
    have g0i : (N : Int) < (f : Int) + m := by omega
    go_enter Try.func51, Try.ntmps51
    go_wp2
    go_ret
    exact ⟨by rw [hX.out]; rfl, Below.refl _ _⟩
  by_cases g1 : M < t + m
  · have hX := Lib.hid (HNo1.out (by omega))
    have g0i : ¬ (N : Int) < (f : Int) + m := by omega
    have g1i : (M : Int) < (t : Int) + m := by omega
    go_enter Try.func51, Try.ntmps51
    go_wp2
    go_ret
    exact ⟨by rw [hX.out]; rfl, Below.refl _ _⟩
  have HYes2 := Lib.hid (HYes.out (by omega) (by omega))
  have g0i : ¬ (N : Int) < (f : Int) + m := by omega
  have g1i : ¬ (M : Int) < (t : Int) + m := by omega
  clear HYes HNo1
  go_enter Try.func51, Try.ntmps51
  go_wp2
  go_loopg [11] m (fun g u wr => ∃ k : Nat, k + g = m ∧ u = .int .i64 (k : Nat) ∧ Aside ((∀ j, j < k → nth a (f + j) = nth b (t + j)) ∧ Below w.heap.size w wr))
  case atStart => exact ⟨0, by omega, rfl, fun j hj => by omega, Below.refl _ _⟩
  case round =>
    obtain ⟨k, hkg, rfl, HR⟩ := hrel
    cases gk with
    | zero =>
      obtain rfl : k = m := by omega
      have HX := Lib.hid (HYes2.out HR.out.1)
      go_wp2
      go_ret
      exact ⟨by rw [HX.out]; rfl, HR.out.2⟩
    | succ g1 =>
      have hk : k < m := by omega
      have hk2 : (k : Int) < m := by omega
      obtain ⟨e1, h1⟩ := HA.out (f + k) (by omega) wr HR.out.2
      obtain ⟨e2, h2⟩ := HB.out (t + k) (by omega) wr HR.out.2
      subst e1 e2
      have b1 : (f : Int) + k < N := by omega
      have b2 : (t : Int) + k < M := by omega
      have b3 : 0 ≤ (f : Int) + k := by omega
      have b4 : 0 ≤ (t : Int) + k := by omega
      by_cases hx : nth a (f + k) = nth b (t + k)
      · have HX := Lib.hid hx
        rw [hx] at h1
        clear hx
        go_wp2
        go_quiet (fail)
        go_wp2
        go_roundg g1
        case measure => omega
        case rel => exact ⟨k + 1, by omega, by go_num, fun j hj => by
          by_cases e : j = k
          · subst e; exact HX.out
          · exact HR.out.1 j (by omega), below_dn HR.out.2 _⟩
      · have HX := Lib.hid (HNo2.out k hk hx)
        have hxb : (nth a (f + k) != nth b (t + k)) = true := by simp [hx]
        go_wp2
        go_quiet (fail)
        go_wp2
        go_ret
        exact ⟨by rw [HX.out]; rfl, below_dn HR.out.2 _⟩
end Go.Proofs.Ytjgnclhkoncnkaa
