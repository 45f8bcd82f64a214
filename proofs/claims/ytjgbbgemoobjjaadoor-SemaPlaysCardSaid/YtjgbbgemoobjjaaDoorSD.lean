/- The contracts of law52's with and without; where the law's model lies. -/
import Derived.Test.YtjgbbgemoobjjaaDoorSC
import Derived.Test.YtjgbbgemoobjjaaDoorSI
namespace Go.Proofs.YtjgbbgemoobjjaaDoor
open Go.RowKit

/-- Who waits, rising. -/
def ws (x : BitVec 32) : List Int := ints (lst x 32)
theorem ws_len (x : BitVec 32) : (ws x).length ≤ 32 := by have := lst_len x 32; simpa [ws, ints] using this
theorem ws_len' (x : BitVec 32) : (ws x).length = (lst x 32).length := by simp [ws, ints]
theorem ws_without (x : BitVec 32) (t : Int) : ws (x &&& ~~~onl t) = (ws x).filter fun n => decide (n ≠ t) := by
  unfold ws ints lst
  rw [List.filter_map, List.filter_filter]
  congr 1
  apply List.filter_congr
  intro i hi
  have hi' : i < 32 := by simpa using hi
  rw [BitVec.getLsbD_and, BitVec.getLsbD_not, onl_bit _ i hi']
  by_cases e : (i : Int) = t
  · simp [e]
  · simp [hi', e]
theorem of_own {w : World} {base n cap : Nat} {sp : Option Addr} {l : List Int} (h : w.ownsRow base 3 1 (.slice sp n cap) n (rowI l)) (hn : n = l.length) (hl : n ≤ 1000) : Calls Tryd.prog 28 #[.slice sp n cap] w fun e w' => e = .returned (.int .u32 (w32 (ofR l))) ∧ w = w' := by
  subst hn
  obtain ⟨sp', g, cap', hv, h1, _⟩ := own_lies h
  injection hv with e1 _ e2
  subst e1 e2
  exact refof_any _ g 0 _ l w (by omega) h1
/-- A row that the call owns grows by an append: the caller's blocks stay. -/
theorem below_app {w w1 w2 : World} {v : Value} {m : Nat} {xs : List Value} {o : Array Value} {ty : TypeId} (h : Below w.heap.size w w1) (hown : w1.ownsRow w.heap.size 3 1 v m xs) (hg : (w1.alloc (.cells o ty)).grownBy w2 v.ownBlock) : Below w.heap.size w w2 :=
  (h.alloc h.size _).grown hg (by have := h.size; rw [World.size_alloc]; omega) (fun j e => own_ge hown j e)
theorem app_first {w w1 : World} {n : Nat} {L : List Int} {v1 : Value} (hown : w1.ownsRow w.heap.size 3 1 v1 (0 + n) ([] ++ rowI L)) (hg : (w.alloc (.cells #[] 3)).grownBy w1 (Value.slice (some ⟨w.heap.size, 0, none⟩) 0 0).ownBlock) :
    ∃ sp1 cap1, v1 = .slice sp1 n cap1 ∧ w1.ownsRow w.heap.size 3 1 (.slice sp1 n cap1) n (rowI L) ∧ Below w.heap.size w w1 := by
  rw [Nat.zero_add, List.nil_append] at hown
  obtain ⟨sp1, cap1, rfl⟩ := own_val hown
  have hb : Below w.heap.size w (w.alloc (.cells #[] 3)) := (Below.refl _ _).alloc (Nat.le_refl _) _
  exact ⟨sp1, cap1, rfl, hown, hb.grown hg (by rw [size_add]; omega) (fun j e => by simp [Value.ownBlock] at e; omega)⟩
theorem app_then {w w1 w2 : World} {n : Nat} {L : List Int} {t : Int} {v1 v2 : Value} {o : Array Value} {ty : TypeId} (h1 : w1.ownsRow w.heap.size 3 1 v1 n (rowI L)) (hb : Below w.heap.size w w1) (hown : w2.ownsRow w.heap.size 3 1 v2 (n + 1) (rowI L ++ [.int .i64 t])) (hg : (w1.alloc (.cells o ty)).grownBy w2 v1.ownBlock) (hn : L.length = n) (h32 : n ≤ 900) :
    ∃ sp2 cap2, v2 = .slice sp2 (n + 1) cap2 ∧ Below w.heap.size w w2 ∧ Calls Tryd.prog 28 #[.slice sp2 (n + 1) cap2] w2 fun e w' => e = .returned (.int .u32 (w32 (ofR (L ++ [t])))) ∧ w2 = w' := by
  rw [← rowI_snoc] at hown
  obtain ⟨sp2, cap2, rfl⟩ := own_val hown
  exact ⟨sp2, cap2, rfl, below_app hb h1 hg, of_own hown (by rw [List.length_append, hn]; rfl) (by omega)⟩
set_option maxHeartbeats 2000000 in
set_option maxRecDepth 100000 in
theorem lwith_any {T : Nat → Prop} {w : World} {sp : Option Addr} {cap : Nat} (x : BitVec 32) (h : SI T w sp cap (ws x)) (hT : ∀ j, T j → j < w.heap.size) (t : Int) :
    Calls Tryd.prog 46 #[.slice sp (ws x).length cap, .int .i64 t] w fun e w' => ∃ sp' cap', e = .returned (.slice sp' (ws (x ||| onl t)).length cap') ∧ SI T w' sp' cap' (ws (x ||| onl t)) ∧ Below w.heap.size w w' := by
  obtain ⟨i0, hi, hz0, hz1, hz2⟩ := info_parts info3
  obtain ⟨L, hL⟩ : ∃ L, ws x = L := ⟨_, rfl⟩
  obtain ⟨n, hn⟩ : ∃ n, L.length = n := ⟨_, rfl⟩
  have hn32 : n ≤ 32 := by rw [← hn, ← hL]; exact ws_len x
  have HX := Lib.hid (show ofR (L ++ [t]) = x ||| onl t from by rw [← hL]; exact with_eq x t)
  rw [hL] at h ⊢
  have HNO := Lib.hid (show sp = none → n = 0 from by rw [← hn]; exact h.no)
  have HLEN := Lib.hid (show (rowI L).length = n * 1 from by rw [rowI_len, hn, Nat.mul_one])
  have HSRC := Lib.hid (show ∀ w', Below w.heap.size w w' → ∀ ad, sp = some ad → ∀ j u, (rowI L)[j]? = some u → w'.cell? (ad.add j) = some u from fun w' hb => (h.new hb).src)
  have HO := Lib.hid (own_fresh w w.heap.size 3 1 (Nat.le_refl _))
  have HB := Lib.hid (show Below w.heap.size w (w.alloc (.cells #[] 3)) from (Below.refl _ _).alloc (Nat.le_refl _) _)
  have HN := Lib.hid hn
  have HT := Lib.hid hT
  rw [hn]
  clear h hT hn hL
  go_enter Tryd.func46, Tryd.ntmps46
  go_wp2_with (first
    | (at_builtin; refine wpList_append_vary rfl (.tmp 5) (.tmp 6) 22 rfl w.heap.size 3 i0 (.int .i64 0) 1 8 Tryd.underlying22 hi hz0 hz1 hz2 rfl (by decide) _ 0 [] rfl HO.out _ n _ (rowI L) rfl HLEN.out HNO.out (HSRC.out _ HB.out) (rowI_one _) (by unfold maxLen; omega) (by omega) (by rw [size_add]; omega) ?_; intro v1 w1 hown1 hg1 hat1; obtain ⟨sp1, cap1, rfl, h1⟩ := app_first hown1 hg1; have H1 := Lib.hid h1; clear h1 hown1 hg1 hat1)
    | (at_builtin; refine wpList_append_own _ rfl (.tmp 7) (.tmp 9) 22 rfl w.heap.size 3 i0 (.int .i64 0) 1 8 Tryd.underlying22 hi hz0 hz1 hz2 rfl Nat.one_pos _ n (rowI L) rfl (H1.out.1.alloc _) ⟨w1.heap.size, 0, none⟩ 1 1 [.int .i64 t] rfl rfl (cell_one_new _ _ _) (one_cell _) (by unfold maxLen; omega) (by omega) (by have := H1.out.2.size; rw [World.size_alloc]; omega) ?_; intro v2 w2 hown2 hg2 hq2; obtain ⟨sp2, cap2, rfl, hb2, hc2⟩ := app_then H1.out.1 H1.out.2 hown2 hg2 HN.out (by omega); have HOF := Lib.hid hc2; have H2 := Lib.hid hb2; clear hown2 hg2 hq2 hb2 hc2)
    | (go_at_call 28; refine HOF.out.mono ?_; rintro e w3 ⟨rfl, rfl⟩; have HLI := Lib.hid (list_any (ofR (L ++ [t])) w2))
    | (go_at_call 55; refine HLI.out.mono ?_; rintro e w4 ⟨v4, rfl, hown4, hb4⟩; have H4 := Lib.hid (And.intro hown4 hb4); clear hown4 hb4))
  go_ret
  rw [HX.out] at H4
  obtain ⟨sp4, cap4, rfl⟩ := own_val H4.out.1
  rw [ws_len']
  refine ⟨_, _, rfl, SI.of_own H4.out.1 (ws_len' _).symm (fun j hj => ?_), H2.out.trans (H4.out.2.mono H2.out.size)⟩
  have := HT.out j hj
  have := H2.out.size
  omega
theorem filt_snoc (l : List Int) (t : Int) (k : Nat) (h : k < l.length) : (l.take (k + 1)).filter (fun n => decide (n ≠ t)) = if nth l k = t then (l.take k).filter (fun n => decide (n ≠ t)) else (l.take k).filter (fun n => decide (n ≠ t)) ++ [nth l k] := by
  rw [take_succ_nth l k h, List.filter_append]
  by_cases e : nth l k = t
  · simp [e]
  · simp [e]
set_option maxHeartbeats 2000000 in
set_option maxRecDepth 100000 in
theorem lwithout_any {T : Nat → Prop} {w : World} {sp : Option Addr} {cap : Nat} (L : List Int) (h : SI T w sp cap L) (hT : ∀ j, T j → j < w.heap.size) (hl : L.length ≤ 1000) (t : Int) :
    Calls Tryd.prog 21 #[.slice sp L.length cap, .int .i64 t] w fun e w' => ∃ sp' cap', e = .returned (.slice sp' (L.filter fun n => decide (n ≠ t)).length cap') ∧ SI T w' sp' cap' (L.filter fun n => decide (n ≠ t)) ∧ Below w.heap.size w w' := by
  obtain ⟨i0, hi, hz0, hz1, hz2⟩ := info_parts info3
  have HL := Lib.hid h
  have HT := Lib.hid hT
  clear h hT
  go_enter Tryd.func21, Tryd.ntmps21
  go_wp2
  go_loopg [5, 6] L.length (fun g v i wr => ∃ (k : Nat), k + g = L.length ∧ i = .int .i64 k ∧ wr.ownsRow w.heap.size 3 1 v ((L.take k).filter fun n => decide (n ≠ t)).length (rowI ((L.take k).filter fun n => decide (n ≠ t))) ∧ Below w.heap.size w wr)
  case atStart => exact ⟨0, by omega, rfl, World.ownsRow_nil _ _ _ _, Below.refl _ _⟩
  case round =>
    obtain ⟨k, hkg, rfl, hown, hB⟩ := hrel
    have HO := Lib.hid hown
    have HB := Lib.hid hB
    clear hown hB
    cases gk with
    | zero =>
      obtain rfl : k = L.length := by omega
      rw [List.take_length] at HO
      go_wp2
      go_ret
      obtain ⟨sp4, cap4, rfl⟩ := own_val HO.out
      refine ⟨_, _, rfl, SI.of_own HO.out rfl (fun j hj => HT.out j hj), HB.out⟩
    | succ g1 =>
      have hlt : k < L.length := by omega
      have hf := filt_snoc L t k hlt
      have hle : ((L.take k).filter fun n => decide (n ≠ t)).length ≤ 1000 := by
        have h1 := List.length_filter_le (fun n => decide (n ≠ t)) (L.take k)
        have h2 : (L.take k).length ≤ L.length := by simp; omega
        omega
      obtain ⟨F, hF⟩ : ∃ F, (L.take k).filter (fun n => decide (n ≠ t)) = F := ⟨_, rfl⟩
      rw [hF] at HO hf hle
      clear hF
      obtain ⟨b, o, rfl, _, hbl, hcs⟩ := HL.out.addr (by omega)
      have hc : wr.cell? ⟨b, o + k, none⟩ = some (.int .i64 (nth L k)) := (HB.out.cell (p := ⟨b, o + k, none⟩) hbl).trans (hcs k hlt)
      have HH := Lib.hid hbl
      clear hcs hbl
      obtain ⟨y, hy⟩ : ∃ y, nth L k = y := ⟨_, rfl⟩
      rw [hy] at hc hf
      clear hy
      by_cases e : y = t
      · rw [if_pos e] at hf
        have e' : (y == t) = true := by simpa using e
        have HF := Lib.hid hf
        clear hf e
        go_wp2
        go_roundg g1
        case measure => omega
        case rel => exact ⟨k + 1, by omega, by go_num, by rw [HF.out]; exact HO.out, HB.out⟩
      · rw [if_neg e] at hf
        have e' : (y == t) = false := by simpa using e
        have HF := Lib.hid hf
        clear hf e
        go_wp2_with (at_builtin; refine wpList_append_own _ rfl (.tmp 19) (.tmp 24) 22 rfl w.heap.size 3 i0 (.int .i64 0) 1 8 Tryd.underlying22 hi hz0 hz1 hz2 rfl Nat.one_pos _ F.length (rowI F) rfl (HO.out.alloc _) ⟨wr.heap.size, 0, none⟩ 1 1 [.int .i64 y] rfl rfl (cell_one_new _ _ _) (one_cell _) (by unfold maxLen; omega) (by omega) (by have := HB.out.size; rw [World.size_alloc]; omega) ?_; intro v2 w2 hown2 hg2 hq2; have H2 := Lib.hid (And.intro hown2 (below_app HB.out HO.out hg2)); clear hown2 hg2 hq2)
        go_roundg g1
        case measure => omega
        case rel => exact ⟨k + 1, by omega, by go_num, by rw [HF.out, List.length_append, rowI_snoc]; exact H2.out.1, H2.out.2⟩
end Go.Proofs.YtjgbbgemoobjjaaDoor
