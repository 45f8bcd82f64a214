/- The contracts of mbox's New and Take. -/
import Derived.Test.YtbdcjfkplopbiaaDoorUB
namespace Go.Proofs.YtbdcjfkplopbiaaDoor
open Go.RowKit

def f0 : Nat → List Int := fun _ => []
theorem bx_new (n : Int) : (bx n (fun _ => none) (fun _ => 0) f0).toArray = #[.int .i64 n, .slice none 0 0, .slice none 0 0, .slice none 0 0, .slice none 0 0, .slice none 0 0, .slice none 0 0, .slice none 0 0, .slice none 0 0, .slice none 0 0, .slice none 0 0, .slice none 0 0, .slice none 0 0, .slice none 0 0, .slice none 0 0, .slice none 0 0, .slice none 0 0, .slice none 0 0, .slice none 0 0, .slice none 0 0, .slice none 0 0, .slice none 0 0, .slice none 0 0, .slice none 0 0, .slice none 0 0, .slice none 0 0, .slice none 0 0, .slice none 0 0, .slice none 0 0, .slice none 0 0, .slice none 0 0, .slice none 0 0, .slice none 0 0] := by rfl
theorem mnew_none (n : Int) (h : n < 1 ∨ 65536 < n) (w : World) : Calls Tryd.prog 5 #[.int .i64 n] w fun e w' => e = .returned (.tuple #[.pointer none, .int .i64 64]) ∧ w = w' := by
  by_cases h1 : n < 1
  · clear h
    go_enter Tryd.func5, Tryd.ntmps5
    go_wp2
    go_ret2
    exact ⟨rfl, rfl⟩
  · have h2 : 65536 < n := by omega
    clear h
    go_enter Tryd.func5, Tryd.ntmps5
    go_wp2
    go_ret2
    exact ⟨rfl, rfl⟩
theorem mnew_some (V : Nat → Prop) (n : Int) (h1 : 1 ≤ n) (h2 : n ≤ 65536) (w : World) (hV : ∀ j, V j → j < w.heap.size) : Calls Tryd.prog 5 #[.int .i64 n] w fun e w' => e = .returned (.tuple #[.pointer (some ⟨w.heap.size, 0, none⟩), .int .i64 0]) ∧ BAt w' V w.heap.size n f0 ∧ Below w.heap.size w w' := by
  have HF := Lib.hid (show ∀ o : Obj, o = .cells (bx n (fun _ => none) (fun _ => 0) f0).toArray 47 → BAt (w.alloc o) V w.heap.size n f0 from fun o ho => by
    subst ho
    exact ⟨_, _, heap_alloc_new w _, fun hv => by have := hV _ hv; omega, fun d hd => .inl ⟨rfl, rfl, rfl⟩, fun d a hd ha => (by cases ha), fun d e a b hd he hne ha hb => (by cases ha)⟩)
  rw [bx_new] at HF
  clear hV
  go_enter Tryd.func5, Tryd.ntmps5
  go_wp2
  go_ret2
  exact ⟨rfl, HF.out _ rfl, (Below.refl _ _).alloc (Nat.le_refl _) _⟩

theorem Slc.cons {w : World} {sp : Option Addr} {cap : Nat} {L : List Int} (h : Slc w sp cap L) (h0 : L.length ≠ 0) : ∃ (g off : Nat) (cur : Array Value), sp = some ⟨g, off, none⟩ ∧ w.heap[g]? = some (.cells cur 3 (0, 0)) ∧ off + cap ≤ cur.size ∧ L.length ≤ cap ∧ ∀ k, k < L.length → cur[off + k]? = some (.int .i64 (nth L k)) := by
  rcases h with ⟨_, h, _⟩ | h
  · rw [h] at h0; exact absurd rfl h0
  · exact h
theorem nth_drop1 (L : List Int) (k : Nat) : nth (L.drop 1) k = nth L (k + 1) := by unfold nth; simp [List.getD_eq_getElem?_getD]
/-- The least degree of which there are messages, if there is one. -/
theorem dg_cons {f : Nat → List Int} {d : Nat} {l : List Nat} (h : lst (dgK f 32) 32 = d :: l) : d < 32 ∧ (f d).length ≠ 0 := by
  have : d ∈ lst (dgK f 32) 32 := by rw [h]; exact List.mem_cons_self
  obtain ⟨h1, h2⟩ := (mem_lst _ _ _).1 this
  rw [dgK_bit f 32 (Nat.le_refl _) d h1] at h2
  simp at h2
  exact ⟨h1, by simpa using h2.2⟩
theorem note_one (a b : Int) : (#[Value.int .i64 a, .int .i64 b] : Array Value).all (·.oneCell') = true := all_oneCell_toArray (cs := [.int .i64 a, .int .i64 b]) (fun v hv => by simp at hv; rcases hv with rfl | rfl <;> rfl)
set_option maxHeartbeats 4000000 in
set_option maxRecDepth 100000 in
theorem take_no {w : World} {V : Nat → Prop} {B : Nat} {rm : Int} {f : Nat → List Int} (h : BAt w V B rm f) (ht : Tab w) (hl : lst (dgK f 32) 32 = []) :
    Calls Tryd.prog 7 #[.pointer (some ⟨B, 0, none⟩)] w fun e w' => e = .returned (.tuple #[.agg #[.int .i64 0, .int .i64 0], .int .i64 270]) ∧ BAt w' V B rm f ∧ Below w.heap.size w w' := by
  obtain ⟨sp, cp, hx⟩ := h
  obtain ⟨X, hX⟩ : ∃ X, X = w.heap.size := ⟨_, rfl⟩
  obtain ⟨w1, hw1⟩ : ∃ w1, w.alloc (.cells #[.int .i64 0, .int .i64 0] 30) = w1 := ⟨_, rfl⟩
  have b1 : Below w.heap.size w w1 := by rw [← hw1]; exact (Below.refl _ _).alloc (Nat.le_refl _) _
  have HR := Lib.hid (show RowAt w1 X 30 #[.int .i64 0, .int .i64 0] by rw [← hw1, hX]; exact RowAt.mk _ _ _)
  have HX := Lib.hid (And.intro (hx.new b1) (And.intro b1 hX))
  have HD := Lib.hid (mdeg_any (hx.new b1))
  have HLt := Lib.hid (And.intro hx.lt (fun d a (hd : d < 32) ha => (hx.av d a hd ha).2.2))
  have HT := Lib.hid (first_any (dgK f 32) w1 (ht.below ht.pos b1))
  rw [hl] at HT
  clear hx ht b1 hl
  go_enter Tryd.func7, Tryd.ntmps7
  go_upto_region 1 with fail
  try rw [hw1]
  try rw [← hX]
  clear hw1 hX
  go_wp2_with (first
    | (go_at_call 13; refine HD.out.mono ?_; rintro e w2 ⟨rfl, rfl⟩)
    | (go_at_call 14; refine HT.out.mono ?_; rintro e w2 ⟨rfl, rfl⟩)
    | (refine wpList_store_row rfl 30 (.tmp 2) (.tmp 15) rfl X #[.int .i64 0, .int .i64 0] rfl rfl 30 _ HR.out (by kernel_rfl) rfl (note_one _ _) ?_)
    | fail)
  refine bodyPost_ret (results_rest (us := [3]) rfl _ _ X 30 #[.int .i64 0, .int .i64 0] _ rfl (RowAt.put HR.out) Tryd.underlying30 rfl (by kernel_rfl) (by decide)) rfl ?_
  have hc := ch_setRow w1 X #[.int .i64 0, .int .i64 0]
  have hlX : X < w1.heap.size := HR.out.lt
  refine ⟨rfl, ⟨sp, cp, HX.out.1.keep hc (fun e => ?_) (fun d a hd ha e => ?_)⟩, HX.out.2.1.trans (hc.below (fun k hk e => ?_) HX.out.2.1.size)⟩
  · have := HLt.out.1; have := HX.out.2.2; omega
  · have := HLt.out.2 d a hd ha; have := HX.out.2.2; omega
  · have := HX.out.2.2; omega
/-- The result's block is turned last. -/
theorem take_end {w w3 : World} {V : Nat → Prop} {B X : Nat} {rm : Int} {sp : Nat → Option Addr} {cp : Nat → Nat} {f : Nat → List Int} {cs : Array Value} (h : BX w3 V B rm sp cp f) (hc : Ch (fun j => ¬ V j) w w3) (hX : X = w.heap.size) (hV : ∀ j, V j → j < w.heap.size) (hXB : X ≠ B) (hsp : ∀ e a, e < 32 → sp e = some a → a.block < X) :
    BAt (w3.drew.setRow X cs) V B rm f ∧ Ch (fun j => ¬ V j) w (w3.drew.setRow X cs) := by
  have h1 : BX w3.drew V B rm sp cp f := h.new (below_dn (Below.refl _ _) 1)
  have hs := ch_setRow w3.drew X cs
  refine ⟨⟨sp, cp, h1.keep hs (fun e => hXB e.symm) (fun d a hd ha e => by have := hsp d a hd ha; omega)⟩, hc.drew.trans (hs.mono fun j _ e hv => by have := hV j hv; omega)⟩
set_option maxHeartbeats 4000000 in
set_option maxRecDepth 100000 in
theorem take_some {w : World} {V : Nat → Prop} {B : Nat} {rm : Int} {f : Nat → List Int} (h : BAt w V B rm f) (hV : ∀ j, V j → j < w.heap.size) (ht : Tab w) (d : Nat) (l : List Nat) (hl : lst (dgK f 32) 32 = d :: l) (hm : (f d).length ≤ 65536) :
    Calls Tryd.prog 7 #[.pointer (some ⟨B, 0, none⟩)] w fun e w' => e = .returned (.tuple #[.agg #[.int .i64 (d : Nat), .int .i64 (nth (f d) 0)], .int .i64 0]) ∧ BAt w' V B rm (updF f d ((f d).drop 1)) ∧ Ch (fun j => ¬ V j) w w' := by
  obtain ⟨sp, cp, hx⟩ := h
  obtain ⟨hd, h0⟩ := dg_cons hl
  obtain ⟨X, hX⟩ : ∃ X, X = w.heap.size := ⟨_, rfl⟩
  obtain ⟨w1, hw1⟩ : ∃ w1, w.alloc (.cells #[.int .i64 0, .int .i64 0] 30) = w1 := ⟨_, rfl⟩
  have b1 : Below w.heap.size w w1 := by rw [← hw1]; exact (Below.refl _ _).alloc (Nat.le_refl _) _
  have hr1 : RowAt w1 X 30 #[.int .i64 0, .int .i64 0] := by rw [← hw1, hX]; exact RowAt.mk _ _ _
  have hXB : X ≠ B := by have := hx.lt; omega
  have hx1 := hx.new b1
  have hV1 : ∀ j, V j → j < w1.heap.size := fun j hj => by have := hV j hj; have := b1.size; omega
  have HD := Lib.hid (mdeg_any hx1)
  have HT := Lib.hid (first_any (dgK f 32) w1 (ht.below ht.pos b1))
  rw [hl] at HT
  obtain ⟨g, off, cur, hsp, hg, hoc, hlc, hcs⟩ := (hx1.sl d hd).cons h0
  have hgX : g ≠ X := by have := (hx.av d _ hd hsp).2.2; intro e; rw [hX] at e; exact absurd this (by rw [← e]; exact Nat.lt_irrefl _)
  have cd := hx1.cd d hd
  have fd := hx1.fr (1 + d)
  have c0 : w1.cell? ⟨g, off, none⟩ = some (.int .i64 (nth (f d) 0)) := by
    rw [cell_of_row w1 g off _ _ _ hg]
    have := hcs 0 (by omega)
    rw [Nat.add_zero] at this
    exact this
  obtain ⟨x, hxx⟩ : ∃ x, nth (f d) 0 = x := ⟨_, rfl⟩
  obtain ⟨n, hn⟩ : ∃ n, (f d).length = n := ⟨_, rfl⟩
  obtain ⟨c, hc⟩ : ∃ c, cp d = c := ⟨_, rfl⟩
  -- what the slice without its first one is
  obtain ⟨s', c', hs', hc'⟩ : ∃ (s' : Option Addr) (c' : Nat), (s' = if c = 1 then some ⟨g, off, none⟩ else some ⟨g, off + 1, none⟩) ∧ c' = c - 1 := ⟨_, _, rfl, rfl⟩
  have hslc : Slc w1 s' c' ((f d).drop 1) := by
    by_cases h1 : c = 1
    · refine .inr ⟨g, off, cur, by rw [hs', if_pos h1], hg, by rw [hc']; omega, by rw [List.length_drop, hc']; omega, fun k hk => ?_⟩
      rw [List.length_drop] at hk; omega
    · refine .inr ⟨g, off + 1, cur, by rw [hs', if_neg h1], hg, by rw [hc']; omega, by rw [List.length_drop, hc']; omega, fun k hk => ?_⟩
      rw [List.length_drop] at hk
      rw [nth_drop1, show off + 1 + k = off + (k + 1) by omega]
      exact hcs (k + 1) (by omega)
  have hnb : ∀ a, s' = some a → a.block < w1.heap.size ∧ ((∃ b, sp d = some b ∧ b.block = a.block) ∨ w1.heap.size ≤ a.block) := fun a ha => by
    have hb : a.block = g := by
      rw [hs'] at ha
      split at ha <;> (injection ha with ha; rw [← ha])
    exact ⟨by rw [hb]; exact (hx1.av d _ hd hsp).2.2, .inl ⟨_, hsp, hb.symm⟩⟩
  have ht1 := hx1.turn hV1 hd (Ch.refl _ _) hslc hnb
  have hlen : ((f d).drop 1).length = n - 1 := by rw [List.length_drop, hn]
  rw [hlen] at ht1
  obtain ⟨w3, hw3⟩ : ∃ w3, w1.setCell ⟨B, 1 + d, none⟩ (.slice s' (n - 1) c') = w3 := ⟨_, rfl⟩
  rw [hw3] at ht1
  have c3 : w3.cell? ⟨g, off, none⟩ = some (.int .i64 x) := by
    rw [← hw3, World.cell?_setCell_other _ _ _ _ (fun e => (hx1.av d _ hd hsp).2.1 (by injection e with e _; exact e.symm)), ← hxx]; exact c0
  have r3 : RowAt w3 X 30 #[.int .i64 0, .int .i64 0] := by rw [← hw3]; exact hr1.keep (T := fun j => j = B) ((Ch.refl _ _).setCell _ _ (.inl rfl)) hXB
  have HF := Lib.hid (And.intro ht1.1 (And.intro (Ch.trans (show Ch (fun j => ¬ V j) w w1 from Ch.new b1) ht1.2) (And.intro r3 c3)))
  have HXX := Lib.hid (And.intro hX (And.intro hV (And.intro hx.lt (fun e a (he : e < 32) ha => (hx.av e a he ha).2.2))))
  have HSP := Lib.hid (show ∀ e a, e < 32 → updF sp d s' e = some a → a.block < X from fun e a he ha => by
    by_cases e1 : e = d
    · subst e1
      rw [updF_same] at ha
      have hb : a.block = g := by
        rw [hs'] at ha
        split at ha <;> (injection ha with ha; rw [← ha])
      rw [hb, hX]; exact (hx.av e _ hd hsp).2.2
    · rw [updF_ne _ _ _ _ e1] at ha
      rw [hX]; exact (hx.av e a he ha).2.2)
  have n1 : 1 ≤ n := by omega
  have nc : n ≤ c := by rw [← hn, ← hc]; exact hlc
  rw [hsp, hn, hc] at cd
  rw [hxx] at c0 ⊢
  have d0 : (0 : Int) ≤ (d : Int) := by omega
  have d1 : (d : Int) < 32 := by omega
  have HN := Lib.hid (And.intro hd (And.intro hXB hn))
  clear hx hx1 ht hV hV1 b1 hl hd h0 hm hg hoc hlc hcs hsp hxx hn hc hslc hnb ht1 hlen hr1 r3 c3 hgX hXB
  by_cases h1 : c = 1
  · rw [if_pos h1] at hs'
    obtain rfl := hs'
    obtain rfl : c' = 0 := by omega
    obtain rfl : n = 1 := by omega
    subst h1
    clear hc'
    go_enter Tryd.func7, Tryd.ntmps7
    go_upto_region 1 with fail
    try rw [hw1]
    try rw [← hX]
    clear hw1 hX
    go_wp2_with (first
      | (go_at_call 13; refine HD.out.mono ?_; rintro e w2 ⟨rfl, rfl⟩)
      | (go_at_call 14; refine HT.out.mono ?_; rintro e w2 ⟨rfl, rfl⟩)
      | fail)
    go_region
    clear hw3 cd fd c0 HD HT
    have c4 := HF.out.2.2.2
    go_wp2_with (first
      | (refine wpList_store_row rfl 30 (.tmp 2) (.tmp 33) rfl X #[.int .i64 (d : Nat), .int .i64 x] rfl rfl 30 _ HF.out.2.2.1 (by kernel_rfl) rfl (note_one _ _) ?_)
      | fail)
    refine bodyPost_ret (results_rest (us := [3]) rfl _ _ X 30 #[.int .i64 (d : Nat), .int .i64 x] _ rfl (RowAt.put HF.out.2.2.1) Tryd.underlying30 rfl (by kernel_rfl) (by decide)) rfl ?_
    exact ⟨rfl, take_end HF.out.1 HF.out.2.1 HXX.out.1 HXX.out.2.1 HN.out.2.1 HSP.out⟩
  · rw [if_neg h1] at hs'
    obtain rfl := hs'
    subst hc'
    have c1 : (1 : Int) ≤ (c : Int) := by omega
    go_enter Tryd.func7, Tryd.ntmps7
    go_upto_region 1 with fail
    try rw [hw1]
    try rw [← hX]
    clear hw1 hX
    go_wp2_with (first
      | (go_at_call 13; refine HD.out.mono ?_; rintro e w2 ⟨rfl, rfl⟩)
      | (go_at_call 14; refine HT.out.mono ?_; rintro e w2 ⟨rfl, rfl⟩)
      | fail)
    go_region
    clear hw3 cd fd c0 HD HT
    have c4 := HF.out.2.2.2
    go_wp2_with (first
      | (refine wpList_store_row rfl 30 (.tmp 2) (.tmp 33) rfl X #[.int .i64 (d : Nat), .int .i64 x] rfl rfl 30 _ HF.out.2.2.1 (by kernel_rfl) rfl (note_one _ _) ?_)
      | fail)
    refine bodyPost_ret (results_rest (us := [3]) rfl _ _ X 30 #[.int .i64 (d : Nat), .int .i64 x] _ rfl (RowAt.put HF.out.2.2.1) Tryd.underlying30 rfl (by kernel_rfl) (by decide)) rfl ?_
    exact ⟨rfl, take_end HF.out.1 HF.out.2.1 HXX.out.1 HXX.out.2.1 HN.out.2.1 HSP.out⟩
end Go.Proofs.YtbdcjfkplopbiaaDoor
