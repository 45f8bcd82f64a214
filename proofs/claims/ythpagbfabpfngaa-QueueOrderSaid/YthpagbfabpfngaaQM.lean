/- The walk of QueueOrder. -/
import Derived.Test.YthpagbfabpfngaaQJ
namespace Go.Proofs.Ythpagbfabpfngaa
open Go.RowKit

/-- What was sent, what is there, how many were dropped. -/
def ordI (C : Nat) (p : Int) (S L : List Int) (d : Int) : Prop := d = (S.length : Int) - (L.length : Int) ∧ (p = 1 → S = L) ∧ (p = 2 → L = lastL S C) ∧ (p = 3 → L = S.take C)
theorem ord_zero (C : Nat) (p : Int) : ordI C p [] [] 0 := ⟨rfl, fun _ => rfl, fun _ => by simp [lastL], fun _ => by simp⟩
theorem ord_step (C : Nat) (hC : 1 ≤ C) (p : Int) (_hp : 1 ≤ p ∧ p ≤ 3) (S L : List Int) (d n : Int) (h : ordI C p S L d) (hL : L.length ≤ C) (hd : d + 1 ≤ 4096) :
    ∃ (L' : List Int) (d' f : Int) (S' : List Int), sendL C p L d n = (L', d', f) ∧ ((f = 0 ∧ S' = S ++ [n]) ∨ (f = 271 ∧ S' = S)) ∧ ordI C p S' L' d' ∧ L'.length ≤ C := by
  obtain ⟨h0, h1, h2, h3⟩ := h
  unfold sendL
  by_cases hl : (L.length : Int) < C
  · refine ⟨L ++ [n], d, 0, S ++ [n], by rw [if_pos hl], .inl ⟨rfl, rfl⟩, ⟨?_, fun e => by rw [h1 e], fun e => ?_, fun e => ?_⟩, by simp; omega⟩
    · rw [List.length_append, List.length_append]; simp; omega
    · have e2 := lastL_snoc S n C hC
      rw [← h2 e, if_neg (by omega)] at e2
      exact e2.symm
    · have e3 := h3 e
      have : S.length < C := by have := congrArg List.length e3; rw [List.length_take] at this; omega
      rw [List.take_of_length_le (by omega)] at e3
      rw [List.take_of_length_le (by simp; omega), e3]
  · have hl' : L.length = C := by omega
    rw [if_neg hl]
    by_cases p2 : p = 2
    · rw [if_pos p2]
      refine ⟨L.tail ++ [n], min (d + 1) 4096, 0, S ++ [n], rfl, .inl ⟨rfl, rfl⟩, ⟨?_, fun e => by omega, fun _ => ?_, fun e => by omega⟩, by rw [List.length_append, List.length_tail]; simp; omega⟩
      · rw [List.length_append, List.length_append, List.length_tail]; simp; omega
      · have e2 := lastL_snoc S n C hC
        rw [← h2 p2, if_pos hl'] at e2
        exact e2.symm
    · rw [if_neg p2]
      by_cases p3 : p = 3
      · rw [if_pos p3]
        refine ⟨L, min (d + 1) 4096, 0, S ++ [n], rfl, .inl ⟨rfl, rfl⟩, ⟨?_, fun e => by omega, fun e => by omega, fun _ => ?_⟩, by omega⟩
        · rw [List.length_append]; simp; omega
        · have e3 := h3 p3
          have : C ≤ S.length := by have := congrArg List.length e3; rw [List.length_take] at this; omega
          rw [List.take_append_of_le_length this]
          exact e3
      · rw [if_neg p3]
        exact ⟨L, d, 271, S, rfl, .inr ⟨rfl, rfl⟩, ⟨h0, h1, h2, h3⟩, hL⟩
theorem ord_last (C : Nat) (p : Int) (hp : p = 1 ∨ p = 2) (S L : List Int) (d : Int) (h : ordI C p S L d) : lastL S L.length = L := by
  obtain ⟨h0, h1, h2, h3⟩ := h
  rcases hp with e | e
  · rw [h1 e]; exact lastL_all _ _ (Nat.le_refl _)
  · have e2 := h2 e
    have hl := congrArg List.length e2
    rw [lastL_len] at hl
    by_cases hs : S.length ≤ C
    · rw [lastL_all S C hs] at e2
      rw [e2]; exact lastL_all _ _ (Nat.le_refl _)
    · rw [hl, Nat.min_eq_right (by omega)]
      exact e2.symm
theorem ord_take (C : Nat) (S L : List Int) (d : Int) (h : ordI C 3 S L d) : S.take L.length = L := by
  have e := h.2.2.2 rfl
  have hl := congrArg List.length e
  rw [List.length_take] at hl
  by_cases hs : S.length ≤ C
  · rw [List.take_of_length_le hs] at e
    rw [e, List.take_length]
  · rw [hl, Nat.min_eq_left (by omega)]
    exact e.symm
/-- What is there while messages are sent. -/
structure OS (w0 w : World) (q : Nat) (C : Nat) (p : Int) (B : Nat) (S L : List Int) (d : Int) (v : Value) : Prop where
  ql : QL w q C p L d
  own : w.ownsRow B 3 1 v S.length (rowI S)
  box : BoxAt w w0.heap.size [.int .i64 C, .int .i64 p]
  ge : w0.heap.size < q
  qB : q < B
  Bw : B ≤ w.heap.size
  be : Below w0.heap.size w0 w
section
variable {w0 w w' : World} {q C B : Nat} {p : Int} {S L S' L' : List Int} {d d' : Int} {v v' : Value}
theorem OS.new (h : OS w0 w q C p B S L d v) (hb : Below w.heap.size w w') : OS w0 w' q C p B S L d v :=
  ⟨h.ql.new hb, own_below h.own hb (Nat.le_refl _), h.box.new hb, h.ge, h.qB, Nat.le_trans h.Bw hb.size, h.be.trans (hb.mono h.be.size)⟩
theorem OS.turn (h : OS w0 w q C p B S L d v) (hc : Ch (fun j => j = q) w w') (hq : QL w' q C p L' d') : OS w0 w' q C p B S L' d' v :=
  ⟨hq, own_ch h.own hc (fun g hg e => by have := own_ge h.own g hg; have := h.qB; omega), h.box.keep hc (by have := h.ge; omega), h.ge, h.qB, Nat.le_trans h.Bw hc.size, h.be.trans (hc.below (fun j hj e => by have := h.ge; omega) h.be.size)⟩
theorem OS.grow (h : OS w0 w q C p B S L d v) {x : Int} (ho : w'.ownsRow B 3 1 v' (S.length + 1) (rowI S ++ [.int .i64 x])) (hg : w.grownBy w' v.ownBlock) : OS w0 w' q C p B (S ++ [x]) L d v' := by
  have hc := ch_grown hg
  have hge : ∀ j, v.ownBlock = some j → B ≤ j := fun j hj => own_ge h.own j hj
  have := h.qB
  have := h.ge
  exact ⟨h.ql.keep hc (fun e => by have := hge _ e; omega), by rw [rowI_snoc, List.length_append]; exact ho, h.box.keep hc (fun e => by have := hge _ e; omega), h.ge, h.qB, Nat.le_trans h.Bw hc.size,
    h.be.trans (hc.below (fun j hj e => by have := hge _ e; omega) h.be.size)⟩
end
/-- What is there while messages are taken: those that are left, and the row that is awaited. -/
structure OT (w0 w : World) (q C : Nat) (p : Int) (L : List Int) (d : Int) (sp : Option Addr) (cap i : Nat) : Prop where
  ql : QL w q C p (L.drop i) d
  si : SI (fun j => j = q) w sp cap L
  ge : w0.heap.size < q
  be : Below w0.heap.size w0 w
theorem OT.turn {w0 w w' : World} {q C cap i : Nat} {p : Int} {L : List Int} {d : Int} {sp : Option Addr} (h : OT w0 w q C p L d sp cap i) (hc : Ch (fun j => j = q) w w') (hq : QL w' q C p (L.drop (i + 1)) d) : OT w0 w' q C p L d sp cap (i + 1) :=
  ⟨hq, h.si.keep hc, h.ge, h.be.trans (hc.below (fun j hj e => by have := h.ge; omega) h.be.size)⟩
theorem SI.takes {T : Nat → Prop} {w : World} {sp : Option Addr} {cap : Nat} {L : List Int} (h : SI T w sp cap L) (n : Nat) (hn : n ≤ L.length) : SI T w sp n (L.take n) := by
  obtain ⟨g, off, h1, h2⟩ := h.lies
  have e : (L.take n).length = n := by rw [List.length_take]; omega
  refine ⟨⟨g, off, ⟨fun h0 => h1.1 (by omega), fun k hk => ?_⟩, fun h0 => h2 (by omega)⟩, by omega⟩
  rw [e] at hk
  have := h1.2 k (by omega)
  rw [show nth (L.take n) k = nth L k by unfold nth; simp [List.getD_eq_getElem?_getD, hk]]
  exact this

set_option maxHeartbeats 16000000 in
set_option maxRecDepth 100000 in
theorem law_order (c p : Int) (sp : Option Addr) (cap : Nat) (X : List Int) (w : World) (hlen : X.length ≤ 9223372036854775807) (hX : SI (fun j => w.heap.size ≤ j) w sp cap X) :
    Calls Try.prog 7 #[.agg #[.int .i64 c, .int .i64 p], .slice sp X.length cap] w fun e w' => e = .returned (.bool true) ∧ Below w.heap.size w w' := by
  have b1 : Below w.heap.size w (w.alloc (.cells #[.int .i64 c, .int .i64 p] 65)) := (Below.refl _ _).alloc (Nat.le_refl _) _
  obtain ⟨w1, hw1⟩ : ∃ w1, w1 = w.alloc (.cells #[.int .i64 c, .int .i64 p] 65) := ⟨_, rfl⟩
  obtain ⟨z, hz⟩ : ∃ z, z = w.heap.size := ⟨_, rfl⟩
  rw [← hw1] at b1
  have hx : BoxAt w1 z [.int .i64 c, .int .i64 p] := by rw [hw1, hz]; exact BoxAt.mk_new w _ _
  have HX := Lib.hid (fun (wx : World) (hb : Below w1.heap.size w1 wx) => (And.intro ((hx.new hb).cell 0 _ rfl) ((hx.new hb).cell 1 _ rfl)))
  have HB := Lib.hid (fun (wx : World) (hb : Below w1.heap.size w1 wx) => (b1.trans (hb.mono b1.size) : Below w.heap.size w wx))
  obtain ⟨x0, x1⟩ := HX.out w1 (Below.refl _ _)
  have HRT := Lib.hid (fun (wx : World) => lright_any c p wx)
  have HW1 := Lib.hid (And.intro hw1 hz)
  obtain ⟨i0, hi, hz0, hz1, hz2⟩ := info_parts infoInt
  obtain ⟨NN, hN⟩ : ∃ N, N = X.length := ⟨_, rfl⟩
  have HNN := Lib.hid hN
  rw [← hN] at hlen ⊢
  have HXL := Lib.hid hX
  cases hok : qOK c p with
  | false =>
    rw [hok] at HRT
    clear hx b1 hw1 hz hok hX hN
    go_enter Try.func7, Try.ntmps7
    go_upto_region 1 with fail
    rw [← HW1.out.1, ← HW1.out.2]
    go_wp2_with (go_at_call 26; refine (HRT.out _).mono ?_; rintro e w3 ⟨rfl, b3⟩; have H3 := Lib.hid b3; clear b3)
    go_ret
    exact ⟨rfl, HB.out _ H3.out⟩
  | true =>
    rw [hok] at HRT
    by_cases hn : NN ≤ 100
    case neg =>
      have d1 : (100 : Int) < (NN : Int) := by omega
      clear hx b1 hw1 hz hok hX hN hn
      go_enter Try.func7, Try.ntmps7
      go_upto_region 1 with fail
      rw [← HW1.out.1, ← HW1.out.2]
      go_wp2_with (go_at_call 26; refine (HRT.out _).mono ?_; rintro e w3 ⟨rfl, b3⟩; have H3 := Lib.hid b3; clear b3)
      go_ret
      exact ⟨rfl, HB.out _ H3.out⟩
    have d1 : ¬ (100 : Int) < (NN : Int) := by omega
    obtain ⟨C, rfl⟩ : ∃ C : Nat, c = (C : Int) := ⟨c.toNat, by have : 1 ≤ c := by { unfold qOK at hok; exact (of_decide_eq_true hok).1 }; omega⟩
    have hcc : 1 ≤ (C : Int) ∧ (C : Int) ≤ 16 ∧ 1 ≤ p ∧ p ≤ 3 := by unfold qOK at hok; exact of_decide_eq_true hok
    have HC := Lib.hid hcc
    have HNw := Lib.hid (fun (wx : World) => qnew_yes C p hok wx)
    have HZQ := Lib.hid (show ∀ (w3 : World) (q : Nat), Below w1.heap.size w1 w3 → w1.heap.size ≤ q → QL w3 q C p [] 0 → OS w w3 q C p w3.heap.size [] [] 0 (.slice none 0 0) from fun w3 q hb hq hl => by
      have hz1 : w1.heap.size = z + 1 := by rw [hw1, hz]; simp
      exact ⟨hl, World.ownsRow_nil _ _ _ _, by rw [← hz]; exact hx.new hb, by rw [← hz]; omega, hl.lt, Nat.le_refl _, b1.trans (hb.mono b1.size)⟩)
    clear hx b1 hw1 hz hok hcc hX hN
    go_enter Try.func7, Try.ntmps7
    go_upto_region 1 with fail
    rw [← HW1.out.1, ← HW1.out.2]
    go_wp2_with (first
      | (go_at_call 26; refine (HRT.out _).mono ?_; rintro e w3 ⟨rfl, b3⟩; have H3 := Lib.hid b3; obtain ⟨y0, y1⟩ := HX.out w3 b3; clear b3)
      | (go_at_call 25; refine (HNw.out _).mono ?_; rintro e w4 ⟨q, rfl, q4, hq, b4⟩; have H4 := Lib.hid (HZQ.out w4 q (H3.out.trans (b4.mono H3.out.size)) (Nat.le_trans H3.out.size hq) q4); clear b4 hq q4)
      | fail)
    clear x0 x1 y0 y1
    obtain ⟨B, hB⟩ : ∃ B, B = w4.heap.size := ⟨_, rfl⟩
    rw [← hB] at H4
    clear hB
    go_loopg [7, 8] NN (fun gh s7 s8 wr => ∃ (k : Nat) (S L : List Int) (d : Int), k + gh = NN ∧ S.length ≤ k ∧ L.length ≤ C ∧ s8 = .int .i64 k ∧ Aside (OS w wr q C p B S L d s7 ∧ ordI C p S L d))
    case atStart => exact ⟨0, [], [], 0, by omega, by simp, by simp, rfl, H4.out, ord_zero C p⟩
    case round =>
      obtain ⟨k, S, L, d, hkg, hSk, hLC, rfl, HR⟩ := hrel
      obtain ⟨spS, capS, rfl⟩ := own_val HR.out.1.own
      cases gk with
      | zero =>
        obtain rfl : k = NN := by omega
        have hC := HC.out
        have hcapS : S.length ≤ capS := by
          rcases HR.out.1.own.2 with ⟨hv, h0⟩ | ⟨g, cap', cur, hv, _, _, hc, _⟩
          · omega
          · injection hv with _ _ e; omega
        have eK : (S.length : Int) - d = (L.length : Nat) := by have := HR.out.2.1; omega
        have HSI := Lib.hid (show SI (fun j => j = q) wr spS capS S from SI.of_own HR.out.1.own rfl (fun j e => by have := HR.out.1.qB; omega))
        have HLa := Lib.hid (last_any HSI.out (fun j e => by rw [e]; exact HR.out.1.ql.lt) (by omega) L.length (by omega))
        obtain ⟨nl, hnl⟩ : ∃ nl, nl = L.length := ⟨_, rfl⟩
        have HNL := Lib.hid hnl
        have hLS : nl ≤ S.length := by have := HR.out.2.1; have := HR.out.1.ql.d0; omega
        rw [← hnl] at eK HLa hLC
        have hcc1 : nl ≤ capS := by omega
        have HD := Lib.hid (qdropped_any HR.out.1.ql)
        have HF := Lib.hid (show ∀ (wx : World) (s : Option Addr) (ca : Nat), Below wr.heap.size wr wx → SI (fun j => j = q) wx s ca L → OT w wx q C p L d s ca 0 from fun wx s ca hb hs =>
          ⟨by rw [List.drop_zero]; exact HR.out.1.ql.new hb, hs, HR.out.1.ge, HR.out.1.be.trans (hb.mono HR.out.1.be.size)⟩)
        by_cases p3 : p = 3
        · subst p3
          have HT3 := Lib.hid (show S.take nl = L from by rw [HNL.out]; exact ord_take C S L d HR.out.2)
          clear hnl hC
          go_wp2_with (first
            | (go_at_call 36; refine HD.out.mono ?_; rintro e w5 ⟨rfl, rfl⟩)
            | (go_at_call 39; refine HLa.out.mono ?_; rintro e w6 ⟨sp6, cap6, rfl, s6, b6⟩; have HO := Lib.hid (HF.out w6 spS nl b6 (by have := (HSI.out.new b6).takes nl hLS; rwa [HT3.out] at this)); obtain ⟨x0, x1⟩ := And.intro ((HR.out.1.box.new b6).cell 0 _ rfl) ((HR.out.1.box.new b6).cell 1 _ rfl); rw [← HW1.out.2] at x0 x1; clear s6 b6)
            | fail)
          go_loopg [11, 12, 13] nl (fun gh s11 s12 s13 wx => ∃ i : Nat, i + gh = nl ∧ s11 = .int .i64 i ∧ Aside (OT w wx q C 3 L d spS nl i))
          case atStart => exact ⟨0, by omega, rfl, HO.out⟩
          case round =>
            obtain ⟨i, hig, rfl, HI⟩ := hrel
            cases gk with
            | zero =>
              obtain rfl : i = nl := by omega
              have hq0 := HI.out.ql
              rw [List.drop_of_length_le (by rw [HNL.out]; exact Nat.le_refl _)] at hq0
              have HTn := Lib.hid (take_none hq0)
              clear hq0
              go_wp2_with (first
                | (go_at_call 31; refine HTn.out.mono ?_; rintro e w7 ⟨rfl, rfl⟩)
                | (go_at_call 28; refine (qalive_any _).mono ?_; rintro e w8 ⟨rfl, b8⟩; have H8 := Lib.hid (HI.out.be.trans (b8.mono HI.out.be.size)); clear b8)
                | fail)
              go_ret
              exact ⟨rfl, H8.out⟩
            | succ g2 =>
              have hil : i < nl := by omega
              have hiL : i < L.length := by rw [← HNL.out]; exact hil
              have hq1 := HI.out.ql
              rw [List.drop_eq_getElem_cons hiL, show L[i] = nth L i by unfold nth; simp [hiL]] at hq1
              have HTs := Lib.hid (take_some hq1)
              obtain ⟨gL, oL, lL, nL⟩ := HI.out.si.lies
              have hsp := (lL.1 (Nat.lt_of_le_of_lt (Nat.zero_le _) hiL)).1
              have HcL := Lib.hid (fun (wy : World) (hc : Ch (fun j => j = q) wr wy) => (lL.keep (T := fun j => j = q) hc nL).2 i hiL)
              obtain ⟨x, hxx⟩ : ∃ x, nth L i = x := ⟨_, rfl⟩
              rw [hxx] at HTs HcL
              have j0 : (0 : Int) ≤ (i : Int) := by omega
              have j1 : (i : Int) < (nl : Int) := by omega
              clear hq1 lL nL hxx
              subst hsp
              go_wp2_with (go_at_call 31; refine HTs.out.mono ?_; rintro e w7 ⟨rfl, q7, c7⟩; have H7 := Lib.hid (HI.out.turn c7 q7); have cL := HcL.out w7 c7; clear q7 c7)
              go_roundg g2
              case measure => omega
              case rel => exact ⟨i + 1, by omega, by go_num, H7.out⟩
        · have hn3 : (p == 3) = false := by simpa using p3
          have eL : lastL S nl = L := by rw [HNL.out]; exact ord_last C p (by omega) S L d HR.out.2
          rw [eL, ← hnl] at HLa
          clear hnl hC eL p3
          go_wp2_with (first
            | (go_at_call 36; refine HD.out.mono ?_; rintro e w5 ⟨rfl, rfl⟩)
            | (go_at_call 39; refine HLa.out.mono ?_; rintro e w6 ⟨sp6, cap6, rfl, s6, b6⟩; have HO := Lib.hid (HF.out w6 sp6 cap6 b6 s6); obtain ⟨x0, x1⟩ := And.intro ((HR.out.1.box.new b6).cell 0 _ rfl) ((HR.out.1.box.new b6).cell 1 _ rfl); rw [← HW1.out.2] at x0 x1; clear s6 b6)
            | fail)
          go_loopg [11, 12, 13] nl (fun gh s11 s12 s13 wx => ∃ i : Nat, i + gh = nl ∧ s11 = .int .i64 i ∧ Aside (OT w wx q C p L d sp6 cap6 i))
          case atStart => exact ⟨0, by omega, rfl, HO.out⟩
          case round =>
            obtain ⟨i, hig, rfl, HI⟩ := hrel
            cases gk with
            | zero =>
              obtain rfl : i = nl := by omega
              have hq0 := HI.out.ql
              rw [List.drop_of_length_le (by rw [HNL.out]; exact Nat.le_refl _)] at hq0
              have HTn := Lib.hid (take_none hq0)
              clear hq0
              go_wp2_with (first
                | (go_at_call 31; refine HTn.out.mono ?_; rintro e w7 ⟨rfl, rfl⟩)
                | (go_at_call 28; refine (qalive_any _).mono ?_; rintro e w8 ⟨rfl, b8⟩; have H8 := Lib.hid (HI.out.be.trans (b8.mono HI.out.be.size)); clear b8)
                | fail)
              go_ret
              exact ⟨rfl, H8.out⟩
            | succ g2 =>
              have hil : i < nl := by omega
              have hiL : i < L.length := by rw [← HNL.out]; exact hil
              have hq1 := HI.out.ql
              rw [List.drop_eq_getElem_cons hiL, show L[i] = nth L i by unfold nth; simp [hiL]] at hq1
              have HTs := Lib.hid (take_some hq1)
              obtain ⟨gL, oL, lL, nL⟩ := HI.out.si.lies
              have hsp := (lL.1 (Nat.lt_of_le_of_lt (Nat.zero_le _) hiL)).1
              have HcL := Lib.hid (fun (wy : World) (hc : Ch (fun j => j = q) wr wy) => (lL.keep (T := fun j => j = q) hc nL).2 i hiL)
              obtain ⟨x, hxx⟩ : ∃ x, nth L i = x := ⟨_, rfl⟩
              rw [hxx] at HTs HcL
              have j0 : (0 : Int) ≤ (i : Int) := by omega
              have j1 : (i : Int) < (nl : Int) := by omega
              clear hq1 lL nL hxx
              subst hsp
              go_wp2_with (go_at_call 31; refine HTs.out.mono ?_; rintro e w7 ⟨rfl, q7, c7⟩; have H7 := Lib.hid (HI.out.turn c7 q7); have cL := HcL.out w7 c7; clear q7 c7)
              go_roundg g2
              case measure => omega
              case rel => exact ⟨i + 1, by omega, by go_num, H7.out⟩
      | succ g1 =>
        have hlt : k < NN := by omega
        have hkX : k < X.length := by rw [← HNN.out]; exact hlt
        obtain ⟨gX, oX, lX, nX⟩ := (HXL.out.below HR.out.1.be).lies
        have cX := lX.2 k hkX
        obtain ⟨rfl, -⟩ := lX.1 (Nat.lt_of_le_of_lt (Nat.zero_le _) hkX)
        have HcX := Lib.hid (show ∀ wx, Below w.heap.size w wx → wx.cell? ⟨gX, oX + k, none⟩ = some (.int .i64 (nth X k)) from fun wx hb => by
          have := (HXL.out.below hb).cells 0 gX oX rfl k (.int .i64 (nth X k)) (by unfold rowI; rw [List.getElem?_map]; show ((X.drop 0)[k]?).map _ = _; rw [List.drop_zero, nth_at X k hkX]; rfl)
          rwa [Addr.add_lit, Nat.add_zero] at this)
        obtain ⟨x, hxx⟩ : ∃ x, nth X k = x := ⟨_, rfl⟩
        rw [hxx] at cX HcX
        have i0' : (0 : Int) ≤ (k : Int) := by omega
        have i1 : (k : Int) < (NN : Int) := by omega
        obtain ⟨L', d', f, S', e1, e2, e3, e4⟩ := ord_step C (by have := HC.out; omega) p HC.out.2.2 S L d x HR.out.2 hLC (by have := HR.out.2.1; omega)
        have HSd := Lib.hid (show Calls Try.prog 34 #[.pointer (some ⟨q, 0, none⟩), .int .i64 x] wr fun e w' => e = .returned (.int .i64 f) ∧ QL w' q C p L' d' ∧ Ch (fun j => j = q) wr w' from by
          have := send_any HR.out.1.ql x
          rwa [e1] at this)
        have HE := Lib.hid (And.intro e3 e4)
        clear lX nX hxx e1 e3 e4
        rcases e2 with ⟨rfl, rfl⟩ | ⟨rfl, rfl⟩
        · go_wp2_with (first
            | (go_at_call 34; refine HSd.out.mono ?_; rintro e w5 ⟨rfl, q5, c5⟩; have H5 := Lib.hid (HR.out.1.turn c5 q5); have cX5 := HcX.out w5 H5.out.be; clear q5 c5)
            | (at_builtin; refine wpList_append_own _ rfl _ _ 25 rfl B 3 i0 (.int .i64 0) 1 8 Try.underlying25 hi hz0 hz1 hz2 rfl (by decide) _ _ _ rfl (H5.out.own.alloc _) ⟨w5.heap.size, 0, none⟩ 1 1 [.int .i64 x] rfl rfl (cell_one_new _ _ _) (by simp [Value.oneCell']) (by unfold maxLen; omega) (by omega) (by rw [size_add]; have := H5.out.Bw; omega) ?_; intro v' w6 hown' hgrow _; have H6 := Lib.hid ((H5.out.new ((Below.refl _ _).alloc (Nat.le_refl _) _)).grow hown' hgrow); clear hown' hgrow)
            | fail)
          go_roundg g1
          case measure => omega
          case rel => exact ⟨k + 1, S ++ [x], L', d', by omega, by rw [List.length_append]; simp; omega, HE.out.2, by go_num, H6.out, HE.out.1⟩
        · go_wp2_with (first
            | (go_at_call 34; refine HSd.out.mono ?_; rintro e w5 ⟨rfl, q5, c5⟩; have H5 := Lib.hid (HR.out.1.turn c5 q5); clear q5 c5)
            | fail)
          go_roundg g1
          case measure => omega
          case rel => exact ⟨k + 1, S', L', d', by omega, by omega, HE.out.2, by go_num, H5.out, HE.out.1⟩
end Go.Proofs.Ythpagbfabpfngaa
