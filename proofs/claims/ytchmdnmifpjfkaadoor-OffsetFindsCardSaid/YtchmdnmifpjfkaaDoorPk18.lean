/- Several texts in one: PK, PL, QZA, QZB, QZC. -/
import Derived.Test.YtchmdnmifpjfkaaDoorPk17
import Derived.Test.YtchmdnmifpjfkaaDoorPk13
/- The chapter's Span of a shift. -/
namespace Go.Proofs.YtchmdnmifpjfkaaDoor
open Go.RowKit
attribute [local go_sem] Oper.semAt_some

/-- How long a shift takes, and settles, and whether nobody may be late. -/
def spS (fw fb : Nat → Int) : Int := max (mxf fw 15) (mxf fb 15)
def spB (o n s : BitVec 32) (fw fb : Nat → Int) : Bool := (lateL o n s fw fb).isEmpty
def spLat (o n s : BitVec 32) (fo fw fb : Nat → Int) : Int := if spB o n s fw fb = true then max (spS fw fb) (mxf fo 15) else 0
def spSet (o n s : BitVec 32) (fw fb : Nat → Int) : Int := if spB o n s fw fb = true then spS fw fb else 0
set_option maxHeartbeats 8000000 in
set_option maxRecDepth 100000 in
theorem wnSpan_any (o n s : BitVec 32) (fo fw fb : Nat → Int) {w : World} (ht : Tab w) :
    Calls Tryd.prog 18 #[.agg (shl_ o n s fo fw fb).toArray] w fun e w' => e = .returned (.tuple #[.agg #[.int .i64 (spLat o n s fo fw fb), .int .i64 (spSet o n s fw fb)], .bool (spB o n s fw fb)]) ∧ Below w.heap.size w w' := by
  refine (callsIn_wide (n := 0)).1 ?_
  have hp := ht.pos
  have HTb := Lib.hid (show ∀ w', Below w.heap.size w w' → Tab w' from fun w' hb => ht.below hp hb)
  have HIn := Lib.hid (fun l Bs F J Jx W a b => wnlate_in l Bs o n s fo fw fb F J Jx W a b)
  have HInf := Lib.hid (show (Tryd.prog.info? 36).map (·.size) = some (shl_ o n s fo fw fb).toArray.size by rw [show (shl_ o n s fo fw fb).toArray.size = 51 by simp [shl_len]]; kernel_rfl)
  have HCs := Lib.hid (show (∀ k, k < 16 → (shl_ o n s fo fw fb).toArray[3 + k]? = some (.int .i64 (fo k))) ∧ (∀ k, k < 16 → (shl_ o n s fo fw fb).toArray[19 + k]? = some (.int .i64 (fw k))) ∧ (∀ k, k < 16 → (shl_ o n s fo fw fb).toArray[35 + k]? = some (.int .i64 (fb k))) from
    ⟨fun k hk => by rw [List.getElem?_toArray]; exact shl_o o n s fo fw fb k hk, fun k hk => by rw [List.getElem?_toArray]; exact shl_w o n s fo fw fb k hk, fun k hk => by rw [List.getElem?_toArray]; exact shl_b o n s fo fw fb k hk⟩)
  have HB := Lib.hid (show spB o n s fw fb = decide ((lateL o n s fw fb).length = 0) by unfold spB; cases lateL o n s fw fb <;> simp)
  have HLa := Lib.hid (show spLat o n s fo fw fb = if spB o n s fw fb = true then max (max (mxf fw 15) (mxf fb 15)) (mxf fo 15) else 0 from rfl)
  have HSe := Lib.hid (show spSet o n s fw fb = if spB o n s fw fb = true then max (mxf fw 15) (mxf fb 15) else 0 from rfl)
  have HIn0 := HIn
  obtain ⟨T, hT⟩ : ∃ T, (shl_ o n s fo fw fb).toArray = T := ⟨_, rfl⟩
  rw [hT] at HInf HCs HIn ⊢
  obtain ⟨la, hla⟩ : ∃ v, spLat o n s fo fw fb = v := ⟨_, rfl⟩
  obtain ⟨se, hse⟩ : ∃ v, spSet o n s fw fb = v := ⟨_, rfl⟩
  obtain ⟨bb, hbb⟩ : ∃ v, spB o n s fw fb = v := ⟨_, rfl⟩
  rw [hla, hbb] at HLa
  rw [hse, hbb] at HSe
  rw [hbb] at HB
  rw [hla, hse, hbb]
  obtain ⟨L, hL⟩ : ∃ L, lateL o n s fw fb = L := ⟨_, rfl⟩
  rw [hL] at HIn HB
  obtain ⟨N, hN⟩ : ∃ N, L.length = N := ⟨_, rfl⟩
  rw [hN] at HIn HB
  obtain ⟨Z, hZ⟩ : ∃ Z, Z = w.heap.size := ⟨_, rfl⟩
  have HZ := Lib.hid hZ
  have r0 := Lib.hid (row_keep (row_keep (RowAt.mk w 36 T) (.cells #[.int .i64 0, .int .i64 0] 48)) (.cells #[.bool false] 4))
  clear ht hp hT hla hse hbb hL hN HIn0
  refine callsIn_of_wp_marks Tryd.func18 rfl trivial ?_ rfl
  simp only [Tryd.ntmps18, List.size_toArray, List.length_cons, List.length_nil, Nat.reduceAdd, Nat.reduceSub, Array.replicate_succ, Array.replicate_zero, List.push_toArray, List.append_toArray, List.nil_append, List.cons_append]
  gi_wp2_with (first
    | (refine wpListIn_load_rowW rfl 36 (.tmp 1) rfl w.heap.size rfl 36 T (0, 0) _ r0.out Tryd.underlying36 rfl HInf.out ?_)
    | (refine ⟨trivial, rfl, ?_⟩; gi_at_call 46; refine (callsIn_wide.2 (wnLate_any _ _)).mono ?_; rintro e w' ⟨rfl, rfl⟩)
    | fail)
  generalize hw6 : World.alloc (World.alloc (World.alloc (World.alloc w _) _) _) _ = w6
  have H6 := Lib.hid (show Below w.heap.size w w6 ∧ w6.heap.size = Z + 4 ∧ RowAt w6 Z 36 T ∧ RowAt w6 (Z + 1) 48 #[.int .i64 0, .int .i64 0] ∧ RowAt w6 (Z + 2) 4 #[.bool false] ∧ RowAt w6 (Z + 3) 36 T by
    rw [hZ]
    obtain ⟨g1, g2, g3, g4, g5, g6⟩ := rows4 w T #[.int .i64 0, .int .i64 0] #[.bool false] T 36 48 4 36
    rw [hw6] at g1 g2 g3 g4 g5 g6
    exact ⟨g1, g2, g3, g4, g5, g6⟩)
  rw [show w.heap.size + 1 + 1 + 1 = Z + 3 by omega, show w.heap.size + 1 + 1 = Z + 2 by omega, show w.heap.size + 1 = Z + 1 by omega, ← hZ]
  clear hw6 hZ r0
  have HI0 := Lib.hid (show C2 w6 (Z + 1) 48 4 #[.int .i64 0, .int .i64 0] #[.bool false] w6 ∧ 0 = 0 from ⟨⟨Ch.refl _ _, H6.out.2.2.2.1, H6.out.2.2.2.2.1⟩, rfl⟩)
  have HBe := Lib.hid (show ∀ (W' : World) (cs cs' : Array Value), C2 w6 (Z + 1) 48 4 cs cs' W' → Below w.heap.size w W' from fun W' f g h => H6.out.1.trans (h.1.below (fun j hj e => by have := HZ.out; omega) H6.out.1.size))
  refine wpIn_rangeF3 (gf := 74) (lb := #[.pointer (some ⟨Z + 3, 0, none⟩)]) rfl (enters_of Tryd.func74 (by kernel_rfl) rfl)
    N (fun k => #[.int .i64 (L.getD k 0 : Nat)]) (fun _ => rfl) (fun _ j => j < Z + 4)
    (fun k W => C2 w6 (Z + 1) 48 4 #[.int .i64 0, .int .i64 0] #[.bool false] W ∧ k = 0) (fun c _ W => c = .ret ∧ C2 w6 (Z + 1) 48 4 #[.int .i64 0, .int .i64 0] #[.bool false] W ∧ 0 < N)
    (fun k => Foot.snd (C2.foot H6.out.2.1 (by omega))) (fun c k => Foot.pure _ (Foot.snd (C2.foot H6.out.2.1 (by omega)))) HI0.out
    (fun k a' _ => ∃ v, a' = { tmps := #[.agg T, .pointer (some ⟨Z, 0, none⟩), .pointer (some ⟨Z + 1, 0, none⟩), .pointer (some ⟨Z + 2, 0, none⟩), undef, .agg T, .func (.func 74) #[] #[.pointer (some ⟨Z + 3, 0, none⟩)], v, undef, undef, undef, undef, undef, undef, undef, undef, undef, undef, undef, undef, undef, undef, undef], defers := [] })
    (fun _ _ _ _ h _ => h) ?hit ?assign ?body ?done ?stop
  case hit =>
    intro J' Jx' W1 h1 h2 h3 h4 h5 h6 h7 h8
    rw [H6.out.2.1] at h1 h2 h3 h4 h5 h6 h7 ⊢
    exact HIn.out _ (Z + 3) _ J' Jx' W1 (fun k W' hJ => HTb.out W' (HBe.out W' _ _ (h3 k W' hJ).1.1)) (fun k W' hJ => H6.out.2.2.2.2.2.keep (h3 k W' hJ).1.1.1 (fun e => by omega)) h7 h5 h6 h8
  case assign =>
    intro k W K hi' hk hz hK
    rw [H6.out.2.1] at hz
    have HK := Lib.hid hK
    have HKI := Lib.hid hi'
    clear hK hi'
    gi_wp2
    exact HK.out _ _ ⟨_, rfl⟩ (Ch.refl _ _) HKI.out (fun _ h => h)
  case body =>
    rintro k a' W hI hk ⟨v, rfl⟩ hz ⟨rec0, hrec⟩ hnl
    rw [H6.out.2.1] at hz hrec hnl ⊢
    obtain ⟨hI, rfl⟩ := hI
    have k0 : W.cell? ⟨Z + 1, 0, none⟩ = some (.int .i64 0) := hI.2.1.cell 0
    have k1 : W.cell? ⟨Z + 1, 1, none⟩ = some (.int .i64 0) := hI.2.1.cell 1
    have k2 : W.cell? ⟨Z + 2, 0, none⟩ = some (.bool false) := hI.2.2.cell 0
    have e0 : W.frozen? ⟨Z + 1, 0, none⟩ = false := hI.2.1.fr 0
    have e1 : W.frozen? ⟨Z + 1, 1, none⟩ = false := hI.2.1.fr 1
    have e2 : W.frozen? ⟨Z + 2, 0, none⟩ = false := hI.2.2.fr 0
    have HK := Lib.hid hI
    have HN0 := Lib.hid hk
    clear hI hrec hnl hk
    gi_wp2
    have hc : Ch (fun j => j = Z + 1 ∨ j = Z + 1 + 1) W (((W.setCell ⟨Z + 1, 0, none⟩ (.int .i64 0)).setCell ⟨Z + 1, 1, none⟩ (.int .i64 0)).setCell ⟨Z + 2, 0, none⟩ (.bool false)) :=
      (((Ch.refl _ W).setCell _ _ (.inl (.inl rfl))).setCell _ _ (.inl (.inl rfl))).setCell _ _ (.inl (.inr rfl))
    have hx : C2 w6 (Z + 1) 48 4 #[.int .i64 0, .int .i64 0] #[.bool false] (((W.setCell ⟨Z + 1, 0, none⟩ (.int .i64 0)).setCell ⟨Z + 1, 1, none⟩ (.int .i64 0)).setCell ⟨Z + 2, 0, none⟩ (.bool false)) := by
      have c1 : Ch (fun j => j = Z + 1) W ((W.setCell ⟨Z + 1, 0, none⟩ (.int .i64 0)).setCell ⟨Z + 1, 1, none⟩ (.int .i64 0)) := Ch.setCell (T := fun j => j = Z + 1) (Ch.setCell (T := fun j => j = Z + 1) (Ch.refl _ _) ⟨Z + 1, 0, none⟩ _ (.inl rfl)) ⟨Z + 1, 1, none⟩ _ (.inl rfl)
      have c2 : Ch (fun j => j = Z + 2) ((W.setCell ⟨Z + 1, 0, none⟩ (.int .i64 0)).setCell ⟨Z + 1, 1, none⟩ (.int .i64 0)) (((W.setCell ⟨Z + 1, 0, none⟩ (.int .i64 0)).setCell ⟨Z + 1, 1, none⟩ (.int .i64 0)).setCell ⟨Z + 2, 0, none⟩ (.bool false)) := (Ch.refl _ _).setCell _ _ (.inl rfl)
      refine ⟨HK.out.1.trans hc, ?_, ?_⟩
      · exact ((HK.out.2.1.setC 0 (.int .i64 0)).setC 1 (.int .i64 0)).keep c2 (by omega)
      · exact (HK.out.2.2.keep c1 (by omega)).setC 0 (.bool false)
    exact ⟨⟨hc.mono fun j _ h => (by rcases h with h | h <;> (show j < Z + 4) <;> omega), fun j hj => .inl hj⟩, rfl, hx, HN0.out⟩
  case done =>
    rintro A hI hD hnD hz
    rw [H6.out.2.1] at hD hnD hz
    rw [H6.out.2.1]
    obtain ⟨hI, hN0⟩ := hI
    have hb : bb = true := by rw [HB.out]; simpa using hN0
    have h1 : RowAt A Z 36 T := H6.out.2.2.1.keep hI.1 (by omega)
    have hla : la = max (max (mxf fw 15) (mxf fb 15)) (mxf fo 15) := by rw [HLa.out, if_pos hb]
    have hse : se = max (mxf fw 15) (mxf fb 15) := by rw [HSe.out, if_pos hb]
    have hBA := HBe.out A _ _ hI
    have HQ1 := Lib.hid (show ∀ nq, _ from fun nq : Nat => quietly (slMax_any (w := A.drewN nq) Z 19 16 16 fw (by omega) (by omega) (fun k hk => (h1.cell (19 + k)).trans (HCs.out.2.1 k hk))))
    have HQ2 := Lib.hid (show ∀ nq, _ from fun nq : Nat => quietly (slMax_any (w := A.drewN nq) Z 35 16 16 fb (by omega) (by omega) (fun k hk => (h1.cell (35 + k)).trans (HCs.out.2.2 k hk))))
    have HQ3 := Lib.hid (show ∀ nq, _ from fun nq : Nat => slMax_any (w := A.drewN nq) Z 3 16 16 fo (by omega) (by omega) (fun k hk => (h1.cell (3 + k)).trans (HCs.out.1 k hk)))
    have hmx := hmax Tryd.prog
    have HK := Lib.hid (And.intro hI (And.intro hD (And.intro hz (And.intro hBA (And.intro hla (And.intro hse hb))))))
    obtain ⟨m1, hm1⟩ : ∃ v, mxf fw 15 = v := ⟨_, rfl⟩
    obtain ⟨m2, hm2⟩ : ∃ v, mxf fb 15 = v := ⟨_, rfl⟩
    obtain ⟨m3, hm3⟩ : ∃ v, mxf fo 15 = v := ⟨_, rfl⟩
    rw [show (16 - 1 : Nat) = 15 from rfl, hm1] at HQ1
    rw [show (16 - 1 : Nat) = 15 from rfl, hm2] at HQ2
    rw [show (16 - 1 : Nat) = 15 from rfl, hm3] at HQ3
    rw [hm1, hm2, hm3] at HK
    clear hI hD hnD hz h1 hBA hla hse hb hm1 hm2 hm3 hN0
    gi_wp2
    refine wpIn_wide.2 ?_
    go_quiet (first | (go_at_call 47; (with_reducible exact HQ1.out _)) | (go_at_call 47; (with_reducible exact HQ2.out _)))
    have k0 : (A.drewN nq).cell? ⟨Z + 1, 0, none⟩ = some (.int .i64 0) := HK.out.1.2.1.cell 0
    have k1 : (A.drewN nq).cell? ⟨Z + 1, 1, none⟩ = some (.int .i64 0) := HK.out.1.2.1.cell 1
    have k2 : (A.drewN nq).cell? ⟨Z + 2, 0, none⟩ = some (.bool false) := HK.out.1.2.2.cell 0
    have e0 : (A.drewN nq).frozen? ⟨Z + 1, 0, none⟩ = false := HK.out.1.2.1.fr 0
    have e1 : (A.drewN nq).frozen? ⟨Z + 1, 1, none⟩ = false := HK.out.1.2.1.fr 1
    have e2 : (A.drewN nq).frozen? ⟨Z + 2, 0, none⟩ = false := HK.out.1.2.2.fr 0
    gi_wp2_with (first
      | (refine ⟨trivial, rfl, ?_⟩; gi_at_call 47; refine (callsIn_wide.2 (HQ3.out _)).mono ?_; rintro e w' ⟨rfl, rfl⟩)
      | fail)
    generalize hw9 : World.setCell _ _ _ = w9
    have H9 := Lib.hid (show RowAt w9 (Z + 1) 48 #[.int .i64 (max m1 (max m2 m3)), .int .i64 (max m1 m2)] ∧ RowAt w9 (Z + 2) 4 #[.bool true] ∧ Ch (fun j => j = Z + 1 ∨ j = Z + 1 + 1) A w9 by
      have d0 : Ch (fun _ => False) A (A.drewN nq) := Ch.new (below_dn (Below.refl _ _) nq)
      have c1 : Ch (fun j => j = Z + 1) (A.drewN nq) (((A.drewN nq).setCell ⟨Z + 1, 0, none⟩ (.int .i64 (max m1 (max m2 m3)))).setCell ⟨Z + 1, 1, none⟩ (.int .i64 (max m1 m2))) := Ch.setCell (T := fun j => j = Z + 1) (Ch.setCell (T := fun j => j = Z + 1) (Ch.refl _ _) ⟨Z + 1, 0, none⟩ _ (.inl rfl)) ⟨Z + 1, 1, none⟩ _ (.inl rfl)
      have c2 : Ch (fun j => j = Z + 2) (((A.drewN nq).setCell ⟨Z + 1, 0, none⟩ (.int .i64 (max m1 (max m2 m3)))).setCell ⟨Z + 1, 1, none⟩ (.int .i64 (max m1 m2))) w9 := by
        rw [← hw9]; exact Ch.setCell (T := fun j => j = Z + 2) (Ch.refl _ _) ⟨Z + 2, 0, none⟩ _ (.inl rfl)
      have q1 : RowAt (A.drewN nq) (Z + 1) 48 #[.int .i64 0, .int .i64 0] := HK.out.1.2.1
      have q2 : RowAt (A.drewN nq) (Z + 2) 4 #[.bool false] := HK.out.1.2.2
      refine ⟨((q1.setC 0 _).setC 1 _).keep c2 (by omega), ?_, ((d0.mono fun _ _ (h : False) => h.elim).trans (c1.mono fun _ _ h => .inl h)).trans (c2.mono fun _ _ h => .inr h)⟩
      rw [← hw9]
      exact (q2.keep c1 (by omega)).setC 0 (.bool true))
    clear hw9 k0 k1 k2 e0 e1 e2
    have hrec : w9.heap[Z + 4]? = some (.deferred (some [])) := (H9.out.2.2.block (Z + 4) (by have := HK.out.2.2.1; omega) (by omega)).trans HK.out.2.1
    have hp : Ch (fun j => j = Z + 4) w9 (w9.putObj (Z + 4) (.deferred none)) := (Ch.refl _ _).putObj _ _ rfl
    have x0 : (w9.putObj (Z + 4) (.deferred none)).cell? ⟨Z + 1, 0, none⟩ = some (.int .i64 (max m1 (max m2 m3))) := (H9.out.1.keep hp (by omega)).cell 0
    have x1 : (w9.putObj (Z + 4) (.deferred none)).cell? ⟨Z + 1, 1, none⟩ = some (.int .i64 (max m1 m2)) := (H9.out.1.keep hp (by omega)).cell 1
    have x2 : (w9.putObj (Z + 4) (.deferred none)).cell? ⟨Z + 2, 0, none⟩ = some (.bool true) := (H9.out.2.1.keep hp (by omega)).cell 0
    refine ⟨by simp, .inl ⟨_, _, rfl, run_takeDeferred hrec, ?_⟩⟩
    have hZ := HZ.out
    refine ⟨.tuple #[.agg #[.int .i64 (max m1 (max m2 m3)), .int .i64 (max m1 m2)], .bool true], by simp [results, Tryd.results18, go_sem, x0, x1, x2], ?_, ?_⟩
    · rw [HK.out.2.2.2.2.1, HK.out.2.2.2.2.2.1, HK.out.2.2.2.2.2.2, show max (max m1 m2) m3 = max m1 (max m2 m3) by omega]
    · have b9 : Below w.heap.size w w9 := HK.out.2.2.2.1.trans (H9.out.2.2.below (fun j hj e => by omega) HK.out.2.2.2.1.size)
      exact b9.trans (hp.below (fun j hj e => by have e' : j = Z + 4 := e; omega) b9.size)
  case stop =>
    rintro c k A hk ⟨rfl, hI, hN0⟩ hD hnD hz
    rw [H6.out.2.1] at hD hnD hz
    rw [H6.out.2.1]
    have hb : bb = false := by rw [HB.out]; simp; omega
    have hla : la = 0 := by rw [HLa.out, if_neg (by rw [hb]; decide)]
    have hse : se = 0 := by rw [HSe.out, if_neg (by rw [hb]; decide)]
    have HK := Lib.hid (And.intro hI (And.intro hD (And.intro hz (And.intro (HBe.out A _ _ hI) (And.intro hla (And.intro hse hb))))))
    clear hI hD hnD hz hb hla hse hN0
    gi_wp2
    have hp : Ch (fun j => j = Z + 4) A (A.putObj (Z + 4) (.deferred none)) := (Ch.refl _ _).putObj _ _ rfl
    have x0 : (A.putObj (Z + 4) (.deferred none)).cell? ⟨Z + 1, 0, none⟩ = some (.int .i64 0) := (HK.out.1.2.1.keep hp (by omega)).cell 0
    have x1 : (A.putObj (Z + 4) (.deferred none)).cell? ⟨Z + 1, 1, none⟩ = some (.int .i64 0) := (HK.out.1.2.1.keep hp (by omega)).cell 1
    have x2 : (A.putObj (Z + 4) (.deferred none)).cell? ⟨Z + 2, 0, none⟩ = some (.bool false) := (HK.out.1.2.2.keep hp (by omega)).cell 0
    refine ⟨by simp, .inl ⟨_, _, rfl, run_takeDeferred HK.out.2.1, ?_⟩⟩
    have hZ := HZ.out
    refine ⟨.tuple #[.agg #[.int .i64 0, .int .i64 0], .bool false], by simp [results, Tryd.results18, go_sem, x0, x1, x2], ?_, ?_⟩
    · rw [HK.out.2.2.2.2.1, HK.out.2.2.2.2.2.1, HK.out.2.2.2.2.2.2]
    · exact HK.out.2.2.2.1.trans (hp.below (fun j hj e => by have e' : j = Z + 4 := e; omega) HK.out.2.2.2.1.size)
end Go.Proofs.YtchmdnmifpjfkaaDoor
/- The chapter's New where there is no such edge. -/
namespace Go.Proofs.YtchmdnmifpjfkaaDoor
open Go.RowKit

theorem built_none : Tryd.prog.built 36 [] = some (shl_ 0#32 0#32 0#32 zF zF zF).toArray := by kernel_rfl
set_option maxHeartbeats 4000000 in
set_option maxRecDepth 100000 in
theorem wnNew_no {w : World} {x : Img} {S : ImgS} {k : Int} (hk : k < 0 ∨ (x.edges.length : Int) ≤ k) (l : Nat → Int) :
    Calls Tryd.prog 10 #[.agg #[.int .i64 x.res, .slice S.t.sp x.tasks.length S.t.c, .slice S.m.sp x.modes.length S.m.c, .slice S.e.sp x.edges.length S.e.c], .int .i64 k, .agg (tml l).toArray] w fun e w' => e = .returned (.tuple #[.agg (shl_ 0#32 0#32 0#32 zF zF zF).toArray, .bool false]) ∧ Below w.heap.size w w' := by
  have HInf := Lib.hid (show (Tryd.prog.info? 36).map (·.size) = some 51 by kernel_rfl)
  have hbn := built_none
  have HCS := Lib.hid (show (shl_ 0#32 0#32 0#32 zF zF zF).toArray.size = 51 ∧ (shl_ 0#32 0#32 0#32 zF zF zF).toArray.all (·.oneCell') = true from ⟨by simp [shl_len], shl_cells1 _ _ _ _ _ _⟩)
  have HZero := Lib.hid (show ∀ (T : Array Value) (I : Array Value), ∃ w2, ((w.alloc (.cells I 26)).alloc (.cells T 27)).alloc (.cells (shl_ 0#32 0#32 0#32 zF zF zF).toArray 36) = w2 ∧ Below w.heap.size w w2 ∧ RowAt w2 (w.heap.size + 2) 36 (shl_ 0#32 0#32 0#32 zF zF zF).toArray ∧ RowAt w2 w.heap.size 26 I from fun T I =>
    ⟨_, rfl, (((Below.refl _ _).alloc (Nat.le_refl _) _).alloc (by simp) _).alloc (by simp; omega) _, row_next _ (w.heap.size + 2) (by simp) _ _, row_keep (row_keep (RowAt.mk _ _ _) _) _⟩)
  obtain ⟨nT, hnT⟩ : ∃ n, x.tasks.length = n := ⟨_, rfl⟩
  obtain ⟨nM, hnM⟩ : ∃ n, x.modes.length = n := ⟨_, rfl⟩
  obtain ⟨nE, hnE⟩ : ∃ n, x.edges.length = n := ⟨_, rfl⟩
  rw [hnE] at hk
  rw [hnT, hnM, hnE]
  obtain ⟨T, hT⟩ : ∃ T, (tml l).toArray = T := ⟨_, rfl⟩
  rw [hT]
  obtain ⟨Z, hZ⟩ : ∃ Z, Z = w.heap.size := ⟨_, rfl⟩
  have HZ := Lib.hid hZ
  clear hT hnT hnM hnE
  have hdec : (k < 0) ∨ (¬ k < 0 ∧ (nE : Int) ≤ k) := by omega
  clear hk
  rcases hdec with h1 | ⟨h1, h2⟩
  all_goals
    go_enter Tryd.func10, Tryd.ntmps10
    go_upto_region 2 with fail
    rw [← hZ]
    generalize hw2 : World.alloc _ _ = w2
    have H2 := Lib.hid (show Below w.heap.size w w2 ∧ RowAt w2 (Z + 2) 36 (shl_ 0#32 0#32 0#32 zF zF zF).toArray by
      obtain ⟨w3, e3, b3, r3, -⟩ := HZero.out T #[.int .i64 x.res, .slice S.t.sp nT S.t.c, .slice S.m.sp nM S.m.c, .slice S.e.sp nE S.e.c]
      have e4 : w2 = w3 := hw2.symm.trans e3
      rw [e4, hZ]
      exact ⟨b3, r3⟩)
    clear hw2 hZ
    go_wp2_with (first
      | (refine wpList_build_is rfl 36 [] rfl (shl_ 0#32 0#32 0#32 zF zF zF).toArray hbn ?_)
      | (refine wpList_store_row rfl 36 (.tmp 6) (.tmp 25) rfl (Z + 2) (shl_ 0#32 0#32 0#32 zF zF zF).toArray rfl rfl 36 (shl_ 0#32 0#32 0#32 zF zF zF).toArray H2.out.2 (by rw [HInf.out, HCS.out.1]) (by rw [HCS.out.1]) HCS.out.2 ?_; generalize hw9 : World.setRow _ _ _ = w9)
      | fail)
    have hR9 : RowAt w9 (Z + 2) 36 (shl_ 0#32 0#32 0#32 zF zF zF).toArray := by rw [← hw9]; exact H2.out.2.put
    have hB9 : Below w.heap.size w w9 := by rw [← hw9]; exact below_row H2.out.1 (Nat.le_refl _) (by have := HZ.out; omega) _
    exact bodyPost_ret (results_rowN rfl _ _ (Z + 2) 36 (shl_ 0#32 0#32 0#32 zF zF zF).toArray _ rfl hR9 Tryd.underlying36 rfl (by rw [HInf.out, HCS.out.1])) rfl ⟨rfl, hB9⟩
end Go.Proofs.YtchmdnmifpjfkaaDoor
/- The offsets' small calls: whether they fit, which tasks an edge brings, one number for all of a set. -/
namespace Go.Proofs.YtchmdnmifpjfkaaDoor
open Go.RowKit

/-- Is nobody late along an edge with these offsets? -/
def fitL (x : Img) (A B : BitVec 32) (l : Nat → Int) : Bool := spB (A &&& ~~~B) (B &&& ~~~A) (A &&& B) (nwW x (A ||| B) (nwO (B &&& ~~~A) l)) (nwB x B (A ||| B))
def fitE (x : Img) (k : Int) (l : Nat → Int) : Bool := if 0 ≤ k ∧ k < (x.edges.length : Int) then fitL x (edgeA x k) (edgeB x k) l else false
/-- An image that is right, where it lies. -/
structure ImgOk (w : World) (V : Nat → Prop) (x : Img) (S : ImgS) : Prop where
  at_ : ImgAt w V x S
  tab : Tab w
  good : GoodI x
  cap : x.tasks.length ≤ S.t.c
theorem ImgOk.new {w w' : World} {V : Nat → Prop} {x : Img} {S : ImgS} (h : ImgOk w V x S) (hb : Below w.heap.size w w') : ImgOk w' V x S := ⟨h.at_.new hb, h.tab.below h.tab.pos hb, h.good, h.cap⟩
/-- What New tells, whatever the edge is. -/
def nwRes (x : Img) (k : Int) (l : Nat → Int) : List Value := if 0 ≤ k ∧ k < (x.edges.length : Int) then newL x (edgeA x k) (edgeB x k) l else shl_ 0#32 0#32 0#32 zF zF zF
def inE (x : Img) (k : Int) : Bool := decide (0 ≤ k ∧ k < (x.edges.length : Int))
theorem wnNew_all {w : World} {V : Nat → Prop} {x : Img} {S : ImgS} (h : ImgOk w V x S) (k : Int) (l : Nat → Int) (hl : ∀ j, j < 16 → 0 ≤ l j ∧ l j ≤ 16384) :
    Calls Tryd.prog 10 #[.agg #[.int .i64 x.res, .slice S.t.sp x.tasks.length S.t.c, .slice S.m.sp x.modes.length S.m.c, .slice S.e.sp x.edges.length S.e.c], .int .i64 k, .agg (tml l).toArray] w fun e w' => e = .returned (.tuple #[.agg (nwRes x k l).toArray, .bool (inE x k)]) ∧ Below w.heap.size w w' := by
  by_cases hk : 0 ≤ k ∧ k < (x.edges.length : Int)
  · obtain ⟨m, rfl⟩ : ∃ m : Nat, k = m := ⟨k.toNat, by omega⟩
    unfold nwRes inE
    rw [if_pos hk, decide_eq_true hk]
    exact wnNew_any h.at_ h.tab h.good m (by omega) h.cap l hl
  · unfold nwRes inE
    rw [if_neg hk, decide_eq_false hk]
    exact wnNew_no (by omega) l
/-- What Span tells of it. -/
def nwOk (x : Img) (k : Int) (l : Nat → Int) : Bool := if 0 ≤ k ∧ k < (x.edges.length : Int) then fitL x (edgeA x k) (edgeB x k) l else spB 0#32 0#32 0#32 zF zF
theorem nwSpan_all {w : World} (ht : Tab w) (x : Img) (k : Int) (l : Nat → Int) : ∃ a b : Int, Calls Tryd.prog 18 #[.agg (nwRes x k l).toArray] w fun e w' => e = .returned (.tuple #[.agg #[.int .i64 a, .int .i64 b], .bool (nwOk x k l)]) ∧ Below w.heap.size w w' := by
  unfold nwRes nwOk
  split
  · exact ⟨_, _, wnSpan_any _ _ _ _ _ _ ht⟩
  · exact ⟨_, _, wnSpan_any _ _ _ _ _ _ ht⟩
theorem nwOk_in {x : Img} {k : Int} {l : Nat → Int} : (inE x k && nwOk x k l) = fitE x k l := by
  unfold inE nwOk fitE
  by_cases h : 0 ≤ k ∧ k < (x.edges.length : Int)
  · rw [if_pos h, if_pos h, decide_eq_true h]; rfl
  · rw [if_neg h, if_neg h, decide_eq_false h]; rfl
set_option maxHeartbeats 4000000 in
set_option maxRecDepth 100000 in
theorem offit_any {w : World} {V : Nat → Prop} {x : Img} {S : ImgS} (h : ImgOk w V x S) (k : Int) (l : Nat → Int) (hl : ∀ j, j < 16 → 0 ≤ l j ∧ l j ≤ 16384) :
    Calls Tryd.prog 52 #[.agg #[.int .i64 x.res, .slice S.t.sp x.tasks.length S.t.c, .slice S.m.sp x.modes.length S.m.c, .slice S.e.sp x.edges.length S.e.c], .int .i64 k, .agg (tml l).toArray] w fun e w' => e = .returned (.bool (fitE x k l)) ∧ Below w.heap.size w w' := by
  have HN := Lib.hid (fun (wx : World) (hb : Below w.heap.size w wx) => wnNew_all (h.new hb) k l hl)
  have HS := Lib.hid (fun (wx : World) (hb : Below w.heap.size w wx) => nwSpan_all (h.new hb).tab x k l)
  have HF := Lib.hid (nwOk_in (x := x) (k := k) (l := l))
  have HTi := Lib.hid (show (Tryd.prog.info? 27).map (·.size) = some (tml l).toArray.size by rw [show (tml l).toArray.size = 16 by simp [tml_len]]; kernel_rfl)
  have HCs := Lib.hid (show (nwRes x k l).toArray.size = 51 ∧ (nwRes x k l).toArray.all (·.oneCell') = true by
    unfold nwRes newL
    split
    · exact ⟨by simp [shl_len], shl_cells1 _ _ _ _ _ _⟩
    · exact ⟨by simp [shl_len], shl_cells1 _ _ _ _ _ _⟩)
  have HInf := Lib.hid (show (Tryd.prog.info? 36).map (·.size) = some 51 by kernel_rfl)
  obtain ⟨CS, hCS⟩ : ∃ c, (nwRes x k l).toArray = c := ⟨_, rfl⟩
  rw [hCS] at HN HS HCs
  obtain ⟨bi, hbi⟩ : ∃ b, inE x k = b := ⟨_, rfl⟩
  obtain ⟨bo, hbo⟩ : ∃ b, nwOk x k l = b := ⟨_, rfl⟩
  rw [hbi] at HN HF
  rw [hbo] at HS HF
  obtain ⟨fr, hfr⟩ : ∃ b, fitE x k l = b := ⟨_, rfl⟩
  rw [hfr] at HF ⊢
  obtain ⟨nT, hnT⟩ : ∃ n, x.tasks.length = n := ⟨_, rfl⟩
  obtain ⟨nM, hnM⟩ : ∃ n, x.modes.length = n := ⟨_, rfl⟩
  obtain ⟨nE, hnE⟩ : ∃ n, x.edges.length = n := ⟨_, rfl⟩
  rw [hnT, hnM, hnE] at HN
  rw [hnT, hnM, hnE]
  obtain ⟨T, hT⟩ : ∃ T, (tml l).toArray = T := ⟨_, rfl⟩
  rw [hT] at HN HTi ⊢
  obtain ⟨Z, hZ⟩ : ∃ Z, Z = w.heap.size := ⟨_, rfl⟩
  have HZ := Lib.hid hZ
  clear h hCS hbi hbo hfr hnT hnM hnE hT hl
  go_enter Tryd.func52, Tryd.ntmps52
  go_upto_region 1 with fail
  rw [← hZ]
  generalize hw2 : World.alloc _ _ = w2
  have H2 := Lib.hid (show Below w.heap.size w w2 ∧ RowAt w2 Z 26 #[.int .i64 x.res, .slice S.t.sp nT S.t.c, .slice S.m.sp nM S.m.c, .slice S.e.sp nE S.e.c] ∧ RowAt w2 (Z + 1) 27 T by
    rw [← hw2, hZ]
    exact ⟨((Below.refl _ _).alloc (Nat.le_refl _) _).alloc (by simp) _, row_keep (RowAt.mk _ _ _) _, row_next _ (w.heap.size + 1) (by simp) _ _⟩)
  clear hw2 hZ
  have a0 : w2.cell? ⟨Z, 0, none⟩ = some (.int .i64 x.res) := H2.out.2.1.cell 0
  have a1 : w2.cell? ⟨Z, 1, none⟩ = some (.slice S.t.sp nT S.t.c) := H2.out.2.1.cell 1
  have a2 : w2.cell? ⟨Z, 2, none⟩ = some (.slice S.m.sp nM S.m.c) := H2.out.2.1.cell 2
  have a3 : w2.cell? ⟨Z, 3, none⟩ = some (.slice S.e.sp nE S.e.c) := H2.out.2.1.cell 3
  go_upto_region 2 with (first
    | (refine wpList_load_row rfl 27 (.tmp 5) rfl (Z + 1) rfl 27 T (0, 0) _ H2.out.2.2 Tryd.underlying27 rfl HTi.out ?_)
    | (go_at_call 10; refine (HN.out _ H2.out.1).mono ?_; rintro e w3 ⟨rfl, b3⟩; have H3 := Lib.hid (H2.out.1.trans (b3.mono H2.out.1.size)); clear b3 a0 a1 a2 a3)
    | (refine wpList_store_row rfl 36 (.tmp 7) (.tmp 14) rfl w3.heap.size CS rfl rfl 36 (shl_ 0#32 0#32 0#32 zF zF zF).toArray (RowAt.mk w3 _ _) (by rw [HInf.out, HCs.out.1]) (by rw [HCs.out.1]; simp [shl_len]) HCs.out.2 ?_; generalize hw4 : World.setRow _ _ _ = w4)
    | fail)
  (try simp only [Act.put, List.setIfInBounds_toArray, List.set_cons_zero, List.set_cons_succ])
  have H4 := Lib.hid (show Below w.heap.size w w4 ∧ RowAt w4 w3.heap.size 36 CS by
    have b4 := alloc_row w3 (shl_ 0#32 0#32 0#32 zF zF zF).toArray CS 36
    rw [← hw4]
    exact ⟨H3.out.trans (b4.1.mono H3.out.size), b4.2⟩)
  obtain ⟨Bs, hBs⟩ : ∃ b, w3.heap.size = b := ⟨_, rfl⟩
  rw [hBs] at H4 ⊢
  clear hw4 hBs
  obtain ⟨sa, sb, hsp⟩ := HS.out w4 H4.out.1
  have HSp := Lib.hid hsp
  clear hsp
  cases bi with
  | false =>
    have hf : fr = false := by have := HF.out; simp at this; exact this
    subst hf
    go_wp2
    go_ret
    exact ⟨rfl, H4.out.1⟩
  | true =>
    have hf : fr = bo := by have := HF.out; simp at this; exact this.symm
    subst hf
    go_wp2_with (first
      | (refine wpList_load_row rfl 36 (.tmp 7) rfl Bs rfl 36 CS (0, 0) _ H4.out.2 Tryd.underlying36 rfl (by rw [HInf.out, HCs.out.1]) ?_)
      | (go_at_call 18; refine HSp.out.mono ?_; rintro e w5 ⟨rfl, b5⟩; have H5 := Lib.hid (H4.out.1.trans (b5.mono H4.out.1.size)); clear b5)
      | fail)
    go_ret
    exact ⟨rfl, H5.out⟩
end Go.Proofs.YtchmdnmifpjfkaaDoor
/- One number as the offset of each of a set; which tasks an edge brings. -/
namespace Go.Proofs.YtchmdnmifpjfkaaDoor
open Go.RowKit
attribute [local go_sem] Oper.semAt_some

/-- Offsets, where those of a list, and of a set, are one number. -/
def wkF (l : Nat → Int) (v : Int) (M : List Nat) (j : Nat) : Int := if j ∈ M then v else l j
def wdF (l : Nat → Int) (s : BitVec 32) (v : Int) (j : Nat) : Int := if s.getLsbD j = true then v else l j
theorem wkF_snoc (l : Nat → Int) (v : Int) (M : List Nat) (i : Nat) : wkF l v (M ++ [i]) = updF (wkF l v M) i v := by
  funext j
  unfold wkF updF
  by_cases e : j = i
  · subst e; simp
  · simp [e]
theorem wkF_lst (l : Nat → Int) (v : Int) (s : BitVec 32) (j : Nat) (hj : j < 32) : wkF l v (lst s 32) j = wdF l s v j := by
  unfold wkF wdF
  simp only [mem_lst, hj, true_and]
set_option maxHeartbeats 4000000 in
set_option maxRecDepth 100000 in
theorem ofwith_any (l : Nat → Int) (s : BitVec 32) (v : Int) (hs : ∀ i, i < 32 → s.getLsbD i = true → i < 16) {w : World} (ht : Tab w) :
    Calls Tryd.prog 51 #[.agg (tml l).toArray, .int .u32 (w32 s), .int .i64 v] w fun e w' => e = .returned (.agg (tml (wdF l s v)).toArray) ∧ Below w.heap.size w w' := by
  refine (callsIn_wide (n := 0)).1 ?_
  have hp := ht.pos
  have HTb := Lib.hid (show ∀ w', Below w.heap.size w w' → Tab w' from fun w' hb => ht.below hp hb)
  have HRes := Lib.hid (show (tml (wkF l v (lst s 32))).toArray = (tml (wdF l s v)).toArray by rw [tml_ext fun j hj => wkF_lst l v s j (by omega)])
  rw [← HRes.out]
  have HTi := Lib.hid (show ∀ f : Nat → Int, (Tryd.prog.info? 27).map (·.size) = some (tml f).toArray.size ∧ (tml f).toArray.size = 16 ∧ (tml f).toArray.all (·.oneCell') = true from fun f => ⟨by rw [show (tml f).toArray.size = 16 by simp [tml_len]]; kernel_rfl, by simp [tml_len], all_oneCell_toArray fun u hu => by
    unfold tml at hu
    simp only [List.mem_map] at hu
    obtain ⟨j, _, rfl⟩ := hu
    rfl⟩)
  have HLt := Lib.hid (show ∀ k, k < (lst s 32).length → (lst s 32).getD k 0 < 16 from fun k hk => by
    have hm : (lst s 32).getD k 0 ∈ lst s 32 := by
      rw [List.getD_eq_getElem?_getD, List.getElem?_eq_getElem hk]
      exact List.getElem_mem hk
    obtain ⟨h1, h2⟩ := (mem_lst _ _ _).1 hm
    exact hs _ h1 h2)
  have HSn := Lib.hid (fun (k : Nat) (hk : k < (lst s 32).length) => show wkF l v ((lst s 32).take (k + 1)) = updF (wkF l v ((lst s 32).take k)) ((lst s 32).getD k 0) v by rw [take_snoc hk, wkF_snoc])
  obtain ⟨L, hL⟩ : ∃ L, lst s 32 = L := ⟨_, rfl⟩
  have HTL := Lib.hid hL
  rw [hL] at HLt HSn ⊢
  obtain ⟨N, hN⟩ : ∃ N, L.length = N := ⟨_, rfl⟩
  have HNN := Lib.hid hN
  have HTk := Lib.hid (show L.take N = L by rw [← hN]; simp)
  rw [hN] at HLt HSn
  obtain ⟨f, hf⟩ : ∃ f : Nat → Nat → Int, (fun k => wkF l v (L.take k)) = f := ⟨_, rfl⟩
  have HF0 := Lib.hid (show f 0 = l by rw [← hf]; funext j; simp [wkF])
  have HFn := Lib.hid (show wkF l v L = f N by rw [← hf]; show wkF l v L = wkF l v (L.take N); rw [HTk.out])
  have HFs := Lib.hid (show ∀ k, k < N → f (k + 1) = updF (f k) (L.getD k 0) v from fun k hk => by rw [← hf]; exact HSn.out k hk)
  have HCell := Lib.hid (show ∀ g : Nat → Int, ∀ i, i < 16 → (tml g).toArray[i]? = some (.int .i64 (g i)) from fun g i hi => by rw [List.getElem?_toArray]; exact tml_at g i hi)
  have HSet := Lib.hid (show ∀ (g : Nat → Int) (i : Nat) (u : Int), (tml g).toArray.setIfInBounds i (.int .i64 u) = (tml (updF g i u)).toArray from fun g i u => by rw [List.setIfInBounds_toArray, tml_set])
  rw [HFn.out]
  obtain ⟨C, hC⟩ : ∃ C : (Nat → Int) → Array Value, (fun g => (tml g).toArray) = C := ⟨_, rfl⟩
  have hCe : ∀ g, (tml g).toArray = C g := fun g => by rw [← hC]
  simp only [hCe] at HTi HCell HSet ⊢
  have HC0 := Lib.hid hCe
  rw [← HF0.out]
  obtain ⟨Z, hZ⟩ : ∃ Z, Z = w.heap.size := ⟨_, rfl⟩
  have HZ := Lib.hid hZ
  clear ht hp hL hN hf hC hCe hs HRes HSn
  refine callsIn_of_wp_marks Tryd.func51 rfl trivial ?_ rfl
  simp only [Tryd.ntmps51, List.size_toArray, List.length_cons, List.length_nil, Nat.reduceAdd, Nat.reduceSub, Array.replicate_succ, Array.replicate_zero, List.push_toArray, List.append_toArray, List.nil_append, List.cons_append]
  gi_wp2_with (first
    | (refine ⟨trivial, rfl, ?_⟩; gi_at_call 53; refine (callsIn_wide.2 (All_any _ _)).mono ?_; rintro e w' ⟨rfl, rfl⟩)
    | fail)
  generalize hw6 : World.alloc (World.alloc (World.alloc (World.alloc w _) _) _) _ = w6
  have H6 := Lib.hid (show Below w.heap.size w w6 ∧ w6.heap.size = Z + 4 ∧ RowAt w6 Z 27 (C (f 0)) ∧ RowAt w6 (Z + 1) 3 #[.int .i64 v] ∧ RowAt w6 (Z + 2) 27 (C zF) ∧ RowAt w6 (Z + 3) 31 #[.int .u32 (w32 s)] by
    rw [hZ]
    obtain ⟨g1, g2, g3, g4, g5, g6⟩ := rows4 w (C (f 0)) #[.int .i64 v] (C zF) #[.int .u32 (w32 s)] 27 3 27 31
    have e : (((w.alloc (.cells (C (f 0)) 27)).alloc (.cells #[.int .i64 v] 3)).alloc (.cells (C zF) 27)).alloc (.cells #[.int .u32 (w32 s)] 31) = w6 := by rw [← hw6, ← HC0.out zF]; rfl
    rw [e] at g1 g2 g3 g4 g5 g6
    exact ⟨g1, g2, g3, g4, g5, g6⟩)
  rw [show w.heap.size + 1 + 1 + 1 = Z + 3 by omega, show w.heap.size + 1 + 1 = Z + 2 by omega, show w.heap.size + 1 = Z + 1 by omega, ← hZ]
  clear hw6 hZ
  have HI0 := Lib.hid (show CI w6 Z 27 (C (f 0)) w6 from ⟨Ch.refl _ _, H6.out.2.2.1⟩)
  have HBe := Lib.hid (show ∀ (W' : World) (cs : Array Value), CI w6 Z 27 cs W' → Below w.heap.size w W' from fun W' cs h => H6.out.1.trans (h.1.below (fun j hj e => by have := HZ.out; omega) H6.out.1.size))
  refine wpIn_rangeF3 (gf := 80) (lb := #[.pointer (some ⟨Z + 3, 0, none⟩)]) rfl (enters_of Tryd.func80 (by kernel_rfl) rfl)
    N (fun k => #[.int .i64 (nth (ints L) k)]) (fun _ => rfl) (fun _ j => j < Z + 4)
    (fun k W => CI w6 Z 27 (C (f k)) W) (fun _ _ _ => False)
    (fun k => CI.foot H6.out.2.1 (by omega)) (fun _ _ => ⟨fun _ h => h.elim, fun _ _ h => h.elim⟩) HI0.out
    (fun k a' _ => a' = { tmps := #[.agg (C (f 0)), .int .u32 (w32 s), .int .i64 v, .pointer (some ⟨Z, 0, none⟩), undef, .pointer (some ⟨Z + 1, 0, none⟩), .pointer (some ⟨Z + 2, 0, none⟩), .int .i64 (nth (ints L) k), .int .u32 (w32 s), .func (.func 80) #[] #[.pointer (some ⟨Z + 3, 0, none⟩)], .int .i64 (nth (ints L) k), undef, undef, undef, undef], defers := [] })
    (fun _ _ _ _ h _ => h) ?hit ?assign ?body ?done (fun _ _ _ _ h => h.elim)
  case hit =>
    intro J' Jx' W1 h1 h2 h3 h4 h5 h6 h7 h8
    rw [H6.out.2.1] at h1 h2 h3 h4 h5 h6 h7 ⊢
    rw [← HTL.out] at h7
    have hN2 : N = (lst s 32).length := by rw [← HNN.out, HTL.out]
    rw [hN2] at h7 ⊢
    exact all_in _ (Z + 3) s _ J' Jx' W1 (fun k W' hJ => HTb.out W' (HBe.out W' _ (h3 k W' hJ).1)) ((h2.cell (p := ⟨Z + 3, 0, none⟩) (show Z + 3 < Z + 4 by omega)).trans (H6.out.2.2.2.2.2.cell 0)) h7 h8
  case assign =>
    intro k W K hi' hk hz hK
    rw [H6.out.2.1] at hz
    have HK := Lib.hid hK
    have HKI := Lib.hid hi'
    clear hK hi'
    gi_wp2
    exact HK.out _ _ rfl (Ch.refl _ _) HKI.out (fun _ h => h)
  case body =>
    rintro k a' W hI hk rfl hz ⟨rec0, hrec⟩ hnl
    rw [H6.out.2.1] at hz hrec hnl ⊢
    have hkL : k < L.length := by rw [HNN.out]; exact hk
    have hil := HLt.out k hk
    have hst := HFs.out k hk
    rw [nth_ints hkL]
    obtain ⟨q, hq'⟩ : ∃ i, L.getD k 0 = i := ⟨_, rfl⟩
    rw [hq'] at hil hst ⊢
    have k0 : W.cell? ⟨Z, q, none⟩ = some (.int .i64 (f k q)) := (hI.2.cell q).trans (HCell.out _ q hil)
    have e0 : W.frozen? ⟨Z, q, none⟩ = false := hI.2.fr q
    have k1 : W.cell? ⟨Z + 1, 0, none⟩ = some (.int .i64 v) := (H6.out.2.2.2.1.keep hI.1 (by omega)).cell 0
    have hq2 : (q : Int) < 16 := by omega
    have HI := Lib.hid hI
    have HSt := Lib.hid hst
    have hc : Ch (fun j => j = Z) W (W.setCell ⟨Z, q, none⟩ (.int .i64 v)) := (Ch.refl _ _).setCell _ _ (.inl rfl)
    have HC := Lib.hid hc
    clear hI hst hkL hrec hnl hq' hc
    gi_wp2
    refine ⟨⟨HC.out.mono fun j _ (h : j = Z) => show j < Z + 4 by omega, fun j hj => .inl hj⟩, ?_⟩
    have hr := HI.out.2.setC q (.int .i64 v)
    rw [HSet.out, ← HSt.out] at hr
    exact ⟨HI.out.1.trans HC.out, hr⟩
  case done =>
    rintro A hI hD hnD hz
    rw [H6.out.2.1] at hD hnD hz
    rw [H6.out.2.1]
    have HI := Lib.hid hI
    have HD := Lib.hid (And.intro hD hz)
    have HR2 := Lib.hid (show RowAt A (Z + 2) 27 (C zF) from H6.out.2.2.2.2.1.keep hI.1 (by omega))
    have HBA := Lib.hid (HBe.out A _ hI)
    clear hI hD hnD hz
    gi_wp2_with (first
      | (refine wpListIn_load_rowW rfl 27 (.tmp 3) rfl Z rfl 27 (C (f N)) (0, 0) _ HI.out.2 Tryd.underlying27 rfl (HTi.out _).1 ?_)
      | (refine wpListIn_store_rowW rfl 27 (.tmp 6) (.tmp 14) rfl (Z + 2) (C (f N)) rfl rfl 27 (C zF) HR2.out (HTi.out _).1 (by rw [(HTi.out _).2.1, (HTi.out _).2.1]) (HTi.out _).2.2 ?_; generalize hw9 : World.setRow _ _ _ = w9)
      | fail)
    have hR9 : RowAt w9 (Z + 2) 27 (C (f N)) := by rw [← hw9]; exact HR2.out.put
    have hc9 : Ch (fun j => j = Z + 2) A w9 := by rw [← hw9]; exact ch_setRow _ _ _
    have hrec : w9.heap[Z + 4]? = some (.deferred (some [])) := (hc9.block (Z + 4) (by have := HD.out.2; omega) (by omega)).trans HD.out.1
    have hB9 : Below w.heap.size w w9 := HBA.out.trans (hc9.below (fun j hj e => by have := HZ.out; omega) HBA.out.size)
    have hp : Ch (fun j => j = Z + 4) w9 (w9.putObj (Z + 4) (.deferred none)) := (Ch.refl _ _).putObj _ _ rfl
    refine ⟨by simp, .inl ⟨_, _, rfl, run_takeDeferred hrec, ?_⟩⟩
    have hZ := HZ.out
    refine ⟨.agg (C (f N)), results_cell_row rfl _ _ (Z + 2) 27 (C (f N)) (0, 0) _ rfl (hR9.keep hp (by omega)) Tryd.underlying27 rfl (HTi.out _).1, rfl, ?_⟩
    exact hB9.trans (hp.below (fun j hj e => by have e' : j = Z + 4 := e; omega) hB9.size)
end Go.Proofs.YtchmdnmifpjfkaaDoor
/- The least offsets: the chapter's search. -/
namespace Go.Proofs.YtchmdnmifpjfkaaDoor
open Go.RowKit

/-- A search by halves. -/
def bsG (p : Nat → Bool) : Nat → Nat → Nat → Nat
  | 0, i, _ => i
  | g + 1, i, j => if i < j then (if p ((i + j) / 2) = true then bsG p g i ((i + j) / 2) else bsG p g ((i + j) / 2 + 1) j) else i
theorem bsG_ok {p : Nat → Bool} {n : Nat} : ∀ {g i j : Nat}, j ≤ i + g → i ≤ j → j ≤ n → (0 < i → p (i - 1) = false) → (j < n → p j = true) →
    bsG p g i j ≤ n ∧ (0 < bsG p g i j → p (bsG p g i j - 1) = false) ∧ (bsG p g i j < n → p (bsG p g i j) = true)
  | 0, i, j, hg, h1, h2, h3, h4 => by
    obtain rfl : i = j := by omega
    exact ⟨h2, h3, h4⟩
  | g + 1, i, j, hg, h1, h2, h3, h4 => by
    unfold bsG
    by_cases hij : i < j
    · rw [if_pos hij]
      by_cases hp : p ((i + j) / 2) = true
      · rw [if_pos hp]
        exact bsG_ok (by omega) (by omega) (by omega) h3 (fun _ => hp)
      · rw [if_neg hp]
        exact bsG_ok (by omega) (by omega) h2 (fun _ => by simpa using hp) h4
    · rw [if_neg hij]
      obtain rfl : i = j := by omega
      exact ⟨h2, h3, h4⟩
def bsN (p : Nat → Bool) (n : Nat) : Nat := bsG p n 0 n
theorem bsN_ok (p : Nat → Bool) (n : Nat) : bsN p n ≤ n ∧ (0 < bsN p n → p (bsN p n - 1) = false) ∧ (bsN p n < n → p (bsN p n) = true) :=
  bsG_ok (by omega) (by omega) (by omega) (fun h => by omega) (fun h => by omega)
/-- Which tasks an edge brings, as far as they have a place. -/
def frE (x : Img) (k : Int) : BitVec 32 := btw (edgeB x k &&& ~~~edgeA x k) (-1) 16
theorem frE_lt (x : Img) (k : Int) (i : Nat) (hi : i < 32) (h : (frE x k).getLsbD i = true) : i < 16 := by
  unfold frE at h
  rw [btw_bit _ _ _ _ hi] at h
  simp at h
  omega
theorem wdF_rng {l : Nat → Int} {s : BitVec 32} {v : Int} (hl : ∀ j, j < 16 → 0 ≤ l j ∧ l j ≤ 16384) (hv : 0 ≤ v ∧ v ≤ 16384) : ∀ j, j < 16 → 0 ≤ wdF l s v j ∧ wdF l s v j ≤ 16384 := fun j hj => by
  unfold wdF
  split
  · exact hv
  · exact hl j hj
set_option maxHeartbeats 2000000 in
theorem ofbrought_any {w : World} {V : Nat → Prop} {x : Img} {S : ImgS} (h : ImgOk w V x S) (k : Int) :
    Calls Tryd.prog 50 #[.agg #[.int .i64 x.res, .slice S.t.sp x.tasks.length S.t.c, .slice S.m.sp x.modes.length S.m.c, .slice S.e.sp x.edges.length S.e.c], .int .i64 k] w fun e w' => e = .returned (.int .u32 (w32 (frE x k))) ∧ Below w.heap.size w w' := by
  have HE := Lib.hid (fun (wx : World) (hb : Below w.heap.size w wx) => clsEdge_any (h.new hb).at_ k)
  have hfd : ∀ (a b c : Value) (wx : World), (Instr.field 33 (.agg #[a, b, c]) 1).run Tryd.prog wx = .ok b wx := fun a b c wx => by
    simp [Instr.field, run_underlying Tryd.underlying33, go_sem, part, asAgg]
  have HB := Lib.hid (fun wx => below_any (edgeB x k &&& ~~~edgeA x k) 16 wx)
  have HF := Lib.hid (show frE x k = btw (edgeB x k &&& ~~~edgeA x k) (-1) 16 from rfl)
  obtain ⟨o, ho⟩ : ∃ b, edgeA x k &&& ~~~edgeB x k = b := ⟨_, rfl⟩
  obtain ⟨n, hn⟩ : ∃ b, edgeB x k &&& ~~~edgeA x k = b := ⟨_, rfl⟩
  obtain ⟨s, hs⟩ : ∃ b, edgeA x k &&& edgeB x k = b := ⟨_, rfl⟩
  rw [ho, hn, hs] at HE
  rw [hn] at HB HF
  rw [HF.out]
  obtain ⟨nT, hnT⟩ : ∃ n, x.tasks.length = n := ⟨_, rfl⟩
  obtain ⟨nM, hnM⟩ : ∃ n, x.modes.length = n := ⟨_, rfl⟩
  obtain ⟨nE, hnE⟩ : ∃ n, x.edges.length = n := ⟨_, rfl⟩
  rw [hnT, hnM, hnE] at HE
  rw [hnT, hnM, hnE]
  have HBX := Lib.hid ((Below.refl w.heap.size w).alloc (Nat.le_refl _) (.cells #[.int .i64 x.res, .slice S.t.sp nT S.t.c, .slice S.m.sp nM S.m.c, .slice S.e.sp nE S.e.c] 26))
  clear h ho hn hs hnT hnM hnE HF
  go_enter Tryd.func50, Tryd.ntmps50
  go_wp2_with (first
    | (go_at_call 30; refine (HE.out _ HBX.out).mono ?_; rintro e w3 ⟨rfl, b3⟩; have H3 := Lib.hid (HBX.out.trans (b3.mono HBX.out.size)); clear b3)
    | (go_at_call 61; refine (HB.out _).mono ?_; rintro e w4 ⟨rfl, rfl⟩)
    | fail)
  go_ret
  exact ⟨rfl, H3.out⟩
/-- Where the search's boxes lie. -/
structure LeAt (W : World) (Bi Be Bo Bm : Nat) (x : Img) (S : ImgS) (k : Int) (l : Nat → Int) (s : BitVec 32) : Prop where
  im : RowAt W Bi 26 #[.int .i64 x.res, .slice S.t.sp x.tasks.length S.t.c, .slice S.m.sp x.modes.length S.m.c, .slice S.e.sp x.edges.length S.e.c]
  ed : RowAt W Be 3 #[.int .i64 k]
  ofs : RowAt W Bo 27 (tml l).toArray
  st : RowAt W Bm 31 #[.int .u32 (w32 s)]
theorem LeAt.new {W W' : World} {Bi Be Bo Bm : Nat} {x : Img} {S : ImgS} {k : Int} {l : Nat → Int} {s : BitVec 32} (h : LeAt W Bi Be Bo Bm x S k l s) (hb : Below W.heap.size W W') : LeAt W' Bi Be Bo Bm x S k l s :=
  ⟨h.im.new hb, h.ed.new hb, h.ofs.new hb, h.st.new hb⟩
set_option maxHeartbeats 4000000 in
set_option maxRecDepth 100000 in
theorem ofl1_any {w : World} {V : Nat → Prop} {x : Img} {S : ImgS} (h : ImgOk w V x S) {Bi Be Bo Bm : Nat} {k : Int} {l : Nat → Int} {s : BitVec 32} (hL : LeAt w Bi Be Bo Bm x S k l s)
    (hl : ∀ j, j < 16 → 0 ≤ l j ∧ l j ≤ 16384) (hs : ∀ i, i < 32 → s.getLsbD i = true → i < 16) (n : Nat) (hn : n ≤ 16384) :
    Calls Tryd.prog 84 #[.int .i64 (n : Nat), .pointer (some ⟨Bi, 0, none⟩), .pointer (some ⟨Be, 0, none⟩), .pointer (some ⟨Bo, 0, none⟩), .pointer (some ⟨Bm, 0, none⟩)] w fun e w' => e = .returned (.bool (fitE x k (wdF l s n))) ∧ Below w.heap.size w w' := by
  have HW := Lib.hid (fun (wx : World) (hb : Below w.heap.size w wx) => ofwith_any l s (n : Int) hs (h.new hb).tab)
  have HFt := Lib.hid (fun (wx : World) (hb : Below w.heap.size w wx) => offit_any (h.new hb) k (wdF l s (n : Int)) (wdF_rng hl (by omega)))
  have HLA := Lib.hid (show ∀ wx, Below w.heap.size w wx → LeAt wx Bi Be Bo Bm x S k l s from fun wx hb => hL.new hb)
  have HTi := Lib.hid (show (Tryd.prog.info? 27).map (·.size) = some (tml l).toArray.size by rw [show (tml l).toArray.size = 16 by simp [tml_len]]; kernel_rfl)
  obtain ⟨nT, hnT⟩ : ∃ n, x.tasks.length = n := ⟨_, rfl⟩
  obtain ⟨nM, hnM⟩ : ∃ n, x.modes.length = n := ⟨_, rfl⟩
  obtain ⟨nE, hnE⟩ : ∃ n, x.edges.length = n := ⟨_, rfl⟩
  have HLx := Lib.hid (show ∀ wx, Below w.heap.size w wx → (wx.cell? ⟨Bi, 0, none⟩ = some (.int .i64 x.res) ∧ wx.cell? ⟨Bi, 1, none⟩ = some (.slice S.t.sp nT S.t.c) ∧ wx.cell? ⟨Bi, 2, none⟩ = some (.slice S.m.sp nM S.m.c) ∧ wx.cell? ⟨Bi, 3, none⟩ = some (.slice S.e.sp nE S.e.c)) ∧ wx.cell? ⟨Be, 0, none⟩ = some (.int .i64 k) ∧ wx.cell? ⟨Bm, 0, none⟩ = some (.int .u32 (w32 s)) from fun wx hb => by
    have hh := HLA.out wx hb
    rw [← hnT, ← hnM, ← hnE]
    exact ⟨⟨hh.im.cell 0, hh.im.cell 1, hh.im.cell 2, hh.im.cell 3⟩, hh.ed.cell 0, hh.st.cell 0⟩)
  have HOf := Lib.hid (show ∀ wx, Below w.heap.size w wx → RowAt wx Bo 27 (tml l).toArray from fun wx hb => (HLA.out wx hb).ofs)
  rw [hnT, hnM, hnE] at HFt
  obtain ⟨T, hT⟩ : ∃ T, (tml l).toArray = T := ⟨_, rfl⟩
  rw [hT] at HW HTi HOf
  obtain ⟨T2, hT2⟩ : ∃ T, (tml (wdF l s (n : Int))).toArray = T := ⟨_, rfl⟩
  rw [hT2] at HW HFt
  obtain ⟨fr, hfr⟩ : ∃ b, fitE x k (wdF l s (n : Int)) = b := ⟨_, rfl⟩
  rw [hfr] at HFt ⊢
  clear h hL hl hs hnT hnM hnE hT hT2 hfr HLA
  go_enter Tryd.func84, Tryd.ntmps84
  go_upto_region 1 with fail
  refine wp_region_held_drew (S := fun w' => Below w.heap.size w w') (by kernel_rfl) (below_dn (Below.refl _ _) 1) (fun hS => ?_)
  refine wpAnyH_take (i := 0) (oi := { dst := some 7, op := .load 26 (.tmp 1), type := 26, pos := "offset.go:41", after := #[], guard := none }) (v := ?_) rfl (by kernel_rfl) (by kernel_rfl) (by kernel_rfl) (fun _ _ _ h => h) (Or.inl ⟨by rfl, ?_⟩) hS ?_
  rotate_left 1
  · intro w hw; obtain ⟨⟨k0, k1, k2, k3⟩, k4, k5⟩ := HLx.out _ hw; go_simp; try (with_reducible rfl)
  simp only [Act.put, List.setIfInBounds_toArray, List.set_cons_zero, List.set_cons_succ]
  refine wpAnyH_take (i := 1) (oi := { dst := some 8, op := .load 3 (.tmp 2), type := 3, pos := "offset.go:41", after := #[], guard := none }) (v := ?_) rfl (by kernel_rfl) (by kernel_rfl) (by kernel_rfl) (fun _ _ _ h => h) (Or.inl ⟨by rfl, ?_⟩) hS ?_
  rotate_left 1
  · intro w hw; obtain ⟨⟨k0, k1, k2, k3⟩, k4, k5⟩ := HLx.out _ hw; go_simp; try (with_reducible rfl)
  simp only [Act.put, List.setIfInBounds_toArray, List.set_cons_zero, List.set_cons_succ]
  refine wpAnyH_take (i := 2) (oi := { dst := some 9, op := .load 27 (.tmp 3), type := 27, pos := "offset.go:41", after := #[], guard := none }) (v := (.agg T)) rfl (by kernel_rfl) (by kernel_rfl) (by kernel_rfl) (fun _ _ _ h => h) (Or.inl ⟨by rfl, ?_⟩) hS ?_
  · intro w hw; exact exec_load_row 27 (.tmp 3) (by exact rfl) Bo (by exact rfl) 27 T (0, 0) _ (HOf.out _ hw) Tryd.underlying27 rfl HTi.out
  simp only [Act.put, List.setIfInBounds_toArray, List.set_cons_zero, List.set_cons_succ]
  refine wpAnyH_take (i := 3) (oi := { dst := some 10, op := .load 31 (.tmp 4), type := 31, pos := "offset.go:41", after := #[], guard := none }) (v := ?_) rfl (by kernel_rfl) (by kernel_rfl) (by kernel_rfl) (fun _ _ _ h => h) (Or.inl ⟨by rfl, ?_⟩) hS ?_
  rotate_left 1
  · intro w hw; obtain ⟨⟨k0, k1, k2, k3⟩, k4, k5⟩ := HLx.out _ hw; go_simp; try (with_reducible rfl)
  simp only [Act.put, List.setIfInBounds_toArray, List.set_cons_zero, List.set_cons_succ]
  refine wpAnyH_take (i := 4) (oi := { dst := some 11, op := .move (.tmp 0), type := 3, pos := "offset.go:41", after := #[], guard := none }) (v := ?_) rfl (by kernel_rfl) (by kernel_rfl) (by kernel_rfl) (fun _ _ _ h => h) (Or.inl ⟨by rfl, ?_⟩) hS ?_
  rotate_left 1
  · intro w hw; go_simp; try (with_reducible rfl)
  simp only [Act.put, List.setIfInBounds_toArray, List.set_cons_zero, List.set_cons_succ]
  refine wpAnyH_ready (rs := [5]) (by kernel_rfl) (by simp) (AllReadyH.cons (o := { dst := some 12, op := .call { callee := .value (.func 51), args := #[.tmp 9, .tmp 10, .tmp 11], argTypes := #[27, 31, 3] }, type := 27, pos := "offset.go:41", after := #[{ on := 2, ground := .data }, { on := 3, ground := .data }, { on := 4, ground := .data }], guard := none }) rfl (fun K hK => ?_) AllReadyH.nil)
  go_simp
  go_at_call 51
  refine (HW.out _ (below_dn (Below.refl _ _) 1)).mono ?_
  rintro e w8 ⟨rfl, b8⟩
  have H8 := Lib.hid (show Below w.heap.size w w8 from (below_dn (Below.refl _ w) 1).trans b8)
  clear b8
  try dsimp only
  refine hK.out _ _ H8.out (fun hHeld => ?_)
  clear hK K
  try simp only [Act.put, List.setIfInBounds_toArray, List.set_cons_zero, List.set_cons_succ]
  refine wpAnyH_ready (rs := [6]) (by kernel_rfl) (by simp) (AllReadyH.cons (o := { dst := some 13, op := .call { callee := .value (.func 52), args := #[.tmp 7, .tmp 8, .tmp 12], argTypes := #[26, 3, 27] }, type := 4, pos := "offset.go:41", after := #[{ on := 0, ground := .data }, { on := 1, ground := .data }, { on := 5, ground := .data }, { on := 5, ground := .chain }], guard := none }) rfl (fun K hK => ?_) AllReadyH.nil)
  go_simp
  go_at_call 52
  refine (HFt.out _ H8.out).mono ?_
  rintro e w9 ⟨rfl, b9⟩
  have H9 := Lib.hid (show Below w.heap.size w w9 from H8.out.trans (b9.mono H8.out.size))
  clear b9
  try dsimp only
  refine hK.out _ _ H9.out (fun hHeld => ?_)
  clear hK K
  try simp only [Act.put, List.setIfInBounds_toArray, List.set_cons_zero, List.set_cons_succ]
  refine wpAnyH_take (i := 7) (oi := { dst := some 6, op := .assign (.tmp 13), type := 4, pos := "offset.go:41", after := #[{ on := 6, ground := .data }, { on := 6, ground := .chain }, { on := 0, ground := .phase }, { on := 1, ground := .phase }, { on := 2, ground := .phase }, { on := 3, ground := .phase }, { on := 4, ground := .phase }, { on := 5, ground := .phase }, { on := 6, ground := .phase }], guard := none }) (v := ?_) rfl (by kernel_rfl) (by kernel_rfl) (by kernel_rfl) (fun _ _ _ h => h) (Or.inl ⟨by rfl, ?_⟩) H9.out ?_
  rotate_left 1
  · intro w hw; go_simp; try (with_reducible rfl)
  simp only [Act.put, List.setIfInBounds_toArray, List.set_cons_zero, List.set_cons_succ]
  refine wpAnyH_done (by kernel_rfl) ?_ _

  go_wp2
  go_ret
  exact ⟨rfl, H9.out⟩
set_option maxHeartbeats 4000000 in
set_option maxRecDepth 100000 in
theorem srtOf_any {w : World} {Bi Be Bo Bm : Nat} (n : Nat) (hn : n ≤ 100000) (pr : Nat → Bool)
    (hf : ∀ wx, Below w.heap.size w wx → ∀ k, k < n → Calls Tryd.prog 84 #[.int .i64 (k : Nat), .pointer (some ⟨Bi, 0, none⟩), .pointer (some ⟨Be, 0, none⟩), .pointer (some ⟨Bo, 0, none⟩), .pointer (some ⟨Bm, 0, none⟩)] wx fun e w' => e = .returned (.bool (pr k)) ∧ Below wx.heap.size wx w') :
    Calls Tryd.prog 83 #[.int .i64 (n : Nat), .func (.func 84) #[] #[.pointer (some ⟨Bi, 0, none⟩), .pointer (some ⟨Be, 0, none⟩), .pointer (some ⟨Bo, 0, none⟩), .pointer (some ⟨Bm, 0, none⟩)]] w fun e w' => e = .returned (.int .i64 (bsN pr n : Nat)) ∧ Below w.heap.size w w' := by
  have HF := Lib.hid hf
  have HS := Lib.hid (show ∀ g i j, bsG pr (g + 1) i j = if i < j then (if pr ((i + j) / 2) = true then bsG pr g i ((i + j) / 2) else bsG pr g ((i + j) / 2 + 1) j) else i from fun _ _ _ => rfl)
  have HR := Lib.hid (show bsG pr n 0 n = bsN pr n from rfl)
  have HZ := Lib.hid (show ∀ i j, bsG pr 0 i j = i from fun _ _ => rfl)
  obtain ⟨R, hR⟩ : ∃ r, bsN pr n = r := ⟨_, rfl⟩
  rw [hR] at HR ⊢
  clear hf hR
  go_enter Tryd.func83, Tryd.ntmps83
  go_wp2
  go_loopg [5, 6] n (fun g u v wr => ∃ i j : Nat, u = .int .i64 (i : Nat) ∧ v = .int .i64 (j : Nat) ∧ i ≤ j ∧ j ≤ n ∧ j ≤ i + g ∧ Aside (bsG pr g i j = R ∧ Below w.heap.size w wr))
  case atStart => exact ⟨0, n, rfl, rfl, by omega, by omega, by omega, HR.out, Below.refl _ _⟩
  case round =>
    obtain ⟨i, j, rfl, rfl, h1, h2, h3, HK⟩ := hrel
    by_cases hij : i < j
    · have hij2 : (i : Int) < (j : Int) := by omega
      cases gk with
      | zero => omega
      | succ g1 =>
        have hst := HK.out.1
        rw [HS.out, if_pos hij] at hst
        obtain ⟨m, hm⟩ : ∃ m : Nat, m = (i + j) / 2 := ⟨_, rfl⟩
        rw [← hm] at hst
        have hm1 : i ≤ m ∧ m < j := by omega
        have HC := Lib.hid (HF.out wr HK.out.2 m (by omega))
        have HM := Lib.hid hm
        obtain ⟨v, hv⟩ : ∃ v, pr m = v := ⟨_, rfl⟩
        rw [hv] at HC hst
        have HV := Lib.hid hst
        clear hv hst
        go_upto_region 4 with fail
        rw [show ((i : Int) + (j : Int)) / 2 = (m : Int) by have := HM.out; omega]
        clear hm
        cases v with
        | true =>
          go_wp2_with (first
            | (go_at_call 84; refine HC.out.mono ?_; rintro e w1 ⟨rfl, b1⟩; have H1 := Lib.hid (HK.out.2.trans (b1.mono HK.out.2.size)); clear b1)
            | fail)
          go_roundg g1
          case measure => omega
          case rel => exact ⟨i, m, rfl, rfl, by omega, by omega, by omega, HV.out, H1.out⟩
        | false =>
          go_wp2_with (first
            | (go_at_call 84; refine HC.out.mono ?_; rintro e w1 ⟨rfl, b1⟩; have H1 := Lib.hid (HK.out.2.trans (b1.mono HK.out.2.size)); clear b1)
            | fail)
          go_roundg g1
          case measure => omega
          case rel => exact ⟨m + 1, j, by go_num, rfl, by omega, by omega, by omega, HV.out, H1.out⟩
    · obtain rfl : i = j := by omega
      have HE := Lib.hid (show i = R by
        have := HK.out.1
        cases gk with
        | zero => exact this
        | succ g1 => rw [HS.out, if_neg (by omega)] at this; exact this)
      go_wp2
      go_ret
      exact ⟨by rw [← HE.out]; rfl, HK.out.2⟩
/-- The least number that does as the offset of each of a set. -/
def lsE (x : Img) (k : Int) (l : Nat → Int) (s : BitVec 32) : Nat := bsN (fun n => fitE x k (wdF l s (n : Int))) 16384
set_option maxHeartbeats 4000000 in
set_option maxRecDepth 100000 in
theorem ofleast_any {w : World} {V : Nat → Prop} {x : Img} {S : ImgS} (h : ImgOk w V x S) (k : Int) (l : Nat → Int) (s : BitVec 32)
    (hl : ∀ j, j < 16 → 0 ≤ l j ∧ l j ≤ 16384) (hs : ∀ i, i < 32 → s.getLsbD i = true → i < 16) :
    Calls Tryd.prog 54 #[.agg #[.int .i64 x.res, .slice S.t.sp x.tasks.length S.t.c, .slice S.m.sp x.modes.length S.m.c, .slice S.e.sp x.edges.length S.e.c], .int .i64 k, .agg (tml l).toArray, .int .u32 (w32 s)] w fun e w' => e = .returned (.int .i64 (lsE x k l s : Nat)) ∧ Below w.heap.size w w' := by
  have hmf : ∀ (fn : Fn) (first cap : Array Value) (w : World), (Instr.makeFunc fn first cap).run Tryd.prog w = .ok (.func fn first cap) w := fun _ _ _ _ => rfl
  have HC := Lib.hid (fun (wx : World) (hb : Below w.heap.size w wx) (Bi Be Bo Bm : Nat) (hL : LeAt wx Bi Be Bo Bm x S k l s) =>
    srtOf_any (w := wx) (Bi := Bi) (Be := Be) (Bo := Bo) (Bm := Bm) 16384 (by omega) (fun n => fitE x k (wdF l s (n : Int))) (fun wy hy m hm => ofl1_any ((h.new hb).new hy) (hL.new hy) hl hs m (by omega)))
  have HLs := Lib.hid (show bsN (fun n => fitE x k (wdF l s (n : Int))) 16384 = lsE x k l s from rfl)
  rw [HLs.out] at HC
  obtain ⟨R, hR⟩ : ∃ r, lsE x k l s = r := ⟨_, rfl⟩
  rw [hR] at HC ⊢
  have HL4 := Lib.hid (show ∀ w2, (((w.alloc (.cells #[.int .i64 x.res, .slice S.t.sp x.tasks.length S.t.c, .slice S.m.sp x.modes.length S.m.c, .slice S.e.sp x.edges.length S.e.c] 26)).alloc (.cells #[.int .i64 k] 3)).alloc (.cells (tml l).toArray 27)).alloc (.cells #[.int .u32 (w32 s)] 31) = w2 → Below w.heap.size w w2 ∧ LeAt w2 w.heap.size (w.heap.size + 1) (w.heap.size + 2) (w.heap.size + 3) x S k l s from fun w2 e => by
    obtain ⟨g1, g2, g3, g4, g5, g6⟩ := rows4 w #[.int .i64 x.res, .slice S.t.sp x.tasks.length S.t.c, .slice S.m.sp x.modes.length S.m.c, .slice S.e.sp x.edges.length S.e.c] #[.int .i64 k] (tml l).toArray #[.int .u32 (w32 s)] 26 3 27 31
    rw [e] at g1 g2 g3 g4 g5 g6
    exact ⟨g1, g3, g4, g5, g6⟩)
  obtain ⟨nT, hnT⟩ : ∃ n, x.tasks.length = n := ⟨_, rfl⟩
  obtain ⟨nM, hnM⟩ : ∃ n, x.modes.length = n := ⟨_, rfl⟩
  obtain ⟨nE, hnE⟩ : ∃ n, x.edges.length = n := ⟨_, rfl⟩
  rw [hnT, hnM, hnE] at HL4
  rw [hnT, hnM, hnE]
  obtain ⟨T, hT⟩ : ∃ T, (tml l).toArray = T := ⟨_, rfl⟩
  rw [hT] at HL4 ⊢
  clear h hl hs hR hnT hnM hnE hT
  go_enter Tryd.func54, Tryd.ntmps54
  go_upto_region 1 with fail
  generalize hw2 : World.alloc _ _ = w2
  have H2 := Lib.hid (HL4.out w2 hw2)
  clear hw2 HL4
  go_wp2_with (first
    | (go_at_call 83; refine (HC.out _ H2.out.1 _ _ _ _ H2.out.2).mono ?_; rintro e w3 ⟨rfl, b3⟩; have H3 := Lib.hid (H2.out.1.trans (b3.mono H2.out.1.size)); clear b3)
    | fail)
  go_ret
  exact ⟨rfl, H3.out⟩
end Go.Proofs.YtchmdnmifpjfkaaDoor
