/- The contract of the law's last. -/
import Derived.Test.YthpagbfabpfngaaQD
import Derived.Test.YthpagbfabpfngaaVary
namespace Go.Proofs.Ythpagbfabpfngaa
open Go.RowKit

/-- The last so many of a row. -/
def lastL (L : List Int) (k : Nat) : List Int := L.drop (L.length - k)
theorem lastL_len (L : List Int) (k : Nat) : (lastL L k).length = min L.length k := by unfold lastL; rw [List.length_drop]; omega
theorem nth_drop (L : List Int) (n j : Nat) : nth (L.drop n) j = nth L (n + j) := by unfold nth; simp [List.getD_eq_getElem?_getD]
/-- A slice's ints, and that they lie in no block of T. -/
structure SI (T : Nat → Prop) (w : World) (sp : Option Addr) (cap : Nat) (L : List Int) : Prop where
  lies : ∃ g off, Lies w sp g off L ∧ (0 < L.length → ¬ T g)
  cap : L.length ≤ cap
theorem SI.keep {T : Nat → Prop} {w w' : World} {sp : Option Addr} {cap : Nat} {L : List Int} (h : SI T w sp cap L) (hc : Ch T w w') : SI T w' sp cap L := by
  obtain ⟨g, off, h1, h2⟩ := h.lies
  exact ⟨⟨g, off, h1.keep hc h2, h2⟩, h.cap⟩
theorem SI.new {T : Nat → Prop} {w w' : World} {sp : Option Addr} {cap : Nat} {L : List Int} (h : SI T w sp cap L) (hb : Below w.heap.size w w') : SI T w' sp cap L := h.keep (Ch.new hb)
theorem SI.none (T : Nat → Prop) (w : World) : SI T w none 0 [] := ⟨⟨0, 0, ⟨fun h => by simp at h, fun k hk => by simp at hk⟩, fun h => by simp at h⟩, Nat.le_refl _⟩
theorem SI.of_own {T : Nat → Prop} {w : World} {base : Nat} {sp : Option Addr} {n cap : Nat} {L : List Int} (h : w.ownsRow base 3 1 (.slice sp n cap) n (rowI L)) (hn : n = L.length) (hT : ∀ j, T j → j < base) : SI T w sp cap L := by
  subst hn
  obtain ⟨sp', g, cap', hv, h1, h2⟩ := own_ints h rfl
  injection hv with e1 _ e2
  subst e1 e2
  refine ⟨⟨g, 0, ⟨fun h0 => ⟨(h1 h0).1, (h1 h0).2.2⟩, fun k hk => by rw [Nat.zero_add]; exact h2 k hk⟩, fun h0 ht => by have := hT g ht; have := (h1 h0).2.1; omega⟩, ?_⟩
  rcases h.2 with ⟨hv, h0⟩ | ⟨g, cap', cur, hv, _, _, hc, _⟩
  · omega
  · injection hv with _ _ e; omega
/-- The cells of a stretch. -/
theorem SI.cells {T : Nat → Prop} {w : World} {sp : Option Addr} {cap : Nat} {L : List Int} (h : SI T w sp cap L) (n : Nat) : ∀ b o, sp = some ⟨b, o, Option.none⟩ → ∀ j u, (rowI (L.drop n))[j]? = some u → w.cell? ((⟨b, o + n, Option.none⟩ : Addr).add j) = some u := by
  obtain ⟨g, off, h1, _⟩ := h.lies
  intro b o hs j u hu
  obtain ⟨hj, rfl⟩ := rowI_at _ _ _ hu
  rw [List.length_drop] at hj
  have hs2 := (h1.1 (by omega)).1
  rw [hs] at hs2
  injection hs2 with hs2
  injection hs2 with e1 e2
  subst e1 e2
  rw [Addr.add_lit, nth_drop, Nat.add_assoc]
  exact h1.2 (n + j) (by omega)
theorem SI.addr {T : Nat → Prop} {w : World} {sp : Option Addr} {cap : Nat} {L : List Int} (h : SI T w sp cap L) (h0 : 0 < L.length) : ∃ b o, sp = some ⟨b, o, Option.none⟩ ∧ ¬ T b := by
  obtain ⟨g, off, h1, h2⟩ := h.lies
  exact ⟨g, off, (h1.1 h0).1, h2 h0⟩
theorem SI.src {T : Nat → Prop} {w : World} {sp : Option Addr} {cap : Nat} {L : List Int} (h : SI T w sp cap L) : ∀ ad, sp = some ad → ∀ j u, (rowI L)[j]? = some u → w.cell? (ad.add j) = some u := by
  obtain ⟨g, off, h1, _⟩ := h.lies
  intro ad ha j u hu
  obtain ⟨hj, rfl⟩ := rowI_at _ _ _ hu
  have hs2 := (h1.1 (by omega)).1
  rw [ha] at hs2
  injection hs2 with hs2
  subst hs2
  rw [Addr.add_lit]
  exact h1.2 j hj
theorem SI.no {T : Nat → Prop} {w : World} {sp : Option Addr} {cap : Nat} {L : List Int} (h : SI T w sp cap L) : sp = Option.none → L.length = 0 := by
  intro h0
  rcases Nat.eq_zero_or_pos L.length with e | e
  · exact e
  · obtain ⟨b, o, hb, _⟩ := h.addr e
    rw [h0] at hb
    cases hb
theorem infoInt : (Try.prog.info? 3).map (fun i => (i.zero, i.size, i.bytes)) = some (some (.int .i64 0), 1, 8) := by kernel_rfl

set_option maxHeartbeats 1000000 in
set_option maxRecDepth 100000 in
theorem last_any {T : Nat → Prop} {w : World} {sp : Option Addr} {cap : Nat} {L : List Int} (h : SI T w sp cap L) (hT : ∀ j, T j → j < w.heap.size) (hL : L.length ≤ 1000) (k : Nat) (hk : k ≤ 1000) :
    Calls Try.prog 39 #[.slice sp L.length cap, .int .i64 (k : Nat)] w fun e w' => ∃ sp' cap', e = .returned (.slice sp' (lastL L k).length cap') ∧ SI T w' sp' cap' (lastL L k) ∧ Below w.heap.size w w' := by
  obtain ⟨i0, hi, hz0, hz1, hz2⟩ := info_parts infoInt
  have hcap := h.cap
  by_cases hkl : k < L.length
  · obtain ⟨b, o, rfl, hTb⟩ := h.addr (by omega)
    obtain ⟨n, hn⟩ : ∃ n, L.length = n + k := ⟨L.length - k, by omega⟩
    have hlast : lastL L k = L.drop n := by unfold lastL; rw [hn]; congr 1; omega
    have hlen : (lastL L k).length = k := by rw [lastL_len]; omega
    have HH := Lib.hid h
    have HL := Lib.hid hlast
    have HN := Lib.hid hlen
    rw [hlen]
    rw [hn] at hkl hcap hL ⊢
    have d0 : (k : Int) < ((n + k : Nat) : Int) := by omega
    have hHT := Lib.hid hT
    have HO := Lib.hid (own_fresh w w.heap.size 3 1 (Nat.le_refl _))
    have b1 : Below w.heap.size w (w.alloc (.cells #[] 3)) := (Below.refl _ _).alloc (Nat.le_refl _) _
    have HB := Lib.hid b1
    have HC := Lib.hid ((h.new b1).cells n b o rfl)
    have e0 : ((n + k : Nat) : Int) - (k : Int) = (n : Nat) := by omega
    clear h hn hlast hlen hT b1
    have HCC := Lib.hid (show ∀ ad : Addr, (ad = ⟨b, o + n, none⟩ ∨ k = 0) → ∀ j u, (rowI (L.drop n))[j]? = some u → (w.alloc (.cells #[] 3)).cell? (ad.add j) = some u from fun ad hd j u hu => by
      rcases hd with rfl | h0
      · exact HC.out j u hu
      · have := (rowI_at _ _ _ hu).1
        rw [← HL.out, HN.out] at this
        omega)
    have HLEN := Lib.hid (show (rowI (L.drop n)).length = k * 1 from by rw [rowI_len, ← HL.out, HN.out, Nat.mul_one])
    have HEND := Lib.hid (show ∀ v' w1, w1.ownsRow w.heap.size 3 1 v' (0 + k) ([] ++ rowI (L.drop n)) → (w.alloc (.cells #[] 3)).grownBy w1 (Value.slice (some ⟨w.heap.size, 0, none⟩) 0 0).ownBlock → ∃ sp' cap', v' = .slice sp' k cap' ∧ SI T w1 sp' cap' (lastL L k) ∧ Below w.heap.size w w1 from fun v' w1 hown hg => by
      rw [Nat.zero_add, List.nil_append, ← HL.out] at hown
      obtain ⟨sp', cap', rfl⟩ := own_val hown
      exact ⟨sp', cap', rfl, SI.of_own hown HN.out.symm hHT.out, HB.out.trans ((ch_grown hg).below (fun j hj e => by simp [Value.ownBlock] at e; omega) (by rw [size_add]; omega))⟩)
    rcases Nat.eq_zero_or_pos k with rfl | hk0
    · have hn0 : 0 < n := by omega
      clear HC hkl d0
      go_enter Try.func39, Try.ntmps39
      go_wp2_with (at_builtin; refine wpList_append_vary rfl (.tmp 9) (.tmp 15) 25 rfl w.heap.size 3 i0 (.int .i64 0) 1 8 Try.underlying25 hi hz0 hz1 hz2 rfl (by decide) _ 0 [] rfl HO.out _ 0 _ (rowI (L.drop n)) rfl HLEN.out (fun _ => rfl) (fun ad _ => HCC.out ad (.inr rfl)) (rowI_one _) (by unfold maxLen; omega) (by omega) (by rw [size_add]; omega) ?_; intro v' w1 hown' hgrow hat; obtain ⟨sp', cap', rfl, HE⟩ := HEND.out _ _ hown' hgrow; clear hown' hgrow hat)
      all_goals
        go_ret
        exact ⟨_, _, rfl, HE⟩
    · have hcn : ¬ cap = n := by omega
      have hk1 : ¬ k = 0 := by omega
      clear HC
      go_enter Try.func39, Try.ntmps39
      go_wp2_with (at_builtin; refine wpList_append_vary rfl (.tmp 9) (.tmp 15) 25 rfl w.heap.size 3 i0 (.int .i64 0) 1 8 Try.underlying25 hi hz0 hz1 hz2 rfl (by decide) _ 0 [] rfl HO.out _ k _ (rowI (L.drop n)) rfl HLEN.out (fun h => by cases h) (fun ad hd => HCC.out ad (by injection hd with hd; first | exact .inl hd.symm | exact .inr rfl)) (rowI_one _) (by unfold maxLen; omega) (by omega) (by rw [size_add]; omega) ?_; intro v' w1 hown' hgrow hat; obtain ⟨sp', cap', rfl, HE⟩ := HEND.out _ _ hown' hgrow; clear hown' hgrow hat)
      all_goals
        go_ret
        exact ⟨_, _, rfl, HE⟩
  · have hlast : lastL L k = L := by unfold lastL; rw [show L.length - k = 0 by omega]; rfl
    rw [hlast]
    have HH := Lib.hid h
    clear h hlast
    go_enter Try.func39, Try.ntmps39
    go_wp2
    go_ret
    exact ⟨_, _, rfl, HH.out, Below.refl _ _⟩
end Go.Proofs.Ythpagbfabpfngaa
