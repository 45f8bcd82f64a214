/- Maths of ceilings; the contract of law15's Ceiling and of mask's Of. -/
import Derived.Test.YtomdcmdgcnhnmaaDoorYD
import Derived.Test.YtomdcmdgcnhnmaaDoorVH
import Derived.Test.YtomdcmdgcnhnmaaDoorIG
namespace Go.Proofs.YtomdcmdgcnhnmaaDoor
open Go.RowKit

/-- A task of the set that the image has uses a resource. -/
def usesR (x : Img) (s : BitVec 32) (r i : Nat) : Prop := i < 32 ∧ s.getLsbD i = true ∧ i < x.tasks.length ∧ 0 < lonF x i r
theorem tasksL_mem {x : Img} {s : BitVec 32} {i : Nat} : i ∈ tasksL x s ↔ i < 32 ∧ s.getLsbD i = true ∧ i < x.tasks.length := by
  unfold tasksL
  rw [mem_lst]
  constructor
  · rintro ⟨h1, h2⟩
    rw [btw_bit _ _ _ _ h1] at h2
    simp at h2
    exact ⟨h1, h2.1, by omega⟩
  · rintro ⟨h1, h2, h3⟩
    refine ⟨h1, ?_⟩
    rw [btw_bit _ _ _ _ h1]
    simp [h2]
    omega
/-- The least of some numbers, 16 at most. -/
structure Least (v : Int) (p : Nat → Prop) : Prop where
  le : v ≤ 16
  lo : ∀ i, p i → v ≤ (i : Int)
  at_ : v = 16 ∨ ∃ i, p i ∧ v = (i : Int)
theorem Least.uniq {v u : Int} {p : Nat → Prop} (h : Least v p) (g : Least u p) : v = u := by
  have a1 := h.le
  have a2 := g.le
  rcases h.at_ with h1 | ⟨i, hi, h1⟩ <;> rcases g.at_ with g1 | ⟨j, hj, g1⟩
  · omega
  · have := h.lo j hj; omega
  · have := g.lo i hi; omega
  · have := h.lo j hj; have := g.lo i hi; omega
theorem cfK_least (x : Img) (L : List Nat) (r : Nat) (hr : r < 8) : ∀ k, k ≤ L.length → Least (cfK x L k r) (fun i => i ∈ L.take k ∧ 0 < lonF x i r)
  | 0, _ => ⟨Int.le_refl _, fun i h => by simp at h, .inl rfl⟩
  | k + 1, hk => by
    have ih := cfK_least x L r hr k (by omega)
    have e : L.getD k 0 = L[k] := by rw [List.getD_eq_getElem?_getD, List.getElem?_eq_getElem (by omega)]; rfl
    have ht : L.take (k + 1) = L.take k ++ [L[k]] := List.take_succ_eq_append_getElem (by omega)
    have hc : cfK x L (k + 1) r = if r ∈ usesK (lonF x L[k]) 8 then min (cfK x L k r) ((L[k] : Nat) : Int) else cfK x L k r := by
      show tbIn (cfK x L k) (L.getD k 0) (usesK (lonF x (L.getD k 0)) 8) r = _
      rw [e]; rfl
    rw [hc, ht]
    by_cases hu : r ∈ usesK (lonF x L[k]) 8
    · rw [if_pos hu]
      have hp := (usesK_mem.1 hu).2
      refine ⟨by have := ih.le; omega, fun i hi => ?_, ?_⟩
      · rcases List.mem_append.1 hi.1 with h | h
        · have := ih.lo i ⟨h, hi.2⟩; omega
        · simp at h; subst h; omega
      · rcases Int.le_total (cfK x L k r) ((L[k] : Nat) : Int) with h | h
        · rw [Int.min_eq_left h]
          rcases ih.at_ with h1 | ⟨i, hi, h1⟩
          · exact .inl h1
          · exact .inr ⟨i, ⟨List.mem_append.2 (.inl hi.1), hi.2⟩, h1⟩
        · rw [Int.min_eq_right h]
          exact .inr ⟨L[k], ⟨List.mem_append.2 (.inr (by simp)), hp⟩, rfl⟩
    · rw [if_neg hu]
      have hp : ¬ 0 < lonF x L[k] r := fun h => hu (usesK_mem.2 ⟨hr, h⟩)
      refine ⟨ih.le, fun i hi => ?_, ?_⟩
      · rcases List.mem_append.1 hi.1 with h | h
        · exact ih.lo i ⟨h, hi.2⟩
        · simp at h; subst h; exact absurd hi.2 hp
      · rcases ih.at_ with h1 | ⟨i, hi, h1⟩
        · exact .inl h1
        · exact .inr ⟨i, ⟨List.mem_append.2 (.inl hi.1), hi.2⟩, h1⟩
theorem ceilF_least (x : Img) (s : BitVec 32) (r : Nat) (hr : r < 8) : Least (ceilF x s r) (usesR x s r) := by
  have h := cfK_least x (tasksL x s) r hr _ (Nat.le_refl _)
  rw [List.take_length] at h
  have e : ∀ i, (i ∈ tasksL x s ∧ 0 < lonF x i r) ↔ usesR x s r i := fun i => by rw [tasksL_mem]; unfold usesR; constructor <;> (rintro h; simp_all)
  exact ⟨h.le, fun i hi => h.lo i ((e i).2 hi), by
    rcases h.at_ with h1 | ⟨i, hi, h1⟩
    · exact .inl h1
    · exact .inr ⟨i, (e i).1 hi, h1⟩⟩
theorem ceilF_join (x : Img) (a b : BitVec 32) (r : Nat) (hr : r < 8) : min (ceilF x a r) (ceilF x b r) = ceilF x (a ||| b) r := by
  have h1 := ceilF_least x a r hr
  have h2 := ceilF_least x b r hr
  refine Least.uniq (p := usesR x (a ||| b) r) ⟨by have := h1.le; omega, fun i hi => ?_, ?_⟩ (ceilF_least x _ r hr)
  · obtain ⟨i1, i2, i3, i4⟩ := hi
    rw [BitVec.getLsbD_or] at i2
    rcases (Bool.or_eq_true _ _).mp i2 with h | h
    · have := h1.lo i ⟨i1, h, i3, i4⟩; omega
    · have := h2.lo i ⟨i1, h, i3, i4⟩; omega
  · rcases Int.le_total (ceilF x a r) (ceilF x b r) with h | h
    · rw [Int.min_eq_left h]
      rcases h1.at_ with h1 | ⟨i, hi, h1⟩
      · exact .inl h1
      · exact .inr ⟨i, ⟨hi.1, by rw [BitVec.getLsbD_or, hi.2.1]; rfl, hi.2.2.1, hi.2.2.2⟩, h1⟩
    · rw [Int.min_eq_right h]
      rcases h2.at_ with h1 | ⟨i, hi, h1⟩
      · exact .inl h1
      · exact .inr ⟨i, ⟨hi.1, by rw [BitVec.getLsbD_or, hi.2.1]; simp, hi.2.2.1, hi.2.2.2⟩, h1⟩
theorem ceilF_le (x : Img) (s : BitVec 32) (r : Nat) (hr : r < 8) : ceilF x s r ≤ 16 := (ceilF_least x s r hr).le
/-- None of the first so many tasks of the set uses a resource. -/
theorem ceilF_first (x : Img) (s : BitVec 32) (r : Nat) (hr : r < 8) (k : Nat) (hk : k < 16) (hn : ∀ j, j < k → ¬ (s.getLsbD j = true ∧ 0 < lonF x j r)) (h : s.getLsbD k = true) (ht : k < x.tasks.length) (h0 : 0 < lonF x k r) : ceilF x s r = (k : Int) :=
  Least.uniq (ceilF_least x s r hr) ⟨by omega, fun i hi => by
    by_cases e : i < k
    · exact absurd ⟨hi.2.1, hi.2.2.2⟩ (hn i e)
    · omega, .inr ⟨k, ⟨by omega, h, ht, h0⟩, rfl⟩⟩
theorem ceilF_none (x : Img) (s : BitVec 32) (r : Nat) (hr : r < 8) (hn : ∀ j, j < min x.tasks.length 16 → ¬ (s.getLsbD j = true ∧ 0 < lonF x j r)) : ceilF x s r = 16 :=
  Least.uniq (ceilF_least x s r hr) ⟨Int.le_refl _, fun i hi => by
    by_cases e : i < 16
    · exact absurd ⟨hi.2.1, hi.2.2.2⟩ (hn i (by have := hi.2.2.1; omega))
    · omega, .inl rfl⟩
set_option maxHeartbeats 2000000 in
theorem Ceiling_any {w : World} {V : Nat → Prop} {x : Img} {S : ImgS} (h : ImgAt w V x S) (s : BitVec 32) (r : Nat) (hr : r < 8) :
    Calls Tryd.prog 7 #[.agg #[.int .i64 x.res, .slice S.t.sp x.tasks.length S.t.c, .slice S.m.sp x.modes.length S.m.c, .slice S.e.sp x.edges.length S.e.c], .int .u32 (w32 s), .int .i64 (r : Nat)] w fun e w' => e = .returned (.int .i64 (ceilF x s r)) ∧ Below w.heap.size w w' := by
  have HI := Lib.hid h
  have HFi := Lib.hid (fun (k : Nat) (hk : k < 16) (hn) (h) (ht) (h0) => ceilF_first x s r hr k hk hn h ht h0)
  have HNo := Lib.hid (fun hn => ceilF_none x s r hr hn)
  obtain ⟨v, hv⟩ : ∃ v, ceilF x s r = v := ⟨_, rfl⟩
  rw [hv] at HFi HNo ⊢
  obtain ⟨nT, hnT⟩ : ∃ n, x.tasks.length = n := ⟨_, rfl⟩
  obtain ⟨nM, hnM⟩ : ∃ n, x.modes.length = n := ⟨_, rfl⟩
  obtain ⟨nE, hnE⟩ : ∃ n, x.edges.length = n := ⟨_, rfl⟩
  have HN := Lib.hid hnT
  rw [hnT] at HFi HNo
  rw [hnT, hnM, hnE]
  obtain ⟨Z, hZ⟩ : ∃ Z, Z = w.heap.size := ⟨_, rfl⟩
  clear h hv hnT hnM hnE
  have hr8 : (r : Int) < 8 := by omega
  go_enter Tryd.func7, Tryd.ntmps7
  go_upto_region 1 with fail
  rw [← hZ]
  generalize hw2 : World.alloc _ _ = w2
  have H2 := Lib.hid (show Below w.heap.size w w2 ∧ RowAt w2 Z 26 #[.int .i64 x.res, .slice S.t.sp nT S.t.c, .slice S.m.sp nM S.m.c, .slice S.e.sp nE S.e.c] by
    rw [← hw2, hZ]
    exact ⟨(Below.refl _ _).alloc (Nat.le_refl _) _, RowAt.mk _ _ _⟩)
  clear hw2 hZ
  have c1 : w2.cell? ⟨Z, 1, none⟩ = some (.slice S.t.sp nT S.t.c) := H2.out.2.cell 1
  go_wp2
  go_loopg [7] (min nT 16) (fun g v wr => ∃ k : Nat, k + g = min nT 16 ∧ v = .int .i64 (k : Nat) ∧ Aside (w2 = wr ∧ ∀ j, j < k → ¬ (s.getLsbD j = true ∧ 0 < lonF x j r)))
  case atStart => exact ⟨0, by omega, rfl, rfl, fun j hj => absurd hj (Nat.not_lt_zero j)⟩
  case round =>
    obtain ⟨k, hkg, rfl, HQ⟩ := hrel
    obtain ⟨rfl, hq⟩ := HQ.out
    have HQ2 := Lib.hid hq
    clear HQ hq
    cases gk with
    | zero =>
      have hk : k = min nT 16 := by omega
      have HE := Lib.hid (HNo.out (by rw [← hk]; exact HQ2.out))
      by_cases h1 : nT ≤ 16
      · obtain rfl : k = nT := by omega
        have e1 : ¬ (k : Int) < (k : Int) := by omega
        clear hk
        go_wp2
        go_ret
        exact ⟨by rw [HE.out]; rfl, H2.out.1⟩
      · obtain rfl : k = 16 := by omega
        have e1 : (16 : Int) < (nT : Int) := by omega
        clear hk
        go_wp2
        go_ret
        exact ⟨by rw [HE.out]; rfl, H2.out.1⟩
    | succ g1 =>
      have hk : k < nT := by omega
      have hk16 : k < 16 := by omega
      have HH := Lib.hid (has10_any s (k : Int) w2)
      rw [hasB_nat s k (by omega)] at HH
      have HI2 := Lib.hid (HI.out.new H2.out.1)
      obtain ⟨hsp, -, -⟩ := HI2.out.st.at_ (by rw [HN.out]; omega)
      obtain ⟨hcs, h8⟩ := HI2.out.tk k (by rw [HN.out]; exact hk)
      have q := hcs (3 + r) _ (lon_at h8 r hr)
      rw [hsp] at c1
      rw [show S.t.o + k * 11 + (3 + r) = S.t.o + k * 11 + 3 + r by omega] at q
      have e1 : (k : Int) < (nT : Int) := by omega
      have e2 : (k : Int) < 16 := by omega
      have e3 : (k : Int) + 1 ≤ 16 := by omega
      have HF := Lib.hid (fun (h1 : s.getLsbD k = true) (h2 : 0 < lonF x k r) => HFi.out k hk16 HQ2.out h1 hk h2)
      have HK := Lib.hid (fun (h1 : ¬ (s.getLsbD k = true ∧ 0 < lonF x k r)) => show ∀ j, j < k + 1 → ¬ (s.getLsbD j = true ∧ 0 < lonF x j r) from fun j hj => by
        rcases Nat.lt_or_ge j k with h2 | h2
        · exact HQ2.out j h2
        · obtain rfl : j = k := by omega
          exact h1)
      obtain ⟨a, ha⟩ : ∃ a, lonF x k r = a := ⟨_, rfl⟩
      obtain ⟨bb, hbb⟩ : ∃ b, s.getLsbD k = b := ⟨_, rfl⟩
      rw [ha] at q HF HK
      rw [hbb] at HH HF HK
      clear ha hbb hcs h8 hsp HI2
      cases bb with
      | true =>
        by_cases hp : 0 < a
        · have HE := Lib.hid (HF.out rfl hp)
          go_wp2_with (go_at_call 19; refine HH.out.mono ?_; rintro e w' ⟨rfl, rfl⟩; clear HH)
          go_ret
          exact ⟨by rw [HE.out]; rfl, H2.out.1⟩
        · go_wp2_with (go_at_call 19; refine HH.out.mono ?_; rintro e w' ⟨rfl, rfl⟩; clear HH)
          go_roundg g1
          case measure => omega
          case rel => exact ⟨k + 1, by omega, by go_num, rfl, HK.out (fun h => absurd h.2 (by omega))⟩
      | false =>
        go_wp2_with (go_at_call 19; refine HH.out.mono ?_; rintro e w' ⟨rfl, rfl⟩; clear HH)
        go_roundg g1
        case measure => omega
        case rel => exact ⟨k + 1, by omega, by go_num, rfl, HK.out (fun h => by cases h.1)⟩
set_option maxHeartbeats 1000000 in
theorem mOf_any (sp : Option Addr) (b off cap : Nat) (l : List Int) (w : World) (hl : l.length ≤ 9223372036854775807) (h : Lies w sp b off l) :
    Calls Tryd.prog 21 #[.slice sp l.length cap] w fun e w' => e = .returned (.int .u32 (w32 (ofL l))) ∧ w = w' := by
  have HL := Lib.hid h
  have HO := Lib.hid (show ofL l = (l.take l.length).foldl (fun s n => s ||| onl n) 0#32 by rw [List.take_length]; rfl)
  obtain ⟨o, ho⟩ : ∃ o, ofL l = o := ⟨_, rfl⟩
  rw [ho] at HO ⊢
  obtain ⟨n, hn⟩ : ∃ n, l.length = n := ⟨_, rfl⟩
  rw [hn] at HO hl ⊢
  have HN := Lib.hid hn
  clear h ho hn
  go_enter Tryd.func21, Tryd.ntmps21
  go_wp2
  go_loopg [3, 8] n (fun g v i wr => ∃ (k : Nat), k + g = n ∧ i = .int .i64 (k : Nat) ∧ v = .int .u32 (w32 ((l.take k).foldl (fun s n => s ||| onl n) 0#32)) ∧ Aside (w = wr))
  case atStart => exact ⟨0, by omega, rfl, rfl, rfl⟩
  case round =>
    obtain ⟨k, hkg, rfl, rfl, hw⟩ := hrel
    obtain rfl := hw.out
    clear hw
    cases gk with
    | zero =>
      obtain rfl : k = n := by omega
      rw [← HO.out]
      go_wp2
      go_ret
      exact ⟨rfl, rfl⟩
    | succ g1 =>
      have hlt : k < l.length := by rw [HN.out]; omega
      obtain ⟨rfl, hbl⟩ := HL.out.1 (by omega)
      have hc := HL.out.2 k hlt
      have ht := take_succ_nth l k hlt
      have hk2 : (k : Int) < (n : Int) := by omega
      obtain ⟨y, hy⟩ : ∃ y, nth l k = y := ⟨_, rfl⟩
      rw [hy] at hc ht
      have HT := Lib.hid ht
      obtain ⟨z, hz⟩ : ∃ z, (l.take k).foldl (fun s n => s ||| onl n) 0#32 = z := ⟨_, rfl⟩
      rw [hz]
      have HZ := Lib.hid hz
      have HW := Lib.hid (fun wx => with_any z y wx)
      clear ht hy hz hlt
      go_wp2_with (go_at_call 10; refine (HW.out _).mono ?_; rintro e w' ⟨rfl, rfl⟩)
      go_roundg g1
      case measure => omega
      case rel => exact ⟨k + 1, by omega, by go_num, by rw [HT.out, List.foldl_append, HZ.out]; rfl, rfl⟩
end Go.Proofs.YtomdcmdgcnhnmaaDoor
