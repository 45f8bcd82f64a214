/- The contracts of demand's Work of several terms, of the reference's Sum and All, and of the law's Plain. -/
import Derived.Test.YtmaackdfhmpicaaXD
namespace Go.Proofs.Ytmaackdfhmpicaa
open Go.RowKit

theorem dwork_any {w : World} {V : Nat → Prop} {S : Src} {L : List Tm} (h : TermsAt w V S L) (hl : L.length ≤ 1000) (n : Int) :
    Calls Try.prog 54 #[.int .i64 n, .slice S.sp L.length S.c] w fun e w' => e = resOf (L.map (wI n)) ∧ Below w.heap.size w w' := by
  have hmf : ∀ (fn : Fn) (first cap : Array Value) (w : World), (Instr.makeFunc fn first cap).run Try.prog w = .ok (.func fn first cap) w := fun _ _ _ _ => rfl
  obtain ⟨Z, hZ⟩ : ∃ Z, Z = w.heap.size := ⟨_, rfl⟩
  have HS := Lib.hid (show ∀ w2, Below w.heap.size w w2 → RowAt w2 Z 3 #[.int .i64 n] → RowAt w2 (Z + 1) 67 #[.slice S.sp L.length S.c] →
      Calls Try.prog 62 #[.func (.func 63) #[] #[.pointer (some ⟨Z + 1, 0, none⟩), .pointer (some ⟨Z, 0, none⟩)]] w2 fun e w' => e = resOf (L.map (wI n)) ∧ Below w2.heap.size w2 w' from fun w2 hb r0 r1 => by
    refine sum_of 63 _ _ w2 (total_in 63 _ (enters_of Try.func63 (by kernel_rfl) rfl) (L.map (wI n)) w2 ?_)
    intro J Jx W1 _ _ hJ hJ2 _ hR h0
    rw [List.length_map] at hR ⊢
    exact dwork_in _ (Z + 1) Z S.b S.o S.c S.sp L n _ J Jx W1 (by omega) (fun h0 => (h.sl.at_ h0).1) hJ2
      (fun k W' hj => ⟨(r1.new (hJ k W' hj).1).cell 0, (r0.new (hJ k W' hj).1).cell 0⟩)
      (fun k W' hj hk => ((h.new hb).new (hJ k W' hj).1).at_ k hk) hR h0)
  unfold resOf at HS ⊢
  clear h hl
  generalize resN (runS 0 (L.map (wI n))) = rn at HS ⊢
  generalize resB (runS 0 (L.map (wI n))) = rb at HS ⊢
  generalize L.length = N at HS ⊢
  generalize S.sp = sp at HS ⊢
  generalize S.c = c at HS ⊢
  go_enter Try.func54, Try.ntmps54
  go_upto_region 1 with fail
  rw [← hZ]
  generalize hw2 : World.alloc _ _ = w2
  have HB := Lib.hid (show Below w.heap.size w w2 ∧ RowAt w2 Z 3 #[.int .i64 n] ∧ RowAt w2 (Z + 1) 67 #[.slice sp N c] by rw [← hw2, hZ]; exact two_alloc (Below.refl _ _))
  clear hw2 hZ
  go_wp2_with (go_at_call 62; refine (HS.out _ HB.out.1 HB.out.2.1 HB.out.2.2).mono ?_; rintro e w3 ⟨rfl, b3⟩; have H3 := Lib.hid (HB.out.1.trans (b3.mono HB.out.1.size)); clear b3)
  go_ret2
  exact ⟨rfl, H3.out⟩

theorem refsum_any (b off cap : Nat) (sp : Option Addr) (xs : List Int) (w : World)
    (hcap : xs.length ≤ 9223372036854775807) (hsp : 0 < xs.length → sp = some ⟨b, off, none⟩)
    (hcell : ∀ k, k < xs.length → w.cell? ⟨b, off + k, none⟩ = some (.int .i64 (nth xs k))) :
    Calls Try.prog 57 #[.slice sp xs.length cap] w fun e w' => e = resOf xs ∧ w = w' := by
  have HC := Lib.hid hcell
  have HS := Lib.hid hsp
  clear hcell hsp
  go_enter Try.func57, Try.ntmps57
  go_wp2
  go_loop [4, 5] (fun n i => ∃ k : Nat, ∃ s : Int, k ≤ xs.length ∧ i = .int .i64 k ∧ n = .int .i64 s ∧ runS 0 (xs.take k) = some s) (fun _ i => xs.length - (intOf i).toNat)
  case atStart => exact ⟨0, 0, Nat.zero_le _, rfl, rfl, rfl⟩
  case round =>
    obtain ⟨k, s, hk, rfl, rfl, hs⟩ := hrel
    have H2 := Lib.hid hs
    clear hs
    by_cases hlt : k < xs.length
    · have hc := HC.out k hlt
      obtain rfl := HS.out (by omega)
      have ht := take_succ_getD xs k hlt
      have hrun : runS 0 (xs.take (k + 1)) = if addB s (nth xs k) then some (addN s (nth xs k)) else none := by rw [ht, runS_snoc, H2.out]; rfl
      have HR := Lib.hid hrun
      clear hrun ht
      cases hb : addB s (nth xs k)
      · go_wp2_with (go_at_call 59; refine (refadd_any _ _ _).mono ?_; rintro e w' ⟨rfl, rfl⟩)
        go_ret2
        have hr := HR.out
        rw [hb] at hr
        exact ⟨by unfold resOf; rw [runS_take_none hr]; rfl, rfl⟩
      · go_wp2_with (go_at_call 59; refine (refadd_any _ _ _).mono ?_; rintro e w' ⟨rfl, rfl⟩)
        go_round
        case rel => exact ⟨k + 1, addN s (nth xs k), by omega, by go_num, rfl, by rw [HR.out, hb]; rfl⟩
        case measure => simp [intOf]; omega
    · obtain rfl : k = xs.length := by omega
      go_wp2
      go_ret2
      have h2 := H2.out
      rw [List.take_length] at h2
      exact ⟨by unfold resOf; rw [h2]; rfl, rfl⟩

theorem runS_no {xs : List Int} {k : Nat} (hk : k < xs.length) (h : nth xs k = -1) : runS 0 xs = none := by
  cases hs : runS 0 (xs.take k) with
  | none => exact runS_take_none hs
  | some s =>
    refine runS_take_none (k := k + 1) ?_
    rw [take_succ_getD xs k hk, runS_snoc, hs, h]
    have : addB s (-1) = false := by unfold addB; rw [numB_f (a := -1) (by omega)]; simp
    simp [this]
theorem tm_nth (n : Int) (L : List Tm) (k : Nat) (hk : k < L.length) : nth (L.map (wI n)) k = wI n (L.getD k default) := by simp [nth, hk]
theorem take_succ_at {α : Type} [Inhabited α] (l : List α) (k : Nat) (h : k < l.length) : l.take (k + 1) = l.take k ++ [l.getD k default] := by
  rw [List.take_succ_eq_append_getElem h]; simp [h]
theorem cell_one_new (w : World) (x : Value) (t : TypeId) : ∀ (j : Nat) (u : Value), [x][j]? = some u → (w.alloc (.cells #[x] t)).cell? ((⟨w.heap.size, 0, none⟩ : Addr).add j) = some u :=
  World.news_of_block (World.alloc_heap_new w (.cells #[x] t))
set_option maxRecDepth 100000 in
set_option maxHeartbeats 2000000 in
theorem rall_any {w : World} {V : Nat → Prop} {S : Src} {L : List Tm} (h : TermsAt w V S L) (hl : L.length ≤ 1000) (n : Int) :
    Calls Try.prog 46 #[.slice S.sp L.length S.c, .int .i64 n] w fun e w' => e = resOf (L.map (wI n)) ∧ Below w.heap.size w w' := by
  obtain ⟨i0, hi, hz0, hz1, hz2⟩ := info_parts (show (Try.prog.info? 3).map (fun i => (i.zero, i.size, i.bytes)) = some (some (.int .i64 0), 1, 8) from by kernel_rfl)
  have HCell := Lib.hid (fun (k : Nat) (hk : k < L.length) (wx : World) (hb : Below w.heap.size w wx) => (h.new hb).at_ k hk)
  have HSp := Lib.hid (fun (h0 : 0 < L.length) => (h.sl.at_ h0).1)
  have HNth := Lib.hid (tm_nth n L)
  have HTk := Lib.hid (fun (k : Nat) (hk : k < L.length) => take_succ_getD (L.map (wI n)) k (by simpa using hk))
  have HNo := Lib.hid (fun (k : Nat) (hk : k < L.length) (hx : nth (L.map (wI n)) k = -1) => runS_no (xs := L.map (wI n)) (by simpa using hk) hx)
  have HFin := Lib.hid (fun (W : World) (b cap : Nat) (sp : Option Addr) h1 h2 => refsum_any b 0 cap sp (L.map (wI n)) W (by rw [List.length_map]; omega) h1 h2)
  have HLen := Lib.hid (show (L.map (wI n)).length = L.length from List.length_map _)
  obtain ⟨sp, hspn⟩ : ∃ s, S.sp = s := ⟨_, rfl⟩
  obtain ⟨b, hb⟩ : ∃ s, S.b = s := ⟨_, rfl⟩
  obtain ⟨o, ho⟩ : ∃ s, S.o = s := ⟨_, rfl⟩
  obtain ⟨c, hc⟩ : ∃ s, S.c = s := ⟨_, rfl⟩
  obtain ⟨N, hN⟩ : ∃ s, L.length = s := ⟨_, rfl⟩
  obtain ⟨xs, hxs⟩ : ∃ s, L.map (wI n) = s := ⟨_, rfl⟩
  rw [hb, ho, hN] at HCell
  rw [hspn, hb, ho, hN] at HSp
  rw [hN, hxs] at HNth HTk HNo HLen
  rw [hxs] at HFin
  rw [hN] at hl
  rw [hspn, hc, hN, hxs]
  clear h hspn hb ho hc hN hxs
  go_enter Try.func46, Try.ntmps46
  go_wp2
  go_loopg [6, 7] N (fun g v u wr => ∃ k : Nat, k + g = N ∧ u = .int .i64 (k : Nat) ∧ Aside (Below w.heap.size w wr ∧ wr.ownsRow w.heap.size 3 1 v k (rowI (xs.take k))))
  case atStart => exact ⟨0, by omega, rfl, Below.refl _ _, ⟨rfl, .inl ⟨rfl, rfl⟩⟩⟩
  case round =>
    obtain ⟨k, hkg, rfl, HR⟩ := hrel
    cases gk with
    | zero =>
      obtain rfl : k = N := by omega
      obtain ⟨sq, g, cap, rfl, hsp, hc⟩ := own_ints HR.out.2 (by rw [List.length_take]; have := HLen.out; omega)
      have HF := Lib.hid (HFin.out wr g cap sq)
      have HQ := Lib.hid (And.intro hsp hc)
      have ht : xs.take k = xs := List.take_of_length_le (by have := HLen.out; omega)
      rw [ht] at HQ
      have HF2 := Lib.hid (HF.out (fun h0 => (HQ.out.1 (by have := HLen.out; omega)).1) (fun j hj => by rw [Nat.zero_add]; exact HQ.out.2 j (by have := HLen.out; omega)))
      rw [HLen.out] at HF2
      unfold resOf at HF2
      clear hsp hc HF HQ ht HFin
      go_wp2_with (first | (go_at_call 57; refine HF2.out.mono ?_; rintro e w' ⟨rfl, rfl⟩) | fail)
      go_ret2
      exact ⟨rfl, HR.out.1⟩
    | succ g1 =>
      have hk : k < N := by omega
      obtain rfl := HSp.out (by omega)
      have hc := HCell.out k hk wr HR.out.1
      have hna := HNth.out k hk
      have htk := HTk.out k hk
      have hno := HNo.out k hk
      obtain ⟨t, ht⟩ : ∃ t, L.getD k default = t := ⟨_, rfl⟩
      rw [ht] at hc hna
      obtain ⟨P, C, O, K⟩ := t
      have hT := Lib.hid (fun wx => rwork_any P C O K n wx)
      have hna3 : wI n ⟨P, C, O, K⟩ = if workB P C O K n then workN P C O K n else -1 := rfl
      rw [hna3] at hna
      clear hna3
      generalize workN P C O K n = m at hT hna
      generalize workB P C O K n = q at hT hna
      have c0 : wr.cell? ⟨b, o + k * 4, none⟩ = some (.int .i64 P) := hc 0 _ rfl
      have c1 : wr.cell? ⟨b, o + k * 4 + 1, none⟩ = some (.int .i64 C) := hc 1 _ rfl
      have c2 : wr.cell? ⟨b, o + k * 4 + 2, none⟩ = some (.int .i64 O) := hc 2 _ rfl
      have c3 : wr.cell? ⟨b, o + k * 4 + 3, none⟩ = some (.int .i64 K) := hc 3 _ rfl
      have hk2 : (k : Int) < (N : Int) := by omega
      have hk3 : (k : Int) + 1 ≤ 9223372036854775807 := by omega
      cases q with
      | false =>
        have HV := Lib.hid (hno hna)
        clear hc ht hna htk hno
        go_wp2_with (first
          | (go_at_call 56; refine (hT.out _).mono ?_; rintro e w4 ⟨rfl, b4⟩; have H4 := Lib.hid (HR.out.1.trans (b4.mono HR.out.1.size)); clear b4)
          | fail)
        go_ret2
        exact ⟨by unfold resOf; rw [HV.out]; rfl, H4.out⟩
      | true =>
        have HV := Lib.hid (show xs.take (k + 1) = xs.take k ++ [m] by rw [htk, hna]; rfl)
        clear hc ht hna htk hno
        go_wp2_with (first
          | (go_at_call 56; refine (hT.out _).mono ?_; rintro e w4 ⟨rfl, b4⟩; have H4 := Lib.hid (And.intro (HR.out.1.trans (b4.mono HR.out.1.size)) (own_below HR.out.2 b4 (Nat.le_refl _))); clear b4 c0 c1 c2 c3)
          | (at_builtin; refine wpList_append_own _ rfl (.tmp 27) (.tmp 29) 24 rfl w.heap.size 3 i0 (.int .i64 0) 1 8 Try.underlying24 hi hz0 hz1 hz2 rfl Nat.one_pos _ k (rowI (xs.take k)) rfl (H4.out.2.alloc _) ⟨w4.heap.size, 0, none⟩ 1 1 [.int .i64 m] rfl rfl (cell_one_new _ _ _) (by simp [Value.oneCell']) (by unfold maxLen; omega) (by omega) (by rw [World.size_alloc]; exact Nat.le_succ_of_le H4.out.1.size) ?_; intro v1 w5 hown1 hg1 _; have HO := Lib.hid (And.intro (Below.grown (Below.alloc H4.out.1 H4.out.1.size _) hg1 (by rw [World.size_alloc]; exact Nat.le_succ_of_le H4.out.1.size) (fun j e => (H4.out.2.lt j e).1)) hown1); clear hown1 hg1)
          | fail)
        go_roundg g1
        case measure => omega
        case rel => exact ⟨k + 1, by omega, by go_num, HO.out.1, by rw [HV.out, rowI_snoc]; exact HO.out.2⟩
end Go.Proofs.Ytmaackdfhmpicaa
