/- The contract of the law's Plain; the walks of DemandWorks and DemandComes. -/
import Derived.Test.YtcipkkeegbfaeaaXE
namespace Go.Proofs.Ytcipkkeegbfaeaa
open Go.RowKit

theorem flat_at (n : Nat) : ∀ (M : List (List Value)), (∀ r ∈ M, r.length = n) → ∀ (k j : Nat), k < M.length → j < n → M.flatten[k * n + j]? = (M.getD k [])[j]? := by
  intro M
  induction M with
  | nil => intro _ k j hk; simp at hk
  | cons r M ih =>
    intro hr k j hk hj
    have hrl := hr r (by simp)
    cases k with
    | zero =>
      rw [List.flatten_cons, Nat.zero_mul, Nat.zero_add, List.getElem?_append_left (by omega)]
      rfl
    | succ k =>
      rw [List.flatten_cons, List.getElem?_append_right (by rw [hrl, Nat.succ_mul]; omega), hrl, show (k + 1) * n + j - n = k * n + j by rw [Nat.succ_mul]; omega, ih (fun s hs => hr s (by simp [hs])) k j (by simpa using hk) hj]
      rfl
def tmRow (L : List Tm) : List Value := (L.map tmC).flatten
theorem tmRow_at (L : List Tm) (k j : Nat) (hk : k < L.length) (hj : j < 4) : (tmRow L)[k * 4 + j]? = (tmC (L.getD k default))[j]? := by
  unfold tmRow
  rw [flat_at 4 _ (by intro r hr; obtain ⟨t, -, rfl⟩ := List.mem_map.1 hr; rfl) k j (by simpa using hk) hj]
  simp [hk]
theorem tmRow_snoc (L : List Tm) (t : Tm) : tmRow (L ++ [t]) = tmRow L ++ tmC t := by simp [tmRow]
/-- An owned row of terms, as a slice. -/
theorem own_terms {w : World} {base : Nat} {v : Value} {L : List Tm} {e : TypeId} (h : w.ownsRow base e 4 v L.length (tmRow L)) (hn : L.length ≤ 1000) :
    ∃ S : Src, v = .slice S.sp L.length S.c ∧ TermsAt w (fun j => j < base) S L := by
  rcases h.2 with ⟨rfl, h0⟩ | ⟨g, cap, cur, rfl, _⟩
  · exact ⟨⟨none, 0, 0, 0⟩, by rw [h0], ⟨⟨fun h1 => by omega, by omega⟩, fun k hk => by omega⟩⟩
  · have hl := h.lt g rfl
    refine ⟨⟨some ⟨g, 0, none⟩, g, 0, cap⟩, rfl, ⟨fun _ => ⟨rfl, hl.2, Nat.not_lt.2 hl.1⟩, by omega⟩, fun k hk j u hu => ?_⟩
    have hj : j < 4 := by have := (List.getElem?_eq_some_iff.1 hu).1; simpa [tmC] using this
    have hr := tmRow_at L k j hk hj
    rw [hu] at hr
    have hlen : (tmRow L).length = L.length * 4 := h.1
    have := h.cellAt (k * 4 + j) (by omega)
    rw [Nat.zero_add]
    exact this.trans hr
set_option maxRecDepth 100000 in
set_option maxHeartbeats 2000000 in
theorem plain_any {w : World} {V : Nat → Prop} {S : Src} {L : List Tm} (h : TermsAt w V S L) (hl : L.length ≤ 1000) :
    Calls Try.prog 21 #[.slice S.sp L.length S.c] w fun e w' => ∃ S' : Src, e = .returned (.slice S'.sp L.length S'.c) ∧ TermsAt w' (fun j => j < w.heap.size) S' L ∧ Below w.heap.size w w' := by
  obtain ⟨i0, hi, hz0, hz1, hz2⟩ := info_parts (show (Try.prog.info? 55).map (fun i => (i.zero, i.size, i.bytes)) = some (some (.agg #[.int .i64 0, .int .i64 0, .int .i64 0, .int .i64 0]), 4, 32) from by kernel_rfl)
  have HCell := Lib.hid (fun (k : Nat) (hk : k < L.length) (wx : World) (hb : Below w.heap.size w wx) => (h.new hb).at_ k hk)
  have HSp := Lib.hid (fun (h0 : 0 < L.length) => (⟨(h.sl.at_ h0).1, (h.sl.at_ h0).2.1⟩ : _ ∧ _))
  have HTk := Lib.hid (fun (k : Nat) (hk : k < L.length) => take_succ_at L k hk)
  have HFin := Lib.hid (fun (W : World) (v : Value) (h : W.ownsRow w.heap.size 55 4 v L.length (tmRow L)) => own_terms h hl)
  have HLen := Lib.hid (show ∀ k, k ≤ L.length → (L.take k).length = k from fun k hk => by rw [List.length_take]; omega)
  obtain ⟨sp, hspn⟩ : ∃ s, S.sp = s := ⟨_, rfl⟩
  obtain ⟨b, hb⟩ : ∃ s, S.b = s := ⟨_, rfl⟩
  obtain ⟨o, ho⟩ : ∃ s, S.o = s := ⟨_, rfl⟩
  obtain ⟨c, hc⟩ : ∃ s, S.c = s := ⟨_, rfl⟩
  obtain ⟨N, hN⟩ : ∃ s, L.length = s := ⟨_, rfl⟩
  have HN := Lib.hid hN
  rw [hb, ho, hN] at HCell
  rw [hspn, hb, ho, hN] at HSp
  rw [hN] at HTk HLen HFin
  rw [hN] at hl
  rw [hspn, hc, hN]
  clear h hspn hb ho hc hN
  go_enter Try.func21, Try.ntmps21
  go_wp2
  go_loopg [3, 4] N (fun g v u wr => ∃ k : Nat, k + g = N ∧ u = .int .i64 (k : Nat) ∧ Aside (Below w.heap.size w wr ∧ wr.ownsRow w.heap.size 55 4 v k (tmRow (L.take k))))
  case atStart => exact ⟨0, by omega, rfl, Below.refl _ _, ⟨rfl, .inl ⟨rfl, rfl⟩⟩⟩
  case round =>
    obtain ⟨k, hkg, rfl, HR⟩ := hrel
    cases gk with
    | zero =>
      obtain rfl : k = N := by omega
      have ht : L.take k = L := List.take_of_length_le (by have := HN.out; omega)
      rw [ht] at HR
      obtain ⟨S', rfl, hT⟩ := HFin.out _ _ HR.out.2
      have HT := Lib.hid hT
      clear hT ht
      go_wp2
      go_ret
      exact ⟨S', rfl, HT.out, HR.out.1⟩
    | succ g1 =>
      have hk : k < N := by omega
      obtain ⟨rfl, hbl⟩ := HSp.out (by omega)
      have hc := HCell.out k hk wr HR.out.1
      have htk := HTk.out k hk
      obtain ⟨t, ht⟩ : ∃ t, L.getD k default = t := ⟨_, rfl⟩
      rw [ht] at hc htk
      obtain ⟨P, C, O, K⟩ := t
      have c0 : wr.cell? ⟨b, o + k * 4, none⟩ = some (.int .i64 P) := hc 0 _ rfl
      have c1 : wr.cell? ⟨b, o + k * 4 + 1, none⟩ = some (.int .i64 C) := hc 1 _ rfl
      have c2 : wr.cell? ⟨b, o + k * 4 + 2, none⟩ = some (.int .i64 O) := hc 2 _ rfl
      have c3 : wr.cell? ⟨b, o + k * 4 + 3, none⟩ = some (.int .i64 K) := hc 3 _ rfl
      have HV := Lib.hid (show tmRow (L.take (k + 1)) = tmRow (L.take k) ++ [.int .i64 P, .int .i64 C, .int .i64 O, .int .i64 K] by rw [htk, tmRow_snoc]; rfl)
      have HCC := Lib.hid (fun (wx : World) (hb : Below w.heap.size w wx) => show wx.cell? ⟨b, o + k * 4, none⟩ = some (.int .i64 P) ∧ wx.cell? ⟨b, o + k * 4 + 1, none⟩ = some (.int .i64 C) ∧ wx.cell? ⟨b, o + k * 4 + 2, none⟩ = some (.int .i64 O) ∧ wx.cell? ⟨b, o + k * 4 + 3, none⟩ = some (.int .i64 K) from by
        have h0 := HCell.out k hk wx hb
        rw [ht] at h0
        exact ⟨h0 0 _ rfl, h0 1 _ rfl, h0 2 _ rfl, h0 3 _ rfl⟩)
      have hk2 : (k : Int) < (N : Int) := by omega
      have hk3 : (k : Int) + 1 ≤ 9223372036854775807 := by omega
      have H63 := Lib.hid (show k + 1 ≤ maxLen ∧ (k + 1) * 32 ≤ 140737488355328 by unfold maxLen; omega)
      have HN1 := Lib.hid (fun o => World.ownsRow.alloc (w := wr.drew) HR.out.2 o)
      have HL := Lib.hid (show w.heap.size ≤ (wr.drew.alloc (.cells #[.int .i64 P, .int .i64 C, .int .i64 O, .int .i64 K] 55)).heap.size by rw [World.size_alloc]; exact Nat.le_succ_of_le HR.out.1.size)
      have HKK := Lib.hid (show ∀ j u, [.int .i64 P, .int .i64 C, .int .i64 O, .int .i64 K][j]? = some u → (wr.drew.alloc (.cells #[.int .i64 P, .int .i64 C, .int .i64 O, .int .i64 K] 55)).cell? ((⟨wr.heap.size, 0, none⟩ : Addr).add j) = some u from World.news_of_block (World.alloc_heap_new wr.drew (.cells #[.int .i64 P, .int .i64 C, .int .i64 O, .int .i64 K] 55)))
      have HG := Lib.hid (fun (w1 : World) (hg : World.grownBy (wr.drew.alloc (.cells #[.int .i64 P, .int .i64 C, .int .i64 O, .int .i64 K] 55)) w1 u3.ownBlock) =>
        Below.grown (Below.alloc (B := w.heap.size) (a := w) (w := wr.drew) ⟨HR.out.1.os, HR.out.1.tape, HR.out.1.output, HR.out.1.size, HR.out.1.block⟩ HR.out.1.size _) hg HL.out (fun j e => (HR.out.2.lt j e).1))
      clear hc ht htk HCell HSp HTk HFin
      go_wp2
      go_region_held3 (fun w' => w'.cell? ⟨b, o + k * 4, none⟩ = some (.int .i64 P) ∧ w'.cell? ⟨b, o + k * 4 + 1, none⟩ = some (.int .i64 C) ∧ w'.cell? ⟨b, o + k * 4 + 2, none⟩ = some (.int .i64 O) ∧ w'.cell? ⟨b, o + k * 4 + 3, none⟩ = some (.int .i64 K)) (first | exact hcn | go_keep)
        (first
          | (refine step_append_lies _ rfl (.tmp 11) (.tmp 33) 48 rfl w.heap.size 55 i0 (.agg #[.int .i64 0, .int .i64 0, .int .i64 0, .int .i64 0]) 4 32 Try.underlying48 hi hz0 hz1 hz2 rfl (by decide) _ k (tmRow (L.take k)) rfl (HN1.out _) ⟨wr.heap.size, 0, none⟩ 1 1 [.int .i64 P, .int .i64 C, .int .i64 O, .int .i64 K] rfl rfl HKK.out (by simp [Value.oneCell']) Nat.one_pos H63.out.1 H63.out.2 HL.out _ rfl ?_; intro g cap w1 hown1 hgrow hat hlt1; have hBn : Below w.heap.size w w1 := HG.out _ hgrow; have hcn := HCC.out w1 hBn))
      have HO := Lib.hid hown1
      clear hown1 hgrow hat hcn
      go_wp2
      go_roundg g1
      case measure => omega
      case rel => exact ⟨k + 1, by omega, by go_num, hBn, by rw [HV.out]; exact HO.out⟩
set_option maxRecDepth 100000 in
set_option maxHeartbeats 4000000 in
theorem law_works {w : World} {V : Nat → Prop} {S : Src} {L : List Tm} (h : TermsAt w V S L) (n : Int) :
    Calls Try.prog 5 #[.int .i64 n, .slice S.sp L.length S.c] w fun e w' => e = .returned (.bool true) ∧ Below w.heap.size w w' := by
  by_cases hl : L.length ≤ 100
  case neg =>
    obtain ⟨N, hN⟩ : ∃ s, L.length = s := ⟨_, rfl⟩
    rw [hN] at hl ⊢
    have hl2 : (100 : Int) < (N : Int) := by omega
    clear h hN
    go_enter Try.func5, Try.ntmps5
    go_wp2
    go_ret
    exact ⟨rfl, Below.refl _ _⟩
  have HP := Lib.hid (plain_any h (by omega))
  have HW := Lib.hid (fun (wx : World) (hb : Below w.heap.size w wx) => dwork_any (h.new hb) (by omega) n)
  have HA := Lib.hid (fun (wx : World) (S' : Src) (V' : Nat → Prop) (h' : TermsAt wx V' S' L) => rall_any h' (by omega) n)
  have HCell := Lib.hid (fun (k : Nat) (hk : k < L.length) (wx : World) (hb : Below w.heap.size w wx) => (h.new hb).at_ k hk)
  have HSp := Lib.hid (fun (h0 : 0 < L.length) => (h.sl.at_ h0).1)
  obtain ⟨sp, hspn⟩ : ∃ s, S.sp = s := ⟨_, rfl⟩
  obtain ⟨b, hb⟩ : ∃ s, S.b = s := ⟨_, rfl⟩
  obtain ⟨o, ho⟩ : ∃ s, S.o = s := ⟨_, rfl⟩
  obtain ⟨c, hc⟩ : ∃ s, S.c = s := ⟨_, rfl⟩
  obtain ⟨N, hN⟩ : ∃ s, L.length = s := ⟨_, rfl⟩
  have HN := Lib.hid hN
  have hx : ∃ r, resOf (L.map (wI n)) = .returned (.tuple #[.int .i64 (resN (runS 0 (L.map (wI n)))), .bool r]) := ⟨_, rfl⟩
  obtain ⟨xs, hxs⟩ : ∃ s, L.map (wI n) = s := ⟨_, rfl⟩
  rw [hxs] at HW HA
  unfold resOf at HW HA
  generalize resN (runS 0 xs) = rn at HW HA
  generalize resB (runS 0 xs) = rb at HW HA
  rw [hb, ho, hN] at HCell
  rw [hspn, hb, ho, hN] at HSp
  rw [hspn, hc, hN] at HP HW
  rw [hN] at HA hl
  rw [hspn, hc, hN]
  clear h hspn hb ho hc hN hx hxs
  have hl2 : ¬ (100 : Int) < (N : Int) := by omega
  go_enter Try.func5, Try.ntmps5
  go_wp2_with (first
    | (go_at_call 21; refine HP.out.mono ?_; rintro e w1 ⟨S', rfl, hS', hb1⟩; have H1 := Lib.hid (And.intro hS' hb1); clear hS' hb1 HP)
    | fail)
  obtain ⟨sp', b', o', c'⟩ := S'
  have HSp' := Lib.hid (fun (h0 : 0 < N) => show sp' = some ⟨b', o', none⟩ from (H1.out.1.sl.at_ (by have := HN.out; omega)).1)
  have HC' := Lib.hid (fun (k : Nat) (hk : k < N) (wx : World) (hb : Below w1.heap.size w1 wx) => show At wx b' (o' + k * 4) (tmC (L.getD k default)) from (H1.out.1.new hb).at_ k (by have := HN.out; omega))
  dsimp only
  go_loopg [6] N (fun g u wr => ∃ k : Nat, k + g = N ∧ u = .int .i64 (k : Nat) ∧ Aside (Below w1.heap.size w1 wr))
  case atStart => exact ⟨0, by omega, rfl, Below.refl _ _⟩
  case round =>
    obtain ⟨k, hkg, rfl, HR⟩ := hrel
    have HB := Lib.hid (H1.out.2.trans (HR.out.mono H1.out.2.size))
    cases gk with
    | zero =>
      obtain rfl : k = N := by omega
      have HW1 := HW.out wr HB.out
      have HA1 := Lib.hid (show ∀ wx, Below wr.heap.size wr wx → _ from fun wx hb => HA.out wx _ _ ((H1.out.1.new HR.out).new hb))
      dsimp only at HA1
      have HW2 := Lib.hid HW1
      clear HW1 HW HA HCell HSp HSp' HC'
      go_wp2_with (first
        | (go_at_call 24; refine HW2.out.mono ?_; rintro e w4 ⟨rfl, b4⟩; have H4 := Lib.hid b4; clear b4)
        | (go_at_call 25; refine (HA1.out _ H4.out).mono ?_; rintro e w5 ⟨rfl, b5⟩; have H5 := Lib.hid (HB.out.trans ((H4.out.trans (b5.mono H4.out.size)).mono HB.out.size)); clear b5)
        | (go_at_call 26; refine (l16alive_any _).mono ?_; rintro e w6 ⟨rfl, b6⟩; have H6 := Lib.hid (H5.out.trans (b6.mono H5.out.size)); clear b6)
        | fail)
      go_ret
      exact ⟨by simp, H6.out⟩
    | succ g1 =>
      have hk : k < N := by omega
      obtain rfl := HSp.out (by omega)
      obtain rfl := HSp'.out (by omega)
      have hc := HCell.out k hk wr HB.out
      obtain ⟨t, ht⟩ : ∃ t, L.getD k default = t := ⟨_, rfl⟩
      have HCk := Lib.hid (HC'.out k hk)
      rw [ht] at hc HCk
      obtain ⟨P, C, O, K⟩ := t
      have hT := Lib.hid (fun wx => twork_any P C O K n wx)
      have hT' := Lib.hid (fun wx => rwork_any P C O K n wx)
      generalize workN P C O K n = m at hT hT'
      generalize workB P C O K n = q at hT hT'
      have c0 : wr.cell? ⟨b, o + k * 4, none⟩ = some (.int .i64 P) := hc 0 _ rfl
      have c1 : wr.cell? ⟨b, o + k * 4 + 1, none⟩ = some (.int .i64 C) := hc 1 _ rfl
      have c2 : wr.cell? ⟨b, o + k * 4 + 2, none⟩ = some (.int .i64 O) := hc 2 _ rfl
      have c3 : wr.cell? ⟨b, o + k * 4 + 3, none⟩ = some (.int .i64 K) := hc 3 _ rfl
      have hk2 : (k : Int) < (N : Int) := by omega
      have hk3 : (k : Int) + 1 ≤ 9223372036854775807 := by omega
      have hmm : ((m : Int) != m) = false := by simp
      have hqq : (q != q) = false := by simp
      clear hc ht HCell HSp HSp' HC' HW HA
      go_wp2_with (first
        | (go_at_call 22; refine (hT.out _).mono ?_; rintro e w4 ⟨rfl, b4⟩; have H4 := Lib.hid (HR.out.trans (b4.mono HR.out.size)); clear b4 c0 c1 c2 c3 hT; have c0 : w4.cell? ⟨b', o' + k * 4, none⟩ = some (.int .i64 P) := HCk.out _ H4.out 0 _ rfl; have c1 : w4.cell? ⟨b', o' + k * 4 + 1, none⟩ = some (.int .i64 C) := HCk.out _ H4.out 1 _ rfl; have c2 : w4.cell? ⟨b', o' + k * 4 + 2, none⟩ = some (.int .i64 O) := HCk.out _ H4.out 2 _ rfl; have c3 : w4.cell? ⟨b', o' + k * 4 + 3, none⟩ = some (.int .i64 K) := HCk.out _ H4.out 3 _ rfl)
        | (go_at_call 23; refine (hT'.out _).mono ?_; rintro e w5 ⟨rfl, b5⟩; have H5 := Lib.hid (H4.out.trans (b5.mono H4.out.size)); clear b5 c0 c1 c2 c3)
        | fail)
      go_roundg g1
      case measure => omega
      case rel => exact ⟨k + 1, by omega, by go_num, H5.out⟩
end Go.Proofs.Ytcipkkeegbfaeaa
