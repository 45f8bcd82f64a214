/- The contract of the law's Plain; the walks of DemandWorks and DemandComes. -/
import Derived.Test.YtjgnclhkoncnkaaXE
namespace Go.Proofs.Ytjgnclhkoncnkaa
open Go.RowKit

def tmRow (L : List Tm) : List Value := (L.map tmC).flatten
theorem tmRow_at (L : List Tm) (k j : Nat) (hk : k < L.length) (hj : j < 4) : (tmRow L)[k * 4 + j]? = (tmC (L.getD k default))[j]? := by
  unfold tmRow
  rw [flat_at 4 _ (by intro r hr; obtain ⟨t, -, rfl⟩ := List.mem_map.1 hr; rfl) k j (by simpa using hk) hj]
  simp [hk]
theorem tmRow_snoc (L : List Tm) (t : Tm) : tmRow (L ++ [t]) = tmRow L ++ tmC t := by simp [tmRow]
/-- An owned row of terms, as a slice. -/
theorem own_terms {w : World} {base : Nat} {v : Value} {L : List Tm} {e : TypeId} (h : w.ownsRow base e 4 v L.length (tmRow L)) (hn : L.length ≤ 1000) :
    ∃ S : Src, v = .slice S.sp L.length S.c ∧ TermsAt w (fun j => j < base) S L := by
  rcases h.2 with ⟨rfl, h0⟩ | ⟨g, cap, cur, rfl, _⟩
  · exact ⟨⟨none, 0, 0, 0⟩, by rw [h0], ⟨⟨fun h1 => by omega, by omega⟩, fun k hk => by omega⟩⟩
  · have hl := h.lt g rfl
    refine ⟨⟨some ⟨g, 0, none⟩, g, 0, cap⟩, rfl, ⟨fun _ => ⟨rfl, hl.2, Nat.not_lt.2 hl.1⟩, by omega⟩, fun k hk j u hu => ?_⟩
    have hj : j < 4 := by have := (List.getElem?_eq_some_iff.1 hu).1; simpa [tmC] using this
    have hr := tmRow_at L k j hk hj
    rw [hu] at hr
    have hlen : (tmRow L).length = L.length * 4 := h.1
    have := h.cellAt (k * 4 + j) (by omega)
    rw [Nat.zero_add]
    exact this.trans hr
set_option maxRecDepth 100000 in
set_option maxHeartbeats 2000000 in
theorem plain_any {w : World} {V : Nat → Prop} {S : Src} {L : List Tm} (h : TermsAt w V S L) (hl : L.length ≤ 1000) :
    Calls Try.prog 12 #[.slice S.sp L.length S.c] w fun e w' => ∃ S' : Src, e = .returned (.slice S'.sp L.length S'.c) ∧ TermsAt w' (fun j => j < w.heap.size) S' L ∧ Below w.heap.size w w' := by
  obtain ⟨i0, hi, hz0, hz1, hz2⟩ := info_parts (show (Try.prog.info? 81).map (fun i => (i.zero, i.size, i.bytes)) = some (some (.agg #[.int .i64 0, .int .i64 0, .int .i64 0, .int .i64 0]), 4, 32) from by kernel_rfl)
  have HCell := Lib.hid (fun (k : Nat) (hk : k < L.length) (wx : World) (hb : Below w.heap.size w wx) => (h.new hb).at_ k hk)
  have HSp := Lib.hid (fun (h0 : 0 < L.length) => (⟨(h.sl.at_ h0).1, (h.sl.at_ h0).2.1⟩ : _ ∧ _))
  have HTk := Lib.hid (fun (k : Nat) (hk : k < L.length) => take_succ_at L k hk)
  have HFin := Lib.hid (fun (W : World) (v : Value) (h : W.ownsRow w.heap.size 81 4 v L.length (tmRow L)) => own_terms h hl)
  have HLen := Lib.hid (show ∀ k, k ≤ L.length → (L.take k).length = k from fun k hk => by rw [List.length_take]; omega)
  obtain ⟨sp, hspn⟩ : ∃ s, S.sp = s := ⟨_, rfl⟩
  obtain ⟨b, hb⟩ : ∃ s, S.b = s := ⟨_, rfl⟩
  obtain ⟨o, ho⟩ : ∃ s, S.o = s := ⟨_, rfl⟩
  obtain ⟨c, hc⟩ : ∃ s, S.c = s := ⟨_, rfl⟩
  obtain ⟨N, hN⟩ : ∃ s, L.length = s := ⟨_, rfl⟩
  have HN := Lib.hid hN
  rw [hb, ho, hN] at HCell
  rw [hspn, hb, ho, hN] at HSp
  rw [hN] at HTk HLen HFin
  rw [hN] at hl
  rw [hspn, hc, hN]
  clear h hspn hb ho hc hN
  go_enter Try.func12, Try.ntmps12
  go_wp2
  go_loopg [3, 4] N (fun g v u wr => ∃ k : Nat, k + g = N ∧ u = .int .i64 (k : Nat) ∧ Aside (Below w.heap.size w wr ∧ wr.ownsRow w.heap.size 81 4 v k (tmRow (L.take k))))
  case atStart => exact ⟨0, by omega, rfl, Below.refl _ _, ⟨rfl, .inl ⟨rfl, rfl⟩⟩⟩
  case round =>
    obtain ⟨k, hkg, rfl, HR⟩ := hrel
    cases gk with
    | zero =>
      obtain rfl : k = N := by omega
      have ht : L.take k = L := List.take_of_length_le (by have := HN.out; omega)
      rw [ht] at HR
      obtain ⟨S', rfl, hT⟩ := HFin.out _ _ HR.out.2
      have HT := Lib.hid hT
      clear hT ht
      go_wp2
      go_ret
      exact ⟨S', rfl, HT.out, HR.out.1⟩
    | succ g1 =>
      have hk : k < N := by omega
      obtain ⟨rfl, hbl⟩ := HSp.out (by omega)
      have hc := HCell.out k hk wr HR.out.1
      have htk := HTk.out k hk
      obtain ⟨t, ht⟩ : ∃ t, L.getD k default = t := ⟨_, rfl⟩
      rw [ht] at hc htk
      obtain ⟨P, C, O, K⟩ := t
      have c0 : wr.cell? ⟨b, o + k * 4, none⟩ = some (.int .i64 P) := hc 0 _ rfl
      have c1 : wr.cell? ⟨b, o + k * 4 + 1, none⟩ = some (.int .i64 C) := hc 1 _ rfl
      have c2 : wr.cell? ⟨b, o + k * 4 + 2, none⟩ = some (.int .i64 O) := hc 2 _ rfl
      have c3 : wr.cell? ⟨b, o + k * 4 + 3, none⟩ = some (.int .i64 K) := hc 3 _ rfl
      have HV := Lib.hid (show tmRow (L.take (k + 1)) = tmRow (L.take k) ++ [.int .i64 P, .int .i64 C, .int .i64 O, .int .i64 K] by rw [htk, tmRow_snoc]; rfl)
      have HCC := Lib.hid (fun (wx : World) (hb : Below w.heap.size w wx) => show wx.cell? ⟨b, o + k * 4, none⟩ = some (.int .i64 P) ∧ wx.cell? ⟨b, o + k * 4 + 1, none⟩ = some (.int .i64 C) ∧ wx.cell? ⟨b, o + k * 4 + 2, none⟩ = some (.int .i64 O) ∧ wx.cell? ⟨b, o + k * 4 + 3, none⟩ = some (.int .i64 K) from by
        have h0 := HCell.out k hk wx hb
        rw [ht] at h0
        exact ⟨h0 0 _ rfl, h0 1 _ rfl, h0 2 _ rfl, h0 3 _ rfl⟩)
      have hk2 : (k : Int) < (N : Int) := by omega
      have hk3 : (k : Int) + 1 ≤ 9223372036854775807 := by omega
      have H63 := Lib.hid (show k + 1 ≤ maxLen ∧ (k + 1) * 32 ≤ 140737488355328 by unfold maxLen; omega)
      have HN1 := Lib.hid (fun o => World.ownsRow.alloc (w := wr.drew) HR.out.2 o)
      have HL := Lib.hid (show w.heap.size ≤ (wr.drew.alloc (.cells #[.int .i64 P, .int .i64 C, .int .i64 O, .int .i64 K] 81)).heap.size by rw [World.size_alloc]; exact Nat.le_succ_of_le HR.out.1.size)
      have HKK := Lib.hid (show ∀ j u, [.int .i64 P, .int .i64 C, .int .i64 O, .int .i64 K][j]? = some u → (wr.drew.alloc (.cells #[.int .i64 P, .int .i64 C, .int .i64 O, .int .i64 K] 81)).cell? ((⟨wr.heap.size, 0, none⟩ : Addr).add j) = some u from World.news_of_block (World.alloc_heap_new wr.drew (.cells #[.int .i64 P, .int .i64 C, .int .i64 O, .int .i64 K] 81)))
      have HG := Lib.hid (fun (w1 : World) (hg : World.grownBy (wr.drew.alloc (.cells #[.int .i64 P, .int .i64 C, .int .i64 O, .int .i64 K] 81)) w1 u3.ownBlock) =>
        Below.grown (Below.alloc (B := w.heap.size) (a := w) (w := wr.drew) ⟨HR.out.1.os, HR.out.1.tape, HR.out.1.output, HR.out.1.size, HR.out.1.block⟩ HR.out.1.size _) hg HL.out (fun j e => (HR.out.2.lt j e).1))
      clear hc ht htk HCell HSp HTk HFin
      go_wp2
      go_region_held3 (fun w' => w'.cell? ⟨b, o + k * 4, none⟩ = some (.int .i64 P) ∧ w'.cell? ⟨b, o + k * 4 + 1, none⟩ = some (.int .i64 C) ∧ w'.cell? ⟨b, o + k * 4 + 2, none⟩ = some (.int .i64 O) ∧ w'.cell? ⟨b, o + k * 4 + 3, none⟩ = some (.int .i64 K)) (first | exact hcn | go_keep)
        (first
          | (refine step_append_lies _ rfl (.tmp 11) (.tmp 33) 23 rfl w.heap.size 81 i0 (.agg #[.int .i64 0, .int .i64 0, .int .i64 0, .int .i64 0]) 4 32 Try.underlying23 hi hz0 hz1 hz2 rfl (by decide) _ k (tmRow (L.take k)) rfl (HN1.out _) ⟨wr.heap.size, 0, none⟩ 1 1 [.int .i64 P, .int .i64 C, .int .i64 O, .int .i64 K] rfl rfl HKK.out (by simp [Value.oneCell']) Nat.one_pos H63.out.1 H63.out.2 HL.out _ rfl ?_; intro g cap w1 hown1 hgrow hat hlt1; have hBn : Below w.heap.size w w1 := HG.out _ hgrow; have hcn := HCC.out w1 hBn))
      have HO := Lib.hid hown1
      clear hown1 hgrow hat hcn
      go_wp2
      go_roundg g1
      case measure => omega
      case rel => exact ⟨k + 1, by omega, by go_num, hBn, by rw [HV.out]; exact HO.out⟩
end Go.Proofs.Ytjgnclhkoncnkaa
