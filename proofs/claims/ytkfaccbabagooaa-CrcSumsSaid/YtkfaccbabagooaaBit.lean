/- The walk of CrcBit: true for every slice of words, every place and every bit. -/
import Derived.Test.YtkfaccbabagooaaSum
namespace Go.Proofs.Ytkfaccbabagooaa
open Go.RowKit

theorem info26 : (Try.prog.info? 26).map (fun i => (i.zero, i.size, i.bytes)) = some (some (.int .u32 0), 1, 4) := by kernel_rfl
theorem own_fresh (w : World) (base : Nat) (h : base ≤ w.heap.size) : (w.alloc (.cells #[] 26)).ownsRow base 26 1 (.slice (some ⟨w.heap.size, 0, none⟩) 0 0) 0 [] :=
  ⟨rfl, .inr ⟨w.heap.size, 0, #[], rfl, h, World.alloc_heap_new _ _, Nat.le_refl _, Nat.zero_le _, rfl, rfl⟩⟩
theorem rowW_one (l : List (BitVec 32)) : ∀ u ∈ rowW l, u.oneCell' = true := by
  intro u hu; unfold rowW at hu; simp at hu; obtain ⟨x, _, rfl⟩ := hu; rfl
theorem rowW_at (l : List (BitVec 32)) (j : Nat) (u : Value) (h : (rowW l)[j]? = some u) : j < l.length ∧ u = .int .u32 (w32 (nthW l j)) := by
  unfold rowW at h
  rw [List.getElem?_map] at h
  cases hl : l[j]? with
  | none => rw [hl] at h; cases h
  | some x =>
    rw [hl] at h
    refine ⟨(List.getElem?_eq_some_iff.1 hl).1, ?_⟩
    have : nthW l j = x := by simp [nthW, hl]
    rw [this]; exact (Option.some.inj h).symm
theorem rowW_get (l : List (BitVec 32)) (j : Nat) (h : j < l.length) : (rowW l)[j]? = some (.int .u32 (w32 (nthW l j))) := by
  unfold rowW nthW
  rw [List.getElem?_map, List.getElem?_eq_getElem h]; simp [h]
theorem cells_rowW {l : List (BitVec 32)} {w W : World} {b off : Nat} (hB : Below w.heap.size w W) (hb : 0 < l.length → b < w.heap.size)
    (hcell : ∀ k, k < l.length → w.cell? ⟨b, off + k, none⟩ = some (.int .u32 (w32 (nthW l k)))) :
    ∀ j u, (rowW l)[j]? = some u → W.cell? ((⟨b, off, none⟩ : Addr).add j) = some u := by
  intro j u hu
  obtain ⟨hj, rfl⟩ := rowW_at l j u hu
  rw [Addr.add_lit, hB.cell (p := ⟨b, off + j, none⟩) (hb (by omega)), hcell j hj]

theorem idx_mod (a : Int) (n : Nat) (hn : 0 < n) (hn5 : n ≤ 500) : ∃ i : Nat, i < n ∧ (wrap64 (a.tmod n + n)).tmod n = (i : Int) := by
  have h1 : a.tmod n < n := Int.tmod_lt_of_pos a (by omega)
  have h2 : -(n : Int) < a.tmod n := by
    have := Int.tmod_lt_of_pos (-a) (b := n) (by omega)
    rw [Int.neg_tmod] at this; omega
  have h3 : wrap64 (a.tmod n + n) = a.tmod n + n := by unfold wrap64; omega
  rw [h3]
  have h4 : 0 ≤ (a.tmod n + n).tmod n := Int.tmod_nonneg _ (by omega)
  have h5 : (a.tmod n + n).tmod n < n := Int.tmod_lt_of_pos _ (by omega)
  exact ⟨((a.tmod n + n).tmod n).toNat, by omega, by omega⟩

theorem bit_mod (a : Int) : ∃ k : Nat, k < 32 ∧ (2 : Int) ^ min (IntKind.u64.wrap ((wrap64 (a.tmod 32 + 32)).tmod 32)).toNat 32 % (4294967296 : Int) = w32 (1#32 <<< k) := by
  obtain ⟨k, hk, e⟩ := idx_mod a 32 (by omega) (by omega)
  have e' : (wrap64 (a.tmod 32 + 32)).tmod 32 = (k : Int) := e
  refine ⟨k, hk, ?_⟩
  have h64 : IntKind.u64.wrap (k : Int) = k := by
    have : ∀ n, IntKind.u64.wrap n = n % 18446744073709551616 := IntKind.wrap_u64
    rw [this]; omega
  rw [e', h64, Int.toNat_natCast, Nat.min_eq_left (by omega)]
  unfold w32
  rw [BitVec.toNat_shiftLeft, Nat.shiftLeft_eq]
  simp
theorem nthW_set (l : List (BitVec 32)) (i : Nat) (x : BitVec 32) : (rowW l).set i (.int .u32 (w32 x)) = rowW (l.set i x) := by
  unfold rowW; rw [List.map_set]
theorem set_split (l : List (BitVec 32)) (i : Nat) (x : BitVec 32) (h : i < l.length) : l = l.take i ++ nthW l i :: l.drop (i + 1) ∧ l.set i x = l.take i ++ x :: l.drop (i + 1) := by
  have hn : nthW l i = l[i] := by simp [nthW, h]
  constructor
  · rw [hn]; simp
  · exact List.set_eq_take_append_cons_drop .. |>.trans (by simp [h])
theorem crc_turned (l : List (BitVec 32)) (i k : Nat) (h : i < l.length) (hk : k < 32) : (w32 (crcW (l.set i (nthW l i ^^^ 1#32 <<< k))) != w32 (crcW l)) = true := by
  obtain ⟨h1, h2⟩ := set_split l i (nthW l i ^^^ 1#32 <<< k) h
  rw [bne_iff_ne]
  intro hc
  have hc := w32_inj.1 hc
  rw [h2] at hc
  have h3 := crcW_bit (l.take i) (l.drop (i + 1)) (nthW l i) k hk
  rw [← h1] at h3
  exact h3 hc

theorem law_bit (b off cap : Nat) (sp : Option Addr) (l : List (BitVec 32)) (at_ bit : Int) (w : World) (hlen : l.length ≤ 9223372036854775807) (hsp : 0 < l.length → sp = some ⟨b, off, none⟩ ∧ b < w.heap.size)
    (_hat : -9223372036854775808 ≤ at_ ∧ at_ < 9223372036854775808) (_hbit : -9223372036854775808 ≤ bit ∧ bit < 9223372036854775808)
    (hcell : ∀ k, k < l.length → w.cell? ⟨b, off + k, none⟩ = some (.int .u32 (w32 (nthW l k)))) :
    Calls Try.prog 4 #[.slice sp l.length cap, .int .i64 at_, .int .i64 bit] w fun e w' => e = .returned (.bool true) ∧ Below w.heap.size w w' := by
  by_cases hn : l.length ≤ 500
  · by_cases h0 : l.length = 0
    · have h0' : ((l.length : Int) == 0) = true := by simpa using h0
      go_enter Try.func4, Try.ntmps4
      go_wp2
      go_ret
      exact ⟨rfl, Below.refl _ _⟩
    · have hpos : 0 < l.length := by omega
      have hne : ((l.length : Int) == 0) = false := by simpa using h0
      obtain ⟨i, hil, hidx⟩ := idx_mod at_ l.length hpos hn
      obtain ⟨kb, hkb, hsh⟩ := bit_mod bit
      have hx := xor32 (nthW l i) (1#32 <<< kb)
      have HT := Lib.hid (crc_turned l i kb hil hkb)
      have hi0 : (0 : Int) ≤ (i : Int) := by omega
      have hi1 : (i : Int) < (l.length : Int) := by omega
      obtain ⟨i0, hi, hz0, hz1, hz2⟩ := info_parts info26
      obtain ⟨rfl, hbl⟩ := hsp hpos
      have HC := Lib.hid hcell
      have B2 : Below w.heap.size w (w.alloc (.cells #[] 26)) := (Below.refl _ _).alloc (Nat.le_refl _) _
      have OW := Lib.hid (own_fresh w w.heap.size (Nat.le_refl _))
      have C1 := Lib.hid (cells_rowW B2 (fun _ => hbl) HC.out)
      have H63 := Lib.hid (show 0 + l.length ≤ maxLen ∧ (0 + l.length) * 4 ≤ 140737488355328 by unfold maxLen; omega)
      clear hcell
      go_enter Try.func4, Try.ntmps4
      go_wp2_with (at_builtin; refine wpList_append_lies _ rfl (.tmp 16) (.tmp 17) 23 rfl w.heap.size 26 i0 (.int .u32 0) 1 4 Try.underlying23 hi hz0 hz1 hz2 rfl Nat.one_pos _ 0 [] rfl OW.out ⟨b, off, none⟩ l.length cap (rowW l) rfl (by simp [rowW]) C1.out (rowW_one _) hpos H63.out.1 H63.out.2 (by simp) _ rfl ?_; intro g c1 w1 hown1 hg1 _ hlt1; rw [Nat.zero_add] at hown1 ⊢; rw [List.nil_append] at hown1; have hcg : w1.cell? ⟨g, i, none⟩ = some (.int .u32 (w32 (nthW l i))) := (hown1.cellAt i (by omega)).trans (rowW_get l i hil); have hfg : w1.frozen? ⟨g, i, none⟩ = false := hown1.frozenAt i; have HO := Lib.hid (And.intro hown1 hg1); clear hown1 hg1)
      have hst := HO.out.1.stored i (.int .u32 (w32 (nthW l i ^^^ 1#32 <<< kb)))
      have bg : Below w.heap.size w w1 := Below.grown B2 HO.out.2 (by simp) (fun j e => by cases e; simp)
      have hgb := (HO.out.1.lt g rfl).1
      have hW1 := words_any g 0 c1 (some ⟨g, 0, none⟩) (l.set i (nthW l i ^^^ 1#32 <<< kb)) (w1.setCell ⟨g, i, none⟩ (.int .u32 (w32 (nthW l i ^^^ 1#32 <<< kb)))) (by simpa using hn) (fun _ => ⟨rfl, by simpa using hlt1⟩)
        (fun k hk => by
          have h := hst.1.cellAt k (by simpa using hk)
          rw [Nat.zero_add, h]
          unfold rowW
          rw [← List.map_set]
          exact rowW_get _ k hk)
      rw [List.length_set] at hW1
      refine hW1.mono ?_
      rintro e w2 ⟨rfl, hb2⟩
      have bg2 : Below w.heap.size w w2 := (bg.setCell (show w.heap.size ≤ (⟨g, i, none⟩ : Addr).block from hgb) _).trans (hb2.mono (by simp; omega))
      have hW2 := Lib.hid (words_any b off cap (some ⟨b, off, none⟩) l w2 hn (fun _ => ⟨rfl, by have := bg2.size; omega⟩) (fun k hk => by rw [bg2.cell (p := ⟨b, off + k, none⟩) hbl]; exact HC.out k hk))
      have ht := HT.out
      have BG2 := Lib.hid bg2
      clear hst bg bg2 hW1 hb2 hcg hfg
      go_wp2_with (first | (go_at_call 12; refine hW2.out.mono ?_; rintro e w3 ⟨rfl, hb3⟩) | (go_at_call 13; refine (alive_any _).mono ?_; rintro e w4 ⟨rfl, hb4⟩))
      go_ret
      have h1 := BG2.out.size
      exact ⟨rfl, (BG2.out.trans (hb3.mono h1)).trans (hb4.mono (by have := hb3.size; omega))⟩
  · go_enter Try.func4, Try.ntmps4
    go_wp2
    go_ret
    exact ⟨rfl, Below.refl _ _⟩
end Go.Proofs.Ytkfaccbabagooaa
