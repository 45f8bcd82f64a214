/- Several texts in one: FK, FN, FO, FQ, FR, FS, FT. -/
import Derived.Test.YthpagbfabpfngaaPk04
import Derived.Test.YthpagbfabpfngaaPk02
import Derived.Deep.DeepMust
/- The contract of flash's New. -/
namespace Go.Proofs.Ythpagbfabpfngaa
open Go.RowKit

set_option maxRecDepth 100000 in
theorem new_ok (ns nw : Nat) (lim : Int) (w : World) (h : okSize ns nw lim) : Calls Try.prog 9 #[.int .i64 ns, .int .i64 nw, .int .i64 lim] w fun e w' =>
    ∃ q S g, e = .returned (.tuple #[.pointer (some ⟨q, 0, none⟩), .int .i64 0]) ∧ DevAt w' q S g (Dev.fresh ns nw lim) ∧ (∀ j, OwnD q S g ns j → w.heap.size ≤ j) ∧ Below w.heap.size w w' := by
  obtain ⟨h1, h2, h3, h4, h5, h6⟩ := h
  obtain ⟨i0, hi, hz0, hz1, hz2⟩ := info_parts info93
  obtain ⟨w1, hmk, hown, hgr⟩ := run_makeSlice_full (P := Try.prog) w w.heap.size 88 95 i0 (.agg #[.slice none 0 0, .int .i64 0]) 2 Try.underlying88 hi hz0 hz1 .i64 .i64 ns (by omega) (by rw [hz2]; omega) (by unfold maxLen; omega) (Nat.le_refl _)
  have hb1 : Below w.heap.size w w1 := (Below.refl _ w).grown hgr (Nat.le_refl _) (fun k hk => by simp at hk)
  have hsz : w.heap.size < w1.heap.size := (hown.lt _ rfl).2
  obtain ⟨wa, hwa⟩ : ∃ wa, w1.alloc (.cells #[.slice (some ⟨w.heap.size, 0, none⟩) ns ns, .int .i64 nw, .int .i64 lim, .bool true, .int .i64 0, .bool false, .int .i64 0, .int .u32 0] 92) = wa := ⟨_, rfl⟩
  have hb2 : Below w1.heap.size w1 wa := by rw [← hwa]; exact (Below.refl _ _).alloc (Nat.le_refl _) _
  have hN : NewAt w wa w1.heap.size w.heap.size (fun _ => 0) ns nw lim 0 := by
    have cS : ∀ j, wa.cell? ⟨w.heap.size, j, none⟩ = w1.cell? ⟨w.heap.size, j, none⟩ := fun j => hb2.cell (p := ⟨w.heap.size, j, none⟩) hsz
    have fS : ∀ j, wa.frozen? ⟨w.heap.size, j, none⟩ = w1.frozen? ⟨w.heap.size, j, none⟩ := fun j => (Ch.new (T := fun _ => False) hb2).frozen (p := ⟨w.heap.size, j, none⟩) hsz (fun h => h)
    have row : ∀ j u, (rowQ (Dev.fresh ns nw lim) w.heap.size)[j]? = some u → wa.cell? ⟨w1.heap.size, j, none⟩ = some u := by
      intro j u hu
      rw [← hwa]
      match j, hu with
      | 0, hu => obtain rfl := Option.some.inj hu; simp [go_sem, Dev.fresh]
      | 1, hu => obtain rfl := Option.some.inj hu; simp [go_sem, Dev.fresh]
      | 2, hu => obtain rfl := Option.some.inj hu; simp [go_sem, Dev.fresh]
      | 3, hu => obtain rfl := Option.some.inj hu; simp [go_sem, Dev.fresh]
      | 4, hu => obtain rfl := Option.some.inj hu; simp [go_sem, Dev.fresh]
      | 5, hu => obtain rfl := Option.some.inj hu; simp [go_sem, Dev.fresh]
      | 6, hu => obtain rfl := Option.some.inj hu; simp [go_sem, Dev.fresh]
      | 7, hu => obtain rfl := Option.some.inj hu; rw [show w32 (Dev.fresh ns nw lim).seed = 0 from rfl]; simp [go_sem]
      | j + 8, hu => simp [rowQ] at hu
    refine ⟨row, fun j => by rw [← hwa]; simp [go_sem], fun i hi => by omega, fun i _ hi => ?_, fun i hi => ?_, fun j => (fS j).trans (hown.frozenAt j), fun i m hi => by omega, fun i m hi => by omega, by omega, fun i hi => by omega, fun i j hi => by omega, ⟨by omega, Nat.le_refl _, fun i hi => by omega⟩, ⟨?_, ?_, fun i hi => by omega⟩, hb1.trans (hb2.mono (by omega))⟩
    · rw [cS, hown.cellAt _ (by omega)]; exact (made_two _ _ ns i hi).1
    · rw [cS, hown.cellAt _ (by omega)]; exact (made_two _ _ ns i hi).2
    · rw [← hwa, World.size_alloc]; omega
    · rw [← hwa, World.size_alloc]; omega
  have HN := Lib.hid (And.intro hN hwa)
  have c0 := hN.row 0 _ rfl
  rw [← hwa] at c0
  clear hown hgr hb1 hb2 hN
  obtain ⟨S, hS⟩ : ∃ S, w.heap.size = S := ⟨_, rfl⟩
  obtain ⟨q, hq⟩ : ∃ q, w1.heap.size = q := ⟨_, rfl⟩
  have HQ := Lib.hid (And.intro hS hq)
  have z := And.intro h1 (And.intro h2 (And.intro h3 h4))
  have HZ := Lib.hid z
  clear hwa hS hq hsz z
  go_enter Try.func9, Try.ntmps9
  go_wp2
  rw [HN.out.2, HQ.out.1, HQ.out.2]
  go_loopg [43] ns (fun gg v wr => ∃ (k : Nat) (g : Nat → Nat), k + gg = ns ∧ v = .int .i64 k ∧ Aside (NewAt w wr q S g ns nw lim k))
  case atStart => exact ⟨0, fun _ => 0, by omega, rfl, by have := HN.out.1; rw [HQ.out.1, HQ.out.2] at this; exact this⟩
  case round =>
    obtain ⟨k, g, hkg, rfl, HR⟩ := hrel
    cases gk with
    | zero =>
      have hkn : k = ns := by omega
      have d1 : ¬ k < ns := by omega
      have HK := Lib.hid hkn
      clear hkg hkn
      go_wp2
      go_ret2
      exact ⟨q, S, g, rfl, (by rw [← HK.out]; rw [← HK.out] at HR; exact HR.out : NewAt w wr q S g ns nw lim ns).dev (by have := HZ.out; omega), fun j hj => by
        have hR := HR.out
        rw [HK.out] at hR
        rcases hj with rfl | rfl | ⟨i, hi, rfl⟩
        · exact hR.lo.1
        · exact hR.lo.2.1
        · exact hR.lo.2.2 i hi, HR.out.below⟩
    | succ g1 =>
      have hk : k < ns := by omega
      have q0 := HR.out.row 0 _ rfl
      have q1 := HR.out.cr k (Nat.le_refl _) hk
      have q2 := HR.out.fs (k * 2)
      have k0 : (0 : Int) ≤ (k : Int) := by omega
      have k1 : (k : Int) < (ns : Int) := by omega
      have hz2 : nw ≤ 4096 := by have := HZ.out; omega
      have hi3 := HR.out.hi
      have HREP := Lib.hid (repeat_two 4294967295 nw wr.heap.size 0 1 (wr.alloc (.cells #[.int .u32 4294967295] 26)).drew (cell_one_new wr (.int .u32 4294967295) 26 0 _ rfl) hz2)
      have hbA : Below wr.heap.size wr (wr.alloc (.cells #[.int .u32 4294967295] 26)).drew := ((Below.refl wr.heap.size wr).alloc (Nat.le_refl _) _).drew
      have hA := HR.out.keep hbA
      have q0b := hA.row 0 _ rfl
      have HA := Lib.hid hA
      have hszA : (wr.alloc (.cells #[.int .u32 4294967295] 26)).drew.heap.size = wr.heap.size + 1 := World.size_alloc _ _
      have HSA := Lib.hid hszA
      rw [hszA] at HREP
      have HNN := Lib.hid hi3
      have hqS : ¬ S = q := fun e => HR.out.qs e.symm
      have kq : ¬ S = wr.heap.size := by omega
      have kq2 : ¬ wr.heap.size = S := by omega
      have HKP := Lib.hid (fun (w5 : World) (hb5 : Below (wr.heap.size + 1) (wr.alloc (.cells #[.int .u32 4294967295] 26)).drew w5) => hA.keep (by rw [hszA]; exact hb5))
      clear hi3 hbA hA hszA
      go_wp2
      go_region_held3 (fun w' => w'.cell? ⟨q, 0, none⟩ = some (.slice (some ⟨S, 0, none⟩) ns ns)) (first | exact q0 | exact q0b | exact q0c | exact (World.cell?_setCell_other _ _ _ _ (fun e => hqS (by injection e))).trans q0c | go_keep)
        (first
          | (go_at_call 40; refine HREP.out.mono ?_; rintro e w5 ⟨rfl, hf5, hb5⟩; have h5 := HKP.out w5 hb5; have H5 := Lib.hid (And.intro h5 (And.intro hf5 (And.intro hb5 trivial))); have q0c := h5.row 0 _ rfl; have q1c := h5.cr k (Nat.le_refl _) hk; have q2c := h5.fs (k * 2); clear h5 hf5 hb5)
          | fail)
      go_wp2
      go_roundg g1
      case measure => omega
      case rel =>
        obtain ⟨L, o1, o2, o3⟩ := H5.out.2.1
        have hsz5 := (o1.lt _ rfl).2
        have hh := HNN.out
        have h6 := (H5.out.1.more (N := wr.heap.size + 1) hk hsz5 (Nat.le_trans HR.out.below.size (Nat.le_succ _)) (by omega) (by omega) (fun i hi => by have := hh.2.2 i hi; omega)
          (fun m hm => by rw [o1.cellAt m (by omega), o3 m hm]; rfl) (fun m _ => o1.frozenAt m))
        exact ⟨k + 1, _, by omega, by go_num, h6⟩
end Go.Proofs.Ythpagbfabpfngaa
/- Where the reference's device lies; the contracts of its small calls. -/
namespace Go.Proofs.Ythpagbfabpfngaa
open Go.RowKit

/-- The reference's device as a value. -/
def refV (vL vW : Value) (d : Dev) : Value := .agg #[.int .i64 d.ns, .int .i64 d.nw, .int .i64 d.limit, vL, vW, .bool (!d.on), .bool d.armed, .int .i64 d.after, .int .u32 (w32 d.seed), .int .i64 d.ops]
/-- All words, sector by sector. -/
def Dev.flat (d : Dev) : List (BitVec 32) := (List.range (d.ns * d.nw)).map fun t => d.word (t / d.nw) (t % d.nw)
def Dev.wears (d : Dev) : List Int := (List.range d.ns).map d.worn
def rowZ (l : List Int) : List Value := l.map (Value.int .i64)
structure RefAt (w : World) (base : Nat) (vL vW : Value) (d : Dev) : Prop where
  l : w.ownsRow base 26 1 vL (d.ns * d.nw) (rowB d.flat)
  wr : w.ownsRow base 3 1 vW d.ns (rowZ d.wears)
theorem flat_len (d : Dev) : d.flat.length = d.ns * d.nw := by simp [Dev.flat]
theorem wears_len (d : Dev) : d.wears.length = d.ns := by simp [Dev.wears]

theorem isR_any (vL vW : Value) (d : Dev) (s k : Int) (w : World) : Calls Try.prog 112 #[refV vL vW d, .int .i64 s, .int .i64 k] w fun e w' => e = .returned (.bool (d.okK s k)) ∧ Below w.heap.size w w' := by
  unfold Dev.okK Dev.has refV
  go_enter Try.func112, Try.ntmps112
  go_wp2
  all_goals
    go_ret
    refine ⟨?_, (Below.refl _ _).alloc (Nat.le_refl _) _⟩
    simp [*]
    try omega
end Go.Proofs.Ythpagbfabpfngaa
/- The reference's device: where its rows lie, and plain facts on them. -/
namespace Go.Proofs.Ythpagbfabpfngaa
open Go.RowKit

theorem flat_idx (nw s k : Nat) (hk : k < nw) : (s * nw + k) / nw = s ∧ (s * nw + k) % nw = k := by
  have h0 : 0 < nw := by omega
  constructor
  · rw [Nat.add_comm, Nat.add_mul_div_right _ _ h0, Nat.div_eq_of_lt hk]; omega
  · rw [Nat.add_comm, Nat.add_mul_mod_self_right, Nat.mod_eq_of_lt hk]
theorem flat_lt (ns nw s k : Nat) (hs : s < ns) (hk : k < nw) : s * nw + k < ns * nw := by
  have : (s + 1) * nw ≤ ns * nw := Nat.mul_le_mul_right _ hs
  rw [Nat.succ_mul] at this; omega
/-- Where the reference's rows lie. -/
structure RefIn (w : World) (bL bW : Nat) (d : Dev) : Prop where
  cl : ∀ s k, s < d.ns → k < d.nw → w.cell? ⟨bL, s * d.nw + k, none⟩ = some (.int .u32 (w32 (d.word s k)))
  fl : ∀ t, t < d.ns * d.nw → w.frozen? ⟨bL, t, none⟩ = false
  cw : ∀ i, i < d.ns → w.cell? ⟨bW, i, none⟩ = some (.int .i64 (d.worn i))
  fw : ∀ i, i < d.ns → w.frozen? ⟨bW, i, none⟩ = false
  ne : bL ≠ bW
  zn : d.ns ≤ 64 ∧ d.nw ≤ 1024 ∧ 0 < d.ns ∧ 0 < d.nw
section
variable {w w' : World} {bL bW : Nat} {d : Dev}
theorem RefIn.ltL (h : RefIn w bL bW d) : bL < w.heap.size := by have := World.block_lt_of_cell? w _ (h.cl 0 0 h.zn.2.2.1 h.zn.2.2.2); simpa using this
theorem RefIn.ltW (h : RefIn w bL bW d) : bW < w.heap.size := by have := World.block_lt_of_cell? w _ (h.cw 0 h.zn.2.2.1); simpa using this
theorem RefIn.keep {T : Nat → Prop} (h : RefIn w bL bW d) (c : Ch T w w') (h1 : ¬ T bL) (h2 : ¬ T bW) : RefIn w' bL bW d :=
  ⟨fun s k hs hk => c.cell (h.cl s k hs hk) h1, fun t ht => (c.frozen (p := ⟨bL, t, none⟩) h.ltL h1).trans (h.fl t ht), fun i hi => c.cell (h.cw i hi) h2, fun i hi => (c.frozen (p := ⟨bW, i, none⟩) h.ltW h2).trans (h.fw i hi), h.ne, h.zn⟩
theorem RefIn.new (h : RefIn w bL bW d) (c : Below w.heap.size w w') : RefIn w' bL bW d := h.keep (T := fun _ => False) (Ch.new c) (fun h => h) (fun h => h)
theorem RefIn.drewN (h : RefIn w bL bW d) (n : Nat) : RefIn (w.drewN n) bL bW d := ⟨h.cl, h.fl, h.cw, h.fw, h.ne, h.zn⟩
theorem RefIn.same {d' : Dev} (h : RefIn w bL bW d) (h1 : d'.ns = d.ns) (h2 : d'.nw = d.nw) (h3 : d'.word = d.word) (h4 : d'.worn = d.worn) : RefIn w bL bW d' :=
  ⟨by rw [h1, h2, h3]; exact h.cl, by rw [h1, h2]; exact h.fl, by rw [h1, h4]; exact h.cw, by rw [h1]; exact h.fw, h.ne, by rw [h1, h2]; exact h.zn⟩
theorem flat_get (d : Dev) (s k : Nat) (hs : s < d.ns) (hk : k < d.nw) : d.flat[s * d.nw + k]? = some (d.word s k) := by
  unfold Dev.flat
  rw [List.getElem?_map, List.getElem?_range (flat_lt _ _ _ _ hs hk)]
  simp [flat_idx _ s k hk]
theorem RefIn.cell (h : RefIn w bL bW d) (t : Nat) (ht : t < d.ns * d.nw) : w.cell? ⟨bL, t, none⟩ = some (.int .u32 (w32 (d.word (t / d.nw) (t % d.nw)))) := by
  have h0 := h.zn.2.2.2
  have := h.cl (t / d.nw) (t % d.nw) ((Nat.div_lt_iff_lt_mul h0).2 ht) (Nat.mod_lt _ h0)
  rwa [Nat.mul_comm, Nat.div_add_mod] at this
theorem RefIn.rowL (h : RefIn w bL bW d) : ∀ j u, (rowB d.flat)[j]? = some u → w.cell? ((⟨bL, 0, none⟩ : Addr).add j) = some u := by
  intro j u hu
  rw [show (⟨bL, 0, none⟩ : Addr).add j = ⟨bL, 0 + j, none⟩ from Addr.add_lit .., Nat.zero_add]
  unfold rowB Dev.flat at hu
  rw [List.map_map, List.getElem?_map] at hu
  by_cases hj : j < d.ns * d.nw
  · rw [List.getElem?_range hj] at hu
    rw [← hu]
    exact h.cell j hj
  · rw [List.getElem?_eq_none (by simp; omega)] at hu
    cases hu
theorem RefIn.rowW (h : RefIn w bL bW d) : ∀ j u, (rowZ d.wears)[j]? = some u → w.cell? ((⟨bW, 0, none⟩ : Addr).add j) = some u := by
  intro j u hu
  rw [show (⟨bW, 0, none⟩ : Addr).add j = ⟨bW, 0 + j, none⟩ from Addr.add_lit .., Nat.zero_add]
  unfold rowZ Dev.wears at hu
  rw [List.map_map, List.getElem?_map] at hu
  by_cases hj : j < d.ns
  · rw [List.getElem?_range hj] at hu
    rw [← hu]
    exact h.cw j hj
  · rw [List.getElem?_eq_none (by simp; omega)] at hu
    cases hu
theorem rowZ_one (l : List Int) : ∀ u ∈ rowZ l, u.oneCell' = true := by
  intro u hu
  obtain ⟨x, _, rfl⟩ := List.mem_map.1 hu
  rfl
/-- Of two rows that a call owns. -/
theorem refIn_own {b1 b2 cL cW : Nat} (h1 : w.ownsRow b1 26 1 (.slice (some ⟨bL, 0, none⟩) (d.ns * d.nw) cL) (d.ns * d.nw) (rowB d.flat)) (h2 : w.ownsRow b2 3 1 (.slice (some ⟨bW, 0, none⟩) d.ns cW) d.ns (rowZ d.wears)) (ne : bL ≠ bW)
    (zn : d.ns ≤ 64 ∧ d.nw ≤ 1024 ∧ 0 < d.ns ∧ 0 < d.nw) : RefIn w bL bW d := by
  refine ⟨fun s k hs hk => ?_, fun t ht => h1.frozenAt t, fun i hi => ?_, fun i hi => h2.frozenAt i, ne, zn⟩
  · rw [h1.cellAt _ (by have := flat_lt _ _ _ _ hs hk; omega)]
    unfold rowB
    rw [List.getElem?_map, flat_get d s k hs hk]; rfl
  · rw [h2.cellAt _ (by omega)]
    unfold rowZ Dev.wears
    rw [List.getElem?_map, List.getElem?_map, List.getElem?_range hi]; rfl
/-- A store into a word. -/
theorem RefIn.setW (h : RefIn w bL bW d) (i j : Nat) (x : BitVec 32) (hi : i < d.ns) (hj : j < d.nw) : RefIn (w.setCell ⟨bL, i * d.nw + j, none⟩ (Value.int .u32 (w32 x))) bL bW (d.put i j x) := by
  refine ⟨fun s k hs hk => ?_, fun t ht => by rw [World.frozen?_setCell]; exact h.fl t ht, fun a ha => ?_, fun a ha => by rw [World.frozen?_setCell]; exact h.fw a ha, h.ne, h.zn⟩
  · show World.cell? _ ⟨bL, s * d.nw + k, none⟩ = some (Value.int .u32 (w32 (upd d.word i j x s k)))
    unfold upd
    by_cases e : s = i ∧ k = j
    · rw [if_pos e, e.1, e.2]
      exact World.cell?_setCell_same _ _ _ (h.cl i j hi hj)
    · rw [if_neg e, World.cell?_setCell_other _ _ _ _ (fun e' => e ?_)]
      · exact h.cl s k hs hk
      · have e2 : i * d.nw + j = s * d.nw + k := by injection e'
        have a1 := flat_idx d.nw s k hk
        have a2 := flat_idx d.nw i j hj
        rw [e2] at a2
        exact ⟨a1.1.symm.trans a2.1, a1.2.symm.trans a2.2⟩
  · rw [World.cell?_setCell_other _ _ _ _ (fun e' => h.ne (by injection e'))]
    exact h.cw a ha
/-- A store into how often a sector was erased. -/
theorem RefIn.setWorn (h : RefIn w bL bW d) (i : Nat) (hi : i < d.ns) : RefIn (w.setCell ⟨bW, i, none⟩ (Value.int .i64 (d.worn i + 1))) bL bW (d.wear i) := by
  refine ⟨fun s k hs hk => ?_, fun t ht => by rw [World.frozen?_setCell]; exact h.fl t ht, fun a ha => ?_, fun a ha => by rw [World.frozen?_setCell]; exact h.fw a ha, h.ne, h.zn⟩
  · rw [World.cell?_setCell_other _ _ _ _ (fun e' => h.ne (by injection e' with e1 _; exact e1.symm))]
    exact h.cl s k hs hk
  · show World.cell? _ ⟨bW, a, none⟩ = some (Value.int .i64 (updI d.worn i (d.worn i + 1) a))
    unfold updI
    by_cases e : a = i
    · rw [if_pos e, e]
      exact World.cell?_setCell_same _ _ _ (h.cw i hi)
    · rw [if_neg e, World.cell?_setCell_other _ _ _ _ (fun e' => e (by injection e' with _ e2; exact e2.symm))]
      exact h.cw a ha
end
end Go.Proofs.Ythpagbfabpfngaa
/- The contracts of the reference's small calls on a device. -/
namespace Go.Proofs.Ythpagbfabpfngaa
open Go.RowKit

/-- The reference's device with its rows. -/
abbrev refX (bL cL bW cW : Nat) (d : Dev) : Value := refV (.slice (some ⟨bL, 0, none⟩) (d.ns * d.nw : Nat) cL) (.slice (some ⟨bW, 0, none⟩) d.ns cW) d
/-- A device's value, letter by letter. -/
abbrev vD (n0 n1 n2 : Int) (bL nL cL bW nW cW : Nat) (off ar : Bool) (af sd op : Int) : Value := .agg #[.int .i64 n0, .int .i64 n1, .int .i64 n2, .slice (some ⟨bL, 0, none⟩) nL cL, .slice (some ⟨bW, 0, none⟩) nW cW, .bool off, .bool ar, .int .i64 af, .int .u32 sd, .int .i64 op]
variable {n0 n1 n2 : Int} {bL nL cL bW nW cW : Nat} {off ar : Bool} {af sd op : Int}

theorem goesV_no (w : World) (w1 : IntKind.i64.wrap (op + 1) = op + 1) : Calls Try.prog 114 #[vD n0 n1 n2 bL nL cL bW nW cW off false af sd op] w fun e w' =>
    e = .returned (.tuple #[vD n0 n1 n2 bL nL cL bW nW cW off false af sd (op + 1), .bool false]) ∧ Below w.heap.size w w' := by
  go_enter Try.func114, Try.ntmps114
  go_wp2
  refine ⟨rfl, .tuple #[vD n0 n1 n2 bL nL cL bW nW cW off false af sd (op + 1), .bool false], ?_, rfl, ?_⟩
  · simp [results, Try.results114, go_sem]
  · repeat' (first | exact Below.refl _ _ | refine Below.alloc ?_ ?_ _ | refine Below.setCell ?_ ?_ _)
    all_goals first | omega | (simp only [World.size_alloc]; omega)
theorem goesV_more (w : World) (w1 : IntKind.i64.wrap (op + 1) = op + 1) (w2 : IntKind.i64.wrap (af - 1) = af - 1) (h0 : 0 < af) : Calls Try.prog 114 #[vD n0 n1 n2 bL nL cL bW nW cW off true af sd op] w fun e w' =>
    e = .returned (.tuple #[vD n0 n1 n2 bL nL cL bW nW cW off true (af - 1) sd (op + 1), .bool false]) ∧ Below w.heap.size w w' := by
  go_enter Try.func114, Try.ntmps114
  go_wp2
  refine ⟨rfl, .tuple #[vD n0 n1 n2 bL nL cL bW nW cW off true (af - 1) sd (op + 1), .bool false], ?_, rfl, ?_⟩
  · simp [results, Try.results114, go_sem]
  · repeat' (first | exact Below.refl _ _ | refine Below.alloc ?_ ?_ _ | refine Below.setCell ?_ ?_ _)
    all_goals first | omega | (simp only [World.size_alloc]; omega)
theorem goesV_cut (w : World) (w1 : IntKind.i64.wrap (op + 1) = op + 1) (h0 : ¬ 0 < af) : Calls Try.prog 114 #[vD n0 n1 n2 bL nL cL bW nW cW off true af sd op] w fun e w' =>
    e = .returned (.tuple #[vD n0 n1 n2 bL nL cL bW nW cW true false af sd (op + 1), .bool true]) ∧ Below w.heap.size w w' := by
  go_enter Try.func114, Try.ntmps114
  go_wp2
  refine ⟨rfl, .tuple #[vD n0 n1 n2 bL nL cL bW nW cW true false af sd (op + 1), .bool true], ?_, rfl, ?_⟩
  · simp [results, Try.results114, go_sem]
  · repeat' (first | exact Below.refl _ _ | refine Below.alloc ?_ ?_ _ | refine Below.setCell ?_ ?_ _)
    all_goals first | omega | (simp only [World.size_alloc]; omega)
theorem goesR_any (d : Dev) (bL cL bW cW : Nat) (ho : d.ok) (w : World) : Calls Try.prog 114 #[refX bL cL bW cW d] w fun e w' => e = .returned (.tuple #[refX bL cL bW cW d.goes.1, .bool d.goes.2]) ∧ Below w.heap.size w w' := by
  obtain ⟨o1, o2, o3, o4⟩ := ho
  have w1 : IntKind.i64.wrap (d.ops + 1) = d.ops + 1 := by rw [IntKind.wrap_i64]; omega
  obtain ⟨ns, nw, lim, on, op, ar, af, sd, wd, wn⟩ := d
  unfold refX refV Dev.goes
  cases ar with
  | false => exact goesV_no w w1
  | true =>
    by_cases h0 : 0 < af
    · have w2 : IntKind.i64.wrap (af - 1) = af - 1 := by rw [IntKind.wrap_i64]; simp only at o3 o4; omega
      simp only [h0, if_true]
      exact goesV_more w w1 w2 h0
    · simp only [h0, if_true, if_false]
      exact goesV_cut w w1 h0
theorem armV_any (w : World) (x y : Int) (hx : 0 ≤ x) : Calls Try.prog 60 #[vD n0 n1 n2 bL nL cL bW nW cW off ar af sd op, .int .i64 x, .int .u32 y] w fun e w' =>
    e = .returned (vD n0 n1 n2 bL nL cL bW nW cW off true x y op) ∧ Below w.heap.size w w' := by
  have h0 : ¬ x < 0 := by omega
  go_enter Try.func60, Try.ntmps60
  go_wp2
  refine ⟨rfl, vD n0 n1 n2 bL nL cL bW nW cW off true x y op, ?_, rfl, ?_⟩
  · simp [results, Try.results60, go_sem]
  · repeat' (first | exact Below.refl _ _ | refine Below.alloc ?_ ?_ _ | refine Below.setCell ?_ ?_ _)
    all_goals first | omega | (simp only [World.size_alloc]; omega)
theorem armV_neg (w : World) (x y : Int) (hx : x < 0) : Calls Try.prog 60 #[vD n0 n1 n2 bL nL cL bW nW cW off ar af sd op, .int .i64 x, .int .u32 y] w fun e w' =>
    e = .returned (vD n0 n1 n2 bL nL cL bW nW cW off true 0 y op) ∧ Below w.heap.size w w' := by
  go_enter Try.func60, Try.ntmps60
  go_wp2
  refine ⟨rfl, vD n0 n1 n2 bL nL cL bW nW cW off true 0 y op, ?_, rfl, ?_⟩
  · simp [results, Try.results60, go_sem]
  · repeat' (first | exact Below.refl _ _ | refine Below.alloc ?_ ?_ _ | refine Below.setCell ?_ ?_ _)
    all_goals first | omega | (simp only [World.size_alloc]; omega)
theorem armR_any (d : Dev) (bL cL bW cW : Nat) (x : Int) (y : BitVec 32) (w : World) : Calls Try.prog 60 #[refX bL cL bW cW d, .int .i64 x, .int .u32 (w32 y)] w fun e w' => e = .returned (refX bL cL bW cW (d.arm (max x 0) y)) ∧ Below w.heap.size w w' := by
  by_cases hx : x < 0
  · rw [show max x 0 = 0 by omega]; exact armV_neg w x _ hx
  · rw [show max x 0 = x by omega]; exact armV_any w x _ (by omega)
end Go.Proofs.Ythpagbfabpfngaa
/- The contracts of the reference's Read and Copy. -/
namespace Go.Proofs.Ythpagbfabpfngaa
open Go.RowKit

variable {n0 n1 n2 : Int} {bL nL cL bW nW cW : Nat} {off ar : Bool} {af sd op : Int}
end Go.Proofs.Ythpagbfabpfngaa
/- The contract of the reference's Copy. -/
namespace Go.Proofs.Ythpagbfabpfngaa
open Go.RowKit

theorem own_cap {w : World} {base n cap b off : Nat} {e : TypeId} {sz : Nat} {xs : List Value} (h : w.ownsRow base e sz (.slice (some ⟨b, off, none⟩) n cap) n xs) : n ≤ cap := by
  rcases h.2 with ⟨e, _⟩ | ⟨g', cap', cur, e, _, _, hc, _⟩
  · cases e
  · injection e with _ _ e; omega
theorem fresh27n (w : World) (base n : Nat) (hn : w.heap.size = n) (h : base ≤ n) : (w.alloc (.cells #[] 26)).ownsRow base 26 1 (.slice (some ⟨n, 0, none⟩) 0 0) 0 [] := by
  subst hn; exact fresh27 w base h
theorem fresh3n (w : World) (base n : Nat) (hn : w.heap.size = n) (h : base ≤ n) : (w.alloc (.cells #[] 3)).ownsRow base 3 1 (.slice (some ⟨n, 0, none⟩) 0 0) 0 [] := by
  subst hn
  exact ⟨rfl, .inr ⟨w.heap.size, 0, #[], rfl, h, World.alloc_heap_new _ _, Nat.le_refl _, Nat.zero_le _, rfl, rfl⟩⟩
theorem fresh3 (w : World) (base : Nat) (h : base ≤ w.heap.size) : (w.alloc (.cells #[] 3)).ownsRow base 3 1 (.slice (some ⟨w.heap.size, 0, none⟩) 0 0) 0 [] :=
  ⟨rfl, .inr ⟨w.heap.size, 0, #[], rfl, h, World.alloc_heap_new _ _, Nat.le_refl _, Nat.zero_le _, rfl, rfl⟩⟩
theorem info3Z : (Try.prog.info? 3).map (fun i => (i.zero, i.size, i.bytes)) = some (some (.int .i64 0), 1, 8) := by kernel_rfl

set_option maxHeartbeats 1000000 in
set_option maxRecDepth 100000 in
theorem copyR_any {w : World} {bL bW : Nat} {d : Dev} (h : RefIn w bL bW d) (cL cW : Nat) : Calls Try.prog 113 #[refX bL cL bW cW d] w fun e w' =>
    ∃ bL' cL' bW' cW', e = .returned (refX bL' cL' bW' cW' d) ∧ RefIn w' bL' bW' d ∧ w.heap.size ≤ bL' ∧ w.heap.size ≤ bW' ∧ d.ns * d.nw ≤ cL' ∧ Below w.heap.size w w' := by
  obtain ⟨i0, hi, hz0, hz1, hz2⟩ := info_parts infoB
  obtain ⟨j0, hj, ha0, ha1, ha2⟩ := info_parts info3Z
  have hz := h.zn
  have hm : d.ns * d.nw ≤ 64 * 1024 := Nat.mul_le_mul (by omega) (by omega)
  have hp : 0 < d.ns * d.nw := Nat.mul_pos hz.2.2.1 hz.2.2.2
  have HR := Lib.hid (show (rowB d.flat).length = d.ns * d.nw * 1 by unfold rowB; rw [List.length_map, flat_len]; omega)
  have HRW := Lib.hid (show (rowZ d.wears).length = d.ns * 1 by unfold rowZ; rw [List.length_map, wears_len]; omega)
  have HB := Lib.hid (show 0 + d.ns * d.nw ≤ maxLen ∧ (0 + d.ns * d.nw) * 4 ≤ 140737488355328 by unfold maxLen; omega)
  have HBW := Lib.hid (show 0 + d.ns ≤ maxLen ∧ (0 + d.ns) * 8 ≤ 140737488355328 by unfold maxLen; omega)
  have HH := Lib.hid (fun (w2 : World) (hb : Below w.heap.size w w2) => h.new hb)
  have HP := Lib.hid hp
  have HZ := Lib.hid hz
  obtain ⟨M, hM⟩ : ∃ M, d.ns * d.nw = M := ⟨_, rfl⟩
  unfold refX refV
  rw [hM] at HR HB HP ⊢
  have NW := Lib.hid (show d.nw * d.ns = M by rw [← hM, Nat.mul_comm])
  obtain ⟨nw, hnw⟩ : ∃ nw, d.nw = nw := ⟨_, rfl⟩
  obtain ⟨ns, hns⟩ : ∃ ns, d.ns = ns := ⟨_, rfl⟩
  have HNS := Lib.hid (And.intro hns (And.intro hnw (And.intro hM (show 0 < ns by omega))))
  rw [hns] at HRW HBW
  rw [hns, hnw]
  obtain ⟨B, hB⟩ : ∃ B, w.heap.size = B := ⟨_, rfl⟩
  have HN := Lib.hid hB
  obtain ⟨l1, hl1⟩ : ∃ l1 : List Value, l1 = [.int .i64 ns, .int .i64 nw, .int .i64 d.limit, .slice (some ⟨bL, 0, none⟩) M cL, .slice (some ⟨bW, 0, none⟩) ns cW, .bool (!d.on), .bool d.armed, .int .i64 d.after, .int .u32 (w32 d.seed), .int .i64 d.ops] := ⟨_, rfl⟩
  obtain ⟨l2, hl2⟩ : ∃ l2 : List Value, l2 = [.int .i64 0, .int .i64 0, .int .i64 0, .slice none 0 0, .slice none 0 0, .bool false, .bool false, .int .i64 0, .int .u32 0, .int .i64 0] := ⟨_, rfl⟩
  have X1 := Lib.hid (fun o o2 => (show BoxAt (((w.alloc (.cells #[.int .i64 ns, .int .i64 nw, .int .i64 d.limit, .slice (some ⟨bL, 0, none⟩) M cL, .slice (some ⟨bW, 0, none⟩) ns cW, .bool (!d.on), .bool d.armed, .int .i64 d.after, .int .u32 (w32 d.seed), .int .i64 d.ops] 28)).alloc o).alloc o2) B l1 from by
    rw [← hB, hl1]; exact ((BoxAt.mk_new w _ 28).alloc o).alloc o2))
  have X2 := Lib.hid (fun c t o2 => (show BoxAt (((w.alloc (.cells c t)).alloc (.cells #[.int .i64 0, .int .i64 0, .int .i64 0, .slice none 0 0, .slice none 0 0, .bool false, .bool false, .int .i64 0, .int .u32 0, .int .i64 0] 28)).alloc o2) (B + 1) l2 from by
    rw [← hB, hl2, ← World.size_alloc w (.cells c t)]; exact (BoxAt.mk_new (w.alloc (.cells c t)) _ 28).alloc o2))
  have HL := Lib.hid (And.intro hl1 hl2)
  clear h hz hm hp hM NW hns hnw hl1 hl2
  rw [hB] at HH
  go_enter Try.func113, Try.ntmps113
  rw [hB]

  go_wp2_with (first
    | (at_builtin; refine wpList_append_own _ rfl (.tmp 8) (.tmp 10) 25 rfl (B + 1 + 1) 3 j0 (.int .i64 0) 1 8 Try.underlying25 hj ha0 ha1 ha2 rfl (by decide) _ 0 [] rfl (fresh3n _ (B + 1 + 1) _ ?hle ?hle2) ⟨bW, 0, none⟩ ns cW (rowZ d.wears) rfl HRW.out (HH.out _ ?hbe).rowW (rowZ_one _) HBW.out.1 HBW.out.2 ?hsz ?_
       go_must (
         case hle => simp only [World.size_setCell]
         case hle2 => have := H1.out.2.1; omega
         case hbe => exact (H1.out.2.2.2.2.setCell (Nat.le_refl _) _).alloc (by have := H1.out.2.1; simp only [World.size_setCell]; omega) _
         case hsz => have := H1.out.2.1; simp only [World.size_alloc, World.size_setCell]; omega
         intro v2 w2 hown2 hg2 _
         rw [Nat.zero_add, List.nil_append] at hown2
         obtain ⟨g2, k2, rfl, hg2a, hg2b⟩ := own_some hown2 HNS.out.2.2.2
         have hx := (H1.out.2.2.1.set 3 (.slice (some ⟨g1, 0, none⟩) M k1) (Nat.lt_of_lt_of_eq (by decide : 3 < 10) rfl)).alloc (.cells #[] 3)
         have hy := (H1.out.2.2.2.1.other ⟨B, 3, none⟩ (.slice (some ⟨g1, 0, none⟩) M k1) (by simp)).alloc (.cells #[] 3)
         have x2 := hx.keep (ch_grown hg2) (fun e => by have e2 : w1.heap.size = B := Option.some.inj e; have := H1.out.2.1; omega)
         have y2 := hy.keep (ch_grown hg2) (fun e => by have e2 : w1.heap.size = B + 1 := Option.some.inj e; have := H1.out.2.1; omega)
         have ho2 := own_ch ((own_ch H1.out.1 ((Ch.refl (fun j => j = B) _).setCell ⟨B, 3, none⟩ (.slice (some ⟨g1, 0, none⟩) M k1) (.inl rfl)) (fun j hj (e : j = B) => by have e3 : g1 = j := Option.some.inj hj; have := H1.out.2.1; omega)).alloc (.cells #[] 3)) (ch_grown hg2) (fun j hj e => by have e2 : w1.heap.size = j := Option.some.inj e; have e3 : g1 = j := Option.some.inj hj; have := H1.out.2.1; omega)
         have hb2 := Below.grown ((H1.out.2.2.2.2.setCell (Nat.le_refl _) (.slice (some ⟨g1, 0, none⟩) M k1)).alloc (o := .cells #[] 3) (by have := H1.out.2.1; simp only [World.size_setCell]; omega)) hg2 (by have := H1.out.2.1; simp only [World.size_alloc, World.size_setCell]; omega) (fun j e => by have e2 : w1.heap.size = j := Option.some.inj e; have := H1.out.2.1; omega)
         have c0 := x2.cell 0 _ rfl
         have c1 := x2.cell 1 _ rfl
         have c2 := x2.cell 2 _ rfl
         have c3 := x2.cell 3 _ rfl
         have c4 := x2.cell 4 _ rfl
         have c5 := x2.cell 5 _ rfl
         have c6 := x2.cell 6 _ rfl
         have c7 := x2.cell 7 _ rfl
         have c8 := x2.cell 8 _ rfl
         have c9 := x2.cell 9 _ rfl
         have f4 := x2.fr 4
         rw [HL.out.2] at y2
         have d0 := y2.cell 0 _ rfl
         have d1 := y2.cell 1 _ rfl
         have d2 := y2.cell 2 _ rfl
         have d3 := y2.cell 3 _ rfl
         have d4 := y2.cell 4 _ rfl
         have d5 := y2.cell 5 _ rfl
         have d6 := y2.cell 6 _ rfl
         have d7 := y2.cell 7 _ rfl
         have d8 := y2.cell 8 _ rfl
         have d9 := y2.cell 9 _ rfl
         have e0 := y2.fr 0
         have e1 := y2.fr 1
         have e2 := y2.fr 2
         have e3 := y2.fr 3
         have e4 := y2.fr 4
         have e5 := y2.fr 5
         have e6 := y2.fr 6
         have e7 := y2.fr 7
         have e8 := y2.fr 8
         have e9 := y2.fr 9
         have H2 := Lib.hid (And.intro ho2 (And.intro hown2 (And.intro hg2a hb2)))
         clear ho2 hown2 hg2 hg2a hg2b hx hy x2 y2 hb2 a0 a1 a2 a3 a4 f3 b4))
    | (at_builtin; go_must (
         refine wpList_append_own _ rfl (.tmp 3) (.tmp 5) 24 rfl (B + 1 + 1) 26 i0 (.int .u32 0) 1 4 Try.underlying24 hi hz0 hz1 hz2 rfl (by decide) _ 0 [] rfl (fresh27n _ (B + 1 + 1) (B + 1 + 1) ?hle (Nat.le_refl _)) ⟨bL, 0, none⟩ M cL (rowB d.flat) rfl HR.out (HH.out _ ?hbe).rowL (rowB_one _) HB.out.1 HB.out.2 ?hsz ?_
         case hle => simp only [World.size_alloc]; rw [HN.out]
         case hbe => exact (((Below.refl _ _).alloc (Nat.le_of_eq HN.out.symm) _).alloc (by rw [World.size_alloc]; have := HN.out; omega) _).alloc (by simp only [World.size_alloc]; have := HN.out; omega) _
         case hsz => simp only [World.size_alloc]; have := HN.out; omega
         intro v1 w1 hown1 hg1 _
         rw [Nat.zero_add, List.nil_append] at hown1
         obtain ⟨g1, k1, rfl, hg1a, hg1b⟩ := own_some hown1 HP.out
         have x1 := (X1.out _ _).keep (ch_grown hg1) (fun e => by have e2 : B + 1 + 1 = B := Option.some.inj e; omega)
         have y1 := (X2.out _ _ _).keep (ch_grown hg1) (fun e => by have e2 : B + 1 + 1 = B + 1 := Option.some.inj e; omega)
         have hb1 : Below B w w1 := Below.grown ((((Below.refl _ _).alloc (Nat.le_of_eq HN.out.symm) _).alloc (by rw [World.size_alloc]; have := HN.out; omega) _).alloc (by simp only [World.size_alloc]; have := HN.out; omega) _) hg1 (by simp only [World.size_alloc]; have := HN.out; omega) (fun j e => by have e2 : B + 1 + 1 = j := Option.some.inj e; omega)
         rw [HL.out.1] at x1
         have a0 := x1.cell 0 _ rfl
         have a1 := x1.cell 1 _ rfl
         have a2 := x1.cell 2 _ rfl
         have a3 := x1.cell 3 _ rfl
         have a4 := x1.cell 4 _ rfl
         have f3 := x1.fr 3
         have b4 := ((x1.set 3 (.slice (some ⟨g1, 0, none⟩) M k1) (Nat.lt_of_lt_of_eq (by decide : 3 < 10) rfl)).alloc (.cells #[] 3)).cell 4 _ rfl
         have H1 := Lib.hid (And.intro hown1 (And.intro (And.intro hg1a hg1b) (And.intro x1 (And.intro y1 hb1))))
         clear hown1 hg1 hg1a hg1b x1 y1 hb1))
    | fail)
  have nn := own_ne H2.out.1 H2.out.2.1 (by decide)
  have hg1 := H1.out.2.1
  have hg2 := H2.out.2.2.1
  have hr : RefIn w2 g1 g2 d := refIn_own (cL := k1) (cW := k2) (by rw [HNS.out.2.2.1]; exact H2.out.1) (by rw [HNS.out.1]; exact H2.out.2.1) nn HZ.out
  refine ⟨rfl, .agg #[.int .i64 ns, .int .i64 nw, .int .i64 d.limit, .slice (some ⟨g1, 0, none⟩) M k1, .slice (some ⟨g2, 0, none⟩) ns k2, .bool (!d.on), .bool d.armed, .int .i64 d.after, .int .u32 (w32 d.seed), .int .i64 d.ops], ?_, g1, k1, g2, k2, rfl, ?_, by omega, by omega, ?_, ?_⟩
  · simp [results, Try.results113, go_sem, *]
  · refine hr.keep (T := fun j => j = B ∨ j = B + 1) ?_ (by omega) (by omega)
    repeat' (first | refine Ch.setCell ?_ _ _ ?_ | exact Ch.refl _ _)
    all_goals first | exact .inl (.inl rfl) | exact .inl (.inr rfl)
  · exact own_cap H1.out.1
  · repeat' (first | refine Below.setCell ?_ ?_ _ | exact H2.out.2.2.2)
    all_goals first | exact Nat.le_refl B | exact Nat.le_succ B
end Go.Proofs.Ythpagbfabpfngaa
/- The contract of the reference's Program. -/
namespace Go.Proofs.Ythpagbfabpfngaa
open Go.RowKit

variable {n0 n1 n2 : Int} {bL nL cL bW nW cW : Nat} {off ar : Bool} {af sd op : Int}
/-- The cells of a device's value. -/
abbrev lD (n0 n1 n2 : Int) (bL nL cL bW nW cW : Nat) (off ar : Bool) (af sd op : Int) : List Value := [.int .i64 n0, .int .i64 n1, .int .i64 n2, .slice (some ⟨bL, 0, none⟩) nL cL, .slice (some ⟨bW, 0, none⟩) nW cW, .bool off, .bool ar, .int .i64 af, .int .u32 sd, .int .i64 op]
abbrev lZ : List Value := [.int .i64 0, .int .i64 0, .int .i64 0, .slice none 0 0, .slice none 0 0, .bool false, .bool false, .int .i64 0, .int .u32 0, .int .i64 0]
/-- The two blocks in which a call keeps its device and its result. -/
structure TwoAt (w0 w : World) (l : List Value) : Prop where
  x : BoxAt w w0.heap.size l
  y : BoxAt w (w0.heap.size + 1) lZ
  b : Below w0.heap.size w0 w
theorem TwoAt.start (w : World) (n0 n1 n2 : Int) (bL nL cL bW nW cW : Nat) (off ar : Bool) (af sd op : Int) :
    TwoAt w ((w.alloc (.cells #[.int .i64 n0, .int .i64 n1, .int .i64 n2, .slice (some ⟨bL, 0, none⟩) nL cL, .slice (some ⟨bW, 0, none⟩) nW cW, .bool off, .bool ar, .int .i64 af, .int .u32 sd, .int .i64 op] 28)).alloc (.cells #[.int .i64 0, .int .i64 0, .int .i64 0, .slice none 0 0, .slice none 0 0, .bool false, .bool false, .int .i64 0, .int .u32 0, .int .i64 0] 28)) (lD n0 n1 n2 bL nL cL bW nW cW off ar af sd op) := by
  refine ⟨(BoxAt.mk_new w _ 28).alloc _, ?_, ((Below.refl _ w).alloc (Nat.le_refl _) _).alloc (by rw [World.size_alloc]; omega) _⟩
  rw [← size_add w]
  exact BoxAt.mk_new _ _ 28
theorem TwoAt.new {w0 w w' : World} {l : List Value} (h : TwoAt w0 w l) (c : Below w.heap.size w w') : TwoAt w0 w' l := ⟨h.x.new c, h.y.new c, h.b.trans (c.mono (by have := h.x.lt; omega))⟩
/-- A device's value is stored into the call's own block. -/
theorem TwoAt.put {w0 w : World} {l : List Value} (h : TwoAt w0 w l) (hl : l.length = 10) (v0 v1 v2 v3 v4 v5 v6 v7 v8 v9 : Value) :
    TwoAt w0 ((((((((((w.setCell ⟨w0.heap.size, 0, none⟩ v0).setCell ⟨w0.heap.size, 1, none⟩ v1).setCell ⟨w0.heap.size, 2, none⟩ v2).setCell ⟨w0.heap.size, 3, none⟩ v3).setCell ⟨w0.heap.size, 4, none⟩ v4).setCell ⟨w0.heap.size, 5, none⟩ v5).setCell ⟨w0.heap.size, 6, none⟩ v6).setCell ⟨w0.heap.size, 7, none⟩ v7).setCell ⟨w0.heap.size, 8, none⟩ v8).setCell ⟨w0.heap.size, 9, none⟩ v9) [v0, v1, v2, v3, v4, v5, v6, v7, v8, v9] := by
  obtain ⟨x, y, b⟩ := h
  match l, hl with
  | [a0, a1, a2, a3, a4, a5, a6, a7, a8, a9], _ =>
    refine ⟨?_, ?_, ?_⟩
    · exact (((((((((x.set 0 v0 (by decide : 0 < 10)).set 1 v1 (by decide : 1 < 10)).set 2 v2 (by decide : 2 < 10)).set 3 v3 (by decide : 3 < 10)).set 4 v4 (by decide : 4 < 10)).set 5 v5 (by decide : 5 < 10)).set 6 v6 (by decide : 6 < 10)).set 7 v7 (by decide : 7 < 10)).set 8 v8 (by decide : 8 < 10)).set 9 v9 (by decide : 9 < 10)
    · exact y.keep (T := fun j => j = w0.heap.size) (by
        repeat' (first | refine Ch.setCell ?_ _ _ ?_ | exact Ch.refl _ _)
        all_goals exact .inl rfl) (by omega)
    · repeat' (first | refine Below.setCell ?_ ?_ _ | exact b)
      all_goals exact Nat.le_refl _
theorem ch_put (w : World) (B : Nat) (v0 v1 v2 v3 v4 v5 v6 v7 v8 v9 : Value) :
    Ch (fun j => j = B) w ((((((((((w.setCell ⟨B, 0, none⟩ v0).setCell ⟨B, 1, none⟩ v1).setCell ⟨B, 2, none⟩ v2).setCell ⟨B, 3, none⟩ v3).setCell ⟨B, 4, none⟩ v4).setCell ⟨B, 5, none⟩ v5).setCell ⟨B, 6, none⟩ v6).setCell ⟨B, 7, none⟩ v7).setCell ⟨B, 8, none⟩ v8).setCell ⟨B, 9, none⟩ v9) := by
  repeat' (first | refine Ch.setCell ?_ _ _ ?_ | exact Ch.refl _ _)
  all_goals exact .inl rfl

theorem progV_off (w : World) (s k x : Int) : Calls Try.prog 92 #[vD n0 n1 n2 bL nL cL bW nW cW true ar af sd op, .int .i64 s, .int .i64 k, .int .u32 x] w fun e w' =>
    e = .returned (.tuple #[vD n0 n1 n2 bL nL cL bW nW cW true ar af sd op, .int .i64 63]) ∧ Below w.heap.size w w' := by
  go_enter Try.func92, Try.ntmps92
  go_wp2
  refine ⟨rfl, .tuple #[vD n0 n1 n2 bL nL cL bW nW cW true ar af sd op, .int .i64 63], ?_, rfl, ?_⟩
  · simp [results, Try.results92, go_sem]
  · repeat' (first | exact Below.refl _ _ | refine Below.alloc ?_ ?_ _ | refine Below.setCell ?_ ?_ _)
    all_goals first | omega | (simp only [World.size_alloc]; omega)
theorem progV_no (w : World) (s k x : Int) (hi : ∀ w, Calls Try.prog 112 #[vD n0 n1 n2 bL nL cL bW nW cW false ar af sd op, .int .i64 s, .int .i64 k] w fun e w' => e = .returned (.bool false) ∧ Below w.heap.size w w') :
    Calls Try.prog 92 #[vD n0 n1 n2 bL nL cL bW nW cW false ar af sd op, .int .i64 s, .int .i64 k, .int .u32 x] w fun e w' =>
    e = .returned (.tuple #[vD n0 n1 n2 bL nL cL bW nW cW false ar af sd op, .int .i64 60]) ∧ Below w.heap.size w w' := by
  have HI := Lib.hid hi
  have HT := Lib.hid (TwoAt.start w n0 n1 n2 bL nL cL bW nW cW false ar af sd op)
  obtain ⟨B, hB⟩ : ∃ B, w.heap.size = B := ⟨_, rfl⟩
  clear hi
  go_enter Try.func92, Try.ntmps92
  rw [hB]
  go_wp2_with (first
    | (go_at_call 112; go_must (refine (HI.out _).mono ?_; rintro e w1 ⟨rfl, hb⟩; have h1 := HT.out.new hb; obtain ⟨x1, y1, b1⟩ := h1; rw [hB] at x1 y1 b1; have c0 := x1.cell 0 _ rfl; have c1 := x1.cell 1 _ rfl; have c2 := x1.cell 2 _ rfl; have c3 := x1.cell 3 _ rfl; have c4 := x1.cell 4 _ rfl; have c5 := x1.cell 5 _ rfl; have c6 := x1.cell 6 _ rfl; have c7 := x1.cell 7 _ rfl; have c8 := x1.cell 8 _ rfl; have c9 := x1.cell 9 _ rfl; have d0 := y1.cell 0 _ rfl; have d1 := y1.cell 1 _ rfl; have d2 := y1.cell 2 _ rfl; have d3 := y1.cell 3 _ rfl; have d4 := y1.cell 4 _ rfl; have d5 := y1.cell 5 _ rfl; have d6 := y1.cell 6 _ rfl; have d7 := y1.cell 7 _ rfl; have d8 := y1.cell 8 _ rfl; have d9 := y1.cell 9 _ rfl; have e0 := y1.fr 0; have e1 := y1.fr 1; have e2 := y1.fr 2; have e3 := y1.fr 3; have e4 := y1.fr 4; have e5 := y1.fr 5; have e6 := y1.fr 6; have e7 := y1.fr 7; have e8 := y1.fr 8; have e9 := y1.fr 9; have HB := Lib.hid b1; clear hb x1 y1 b1))
    | fail)
  refine ⟨rfl, .tuple #[vD n0 n1 n2 bL nL cL bW nW cW false ar af sd op, .int .i64 60], ?_, rfl, ?_⟩
  · simp [results, Try.results92, go_sem, *]
  · repeat' (first | refine Below.setCell ?_ ?_ _ | exact HB.out)
    all_goals exact Nat.le_succ B
theorem progV_bits (w : World) (s k : Int) (m t : Nat) (X Y : BitVec 32) (hi : ∀ w, Calls Try.prog 112 #[vD n0 n1 n2 bL nL cL bW nW cW false ar af sd op, .int .i64 s, .int .i64 k] w fun e w' => e = .returned (.bool true) ∧ Below w.heap.size w w')
    (m1 : IntKind.i64.wrap (s * n1) = (m : Int)) (m2 : IntKind.i64.wrap ((m : Int) + k) = (t : Int)) (ht : t < nL) (hc : w.cell? ⟨bL, t, none⟩ = some (.int .u32 (w32 Y))) (hne : (w32 (X ||| Y) == w32 Y) = false) :
    Calls Try.prog 92 #[vD n0 n1 n2 bL nL cL bW nW cW false ar af sd op, .int .i64 s, .int .i64 k, .int .u32 (w32 X)] w fun e w' =>
    e = .returned (.tuple #[vD n0 n1 n2 bL nL cL bW nW cW false ar af sd op, .int .i64 61]) ∧ Below w.heap.size w w' := by
  have HI := Lib.hid hi
  have HT := Lib.hid (TwoAt.start w n0 n1 n2 bL nL cL bW nW cW false ar af sd op)
  have HC := Lib.hid (fun (w2 : World) (hb : Below w.heap.size w w2) => (hb.cell (p := ⟨bL, t, none⟩) (by simpa using World.block_lt_of_cell? w _ hc)).trans hc)
  have t0 : (0 : Int) ≤ (t : Int) := by omega
  have t1 : (t : Int) < (nL : Int) := by omega
  have hor := or32 X Y
  have hn2 : (w32 (X ||| Y) == w32 Y) = false := hne
  obtain ⟨B, hB⟩ : ∃ B, w.heap.size = B := ⟨_, rfl⟩
  clear hi hne ht
  go_enter Try.func92, Try.ntmps92
  rw [hB]
  go_wp2_with (first
    | (go_at_call 112; go_must (refine (HI.out _).mono ?_; rintro e w1 ⟨rfl, hb⟩; have h1 := HT.out.new hb; have hc1 := HC.out _ h1.b; obtain ⟨x1, y1, b1⟩ := h1; rw [hB] at x1 y1 b1; have c0 := x1.cell 0 _ rfl; have c1 := x1.cell 1 _ rfl; have c2 := x1.cell 2 _ rfl; have c3 := x1.cell 3 _ rfl; have c4 := x1.cell 4 _ rfl; have c5 := x1.cell 5 _ rfl; have c6 := x1.cell 6 _ rfl; have c7 := x1.cell 7 _ rfl; have c8 := x1.cell 8 _ rfl; have c9 := x1.cell 9 _ rfl; have d0 := y1.cell 0 _ rfl; have d1 := y1.cell 1 _ rfl; have d2 := y1.cell 2 _ rfl; have d3 := y1.cell 3 _ rfl; have d4 := y1.cell 4 _ rfl; have d5 := y1.cell 5 _ rfl; have d6 := y1.cell 6 _ rfl; have d7 := y1.cell 7 _ rfl; have d8 := y1.cell 8 _ rfl; have d9 := y1.cell 9 _ rfl; have e0 := y1.fr 0; have e1 := y1.fr 1; have e2 := y1.fr 2; have e3 := y1.fr 3; have e4 := y1.fr 4; have e5 := y1.fr 5; have e6 := y1.fr 6; have e7 := y1.fr 7; have e8 := y1.fr 8; have e9 := y1.fr 9; have HB := Lib.hid b1; clear hb x1 y1 b1))
    | fail)
  go_quiet (fail)
  go_wp2
  refine ⟨rfl, .tuple #[vD n0 n1 n2 bL nL cL bW nW cW false ar af sd op, .int .i64 61], ?_, rfl, ?_⟩
  · simp [results, Try.results92, go_sem, *]
  · repeat' (first | refine Below.setCell ?_ ?_ _ | exact below_dn HB.out _)
    all_goals exact Nat.le_succ B
end Go.Proofs.Ythpagbfabpfngaa
