/- The reference's device: where its rows lie, and plain facts on them. -/
import Derived.Test.YthpagbfabpfngaaFN
import Derived.Test.YthpagbfabpfngaaOwn
import Derived.Test.YthpagbfabpfngaaBox
namespace Go.Proofs.Ythpagbfabpfngaa
open Go.RowKit

theorem flat_idx (nw s k : Nat) (hk : k < nw) : (s * nw + k) / nw = s ∧ (s * nw + k) % nw = k := by
  have h0 : 0 < nw := by omega
  constructor
  · rw [Nat.add_comm, Nat.add_mul_div_right _ _ h0, Nat.div_eq_of_lt hk]; omega
  · rw [Nat.add_comm, Nat.add_mul_mod_self_right, Nat.mod_eq_of_lt hk]
theorem flat_lt (ns nw s k : Nat) (hs : s < ns) (hk : k < nw) : s * nw + k < ns * nw := by
  have : (s + 1) * nw ≤ ns * nw := Nat.mul_le_mul_right _ hs
  rw [Nat.succ_mul] at this; omega
/-- Where the reference's rows lie. -/
structure RefIn (w : World) (bL bW : Nat) (d : Dev) : Prop where
  cl : ∀ s k, s < d.ns → k < d.nw → w.cell? ⟨bL, s * d.nw + k, none⟩ = some (.int .u32 (w32 (d.word s k)))
  fl : ∀ t, t < d.ns * d.nw → w.frozen? ⟨bL, t, none⟩ = false
  cw : ∀ i, i < d.ns → w.cell? ⟨bW, i, none⟩ = some (.int .i64 (d.worn i))
  fw : ∀ i, i < d.ns → w.frozen? ⟨bW, i, none⟩ = false
  ne : bL ≠ bW
  zn : d.ns ≤ 64 ∧ d.nw ≤ 1024 ∧ 0 < d.ns ∧ 0 < d.nw
section
variable {w w' : World} {bL bW : Nat} {d : Dev}
theorem RefIn.ltL (h : RefIn w bL bW d) : bL < w.heap.size := by have := World.block_lt_of_cell? w _ (h.cl 0 0 h.zn.2.2.1 h.zn.2.2.2); simpa using this
theorem RefIn.ltW (h : RefIn w bL bW d) : bW < w.heap.size := by have := World.block_lt_of_cell? w _ (h.cw 0 h.zn.2.2.1); simpa using this
theorem RefIn.keep {T : Nat → Prop} (h : RefIn w bL bW d) (c : Ch T w w') (h1 : ¬ T bL) (h2 : ¬ T bW) : RefIn w' bL bW d :=
  ⟨fun s k hs hk => c.cell (h.cl s k hs hk) h1, fun t ht => (c.frozen (p := ⟨bL, t, none⟩) h.ltL h1).trans (h.fl t ht), fun i hi => c.cell (h.cw i hi) h2, fun i hi => (c.frozen (p := ⟨bW, i, none⟩) h.ltW h2).trans (h.fw i hi), h.ne, h.zn⟩
theorem RefIn.new (h : RefIn w bL bW d) (c : Below w.heap.size w w') : RefIn w' bL bW d := h.keep (T := fun _ => False) (Ch.new c) (fun h => h) (fun h => h)
theorem RefIn.drewN (h : RefIn w bL bW d) (n : Nat) : RefIn (w.drewN n) bL bW d := ⟨h.cl, h.fl, h.cw, h.fw, h.ne, h.zn⟩
theorem RefIn.same {d' : Dev} (h : RefIn w bL bW d) (h1 : d'.ns = d.ns) (h2 : d'.nw = d.nw) (h3 : d'.word = d.word) (h4 : d'.worn = d.worn) : RefIn w bL bW d' :=
  ⟨by rw [h1, h2, h3]; exact h.cl, by rw [h1, h2]; exact h.fl, by rw [h1, h4]; exact h.cw, by rw [h1]; exact h.fw, h.ne, by rw [h1, h2]; exact h.zn⟩
theorem flat_get (d : Dev) (s k : Nat) (hs : s < d.ns) (hk : k < d.nw) : d.flat[s * d.nw + k]? = some (d.word s k) := by
  unfold Dev.flat
  rw [List.getElem?_map, List.getElem?_range (flat_lt _ _ _ _ hs hk)]
  simp [flat_idx _ s k hk]
theorem RefIn.cell (h : RefIn w bL bW d) (t : Nat) (ht : t < d.ns * d.nw) : w.cell? ⟨bL, t, none⟩ = some (.int .u32 (w32 (d.word (t / d.nw) (t % d.nw)))) := by
  have h0 := h.zn.2.2.2
  have := h.cl (t / d.nw) (t % d.nw) ((Nat.div_lt_iff_lt_mul h0).2 ht) (Nat.mod_lt _ h0)
  rwa [Nat.mul_comm, Nat.div_add_mod] at this
theorem RefIn.rowL (h : RefIn w bL bW d) : ∀ j u, (rowB d.flat)[j]? = some u → w.cell? ((⟨bL, 0, none⟩ : Addr).add j) = some u := by
  intro j u hu
  rw [show (⟨bL, 0, none⟩ : Addr).add j = ⟨bL, 0 + j, none⟩ from Addr.add_lit .., Nat.zero_add]
  unfold rowB Dev.flat at hu
  rw [List.map_map, List.getElem?_map] at hu
  by_cases hj : j < d.ns * d.nw
  · rw [List.getElem?_range hj] at hu
    rw [← hu]
    exact h.cell j hj
  · rw [List.getElem?_eq_none (by simp; omega)] at hu
    cases hu
theorem RefIn.rowW (h : RefIn w bL bW d) : ∀ j u, (rowZ d.wears)[j]? = some u → w.cell? ((⟨bW, 0, none⟩ : Addr).add j) = some u := by
  intro j u hu
  rw [show (⟨bW, 0, none⟩ : Addr).add j = ⟨bW, 0 + j, none⟩ from Addr.add_lit .., Nat.zero_add]
  unfold rowZ Dev.wears at hu
  rw [List.map_map, List.getElem?_map] at hu
  by_cases hj : j < d.ns
  · rw [List.getElem?_range hj] at hu
    rw [← hu]
    exact h.cw j hj
  · rw [List.getElem?_eq_none (by simp; omega)] at hu
    cases hu
theorem rowZ_one (l : List Int) : ∀ u ∈ rowZ l, u.oneCell' = true := by
  intro u hu
  obtain ⟨x, _, rfl⟩ := List.mem_map.1 hu
  rfl
/-- Of two rows that a call owns. -/
theorem refIn_own {b1 b2 cL cW : Nat} (h1 : w.ownsRow b1 26 1 (.slice (some ⟨bL, 0, none⟩) (d.ns * d.nw) cL) (d.ns * d.nw) (rowB d.flat)) (h2 : w.ownsRow b2 3 1 (.slice (some ⟨bW, 0, none⟩) d.ns cW) d.ns (rowZ d.wears)) (ne : bL ≠ bW)
    (zn : d.ns ≤ 64 ∧ d.nw ≤ 1024 ∧ 0 < d.ns ∧ 0 < d.nw) : RefIn w bL bW d := by
  refine ⟨fun s k hs hk => ?_, fun t ht => h1.frozenAt t, fun i hi => ?_, fun i hi => h2.frozenAt i, ne, zn⟩
  · rw [h1.cellAt _ (by have := flat_lt _ _ _ _ hs hk; omega)]
    unfold rowB
    rw [List.getElem?_map, flat_get d s k hs hk]; rfl
  · rw [h2.cellAt _ (by omega)]
    unfold rowZ Dev.wears
    rw [List.getElem?_map, List.getElem?_map, List.getElem?_range hi]; rfl
/-- A store into a word. -/
theorem RefIn.setW (h : RefIn w bL bW d) (i j : Nat) (x : BitVec 32) (hi : i < d.ns) (hj : j < d.nw) : RefIn (w.setCell ⟨bL, i * d.nw + j, none⟩ (Value.int .u32 (w32 x))) bL bW (d.put i j x) := by
  refine ⟨fun s k hs hk => ?_, fun t ht => by rw [World.frozen?_setCell]; exact h.fl t ht, fun a ha => ?_, fun a ha => by rw [World.frozen?_setCell]; exact h.fw a ha, h.ne, h.zn⟩
  · show World.cell? _ ⟨bL, s * d.nw + k, none⟩ = some (Value.int .u32 (w32 (upd d.word i j x s k)))
    unfold upd
    by_cases e : s = i ∧ k = j
    · rw [if_pos e, e.1, e.2]
      exact World.cell?_setCell_same _ _ _ (h.cl i j hi hj)
    · rw [if_neg e, World.cell?_setCell_other _ _ _ _ (fun e' => e ?_)]
      · exact h.cl s k hs hk
      · have e2 : i * d.nw + j = s * d.nw + k := by injection e'
        have a1 := flat_idx d.nw s k hk
        have a2 := flat_idx d.nw i j hj
        rw [e2] at a2
        exact ⟨a1.1.symm.trans a2.1, a1.2.symm.trans a2.2⟩
  · rw [World.cell?_setCell_other _ _ _ _ (fun e' => h.ne (by injection e'))]
    exact h.cw a ha
/-- A store into how often a sector was erased. -/
theorem RefIn.setWorn (h : RefIn w bL bW d) (i : Nat) (hi : i < d.ns) : RefIn (w.setCell ⟨bW, i, none⟩ (Value.int .i64 (d.worn i + 1))) bL bW (d.wear i) := by
  refine ⟨fun s k hs hk => ?_, fun t ht => by rw [World.frozen?_setCell]; exact h.fl t ht, fun a ha => ?_, fun a ha => by rw [World.frozen?_setCell]; exact h.fw a ha, h.ne, h.zn⟩
  · rw [World.cell?_setCell_other _ _ _ _ (fun e' => h.ne (by injection e' with e1 _; exact e1.symm))]
    exact h.cl s k hs hk
  · show World.cell? _ ⟨bW, a, none⟩ = some (Value.int .i64 (updI d.worn i (d.worn i + 1) a))
    unfold updI
    by_cases e : a = i
    · rw [if_pos e, e]
      exact World.cell?_setCell_same _ _ _ (h.cw i hi)
    · rw [if_neg e, World.cell?_setCell_other _ _ _ _ (fun e' => e (by injection e' with _ e2; exact e2.symm))]
      exact h.cw a ha
end
end Go.Proofs.Ythpagbfabpfngaa
