/- Where both devices lie between the law's calls; what a call makes of a word. -/
import Derived.Test.YtkbmgilceioieaaGF
namespace Go.Proofs.Ytkbmgilceioieaa
open Go.RowKit

/-- The calls that a row hands in. -/
def opF (O : List FOp) (k : Nat) : FOp := O.getD k ⟨0, 0, 0, 0#32⟩
structure OpsAt (w : World) (b off : Nat) (O : List FOp) : Prop where
  c : ∀ k, k < O.length → w.cell? ⟨b, off + k * 4, none⟩ = some (.int .i64 (opF O k).kind) ∧ w.cell? ⟨b, off + k * 4 + 1, none⟩ = some (.int .i64 (opF O k).sec) ∧ w.cell? ⟨b, off + k * 4 + 2, none⟩ = some (.int .i64 (opF O k).wrd) ∧ w.cell? ⟨b, off + k * 4 + 3, none⟩ = some (.int .u32 (w32 (opF O k).w))
  ok : ∀ k, k < O.length → -9223372036854775808 ≤ (opF O k).wrd ∧ (opF O k).wrd ≤ 9223372036854775807
  lt : 0 < O.length → b < w.heap.size
theorem OpsAt.below {w w' : World} {b off : Nat} {O : List FOp} (h : OpsAt w b off O) (c : Below w.heap.size w w') : OpsAt w' b off O :=
  ⟨fun k hk => by
    have hb := h.lt (by omega)
    obtain ⟨c0, c1, c2, c3⟩ := h.c k hk
    exact ⟨(c.cell (p := ⟨b, _, none⟩) hb).trans c0, (c.cell (p := ⟨b, _, none⟩) hb).trans c1, (c.cell (p := ⟨b, _, none⟩) hb).trans c2, (c.cell (p := ⟨b, _, none⟩) hb).trans c3⟩, h.ok, fun h0 => Nat.lt_of_lt_of_le (h.lt h0) c.size⟩
/-- The device behind k calls. -/
def stF (d : Dev) (O : List FOp) : Nat → Dev
  | 0 => d
  | k + 1 => (stF d O k).step (opF O k)
structure GoodF (d d' : Dev) (k : Nat) : Prop where
  ns : d'.ns = d.ns
  nw : d'.nw = d.nw
  lim : d'.limit = d.limit
  ops : 0 ≤ d'.ops ∧ d'.ops ≤ d.ops + k
  af : -9223372036854775808 ≤ d'.after ∧ d'.after ≤ 9223372036854775807
  worn : ∀ i, 0 ≤ d'.worn i
theorem good_st {d : Dev} {O : List FOp} (h : d.okE) (hops : d.ops = 0) (hO : ∀ k, k < O.length → -9223372036854775808 ≤ (opF O k).wrd ∧ (opF O k).wrd ≤ 9223372036854775807) (hl : O.length ≤ 60) : ∀ k, k ≤ O.length → GoodF d (stF d O k) k ∧ (stF d O k).okE
  | 0, _ => ⟨⟨rfl, rfl, rfl, ⟨h.1.1, by show d.ops ≤ d.ops + _; omega⟩, h.1.2.2, h.2.2⟩, h⟩
  | k + 1, hk => by
    obtain ⟨g, o⟩ := good_st h hops hO hl k (by omega)
    have s := step_kept o (opF O k) (hO k (by omega))
    have hlim : (stF d O (k + 1)).limit ≤ 1048576 := by show ((stF d O k).step (opF O k)).limit ≤ _; rw [s.lim]; exact o.2.1
    have g' : GoodF d (stF d O (k + 1)) (k + 1) := ⟨s.ns.trans g.ns, s.nw.trans g.nw, s.lim.trans g.lim, ⟨s.ops.1, by have := s.ops.2; have := g.ops.2; show ((stF d O k).step (opF O k)).ops ≤ _; omega⟩, s.af, s.worn⟩
    exact ⟨g', ⟨g'.ops.1, by have := g'.ops.2; omega, g'.af.1, g'.af.2⟩, hlim, g'.worn⟩
abbrev lX (bL cL bW cW : Nat) (d : Dev) : List Value := [.int .i64 d.ns, .int .i64 d.nw, .int .i64 d.limit, .slice (some ⟨bL, 0, none⟩) (d.ns * d.nw : Nat) cL, .slice (some ⟨bW, 0, none⟩) d.ns cW, .bool (!d.on), .bool d.armed, .int .i64 d.after, .int .u32 (w32 d.seed), .int .i64 d.ops]
/-- Where both devices lie, in a call that keeps the reference's in block N. -/
structure PlayAt (w0 w : World) (q S : Nat) (g : Nat → Nat) (N bL cL bW cW : Nat) (d : Dev) (lx : List Value) : Prop where
  dev : DevAt w q S g d
  ref : RefIn w bL bW d.nn
  box : BoxAt w N (lX bL cL bW cW d.nn)
  xb : BoxAt w w0.heap.size lx
  hq : ∀ j, OwnD q S g d.ns j → w0.heap.size < j
  ne : ¬ OwnD q S g d.ns bL ∧ ¬ OwnD q S g d.ns bW ∧ ¬ OwnD q S g d.ns N ∧ N ≠ bL ∧ N ≠ bW ∧ w0.heap.size < N ∧ w0.heap.size < bL ∧ w0.heap.size < bW
  b : Below w0.heap.size w0 w
section
variable {w0 w w' : World} {q S : Nat} {g : Nat → Nat} {N bL cL bW cW : Nat} {d : Dev} {lx : List Value}
theorem PlayAt.new (h : PlayAt w0 w q S g N bL cL bW cW d lx) (c : Below w.heap.size w w') : PlayAt w0 w' q S g N bL cL bW cW d lx :=
  ⟨h.dev.new c, h.ref.new c, h.box.new c, h.xb.new c, h.hq, h.ne, h.b.trans (c.mono h.b.size)⟩
/-- A word of the reference's is written as it is. -/
theorem PlayAt.same (h : PlayAt w0 w q S g N bL cL bW cW d lx) (i j : Nat) (hi : i < d.ns) (hj : j < d.nw) : PlayAt w0 (w.setCell ⟨bL, i * d.nw + j, none⟩ (.int .u32 (w32 (d.word i j)))) q S g N bL cL bW cW d lx := by
  have n := h.ne
  have hc : Ch (fun k => k = bL) w (w.setCell ⟨bL, i * d.nw + j, none⟩ (.int .u32 (w32 (d.word i j)))) := (Ch.refl _ _).setCell _ _ (.inl rfl)
  have hs := h.ref.setW i j (d.word i j) hi hj
  have hp : d.nn.put i j (d.word i j) = d.nn := by
    unfold Dev.put
    have : upd d.nn.word i j (d.word i j) = d.nn.word := by
      funext a b
      unfold upd
      split
      · rename_i e; rw [e.1, e.2]; rfl
      · rfl
    rw [this]
  rw [hp] at hs
  exact ⟨h.dev.keep hc (fun k hk e => n.1 (e ▸ hk)), hs, h.box.keep hc n.2.2.2.1, h.xb.keep hc (by omega), h.hq, n, h.b.setCell (by show _ ≤ bL; omega) _⟩
end
/-- What a call makes of a word, and of which sector. -/
theorem step_erase {d : Dev} {o : FOp} (h : o.kind % 8 = 4) (i j : Nat) (hj : j < d.nw) : within (d.word i j) ((d.step o).word i j) = true ∧ ((i : Int) ≠ o.sec → (d.step o).word i j = d.word i j) := by
  have hs : d.step o = (d.erase o.sec).1 := by unfold Dev.step; rw [if_pos h]
  rw [hs]
  have self : within (d.word i j) (d.word i j) = true := (within_iff _ _).2 (fun _ _ h => h)
  obtain ⟨e1, e2, e3, e4, e5⟩ := goes_same (d.wear o.sec.toNat)
  have key : ∀ f : Nat → BitVec 32, (∀ b, within (d.word o.sec.toNat b) (f b) = true) → 0 ≤ o.sec → within (d.word i j) (((d.wear o.sec.toNat).goes.1.part o.sec.toNat f d.nw).word i j) = true ∧ ((i : Int) ≠ o.sec → ((d.wear o.sec.toNat).goes.1.part o.sec.toNat f d.nw).word i j = d.word i j) := by
    intro f hf h0
    show within (d.word i j) (if i = o.sec.toNat ∧ j < d.nw then f j else (d.wear o.sec.toNat).goes.1.word i j) = true ∧ (_ → (if i = o.sec.toNat ∧ j < d.nw then f j else (d.wear o.sec.toNat).goes.1.word i j) = _)
    rw [e3]
    by_cases e : i = o.sec.toNat
    · rw [if_pos ⟨e, hj⟩]
      exact ⟨by rw [e]; exact hf j, fun h => absurd (by omega) h⟩
    · rw [if_neg (fun h => e h.1)]
      exact ⟨self, fun _ => rfl⟩
  unfold Dev.erase
  by_cases hE : d.readE o.sec 0 = 0
  · rw [if_pos hE]
    have h0 := (readE_ok hE).1
    by_cases hl : d.limit ≤ d.worn o.sec.toNat
    · rw [if_pos hl]; exact ⟨self, fun _ => rfl⟩
    · rw [if_neg hl]
      split
      · exact key _ (fun b => (within_iff _ _).2 (fun k hk hb => by rw [BitVec.getLsbD_or, hb]; rfl)) h0
      · refine key _ (fun b => (within_iff _ _).2 (fun k hk _ => ?_)) h0
        rw [show (4294967295#32 : BitVec 32) = BitVec.allOnes 32 from rfl, BitVec.getLsbD_allOnes]
        simpa using hk
  · rw [if_neg hE]; exact ⟨self, fun _ => rfl⟩
theorem step_other {d : Dev} {o : FOp} (h : o.kind % 8 ≠ 4) (i j : Nat) : within ((d.step o).word i j) (d.word i j) = true := by
  have self : within (d.word i j) (d.word i j) = true := (within_iff _ _).2 (fun _ _ h => h)
  unfold Dev.step
  rw [if_neg h]
  split
  · exact self
  split
  · exact self
  split
  · exact self
  unfold Dev.program
  obtain ⟨e1, e2, e3, e4, e5⟩ := goes_same d
  by_cases hE : d.readE o.sec o.wrd = 0
  · rw [if_pos hE]
    obtain ⟨s0, s1, k0, k1, hw⟩ := readE_ok hE
    rw [hw]
    split
    · rename_i hin
      split
      · show within (upd d.goes.1.word _ _ _ i j) _ = true
        rw [e3]
        unfold upd
        split
        · rename_i e; rw [e.1, e.2]
          exact (within_iff _ _).2 (fun k hk hb => by rw [BitVec.getLsbD_and] at hb; revert hb; cases (d.word o.sec.toNat o.wrd.toNat).getLsbD k <;> simp)
        · exact self
      · show within (upd d.goes.1.word _ _ _ i j) _ = true
        rw [e3]
        unfold upd
        split
        · rename_i e; rw [e.1, e.2]; exact hin
        · exact self
    · exact self
  · rw [if_neg hE]; exact self
theorem within_zero (x : BitVec 32) : within 0#32 x = true := (within_iff _ _).2 (fun k hk hb => by simp at hb)
end Go.Proofs.Ytkbmgilceioieaa
