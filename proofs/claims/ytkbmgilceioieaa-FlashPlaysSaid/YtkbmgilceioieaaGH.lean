/- A call of both devices. -/
import Derived.Test.YtkbmgilceioieaaGG
import Derived.Deep.Cut
import Derived.Deep.CutRange
namespace Go.Proofs.Ytkbmgilceioieaa
open Go.RowKit
/-- A call of both, and the reference's device is kept. -/
theorem PlayAt.next {w0 w w3 : World} {q S : Nat} {g : Nat → Nat} {N bL cL bW cW bL' bW' : Nat} {d : Dev} {o : FOp} {lx : List Value} (h : PlayAt w0 w q S g N bL cL bW cW d lx) (hk : d.kept (d.step o)) (cL' cW' : Nat)
    (hd : DevAt w3 q S g (d.step o)) (hr : RefIn w3 bL' bW' (d.step o).nn) (h1 : bL' = bL ∨ w.heap.size ≤ bL') (h2 : bW' = bW ∨ w.heap.size ≤ bW') (hc : Ch (OwnD q S g d.ns) w w3) :
    PlayAt w0 ((((((((((w3.setCell ⟨N, 0, none⟩ (.int .i64 (d.step o).nn.ns)).setCell ⟨N, 1, none⟩ (.int .i64 (d.step o).nn.nw)).setCell ⟨N, 2, none⟩ (.int .i64 (d.step o).nn.limit)).setCell ⟨N, 3, none⟩ (.slice (some ⟨bL', 0, none⟩) ((d.step o).nn.ns * (d.step o).nn.nw : Nat) cL')).setCell ⟨N, 4, none⟩ (.slice (some ⟨bW', 0, none⟩) (d.step o).nn.ns cW')).setCell ⟨N, 5, none⟩ (.bool (!(d.step o).nn.on))).setCell ⟨N, 6, none⟩ (.bool (d.step o).nn.armed)).setCell ⟨N, 7, none⟩ (.int .i64 (d.step o).nn.after)).setCell ⟨N, 8, none⟩ (.int .u32 (w32 (d.step o).nn.seed))).setCell ⟨N, 9, none⟩ (.int .i64 (d.step o).nn.ops)) q S g N bL' cL' bW' cW' (d.step o) lx := by
  have n := h.ne
  have hns := hk.ns
  have own : ∀ j, OwnD q S g (d.step o).ns j → OwnD q S g d.ns j := fun j hj => by rw [hns] at hj; exact hj
  have hN : N < w.heap.size := h.box.lt
  have lt := h.dev.own_lt
  have a1 : ¬ OwnD q S g d.ns bL' := fun e => by
    rcases h1 with h1 | h1
    · rw [h1] at e; exact n.1 e
    · have := lt _ e; omega
  have a2 : ¬ OwnD q S g d.ns bW' := fun e => by
    rcases h2 with h2 | h2
    · rw [h2] at e; exact n.2.1 e
    · have := lt _ e; omega
  have b1 : N ≠ bL' := by rcases h1 with h1 | h1; · rw [h1]; exact n.2.2.2.1
                          · omega
  have b2 : N ≠ bW' := by rcases h2 with h2 | h2; · rw [h2]; exact n.2.2.2.2.1
                          · omega
  have sz := h.b.size
  have c1 : w0.heap.size < bL' := by rcases h1 with h1 | h1; · rw [h1]; exact n.2.2.2.2.2.2.1
                                     · have := h.xb.lt; omega
  have c2 : w0.heap.size < bW' := by rcases h2 with h2 | h2; · rw [h2]; exact n.2.2.2.2.2.2.2
                                     · have := h.xb.lt; omega
  have hp := ch_put w3 N (.int .i64 (d.step o).nn.ns) (.int .i64 (d.step o).nn.nw) (.int .i64 (d.step o).nn.limit) (.slice (some ⟨bL', 0, none⟩) ((d.step o).nn.ns * (d.step o).nn.nw : Nat) cL') (.slice (some ⟨bW', 0, none⟩) (d.step o).nn.ns cW') (.bool (!(d.step o).nn.on)) (.bool (d.step o).nn.armed) (.int .i64 (d.step o).nn.after) (.int .u32 (w32 (d.step o).nn.seed)) (.int .i64 (d.step o).nn.ops)
  have hx := h.box.keep hc n.2.2.1
  refine ⟨hd.keep hp (fun j hj e => n.2.2.1 (e ▸ own j hj)), hr.keep hp (fun e => b1 e.symm) (fun e => b2 e.symm), ?_, (h.xb.keep hc (fun e => by have := h.hq _ e; omega)).keep hp (by omega), fun j hj => h.hq j (own j hj), ⟨fun e => a1 (own _ e), fun e => a2 (own _ e), fun e => n.2.2.1 (own _ e), b1, b2, n.2.2.2.2.2.1, c1, c2⟩, ?_⟩
  · exact (((((((((hx.set 0 _ (by decide : 0 < 10)).set 1 _ (by decide : 1 < 10)).set 2 _ (by decide : 2 < 10)).set 3 _ (by decide : 3 < 10)).set 4 _ (by decide : 4 < 10)).set 5 _ (by decide : 5 < 10)).set 6 _ (by decide : 6 < 10)).set 7 _ (by decide : 7 < 10)).set 8 _ (by decide : 8 < 10)).set 9 _ (by decide : 9 < 10)
  · exact (h.b.trans (hc.below (fun j hj e => by have := h.hq _ e; omega) sz)).trans (hp.below (fun j hj e => by omega) (Nat.le_trans sz hc.size))
end Go.Proofs.Ytkbmgilceioieaa
