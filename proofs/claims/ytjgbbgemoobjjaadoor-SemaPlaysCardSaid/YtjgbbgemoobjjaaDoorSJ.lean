/- What lies where between two calls of SemaPlays; the calls of the law. -/
import Derived.Test.YtjgbbgemoobjjaaDoorSH
namespace Go.Proofs.YtjgbbgemoobjjaaDoor
open Go.RowKit

def kd7 (K : Int) : Int := (K.tmod 7 + 7) % 7
theorem kd7_parts (K : Int) (k : Int) (hk : kd7 K = k) : ∃ x, K.tmod 7 = x ∧ -6 ≤ x ∧ x ≤ 6 ∧ (x + 7) % 7 = k := by
  refine ⟨K.tmod 7, rfl, ?_, ?_, hk⟩
  · have := Int.lt_tmod_of_pos K (show (0 : Int) < 7 by decide); omega
  · have := Int.tmod_lt_of_pos K (show (0 : Int) < 7 by decide); omega
/-- A call of the law's, and where calls lie. -/
def opS (O : List (Int × Int)) (k : Nat) : Int × Int := O.getD k (0, 0)
def OpsS (w : World) (sp : Option Addr) (b off : Nat) (O : List (Int × Int)) : Prop := (0 < O.length → sp = some ⟨b, off, none⟩ ∧ b < w.heap.size) ∧
  ∀ k, k < O.length → w.cell? ⟨b, off + k * 2, none⟩ = some (.int .i64 (opS O k).1) ∧ w.cell? ⟨b, off + k * 2 + 1, none⟩ = some (.int .i64 (opS O k).2)
/-- What a call makes of a sema, what it answers: the number, the truth, the error; the rows. -/
def stepS (s : St) (K t : Int) : St × Int × Bool × Int × List Int :=
  if kd7 K = 3 ∨ kd7 K = 4 then ((putS s t).1, (putS s t).2.1, (putS s t).2.2.1, (putS s t).2.2.2, [])
  else if kd7 K = 5 then (quitS s t, 0, decide (t ∈ ws s.x), 0, [])
  else if kd7 K = 6 then ((endS s t).1, 0, false, 0, (endS s t).2)
  else ((getS s t).1, 0, (getS s t).2.1, (getS s t).2.2, [])
theorem Inv.endS {mo : Int} {s : St} (h : Inv mo s) (t : Int) : Inv mo (endS s t).1 := (h.quit t).endK t _
theorem Inv.step {mo : Int} {s : St} (h : Inv mo s) (K t : Int) : Inv mo (stepS s K t).1 := by
  unfold stepS
  split
  · exact h.put t
  split
  · exact h.quit t
  split
  · exact h.endS t
  · exact h.get t
theorem endS_len {mo : Int} {s : St} (h : Inv mo s) (t : Int) : (endS s t).2.length ≤ 65536 := by
  have h1 := endK_len (quitS s t) t (hasS s t).toNat
  have h2 : (hasS s t).toNat ≤ 65536 := by
    unfold hasS
    split
    · have := h.g1 t.toNat (by omega); omega
    · decide
  show (endK _ _ _).2.length ≤ _
  omega
theorem step_len {mo : Int} {s : St} (h : Inv mo s) (K t : Int) : (stepS s K t).2.2.2.2.length ≤ 65536 := by
  unfold stepS
  split
  · exact Nat.zero_le _
  split
  · exact Nat.zero_le _
  split
  · exact endS_len h t
  · exact Nat.zero_le _
/-- Where the sema lies, and the law's model. -/
structure PX (w0 w : World) (B M : Nat) (mo : Int) (s r : St) (sp : Option Addr) (cap : Nat) : Prop where
  s : SAt w B mo s
  m : RowAt w M 48 (md r.f r.g sp (ws r.x).length cap).toArray
  q : SI (fun j => j = B ∨ j = M) w sp cap (ws r.x)
  b : Below w0.heap.size w0 w
  hB : w0.heap.size ≤ B
  BM : B < M
section
variable {w0 w w' : World} {B M : Nat} {mo : Int} {s r s' r' : St} {sp sp' : Option Addr} {cap cap' : Nat}
theorem PX.ltM (h : PX w0 w B M mo s r sp cap) : M < w.heap.size := h.m.lt
theorem PX.hT (h : PX w0 w B M mo s r sp cap) : ∀ j, (j = B ∨ j = M) → j < w.heap.size := fun j hj => by have := h.ltM; have := h.BM; omega
theorem PX.new (h : PX w0 w B M mo s r sp cap) (hb : Below w.heap.size w w') : PX w0 w' B M mo s r sp cap :=
  ⟨h.s.new hb, h.m.new hb, h.q.new hb, h.b.trans (hb.mono h.b.size), h.hB, h.BM⟩
theorem PX.dn (h : PX w0 w B M mo s r sp cap) (n : Nat) : PX w0 (w.drewN n) B M mo s r sp cap := h.new (below_dn (Below.refl _ _) n)
theorem PX.code (h : PX w0 w B M mo s r sp cap) (hs : SAt w' B mo s') (hc : Ch (fun j => j = B) w w') : PX w0 w' B M mo s' r sp cap :=
  ⟨hs, h.m.keep hc (by have := h.BM; omega), h.q.keep' hc (fun j e => .inl e), h.b.trans (hc.below (fun k hk e => by have := h.hB; omega) h.b.size), h.hB, h.BM⟩
theorem PX.row (h : PX w0 w B M mo s r sp cap) (hq : SI (fun j => j = B ∨ j = M) w sp' cap' (ws r'.x)) : PX w0 (w.setRow M (md r'.f r'.g sp' (ws r'.x).length cap').toArray) B M mo s r' sp' cap' :=
  ⟨h.s.keep (ch_setRow w M _) (by have := h.BM; omega), h.m.put, hq.keep' (ch_setRow w M _) (fun j e => .inr e), h.b.trans ((ch_setRow w M _).below (fun k hk e => by have := h.hB; have := h.BM; omega) h.b.size), h.hB, h.BM⟩
theorem PX.law (h : PX w0 w B M mo s r sp cap) (hq : SI (fun j => j = B ∨ j = M) w' sp' cap' (ws r'.x)) (hb : Below w.heap.size w w') : PX w0 (w'.setRow M (md r'.f r'.g sp' (ws r'.x).length cap').toArray) B M mo s r' sp' cap' := (h.new hb).row hq
theorem PX.setW (h : PX w0 w B M mo s r sp cap) {y : BitVec 32} (hq : SI (fun j => j = B ∨ j = M) w sp' cap' (ws y)) : PX w0 (w.setCell ⟨M, 17, none⟩ (.slice sp' (ws y).length cap')) B M mo s ⟨r.f, r.g, y⟩ sp' cap' := by
  have hc := MI.chX w M 17 (.slice sp' (ws y).length cap')
  refine ⟨h.s.keep hc (by have := h.BM; omega), ?_, hq.keep' hc (fun j e => .inr e), h.b.trans (hc.below (fun k hk e => by have := h.hB; have := h.BM; omega) h.b.size), h.hB, h.BM⟩
  have := h.m.setC 17 (.slice sp' (ws y).length cap')
  rw [List.setIfInBounds_toArray, md_setW] at this
  exact this
theorem PX.cell (h : PX w0 w B M mo s r sp cap) (j : Nat) : w.cell? ⟨M, j, none⟩ = (md r.f r.g sp (ws r.x).length cap)[j]? := by rw [h.m.cell]; simp
theorem PX.c0 (h : PX w0 w B M mo s r sp cap) : w.cell? ⟨M, 0, none⟩ = some (.int .i64 r.f) := h.cell 0
theorem PX.cg (h : PX w0 w B M mo s r sp cap) (k : Nat) (hk : k < 16) : w.cell? ⟨M, 1 + k, none⟩ = some (.int .i64 (r.g k)) := (h.cell _).trans (md_g _ _ _ _ _ _ hk)
theorem PX.cw (h : PX w0 w B M mo s r sp cap) : w.cell? ⟨M, 17, none⟩ = some (.slice sp (ws r.x).length cap) := (h.cell _).trans (md_w ..)
theorem PX.fr (h : PX w0 w B M mo s r sp cap) (j : Nat) : w.frozen? ⟨M, j, none⟩ = false := h.m.fr j
/-- What the reference's Of makes of those that wait is the set. -/
theorem PX.of_ (h : PX w0 w B M mo s r sp cap) : Calls Tryd.prog 28 #[.slice sp (ws r.x).length cap] w fun e w' => e = .returned (.int .u32 (w32 r.x)) ∧ w = w' := by
  obtain ⟨g, off, h1, _⟩ := h.q.lies
  have := refof_any sp g off cap (ws r.x) w (by have := ws_len r.x; omega) h1
  have e : ofR (ws r.x) = r.x := by
    apply BitVec.eq_of_getLsbD_eq
    intro i hi
    rw [ofR_bit _ _ hi]
    cases hx : r.x.getLsbD i with
    | true =>
      have : (i : Int) ∈ ws r.x := (mem_ints _ _).2 ⟨by omega, by rw [Int.toNat_natCast]; exact (mem_lst _ _ _).2 ⟨hi, hx⟩⟩
      simpa using this
    | false =>
      have : ¬ (i : Int) ∈ ws r.x := fun hm => by
        have := (mem_lst _ _ _).1 ((mem_ints _ _).1 hm).2
        rw [Int.toNat_natCast, hx] at this
        cases this.2
      simpa using this
  rw [e] at this
  exact this
end
/-- A row of ints that two slices hold. -/
def R2 (w : World) (vg vw : Value) (L : List Int) : Prop := w.ownsRow 0 3 1 vg L.length (rowI L) ∧ w.ownsRow 0 3 1 vw L.length (rowI L)
theorem R2.nil (w : World) : R2 w (.slice none 0 0) (.slice none 0 0) [] := ⟨World.ownsRow_nil _ _ _ _, World.ownsRow_nil _ _ _ _⟩
theorem R2.new {w w' : World} {vg vw : Value} {L : List Int} (h : R2 w vg vw L) (hb : Below w.heap.size w w') : R2 w' vg vw L := ⟨own_below h.1 hb (Nat.le_refl _), own_below h.2 hb (Nat.le_refl _)⟩
theorem R2.dn {w : World} {vg vw : Value} {L : List Int} (h : R2 w vg vw L) (n : Nat) : R2 (w.drewN n) vg vw L := h.new (below_dn (Below.refl _ _) n)
/-- What End gave and what the law's end gave. -/
theorem R2.mk {w w1 w2 : World} {M : Nat} {vg vw : Value} {L : List Int} {cs : Array Value} (h1 : w1.ownsRow w.heap.size 3 1 vg L.length (rowI L)) (h2 : w2.ownsRow w1.heap.size 3 1 vw L.length (rowI L)) (hb : Below w1.heap.size w1 w2) (hM : M < w.heap.size) (hM1 : M < w1.heap.size) : R2 (w2.setRow M cs) vg vw L :=
  ⟨own_mono (own_ch (own_below h1 hb (Nat.le_refl _)) (ch_setRow w2 M cs) (fun g hg e => by have := own_ge h1 g hg; omega)) (Nat.zero_le _), own_mono (own_ch h2 (ch_setRow w2 M cs) (fun g hg e => by have := own_ge h2 g hg; omega)) (Nat.zero_le _)⟩
theorem R2.at_ {w : World} {sg sw : Option Addr} {n cg cw : Nat} {L : List Int} (h : R2 w (.slice sg n cg) (.slice sw n cw) L) (hn : L.length = n) (j : Nat) (hj : j < n) :
    ∃ g1 g2, sg = some ⟨g1, 0, none⟩ ∧ sw = some ⟨g2, 0, none⟩ ∧ w.cell? ⟨g1, j, none⟩ = some (.int .i64 (nth L j)) ∧ w.cell? ⟨g2, j, none⟩ = some (.int .i64 (nth L j)) := by
  subst hn
  obtain ⟨sp1, g1, c1, hv1, hs1, h1⟩ := own_ints h.1 rfl
  obtain ⟨sp2, g2, c2, hv2, hs2, h2⟩ := own_ints h.2 rfl
  injection hv1 with e1 _ _
  injection hv2 with e2 _ _
  exact ⟨g1, g2, e1.trans (hs1 (by omega)).1, e2.trans (hs2 (by omega)).1, h1 j hj, h2 j hj⟩
end Go.Proofs.YtjgbbgemoobjjaaDoor
