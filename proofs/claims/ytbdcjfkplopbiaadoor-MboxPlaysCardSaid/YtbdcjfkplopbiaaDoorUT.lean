/- What lies where between two calls of MboxPlays' loop: the box, and the row of all that is there. -/
import Derived.Test.YtbdcjfkplopbiaaDoorUS
import Derived.Test.YtbdcjfkplopbiaaDoorUH
namespace Go.Proofs.YtbdcjfkplopbiaaDoor
open Go.RowKit

/-- The row that the law keeps: which slice, and no block that a call of the box would turn. -/
structure RAt (w0 w : World) (B : Nat) (rm : Int) (f : Nat → List Int) (sp : Option Addr) (cap : Nat) (V : Nat → Prop) : Prop where
  cap_ : (toldF f).length ≤ cap
  sn : (sp = none ∧ cap = 0) ∨ ∃ b o, sp = some ⟨b, o, none⟩
  row : NL w sp (toldF f)
  box : BAt w V B rm f
  old : ∀ j, j < w0.heap.size → V j
  av : ∀ a, sp = some a → V a.block
  lt : ∀ j, V j → j < w.heap.size
  low : Below w0.heap.size w0 w
theorem NL.nil (w : World) (sp : Option Addr) : NL w sp [] := ⟨0, 0, fun h => absurd h (by simp), fun j u hu => by simp [prow] at hu⟩
theorem NL.own {w : World} {base : Nat} {v : Value} {X : List (Int × Int)} (h : w.ownsRow base 30 2 v X.length (prow X)) :
    ∃ sp cap, v = .slice sp X.length cap ∧ X.length ≤ cap ∧ ((sp = none ∧ cap = 0) ∨ ∃ b o, sp = some ⟨b, o, none⟩) ∧ NL w sp X ∧ ∀ a, sp = some a → base ≤ a.block ∧ a.block < w.heap.size := by
  have h2 := h.2
  rcases h2 with ⟨rfl, hh⟩ | ⟨g, cap, cur, rfl, _, _, h3, _⟩
  · exact ⟨none, 0, by rw [hh], by omega, .inl ⟨rfl, rfl⟩, by rw [List.eq_nil_of_length_eq_zero hh]; exact NL.nil _ _, fun a ha => by cases ha⟩
  · have hl := h.lt g rfl
    refine ⟨some ⟨g, 0, none⟩, cap, rfl, ?_, .inr ⟨g, 0, rfl⟩, ⟨g, 0, fun _ => ⟨rfl, hl.2⟩, fun j u hu => ?_⟩, fun a ha => by injection ha with ha; subst ha; exact hl⟩
    · exact h3
    · have hlen := prow_len X
      have hj := (List.getElem?_eq_some_iff.1 hu).1
      rw [Nat.zero_add]
      exact (h.cellAt j (by omega)).trans hu
theorem RAt.start {w0 w : World} {B : Nat} {rm : Int} (h : BAt w (fun j => j < w0.heap.size) B rm f0) (hb : Below w0.heap.size w0 w) : RAt w0 w B rm f0 none 0 (fun j => j < w0.heap.size) := by
  refine ⟨by rw [told_f0]; exact Nat.le_refl _, .inl ⟨rfl, rfl⟩, by rw [told_f0]; exact NL.nil _ _, h, fun j hj => hj, fun a ha => (by cases ha), fun j hj => Nat.lt_of_lt_of_le hj hb.size, hb⟩
theorem RAt.new {w0 w w' : World} {B : Nat} {rm : Int} {f : Nat → List Int} {sp : Option Addr} {cap : Nat} {V : Nat → Prop} (h : RAt w0 w B rm f sp cap V) (hb : Below w.heap.size w w') : RAt w0 w' B rm f sp cap V :=
  ⟨h.cap_, h.sn, h.row.new hb, h.box.new hb, h.old, h.av, fun j hj => Nat.lt_of_lt_of_le (h.lt j hj) hb.size, h.low.trans (hb.mono h.low.size)⟩
theorem RAt.add {w0 w w' : World} {B : Nat} {rm : Int} {f : Nat → List Int} {sp : Option Addr} {cap z : Nat} {V : Nat → Prop} (h : RAt w0 w B rm f sp cap V) (hb : Below w.heap.size w w') (hz : w.heap.size ≤ z) (hz2 : z < w'.heap.size) : RAt w0 w' B rm f sp cap (fun j => V j ∨ j = z) := by
  refine ⟨h.cap_, h.sn, h.row.new hb, (h.box.more (fun j hj hv => ?_)).new hb, fun j hj => .inl (h.old j hj), fun a ha => .inl (h.av a ha), fun j hj => ?_, h.low.trans (hb.mono h.low.size)⟩
  · rcases hv with hv | hv
    · exact hv
    · omega
  · rcases hj with hj | rfl
    · exact Nat.lt_of_lt_of_le (h.lt j hj) hb.size
    · exact hz2
/-- A call of the box: what it may turn is none of V's. -/
theorem RAt.low_ {w0 w w' : World} {B : Nat} {rm : Int} {f : Nat → List Int} {sp : Option Addr} {cap : Nat} {V : Nat → Prop} (h : RAt w0 w B rm f sp cap V) (hc : Ch (fun j => ¬ V j) w w') : Below w0.heap.size w0 w' ∧ NL w' sp (toldF f) ∧ ∀ j, V j → j < w'.heap.size :=
  ⟨h.low.trans (hc.below (fun j hj hn => hn (h.old j hj)) h.low.size), h.row.keep hc (fun a ha hn => hn (h.av a ha)), fun j hj => Nat.lt_of_lt_of_le (h.lt j hj) hc.size⟩
theorem LOut.low {w w' : World} {sp : Option Addr} {N cap : Nat} {f' : Nat → List Int} {went : Bool} {code : Int} {e : Ending} (h : LOut w w' sp N cap f' went code e) : Below w.heap.size w w' := by
  rcases h with ⟨_, _, _, hb⟩ | ⟨_, _, _, hb⟩
  · exact hb
  · exact hb
/-- A send, both sides done. -/
theorem RAt.sent {w0 w w1 w2 : World} {B : Nat} {rm : Int} {f f' : Nat → List Int} {sp : Option Addr} {cap : Nat} {V : Nat → Prop} {went : Bool} {code : Int} {e : Ending} (h : RAt w0 w B rm f sp cap V) (hc : Ch (fun j => ¬ V j) w w1) (hB : BAt w1 V B rm f')
    (ho : LOut w1 w2 sp (toldF f).length cap f' went code e) : ∃ sp' cap' V', e = .returned (.tuple #[.slice sp' (toldF f').length cap', .bool went, .int .i64 code]) ∧ RAt w0 w2 B rm f' sp' cap' V' := by
  obtain ⟨hlow, hrow, hlt⟩ := h.low_ hc
  rcases ho with ⟨he, hl, hn, hb⟩ | ⟨v, he, ho, hb⟩
  · refine ⟨sp, cap, V, by rw [hl]; exact he, ⟨by rw [hl]; exact h.cap_, h.sn, hn, hB.new hb, h.old, h.av, fun j hj => Nat.lt_of_lt_of_le (hlt j hj) hb.size, hlow.trans (hb.mono hlow.size)⟩⟩
  · obtain ⟨sp', cap', rfl, h1, h2, h3, h4⟩ := NL.own ho
    refine ⟨sp', cap', fun j => j < w0.heap.size ∨ ∃ a, sp' = some a ∧ a.block = j, he, ⟨h1, h2, h3, (hB.more (V' := fun j => j < w0.heap.size ∨ ∃ a, sp' = some a ∧ a.block = j) (fun j hj hv => ?_)).new hb, fun j hj => .inl hj, fun a ha => .inr ⟨a, ha, rfl⟩, fun j hj => ?_, hlow.trans (hb.mono hlow.size)⟩⟩
    · rcases hv with hv | ⟨a, ha, rfl⟩
      · exact h.old j hv
      · have := (h4 a ha).1; omega
    · rcases hj with hj | ⟨a, ha, rfl⟩
      · have := hlow.size; have := hb.size; omega
      · exact (h4 a ha).2
/-- A take, both sides done: the row has lost its first. -/
theorem RAt.taken {w0 w w1 : World} {B : Nat} {rm : Int} {f : Nat → List Int} {b o cap d : Nat} {x : Int} {V : Nat → Prop} (h : RAt w0 w B rm f (some ⟨b, o, none⟩) cap V) (hc : Ch (fun j => ¬ V j) w w1) (hB : BAt w1 V B rm (updF f d ((f d).drop 1)))
    (ht : toldF f = ((d : Int), x) :: toldF (updF f d ((f d).drop 1))) (o' : Nat) (ho : o' = o + 2 ∨ (toldF (updF f d ((f d).drop 1))).length = 0) : RAt w0 w1 B rm (updF f d ((f d).drop 1)) (some ⟨b, o', none⟩) (cap - 1) V := by
  obtain ⟨hlow, hrow, hlt⟩ := h.low_ hc
  have hcap := h.cap_
  rw [ht] at hcap hrow
  rw [List.length_cons] at hcap
  refine ⟨by omega, .inr ⟨b, o', rfl⟩, ?_, hB, h.old, fun a ha => by injection ha with ha; subst ha; exact h.av ⟨b, o, none⟩ rfl, hlt, hlow⟩
  by_cases h0 : (toldF (updF f d ((f d).drop 1))).length = 0
  · rw [List.eq_nil_of_length_eq_zero h0]; exact NL.nil _ _
  · obtain rfl : o' = o + 2 := by omega
    obtain ⟨b1, o1, h1, h2⟩ := hrow
    obtain ⟨h3, h4⟩ := h1 (by simp)
    injection h3 with h3
    injection h3 with h3 h5 _
    subst h3 h5
    refine ⟨b, o + 2, fun _ => ⟨rfl, h4⟩, fun j u hu => ?_⟩
    have := h2 (j + 2) u (by simpa [prow] using hu)
    rwa [show o + (j + 2) = o + 2 + j by omega] at this
/-- The k-th call: whether it takes, its degree, its word. -/
def opM (O : List (Bool × Int × Int)) (k : Nat) : Bool × Int × Int := O.getD k (false, 0, 0)
def OpsM (w : World) (sp : Option Addr) (b off : Nat) (O : List (Bool × Int × Int)) : Prop := (0 < O.length → sp = some ⟨b, off, none⟩ ∧ b < w.heap.size) ∧
  ∀ k, k < O.length → w.cell? ⟨b, off + k * 3, none⟩ = some (.bool (opM O k).1) ∧ w.cell? ⟨b, off + k * 3 + 1, none⟩ = some (.int .i64 (opM O k).2.1) ∧ w.cell? ⟨b, off + k * 3 + 2, none⟩ = some (.int .i64 (opM O k).2.2)
end Go.Proofs.YtbdcjfkplopbiaaDoor
