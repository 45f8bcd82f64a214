/- What a call of the law's makes of a queue, both ways; what is there between two calls. -/
import Derived.Test.YthpagbfabpfngaaQI
namespace Go.Proofs.Ythpagbfabpfngaa
open Go.RowKit

theorem stepM_len (C : Nat) (_hC : 1 ≤ C) (p : Int) (L : List Int) (K N : Int) (X : List Int) (hL : L.length ≤ C) : (stepM C p L K N X).1.length ≤ C := by
  unfold stepM
  rw [Int.toNat_natCast]
  split
  · split
    · simp
    · simp; omega
  · split
    · simp only; rw [lastL_len]; omega
    · split
      · exact hL
      · split
        · exact hL
        · simp only; rw [lastL_len]; omega
theorem stepM_take0 (C : Nat) (p : Int) (K N : Int) (X : List Int) (hk : kd5 K = 3) : stepM C p [] K N X = ([], 270, 0, 0) := by unfold stepM; rw [if_pos hk, if_pos rfl]
theorem stepM_take1 (C : Nat) (p : Int) (y : Int) (L : List Int) (K N : Int) (X : List Int) (hk : kd5 K = 3) : stepM C p (y :: L) K N X = (L, 0, y, 0) := by unfold stepM; rw [if_pos hk, if_neg (by simp)]; rfl
theorem stepM_fill (C : Nat) (hC : 1 ≤ C) (p : Int) (L : List Int) (K N : Int) (X : List Int) (hL : L.length ≤ C) (d : Int) (h0 : 0 ≤ d) (hd : d + X.length ≤ 4096) (hk : kd5 K = 4) :
    ∃ g : Int, 0 ≤ g ∧ g ≤ X.length ∧ stepM C p L K N X = (lastL (L ++ X) C, 0, g, g) ∧ fillF C L d X X.length = (lastL (L ++ X) C, d + g, g) := by
  refine ⟨((L ++ X).length : Int) - ((lastL (L ++ X) C).length : Int), ?_, ?_, ?_, ?_⟩
  · have := lastL_len (L ++ X) C; omega
  · have := lastL_len (L ++ X) C; rw [List.length_append] at this ⊢; omega
  · unfold stepM; rw [if_neg (by omega), if_pos hk, Int.toNat_natCast]
  · have := fillF_last C hC L hL d X h0 hd X.length (Nat.le_refl _)
    rw [List.take_length] at this
    rw [this, List.length_append]
    push_cast
    rfl
theorem stepM_send (C : Nat) (hC : 1 ≤ C) (p : Int) (hp : 1 ≤ p ∧ p ≤ 3) (L : List Int) (K N : Int) (X : List Int) (hL : L.length ≤ C) (d : Int) (hd : d + 1 ≤ 4096) (h3 : kd5 K ≠ 3) (h4 : kd5 K ≠ 4) :
    ∃ (Y : List Int) (f g : Int), 0 ≤ g ∧ g ≤ 1 ∧ stepM C p L K N X = (Y, f, 0, g) ∧ sendL C p L d N = (Y, d + g, f) := by
  unfold stepM sendL
  rw [if_neg h3, if_neg h4, Int.toNat_natCast]
  by_cases hl : L.length = C
  · rw [if_neg (show ¬ (L.length : Int) < (C : Int) by omega)]
    by_cases p1 : p = 1
    · subst p1
      exact ⟨L, 271, 0, by omega, by omega, by rw [if_pos ⟨by omega, rfl⟩], by rw [if_neg (by omega), if_neg (by omega)]; simp⟩
    · rw [if_neg (fun h => p1 h.2)]
      by_cases p3 : p = 3
      · subst p3
        exact ⟨L, 0, 1, by omega, by omega, by rw [if_pos ⟨by omega, rfl⟩], by rw [if_neg (by omega), if_pos rfl, Int.min_eq_left hd]⟩
      · rw [if_neg (fun h => p3 h.2)]
        obtain rfl : p = 2 := by omega
        have e := lastL_snoc L N C hC
        rw [lastL_all L C hL, if_pos hl] at e
        refine ⟨L.tail ++ [N], 0, 1, by omega, by omega, ?_, by rw [if_pos rfl, Int.min_eq_left hd]⟩
        rw [e]
        have e2 : ((L ++ [N]).length : Int) - ((L.tail ++ [N]).length : Int) = 1 := by rw [List.length_append, List.length_append, List.length_tail]; simp; omega
        rw [e2]
  · rw [if_pos (show (L.length : Int) < (C : Int) by omega), if_neg (fun h => hl (by omega)), if_neg (fun h => hl (by omega))]
    have e := lastL_snoc L N C hC
    rw [lastL_all L C hL, if_neg hl] at e
    refine ⟨L ++ [N], 0, 0, by omega, by omega, ?_, by simp⟩
    rw [e]; simp

/-- A call of the law's. -/
structure OpQ where
  k : Int
  n : Int
  sp : Option Addr
  cap : Nat
  x : List Int
def opQ0 : OpQ := ⟨0, 0, none, 0, []⟩
def opQ (O : List OpQ) (k : Nat) : OpQ := O.getD k opQ0
/-- Where calls lie. -/
def OpsQ (w : World) (sp : Option Addr) (b off : Nat) (O : List OpQ) : Prop := (0 < O.length → sp = some ⟨b, off, none⟩ ∧ b < w.heap.size) ∧
  ∀ k, k < O.length → w.cell? ⟨b, off + k * 3, none⟩ = some (.int .i64 (opQ O k).k) ∧ w.cell? ⟨b, off + k * 3 + 1, none⟩ = some (.int .i64 (opQ O k).n) ∧
    w.cell? ⟨b, off + k * 3 + 2, none⟩ = some (.slice (opQ O k).sp (opQ O k).x.length (opQ O k).cap) ∧ SI (fun j => w.heap.size ≤ j) w (opQ O k).sp (opQ O k).cap (opQ O k).x ∧ (opQ O k).x.length ≤ 9223372036854775807
theorem SI.mono {T T' : Nat → Prop} {w : World} {sp : Option Addr} {cap : Nat} {L : List Int} (h : SI T w sp cap L) (ht : ∀ j, T' j → T j) : SI T' w sp cap L := by
  obtain ⟨g, off, h1, h2⟩ := h.lies
  exact ⟨⟨g, off, h1, fun h0 h' => h2 h0 (ht g h')⟩, h.cap⟩
theorem SI.below {n : Nat} {w w' : World} {sp : Option Addr} {cap : Nat} {L : List Int} (h : SI (fun j => n ≤ j) w sp cap L) (hb : Below n w w') : SI (fun j => n ≤ j) w' sp cap L := h.keep (Ch.of_below hb)
/-- What is there between two calls. -/
structure QS (w0 w : World) (q : Nat) (c p : Int) (L : List Int) (d : Int) (sp : Option Addr) (cap : Nat) : Prop where
  ql : QL w q c p L d
  s : SI (fun j => j = q) w sp cap L
  box : BoxAt w w0.heap.size [.int .i64 c, .int .i64 p]
  ge : w0.heap.size < q
  be : Below w0.heap.size w0 w
section
variable {w0 w w' : World} {q : Nat} {c p : Int} {L : List Int} {d : Int} {sp : Option Addr} {cap : Nat}
theorem QS.new (h : QS w0 w q c p L d sp cap) (hb : Below w.heap.size w w') : QS w0 w' q c p L d sp cap :=
  ⟨h.ql.new hb, h.s.new hb, h.box.new hb, h.ge, h.be.trans (hb.mono h.be.size)⟩
theorem QS.dn (h : QS w0 w q c p L d sp cap) (n : Nat) : QS w0 (w.drewN n) q c p L d sp cap := h.new (below_dn (Below.refl _ _) n)
/-- The row of the law's own becomes another one. -/
theorem QS.row (h : QS w0 w q c p L d sp cap) (hb : Below w.heap.size w w') {sp' : Option Addr} {cap' : Nat} {L' : List Int} (hs : SI (fun j => j = q) w' sp' cap' L') : QL w' q c p L d ∧ SI (fun j => j = q) w' sp' cap' L' ∧ BoxAt w' w0.heap.size [.int .i64 c, .int .i64 p] ∧ w0.heap.size < q ∧ Below w0.heap.size w0 w' :=
  have h' := h.new hb
  ⟨h'.ql, hs, h'.box, h.ge, h'.be⟩
/-- The queue is turned. -/
theorem QS.turn {L' : List Int} {d' : Int} (h : QL w q c p L d ∧ SI (fun j => j = q) w sp cap L' ∧ BoxAt w w0.heap.size [.int .i64 c, .int .i64 p] ∧ w0.heap.size < q ∧ Below w0.heap.size w0 w) (hc : Ch (fun j => j = q) w w') (hq : QL w' q c p L' d') : QS w0 w' q c p L' d' sp cap :=
  ⟨hq, h.2.1.keep hc, h.2.2.1.keep hc (by have := h.2.2.2.1; omega), h.2.2.2.1, h.2.2.2.2.trans (hc.below (fun j hj e => by have := h.2.2.2.1; omega) h.2.2.2.2.size)⟩
end
theorem OpsQ.at_ {w0 w : World} {sp : Option Addr} {b off : Nat} {O : List OpQ} (h : OpsQ w0 sp b off O) (hb : Below w0.heap.size w0 w) (k : Nat) (hk : k < O.length) :
    w.cell? ⟨b, off + k * 3, none⟩ = some (.int .i64 (opQ O k).k) ∧ w.cell? ⟨b, off + k * 3 + 1, none⟩ = some (.int .i64 (opQ O k).n) ∧ w.cell? ⟨b, off + k * 3 + 2, none⟩ = some (.slice (opQ O k).sp (opQ O k).x.length (opQ O k).cap) ∧ SI (fun j => w0.heap.size ≤ j) w (opQ O k).sp (opQ O k).cap (opQ O k).x := by
  obtain ⟨h1, h2, h3, h4, _⟩ := h.2 k hk
  have hB := (h.1 (by omega)).2
  have e := fun o => hb.cell (p := ⟨b, o, none⟩) hB
  exact ⟨(e _).trans h1, (e _).trans h2, (e _).trans h3, h4.below hb⟩
theorem fillv_any {w : World} {q : Nat} {c p : Int} {L X : List Int} {d : Int} {spX : Option Addr} {capX : Nat} (h : QL w q c p L d) (hX : SI (fun j => j = q) w spX capX X) (hlen : X.length ≤ 9223372036854775807) (Bs : Nat) (hs : w.cell? ⟨Bs, 0, none⟩ = some (.slice spX X.length capX)) :
    Calls Try.prog 32 #[.pointer (some ⟨q, 0, none⟩), .func (.func 70) #[] #[.pointer (some ⟨Bs, 0, none⟩)]] w fun e w' => e = .returned (.int .i64 (fillF c L d X X.length).2.2) ∧ QL w' q c p (fillF c L d X X.length).1 (fillF c L d X X.length).2.1 ∧ Ch (fun j => j = q) w w' := by
  obtain ⟨g, off, h1, h2⟩ := hX.lies
  have hb := World.block_lt_of_cell? w _ hs
  exact fill_any h 70 _ (enters_of Try.func70 (by kernel_rfl) rfl) X hlen (fun l FF J Jx W1 hb1 hJ fJ fJx hR h0 =>
    values_in l Bs spX g off capX X FF J Jx W1 hlen ((hb1.cell (p := ⟨Bs, 0, none⟩) hb).trans hs) (fun k W' hj => h1.keep (hJ k W' hj) h2) hR h0)
end Go.Proofs.Ythpagbfabpfngaa
