/- The contract of the reference's Row: timers told by when they are due. -/
import Derived.Test.YtkbmgilceioieaaDS
namespace Go.Proofs.Ytkbmgilceioieaa
open Go.RowKit

/-- append at a step of a region that draws its order: onto a row that the call owns, of whatever many elements. -/
theorem step_append_at {P : Program} (w : World) {ops : Array Oper} {o : Oper} {a : Act} {K : Act → World → Prop} {Q : Exit → Act → World → Prop} {E : Prop} (hgd : o.guard = none) (s x : Operand) (t : TypeId)
    (ho : o.op = .call { callee := .builtin .append, args := #[s, x], argTypes := #[t, t] })
    (base : Nat) (e : TypeId) (i : TypeInfo) (z : Value) (size bytes : Nat) (ht : P.underlying t = some (.slice e)) (hi : P.info? e = some i) (hz : i.zero = some z)
    (hsize : i.size = size) (hby : i.bytes = bytes) (hzs : z.cells.size = size) (hsz : 0 < size)
    (v : Value) (n : Nat) (xs : List Value) (hs : a.eval s = v) (hown : w.ownsRow base e size v n xs)
    (ad : Addr) (m c : Nat) (news : List Value) (hx : a.eval x = .slice (some ad) m c) (hl : news.length = m * size) (hnews : ∀ j u, news[j]? = some u → w.cell? (ad.add j) = some u) (h1 : ∀ u ∈ news, u.oneCell' = true)
    (h63 : n + m ≤ maxLen) (hbytes : (n + m) * bytes ≤ 140737488355328) (hbase : base ≤ w.heap.size)
    (h : ∀ v' w', w'.ownsRow base e size v' (n + m) (xs ++ news) → w.grownBy w' v.ownBlock → (v'.ownBlock = v.ownBlock ∨ v'.ownBlock = some w.heap.size) → K (a.put o.dst v') w') :
    if Region.wanted o (yielded ops a.tmps) = true then Oper.wp P o a w K Q else E := by
  have hw : Region.wanted o (yielded ops a.tmps) = true := by simp [Region.wanted, hgd]
  rw [if_pos hw]
  obtain ⟨v', w', hr, h2, h3, h4, h5⟩ := run_append_own_at (P := P) w base t o.type e i z size bytes ht hi hz hsize hby hzs hsz v n xs hown ad m c news hl hnews h1 h63 hbytes hbase
  unfold Oper.wp execOp
  simp only [ho, resolve, invoke, builtin, Sem.run_bind, Sem.run_pure, Result.andThen_ok, List.map_toArray, List.map_cons, List.map_nil, hs, hx, hr]
  exact h v' w' h2 h3 h5

theorem own_fresh73 (w : World) (base : Nat) (h : base ≤ w.heap.size) : (w.alloc (.cells #[] 73)).ownsRow base 73 2 (.slice (some ⟨w.heap.size, 0, none⟩) 0 0) 0 [] :=
  ⟨rfl, .inr ⟨w.heap.size, 0, #[], rfl, h, World.alloc_heap_new _ _, Nat.le_refl _, Nat.zero_le _, rfl, rfl⟩⟩
theorem rowI_one (l : List Int) : ∀ u ∈ rowI l, u.oneCell' = true := by
  intro u hu
  obtain ⟨x, _, rfl⟩ := List.mem_map.1 hu
  rfl
theorem add_at (b o j : Nat) : (⟨b, o, none⟩ : Addr).add j = ⟨b, o + j, none⟩ := Addr.add_lit ..

/-- Cells of a stretch of a row. -/
theorem stretch {w : World} {g : Nat} {M A B C : List (Int × Int)} (hM : M = A ++ (B ++ C)) (h : ∀ j u, (rowI (flatA M))[j]? = some u → w.cell? ((⟨g, 0, none⟩ : Addr).add j) = some u) :
    ∀ j u, (rowI (flatA B))[j]? = some u → w.cell? ((⟨g, A.length * 2, none⟩ : Addr).add j) = some u := by
  intro j u hu
  have := h (A.length * 2 + j) u (by
    rw [hM, flatA_app, flatA_app]
    unfold rowI at hu ⊢
    rw [List.map_append, List.map_append, List.getElem?_append_right (by simp [flatA_len]; omega), List.getElem?_append_left]
    · simpa [flatA_len, Nat.mul_comm] using hu
    · have := (List.getElem?_eq_some_iff.1 hu).1
      simpa [flatA_len, Nat.mul_comm] using this)
  rw [add_at] at this ⊢
  simpa using this

theorem RowT.cells {w : World} {sp : Option Addr} {g : Nat} {r : List (Int × Int)} (h : RowT w sp g r) : ∀ j u, (rowI (flatA r))[j]? = some u → w.cell? ((⟨g, 0, none⟩ : Addr).add j) = some u := by
  intro j u hu
  rw [add_at, Nat.zero_add]
  have hj : j < 2 * r.length := by
    have := (List.getElem?_eq_some_iff.1 hu).1
    simpa [rowI_len, flatA_len] using this
  have hk : j / 2 < r.length := by omega
  obtain ⟨h1, h2⟩ := h.2 (j / 2) hk
  obtain ⟨f1, f2⟩ := flatA_at r (j / 2) hk
  rcases Nat.mod_two_eq_zero_or_one j with e | e
  · have : j = j / 2 * 2 := by omega
    rw [this] at hu ⊢
    rw [f1] at hu; injection hu with hu; rw [← hu]; exact h1
  · have : j = j / 2 * 2 + 1 := by omega
    rw [this] at hu ⊢
    rw [f2] at hu; injection hu with hu; rw [← hu]; exact h2

/-- The two rows of the selection. -/
def Two (w : World) (v u : Value) (O M : List (Int × Int)) (wr : World) : Prop :=
  wr.ownsRow w.heap.size 3 1 v (2 * O.length) (rowI (flatA O)) ∧ wr.ownsRow w.heap.size 73 2 u M.length (rowI (flatA M)) ∧ Below w.heap.size w wr ∧ ∀ g, v.ownBlock = some g → u.ownBlock ≠ some g
theorem Two.drewN {w wr : World} {v u : Value} {O M : List (Int × Int)} (n : Nat) (h : Two w v u O M wr) : Two w v u O M (wr.drewN n) := ⟨h.1, h.2.1, Below.drewN h.2.2.1 n, h.2.2.2⟩
theorem Two.drew {w wr : World} {v u : Value} {O M : List (Int × Int)} (h : Two w v u O M wr) : Two w v u O M wr.drew := ⟨h.1, h.2.1, h.2.2.1.drew, h.2.2.2⟩
/-- One is told. -/
theorem Two.tell {w wr w1 : World} {v v1 u : Value} {O M : List (Int × Int)} {x y : Int} {ob : Obj} (h : Two w v u O M wr)
    (ho : w1.ownsRow w.heap.size 3 1 v1 (2 * O.length + 2) (rowI (flatA O) ++ [.int .i64 x, .int .i64 y])) (hg : (wr.alloc ob).grownBy w1 v.ownBlock) (hat : v1.ownBlock = v.ownBlock ∨ v1.ownBlock = some (wr.alloc ob).heap.size) :
    Two w v1 u (O ++ [(x, y)]) M w1 := by
  obtain ⟨h1, h2, h3, h4⟩ := h
  refine ⟨?_, ?_, ?_, ?_⟩
  · rw [rowI_two, List.length_append, show 2 * (O.length + [(x, y)].length) = 2 * O.length + 2 by simp; omega]; exact ho
  · exact (h2.alloc ob).kept hg (by
      cases e : u.ownBlock with
      | none => exact .inl rfl
      | some g => exact .inr fun e' => h4 g e'.symm e)
  · exact Below.grown (Below.alloc h3 h3.size _) hg (by rw [World.size_alloc]; exact Nat.le_succ_of_le h3.size) (fun j e => (h1.lt j e).1)
  · intro g e
    rcases hat with e' | e'
    · rw [e'] at e; exact h4 g e
    · rw [e'] at e
      injection e with e
      intro e2
      have := (h2.lt g e2).2
      rw [World.size_alloc] at e
      omega
/-- One is left no more: the rest lies in a row of its own. -/
theorem Two.cut {w wr w1 w2 : World} {v u v1 v2 : Value} {O M T D : List (Int × Int)} (h : Two w v u O M wr)
    (hg1 : (wr.alloc (.cells #[] 73)).grownBy w1 (some wr.heap.size)) (hat1 : v1.ownBlock = some wr.heap.size ∨ v1.ownBlock = some (wr.alloc (.cells #[] 73)).heap.size)
    (ho2 : w2.ownsRow w.heap.size 73 2 v2 (T.length + D.length) (rowI (flatA T) ++ rowI (flatA D))) (hg2 : w1.grownBy w2 v1.ownBlock) (hat2 : v2.ownBlock = v1.ownBlock ∨ v2.ownBlock = some w1.heap.size) :
    Two w v v2 O (T ++ D) w2 := by
  obtain ⟨h1, h2, h3, h4⟩ := h
  have z1 := hg1.size
  rw [World.size_alloc] at z1
  have zw := h3.size
  have hv1 : ∀ j, v1.ownBlock = some j → wr.heap.size ≤ j := by
    intro j e
    rcases hat1 with e' | e'
    · rw [e'] at e; injection e with e; omega
    · rw [e', World.size_alloc] at e; injection e with e; omega
  refine ⟨?_, ?_, ?_, ?_⟩
  · have k1 : w1.ownsRow w.heap.size 3 1 v (2 * O.length) (rowI (flatA O)) := (h1.alloc _).kept hg1 (by
      cases e : v.ownBlock with
      | none => exact .inl rfl
      | some g => exact .inr fun e' => by injection e' with e'; have := (h1.lt g e).2; omega)
    exact k1.kept hg2 (by
      cases e : v.ownBlock with
      | none => exact .inl rfl
      | some g => exact .inr fun e' => by have := hv1 g e'.symm; have := (h1.lt g e).2; omega)
  · rw [List.length_append, flatA_app]
    unfold rowI at ho2 ⊢
    rw [List.map_append]; exact ho2
  · have b1 : Below w.heap.size w w1 := Below.grown (Below.alloc h3 h3.size _) hg1 (by rw [World.size_alloc]; omega) (fun j e => by injection e with e; omega)
    exact Below.grown b1 hg2 (by omega) (fun j e => by have := hv1 j e; omega)
  · intro g e e2
    have hlt := (h1.lt g e).2
    rcases hat2 with e' | e'
    · rw [e'] at e2
      have := hv1 g e2; omega
    · rw [e'] at e2
      injection e2 with e2; omega
end Go.Proofs.Ytkbmgilceioieaa
