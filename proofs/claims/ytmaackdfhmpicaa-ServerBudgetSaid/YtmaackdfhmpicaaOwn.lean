/- Plain lemmas of this prover's own on rows that a call owns, and the law of an append that says where the new row lies. No statement about the program. -/
import Derived.Test.YtmaackdfhmpicaaFoot
import Derived.Laws.AppendOwn
import Derived.Laws.OwnMore
import Derived.Carry
import Derived.Maps.AppendAt
import Derived.Deep.AppendLies
import Derived.RangeFuncRecord
import Derived.OwnWalkIn
namespace Go.Proofs.Ytmaackdfhmpicaa
open Go.RowKit

theorem wpListIn_append_at {F : Fence} {n : Nat} {P : Program} (w : World) {ops : Array Oper} {rest : List Oper} {o : Oper} {a : Act} {Q : Exit → Act → World → Prop}
    (hg : o.guard = none) (s x : Operand) (t : TypeId) (hop : o.op = Op.call { callee := Callee.builtin Builtin.append, args := #[s, x], argTypes := #[t, t] })
    (base : Nat) (e : TypeId) (i : TypeInfo) (z : Value) (size bytes : Nat) (h1 : P.underlying t = some (.slice e)) (h2 : P.info? e = some i) (h3 : i.zero = some z) (h4 : i.size = size) (h5 : i.bytes = bytes) (h6 : z.cells.size = size) (h7 : 0 < size)
    (v : Value) (k : Nat) (xs : List Value) (hs : a.eval s = v) (hown : w.ownsRow base e size v k xs) (ad : Addr) (m c : Nat) (news : List Value) (hx : a.eval x = .slice (some ad) m c) (hn : news.length = m * size)
    (hc : ∀ j u, news[j]? = some u → w.cell? (ad.add j) = some u) (h1c : ∀ u ∈ news, u.oneCell' = true) (b1 : k + m ≤ maxLen) (b2 : (k + m) * bytes ≤ 140737488355328) (b3 : base ≤ w.heap.size)
    (hK : ∀ v' w', w'.ownsRow base e size v' (k + m) (xs ++ news) → w.grownBy w' v.ownBlock → (v'.ownBlock = v.ownBlock ∨ v'.ownBlock = some w.heap.size) → wpListIn F n P ops Q rest (a.put o.dst v') w') :
    wpListIn F n P ops Q (o :: rest) a w := by
  refine wpListIn_plain hg fun K hK' => ?_
  obtain ⟨v', w', hrun, r1, r2, _, r3⟩ := run_append_own_at (P := P) w base t o.type e i z size bytes h1 h2 h3 h4 h5 h6 h7 v k xs hown ad m c news hn hc h1c b1 b2 b3
  unfold Oper.wpIn
  refine ⟨?_, ?_⟩
  · simp [Oper.about, hop, resolve, Target.leads, Sem.run_pure]
  · rw [Oper.semAt_plain F _ _ (by rw [hop]; intro c hc'; cases hc')]
    simp [execOp, hop, resolve, invoke, builtin, hs, hx, hrun, Result.andThen]
    exact hK' _ _ (hK v' w' r1 r2 r3)

theorem own_same {A B : World} {base : Nat} {e : TypeId} {size : Nat} {v : Value} {n : Nat} {xs : List Value} (h : A.ownsRow base e size v n xs) (hs : ∀ g, v.ownBlock = some g → B.heap[g]? = A.heap[g]?) : B.ownsRow base e size v n xs := by
  obtain ⟨h1, h2⟩ := h
  refine ⟨h1, ?_⟩
  rcases h2 with h2 | ⟨g, cap, cur, rfl, hg, hh, r⟩
  · exact .inl h2
  · exact .inr ⟨g, cap, cur, rfl, hg, (hs g (by simp [Value.ownBlock])).trans hh, r⟩
theorem own_mono {A : World} {base base' : Nat} {e : TypeId} {size : Nat} {v : Value} {n : Nat} {xs : List Value} (h : A.ownsRow base e size v n xs) (hb : base' ≤ base) : A.ownsRow base' e size v n xs := by
  refine ⟨h.1, ?_⟩
  rcases h.2 with h | ⟨g, c, cur, q1, q2, q3⟩
  · exact .inl h
  · exact .inr ⟨g, c, cur, q1, by omega, q3⟩
theorem own_val {A : World} {base : Nat} {e : TypeId} {size : Nat} {v : Value} {n : Nat} {xs : List Value} (h : A.ownsRow base e size v n xs) : ∃ sp cap, v = .slice sp n cap := by
  rcases h.2 with ⟨h0, h1⟩ | ⟨g, cap, cur, hv, _⟩
  · exact ⟨none, 0, by rw [h0, h1]⟩
  · exact ⟨_, _, hv⟩
theorem own_ge {A : World} {base : Nat} {e : TypeId} {size : Nat} {v : Value} {n : Nat} {xs : List Value} (h : A.ownsRow base e size v n xs) (j : Nat) (hj : v.ownBlock = some j) : base ≤ j := (h.lt j hj).1
theorem own_below {A B : World} {base b n : Nat} {e : TypeId} {size : Nat} {v : Value} {xs : List Value} (h : A.ownsRow base e size v n xs) (hb : Below b A B) (hs : A.heap.size ≤ b) : B.ownsRow base e size v n xs :=
  own_same h fun g hg => hb.block g (by have := (h.lt g hg).2; omega)
theorem own_ch {T : Nat → Prop} {A B : World} {base n : Nat} {e : TypeId} {size : Nat} {v : Value} {xs : List Value} (h : A.ownsRow base e size v n xs) (hb : Ch T A B) (hn : ∀ g, v.ownBlock = some g → ¬ T g) : B.ownsRow base e size v n xs :=
  own_same h fun g hg => hb.block g (h.lt g hg).2 (hn g hg)
theorem two_new (w : World) (a b : Value) (t : TypeId) : ∀ (j : Nat) (u : Value), [a, b][j]? = some u → (w.alloc (.cells #[a, b] t)).cell? ((⟨w.heap.size, 0, none⟩ : Addr).add j) = some u := fun j u h => by
  rw [Addr.add_lit]
  rcases j with _ | _ | j
  · simp at h; subst h; simp [go_sem]
  · simp at h; subst h; simp [go_sem]
  · simp at h
theorem ch_grown {A B : World} {row : Option Nat} (h : A.grownBy B row) : Ch (fun j => row = some j) A B :=
  ⟨h.os, h.tape, h.output, h.size, fun k hk hn => h.block k hk (fun e => hn e.symm)⟩

theorem Ch.then_below {T : Nat → Prop} {A B C : World} (h : Ch T A B) (hb : Below A.heap.size B C) : Ch T A C :=
  ⟨hb.os.trans h.os, hb.tape.trans h.tape, hb.output.trans h.output, Nat.le_trans h.size hb.size, fun k hk hn => (hb.block k hk).trans (h.block k hk hn)⟩

def nth (l : List Int) (k : Nat) : Int := l.getD k 0
theorem take_succ_nth (l : List Int) (k : Nat) (h : k < l.length) : l.take (k + 1) = l.take k ++ [nth l k] := by
  rw [List.take_succ_eq_append_getElem h]; simp [nth, h]
theorem nth_at (l : List Int) (k : Nat) (h : k < l.length) : l[k]? = some (nth l k) := by simp [nth, h]
def rowI (l : List Int) : List Value := l.map (Value.int .i64)
theorem rowI_snoc (l : List Int) (x : Int) : rowI (l ++ [x]) = rowI l ++ [.int .i64 x] := by simp [rowI]
theorem rowI_len (l : List Int) : (rowI l).length = l.length := by simp [rowI]

/-- An owned row of ints, as a slice whose cells are known. -/
theorem own_ints {w : World} {base : Nat} {v : Value} {n : Nat} {l : List Int} (h : w.ownsRow base 3 1 v n (rowI l)) (hn : n = l.length) :
    ∃ sp g cap, v = .slice sp n cap ∧ (0 < n → sp = some ⟨g, 0, none⟩ ∧ base ≤ g ∧ g < w.heap.size) ∧ ∀ k, k < n → w.cell? ⟨g, k, none⟩ = some (.int .i64 (nth l k)) := by
  rcases h.2 with ⟨rfl, h0⟩ | ⟨g, cap, cur, rfl, _⟩
  · exact ⟨none, 0, 0, by rw [h0], fun h => by omega, fun k hk => by omega⟩
  · have hl := h.lt g rfl
    refine ⟨some ⟨g, 0, none⟩, g, cap, rfl, fun _ => ⟨rfl, hl.1, hl.2⟩, fun k hk => (h.cellAt k (by omega)).trans ?_⟩
    unfold rowI nth
    rw [List.getElem?_map, List.getElem?_eq_getElem (by omega)]; simp [show k < l.length by omega]
end Go.Proofs.Ytmaackdfhmpicaa
