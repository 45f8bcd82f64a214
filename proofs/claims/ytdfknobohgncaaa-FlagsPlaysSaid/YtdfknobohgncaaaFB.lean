/- The walk of FlagsPlays: plain maths of rows of numbers as sets; an append of any many elements. -/
import Derived.Test.YtdfknobohgncaaaFA
namespace Go.Proofs.Ytdfknobohgncaaa
open Go.RowKit

theorem run_append_none {P : Program} (w : World) (t ty e : TypeId) (i : TypeInfo) (ht : P.underlying t = some (.slice e)) (hi : P.info? e = some i) (ad : Option Addr) (k c cx : Nat) (hk : k ≤ c) :
    (Builtin.append_ #[t, t] ty #[.slice ad k c, .slice none 0 cx]).run P w = .ok (.slice ad k c) w := by
  cases ad <;> simp [Builtin.append_, run_underlying ht, sizeOf, typeInfo, hi, Builtin.lenOf, Builtin.firstCells, loadCells, storeCells, hk]
/-- append onto a row that the call owns, of whatever many elements of whatever slice. -/
theorem wpList_append_vary {P : Program} {ops : Array Oper} {rest : List Oper} {o : Oper} {a : Act} {w : World} {Q : Exit → Act → World → Prop} (hgd : o.guard = none) (s x : Operand) (t : TypeId)
    (ho : o.op = .call { callee := .builtin .append, args := #[s, x], argTypes := #[t, t] })
    (base : Nat) (e : TypeId) (i : TypeInfo) (z : Value) (size bytes : Nat) (ht : P.underlying t = some (.slice e)) (hi : P.info? e = some i) (hz : i.zero = some z)
    (hsize : i.size = size) (hby : i.bytes = bytes) (hzs : z.cells.size = size) (hsz : 0 < size)
    (v : Value) (n : Nat) (xs : List Value) (hs : a.eval s = v) (hown : w.ownsRow base e size v n xs)
    (sp : Option Addr) (m c : Nat) (news : List Value) (hx : a.eval x = .slice sp m c) (hl : news.length = m * size) (hno : sp = none → m = 0) (hnews : ∀ ad, sp = some ad → ∀ j u, news[j]? = some u → w.cell? (ad.add j) = some u) (h1 : ∀ u ∈ news, u.oneCell' = true)
    (h63 : n + m ≤ maxLen) (hbytes : (n + m) * bytes ≤ 140737488355328) (hbase : base ≤ w.heap.size)
    (h : ∀ v' w', w'.ownsRow base e size v' (n + m) (xs ++ news) → w.grownBy w' v.ownBlock → (v'.ownBlock = v.ownBlock ∨ v'.ownBlock = some w.heap.size) → wpList P ops Q rest (a.put o.dst v') w') :
    wpList P ops Q (o :: rest) a w := by
  cases sp with
  | some ad => exact wpList_append_own_at w hgd s x t ho base e i z size bytes ht hi hz hsize hby hzs hsz v n xs hs hown ad m c news hx hl (hnews ad rfl) h1 h63 hbytes hbase (fun v' w' a b _ d => h v' w' a b d)
  | none =>
    obtain rfl := hno rfl
    obtain rfl : news = [] := by cases news with
      | nil => rfl
      | cons a l => simp at hl
    refine wpList_plain hgd fun K hK => ?_
    have hr : (Builtin.append_ #[t, t] o.type #[v, .slice none 0 c]).run P w = .ok v w := by
      rcases hown.2 with ⟨rfl, _⟩ | ⟨g, cap, cur, rfl, _, _, hc, _⟩
      · exact run_append_none w t o.type e i ht hi none 0 0 c (Nat.le_refl _)
      · exact run_append_none w t o.type e i ht hi _ n cap c hc
    unfold Oper.wp execOp
    simp only [ho, resolve, invoke, builtin, Sem.run_bind, Sem.run_pure, Result.andThen_ok, List.map_toArray, List.map_cons, List.map_nil, hs, hx, hr]
    exact hK _ _ (h v w (by simpa using hown) ⟨rfl, rfl, rfl, Nat.le_refl _, fun _ _ _ => rfl⟩ (.inl rfl))

/-- The numbers of a set. -/
def setL (F : BitVec 32) : List Int := ints (lst F 32)
theorem setL_mem (F : BitVec 32) (n : Int) : n ∈ setL F ↔ 0 ≤ n ∧ n < 32 ∧ F.getLsbD n.toNat = true := by
  unfold setL
  rw [mem_ints, mem_lst]
  constructor
  · rintro ⟨h0, h1, h2⟩; exact ⟨h0, by omega, h2⟩
  · rintro ⟨h0, h1, h2⟩; exact ⟨h0, by omega, h2⟩
theorem setL_len (F : BitVec 32) : (setL F).length ≤ 32 := by unfold setL ints; rw [List.length_map]; exact lst_len F 32
/-- Those of a set's numbers for which something holds are the numbers of another set. -/
theorem setL_filter (F G : BitVec 32) (p : Int → Bool) (h : ∀ n : Nat, n < 32 → (F.getLsbD n && p n) = G.getLsbD n) : (setL F).filter p = setL G := by
  unfold setL ints lst
  rw [List.filter_map, List.filter_filter]
  congr 1
  apply List.filter_congr
  intro n hn
  have := h n (by simpa using hn)
  rw [← this, Bool.and_comm]
  rfl
theorem ofR_setL (F : BitVec 32) (H : List Int) (h : H.Perm (setL F)) : ofR H = F := by
  apply BitVec.eq_of_getLsbD_eq; intro i hi
  rw [ofR_bit _ _ hi]
  have : ((i : Int) ∈ H) ↔ F.getLsbD i = true := by
    rw [h.mem_iff, setL_mem]
    constructor
    · rintro ⟨_, _, h2⟩; simpa using h2
    · intro h2; exact ⟨by omega, by omega, by simpa using h2⟩
  rw [Bool.eq_iff_iff, decide_eq_true_iff, this]
theorem mem_b (F : BitVec 32) (n : Nat) (hn : n < 32) : decide ((n : Int) ∈ setL F) = F.getLsbD n := by
  rw [Bool.eq_iff_iff, decide_eq_true_iff, setL_mem]
  constructor
  · rintro ⟨_, _, h2⟩; simpa using h2
  · intro h2; exact ⟨by omega, by omega, by simpa using h2⟩
theorem got_perm {F L : BitVec 32} {H : List Int} (h : H.Perm (setL F)) : (H.filter fun n => decide (n ∈ setL L)).Perm (setL (F &&& L)) := by
  refine (h.filter _).trans (List.Perm.of_eq ?_)
  refine setL_filter F _ _ fun n hn => ?_
  rw [mem_b L n hn, BitVec.getLsbD_and]
theorem wo_perm {F L : BitVec 32} {H : List Int} (h : H.Perm (setL F)) : (H.filter fun n => !decide (n ∈ setL L)).Perm (setL (F &&& ~~~L)) := by
  refine (h.filter _).trans (List.Perm.of_eq ?_)
  refine setL_filter F _ _ fun n hn => ?_
  rw [mem_b L n hn, BitVec.getLsbD_and, BitVec.getLsbD_not]
  simp [hn]
theorem add_perm {F L : BitVec 32} {H : List Int} (h : H.Perm (setL F)) : (H ++ (setL L).filter fun n => !decide (n ∈ H)).Perm (setL (F ||| L)) := by
  have e1 : (setL (F ||| L)).filter (fun n => decide (n ∈ setL F)) = setL F := setL_filter _ _ _ fun n hn => by
    rw [mem_b F n hn, BitVec.getLsbD_or]; cases F.getLsbD n <;> simp
  have e2 : (setL (F ||| L)).filter (fun n => !decide (n ∈ setL F)) = setL (L &&& ~~~F) := setL_filter _ _ _ fun n hn => by
    rw [mem_b F n hn, BitVec.getLsbD_or, BitVec.getLsbD_and, BitVec.getLsbD_not]; cases F.getLsbD n <;> simp [hn]
  have e3 : (setL L).filter (fun n => !decide (n ∈ H)) = setL (L &&& ~~~F) := setL_filter _ _ _ fun n hn => by
    have : decide ((n : Int) ∈ H) = F.getLsbD n := by rw [← mem_b F n hn]; exact decide_eq_decide.2 h.mem_iff
    rw [this, BitVec.getLsbD_and, BitVec.getLsbD_not]; simp [hn]
  have := List.filter_append_perm (fun n => decide (n ∈ setL F)) (setL (F ||| L))
  rw [e1, e2] at this
  rw [e3]
  exact (h.append_right _).trans this
theorem setL_nil (F : BitVec 32) : (setL F).length = 0 ↔ F = 0#32 := by
  constructor
  · intro h
    have h0 : setL F = [] := List.eq_nil_of_length_eq_zero h
    apply BitVec.eq_of_getLsbD_eq; intro i hi
    rw [← mem_b F i hi, h0]; simp
  · rintro rfl; decide
theorem setL_full (F L : BitVec 32) : (setL (F &&& L)).length = (setL L).length ↔ F &&& L = L := by
  constructor
  · intro h
    have e : setL (F &&& L) = (setL L).filter fun n => decide (n ∈ setL F) := (setL_filter _ _ _ fun n hn => by rw [mem_b F n hn, BitVec.getLsbD_and, Bool.and_comm]).symm
    rw [e, List.length_filter_eq_length_iff] at h
    apply BitVec.eq_of_getLsbD_eq; intro i hi
    rw [BitVec.getLsbD_and]
    cases hL : L.getLsbD i
    · simp
    · have := h (i : Int) (by rw [setL_mem]; exact ⟨by omega, by omega, by simpa using hL⟩)
      rw [mem_b F i hi] at this
      rw [this]; rfl
  · intro h; rw [h]
end Go.Proofs.Ytdfknobohgncaaa
