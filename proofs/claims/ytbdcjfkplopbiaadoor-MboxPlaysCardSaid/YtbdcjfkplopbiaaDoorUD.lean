/- An append onto a slice of one degree: within its block, or in a new one. -/
import Derived.Test.YtbdcjfkplopbiaaDoorUC
namespace Go.Proofs.YtbdcjfkplopbiaaDoor
open Go.RowKit

theorem infoI : (Tryd.prog.info? 3).map (fun i => (i.zero, i.size, i.bytes)) = some (some (.int .i64 0), 1, 8) := by kernel_rfl
theorem nth_app (L : List Int) (x : Int) (k : Nat) (hk : k < (L ++ [x]).length) : nth (L ++ [x]) k = if k = L.length then x else nth L k := by
  unfold nth
  rw [List.length_append] at hk
  by_cases e : k = L.length
  · subst e; simp
  · have : k < L.length := by simp at hk; omega
    simp [List.getElem?_append_left this, e]
theorem own_slc {w : World} {base : Nat} {v : Value} {n : Nat} {L : List Int} (h : w.ownsRow base 3 1 v n (rowI L)) (h0 : 0 < n) (hn : L.length = n) :
    ∃ g cap, v = .slice (some ⟨g, 0, none⟩) n cap ∧ base ≤ g ∧ g < w.heap.size ∧ Slc w (some ⟨g, 0, none⟩) cap L := by
  have hh := h
  rcases h.2 with ⟨_, e⟩ | ⟨g, cap, cur, rfl, hb, hg, hc, _, hs, _⟩
  · omega
  · refine ⟨g, cap, rfl, hb, (Array.getElem?_eq_some_iff.1 hg).1, .inr ⟨g, 0, cur, rfl, hg, by omega, by omega, fun k hk => ?_⟩⟩
    have := hh.cellAt k (by omega)
    rw [cell_of_row w g k _ _ _ hg] at this
    rw [Nat.zero_add, this]
    unfold rowI nth
    rw [List.getElem?_map, List.getElem?_eq_getElem hk]; simp [hk]
theorem run_append_slc {w : World} {sp : Option Addr} {c : Nat} {L : List Int} (h : Slc w sp c L) (t ty : TypeId) (ht : Tryd.prog.underlying t = some (.slice 3)) (x : Int) (a : Addr) (m : Nat) (hx : w.cell? a = some (.int .i64 x)) (hl : L.length ≤ 100000) :
    ∃ s' c' w', (Builtin.append_ #[t, t] ty #[.slice sp L.length c, .slice (some a) 1 m]).run Tryd.prog w = .ok (.slice s' (L.length + 1) c') w' ∧ Slc w' s' c' (L ++ [x]) ∧ Ch (fun j => ∃ b, sp = some b ∧ b.block = j) w w' ∧
      ∀ a', s' = some a' → a'.block < w'.heap.size ∧ ((∃ b, sp = some b ∧ b.block = a'.block) ∨ w.heap.size ≤ a'.block) := by
  obtain ⟨i0, hi, hz0, hz1, hz2⟩ := info_parts infoI
  have hnews : ∀ j u, [Value.int .i64 x][j]? = some u → w.cell? (a.add j) = some u := fun j u hu => by
    match j, hu with
    | 0, hu => simp at hu; subst hu; rw [show a.add 0 = a from by cases a; simp [Addr.add]]; exact hx
    | j + 1, hu => simp at hu
  have h1 : ∀ u ∈ [Value.int .i64 x], u.oneCell' = true := by intro u hu; simp at hu; subst hu; rfl
  rcases h with ⟨rfl, rfl, rfl⟩ | ⟨g, off, cur, rfl, hg, hoc, hlc, hcs⟩
  · obtain ⟨v', w', hr, ho, hgr, _⟩ := run_append_vary (P := Tryd.prog) w w.heap.size t ty 3 i0 (.int .i64 0) 1 8 ht hi hz0 hz1 hz2 rfl Nat.one_pos (.slice none 0 0) 0 [] (World.ownsRow_nil _ _ _ _) (some a) 1 m [.int .i64 x] rfl (fun h => by cases h) (fun ad had => by injection had with had; subst had; exact hnews) h1 (by unfold maxLen; omega) (by omega) (Nat.le_refl _)
    obtain ⟨g, cap, rfl, hb, hgl, hslc⟩ := own_slc (L := [x]) ho (by omega) rfl
    refine ⟨some ⟨g, 0, none⟩, cap, w', hr, hslc, (ch_grown hgr).mono (fun j _ e => by simp [Value.ownBlock] at e), fun a' ha' => ?_⟩
    injection ha' with ha'
    subst ha'
    exact ⟨hgl, .inr hb⟩
  · by_cases hroom : L.length + 1 ≤ c
    · have hsz : off + L.length * i0.size + 0 < cur.size := by rw [hz1]; omega
      have hr := run_append_room_cells (P := Tryd.prog) w t ty 3 i0 ht hi g off L.length c a 1 m [.int .i64 x] (by rw [hz1]; rfl) hnews h1 hroom
        (fun j hj => by
          have hj0 : j = 0 := by simpa using hj
          subst hj0
          rw [cell_of_row w g _ _ _ _ hg, Array.getElem?_eq_getElem hsz]; rfl)
        (fun j hj => frozen_of_row w g _ _ _ hg)
      rw [hz1, Nat.mul_one] at hr
      have hset : Ch (fun j => j = g) w (w.setCell ⟨g, off + L.length, none⟩ (.int .i64 x)) := (Ch.refl _ _).setCell _ _ (.inl rfl)
      refine ⟨some ⟨g, off, none⟩, c, w.setCell ⟨g, off + L.length, none⟩ (.int .i64 x), hr, .inr ⟨g, off, cur.setIfInBounds (off + L.length) (.int .i64 x), rfl, heap_setCell_same w g _ _ _ _ hg, by simpa using hoc, by rw [List.length_append]; exact hroom, fun k hk => ?_⟩, hset.mono (fun j _ e => ⟨_, rfl, e.symm⟩), fun a' ha' => ?_⟩
      · rw [nth_app L x k hk]
        rw [Array.getElem?_setIfInBounds]
        by_cases e : k = L.length
        · subst e
          have : off + L.length < cur.size := by omega
          simp [this]
        · have hkl : k < L.length := by rw [List.length_append] at hk; simp at hk; omega
          rw [if_neg (by omega), if_neg e]
          exact hcs k hkl
      · injection ha' with ha'
        subst ha'
        exact ⟨by rw [World.size_setCell]; exact (Array.getElem?_eq_some_iff.1 hg).1, .inl ⟨_, rfl, rfl⟩⟩
    · obtain ⟨v', w', hr, ho, hgr⟩ := run_append_arg_grows (P := Tryd.prog) w t ty 3 i0 (.int .i64 0) 1 8 ht hi hz0 hz1 hz2 rfl Nat.one_pos ⟨g, off, none⟩ L.length c (rowI L) (by rw [rowI_len, Nat.mul_one])
        (fun j u hu => by
          obtain ⟨hj, rfl⟩ := rowI_at _ _ _ hu
          rw [Addr.add_lit, cell_of_row w g _ _ _ _ hg]; exact hcs j hj)
        a 1 m [.int .i64 x] rfl hnews (by omega) (by unfold maxLen; omega) (by omega)
      rw [show rowI L ++ [Value.int .i64 x] = rowI (L ++ [x]) from (rowI_snoc L x).symm] at ho
      obtain ⟨g', cap, rfl, hb, hgl, hslc⟩ := own_slc ho (by omega) (by rw [List.length_append]; rfl)
      refine ⟨some ⟨g', 0, none⟩, cap, w', hr, hslc, (ch_grown hgr).mono (fun j _ e => by cases e), fun a' ha' => ?_⟩
      injection ha' with ha'
      subst ha'
      exact ⟨hgl, .inr hb⟩
theorem wp_append_slc {w : World} {o : Oper} {a : Act} {K : Act → World → Prop} {Q : Exit → Act → World → Prop} (s x : Operand) (t : TypeId) (ho : o.op = .call { callee := .builtin .append, args := #[s, x], argTypes := #[t, t] })
    {sp : Option Addr} {c : Nat} {L : List Int} (h : Slc w sp c L) (ht : Tryd.prog.underlying t = some (.slice 3)) (hs : a.eval s = .slice sp L.length c) (y : Int) (ad : Addr) (m : Nat) (hx : a.eval x = .slice (some ad) 1 m) (hc : w.cell? ad = some (.int .i64 y)) (hl : L.length ≤ 100000)
    (hK : ∀ s' c' w', Slc w' s' c' (L ++ [y]) → Ch (fun j => ∃ b, sp = some b ∧ b.block = j) w w' → (∀ a', s' = some a' → a'.block < w'.heap.size ∧ ((∃ b, sp = some b ∧ b.block = a'.block) ∨ w.heap.size ≤ a'.block)) → K (a.put o.dst (.slice s' (L.length + 1) c')) w') :
    Oper.wp Tryd.prog o a w K Q := by
  obtain ⟨s', c', w', hr, h2, h3, h5⟩ := run_append_slc h t o.type ht y ad m hc hl
  unfold Oper.wp execOp
  simp only [ho, resolve, invoke, builtin, Sem.run_bind, Sem.run_pure, Result.andThen_ok, List.map_toArray, List.map_cons, List.map_nil, hs, hx, hr]
  exact hK s' c' w' h2 h3 h5
theorem wpList_append_slc {w : World} {ops : Array Oper} {rest : List Oper} {o : Oper} {a : Act} {Q : Exit → Act → World → Prop} (hgd : o.guard = none) (s x : Operand) (t : TypeId) (ho : o.op = .call { callee := .builtin .append, args := #[s, x], argTypes := #[t, t] })
    {sp : Option Addr} {c : Nat} {L : List Int} (h : Slc w sp c L) (ht : Tryd.prog.underlying t = some (.slice 3)) (hs : a.eval s = .slice sp L.length c) (y : Int) (ad : Addr) (m : Nat) (hx : a.eval x = .slice (some ad) 1 m) (hc : w.cell? ad = some (.int .i64 y)) (hl : L.length ≤ 100000)
    (hK : ∀ s' c' w', Slc w' s' c' (L ++ [y]) → Ch (fun j => ∃ b, sp = some b ∧ b.block = j) w w' → (∀ a', s' = some a' → a'.block < w'.heap.size ∧ ((∃ b, sp = some b ∧ b.block = a'.block) ∨ w.heap.size ≤ a'.block)) → wpList Tryd.prog ops Q rest (a.put o.dst (.slice s' (L.length + 1) c')) w') :
    wpList Tryd.prog ops Q (o :: rest) a w :=
  wpList_plain hgd fun _ hK' => wp_append_slc s x t ho h ht hs y ad m hx hc hl fun s' c' w' a1 a2 a3 => hK' _ _ (hK s' c' w' a1 a2 a3)
end Go.Proofs.YtbdcjfkplopbiaaDoor
