/- The contract of class's Edge. -/
import Derived.Test.YtomdcmdgcnhnmaaIB
namespace Go.Proofs.Ytomdcmdgcnhnmaa
open Go.RowKit

theorem rowZ_len (l : List Int) : (rowZ l).length = l.length := by simp [rowZ]
theorem rowZ_one (l : List Int) : (rowZ l).all (·.oneCell') = true := by
  induction l with
  | nil => rfl
  | cons a l ih => simp [rowZ, Value.oneCell']
theorem edgeC_len {e : EdgeM} (h1 : e.offs.length = 16) (h2 : e.map.length = 4) : (edgeC e).length = 23 := by
  unfold edgeC
  simp only [List.length_cons, List.length_append, rowZ_len, h1, h2]
theorem edgeC_one (e : EdgeM) : (edgeC e).all (·.oneCell') = true := by
  unfold edgeC
  simp only [List.all_cons, List.all_append, rowZ_one, Bool.and_true]
  rfl
/-- An edge's modes' tasks. -/
def edgeA (x : Img) (i : Int) : BitVec 32 := if 0 ≤ i ∧ i < (x.edges.length : Int) then tasksM x (x.e i.toNat).frm else 0#32
def edgeB (x : Img) (i : Int) : BitVec 32 := if 0 ≤ i ∧ i < (x.edges.length : Int) then tasksM x (x.e i.toNat).dst else 0#32
theorem clsKeep {w wa wb : World} {Z E : Nat} {a b : Array Value} {ta tb : TypeId} {f t : Value} (h : Below w.heap.size w wa ∧ RowAt wa Z ta a ∧ RowAt wa (Z + 1) tb b ∧ wa.cell? ⟨E, 0, none⟩ = some f ∧ wa.cell? ⟨E, 1, none⟩ = some t) (hb : Below wa.heap.size wa wb) :
    Below w.heap.size w wb ∧ RowAt wb Z ta a ∧ RowAt wb (Z + 1) tb b ∧ wb.cell? ⟨E, 0, none⟩ = some f ∧ wb.cell? ⟨E, 1, none⟩ = some t := by
  have hl := World.block_lt_of_cell? wa _ h.2.2.2.1
  exact ⟨h.1.trans (hb.mono h.1.size), h.2.1.new hb, h.2.2.1.new hb, (hb.cell (p := ⟨E, 0, none⟩) hl).trans h.2.2.2.1, (hb.cell (p := ⟨E, 1, none⟩) hl).trans h.2.2.2.2⟩
theorem clsStore {w wa : World} {Z E n : Nat} {a b b' : Array Value} {ta tb : TypeId} {f t : Value} (hZ : Z = w.heap.size) (hn : n = Z + 2) (hE : E = n) (h : Below w.heap.size w wa ∧ RowAt wa Z ta a ∧ RowAt wa (Z + 1) tb b ∧ wa.cell? ⟨E, 0, none⟩ = some f ∧ wa.cell? ⟨E, 1, none⟩ = some t) :
    Below w.heap.size w (wa.setRow (Z + 1) b') ∧ RowAt (wa.setRow (Z + 1) b') (Z + 1) tb b' ∧ RowAt (wa.setRow (Z + 1) b') Z ta a ∧ (wa.setRow (Z + 1) b').cell? ⟨E, 0, none⟩ = some f ∧ (wa.setRow (Z + 1) b').cell? ⟨E, 1, none⟩ = some t := by
  have c := ch_setRow wa (Z + 1) b'
  have hEn : ¬ E = Z + 1 := by omega
  exact ⟨below_row h.1 (Nat.le_refl _) (by omega) _, h.2.2.1.put, h.2.1.keep c (by omega), c.cell h.2.2.2.1 hEn, c.cell h.2.2.2.2 hEn⟩
theorem clsB {w wa : World} (h : Below w.heap.size w wa) : Below w.heap.size w wa.drew := below_dn h 1
theorem clsD {w wa : World} {Z E : Nat} {a b : Array Value} {ta tb : TypeId} {f t : Value} (h : Below w.heap.size w wa ∧ RowAt wa Z ta a ∧ RowAt wa (Z + 1) tb b ∧ wa.cell? ⟨E, 0, none⟩ = some f ∧ wa.cell? ⟨E, 1, none⟩ = some t) :
    Below w.heap.size w wa.drew ∧ RowAt wa.drew Z ta a ∧ RowAt wa.drew (Z + 1) tb b ∧ wa.drew.cell? ⟨E, 0, none⟩ = some f ∧ wa.drew.cell? ⟨E, 1, none⟩ = some t := ⟨clsB h.1, h.2⟩
set_option maxHeartbeats 4000000 in
set_option maxRecDepth 100000 in
theorem clsEdge_any {w : World} {V : Nat → Prop} {x : Img} {S : ImgS} (h : ImgAt w V x S) (i : Int) :
    Calls Try.prog 29 #[.agg #[.int .i64 x.res, .slice S.t.sp x.tasks.length S.t.c, .slice S.m.sp x.modes.length S.m.c, .slice S.e.sp x.edges.length S.e.c], .int .i64 i] w fun e w' => e = .returned (.agg #[.int .u32 (w32 (edgeA x i &&& ~~~edgeB x i)), .int .u32 (w32 (edgeB x i &&& ~~~edgeA x i)), .int .u32 (w32 (edgeA x i &&& edgeB x i))]) ∧ Below w.heap.size w w' := by
  by_cases hi : 0 ≤ i ∧ i < (x.edges.length : Int)
  case neg =>
    have ea : edgeA x i = 0#32 := by unfold edgeA; rw [if_neg hi]
    have eb : edgeB x i = 0#32 := by unfold edgeB; rw [if_neg hi]
    rw [ea, eb]
    have hz : w32 (0#32 &&& ~~~0#32) = 0 ∧ w32 (0#32 &&& 0#32) = 0 := ⟨by decide, by decide⟩
    rw [hz.1, hz.2]
    obtain ⟨nT, hnT⟩ : ∃ n, x.tasks.length = n := ⟨_, rfl⟩
    obtain ⟨nM, hnM⟩ : ∃ n, x.modes.length = n := ⟨_, rfl⟩
    obtain ⟨nE, hnE⟩ : ∃ n, x.edges.length = n := ⟨_, rfl⟩
    rw [hnE] at hi
    rw [hnT, hnM, hnE]
    clear h ea eb hz hnT hnM hnE
    by_cases h0 : i < 0
    · clear hi
      go_enter Try.func29, Try.ntmps29
      go_wp2
      go_returns
      exact ⟨rfl, by repeat first | exact Below.refl _ _ | refine Below.alloc ?_ (by simp) _⟩
    · have h1 : ¬ i < (nE : Int) := fun h1 => hi ⟨by omega, h1⟩
      clear hi
      go_enter Try.func29, Try.ntmps29
      go_wp2
      go_returns
      exact ⟨rfl, by repeat first | exact Below.refl _ _ | refine Below.alloc ?_ (by simp) _⟩
  obtain ⟨k, rfl⟩ := Int.eq_ofNat_of_zero_le hi.1
  have hk : k < x.edges.length := by omega
  have ea : edgeA x (k : Int) = tasksM x (x.e k).frm := by unfold edgeA; rw [if_pos hi, Int.toNat_natCast]
  have eb : edgeB x (k : Int) = tasksM x (x.e k).dst := by unfold edgeB; rw [if_pos hi, Int.toNat_natCast]
  rw [ea, eb]
  have HTf := Lib.hid (show ∀ wx, Below w.heap.size w wx → _ from fun wx hb => iTasks_any (h.new hb) (x.e k).frm)
  have HTt := Lib.hid (show ∀ wx, Below w.heap.size w wx → _ from fun wx hb => iTasks_any (h.new hb) (x.e k).dst)
  obtain ⟨hcs, hl1, hl2⟩ := h.ed k hk
  have hlen := edgeC_len hl1 hl2
  have hone := edgeC_one (x.e k)
  obtain ⟨hsp, hbl, -⟩ := h.se.at_ (by omega)
  have h0 : (edgeC (x.e k))[0]? = some (.int .i64 (x.e k).frm) := rfl
  have h1 : (edgeC (x.e k))[1]? = some (.int .i64 (x.e k).dst) := rfl
  obtain ⟨f, hf⟩ : ∃ f, (x.e k).frm = f := ⟨_, rfl⟩
  obtain ⟨t, ht⟩ : ∃ t, (x.e k).dst = t := ⟨_, rfl⟩
  obtain ⟨cs, hcc⟩ : ∃ cs, edgeC (x.e k) = cs := ⟨_, rfl⟩
  rw [hf] at HTf h0 ⊢
  rw [ht] at HTt h1 ⊢
  rw [hcc] at hcs hlen hone h0 h1
  obtain ⟨A, hA⟩ : ∃ A, tasksM x f = A := ⟨_, rfl⟩
  obtain ⟨B, hB⟩ : ∃ B, tasksM x t = B := ⟨_, rfl⟩
  rw [hA] at HTf ⊢
  rw [hB] at HTt ⊢
  obtain ⟨nT, hnT⟩ : ∃ n, x.tasks.length = n := ⟨_, rfl⟩
  obtain ⟨nM, hnM⟩ : ∃ n, x.modes.length = n := ⟨_, rfl⟩
  obtain ⟨nE, hnE⟩ : ∃ n, x.edges.length = n := ⟨_, rfl⟩
  rw [hnT, hnM, hnE] at HTf HTt
  rw [hnE] at hk hi
  rw [hnT, hnM, hnE]
  rw [hsp] at HTf HTt ⊢
  have HOf := Lib.hid (fun wx => clsOf_any A B wx)
  have HC := Lib.hid (show ∀ w', Below w.heap.size w w' → At w' S.e.b (S.e.o + k * 23) cs from fun w' hb' j u hu => (hb'.cell (p := ⟨S.e.b, S.e.o + k * 23 + j, none⟩) hbl).trans (hcs j u hu))
  have HL := Lib.hid (And.intro hlen (And.intro hone (And.intro h0 h1)))
  have HSz := Lib.hid (show cs.toArray.size = 23 ∧ cs.toArray.all (·.oneCell') = true from ⟨by simpa using hlen, by simpa using hone⟩)
  have hk2 : (k : Int) < (nE : Int) := by omega
  obtain ⟨Z, hZ⟩ : ∃ Z, Z = w.heap.size := ⟨_, rfl⟩
  have HZ := Lib.hid hZ
  clear h hcs hl1 hl2 hlen hone hbl h0 h1 hf ht hcc hA hB hnT hnM hnE hsp ea eb hi
  go_enter Try.func29, Try.ntmps29
  go_upto_region 1 with fail
  rw [← hZ]
  generalize hw2 : World.alloc _ _ = w2
  have H2 := Lib.hid (show Below w.heap.size w w2 ∧ w2.heap.size = Z + 2 ∧ RowAt w2 Z 26 #[.int .i64 x.res, .slice S.t.sp nT S.t.c, .slice S.m.sp nM S.m.c, .slice (some ⟨S.e.b, S.e.o, none⟩) nE S.e.c] ∧ RowAt w2 (Z + 1) 61 #[.int .u32 0, .int .u32 0, .int .u32 0] by
    rw [← hw2]
    refine ⟨?_, by simp [hZ], ?_, ?_⟩
    · exact ((Below.refl _ _).alloc (Nat.le_refl _) _).alloc (by simp) _
    · rw [hZ]; exact (RowAt.mk w _ _).new ((Below.refl _ _).alloc (Nat.le_refl _) _)
    · have := RowAt.mk (w.alloc (.cells #[.int .i64 x.res, .slice S.t.sp nT S.t.c, .slice S.m.sp nM S.m.c, .slice (some ⟨S.e.b, S.e.o, none⟩) nE S.e.c] 26)) 61 #[.int .u32 0, .int .u32 0, .int .u32 0]
      rw [World.size_alloc, ← hZ] at this
      exact this)
  clear hw2 hZ
  have c3 : w2.cell? ⟨Z, 3, none⟩ = some (.slice (some ⟨S.e.b, S.e.o, none⟩) nE S.e.c) := H2.out.2.2.1.cell 3
  go_upto_region 3 with fail
  have HAt := Lib.hid (HC.out w2 H2.out.1)
  go_wp2_with (first
    | (refine wpList_load_mid rfl 45 (.tmp 19) rfl S.e.b (S.e.o + k * 23) rfl cs _ HAt.out Try.underlying45 rfl (by rw [HL.out.1]; kernel_rfl) ?_)
    | (refine wpList_store_row rfl 45 (.tmp 5) (.tmp 20) rfl w2.heap.size cs.toArray (by rfl) (by rfl) 45 _ (heap_alloc_new w2 _) (by rw [HSz.out.1]; kernel_rfl) (by rw [HSz.out.1]; rfl) HSz.out.2 ?_; generalize hw3 : World.setRow _ _ _ = w3)
    | fail)
  have H3 := Lib.hid (show Below w.heap.size w w3 ∧ RowAt w3 Z 26 #[.int .i64 x.res, .slice S.t.sp nT S.t.c, .slice S.m.sp nM S.m.c, .slice (some ⟨S.e.b, S.e.o, none⟩) nE S.e.c] ∧ RowAt w3 (Z + 1) 61 #[.int .u32 0, .int .u32 0, .int .u32 0] ∧ w3.cell? ⟨w2.heap.size, 0, none⟩ = some (.int .i64 f) ∧ w3.cell? ⟨w2.heap.size, 1, none⟩ = some (.int .i64 t) by
    rw [← hw3]
    have hz := H2.out.2.1
    have b3 : Below w2.heap.size w2 (w2.alloc (.cells #[.int .i64 0, .int .i64 0, .int .i64 0, .int .i64 0, .int .i64 0, .int .i64 0, .int .i64 0, .int .i64 0, .int .i64 0, .int .i64 0, .int .i64 0, .int .i64 0, .int .i64 0, .int .i64 0, .int .i64 0, .int .i64 0, .int .i64 0, .int .i64 0, .int .i64 0, .int .i64 0, .int .i64 0, .int .i64 0, .int .i64 0] 45)) := (Below.refl _ _).alloc (Nat.le_refl _) _
    have bs := below_row b3 (Nat.le_refl _) (Nat.le_refl _) cs.toArray
    have hrow : RowAt _ w2.heap.size 45 cs.toArray := (RowAt.mk w2 45 #[.int .i64 0, .int .i64 0, .int .i64 0, .int .i64 0, .int .i64 0, .int .i64 0, .int .i64 0, .int .i64 0, .int .i64 0, .int .i64 0, .int .i64 0, .int .i64 0, .int .i64 0, .int .i64 0, .int .i64 0, .int .i64 0, .int .i64 0, .int .i64 0, .int .i64 0, .int .i64 0, .int .i64 0, .int .i64 0, .int .i64 0]).put
    refine ⟨H2.out.1.trans (bs.mono H2.out.1.size), H2.out.2.2.1.new bs, H2.out.2.2.2.new bs, ?_, ?_⟩
    · exact (hrow.cell 0).trans (by simpa using HL.out.2.2.1)
    · exact (hrow.cell 1).trans (by simpa using HL.out.2.2.2))
  have HZz := Lib.hid H2.out.2.1
  obtain ⟨E, hE⟩ : ∃ E, E = w2.heap.size := ⟨_, rfl⟩
  rw [← hE] at H3 HZz ⊢
  clear hw3 hE c3 HAt
  refine wp_region_held_drew (S := fun w' => RowAt w' Z 26 #[.int .i64 x.res, .slice S.t.sp nT S.t.c, .slice S.m.sp nM S.m.c, .slice (some ⟨S.e.b, S.e.o, none⟩) nE S.e.c] ∧ w'.cell? ⟨E, 0, none⟩ = some (.int .i64 f) ∧ w'.cell? ⟨E, 1, none⟩ = some (.int .i64 t)) (by kernel_rfl) ⟨H3.out.2.1, H3.out.2.2.2⟩ (fun hS => ?_)
  refine wpAnyH_take (i := 0) (oi := { dst := some 21, op := .load 26 (.tmp 2), type := 26, pos := "class.go:36", after := #[], guard := none }) (v := ?_) rfl (by kernel_rfl) (by kernel_rfl) (by kernel_rfl) (fun _ _ _ h => h) (Or.inl ⟨by rfl, ?_⟩) hS ?_
  rotate_left 1
  · intro w hw; obtain ⟨s0, s1, s2⟩ := hw; have k0 := s0.cell 0; have k1 := s0.cell 1; have k2 := s0.cell 2; have k3 := s0.cell 3; simp at k0 k1 k2 k3; go_simp; try (with_reducible rfl)
  simp only [Act.put, List.setIfInBounds_toArray, List.set_cons_zero, List.set_cons_succ]
  refine wpAnyH_take (i := 1) (oi := { dst := some 22, op := .fieldAddr 45 (.tmp 5) 0, type := 0, pos := "class.go:36", after := #[], guard := none }) (v := ?_) rfl (by kernel_rfl) (by kernel_rfl) (by kernel_rfl) (fun _ _ _ h => h) (Or.inl ⟨by rfl, ?_⟩) hS ?_
  rotate_left 1
  · intro w hw; obtain ⟨s0, s1, s2⟩ := hw; go_simp; try (with_reducible rfl)
  simp only [Act.put, List.setIfInBounds_toArray, List.set_cons_zero, List.set_cons_succ]
  refine wpAnyH_take (i := 2) (oi := { dst := some 23, op := .load 3 (.tmp 22), type := 3, pos := "class.go:36", after := #[{ on := 1, ground := .data }], guard := none }) (v := ?_) rfl (by kernel_rfl) (by kernel_rfl) (by kernel_rfl) (fun _ _ _ h => h) (Or.inl ⟨by rfl, ?_⟩) hS ?_
  rotate_left 1
  · intro w hw; obtain ⟨s0, s1, s2⟩ := hw; go_simp; try (with_reducible rfl)
  simp only [Act.put, List.setIfInBounds_toArray, List.set_cons_zero, List.set_cons_succ]
  refine wpAnyH_take (i := 4) (oi := { dst := some 25, op := .load 26 (.tmp 2), type := 26, pos := "class.go:36", after := #[], guard := none }) (v := ?_) rfl (by kernel_rfl) (by kernel_rfl) (by kernel_rfl) (fun _ _ _ h => h) (Or.inl ⟨by rfl, ?_⟩) hS ?_
  rotate_left 1
  · intro w hw; obtain ⟨s0, s1, s2⟩ := hw; have k0 := s0.cell 0; have k1 := s0.cell 1; have k2 := s0.cell 2; have k3 := s0.cell 3; simp at k0 k1 k2 k3; go_simp; try (with_reducible rfl)
  simp only [Act.put, List.setIfInBounds_toArray, List.set_cons_zero, List.set_cons_succ]
  refine wpAnyH_take (i := 5) (oi := { dst := some 26, op := .fieldAddr 45 (.tmp 5) 1, type := 0, pos := "class.go:36", after := #[], guard := none }) (v := ?_) rfl (by kernel_rfl) (by kernel_rfl) (by kernel_rfl) (fun _ _ _ h => h) (Or.inl ⟨by rfl, ?_⟩) hS ?_
  rotate_left 1
  · intro w hw; obtain ⟨s0, s1, s2⟩ := hw; go_simp; try (with_reducible rfl)
  simp only [Act.put, List.setIfInBounds_toArray, List.set_cons_zero, List.set_cons_succ]
  refine wpAnyH_take (i := 6) (oi := { dst := some 27, op := .load 3 (.tmp 26), type := 3, pos := "class.go:36", after := #[{ on := 5, ground := .data }], guard := none }) (v := ?_) rfl (by kernel_rfl) (by kernel_rfl) (by kernel_rfl) (fun _ _ _ h => h) (Or.inl ⟨by rfl, ?_⟩) hS ?_
  rotate_left 1
  · intro w hw; obtain ⟨s0, s1, s2⟩ := hw; go_simp; try (with_reducible rfl)
  simp only [Act.put, List.setIfInBounds_toArray, List.set_cons_zero, List.set_cons_succ]
  refine wpAnyH_ready (rs := [3]) (by kernel_rfl) (by simp) (AllReadyH.cons (o := { dst := some 24, op := .call { callee := .value (.func 17), args := #[.tmp 21, .tmp 23], argTypes := #[26, 3] }, type := 51, pos := "class.go:36", after := #[{ on := 0, ground := .data }, { on := 2, ground := .data }], guard := none }) rfl (fun K hK => ?_) AllReadyH.nil)
  go_simp
  go_at_call 17
  refine (HTf.out _ (clsB H3.out.1)).mono ?_
  rintro e w5 ⟨rfl, b5⟩
  have H5 := Lib.hid (show Below w.heap.size w w5 ∧ RowAt w5 Z 26 #[.int .i64 x.res, .slice S.t.sp nT S.t.c, .slice S.m.sp nM S.m.c, .slice (some ⟨S.e.b, S.e.o, none⟩) nE S.e.c] ∧ RowAt w5 (Z + 1) 61 #[.int .u32 0, .int .u32 0, .int .u32 0] ∧ w5.cell? ⟨E, 0, none⟩ = some (.int .i64 f) ∧ w5.cell? ⟨E, 1, none⟩ = some (.int .i64 t) from clsKeep (clsD H3.out) b5)
  clear b5
  try dsimp only
  refine hK.out _ _ ⟨H5.out.2.1, H5.out.2.2.2⟩ (fun hHeld => ?_)
  clear hK K
  try simp only [Act.put, List.setIfInBounds_toArray, List.set_cons_zero, List.set_cons_succ]
  refine wpAnyH_ready (rs := [7]) (by kernel_rfl) (by simp) (AllReadyH.cons (o := { dst := some 28, op := .call { callee := .value (.func 17), args := #[.tmp 25, .tmp 27], argTypes := #[26, 3] }, type := 51, pos := "class.go:36", after := #[{ on := 4, ground := .data }, { on := 6, ground := .data }, { on := 3, ground := .chain }], guard := none }) rfl (fun K hK => ?_) AllReadyH.nil)
  go_simp
  go_at_call 17
  refine (HTt.out _ H5.out.1).mono ?_
  rintro e w6 ⟨rfl, b6⟩
  have H6 := Lib.hid (show Below w.heap.size w w6 ∧ RowAt w6 Z 26 #[.int .i64 x.res, .slice S.t.sp nT S.t.c, .slice S.m.sp nM S.m.c, .slice (some ⟨S.e.b, S.e.o, none⟩) nE S.e.c] ∧ RowAt w6 (Z + 1) 61 #[.int .u32 0, .int .u32 0, .int .u32 0] ∧ w6.cell? ⟨E, 0, none⟩ = some (.int .i64 f) ∧ w6.cell? ⟨E, 1, none⟩ = some (.int .i64 t) from clsKeep H5.out b6)
  clear b6
  try dsimp only
  refine hK.out _ _ ⟨H6.out.2.1, H6.out.2.2.2⟩ (fun hHeld => ?_)
  clear hK K
  try simp only [Act.put, List.setIfInBounds_toArray, List.set_cons_zero, List.set_cons_succ]
  refine wpAnyH_ready (rs := [8]) (by kernel_rfl) (by simp) (AllReadyH.cons (o := { dst := some 29, op := .call { callee := .value (.func 21), args := #[.tmp 24, .tmp 28], argTypes := #[51, 51] }, type := 61, pos := "class.go:36", after := #[{ on := 3, ground := .data }, { on := 7, ground := .data }, { on := 7, ground := .chain }], guard := none }) rfl (fun K hK => ?_) AllReadyH.nil)
  go_simp
  go_at_call 21
  refine (HOf.out _).mono ?_
  rintro e w7 ⟨rfl, b7⟩
  have H7 := Lib.hid (show Below w.heap.size w w7 ∧ RowAt w7 Z 26 #[.int .i64 x.res, .slice S.t.sp nT S.t.c, .slice S.m.sp nM S.m.c, .slice (some ⟨S.e.b, S.e.o, none⟩) nE S.e.c] ∧ RowAt w7 (Z + 1) 61 #[.int .u32 0, .int .u32 0, .int .u32 0] ∧ w7.cell? ⟨E, 0, none⟩ = some (.int .i64 f) ∧ w7.cell? ⟨E, 1, none⟩ = some (.int .i64 t) from clsKeep H6.out b7)
  clear b7
  try dsimp only
  refine hK.out _ _ ⟨H7.out.2.1, H7.out.2.2.2⟩ (fun hHeld => ?_)
  clear hK K
  try simp only [Act.put, List.setIfInBounds_toArray, List.set_cons_zero, List.set_cons_succ]
  refine wpAnyH_ready (rs := [9]) (by kernel_rfl) (by simp) (AllReadyH.cons (o := { dst := none, op := .store 61 (.tmp 4) (.tmp 29), type := 0, pos := "class.go:36", after := #[{ on := 8, ground := .data }, { on := 8, ground := .chain }, { on := 0, ground := .phase }, { on := 1, ground := .phase }, { on := 2, ground := .phase }, { on := 3, ground := .phase }, { on := 4, ground := .phase }, { on := 5, ground := .phase }, { on := 6, ground := .phase }, { on := 7, ground := .phase }, { on := 8, ground := .phase }], guard := none }) rfl (fun K hK => ?_) AllReadyH.nil)
  rw [if_pos (by rfl)]
  refine wp_store_row 61 (.tmp 4) (.tmp 29) rfl (Z + 1) #[.int .u32 (w32 (A &&& ~~~B)), .int .u32 (w32 (B &&& ~~~A)), .int .u32 (w32 (A &&& B))] rfl rfl 61 #[.int .u32 0, .int .u32 0, .int .u32 0] H7.out.2.2.1 (by kernel_rfl) rfl (by simp [Value.oneCell']) ?_
  generalize hw8 : World.setRow _ _ _ = w8
  have H8 := Lib.hid (show Below w.heap.size w w8 ∧ RowAt w8 (Z + 1) 61 #[.int .u32 (w32 (A &&& ~~~B)), .int .u32 (w32 (B &&& ~~~A)), .int .u32 (w32 (A &&& B))] ∧ RowAt w8 Z 26 #[.int .i64 x.res, .slice S.t.sp nT S.t.c, .slice S.m.sp nM S.m.c, .slice (some ⟨S.e.b, S.e.o, none⟩) nE S.e.c] ∧ w8.cell? ⟨E, 0, none⟩ = some (.int .i64 f) ∧ w8.cell? ⟨E, 1, none⟩ = some (.int .i64 t) by rw [← hw8]; exact clsStore HZ.out HZz.out rfl H7.out)
  clear hw8
  refine hK.out _ _ ⟨H8.out.2.2.1, H8.out.2.2.2⟩ (fun hHeld => ?_)
  clear hK K
  try simp only [Act.put]
  refine wpAnyH_done (by kernel_rfl) ?_ _

  go_wp2
  refine bodyPost_ret (results_cell_row rfl _ _ (Z + 1) 61 #[.int .u32 (w32 (A &&& ~~~B)), .int .u32 (w32 (B &&& ~~~A)), .int .u32 (w32 (A &&& B))] (0, 0) _ rfl H8.out.2.1 Try.underlying61 rfl (by kernel_rfl)) rfl ?_
  exact ⟨rfl, H8.out.1⟩
end Go.Proofs.Ytomdcmdgcnhnmaa
