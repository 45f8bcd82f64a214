/- Several texts in one: FG, FH, FI, FJ. -/
import Derived.Test.YthpagbfabpfngaaPk03
import Derived.Laws.MakeOwn
import Derived.Laws.OwnMore
import Derived.Laws.CopyOwn
import Derived.Laws.Bits64b
/- The contracts of slices.Clone and flash's Sector. -/
namespace Go.Proofs.Ythpagbfabpfngaa
open Go.RowKit

theorem fresh27 (w : World) (base : Nat) (h : base ≤ w.heap.size) : (w.alloc (.cells #[] 26)).ownsRow base 26 1 (.slice (some ⟨w.heap.size, 0, none⟩) 0 0) 0 [] :=
  ⟨rfl, .inr ⟨w.heap.size, 0, #[], rfl, h, World.alloc_heap_new _ _, Nat.le_refl _, Nat.zero_le _, rfl, rfl⟩⟩
theorem rowB_one (l : List (BitVec 32)) : ∀ u ∈ rowB l, u.oneCell' = true := by
  intro u hu
  obtain ⟨x, _, rfl⟩ := List.mem_map.1 hu
  rfl
theorem own_valB {A : World} {base : Nat} {e : TypeId} {size : Nat} {v : Value} {n : Nat} {xs : List Value} (h : A.ownsRow base e size v n xs) : ∃ sp cap, v = .slice sp n cap := by
  rcases h.2 with ⟨h0, h1⟩ | ⟨g, cap, cur, hv, _⟩
  · exact ⟨none, 0, by rw [h0, h1]⟩
  · exact ⟨_, _, hv⟩
theorem eqlIn_nil (d : Nat) (a : Addr) (l c : Nat) (w : World) : (Op.equalIn (d + 1) 24 (.slice (some a) l c) (.slice none 0 0)).run Try.prog w = .ok false w := by
  simp [Op.equalIn, run_underlying Try.underlying24]
theorem eql_nil (a : Addr) (l c : Nat) (w : World) : (Go.binOp .eql 24 (.slice (some a) l c) (.slice none 0 0)).run Try.prog w = .ok (.bool false) w := by
  have h : (Op.equal 24 (.slice (some a) l c) (.slice none 0 0)).run Try.prog w = .ok false w := eqlIn_nil 9999 a l c w
  simp [Go.binOp, h]

set_option maxRecDepth 100000 in
theorem clone_any (l : List (BitVec 32)) (b off c : Nat) (w : World) (hl : ∀ j u, (rowB l)[j]? = some u → w.cell? ((⟨b, off, none⟩ : Addr).add j) = some u) (hb : b < w.heap.size) (hn : l.length ≤ 100000) :
    Calls Try.prog 67 #[.slice (some ⟨b, off, none⟩) l.length c] w fun e w' => ∃ v, e = .returned v ∧ w'.ownsRow w.heap.size 26 1 v l.length (rowB l) ∧ Below w.heap.size w w' := by
  obtain ⟨i0, hi, hz0, hz1, hz2⟩ := info_parts infoB
  have HL := Lib.hid (show ∀ j u, (rowB l)[j]? = some u → (w.alloc (.cells #[] 26)).cell? ((⟨b, off, none⟩ : Addr).add j) = some u from fun j u hu => by
    have h1 := hl j u hu
    rw [show (⟨b, off, none⟩ : Addr).add j = ⟨b, off + j, none⟩ from Addr.add_lit ..] at h1 ⊢
    exact ((Below.refl w.heap.size w).alloc (Nat.le_refl _) (.cells #[] 26)).cell (p := ⟨b, off + j, none⟩) hb |>.trans h1)
  have HR := Lib.hid (show (rowB l).length = l.length * 1 by unfold rowB; rw [List.length_map]; omega)
  have HB := Lib.hid (show 0 + l.length ≤ maxLen ∧ (0 + l.length) * 4 ≤ 140737488355328 ∧ w.heap.size ≤ (w.alloc (.cells #[] 26)).heap.size by rw [World.size_alloc]; unfold maxLen; omega)
  have hnil := eql_nil
  clear hl hb hn
  go_enter Try.func67, Try.ntmps67
  go_wp2_with (first
    | (at_builtin; refine wpList_append_own _ rfl (.tmp 5) (.tmp 6) 24 rfl w.heap.size 26 i0 (.int .u32 0) 1 4 Try.underlying24 hi hz0 hz1 hz2 rfl (by decide) _ 0 [] rfl (fresh27 w _ (Nat.le_refl _)) ⟨b, off, none⟩ l.length c (rowB l) rfl HR.out HL.out (rowB_one _) HB.out.1 HB.out.2.1 HB.out.2.2 ?_; intro v1 w1 hown1 hg1 _; rw [Nat.zero_add, List.nil_append] at hown1; obtain ⟨spx, cpx, rfl⟩ := own_valB hown1; have HG := Lib.hid (And.intro hown1 (Below.grown ((Below.refl w.heap.size w).alloc (Nat.le_refl _) _) hg1 HB.out.2.2 (fun j e => ((fresh27 w _ (Nat.le_refl _)).lt j e).1))); clear hown1 hg1)
    | fail)
  go_ret
  exact ⟨_, rfl, HG.out⟩
/-- The words of a sector. -/
def Dev.ws (d : Dev) (i : Nat) : List (BitVec 32) := (List.range d.nw).map (d.word i)
theorem ws_len (d : Dev) (i : Nat) : (d.ws i).length = d.nw := by simp [Dev.ws]
variable {w w' : World} {q S : Nat} {g : Nat → Nat} {d : Dev}
theorem ws_cells (h : DevAt w q S g d) (i : Nat) (hi : i < d.ns) : ∀ j u, (rowB (d.ws i))[j]? = some u → w.cell? ((⟨g i, 0, none⟩ : Addr).add j) = some u := by
  intro j u hu
  rw [show (⟨g i, 0, none⟩ : Addr).add j = ⟨g i, 0 + j, none⟩ from Addr.add_lit .., Nat.zero_add]
  unfold rowB Dev.ws at hu
  rw [List.map_map, List.getElem?_map] at hu
  by_cases hj : j < d.nw
  · rw [List.getElem?_range hj] at hu
    rw [← hu]
    exact h.cg i j hi hj
  · rw [List.getElem?_eq_none (by simp; omega)] at hu
    cases hu
theorem sector_any (h : DevAt w q S g d) (s : Int) : Calls Try.prog 23 #[.pointer (some ⟨q, 0, none⟩), .int .i64 s] w fun e w' =>
    ∃ v, e = .returned v ∧ (if d.has s then w'.ownsRow w.heap.size 26 1 v d.nw (rowB (d.ws s.toNat)) else v = .slice none 0 0) ∧ Below w.heap.size w w' := by
  have hh := hasD_any h s
  cases hs : d.has s with
  | true =>
    rw [hs] at hh
    have HH := Lib.hid hh
    unfold Dev.has at hs
    simp at hs
    obtain ⟨i, rfl⟩ : ∃ i : Nat, s = i := ⟨s.toNat, by omega⟩
    have c0 := h.c0
    have c1 := h.cs i (by omega)
    have i0 : (0 : Int) ≤ (i : Int) := by omega
    have i1 : (i : Int) < (d.ns : Int) := hs.2
    have hc := clone_any (d.ws i) (g i) 0 d.nw w (ws_cells h i (by omega)) (h.own_lt _ (.inr (.inr ⟨i, by omega, rfl⟩))) (by rw [ws_len]; have := h.zn; omega)
    rw [ws_len] at hc
    have HC := Lib.hid hc
    simp only [Int.toNat_natCast, if_true]
    clear h hh hs hc
    go_enter Try.func23, Try.ntmps23
    go_wp2_with (first
      | (go_at_call 66; refine HH.out.mono ?_; rintro e w' ⟨rfl, rfl⟩)
      | (go_at_call 67; refine HC.out.mono ?_; rintro e w2 ⟨v2, rfl, ho2, hb2⟩; have HO2 := Lib.hid (And.intro ho2 hb2); clear ho2 hb2)
      | fail)
    go_ret
    exact ⟨_, rfl, HO2.out⟩
  | false =>
    rw [hs] at hh
    have HH := Lib.hid hh
    simp only [Bool.false_eq_true, if_false]
    clear h hh hs
    go_enter Try.func23, Try.ntmps23
    go_wp2_with (go_at_call 66; refine HH.out.mono ?_; rintro e w' ⟨rfl, rfl⟩)
    go_ret
    exact ⟨_, rfl, rfl, Below.refl _ _⟩
end Go.Proofs.Ythpagbfabpfngaa
/- The contract of flash's Erase. -/
namespace Go.Proofs.Ythpagbfabpfngaa
open Go.RowKit

def updI (f : Nat → Int) (i : Nat) (x : Int) : Nat → Int := fun a => if a = i then x else f a
def Dev.wear (d : Dev) (i : Nat) : Dev := { d with worn := updI d.worn i (d.worn i + 1) }
variable {w w' : World} {q S : Nat} {g : Nat → Nat} {d : Dev}
/-- A store into how often a sector was erased. -/
theorem DevAt.setWorn (h : DevAt w q S g d) (i : Nat) (hi : i < d.ns) : DevAt (w.setCell ⟨S, i * 2 + 1, none⟩ (Value.int .i64 (d.worn i + 1))) q S g (d.wear i) ∧ Ch (OwnD q S g d.ns) w (w.setCell ⟨S, i * 2 + 1, none⟩ (Value.int .i64 (d.worn i + 1))) := by
  have far : ∀ b k, b ≠ S → (w.setCell ⟨S, i * 2 + 1, none⟩ (Value.int .i64 (d.worn i + 1))).cell? ⟨b, k, none⟩ = w.cell? ⟨b, k, none⟩ := fun b k hb =>
    World.cell?_setCell_other _ _ _ _ (fun e' => hb (by injection e' with e' _; exact e'.symm))
  have far2 : ∀ k, k ≠ i * 2 + 1 → (w.setCell ⟨S, i * 2 + 1, none⟩ (Value.int .i64 (d.worn i + 1))).cell? ⟨S, k, none⟩ = w.cell? ⟨S, k, none⟩ := fun k hb =>
    World.cell?_setCell_other _ _ _ _ (fun e' => hb (by injection e' with _ e'; exact e'.symm))
  have hq := h.qs
  refine ⟨⟨(far _ _ hq).trans h.c0, (far _ _ hq).trans h.c1, (far _ _ hq).trans h.c2, (far _ _ hq).trans h.c3, (far _ _ hq).trans h.c4, (far _ _ hq).trans h.c5, (far _ _ hq).trans h.c6, (far _ _ hq).trans h.c7, fun j => by rw [World.frozen?_setCell]; exact h.fq j,
    fun i' hi' => (far2 _ (by omega)).trans (h.cs i' hi'), fun i' hi' => ?_, fun j => by rw [World.frozen?_setCell]; exact h.fs j, fun a b ha hb => (far _ _ (h.gq a ha).2).trans (h.cg a b ha hb), fun a b ha hb => by rw [World.frozen?_setCell]; exact h.fg a b ha hb, h.qs, h.gq, h.gi, h.zn⟩, (Ch.refl _ _).setCell _ _ (.inl (.inr (.inl rfl)))⟩
  show _ = some (Value.int .i64 (updI d.worn i (d.worn i + 1) i'))
  unfold updI
  by_cases e : i' = i
  · subst e
    rw [if_pos rfl]
    exact World.cell?_setCell_same _ _ _ (h.cw i' hi')
  · rw [if_neg e, far2 _ (by omega)]
    exact h.cw i' hi'

/-- The first k words of a sector are new. -/
def Dev.part (d : Dev) (i : Nat) (f : Nat → BitVec 32) (k : Nat) : Dev := { d with word := fun a b => if a = i ∧ b < k then f b else d.word a b }
theorem part_zero (d : Dev) (i : Nat) (f : Nat → BitVec 32) : d.part i f 0 = d := by
  unfold Dev.part
  have : (fun a b => if a = i ∧ b < 0 then f b else d.word a b) = d.word := by
    funext a b
    rw [if_neg (by omega)]
  rw [this]
theorem part_succ (d : Dev) (i : Nat) (f : Nat → BitVec 32) (k : Nat) : (d.part i f k).put i k (f k) = d.part i f (k + 1) := by
  unfold Dev.put Dev.part
  congr 1
  funext a b
  unfold upd
  by_cases e : a = i ∧ b = k
  · rw [if_pos e, if_pos ⟨e.1, by omega⟩, e.2]
  · rw [if_neg e]
    show (if a = i ∧ b < k then f b else d.word a b) = _
    by_cases e2 : a = i ∧ b < k
    · rw [if_pos e2, if_pos ⟨e2.1, by omega⟩]
    · rw [if_neg e2, if_neg (by omega)]
/-- What erasing a sector does. -/
def Dev.erase (d : Dev) (s : Int) : Dev × Int :=
  if d.readE s 0 = 0 then
    (if d.limit ≤ d.worn s.toNat then (d, 62)
    else (if (d.wear s.toNat).goes.2 then ((d.wear s.toNat).goes.1.part s.toNat (fun k => d.word s.toNat k ||| it (d.wear s.toNat).mask k) d.nw, 63)
      else ((d.wear s.toNat).goes.1.part s.toNat (fun _ => 4294967295#32) d.nw, 0)))
  else (d, d.readE s 0)
def Dev.okE (d : Dev) : Prop := d.ok ∧ d.limit ≤ 1048576 ∧ ∀ i, 0 ≤ d.worn i
theorem wear_ok {d : Dev} (h : d.ok) (i : Nat) : (d.wear i).ok := h

set_option maxHeartbeats 1000000 in
theorem erase_any (h : DevAt w q S g d) (ho : d.okE) (s : Int) : Calls Try.prog 106 #[.pointer (some ⟨q, 0, none⟩), .int .i64 s] w fun e w' =>
    e = .returned (.int .i64 (d.erase s).2) ∧ DevAt w' q S g (d.erase s).1 ∧ Ch (OwnD q S g d.ns) w w' := by
  have hr := read_any h s 0
  unfold Dev.erase
  by_cases he : d.readE s 0 = 0
  · rw [if_pos he]
    obtain ⟨s0, s1, -, k1, hw⟩ := readE_ok he
    obtain ⟨i, rfl⟩ : ∃ i : Nat, s = i := ⟨s.toNat, by omega⟩
    rw [he] at hr
    simp only [Int.toNat_natCast] at hw ⊢
    have HR := Lib.hid hr
    have HH := Lib.hid h
    have c0 := h.c0
    have c1 := h.cs i (by omega)
    have c2 := h.c2
    have c3 := h.cw i (by omega)
    have f3 := h.fs (i * 2 + 1)
    have hi : i < d.ns := by omega
    obtain ⟨wn, hwn⟩ : ∃ wn, d.worn i = wn := ⟨_, rfl⟩
    rw [hwn] at c3 ⊢
    by_cases hl : d.limit ≤ wn
    · rw [if_pos hl]
      clear h hr
      go_enter Try.func106, Try.ntmps106
      go_wp2_with (first
        | (go_at_call 84; refine HR.out.mono ?_; rintro e w' ⟨rfl, rfl⟩)
        | fail)
      go_quiet (fail)
      go_wp2
      go_ret
      exact ⟨rfl, HH.out.drewN _, (Ch.refl _ _).drewN _⟩
    · rw [if_neg hl]
      have hwr : IntKind.i64.wrap (wn + 1) = wn + 1 := by have := ho.2.1; have := ho.2.2 i; rw [IntKind.wrap_i64]; omega
      have h1 := fun n => (h.drewN n).setWorn i hi
      rw [hwn] at h1
      have HW := Lib.hid h1
      have HO := Lib.hid (fun w2 (h2 : DevAt w2 q S g (d.wear i)) => operate_any h2 (wear_ok ho.1 i))
      clear hr h1
      obtain ⟨e1, e2, e3, -, -⟩ := goes_same (d.wear i)
      obtain ⟨G, hG⟩ : ∃ G, (d.wear i).goes.1 = G := ⟨_, rfl⟩
      obtain ⟨M, hM⟩ : ∃ M, (d.wear i).mask = M := ⟨_, rfl⟩
      rw [hG] at e1 e2 e3
      rw [hG, hM] at HO
      rw [hG, hM]
      have hi1 : i < G.ns := by rw [e1]; exact hi
      have HE := Lib.hid (And.intro e1 (And.intro e2 (And.intro e3 hi1)))
      have e2' : G.nw = d.nw := e2
      cases hcut : (d.wear i).goes.2 with
      | false =>
        rw [hcut] at HO
        clear hG hM e1 e2 e3 hcut h
        simp only [Bool.false_eq_true, if_false]
        go_enter Try.func106, Try.ntmps106
        go_wp2_with (first
          | (go_at_call 84; refine HR.out.mono ?_; rintro e w' ⟨rfl, rfl⟩)
          | fail)
        go_quiet (fail)
        go_wp2_with (first
          | (go_at_call 120; refine (HO.out _ (HW.out _).1).mono ?_; rintro e w2 ⟨rfl, hd2, hc2⟩; have hb2 := (Below.refl w2.heap.size w2).alloc (Nat.le_refl _) (.cells #[.int .u32 (w32 M)] 186); have hdA := hd2.new hb2; have HD2 := Lib.hid (And.intro hdA ((((Ch.refl (OwnD q S g d.ns) w).drewN _).trans (HW.out _).2).trans ((by exact hc2 : Ch (OwnD q S g d.ns) _ w2).trans (Ch.new hb2)))); have p1 := hdA.cs i hi1; rw [e2'] at p1; clear hd2 hc2 hdA hb2)
          | fail)
        go_loopg [75] d.nw (fun gg v wr => ∃ k : Nat, k + gg = d.nw ∧ v = .int .i64 k ∧ Aside (DevAt wr q S g (G.part i (fun _ => 4294967295#32) k) ∧ Ch (OwnD q S g d.ns) w wr))
        case atStart => exact ⟨0, by omega, rfl, by rw [part_zero]; exact HD2.out.1, HD2.out.2⟩
        case round =>
          obtain ⟨k, hkg, rfl, HR2⟩ := hrel
          cases gk with
          | zero =>
            obtain rfl : k = d.nw := by omega
            go_wp2
            go_ret
            exact ⟨rfl, HR2.out⟩
          | succ g1 =>
            have hk : k < d.nw := by omega
            have q1 := HR2.out.1.cs i hi1
            have q2 := HR2.out.1.cg i k hi1 (by rw [show (G.part i (fun _ => 4294967295#32) k).nw = d.nw from e2']; exact hk)
            have q3 := HR2.out.1.fg i k hi1 (by rw [show (G.part i (fun _ => 4294967295#32) k).nw = d.nw from e2']; exact hk)
            rw [show (G.part i (fun _ => 4294967295#32) k).nw = d.nw from e2'] at q1
            have k0 : (0 : Int) ≤ (k : Int) := by omega
            have k1 : (k : Int) < (d.nw : Int) := by omega
            have hz := HH.out.zn.2.1
            go_wp2
            go_roundg g1
            case measure => omega
            case rel =>
              have h1 := HR2.out.1.setW i k 4294967295#32 hi1 (by rw [show (G.part i (fun _ => 4294967295#32) k).nw = d.nw from e2']; exact hk)
              rw [part_succ] at h1
              refine ⟨k + 1, by omega, by go_num, h1.1, ?_⟩
              have h3 := h1.2
              rw [show (G.part i (fun _ => 4294967295#32) k).ns = d.ns from HE.out.1] at h3
              exact HR2.out.2.trans h3
      | true =>
        rw [hcut] at HO
        simp only [if_true]
        have hgi := h.gq i hi
        have HG := Lib.hid (And.intro hgi (And.intro h.gi h.own_lt))
        clear hG hM e1 e2 e3 hcut h hgi
        go_enter Try.func106, Try.ntmps106
        go_wp2_with (first
          | (go_at_call 84; refine HR.out.mono ?_; rintro e w' ⟨rfl, rfl⟩)
          | fail)
        go_quiet (fail)
        go_wp2_with (first
          | (go_at_call 120; refine (HO.out _ (HW.out _).1).mono ?_; rintro e w2 ⟨rfl, hd2, hc2⟩; have hb2 := (Below.refl w2.heap.size w2).alloc (Nat.le_refl _) (.cells #[.int .u32 (w32 M)] 186); have hdA := hd2.new hb2; have HD2 := Lib.hid (And.intro hdA (And.intro ((((Ch.refl (OwnD q S g d.ns) w).drewN _).trans (HW.out _).2).trans ((by exact hc2 : Ch (OwnD q S g d.ns) _ w2).trans (Ch.new hb2))) (fun (e : OwnD q S g G.ns w2.heap.size) => Nat.lt_irrefl _ (hd2.own_lt _ e)))); have p1 := hdA.cs i hi1; rw [e2'] at p1; have p2 : (w2.alloc (.cells #[.int .u32 (w32 M)] 186)).cell? ⟨w2.heap.size, 0, none⟩ = some (.int .u32 (w32 M)) := by simp [go_sem]
             have p3 : (w2.alloc (.cells #[.int .u32 (w32 M)] 186)).frozen? ⟨w2.heap.size, 0, none⟩ = false := by simp [go_sem]
             have hN : w.heap.size ≤ w2.heap.size := Nat.le_trans (((Ch.refl (OwnD q S g d.ns) w).drewN _).trans (HW.out _).2).size hc2.size
             have HN := Lib.hid hN
             clear hd2 hc2 hdA hb2 hN)
          | fail)
        obtain ⟨N, hN⟩ : ∃ N, w2.heap.size = N := ⟨_, rfl⟩
        rw [hN] at p2 p3 HD2 HN ⊢
        generalize hwa : World.alloc w2 _ = wa at p1 p2 p3 HD2 ⊢
        have gN : ¬ g i = N := fun e => HD2.out.2.2 (.inr (.inr ⟨i, hi1, e.symm⟩))
        have gN2 : ¬ N = g i := fun e => gN e.symm
        have sN : ¬ S = N := fun e => HD2.out.2.2 (.inr (.inl e.symm))
        have sN2 : ¬ N = S := fun e => sN e.symm
        have sg : ¬ g i = S := HG.out.1.2
        have sg2 : ¬ S = g i := fun e => sg e.symm
        have HST := Lib.hid (And.intro p2 p3)
        clear hwa hN p2 p3
        go_loopg [55] d.nw (fun gg v wr => ∃ k : Nat, k + gg = d.nw ∧ v = .int .i64 k ∧ Aside (DevAt wr q S g (G.part i (fun k => d.word i k ||| it M k) k) ∧ Ch (OwnD q S g d.ns) w wr ∧ wr.cell? ⟨N, 0, none⟩ = some (.int .u32 (w32 (it M k))) ∧ wr.frozen? ⟨N, 0, none⟩ = false))
        case atStart => exact ⟨0, by omega, rfl, by rw [part_zero]; exact HD2.out.1, HD2.out.2.1, HST.out⟩
        case round =>
          obtain ⟨k, hkg, rfl, HR2⟩ := hrel
          cases gk with
          | zero =>
            obtain rfl : k = d.nw := by omega
            go_wp2
            go_ret
            exact ⟨rfl, HR2.out.1, HR2.out.2.1⟩
          | succ g1 =>
            have hk : k < d.nw := by omega
            have hkn : k < (G.part i (fun k => d.word i k ||| it M k) k).nw := by rw [show (G.part i (fun k => d.word i k ||| it M k) k).nw = d.nw from e2']; exact hk
            have q1 := HR2.out.1.cs i hi1
            have q2 := HR2.out.1.cg i k hi1 hkn
            have q3 := HR2.out.1.fg i k hi1 hkn
            have hwk : (G.part i (fun k => d.word i k ||| it M k) k).word i k = d.word i k := by
              show (if i = i ∧ k < k then _ else G.word i k) = _
              rw [if_neg (by omega), HE.out.2.2.1]; rfl
            rw [hwk] at q2
            rw [show (G.part i (fun k => d.word i k ||| it M k) k).nw = d.nw from e2'] at q1
            obtain ⟨y, hy⟩ : ∃ y, d.word i k = y := ⟨_, rfl⟩
            rw [hy] at q2
            have n1 := HR2.out.2.2.1
            have n2 := HR2.out.2.2.2
            have k0 : (0 : Int) ≤ (k : Int) := by omega
            have k1 : (k : Int) < (d.nw : Int) := by omega
            have hz := HH.out.zn.2.1
            have HY := Lib.hid (And.intro hy hkn)
            have HX := Lib.hid (next_any N (it M k) wr.drew n1 n2)
            clear hwk hkn hy
            go_wp2
            go_region_held3 (fun w' => w'.cell? ⟨S, i * 2, none⟩ = some (.slice (some ⟨g i, 0, none⟩) d.nw d.nw)) (first | exact q1 | go_keep)
              (first
                | (go_at_call 122; refine HX.out.mono ?_; rintro e w3 ⟨rfl, rfl⟩)
                | (go_at_call 123; refine (rises_any y (it M k) _).mono ?_; rintro e w3 ⟨rfl, rfl⟩)
                | fail)
            go_wp2
            go_roundg g1
            case measure => omega
            case rel =>
              have h1 := HR2.out.1.aside HR2.out.2.2.1 HD2.out.2.2 (.int .u32 (w32 (nxt (it M k))))
              have h2 := h1.1.setW i k (y ||| it M k) hi1 HY.out.2
              rw [← HY.out.1, part_succ] at h2
              rw [← HY.out.1]
              have h3 := h2.2
              rw [show (G.part i (fun k => d.word i k ||| it M k) k).ns = d.ns from HE.out.1] at h3
              refine ⟨k + 1, by omega, by go_num, h2.1.drewN 1, ?_, ?_, ?_⟩
              · exact ((HR2.out.2.1.setCell _ _ (.inr HN.out)).trans h3).drewN 1
              · exact (World.cell?_setCell_other _ _ _ _ (fun e => gN (by injection e))).trans h1.2
              · show ((wr.setCell _ _).setCell _ _).frozen? _ = false
                rw [World.frozen?_setCell, World.frozen?_setCell]
                exact HR2.out.2.2.2
  · rw [if_neg he]
    have HR := Lib.hid hr
    have HH := Lib.hid h
    obtain ⟨z, hz⟩ : ∃ z, d.readE s 0 = z := ⟨_, rfl⟩
    rw [hz] at HR he ⊢
    clear h hr
    go_enter Try.func106, Try.ntmps106
    go_wp2_with (first
      | (go_at_call 84; refine HR.out.mono ?_; rintro e w' ⟨rfl, rfl⟩)
      | fail)
    go_ret
    exact ⟨rfl, HH.out, Ch.refl _ _⟩
end Go.Proofs.Ythpagbfabpfngaa
/- The contract of slices.Repeat, of one word: the row that it gives is the caller's own. -/
namespace Go.Proofs.Ythpagbfabpfngaa
open Go.RowKit
attribute [local go_sem] Oper.semAt_some

/-- The first k of the m words are x. -/
def FillB (base B m x k : Nat) (W : World) : Prop := ∃ L : List Value, W.ownsRow base 26 1 (.slice (some ⟨B, 0, none⟩) m m) m L ∧ L.length = m ∧ ∀ j, j < k → L[j]? = some (.int .u32 (x : Int))
theorem FillB.at {base B m x k : Nat} {W : World} (h : FillB base B m x k W) (hk : k < m) : ∃ v, W.cell? ⟨B, k, none⟩ = some v ∧ W.frozen? ⟨B, k, none⟩ = false := by
  obtain ⟨L, h1, h2, -⟩ := h
  have h3 := h1.cellAt k (by omega)
  rw [List.getElem?_eq_getElem (by omega)] at h3
  exact ⟨_, h3, h1.frozenAt k⟩
theorem FillB.put {base B m x k : Nat} {W : World} (h : FillB base B m x k W) (hk : k < m) : FillB base B m x (k + 1) (W.setCell ⟨B, k, none⟩ (.int .u32 (x : Int))) := by
  obtain ⟨L, h1, h2, h3⟩ := h
  refine ⟨L.set k (.int .u32 (x : Int)), (h1.stored k _).1, by simpa using h2, fun j hj => ?_⟩
  by_cases e : j = k
  · subst e; rw [List.getElem?_set_self (by omega)]
  · rw [List.getElem?_set_ne (by omega)]; exact h3 j (by omega)
theorem mul64_two (y : Nat) (hy : y < 4294967296) (w : World) :
    Calls Try.prog 105 #[.int .u64 1, .int .u64 y] w fun e w' => e = .returned (.tuple #[.int .u64 0, .int .u64 y]) ∧ w' = w := by
  have h1 : bits .and .u64 1 4294967295 = 1 := by decide
  have h2 : bits .and .u64 (y : Int) 4294967295 = (y : Int) := by
    have h := bits_and_u64_nat y 4294967295 (by omega) (by omega)
    have e : y &&& 4294967295 = y % 4294967296 := Nat.and_two_pow_sub_one_eq_mod y 32
    rw [e, Nat.mod_eq_of_lt hy] at h
    exact h
  have h3 : (y : Int) / 4294967296 = 0 := by omega
  have h4 : bits .and .u64 0 4294967295 = 0 := by decide
  have h5 : IntKind.u64.wrap (y : Int) = (y : Int) := by rw [IntKind.wrap_u64]; omega
  go_enter Try.func105, Try.ntmps105
  go_wp2
  go_ret2
  exact ⟨rfl, rfl⟩
theorem mul_two (y : Nat) (hy : y < 4294967296) (w : World) :
    Calls Try.prog 75 #[.int .u64 1, .int .u64 y] w fun e w' => e = .returned (.tuple #[.int .u64 0, .int .u64 y]) ∧ w' = w := by
  go_enter Try.func75, Try.ntmps75
  go_wp2_with (go_at_call 105; refine (mul64_two y hy _).mono ?_; rintro e w' ⟨rfl, rfl⟩)
  go_ret2
  exact ⟨rfl, rfl⟩

theorem FillB.row {base B m x k : Nat} {W : World} (h : FillB base B m x k W) : ∃ L : List Value, W.heap[B]? = some (.cells L.toArray 26 (0, 0)) ∧ L.length = m ∧ ∀ j, j < k → L[j]? = some (.int .u32 (x : Int)) := by
  obtain ⟨L, h1, h2, h3⟩ := h
  rcases h1.2 with ⟨h4, -⟩ | ⟨g, cap, cur, h4, h5, h6, h7, h8, h9, h10⟩
  · cases h4
  · injection h4 with e1 e2 e3
    injection e1 with e1
    injection e1 with e1
    subst e1 e3
    refine ⟨L, ?_, h2, h3⟩
    have hc : cur = L.toArray := by
      rw [← h10, List.take_of_length_le (by simpa using Nat.le_of_eq h9)]
    rw [h6, hc]
theorem FillB.of {base B m x k : Nat} {W : World} {L : List Value} (hb : base ≤ B) (hm : m ≤ maxLen) (h : W.heap[B]? = some (.cells L.toArray 26 (0, 0))) (hl : L.length = m) (h3 : ∀ j, j < k → L[j]? = some (.int .u32 (x : Int))) : FillB base B m x k W := by
  refine ⟨L, ⟨by omega, .inr ⟨B, m, L.toArray, rfl, hb, h, Nat.le_refl _, hm, by simpa using hl, ?_⟩⟩, hl, h3⟩
  rw [List.take_of_length_le (by simp; omega)]
theorem splice_two {m x k c : Nat} {L : List Value} (hl : L.length = m) (hk : k + c ≤ m) (h3 : ∀ j, j < k → L[j]? = some (.int .u32 (x : Int))) : ∀ j, j < k + c → (splice L k (List.replicate c (.int .u32 (x : Int))))[j]? = some (.int .u32 (x : Int)) := by
  intro j hj
  unfold splice
  by_cases h : j < k
  · rw [List.getElem?_append_left (by rw [List.length_take]; omega), List.getElem?_take_of_lt h]; exact h3 j h
  · rw [List.getElem?_append_right (by rw [List.length_take]; omega), List.length_take, Nat.min_eq_left (by omega), List.getElem?_append_left (by rw [List.length_replicate]; omega), List.getElem?_replicate, if_pos (by omega)]
theorem cells_two {W : World} {B j : Nat} {L : List Value} (h : W.heap[B]? = some (.cells L.toArray 26 (0, 0))) (hj : j < L.length) : W.cell? ⟨B, j, none⟩ = L[j]? := by
  unfold World.cell?
  rw [h]
  simp [hj]
theorem size_two : (Try.prog.info? 26).map (·.size) = some 1 := by kernel_rfl
theorem one_two (c x : Nat) : ∀ v ∈ List.replicate c (Value.int .u32 (x : Int)), v.oneCell' = true := by
  intro v hv
  rw [List.eq_of_mem_replicate hv]; rfl

set_option maxRecDepth 100000 in
theorem repeat_two (x n : Nat) (b off capx : Nat) (w : World) (hc : w.cell? ⟨b, off, none⟩ = some (.int .u32 (x : Int))) (hn : n ≤ 4096) :
    Calls Try.prog 40 #[.slice (some ⟨b, off, none⟩) 1 capx, .int .i64 n] w fun e w' => e = .returned (.slice (some ⟨w.heap.size, 0, none⟩) n n) ∧ FillB w.heap.size w.heap.size n x n w' ∧ Below w.heap.size w w' := by
  obtain ⟨i0, hi, hz0, hz1, hz2⟩ := info_parts infoB
  obtain ⟨w1, hmk, hown, hgr⟩ := run_makeSlice_full (P := Try.prog) w w.heap.size 24 26 i0 (.int .u32 0) 1 Try.underlying24 hi hz0 hz1 .i64 .i64 n (by omega) (by rw [hz2]; omega) (by unfold maxLen; omega) (Nat.le_refl _)
  have hF : FillB w.heap.size w.heap.size n x 0 w1 := ⟨_, hown, by simp [size_madeCells], fun j hj => by omega⟩
  have hB : Below w.heap.size w w1 := (Below.refl _ w).grown hgr (Nat.le_refl _) (fun k hk => by simp at hk)
  obtain ⟨L1, hL1, hL2, -⟩ := hF.row
  have hblt : b < w.heap.size := by have := World.block_lt_of_cell? w _ hc; simpa using this
  have hc1 : w1.cell? ⟨b, off, none⟩ = some (.int .u32 (x : Int)) := (hB.cell (p := ⟨b, off, none⟩) hblt).trans hc
  obtain ⟨c1, hc1e⟩ : ∃ c1, Nat.min 1 n = c1 := ⟨_, rfl⟩
  have hc1n : c1 ≤ 1 ∧ c1 ≤ n ∧ (n = 0 ∨ c1 = 1) := by
    have h : min 1 n = c1 := hc1e
    omega
  have HCN := Lib.hid hc1n
  have HCL := Lib.hid (show (List.replicate c1 (Value.int .u32 (x : Int))).length = Nat.min 1 n by rw [List.length_replicate, hc1e])
  have HC1 := Lib.hid (show ∀ j v, (List.replicate c1 (Value.int .u32 (x : Int)))[j]? = some v → w1.cell? ((⟨b, off, none⟩ : Addr).add j) = some v by
    intro j v hv
    obtain ⟨hj, hv2⟩ := List.getElem?_eq_some_iff.1 hv
    rw [List.getElem_replicate] at hv2
    rw [List.length_replicate] at hj
    obtain rfl : j = 0 := by omega
    rw [show (⟨b, off, none⟩ : Addr).add 0 = ⟨b, off, none⟩ from Addr.add_lit ..]; exact hc1.trans (congrArg some hv2))
  obtain ⟨B, hBe⟩ : ∃ B, w.heap.size = B := ⟨_, rfl⟩
  rw [hBe] at hmk hL1 hB ⊢
  have HM := Lib.hid (And.intro hBe (And.intro hL1 (And.intro hL2 hB)))
  have HN := Lib.hid hn
  have HFi := Lib.hid (show 0 + (List.replicate c1 (Value.int .u32 (x : Int))).length ≤ L1.length by rw [List.length_replicate, hL2]; omega)
  have n1 : (0 : Int) ≤ (n : Int) := by omega
  have n3 : IntKind.u64.wrap (n : Int) = (n : Int) := by rw [IntKind.wrap_u64]; omega
  have n4 : IntKind.i64.wrap (n : Int) = (n : Int) := by rw [IntKind.wrap_i64]; omega
  have n5 : decide ((9223372036854775807 : Int) < (n : Int)) = false := by rw [decide_eq_false_iff_not]; omega
  have hsz1 := size_two
  clear hown hgr hF hB hBe hn hL1 hL2 hc hc1 hblt hc1e hc1n
  go_enter Try.func40, Try.ntmps40
  go_wp2_with (first
    | (go_at_call 75; refine (mul_two n (by have := HN.out; omega) _).mono ?_; rintro e w' ⟨rfl, hw⟩; subst hw)
    | (with_reducible refine wpList_copy_splice rfl (.tmp 31) (.tmp 32) 24 24 rfl 26 Try.underlying24 hsz1 _ _ _ _ _ _ rfl rfl B 0 L1 26 HM.out.2.1 (List.replicate c1 (.int .u32 (x : Int))) HCL.out (fun _ => ⟨rfl, _, rfl, HC1.out⟩) HFi.out (one_two _ _) B _ HM.out.2.2.2 (Nat.le_refl _) ?_; intro w4 hg4 hb4))
  have hF1 : FillB B B n x c1 w4 := FillB.of (Nat.le_refl _) (by have := HN.out; unfold maxLen; omega) hg4 (by rw [length_splice _ _ _ HFi.out]; exact HM.out.2.2.1) (fun j hj => by have := splice_two (k := 0) (x := x) (c := c1) HM.out.2.2.1 (by have := HCN.out; omega) (fun j hj => by omega) j (by omega); exact this)
  have HF1 := Lib.hid (And.intro hF1 hb4)
  clear hF1 hb4 hg4 hmk
  go_loopg [8] (n - c1) (fun g v wr => ∃ k : Nat, k + g = n ∧ v = .int .i64 k ∧ Aside (FillB B B n x k wr ∧ (n = 0 ∨ 0 < k) ∧ Below B w' wr))
  case atStart => exact ⟨c1, by have := HCN.out; omega, rfl, HF1.out.1, by have := HCN.out; omega, HF1.out.2⟩
  case round =>
    obtain ⟨k, hkg, rfl, HR⟩ := hrel
    by_cases hk : k = n
    · subst hk
      go_wp2
      go_ret
      exact ⟨rfl, HR.out.1, HR.out.2.2⟩
    · have hk1 : (k : Int) < (n : Int) := by omega
      have hk0 : (0 : Int) ≤ (k : Int) := by omega
      have hk3 : (k : Int) ≤ (n : Int) := by omega
      have hk4 : ¬ n = k := by omega
      have hk2 : 0 < k := by have := HR.out.2.1; omega
      obtain ⟨c, hcd⟩ : ∃ c, Nat.min k (n - k) = c := ⟨_, rfl⟩
      have hc3 : c ≤ k ∧ k + c ≤ n ∧ 0 < c := by
        have h : min k (n - k) = c := hcd
        omega
      obtain ⟨L, hL1, hL2, hL3⟩ := HR.out.1.row
      have HL := Lib.hid (And.intro hL1 (And.intro hL2 hL3))
      have HC := Lib.hid (And.intro hcd hc3)
      have HS := Lib.hid (show ∀ j v, (List.replicate c (Value.int .u32 (x : Int)))[j]? = some v → wr.drew.cell? ((⟨B, 0, none⟩ : Addr).add j) = some v by
        intro j v hv
        obtain ⟨hj, hv2⟩ := List.getElem?_eq_some_iff.1 hv
        rw [List.getElem_replicate] at hv2
        rw [List.length_replicate] at hj
        rw [show (⟨B, 0, none⟩ : Addr).add j = ⟨B, 0 + j, none⟩ from Addr.add_lit .., Nat.zero_add, ← hv2]
        have h1 := HR.out.1.row
        obtain ⟨L', h2, h3, h4⟩ := h1
        refine (cells_two h2 (by omega)).trans (h4 j (by omega)))
      have HLE := Lib.hid (show (List.replicate c (Value.int .u32 (x : Int))).length = Nat.min k (n - k) by rw [List.length_replicate, hcd])
      have HFT := Lib.hid (show k + (List.replicate c (Value.int .u32 (x : Int))).length ≤ L.length by rw [List.length_replicate, hL2]; exact hc3.2.1)
      have mixed : Try.prog.follows .mixedOrders = true := by kernel_rfl
      clear hcd hc3 hL1 hL2 hL3
      go_wp2
      go_region_held3 (fun _ => True) (first | exact trivial | go_keep)
        (first
         | (refine step_copy_splice rfl (.tmp 41) (.tmp 44) 24 24 rfl 26 Try.underlying24 hsz1 _ _ _ _ _ _ rfl rfl B k L 26 HL.out.1 (List.replicate c (.int .u32 (x : Int))) HLE.out (fun _ => ⟨rfl, _, rfl, HS.out⟩) HFT.out (one_two _ _) B _ HR.out.2.2.drew (Nat.le_refl _) ?_
            intro w5 hg5 hb5)
         | fail)
      have hF5 : FillB B B n x (k + c) w5 := FillB.of (Nat.le_refl _) (by have := HN.out; unfold maxLen; omega) hg5 (by rw [length_splice _ _ _ HFT.out]; exact HL.out.2.1) (splice_two HL.out.2.1 HC.out.2.2.1 HL.out.2.2)
      have HF5 := Lib.hid (And.intro hF5 hb5)
      clear hF5 hb5 hg5
      have hcw : IntKind.i64.wrap ((k : Int) + (c : Int)) = ((k + c : Nat) : Int) := by rw [IntKind.wrap_i64]; have := HC.out.2.2.1; have := HN.out; omega
      rw [hcw]
      go_wp2
      go_roundg (n - (k + c))
      case measure => have := HC.out.2.2.2; omega
      case rel => exact ⟨k + c, by have := HC.out.2.2.1; omega, rfl, HF5.out.1, .inr (by have := HC.out.2.2.2; omega), HF5.out.2⟩
end Go.Proofs.Ythpagbfabpfngaa
/- The contract of flash's New. -/
namespace Go.Proofs.Ythpagbfabpfngaa
open Go.RowKit

/-- May a device be so? -/
def okSize (sec wds lim : Int) : Prop := 1 ≤ sec ∧ sec ≤ 64 ∧ 1 ≤ wds ∧ wds ≤ 1024 ∧ 0 ≤ lim ∧ lim ≤ 1048576
def Dev.fresh (ns nw : Nat) (lim : Int) : Dev := ⟨ns, nw, lim, true, 0, false, 0, 0#32, fun _ _ => 4294967295#32, fun _ => 0⟩

theorem new_bad (sec wds lim : Int) (w : World) (h : ¬ okSize sec wds lim) : Calls Try.prog 9 #[.int .i64 sec, .int .i64 wds, .int .i64 lim] w fun e w' => e = .returned (.tuple #[.pointer none, .int .i64 64]) ∧ w = w' := by
  unfold okSize at h
  by_cases h1 : sec < 1
  · clear h
    go_enter Try.func9, Try.ntmps9
    go_wp2
    go_ret2
    exact ⟨rfl, rfl⟩
  by_cases h2 : 64 < sec
  · clear h
    go_enter Try.func9, Try.ntmps9
    go_wp2
    go_ret2
    exact ⟨rfl, rfl⟩
  by_cases h3 : wds < 1
  · clear h
    go_enter Try.func9, Try.ntmps9
    go_wp2
    go_ret2
    exact ⟨rfl, rfl⟩
  by_cases h4 : 1024 < wds
  · clear h
    go_enter Try.func9, Try.ntmps9
    go_wp2
    go_ret2
    exact ⟨rfl, rfl⟩
  by_cases h5 : lim < 0
  · clear h
    go_enter Try.func9, Try.ntmps9
    go_wp2
    go_ret2
    exact ⟨rfl, rfl⟩
  have h6 : 1048576 < lim := by omega
  clear h
  go_enter Try.func9, Try.ntmps9
  go_wp2
  go_ret2
  exact ⟨rfl, rfl⟩
theorem info93 : (Try.prog.info? 95).map (fun i => (i.zero, i.size, i.bytes)) = some (some (.agg #[.slice none 0 0, .int .i64 0]), 2, 32) := by kernel_rfl
theorem made_two (a b : Value) (n i : Nat) (hi : i < n) : (madeCells #[a, b] (n * 2)).toList[i * 2]? = some a ∧ (madeCells #[a, b] (n * 2)).toList[i * 2 + 1]? = some b := by
  unfold madeCells
  constructor
  · rw [Array.toList_map, List.getElem?_map, Array.toList_range, List.getElem?_range (by omega)]
    simp [Nat.mul_mod_left]
  · rw [Array.toList_map, List.getElem?_map, Array.toList_range, List.getElem?_range (by omega)]
    simp [Nat.add_mod]

/-- A device whose first k sectors have their words. -/
structure NewAt (w0 w : World) (q S : Nat) (g : Nat → Nat) (ns nw : Nat) (lim : Int) (k : Nat) : Prop where
  row : ∀ j u, (rowQ (Dev.fresh ns nw lim) S)[j]? = some u → w.cell? ⟨q, j, none⟩ = some u
  fq : ∀ j, w.frozen? ⟨q, j, none⟩ = false
  cs : ∀ i, i < k → w.cell? ⟨S, i * 2, none⟩ = some (.slice (some ⟨g i, 0, none⟩) nw nw)
  cr : ∀ i, k ≤ i → i < ns → w.cell? ⟨S, i * 2, none⟩ = some (.slice none 0 0)
  cw : ∀ i, i < ns → w.cell? ⟨S, i * 2 + 1, none⟩ = some (.int .i64 0)
  fs : ∀ j, w.frozen? ⟨S, j, none⟩ = false
  cg : ∀ i m, i < k → m < nw → w.cell? ⟨g i, m, none⟩ = some (.int .u32 4294967295)
  fg : ∀ i m, i < k → m < nw → w.frozen? ⟨g i, m, none⟩ = false
  qs : q ≠ S
  gq : ∀ i, i < k → g i ≠ q ∧ g i ≠ S
  gi : ∀ i j, i < k → j < k → g i = g j → i = j
  lo : w0.heap.size ≤ q ∧ w0.heap.size ≤ S ∧ ∀ i, i < k → w0.heap.size ≤ g i
  hi : q < w.heap.size ∧ S < w.heap.size ∧ ∀ i, i < k → g i < w.heap.size
  below : Below w0.heap.size w0 w
theorem NewAt.dev {w0 w : World} {q S : Nat} {g : Nat → Nat} {ns nw : Nat} {lim : Int} (h : NewAt w0 w q S g ns nw lim ns) (hz : ns ≤ 64 ∧ nw ≤ 1024 ∧ 0 < ns ∧ 0 < nw) : DevAt w q S g (Dev.fresh ns nw lim) :=
  ⟨h.row 0 _ rfl, h.row 1 _ rfl, h.row 2 _ rfl, h.row 3 _ rfl, h.row 4 _ rfl, h.row 5 _ rfl, h.row 6 _ rfl, h.row 7 _ rfl, h.fq, h.cs, h.cw, h.fs, h.cg, h.fg, h.qs, h.gq, h.gi, hz⟩
theorem NewAt.keep {w0 w w' : World} {q S : Nat} {g : Nat → Nat} {ns nw : Nat} {lim : Int} {k : Nat} (h : NewAt w0 w q S g ns nw lim k) (hb : Below w.heap.size w w') : NewAt w0 w' q S g ns nw lim k := by
  have c : ∀ b j, b < w.heap.size → w'.cell? ⟨b, j, none⟩ = w.cell? ⟨b, j, none⟩ := fun b j h => hb.cell (p := ⟨b, j, none⟩) h
  have f : ∀ b j, b < w.heap.size → w'.frozen? ⟨b, j, none⟩ = w.frozen? ⟨b, j, none⟩ := fun b j h => (Ch.new (T := fun _ => False) hb).frozen (p := ⟨b, j, none⟩) h (fun h => h)
  exact ⟨fun j u hu => (c _ _ h.hi.1).trans (h.row j u hu), fun j => (f _ _ h.hi.1).trans (h.fq j), fun i hi => (c _ _ h.hi.2.1).trans (h.cs i hi), fun i h1 h2 => (c _ _ h.hi.2.1).trans (h.cr i h1 h2), fun i hi => (c _ _ h.hi.2.1).trans (h.cw i hi), fun j => (f _ _ h.hi.2.1).trans (h.fs j),
    fun i m hi hm => (c _ _ (h.hi.2.2 i hi)).trans (h.cg i m hi hm), fun i m hi hm => (f _ _ (h.hi.2.2 i hi)).trans (h.fg i m hi hm), h.qs, h.gq, h.gi, h.lo, ⟨Nat.lt_of_lt_of_le h.hi.1 hb.size, Nat.lt_of_lt_of_le h.hi.2.1 hb.size, fun i hi => Nat.lt_of_lt_of_le (h.hi.2.2 i hi) hb.size⟩,
    h.below.trans (hb.mono h.below.size)⟩
/-- A sector more has its words. -/
theorem NewAt.more {w0 w : World} {q S : Nat} {g : Nat → Nat} {ns nw : Nat} {lim : Int} {k N : Nat} (h : NewAt w0 w q S g ns nw lim k) (hk : k < ns) (hN : N < w.heap.size) (h0 : w0.heap.size ≤ N) (hq : N ≠ q) (hS : N ≠ S) (hg : ∀ i, i < k → g i ≠ N)
    (hc : ∀ m, m < nw → w.cell? ⟨N, m, none⟩ = some (.int .u32 4294967295)) (hf : ∀ m, m < nw → w.frozen? ⟨N, m, none⟩ = false) :
    NewAt w0 (w.setCell ⟨S, k * 2, none⟩ (.slice (some ⟨N, 0, none⟩) nw nw)) q S (fun i => if i = k then N else g i) ns nw lim (k + 1) := by
  have far : ∀ b j, b ≠ S → (w.setCell ⟨S, k * 2, none⟩ (.slice (some ⟨N, 0, none⟩) nw nw)).cell? ⟨b, j, none⟩ = w.cell? ⟨b, j, none⟩ := fun b j hb =>
    World.cell?_setCell_other _ _ _ _ (fun e' => hb (by injection e' with e' _; exact e'.symm))
  have far2 : ∀ j, j ≠ k * 2 → (w.setCell ⟨S, k * 2, none⟩ (.slice (some ⟨N, 0, none⟩) nw nw)).cell? ⟨S, j, none⟩ = w.cell? ⟨S, j, none⟩ := fun j hb =>
    World.cell?_setCell_other _ _ _ _ (fun e' => hb (by injection e' with _ e'; exact e'.symm))
  refine ⟨fun j u hu => (far _ _ h.qs).trans (h.row j u hu), fun j => by rw [World.frozen?_setCell]; exact h.fq j, fun i hi => ?_, fun i h1 h2 => (far2 _ (by omega)).trans (h.cr i (by omega) h2), fun i hi => (far2 _ (by omega)).trans (h.cw i hi), fun j => by rw [World.frozen?_setCell]; exact h.fs j,
    fun i m hi hm => ?_, fun i m hi hm => ?_, h.qs, fun i hi => ?_, fun i j hi hj => ?_, ⟨h.lo.1, h.lo.2.1, fun i hi => ?_⟩, ⟨by rw [World.size_setCell]; exact h.hi.1, by rw [World.size_setCell]; exact h.hi.2.1, fun i hi => ?_⟩, h.below.setCell h.lo.2.1 _⟩
  · show _ = some (Value.slice (some ⟨if i = k then N else g i, 0, none⟩) nw nw)
    by_cases e : i = k
    · subst e; rw [if_pos rfl]; exact World.cell?_setCell_same _ _ _ (h.cr i (Nat.le_refl _) hk)
    · rw [if_neg e, far2 _ (by omega)]; exact h.cs i (by omega)
  · show (w.setCell _ _).cell? ⟨if i = k then N else g i, m, none⟩ = _
    by_cases e : i = k
    · rw [if_pos e, far _ _ hS]; exact hc m hm
    · rw [if_neg e, far _ _ (h.gq i (by omega)).2]; exact h.cg i m (by omega) hm
  · show (w.setCell _ _).frozen? ⟨if i = k then N else g i, m, none⟩ = _
    rw [World.frozen?_setCell]
    by_cases e : i = k
    · rw [if_pos e]; exact hf m hm
    · rw [if_neg e]; exact h.fg i m (by omega) hm
  · show (if i = k then N else g i) ≠ q ∧ (if i = k then N else g i) ≠ S
    by_cases e : i = k
    · rw [if_pos e]; exact ⟨hq, hS⟩
    · rw [if_neg e]; exact h.gq i (by omega)
  · show (if i = k then N else g i) = (if j = k then N else g j) → i = j
    by_cases e : i = k
    · by_cases e2 : j = k
      · intro _; omega
      · rw [if_pos e, if_neg e2]; intro e3; exact absurd e3.symm (hg j (by omega))
    · by_cases e2 : j = k
      · rw [if_neg e, if_pos e2]; intro e3; exact absurd e3 (hg i (by omega))
      · rw [if_neg e, if_neg e2]; exact h.gi i j (by omega) (by omega)
  · show w0.heap.size ≤ (if i = k then N else g i)
    by_cases e : i = k
    · rw [if_pos e]; exact h0
    · rw [if_neg e]; exact h.lo.2.2 i (by omega)
  · show (if i = k then N else g i) < _
    rw [World.size_setCell]
    by_cases e : i = k
    · rw [if_pos e]; exact hN
    · rw [if_neg e]; exact h.hi.2.2 i (by omega)
end Go.Proofs.Ythpagbfabpfngaa
