/- The contract of flash's Erase. -/
import Derived.Test.YthpagbfabpfngaaFG
namespace Go.Proofs.Ythpagbfabpfngaa
open Go.RowKit

def updI (f : Nat → Int) (i : Nat) (x : Int) : Nat → Int := fun a => if a = i then x else f a
def Dev.wear (d : Dev) (i : Nat) : Dev := { d with worn := updI d.worn i (d.worn i + 1) }
variable {w w' : World} {q S : Nat} {g : Nat → Nat} {d : Dev}
/-- A store into how often a sector was erased. -/
theorem DevAt.setWorn (h : DevAt w q S g d) (i : Nat) (hi : i < d.ns) : DevAt (w.setCell ⟨S, i * 2 + 1, none⟩ (Value.int .i64 (d.worn i + 1))) q S g (d.wear i) ∧ Ch (OwnD q S g d.ns) w (w.setCell ⟨S, i * 2 + 1, none⟩ (Value.int .i64 (d.worn i + 1))) := by
  have far : ∀ b k, b ≠ S → (w.setCell ⟨S, i * 2 + 1, none⟩ (Value.int .i64 (d.worn i + 1))).cell? ⟨b, k, none⟩ = w.cell? ⟨b, k, none⟩ := fun b k hb =>
    World.cell?_setCell_other _ _ _ _ (fun e' => hb (by injection e' with e' _; exact e'.symm))
  have far2 : ∀ k, k ≠ i * 2 + 1 → (w.setCell ⟨S, i * 2 + 1, none⟩ (Value.int .i64 (d.worn i + 1))).cell? ⟨S, k, none⟩ = w.cell? ⟨S, k, none⟩ := fun k hb =>
    World.cell?_setCell_other _ _ _ _ (fun e' => hb (by injection e' with _ e'; exact e'.symm))
  have hq := h.qs
  refine ⟨⟨(far _ _ hq).trans h.c0, (far _ _ hq).trans h.c1, (far _ _ hq).trans h.c2, (far _ _ hq).trans h.c3, (far _ _ hq).trans h.c4, (far _ _ hq).trans h.c5, (far _ _ hq).trans h.c6, (far _ _ hq).trans h.c7, fun j => by rw [World.frozen?_setCell]; exact h.fq j,
    fun i' hi' => (far2 _ (by omega)).trans (h.cs i' hi'), fun i' hi' => ?_, fun j => by rw [World.frozen?_setCell]; exact h.fs j, fun a b ha hb => (far _ _ (h.gq a ha).2).trans (h.cg a b ha hb), fun a b ha hb => by rw [World.frozen?_setCell]; exact h.fg a b ha hb, h.qs, h.gq, h.gi, h.zn⟩, (Ch.refl _ _).setCell _ _ (.inl (.inr (.inl rfl)))⟩
  show _ = some (Value.int .i64 (updI d.worn i (d.worn i + 1) i'))
  unfold updI
  by_cases e : i' = i
  · subst e
    rw [if_pos rfl]
    exact World.cell?_setCell_same _ _ _ (h.cw i' hi')
  · rw [if_neg e, far2 _ (by omega)]
    exact h.cw i' hi'

/-- The first k words of a sector are new. -/
def Dev.part (d : Dev) (i : Nat) (f : Nat → BitVec 32) (k : Nat) : Dev := { d with word := fun a b => if a = i ∧ b < k then f b else d.word a b }
theorem part_zero (d : Dev) (i : Nat) (f : Nat → BitVec 32) : d.part i f 0 = d := by
  unfold Dev.part
  have : (fun a b => if a = i ∧ b < 0 then f b else d.word a b) = d.word := by
    funext a b
    rw [if_neg (by omega)]
  rw [this]
theorem part_succ (d : Dev) (i : Nat) (f : Nat → BitVec 32) (k : Nat) : (d.part i f k).put i k (f k) = d.part i f (k + 1) := by
  unfold Dev.put Dev.part
  congr 1
  funext a b
  unfold upd
  by_cases e : a = i ∧ b = k
  · rw [if_pos e, if_pos ⟨e.1, by omega⟩, e.2]
  · rw [if_neg e]
    show (if a = i ∧ b < k then f b else d.word a b) = _
    by_cases e2 : a = i ∧ b < k
    · rw [if_pos e2, if_pos ⟨e2.1, by omega⟩]
    · rw [if_neg e2, if_neg (by omega)]
/-- What erasing a sector does. -/
def Dev.erase (d : Dev) (s : Int) : Dev × Int :=
  if d.readE s 0 = 0 then
    (if d.limit ≤ d.worn s.toNat then (d, 62)
    else (if (d.wear s.toNat).goes.2 then ((d.wear s.toNat).goes.1.part s.toNat (fun k => d.word s.toNat k ||| it (d.wear s.toNat).mask k) d.nw, 63)
      else ((d.wear s.toNat).goes.1.part s.toNat (fun _ => 4294967295#32) d.nw, 0)))
  else (d, d.readE s 0)
def Dev.okE (d : Dev) : Prop := d.ok ∧ d.limit ≤ 1048576 ∧ ∀ i, 0 ≤ d.worn i
theorem wear_ok {d : Dev} (h : d.ok) (i : Nat) : (d.wear i).ok := h

set_option maxHeartbeats 1000000 in
theorem erase_any (h : DevAt w q S g d) (ho : d.okE) (s : Int) : Calls Try.prog 106 #[.pointer (some ⟨q, 0, none⟩), .int .i64 s] w fun e w' =>
    e = .returned (.int .i64 (d.erase s).2) ∧ DevAt w' q S g (d.erase s).1 ∧ Ch (OwnD q S g d.ns) w w' := by
  have hr := read_any h s 0
  unfold Dev.erase
  by_cases he : d.readE s 0 = 0
  · rw [if_pos he]
    obtain ⟨s0, s1, -, k1, hw⟩ := readE_ok he
    obtain ⟨i, rfl⟩ : ∃ i : Nat, s = i := ⟨s.toNat, by omega⟩
    rw [he] at hr
    simp only [Int.toNat_natCast] at hw ⊢
    have HR := Lib.hid hr
    have HH := Lib.hid h
    have c0 := h.c0
    have c1 := h.cs i (by omega)
    have c2 := h.c2
    have c3 := h.cw i (by omega)
    have f3 := h.fs (i * 2 + 1)
    have hi : i < d.ns := by omega
    obtain ⟨wn, hwn⟩ : ∃ wn, d.worn i = wn := ⟨_, rfl⟩
    rw [hwn] at c3 ⊢
    by_cases hl : d.limit ≤ wn
    · rw [if_pos hl]
      clear h hr
      go_enter Try.func106, Try.ntmps106
      go_wp2_with (first
        | (go_at_call 84; refine HR.out.mono ?_; rintro e w' ⟨rfl, rfl⟩)
        | fail)
      go_quiet (fail)
      go_wp2
      go_ret
      exact ⟨rfl, HH.out.drewN _, (Ch.refl _ _).drewN _⟩
    · rw [if_neg hl]
      have hwr : IntKind.i64.wrap (wn + 1) = wn + 1 := by have := ho.2.1; have := ho.2.2 i; rw [IntKind.wrap_i64]; omega
      have h1 := fun n => (h.drewN n).setWorn i hi
      rw [hwn] at h1
      have HW := Lib.hid h1
      have HO := Lib.hid (fun w2 (h2 : DevAt w2 q S g (d.wear i)) => operate_any h2 (wear_ok ho.1 i))
      clear hr h1
      obtain ⟨e1, e2, e3, -, -⟩ := goes_same (d.wear i)
      obtain ⟨G, hG⟩ : ∃ G, (d.wear i).goes.1 = G := ⟨_, rfl⟩
      obtain ⟨M, hM⟩ : ∃ M, (d.wear i).mask = M := ⟨_, rfl⟩
      rw [hG] at e1 e2 e3
      rw [hG, hM] at HO
      rw [hG, hM]
      have hi1 : i < G.ns := by rw [e1]; exact hi
      have HE := Lib.hid (And.intro e1 (And.intro e2 (And.intro e3 hi1)))
      have e2' : G.nw = d.nw := e2
      cases hcut : (d.wear i).goes.2 with
      | false =>
        rw [hcut] at HO
        clear hG hM e1 e2 e3 hcut h
        simp only [Bool.false_eq_true, if_false]
        go_enter Try.func106, Try.ntmps106
        go_wp2_with (first
          | (go_at_call 84; refine HR.out.mono ?_; rintro e w' ⟨rfl, rfl⟩)
          | fail)
        go_quiet (fail)
        go_wp2_with (first
          | (go_at_call 120; refine (HO.out _ (HW.out _).1).mono ?_; rintro e w2 ⟨rfl, hd2, hc2⟩; have hb2 := (Below.refl w2.heap.size w2).alloc (Nat.le_refl _) (.cells #[.int .u32 (w32 M)] 186); have hdA := hd2.new hb2; have HD2 := Lib.hid (And.intro hdA ((((Ch.refl (OwnD q S g d.ns) w).drewN _).trans (HW.out _).2).trans ((by exact hc2 : Ch (OwnD q S g d.ns) _ w2).trans (Ch.new hb2)))); have p1 := hdA.cs i hi1; rw [e2'] at p1; clear hd2 hc2 hdA hb2)
          | fail)
        go_loopg [75] d.nw (fun gg v wr => ∃ k : Nat, k + gg = d.nw ∧ v = .int .i64 k ∧ Aside (DevAt wr q S g (G.part i (fun _ => 4294967295#32) k) ∧ Ch (OwnD q S g d.ns) w wr))
        case atStart => exact ⟨0, by omega, rfl, by rw [part_zero]; exact HD2.out.1, HD2.out.2⟩
        case round =>
          obtain ⟨k, hkg, rfl, HR2⟩ := hrel
          cases gk with
          | zero =>
            obtain rfl : k = d.nw := by omega
            go_wp2
            go_ret
            exact ⟨rfl, HR2.out⟩
          | succ g1 =>
            have hk : k < d.nw := by omega
            have q1 := HR2.out.1.cs i hi1
            have q2 := HR2.out.1.cg i k hi1 (by rw [show (G.part i (fun _ => 4294967295#32) k).nw = d.nw from e2']; exact hk)
            have q3 := HR2.out.1.fg i k hi1 (by rw [show (G.part i (fun _ => 4294967295#32) k).nw = d.nw from e2']; exact hk)
            rw [show (G.part i (fun _ => 4294967295#32) k).nw = d.nw from e2'] at q1
            have k0 : (0 : Int) ≤ (k : Int) := by omega
            have k1 : (k : Int) < (d.nw : Int) := by omega
            have hz := HH.out.zn.2.1
            go_wp2
            go_roundg g1
            case measure => omega
            case rel =>
              have h1 := HR2.out.1.setW i k 4294967295#32 hi1 (by rw [show (G.part i (fun _ => 4294967295#32) k).nw = d.nw from e2']; exact hk)
              rw [part_succ] at h1
              refine ⟨k + 1, by omega, by go_num, h1.1, ?_⟩
              have h3 := h1.2
              rw [show (G.part i (fun _ => 4294967295#32) k).ns = d.ns from HE.out.1] at h3
              exact HR2.out.2.trans h3
      | true =>
        rw [hcut] at HO
        simp only [if_true]
        have hgi := h.gq i hi
        have HG := Lib.hid (And.intro hgi (And.intro h.gi h.own_lt))
        clear hG hM e1 e2 e3 hcut h hgi
        go_enter Try.func106, Try.ntmps106
        go_wp2_with (first
          | (go_at_call 84; refine HR.out.mono ?_; rintro e w' ⟨rfl, rfl⟩)
          | fail)
        go_quiet (fail)
        go_wp2_with (first
          | (go_at_call 120; refine (HO.out _ (HW.out _).1).mono ?_; rintro e w2 ⟨rfl, hd2, hc2⟩; have hb2 := (Below.refl w2.heap.size w2).alloc (Nat.le_refl _) (.cells #[.int .u32 (w32 M)] 186); have hdA := hd2.new hb2; have HD2 := Lib.hid (And.intro hdA (And.intro ((((Ch.refl (OwnD q S g d.ns) w).drewN _).trans (HW.out _).2).trans ((by exact hc2 : Ch (OwnD q S g d.ns) _ w2).trans (Ch.new hb2))) (fun (e : OwnD q S g G.ns w2.heap.size) => Nat.lt_irrefl _ (hd2.own_lt _ e)))); have p1 := hdA.cs i hi1; rw [e2'] at p1; have p2 : (w2.alloc (.cells #[.int .u32 (w32 M)] 186)).cell? ⟨w2.heap.size, 0, none⟩ = some (.int .u32 (w32 M)) := by simp [go_sem]
             have p3 : (w2.alloc (.cells #[.int .u32 (w32 M)] 186)).frozen? ⟨w2.heap.size, 0, none⟩ = false := by simp [go_sem]
             have hN : w.heap.size ≤ w2.heap.size := Nat.le_trans (((Ch.refl (OwnD q S g d.ns) w).drewN _).trans (HW.out _).2).size hc2.size
             have HN := Lib.hid hN
             clear hd2 hc2 hdA hb2 hN)
          | fail)
        obtain ⟨N, hN⟩ : ∃ N, w2.heap.size = N := ⟨_, rfl⟩
        rw [hN] at p2 p3 HD2 HN ⊢
        generalize hwa : World.alloc w2 _ = wa at p1 p2 p3 HD2 ⊢
        have gN : ¬ g i = N := fun e => HD2.out.2.2 (.inr (.inr ⟨i, hi1, e.symm⟩))
        have gN2 : ¬ N = g i := fun e => gN e.symm
        have sN : ¬ S = N := fun e => HD2.out.2.2 (.inr (.inl e.symm))
        have sN2 : ¬ N = S := fun e => sN e.symm
        have sg : ¬ g i = S := HG.out.1.2
        have sg2 : ¬ S = g i := fun e => sg e.symm
        have HST := Lib.hid (And.intro p2 p3)
        clear hwa hN p2 p3
        go_loopg [55] d.nw (fun gg v wr => ∃ k : Nat, k + gg = d.nw ∧ v = .int .i64 k ∧ Aside (DevAt wr q S g (G.part i (fun k => d.word i k ||| it M k) k) ∧ Ch (OwnD q S g d.ns) w wr ∧ wr.cell? ⟨N, 0, none⟩ = some (.int .u32 (w32 (it M k))) ∧ wr.frozen? ⟨N, 0, none⟩ = false))
        case atStart => exact ⟨0, by omega, rfl, by rw [part_zero]; exact HD2.out.1, HD2.out.2.1, HST.out⟩
        case round =>
          obtain ⟨k, hkg, rfl, HR2⟩ := hrel
          cases gk with
          | zero =>
            obtain rfl : k = d.nw := by omega
            go_wp2
            go_ret
            exact ⟨rfl, HR2.out.1, HR2.out.2.1⟩
          | succ g1 =>
            have hk : k < d.nw := by omega
            have hkn : k < (G.part i (fun k => d.word i k ||| it M k) k).nw := by rw [show (G.part i (fun k => d.word i k ||| it M k) k).nw = d.nw from e2']; exact hk
            have q1 := HR2.out.1.cs i hi1
            have q2 := HR2.out.1.cg i k hi1 hkn
            have q3 := HR2.out.1.fg i k hi1 hkn
            have hwk : (G.part i (fun k => d.word i k ||| it M k) k).word i k = d.word i k := by
              show (if i = i ∧ k < k then _ else G.word i k) = _
              rw [if_neg (by omega), HE.out.2.2.1]; rfl
            rw [hwk] at q2
            rw [show (G.part i (fun k => d.word i k ||| it M k) k).nw = d.nw from e2'] at q1
            obtain ⟨y, hy⟩ : ∃ y, d.word i k = y := ⟨_, rfl⟩
            rw [hy] at q2
            have n1 := HR2.out.2.2.1
            have n2 := HR2.out.2.2.2
            have k0 : (0 : Int) ≤ (k : Int) := by omega
            have k1 : (k : Int) < (d.nw : Int) := by omega
            have hz := HH.out.zn.2.1
            have HY := Lib.hid (And.intro hy hkn)
            have HX := Lib.hid (next_any N (it M k) wr.drew n1 n2)
            clear hwk hkn hy
            go_wp2
            go_region_held3 (fun w' => w'.cell? ⟨S, i * 2, none⟩ = some (.slice (some ⟨g i, 0, none⟩) d.nw d.nw)) (first | exact q1 | go_keep)
              (first
                | (go_at_call 122; refine HX.out.mono ?_; rintro e w3 ⟨rfl, rfl⟩)
                | (go_at_call 123; refine (rises_any y (it M k) _).mono ?_; rintro e w3 ⟨rfl, rfl⟩)
                | fail)
            go_wp2
            go_roundg g1
            case measure => omega
            case rel =>
              have h1 := HR2.out.1.aside HR2.out.2.2.1 HD2.out.2.2 (.int .u32 (w32 (nxt (it M k))))
              have h2 := h1.1.setW i k (y ||| it M k) hi1 HY.out.2
              rw [← HY.out.1, part_succ] at h2
              rw [← HY.out.1]
              have h3 := h2.2
              rw [show (G.part i (fun k => d.word i k ||| it M k) k).ns = d.ns from HE.out.1] at h3
              refine ⟨k + 1, by omega, by go_num, h2.1.drewN 1, ?_, ?_, ?_⟩
              · exact ((HR2.out.2.1.setCell _ _ (.inr HN.out)).trans h3).drewN 1
              · exact (World.cell?_setCell_other _ _ _ _ (fun e => gN (by injection e))).trans h1.2
              · show ((wr.setCell _ _).setCell _ _).frozen? _ = false
                rw [World.frozen?_setCell, World.frozen?_setCell]
                exact HR2.out.2.2.2
  · rw [if_neg he]
    have HR := Lib.hid hr
    have HH := Lib.hid h
    obtain ⟨z, hz⟩ : ∃ z, d.readE s 0 = z := ⟨_, rfl⟩
    rw [hz] at HR he ⊢
    clear h hr
    go_enter Try.func106, Try.ntmps106
    go_wp2_with (first
      | (go_at_call 84; refine HR.out.mono ?_; rintro e w' ⟨rfl, rfl⟩)
      | fail)
    go_ret
    exact ⟨rfl, HH.out, Ch.refl _ _⟩
end Go.Proofs.Ythpagbfabpfngaa
