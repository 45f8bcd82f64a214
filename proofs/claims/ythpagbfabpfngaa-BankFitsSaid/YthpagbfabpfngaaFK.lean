/- The contract of flash's New. -/
import Derived.Test.YthpagbfabpfngaaFJ
namespace Go.Proofs.Ythpagbfabpfngaa
open Go.RowKit

set_option maxRecDepth 100000 in
theorem new_ok (ns nw : Nat) (lim : Int) (w : World) (h : okSize ns nw lim) : Calls Try.prog 9 #[.int .i64 ns, .int .i64 nw, .int .i64 lim] w fun e w' =>
    ∃ q S g, e = .returned (.tuple #[.pointer (some ⟨q, 0, none⟩), .int .i64 0]) ∧ DevAt w' q S g (Dev.fresh ns nw lim) ∧ (∀ j, OwnD q S g ns j → w.heap.size ≤ j) ∧ Below w.heap.size w w' := by
  obtain ⟨h1, h2, h3, h4, h5, h6⟩ := h
  obtain ⟨i0, hi, hz0, hz1, hz2⟩ := info_parts info93
  obtain ⟨w1, hmk, hown, hgr⟩ := run_makeSlice_full (P := Try.prog) w w.heap.size 88 95 i0 (.agg #[.slice none 0 0, .int .i64 0]) 2 Try.underlying88 hi hz0 hz1 .i64 .i64 ns (by omega) (by rw [hz2]; omega) (by unfold maxLen; omega) (Nat.le_refl _)
  have hb1 : Below w.heap.size w w1 := (Below.refl _ w).grown hgr (Nat.le_refl _) (fun k hk => by simp at hk)
  have hsz : w.heap.size < w1.heap.size := (hown.lt _ rfl).2
  obtain ⟨wa, hwa⟩ : ∃ wa, w1.alloc (.cells #[.slice (some ⟨w.heap.size, 0, none⟩) ns ns, .int .i64 nw, .int .i64 lim, .bool true, .int .i64 0, .bool false, .int .i64 0, .int .u32 0] 92) = wa := ⟨_, rfl⟩
  have hb2 : Below w1.heap.size w1 wa := by rw [← hwa]; exact (Below.refl _ _).alloc (Nat.le_refl _) _
  have hN : NewAt w wa w1.heap.size w.heap.size (fun _ => 0) ns nw lim 0 := by
    have cS : ∀ j, wa.cell? ⟨w.heap.size, j, none⟩ = w1.cell? ⟨w.heap.size, j, none⟩ := fun j => hb2.cell (p := ⟨w.heap.size, j, none⟩) hsz
    have fS : ∀ j, wa.frozen? ⟨w.heap.size, j, none⟩ = w1.frozen? ⟨w.heap.size, j, none⟩ := fun j => (Ch.new (T := fun _ => False) hb2).frozen (p := ⟨w.heap.size, j, none⟩) hsz (fun h => h)
    have row : ∀ j u, (rowQ (Dev.fresh ns nw lim) w.heap.size)[j]? = some u → wa.cell? ⟨w1.heap.size, j, none⟩ = some u := by
      intro j u hu
      rw [← hwa]
      match j, hu with
      | 0, hu => obtain rfl := Option.some.inj hu; simp [go_sem, Dev.fresh]
      | 1, hu => obtain rfl := Option.some.inj hu; simp [go_sem, Dev.fresh]
      | 2, hu => obtain rfl := Option.some.inj hu; simp [go_sem, Dev.fresh]
      | 3, hu => obtain rfl := Option.some.inj hu; simp [go_sem, Dev.fresh]
      | 4, hu => obtain rfl := Option.some.inj hu; simp [go_sem, Dev.fresh]
      | 5, hu => obtain rfl := Option.some.inj hu; simp [go_sem, Dev.fresh]
      | 6, hu => obtain rfl := Option.some.inj hu; simp [go_sem, Dev.fresh]
      | 7, hu => obtain rfl := Option.some.inj hu; rw [show w32 (Dev.fresh ns nw lim).seed = 0 from rfl]; simp [go_sem]
      | j + 8, hu => simp [rowQ] at hu
    refine ⟨row, fun j => by rw [← hwa]; simp [go_sem], fun i hi => by omega, fun i _ hi => ?_, fun i hi => ?_, fun j => (fS j).trans (hown.frozenAt j), fun i m hi => by omega, fun i m hi => by omega, by omega, fun i hi => by omega, fun i j hi => by omega, ⟨by omega, Nat.le_refl _, fun i hi => by omega⟩, ⟨?_, ?_, fun i hi => by omega⟩, hb1.trans (hb2.mono (by omega))⟩
    · rw [cS, hown.cellAt _ (by omega)]; exact (made_two _ _ ns i hi).1
    · rw [cS, hown.cellAt _ (by omega)]; exact (made_two _ _ ns i hi).2
    · rw [← hwa, World.size_alloc]; omega
    · rw [← hwa, World.size_alloc]; omega
  have HN := Lib.hid (And.intro hN hwa)
  have c0 := hN.row 0 _ rfl
  rw [← hwa] at c0
  clear hown hgr hb1 hb2 hN
  obtain ⟨S, hS⟩ : ∃ S, w.heap.size = S := ⟨_, rfl⟩
  obtain ⟨q, hq⟩ : ∃ q, w1.heap.size = q := ⟨_, rfl⟩
  have HQ := Lib.hid (And.intro hS hq)
  have z := And.intro h1 (And.intro h2 (And.intro h3 h4))
  have HZ := Lib.hid z
  clear hwa hS hq hsz z
  go_enter Try.func9, Try.ntmps9
  go_wp2
  rw [HN.out.2, HQ.out.1, HQ.out.2]
  go_loopg [43] ns (fun gg v wr => ∃ (k : Nat) (g : Nat → Nat), k + gg = ns ∧ v = .int .i64 k ∧ Aside (NewAt w wr q S g ns nw lim k))
  case atStart => exact ⟨0, fun _ => 0, by omega, rfl, by have := HN.out.1; rw [HQ.out.1, HQ.out.2] at this; exact this⟩
  case round =>
    obtain ⟨k, g, hkg, rfl, HR⟩ := hrel
    cases gk with
    | zero =>
      have hkn : k = ns := by omega
      have d1 : ¬ k < ns := by omega
      have HK := Lib.hid hkn
      clear hkg hkn
      go_wp2
      go_ret2
      exact ⟨q, S, g, rfl, (by rw [← HK.out]; rw [← HK.out] at HR; exact HR.out : NewAt w wr q S g ns nw lim ns).dev (by have := HZ.out; omega), fun j hj => by
        have hR := HR.out
        rw [HK.out] at hR
        rcases hj with rfl | rfl | ⟨i, hi, rfl⟩
        · exact hR.lo.1
        · exact hR.lo.2.1
        · exact hR.lo.2.2 i hi, HR.out.below⟩
    | succ g1 =>
      have hk : k < ns := by omega
      have q0 := HR.out.row 0 _ rfl
      have q1 := HR.out.cr k (Nat.le_refl _) hk
      have q2 := HR.out.fs (k * 2)
      have k0 : (0 : Int) ≤ (k : Int) := by omega
      have k1 : (k : Int) < (ns : Int) := by omega
      have hz2 : nw ≤ 4096 := by have := HZ.out; omega
      have hi3 := HR.out.hi
      have HREP := Lib.hid (repeat_two 4294967295 nw wr.heap.size 0 1 (wr.alloc (.cells #[.int .u32 4294967295] 26)).drew (cell_one_new wr (.int .u32 4294967295) 26 0 _ rfl) hz2)
      have hbA : Below wr.heap.size wr (wr.alloc (.cells #[.int .u32 4294967295] 26)).drew := ((Below.refl wr.heap.size wr).alloc (Nat.le_refl _) _).drew
      have hA := HR.out.keep hbA
      have q0b := hA.row 0 _ rfl
      have HA := Lib.hid hA
      have hszA : (wr.alloc (.cells #[.int .u32 4294967295] 26)).drew.heap.size = wr.heap.size + 1 := World.size_alloc _ _
      have HSA := Lib.hid hszA
      rw [hszA] at HREP
      have HNN := Lib.hid hi3
      have hqS : ¬ S = q := fun e => HR.out.qs e.symm
      have kq : ¬ S = wr.heap.size := by omega
      have kq2 : ¬ wr.heap.size = S := by omega
      have HKP := Lib.hid (fun (w5 : World) (hb5 : Below (wr.heap.size + 1) (wr.alloc (.cells #[.int .u32 4294967295] 26)).drew w5) => hA.keep (by rw [hszA]; exact hb5))
      clear hi3 hbA hA hszA
      go_wp2
      go_region_held3 (fun w' => w'.cell? ⟨q, 0, none⟩ = some (.slice (some ⟨S, 0, none⟩) ns ns)) (first | exact q0 | exact q0b | exact q0c | exact (World.cell?_setCell_other _ _ _ _ (fun e => hqS (by injection e))).trans q0c | go_keep)
        (first
          | (go_at_call 40; refine HREP.out.mono ?_; rintro e w5 ⟨rfl, hf5, hb5⟩; have h5 := HKP.out w5 hb5; have H5 := Lib.hid (And.intro h5 (And.intro hf5 (And.intro hb5 trivial))); have q0c := h5.row 0 _ rfl; have q1c := h5.cr k (Nat.le_refl _) hk; have q2c := h5.fs (k * 2); clear h5 hf5 hb5)
          | fail)
      go_wp2
      go_roundg g1
      case measure => omega
      case rel =>
        obtain ⟨L, o1, o2, o3⟩ := H5.out.2.1
        have hsz5 := (o1.lt _ rfl).2
        have hh := HNN.out
        have h6 := (H5.out.1.more (N := wr.heap.size + 1) hk hsz5 (Nat.le_trans HR.out.below.size (Nat.le_succ _)) (by omega) (by omega) (fun i hi => by have := hh.2.2 i hi; omega)
          (fun m hm => by rw [o1.cellAt m (by omega), o3 m hm]; rfl) (fun m _ => o1.frozenAt m))
        exact ⟨k + 1, _, by omega, by go_num, h6⟩
end Go.Proofs.Ythpagbfabpfngaa
