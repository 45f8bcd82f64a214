/- The contract of the law's Do: one call of both devices. -/
import Derived.Test.YtkbmgilceioieaaGE
namespace Go.Proofs.Ytkbmgilceioieaa
open Go.RowKit

theorem RefOut.letters {w w' : World} {bL bW : Nat} {d' : Dev} {n : Int} {ns nw : Nat} {lim : Int} {e : Ending} (h : RefOut w w' bL bW d' (fun v => .tuple #[v, .int .i64 n]) e) (h1 : d'.ns = ns) (h2 : d'.nw = nw) (h3 : d'.limit = lim) (sd : Int) (h4 : w32 d'.seed = sd) :
    ∃ bL' cL' bW' cW', e = .returned (.tuple #[vD ns nw lim bL' (ns * nw) cL' bW' ns cW' (!d'.on) d'.armed d'.after sd d'.ops, .int .i64 n]) ∧ RefIn w' bL' bW' d' ∧ (bL' = bL ∨ w.heap.size ≤ bL') ∧ (bW' = bW ∨ w.heap.size ≤ bW') ∧ Below w.heap.size w w' := by
  subst h1 h2 h3 h4
  exact h
theorem erase_seed (d : Dev) (s : Int) : (d.erase s).1.seed = d.seed := by
  unfold Dev.erase
  split
  · split
    · rfl
    · split
      · exact goes_seed _
      · exact goes_seed _
  · rfl
theorem program_seed (d : Dev) (s k : Int) (x : BitVec 32) : (d.program s k x).1.seed = d.seed := by
  unfold Dev.program
  split
  · split
    · split
      · exact goes_seed _
      · exact goes_seed _
    · rfl
  · rfl
theorem do_any {w : World} {q S : Nat} {g : Nat → Nat} {d : Dev} {bL bW : Nat} (h : DevAt w q S g d) (hr : RefIn w bL bW d.nn) (ho : d.okE) (h5 : d.nw ≤ 500) (hn1 : ¬ OwnD q S g d.ns bL) (hn2 : ¬ OwnD q S g d.ns bW) (o : FOp) (hw : -9223372036854775808 ≤ o.wrd ∧ o.wrd ≤ 9223372036854775807) (cL cW : Nat) :
    Calls Try.prog 14 #[.pointer (some ⟨q, 0, none⟩), refX bL cL bW cW d.nn, o.val] w fun e w' => DoOut (OwnD q S g d.ns) w w' q S g bL bW (d.step o) (d.step o).nn (fun bL' cL' bW' cW' => refX bL' cL' bW' cW' (d.step o).nn) e := by
  obtain ⟨r, r8, m1, m2, m3⟩ := mod8 o.kind
  have hk := step_kept ho o hw
  have hoN := nn_okE ho
  unfold FOp.val
  by_cases h4 : o.kind % 8 = 4
  · have hs : d.step o = (d.erase o.sec).1 := by unfold Dev.step; rw [if_pos h4]
    rw [hs] at hk ⊢
    have hR : ∀ w1, RefIn w1 bL bW d.nn → _ := fun w1 h1 => (eraseR_any h1 hoN h5 cL cW o.sec).mono (fun e w' h2 => by rw [nn_erase] at h2; exact h2.letters hk.ns hk.nw hk.lim (w32 d.seed) (by show w32 (d.erase o.sec).1.seed = _; rw [erase_seed]))
    have := do_erase w q S g d d.nn (d.erase o.sec).1.nn (d.erase o.sec).1 o.kind o.sec o.wrd (w32 o.w) (d.erase o.sec).2 r r8 _ _ _ _ h hr (fun j hj => h.own_lt j hj) hn1 hn2 hk.ns m1 m2 (m3.trans h4) hR (fun w1 h1 => erase_any h1 ho o.sec)
    refine this.mono ?_
    rintro e w' ⟨bL', cL', bW', cW', rfl, r1, r2, r3, r4, r5⟩
    refine ⟨bL', cL', bW', cW', ?_, r1, r2, r3, r4, r5⟩
    show _ = Ending.returned (.tuple #[refV (.slice (some ⟨bL', 0, none⟩) ((d.erase o.sec).1.ns * (d.erase o.sec).1.nw : Nat) cL') (.slice (some ⟨bW', 0, none⟩) (d.erase o.sec).1.ns cW') (d.erase o.sec).1.nn, _])
    unfold refV Dev.nn
    rw [hk.ns, hk.nw, hk.lim, erase_seed]
  by_cases h5' : o.kind % 8 = 5
  · have hs : d.step o = d.arm o.wrd o.w := by unfold Dev.step; rw [if_neg h4, if_pos h5']
    rw [hs]
    have := do_arm w q S g d d.nn (d.arm o.wrd o.w).nn (d.arm o.wrd o.w) o.kind o.sec o.wrd (w32 o.w) r r8 _ _ _ _ _ h hr (fun j hj => h.own_lt j hj) hn1 hn2 rfl ⟨rfl, rfl, rfl, rfl⟩ m1 m2 (m3.trans h5') (fun w1 => armR_any d.nn bL cL bW cW o.wrd o.w w1) (fun w1 h1 => arm_any h1 o.wrd o.w)
    exact this
  have pow : ∀ on : Bool, (o.kind % 8 == 6) = on → (o.kind % 8 == 7) = !on → d.step o = d.power on → Calls Try.prog 14 #[.pointer (some ⟨q, 0, none⟩), refX bL cL bW cW d.nn, .agg #[.int .i64 o.kind, .int .i64 o.sec, .int .i64 o.wrd, .int .u32 (w32 o.w)]] w fun e w' => DoOut (OwnD q S g d.ns) w w' q S g bL bW (d.step o) (d.step o).nn (fun bL' cL' bW' cW' => refX bL' cL' bW' cW' (d.step o).nn) e := by
    intro on e6 e7 hs
    rw [hs]
    exact do_power w q S g d d.nn (d.power on).nn (d.power on) o.kind o.sec o.wrd (w32 o.w) r r8 _ on h hr (fun j hj => h.own_lt j hj) hn1 hn2 rfl ⟨rfl, rfl, rfl, rfl⟩ m1 m2 m3 (by simpa using h4) (by simpa using h5') e6 e7 (fun w1 h1 => power_any h1 on)
  by_cases h6 : o.kind % 8 = 6
  · exact pow true (by simpa using h6) (by simp [h6]) (by unfold Dev.step; rw [if_neg h4, if_neg h5', if_pos h6])
  by_cases h7 : o.kind % 8 = 7
  · exact pow false (by simpa using h6) (by simpa using h7) (by unfold Dev.step; rw [if_neg h4, if_neg h5', if_neg h6, if_pos h7])
  · have hs : d.step o = (d.program o.sec o.wrd o.w).1 := by unfold Dev.step; rw [if_neg h4, if_neg h5', if_neg h6, if_neg h7]
    rw [hs] at hk ⊢
    have hR : ∀ w1, RefIn w1 bL bW d.nn → _ := fun w1 h1 => (progR_any h1 hoN.1 cL cW o.sec o.wrd o.w).mono (fun e w' h2 => by rw [nn_program] at h2; exact h2.letters hk.ns hk.nw hk.lim (w32 d.seed) (by show w32 (d.program o.sec o.wrd o.w).1.seed = _; rw [program_seed]))
    have := do_program w q S g d d.nn (d.program o.sec o.wrd o.w).1.nn (d.program o.sec o.wrd o.w).1 o.kind o.sec o.wrd (w32 o.w) (d.program o.sec o.wrd o.w).2 r r8 _ _ _ _ h hr (fun j hj => h.own_lt j hj) hn1 hn2 hk.ns m1 m2 _ m3 (by simpa using h4) (by simpa using h5') (by simpa using h6) (by simpa using h7) hR (fun w1 h1 => program_any h1 ho.1 o.sec o.wrd o.w)
    refine this.mono ?_
    rintro e w' ⟨bL', cL', bW', cW', rfl, r1, r2, r3, r4, r5⟩
    refine ⟨bL', cL', bW', cW', ?_, r1, r2, r3, r4, r5⟩
    show _ = Ending.returned (.tuple #[refV (.slice (some ⟨bL', 0, none⟩) ((d.program o.sec o.wrd o.w).1.ns * (d.program o.sec o.wrd o.w).1.nw : Nat) cL') (.slice (some ⟨bW', 0, none⟩) (d.program o.sec o.wrd o.w).1.ns cW') (d.program o.sec o.wrd o.w).1.nn, _])
    unfold refV Dev.nn
    rw [hk.ns, hk.nw, hk.lim, program_seed]
end Go.Proofs.Ytkbmgilceioieaa
