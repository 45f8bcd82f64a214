/- The contract of Tick on a queue of timers. -/
import Derived.Test.YtkbmgilceioieaaDC
import Derived.Test.YtkbmgilceioieaaOwn
namespace Go.Proofs.Ytkbmgilceioieaa
open Go.RowKit

theorem info3 : (Try.prog.info? 3).map (fun i => (i.zero, i.size, i.bytes)) = some (some (.int .i64 0), 1, 8) := by kernel_rfl

theorem take_zero {A B : List (Int × Int)} (hA : ∀ p ∈ A, p.2 = 0) (hB : ∀ p, B.head? = some p → p.2 ≠ 0) : dueB (A ++ B) = A.map (·.1) ∧ restB (A ++ B) = B := by
  unfold dueB restB
  induction A with
  | nil =>
    cases B with
    | nil => exact ⟨rfl, rfl⟩
    | cons b B =>
      have := hB b rfl
      simp [this]
  | cons a A ih =>
    have h1 := hA a (List.mem_cons_self ..)
    have := ih (fun p hp => hA p (List.mem_cons_of_mem _ hp))
    simp [h1, this]
theorem sumL_zero {us : List Tm} (h : ∀ u ∈ us, u.af = 0) : sumL us = 0 := by
  induction us with
  | nil => rfl
  | cons u us ih => rw [sumL_cons, h u (List.mem_cons_self ..), ih fun v hv => h v (List.mem_cons_of_mem _ hv)]; rfl
theorem tolds_zero {us : List Tm} (h : ∀ u ∈ us, u.af = 0) : ∀ p ∈ tolds 0 us, p.2 = 0 := by
  induction us with
  | nil => simp [tolds]
  | cons u us ih =>
    intro p hp
    have hu := h u (List.mem_cons_self ..)
    simp only [tolds, hu, Int.add_zero] at hp
    rcases List.mem_cons.1 hp with rfl | hp
    · rfl
    · exact ih (fun v hv => h v (List.mem_cons_of_mem _ hv)) p hp
theorem tick_end {A : List (Int × Int)} {us vs : List Tm} (hB : tolds 0 (us ++ vs) = A.map fun p => (p.1, p.2 - 1)) (hz : ∀ u ∈ us, u.af = 0) (hv : ∀ t r, vs = t :: r → t.af ≠ 0) :
    us.map (·.id) = dueA A ∧ tolds 0 vs = tickA A := by
  have e := dueB_map A
  rw [← hB, tolds_append, sumL_zero hz] at e
  have t := take_zero (B := tolds (0 + 0) vs) (tolds_zero hz) (by
    cases vs with
    | nil => simp [tolds]
    | cons t r => intro p hp; simp [tolds] at hp; subst hp; simpa using hv t r rfl)
  rw [t.1, t.2, tolds_ids] at e
  exact e
/-- The first one's difference is less by one. -/
def lessL : List Tm → List Tm
  | [] => []
  | t :: r => { t with af := t.af - 1 } :: r
theorem lessL_told (L : List Tm) : tolds 0 (lessL L) = (tolds 0 L).map fun p => (p.1, p.2 - 1) := by
  cases L with
  | nil => rfl
  | cons t r => exact told_less t r
theorem lessL_bs (L : List Tm) : bsL (lessL L) = bsL L := by cases L <;> rfl
theorem lessL_len (L : List Tm) : (lessL L).length = L.length := by cases L <;> rfl

/-- The loop that pops what is due. -/
def Pop (w : World) (q : Nat) (L us vs : List Tm) (v : Value) (wr : World) : Prop :=
  lessL L = us ++ vs ∧ (∀ u ∈ us, u.af = 0) ∧ QAt wr q vs ∧ Ch (fun j => j = q ∨ j ∈ bsL L) w wr ∧ wr.ownsRow w.heap.size 3 1 v us.length (rowI (us.map (·.id)))

theorem Pop.end {w wr : World} {q : Nat} {L us vs : List Tm} {v : Value} {A : List (Int × Int)} (hA : tolds 0 L = A) (hp : Pop w q L us vs v wr) (hv : ∀ t r, vs = t :: r → t.af ≠ 0) :
    wr.ownsRow w.heap.size 3 1 v (dueA A).length (rowI (dueA A)) ∧ Next w q L (tickA A) wr := by
  obtain ⟨h1, h2, h3, h4, h5⟩ := hp
  have h0 := lessL_told L
  rw [h1, hA] at h0
  obtain ⟨e1, e2⟩ := tick_end h0 h2 hv
  rw [← e1, List.length_map]
  refine ⟨h5, vs, h3, e2, h4, fun t ht => .inl ?_⟩
  rw [← lessL_bs, h1]
  unfold bsL; simp; exact .inr ⟨t, ht, rfl⟩

theorem Pop.lt {w wr : World} {q : Nat} {L us vs : List Tm} {v : Value} (h : QAt w q L) (hp : Pop w q L us vs v wr) : q < w.heap.size ∧ ∀ t ∈ vs, t.b < w.heap.size := by
  refine ⟨h.lt.1, fun t ht => ?_⟩
  have : t.b ∈ bsL L := by
    rw [← lessL_bs, hp.1]
    unfold bsL; simp; exact .inr ⟨t, ht, rfl⟩
  obtain ⟨u, hu, e⟩ := List.mem_map.1 this
  rw [← e]; exact h.lt.2 u hu

theorem rowI_snoc' (us : List Tm) (t : Tm) : rowI (us.map (·.id) ++ [t].map (·.id)) = rowI (us.map (·.id)) ++ [.int .i64 t.id] := by simp [rowI]
/-- One is popped. -/
theorem Pop.step {w wr w1 : World} {q : Nat} {L us r : List Tm} {t : Tm} {v v1 : Value} {ob : Obj} (h : QAt w q L) (hp : Pop w q L us (t :: r) v wr) (ht : t.af = 0)
    (ho : w1.ownsRow w.heap.size 3 1 v1 (us.length + 1) (rowI (us.map (·.id)) ++ [.int .i64 t.id])) (hg : (wr.alloc ob).grownBy w1 v.ownBlock) :
    QAt w1 q (t :: r) ∧ Pop w q L (us ++ [t]) r v1 (w1.setCell ⟨q, 0, none⟩ (.pointer (hdE r none))) := by
  have hlt := hp.lt h
  obtain ⟨h1, h2, h3, h4, h5⟩ := hp
  have hz := h4.size
  have hb : Below w.heap.size wr w1 := Below.grown ((Below.refl _ _).alloc hz _) hg (by simp; omega) (fun j e => (h5.lt j e).1)
  have hQ1 : QAt w1 q (t :: r) := h3.below hb hlt.1 hlt.2
  refine ⟨hQ1, by rw [h1]; simp, ?_, ?_, ?_, ?_⟩
  · intro u hu
    rcases List.mem_append.1 hu with hu | hu
    · exact h2 u hu
    · simp at hu; subst hu; exact ht
  · exact (show QAt w1 q ([] ++ t :: r) from hQ1).unlink
  · exact (h4.then_below hb).setCell _ _ (.inl (.inl rfl))
  · rw [List.map_append, List.length_append, rowI_snoc']
    exact ownsRow_setCell_below ho hlt.1 _

theorem tick_first {w : World} {q : Nat} {t : Tm} {r : List Tm} (h : QAt w q (t :: r)) : QAt (w.setCell ⟨t.b, 1, none⟩ (.int .i64 (t.af - 1))) q (lessL (t :: r)) := (show QAt w q ([] ++ t :: r) from h).setAf (t.af - 1)

set_option maxHeartbeats 1000000 in
theorem tick_any (q : Nat) (L : List Tm) (A : List (Int × Int)) (w : World) (h : QAt w q L) (hA : tolds 0 L = A) (hok : OkA A) :
    Calls Try.prog 28 #[.pointer (some ⟨q, 0, none⟩)] w fun e w' => ∃ v, e = .returned v ∧ w'.ownsRow w.heap.size 3 1 v (dueA A).length (rowI (dueA A)) ∧ Next w q L (tickA A) w' := by
  obtain ⟨i0, hi, hz0, hz1, hz2⟩ := info_parts info3
  have hbd : ∀ t r, L = t :: r → 1 ≤ t.af ∧ t.af ≤ 65536 := fun t r e => by
    have := mid_bounds (xs := []) (t := t) (ys := r) (by rw [← hA, e] at hok; exact hok)
    simp at this; omega
  have hlen : L.length ≤ 64 := by have := hok.len; rw [← hA, tolds_len] at this; exact this
  have HA := Lib.hid hA
  have hq0 := cell_of_one h.q0
  have hqz := free_of_one h.q0
  have start : ∀ wr : World, QAt wr q (lessL L) → Ch (fun j => j = q ∨ j ∈ bsL L) w wr → Pop w q L [] (lessL L) (.slice none 0 0) wr :=
    fun wr h1 h2 => ⟨rfl, by simp, h1, h2, World.ownsRow_nil _ _ _ _⟩
  have HS := Lib.hid start
  have HQ := Lib.hid h
  clear hA hok start
  go_enter Try.func28, Try.ntmps28
  cases L with
  | nil =>
    rw [hdE_nil] at hq0
    clear hbd hlen
    go_wp2
    go_loopg [3] 0 (fun g v wr => v = .slice none 0 0 ∧ Aside (w = wr))
    case atStart => exact ⟨rfl, rfl⟩
    case round =>
      obtain ⟨rfl, hw⟩ := hrel
      obtain rfl := hw.out
      clear hw
      go_wp2
      go_ret
      exact ⟨_, rfl, (HS.out w HQ.out (Ch.refl _ _)).end HA.out (by intro t r e; cases e)⟩
  | cons t r =>
    rw [hdE_cons] at hq0
    obtain ⟨hb1, hb2⟩ := hbd t r rfl
    obtain ⟨t0, t1, t2, z0, z1, z2⟩ := (show QAt w q ([] ++ t :: r) from HQ.out).mid
    have hp := HS.out _ (tick_first HQ.out) (by refine (Ch.refl _ _).setCell _ _ (.inl (.inr ?_)); unfold bsL; simp)
    have HP := Lib.hid hp
    clear hbd hp t2 HS
    go_wp2
    clear hq0 hqz t0 t1 z0 z1 z2
    go_loopg [3] (t :: r).length (fun g v wr => ∃ us vs, vs.length = g ∧ Aside (Pop w q (t :: r) us vs v wr))
    case atStart => exact ⟨[], lessL (t :: r), lessL_len _, HP.out⟩
    case round =>
      obtain ⟨us, vs, hg, HR⟩ := hrel
      have hQr := HR.out.2.2.1
      have hq0 := cell_of_one hQr.q0
      have hqz := free_of_one hQr.q0
      cases vs with
      | nil =>
        rw [hdE_nil] at hq0
        clear hQr hg
        go_wp2
        go_ret
        exact ⟨_, rfl, HR.out.end HA.out (by intro t r e; cases e)⟩
      | cons x xs =>
        rw [hdE_cons] at hq0
        obtain ⟨x0, x1, x2, z0, z1, z2⟩ := (show QAt wr q ([] ++ x :: xs) from hQr).mid
        by_cases hx : x.af = 0
        · have hg' : xs.length + 1 = gk := by simpa using hg
          have hul : us.length ≤ 64 := by
            have := congrArg List.length HR.out.1
            rw [lessL_len] at this
            simp at this hlen; omega
          have hxb : (x.af == 0) = true := by simpa using hx
          have HX := Lib.hid hx
          have HZ := Lib.hid HR.out.2.2.2.1.size
          clear hQr hg hx x2 z0 z1 z2
          go_wp2_with (at_builtin; refine wpList_append_own _ rfl (.tmp 34) (.tmp 42) 26 rfl w.heap.size 3 i0 (.int .i64 0) 1 8 Try.underlying26 hi hz0 hz1 hz2 rfl Nat.one_pos _ us.length (rowI (us.map (·.id))) rfl (HR.out.2.2.2.2.alloc _) ⟨wr.heap.size, 0, none⟩ 1 1 [.int .i64 x.id] rfl rfl (cell_one_new _ _ _) (by simp [Value.oneCell']) (by unfold maxLen; omega) (by omega) (by rw [World.size_alloc]; exact Nat.le_succ_of_le HZ.out) ?_; intro v1 w1 hown1 hg1 _; have hs1 := HR.out.step HQ.out HX.out hown1 hg1; have HS1 := Lib.hid hs1.2; have q1 := cell_of_one hs1.1.q0; have y1 := free_of_one hs1.1.q0; rw [hdE_cons] at q1; obtain ⟨-, -, x2, -, -, -⟩ := (show QAt w1 q ([] ++ x :: xs) from hs1.1).mid; clear hown1 hg1 hs1)
          go_roundg xs.length
          case measure => omega
          case rel => exact ⟨us ++ [x], xs, rfl, HS1.out⟩
        · have hxb : (x.af == 0) = false := by simpa using hx
          have HX := Lib.hid hx
          clear hQr hg hx x2 z0 z1 z2
          go_wp2
          go_ret
          exact ⟨_, rfl, HR.out.end HA.out (by intro t r e; cases e; exact HX.out)⟩
end Go.Proofs.Ytkbmgilceioieaa
