/- The contract of mbox's last. -/
import Derived.Test.YtbdcjfkplopbiaaDoorUA
import Derived.Test.YtbdcjfkplopbiaaDoorMIter
namespace Go.Proofs.YtbdcjfkplopbiaaDoor
open Go.RowKit
attribute [local go_sem] Oper.semAt_some

def gK (L : List Int) : Nat → Int
  | 0 => 0
  | k + 1 => nth L k
/-- The greatest of a set; 0, if there is none. -/
def lastI (x : BitVec 32) : Int := gK (ints (lst x 32)) (lst x 32).length
def IM (w2 : World) (Oc : Nat) (v : Int) (W : World) : Prop := Below Oc w2 W ∧ W.cell? ⟨Oc, 0, none⟩ = some (.int .i64 v) ∧ W.frozen? ⟨Oc, 0, none⟩ = false
theorem IM.foot {w2 : World} {Oc : Nat} {v : Int} (hs : w2.heap.size = Oc + 2) : Foot (fun _ j => j < Oc + 1) (IM w2 Oc v) where
  lt := fun W ⟨h, _, _⟩ j hj => by have := h.size; omega
  keep := fun W W' ⟨h1, h2, h3⟩ hc => by
    have nO : ¬ ¬ (Oc < Oc + 1) := fun h => h (by omega)
    exact ⟨⟨h1.trans (Ch.below hc (fun j hj hn => hn (by omega)) (by have := h1.size; omega)), hc.cell h2 nO, (hc.frozenCell h2 nO).trans h3⟩, fun j hj => hj⟩
set_option maxHeartbeats 2000000 in
set_option maxRecDepth 100000 in
theorem mlast_any (x : BitVec 32) (w : World) (ht : Tab w) : Calls Tryd.prog 22 #[.int .u32 (w32 x)] w fun e w' => e = .returned (.tuple #[.int .i64 (lastI x), .bool (w32 x != 0)]) ∧ Below w.heap.size w w' := by
  refine (callsIn_wide (n := 0)).1 ?_
  have hp := ht.pos
  unfold lastI
  obtain ⟨L, hL⟩ : ∃ L, L = ints (lst x 32) := ⟨_, rfl⟩
  obtain ⟨N, hN⟩ : ∃ N, N = (lst x 32).length := ⟨_, rfl⟩
  rw [← hL, ← hN]
  refine callsIn_of_wp_marks Tryd.func22 rfl trivial ?_ rfl
  simp only [Tryd.ntmps22, List.size_toArray, List.length_cons, List.length_nil, Nat.reduceAdd, Nat.reduceSub, Array.replicate_succ, Array.replicate_zero, List.push_toArray, List.append_toArray, List.nil_append, List.cons_append]
  gi_wp2_with (refine ⟨trivial, rfl, ?_⟩; gi_at_call 29; refine (callsIn_wide.2 (All_any _ _)).mono ?_; rintro e w' ⟨rfl, rfl⟩)
  obtain ⟨Oc, hOc⟩ : ∃ Oc, Oc = w.heap.size := ⟨_, rfl⟩
  generalize hw2 : World.alloc (World.alloc w _) _ = w2
  have z2 : w2.heap.size = Oc + 2 := by rw [← hw2, hOc]; simp
  have b2 : Below Oc w w2 := by rw [← hw2, hOc]; exact ((Below.refl _ w).alloc (Nat.le_refl _) _).alloc (by simp) _
  have o2 : w2.cell? ⟨Oc, 0, none⟩ = some (.int .i64 0) ∧ w2.frozen? ⟨Oc, 0, none⟩ = false ∧ w2.cell? ⟨Oc + 1, 0, none⟩ = some (.int .u32 (w32 x)) := by rw [← hw2, hOc]; simp [go_sem]
  have t2 : Tab w2 := ht.below (by omega) b2
  rw [← hOc]
  have HOc := Lib.hid hOc
  have HC := Lib.hid (show ∀ W', Below Oc w2 W' → Tab W' from fun W' hb => t2.below (by omega) hb)
  have hI0 : IM w2 Oc (gK L 0) w2 := ⟨Below.refl _ _, o2.1, o2.2.1⟩
  have HH := Lib.hid (And.intro z2 (And.intro hI0 (And.intro o2.2.2 b2)))
  have HL := Lib.hid (And.intro hL hN)
  clear hw2 z2 b2 o2 t2 hI0 hL hN ht hp hOc
  refine wpIn_rangeF (gf := 32) (lb := #[.pointer (some ⟨Oc + 1, 0, none⟩)]) rfl (enters_of Tryd.func32 (by kernel_rfl) rfl)
    N (fun k => #[.int .i64 (nth L k)]) (fun _ => rfl) (fun _ j => j < Oc + 1)
    (fun k W => IM w2 Oc (gK L k) W) (fun _ _ _ => False)
    (fun k => IM.foot HH.out.1) (fun _ _ => ⟨fun _ h => h.elim, fun _ _ h => h.elim⟩) HH.out.2.1
    (fun k a' _ => a' = { tmps := #[.int .u32 (w32 x), undef, .int .i64 0, .bool false, .pointer (some ⟨Oc, 0, none⟩), .int .i64 (nth L k), .int .u32 (w32 x), .func (.func 32) #[] #[.pointer (some ⟨Oc + 1, 0, none⟩)], .int .i64 (nth L k), undef, undef, undef, undef], defers := [] })
    (fun _ _ _ _ h _ => h) ?hit ?assign ?body ?done (fun _ _ _ _ h => h.elim)
  case hit =>
    intro J' Jx' W1 h1 h2 h3 h4 h5 h6 h7 h8
    rw [HH.out.1] at h1 h2 h3 h4 h5 h6 h7 ⊢
    rw [HL.out.1] at h7
    rw [HL.out.2] at h7 ⊢
    exact all_in _ (Oc + 1) x _ J' Jx' W1 (fun k W' hJ => HC.out W' (h3 k W' hJ).1.1) ((h2.cell (p := ⟨Oc + 1, 0, none⟩) (show Oc + 1 < Oc + 2 by omega)).trans HH.out.2.2.1) h7 h8
  case assign =>
    intro k W K hi hk hK
    gi_wp2
    exact hK _ _ rfl (Ch.refl _ _) hi (fun _ h => h)
  case body =>
    rintro k a' W ⟨h1, h2, h3⟩ hk rfl hz
    have H1 := Lib.hid (And.intro h1 (And.intro h2 h3))
    have HO := Lib.hid (show gK L (k + 1) = nth L k from rfl)
    obtain ⟨y, hy⟩ : ∃ y, nth L k = y := ⟨_, rfl⟩
    rw [hy] at HO ⊢
    obtain ⟨v, hv⟩ : ∃ v, gK L k = v := ⟨_, rfl⟩
    rw [hv] at h2 H1
    clear h1 hv hy
    gi_wp2
    refine ⟨⟨(Ch.refl _ _).setCell ⟨Oc, 0, none⟩ _ (.inl (by show Oc < Oc + 1; omega)), fun j hj => .inl hj⟩, ?_⟩
    show IM w2 Oc (gK L (k + 1)) _
    rw [HO.out]
    exact ⟨H1.out.1.setCell (Nat.le_refl _) _, World.cell?_setCell_same _ _ _ H1.out.2.1, by rw [World.frozen?_setCell]; exact H1.out.2.2⟩
  case done =>
    rintro W ⟨h1, h2, h3⟩ hD hnD hz
    rw [HH.out.1] at hD hnD hz
    have HK := Lib.hid (And.intro h1 hD)
    obtain ⟨y, hy⟩ : ∃ y, gK L N = y := ⟨_, rfl⟩
    rw [hy] at h2
    have HY := Lib.hid hy
    clear h1 hD hnD h3 hy
    gi_wp2
    rw [HH.out.1, HY.out]
    have hp : Ch (fun j => j = Oc + 2) W (W.putObj (Oc + 2) (.deferred none)) := (Ch.refl _ _).putObj _ _ rfl
    refine ⟨by simp, .inl ⟨_, _, rfl, run_takeDeferred HK.out.2, ?_⟩⟩
    refine ⟨.tuple #[.int .i64 y, .bool (w32 x != 0)], ?_, rfl, ?_⟩
    · simp [results, Tryd.results22, go_sem]
    · rw [← HOc.out]
      exact (HH.out.2.2.2.trans (HK.out.1.mono (by omega))).trans (hp.below (fun j hj e => by omega) (by have := HK.out.1.size; have := HH.out.1; omega))
end Go.Proofs.YtbdcjfkplopbiaaDoor
