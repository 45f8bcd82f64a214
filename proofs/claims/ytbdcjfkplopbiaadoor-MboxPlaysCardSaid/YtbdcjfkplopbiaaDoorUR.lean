/- Maths of all messages as they would be taken: what a send and a take turn in them. No statement about the program. -/
import Derived.Test.YtbdcjfkplopbiaaDoorUQ
import Derived.Test.YtbdcjfkplopbiaaDoorUO
import Derived.Test.YtbdcjfkplopbiaaDoorUG
namespace Go.Proofs.YtbdcjfkplopbiaaDoor
open Go.RowKit

/-- The messages of the degrees from m on, n of them. -/
def seg (f : Nat → List Int) : Nat → Nat → List (Int × Int)
  | _, 0 => []
  | m, n + 1 => nts f m ++ seg f (m + 1) n
theorem seg_add (f : Nat → List Int) : ∀ (a m b : Nat), seg f m (a + b) = seg f m a ++ seg f (m + a) b
  | 0, m, b => by simp [seg]
  | a + 1, m, b => by
    rw [show a + 1 + b = (a + b) + 1 by omega]
    show nts f m ++ seg f (m + 1) (a + b) = (nts f m ++ seg f (m + 1) a) ++ _
    rw [seg_add f a (m + 1) b, List.append_assoc, show m + 1 + a = m + (a + 1) by omega]
theorem nts_nil {f : Nat → List Int} {d : Nat} (h : f d = []) : nts f d = [] := by unfold nts; rw [h]; rfl
theorem nts_ne {f g : Nat → List Int} {d : Nat} (h : f d = g d) : nts f d = nts g d := by unfold nts; rw [h]
theorem seg_nil {f : Nat → List Int} : ∀ (n m : Nat), (∀ d, m ≤ d → d < m + n → f d = []) → seg f m n = []
  | 0, _, _ => rfl
  | n + 1, m, h => by
    show nts f m ++ seg f (m + 1) n = []
    rw [nts_nil (h m (by omega) (by omega)), seg_nil n (m + 1) (fun d h1 h2 => h d (by omega) (by omega))]; rfl
theorem seg_same {f g : Nat → List Int} : ∀ (n m : Nat), (∀ d, m ≤ d → d < m + n → f d = g d) → seg f m n = seg g m n
  | 0, _, _ => rfl
  | n + 1, m, h => by
    show nts f m ++ seg f (m + 1) n = nts g m ++ seg g (m + 1) n
    rw [nts_ne (h m (by omega) (by omega)), seg_same n (m + 1) (fun d h1 h2 => h d (by omega) (by omega))]
theorem seg_mem {f : Nat → List Int} {x : Int × Int} : ∀ (n m : Nat), x ∈ seg f m n → ∃ d : Nat, m ≤ d ∧ d < m + n ∧ x.1 = (d : Int) ∧ x.2 ∈ f d
  | 0, _, h => by cases h
  | n + 1, m, h => by
    rcases List.mem_append.1 h with h | h
    · obtain ⟨y, hy, rfl⟩ := List.mem_map.1 h
      exact ⟨m, by omega, by omega, rfl, hy⟩
    · obtain ⟨d, h1, h2, h3⟩ := seg_mem n (m + 1) h
      exact ⟨d, by omega, by omega, h3⟩
theorem flat_filter (f : Nat → List Int) (p : Nat → Bool) : ∀ l : List Nat, (∀ d ∈ l, p d = false → f d = []) → (l.filter p).flatMap (nts f) = l.flatMap (nts f)
  | [], _ => rfl
  | d :: l, h => by
    have ih := flat_filter f p l (fun e he => h e (List.mem_cons_of_mem _ he))
    cases hp : p d with
    | true => rw [List.filter_cons_of_pos (by simpa using hp)]; simp only [List.flatMap_cons]; rw [ih]
    | false =>
      rw [List.filter_cons_of_neg (by simp [hp])]; simp only [List.flatMap_cons]
      rw [ih, nts_nil (h d List.mem_cons_self hp)]; rfl
theorem seg_range (f : Nat → List Int) : ∀ n, (List.range n).flatMap (nts f) = seg f 0 n
  | 0 => rfl
  | n + 1 => by
    rw [List.range_succ, List.flatMap_append, seg_range f n, seg_add f n 0 1]
    simp [seg]
theorem toldF_seg (f : Nat → List Int) : toldF f = seg f 0 32 := by
  unfold toldF tk
  rw [List.take_length, ← seg_range]
  unfold lst
  refine flat_filter f _ _ (fun d hd hp => ?_)
  have hd' : d < 32 := List.mem_range.1 hd
  rw [dgK_bit f 32 (Nat.le_refl _) d hd'] at hp
  cases hf : f d with
  | nil => rfl
  | cons a t => simp [hd', hf] at hp
theorem seg_len (f : Nat → List Int) : ∀ n, (seg f 0 n).length = many f n
  | 0 => rfl
  | n + 1 => by
    rw [seg_add f n 0 1, List.length_append, seg_len f n]
    show many f n + (nts f (0 + n) ++ []).length = many f n + (f n).length
    simp [nts]
theorem toldF_len (f : Nat → List Int) : (toldF f).length = many f 32 := by rw [toldF_seg, seg_len]
/-- The degrees below, a degree, the degrees above. -/
theorem told_at (f : Nat → List Int) {d : Nat} (hd : d < 32) : toldF f = seg f 0 d ++ (nts f d ++ seg f (d + 1) (31 - d)) := by
  rw [toldF_seg]
  obtain ⟨k, hk⟩ : ∃ k, 31 - d = k := ⟨_, rfl⟩
  rw [hk, show (32 : Nat) = d + (k + 1) by omega, seg_add f d 0 (k + 1), Nat.zero_add]; rfl
theorem told_upd (f : Nat → List Int) {d : Nat} (hd : d < 32) (L : List Int) : toldF (updF f d L) = seg f 0 d ++ (L.map (fun x => ((d : Int), x)) ++ seg f (d + 1) (31 - d)) := by
  rw [told_at _ hd]
  have h1 : seg (updF f d L) 0 d = seg f 0 d := seg_same _ _ (fun e _ h2 => updF_ne _ _ _ _ (by omega))
  have h2 : seg (updF f d L) (d + 1) (31 - d) = seg f (d + 1) (31 - d) := seg_same _ _ (fun e h1 _ => updF_ne _ _ _ _ (by omega))
  have h3 : nts (updF f d L) d = L.map (fun x => ((d : Int), x)) := by unfold nts; rw [updF_same]
  rw [h1, h2, h3]
theorem pth_app_left (A B : List (Int × Int)) (k : Nat) (h : k < A.length) : pth (A ++ B) k = pth A k := by unfold pth; simp [List.getD_eq_getElem?_getD, List.getElem?_append_left h]
theorem pth_app_right (A B : List (Int × Int)) (k : Nat) (h : A.length ≤ k) : pth (A ++ B) k = pth B (k - A.length) := by unfold pth; simp [List.getD_eq_getElem?_getD, List.getElem?_append_right h]
theorem pth_mem (A : List (Int × Int)) (k : Nat) (h : k < A.length) : pth A k ∈ A := by unfold pth; rw [List.getD_eq_getElem?_getD, List.getElem?_eq_getElem h]; exact List.getElem_mem h
/-- Where put puts: behind what is of that degree or below. -/
theorem put_at {A B : List (Int × Int)} {a : Int} {k : Nat} (h : PutK (A ++ B) a k) (hA : ∀ x ∈ A, x.1 ≤ a) (hB : ∀ x ∈ B, a < x.1) : k = A.length := by
  rcases Nat.lt_trichotomy k A.length with h1 | h1 | h1
  · have h2 := h.gt k (Nat.le_refl _) (by rw [List.length_append]; omega)
    rw [pth_app_left _ _ _ h1] at h2
    have := hA _ (pth_mem A k h1)
    omega
  · exact h1
  · rcases h.at_ with h2 | h2
    · omega
    · rw [pth_app_right _ _ _ (by omega)] at h2
      have hle := h.le
      rw [List.length_append] at hle
      have := hB _ (pth_mem B (k - 1 - A.length) (by omega))
      omega
theorem told_put (f : Nat → List Int) {d : Nat} (hd : d < 32) {x : Int} {k : Nat} (h : PutK (toldF f) (d : Int) k) : (toldF f).take k ++ ((d : Int), x) :: (toldF f).drop k = toldF (updF f d (f d ++ [x])) := by
  have e := told_at f hd
  rw [← List.append_assoc] at e
  rw [e] at h ⊢
  have hk := put_at h (fun y hy => by
      rcases List.mem_append.1 hy with hy | hy
      · obtain ⟨e, h1, h2, h3, _⟩ := seg_mem _ _ hy; omega
      · obtain ⟨z, _, rfl⟩ := List.mem_map.1 hy; exact Int.le_refl _) (fun y hy => by
      obtain ⟨e, h1, h2, h3, _⟩ := seg_mem _ _ hy; omega)
  subst hk
  rw [List.take_left, List.drop_left, told_upd f hd, List.map_append]
  simp [nts]
theorem map_dropLast' (g : Int → Int × Int) (L : List Int) : (L.map g).dropLast = L.dropLast.map g := List.map_dropLast.symm
/-- The last goes. -/
theorem told_init (f : Nat → List Int) {g : Nat} (hg : g < 32) (h0 : f g ≠ []) (hm : ∀ e, g < e → e < 32 → f e = []) : (toldF f).dropLast = toldF (updF f g (f g).dropLast) := by
  have hs : seg f (g + 1) (31 - g) = [] := seg_nil _ _ (fun e h1 h2 => hm e (by omega) (by omega))
  rw [told_at f hg, told_upd f hg, hs, List.append_nil, List.append_nil]
  rw [List.dropLast_append_of_ne_nil (by unfold nts; simp [h0])]
  unfold nts; rw [map_dropLast']
/-- The first goes. -/
theorem told_drop (f : Nat → List Int) {d : Nat} (hd : d < 32) {x : Int} {L : List Int} (h0 : f d = x :: L) (hm : ∀ e, e < d → f e = []) : toldF f = ((d : Int), x) :: toldF (updF f d ((f d).drop 1)) := by
  have hs : seg f 0 d = [] := seg_nil _ _ (fun e _ h2 => hm e (by omega))
  rw [told_at f hd, told_upd f hd, hs, h0]
  unfold nts; rw [h0]; rfl
/-- Those of a degree among all. -/
theorem told_of (f : Nat → List Int) (t : Int) : ((toldF f).filter (fun x => decide (x.1 = t))).map (·.2) = ofF f t := by
  unfold ofF
  by_cases ht : 0 ≤ t ∧ t < 32
  · obtain ⟨d, rfl⟩ := Int.eq_ofNat_of_zero_le ht.1
    have hd : d < 32 := by omega
    rw [if_pos ht, told_at f hd, List.filter_append, List.filter_append]
    have h1 : (seg f 0 d).filter (fun x => decide (x.1 = (d : Int))) = [] := List.filter_eq_nil_iff.2 fun y hy => by
      obtain ⟨e, h1, h2, h3, _⟩ := seg_mem _ _ hy
      simp; omega
    have h2 : (seg f (d + 1) (31 - d)).filter (fun x => decide (x.1 = (d : Int))) = [] := List.filter_eq_nil_iff.2 fun y hy => by
      obtain ⟨e, h1, h2, h3, _⟩ := seg_mem _ _ hy
      simp; omega
    have h3 : (nts f d).filter (fun x => decide (x.1 = (d : Int))) = nts f d := List.filter_eq_self.2 fun y hy => by
      obtain ⟨z, _, rfl⟩ := List.mem_map.1 hy; simp
    rw [h1, h2, h3]
    simp [nts]
    exact List.map_id (f d)
  · rw [if_neg ht, toldF_seg]
    have h1 : (seg f 0 32).filter (fun x => decide (x.1 = t)) = [] := List.filter_eq_nil_iff.2 fun y hy => by
      obtain ⟨e, h1, h2, h3, _⟩ := seg_mem _ _ hy
      simp; omega
    rw [h1]; rfl
theorem told_f0 : toldF f0 = [] := by rw [toldF_seg]; exact seg_nil _ _ (fun _ _ _ => rfl)
end Go.Proofs.YtbdcjfkplopbiaaDoor
