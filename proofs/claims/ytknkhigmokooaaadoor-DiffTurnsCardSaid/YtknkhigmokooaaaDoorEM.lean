/- Maths of turns: exchanged, and none. No statement about the program. -/
import Derived.Test.YtknkhigmokooaaaDoorEG
import Derived.Test.YtknkhigmokooaaaDoorED
namespace Go.Proofs.YtknkhigmokooaaaDoor
open Go.RowKit

def flipT (t : TurnM) : TurnM := ⟨t.kind, t.at_, t.new, t.old⟩
theorem turnsK_flip {kind : Int} {na nb : Nat} {eq eq' : Nat → Bool} (h : ∀ j, eq' j = eq j) : ∀ k, turnsK kind nb na eq' k = (turnsK kind na nb eq k).map flipT
  | 0 => rfl
  | k + 1 => by
    have ih := turnsK_flip (kind := kind) (na := na) (nb := nb) h k
    unfold turnsK
    by_cases c : k < na ∧ k < nb ∧ eq k = true
    · rw [if_pos c, if_pos ⟨c.2.1, c.1, by rw [h]; exact c.2.2⟩, ih]
    · rw [if_neg c, if_neg (fun c' => c ⟨c'.2.1, c'.1, by rw [← h]; exact c'.2.2⟩), ih, List.map_append]; rfl
theorem turnsL_flip {kind : Int} {na nb : Nat} {eq eq' : Nat → Bool} (h : ∀ j, eq' j = eq j) : turnsL kind nb na eq' = (turnsL kind na nb eq).map flipT := by
  unfold turnsL
  rw [Nat.max_comm]
  exact turnsK_flip h _
theorem modesK_flip {na nb : Nat} {eu eq eu' eq' : Nat → Bool} (hu : ∀ j, eu' j = eu j) (hq : ∀ j, eq' j = eq j) : ∀ k, modesK nb na eu' eq' k = (modesK na nb eu eq k).map flipT
  | 0 => rfl
  | k + 1 => by
    have ih := modesK_flip (na := na) (nb := nb) hu hq k
    have h1 : mU nb na eu' k = (mU na nb eu k).map flipT := by
      unfold mU
      by_cases c : k < na ∧ k < nb ∧ eu k = true
      · rw [if_pos c, if_pos ⟨c.2.1, c.1, by rw [hu]; exact c.2.2⟩]; rfl
      · rw [if_neg c, if_neg (fun c' => c ⟨c'.2.1, c'.1, by rw [← hu]; exact c'.2.2⟩)]; rfl
    have h2 : mQ nb na eq' k = (mQ na nb eq k).map flipT := by
      unfold mQ
      by_cases c : k < na ∧ k < nb ∧ eq k = false
      · rw [if_pos c, if_pos ⟨c.2.1, c.1, by rw [hq]; exact c.2.2⟩]; rfl
      · rw [if_neg c, if_neg (fun c' => c ⟨c'.2.1, c'.1, by rw [← hq]; exact c'.2.2⟩)]; rfl
    show (modesK nb na eu' eq' k ++ mU nb na eu' k) ++ mQ nb na eq' k = ((modesK na nb eu eq k ++ mU na nb eu k) ++ mQ na nb eq k).map flipT
    rw [ih, h1, h2, List.map_append, List.map_append]
theorem tEq_comm (s t : TaskM) : tEq s t = tEq t s := by
  unfold tEq
  exact decide_eq_decide.2 ⟨fun ⟨a, b, c, d⟩ => ⟨a.symm, b.symm, c.symm, d.symm⟩, fun ⟨a, b, c, d⟩ => ⟨a.symm, b.symm, c.symm, d.symm⟩⟩
theorem eEq_comm (s t : EdgeM) : eEq s t = eEq t s := by
  unfold eEq
  exact decide_eq_decide.2 ⟨fun ⟨a, b, c, d, e⟩ => ⟨a.symm, b.symm, c.symm, d.symm, e.symm⟩, fun ⟨a, b, c, d, e⟩ => ⟨a.symm, b.symm, c.symm, d.symm, e.symm⟩⟩
theorem qsEq_iff (a b : List (Int × Int)) : qsEq a b = true ↔ a.length = b.length ∧ ∀ j, j < a.length → (qth a j).1 = (qth b j).1 ∧ (qth a j).2 = (qth b j).2 := by
  unfold qsEq
  simp [List.all_eq_true]
theorem qsEq_comm (a b : List (Int × Int)) : qsEq a b = qsEq b a := by
  rw [Bool.eq_iff_iff, qsEq_iff, qsEq_iff]
  constructor
  · rintro ⟨h1, h2⟩; exact ⟨h1.symm, fun j hj => ⟨(h2 j (by omega)).1.symm, (h2 j (by omega)).2.symm⟩⟩
  · rintro ⟨h1, h2⟩; exact ⟨h1.symm, fun j hj => ⟨(h2 j (by omega)).1.symm, (h2 j (by omega)).2.symm⟩⟩
theorem beq_comm_int (a b : Int) : (a == b) = (b == a) := by
  rw [Bool.eq_iff_iff]; simp; exact ⟨Eq.symm, Eq.symm⟩
theorem beq_comm_bv (a b : BitVec 32) : (a == b) = (b == a) := by
  rw [Bool.eq_iff_iff]; simp; exact ⟨Eq.symm, Eq.symm⟩
theorem dfL_flip (x y : Img) : dfL y x = (dfL x y).map flipT := by
  unfold dfL
  rw [List.map_append, List.map_append, List.map_append]
  rw [turnsL_flip (kind := 1) (na := 1) (nb := 1) (eq := fun _ => x.res == y.res) (eq' := fun _ => y.res == x.res) (fun _ => beq_comm_int _ _)]
  rw [turnsL_flip (kind := 2) (na := x.tasks.length) (nb := y.tasks.length) (eq := fun k => tEq (x.t k) (y.t k)) (eq' := fun k => tEq (y.t k) (x.t k)) (fun _ => tEq_comm _ _)]
  rw [turnsL_flip (kind := 5) (na := x.edges.length) (nb := y.edges.length) (eq := fun k => eEq (x.e k) (y.e k)) (eq' := fun k => eEq (y.e k) (x.e k)) (fun _ => eEq_comm _ _)]
  have hm : modesL y x = (modesL x y).map flipT := by
    unfold modesL
    rw [Nat.max_comm]
    exact modesK_flip (fun _ => beq_comm_bv _ _) (fun _ => qsEq_comm _ _) _
  rw [hm]
theorem turnsK_nil {kind : Int} {na nb : Nat} {eq : Nat → Bool} : ∀ k, turnsK kind na nb eq k = [] ↔ ∀ j, j < k → j < na ∧ j < nb ∧ eq j = true
  | 0 => ⟨fun _ j hj => absurd hj (Nat.not_lt_zero j), fun _ => rfl⟩
  | k + 1 => by
    have ih := turnsK_nil (kind := kind) (na := na) (nb := nb) (eq := eq) k
    unfold turnsK
    by_cases c : k < na ∧ k < nb ∧ eq k = true
    · rw [if_pos c, ih]
      refine ⟨fun h j hj => ?_, fun h j hj => h j (by omega)⟩
      rcases Nat.lt_or_ge j k with h1 | h1
      · exact h j h1
      · obtain rfl : j = k := by omega
        exact c
    · rw [if_neg c]
      exact ⟨fun h => by simp at h, fun h => absurd (h k (by omega)) c⟩
theorem turnsL_nil {kind : Int} {na nb : Nat} {eq : Nat → Bool} : turnsL kind na nb eq = [] ↔ na = nb ∧ ∀ j, j < na → eq j = true := by
  unfold turnsL
  rw [turnsK_nil]
  refine ⟨fun h => ?_, fun ⟨h1, h2⟩ j hj => by subst h1; exact ⟨by omega, by omega, h2 j (by omega)⟩⟩
  have hab : na = nb := by
    rcases Nat.lt_trichotomy na nb with h1 | h1 | h1
    · have := h na (by omega); omega
    · exact h1
    · have := h nb (by omega); omega
  exact ⟨hab, fun j hj => (h j (by omega)).2.2⟩
theorem modesK_nil {na nb : Nat} {eu eq : Nat → Bool} : ∀ k, modesK na nb eu eq k = [] ↔ ∀ j, j < k → j < na ∧ j < nb ∧ eu j = true ∧ eq j = true
  | 0 => ⟨fun _ j hj => absurd hj (Nat.not_lt_zero j), fun _ => rfl⟩
  | k + 1 => by
    have ih := modesK_nil (na := na) (nb := nb) (eu := eu) (eq := eq) k
    show (modesK na nb eu eq k ++ mU na nb eu k) ++ mQ na nb eq k = [] ↔ _
    rw [List.append_eq_nil_iff, List.append_eq_nil_iff, ih]
    have h1 : mU na nb eu k = [] ↔ k < na ∧ k < nb ∧ eu k = true := by
      unfold mU
      by_cases c : k < na ∧ k < nb ∧ eu k = true
      · rw [if_pos c]; exact ⟨fun _ => c, fun _ => rfl⟩
      · rw [if_neg c]; exact ⟨fun h => by simp at h, fun h => absurd h c⟩
    have h2 : mQ na nb eq k = [] ↔ ¬ (k < na ∧ k < nb ∧ eq k = false) := by
      unfold mQ
      by_cases c : k < na ∧ k < nb ∧ eq k = false
      · rw [if_pos c]; exact ⟨fun h => by simp at h, fun h => absurd c h⟩
      · rw [if_neg c]; exact ⟨fun _ => c, fun _ => rfl⟩
    rw [h1, h2]
    constructor
    · rintro ⟨⟨h3, h4⟩, h5⟩ j hj
      rcases Nat.lt_or_ge j k with h6 | h6
      · exact h3 j h6
      · obtain rfl : j = k := by omega
        refine ⟨h4.1, h4.2.1, h4.2.2, ?_⟩
        cases hq : eq j with
        | true => rfl
        | false => exact absurd ⟨h4.1, h4.2.1, hq⟩ h5
    · intro h
      have hk := h k (by omega)
      exact ⟨⟨fun j hj => h j (by omega), hk.1, hk.2.1, hk.2.2.1⟩, fun c => by rw [hk.2.2.2] at c; exact absurd c.2.2 (by simp)⟩
theorem modesL_nil (x y : Img) : modesL x y = [] ↔ x.modes.length = y.modes.length ∧ ∀ j, j < x.modes.length → euOf x y j = true ∧ eqOf x y j = true := by
  unfold modesL
  rw [modesK_nil]
  refine ⟨fun h => ?_, fun ⟨h1, h2⟩ j hj => by rw [← h1] at hj ⊢; exact ⟨by omega, by omega, h2 j (by omega)⟩⟩
  have hab : x.modes.length = y.modes.length := by
    rcases Nat.lt_trichotomy x.modes.length y.modes.length with h1 | h1 | h1
    · have := h x.modes.length (by omega); omega
    · exact h1
    · have := h y.modes.length (by omega); omega
  exact ⟨hab, fun j hj => (h j (by omega)).2.2⟩
theorem w32_iff (a b : BitVec 32) : w32 a = w32 b ↔ a = b := by
  refine ⟨fun h => ?_, fun h => by rw [h]⟩
  unfold w32 at h
  exact BitVec.eq_of_toNat_eq (by exact_mod_cast h)
theorem modeEq_iff (x y : Img) (k : Nat) : modeEq x y k = true ↔ euOf x y k = true ∧ eqOf x y k = true := by
  unfold modeEq euOf eqOf
  rw [Bool.and_eq_true, decide_eq_true_iff, w32_iff]
  simp
theorem dfL_nil (x y : Img) : dfL x y = [] ↔ imgEq x y = true := by
  unfold dfL imgEq tasksEq edgesEq
  rw [List.append_eq_nil_iff, List.append_eq_nil_iff, List.append_eq_nil_iff, turnsL_nil, turnsL_nil, turnsL_nil, modesL_nil]
  simp only [Bool.and_eq_true, decide_eq_true_iff, List.all_eq_true, List.mem_range, beq_iff_eq]
  constructor
  · rintro ⟨⟨⟨⟨-, h1⟩, h2, h3⟩, h4, h5⟩, h6, h7⟩
    exact ⟨h1 0 (by omega), h4, ⟨h2, h3⟩, ⟨h6, h7⟩, fun k hk => (modeEq_iff x y k).2 (h5 k hk)⟩
  · rintro ⟨h1, h4, ⟨h2, h3⟩, ⟨h6, h7⟩, h5⟩
    exact ⟨⟨⟨⟨trivial, fun _ _ => h1⟩, h2, h3⟩, h4, fun k hk => (modeEq_iff x y k).1 (h5 k hk)⟩, h6, h7⟩
theorem imgEq_self (x : Img) : imgEq x x = true := by
  rw [← dfL_nil]
  unfold dfL
  rw [List.append_eq_nil_iff, List.append_eq_nil_iff, List.append_eq_nil_iff, turnsL_nil, turnsL_nil, turnsL_nil, modesL_nil]
  refine ⟨⟨⟨⟨rfl, fun _ _ => by simp⟩, rfl, fun _ _ => by simp [tEq]⟩, rfl, fun _ _ => ⟨by simp [euOf], (qsEq_iff _ _).2 ⟨rfl, fun _ _ => ⟨rfl, rfl⟩⟩⟩⟩, rfl, fun _ _ => by simp [eEq]⟩
/-- Each turn is told. -/
def toldT (t : TurnM) : Prop := 1 ≤ t.kind ∧ t.kind ≤ 5 ∧ (t.old = true ∨ t.new = true)
theorem turnsK_told {kind : Int} (h1 : 1 ≤ kind) (h2 : kind ≤ 5) {na nb : Nat} {eq : Nat → Bool} : ∀ k, k ≤ max na nb → ∀ t ∈ turnsK kind na nb eq k, toldT t
  | 0, _ => fun t ht => by cases ht
  | k + 1, hk => by
    have ih := turnsK_told h1 h2 (na := na) (nb := nb) (eq := eq) k (by omega)
    unfold turnsK
    split
    · exact ih
    · intro t ht
      rcases List.mem_append.1 ht with h | h
      · exact ih t h
      · obtain rfl := List.mem_singleton.1 h
        refine ⟨h1, h2, ?_⟩
        rcases Nat.lt_or_ge k na with h3 | h3
        · exact .inl (decide_eq_true h3)
        · exact .inr (decide_eq_true (by omega))
theorem modesK_told {na nb : Nat} {eu eq : Nat → Bool} : ∀ k, k ≤ max na nb → ∀ t ∈ modesK na nb eu eq k, toldT t
  | 0, _ => fun t ht => by cases ht
  | k + 1, hk => by
    have ih := modesK_told (na := na) (nb := nb) (eu := eu) (eq := eq) k (by omega)
    intro t ht
    rcases List.mem_append.1 (show t ∈ (modesK na nb eu eq k ++ mU na nb eu k) ++ mQ na nb eq k from ht) with h | h
    · rcases List.mem_append.1 h with h | h
      · exact ih t h
      · unfold mU at h
        split at h
        · cases h
        · obtain rfl := List.mem_singleton.1 h
          refine ⟨(show (1 : Int) ≤ 3 by omega), (show (3 : Int) ≤ 5 by omega), ?_⟩
          rcases Nat.lt_or_ge k na with h3 | h3
          · exact .inl (decide_eq_true h3)
          · exact .inr (decide_eq_true (by omega))
    · unfold mQ at h
      split at h
      · obtain rfl := List.mem_singleton.1 h
        exact ⟨(show (1 : Int) ≤ 4 by omega), (show (4 : Int) ≤ 5 by omega), .inl rfl⟩
      · cases h
theorem dfL_told (x y : Img) : ∀ t ∈ dfL x y, toldT t := by
  intro t ht
  unfold dfL turnsL modesL at ht
  rcases List.mem_append.1 ht with ht | ht
  · rcases List.mem_append.1 ht with ht | ht
    · rcases List.mem_append.1 ht with ht | ht
      · exact turnsK_told (by omega) (by omega) _ (Nat.le_refl _) t ht
      · exact turnsK_told (by omega) (by omega) _ (Nat.le_refl _) t ht
    · exact modesK_told _ (Nat.le_refl _) t ht
  · exact turnsK_told (by omega) (by omega) _ (Nat.le_refl _) t ht
theorem turnsK_at {kind : Int} {na nb : Nat} {eq : Nat → Bool} : ∀ k, ∀ t ∈ turnsK kind na nb eq k, t.at_ < k
  | 0 => fun t ht => by cases ht
  | k + 1 => by
    have ih := turnsK_at (kind := kind) (na := na) (nb := nb) (eq := eq) k
    unfold turnsK
    intro t ht
    split at ht
    · have := ih t ht; omega
    · rcases List.mem_append.1 ht with h | h
      · have := ih t h; omega
      · obtain rfl := List.mem_singleton.1 h
        exact Nat.lt_succ_self k
theorem modesK_at {na nb : Nat} {eu eq : Nat → Bool} : ∀ k, ∀ t ∈ modesK na nb eu eq k, t.at_ < k
  | 0 => fun t ht => by cases ht
  | k + 1 => by
    have ih := modesK_at (na := na) (nb := nb) (eu := eu) (eq := eq) k
    intro t ht
    rcases List.mem_append.1 (show t ∈ (modesK na nb eu eq k ++ mU na nb eu k) ++ mQ na nb eq k from ht) with h | h
    · rcases List.mem_append.1 h with h | h
      · have := ih t h; omega
      · unfold mU at h
        split at h
        · cases h
        · obtain rfl := List.mem_singleton.1 h
          exact Nat.lt_succ_self k
    · unfold mQ at h
      split at h
      · obtain rfl := List.mem_singleton.1 h
        exact Nat.lt_succ_self k
      · cases h
theorem dfL_at (x y : Img) (hn : x.modes.length ≤ 100) (hn' : y.modes.length ≤ 100) (h1 : x.tasks.length ≤ 100) (h2 : y.tasks.length ≤ 100) (he : x.edges.length ≤ 100) (he' : y.edges.length ≤ 100) : ∀ t ∈ dfL x y, (t.at_ : Int) ≤ 9223372036854775807 := by
  intro t ht
  unfold dfL turnsL modesL at ht
  rcases List.mem_append.1 ht with ht | ht
  · rcases List.mem_append.1 ht with ht | ht
    · rcases List.mem_append.1 ht with ht | ht
      · have := turnsK_at _ t ht; omega
      · have := turnsK_at _ t ht; omega
    · have := modesK_at _ t ht; omega
  · have := turnsK_at _ t ht; omega
theorem toldT_line {t : TurnM} (h : toldT t) : (lineB t.kind (t.at_ : Nat) t.old t.new).toList.isEmpty = false := by
  obtain ⟨h1, h2, h3⟩ := h
  unfold lineB
  rw [if_neg (by omega), if_neg (by omega), if_neg (by omega), if_neg (by rintro ⟨a, b⟩; rw [a, b] at h3; simp at h3)]
  generalize hz : wordB t.kind ++ ⟨#[32]⟩ ++ _ ++ _ ++ _ = z
  have h32 : (⟨#[32]⟩ : ByteArray).size = 1 := rfl
  have hs : 0 < z.size := by rw [← hz]; simp only [ByteArray.size_append]; omega
  have hl : z.toList.length = z.size := by
    rw [ByteArray.toList_eq]
    rfl
  cases hb : z.toList with
  | nil => rw [hb] at hl; simp at hl; omega
  | cons a l => rfl
theorem dfL_len (x y : Img) (hn : x.modes.length ≤ 100) (hn' : y.modes.length ≤ 100) (ht : x.tasks.length ≤ 100) (ht' : y.tasks.length ≤ 100) (he : x.edges.length ≤ 100) (he' : y.edges.length ≤ 100) : (dfL x y).length ≤ 500 := by
  have l1 := turnsL_len 1 1 1 (fun _ => x.res == y.res) (by omega) (by omega)
  have l2 := turnsL_len 2 x.tasks.length y.tasks.length (fun k => tEq (x.t k) (y.t k)) ht ht'
  have l3 := modesL_len x y hn hn'
  have l4 := turnsL_len 5 x.edges.length y.edges.length (fun k => eEq (x.e k) (y.e k)) he he'
  unfold dfL
  rw [List.length_append, List.length_append, List.length_append]
  omega
end Go.Proofs.YtknkhigmokooaaaDoor
