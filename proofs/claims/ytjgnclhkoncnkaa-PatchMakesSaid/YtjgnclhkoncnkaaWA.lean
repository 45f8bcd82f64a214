/- Words as what becomes of others: plain facts. No statement about the program. -/
import Derived.Test.YtjgnclhkoncnkaaVS
namespace Go.Proofs.Ytjgnclhkoncnkaa
open Go.RowKit

/-- Up to how many numbers two lists begin alike. -/
def alikeN : List Int → List Int → Nat
  | x :: a, y :: b => if x = y then alikeN a b + 1 else 0
  | [], _ => 0
  | _ :: _, [] => 0
theorem alikeN_is : ∀ {a b : List Int} {n : Nat}, n ≤ a.length → n ≤ b.length → (∀ j, j < n → nth a j = nth b j) → (n = a.length ∨ n = b.length ∨ nth a n ≠ nth b n) → alikeN a b = n
  | [], b, n, h1, _, _, _ => by simp at h1; subst h1; rfl
  | x :: a, [], n, _, h2, _, _ => by simp at h2; subst h2; rfl
  | x :: a, y :: b, n, h1, h2, h3, h4 => by
    unfold alikeN
    cases n with
    | zero =>
      rcases h4 with h | h | h
      · simp at h
      · simp at h
      · rw [if_neg (by simpa [nth] using h)]
    | succ n =>
      have h0 : x = y := by simpa [nth] using h3 0 (by omega)
      rw [if_pos h0, alikeN_is (n := n) (by simpa using h1) (by simpa using h2) (fun j hj => by simpa [nth] using h3 (j + 1) (by omega))]
      rcases h4 with h | h | h
      · exact .inl (by simpa using h)
      · exact .inr (.inl (by simpa using h))
      · exact .inr (.inr (by simpa [nth] using h))
theorem alikeN_le : ∀ (a b : List Int), alikeN a b ≤ a.length ∧ alikeN a b ≤ b.length ∧ ∀ j, j < alikeN a b → nth a j = nth b j
  | [], b => ⟨by simp [alikeN], by simp [alikeN], fun j h => by simp [alikeN] at h⟩
  | x :: a, [] => ⟨by simp [alikeN], by simp [alikeN], fun j h => by simp [alikeN] at h⟩
  | x :: a, y :: b => by
    obtain ⟨h1, h2, h3⟩ := alikeN_le a b
    unfold alikeN
    split
    · rename_i hxy
      refine ⟨by simpa using h1, by simpa using h2, fun j hj => ?_⟩
      cases j with
      | zero => simpa [nth] using hxy
      | succ j => simpa [nth] using h3 j (by omega)
    · exact ⟨by simp, by simp, fun j h => by omega⟩
theorem nth_drop (l : List Int) (k j : Nat) : nth (l.drop k) j = nth l (k + j) := by simp [nth, List.getD]
/-- The longest piece among the first i places. -/
def longM (old l : List Int) : Nat → Nat × Nat
  | 0 => (0, 0)
  | i + 1 => if (longM old l i).2 < alikeN (old.drop i) l then (i, alikeN (old.drop i) l) else longM old l i
theorem longM_ok (old l : List Int) : ∀ i, (longM old l i).2 ≤ l.length ∧ ((longM old l i).2 = 0 ∧ (longM old l i).1 = 0 ∨ (longM old l i).1 < i ∧ (longM old l i).1 + (longM old l i).2 ≤ old.length ∧ 0 < (longM old l i).2) ∧ ∀ j, j < (longM old l i).2 → nth old ((longM old l i).1 + j) = nth l j
  | 0 => ⟨Nat.zero_le _, .inl ⟨rfl, rfl⟩, fun j h => by simp [longM] at h⟩
  | i + 1 => by
    obtain ⟨h1, h2, h3⟩ := longM_ok old l i
    unfold longM
    split
    · rename_i h
      obtain ⟨a1, a2, a3⟩ := alikeN_le (old.drop i) l
      rw [List.length_drop] at a1
      exact ⟨a2, .inr ⟨by dsimp only; omega, by dsimp only; omega, by dsimp only; omega⟩, fun j hj => by rw [← nth_drop]; exact a3 j hj⟩
    · refine ⟨h1, ?_, h3⟩
      rcases h2 with h | h
      · exact .inl h
      · exact .inr ⟨by omega, h.2⟩
/-- A piece. -/
structure OpM where
  fr : Nat
  many : Nat
  new : List Int
instance : Inhabited OpM := ⟨⟨0, 0, []⟩⟩
def addNewM (ops : List OpM) (x : Int) : List OpM :=
  match ops.getLast? with
  | none => ops ++ [⟨0, 0, [x]⟩]
  | some o => if o.new = [] then ops ++ [⟨0, 0, [x]⟩] else ops.dropLast ++ [⟨o.fr, o.many, o.new ++ [x]⟩]
def makeM (old : List Int) : Nat → List Int → List OpM → List OpM
  | 0, _, acc => acc
  | _ + 1, [], acc => acc
  | g + 1, x :: r, acc => if 4 ≤ (longM old (x :: r) old.length).2 then makeM old g ((x :: r).drop (longM old (x :: r) old.length).2) (acc ++ [⟨(longM old (x :: r) old.length).1, (longM old (x :: r) old.length).2, []⟩]) else makeM old g r (addNewM acc x)
/-- The words of a piece; all words. -/
def wordsM (old : List Int) (o : OpM) : List Int := if o.new = [] then (old.drop o.fr).take o.many else o.new
def appM (old : List Int) (ops : List OpM) : List Int := (ops.map (wordsM old)).flatten
def sizeM (ops : List OpM) : Nat := (ops.map fun o => 1 + max o.new.length 1).sum
/-- A piece as Make makes it: a new one, or an old one of at least four words. -/
def GoodP (old : List Int) (o : OpM) : Prop := (o.new ≠ [] ∧ o.fr = 0 ∧ o.many = 0) ∨ (o.new = [] ∧ 4 ≤ o.many ∧ o.fr + o.many ≤ old.length)
theorem last_split {ops : List OpM} {o : OpM} (h : ops.getLast? = some o) : ops = ops.dropLast ++ [o] := by
  rw [List.getLast?_eq_some_iff] at h
  obtain ⟨r, rfl⟩ := h
  simp
theorem appM_snoc (old : List Int) (ops : List OpM) (o : OpM) : appM old (ops ++ [o]) = appM old ops ++ wordsM old o := by simp [appM]
theorem sizeM_snoc (ops : List OpM) (o : OpM) : sizeM (ops ++ [o]) = sizeM ops + (1 + max o.new.length 1) := by simp [sizeM]
theorem addNew_app (old : List Int) (ops : List OpM) (x : Int) : appM old (addNewM ops x) = appM old ops ++ [x] := by
  unfold addNewM
  split
  · rw [appM_snoc]; rfl
  · rename_i o ho
    split
    · rw [appM_snoc]; rfl
    · rename_i hne
      conv => rhs; rw [last_split ho, appM_snoc]
      rw [appM_snoc, List.append_assoc]
      congr 1
      unfold wordsM
      rw [if_neg (by simp), if_neg hne]
theorem addNew_good {old : List Int} {ops : List OpM} {x : Int} (h : ∀ o ∈ ops, GoodP old o) : ∀ o ∈ addNewM ops x, GoodP old o := by
  unfold addNewM
  split
  · intro o ho
    rcases List.mem_append.1 ho with h1 | h1
    · exact h o h1
    · obtain rfl := List.mem_singleton.1 h1
      exact .inl ⟨by simp, rfl, rfl⟩
  · rename_i q hq
    split
    · intro o ho
      rcases List.mem_append.1 ho with h1 | h1
      · exact h o h1
      · obtain rfl := List.mem_singleton.1 h1
        exact .inl ⟨by simp, rfl, rfl⟩
    · rename_i hne
      intro o ho
      rcases List.mem_append.1 ho with h1 | h1
      · exact h o (by rw [last_split hq]; exact List.mem_append_left _ h1)
      · obtain rfl := List.mem_singleton.1 h1
        rcases h q (List.mem_of_getLast? hq) with ⟨-, a, b⟩ | ⟨a, -⟩
        · exact .inl ⟨by simp, a, b⟩
        · exact absurd a hne
/-- How much longer a patch may be than its words: one more behind a new piece. -/
def slackM (ops : List OpM) : Nat := match ops.getLast? with | none => 0 | some o => if o.new = [] then 0 else 1
theorem addNew_size (ops : List OpM) (x : Int) (old : List Int) (h : sizeM ops ≤ (appM old ops).length + slackM ops) : sizeM (addNewM ops x) ≤ (appM old (addNewM ops x)).length + slackM (addNewM ops x) := by
  rw [addNew_app, List.length_append, List.length_singleton]
  unfold addNewM slackM at *
  split
  · rename_i hn
    rw [hn] at h
    rw [sizeM_snoc, List.getLast?_concat]
    simp only [List.cons_ne_nil, if_false, List.length_singleton]
    dsimp only at h
    omega
  · rename_i o ho
    rw [ho] at h
    split
    · rename_i he
      rw [sizeM_snoc, List.getLast?_concat]
      simp only [List.cons_ne_nil, if_false, List.length_singleton]
      dsimp only at h
      rw [if_pos he] at h
      omega
    · rename_i he
      dsimp only at h
      rw [if_neg he] at h
      have hs : sizeM ops = sizeM ops.dropLast + (1 + max o.new.length 1) := by
        have e := sizeM_snoc ops.dropLast o
        rwa [← last_split ho] at e
      have hp : 1 ≤ o.new.length := List.length_pos_iff.2 he
      rw [sizeM_snoc, List.getLast?_concat]
      simp only [List.length_append, List.length_singleton]
      rw [if_neg (by simp)]
      omega
theorem makeM_good (old : List Int) : ∀ (g : Nat) (l : List Int) (acc : List OpM), l.length ≤ g → (∀ o ∈ acc, GoodP old o) → sizeM acc ≤ (appM old acc).length + slackM acc →
    (∀ o ∈ makeM old g l acc, GoodP old o) ∧ appM old (makeM old g l acc) = appM old acc ++ l ∧ sizeM (makeM old g l acc) ≤ (appM old acc ++ l).length + 1
  | 0, l, acc, hl, hg, hs => by
    obtain rfl : l = [] := by simpa using hl
    refine ⟨hg, by simp [makeM], ?_⟩
    show sizeM acc ≤ _
    have : slackM acc ≤ 1 := by unfold slackM; (repeat' split) <;> omega
    simp only [List.append_nil]; omega
  | g + 1, [], acc, hl, hg, hs => by
    refine ⟨hg, by simp [makeM], ?_⟩
    show sizeM acc ≤ _
    have : slackM acc ≤ 1 := by unfold slackM; (repeat' split) <;> omega
    simp only [List.append_nil]; omega
  | g + 1, x :: r, acc, hl, hg, hs => by
    unfold makeM
    obtain ⟨k1, k2, k3⟩ := longM_ok old (x :: r) old.length
    split
    · rename_i h4
      obtain ⟨p, hp⟩ : ∃ p, longM old (x :: r) old.length = p := ⟨_, rfl⟩
      rw [hp] at k1 k2 k3 h4 ⊢
      obtain ⟨f, m⟩ := p
      dsimp only at k1 k2 k3 h4 ⊢
      have hfm : f + m ≤ old.length := by rcases k2 with h | h <;> omega
      have hw : wordsM old ⟨f, m, []⟩ = (x :: r).take m := by
        unfold wordsM
        rw [if_pos rfl]
        apply List.ext_getElem?
        intro j
        rw [List.getElem?_take, List.getElem?_take, List.getElem?_drop]
        by_cases hj : j < m
        · rw [if_pos hj, if_pos hj]
          have := k3 j hj
          rw [nth_at old (f + j) (by omega), nth_at (x :: r) j (by omega), this]
        · rw [if_neg hj, if_neg hj]
      have hlen : ((x :: r).take m).length = m := by rw [List.length_take]; omega
      obtain ⟨i1, i2, i3⟩ := makeM_good old g ((x :: r).drop m) (acc ++ [⟨f, m, []⟩]) (by rw [List.length_drop]; omega) (fun o ho => by
        rcases List.mem_append.1 ho with h1 | h1
        · exact hg o h1
        · obtain rfl := List.mem_singleton.1 h1
          exact .inr ⟨rfl, h4, hfm⟩) (by
        rw [sizeM_snoc, appM_snoc, hw, List.length_append, hlen]
        have : slackM acc ≤ 1 := by unfold slackM; (repeat' split) <;> omega
        simp only [List.length_nil]
        omega)
      refine ⟨i1, ?_, ?_⟩
      · rw [i2, appM_snoc, hw, List.append_assoc, List.take_append_drop]
      · rw [appM_snoc, hw, List.append_assoc, List.take_append_drop] at i3
        exact i3
    · obtain ⟨i1, i2, i3⟩ := makeM_good old g r (addNewM acc x) (by simpa using hl) (addNew_good hg) (addNew_size acc x old hs)
      rw [addNew_app, List.append_assoc] at i2 i3
      exact ⟨i1, i2, i3⟩
end Go.Proofs.Ytjgnclhkoncnkaa
