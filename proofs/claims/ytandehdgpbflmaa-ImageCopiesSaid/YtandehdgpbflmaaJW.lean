/- The contracts of slices' Clone on tasks, modes, edges and queues. -/
import Derived.Test.YtandehdgpbflmaaJC
import Derived.Test.YtandehdgpbflmaaVary
namespace Go.Proofs.Ytandehdgpbflmaa
open Go.RowKit

theorem addB (a : Addr) (j : Nat) : (a.add j).block = a.block := by unfold Addr.add; split <;> rfl
theorem infoTc : (Try.prog.info? 39).map (fun i => (i.zero, i.size, i.bytes)) = some (some (.agg #[.int .i64 0, .int .i64 0, .int .i64 0, .int .i64 0, .int .i64 0, .int .i64 0, .int .i64 0, .int .i64 0, .int .i64 0, .int .i64 0, .int .i64 0]), 11, 88) := by kernel_rfl
theorem eqSlT_in (d : Nat) (sp : Option Addr) (n c : Nat) (w : World) : (Op.equalIn (d + 1) 22 (.slice sp n c) (.slice none 0 0)).run Try.prog w = .ok sp.isNone w := by
  have ht : Try.prog.underlying 22 = some (.slice 39) := by kernel_rfl
  cases sp <;> simp [Op.equalIn, run_underlying ht]
theorem eqSlT (sp : Option Addr) (n c : Nat) (w : World) : (Go.binOp .eql 22 (.slice sp n c) (.slice none 0 0)).run Try.prog w = .ok (.bool sp.isNone) w := by
  have h : (Op.equal 22 (.slice sp n c) (.slice none 0 0)).run Try.prog w = .ok sp.isNone w := eqSlT_in 9999 sp n c w
  simp [Go.binOp, h]
theorem app_firstT {w w1 : World} {n : Nat} {L : List Value} {v1 : Value} (hown : w1.ownsRow w.heap.size 39 11 v1 (0 + n) ([] ++ L)) (hg : (w.alloc (.cells #[] 39)).grownBy w1 (Value.slice (some ⟨w.heap.size, 0, none⟩) 0 0).ownBlock) :
    w1.ownsRow w.heap.size 39 11 v1 n L ∧ Below w.heap.size w w1 := by
  rw [Nat.zero_add, List.nil_append] at hown
  have hb : Below w.heap.size w (w.alloc (.cells #[] 39)) := (Below.refl _ _).alloc (Nat.le_refl _) _
  exact ⟨hown, hb.grown hg (by rw [size_add]; omega) (fun j e => by simp [Value.ownBlock] at e; omega)⟩
set_option maxHeartbeats 1000000 in
theorem cloneT_any {w : World} (sp : Option Addr) (n c : Nat) (news : List Value) (hl : news.length = n * 11) (hno : sp = none → n = 0) (hsrc : ∀ ad, sp = some ad → ∀ j u, news[j]? = some u → ad.block < w.heap.size ∧ w.cell? (ad.add j) = some u) (h1 : ∀ u ∈ news, u.oneCell' = true) (hn : n ≤ 1000) :
    Calls Try.prog 45 #[.slice sp n c] w fun e w' => ∃ v, e = .returned v ∧ w'.ownsRow w.heap.size 39 11 v n news ∧ Below w.heap.size w w' := by
  obtain ⟨i0, hi, hz0, hz1, hz2⟩ := info_parts infoTc
  cases sp with
  | none =>
    obtain rfl := hno rfl
    obtain rfl : news = [] := List.length_eq_zero_iff.1 (by omega)
    have hq := fun w => eqSlT none 0 c w
    clear hl hno hsrc h1
    go_enter Try.func45, Try.ntmps45
    go_wp2
    go_ret
    exact ⟨_, rfl, World.ownsRow_nil _ _ _ _, Below.refl _ _⟩
  | some ad =>
    have HO := Lib.hid (own_fresh w w.heap.size 39 11 (Nat.le_refl _))
    have ha : Below w.heap.size w (w.alloc (.cells #[] 39)) := (Below.refl _ _).alloc (Nat.le_refl _) _
    have HSRC := Lib.hid (show ∀ ad', some ad = some ad' → ∀ j u, news[j]? = some u → (w.alloc (.cells #[] 39)).cell? (ad'.add j) = some u from fun ad' hd j u hu => by
      obtain ⟨hb, hc⟩ := hsrc ad rfl j u hu
      rw [← Option.some.inj hd]
      exact (ha.cell (p := ad.add j) (by rw [addB]; exact hb)).trans hc)
    have HLEN := Lib.hid (And.intro hl h1)
    have hq := fun w => eqSlT (some ad) n c w
    clear hl hno hsrc h1 ha
    go_enter Try.func45, Try.ntmps45
    go_wp2_with (at_builtin; refine wpList_append_vary rfl (.tmp 5) (.tmp 6) 22 rfl w.heap.size 39 i0 (.agg #[.int .i64 0, .int .i64 0, .int .i64 0, .int .i64 0, .int .i64 0, .int .i64 0, .int .i64 0, .int .i64 0, .int .i64 0, .int .i64 0, .int .i64 0]) 11 88 Try.underlying22 hi hz0 hz1 hz2 rfl (by decide) _ 0 [] rfl HO.out _ n _ news rfl HLEN.out.1 (fun h => by cases h) HSRC.out HLEN.out.2 (by unfold maxLen; omega) (by omega) (by rw [size_add]; omega) ?_; intro v1 w1 hown1 hg1 hat1; have H1 := Lib.hid (app_firstT hown1 hg1); clear hown1 hg1 hat1)
    go_ret
    exact ⟨_, rfl, H1.out.1, H1.out.2⟩
theorem infoMc : (Try.prog.info? 48).map (fun i => (i.zero, i.size, i.bytes)) = some (some (.agg #[.int .u32 0, .slice none 0 0]), 2, 32) := by kernel_rfl
theorem eqSlM_in (d : Nat) (sp : Option Addr) (n c : Nat) (w : World) : (Op.equalIn (d + 1) 23 (.slice sp n c) (.slice none 0 0)).run Try.prog w = .ok sp.isNone w := by
  have ht : Try.prog.underlying 23 = some (.slice 48) := by kernel_rfl
  cases sp <;> simp [Op.equalIn, run_underlying ht]
theorem eqSlM (sp : Option Addr) (n c : Nat) (w : World) : (Go.binOp .eql 23 (.slice sp n c) (.slice none 0 0)).run Try.prog w = .ok (.bool sp.isNone) w := by
  have h : (Op.equal 23 (.slice sp n c) (.slice none 0 0)).run Try.prog w = .ok sp.isNone w := eqSlM_in 9999 sp n c w
  simp [Go.binOp, h]
theorem app_firstM {w w1 : World} {n : Nat} {L : List Value} {v1 : Value} (hown : w1.ownsRow w.heap.size 48 2 v1 (0 + n) ([] ++ L)) (hg : (w.alloc (.cells #[] 48)).grownBy w1 (Value.slice (some ⟨w.heap.size, 0, none⟩) 0 0).ownBlock) :
    w1.ownsRow w.heap.size 48 2 v1 n L ∧ Below w.heap.size w w1 := by
  rw [Nat.zero_add, List.nil_append] at hown
  have hb : Below w.heap.size w (w.alloc (.cells #[] 48)) := (Below.refl _ _).alloc (Nat.le_refl _) _
  exact ⟨hown, hb.grown hg (by rw [size_add]; omega) (fun j e => by simp [Value.ownBlock] at e; omega)⟩
set_option maxHeartbeats 1000000 in
theorem cloneM_any {w : World} (sp : Option Addr) (n c : Nat) (news : List Value) (hl : news.length = n * 2) (hno : sp = none → n = 0) (hsrc : ∀ ad, sp = some ad → ∀ j u, news[j]? = some u → ad.block < w.heap.size ∧ w.cell? (ad.add j) = some u) (h1 : ∀ u ∈ news, u.oneCell' = true) (hn : n ≤ 1000) :
    Calls Try.prog 46 #[.slice sp n c] w fun e w' => ∃ v, e = .returned v ∧ w'.ownsRow w.heap.size 48 2 v n news ∧ Below w.heap.size w w' := by
  obtain ⟨i0, hi, hz0, hz1, hz2⟩ := info_parts infoMc
  cases sp with
  | none =>
    obtain rfl := hno rfl
    obtain rfl : news = [] := List.length_eq_zero_iff.1 (by omega)
    have hq := fun w => eqSlM none 0 c w
    clear hl hno hsrc h1
    go_enter Try.func46, Try.ntmps46
    go_wp2
    go_ret
    exact ⟨_, rfl, World.ownsRow_nil _ _ _ _, Below.refl _ _⟩
  | some ad =>
    have HO := Lib.hid (own_fresh w w.heap.size 48 2 (Nat.le_refl _))
    have ha : Below w.heap.size w (w.alloc (.cells #[] 48)) := (Below.refl _ _).alloc (Nat.le_refl _) _
    have HSRC := Lib.hid (show ∀ ad', some ad = some ad' → ∀ j u, news[j]? = some u → (w.alloc (.cells #[] 48)).cell? (ad'.add j) = some u from fun ad' hd j u hu => by
      obtain ⟨hb, hc⟩ := hsrc ad rfl j u hu
      rw [← Option.some.inj hd]
      exact (ha.cell (p := ad.add j) (by rw [addB]; exact hb)).trans hc)
    have HLEN := Lib.hid (And.intro hl h1)
    have hq := fun w => eqSlM (some ad) n c w
    clear hl hno hsrc h1 ha
    go_enter Try.func46, Try.ntmps46
    go_wp2_with (at_builtin; refine wpList_append_vary rfl (.tmp 5) (.tmp 6) 23 rfl w.heap.size 48 i0 (.agg #[.int .u32 0, .slice none 0 0]) 2 32 Try.underlying23 hi hz0 hz1 hz2 rfl (by decide) _ 0 [] rfl HO.out _ n _ news rfl HLEN.out.1 (fun h => by cases h) HSRC.out HLEN.out.2 (by unfold maxLen; omega) (by omega) (by rw [size_add]; omega) ?_; intro v1 w1 hown1 hg1 hat1; have H1 := Lib.hid (app_firstM hown1 hg1); clear hown1 hg1 hat1)
    go_ret
    exact ⟨_, rfl, H1.out.1, H1.out.2⟩
theorem infoEc : (Try.prog.info? 45).map (fun i => (i.zero, i.size, i.bytes)) = some (some (.agg #[.int .i64 0, .int .i64 0, .int .i64 0, .int .i64 0, .int .i64 0, .int .i64 0, .int .i64 0, .int .i64 0, .int .i64 0, .int .i64 0, .int .i64 0, .int .i64 0, .int .i64 0, .int .i64 0, .int .i64 0, .int .i64 0, .int .i64 0, .int .i64 0, .int .i64 0, .int .i64 0, .int .i64 0, .int .i64 0, .int .i64 0]), 23, 184) := by kernel_rfl
theorem eqSlE_in (d : Nat) (sp : Option Addr) (n c : Nat) (w : World) : (Op.equalIn (d + 1) 24 (.slice sp n c) (.slice none 0 0)).run Try.prog w = .ok sp.isNone w := by
  have ht : Try.prog.underlying 24 = some (.slice 45) := by kernel_rfl
  cases sp <;> simp [Op.equalIn, run_underlying ht]
theorem eqSlE (sp : Option Addr) (n c : Nat) (w : World) : (Go.binOp .eql 24 (.slice sp n c) (.slice none 0 0)).run Try.prog w = .ok (.bool sp.isNone) w := by
  have h : (Op.equal 24 (.slice sp n c) (.slice none 0 0)).run Try.prog w = .ok sp.isNone w := eqSlE_in 9999 sp n c w
  simp [Go.binOp, h]
theorem app_firstE {w w1 : World} {n : Nat} {L : List Value} {v1 : Value} (hown : w1.ownsRow w.heap.size 45 23 v1 (0 + n) ([] ++ L)) (hg : (w.alloc (.cells #[] 45)).grownBy w1 (Value.slice (some ⟨w.heap.size, 0, none⟩) 0 0).ownBlock) :
    w1.ownsRow w.heap.size 45 23 v1 n L ∧ Below w.heap.size w w1 := by
  rw [Nat.zero_add, List.nil_append] at hown
  have hb : Below w.heap.size w (w.alloc (.cells #[] 45)) := (Below.refl _ _).alloc (Nat.le_refl _) _
  exact ⟨hown, hb.grown hg (by rw [size_add]; omega) (fun j e => by simp [Value.ownBlock] at e; omega)⟩
set_option maxHeartbeats 1000000 in
theorem cloneE_any {w : World} (sp : Option Addr) (n c : Nat) (news : List Value) (hl : news.length = n * 23) (hno : sp = none → n = 0) (hsrc : ∀ ad, sp = some ad → ∀ j u, news[j]? = some u → ad.block < w.heap.size ∧ w.cell? (ad.add j) = some u) (h1 : ∀ u ∈ news, u.oneCell' = true) (hn : n ≤ 1000) :
    Calls Try.prog 47 #[.slice sp n c] w fun e w' => ∃ v, e = .returned v ∧ w'.ownsRow w.heap.size 45 23 v n news ∧ Below w.heap.size w w' := by
  obtain ⟨i0, hi, hz0, hz1, hz2⟩ := info_parts infoEc
  cases sp with
  | none =>
    obtain rfl := hno rfl
    obtain rfl : news = [] := List.length_eq_zero_iff.1 (by omega)
    have hq := fun w => eqSlE none 0 c w
    clear hl hno hsrc h1
    go_enter Try.func47, Try.ntmps47
    go_wp2
    go_ret
    exact ⟨_, rfl, World.ownsRow_nil _ _ _ _, Below.refl _ _⟩
  | some ad =>
    have HO := Lib.hid (own_fresh w w.heap.size 45 23 (Nat.le_refl _))
    have ha : Below w.heap.size w (w.alloc (.cells #[] 45)) := (Below.refl _ _).alloc (Nat.le_refl _) _
    have HSRC := Lib.hid (show ∀ ad', some ad = some ad' → ∀ j u, news[j]? = some u → (w.alloc (.cells #[] 45)).cell? (ad'.add j) = some u from fun ad' hd j u hu => by
      obtain ⟨hb, hc⟩ := hsrc ad rfl j u hu
      rw [← Option.some.inj hd]
      exact (ha.cell (p := ad.add j) (by rw [addB]; exact hb)).trans hc)
    have HLEN := Lib.hid (And.intro hl h1)
    have hq := fun w => eqSlE (some ad) n c w
    clear hl hno hsrc h1 ha
    go_enter Try.func47, Try.ntmps47
    go_wp2_with (at_builtin; refine wpList_append_vary rfl (.tmp 5) (.tmp 6) 24 rfl w.heap.size 45 i0 (.agg #[.int .i64 0, .int .i64 0, .int .i64 0, .int .i64 0, .int .i64 0, .int .i64 0, .int .i64 0, .int .i64 0, .int .i64 0, .int .i64 0, .int .i64 0, .int .i64 0, .int .i64 0, .int .i64 0, .int .i64 0, .int .i64 0, .int .i64 0, .int .i64 0, .int .i64 0, .int .i64 0, .int .i64 0, .int .i64 0, .int .i64 0]) 23 184 Try.underlying24 hi hz0 hz1 hz2 rfl (by decide) _ 0 [] rfl HO.out _ n _ news rfl HLEN.out.1 (fun h => by cases h) HSRC.out HLEN.out.2 (by unfold maxLen; omega) (by omega) (by rw [size_add]; omega) ?_; intro v1 w1 hown1 hg1 hat1; have H1 := Lib.hid (app_firstE hown1 hg1); clear hown1 hg1 hat1)
    go_ret
    exact ⟨_, rfl, H1.out.1, H1.out.2⟩
theorem infoQc : (Try.prog.info? 59).map (fun i => (i.zero, i.size, i.bytes)) = some (some (.agg #[.int .i64 0, .int .i64 0]), 2, 16) := by kernel_rfl
theorem eqSlQ_in (d : Nat) (sp : Option Addr) (n c : Nat) (w : World) : (Op.equalIn (d + 1) 46 (.slice sp n c) (.slice none 0 0)).run Try.prog w = .ok sp.isNone w := by
  have ht : Try.prog.underlying 46 = some (.slice 59) := by kernel_rfl
  cases sp <;> simp [Op.equalIn, run_underlying ht]
theorem eqSlQ (sp : Option Addr) (n c : Nat) (w : World) : (Go.binOp .eql 46 (.slice sp n c) (.slice none 0 0)).run Try.prog w = .ok (.bool sp.isNone) w := by
  have h : (Op.equal 46 (.slice sp n c) (.slice none 0 0)).run Try.prog w = .ok sp.isNone w := eqSlQ_in 9999 sp n c w
  simp [Go.binOp, h]
theorem app_firstQ {w w1 : World} {n : Nat} {L : List Value} {v1 : Value} (hown : w1.ownsRow w.heap.size 59 2 v1 (0 + n) ([] ++ L)) (hg : (w.alloc (.cells #[] 59)).grownBy w1 (Value.slice (some ⟨w.heap.size, 0, none⟩) 0 0).ownBlock) :
    w1.ownsRow w.heap.size 59 2 v1 n L ∧ Below w.heap.size w w1 := by
  rw [Nat.zero_add, List.nil_append] at hown
  have hb : Below w.heap.size w (w.alloc (.cells #[] 59)) := (Below.refl _ _).alloc (Nat.le_refl _) _
  exact ⟨hown, hb.grown hg (by rw [size_add]; omega) (fun j e => by simp [Value.ownBlock] at e; omega)⟩
set_option maxHeartbeats 1000000 in
theorem cloneQ_any {w : World} (sp : Option Addr) (n c : Nat) (news : List Value) (hl : news.length = n * 2) (hno : sp = none → n = 0) (hsrc : ∀ ad, sp = some ad → ∀ j u, news[j]? = some u → ad.block < w.heap.size ∧ w.cell? (ad.add j) = some u) (h1 : ∀ u ∈ news, u.oneCell' = true) (hn : n ≤ 1000) :
    Calls Try.prog 48 #[.slice sp n c] w fun e w' => ∃ v, e = .returned v ∧ w'.ownsRow w.heap.size 59 2 v n news ∧ Below w.heap.size w w' := by
  obtain ⟨i0, hi, hz0, hz1, hz2⟩ := info_parts infoQc
  cases sp with
  | none =>
    obtain rfl := hno rfl
    obtain rfl : news = [] := List.length_eq_zero_iff.1 (by omega)
    have hq := fun w => eqSlQ none 0 c w
    clear hl hno hsrc h1
    go_enter Try.func48, Try.ntmps48
    go_wp2
    go_ret
    exact ⟨_, rfl, World.ownsRow_nil _ _ _ _, Below.refl _ _⟩
  | some ad =>
    have HO := Lib.hid (own_fresh w w.heap.size 59 2 (Nat.le_refl _))
    have ha : Below w.heap.size w (w.alloc (.cells #[] 59)) := (Below.refl _ _).alloc (Nat.le_refl _) _
    have HSRC := Lib.hid (show ∀ ad', some ad = some ad' → ∀ j u, news[j]? = some u → (w.alloc (.cells #[] 59)).cell? (ad'.add j) = some u from fun ad' hd j u hu => by
      obtain ⟨hb, hc⟩ := hsrc ad rfl j u hu
      rw [← Option.some.inj hd]
      exact (ha.cell (p := ad.add j) (by rw [addB]; exact hb)).trans hc)
    have HLEN := Lib.hid (And.intro hl h1)
    have hq := fun w => eqSlQ (some ad) n c w
    clear hl hno hsrc h1 ha
    go_enter Try.func48, Try.ntmps48
    go_wp2_with (at_builtin; refine wpList_append_vary rfl (.tmp 5) (.tmp 6) 46 rfl w.heap.size 59 i0 (.agg #[.int .i64 0, .int .i64 0]) 2 16 Try.underlying46 hi hz0 hz1 hz2 rfl (by decide) _ 0 [] rfl HO.out _ n _ news rfl HLEN.out.1 (fun h => by cases h) HSRC.out HLEN.out.2 (by unfold maxLen; omega) (by omega) (by rw [size_add]; omega) ?_; intro v1 w1 hown1 hg1 hat1; have H1 := Lib.hid (app_firstQ hown1 hg1); clear hown1 hg1 hat1)
    go_ret
    exact ⟨_, rfl, H1.out.1, H1.out.2⟩
end Go.Proofs.Ytandehdgpbflmaa
