/- The contracts of diff's turns, for each kind of rows. -/
import Derived.Test.YtknkhigmokooaaaDoorEA2
import Derived.Test.YtknkhigmokooaaaDoorVary
namespace Go.Proofs.YtknkhigmokooaaaDoor
open Go.RowKit

def turnRow (L : List TurnM) : List Value := (L.map turnC).flatten
theorem turnRow_snoc (L : List TurnM) (t : TurnM) : turnRow (L ++ [t]) = turnRow L ++ turnC t := by unfold turnRow; simp
theorem turnRow_app (L M : List TurnM) : turnRow (L ++ M) = turnRow L ++ turnRow M := by unfold turnRow; simp
theorem turnRow_len (L : List TurnM) : (turnRow L).length = L.length * 4 := by
  induction L with
  | nil => rfl
  | cons t r ih => unfold turnRow at ih ⊢; simp [turnC, ih]; omega
/-- What became of rows, place by place, up to a place. -/
def turnsK (kind : Int) (na nb : Nat) (eq : Nat → Bool) : Nat → List TurnM
  | 0 => []
  | k + 1 => if k < na ∧ k < nb ∧ eq k = true then turnsK kind na nb eq k else turnsK kind na nb eq k ++ [⟨kind, k, decide (k < na), decide (k < nb)⟩]
def turnsL (kind : Int) (na nb : Nat) (eq : Nat → Bool) : List TurnM := turnsK kind na nb eq (max na nb)
theorem turnsK_len (kind : Int) (na nb : Nat) (eq : Nat → Bool) : ∀ k, (turnsK kind na nb eq k).length ≤ k
  | 0 => Nat.le_refl _
  | k + 1 => by
    have ih := turnsK_len kind na nb eq k
    unfold turnsK
    split
    · omega
    · simp; omega
theorem four_newE (A : World) (x y z u : Value) (t : TypeId) : ∀ j v, [x, y, z, u][j]? = some v → (A.alloc (.cells #[x, y, z, u] t)).cell? ((⟨A.heap.size, 0, none⟩ : Addr).add j) = some v := by
  intro j v hv
  rw [Addr.add_lit]
  have := (RowAt.mk A t #[x, y, z, u]).cell (0 + j)
  refine this.trans ?_
  rcases j with _ | _ | _ | _ | j
  · exact hv
  · exact hv
  · exact hv
  · exact hv
  · simp at hv
theorem four_newF (A : World) (o : Obj) (x y z u : Value) (t : TypeId) : ∀ j v, [x, y, z, u][j]? = some v → ((A.alloc o).alloc (.cells #[x, y, z, u] t)).cell? ((⟨A.heap.size + 1, 0, none⟩ : Addr).add j) = some v := by
  have := four_newE (A.alloc o) x y z u t
  rwa [World.size_alloc] at this
theorem holdV_is {kind : Int} {k na nb : Nat} {eq : Bool} (h : k < na ∧ k < nb ∧ eq = true) : holdV kind k na nb eq = .tuple #[.agg #[.int .i64 0, .int .i64 0, .bool false, .bool false], .bool false] := by unfold holdV; rw [if_pos h]
theorem infoTurn : (Tryd.prog.info? 57).map (fun i => (i.zero, i.size, i.bytes)) = some (some (.agg #[.int .i64 0, .int .i64 0, .bool false, .bool false]), 4, 24) := by kernel_rfl
set_option maxHeartbeats 4000000 in
set_option maxRecDepth 100000 in
theorem dfTurnsI_any {w : World} (kind : Int) (na nb ca cb : Nat) (spa spb : Option Addr) (eq : Nat → Bool) (hna : na ≤ 100) (hnb : nb ≤ 100)
    (hH : ∀ wx, Below w.heap.size w wx → ∀ k, k ≤ 1000 → Calls Tryd.prog 72 #[.int .i64 kind, .int .i64 (k : Nat), .slice spa na ca, .slice spb nb cb] wx fun e w' => e = .returned (holdV kind k na nb (eq k)) ∧ Below wx.heap.size wx w') :
    Calls Tryd.prog 50 #[.int .i64 kind, .slice spa na ca, .slice spb nb cb] w fun e w' => ∃ v, e = .returned v ∧ w'.ownsRow w.heap.size 57 4 v (turnsL kind na nb eq).length (turnRow (turnsL kind na nb eq)) ∧ Below w.heap.size w w' := by
  obtain ⟨i0, hi, hz0, hz1, hz2⟩ := info_parts infoTurn
  have HH := Lib.hid hH
  obtain ⟨M, hM⟩ : ∃ M, max na nb = M := ⟨_, rfl⟩
  have HM := Lib.hid hM
  unfold turnsL
  rw [hM]
  obtain ⟨tk, htk⟩ : ∃ f, turnsK kind na nb eq = f := ⟨_, rfl⟩
  have HTk := Lib.hid (show ∀ k, tk (k + 1) = if k < na ∧ k < nb ∧ eq k = true then tk k else tk k ++ [⟨kind, k, decide (k < na), decide (k < nb)⟩] from fun k => by rw [← htk]; rfl)
  have HT0 := Lib.hid (show tk 0 = [] by rw [← htk]; rfl)
  have HTl := Lib.hid (show ∀ k, (tk k).length ≤ k from fun k => by rw [← htk]; exact turnsK_len _ _ _ _ k)
  rw [htk]
  clear hH hM htk
  have HMx := Lib.hid (show ∀ k : Nat, k < M → (k : Int) < max (na : Int) (nb : Int) from fun k hk => by have := HM.out; omega)
  have HMn := Lib.hid (show ¬ (M : Int) < max (na : Int) (nb : Int) by have := HM.out; omega)
  have hmx : max (na : Int) (nb : Int) = (M : Int) := by have := HM.out; omega
  by_cases hab : (na : Int) < (nb : Int)
  all_goals
    first
    | (have hMM : (nb : Int) = (M : Int) := by omega)
    | (have hMM : (na : Int) = (M : Int) := by omega)
  all_goals
    go_enter Tryd.func50, Tryd.ntmps50
    go_wp2
    clear hMM hmx hab
    go_loopg [7, 16] M (fun g u v wr => ∃ k : Nat, k + g = M ∧ v = .int .i64 (k : Nat) ∧ Aside (Below w.heap.size w wr ∧ wr.ownsRow w.heap.size 57 4 u (tk k).length (turnRow (tk k))))
    case atStart => exact ⟨0, by omega, rfl, Below.refl _ _, by rw [HT0.out]; exact World.ownsRow_nil _ _ _ _⟩
    case round =>
      obtain ⟨k, hkg, rfl, HR⟩ := hrel
      obtain ⟨sp', cap, rfl⟩ := own_val HR.out.2
      cases gk with
      | zero =>
        obtain rfl : k = M := by omega
        go_wp2
        go_ret
        exact ⟨_, rfl, HR.out.2, HR.out.1⟩
      | succ g1 =>
        have hk : k < M := by omega
        have hM1 : M ≤ 100 := by have := HM.out; omega
        have hk2 : (k : Int) < (M : Int) := by omega
        have hk3 : (k : Int) < 100 := by omega
        have HC := Lib.hid (HH.out wr HR.out.1 k (by omega))
        have htk := HTk.out k
        by_cases hc : k < na ∧ k < nb ∧ eq k = true
        · rw [if_pos hc] at htk
          have HT1 := Lib.hid htk
          rw [holdV_is hc] at HC
          clear hc htk
          go_wp2_with (first
            | (go_at_call 72; refine HC.out.mono ?_; rintro e w3 ⟨rfl, b3⟩; have H3 := Lib.hid (And.intro (HR.out.1.trans (b3.mono HR.out.1.size)) (own_below HR.out.2 b3 (Nat.le_refl _))); clear b3)
            | fail)
          go_roundg g1
          case measure => omega
          case rel => exact ⟨k + 1, by omega, by go_num, below_alloc H3.out.1 (Nat.le_refl _) _, by rw [HT1.out]; exact H3.out.2.alloc _⟩
        · rw [if_neg hc] at htk
          rw [holdV_no hc] at HC
          clear hc
          obtain ⟨bo, hbo⟩ : ∃ b, decide (k < na) = b := ⟨_, rfl⟩
          obtain ⟨bn, hbn⟩ : ∃ b, decide (k < nb) = b := ⟨_, rfl⟩
          rw [hbo, hbn] at HC htk
          have HT1 := Lib.hid (And.intro htk (show (tk (k + 1)).length = (tk k).length + 1 by rw [htk]; simp))
          have HTL := Lib.hid (show (tk k).length ≤ 100 by have := HTl.out k; omega)
          clear hbo hbn htk
          go_wp2_with (first
            | (go_at_call 72; refine HC.out.mono ?_; rintro e w3 ⟨rfl, b3⟩; have H3 := Lib.hid (And.intro (HR.out.1.trans (b3.mono HR.out.1.size)) (own_below HR.out.2 b3 (Nat.le_refl _))); clear b3; have p0 : (w3.alloc (.cells #[.int .i64 kind, .int .i64 (k : Nat), .bool bo, .bool bn] 57)).cell? ⟨w3.heap.size, 0, none⟩ = some (.int .i64 kind) := (RowAt.mk w3 _ _).cell 0; have p1 : (w3.alloc (.cells #[.int .i64 kind, .int .i64 (k : Nat), .bool bo, .bool bn] 57)).cell? ⟨w3.heap.size, 1, none⟩ = some (.int .i64 (k : Nat)) := (RowAt.mk w3 _ _).cell 1; have p2 : (w3.alloc (.cells #[.int .i64 kind, .int .i64 (k : Nat), .bool bo, .bool bn] 57)).cell? ⟨w3.heap.size, 2, none⟩ = some (.bool bo) := (RowAt.mk w3 _ _).cell 2; have p3 : (w3.alloc (.cells #[.int .i64 kind, .int .i64 (k : Nat), .bool bo, .bool bn] 57)).cell? ⟨w3.heap.size, 3, none⟩ = some (.bool bn) := (RowAt.mk w3 _ _).cell 3)
            | (at_builtin; refine wpList_append_vary rfl (.tmp 28) (.tmp 30) 53 rfl w.heap.size 57 i0 (.agg #[.int .i64 0, .int .i64 0, .bool false, .bool false]) 4 24 Tryd.underlying53 hi hz0 hz1 hz2 rfl (by decide) (.slice sp' (tk k).length cap) (tk k).length _ rfl ((H3.out.2.alloc _).alloc _) (some ⟨w3.heap.size + 1, 0, none⟩) 1 1 [.int .i64 kind, .int .i64 (k : Nat), .bool bo, .bool bn] rfl rfl (fun h => nomatch h) (fun ad h => by obtain rfl := Option.some.inj h; exact four_newF _ _ _ _ _ _ _) (by simp [Value.oneCell']) (by have := HTL.out; unfold maxLen; omega) (by have := HTL.out; omega) (by have := H3.out.1.size; simp; omega) ?_; intro v' w4 hown' hgrow hat; obtain ⟨sp2, cap2, rfl⟩ := own_val hown'; have H4 := Lib.hid (And.intro (Below.grown (below_alloc (below_alloc H3.out.1 (Nat.le_refl _) _) (Nat.le_refl _) _) hgrow (by have := H3.out.1.size; simp; omega) (fun j e => own_ge HR.out.2 j e)) hown'); clear hown' hgrow hat p0 p1 p2 p3)
            | fail)
          go_roundg g1
          case measure => omega
          case rel =>
            refine ⟨k + 1, by omega, by go_num, H4.out.1, ?_⟩
            rw [HT1.out.2, HT1.out.1, turnRow_snoc]
            exact H4.out.2
set_option maxHeartbeats 4000000 in
set_option maxRecDepth 100000 in
theorem dfTurnsT_any {w : World} (kind : Int) (na nb ca cb : Nat) (spa spb : Option Addr) (eq : Nat → Bool) (hna : na ≤ 100) (hnb : nb ≤ 100)
    (hH : ∀ wx, Below w.heap.size w wx → ∀ k, k ≤ 1000 → Calls Tryd.prog 55 #[.int .i64 kind, .int .i64 (k : Nat), .slice spa na ca, .slice spb nb cb] wx fun e w' => e = .returned (holdV kind k na nb (eq k)) ∧ Below wx.heap.size wx w') :
    Calls Tryd.prog 51 #[.int .i64 kind, .slice spa na ca, .slice spb nb cb] w fun e w' => ∃ v, e = .returned v ∧ w'.ownsRow w.heap.size 57 4 v (turnsL kind na nb eq).length (turnRow (turnsL kind na nb eq)) ∧ Below w.heap.size w w' := by
  obtain ⟨i0, hi, hz0, hz1, hz2⟩ := info_parts infoTurn
  have HH := Lib.hid hH
  obtain ⟨M, hM⟩ : ∃ M, max na nb = M := ⟨_, rfl⟩
  have HM := Lib.hid hM
  unfold turnsL
  rw [hM]
  obtain ⟨tk, htk⟩ : ∃ f, turnsK kind na nb eq = f := ⟨_, rfl⟩
  have HTk := Lib.hid (show ∀ k, tk (k + 1) = if k < na ∧ k < nb ∧ eq k = true then tk k else tk k ++ [⟨kind, k, decide (k < na), decide (k < nb)⟩] from fun k => by rw [← htk]; rfl)
  have HT0 := Lib.hid (show tk 0 = [] by rw [← htk]; rfl)
  have HTl := Lib.hid (show ∀ k, (tk k).length ≤ k from fun k => by rw [← htk]; exact turnsK_len _ _ _ _ k)
  rw [htk]
  clear hH hM htk
  have HMx := Lib.hid (show ∀ k : Nat, k < M → (k : Int) < max (na : Int) (nb : Int) from fun k hk => by have := HM.out; omega)
  have HMn := Lib.hid (show ¬ (M : Int) < max (na : Int) (nb : Int) by have := HM.out; omega)
  have hmx : max (na : Int) (nb : Int) = (M : Int) := by have := HM.out; omega
  by_cases hab : (na : Int) < (nb : Int)
  all_goals
    first
    | (have hMM : (nb : Int) = (M : Int) := by omega)
    | (have hMM : (na : Int) = (M : Int) := by omega)
  all_goals
    go_enter Tryd.func51, Tryd.ntmps51
    go_wp2
    clear hMM hmx hab
    go_loopg [7, 16] M (fun g u v wr => ∃ k : Nat, k + g = M ∧ v = .int .i64 (k : Nat) ∧ Aside (Below w.heap.size w wr ∧ wr.ownsRow w.heap.size 57 4 u (tk k).length (turnRow (tk k))))
    case atStart => exact ⟨0, by omega, rfl, Below.refl _ _, by rw [HT0.out]; exact World.ownsRow_nil _ _ _ _⟩
    case round =>
      obtain ⟨k, hkg, rfl, HR⟩ := hrel
      obtain ⟨sp', cap, rfl⟩ := own_val HR.out.2
      cases gk with
      | zero =>
        obtain rfl : k = M := by omega
        go_wp2
        go_ret
        exact ⟨_, rfl, HR.out.2, HR.out.1⟩
      | succ g1 =>
        have hk : k < M := by omega
        have hM1 : M ≤ 100 := by have := HM.out; omega
        have hk2 : (k : Int) < (M : Int) := by omega
        have hk3 : (k : Int) < 100 := by omega
        have HC := Lib.hid (HH.out wr HR.out.1 k (by omega))
        have htk := HTk.out k
        by_cases hc : k < na ∧ k < nb ∧ eq k = true
        · rw [if_pos hc] at htk
          have HT1 := Lib.hid htk
          rw [holdV_is hc] at HC
          clear hc htk
          go_wp2_with (first
            | (go_at_call 55; refine HC.out.mono ?_; rintro e w3 ⟨rfl, b3⟩; have H3 := Lib.hid (And.intro (HR.out.1.trans (b3.mono HR.out.1.size)) (own_below HR.out.2 b3 (Nat.le_refl _))); clear b3)
            | fail)
          go_roundg g1
          case measure => omega
          case rel => exact ⟨k + 1, by omega, by go_num, below_alloc H3.out.1 (Nat.le_refl _) _, by rw [HT1.out]; exact H3.out.2.alloc _⟩
        · rw [if_neg hc] at htk
          rw [holdV_no hc] at HC
          clear hc
          obtain ⟨bo, hbo⟩ : ∃ b, decide (k < na) = b := ⟨_, rfl⟩
          obtain ⟨bn, hbn⟩ : ∃ b, decide (k < nb) = b := ⟨_, rfl⟩
          rw [hbo, hbn] at HC htk
          have HT1 := Lib.hid (And.intro htk (show (tk (k + 1)).length = (tk k).length + 1 by rw [htk]; simp))
          have HTL := Lib.hid (show (tk k).length ≤ 100 by have := HTl.out k; omega)
          clear hbo hbn htk
          go_wp2_with (first
            | (go_at_call 55; refine HC.out.mono ?_; rintro e w3 ⟨rfl, b3⟩; have H3 := Lib.hid (And.intro (HR.out.1.trans (b3.mono HR.out.1.size)) (own_below HR.out.2 b3 (Nat.le_refl _))); clear b3; have p0 : (w3.alloc (.cells #[.int .i64 kind, .int .i64 (k : Nat), .bool bo, .bool bn] 57)).cell? ⟨w3.heap.size, 0, none⟩ = some (.int .i64 kind) := (RowAt.mk w3 _ _).cell 0; have p1 : (w3.alloc (.cells #[.int .i64 kind, .int .i64 (k : Nat), .bool bo, .bool bn] 57)).cell? ⟨w3.heap.size, 1, none⟩ = some (.int .i64 (k : Nat)) := (RowAt.mk w3 _ _).cell 1; have p2 : (w3.alloc (.cells #[.int .i64 kind, .int .i64 (k : Nat), .bool bo, .bool bn] 57)).cell? ⟨w3.heap.size, 2, none⟩ = some (.bool bo) := (RowAt.mk w3 _ _).cell 2; have p3 : (w3.alloc (.cells #[.int .i64 kind, .int .i64 (k : Nat), .bool bo, .bool bn] 57)).cell? ⟨w3.heap.size, 3, none⟩ = some (.bool bn) := (RowAt.mk w3 _ _).cell 3)
            | (at_builtin; refine wpList_append_vary rfl (.tmp 28) (.tmp 30) 53 rfl w.heap.size 57 i0 (.agg #[.int .i64 0, .int .i64 0, .bool false, .bool false]) 4 24 Tryd.underlying53 hi hz0 hz1 hz2 rfl (by decide) (.slice sp' (tk k).length cap) (tk k).length _ rfl ((H3.out.2.alloc _).alloc _) (some ⟨w3.heap.size + 1, 0, none⟩) 1 1 [.int .i64 kind, .int .i64 (k : Nat), .bool bo, .bool bn] rfl rfl (fun h => nomatch h) (fun ad h => by obtain rfl := Option.some.inj h; exact four_newF _ _ _ _ _ _ _) (by simp [Value.oneCell']) (by have := HTL.out; unfold maxLen; omega) (by have := HTL.out; omega) (by have := H3.out.1.size; simp; omega) ?_; intro v' w4 hown' hgrow hat; obtain ⟨sp2, cap2, rfl⟩ := own_val hown'; have H4 := Lib.hid (And.intro (Below.grown (below_alloc (below_alloc H3.out.1 (Nat.le_refl _) _) (Nat.le_refl _) _) hgrow (by have := H3.out.1.size; simp; omega) (fun j e => own_ge HR.out.2 j e)) hown'); clear hown' hgrow hat p0 p1 p2 p3)
            | fail)
          go_roundg g1
          case measure => omega
          case rel =>
            refine ⟨k + 1, by omega, by go_num, H4.out.1, ?_⟩
            rw [HT1.out.2, HT1.out.1, turnRow_snoc]
            exact H4.out.2
set_option maxHeartbeats 4000000 in
set_option maxRecDepth 100000 in
theorem dfTurnsE_any {w : World} (kind : Int) (na nb ca cb : Nat) (spa spb : Option Addr) (eq : Nat → Bool) (hna : na ≤ 100) (hnb : nb ≤ 100)
    (hH : ∀ wx, Below w.heap.size w wx → ∀ k, k ≤ 1000 → Calls Tryd.prog 76 #[.int .i64 kind, .int .i64 (k : Nat), .slice spa na ca, .slice spb nb cb] wx fun e w' => e = .returned (holdV kind k na nb (eq k)) ∧ Below wx.heap.size wx w') :
    Calls Tryd.prog 53 #[.int .i64 kind, .slice spa na ca, .slice spb nb cb] w fun e w' => ∃ v, e = .returned v ∧ w'.ownsRow w.heap.size 57 4 v (turnsL kind na nb eq).length (turnRow (turnsL kind na nb eq)) ∧ Below w.heap.size w w' := by
  obtain ⟨i0, hi, hz0, hz1, hz2⟩ := info_parts infoTurn
  have HH := Lib.hid hH
  obtain ⟨M, hM⟩ : ∃ M, max na nb = M := ⟨_, rfl⟩
  have HM := Lib.hid hM
  unfold turnsL
  rw [hM]
  obtain ⟨tk, htk⟩ : ∃ f, turnsK kind na nb eq = f := ⟨_, rfl⟩
  have HTk := Lib.hid (show ∀ k, tk (k + 1) = if k < na ∧ k < nb ∧ eq k = true then tk k else tk k ++ [⟨kind, k, decide (k < na), decide (k < nb)⟩] from fun k => by rw [← htk]; rfl)
  have HT0 := Lib.hid (show tk 0 = [] by rw [← htk]; rfl)
  have HTl := Lib.hid (show ∀ k, (tk k).length ≤ k from fun k => by rw [← htk]; exact turnsK_len _ _ _ _ k)
  rw [htk]
  clear hH hM htk
  have HMx := Lib.hid (show ∀ k : Nat, k < M → (k : Int) < max (na : Int) (nb : Int) from fun k hk => by have := HM.out; omega)
  have HMn := Lib.hid (show ¬ (M : Int) < max (na : Int) (nb : Int) by have := HM.out; omega)
  have hmx : max (na : Int) (nb : Int) = (M : Int) := by have := HM.out; omega
  by_cases hab : (na : Int) < (nb : Int)
  all_goals
    first
    | (have hMM : (nb : Int) = (M : Int) := by omega)
    | (have hMM : (na : Int) = (M : Int) := by omega)
  all_goals
    go_enter Tryd.func53, Tryd.ntmps53
    go_wp2
    clear hMM hmx hab
    go_loopg [7, 16] M (fun g u v wr => ∃ k : Nat, k + g = M ∧ v = .int .i64 (k : Nat) ∧ Aside (Below w.heap.size w wr ∧ wr.ownsRow w.heap.size 57 4 u (tk k).length (turnRow (tk k))))
    case atStart => exact ⟨0, by omega, rfl, Below.refl _ _, by rw [HT0.out]; exact World.ownsRow_nil _ _ _ _⟩
    case round =>
      obtain ⟨k, hkg, rfl, HR⟩ := hrel
      obtain ⟨sp', cap, rfl⟩ := own_val HR.out.2
      cases gk with
      | zero =>
        obtain rfl : k = M := by omega
        go_wp2
        go_ret
        exact ⟨_, rfl, HR.out.2, HR.out.1⟩
      | succ g1 =>
        have hk : k < M := by omega
        have hM1 : M ≤ 100 := by have := HM.out; omega
        have hk2 : (k : Int) < (M : Int) := by omega
        have hk3 : (k : Int) < 100 := by omega
        have HC := Lib.hid (HH.out wr HR.out.1 k (by omega))
        have htk := HTk.out k
        by_cases hc : k < na ∧ k < nb ∧ eq k = true
        · rw [if_pos hc] at htk
          have HT1 := Lib.hid htk
          rw [holdV_is hc] at HC
          clear hc htk
          go_wp2_with (first
            | (go_at_call 76; refine HC.out.mono ?_; rintro e w3 ⟨rfl, b3⟩; have H3 := Lib.hid (And.intro (HR.out.1.trans (b3.mono HR.out.1.size)) (own_below HR.out.2 b3 (Nat.le_refl _))); clear b3)
            | fail)
          go_roundg g1
          case measure => omega
          case rel => exact ⟨k + 1, by omega, by go_num, below_alloc H3.out.1 (Nat.le_refl _) _, by rw [HT1.out]; exact H3.out.2.alloc _⟩
        · rw [if_neg hc] at htk
          rw [holdV_no hc] at HC
          clear hc
          obtain ⟨bo, hbo⟩ : ∃ b, decide (k < na) = b := ⟨_, rfl⟩
          obtain ⟨bn, hbn⟩ : ∃ b, decide (k < nb) = b := ⟨_, rfl⟩
          rw [hbo, hbn] at HC htk
          have HT1 := Lib.hid (And.intro htk (show (tk (k + 1)).length = (tk k).length + 1 by rw [htk]; simp))
          have HTL := Lib.hid (show (tk k).length ≤ 100 by have := HTl.out k; omega)
          clear hbo hbn htk
          go_wp2_with (first
            | (go_at_call 76; refine HC.out.mono ?_; rintro e w3 ⟨rfl, b3⟩; have H3 := Lib.hid (And.intro (HR.out.1.trans (b3.mono HR.out.1.size)) (own_below HR.out.2 b3 (Nat.le_refl _))); clear b3; have p0 : (w3.alloc (.cells #[.int .i64 kind, .int .i64 (k : Nat), .bool bo, .bool bn] 57)).cell? ⟨w3.heap.size, 0, none⟩ = some (.int .i64 kind) := (RowAt.mk w3 _ _).cell 0; have p1 : (w3.alloc (.cells #[.int .i64 kind, .int .i64 (k : Nat), .bool bo, .bool bn] 57)).cell? ⟨w3.heap.size, 1, none⟩ = some (.int .i64 (k : Nat)) := (RowAt.mk w3 _ _).cell 1; have p2 : (w3.alloc (.cells #[.int .i64 kind, .int .i64 (k : Nat), .bool bo, .bool bn] 57)).cell? ⟨w3.heap.size, 2, none⟩ = some (.bool bo) := (RowAt.mk w3 _ _).cell 2; have p3 : (w3.alloc (.cells #[.int .i64 kind, .int .i64 (k : Nat), .bool bo, .bool bn] 57)).cell? ⟨w3.heap.size, 3, none⟩ = some (.bool bn) := (RowAt.mk w3 _ _).cell 3)
            | (at_builtin; refine wpList_append_vary rfl (.tmp 28) (.tmp 30) 53 rfl w.heap.size 57 i0 (.agg #[.int .i64 0, .int .i64 0, .bool false, .bool false]) 4 24 Tryd.underlying53 hi hz0 hz1 hz2 rfl (by decide) (.slice sp' (tk k).length cap) (tk k).length _ rfl ((H3.out.2.alloc _).alloc _) (some ⟨w3.heap.size + 1, 0, none⟩) 1 1 [.int .i64 kind, .int .i64 (k : Nat), .bool bo, .bool bn] rfl rfl (fun h => nomatch h) (fun ad h => by obtain rfl := Option.some.inj h; exact four_newF _ _ _ _ _ _ _) (by simp [Value.oneCell']) (by have := HTL.out; unfold maxLen; omega) (by have := HTL.out; omega) (by have := H3.out.1.size; simp; omega) ?_; intro v' w4 hown' hgrow hat; obtain ⟨sp2, cap2, rfl⟩ := own_val hown'; have H4 := Lib.hid (And.intro (Below.grown (below_alloc (below_alloc H3.out.1 (Nat.le_refl _) _) (Nat.le_refl _) _) hgrow (by have := H3.out.1.size; simp; omega) (fun j e => own_ge HR.out.2 j e)) hown'); clear hown' hgrow hat p0 p1 p2 p3)
            | fail)
          go_roundg g1
          case measure => omega
          case rel =>
            refine ⟨k + 1, by omega, by go_num, H4.out.1, ?_⟩
            rw [HT1.out.2, HT1.out.1, turnRow_snoc]
            exact H4.out.2
end Go.Proofs.YtknkhigmokooaaaDoor
