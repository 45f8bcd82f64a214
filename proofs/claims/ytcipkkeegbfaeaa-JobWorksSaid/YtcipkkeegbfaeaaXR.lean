/- The contracts of a job's Takes and Holds, and of ref25's Holds. -/
import Derived.Test.YtcipkkeegbfaeaaXQ
namespace Go.Proofs.Ytcipkkeegbfaeaa
open Go.RowKit

theorem firstI_is {p : Nat → Bool} {i : Nat} (hi : p i = true) : ∀ {n k : Nat}, k ≤ i → i < k + n → (∀ j, k ≤ j → j < i → p j = false) → firstI p n k = some i
  | 0, k, h1, h2, _ => by omega
  | n + 1, k, h1, h2, h3 => by
    unfold firstI
    by_cases e : k = i
    · subst e; rw [if_pos hi]
    · rw [if_neg (by rw [h3 k (Nat.le_refl _) (by omega)]; simp)]
      exact firstI_is hi (by omega) (by omega) (fun j hj hj2 => h3 j (by omega) hj2)
theorem firstI_no {p : Nat → Bool} : ∀ {n k : Nat}, (∀ j, k ≤ j → j < k + n → p j = false) → firstI p n k = none
  | 0, _, _ => rfl
  | n + 1, k, h => by
    unfold firstI
    rw [if_neg (by rw [h k (Nat.le_refl _) (by omega)]; simp)]
    exact firstI_no (fun j hj hj2 => h j (by omega) (by omega))
def ixI : Option Nat → Int | some i => i | none => -1
/-- The resource of a section that is told. -/
def resI (L : Nat → Sec) : Option Nat → Int | some i => (L i).r | none => -1
set_option maxHeartbeats 4000000 in
theorem idx_takes {w : World} {B : Nat} {id now dl c d : Int} {v : Value} {S : Src} {n : Nat} {L : Nat → Sec} (hn : n ≤ 1000) (hj : RowAt w B 71 (jobD id now dl c d v)) (h : SecsOf w S n L) :
    Calls Try.prog 81 #[.slice S.sp n S.c, .func (.func 63) #[] #[.pointer (some ⟨B, 0, none⟩)]] w fun e w' => e = .returned (.int .i64 (ixI (firstI (fun k => takesB d (L k)) n 0))) ∧ Below w.heap.size w w' := by
  have HF := Lib.hid (fun (wx : World) (hb : Below w.heap.size w wx) (s : Sec) => takes1_any (hj.new hb) s)
  have HE := Lib.hid (fun k (hk : k < n) (wx : World) (hb : Below w.heap.size w wx) => (h.new hb).e k hk)
  have HSP := Lib.hid (fun (h0 : 0 < n) => (h.sl.at_ h0).1)
  obtain ⟨p, hp⟩ : ∃ p : Nat → Bool, (fun k => takesB d (L k)) = p := ⟨_, rfl⟩
  have HP := Lib.hid (fun k => show takesB d (L k) = p k from congrFun hp k)
  have HI := Lib.hid (fun (i : Nat) (hi : p i = true) (h2 : i < n) (h3 : ∀ j, j < i → p j = false) => firstI_is (p := p) hi (n := n) (k := 0) (Nat.zero_le _) (by omega) (fun j _ hj => h3 j hj))
  have HN := Lib.hid (fun (h3 : ∀ j, j < n → p j = false) => firstI_no (p := p) (n := n) (k := 0) (fun j _ hj => h3 j (by omega)))
  rw [hp]
  obtain ⟨o, ho⟩ : ∃ o, firstI p n 0 = o := ⟨_, rfl⟩
  rw [ho] at HI HN ⊢
  obtain ⟨sp, sb, so, sc⟩ := S
  dsimp only at HE HSP ⊢
  clear h hj hp ho
  go_enter Try.func81, Try.ntmps81
  go_wp2
  go_loopg [8] n (fun g u wr => ∃ k : Nat, k + g = n ∧ u = .int .i64 (k : Nat) ∧ Aside (Below w.heap.size w wr ∧ ∀ j, j < k → p j = false))
  case atStart => exact ⟨0, by omega, rfl, Below.refl _ _, fun j hj => by omega⟩
  case round =>
    obtain ⟨k, hkg, rfl, HK⟩ := hrel
    cases gk with
    | zero =>
      obtain rfl : k = n := by omega
      have HO := Lib.hid (HN.out HK.out.2)
      go_wp2
      go_ret
      exact ⟨by rw [HO.out]; rfl, HK.out.1⟩
    | succ g1 =>
      have hk : k < n := by omega
      have hk2 : (k : Int) < n := by omega
      obtain rfl : sp = some ⟨sb, so, none⟩ := HSP.out (by omega)
      have hc := HE.out k hk wr HK.out.1
      have HC := Lib.hid (HF.out wr HK.out.1 (L k))
      rw [HP.out k] at HC
      obtain ⟨⟨x, y, z⟩, hL⟩ : ∃ s, L k = s := ⟨_, rfl⟩
      rw [hL] at hc HC
      have c0 : wr.cell? ⟨sb, so + k * 3, none⟩ = some (.int .i64 x) := hc 0 _ rfl
      have c1 : wr.cell? ⟨sb, so + k * 3 + 1, none⟩ = some (.int .i64 y) := hc 1 _ rfl
      have c2 : wr.cell? ⟨sb, so + k * 3 + 2, none⟩ = some (.int .i64 z) := hc 2 _ rfl
      clear hc hL
      dsimp only at HC
      cases hv : p k with
      | true =>
        rw [hv] at HC
        have HO := Lib.hid (HI.out k hv hk HK.out.2)
        clear hv
        go_wp2_with (go_at_call 63; refine HC.out.mono ?_; rintro e w3 ⟨rfl, b3⟩; have H3 := Lib.hid (HK.out.1.trans (b3.mono HK.out.1.size)); clear b3)
        go_ret
        exact ⟨by rw [HO.out]; rfl, H3.out⟩
      | false =>
        rw [hv] at HC
        have HV := Lib.hid hv
        clear hv
        go_wp2_with (go_at_call 63; refine HC.out.mono ?_; rintro e w3 ⟨rfl, b3⟩; have H3 := Lib.hid (HK.out.1.trans (b3.mono HK.out.1.size)); clear b3)
        go_roundg g1
        case measure => omega
        case rel => exact ⟨k + 1, by omega, by go_num, H3.out, fun j hj => by
          by_cases e : j = k
          · subst e; exact HV.out
          · exact HK.out.2 j (by omega)⟩
set_option maxHeartbeats 4000000 in
theorem first_takes {w : World} {B : Nat} {id now dl c d : Int} {v : Value} {S : Src} {n : Nat} {L : Nat → Sec} (hn : n ≤ 1000) (hj : RowAt w B 71 (jobD id now dl c d v)) (h : SecsOf w S n L) :
    Calls Try.prog 62 #[.agg (jobD id now dl c d (.slice S.sp n S.c)), .func (.func 63) #[] #[.pointer (some ⟨B, 0, none⟩)]] w fun e w' => e = .returned (.int .i64 (resI L (firstI (fun k => takesB d (L k)) n 0))) ∧ Below w.heap.size w w' := by
  obtain ⟨Z, hZ⟩ : ∃ Z, Z = w.heap.size := ⟨_, rfl⟩
  have HW := Lib.hid (show ∀ w2, w.alloc (.cells (jobD id now dl c d (.slice S.sp n S.c)) 71) = w2 → Below w.heap.size w w2 ∧ RowAt w2 Z 71 (jobD id now dl c d (.slice S.sp n S.c)) ∧ RowAt w2 B 71 (jobD id now dl c d v) ∧ SecsOf w2 S n L from fun w2 hw => by
    have hb := boxJ hw
    exact ⟨hb.1, by rw [hZ]; exact hb.2, hj.new hb.1, h.new hb.1⟩)
  have HC := Lib.hid (fun (wx : World) (h1 : RowAt wx B 71 (jobD id now dl c d v)) (h2 : SecsOf wx S n L) => idx_takes hn h1 h2)
  obtain ⟨o, ho⟩ : ∃ o, firstI (fun k => takesB d (L k)) n 0 = o := ⟨_, rfl⟩
  have HO := Lib.hid ho
  rw [ho] at HC ⊢
  clear ho h hj
  obtain ⟨sp, sb, so, sc⟩ := S
  dsimp only at HC HW ⊢
  go_enter Try.func62, Try.ntmps62
  go_upto_region 1 with fail
  generalize hw2 : World.alloc _ _ = w2
  have H2 := Lib.hid (HW.out w2 hw2)
  rw [← hZ]
  clear hw2 HW hZ
  have c5 : w2.cell? ⟨Z, 5, none⟩ = some (.slice sp n sc) := H2.out.2.1.cell 5
  cases o with
  | none =>
    go_wp2_with (go_at_call 81; refine (HC.out _ H2.out.2.2.1 H2.out.2.2.2).mono ?_; rintro e w3 ⟨rfl, b3⟩; have H3 := Lib.hid (H2.out.1.trans (b3.mono H2.out.1.size)); clear b3; dsimp only [ixI])
    go_ret
    exact ⟨rfl, H3.out⟩
  | some i =>
    obtain ⟨-, hi, -⟩ := firstI_some HO.out
    have hin : i < n := by omega
    have hin2 : (i : Int) < n := by omega
    have hsp := (H2.out.2.2.2.sl.at_ (by omega)).1
    dsimp only at hsp
    subst hsp
    go_wp2_with (go_at_call 81; refine (HC.out _ H2.out.2.2.1 H2.out.2.2.2).mono ?_; rintro e w3 ⟨rfl, b3⟩; have H3 := Lib.hid (H2.out.1.trans (b3.mono H2.out.1.size)); have c5 : w3.cell? ⟨Z, 5, none⟩ = some (.slice (some ⟨sb, so, none⟩) n sc) := (H2.out.2.1.new b3).cell 5; have c0 : w3.cell? ⟨sb, so + i * 3, none⟩ = some (.int .i64 (L i).r) := (H2.out.2.2.2.new b3).e i hin 0 _ rfl; clear b3; dsimp only [ixI])
    go_ret
    exact ⟨rfl, H3.out⟩
theorem takes_any {w : World} {id now dl c d : Int} {S : Src} {n : Nat} {L : Nat → Sec} (hn : n ≤ 1000) (h : SecsOf w S n L) :
    Calls Try.prog 34 #[.agg (jobD id now dl c d (.slice S.sp n S.c))] w fun e w' => e = .returned (.int .i64 (resI L (firstI (fun k => takesB d (L k)) n 0))) ∧ Below w.heap.size w w' := by
  have hmf : ∀ (fn : Fn) (first cap : Array Value) (w : World), (Instr.makeFunc fn first cap).run Try.prog w = .ok (.func fn first cap) w := fun _ _ _ _ => rfl
  obtain ⟨Z, hZ⟩ : ∃ Z, Z = w.heap.size := ⟨_, rfl⟩
  have HW := Lib.hid (show ∀ w2, w.alloc (.cells (jobD id now dl c d (.slice S.sp n S.c)) 71) = w2 → Below w.heap.size w w2 ∧ RowAt w2 Z 71 (jobD id now dl c d (.slice S.sp n S.c)) ∧ SecsOf w2 S n L from fun w2 hw => by
    have hb := boxJ hw
    exact ⟨hb.1, by rw [hZ]; exact hb.2, h.new hb.1⟩)
  have HC := Lib.hid (fun (wx : World) (h1 : RowAt wx Z 71 (jobD id now dl c d (.slice S.sp n S.c))) (h2 : SecsOf wx S n L) => first_takes hn h1 h2)
  obtain ⟨sp, sb, so, sc⟩ := S
  dsimp only at HC HW ⊢
  clear h
  go_enter Try.func34, Try.ntmps34
  go_upto_region 1 with fail
  generalize hw2 : World.alloc _ _ = w2
  have H2 := Lib.hid (HW.out w2 hw2)
  rw [← hZ]
  clear hw2 HW hZ
  go_wp2_with (first
    | (refine wpList_load_row rfl 71 (.tmp 1) rfl Z rfl 71 (jobD id now dl c d (.slice sp n sc)) (0, 0) _ H2.out.2.1 Try.underlying71 rfl (by kernel_rfl) ?_)
    | (go_at_call 62; refine (HC.out _ H2.out.2.1 H2.out.2.2).mono ?_; rintro e w3 ⟨rfl, b3⟩; have H3 := Lib.hid (H2.out.1.trans (b3.mono H2.out.1.size)); clear b3)
    | fail)
  go_ret
  exact ⟨rfl, H3.out⟩
set_option maxHeartbeats 4000000 in
theorem idx_holds {w : World} {B : Nat} {id now dl c d : Int} {v : Value} {S : Src} {n : Nat} {L : Nat → Sec} (hn : n ≤ 1000) (hj : RowAt w B 71 (jobD id now dl c d v)) (h : SecsOf w S n L) :
    Calls Try.prog 81 #[.slice S.sp n S.c, .func (.func 64) #[] #[.pointer (some ⟨B, 0, none⟩)]] w fun e w' => e = .returned (.int .i64 (ixI (firstI (fun k => holdsB d (L k)) n 0))) ∧ Below w.heap.size w w' := by
  have HF := Lib.hid (fun (wx : World) (hb : Below w.heap.size w wx) (s : Sec) => holds1_any (hj.new hb) s)
  have HE := Lib.hid (fun k (hk : k < n) (wx : World) (hb : Below w.heap.size w wx) => (h.new hb).e k hk)
  have HSP := Lib.hid (fun (h0 : 0 < n) => (h.sl.at_ h0).1)
  obtain ⟨p, hp⟩ : ∃ p : Nat → Bool, (fun k => holdsB d (L k)) = p := ⟨_, rfl⟩
  have HP := Lib.hid (fun k => show holdsB d (L k) = p k from congrFun hp k)
  have HI := Lib.hid (fun (i : Nat) (hi : p i = true) (h2 : i < n) (h3 : ∀ j, j < i → p j = false) => firstI_is (p := p) hi (n := n) (k := 0) (Nat.zero_le _) (by omega) (fun j _ hj => h3 j hj))
  have HN := Lib.hid (fun (h3 : ∀ j, j < n → p j = false) => firstI_no (p := p) (n := n) (k := 0) (fun j _ hj => h3 j (by omega)))
  rw [hp]
  obtain ⟨o, ho⟩ : ∃ o, firstI p n 0 = o := ⟨_, rfl⟩
  rw [ho] at HI HN ⊢
  obtain ⟨sp, sb, so, sc⟩ := S
  dsimp only at HE HSP ⊢
  clear h hj hp ho
  go_enter Try.func81, Try.ntmps81
  go_wp2
  go_loopg [8] n (fun g u wr => ∃ k : Nat, k + g = n ∧ u = .int .i64 (k : Nat) ∧ Aside (Below w.heap.size w wr ∧ ∀ j, j < k → p j = false))
  case atStart => exact ⟨0, by omega, rfl, Below.refl _ _, fun j hj => by omega⟩
  case round =>
    obtain ⟨k, hkg, rfl, HK⟩ := hrel
    cases gk with
    | zero =>
      obtain rfl : k = n := by omega
      have HO := Lib.hid (HN.out HK.out.2)
      go_wp2
      go_ret
      exact ⟨by rw [HO.out]; rfl, HK.out.1⟩
    | succ g1 =>
      have hk : k < n := by omega
      have hk2 : (k : Int) < n := by omega
      obtain rfl : sp = some ⟨sb, so, none⟩ := HSP.out (by omega)
      have hc := HE.out k hk wr HK.out.1
      have HC := Lib.hid (HF.out wr HK.out.1 (L k))
      rw [HP.out k] at HC
      obtain ⟨⟨x, y, z⟩, hL⟩ : ∃ s, L k = s := ⟨_, rfl⟩
      rw [hL] at hc HC
      have c0 : wr.cell? ⟨sb, so + k * 3, none⟩ = some (.int .i64 x) := hc 0 _ rfl
      have c1 : wr.cell? ⟨sb, so + k * 3 + 1, none⟩ = some (.int .i64 y) := hc 1 _ rfl
      have c2 : wr.cell? ⟨sb, so + k * 3 + 2, none⟩ = some (.int .i64 z) := hc 2 _ rfl
      clear hc hL
      dsimp only at HC
      cases hv : p k with
      | true =>
        rw [hv] at HC
        have HO := Lib.hid (HI.out k hv hk HK.out.2)
        clear hv
        go_wp2_with (go_at_call 64; refine HC.out.mono ?_; rintro e w3 ⟨rfl, b3⟩; have H3 := Lib.hid (HK.out.1.trans (b3.mono HK.out.1.size)); clear b3)
        go_ret
        exact ⟨by rw [HO.out]; rfl, H3.out⟩
      | false =>
        rw [hv] at HC
        have HV := Lib.hid hv
        clear hv
        go_wp2_with (go_at_call 64; refine HC.out.mono ?_; rintro e w3 ⟨rfl, b3⟩; have H3 := Lib.hid (HK.out.1.trans (b3.mono HK.out.1.size)); clear b3)
        go_roundg g1
        case measure => omega
        case rel => exact ⟨k + 1, by omega, by go_num, H3.out, fun j hj => by
          by_cases e : j = k
          · subst e; exact HV.out
          · exact HK.out.2 j (by omega)⟩
set_option maxHeartbeats 4000000 in
theorem first_holds {w : World} {B : Nat} {id now dl c d : Int} {v : Value} {S : Src} {n : Nat} {L : Nat → Sec} (hn : n ≤ 1000) (hj : RowAt w B 71 (jobD id now dl c d v)) (h : SecsOf w S n L) :
    Calls Try.prog 62 #[.agg (jobD id now dl c d (.slice S.sp n S.c)), .func (.func 64) #[] #[.pointer (some ⟨B, 0, none⟩)]] w fun e w' => e = .returned (.int .i64 (resI L (firstI (fun k => holdsB d (L k)) n 0))) ∧ Below w.heap.size w w' := by
  obtain ⟨Z, hZ⟩ : ∃ Z, Z = w.heap.size := ⟨_, rfl⟩
  have HW := Lib.hid (show ∀ w2, w.alloc (.cells (jobD id now dl c d (.slice S.sp n S.c)) 71) = w2 → Below w.heap.size w w2 ∧ RowAt w2 Z 71 (jobD id now dl c d (.slice S.sp n S.c)) ∧ RowAt w2 B 71 (jobD id now dl c d v) ∧ SecsOf w2 S n L from fun w2 hw => by
    have hb := boxJ hw
    exact ⟨hb.1, by rw [hZ]; exact hb.2, hj.new hb.1, h.new hb.1⟩)
  have HC := Lib.hid (fun (wx : World) (h1 : RowAt wx B 71 (jobD id now dl c d v)) (h2 : SecsOf wx S n L) => idx_holds hn h1 h2)
  obtain ⟨o, ho⟩ : ∃ o, firstI (fun k => holdsB d (L k)) n 0 = o := ⟨_, rfl⟩
  have HO := Lib.hid ho
  rw [ho] at HC ⊢
  clear ho h hj
  obtain ⟨sp, sb, so, sc⟩ := S
  dsimp only at HC HW ⊢
  go_enter Try.func62, Try.ntmps62
  go_upto_region 1 with fail
  generalize hw2 : World.alloc _ _ = w2
  have H2 := Lib.hid (HW.out w2 hw2)
  rw [← hZ]
  clear hw2 HW hZ
  have c5 : w2.cell? ⟨Z, 5, none⟩ = some (.slice sp n sc) := H2.out.2.1.cell 5
  cases o with
  | none =>
    go_wp2_with (go_at_call 81; refine (HC.out _ H2.out.2.2.1 H2.out.2.2.2).mono ?_; rintro e w3 ⟨rfl, b3⟩; have H3 := Lib.hid (H2.out.1.trans (b3.mono H2.out.1.size)); clear b3; dsimp only [ixI])
    go_ret
    exact ⟨rfl, H3.out⟩
  | some i =>
    obtain ⟨-, hi, -⟩ := firstI_some HO.out
    have hin : i < n := by omega
    have hin2 : (i : Int) < n := by omega
    have hsp := (H2.out.2.2.2.sl.at_ (by omega)).1
    dsimp only at hsp
    subst hsp
    go_wp2_with (go_at_call 81; refine (HC.out _ H2.out.2.2.1 H2.out.2.2.2).mono ?_; rintro e w3 ⟨rfl, b3⟩; have H3 := Lib.hid (H2.out.1.trans (b3.mono H2.out.1.size)); have c5 : w3.cell? ⟨Z, 5, none⟩ = some (.slice (some ⟨sb, so, none⟩) n sc) := (H2.out.2.1.new b3).cell 5; have c0 : w3.cell? ⟨sb, so + i * 3, none⟩ = some (.int .i64 (L i).r) := (H2.out.2.2.2.new b3).e i hin 0 _ rfl; clear b3; dsimp only [ixI])
    go_ret
    exact ⟨rfl, H3.out⟩
theorem holds_any {w : World} {id now dl c d : Int} {S : Src} {n : Nat} {L : Nat → Sec} (hn : n ≤ 1000) (h : SecsOf w S n L) :
    Calls Try.prog 36 #[.agg (jobD id now dl c d (.slice S.sp n S.c))] w fun e w' => e = .returned (.int .i64 (resI L (firstI (fun k => holdsB d (L k)) n 0))) ∧ Below w.heap.size w w' := by
  have hmf : ∀ (fn : Fn) (first cap : Array Value) (w : World), (Instr.makeFunc fn first cap).run Try.prog w = .ok (.func fn first cap) w := fun _ _ _ _ => rfl
  obtain ⟨Z, hZ⟩ : ∃ Z, Z = w.heap.size := ⟨_, rfl⟩
  have HW := Lib.hid (show ∀ w2, w.alloc (.cells (jobD id now dl c d (.slice S.sp n S.c)) 71) = w2 → Below w.heap.size w w2 ∧ RowAt w2 Z 71 (jobD id now dl c d (.slice S.sp n S.c)) ∧ SecsOf w2 S n L from fun w2 hw => by
    have hb := boxJ hw
    exact ⟨hb.1, by rw [hZ]; exact hb.2, h.new hb.1⟩)
  have HC := Lib.hid (fun (wx : World) (h1 : RowAt wx Z 71 (jobD id now dl c d (.slice S.sp n S.c))) (h2 : SecsOf wx S n L) => first_holds hn h1 h2)
  obtain ⟨sp, sb, so, sc⟩ := S
  dsimp only at HC HW ⊢
  clear h
  go_enter Try.func36, Try.ntmps36
  go_upto_region 1 with fail
  generalize hw2 : World.alloc _ _ = w2
  have H2 := Lib.hid (HW.out w2 hw2)
  rw [← hZ]
  clear hw2 HW hZ
  go_wp2_with (first
    | (refine wpList_load_row rfl 71 (.tmp 1) rfl Z rfl 71 (jobD id now dl c d (.slice sp n sc)) (0, 0) _ H2.out.2.1 Try.underlying71 rfl (by kernel_rfl) ?_)
    | (go_at_call 62; refine (HC.out _ H2.out.2.1 H2.out.2.2).mono ?_; rintro e w3 ⟨rfl, b3⟩; have H3 := Lib.hid (H2.out.1.trans (b3.mono H2.out.1.size)); clear b3)
    | fail)
  go_ret
  exact ⟨rfl, H3.out⟩
set_option maxHeartbeats 4000000 in
theorem rholds_takes {w : World} {S : Src} {n : Nat} {L : Nat → Sec} (hn : n ≤ 1000) (d : Int) (h : SecsOf w S n L) :
    Calls Try.prog 37 #[.slice S.sp n S.c, .int .i64 d, .bool true] w fun e w' => e = .returned (.int .i64 (resI L (firstI (fun k => takesB d (L k)) n 0))) ∧ w' = w := by
  have HE := Lib.hid h.e
  have HSP := Lib.hid (fun (h0 : 0 < n) => (h.sl.at_ h0).1)
  obtain ⟨p, hp⟩ : ∃ p : Nat → Bool, (fun k => takesB d (L k)) = p := ⟨_, rfl⟩
  have HP := Lib.hid (fun k => show takesB d (L k) = p k from congrFun hp k)
  have HI := Lib.hid (fun (i : Nat) (hi : p i = true) (h2 : i < n) (h3 : ∀ j, j < i → p j = false) => firstI_is (p := p) hi (n := n) (k := 0) (Nat.zero_le _) (by omega) (fun j _ hj => h3 j hj))
  have HN := Lib.hid (fun (h3 : ∀ j, j < n → p j = false) => firstI_no (p := p) (n := n) (k := 0) (fun j _ hj => h3 j (by omega)))
  rw [hp]
  obtain ⟨o, ho⟩ : ∃ o, firstI p n 0 = o := ⟨_, rfl⟩
  rw [ho] at HI HN ⊢
  obtain ⟨sp, sb, so, sc⟩ := S
  dsimp only at HE HSP ⊢
  clear h hp ho
  go_enter Try.func37, Try.ntmps37
  go_wp2
  go_loopg [7] n (fun g u wr => ∃ k : Nat, k + g = n ∧ u = .int .i64 (k : Nat) ∧ w = wr ∧ Aside (∀ j, j < k → p j = false))
  case atStart => exact ⟨0, by omega, rfl, rfl, fun j hj => by omega⟩
  case round =>
    obtain ⟨k, hkg, rfl, rfl, HK⟩ := hrel
    cases gk with
    | zero =>
      obtain rfl : k = n := by omega
      have HO := Lib.hid (HN.out HK.out)
      go_wp2
      go_ret
      exact ⟨by rw [HO.out]; rfl, rfl⟩
    | succ g1 =>
      have hk : k < n := by omega
      have hk2 : (k : Int) < n := by omega
      obtain rfl : sp = some ⟨sb, so, none⟩ := HSP.out (by omega)
      have hc := HE.out k hk
      have HV := Lib.hid (HP.out k)
      obtain ⟨⟨x, y, z⟩, hL⟩ : ∃ s, L k = s := ⟨_, rfl⟩
      have HLk := Lib.hid hL
      rw [hL] at hc HV
      have c0 : w.cell? ⟨sb, so + k * 3, none⟩ = some (.int .i64 x) := hc 0 _ rfl
      have c1 : w.cell? ⟨sb, so + k * 3 + 1, none⟩ = some (.int .i64 y) := hc 1 _ rfl
      have c2 : w.cell? ⟨sb, so + k * 3 + 2, none⟩ = some (.int .i64 z) := hc 2 _ rfl
      clear hc hL
      by_cases q1 : y < d
      · by_cases q2 : d < z
        · have HO := Lib.hid (HI.out k (by
            rw [← HV.out]
            simp [takesB]
            try omega) hk HK.out)
          go_wp2
          go_ret
          exact ⟨by rw [HO.out]; dsimp only [resI]; rw [HLk.out]; rfl, rfl⟩
        · have HF := Lib.hid (show p k = false by
            rw [← HV.out]
            simp [takesB]
            try omega)
          go_wp2
          go_roundg g1
          case measure => omega
          case rel => exact ⟨k + 1, by omega, by go_num, rfl, fun j hj => by
            by_cases e : j = k
            · subst e; exact HF.out
            · exact HK.out j (by omega)⟩
      · by_cases q3 : d = y
        · subst q3
          by_cases q2 : d < z
          · have HO := Lib.hid (HI.out k (by
              rw [← HV.out]
              simp [takesB]
              try omega) hk HK.out)
            go_wp2
            go_ret
            exact ⟨by rw [HO.out]; dsimp only [resI]; rw [HLk.out]; rfl, rfl⟩
          · have HF := Lib.hid (show p k = false by
              rw [← HV.out]
              simp [takesB]
              try omega)
            go_wp2
            go_roundg g1
            case measure => omega
            case rel => exact ⟨k + 1, by omega, by go_num, rfl, fun j hj => by
              by_cases e : j = k
              · subst e; exact HF.out
              · exact HK.out j (by omega)⟩
        · have HF := Lib.hid (show p k = false by
            rw [← HV.out]
            simp [takesB]
            try omega)
          go_wp2
          go_roundg g1
          case measure => omega
          case rel => exact ⟨k + 1, by omega, by go_num, rfl, fun j hj => by
            by_cases e : j = k
            · subst e; exact HF.out
            · exact HK.out j (by omega)⟩
set_option maxHeartbeats 4000000 in
theorem rholds_holds {w : World} {S : Src} {n : Nat} {L : Nat → Sec} (hn : n ≤ 1000) (d : Int) (h : SecsOf w S n L) :
    Calls Try.prog 37 #[.slice S.sp n S.c, .int .i64 d, .bool false] w fun e w' => e = .returned (.int .i64 (resI L (firstI (fun k => holdsB d (L k)) n 0))) ∧ w' = w := by
  have HE := Lib.hid h.e
  have HSP := Lib.hid (fun (h0 : 0 < n) => (h.sl.at_ h0).1)
  obtain ⟨p, hp⟩ : ∃ p : Nat → Bool, (fun k => holdsB d (L k)) = p := ⟨_, rfl⟩
  have HP := Lib.hid (fun k => show holdsB d (L k) = p k from congrFun hp k)
  have HI := Lib.hid (fun (i : Nat) (hi : p i = true) (h2 : i < n) (h3 : ∀ j, j < i → p j = false) => firstI_is (p := p) hi (n := n) (k := 0) (Nat.zero_le _) (by omega) (fun j _ hj => h3 j hj))
  have HN := Lib.hid (fun (h3 : ∀ j, j < n → p j = false) => firstI_no (p := p) (n := n) (k := 0) (fun j _ hj => h3 j (by omega)))
  rw [hp]
  obtain ⟨o, ho⟩ : ∃ o, firstI p n 0 = o := ⟨_, rfl⟩
  rw [ho] at HI HN ⊢
  obtain ⟨sp, sb, so, sc⟩ := S
  dsimp only at HE HSP ⊢
  clear h hp ho
  go_enter Try.func37, Try.ntmps37
  go_wp2
  go_loopg [7] n (fun g u wr => ∃ k : Nat, k + g = n ∧ u = .int .i64 (k : Nat) ∧ w = wr ∧ Aside (∀ j, j < k → p j = false))
  case atStart => exact ⟨0, by omega, rfl, rfl, fun j hj => by omega⟩
  case round =>
    obtain ⟨k, hkg, rfl, rfl, HK⟩ := hrel
    cases gk with
    | zero =>
      obtain rfl : k = n := by omega
      have HO := Lib.hid (HN.out HK.out)
      go_wp2
      go_ret
      exact ⟨by rw [HO.out]; rfl, rfl⟩
    | succ g1 =>
      have hk : k < n := by omega
      have hk2 : (k : Int) < n := by omega
      obtain rfl : sp = some ⟨sb, so, none⟩ := HSP.out (by omega)
      have hc := HE.out k hk
      have HV := Lib.hid (HP.out k)
      obtain ⟨⟨x, y, z⟩, hL⟩ : ∃ s, L k = s := ⟨_, rfl⟩
      have HLk := Lib.hid hL
      rw [hL] at hc HV
      have c0 : w.cell? ⟨sb, so + k * 3, none⟩ = some (.int .i64 x) := hc 0 _ rfl
      have c1 : w.cell? ⟨sb, so + k * 3 + 1, none⟩ = some (.int .i64 y) := hc 1 _ rfl
      have c2 : w.cell? ⟨sb, so + k * 3 + 2, none⟩ = some (.int .i64 z) := hc 2 _ rfl
      clear hc hL
      by_cases q1 : y < d
      · by_cases q2 : d < z
        · have HO := Lib.hid (HI.out k (by
            rw [← HV.out]
            simp [holdsB]
            try omega) hk HK.out)
          go_wp2
          go_ret
          exact ⟨by rw [HO.out]; dsimp only [resI]; rw [HLk.out]; rfl, rfl⟩
        · have HF := Lib.hid (show p k = false by
            rw [← HV.out]
            simp [holdsB]
            try omega)
          go_wp2
          go_roundg g1
          case measure => omega
          case rel => exact ⟨k + 1, by omega, by go_num, rfl, fun j hj => by
            by_cases e : j = k
            · subst e; exact HF.out
            · exact HK.out j (by omega)⟩
      · have HF := Lib.hid (show p k = false by
          rw [← HV.out]
          simp [holdsB]
          try omega)
        go_wp2
        go_roundg g1
        case measure => omega
        case rel => exact ⟨k + 1, by omega, by go_num, rfl, fun j hj => by
          by_cases e : j = k
          · subst e; exact HF.out
          · exact HK.out j (by omega)⟩
end Go.Proofs.Ytcipkkeegbfaeaa
