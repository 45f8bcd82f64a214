/- The contract of diff's modes. -/
import Derived.Test.YtknkhigmokooaaaDoorEB
import Derived.Test.YtknkhigmokooaaaDoorEC
import Derived.Test.YtknkhigmokooaaaDoorEC2
namespace Go.Proofs.YtknkhigmokooaaaDoor
open Go.RowKit

def mU (na nb : Nat) (eu : Nat → Bool) (k : Nat) : List TurnM := if k < na ∧ k < nb ∧ eu k = true then [] else [⟨3, k, decide (k < na), decide (k < nb)⟩]
def mQ (na nb : Nat) (eq : Nat → Bool) (k : Nat) : List TurnM := if k < na ∧ k < nb ∧ eq k = false then [⟨4, k, true, true⟩] else []
def modesK (na nb : Nat) (eu eq : Nat → Bool) : Nat → List TurnM
  | 0 => []
  | k + 1 => (modesK na nb eu eq k ++ mU na nb eu k) ++ mQ na nb eq k
theorem boxed4' (w : World) (x y z u : Value) (t : TypeId) : (w.alloc (.cells #[x, y, z, u] t)).cell? ⟨w.heap.size, 0, none⟩ = some x ∧ (w.alloc (.cells #[x, y, z, u] t)).cell? ⟨w.heap.size, 1, none⟩ = some y ∧ (w.alloc (.cells #[x, y, z, u] t)).cell? ⟨w.heap.size, 2, none⟩ = some z ∧ (w.alloc (.cells #[x, y, z, u] t)).cell? ⟨w.heap.size, 3, none⟩ = some u :=
  ⟨(RowAt.mk w t #[x, y, z, u]).cell 0, (RowAt.mk w t #[x, y, z, u]).cell 1, (RowAt.mk w t #[x, y, z, u]).cell 2, (RowAt.mk w t #[x, y, z, u]).cell 3⟩
theorem modesK_len (na nb : Nat) (eu eq : Nat → Bool) : ∀ k, (modesK na nb eu eq k).length ≤ 2 * k
  | 0 => Nat.le_refl _
  | k + 1 => by
    have ih := modesK_len na nb eu eq k
    have h1 : (mU na nb eu k).length ≤ 1 := by unfold mU; split <;> simp
    have h2 : (mQ na nb eq k).length ≤ 1 := by unfold mQ; split <;> simp
    show ((modesK na nb eu eq k ++ mU na nb eu k) ++ mQ na nb eq k).length ≤ _
    rw [List.length_append, List.length_append]; omega
def euOf (x y : Img) (k : Nat) : Bool := (x.m k).tasks == (y.m k).tasks
def eqOf (x y : Img) (k : Nat) : Bool := qsEq (x.m k).qs (y.m k).qs
def modesL (x y : Img) : List TurnM := modesK x.modes.length y.modes.length (euOf x y) (eqOf x y) (max x.modes.length y.modes.length)
theorem rowU_rows (x : Img) : rowU x.modes = rowsOf (fun k => [.int .u32 (w32 (x.m k).tasks)]) x.modes.length := by
  apply List.ext_getElem?
  intro i
  have hf : ∀ k, k < x.modes.length → ((fun k => [Value.int .u32 (w32 (x.m k).tasks)]) k).length = 1 := fun _ _ => rfl
  by_cases hi : i < x.modes.length
  · have := rowsOf_at hf i 0 hi (by omega)
    rw [Nat.mul_one, Nat.add_zero] at this
    rw [this]
    unfold rowU Img.m
    simp [hi]
  · rw [List.getElem?_eq_none (by unfold rowU; simp; omega), List.getElem?_eq_none (by rw [rowsOf_len _ hf]; omega)]
/-- What hold answers of two rows of sets. -/
theorem modesU {w2 : World} {x y : Img} {v1 v2 : Value} {B : Nat} (hn : x.modes.length ≤ 100) (hn' : y.modes.length ≤ 100) (o1 : w2.ownsRow B 27 1 v1 x.modes.length (rowU x.modes)) (o2 : w2.ownsRow B 27 1 v2 y.modes.length (rowU y.modes)) :
    ∃ sp1 c1 sp2 c2, v1 = .slice sp1 x.modes.length c1 ∧ v2 = .slice sp2 y.modes.length c2 ∧ ∀ wx, Below w2.heap.size w2 wx → ∀ k, k ≤ 1000 →
      Calls Tryd.prog 74 #[.int .i64 3, .int .i64 (k : Nat), .slice sp1 x.modes.length c1, .slice sp2 y.modes.length c2] wx fun e w' => e = .returned (holdV 3 k x.modes.length y.modes.length (euOf x y k)) ∧ Below wx.heap.size wx w' := by
  rw [rowU_rows] at o1 o2
  obtain ⟨S1, rfl, hs1, ha1⟩ := own_rows o1 (fun _ _ => rfl) (by omega)
  obtain ⟨S2, rfl, hs2, ha2⟩ := own_rows o2 (fun _ _ => rfl) (by omega)
  refine ⟨S1.sp, S1.c, S2.sp, S2.c, rfl, rfl, fun wx hb k hk => ?_⟩
  refine dfHoldU_any 3 k x.modes.length y.modes.length S1.c S2.c S1.sp S2.sp (x.m k).tasks (y.m k).tasks S1.b S1.o S2.b S2.o hk (by omega) (by omega) ?_ ?_
  · intro hk1
    obtain ⟨a1, a2, a3, -⟩ := hs1 (by omega)
    have := ha1 k hk1 0 _ rfl
    rw [Nat.mul_one] at this
    exact ⟨a1, (hb.cell a3).trans this⟩
  · intro hk1
    obtain ⟨a1, a2, a3, -⟩ := hs2 (by omega)
    have := ha2 k hk1 0 _ rfl
    rw [Nat.mul_one] at this
    exact ⟨a1, (hb.cell a3).trans this⟩
theorem modesQ {w : World} {V V' : Nat → Prop} {x y : Img} {S S' : ImgS} (h : ImgAt w V x S) (h' : ImgAt w V' y S') (k : Nat) (hk : k < x.modes.length) (hk' : k < y.modes.length) (hq : (x.m k).qs.length ≤ 1000) (hq' : (y.m k).qs.length ≤ 1000) :
    Calls Tryd.prog 75 #[.slice (S.q k).sp (x.m k).qs.length (S.q k).c, .slice (S'.q k).sp (y.m k).qs.length (S'.q k).c] w fun e w' => e = .returned (.bool (eqOf x y k)) ∧ Below w.heap.size w w' :=
  eqQ_any (x.m k).qs (y.m k).qs (S.q k).sp (S'.q k).sp (S.q k).c (S'.q k).c (S.q k).b (S.q k).o (S'.q k).b (S'.q k).o hq hq' (fun h0 => ((h.md k hk).2.2.at_ h0).1) (fun h0 => ((h'.md k hk').2.2.at_ h0).1)
    (fun j hj _wx hb => queueAt (h.new hb) k hk j hj) (fun j hj _wx hb => queueAt (h'.new hb) k hk' j hj)
set_option maxHeartbeats 4000000 in
set_option maxRecDepth 100000 in
theorem dfModes_any {w : World} {V V' : Nat → Prop} {x y : Img} {S S' : ImgS} (h : ImgAt w V x S) (h' : ImgAt w V' y S') (hn : x.modes.length ≤ 100) (hn' : y.modes.length ≤ 100) (hq : ∀ k, k < x.modes.length → (x.m k).qs.length ≤ 1000) (hq' : ∀ k, k < y.modes.length → (y.m k).qs.length ≤ 1000) :
    Calls Tryd.prog 52 #[.slice S.m.sp x.modes.length S.m.c, .slice S'.m.sp y.modes.length S'.m.c] w fun e w' => ∃ v, e = .returned v ∧ w'.ownsRow w.heap.size 57 4 v (modesL x y).length (turnRow (modesL x y)) ∧ Below w.heap.size w w' := by
  obtain ⟨i0, hi, hz0, hz1, hz2⟩ := info_parts infoTurn
  have HS1 := Lib.hid (sets_any h hn)
  have HS2 := Lib.hid (fun wx (hb : Below w.heap.size w wx) => sets_any (h'.new hb) hn')
  have HUU := Lib.hid (fun (w2 : World) (v1 v2 : Value) o1 o2 => modesU (w2 := w2) (x := x) (y := y) (v1 := v1) (v2 := v2) (B := w.heap.size) hn hn' o1 o2)
  have HQ := Lib.hid (fun wx (hb : Below w.heap.size w wx) k hk hk' => modesQ (h.new hb) (h'.new hb) k hk hk' (hq k hk) (hq' k hk'))
  have HA := Lib.hid (fun wx (hb : Below w.heap.size w wx) k (hk : k < x.modes.length) => And.intro (h.sm.at_ (by omega)).1 ((h.new hb).md k hk).2.1)
  have HA' := Lib.hid (fun wx (hb : Below w.heap.size w wx) k (hk : k < y.modes.length) => And.intro (h'.sm.at_ (by omega)).1 ((h'.new hb).md k hk).2.1)
  unfold modesL
  obtain ⟨rx, hrx⟩ : ∃ r, rowU x.modes = r := ⟨_, rfl⟩
  obtain ⟨ry, hry⟩ : ∃ r, rowU y.modes = r := ⟨_, rfl⟩
  rw [hrx] at HS1 HUU
  rw [hry] at HS2 HUU
  clear hrx hry
  obtain ⟨eu, heu⟩ : ∃ f, euOf x y = f := ⟨_, rfl⟩
  obtain ⟨eq, heq⟩ : ∃ f, eqOf x y = f := ⟨_, rfl⟩
  rw [heu] at HUU ⊢
  rw [heq] at HQ ⊢
  obtain ⟨na, hna⟩ : ∃ n, x.modes.length = n := ⟨_, rfl⟩
  obtain ⟨nb, hnb⟩ : ∃ n, y.modes.length = n := ⟨_, rfl⟩
  rw [hna] at HS1 HUU HQ HA hn
  rw [hnb] at HS2 HUU HQ HA' hn'
  rw [hna, hnb]
  obtain ⟨spa, hspa⟩ : ∃ s, S.m.sp = s := ⟨_, rfl⟩
  obtain ⟨spb, hspb⟩ : ∃ s, S'.m.sp = s := ⟨_, rfl⟩
  rw [hspa] at HS1 HA ⊢
  rw [hspb] at HS2 HA' ⊢
  clear h h' hq hq' heu heq hna hnb hspa hspb
  obtain ⟨M, hM⟩ : ∃ M, max na nb = M := ⟨_, rfl⟩
  have HM := Lib.hid hM
  rw [hM]
  obtain ⟨tk, htk⟩ : ∃ f, modesK na nb eu eq = f := ⟨_, rfl⟩
  have HTk := Lib.hid (show ∀ k, tk (k + 1) = (tk k ++ mU na nb eu k) ++ mQ na nb eq k from fun k => by rw [← htk]; rfl)
  have HT0 := Lib.hid (show tk 0 = [] by rw [← htk]; rfl)
  have HTl := Lib.hid (show ∀ k, (tk k).length ≤ 2 * k from fun k => by rw [← htk]; exact modesK_len _ _ _ _ k)
  rw [htk]
  clear hM htk
  have hmx : max (na : Int) (nb : Int) = (M : Int) := by have := HM.out; omega
  by_cases hab : (na : Int) < (nb : Int)
  all_goals
    first
    | (have hMM : (nb : Int) = (M : Int) := by omega)
    | (have hMM : (na : Int) = (M : Int) := by omega)
  all_goals
    have HAB := Lib.hid hab
    go_enter Tryd.func52, Tryd.ntmps52
    go_upto_region 3 with (first
      | (go_at_call 73; first
          | (refine (HS2.out _ H1.out.2).mono ?_; rintro e w2 ⟨v2, rfl, o2, b2⟩; have H2 := Lib.hid (And.intro (own_below H1.out.1 b2 (Nat.le_refl _)) (And.intro (own_mono o2 H1.out.2.size) (H1.out.2.trans (b2.mono H1.out.2.size)))); clear o2 b2)
          | (refine HS1.out.mono ?_; rintro e w1 ⟨v1, rfl, o1, b1⟩; have H1 := Lib.hid (And.intro o1 b1); clear o1 b1))
      | fail)
    obtain ⟨sp1, c1, sp2, c2, rfl, rfl, hU⟩ := HUU.out w2 v1 v2 H2.out.1 H2.out.2.1
    have HU := Lib.hid hU
    clear hU HUU HS1 HS2
    go_wp2
    clear hMM hmx hab
    go_loopg [7, 20] M (fun g u v wr => ∃ k : Nat, k + g = M ∧ v = .int .i64 (k : Nat) ∧ Aside (Below w2.heap.size w2 wr ∧ wr.ownsRow w2.heap.size 57 4 u (tk k).length (turnRow (tk k))))
    case atStart => exact ⟨0, by omega, rfl, Below.refl _ _, by rw [HT0.out]; exact World.ownsRow_nil _ _ _ _⟩
    case round =>
      obtain ⟨k, hkg, rfl, HR⟩ := hrel
      obtain ⟨sp', cap, rfl⟩ := own_val HR.out.2
      cases gk with
      | zero =>
        obtain rfl : k = M := by omega
        go_wp2
        go_ret
        exact ⟨_, rfl, own_mono HR.out.2 H2.out.2.2.size, H2.out.2.2.trans (HR.out.1.mono H2.out.2.2.size)⟩
      | succ g1 =>
        have hk : k < M := by omega
        have hM1 : M ≤ 100 := by have := HM.out; omega
        have hk2 : (k : Int) < (M : Int) := by omega
        have hk3 : (k : Int) < 100 := by omega
        have htk := HTk.out k
        have HC := Lib.hid (HU.out wr HR.out.1 k (by omega))
        have htl := HTl.out k
        obtain ⟨n0, hn0⟩ : ∃ n, (tk k).length = n := ⟨_, rfl⟩
        rw [hn0] at HR htl ⊢
        obtain ⟨T0, hT0⟩ : ∃ l, tk k = l := ⟨_, rfl⟩
        rw [hT0] at HR htk hn0
        have HN0 := Lib.hid hn0
        obtain ⟨T1, hT1⟩ : ∃ l, T0 ++ mU na nb eu k = l := ⟨_, rfl⟩
        rw [hT1] at htk
        have HTK := Lib.hid htk
        have HT1 := Lib.hid hT1
        have htl2 : T1.length ≤ 201 := by
          rw [← hT1, List.length_append, hn0]
          have : (mU na nb eu k).length ≤ 1 := by unfold mU; split <;> simp
          omega
        have HT1L := Lib.hid htl2
        clear htk hT1 hT0 htl2
        have HCC : ∃ (kk aa : Int) (oo nn bb : Bool), holdV 3 k na nb (eu k) = .tuple #[.agg #[.int .i64 kk, .int .i64 aa, .bool oo, .bool nn], .bool bb] ∧ mU na nb eu k = (if bb = true then [⟨3, k, decide (k < na), decide (k < nb)⟩] else []) ∧ (bb = true → kk = 3 ∧ aa = (k : Nat) ∧ oo = decide (k < na) ∧ nn = decide (k < nb)) := by
          unfold holdV mU
          by_cases hc : k < na ∧ k < nb ∧ eu k = true
          · rw [if_pos hc, if_pos hc]; exact ⟨_, _, _, _, _, rfl, rfl, fun h => nomatch h⟩
          · rw [if_neg hc, if_neg hc]; exact ⟨_, _, _, _, _, rfl, rfl, fun _ => ⟨rfl, rfl, rfl, rfl⟩⟩
        obtain ⟨kk, aa, oo, nn, bb, hhv, hmu, hbb⟩ := HCC
        rw [hhv] at HC
        rw [hmu] at HT1
        have HBB := Lib.hid hbb
        clear hhv hmu hbb
        go_upto_if 30 with (first
          | (go_at_call 74; refine HC.out.mono ?_; rintro e w3 ⟨rfl, b3⟩; have H3 := Lib.hid (And.intro (HR.out.1.trans (b3.mono HR.out.1.size)) (own_below HR.out.2 b3 (Nat.le_refl _))); clear b3; obtain ⟨p0, p1, p2, p3⟩ := boxed4' w3 (.int .i64 kk) (.int .i64 aa) (.bool oo) (.bool nn) 57)
          | fail)
        go_cut [7] from 30 to 61 (fun s7 wx => ∃ (sp2 : Option Addr) (cap2 : Nat), s7 = .slice sp2 T1.length cap2 ∧ Aside (Below w2.heap.size w2 wx ∧ wx.ownsRow w2.heap.size 57 4 s7 T1.length (turnRow T1)))
        case first => as_aux_lemma =>
          cases bb with
          | false =>
            have hT1 := HT1.out
            rw [if_neg (by simp), List.append_nil] at hT1
            subst hT1
            obtain rfl := HN0.out
            go_wp2
            go_meet
            case rel => exact ⟨sp', cap, rfl, below_alloc H3.out.1 (Nat.le_refl _) _, H3.out.2.alloc _⟩
          | true =>
            have hT1 := HT1.out
            rw [if_pos rfl] at hT1
            obtain ⟨rfl, rfl, hoo, hnn⟩ := HBB.out rfl
            rw [← hoo, ← hnn] at hT1
            have HX := Lib.hid (And.intro hT1.symm (show T1.length = n0 + 1 by rw [← hT1]; simp [HN0.out]))
            clear hoo hnn hT1
            go_wp2_with (first
              | (at_builtin; refine wpList_append_vary rfl (.tmp 31) (.tmp 33) 53 rfl w2.heap.size 57 i0 (.agg #[.int .i64 0, .int .i64 0, .bool false, .bool false]) 4 24 Tryd.underlying53 hi hz0 hz1 hz2 rfl (by decide) (.slice sp' n0 cap) n0 _ rfl ((H3.out.2.alloc _).alloc _) (some ⟨w3.heap.size + 1, 0, none⟩) 1 1 [.int .i64 3, .int .i64 (k : Nat), .bool oo, .bool nn] rfl rfl (fun h => nomatch h) (fun ad h => by obtain rfl := Option.some.inj h; exact four_newF _ _ _ _ _ _ _) (by simp [Value.oneCell']) (by unfold maxLen; omega) (by omega) (by have := H3.out.1.size; simp; omega) ?_; intro v' w4 hown' hgrow hat; obtain ⟨sp2, cap2, rfl⟩ := own_val hown'; have H4 := Lib.hid (And.intro (Below.grown (below_alloc (below_alloc H3.out.1 (Nat.le_refl _) _) (Nat.le_refl _) _) hgrow (by have := H3.out.1.size; simp; omega) (fun j e => own_ge HR.out.2 j e)) hown'); clear hown' hgrow hat)
              | fail)
            go_meet
            case rel =>
              refine ⟨sp2, cap2, by rw [HX.out.2], H4.out.1, ?_⟩
              have h4 := H4.out.2
              rw [HX.out.2, HX.out.1, turnRow_snoc]
              exact h4
        case rest => as_aux_lemma =>
          obtain ⟨sp2, cap2, rfl, HW⟩ := hcut
          have HWt := Lib.hid HW.out
          have HB0 := Lib.hid (show Below w.heap.size w wc from H2.out.2.2.trans (HW.out.1.mono H2.out.2.2.size))
          have HTT := Lib.hid (show T1.length ≤ 201 from HT1L.out)
          obtain ⟨n1, hn1⟩ : ∃ n, T1.length = n := ⟨_, rfl⟩
          rw [hn1] at HWt HTT ⊢
          have HN1 := Lib.hid hn1
          clear HW hn1 p0 p1 p2 p3
          by_cases hin : k < na ∧ k < nb
          · obtain ⟨k1, k2⟩ := hin
            have HKA := Lib.hid (show ∀ wx, Below wc.heap.size wc wx → spa = some ⟨S.m.b, S.m.o, none⟩ ∧ spb = some ⟨S'.m.b, S'.m.o, none⟩ ∧ wx.cell? ⟨S.m.b, S.m.o + k * 2 + 1, none⟩ = some (.slice (S.q k).sp (x.m k).qs.length (S.q k).c) ∧ wx.cell? ⟨S'.m.b, S'.m.o + k * 2 + 1, none⟩ = some (.slice (S'.q k).sp (y.m k).qs.length (S'.q k).c) from fun wx hb => by
              have hb2 := HB0.out.trans (hb.mono HB0.out.size)
              exact ⟨(HA.out wx hb2 k k1).1, (HA'.out wx hb2 k k2).1, (HA.out wx hb2 k k1).2, (HA'.out wx hb2 k k2).2⟩)
            have HQk := Lib.hid (show ∀ wx, Below wc.heap.size wc wx → Calls Tryd.prog 75 #[.slice (S.q k).sp (x.m k).qs.length (S.q k).c, .slice (S'.q k).sp (y.m k).qs.length (S'.q k).c] wx fun e w' => e = .returned (.bool (eq k)) ∧ Below wx.heap.size wx w' from fun wx hb => HQ.out wx (HB0.out.trans (hb.mono HB0.out.size)) k k1 k2)
            obtain ⟨rfl, rfl, -, -⟩ := HKA.out wc (Below.refl _ _)
            have HKN := Lib.hid (And.intro k1 k2)
            have HKL := Lib.hid (show (k : Int) < min (na : Int) (nb : Int) by omega)
            have HTQ := Lib.hid (show tk (k + 1) = if eq k = false then T1 ++ [⟨4, k, true, true⟩] else T1 by
              rw [HTK.out]
              unfold mQ
              by_cases he : eq k = false
              · rw [if_pos ⟨k1, k2, he⟩, if_pos he]
              · rw [if_neg (fun h => he h.2.2), if_neg he, List.append_nil])
            obtain ⟨q, hq⟩ : ∃ q, eq k = q := ⟨_, rfl⟩
            rw [hq] at HQk HTQ
            obtain ⟨mq, hmq⟩ : ∃ b, (!q) = b := ⟨_, rfl⟩
            have HMQ := Lib.hid hmq
            clear hq hmq k1 k2
            go_upto_region 9 with fail
            have HDN := Lib.hid (show Below wc.heap.size wc wc.drew from below_dn (Below.refl _ _) 1)
            refine wp_region_held_drew (S := fun w' => Below wc.heap.size wc w') (by kernel_rfl) HDN.out (fun hS => ?_)
            refine wpAnyH_take (i := 0) (oi := { dst := some 35, op := .move (.tmp 8), type := 3, pos := "diff.go:69", after := #[], guard := none }) (v := ?_) rfl (by kernel_rfl) (by kernel_rfl) (by kernel_rfl) (fun _ _ _ h => h) (Or.inl ⟨by rfl, ?_⟩) hS ?_
            rotate_left 1
            · intro w hw; obtain s0 := hw; go_simp; try (with_reducible rfl)
            simp only [Act.put, List.setIfInBounds_toArray, List.set_cons_zero, List.set_cons_succ]
            refine wpAnyH_take (i := 1) (oi := { dst := some 36, op := .move (.tmp 0), type := 23, pos := "diff.go:69", after := #[], guard := none }) (v := ?_) rfl (by kernel_rfl) (by kernel_rfl) (by kernel_rfl) (fun _ _ _ h => h) (Or.inl ⟨by rfl, ?_⟩) hS ?_
            rotate_left 1
            · intro w hw; obtain s0 := hw; go_simp; try (with_reducible rfl)
            simp only [Act.put, List.setIfInBounds_toArray, List.set_cons_zero, List.set_cons_succ]
            refine wpAnyH_take (i := 2) (oi := { dst := some 37, op := .call { callee := .builtin .len, args := #[.tmp 36], argTypes := #[23] }, type := 3, pos := "diff.go:69", after := #[{ on := 1, ground := .data }], guard := none }) (v := ?_) rfl (by kernel_rfl) (by kernel_rfl) (by kernel_rfl) (fun _ _ _ h => h) (Or.inl ⟨by rfl, ?_⟩) hS ?_
            rotate_left 1
            · intro w hw; obtain s0 := hw; go_simp; try (with_reducible rfl)
            simp only [Act.put, List.setIfInBounds_toArray, List.set_cons_zero, List.set_cons_succ]
            refine wpAnyH_take (i := 3) (oi := { dst := some 38, op := .move (.tmp 1), type := 23, pos := "diff.go:69", after := #[], guard := none }) (v := ?_) rfl (by kernel_rfl) (by kernel_rfl) (by kernel_rfl) (fun _ _ _ h => h) (Or.inl ⟨by rfl, ?_⟩) hS ?_
            rotate_left 1
            · intro w hw; obtain s0 := hw; go_simp; try (with_reducible rfl)
            simp only [Act.put, List.setIfInBounds_toArray, List.set_cons_zero, List.set_cons_succ]
            refine wpAnyH_take (i := 4) (oi := { dst := some 39, op := .call { callee := .builtin .len, args := #[.tmp 38], argTypes := #[23] }, type := 3, pos := "diff.go:69", after := #[{ on := 3, ground := .data }], guard := none }) (v := ?_) rfl (by kernel_rfl) (by kernel_rfl) (by kernel_rfl) (fun _ _ _ h => h) (Or.inl ⟨by rfl, ?_⟩) hS ?_
            rotate_left 1
            · intro w hw; obtain s0 := hw; go_simp; try (with_reducible rfl)
            simp only [Act.put, List.setIfInBounds_toArray, List.set_cons_zero, List.set_cons_succ]
            refine wpAnyH_take (i := 5) (oi := { dst := some 40, op := .call { callee := .builtin .min, args := #[.tmp 37, .tmp 39], argTypes := #[3, 3] }, type := 3, pos := "diff.go:69", after := #[{ on := 2, ground := .data }, { on := 4, ground := .data }], guard := none }) (v := (.int .i64 (min (na : Int) (nb : Int)))) rfl (by kernel_rfl) (by kernel_rfl) (by kernel_rfl) (fun _ _ _ h => h) (Or.inl ⟨by rfl, ?_⟩) hS ?_
            · intro w hw; obtain s0 := hw; have k0 := HAB.out; go_simp; (try split) <;> omega
            simp only [Act.put, List.setIfInBounds_toArray, List.set_cons_zero, List.set_cons_succ]
            refine wpAnyH_take (i := 6) (oi := { dst := some 41, op := .binOp .lss 3 (.tmp 35) (.tmp 40) 3, type := 4, pos := "diff.go:69", after := #[{ on := 0, ground := .data }, { on := 5, ground := .data }], guard := none }) (v := (.bool true)) rfl (by kernel_rfl) (by kernel_rfl) (by kernel_rfl) (fun _ _ _ h => h) (Or.inl ⟨by rfl, ?_⟩) hS ?_
            · intro w hw; obtain s0 := hw; have k0 := HKL.out; go_simp
            simp only [Act.put, List.setIfInBounds_toArray, List.set_cons_zero, List.set_cons_succ]
            refine wpAnyH_take (i := 7) (oi := { dst := some 42, op := .move (.tmp 41), type := 4, pos := "diff.go:69", after := #[{ on := 6, ground := .data }], guard := none }) (v := ?_) rfl (by kernel_rfl) (by kernel_rfl) (by kernel_rfl) (fun _ _ _ h => h) (Or.inl ⟨by rfl, ?_⟩) hS ?_
            rotate_left 1
            · intro w hw; obtain s0 := hw; go_simp; try (with_reducible rfl)
            simp only [Act.put, List.setIfInBounds_toArray, List.set_cons_zero, List.set_cons_succ]
            refine wpAnyH_take (i := 8) (oi := { dst := some 43, op := .move (.tmp 0), type := 23, pos := "diff.go:69", after := #[{ on := 7, ground := .guard }], guard := some (7, true) }) (v := ?_) rfl (by kernel_rfl) (by kernel_rfl) (by kernel_rfl) (fun _ _ _ h => h) (Or.inl ⟨by rfl, ?_⟩) hS ?_
            rotate_left 1
            · intro w hw; obtain s0 := hw; go_simp; try (with_reducible rfl)
            simp only [Act.put, List.setIfInBounds_toArray, List.set_cons_zero, List.set_cons_succ]
            refine wpAnyH_take (i := 9) (oi := { dst := some 44, op := .move (.tmp 8), type := 3, pos := "diff.go:69", after := #[{ on := 7, ground := .guard }], guard := some (7, true) }) (v := ?_) rfl (by kernel_rfl) (by kernel_rfl) (by kernel_rfl) (fun _ _ _ h => h) (Or.inl ⟨by rfl, ?_⟩) hS ?_
            rotate_left 1
            · intro w hw; obtain s0 := hw; go_simp; try (with_reducible rfl)
            simp only [Act.put, List.setIfInBounds_toArray, List.set_cons_zero, List.set_cons_succ]
            refine wpAnyH_take (i := 10) (oi := { dst := some 45, op := .indexAddr 23 (.tmp 43) (.tmp 44), type := 0, pos := "diff.go:69", after := #[{ on := 8, ground := .data }, { on := 9, ground := .data }, { on := 7, ground := .guard }], guard := some (7, true) }) (v := ?_) rfl (by kernel_rfl) (by kernel_rfl) (by kernel_rfl) (fun _ _ _ h => h) (Or.inl ⟨by rfl, ?_⟩) hS ?_
            rotate_left 1
            · intro w hw; obtain s0 := hw; obtain ⟨k0, k1⟩ := HKN.out; go_simp; try (with_reducible rfl)
            simp only [Act.put, List.setIfInBounds_toArray, List.set_cons_zero, List.set_cons_succ]
            refine wpAnyH_take (i := 11) (oi := { dst := some 46, op := .fieldAddr 68 (.tmp 45) 1, type := 0, pos := "diff.go:69", after := #[{ on := 10, ground := .data }, { on := 7, ground := .guard }], guard := some (7, true) }) (v := ?_) rfl (by kernel_rfl) (by kernel_rfl) (by kernel_rfl) (fun _ _ _ h => h) (Or.inl ⟨by rfl, ?_⟩) hS ?_
            rotate_left 1
            · intro w hw; obtain s0 := hw; go_simp; try (with_reducible rfl)
            simp only [Act.put, List.setIfInBounds_toArray, List.set_cons_zero, List.set_cons_succ]
            refine wpAnyH_take (i := 12) (oi := { dst := some 47, op := .load 66 (.tmp 46), type := 66, pos := "diff.go:69", after := #[{ on := 11, ground := .data }, { on := 7, ground := .guard }], guard := some (7, true) }) (v := ?_) rfl (by kernel_rfl) (by kernel_rfl) (by kernel_rfl) (fun _ _ _ h => h) (Or.inl ⟨by rfl, ?_⟩) hS ?_
            rotate_left 1
            · intro w hw; obtain s0 := hw; obtain ⟨-, -, k0, k1⟩ := HKA.out _ hw; go_simp; try (with_reducible rfl)
            simp only [Act.put, List.setIfInBounds_toArray, List.set_cons_zero, List.set_cons_succ]
            refine wpAnyH_take (i := 13) (oi := { dst := some 48, op := .move (.tmp 1), type := 23, pos := "diff.go:69", after := #[{ on := 7, ground := .guard }], guard := some (7, true) }) (v := ?_) rfl (by kernel_rfl) (by kernel_rfl) (by kernel_rfl) (fun _ _ _ h => h) (Or.inl ⟨by rfl, ?_⟩) hS ?_
            rotate_left 1
            · intro w hw; obtain s0 := hw; go_simp; try (with_reducible rfl)
            simp only [Act.put, List.setIfInBounds_toArray, List.set_cons_zero, List.set_cons_succ]
            refine wpAnyH_take (i := 14) (oi := { dst := some 49, op := .move (.tmp 8), type := 3, pos := "diff.go:69", after := #[{ on := 7, ground := .guard }], guard := some (7, true) }) (v := ?_) rfl (by kernel_rfl) (by kernel_rfl) (by kernel_rfl) (fun _ _ _ h => h) (Or.inl ⟨by rfl, ?_⟩) hS ?_
            rotate_left 1
            · intro w hw; obtain s0 := hw; go_simp; try (with_reducible rfl)
            simp only [Act.put, List.setIfInBounds_toArray, List.set_cons_zero, List.set_cons_succ]
            refine wpAnyH_take (i := 15) (oi := { dst := some 50, op := .indexAddr 23 (.tmp 48) (.tmp 49), type := 0, pos := "diff.go:69", after := #[{ on := 13, ground := .data }, { on := 14, ground := .data }, { on := 7, ground := .guard }], guard := some (7, true) }) (v := ?_) rfl (by kernel_rfl) (by kernel_rfl) (by kernel_rfl) (fun _ _ _ h => h) (Or.inl ⟨by rfl, ?_⟩) hS ?_
            rotate_left 1
            · intro w hw; obtain s0 := hw; obtain ⟨k0, k1⟩ := HKN.out; go_simp; try (with_reducible rfl)
            simp only [Act.put, List.setIfInBounds_toArray, List.set_cons_zero, List.set_cons_succ]
            refine wpAnyH_take (i := 16) (oi := { dst := some 51, op := .fieldAddr 68 (.tmp 50) 1, type := 0, pos := "diff.go:69", after := #[{ on := 15, ground := .data }, { on := 7, ground := .guard }], guard := some (7, true) }) (v := ?_) rfl (by kernel_rfl) (by kernel_rfl) (by kernel_rfl) (fun _ _ _ h => h) (Or.inl ⟨by rfl, ?_⟩) hS ?_
            rotate_left 1
            · intro w hw; obtain s0 := hw; go_simp; try (with_reducible rfl)
            simp only [Act.put, List.setIfInBounds_toArray, List.set_cons_zero, List.set_cons_succ]
            refine wpAnyH_take (i := 17) (oi := { dst := some 52, op := .load 66 (.tmp 51), type := 66, pos := "diff.go:69", after := #[{ on := 16, ground := .data }, { on := 7, ground := .guard }], guard := some (7, true) }) (v := ?_) rfl (by kernel_rfl) (by kernel_rfl) (by kernel_rfl) (fun _ _ _ h => h) (Or.inl ⟨by rfl, ?_⟩) hS ?_
            rotate_left 1
            · intro w hw; obtain s0 := hw; obtain ⟨-, -, k0, k1⟩ := HKA.out _ hw; go_simp; try (with_reducible rfl)
            simp only [Act.put, List.setIfInBounds_toArray, List.set_cons_zero, List.set_cons_succ]
            refine wpAnyH_ready (rs := [18]) (by kernel_rfl) (by simp) (AllReadyH.cons (o := { dst := some 53, op := .call { callee := .value (.func 75), args := #[.tmp 47, .tmp 52], argTypes := #[66, 66] }, type := 4, pos := "diff.go:69", after := #[{ on := 12, ground := .data }, { on := 17, ground := .data }, { on := 7, ground := .chain }, { on := 7, ground := .guard }], guard := some (7, true) }) rfl (fun K hK => ?_) AllReadyH.nil)
            go_simp
            go_at_call 75
            refine (HQk.out _ (below_dn (Below.refl _ _) 1)).mono ?_
            rintro e w8 ⟨rfl, b8⟩
            have H8 := Lib.hid (show Below wc.heap.size wc w8 from (HDN.out).trans (b8.mono HDN.out.size))
            clear b8
            try dsimp only
            refine hK.out _ _ H8.out (fun hHeld => ?_)
            clear hK K
            try simp only [Act.put, List.setIfInBounds_toArray, List.set_cons_zero, List.set_cons_succ]
            refine wpAnyH_take (i := 19) (oi := { dst := some 54, op := .unOp .not 4 (.tmp 53), type := 4, pos := "diff.go:69", after := #[{ on := 18, ground := .data }, { on := 7, ground := .guard }], guard := some (7, true) }) (v := ?_) rfl (by kernel_rfl) (by kernel_rfl) (by kernel_rfl) (fun _ _ _ h => h) (Or.inl ⟨by rfl, ?_⟩) H8.out ?_
            rotate_left 1
            · intro w hw; obtain s0 := hw; have k0 := HMQ.out; go_simp; try (with_reducible rfl)
            simp only [Act.put, List.setIfInBounds_toArray, List.set_cons_zero, List.set_cons_succ]
            refine wpAnyH_take (i := 20) (oi := { dst := some 55, op := .pick (.tmp 42) (.tmp 54) (.const (.bool false)), type := 4, pos := "diff.go:69", after := #[{ on := 7, ground := .data }, { on := 19, ground := .data }], guard := none }) (v := ?_) rfl (by kernel_rfl) (by kernel_rfl) (by kernel_rfl) (fun _ _ _ h => h) (Or.inl ⟨by rfl, ?_⟩) H8.out ?_
            rotate_left 1
            · intro w hw; obtain s0 := hw; go_simp; try (with_reducible rfl)
            simp only [Act.put, List.setIfInBounds_toArray, List.set_cons_zero, List.set_cons_succ]
            refine wpAnyH_done (by kernel_rfl) ?_ _

            cases mq with
            | false =>
              obtain rfl : q = true := by have := HMQ.out; simpa using this
              have HX := Lib.hid (show tk (k + 1) = T1 by rw [HTQ.out, if_neg (by simp)])
              go_wp2
              go_roundg g1
              case measure => omega
              case rel => exact ⟨k + 1, by omega, by go_num, HWt.out.1.trans (H8.out.mono HWt.out.1.size), by rw [HX.out, HN1.out]; exact own_below HWt.out.2 H8.out (Nat.le_refl _)⟩
            | true =>
              obtain rfl : q = false := by have := HMQ.out; simpa using this
              have HX := Lib.hid (show tk (k + 1) = T1 ++ [⟨4, k, true, true⟩] by rw [HTQ.out, if_pos rfl])
              have HX2 := Lib.hid (show (tk (k + 1)).length = n1 + 1 by rw [HX.out, List.length_append, HN1.out]; rfl)
              have HW8 := Lib.hid (And.intro (HWt.out.1.trans (H8.out.mono HWt.out.1.size)) (own_below HWt.out.2 H8.out (Nat.le_refl _)))
              go_wp2_with (first
                | (at_builtin; refine wpList_append_vary rfl (.tmp 56) (.tmp 59) 53 rfl w2.heap.size 57 i0 (.agg #[.int .i64 0, .int .i64 0, .bool false, .bool false]) 4 24 Tryd.underlying53 hi hz0 hz1 hz2 rfl (by decide) (.slice sp2 n1 cap2) n1 _ rfl (HW8.out.2.alloc _) (some ⟨w8.heap.size, 0, none⟩) 1 1 [.int .i64 4, .int .i64 (k : Nat), .bool true, .bool true] rfl rfl (fun h => nomatch h) (fun ad h => by obtain rfl := Option.some.inj h; exact four_newE _ _ _ _ _ _) (by simp [Value.oneCell']) (by have := HTT.out; unfold maxLen; omega) (by have := HTT.out; omega) (by have := HW8.out.1.size; simp; omega) ?_; intro v' w4 hown' hgrow hat; obtain ⟨sp3, cap3, rfl⟩ := own_val hown'; have H4 := Lib.hid (And.intro (Below.grown (below_alloc HW8.out.1 (Nat.le_refl _) _) hgrow (by have := HW8.out.1.size; simp; omega) (fun j e => own_ge HW8.out.2 j e)) hown'); clear hown' hgrow hat)
                | fail)
              go_roundg g1
              case measure => omega
              case rel =>
                refine ⟨k + 1, by omega, by go_num, H4.out.1, ?_⟩
                have h4 := H4.out.2
                rw [HX2.out, HX.out, turnRow_snoc]
                exact h4
          · have HKL := Lib.hid (show ¬ (k : Int) < min (na : Int) (nb : Int) by omega)
            have HTQ := Lib.hid (show tk (k + 1) = T1 by
              rw [HTK.out]
              unfold mQ
              rw [if_neg (fun h => hin ⟨h.1, h.2.1⟩), List.append_nil])
            clear hin
            go_upto_region 9 with fail
            have HDN := Lib.hid (show Below wc.heap.size wc wc.drew from below_dn (Below.refl _ _) 1)
            refine wp_region_held_drew (S := fun w' => Below wc.heap.size wc w') (by kernel_rfl) HDN.out (fun hS => ?_)
            refine wpAnyH_take (i := 0) (oi := { dst := some 35, op := .move (.tmp 8), type := 3, pos := "diff.go:69", after := #[], guard := none }) (v := ?_) rfl (by kernel_rfl) (by kernel_rfl) (by kernel_rfl) (fun _ _ _ h => h) (Or.inl ⟨by rfl, ?_⟩) hS ?_
            rotate_left 1
            · intro w hw; obtain s0 := hw; go_simp; try (with_reducible rfl)
            simp only [Act.put, List.setIfInBounds_toArray, List.set_cons_zero, List.set_cons_succ]
            refine wpAnyH_take (i := 1) (oi := { dst := some 36, op := .move (.tmp 0), type := 23, pos := "diff.go:69", after := #[], guard := none }) (v := ?_) rfl (by kernel_rfl) (by kernel_rfl) (by kernel_rfl) (fun _ _ _ h => h) (Or.inl ⟨by rfl, ?_⟩) hS ?_
            rotate_left 1
            · intro w hw; obtain s0 := hw; go_simp; try (with_reducible rfl)
            simp only [Act.put, List.setIfInBounds_toArray, List.set_cons_zero, List.set_cons_succ]
            refine wpAnyH_take (i := 2) (oi := { dst := some 37, op := .call { callee := .builtin .len, args := #[.tmp 36], argTypes := #[23] }, type := 3, pos := "diff.go:69", after := #[{ on := 1, ground := .data }], guard := none }) (v := ?_) rfl (by kernel_rfl) (by kernel_rfl) (by kernel_rfl) (fun _ _ _ h => h) (Or.inl ⟨by rfl, ?_⟩) hS ?_
            rotate_left 1
            · intro w hw; obtain s0 := hw; go_simp; try (with_reducible rfl)
            simp only [Act.put, List.setIfInBounds_toArray, List.set_cons_zero, List.set_cons_succ]
            refine wpAnyH_take (i := 3) (oi := { dst := some 38, op := .move (.tmp 1), type := 23, pos := "diff.go:69", after := #[], guard := none }) (v := ?_) rfl (by kernel_rfl) (by kernel_rfl) (by kernel_rfl) (fun _ _ _ h => h) (Or.inl ⟨by rfl, ?_⟩) hS ?_
            rotate_left 1
            · intro w hw; obtain s0 := hw; go_simp; try (with_reducible rfl)
            simp only [Act.put, List.setIfInBounds_toArray, List.set_cons_zero, List.set_cons_succ]
            refine wpAnyH_take (i := 4) (oi := { dst := some 39, op := .call { callee := .builtin .len, args := #[.tmp 38], argTypes := #[23] }, type := 3, pos := "diff.go:69", after := #[{ on := 3, ground := .data }], guard := none }) (v := ?_) rfl (by kernel_rfl) (by kernel_rfl) (by kernel_rfl) (fun _ _ _ h => h) (Or.inl ⟨by rfl, ?_⟩) hS ?_
            rotate_left 1
            · intro w hw; obtain s0 := hw; go_simp; try (with_reducible rfl)
            simp only [Act.put, List.setIfInBounds_toArray, List.set_cons_zero, List.set_cons_succ]
            refine wpAnyH_take (i := 5) (oi := { dst := some 40, op := .call { callee := .builtin .min, args := #[.tmp 37, .tmp 39], argTypes := #[3, 3] }, type := 3, pos := "diff.go:69", after := #[{ on := 2, ground := .data }, { on := 4, ground := .data }], guard := none }) (v := (.int .i64 (min (na : Int) (nb : Int)))) rfl (by kernel_rfl) (by kernel_rfl) (by kernel_rfl) (fun _ _ _ h => h) (Or.inl ⟨by rfl, ?_⟩) hS ?_
            · intro w hw; obtain s0 := hw; have k0 := HAB.out; go_simp; (try split) <;> omega
            simp only [Act.put, List.setIfInBounds_toArray, List.set_cons_zero, List.set_cons_succ]
            refine wpAnyH_take (i := 6) (oi := { dst := some 41, op := .binOp .lss 3 (.tmp 35) (.tmp 40) 3, type := 4, pos := "diff.go:69", after := #[{ on := 0, ground := .data }, { on := 5, ground := .data }], guard := none }) (v := (.bool false)) rfl (by kernel_rfl) (by kernel_rfl) (by kernel_rfl) (fun _ _ _ h => h) (Or.inl ⟨by rfl, ?_⟩) hS ?_
            · intro w hw; obtain s0 := hw; have k0 := HKL.out; go_simp
            simp only [Act.put, List.setIfInBounds_toArray, List.set_cons_zero, List.set_cons_succ]
            refine wpAnyH_take (i := 7) (oi := { dst := some 42, op := .move (.tmp 41), type := 4, pos := "diff.go:69", after := #[{ on := 6, ground := .data }], guard := none }) (v := ?_) rfl (by kernel_rfl) (by kernel_rfl) (by kernel_rfl) (fun _ _ _ h => h) (Or.inl ⟨by rfl, ?_⟩) hS ?_
            rotate_left 1
            · intro w hw; obtain s0 := hw; go_simp; try (with_reducible rfl)
            simp only [Act.put, List.setIfInBounds_toArray, List.set_cons_zero, List.set_cons_succ]
            refine wpAnyH_take (i := 8) (oi := { dst := some 43, op := .move (.tmp 0), type := 23, pos := "diff.go:69", after := #[{ on := 7, ground := .guard }], guard := some (7, true) }) (v := undef) rfl (by kernel_rfl) (by kernel_rfl) (by kernel_rfl) (fun _ _ _ h => h) (Or.inr ⟨by rfl, rfl⟩) hS ?_
            simp only [Act.put, List.setIfInBounds_toArray, List.set_cons_zero, List.set_cons_succ]
            refine wpAnyH_take (i := 9) (oi := { dst := some 44, op := .move (.tmp 8), type := 3, pos := "diff.go:69", after := #[{ on := 7, ground := .guard }], guard := some (7, true) }) (v := undef) rfl (by kernel_rfl) (by kernel_rfl) (by kernel_rfl) (fun _ _ _ h => h) (Or.inr ⟨by rfl, rfl⟩) hS ?_
            simp only [Act.put, List.setIfInBounds_toArray, List.set_cons_zero, List.set_cons_succ]
            refine wpAnyH_take (i := 10) (oi := { dst := some 45, op := .indexAddr 23 (.tmp 43) (.tmp 44), type := 0, pos := "diff.go:69", after := #[{ on := 8, ground := .data }, { on := 9, ground := .data }, { on := 7, ground := .guard }], guard := some (7, true) }) (v := undef) rfl (by kernel_rfl) (by kernel_rfl) (by kernel_rfl) (fun _ _ _ h => h) (Or.inr ⟨by rfl, rfl⟩) hS ?_
            simp only [Act.put, List.setIfInBounds_toArray, List.set_cons_zero, List.set_cons_succ]
            refine wpAnyH_take (i := 11) (oi := { dst := some 46, op := .fieldAddr 68 (.tmp 45) 1, type := 0, pos := "diff.go:69", after := #[{ on := 10, ground := .data }, { on := 7, ground := .guard }], guard := some (7, true) }) (v := undef) rfl (by kernel_rfl) (by kernel_rfl) (by kernel_rfl) (fun _ _ _ h => h) (Or.inr ⟨by rfl, rfl⟩) hS ?_
            simp only [Act.put, List.setIfInBounds_toArray, List.set_cons_zero, List.set_cons_succ]
            refine wpAnyH_take (i := 12) (oi := { dst := some 47, op := .load 66 (.tmp 46), type := 66, pos := "diff.go:69", after := #[{ on := 11, ground := .data }, { on := 7, ground := .guard }], guard := some (7, true) }) (v := undef) rfl (by kernel_rfl) (by kernel_rfl) (by kernel_rfl) (fun _ _ _ h => h) (Or.inr ⟨by rfl, rfl⟩) hS ?_
            simp only [Act.put, List.setIfInBounds_toArray, List.set_cons_zero, List.set_cons_succ]
            refine wpAnyH_take (i := 13) (oi := { dst := some 48, op := .move (.tmp 1), type := 23, pos := "diff.go:69", after := #[{ on := 7, ground := .guard }], guard := some (7, true) }) (v := undef) rfl (by kernel_rfl) (by kernel_rfl) (by kernel_rfl) (fun _ _ _ h => h) (Or.inr ⟨by rfl, rfl⟩) hS ?_
            simp only [Act.put, List.setIfInBounds_toArray, List.set_cons_zero, List.set_cons_succ]
            refine wpAnyH_take (i := 14) (oi := { dst := some 49, op := .move (.tmp 8), type := 3, pos := "diff.go:69", after := #[{ on := 7, ground := .guard }], guard := some (7, true) }) (v := undef) rfl (by kernel_rfl) (by kernel_rfl) (by kernel_rfl) (fun _ _ _ h => h) (Or.inr ⟨by rfl, rfl⟩) hS ?_
            simp only [Act.put, List.setIfInBounds_toArray, List.set_cons_zero, List.set_cons_succ]
            refine wpAnyH_take (i := 15) (oi := { dst := some 50, op := .indexAddr 23 (.tmp 48) (.tmp 49), type := 0, pos := "diff.go:69", after := #[{ on := 13, ground := .data }, { on := 14, ground := .data }, { on := 7, ground := .guard }], guard := some (7, true) }) (v := undef) rfl (by kernel_rfl) (by kernel_rfl) (by kernel_rfl) (fun _ _ _ h => h) (Or.inr ⟨by rfl, rfl⟩) hS ?_
            simp only [Act.put, List.setIfInBounds_toArray, List.set_cons_zero, List.set_cons_succ]
            refine wpAnyH_take (i := 16) (oi := { dst := some 51, op := .fieldAddr 68 (.tmp 50) 1, type := 0, pos := "diff.go:69", after := #[{ on := 15, ground := .data }, { on := 7, ground := .guard }], guard := some (7, true) }) (v := undef) rfl (by kernel_rfl) (by kernel_rfl) (by kernel_rfl) (fun _ _ _ h => h) (Or.inr ⟨by rfl, rfl⟩) hS ?_
            simp only [Act.put, List.setIfInBounds_toArray, List.set_cons_zero, List.set_cons_succ]
            refine wpAnyH_take (i := 17) (oi := { dst := some 52, op := .load 66 (.tmp 51), type := 66, pos := "diff.go:69", after := #[{ on := 16, ground := .data }, { on := 7, ground := .guard }], guard := some (7, true) }) (v := undef) rfl (by kernel_rfl) (by kernel_rfl) (by kernel_rfl) (fun _ _ _ h => h) (Or.inr ⟨by rfl, rfl⟩) hS ?_
            simp only [Act.put, List.setIfInBounds_toArray, List.set_cons_zero, List.set_cons_succ]
            refine wpAnyH_take (i := 18) (oi := { dst := some 53, op := .call { callee := .value (.func 75), args := #[.tmp 47, .tmp 52], argTypes := #[66, 66] }, type := 4, pos := "diff.go:69", after := #[{ on := 12, ground := .data }, { on := 17, ground := .data }, { on := 7, ground := .chain }, { on := 7, ground := .guard }], guard := some (7, true) }) (v := undef) rfl (by kernel_rfl) (by kernel_rfl) (by kernel_rfl) (fun _ _ _ h => h) (Or.inr ⟨by rfl, rfl⟩) hS ?_
            simp only [Act.put, List.setIfInBounds_toArray, List.set_cons_zero, List.set_cons_succ]
            refine wpAnyH_take (i := 19) (oi := { dst := some 54, op := .unOp .not 4 (.tmp 53), type := 4, pos := "diff.go:69", after := #[{ on := 18, ground := .data }, { on := 7, ground := .guard }], guard := some (7, true) }) (v := undef) rfl (by kernel_rfl) (by kernel_rfl) (by kernel_rfl) (fun _ _ _ h => h) (Or.inr ⟨by rfl, rfl⟩) hS ?_
            simp only [Act.put, List.setIfInBounds_toArray, List.set_cons_zero, List.set_cons_succ]
            refine wpAnyH_take (i := 20) (oi := { dst := some 55, op := .pick (.tmp 42) (.tmp 54) (.const (.bool false)), type := 4, pos := "diff.go:69", after := #[{ on := 7, ground := .data }, { on := 19, ground := .data }], guard := none }) (v := ?_) rfl (by kernel_rfl) (by kernel_rfl) (by kernel_rfl) (fun _ _ _ h => h) (Or.inl ⟨by rfl, ?_⟩) hS ?_
            rotate_left 1
            · intro w hw; obtain s0 := hw; go_simp; try (with_reducible rfl)
            simp only [Act.put, List.setIfInBounds_toArray, List.set_cons_zero, List.set_cons_succ]
            refine wpAnyH_done (by kernel_rfl) ?_ _

            go_wp2
            go_roundg g1
            case measure => omega
            case rel => exact ⟨k + 1, by omega, by go_num, HWt.out.1.trans (HDN.out.mono HWt.out.1.size), by rw [HTQ.out, HN1.out]; exact own_below HWt.out.2 HDN.out (Nat.le_refl _)⟩
end Go.Proofs.YtknkhigmokooaaaDoor
