/- The contracts of demand's Work of several terms, and of the reference's Sum. -/
import Derived.Test.YtmaackdfhmpicaaXB
import Derived.Test.YtmaackdfhmpicaaXC
import Derived.Test.YtmaackdfhmpicaaVS
namespace Go.Proofs.Ytmaackdfhmpicaa
open Go.RowKit

structure Tm where
  per : Int
  cost : Int
  off : Int
  car : Int
instance : Inhabited Tm := ⟨⟨0, 0, 0, 0⟩⟩
def tmC (t : Tm) : List Value := [.int .i64 t.per, .int .i64 t.cost, .int .i64 t.off, .int .i64 t.car]
def tmB (t : Tm) (n : Int) : Bool := workB t.per t.cost t.off t.car n
def tmN (t : Tm) (n : Int) : Int := workN t.per t.cost t.off t.car n
/-- What the sum is handed: a term's work, or no number. -/
def wI (n : Int) (t : Tm) : Int := if tmB t n then tmN t n else -1
structure TermsAt (w : World) (V : Nat → Prop) (S : Src) (l : List Tm) : Prop where
  sl : SlAt w V S l.length
  at_ : ∀ k, k < l.length → At w S.b (S.o + k * 4) (tmC (l.getD k default))
theorem TermsAt.keep {V : Nat → Prop} {w w' : World} {S : Src} {l : List Tm} (h : TermsAt w V S l) (c : Ch V w w') : TermsAt w' V S l :=
  ⟨h.sl.keep c, fun k hk => (h.at_ k hk).keep c (h.sl.at_ (by omega)).2.2⟩
theorem TermsAt.new {V : Nat → Prop} {w w' : World} {S : Src} {l : List Tm} (h : TermsAt w V S l) (hb : Below w.heap.size w w') : TermsAt w' V S l := h.keep (Ch.new hb)

theorem equalIn_func_nil (d gf : Nat) (lb : Array Value) (w : World) : (Op.equalIn (d + 1) 92 (.func (.func gf) #[] lb) .nilFunc).run Try.prog w = .ok false w := by
  have ht : Try.prog.underlying 92 = some (.func #[76] #[] false) := by kernel_rfl
  simp [Op.equalIn, run_underlying ht]
theorem eql_func_nil (gf : Nat) (lb : Array Value) (w : World) : (Go.binOp .eql 92 (.func (.func gf) #[] lb) .nilFunc).run Try.prog w = .ok (.bool false) w := by
  have h : (Op.equal 92 (.func (.func gf) #[] lb) .nilFunc).run Try.prog w = .ok false w := equalIn_func_nil 9999 gf lb w
  simp [Go.binOp, h]
theorem sum_of (gf : Nat) (lb : Array Value) (xs : List Int) (w : World) (h : Calls Try.prog 74 #[.func (.func gf) #[] lb] w fun e w' => e = resOf xs ∧ Below w.heap.size w w') :
    Calls Try.prog 62 #[.func (.func gf) #[] lb] w fun e w' => e = resOf xs ∧ Below w.heap.size w w' := by
  unfold resOf at h ⊢
  have hne := eql_func_nil gf lb
  go_enter Try.func62, Try.ntmps62
  go_wp2_with (go_at_call 74; refine h.mono ?_; rintro e w' ⟨rfl, hb⟩)
  go_ret2
  exact ⟨rfl, hb⟩

set_option maxRecDepth 100000 in
/-- demand.Work's closure. -/
theorem dwork_in (l Bl Bt b o c : Nat) (sp : Option Addr) (L : List Tm) (n : Int) (T : Nat → Prop) (J Jx : Nat → World → Prop) (W : World)
    (hsm : L.length ≤ 9223372036854775807) (hsp : 0 < L.length → sp = some ⟨b, o, none⟩)
    (hJ : ∀ k W W', J k W → Ch (fun _ => False) W W' → J k W')
    (hbox : ∀ k W', J k W' → W'.cell? ⟨Bl, 0, none⟩ = some (.slice sp L.length c) ∧ W'.cell? ⟨Bt, 0, none⟩ = some (.int .i64 n))
    (hcell : ∀ k W', J k W' → k < L.length → At W' b (o + k * 4) (tmC (L.getD k default)))
    (hR : Rounds Try.prog l L.length (fun k => #[.int .i64 (nth (L.map (wI n)) k)]) T J Jx) (h0 : J 0 W) :
    IterX Try.prog 63 #[.pointer (some ⟨Bl, 0, none⟩), .pointer (some ⟨Bt, 0, none⟩)] l L.length (fun k => #[.int .i64 (nth (L.map (wI n)) k)]) T J Jx W := by
  refine callsIn_of_wp Try.func63 rfl trivial ?_ rfl
  simp only [Try.ntmps63, List.size_toArray, List.length_cons, List.length_nil, Nat.reduceAdd, Nat.reduceSub, Array.replicate_succ, Array.replicate_zero, List.push_toArray, List.append_toArray, List.nil_append, List.cons_append]
  have hb0 := (hbox 0 W h0).1
  obtain ⟨N, hN⟩ : ∃ N, L.length = N := ⟨_, rfl⟩
  have HB := Lib.hid hbox
  have HC := Lib.hid hcell
  have HS := Lib.hid hsp
  have HJ := Lib.hid hJ
  have HRR := Lib.hid hR
  rw [hN] at HB
  rw [hN] at HS
  rw [hN] at HC HRR hsm
  have hNth := Lib.hid (show ∀ k, k < N → nth (L.map (wI n)) k = wI n (L.getD k default) from fun k hk => by
    have hk' : k < L.length := by omega
    simp [nth, hk'])
  rw [hN]
  rw [hN] at hb0
  clear hbox hcell hsp hJ hR hN
  gi_wp2
  clear hb0
  gi_loopw [10] (fun i wr => ∃ k : Nat, k ≤ N ∧ i = .int .i64 k ∧ J k wr) (fun i _ => N - (intOf i).toNat)
  case atStart => exact ⟨0, Nat.zero_le _, rfl, h0⟩
  case round =>
    obtain ⟨k, hk, rfl, hj⟩ := hrel
    by_cases hlt : k < N
    · have hc := HC.out k wr hj hlt
      have hna := hNth.out k hlt
      obtain ⟨t, ht⟩ : ∃ t, L.getD k default = t := ⟨_, rfl⟩
      rw [ht] at hc hna
      obtain ⟨P, C, O, K⟩ := t
      have hT := Lib.hid (fun wx => twork_any P C O K n wx)
      have hna3 : wI n ⟨P, C, O, K⟩ = if workB P C O K n then workN P C O K n else -1 := rfl
      rw [hna3] at hna
      clear hna3
      generalize workN P C O K n = m at hT hna
      generalize workB P C O K n = q at hT hna
      obtain rfl := HS.out (by omega)
      have c0 : wr.cell? ⟨b, o + k * 4, none⟩ = some (.int .i64 P) := hc 0 _ rfl
      have c1 : wr.cell? ⟨b, o + k * 4 + 1, none⟩ = some (.int .i64 C) := hc 1 _ rfl
      have c2 : wr.cell? ⟨b, o + k * 4 + 2, none⟩ = some (.int .i64 O) := hc 2 _ rfl
      have c3 : wr.cell? ⟨b, o + k * 4 + 3, none⟩ = some (.int .i64 K) := hc 3 _ rfl
      have cb0 := (HB.out k wr hj).2
      have cb : (wr.alloc (.cells #[.int .i64 P, .int .i64 C, .int .i64 O, .int .i64 K] 69)).cell? ⟨Bt, 0, none⟩ = some (.int .i64 n) := (((Below.refl _ wr).alloc (Nat.le_refl _) _).cell (p := ⟨Bt, 0, none⟩) (World.block_lt_of_cell? _ _ cb0)).trans cb0
      clear cb0
      have hk2 : (k : Int) < (N : Int) := by omega
      have hk3 : (k : Int) + 1 ≤ 9223372036854775807 := by omega
      have HX := Lib.hid hj
      have HN := Lib.hid hna
      clear hc ht hj hna
      cases q
      · have HN1 := Lib.hid (show nth (L.map (wI n)) k = -1 from HN.out)
        clear HN HS
        gi_wp2_with (first
          | (refine ⟨trivial, rfl, ?_⟩; gi_at_call 64; refine (callsIn_wide.2 (hT.out _)).mono ?_; rintro e w4 ⟨rfl, b4⟩; have hR4 := HRR.out k w4 (HJ.out _ _ _ HX.out ((Ch.new ((Below.refl _ _).alloc (Nat.le_refl _) _)).trans (Ch.new b4))) hlt; dsimp only at hR4; rw [HN1.out] at hR4; obtain ⟨fn, tmps, assign, body, hy, hRo⟩ := hR4; clear c0 c1 c2 c3 cb b4)
          | fail)
        refine ⟨rfl, hRo.mono ?_⟩
        rintro e W3 (⟨rfl, hJ3, hc3⟩ | ⟨rfl, hJx3⟩)
        · gi_wp2
          go_roundw
          case rel => exact ⟨k + 1, by omega, by go_num, hJ3⟩
          case measure => simp [intOf]; omega
        · gi_wp2
          refine bodyPost_ret (results_none rfl _ _ _) rfl ?_
          exact ⟨⟨_, rfl⟩, .inr ⟨k + 1, by omega, hJx3⟩⟩
      · have HN1 := Lib.hid (show nth (L.map (wI n)) k = m from HN.out)
        clear HN HS
        gi_wp2_with (first
          | (refine ⟨trivial, rfl, ?_⟩; gi_at_call 64; refine (callsIn_wide.2 (hT.out _)).mono ?_; rintro e w4 ⟨rfl, b4⟩; have hR4 := HRR.out k w4 (HJ.out _ _ _ HX.out ((Ch.new ((Below.refl _ _).alloc (Nat.le_refl _) _)).trans (Ch.new b4))) hlt; dsimp only at hR4; rw [HN1.out] at hR4; obtain ⟨fn, tmps, assign, body, hy, hRo⟩ := hR4; clear c0 c1 c2 c3 cb b4)
          | fail)
        refine ⟨rfl, hRo.mono ?_⟩
        rintro e W3 (⟨rfl, hJ3, hc3⟩ | ⟨rfl, hJx3⟩)
        · gi_wp2
          go_roundw
          case rel => exact ⟨k + 1, by omega, by go_num, hJ3⟩
          case measure => simp [intOf]; omega
        · gi_wp2
          refine bodyPost_ret (results_none rfl _ _ _) rfl ?_
          exact ⟨⟨_, rfl⟩, .inr ⟨k + 1, by omega, hJx3⟩⟩
    · obtain rfl : k = N := by omega
      gi_wp2
      go_end0
      exact ⟨⟨_, rfl⟩, .inl hj⟩
end Go.Proofs.Ytmaackdfhmpicaa
