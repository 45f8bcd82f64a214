/- The contracts of slices' Clone on sections, and of job's Sections. -/
import Derived.Test.YtcipkkeegbfaeaaXI
import Derived.Test.YtcipkkeegbfaeaaVary
namespace Go.Proofs.Ytcipkkeegbfaeaa
open Go.RowKit

theorem addB (a : Addr) (j : Nat) : (a.add j).block = a.block := by unfold Addr.add; split <;> rfl
theorem infoSc : (Try.prog.info? 99).map (fun i => (i.zero, i.size, i.bytes)) = some (some (.agg #[.int .i64 0, .int .i64 0, .int .i64 0]), 3, 24) := by kernel_rfl
theorem eqSlS_in (d : Nat) (sp : Option Addr) (n c : Nat) (w : World) : (Op.equalIn (d + 1) 63 (.slice sp n c) (.slice none 0 0)).run Try.prog w = .ok sp.isNone w := by
  have ht : Try.prog.underlying 63 = some (.slice 99) := by kernel_rfl
  cases sp <;> simp [Op.equalIn, run_underlying ht]
theorem eqSlS (sp : Option Addr) (n c : Nat) (w : World) : (Go.binOp .eql 63 (.slice sp n c) (.slice none 0 0)).run Try.prog w = .ok (.bool sp.isNone) w := by
  have h : (Op.equal 63 (.slice sp n c) (.slice none 0 0)).run Try.prog w = .ok sp.isNone w := eqSlS_in 9999 sp n c w
  simp [Go.binOp, h]
theorem app_firstS {w w1 : World} {n : Nat} {L : List Value} {v1 : Value} (hown : w1.ownsRow w.heap.size 99 3 v1 (0 + n) ([] ++ L)) (hg : (w.alloc (.cells #[] 99)).grownBy w1 (Value.slice (some ⟨w.heap.size, 0, none⟩) 0 0).ownBlock) :
    w1.ownsRow w.heap.size 99 3 v1 n L ∧ Below w.heap.size w w1 := by
  rw [Nat.zero_add, List.nil_append] at hown
  have hb : Below w.heap.size w (w.alloc (.cells #[] 99)) := (Below.refl _ _).alloc (Nat.le_refl _) _
  exact ⟨hown, hb.grown hg (by rw [size_add]; omega) (fun j e => by simp [Value.ownBlock] at e; omega)⟩
set_option maxHeartbeats 1000000 in
theorem cloneS_any {w : World} (sp : Option Addr) (n c : Nat) (news : List Value) (hl : news.length = n * 3) (hno : sp = none → n = 0) (hsrc : ∀ ad, sp = some ad → ∀ j u, news[j]? = some u → ad.block < w.heap.size ∧ w.cell? (ad.add j) = some u) (h1 : ∀ u ∈ news, u.oneCell' = true) (hn : n ≤ 1000) :
    Calls Try.prog 78 #[.slice sp n c] w fun e w' => ∃ v, e = .returned v ∧ w'.ownsRow w.heap.size 99 3 v n news ∧ Below w.heap.size w w' := by
  obtain ⟨i0, hi, hz0, hz1, hz2⟩ := info_parts infoSc
  cases sp with
  | none =>
    obtain rfl := hno rfl
    obtain rfl : news = [] := List.length_eq_zero_iff.1 (by omega)
    have hq := fun w => eqSlS none 0 c w
    clear hl hno hsrc h1
    go_enter Try.func78, Try.ntmps78
    go_wp2
    go_ret
    exact ⟨_, rfl, World.ownsRow_nil _ _ _ _, Below.refl _ _⟩
  | some ad =>
    have HO := Lib.hid (own_fresh w w.heap.size 99 3 (Nat.le_refl _))
    have ha : Below w.heap.size w (w.alloc (.cells #[] 99)) := (Below.refl _ _).alloc (Nat.le_refl _) _
    have HSRC := Lib.hid (show ∀ ad', some ad = some ad' → ∀ j u, news[j]? = some u → (w.alloc (.cells #[] 99)).cell? (ad'.add j) = some u from fun ad' hd j u hu => by
      obtain ⟨hb, hc⟩ := hsrc ad rfl j u hu
      rw [← Option.some.inj hd]
      exact (ha.cell (p := ad.add j) (by rw [addB]; exact hb)).trans hc)
    have HLEN := Lib.hid (And.intro hl h1)
    have hq := fun w => eqSlS (some ad) n c w
    clear hl hno hsrc h1 ha
    go_enter Try.func78, Try.ntmps78
    go_wp2_with (at_builtin; refine wpList_append_vary rfl (.tmp 5) (.tmp 6) 63 rfl w.heap.size 99 i0 (.agg #[.int .i64 0, .int .i64 0, .int .i64 0]) 3 24 Try.underlying63 hi hz0 hz1 hz2 rfl (by decide) _ 0 [] rfl HO.out _ n _ news rfl HLEN.out.1 (fun h => by cases h) HSRC.out HLEN.out.2 (by unfold maxLen; omega) (by omega) (by rw [size_add]; omega) ?_; intro v1 w1 hown1 hg1 hat1; have H1 := Lib.hid (app_firstS hown1 hg1); clear hown1 hg1 hat1)
    go_ret
    exact ⟨_, rfl, H1.out.1, H1.out.2⟩

/-- The sections of a list, as cells. -/
def secR (L : Nat → Sec) (n : Nat) : List Value := rowsOf (fun k => secC (L k)) n
/-- Where Sections' things lie: from lo on. -/
structure SecsIn (w : World) (lo Ob Tb Cb : Nat) (a0 a1 a2 : Int) (lon : Nat → Int) (cost : Int) (S : Src) (n : Nat) (L : Nat → Sec) : Prop where
  t : RowAt w Tb 62 (task11 a0 a1 a2 lon)
  c : w.cell? ⟨Cb, 0, none⟩ = some (.int .i64 cost)
  o : w.cell? ⟨Ob, 0, none⟩ = some (.slice S.sp n S.c)
  sp : 0 < n → S.sp = some ⟨S.b, S.o, none⟩
  e : ∀ k, k < n → At w S.b (S.o + k * 3) (secC (L k))
  lT : lo ≤ Tb
  lC : lo ≤ Cb
  lO : lo ≤ Ob
  lS : 0 < n → lo ≤ S.b
theorem SecsIn.new {w w' : World} {lo Ob Tb Cb : Nat} {a0 a1 a2 : Int} {lon : Nat → Int} {cost : Int} {S : Src} {n : Nat} {L : Nat → Sec} (h : SecsIn w lo Ob Tb Cb a0 a1 a2 lon cost S n L) (hb : Below w.heap.size w w') : SecsIn w' lo Ob Tb Cb a0 a1 a2 lon cost S n L := by
  have hc : Ch (fun _ => False) w w' := Ch.new hb
  exact ⟨h.t.new hb, hc.cell h.c (fun h => h), hc.cell h.o (fun h => h), h.sp, fun k hk => (h.e k hk).keep hc (fun h => h), h.lT, h.lC, h.lO, h.lS⟩
theorem secs_rows (L : Nat → Sec) : ∀ k, (secC (L k)).length = 3 := fun _ => rfl
theorem secs_start {w w1 w2 : World} {a0 a1 a2 : Int} {lon : Nat → Int} {cost : Int} {v : Value} {n : Nat} {L : Nat → Sec} (hn : n ≤ 1000)
    (hw1 : w1 = (w.alloc (.cells (task11 a0 a1 a2 lon) 62)).alloc (.cells #[.int .i64 cost] 3))
    (ho : w2.ownsRow w1.heap.size 99 3 v n (secR L n)) (hb : Below w1.heap.size w1 w2) :
    ∃ S : Src, v = .slice S.sp n S.c ∧ Below w.heap.size w (w2.alloc (.cells #[v] 63)) ∧ SecsIn (w2.alloc (.cells #[v] 63)) w.heap.size w2.heap.size w.heap.size (w.heap.size + 1) a0 a1 a2 lon cost S n L := by
  obtain ⟨S, rfl, h1, h2⟩ := own_rows ho (fun k _ => secs_rows L k) (by omega)
  have z1 : w1.heap.size = w.heap.size + 2 := by rw [hw1]; simp
  have hb2 : Below w1.heap.size w1 (w2.alloc (.cells #[.slice S.sp n S.c] 63)) := hb.alloc hb.size _
  have h3 := two_alloc (w := w) (a := task11 a0 a1 a2 lon) (b := #[.int .i64 cost]) (ta := 62) (tb := 3) (by rw [← hw1]; exact hb2)
  refine ⟨S, rfl, h3.1, h3.2.1, h3.2.2.cell 0, (RowAt.mk w2 63 _).cell 0, fun h0 => (h1 h0).1, fun k hk => ?_, Nat.le_refl _, by omega, by have := hb.size; omega, fun h0 => by have := (h1 h0).2.1; omega⟩
  have hc : Ch (fun _ => False) w2 (w2.alloc (.cells #[.slice S.sp n S.c] 63)) := (Ch.refl _ _).alloc _
  exact (h2 k hk).keep hc (fun h => h)
set_option maxHeartbeats 2000000 in
theorem Sections_any (a0 a1 a2 : Int) (f : Nat → Int) (cost : Int) (S : Src) (n : Nat) (L : Nat → Sec) (w : World) (hn : n ≤ 1000)
    (hs : SlAt w (fun _ => False) S n) (he : ∀ k, k < n → At w S.b (S.o + k * 3) (secC (L k))) :
    Calls Try.prog 60 #[.agg #[.int .i64 a0, .int .i64 a1, .int .i64 a2, .int .i64 (f 0), .int .i64 (f 1), .int .i64 (f 2), .int .i64 (f 3), .int .i64 (f 4), .int .i64 (f 5), .int .i64 (f 6), .int .i64 (f 7)], .int .i64 cost, .slice S.sp n S.c] w
      fun e w' => ∃ Ob Tb Cb S', e = .returned (.func (.func 79) #[] #[.pointer (some ⟨Ob, 0, none⟩), .pointer (some ⟨Tb, 0, none⟩), .pointer (some ⟨Cb, 0, none⟩)]) ∧ Below w.heap.size w w' ∧ SecsIn w' w.heap.size Ob Tb Cb a0 a1 a2 f cost S' n L := by
  have hmf : ∀ (fn : Fn) (first cap : Array Value) (w : World), (Instr.makeFunc fn first cap).run Try.prog w = .ok (.func fn first cap) w := fun _ _ _ _ => rfl
  obtain ⟨w1, hw1⟩ : ∃ w1, w1 = (w.alloc (.cells (task11 a0 a1 a2 f) 62)).alloc (.cells #[.int .i64 cost] 3) := ⟨_, rfl⟩
  have hb1 : Below w.heap.size w w1 := by rw [hw1]; exact ((Below.refl _ w).alloc (Nat.le_refl _) _).alloc (by simp) _
  have HC := Lib.hid (cloneS_any (w := w1) S.sp n S.c (secR L n) (rowsOf_len n fun k _ => secs_rows L k) (fun hsp => Nat.eq_zero_of_not_pos fun hp => by rw [(hs.at_ hp).1] at hsp; cases hsp) (fun ad hd j u hu => by
    have hp : 0 < n := Nat.pos_of_ne_zero (fun h => by subst h; simp [secR, rowsOf] at hu)
    have ha := hs.at_ hp
    rw [ha.1] at hd
    obtain rfl := Option.some.inj hd
    have hsrc := rowsOf_src (sz := 3) (by decide) (fun k _ => secs_rows L k) he j u hu
    refine ⟨Nat.lt_of_lt_of_le ha.2.1 hb1.size, ?_⟩
    exact (hb1.cell (p := (⟨S.b, S.o, none⟩ : Addr).add j) (by rw [addB]; exact ha.2.1)).trans hsrc) (rowsOf_all fun k _ u hu => by
      simp only [secC, List.mem_cons, List.not_mem_nil, or_false] at hu; rcases hu with rfl | rfl | rfl <;> rfl) hn)
  have HW := Lib.hid (fun w2 v ho hb => secs_start (w2 := w2) (v := v) (L := L) hn hw1 ho hb)
  have hw1' : ((w.alloc (.cells #[.int .i64 a0, .int .i64 a1, .int .i64 a2, .int .i64 (f 0), .int .i64 (f 1), .int .i64 (f 2), .int .i64 (f 3), .int .i64 (f 4), .int .i64 (f 5), .int .i64 (f 6), .int .i64 (f 7)] 62)).alloc (.cells #[.int .i64 cost] 3)) = w1 := hw1.symm
  have HW1 := Lib.hid hw1'
  clear hs he hb1 hw1 hw1'
  obtain ⟨sp, sb, so, sc⟩ := S
  dsimp only at HC ⊢
  go_enter Try.func60, Try.ntmps60
  go_wp2_with (go_at_call 78; rw [HW1.out]; refine HC.out.mono ?_; rintro e w2 ⟨v, rfl, ho, hb⟩; obtain ⟨S', rfl, hb2, hs2⟩ := HW.out w2 v ho hb; have H2 := Lib.hid (And.intro hb2 hs2); clear ho hb hb2 hs2)
  go_ret
  exact ⟨_, _, _, _, rfl, H2.out.1, H2.out.2⟩
end Go.Proofs.Ytcipkkeegbfaeaa
