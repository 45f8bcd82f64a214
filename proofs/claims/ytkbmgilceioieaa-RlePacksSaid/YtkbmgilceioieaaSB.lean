/- The contract of the reference's Pack. -/
import Derived.Test.YtkbmgilceioieaaSA
namespace Go.Proofs.Ytkbmgilceioieaa
open Go.RowKit
attribute [local go_sem] Oper.semAt_some

/-- append at a step of a region that draws its order: onto a row that the call owns, of whatever many elements. -/
theorem step_append_at2 {P : Program} (w : World) {ops : Array Oper} {o : Oper} {a : Act} {K : Act → World → Prop} {Q : Exit → Act → World → Prop} {E : Prop} (hgd : o.guard = none) (s x : Operand) (t : TypeId)
    (ho : o.op = .call { callee := .builtin .append, args := #[s, x], argTypes := #[t, t] })
    (base : Nat) (e : TypeId) (i : TypeInfo) (z : Value) (size bytes : Nat) (ht : P.underlying t = some (.slice e)) (hi : P.info? e = some i) (hz : i.zero = some z)
    (hsize : i.size = size) (hby : i.bytes = bytes) (hzs : z.cells.size = size) (hsz : 0 < size)
    (v : Value) (n : Nat) (xs : List Value) (hs : a.eval s = v) (hown : w.ownsRow base e size v n xs)
    (ad : Addr) (m c : Nat) (news : List Value) (hx : a.eval x = .slice (some ad) m c) (hl : news.length = m * size) (hnews : ∀ j u, news[j]? = some u → w.cell? (ad.add j) = some u) (h1 : ∀ u ∈ news, u.oneCell' = true)
    (h63 : n + m ≤ maxLen) (hbytes : (n + m) * bytes ≤ 140737488355328) (hbase : base ≤ w.heap.size)
    (h : ∀ v' w', w'.ownsRow base e size v' (n + m) (xs ++ news) → w.grownBy w' v.ownBlock → (v'.ownBlock = v.ownBlock ∨ v'.ownBlock = some w.heap.size) → K (a.put o.dst v') w') :
    if Region.wanted o (yielded ops a.tmps) = true then Oper.wp P o a w K Q else E := by
  have hw : Region.wanted o (yielded ops a.tmps) = true := by simp [Region.wanted, hgd]
  rw [if_pos hw]
  obtain ⟨v', w', hr, h2, h3, h4, h5⟩ := run_append_own_at (P := P) w base t o.type e i z size bytes ht hi hz hsize hby hzs hsz v n xs hown ad m c news hl hnews h1 h63 hbytes hbase
  unfold Oper.wp execOp
  simp only [ho, resolve, invoke, builtin, Sem.run_bind, Sem.run_pure, Result.andThen_ok, List.map_toArray, List.map_cons, List.map_nil, hs, hx, hr]
  exact h v' w' h2 h3 h5

/-- Between two groups. -/
def RPI (w : World) (B : Nat) (l : List Nat) (a : Nat) (v : Value) (wr : World) : Prop :=
  ∃ pk, packS l = pk ++ packS (l.drop a) ∧ a ≤ l.length ∧ wr.ownsRow B 27 1 v pk.length (rowW pk) ∧ Below B w wr
theorem rpk_len {l pk : List Nat} {a : Nat} (h : packS l = pk ++ packS (l.drop a)) (hl : l.length ≤ 30000) : pk.length ≤ 50000 := by
  have h1 := congrArg List.length h
  rw [List.length_append] at h1
  have := (small_any l).1; omega

set_option maxHeartbeats 2000000 in
set_option maxRecDepth 100000 in
theorem rpack_any (l : List Nat) (sp : Option Addr) (b off cap : Nat) (w : World) (hl : SL w sp b off l) (hcap : l.length ≤ cap) (hlen : l.length ≤ 30000) :
    Calls Try.prog 42 #[.slice sp l.length cap] w fun e w' => ∃ v, e = .returned v ∧ w'.ownsRow w.heap.size 27 1 v (packS l).length (rowW (packS l)) ∧ Below w.heap.size w w' := by
  obtain ⟨i0, hi, hz0, hz1, hz2⟩ := info_parts info27
  have HL := Lib.hid (And.intro hl (fun h0 : 0 < l.length => hl.lt h0))
  obtain ⟨B, hB⟩ : ∃ B, w.heap.size = B := ⟨_, rfl⟩
  rw [hB]
  have HBe := Lib.hid hB
  clear hl hB
  go_enter Try.func42, Try.ntmps42
  go_wp2
  go_loopg [3, 4] l.length (fun g v av wr => ∃ a : Nat, a + g = l.length ∧ av = .int .i64 a ∧ Aside (RPI w B l a v wr))
  case atStart => exact ⟨0, by omega, rfl, [], by simp, by omega, World.ownsRow_nil _ _ _ _, Below.refl _ _⟩
  case round =>
    obtain ⟨a, hag, rfl, HR⟩ := hrel
    obtain ⟨pk, hpk, hal, hown, hbel⟩ := HR.out
    have hpl := rpk_len hpk hlen
    obtain ⟨sp1, cap1, rfl⟩ := own_val hown
    by_cases hlt : a < l.length
    · have d1 : (a : Int) < (l.length : Int) := by omega
      have d0 : (0 : Int) ≤ (a : Int) := by omega
      have d9 : (a : Int) ≤ 30000 := by omega
      have hsl := HL.out.1.below hbel (fun h0 => by rw [← HBe.out]; exact HL.out.2 h0)
      obtain rfl := HL.out.1.1 (by omega)
      have hT := Lib.hid (fun (i n : Nat) (hi : i ≤ 1000000) => three_any l i _ b off cap (wr.drewN n) (hsl.drewN n) (by omega) hi)
      have hT0 := Lib.hid (three_any l a _ b off cap wr hsl (by omega) (by omega))
      have HK := Lib.hid (And.intro hpk (And.intro hown (And.intro hbel hpl)))
      have HS := Lib.hid hsl
      clear hpk hown hbel hpl hsl HR
      rcases pack_step hlt with ⟨ht, hst⟩ | ⟨ht, hst⟩
      · rw [ht] at hT0
        have HST := Lib.hid hst
        clear hst
        have hne : l.drop a ≠ [] := by intro e; have := congrArg List.length e; simp at this; omega
        have hop := often_pos hne
        have hstop := often_stop hne
        have hole := often_le (l.drop a)
        have hat := often_at (l.drop a)
        rw [List.length_drop] at hstop hole
        simp only [nthW_drop, Nat.add_zero] at hstop hat
        obtain ⟨o, ho⟩ : ∃ o, often (l.drop a) = o := ⟨_, rfl⟩
        rw [ho] at hop hstop hole hat
        have HO := Lib.hid (And.intro ho (And.intro hstop hat))
        have c0 := HS.out.2 a hlt
        obtain ⟨x, hx⟩ : ∃ x, nthW l a = x := ⟨_, rfl⟩
        rw [hx] at c0
        have HX := Lib.hid hx
        clear hne hstop hat ho hx
        go_wp2_with (first
          | (go_at_call 66; refine hT0.out.mono ?_; clear hT0; rintro e w1 ⟨rfl, n1, rfl⟩)
          | fail)
        go_loopg [5] o (fun g v wr2 => ∃ n : Nat, n + g = o ∧ v = .int .i64 n ∧ Aside (∃ m, wr2 = wr.drewN m))
        case atStart => exact ⟨0, by omega, rfl, n1, rfl⟩
        case round =>
          obtain ⟨n, hng, rfl, HM⟩ := hrel
          obtain ⟨m, rfl⟩ := HM.out
          clear HM
          have i0' : (0 : Int) ≤ (a : Int) + (n : Int) := by omega
          have i9' : (a : Int) + (n : Int) ≤ 100000 := by omega
          have i8' : (n : Int) ≤ 4096 := by omega
          have i7' : (0 : Int) ≤ (n : Int) := by omega
          cases gk with
          | zero =>
            obtain rfl : n = o := by omega
            have hwn : IntKind.u32.wrap (n : Int) = (n : Int) := by rw [IntKind.wrap_u32]; omega
            have hwh : IntKind.u32.wrap (2147483648 + (n : Int)) = 2147483648 + (n : Int) := by rw [IntKind.wrap_u32]; omega
            have HOW := Lib.hid (fun (k : Nat) (o : Obj) => (show (wr.drewN k).ownsRow B 27 1 (.slice sp1 pk.length cap1) pk.length (rowW pk) from HK.out.2.1).alloc o)
            have HBW := Lib.hid (fun (k : Nat) (o : Obj) => Below.alloc (below_drewN HK.out.2.2.1 k) (by have := HK.out.2.2.1.size; rw [HBe.out] at this; exact this) o)
            have HTN := Lib.hid (fun (k : Nat) => (two_new (wr.drewN k) (.int .u32 (2147483648 + (n : Int))) (.int .u32 (x : Int)) 27 : ∀ (j : Nat) (u : Value), [Value.int .u32 (2147483648 + (n : Int)), .int .u32 (x : Int)][j]? = some u → ((wr.drewN k).alloc (.cells #[.int .u32 (2147483648 + (n : Int)), .int .u32 (x : Int)] 27)).cell? ((⟨wr.heap.size, 0, none⟩ : Addr).add j) = some u))
            have HBB := Lib.hid (show pk.length + 2 ≤ maxLen ∧ (pk.length + 2) * 4 ≤ 140737488355328 by have h1 := HK.out.2.2.2; unfold maxLen; omega)
            have HSZ := Lib.hid (fun (k : Nat) (o : Obj) => show B ≤ ((wr.drewN k).alloc o).heap.size by rw [World.size_alloc]; have h2 := HK.out.2.2.1.size; rw [HBe.out] at h2; exact Nat.le_succ_of_le h2)
            have HRW := Lib.hid (show rowW pk ++ [.int .u32 (2147483648 + (n : Int)), .int .u32 (x : Int)] = rowW (pk ++ [2147483648 + n, x]) by simp [rowW])
            have HPS := Lib.hid (show packS l = pk ++ [2147483648 + n, x] ++ packS (l.drop (a + n)) by rw [HK.out.1, HST.out, HO.out.1, HX.out, List.append_assoc])
            have hex : ((a : Int) + (n : Int) < (l.length : Int) ∧ (n : Int) < 4096 ∧ nthW l (a + n) ≠ nthW l a) ∨ decide ((n : Int) < 4096) = false ∧ ((a : Int) + (n : Int) < (l.length : Int)) ∨ decide ((a : Int) + (n : Int) < (l.length : Int)) = false := by
              by_cases h1 : (a : Int) + (n : Int) < (l.length : Int)
              · by_cases h2 : (n : Int) < 4096
                · refine .inl ⟨h1, h2, ?_⟩
                  rcases HO.out.2.1 with h | h | ⟨-, h⟩
                  · omega
                  · omega
                  · exact h
                · exact .inr (.inl ⟨by rw [decide_eq_false_iff_not]; exact h2, h1⟩)
              · exact .inr (.inr (by rw [decide_eq_false_iff_not]; exact h1))
            clear hng
            rcases hex with ⟨h1, h2, h3⟩ | ⟨h2, h1⟩ | h1
            · have c1 := HS.out.2 (a + n) (by omega)
              rw [HX.out] at h3
              obtain ⟨y, hy⟩ : ∃ y, nthW l (a + n) = y := ⟨_, rfl⟩
              rw [hy] at c1 h3
              have hyx : ((y : Int) == (x : Int)) = false := by simp; omega
              clear h3 hy
              go_wp2
              go_quiet (fail)
              go_wp2_with (first
                | (at_builtin; refine wpList_append_own _ rfl (.tmp 38) (.tmp 46) 25 rfl B 27 i0 (.int .u32 0) 1 4 Try.underlying25 hi hz0 hz1 hz2 rfl (by decide) _ pk.length (rowW pk) rfl (HOW.out _ _) ⟨wr.heap.size, 0, none⟩ 2 2 [.int .u32 (2147483648 + (n : Int)), .int .u32 (x : Int)] rfl rfl (HTN.out _) (by simp [Value.oneCell']) HBB.out.1 HBB.out.2 (HSZ.out _ _) ?_; intro v1 w1 hown1 hg1 _; obtain ⟨sp2, cap2, rfl⟩ := own_val hown1; have HG := Lib.hid (And.intro hown1 (Below.grown (HBW.out _ _) hg1 (HSZ.out _ _) (fun j e => (HK.out.2.1.lt j e).1))); clear hown1 hg1)
                | fail)
              go_roundg (l.length - (a + n))
              case measure => have := HO.out.2.1; omega
              case rel => exact ⟨a + n, by omega, by go_num, pk ++ [2147483648 + n, x], HPS.out, by omega, by rw [show (pk ++ [2147483648 + n, x]).length = pk.length + 2 by simp, ← HRW.out]; exact HG.out.1, HG.out.2⟩
            · go_wp2
              go_quiet (fail)
              go_wp2_with (first
                | (at_builtin; refine wpList_append_own _ rfl (.tmp 38) (.tmp 46) 25 rfl B 27 i0 (.int .u32 0) 1 4 Try.underlying25 hi hz0 hz1 hz2 rfl (by decide) _ pk.length (rowW pk) rfl (HOW.out _ _) ⟨wr.heap.size, 0, none⟩ 2 2 [.int .u32 (2147483648 + (n : Int)), .int .u32 (x : Int)] rfl rfl (HTN.out _) (by simp [Value.oneCell']) HBB.out.1 HBB.out.2 (HSZ.out _ _) ?_; intro v1 w1 hown1 hg1 _; obtain ⟨sp2, cap2, rfl⟩ := own_val hown1; have HG := Lib.hid (And.intro hown1 (Below.grown (HBW.out _ _) hg1 (HSZ.out _ _) (fun j e => (HK.out.2.1.lt j e).1))); clear hown1 hg1)
                | fail)
              go_roundg (l.length - (a + n))
              case measure => have := HO.out.2.1; omega
              case rel => exact ⟨a + n, by omega, by go_num, pk ++ [2147483648 + n, x], HPS.out, by omega, by rw [show (pk ++ [2147483648 + n, x]).length = pk.length + 2 by simp, ← HRW.out]; exact HG.out.1, HG.out.2⟩
            · go_wp2
              go_quiet (fail)
              go_wp2_with (first
                | (at_builtin; refine wpList_append_own _ rfl (.tmp 38) (.tmp 46) 25 rfl B 27 i0 (.int .u32 0) 1 4 Try.underlying25 hi hz0 hz1 hz2 rfl (by decide) _ pk.length (rowW pk) rfl (HOW.out _ _) ⟨wr.heap.size, 0, none⟩ 2 2 [.int .u32 (2147483648 + (n : Int)), .int .u32 (x : Int)] rfl rfl (HTN.out _) (by simp [Value.oneCell']) HBB.out.1 HBB.out.2 (HSZ.out _ _) ?_; intro v1 w1 hown1 hg1 _; obtain ⟨sp2, cap2, rfl⟩ := own_val hown1; have HG := Lib.hid (And.intro hown1 (Below.grown (HBW.out _ _) hg1 (HSZ.out _ _) (fun j e => (HK.out.2.1.lt j e).1))); clear hown1 hg1)
                | fail)
              go_roundg (l.length - (a + n))
              case measure => have := HO.out.2.1; omega
              case rel => exact ⟨a + n, by omega, by go_num, pk ++ [2147483648 + n, x], HPS.out, by omega, by rw [show (pk ++ [2147483648 + n, x]).length = pk.length + 2 by simp, ← HRW.out]; exact HG.out.1, HG.out.2⟩
          | succ g1 =>
            have hno : n < o := by omega
            have c1 := HS.out.2 (a + n) (by omega)
            rw [HO.out.2.2 n hno, HX.out] at c1
            have j1 : (a : Int) + (n : Int) < (l.length : Int) := by omega
            have j2 : (n : Int) < 4096 := by omega
            go_wp2
            go_quiet (fail)
            go_wp2
            go_roundg g1
            case measure => omega
            case rel => exact ⟨n + 1, by omega, by go_num, _, rfl⟩
      · rw [ht] at hT0
        have HST := Lib.hid hst
        clear hst
        have hstop := oths_stop 4096 (l.drop a)
        have hole := oths_le 4096 (l.drop a)
        have hat := oths_at 4096 (l.drop a)
        rw [List.length_drop] at hstop hole
        simp only [List.drop_drop] at hstop hat
        have hop : 0 < oths 4096 (l.drop a) := by
          rcases hstop with h | h | ⟨-, h⟩
          · omega
          · omega
          · apply Nat.pos_of_ne_zero
            intro e
            rw [e, Nat.add_zero, ht] at h
            cases h
        obtain ⟨o, ho⟩ : ∃ o, oths 4096 (l.drop a) = o := ⟨_, rfl⟩
        rw [ho] at hop hstop hole hat
        have HO := Lib.hid (And.intro ho (And.intro hstop hat))
        clear hstop hat ho ht
        go_wp2_with (first
          | (go_at_call 66; refine hT0.out.mono ?_; clear hT0; rintro e w1 ⟨rfl, n1, rfl⟩)
          | fail)
        go_loopg [5] o (fun g v wr2 => ∃ n : Nat, n + g = o ∧ v = .int .i64 n ∧ Aside (∃ m, wr2 = wr.drewN m))
        case atStart => exact ⟨0, by omega, rfl, n1, rfl⟩
        case round =>
          obtain ⟨n, hng, rfl, HM⟩ := hrel
          obtain ⟨m, rfl⟩ := HM.out
          clear HM
          have i0' : (0 : Int) ≤ (a : Int) + (n : Int) := by omega
          have i9' : (a : Int) + (n : Int) ≤ 100000 := by omega
          have i8' : (n : Int) ≤ 4096 := by omega
          have i7' : (0 : Int) ≤ (n : Int) := by omega
          have hT1 := hT.out (a + n) m (by omega)
          cases gk with
          | zero =>
            obtain rfl : n = o := by omega
            have hwn : IntKind.u32.wrap (n : Int) = (n : Int) := by rw [IntKind.wrap_u32]; omega
            have HOW := Lib.hid (fun (k : Nat) (o : Obj) => (show (wr.drewN k).ownsRow B 27 1 (.slice sp1 pk.length cap1) pk.length (rowW pk) from HK.out.2.1).alloc o)
            have HBW := Lib.hid (fun (k : Nat) (o : Obj) => Below.alloc (below_drewN HK.out.2.2.1 k) (by have := HK.out.2.2.1.size; rw [HBe.out] at this; exact this) o)
            have HTN := Lib.hid (fun (k : Nat) => (cell_one_new (wr.drewN k) (.int .u32 (n : Int)) 27 : ∀ (j : Nat) (u : Value), [Value.int .u32 (n : Int)][j]? = some u → ((wr.drewN k).alloc (.cells #[.int .u32 (n : Int)] 27)).cell? ((⟨wr.heap.size, 0, none⟩ : Addr).add j) = some u))
            have HBB := Lib.hid (show pk.length + 1 ≤ maxLen ∧ (pk.length + 1) * 4 ≤ 140737488355328 ∧ pk.length + 1 + n ≤ maxLen ∧ (pk.length + 1 + n) * 4 ≤ 140737488355328 by have h1 := HK.out.2.2.2; unfold maxLen; omega)
            have HSZ := Lib.hid (fun (k : Nat) (o : Obj) => show B ≤ ((wr.drewN k).alloc o).heap.size by rw [World.size_alloc]; have h2 := HK.out.2.2.1.size; rw [HBe.out] at h2; exact Nat.le_succ_of_le h2)
            obtain ⟨seg, hseg⟩ : ∃ seg, (l.drop a).take n = seg := ⟨_, rfl⟩
            have hsl : seg.length = n := by rw [← hseg, List.length_take, List.length_drop]; omega
            have HSE := Lib.hid hsl
            have HSL := Lib.hid (show (rowW seg).length = n * 1 by rw [rowW_len, hsl]; omega)
            have HSG := Lib.hid (fun (W' : World) (h : Below B w W') => show ∀ j u, (rowW seg)[j]? = some u → W'.cell? ((⟨b, off + a, none⟩ : Addr).add j) = some u by
              have h1 := (((HL.out.1.below h (fun h0 => by rw [← HBe.out]; exact HL.out.2 h0)).drop a).take n)
              rw [hseg] at h1
              exact h1.cells)
            have HRW := Lib.hid (show rowW pk ++ [.int .u32 (n : Int)] ++ rowW seg = rowW (pk ++ [n] ++ seg) by simp [rowW])
            have HPS := Lib.hid (show packS l = pk ++ [n] ++ seg ++ packS (l.drop (a + n)) by rw [HK.out.1, HST.out, HO.out.1, hseg]; simp only [List.append_assoc])
            obtain ⟨en, hen⟩ : ∃ en, a + n = en := ⟨_, rfl⟩
            rw [hen] at hT1
            have hex : (en < l.length ∧ (n : Int) < 4096 ∧ three (l.drop en) = true) ∨ decide ((n : Int) < 4096) = false ∧ en < l.length ∨ decide (en < l.length) = false := by
              by_cases h1 : en < l.length
              · by_cases h2 : (n : Int) < 4096
                · refine .inl ⟨h1, h2, ?_⟩
                  rcases HO.out.2.1 with h | h | ⟨-, h⟩
                  · omega
                  · omega
                  · rw [← hen]; exact h
                · exact .inr (.inl ⟨by rw [decide_eq_false_iff_not]; exact h2, h1⟩)
              · exact .inr (.inr (by rw [decide_eq_false_iff_not]; exact h1))
            have j1 : (a : Int) ≤ (en : Int) := by omega
            have j2 : (en : Int) ≤ (cap : Int) := by omega
            have j3 : ¬ cap = a := by omega
            have j4 : en - a = n := by omega
            have j5 : (0 : Int) ≤ (en : Int) := by omega
            have j6 : (a : Int) + (n : Int) = (en : Int) := by omega
            have j7 : IntKind.i64.wrap (en : Int) = (en : Int) := by rw [IntKind.wrap_i64]; omega
            have HEN := Lib.hid hen
            clear hng hseg hsl i0' i9' hen
            rcases hex with ⟨h1, h2, h3⟩ | ⟨h2, h1⟩ | h1
            · rw [h3] at hT1
              have HT1 := Lib.hid hT1
              clear hT1 h3
              go_wp2_with (first
                | (go_at_call 66; refine HT1.out.mono ?_; clear HT1; rintro e w1 ⟨rfl, n2, rfl⟩)
                | fail)
              go_region_held3 (fun _ => True) (first | exact trivial | go_keep)
                (first
                 | (refine step_append_at2 _ rfl (.tmp 71) (.tmp 74) 25 rfl B 27 i0 (.int .u32 0) 1 4 Try.underlying25 hi hz0 hz1 hz2 rfl (by decide) _ pk.length (rowW pk) rfl (HOW.out _ _) ⟨wr.heap.size, 0, none⟩ 1 1 [.int .u32 (n : Int)] rfl rfl (HTN.out _) (by simp [Value.oneCell']) HBB.out.1 HBB.out.2.1 (HSZ.out _ _) ?_; intro v1 w1 hown1 hg1 hat1; have HG1 := Lib.hid (And.intro hown1 (And.intro (Below.grown (HBW.out _ _) hg1 (HSZ.out _ _) (fun j e => (HK.out.2.1.lt j e).1)) (Nat.le_trans (HSZ.out _ _) hg1.size))); have HC1 := Lib.hid (HSG.out w1 HG1.out.2.1); clear hown1 hg1 hat1)
                 | (refine step_append_at2 _ rfl (.tmp 75) (.tmp 81) 25 rfl B 27 i0 (.int .u32 0) 1 4 Try.underlying25 hi hz0 hz1 hz2 rfl (by decide) _ (pk.length + 1) _ rfl HG1.out.1 ⟨b, off + a, none⟩ n (cap - a) (rowW seg) rfl HSL.out HC1.out (rowW_one _) HBB.out.2.2.1 HBB.out.2.2.2 HG1.out.2.2 ?_; intro v2 w2 hown2 hg2 hat2; have HG2 := Lib.hid (And.intro hown2 (Below.grown HG1.out.2.1 hg2 HG1.out.2.2 (fun j e => (HG1.out.1.lt j e).1))); clear hown2 hg2 hat2)
                 | fail)
              go_wp2
              go_roundg (l.length - en)
              case measure => have := HEN.out; omega
              case rel => exact ⟨en, by omega, by go_num, pk ++ [n] ++ seg, by rw [← HEN.out]; exact HPS.out, by omega, by rw [show (pk ++ [n] ++ seg).length = pk.length + 1 + n by rw [List.length_append, List.length_append, HSE.out]; simp, ← HRW.out]; exact HG2.out.1, HG2.out.2⟩
            · clear hT1
              go_wp2
              go_region_held3 (fun _ => True) (first | exact trivial | go_keep)
                (first
                 | (refine step_append_at2 _ rfl (.tmp 71) (.tmp 74) 25 rfl B 27 i0 (.int .u32 0) 1 4 Try.underlying25 hi hz0 hz1 hz2 rfl (by decide) _ pk.length (rowW pk) rfl (HOW.out _ _) ⟨wr.heap.size, 0, none⟩ 1 1 [.int .u32 (n : Int)] rfl rfl (HTN.out _) (by simp [Value.oneCell']) HBB.out.1 HBB.out.2.1 (HSZ.out _ _) ?_; intro v1 w1 hown1 hg1 hat1; have HG1 := Lib.hid (And.intro hown1 (And.intro (Below.grown (HBW.out _ _) hg1 (HSZ.out _ _) (fun j e => (HK.out.2.1.lt j e).1)) (Nat.le_trans (HSZ.out _ _) hg1.size))); have HC1 := Lib.hid (HSG.out w1 HG1.out.2.1); clear hown1 hg1 hat1)
                 | (refine step_append_at2 _ rfl (.tmp 75) (.tmp 81) 25 rfl B 27 i0 (.int .u32 0) 1 4 Try.underlying25 hi hz0 hz1 hz2 rfl (by decide) _ (pk.length + 1) _ rfl HG1.out.1 ⟨b, off + a, none⟩ n (cap - a) (rowW seg) rfl HSL.out HC1.out (rowW_one _) HBB.out.2.2.1 HBB.out.2.2.2 HG1.out.2.2 ?_; intro v2 w2 hown2 hg2 hat2; have HG2 := Lib.hid (And.intro hown2 (Below.grown HG1.out.2.1 hg2 HG1.out.2.2 (fun j e => (HG1.out.1.lt j e).1))); clear hown2 hg2 hat2)
                 | fail)
              go_wp2
              go_roundg (l.length - en)
              case measure => have := HEN.out; omega
              case rel => exact ⟨en, by omega, by go_num, pk ++ [n] ++ seg, by rw [← HEN.out]; exact HPS.out, by omega, by rw [show (pk ++ [n] ++ seg).length = pk.length + 1 + n by rw [List.length_append, List.length_append, HSE.out]; simp, ← HRW.out]; exact HG2.out.1, HG2.out.2⟩
            · clear hT1
              go_wp2
              go_region_held3 (fun _ => True) (first | exact trivial | go_keep)
                (first
                 | (refine step_append_at2 _ rfl (.tmp 71) (.tmp 74) 25 rfl B 27 i0 (.int .u32 0) 1 4 Try.underlying25 hi hz0 hz1 hz2 rfl (by decide) _ pk.length (rowW pk) rfl (HOW.out _ _) ⟨wr.heap.size, 0, none⟩ 1 1 [.int .u32 (n : Int)] rfl rfl (HTN.out _) (by simp [Value.oneCell']) HBB.out.1 HBB.out.2.1 (HSZ.out _ _) ?_; intro v1 w1 hown1 hg1 hat1; have HG1 := Lib.hid (And.intro hown1 (And.intro (Below.grown (HBW.out _ _) hg1 (HSZ.out _ _) (fun j e => (HK.out.2.1.lt j e).1)) (Nat.le_trans (HSZ.out _ _) hg1.size))); have HC1 := Lib.hid (HSG.out w1 HG1.out.2.1); clear hown1 hg1 hat1)
                 | (refine step_append_at2 _ rfl (.tmp 75) (.tmp 81) 25 rfl B 27 i0 (.int .u32 0) 1 4 Try.underlying25 hi hz0 hz1 hz2 rfl (by decide) _ (pk.length + 1) _ rfl HG1.out.1 ⟨b, off + a, none⟩ n (cap - a) (rowW seg) rfl HSL.out HC1.out (rowW_one _) HBB.out.2.2.1 HBB.out.2.2.2 HG1.out.2.2 ?_; intro v2 w2 hown2 hg2 hat2; have HG2 := Lib.hid (And.intro hown2 (Below.grown HG1.out.2.1 hg2 HG1.out.2.2 (fun j e => (HG1.out.1.lt j e).1))); clear hown2 hg2 hat2)
                 | fail)
              go_wp2
              go_roundg (l.length - en)
              case measure => have := HEN.out; omega
              case rel => exact ⟨en, by omega, by go_num, pk ++ [n] ++ seg, by rw [← HEN.out]; exact HPS.out, by omega, by rw [show (pk ++ [n] ++ seg).length = pk.length + 1 + n by rw [List.length_append, List.length_append, HSE.out]; simp, ← HRW.out]; exact HG2.out.1, HG2.out.2⟩
          | succ g1 =>
            have hno : n < o := by omega
            rw [HO.out.2.2 n hno] at hT1
            have HT1 := Lib.hid hT1
            have j1 : (a : Int) + (n : Int) < (l.length : Int) := by omega
            have j2 : (n : Int) < 4096 := by omega
            clear hT1
            go_wp2_with (first
              | (go_at_call 66; refine HT1.out.mono ?_; clear HT1; rintro e w1 ⟨rfl, n2, rfl⟩)
              | fail)
            go_roundg g1
            case measure => omega
            case rel => exact ⟨n + 1, by omega, by go_num, _, rfl⟩
    · have d1 : ¬ (a : Int) < (l.length : Int) := by omega
      obtain rfl : a = l.length := by omega
      have HK := Lib.hid (And.intro hpk (And.intro hown hbel))
      clear hpk hown hbel hpl HR
      go_wp2
      go_ret
      have h1 := HK.out.1
      rw [List.drop_length, packS_nil, List.append_nil] at h1
      rw [h1]
      exact ⟨_, rfl, HK.out.2⟩
end Go.Proofs.Ytkbmgilceioieaa
