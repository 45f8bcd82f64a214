/- The contracts of the reference's Lines and of the law's same. -/
import Derived.Test.YtnmejabmnapmpaaDoorRef
namespace Go.Proofs.YtnmejabmnapmpaaDoor
open Go.RowKit

theorem idx_first (c : UInt8) : ∀ (l : List UInt8) (i : Nat), l[i]? = some c → (∀ m : Nat, m < i → l[m]? ≠ some c) → Lib.indexByte l c = (i : Int) := by
  intro l
  induction l with
  | nil => intro i h; simp at h
  | cons x l ih =>
    intro i h hn
    cases i with
    | zero =>
      have hx : x = c := by simpa using h
      simp [Lib.indexByte, hx]
    | succ i =>
      have hx : x ≠ c := by have := hn 0 (by omega); simpa using this
      have h1 := ih i (by simpa using h) (fun m hm => by have := hn (m + 1) (by omega); simpa using this)
      simp [Lib.indexByte, hx, h1]
theorem idx_none (c : UInt8) : ∀ (l : List UInt8), (∀ m : Nat, l[m]? ≠ some c) → Lib.indexByte l c = -1 := by
  intro l
  induction l with
  | nil => intro _; rfl
  | cons x l ih =>
    intro hn
    have hx : x ≠ c := by have := hn 0; simpa using this
    have h1 := ih (fun m => by have := hn (m + 1); simpa using this)
    simp [Lib.indexByte, hx, h1]
theorem trim_snoc (q : List UInt8) : trimNl (q ++ [10]) = q := by
  unfold trimNl Lib.trimSuffix
  have h : Lib.hasSuffix (q ++ [10]) [10] = true := by simp [Lib.hasSuffix]
  rw [if_pos h]; simp
theorem trim_none (q : List UInt8) (h : ∀ m : Nat, q[m]? ≠ some 10) : trimNl q = q := by
  unfold trimNl Lib.trimSuffix
  split
  · rename_i hs
    exfalso
    have hs' : [10] <:+ q := by simpa [Lib.hasSuffix] using hs
    obtain ⟨t, ht⟩ := hs'
    exact h t.length (by rw [← ht]; simp)
  · rfl


/-- The lines from f on, the next byte 10 at k. -/
theorem lin_next (l : List UInt8) (f k : Nat) (hfk : f ≤ k) (hk : l[k]? = some 10) (hn : ∀ m : Nat, f ≤ m → m < k → l[m]? ≠ some 10) :
    lin (l.drop f) = cut35 ((l.drop f).take (k - f)) :: lin (l.drop (k + 1)) := by
  have hx : (l.drop f)[k - f]? = some 10 := by rw [List.getElem?_drop, show f + (k - f) = k by omega]; exact hk
  have hi := idx_first 10 (l.drop f) (k - f) hx (fun m hm => by rw [List.getElem?_drop]; exact hn _ (by omega) (by omega))
  have h1 := lns_some _ _ hi
  have hlen : k - f < (l.drop f).length := (List.getElem?_eq_some_iff.1 hx).1
  have h2 : (l.drop f).take (k - f + 1) = (l.drop f).take (k - f) ++ [10] := by
    rw [List.take_succ_eq_append_getElem hlen]
    congr 2
    exact (List.getElem?_eq_some_iff.1 hx).2
  unfold lin
  rw [h1, List.map_cons, h2, trim_snoc, List.drop_drop, show f + (k - f + 1) = k + 1 by omega]
theorem lin_last (l : List UInt8) (f : Nat) (hf : f < l.length) (hn : ∀ m : Nat, f ≤ m → m < l.length → l[m]? ≠ some 10) : lin (l.drop f) = [cut35 (l.drop f)] := by
  have hno : ∀ m : Nat, (l.drop f)[m]? ≠ some 10 := by
    intro m
    rw [List.getElem?_drop]
    by_cases h : f + m < l.length
    · exact hn _ (by omega) h
    · rw [List.getElem?_eq_none (by omega)]; simp
  have h1 := lns_none (l.drop f) (by intro h; have := congrArg List.length h; simp at this; omega) (idx_none 10 _ hno)
  unfold lin
  rw [h1, List.map_cons, List.map_nil, trim_none _ hno]

theorem refcut_ex (s : ByteArray) (hs : s.size ≤ 5000) (a b : Nat) (w : World) : Calls Tryd.prog 25 #[.string (s.extract a b)] w fun e w' => e = .returned (.string (bs (cut35 ((s.data.toList.drop a).take (b - a))))) ∧ w = w' := by
  have h := refcut_any (s.extract a b) w (by rw [ByteArray.size_extract]; omega)
  rwa [extract_list] at h

set_option maxHeartbeats 2000000 in
theorem reflines_any (s : ByteArray) (w : World) (hs : s.size ≤ 5000) : Calls Tryd.prog 20 #[.string s] w fun e w' =>
    ∃ v, e = .returned v ∧ w'.ownsRow w.heap.size 9 1 v (lin s.data.toList).length (strs (lin s.data.toList)) ∧ Below w.heap.size w w' := by
  obtain ⟨i0, hi, hz0, hz1, hz2⟩ := info_parts info9
  have hll : s.data.toList.length = s.size := by simp
  obtain ⟨L, hL⟩ : ∃ L, L = lin s.data.toList := ⟨_, rfl⟩
  have hcount : L.length ≤ 5000 := by
    have h1 := lns_count s.data.toList
    rw [hL, lin_len]; omega
  have HL := Lib.hid hL
  have HLL := Lib.hid hll
  have hcut := fun a b w' => Lib.hid (refcut_ex s hs a b w')
  rw [← hL]
  clear hL hll
  go_enter Tryd.func20, Tryd.ntmps20
  go_wp2
  go_loopg [3, 4, 5] s.size (fun g v fr i wr => ∃ (k f n : Nat), k + g = s.size ∧ f ≤ k ∧ i = .int .i64 k ∧ fr = .int .i64 f ∧ n ≤ L.length ∧ Aside (L.drop n = lin (s.data.toList.drop f)) ∧
    Aside (∀ m : Nat, f ≤ m → m < k → s.data.toList[m]? ≠ some 10) ∧ wr.ownsRow w.heap.size 9 1 v n (strs (L.take n)) ∧ Below w.heap.size w wr)
  case atStart => exact ⟨0, 0, 0, by omega, by omega, rfl, rfl, by omega, by show L.drop 0 = _; rw [HL.out]; rfl, by show ∀ m : Nat, _; intro m h1 h2; omega, World.ownsRow_nil _ _ _ _, Below.refl _ _⟩
  case round =>
    obtain ⟨k, f, n, hkg, hfk, rfl, rfl, hn, HI, HN, hown, hB⟩ := hrel
    have HO := Lib.hid hown
    have HB := Lib.hid hB
    clear hown hB
    cases gk with
    | zero =>
      obtain rfl : k = s.size := by omega
      by_cases hf : f < s.size
      · have hlast := lin_last s.data.toList f (by rw [HLL.out]; exact hf) (by rw [HLL.out]; exact HN.out)
        obtain ⟨hn1, hat, hdr⟩ := at_drop0 (HI.out.trans hlast)
        have hnl : n + 1 = L.length := by
          have := congrArg List.length hdr
          simp at this; omega
        have hat2 : bs (cut35 ((s.data.toList.drop f).take (s.size - f))) = bs (at_ L n) := by
          rw [hat, List.take_of_length_le (by rw [List.length_drop, HLL.out]; omega)]
        have HA := Lib.hid hat2
        have hf1 : (f : Int) < (s.size : Int) := by omega
        clear hlast hat hdr hat2
        go_wp2_with (first
          | (go_at_call 25; refine (hcut f s.size _).out.mono ?_; rintro e w' ⟨rfl, rfl⟩)
          | (at_builtin; refine wpList_append_own _ rfl _ _ 37 rfl w.heap.size 9 i0 (.string ByteArray.empty) 1 16 Tryd.underlying37 hi hz0 hz1 hz2 rfl (by decide) _ _ _ rfl (HO.out.alloc _) ⟨wr.heap.size, 0, none⟩ 1 1 [.string (bs (cut35 ((s.data.toList.drop f).take (s.size - f))))] rfl rfl (cell_one_new _ _ _) (by simp [Value.oneCell']) (by unfold maxLen; omega) (by omega) (by have := HB.out.size; simp; omega) ?_; intro v' w1 hown' hgrow _; have HO' := Lib.hid hown'; have HG := Lib.hid hgrow; clear hown' hgrow))
        go_ret
        refine ⟨_, rfl, ?_, ?_⟩
        · have h9 := HO'.out
          rw [HA.out, ← strs_snoc L n hn1, hnl, List.take_length] at h9
          exact h9
        · exact (HB.out.alloc HB.out.size _).grown HG.out (by have := HB.out.size; simp; omega) (fun q e => own_blk HO.out q e)
      · have hfe : f = s.size := by omega
        have hn2 : n = L.length := by
          have h := HI.out
          rw [hfe, drop_all] at h
          have h2 := congrArg List.length h
          simp [lin, lns] at h2; omega
        have hf1 : (s.size : Int) ≤ (f : Int) := by omega
        clear hfe hf
        subst hn2
        have h9 := HO.out
        rw [List.take_length] at h9
        have HO2 := Lib.hid h9
        clear h9
        go_wp2
        go_ret
        exact ⟨_, rfl, HO2.out, HB.out⟩
    | succ g1 =>
      have hlt : k < s.size := by omega
      have hk1 : (k : Int) < (s.size : Int) := by omega
      have hlk : s.data.toList[k]? = some s[k] := by rw [List.getElem?_eq_getElem (by simpa using hlt)]; rfl
      have HK := Lib.hid hlk
      clear hlk
      by_cases hc : s[k] = 10
      · have hb : ((s[k].toNat : Int) == 10) = true := by rw [hc]; rfl
        have hnext := lin_next s.data.toList f k hfk (by rw [HK.out, hc]) HN.out
        obtain ⟨hn1, hat, hdr⟩ := at_drop0 (HI.out.trans hnext)
        have HA := Lib.hid hat
        have HDR := Lib.hid hdr
        have hfk1 : (f : Int) ≤ (k : Int) := by omega
        clear hc hnext hat hdr
        go_wp2_with (first
          | (go_at_call 25; refine (hcut f k _).out.mono ?_; rintro e w' ⟨rfl, rfl⟩)
          | (at_builtin; refine wpList_append_own _ rfl _ _ 37 rfl w.heap.size 9 i0 (.string ByteArray.empty) 1 16 Tryd.underlying37 hi hz0 hz1 hz2 rfl (by decide) _ _ _ rfl (HO.out.alloc _) ⟨wr.heap.size, 0, none⟩ 1 1 [.string (bs (cut35 ((s.data.toList.drop f).take (k - f))))] rfl rfl (cell_one_new _ _ _) (by simp [Value.oneCell']) (by unfold maxLen; omega) (by omega) (by have := HB.out.size; simp; omega) ?_; intro v' w1 hown' hgrow _; have HO' := Lib.hid hown'; have HG := Lib.hid hgrow; clear hown' hgrow))
        go_roundg g1
        case measure => omega
        case rel =>
          refine ⟨k + 1, k + 1, n + 1, by omega, by omega, by go_num, by go_num, by omega, HDR.out, ?_, ?_, ?_⟩
          · show ∀ m : Nat, _; intro m h1 h2; omega
          · rw [strs_snoc L n hn1, HA.out]; exact HO'.out
          · exact (HB.out.alloc HB.out.size _).grown HG.out (by have := HB.out.size; simp; omega) (fun q e => own_blk HO.out q e)
      · have hb : ((s[k].toNat : Int) == 10) = false := by
          rw [Bool.eq_false_iff]; intro h
          apply hc
          have h' : (s[k].toNat : Int) = 10 := by simpa using h
          exact UInt8.toNat_inj.1 (show s[k].toNat = 10 by omega)
        have HC := Lib.hid hc
        clear hc
        go_wp2
        go_roundg g1
        case measure => omega
        case rel =>
          refine ⟨k + 1, f, n, by omega, by omega, by go_num, rfl, hn, HI.out, ?_, HO.out, HB.out⟩
          show ∀ m : Nat, _
          intro m h1 h2
          by_cases h : m = k
          · rw [h, HK.out]; intro h3; exact HC.out (Option.some.inj h3)
          · exact HN.out m h1 (by omega)


theorem own_at {A : World} {base : Nat} {sp : Option Addr} {n cap : Nat} {xs : List Value} (h : A.ownsRow base 9 1 (.slice sp n cap) n xs) (k : Nat) (hk : k < n) :
    ∃ g, sp = some ⟨g, 0, none⟩ ∧ A.cell? ⟨g, k, none⟩ = xs[k]? := by
  rcases h.2 with ⟨h0, h1⟩ | ⟨g, cap', cur, hv, _⟩
  · omega
  · cases hv
    exact ⟨g, rfl, h.cellAt k (by omega)⟩

theorem same_any (spa spb : Option Addr) (n ca cb : Nat) (ba bb : Nat) (L : List (List UInt8)) (w : World) (hn : n ≤ 9223372036854775807) (hnL : n = L.length)
    (ha : w.ownsRow ba 9 1 (.slice spa n ca) n (strs L)) (hb : w.ownsRow bb 9 1 (.slice spb n cb) n (strs L)) :
    Calls Tryd.prog 16 #[.slice spa n ca, .slice spb n cb] w fun e w' => e = .returned (.bool true) ∧ Drewn w w' := by
  have HA := Lib.hid ha
  have HB := Lib.hid hb
  have HN := Lib.hid hnL
  clear ha hb hnL
  go_enter Tryd.func16, Tryd.ntmps16
  go_wp2
  go_loopg [5] n (fun g i wr => ∃ (k : Nat), k + g = n ∧ i = .int .i64 k ∧ Aside (Drewn w wr))
  case atStart => exact ⟨0, by omega, rfl, Drewn.refl _⟩
  case round =>
    obtain ⟨k, hkg, rfl, hd⟩ := hrel
    cases gk with
    | zero =>
      have hk : (n : Int) ≤ (k : Int) := by omega
      go_wp2
      go_ret
      exact ⟨rfl, hd.out⟩
    | succ g1 =>
      have hlt : k < n := by omega
      have hk1 : (k : Int) < (n : Int) := by omega
      obtain ⟨ga, rfl, h1⟩ := own_at HA.out k hlt
      obtain ⟨gb, rfl, h2⟩ := own_at HB.out k hlt
      have hx : (strs L)[k]? = some (.string (bs (at_ L k))) := by
        have : k < L.length := by rw [← HN.out]; exact hlt
        simp [strs, at_, this]
      rw [hx] at h1 h2
      obtain ⟨P, hP⟩ : ∃ P, P = bs (at_ L k) := ⟨_, rfl⟩
      rw [← hP] at h1 h2
      clear hP hx
      have h3 : wr.cell? ⟨ga, k, none⟩ = some (.string P) := by obtain ⟨m, rfl⟩ := hd.out; exact h1
      have h4 : wr.cell? ⟨gb, k, none⟩ = some (.string P) := by obtain ⟨m, rfl⟩ := hd.out; exact h2
      clear h1 h2
      go_wp2
      go_quiet (fail)
      go_wp2
      go_roundg g1
      case measure => omega
      case rel => exact ⟨k + 1, by omega, by go_num, hd.out.trans ⟨_, rfl⟩⟩

theorem below_own {A B : World} {base : Nat} {v : Value} {n : Nat} {xs : List Value} (h : A.ownsRow base 9 1 v n xs) (hb : Below A.heap.size A B) : B.ownsRow base 9 1 v n xs :=
  by
    obtain ⟨h1, h2⟩ := h
    refine ⟨h1, ?_⟩
    rcases h2 with h2 | ⟨g, cap, cur, hv, hg, hh, r⟩
    · exact .inl h2
    · exact .inr ⟨g, cap, cur, hv, hg, by rw [hb.block g (Array.getElem?_eq_some_iff.1 hh).1]; exact hh, r⟩

end Go.Proofs.YtnmejabmnapmpaaDoor
