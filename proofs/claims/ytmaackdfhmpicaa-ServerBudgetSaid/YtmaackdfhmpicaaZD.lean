/- The contracts of fix.look, Least, Steps, Done, of the law's step and alive. -/
import Derived.Test.YtmaackdfhmpicaaZC
import Derived.Test.YtmaackdfhmpicaaXF
namespace Go.Proofs.Ytmaackdfhmpicaa
open Go.RowKit

/-- From where one looks. -/
def w0 (own : Int) : Int := max own 1
/-- What looking finds. -/
def lookR (own most : Int) (L : List Tm) : Option (Int × Int) := if own < 0 then none else lookF (FF own L) most (most + 1).toNat (w0 own) 1
def tT (o : Option (Int × Int)) : Int := match o with | some (a, _) => a | none => 0
def tM (o : Option (Int × Int)) : Int := match o with | some (_, b) => b | none => 0
def tB (o : Option (Int × Int)) : Bool := o.isSome
/-- What is kept while one looks. -/
structure LookI (own most : Int) (L : List Tm) (g : Nat) (w m mo : Int) : Prop where
  r : lookF (FF own L) most g w m = lookR own most L
  lw : 1 ≤ w
  m1 : 1 ≤ m
  mw : m ≤ w
  lg : most < w + g
  lm : mo = most ∨ (mo ≤ most ∧ HZ own L mo)
  no : ∀ t, (if own < 1 then 1 else own) ≤ t → t < w → ∀ n, FF own L t = some n → t < n
  lo : (if own < 1 then 1 else own) ≤ w
theorem LookI.start {own most : Int} (L : List Tm) (h : 0 ≤ own) : LookI own most L (most + 1).toNat (max own 1) 1 most :=
  ⟨by unfold lookR w0; rw [if_neg (by omega)], by omega, by omega, by omega, by omega, .inl rfl, fun t h1 h2 => by rw [max_one] at h1; omega, by rw [max_one]; exact Int.le_refl _⟩
/-- Above the bound nothing is found. -/
theorem LookI.over {own most : Int} {L : List Tm} {g : Nat} {w m mo : Int} (h : LookI own most L g w m mo) (hw : mo < w) : lookR own most L = none := by
  rw [← h.r]
  rcases h.lm with e | ⟨-, hz⟩
  · exact lookF_most g (by omega)
  · exact lookF_past (hz w hw h.no) g w m hw
theorem LookI.ff {own most : Int} {L : List Tm} {g : Nat} {w m mo : Int} (h : LookI own most L g w m mo) (hw : w ≤ mo) : ∃ g1, g = g1 + 1 ∧
    lookR own most L = (match FF own L w with | none => none | some n => if n ≤ w then some (w, m) else lookF (FF own L) most g1 n (m + 1)) := by
  have hm : w ≤ most := by rcases h.lm with e | ⟨e, -⟩ <;> omega
  have hg := h.lg
  cases g with
  | zero => omega
  | succ g1 => exact ⟨g1, rfl, by rw [← h.r, lookF, if_pos hm]; cases FF own L w <;> rfl⟩
theorem LookI.no_ {own most : Int} {L : List Tm} {g : Nat} {w m mo : Int} (h : LookI own most L g w m mo) (hw : w ≤ mo) (hb : togB own L w = false) : lookR own most L = none := by
  obtain ⟨g1, -, e⟩ := h.ff hw
  have : FF own L w = none := by unfold FF; rw [hb]; rfl
  rw [e, this]
theorem LookI.found {own most : Int} {L : List Tm} {g : Nat} {w m mo : Int} (h : LookI own most L g w m mo) (hw : w ≤ mo) (hb : togB own L w = true) (hn : togN own L w ≤ w) : lookR own most L = some (w, m) := by
  obtain ⟨g1, -, e⟩ := h.ff hw
  have : FF own L w = some (togN own L w) := by unfold FF; rw [hb]; rfl
  rw [e, this]
  exact if_pos hn
theorem LookI.next {own most : Int} {L : List Tm} {g : Nat} {w m mo mo' : Int} (h : LookI own most L g w m mo) (hw : w ≤ mo) (hb : togB own L w = true) (hn : ¬ togN own L w ≤ w) (hmo : mo' = mo ∨ mo' = most ∨ (mo' ≤ most ∧ HZ own L mo')) : ∃ g1, g = g1 + 1 ∧ LookI own most L g1 (togN own L w) (m + 1) mo' := by
  obtain ⟨g1, rfl, e⟩ := h.ff hw
  have hf : FF own L w = some (togN own L w) := by unfold FF; rw [hb]; rfl
  have h1 := h.lw; have h2 := h.m1; have h3 := h.mw; have h4 := h.lg; have h5 := h.lo
  refine ⟨g1, rfl, ⟨?_, by omega, by omega, by omega, by omega, ?_, fun t a b n hn2 => ?_, by omega⟩⟩
  · rw [e, hf]; exact (if_neg hn).symm
  · rcases hmo with rfl | rfl | hz
    · exact h.lm
    · exact .inl rfl
    · exact .inr hz
  · by_cases ht : t < w
    · exact h.no t a ht n hn2
    · obtain ⟨k, hk, hkn, -⟩ := FF_mono hn2 (by omega) (show w ≤ t by omega)
      rw [hf] at hk
      have : togN own L w = k := by simpa using hk
      omega
set_option maxHeartbeats 4000000 in
theorem look_any {w : World} {V : Nat → Prop} {S : Src} {L : List Tm} (h : TermsAt w V S L) (hl : L.length ≤ 1000) (own most : Int) (hm : most ≤ 100000) :
    Calls Try.prog 58 #[.int .i64 own, .int .i64 most, .slice S.sp L.length S.c] w fun e w' => e = .returned (.tuple #[.int .i64 (tT (lookR own most L)), .int .i64 (tM (lookR own most L)), .bool (tB (lookR own most L))]) ∧ Below w.heap.size w w' := by
  have hmx := hmax Try.prog
  have hmn := hmin Try.prog
  have HTog := Lib.hid (fun (wx : World) (hb : Below w.heap.size w wx) (n : Int) => tog_any (h.new hb) hl own n)
  have HHor := Lib.hid (fun (wx : World) (hb : Below w.heap.size w wx) (t0 : Int) (h0 : 0 ≤ own) (h1 : own ≤ 1099511627776) (hok : okL L t0 = true) => horizon_any (h.new hb) hl h0 h1 hok)
  have HSt := Lib.hid (fun (h0 : 0 ≤ own) => LookI.start (own := own) (most := most) L h0)
  have HNeg := Lib.hid (show own < 0 → lookR own most L = none ∧ ∀ n, togB own L n = false from fun h => ⟨by unfold lookR; rw [if_pos h], fun n => by
    unfold togB addB
    rw [show numB own = false from numB_f (by omega)]; simp⟩)
  obtain ⟨sp, hspn⟩ : ∃ s, S.sp = s := ⟨_, rfl⟩
  obtain ⟨c, hc⟩ : ∃ s, S.c = s := ⟨_, rfl⟩
  obtain ⟨N, hN⟩ : ∃ s, L.length = s := ⟨_, rfl⟩
  rw [hspn, hc, hN] at HTog HHor
  rw [hspn, hc, hN]
  clear h hspn hc hN hl
  by_cases hneg : own < 0
  · obtain ⟨hr, hno⟩ := HNeg.out hneg
    rw [hr]
    have HT := Lib.hid (show ∀ (wx : World), Below w.heap.size w wx → ∀ n, Calls Try.prog 70 #[.int .i64 own, .int .i64 n, .slice sp N c] wx fun e w' => (∃ v, e = .returned (.tuple #[.int .i64 v, .bool false])) ∧ Below wx.heap.size wx w' from fun wx hb n => by
      have := HTog.out wx hb n
      rw [hno n] at this
      exact this.mono fun e w' ⟨h1, h2⟩ => ⟨⟨_, h1⟩, h2⟩)
    have hx1 : max own 1 = 1 := by omega
    clear HTog HHor HSt HNeg hr hno
    by_cases h1m : 1 ≤ most
    · go_enter Try.func58, Try.ntmps58
      go_wp2
      go_loopg [1, 6, 7] 1 (fun g x1 x6 x7 wr => g = 1 ∧ x1 = .int .i64 most ∧ x6 = .int .i64 1 ∧ x7 = .int .i64 1 ∧ w = wr)
      case atStart => exact ⟨rfl, rfl, rfl, rfl, rfl⟩
      case round =>
        obtain ⟨rfl, rfl, rfl, rfl, rfl⟩ := hrel
        go_wp2_with (go_at_call 70; refine (HT.out _ (Below.refl _ _) _).mono ?_; rintro e w3 ⟨⟨v, rfl⟩, b3⟩; have H3 := Lib.hid b3; clear b3)
        go_ret3
        exact ⟨rfl, H3.out⟩
    · go_enter Try.func58, Try.ntmps58
      go_wp2
      go_loopg [1, 6, 7] 1 (fun g x1 x6 x7 wr => g = 1 ∧ x1 = .int .i64 most ∧ x6 = .int .i64 1 ∧ x7 = .int .i64 1 ∧ w = wr)
      case atStart => exact ⟨rfl, rfl, rfl, rfl, rfl⟩
      case round =>
        obtain ⟨rfl, rfl, rfl, rfl, rfl⟩ := hrel
        go_wp2
        go_ret3
        exact ⟨rfl, Below.refl _ _⟩
  · have h0 : 0 ≤ own := by omega
    have HSt2 := Lib.hid (HSt.out h0)
    clear HSt HNeg hneg
    go_enter Try.func58, Try.ntmps58
    go_wp2
    go_loopg [1, 6, 7] ((most + 1).toNat + 1) (fun g x1 x6 x7 wr => ∃ (g0 : Nat) (t m mo : Int), g = g0 + 1 ∧ x1 = .int .i64 mo ∧ x6 = .int .i64 t ∧ x7 = .int .i64 m ∧ Aside (LookI own most L g0 t m mo ∧ Below w.heap.size w wr))
    case atStart => exact ⟨_, _, _, _, rfl, rfl, rfl, rfl, HSt2.out, Below.refl _ _⟩
    case round =>
      obtain ⟨g0, t, m, mo, rfl, rfl, rfl, rfl, HR⟩ := hrel
      have t1 := HR.out.1.lw
      have m1 := HR.out.1.m1
      have m2 := HR.out.1.mw
      have mo1 : mo ≤ most := by rcases HR.out.1.lm with e | ⟨e, -⟩ <;> omega
      by_cases hw : t ≤ mo
      · have HT := Lib.hid (fun (wx : World) hb => HTog.out wx hb t)
        cases hb : togB own L t with
        | false =>
          have hr := HR.out.1.no_ hw hb
          rw [hb] at HT
          have HRr := Lib.hid hr
          clear hb hr HTog HHor HSt2
          go_wp2_with (go_at_call 70; refine (HT.out _ HR.out.2).mono ?_; rintro e w3 ⟨rfl, b3⟩; have H3 := Lib.hid (HR.out.2.trans (b3.mono HR.out.2.size)); clear b3 HT)
          go_ret3
          exact ⟨by rw [HRr.out]; rfl, H3.out⟩
        | true =>
          rw [hb] at HT
          by_cases hn : togN own L t ≤ t
          · have hr := HR.out.1.found hw hb hn
            have HRr := Lib.hid hr
            obtain ⟨z, hz⟩ : ∃ z, togN own L t = z := ⟨_, rfl⟩
            rw [hz] at HT hn
            clear hz hb hr HTog HHor HSt2
            go_wp2_with (go_at_call 70; refine (HT.out _ HR.out.2).mono ?_; rintro e w3 ⟨rfl, b3⟩; have H3 := Lib.hid (HR.out.2.trans (b3.mono HR.out.2.size)); clear b3 HT)
            go_ret3
            exact ⟨by rw [HRr.out]; rfl, H3.out⟩
          · have HNx := Lib.hid (fun mo' hmo => HR.out.1.next (mo' := mo') hw hb hn hmo)
            have hff : FF own L t = some (togN own L t) := by unfold FF; rw [hb]; rfl
            obtain ⟨k1, -, k3, k4⟩ := FF_some.1 hff
            have kv := val_range L t
            have HH := Lib.hid (fun (wx : World) hb2 => HHor.out wx hb2 t h0 (by omega) k1)
            obtain ⟨z, hz⟩ : ∃ z, togN own L t = z := ⟨_, rfl⟩
            rw [hz] at HT hn HNx k3 k4
            clear hz hb hff k1 k3 kv HTog HHor HSt2
            by_cases hp : m = 4096
            · subst hp
              go_wp2_with (first
                | (go_at_call 70; refine (HT.out _ HR.out.2).mono ?_; rintro e w3 ⟨rfl, b3⟩; have H3 := Lib.hid (HR.out.2.trans (b3.mono HR.out.2.size)); clear b3 HT)
                | (go_at_call 71; refine (HH.out _ H3.out).mono ?_; rintro e w4 ⟨y, rfl, hy, hy2, b4⟩; have H4 := Lib.hid (H3.out.trans (b4.mono H3.out.size)); have HY := Lib.hid hy; clear b4 HH hy)
                | fail)
              obtain ⟨g1, hg1, hI⟩ := HNx.out (min mo y) (by
                rcases HY.out with e | e
                · exact .inl (by omega)
                · by_cases hc : mo ≤ y
                  · exact .inl (by omega)
                  · exact .inr (.inr ⟨by omega, by rw [show min mo y = y by omega]; exact e⟩))
              subst hg1
              go_roundg (g1 + 1)
              case measure => omega
              case rel => exact ⟨g1, z, 4097, _, rfl, rfl, rfl, rfl, hI, H4.out⟩
            · obtain ⟨g1, hg1, hI⟩ := HNx.out mo (.inl rfl)
              subst hg1
              have HI := Lib.hid hI
              clear hI HNx HH
              go_wp2_with (go_at_call 70; refine (HT.out _ HR.out.2).mono ?_; rintro e w3 ⟨rfl, b3⟩; have H3 := Lib.hid (HR.out.2.trans (b3.mono HR.out.2.size)); clear b3 HT)
              go_roundg (g1 + 1)
              case measure => omega
              case rel => exact ⟨g1, z, m + 1, mo, rfl, rfl, rfl, rfl, HI.out, H3.out⟩
      · have hr := HR.out.1.over (by omega)
        have HRr := Lib.hid hr
        clear hr HTog HHor HSt2
        go_wp2
        go_ret3
        exact ⟨by rw [HRr.out]; rfl, HR.out.2⟩
/-- The least time, how many looks; is it enough? -/
theorem least_any {w : World} {V : Nat → Prop} {S : Src} {L : List Tm} (h : TermsAt w V S L) (hl : L.length ≤ 1000) (own most : Int) (hm : most ≤ 100000) :
    Calls Try.prog 50 #[.int .i64 own, .int .i64 most, .slice S.sp L.length S.c] w fun e w' => e = .returned (.tuple #[.int .i64 (tT (lookR own most L)), .bool (tB (lookR own most L))]) ∧ Below w.heap.size w w' := by
  have HL := Lib.hid (look_any h hl own most hm)
  clear h hl hm
  generalize lookR own most L = o at HL ⊢
  go_enter Try.func50, Try.ntmps50
  go_wp2_with (go_at_call 58; refine HL.out.mono ?_; rintro e w3 ⟨rfl, b3⟩; have H3 := Lib.hid b3; clear b3)
  go_ret2
  exact ⟨rfl, H3.out⟩
def doneB (own n : Int) (L : List Tm) : Bool := togB own L n && decide (togN own L n ≤ n)
end Go.Proofs.Ytmaackdfhmpicaa
