/- What the program's Send and the law's send make of one state. -/
import Derived.Test.YtbdcjfkplopbiaaDoorUR
namespace Go.Proofs.YtbdcjfkplopbiaaDoor
open Go.RowKit

theorem BAt.new {w w' : World} {V : Nat → Prop} {B : Nat} {rm : Int} {f : Nat → List Int} (h : BAt w V B rm f) (hb : Below w.heap.size w w') : BAt w' V B rm f := by
  obtain ⟨sp, cp, hx⟩ := h; exact ⟨sp, cp, hx.new hb⟩
theorem BAt.inV {w w' : World} {V : Nat → Prop} {B : Nat} {rm : Int} {f : Nat → List Int} (h : BAt w V B rm f) (hc : Ch V w w') : BAt w' V B rm f := by
  obtain ⟨sp, cp, hx⟩ := h; exact ⟨sp, cp, hx.inV hc⟩
theorem BAt.more {w : World} {V V' : Nat → Prop} {B : Nat} {rm : Int} {f : Nat → List Int} (h : BAt w V B rm f) (hV : ∀ j, j < w.heap.size → V' j → V j) : BAt w V' B rm f := by
  obtain ⟨sp, cp, hx⟩ := h; exact ⟨sp, cp, hx.more hV⟩
/-- What a call's end asks, of a world where no block of V has turned. -/
structure Vs (w : World) (V : Nat → Prop) : Prop where
  v : V = fun j => j < w.heap.size
  tab : Tab w
theorem Vs.at_ {w wx : World} {V : Nat → Prop} (h : Vs w V) (hc : Ch (fun j => ¬ V j) w wx) : Tab wx ∧ Below w.heap.size w wx ∧ ∀ j, V j → j < wx.heap.size := by
  have hv := h.v
  subst hv
  have hb : Below w.heap.size w wx := hc.below (fun k hk hn => hn hk) (Nat.le_refl _)
  exact ⟨h.tab.below h.tab.pos hb, hb, fun j hj => Nat.lt_of_lt_of_le hj hb.size⟩
theorem Vs.below {w wx : World} {V : Nat → Prop} (h : Vs w V) (hb : Below w.heap.size w wx) : Ch (fun j => ¬ V j) w wx := by
  have hv := h.v
  subst hv
  exact Ch.new hb
theorem mem_above {f : Nat → List Int} {t : Int} {g : Nat} (hg : g < 32) (h0 : f g ≠ []) (ht : t < (g : Int)) : g ∈ lst (btw (dgK f 32) t 32) 32 := by
  refine (mem_lst _ _ _).2 ⟨hg, ?_⟩
  rw [btw_bit _ _ _ _ hg, dgK_bit f 32 (Nat.le_refl _) g hg]
  have h1 : (f g).length ≠ 0 := by simpa using h0
  have h2 : (g : Int) < 32 := by omega
  simp [hg, h0, ht, h2]
/-- The last degree of which there is a message. -/
theorem last_deg (f : Nat → List Int) : ∀ n, many f n ≠ 0 → ∃ g, g < n ∧ f g ≠ [] ∧ ∀ e, g < e → e < n → f e = []
  | 0, h => (h rfl).elim
  | n + 1, h => by
    by_cases hn : f n = []
    · obtain ⟨g, h1, h2, h3⟩ := last_deg f n (fun e => h (by show many f n + (f n).length = 0; rw [e, hn]; rfl))
      exact ⟨g, by omega, h2, fun e h4 h5 => by
        rcases Nat.lt_or_ge e n with h6 | h6
        · exact h3 e h4 h6
        · obtain rfl : e = n := by omega
          exact hn⟩
    · exact ⟨n, by omega, hn, fun e h4 h5 => by omega⟩
/-- The degree of the last of all. -/
theorem told_last {f : Nat → List Int} {m g : Nat} (hm : many f 32 = m + 1) (hg : g < 32) (h0 : f g ≠ []) (hl : ∀ e, g < e → e < 32 → f e = []) : (pth (toldF f) m).1 = (g : Int) := by
  have hs : seg f (g + 1) (31 - g) = [] := seg_nil _ _ (fun e h1 h2 => hl e (by omega) (by omega))
  have hlen := toldF_len f
  rw [told_at f hg, hs, List.append_nil] at hlen ⊢
  rw [List.length_append] at hlen
  have hn : 0 < (nts f g).length := by unfold nts; rw [List.length_map]; exact List.length_pos_iff.2 h0
  rw [pth_app_right _ _ _ (by omega)]
  have := pth_mem (nts f g) (m - (seg f 0 g).length) (by omega)
  obtain ⟨z, _, hz⟩ := List.mem_map.1 this
  rw [← hz]
theorem above_none {f : Nat → List Int} {m : Nat} {t : Int} (hm : many f 32 = m + 1) (h : (pth (toldF f) m).1 ≤ t) : btw (dgK f 32) t 32 = 0#32 := by
  obtain ⟨g, hg, h0, hl⟩ := last_deg f 32 (by omega)
  rw [told_last hm hg h0 hl] at h
  by_cases e : btw (dgK f 32) t 32 = 0#32
  · exact e
  · obtain ⟨k, _, hk, _⟩ := last_mem e
    obtain ⟨k1, k2, k3⟩ := above_mem hk
    exact absurd (hl k (by omega) k1) (by simpa using k2)
theorem above_some {f : Nat → List Int} {m : Nat} {t : Int} (hm : many f 32 = m + 1) (h : t < (pth (toldF f) m).1) :
    ∃ g : Nat, btw (dgK f 32) t 32 ≠ 0#32 ∧ lastI (btw (dgK f 32) t 32) = (g : Int) ∧ t < (g : Int) ∧ g < 32 ∧ f g ≠ [] ∧ (toldF f).dropLast = toldF (updF f g (f g).dropLast) := by
  obtain ⟨g, hg, h0, hl⟩ := last_deg f 32 (by omega)
  rw [told_last hm hg h0 hl] at h
  have hmem := mem_above hg h0 h
  have hne : btw (dgK f 32) t 32 ≠ 0#32 := fun e => by
    obtain ⟨h1, h2⟩ := (mem_lst _ _ _).1 hmem
    rw [e] at h2; simp at h2
  obtain ⟨k, k1, k2, k3⟩ := last_mem hne
  obtain ⟨k4, k5, k6⟩ := above_mem k2
  have hgk := k3 g hmem
  have hkg : k = g := by
    rcases Nat.lt_or_ge g k with h5 | h5
    · exact absurd (hl k h5 k4) (by simpa using k5)
    · omega
  subst hkg
  exact ⟨k, hne, k1, h, hg, h0, told_init f hg h0 hl⟩
theorem many_init {f : Nat → List Int} {g : Nat} (hg : g < 32) (h0 : f g ≠ []) : many (updF f g (f g).dropLast) 32 + 1 = many f 32 := by
  have h1 := many_upd f g (f g).dropLast 32 hg
  have h2 : (f g).length ≠ 0 := by simpa using h0
  rw [List.length_dropLast] at h1
  omega
theorem many_push (f : Nat → List Int) {d : Nat} (hd : d < 32) (x : Int) : many (updF f d (f d ++ [x])) 32 = many f 32 + 1 := by
  have h1 := many_upd f d (f d ++ [x]) 32 hd
  rw [List.length_append] at h1
  have h2 : [x].length = 1 := rfl
  omega
/-- What a send makes of all that is there: the messages then, whether one went, the error. -/
inductive SendIs (rm a x : Int) (f : Nat → List Int) : (Nat → List Int) → Bool → Int → Prop
  | bad (h : ¬ (0 ≤ a ∧ a < 32)) : SendIs rm a x f f false 104
  | room (d : Nat) (hd : d < 32) (ha : a = (d : Int)) (h : (many f 32 : Int) < rm) : SendIs rm a x f (updF f d (f d ++ [x])) false 0
  | over (d m : Nat) (hd : d < 32) (ha : a = (d : Int)) (h : (many f 32 : Int) = rm) (hm : many f 32 = m + 1) (hl : (pth (toldF f) m).1 ≤ a) : SendIs rm a x f f false 271
  | gives (d m g : Nat) (hd : d < 32) (ha : a = (d : Int)) (h : (many f 32 : Int) = rm) (hm : many f 32 = m + 1) (hl : a < (pth (toldF f) m).1) (hne : btw (dgK f 32) (d : Int) 32 ≠ 0#32) (hg : lastI (btw (dgK f 32) (d : Int) 32) = (g : Int)) (hdg : d < g) (hg3 : g < 32) (h0 : f g ≠ []) (hi : (toldF f).dropLast = toldF (updF f g (f g).dropLast)) :
      SendIs rm a x f (updF (updF f g (f g).dropLast) d (f d ++ [x])) true 0
theorem SendIs.any (rm a x : Int) (f : Nat → List Int) (hr : 1 ≤ rm) (hm : (many f 32 : Int) ≤ rm) : ∃ f' went code, SendIs rm a x f f' went code := by
  by_cases ha : 0 ≤ a ∧ a < 32
  · obtain ⟨d, rfl⟩ := Int.eq_ofNat_of_zero_le ha.1
    have hd : d < 32 := by omega
    by_cases h : (many f 32 : Int) < rm
    · exact ⟨_, _, _, .room d hd rfl h⟩
    · obtain ⟨m, hmm⟩ : ∃ m, many f 32 = m + 1 := ⟨many f 32 - 1, by omega⟩
      by_cases hl : (pth (toldF f) m).1 ≤ (d : Int)
      · exact ⟨_, _, _, .over d m hd rfl (by omega) hmm hl⟩
      · obtain ⟨g, h1, h2, h3, h4, h5, h6⟩ := above_some hmm (Int.not_le.1 hl)
        exact ⟨_, _, _, .gives d m g hd rfl (by omega) hmm (Int.not_le.1 hl) h1 h2 (by omega) h4 h5 h6⟩
  · exact ⟨_, _, _, .bad ha⟩
/-- There are never more than there is room for, nor more than one more than before. -/
theorem SendIs.many {rm a x : Int} {f f' : Nat → List Int} {went : Bool} {code : Int} (h : SendIs rm a x f f' went code) (hm : (many f 32 : Int) ≤ rm) : (Go.Proofs.YtbdcjfkplopbiaaDoor.many f' 32 : Int) ≤ rm ∧ Go.Proofs.YtbdcjfkplopbiaaDoor.many f' 32 ≤ Go.Proofs.YtbdcjfkplopbiaaDoor.many f 32 + 1 := by
  cases h with
  | bad h => exact ⟨hm, by omega⟩
  | room d hd ha h => rw [many_push f hd]; exact ⟨by omega, by omega⟩
  | over d m hd ha h hmm hl => exact ⟨hm, by omega⟩
  | gives d m g hd ha h hmm hl hne hg hdg hg3 h0 hi =>
    have h1 := many_init hg3 h0
    have h2 := many_push (updF f g (f g).dropLast) hd x
    rw [updF_ne _ _ _ _ (show d ≠ g by omega)] at h2
    rw [h2]
    exact ⟨by omega, by omega⟩
/-- The program's Send. -/
theorem SendIs.prog {rm a x : Int} {f f' : Nat → List Int} {went : Bool} {code : Int} (h : SendIs rm a x f f' went code) {w : World} {V : Nat → Prop} {B : Nat} (hB : BAt w V B rm f) (hV : ∀ j, V j → j < w.heap.size) (ht : Tab w) (hm : Go.Proofs.YtbdcjfkplopbiaaDoor.many f 32 ≤ 65536) :
    Calls Tryd.prog 8 #[.pointer (some ⟨B, 0, none⟩), .agg #[.int .i64 a, .int .i64 x]] w fun e w' => e = .returned (.tuple #[.bool went, .int .i64 code]) ∧ BAt w' V B rm f' ∧ Ch (fun j => ¬ V j) w w' := by
  have hlow : ∀ w', Below w.heap.size w w' → Ch (fun j => ¬ V j) w w' := fun w' hb => (Ch.new hb)
  cases h with
  | bad h => exact (send_bad a x h).mono fun e w' ⟨h1, h2⟩ => ⟨h1, hB.new h2, hlow _ h2⟩
  | room d hd ha h => subst ha; exact send_room hB hV d x hd hm (by omega)
  | over d m hd ha h hmm hl => subst ha; exact (send_over hB ht d x hd hm h (above_none hmm hl)).mono fun e w' ⟨h1, h2⟩ => ⟨h1, hB.new h2, hlow _ h2⟩
  | gives d m g hd ha h hmm hl hne hg hdg hg3 h0 hi => subst ha; exact send_gives hB hV ht d x hd hm h g hne hg hdg hg3 (by simpa using h0)
/-- What the law's send hands back: a row of all that is there then, either the elder one or a new one. -/
def LOut (w w' : World) (sp : Option Addr) (N cap : Nat) (f' : Nat → List Int) (went : Bool) (code : Int) (e : Ending) : Prop :=
  (e = .returned (.tuple #[.slice sp N cap, .bool went, .int .i64 code]) ∧ (toldF f').length = N ∧ NL w' sp (toldF f') ∧ Below w.heap.size w w') ∨
    ∃ v, e = .returned (.tuple #[v, .bool went, .int .i64 code]) ∧ w'.ownsRow w.heap.size 30 2 v (toldF f').length (prow (toldF f')) ∧ Below w.heap.size w w'
theorem SendIs.law {rm a x : Int} {f f' : Nat → List Int} {went : Bool} {code : Int} (h : SendIs rm a x f f' went code) {w : World} {sp : Option Addr} {cap : Nat} (hL : NL w sp (toldF f)) (hcap : (toldF f).length ≤ cap) (hN : (toldF f).length ≤ 1000) (hsn : (sp = none ∧ cap = 0) ∨ ∃ b o, sp = some ⟨b, o, none⟩) :
    Calls Tryd.prog 9 #[.int .i64 rm, .slice sp (toldF f).length cap, .agg #[.int .i64 a, .int .i64 x]] w fun e w' => LOut w w' sp (toldF f).length cap f' went code e := by
  have hlen := toldF_len f
  cases h with
  | bad h => exact (lsend_bad h).mono fun e w' ⟨h1, h2⟩ => .inl ⟨h1, rfl, hL.new h2, h2⟩
  | room d hd ha h =>
    subst ha
    refine (lsend_room hL hcap hN hsn (by omega) (by omega)).mono fun e w' ⟨k, v, hk, h1, h2, h3⟩ => .inr ⟨v, h1, ?_, h3⟩
    rw [told_put f hd hk, ] at h2
    rwa [toldF_len, many_push f hd, ← toldF_len]
  | over d m hd ha h hmm hl =>
    subst ha
    exact (lsend_over hL (by omega) m (by omega) hN (by omega) hl).mono fun e w' ⟨h1, h2⟩ => .inl ⟨h1, rfl, hL.new h2, h2⟩
  | gives d m g hd ha h hmm hl hne hg hdg hg3 h0 hi =>
    subst ha
    refine (lsend_gives hL hcap hN (by omega) m (by omega) (by omega) hl).mono fun e w' ⟨k, v, hk, h1, h2, h3⟩ => .inr ⟨v, h1, ?_, h3⟩
    rw [hi] at hk h2
    have e1 := updF_ne f g (f g).dropLast d (show d ≠ g by omega)
    have e2 := told_put (updF f g (f g).dropLast) hd hk (x := x)
    have e3 := many_push (updF f g (f g).dropLast) hd x
    rw [e1] at e2 e3
    rw [e2] at h2
    rwa [toldF_len, e3, ← toldF_len]
end Go.Proofs.YtbdcjfkplopbiaaDoor
