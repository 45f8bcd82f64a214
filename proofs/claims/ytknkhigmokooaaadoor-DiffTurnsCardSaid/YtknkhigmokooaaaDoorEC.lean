/- The contracts of diff's sets and of slices' Equal of queues. -/
import Derived.Test.YtknkhigmokooaaaDoorEB
import Derived.Test.YtknkhigmokooaaaDoorJZ
namespace Go.Proofs.YtknkhigmokooaaaDoor
open Go.RowKit

def rowU (l : List ModeM) : List Value := l.map fun m => .int .u32 (w32 m.tasks)
theorem one_newU (A : World) (x : Value) (t : TypeId) : ∀ j v, [x][j]? = some v → (A.alloc (.cells #[x] t)).cell? ((⟨A.heap.size, 0, none⟩ : Addr).add j) = some v :=
  World.news_of_block (World.alloc_heap_new A (.cells #[x] t))
theorem one_newV (A : World) (o : Obj) (x : Value) (t : TypeId) : ∀ j v, [x][j]? = some v → ((A.alloc o).alloc (.cells #[x] t)).cell? ((⟨A.heap.size + 1, 0, none⟩ : Addr).add j) = some v := by
  have := one_newU (A.alloc o) x t
  rwa [World.size_alloc] at this
theorem infoU32 : (Tryd.prog.info? 27).map (fun i => (i.zero, i.size, i.bytes)) = some (some (.int .u32 0), 1, 4) := by kernel_rfl
set_option maxHeartbeats 4000000 in
set_option maxRecDepth 100000 in
theorem sets_any {w : World} {V : Nat → Prop} {x : Img} {S : ImgS} (h : ImgAt w V x S) (hn : x.modes.length ≤ 100) :
    Calls Tryd.prog 73 #[.slice S.m.sp x.modes.length S.m.c] w fun e w' => ∃ v, e = .returned v ∧ w'.ownsRow w.heap.size 27 1 v x.modes.length (rowU x.modes) ∧ Below w.heap.size w w' := by
  obtain ⟨i0, hi, hz0, hz1, hz2⟩ := info_parts infoU32
  have HI := Lib.hid h
  have HT0 := Lib.hid (show rowU (x.modes.take 0) = [] from rfl)
  have HTf := Lib.hid (show rowU (x.modes.take x.modes.length) = rowU x.modes by rw [List.take_length])
  have HTs := Lib.hid (show ∀ k, k < x.modes.length → rowU (x.modes.take (k + 1)) = rowU (x.modes.take k) ++ [.int .u32 (w32 (x.m k).tasks)] from fun k hk => by
    rw [List.take_succ_eq_append_getElem hk]
    show List.map _ _ = List.map _ _ ++ _
    rw [List.map_append]
    unfold Img.m
    congr 1
    simp [hk])
  have HSp := Lib.hid (fun (h0 : 0 < x.modes.length) => (h.sm.at_ h0).1)
  obtain ⟨n, hN⟩ : ∃ n, x.modes.length = n := ⟨_, rfl⟩
  have HNN := Lib.hid hN
  obtain ⟨sp, hsp⟩ : ∃ s, S.m.sp = s := ⟨_, rfl⟩
  rw [hN] at HTf HTs HSp hn ⊢
  rw [hsp] at HSp ⊢
  clear h hN hsp
  go_enter Tryd.func73, Tryd.ntmps73
  go_wp2
  go_loopg [3, 8] n (fun g u v wr => ∃ k : Nat, k + g = n ∧ v = .int .i64 (k : Nat) ∧ Aside (Below w.heap.size w wr ∧ wr.ownsRow w.heap.size 27 1 u k (rowU (x.modes.take k))))
  case atStart => exact ⟨0, by omega, rfl, Below.refl _ _, by rw [HT0.out]; exact World.ownsRow_nil _ _ _ _⟩
  case round =>
    obtain ⟨k, hkg, rfl, HR⟩ := hrel
    obtain ⟨sp', cap, rfl⟩ := own_val HR.out.2
    cases gk with
    | zero =>
      obtain rfl : k = n := by omega
      go_wp2
      go_ret
      exact ⟨_, rfl, by rw [← HTf.out]; exact HR.out.2, HR.out.1⟩
    | succ g1 =>
      have hk : k < n := by omega
      have hk2 : (k : Int) < (n : Int) := by omega
      have hk3 : (k : Int) < 100 := by omega
      obtain rfl := HSp.out (by omega)
      have HIw := Lib.hid (HI.out.new HR.out.1)
      obtain ⟨q0, q1, -⟩ := HIw.out.md k (by rw [HNN.out]; exact hk)
      have HTk := Lib.hid (HTs.out k hk)
      obtain ⟨t, ht⟩ : ∃ t, (x.m k).tasks = t := ⟨_, rfl⟩
      rw [ht] at q0 HTk
      clear ht
      have HqW := Lib.hid HR.out.1
      have HqO := Lib.hid HR.out.2
      clear HR
      go_wp2_with (first
        | (at_builtin; refine wpList_append_vary rfl (.tmp 12) (.tmp 15) 129 rfl w.heap.size 27 i0 (.int .u32 0) 1 4 Tryd.underlying129 hi hz0 hz1 hz2 rfl (by decide) (.slice sp' k cap) k _ rfl ((HqO.out.alloc _).alloc _) (some ⟨wr.heap.size + 1, 0, none⟩) 1 1 [.int .u32 (w32 t)] rfl rfl (fun h => nomatch h) (fun ad h => by obtain rfl := Option.some.inj h; exact one_newV _ _ _ _) (by simp [Value.oneCell']) (by unfold maxLen; omega) (by omega) (by have := HqW.out.size; simp; omega) ?_; intro v' w4 hown' hgrow hat; obtain ⟨sp2, cap2, rfl⟩ := own_val hown'; have H4 := Lib.hid (And.intro (Below.grown (below_alloc (below_alloc HqW.out (Nat.le_refl _) _) (Nat.le_refl _) _) hgrow (by have := HqW.out.size; simp; omega) (fun j e => own_ge HqO.out j e)) hown'); clear hown' hgrow hat)
        | fail)
      go_roundg g1
      case measure => omega
      case rel =>
        refine ⟨k + 1, by omega, by go_num, H4.out.1, ?_⟩
        rw [HTk.out]
        exact H4.out.2
end Go.Proofs.YtknkhigmokooaaaDoor
