import Derived.Test.YtllohclpaggfbaaNumC
import Derived.RangeFuncNested
import Derived.RangeFuncBound
import Derived.RangeFuncCalls
import Derived.RangeFuncLeaves
import Derived.Shelf.Abstract
import Derived.Shelf.RegionOpen
import Derived.OwnWalkIn
import Derived.TacticsInMore
import Derived.LoopNIn
import Derived.LoopIn
namespace Go.Proofs
open Go.RowKit Go.Shelf
set_option linter.unusedVariables false
attribute [local go_sem] Oper.semAt_some

theorem all_any (s : Int) (w : World) :
    Calls Try.prog 28 #[.int .u8 s] w fun e w' => e = .returned (.func (.func 38) #[] #[.pointer (some ⟨w.heap.size, 0, none⟩)]) ∧ w' = w.alloc (.cells #[.int .u8 s] 5) := by
  go_enter Try.func28, Try.ntmps28
  go_wp2
  go_ret
  exact ⟨rfl, rfl⟩

/-- Those below k in the set, rising. -/
def upL (s : Int) (k : Nat) : List Int := ((List.range k).map Int.ofNat).filter (bitOf s)
theorem upL_yes (s : Int) (k : Nat) (h : bitOf s k = true) : upL s (k + 1) = upL s k ++ [(k : Int)] := by
  unfold upL
  rw [List.range_succ, List.map_append, List.filter_append]
  simp [h]
theorem upL_no (s : Int) (k : Nat) (h : bitOf s k = false) : upL s (k + 1) = upL s k := by
  unfold upL
  rw [List.range_succ, List.map_append, List.filter_append]
  simp [h]
theorem upL_8 (s : Int) : upL s 8 = allL s := rfl
theorem upL_len (s : Int) (k : Nat) : (upL s k).length ≤ k := by
  unfold upL
  exact Nat.le_trans (List.length_filter_le _ _) (by simp)
theorem upL_pre (s : Int) (k j : Nat) (h : k ≤ j) : upL s k <+: upL s j := by
  induction j with
  | zero => obtain rfl : k = 0 := by omega
            exact List.prefix_refl _
  | succ j ih =>
    by_cases e : k = j + 1
    · subst e; exact List.prefix_refl _
    · have := ih (by omega)
      cases hb : bitOf s j with
      | true => rw [upL_yes s j hb]; exact this.trans (List.prefix_append _ _)
      | false => rw [upL_no s j hb]; exact this

set_option maxRecDepth 100000 in
set_option maxHeartbeats 1000000 in
theorem all1_in (n : Nat) (hn : 1 ≤ n) (l Bn : Nat) (s : Int) (s0 : 0 ≤ s) (s1 : s < 256) (J Jx : List Int → World → Prop)
    (hY : ∀ pre x W, J pre W → pre.length < 8 → YieldAt Fence.wide (n - 1) Try.prog l #[.int .i64 x] W fun e W' =>
      (e = .returned (.bool true) ∧ J (pre ++ [x]) W' ∧ W'.cell? ⟨Bn, 0, none⟩ = W.cell? ⟨Bn, 0, none⟩) ∨ (e = .returned (.bool false) ∧ Jx (pre ++ [x]) W'))
    (W : World) (hBn : W.cell? ⟨Bn, 0, none⟩ = some (.int .u8 s)) (h0 : J [] W) :
    CallsIn Fence.wide n Try.prog 38 #[.func (.yield l) #[] #[], .pointer (some ⟨Bn, 0, none⟩)] W fun e W' => (∃ v, e = .returned v) ∧
      ((∃ ys, ys = allL s ∧ J ys W') ∨ (∃ pre, pre <+: allL s ∧ Jx pre W')) := by
  refine callsIn_of_wp Try.func38 rfl trivial ?_ rfl
  simp only [Try.ntmps38, List.size_toArray, List.length_cons, List.length_nil, Nat.reduceAdd, Nat.reduceSub, Array.replicate_succ, Array.replicate_zero, List.push_toArray, List.append_toArray, List.nil_append, List.cons_append]
  gi_wp2
  gi_loopw [4] (fun i wr => ∃ k : Nat, k ≤ 8 ∧ i = .int .i64 k ∧ wr.cell? ⟨Bn, 0, none⟩ = some (.int .u8 s) ∧ J (upL s k) wr)
    (fun i wr => 8 - (intOf i).toNat)
  case atStart => exact ⟨0, by omega, rfl, hBn, h0⟩
  case round =>
    obtain ⟨k, hk, rfl, hc, hJ⟩ := hrel
    by_cases hlt : k < 8
    · cases hb : bitOf s (k : Int) with
      | true =>
        obtain ⟨fn, tmps, assign, body, hy, hR⟩ := hY (upL s k) (k : Int) wr hJ (by have := upL_len s k; omega)
        gi_wp2_with (refine ⟨trivial, ?_⟩; gi_at_call 19; refine (callsIn_wide.2 (has_any s _ s0 s1 _)).mono ?_; rintro e w' ⟨rfl, rfl⟩)
        refine hR.mono ?_
        rintro e W3 (⟨rfl, hJ3, hk3⟩ | ⟨rfl, hJx3⟩)
        · gi_wp2
          go_roundw
          case rel => exact ⟨k + 1, by omega, by go_num, hk3.trans hc, by rw [upL_yes s k hb]; exact hJ3⟩
          case measure => simp [intOf]; omega
        · gi_wp2
          refine bodyPost_ret (results_none rfl _ _ _) rfl ?_
          exact ⟨⟨_, rfl⟩, .inr ⟨upL s k ++ [(k : Int)], by rw [← upL_yes s k hb, ← upL_8]; exact upL_pre s _ _ (by omega), hJx3⟩⟩
      | false =>
        gi_wp2_with (refine ⟨trivial, ?_⟩; gi_at_call 19; refine (callsIn_wide.2 (has_any s _ s0 s1 _)).mono ?_; rintro e w' ⟨rfl, rfl⟩)
        refine ⟨fun _ h => (by cases h), ?_⟩
        gi_wp2
        go_roundw
        case rel => exact ⟨k + 1, by omega, by go_num, hc, by rw [upL_no s k hb]; exact hJ⟩
        case measure => simp [intOf]; omega
    · obtain rfl : k = 8 := by omega
      gi_wp2
      go_end0
      exact ⟨⟨_, rfl⟩, .inl ⟨_, rfl, hJ⟩⟩
end Go.Proofs
