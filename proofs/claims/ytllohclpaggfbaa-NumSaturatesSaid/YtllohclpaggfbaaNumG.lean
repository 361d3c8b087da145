import Derived.Test.YtllohclpaggfbaaNumF
namespace Go.Proofs
open Go.RowKit
set_option linter.unusedVariables false

theorem addS_yes (x y : Int) (h : addF x y = true) : addS x y = addN x y := by
  have h := of_decide_eq_true h
  unfold addS addN; rw [if_pos h, if_pos h]
theorem addS_no (x y : Int) (h : addF x y = false) : addS x y = 18446744073709551615 := by
  have h := of_decide_eq_false h
  unfold addS; rw [if_neg h]
theorem subS_yes (x y : Int) : subS x y = subN x y := rfl
theorem subN_no (x y : Int) (h : subF x y = false) : subN x y = 0 := by
  have h := of_decide_eq_false h
  unfold subN; rw [if_pos (by omega)]
theorem mulS_yes (x y : Int) (h : mulF x y = true) : mulS x y = mulN x y := by
  have h := of_decide_eq_true h
  unfold mulS mulN; rw [if_pos h, if_pos h]
theorem mulS_no (x y : Int) (h : mulF x y = false) : mulS x y = 18446744073709551615 := by
  have h := of_decide_eq_false h
  unfold mulS; rw [if_neg h]

set_option maxHeartbeats 4000000 in
theorem saturates_any (x y : Int) (hx : 0 ≤ x) (hy : 0 ≤ y) (hx1 : x < 18446744073709551616) (hy1 : y < 18446744073709551616) (w : World) :
    Calls Try.prog 4 #[.int .u64 x, .int .u64 y] w fun e w' => e = .returned (.bool true) ∧ Below w.heap.size w w' := by
  have A := fun w => num_addS x y hx hy hx1 hy1 w
  have S := fun w => num_subS x y hx hy hx1 hy1 w
  have M := fun w => num_mulS x y hx hy hx1 hy1 w
  have a := fun w => ref_add x y hx hy hx1 hy1 w
  have s := fun w => ref_sub x y hx hy hx1 hy1 w
  have m := fun w => ref_mul x y hx hy hx1 hy1 w
  rw [subS_yes] at S
  cases hA : addF x y <;> cases hS : subF x y <;> cases hM : mulF x y
  all_goals
    first | rw [addS_yes x y hA] at A | rw [addS_no x y hA] at A
    first | rw [mulS_yes x y hM] at M | rw [mulS_no x y hM] at M
    try rw [subN_no x y hS] at S
    rw [hA] at a
    rw [hS] at s
    rw [hM] at m
    clear hA hS hM
    go_enter Try.func4, Try.ntmps4
    go_wp2_with (first
      | (go_at_call 15; refine (A _).mono ?_; rintro e w1 ⟨rfl, rfl⟩)
      | (go_at_call 16; refine (S _).mono ?_; rintro e w1 ⟨rfl, rfl⟩)
      | (go_at_call 17; refine (M _).mono ?_; rintro e w1 ⟨rfl, rfl⟩)
      | (go_at_call 9; refine (a _).mono ?_; rintro e w1 ⟨rfl, rfl⟩)
      | (go_at_call 11; refine (s _).mono ?_; rintro e w1 ⟨rfl, rfl⟩)
      | (go_at_call 13; refine (m _).mono ?_; rintro e w1 ⟨rfl, rfl⟩)
      | (go_at_call 14; refine (known_any _).mono ?_; rintro e w5 ⟨rfl, hb5⟩))
    go_ret
    exact ⟨rfl, hb5⟩
end Go.Proofs
