import Derived.Test.YtllohclpaggfbaaNumF
namespace Go.Proofs
open Go.RowKit
set_option linter.unusedVariables false

theorem addN_comm (x y : Int) : addN y x = addN x y := by unfold addN; rw [Int.add_comm]
theorem addF_comm (x y : Int) : addF y x = addF x y := by unfold addF; rw [Int.add_comm]
theorem mulN_comm (x y : Int) : mulN y x = mulN x y := by unfold mulN; rw [Int.mul_comm]
theorem mulF_comm (x y : Int) : mulF y x = mulF x y := by unfold mulF; rw [Int.mul_comm]

set_option maxHeartbeats 4000000 in
theorem turns_ge (x y : Int) (hx : 0 ≤ x) (hy : 0 ≤ y) (hx1 : x < 18446744073709551616) (hy1 : y < 18446744073709551616) (h : y ≤ x) (w : World) :
    Calls Try.prog 5 #[.int .u64 x, .int .u64 y] w fun e w' => e = .returned (.bool true) ∧ Below w.heap.size w w' := by
  have A := fun w => num_add x y hx hy hx1 hy1 w
  have B := fun w => num_add y x hy hx hy1 hx1 w
  have M := fun w => num_mul x y hx hy hx1 hy1 w
  have N := fun w => num_mul y x hy hx hy1 hx1 w
  have S := fun w => sub_fits x y hx hy hx1 hy1 h w
  have C := fun w => num_add (x - y) y (by omega) hy (by omega) hy1 w
  have T := fun w => num_subS x y hx hy hx1 hy1 w
  have U := fun w => num_subS y x hy hx hy1 hx1 w
  have V := fun w => num_addS (x - y) 0 (by omega) (by omega) (by omega) (by omega) w
  rw [addN_comm, addF_comm] at B
  rw [mulN_comm, mulF_comm] at N
  rw [show addN (x - y) y = x by unfold addN; rw [if_pos (by omega)]; omega, show addF (x - y) y = true from decide_eq_true (by omega)] at C
  rw [show subS x y = x - y by unfold subS; rw [if_neg (by omega)]] at T
  rw [show subS y x = 0 by unfold subS; split <;> omega] at U
  rw [show addS (x - y) 0 = x - y by unfold addS; rw [if_pos (by omega)]; omega] at V
  have hmx : max x y = x := by omega
  have hmn : min x y = y := by omega
  clear h
  go_enter Try.func5, Try.ntmps5
  go_wp2_with (first
    | (go_at_call 8; (with_reducible refine (A _).mono ?_); rintro e w1 ⟨rfl, hb1⟩)
    | (go_at_call 8; (with_reducible refine (B _).mono ?_); rintro e w2 ⟨rfl, hb2⟩)
    | (go_at_call 8; (with_reducible refine (C _).mono ?_); rintro e w6 ⟨rfl, hb6⟩)
    | (go_at_call 12; (with_reducible refine (M _).mono ?_); rintro e w3 ⟨rfl, hb3⟩)
    | (go_at_call 12; (with_reducible refine (N _).mono ?_); rintro e w4 ⟨rfl, hb4⟩)
    | (go_at_call 10; (with_reducible refine (S _).mono ?_); rintro e w5 ⟨rfl, hb5⟩)
    | (go_at_call 16; (with_reducible refine (T _).mono ?_); rintro e w9 ⟨rfl, rfl⟩)
    | (go_at_call 16; (with_reducible refine (U _).mono ?_); rintro e w9 ⟨rfl, rfl⟩)
    | (go_at_call 15; (with_reducible refine (V _).mono ?_); rintro e w9 ⟨rfl, rfl⟩)
    | (go_at_call 14; refine (known_any _).mono ?_; rintro e w7 ⟨rfl, hb7⟩))
  go_ret
  have s1 := hb1.size
  have s2 := hb2.size
  have s3 := hb3.size
  have s4 := hb4.size
  have s5 := hb5.size
  have s6 := hb6.size
  exact ⟨rfl, hb1.trans ((hb2.mono s1).trans ((hb3.mono (by omega)).trans ((hb4.mono (by omega)).trans ((hb5.mono (by omega)).trans ((hb6.mono (by omega)).trans (hb7.mono (by omega)))))))⟩
set_option maxHeartbeats 4000000 in
theorem turns_lt (x y : Int) (hx : 0 ≤ x) (hy : 0 ≤ y) (hx1 : x < 18446744073709551616) (hy1 : y < 18446744073709551616) (h : x < y) (w : World) :
    Calls Try.prog 5 #[.int .u64 x, .int .u64 y] w fun e w' => e = .returned (.bool true) ∧ Below w.heap.size w w' := by
  have A := fun w => num_add x y hx hy hx1 hy1 w
  have B := fun w => num_add y x hy hx hy1 hx1 w
  have M := fun w => num_mul x y hx hy hx1 hy1 w
  have N := fun w => num_mul y x hy hx hy1 hx1 w
  have S := fun w => sub_over x y hx hy hx1 hy1 h w
  have T := fun w => num_subS x y hx hy hx1 hy1 w
  have U := fun w => num_subS y x hy hx hy1 hx1 w
  have V := fun w => num_addS 0 (y - x) (by omega) (by omega) (by omega) (by omega) w
  rw [addN_comm, addF_comm] at B
  rw [mulN_comm, mulF_comm] at N
  rw [show subS x y = 0 by unfold subS; rw [if_pos (by omega)]] at T
  rw [show subS y x = y - x by unfold subS; rw [if_neg (by omega)]] at U
  rw [show addS 0 (y - x) = y - x by unfold addS; rw [if_pos (by omega)]; omega] at V
  have hmx : max x y = y := by omega
  have hmn : min x y = x := by omega
  clear h
  go_enter Try.func5, Try.ntmps5
  go_wp2_with (first
    | (go_at_call 8; (with_reducible refine (A _).mono ?_); rintro e w1 ⟨rfl, hb1⟩)
    | (go_at_call 8; (with_reducible refine (B _).mono ?_); rintro e w2 ⟨rfl, hb2⟩)
    | (go_at_call 12; (with_reducible refine (M _).mono ?_); rintro e w3 ⟨rfl, hb3⟩)
    | (go_at_call 12; (with_reducible refine (N _).mono ?_); rintro e w4 ⟨rfl, hb4⟩)
    | (go_at_call 10; (with_reducible refine (S _).mono ?_); rintro e w5 ⟨rfl, hb5⟩)
    | (go_at_call 16; (with_reducible refine (T _).mono ?_); rintro e w9 ⟨rfl, rfl⟩)
    | (go_at_call 16; (with_reducible refine (U _).mono ?_); rintro e w9 ⟨rfl, rfl⟩)
    | (go_at_call 15; (with_reducible refine (V _).mono ?_); rintro e w9 ⟨rfl, rfl⟩)
    | (go_at_call 14; refine (known_any _).mono ?_; rintro e w7 ⟨rfl, hb7⟩))
  go_ret
  have s1 := hb1.size
  have s2 := hb2.size
  have s3 := hb3.size
  have s4 := hb4.size
  have s5 := hb5.size
  exact ⟨rfl, hb1.trans ((hb2.mono s1).trans ((hb3.mono (by omega)).trans ((hb4.mono (by omega)).trans ((hb5.mono (by omega)).trans (hb7.mono (by omega))))))⟩
theorem turns_any (x y : Int) (hx : 0 ≤ x) (hy : 0 ≤ y) (hx1 : x < 18446744073709551616) (hy1 : y < 18446744073709551616) (w : World) :
    Calls Try.prog 5 #[.int .u64 x, .int .u64 y] w fun e w' => e = .returned (.bool true) ∧ Below w.heap.size w w' := by
  by_cases h : y ≤ x
  · exact turns_ge x y hx hy hx1 hy1 h w
  · exact turns_lt x y hx hy hx1 hy1 (by omega) w
end Go.Proofs
