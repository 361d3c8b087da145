import Derived.Test.YtllohclpaggfbaaNumA
namespace Go.Proofs
open Go.RowKit
set_option linter.unusedVariables false

theorem mul64_fits (x y : Int) (hx : 0 ≤ x) (hy : 0 ≤ y) (hx1 : x < 18446744073709551616) (hy1 : y < 18446744073709551616) (h : x * y < 18446744073709551616) (w : World) :
    Calls Try.prog 40 #[.int .u64 x, .int .u64 y] w fun e w' => e = .returned (.tuple #[.int .u64 0, .int .u64 (mulN x y)]) ∧ w = w' := by
  obtain ⟨a, rfl⟩ := Int.eq_ofNat_of_zero_le hx
  obtain ⟨b, rfl⟩ := Int.eq_ofNat_of_zero_le hy
  have hp : a * b < 18446744073709551616 := by have e : ((a * b : Nat) : Int) = (a : Int) * b := Int.natCast_mul a b; omega
  refine (Try.bits_Mul64 a b (by omega) (by omega) w).mono fun e w' ⟨he, hw⟩ => ⟨?_, hw.symm⟩
  rw [he, Nat.div_eq_of_lt hp, Nat.mod_eq_of_lt hp]
  unfold mulN; rw [if_pos h]; simp

def Over (w : World) (e : Ending) (w' : World) : Prop := ∃ h l : Int, (h == 0) = false ∧ e = .returned (.tuple #[.int .u64 h, .int .u64 l]) ∧ w = w'
theorem mul64_over (x y : Int) (hx : 0 ≤ x) (hy : 0 ≤ y) (hx1 : x < 18446744073709551616) (hy1 : y < 18446744073709551616) (h : ¬ x * y < 18446744073709551616) (w : World) :
    Calls Try.prog 40 #[.int .u64 x, .int .u64 y] w (Over w) := by
  obtain ⟨a, rfl⟩ := Int.eq_ofNat_of_zero_le hx
  obtain ⟨b, rfl⟩ := Int.eq_ofNat_of_zero_le hy
  have hp : 18446744073709551616 ≤ a * b := by have e : ((a * b : Nat) : Int) = (a : Int) * b := Int.natCast_mul a b; omega
  refine (Try.bits_Mul64 a b (by omega) (by omega) w).mono fun e w' ⟨he, hw⟩ => ⟨_, _, ?_, he, hw.symm⟩
  have : 0 < a * b / 18446744073709551616 := Nat.div_pos hp (by decide)
  simp; omega

set_option maxHeartbeats 1000000 in
theorem mul_exact_fits (x y : Int) (hx : 0 ≤ x) (hy : 0 ≤ y) (hx1 : x < 18446744073709551616) (hy1 : y < 18446744073709551616) (h : x * y < 18446744073709551616) (w : World) :
    Calls Try.prog 31 #[.int .u64 x, .int .u64 y] w fun e w' => e = .returned (.agg #[.int .u64 (mulN x y), .bool true]) ∧ Below w.heap.size w w' := by
  have hm := m57

  go_enter Try.func31, Try.ntmps31
  go_wp2_with (first | (go_at_call 40; refine (mul64_fits x y hx hy hx1 hy1 h _).mono ?_; rintro e w9 ⟨rfl, rfl⟩; clear h) | (go_at_call 57; refine (exact_number _ _ _ _).mono ?_; rintro e w' ⟨rfl, hb⟩; obtain ⟨hc, hf⟩ := bcell hb; simp only [World.size_alloc] at hc hf hb))
  have hz : w.heap.size + 1 < w'.heap.size := by have := hb.size; simp at this; omega
  have q0 : w'.cell? ⟨w.heap.size, 0, none⟩ = some (.int .u64 0) := by rw [hc _ _ (by omega)]; simp [go_sem]
  have q1 : w'.cell? ⟨w.heap.size, 1, none⟩ = some (.bool false) := by rw [hc _ _ (by omega)]; simp [go_sem]
  have c0 := World.cell?_setCell_same' w' ⟨w.heap.size, 0, none⟩ (.int .u64 (mulN x y)) (by rw [q0]; rfl)
  have c1 := World.cell?_setCell_same' (w'.setCell ⟨w.heap.size, 0, none⟩ (.int .u64 (mulN x y))) ⟨w.heap.size, 1, none⟩ (.bool true) (by simp [go_sem, q1])
  simp [bodyPost, results, Try.results31, go_sem, c0, c1, Result.andThen]
  exact ((((Below.refl _ _).alloc (Nat.le_refl _) _).alloc (by simp) _).trans (hb.mono (by omega))).setCell (Nat.le_refl _) _ |>.setCell (Nat.le_refl _) _

set_option maxHeartbeats 1000000 in
theorem mul_exact_over (x y : Int) (hx : 0 ≤ x) (hy : 0 ≤ y) (hx1 : x < 18446744073709551616) (hy1 : y < 18446744073709551616) (h : ¬ x * y < 18446744073709551616) (w : World) :
    Calls Try.prog 31 #[.int .u64 x, .int .u64 y] w fun e w' => e = .returned (.agg #[.int .u64 (0), .bool false]) ∧ Below w.heap.size w w' := by
  have hm := m56

  go_enter Try.func31, Try.ntmps31
  go_wp2_with (first | (go_at_call 40; refine (mul64_over x y hx hy hx1 hy1 h _).mono ?_; rintro e w9 ⟨hi, lo, hh, rfl, rfl⟩; clear h) | (go_at_call 56; refine (exact_nearest _ _ _ _).mono ?_; rintro e w' ⟨rfl, hb⟩; obtain ⟨hc, hf⟩ := bcell hb; simp only [World.size_alloc] at hc hf hb))
  have hz : w.heap.size + 1 < w'.heap.size := by have := hb.size; simp at this; omega
  have q0 : w'.cell? ⟨w.heap.size, 0, none⟩ = some (.int .u64 0) := by rw [hc _ _ (by omega)]; simp [go_sem]
  have q1 : w'.cell? ⟨w.heap.size, 1, none⟩ = some (.bool false) := by rw [hc _ _ (by omega)]; simp [go_sem]
  have c0 := World.cell?_setCell_same' w' ⟨w.heap.size, 0, none⟩ (.int .u64 (0)) (by rw [q0]; rfl)
  have c1 := World.cell?_setCell_same' (w'.setCell ⟨w.heap.size, 0, none⟩ (.int .u64 (0))) ⟨w.heap.size, 1, none⟩ (.bool false) (by simp [go_sem, q1])
  simp [bodyPost, results, Try.results31, go_sem, c0, c1, Result.andThen]
  exact ((((Below.refl _ _).alloc (Nat.le_refl _) _).alloc (by simp) _).trans (hb.mono (by omega))).setCell (Nat.le_refl _) _ |>.setCell (Nat.le_refl _) _

theorem below_drewN {B : Nat} {a w : World} (h : Below B a w) (n : Nat) : Below B a (w.drewN n) := ⟨h.os, h.tape, h.output, h.size, h.block⟩

set_option maxHeartbeats 1000000 in
theorem add_fits (x y : Int) (hx : 0 ≤ x) (hy : 0 ≤ y) (hx1 : x < 18446744073709551616) (hy1 : y < 18446744073709551616) (h : x + y < 18446744073709551616) (w : World) :
    Calls Try.prog 8 #[.int .u64 x, .int .u64 y] w fun e w' => e = .returned (.tuple #[.int .u64 (addN x y), .bool true]) ∧ Below w.heap.size w w' := by
  have hC := fun w => sum_exact_fits x y hx hy hx1 hy1 h w
  clear h
  go_enter Try.func8, Try.ntmps8
  go_wp2_with (go_at_call 29; refine (hC _).mono ?_; clear hC; rintro e w' ⟨rfl, hb⟩)
  go_quiet (fail)
  go_wp2
  go_ret2
  exact ⟨rfl, below_drewN (hb.alloc hb.size _) _⟩

set_option maxHeartbeats 1000000 in
theorem add_over (x y : Int) (hx : 0 ≤ x) (hy : 0 ≤ y) (hx1 : x < 18446744073709551616) (hy1 : y < 18446744073709551616) (h : ¬ x + y < 18446744073709551616) (w : World) :
    Calls Try.prog 8 #[.int .u64 x, .int .u64 y] w fun e w' => e = .returned (.tuple #[.int .u64 (0), .bool false]) ∧ Below w.heap.size w w' := by
  have hC := fun w => sum_exact_over x y hx hy hx1 hy1 h w
  clear h
  go_enter Try.func8, Try.ntmps8
  go_wp2_with (go_at_call 29; refine (hC _).mono ?_; clear hC; rintro e w' ⟨rfl, hb⟩)
  go_quiet (fail)
  go_wp2
  go_ret2
  exact ⟨rfl, below_drewN (hb.alloc hb.size _) _⟩

set_option maxHeartbeats 1000000 in
theorem sub_fits (x y : Int) (hx : 0 ≤ x) (hy : 0 ≤ y) (hx1 : x < 18446744073709551616) (hy1 : y < 18446744073709551616) (h : y ≤ x) (w : World) :
    Calls Try.prog 10 #[.int .u64 x, .int .u64 y] w fun e w' => e = .returned (.tuple #[.int .u64 (x - y), .bool true]) ∧ Below w.heap.size w w' := by
  have hC := fun w => dif_exact_fits x y hx hy hx1 hy1 h w
  clear h
  go_enter Try.func10, Try.ntmps10
  go_wp2_with (go_at_call 30; refine (hC _).mono ?_; clear hC; rintro e w' ⟨rfl, hb⟩)
  go_quiet (fail)
  go_wp2
  go_ret2
  exact ⟨rfl, below_drewN (hb.alloc hb.size _) _⟩

set_option maxHeartbeats 1000000 in
theorem sub_over (x y : Int) (hx : 0 ≤ x) (hy : 0 ≤ y) (hx1 : x < 18446744073709551616) (hy1 : y < 18446744073709551616) (h : x < y) (w : World) :
    Calls Try.prog 10 #[.int .u64 x, .int .u64 y] w fun e w' => e = .returned (.tuple #[.int .u64 (0), .bool false]) ∧ Below w.heap.size w w' := by
  have hC := fun w => dif_exact_over x y hx hy hx1 hy1 h w
  clear h
  go_enter Try.func10, Try.ntmps10
  go_wp2_with (go_at_call 30; refine (hC _).mono ?_; clear hC; rintro e w' ⟨rfl, hb⟩)
  go_quiet (fail)
  go_wp2
  go_ret2
  exact ⟨rfl, below_drewN (hb.alloc hb.size _) _⟩

set_option maxHeartbeats 1000000 in
theorem mul_fits (x y : Int) (hx : 0 ≤ x) (hy : 0 ≤ y) (hx1 : x < 18446744073709551616) (hy1 : y < 18446744073709551616) (h : x * y < 18446744073709551616) (w : World) :
    Calls Try.prog 12 #[.int .u64 x, .int .u64 y] w fun e w' => e = .returned (.tuple #[.int .u64 (mulN x y), .bool true]) ∧ Below w.heap.size w w' := by
  have hC := fun w => mul_exact_fits x y hx hy hx1 hy1 h w
  clear h
  go_enter Try.func12, Try.ntmps12
  go_wp2_with (go_at_call 31; refine (hC _).mono ?_; clear hC; rintro e w' ⟨rfl, hb⟩)
  go_quiet (fail)
  go_wp2
  go_ret2
  exact ⟨rfl, below_drewN (hb.alloc hb.size _) _⟩

set_option maxHeartbeats 1000000 in
theorem mul_over (x y : Int) (hx : 0 ≤ x) (hy : 0 ≤ y) (hx1 : x < 18446744073709551616) (hy1 : y < 18446744073709551616) (h : ¬ x * y < 18446744073709551616) (w : World) :
    Calls Try.prog 12 #[.int .u64 x, .int .u64 y] w fun e w' => e = .returned (.tuple #[.int .u64 (0), .bool false]) ∧ Below w.heap.size w w' := by
  have hC := fun w => mul_exact_over x y hx hy hx1 hy1 h w
  clear h
  go_enter Try.func12, Try.ntmps12
  go_wp2_with (go_at_call 31; refine (hC _).mono ?_; clear hC; rintro e w' ⟨rfl, hb⟩)
  go_quiet (fail)
  go_wp2
  go_ret2
  exact ⟨rfl, below_drewN (hb.alloc hb.size _) _⟩

theorem num_add (x y : Int) (hx : 0 ≤ x) (hy : 0 ≤ y) (hx1 : x < 18446744073709551616) (hy1 : y < 18446744073709551616) (w : World) :
    Calls Try.prog 8 #[.int .u64 x, .int .u64 y] w fun e w' => e = .returned (.tuple #[.int .u64 (addN x y), .bool (addF x y)]) ∧ Below w.heap.size w w' := by
  by_cases h : x + y < 18446744073709551616
  · rw [show addF x y = true from decide_eq_true h]; exact add_fits x y hx hy hx1 hy1 h w
  · rw [show addF x y = false from decide_eq_false h, show addN x y = 0 from if_neg h]; exact add_over x y hx hy hx1 hy1 h w
theorem num_sub (x y : Int) (hx : 0 ≤ x) (hy : 0 ≤ y) (hx1 : x < 18446744073709551616) (hy1 : y < 18446744073709551616) (w : World) :
    Calls Try.prog 10 #[.int .u64 x, .int .u64 y] w fun e w' => e = .returned (.tuple #[.int .u64 (subN x y), .bool (subF x y)]) ∧ Below w.heap.size w w' := by
  by_cases h : x < y
  · rw [show subF x y = false from decide_eq_false (by omega), show subN x y = 0 from if_pos h]; exact sub_over x y hx hy hx1 hy1 h w
  · rw [show subF x y = true from decide_eq_true (by omega), show subN x y = x - y from if_neg h]; exact sub_fits x y hx hy hx1 hy1 (by omega) w
theorem num_mul (x y : Int) (hx : 0 ≤ x) (hy : 0 ≤ y) (hx1 : x < 18446744073709551616) (hy1 : y < 18446744073709551616) (w : World) :
    Calls Try.prog 12 #[.int .u64 x, .int .u64 y] w fun e w' => e = .returned (.tuple #[.int .u64 (mulN x y), .bool (mulF x y)]) ∧ Below w.heap.size w w' := by
  by_cases h : x * y < 18446744073709551616
  · rw [show mulF x y = true from decide_eq_true h]; exact mul_fits x y hx hy hx1 hy1 h w
  · rw [show mulF x y = false from decide_eq_false h, show mulN x y = 0 from if_neg h]; exact mul_over x y hx hy hx1 hy1 h w

theorem sum_sat_fits (x y : Int) (hx : 0 ≤ x) (hy : 0 ≤ y) (hx1 : x < 18446744073709551616) (hy1 : y < 18446744073709551616) (h : x + y < 18446744073709551616) (w : World) :
    Calls Try.prog 32 #[.int .u64 x, .int .u64 y] w fun e w' => e = .returned (.int .u64 (addN x y)) ∧ w = w' := by
  have hm := m59
  have hA := add64_fits x y hx hy h
  clear h
  go_enter Try.func32, Try.ntmps32
  go_wp2_with (first | (go_at_call 59; refine (sat_number _ _ _).mono ?_; rintro e w' ⟨rfl, rfl⟩))
  go_ret
  exact ⟨rfl, rfl⟩
theorem sum_sat_over (x y : Int) (hx : 0 ≤ x) (hy : 0 ≤ y) (hx1 : x < 18446744073709551616) (hy1 : y < 18446744073709551616) (h : ¬ x + y < 18446744073709551616) (w : World) :
    Calls Try.prog 32 #[.int .u64 x, .int .u64 y] w fun e w' => e = .returned (.int .u64 (18446744073709551615)) ∧ w = w' := by
  have hm := m58
  have hA := add64_over x y hx hy hx1 hy1 h
  clear h
  go_enter Try.func32, Try.ntmps32
  go_wp2_with (first | (go_at_call 58; refine (sat_nearest _ _ _).mono ?_; rintro e w' ⟨rfl, rfl⟩))
  go_ret
  exact ⟨rfl, rfl⟩
theorem dif_sat_fits (x y : Int) (hx : 0 ≤ x) (hy : 0 ≤ y) (hx1 : x < 18446744073709551616) (hy1 : y < 18446744073709551616) (h : y ≤ x) (w : World) :
    Calls Try.prog 33 #[.int .u64 x, .int .u64 y] w fun e w' => e = .returned (.int .u64 (x - y)) ∧ w = w' := by
  have hm := m59
  have hA : IntKind.u64.wrap (x - y) = x - y := by rw [IntKind.wrap_u64]; omega
  go_enter Try.func33, Try.ntmps33
  go_wp2_with (first | (go_at_call 59; refine (sat_number _ _ _).mono ?_; rintro e w' ⟨rfl, rfl⟩))
  go_ret
  exact ⟨rfl, rfl⟩
theorem dif_sat_over (x y : Int) (hx : 0 ≤ x) (hy : 0 ≤ y) (hx1 : x < 18446744073709551616) (hy1 : y < 18446744073709551616) (h : x < y) (w : World) :
    Calls Try.prog 33 #[.int .u64 x, .int .u64 y] w fun e w' => e = .returned (.int .u64 (0)) ∧ w = w' := by
  have hm := m58

  go_enter Try.func33, Try.ntmps33
  go_wp2_with (first | (go_at_call 58; refine (sat_nearest _ _ _).mono ?_; rintro e w' ⟨rfl, rfl⟩))
  go_ret
  exact ⟨rfl, rfl⟩
theorem mul_sat_fits (x y : Int) (hx : 0 ≤ x) (hy : 0 ≤ y) (hx1 : x < 18446744073709551616) (hy1 : y < 18446744073709551616) (h : x * y < 18446744073709551616) (w : World) :
    Calls Try.prog 34 #[.int .u64 x, .int .u64 y] w fun e w' => e = .returned (.int .u64 (mulN x y)) ∧ w = w' := by
  have hm := m59

  go_enter Try.func34, Try.ntmps34
  go_wp2_with (first | (go_at_call 40; refine (mul64_fits x y hx hy hx1 hy1 h _).mono ?_; rintro e w9 ⟨rfl, rfl⟩; clear h) | (go_at_call 59; refine (sat_number _ _ _).mono ?_; rintro e w' ⟨rfl, rfl⟩))
  go_ret
  exact ⟨rfl, rfl⟩
theorem mul_sat_over (x y : Int) (hx : 0 ≤ x) (hy : 0 ≤ y) (hx1 : x < 18446744073709551616) (hy1 : y < 18446744073709551616) (h : ¬ x * y < 18446744073709551616) (w : World) :
    Calls Try.prog 34 #[.int .u64 x, .int .u64 y] w fun e w' => e = .returned (.int .u64 (18446744073709551615)) ∧ w = w' := by
  have hm := m58

  go_enter Try.func34, Try.ntmps34
  go_wp2_with (first | (go_at_call 40; refine (mul64_over x y hx hy hx1 hy1 h _).mono ?_; rintro e w9 ⟨hi, lo, hh, rfl, rfl⟩; clear h) | (go_at_call 58; refine (sat_nearest _ _ _).mono ?_; rintro e w' ⟨rfl, rfl⟩))
  go_ret
  exact ⟨rfl, rfl⟩

theorem sum_sat (x y : Int) (hx : 0 ≤ x) (hy : 0 ≤ y) (hx1 : x < 18446744073709551616) (hy1 : y < 18446744073709551616) (w : World) :
    Calls Try.prog 32 #[.int .u64 x, .int .u64 y] w fun e w' => e = .returned (.int .u64 (addS x y)) ∧ w = w' := by
  by_cases h : x + y < 18446744073709551616
  · rw [show addS x y = addN x y by unfold addS addN; rw [if_pos h, if_pos h]]; exact sum_sat_fits x y hx hy hx1 hy1 h w
  · rw [show addS x y = 18446744073709551615 from if_neg h]; exact sum_sat_over x y hx hy hx1 hy1 h w
theorem dif_sat (x y : Int) (hx : 0 ≤ x) (hy : 0 ≤ y) (hx1 : x < 18446744073709551616) (hy1 : y < 18446744073709551616) (w : World) :
    Calls Try.prog 33 #[.int .u64 x, .int .u64 y] w fun e w' => e = .returned (.int .u64 (subS x y)) ∧ w = w' := by
  by_cases h : x < y
  · rw [show subS x y = 0 from if_pos h]; exact dif_sat_over x y hx hy hx1 hy1 h w
  · rw [show subS x y = x - y from if_neg h]; exact dif_sat_fits x y hx hy hx1 hy1 (by omega) w
theorem mul_sat (x y : Int) (hx : 0 ≤ x) (hy : 0 ≤ y) (hx1 : x < 18446744073709551616) (hy1 : y < 18446744073709551616) (w : World) :
    Calls Try.prog 34 #[.int .u64 x, .int .u64 y] w fun e w' => e = .returned (.int .u64 (mulS x y)) ∧ w = w' := by
  by_cases h : x * y < 18446744073709551616
  · rw [show mulS x y = mulN x y by unfold mulS mulN; rw [if_pos h, if_pos h]]; exact mul_sat_fits x y hx hy hx1 hy1 h w
  · rw [show mulS x y = 18446744073709551615 from if_neg h]; exact mul_sat_over x y hx hy hx1 hy1 h w

theorem num_addS (x y : Int) (hx : 0 ≤ x) (hy : 0 ≤ y) (hx1 : x < 18446744073709551616) (hy1 : y < 18446744073709551616) (w : World) :
    Calls Try.prog 15 #[.int .u64 x, .int .u64 y] w fun e w' => e = .returned (.int .u64 (addS x y)) ∧ w = w' := by
  go_enter Try.func15, Try.ntmps15
  go_wp2_with (go_at_call 32; refine (sum_sat x y hx hy hx1 hy1 _).mono ?_; rintro e w' ⟨rfl, rfl⟩)
  go_ret
  exact ⟨rfl, rfl⟩
theorem num_subS (x y : Int) (hx : 0 ≤ x) (hy : 0 ≤ y) (hx1 : x < 18446744073709551616) (hy1 : y < 18446744073709551616) (w : World) :
    Calls Try.prog 16 #[.int .u64 x, .int .u64 y] w fun e w' => e = .returned (.int .u64 (subS x y)) ∧ w = w' := by
  go_enter Try.func16, Try.ntmps16
  go_wp2_with (go_at_call 33; refine (dif_sat x y hx hy hx1 hy1 _).mono ?_; rintro e w' ⟨rfl, rfl⟩)
  go_ret
  exact ⟨rfl, rfl⟩
theorem num_mulS (x y : Int) (hx : 0 ≤ x) (hy : 0 ≤ y) (hx1 : x < 18446744073709551616) (hy1 : y < 18446744073709551616) (w : World) :
    Calls Try.prog 17 #[.int .u64 x, .int .u64 y] w fun e w' => e = .returned (.int .u64 (mulS x y)) ∧ w = w' := by
  go_enter Try.func17, Try.ntmps17
  go_wp2_with (go_at_call 34; refine (mul_sat x y hx hy hx1 hy1 _).mono ?_; rintro e w' ⟨rfl, rfl⟩)
  go_ret
  exact ⟨rfl, rfl⟩

theorem ref_add (x y : Int) (hx : 0 ≤ x) (hy : 0 ≤ y) (hx1 : x < 18446744073709551616) (hy1 : y < 18446744073709551616) (w : World) :
    Calls Try.prog 9 #[.int .u64 x, .int .u64 y] w fun e w' => e = .returned (.tuple #[.int .u64 (addN x y), .bool (addF x y)]) ∧ w = w' := by
  by_cases h : x + y < 18446744073709551616
  · rw [show addF x y = true from decide_eq_true h, show addN x y = x + y from if_pos h]
    have e1 : IntKind.u64.wrap (18446744073709551615 - y) = 18446744073709551615 - y := by rw [IntKind.wrap_u64]; omega
    have e2 : IntKind.u64.wrap (x + y) = x + y := by rw [IntKind.wrap_u64]; omega
    have e3 : ¬ 18446744073709551615 - y < x := by omega
    clear h
    go_enter Try.func9, Try.ntmps9
    go_wp2
    go_ret2
    exact ⟨rfl, rfl⟩
  · rw [show addF x y = false from decide_eq_false h, show addN x y = 0 from if_neg h]
    have e1 : IntKind.u64.wrap (18446744073709551615 - y) = 18446744073709551615 - y := by rw [IntKind.wrap_u64]; omega
    have e3 : 18446744073709551615 - y < x := by omega
    clear h
    go_enter Try.func9, Try.ntmps9
    go_wp2
    go_ret2
    exact ⟨rfl, rfl⟩
theorem ref_sub (x y : Int) (hx : 0 ≤ x) (hy : 0 ≤ y) (hx1 : x < 18446744073709551616) (hy1 : y < 18446744073709551616) (w : World) :
    Calls Try.prog 11 #[.int .u64 x, .int .u64 y] w fun e w' => e = .returned (.tuple #[.int .u64 (subN x y), .bool (subF x y)]) ∧ w = w' := by
  by_cases h : x < y
  · rw [show subF x y = false from decide_eq_false (by omega), show subN x y = 0 from if_pos h]
    go_enter Try.func11, Try.ntmps11
    go_wp2
    go_ret2
    exact ⟨rfl, rfl⟩
  · rw [show subF x y = true from decide_eq_true (by omega), show subN x y = x - y from if_neg h]
    have e1 : IntKind.u64.wrap (x - y) = x - y := by rw [IntKind.wrap_u64]; omega
    go_enter Try.func11, Try.ntmps11
    go_wp2
    go_ret2
    exact ⟨rfl, rfl⟩
theorem over_iff (x y : Int) (hx : 0 ≤ x) (hy : 0 ≤ y) (hx1 : x < 18446744073709551616) (hy1 : y < 18446744073709551616) (h0 : ¬ x = 0) : (18446744073709551615 / x < y) ↔ ¬ x * y < 18446744073709551616 := by
  have hp : 0 < x := by omega
  rw [Int.ediv_lt_iff_lt_mul hp]
  rw [Int.mul_comm y x]
  omega
theorem ref_mul (x y : Int) (hx : 0 ≤ x) (hy : 0 ≤ y) (hx1 : x < 18446744073709551616) (hy1 : y < 18446744073709551616) (w : World) :
    Calls Try.prog 13 #[.int .u64 x, .int .u64 y] w fun e w' => e = .returned (.tuple #[.int .u64 (mulN x y), .bool (mulF x y)]) ∧ w = w' := by
  by_cases h0 : x = 0
  · subst h0
    rw [show mulF 0 y = true from decide_eq_true (by omega), show mulN 0 y = 0 by unfold mulN; rw [if_pos (by omega)]; omega]
    go_enter Try.func13, Try.ntmps13
    go_wp2
    go_ret2
    exact ⟨rfl, rfl⟩
  · have hi := over_iff x y hx hy hx1 hy1 h0
    have hb2 : (x != 0) = true := by simpa using h0
    have hp : 0 ≤ x * y := Int.mul_nonneg hx hy
    by_cases h : x * y < 18446744073709551616
    · rw [show mulF x y = true from decide_eq_true h, show mulN x y = x * y from if_pos h]
      have e1 : ¬ 18446744073709551615 / x < y := fun c => hi.1 c h
      have e2 : IntKind.u64.wrap (x * y) = x * y := by rw [IntKind.wrap_u64]; omega
      clear hi h
      go_enter Try.func13, Try.ntmps13
      go_wp2
      go_ret2
      exact ⟨rfl, rfl⟩
    · rw [show mulF x y = false from decide_eq_false h, show mulN x y = 0 from if_neg h]
      have e1 : 18446744073709551615 / x < y := hi.2 h
      clear hi h
      go_enter Try.func13, Try.ntmps13
      go_wp2
      go_ret2
      exact ⟨rfl, rfl⟩

end Go.Proofs
