import Derived.Test.YtllohclpaggfbaaNumB
import Derived.Test.YtllohclpaggfbaaNumE
namespace Go.Proofs
open Go.RowKit
set_option linter.unusedVariables false

theorem k_add (w : World) : Calls Try.prog 8 #[.int .u64 18446744073709551615, .int .u64 1] w fun e w' => e = .returned (.tuple #[.int .u64 0, .bool false]) ∧ Below w.heap.size w w' :=
  num_add 18446744073709551615 1 (by decide) (by decide) (by decide) (by decide) w
theorem k_adds (w : World) : Calls Try.prog 15 #[.int .u64 18446744073709551615, .int .u64 1] w fun e w' => e = .returned (.int .u64 18446744073709551615) ∧ w = w' :=
  num_addS 18446744073709551615 1 (by decide) (by decide) (by decide) (by decide) w
theorem k_n4 (w : World) : Calls Try.prog 26 #[.int .u8 74, .int .i64 4] w fun e w' => e = .returned (.tuple #[.int .i64 3, .bool true]) ∧ Below w.heap.size w w' :=
  nth_any 74 4 (by decide) (by decide) w
theorem k_n1 (w : World) : Calls Try.prog 26 #[.int .u8 74, .int .i64 (-1)] w fun e w' => e = .returned (.tuple #[.int .i64 6, .bool true]) ∧ Below w.heap.size w w' :=
  nth_any 74 (-1) (by decide) (by decide) w

theorem known_any (w : World) : Calls Try.prog 14 #[] w fun e w' => e = .returned (.bool true) ∧ Below w.heap.size w w' := by
  go_enter Try.func14, Try.ntmps14
  go_wp2_with (first
    | (go_at_call 8; refine (k_add _).mono ?_; rintro e w1 ⟨rfl, hb1⟩)
    | (go_at_call 26; (with_reducible refine (k_n4 _).mono ?_); rintro e w2 ⟨rfl, hb2⟩)
    | (go_at_call 26; (with_reducible refine (k_n1 _).mono ?_); rintro e w3 ⟨rfl, hb3⟩)
    | (go_at_call 15; refine (k_adds _).mono ?_; rintro e w4 ⟨rfl, rfl⟩))
  go_ret
  exact ⟨rfl, hb1.trans ((hb2.mono hb1.size).trans (hb3.mono (Nat.le_trans hb1.size hb2.size)))⟩

set_option maxHeartbeats 1000000 in
theorem sums_any (x y : Int) (hx : 0 ≤ x) (hy : 0 ≤ y) (hx1 : x < 18446744073709551616) (hy1 : y < 18446744073709551616) (w : World) :
    Calls Try.prog 3 #[.int .u64 x, .int .u64 y] w fun e w' => e = .returned (.bool true) ∧ Below w.heap.size w w' := by
  go_enter Try.func3, Try.ntmps3
  go_wp2_with (first
    | (go_at_call 8; refine (num_add x y hx hy hx1 hy1 _).mono ?_; rintro e w1 ⟨rfl, hb1⟩)
    | (go_at_call 10; refine (num_sub x y hx hy hx1 hy1 _).mono ?_; rintro e w2 ⟨rfl, hb2⟩)
    | (go_at_call 12; refine (num_mul x y hx hy hx1 hy1 _).mono ?_; rintro e w3 ⟨rfl, hb3⟩)
    | (go_at_call 9; refine (ref_add x y hx hy hx1 hy1 _).mono ?_; rintro e w4 ⟨rfl, rfl⟩)
    | (go_at_call 11; refine (ref_sub x y hx hy hx1 hy1 _).mono ?_; rintro e w4 ⟨rfl, rfl⟩)
    | (go_at_call 13; refine (ref_mul x y hx hy hx1 hy1 _).mono ?_; rintro e w4 ⟨rfl, rfl⟩)
    | (go_at_call 14; refine (known_any _).mono ?_; rintro e w5 ⟨rfl, hb5⟩))
  go_ret
  exact ⟨rfl, hb1.trans ((hb2.mono hb1.size).trans ((hb3.mono (Nat.le_trans hb1.size hb2.size)).trans (hb5.mono (Nat.le_trans (Nat.le_trans hb1.size hb2.size) hb3.size))))⟩
end Go.Proofs
