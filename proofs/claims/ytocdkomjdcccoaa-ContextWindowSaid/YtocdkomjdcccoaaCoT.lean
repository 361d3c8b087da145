import Derived.Test.YtocdkomjdcccoaaCoS
namespace Go.Proofs
open Go.RowKit
set_option linter.unusedVariables false
def mayC (size most : Int) : Bool := decide (1 ≤ size) && decide (size ≤ 32) && decide (2 ≤ most) && decide (most ≤ 16)
theorem mayC_iff {size most : Int} : mayC size most = true ↔ 1 ≤ size ∧ size ≤ 32 ∧ 2 ≤ most ∧ most ≤ 16 := by unfold mayC; simp [and_assoc]
theorem New_no (w : World) {size most : Int} (h : mayC size most = false) : Calls Try.prog 5 #[.int .i64 size, .int .i64 most] w fun e w' => e = .returned (.tuple #[.pointer none, .int .i64 2]) ∧ w = w' := by
  have h' : decide (size < 1) = true ∨ (decide (size < 1) = false ∧ decide (32 < size) = true) ∨ (decide (size < 1) = false ∧ decide (32 < size) = false ∧ decide (most < 2) = true) ∨ (decide (size < 1) = false ∧ decide (32 < size) = false ∧ decide (most < 2) = false ∧ decide (16 < most) = true) := by
    have := mt mayC_iff.2 (by rw [h]; simp)
    simp only [decide_eq_true_eq, decide_eq_false_iff_not]
    omega
  clear h
  rcases h' with d1 | ⟨d1, d2⟩ | ⟨d1, d2, d3⟩ | ⟨d1, d2, d3, d4⟩
  all_goals
    go_enter Try.func5, Try.ntmps5
    go_wp2
    go_ret2
    exact ⟨rfl, rfl⟩
/-- New contexts, of which none is there. -/
theorem New_yes (w : World) {size most : Int} (h : mayC size most = true) : Calls Try.prog 5 #[.int .i64 size, .int .i64 most] w fun e w' => ∃ c g, e = .returned (.tuple #[.pointer (some ⟨c, 0, none⟩), .int .i64 0]) ∧
    CtxAt w' c [g] ⟨size, 1, [], [], 0⟩ most ∧ w.heap.size ≤ c ∧ w.heap.size ≤ g ∧ Chg [] w w' := by
  obtain ⟨a, b, c, d⟩ := mayC_iff.1 h
  have hm : mayT size 1 = true := mayT_iff.2 ⟨a, by omega, by omega, by rw [topG_val]; omega⟩
  have hN := fun W => new_ok_C (w := W) size 1 hm
  have HN := Lib.hid hN
  have HWF := Lib.hid (Tab.WF.new (α := Cx) a (by omega : size ≤ 4096) (by omega : (1 : Int) ≤ 1) (by rw [topG_val]; omega))
  have d1 : decide (size < 1) = false := by simp; omega
  have d2 : decide (32 < size) = false := by simp; omega
  have d3 : decide (most < 2) = false := by simp; omega
  have d4 : decide (16 < most) = false := by simp; omega
  clear h a b c d hm hN
  go_enter Try.func5, Try.ntmps5
  go_wp2_with (go_at_call 13; refine (HN.out _).mono ?_; rintro e w1 ⟨rfl, hT, hc⟩; have HT := Lib.hid hT; have HC := Lib.hid hc; clear hT hc)
  go_ret2
  have hcc : Chg [] w1 (w1.alloc (.cells #[.pointer (some ⟨w.heap.size, 0, none⟩), .int .i64 most] 52)) := (Chg.refl _ _).alloc _
  exact ⟨_, _, rfl, ⟨_, Blk.new _ _ _, HT.out.quiet hcc, Good.nil _ _ _ _, HWF.out⟩, HC.out.size, Nat.le_refl _, HC.out.then hcc⟩
end Go.Proofs
