import Derived.Test.YtllohclpaggfbaaProg
import Derived.Test.YtllohclpaggfbaaShelf
import Derived.WalkKit
import Derived.WalkSpells
import Derived.Laws.Externs
import Derived.Laws.Pointers
import Derived.RowKit3
import Derived.Below
import Derived.Outline
import Derived.BigQuiet
import Derived.Deep.QuietTactic
import Derived.Deep.DeepFit
namespace Go.Proofs
open Go.RowKit
set_option linter.unusedVariables false

def addN (x y : Int) : Int := if x + y < 18446744073709551616 then x + y else 0
def addF (x y : Int) : Bool := decide (x + y < 18446744073709551616)
def subN (x y : Int) : Int := if x < y then 0 else x - y
def subF (x y : Int) : Bool := decide (y ≤ x)
def mulN (x y : Int) : Int := if x * y < 18446744073709551616 then x * y else 0
def mulF (x y : Int) : Bool := decide (x * y < 18446744073709551616)
def addS (x y : Int) : Int := if x + y < 18446744073709551616 then x + y else 18446744073709551615
def subS (x y : Int) : Int := if x < y then 0 else x - y
def mulS (x y : Int) : Int := if x * y < 18446744073709551616 then x * y else 18446744073709551615

theorem add64_0 (x y : Int) (hx : 0 ≤ x) (hy : 0 ≤ y) (w : World) : (callFunc 39 #[.int .u64 x, .int .u64 y, .int .u64 0]).run Try.prog w =
    .ok (.value (.tuple #[.int .u64 ((x + y) % 18446744073709551616), .int .u64 ((x + y) / 18446744073709551616)])) w := by
  rw [run_callFunc_extern Try.func39 (by kernel_rfl) (by kernel_rfl) (by kernel_rfl) (e := add64Entry) (by kernel_rfl), run_add64 x y 0 hx hy (by omega) (by omega)]
  simp [Result.andThen]

theorem add64_fits (x y : Int) (hx : 0 ≤ x) (hy : 0 ≤ y) (h : x + y < 18446744073709551616) (w : World) : (callFunc 39 #[.int .u64 x, .int .u64 y, .int .u64 0]).run Try.prog w =
    .ok (.value (.tuple #[.int .u64 (addN x y), .int .u64 0])) w := by
  rw [add64_0 x y hx hy]
  have e1 : (x + y) % 18446744073709551616 = addN x y := by unfold addN; rw [if_pos h]; omega
  have e2 : (x + y) / 18446744073709551616 = 0 := by omega
  rw [e1, e2]
theorem add64_over (x y : Int) (hx : 0 ≤ x) (hy : 0 ≤ y) (hx' : x < 18446744073709551616) (hy' : y < 18446744073709551616) (h : ¬ x + y < 18446744073709551616) (w : World) : (callFunc 39 #[.int .u64 x, .int .u64 y, .int .u64 0]).run Try.prog w =
    .ok (.value (.tuple #[.int .u64 (x + y - 18446744073709551616), .int .u64 1])) w := by
  rw [add64_0 x y hx hy]
  have e1 : (x + y) % 18446744073709551616 = x + y - 18446744073709551616 := by omega
  have e2 : (x + y) / 18446744073709551616 = 1 := by omega
  rw [e1, e2]

theorem exact_number (a b : Value) (n : Int) (w : World) :
    Calls Try.prog 57 #[.agg #[a, b], .int .u64 n] w fun e w' => e = .returned (.agg #[.int .u64 n, .bool true]) ∧ Below w.heap.size w w' := by
  go_enter Try.func57, Try.ntmps57
  go_wp2
  simp [bodyPost, results, Try.results57, go_sem]
  exact (((Below.refl _ _).alloc (Nat.le_refl _) _).alloc (by simp) _)

theorem exact_nearest (a b : Value) (n : Int) (w : World) :
    Calls Try.prog 56 #[.agg #[a, b], .int .u64 n] w fun e w' => e = .returned (.agg #[.int .u64 0, .bool false]) ∧ Below w.heap.size w w' := by
  go_enter Try.func56, Try.ntmps56
  go_wp2
  simp [bodyPost, results, Try.results56, go_sem]
  exact (((Below.refl _ _).alloc (Nat.le_refl _) _).alloc (by simp) _)

theorem sat_number (x n : Int) (w : World) :
    Calls Try.prog 59 #[.int .u64 x, .int .u64 n] w fun e w' => e = .returned (.int .u64 n) ∧ w' = w := by
  go_enter Try.func59, Try.ntmps59
  go_wp2
  go_ret
  exact ⟨rfl, rfl⟩
theorem sat_nearest (x n : Int) (w : World) :
    Calls Try.prog 58 #[.int .u64 x, .int .u64 n] w fun e w' => e = .returned (.int .u64 n) ∧ w' = w := by
  go_enter Try.func58, Try.ntmps58
  go_wp2
  go_ret
  exact ⟨rfl, rfl⟩

theorem exact_meth (v : Value) (w : World) (hv : v = .agg #[.int .u64 0, .bool false]) : (method 171 42 v "helmsman/num.number").run Try.prog w = .ok (57, v) w := by
  subst hv; kernel_rfl
theorem m57 (w : World) : (method 171 42 (.agg #[.int .u64 0, .bool false]) "helmsman/num.number").run Try.prog w = .ok (57, .agg #[.int .u64 0, .bool false]) w := by kernel_rfl
theorem m56 (w : World) : (method 171 42 (.agg #[.int .u64 0, .bool false]) "helmsman/num.nearest").run Try.prog w = .ok (56, .agg #[.int .u64 0, .bool false]) w := by kernel_rfl
theorem m59 (w : World) : (method 171 44 (.int .u64 0) "helmsman/num.number").run Try.prog w = .ok (59, .int .u64 0) w := by kernel_rfl
theorem m58 (w : World) : (method 171 44 (.int .u64 0) "helmsman/num.nearest").run Try.prog w = .ok (58, .int .u64 0) w := by kernel_rfl

theorem bcell {W w1 : World} (hb : Below W.heap.size W w1) : (∀ b o, b < W.heap.size → w1.cell? ⟨b, o, none⟩ = W.cell? ⟨b, o, none⟩) ∧ (∀ b o, b < W.heap.size → w1.frozen? ⟨b, o, none⟩ = W.frozen? ⟨b, o, none⟩) :=
  ⟨fun b o h => hb.cell (p := ⟨b, o, none⟩) h, fun b o h => hb.frozen (p := ⟨b, o, none⟩) h⟩

set_option maxHeartbeats 1000000 in
theorem sum_exact_fits (x y : Int) (hx : 0 ≤ x) (hy : 0 ≤ y) (hx1 : x < 18446744073709551616) (hy1 : y < 18446744073709551616) (h : x + y < 18446744073709551616) (w : World) :
    Calls Try.prog 29 #[.int .u64 x, .int .u64 y] w fun e w' => e = .returned (.agg #[.int .u64 (addN x y), .bool true]) ∧ Below w.heap.size w w' := by
  have hm := m57
  have hA := add64_fits x y hx hy h
  clear h
  go_enter Try.func29, Try.ntmps29
  go_wp2_with (first | (go_at_call 57; refine (exact_number _ _ _ _).mono ?_; rintro e w' ⟨rfl, hb⟩; obtain ⟨hc, hf⟩ := bcell hb; simp only [World.size_alloc] at hc hf hb))
  have hz : w.heap.size + 1 < w'.heap.size := by have := hb.size; simp at this; omega
  have q0 : w'.cell? ⟨w.heap.size, 0, none⟩ = some (.int .u64 0) := by rw [hc _ _ (by omega)]; simp [go_sem]
  have q1 : w'.cell? ⟨w.heap.size, 1, none⟩ = some (.bool false) := by rw [hc _ _ (by omega)]; simp [go_sem]
  have c0 := World.cell?_setCell_same' w' ⟨w.heap.size, 0, none⟩ (.int .u64 (addN x y)) (by rw [q0]; rfl)
  have c1 := World.cell?_setCell_same' (w'.setCell ⟨w.heap.size, 0, none⟩ (.int .u64 (addN x y))) ⟨w.heap.size, 1, none⟩ (.bool true) (by simp [go_sem, q1])
  simp [bodyPost, results, Try.results29, go_sem, c0, c1, Result.andThen]
  exact ((((Below.refl _ _).alloc (Nat.le_refl _) _).alloc (by simp) _).trans (hb.mono (by omega))).setCell (Nat.le_refl _) _ |>.setCell (Nat.le_refl _) _

set_option maxHeartbeats 1000000 in
theorem sum_exact_over (x y : Int) (hx : 0 ≤ x) (hy : 0 ≤ y) (hx1 : x < 18446744073709551616) (hy1 : y < 18446744073709551616) (h : ¬ x + y < 18446744073709551616) (w : World) :
    Calls Try.prog 29 #[.int .u64 x, .int .u64 y] w fun e w' => e = .returned (.agg #[.int .u64 (0), .bool false]) ∧ Below w.heap.size w w' := by
  have hm := m56
  have hA := add64_over x y hx hy hx1 hy1 h
  clear h
  go_enter Try.func29, Try.ntmps29
  go_wp2_with (first | (go_at_call 56; refine (exact_nearest _ _ _ _).mono ?_; rintro e w' ⟨rfl, hb⟩; obtain ⟨hc, hf⟩ := bcell hb; simp only [World.size_alloc] at hc hf hb))
  have hz : w.heap.size + 1 < w'.heap.size := by have := hb.size; simp at this; omega
  have q0 : w'.cell? ⟨w.heap.size, 0, none⟩ = some (.int .u64 0) := by rw [hc _ _ (by omega)]; simp [go_sem]
  have q1 : w'.cell? ⟨w.heap.size, 1, none⟩ = some (.bool false) := by rw [hc _ _ (by omega)]; simp [go_sem]
  have c0 := World.cell?_setCell_same' w' ⟨w.heap.size, 0, none⟩ (.int .u64 (0)) (by rw [q0]; rfl)
  have c1 := World.cell?_setCell_same' (w'.setCell ⟨w.heap.size, 0, none⟩ (.int .u64 (0))) ⟨w.heap.size, 1, none⟩ (.bool false) (by simp [go_sem, q1])
  simp [bodyPost, results, Try.results29, go_sem, c0, c1, Result.andThen]
  exact ((((Below.refl _ _).alloc (Nat.le_refl _) _).alloc (by simp) _).trans (hb.mono (by omega))).setCell (Nat.le_refl _) _ |>.setCell (Nat.le_refl _) _

set_option maxHeartbeats 1000000 in
theorem dif_exact_fits (x y : Int) (hx : 0 ≤ x) (hy : 0 ≤ y) (hx1 : x < 18446744073709551616) (hy1 : y < 18446744073709551616) (h : y ≤ x) (w : World) :
    Calls Try.prog 30 #[.int .u64 x, .int .u64 y] w fun e w' => e = .returned (.agg #[.int .u64 (x - y), .bool true]) ∧ Below w.heap.size w w' := by
  have hm := m57
  have hA : IntKind.u64.wrap (x - y) = x - y := by rw [IntKind.wrap_u64]; omega
  go_enter Try.func30, Try.ntmps30
  go_wp2_with (first | (go_at_call 57; refine (exact_number _ _ _ _).mono ?_; rintro e w' ⟨rfl, hb⟩; obtain ⟨hc, hf⟩ := bcell hb; simp only [World.size_alloc] at hc hf hb))
  have hz : w.heap.size + 1 < w'.heap.size := by have := hb.size; simp at this; omega
  have q0 : w'.cell? ⟨w.heap.size, 0, none⟩ = some (.int .u64 0) := by rw [hc _ _ (by omega)]; simp [go_sem]
  have q1 : w'.cell? ⟨w.heap.size, 1, none⟩ = some (.bool false) := by rw [hc _ _ (by omega)]; simp [go_sem]
  have c0 := World.cell?_setCell_same' w' ⟨w.heap.size, 0, none⟩ (.int .u64 (x - y)) (by rw [q0]; rfl)
  have c1 := World.cell?_setCell_same' (w'.setCell ⟨w.heap.size, 0, none⟩ (.int .u64 (x - y))) ⟨w.heap.size, 1, none⟩ (.bool true) (by simp [go_sem, q1])
  simp [bodyPost, results, Try.results30, go_sem, c0, c1, Result.andThen]
  exact ((((Below.refl _ _).alloc (Nat.le_refl _) _).alloc (by simp) _).trans (hb.mono (by omega))).setCell (Nat.le_refl _) _ |>.setCell (Nat.le_refl _) _

set_option maxHeartbeats 1000000 in
theorem dif_exact_over (x y : Int) (hx : 0 ≤ x) (hy : 0 ≤ y) (hx1 : x < 18446744073709551616) (hy1 : y < 18446744073709551616) (h : x < y) (w : World) :
    Calls Try.prog 30 #[.int .u64 x, .int .u64 y] w fun e w' => e = .returned (.agg #[.int .u64 (0), .bool false]) ∧ Below w.heap.size w w' := by
  have hm := m56

  go_enter Try.func30, Try.ntmps30
  go_wp2_with (first | (go_at_call 56; refine (exact_nearest _ _ _ _).mono ?_; rintro e w' ⟨rfl, hb⟩; obtain ⟨hc, hf⟩ := bcell hb; simp only [World.size_alloc] at hc hf hb))
  have hz : w.heap.size + 1 < w'.heap.size := by have := hb.size; simp at this; omega
  have q0 : w'.cell? ⟨w.heap.size, 0, none⟩ = some (.int .u64 0) := by rw [hc _ _ (by omega)]; simp [go_sem]
  have q1 : w'.cell? ⟨w.heap.size, 1, none⟩ = some (.bool false) := by rw [hc _ _ (by omega)]; simp [go_sem]
  have c0 := World.cell?_setCell_same' w' ⟨w.heap.size, 0, none⟩ (.int .u64 (0)) (by rw [q0]; rfl)
  have c1 := World.cell?_setCell_same' (w'.setCell ⟨w.heap.size, 0, none⟩ (.int .u64 (0))) ⟨w.heap.size, 1, none⟩ (.bool false) (by simp [go_sem, q1])
  simp [bodyPost, results, Try.results30, go_sem, c0, c1, Result.andThen]
  exact ((((Below.refl _ _).alloc (Nat.le_refl _) _).alloc (by simp) _).trans (hb.mono (by omega))).setCell (Nat.le_refl _) _ |>.setCell (Nat.le_refl _) _


end Go.Proofs
