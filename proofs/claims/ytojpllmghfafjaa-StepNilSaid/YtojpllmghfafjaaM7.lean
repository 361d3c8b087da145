import Derived.Test.YtojpllmghfafjaaM6
import Derived.Laws.CopyOwn
import Derived.Deep.RegionLaw
import Derived.Test.YtojpllmghfafjaaProg
import Derived.WalkKit
import Derived.WalkSpells
import Derived.Laws.Externs
import Derived.Laws.Pointers
import Derived.RowKit3
import Derived.Below
import Derived.Outline
import Derived.BigQuiet
import Derived.Deep.QuietTactic
import Derived.Deep.DeepFit
section
namespace Go.Proofs
open Go.RowKit
set_option linter.unusedVariables false
set_option linter.unusedSimpArgs false

theorem info24 : (Try.prog.info? 24).map (·.size) = some 1 := by kernel_rfl
set_option maxHeartbeats 2000000 in
set_option maxRecDepth 100000 in
theorem called_any (o : UInt8) (ho : 16 ≤ o.toNat) (g : Gr) (w : World) : Calls Try.prog 30 #[.int .u8 o.toNat, g.val] w fun e w' => e = .returned (⟨(o.toNat : Int) - 16, g.r⟩ : Cl).val ∧ Below w.heap.size w w' := by
  obtain ⟨k, hk⟩ : ∃ k : Int, k = (o.toNat : Int) - 16 := ⟨_, rfl⟩
  have hA : ∀ j, j < 5 → g.arr[9 + j]? = some (.int .u64 (g.r j)) := fun j hj => g.get_cell j (by omega)
  have hol := o.toNat_lt
  unfold Gr.val Cl.val
  rw [← hk]
  have hk8 : IntKind.u8.wrap ((o.toNat : Int) - 16) = k := by rw [hk]; simp [IntKind.wrap, IntKind.bits, IntKind.signed]; omega
  have hk9 : IntKind.i64.wrap k = k := IntWalk.i64_in _ (by omega)
  have hnn : (0 : Int) ≤ k ∧ k < 256 := by omega
  generalize hga : g.arr = A at *
  generalize (o.toNat : Int) = O at *
  generalize g.r = r at *
  subst hk
  obtain ⟨W, hW⟩ : ∃ W, W = ((w.alloc (.cells A 30)).alloc (.cells zC 36)).alloc (.cells #[.int .i64 (O - 16), .int .u64 0, .int .u64 0, .int .u64 0, .int .u64 0, .int .u64 0] 36) := ⟨_, rfl⟩
  have hB0 : Blk W w.heap.size 30 A := by rw [hW]; exact ((Blk.new w 30 A).alloc _).alloc _
  have hB1 : Blk W (w.heap.size + 1) 36 zC := by rw [hW]; have := (Blk.new (w.alloc (.cells A 30)) 36 zC).alloc (.cells #[.int .i64 (O - 16), .int .u64 0, .int .u64 0, .int .u64 0, .int .u64 0, .int .u64 0] 36); simpa using this
  have hB2 : Blk W (w.heap.size + 1 + 1) 36 #[.int .i64 (O - 16), .int .u64 0, .int .u64 0, .int .u64 0, .int .u64 0, .int .u64 0] := by rw [hW]; have := Blk.new ((w.alloc (.cells A 30)).alloc (.cells zC 36)) 36 #[.int .i64 (O - 16), .int .u64 0, .int .u64 0, .int .u64 0, .int .u64 0, .int .u64 0]; simpa using this
  have hb : Below w.heap.size w W := by rw [hW]; exact (((Below.refl _ _).alloc (Nat.le_refl _) _).alloc (by simp) _).alloc (by simp; omega) _
  have hcs : ∀ j v, [Value.int .u64 (r 0), .int .u64 (r 1), .int .u64 (r 2), .int .u64 (r 3), .int .u64 (r 4)][j]? = some v → W.cell? ((⟨w.heap.size, 9, none⟩ : Addr).add j) = some v := by
    intro j v hj
    have hadd : (⟨w.heap.size, 9, none⟩ : Addr).add j = ⟨w.heap.size, 9 + j, none⟩ := by unfold Addr.add; split <;> simp_all
    rw [hadd, hB0.cell]
    have hj5 : j < 5 := (List.getElem?_eq_some_iff.1 hj).1
    rw [hA j hj5, ← hj]
    have : j = 0 ∨ j = 1 ∨ j = 2 ∨ j = 3 ∨ j = 4 := by omega
    rcases this with rfl | rfl | rfl | rfl | rfl <;> rfl
  go_enter Try.func30, Try.ntmps30
  go_upto_region 2 with (fail)
  rw [← hW]
  go_region_law (refine step_copy_splice rfl _ _ 79 79 rfl 24 Try.underlying79 info24 _ _ _ _ _ _ (by rfl) (by rfl) (w.heap.size + 1 + 1) 1 [.int .i64 (O - 16), .int .u64 0, .int .u64 0, .int .u64 0, .int .u64 0, .int .u64 0] 36 (by exact hB2) [.int .u64 (r 0), .int .u64 (r 1), .int .u64 (r 2), .int .u64 (r 3), .int .u64 (r 4)] (by rfl) (fun _ => ⟨by rfl, _, by rfl, by exact hcs⟩) (by simp) (by simp [Value.oneCell']) (w.heap.size + 1 + 1) W (by exact ⟨rfl, rfl, rfl, by simp, fun _ _ => rfl⟩) (Nat.le_refl _) ?_; intro w3 hg3 hb3)
  all_goals
    have hg4 : Blk w3 (w.heap.size + 1 + 1) 36 #[.int .i64 (O - 16), .int .u64 (r 0), .int .u64 (r 1), .int .u64 (r 2), .int .u64 (r 3), .int .u64 (r 4)] := hg3.out
    have hB1' : Blk w3 (w.heap.size + 1) 36 zC := hB1.same (hb3.block _ (by omega))
    have hb4 : Below w.heap.size w w3 := hb.trans (hb3.mono (by omega))
    have hw4 : Whole 36 (#[.int .i64 (O - 16), .int .u64 (r 0), .int .u64 (r 1), .int .u64 (r 2), .int .u64 (r 3), .int .u64 (r 4)] : Array Value).size := whole36
    have h1c : (#[.int .i64 (O - 16), .int .u64 (r 0), .int .u64 (r 1), .int .u64 (r 2), .int .u64 (r 3), .int .u64 (r 4)] : Array Value).all (·.oneCell') = true := by simp [Value.oneCell']
    have hsc : zC.size = (#[.int .i64 (O - 16), .int .u64 (r 0), .int .u64 (r 1), .int .u64 (r 2), .int .u64 (r 3), .int .u64 (r 4)] : Array Value).size := rfl
    clear hg3 hb3 hb hB0 hB1 hB2 hcs hW
    go_wp2_with (first
      | (refine wpList_load_blk hg4 hw4 rfl _ rfl rfl ?_)
      | (refine wpList_store_blk hB1' hw4 hsc h1c rfl _ _ rfl rfl rfl ?_; intro w5 hB4 hC4))
    refine bodyPost_ret (res_load (b := w.heap.size + 1) (t := 36) ?_ hB4 whole36) rfl ⟨rfl, ?_⟩
    · simp [results, Try.results30, Act.put, go_sem]
    · exact hb4.trans (hC4.below (by simp) hb4.size)
end Go.Proofs
end
section
namespace Go.Proofs
open Go.RowKit
set_option linter.unusedVariables false

def addN (x y : Int) : Int := if x + y < 18446744073709551616 then x + y else 0
def addF (x y : Int) : Bool := decide (x + y < 18446744073709551616)
def subN (x y : Int) : Int := if x < y then 0 else x - y
def subF (x y : Int) : Bool := decide (y ≤ x)
def mulN (x y : Int) : Int := if x * y < 18446744073709551616 then x * y else 0
def mulF (x y : Int) : Bool := decide (x * y < 18446744073709551616)
def addS (x y : Int) : Int := if x + y < 18446744073709551616 then x + y else 18446744073709551615
def subS (x y : Int) : Int := if x < y then 0 else x - y
def mulS (x y : Int) : Int := if x * y < 18446744073709551616 then x * y else 18446744073709551615

theorem add64_0 (x y : Int) (hx : 0 ≤ x) (hy : 0 ≤ y) (w : World) : (callFunc 36 #[.int .u64 x, .int .u64 y, .int .u64 0]).run Try.prog w =
    .ok (.value (.tuple #[.int .u64 ((x + y) % 18446744073709551616), .int .u64 ((x + y) / 18446744073709551616)])) w := by
  rw [run_callFunc_extern Try.func36 (by kernel_rfl) (by kernel_rfl) (by kernel_rfl) (e := add64Entry) (by kernel_rfl), run_add64 x y 0 hx hy (by omega) (by omega)]
  simp [Result.andThen]

theorem add64_fits (x y : Int) (hx : 0 ≤ x) (hy : 0 ≤ y) (h : x + y < 18446744073709551616) (w : World) : (callFunc 36 #[.int .u64 x, .int .u64 y, .int .u64 0]).run Try.prog w =
    .ok (.value (.tuple #[.int .u64 (addN x y), .int .u64 0])) w := by
  rw [add64_0 x y hx hy]
  have e1 : (x + y) % 18446744073709551616 = addN x y := by unfold addN; rw [if_pos h]; omega
  have e2 : (x + y) / 18446744073709551616 = 0 := by omega
  rw [e1, e2]
theorem add64_over (x y : Int) (hx : 0 ≤ x) (hy : 0 ≤ y) (hx' : x < 18446744073709551616) (hy' : y < 18446744073709551616) (h : ¬ x + y < 18446744073709551616) (w : World) : (callFunc 36 #[.int .u64 x, .int .u64 y, .int .u64 0]).run Try.prog w =
    .ok (.value (.tuple #[.int .u64 (x + y - 18446744073709551616), .int .u64 1])) w := by
  rw [add64_0 x y hx hy]
  have e1 : (x + y) % 18446744073709551616 = x + y - 18446744073709551616 := by omega
  have e2 : (x + y) / 18446744073709551616 = 1 := by omega
  rw [e1, e2]

theorem exact_number (a b : Value) (n : Int) (w : World) :
    Calls Try.prog 56 #[.agg #[a, b], .int .u64 n] w fun e w' => e = .returned (.agg #[.int .u64 n, .bool true]) ∧ Below w.heap.size w w' := by
  go_enter Try.func56, Try.ntmps56
  go_wp2
  simp [bodyPost, results, Try.results56, go_sem]
  exact (((Below.refl _ _).alloc (Nat.le_refl _) _).alloc (by simp) _)

theorem exact_nearest (a b : Value) (n : Int) (w : World) :
    Calls Try.prog 55 #[.agg #[a, b], .int .u64 n] w fun e w' => e = .returned (.agg #[.int .u64 0, .bool false]) ∧ Below w.heap.size w w' := by
  go_enter Try.func55, Try.ntmps55
  go_wp2
  simp [bodyPost, results, Try.results55, go_sem]
  exact (((Below.refl _ _).alloc (Nat.le_refl _) _).alloc (by simp) _)

theorem exact_meth (v : Value) (w : World) (hv : v = .agg #[.int .u64 0, .bool false]) : (method 203 71 v "helmsman/num.number").run Try.prog w = .ok (56, v) w := by
  subst hv; kernel_rfl
theorem m56 (w : World) : (method 203 71 (.agg #[.int .u64 0, .bool false]) "helmsman/num.number").run Try.prog w = .ok (56, .agg #[.int .u64 0, .bool false]) w := by kernel_rfl
theorem m55 (w : World) : (method 203 71 (.agg #[.int .u64 0, .bool false]) "helmsman/num.nearest").run Try.prog w = .ok (55, .agg #[.int .u64 0, .bool false]) w := by kernel_rfl
theorem bcell {W w1 : World} (hb : Below W.heap.size W w1) : (∀ b o, b < W.heap.size → w1.cell? ⟨b, o, none⟩ = W.cell? ⟨b, o, none⟩) ∧ (∀ b o, b < W.heap.size → w1.frozen? ⟨b, o, none⟩ = W.frozen? ⟨b, o, none⟩) :=
  ⟨fun b o h => hb.cell (p := ⟨b, o, none⟩) h, fun b o h => hb.frozen (p := ⟨b, o, none⟩) h⟩

set_option maxHeartbeats 1000000 in
theorem sum_exact_fits (x y : Int) (hx : 0 ≤ x) (hy : 0 ≤ y) (hx1 : x < 18446744073709551616) (hy1 : y < 18446744073709551616) (h : x + y < 18446744073709551616) (w : World) :
    Calls Try.prog 31 #[.int .u64 x, .int .u64 y] w fun e w' => e = .returned (.agg #[.int .u64 (addN x y), .bool true]) ∧ Below w.heap.size w w' := by
  have hm := m56
  have hA := add64_fits x y hx hy h
  clear h
  go_enter Try.func31, Try.ntmps31
  go_wp2_with (first | (go_at_call 56; refine (exact_number _ _ _ _).mono ?_; rintro e w' ⟨rfl, hb⟩; obtain ⟨hc, hf⟩ := bcell hb; simp only [World.size_alloc] at hc hf hb))
  have hz : w.heap.size + 1 < w'.heap.size := by have := hb.size; simp at this; omega
  have q0 : w'.cell? ⟨w.heap.size, 0, none⟩ = some (.int .u64 0) := by rw [hc _ _ (by omega)]; simp [go_sem]
  have q1 : w'.cell? ⟨w.heap.size, 1, none⟩ = some (.bool false) := by rw [hc _ _ (by omega)]; simp [go_sem]
  have c0 := World.cell?_setCell_same' w' ⟨w.heap.size, 0, none⟩ (.int .u64 (addN x y)) (by rw [q0]; rfl)
  have c1 := World.cell?_setCell_same' (w'.setCell ⟨w.heap.size, 0, none⟩ (.int .u64 (addN x y))) ⟨w.heap.size, 1, none⟩ (.bool true) (by simp [go_sem, q1])
  simp [bodyPost, results, Try.results31, go_sem, c0, c1, Result.andThen]
  exact ((((Below.refl _ _).alloc (Nat.le_refl _) _).alloc (by simp) _).trans (hb.mono (by omega))).setCell (Nat.le_refl _) _ |>.setCell (Nat.le_refl _) _

set_option maxHeartbeats 1000000 in
theorem sum_exact_over (x y : Int) (hx : 0 ≤ x) (hy : 0 ≤ y) (hx1 : x < 18446744073709551616) (hy1 : y < 18446744073709551616) (h : ¬ x + y < 18446744073709551616) (w : World) :
    Calls Try.prog 31 #[.int .u64 x, .int .u64 y] w fun e w' => e = .returned (.agg #[.int .u64 (0), .bool false]) ∧ Below w.heap.size w w' := by
  have hm := m55
  have hA := add64_over x y hx hy hx1 hy1 h
  clear h
  go_enter Try.func31, Try.ntmps31
  go_wp2_with (first | (go_at_call 55; refine (exact_nearest _ _ _ _).mono ?_; rintro e w' ⟨rfl, hb⟩; obtain ⟨hc, hf⟩ := bcell hb; simp only [World.size_alloc] at hc hf hb))
  have hz : w.heap.size + 1 < w'.heap.size := by have := hb.size; simp at this; omega
  have q0 : w'.cell? ⟨w.heap.size, 0, none⟩ = some (.int .u64 0) := by rw [hc _ _ (by omega)]; simp [go_sem]
  have q1 : w'.cell? ⟨w.heap.size, 1, none⟩ = some (.bool false) := by rw [hc _ _ (by omega)]; simp [go_sem]
  have c0 := World.cell?_setCell_same' w' ⟨w.heap.size, 0, none⟩ (.int .u64 (0)) (by rw [q0]; rfl)
  have c1 := World.cell?_setCell_same' (w'.setCell ⟨w.heap.size, 0, none⟩ (.int .u64 (0))) ⟨w.heap.size, 1, none⟩ (.bool false) (by simp [go_sem, q1])
  simp [bodyPost, results, Try.results31, go_sem, c0, c1, Result.andThen]
  exact ((((Below.refl _ _).alloc (Nat.le_refl _) _).alloc (by simp) _).trans (hb.mono (by omega))).setCell (Nat.le_refl _) _ |>.setCell (Nat.le_refl _) _

set_option maxHeartbeats 1000000 in
theorem dif_exact_fits (x y : Int) (hx : 0 ≤ x) (hy : 0 ≤ y) (hx1 : x < 18446744073709551616) (hy1 : y < 18446744073709551616) (h : y ≤ x) (w : World) :
    Calls Try.prog 32 #[.int .u64 x, .int .u64 y] w fun e w' => e = .returned (.agg #[.int .u64 (x - y), .bool true]) ∧ Below w.heap.size w w' := by
  have hm := m56
  have hA : IntKind.u64.wrap (x - y) = x - y := by rw [IntKind.wrap_u64]; omega
  go_enter Try.func32, Try.ntmps32
  go_wp2_with (first | (go_at_call 56; refine (exact_number _ _ _ _).mono ?_; rintro e w' ⟨rfl, hb⟩; obtain ⟨hc, hf⟩ := bcell hb; simp only [World.size_alloc] at hc hf hb))
  have hz : w.heap.size + 1 < w'.heap.size := by have := hb.size; simp at this; omega
  have q0 : w'.cell? ⟨w.heap.size, 0, none⟩ = some (.int .u64 0) := by rw [hc _ _ (by omega)]; simp [go_sem]
  have q1 : w'.cell? ⟨w.heap.size, 1, none⟩ = some (.bool false) := by rw [hc _ _ (by omega)]; simp [go_sem]
  have c0 := World.cell?_setCell_same' w' ⟨w.heap.size, 0, none⟩ (.int .u64 (x - y)) (by rw [q0]; rfl)
  have c1 := World.cell?_setCell_same' (w'.setCell ⟨w.heap.size, 0, none⟩ (.int .u64 (x - y))) ⟨w.heap.size, 1, none⟩ (.bool true) (by simp [go_sem, q1])
  simp [bodyPost, results, Try.results32, go_sem, c0, c1, Result.andThen]
  exact ((((Below.refl _ _).alloc (Nat.le_refl _) _).alloc (by simp) _).trans (hb.mono (by omega))).setCell (Nat.le_refl _) _ |>.setCell (Nat.le_refl _) _

set_option maxHeartbeats 1000000 in
theorem dif_exact_over (x y : Int) (hx : 0 ≤ x) (hy : 0 ≤ y) (hx1 : x < 18446744073709551616) (hy1 : y < 18446744073709551616) (h : x < y) (w : World) :
    Calls Try.prog 32 #[.int .u64 x, .int .u64 y] w fun e w' => e = .returned (.agg #[.int .u64 (0), .bool false]) ∧ Below w.heap.size w w' := by
  have hm := m55

  go_enter Try.func32, Try.ntmps32
  go_wp2_with (first | (go_at_call 55; refine (exact_nearest _ _ _ _).mono ?_; rintro e w' ⟨rfl, hb⟩; obtain ⟨hc, hf⟩ := bcell hb; simp only [World.size_alloc] at hc hf hb))
  have hz : w.heap.size + 1 < w'.heap.size := by have := hb.size; simp at this; omega
  have q0 : w'.cell? ⟨w.heap.size, 0, none⟩ = some (.int .u64 0) := by rw [hc _ _ (by omega)]; simp [go_sem]
  have q1 : w'.cell? ⟨w.heap.size, 1, none⟩ = some (.bool false) := by rw [hc _ _ (by omega)]; simp [go_sem]
  have c0 := World.cell?_setCell_same' w' ⟨w.heap.size, 0, none⟩ (.int .u64 (0)) (by rw [q0]; rfl)
  have c1 := World.cell?_setCell_same' (w'.setCell ⟨w.heap.size, 0, none⟩ (.int .u64 (0))) ⟨w.heap.size, 1, none⟩ (.bool false) (by simp [go_sem, q1])
  simp [bodyPost, results, Try.results32, go_sem, c0, c1, Result.andThen]
  exact ((((Below.refl _ _).alloc (Nat.le_refl _) _).alloc (by simp) _).trans (hb.mono (by omega))).setCell (Nat.le_refl _) _ |>.setCell (Nat.le_refl _) _


end Go.Proofs
end
