import Derived.Test.YtocdkomjdcccoaaReE
import Derived.Laws.EntriesVeiled
namespace Go.Proofs
open Go.RowKit
set_option linter.unusedVariables false

theorem Blk.at (w : World) (t : TypeId) (cs : Array Value) {n : Nat} (h : n = w.heap.size) : Blk (w.alloc (.cells cs t)) n t cs := by subst h; exact Blk.new w t cs
/-! ### Whose time has not come -/
/-- The closure that asks for refills whose time has not come. -/
theorem above_step {w : World} {bN : Nat} {now : Int} (hN : Blk w bN 22 #[.int .u64 now]) (x y : Int) :
    Calls Try.prog 51 #[.agg #[.int .u64 x, .int .u64 y], .pointer (some ⟨bN, 0, none⟩)] w fun e w' => e = .returned (.bool (decide (now < y))) ∧ Chg [] w w' := by
  have c0 := hN.cell 0
  have ln := hN.lt
  clear hN
  go_enter Try.func51, Try.ntmps51
  go_wp2
  go_ret
  exact ⟨rfl, (Chg.refl _ _).alloc _⟩
theorem above_any (w : World) (now : Int) :
    Calls Try.prog 41 #[.int .u64 now] w fun e w' => e = .returned (.func (.func 51) #[] #[.pointer (some ⟨w.heap.size, 0, none⟩)]) ∧ Blk w' w.heap.size 22 #[.int .u64 now] ∧ Chg [] w w' := by
  go_enter Try.func41, Try.ntmps41
  go_wp2
  go_ret
  exact ⟨rfl, Blk.new _ _ _, (Chg.refl _ _).alloc _⟩
/-! ### What is wrong -/
def wrongP (b : Bool) (a : Int) (x : Rf) : Bool := x.1 == 0 || (b && decide (x.2 ≤ a))
set_option maxHeartbeats 1600000 in
theorem wrong_step {w : World} {bB bA : Nat} {b : Bool} {a : Int} (hB : Blk w bB 4 #[.bool b]) (hA : Blk w bA 22 #[.int .u64 a]) (x y : Int) :
    Calls Try.prog 59 #[.agg #[.int .u64 x, .int .u64 y], .pointer (some ⟨bB, 0, none⟩), .pointer (some ⟨bA, 0, none⟩)] w fun e w' => e = .returned (.bool (wrongP b a (x, y))) ∧ Blk w' bB 4 #[.bool true] ∧ Blk w' bA 22 #[.int .u64 y] ∧ Chg [bB, bA] w w' := by
  have c0 := hB.cell 0
  have c1 := hA.cell 0
  have f0 := hB.frozen 0
  have f1 := hA.frozen 0
  have l0 := hB.lt
  have l1 := hA.lt
  have hne : bB ≠ bA := hB.ty hA (by decide)
  have hne' : bA ≠ bB := Ne.symm hne
  have HEnd := Lib.hid (fun (o : Obj) => (⟨by have := (((hB.set_ 0 (.bool true)).far (p := ⟨bA, 0, none⟩) hne (.int .u64 y)).alloc o).drew; simpa using this, by have := (((hA.far (p := ⟨bB, 0, none⟩) hne' (.bool true)).set_ 0 (.int .u64 y)).alloc o).drew; simpa using this, ((((Chg.refl [bB, bA] w).setCell (p := ⟨bB, 0, none⟩) (.inl (by simp)) _).setCell (p := ⟨bA, 0, none⟩) (.inl (by simp)) _).alloc o).drew⟩ : Blk (((w.setCell ⟨bB, 0, none⟩ (.bool true)).setCell ⟨bA, 0, none⟩ (.int .u64 y)).alloc o).drew bB 4 #[.bool true] ∧ Blk (((w.setCell ⟨bB, 0, none⟩ (.bool true)).setCell ⟨bA, 0, none⟩ (.int .u64 y)).alloc o).drew bA 22 #[.int .u64 y] ∧ Chg [bB, bA] w (((w.setCell ⟨bB, 0, none⟩ (.bool true)).setCell ⟨bA, 0, none⟩ (.int .u64 y)).alloc o).drew))
  have HEnd2 := Lib.hid (fun (o : Obj) => (⟨by have := (((hB.far (p := ⟨bA, 0, none⟩) hne (.int .u64 y)).set_ 0 (.bool true)).alloc o).drew; simpa using this, by have := (((hA.set_ 0 (.int .u64 y)).far (p := ⟨bB, 0, none⟩) hne' (.bool true)).alloc o).drew; simpa using this, ((((Chg.refl [bB, bA] w).setCell (p := ⟨bA, 0, none⟩) (.inl (by simp)) _).setCell (p := ⟨bB, 0, none⟩) (.inl (by simp)) _).alloc o).drew⟩ : Blk (((w.setCell ⟨bA, 0, none⟩ (.int .u64 y)).setCell ⟨bB, 0, none⟩ (.bool true)).alloc o).drew bB 4 #[.bool true] ∧ Blk (((w.setCell ⟨bA, 0, none⟩ (.int .u64 y)).setCell ⟨bB, 0, none⟩ (.bool true)).alloc o).drew bA 22 #[.int .u64 y] ∧ Chg [bB, bA] w (((w.setCell ⟨bA, 0, none⟩ (.int .u64 y)).setCell ⟨bB, 0, none⟩ (.bool true)).alloc o).drew))
  clear hB hA
  by_cases hx : x = 0
  · subst hx
    rw [show wrongP b a (0, y) = true from rfl]
    go_enter Try.func59, Try.ntmps59
    go_wp2
    go_region
    all_goals
      go_wp2
      go_ret
      first
        | exact ⟨rfl, HEnd.out _⟩
        | exact ⟨rfl, HEnd2.out _⟩
  · have g0 : (x == 0) = false := by simpa using hx
    cases b with
    | true =>
      rw [show wrongP true a (x, y) = decide (y ≤ a) by unfold wrongP; simp [hx]]
      clear hx
      go_enter Try.func59, Try.ntmps59
      go_wp2
      go_region
      all_goals
        go_wp2
        go_ret
        first
          | exact ⟨rfl, HEnd.out _⟩
          | exact ⟨rfl, HEnd2.out _⟩
    | false =>
      rw [show wrongP false a (x, y) = false by unfold wrongP; simp [hx]]
      clear hx
      go_enter Try.func59, Try.ntmps59
      go_wp2
      go_region
      all_goals
        go_wp2
        go_ret
        first
          | exact ⟨rfl, HEnd.out _⟩
          | exact ⟨rfl, HEnd2.out _⟩
theorem wrong_any (w : World) :
    Calls Try.prog 58 #[] w fun e w' => e = .returned (.func (.func 59) #[] #[.pointer (some ⟨w.heap.size + 1, 0, none⟩), .pointer (some ⟨w.heap.size, 0, none⟩)]) ∧ Blk w' (w.heap.size + 1) 4 #[.bool false] ∧ Blk w' w.heap.size 22 #[.int .u64 0] ∧ Chg [] w w' := by
  go_enter Try.func58, Try.ntmps58
  go_wp2
  go_ret
  refine ⟨rfl, Blk.at (w.alloc _) 4 _ (by simp), (Blk.new w 22 _).alloc _, ((Chg.refl _ _).alloc _).alloc _⟩
end Go.Proofs
