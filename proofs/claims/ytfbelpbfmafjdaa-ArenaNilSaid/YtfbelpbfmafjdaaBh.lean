import Derived.Test.YtfbelpbfmafjdaaBg
import Derived.Test.YtfbelpbfmafjdaaArK
namespace Go.Proofs
open Go.RowKit Go.Shelf
set_option linter.unusedVariables false
attribute [local go_sem] Oper.semAt_some
theorem run_eql_nilFunc (c : Array Value) (f : FuncId) (w : World) : (binOp BinOp.eql 50 (Value.func (Fn.func f) #[] c) Value.nilFunc).run Try.prog w = .ok (.bool false) w := by
  kernel_rfl
attribute [local go_sem] run_eql_nilFunc

/-- What is kept all along: the zero table, the answer's cell, and whatever lay there. -/
structure Kit (w W : World) : Prop where
  zero : ZeroAt W (w.heap.size + 1)
  cell : Blk W w.heap.size 4 #[.bool false]
  below : Below w.heap.size w W
theorem Kit.chg {w W W' : World} (h : Kit w W) (hc : Chg [] W W') : Kit w W' := ⟨Blk.chg h.zero hc (by simp), h.cell.chg hc (by simp), h.below.trans (hc.below (fun _ hk => by cases hk) h.below.size)⟩
theorem Kit.alloc {w W : World} (h : Kit w W) (o : Obj) : Kit w (W.alloc o) := h.chg ((Chg.refl _ _).alloc o)
theorem Kit.start (w : World) : Kit w ((w.alloc (.cells #[.bool false] 4)).alloc (.cells #[.int .i64 0, .int .u64 0, .slice none 0 0, .slice none 0 0, .int .i64 0] 66)) :=
  ⟨by have := Blk.new (w.alloc (.cells #[.bool false] 4)) 66 #[.int .i64 0, .int .u64 0, .slice none 0 0, .slice none 0 0, .int .i64 0]; simpa [ZeroAt] using this, (Blk.new w 4 #[.bool false]).alloc _, (((Below.refl _ w).alloc (Nat.le_refl _) _).alloc (by simp) _)⟩
theorem Kit.no {w W : World} (h : Kit w W) : NoTab W (.pointer (some ⟨w.heap.size + 1, 0, none⟩)) := .inr ⟨_, rfl, h.zero⟩
theorem Kit.nil {w W : World} (h : Kit w W) : NoTab W (.pointer none) := .inl rfl

theorem len_c {w : World} {v : Value} (h : NoTab w v) : Calls Try.prog 25 #[v] w fun e w' => e = .returned (.int .i64 0) ∧ Chg [] w w' := (len_no h).mono fun e w' ⟨h1, n, h2⟩ => ⟨h1, by rw [h2]; exact (Chg.refl _ _).drewN n⟩
theorem free_c {w : World} {v : Value} (h : NoTab w v) : Calls Try.prog 26 #[v] w fun e w' => e = .returned (.int .i64 0) ∧ Chg [] w w' := (free_no h).mono fun e w' ⟨h1, n, h2⟩ => ⟨h1, by rw [h2]; exact (Chg.refl _ _).drewN n⟩

set_option maxRecDepth 100000 in
set_option maxHeartbeats 3200000 in
theorem nil_any (w : World) : CallsIn Fence.wide 12 Try.prog 8 #[] w fun e w' => e = .returned (.bool true) ∧ Below w.heap.size w w' := by
  have k0 := Kit.start w
  refine callsIn_of_wp_marks Try.func8 rfl trivial ?_ rfl
  simp only [Try.ntmps8, List.size_toArray, List.length_nil, Nat.reduceSub, Array.replicate_succ, Array.replicate_zero, List.push_toArray, List.append_toArray, List.nil_append, List.cons_append]
  gi_wp2_with (fail)
  refine ⟨trivial, (callsIn_wide.2 (put_no (p := none) k0.nil 1)).mono ?_⟩
  rintro e w1 ⟨rfl, hc1⟩
  have k1 := (k0.chg hc1).alloc (.cells #[.int .i64 0, .int .u64 0] 36)
  clear k0 hc1
  gi_wp2_with (fail)
  refine ⟨trivial, (callsIn_wide.2 (get_no k1.no 0 1)).mono ?_⟩
  rintro e w2 ⟨rfl, hc2⟩
  have k2 := k1.chg hc2
  clear k1 hc2
  gi_wp2_with (fail)
  refine ⟨trivial, (callsIn_wide.2 (at_no k2.nil 0)).mono ?_⟩
  rintro e w3 ⟨rfl, hc3⟩
  have k3 := (k2.chg hc3).alloc (.cells #[.int .i64 0, .int .u64 0] 36)
  clear k2 hc3
  gi_wp2_with (fail)
  refine ⟨trivial, (all_no _ (by omega) none _ k3.nil).mono ?_⟩
  rintro e w4 ⟨⟨B1, rfl, hH1⟩, hb4⟩
  have k4 := k3.chg (Chg.of_below hb4)
  clear k3 hb4
  gi_wp2_with (fail)
  refine ⟨trivial, (all_no _ (by omega) _ _ k4.no).mono ?_⟩
  rintro e w5 ⟨⟨B2, rfl, hH2⟩, hb5⟩
  have k5 := k4.chg (Chg.of_below hb5)
  have g1 := hH1.to.below hb5 (Nat.le_refl _)
  have g2 := hH2.to
  clear k4
  gi_wp2_with (fail)
  refine wpIn_rangeFunc_ownH (α := Nam) rfl (by omega) (gf := 41) (lb := #[.pointer (some ⟨B1, 0, none⟩)]) rfl trivial (enters_of Try.func41 (by kernel_rfl) rfl)
    (over_stops (12 - 1) (by omega) g1 g1.top (Nat.le_refl _) (by simp)) (fun h k => h.trans k) (belowK_b (Nat.le_refl _)) (Below.refl _ _) (fun _ => rfl)
    (fun pre W => Below w5.heap.size w5 W) (fun _ _ _ => False)
    (ownFrom_below (Nat.le_refl _) (Nat.le_refl _)) (fun _ _ _ _ _ hs _ _ => hs) (Below.refl _ _)
    (fun _ _ _ => True) (fun _ _ _ _ _ _ _ _ _ => trivial) ?assign ?body ?done ?stop
  case assign =>
    intro l pre x W K hI hK
    gi_wp2
    exact hK _ _ (KeepsFrom.refl _ _) (Below.refl _ _) hI trivial
  case body =>
    intro l pre x a' W hl hr hI hA hlt
    exact absurd hlt (Nat.not_lt_zero _)
  case stop =>
    intro D c pre W _ _ h _
    exact h.elim
  case done =>
    rintro D1 xs W6 hD1 _ hB6 hK1
    have l1 := (Array.getElem?_eq_some_iff.1 hK1).1
    have k6 := k5.chg (Chg.of_below hB6)
    have g3 := g2.below hB6 (Nat.le_refl _)
    gi_wp2_with (fail)
    refine wpIn_rangeFunc_ownH (α := Nam) rfl (by omega) (gf := 41) (lb := #[.pointer (some ⟨B2, 0, none⟩)]) rfl trivial (enters_of Try.func41 (by kernel_rfl) rfl)
      (over_stops (12 - 1) (by omega) g3 g3.top (Nat.le_refl _) (by simp)) (fun h k => h.trans k) (belowK_b (Nat.le_refl _)) (Below.refl _ _) (fun _ => rfl)
      (fun pre W => Below W6.heap.size W6 W) (fun _ _ _ => False)
      (ownFrom_below (Nat.le_refl _) (Nat.le_refl _)) (fun _ _ _ _ _ hs _ _ => hs) (Below.refl _ _)
      (fun _ _ _ => True) (fun _ _ _ _ _ _ _ _ _ => trivial) ?assign2 ?body2 ?done2 ?stop2
    case assign2 =>
      intro l pre x W K hI hK
      gi_wp2
      exact hK _ _ (KeepsFrom.refl _ _) (Below.refl _ _) hI trivial
    case body2 =>
      intro l pre x a' W hl hr hI hA hlt
      exact absurd hlt (Nat.not_lt_zero _)
    case stop2 =>
      intro D c pre W _ _ h _
      exact h.elim
    case done2 =>
      rintro D2 xs W7 hD2 _ hB7 hK2
      have k7 := k6.chg (Chg.of_below hB7)
      have hK1' := (hB7.block D1 l1).trans hK1
      have K0 := Lib.hid (fun (w' : World) (h : Chg [] W7 w') => k7.chg h)
      have C := Chg.refl [] W7
      have z1 : w.heap.size ≤ D1 := Nat.le_trans k5.below.size hD1
      have z2 : w.heap.size ≤ D2 := Nat.le_trans k6.below.size hD2
      clear k6 g3 k5 g1 g2 hH1 hH2 hb5 hB6
      gi_wp2_with (fail)
      refine ⟨trivial, (callsIn_wide.2 (set_no k7.nil 0 0 1)).mono ?_⟩
      rintro e X1 ⟨rfl, hc⟩
      replace C := C.then hc
      replace k7 := K0.out _ C
      gi_wp2_with (fail)
      refine ⟨trivial, (callsIn_wide.2 (drop_no k7.no 0 0)).mono ?_⟩
      rintro e X2 ⟨rfl, hc2⟩
      replace C := C.then hc2
      replace k7 := K0.out _ C
      gi_wp2_with (fail)
      refine ⟨trivial, (callsIn_wide.2 (len_c k7.nil)).mono ?_⟩
      rintro e X3 ⟨rfl, hn1⟩
      replace C := C.then hn1
      replace k7 := K0.out _ C
      gi_wp2_with (fail)
      refine ⟨trivial, (callsIn_wide.2 (len_c k7.no)).mono ?_⟩
      rintro e X4 ⟨rfl, hn2⟩
      replace C := C.then hn2
      replace k7 := K0.out _ C
      gi_wp2_with (fail)
      refine ⟨trivial, (callsIn_wide.2 (size_no k7.nil)).mono ?_⟩
      rintro e X ⟨rfl, rfl⟩
      gi_wp2_with (fail)
      refine ⟨trivial, (callsIn_wide.2 (size_no k7.no)).mono ?_⟩
      rintro e X ⟨rfl, rfl⟩
      gi_wp2_with (fail)
      refine ⟨trivial, (callsIn_wide.2 (free_c k7.nil)).mono ?_⟩
      rintro e X ⟨rfl, hn3⟩
      replace C := C.then hn3
      replace k7 := K0.out _ C
      gi_wp2_with (fail)
      refine ⟨trivial, (callsIn_wide.2 (free_c k7.no)).mono ?_⟩
      rintro e X ⟨rfl, hn4⟩
      replace C := C.then hn4
      replace k7 := K0.out _ C
      gi_wp2_with (fail)
      refine ⟨trivial, (callsIn_wide.2 (retired_no k7.nil)).mono ?_⟩
      rintro e X ⟨rfl, rfl⟩
      gi_wp2_with (fail)
      refine ⟨trivial, (callsIn_wide.2 (retired_no k7.no)).mono ?_⟩
      rintro e X ⟨rfl, rfl⟩
      gi_wp2_with (fail)
      refine ⟨trivial, (callsIn_wide.2 (copy_no k7.nil)).mono ?_⟩
      rintro e X ⟨rfl, rfl⟩
      gi_wp2_with (fail)
      refine ⟨trivial, (callsIn_wide.2 (copy_no k7.no)).mono ?_⟩
      rintro e X ⟨rfl, rfl⟩
      gi_wp2_with (fail)
      refine ⟨trivial, (callsIn_wide.2 (known_any _)).mono ?_⟩
      rintro e W9 ⟨rfl, hb9⟩
      replace C := C.then (Chg.of_below hb9)
      replace k7 := K0.out _ C
      have c0 := k7.cell.cell 0
      have f0 := k7.cell.frozen 0
      have m1 := (C.block D1 (Array.getElem?_eq_some_iff.1 hK1').1 (by simp)).trans hK1'
      have m2 := (C.block D2 (Array.getElem?_eq_some_iff.1 hK2).1 (by simp)).trans hK2
      gi_wp2_with (fail)
      have hne1 : w.heap.size ≠ D1 := by have := k7.cell.lt; have := (Array.getElem?_eq_some_iff.1 m1).1; intro e; subst e; have := k7.cell; unfold Blk at this; rw [m1] at this; cases this
      have hne2 : w.heap.size ≠ D2 := by intro e; subst e; have := k7.cell; unfold Blk at this; rw [m2] at this; cases this
      have hD : D1 ≠ D2 := by have := (Array.getElem?_eq_some_iff.1 hK1').1; have := l1; omega
      refine ⟨by simp, .inl ⟨_, _, rfl, run_takeDeferred ((Below.heap_setCell _ _ _ _ (Ne.symm hne2)).trans m2), ?_⟩⟩
      refine ⟨by simp, .inl ⟨_, _, rfl, run_takeDeferred ((World.putObj_heap_other hD).trans ((Below.heap_setCell _ _ _ _ (Ne.symm hne1)).trans m1)), ?_⟩⟩
      have hq := (((k7.cell.set_ 0 (.bool true)).same (World.putObj_heap_other (o := .deferred none) hne2)).same (World.putObj_heap_other (o := .deferred none) hne1)).cell 0
      have hB9 := ((k7.below.setCell (p := ⟨w.heap.size, 0, none⟩) (Nat.le_refl _) (.bool true)).grown (grownBy_putObj' _ D2 (.deferred none)) (by have := k7.below.size; simpa [World.setCell] using this) (fun k e => by cases e; exact z2)).grown (grownBy_putObj' _ D1 (.deferred none)) (by have := k7.below.size; simpa [World.setCell, World.putObj] using this) (fun k e => by cases e; exact z1)
      refine ⟨.bool true, ?_, rfl, hB9⟩
      simp at hq
      simp [results, Try.f8, go_sem, hq, Result.andThen]
theorem nil_calls (w : World) : Calls Try.prog 8 #[] w fun e w' => e = .returned (.bool true) ∧ Below w.heap.size w w' := (callsIn_wide (n := 12)).1 (nil_any w)
end Go.Proofs
