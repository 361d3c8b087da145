/-
  Proved: what is answered of a table that is not there, and of a zero one. No conditions.
-/
import Derived.Test.YtapgcadffghljaaM14
import Derived.Test.YtapgcadffghljaaRows
import Derived.WalkKit
import Derived.Below
import Derived.ChangeSame
import Derived.ProofKit
import Derived.OpenShut
section
namespace Go.Proofs
open Go.RowKit Go.Shelf
set_option linter.unusedVariables false
set_option linter.unusedSimpArgs false
attribute [local go_sem] eql_ptr_nil eql_nil_nil eql_tptr_nil eql_tnil_nil

/-! ### No table of layer 2 -/
theorem size_N (w : World) : Calls Try.prog 48 #[.pointer none] w fun e w' => e = .returned (.int .i64 0) ∧ w = w' := by
  go_enter Try.func48, Try.ntmps48
  go_wp2
  go_ret
  exact ⟨rfl, rfl⟩
theorem free_N (w : World) : Calls Try.prog 65 #[.pointer none] w fun e w' => e = .returned (.int .i64 0) ∧ w = w' := by
  go_enter Try.func65, Try.ntmps65
  go_wp2
  go_ret
  exact ⟨rfl, rfl⟩
theorem retired_N (w : World) : Calls Try.prog 67 #[.pointer none] w fun e w' => e = .returned (.int .i64 0) ∧ w = w' := by
  go_enter Try.func67, Try.ntmps67
  go_wp2
  go_ret
  exact ⟨rfl, rfl⟩
theorem none_N (w : World) : Calls Try.prog 57 #[.pointer none] w fun e w' => e = .returned (.bool true) ∧ w = w' := by
  go_enter Try.func57, Try.ntmps57
  go_wp2_with (go_at_call 48; (refine (size_N _).mono ?_); rintro e w' ⟨rfl, rfl⟩)
  go_ret
  exact ⟨rfl, rfl⟩
theorem len_N (w : World) : Calls Try.prog 52 #[.pointer none] w fun e w' => e = .returned (.int .i64 0) ∧ Chg [] w w' := by
  go_enter Try.func52, Try.ntmps52
  go_wp2_with (first
    | (go_at_call 48; (refine (size_N _).mono ?_); rintro e w' ⟨rfl, rfl⟩)
    | (go_at_call 65; (refine (free_N _).mono ?_); rintro e w' ⟨rfl, rfl⟩)
    | (go_at_call 67; (refine (retired_N _).mono ?_); rintro e w' ⟨rfl, rfl⟩))
  go_ret
  first | exact ⟨rfl, Chg.refl [] w⟩ | exact ⟨rfl, (Chg.refl [] w).drewN _⟩
theorem at_N (w : World) (i : Int) : Calls Try.prog 51 #[.pointer none, .int .i64 i] w fun e w' => e = .returned (.tuple #[.agg #[.int .i64 0, .int .u64 0], .bool false]) ∧ Chg [] w w' := by
  go_enter Try.func51, Try.ntmps51
  go_wp2_with (go_at_call 57; (refine (none_N _).mono ?_); rintro e w' ⟨rfl, rfl⟩)
  exact bodyPost_ret (v := .tuple #[.agg #[.int .i64 0, .int .u64 0], .bool false]) (by simp [results, Try.results51, go_sem]) rfl ⟨rfl, (Chg.refl _ _).alloc _⟩
theorem find_N (w : World) (i q : Int) : Calls Try.prog 60 #[.pointer none, .agg #[.int .i64 i, .int .u64 q]] w fun e w' => e = .returned (.tuple #[.pointer none, .int .i64 1]) ∧ Chg [] w w' := by
  go_enter Try.func60, Try.ntmps60
  go_wp2_with (go_at_call 57; (refine (none_N _).mono ?_); rintro e w' ⟨rfl, rfl⟩)
  exact bodyPost_ret (v := .tuple #[.pointer none, .int .i64 1]) (by simp [results, Try.results60, go_sem]) rfl ⟨rfl, (Chg.refl _ _).alloc _⟩
set_option maxRecDepth 100000 in
theorem get_N (w : World) (i q : Int) : Calls Try.prog 41 #[.pointer none, .agg #[.int .i64 i, .int .u64 q]] w fun e w' => e = .returned (.tuple #[.agg zG, .int .i64 1]) ∧ Chg [] w w' := by
  go_enter Try.func41, Try.ntmps41
  go_wp2_with (first
    | (go_at_call 60; refine (find_N _ i q).mono ?_; rintro e w1 ⟨rfl, hc1⟩; have hz : w.heap.size + 1 < w1.heap.size := (by have := hc1.size; simp at this; omega); have HC := Lib.hid (((Chg.refl [] w).alloc _).alloc _ |>.then hc1); have hB1 := Lib.hid (box2 rfl hc1); clear hc1)
    | (refine wpl_load T37 (Blk.new w1 37 zG) rfl rfl _ rfl rfl ?_)
    | (refine wpl_store T37 (hB1.out.alloc _) rfl rfl Gr.zero.one rfl _ _ rfl rfl rfl ?_; intro w3 hS3))
  refine bodyPost_ret (res_cell (b := w.heap.size + 1) rfl T37 rfl rfl hS3.blk rfl) rfl ⟨rfl, ?_⟩
  exact (HC.out.alloc _).trans hS3.chg (fun k hk => by simp at hk; omega)
theorem drop_N (w : World) (i q : Int) : Calls Try.prog 47 #[.pointer none, .agg #[.int .i64 i, .int .u64 q]] w fun e w' => e = .returned (.int .i64 1) ∧ Chg [] w w' := by
  have k0 := (Blk.new w 33 #[.int .i64 i, .int .u64 q]).cell 0
  have k1 := (Blk.new w 33 #[.int .i64 i, .int .u64 q]).cell 1
  go_enter Try.func47, Try.ntmps47
  go_wp2_with (go_at_call 60; refine (find_N _ i q).mono ?_; rintro e w1 ⟨rfl, hc1⟩)
  go_ret
  exact ⟨rfl, ((Chg.refl [] w).alloc _).then hc1⟩
/-! ### No table of goroutines, or a zero one -/
theorem places_N (w : World) : Calls Try.prog 40 #[.pointer none] w fun e w' => e = .returned (.pointer none) ∧ w = w' := by
  go_enter Try.func40, Try.ntmps40
  go_wp2
  go_ret
  exact ⟨rfl, rfl⟩
theorem gnone_N (w : World) : Calls Try.prog 42 #[.pointer none] w fun e w' => e = .returned (.bool true) ∧ w = w' := by
  go_enter Try.func42, Try.ntmps42
  go_wp2_with (go_at_call 40; (refine (places_N _).mono ?_); rintro e w' ⟨rfl, rfl⟩)
  go_ret
  exact ⟨rfl, rfl⟩
theorem Make_N (x : Gr) (w : World) : Calls Try.prog 25 #[.pointer none, x.val] w fun e w' => e = .returned (.tuple #[.agg #[.int .i64 0, .int .u64 0], .int .i64 1]) ∧ Chg [] w w' := by
  have hXs := x.size
  unfold Gr.val
  generalize x.arr = X at *
  obtain ⟨W, hWe⟩ : ∃ W, W = (w.alloc (.cells X 37)).alloc (.cells #[.int .i64 0, .int .u64 0] 33) := ⟨_, rfl⟩
  have hc : Chg [] w W := by rw [hWe]; exact ((Chg.refl [] w).alloc _).alloc _
  have hb4 : Blk W (w.heap.size + 1) 33 #[.int .i64 0, .int .u64 0] := by rw [hWe]; exact Blk.at' (w.alloc _) 33 _ (by simp)
  have y0 := hb4.cell 0
  have y1 := hb4.cell 1
  have f0 := hb4.frozen 0
  have f1 := hb4.frozen 1
  go_enter Try.func25, Try.ntmps25
  go_upto_region 1 with (fail)
  rw [← hWe]
  clear hWe
  go_wp2_with (go_at_call 42; (refine (gnone_N _).mono ?_); rintro e w' ⟨rfl, rfl⟩)
  exact bodyPost_ret (v := .tuple #[.agg #[.int .i64 0, .int .u64 0], .int .i64 1]) (by simp [results, Try.results25, go_sem, y0, y1]) rfl ⟨rfl, (hc.setCell (p := ⟨w.heap.size + 1, 0, none⟩) (.inr (by simp)) _).setCell (p := ⟨w.heap.size + 1, 1, none⟩) (.inr (by simp)) _⟩
theorem Set_N (i q : Int) (x : Gr) (w : World) : Calls Try.prog 18 #[.pointer none, .agg #[.int .i64 i, .int .u64 q], x.val] w fun e w' => e = .returned (.int .i64 1) ∧ Chg [] w w' := by
  have hXs := x.size
  unfold Gr.val
  generalize x.arr = X at *
  go_enter Try.func18, Try.ntmps18
  go_wp2_with (go_at_call 42; (refine (gnone_N _).mono ?_); rintro e w' ⟨rfl, rfl⟩)
  go_ret
  exact ⟨rfl, ((Chg.refl [] w).alloc _).alloc _⟩
set_option maxRecDepth 100000 in
theorem Drop_N (i q : Int) (w : World) : Calls Try.prog 20 #[.pointer none, .agg #[.int .i64 i, .int .u64 q]] w fun e w' => e = .returned (.int .i64 1) ∧ Chg [] w w' := by
  have HP := Lib.hid places_N
  have HD := Lib.hid (fun W => drop_N W i q)
  have hc : Chg [] w (w.alloc (.cells #[.int .i64 i, .int .u64 q] 33)).drew := ((Chg.refl [] w).alloc _).drew
  have hb := (Blk.new w 33 #[.int .i64 i, .int .u64 q]).drew
  have k0 := hb.cell 0
  have k1 := hb.cell 1
  clear hb
  go_enter Try.func20, Try.ntmps20
  go_upto_region 1 with (fail)
  go_still_tail 3, (by kernel_rfl)
  (try change wpStill _ _ (World.drew _) _ _ _)
  (still_call ((HP.out _).mono (fun e w' h => ⟨h.1, h.2.symm⟩)))
  (repeat still_step)
  (try refine wpStill_nil ?_)
  (try change wpList _ _ _ _ _ (World.drew _))
  go_wp2_with (go_at_call 47; (refine (HD.out _).mono ?_); rintro e w2 ⟨rfl, hT2⟩)
  go_ret
  exact ⟨rfl, hc.then hT2⟩
theorem At_N (i : Int) (w : World) : Calls Try.prog 26 #[.pointer none, .int .i64 i] w fun e w' => e = .returned (.tuple #[.agg #[.int .i64 0, .int .u64 0], .bool false]) ∧ Chg [] w w' := by
  have hb := Blk.new w 33 #[.int .i64 0, .int .u64 0]
  have hc : Chg [] w (w.alloc (.cells #[.int .i64 0, .int .u64 0] 33)) := (Chg.refl [] w).alloc _
  have HA := Lib.hid (fun W => at_N W i)
  go_enter Try.func26, Try.ntmps26
  go_wp2_with (first
    | (go_at_call 40; (refine (places_N _).mono ?_); rintro e w' ⟨rfl, rfl⟩)
    | (go_at_call 51; (refine (HA.out _).mono ?_); rintro e w2 ⟨rfl, hc2⟩; have hb2 := hb.chg hc2 (by simp); have y0 := hb2.cell 0; have y1 := hb2.cell 1; have f0 := hb2.frozen 0; have f1 := hb2.frozen 1; have HC2 := Lib.hid hc2; clear hc2))
  exact bodyPost_ret (v := .tuple #[.agg #[.int .i64 0, .int .u64 0], .bool false]) (by simp [results, Try.results26, go_sem, y0, y1]) rfl ⟨rfl, ((hc.then HC2.out).setCell (p := ⟨w.heap.size, 0, none⟩) (.inr (by simp)) _).setCell (p := ⟨w.heap.size, 1, none⟩) (.inr (by simp)) _⟩
theorem Live_N (w : World) : Calls Try.prog 27 #[.pointer none] w fun e w' => e = .returned (.int .i64 0) ∧ Chg [] w w' := by
  go_enter Try.func27, Try.ntmps27
  go_wp2_with (first
    | (go_at_call 40; (refine (places_N _).mono ?_); rintro e w' ⟨rfl, rfl⟩)
    | (go_at_call 52; (refine (len_N _).mono ?_); rintro e w2 ⟨rfl, hc2⟩))
  go_ret
  exact ⟨rfl, hc2⟩
theorem Live_Z {w : World} {c : Nat} (hB : Blk w c 64 #[.pointer none]) : Calls Try.prog 27 #[ptr c] w fun e w' => e = .returned (.int .i64 0) ∧ Chg [] w w' := by
  have HP := Lib.hid (places_any hB)
  clear hB
  go_enter Try.func27, Try.ntmps27
  go_wp2_with (first
    | (go_at_call 40; (refine HP.out.mono ?_); rintro e w' ⟨rfl, rfl⟩)
    | (go_at_call 52; (refine (len_N _).mono ?_); rintro e w2 ⟨rfl, hc2⟩))
  go_ret
  exact ⟨rfl, hc2⟩
theorem Copy_N (w : World) : Calls Try.prog 15 #[.pointer none] w fun e w' => e = .returned (.pointer none) ∧ w = w' := by
  go_enter Try.func15, Try.ntmps15
  go_wp2
  go_ret
  exact ⟨rfl, rfl⟩
set_option maxRecDepth 100000 in
theorem Get_Z {w : World} {c : Nat} (hB : Blk w c 64 #[.pointer none]) (i q : Int) :
    Calls Try.prog 17 #[ptr c, .agg #[.int .i64 i, .int .u64 q]] w fun e w' => e = .returned (.tuple #[.agg zG, .int .i64 1]) ∧ Chg [] w w' := by
  have HP := Lib.hid (fun W (hc : Chg [] w W) => places_any (hB.chg hc (by simp)))
  have HG := Lib.hid (fun W => get_N W i q)
  obtain ⟨A, hA⟩ : ∃ A, A = zG := ⟨_, rfl⟩
  have hs : A.size = 19 := by rw [hA]; rfl
  have h1 : A.all (·.oneCell') = true := by rw [hA]; exact Gr.zero.one
  have HG : Hid (∀ W, Calls Try.prog 41 #[.pointer none, .agg #[.int .i64 i, .int .u64 q]] W fun e w' => e = .returned (.tuple #[.agg A, .int .i64 1]) ∧ Chg [] W w') := by rw [hA]; exact HG
  rw [← hA]
  clear hA
  obtain ⟨W, hWe⟩ : ∃ W, W = (w.alloc (.cells #[.int .i64 i, .int .u64 q] 33)).alloc (.cells zG 37) := ⟨_, rfl⟩
  have hc : Chg [] w W := by rw [hWe]; exact ((Chg.refl [] w).alloc _).alloc _
  have hb0 : Blk W w.heap.size 33 #[.int .i64 i, .int .u64 q] := by rw [hWe]; exact (Blk.new w 33 _).alloc _
  have hb1 : Blk W (w.heap.size + 1) 37 zG := by rw [hWe]; exact Blk.at' (w.alloc _) 37 _ (by simp)
  have y0 := hb0.cell 0
  have y1 := hb0.cell 1
  have hz := hb1.lt
  clear hB
  go_enter Try.func17, Try.ntmps17
  go_upto_region 1 with (fail)
  rw [← hWe]
  clear hWe
  refine wp_region_held_drew (S := fun w' => Blk w' w.heap.size 33 #[.int .i64 i, .int .u64 q]) (by kernel_rfl) hb0.drew (fun hHeld => ?_)
  simp only [List.setIfInBounds_toArray, List.size_toArray, List.length_cons, List.length_nil, Array.replicate]
  refine wpAnyH_take (i := 0) (v := ?_) rfl (by kernel_rfl) (by kernel_rfl) (by kernel_rfl) (fun _ _ _ h => h) (Or.inl ⟨by rfl, ?_⟩) hHeld ?_
  rotate_left
  · (intro w' hSw; go_simp; try with_reducible rfl)
  simp only [Act.put, List.getElem_toArray, List.getElem_cons_succ, List.getElem_cons_zero, List.setIfInBounds_toArray, List.set_cons_zero, List.set_cons_succ]
  refine wpAnyH_take (i := 2) (v := ?_) rfl (by kernel_rfl) (by kernel_rfl) (by kernel_rfl) (fun _ _ _ h => h) (Or.inl ⟨by rfl, ?_⟩) hHeld ?_
  rotate_left
  · (intro w' hSw; have q0 := hSw.cell 0; have q1 := hSw.cell 1; simp only [List.getElem?_toArray, List.getElem?_cons_zero, List.getElem?_cons_succ] at q0 q1; go_simp; try with_reducible rfl)
  simp only [Act.put, List.getElem_toArray, List.getElem_cons_succ, List.getElem_cons_zero, List.setIfInBounds_toArray, List.set_cons_zero, List.set_cons_succ]
  refine wpAnyH_ready (rs := [1]) (by kernel_rfl) (by simp) ?_
  refine AllReadyH.cons rfl (fun K hK => ?_) AllReadyH.nil
  go_simp
  refine (HP.out _ hc.drew).mono ?_
  rintro e w2 ⟨rfl, rfl⟩
  refine hK _ _ hHeld (fun hHeld => ?_)
  clear hK K
  simp only [Act.put, List.getElem_toArray, List.getElem_cons_succ, List.getElem_cons_zero, List.setIfInBounds_toArray, List.set_cons_zero, List.set_cons_succ]
  refine wpAnyH_ready (rs := [3]) (by kernel_rfl) (by simp) ?_
  refine AllReadyH.cons rfl (fun K hK => ?_) AllReadyH.nil
  go_simp
  refine (HG.out _).mono ?_
  rintro e w2 ⟨rfl, hc2⟩
  have hb2 := (hb1.drew).chg hc2 (by simp)
  refine hK _ _ (hHeld.chg hc2 (by simp)) (fun hHeld => ?_)
  clear hK K
  simp only [Act.put, List.getElem_toArray, List.getElem_cons_succ, List.getElem_cons_zero, List.setIfInBounds_toArray, List.set_cons_zero, List.set_cons_succ]
  refine wpAnyH_take (i := 4) (v := ?_) rfl (by kernel_rfl) (by kernel_rfl) (by kernel_rfl) (fun _ _ _ h => h) (Or.inl ⟨by rfl, ?_⟩) hHeld ?_
  rotate_left
  · (intro w' hSw; go_simp; try with_reducible rfl)
  simp only [Act.put, List.getElem_toArray, List.getElem_cons_succ, List.getElem_cons_zero, List.setIfInBounds_toArray, List.set_cons_zero, List.set_cons_succ]
  refine wpAnyH_take (i := 5) (v := ?_) rfl (by kernel_rfl) (by kernel_rfl) (by kernel_rfl) (fun _ _ _ h => h) (Or.inl ⟨by rfl, ?_⟩) hHeld ?_
  rotate_left
  · (intro w' hSw; go_simp; try with_reducible rfl)
  simp only [Act.put, List.getElem_toArray, List.getElem_cons_succ, List.getElem_cons_zero, List.setIfInBounds_toArray, List.set_cons_zero, List.set_cons_succ]
  refine wpAnyH_ready (rs := [6]) (by kernel_rfl) (by simp) ?_
  refine AllReadyH.cons rfl (fun K hK => ?_) AllReadyH.nil
  refine sk_step_store (off := 0) T37 hb2 hs (by rw [hs]; decide) h1 (by rfl) _ _ (by rfl) (by rfl) (by rfl) ?_
  intro w3 hS3
  rw [splice_all zG A (by rw [hs]; rfl)] at hS3
  refine hK _ _ (hS3.far hHeld (by simp)) (fun hHeld => ?_)
  clear hK K
  simp only [Act.put, List.getElem_toArray, List.getElem_cons_succ, List.getElem_cons_zero, List.setIfInBounds_toArray, List.set_cons_zero, List.set_cons_succ]
  refine wpAnyH_take (i := 7) (v := ?_) rfl (by kernel_rfl) (by kernel_rfl) (by kernel_rfl) (fun _ _ _ h => h) (Or.inl ⟨by rfl, ?_⟩) hHeld ?_
  rotate_left
  · (intro w' hSw; go_simp; try with_reducible rfl)
  simp only [Act.put, List.getElem_toArray, List.getElem_cons_succ, List.getElem_cons_zero, List.setIfInBounds_toArray, List.set_cons_zero, List.set_cons_succ]
  refine wpAnyH_done (by kernel_rfl) ?_ _
  go_wp2
  refine bodyPost_ret (res_cell (b := w.heap.size + 1) rfl T37 rfl rfl hS3.blk hs) rfl ⟨rfl, ?_⟩
  exact (hc.drew.then hc2).trans hS3.chg (fun k hk => by simp at hk; omega)
set_option maxRecDepth 100000 in
set_option maxHeartbeats 1600000 in
theorem Turn_Z {w : World} {c : Nat} (hB : Blk w c 64 #[.pointer none]) (i q : Int) (tov : Int) :
    Calls Try.prog 19 #[ptr c, .agg #[.int .i64 i, .int .u64 q], .int .i64 tov] w fun e w' => e = .returned (.int .i64 1) ∧ Chg [] w w' := by
  have HG := Lib.hid (fun W (hc : Chg [] w W) => Get_Z (hB.chg hc (by simp)) i q)
  have hAs : zG.size = 19 := rfl
  have hA1 : zG.all (·.oneCell') = true := Gr.zero.one
  have hc : Chg [] w (w.alloc (.cells #[.int .i64 i, .int .u64 q] 33)) := (Chg.refl [] w).alloc _
  have hb4 := Blk.new w 33 #[.int .i64 i, .int .u64 q]
  clear hB
  go_enter Try.func19, Try.ntmps19
  go_wp2_with (first
    | (go_at_call 17; (refine (HG.out _ hc).mono ?_); rintro e w2 ⟨rfl, hc2⟩)
    | ((with_reducible refine wpl_storeE T37 (Blk.new w2 37 zG) rfl hAs hA1 ?_ ?_ ?_); (· rfl); (· exact ⟨_, _, rfl, rfl, rfl⟩); intro w3 hS3; have hc3 := (((hc.then hc2).alloc _).trans hS3.chg (fun k hk => by have h7 := hc2.size; have h8 := hc.size; simp at hk; omega))))
  go_ret
  exact ⟨rfl, hc3⟩
end Go.Proofs
end
section
namespace Go.Proofs
open Go.RowKit Go.Shelf
set_option linter.unusedVariables false
set_option linter.unusedSimpArgs false
attribute [local go_sem] Oper.semAt_some

set_option maxHeartbeats 1600000 in
theorem now_no_in (n : Nat) (hn : 1 ≤ n) (l b : Nat) (W : World) (hV : W.cell? ⟨b, 0, none⟩ = some (.pointer none)) (J Jx : List Plc → World → Prop) (h0 : J [] W) :
    CallsIn Fence.wide n Try.prog 71 #[.func (.yield l) #[] #[], .pointer (some ⟨b, 0, none⟩)] W fun e W' => (∃ v, e = .returned v) ∧ ((∃ ys, ys = [] ∧ J ys W') ∨ (∃ pre : List Plc, pre = [] ∧ Jx pre W')) := by
  refine callsIn_of_wp Try.func71 rfl trivial ?_ rfl
  simp only [Try.ntmps71, List.size_toArray, List.length_cons, List.length_nil, Nat.reduceAdd, Nat.reduceSub, Array.replicate_succ, Array.replicate_zero, List.push_toArray, List.append_toArray, List.nil_append, List.cons_append]
  gi_wp2_with (refine ⟨trivial, ?_⟩; gi_at_call 48; refine (callsIn_wide.2 (size_N _)).mono ?_; rintro e w' ⟨rfl, rfl⟩)
  gi_loopw [8] (fun iv wr => iv = .int .i64 0 ∧ wr = W) (fun iv wr => 0)
  case atStart => exact ⟨rfl, rfl⟩
  case round =>
    obtain ⟨rfl, rfl⟩ := hrel
    gi_wp2
    go_end0
    exact ⟨⟨_, rfl⟩, .inl ⟨_, rfl, h0⟩⟩
theorem now_no_stops (n : Nat) (hn : 1 ≤ n) (b : Nat) (w : World) (hb : b < w.heap.size) (hV : w.cell? ⟨b, 0, none⟩ = some (.pointer none)) :
    SeqStopsK Fence.wide n Try.prog 71 #[.pointer (some ⟨b, 0, none⟩)] Plc.encs (KeepL [b]) (fun ys => ys = []) (fun pre => pre = []) 0 w := fun l J Jx W hW hJ _ hY h0 =>
  now_no_in n hn l b W ((hW.cell (p := ⟨b, 0, none⟩) hb).trans hV) J Jx h0
set_option maxRecDepth 100000 in
set_option maxHeartbeats 3200000 in
theorem all_N (n : Nat) (hn : 6 ≤ n) (w : World) :
    CallsIn Fence.wide n Try.prog 56 #[.pointer none] w fun e W' => Gathered w.heap.size ([]) e W' ∧ Below w.heap.size w W' := by
  have h1 : 1 ≤ n := by omega
  refine callsIn_of_wp_marks Try.func56 rfl trivial ?_ rfl
  simp only [Try.ntmps56, List.size_toArray, List.length_cons, List.length_nil, Nat.reduceAdd, Nat.reduceSub, Array.replicate_succ, Array.replicate_zero, List.push_toArray, List.append_toArray, List.nil_append, List.cons_append]
  gi_wp2_with (refine ⟨trivial, ?_⟩; gi_at_call 68; refine (make_now (n - 1) _ _).mono ?_; rintro e w' ⟨rfl, rfl⟩)
  have bS := (Boxed.new w 113 (.slice none 0 0)).alloc (.cells #[.pointer none] 62)
  have bT := Boxed.new (w.alloc (.cells #[.slice none 0 0] 113)) 62 (.pointer none)
  simp only [World.size_alloc] at bT
  have hB0 : Below w.heap.size w ((w.alloc (.cells #[.slice none 0 0] 113)).alloc (.cells #[.pointer none] 62)) := ((Below.refl _ w).alloc (Nat.le_refl _) _).alloc (by simp) _
  have hsz : ((w.alloc (.cells #[.slice none 0 0] 113)).alloc (.cells #[.pointer none] 62)).heap.size = w.heap.size + 2 := by simp
  obtain ⟨W0, hW0⟩ : ∃ W0, (w.alloc (.cells #[.slice none 0 0] 113)).alloc (.cells #[.pointer none] 62) = W0 := ⟨_, rfl⟩
  rw [hW0] at bS bT hB0 hsz ⊢
  clear hW0
  obtain ⟨i0, hi0, hz0, hz1, hz2⟩ := info_parts Try.info_N
  refine wpIn_rangeFunc_ownH rfl h1 (gf := 71) (lb := #[.pointer (some ⟨w.heap.size + 1, 0, none⟩)]) rfl trivial (enters_of Try.func71 (by kernel_rfl) rfl)
    (now_no_stops (n - 1) (by omega) (w.heap.size + 1) W0 (by omega) bT.cell) (fun h k => h.trans k)
    (fun W l o o' hl ho _ _ => ⟨by simp [World.putObj], fun k hk => by simp at hk; subst hk; exact (grownBy_putObj' W l o').block _ (by have := (Array.getElem?_eq_some_iff.1 ho).1; omega) (fun e => by cases e; omega)⟩)
    (Below.refl _ _) (fun _ => rfl)
    (fun pre W => ((∃ V, Boxed W w.heap.size 113 V ∧ W.ownsRow w.heap.size 115 21 V pre.length (plcCells pre) ∧ True) ∧ Boxed W (w.heap.size + 1) 62 (.pointer none)) ∧ Below w.heap.size W0 W)
    (fun _ _ _ => False)
    (OwnFrom.and (OwnFrom.and (Own.from (holdsRow_own w.heap.size w.heap.size 113 115 21 (fun pre : List Plc => pre.length) (fun pre => plcCells pre) (fun pre v => True)) _) (Own.from (boxed_own _ _ _) _)) (ownFrom_below (by omega) (by omega)))
    (fun _ _ _ _ _ hs _ _ => hs)
    ⟨⟨⟨_, bS, World.ownsRow_nil _ _ _ _, trivial⟩, bT⟩, Below.refl _ _⟩
    (fun x a' W => ∃ Bx By, w.heap.size + 1 < Bx ∧ w.heap.size + 1 < By ∧ Blk W Bx 33 #[.int .i64 x.i, .int .u64 x.q] ∧ Blk W By 37 x.x.arr ∧ a' = { tmps := #[.pointer none, undef, .nilFunc, .pointer (some ⟨w.heap.size, 0, none⟩), .pointer (some ⟨Bx, 0, none⟩), .pointer (some ⟨By, 0, none⟩), .pointer none, .func (.func 71) #[] #[.pointer (some ⟨w.heap.size + 1, 0, none⟩)], .agg #[.int .i64 x.i, .int .u64 x.q], x.x.val, undef, undef, undef, undef, undef, undef, undef], defers := [] })
    (fun x a' _ X Y row hs hg hr => by
      obtain ⟨Bx, By, h1, h1', h2, h2', h3⟩ := hs
      have k : ∀ {b : Nat} {t : TypeId} {cs : Array Value}, Blk X b t cs → Blk Y b t cs := fun {b t cs} h2 => h2.same (hg.block b h2.lt (fun e => by
        obtain ⟨_, o, ho, hc⟩ := hr b e.symm
        unfold Blk at h2
        rw [h2] at ho; cases ho; cases hc))
      exact ⟨Bx, By, h1, h1', k h2, k h2', h3⟩)
    ?assign ?body ?done ?stop
  case assign =>
    rintro l pre x W K ⟨⟨⟨V, hV, hr, _⟩, hT9⟩, hB⟩ hK
    have hz := hB.size
    have hzw : w.heap.size ≤ W.heap.size := by omega
    have hGs := x.x.size
    have hG1 := x.x.one
    simp only [Plc.encs, Gr.val]
    obtain ⟨XA, hXA⟩ : ∃ XA, XA = x.x.arr := ⟨_, rfl⟩
    rw [← hXA] at hGs hG1 hK ⊢
    have hXA' := Lib.hid hXA
    clear hXA
    obtain ⟨W1, hW1⟩ : ∃ W1, W1 = (W.alloc (.cells #[.int .i64 x.i, .int .u64 x.q] 33)).alloc (.cells zG 37) := ⟨_, rfl⟩
    have hc1 : Chg [] W W1 := by rw [hW1]; exact ((Chg.refl [] W).alloc _).alloc _
    have hb1 : Blk W1 (W.heap.size + 1) 37 zG := by rw [hW1]; exact Blk.at' (W.alloc _) 37 _ (by simp)
    have hb0 : Blk W1 W.heap.size 33 #[.int .i64 x.i, .int .u64 x.q] := by rw [hW1]; exact (Blk.new W 33 _).alloc _
    have hs1 : W1.heap.size = W.heap.size + 2 := by rw [hW1]; simp
    have HW1 := Lib.hid hW1
    clear hW1
    gi_wp2_with (first
      | (rw [← HW1.out]; refine wpi_store T37 hb1 rfl hGs hG1 rfl _ _ rfl rfl rfl ?_; intro w3 hS3))
    have hc3 : Chg [] W w3 := hc1.trans hS3.chg (fun k hk => by simp at hk; omega)
    have hg3 := grown_of_chg hc3
    have hko : KeepsOthers W w3 := KeepsOthers.of_grownBy hg3 (fun j o e _ => by cases e)
    have hrr : ∀ {v : Value}, v.ownBlock = none ∨ v.ownBlock ≠ none := fun {v} => by cases v.ownBlock <;> simp
    exact hK _ _ (hko.from _) (KeepL.chg hc3 (fun k hk => by simp at hk; omega)) ⟨⟨⟨V, hV.kept hg3 (by simp), hr.kept hg3 hrr, trivial⟩, hT9.kept hg3 (by simp)⟩, hB.trans (hc3.below (by simp) hzw)⟩ ⟨W.heap.size, W.heap.size + 1, by omega, by omega, hS3.far hb0 (by omega), hS3.blk, by rw [hXA'.out] <;> rfl⟩
  case body =>
    rintro l pre x a' W hl hr hI hA hlt
    exact absurd hlt (Nat.not_lt_zero _)
  case done =>
    rintro D zs W hD rfl ⟨⟨⟨V, hV, hrow, _⟩, hT9⟩, hB⟩ hK
    have hz := hB.size
    have cS := hV.cell
    gi_wp2
    refine ⟨by simp, .inl ⟨_, _, rfl, run_takeDeferred hK, ?_⟩⟩
    have hgD := grownBy_putObj' W D (.deferred none)
    have hD2 : some w.heap.size ≠ some D := by intro e; cases e; omega
    refine ⟨_, results_tmp rfl _ _ _, ⟨w.heap.size, rfl, Nat.le_refl _, by have := (hV.kept hgD hD2).lt; exact this, V, (hV.kept hgD hD2).cell, Row.of_own (ownsRow_putObj hrow _ hK rfl), fun k hk => ⟨?_, Row.lt (Row.of_own (ownsRow_putObj hrow (.deferred none) hK rfl)) k hk⟩⟩, (hB0.trans hB).trans (belowK_b (w := w) (Nat.le_refl _) W D _ _ (by omega) hK rfl rfl)⟩
    rcases hrow.2 with ⟨rfl, _⟩ | ⟨g', cap, cur, rfl, hb, _, _⟩
    · cases hk
    · simp [foot_some] at hk; subst hk; exact hb
  case stop =>
    rintro D c pre W _ _ h _
    exact h.elim
set_option maxRecDepth 100000 in
set_option maxHeartbeats 3200000 in
theorem pickT_N (n : Nat) (hn : 10 ≤ n) {w : World} :
    CallsIn Fence.wide n Try.prog 37 #[.pointer none, (.func (.func 38) #[] #[])] w fun e W' => ∃ A cc, e = .returned (.slice A ([] : List Plc).length cc) ∧ Row W' 49 21 (.slice A ([] : List Plc).length cc) ([] : List Plc).length (plcCells ([] : List Plc)) ∧ (∀ k ∈ foot (.slice A ([] : List Plc).length cc), w.heap.size ≤ k) ∧ Below w.heap.size w W' := by
  have h1 : 1 ≤ n := by omega
  have HP := Lib.hid (fun W (hc : Chg [] w W) => places_N W)
  have HA := Lib.hid (fun W (hc : Chg [] w W) => all_N (n - 1) (by omega) W)
  obtain ⟨XS, hXS⟩ : ∃ XS : List Plc, XS = [] := ⟨_, rfl⟩
  have hX0 : XS.length = 0 := by rw [hXS]; rfl
  have hnl : XS.length ≤ 0 := by omega
  refine callsIn_of_wp_marks Try.func37 rfl trivial ?_ rfl
  simp only [Try.ntmps37, List.size_toArray, List.length_cons, List.length_nil, Nat.reduceAdd, Nat.reduceSub, Array.replicate_succ, Array.replicate_zero, List.push_toArray, List.append_toArray, List.nil_append, List.cons_append]
  gi_wp2_with (first
    | (refine ⟨trivial, ?_⟩; gi_at_call 40; refine (callsIn_wide.2 (HP.out _ (((Chg.refl _ _).alloc _).alloc _))).mono ?_; rintro e w' ⟨rfl, rfl⟩)
    | (refine ⟨trivial, ?_⟩; gi_at_call 56; refine (HA.out _ (((Chg.refl _ _).alloc _).alloc _)).mono ?_; rintro e W0 ⟨⟨Bo, rfl, hH⟩, hBl⟩; have HH := Lib.hid hH; have HBL := Lib.hid hBl; clear hH hBl))
  have hz0 := HBL.out.size
  simp only [World.size_alloc] at hz0
  have hPk : Boxed W0 w.heap.size 88 (.func (.func 38) #[] #[]) := (HBL.out.block _ (by simp; omega)).trans (((Boxed.new w 88 (.func (.func 38) #[] #[])).alloc _))
  have hBx : Boxed W0 (w.heap.size + 1) 41 (.slice none 0 0) := (HBL.out.block _ (by simp)).trans (Blk.at' (w.alloc (.cells #[(.func (.func 38) #[] #[])] 88)) 41 #[.slice none 0 0] (by simp))
  have hB0 : Below w.heap.size w W0 := (((Below.refl _ w).alloc (Nat.le_refl _) _).alloc (by simp) _).trans (HBL.out.mono (by simp; omega))
  have hHT := HH.out.to
  simp only [World.size_alloc] at hHT
  subst hXS
  have hmap : ([] : List Plc).map id = [] := rfl
  rw [← hmap] at hHT
  obtain ⟨in0, hi0, hq0, hq1, hq2⟩ := info_parts Try.info_T
  have lbo := hHT.lt
  refine wpIn_rangeFunc_ownH rfl h1 (gf := 69) (lb := #[.pointer (some ⟨Bo, 0, none⟩)]) rfl trivial (enters_of Try.func69 (by kernel_rfl) rfl)
    (over_stops id (n - 1) (by omega) (X := fun k => w.heap.size + 2 ≤ k ∧ k < W0.heap.size) hHT (fun k h1 h2 => ⟨by omega, h2⟩) (fun k hk => hk.2) (by omega)) (fun h k => h.trans k)
    (fun W l o o' hl ho _ _ => ⟨by simp [World.putObj], fun k hk => (grownBy_putObj' W l o').block k (by have := (Array.getElem?_eq_some_iff.1 ho).1; omega) (fun e => by cases e; omega)⟩)
    (Below.refl _ _) (fun _ => rfl)
    (fun pre W => ((∃ V, Boxed W (w.heap.size + 1) 41 V ∧ W.ownsRow W0.heap.size 49 21 V pre.length (plcCells pre) ∧ True) ∧ Boxed W w.heap.size 88 (.func (.func 38) #[] #[])) ∧ Below w.heap.size W0 W)
    (fun _ _ _ => False)
    (OwnFrom.and (OwnFrom.and (Own.from (holdsRow_own W0.heap.size (w.heap.size + 1) 41 49 21 (fun pre : List Plc => pre.length) (fun pre => plcCells pre) (fun pre v => True)) _) (Own.from (boxed_own _ _ _) _)) (ownFrom_below (by omega) (by omega)))
    (fun _ _ _ _ _ hs _ _ => hs)
    ⟨⟨⟨_, hBx, World.ownsRow_nil _ _ _ _, trivial⟩, hPk⟩, Below.refl _ _⟩
    (fun x a' W => ∃ Bx By, W0.heap.size ≤ Bx ∧ W0.heap.size ≤ By ∧ Blk W Bx 33 #[.int .i64 x.i, .int .u64 x.q] ∧ Blk W By 37 x.x.arr ∧ a' = { tmps := #[.pointer none, (.func (.func 38) #[] #[]), undef, ptr w.heap.size, .slice none 0 0, ptr (w.heap.size + 1), ptr Bx, ptr By, undef, undef, .pointer none, .pointer none, .func (.func 69) #[] #[.pointer (some ⟨Bo, 0, none⟩)], .agg #[.int .i64 x.i, .int .u64 x.q], .agg x.x.arr, undef, undef, undef, undef, undef, undef, undef, undef, undef, undef, undef, undef, undef], defers := [] })
    (fun x a' _ X Y row hs hg hr => by
      obtain ⟨Bx, By, h1, h1', h2, h2', h3⟩ := hs
      have k : ∀ {b : Nat} {t : TypeId} {cs : Array Value}, Blk X b t cs → Blk Y b t cs := fun {b t cs} h2 => h2.same (hg.block b h2.lt (fun e => by
        obtain ⟨_, o, ho, hc⟩ := hr b e.symm
        unfold Blk at h2
        rw [h2] at ho; cases ho; cases hc))
      exact ⟨Bx, By, h1, h1', k h2, k h2', h3⟩)
    ?assign ?body ?done ?stop
  case assign =>
    rintro l pre x W K ⟨⟨⟨V, hV, hr, _⟩, hP9⟩, hB⟩ hK
    have hz := hB.size
    have hzw : w.heap.size ≤ W.heap.size := by omega
    have hGs := x.x.size
    have hG1 := x.x.one
    simp only [Plc.encs, Gr.val, id]
    obtain ⟨XA, hXA⟩ : ∃ XA, XA = x.x.arr := ⟨_, rfl⟩
    rw [← hXA] at hGs hG1 hK ⊢
    have hXA' := Lib.hid hXA
    clear hXA
    obtain ⟨W1, hW1⟩ : ∃ W1, W1 = (W.alloc (.cells #[.int .i64 x.i, .int .u64 x.q] 33)).alloc (.cells zG 37) := ⟨_, rfl⟩
    have hc1 : Chg [] W W1 := by rw [hW1]; exact ((Chg.refl [] W).alloc _).alloc _
    have hb1 : Blk W1 (W.heap.size + 1) 37 zG := by rw [hW1]; exact Blk.at' (W.alloc _) 37 _ (by simp)
    have hb0 : Blk W1 W.heap.size 33 #[.int .i64 x.i, .int .u64 x.q] := by rw [hW1]; exact (Blk.new W 33 _).alloc _
    have hs1 : W1.heap.size = W.heap.size + 2 := by rw [hW1]; simp
    have HW1 := Lib.hid hW1
    clear hW1
    gi_wp2_with (first
      | (rw [← HW1.out]; refine wpi_store T37 hb1 rfl hGs hG1 rfl _ _ rfl rfl rfl ?_; intro w3 hS3))
    have hc3 : Chg [] W w3 := hc1.trans hS3.chg (fun k hk => by simp at hk; omega)
    have hg3 := grown_of_chg hc3
    have hko : KeepsOthers W w3 := KeepsOthers.of_grownBy hg3 (fun j o e _ => by cases e)
    have hrr : ∀ {v : Value}, v.ownBlock = none ∨ v.ownBlock ≠ none := fun {v} => by cases v.ownBlock <;> simp
    exact hK _ _ (hko.from _) (KeepP.quiet hc3 (fun k hk => by omega)) ⟨⟨⟨V, hV.kept hg3 (by simp), hr.kept hg3 hrr, trivial⟩, hP9.kept hg3 (by simp)⟩, hB.trans (hc3.below (by simp) hzw)⟩ ⟨W.heap.size, W.heap.size + 1, by omega, by omega, hS3.far hb0 (by omega), hS3.blk, by rw [hXA'.out] <;> rfl⟩
  case body =>
    rintro l pre x a' W hl hr hI hA hlt
    exact absurd hlt (Nat.not_lt_zero _)
  case done =>
    rintro D zs W hD rfl ⟨⟨⟨V, hV, hrow, _⟩, hP9⟩, hB⟩ hK
    have hz := hB.size
    have cS := hV.cell
    gi_wp2
    refine ⟨by simp, .inl ⟨_, _, rfl, run_takeDeferred hK, ?_⟩⟩
    have hgD := grownBy_putObj' W D (.deferred none)
    have hR := Row.of_own (ownsRow_putObj hrow (.deferred none) hK rfl)
    have hB9 := (hB0.trans hB).trans (belowK_b (w := w) (Nat.le_refl _) W D _ (.deferred none) (by omega) hK rfl rfl)
    rcases hrow.2 with ⟨rfl, h0⟩ | ⟨g', cap, cur, rfl, hb, _, _⟩
    · refine ⟨_, results_tmp rfl _ _ _, none, 0, by simp [h0], by first | exact hR | (rw [h0] at hR ⊢; exact hR), (fun k hk => by cases hk), hB9⟩
    · refine ⟨_, results_tmp rfl _ _ _, some ⟨g', 0, none⟩, cap, rfl, hR, fun k hk => ?_, hB9⟩
      simp [foot_some] at hk; subst hk; omega
  case stop =>
    rintro D c pre W _ _ h _
    exact h.elim
set_option maxRecDepth 100000 in
set_option maxHeartbeats 3200000 in
theorem pickT_Z (n : Nat) (hn : 10 ≤ n) {w : World} {c : Nat} (hB : Blk w c 64 #[.pointer none]) :
    CallsIn Fence.wide n Try.prog 37 #[ptr c, (.func (.func 38) #[] #[])] w fun e W' => ∃ A cc, e = .returned (.slice A ([] : List Plc).length cc) ∧ Row W' 49 21 (.slice A ([] : List Plc).length cc) ([] : List Plc).length (plcCells ([] : List Plc)) ∧ (∀ k ∈ foot (.slice A ([] : List Plc).length cc), w.heap.size ≤ k) ∧ Below w.heap.size w W' := by
  have h1 : 1 ≤ n := by omega
  have HP := Lib.hid (fun W (hc : Chg [] w W) => places_any (hB.chg hc (by simp)))
  have HA := Lib.hid (fun W (hc : Chg [] w W) => all_N (n - 1) (by omega) W)
  clear hB
  obtain ⟨XS, hXS⟩ : ∃ XS : List Plc, XS = [] := ⟨_, rfl⟩
  have hX0 : XS.length = 0 := by rw [hXS]; rfl
  have hnl : XS.length ≤ 0 := by omega
  refine callsIn_of_wp_marks Try.func37 rfl trivial ?_ rfl
  simp only [Try.ntmps37, List.size_toArray, List.length_cons, List.length_nil, Nat.reduceAdd, Nat.reduceSub, Array.replicate_succ, Array.replicate_zero, List.push_toArray, List.append_toArray, List.nil_append, List.cons_append]
  gi_wp2_with (first
    | (refine ⟨trivial, ?_⟩; gi_at_call 40; refine (callsIn_wide.2 (HP.out _ (((Chg.refl _ _).alloc _).alloc _))).mono ?_; rintro e w' ⟨rfl, rfl⟩)
    | (refine ⟨trivial, ?_⟩; gi_at_call 56; refine (HA.out _ (((Chg.refl _ _).alloc _).alloc _)).mono ?_; rintro e W0 ⟨⟨Bo, rfl, hH⟩, hBl⟩; have HH := Lib.hid hH; have HBL := Lib.hid hBl; clear hH hBl))
  have hz0 := HBL.out.size
  simp only [World.size_alloc] at hz0
  have hPk : Boxed W0 w.heap.size 88 (.func (.func 38) #[] #[]) := (HBL.out.block _ (by simp; omega)).trans (((Boxed.new w 88 (.func (.func 38) #[] #[])).alloc _))
  have hBx : Boxed W0 (w.heap.size + 1) 41 (.slice none 0 0) := (HBL.out.block _ (by simp)).trans (Blk.at' (w.alloc (.cells #[(.func (.func 38) #[] #[])] 88)) 41 #[.slice none 0 0] (by simp))
  have hB0 : Below w.heap.size w W0 := (((Below.refl _ w).alloc (Nat.le_refl _) _).alloc (by simp) _).trans (HBL.out.mono (by simp; omega))
  have hHT := HH.out.to
  simp only [World.size_alloc] at hHT
  subst hXS
  have hmap : ([] : List Plc).map id = [] := rfl
  rw [← hmap] at hHT
  obtain ⟨in0, hi0, hq0, hq1, hq2⟩ := info_parts Try.info_T
  have lbo := hHT.lt
  refine wpIn_rangeFunc_ownH rfl h1 (gf := 69) (lb := #[.pointer (some ⟨Bo, 0, none⟩)]) rfl trivial (enters_of Try.func69 (by kernel_rfl) rfl)
    (over_stops id (n - 1) (by omega) (X := fun k => w.heap.size + 2 ≤ k ∧ k < W0.heap.size) hHT (fun k h1 h2 => ⟨by omega, h2⟩) (fun k hk => hk.2) (by omega)) (fun h k => h.trans k)
    (fun W l o o' hl ho _ _ => ⟨by simp [World.putObj], fun k hk => (grownBy_putObj' W l o').block k (by have := (Array.getElem?_eq_some_iff.1 ho).1; omega) (fun e => by cases e; omega)⟩)
    (Below.refl _ _) (fun _ => rfl)
    (fun pre W => ((∃ V, Boxed W (w.heap.size + 1) 41 V ∧ W.ownsRow W0.heap.size 49 21 V pre.length (plcCells pre) ∧ True) ∧ Boxed W w.heap.size 88 (.func (.func 38) #[] #[])) ∧ Below w.heap.size W0 W)
    (fun _ _ _ => False)
    (OwnFrom.and (OwnFrom.and (Own.from (holdsRow_own W0.heap.size (w.heap.size + 1) 41 49 21 (fun pre : List Plc => pre.length) (fun pre => plcCells pre) (fun pre v => True)) _) (Own.from (boxed_own _ _ _) _)) (ownFrom_below (by omega) (by omega)))
    (fun _ _ _ _ _ hs _ _ => hs)
    ⟨⟨⟨_, hBx, World.ownsRow_nil _ _ _ _, trivial⟩, hPk⟩, Below.refl _ _⟩
    (fun x a' W => ∃ Bx By, W0.heap.size ≤ Bx ∧ W0.heap.size ≤ By ∧ Blk W Bx 33 #[.int .i64 x.i, .int .u64 x.q] ∧ Blk W By 37 x.x.arr ∧ a' = { tmps := #[ptr c, (.func (.func 38) #[] #[]), undef, ptr w.heap.size, .slice none 0 0, ptr (w.heap.size + 1), ptr Bx, ptr By, undef, undef, ptr c, .pointer none, .func (.func 69) #[] #[.pointer (some ⟨Bo, 0, none⟩)], .agg #[.int .i64 x.i, .int .u64 x.q], .agg x.x.arr, undef, undef, undef, undef, undef, undef, undef, undef, undef, undef, undef, undef, undef], defers := [] })
    (fun x a' _ X Y row hs hg hr => by
      obtain ⟨Bx, By, h1, h1', h2, h2', h3⟩ := hs
      have k : ∀ {b : Nat} {t : TypeId} {cs : Array Value}, Blk X b t cs → Blk Y b t cs := fun {b t cs} h2 => h2.same (hg.block b h2.lt (fun e => by
        obtain ⟨_, o, ho, hc⟩ := hr b e.symm
        unfold Blk at h2
        rw [h2] at ho; cases ho; cases hc))
      exact ⟨Bx, By, h1, h1', k h2, k h2', h3⟩)
    ?assign ?body ?done ?stop
  case assign =>
    rintro l pre x W K ⟨⟨⟨V, hV, hr, _⟩, hP9⟩, hB⟩ hK
    have hz := hB.size
    have hzw : w.heap.size ≤ W.heap.size := by omega
    have hGs := x.x.size
    have hG1 := x.x.one
    simp only [Plc.encs, Gr.val, id]
    obtain ⟨XA, hXA⟩ : ∃ XA, XA = x.x.arr := ⟨_, rfl⟩
    rw [← hXA] at hGs hG1 hK ⊢
    have hXA' := Lib.hid hXA
    clear hXA
    obtain ⟨W1, hW1⟩ : ∃ W1, W1 = (W.alloc (.cells #[.int .i64 x.i, .int .u64 x.q] 33)).alloc (.cells zG 37) := ⟨_, rfl⟩
    have hc1 : Chg [] W W1 := by rw [hW1]; exact ((Chg.refl [] W).alloc _).alloc _
    have hb1 : Blk W1 (W.heap.size + 1) 37 zG := by rw [hW1]; exact Blk.at' (W.alloc _) 37 _ (by simp)
    have hb0 : Blk W1 W.heap.size 33 #[.int .i64 x.i, .int .u64 x.q] := by rw [hW1]; exact (Blk.new W 33 _).alloc _
    have hs1 : W1.heap.size = W.heap.size + 2 := by rw [hW1]; simp
    have HW1 := Lib.hid hW1
    clear hW1
    gi_wp2_with (first
      | (rw [← HW1.out]; refine wpi_store T37 hb1 rfl hGs hG1 rfl _ _ rfl rfl rfl ?_; intro w3 hS3))
    have hc3 : Chg [] W w3 := hc1.trans hS3.chg (fun k hk => by simp at hk; omega)
    have hg3 := grown_of_chg hc3
    have hko : KeepsOthers W w3 := KeepsOthers.of_grownBy hg3 (fun j o e _ => by cases e)
    have hrr : ∀ {v : Value}, v.ownBlock = none ∨ v.ownBlock ≠ none := fun {v} => by cases v.ownBlock <;> simp
    exact hK _ _ (hko.from _) (KeepP.quiet hc3 (fun k hk => by omega)) ⟨⟨⟨V, hV.kept hg3 (by simp), hr.kept hg3 hrr, trivial⟩, hP9.kept hg3 (by simp)⟩, hB.trans (hc3.below (by simp) hzw)⟩ ⟨W.heap.size, W.heap.size + 1, by omega, by omega, hS3.far hb0 (by omega), hS3.blk, by rw [hXA'.out] <;> rfl⟩
  case body =>
    rintro l pre x a' W hl hr hI hA hlt
    exact absurd hlt (Nat.not_lt_zero _)
  case done =>
    rintro D zs W hD rfl ⟨⟨⟨V, hV, hrow, _⟩, hP9⟩, hB⟩ hK
    have hz := hB.size
    have cS := hV.cell
    gi_wp2
    refine ⟨by simp, .inl ⟨_, _, rfl, run_takeDeferred hK, ?_⟩⟩
    have hgD := grownBy_putObj' W D (.deferred none)
    have hR := Row.of_own (ownsRow_putObj hrow (.deferred none) hK rfl)
    have hB9 := (hB0.trans hB).trans (belowK_b (w := w) (Nat.le_refl _) W D _ (.deferred none) (by omega) hK rfl rfl)
    rcases hrow.2 with ⟨rfl, h0⟩ | ⟨g', cap, cur, rfl, hb, _, _⟩
    · refine ⟨_, results_tmp rfl _ _ _, none, 0, by simp [h0], by first | exact hR | (rw [h0] at hR ⊢; exact hR), (fun k hk => by cases hk), hB9⟩
    · refine ⟨_, results_tmp rfl _ _ _, some ⟨g', 0, none⟩, cap, rfl, hR, fun k hk => ?_, hB9⟩
      simp [foot_some] at hk; subst hk; omega
  case stop =>
    rintro D c pre W _ _ h _
    exact h.elim
set_option maxRecDepth 100000 in
set_option maxHeartbeats 3200000 in
theorem pickR_Z (n : Nat) (hn : 10 ≤ n) {w : World} {c : Nat} (hB : Blk w c 64 #[.pointer none]) (s : Int) {sb : Nat} (hsb : Blk w sb 34 #[.int .i64 s]) :
    CallsIn Fence.wide n Try.prog 53 #[ptr c, (.func (.func 54) #[] #[ptr sb])] w fun e W' => ∃ A cc, e = .returned (.slice A (([] : List Plc).filter fun p => p.x.st == s).length cc) ∧ Row W' 33 2 (.slice A (([] : List Plc).filter fun p => p.x.st == s).length cc) (([] : List Plc).filter fun p => p.x.st == s).length (refCells (([] : List Plc).filter fun p => p.x.st == s)) ∧ (∀ k ∈ foot (.slice A (([] : List Plc).filter fun p => p.x.st == s).length cc), w.heap.size ≤ k) ∧ Below w.heap.size w W' := by
  have h1 : 1 ≤ n := by omega
  have HP := Lib.hid (fun W (hc : Chg [] w W) => places_any (hB.chg hc (by simp)))
  have HA := Lib.hid (fun W (hc : Chg [] w W) => all_N (n - 1) (by omega) W)
  have HSB := Lib.hid hsb
  have lsb := hsb.lt
  clear hsb
  clear hB
  obtain ⟨XS, hXS⟩ : ∃ XS : List Plc, XS = [] := ⟨_, rfl⟩
  have hX0 : XS.length = 0 := by rw [hXS]; rfl
  have hnl : XS.length ≤ 0 := by omega
  refine callsIn_of_wp_marks Try.func53 rfl trivial ?_ rfl
  simp only [Try.ntmps53, List.size_toArray, List.length_cons, List.length_nil, Nat.reduceAdd, Nat.reduceSub, Array.replicate_succ, Array.replicate_zero, List.push_toArray, List.append_toArray, List.nil_append, List.cons_append]
  gi_wp2_with (first
    | (refine ⟨trivial, ?_⟩; gi_at_call 40; refine (callsIn_wide.2 (HP.out _ (((Chg.refl _ _).alloc _).alloc _))).mono ?_; rintro e w' ⟨rfl, rfl⟩)
    | (refine ⟨trivial, ?_⟩; gi_at_call 56; refine (HA.out _ (((Chg.refl _ _).alloc _).alloc _)).mono ?_; rintro e W0 ⟨⟨Bo, rfl, hH⟩, hBl⟩; have HH := Lib.hid hH; have HBL := Lib.hid hBl; clear hH hBl))
  have hz0 := HBL.out.size
  simp only [World.size_alloc] at hz0
  have hPk : Boxed W0 w.heap.size 93 (.func (.func 54) #[] #[ptr sb]) := (HBL.out.block _ (by simp; omega)).trans (((Boxed.new w 93 (.func (.func 54) #[] #[ptr sb])).alloc _))
  have hBx : Boxed W0 (w.heap.size + 1) 43 (.slice none 0 0) := (HBL.out.block _ (by simp)).trans (Blk.at' (w.alloc (.cells #[(.func (.func 54) #[] #[ptr sb])] 93)) 43 #[.slice none 0 0] (by simp))
  have hB0 : Below w.heap.size w W0 := (((Below.refl _ w).alloc (Nat.le_refl _) _).alloc (by simp) _).trans (HBL.out.mono (by simp; omega))
  have hHT := HH.out.to
  simp only [World.size_alloc] at hHT
  subst hXS
  have hmap : ([] : List Plc).map id = [] := rfl
  rw [← hmap] at hHT
  obtain ⟨in0, hi0, hq0, hq1, hq2⟩ := info_parts Try.info_R
  have lbo := hHT.lt
  have hSB0 : Boxed W0 sb 34 (.int .i64 s) := (hB0.block _ lsb).trans HSB.out
  refine wpIn_rangeFunc_ownH rfl h1 (gf := 69) (lb := #[.pointer (some ⟨Bo, 0, none⟩)]) rfl trivial (enters_of Try.func69 (by kernel_rfl) rfl)
    (over_stops id (n - 1) (by omega) (X := fun k => w.heap.size + 2 ≤ k ∧ k < W0.heap.size) hHT (fun k h1 h2 => ⟨by omega, h2⟩) (fun k hk => hk.2) (by omega)) (fun h k => h.trans k)
    (fun W l o o' hl ho _ _ => ⟨by simp [World.putObj], fun k hk => (grownBy_putObj' W l o').block k (by have := (Array.getElem?_eq_some_iff.1 ho).1; omega) (fun e => by cases e; omega)⟩)
    (Below.refl _ _) (fun _ => rfl)
    (fun pre W => ((∃ V, Boxed W (w.heap.size + 1) 43 V ∧ W.ownsRow W0.heap.size 33 2 V (pre.filter fun p => p.x.st == s).length (refCells (pre.filter fun p => p.x.st == s)) ∧ True) ∧ Boxed W w.heap.size 93 (.func (.func 54) #[] #[ptr sb]) ∧ Boxed W sb 34 (.int .i64 s)) ∧ Below w.heap.size W0 W)
    (fun _ _ _ => False)
    (OwnFrom.and (OwnFrom.and (Own.from (holdsRow_own W0.heap.size (w.heap.size + 1) 43 33 2 (fun pre : List Plc => (pre.filter fun p => p.x.st == s).length) (fun pre => refCells (pre.filter fun p => p.x.st == s)) (fun pre v => True)) _) (OwnFrom.and (Own.from (boxed_own _ _ _) _) (Own.from (boxed_own _ _ _) _))) (ownFrom_below (by omega) (by omega)))
    (fun _ _ _ _ _ hs _ _ => hs)
    ⟨⟨⟨_, hBx, World.ownsRow_nil _ _ _ _, trivial⟩, ⟨hPk, hSB0⟩⟩, Below.refl _ _⟩
    (fun x a' W => ∃ Bx By, W0.heap.size ≤ Bx ∧ W0.heap.size ≤ By ∧ Blk W Bx 33 #[.int .i64 x.i, .int .u64 x.q] ∧ Blk W By 37 x.x.arr ∧ a' = { tmps := #[ptr c, (.func (.func 54) #[] #[ptr sb]), undef, ptr w.heap.size, .slice none 0 0, ptr (w.heap.size + 1), ptr Bx, ptr By, undef, undef, ptr c, .pointer none, .func (.func 69) #[] #[.pointer (some ⟨Bo, 0, none⟩)], .agg #[.int .i64 x.i, .int .u64 x.q], .agg x.x.arr, undef, undef, undef, undef, undef, undef, undef, undef, undef, undef, undef, undef, undef], defers := [] })
    (fun x a' _ X Y row hs hg hr => by
      obtain ⟨Bx, By, h1, h1', h2, h2', h3⟩ := hs
      have k : ∀ {b : Nat} {t : TypeId} {cs : Array Value}, Blk X b t cs → Blk Y b t cs := fun {b t cs} h2 => h2.same (hg.block b h2.lt (fun e => by
        obtain ⟨_, o, ho, hc⟩ := hr b e.symm
        unfold Blk at h2
        rw [h2] at ho; cases ho; cases hc))
      exact ⟨Bx, By, h1, h1', k h2, k h2', h3⟩)
    ?assign ?body ?done ?stop
  case assign =>
    rintro l pre x W K ⟨⟨⟨V, hV, hr, _⟩, ⟨hP9, hS9⟩⟩, hB⟩ hK
    have hz := hB.size
    have hzw : w.heap.size ≤ W.heap.size := by omega
    have hGs := x.x.size
    have hG1 := x.x.one
    simp only [Plc.encs, Gr.val, id]
    obtain ⟨XA, hXA⟩ : ∃ XA, XA = x.x.arr := ⟨_, rfl⟩
    rw [← hXA] at hGs hG1 hK ⊢
    have hXA' := Lib.hid hXA
    clear hXA
    obtain ⟨W1, hW1⟩ : ∃ W1, W1 = (W.alloc (.cells #[.int .i64 x.i, .int .u64 x.q] 33)).alloc (.cells zG 37) := ⟨_, rfl⟩
    have hc1 : Chg [] W W1 := by rw [hW1]; exact ((Chg.refl [] W).alloc _).alloc _
    have hb1 : Blk W1 (W.heap.size + 1) 37 zG := by rw [hW1]; exact Blk.at' (W.alloc _) 37 _ (by simp)
    have hb0 : Blk W1 W.heap.size 33 #[.int .i64 x.i, .int .u64 x.q] := by rw [hW1]; exact (Blk.new W 33 _).alloc _
    have hs1 : W1.heap.size = W.heap.size + 2 := by rw [hW1]; simp
    have HW1 := Lib.hid hW1
    clear hW1
    gi_wp2_with (first
      | (rw [← HW1.out]; refine wpi_store T37 hb1 rfl hGs hG1 rfl _ _ rfl rfl rfl ?_; intro w3 hS3))
    have hc3 : Chg [] W w3 := hc1.trans hS3.chg (fun k hk => by simp at hk; omega)
    have hg3 := grown_of_chg hc3
    have hko : KeepsOthers W w3 := KeepsOthers.of_grownBy hg3 (fun j o e _ => by cases e)
    have hrr : ∀ {v : Value}, v.ownBlock = none ∨ v.ownBlock ≠ none := fun {v} => by cases v.ownBlock <;> simp
    exact hK _ _ (hko.from _) (KeepP.quiet hc3 (fun k hk => by omega)) ⟨⟨⟨V, hV.kept hg3 (by simp), hr.kept hg3 hrr, trivial⟩, ⟨hP9.kept hg3 (by simp), hS9.kept hg3 (by simp)⟩⟩, hB.trans (hc3.below (by simp) hzw)⟩ ⟨W.heap.size, W.heap.size + 1, by omega, by omega, hS3.far hb0 (by omega), hS3.blk, by rw [hXA'.out] <;> rfl⟩
  case body =>
    rintro l pre x a' W hl hr hI hA hlt
    exact absurd hlt (Nat.not_lt_zero _)
  case done =>
    rintro D zs W hD rfl ⟨⟨⟨V, hV, hrow, _⟩, ⟨hP9, hS9⟩⟩, hB⟩ hK
    have hz := hB.size
    have cS := hV.cell
    gi_wp2
    refine ⟨by simp, .inl ⟨_, _, rfl, run_takeDeferred hK, ?_⟩⟩
    have hgD := grownBy_putObj' W D (.deferred none)
    have hR := Row.of_own (ownsRow_putObj hrow (.deferred none) hK rfl)
    have hB9 := (hB0.trans hB).trans (belowK_b (w := w) (Nat.le_refl _) W D _ (.deferred none) (by omega) hK rfl rfl)
    rcases hrow.2 with ⟨rfl, h0⟩ | ⟨g', cap, cur, rfl, hb, _, _⟩
    · refine ⟨_, results_tmp rfl _ _ _, none, 0, by simp [h0], by first | exact hR | (rw [h0] at hR ⊢; exact hR), (fun k hk => by cases hk), hB9⟩
    · refine ⟨_, results_tmp rfl _ _ _, some ⟨g', 0, none⟩, cap, rfl, hR, fun k hk => ?_, hB9⟩
      simp [foot_some] at hk; subst hk; omega
  case stop =>
    rintro D c pre W _ _ h _
    exact h.elim
/-- All of none. -/
theorem All_N (w : World) : Calls Try.prog 13 #[.pointer none] w fun e w' => ∃ A cc, e = .returned (.slice A 0 cc) ∧ Row w' 49 21 (.slice A 0 cc) 0 (plcCells []) ∧ Below w.heap.size w w' := by
  have HP := (callsIn_wide (n := 12)).1 (pickT_N 12 (by omega) (w := w))
  go_enter Try.func13, Try.ntmps13
  go_wp2_with (go_at_call 37; (refine HP.mono ?_); rintro e w' ⟨A, cc, rfl, hr, _, hb⟩)
  go_ret
  exact ⟨A, cc, rfl, hr, hb⟩
theorem All_Z {w : World} {c : Nat} (hB : Blk w c 64 #[.pointer none]) : Calls Try.prog 13 #[ptr c] w fun e w' => ∃ A cc, e = .returned (.slice A 0 cc) ∧ Row w' 49 21 (.slice A 0 cc) 0 (plcCells []) ∧ Below w.heap.size w w' := by
  have HP := (callsIn_wide (n := 12)).1 (pickT_Z 12 (by omega) hB)
  go_enter Try.func13, Try.ntmps13
  go_wp2_with (go_at_call 37; (refine HP.mono ?_); rintro e w' ⟨A, cc, rfl, hr, _, hb⟩)
  go_ret
  exact ⟨A, cc, rfl, hr, hb⟩
theorem Of_Z {w : World} {c : Nat} (hB : Blk w c 64 #[.pointer none]) (s : Int) : Calls Try.prog 28 #[ptr c, .int .i64 s] w fun e w' => ∃ A cc, e = .returned (.slice A 0 cc) ∧ Below w.heap.size w w' := by
  have HP := (callsIn_wide (n := 12)).1 (pickR_Z 12 (by omega) (hB.alloc (.cells #[.int .i64 s] 34)) s (Blk.new w 34 _))
  have hb0 : Below w.heap.size w (w.alloc (.cells #[.int .i64 s] 34)) := (Below.refl _ w).alloc (Nat.le_refl _) _
  go_enter Try.func28, Try.ntmps28
  go_wp2_with (go_at_call 53; (refine HP.mono ?_); rintro e w' ⟨A, cc, rfl, hr, hf, hb⟩)
  go_ret
  exact ⟨A, cc, rfl, hb0.trans (hb.mono (by simp))⟩
end Go.Proofs
end
section
namespace Go.Proofs
open Go.RowKit Go.Shelf
set_option linter.unusedVariables false
set_option linter.unusedSimpArgs false
attribute [local go_sem] eql_ptr_nil eql_nil_nil eql_tptr_nil eql_tnil_nil
set_option maxRecDepth 100000 in
set_option maxHeartbeats 1600000 in
theorem Aff_N (w : World) : Calls Try.prog 29 #[.pointer none] w fun e w' => ∃ A cc, e = .returned (.slice A 0 cc) ∧ Chg [] w w' := by
  have HA := Lib.hid (fun W => All_N W)
  obtain ⟨i0, hi0, hz0, hz1, hz2⟩ := info_parts Try.info_B
  have hmk : ∀ W : World, (Instr.makeSlice 71 (.int .i64 0) (.int .i64 0)).run Try.prog W = .ok (.slice (some ⟨W.heap.size, 0, none⟩) 0 0) (W.alloc (.cells (bys (affL [] 0)).toArray 5)) := fun W => by
    have h := run_make (P := Try.prog) W 71 5 i0 _ Try.underlying71 hi0 hz0 .i64 .i64 ((0 : Nat) : Int) ((0 : Nat) : Int) (by omega) (by omega) (by rw [hz2]; omega) (by omega)
    rw [hz1, made_bytes] at h
    simpa using h
  generalize (bys (affL [] 0)).toArray = CS at *
  go_enter Try.func29, Try.ntmps29
  go_wp2_with (first
    | (go_at_call 40; (refine (places_N _).mono ?_); rintro e w' ⟨rfl, rfl⟩)
    | (go_at_call 48; (refine (size_N _).mono ?_); rintro e w' ⟨rfl, rfl⟩)
    | (go_at_call 13; (refine (HA.out _).mono ?_); rintro e w2 ⟨A2, c2, rfl, _, hb⟩; have hc2 := Chg.of_below hb))
  go_loopg [13] 0 (fun gh iv wr => iv = .int .i64 0 ∧ wr = w2)
  case atStart => exact ⟨rfl, rfl⟩
  case round =>
    obtain ⟨rfl, rfl⟩ := hrel
    go_wp2
    go_ret
    exact ⟨_, _, rfl, ((Chg.refl [] w).alloc _).then hc2⟩
set_option maxRecDepth 100000 in
theorem Same_NZ {w : World} {c : Nat} (hB : Blk w c 64 #[.pointer none]) : Calls Try.prog 21 #[.pointer none, ptr c] w fun e w' => e = .returned (.bool true) ∧ Chg [] w w' := by
  have HP := Lib.hid (places_any hB)
  have HA := Lib.hid (fun W => All_N W)
  have HZ := Lib.hid (fun W (hc : Chg [] w W) => All_Z (hB.chg hc (by simp)))
  clear hB
  go_enter Try.func21, Try.ntmps21
  go_wp2_with (first
    | (go_at_call_of 40 (Value.pointer none); refine (places_N _).mono ?_; rintro e w1 ⟨rfl, rfl⟩)
    | (go_at_call_of 40 (ptr c); refine HP.out.mono ?_; rintro e w1 ⟨rfl, rfl⟩)
    | (go_at_call 48; refine (size_N _).mono ?_; rintro e w1 ⟨rfl, rfl⟩)
    | (go_at_call_of 13 (Value.pointer none); refine (HA.out _).mono ?_; rintro e w1 ⟨A1, c1, rfl, hr1, hb1⟩; have hc1 := Chg.of_below hb1)
    | (go_at_call_of 13 (ptr c); refine (HZ.out _ hc1).mono ?_; rintro e w2 ⟨A2, c2, rfl, hr2, hb2⟩; have hc2 := Chg.of_below hb2; have hr1' := hr1.chg hc2 (fun _ _ hk => by cases hk))
    | (go_at_call 49; refine (equalL_any (xs := []) (ys := []) hr1' hr2 (by simp) (by simp)).mono ?_; rintro e w3 ⟨rfl, nn, hw3⟩))
  go_ret
  exact ⟨rfl, (hc1.then hc2).drewN nn⟩
set_option maxRecDepth 100000 in
theorem Same_ZN {w : World} {c : Nat} (hB : Blk w c 64 #[.pointer none]) : Calls Try.prog 21 #[ptr c, .pointer none] w fun e w' => e = .returned (.bool true) ∧ Chg [] w w' := by
  have HP := Lib.hid (places_any hB)
  have HA := Lib.hid (fun W => All_N W)
  have HZ := Lib.hid (fun W (hc : Chg [] w W) => All_Z (hB.chg hc (by simp)))
  clear hB
  go_enter Try.func21, Try.ntmps21
  go_wp2_with (first
    | (go_at_call_of 40 (Value.pointer none); refine (places_N _).mono ?_; rintro e w1 ⟨rfl, rfl⟩)
    | (go_at_call_of 40 (ptr c); refine HP.out.mono ?_; rintro e w1 ⟨rfl, rfl⟩)
    | (go_at_call 48; refine (size_N _).mono ?_; rintro e w1 ⟨rfl, rfl⟩)
    | (go_at_call_of 13 (ptr c); refine (HZ.out _ (Chg.refl [] _)).mono ?_; rintro e w1 ⟨A1, c1, rfl, hr1, hb1⟩; have hc1 := Chg.of_below hb1)
    | (go_at_call_of 13 (Value.pointer none); refine (HA.out _).mono ?_; rintro e w2 ⟨A2, c2, rfl, hr2, hb2⟩; have hc2 := Chg.of_below hb2; have hr1' := hr1.chg hc2 (fun _ _ hk => by cases hk))
    | (go_at_call 49; refine (equalL_any (xs := []) (ys := []) hr1' hr2 (by simp) (by simp)).mono ?_; rintro e w3 ⟨rfl, nn, hw3⟩))
  go_ret
  exact ⟨rfl, (hc1.then hc2).drewN nn⟩
end Go.Proofs
end
section
namespace Go.Proofs
open Go.RowKit Go.Shelf
set_option linter.unusedVariables false
set_option linter.unusedSimpArgs false
attribute [local go_sem] eql_ptr_nil eql_nil_nil eql_tptr_nil eql_tnil_nil
theorem wpl_build1 {P : Program} {w : World} {ops : Array Oper} {rest : List Oper} {o : Oper} {a : Act} {Q : Exit → Act → World → Prop} {t : TypeId} {u v : Value} (hr : ∀ W, (Instr.build t #[(0, u)]).run P W = .ok v W) (hg : Region.wanted o (yielded ops a.tmps) = true)
    (ho : ∃ x, o.op = .build t #[(0, x)] ∧ a.eval x = u) (h : wpList P ops Q rest (a.put o.dst v) w) : wpList P ops Q (o :: rest) a w := by
  obtain ⟨x, h1, h2⟩ := ho
  exact wpList_step fun K hK => by
    rw [if_pos hg]
    unfold Oper.wp execOp
    simp only [h1, List.map_toArray, List.map_cons, List.map_nil, h2, Sem.run_bind, hr, Result.andThen_ok, Sem.run_pure]
    exact hK _ _ h
set_option maxRecDepth 100000 in
set_option maxHeartbeats 6400000 in
theorem nil_any (w : World) : Calls Try.prog 7 #[] w fun e w' => e = .returned (.bool true) ∧ Chg [] w w' := by
  have HK := Lib.hid known_any
  have hXs := g1.size
  have hX1 := g1.one
  have HMK := Lib.hid (fun W => Make_N g1 W)
  have HST := Lib.hid (fun W => Set_N 0 0 g1 W)
  obtain ⟨XA, hXA⟩ : ∃ A, A = g1.arr := ⟨_, rfl⟩
  unfold Gr.val at HMK HST
  rw [← hXA] at hXs hX1 HMK HST
  have hbd : ∀ W : World, (Instr.build 37 #[(0, .int .i64 1)]).run Try.prog W = .ok (.agg XA) W := fun W => by rw [hXA]; kernel_rfl
  clear hXA
  obtain ⟨ZA, hZA⟩ : ∃ A, A = zG := ⟨_, rfl⟩
  have hZs : ZA.size = 19 := by rw [hZA]; rfl
  have hZ1 : ZA.all (·.oneCell') = true := by rw [hZA]; exact Gr.zero.one
  have HGZ := Lib.hid (fun (W : World) (c : Nat) (hB : Blk W c 64 #[.pointer none]) => Get_Z hB 0 0)
  rw [← hZA] at HGZ
  clear hZA
  have HBD := Lib.hid hbd
  clear hbd
  have hz := (Blk.new w 64 #[.pointer none]).alloc (.cells zG 37)
  have hxb : Blk ((w.alloc (.cells #[.pointer none] 64)).alloc (.cells zG 37)) (w.heap.size + 1) 37 zG := Blk.at' (w.alloc (.cells #[.pointer none] 64)) 37 zG (by simp)
  have hcA : Chg [] w ((w.alloc (.cells #[.pointer none] 64)).alloc (.cells zG 37)) := ((Chg.refl [] w).alloc _).alloc _
  go_enter Try.func7, Try.ntmps7
  go_upto_region 4 with (first
    | ((with_reducible refine wpl_build1 HBD.out ?_ ?_ ?_); (· rfl); (· exact ⟨_, rfl, rfl⟩))
    | ((with_reducible refine wpl_storeE T37 hxb rfl hXs hX1 ?_ ?_ ?_); (· rfl); (· exact ⟨_, _, rfl, rfl, rfl⟩); intro w3 hS3))
  have hz3 := hS3.far hz (by omega)
  have hx3 := hS3.blk
  have hc3 : Chg [] w w3 := hcA.trans hS3.chg (fun k hk => by simp at hk; omega)
  clear hS3 hz hxb hcA
  go_upto_region 5 with (first
    | ((with_reducible refine wpl_loadE T37 hx3 hXs ?_ ?_ ?_); (· rfl); (· exact ⟨_, rfl, rfl⟩))
    | (go_at_call 25; refine (HMK.out _).mono ?_; rintro e w4 ⟨rfl, hc4⟩))
  have hz4 := (hz3.chg hc4 (by simp)).alloc (.cells #[.int .i64 0, .int .u64 0] 33)
  have hx4 := (hx3.chg hc4 (by simp)).alloc (.cells #[.int .i64 0, .int .u64 0] 33)
  have hc4w := (hc3.then hc4).alloc (.cells #[.int .i64 0, .int .u64 0] 33)
  clear hz3 hx3 hc3 hc4
  generalize World.alloc w4 _ = y4 at *
  go_upto_region 6 with (first
    | (go_at_call 17; refine (HGZ.out _ _ hz4).mono ?_; rintro e w5 ⟨rfl, hc5⟩)
    | ((with_reducible refine wpl_storeE T37 (Blk.new w5 37 zG) rfl hZs hZ1 ?_ ?_ ?_); (· rfl); (· exact ⟨_, _, rfl, rfl, rfl⟩); intro w6 hS6))
  have hc6 : Chg [] y4 w6 := ((hc5.alloc _).trans hS6.chg (fun k hk => by have := hc5.size; simp at hk; omega))
  have hz6 := hz4.chg hc6 (by simp)
  have hx6 := hx4.chg hc6 (by simp)
  have hc6w := hc4w.then hc6
  clear hz4 hx4 hc4w hS6 hc5 hc6
  go_upto_region 7 with (go_at_call 26; refine (At_N 0 _).mono ?_; rintro e w7 ⟨rfl, hc7⟩)
  have hz7 := (hz6.chg hc7 (by simp)).alloc (.cells #[.int .i64 0, .int .u64 0] 33)
  have hx7 := (hx6.chg hc7 (by simp)).alloc (.cells #[.int .i64 0, .int .u64 0] 33)
  have hc7w := (hc6w.then hc7).alloc (.cells #[.int .i64 0, .int .u64 0] 33)
  clear hz6 hx6 hc6w hc7
  generalize World.alloc w7 _ = y7 at *
  go_wp2_with (first
    | ((with_reducible refine wpl_loadE T37 hx7 hXs ?_ ?_ ?_); (· rfl); (· exact ⟨_, rfl, rfl⟩))
    | (go_at_call 18; refine (HST.out _).mono ?_; rintro e x1 ⟨rfl, hx1⟩; have hq1 := hz7.chg hx1 (by simp))
    | (go_at_call 19; refine (Turn_Z hq1 0 0 2).mono ?_; rintro e x2 ⟨rfl, hx2⟩; have hq2 := hq1.chg hx2 (by simp))
    | (go_at_call 20; refine (Drop_N 0 0 _).mono ?_; rintro e x3 ⟨rfl, hx3⟩; have hq3 := hq2.chg hx3 (by simp))
    | (go_at_call_of 27 (Value.pointer none); refine (Live_N _).mono ?_; rintro e x4 ⟨rfl, hx4⟩; have hq4 := hq3.chg hx4 (by simp))
    | (go_at_call 27; have q := hq4; refine (Live_Z hq4).mono ?_; rintro e x5 ⟨rfl, hx5⟩; have hq5 := hq4.chg hx5 (by simp))
    | (go_at_call 13; refine (All_N _).mono ?_; rintro e x6 ⟨A6, c6, rfl, _, hb6⟩; have hx6 := Chg.of_below hb6; have hq6 := hq5.chg hx6 (by simp))
    | (go_at_call 28; refine (Of_Z hq6 1).mono ?_; rintro e x7 ⟨A7, c7, rfl, hb7⟩; have hx7' := Chg.of_below hb7; have hq7 := hq6.chg hx7' (by simp))
    | (go_at_call 29; refine (Aff_N _).mono ?_; rintro e x8 ⟨A8, c8, rfl, hx8⟩; have hq8 := hq7.chg hx8 (by simp))
    | (go_at_call 15; refine (Copy_N _).mono ?_; rintro e x9 ⟨rfl, rfl⟩)
    | (go_at_call 21; have q := hq9; refine (Same_ZN hq9).mono ?_; rintro e x10 ⟨rfl, hx10⟩)
    | (go_at_call 21; refine (Same_NZ hq8).mono ?_; rintro e x9 ⟨rfl, hx9⟩; have hq9 := hq8.chg hx9 (by simp))
    | (go_at_call 9; refine (HK.out _).mono ?_; rintro e x11 ⟨rfl, hx11⟩))
  go_ret
  exact ⟨rfl, (((((((((((hc7w.then hx1).then hx2).then hx3).then hx4).then hx5).then hx6).then hx7').then hx8).then hx9).then hx10).then hx11)⟩
end Go.Proofs
end
section
namespace Go.Proofs.Ytapgcadffghljaa.gtableNil
open Go.ChangeShapes Go.WideShapes Go.ChangeAt Go.RowKit
set_option linter.unusedVariables false

theorem own : ownKnob Try.prog.godebug = none := by kernel_rfl

set_option maxRecDepth 100000 in
theorem lifted (os : Os) (started : os.Started) (H : Type) (enc : TypeId × Value → H) :
    ReturnsInHanded {} Try.checked os 7 .any (Rows.gtableNilSpec.pre6 enc Try.prog Try.f7 Rows.gtableNilRow.domain false) (Rows.gtableNilSpec.post enc Try.prog Try.f7 false true false false) := by
  refine returnsInHanded_of_change (C := Try.checked) own started (by kernel_rfl) Try.func7
    (ChangeSpec.witness6 (enc := enc) (C := Try.checked) false ⟨#[], #[], []⟩ 8 (by kernel_rfl) (by kernel_rfl) (by kernel_rfl) (by kernel_rfl)) ?_
  intro W base args ds gs before hval0 hW hcnd _
  have hval : ∀ (j : Nat) t v, Try.f7.params[j]? = some t → args[j]? = some v → Value.okWide Try.prog W .any base t v := hval0
  have hW' := hW
  obtain ⟨p, q, hA0, hV, rfl, hfz, hnd⟩ := hW
  have hA : DataW.TrodAll enc Try.prog W 0 (fun _ => true) true Try.f7.params.toList args.toList ds p := hA0
  rw [Try.params7] at hA hval
  obtain ⟨hnil, rfl, rfl⟩ := trodAll_nil hA
  obtain rfl : args = #[] := by cases args; simpa using hnil
  obtain ⟨rfl, rfl⟩ := trodVars_none hV
  clear hA0 hval0
  simp only [List.append_nil] at hW'
  refine (nil_any W).mono fun e W' ⟨he, hc⟩ => ?_
  have hg := hc.to_below
  subst he
  exact ⟨_, rfl, post_of_below (pa := []) (pv := []) hW' (fun _ _ _ => (trodAll_cons_mk (shut_bool Try.underlying4 _) trodAll_mk0)) (fun sp hsp => trodAll_mk0) (fun _ _ => rfl) (by simp)
    hg (ok_one (by kernel_rfl) rfl (okWide_bool_mk Try.underlying4 _))⟩

theorem over : Rows.gtableNilRow.holds Try.pinned (OpenSpec.ofChange Rows.gtableNilSpec) :=
  OpenClaim.holds_of_wide 7 Try.f7 rfl rfl rfl rfl rfl rfl rfl ⟨rfl, rfl, rfl, rfl, rfl⟩ rfl rfl rfl rfl rfl (by kernel_rfl) Try.func7 (by kernel_rfl)
    (of_decide_eq_true (by kernel_rfl)) (by unfold Func.isWrapper; first | (rw [if_pos (by decide +kernel)]; kernel_rfl) | (rw [if_neg (by decide +kernel)]; exact ⟨rfl, rfl⟩))
    (fun os started H enc _ => lifted os started H enc)

/-- ████ THE STATEMENT ████ -/
theorem proved : Rows.GtableNilSaid :=
  over
#print axioms proved
end Go.Proofs.Ytapgcadffghljaa.gtableNil
end
