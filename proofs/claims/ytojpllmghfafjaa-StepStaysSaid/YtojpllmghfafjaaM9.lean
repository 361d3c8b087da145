import Derived.Test.YtojpllmghfafjaaM8
import Derived.Deep.RegionWith
import Derived.Deep.RegionHeld3
section
namespace Go.Proofs
open Go.RowKit
set_option linter.unusedVariables false
set_option linter.unusedSimpArgs false

set_option maxHeartbeats 4000000 in
set_option maxRecDepth 100000 in
theorem done_0 (V : Value) (m : Nat) (a b c : Int) (g : Gr) (hg : g.ok)  (w : World) : Calls Try.prog 18 #[.map (some m), V, .agg #[.int .u8 0, .int .u8 a, .int .u8 b, .int .u8 c], g.val] w fun e w' => e = .returned (.tuple #[g.next.val, Cl.zero.val, .int .i64 1]) ∧ Below w.heap.size w w' := by
  have hA : g.arr.setIfInBounds 8 (.int .i64 (g.pc + 1)) = g.next.arr := rfl
  have h8 : g.arr[8]? = some (.int .i64 g.pc) := rfl
  have hs := g.next.size
  have hs2 := g.next.one
  have e1 : wrap64 (g.pc + 1) = g.pc + 1 := IntWalk.wrap64_in _ (by have := hg.p0; have := hg.p1; omega)
  unfold Gr.val Cl.val
  rw [Cl.zero_arr]
  generalize g.pc = pc at *
  generalize hga : g.arr = A at *
  generalize hgb : g.next.arr = A1 at *
  obtain ⟨W, hW⟩ : ∃ W, W = frame0 w #[.int .u8 0, .int .u8 a, .int .u8 b, .int .u8 c] A := ⟨_, rfl⟩
  have hF : DoneAt w W #[.int .u8 0, .int .u8 a, .int .u8 b, .int .u8 c] A := by rw [hW]; exact doneAt_new w _ _
  have c8 := (hF.bg.cell 8).trans h8
  have f8 := hF.bg.frozen 8
  have hF1 := hF.set 8 (.int .i64 (pc + 1))
  rw [hA] at hF1
  go_enter Try.func18, Try.ntmps18
  go_upto_region 1 with (fail)
  unfold frame0 at hW
  rw [← hW]
  clear hW hF
  go_upto_region 2 with (fail)
  generalize W.setCell _ _ = W1 at *
  clear c8 f8
  have x0 := hF1.bx.cell 0
  have x1 := hF1.bx.cell 1
  have x2 := hF1.bx.cell 2
  have x3 := hF1.bx.cell 3
  simp only [List.getElem?_toArray, List.getElem?_cons_zero, List.getElem?_cons_succ] at x0 x1 x2 x3
  clear hA h8 hga hgb
  have hw3 : Whole 30 A1.size := by rw [hs]; exact whole30
  have hwc : Whole 36 zC.size := whole36
  have hf3 : zG.size = A1.size := hs.symm
  have hbg := hF1.bg
  have hbr := hF1.br
  have hbc := hF1.bc
  have hbl := hF1.bl
  have hzc1 : zC.all (·.oneCell') = true := by simp [Value.oneCell']
  go_wp2_with (first
    | (refine wpList_load_blk hbg hw3 rfl _ rfl rfl ?_)
    | (refine wpList_store_blk hbr hw3 hf3 hs2 rfl _ _ rfl rfl rfl ?_; intro w3 hB4 hC4; replace hbc := hbc.chg hC4 (by simp))
    | (refine wpList_store_blk hbc hwc rfl hzc1 rfl _ _ rfl rfl rfl ?_; intro w4 hB5 hC5))
  refine bodyPost_ret (done_res (by simp [Act.put]) (by simp [Act.put]) (by simp [Act.put]) (hB4.chg hC5 (by simp)) hw3 hB5 hwc) rfl ⟨rfl, ?_⟩
  have hz := hbl.size
  exact (hbl.trans (hC4.below (by simp; omega) hz)).trans (hC5.below (by simp; omega) (Nat.le_trans hz hC4.size))
set_option maxHeartbeats 4000000 in
set_option maxRecDepth 100000 in
theorem done_1 (V : Value) (m : Nat) (a b c : Int) (g : Gr) (hg : g.ok) (a0 : 0 ≤ a) (a1 : a < 8) (N : Int) (n0 : 0 ≤ N) (n1 : N < 65536) (hN : ∀ w, Calls Try.prog 26 #[.agg #[.int .u8 1, .int .u8 a, .int .u8 b, .int .u8 c]] w fun e w' => e = .returned (.int .i64 N) ∧ Below w.heap.size w w') (w : World) : Calls Try.prog 18 #[.map (some m), V, .agg #[.int .u8 1, .int .u8 a, .int .u8 b, .int .u8 c], g.val] w fun e w' => e = .returned (.tuple #[(g.next.put a.toNat N).val, Cl.zero.val, .int .i64 1]) ∧ Below w.heap.size w w' := by
  have hA : g.arr.setIfInBounds 8 (.int .i64 (g.pc + 1)) = g.next.arr := rfl
  have h8 : g.arr[8]? = some (.int .i64 g.pc) := rfl
  have hs := g.next.size
  have hs2 := g.next.one
  have e1 : wrap64 (g.pc + 1) = g.pc + 1 := IntWalk.wrap64_in _ (by have := hg.p0; have := hg.p1; omega)
  obtain ⟨k, rfl⟩ : ∃ k : Nat, a = (k : Int) := ⟨a.toNat, by omega⟩
  have hp := g.next.put_cell k (by omega) N
  have ht : (k : Int).toNat = k := by omega
  rw [ht]
  have hs3 := (g.next.put k N).size
  have hs4 := (g.next.put k N).one
  have hk9 : g.next.arr[9 + k]? = some (.int .u64 (g.next.r k)) := g.next.get_cell k (by omega)
  generalize g.next.r k = rk at *
  have u1 : IntKind.u64.wrap N = N := by simp [IntKind.wrap, IntKind.bits, IntKind.signed]; omega
  unfold Gr.val Cl.val
  rw [Cl.zero_arr]
  generalize g.pc = pc at *
  generalize hga : g.arr = A at *
  generalize hgb : g.next.arr = A1 at *
  generalize hgc : (g.next.put k N).arr = A2 at *
  obtain ⟨W, hW⟩ : ∃ W, W = frame0 w #[.int .u8 1, .int .u8 k, .int .u8 b, .int .u8 c] A := ⟨_, rfl⟩
  have hF : DoneAt w W #[.int .u8 1, .int .u8 k, .int .u8 b, .int .u8 c] A := by rw [hW]; exact doneAt_new w _ _
  have c8 := (hF.bg.cell 8).trans h8
  have f8 := hF.bg.frozen 8
  have hF1 := hF.set 8 (.int .i64 (pc + 1))
  rw [hA] at hF1
  go_enter Try.func18, Try.ntmps18
  go_upto_region 1 with (fail)
  unfold frame0 at hW
  rw [← hW]
  clear hW hF
  go_upto_region 2 with (fail)
  generalize W.setCell _ _ = W1 at *
  clear c8 f8
  have x0 := hF1.bx.cell 0
  have x1 := hF1.bx.cell 1
  have x2 := hF1.bx.cell 2
  have x3 := hF1.bx.cell 3
  simp only [List.getElem?_toArray, List.getElem?_cons_zero, List.getElem?_cons_succ] at x0 x1 x2 x3
  have y9 := (hF1.bg.cell (9 + k)).trans hk9
  have z9 := hF1.bg.frozen (9 + k)
  have hNH := Lib.hid hN
  have hFH := Lib.hid hF1
  clear hN hF1 hga hgb hgc hA h8
  go_upto_region 6 with (fail)
  go_region_with (go_at_call 26; refine (hNH.out _).mono ?_; rintro e w2 ⟨rfl, hb2⟩; have hG := (hFH.out.drew).below hb2; have y9 := (hG.bg.cell (9 + k)).trans hk9; have z9 := hG.bg.frozen (9 + k); have x1 := hG.bx.cell 1; simp only [List.getElem?_toArray, List.getElem?_cons_zero, List.getElem?_cons_succ] at x1; have hGH := Lib.hid hG; clear hG)
  all_goals
    have hF2 := hGH.out.set (9 + k) (.int .u64 N)
    rw [hp] at hF2
    generalize World.setCell _ _ _ = W3 at *
    clear hGH y9 z9
    have hw3 : Whole 30 A2.size := by rw [hs3]; exact whole30
    have hwc : Whole 36 zC.size := whole36
    have hf3 : zG.size = A2.size := hs3.symm
    have hbg := hF2.bg
    have hbr := hF2.br
    have hbc := hF2.bc
    have hbl := hF2.bl
    have hzc1 : zC.all (·.oneCell') = true := by simp [Value.oneCell']
    go_wp2_with (first
      | (refine wpList_load_blk hbg hw3 rfl _ rfl rfl ?_)
      | (refine wpList_store_blk hbr hw3 hf3 hs4 rfl _ _ rfl rfl rfl ?_; intro w3 hB4 hC4; replace hbc := hbc.chg hC4 (by simp))
      | (refine wpList_store_blk hbc hwc rfl hzc1 rfl _ _ rfl rfl rfl ?_; intro w4 hB5 hC5))
    refine bodyPost_ret (done_res (by simp [Act.put]) (by simp [Act.put]) (by simp [Act.put]) (hB4.chg hC5 (by simp)) hw3 hB5 hwc) rfl ⟨rfl, ?_⟩
    have hz := hbl.size
    exact (hbl.trans (hC4.below (by simp; omega) hz)).trans (hC5.below (by simp; omega) (Nat.le_trans hz hC4.size))
end Go.Proofs
end
section
namespace Go.Proofs
open Go.RowKit
set_option linter.unusedVariables false
set_option linter.unusedSimpArgs false

set_option maxHeartbeats 4000000 in
set_option maxRecDepth 100000 in
theorem done_2 (V : Value) (m : Nat) (a b c : Int) (g : Gr) (hg : g.ok) (a0 : 0 ≤ a) (a1 : a < 8) (b0 : 0 ≤ b) (b1 : b < 8) (c0 : 0 ≤ c) (c1 : c < 8) (N : Int) (hop : ∀ w, Calls Try.prog 20 #[.int .u64 (g.next.r b.toNat), .int .u64 (g.next.r c.toNat)] w fun e w' => e = .returned (.tuple #[.int .u64 N, .bool true]) ∧ Below w.heap.size w w') (w : World) (hfn : FnsAt w m) : Calls Try.prog 18 #[.map (some m), V, .agg #[.int .u8 2, .int .u8 a, .int .u8 b, .int .u8 c], g.val] w fun e w' => e = .returned (.tuple #[(g.next.put a.toNat N).val, Cl.zero.val, .int .i64 1]) ∧ Below w.heap.size w w' := by
  have hA : g.arr.setIfInBounds 8 (.int .i64 (g.pc + 1)) = g.next.arr := rfl
  have h8 : g.arr[8]? = some (.int .i64 g.pc) := rfl
  have hs := g.next.size
  have hs2 := g.next.one
  have e1 : wrap64 (g.pc + 1) = g.pc + 1 := IntWalk.wrap64_in _ (by have := hg.p0; have := hg.p1; omega)
  obtain ⟨k, rfl⟩ : ∃ k : Nat, a = (k : Int) := ⟨a.toNat, by omega⟩
  have hp := g.next.put_cell k (by omega) N
  have ht : (k : Int).toNat = k := by omega
  rw [ht]
  have hs3 := (g.next.put k N).size
  have hs4 := (g.next.put k N).one
  have hk9 : g.next.arr[9 + k]? = some (.int .u64 (g.next.r k)) := g.next.get_cell k (by omega)
  generalize g.next.r k = rk at *
  obtain ⟨i, rfl⟩ : ∃ i : Nat, b = (i : Int) := ⟨b.toNat, by omega⟩
  obtain ⟨j, rfl⟩ : ∃ j : Nat, c = (j : Int) := ⟨c.toNat, by omega⟩
  rw [show (i : Int).toNat = i by omega, show (j : Int).toNat = j by omega] at hop
  have hi9 : g.next.arr[9 + i]? = some (.int .u64 (g.next.r i)) := g.next.get_cell i (by omega)
  have hj9 : g.next.arr[9 + j]? = some (.int .u64 (g.next.r j)) := g.next.get_cell j (by omega)
  generalize g.next.r i = ri at *
  generalize g.next.r j = rj at *
  unfold Gr.val Cl.val
  rw [Cl.zero_arr]
  generalize g.pc = pc at *
  generalize hga : g.arr = A at *
  generalize hgb : g.next.arr = A1 at *
  generalize hgc : (g.next.put k N).arr = A2 at *
  obtain ⟨W, hW⟩ : ∃ W, W = frame0 w #[.int .u8 2, .int .u8 k, .int .u8 i, .int .u8 j] A := ⟨_, rfl⟩
  have hF : DoneAt w W #[.int .u8 2, .int .u8 k, .int .u8 i, .int .u8 j] A := by rw [hW]; exact doneAt_new w _ _
  have c8 := (hF.bg.cell 8).trans h8
  have f8 := hF.bg.frozen 8
  have hF1 := hF.set 8 (.int .i64 (pc + 1))
  rw [hA] at hF1
  go_enter Try.func18, Try.ntmps18
  go_upto_region 1 with (fail)
  unfold frame0 at hW
  rw [← hW]
  clear hW hF
  go_upto_region 2 with (fail)
  generalize W.setCell _ _ = W1 at *
  clear c8 f8
  have x0 := hF1.bx.cell 0
  have x1 := hF1.bx.cell 1
  have x2 := hF1.bx.cell 2
  have x3 := hF1.bx.cell 3
  simp only [List.getElem?_toArray, List.getElem?_cons_zero, List.getElem?_cons_succ] at x0 x1 x2 x3
  have y9 := (hF1.bg.cell (9 + k)).trans hk9
  have yi := (hF1.bg.cell (9 + i)).trans hi9
  have yj := (hF1.bg.cell (9 + j)).trans hj9
  have z9 := hF1.bg.frozen (9 + k)
  have hf1 : FnsAt W1 m := hfn.below hF1.bl
  have hml := hfn.lt
  have hl1 := hf1.look 2 20 rfl
  have hl1d := (show FnsAt W1.drew m from hf1.below (below_drew (Below.refl _ _))).look 2 20 rfl
  have hopH := Lib.hid hop
  have hFH := Lib.hid hF1
  have hfH := Lib.hid hf1
  clear hop hF1 hf1 hga hgb hgc hA h8 hfn
  go_upto_region 10 with (fail)
  refine wp_region_held_drew (S := (fun w' => w'.cell? ⟨w.heap.size, 0, none⟩ = some (.int .u8 2) ∧ w'.cell? ⟨w.heap.size, 1, none⟩ = some (.int .u8 k) ∧ w'.cell? ⟨w.heap.size, 2, none⟩ = some (.int .u8 i) ∧ w'.cell? ⟨w.heap.size, 3, none⟩ = some (.int .u8 j) ∧ (Instr.lookup 50 (.map (some m)) (.int .u8 2) false).run Try.prog w' = .ok (fnV 20) w')) (by kernel_rfl) ⟨x0, x1, x2, x3, hl1d⟩ (fun hHeld => ?_)
  simp only [List.setIfInBounds_toArray, List.size_toArray, List.length_cons, List.length_nil, Array.replicate]
  refine wpAnyH_take (i := 0) (v := ?_) rfl (by kernel_rfl) (by kernel_rfl) (by kernel_rfl) (fun _ _ _ h => h) (Or.inl ⟨by rfl, ?_⟩) hHeld ?_
  rotate_left
  · (intro w' hSw; obtain ⟨s0, s1, s2, s3, s4⟩ := hSw; go_simp; try with_reducible rfl)
  simp only [Act.put, List.getElem_toArray, List.getElem_cons_succ, List.getElem_cons_zero, List.setIfInBounds_toArray, List.set_cons_zero, List.set_cons_succ]
  refine wpAnyH_take (i := 1) (v := ?_) rfl (by kernel_rfl) (by kernel_rfl) (by kernel_rfl) (fun _ _ _ h => h) (Or.inl ⟨by rfl, ?_⟩) hHeld ?_
  rotate_left
  · (intro w' hSw; obtain ⟨s0, s1, s2, s3, s4⟩ := hSw; go_simp; try with_reducible rfl)
  simp only [Act.put, List.getElem_toArray, List.getElem_cons_succ, List.getElem_cons_zero, List.setIfInBounds_toArray, List.set_cons_zero, List.set_cons_succ]
  refine wpAnyH_take (i := 2) (v := ?_) rfl (by kernel_rfl) (by kernel_rfl) (by kernel_rfl) (fun _ _ _ h => h) (Or.inl ⟨by rfl, ?_⟩) hHeld ?_
  rotate_left
  · (intro w' hSw; obtain ⟨s0, s1, s2, s3, s4⟩ := hSw; go_simp; try with_reducible rfl)
  simp only [Act.put, List.getElem_toArray, List.getElem_cons_succ, List.getElem_cons_zero, List.setIfInBounds_toArray, List.set_cons_zero, List.set_cons_succ]
  refine wpAnyH_take (i := 3) (v := ?_) rfl (by kernel_rfl) (by kernel_rfl) (by kernel_rfl) (fun _ _ _ h => h) (Or.inl ⟨by rfl, ?_⟩) hHeld ?_
  rotate_left
  · (intro w' hSw; obtain ⟨s0, s1, s2, s3, s4⟩ := hSw; go_simp; try with_reducible rfl)
  simp only [Act.put, List.getElem_toArray, List.getElem_cons_succ, List.getElem_cons_zero, List.setIfInBounds_toArray, List.set_cons_zero, List.set_cons_succ]
  refine wpAnyH_take (i := 4) (v := ?_) rfl (by kernel_rfl) (by kernel_rfl) (by kernel_rfl) (fun _ _ _ h => h) (Or.inl ⟨by rfl, ?_⟩) hHeld ?_
  rotate_left
  · (intro w' hSw; obtain ⟨s0, s1, s2, s3, s4⟩ := hSw; go_simp; try with_reducible rfl)
  simp only [Act.put, List.getElem_toArray, List.getElem_cons_succ, List.getElem_cons_zero, List.setIfInBounds_toArray, List.set_cons_zero, List.set_cons_succ]
  refine wpAnyH_take (i := 5) (v := ?_) rfl (by kernel_rfl) (by kernel_rfl) (by kernel_rfl) (fun _ _ _ h => h) (Or.inl ⟨by rfl, ?_⟩) hHeld ?_
  rotate_left
  · (intro w' hSw; obtain ⟨s0, s1, s2, s3, s4⟩ := hSw; go_simp; try with_reducible rfl)
  simp only [Act.put, List.getElem_toArray, List.getElem_cons_succ, List.getElem_cons_zero, List.setIfInBounds_toArray, List.set_cons_zero, List.set_cons_succ]
  refine wpAnyH_take (i := 6) (v := ?_) rfl (by kernel_rfl) (by kernel_rfl) (by kernel_rfl) (fun _ _ _ h => h) (Or.inl ⟨by rfl, ?_⟩) hHeld ?_
  rotate_left
  · (intro w' hSw; obtain ⟨s0, s1, s2, s3, s4⟩ := hSw; go_simp; try with_reducible rfl)
  simp only [Act.put, List.getElem_toArray, List.getElem_cons_succ, List.getElem_cons_zero, List.setIfInBounds_toArray, List.set_cons_zero, List.set_cons_succ]
  refine wpAnyH_take (i := 7) (v := ?_) rfl (by kernel_rfl) (by kernel_rfl) (by kernel_rfl) (fun _ _ _ h => h) (Or.inl ⟨by rfl, ?_⟩) hHeld ?_
  rotate_left
  · (intro w' hSw; obtain ⟨s0, s1, s2, s3, s4⟩ := hSw; go_simp; try with_reducible rfl)
  simp only [Act.put, List.getElem_toArray, List.getElem_cons_succ, List.getElem_cons_zero, List.setIfInBounds_toArray, List.set_cons_zero, List.set_cons_succ]
  refine wpAnyH_take (i := 8) (v := ?_) rfl (by kernel_rfl) (by kernel_rfl) (by kernel_rfl) (fun _ _ _ h => h) (Or.inl ⟨by rfl, ?_⟩) hHeld ?_
  rotate_left
  · (intro w' hSw; obtain ⟨s0, s1, s2, s3, s4⟩ := hSw; go_simp; try with_reducible rfl)
  simp only [Act.put, List.getElem_toArray, List.getElem_cons_succ, List.getElem_cons_zero, List.setIfInBounds_toArray, List.set_cons_zero, List.set_cons_succ]
  refine wpAnyH_take (i := 9) (v := ?_) rfl (by kernel_rfl) (by kernel_rfl) (by kernel_rfl) (fun _ _ _ h => h) (Or.inl ⟨by rfl, ?_⟩) hHeld ?_
  rotate_left
  · (intro w' hSw; obtain ⟨s0, s1, s2, s3, s4⟩ := hSw; go_simp; try with_reducible rfl)
  simp only [Act.put, List.getElem_toArray, List.getElem_cons_succ, List.getElem_cons_zero, List.setIfInBounds_toArray, List.set_cons_zero, List.set_cons_succ]
  refine wpAnyH_take (i := 11) (v := ?_) rfl (by kernel_rfl) (by kernel_rfl) (by kernel_rfl) (fun _ _ _ h => h) (Or.inl ⟨by rfl, ?_⟩) hHeld ?_
  rotate_left
  · (intro w' hSw; obtain ⟨s0, s1, s2, s3, s4⟩ := hSw; go_simp; try with_reducible rfl)
  simp only [Act.put, List.getElem_toArray, List.getElem_cons_succ, List.getElem_cons_zero, List.setIfInBounds_toArray, List.set_cons_zero, List.set_cons_succ]
  refine wpAnyH_take (i := 12) (v := ?_) rfl (by kernel_rfl) (by kernel_rfl) (by kernel_rfl) (fun _ _ _ h => h) (Or.inl ⟨by rfl, ?_⟩) hHeld ?_
  rotate_left
  · (intro w' hSw; obtain ⟨s0, s1, s2, s3, s4⟩ := hSw; go_simp; try with_reducible rfl)
  simp only [Act.put, List.getElem_toArray, List.getElem_cons_succ, List.getElem_cons_zero, List.setIfInBounds_toArray, List.set_cons_zero, List.set_cons_succ]
  refine wpAnyH_take (i := 13) (v := ?_) rfl (by kernel_rfl) (by kernel_rfl) (by kernel_rfl) (fun _ _ _ h => h) (Or.inl ⟨by rfl, ?_⟩) hHeld ?_
  rotate_left
  · (intro w' hSw; obtain ⟨s0, s1, s2, s3, s4⟩ := hSw; go_simp; try with_reducible rfl)
  simp only [Act.put, List.getElem_toArray, List.getElem_cons_succ, List.getElem_cons_zero, List.setIfInBounds_toArray, List.set_cons_zero, List.set_cons_succ]
  refine wpAnyH_take (i := 14) (v := ?_) rfl (by kernel_rfl) (by kernel_rfl) (by kernel_rfl) (fun _ _ _ h => h) (Or.inl ⟨by rfl, ?_⟩) hHeld ?_
  rotate_left
  · (intro w' hSw; obtain ⟨s0, s1, s2, s3, s4⟩ := hSw; go_simp; try with_reducible rfl)
  simp only [Act.put, List.getElem_toArray, List.getElem_cons_succ, List.getElem_cons_zero, List.setIfInBounds_toArray, List.set_cons_zero, List.set_cons_succ]
  refine wpAnyH_take (i := 20) (v := ?_) rfl (by kernel_rfl) (by kernel_rfl) (by kernel_rfl) (fun _ _ _ h => h) (Or.inl ⟨by rfl, ?_⟩) hHeld ?_
  rotate_left
  · (intro w' hSw; obtain ⟨s0, s1, s2, s3, s4⟩ := hSw; go_simp; try with_reducible rfl)
  simp only [Act.put, List.getElem_toArray, List.getElem_cons_succ, List.getElem_cons_zero, List.setIfInBounds_toArray, List.set_cons_zero, List.set_cons_succ]
  refine wpAnyH_ready (rs := [10, 15]) (by kernel_rfl) (by simp) ?_
  refine AllReadyH.cons rfl (fun K hK => ?_) (AllReadyH.cons rfl (fun K hK => ?_) AllReadyH.nil)
  · go_simp
    refine hK _ _ ⟨x0, x1, x2, x3, hl1d⟩ (fun hHeld => ?_)
    clear hK K
    simp only [Act.put, List.getElem_toArray, List.getElem_cons_succ, List.getElem_cons_zero, List.setIfInBounds_toArray, List.set_cons_zero, List.set_cons_succ]
    refine wpAnyH_ready (rs := [15]) (by kernel_rfl) (by simp) ?_
    refine AllReadyH.cons rfl (fun K hK => ?_) AllReadyH.nil
    go_simp
    refine hK _ _ ⟨x0, x1, x2, x3, hl1d⟩ (fun hHeld => ?_)
    clear hK K
    simp only [Act.put, List.getElem_toArray, List.getElem_cons_succ, List.getElem_cons_zero, List.setIfInBounds_toArray, List.set_cons_zero, List.set_cons_succ]
    refine wpAnyH_ready (rs := [16]) (by kernel_rfl) (by simp) ?_
    refine AllReadyH.cons rfl (fun K hK => ?_) AllReadyH.nil
    go_simp
    refine (hopH.out _).mono ?_
    rintro e w2 ⟨rfl, hb2⟩
    have hG := (hFH.out.drew).below hb2
    have y9 := (hG.bg.cell (9 + k)).trans hk9
    have z9 := hG.bg.frozen (9 + k)
    have x0 := hG.bx.cell 0
    have x1 := hG.bx.cell 1
    have x2 := hG.bx.cell 2
    have x3 := hG.bx.cell 3
    simp only [List.getElem?_toArray, List.getElem?_cons_zero, List.getElem?_cons_succ] at x0 x1 x2 x3
    have hf2 : FnsAt w2 m := (show FnsAt W1.drew m from hfH.out.below (below_drew (Below.refl _ _))).below hb2
    have hl2 := hf2.look 2 20 rfl
    have hl3 := fun v => (hf2.chg (b := w.heap.size + 1) ((Chg.refl [w.heap.size + 1] w2).setCell (p := ⟨w.heap.size + 1, 9 + k, none⟩) (.inl (by simp)) v) (by omega)).look 2 20 rfl
    have hG3 := fun v => hG.set (9 + k) v
    have hGH := Lib.hid hG
    clear hG hf2
    refine hK _ _ ⟨x0, x1, x2, x3, hl2⟩ (fun hHeld => ?_)
    clear hK K
    simp only [Act.put, List.getElem_toArray, List.getElem_cons_succ, List.getElem_cons_zero, List.setIfInBounds_toArray, List.set_cons_zero, List.set_cons_succ]
    refine wpAnyH_take (i := 17) (v := ?_) rfl (by kernel_rfl) (by kernel_rfl) (by kernel_rfl) (fun _ _ _ h => h) (Or.inl ⟨by rfl, ?_⟩) hHeld ?_
    rotate_left
    · (intro w' hSw; obtain ⟨s0, s1, s2, s3, s4⟩ := hSw; go_simp; try with_reducible rfl)
    simp only [Act.put, List.getElem_toArray, List.getElem_cons_succ, List.getElem_cons_zero, List.setIfInBounds_toArray, List.set_cons_zero, List.set_cons_succ]
    refine wpAnyH_take (i := 18) (v := ?_) rfl (by kernel_rfl) (by kernel_rfl) (by kernel_rfl) (fun _ _ _ h => h) (Or.inl ⟨by rfl, ?_⟩) hHeld ?_
    rotate_left
    · (intro w' hSw; obtain ⟨s0, s1, s2, s3, s4⟩ := hSw; go_simp; try with_reducible rfl)
    simp only [Act.put, List.getElem_toArray, List.getElem_cons_succ, List.getElem_cons_zero, List.setIfInBounds_toArray, List.set_cons_zero, List.set_cons_succ]
    refine wpAnyH_ready (rs := [19]) (by kernel_rfl) (by simp) ?_
    refine AllReadyH.cons rfl (fun K hK => ?_) AllReadyH.nil
    go_simp
    refine (fitting_ok _ _).mono ?_
    rintro e w4 ⟨rfl, rfl⟩
    refine hK _ _ ⟨x0, x1, x2, x3, hl2⟩ (fun hHeld => ?_)
    clear hK K
    simp only [Act.put, List.getElem_toArray, List.getElem_cons_succ, List.getElem_cons_zero, List.setIfInBounds_toArray, List.set_cons_zero, List.set_cons_succ]
    refine wpAnyH_take (i := 21) (v := ?_) rfl (by kernel_rfl) (by kernel_rfl) (by kernel_rfl) (fun _ _ _ h => h) (Or.inl ⟨by rfl, ?_⟩) hHeld ?_
    rotate_left
    · (intro w' hSw; obtain ⟨s0, s1, s2, s3, s4⟩ := hSw; go_simp; try with_reducible rfl)
    simp only [Act.put, List.getElem_toArray, List.getElem_cons_succ, List.getElem_cons_zero, List.setIfInBounds_toArray, List.set_cons_zero, List.set_cons_succ]
    refine wpAnyH_ready (rs := [22]) (by kernel_rfl) (by simp) ?_
    refine AllReadyH.cons rfl (fun K hK => ?_) AllReadyH.nil
    go_simp
    have hq := (hG3 (.int .u64 N)).bx
    have q0 := hq.cell 0
    have q1 := hq.cell 1
    have q2 := hq.cell 2
    have q3 := hq.cell 3
    simp only [List.getElem?_toArray, List.getElem?_cons_zero, List.getElem?_cons_succ] at q0 q1 q2 q3
    refine hK _ _ ⟨q0, q1, q2, q3, hl3 _⟩ (fun hHeld => ?_)
    clear hK K hq q0 q1 q2 q3
    simp only [Act.put, List.getElem_toArray, List.getElem_cons_succ, List.getElem_cons_zero, List.setIfInBounds_toArray, List.set_cons_zero, List.set_cons_succ]
    refine wpAnyH_done (by kernel_rfl) ?_ _
    have hF2 := hGH.out.set (9 + k) (.int .u64 N)
    rw [hp] at hF2
    generalize World.setCell _ _ _ = W3 at *
    clear hGH y9 z9
    have hw3 : Whole 30 A2.size := by rw [hs3]; exact whole30
    have hwc : Whole 36 zC.size := whole36
    have hf3 : zG.size = A2.size := hs3.symm
    have hbg := hF2.bg
    have hbr := hF2.br
    have hbc := hF2.bc
    have hbl := hF2.bl
    have hzc1 : zC.all (·.oneCell') = true := by simp [Value.oneCell']
    go_wp2_with (first
      | (refine wpList_load_blk hbg hw3 rfl _ rfl rfl ?_)
      | (refine wpList_store_blk hbr hw3 hf3 hs4 rfl _ _ rfl rfl rfl ?_; intro w3 hB4 hC4; replace hbc := hbc.chg hC4 (by simp))
      | (refine wpList_store_blk hbc hwc rfl hzc1 rfl _ _ rfl rfl rfl ?_; intro w4 hB5 hC5))
    refine bodyPost_ret (done_res (by simp [Act.put]) (by simp [Act.put]) (by simp [Act.put]) (hB4.chg hC5 (by simp)) hw3 hB5 hwc) rfl ⟨rfl, ?_⟩
    have hz := hbl.size
    exact (hbl.trans (hC4.below (by simp; omega) hz)).trans (hC5.below (by simp; omega) (Nat.le_trans hz hC4.size))
  · go_simp
    refine hK _ _ ⟨x0, x1, x2, x3, hl1d⟩ (fun hHeld => ?_)
    clear hK K
    simp only [Act.put, List.getElem_toArray, List.getElem_cons_succ, List.getElem_cons_zero, List.setIfInBounds_toArray, List.set_cons_zero, List.set_cons_succ]
    refine wpAnyH_ready (rs := [10]) (by kernel_rfl) (by simp) ?_
    refine AllReadyH.cons rfl (fun K hK => ?_) AllReadyH.nil
    go_simp
    refine hK _ _ ⟨x0, x1, x2, x3, hl1d⟩ (fun hHeld => ?_)
    clear hK K
    simp only [Act.put, List.getElem_toArray, List.getElem_cons_succ, List.getElem_cons_zero, List.setIfInBounds_toArray, List.set_cons_zero, List.set_cons_succ]
    refine wpAnyH_ready (rs := [16]) (by kernel_rfl) (by simp) ?_
    refine AllReadyH.cons rfl (fun K hK => ?_) AllReadyH.nil
    go_simp
    refine (hopH.out _).mono ?_
    rintro e w2 ⟨rfl, hb2⟩
    have hG := (hFH.out.drew).below hb2
    have y9 := (hG.bg.cell (9 + k)).trans hk9
    have z9 := hG.bg.frozen (9 + k)
    have x0 := hG.bx.cell 0
    have x1 := hG.bx.cell 1
    have x2 := hG.bx.cell 2
    have x3 := hG.bx.cell 3
    simp only [List.getElem?_toArray, List.getElem?_cons_zero, List.getElem?_cons_succ] at x0 x1 x2 x3
    have hf2 : FnsAt w2 m := (show FnsAt W1.drew m from hfH.out.below (below_drew (Below.refl _ _))).below hb2
    have hl2 := hf2.look 2 20 rfl
    have hl3 := fun v => (hf2.chg (b := w.heap.size + 1) ((Chg.refl [w.heap.size + 1] w2).setCell (p := ⟨w.heap.size + 1, 9 + k, none⟩) (.inl (by simp)) v) (by omega)).look 2 20 rfl
    have hG3 := fun v => hG.set (9 + k) v
    have hGH := Lib.hid hG
    clear hG hf2
    refine hK _ _ ⟨x0, x1, x2, x3, hl2⟩ (fun hHeld => ?_)
    clear hK K
    simp only [Act.put, List.getElem_toArray, List.getElem_cons_succ, List.getElem_cons_zero, List.setIfInBounds_toArray, List.set_cons_zero, List.set_cons_succ]
    refine wpAnyH_take (i := 17) (v := ?_) rfl (by kernel_rfl) (by kernel_rfl) (by kernel_rfl) (fun _ _ _ h => h) (Or.inl ⟨by rfl, ?_⟩) hHeld ?_
    rotate_left
    · (intro w' hSw; obtain ⟨s0, s1, s2, s3, s4⟩ := hSw; go_simp; try with_reducible rfl)
    simp only [Act.put, List.getElem_toArray, List.getElem_cons_succ, List.getElem_cons_zero, List.setIfInBounds_toArray, List.set_cons_zero, List.set_cons_succ]
    refine wpAnyH_take (i := 18) (v := ?_) rfl (by kernel_rfl) (by kernel_rfl) (by kernel_rfl) (fun _ _ _ h => h) (Or.inl ⟨by rfl, ?_⟩) hHeld ?_
    rotate_left
    · (intro w' hSw; obtain ⟨s0, s1, s2, s3, s4⟩ := hSw; go_simp; try with_reducible rfl)
    simp only [Act.put, List.getElem_toArray, List.getElem_cons_succ, List.getElem_cons_zero, List.setIfInBounds_toArray, List.set_cons_zero, List.set_cons_succ]
    refine wpAnyH_ready (rs := [19]) (by kernel_rfl) (by simp) ?_
    refine AllReadyH.cons rfl (fun K hK => ?_) AllReadyH.nil
    go_simp
    refine (fitting_ok _ _).mono ?_
    rintro e w4 ⟨rfl, rfl⟩
    refine hK _ _ ⟨x0, x1, x2, x3, hl2⟩ (fun hHeld => ?_)
    clear hK K
    simp only [Act.put, List.getElem_toArray, List.getElem_cons_succ, List.getElem_cons_zero, List.setIfInBounds_toArray, List.set_cons_zero, List.set_cons_succ]
    refine wpAnyH_take (i := 21) (v := ?_) rfl (by kernel_rfl) (by kernel_rfl) (by kernel_rfl) (fun _ _ _ h => h) (Or.inl ⟨by rfl, ?_⟩) hHeld ?_
    rotate_left
    · (intro w' hSw; obtain ⟨s0, s1, s2, s3, s4⟩ := hSw; go_simp; try with_reducible rfl)
    simp only [Act.put, List.getElem_toArray, List.getElem_cons_succ, List.getElem_cons_zero, List.setIfInBounds_toArray, List.set_cons_zero, List.set_cons_succ]
    refine wpAnyH_ready (rs := [22]) (by kernel_rfl) (by simp) ?_
    refine AllReadyH.cons rfl (fun K hK => ?_) AllReadyH.nil
    go_simp
    have hq := (hG3 (.int .u64 N)).bx
    have q0 := hq.cell 0
    have q1 := hq.cell 1
    have q2 := hq.cell 2
    have q3 := hq.cell 3
    simp only [List.getElem?_toArray, List.getElem?_cons_zero, List.getElem?_cons_succ] at q0 q1 q2 q3
    refine hK _ _ ⟨q0, q1, q2, q3, hl3 _⟩ (fun hHeld => ?_)
    clear hK K hq q0 q1 q2 q3
    simp only [Act.put, List.getElem_toArray, List.getElem_cons_succ, List.getElem_cons_zero, List.setIfInBounds_toArray, List.set_cons_zero, List.set_cons_succ]
    refine wpAnyH_done (by kernel_rfl) ?_ _
    have hF2 := hGH.out.set (9 + k) (.int .u64 N)
    rw [hp] at hF2
    generalize World.setCell _ _ _ = W3 at *
    clear hGH y9 z9
    have hw3 : Whole 30 A2.size := by rw [hs3]; exact whole30
    have hwc : Whole 36 zC.size := whole36
    have hf3 : zG.size = A2.size := hs3.symm
    have hbg := hF2.bg
    have hbr := hF2.br
    have hbc := hF2.bc
    have hbl := hF2.bl
    have hzc1 : zC.all (·.oneCell') = true := by simp [Value.oneCell']
    go_wp2_with (first
      | (refine wpList_load_blk hbg hw3 rfl _ rfl rfl ?_)
      | (refine wpList_store_blk hbr hw3 hf3 hs4 rfl _ _ rfl rfl rfl ?_; intro w3 hB4 hC4; replace hbc := hbc.chg hC4 (by simp))
      | (refine wpList_store_blk hbc hwc rfl hzc1 rfl _ _ rfl rfl rfl ?_; intro w4 hB5 hC5))
    refine bodyPost_ret (done_res (by simp [Act.put]) (by simp [Act.put]) (by simp [Act.put]) (hB4.chg hC5 (by simp)) hw3 hB5 hwc) rfl ⟨rfl, ?_⟩
    have hz := hbl.size
    exact (hbl.trans (hC4.below (by simp; omega) hz)).trans (hC5.below (by simp; omega) (Nat.le_trans hz hC4.size))
set_option maxHeartbeats 4000000 in
set_option maxRecDepth 100000 in
theorem done_2x (V : Value) (m : Nat) (a b c : Int) (g : Gr) (hg : g.ok) (a0 : 0 ≤ a) (a1 : a < 8) (b0 : 0 ≤ b) (b1 : b < 8) (c0 : 0 ≤ c) (c1 : c < 8) (N : Int) (hop : ∀ w, Calls Try.prog 20 #[.int .u64 (g.next.r b.toNat), .int .u64 (g.next.r c.toNat)] w fun e w' => e = .returned (.tuple #[.int .u64 N, .bool false]) ∧ Below w.heap.size w w') (w : World) (hfn : FnsAt w m) : Calls Try.prog 18 #[.map (some m), V, .agg #[.int .u8 2, .int .u8 a, .int .u8 b, .int .u8 c], g.val] w fun e w' => e = panicOf 6 ∧ Below w.heap.size w w' := by
  have hA : g.arr.setIfInBounds 8 (.int .i64 (g.pc + 1)) = g.next.arr := rfl
  have h8 : g.arr[8]? = some (.int .i64 g.pc) := rfl
  have hs := g.next.size
  have hs2 := g.next.one
  have e1 : wrap64 (g.pc + 1) = g.pc + 1 := IntWalk.wrap64_in _ (by have := hg.p0; have := hg.p1; omega)
  obtain ⟨k, rfl⟩ : ∃ k : Nat, a = (k : Int) := ⟨a.toNat, by omega⟩
  have hp := g.next.put_cell k (by omega) N
  have ht : (k : Int).toNat = k := by omega
  have hs3 := (g.next.put k N).size
  have hs4 := (g.next.put k N).one
  have hk9 : g.next.arr[9 + k]? = some (.int .u64 (g.next.r k)) := g.next.get_cell k (by omega)
  generalize g.next.r k = rk at *
  obtain ⟨i, rfl⟩ : ∃ i : Nat, b = (i : Int) := ⟨b.toNat, by omega⟩
  obtain ⟨j, rfl⟩ : ∃ j : Nat, c = (j : Int) := ⟨c.toNat, by omega⟩
  rw [show (i : Int).toNat = i by omega, show (j : Int).toNat = j by omega] at hop
  have hi9 : g.next.arr[9 + i]? = some (.int .u64 (g.next.r i)) := g.next.get_cell i (by omega)
  have hj9 : g.next.arr[9 + j]? = some (.int .u64 (g.next.r j)) := g.next.get_cell j (by omega)
  generalize g.next.r i = ri at *
  generalize g.next.r j = rj at *
  unfold Gr.val
  generalize g.pc = pc at *
  generalize hga : g.arr = A at *
  generalize hgb : g.next.arr = A1 at *
  generalize hgc : (g.next.put k N).arr = A2 at *
  obtain ⟨W, hW⟩ : ∃ W, W = frame0 w #[.int .u8 2, .int .u8 k, .int .u8 i, .int .u8 j] A := ⟨_, rfl⟩
  have hF : DoneAt w W #[.int .u8 2, .int .u8 k, .int .u8 i, .int .u8 j] A := by rw [hW]; exact doneAt_new w _ _
  have c8 := (hF.bg.cell 8).trans h8
  have f8 := hF.bg.frozen 8
  have hF1 := hF.set 8 (.int .i64 (pc + 1))
  rw [hA] at hF1
  go_enter Try.func18, Try.ntmps18
  go_upto_region 1 with (fail)
  unfold frame0 at hW
  rw [← hW]
  clear hW hF
  go_upto_region 2 with (fail)
  generalize W.setCell _ _ = W1 at *
  clear c8 f8
  have x0 := hF1.bx.cell 0
  have x1 := hF1.bx.cell 1
  have x2 := hF1.bx.cell 2
  have x3 := hF1.bx.cell 3
  simp only [List.getElem?_toArray, List.getElem?_cons_zero, List.getElem?_cons_succ] at x0 x1 x2 x3
  have y9 := (hF1.bg.cell (9 + k)).trans hk9
  have yi := (hF1.bg.cell (9 + i)).trans hi9
  have yj := (hF1.bg.cell (9 + j)).trans hj9
  have z9 := hF1.bg.frozen (9 + k)
  have hf1 : FnsAt W1 m := hfn.below hF1.bl
  have hml := hfn.lt
  have hl1 := hf1.look 2 20 rfl
  have hl1d := (show FnsAt W1.drew m from hf1.below (below_drew (Below.refl _ _))).look 2 20 rfl
  have hopH := Lib.hid hop
  have hFH := Lib.hid hF1
  have hfH := Lib.hid hf1
  clear hop hF1 hf1 hga hgb hgc hA h8 hfn
  go_upto_region 10 with (fail)
  refine wp_region_held_drew (S := (fun w' => w'.cell? ⟨w.heap.size, 0, none⟩ = some (.int .u8 2) ∧ w'.cell? ⟨w.heap.size, 1, none⟩ = some (.int .u8 k) ∧ w'.cell? ⟨w.heap.size, 2, none⟩ = some (.int .u8 i) ∧ w'.cell? ⟨w.heap.size, 3, none⟩ = some (.int .u8 j) ∧ (Instr.lookup 50 (.map (some m)) (.int .u8 2) false).run Try.prog w' = .ok (fnV 20) w')) (by kernel_rfl) ⟨x0, x1, x2, x3, hl1d⟩ (fun hHeld => ?_)
  simp only [List.setIfInBounds_toArray, List.size_toArray, List.length_cons, List.length_nil, Array.replicate]
  refine wpAnyH_take (i := 0) (v := ?_) rfl (by kernel_rfl) (by kernel_rfl) (by kernel_rfl) (fun _ _ _ h => h) (Or.inl ⟨by rfl, ?_⟩) hHeld ?_
  rotate_left
  · (intro w' hSw; obtain ⟨s0, s1, s2, s3, s4⟩ := hSw; go_simp; try with_reducible rfl)
  simp only [Act.put, List.getElem_toArray, List.getElem_cons_succ, List.getElem_cons_zero, List.setIfInBounds_toArray, List.set_cons_zero, List.set_cons_succ]
  refine wpAnyH_take (i := 1) (v := ?_) rfl (by kernel_rfl) (by kernel_rfl) (by kernel_rfl) (fun _ _ _ h => h) (Or.inl ⟨by rfl, ?_⟩) hHeld ?_
  rotate_left
  · (intro w' hSw; obtain ⟨s0, s1, s2, s3, s4⟩ := hSw; go_simp; try with_reducible rfl)
  simp only [Act.put, List.getElem_toArray, List.getElem_cons_succ, List.getElem_cons_zero, List.setIfInBounds_toArray, List.set_cons_zero, List.set_cons_succ]
  refine wpAnyH_take (i := 2) (v := ?_) rfl (by kernel_rfl) (by kernel_rfl) (by kernel_rfl) (fun _ _ _ h => h) (Or.inl ⟨by rfl, ?_⟩) hHeld ?_
  rotate_left
  · (intro w' hSw; obtain ⟨s0, s1, s2, s3, s4⟩ := hSw; go_simp; try with_reducible rfl)
  simp only [Act.put, List.getElem_toArray, List.getElem_cons_succ, List.getElem_cons_zero, List.setIfInBounds_toArray, List.set_cons_zero, List.set_cons_succ]
  refine wpAnyH_take (i := 3) (v := ?_) rfl (by kernel_rfl) (by kernel_rfl) (by kernel_rfl) (fun _ _ _ h => h) (Or.inl ⟨by rfl, ?_⟩) hHeld ?_
  rotate_left
  · (intro w' hSw; obtain ⟨s0, s1, s2, s3, s4⟩ := hSw; go_simp; try with_reducible rfl)
  simp only [Act.put, List.getElem_toArray, List.getElem_cons_succ, List.getElem_cons_zero, List.setIfInBounds_toArray, List.set_cons_zero, List.set_cons_succ]
  refine wpAnyH_take (i := 4) (v := ?_) rfl (by kernel_rfl) (by kernel_rfl) (by kernel_rfl) (fun _ _ _ h => h) (Or.inl ⟨by rfl, ?_⟩) hHeld ?_
  rotate_left
  · (intro w' hSw; obtain ⟨s0, s1, s2, s3, s4⟩ := hSw; go_simp; try with_reducible rfl)
  simp only [Act.put, List.getElem_toArray, List.getElem_cons_succ, List.getElem_cons_zero, List.setIfInBounds_toArray, List.set_cons_zero, List.set_cons_succ]
  refine wpAnyH_take (i := 5) (v := ?_) rfl (by kernel_rfl) (by kernel_rfl) (by kernel_rfl) (fun _ _ _ h => h) (Or.inl ⟨by rfl, ?_⟩) hHeld ?_
  rotate_left
  · (intro w' hSw; obtain ⟨s0, s1, s2, s3, s4⟩ := hSw; go_simp; try with_reducible rfl)
  simp only [Act.put, List.getElem_toArray, List.getElem_cons_succ, List.getElem_cons_zero, List.setIfInBounds_toArray, List.set_cons_zero, List.set_cons_succ]
  refine wpAnyH_take (i := 6) (v := ?_) rfl (by kernel_rfl) (by kernel_rfl) (by kernel_rfl) (fun _ _ _ h => h) (Or.inl ⟨by rfl, ?_⟩) hHeld ?_
  rotate_left
  · (intro w' hSw; obtain ⟨s0, s1, s2, s3, s4⟩ := hSw; go_simp; try with_reducible rfl)
  simp only [Act.put, List.getElem_toArray, List.getElem_cons_succ, List.getElem_cons_zero, List.setIfInBounds_toArray, List.set_cons_zero, List.set_cons_succ]
  refine wpAnyH_take (i := 7) (v := ?_) rfl (by kernel_rfl) (by kernel_rfl) (by kernel_rfl) (fun _ _ _ h => h) (Or.inl ⟨by rfl, ?_⟩) hHeld ?_
  rotate_left
  · (intro w' hSw; obtain ⟨s0, s1, s2, s3, s4⟩ := hSw; go_simp; try with_reducible rfl)
  simp only [Act.put, List.getElem_toArray, List.getElem_cons_succ, List.getElem_cons_zero, List.setIfInBounds_toArray, List.set_cons_zero, List.set_cons_succ]
  refine wpAnyH_take (i := 8) (v := ?_) rfl (by kernel_rfl) (by kernel_rfl) (by kernel_rfl) (fun _ _ _ h => h) (Or.inl ⟨by rfl, ?_⟩) hHeld ?_
  rotate_left
  · (intro w' hSw; obtain ⟨s0, s1, s2, s3, s4⟩ := hSw; go_simp; try with_reducible rfl)
  simp only [Act.put, List.getElem_toArray, List.getElem_cons_succ, List.getElem_cons_zero, List.setIfInBounds_toArray, List.set_cons_zero, List.set_cons_succ]
  refine wpAnyH_take (i := 9) (v := ?_) rfl (by kernel_rfl) (by kernel_rfl) (by kernel_rfl) (fun _ _ _ h => h) (Or.inl ⟨by rfl, ?_⟩) hHeld ?_
  rotate_left
  · (intro w' hSw; obtain ⟨s0, s1, s2, s3, s4⟩ := hSw; go_simp; try with_reducible rfl)
  simp only [Act.put, List.getElem_toArray, List.getElem_cons_succ, List.getElem_cons_zero, List.setIfInBounds_toArray, List.set_cons_zero, List.set_cons_succ]
  refine wpAnyH_take (i := 11) (v := ?_) rfl (by kernel_rfl) (by kernel_rfl) (by kernel_rfl) (fun _ _ _ h => h) (Or.inl ⟨by rfl, ?_⟩) hHeld ?_
  rotate_left
  · (intro w' hSw; obtain ⟨s0, s1, s2, s3, s4⟩ := hSw; go_simp; try with_reducible rfl)
  simp only [Act.put, List.getElem_toArray, List.getElem_cons_succ, List.getElem_cons_zero, List.setIfInBounds_toArray, List.set_cons_zero, List.set_cons_succ]
  refine wpAnyH_take (i := 12) (v := ?_) rfl (by kernel_rfl) (by kernel_rfl) (by kernel_rfl) (fun _ _ _ h => h) (Or.inl ⟨by rfl, ?_⟩) hHeld ?_
  rotate_left
  · (intro w' hSw; obtain ⟨s0, s1, s2, s3, s4⟩ := hSw; go_simp; try with_reducible rfl)
  simp only [Act.put, List.getElem_toArray, List.getElem_cons_succ, List.getElem_cons_zero, List.setIfInBounds_toArray, List.set_cons_zero, List.set_cons_succ]
  refine wpAnyH_take (i := 13) (v := ?_) rfl (by kernel_rfl) (by kernel_rfl) (by kernel_rfl) (fun _ _ _ h => h) (Or.inl ⟨by rfl, ?_⟩) hHeld ?_
  rotate_left
  · (intro w' hSw; obtain ⟨s0, s1, s2, s3, s4⟩ := hSw; go_simp; try with_reducible rfl)
  simp only [Act.put, List.getElem_toArray, List.getElem_cons_succ, List.getElem_cons_zero, List.setIfInBounds_toArray, List.set_cons_zero, List.set_cons_succ]
  refine wpAnyH_take (i := 14) (v := ?_) rfl (by kernel_rfl) (by kernel_rfl) (by kernel_rfl) (fun _ _ _ h => h) (Or.inl ⟨by rfl, ?_⟩) hHeld ?_
  rotate_left
  · (intro w' hSw; obtain ⟨s0, s1, s2, s3, s4⟩ := hSw; go_simp; try with_reducible rfl)
  simp only [Act.put, List.getElem_toArray, List.getElem_cons_succ, List.getElem_cons_zero, List.setIfInBounds_toArray, List.set_cons_zero, List.set_cons_succ]
  refine wpAnyH_take (i := 20) (v := ?_) rfl (by kernel_rfl) (by kernel_rfl) (by kernel_rfl) (fun _ _ _ h => h) (Or.inl ⟨by rfl, ?_⟩) hHeld ?_
  rotate_left
  · (intro w' hSw; obtain ⟨s0, s1, s2, s3, s4⟩ := hSw; go_simp; try with_reducible rfl)
  simp only [Act.put, List.getElem_toArray, List.getElem_cons_succ, List.getElem_cons_zero, List.setIfInBounds_toArray, List.set_cons_zero, List.set_cons_succ]
  refine wpAnyH_ready (rs := [10, 15]) (by kernel_rfl) (by simp) ?_
  refine AllReadyH.cons rfl (fun K hK => ?_) (AllReadyH.cons rfl (fun K hK => ?_) AllReadyH.nil)
  · go_simp
    refine hK _ _ ⟨x0, x1, x2, x3, hl1d⟩ (fun hHeld => ?_)
    clear hK K
    simp only [Act.put, List.getElem_toArray, List.getElem_cons_succ, List.getElem_cons_zero, List.setIfInBounds_toArray, List.set_cons_zero, List.set_cons_succ]
    refine wpAnyH_ready (rs := [15]) (by kernel_rfl) (by simp) ?_
    refine AllReadyH.cons rfl (fun K hK => ?_) AllReadyH.nil
    go_simp
    refine hK _ _ ⟨x0, x1, x2, x3, hl1d⟩ (fun hHeld => ?_)
    clear hK K
    simp only [Act.put, List.getElem_toArray, List.getElem_cons_succ, List.getElem_cons_zero, List.setIfInBounds_toArray, List.set_cons_zero, List.set_cons_succ]
    refine wpAnyH_ready (rs := [16]) (by kernel_rfl) (by simp) ?_
    refine AllReadyH.cons rfl (fun K hK => ?_) AllReadyH.nil
    go_simp
    refine (hopH.out _).mono ?_
    rintro e w2 ⟨rfl, hb2⟩
    have hG := (hFH.out.drew).below hb2
    have y9 := (hG.bg.cell (9 + k)).trans hk9
    have z9 := hG.bg.frozen (9 + k)
    have x0 := hG.bx.cell 0
    have x1 := hG.bx.cell 1
    have x2 := hG.bx.cell 2
    have x3 := hG.bx.cell 3
    simp only [List.getElem?_toArray, List.getElem?_cons_zero, List.getElem?_cons_succ] at x0 x1 x2 x3
    have hf2 : FnsAt w2 m := (show FnsAt W1.drew m from hfH.out.below (below_drew (Below.refl _ _))).below hb2
    have hl2 := hf2.look 2 20 rfl
    have hl3 := fun v => (hf2.chg (b := w.heap.size + 1) ((Chg.refl [w.heap.size + 1] w2).setCell (p := ⟨w.heap.size + 1, 9 + k, none⟩) (.inl (by simp)) v) (by omega)).look 2 20 rfl
    have hG3 := fun v => hG.set (9 + k) v
    have hGH := Lib.hid hG
    clear hG hf2
    refine hK _ _ ⟨x0, x1, x2, x3, hl2⟩ (fun hHeld => ?_)
    clear hK K
    simp only [Act.put, List.getElem_toArray, List.getElem_cons_succ, List.getElem_cons_zero, List.setIfInBounds_toArray, List.set_cons_zero, List.set_cons_succ]
    refine wpAnyH_take (i := 17) (v := ?_) rfl (by kernel_rfl) (by kernel_rfl) (by kernel_rfl) (fun _ _ _ h => h) (Or.inl ⟨by rfl, ?_⟩) hHeld ?_
    rotate_left
    · (intro w' hSw; obtain ⟨s0, s1, s2, s3, s4⟩ := hSw; go_simp; try with_reducible rfl)
    simp only [Act.put, List.getElem_toArray, List.getElem_cons_succ, List.getElem_cons_zero, List.setIfInBounds_toArray, List.set_cons_zero, List.set_cons_succ]
    refine wpAnyH_take (i := 18) (v := ?_) rfl (by kernel_rfl) (by kernel_rfl) (by kernel_rfl) (fun _ _ _ h => h) (Or.inl ⟨by rfl, ?_⟩) hHeld ?_
    rotate_left
    · (intro w' hSw; obtain ⟨s0, s1, s2, s3, s4⟩ := hSw; go_simp; try with_reducible rfl)
    simp only [Act.put, List.getElem_toArray, List.getElem_cons_succ, List.getElem_cons_zero, List.setIfInBounds_toArray, List.set_cons_zero, List.set_cons_succ]
    refine wpAnyH_ready (rs := [19]) (by kernel_rfl) (by simp) ?_
    refine AllReadyH.cons rfl (fun K hK => ?_) AllReadyH.nil
    go_simp
    refine (fitting_bad _ _).mono ?_
    rintro e w4 ⟨rfl, rfl⟩
    exact ⟨rfl, rfl, hGH.out.bl⟩
  · go_simp
    refine hK _ _ ⟨x0, x1, x2, x3, hl1d⟩ (fun hHeld => ?_)
    clear hK K
    simp only [Act.put, List.getElem_toArray, List.getElem_cons_succ, List.getElem_cons_zero, List.setIfInBounds_toArray, List.set_cons_zero, List.set_cons_succ]
    refine wpAnyH_ready (rs := [10]) (by kernel_rfl) (by simp) ?_
    refine AllReadyH.cons rfl (fun K hK => ?_) AllReadyH.nil
    go_simp
    refine hK _ _ ⟨x0, x1, x2, x3, hl1d⟩ (fun hHeld => ?_)
    clear hK K
    simp only [Act.put, List.getElem_toArray, List.getElem_cons_succ, List.getElem_cons_zero, List.setIfInBounds_toArray, List.set_cons_zero, List.set_cons_succ]
    refine wpAnyH_ready (rs := [16]) (by kernel_rfl) (by simp) ?_
    refine AllReadyH.cons rfl (fun K hK => ?_) AllReadyH.nil
    go_simp
    refine (hopH.out _).mono ?_
    rintro e w2 ⟨rfl, hb2⟩
    have hG := (hFH.out.drew).below hb2
    have y9 := (hG.bg.cell (9 + k)).trans hk9
    have z9 := hG.bg.frozen (9 + k)
    have x0 := hG.bx.cell 0
    have x1 := hG.bx.cell 1
    have x2 := hG.bx.cell 2
    have x3 := hG.bx.cell 3
    simp only [List.getElem?_toArray, List.getElem?_cons_zero, List.getElem?_cons_succ] at x0 x1 x2 x3
    have hf2 : FnsAt w2 m := (show FnsAt W1.drew m from hfH.out.below (below_drew (Below.refl _ _))).below hb2
    have hl2 := hf2.look 2 20 rfl
    have hl3 := fun v => (hf2.chg (b := w.heap.size + 1) ((Chg.refl [w.heap.size + 1] w2).setCell (p := ⟨w.heap.size + 1, 9 + k, none⟩) (.inl (by simp)) v) (by omega)).look 2 20 rfl
    have hG3 := fun v => hG.set (9 + k) v
    have hGH := Lib.hid hG
    clear hG hf2
    refine hK _ _ ⟨x0, x1, x2, x3, hl2⟩ (fun hHeld => ?_)
    clear hK K
    simp only [Act.put, List.getElem_toArray, List.getElem_cons_succ, List.getElem_cons_zero, List.setIfInBounds_toArray, List.set_cons_zero, List.set_cons_succ]
    refine wpAnyH_take (i := 17) (v := ?_) rfl (by kernel_rfl) (by kernel_rfl) (by kernel_rfl) (fun _ _ _ h => h) (Or.inl ⟨by rfl, ?_⟩) hHeld ?_
    rotate_left
    · (intro w' hSw; obtain ⟨s0, s1, s2, s3, s4⟩ := hSw; go_simp; try with_reducible rfl)
    simp only [Act.put, List.getElem_toArray, List.getElem_cons_succ, List.getElem_cons_zero, List.setIfInBounds_toArray, List.set_cons_zero, List.set_cons_succ]
    refine wpAnyH_take (i := 18) (v := ?_) rfl (by kernel_rfl) (by kernel_rfl) (by kernel_rfl) (fun _ _ _ h => h) (Or.inl ⟨by rfl, ?_⟩) hHeld ?_
    rotate_left
    · (intro w' hSw; obtain ⟨s0, s1, s2, s3, s4⟩ := hSw; go_simp; try with_reducible rfl)
    simp only [Act.put, List.getElem_toArray, List.getElem_cons_succ, List.getElem_cons_zero, List.setIfInBounds_toArray, List.set_cons_zero, List.set_cons_succ]
    refine wpAnyH_ready (rs := [19]) (by kernel_rfl) (by simp) ?_
    refine AllReadyH.cons rfl (fun K hK => ?_) AllReadyH.nil
    go_simp
    refine (fitting_bad _ _).mono ?_
    rintro e w4 ⟨rfl, rfl⟩
    exact ⟨rfl, rfl, hGH.out.bl⟩
end Go.Proofs
end
section
namespace Go.Proofs
open Go.RowKit
set_option linter.unusedVariables false
set_option linter.unusedSimpArgs false

set_option maxHeartbeats 4000000 in
set_option maxRecDepth 100000 in
theorem done_3 (V : Value) (m : Nat) (a b c : Int) (g : Gr) (hg : g.ok) (a0 : 0 ≤ a) (a1 : a < 8) (b0 : 0 ≤ b) (b1 : b < 8) (c0 : 0 ≤ c) (c1 : c < 8) (N : Int) (hop : ∀ w, Calls Try.prog 21 #[.int .u64 (g.next.r b.toNat), .int .u64 (g.next.r c.toNat)] w fun e w' => e = .returned (.tuple #[.int .u64 N, .bool true]) ∧ Below w.heap.size w w') (w : World) (hfn : FnsAt w m) : Calls Try.prog 18 #[.map (some m), V, .agg #[.int .u8 3, .int .u8 a, .int .u8 b, .int .u8 c], g.val] w fun e w' => e = .returned (.tuple #[(g.next.put a.toNat N).val, Cl.zero.val, .int .i64 1]) ∧ Below w.heap.size w w' := by
  have hA : g.arr.setIfInBounds 8 (.int .i64 (g.pc + 1)) = g.next.arr := rfl
  have h8 : g.arr[8]? = some (.int .i64 g.pc) := rfl
  have hs := g.next.size
  have hs2 := g.next.one
  have e1 : wrap64 (g.pc + 1) = g.pc + 1 := IntWalk.wrap64_in _ (by have := hg.p0; have := hg.p1; omega)
  obtain ⟨k, rfl⟩ : ∃ k : Nat, a = (k : Int) := ⟨a.toNat, by omega⟩
  have hp := g.next.put_cell k (by omega) N
  have ht : (k : Int).toNat = k := by omega
  rw [ht]
  have hs3 := (g.next.put k N).size
  have hs4 := (g.next.put k N).one
  have hk9 : g.next.arr[9 + k]? = some (.int .u64 (g.next.r k)) := g.next.get_cell k (by omega)
  generalize g.next.r k = rk at *
  obtain ⟨i, rfl⟩ : ∃ i : Nat, b = (i : Int) := ⟨b.toNat, by omega⟩
  obtain ⟨j, rfl⟩ : ∃ j : Nat, c = (j : Int) := ⟨c.toNat, by omega⟩
  rw [show (i : Int).toNat = i by omega, show (j : Int).toNat = j by omega] at hop
  have hi9 : g.next.arr[9 + i]? = some (.int .u64 (g.next.r i)) := g.next.get_cell i (by omega)
  have hj9 : g.next.arr[9 + j]? = some (.int .u64 (g.next.r j)) := g.next.get_cell j (by omega)
  generalize g.next.r i = ri at *
  generalize g.next.r j = rj at *
  unfold Gr.val Cl.val
  rw [Cl.zero_arr]
  generalize g.pc = pc at *
  generalize hga : g.arr = A at *
  generalize hgb : g.next.arr = A1 at *
  generalize hgc : (g.next.put k N).arr = A2 at *
  obtain ⟨W, hW⟩ : ∃ W, W = frame0 w #[.int .u8 3, .int .u8 k, .int .u8 i, .int .u8 j] A := ⟨_, rfl⟩
  have hF : DoneAt w W #[.int .u8 3, .int .u8 k, .int .u8 i, .int .u8 j] A := by rw [hW]; exact doneAt_new w _ _
  have c8 := (hF.bg.cell 8).trans h8
  have f8 := hF.bg.frozen 8
  have hF1 := hF.set 8 (.int .i64 (pc + 1))
  rw [hA] at hF1
  go_enter Try.func18, Try.ntmps18
  go_upto_region 1 with (fail)
  unfold frame0 at hW
  rw [← hW]
  clear hW hF
  go_upto_region 2 with (fail)
  generalize W.setCell _ _ = W1 at *
  clear c8 f8
  have x0 := hF1.bx.cell 0
  have x1 := hF1.bx.cell 1
  have x2 := hF1.bx.cell 2
  have x3 := hF1.bx.cell 3
  simp only [List.getElem?_toArray, List.getElem?_cons_zero, List.getElem?_cons_succ] at x0 x1 x2 x3
  have y9 := (hF1.bg.cell (9 + k)).trans hk9
  have yi := (hF1.bg.cell (9 + i)).trans hi9
  have yj := (hF1.bg.cell (9 + j)).trans hj9
  have z9 := hF1.bg.frozen (9 + k)
  have hf1 : FnsAt W1 m := hfn.below hF1.bl
  have hml := hfn.lt
  have hl1 := hf1.look 3 21 rfl
  have hl1d := (show FnsAt W1.drew m from hf1.below (below_drew (Below.refl _ _))).look 3 21 rfl
  have hopH := Lib.hid hop
  have hFH := Lib.hid hF1
  have hfH := Lib.hid hf1
  clear hop hF1 hf1 hga hgb hgc hA h8 hfn
  go_upto_region 10 with (fail)
  refine wp_region_held_drew (S := (fun w' => w'.cell? ⟨w.heap.size, 0, none⟩ = some (.int .u8 3) ∧ w'.cell? ⟨w.heap.size, 1, none⟩ = some (.int .u8 k) ∧ w'.cell? ⟨w.heap.size, 2, none⟩ = some (.int .u8 i) ∧ w'.cell? ⟨w.heap.size, 3, none⟩ = some (.int .u8 j) ∧ (Instr.lookup 50 (.map (some m)) (.int .u8 3) false).run Try.prog w' = .ok (fnV 21) w')) (by kernel_rfl) ⟨x0, x1, x2, x3, hl1d⟩ (fun hHeld => ?_)
  simp only [List.setIfInBounds_toArray, List.size_toArray, List.length_cons, List.length_nil, Array.replicate]
  refine wpAnyH_take (i := 0) (v := ?_) rfl (by kernel_rfl) (by kernel_rfl) (by kernel_rfl) (fun _ _ _ h => h) (Or.inl ⟨by rfl, ?_⟩) hHeld ?_
  rotate_left
  · (intro w' hSw; obtain ⟨s0, s1, s2, s3, s4⟩ := hSw; go_simp; try with_reducible rfl)
  simp only [Act.put, List.getElem_toArray, List.getElem_cons_succ, List.getElem_cons_zero, List.setIfInBounds_toArray, List.set_cons_zero, List.set_cons_succ]
  refine wpAnyH_take (i := 1) (v := ?_) rfl (by kernel_rfl) (by kernel_rfl) (by kernel_rfl) (fun _ _ _ h => h) (Or.inl ⟨by rfl, ?_⟩) hHeld ?_
  rotate_left
  · (intro w' hSw; obtain ⟨s0, s1, s2, s3, s4⟩ := hSw; go_simp; try with_reducible rfl)
  simp only [Act.put, List.getElem_toArray, List.getElem_cons_succ, List.getElem_cons_zero, List.setIfInBounds_toArray, List.set_cons_zero, List.set_cons_succ]
  refine wpAnyH_take (i := 2) (v := ?_) rfl (by kernel_rfl) (by kernel_rfl) (by kernel_rfl) (fun _ _ _ h => h) (Or.inl ⟨by rfl, ?_⟩) hHeld ?_
  rotate_left
  · (intro w' hSw; obtain ⟨s0, s1, s2, s3, s4⟩ := hSw; go_simp; try with_reducible rfl)
  simp only [Act.put, List.getElem_toArray, List.getElem_cons_succ, List.getElem_cons_zero, List.setIfInBounds_toArray, List.set_cons_zero, List.set_cons_succ]
  refine wpAnyH_take (i := 3) (v := ?_) rfl (by kernel_rfl) (by kernel_rfl) (by kernel_rfl) (fun _ _ _ h => h) (Or.inl ⟨by rfl, ?_⟩) hHeld ?_
  rotate_left
  · (intro w' hSw; obtain ⟨s0, s1, s2, s3, s4⟩ := hSw; go_simp; try with_reducible rfl)
  simp only [Act.put, List.getElem_toArray, List.getElem_cons_succ, List.getElem_cons_zero, List.setIfInBounds_toArray, List.set_cons_zero, List.set_cons_succ]
  refine wpAnyH_take (i := 4) (v := ?_) rfl (by kernel_rfl) (by kernel_rfl) (by kernel_rfl) (fun _ _ _ h => h) (Or.inl ⟨by rfl, ?_⟩) hHeld ?_
  rotate_left
  · (intro w' hSw; obtain ⟨s0, s1, s2, s3, s4⟩ := hSw; go_simp; try with_reducible rfl)
  simp only [Act.put, List.getElem_toArray, List.getElem_cons_succ, List.getElem_cons_zero, List.setIfInBounds_toArray, List.set_cons_zero, List.set_cons_succ]
  refine wpAnyH_take (i := 5) (v := ?_) rfl (by kernel_rfl) (by kernel_rfl) (by kernel_rfl) (fun _ _ _ h => h) (Or.inl ⟨by rfl, ?_⟩) hHeld ?_
  rotate_left
  · (intro w' hSw; obtain ⟨s0, s1, s2, s3, s4⟩ := hSw; go_simp; try with_reducible rfl)
  simp only [Act.put, List.getElem_toArray, List.getElem_cons_succ, List.getElem_cons_zero, List.setIfInBounds_toArray, List.set_cons_zero, List.set_cons_succ]
  refine wpAnyH_take (i := 6) (v := ?_) rfl (by kernel_rfl) (by kernel_rfl) (by kernel_rfl) (fun _ _ _ h => h) (Or.inl ⟨by rfl, ?_⟩) hHeld ?_
  rotate_left
  · (intro w' hSw; obtain ⟨s0, s1, s2, s3, s4⟩ := hSw; go_simp; try with_reducible rfl)
  simp only [Act.put, List.getElem_toArray, List.getElem_cons_succ, List.getElem_cons_zero, List.setIfInBounds_toArray, List.set_cons_zero, List.set_cons_succ]
  refine wpAnyH_take (i := 7) (v := ?_) rfl (by kernel_rfl) (by kernel_rfl) (by kernel_rfl) (fun _ _ _ h => h) (Or.inl ⟨by rfl, ?_⟩) hHeld ?_
  rotate_left
  · (intro w' hSw; obtain ⟨s0, s1, s2, s3, s4⟩ := hSw; go_simp; try with_reducible rfl)
  simp only [Act.put, List.getElem_toArray, List.getElem_cons_succ, List.getElem_cons_zero, List.setIfInBounds_toArray, List.set_cons_zero, List.set_cons_succ]
  refine wpAnyH_take (i := 8) (v := ?_) rfl (by kernel_rfl) (by kernel_rfl) (by kernel_rfl) (fun _ _ _ h => h) (Or.inl ⟨by rfl, ?_⟩) hHeld ?_
  rotate_left
  · (intro w' hSw; obtain ⟨s0, s1, s2, s3, s4⟩ := hSw; go_simp; try with_reducible rfl)
  simp only [Act.put, List.getElem_toArray, List.getElem_cons_succ, List.getElem_cons_zero, List.setIfInBounds_toArray, List.set_cons_zero, List.set_cons_succ]
  refine wpAnyH_take (i := 9) (v := ?_) rfl (by kernel_rfl) (by kernel_rfl) (by kernel_rfl) (fun _ _ _ h => h) (Or.inl ⟨by rfl, ?_⟩) hHeld ?_
  rotate_left
  · (intro w' hSw; obtain ⟨s0, s1, s2, s3, s4⟩ := hSw; go_simp; try with_reducible rfl)
  simp only [Act.put, List.getElem_toArray, List.getElem_cons_succ, List.getElem_cons_zero, List.setIfInBounds_toArray, List.set_cons_zero, List.set_cons_succ]
  refine wpAnyH_take (i := 11) (v := ?_) rfl (by kernel_rfl) (by kernel_rfl) (by kernel_rfl) (fun _ _ _ h => h) (Or.inl ⟨by rfl, ?_⟩) hHeld ?_
  rotate_left
  · (intro w' hSw; obtain ⟨s0, s1, s2, s3, s4⟩ := hSw; go_simp; try with_reducible rfl)
  simp only [Act.put, List.getElem_toArray, List.getElem_cons_succ, List.getElem_cons_zero, List.setIfInBounds_toArray, List.set_cons_zero, List.set_cons_succ]
  refine wpAnyH_take (i := 12) (v := ?_) rfl (by kernel_rfl) (by kernel_rfl) (by kernel_rfl) (fun _ _ _ h => h) (Or.inl ⟨by rfl, ?_⟩) hHeld ?_
  rotate_left
  · (intro w' hSw; obtain ⟨s0, s1, s2, s3, s4⟩ := hSw; go_simp; try with_reducible rfl)
  simp only [Act.put, List.getElem_toArray, List.getElem_cons_succ, List.getElem_cons_zero, List.setIfInBounds_toArray, List.set_cons_zero, List.set_cons_succ]
  refine wpAnyH_take (i := 13) (v := ?_) rfl (by kernel_rfl) (by kernel_rfl) (by kernel_rfl) (fun _ _ _ h => h) (Or.inl ⟨by rfl, ?_⟩) hHeld ?_
  rotate_left
  · (intro w' hSw; obtain ⟨s0, s1, s2, s3, s4⟩ := hSw; go_simp; try with_reducible rfl)
  simp only [Act.put, List.getElem_toArray, List.getElem_cons_succ, List.getElem_cons_zero, List.setIfInBounds_toArray, List.set_cons_zero, List.set_cons_succ]
  refine wpAnyH_take (i := 14) (v := ?_) rfl (by kernel_rfl) (by kernel_rfl) (by kernel_rfl) (fun _ _ _ h => h) (Or.inl ⟨by rfl, ?_⟩) hHeld ?_
  rotate_left
  · (intro w' hSw; obtain ⟨s0, s1, s2, s3, s4⟩ := hSw; go_simp; try with_reducible rfl)
  simp only [Act.put, List.getElem_toArray, List.getElem_cons_succ, List.getElem_cons_zero, List.setIfInBounds_toArray, List.set_cons_zero, List.set_cons_succ]
  refine wpAnyH_take (i := 20) (v := ?_) rfl (by kernel_rfl) (by kernel_rfl) (by kernel_rfl) (fun _ _ _ h => h) (Or.inl ⟨by rfl, ?_⟩) hHeld ?_
  rotate_left
  · (intro w' hSw; obtain ⟨s0, s1, s2, s3, s4⟩ := hSw; go_simp; try with_reducible rfl)
  simp only [Act.put, List.getElem_toArray, List.getElem_cons_succ, List.getElem_cons_zero, List.setIfInBounds_toArray, List.set_cons_zero, List.set_cons_succ]
  refine wpAnyH_ready (rs := [10, 15]) (by kernel_rfl) (by simp) ?_
  refine AllReadyH.cons rfl (fun K hK => ?_) (AllReadyH.cons rfl (fun K hK => ?_) AllReadyH.nil)
  · go_simp
    refine hK _ _ ⟨x0, x1, x2, x3, hl1d⟩ (fun hHeld => ?_)
    clear hK K
    simp only [Act.put, List.getElem_toArray, List.getElem_cons_succ, List.getElem_cons_zero, List.setIfInBounds_toArray, List.set_cons_zero, List.set_cons_succ]
    refine wpAnyH_ready (rs := [15]) (by kernel_rfl) (by simp) ?_
    refine AllReadyH.cons rfl (fun K hK => ?_) AllReadyH.nil
    go_simp
    refine hK _ _ ⟨x0, x1, x2, x3, hl1d⟩ (fun hHeld => ?_)
    clear hK K
    simp only [Act.put, List.getElem_toArray, List.getElem_cons_succ, List.getElem_cons_zero, List.setIfInBounds_toArray, List.set_cons_zero, List.set_cons_succ]
    refine wpAnyH_ready (rs := [16]) (by kernel_rfl) (by simp) ?_
    refine AllReadyH.cons rfl (fun K hK => ?_) AllReadyH.nil
    go_simp
    refine (hopH.out _).mono ?_
    rintro e w2 ⟨rfl, hb2⟩
    have hG := (hFH.out.drew).below hb2
    have y9 := (hG.bg.cell (9 + k)).trans hk9
    have z9 := hG.bg.frozen (9 + k)
    have x0 := hG.bx.cell 0
    have x1 := hG.bx.cell 1
    have x2 := hG.bx.cell 2
    have x3 := hG.bx.cell 3
    simp only [List.getElem?_toArray, List.getElem?_cons_zero, List.getElem?_cons_succ] at x0 x1 x2 x3
    have hf2 : FnsAt w2 m := (show FnsAt W1.drew m from hfH.out.below (below_drew (Below.refl _ _))).below hb2
    have hl2 := hf2.look 3 21 rfl
    have hl3 := fun v => (hf2.chg (b := w.heap.size + 1) ((Chg.refl [w.heap.size + 1] w2).setCell (p := ⟨w.heap.size + 1, 9 + k, none⟩) (.inl (by simp)) v) (by omega)).look 3 21 rfl
    have hG3 := fun v => hG.set (9 + k) v
    have hGH := Lib.hid hG
    clear hG hf2
    refine hK _ _ ⟨x0, x1, x2, x3, hl2⟩ (fun hHeld => ?_)
    clear hK K
    simp only [Act.put, List.getElem_toArray, List.getElem_cons_succ, List.getElem_cons_zero, List.setIfInBounds_toArray, List.set_cons_zero, List.set_cons_succ]
    refine wpAnyH_take (i := 17) (v := ?_) rfl (by kernel_rfl) (by kernel_rfl) (by kernel_rfl) (fun _ _ _ h => h) (Or.inl ⟨by rfl, ?_⟩) hHeld ?_
    rotate_left
    · (intro w' hSw; obtain ⟨s0, s1, s2, s3, s4⟩ := hSw; go_simp; try with_reducible rfl)
    simp only [Act.put, List.getElem_toArray, List.getElem_cons_succ, List.getElem_cons_zero, List.setIfInBounds_toArray, List.set_cons_zero, List.set_cons_succ]
    refine wpAnyH_take (i := 18) (v := ?_) rfl (by kernel_rfl) (by kernel_rfl) (by kernel_rfl) (fun _ _ _ h => h) (Or.inl ⟨by rfl, ?_⟩) hHeld ?_
    rotate_left
    · (intro w' hSw; obtain ⟨s0, s1, s2, s3, s4⟩ := hSw; go_simp; try with_reducible rfl)
    simp only [Act.put, List.getElem_toArray, List.getElem_cons_succ, List.getElem_cons_zero, List.setIfInBounds_toArray, List.set_cons_zero, List.set_cons_succ]
    refine wpAnyH_ready (rs := [19]) (by kernel_rfl) (by simp) ?_
    refine AllReadyH.cons rfl (fun K hK => ?_) AllReadyH.nil
    go_simp
    refine (fitting_ok _ _).mono ?_
    rintro e w4 ⟨rfl, rfl⟩
    refine hK _ _ ⟨x0, x1, x2, x3, hl2⟩ (fun hHeld => ?_)
    clear hK K
    simp only [Act.put, List.getElem_toArray, List.getElem_cons_succ, List.getElem_cons_zero, List.setIfInBounds_toArray, List.set_cons_zero, List.set_cons_succ]
    refine wpAnyH_take (i := 21) (v := ?_) rfl (by kernel_rfl) (by kernel_rfl) (by kernel_rfl) (fun _ _ _ h => h) (Or.inl ⟨by rfl, ?_⟩) hHeld ?_
    rotate_left
    · (intro w' hSw; obtain ⟨s0, s1, s2, s3, s4⟩ := hSw; go_simp; try with_reducible rfl)
    simp only [Act.put, List.getElem_toArray, List.getElem_cons_succ, List.getElem_cons_zero, List.setIfInBounds_toArray, List.set_cons_zero, List.set_cons_succ]
    refine wpAnyH_ready (rs := [22]) (by kernel_rfl) (by simp) ?_
    refine AllReadyH.cons rfl (fun K hK => ?_) AllReadyH.nil
    go_simp
    have hq := (hG3 (.int .u64 N)).bx
    have q0 := hq.cell 0
    have q1 := hq.cell 1
    have q2 := hq.cell 2
    have q3 := hq.cell 3
    simp only [List.getElem?_toArray, List.getElem?_cons_zero, List.getElem?_cons_succ] at q0 q1 q2 q3
    refine hK _ _ ⟨q0, q1, q2, q3, hl3 _⟩ (fun hHeld => ?_)
    clear hK K hq q0 q1 q2 q3
    simp only [Act.put, List.getElem_toArray, List.getElem_cons_succ, List.getElem_cons_zero, List.setIfInBounds_toArray, List.set_cons_zero, List.set_cons_succ]
    refine wpAnyH_done (by kernel_rfl) ?_ _
    have hF2 := hGH.out.set (9 + k) (.int .u64 N)
    rw [hp] at hF2
    generalize World.setCell _ _ _ = W3 at *
    clear hGH y9 z9
    have hw3 : Whole 30 A2.size := by rw [hs3]; exact whole30
    have hwc : Whole 36 zC.size := whole36
    have hf3 : zG.size = A2.size := hs3.symm
    have hbg := hF2.bg
    have hbr := hF2.br
    have hbc := hF2.bc
    have hbl := hF2.bl
    have hzc1 : zC.all (·.oneCell') = true := by simp [Value.oneCell']
    go_wp2_with (first
      | (refine wpList_load_blk hbg hw3 rfl _ rfl rfl ?_)
      | (refine wpList_store_blk hbr hw3 hf3 hs4 rfl _ _ rfl rfl rfl ?_; intro w3 hB4 hC4; replace hbc := hbc.chg hC4 (by simp))
      | (refine wpList_store_blk hbc hwc rfl hzc1 rfl _ _ rfl rfl rfl ?_; intro w4 hB5 hC5))
    refine bodyPost_ret (done_res (by simp [Act.put]) (by simp [Act.put]) (by simp [Act.put]) (hB4.chg hC5 (by simp)) hw3 hB5 hwc) rfl ⟨rfl, ?_⟩
    have hz := hbl.size
    exact (hbl.trans (hC4.below (by simp; omega) hz)).trans (hC5.below (by simp; omega) (Nat.le_trans hz hC4.size))
  · go_simp
    refine hK _ _ ⟨x0, x1, x2, x3, hl1d⟩ (fun hHeld => ?_)
    clear hK K
    simp only [Act.put, List.getElem_toArray, List.getElem_cons_succ, List.getElem_cons_zero, List.setIfInBounds_toArray, List.set_cons_zero, List.set_cons_succ]
    refine wpAnyH_ready (rs := [10]) (by kernel_rfl) (by simp) ?_
    refine AllReadyH.cons rfl (fun K hK => ?_) AllReadyH.nil
    go_simp
    refine hK _ _ ⟨x0, x1, x2, x3, hl1d⟩ (fun hHeld => ?_)
    clear hK K
    simp only [Act.put, List.getElem_toArray, List.getElem_cons_succ, List.getElem_cons_zero, List.setIfInBounds_toArray, List.set_cons_zero, List.set_cons_succ]
    refine wpAnyH_ready (rs := [16]) (by kernel_rfl) (by simp) ?_
    refine AllReadyH.cons rfl (fun K hK => ?_) AllReadyH.nil
    go_simp
    refine (hopH.out _).mono ?_
    rintro e w2 ⟨rfl, hb2⟩
    have hG := (hFH.out.drew).below hb2
    have y9 := (hG.bg.cell (9 + k)).trans hk9
    have z9 := hG.bg.frozen (9 + k)
    have x0 := hG.bx.cell 0
    have x1 := hG.bx.cell 1
    have x2 := hG.bx.cell 2
    have x3 := hG.bx.cell 3
    simp only [List.getElem?_toArray, List.getElem?_cons_zero, List.getElem?_cons_succ] at x0 x1 x2 x3
    have hf2 : FnsAt w2 m := (show FnsAt W1.drew m from hfH.out.below (below_drew (Below.refl _ _))).below hb2
    have hl2 := hf2.look 3 21 rfl
    have hl3 := fun v => (hf2.chg (b := w.heap.size + 1) ((Chg.refl [w.heap.size + 1] w2).setCell (p := ⟨w.heap.size + 1, 9 + k, none⟩) (.inl (by simp)) v) (by omega)).look 3 21 rfl
    have hG3 := fun v => hG.set (9 + k) v
    have hGH := Lib.hid hG
    clear hG hf2
    refine hK _ _ ⟨x0, x1, x2, x3, hl2⟩ (fun hHeld => ?_)
    clear hK K
    simp only [Act.put, List.getElem_toArray, List.getElem_cons_succ, List.getElem_cons_zero, List.setIfInBounds_toArray, List.set_cons_zero, List.set_cons_succ]
    refine wpAnyH_take (i := 17) (v := ?_) rfl (by kernel_rfl) (by kernel_rfl) (by kernel_rfl) (fun _ _ _ h => h) (Or.inl ⟨by rfl, ?_⟩) hHeld ?_
    rotate_left
    · (intro w' hSw; obtain ⟨s0, s1, s2, s3, s4⟩ := hSw; go_simp; try with_reducible rfl)
    simp only [Act.put, List.getElem_toArray, List.getElem_cons_succ, List.getElem_cons_zero, List.setIfInBounds_toArray, List.set_cons_zero, List.set_cons_succ]
    refine wpAnyH_take (i := 18) (v := ?_) rfl (by kernel_rfl) (by kernel_rfl) (by kernel_rfl) (fun _ _ _ h => h) (Or.inl ⟨by rfl, ?_⟩) hHeld ?_
    rotate_left
    · (intro w' hSw; obtain ⟨s0, s1, s2, s3, s4⟩ := hSw; go_simp; try with_reducible rfl)
    simp only [Act.put, List.getElem_toArray, List.getElem_cons_succ, List.getElem_cons_zero, List.setIfInBounds_toArray, List.set_cons_zero, List.set_cons_succ]
    refine wpAnyH_ready (rs := [19]) (by kernel_rfl) (by simp) ?_
    refine AllReadyH.cons rfl (fun K hK => ?_) AllReadyH.nil
    go_simp
    refine (fitting_ok _ _).mono ?_
    rintro e w4 ⟨rfl, rfl⟩
    refine hK _ _ ⟨x0, x1, x2, x3, hl2⟩ (fun hHeld => ?_)
    clear hK K
    simp only [Act.put, List.getElem_toArray, List.getElem_cons_succ, List.getElem_cons_zero, List.setIfInBounds_toArray, List.set_cons_zero, List.set_cons_succ]
    refine wpAnyH_take (i := 21) (v := ?_) rfl (by kernel_rfl) (by kernel_rfl) (by kernel_rfl) (fun _ _ _ h => h) (Or.inl ⟨by rfl, ?_⟩) hHeld ?_
    rotate_left
    · (intro w' hSw; obtain ⟨s0, s1, s2, s3, s4⟩ := hSw; go_simp; try with_reducible rfl)
    simp only [Act.put, List.getElem_toArray, List.getElem_cons_succ, List.getElem_cons_zero, List.setIfInBounds_toArray, List.set_cons_zero, List.set_cons_succ]
    refine wpAnyH_ready (rs := [22]) (by kernel_rfl) (by simp) ?_
    refine AllReadyH.cons rfl (fun K hK => ?_) AllReadyH.nil
    go_simp
    have hq := (hG3 (.int .u64 N)).bx
    have q0 := hq.cell 0
    have q1 := hq.cell 1
    have q2 := hq.cell 2
    have q3 := hq.cell 3
    simp only [List.getElem?_toArray, List.getElem?_cons_zero, List.getElem?_cons_succ] at q0 q1 q2 q3
    refine hK _ _ ⟨q0, q1, q2, q3, hl3 _⟩ (fun hHeld => ?_)
    clear hK K hq q0 q1 q2 q3
    simp only [Act.put, List.getElem_toArray, List.getElem_cons_succ, List.getElem_cons_zero, List.setIfInBounds_toArray, List.set_cons_zero, List.set_cons_succ]
    refine wpAnyH_done (by kernel_rfl) ?_ _
    have hF2 := hGH.out.set (9 + k) (.int .u64 N)
    rw [hp] at hF2
    generalize World.setCell _ _ _ = W3 at *
    clear hGH y9 z9
    have hw3 : Whole 30 A2.size := by rw [hs3]; exact whole30
    have hwc : Whole 36 zC.size := whole36
    have hf3 : zG.size = A2.size := hs3.symm
    have hbg := hF2.bg
    have hbr := hF2.br
    have hbc := hF2.bc
    have hbl := hF2.bl
    have hzc1 : zC.all (·.oneCell') = true := by simp [Value.oneCell']
    go_wp2_with (first
      | (refine wpList_load_blk hbg hw3 rfl _ rfl rfl ?_)
      | (refine wpList_store_blk hbr hw3 hf3 hs4 rfl _ _ rfl rfl rfl ?_; intro w3 hB4 hC4; replace hbc := hbc.chg hC4 (by simp))
      | (refine wpList_store_blk hbc hwc rfl hzc1 rfl _ _ rfl rfl rfl ?_; intro w4 hB5 hC5))
    refine bodyPost_ret (done_res (by simp [Act.put]) (by simp [Act.put]) (by simp [Act.put]) (hB4.chg hC5 (by simp)) hw3 hB5 hwc) rfl ⟨rfl, ?_⟩
    have hz := hbl.size
    exact (hbl.trans (hC4.below (by simp; omega) hz)).trans (hC5.below (by simp; omega) (Nat.le_trans hz hC4.size))
set_option maxHeartbeats 4000000 in
set_option maxRecDepth 100000 in
theorem done_3x (V : Value) (m : Nat) (a b c : Int) (g : Gr) (hg : g.ok) (a0 : 0 ≤ a) (a1 : a < 8) (b0 : 0 ≤ b) (b1 : b < 8) (c0 : 0 ≤ c) (c1 : c < 8) (N : Int) (hop : ∀ w, Calls Try.prog 21 #[.int .u64 (g.next.r b.toNat), .int .u64 (g.next.r c.toNat)] w fun e w' => e = .returned (.tuple #[.int .u64 N, .bool false]) ∧ Below w.heap.size w w') (w : World) (hfn : FnsAt w m) : Calls Try.prog 18 #[.map (some m), V, .agg #[.int .u8 3, .int .u8 a, .int .u8 b, .int .u8 c], g.val] w fun e w' => e = panicOf 6 ∧ Below w.heap.size w w' := by
  have hA : g.arr.setIfInBounds 8 (.int .i64 (g.pc + 1)) = g.next.arr := rfl
  have h8 : g.arr[8]? = some (.int .i64 g.pc) := rfl
  have hs := g.next.size
  have hs2 := g.next.one
  have e1 : wrap64 (g.pc + 1) = g.pc + 1 := IntWalk.wrap64_in _ (by have := hg.p0; have := hg.p1; omega)
  obtain ⟨k, rfl⟩ : ∃ k : Nat, a = (k : Int) := ⟨a.toNat, by omega⟩
  have hp := g.next.put_cell k (by omega) N
  have ht : (k : Int).toNat = k := by omega
  have hs3 := (g.next.put k N).size
  have hs4 := (g.next.put k N).one
  have hk9 : g.next.arr[9 + k]? = some (.int .u64 (g.next.r k)) := g.next.get_cell k (by omega)
  generalize g.next.r k = rk at *
  obtain ⟨i, rfl⟩ : ∃ i : Nat, b = (i : Int) := ⟨b.toNat, by omega⟩
  obtain ⟨j, rfl⟩ : ∃ j : Nat, c = (j : Int) := ⟨c.toNat, by omega⟩
  rw [show (i : Int).toNat = i by omega, show (j : Int).toNat = j by omega] at hop
  have hi9 : g.next.arr[9 + i]? = some (.int .u64 (g.next.r i)) := g.next.get_cell i (by omega)
  have hj9 : g.next.arr[9 + j]? = some (.int .u64 (g.next.r j)) := g.next.get_cell j (by omega)
  generalize g.next.r i = ri at *
  generalize g.next.r j = rj at *
  unfold Gr.val
  generalize g.pc = pc at *
  generalize hga : g.arr = A at *
  generalize hgb : g.next.arr = A1 at *
  generalize hgc : (g.next.put k N).arr = A2 at *
  obtain ⟨W, hW⟩ : ∃ W, W = frame0 w #[.int .u8 3, .int .u8 k, .int .u8 i, .int .u8 j] A := ⟨_, rfl⟩
  have hF : DoneAt w W #[.int .u8 3, .int .u8 k, .int .u8 i, .int .u8 j] A := by rw [hW]; exact doneAt_new w _ _
  have c8 := (hF.bg.cell 8).trans h8
  have f8 := hF.bg.frozen 8
  have hF1 := hF.set 8 (.int .i64 (pc + 1))
  rw [hA] at hF1
  go_enter Try.func18, Try.ntmps18
  go_upto_region 1 with (fail)
  unfold frame0 at hW
  rw [← hW]
  clear hW hF
  go_upto_region 2 with (fail)
  generalize W.setCell _ _ = W1 at *
  clear c8 f8
  have x0 := hF1.bx.cell 0
  have x1 := hF1.bx.cell 1
  have x2 := hF1.bx.cell 2
  have x3 := hF1.bx.cell 3
  simp only [List.getElem?_toArray, List.getElem?_cons_zero, List.getElem?_cons_succ] at x0 x1 x2 x3
  have y9 := (hF1.bg.cell (9 + k)).trans hk9
  have yi := (hF1.bg.cell (9 + i)).trans hi9
  have yj := (hF1.bg.cell (9 + j)).trans hj9
  have z9 := hF1.bg.frozen (9 + k)
  have hf1 : FnsAt W1 m := hfn.below hF1.bl
  have hml := hfn.lt
  have hl1 := hf1.look 3 21 rfl
  have hl1d := (show FnsAt W1.drew m from hf1.below (below_drew (Below.refl _ _))).look 3 21 rfl
  have hopH := Lib.hid hop
  have hFH := Lib.hid hF1
  have hfH := Lib.hid hf1
  clear hop hF1 hf1 hga hgb hgc hA h8 hfn
  go_upto_region 10 with (fail)
  refine wp_region_held_drew (S := (fun w' => w'.cell? ⟨w.heap.size, 0, none⟩ = some (.int .u8 3) ∧ w'.cell? ⟨w.heap.size, 1, none⟩ = some (.int .u8 k) ∧ w'.cell? ⟨w.heap.size, 2, none⟩ = some (.int .u8 i) ∧ w'.cell? ⟨w.heap.size, 3, none⟩ = some (.int .u8 j) ∧ (Instr.lookup 50 (.map (some m)) (.int .u8 3) false).run Try.prog w' = .ok (fnV 21) w')) (by kernel_rfl) ⟨x0, x1, x2, x3, hl1d⟩ (fun hHeld => ?_)
  simp only [List.setIfInBounds_toArray, List.size_toArray, List.length_cons, List.length_nil, Array.replicate]
  refine wpAnyH_take (i := 0) (v := ?_) rfl (by kernel_rfl) (by kernel_rfl) (by kernel_rfl) (fun _ _ _ h => h) (Or.inl ⟨by rfl, ?_⟩) hHeld ?_
  rotate_left
  · (intro w' hSw; obtain ⟨s0, s1, s2, s3, s4⟩ := hSw; go_simp; try with_reducible rfl)
  simp only [Act.put, List.getElem_toArray, List.getElem_cons_succ, List.getElem_cons_zero, List.setIfInBounds_toArray, List.set_cons_zero, List.set_cons_succ]
  refine wpAnyH_take (i := 1) (v := ?_) rfl (by kernel_rfl) (by kernel_rfl) (by kernel_rfl) (fun _ _ _ h => h) (Or.inl ⟨by rfl, ?_⟩) hHeld ?_
  rotate_left
  · (intro w' hSw; obtain ⟨s0, s1, s2, s3, s4⟩ := hSw; go_simp; try with_reducible rfl)
  simp only [Act.put, List.getElem_toArray, List.getElem_cons_succ, List.getElem_cons_zero, List.setIfInBounds_toArray, List.set_cons_zero, List.set_cons_succ]
  refine wpAnyH_take (i := 2) (v := ?_) rfl (by kernel_rfl) (by kernel_rfl) (by kernel_rfl) (fun _ _ _ h => h) (Or.inl ⟨by rfl, ?_⟩) hHeld ?_
  rotate_left
  · (intro w' hSw; obtain ⟨s0, s1, s2, s3, s4⟩ := hSw; go_simp; try with_reducible rfl)
  simp only [Act.put, List.getElem_toArray, List.getElem_cons_succ, List.getElem_cons_zero, List.setIfInBounds_toArray, List.set_cons_zero, List.set_cons_succ]
  refine wpAnyH_take (i := 3) (v := ?_) rfl (by kernel_rfl) (by kernel_rfl) (by kernel_rfl) (fun _ _ _ h => h) (Or.inl ⟨by rfl, ?_⟩) hHeld ?_
  rotate_left
  · (intro w' hSw; obtain ⟨s0, s1, s2, s3, s4⟩ := hSw; go_simp; try with_reducible rfl)
  simp only [Act.put, List.getElem_toArray, List.getElem_cons_succ, List.getElem_cons_zero, List.setIfInBounds_toArray, List.set_cons_zero, List.set_cons_succ]
  refine wpAnyH_take (i := 4) (v := ?_) rfl (by kernel_rfl) (by kernel_rfl) (by kernel_rfl) (fun _ _ _ h => h) (Or.inl ⟨by rfl, ?_⟩) hHeld ?_
  rotate_left
  · (intro w' hSw; obtain ⟨s0, s1, s2, s3, s4⟩ := hSw; go_simp; try with_reducible rfl)
  simp only [Act.put, List.getElem_toArray, List.getElem_cons_succ, List.getElem_cons_zero, List.setIfInBounds_toArray, List.set_cons_zero, List.set_cons_succ]
  refine wpAnyH_take (i := 5) (v := ?_) rfl (by kernel_rfl) (by kernel_rfl) (by kernel_rfl) (fun _ _ _ h => h) (Or.inl ⟨by rfl, ?_⟩) hHeld ?_
  rotate_left
  · (intro w' hSw; obtain ⟨s0, s1, s2, s3, s4⟩ := hSw; go_simp; try with_reducible rfl)
  simp only [Act.put, List.getElem_toArray, List.getElem_cons_succ, List.getElem_cons_zero, List.setIfInBounds_toArray, List.set_cons_zero, List.set_cons_succ]
  refine wpAnyH_take (i := 6) (v := ?_) rfl (by kernel_rfl) (by kernel_rfl) (by kernel_rfl) (fun _ _ _ h => h) (Or.inl ⟨by rfl, ?_⟩) hHeld ?_
  rotate_left
  · (intro w' hSw; obtain ⟨s0, s1, s2, s3, s4⟩ := hSw; go_simp; try with_reducible rfl)
  simp only [Act.put, List.getElem_toArray, List.getElem_cons_succ, List.getElem_cons_zero, List.setIfInBounds_toArray, List.set_cons_zero, List.set_cons_succ]
  refine wpAnyH_take (i := 7) (v := ?_) rfl (by kernel_rfl) (by kernel_rfl) (by kernel_rfl) (fun _ _ _ h => h) (Or.inl ⟨by rfl, ?_⟩) hHeld ?_
  rotate_left
  · (intro w' hSw; obtain ⟨s0, s1, s2, s3, s4⟩ := hSw; go_simp; try with_reducible rfl)
  simp only [Act.put, List.getElem_toArray, List.getElem_cons_succ, List.getElem_cons_zero, List.setIfInBounds_toArray, List.set_cons_zero, List.set_cons_succ]
  refine wpAnyH_take (i := 8) (v := ?_) rfl (by kernel_rfl) (by kernel_rfl) (by kernel_rfl) (fun _ _ _ h => h) (Or.inl ⟨by rfl, ?_⟩) hHeld ?_
  rotate_left
  · (intro w' hSw; obtain ⟨s0, s1, s2, s3, s4⟩ := hSw; go_simp; try with_reducible rfl)
  simp only [Act.put, List.getElem_toArray, List.getElem_cons_succ, List.getElem_cons_zero, List.setIfInBounds_toArray, List.set_cons_zero, List.set_cons_succ]
  refine wpAnyH_take (i := 9) (v := ?_) rfl (by kernel_rfl) (by kernel_rfl) (by kernel_rfl) (fun _ _ _ h => h) (Or.inl ⟨by rfl, ?_⟩) hHeld ?_
  rotate_left
  · (intro w' hSw; obtain ⟨s0, s1, s2, s3, s4⟩ := hSw; go_simp; try with_reducible rfl)
  simp only [Act.put, List.getElem_toArray, List.getElem_cons_succ, List.getElem_cons_zero, List.setIfInBounds_toArray, List.set_cons_zero, List.set_cons_succ]
  refine wpAnyH_take (i := 11) (v := ?_) rfl (by kernel_rfl) (by kernel_rfl) (by kernel_rfl) (fun _ _ _ h => h) (Or.inl ⟨by rfl, ?_⟩) hHeld ?_
  rotate_left
  · (intro w' hSw; obtain ⟨s0, s1, s2, s3, s4⟩ := hSw; go_simp; try with_reducible rfl)
  simp only [Act.put, List.getElem_toArray, List.getElem_cons_succ, List.getElem_cons_zero, List.setIfInBounds_toArray, List.set_cons_zero, List.set_cons_succ]
  refine wpAnyH_take (i := 12) (v := ?_) rfl (by kernel_rfl) (by kernel_rfl) (by kernel_rfl) (fun _ _ _ h => h) (Or.inl ⟨by rfl, ?_⟩) hHeld ?_
  rotate_left
  · (intro w' hSw; obtain ⟨s0, s1, s2, s3, s4⟩ := hSw; go_simp; try with_reducible rfl)
  simp only [Act.put, List.getElem_toArray, List.getElem_cons_succ, List.getElem_cons_zero, List.setIfInBounds_toArray, List.set_cons_zero, List.set_cons_succ]
  refine wpAnyH_take (i := 13) (v := ?_) rfl (by kernel_rfl) (by kernel_rfl) (by kernel_rfl) (fun _ _ _ h => h) (Or.inl ⟨by rfl, ?_⟩) hHeld ?_
  rotate_left
  · (intro w' hSw; obtain ⟨s0, s1, s2, s3, s4⟩ := hSw; go_simp; try with_reducible rfl)
  simp only [Act.put, List.getElem_toArray, List.getElem_cons_succ, List.getElem_cons_zero, List.setIfInBounds_toArray, List.set_cons_zero, List.set_cons_succ]
  refine wpAnyH_take (i := 14) (v := ?_) rfl (by kernel_rfl) (by kernel_rfl) (by kernel_rfl) (fun _ _ _ h => h) (Or.inl ⟨by rfl, ?_⟩) hHeld ?_
  rotate_left
  · (intro w' hSw; obtain ⟨s0, s1, s2, s3, s4⟩ := hSw; go_simp; try with_reducible rfl)
  simp only [Act.put, List.getElem_toArray, List.getElem_cons_succ, List.getElem_cons_zero, List.setIfInBounds_toArray, List.set_cons_zero, List.set_cons_succ]
  refine wpAnyH_take (i := 20) (v := ?_) rfl (by kernel_rfl) (by kernel_rfl) (by kernel_rfl) (fun _ _ _ h => h) (Or.inl ⟨by rfl, ?_⟩) hHeld ?_
  rotate_left
  · (intro w' hSw; obtain ⟨s0, s1, s2, s3, s4⟩ := hSw; go_simp; try with_reducible rfl)
  simp only [Act.put, List.getElem_toArray, List.getElem_cons_succ, List.getElem_cons_zero, List.setIfInBounds_toArray, List.set_cons_zero, List.set_cons_succ]
  refine wpAnyH_ready (rs := [10, 15]) (by kernel_rfl) (by simp) ?_
  refine AllReadyH.cons rfl (fun K hK => ?_) (AllReadyH.cons rfl (fun K hK => ?_) AllReadyH.nil)
  · go_simp
    refine hK _ _ ⟨x0, x1, x2, x3, hl1d⟩ (fun hHeld => ?_)
    clear hK K
    simp only [Act.put, List.getElem_toArray, List.getElem_cons_succ, List.getElem_cons_zero, List.setIfInBounds_toArray, List.set_cons_zero, List.set_cons_succ]
    refine wpAnyH_ready (rs := [15]) (by kernel_rfl) (by simp) ?_
    refine AllReadyH.cons rfl (fun K hK => ?_) AllReadyH.nil
    go_simp
    refine hK _ _ ⟨x0, x1, x2, x3, hl1d⟩ (fun hHeld => ?_)
    clear hK K
    simp only [Act.put, List.getElem_toArray, List.getElem_cons_succ, List.getElem_cons_zero, List.setIfInBounds_toArray, List.set_cons_zero, List.set_cons_succ]
    refine wpAnyH_ready (rs := [16]) (by kernel_rfl) (by simp) ?_
    refine AllReadyH.cons rfl (fun K hK => ?_) AllReadyH.nil
    go_simp
    refine (hopH.out _).mono ?_
    rintro e w2 ⟨rfl, hb2⟩
    have hG := (hFH.out.drew).below hb2
    have y9 := (hG.bg.cell (9 + k)).trans hk9
    have z9 := hG.bg.frozen (9 + k)
    have x0 := hG.bx.cell 0
    have x1 := hG.bx.cell 1
    have x2 := hG.bx.cell 2
    have x3 := hG.bx.cell 3
    simp only [List.getElem?_toArray, List.getElem?_cons_zero, List.getElem?_cons_succ] at x0 x1 x2 x3
    have hf2 : FnsAt w2 m := (show FnsAt W1.drew m from hfH.out.below (below_drew (Below.refl _ _))).below hb2
    have hl2 := hf2.look 3 21 rfl
    have hl3 := fun v => (hf2.chg (b := w.heap.size + 1) ((Chg.refl [w.heap.size + 1] w2).setCell (p := ⟨w.heap.size + 1, 9 + k, none⟩) (.inl (by simp)) v) (by omega)).look 3 21 rfl
    have hG3 := fun v => hG.set (9 + k) v
    have hGH := Lib.hid hG
    clear hG hf2
    refine hK _ _ ⟨x0, x1, x2, x3, hl2⟩ (fun hHeld => ?_)
    clear hK K
    simp only [Act.put, List.getElem_toArray, List.getElem_cons_succ, List.getElem_cons_zero, List.setIfInBounds_toArray, List.set_cons_zero, List.set_cons_succ]
    refine wpAnyH_take (i := 17) (v := ?_) rfl (by kernel_rfl) (by kernel_rfl) (by kernel_rfl) (fun _ _ _ h => h) (Or.inl ⟨by rfl, ?_⟩) hHeld ?_
    rotate_left
    · (intro w' hSw; obtain ⟨s0, s1, s2, s3, s4⟩ := hSw; go_simp; try with_reducible rfl)
    simp only [Act.put, List.getElem_toArray, List.getElem_cons_succ, List.getElem_cons_zero, List.setIfInBounds_toArray, List.set_cons_zero, List.set_cons_succ]
    refine wpAnyH_take (i := 18) (v := ?_) rfl (by kernel_rfl) (by kernel_rfl) (by kernel_rfl) (fun _ _ _ h => h) (Or.inl ⟨by rfl, ?_⟩) hHeld ?_
    rotate_left
    · (intro w' hSw; obtain ⟨s0, s1, s2, s3, s4⟩ := hSw; go_simp; try with_reducible rfl)
    simp only [Act.put, List.getElem_toArray, List.getElem_cons_succ, List.getElem_cons_zero, List.setIfInBounds_toArray, List.set_cons_zero, List.set_cons_succ]
    refine wpAnyH_ready (rs := [19]) (by kernel_rfl) (by simp) ?_
    refine AllReadyH.cons rfl (fun K hK => ?_) AllReadyH.nil
    go_simp
    refine (fitting_bad _ _).mono ?_
    rintro e w4 ⟨rfl, rfl⟩
    exact ⟨rfl, rfl, hGH.out.bl⟩
  · go_simp
    refine hK _ _ ⟨x0, x1, x2, x3, hl1d⟩ (fun hHeld => ?_)
    clear hK K
    simp only [Act.put, List.getElem_toArray, List.getElem_cons_succ, List.getElem_cons_zero, List.setIfInBounds_toArray, List.set_cons_zero, List.set_cons_succ]
    refine wpAnyH_ready (rs := [10]) (by kernel_rfl) (by simp) ?_
    refine AllReadyH.cons rfl (fun K hK => ?_) AllReadyH.nil
    go_simp
    refine hK _ _ ⟨x0, x1, x2, x3, hl1d⟩ (fun hHeld => ?_)
    clear hK K
    simp only [Act.put, List.getElem_toArray, List.getElem_cons_succ, List.getElem_cons_zero, List.setIfInBounds_toArray, List.set_cons_zero, List.set_cons_succ]
    refine wpAnyH_ready (rs := [16]) (by kernel_rfl) (by simp) ?_
    refine AllReadyH.cons rfl (fun K hK => ?_) AllReadyH.nil
    go_simp
    refine (hopH.out _).mono ?_
    rintro e w2 ⟨rfl, hb2⟩
    have hG := (hFH.out.drew).below hb2
    have y9 := (hG.bg.cell (9 + k)).trans hk9
    have z9 := hG.bg.frozen (9 + k)
    have x0 := hG.bx.cell 0
    have x1 := hG.bx.cell 1
    have x2 := hG.bx.cell 2
    have x3 := hG.bx.cell 3
    simp only [List.getElem?_toArray, List.getElem?_cons_zero, List.getElem?_cons_succ] at x0 x1 x2 x3
    have hf2 : FnsAt w2 m := (show FnsAt W1.drew m from hfH.out.below (below_drew (Below.refl _ _))).below hb2
    have hl2 := hf2.look 3 21 rfl
    have hl3 := fun v => (hf2.chg (b := w.heap.size + 1) ((Chg.refl [w.heap.size + 1] w2).setCell (p := ⟨w.heap.size + 1, 9 + k, none⟩) (.inl (by simp)) v) (by omega)).look 3 21 rfl
    have hG3 := fun v => hG.set (9 + k) v
    have hGH := Lib.hid hG
    clear hG hf2
    refine hK _ _ ⟨x0, x1, x2, x3, hl2⟩ (fun hHeld => ?_)
    clear hK K
    simp only [Act.put, List.getElem_toArray, List.getElem_cons_succ, List.getElem_cons_zero, List.setIfInBounds_toArray, List.set_cons_zero, List.set_cons_succ]
    refine wpAnyH_take (i := 17) (v := ?_) rfl (by kernel_rfl) (by kernel_rfl) (by kernel_rfl) (fun _ _ _ h => h) (Or.inl ⟨by rfl, ?_⟩) hHeld ?_
    rotate_left
    · (intro w' hSw; obtain ⟨s0, s1, s2, s3, s4⟩ := hSw; go_simp; try with_reducible rfl)
    simp only [Act.put, List.getElem_toArray, List.getElem_cons_succ, List.getElem_cons_zero, List.setIfInBounds_toArray, List.set_cons_zero, List.set_cons_succ]
    refine wpAnyH_take (i := 18) (v := ?_) rfl (by kernel_rfl) (by kernel_rfl) (by kernel_rfl) (fun _ _ _ h => h) (Or.inl ⟨by rfl, ?_⟩) hHeld ?_
    rotate_left
    · (intro w' hSw; obtain ⟨s0, s1, s2, s3, s4⟩ := hSw; go_simp; try with_reducible rfl)
    simp only [Act.put, List.getElem_toArray, List.getElem_cons_succ, List.getElem_cons_zero, List.setIfInBounds_toArray, List.set_cons_zero, List.set_cons_succ]
    refine wpAnyH_ready (rs := [19]) (by kernel_rfl) (by simp) ?_
    refine AllReadyH.cons rfl (fun K hK => ?_) AllReadyH.nil
    go_simp
    refine (fitting_bad _ _).mono ?_
    rintro e w4 ⟨rfl, rfl⟩
    exact ⟨rfl, rfl, hGH.out.bl⟩
end Go.Proofs
end
