import Derived.Test.YtojpllmghfafjaaM8
import Derived.Deep.RegionWith
import Derived.Deep.RegionHeld3
import Derived.Test.YtojpllmghfafjaaM9
import Derived.Test.YtojpllmghfafjaaM10
import Derived.Defers
import Derived.Recover
section
namespace Go.Proofs
open Go.RowKit
set_option linter.unusedVariables false
set_option linter.unusedSimpArgs false

theorem run_load_blk {w : World} {b : Nat} {t t' : TypeId} {A : Array Value} (hB : Blk w b t' A) (hw : Whole t A.size) {o : Oper} {a : Act} (x : Operand) (ho : o.op = .load t x)
    (hx : a.eval x = .pointer (some ⟨b, 0, none⟩)) : (execOp a.eval o).run Try.prog w = .ok (.value (.agg A)) w := by
  unfold execOp
  simp only [ho, hx, Instr.loadAt, Instr.sureAddr, Sem.run_bind, Sem.run_pure, Result.andThen_ok, run_loadVar_blk hB hw]
theorem step_store_blk {w : World} {b : Nat} {t t' : TypeId} {A A' : Array Value} (hB : Blk w b t' A) (hw : Whole t A'.size) (hs : A.size = A'.size) (h1 : A'.all (·.oneCell') = true) {ops : Array Oper} {o : Oper} {a : Act} {K : Act → World → Prop} {Q : Exit → Act → World → Prop} {R : Prop} (hg : o.guard = none) (x y : Operand) (ho : o.op = .store t x y)
    (hx : a.eval x = .pointer (some ⟨b, 0, none⟩)) (hy : a.eval y = .agg A') (h : ∀ w', Blk w' b t' A' → Chg [b] w w' → K (a.put o.dst undef) w') : if Region.wanted o (yielded ops a.tmps) = true then Oper.wp Try.prog o a w K Q else R := by
  rw [if_pos (by simp [Region.wanted, hg])]
  exact wp_store_blk hB hw hs h1 x y ho hx hy h

set_option maxHeartbeats 4000000 in
set_option maxRecDepth 100000 in
theorem done_6n (V : Value) (m : Nat) (a b c : Int) (g : Gr) (hg : g.ok) (a0 : 0 ≤ a) (a1 : a < 8) (ha : g.next.r a.toNat ≠ 0) (w : World) : Calls Try.prog 18 #[.map (some m), V, .agg #[.int .u8 6, .int .u8 a, .int .u8 b, .int .u8 c], g.val] w fun e w' => e = .returned (.tuple #[g.next.val, Cl.zero.val, .int .i64 1]) ∧ Below w.heap.size w w' := by
  have hA : g.arr.setIfInBounds 8 (.int .i64 (g.pc + 1)) = g.next.arr := rfl
  have h8 : g.arr[8]? = some (.int .i64 g.pc) := rfl
  have hs := g.next.size
  have hs2 := g.next.one
  have e1 : wrap64 (g.pc + 1) = g.pc + 1 := IntWalk.wrap64_in _ (by have := hg.p0; have := hg.p1; omega)
  obtain ⟨k, rfl⟩ : ∃ k : Nat, a = (k : Int) := ⟨a.toNat, by omega⟩
  have hk9 : g.next.arr[9 + k]? = some (.int .u64 (g.next.r k)) := g.next.get_cell k (by omega)
  rw [show (k : Int).toNat = k by omega] at ha
  generalize g.next.r k = rk at *
  have hnz : (rk == 0) = false := by simpa using ha
  unfold Gr.val Cl.val
  rw [Cl.zero_arr]
  generalize g.pc = pc at *
  generalize hga : g.arr = A at *
  generalize hgb : g.next.arr = A1 at *
  obtain ⟨W, hW⟩ : ∃ W, W = frame0 w #[.int .u8 6, .int .u8 k, .int .u8 b, .int .u8 c] A := ⟨_, rfl⟩
  have hF : DoneAt w W #[.int .u8 6, .int .u8 k, .int .u8 b, .int .u8 c] A := by rw [hW]; exact doneAt_new w _ _
  have c8 := (hF.bg.cell 8).trans h8
  have f8 := hF.bg.frozen 8
  have hF1 := hF.set 8 (.int .i64 (pc + 1))
  rw [hA] at hF1
  go_enter Try.func18, Try.ntmps18
  go_upto_region 1 with (fail)
  unfold frame0 at hW
  rw [← hW]
  clear hW hF
  go_upto_region 2 with (fail)
  generalize W.setCell _ _ = W1 at *
  clear c8 f8
  have x0 := hF1.bx.cell 0
  have x1 := hF1.bx.cell 1
  have x2 := hF1.bx.cell 2
  have x3 := hF1.bx.cell 3
  simp only [List.getElem?_toArray, List.getElem?_cons_zero, List.getElem?_cons_succ] at x0 x1 x2 x3
  have y9 := (hF1.bg.cell (9 + k)).trans hk9
  clear hA h8 hga hgb
  have hw3 : Whole 30 A1.size := by rw [hs]; exact whole30
  have hwc : Whole 36 zC.size := whole36
  have hf3 : zG.size = A1.size := hs.symm
  have hbg := hF1.bg
  have hbr := hF1.br
  have hbc := hF1.bc
  have hbl := hF1.bl
  have hzc1 : zC.all (·.oneCell') = true := by simp [Value.oneCell']
  go_wp2_with (first
    | (refine wpList_load_blk hbg hw3 rfl _ rfl rfl ?_)
    | (refine wpList_store_blk hbr hw3 hf3 hs2 rfl _ _ rfl rfl rfl ?_; intro w3 hB4 hC4; replace hbc := hbc.chg hC4 (by simp))
    | (refine wpList_store_blk hbc hwc rfl hzc1 rfl _ _ rfl rfl rfl ?_; intro w4 hB5 hC5))
  refine bodyPost_ret (done_res (by simp [Act.put]) (by simp [Act.put]) (by simp [Act.put]) (hB4.chg hC5 (by simp)) hw3 hB5 hwc) rfl ⟨rfl, ?_⟩
  have hz := hbl.size
  exact (hbl.trans (hC4.below (by simp; omega) hz)).trans (hC5.below (by simp; omega) (Nat.le_trans hz hC4.size))
set_option maxHeartbeats 4000000 in
set_option maxRecDepth 100000 in
theorem done_7 (V : Value) (m : Nat) (a b c : Int) (g : Gr) (hg : g.ok) (a0 : 0 ≤ a) (a1 : a < 8) (hcd : 0 ≤ g.cd) (w : World) : Calls Try.prog 18 #[.map (some m), V, .agg #[.int .u8 7, .int .u8 a, .int .u8 b, .int .u8 c], g.val] w fun e w' => e = .returned (.tuple #[(g.next.put a.toNat g.cd).val, Cl.zero.val, .int .i64 1]) ∧ Below w.heap.size w w' := by
  have hA : g.arr.setIfInBounds 8 (.int .i64 (g.pc + 1)) = g.next.arr := rfl
  have h8 : g.arr[8]? = some (.int .i64 g.pc) := rfl
  have hs := g.next.size
  have hs2 := g.next.one
  have e1 : wrap64 (g.pc + 1) = g.pc + 1 := IntWalk.wrap64_in _ (by have := hg.p0; have := hg.p1; omega)
  obtain ⟨k, rfl⟩ : ∃ k : Nat, a = (k : Int) := ⟨a.toNat, by omega⟩
  have hp := g.next.put_cell k (by omega) g.cd
  have ht : (k : Int).toNat = k := by omega
  rw [ht]
  have hs3 := (g.next.put k g.cd).size
  have hs4 := (g.next.put k g.cd).one
  have hk9 : g.next.arr[9 + k]? = some (.int .u64 (g.next.r k)) := g.next.get_cell k (by omega)
  generalize g.next.r k = rk at *
  have h17 : g.next.arr[17]? = some (.int .i64 g.cd) := rfl
  have u1 : IntKind.u64.wrap g.cd = g.cd := by have := hg.c1; simp [IntKind.wrap, IntKind.bits, IntKind.signed]; omega
  unfold Gr.val Cl.val
  rw [Cl.zero_arr]
  generalize g.pc = pc at *
  generalize hga : g.arr = A at *
  generalize hgb : g.next.arr = A1 at *
  generalize g.cd = cd at *
  generalize hgc : (g.next.put k cd).arr = A2 at *
  obtain ⟨W, hW⟩ : ∃ W, W = frame0 w #[.int .u8 7, .int .u8 k, .int .u8 b, .int .u8 c] A := ⟨_, rfl⟩
  have hF : DoneAt w W #[.int .u8 7, .int .u8 k, .int .u8 b, .int .u8 c] A := by rw [hW]; exact doneAt_new w _ _
  have c8 := (hF.bg.cell 8).trans h8
  have f8 := hF.bg.frozen 8
  have hF1 := hF.set 8 (.int .i64 (pc + 1))
  rw [hA] at hF1
  go_enter Try.func18, Try.ntmps18
  go_upto_region 1 with (fail)
  unfold frame0 at hW
  rw [← hW]
  clear hW hF
  go_upto_region 2 with (fail)
  generalize W.setCell _ _ = W1 at *
  clear c8 f8
  have x0 := hF1.bx.cell 0
  have x1 := hF1.bx.cell 1
  have x2 := hF1.bx.cell 2
  have x3 := hF1.bx.cell 3
  simp only [List.getElem?_toArray, List.getElem?_cons_zero, List.getElem?_cons_succ] at x0 x1 x2 x3
  have y9 := (hF1.bg.cell (9 + k)).trans hk9
  have y17 := (hF1.bg.cell 17).trans h17
  have z9 := hF1.bg.frozen (9 + k)
  have hFH := Lib.hid hF1
  have hG3 := fun v => (hF1.set (9 + k) v).drew
  clear hF1 hga hgb hgc hA h8
  go_upto_region 17 with (fail)
  refine wp_region_held_drew (S := (fun w' => w'.cell? ⟨w.heap.size, 0, none⟩ = some (.int .u8 7) ∧ w'.cell? ⟨w.heap.size, 1, none⟩ = some (.int .u8 k) ∧ w'.cell? ⟨w.heap.size, 2, none⟩ = some (.int .u8 b) ∧ w'.cell? ⟨w.heap.size, 3, none⟩ = some (.int .u8 c) ∧ w'.cell? ⟨w.heap.size + 1, 17, none⟩ = some (.int .i64 cd))) (by kernel_rfl) ⟨x0, x1, x2, x3, y17⟩ (fun hHeld => ?_)
  simp only [List.setIfInBounds_toArray, List.size_toArray, List.length_cons, List.length_nil, Array.replicate]
  refine wpAnyH_take (i := 0) (v := ?_) rfl (by kernel_rfl) (by kernel_rfl) (by kernel_rfl) (fun _ _ _ h => h) (Or.inl ⟨by rfl, ?_⟩) hHeld ?_
  rotate_left
  · (intro w' hSw; obtain ⟨s0, s1, s2, s3, s4⟩ := hSw; go_simp; try with_reducible rfl)
  simp only [Act.put, List.getElem_toArray, List.getElem_cons_succ, List.getElem_cons_zero, List.setIfInBounds_toArray, List.set_cons_zero, List.set_cons_succ]
  refine wpAnyH_take (i := 1) (v := ?_) rfl (by kernel_rfl) (by kernel_rfl) (by kernel_rfl) (fun _ _ _ h => h) (Or.inl ⟨by rfl, ?_⟩) hHeld ?_
  rotate_left
  · (intro w' hSw; obtain ⟨s0, s1, s2, s3, s4⟩ := hSw; go_simp; try with_reducible rfl)
  simp only [Act.put, List.getElem_toArray, List.getElem_cons_succ, List.getElem_cons_zero, List.setIfInBounds_toArray, List.set_cons_zero, List.set_cons_succ]
  refine wpAnyH_take (i := 2) (v := ?_) rfl (by kernel_rfl) (by kernel_rfl) (by kernel_rfl) (fun _ _ _ h => h) (Or.inl ⟨by rfl, ?_⟩) hHeld ?_
  rotate_left
  · (intro w' hSw; obtain ⟨s0, s1, s2, s3, s4⟩ := hSw; go_simp; try with_reducible rfl)
  simp only [Act.put, List.getElem_toArray, List.getElem_cons_succ, List.getElem_cons_zero, List.setIfInBounds_toArray, List.set_cons_zero, List.set_cons_succ]
  refine wpAnyH_take (i := 3) (v := ?_) rfl (by kernel_rfl) (by kernel_rfl) (by kernel_rfl) (fun _ _ _ h => h) (Or.inl ⟨by rfl, ?_⟩) hHeld ?_
  rotate_left
  · (intro w' hSw; obtain ⟨s0, s1, s2, s3, s4⟩ := hSw; go_simp; try with_reducible rfl)
  simp only [Act.put, List.getElem_toArray, List.getElem_cons_succ, List.getElem_cons_zero, List.setIfInBounds_toArray, List.set_cons_zero, List.set_cons_succ]
  refine wpAnyH_take (i := 4) (v := ?_) rfl (by kernel_rfl) (by kernel_rfl) (by kernel_rfl) (fun _ _ _ h => h) (Or.inl ⟨by rfl, ?_⟩) hHeld ?_
  rotate_left
  · (intro w' hSw; obtain ⟨s0, s1, s2, s3, s4⟩ := hSw; go_simp; try with_reducible rfl)
  simp only [Act.put, List.getElem_toArray, List.getElem_cons_succ, List.getElem_cons_zero, List.setIfInBounds_toArray, List.set_cons_zero, List.set_cons_succ]
  refine wpAnyH_take (i := 5) (v := ?_) rfl (by kernel_rfl) (by kernel_rfl) (by kernel_rfl) (fun _ _ _ h => h) (Or.inl ⟨by rfl, ?_⟩) hHeld ?_
  rotate_left
  · (intro w' hSw; obtain ⟨s0, s1, s2, s3, s4⟩ := hSw; go_simp; try with_reducible rfl)
  simp only [Act.put, List.getElem_toArray, List.getElem_cons_succ, List.getElem_cons_zero, List.setIfInBounds_toArray, List.set_cons_zero, List.set_cons_succ]
  refine wpAnyH_take (i := 6) (v := ?_) rfl (by kernel_rfl) (by kernel_rfl) (by kernel_rfl) (fun _ _ _ h => h) (Or.inl ⟨by rfl, ?_⟩) hHeld ?_
  rotate_left
  · (intro w' hSw; obtain ⟨s0, s1, s2, s3, s4⟩ := hSw; go_simp; try with_reducible rfl)
  simp only [Act.put, List.getElem_toArray, List.getElem_cons_succ, List.getElem_cons_zero, List.setIfInBounds_toArray, List.set_cons_zero, List.set_cons_succ]
  refine wpAnyH_take (i := 7) (v := ?_) rfl (by kernel_rfl) (by kernel_rfl) (by kernel_rfl) (fun _ _ _ h => h) (Or.inl ⟨by rfl, ?_⟩) hHeld ?_
  rotate_left
  · (intro w' hSw; obtain ⟨s0, s1, s2, s3, s4⟩ := hSw; go_simp; try with_reducible rfl)
  simp only [Act.put, List.getElem_toArray, List.getElem_cons_succ, List.getElem_cons_zero, List.setIfInBounds_toArray, List.set_cons_zero, List.set_cons_succ]
  refine wpAnyH_take (i := 9) (v := ?_) rfl (by kernel_rfl) (by kernel_rfl) (by kernel_rfl) (fun _ _ _ h => h) (Or.inl ⟨by rfl, ?_⟩) hHeld ?_
  rotate_left
  · (intro w' hSw; obtain ⟨s0, s1, s2, s3, s4⟩ := hSw; go_simp; try with_reducible rfl)
  simp only [Act.put, List.getElem_toArray, List.getElem_cons_succ, List.getElem_cons_zero, List.setIfInBounds_toArray, List.set_cons_zero, List.set_cons_succ]
  refine wpAnyH_ready (rs := [8]) (by kernel_rfl) (by simp) ?_
  refine AllReadyH.cons rfl (fun K hK => ?_) AllReadyH.nil
  go_simp
  refine (fitting_ok _ _).mono ?_
  rintro e w4 ⟨rfl, rfl⟩
  refine hK _ _ hHeld (fun hHeld => ?_)
  clear hK K
  simp only [Act.put, List.getElem_toArray, List.getElem_cons_succ, List.getElem_cons_zero, List.setIfInBounds_toArray, List.set_cons_zero, List.set_cons_succ]
  refine wpAnyH_take (i := 10) (v := ?_) rfl (by kernel_rfl) (by kernel_rfl) (by kernel_rfl) (fun _ _ _ h => h) (Or.inl ⟨by rfl, ?_⟩) hHeld ?_
  rotate_left
  · (intro w' hSw; obtain ⟨s0, s1, s2, s3, s4⟩ := hSw; go_simp; try with_reducible rfl)
  simp only [Act.put, List.getElem_toArray, List.getElem_cons_succ, List.getElem_cons_zero, List.setIfInBounds_toArray, List.set_cons_zero, List.set_cons_succ]
  refine wpAnyH_ready (rs := [11]) (by kernel_rfl) (by simp) ?_
  refine AllReadyH.cons rfl (fun K hK => ?_) AllReadyH.nil
  go_simp
  have hq := (hG3 (.int .u64 cd)).bx
  have q0 := hq.cell 0
  have q1 := hq.cell 1
  have q2 := hq.cell 2
  have q3 := hq.cell 3
  simp only [List.getElem?_toArray, List.getElem?_cons_zero, List.getElem?_cons_succ] at q0 q1 q2 q3
  have q17 : (W1.setCell ⟨w.heap.size + 1, 9 + k, none⟩ (.int .u64 cd)).cell? ⟨w.heap.size + 1, 17, none⟩ = some (.int .i64 cd) := by
    rw [World.cell?_setCell_other (h := by simp <;> omega)]; exact y17
  refine hK _ _ ⟨q0, q1, q2, q3, q17⟩ (fun hHeld => ?_)
  clear hK K hq q0 q1 q2 q3 q17 hHeld
  simp only [Act.put, List.getElem_toArray, List.getElem_cons_succ, List.getElem_cons_zero, List.setIfInBounds_toArray, List.set_cons_zero, List.set_cons_succ]
  refine wpAnyH_done (by kernel_rfl) ?_ _
  have hF2 := hG3 (.int .u64 cd)
  rw [hp] at hF2
  generalize World.drew _ = W3 at *
  clear hG3
  have hw3 : Whole 30 A2.size := by rw [hs3]; exact whole30
  have hwc : Whole 36 zC.size := whole36
  have hf3 : zG.size = A2.size := hs3.symm
  have hbg := hF2.bg
  have hbr := hF2.br
  have hbc := hF2.bc
  have hbl := hF2.bl
  have hzc1 : zC.all (·.oneCell') = true := by simp [Value.oneCell']
  go_wp2_with (first
    | (refine wpList_load_blk hbg hw3 rfl _ rfl rfl ?_)
    | (refine wpList_store_blk hbr hw3 hf3 hs4 rfl _ _ rfl rfl rfl ?_; intro w3 hB4 hC4; replace hbc := hbc.chg hC4 (by simp))
    | (refine wpList_store_blk hbc hwc rfl hzc1 rfl _ _ rfl rfl rfl ?_; intro w4 hB5 hC5))
  refine bodyPost_ret (done_res (by simp [Act.put]) (by simp [Act.put]) (by simp [Act.put]) (hB4.chg hC5 (by simp)) hw3 hB5 hwc) rfl ⟨rfl, ?_⟩
  have hz := hbl.size
  exact (hbl.trans (hC4.below (by simp; omega) hz)).trans (hC5.below (by simp; omega) (Nat.le_trans hz hC4.size))
set_option maxHeartbeats 4000000 in
set_option maxRecDepth 100000 in
theorem done_7x (V : Value) (m : Nat) (a b c : Int) (g : Gr) (hg : g.ok) (a0 : 0 ≤ a) (a1 : a < 8) (hcd : ¬ 0 ≤ g.cd) (w : World) : Calls Try.prog 18 #[.map (some m), V, .agg #[.int .u8 7, .int .u8 a, .int .u8 b, .int .u8 c], g.val] w fun e w' => e = panicOf 6 ∧ Below w.heap.size w w' := by
  have hA : g.arr.setIfInBounds 8 (.int .i64 (g.pc + 1)) = g.next.arr := rfl
  have h8 : g.arr[8]? = some (.int .i64 g.pc) := rfl
  have hs := g.next.size
  have hs2 := g.next.one
  have e1 : wrap64 (g.pc + 1) = g.pc + 1 := IntWalk.wrap64_in _ (by have := hg.p0; have := hg.p1; omega)
  obtain ⟨k, rfl⟩ : ∃ k : Nat, a = (k : Int) := ⟨a.toNat, by omega⟩
  have hp := g.next.put_cell k (by omega) g.cd
  have ht : (k : Int).toNat = k := by omega
  have hs3 := (g.next.put k g.cd).size
  have hs4 := (g.next.put k g.cd).one
  have hk9 : g.next.arr[9 + k]? = some (.int .u64 (g.next.r k)) := g.next.get_cell k (by omega)
  generalize g.next.r k = rk at *
  have h17 : g.next.arr[17]? = some (.int .i64 g.cd) := rfl
  unfold Gr.val
  generalize g.pc = pc at *
  generalize hga : g.arr = A at *
  generalize hgb : g.next.arr = A1 at *
  generalize g.cd = cd at *
  generalize hgc : (g.next.put k cd).arr = A2 at *
  obtain ⟨W, hW⟩ : ∃ W, W = frame0 w #[.int .u8 7, .int .u8 k, .int .u8 b, .int .u8 c] A := ⟨_, rfl⟩
  have hF : DoneAt w W #[.int .u8 7, .int .u8 k, .int .u8 b, .int .u8 c] A := by rw [hW]; exact doneAt_new w _ _
  have c8 := (hF.bg.cell 8).trans h8
  have f8 := hF.bg.frozen 8
  have hF1 := hF.set 8 (.int .i64 (pc + 1))
  rw [hA] at hF1
  go_enter Try.func18, Try.ntmps18
  go_upto_region 1 with (fail)
  unfold frame0 at hW
  rw [← hW]
  clear hW hF
  go_upto_region 2 with (fail)
  generalize W.setCell _ _ = W1 at *
  clear c8 f8
  have x0 := hF1.bx.cell 0
  have x1 := hF1.bx.cell 1
  have x2 := hF1.bx.cell 2
  have x3 := hF1.bx.cell 3
  simp only [List.getElem?_toArray, List.getElem?_cons_zero, List.getElem?_cons_succ] at x0 x1 x2 x3
  have y9 := (hF1.bg.cell (9 + k)).trans hk9
  have y17 := (hF1.bg.cell 17).trans h17
  have z9 := hF1.bg.frozen (9 + k)
  have hFH := Lib.hid hF1
  have hG3 := fun v => (hF1.set (9 + k) v).drew
  clear hF1 hga hgb hgc hA h8
  go_upto_region 17 with (fail)
  refine wp_region_held_drew (S := (fun w' => w'.cell? ⟨w.heap.size, 0, none⟩ = some (.int .u8 7) ∧ w'.cell? ⟨w.heap.size, 1, none⟩ = some (.int .u8 k) ∧ w'.cell? ⟨w.heap.size, 2, none⟩ = some (.int .u8 b) ∧ w'.cell? ⟨w.heap.size, 3, none⟩ = some (.int .u8 c) ∧ w'.cell? ⟨w.heap.size + 1, 17, none⟩ = some (.int .i64 cd))) (by kernel_rfl) ⟨x0, x1, x2, x3, y17⟩ (fun hHeld => ?_)
  simp only [List.setIfInBounds_toArray, List.size_toArray, List.length_cons, List.length_nil, Array.replicate]
  refine wpAnyH_take (i := 0) (v := ?_) rfl (by kernel_rfl) (by kernel_rfl) (by kernel_rfl) (fun _ _ _ h => h) (Or.inl ⟨by rfl, ?_⟩) hHeld ?_
  rotate_left
  · (intro w' hSw; obtain ⟨s0, s1, s2, s3, s4⟩ := hSw; go_simp; try with_reducible rfl)
  simp only [Act.put, List.getElem_toArray, List.getElem_cons_succ, List.getElem_cons_zero, List.setIfInBounds_toArray, List.set_cons_zero, List.set_cons_succ]
  refine wpAnyH_take (i := 1) (v := ?_) rfl (by kernel_rfl) (by kernel_rfl) (by kernel_rfl) (fun _ _ _ h => h) (Or.inl ⟨by rfl, ?_⟩) hHeld ?_
  rotate_left
  · (intro w' hSw; obtain ⟨s0, s1, s2, s3, s4⟩ := hSw; go_simp; try with_reducible rfl)
  simp only [Act.put, List.getElem_toArray, List.getElem_cons_succ, List.getElem_cons_zero, List.setIfInBounds_toArray, List.set_cons_zero, List.set_cons_succ]
  refine wpAnyH_take (i := 2) (v := ?_) rfl (by kernel_rfl) (by kernel_rfl) (by kernel_rfl) (fun _ _ _ h => h) (Or.inl ⟨by rfl, ?_⟩) hHeld ?_
  rotate_left
  · (intro w' hSw; obtain ⟨s0, s1, s2, s3, s4⟩ := hSw; go_simp; try with_reducible rfl)
  simp only [Act.put, List.getElem_toArray, List.getElem_cons_succ, List.getElem_cons_zero, List.setIfInBounds_toArray, List.set_cons_zero, List.set_cons_succ]
  refine wpAnyH_take (i := 3) (v := ?_) rfl (by kernel_rfl) (by kernel_rfl) (by kernel_rfl) (fun _ _ _ h => h) (Or.inl ⟨by rfl, ?_⟩) hHeld ?_
  rotate_left
  · (intro w' hSw; obtain ⟨s0, s1, s2, s3, s4⟩ := hSw; go_simp; try with_reducible rfl)
  simp only [Act.put, List.getElem_toArray, List.getElem_cons_succ, List.getElem_cons_zero, List.setIfInBounds_toArray, List.set_cons_zero, List.set_cons_succ]
  refine wpAnyH_take (i := 4) (v := ?_) rfl (by kernel_rfl) (by kernel_rfl) (by kernel_rfl) (fun _ _ _ h => h) (Or.inl ⟨by rfl, ?_⟩) hHeld ?_
  rotate_left
  · (intro w' hSw; obtain ⟨s0, s1, s2, s3, s4⟩ := hSw; go_simp; try with_reducible rfl)
  simp only [Act.put, List.getElem_toArray, List.getElem_cons_succ, List.getElem_cons_zero, List.setIfInBounds_toArray, List.set_cons_zero, List.set_cons_succ]
  refine wpAnyH_take (i := 5) (v := ?_) rfl (by kernel_rfl) (by kernel_rfl) (by kernel_rfl) (fun _ _ _ h => h) (Or.inl ⟨by rfl, ?_⟩) hHeld ?_
  rotate_left
  · (intro w' hSw; obtain ⟨s0, s1, s2, s3, s4⟩ := hSw; go_simp; try with_reducible rfl)
  simp only [Act.put, List.getElem_toArray, List.getElem_cons_succ, List.getElem_cons_zero, List.setIfInBounds_toArray, List.set_cons_zero, List.set_cons_succ]
  refine wpAnyH_take (i := 6) (v := ?_) rfl (by kernel_rfl) (by kernel_rfl) (by kernel_rfl) (fun _ _ _ h => h) (Or.inl ⟨by rfl, ?_⟩) hHeld ?_
  rotate_left
  · (intro w' hSw; obtain ⟨s0, s1, s2, s3, s4⟩ := hSw; go_simp; try with_reducible rfl)
  simp only [Act.put, List.getElem_toArray, List.getElem_cons_succ, List.getElem_cons_zero, List.setIfInBounds_toArray, List.set_cons_zero, List.set_cons_succ]
  refine wpAnyH_take (i := 7) (v := ?_) rfl (by kernel_rfl) (by kernel_rfl) (by kernel_rfl) (fun _ _ _ h => h) (Or.inl ⟨by rfl, ?_⟩) hHeld ?_
  rotate_left
  · (intro w' hSw; obtain ⟨s0, s1, s2, s3, s4⟩ := hSw; go_simp; try with_reducible rfl)
  simp only [Act.put, List.getElem_toArray, List.getElem_cons_succ, List.getElem_cons_zero, List.setIfInBounds_toArray, List.set_cons_zero, List.set_cons_succ]
  refine wpAnyH_take (i := 9) (v := ?_) rfl (by kernel_rfl) (by kernel_rfl) (by kernel_rfl) (fun _ _ _ h => h) (Or.inl ⟨by rfl, ?_⟩) hHeld ?_
  rotate_left
  · (intro w' hSw; obtain ⟨s0, s1, s2, s3, s4⟩ := hSw; go_simp; try with_reducible rfl)
  simp only [Act.put, List.getElem_toArray, List.getElem_cons_succ, List.getElem_cons_zero, List.setIfInBounds_toArray, List.set_cons_zero, List.set_cons_succ]
  refine wpAnyH_ready (rs := [8]) (by kernel_rfl) (by simp) ?_
  refine AllReadyH.cons rfl (fun K hK => ?_) AllReadyH.nil
  go_simp
  refine (fitting_bad _ _).mono ?_
  rintro e w4 ⟨rfl, rfl⟩
  exact ⟨rfl, rfl, below_drew hFH.out.bl⟩
end Go.Proofs
end
section
namespace Go.Proofs
open Go.RowKit
set_option linter.unusedVariables false
set_option linter.unusedSimpArgs false

set_option maxHeartbeats 4000000 in
set_option maxRecDepth 100000 in
theorem done_call (V : Value) (m : Nat) (O a b c : Int) (o1 : 17 ≤ O) (o2 : O ≤ 38) (C : Cl) (g : Gr) (hg : g.ok) (hC : ∀ w, Calls Try.prog 30 #[.int .u8 O, g.next.val] w fun e w' => e = .returned C.val ∧ Below w.heap.size w w')  (w : World) : Calls Try.prog 18 #[.map (some m), V, .agg #[.int .u8 O, .int .u8 a, .int .u8 b, .int .u8 c], g.val] w fun e w' => e = .returned (.tuple #[g.next.val, C.val, .int .i64 2]) ∧ Below w.heap.size w w' := by
  have hA : g.arr.setIfInBounds 8 (.int .i64 (g.pc + 1)) = g.next.arr := rfl
  have h8 : g.arr[8]? = some (.int .i64 g.pc) := rfl
  have hs := g.next.size
  have hs2 := g.next.one
  have e1 : wrap64 (g.pc + 1) = g.pc + 1 := IntWalk.wrap64_in _ (by have := hg.p0; have := hg.p1; omega)
  have hcs : C.arr.size = 6 := rfl
  have hcs2 := C.one
  have n0 : (O == 0) = false := by simp; omega
  have n1 : (O == 1) = false := by simp; omega
  have n2 : (O == 2) = false := by simp; omega
  have n3 : (O == 3) = false := by simp; omega
  have n4 : (O == 4) = false := by simp; omega
  have n5 : (O == 5) = false := by simp; omega
  have n6 : (O == 6) = false := by simp; omega
  have n7 : (O == 7) = false := by simp; omega
  unfold Gr.val Cl.val at hC
  unfold Gr.val Cl.val
  generalize g.pc = pc at *
  generalize hga : g.arr = A at *
  generalize hgb : g.next.arr = A1 at *
  generalize C.arr = CA at *
  obtain ⟨W, hW⟩ : ∃ W, W = frame0 w #[.int .u8 O, .int .u8 a, .int .u8 b, .int .u8 c] A := ⟨_, rfl⟩
  have hF : DoneAt w W #[.int .u8 O, .int .u8 a, .int .u8 b, .int .u8 c] A := by rw [hW]; exact doneAt_new w _ _
  have c8 := (hF.bg.cell 8).trans h8
  have f8 := hF.bg.frozen 8
  have hF1 := hF.set 8 (.int .i64 (pc + 1))
  rw [hA] at hF1
  go_enter Try.func18, Try.ntmps18
  go_upto_region 1 with (fail)
  unfold frame0 at hW
  rw [← hW]
  clear hW hF
  go_upto_region 2 with (fail)
  generalize W.setCell _ _ = W1 at *
  clear c8 f8
  have x0 := hF1.bx.cell 0
  have x1 := hF1.bx.cell 1
  have x2 := hF1.bx.cell 2
  have x3 := hF1.bx.cell 3
  simp only [List.getElem?_toArray, List.getElem?_cons_zero, List.getElem?_cons_succ] at x0 x1 x2 x3
  have hw3 : Whole 30 A1.size := by rw [hs]; exact whole30
  have hwc : Whole 36 CA.size := by rw [hcs]; exact whole36
  have hf3 : zG.size = A1.size := hs.symm
  have hfc : zC.size = CA.size := hcs.symm
  have hFH := Lib.hid hF1
  have hCH := Lib.hid hC
  have hx := hF1.bx
  have hbg := hF1.bg
  clear hC hF1 hga hgb hA h8
  go_upto_region 3 with (fail)
  refine wp_region_held_drew (S := fun w' => Blk w' w.heap.size 45 #[.int .u8 O, .int .u8 a, .int .u8 b, .int .u8 c] ∧ Blk w' (w.heap.size + 1) 30 A1) (by kernel_rfl) ⟨hx, hbg⟩ (fun hHeld => ?_)
  simp only [List.setIfInBounds_toArray, List.size_toArray, List.length_cons, List.length_nil, Array.replicate]
  refine wpAnyH_take (i := 0) (v := .agg A1) rfl (by kernel_rfl) (by kernel_rfl) (by kernel_rfl) (fun _ _ _ h => h) (Or.inl ⟨by rfl, fun w' hSw => run_load_blk hSw.2 hw3 _ (by rfl) (by rfl)⟩) hHeld ?_
  simp only [Act.put, List.getElem_toArray, List.getElem_cons_succ, List.getElem_cons_zero, List.setIfInBounds_toArray, List.set_cons_zero, List.set_cons_succ]
  refine wpAnyH_take (i := 1) (v := ?_) rfl (by kernel_rfl) (by kernel_rfl) (by kernel_rfl) (fun _ _ _ h => h) (Or.inl ⟨by rfl, ?_⟩) hHeld ?_
  rotate_left
  · (intro w' hSw; go_simp; try with_reducible rfl)
  simp only [Act.put, List.getElem_toArray, List.getElem_cons_succ, List.getElem_cons_zero, List.setIfInBounds_toArray, List.set_cons_zero, List.set_cons_succ]
  refine wpAnyH_take (i := 2) (v := ?_) rfl (by kernel_rfl) (by kernel_rfl) (by kernel_rfl) (fun _ _ _ h => h) (Or.inl ⟨by rfl, ?_⟩) hHeld ?_
  rotate_left
  · (intro w' hSw; obtain ⟨s0, s1⟩ := hSw; have q0 := s0.cell 0; simp only [List.getElem?_toArray, List.getElem?_cons_zero, List.getElem?_cons_succ] at q0; go_simp; try with_reducible rfl)
  simp only [Act.put, List.getElem_toArray, List.getElem_cons_succ, List.getElem_cons_zero, List.setIfInBounds_toArray, List.set_cons_zero, List.set_cons_succ]
  refine wpAnyH_take (i := 3) (v := .agg A1) rfl (by kernel_rfl) (by kernel_rfl) (by kernel_rfl) (fun _ _ _ h => h) (Or.inl ⟨by rfl, fun w' hSw => run_load_blk hSw.2 hw3 _ (by rfl) (by rfl)⟩) hHeld ?_
  simp only [Act.put, List.getElem_toArray, List.getElem_cons_succ, List.getElem_cons_zero, List.setIfInBounds_toArray, List.set_cons_zero, List.set_cons_succ]
  refine wpAnyH_ready (rs := [4]) (by kernel_rfl) (by simp) ?_
  refine AllReadyH.cons rfl (fun K hK => ?_) AllReadyH.nil
  go_simp
  refine (hCH.out _).mono ?_
  rintro e w2 ⟨rfl, hb2⟩
  have hG := (hFH.out.drew).below hb2
  have hx := hG.bx
  have hbg := hG.bg
  have hbr := hG.br
  have hbc := hG.bc
  have hbl := hG.bl
  clear hG
  refine hK _ _ ⟨hx, hbg⟩ (fun hHeld => ?_)
  clear hK K
  simp only [Act.put, List.getElem_toArray, List.getElem_cons_succ, List.getElem_cons_zero, List.setIfInBounds_toArray, List.set_cons_zero, List.set_cons_succ]
  refine wpAnyH_ready (rs := [5]) (by kernel_rfl) (by simp) ?_
  refine AllReadyH.cons rfl (fun K hK => ?_) AllReadyH.nil
  refine step_store_blk hbr hw3 hf3 hs2 (by rfl) _ _ (by rfl) (by rfl) (by rfl) ?_
  intro w3 hB4 hC4
  refine hK _ _ ⟨hx.chg hC4 (by simp <;> omega), hbg.chg hC4 (by simp <;> omega)⟩ (fun hHeld => ?_)
  clear hK K
  simp only [Act.put, List.getElem_toArray, List.getElem_cons_succ, List.getElem_cons_zero, List.setIfInBounds_toArray, List.set_cons_zero, List.set_cons_succ]
  refine wpAnyH_ready (rs := [6]) (by kernel_rfl) (by simp) ?_
  refine AllReadyH.cons rfl (fun K hK => ?_) AllReadyH.nil
  refine step_store_blk (hbc.chg hC4 (by simp <;> omega)) hwc hfc hcs2 (by rfl) _ _ (by rfl) (by rfl) (by rfl) ?_
  intro w4 hB5 hC5
  refine hK _ _ ⟨hHeld.1.chg hC5 (by simp <;> omega), hHeld.2.chg hC5 (by simp <;> omega)⟩ (fun hHeld => ?_)
  clear hK K
  simp only [Act.put, List.getElem_toArray, List.getElem_cons_succ, List.getElem_cons_zero, List.setIfInBounds_toArray, List.set_cons_zero, List.set_cons_succ]
  refine wpAnyH_take (i := 7) (v := ?_) rfl (by kernel_rfl) (by kernel_rfl) (by kernel_rfl) (fun _ _ _ h => h) (Or.inl ⟨by rfl, ?_⟩) hHeld ?_
  rotate_left
  · (intro w' hSw; go_simp; try with_reducible rfl)
  simp only [Act.put, List.getElem_toArray, List.getElem_cons_succ, List.getElem_cons_zero, List.setIfInBounds_toArray, List.set_cons_zero, List.set_cons_succ]
  refine wpAnyH_done (by kernel_rfl) ?_ _
  go_wp2
  refine bodyPost_ret (done_res (by simp [Act.put]) (by simp [Act.put]) (by simp [Act.put]) (hB4.chg hC5 (by simp)) hw3 hB5 hwc) rfl ⟨rfl, ?_⟩
  have hz := hbl.size
  exact (hbl.trans (hC4.below (by simp; omega) hz)).trans (hC5.below (by simp; omega) (Nat.le_trans hz hC4.size))
end Go.Proofs
end
section
namespace Go.Proofs
open Go.RowKit
set_option linter.unusedVariables false
set_option linter.unusedSimpArgs false

theorem tn (n : UInt8) : (0 : Int) ≤ n.toNat := by omega
theorem tnn (n : UInt8) : ((n.toNat : Int)).toNat = n.toNat := by omega
theorem Gr.next_ok {g : Gr} (hg : g.ok) (i : Nat) : 0 ≤ g.next.r i ∧ g.next.r i < 18446744073709551616 := ⟨hg.r0 i, hg.r1 i⟩
set_option maxRecDepth 100000 in
theorem done_any (V : Value) (l : List UInt8) (hl : l.length ≤ 1000000) (m : Nat) (x : Ins) (hx : x.is = true) (g : Gr) (hg : g.ok) (w : World) (hV : By w V l) (hfn : FnsAt w m) :
    Calls Try.prog 18 #[.map (some m), V, x.val, g.val] w fun e w' => e = outE (doneP (l.length / 4) x g) ∧ Below w.heap.size w w' := by
  have hN := number_any x
  have hJ := jump_any x
  have hJ0 := x.jump_in
  have hn0 := x.num_lt
  obtain ⟨o, a, b, c⟩ := x
  rw [Ins.val_eq] at hN hJ ⊢
  rcases kinds o with (rfl | rfl | rfl | rfl | rfl | rfl | rfl | rfl | h) | h
  · rw [show doneP (l.length / 4) ⟨0, a, b, c⟩ g = .inr (g.next, Cl.zero, 1) from rfl]
    exact done_0 V m a.toNat b.toNat c.toNat g hg w
  · have h8 : a.toNat < 8 := by simpa [Ins.is] using hx
    rw [show doneP (l.length / 4) ⟨1, a, b, c⟩ g = .inr (g.next.put a.toNat (⟨1, a, b, c⟩ : Ins).num, Cl.zero, 1) from rfl]
    have := done_1 V m a.toNat b.toNat c.toNat g hg (tn _) (by omega) (⟨1, a, b, c⟩ : Ins).num (by omega) (by omega) hN w
    rw [tnn] at this
    exact this
  · obtain ⟨ha, hb, hc⟩ : a.toNat < 8 ∧ b.toNat < 8 ∧ c.toNat < 8 := by simpa [Ins.is] using hx
    have hop := num_add (g.next.r b.toNat) (g.next.r c.toNat) (Gr.next_ok hg _).1 (Gr.next_ok hg _).1 (Gr.next_ok hg _).2 (Gr.next_ok hg _).2
    rw [show doneP (l.length / 4) ⟨2, a, b, c⟩ g = if addF (g.next.r b.toNat) (g.next.r c.toNat) then .inr (g.next.put a.toNat (addN (g.next.r b.toNat) (g.next.r c.toNat)), Cl.zero, 1) else .inl 6 from rfl]
    cases hF : addF (g.next.r b.toNat) (g.next.r c.toNat)
    · rw [hF] at hop
      exact done_2x V m a.toNat b.toNat c.toNat g hg (tn _) (by omega) (tn _) (by omega) (tn _) (by omega) _ (by rw [tnn, tnn]; exact hop) w hfn
    · rw [hF] at hop
      have := done_2 V m a.toNat b.toNat c.toNat g hg (tn _) (by omega) (tn _) (by omega) (tn _) (by omega) _ (by rw [tnn, tnn]; exact hop) w hfn
      rw [tnn] at this
      exact this
  · obtain ⟨ha, hb, hc⟩ : a.toNat < 8 ∧ b.toNat < 8 ∧ c.toNat < 8 := by simpa [Ins.is] using hx
    have hop := num_sub (g.next.r b.toNat) (g.next.r c.toNat) (Gr.next_ok hg _).1 (Gr.next_ok hg _).1 (Gr.next_ok hg _).2 (Gr.next_ok hg _).2
    rw [show doneP (l.length / 4) ⟨3, a, b, c⟩ g = if subF (g.next.r b.toNat) (g.next.r c.toNat) then .inr (g.next.put a.toNat (subN (g.next.r b.toNat) (g.next.r c.toNat)), Cl.zero, 1) else .inl 6 from rfl]
    cases hF : subF (g.next.r b.toNat) (g.next.r c.toNat)
    · rw [hF] at hop
      exact done_3x V m a.toNat b.toNat c.toNat g hg (tn _) (by omega) (tn _) (by omega) (tn _) (by omega) _ (by rw [tnn, tnn]; exact hop) w hfn
    · rw [hF] at hop
      have := done_3 V m a.toNat b.toNat c.toNat g hg (tn _) (by omega) (tn _) (by omega) (tn _) (by omega) _ (by rw [tnn, tnn]; exact hop) w hfn
      rw [tnn] at this
      exact this
  · obtain ⟨ha, hb, hc⟩ : a.toNat < 8 ∧ b.toNat < 8 ∧ c.toNat < 8 := by simpa [Ins.is] using hx
    have hop := num_mul (g.next.r b.toNat) (g.next.r c.toNat) (Gr.next_ok hg _).1 (Gr.next_ok hg _).1 (Gr.next_ok hg _).2 (Gr.next_ok hg _).2
    rw [show doneP (l.length / 4) ⟨4, a, b, c⟩ g = if mulF (g.next.r b.toNat) (g.next.r c.toNat) then .inr (g.next.put a.toNat (mulN (g.next.r b.toNat) (g.next.r c.toNat)), Cl.zero, 1) else .inl 6 from rfl]
    cases hF : mulF (g.next.r b.toNat) (g.next.r c.toNat)
    · rw [hF] at hop
      exact done_4x V m a.toNat b.toNat c.toNat g hg (tn _) (by omega) (tn _) (by omega) (tn _) (by omega) _ (by rw [tnn, tnn]; exact hop) w hfn
    · rw [hF] at hop
      have := done_4 V m a.toNat b.toNat c.toNat g hg (tn _) (by omega) (tn _) (by omega) (tn _) (by omega) _ (by rw [tnn, tnn]; exact hop) w hfn
      rw [tnn] at this
      exact this
  · rw [show doneP (l.length / 4) ⟨5, a, b, c⟩ g = if 0 ≤ g.pc + 1 + (⟨5, a, b, c⟩ : Ins).jump ∧ g.pc + 1 + (⟨5, a, b, c⟩ : Ins).jump ≤ ((l.length / 4 : Nat) : Int) then .inr ({ g.next with pc := g.pc + 1 + (⟨5, a, b, c⟩ : Ins).jump }, Cl.zero, 1) else .inl 7 from rfl]
    by_cases hp : 0 ≤ g.pc + 1 + (⟨5, a, b, c⟩ : Ins).jump ∧ g.pc + 1 + (⟨5, a, b, c⟩ : Ins).jump ≤ ((l.length / 4 : Nat) : Int)
    · rw [if_pos hp]
      exact done_5 V m a.toNat b.toNat c.toNat g hg l hl _ hJ0.1 hJ0.2 hJ hp w hV
    · rw [if_neg hp]
      exact done_5x V m a.toNat b.toNat c.toNat g hg l hl _ hJ0.1 hJ0.2 hJ hp w hV
  · have h8 : a.toNat < 8 := by simpa [Ins.is] using hx
    rw [show doneP (l.length / 4) ⟨6, a, b, c⟩ g = if g.next.r a.toNat = 0 then (if 0 ≤ g.pc + 1 + (⟨6, a, b, c⟩ : Ins).jump ∧ g.pc + 1 + (⟨6, a, b, c⟩ : Ins).jump ≤ ((l.length / 4 : Nat) : Int) then .inr ({ g.next with pc := g.pc + 1 + (⟨6, a, b, c⟩ : Ins).jump }, Cl.zero, 1) else .inl 7) else .inr (g.next, Cl.zero, 1) from rfl]
    by_cases hz : g.next.r a.toNat = 0
    · rw [if_pos hz]
      by_cases hp : 0 ≤ g.pc + 1 + (⟨6, a, b, c⟩ : Ins).jump ∧ g.pc + 1 + (⟨6, a, b, c⟩ : Ins).jump ≤ ((l.length / 4 : Nat) : Int)
      · rw [if_pos hp]
        exact done_6 V m a.toNat b.toNat c.toNat g hg l hl _ hJ0.1 hJ0.2 hJ hp (tn _) (by omega) (by rw [tnn]; exact hz) w hV
      · rw [if_neg hp]
        exact done_6x V m a.toNat b.toNat c.toNat g hg l hl _ hJ0.1 hJ0.2 hJ hp (tn _) (by omega) (by rw [tnn]; exact hz) w hV
    · rw [if_neg hz]
      exact done_6n V m a.toNat b.toNat c.toNat g hg (tn _) (by omega) (by rw [tnn]; exact hz) w
  · have h8 : a.toNat < 8 := by simpa [Ins.is] using hx
    rw [show doneP (l.length / 4) ⟨7, a, b, c⟩ g = if 0 ≤ g.cd then .inr (g.next.put a.toNat g.cd, Cl.zero, 1) else .inl 6 from rfl]
    by_cases hcd : 0 ≤ g.cd
    · rw [if_pos hcd]
      have := done_7 V m a.toNat b.toNat c.toNat g hg (tn _) (by omega) hcd w
      rw [tnn] at this
      exact this
    · rw [if_neg hcd]
      exact done_7x V m a.toNat b.toNat c.toNat g hg (tn _) (by omega) hcd w
  · have hne : ∀ k : UInt8, k.toNat < 8 → o ≠ k := fun k hk e => by subst e; omega
    rw [show doneP (l.length / 4) ⟨o, a, b, c⟩ g = .inr (g.next, ⟨(o.toNat : Int) - 16, g.next.r⟩, 2) by
      simp only [doneP]
      rw [if_neg (hne 0 (by decide)), if_neg (hne 1 (by decide)), if_neg (hne 2 (by decide)), if_neg (hne 3 (by decide)), if_neg (hne 4 (by decide)), if_neg (hne 5 (by decide)), if_neg (hne 6 (by decide)), if_neg (hne 7 (by decide))]]
    exact done_call V m o.toNat a.toNat b.toNat c.toNat (by omega) (by omega) ⟨(o.toNat : Int) - 16, g.next.r⟩ g hg (called_any o (by omega) g.next) w
  · simp only [Ins.is] at hx
    rw [if_neg (by omega), if_neg (by omega)] at hx
    simp at hx; omega
end Go.Proofs
end
section
namespace Go.Proofs
open Go.RowKit
set_option linter.unusedVariables false
set_option linter.unusedSimpArgs false

/-! ### The deferred closure -/
theorem eql_nil (w : World) : (binOp BinOp.eql 20 .nilIface .nilIface).run Try.prog w = .ok (.bool true) w := by kernel_rfl
theorem catch_idle (p q r s : Addr) (w : World) :
    CallsD Try.prog 16 #[.pointer (some p), .pointer (some q), .pointer (some r), .pointer (some s)] .returning w fun e u' w' => e = .returned (.tuple #[]) ∧ u' = .returning ∧ w' = w := by
  have hq := eql_nil
  refine callsD_of_wpS Try.func16 rfl fun c₀ cs hu => ?_
  apply wpS_seq
  apply wpS_region
  simp [wpOpsS, go_sem, recoverD, hu, Try.ntmps16, Exit.thenS]
  refine wpS_of_wp ?_
  go_wp2
  cases c₀
  simp_all [bodyPostS, results, Try.results16, Exit.thenS]

set_option maxHeartbeats 2000000 in
set_option maxRecDepth 100000 in
theorem catch_panic (p q r s : Nat) (k : Int) (g : Gr) (g' : Gr) (hk : ∀ w, Calls Try.prog 17 #[g.val, .int .i64 k] w fun e w' => e = .returned g'.val ∧ Below w.heap.size w w')
    (w : World) (B1 : Array Value) (B2 : Array Value) (hp : Blk w p 30 g.arr) (hq : Blk w q 30 B1) (hr : Blk w r 36 B2) (hs : Blk w s 37 #[.int .i64 0]) (s1 : B1.size = 19) (s2 : B2.size = 6) (nqr : q ≠ r) (nqs : q ≠ s) (nrs : r ≠ s) :
    CallsD Try.prog 16 #[.pointer (some ⟨p, 0, none⟩), .pointer (some ⟨q, 0, none⟩), .pointer (some ⟨r, 0, none⟩), .pointer (some ⟨s, 0, none⟩)] (.panicking [{ v := .iface 28 (.int .i64 k), recovered := false }]) w fun e u' w' =>
      e = .returned (.tuple #[]) ∧ u' = .panicking [{ v := .iface 28 (.int .i64 k), recovered := true }] ∧ Blk w' q 30 g'.arr ∧ Blk w' r 36 zC ∧ Blk w' s 37 #[.int .i64 4] ∧ Chg [q, r, s] w w' := by
  have hta : ∀ w : World, (Instr.typeAssert (.iface 28 (.int .i64 k)) 20 28 true).run Try.prog w = .ok (.tuple #[.int .i64 k, .bool true]) w := fun _ => by kernel_rfl
  have hkH := Lib.hid hk
  unfold Gr.val at hkH
  have hs2 := g'.one
  have hsz := g'.size
  have hsz0 := g.size
  generalize g.arr = A at *
  generalize g'.arr = A' at *
  have hw0 : Whole 30 A.size := by rw [hsz0]; exact whole30
  have hw3 : Whole 30 A'.size := by rw [hsz]; exact whole30
  have hwc : Whole 36 zC.size := whole36
  have hf3 : B1.size = A'.size := by rw [hsz, s1]
  have hzc1 : zC.all (·.oneCell') = true := by simp [Value.oneCell']
  refine callsD_of_wpS Try.func16 rfl fun c₀ cs hu => ?_
  apply wpS_seq
  apply wpS_region
  simp [wpOpsS, go_sem, recoverD, hu, Try.ntmps16, Exit.thenS, Array.replicate]
  refine wpS_of_wp ?_
  go_wp2_with (first
    | (refine wpList_load_blk hp hw0 rfl _ rfl rfl ?_)
    | (go_at_call 17; refine (hkH.out _).mono ?_; rintro e w1 ⟨rfl, hb1⟩; replace hq := hq.below hb1; replace hr := hr.below hb1; replace hs := hs.below hb1)
    | (refine wpList_store_blk hq hw3 hf3 hs2 rfl _ _ rfl rfl rfl ?_; intro w3 hB4 hC4; replace hr := hr.chg hC4 (by simp; omega); replace hs := hs.chg hC4 (by simp; omega))
    | (refine wpList_store_blk hr hwc s2 hzc1 rfl _ _ rfl rfl rfl ?_; intro w4 hB5 hC5; replace hs := hs.chg hC5 (by simp; omega); have sc := hs.cell 0; have sf := hs.frozen 0; simp only [List.getElem?_toArray, List.getElem?_cons_zero] at sc))
  have hc := (((Chg.of_below hb1).any (S := [q, r, s])).trans (hC4.mono (S' := [q, r, s]) (by simp)) (fun k hk => .inl hk)).trans (hC5.mono (S' := [q, r, s]) (by simp)) (fun k hk => .inl hk)
  have hc2 := hc.setCell (p := ⟨s, 0, none⟩) (.inl (by simp)) (.int .i64 4)
  exact ⟨rfl, _, rfl, .tuple #[], by simp [results, Try.results16], rfl, rfl, (hB4.chg hC5 (by simp; omega)).far (by simp; omega) _, hB5.far (by simp; omega) _, hs.set_ 0 (.int .i64 4), hc2⟩
end Go.Proofs
end
section
namespace Go.Proofs
open Go.RowKit
set_option linter.unusedVariables false
set_option linter.unusedSimpArgs false

/-- The frame of step. -/
structure StepAt (w W : World) (A : Array Value) : Prop where
  bg : Blk W w.heap.size 30 A
  ba : Blk W (w.heap.size + 1) 30 zG
  bc : Blk W (w.heap.size + 1 + 1) 36 zC
  bw : Blk W (w.heap.size + 1 + 1 + 1) 37 #[.int .i64 0]
  bl : Below w.heap.size w W
abbrev frameS (w : World) (A : Array Value) : World := (((w.alloc (.cells A 30)).alloc (.cells zG 30)).alloc (.cells zC 36)).alloc (.cells #[.int .i64 0] 37)
theorem stepAt_new (w : World) (A : Array Value) : StepAt w (frameS w A) A where
  bg := (((Blk.new w 30 A).alloc _).alloc _).alloc _
  ba := by have := ((Blk.new (w.alloc (.cells A 30)) 30 zG).alloc (.cells zC 36)).alloc (.cells #[.int .i64 0] 37); simpa using this
  bc := by have := (Blk.new ((w.alloc (.cells A 30)).alloc (.cells zG 30)) 36 zC).alloc (.cells #[.int .i64 0] 37); simpa using this
  bw := by have := Blk.new (((w.alloc (.cells A 30)).alloc (.cells zG 30)).alloc (.cells zC 36)) 37 #[.int .i64 0]; simpa using this
  bl := ((((Below.refl _ _).alloc (Nat.le_refl _) _).alloc (by simp) _).alloc (by simp <;> omega) _).alloc (by simp <;> omega) _
theorem StepAt.below {w W W' : World} {A : Array Value} (h : StepAt w W A) (hb : Below W.heap.size W W') : StepAt w W' A where
  bg := h.bg.below hb
  ba := h.ba.below hb
  bc := h.bc.below hb
  bw := h.bw.below hb
  bl := h.bl.trans (hb.mono h.bl.size)
theorem StepAt.drew {w W : World} {A : Array Value} (h : StepAt w W A) : StepAt w W.drew A := ⟨h.bg, h.ba, h.bc, h.bw, below_drew h.bl⟩
theorem StepAt.alloc {w W : World} {A : Array Value} (h : StepAt w W A) (o : Obj) : StepAt w (W.alloc o) A := ⟨h.bg.alloc _, h.ba.alloc _, h.bc.alloc _, h.bw.alloc _, h.bl.alloc h.bl.size _⟩
theorem run_loadVar_int {w : World} {b : Nat} {t t' : TypeId} {v : Value} (hB : Blk w b t' #[v]) (hu : Try.prog.underlying t = some (.int .i64)) : (loadVar t ⟨b, 0, none⟩).run Try.prog w = .ok v w := by
  have h0 := hB.cell 0
  simp only [List.getElem?_toArray, List.getElem?_cons_zero] at h0
  have ha : (isAgg t).run Try.prog w = .ok false w := by
    unfold isAgg
    rw [Sem.run_bind, run_underlying hu w]
    rfl
  unfold loadVar
  rw [Sem.run_bind, ha]
  simp [go_sem, h0]
/-- What step hands back. -/
theorem step_res {tmps : Array Value} {w : World} {b6 b7 b8 : Nat} {A C : Array Value} {k : Int} (h6 : tmps[6]? = some (.pointer (some ⟨b6, 0, none⟩))) (h7 : tmps[7]? = some (.pointer (some ⟨b7, 0, none⟩))) (h8 : tmps[8]? = some (.pointer (some ⟨b8, 0, none⟩)))
    (hB : Blk w b6 30 A) (hw : Whole 30 A.size) (hC : Blk w b7 36 C) (hw2 : Whole 36 C.size) (hK : Blk w b8 37 #[.int .i64 k]) : (results Try.f12 tmps).run Try.prog w = .ok (.tuple #[.agg A, .agg C, .int .i64 k]) w := by
  have e1 := run_loadVar_blk hB hw
  have e2 := run_loadVar_blk hC hw2
  have e3 := run_loadVar_int hK Try.underlying37
  simp [results, Try.results12, asAddr, h6, h7, h8, e1, e2, e3]
theorem leaves_same {P : Program} {fn : Func} {t t' : Array Value} {R : Ending → World → Prop} (h : results fn t = results fn t') : ∀ (ds : List Deferred) (u : FrameMode) (w : World), Leaves P fn t R ds u w → Leaves P fn t' R ds u w
  | [], .returning, w, hl => by
    simp only [Leaves] at hl ⊢
    rw [← h]; exact hl
  | [], .panicking c, w, hl => hl
  | [], .run, w, hl => hl
  | d :: ds, u, w, hl => by
    obtain ⟨h1, fv, cap, f, args, h2, h3, h4⟩ := hl
    refine ⟨h1, fv, cap, f, args, h2, h3, h4.mono fun e u' w' he => ?_⟩
    cases e with
    | returned v => exact leaves_same h ds _ _ he
    | panicked c => exact leaves_same h ds _ _ he
    | outgrown => exact he
theorem panicD_put {R : Ending → World → Prop} {d : Nat} {v : Value} (h6 : d ≠ 6) (h7 : d ≠ 7) (h8 : d ≠ 8) {c : List PanicEntry} {a : Act} {w : World} (h : bodyPostD Try.prog Try.f12 R (.panic c) (a.put (some d) v) w) : bodyPostD Try.prog Try.f12 R (.panic c) a w := by
  refine leaves_same (t := (a.put (some d) v).tmps) ?_ _ _ _ h
  have g6 : (a.tmps.setIfInBounds d v).getD 6 undef = a.tmps.getD 6 undef := by simp [h6]
  have g7 : (a.tmps.setIfInBounds d v).getD 7 undef = a.tmps.getD 7 undef := by simp [h7]
  have g8 : (a.tmps.setIfInBounds d v).getD 8 undef = a.tmps.getD 8 undef := by simp [h8]
  simp only [Act.put, results, Try.results12]
  simp only [List.mapM_toArray, List.mapM_cons, List.mapM_nil, g6, g7, g8]
end Go.Proofs
end
section
namespace Go.Proofs
open Go.RowKit
set_option linter.unusedVariables false
set_option linter.unusedSimpArgs false

set_option maxHeartbeats 4000000 in
set_option maxRecDepth 100000 in
theorem step_over4 (V : Value) (m : Nat) (O a b c E pc : Int) (g : Gr) (n : Nat) (w : World) (h8 : g.arr[8]? = some (.int .i64 pc))
    (hDec : ∀ W, Below w.heap.size w W → Calls Try.prog 14 #[V, .int .i64 pc] W fun e w' => e = .returned (.tuple #[.agg #[.int .u8 O, .int .u8 a, .int .u8 b, .int .u8 c], .int .i64 E]) ∧ Below W.heap.size W w')
    (hLen : ∀ W, Below w.heap.size w W → Calls Try.prog 15 #[V] W fun e w' => e = .returned (.int .i64 n) ∧ w' = W)
    (he : E = 4) : Calls Try.prog 12 #[.map (some m), V, g.val] w fun e w' => e = .returned (.tuple #[g.val, Cl.zero.val, .int .i64 3]) ∧ Below w.heap.size w w' := by
  have hs := g.size
  have hs2 := g.one
  subst he
  unfold Gr.val Cl.val
  rw [Cl.zero_arr]
  generalize hga : g.arr = A at *
  have hmf : ∀ (fn : Fn) (first cap : Array Value) (w : World), (Instr.makeFunc fn first cap).run Try.prog w = .ok (.func fn first cap) w := fun _ _ _ _ => rfl
  obtain ⟨W, hW⟩ : ∃ W, W = frameS w A := ⟨_, rfl⟩
  have hF : StepAt w W A := by rw [hW]; exact stepAt_new w _
  have c8 := (hF.bg.cell 8).trans h8
  have hWs : W.heap.size = w.heap.size + 1 + 1 + 1 + 1 := by rw [hW]; simp
  have hDH := Lib.hid hDec
  have hLH := Lib.hid hLen
  have hFH := Lib.hid hF
  clear hDec hLen
  go_enter_defers Try.func12, Try.ntmps12
  go_upto_region 1 with (fail)
  unfold frameS at hW
  rw [← hW]
  clear hW hF
  go_upto_region 2 with (go_at_call 14; refine (hDH.out _ hFH.out.bl).mono ?_; rintro e w1 ⟨rfl, hb1⟩)
  obtain ⟨W1, hW1⟩ : ∃ W1, W1 = w1.alloc (.cells #[.int .u8 O, .int .u8 a, .int .u8 b, .int .u8 c] 45) := ⟨_, rfl⟩
  have hF1 : StepAt w W1 A := by rw [hW1]; exact (hFH.out.below hb1).alloc _
  have hx : Blk W1 w1.heap.size 45 #[.int .u8 O, .int .u8 a, .int .u8 b, .int .u8 c] := by rw [hW1]; exact Blk.new w1 45 _
  have hDs : w.heap.size + 4 ≤ w1.heap.size := by have := hb1.size; omega
  rw [← hW1]
  clear hW1 hb1 c8
  generalize w1.heap.size = D at *
  have c8 := (hF1.bg.cell 8).trans h8
  refine wp_region_noPanic ?_
  refine wp_region_held_drew (S := fun w' => w'.cell? ⟨w.heap.size, 8, none⟩ = some (.int .i64 pc)) (by kernel_rfl) c8 (fun hHeld => ?_)
  simp only [List.setIfInBounds_toArray, List.size_toArray, List.length_cons, List.length_nil, Array.replicate]
  refine wpAnyH_take (i := 0) (v := ?_) rfl (by kernel_rfl) (by kernel_rfl) (by kernel_rfl) (fun _ _ _ h => h) (Or.inl ⟨by rfl, ?_⟩) hHeld ?_
  rotate_left
  · (intro w' hSw; go_simp; try with_reducible rfl)
  simp only [Act.put, List.getElem_toArray, List.getElem_cons_succ, List.getElem_cons_zero, List.setIfInBounds_toArray, List.set_cons_zero, List.set_cons_succ]
  refine wpAnyH_take (i := 1) (v := ?_) rfl (by kernel_rfl) (by kernel_rfl) (by kernel_rfl) (fun _ _ _ h => h) (Or.inl ⟨by rfl, ?_⟩) hHeld ?_
  rotate_left
  · (intro w' hSw; go_simp; try with_reducible rfl)
  simp only [Act.put, List.getElem_toArray, List.getElem_cons_succ, List.getElem_cons_zero, List.setIfInBounds_toArray, List.set_cons_zero, List.set_cons_succ]
  refine wpAnyH_take (i := 2) (v := ?_) rfl (by kernel_rfl) (by kernel_rfl) (by kernel_rfl) (fun _ _ _ h => h) (Or.inl ⟨by rfl, ?_⟩) hHeld ?_
  rotate_left
  · (intro w' hSw; go_simp; try with_reducible rfl)
  simp only [Act.put, List.getElem_toArray, List.getElem_cons_succ, List.getElem_cons_zero, List.setIfInBounds_toArray, List.set_cons_zero, List.set_cons_succ]
  refine wpAnyH_take (i := 3) (v := undef) rfl (by kernel_rfl) (by kernel_rfl) (by kernel_rfl) (fun _ _ _ h => h) (Or.inr ⟨by kernel_rfl, rfl⟩) hHeld ?_
  simp only [Act.put, List.getElem_toArray, List.getElem_cons_succ, List.getElem_cons_zero, List.setIfInBounds_toArray, List.set_cons_zero, List.set_cons_succ]
  refine wpAnyH_take (i := 4) (v := undef) rfl (by kernel_rfl) (by kernel_rfl) (by kernel_rfl) (fun _ _ _ h => h) (Or.inr ⟨by kernel_rfl, rfl⟩) hHeld ?_
  simp only [Act.put, List.getElem_toArray, List.getElem_cons_succ, List.getElem_cons_zero, List.setIfInBounds_toArray, List.set_cons_zero, List.set_cons_succ]
  refine wpAnyH_take (i := 5) (v := undef) rfl (by kernel_rfl) (by kernel_rfl) (by kernel_rfl) (fun _ _ _ h => h) (Or.inr ⟨by kernel_rfl, rfl⟩) hHeld ?_
  simp only [Act.put, List.getElem_toArray, List.getElem_cons_succ, List.getElem_cons_zero, List.setIfInBounds_toArray, List.set_cons_zero, List.set_cons_succ]
  refine wpAnyH_take (i := 6) (v := undef) rfl (by kernel_rfl) (by kernel_rfl) (by kernel_rfl) (fun _ _ _ h => h) (Or.inr ⟨by kernel_rfl, rfl⟩) hHeld ?_
  simp only [Act.put, List.getElem_toArray, List.getElem_cons_succ, List.getElem_cons_zero, List.setIfInBounds_toArray, List.set_cons_zero, List.set_cons_succ]
  refine wpAnyH_take (i := 7) (v := undef) rfl (by kernel_rfl) (by kernel_rfl) (by kernel_rfl) (fun _ _ _ h => h) (Or.inr ⟨by kernel_rfl, rfl⟩) hHeld ?_
  simp only [Act.put, List.getElem_toArray, List.getElem_cons_succ, List.getElem_cons_zero, List.setIfInBounds_toArray, List.set_cons_zero, List.set_cons_succ]
  refine wpAnyH_take (i := 8) (v := ?_) rfl (by kernel_rfl) (by kernel_rfl) (by kernel_rfl) (fun _ _ _ h => h) (Or.inl ⟨by rfl, ?_⟩) hHeld ?_
  rotate_left
  · (intro w' hSw; go_simp; try with_reducible rfl)
  simp only [Act.put, List.getElem_toArray, List.getElem_cons_succ, List.getElem_cons_zero, List.setIfInBounds_toArray, List.set_cons_zero, List.set_cons_succ]
  refine wpAnyH_done (by kernel_rfl) ?_ _
  refine NoPanic.normal ?_
  replace hF1 := hF1.drew
  have hbg := hF1.bg
  have hba := hF1.ba
  have hbc := hF1.bc
  have hbw := hF1.bw
  have hbl := hF1.bl
  have hw3 : Whole 30 A.size := by rw [hs]; exact whole30
  have hwc : Whole 36 zC.size := whole36
  have hf3 : zG.size = A.size := hs.symm
  have hzc1 : zC.all (·.oneCell') = true := by simp [Value.oneCell']
  clear hF1 hFH
  go_wp2_with (first
    | (refine wpList_load_blk hbg hw3 rfl _ rfl rfl ?_)
    | (refine wpList_store_blk hba hw3 hf3 hs2 rfl _ _ rfl rfl rfl ?_; intro w3 hB4 hC4; replace hbc := hbc.chg hC4 (by simp); replace hbw := hbw.chg hC4 (by simp <;> omega))
    | (refine wpList_store_blk hbc hwc rfl hzc1 rfl _ _ rfl rfl rfl ?_; intro w4 hB5 hC5; replace hbw := hbw.chg hC5 (by simp); have sc := hbw.cell 0; have sf := hbw.frozen 0; simp only [List.getElem?_toArray, List.getElem?_cons_zero] at sc))
  have hz := hbl.size
  have hbe := ((hbl.trans (hC4.below (by simp) hz)).trans (hC5.below (by simp <;> omega) (Nat.le_trans hz hC4.size))).setCell (p := ⟨w.heap.size + 1 + 1 + 1, 0, none⟩) (by simp <;> omega) (.int .i64 3)
  refine ⟨_, step_res (by simp [Act.put]) (by simp [Act.put]) (by simp [Act.put]) ((hB4.chg hC5 (by simp)).far (by simp <;> omega) _) hw3 (hB5.far (by simp) _) hwc (hbw.set_ 0 (.int .i64 3)), rfl, hbe⟩
set_option maxHeartbeats 4000000 in
set_option maxRecDepth 100000 in
theorem step_over (V : Value) (m : Nat) (O a b c E pc : Int) (g : Gr) (n : Nat) (w : World) (h8 : g.arr[8]? = some (.int .i64 pc))
    (hDec : ∀ W, Below w.heap.size w W → Calls Try.prog 14 #[V, .int .i64 pc] W fun e w' => e = .returned (.tuple #[.agg #[.int .u8 O, .int .u8 a, .int .u8 b, .int .u8 c], .int .i64 E]) ∧ Below W.heap.size W w')
    (hLen : ∀ W, Below w.heap.size w W → Calls Try.prog 15 #[V] W fun e w' => e = .returned (.int .i64 n) ∧ w' = W)
    (he : E ≠ 4) (hn : (n : Int) < pc) : Calls Try.prog 12 #[.map (some m), V, g.val] w fun e w' => e = .returned (.tuple #[g.val, Cl.zero.val, .int .i64 3]) ∧ Below w.heap.size w w' := by
  have hs := g.size
  have hs2 := g.one
  have q4 : (E == 4) = false := by simpa using he
  unfold Gr.val Cl.val
  rw [Cl.zero_arr]
  generalize hga : g.arr = A at *
  have hmf : ∀ (fn : Fn) (first cap : Array Value) (w : World), (Instr.makeFunc fn first cap).run Try.prog w = .ok (.func fn first cap) w := fun _ _ _ _ => rfl
  obtain ⟨W, hW⟩ : ∃ W, W = frameS w A := ⟨_, rfl⟩
  have hF : StepAt w W A := by rw [hW]; exact stepAt_new w _
  have c8 := (hF.bg.cell 8).trans h8
  have hWs : W.heap.size = w.heap.size + 1 + 1 + 1 + 1 := by rw [hW]; simp
  have hDH := Lib.hid hDec
  have hLH := Lib.hid hLen
  have hFH := Lib.hid hF
  clear hDec hLen
  go_enter_defers Try.func12, Try.ntmps12
  go_upto_region 1 with (fail)
  unfold frameS at hW
  rw [← hW]
  clear hW hF
  go_upto_region 2 with (go_at_call 14; refine (hDH.out _ hFH.out.bl).mono ?_; rintro e w1 ⟨rfl, hb1⟩)
  obtain ⟨W1, hW1⟩ : ∃ W1, W1 = w1.alloc (.cells #[.int .u8 O, .int .u8 a, .int .u8 b, .int .u8 c] 45) := ⟨_, rfl⟩
  have hF1 : StepAt w W1 A := by rw [hW1]; exact (hFH.out.below hb1).alloc _
  have hx : Blk W1 w1.heap.size 45 #[.int .u8 O, .int .u8 a, .int .u8 b, .int .u8 c] := by rw [hW1]; exact Blk.new w1 45 _
  have hDs : w.heap.size + 4 ≤ w1.heap.size := by have := hb1.size; omega
  rw [← hW1]
  clear hW1 hb1 c8
  generalize w1.heap.size = D at *
  have c8 := (hF1.bg.cell 8).trans h8
  refine wp_region_noPanic ?_
  refine wp_region_held_drew (S := fun w' => w'.cell? ⟨w.heap.size, 8, none⟩ = some (.int .i64 pc)) (by kernel_rfl) c8 (fun hHeld => ?_)
  simp only [List.setIfInBounds_toArray, List.size_toArray, List.length_cons, List.length_nil, Array.replicate]
  refine wpAnyH_take (i := 0) (v := ?_) rfl (by kernel_rfl) (by kernel_rfl) (by kernel_rfl) (fun _ _ _ h => h) (Or.inl ⟨by rfl, ?_⟩) hHeld ?_
  rotate_left
  · (intro w' hSw; go_simp; try with_reducible rfl)
  simp only [Act.put, List.getElem_toArray, List.getElem_cons_succ, List.getElem_cons_zero, List.setIfInBounds_toArray, List.set_cons_zero, List.set_cons_succ]
  refine wpAnyH_take (i := 1) (v := ?_) rfl (by kernel_rfl) (by kernel_rfl) (by kernel_rfl) (fun _ _ _ h => h) (Or.inl ⟨by rfl, ?_⟩) hHeld ?_
  rotate_left
  · (intro w' hSw; go_simp; try with_reducible rfl)
  simp only [Act.put, List.getElem_toArray, List.getElem_cons_succ, List.getElem_cons_zero, List.setIfInBounds_toArray, List.set_cons_zero, List.set_cons_succ]
  refine wpAnyH_take (i := 2) (v := ?_) rfl (by kernel_rfl) (by kernel_rfl) (by kernel_rfl) (fun _ _ _ h => h) (Or.inl ⟨by rfl, ?_⟩) hHeld ?_
  rotate_left
  · (intro w' hSw; go_simp; try with_reducible rfl)
  simp only [Act.put, List.getElem_toArray, List.getElem_cons_succ, List.getElem_cons_zero, List.setIfInBounds_toArray, List.set_cons_zero, List.set_cons_succ]
  refine wpAnyH_take (i := 3) (v := ?_) rfl (by kernel_rfl) (by kernel_rfl) (by kernel_rfl) (fun _ _ _ h => h) (Or.inl ⟨by rfl, ?_⟩) hHeld ?_
  rotate_left
  · (intro w' hSw; go_simp; try with_reducible rfl)
  simp only [Act.put, List.getElem_toArray, List.getElem_cons_succ, List.getElem_cons_zero, List.setIfInBounds_toArray, List.set_cons_zero, List.set_cons_succ]
  refine wpAnyH_take (i := 4) (v := ?_) rfl (by kernel_rfl) (by kernel_rfl) (by kernel_rfl) (fun _ _ _ h => h) (Or.inl ⟨by rfl, ?_⟩) hHeld ?_
  rotate_left
  · (intro w' hSw; go_simp; try with_reducible rfl)
  simp only [Act.put, List.getElem_toArray, List.getElem_cons_succ, List.getElem_cons_zero, List.setIfInBounds_toArray, List.set_cons_zero, List.set_cons_succ]
  refine wpAnyH_take (i := 5) (v := ?_) rfl (by kernel_rfl) (by kernel_rfl) (by kernel_rfl) (fun _ _ _ h => h) (Or.inl ⟨by rfl, ?_⟩) hHeld ?_
  rotate_left
  · (intro w' hSw; go_simp; try with_reducible rfl)
  simp only [Act.put, List.getElem_toArray, List.getElem_cons_succ, List.getElem_cons_zero, List.setIfInBounds_toArray, List.set_cons_zero, List.set_cons_succ]
  refine wpAnyH_ready (rs := [6]) (by kernel_rfl) (by simp) ?_
  refine AllReadyH.cons rfl (fun K hK => ?_) AllReadyH.nil
  go_simp
  refine (hLH.out _ (below_drew hF1.bl)).mono ?_
  rintro e w2 ⟨rfl, rfl⟩
  refine hK _ _ hHeld (fun hHeld => ?_)
  clear hK K
  simp only [Act.put, List.getElem_toArray, List.getElem_cons_succ, List.getElem_cons_zero, List.setIfInBounds_toArray, List.set_cons_zero, List.set_cons_succ]
  refine wpAnyH_take (i := 7) (v := ?_) rfl (by kernel_rfl) (by kernel_rfl) (by kernel_rfl) (fun _ _ _ h => h) (Or.inl ⟨by rfl, ?_⟩) hHeld ?_
  rotate_left
  · (intro w' hSw; go_simp; try with_reducible rfl)
  simp only [Act.put, List.getElem_toArray, List.getElem_cons_succ, List.getElem_cons_zero, List.setIfInBounds_toArray, List.set_cons_zero, List.set_cons_succ]
  refine wpAnyH_take (i := 8) (v := ?_) rfl (by kernel_rfl) (by kernel_rfl) (by kernel_rfl) (fun _ _ _ h => h) (Or.inl ⟨by rfl, ?_⟩) hHeld ?_
  rotate_left
  · (intro w' hSw; go_simp; try with_reducible rfl)
  simp only [Act.put, List.getElem_toArray, List.getElem_cons_succ, List.getElem_cons_zero, List.setIfInBounds_toArray, List.set_cons_zero, List.set_cons_succ]
  refine wpAnyH_done (by kernel_rfl) ?_ _
  refine NoPanic.normal ?_
  replace hF1 := hF1.drew
  have hbg := hF1.bg
  have hba := hF1.ba
  have hbc := hF1.bc
  have hbw := hF1.bw
  have hbl := hF1.bl
  have hw3 : Whole 30 A.size := by rw [hs]; exact whole30
  have hwc : Whole 36 zC.size := whole36
  have hf3 : zG.size = A.size := hs.symm
  have hzc1 : zC.all (·.oneCell') = true := by simp [Value.oneCell']
  clear hF1 hFH
  go_wp2_with (first
    | (refine wpList_load_blk hbg hw3 rfl _ rfl rfl ?_)
    | (refine wpList_store_blk hba hw3 hf3 hs2 rfl _ _ rfl rfl rfl ?_; intro w3 hB4 hC4; replace hbc := hbc.chg hC4 (by simp); replace hbw := hbw.chg hC4 (by simp <;> omega))
    | (refine wpList_store_blk hbc hwc rfl hzc1 rfl _ _ rfl rfl rfl ?_; intro w4 hB5 hC5; replace hbw := hbw.chg hC5 (by simp); have sc := hbw.cell 0; have sf := hbw.frozen 0; simp only [List.getElem?_toArray, List.getElem?_cons_zero] at sc))
  have hz := hbl.size
  have hbe := ((hbl.trans (hC4.below (by simp) hz)).trans (hC5.below (by simp <;> omega) (Nat.le_trans hz hC4.size))).setCell (p := ⟨w.heap.size + 1 + 1 + 1, 0, none⟩) (by simp <;> omega) (.int .i64 3)
  refine ⟨_, step_res (by simp [Act.put]) (by simp [Act.put]) (by simp [Act.put]) ((hB4.chg hC5 (by simp)).far (by simp <;> omega) _) hw3 (hB5.far (by simp) _) hwc (hbw.set_ 0 (.int .i64 3)), rfl, hbe⟩
end Go.Proofs
end
section
namespace Go.Proofs
open Go.RowKit
set_option linter.unusedVariables false
set_option linter.unusedSimpArgs false

set_option maxHeartbeats 4000000 in
set_option maxRecDepth 100000 in
theorem step_one_bad (V : Value) (m : Nat) (O a b c E pc : Int) (g : Gr) (n : Nat) (w : World) (h8 : g.arr[8]? = some (.int .i64 pc))
    (hDec : ∀ W, Below w.heap.size w W → Calls Try.prog 14 #[V, .int .i64 pc] W fun e w' => e = .returned (.tuple #[.agg #[.int .u8 O, .int .u8 a, .int .u8 b, .int .u8 c], .int .i64 E]) ∧ Below W.heap.size W w')
    (hLen : ∀ W, Below w.heap.size w W → Calls Try.prog 15 #[V] W fun e w' => e = .returned (.int .i64 n) ∧ w' = W)
    (he : E ≠ 4) (hn : (pc : Int) ≤ n) (k : Int) (g' : Gr) (hbad : ∀ w, Calls Try.prog 17 #[g.val, .int .i64 k] w fun e w' => e = .returned g'.val ∧ Below w.heap.size w w') (hOne : ∀ W, Calls Try.prog 19 #[.agg #[.int .u8 O, .int .u8 a, .int .u8 b, .int .u8 c], .int .i64 E] W fun e w' => e = panicOf k ∧ Below W.heap.size W w') : Calls Try.prog 12 #[.map (some m), V, g.val] w fun e w' => e = .returned (.tuple #[g'.val, Cl.zero.val, .int .i64 4]) ∧ Below w.heap.size w w' := by
  have hs := g.size
  have hs2 := g.one
  have q4 : (E == 4) = false := by simpa using he
  have hs4 := g'.size
  have hcp := fun W hp hq hr hs => catch_panic w.heap.size (w.heap.size + 1) (w.heap.size + 1 + 1) (w.heap.size + 1 + 1 + 1) k g g' hbad W zG zC hp hq hr hs rfl rfl (by omega) (by omega) (by omega)
  unfold Gr.val Cl.val
  rw [Cl.zero_arr]
  generalize hga : g.arr = A at *
  generalize hgb : g'.arr = A4 at *
  have hmf : ∀ (fn : Fn) (first cap : Array Value) (w : World), (Instr.makeFunc fn first cap).run Try.prog w = .ok (.func fn first cap) w := fun _ _ _ _ => rfl
  obtain ⟨W, hW⟩ : ∃ W, W = frameS w A := ⟨_, rfl⟩
  have hF : StepAt w W A := by rw [hW]; exact stepAt_new w _
  have c8 := (hF.bg.cell 8).trans h8
  have hWs : W.heap.size = w.heap.size + 1 + 1 + 1 + 1 := by rw [hW]; simp
  have hDH := Lib.hid hDec
  have hLH := Lib.hid hLen
  have hFH := Lib.hid hF
  clear hDec hLen
  go_enter_defers Try.func12, Try.ntmps12
  go_upto_region 1 with (fail)
  unfold frameS at hW
  rw [← hW]
  clear hW hF
  go_upto_region 2 with (go_at_call 14; refine (hDH.out _ hFH.out.bl).mono ?_; rintro e w1 ⟨rfl, hb1⟩)
  obtain ⟨W1, hW1⟩ : ∃ W1, W1 = w1.alloc (.cells #[.int .u8 O, .int .u8 a, .int .u8 b, .int .u8 c] 45) := ⟨_, rfl⟩
  have hF1 : StepAt w W1 A := by rw [hW1]; exact (hFH.out.below hb1).alloc _
  have hx : Blk W1 w1.heap.size 45 #[.int .u8 O, .int .u8 a, .int .u8 b, .int .u8 c] := by rw [hW1]; exact Blk.new w1 45 _
  have hDs : w.heap.size + 4 ≤ w1.heap.size := by have := hb1.size; omega
  rw [← hW1]
  clear hW1 hb1 c8
  generalize w1.heap.size = D at *
  have c8 := (hF1.bg.cell 8).trans h8
  refine wp_region_noPanic ?_
  refine wp_region_held_drew (S := fun w' => w'.cell? ⟨w.heap.size, 8, none⟩ = some (.int .i64 pc)) (by kernel_rfl) c8 (fun hHeld => ?_)
  simp only [List.setIfInBounds_toArray, List.size_toArray, List.length_cons, List.length_nil, Array.replicate]
  refine wpAnyH_take (i := 0) (v := ?_) rfl (by kernel_rfl) (by kernel_rfl) (by kernel_rfl) (fun _ _ _ h => h) (Or.inl ⟨by rfl, ?_⟩) hHeld ?_
  rotate_left
  · (intro w' hSw; go_simp; try with_reducible rfl)
  simp only [Act.put, List.getElem_toArray, List.getElem_cons_succ, List.getElem_cons_zero, List.setIfInBounds_toArray, List.set_cons_zero, List.set_cons_succ]
  refine wpAnyH_take (i := 1) (v := ?_) rfl (by kernel_rfl) (by kernel_rfl) (by kernel_rfl) (fun _ _ _ h => h) (Or.inl ⟨by rfl, ?_⟩) hHeld ?_
  rotate_left
  · (intro w' hSw; go_simp; try with_reducible rfl)
  simp only [Act.put, List.getElem_toArray, List.getElem_cons_succ, List.getElem_cons_zero, List.setIfInBounds_toArray, List.set_cons_zero, List.set_cons_succ]
  refine wpAnyH_take (i := 2) (v := ?_) rfl (by kernel_rfl) (by kernel_rfl) (by kernel_rfl) (fun _ _ _ h => h) (Or.inl ⟨by rfl, ?_⟩) hHeld ?_
  rotate_left
  · (intro w' hSw; go_simp; try with_reducible rfl)
  simp only [Act.put, List.getElem_toArray, List.getElem_cons_succ, List.getElem_cons_zero, List.setIfInBounds_toArray, List.set_cons_zero, List.set_cons_succ]
  refine wpAnyH_take (i := 3) (v := ?_) rfl (by kernel_rfl) (by kernel_rfl) (by kernel_rfl) (fun _ _ _ h => h) (Or.inl ⟨by rfl, ?_⟩) hHeld ?_
  rotate_left
  · (intro w' hSw; go_simp; try with_reducible rfl)
  simp only [Act.put, List.getElem_toArray, List.getElem_cons_succ, List.getElem_cons_zero, List.setIfInBounds_toArray, List.set_cons_zero, List.set_cons_succ]
  refine wpAnyH_take (i := 4) (v := ?_) rfl (by kernel_rfl) (by kernel_rfl) (by kernel_rfl) (fun _ _ _ h => h) (Or.inl ⟨by rfl, ?_⟩) hHeld ?_
  rotate_left
  · (intro w' hSw; go_simp; try with_reducible rfl)
  simp only [Act.put, List.getElem_toArray, List.getElem_cons_succ, List.getElem_cons_zero, List.setIfInBounds_toArray, List.set_cons_zero, List.set_cons_succ]
  refine wpAnyH_take (i := 5) (v := ?_) rfl (by kernel_rfl) (by kernel_rfl) (by kernel_rfl) (fun _ _ _ h => h) (Or.inl ⟨by rfl, ?_⟩) hHeld ?_
  rotate_left
  · (intro w' hSw; go_simp; try with_reducible rfl)
  simp only [Act.put, List.getElem_toArray, List.getElem_cons_succ, List.getElem_cons_zero, List.setIfInBounds_toArray, List.set_cons_zero, List.set_cons_succ]
  refine wpAnyH_ready (rs := [6]) (by kernel_rfl) (by simp) ?_
  refine AllReadyH.cons rfl (fun K hK => ?_) AllReadyH.nil
  go_simp
  refine (hLH.out _ (below_drew hF1.bl)).mono ?_
  rintro e w2 ⟨rfl, rfl⟩
  refine hK _ _ hHeld (fun hHeld => ?_)
  clear hK K
  simp only [Act.put, List.getElem_toArray, List.getElem_cons_succ, List.getElem_cons_zero, List.setIfInBounds_toArray, List.set_cons_zero, List.set_cons_succ]
  refine wpAnyH_take (i := 7) (v := ?_) rfl (by kernel_rfl) (by kernel_rfl) (by kernel_rfl) (fun _ _ _ h => h) (Or.inl ⟨by rfl, ?_⟩) hHeld ?_
  rotate_left
  · (intro w' hSw; go_simp; try with_reducible rfl)
  simp only [Act.put, List.getElem_toArray, List.getElem_cons_succ, List.getElem_cons_zero, List.setIfInBounds_toArray, List.set_cons_zero, List.set_cons_succ]
  refine wpAnyH_take (i := 8) (v := ?_) rfl (by kernel_rfl) (by kernel_rfl) (by kernel_rfl) (fun _ _ _ h => h) (Or.inl ⟨by rfl, ?_⟩) hHeld ?_
  rotate_left
  · (intro w' hSw; go_simp; try with_reducible rfl)
  simp only [Act.put, List.getElem_toArray, List.getElem_cons_succ, List.getElem_cons_zero, List.setIfInBounds_toArray, List.set_cons_zero, List.set_cons_succ]
  refine wpAnyH_done (by kernel_rfl) ?_ _
  refine NoPanic.normal ?_
  replace hF1 := hF1.drew
  replace hx := hx.drew
  have hw3 : Whole 30 A.size := by rw [hs]; exact whole30
  have hwc : Whole 36 zC.size := whole36
  clear hFH c8
  go_upto_region 5 with (fail)
  have x0 := hx.cell 0
  have x1 := hx.cell 1
  have x2 := hx.cell 2
  have x3 := hx.cell 3
  simp only [List.getElem?_toArray, List.getElem?_cons_zero, List.getElem?_cons_succ] at x0 x1 x2 x3
  refine wp_region_held_drew (S := fun w' => (w'.cell? ⟨D, 0, none⟩ = some (.int .u8 O) ∧ w'.cell? ⟨D, 1, none⟩ = some (.int .u8 a) ∧ w'.cell? ⟨D, 2, none⟩ = some (.int .u8 b) ∧ w'.cell? ⟨D, 3, none⟩ = some (.int .u8 c)) ∧ Blk w' w.heap.size 30 A) (by kernel_rfl) ⟨⟨x0, x1, x2, x3⟩, hF1.bg⟩ (fun hHeld => ?_)
  simp only [List.setIfInBounds_toArray, List.size_toArray, List.length_cons, List.length_nil, Array.replicate]
  refine wpAnyH_take (i := 0) (v := ?_) rfl (by kernel_rfl) (by kernel_rfl) (by kernel_rfl) (fun c a w h => panicD_put (by decide) (by decide) (by decide) h) (Or.inl ⟨by rfl, ?_⟩) hHeld ?_
  rotate_left
  · (intro w' hSw; obtain ⟨⟨s0, s1, s2, s3⟩, s4⟩ := hSw; go_simp; try with_reducible rfl)
  simp only [Act.put, List.getElem_toArray, List.getElem_cons_succ, List.getElem_cons_zero, List.setIfInBounds_toArray, List.set_cons_zero, List.set_cons_succ]
  refine wpAnyH_take (i := 1) (v := ?_) rfl (by kernel_rfl) (by kernel_rfl) (by kernel_rfl) (fun c a w h => panicD_put (by decide) (by decide) (by decide) h) (Or.inl ⟨by rfl, ?_⟩) hHeld ?_
  rotate_left
  · (intro w' hSw; obtain ⟨⟨s0, s1, s2, s3⟩, s4⟩ := hSw; go_simp; try with_reducible rfl)
  simp only [Act.put, List.getElem_toArray, List.getElem_cons_succ, List.getElem_cons_zero, List.setIfInBounds_toArray, List.set_cons_zero, List.set_cons_succ]
  refine wpAnyH_take (i := 3) (v := ?_) rfl (by kernel_rfl) (by kernel_rfl) (by kernel_rfl) (fun c a w h => panicD_put (by decide) (by decide) (by decide) h) (Or.inl ⟨by rfl, ?_⟩) hHeld ?_
  rotate_left
  · (intro w' hSw; obtain ⟨⟨s0, s1, s2, s3⟩, s4⟩ := hSw; go_simp; try with_reducible rfl)
  simp only [Act.put, List.getElem_toArray, List.getElem_cons_succ, List.getElem_cons_zero, List.setIfInBounds_toArray, List.set_cons_zero, List.set_cons_succ]
  refine wpAnyH_take (i := 2) (v := ?_) rfl (by kernel_rfl) (by kernel_rfl) (by kernel_rfl) (fun c a w h => panicD_put (by decide) (by decide) (by decide) h) (Or.inl ⟨by rfl, ?_⟩) hHeld ?_
  rotate_left
  · (intro w' hSw; obtain ⟨⟨s0, s1, s2, s3⟩, s4⟩ := hSw; go_simp; try with_reducible rfl)
  simp only [Act.put, List.getElem_toArray, List.getElem_cons_succ, List.getElem_cons_zero, List.setIfInBounds_toArray, List.set_cons_zero, List.set_cons_succ]
  refine wpAnyH_take (i := 5) (v := .agg A) rfl (by kernel_rfl) (by kernel_rfl) (by kernel_rfl) (fun c a w h => panicD_put (by decide) (by decide) (by decide) h) (Or.inl ⟨by rfl, fun w' hSw => run_load_blk hSw.2 hw3 _ (by rfl) (by rfl)⟩) hHeld ?_
  simp only [Act.put, List.getElem_toArray, List.getElem_cons_succ, List.getElem_cons_zero, List.setIfInBounds_toArray, List.set_cons_zero, List.set_cons_succ]
  refine wpAnyH_ready (rs := [4]) (by kernel_rfl) (by simp) ?_
  refine AllReadyH.cons rfl (fun K hK => ?_) AllReadyH.nil
  go_simp
  refine (hOne _).mono ?_
  rintro e w2 ⟨rfl, hb2⟩
  have hG := hF1.drew.below hb2
  have hw4 : Whole 30 A4.size := by rw [hs4]; exact whole30
  refine leaves_cons (f := 16) (args := #[.pointer (some ⟨w.heap.size, 0, none⟩), .pointer (some ⟨w.heap.size + 1, 0, none⟩), .pointer (some ⟨w.heap.size + 1 + 1, 0, none⟩), .pointer (some ⟨w.heap.size + 1 + 1 + 1, 0, none⟩)]) (by simp) (by simp [go_sem]) ?_
  refine (hcp _ hG.bg hG.ba hG.bc hG.bw).mono ?_
  rintro e u' w3 ⟨rfl, rfl, hq, hr, hss, hc⟩
  exact ⟨_, step_res (by simp [Act.put]) (by simp [Act.put]) (by simp [Act.put]) hq hw4 hr hwc hss, rfl, hG.bl.trans (hc.below (by simp <;> omega) hG.bl.size)⟩
end Go.Proofs
end
section
namespace Go.Proofs
open Go.RowKit
set_option linter.unusedVariables false
set_option linter.unusedSimpArgs false

set_option maxHeartbeats 4000000 in
set_option maxRecDepth 100000 in
theorem step_done_bad (V : Value) (m : Nat) (O a b c E pc : Int) (g : Gr) (n : Nat) (w : World) (h8 : g.arr[8]? = some (.int .i64 pc))
    (hDec : ∀ W, Below w.heap.size w W → Calls Try.prog 14 #[V, .int .i64 pc] W fun e w' => e = .returned (.tuple #[.agg #[.int .u8 O, .int .u8 a, .int .u8 b, .int .u8 c], .int .i64 E]) ∧ Below W.heap.size W w')
    (hLen : ∀ W, Below w.heap.size w W → Calls Try.prog 15 #[V] W fun e w' => e = .returned (.int .i64 n) ∧ w' = W)
    (he : E ≠ 4) (hn : (pc : Int) ≤ n) (k : Int) (g' : Gr) (hbad : ∀ w, Calls Try.prog 17 #[g.val, .int .i64 k] w fun e w' => e = .returned g'.val ∧ Below w.heap.size w w') (hOne : ∀ W, Calls Try.prog 19 #[.agg #[.int .u8 O, .int .u8 a, .int .u8 b, .int .u8 c], .int .i64 E] W fun e w' => e = .returned (.agg #[.int .u8 O, .int .u8 a, .int .u8 b, .int .u8 c]) ∧ Below W.heap.size W w')(hDone : ∀ W, Below w.heap.size w W → Calls Try.prog 18 #[.map (some m), V, .agg #[.int .u8 O, .int .u8 a, .int .u8 b, .int .u8 c], g.val] W fun e w' => e = panicOf k ∧ Below W.heap.size W w') : Calls Try.prog 12 #[.map (some m), V, g.val] w fun e w' => e = .returned (.tuple #[g'.val, Cl.zero.val, .int .i64 4]) ∧ Below w.heap.size w w' := by
  have hs := g.size
  have hs2 := g.one
  have q4 : (E == 4) = false := by simpa using he
  have hs4 := g'.size
  have hcp := fun W hp hq hr hs => catch_panic w.heap.size (w.heap.size + 1) (w.heap.size + 1 + 1) (w.heap.size + 1 + 1 + 1) k g g' hbad W zG zC hp hq hr hs rfl rfl (by omega) (by omega) (by omega)
  unfold Gr.val at hDone
  unfold Gr.val Cl.val
  rw [Cl.zero_arr]
  generalize hga : g.arr = A at *
  generalize hgb : g'.arr = A4 at *
  have hmf : ∀ (fn : Fn) (first cap : Array Value) (w : World), (Instr.makeFunc fn first cap).run Try.prog w = .ok (.func fn first cap) w := fun _ _ _ _ => rfl
  obtain ⟨W, hW⟩ : ∃ W, W = frameS w A := ⟨_, rfl⟩
  have hF : StepAt w W A := by rw [hW]; exact stepAt_new w _
  have c8 := (hF.bg.cell 8).trans h8
  have hWs : W.heap.size = w.heap.size + 1 + 1 + 1 + 1 := by rw [hW]; simp
  have hDH := Lib.hid hDec
  have hLH := Lib.hid hLen
  have hFH := Lib.hid hF
  clear hDec hLen
  go_enter_defers Try.func12, Try.ntmps12
  go_upto_region 1 with (fail)
  unfold frameS at hW
  rw [← hW]
  clear hW hF
  go_upto_region 2 with (go_at_call 14; refine (hDH.out _ hFH.out.bl).mono ?_; rintro e w1 ⟨rfl, hb1⟩)
  obtain ⟨W1, hW1⟩ : ∃ W1, W1 = w1.alloc (.cells #[.int .u8 O, .int .u8 a, .int .u8 b, .int .u8 c] 45) := ⟨_, rfl⟩
  have hF1 : StepAt w W1 A := by rw [hW1]; exact (hFH.out.below hb1).alloc _
  have hx : Blk W1 w1.heap.size 45 #[.int .u8 O, .int .u8 a, .int .u8 b, .int .u8 c] := by rw [hW1]; exact Blk.new w1 45 _
  have hDs : w.heap.size + 4 ≤ w1.heap.size := by have := hb1.size; omega
  rw [← hW1]
  clear hW1 hb1 c8
  generalize w1.heap.size = D at *
  have c8 := (hF1.bg.cell 8).trans h8
  refine wp_region_noPanic ?_
  refine wp_region_held_drew (S := fun w' => w'.cell? ⟨w.heap.size, 8, none⟩ = some (.int .i64 pc)) (by kernel_rfl) c8 (fun hHeld => ?_)
  simp only [List.setIfInBounds_toArray, List.size_toArray, List.length_cons, List.length_nil, Array.replicate]
  refine wpAnyH_take (i := 0) (v := ?_) rfl (by kernel_rfl) (by kernel_rfl) (by kernel_rfl) (fun _ _ _ h => h) (Or.inl ⟨by rfl, ?_⟩) hHeld ?_
  rotate_left
  · (intro w' hSw; go_simp; try with_reducible rfl)
  simp only [Act.put, List.getElem_toArray, List.getElem_cons_succ, List.getElem_cons_zero, List.setIfInBounds_toArray, List.set_cons_zero, List.set_cons_succ]
  refine wpAnyH_take (i := 1) (v := ?_) rfl (by kernel_rfl) (by kernel_rfl) (by kernel_rfl) (fun _ _ _ h => h) (Or.inl ⟨by rfl, ?_⟩) hHeld ?_
  rotate_left
  · (intro w' hSw; go_simp; try with_reducible rfl)
  simp only [Act.put, List.getElem_toArray, List.getElem_cons_succ, List.getElem_cons_zero, List.setIfInBounds_toArray, List.set_cons_zero, List.set_cons_succ]
  refine wpAnyH_take (i := 2) (v := ?_) rfl (by kernel_rfl) (by kernel_rfl) (by kernel_rfl) (fun _ _ _ h => h) (Or.inl ⟨by rfl, ?_⟩) hHeld ?_
  rotate_left
  · (intro w' hSw; go_simp; try with_reducible rfl)
  simp only [Act.put, List.getElem_toArray, List.getElem_cons_succ, List.getElem_cons_zero, List.setIfInBounds_toArray, List.set_cons_zero, List.set_cons_succ]
  refine wpAnyH_take (i := 3) (v := ?_) rfl (by kernel_rfl) (by kernel_rfl) (by kernel_rfl) (fun _ _ _ h => h) (Or.inl ⟨by rfl, ?_⟩) hHeld ?_
  rotate_left
  · (intro w' hSw; go_simp; try with_reducible rfl)
  simp only [Act.put, List.getElem_toArray, List.getElem_cons_succ, List.getElem_cons_zero, List.setIfInBounds_toArray, List.set_cons_zero, List.set_cons_succ]
  refine wpAnyH_take (i := 4) (v := ?_) rfl (by kernel_rfl) (by kernel_rfl) (by kernel_rfl) (fun _ _ _ h => h) (Or.inl ⟨by rfl, ?_⟩) hHeld ?_
  rotate_left
  · (intro w' hSw; go_simp; try with_reducible rfl)
  simp only [Act.put, List.getElem_toArray, List.getElem_cons_succ, List.getElem_cons_zero, List.setIfInBounds_toArray, List.set_cons_zero, List.set_cons_succ]
  refine wpAnyH_take (i := 5) (v := ?_) rfl (by kernel_rfl) (by kernel_rfl) (by kernel_rfl) (fun _ _ _ h => h) (Or.inl ⟨by rfl, ?_⟩) hHeld ?_
  rotate_left
  · (intro w' hSw; go_simp; try with_reducible rfl)
  simp only [Act.put, List.getElem_toArray, List.getElem_cons_succ, List.getElem_cons_zero, List.setIfInBounds_toArray, List.set_cons_zero, List.set_cons_succ]
  refine wpAnyH_ready (rs := [6]) (by kernel_rfl) (by simp) ?_
  refine AllReadyH.cons rfl (fun K hK => ?_) AllReadyH.nil
  go_simp
  refine (hLH.out _ (below_drew hF1.bl)).mono ?_
  rintro e w2 ⟨rfl, rfl⟩
  refine hK _ _ hHeld (fun hHeld => ?_)
  clear hK K
  simp only [Act.put, List.getElem_toArray, List.getElem_cons_succ, List.getElem_cons_zero, List.setIfInBounds_toArray, List.set_cons_zero, List.set_cons_succ]
  refine wpAnyH_take (i := 7) (v := ?_) rfl (by kernel_rfl) (by kernel_rfl) (by kernel_rfl) (fun _ _ _ h => h) (Or.inl ⟨by rfl, ?_⟩) hHeld ?_
  rotate_left
  · (intro w' hSw; go_simp; try with_reducible rfl)
  simp only [Act.put, List.getElem_toArray, List.getElem_cons_succ, List.getElem_cons_zero, List.setIfInBounds_toArray, List.set_cons_zero, List.set_cons_succ]
  refine wpAnyH_take (i := 8) (v := ?_) rfl (by kernel_rfl) (by kernel_rfl) (by kernel_rfl) (fun _ _ _ h => h) (Or.inl ⟨by rfl, ?_⟩) hHeld ?_
  rotate_left
  · (intro w' hSw; go_simp; try with_reducible rfl)
  simp only [Act.put, List.getElem_toArray, List.getElem_cons_succ, List.getElem_cons_zero, List.setIfInBounds_toArray, List.set_cons_zero, List.set_cons_succ]
  refine wpAnyH_done (by kernel_rfl) ?_ _
  refine NoPanic.normal ?_
  replace hF1 := hF1.drew
  replace hx := hx.drew
  have hw3 : Whole 30 A.size := by rw [hs]; exact whole30
  have hwc : Whole 36 zC.size := whole36
  clear hFH c8
  go_upto_region 5 with (fail)
  have x0 := hx.cell 0
  have x1 := hx.cell 1
  have x2 := hx.cell 2
  have x3 := hx.cell 3
  simp only [List.getElem?_toArray, List.getElem?_cons_zero, List.getElem?_cons_succ] at x0 x1 x2 x3
  refine wp_region_held_drew (S := fun w' => (w'.cell? ⟨D, 0, none⟩ = some (.int .u8 O) ∧ w'.cell? ⟨D, 1, none⟩ = some (.int .u8 a) ∧ w'.cell? ⟨D, 2, none⟩ = some (.int .u8 b) ∧ w'.cell? ⟨D, 3, none⟩ = some (.int .u8 c)) ∧ Blk w' w.heap.size 30 A) (by kernel_rfl) ⟨⟨x0, x1, x2, x3⟩, hF1.bg⟩ (fun hHeld => ?_)
  simp only [List.setIfInBounds_toArray, List.size_toArray, List.length_cons, List.length_nil, Array.replicate]
  refine wpAnyH_take (i := 0) (v := ?_) rfl (by kernel_rfl) (by kernel_rfl) (by kernel_rfl) (fun c a w h => panicD_put (by decide) (by decide) (by decide) h) (Or.inl ⟨by rfl, ?_⟩) hHeld ?_
  rotate_left
  · (intro w' hSw; obtain ⟨⟨s0, s1, s2, s3⟩, s4⟩ := hSw; go_simp; try with_reducible rfl)
  simp only [Act.put, List.getElem_toArray, List.getElem_cons_succ, List.getElem_cons_zero, List.setIfInBounds_toArray, List.set_cons_zero, List.set_cons_succ]
  refine wpAnyH_take (i := 1) (v := ?_) rfl (by kernel_rfl) (by kernel_rfl) (by kernel_rfl) (fun c a w h => panicD_put (by decide) (by decide) (by decide) h) (Or.inl ⟨by rfl, ?_⟩) hHeld ?_
  rotate_left
  · (intro w' hSw; obtain ⟨⟨s0, s1, s2, s3⟩, s4⟩ := hSw; go_simp; try with_reducible rfl)
  simp only [Act.put, List.getElem_toArray, List.getElem_cons_succ, List.getElem_cons_zero, List.setIfInBounds_toArray, List.set_cons_zero, List.set_cons_succ]
  refine wpAnyH_take (i := 3) (v := ?_) rfl (by kernel_rfl) (by kernel_rfl) (by kernel_rfl) (fun c a w h => panicD_put (by decide) (by decide) (by decide) h) (Or.inl ⟨by rfl, ?_⟩) hHeld ?_
  rotate_left
  · (intro w' hSw; obtain ⟨⟨s0, s1, s2, s3⟩, s4⟩ := hSw; go_simp; try with_reducible rfl)
  simp only [Act.put, List.getElem_toArray, List.getElem_cons_succ, List.getElem_cons_zero, List.setIfInBounds_toArray, List.set_cons_zero, List.set_cons_succ]
  refine wpAnyH_take (i := 2) (v := ?_) rfl (by kernel_rfl) (by kernel_rfl) (by kernel_rfl) (fun c a w h => panicD_put (by decide) (by decide) (by decide) h) (Or.inl ⟨by rfl, ?_⟩) hHeld ?_
  rotate_left
  · (intro w' hSw; obtain ⟨⟨s0, s1, s2, s3⟩, s4⟩ := hSw; go_simp; try with_reducible rfl)
  simp only [Act.put, List.getElem_toArray, List.getElem_cons_succ, List.getElem_cons_zero, List.setIfInBounds_toArray, List.set_cons_zero, List.set_cons_succ]
  refine wpAnyH_take (i := 5) (v := .agg A) rfl (by kernel_rfl) (by kernel_rfl) (by kernel_rfl) (fun c a w h => panicD_put (by decide) (by decide) (by decide) h) (Or.inl ⟨by rfl, fun w' hSw => run_load_blk hSw.2 hw3 _ (by rfl) (by rfl)⟩) hHeld ?_
  simp only [Act.put, List.getElem_toArray, List.getElem_cons_succ, List.getElem_cons_zero, List.setIfInBounds_toArray, List.set_cons_zero, List.set_cons_succ]
  refine wpAnyH_ready (rs := [4]) (by kernel_rfl) (by simp) ?_
  refine AllReadyH.cons rfl (fun K hK => ?_) AllReadyH.nil
  go_simp
  refine (hOne _).mono ?_
  rintro e w2 ⟨rfl, hb2⟩
  have hG := hF1.drew.below hb2
  have hy := hx.drew.below hb2
  have x0 := hy.cell 0
  have x1 := hy.cell 1
  have x2 := hy.cell 2
  have x3 := hy.cell 3
  simp only [List.getElem?_toArray, List.getElem?_cons_zero, List.getElem?_cons_succ] at x0 x1 x2 x3
  refine hK _ _ ⟨⟨x0, x1, x2, x3⟩, hG.bg⟩ (fun hHeld => ?_)
  clear hK K
  simp only [Act.put, List.getElem_toArray, List.getElem_cons_succ, List.getElem_cons_zero, List.setIfInBounds_toArray, List.set_cons_zero, List.set_cons_succ]
  refine wpAnyH_ready (rs := [6]) (by kernel_rfl) (by simp) ?_
  refine AllReadyH.cons rfl (fun K hK => ?_) AllReadyH.nil
  go_simp
  refine (hDone _ hG.bl).mono ?_
  rintro e w5 ⟨rfl, hb5⟩
  have hG5 := hG.below hb5
  have hw4 : Whole 30 A4.size := by rw [hs4]; exact whole30
  refine leaves_cons (f := 16) (args := #[.pointer (some ⟨w.heap.size, 0, none⟩), .pointer (some ⟨w.heap.size + 1, 0, none⟩), .pointer (some ⟨w.heap.size + 1 + 1, 0, none⟩), .pointer (some ⟨w.heap.size + 1 + 1 + 1, 0, none⟩)]) (by simp) (by simp [go_sem]) ?_
  refine (hcp _ hG5.bg hG5.ba hG5.bc hG5.bw).mono ?_
  rintro e u' w3 ⟨rfl, rfl, hq, hr, hss, hc⟩
  exact ⟨_, step_res (by simp [Act.put]) (by simp [Act.put]) (by simp [Act.put]) hq hw4 hr hwc hss, rfl, hG5.bl.trans (hc.below (by simp <;> omega) hG5.bl.size)⟩
end Go.Proofs
end
section
namespace Go.Proofs
open Go.RowKit
set_option linter.unusedVariables false
set_option linter.unusedSimpArgs false

set_option maxHeartbeats 4000000 in
set_option maxRecDepth 100000 in
theorem step_done_ok (V : Value) (m : Nat) (O a b c E pc : Int) (g : Gr) (n : Nat) (w : World) (h8 : g.arr[8]? = some (.int .i64 pc))
    (hDec : ∀ W, Below w.heap.size w W → Calls Try.prog 14 #[V, .int .i64 pc] W fun e w' => e = .returned (.tuple #[.agg #[.int .u8 O, .int .u8 a, .int .u8 b, .int .u8 c], .int .i64 E]) ∧ Below W.heap.size W w')
    (hLen : ∀ W, Below w.heap.size w W → Calls Try.prog 15 #[V] W fun e w' => e = .returned (.int .i64 n) ∧ w' = W)
    (he : E ≠ 4) (hn : (pc : Int) ≤ n) (k : Int) (g' : Gr) (C : Cl) (hOne : ∀ W, Calls Try.prog 19 #[.agg #[.int .u8 O, .int .u8 a, .int .u8 b, .int .u8 c], .int .i64 E] W fun e w' => e = .returned (.agg #[.int .u8 O, .int .u8 a, .int .u8 b, .int .u8 c]) ∧ Below W.heap.size W w')(hDone : ∀ W, Below w.heap.size w W → Calls Try.prog 18 #[.map (some m), V, .agg #[.int .u8 O, .int .u8 a, .int .u8 b, .int .u8 c], g.val] W fun e w' => e = .returned (.tuple #[g'.val, C.val, .int .i64 k]) ∧ Below W.heap.size W w') : Calls Try.prog 12 #[.map (some m), V, g.val] w fun e w' => e = .returned (.tuple #[g'.val, C.val, .int .i64 k]) ∧ Below w.heap.size w w' := by
  have hs := g.size
  have hs2 := g.one
  have q4 : (E == 4) = false := by simpa using he
  have hs4 := g'.size
  have hs5 := g'.one
  have hcs : C.arr.size = 6 := rfl
  have hcs2 := C.one
  unfold Gr.val Cl.val at hDone
  unfold Gr.val Cl.val
  generalize hga : g.arr = A at *
  generalize hgb : g'.arr = A4 at *
  generalize C.arr = CA at *
  have hmf : ∀ (fn : Fn) (first cap : Array Value) (w : World), (Instr.makeFunc fn first cap).run Try.prog w = .ok (.func fn first cap) w := fun _ _ _ _ => rfl
  obtain ⟨W, hW⟩ : ∃ W, W = frameS w A := ⟨_, rfl⟩
  have hF : StepAt w W A := by rw [hW]; exact stepAt_new w _
  have c8 := (hF.bg.cell 8).trans h8
  have hWs : W.heap.size = w.heap.size + 1 + 1 + 1 + 1 := by rw [hW]; simp
  have hDH := Lib.hid hDec
  have hLH := Lib.hid hLen
  have hFH := Lib.hid hF
  clear hDec hLen
  go_enter_defers Try.func12, Try.ntmps12
  go_upto_region 1 with (fail)
  unfold frameS at hW
  rw [← hW]
  clear hW hF
  go_upto_region 2 with (go_at_call 14; refine (hDH.out _ hFH.out.bl).mono ?_; rintro e w1 ⟨rfl, hb1⟩)
  obtain ⟨W1, hW1⟩ : ∃ W1, W1 = w1.alloc (.cells #[.int .u8 O, .int .u8 a, .int .u8 b, .int .u8 c] 45) := ⟨_, rfl⟩
  have hF1 : StepAt w W1 A := by rw [hW1]; exact (hFH.out.below hb1).alloc _
  have hx : Blk W1 w1.heap.size 45 #[.int .u8 O, .int .u8 a, .int .u8 b, .int .u8 c] := by rw [hW1]; exact Blk.new w1 45 _
  have hDs : w.heap.size + 4 ≤ w1.heap.size := by have := hb1.size; omega
  rw [← hW1]
  clear hW1 hb1 c8
  generalize w1.heap.size = D at *
  have c8 := (hF1.bg.cell 8).trans h8
  refine wp_region_noPanic ?_
  refine wp_region_held_drew (S := fun w' => w'.cell? ⟨w.heap.size, 8, none⟩ = some (.int .i64 pc)) (by kernel_rfl) c8 (fun hHeld => ?_)
  simp only [List.setIfInBounds_toArray, List.size_toArray, List.length_cons, List.length_nil, Array.replicate]
  refine wpAnyH_take (i := 0) (v := ?_) rfl (by kernel_rfl) (by kernel_rfl) (by kernel_rfl) (fun _ _ _ h => h) (Or.inl ⟨by rfl, ?_⟩) hHeld ?_
  rotate_left
  · (intro w' hSw; go_simp; try with_reducible rfl)
  simp only [Act.put, List.getElem_toArray, List.getElem_cons_succ, List.getElem_cons_zero, List.setIfInBounds_toArray, List.set_cons_zero, List.set_cons_succ]
  refine wpAnyH_take (i := 1) (v := ?_) rfl (by kernel_rfl) (by kernel_rfl) (by kernel_rfl) (fun _ _ _ h => h) (Or.inl ⟨by rfl, ?_⟩) hHeld ?_
  rotate_left
  · (intro w' hSw; go_simp; try with_reducible rfl)
  simp only [Act.put, List.getElem_toArray, List.getElem_cons_succ, List.getElem_cons_zero, List.setIfInBounds_toArray, List.set_cons_zero, List.set_cons_succ]
  refine wpAnyH_take (i := 2) (v := ?_) rfl (by kernel_rfl) (by kernel_rfl) (by kernel_rfl) (fun _ _ _ h => h) (Or.inl ⟨by rfl, ?_⟩) hHeld ?_
  rotate_left
  · (intro w' hSw; go_simp; try with_reducible rfl)
  simp only [Act.put, List.getElem_toArray, List.getElem_cons_succ, List.getElem_cons_zero, List.setIfInBounds_toArray, List.set_cons_zero, List.set_cons_succ]
  refine wpAnyH_take (i := 3) (v := ?_) rfl (by kernel_rfl) (by kernel_rfl) (by kernel_rfl) (fun _ _ _ h => h) (Or.inl ⟨by rfl, ?_⟩) hHeld ?_
  rotate_left
  · (intro w' hSw; go_simp; try with_reducible rfl)
  simp only [Act.put, List.getElem_toArray, List.getElem_cons_succ, List.getElem_cons_zero, List.setIfInBounds_toArray, List.set_cons_zero, List.set_cons_succ]
  refine wpAnyH_take (i := 4) (v := ?_) rfl (by kernel_rfl) (by kernel_rfl) (by kernel_rfl) (fun _ _ _ h => h) (Or.inl ⟨by rfl, ?_⟩) hHeld ?_
  rotate_left
  · (intro w' hSw; go_simp; try with_reducible rfl)
  simp only [Act.put, List.getElem_toArray, List.getElem_cons_succ, List.getElem_cons_zero, List.setIfInBounds_toArray, List.set_cons_zero, List.set_cons_succ]
  refine wpAnyH_take (i := 5) (v := ?_) rfl (by kernel_rfl) (by kernel_rfl) (by kernel_rfl) (fun _ _ _ h => h) (Or.inl ⟨by rfl, ?_⟩) hHeld ?_
  rotate_left
  · (intro w' hSw; go_simp; try with_reducible rfl)
  simp only [Act.put, List.getElem_toArray, List.getElem_cons_succ, List.getElem_cons_zero, List.setIfInBounds_toArray, List.set_cons_zero, List.set_cons_succ]
  refine wpAnyH_ready (rs := [6]) (by kernel_rfl) (by simp) ?_
  refine AllReadyH.cons rfl (fun K hK => ?_) AllReadyH.nil
  go_simp
  refine (hLH.out _ (below_drew hF1.bl)).mono ?_
  rintro e w2 ⟨rfl, rfl⟩
  refine hK _ _ hHeld (fun hHeld => ?_)
  clear hK K
  simp only [Act.put, List.getElem_toArray, List.getElem_cons_succ, List.getElem_cons_zero, List.setIfInBounds_toArray, List.set_cons_zero, List.set_cons_succ]
  refine wpAnyH_take (i := 7) (v := ?_) rfl (by kernel_rfl) (by kernel_rfl) (by kernel_rfl) (fun _ _ _ h => h) (Or.inl ⟨by rfl, ?_⟩) hHeld ?_
  rotate_left
  · (intro w' hSw; go_simp; try with_reducible rfl)
  simp only [Act.put, List.getElem_toArray, List.getElem_cons_succ, List.getElem_cons_zero, List.setIfInBounds_toArray, List.set_cons_zero, List.set_cons_succ]
  refine wpAnyH_take (i := 8) (v := ?_) rfl (by kernel_rfl) (by kernel_rfl) (by kernel_rfl) (fun _ _ _ h => h) (Or.inl ⟨by rfl, ?_⟩) hHeld ?_
  rotate_left
  · (intro w' hSw; go_simp; try with_reducible rfl)
  simp only [Act.put, List.getElem_toArray, List.getElem_cons_succ, List.getElem_cons_zero, List.setIfInBounds_toArray, List.set_cons_zero, List.set_cons_succ]
  refine wpAnyH_done (by kernel_rfl) ?_ _
  refine NoPanic.normal ?_
  replace hF1 := hF1.drew
  replace hx := hx.drew
  have hw3 : Whole 30 A.size := by rw [hs]; exact whole30
  have hwc : Whole 36 zC.size := whole36
  clear hFH c8
  go_upto_region 5 with (fail)
  have x0 := hx.cell 0
  have x1 := hx.cell 1
  have x2 := hx.cell 2
  have x3 := hx.cell 3
  simp only [List.getElem?_toArray, List.getElem?_cons_zero, List.getElem?_cons_succ] at x0 x1 x2 x3
  refine wp_region_held_drew (S := fun w' => (w'.cell? ⟨D, 0, none⟩ = some (.int .u8 O) ∧ w'.cell? ⟨D, 1, none⟩ = some (.int .u8 a) ∧ w'.cell? ⟨D, 2, none⟩ = some (.int .u8 b) ∧ w'.cell? ⟨D, 3, none⟩ = some (.int .u8 c)) ∧ Blk w' w.heap.size 30 A) (by kernel_rfl) ⟨⟨x0, x1, x2, x3⟩, hF1.bg⟩ (fun hHeld => ?_)
  simp only [List.setIfInBounds_toArray, List.size_toArray, List.length_cons, List.length_nil, Array.replicate]
  refine wpAnyH_take (i := 0) (v := ?_) rfl (by kernel_rfl) (by kernel_rfl) (by kernel_rfl) (fun c a w h => panicD_put (by decide) (by decide) (by decide) h) (Or.inl ⟨by rfl, ?_⟩) hHeld ?_
  rotate_left
  · (intro w' hSw; obtain ⟨⟨s0, s1, s2, s3⟩, s4⟩ := hSw; go_simp; try with_reducible rfl)
  simp only [Act.put, List.getElem_toArray, List.getElem_cons_succ, List.getElem_cons_zero, List.setIfInBounds_toArray, List.set_cons_zero, List.set_cons_succ]
  refine wpAnyH_take (i := 1) (v := ?_) rfl (by kernel_rfl) (by kernel_rfl) (by kernel_rfl) (fun c a w h => panicD_put (by decide) (by decide) (by decide) h) (Or.inl ⟨by rfl, ?_⟩) hHeld ?_
  rotate_left
  · (intro w' hSw; obtain ⟨⟨s0, s1, s2, s3⟩, s4⟩ := hSw; go_simp; try with_reducible rfl)
  simp only [Act.put, List.getElem_toArray, List.getElem_cons_succ, List.getElem_cons_zero, List.setIfInBounds_toArray, List.set_cons_zero, List.set_cons_succ]
  refine wpAnyH_take (i := 3) (v := ?_) rfl (by kernel_rfl) (by kernel_rfl) (by kernel_rfl) (fun c a w h => panicD_put (by decide) (by decide) (by decide) h) (Or.inl ⟨by rfl, ?_⟩) hHeld ?_
  rotate_left
  · (intro w' hSw; obtain ⟨⟨s0, s1, s2, s3⟩, s4⟩ := hSw; go_simp; try with_reducible rfl)
  simp only [Act.put, List.getElem_toArray, List.getElem_cons_succ, List.getElem_cons_zero, List.setIfInBounds_toArray, List.set_cons_zero, List.set_cons_succ]
  refine wpAnyH_take (i := 2) (v := ?_) rfl (by kernel_rfl) (by kernel_rfl) (by kernel_rfl) (fun c a w h => panicD_put (by decide) (by decide) (by decide) h) (Or.inl ⟨by rfl, ?_⟩) hHeld ?_
  rotate_left
  · (intro w' hSw; obtain ⟨⟨s0, s1, s2, s3⟩, s4⟩ := hSw; go_simp; try with_reducible rfl)
  simp only [Act.put, List.getElem_toArray, List.getElem_cons_succ, List.getElem_cons_zero, List.setIfInBounds_toArray, List.set_cons_zero, List.set_cons_succ]
  refine wpAnyH_take (i := 5) (v := .agg A) rfl (by kernel_rfl) (by kernel_rfl) (by kernel_rfl) (fun c a w h => panicD_put (by decide) (by decide) (by decide) h) (Or.inl ⟨by rfl, fun w' hSw => run_load_blk hSw.2 hw3 _ (by rfl) (by rfl)⟩) hHeld ?_
  simp only [Act.put, List.getElem_toArray, List.getElem_cons_succ, List.getElem_cons_zero, List.setIfInBounds_toArray, List.set_cons_zero, List.set_cons_succ]
  refine wpAnyH_ready (rs := [4]) (by kernel_rfl) (by simp) ?_
  refine AllReadyH.cons rfl (fun K hK => ?_) AllReadyH.nil
  go_simp
  refine (hOne _).mono ?_
  rintro e w2 ⟨rfl, hb2⟩
  have hG := hF1.drew.below hb2
  have hy := hx.drew.below hb2
  have x0 := hy.cell 0
  have x1 := hy.cell 1
  have x2 := hy.cell 2
  have x3 := hy.cell 3
  simp only [List.getElem?_toArray, List.getElem?_cons_zero, List.getElem?_cons_succ] at x0 x1 x2 x3
  refine hK _ _ ⟨⟨x0, x1, x2, x3⟩, hG.bg⟩ (fun hHeld => ?_)
  clear hK K
  simp only [Act.put, List.getElem_toArray, List.getElem_cons_succ, List.getElem_cons_zero, List.setIfInBounds_toArray, List.set_cons_zero, List.set_cons_succ]
  refine wpAnyH_ready (rs := [6]) (by kernel_rfl) (by simp) ?_
  refine AllReadyH.cons rfl (fun K hK => ?_) AllReadyH.nil
  go_simp
  refine (hDone _ hG.bl).mono ?_
  rintro e w5 ⟨rfl, hb5⟩
  have hG5 := hG.below hb5
  have hy5 := hy.below hb5
  have x0 := hy5.cell 0
  have x1 := hy5.cell 1
  have x2 := hy5.cell 2
  have x3 := hy5.cell 3
  simp only [List.getElem?_toArray, List.getElem?_cons_zero, List.getElem?_cons_succ] at x0 x1 x2 x3
  refine hK _ _ ⟨⟨x0, x1, x2, x3⟩, hG5.bg⟩ (fun hHeld => ?_)
  clear hK K
  simp only [Act.put, List.getElem_toArray, List.getElem_cons_succ, List.getElem_cons_zero, List.setIfInBounds_toArray, List.set_cons_zero, List.set_cons_succ]
  have hw4 : Whole 30 A4.size := by rw [hs4]; exact whole30
  have hwc : Whole 36 CA.size := by rw [hcs]; exact whole36
  have hf4 : zG.size = A4.size := hs4.symm
  have hfc : zC.size = CA.size := hcs.symm
  have nD : ∀ k, k < 4 → D ≠ w.heap.size + k := fun k hk => by omega
  refine wpAnyH_take (i := 7) (v := ?_) rfl (by kernel_rfl) (by kernel_rfl) (by kernel_rfl) (fun c a w h => panicD_put (by decide) (by decide) (by decide) h) (Or.inl ⟨by rfl, ?_⟩) hHeld ?_
  rotate_left
  · (intro w' hSw; obtain ⟨⟨s0, s1, s2, s3⟩, s4⟩ := hSw; go_simp; try with_reducible rfl)
  simp only [Act.put, List.getElem_toArray, List.getElem_cons_succ, List.getElem_cons_zero, List.setIfInBounds_toArray, List.set_cons_zero, List.set_cons_succ]
  refine wpAnyH_take (i := 8) (v := ?_) rfl (by kernel_rfl) (by kernel_rfl) (by kernel_rfl) (fun c a w h => panicD_put (by decide) (by decide) (by decide) h) (Or.inl ⟨by rfl, ?_⟩) hHeld ?_
  rotate_left
  · (intro w' hSw; obtain ⟨⟨s0, s1, s2, s3⟩, s4⟩ := hSw; go_simp; try with_reducible rfl)
  simp only [Act.put, List.getElem_toArray, List.getElem_cons_succ, List.getElem_cons_zero, List.setIfInBounds_toArray, List.set_cons_zero, List.set_cons_succ]
  refine wpAnyH_take (i := 9) (v := ?_) rfl (by kernel_rfl) (by kernel_rfl) (by kernel_rfl) (fun c a w h => panicD_put (by decide) (by decide) (by decide) h) (Or.inl ⟨by rfl, ?_⟩) hHeld ?_
  rotate_left
  · (intro w' hSw; obtain ⟨⟨s0, s1, s2, s3⟩, s4⟩ := hSw; go_simp; try with_reducible rfl)
  simp only [Act.put, List.getElem_toArray, List.getElem_cons_succ, List.getElem_cons_zero, List.setIfInBounds_toArray, List.set_cons_zero, List.set_cons_succ]
  refine wpAnyH_ready (rs := [10]) (by kernel_rfl) (by simp) ?_
  refine AllReadyH.cons rfl (fun K hK => ?_) AllReadyH.nil
  refine step_store_blk hG5.ba hw4 hf4 hs5 (by rfl) _ _ (by rfl) (by rfl) (by rfl) ?_
  intro w6 hB6 hC6
  have hy6 := hy5.chg hC6 (by have := nD 1 (by omega); simpa using this)
  have x0 := hy6.cell 0
  have x1 := hy6.cell 1
  have x2 := hy6.cell 2
  have x3 := hy6.cell 3
  simp only [List.getElem?_toArray, List.getElem?_cons_zero, List.getElem?_cons_succ] at x0 x1 x2 x3
  refine hK _ _ ⟨⟨x0, x1, x2, x3⟩, hG5.bg.chg hC6 (by simp <;> omega)⟩ (fun hHeld => ?_)
  clear hK K
  simp only [Act.put, List.getElem_toArray, List.getElem_cons_succ, List.getElem_cons_zero, List.setIfInBounds_toArray, List.set_cons_zero, List.set_cons_succ]
  refine wpAnyH_ready (rs := [11]) (by kernel_rfl) (by simp) ?_
  refine AllReadyH.cons rfl (fun K hK => ?_) AllReadyH.nil
  refine step_store_blk (hG5.bc.chg hC6 (by simp <;> omega)) hwc hfc hcs2 (by rfl) _ _ (by rfl) (by rfl) (by rfl) ?_
  intro w7 hB7 hC7
  have hy7 := hy6.chg hC7 (by have := nD 2 (by omega); simpa using this)
  have x0 := hy7.cell 0
  have x1 := hy7.cell 1
  have x2 := hy7.cell 2
  have x3 := hy7.cell 3
  simp only [List.getElem?_toArray, List.getElem?_cons_zero, List.getElem?_cons_succ] at x0 x1 x2 x3
  refine hK _ _ ⟨⟨x0, x1, x2, x3⟩, hHeld.2.chg hC7 (by simp <;> omega)⟩ (fun hHeld => ?_)
  clear hK K
  simp only [Act.put, List.getElem_toArray, List.getElem_cons_succ, List.getElem_cons_zero, List.setIfInBounds_toArray, List.set_cons_zero, List.set_cons_succ]
  have hbw := (hG5.bw.chg hC6 (by simp <;> omega)).chg hC7 (by simp <;> omega)
  have sc := hbw.cell 0
  have sf := hbw.frozen 0
  simp only [List.getElem?_toArray, List.getElem?_cons_zero] at sc
  refine wpAnyH_ready (rs := [12]) (by kernel_rfl) (by simp) ?_
  refine AllReadyH.cons rfl (fun K hK => ?_) AllReadyH.nil
  go_simp
  have hy8 := hy7.far (p := ⟨w.heap.size + 1 + 1 + 1, 0, none⟩) (by have := nD 3 (by omega); simpa using this) (.int .i64 k)
  have x0 := hy8.cell 0
  have x1 := hy8.cell 1
  have x2 := hy8.cell 2
  have x3 := hy8.cell 3
  simp only [List.getElem?_toArray, List.getElem?_cons_zero, List.getElem?_cons_succ] at x0 x1 x2 x3
  refine hK _ _ ⟨⟨x0, x1, x2, x3⟩, hHeld.2.far (by simp <;> omega) _⟩ (fun hHeld => ?_)
  clear hK K
  simp only [Act.put, List.getElem_toArray, List.getElem_cons_succ, List.getElem_cons_zero, List.setIfInBounds_toArray, List.set_cons_zero, List.set_cons_succ]
  refine wpAnyH_done (by kernel_rfl) ?_ _
  go_wp2
  refine leaves_cons (f := 16) (args := #[.pointer (some ⟨w.heap.size, 0, none⟩), .pointer (some ⟨w.heap.size + 1, 0, none⟩), .pointer (some ⟨w.heap.size + 1 + 1, 0, none⟩), .pointer (some ⟨w.heap.size + 1 + 1 + 1, 0, none⟩)]) (by simp) (by simp [go_sem]) ?_
  refine (catch_idle _ _ _ _ _).mono ?_
  rintro e u' w9 ⟨rfl, rfl, rfl⟩
  have hz := hG5.bl.size
  have hbe := ((hG5.bl.trans (hC6.below (by simp) hz)).trans (hC7.below (by simp <;> omega) (Nat.le_trans hz hC6.size))).setCell (p := ⟨w.heap.size + 1 + 1 + 1, 0, none⟩) (by simp <;> omega) (.int .i64 k)
  exact ⟨_, step_res (by simp [Act.put]) (by simp [Act.put]) (by simp [Act.put]) ((hB6.chg hC7 (by simp)).far (by simp <;> omega) _) hw4 (hB7.far (by simp) _) hwc (hbw.set_ 0 (.int .i64 k)), rfl, hbe⟩
end Go.Proofs
end
section
namespace Go.Proofs
open Go.RowKit
set_option linter.unusedVariables false
set_option linter.unusedSimpArgs false

/-! ### A step -/
def Gr.bad (g : Gr) (k : Int) : Gr := { g with pc := g.pc + 1, cd := k }
def stepP (l : List UInt8) (g : Gr) : Gr × Cl × Int :=
  if (decodeP l g.pc).2 = 4 ∨ ((l.length / 4 : Nat) : Int) < g.pc then (g, Cl.zero, 3)
  else if (decodeP l g.pc).2 ≠ 0 then (g.bad (decodeP l g.pc).2, Cl.zero, 4)
  else match doneP (l.length / 4) (decodeP l g.pc).1 g with
    | .inl k => (g.bad k, Cl.zero, 4)
    | .inr r => r
def stepV (r : Gr × Cl × Int) : Value := .tuple #[r.1.val, r.2.1.val, .int .i64 r.2.2]
theorem decodeP_is {l : List UInt8} {pc : Int} (h : (decodeP l pc).2 = 0) : (decodeP l pc).1.is = true := by
  unfold decodeP at h ⊢
  split at h
  · simp at h
  · split at h
    · simp at h
    · split at h
      · rename_i h1 h2 h3
        rw [if_neg h1, if_neg h2, if_pos h3]; exact h3
      · simp at h
theorem step_any (V : Value) (l : List UInt8) (hl : l.length ≤ 100000) (m : Nat) (g : Gr) (hg : g.ok) (w : World) (hV : By w V l) (hfn : FnsAt w m) :
    Calls Try.prog 12 #[.map (some m), V, g.val] w fun e w' => e = .returned (stepV (stepP l g)) ∧ Below w.heap.size w w' := by
  have hp0 := hg.p0
  have hp1 := hg.p1
  have hDec := fun W (hb : Below w.heap.size w W) => decode_any V l hl g.pc (by omega) (by omega) W (hV.below hb)
  have hLen := fun W (hb : Below w.heap.size w W) => len_any V l (by omega) W (hV.below hb)
  have h8 : g.arr[8]? = some (.int .i64 g.pc) := rfl
  unfold stepP
  by_cases h1 : (decodeP l g.pc).2 = 4 ∨ ((l.length / 4 : Nat) : Int) < g.pc
  · rw [if_pos h1]
    by_cases h2 : (decodeP l g.pc).2 = 4
    · exact step_over4 V m _ _ _ _ _ g.pc g (l.length / 4) w h8 hDec hLen h2
    · exact step_over V m _ _ _ _ _ g.pc g (l.length / 4) w h8 hDec hLen h2 (h1.resolve_left h2)
  · rw [if_neg h1]
    have h2 : (decodeP l g.pc).2 ≠ 4 := fun e => h1 (.inl e)
    have h3 : g.pc ≤ ((l.length / 4 : Nat) : Int) := by
      rcases Int.lt_or_le ((l.length / 4 : Nat) : Int) g.pc with h | h
      · exact absurd (.inr h) h1
      · exact h
    by_cases h4 : (decodeP l g.pc).2 ≠ 0
    · rw [if_pos h4]
      exact step_one_bad V m _ _ _ _ _ g.pc g (l.length / 4) w h8 hDec hLen h2 h3 (decodeP l g.pc).2 (g.bad (decodeP l g.pc).2) (fun w => bad_any g hp0 hp1 _ w) (fun W => one_bad (decodeP l g.pc).1 _ h4 W)
    · rw [if_neg h4]
      have h5 : (decodeP l g.pc).2 = 0 := by simpa using h4
      have hOne := fun W => one_ok (decodeP l g.pc).1 W
      have hDone := fun W (hb : Below w.heap.size w W) => done_any V l (by omega) m (decodeP l g.pc).1 (decodeP_is h5) g hg W (hV.below hb) (hfn.below hb)
      rw [← h5] at hOne
      cases hd : doneP (l.length / 4) (decodeP l g.pc).1 g with
      | inl k =>
        rw [hd] at hDone
        exact step_done_bad V m _ _ _ _ _ g.pc g (l.length / 4) w h8 hDec hLen h2 h3 k (g.bad k) (fun w => bad_any g hp0 hp1 _ w) hOne hDone
      | inr r =>
        obtain ⟨g', C, k⟩ := r
        rw [hd] at hDone
        exact step_done_ok V m _ _ _ _ _ g.pc g (l.length / 4) w h8 hDec hLen h2 h3 k g' C hOne hDone
end Go.Proofs
end
