import Derived.Test.YtojpllmghfafjaaM11
import Derived.Laws.StructEq
section
namespace Go.Proofs
open Go.RowKit
set_option linter.unusedVariables false
set_option linter.unusedSimpArgs false

/-- What Do hands back. -/
theorem do_res {tmps : Array Value} {w : World} {b4 b5 : Nat} {A C : Array Value} {k : Int} (h4 : tmps[4]? = some (.pointer (some ⟨b4, 0, none⟩))) (h5 : tmps[5]? = some (.pointer (some ⟨b5, 0, none⟩))) (h6 : tmps[6]? = some (.int .i64 k))
    (hB : Blk w b4 30 A) (hw : Whole 30 A.size) (hC : Blk w b5 36 C) (hw2 : Whole 36 C.size) : (results Try.f9 tmps).run Try.prog w = .ok (.tuple #[.agg A, .agg C, .int .i64 k]) w := by
  have e1 := run_loadVar_blk hB hw
  have e2 := run_loadVar_blk hC hw2
  simp [results, Try.results9, asAddr, h4, h5, h6, e1, e2]
set_option maxHeartbeats 4000000 in
set_option maxRecDepth 100000 in
theorem do_any (V : Value) (l : List UInt8) (hl : l.length ≤ 100000) (g : Gr) (hg : g.ok) (w : World) (hV : By w V l) :
    Calls Try.prog 9 #[V, g.val] w fun e w' => e = .returned (stepV (stepP l g)) ∧ Below w.heap.size w w' := by
  have hStep := fun W m (hb : Below w.heap.size w W) (hf : FnsAt W m) => step_any V l hl m g hg W (hV.below hb) hf
  have hs := g.size
  have hs2 := g.one
  generalize stepP l g = rr at *
  obtain ⟨g', C, k⟩ := rr
  have hs4 := g'.size
  have hs5 := g'.one
  have hcs : C.arr.size = 6 := rfl
  have hcs2 := C.one
  unfold stepV Gr.val Cl.val at hStep
  unfold stepV Gr.val Cl.val
  simp only at hStep ⊢
  generalize hga : g.arr = A at *
  generalize hgb : g'.arr = A4 at *
  generalize C.arr = CA at *
  have hw3 : Whole 30 A.size := by rw [hs]; exact whole30
  have hw4 : Whole 30 A4.size := by rw [hs4]; exact whole30
  have hwc : Whole 36 CA.size := by rw [hcs]; exact whole36
  have hf4 : zG.size = A4.size := hs4.symm
  have hfc : zC.size = CA.size := hcs.symm
  obtain ⟨W, hW⟩ : ∃ W, W = ((w.alloc (.cells A 30)).alloc (.cells zG 30)).alloc (.cells zC 36) := ⟨_, rfl⟩
  have hbg : Blk W w.heap.size 30 A := by rw [hW]; exact ((Blk.new w 30 A).alloc _).alloc _
  have hba : Blk W (w.heap.size + 1) 30 zG := by rw [hW]; have := (Blk.new (w.alloc (.cells A 30)) 30 zG).alloc (.cells zC 36); simpa using this
  have hbc : Blk W (w.heap.size + 1 + 1) 36 zC := by rw [hW]; have := Blk.new ((w.alloc (.cells A 30)).alloc (.cells zG 30)) 36 zC; simpa using this
  have hbl : Below w.heap.size w W := by rw [hW]; exact (((Below.refl _ _).alloc (Nat.le_refl _) _).alloc (by simp) _).alloc (by simp; omega) _
  have hStepH := Lib.hid hStep
  clear hStep hga hgb
  go_enter Try.func9, Try.ntmps9
  go_upto_region 1 with (fail)
  rw [← hW]
  clear hW
  refine wp_region_held_drew (S := fun w' => Blk w' w.heap.size 30 A) (by kernel_rfl) hbg (fun hHeld => ?_)
  simp only [List.setIfInBounds_toArray, List.size_toArray, List.length_cons, List.length_nil, Array.replicate]
  refine wpAnyH_take (i := 1) (v := ?_) rfl (by kernel_rfl) (by kernel_rfl) (by kernel_rfl) (fun _ _ _ h => h) (Or.inl ⟨by rfl, ?_⟩) hHeld ?_
  rotate_left
  · (intro w' hSw; go_simp; try with_reducible rfl)
  simp only [Act.put, List.getElem_toArray, List.getElem_cons_succ, List.getElem_cons_zero, List.setIfInBounds_toArray, List.set_cons_zero, List.set_cons_succ]
  refine wpAnyH_take (i := 2) (v := .agg A) rfl (by kernel_rfl) (by kernel_rfl) (by kernel_rfl) (fun _ _ _ h => h) (Or.inl ⟨by rfl, fun w' hSw => run_load_blk hSw hw3 _ (by rfl) (by rfl)⟩) hHeld ?_
  simp only [Act.put, List.getElem_toArray, List.getElem_cons_succ, List.getElem_cons_zero, List.setIfInBounds_toArray, List.set_cons_zero, List.set_cons_succ]
  refine wpAnyH_ready (rs := [0]) (by kernel_rfl) (by simp) ?_
  refine AllReadyH.cons rfl (fun K hK => ?_) AllReadyH.nil
  go_simp
  refine (arith_any _).mono ?_
  rintro e w1 ⟨rfl, hf1, hb1⟩
  replace hbg := hbg.drew.below hb1
  replace hba := hba.drew.below hb1
  replace hbc := hbc.drew.below hb1
  replace hbl := (below_drew hbl).trans (hb1.mono (below_drew hbl).size)
  refine hK _ _ hbg (fun hHeld => ?_)
  clear hK K
  simp only [Act.put, List.getElem_toArray, List.getElem_cons_succ, List.getElem_cons_zero, List.setIfInBounds_toArray, List.set_cons_zero, List.set_cons_succ]
  refine wpAnyH_ready (rs := [3]) (by kernel_rfl) (by simp) ?_
  refine AllReadyH.cons rfl (fun K hK => ?_) AllReadyH.nil
  go_simp
  refine (hStepH.out _ _ hbl hf1).mono ?_
  rintro e w2 ⟨rfl, hb2⟩
  replace hbg := hbg.below hb2
  replace hba := hba.below hb2
  replace hbc := hbc.below hb2
  replace hbl := hbl.trans (hb2.mono hbl.size)
  refine hK _ _ hbg (fun hHeld => ?_)
  clear hK K
  simp only [Act.put, List.getElem_toArray, List.getElem_cons_succ, List.getElem_cons_zero, List.setIfInBounds_toArray, List.set_cons_zero, List.set_cons_succ]
  refine wpAnyH_take (i := 4) (v := ?_) rfl (by kernel_rfl) (by kernel_rfl) (by kernel_rfl) (fun _ _ _ h => h) (Or.inl ⟨by rfl, ?_⟩) hHeld ?_
  rotate_left
  · (intro w' hSw; go_simp; try with_reducible rfl)
  simp only [Act.put, List.getElem_toArray, List.getElem_cons_succ, List.getElem_cons_zero, List.setIfInBounds_toArray, List.set_cons_zero, List.set_cons_succ]
  refine wpAnyH_take (i := 5) (v := ?_) rfl (by kernel_rfl) (by kernel_rfl) (by kernel_rfl) (fun _ _ _ h => h) (Or.inl ⟨by rfl, ?_⟩) hHeld ?_
  rotate_left
  · (intro w' hSw; go_simp; try with_reducible rfl)
  simp only [Act.put, List.getElem_toArray, List.getElem_cons_succ, List.getElem_cons_zero, List.setIfInBounds_toArray, List.set_cons_zero, List.set_cons_succ]
  refine wpAnyH_take (i := 6) (v := ?_) rfl (by kernel_rfl) (by kernel_rfl) (by kernel_rfl) (fun _ _ _ h => h) (Or.inl ⟨by rfl, ?_⟩) hHeld ?_
  rotate_left
  · (intro w' hSw; go_simp; try with_reducible rfl)
  simp only [Act.put, List.getElem_toArray, List.getElem_cons_succ, List.getElem_cons_zero, List.setIfInBounds_toArray, List.set_cons_zero, List.set_cons_succ]
  refine wpAnyH_ready (rs := [7]) (by kernel_rfl) (by simp) ?_
  refine AllReadyH.cons rfl (fun K hK => ?_) AllReadyH.nil
  refine step_store_blk hba hw4 hf4 hs5 (by rfl) _ _ (by rfl) (by rfl) (by rfl) ?_
  intro w6 hB6 hC6
  refine hK _ _ (hbg.chg hC6 (by simp <;> omega)) (fun hHeld => ?_)
  clear hK K
  simp only [Act.put, List.getElem_toArray, List.getElem_cons_succ, List.getElem_cons_zero, List.setIfInBounds_toArray, List.set_cons_zero, List.set_cons_succ]
  refine wpAnyH_ready (rs := [8]) (by kernel_rfl) (by simp) ?_
  refine AllReadyH.cons rfl (fun K hK => ?_) AllReadyH.nil
  refine step_store_blk (hbc.chg hC6 (by simp <;> omega)) hwc hfc hcs2 (by rfl) _ _ (by rfl) (by rfl) (by rfl) ?_
  intro w7 hB7 hC7
  refine hK _ _ (hHeld.chg hC7 (by simp <;> omega)) (fun hHeld => ?_)
  clear hK K
  simp only [Act.put, List.getElem_toArray, List.getElem_cons_succ, List.getElem_cons_zero, List.setIfInBounds_toArray, List.set_cons_zero, List.set_cons_succ]
  refine wpAnyH_take (i := 9) (v := ?_) rfl (by kernel_rfl) (by kernel_rfl) (by kernel_rfl) (fun _ _ _ h => h) (Or.inl ⟨by rfl, ?_⟩) hHeld ?_
  rotate_left
  · (intro w' hSw; go_simp; try with_reducible rfl)
  simp only [Act.put, List.getElem_toArray, List.getElem_cons_succ, List.getElem_cons_zero, List.setIfInBounds_toArray, List.set_cons_zero, List.set_cons_succ]
  refine wpAnyH_done (by kernel_rfl) ?_ _
  go_wp2
  have hz := hbl.size
  exact bodyPost_ret (do_res (by simp [Act.put]) (by simp [Act.put]) (by simp [Act.put]) (hB6.chg hC7 (by simp)) hw4 hB7 hwc) rfl ⟨rfl, (hbl.trans (hC6.below (by simp) hz)).trans (hC7.below (by simp <;> omega) (Nat.le_trans hz hC6.size))⟩
end Go.Proofs
end
section
namespace Go.Proofs
open Go.RowKit
set_option linter.unusedVariables false
set_option linter.unusedSimpArgs false

def G1 : Gr := ⟨0, false, 0, 0, 0, 0, 0, 0, 0, fun i => if i = 1 then 3 else if i = 2 then 5 else 0, 0, 0⟩
def G2 : Gr := ⟨0, false, 0, 0, 0, 0, 0, 0, 0, fun i => if i < 6 then 9 - i else 0, 0, 0⟩
def C2 : Cl := ⟨5, fun i => 9 - i⟩
theorem step_G1 : (stepP [3, 0, 1, 2] G1) = (G1.bad 6, Cl.zero, 4) := by rfl
theorem step_G2 : (stepP [21, 0, 0, 0] G2).2.1.arr = C2.arr ∧ (stepP [21, 0, 0, 0] G2).2.2 = 2 := ⟨by rfl, by rfl⟩
theorem G1_ok : G1.ok := ⟨fun i => by simp only [G1]; split <;> (try split) <;> omega, fun i => by simp only [G1]; split <;> (try split) <;> omega, by decide, by decide, by decide, by decide⟩
theorem G2_ok : G2.ok := ⟨fun i => by simp only [G2]; split <;> omega, fun i => by simp only [G2]; split <;> omega, by decide, by decide, by decide, by decide⟩
abbrev g1A : Array Value := #[.int .i64 0, .bool false, .int .i64 0, .int .u64 0, .int .i64 0, .int .u64 0, .int .u8 0, .int .i64 0, .int .i64 0, .int .u64 0, .int .u64 3, .int .u64 5, .int .u64 0, .int .u64 0, .int .u64 0, .int .u64 0, .int .u64 0, .int .i64 0, .int .u64 0]
abbrev g2A : Array Value := #[.int .i64 0, .bool false, .int .i64 0, .int .u64 0, .int .i64 0, .int .u64 0, .int .u8 0, .int .i64 0, .int .i64 0, .int .u64 9, .int .u64 8, .int .u64 7, .int .u64 6, .int .u64 5, .int .u64 4, .int .u64 0, .int .u64 0, .int .i64 0, .int .u64 0]
abbrev c2A : Array Value := #[.int .i64 5, .int .u64 9, .int .u64 8, .int .u64 7, .int .u64 6, .int .u64 5]
theorem G1_arr : G1.arr = g1A := rfl
theorem G2_arr : G2.arr = g2A := rfl
theorem C2_arr : C2.arr = c2A := rfl
/-- Do's answer, its cells as letters. -/
theorem do_G1 (V : Value) : ∃ A : Array Value, A.size = 19 ∧ A.all (·.oneCell') = true ∧ A[17]? = some (.int .i64 6) ∧ A[8]? = some (.int .i64 1) ∧
    ∀ W, By W V [3, 0, 1, 2] → Calls Try.prog 9 #[V, .agg g1A] W fun e w' => e = .returned (.tuple #[.agg A, .agg zC, .int .i64 4]) ∧ Below W.heap.size W w' := by
  refine ⟨(G1.bad 6).arr, rfl, (G1.bad 6).one, rfl, rfl, fun W h => ?_⟩
  have := do_any V [3, 0, 1, 2] (by decide) G1 G1_ok W h
  rw [step_G1] at this
  exact this
theorem do_G2 (V : Value) : ∃ A : Array Value, A.size = 19 ∧ A.all (·.oneCell') = true ∧
    ∀ W, By W V [21, 0, 0, 0] → Calls Try.prog 9 #[V, .agg g2A] W fun e w' => e = .returned (.tuple #[.agg A, .agg c2A, .int .i64 2]) ∧ Below W.heap.size W w' := by
  refine ⟨(stepP [21, 0, 0, 0] G2).1.arr, rfl, Gr.one _, fun W h => ?_⟩
  have := do_any V [21, 0, 0, 0] (by decide) G2 G2_ok W h
  unfold stepV Gr.val Cl.val at this
  rw [step_G2.1, step_G2.2] at this
  exact this
theorem By.new (w : World) (l : List UInt8) (n : Nat) (hn : l.length = n) (h : n ≤ maxLen) : By (w.alloc (.cells (bys l).toArray 5)) (.slice (some ⟨w.heap.size, 0, none⟩) n n) l := by
  subst hn
  have := Cs.new w (bys l) 5 l.length h
  exact this
end Go.Proofs
end
section
namespace Go.Proofs
open Go.RowKit
set_option linter.unusedVariables false
set_option linter.unusedSimpArgs false

theorem eqC (w : World) : (binOp BinOp.eql 36 (.agg zC) (.agg zC)).run Try.prog w = .ok (.bool true) w := by kernel_rfl
theorem eqC2 (w : World) : (binOp BinOp.eql 36 (.agg c2A) (.agg c2A)).run Try.prog w = .ok (.bool true) w := by kernel_rfl
/-- Two fresh variables, a goroutine's and a call's. -/
abbrev two (w : World) : World := (w.alloc (.cells zG 30)).alloc (.cells zC 36)
theorem two_g (w : World) : Blk (two w) w.heap.size 30 zG := (Blk.new w 30 zG).alloc _
theorem two_c (w : World) : Blk (two w) (w.heap.size + 1) 36 zC := by have := Blk.new (w.alloc (.cells zG 30)) 36 zC; simpa using this
theorem two_b (w : World) : Below w.heap.size w (two w) := ((Below.refl _ _).alloc (Nat.le_refl _) _).alloc (by simp) _
set_option maxHeartbeats 4000000 in
set_option maxRecDepth 100000 in
theorem known_any (w : World) : Calls Try.prog 8 #[] w fun e w' => e = .returned (.bool true) ∧ Below w.heap.size w w' := by
  have hq1 := eqC
  have hq2 := eqC2
  obtain ⟨A1, s1, o1, a17, a8, hD1⟩ := do_G1 (.slice (some ⟨w.heap.size, 0, none⟩) 4 4)
  have hB1 : By (w.alloc (.cells #[.int .u8 3, .int .u8 0, .int .u8 1, .int .u8 2] 5)) (.slice (some ⟨w.heap.size, 0, none⟩) 4 4) [3, 0, 1, 2] := By.new w [3, 0, 1, 2] 4 rfl (by unfold maxLen; omega)
  have hb0 := (Below.refl w.heap.size w).alloc (Nat.le_refl _) (.cells #[.int .u8 3, .int .u8 0, .int .u8 1, .int .u8 2] 5)
  have hw1 : Whole 30 A1.size := by rw [s1]; exact whole30
  have hf1 : zG.size = A1.size := s1.symm
  have hwc : Whole 36 zC.size := whole36
  have hwc2 : Whole 36 c2A.size := whole36
  have hzc : zC.all (·.oneCell') = true := by simp [Value.oneCell']
  have hzc2 : c2A.all (·.oneCell') = true := by simp [Value.oneCell']
  have hD1H := Lib.hid hD1
  clear hD1
  go_enter Try.func8, Try.ntmps8
  go_upto_region 3 with (first
    | (go_at_call 9; refine (hD1H.out _ hB1).mono ?_; rintro e w1 ⟨rfl, hb1⟩)
    | (refine wpList_store_blk (two_g w1) hw1 hf1 o1 rfl _ _ rfl rfl rfl ?_; intro w3 hB3 hC3)
    | (refine wpList_store_blk ((two_c w1).chg hC3 (by simp)) hwc rfl hzc rfl _ _ rfl rfl rfl ?_; intro w4 hB4 hC4))
  have hG4 := hB3.chg hC4 (by simp)
  have hb4 := hb0.trans (hb1.mono hb0.size)
  have hb5 := hb4.trans ((two_b w1).mono hb4.size)
  have hb6 := (hb5.trans (hC3.below (by simpa using hb4.size) hb5.size)).trans (hC4.below (by have := hb4.size; simp <;> omega) (Nat.le_trans hb5.size hC3.size))
  clear hb0 hb1 hb5 hC3 hC4 hB3 hB1 hD1H
  have hlt := hB4.lt
  generalize w1.heap.size = D at *
  obtain ⟨A2, s2, o2, hD2⟩ := do_G2 (.slice (some ⟨w4.heap.size, 0, none⟩) 4 4)
  have hB2 : By (w4.alloc (.cells #[.int .u8 21, .int .u8 0, .int .u8 0, .int .u8 0] 5)) (.slice (some ⟨w4.heap.size, 0, none⟩) 4 4) [21, 0, 0, 0] := By.new w4 [21, 0, 0, 0] 4 rfl (by unfold maxLen; omega)
  have hw2 : Whole 30 A2.size := by rw [s2]; exact whole30
  have hf2 : zG.size = A2.size := s2.symm
  have hD2H := Lib.hid hD2
  clear hD2
  go_upto_region 4 with (first
    | (go_at_call 9; refine (hD2H.out _ hB2).mono ?_; rintro e w5 ⟨rfl, hb7⟩)
    | (refine wpList_store_blk (two_g w5) hw2 hf2 o2 rfl _ _ rfl rfl rfl ?_; intro w6 hB6 hC6)
    | (refine wpList_store_blk ((two_c w5).chg hC6 (by simp)) hwc2 rfl hzc2 rfl _ _ rfl rfl rfl ?_; intro w7 hB7 hC7))
  have hsz5 : w4.heap.size + 1 ≤ w5.heap.size := by have := hb7.size; simpa using this
  have kG := (((((hG4.alloc (.cells #[.int .u8 21, .int .u8 0, .int .u8 0, .int .u8 0] 5)).below hb7).alloc (.cells zG 30)).alloc (.cells zC 36)).chg hC6 (by simp; omega)).chg hC7 (by simp; omega)
  have kC := (((((hB4.alloc (.cells #[.int .u8 21, .int .u8 0, .int .u8 0, .int .u8 0] 5)).below hb7).alloc (.cells zG 30)).alloc (.cells zC 36)).chg hC6 (by simp; omega)).chg hC7 (by simp; omega)
  have hb8 := (hb6.alloc hb6.size (.cells #[.int .u8 21, .int .u8 0, .int .u8 0, .int .u8 0] 5)).trans (hb7.mono (by have := hb6.size; simp; omega))
  have hb9 := hb8.trans ((two_b w5).mono hb8.size)
  have hb10 := (hb9.trans (hC6.below (by simpa using hb8.size) hb9.size)).trans (hC7.below (by have := hb8.size; simp <;> omega) (Nat.le_trans hb9.size hC6.size))
  have g17 := (kG.cell 17).trans a17
  have g8 := (kG.cell 8).trans a8
  have c := fun i => kC.cell i
  have d := fun i => hB7.cell i
  have c0 := c 0
  have c1 := c 1
  have c2 := c 2
  have c3 := c 3
  have c4 := c 4
  have c5 := c 5
  have d0 := d 0
  have d1 := d 1
  have d2 := d 2
  have d3 := d 3
  have d4 := d 4
  have d5 := d 5
  simp only [List.getElem?_toArray, List.getElem?_cons_zero, List.getElem?_cons_succ] at c0 c1 c2 c3 c4 c5 d0 d1 d2 d3 d4 d5
  clear c d kG kC hb8 hb9 hB7 hB6 hC6 hC7 hG4 hB4 hb7 hB2 hD2H
  go_wp2
  go_ret
  exact ⟨rfl, hb10⟩
end Go.Proofs
end
section
namespace Go.Proofs
open Go.RowKit
set_option linter.unusedVariables false
set_option linter.unusedSimpArgs false

theorem part24 (xs : Array Value) (i : Nat) (w : World) (x : Int) (h : xs[i]? = some (.int .u64 x)) : (part 24 xs i).run Try.prog w = .ok (.int .u64 x) w := by
  have ha : (isAgg 24).run Try.prog w = .ok false w := Try.isAgg24 w
  unfold part
  rw [Sem.run_bind, ha]
  simp [h]
set_option maxRecDepth 10000 in
theorem eql27 (d : Nat) (r : Nat → Int) (w : World) : (Op.equalIn (d + 1 + 1) 27 (.agg #[.int .u64 (r 0), .int .u64 (r 1), .int .u64 (r 2), .int .u64 (r 3), .int .u64 (r 4), .int .u64 (r 5), .int .u64 (r 6), .int .u64 (r 7)]) (.agg #[.int .u64 (r 0), .int .u64 (r 1), .int .u64 (r 2), .int .u64 (r 3), .int .u64 (r 4), .int .u64 (r 5), .int .u64 (r 6), .int .u64 (r 7)])).run Try.prog w = .ok true w := by
  have h24 : ∀ x, (Op.equalIn (d + 1) 24 (.int .u64 x) (.int .u64 x)).run Try.prog w = .ok true w := fun x => by
    rw [run_equalIn_int w d 24 .u64 .u64 x x Try.underlying24]; simp
  generalize hxs : (#[.int .u64 (r 0), .int .u64 (r 1), .int .u64 (r 2), .int .u64 (r 3), .int .u64 (r 4), .int .u64 (r 5), .int .u64 (r 6), .int .u64 (r 7)] : Array Value) = xs
  have hp : ∀ i, i < 8 → ∃ x, (part 24 xs i).run Try.prog w = .ok (.int .u64 x) w := fun i hi => by
    refine ⟨r i, part24 xs i w _ ?_⟩
    rw [← hxs]
    have : i = 0 ∨ i = 1 ∨ i = 2 ∨ i = 3 ∨ i = 4 ∨ i = 5 ∨ i = 6 ∨ i = 7 := by omega
    rcases this with rfl | rfl | rfl | rfl | rfl | rfl | rfl | rfl <;> rfl
  clear hxs
  rw [Op.equalIn]
  simp only [Sem.run_bind, run_underlying Try.underlying27, Result.andThen_ok, Try.sizeOf24, Nat.mul_one, Std.Legacy.Range.forIn_eq_forIn_range']
  have key : ∀ (L : List Nat), (∀ i ∈ L, i < 8) → (forIn (m := Sem) L ((none : Option Bool), ()) fun i __s => do
              let a ← part 24 xs i
              let b ← part 24 xs i
              let c ← Op.equalIn (d + 1) 24 a b
              if (!c) = true then pure (ForInStep.done (some false, ())) else pure (ForInStep.yield (none, ()))).run Try.prog w = .ok (none, ()) w := by
    intro L
    induction L with
    | nil => intro _; rfl
    | cons i L ih =>
      intro hL
      obtain ⟨x, hx⟩ := hp i (hL i (by simp))
      simp only [List.forIn_cons, Sem.run_bind, hx, h24 x, Result.andThen_ok, Bool.not_true, Bool.false_eq_true, if_false, Sem.run_pure]
      exact ih (fun j hj => hL j (by simp [hj]))
  rw [key _ (by intro i hi; simp [List.mem_range'] at hi; omega)]
  rfl
theorem eqlG (g : Gr) (w : World) : (binOp BinOp.eql 30 (.agg g.arr) (.agg g.arr)).run Try.prog w = .ok (.bool true) w := by
  simp [go_sem, Try.underlying30, Try.underlying26, eql27]
theorem neqG (g : Gr) (w : World) : (binOp BinOp.neq 30 (.agg g.arr) (.agg g.arr)).run Try.prog w = .ok (.bool false) w := by
  simp [go_sem, Try.underlying30, Try.underlying26, eql27]
theorem wpList_load_blkG {w : World} {b : Nat} {t t' : TypeId} {A : Array Value} (hB : Blk w b t' A) (hw : Whole t A.size) {ops : Array Oper} {rest : List Oper} {o : Oper} {a : Act} {Q : Exit → Act → World → Prop} (hg : Region.wanted o (yielded ops a.tmps) = true) (x : Operand) (ho : o.op = .load t x)
    (hx : a.eval x = .pointer (some ⟨b, 0, none⟩)) (h : wpList Try.prog ops Q rest (a.put o.dst (.agg A)) w) : wpList Try.prog ops Q (o :: rest) a w :=
  wpList_step fun K hK => by rw [if_pos hg]; exact wp_load_blk hB hw x ho hx (hK _ _ h)
end Go.Proofs
end
