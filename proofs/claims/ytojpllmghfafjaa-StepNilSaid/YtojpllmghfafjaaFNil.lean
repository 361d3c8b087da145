/-
  Proved: what is told of no program, of a place below 0 in it, of no steps, and of steps to the end of a program of five bytes. No conditions.
-/
import Derived.Test.YtojpllmghfafjaaM12
import Derived.Test.YtojpllmghfafjaaRows
import Derived.WalkKit
import Derived.Below
import Derived.ChangeSame
import Derived.Test.YtojpllmghfafjaaM13
import Derived.ProofKit
import Derived.OpenShut
section
namespace Go.Proofs
open Go.RowKit
set_option linter.unusedVariables false
set_option linter.unusedSimpArgs false

/-! ### Several steps -/
def runS (l : List UInt8) (g : Gr) : Nat → Gr × Cl × Int
  | 0 => (g, Cl.zero, 1)
  | k + 1 => stepP l (runS l g k).1
theorem run_res {tmps : Array Value} {w : World} {b6 b7 : Nat} {A C : Array Value} {k n : Int} (h6 : tmps[6]? = some (.pointer (some ⟨b6, 0, none⟩))) (h7 : tmps[7]? = some (.pointer (some ⟨b7, 0, none⟩))) (h8 : tmps[8]? = some (.int .i64 k)) (h9 : tmps[9]? = some (.int .i64 n))
    (hB : Blk w b6 30 A) (hw : Whole 30 A.size) (hC : Blk w b7 36 C) (hw2 : Whole 36 C.size) : (results Try.f11 tmps).run Try.prog w = .ok (.tuple #[.agg A, .agg C, .int .i64 k, .int .i64 n]) w := by
  have e1 := run_loadVar_blk hB hw
  have e2 := run_loadVar_blk hC hw2
  simp [results, Try.results11, asAddr, h6, h7, h8, h9, e1, e2]
/-- The frame of Run in its loop. -/
structure RunAt (w W : World) (D : Nat) (A C : Array Value) (m : Nat) : Prop where
  bg : Blk W w.heap.size 30 A
  ba : Blk W (w.heap.size + 1) 30 zG
  bc : Blk W (w.heap.size + 1 + 1) 36 zC
  bd : Blk W D 36 C
  fm : FnsAt W m
  bl : Below w.heap.size w W
set_option maxHeartbeats 4000000 in
set_option maxRecDepth 100000 in
theorem run_any (V : Value) (l : List UInt8) (hl : l.length ≤ 100000) (g : Gr) (most : Int) (N : Nat) (hN9 : N < 1000000) (hm1 : most < 1000000)
    (hin : ∀ k, k < N → (k : Int) < most ∧ ((runS l g k).2.2 = 1 ∨ (runS l g k).2.2 = 4) ∧ (runS l g k).1.ok)
    (hout : ¬ (N : Int) < most ∨ ((N : Int) < most ∧ (runS l g N).2.2 ≠ 1 ∧ (runS l g N).2.2 ≠ 4)) (w : World) (hV : By w V l) :
    Calls Try.prog 11 #[V, g.val, .int .i64 most] w fun e w' => e = .returned (.tuple #[(runS l g N).1.val, (runS l g N).2.1.val, .int .i64 (runS l g N).2.2, .int .i64 N]) ∧ Below w.heap.size w w' := by
  have hStep := fun W m (hb : Below w.heap.size w W) (hf : FnsAt W m) k (hk : k < N) => step_any V l hl m (runS l g k).1 (hin k hk).2.2 W (hV.below hb) hf
  have hs : ∀ k, (runS l g k).1.arr.size = 19 := fun k => rfl
  have hs2 : ∀ k, (runS l g k).1.arr.all (·.oneCell') = true := fun k => Gr.one _
  have hcs : ∀ k, (runS l g k).2.1.arr.size = 6 := fun k => rfl
  have hcs2 : ∀ k, (runS l g k).2.1.arr.all (·.oneCell') = true := fun k => Cl.one _
  have hS : ∀ W m, Below w.heap.size w W → FnsAt W m → ∀ k, k < N → Calls Try.prog 12 #[.map (some m), V, .agg (runS l g k).1.arr] W fun e w' => e = .returned (.tuple #[.agg (runS l g (k + 1)).1.arr, .agg (runS l g (k + 1)).2.1.arr, .int .i64 (runS l g (k + 1)).2.2]) ∧ Below W.heap.size W w' := hStep
  have h0A : g.arr = (runS l g 0).1.arr := rfl
  have h0C : zC = (runS l g 0).2.1.arr := rfl
  have h0W : (1 : Int) = (runS l g 0).2.2 := rfl
  unfold Gr.val Cl.val
  rw [h0A]
  have hin2 : ∀ k, k < N → (k : Int) < most ∧ ((runS l g k).2.2 = 1 ∨ (runS l g k).2.2 = 4) := fun k hk => ⟨(hin k hk).1, (hin k hk).2.1⟩
  obtain ⟨fA, hfA⟩ : ∃ fA : Nat → Array Value, fA = fun k => (runS l g k).1.arr := ⟨_, rfl⟩
  obtain ⟨fC, hfC⟩ : ∃ fC : Nat → Array Value, fC = fun k => (runS l g k).2.1.arr := ⟨_, rfl⟩
  obtain ⟨fW, hfW⟩ : ∃ fW : Nat → Int, fW = fun k => (runS l g k).2.2 := ⟨_, rfl⟩
  have eA : ∀ k, (runS l g k).1.arr = fA k := fun k => by rw [hfA]
  have eC : ∀ k, (runS l g k).2.1.arr = fC k := fun k => by rw [hfC]
  have eW : ∀ k, (runS l g k).2.2 = fW k := fun k => by rw [hfW]
  simp only [eA, eC, eW] at hs hs2 hcs hcs2 hS h0C h0W hin2 hout ⊢
  clear hStep hin hfA hfC hfW eA eC eW h0A
  have hw3 : ∀ k, Whole 30 (fA k).size := fun k => by rw [hs]; exact whole30
  have hwc : ∀ k, Whole 36 (fC k).size := fun k => by rw [hcs]; exact whole36
  obtain ⟨W, hW⟩ : ∃ W, W = ((w.alloc (.cells (fA 0) 30)).alloc (.cells zG 30)).alloc (.cells zC 36) := ⟨_, rfl⟩
  have hbg : Blk W w.heap.size 30 (fA 0) := by rw [hW]; exact ((Blk.new w 30 _).alloc _).alloc _
  have hba : Blk W (w.heap.size + 1) 30 zG := by rw [hW]; have := (Blk.new (w.alloc (.cells (fA 0) 30)) 30 zG).alloc (.cells zC 36); simpa using this
  have hbc : Blk W (w.heap.size + 1 + 1) 36 zC := by rw [hW]; have := Blk.new ((w.alloc (.cells (fA 0) 30)).alloc (.cells zG 30)) 36 zC; simpa using this
  have hbl : Below w.heap.size w W := by rw [hW]; exact (((Below.refl _ _).alloc (Nat.le_refl _) _).alloc (by simp) _).alloc (by simp; omega) _
  have hszW : w.heap.size + 3 ≤ W.heap.size := by rw [hW]; simp
  have hSH := Lib.hid hS
  have h0CH := Lib.hid h0C
  have h0WH := Lib.hid h0W
  have hin2H := Lib.hid hin2
  have houtH := Lib.hid hout
  clear hS h0C h0W hin2 hout
  go_enter Try.func11, Try.ntmps11
  go_upto_region 1 with (fail)
  rw [← hW]
  clear hW
  go_wp2_with (go_at_call 13; refine (arith_any _).mono ?_; rintro e w1 ⟨rfl, hf1, hb1⟩)
  obtain ⟨W1, hW1⟩ : ∃ W1, W1 = w1.alloc (.cells zC 36) := ⟨_, rfl⟩
  have hR1 : RunAt w W1 w1.heap.size (fA 0) (fC 0) W.heap.size := by
    rw [hW1]
    refine ⟨(hbg.below hb1).alloc _, (hba.below hb1).alloc _, (hbc.below hb1).alloc _, ?_, hf1.below ((Below.refl _ _).alloc (Nat.le_refl _) _), ?_⟩
    · rw [← h0CH.out]; exact Blk.new w1 36 zC
    · exact (hbl.trans (hb1.mono hbl.size)).alloc (by have := hbl.size; have := hb1.size; omega) _
  have hDs : W.heap.size + 1 ≤ w1.heap.size := Nat.succ_le_of_lt hf1.lt
  rw [← hW1]
  clear hW1 hb1 hf1 hbg hba hbc hbl
  have hR1H := Lib.hid hR1
  clear hR1
  generalize w1.heap.size = D at *
  generalize W.heap.size = m at *
  go_loopw [12, 13] (fun v i wr => ∃ k : Nat, v = .int .i64 (fW k) ∧ i = .int .i64 k ∧ k ≤ N ∧ Hid (RunAt w wr D (fA k) (fC k) m)) (fun _ i _ => N - (intOf i).toNat)
  case atStart => exact ⟨0, by rw [← h0WH.out], rfl, by omega, hR1H⟩
  case round =>
    obtain ⟨k, rfl, rfl, hk, hI⟩ := hrel
    have hkm : (k : Int) < 1000000 := by omega
    by_cases hkN : k < N
    · obtain ⟨hlt, hwent⟩ := hin2H.out k hkN
      have hbg := hI.out.bg
      have hbd := hI.out.bd
      have hs' := hs (k + 1)
      have hs2' := hs2 (k + 1)
      have hcs' := hcs (k + 1)
      have hcs2' := hcs2 (k + 1)
      have hwA := hw3 (k + 1)
      have hwA0 := hw3 k
      have hwC := hwc (k + 1)
      have hfA : (fA k).size = (fA (k + 1)).size := by rw [hs, hs]
      have hfC : (fC k).size = (fC (k + 1)).size := by rw [hcs, hcs]
      have e1 : wrap64 ((k : Int) + 1) = (k : Int) + 1 := IntWalk.wrap64_in _ (by omega)
      have hcall := Lib.hid (hSH.out _ _ hI.out.bl hI.out.fm k hkN)
      generalize hWk : fW k = wk at *
      rcases hwent with rfl | rfl
      all_goals
        go_upto_region 4 with (first
          | (refine wpList_load_blk hbg hwA0 rfl _ rfl rfl ?_)
          | (go_at_call 12; refine hcall.out.mono ?_; rintro e w2 ⟨rfl, hb2⟩; replace hbg := hbg.below hb2; replace hbd := hbd.below hb2)
          | (refine wpList_store_blk hbg hwA hfA hs2' rfl _ _ rfl rfl rfl ?_; intro w3 hB3 hC3; replace hbd := hbd.chg hC3 (by simp; omega))
          | (refine wpList_store_blk hbd hwC hfC hcs2' rfl _ _ rfl rfl rfl ?_; intro w4 hB4 hC4))
        clear hs hs2 hcs hcs2 hw3 hwc hs' hs2' hcs' hcs2' hfA hfC hwA hwC hwA0
        go_wp2
        go_roundw
        case rel =>
          refine ⟨k + 1, rfl, by simp, by omega, Lib.hid ?_⟩
          have hz := hI.out.bl.size
          have hml := hI.out.fm.lt
          have hb3 := hI.out.bl.trans (hb2.mono hz)
          refine ⟨hB3.chg hC4 (by simp; omega), ((hI.out.ba.below hb2).chg hC3 (by simp)).chg hC4 (by simp; omega), ((hI.out.bc.below hb2).chg hC3 (by simp <;> omega)).chg hC4 (by simp; omega), hB4, (((hI.out.fm.below hb2).chg hC3 (by omega)).chg hC4 (by omega)), ?_⟩
          exact (hb3.trans (hC3.below (by simp) hb3.size)).trans (hC4.below (by simp; omega) (Nat.le_trans hb3.size hC3.size))
        case measure => simp [intOf]; omega
    · obtain rfl : k = N := by omega
      have hbg := hI.out.bg
      have hbd := hI.out.bd
      have hba := hI.out.ba
      have hbc := hI.out.bc
      have hwA := hw3 k
      have hwC := hwc k
      have hs' := hs2 k
      have hcs' := hcs2 k
      have hfA : zG.size = (fA k).size := by rw [hs]; rfl
      have hfC : zC.size = (fC k).size := by rw [hcs]; rfl
      have hbl := hI.out.bl
      clear hs hs2 hcs hcs2 hw3 hwc
      rcases houtH.out with h | ⟨h, n1, n4⟩
      · have hq : ((k : Int) < most) = False := by simp; omega
        go_upto_region 5 with (fail)
        refine wp_region_held_drew (S := fun w' => Blk w' w.heap.size 30 (fA k) ∧ Blk w' D 36 (fC k)) (by kernel_rfl) ⟨hbg, hbd⟩ (fun hHeld => ?_)
        simp only [List.setIfInBounds_toArray, List.size_toArray, List.length_cons, List.length_nil, Array.replicate]
        refine wpAnyH_take (i := 0) (v := .agg (fA k)) rfl (by kernel_rfl) (by kernel_rfl) (by kernel_rfl) (fun _ _ _ h => h) (Or.inl ⟨by rfl, fun w' hSw => run_load_blk hSw.1 hwA _ (by rfl) (by rfl)⟩) hHeld ?_
        simp only [Act.put, List.getElem_toArray, List.getElem_cons_succ, List.getElem_cons_zero, List.setIfInBounds_toArray, List.set_cons_zero, List.set_cons_succ]
        refine wpAnyH_take (i := 1) (v := .agg (fC k)) rfl (by kernel_rfl) (by kernel_rfl) (by kernel_rfl) (fun _ _ _ h => h) (Or.inl ⟨by rfl, fun w' hSw => run_load_blk hSw.2 hwC _ (by rfl) (by rfl)⟩) hHeld ?_
        simp only [Act.put, List.getElem_toArray, List.getElem_cons_succ, List.getElem_cons_zero, List.setIfInBounds_toArray, List.set_cons_zero, List.set_cons_succ]
        refine wpAnyH_take (i := 2) (v := ?_) rfl (by kernel_rfl) (by kernel_rfl) (by kernel_rfl) (fun _ _ _ h => h) (Or.inl ⟨by rfl, ?_⟩) hHeld ?_
        rotate_left
        · (intro w' hSw; go_simp; try with_reducible rfl)
        simp only [Act.put, List.getElem_toArray, List.getElem_cons_succ, List.getElem_cons_zero, List.setIfInBounds_toArray, List.set_cons_zero, List.set_cons_succ]
        refine wpAnyH_take (i := 3) (v := ?_) rfl (by kernel_rfl) (by kernel_rfl) (by kernel_rfl) (fun _ _ _ h => h) (Or.inl ⟨by rfl, ?_⟩) hHeld ?_
        rotate_left
        · (intro w' hSw; go_simp; try with_reducible rfl)
        simp only [Act.put, List.getElem_toArray, List.getElem_cons_succ, List.getElem_cons_zero, List.setIfInBounds_toArray, List.set_cons_zero, List.set_cons_succ]
        refine wpAnyH_ready (rs := [4]) (by kernel_rfl) (by simp) ?_
        refine AllReadyH.cons rfl (fun K hK => ?_) AllReadyH.nil
        refine step_store_blk hba.drew hwA hfA hs' (by rfl) _ _ (by rfl) (by rfl) (by rfl) ?_
        intro w6 hB6 hC6
        refine hK _ _ ⟨hHeld.1.chg hC6 (by simp <;> omega), hHeld.2.chg hC6 (by simp <;> omega)⟩ (fun hHeld => ?_)
        clear hK K
        simp only [Act.put, List.getElem_toArray, List.getElem_cons_succ, List.getElem_cons_zero, List.setIfInBounds_toArray, List.set_cons_zero, List.set_cons_succ]
        refine wpAnyH_ready (rs := [5]) (by kernel_rfl) (by simp) ?_
        refine AllReadyH.cons rfl (fun K hK => ?_) AllReadyH.nil
        refine step_store_blk (hbc.drew.chg hC6 (by simp <;> omega)) hwC hfC hcs' (by rfl) _ _ (by rfl) (by rfl) (by rfl) ?_
        intro w7 hB7 hC7
        refine hK _ _ ⟨hHeld.1.chg hC7 (by simp <;> omega), hHeld.2.chg hC7 (by simp <;> omega)⟩ (fun hHeld => ?_)
        clear hK K
        simp only [Act.put, List.getElem_toArray, List.getElem_cons_succ, List.getElem_cons_zero, List.setIfInBounds_toArray, List.set_cons_zero, List.set_cons_succ]
        refine wpAnyH_take (i := 6) (v := ?_) rfl (by kernel_rfl) (by kernel_rfl) (by kernel_rfl) (fun _ _ _ h => h) (Or.inl ⟨by rfl, ?_⟩) hHeld ?_
        rotate_left
        · (intro w' hSw; go_simp; try with_reducible rfl)
        simp only [Act.put, List.getElem_toArray, List.getElem_cons_succ, List.getElem_cons_zero, List.setIfInBounds_toArray, List.set_cons_zero, List.set_cons_succ]
        refine wpAnyH_take (i := 7) (v := ?_) rfl (by kernel_rfl) (by kernel_rfl) (by kernel_rfl) (fun _ _ _ h => h) (Or.inl ⟨by rfl, ?_⟩) hHeld ?_
        rotate_left
        · (intro w' hSw; go_simp; try with_reducible rfl)
        simp only [Act.put, List.getElem_toArray, List.getElem_cons_succ, List.getElem_cons_zero, List.setIfInBounds_toArray, List.set_cons_zero, List.set_cons_succ]
        refine wpAnyH_done (by kernel_rfl) ?_ _
        go_wp2
        have hbl := below_drew hbl
        have hz := hbl.size
        exact bodyPost_ret (run_res (by simp [Act.put]) (by simp [Act.put]) (by simp [Act.put]) (by simp [Act.put]) (hB6.chg hC7 (by simp)) hwA hB7 hwC) rfl ⟨rfl, (hbl.trans (hC6.below (by simp) hz)).trans (hC7.below (by simp <;> omega) (Nat.le_trans hz hC6.size))⟩
      · have q1 : (fW k == 1) = false := by simpa using n1
        have q4 : (fW k == 4) = false := by simpa using n4
        go_upto_region 5 with (fail)
        refine wp_region_held_drew (S := fun w' => Blk w' w.heap.size 30 (fA k) ∧ Blk w' D 36 (fC k)) (by kernel_rfl) ⟨hbg, hbd⟩ (fun hHeld => ?_)
        simp only [List.setIfInBounds_toArray, List.size_toArray, List.length_cons, List.length_nil, Array.replicate]
        refine wpAnyH_take (i := 0) (v := .agg (fA k)) rfl (by kernel_rfl) (by kernel_rfl) (by kernel_rfl) (fun _ _ _ h => h) (Or.inl ⟨by rfl, fun w' hSw => run_load_blk hSw.1 hwA _ (by rfl) (by rfl)⟩) hHeld ?_
        simp only [Act.put, List.getElem_toArray, List.getElem_cons_succ, List.getElem_cons_zero, List.setIfInBounds_toArray, List.set_cons_zero, List.set_cons_succ]
        refine wpAnyH_take (i := 1) (v := .agg (fC k)) rfl (by kernel_rfl) (by kernel_rfl) (by kernel_rfl) (fun _ _ _ h => h) (Or.inl ⟨by rfl, fun w' hSw => run_load_blk hSw.2 hwC _ (by rfl) (by rfl)⟩) hHeld ?_
        simp only [Act.put, List.getElem_toArray, List.getElem_cons_succ, List.getElem_cons_zero, List.setIfInBounds_toArray, List.set_cons_zero, List.set_cons_succ]
        refine wpAnyH_take (i := 2) (v := ?_) rfl (by kernel_rfl) (by kernel_rfl) (by kernel_rfl) (fun _ _ _ h => h) (Or.inl ⟨by rfl, ?_⟩) hHeld ?_
        rotate_left
        · (intro w' hSw; go_simp; try with_reducible rfl)
        simp only [Act.put, List.getElem_toArray, List.getElem_cons_succ, List.getElem_cons_zero, List.setIfInBounds_toArray, List.set_cons_zero, List.set_cons_succ]
        refine wpAnyH_take (i := 3) (v := ?_) rfl (by kernel_rfl) (by kernel_rfl) (by kernel_rfl) (fun _ _ _ h => h) (Or.inl ⟨by rfl, ?_⟩) hHeld ?_
        rotate_left
        · (intro w' hSw; go_simp; try with_reducible rfl)
        simp only [Act.put, List.getElem_toArray, List.getElem_cons_succ, List.getElem_cons_zero, List.setIfInBounds_toArray, List.set_cons_zero, List.set_cons_succ]
        refine wpAnyH_ready (rs := [4]) (by kernel_rfl) (by simp) ?_
        refine AllReadyH.cons rfl (fun K hK => ?_) AllReadyH.nil
        refine step_store_blk hba.drew hwA hfA hs' (by rfl) _ _ (by rfl) (by rfl) (by rfl) ?_
        intro w6 hB6 hC6
        refine hK _ _ ⟨hHeld.1.chg hC6 (by simp <;> omega), hHeld.2.chg hC6 (by simp <;> omega)⟩ (fun hHeld => ?_)
        clear hK K
        simp only [Act.put, List.getElem_toArray, List.getElem_cons_succ, List.getElem_cons_zero, List.setIfInBounds_toArray, List.set_cons_zero, List.set_cons_succ]
        refine wpAnyH_ready (rs := [5]) (by kernel_rfl) (by simp) ?_
        refine AllReadyH.cons rfl (fun K hK => ?_) AllReadyH.nil
        refine step_store_blk (hbc.drew.chg hC6 (by simp <;> omega)) hwC hfC hcs' (by rfl) _ _ (by rfl) (by rfl) (by rfl) ?_
        intro w7 hB7 hC7
        refine hK _ _ ⟨hHeld.1.chg hC7 (by simp <;> omega), hHeld.2.chg hC7 (by simp <;> omega)⟩ (fun hHeld => ?_)
        clear hK K
        simp only [Act.put, List.getElem_toArray, List.getElem_cons_succ, List.getElem_cons_zero, List.setIfInBounds_toArray, List.set_cons_zero, List.set_cons_succ]
        refine wpAnyH_take (i := 6) (v := ?_) rfl (by kernel_rfl) (by kernel_rfl) (by kernel_rfl) (fun _ _ _ h => h) (Or.inl ⟨by rfl, ?_⟩) hHeld ?_
        rotate_left
        · (intro w' hSw; go_simp; try with_reducible rfl)
        simp only [Act.put, List.getElem_toArray, List.getElem_cons_succ, List.getElem_cons_zero, List.setIfInBounds_toArray, List.set_cons_zero, List.set_cons_succ]
        refine wpAnyH_take (i := 7) (v := ?_) rfl (by kernel_rfl) (by kernel_rfl) (by kernel_rfl) (fun _ _ _ h => h) (Or.inl ⟨by rfl, ?_⟩) hHeld ?_
        rotate_left
        · (intro w' hSw; go_simp; try with_reducible rfl)
        simp only [Act.put, List.getElem_toArray, List.getElem_cons_succ, List.getElem_cons_zero, List.setIfInBounds_toArray, List.set_cons_zero, List.set_cons_succ]
        refine wpAnyH_done (by kernel_rfl) ?_ _
        go_wp2
        have hbl := below_drew hbl
        have hz := hbl.size
        exact bodyPost_ret (run_res (by simp [Act.put]) (by simp [Act.put]) (by simp [Act.put]) (by simp [Act.put]) (hB6.chg hC7 (by simp)) hwA hB7 hwC) rfl ⟨rfl, (hbl.trans (hC6.below (by simp) hz)).trans (hC7.below (by simp <;> omega) (Nat.le_trans hz hC6.size))⟩
end Go.Proofs
end
section
namespace Go.Proofs
open Go.RowKit
set_option linter.unusedVariables false
set_option linter.unusedSimpArgs false

theorem two_chg {w0 w1 w3 w4 : World} (h : Below w0.heap.size w0 w1) (hC3 : Chg [w1.heap.size] (two w1) w3) (hC4 : Chg [w1.heap.size + 1] w3 w4) : Below w0.heap.size w0 w4 := by
  have hb := h.trans ((two_b w1).mono h.size)
  have := h.size
  exact (hb.trans (hC3.below (by simpa using h.size) hb.size)).trans (hC4.below (by simp; omega) (Nat.le_trans hb.size hC3.size))

def gN : Gr := ⟨2, false, 0, 0, 0, 0, 3, 0, 0, fun _ => 0, 3, 0⟩
def gM : Gr := ⟨0, false, 0, 0, 0, 0, 0, 0, -1, fun _ => 0, 0, 0⟩
abbrev gNA : Array Value := #[.int .i64 2, .bool false, .int .i64 0, .int .u64 0, .int .i64 0, .int .u64 0, .int .u8 3, .int .i64 0, .int .i64 0, .int .u64 0, .int .u64 0, .int .u64 0, .int .u64 0, .int .u64 0, .int .u64 0, .int .u64 0, .int .u64 0, .int .i64 3, .int .u64 0]
abbrev gMA : Array Value := #[.int .i64 0, .bool false, .int .i64 0, .int .u64 0, .int .i64 0, .int .u64 0, .int .u8 0, .int .i64 0, .int .i64 (-1), .int .u64 0, .int .u64 0, .int .u64 0, .int .u64 0, .int .u64 0, .int .u64 0, .int .u64 0, .int .u64 0, .int .i64 0, .int .u64 0]
theorem gN_ok : gN.ok := ⟨fun i => by simp [gN], fun i => by simp [gN], by decide, by decide, by decide, by decide⟩
theorem gM_ok : gM.ok := ⟨fun i => by simp [gM], fun i => by simp [gM], by decide, by decide, by decide, by decide⟩
theorem gN1_ok : (stepP [0, 0, 0, 0, 9] gN).1.ok := ⟨fun i => by show (0 : Int) ≤ 0; omega, fun i => by show (0 : Int) < 18446744073709551616; omega, by decide, by decide, by decide, by decide⟩
theorem gN2_ok : (stepP [0, 0, 0, 0, 9] (stepP [0, 0, 0, 0, 9] gN).1).1.ok := ⟨fun i => by show (0 : Int) ≤ 0; omega, fun i => by show (0 : Int) < 18446744073709551616; omega, by decide, by decide, by decide, by decide⟩
/-- All that StepNil asks, the goroutines' cells as letters. -/
theorem nil_facts : ∃ A0 A2 A4 : Array Value, gNA = A0 ∧ A0.size = 19 ∧ A2.size = 19 ∧ A4.size = 19 ∧ A0.all (·.oneCell') = true ∧ A2.all (·.oneCell') = true ∧ A4.all (·.oneCell') = true ∧
    (∀ w, (binOp BinOp.eql 30 (.agg A0) (.agg A0)).run Try.prog w = .ok (.bool true) w) ∧ A2[8]? = some (.int .i64 0) ∧ A2[17]? = some (.int .i64 7) ∧ A4[8]? = some (.int .i64 2) ∧ A4[17]? = some (.int .i64 7) ∧
    (∀ W, Calls Try.prog 9 #[.slice none 0 0, .agg A0] W fun e w' => e = .returned (.tuple #[.agg A0, .agg zC, .int .i64 3]) ∧ Below W.heap.size W w') ∧
    (∀ W, Calls Try.prog 9 #[.slice none 0 0, .agg gMA] W fun e w' => e = .returned (.tuple #[.agg A2, .agg zC, .int .i64 4]) ∧ Below W.heap.size W w') ∧
    (∀ W, Calls Try.prog 11 #[.slice none 0 0, .agg A0, .int .i64 0] W fun e w' => e = .returned (.tuple #[.agg A0, .agg zC, .int .i64 1, .int .i64 0]) ∧ Below W.heap.size W w') ∧
    (∀ V W, By W V [0, 0, 0, 0, 9] → Calls Try.prog 11 #[V, .agg A0, .int .i64 5] W fun e w' => e = .returned (.tuple #[.agg A4, .agg zC, .int .i64 3, .int .i64 3]) ∧ Below W.heap.size W w') := by
  refine ⟨gN.arr, (gM.bad 7).arr, (runS [0, 0, 0, 0, 9] gN 3).1.arr, rfl, rfl, rfl, rfl, gN.one, (gM.bad 7).one, Gr.one _, eqlG gN, rfl, rfl, by rfl, by rfl, fun W => ?_, fun W => ?_, fun W => ?_, fun V W hV => ?_⟩
  · have := do_any (.slice none 0 0) [] (by decide) gN gN_ok W (By.nil W)
    rw [show stepP [] gN = (gN, Cl.zero, 3) from by rfl] at this
    exact this
  · have := do_any (.slice none 0 0) [] (by decide) gM gM_ok W (By.nil W)
    rw [show stepP [] gM = (gM.bad 7, Cl.zero, 4) from by rfl] at this
    exact this
  · exact run_any (.slice none 0 0) [] (by decide) gN 0 0 (by decide) (by decide) (fun k hk => absurd hk (by omega)) (.inl (by decide)) W (By.nil W)
  · have := run_any V [0, 0, 0, 0, 9] (by decide) gN 5 3 (by decide) (by decide) (fun k hk => by
        have : k = 0 ∨ k = 1 ∨ k = 2 := by omega
        rcases this with rfl | rfl | rfl
        · exact ⟨by decide, .inl rfl, gN_ok⟩
        · exact ⟨by decide, .inl rfl, gN1_ok⟩
        · exact ⟨by decide, .inr rfl, gN2_ok⟩) (.inr ⟨by decide, by decide, by decide⟩) W hV
    exact this
end Go.Proofs
end
section
namespace Go.Proofs
open Go.RowKit
set_option linter.unusedVariables false
set_option linter.unusedSimpArgs false

set_option maxHeartbeats 4000000 in
set_option maxRecDepth 100000 in
theorem nil_any (w : World) : Calls Try.prog 6 #[] w fun e w' => e = .returned (.bool true) ∧ Below w.heap.size w w' := by
  obtain ⟨A0, A2, A4, hA0, s0, s2, s4, o0, o2, o4, heq, a8, a17, b8, b17, hD1, hD2, hR1, hR2⟩ := nil_facts
  have hwA0 : Whole 30 A0.size := by rw [s0]; exact whole30
  have hwA2 : Whole 30 A2.size := by rw [s2]; exact whole30
  have hwA4 : Whole 30 A4.size := by rw [s4]; exact whole30
  have hwN : Whole 30 gNA.size := whole30
  have hoN : gNA.all (·.oneCell') = true := by simp [Value.oneCell']
  have hf0 : zG.size = A0.size := s0.symm
  have hf2 : zG.size = A2.size := s2.symm
  have hf4 : zG.size = A4.size := s4.symm
  have hwc : Whole 36 zC.size := whole36
  have hzc : zC.all (·.oneCell') = true := by simp [Value.oneCell']
  have hD1H := Lib.hid hD1
  have hD2H := Lib.hid hD2
  have hR1H := Lib.hid hR1
  have hR2H := Lib.hid hR2
  have hA0H := Lib.hid hA0
  have hF := Lib.hid (⟨heq, a8, a17, b8, b17⟩ : _ ∧ _ ∧ _ ∧ _ ∧ _)
  clear hD1 hD2 hR1 hR2 hA0 heq a8 a17 b8 b17
  have hk0 := Blk.new w 30 zG
  go_enter Try.func6, Try.ntmps6
  go_upto_region 2 with (refine wpList_store_blk hk0 hwN rfl hoN rfl _ _ rfl rfl rfl ?_; intro w1 hB1 hC1)
  have hb1 : Below w.heap.size w w1 := ((Below.refl _ _).alloc (Nat.le_refl _) _).trans (hC1.below (by simp) (by simp))
  rw [hA0H.out] at hB1
  clear hC1 hk0
  go_upto_region 3 with (first
    | (refine wpList_load_blk hB1 hwA0 rfl _ rfl rfl ?_)
    | (go_at_call 9; refine (hD1H.out _).mono ?_; rintro e w2 ⟨rfl, hb2⟩)
    | (refine wpList_store_blk (two_g w2) hwA0 hf0 o0 rfl _ _ rfl rfl rfl ?_; intro w3 hB3 hC3)
    | (refine wpList_store_blk ((two_c w2).chg hC3 (by simp)) hwc rfl hzc rfl _ _ rfl rfl rfl ?_; intro w4 hB4 hC4))
  have hb4 := two_chg hb2 hC3 hC4
  have k1 := hB1.below hb4
  have k2 := hB3.chg hC4 (by simp)
  have hb5 := hb1.trans (hb4.mono hb1.size)
  clear hB1 hB3 hB4 hC3 hC4 hb2 hb4 hb1 hD1H
  generalize w2.heap.size = D2 at *
  go_upto_region 4 with (first
    | (go_at_call 9; refine (hD2H.out _).mono ?_; rintro e w2 ⟨rfl, hb2⟩)
    | (refine wpList_store_blk (two_g w2) hwA2 hf2 o2 rfl _ _ rfl rfl rfl ?_; intro w3 hB3 hC3)
    | (refine wpList_store_blk ((two_c w2).chg hC3 (by simp)) hwc rfl hzc rfl _ _ rfl rfl rfl ?_; intro w4 hB4 hC4))
  have hb4 := two_chg hb2 hC3 hC4
  replace k1 := k1.below hb4
  replace k2 := k2.below hb4
  have k3 := hB3.chg hC4 (by simp)
  replace hb5 := hb5.trans (hb4.mono hb5.size)
  clear hB3 hB4 hC3 hC4 hb2 hb4 hD2H
  generalize w2.heap.size = D3 at *
  go_upto_region 5 with (first
    | (refine wpList_load_blk k1 hwA0 rfl _ rfl rfl ?_)
    | (go_at_call 11; refine (hR1H.out _).mono ?_; rintro e w2 ⟨rfl, hb2⟩)
    | (refine wpList_store_blk (two_g w2) hwA0 hf0 o0 rfl _ _ rfl rfl rfl ?_; intro w3 hB3 hC3)
    | (refine wpList_store_blk ((two_c w2).chg hC3 (by simp)) hwc rfl hzc rfl _ _ rfl rfl rfl ?_; intro w4 hB4 hC4))
  have hb4 := two_chg hb2 hC3 hC4
  replace k1 := k1.below hb4
  replace k2 := k2.below hb4
  replace k3 := k3.below hb4
  have k4 := hB3.chg hC4 (by simp)
  replace hb5 := hb5.trans (hb4.mono hb5.size)
  clear hB3 hB4 hC3 hC4 hb2 hb4 hR1H
  generalize w2.heap.size = D4 at *
  obtain ⟨W, hW⟩ : ∃ W, W = w4 := ⟨_, rfl⟩
  have hBy : By (w4.alloc (.cells #[.int .u8 0, .int .u8 0, .int .u8 0, .int .u8 0, .int .u8 9] 5)) (.slice (some ⟨w4.heap.size, 0, none⟩) 5 5) [0, 0, 0, 0, 9] := By.new w4 [0, 0, 0, 0, 9] 5 rfl (by unfold maxLen; omega)
  have k1' := k1.alloc (.cells #[.int .u8 0, .int .u8 0, .int .u8 0, .int .u8 0, .int .u8 9] 5)
  go_upto_region 6 with (first
    | (refine wpList_load_blk k1' hwA0 rfl _ rfl rfl ?_)
    | (go_at_call 11; refine (hR2H.out _ _ hBy).mono ?_; rintro e w2 ⟨rfl, hb2⟩)
    | (refine wpList_store_blk (two_g w2) hwA4 hf4 o4 rfl _ _ rfl rfl rfl ?_; intro w3 hB3 hC3)
    | (refine wpList_store_blk ((two_c w2).chg hC3 (by simp)) hwc rfl hzc rfl _ _ rfl rfl rfl ?_; intro w5 hB4 hC4))
  have hb4 := ((Below.refl w4.heap.size w4).alloc (Nat.le_refl _) (.cells #[.int .u8 0, .int .u8 0, .int .u8 0, .int .u8 0, .int .u8 9] 5)).trans ((two_chg hb2 hC3 hC4).mono (by simp))
  replace k1 := k1.below hb4
  replace k2 := k2.below hb4
  replace k3 := k3.below hb4
  replace k4 := k4.below hb4
  have k5 := hB3.chg hC4 (by simp)
  replace hb5 := hb5.trans (hb4.mono hb5.size)
  clear hB3 hB4 hC3 hC4 hb2 hb4 hR2H k1' hBy
  generalize w2.heap.size = D5 at *
  obtain ⟨heq, a8, a17, b8, b17⟩ := hF.out
  have c8 := (k3.cell 8).trans a8
  have c17 := (k3.cell 17).trans a17
  have d8 := (k5.cell 8).trans b8
  have d17 := (k5.cell 17).trans b17
  clear a8 a17 b8 b17 k3 k5 hf0 hf2 hf4 s0 s2 s4 o0 o2 o4
  go_wp2_with (first
    | (refine wpList_load_blkG k1 hwA0 (by rfl) _ rfl rfl ?_)
    | (refine wpList_load_blkG k2 hwA0 (by rfl) _ rfl rfl ?_)
    | (refine wpList_load_blkG k4 hwA0 (by rfl) _ rfl rfl ?_)
    | (go_at_call 8; refine (known_any _).mono ?_; rintro e w9 ⟨rfl, hb9⟩))
  go_ret
  exact ⟨rfl, hb5.trans (hb9.mono hb5.size)⟩
end Go.Proofs
end
section
namespace Go.Proofs.Ytojpllmghfafjaa.stepNil
open Go.ChangeShapes Go.WideShapes Go.ChangeAt Go.RowKit
set_option linter.unusedVariables false

theorem own : ownKnob Try.prog.godebug = none := by kernel_rfl

set_option maxRecDepth 100000 in
theorem lifted (os : Os) (started : os.Started) (H : Type) (enc : TypeId × Value → H) :
    ReturnsInHanded {} Try.checked os 6 .any (Rows.stepNilSpec.pre6 enc Try.prog Try.f6 Rows.stepNilRow.domain false) (Rows.stepNilSpec.post enc Try.prog Try.f6 false true false false) := by
  refine returnsInHanded_of_change (C := Try.checked) own started (by kernel_rfl) Try.func6
    (ChangeSpec.witness6 (enc := enc) (C := Try.checked) false ⟨#[], #[], []⟩ 8 (by kernel_rfl) (by kernel_rfl) (by kernel_rfl) (by kernel_rfl)) ?_
  intro W base args ds gs before hval0 hW hcnd _
  have hval : ∀ (j : Nat) t v, Try.f6.params[j]? = some t → args[j]? = some v → Value.okWide Try.prog W .any base t v := hval0
  have hW' := hW
  obtain ⟨p, q, hA0, hV, rfl, hfz, hnd⟩ := hW
  have hA : DataW.TrodAll enc Try.prog W 0 (fun _ => true) true Try.f6.params.toList args.toList ds p := hA0
  rw [Try.params6] at hA hval
  obtain ⟨hnil, rfl, rfl⟩ := trodAll_nil hA
  obtain rfl : args = #[] := by cases args; simpa using hnil
  obtain ⟨rfl, rfl⟩ := trodVars_none hV
  clear hA0 hval0
  simp only [List.append_nil] at hW'
  refine (nil_any W).mono fun e W' ⟨he, hg⟩ => ?_
  subst he
  exact ⟨_, rfl, post_of_below (pa := []) (pv := []) hW' (fun _ _ _ => (trodAll_cons_mk (shut_bool Try.underlying4 _) trodAll_mk0)) (fun sp hsp => trodAll_mk0) (fun _ _ => rfl) (by simp)
    hg (ok_one (by kernel_rfl) rfl (okWide_bool_mk Try.underlying4 _))⟩

theorem over : Rows.stepNilRow.holds Try.pinned (OpenSpec.ofChange Rows.stepNilSpec) :=
  OpenClaim.holds_of_wide 6 Try.f6 rfl rfl rfl rfl rfl rfl rfl ⟨rfl, rfl, rfl, rfl, rfl⟩ rfl rfl rfl rfl rfl (by kernel_rfl) Try.func6 (by kernel_rfl)
    (of_decide_eq_true (by kernel_rfl)) (by unfold Func.isWrapper; first | (rw [if_pos (by decide +kernel)]; kernel_rfl) | (rw [if_neg (by decide +kernel)]; exact ⟨rfl, rfl⟩))
    (fun os started H enc _ => lifted os started H enc)

/-- ████ THE STATEMENT ████ -/
theorem proved : Rows.StepNilSaid :=
  over
#print axioms proved
end Go.Proofs.Ytojpllmghfafjaa.stepNil
end
