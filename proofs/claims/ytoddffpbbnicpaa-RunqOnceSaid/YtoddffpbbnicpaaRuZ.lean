import Derived.Test.YtoddffpbbnicpaaRuY
namespace Go.Proofs
open Go.RowKit
set_option linter.unusedVariables false

section
variable {w : World} {r : Nat} {S : List Nat} {M : Nat} {L : List Int} {N : Option Int}
set_option maxRecDepth 100000 in
set_option maxHeartbeats 3200000 in
theorem rall_any (h : RefAt w r S M L N) (hl : L.length ≤ 8192) :
    Calls Try.prog 25 #[.pointer (some ⟨r, 0, none⟩)] w fun e w' => ∃ v, e = .returned v ∧ Fresh w w' v (allQ L N) := by
  obtain ⟨VL, VN, hB, hR, hN, hS⟩ := h
  obtain ⟨A, c, rfl, _⟩ := hR.open_
  obtain ⟨A2, c2, rfl, _⟩ := hN.open_
  have k0 := hB.cell 0
  have k2 := hB.cell 2
  have lr := hB.lt
  unfold allQ
  obtain ⟨J, hJ⟩ : ∃ J, J = N.toList := ⟨_, rfl⟩
  have hj1 : J.length ≤ 1 := by rw [hJ]; cases N <;> simp
  rw [← hJ] at k2 hN ⊢
  obtain ⟨n, hn⟩ : ∃ n, n = L.length := ⟨_, rfl⟩
  obtain ⟨m, hm⟩ : ∃ m, m = J.length := ⟨_, rfl⟩
  simp only [List.getElem?_toArray, List.getElem?_cons_succ, List.getElem?_cons_zero, ← hn, ← hm] at k0 k2
  rw [← hn] at hR hl
  rw [← hm] at hN hj1
  have HL := Lib.hid hR
  have HJ := Lib.hid hN
  have EN := Lib.hid hn
  have EM := Lib.hid hm
  clear hB hR hN hS hJ hn hm
  go_enter Try.func25, Try.ntmps25
  go_wp2
  go_region_law
    (first
      | (refine step_append_rs (xs := []) (n := m) _ (by rfl) _ _ (by rfl) (by rfl) (by rfl) (Row.nil _ _ _) (HJ.out.quiet ((Chg.refl _ _).drew)) (by have := EM.out; simp only [List.length_nil]; omega) (by have := EM.out; simp only [List.length_nil]; omega) ?_; intro A1 c1 w1 hr1 hg1 hf1; simp only [List.nil_append] at hr1; have hcA : Chg [] w w1 := ((Chg.refl _ _).drew).grown hg1 (fun k hk => by cases hk); have e0 := (hcA.cell (p := ⟨r, 0, none⟩) lr (by simp)).trans k0; have hfA : ∀ k ∈ foot (.slice A1 m c1), w.heap.size ≤ k := (fun k hk => (hf1 k hk).elim (fun h => by cases h) (fun h => h)); have HCA := Lib.hid hcA; have HFA := Lib.hid hfA; have HR1 := Lib.hid hr1; clear hg1 hf1 hcA hfA hr1)
      | (refine step_append_rs (n := m + n) _ (by rfl) _ _ (by rfl) (by rfl) (by rfl) HR1.out (HL.out.quiet HCA.out) (by have := EM.out; have := EN.out; omega) (by have := EM.out; have := EN.out; omega) ?_; intro A2 c2 w2 hr2 hg2 hf2; have HF := Lib.hid (Fresh.append (w := w) (xs := J) (l := L) ⟨HR1.out, HFA.out, HCA.out⟩ hr2 hg2 hf2); clear hg2 hf2 hr2))
  all_goals
    go_wp2
    go_ret
    exact ⟨_, rfl, HF.out⟩
/-- A new queue of the document's, in new blocks. -/
def RMade (r : Nat) (S : List Nat) (M : Nat) (L : List Int) (N : Option Int) (w w' : World) : Prop :=
  RefAt w' r S M L N ∧ (∀ k ∈ S, w.heap.size ≤ k) ∧ Chg [] w w'
theorem RMade.mk_ {w2 : World} {A B : Option Addr} {n c m d : Nat} (hL : Rd w2 (.slice A n c) L) (hN : Rd w2 (.slice B m d) N.toList) (f1 : ∀ k ∈ foot (.slice A n c), w.heap.size ≤ k) (f2 : ∀ k ∈ foot (.slice B m d), w.heap.size ≤ k) (hc : Chg [] w w2) :
    RMade w2.heap.size (w2.heap.size :: (foot (.slice A n c) ++ foot (.slice B m d))) M L N w (w2.alloc (.cells #[.slice A n c, .int .i64 (M : Nat), .slice B m d] 45)) := by
  refine ⟨⟨_, _, Blk.new w2 45 _, hL.quiet ((Chg.refl _ _).alloc _), hN.quiet ((Chg.refl _ _).alloc _), rfl⟩, fun k hk => ?_, hc.alloc _⟩
  simp at hk
  rcases hk with rfl | hk | hk
  · exact hc.size
  · exact f1 k hk
  · exact f2 k hk
set_option maxRecDepth 100000 in
set_option maxHeartbeats 6400000 in
theorem rcopy_any (h : RefAt w r S M L N) (hl : L.length ≤ 8192) :
    Calls Try.prog 27 #[.pointer (some ⟨r, 0, none⟩)] w fun e w' => ∃ r' S', e = .returned (.pointer (some ⟨r', 0, none⟩)) ∧ RMade r' S' M L N w w' := by
  obtain ⟨VL, VN, hB, hR, hN, hS⟩ := h
  obtain ⟨A, c, rfl, _⟩ := hR.open_
  obtain ⟨A2, c2, rfl, _⟩ := hN.open_
  have k0 := hB.cell 0
  have k1 := hB.cell 1
  have k2 := hB.cell 2
  have lr := hB.lt
  have hj1 : N.toList.length ≤ 1 := by cases N <;> simp
  obtain ⟨n, hn⟩ : ∃ n, n = L.length := ⟨_, rfl⟩
  obtain ⟨m, hm⟩ : ∃ m, m = N.toList.length := ⟨_, rfl⟩
  simp only [List.getElem?_toArray, List.getElem?_cons_succ, List.getElem?_cons_zero, ← hn, ← hm] at k0 k1 k2
  rw [← hn] at hR hl
  rw [← hm] at hN hj1
  have HL := Lib.hid hR
  have HJ := Lib.hid hN
  have EN := Lib.hid hn
  have EM := Lib.hid hm
  clear hB hR hN hS hn hm
  go_enter Try.func27, Try.ntmps27
  go_wp2
  go_region_law
    (first
      | (refine step_append_rs (xs := []) (n := n) _ (by rfl) _ _ (by rfl) (by rfl) (by rfl) (Row.nil _ _ _) (HL.out.quiet ((Chg.refl _ _).drew)) (by have := EN.out; simp only [List.length_nil]; omega) (by have := EN.out; simp only [List.length_nil]; omega) ?_; intro A3 c3 w1 hr1 hg1 hf1; simp only [List.nil_append] at hr1; have hcA : Chg [] w w1 := (((Chg.refl [] w).drew)).grown hg1 (fun k hk => by cases hk); have e10 := (hcA.cell (p := ⟨r, 0, none⟩) lr (by simp)).trans k0; have e11 := (hcA.cell (p := ⟨r, 1, none⟩) lr (by simp)).trans k1; have e12 := (hcA.cell (p := ⟨r, 2, none⟩) lr (by simp)).trans k2; have hfA : ∀ k ∈ foot (.slice A3 n c3), w.heap.size ≤ k := (fun k hk => (hf1 k hk).elim (fun h => by cases h) (fun h => Nat.le_trans (((Chg.refl [] w).drew)).size h)); have HC1 := Lib.hid hcA; have HF1 := Lib.hid hfA; have HR1 := Lib.hid hr1; clear hg1 hf1 hcA hfA hr1)
      | (refine step_append_rs (xs := []) (n := m) _ (by rfl) _ _ (by rfl) (by rfl) (by rfl) (Row.nil _ _ _) (HJ.out.quiet HC1.out) (by have := EM.out; simp only [List.length_nil]; omega) (by have := EM.out; simp only [List.length_nil]; omega) ?_; intro A4 c4 w2 hr1 hg1 hf1; simp only [List.nil_append] at hr1; have hcA : Chg [] w w2 := (HC1.out).grown hg1 (fun k hk => by cases hk); have e20 := (hcA.cell (p := ⟨r, 0, none⟩) lr (by simp)).trans k0; have e21 := (hcA.cell (p := ⟨r, 1, none⟩) lr (by simp)).trans k1; have e22 := (hcA.cell (p := ⟨r, 2, none⟩) lr (by simp)).trans k2; have hfA : ∀ k ∈ foot (.slice A4 m c4), w.heap.size ≤ k := (fun k hk => (hf1 k hk).elim (fun h => by cases h) (fun h => Nat.le_trans (HC1.out).size h)); have HP2 := Lib.hid ((Rd.of_row HR1.out).quiet ((Chg.refl [] _).grown hg1 (fun k hk => by cases hk))); have HC2 := Lib.hid hcA; have HF2 := Lib.hid hfA; have HR2 := Lib.hid hr1; clear hg1 hf1 hcA hfA hr1)
      | (refine step_append_rs (xs := []) (n := m) _ (by rfl) _ _ (by rfl) (by rfl) (by rfl) (Row.nil _ _ _) (HJ.out.quiet ((Chg.refl _ _).drew)) (by have := EM.out; simp only [List.length_nil]; omega) (by have := EM.out; simp only [List.length_nil]; omega) ?_; intro A5 c5 w3 hr1 hg1 hf1; simp only [List.nil_append] at hr1; have hcA : Chg [] w w3 := (((Chg.refl [] w).drew)).grown hg1 (fun k hk => by cases hk); have e30 := (hcA.cell (p := ⟨r, 0, none⟩) lr (by simp)).trans k0; have e31 := (hcA.cell (p := ⟨r, 1, none⟩) lr (by simp)).trans k1; have e32 := (hcA.cell (p := ⟨r, 2, none⟩) lr (by simp)).trans k2; have hfA : ∀ k ∈ foot (.slice A5 m c5), w.heap.size ≤ k := (fun k hk => (hf1 k hk).elim (fun h => by cases h) (fun h => Nat.le_trans (((Chg.refl [] w).drew)).size h)); have HC3 := Lib.hid hcA; have HF3 := Lib.hid hfA; have HR3 := Lib.hid hr1; clear hg1 hf1 hcA hfA hr1)
      | (refine step_append_rs (xs := []) (n := n) _ (by rfl) _ _ (by rfl) (by rfl) (by rfl) (Row.nil _ _ _) (HL.out.quiet HC3.out) (by have := EN.out; simp only [List.length_nil]; omega) (by have := EN.out; simp only [List.length_nil]; omega) ?_; intro A6 c6 w4 hr1 hg1 hf1; simp only [List.nil_append] at hr1; have hcA : Chg [] w w4 := (HC3.out).grown hg1 (fun k hk => by cases hk); have e40 := (hcA.cell (p := ⟨r, 0, none⟩) lr (by simp)).trans k0; have e41 := (hcA.cell (p := ⟨r, 1, none⟩) lr (by simp)).trans k1; have e42 := (hcA.cell (p := ⟨r, 2, none⟩) lr (by simp)).trans k2; have hfA : ∀ k ∈ foot (.slice A6 n c6), w.heap.size ≤ k := (fun k hk => (hf1 k hk).elim (fun h => by cases h) (fun h => Nat.le_trans (HC3.out).size h)); have HP4 := Lib.hid ((Rd.of_row HR3.out).quiet ((Chg.refl [] _).grown hg1 (fun k hk => by cases hk))); have HC4 := Lib.hid hcA; have HF4 := Lib.hid hfA; have HR4 := Lib.hid hr1; clear hg1 hf1 hcA hfA hr1))
  all_goals
    go_wp2
    go_ret
    first
      | exact ⟨_, _, rfl, RMade.mk_ HP2.out (Rd.of_row HR2.out) HF1.out HF2.out HC2.out⟩
      | exact ⟨_, _, rfl, RMade.mk_ (Rd.of_row HR4.out) HP4.out HF4.out HF3.out HC4.out⟩
variable {r2 : Nat} {S2 : List Nat} {K : List Int} {J : Option Int}
theorem opt_beq (N J : Option Int) : (N.toList == J.toList) = decide (N = J) := by
  cases N <;> cases J <;> simp [Bool.beq_eq_decide_eq]
set_option maxRecDepth 100000 in
set_option maxHeartbeats 3200000 in
theorem rqsame_any (h : RefAt w r S M L N) (h2 : RefAt w r2 S2 M K J) (hl : L.length ≤ 8192) (hk : K.length ≤ 8192) :
    Calls Try.prog 29 #[.pointer (some ⟨r, 0, none⟩), .pointer (some ⟨r2, 0, none⟩)] w fun e w' => e = .returned (.bool (decide (N = J) && (L == K))) ∧ ∃ q, w' = w.drewN q := by
  obtain ⟨VL, VN, hB, hR, hN, hS⟩ := h
  obtain ⟨VL2, VN2, hB2, hR2, hN2, hS2⟩ := h2
  have k0 := hB.cell 0
  have k1 := hB.cell 1
  have k2 := hB.cell 2
  have j0 := hB2.cell 0
  have j1 := hB2.cell 1
  have j2 := hB2.cell 2
  have sL : ∀ n, Calls Try.prog 23 #[VL, VL2] (w.drewN n) fun e w' => e = .returned (.bool (L == K)) ∧ ∃ q, w' = (w.drewN n).drewN q := fun n => rsame_q (hR.quiet ((Chg.refl _ _).drewN n)) (hR2.quiet ((Chg.refl _ _).drewN n)) hl hk
  have sN : ∀ n, Calls Try.prog 23 #[VN, VN2] (w.drewN n) fun e w' => e = .returned (.bool (decide (N = J))) ∧ ∃ q, w' = (w.drewN n).drewN q := fun n => by
    have := rsame_q (hN.quiet ((Chg.refl _ _).drewN n)) (hN2.quiet ((Chg.refl _ _).drewN n)) (by cases N <;> simp) (by cases J <;> simp)
    rwa [opt_beq] at this
  obtain ⟨A, c, rfl, _⟩ := hR.open_
  obtain ⟨A2, c2, rfl, _⟩ := hN.open_
  obtain ⟨A3, c3, rfl, _⟩ := hR2.open_
  obtain ⟨A4, c4, rfl, _⟩ := hN2.open_
  have hMM : ((M : Int) == (M : Int)) = true := by simp
  obtain ⟨R, hRe⟩ : ∃ R, R = (L == K) := ⟨_, rfl⟩
  rw [← hRe] at sL ⊢
  clear hB hB2 hR hR2 hN hN2 hS hS2 hRe
  by_cases hx : N = J
  · simp only [hx, decide_true, Bool.true_and] at sN ⊢
    simp only [hx] at k2 
    clear hx
    go_enter Try.func29, Try.ntmps29
    go_wp2
    go_quiet ((first
      | (go_at_call 23; ((with_reducible refine Calls.quiet_of (sL _))))
      | (go_at_call 23; ((with_reducible refine Calls.quiet_of (sN _))))))
    go_wp2
    go_ret
    exact ⟨rfl, _, rfl⟩
  · simp only [hx, decide_false, Bool.false_and] at sN ⊢
    clear hx
    go_enter Try.func29, Try.ntmps29
    go_wp2
    go_quiet ((first
      | (go_at_call 23; ((with_reducible refine Calls.quiet_of (sL _))))
      | (go_at_call 23; ((with_reducible refine Calls.quiet_of (sN _))))))
    go_wp2
    go_ret
    exact ⟨rfl, _, rfl⟩
end
end Go.Proofs
