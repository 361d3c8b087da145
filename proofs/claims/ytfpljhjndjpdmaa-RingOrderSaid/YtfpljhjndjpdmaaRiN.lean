import Derived.Test.YtfpljhjndjpdmaaRiM
namespace Go.Proofs
open Go.RowKit
set_option linter.unusedVariables false

theorem step_append_rs (w : World) {ops : Array Oper} {o : Oper} {a : Act} {K : Act → World → Prop} {Q : Exit → Act → World → Prop} {E : Prop} (hgd : o.guard = none) (s y : Operand)
    (ho : o.op = .call { callee := .builtin .append, args := #[s, y], argTypes := #[29, 29] })
    {v x : Value} {xs l : List Int} {n : Nat} (hs : a.eval s = v) (hy : a.eval y = x) (hr : Row w 3 1 v xs.length (ints xs)) (hx : Rd w x l) (hb : xs.length + l.length ≤ 1000000) (hn : n = xs.length + l.length)
    (h : ∀ A' c' w', Row w' 3 1 (.slice A' n c') (xs ++ l).length (ints (xs ++ l)) → w.grownBy w' v.ownBlock → (∀ k ∈ foot (.slice A' n c'), k ∈ foot v ∨ w.heap.size ≤ k) → K (a.put o.dst (.slice A' n c')) w') :
    if Region.wanted o (yielded ops a.tmps) = true then Oper.wp Try.prog o a w K Q else E := by
  have hw : Region.wanted o (yielded ops a.tmps) = true := by simp [Region.wanted, hgd]
  rw [if_pos hw]
  subst hn
  obtain ⟨v', w', h1, h2, h3, h4⟩ := run_append_rd w o.type hr hx hb
  obtain ⟨A', c', rfl, _⟩ := h2.val
  rw [List.length_append] at h1 h2 h4
  rw [← List.length_append] at h2
  unfold Oper.wp execOp
  simp only [ho, resolve, invoke, builtin, Sem.run_bind, Sem.run_pure, Result.andThen_ok, List.map_toArray, List.map_cons, List.map_nil, hs, hy, h1]
  exact h A' c' w' (by simpa using h2) h3 h4
theorem eraseIdx_parts (L : List Int) (i : Nat) (hi : i < L.length) : L.take i ++ L.drop (i + 1) = L.eraseIdx i := (List.eraseIdx_eq_take_drop_succ L i).symm
set_option maxHeartbeats 3200000 in
set_option maxRecDepth 100000 in
theorem cut_any {w : World} {v : Value} {L : List Int} (h : Rd w v L) (hl : L.length ≤ 8192) (i : Nat) (hi : i < L.length) :
    Calls Try.prog 33 #[v, .int .i64 (i : Nat)] w fun e w' => ∃ v', e = .returned v' ∧ Fresh w w' v' (L.eraseIdx i) := by
  obtain ⟨A, c, rfl, hlc, hcm, hA, _⟩ := h.open_
  obtain ⟨m, hm⟩ : ∃ m, m = L.length := ⟨_, rfl⟩
  rw [← hm] at h hl hi hlc ⊢
  obtain ⟨a, rfl⟩ : ∃ a, A = some a := by
    cases A with
    | none => have := hA rfl; omega
    | some a => exact ⟨a, rfl⟩
  obtain ⟨b, o, rfl⟩ := h.at_
  have h1 := Lib.hid (h.first (Nat.le_of_lt hi))
  have HM := Lib.hid hm
  have HE := Lib.hid (eraseIdx_parts L i (by omega))
  have i0 : (0 : Int) ≤ (i : Int) := by omega
  have i1 : (i : Int) ≤ (c : Int) := by omega
  have i2 : (0 : Int) ≤ (i : Int) + 1 := by omega
  have i3 : (i : Int) + 1 ≤ (m : Int) := by omega
  have e1 : IntKind.i64.wrap ((i : Int) + 1) = (i : Int) + 1 := IntWalk.i64_in _ (by omega)
  have e2 : ((i : Int) + 1).toNat = i + 1 := by omega
  have hc63 : c ≤ 9223372036854775807 := by unfold maxLen at hcm; exact hcm
  have HL1 := Lib.hid (show (L.take i).length = i by rw [List.length_take]; omega)
  have HL2 := Lib.hid (show (L.drop (i + 1)).length = m - (i + 1) by rw [List.length_drop]; omega)
  by_cases hic : i + 1 < c
  · have h2 := Lib.hid (h.rest hi hic)
    have hne : c ≠ i + 1 := by omega
    clear h hm hcm hA
    go_enter Try.func33, Try.ntmps33
    go_wp2
    go_region_law
      (first
        | (refine step_append_rs (xs := []) (n := i) _ (by rfl) _ _ (by rfl) (by rfl) (by rfl) (Row.nil _ _ _) (h1.out.quiet ((Chg.refl _ _).drew)) (by rw [HL1.out]; simp only [List.length_nil]; omega) (by rw [HL1.out]; simp) ?_; intro A1 c1 w1 hr1 hg1 hf1; simp only [List.nil_append] at hr1; have hcA : Chg [] w w1 := ((Chg.refl _ _).drew).grown hg1 (fun k hk => by cases hk); have hfA : ∀ k ∈ foot (.slice A1 i c1), w.heap.size ≤ k := (fun k hk => (hf1 k hk).elim (fun h => by cases h) (fun h => h)); have HCA := Lib.hid hcA; have HFA := Lib.hid hfA; have HR1 := Lib.hid hr1; clear hg1 hf1 hcA hfA hr1)
        | (refine step_append_rs (n := i + (m - (i + 1))) _ (by rfl) _ _ (by rfl) (by rfl) (by rfl) HR1.out (h2.out.quiet HCA.out) (by rw [HL1.out, HL2.out]; omega) (by rw [HL1.out, HL2.out]) ?_; intro A2 c2 w2 hr2 hg2 hf2; have HF := Lib.hid (Fresh.append (w := w) (xs := L.take i) (l := L.drop (i + 1)) ⟨HR1.out, HFA.out, HCA.out⟩ hr2 hg2 hf2); clear hg2 hf2 hr2))
    all_goals
      go_wp2
      go_ret
      exact ⟨_, rfl, by rw [← HE.out]; exact HF.out⟩
  · obtain rfl : c = i + 1 := by omega
    obtain rfl : m = i + 1 := by omega
    have h2 := Lib.hid h.rest0
    have i4 : (i : Int) ≤ (i : Int) + 1 := by omega
    clear h hm hcm hA
    go_enter Try.func33, Try.ntmps33
    go_wp2
    go_region_law
      (first
        | (refine step_append_rs (xs := []) (n := i) _ (by rfl) _ _ (by rfl) (by rfl) (by rfl) (Row.nil _ _ _) (h1.out.quiet ((Chg.refl _ _).drew)) (by rw [HL1.out]; simp only [List.length_nil]; omega) (by rw [HL1.out]; simp) ?_; intro A1 c1 w1 hr1 hg1 hf1; simp only [List.nil_append] at hr1; have hcA : Chg [] w w1 := ((Chg.refl _ _).drew).grown hg1 (fun k hk => by cases hk); have hfA : ∀ k ∈ foot (.slice A1 i c1), w.heap.size ≤ k := (fun k hk => (hf1 k hk).elim (fun h => by cases h) (fun h => h)); have HCA := Lib.hid hcA; have HFA := Lib.hid hfA; have HR1 := Lib.hid hr1; clear hg1 hf1 hcA hfA hr1)
        | (refine step_append_rs (n := i) _ (by rfl) _ _ (by rfl) (by rfl) (by rfl) HR1.out (h2.out.quiet HCA.out) (by rw [HL1.out, HL2.out]; omega) (by rw [HL1.out, HL2.out]; omega) ?_; intro A2 c2 w2 hr2 hg2 hf2; have HF := Lib.hid (Fresh.append (w := w) (xs := L.take i) (l := L.drop (i + 1)) ⟨HR1.out, HFA.out, HCA.out⟩ hr2 hg2 hf2); clear hg2 hf2 hr2))
    all_goals
      go_wp2
      go_ret
      exact ⟨_, rfl, by rw [← HE.out]; exact HF.out⟩
end Go.Proofs
