import Derived.Test.YtapgcadffghljaaM8
import Derived.Test.YtapgcadffghljaaM5
import Derived.Test.YtapgcadffghljaaM1
import Derived.Test.YtapgcadffghljaaM7
section
namespace Go.Proofs
open Go.RowKit
set_option linter.unusedVariables false
set_option linter.unusedSimpArgs false
section
variable {t : Tab Gr} {N M : Nat}
theorem Inv.mono (h : Inv t N M) {M' : Nat} (hm : M ≤ M') : Inv t N M' :=
  ⟨h.wf, h.size, h.n64, h.first, fun k s hs => by have := h.gen k s hs; omega, h.zero, h.may⟩
theorem Inv.thing (h : Inv t N M) (k : Nat) (hk : ∃ s, t.spots[k]? = some s ∧ s.there = true) (x : Gr) (hx : mayP x = true) (h0 : 0 ≤ x.un) : Inv (t.thing k x) N M := by
  obtain ⟨s, hs, hth⟩ := hk
  have hw := wf_thing h.wf k x
  have hlt := (List.getElem?_eq_some_iff.1 hs).1
  rw [thing_eq hs] at hw ⊢
  have key : ∀ (j : Nat) (s' : Spot Gr), (t.spots.set k { s with thing := x })[j]? = some s' → (j = k ∧ s' = { s with thing := x }) ∨ t.spots[j]? = some s' := fun j s' hj => by
    by_cases e : j = k
    · subst e; rw [List.getElem?_set_self hlt] at hj; cases hj; exact .inl ⟨rfl, rfl⟩
    · rw [List.getElem?_set_ne (fun e' => e e'.symm)] at hj; exact .inr hj
  refine ⟨hw, h.size, h.n64, h.first, fun j s' hj => ?_, fun j s' hj hn => ?_, fun j s' hj hn => ?_⟩
  · rcases key j s' hj with ⟨_, rfl⟩ | hj
    · exact h.gen k s hs
    · exact h.gen j s' hj
  · rcases key j s' hj with ⟨_, rfl⟩ | hj
    · rw [show ({ s with thing := x } : Spot Gr).there = s.there from rfl, hth] at hn; cases hn
    · exact h.zero j s' hj hn
  · rcases key j s' hj with ⟨_, rfl⟩ | hj
    · exact ⟨hx, h0⟩
    · exact h.may j s' hj hn
theorem Inv.setT (h : Inv t N M) (i q : Int) (x : Gr) (h0 : 0 ≤ x.un) : Inv (t.setT i q x) N M := by
  unfold Tab.setT
  by_cases e : t.setE i q x = 0
  · rw [if_pos e]
    unfold Tab.setE at e
    cases hm : mayP x
    · rw [hm] at e; simp at e
    · rw [hm] at e
      cases hq : t.has i q
      · rw [hq] at e; simp at e
      · obtain ⟨k, s, rfl, rfl, hs, hth⟩ := has_spot hq
        exact h.thing k ⟨s, hs, hth⟩ x hm h0
  · rw [if_neg e]; exact h
theorem Inv.gen_in (h : Inv t N M) (hM : M < 1000) {i q : Int} (hq : t.has i q = true) : 0 ≤ q ∧ q < 1000000 := by
  obtain ⟨k, s, rfl, rfl, hs, hth⟩ := has_spot hq
  have h1 := h.gen k s hs
  have h2 := (h.wf.gens k s hs).1
  rw [h.first] at h2
  omega
theorem flag_flag (s : Int) (b : Bool) : flagP s (flagP s b) = flagP s b := by
  unfold flagP; split
  · rfl
  · split <;> rfl
theorem turns_in {a b : Int} (h : turnsP a b = true) : 1 ≤ b ∧ b ≤ 6 := by
  unfold turnsP at h
  split at h
  · simp at h; omega
  · split at h
    · simp at h; omega
    · split at h
      · simp at h; omega
      · split at h
        · simp at h; omega
        · cases h
theorem may_turn {g : Gr} {to : Int} (hg : mayP g = true) (ht : turnsP g.st to = true) : mayP (g.turn to) = true := by
  obtain ⟨h1, h2⟩ := turns_in ht
  unfold mayP at hg ⊢
  simp only [Bool.and_eq_true] at hg ⊢
  obtain ⟨⟨⟨⟨_, _⟩, hp⟩, hc⟩, _⟩ := hg
  refine ⟨⟨⟨⟨⟨decide_eq_true h1, decide_eq_true h2⟩, ?_⟩, hp⟩, hc⟩, ?_⟩
  · unfold Gr.turn; simp
  · unfold Gr.turn; simp [flag_flag]
theorem may_st {g : Gr} (hg : mayP g = true) : 1 ≤ g.st ∧ g.st ≤ 6 := by
  unfold mayP at hg
  simp only [Bool.and_eq_true, decide_eq_true_eq] at hg
  exact hg.1.1.1.1
theorem Inv.getG (h : Inv t N M) (i q : Int) : inI (t.getG i q).st := by
  cases hq : t.has i q
  · rw [getG_no hq]; exact ⟨by decide, by decide⟩
  · obtain ⟨k, s, rfl, rfl, hs, hth⟩ := has_spot hq
    rw [getG_yes (live_nat.2 ⟨hs, hth⟩) hq]
    have := may_st (h.may k s hs hth).1
    exact ⟨by omega, by omega⟩
theorem Inv.turnT (h : Inv t N M) (i q to : Int) : Inv (t.turnT i q to) N M := by
  unfold Tab.turnT
  by_cases e : t.turnE i q to = 0
  · rw [if_pos e]
    unfold Tab.turnE at e
    cases hq : t.has i q
    · rw [hq] at e; simp at e
    · rw [hq] at e
      obtain ⟨k, s, rfl, rfl, hs, hth⟩ := has_spot hq
      rw [getG_yes (live_nat.2 ⟨hs, hth⟩) hq] at e ⊢
      cases ht : turnsP s.thing.st to
      · rw [ht] at e; simp at e
      · exact h.thing k ⟨s, hs, hth⟩ _ (may_turn (h.may k s hs hth).1 ht) (by unfold Gr.turn; simp)
  · rw [if_neg e]; exact h
theorem Inv.drT (h : Inv t N M) (i q : Int) : Inv (t.drT i q) N (M + 1) := by
  have hw := drT_wf h.wf i q
  unfold Tab.drT at hw ⊢
  cases hq : t.has i q
  · rw [if_neg (by simp)]; exact h.mono (by omega)
  · rw [hq] at hw
    rw [if_pos rfl] at hw ⊢
    obtain ⟨k, s, rfl, rfl, hs, hth⟩ := has_spot hq
    have hlt := (List.getElem?_eq_some_iff.1 hs).1
    have key : ∀ (j : Nat) (s' : Spot Gr), (t.drop Gr.zero k s.gen).spots[j]? = some s' → s' = ⟨s.gen + 1, false, Gr.zero⟩ ∨ t.spots[j]? = some s' := fun j s' hj => by
      rw [drop_spots hlt] at hj
      by_cases e : j = k
      · rw [if_pos e] at hj; cases hj; exact .inl rfl
      · rw [if_neg e] at hj; exact .inr hj
    refine ⟨hw, h.size, h.n64, h.first, fun j s' hj => ?_, fun j s' hj hn => ?_, fun j s' hj hn => ?_⟩
    · rcases key j s' hj with rfl | hj
      · have := h.gen k s hs; show s.gen + 1 ≤ _; omega
      · have := h.gen j s' hj; omega
    · rcases key j s' hj with rfl | hj
      · rfl
      · exact h.zero j s' hj hn
    · rcases key j s' hj with rfl | hj
      · cases hn
      · exact h.may j s' hj hn
theorem Inv.mkT (h : Inv t N M) (x : Gr) (h0 : 0 ≤ x.un) : Inv (t.mkT x) N M := by
  unfold Tab.mkT
  cases hm : mayP x
  · rw [if_pos rfl]; exact h
  · rw [if_neg (by simp)]
    have hw := putT_wf h.wf x
    unfold Tab.putT at hw ⊢
    by_cases hf : t.frees = 0
    · rw [if_pos hf]; exact h
    · rw [if_neg hf] at hw ⊢
      obtain ⟨p1, p2, p3⟩ := put_same (z := Gr.zero) (t := t) x
      have hga : t.genAt t.takeAt ≤ M + 1 := by
        unfold Tab.genAt
        cases hs : t.spots[t.takeAt]? with
        | none => simp [h.first]; omega
        | some s => exact h.gen _ s hs
      have key : ∀ (j : Nat) (s' : Spot Gr), (t.put Gr.zero x).spots[j]? = some s' → s' = ⟨t.genAt t.takeAt, true, x⟩ ∨ t.spots[j]? = some s' := fun j s' hj => by
        rw [put_spots h.wf hf] at hj
        by_cases e : j = t.takeAt
        · rw [if_pos e] at hj; cases hj; exact .inl rfl
        · rw [if_neg e] at hj; exact .inr hj
      refine ⟨hw, by rw [p1, h.size], h.n64, by rw [p2, h.first], fun j s' hj => ?_, fun j s' hj hn => ?_, fun j s' hj hn => ?_⟩
      · rcases key j s' hj with rfl | hj
        · exact hga
        · exact h.gen j s' hj
      · rcases key j s' hj with rfl | hj
        · cases hn
        · exact h.zero j s' hj hn
      · rcases key j s' hj with rfl | hj
        · exact ⟨hm, h0⟩
        · exact h.may j s' hj hn
theorem there_iff (h : Inv t N M) (hM : M < 1000) {k : Nat} (hk : k < t.spots.length) : (t.live (k : Nat)).isSome = !decide (k ∈ t.freed) := by
  have hs : t.spots[k]? = some t.spots[k] := List.getElem?_eq_getElem hk
  by_cases hm : k ∈ t.freed
  · obtain ⟨s, h1, h2, _⟩ := h.wf.free k hm
    have : t.live (k : Nat) = none := by
      cases hl : t.live (k : Nat) with
      | none => rfl
      | some s' => have := live_nat.1 hl; rw [h1] at this; obtain ⟨e, e2⟩ := this; cases e; rw [h2] at e2; cases e2
    simp [this, hm]
  · cases hb : (t.spots[k]).there
    · have hg := h.low hM k _ hs
      exact absurd (h.wf.empties k _ hs hb (by omega)) hm
    · simp [live_nat.2 ⟨hs, hb⟩, hm]
theorem now_count (t : Tab Gr) : ∀ n, (nowL t n).length = ((List.range n).filter fun i => (t.live (i : Nat)).isSome).length := by
  intro n
  induction n with
  | zero => rfl
  | succ n ih =>
    rw [List.range_succ, List.filter_append]
    rcases live_cases t (n : Nat) with ⟨s, hs⟩ | hn
    · rw [nowL_yes hs, List.length_append, ih]; simp [hs]
    · rw [nowL_no hn, ih]; simp [hn]
theorem now_more (h : Inv t N M) : ∀ n, t.spots.length ≤ n → nowL t n = nowL t t.spots.length := by
  intro n hn
  induction n with
  | zero => rw [show t.spots.length = 0 by omega]
  | succ n ih =>
    by_cases e : t.spots.length = n + 1
    · rw [e]
    · have hl : t.live (n : Nat) = none := by
        cases hl : t.live (n : Nat) with
        | none => rfl
        | some s => have := (List.getElem?_eq_some_iff.1 (live_nat.1 hl).1).1; omega
      rw [nowL_no hl, ih (by omega)]
/-- How many there are. -/
theorem live_len (h : Inv t N M) (hM : M < 1000) : t.size - t.frees - t.retired = ((nowL t N).length : Nat) := by
  have hr : t.retired = 0 := by
    rw [h.wf.ret]
    have : t.spots.countP (fun s : Spot Gr => s.gen == topG) = 0 := by
      rw [List.countP_eq_zero]
      intro s hs
      obtain ⟨k, hk⟩ := List.getElem?_of_mem hs
      have := h.low hM k s hk
      simp; omega
    rw [this]; rfl
  rw [now_more h N h.len, now_count]
  have e1 : (List.range t.spots.length).filter (fun i => (t.live (i : Nat)).isSome) = (List.range t.spots.length).filter (fun i => !decide (i ∈ t.freed)) :=
    List.filter_congr fun i hi => there_iff h hM (List.mem_range.1 hi)
  rw [e1]
  have hA : ((List.range t.spots.length).filter fun i => decide (i ∈ t.freed)).length = t.freed.length := by
    apply Nat.le_antisymm
    · exact List.Nodup.length_le_of_subset (List.nodup_range.filter _) fun i hi => by simpa using (List.mem_filter.1 hi).2
    · exact h.wf.nodup.length_le_of_subset fun i hi => List.mem_filter.2 ⟨List.mem_range.2 (h.wf.freed_lt i hi), by simpa using hi⟩
  have hB : (List.range t.spots.length).length = ((List.range t.spots.length).filter fun i => decide (i ∈ t.freed)).length + ((List.range t.spots.length).filter fun i => !decide (i ∈ t.freed)).length := by
    have := List.length_eq_countP_add_countP (l := List.range t.spots.length) (fun i => decide (i ∈ t.freed))
    rw [List.countP_eq_length_filter, List.countP_eq_length_filter] at this
    rw [this]
    congr 2
    apply List.filter_congr
    intro i hi; simp
  rw [hA, List.length_range] at hB
  unfold Tab.frees
  rw [hr]
  omega
end
end Go.Proofs
end
section
namespace Go.Proofs
open Go.RowKit
set_option linter.unusedVariables false
set_option linter.unusedSimpArgs false

set_option maxRecDepth 100000 in
set_option maxHeartbeats 3200000 in
theorem rCopy_any {w : World} {p : Nat} {S : List Nat} {r : Rt} (h : DAt w p S r) (hl : r.L.length ≤ 64) (hfl : r.F.length ≤ 64) :
    Calls Try.prog 22 #[ptr p] w fun e w' => ∃ p' S', e = .returned (ptr p') ∧ DAt w' p' S' r ∧ (∀ k ∈ S', w.heap.size ≤ k) ∧ Chg [] w w' := by
  obtain ⟨VL, VF, hB, hS, hF, hSS⟩ := h
  obtain ⟨i0, hi0, hz0, hz1, hz2⟩ := info_parts Try.info_79
  obtain ⟨ni, hj0, hy0, hy1, hy2⟩ := info_parts Try.num_info_C
  have ho1 := spotsCells_one r.L
  have ho2 := numCells_one r.F
  obtain ⟨A1, c1, hVL, _⟩ := hS.val
  obtain ⟨A2, c2, hVF, _⟩ := hF.val
  obtain ⟨n, hn⟩ : ∃ n, n = r.L.length := ⟨_, rfl⟩
  obtain ⟨m, hm⟩ : ∃ m, m = r.F.length := ⟨_, rfl⟩
  rw [← hn] at hS hl hVL
  rw [← hm] at hF hfl hVF
  have hfin : ∀ (W : World) (v1 v2 : Value), Row W 79 21 v1 n (spotCells r.L) → Row W 3 1 v2 m (numCells r.F) → (∀ k ∈ foot v1, w.heap.size ≤ k) → (∀ k ∈ foot v2, w.heap.size ≤ k) → Chg [] w W →
      ∃ S', DAt (W.alloc (.cells #[v1, v2] 83)) W.heap.size S' r ∧ (∀ k ∈ S', w.heap.size ≤ k) ∧ Chg [] w (W.alloc (.cells #[v1, v2] 83)) := fun W v1 v2 h1 h2 f1 f2 hc => by
    refine ⟨_, ⟨v1, v2, Blk.new W 83 _, by rw [← hn]; exact h1.alloc _, by rw [← hm]; exact h2.alloc _, rfl⟩, fun k hk => ?_, hc.alloc _⟩
    simp only [List.mem_cons, List.mem_append] at hk
    rcases hk with rfl | hk | hk
    · exact hc.size
    · exact f1 k hk
    · exact f2 k hk
  have HFIN := Lib.hid hfin
  obtain ⟨C1, hC1⟩ : ∃ C1, C1 = spotCells r.L := ⟨_, rfl⟩
  obtain ⟨C2, hC2⟩ : ∃ C2, C2 = numCells r.F := ⟨_, rfl⟩
  rw [← hC1] at hS ho1 HFIN
  rw [← hC2] at hF ho2 HFIN
  have HS := Lib.hid hS
  have HF := Lib.hid hF
  have lp := hB.lt
  clear hS hF hSS hn hm hfin hC1 hC2
  subst hVL hVF
  go_enter Try.func22, Try.ntmps22
  go_wp2_with (fail)
  obtain ⟨W0, hW0⟩ : ∃ W0, W0 = w.drew := ⟨_, rfl⟩
  have hc0 : Chg [] w W0 := by rw [hW0]; exact (Chg.refl [] w).drew
  have hB0 := hB.chg hc0 (by simp)
  refine wp_region_held_drew (S := fun w' => Blk w' p 83 #[.slice A1 n c1, .slice A2 m c2]) (by kernel_rfl) hB.drew (fun hHeld => ?_)
  rw [← hW0] at hHeld ⊢
  clear hW0
  simp only [List.setIfInBounds_toArray, List.size_toArray, List.length_cons, List.length_nil, Array.replicate]
  refine wpAnyH_take (i := 0) (v := ?_) rfl (by kernel_rfl) (by kernel_rfl) (by kernel_rfl) (fun _ _ _ h => h) (Or.inl ⟨by rfl, ?_⟩) hHeld ?_
  rotate_left
  · (intro w' hSw; go_simp; try with_reducible rfl)
  simp only [Act.put, List.getElem_toArray, List.getElem_cons_succ, List.getElem_cons_zero, List.setIfInBounds_toArray, List.set_cons_zero, List.set_cons_succ]
  refine wpAnyH_take (i := 1) (v := ?_) rfl (by kernel_rfl) (by kernel_rfl) (by kernel_rfl) (fun _ _ _ h => h) (Or.inl ⟨by rfl, ?_⟩) hHeld ?_
  rotate_left
  · (intro w' hSw; go_simp; try with_reducible rfl)
  simp only [Act.put, List.getElem_toArray, List.getElem_cons_succ, List.getElem_cons_zero, List.setIfInBounds_toArray, List.set_cons_zero, List.set_cons_succ]
  refine wpAnyH_take (i := 2) (v := ?_) rfl (by kernel_rfl) (by kernel_rfl) (by kernel_rfl) (fun _ _ _ h => h) (Or.inl ⟨by rfl, ?_⟩) hHeld ?_
  rotate_left
  · (intro w' hSw; go_simp; try with_reducible rfl)
  simp only [Act.put, List.getElem_toArray, List.getElem_cons_succ, List.getElem_cons_zero, List.setIfInBounds_toArray, List.set_cons_zero, List.set_cons_succ]
  refine wpAnyH_take (i := 3) (v := ?_) rfl (by kernel_rfl) (by kernel_rfl) (by kernel_rfl) (fun _ _ _ h => h) (Or.inl ⟨by rfl, ?_⟩) hHeld ?_
  rotate_left
  · (intro w' hSw; have q0 := hSw.cell 0; simp only [List.getElem?_toArray, List.getElem?_cons_zero, List.getElem?_cons_succ] at q0; go_simp; try with_reducible rfl)
  simp only [Act.put, List.getElem_toArray, List.getElem_cons_succ, List.getElem_cons_zero, List.setIfInBounds_toArray, List.set_cons_zero, List.set_cons_succ]
  refine wpAnyH_take (i := 5) (v := ?_) rfl (by kernel_rfl) (by kernel_rfl) (by kernel_rfl) (fun _ _ _ h => h) (Or.inl ⟨by rfl, ?_⟩) hHeld ?_
  rotate_left
  · (intro w' hSw; go_simp; try with_reducible rfl)
  simp only [Act.put, List.getElem_toArray, List.getElem_cons_succ, List.getElem_cons_zero, List.setIfInBounds_toArray, List.set_cons_zero, List.set_cons_succ]
  refine wpAnyH_take (i := 6) (v := ?_) rfl (by kernel_rfl) (by kernel_rfl) (by kernel_rfl) (fun _ _ _ h => h) (Or.inl ⟨by rfl, ?_⟩) hHeld ?_
  rotate_left
  · (intro w' hSw; go_simp; try with_reducible rfl)
  simp only [Act.put, List.getElem_toArray, List.getElem_cons_succ, List.getElem_cons_zero, List.setIfInBounds_toArray, List.set_cons_zero, List.set_cons_succ]
  refine wpAnyH_take (i := 7) (v := ?_) rfl (by kernel_rfl) (by kernel_rfl) (by kernel_rfl) (fun _ _ _ h => h) (Or.inl ⟨by rfl, ?_⟩) hHeld ?_
  rotate_left
  · (intro w' hSw; go_simp; try with_reducible rfl)
  simp only [Act.put, List.getElem_toArray, List.getElem_cons_succ, List.getElem_cons_zero, List.setIfInBounds_toArray, List.set_cons_zero, List.set_cons_succ]
  refine wpAnyH_take (i := 8) (v := ?_) rfl (by kernel_rfl) (by kernel_rfl) (by kernel_rfl) (fun _ _ _ h => h) (Or.inl ⟨by rfl, ?_⟩) hHeld ?_
  rotate_left
  · (intro w' hSw; have q0 := hSw.cell 1; simp only [List.getElem?_toArray, List.getElem?_cons_zero, List.getElem?_cons_succ] at q0; go_simp; try with_reducible rfl)
  simp only [Act.put, List.getElem_toArray, List.getElem_cons_succ, List.getElem_cons_zero, List.setIfInBounds_toArray, List.set_cons_zero, List.set_cons_succ]
  refine wpAnyH_ready (rs := [4]) (by kernel_rfl) (by simp) ?_
  refine AllReadyH.cons rfl (fun K hK => ?_) AllReadyH.nil
  refine step_append_copy (W0) rfl _ _ 80 rfl 79 i0 _ 21 168 Try.underlying80 hi0 hz0 hz1 hz2 rfl (.slice none 0 0) (by rfl) (Row.nil _ _ _) (.slice A1 n c1) n C1 (by rfl) (HS.out.chg hc0 (fun _ _ h => by cases h)) ho1 (by unfold maxLen; omega) (by omega) ?_
  intro vL w3 hrL hgL hfL
  obtain ⟨Al, cl, rfl, _⟩ := hrL.val
  have hcL : Chg [] (W0) w3 := (Chg.refl [] _).grown hgL (fun k hk => by cases hk)
  have hfl1 : ∀ j ∈ foot (.slice Al n cl), w.heap.size ≤ j := fun j hj => by
    rcases hfL j hj with h9 | h9
    · cases h9
    · rw [h9]; exact (hc0).size
  refine hK _ _ (hHeld.chg hcL (by simp)) (fun hHeld => ?_)
  clear hK K
  simp only [Act.put, List.getElem_toArray, List.getElem_cons_succ, List.getElem_cons_zero, List.setIfInBounds_toArray, List.set_cons_zero, List.set_cons_succ]
  refine wpAnyH_ready (rs := [9]) (by kernel_rfl) (by simp) ?_
  refine AllReadyH.cons rfl (fun K hK => ?_) AllReadyH.nil
  refine step_append_copy (w3) rfl _ _ 81 rfl 3 ni _ 1 8 Try.underlying81 hj0 hy0 hy1 hy2 rfl (.slice none 0 0) (by rfl) (Row.nil _ _ _) (.slice A2 m c2) m C2 (by rfl) ((HF.out.chg hc0 (fun _ _ h => by cases h)).chg hcL (fun _ _ h => by cases h)) ho2 (by unfold maxLen; omega) (by omega) ?_
  intro vF w4 hrF hgF hfF
  obtain ⟨Af, cf, rfl, _⟩ := hrF.val
  have hcF : Chg [] (w3) w4 := (Chg.refl [] _).grown hgF (fun k hk => by cases hk)
  have hfl2 : ∀ j ∈ foot (.slice Af m cf), w.heap.size ≤ j := fun j hj => by
    rcases hfF j hj with h9 | h9
    · cases h9
    · rw [h9]; exact ((hc0.then hcL)).size
  refine hK _ _ (hHeld.chg hcF (by simp)) (fun hHeld => ?_)
  clear hK K
  simp only [Act.put, List.getElem_toArray, List.getElem_cons_succ, List.getElem_cons_zero, List.setIfInBounds_toArray, List.set_cons_zero, List.set_cons_succ]
  refine wpAnyH_take (i := 10) (v := ?_) rfl (by kernel_rfl) (by kernel_rfl) (by kernel_rfl) (fun _ _ _ h => h) (Or.inl ⟨by rfl, ?_⟩) hHeld ?_
  rotate_left
  · (intro w' hSw; go_simp; try with_reducible rfl)
  simp only [Act.put, List.getElem_toArray, List.getElem_cons_succ, List.getElem_cons_zero, List.setIfInBounds_toArray, List.set_cons_zero, List.set_cons_succ]
  refine wpAnyH_ready (rs := [11]) (by kernel_rfl) (by simp) ?_
  refine AllReadyH.cons rfl (fun K hK => ?_) AllReadyH.nil
  go_simp
  refine hK _ _ (hHeld.alloc _) (fun hHeld => ?_)
  clear hK K
  simp only [Act.put, List.getElem_toArray, List.getElem_cons_succ, List.getElem_cons_zero, List.setIfInBounds_toArray, List.set_cons_zero, List.set_cons_succ]
  refine wpAnyH_take (i := 12) (v := ?_) rfl (by kernel_rfl) (by kernel_rfl) (by kernel_rfl) (fun _ _ _ h => h) (Or.inl ⟨by rfl, ?_⟩) hHeld ?_
  rotate_left
  · (intro w' hSw; go_simp; try with_reducible rfl)
  simp only [Act.put, List.getElem_toArray, List.getElem_cons_succ, List.getElem_cons_zero, List.setIfInBounds_toArray, List.set_cons_zero, List.set_cons_succ]
  refine wpAnyH_done (by kernel_rfl) ?_ _
  go_wp2
  go_ret
  obtain ⟨S9, h91, h92, h93⟩ := HFIN.out w4 _ _ (hrL.chg hcF (fun _ _ h => by cases h)) (hrF) hfl1 hfl2 ((hc0.then hcL).then hcF)
  exact ⟨_, S9, rfl, h91, h92, h93⟩
end Go.Proofs
end
section
namespace Go.Proofs
open Go.RowKit
set_option linter.unusedVariables false
set_option linter.unusedSimpArgs false

/-! ### Goroutines, tasks compared -/
def regEq (x y : Gr) : Bool := (List.range' 0 8).all fun i => x.r i == y.r i
theorem regEq_refl (x : Gr) : regEq x x = true := by unfold regEq; simp
theorem eqR (d : Nat) (x y : Gr) (w : World) : (Op.equalIn (d + 1 + 1) 35 (.agg #[.int .u64 (x.r 0), .int .u64 (x.r 1), .int .u64 (x.r 2), .int .u64 (x.r 3), .int .u64 (x.r 4), .int .u64 (x.r 5), .int .u64 (x.r 6), .int .u64 (x.r 7)]) (.agg #[.int .u64 (y.r 0), .int .u64 (y.r 1), .int .u64 (y.r 2), .int .u64 (y.r 3), .int .u64 (y.r 4), .int .u64 (y.r 5), .int .u64 (y.r 6), .int .u64 (y.r 7)])).run Try.prog w = .ok (regEq x y) w := by
  refine sk_eq_array (e := 31) (k := .u64) (k' := .u64) d Try.underlying35 Try.underlying31 Try.isAgg31 Try.sizeOf31 _ _ x.r y.r ?_ ?_ w
  · intro i hi
    have : i = 0 ∨ i = 1 ∨ i = 2 ∨ i = 3 ∨ i = 4 ∨ i = 5 ∨ i = 6 ∨ i = 7 := by omega
    rcases this with rfl | rfl | rfl | rfl | rfl | rfl | rfl | rfl <;> rfl
  · intro i hi
    have : i = 0 ∨ i = 1 ∨ i = 2 ∨ i = 3 ∨ i = 4 ∨ i = 5 ∨ i = 6 ∨ i = 7 := by omega
    rcases this with rfl | rfl | rfl | rfl | rfl | rfl | rfl | rfl <;> rfl
def geq (x y : Gr) : Bool := if x.st = y.st then (if x.su = y.su then (if x.d0 = y.d0 then (if x.d1 = y.d1 then (if x.c0 = y.c0 then (if x.c1 = y.c1 then (if ((x.af.toNat : Int) = y.af.toNat) then (if x.pg = y.pg then (if x.pc = y.pc then (if regEq x y = true then (if x.cd = y.cd then (if x.un = y.un then (true) else false) else false) else false) else false) else false) else false) else false) else false) else false) else false) else false) else false
theorem geq_refl (x : Gr) : geq x x = true := by unfold geq; simp [regEq_refl]
def teq (p q : Plc) : Bool := if p.i = q.i then (if p.q = q.q then geq p.x q.x else false) else false
theorem teq_refl (p : Plc) : teq p p = true := by unfold teq; simp [geq_refl]
set_option maxRecDepth 100000 in
theorem eqG (x y : Gr) (w : World) : (binOp BinOp.eql 37 x.val y.val).run Try.prog w = .ok (.bool (geq x y)) w := by
  simp [go_sem, Gr.val, Gr.arr, Try.underlying37, Try.underlying33, eqR]
  unfold geq
  by_cases h0 : x.st = y.st
  rotate_left
  · simp [h0]
  simp only [h0, if_true]
  by_cases h1 : x.su = y.su
  rotate_left
  · simp [h1]
  simp only [h1, if_true]
  by_cases h2 : x.d0 = y.d0
  rotate_left
  · simp [h2]
  simp only [h2, if_true]
  by_cases h3 : x.d1 = y.d1
  rotate_left
  · simp [h3]
  simp only [h3, if_true]
  by_cases h4 : x.c0 = y.c0
  rotate_left
  · simp [h4]
  simp only [h4, if_true]
  by_cases h5 : x.c1 = y.c1
  rotate_left
  · simp [h5]
  simp only [h5, if_true]
  by_cases h6 : ((x.af.toNat : Int) = y.af.toNat)
  rotate_left
  · simp [h6]
  simp only [h6, if_true]
  by_cases h7 : x.pg = y.pg
  rotate_left
  · simp [h7]
  simp only [h7, if_true]
  by_cases h8 : x.pc = y.pc
  rotate_left
  · simp [h8]
  simp only [h8, if_true]
  by_cases h9 : regEq x y = true
  rotate_left
  · simp [h9]
  simp only [h9, if_true]
  by_cases h10 : x.cd = y.cd
  rotate_left
  · simp [h10]
  simp only [h10, if_true]
  by_cases h11 : x.un = y.un
  rotate_left
  · simp [h11]
  simp only [h11, if_true]
  simp
set_option maxRecDepth 100000 in
theorem neqG (x y : Gr) (w : World) : (binOp BinOp.neq 37 x.val y.val).run Try.prog w = .ok (.bool (!geq x y)) w := by
  simp [go_sem, Gr.val, Gr.arr, Try.underlying37, Try.underlying33, eqR]
  unfold geq
  by_cases h0 : x.st = y.st
  rotate_left
  · simp [h0]
  simp only [h0, if_true]
  by_cases h1 : x.su = y.su
  rotate_left
  · simp [h1]
  simp only [h1, if_true]
  by_cases h2 : x.d0 = y.d0
  rotate_left
  · simp [h2]
  simp only [h2, if_true]
  by_cases h3 : x.d1 = y.d1
  rotate_left
  · simp [h3]
  simp only [h3, if_true]
  by_cases h4 : x.c0 = y.c0
  rotate_left
  · simp [h4]
  simp only [h4, if_true]
  by_cases h5 : x.c1 = y.c1
  rotate_left
  · simp [h5]
  simp only [h5, if_true]
  by_cases h6 : ((x.af.toNat : Int) = y.af.toNat)
  rotate_left
  · simp [h6]
  simp only [h6, if_true]
  by_cases h7 : x.pg = y.pg
  rotate_left
  · simp [h7]
  simp only [h7, if_true]
  by_cases h8 : x.pc = y.pc
  rotate_left
  · simp [h8]
  simp only [h8, if_true]
  by_cases h9 : regEq x y = true
  rotate_left
  · simp [h9]
  simp only [h9, if_true]
  by_cases h10 : x.cd = y.cd
  rotate_left
  · simp [h10]
  simp only [h10, if_true]
  by_cases h11 : x.un = y.un
  rotate_left
  · simp [h11]
  simp only [h11, if_true]
  simp
set_option maxRecDepth 100000 in
theorem neqT (p q : Plc) (w : World) : (binOp BinOp.neq 49 (.agg p.arr) (.agg q.arr)).run Try.prog w = .ok (.bool (!teq p q)) w := by
  simp [go_sem, Plc.arr, Gr.arr, Try.underlying49, Try.underlying37, Try.underlying33, eqR]
  unfold teq geq
  by_cases h0 : p.i = q.i
  rotate_left
  · simp [h0]
  simp only [h0, if_true]
  by_cases h1 : p.q = q.q
  rotate_left
  · simp [h1]
  simp only [h1, if_true]
  by_cases h2 : p.x.st = q.x.st
  rotate_left
  · simp [h2]
  simp only [h2, if_true]
  by_cases h3 : p.x.su = q.x.su
  rotate_left
  · simp [h3]
  simp only [h3, if_true]
  by_cases h4 : p.x.d0 = q.x.d0
  rotate_left
  · simp [h4]
  simp only [h4, if_true]
  by_cases h5 : p.x.d1 = q.x.d1
  rotate_left
  · simp [h5]
  simp only [h5, if_true]
  by_cases h6 : p.x.c0 = q.x.c0
  rotate_left
  · simp [h6]
  simp only [h6, if_true]
  by_cases h7 : p.x.c1 = q.x.c1
  rotate_left
  · simp [h7]
  simp only [h7, if_true]
  by_cases h8 : ((p.x.af.toNat : Int) = q.x.af.toNat)
  rotate_left
  · simp [h8]
  simp only [h8, if_true]
  by_cases h9 : p.x.pg = q.x.pg
  rotate_left
  · simp [h9]
  simp only [h9, if_true]
  by_cases h10 : p.x.pc = q.x.pc
  rotate_left
  · simp [h10]
  simp only [h10, if_true]
  by_cases h11 : regEq p.x q.x = true
  rotate_left
  · simp [h11]
  simp only [h11, if_true]
  by_cases h12 : p.x.cd = q.x.cd
  rotate_left
  · simp [h12]
  simp only [h12, if_true]
  by_cases h13 : p.x.un = q.x.un
  rotate_left
  · simp [h13]
  simp only [h13, if_true]
  simp
end Go.Proofs
end
section
namespace Go.Proofs
open Go.RowKit
set_option linter.unusedVariables false
set_option linter.unusedSimpArgs false

/-! ### Lists of tasks compared -/
def eqL : List Plc → List Plc → Bool
  | [], [] => true
  | p :: xs, q :: ys => teq p q && eqL xs ys
  | _, _ => false
theorem eqL_refl (xs : List Plc) : eqL xs xs = true := by
  induction xs with
  | nil => rfl
  | cons p xs ih => simp [eqL, teq_refl, ih]
theorem eqL_len : ∀ (xs ys : List Plc), xs.length ≠ ys.length → eqL xs ys = false
  | [], [], h => absurd rfl h
  | [], _ :: _, _ => rfl
  | _ :: _, [], _ => rfl
  | p :: xs, q :: ys, h => by
    have := eqL_len xs ys (fun e => h (by simp [e]))
    simp [eqL, this]
theorem eqL_step {xs ys : List Plc} {k : Nat} {p q : Plc} (hp : xs[k]? = some p) (hq : ys[k]? = some q) : eqL (xs.drop k) (ys.drop k) = (teq p q && eqL (xs.drop (k + 1)) (ys.drop (k + 1))) := by
  have h1 := (List.getElem?_eq_some_iff.1 hp).1
  have h2 := (List.getElem?_eq_some_iff.1 hq).1
  rw [← List.getElem_cons_drop h1, ← List.getElem_cons_drop h2, (List.getElem?_eq_some_iff.1 hp).2, (List.getElem?_eq_some_iff.1 hq).2]
  rfl
set_option maxRecDepth 100000 in
set_option maxHeartbeats 1600000 in
theorem equalL_any {w : World} {V1 V2 : Value} {xs ys : List Plc} (h1 : Row w 49 21 V1 xs.length (plcCells xs)) (h2 : Row w 49 21 V2 ys.length (plcCells ys)) (hl : xs.length ≤ 5000) (hl2 : ys.length ≤ 5000) :
    Calls Try.prog 49 #[V1, V2] w fun e w' => e = .returned (.bool (eqL xs ys)) ∧ ∃ n, w' = w.drewN n := by
  obtain ⟨A1, c1, rfl, _⟩ := h1.val
  obtain ⟨A2, c2, rfl, _⟩ := h2.val
  by_cases hne : xs.length = ys.length
  · obtain ⟨m, hm⟩ : ∃ m, m = xs.length := ⟨_, rfl⟩
    have hm2 : m = ys.length := by omega
    have HM := Lib.hid hm
    have HM2 := Lib.hid hm2
    rw [← hm] at h1 hl ⊢
    rw [← hm2] at h2 hl2 ⊢
    have H1 := Lib.hid h1
    have H2 := Lib.hid h2
    obtain ⟨R, hR⟩ : ∃ R, R = eqL xs ys := ⟨_, rfl⟩
    rw [← hR]
    have HR := Lib.hid hR
    clear h1 h2 hne hm hm2 hl2 hR
    go_enter Try.func49, Try.ntmps49
    go_wp2
    go_loopw [13] (fun iv wr => ∃ k : Nat, k ≤ m ∧ iv = .int .i64 k ∧ (∃ n, wr = w.drewN n) ∧ R = eqL (xs.drop k) (ys.drop k)) (fun iv wr => m - (intOfN iv).toNat)
    case atStart => exact ⟨0, by omega, rfl, ⟨0, rfl⟩, by rw [HR.out]; simp⟩
    case round =>
      obtain ⟨k, hk, rfl, ⟨n0, rfl⟩, hRk⟩ := hrel
      by_cases hlt : k < m
      · obtain ⟨p, hp⟩ : ∃ p, xs[k]? = some p := ⟨_, List.getElem?_eq_getElem (by rw [← HM.out]; exact hlt)⟩
        obtain ⟨q, hq⟩ : ∃ q, ys[k]? = some q := ⟨_, List.getElem?_eq_getElem (by rw [← HM2.out]; exact hlt)⟩
        obtain ⟨g1, cc1, hv1, _, _, hc1, _, _⟩ := H1.out.form (by omega)
        obtain ⟨g2, cc2, hv2, _, _, hc2, _, _⟩ := H2.out.form (by omega)
        simp only [Value.slice.injEq] at hv1 hv2
        obtain ⟨rfl, h91, h92⟩ := hv1
        obtain ⟨rfl, h93, h94⟩ := hv2
        have d1 : ∀ j v, p.arr[j]? = some v → ((w.drewN n0).drew).cell? ⟨g1, k * 21 + j, none⟩ = some v := fun j v hv => hc1 _ _ (plcCells_at hp j v hv)
        have d2 : ∀ j v, q.arr[j]? = some v → ((w.drewN n0).drew).cell? ⟨g2, k * 21 + j, none⟩ = some v := fun j v hv => hc2 _ _ (plcCells_at hq j v hv)
        have hst := eqL_step hp hq
        have hP := p.size
        have hQ := q.size
        have hcmp := neqT p q
        generalize p.arr = PA at *
        generalize q.arr = QA at *
        have k0 : (0 : Int) ≤ (k : Int) := by omega
        have k1 : (k : Int) < (m : Int) := by omega
        rw [hst] at hRk
        clear hst hp hq hc1 hc2 h91 h92 h93 h94
        cases hb : teq p q with
        | true =>
          rw [hb] at hcmp hRk
          simp only [Bool.not_true, Bool.true_and] at hcmp hRk
          have HRk := Lib.hid hRk
          clear hRk hb
          go_wp2_with (fail)
          refine wp_region_still_lit (by kernel_rfl) (by kernel_rfl) ?_
          (try change wpStill _ _ (World.drew _) _ _ _)
          still_step
          still_step
          still_step
          refine wpStill_load T49 hP d1 rfl ⟨_, rfl, rfl⟩ ?_
          still_step
          still_step
          still_step
          refine wpStill_load T49 hQ d2 rfl ⟨_, rfl, rfl⟩ ?_
          still_step
          refine wpStill_nil ?_
          go_wp2
          go_roundw
          case rel => exact ⟨k + 1, by omega, by go_num, ⟨n0 + 1, rfl⟩, HRk.out⟩
          case measure => simp [intOfN]; omega
        | false =>
          rw [hb] at hcmp hRk
          simp only [Bool.not_false, Bool.false_and] at hcmp hRk
          subst hRk
          clear hb
          go_wp2_with (fail)
          refine wp_region_still_lit (by kernel_rfl) (by kernel_rfl) ?_
          (try change wpStill _ _ (World.drew _) _ _ _)
          still_step
          still_step
          still_step
          refine wpStill_load T49 hP d1 rfl ⟨_, rfl, rfl⟩ ?_
          still_step
          still_step
          still_step
          refine wpStill_load T49 hQ d2 rfl ⟨_, rfl, rfl⟩ ?_
          still_step
          refine wpStill_nil ?_
          go_wp2
          go_ret
          exact ⟨rfl, n0 + 1, rfl⟩
      · obtain rfl : k = m := by omega
        have hR1 : R = true := by rw [hRk, HM.out, List.drop_length, ← HM.out, HM2.out, List.drop_length]; rfl
        subst hR1
        clear hRk
        go_wp2
        go_ret
        exact ⟨rfl, n0, rfl⟩
  · rw [eqL_len xs ys hne]
    have hne' : ((xs.length : Int) == (ys.length : Int)) = false := by simp; omega
    have hne2 : ((xs.length : Int) != (ys.length : Int)) = true := by simp; omega
    generalize xs.length = n1 at *
    generalize ys.length = n2 at *
    clear h1 h2
    go_enter Try.func49, Try.ntmps49
    go_wp2
    go_ret
    exact ⟨rfl, 0, rfl⟩
set_option maxRecDepth 100000 in
set_option maxHeartbeats 1600000 in
theorem sameL_any {w : World} {V1 V2 : Value} {xs ys : List Plc} (h1 : Row w 49 21 V1 xs.length (plcCells xs)) (h2 : Row w 49 21 V2 ys.length (plcCells ys)) (hl : xs.length ≤ 5000) (hl2 : ys.length ≤ 5000) :
    Calls Try.prog 23 #[V1, V2] w fun e w' => e = .returned (.bool (eqL xs ys)) ∧ ∃ n, w' = w.drewN n := by
  obtain ⟨A1, c1, rfl, _⟩ := h1.val
  obtain ⟨A2, c2, rfl, _⟩ := h2.val
  by_cases hne : xs.length = ys.length
  · obtain ⟨m, hm⟩ : ∃ m, m = xs.length := ⟨_, rfl⟩
    have hm2 : m = ys.length := by omega
    have HM := Lib.hid hm
    have HM2 := Lib.hid hm2
    rw [← hm] at h1 hl ⊢
    rw [← hm2] at h2 hl2 ⊢
    have H1 := Lib.hid h1
    have H2 := Lib.hid h2
    obtain ⟨R, hR⟩ : ∃ R, R = eqL xs ys := ⟨_, rfl⟩
    rw [← hR]
    have HR := Lib.hid hR
    clear h1 h2 hne hm hm2 hl2 hR
    go_enter Try.func23, Try.ntmps23
    go_wp2
    go_loopw [5] (fun iv wr => ∃ k : Nat, k ≤ m ∧ iv = .int .i64 k ∧ (∃ n, wr = w.drewN n) ∧ R = eqL (xs.drop k) (ys.drop k)) (fun iv wr => m - (intOfN iv).toNat)
    case atStart => exact ⟨0, by omega, rfl, ⟨0, rfl⟩, by rw [HR.out]; simp⟩
    case round =>
      obtain ⟨k, hk, rfl, ⟨n0, rfl⟩, hRk⟩ := hrel
      by_cases hlt : k < m
      · obtain ⟨p, hp⟩ : ∃ p, xs[k]? = some p := ⟨_, List.getElem?_eq_getElem (by rw [← HM.out]; exact hlt)⟩
        obtain ⟨q, hq⟩ : ∃ q, ys[k]? = some q := ⟨_, List.getElem?_eq_getElem (by rw [← HM2.out]; exact hlt)⟩
        obtain ⟨g1, cc1, hv1, _, _, hc1, _, _⟩ := H1.out.form (by omega)
        obtain ⟨g2, cc2, hv2, _, _, hc2, _, _⟩ := H2.out.form (by omega)
        simp only [Value.slice.injEq] at hv1 hv2
        obtain ⟨rfl, h91, h92⟩ := hv1
        obtain ⟨rfl, h93, h94⟩ := hv2
        have d1 : ∀ j v, p.arr[j]? = some v → ((w.drewN n0).drew).cell? ⟨g1, k * 21 + j, none⟩ = some v := fun j v hv => hc1 _ _ (plcCells_at hp j v hv)
        have d2 : ∀ j v, q.arr[j]? = some v → ((w.drewN n0).drew).cell? ⟨g2, k * 21 + j, none⟩ = some v := fun j v hv => hc2 _ _ (plcCells_at hq j v hv)
        have hst := eqL_step hp hq
        have hP := p.size
        have hQ := q.size
        have hcmp := neqT p q
        generalize p.arr = PA at *
        generalize q.arr = QA at *
        have k0 : (0 : Int) ≤ (k : Int) := by omega
        have k1 : (k : Int) < (m : Int) := by omega
        rw [hst] at hRk
        clear hst hp hq hc1 hc2 h91 h92 h93 h94
        cases hb : teq p q with
        | true =>
          rw [hb] at hcmp hRk
          simp only [Bool.not_true, Bool.true_and] at hcmp hRk
          have HRk := Lib.hid hRk
          clear hRk hb
          go_wp2_with (fail)
          refine wp_region_still_lit (by kernel_rfl) (by kernel_rfl) ?_
          (try change wpStill _ _ (World.drew _) _ _ _)
          still_step
          still_step
          still_step
          refine wpStill_load T49 hP d1 rfl ⟨_, rfl, rfl⟩ ?_
          still_step
          still_step
          still_step
          refine wpStill_load T49 hQ d2 rfl ⟨_, rfl, rfl⟩ ?_
          still_step
          refine wpStill_nil ?_
          go_wp2
          go_roundw
          case rel => exact ⟨k + 1, by omega, by go_num, ⟨n0 + 1, rfl⟩, HRk.out⟩
          case measure => simp [intOfN]; omega
        | false =>
          rw [hb] at hcmp hRk
          simp only [Bool.not_false, Bool.false_and] at hcmp hRk
          subst hRk
          clear hb
          go_wp2_with (fail)
          refine wp_region_still_lit (by kernel_rfl) (by kernel_rfl) ?_
          (try change wpStill _ _ (World.drew _) _ _ _)
          still_step
          still_step
          still_step
          refine wpStill_load T49 hP d1 rfl ⟨_, rfl, rfl⟩ ?_
          still_step
          still_step
          still_step
          refine wpStill_load T49 hQ d2 rfl ⟨_, rfl, rfl⟩ ?_
          still_step
          refine wpStill_nil ?_
          go_wp2
          go_ret
          exact ⟨rfl, n0 + 1, rfl⟩
      · obtain rfl : k = m := by omega
        have hR1 : R = true := by rw [hRk, HM.out, List.drop_length, ← HM.out, HM2.out, List.drop_length]; rfl
        subst hR1
        clear hRk
        go_wp2
        go_ret
        exact ⟨rfl, n0, rfl⟩
  · rw [eqL_len xs ys hne]
    have hne' : ((xs.length : Int) == (ys.length : Int)) = false := by simp; omega
    have hne2 : ((xs.length : Int) != (ys.length : Int)) = true := by simp; omega
    generalize xs.length = n1 at *
    generalize ys.length = n2 at *
    clear h1 h2
    go_enter Try.func23, Try.ntmps23
    go_wp2
    go_ret
    exact ⟨rfl, 0, rfl⟩
end Go.Proofs
end
section
namespace Go.Proofs
open Go.RowKit
set_option linter.unusedVariables false
set_option linter.unusedSimpArgs false

/-! ### A game: a table, the document's, and the refs that came -/
def prCells (l : List (Int × Int)) : List Value := l.flatMap fun x => [.int .i64 x.1, .int .u64 x.2]
theorem prCells_len (l : List (Int × Int)) : (prCells l).length = l.length * 2 := flat_len (enc := fun x : Int × Int => [Value.int .i64 x.1, .int .u64 x.2]) (s := 2) (fun p => rfl) l
theorem prCells_snoc (l : List (Int × Int)) (a b : Int) : prCells (l ++ [(a, b)]) = prCells l ++ [.int .i64 a, .int .u64 b] := by unfold prCells; simp
theorem prCells_at {l : List (Int × Int)} {k : Nat} {x : Int × Int} (h : l[k]? = some x) : (prCells l)[k * 2]? = some (.int .i64 x.1) ∧ (prCells l)[k * 2 + 1]? = some (.int .u64 x.2) :=
  ⟨flat_at (enc := fun x : Int × Int => [Value.int .i64 x.1, .int .u64 x.2]) (s := 2) (j := 0) (fun p => rfl) h rfl, flat_at (enc := fun x : Int × Int => [Value.int .i64 x.1, .int .u64 x.2]) (s := 2) (j := 1) (fun p => rfl) h rfl⟩
theorem prCells_ones (l : List (Int × Int)) : ∀ u ∈ prCells l, u.oneCell' = true := by
  intro u hu
  unfold prCells at hu
  rw [List.mem_flatMap] at hu
  obtain ⟨x, _, hx⟩ := hu
  simp at hx
  rcases hx with rfl | rfl <;> rfl
structure GameIn (w : World) (gb c p : Nat) (S T : List Nat) (VR : Value) (t : Tab Gr) (rs : List (Int × Int)) : Prop where
  b : Blk w gb 45 #[ptr c, ptr p, VR]
  g : GAt w c S t
  d : DAt w p T (docT t)
  r : Row w 33 2 VR rs.length (prCells rs)
  ap : ∀ k ∈ S, k ∉ T
def gK (gb c : Nat) (S T : List Nat) (VR : Value) : List Nat := gb :: c :: (S ++ T ++ foot VR)
/-- A game lies in w at gb, in these blocks. -/
def GameAt (w : World) (gb : Nat) (K : List Nat) (t : Tab Gr) (rs : List (Int × Int)) : Prop := ∃ c p S T VR, GameIn w gb c p S T VR t rs ∧ K = gK gb c S T VR
section
variable {w w' : World} {gb c p : Nat} {S T K : List Nat} {VR : Value} {t : Tab Gr} {rs : List (Int × Int)}
theorem GameIn.lt (h : GameIn w gb c p S T VR t rs) : ∀ k ∈ gK gb c S T VR, k < w.heap.size := by
  intro k hk
  simp only [gK, List.mem_cons, List.mem_append] at hk
  rcases hk with rfl | rfl | (hk | hk) | hk
  · exact h.b.lt
  · exact h.g.lt.1
  · exact h.g.lt.2 k hk
  · exact h.d.lt k hk
  · exact h.r.lt k hk
theorem GameIn.same (h : GameIn w gb c p S T VR t rs) (hk : ∀ k ∈ gK gb c S T VR, w'.heap[k]? = w.heap[k]?) : GameIn w' gb c p S T VR t rs :=
  ⟨h.b.same (hk gb (by simp [gK])), h.g.same (hk c (by simp [gK])) (fun k h => hk k (by simp [gK, h])), h.d.same (fun k h => hk k (by simp [gK, h])), h.r.same (fun k h => hk k (by simp [gK, h])), h.ap⟩
theorem GameIn.chg {S' : List Nat} (h : GameIn w gb c p S T VR t rs) (hc : Chg S' w w') (hn : ∀ k ∈ gK gb c S T VR, k ∉ S') : GameIn w' gb c p S T VR t rs :=
  h.same fun k hk => hc.block k (h.lt k hk) (hn k hk)
theorem GameIn.quiet (h : GameIn w gb c p S T VR t rs) (hc : Chg [] w w') : GameIn w' gb c p S T VR t rs := h.chg hc (fun _ _ hk => by cases hk)
theorem GameIn.gS (h : GameIn w gb c p S T VR t rs) : gb ∉ S ∧ gb ≠ c ∧ gb ∉ T ∧ gb ∉ foot VR := by
  obtain ⟨h1, h2⟩ := h.g.ty h.b (by decide) (by decide) (by decide) (by decide)
  exact ⟨h2, h1, h.d.ty h.b (by decide) (by decide) (by decide), h.r.ty h.b (by decide)⟩
theorem row_off {w : World} {e : TypeId} {z n : Nat} {v : Value} {xs : List Value} (h : Row w e z v n xs) {k : Nat} (hk : k ∈ foot v) : ∃ cs, Blk w k e cs := by
  rcases h.2 with ⟨rfl, _⟩ | ⟨g, cap, cur, rfl, hg, _⟩
  · cases hk
  · simp [foot_some] at hk; subst hk; exact ⟨cur, hg⟩
theorem GameIn.rS (h : GameIn w gb c p S T VR t rs) : ∀ k ∈ foot VR, k ∉ S ∧ k ∉ T ∧ k ≠ c ∧ k ≠ gb := fun k hk => by
  obtain ⟨cs, hb⟩ := row_off h.r hk
  obtain ⟨h1, h2⟩ := h.g.ty hb (by decide) (by decide) (by decide) (by decide)
  exact ⟨h2, h.d.ty hb (by decide) (by decide) (by decide), h1, fun e => (Blk.ty hb h.b (by decide)) e⟩
theorem GameIn.cT (h : GameIn w gb c p S T VR t rs) : c ∉ T ∧ c ∉ S := by
  obtain ⟨g, hB, hT, _⟩ := h.g
  exact ⟨h.d.ty hB (by decide) (by decide) (by decide), hT.ty hB (by decide) (by decide) (by decide)⟩
end
/-- What an act leaves of the game. -/
def GmTurns (gb : Nat) (K : List Nat) (t' : Tab Gr) (rs' : List (Int × Int)) (w w' : World) : Prop := ∃ K', GameAt w' gb K' t' rs' ∧ (∀ k ∈ K', k ∈ K ∨ w.heap.size ≤ k) ∧ Chg K w w'
section
variable {w w1 w2 w' : World} {gb c p : Nat} {S T K : List Nat} {VR : Value} {t t' : Tab Gr} {rs : List (Int × Int)}
theorem GmTurns.refl (h : GameIn w gb c p S T VR t rs) (hc : Chg [] w w') : GmTurns gb (gK gb c S T VR) t rs w w' :=
  ⟨_, ⟨c, p, S, T, VR, h.quiet hc, rfl⟩, fun k hk => .inl hk, hc.any⟩
theorem GmTurns.later {rs' : List (Int × Int)} (h : GmTurns gb K t' rs' w w1) (hc : Chg [] w1 w2) : GmTurns gb K t' rs' w w2 := by
  obtain ⟨K', ⟨c, p, S, T, VR, hg, rfl⟩, h2, h3⟩ := h
  exact ⟨_, ⟨c, p, S, T, VR, hg.quiet hc, rfl⟩, h2, h3.then hc⟩
/-- The code's act, then the document's. -/
theorem GmTurns.both (h : GameIn w gb c p S T VR t rs) (hc0 : Chg [] w w1) (h1 : GTurns c S t' w1 w2) (h2 : DTurns p T (docT t') w2 w') : GmTurns gb (gK gb c S T VR) t' rs w w' := by
  obtain ⟨S', a1, a2, a3⟩ := h1
  obtain ⟨T', b1, b2, b3⟩ := h2
  have hT : ∀ k ∈ T, k < w.heap.size := h.d.lt
  have hz0 := hc0.size
  have hz1 := a3.size
  have hca : Chg S w w2 := (Chg.any hc0).trans a3 (fun k hk => .inl hk)
  have hcw : Chg (S ++ T) w w' := (hca.mono (fun k hk => .inl (by simp [hk]))).trans b3 (fun k hk => .inl (by simp [hk]))
  have hST : ∀ k ∈ S', k ∉ T := fun k hk hkT => by
    rcases a2 k hk with h9 | h9
    · exact h.ap k h9 hkT
    · have := hT k hkT; omega
  have hS' := a1.lt
  have hgS := h.gS
  have hrS := h.rS
  have hcT := h.cT
  refine ⟨_, ⟨c, p, S', T', VR, ⟨h.b.chg hcw (by simp [hgS.1, hgS.2.2.1]), a1.chg b3 hcT.1 hST, b1, h.r.chg hcw (fun k hk => by simp [(hrS k hk).1, (hrS k hk).2.1]), fun k hk hkT => ?_⟩, rfl⟩, fun k hk => ?_, ?_⟩
  · rcases b2 k hkT with h9 | h9
    · exact hST k hk h9
    · have := hS'.2 k hk; omega
  · simp only [gK, List.mem_cons, List.mem_append] at hk ⊢
    rcases hk with rfl | rfl | (hk | hk) | hk
    · exact .inl (by simp)
    · exact .inl (by simp)
    · rcases a2 k hk with h9 | h9
      · exact .inl (by simp [h9])
      · exact .inr (by omega)
    · rcases b2 k hk with h9 | h9
      · exact .inl (by simp [h9])
      · exact .inr (by omega)
    · exact .inl (by simp [hk])
  · exact hcw.mono (fun k hk => .inl (by simp only [gK, List.mem_cons, List.mem_append]; simp only [List.mem_append] at hk; exact .inr (.inr (.inl hk))))
end
/-! ### An act -/
structure Ac where
  k : Int
  ri : Int
  rq : Int
  at_ : Int
  g : Gr
  to : Int
def Ac.arr (x : Ac) : Array Value := #[.int .i64 x.k, .int .i64 x.ri, .int .u64 x.rq, .int .i64 x.at_] ++ x.g.arr ++ #[.int .i64 x.to]
abbrev Ac.val (x : Ac) : Value := .agg x.arr
structure Ac.Fits (x : Ac) : Prop where
  ri : inI x.ri
  a : inI x.at_
  to : inI x.to
  un : 0 ≤ x.g.un
theorem Ac.size (x : Ac) : x.arr.size = 24 := by unfold Ac.arr; simp [Gr.size]
theorem Ac.a0 (x : Ac) : x.arr[0]? = some (.int .i64 x.k) := by unfold Ac.arr; rw [Array.getElem?_append_left (by simp [Gr.size]), Array.getElem?_append_left (by simp)]; rfl
theorem Ac.a1 (x : Ac) : x.arr[1]? = some (.int .i64 x.ri) := by unfold Ac.arr; rw [Array.getElem?_append_left (by simp [Gr.size]), Array.getElem?_append_left (by simp)]; rfl
theorem Ac.a2 (x : Ac) : x.arr[2]? = some (.int .u64 x.rq) := by unfold Ac.arr; rw [Array.getElem?_append_left (by simp [Gr.size]), Array.getElem?_append_left (by simp)]; rfl
theorem Ac.a3 (x : Ac) : x.arr[3]? = some (.int .i64 x.at_) := by unfold Ac.arr; rw [Array.getElem?_append_left (by simp [Gr.size]), Array.getElem?_append_left (by simp)]; rfl
theorem Ac.a23 (x : Ac) : x.arr[23]? = some (.int .i64 x.to) := by unfold Ac.arr; rw [Array.getElem?_append_right (by simp [Gr.size])]; simp [Gr.size]
theorem Ac.ag (x : Ac) (j : Nat) (v : Value) (h : x.g.arr[j]? = some v) : x.arr[4 + j]? = some v := by
  have hj := (Array.getElem?_eq_some_iff.1 h).1
  unfold Ac.arr
  rw [Array.getElem?_append_left (by simp [Gr.size] at hj ⊢; omega), Array.getElem?_append_right (by simp)]
  simpa using h
/-- What do answers, and leaves. -/
def DoPost (gb : Nat) (K : List Nat) (t : Tab Gr) (rs : List (Int × Int)) (N M : Nat) (w : World) (e : Ending) (w' : World) : Prop :=
  e = .returned (.bool true) ∧ ∃ t' rs', Inv t' N (M + 1) ∧ rs'.length ≤ rs.length + 1 ∧ (∀ x ∈ rs', inI x.1) ∧ GmTurns gb K t' rs' w w'
theorem tmod_in {a n : Int} (ha : 0 ≤ a) (hn : 0 < n) : 0 ≤ a.tmod n ∧ a.tmod n < n := ⟨Int.tmod_nonneg n ha, Int.tmod_lt_of_pos a hn⟩
end Go.Proofs
end
section
namespace Go.Proofs
open Go.RowKit
set_option linter.unusedVariables false
set_option linter.unusedSimpArgs false

/-- The document's Make, said of the code's table. -/
theorem rMake_any {w : World} {p N M : Nat} {S : List Nat} {t : Tab Gr} (h : DAt w p S (docT t)) (hI : Inv t N M) (x : Gr) (h0 : 0 ≤ x.un) :
    Calls Try.prog 32 #[ptr p, x.val] w fun e w' => e = .returned (.tuple #[.agg #[.int .i64 (t.mkI x), .int .u64 (t.mkQ x)], .int .i64 (t.mkE x)]) ∧ DTurns p S (docT (t.mkT x)) w w' := by
  unfold Tab.mkI Tab.mkQ Tab.mkE Tab.mkT
  cases hm : mayP x with
  | false =>
    simp only [if_pos]
    exact (rMake_no h x h0 hm).mono fun e w' hh => ⟨hh.1, DTurns.refl h hh.2⟩
  | true =>
    simp only [Bool.true_eq_false, if_false]
    by_cases hf : t.frees = 0
    · have hF : (docT t).F = [] := by rw [← List.length_eq_zero_iff]; have := docF_frees hI; omega
      have e1 : t.putI = 0 := by unfold Tab.putI; simp [hf]
      have e2 : t.putQ = 0 := by unfold Tab.putQ; simp [hf]
      have e3 : t.putE = 3 := by unfold Tab.putE; simp [hf]
      have e4 : t.putT x = t := by unfold Tab.putT; simp [hf]
      rw [e1, e2, e3, e4]
      exact (rMake_full h x h0 hm hF).mono fun e w' hh => ⟨hh.1, DTurns.refl h hh.2⟩
    · obtain ⟨l, s, hl, hs, hg, hll, hd⟩ := doc_mk hI hf x
      have e1 : t.putI = (t.takeAt : Nat) := by unfold Tab.putI; simp [hf]
      have e2 : t.putQ = t.genAt t.takeAt := by unfold Tab.putQ; simp [hf]
      have e3 : t.putE = 0 := by unfold Tab.putE; simp [hf]
      have e4 : t.putT x = t.put Gr.zero x := by unfold Tab.putT; simp [hf]
      rw [e1, e2, e3, e4, hd, ← hg]
      exact rMake_ok h x h0 hm hl hs hll
end Go.Proofs
end
section
namespace Go.Proofs
open Go.RowKit
set_option linter.unusedVariables false
set_option linter.unusedSimpArgs false

/-! ### begin -/
set_option maxRecDepth 100000 in
set_option maxHeartbeats 1600000 in
theorem begin_no (size : Int) (h : size < 1 ∨ 64 < size) (w : World) : Calls Try.prog 10 #[.int .i64 size] w fun e w' => e = .returned (.pointer none) ∧ w' = w := by
  have HN := Lib.hid (gnew_no size h w)
  clear h
  go_enter Try.func10, Try.ntmps10
  go_wp2_with (go_at_call 8; (refine HN.out.mono ?_); rintro e w1 ⟨rfl, rfl⟩)
  go_ret
  exact ⟨rfl, rfl⟩
set_option maxRecDepth 100000 in
set_option maxHeartbeats 1600000 in
theorem begin_ok (N : Nat) (h1 : 1 ≤ N) (h2 : N ≤ 64) (w : World) : Calls Try.prog 10 #[.int .i64 (N : Nat)] w fun e w' => ∃ gb K, e = .returned (ptr gb) ∧ GameAt w' gb K ⟨(N : Nat), 1, [], [], 0⟩ [] ∧ (∀ k ∈ K, w.heap.size ≤ k) ∧ Chg [] w w' := by
  have HN := Lib.hid (gnew_ok (N : Nat) (by omega) (by omega) w)
  have HR := Lib.hid (fun W => rNew_any N h2 W)
  have HD := Lib.hid (doc_new N)
  clear h1 h2
  go_enter Try.func10, Try.ntmps10
  go_wp2_with (first
    | (go_at_call 8; (refine HN.out.mono ?_); rintro e w1 ⟨c, S, rfl, hG, hcl, hSl, hc1⟩)
    | (go_at_call 31; (refine (HR.out _).mono ?_); rintro e w2 ⟨T, rfl, hD, hTl, hc2⟩))
  go_ret
  have hG2 := hG.quiet hc2
  have hGl := hG.lt
  have hz1 := hc1.size
  have hz2 := hc2.size
  have hDl := hD.lt
  refine ⟨w2.heap.size, _, rfl, ⟨c, w1.heap.size, S, T, .slice none 0 0, ⟨Blk.new w2 45 _, hG2.quiet ((Chg.refl [] w2).alloc _), ?_, ?_, ?_⟩, rfl⟩, ?_, (hc1.then hc2).alloc _⟩
  · rw [HD.out]; exact hD.quiet ((Chg.refl [] w2).alloc _)
  · exact ⟨by unfold prCells; simp, .inl ⟨rfl, rfl⟩⟩
  · intro k hk hkT
    have := hGl.2 k hk
    have := hTl k hkT
    omega
  · intro k hk
    simp only [gK, List.mem_cons, List.mem_append] at hk
    rcases hk with rfl | rfl | (hk | hk) | hk
    · omega
    · exact hcl
    · exact hSl k hk
    · have := hTl k hk; omega
    · cases hk
end Go.Proofs
end
section
namespace Go.Proofs
open Go.RowKit
set_option linter.unusedVariables false
set_option linter.unusedSimpArgs false

/-! ### known: the chapter's row -/
def g1 : Gr := { Gr.zero with st := 1 }
def k0 : Tab Gr := ⟨(2 : Nat), 1, [], [], 0⟩
def k1 : Tab Gr := k0.mkT g1
def k2 : Tab Gr := k1.turnT 0 1 2
def k3 : Tab Gr := k2.turnT 0 1 4
theorem k0_e : k0.mkE g1 = 0 ∧ k0.mkI g1 = 0 ∧ k0.mkQ g1 = 1 := by decide
theorem k1_e : k1.turnE 0 1 2 = 0 := by decide
theorem k2_e : k2.turnE 0 1 4 = 0 := by decide
theorem k3_e : k3.turnE 0 1 2 = 5 := by decide
theorem inv0 : Inv k0 2 0 := Inv.new 2 (by decide) (by decide)
theorem inv1 : Inv k1 2 1 := (inv0.mkT g1 (by decide)).mono (by omega)
theorem inv2 : Inv k2 2 1 := inv1.turnT 0 1 2
theorem inv3 : Inv k3 2 1 := inv2.turnT 0 1 4
set_option maxRecDepth 100000 in
set_option maxHeartbeats 3200000 in
theorem known_any (w : World) : Calls Try.prog 9 #[] w fun e w' => e = .returned (.bool true) ∧ Chg [] w w' := by
  have HN := Lib.hid (gnew_ok (2 : Nat) (by decide) (by decide) w)
  have i0 : inI 0 := ⟨by decide, by decide⟩
  have i2 : inI 2 := ⟨by decide, by decide⟩
  have i4 : inI 4 := ⟨by decide, by decide⟩
  have HM := Lib.hid (fun W c S (h : GAt W c S k0) => (by have := Make_any h g1; rw [k0_e.1, k0_e.2.1, k0_e.2.2] at this; exact this : Calls Try.prog 25 #[ptr c, g1.val] W fun e w' => e = .returned (.tuple #[.agg #[.int .i64 0, .int .u64 1], .int .i64 0]) ∧ GTurns c S k1 W w'))
  have H1 := Lib.hid (fun W c S (h : GAt W c S k1) => (by have := Turn_any h 0 1 i0 2 i2 (inv1.getG 0 1); rw [k1_e] at this; exact this : Calls Try.prog 19 #[ptr c, .agg #[.int .i64 0, .int .u64 1], .int .i64 2] W fun e w' => e = .returned (.int .i64 0) ∧ GTurns c S k2 W w'))
  have H2 := Lib.hid (fun W c S (h : GAt W c S k2) => (by have := Turn_any h 0 1 i0 4 i4 (inv2.getG 0 1); rw [k2_e] at this; exact this : Calls Try.prog 19 #[ptr c, .agg #[.int .i64 0, .int .u64 1], .int .i64 4] W fun e w' => e = .returned (.int .i64 0) ∧ GTurns c S k3 W w'))
  have H3 := Lib.hid (fun W c S (h : GAt W c S k3) => (by have := Turn_any h 0 1 i0 2 i2 (inv3.getG 0 1); rw [k3_e] at this; exact ⟨_, this⟩ : ∃ t', Calls Try.prog 19 #[ptr c, .agg #[.int .i64 0, .int .u64 1], .int .i64 2] W fun e w' => e = .returned (.int .i64 5) ∧ GTurns c S t' W w'))
  go_enter Try.func9, Try.ntmps9
  go_wp2_with (first
    | (go_at_call 8; (refine HN.out.mono ?_); rintro e w1 ⟨c, S, rfl, hG, hcl, hSl, hc1⟩)
    | (go_at_call 25; (refine (HM.out _ c S (hG.quiet (Chg.refl [] _))).mono ?_); rintro e w2 ⟨rfl, S2, hG2, hs2, hc2⟩; have hl2 := hc2.size; have hz2 := hG2.lt.2; clear hG)
    | (go_at_call 19; (refine (H1.out _ c S2 (hG2.quiet (((Chg.refl [] w2).alloc _)))).mono ?_); rintro e w3 ⟨rfl, S3, hG3, hs3, hc3⟩; have hn2 : w2.heap.size ∉ S2 := (fun hk => by have := hz2 _ hk; omega); have hb3 := (Blk.new w2 33 #[.int .i64 0, .int .u64 1]).chg hc3 hn2; have hn3 : w2.heap.size ∉ S3 := (fun hk => by have := hs3 _ hk; simp only [World.size_alloc] at this; rcases this with h9 | h9; exact hn2 h9; omega); have b0 := hb3.cell 0; have b1 := hb3.cell 1; simp only [List.getElem?_toArray, List.getElem?_cons_zero, List.getElem?_cons_succ] at b0 b1; have hl3 := hc3.size; simp only [World.size_alloc] at hl3; clear hG2)
    | (go_at_call 19; (refine (H2.out _ c S3 hG3).mono ?_); rintro e w4 ⟨rfl, S4, hG4, hs4, hc4⟩; have hb4 := hb3.chg hc4 hn3; have d0 := hb4.cell 0; have d1 := hb4.cell 1; simp only [List.getElem?_toArray, List.getElem?_cons_zero, List.getElem?_cons_succ] at d0 d1; have hl4 := hc4.size; clear hG3 b0 b1)
    | (go_at_call 19; (obtain ⟨t', H3'⟩ := H3.out _ c S4 hG4); (refine H3'.mono ?_); rintro e w5 ⟨rfl, S5, hG5, hs5, hc5⟩))
  go_ret
  refine ⟨rfl, ?_⟩
  have l1 := hc1.size
  have a2 : ∀ k ∈ S2, w.heap.size ≤ k := fun k hk => by rcases hs2 k hk with h9 | h9; exact hSl k h9; omega
  have a3 : ∀ k ∈ S3, w.heap.size ≤ k := fun k hk => by
    have := hs3 k hk
    simp only [World.size_alloc] at this
    rcases this with h9 | h9
    · exact a2 k h9
    · omega
  have a4 : ∀ k ∈ S4, w.heap.size ≤ k := fun k hk => by rcases hs4 k hk with h9 | h9; exact a3 k h9; omega
  exact ((((hc1.trans hc2 (fun k hk => .inr (hSl k hk))).alloc _).trans hc3 (fun k hk => .inr (a2 k hk))).trans hc4 (fun k hk => .inr (a3 k hk))).trans hc5 (fun k hk => .inr (a4 k hk))
end Go.Proofs
end
section
namespace Go.Proofs
open Go.RowKit
set_option linter.unusedVariables false
set_option linter.unusedSimpArgs false

set_option maxRecDepth 100000 in
set_option maxHeartbeats 12800000 in
theorem do_0 {w : World} {gb c p N M : Nat} {S T : List Nat} {VR : Value} {t : Tab Gr} {rs : List (Int × Int)} (h : GameIn w gb c p S T VR t rs) (hI : Inv t N M) (hM : M < 500) (hrs : rs.length ≤ 500) (hri : ∀ x ∈ rs, inI x.1) (x : Ac) (hx : x.Fits) (hk : ¬ (1 ≤ x.k ∧ x.k ≤ 6)) :
    Calls Try.prog 11 #[ptr gb, x.val] w (DoPost gb (gK gb c S T VR) t rs N M w) := by
  obtain ⟨AR, cR, hVR, _⟩ := h.r.val
  have H := Lib.hid h
  have HI := Lib.hid hI
  have X0 := x.a0
  have X1 := x.a1
  have X2 := x.a2
  have X3 := x.a3
  have X23 := x.a23
  have XG := x.ag
  have hXs := x.size
  have hGs := x.g.size
  have hri0 := hx.ri
  have hat := hx.a
  have hto := hx.to
  have hun := hx.un
  have HRI := Lib.hid hri
  have lgb := h.b.lt
  have hVRlt := h.r.lt
  have HR0 := Lib.hid h.r
  have hb := h.b
  rw [hVR] at hb
  have HVR := Lib.hid hVR
  clear hVR
  have HB := Lib.hid hb
  obtain ⟨n, hn⟩ : ∃ n, n = rs.length := ⟨_, rfl⟩
  rw [← hn] at HB hrs
  have Hn := Lib.hid hn
  unfold Ac.val
  obtain ⟨xg, hxg⟩ : ∃ xg, xg = x.g := ⟨_, rfl⟩
  rw [← hxg] at XG hGs hun
  generalize x.arr = X at *
  generalize x.k = xk at *
  generalize x.ri = ri at *
  generalize x.rq = rq at *
  generalize x.at_ = at_ at *
  generalize x.to = to at *
  clear h hI hri hx hb hn hxg
  obtain ⟨a0, a1⟩ := hat
  have hb3 := Blk.new w 39 X
  have y1 := (hb3.cell 1).trans X1
  have y2 := (hb3.cell 2).trans X2
  have e3 := (hb3.alloc (.cells #[.int .i64 ri, .int .u64 rq] 33)).cell 3
  rw [X3] at e3
  have hcA : Chg [] w ((w.alloc (.cells X 39)).alloc (.cells #[.int .i64 ri, .int .u64 rq] 33)) := ((Chg.refl [] w).alloc _).alloc _
  have hb3A := hb3.alloc (.cells #[.int .i64 ri, .int .u64 rq] 33)
  have hb5A : Blk ((w.alloc (.cells X 39)).alloc (.cells #[.int .i64 ri, .int .u64 rq] 33)) (w.heap.size + 1) 33 #[.int .i64 ri, .int .u64 rq] := Blk.at' (w.alloc (.cells X 39)) 33 _ (by simp)
  have g2 := (HB.out.chg hcA (by simp)).cell 2
  have k1 : (xk == 1) = false := by simp; omega
  have k2 : (xk == 2) = false := by simp; omega
  have k3 : (xk == 3) = false := by simp; omega
  have k4 : (xk == 4) = false := by simp; omega
  have k5 : (xk == 5) = false := by simp; omega
  have k6 : (xk == 6) = false := by simp; omega
  clear hk
  by_cases ha : at_ < 1
  · clear hVRlt
    go_enter Try.func11, Try.ntmps11
    go_upto_region 4 with (fail)
    generalize World.alloc (World.alloc w _) _ = wc at *
    obtain ⟨i, q, hb5, hii⟩ : ∃ i q, Blk wc (w.heap.size + 1) 33 #[.int .i64 i, .int .u64 q] ∧ inI i := ⟨ri, rq, hb5A, hri0⟩
    clear y1 y2 e3 g2 hb3 ha a0 a1 hb5A
    have z0 := (hb3A.cell 0).trans X0
    go_wp2
    go_ret
    exact ⟨rfl, t, rs, HI.out.mono (by omega), by omega, HRI.out, GmTurns.refl H.out hcA⟩
  by_cases hn0 : n = 0
  · have hn0' : ¬ (0 < n) := by omega
    clear hVRlt
    go_enter Try.func11, Try.ntmps11
    go_upto_region 4 with (fail)
    generalize World.alloc (World.alloc w _) _ = wc at *
    obtain ⟨i, q, hb5, hii⟩ : ∃ i q, Blk wc (w.heap.size + 1) 33 #[.int .i64 i, .int .u64 q] ∧ inI i := ⟨ri, rq, hb5A, hri0⟩
    clear y1 y2 e3 g2 hb3 ha a0 a1 hn0 hn0' hb5A
    have z0 := (hb3A.cell 0).trans X0
    go_wp2
    go_ret
    exact ⟨rfl, t, rs, HI.out.mono (by omega), by omega, HRI.out, GmTurns.refl H.out hcA⟩
  obtain ⟨d, hd⟩ : ∃ d, d = (at_ - 1).tmod (n : Int) := ⟨_, rfl⟩
  have hdd := tmod_in (a := at_ - 1) (n := n) (by omega) (by omega)
  rw [← hd] at hdd
  obtain ⟨d0, d1⟩ := hdd
  obtain ⟨j, hj⟩ : ∃ j : Nat, (j : Int) = (n : Int) - 1 - d := ⟨((n : Int) - 1 - d).toNat, by omega⟩
  have hjn : j < rs.length := by rw [← Hn.out]; omega
  obtain ⟨y, hy⟩ : ∃ y, rs[j]? = some y := ⟨_, List.getElem?_eq_getElem hjn⟩
  have hyi : inI y.1 := HRI.out y (List.mem_of_getElem? hy)
  have HR0' := HR0.out
  rw [HVR.out] at HR0'
  obtain ⟨gr, cr, hv, _, _, hrc, _, hgr⟩ := HR0'.form (by omega)
  simp only [Value.slice.injEq] at hv
  obtain ⟨h90, h91, h92⟩ := hv
  obtain ⟨q0, q1⟩ := prCells_at hy
  have hcD := hcA.drew
  have r0 := (hcD.cell (p := ⟨gr, j * 2, none⟩) hgr (by simp)).trans (hrc _ _ q0)
  have r1 := (hcD.cell (p := ⟨gr, j * 2 + 1, none⟩) hgr (by simp)).trans (hrc _ _ q1)
  have g2D := (HB.out.chg hcD (by simp)).cell 2
  rw [h90] at g2D
  have hb5D := hb5A.drew
  have f0 := hb5D.frozen 0
  have f1 := hb5D.frozen 1
  have s0 := hb5D.cell 0
  have s1 := hb5D.cell 1
  have e3D := hb3A.drew.cell 3
  rw [X3] at e3D
  have w1 : IntKind.i64.wrap (at_ - 1) = at_ - 1 := IntWalk.i64_in _ (by omega)
  have w2 : IntKind.i64.wrap ((n : Int) - 1) = (n : Int) - 1 := IntWalk.i64_in _ (by omega)
  have w4 : IntKind.i64.wrap ((n : Int) - 1 - d) = (j : Nat) := by rw [← hj]; exact IntWalk.i64_in _ (by omega)
  have w5 : wrap64 ((n : Int) - 1 - d) = (j : Nat) := by rw [← hj]; exact IntWalk.wrap64_in _ (by omega)
  have w6 : wrap64 (at_ - 1) = at_ - 1 := IntWalk.wrap64_in _ (by omega)
  have w7 : IntKind.i64.wrap (j : Int) = (j : Nat) := IntWalk.i64_in _ (by omega)
  have j0 : (0 : Int) ≤ (j : Int) := by omega
  have j1 : (j : Int) < (n : Int) := by omega
  have hn1 : 0 < n := by omega
  have hn2 : ¬ ((n : Int) = 0) := by omega
  have hn3 : ((n : Int) == 0) = false := by simp; omega
  have hmod : (at_ - 1).tmod (n : Int) = d := hd.symm
  have hjs : (n : Int) - 1 - d = (j : Nat) := hj.symm
  clear hVRlt HR0' h90 h91 h92 hrc hy hjn hj q0 q1 hd
  go_enter Try.func11, Try.ntmps11
  go_upto_region 3 with (fail)
  have hb3D := hb3A.drew
  refine wp_region_still_tail 22 (by kernel_rfl) (by kernel_rfl) ?_
  simp only [List.take_succ_cons, List.take_zero, List.drop_succ_cons, List.drop_zero]
  (try change wpStill _ _ (World.drew _) _ _ _)
  generalize hwd : World.drew _ = wd at *
  have HWD := Lib.hid hwd
  clear hwd
  simp only [List.getElem?_toArray, List.getElem?_cons_zero, List.getElem?_cons_succ] at s0 s1 g2D
  (repeat still_step)
  refine wpStill_nil ?_
  (try change wpList _ _ _ _ _ (World.drew _))
  rw [HWD.out]
  clear HWD
  go_upto_region 4 with (fail)
  have hcC := (hcD.setCell (p := ⟨w.heap.size + 1, 0, none⟩) (.inr (by simp)) (.int .i64 y.1)).setCell (p := ⟨w.heap.size + 1, 1, none⟩) (.inr (by simp)) (.int .u64 y.2)
  have hb5C := (hb5D.set_ 0 (.int .i64 y.1)).set_ 1 (.int .u64 y.2)
  have hb3C := (hb3D.far (p := ⟨w.heap.size + 1, 0, none⟩) (by simp) (.int .i64 y.1)).far (p := ⟨w.heap.size + 1, 1, none⟩) (by simp) (.int .u64 y.2)
  clear hcA hb3A hb3D hb5A hcD r0 r1 g2D hb5D f0 f1 s0 s1 e3D w1 w2 w4 w5 w6 w7 j0 j1 hn1 hn2 hn3 hmod hjs y1 y2 e3 g2 hb3 ha a0 a1 hn0
  generalize World.setCell _ _ _ = wc at *
  have hcA := hcC
  have hb3A := hb3C
  clear hcC hb3C
  obtain ⟨i, q, hb5, hii⟩ : ∃ i q, Blk wc (w.heap.size + 1) 33 #[.int .i64 i, .int .u64 q] ∧ inI i := ⟨y.1, y.2, hb5C, hyi⟩
  clear hb5C hyi hgr HVR
  have z0 := (hb3A.cell 0).trans X0
  go_wp2
  go_ret
  exact ⟨rfl, t, rs, HI.out.mono (by omega), by omega, HRI.out, GmTurns.refl H.out hcA⟩
end Go.Proofs
end
section
namespace Go.Proofs
open Go.RowKit
set_option linter.unusedVariables false
set_option linter.unusedSimpArgs false

/-! ### The refs turned -/
theorem GameIn.refs {w w' : World} {gb c p : Nat} {S T : List Nat} {VR VR' : Value} {t : Tab Gr} {rs rs' : List (Int × Int)} (h : GameIn w gb c p S T VR t rs) (hb : Blk w' gb 45 #[ptr c, ptr p, VR'])
    (hr : Row w' 33 2 VR' rs'.length (prCells rs')) (hc : Chg (gb :: foot VR) w w') : GameIn w' gb c p S T VR' t rs' := by
  obtain ⟨g1, g2, g3, g4⟩ := h.gS
  have hrS := h.rS
  refine ⟨hb, h.g.chg hc (fun hk => ?_) (fun k hk hk2 => ?_), h.d.chg hc (fun k hk hk2 => ?_), hr, h.ap⟩
  · simp only [List.mem_cons] at hk
    rcases hk with h9 | h9
    · exact g2 h9.symm
    · exact (hrS _ h9).2.2.1 rfl
  · simp only [List.mem_cons] at hk2
    rcases hk2 with rfl | h9
    · exact g1 hk
    · exact (hrS _ h9).1 hk
  · simp only [List.mem_cons] at hk2
    rcases hk2 with rfl | h9
    · exact g3 hk
    · exact (hrS _ h9).2.1 hk
theorem GmTurns.refs {w w1 w2 : World} {gb c p : Nat} {S T K : List Nat} {VR VR' : Value} {t : Tab Gr} {rs rs' : List (Int × Int)} (h : GameIn w1 gb c p S T VR t rs) (hK : ∀ k ∈ gK gb c S T VR, k ∈ K ∨ w.heap.size ≤ k) (hc1 : Chg K w w1)
    (hb : Blk w2 gb 45 #[ptr c, ptr p, VR']) (hr : Row w2 33 2 VR' rs'.length (prCells rs')) (hf : ∀ k ∈ foot VR', k ∈ foot VR ∨ w1.heap.size ≤ k) (hc : Chg (gb :: foot VR) w1 w2) : GmTurns gb K t rs' w w2 := by
  have hz := hc1.size
  have hin : ∀ k ∈ gb :: foot VR, k ∈ K ∨ w.heap.size ≤ k := fun k hk => hK k (by
    simp only [gK, List.mem_cons, List.mem_append] at hk ⊢
    rcases hk with h9 | h9
    · exact .inl h9
    · exact .inr (.inr (.inr h9)))
  refine ⟨_, ⟨c, p, S, T, VR', h.refs hb hr hc, rfl⟩, fun k hk => ?_, hc1.trans hc hin⟩
  simp only [gK, List.mem_cons, List.mem_append] at hk
  rcases hk with rfl | rfl | (hk | hk) | hk
  · exact hK _ (by simp [gK])
  · exact hK _ (by simp [gK])
  · exact hK _ (by simp [gK, hk])
  · exact hK _ (by simp [gK, hk])
  · rcases hf k hk with h9 | h9
    · exact hK _ (by simp [gK, h9])
    · exact .inr (by omega)
theorem GTurns.later {c : Nat} {S : List Nat} {t' : Tab Gr} {a b d : World} (h : GTurns c S t' a b) (hc : Chg [] b d) : GTurns c S t' a d := by
  obtain ⟨S', h1, h2, h3⟩ := h
  exact ⟨S', h1.quiet hc, h2, h3.then hc⟩
end Go.Proofs
end
section
namespace Go.Proofs
open Go.RowKit
set_option linter.unusedVariables false
set_option linter.unusedSimpArgs false

/-! ### Boxes beside a table that turned; a ref more -/
theorem GTurns.box {c : Nat} {S : List Nat} {t' : Tab Gr} {a b d : World} (H : GTurns c S t' a b) {B : Nat} {cs : Array Value} (hB : Blk b B 33 cs) (hb : a.heap.size ≤ B) (hc : Chg [B] b d) : GTurns c S t' a d := by
  obtain ⟨S', h1, h2, h3⟩ := H
  obtain ⟨n1, n2⟩ := h1.ty hB (by decide) (by decide) (by decide) (by decide)
  exact ⟨S', h1.chg hc (by simp; exact fun e => n1 e.symm) (fun k hk => by simp; rintro rfl; exact n2 hk), h2, h3.trans hc (fun k hk => by simp at hk; subst hk; exact .inr hb)⟩
theorem DTurns.box {p : Nat} {S : List Nat} {r' : Rt} {a b d : World} (H : DTurns p S r' a b) {B : Nat} {cs : Array Value} (hB : Blk b B 33 cs) (hb : a.heap.size ≤ B) (hc : Chg [B] b d) : DTurns p S r' a d := by
  obtain ⟨S', h1, h2, h3⟩ := H
  have n2 := h1.ty hB (by decide) (by decide) (by decide)
  exact ⟨S', h1.chg hc (fun k hk => by simp; rintro rfl; exact n2 hk), h2, h3.trans hc (fun k hk => by simp at hk; subst hk; exact .inr hb)⟩
theorem Inv.mk_in {t : Tab Gr} {N M : Nat} (h : Inv t N M) (x : Gr) : inI (t.mkI x) := by
  have h0 : inI 0 := ⟨by decide, by decide⟩
  unfold Tab.mkI Tab.putI
  by_cases hm : mayP x = false
  · rw [if_pos hm]; exact h0
  · rw [if_neg hm]
    by_cases hf : t.frees = 0
    · rw [if_pos hf]; exact h0
    · rw [if_neg hf]
      obtain ⟨l, s, _, hs, _⟩ := doc_mk h hf x
      have h1 := (List.getElem?_eq_some_iff.1 hs).1
      rw [docL_len h] at h1
      have h2 := h.n64
      exact ⟨by omega, by omega⟩
theorem GTurns.earlier {c : Nat} {S : List Nat} {t' : Tab Gr} {a b d : World} (hc : Chg [] a b) (H : GTurns c S t' b d) : GTurns c S t' a d := by
  obtain ⟨S', h1, h2, h3⟩ := H
  have hz := hc.size
  exact ⟨S', h1, fun k hk => (h2 k hk).imp id (fun h => by omega), (Chg.any hc).trans h3 (fun k hk => .inl hk)⟩
theorem DTurns.earlier {p : Nat} {S : List Nat} {r' : Rt} {a b d : World} (hc : Chg [] a b) (H : DTurns p S r' b d) : DTurns p S r' a d := by
  obtain ⟨S', h1, h2, h3⟩ := H
  have hz := hc.size
  exact ⟨S', h1, fun k hk => (h2 k hk).imp id (fun h => by omega), (Chg.any hc).trans h3 (fun k hk => .inl hk)⟩
theorem GTurns.chg {c : Nat} {S : List Nat} {t' : Tab Gr} {a b : World} (H : GTurns c S t' a b) : Chg S a b := by obtain ⟨_, _, _, h⟩ := H; exact h
theorem DTurns.chg {p : Nat} {S : List Nat} {r' : Rt} {a b : World} (H : DTurns p S r' a b) : Chg S a b := by obtain ⟨_, _, _, h⟩ := H; exact h
theorem Blk.grown {w w' : World} {g : Nat} {t : TypeId} {cs : Array Value} {row : Option Nat} (h : Blk w g t cs) (hg : w.grownBy w' row) (hn : row ≠ some g) : Blk w' g t cs := h.same (hg.block g h.lt (fun e => hn e.symm))
theorem T33 : AggOf Try.prog 33 2 := ⟨Try.isAgg33, Try.sizeOf33⟩
abbrev zR : Array Value := #[.int .i64 0, .int .u64 0]
theorem eqRef (a b c d : Int) (W : World) : (binOp BinOp.neq 33 (.agg #[.int .i64 a, .int .u64 b]) (.agg #[.int .i64 c, .int .u64 d])).run Try.prog W = .ok (.bool (!decide (a = c ∧ b = d))) W := by
  simp [go_sem, Try.underlying33]
  by_cases h : a = c
  · simp [h]
    by_cases h2 : b = d
    · simp [h2]
    · simp [h2]
  · simp [h]
theorem neqRef (a b : Int) (W : World) : (binOp BinOp.neq 33 (.agg #[.int .i64 a, .int .u64 b]) (.agg #[.int .i64 a, .int .u64 b])).run Try.prog W = .ok (.bool false) W := by
  rw [eqRef]; simp
section
variable {w w1 w2 w' : World} {gb c p : Nat} {S T : List Nat} {VR : Value} {t t' : Tab Gr} {rs : List (Int × Int)}
/-- The code's act, then the document's: the game as it is then. -/
theorem GmTurns.both_in (h : GameIn w gb c p S T VR t rs) (hc0 : Chg [] w w1) (h1 : GTurns c S t' w1 w2) (h2 : DTurns p T (docT t') w2 w') :
    ∃ S' T', GameIn w' gb c p S' T' VR t' rs ∧ (∀ k ∈ gK gb c S' T' VR, k ∈ gK gb c S T VR ∨ w.heap.size ≤ k) ∧ Chg (gK gb c S T VR) w w' := by
  obtain ⟨S', a1, a2, a3⟩ := h1
  obtain ⟨T', b1, b2, b3⟩ := h2
  have hT : ∀ k ∈ T, k < w.heap.size := h.d.lt
  have hz0 := hc0.size
  have hz1 := a3.size
  have hca : Chg S w w2 := (Chg.any hc0).trans a3 (fun k hk => .inl hk)
  have hcw : Chg (S ++ T) w w' := (hca.mono (fun k hk => .inl (by simp [hk]))).trans b3 (fun k hk => .inl (by simp [hk]))
  have hST : ∀ k ∈ S', k ∉ T := fun k hk hkT => by
    rcases a2 k hk with h9 | h9
    · exact h.ap k h9 hkT
    · have := hT k hkT; omega
  have hS' := a1.lt
  have hgS := h.gS
  have hrS := h.rS
  have hcT := h.cT
  refine ⟨S', T', ⟨h.b.chg hcw (by simp [hgS.1, hgS.2.2.1]), a1.chg b3 hcT.1 hST, b1, h.r.chg hcw (fun k hk => by simp [(hrS k hk).1, (hrS k hk).2.1]), fun k hk hkT => ?_⟩, fun k hk => ?_, ?_⟩
  · rcases b2 k hkT with h9 | h9
    · exact hST k hk h9
    · have := hS'.2 k hk; omega
  · simp only [gK, List.mem_cons, List.mem_append] at hk ⊢
    rcases hk with rfl | rfl | (hk | hk) | hk
    · exact .inl (by simp)
    · exact .inl (by simp)
    · rcases a2 k hk with h9 | h9
      · exact .inl (by simp [h9])
      · exact .inr (by omega)
    · rcases b2 k hk with h9 | h9
      · exact .inl (by simp [h9])
      · exact .inr (by omega)
    · exact .inl (by simp [hk])
  · exact hcw.mono (fun k hk => .inl (by simp only [gK, List.mem_cons, List.mem_append]; simp only [List.mem_append] at hk; exact .inr (.inr (.inl hk))))
/-- .. and a ref more, appended and stored. -/
theorem GmTurns.app (h : GameIn w gb c p S T VR t rs) (hc0 : Chg [] w w1) (h1 : GTurns c S t' w1 w2) (h2 : DTurns p T (docT t') w2 w') {w8 w9 : World} (hc8 : Chg [] w' w8) {b n cp : Nat} {i q : Int}
    (hr : Row w9 33 2 (.slice (some ⟨b, 0, none⟩) (n + 1) cp) (n + 1) (prCells rs ++ [.int .i64 i, .int .u64 q])) (hn : n = rs.length) (hg : w8.grownBy w9 VR.ownBlock) (hb : VR.ownBlock = some b ∨ b = w8.heap.size) :
    GmTurns gb (gK gb c S T VR) t' (rs ++ [(i, q)]) w (w9.setCell ⟨gb, 2, none⟩ (.slice (some ⟨b, 0, none⟩) (n + 1) cp)) := by
  obtain ⟨S', T', g, hK, hcK⟩ := GmTurns.both_in h hc0 h1 h2
  have g8 := g.quiet hc8
  have gl := g8.b.lt
  obtain ⟨_, _, _, g4⟩ := g8.gS
  have hc9 : Chg (foot VR) w8 w9 := (Chg.refl _ _).grown hg (fun k hk => .inl (row_mem hk))
  have hbG : gb ≠ b := by
    rintro rfl
    rcases hb with hb | hb
    · exact g4 (row_mem hb)
    · omega
  have hB9 := (g8.b.chg hc9 g4).set_ 2 (.slice (some ⟨b, 0, none⟩) (n + 1) cp)
  have hz8 := hc8.size
  refine GmTurns.refs g8 hK (hcK.then hc8) (VR' := .slice (some ⟨b, 0, none⟩) (n + 1) cp) hB9 ?_ (fun k hk => ?_) ?_
  · rw [List.length_append, List.length_cons, List.length_nil, prCells_snoc]
    subst hn
    exact hr.far (by simp [foot_some]; exact hbG) _
  · rw [foot_some] at hk
    simp at hk
    subst hk
    rcases hb with hb | hb
    · exact .inl (row_mem hb)
    · exact .inr (by omega)
  · exact (hc9.mono (fun k hk => .inl (by simp [hk]))).trans ((Chg.refl [gb] _).setCell (.inl (by simp)) _) (fun k hk => .inl (by simp at hk; simp [hk]))
end
end Go.Proofs
end
