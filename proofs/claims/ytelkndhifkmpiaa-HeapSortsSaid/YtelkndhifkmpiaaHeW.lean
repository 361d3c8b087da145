import Derived.Test.YtelkndhifkmpiaaHeU
namespace Go.Proofs
open Go.RowKit
set_option linter.unusedVariables false

def popVP (now : Int) : List (Int × Int) → Value
  | [] => .tuple #[.int .i64 0, .bool false]
  | x :: _ => if x.1 ≤ now then .tuple #[.int .i64 x.2, .bool true] else .tuple #[.int .i64 0, .bool false]
def popP (now : Int) : List (Int × Int) → List (Int × Int)
  | [] => []
  | x :: K => if x.1 ≤ now then K else x :: K
set_option maxHeartbeats 3200000 in
set_option maxRecDepth 100000 in
theorem rpop_any {w : World} {r : Nat} {S : List Nat} {l : List (Int × Int)} (h : RefAt w r S l) (hn : l.length ≤ 100000) (now : Int) :
    Calls Try.prog 24 #[.pointer (some ⟨r, 0, none⟩), .int .u64 now] w fun e w' => e = .returned (popVP now l) ∧ RTurns r S (popP now l) w w' := by
  have HT := Lib.hid (fun w' (hc : Chg [] w w') => RTurns.refl h hc)
  obtain ⟨V, hB, hR, hS⟩ := h
  have HG := Lib.hid (show r ∈ S by rw [hS]; simp)
  obtain ⟨A, c, rfl, hnc, hcm, _, hA, _⟩ := _root_.id hR
  have c0 := hB.cell 0
  have f0 := hB.frozen 0
  have lr := hB.lt
  have hc63 : c ≤ 9223372036854775807 := by unfold maxLen at hcm; exact hcm
  cases l with
  | nil =>
    simp only [popVP, popP]
    have c0' : w.cell? ⟨r, 0, none⟩ = some (.slice A 0 c) := c0
    clear c0 hB hR hS hA hnc hcm
    go_enter Try.func24, Try.ntmps24
    go_wp2
    go_ret2
    exact ⟨rfl, HT.out _ (Chg.refl _ _)⟩
  | cons x l =>
    obtain ⟨b, o, rfl, lb, p0, p1⟩ := hR.nm 0 x rfl
    rw [Nat.zero_mul] at p0 p1
    rw [Nat.add_zero] at p0 p1
    obtain ⟨n, hnl⟩ : ∃ n, n = l.length := ⟨_, rfl⟩
    have hnl1 : (x :: l).length = n + 1 := by rw [List.length_cons, hnl]
    rw [hnl1] at hR hB hn hnc
    simp only [List.getElem?_toArray, List.getElem?_cons_zero, hnl1] at c0
    obtain ⟨xa, xi⟩ := x
    simp only at p0 p1
    have hz : (((n + 1 : Nat) : Int) == 0) = false := by simp; omega
    have i1 : (0 : Int) < (n : Int) + 1 := by omega
    have HB := Lib.hid hB
    have HN := Lib.hid hnl
    by_cases hle : xa ≤ now
    · simp only [popVP, popP, if_pos hle]
      have hgt : ¬ (now < xa) := by omega
      have i2 : (1 : Int) ≤ (n : Int) + 1 := by omega
      have i3 : (1 : Int) ≤ (c : Int) := by omega
      by_cases hc1 : c = 1
      · subst hc1
        obtain rfl : n = 0 := by omega
        obtain rfl : l = [] := List.eq_nil_of_length_eq_zero hnl.symm
        have H3 := Lib.hid hR.none_
        clear hB hR hS hA hnc hcm hnl hle hnl1
        go_enter Try.func24, Try.ntmps24
        go_wp2_with (at_builtin; refine wpList_append_rs (xs := []) (n := 0) (m := 0) (N := 0) _ rfl _ _ rfl (by rfl) (by rfl) (Row.nil _ _ _) H3.out (by omega) (by omega) ?_; intro A1 c1 w1 hr1 hg1 hf1; have hcA : Chg [] w w1 := (Chg.refl _ _).grown hg1 (fun z hk => by cases hk); have e2 := (hcA.cell (p := ⟨r, 0, none⟩) lr (by simp)).trans c0; have e3 := (hcA.frozen (p := ⟨r, 0, none⟩) lr (by simp)).trans f0; have hfA : ∀ z ∈ foot (.slice A1 0 c1), z ∈ S ∨ w.heap.size ≤ z := (fun z hk => .inr ((hf1 z hk).elim (fun h => by cases h) (fun h => h))); have HCA := Lib.hid hcA; have HFA := Lib.hid hfA; have HR1 := Lib.hid hr1; clear hg1 hf1 hcA hfA hr1)
        go_ret2
        exact ⟨rfl, RTurns.put HB.out HG.out HCA.out (Rs.of_row HR1.out) HFA.out⟩
      · have H3 := Lib.hid (hR.rest (i := 1) (by omega))
        rw [Nat.add_sub_cancel, Nat.one_mul, List.drop_succ_cons, List.drop_zero] at H3
        have hne2 : ¬ (c - 1 = 0) := by omega
        have hb1 : 0 + n ≤ 1000000 := by omega
        clear hB hR hS hA hnc hcm hnl hle hnl1
        go_enter Try.func24, Try.ntmps24
        go_wp2_with (at_builtin; refine wpList_append_rs (xs := []) (n := 0) (m := n) (N := n) _ rfl _ _ rfl (by rfl) (by rfl) (Row.nil _ _ _) H3.out hb1 (by omega) ?_; intro A1 c1 w1 hr1 hg1 hf1; have hcA : Chg [] w w1 := (Chg.refl _ _).grown hg1 (fun z hk => by cases hk); have e2 := (hcA.cell (p := ⟨r, 0, none⟩) lr (by simp)).trans c0; have e3 := (hcA.frozen (p := ⟨r, 0, none⟩) lr (by simp)).trans f0; have hfA : ∀ z ∈ foot (.slice A1 n c1), z ∈ S ∨ w.heap.size ≤ z := (fun z hk => .inr ((hf1 z hk).elim (fun h => by cases h) (fun h => h))); have HCA := Lib.hid hcA; have HFA := Lib.hid hfA; have HR1 := Lib.hid hr1; clear hg1 hf1 hcA hfA hr1)
        go_ret2
        have hrs := Rs.of_row HR1.out
        rw [List.nil_append] at hrs
        exact ⟨rfl, RTurns.put HB.out HG.out HCA.out (HN.out ▸ hrs) HFA.out⟩
    · simp only [popVP, popP, if_neg hle]
      have hgt : now < xa := by omega
      clear hB hR hS hA hnc hcm hle hnl1 hnl
      go_enter Try.func24, Try.ntmps24
      go_wp2
      go_ret2
      exact ⟨rfl, HT.out _ (Chg.refl _ _)⟩
set_option maxHeartbeats 3200000 in
set_option maxRecDepth 100000 in
theorem rcopy_any {w : World} {r : Nat} {S : List Nat} {l : List (Int × Int)} (h : RefAt w r S l) (hn : l.length ≤ 100000) :
    Calls Try.prog 19 #[.pointer (some ⟨r, 0, none⟩)] w fun e w' => ∃ r' S', e = .returned (.pointer (some ⟨r', 0, none⟩)) ∧ RefAt w' r' S' l ∧ (∀ k ∈ S', w.heap.size ≤ k) ∧ Chg [] w w' := by
  obtain ⟨V, hB, hR, hS⟩ := h
  obtain ⟨A, c, rfl, hnc, hcm, _, hA, _⟩ := _root_.id hR
  have c0 := hB.cell 0
  obtain ⟨n, hnl⟩ : ∃ n, n = l.length := ⟨_, rfl⟩
  simp only [List.getElem?_toArray, List.getElem?_cons_zero, ← hnl] at c0
  rw [← hnl] at hR hn
  have HR := Lib.hid hR
  have HN := Lib.hid hnl
  have hb1 : 0 + n ≤ 1000000 := by omega
  clear hB hR hS hA hnc hcm hnl
  go_enter Try.func19, Try.ntmps19
  go_wp2_with (at_builtin; refine wpList_append_rs (xs := []) (n := 0) (m := n) (N := n) _ rfl _ _ rfl (by rfl) (by rfl) (Row.nil _ _ _) HR.out hb1 (by omega) ?_; intro A1 c1 w1 hr1 hg1 hf1; have hcA : Chg [] w w1 := (Chg.refl _ _).grown hg1 (fun z hk => by cases hk); have hfA : ∀ z ∈ foot (.slice A1 n c1), w.heap.size ≤ z := (fun z hk => ((hf1 z hk).elim (fun h => by cases h) (fun h => h))); have HCA := Lib.hid hcA; have HFA := Lib.hid hfA; have HR1 := Lib.hid hr1; clear hg1 hf1 hcA hfA hr1)
  go_ret
  have hrs := Rs.of_row HR1.out
  rw [List.nil_append] at hrs
  refine ⟨_, _, rfl, ⟨_, Blk.new w1 29 _, (HN.out ▸ hrs.quiet ((Chg.refl _ _).alloc _)), rfl⟩, fun k hk => ?_, HCA.out.alloc _⟩
  simp only [List.mem_cons] at hk
  rcases hk with rfl | hk
  · exact HCA.out.size
  · exact HFA.out k hk
end Go.Proofs
