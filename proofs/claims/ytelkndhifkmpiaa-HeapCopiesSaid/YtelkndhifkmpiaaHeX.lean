import Derived.Test.YtelkndhifkmpiaaHeW
namespace Go.Proofs
open Go.RowKit
set_option linter.unusedVariables false

theorem rremove_no {w : World} {r : Nat} {S : List Nat} {l : List (Int × Int)} (h : RefAt w r S l) (hn : l.length ≤ 100000) (id : Int) (hb : hasP id l = false) :
    Calls Try.prog 25 #[.pointer (some ⟨r, 0, none⟩), .int .i64 id] w fun e w' => e = .returned (.bool false) ∧ w = w' := by
  have HF := rfind_any h hn id
  unfold idI at HF
  rw [if_neg (by simp [hb])] at HF
  clear h hb
  go_enter Try.func25, Try.ntmps25
  go_wp2_with (go_at_call 36; refine HF.mono ?_; rintro e w' ⟨rfl, rfl⟩)
  go_ret
  exact ⟨rfl, rfl⟩
def cutP (l : List (Int × Int)) (i : Nat) : List (Int × Int) := l.take i ++ l.drop (i + 1)
set_option maxHeartbeats 40000000 in
set_option maxRecDepth 100000 in
theorem rremove_yes {w : World} {r : Nat} {S : List Nat} {l : List (Int × Int)} (h : RefAt w r S l) (hn : l.length ≤ 100000) (id : Int) (hb : hasP id l = true) :
    Calls Try.prog 25 #[.pointer (some ⟨r, 0, none⟩), .int .i64 id] w fun e w' => e = .returned (.bool true) ∧ RTurns r S (cutP l (idAt id l)) w w' := by
  have HF := rfind_any h hn id
  have hlt := hasP_lt.1 hb
  unfold idI at HF
  rw [if_pos hb] at HF
  obtain ⟨i, hi⟩ : ∃ i, i = idAt id l := ⟨_, rfl⟩
  rw [← hi] at HF hlt ⊢
  obtain ⟨V, hB, hR, hS⟩ := h
  have HG := Lib.hid (show r ∈ S by rw [hS]; simp)
  obtain ⟨A, c, rfl, hnc, hcm, _, hA, _⟩ := _root_.id hR
  have c0 := hB.cell 0
  have f0 := hB.frozen 0
  have lr := hB.lt
  obtain ⟨b, o, rfl, _⟩ := hR.nm i _ (List.getElem?_eq_getElem hlt)
  obtain ⟨n, hnl⟩ : ∃ n, n = l.length := ⟨_, rfl⟩
  simp only [List.getElem?_toArray, List.getElem?_cons_zero, ← hnl] at c0
  rw [← hnl] at hn hnc hR hB hlt
  have HB := Lib.hid hB
  have HN := Lib.hid hnl
  have hc63 : c ≤ 9223372036854775807 := by unfold maxLen at hcm; exact hcm
  have H1 := Lib.hid (hR.first (i := i) (by omega))
  have HIns := Lib.hid (show cutP l i = l.take i ++ l.drop (i + 1) from rfl)
  have i0 : (0 : Int) ≤ (i : Int) := by omega
  have i1 : (i : Int) ≤ (c : Int) := by omega
  have i2 : (0 : Int) ≤ (i : Int) + 1 := by omega
  have i3 : (i : Int) + 1 ≤ (n : Int) := by omega
  have in_ : ¬ ((i : Int) < 0) := by omega
  have e1 : IntKind.i64.wrap ((i : Int) + 1) = (i : Int) + 1 := by simp [IntKind.wrap, IntKind.bits, IntKind.signed]; omega
  have e2 : ((i : Int) + 1).toNat = i + 1 := by omega
  have hq2 : 0 + i ≤ 1000000 := by omega
  by_cases hic : i + 1 < c
  · have H3 := Lib.hid (hR.rest (i := i + 1) (by omega))
    obtain ⟨q, hq⟩ : ∃ q, q = n - (i + 1) := ⟨_, rfl⟩
    rw [← hq] at H3
    have hqq : i + q ≤ 1000000 := by omega
    have hne : c ≠ i + 1 := by omega
    have hne2 : ¬ (c - (i + 1) = 0) := by omega
    have i4 : (n : Int) - ((i : Int) + 1) = (q : Int) := by omega
    have i5 : n - (i + 1) = q := by omega
    clear hB hR hnl hS hb hA hcm hi hq
    go_enter Try.func25, Try.ntmps25
    go_wp2_with (go_at_call 36; refine HF.mono ?_; rintro e w' ⟨rfl, rfl⟩)
    go_region_law
      (first
        | (refine step_append_rs (xs := []) (n := 0) (m := i) (N := i) _ (by rfl) _ _ (by rfl) (by rfl) (by rfl) (Row.nil _ _ _) (H1.out.quiet (Chg.refl _ _).drew) hq2 (by omega) ?_; intro A1 c1 w1 hr1 hg1 hf1; simp only [List.nil_append] at hr1; have hcA : Chg [] w w1 := ((Chg.refl _ _).drew).grown hg1 (fun z hk => by cases hk); have hfA : ∀ z ∈ foot (.slice A1 i c1), w.heap.size ≤ z := (fun z hk => (hf1 z hk).elim (fun h => by cases h) (fun h => h)); have g1 := (hcA.cell (p := ⟨r, 0, none⟩) lr (by simp)).trans c0; have HCA := Lib.hid hcA; have HFA := Lib.hid hfA; have HR1 := Lib.hid hr1; clear hg1 hf1 hcA hfA hr1)
        | (refine step_append_rs (n := i) (m := q) (N := i + q) _ (by rfl) _ _ (by rfl) (by rfl) (by rfl) HR1.out (H3.out.quiet HCA.out) (by omega) (by omega) ?_; intro A3 c3 w3 hr3 hg3 hf3; have hcC : Chg [] w w3 := HCA.out.grown hg3 (fun z hk => .inr (HFA.out z (row_mem hk))); have e2 := (hcC.cell (p := ⟨r, 0, none⟩) lr (by simp)).trans c0; have e3 := (hcC.frozen (p := ⟨r, 0, none⟩) lr (by simp)).trans f0; have hfC : ∀ z ∈ foot (.slice A3 (i + q) c3), z ∈ S ∨ w.heap.size ≤ z := (fun z hk => .inr ((hf3 z hk).elim (fun h => HFA.out z h) (fun h => by have := HCA.out.size; omega))); have HCC := Lib.hid hcC; have HFC := Lib.hid hfC; have HR3 := Lib.hid hr3; clear hg3 hf3 hcC hfC hr3))
    all_goals
      go_wp2
      go_ret
      have hrs := Rs.of_row HR3.out
      rw [← HIns.out] at hrs
      have hl9 := hrs.nlen
      exact ⟨rfl, RTurns.put HB.out HG.out HCC.out (show Rs w3 39 2 _ (cutP l i).length (nms (cutP l i)) from by rw [← hl9]; exact hrs) HFC.out⟩
  · obtain rfl : c = i + 1 := by omega
    obtain rfl : n = i + 1 := by omega
    have H3 := Lib.hid hR.none_
    have HD := Lib.hid (show l.drop (i + 1) = [] by rw [HN.out]; exact List.drop_length)
    rw [← HD.out] at H3
    have i4 : (i : Int) ≤ (i : Int) + 1 := by omega
    clear hB hR hnl hS hb hA hcm hi
    go_enter Try.func25, Try.ntmps25
    go_wp2_with (go_at_call 36; refine HF.mono ?_; rintro e w' ⟨rfl, rfl⟩)
    go_region_law
      (first
        | (refine step_append_rs (xs := []) (n := 0) (m := i) (N := i) _ (by rfl) _ _ (by rfl) (by rfl) (by rfl) (Row.nil _ _ _) (H1.out.quiet (Chg.refl _ _).drew) hq2 (by omega) ?_; intro A1 c1 w1 hr1 hg1 hf1; simp only [List.nil_append] at hr1; have hcA : Chg [] w w1 := ((Chg.refl _ _).drew).grown hg1 (fun z hk => by cases hk); have hfA : ∀ z ∈ foot (.slice A1 i c1), w.heap.size ≤ z := (fun z hk => (hf1 z hk).elim (fun h => by cases h) (fun h => h)); have g1 := (hcA.cell (p := ⟨r, 0, none⟩) lr (by simp)).trans c0; have HCA := Lib.hid hcA; have HFA := Lib.hid hfA; have HR1 := Lib.hid hr1; clear hg1 hf1 hcA hfA hr1)
        | (refine step_append_rs (n := i) (m := 0) (N := i) _ (by rfl) _ _ (by rfl) (by rfl) (by rfl) HR1.out (H3.out.quiet HCA.out) (by omega) (by omega) ?_; intro A3 c3 w3 hr3 hg3 hf3; have hcC : Chg [] w w3 := HCA.out.grown hg3 (fun z hk => .inr (HFA.out z (row_mem hk))); have e2 := (hcC.cell (p := ⟨r, 0, none⟩) lr (by simp)).trans c0; have e3 := (hcC.frozen (p := ⟨r, 0, none⟩) lr (by simp)).trans f0; have hfC : ∀ z ∈ foot (.slice A3 (i) c3), z ∈ S ∨ w.heap.size ≤ z := (fun z hk => .inr ((hf3 z hk).elim (fun h => HFA.out z h) (fun h => by have := HCA.out.size; omega))); have HCC := Lib.hid hcC; have HFC := Lib.hid hfC; have HR3 := Lib.hid hr3; clear hg3 hf3 hcC hfC hr3))
    all_goals
      go_wp2
      go_ret
      have hrs := Rs.of_row HR3.out
      rw [← HIns.out] at hrs
      have hl9 := hrs.nlen
      exact ⟨rfl, RTurns.put HB.out HG.out HCC.out (show Rs w3 39 2 _ (cutP l i).length (nms (cutP l i)) from by rw [← hl9]; exact hrs) HFC.out⟩
end Go.Proofs
