import Derived.Test.YtelkndhifkmpiaaHeU
import Derived.Deep.RegionHeldLaw
namespace Go.Proofs
open Go.RowKit
set_option linter.unusedVariables false

/-- x comes behind all that are not later. -/
def insP : List (Int × Int) → (Int × Int) → List (Int × Int)
  | [], x => [x]
  | y :: l, x => if y.1 ≤ x.1 then y :: insP l x else x :: y :: l
theorem insP_at {x : Int × Int} : ∀ {l : List (Int × Int)} {k : Nat}, (∀ j (y : Int × Int), j < k → l[j]? = some y → y.1 ≤ x.1) → (l.length = k ∨ ∃ y, l[k]? = some y ∧ ¬ y.1 ≤ x.1) → insP l x = (l.take k ++ [x]) ++ l.drop k := by
  intro l
  induction l with
  | nil =>
    intro k _ h
    rcases h with h | ⟨y, h, _⟩
    · simp [insP]
    · simp at h
  | cons z l ih =>
    intro k h1 h2
    cases k with
    | zero =>
      rcases h2 with h2 | ⟨y, h2, h3⟩
      · simp at h2
      · simp at h2
        subst h2
        unfold insP
        rw [if_neg h3]
        simp
    | succ k =>
      have hz := h1 0 z (by omega) rfl
      unfold insP
      rw [if_pos hz, ih (k := k) (fun j y hj hy => h1 (j + 1) y (by omega) (by simpa using hy)) (by
        rcases h2 with h2 | ⟨y, h2, h3⟩
        · left; simpa using h2
        · right; exact ⟨y, by simpa using h2, h3⟩)]
      simp
theorem rput_busy {w : World} {r : Nat} {S : List Nat} {l : List (Int × Int)} (h : RefAt w r S l) (hn : l.length ≤ 100000) (at' id : Int) (hb : hasP id l = true) :
    Calls Try.prog 23 #[.pointer (some ⟨r, 0, none⟩), .int .u64 at', .int .i64 id] w fun e w' => e = .returned (.int .i64 14) ∧ w = w' := by
  have HF := rfind_any h hn id
  unfold idI at HF
  rw [if_pos hb] at HF
  obtain ⟨q, hq⟩ : ∃ q, q = idAt id l := ⟨_, rfl⟩
  rw [← hq] at HF
  have h0 : (0 : Int) ≤ (q : Int) := by omega
  clear hq hb h
  go_enter Try.func23, Try.ntmps23
  go_wp2_with (go_at_call 36; refine HF.mono ?_; rintro e w' ⟨rfl, rfl⟩)
  go_ret
  exact ⟨rfl, rfl⟩
set_option maxHeartbeats 40000000 in
set_option maxRecDepth 100000 in
theorem rput_new {w : World} {r : Nat} {S : List Nat} {l : List (Int × Int)} (h : RefAt w r S l) (hn : l.length ≤ 100000) (at' id : Int) (hb : hasP id l = false) :
    Calls Try.prog 23 #[.pointer (some ⟨r, 0, none⟩), .int .u64 at', .int .i64 id] w fun e w' => e = .returned (.int .i64 0) ∧ RTurns r S (insP l (at', id)) w w' := by
  have HF := rfind_any h hn id
  unfold idI at HF
  rw [if_neg (by simp [hb])] at HF
  obtain ⟨V, hB, hR, hS⟩ := h
  have HG := Lib.hid (show r ∈ S by rw [hS]; simp)
  obtain ⟨A, c, rfl, hnc, hcm, _, hA, _⟩ := _root_.id hR
  have HC := Lib.hid hR.nm
  have c0 := hB.cell 0
  have f0 := hB.frozen 0
  have lr := hB.lt
  obtain ⟨n, hnl⟩ : ∃ n, n = l.length := ⟨_, rfl⟩
  simp only [List.getElem?_toArray, List.getElem?_cons_zero, ← hnl] at c0
  rw [← hnl] at hn hnc hR hB
  have HB := Lib.hid hB
  have HR := Lib.hid hR
  have HN := Lib.hid hnl
  have HA := Lib.hid hA
  have hc63 : c ≤ 9223372036854775807 := by unfold maxLen at hcm; exact hcm
  clear hB hR hnl hS hb hA hcm
  go_enter Try.func23, Try.ntmps23
  go_wp2_with (go_at_call 36; refine HF.mono ?_; rintro e w' ⟨rfl, rfl⟩)
  go_loop [7] (fun i => ∃ k : Nat, k ≤ n ∧ i = .int .i64 k ∧ Hid (∀ j (y : Int × Int), j < k → l[j]? = some y → y.1 ≤ at')) (fun i => n - (intOf' i).toNat)
  case atStart => exact ⟨0, Nat.zero_le _, rfl, Lib.hid fun j y hj => by omega⟩
  case round =>
    obtain ⟨k, hk, rfl, HE⟩ := hrel
    by_cases hlt : k < n
    · obtain ⟨y, hy⟩ : ∃ y, l[k]? = some y := ⟨_, List.getElem?_eq_getElem (by rw [← HN.out]; exact hlt)⟩
      obtain ⟨b, o, rfl, _, p0, p1⟩ := HC.out k y hy
      have HY := Lib.hid hy
      have k0 : (0 : Int) ≤ (k : Int) := by omega
      have k1 : (k : Int) < (n : Int) := by omega
      clear hy
      by_cases hle : y.1 ≤ at'
      · have HX := Lib.hid hle
        go_wp2
        go_round
        case rel =>
          refine ⟨k + 1, by omega, by go_num, Lib.hid fun j z hj hz => ?_⟩
          by_cases e : j = k
          · subst e
            rw [HY.out] at hz
            cases hz
            exact HX.out
          · exact HE.out j z (by omega) hz
        case measure => simp [intOf']; omega
      · have HIns := Lib.hid (insP_at (x := (at', id)) (l := l) (k := k) HE.out (.inr ⟨y, HY.out, hle⟩))
        have H1 := Lib.hid (HR.out.first (i := k) (by omega))
        have H3 := Lib.hid (HR.out.rest (i := k) (by omega))
        obtain ⟨q, hq⟩ : ∃ q, q = n - k := ⟨_, rfl⟩
        rw [← hq] at H3
        have hqq : k + 1 + q ≤ 1000000 := by omega
        have hq0 : k + 1 ≤ 1000000 := by omega
        have hq2 : 0 + k ≤ 1000000 := by omega
        have hne : c ≠ k := by omega
        have hne2 : ¬ (c - k = 0) := by omega
        have i2 : (k : Int) ≤ (c : Int) := by omega
        have i3 : (k : Int) ≤ (n : Int) := by omega
        have i4 : (n : Int) - (k : Int) = (q : Int) := by omega
        have i5 : n - k = q := by omega
        clear hq
        go_wp2
        go_region_law
          (first
            | (refine step_append_rs (xs := []) (n := 0) (m := k) (N := k) _ (by rfl) _ _ (by rfl) (by rfl) (by rfl) (Row.nil _ _ _) (H1.out.quiet (Chg.refl _ _).drew) (by omega) (by omega) ?_; intro A1 c1 w1 hr1 hg1 hf1; simp only [List.nil_append] at hr1; have hcA : Chg [] w w1 := ((Chg.refl _ _).drew).grown hg1 (fun z hk => by cases hk); have hfA : ∀ z ∈ foot (.slice A1 k c1), w.heap.size ≤ z := (fun z hk => (hf1 z hk).elim (fun h => by cases h) (fun h => h)); have g1 := (hcA.cell (p := ⟨r, 0, none⟩) lr (by simp)).trans c0; have n1 := fun o => (((Chg.refl [] w1).alloc o).cell (p := ⟨r, 0, none⟩) (Nat.lt_of_lt_of_le lr hcA.size) (by simp)).trans g1; have HCA := Lib.hid hcA; have HFA := Lib.hid hfA; have HR1 := Lib.hid hr1; clear hg1 hf1 hcA hfA hr1)
            | (refine step_append_rs (xs := []) (n := 0) (m := k) (N := k) _ (by rfl) _ _ (by rfl) (by rfl) (by rfl) (Row.nil _ _ _) (H1.out.quiet ((Chg.refl _ _).alloc _).drew) (by omega) (by omega) ?_; intro A1 c1 w1 hr1 hg1 hf1; simp only [List.nil_append] at hr1; have hcA : Chg [] w w1 := (((Chg.refl _ _).alloc _).drew).grown hg1 (fun z hk => by cases hk); have hfA : ∀ z ∈ foot (.slice A1 k c1), w.heap.size ≤ z := (fun z hk => (hf1 z hk).elim (fun h => by cases h) (fun h => by simp at h; omega)); have HBK := Lib.hid ((Blk.new w 39 #[.int .u64 at', .int .i64 id]).drew.chg ((Chg.refl [] _).grown hg1 (fun z hk => by cases hk)) (by simp)); have g1 := (hcA.cell (p := ⟨r, 0, none⟩) lr (by simp)).trans c0; have n1 := fun o => (((Chg.refl [] w1).alloc o).cell (p := ⟨r, 0, none⟩) (Nat.lt_of_lt_of_le lr hcA.size) (by simp)).trans g1; have HCA := Lib.hid hcA; have HFA := Lib.hid hfA; have HR1 := Lib.hid hr1; clear hg1 hf1 hcA hfA hr1)
            | (refine step_append_rs (n := k) (m := 1) (N := k + 1) _ (by rfl) _ _ (by rfl) (by rfl) (by rfl) (HR1.out.alloc _) (Rs.one (x := (at', id)) (Blk.new w1 39 _)) (by omega) (by omega) ?_; intro A2 c2 w2 hr2 hg2 hf2; have hcB : Chg [] w w2 := (HCA.out.alloc _).grown hg2 (fun z hk => .inr (HFA.out z (row_mem hk))); have hfB : ∀ z ∈ foot (.slice A2 (k + 1) c2), w.heap.size ≤ z := (fun z hk => (hf2 z hk).elim (fun h => HFA.out z h) (fun h => by have := HCA.out.size; simp at h; omega)); have g2 := (hcB.cell (p := ⟨r, 0, none⟩) lr (by simp)).trans c0; have HCB := Lib.hid hcB; have HFB := Lib.hid hfB; have HR2 := Lib.hid hr2; clear hg2 hf2 hcB hfB hr2)
            | (refine step_append_rs (n := k) (m := 1) (N := k + 1) _ (by rfl) _ _ (by rfl) (by rfl) (by rfl) HR1.out (Rs.one (x := (at', id)) HBK.out) (by omega) (by omega) ?_; intro A2 c2 w2 hr2 hg2 hf2; have hcB : Chg [] w w2 := HCA.out.grown hg2 (fun z hk => .inr (HFA.out z (row_mem hk))); have hfB : ∀ z ∈ foot (.slice A2 (k + 1) c2), w.heap.size ≤ z := (fun z hk => (hf2 z hk).elim (fun h => HFA.out z h) (fun h => by have := HCA.out.size; omega)); have g2 := (hcB.cell (p := ⟨r, 0, none⟩) lr (by simp)).trans c0; have HCB := Lib.hid hcB; have HFB := Lib.hid hfB; have HR2 := Lib.hid hr2; clear hg2 hf2 hcB hfB hr2)
            | (refine step_append_rs (n := k + 1) (m := q) (N := k + 1 + q) _ (by rfl) _ _ (by rfl) (by rfl) (by rfl) HR2.out (H3.out.quiet HCB.out) (by omega) (by omega) ?_; intro A3 c3 w3 hr3 hg3 hf3; have hcC : Chg [] w w3 := HCB.out.grown hg3 (fun z hk => .inr (HFB.out z (row_mem hk))); have e2 := (hcC.cell (p := ⟨r, 0, none⟩) lr (by simp)).trans c0; have e3 := (hcC.frozen (p := ⟨r, 0, none⟩) lr (by simp)).trans f0; have hfC : ∀ z ∈ foot (.slice A3 (k + 1 + q) c3), z ∈ S ∨ w.heap.size ≤ z := (fun z hk => .inr ((hf3 z hk).elim (fun h => HFB.out z h) (fun h => by have := HCB.out.size; omega))); have HCC := Lib.hid hcC; have HFC := Lib.hid hfC; have HR3 := Lib.hid hr3; clear hg3 hf3 hcC hfC hr3))
        all_goals
          go_wp2
          go_ret
          have hrs := Rs.of_row HR3.out
          rw [← HIns.out] at hrs
          have hl9 := hrs.nlen
          rw [hl9] at hrs
          rw [hl9] at HFC ⊢
          exact ⟨rfl, RTurns.put HB.out HG.out HCC.out hrs HFC.out⟩
    · obtain rfl : k = n := by omega
      have HIns := Lib.hid (insP_at (x := (at', id)) (l := l) (k := k) HE.out (.inl HN.out.symm))
      cases A with
      | none =>
        have hz := HA.out rfl
        obtain rfl : k = 0 := by omega
        have H1 := Lib.hid (show Rs w 39 2 (.slice none 0 0) 0 (nms (l.take 0)) from Rs.nil _ _ _)
        have H3 := Lib.hid (show Rs w 39 2 (.slice none 0 0) 0 (nms (l.drop 0)) by rw [List.drop_zero, List.eq_nil_of_length_eq_zero HN.out.symm]; exact Rs.nil _ _ _)
        subst hz
        go_wp2
        go_region_law
          (first
            | (refine step_append_rs (xs := []) (n := 0) (m := 0) (N := 0) _ (by rfl) _ _ (by rfl) (by rfl) (by rfl) (Row.nil _ _ _) (H1.out.quiet (Chg.refl _ _).drew) (by omega) (by omega) ?_; intro A1 c1 w1 hr1 hg1 hf1; simp only [List.nil_append] at hr1; have hcA : Chg [] w w1 := ((Chg.refl _ _).drew).grown hg1 (fun z hk => by cases hk); have hfA : ∀ z ∈ foot (.slice A1 0 c1), w.heap.size ≤ z := (fun z hk => (hf1 z hk).elim (fun h => by cases h) (fun h => h)); have g1 := (hcA.cell (p := ⟨r, 0, none⟩) lr (by simp)).trans c0; have n1 := fun o => (((Chg.refl [] w1).alloc o).cell (p := ⟨r, 0, none⟩) (Nat.lt_of_lt_of_le lr hcA.size) (by simp)).trans g1; have HCA := Lib.hid hcA; have HFA := Lib.hid hfA; have HR1 := Lib.hid hr1; clear hg1 hf1 hcA hfA hr1)
            | (refine step_append_rs (xs := []) (n := 0) (m := 0) (N := 0) _ (by rfl) _ _ (by rfl) (by rfl) (by rfl) (Row.nil _ _ _) (H1.out.quiet ((Chg.refl _ _).alloc _).drew) (by omega) (by omega) ?_; intro A1 c1 w1 hr1 hg1 hf1; simp only [List.nil_append] at hr1; have hcA : Chg [] w w1 := (((Chg.refl _ _).alloc _).drew).grown hg1 (fun z hk => by cases hk); have hfA : ∀ z ∈ foot (.slice A1 0 c1), w.heap.size ≤ z := (fun z hk => (hf1 z hk).elim (fun h => by cases h) (fun h => by simp at h; omega)); have HBK := Lib.hid ((Blk.new w 39 #[.int .u64 at', .int .i64 id]).drew.chg ((Chg.refl [] _).grown hg1 (fun z hk => by cases hk)) (by simp)); have g1 := (hcA.cell (p := ⟨r, 0, none⟩) lr (by simp)).trans c0; have n1 := fun o => (((Chg.refl [] w1).alloc o).cell (p := ⟨r, 0, none⟩) (Nat.lt_of_lt_of_le lr hcA.size) (by simp)).trans g1; have HCA := Lib.hid hcA; have HFA := Lib.hid hfA; have HR1 := Lib.hid hr1; clear hg1 hf1 hcA hfA hr1)
            | (refine step_append_rs (n := 0) (m := 1) (N := 1) _ (by rfl) _ _ (by rfl) (by rfl) (by rfl) (HR1.out.alloc _) (Rs.one (x := (at', id)) (Blk.new w1 39 _)) (by omega) (by omega) ?_; intro A2 c2 w2 hr2 hg2 hf2; have hcB : Chg [] w w2 := (HCA.out.alloc _).grown hg2 (fun z hk => .inr (HFA.out z (row_mem hk))); have hfB : ∀ z ∈ foot (.slice A2 (1) c2), w.heap.size ≤ z := (fun z hk => (hf2 z hk).elim (fun h => HFA.out z h) (fun h => by have := HCA.out.size; simp at h; omega)); have g2 := (hcB.cell (p := ⟨r, 0, none⟩) lr (by simp)).trans c0; have HCB := Lib.hid hcB; have HFB := Lib.hid hfB; have HR2 := Lib.hid hr2; clear hg2 hf2 hcB hfB hr2)
            | (refine step_append_rs (n := 0) (m := 1) (N := 1) _ (by rfl) _ _ (by rfl) (by rfl) (by rfl) HR1.out (Rs.one (x := (at', id)) HBK.out) (by omega) (by omega) ?_; intro A2 c2 w2 hr2 hg2 hf2; have hcB : Chg [] w w2 := HCA.out.grown hg2 (fun z hk => .inr (HFA.out z (row_mem hk))); have hfB : ∀ z ∈ foot (.slice A2 (1) c2), w.heap.size ≤ z := (fun z hk => (hf2 z hk).elim (fun h => HFA.out z h) (fun h => by have := HCA.out.size; omega)); have g2 := (hcB.cell (p := ⟨r, 0, none⟩) lr (by simp)).trans c0; have HCB := Lib.hid hcB; have HFB := Lib.hid hfB; have HR2 := Lib.hid hr2; clear hg2 hf2 hcB hfB hr2)
            | (refine step_append_rs (n := 1) (m := 0) (N := 1) _ (by rfl) _ _ (by rfl) (by rfl) (by rfl) HR2.out (H3.out.quiet HCB.out) (by omega) (by omega) ?_; intro A3 c3 w3 hr3 hg3 hf3; have hcC : Chg [] w w3 := HCB.out.grown hg3 (fun z hk => .inr (HFB.out z (row_mem hk))); have e2 := (hcC.cell (p := ⟨r, 0, none⟩) lr (by simp)).trans c0; have e3 := (hcC.frozen (p := ⟨r, 0, none⟩) lr (by simp)).trans f0; have hfC : ∀ z ∈ foot (.slice A3 (1) c3), z ∈ S ∨ w.heap.size ≤ z := (fun z hk => .inr ((hf3 z hk).elim (fun h => HFB.out z h) (fun h => by have := HCB.out.size; omega))); have HCC := Lib.hid hcC; have HFC := Lib.hid hfC; have HR3 := Lib.hid hr3; clear hg3 hf3 hcC hfC hr3))
        all_goals
          go_wp2
          go_ret
          have hrs := Rs.of_row HR3.out
          rw [← HIns.out] at hrs
          have hl9 := hrs.nlen
          rw [hl9] at hrs
          rw [hl9] at HFC ⊢
          exact ⟨rfl, RTurns.put HB.out HG.out HCC.out hrs HFC.out⟩
      | some a =>
        obtain ⟨b, o, rfl⟩ : ∃ b o, a = ⟨b, o, none⟩ := by
          obtain ⟨A', c', hv, _, _, _, _, h4⟩ := HR.out
          injection hv with hv
          obtain ⟨b, o, _, h5, _⟩ := h4 a hv.symm
          exact ⟨b, o, h5⟩
        have H1 := Lib.hid (HR.out.first (i := k) (by omega))
        have i2 : (k : Int) ≤ (c : Int) := by omega
        have i0 : (0 : Int) ≤ (k : Int) := by omega
        have hdr := Lib.hid (show l.drop k = [] by rw [HN.out]; exact List.drop_length)
        by_cases hck : c = k
        · subst hck
          have H3 := Lib.hid (HR.out.none_)
          rw [← hdr.out] at H3
          go_wp2
          go_region_law
            (first
              | (refine step_append_rs (xs := []) (n := 0) (m := c) (N := c) _ (by rfl) _ _ (by rfl) (by rfl) (by rfl) (Row.nil _ _ _) (H1.out.quiet (Chg.refl _ _).drew) (by omega) (by omega) ?_; intro A1 c1 w1 hr1 hg1 hf1; simp only [List.nil_append] at hr1; have hcA : Chg [] w w1 := ((Chg.refl _ _).drew).grown hg1 (fun z hk => by cases hk); have hfA : ∀ z ∈ foot (.slice A1 c c1), w.heap.size ≤ z := (fun z hk => (hf1 z hk).elim (fun h => by cases h) (fun h => h)); have g1 := (hcA.cell (p := ⟨r, 0, none⟩) lr (by simp)).trans c0; have n1 := fun o => (((Chg.refl [] w1).alloc o).cell (p := ⟨r, 0, none⟩) (Nat.lt_of_lt_of_le lr hcA.size) (by simp)).trans g1; have HCA := Lib.hid hcA; have HFA := Lib.hid hfA; have HR1 := Lib.hid hr1; clear hg1 hf1 hcA hfA hr1)
              | (refine step_append_rs (xs := []) (n := 0) (m := c) (N := c) _ (by rfl) _ _ (by rfl) (by rfl) (by rfl) (Row.nil _ _ _) (H1.out.quiet ((Chg.refl _ _).alloc _).drew) (by omega) (by omega) ?_; intro A1 c1 w1 hr1 hg1 hf1; simp only [List.nil_append] at hr1; have hcA : Chg [] w w1 := (((Chg.refl _ _).alloc _).drew).grown hg1 (fun z hk => by cases hk); have hfA : ∀ z ∈ foot (.slice A1 c c1), w.heap.size ≤ z := (fun z hk => (hf1 z hk).elim (fun h => by cases h) (fun h => by simp at h; omega)); have HBK := Lib.hid ((Blk.new w 39 #[.int .u64 at', .int .i64 id]).drew.chg ((Chg.refl [] _).grown hg1 (fun z hk => by cases hk)) (by simp)); have g1 := (hcA.cell (p := ⟨r, 0, none⟩) lr (by simp)).trans c0; have n1 := fun o => (((Chg.refl [] w1).alloc o).cell (p := ⟨r, 0, none⟩) (Nat.lt_of_lt_of_le lr hcA.size) (by simp)).trans g1; have HCA := Lib.hid hcA; have HFA := Lib.hid hfA; have HR1 := Lib.hid hr1; clear hg1 hf1 hcA hfA hr1)
              | (refine step_append_rs (n := c) (m := 1) (N := c + 1) _ (by rfl) _ _ (by rfl) (by rfl) (by rfl) (HR1.out.alloc _) (Rs.one (x := (at', id)) (Blk.new w1 39 _)) (by omega) (by omega) ?_; intro A2 c2 w2 hr2 hg2 hf2; have hcB : Chg [] w w2 := (HCA.out.alloc _).grown hg2 (fun z hk => .inr (HFA.out z (row_mem hk))); have hfB : ∀ z ∈ foot (.slice A2 (c + 1) c2), w.heap.size ≤ z := (fun z hk => (hf2 z hk).elim (fun h => HFA.out z h) (fun h => by have := HCA.out.size; simp at h; omega)); have g2 := (hcB.cell (p := ⟨r, 0, none⟩) lr (by simp)).trans c0; have HCB := Lib.hid hcB; have HFB := Lib.hid hfB; have HR2 := Lib.hid hr2; clear hg2 hf2 hcB hfB hr2)
              | (refine step_append_rs (n := c) (m := 1) (N := c + 1) _ (by rfl) _ _ (by rfl) (by rfl) (by rfl) HR1.out (Rs.one (x := (at', id)) HBK.out) (by omega) (by omega) ?_; intro A2 c2 w2 hr2 hg2 hf2; have hcB : Chg [] w w2 := HCA.out.grown hg2 (fun z hk => .inr (HFA.out z (row_mem hk))); have hfB : ∀ z ∈ foot (.slice A2 (c + 1) c2), w.heap.size ≤ z := (fun z hk => (hf2 z hk).elim (fun h => HFA.out z h) (fun h => by have := HCA.out.size; omega)); have g2 := (hcB.cell (p := ⟨r, 0, none⟩) lr (by simp)).trans c0; have HCB := Lib.hid hcB; have HFB := Lib.hid hfB; have HR2 := Lib.hid hr2; clear hg2 hf2 hcB hfB hr2)
              | (refine step_append_rs (n := c + 1) (m := 0) (N := c + 1) _ (by rfl) _ _ (by rfl) (by rfl) (by rfl) HR2.out (H3.out.quiet HCB.out) (by omega) (by omega) ?_; intro A3 c3 w3 hr3 hg3 hf3; have hcC : Chg [] w w3 := HCB.out.grown hg3 (fun z hk => .inr (HFB.out z (row_mem hk))); have e2 := (hcC.cell (p := ⟨r, 0, none⟩) lr (by simp)).trans c0; have e3 := (hcC.frozen (p := ⟨r, 0, none⟩) lr (by simp)).trans f0; have hfC : ∀ z ∈ foot (.slice A3 (c + 1) c3), z ∈ S ∨ w.heap.size ≤ z := (fun z hk => .inr ((hf3 z hk).elim (fun h => HFB.out z h) (fun h => by have := HCB.out.size; omega))); have HCC := Lib.hid hcC; have HFC := Lib.hid hfC; have HR3 := Lib.hid hr3; clear hg3 hf3 hcC hfC hr3))
          all_goals
            go_wp2
            go_ret
            have hrs := Rs.of_row HR3.out
            rw [← HIns.out] at hrs
            have hl9 := hrs.nlen
            rw [hl9] at hrs
            rw [hl9] at HFC ⊢
            exact ⟨rfl, RTurns.put HB.out HG.out HCC.out hrs HFC.out⟩
        · have H3 := Lib.hid (HR.out.rest (i := k) (by omega))
          rw [Nat.sub_self] at H3
          have hne2 : ¬ (c - k = 0) := by omega
          go_wp2
          go_region_law
            (first
              | (refine step_append_rs (xs := []) (n := 0) (m := k) (N := k) _ (by rfl) _ _ (by rfl) (by rfl) (by rfl) (Row.nil _ _ _) (H1.out.quiet (Chg.refl _ _).drew) (by omega) (by omega) ?_; intro A1 c1 w1 hr1 hg1 hf1; simp only [List.nil_append] at hr1; have hcA : Chg [] w w1 := ((Chg.refl _ _).drew).grown hg1 (fun z hk => by cases hk); have hfA : ∀ z ∈ foot (.slice A1 k c1), w.heap.size ≤ z := (fun z hk => (hf1 z hk).elim (fun h => by cases h) (fun h => h)); have g1 := (hcA.cell (p := ⟨r, 0, none⟩) lr (by simp)).trans c0; have n1 := fun o => (((Chg.refl [] w1).alloc o).cell (p := ⟨r, 0, none⟩) (Nat.lt_of_lt_of_le lr hcA.size) (by simp)).trans g1; have HCA := Lib.hid hcA; have HFA := Lib.hid hfA; have HR1 := Lib.hid hr1; clear hg1 hf1 hcA hfA hr1)
              | (refine step_append_rs (xs := []) (n := 0) (m := k) (N := k) _ (by rfl) _ _ (by rfl) (by rfl) (by rfl) (Row.nil _ _ _) (H1.out.quiet ((Chg.refl _ _).alloc _).drew) (by omega) (by omega) ?_; intro A1 c1 w1 hr1 hg1 hf1; simp only [List.nil_append] at hr1; have hcA : Chg [] w w1 := (((Chg.refl _ _).alloc _).drew).grown hg1 (fun z hk => by cases hk); have hfA : ∀ z ∈ foot (.slice A1 k c1), w.heap.size ≤ z := (fun z hk => (hf1 z hk).elim (fun h => by cases h) (fun h => by simp at h; omega)); have HBK := Lib.hid ((Blk.new w 39 #[.int .u64 at', .int .i64 id]).drew.chg ((Chg.refl [] _).grown hg1 (fun z hk => by cases hk)) (by simp)); have g1 := (hcA.cell (p := ⟨r, 0, none⟩) lr (by simp)).trans c0; have n1 := fun o => (((Chg.refl [] w1).alloc o).cell (p := ⟨r, 0, none⟩) (Nat.lt_of_lt_of_le lr hcA.size) (by simp)).trans g1; have HCA := Lib.hid hcA; have HFA := Lib.hid hfA; have HR1 := Lib.hid hr1; clear hg1 hf1 hcA hfA hr1)
              | (refine step_append_rs (n := k) (m := 1) (N := k + 1) _ (by rfl) _ _ (by rfl) (by rfl) (by rfl) (HR1.out.alloc _) (Rs.one (x := (at', id)) (Blk.new w1 39 _)) (by omega) (by omega) ?_; intro A2 c2 w2 hr2 hg2 hf2; have hcB : Chg [] w w2 := (HCA.out.alloc _).grown hg2 (fun z hk => .inr (HFA.out z (row_mem hk))); have hfB : ∀ z ∈ foot (.slice A2 (k + 1) c2), w.heap.size ≤ z := (fun z hk => (hf2 z hk).elim (fun h => HFA.out z h) (fun h => by have := HCA.out.size; simp at h; omega)); have g2 := (hcB.cell (p := ⟨r, 0, none⟩) lr (by simp)).trans c0; have HCB := Lib.hid hcB; have HFB := Lib.hid hfB; have HR2 := Lib.hid hr2; clear hg2 hf2 hcB hfB hr2)
              | (refine step_append_rs (n := k) (m := 1) (N := k + 1) _ (by rfl) _ _ (by rfl) (by rfl) (by rfl) HR1.out (Rs.one (x := (at', id)) HBK.out) (by omega) (by omega) ?_; intro A2 c2 w2 hr2 hg2 hf2; have hcB : Chg [] w w2 := HCA.out.grown hg2 (fun z hk => .inr (HFA.out z (row_mem hk))); have hfB : ∀ z ∈ foot (.slice A2 (k + 1) c2), w.heap.size ≤ z := (fun z hk => (hf2 z hk).elim (fun h => HFA.out z h) (fun h => by have := HCA.out.size; omega)); have g2 := (hcB.cell (p := ⟨r, 0, none⟩) lr (by simp)).trans c0; have HCB := Lib.hid hcB; have HFB := Lib.hid hfB; have HR2 := Lib.hid hr2; clear hg2 hf2 hcB hfB hr2)
              | (refine step_append_rs (n := k + 1) (m := 0) (N := k + 1) _ (by rfl) _ _ (by rfl) (by rfl) (by rfl) HR2.out (H3.out.quiet HCB.out) (by omega) (by omega) ?_; intro A3 c3 w3 hr3 hg3 hf3; have hcC : Chg [] w w3 := HCB.out.grown hg3 (fun z hk => .inr (HFB.out z (row_mem hk))); have e2 := (hcC.cell (p := ⟨r, 0, none⟩) lr (by simp)).trans c0; have e3 := (hcC.frozen (p := ⟨r, 0, none⟩) lr (by simp)).trans f0; have hfC : ∀ z ∈ foot (.slice A3 (k + 1) c3), z ∈ S ∨ w.heap.size ≤ z := (fun z hk => .inr ((hf3 z hk).elim (fun h => HFB.out z h) (fun h => by have := HCB.out.size; omega))); have HCC := Lib.hid hcC; have HFC := Lib.hid hfC; have HR3 := Lib.hid hr3; clear hg3 hf3 hcC hfC hr3))
          all_goals
            go_wp2
            go_ret
            have hrs := Rs.of_row HR3.out
            rw [← HIns.out] at hrs
            have hl9 := hrs.nlen
            rw [hl9] at hrs
            rw [hl9] at HFC ⊢
            exact ⟨rfl, RTurns.put HB.out HG.out HCC.out hrs HFC.out⟩
end Go.Proofs
