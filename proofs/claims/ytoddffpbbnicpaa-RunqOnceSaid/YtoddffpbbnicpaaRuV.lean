import Derived.Test.YtoddffpbbnicpaaRuU
namespace Go.Proofs
open Go.RowKit
set_option linter.unusedVariables false

section
variable {w : World} {r : Nat} {S : List Nat} {M : Nat} {L : List Int} {N : Option Int}
set_option maxHeartbeats 3200000 in
theorem rput_full (h : RefAt w r S M L N) (x : Int) (hm : L.length = M) (h2 : 2 ≤ M) (hl : M ≤ 4096) :
    Calls Try.prog 32 #[.pointer (some ⟨r, 0, none⟩), .int .i64 x] w fun e w' => ∃ v, e = .returned v ∧ RTold r S M v (putS M L x) (putL M L x) N w w' := by
  unfold putS putL
  rw [if_neg (by omega), if_neg (by omega), hm]
  obtain ⟨VL, VN, hB, hR, hN, hS⟩ := h
  obtain ⟨A, c, rfl, hlc, hcm, hA, _⟩ := hR.open_
  obtain ⟨A2, c2, rfl, _⟩ := hN.open_
  have c0 := hB.cell 0
  have c1 := hB.cell 1
  have f0 := hB.frozen 0
  have lr := hB.lt
  rw [hm] at c0 hlc hB hR hS
  obtain ⟨b1, b2⟩ := halfN_bd M h2
  have hee := Lib.hid (show (M : Int) / 2 + (M : Int) % 2 = (halfN M : Nat) by unfold halfN; omega)
  obtain ⟨n, hn⟩ : ∃ n, n = halfN M := ⟨_, rfl⟩
  rw [← hn] at b1 b2 hee ⊢
  obtain ⟨a, rfl⟩ : ∃ a, A = some a := by
    cases A with
    | none => have := hA rfl; omega
    | some a => exact ⟨a, rfl⟩
  obtain ⟨b, o, rfl⟩ := hR.at_
  have F1 := Lib.hid (hR.first (Nat.le_of_lt b2))
  have F2 := Lib.hid (hR.rest (Nat.le_of_lt b2) (by omega))
  have L1 := Lib.hid (show (L.take n).length = n by rw [List.length_take]; omega)
  have L2 := Lib.hid (show (L.drop n).length = M - n by rw [List.length_drop]; omega)
  have HB := Lib.hid hB
  have HR := Lib.hid hR
  have HNN := Lib.hid hN
  have HS := Lib.hid hS
  have hmm : ¬ ((M : Int) < (M : Int)) := by omega
  have i0 : (0 : Int) ≤ (n : Int) := by omega
  have i1 : (n : Int) ≤ (c : Int) := by omega
  have i2 : (n : Int) ≤ (M : Int) := by omega
  have i3 : (M : Int) ≤ (c : Int) := by omega
  have hne : c ≠ n := by omega
  have hc63 : c ≤ 9223372036854775807 := by unfold maxLen at hcm; exact hcm
  clear hB hR hN hn hS hm hcm hA
  go_enter Try.func32, Try.ntmps32
  go_wp2
  go_quiet (fail)
  go_wp2
  go_quiet (fail)
  rw [hee.out]
  go_wp2_with (first
    | (at_builtin; refine wpList_append_rs (xs := []) (n := n) _ rfl _ _ rfl (by rfl) (by rfl) (Row.nil _ _ _) (F1.out.quiet ((Chg.refl _ _).drewN _)) (by have := L1.out; simp only [List.length_nil]; omega) (by have := L1.out; simp only [List.length_nil]; omega) ?_; intro A3 c3 w1 hr1 hg1 hf1; simp only [List.nil_append] at hr1; have hcA : Chg [] w w1 := ((Chg.refl _ _).drewN _).grown hg1 (fun k hk => by cases hk); have hfA : ∀ k ∈ foot (.slice A3 n c3), w.heap.size ≤ k := (fun k hk => (hf1 k hk).elim (fun h => by cases h) (fun h => h)); have HCA := Lib.hid hcA; have HFA := Lib.hid hfA; have HR1 := Lib.hid hr1; clear hg1 hf1 hcA hfA hr1)
    | (at_builtin; refine wpList_append_rs (n := n + 1) _ rfl _ _ rfl (by rfl) (by rfl) (HR1.out.alloc _) (Rd.one _ x) (by have := L1.out; simp only [List.length_nil, List.length_cons]; omega) (by have := L1.out; simp only [List.length_nil, List.length_cons]; omega) ?_; intro A4 c4 w2 hr2 hg2 hf2; have hcB : Chg [] w w2 := (HCA.out.alloc _).grown hg2 (fun k hk => .inr (HFA.out k (row_mem hk))); have e2 := (hcB.cell (p := ⟨r, 0, none⟩) lr (by simp)).trans c0; have hfB : ∀ k ∈ foot (.slice A4 (n + 1) c4), w.heap.size ≤ k := (fun k hk => (hf2 k hk).elim (fun h => HFA.out k h) (fun h => by have := HCA.out.size; simp at h; omega)); have HCB := Lib.hid hcB; have HFB := Lib.hid hfB; have HR2 := Lib.hid hr2; clear hg2 hf2 hcB hfB hr2)
    | (at_builtin; refine wpList_append_rs (xs := []) (n := M - n) _ rfl _ _ rfl (by rfl) (by rfl) (Row.nil _ _ _) (F2.out.quiet HCB.out) (by have := L2.out; simp only [List.length_nil]; omega) (by have := L2.out; simp only [List.length_nil]; omega) ?_; intro A5 c5 w3 hr3 hg3 hf3; simp only [List.nil_append] at hr3; have hcC : Chg [] w2 w3 := (Chg.refl _ _).grown hg3 (fun k hk => by cases hk); have e4 := ((HCB.out.then hcC).frozen (p := ⟨r, 0, none⟩) lr (by simp)).trans f0; have e5 := ((HCB.out.then hcC).cell (p := ⟨r, 0, none⟩) lr (by simp)).trans c0; have hfC : ∀ k ∈ foot (.slice A5 (M - n) c5), w.heap.size ≤ k := (fun k hk => (hf3 k hk).elim (fun h => by cases h) (fun h => Nat.le_trans HCB.out.size h)); have HCC := Lib.hid hcC; have HFC := Lib.hid hfC; have HR3 := Lib.hid hr3; clear hg3 hf3 hcC hfC hr3))
  go_ret
  have hT := RTurns.setL HB.out HNN.out HS.out (HCB.out.then HCC.out) (Rd.of_row HR3.out) (fun k hk => .inr (HFC.out k hk))
  refine ⟨_, rfl, ?_, fun k hk => .inr (HFB.out k hk), hT⟩
  exact (Rd.of_row (HR2.out.chg HCC.out (fun _ _ h => by cases h))).same fun k hk => Below.heap_setCell _ _ _ _ (fun e => by have := HFB.out k hk; have e' : k = r := e; omega)
theorem rput_any (h : RefAt w r S M L N) (x : Int) (hm : L.length ≤ M) (h2 : 2 ≤ M) (hl : M ≤ 4096) :
    Calls Try.prog 32 #[.pointer (some ⟨r, 0, none⟩), .int .i64 x] w fun e w' => ∃ v, e = .returned v ∧ RTold r S M v (putS M L x) (putL M L x) N w w' := by
  by_cases h9 : L.length < M
  · exact rput_room h x h9 (by omega)
  · exact rput_full h x (by omega) h2 hl
end
end Go.Proofs
