import Derived.Test.YtoddffpbbnicpaaRuX
namespace Go.Proofs
open Go.RowKit
set_option linter.unusedVariables false

theorem findI_yes {x : Int} {l : List Int} (h : findAt x l < l.length) : findI x l = (findAt x l : Nat) := by unfold findI; rw [if_pos h]
theorem findI_no {x : Int} {l : List Int} (h : ¬ findAt x l < l.length) : findI x l = -1 := by unfold findI; rw [if_neg h]
theorem find_opt (N : Option Int) (x : Int) : findAt x N.toList < N.toList.length ↔ N = some x := by
  cases N with
  | none => simp [findAt]
  | some y =>
    by_cases e : y = x
    · simp [findAt, e]
    · simp [findAt, e]
section
variable {w : World} {r : Nat} {S : List Nat} {M : Nat} {L : List Int} {N : Option Int}
theorem rhas_any (h : RefAt w r S M L N) (hl : L.length ≤ 8192) (x : Int) :
    Calls Try.prog 31 #[.pointer (some ⟨r, 0, none⟩), .int .i64 x] w fun e w' => e = .returned (.bool (hasQ L N x)) ∧ w = w' := by
  obtain ⟨VL, VN, hB, hR, hN, hS⟩ := id h
  have k0 := hB.cell 0
  have k2 := hB.cell 2
  have fL := rfind_any hR hl x
  have fN := rfind_any hN (by cases N <;> simp) x
  unfold hasQ
  obtain ⟨A, c, rfl, _⟩ := hR.open_
  obtain ⟨A2, c2, rfl, _⟩ := hN.open_
  by_cases hx : N = some x
  · rw [decide_eq_true hx, Bool.true_or]
    rw [findI_yes ((find_opt N x).2 hx)] at fN
    obtain ⟨i, hi⟩ : ∃ i, i = findAt x N.toList := ⟨_, rfl⟩
    rw [← hi] at fN
    have i0 : (0 : Int) ≤ (i : Int) := by omega
    clear hB hR hN hS h fL hx hi
    go_enter Try.func31, Try.ntmps31
    go_wp2_with (go_at_call 55; refine fN.mono ?_; rintro e w' ⟨rfl, rfl⟩)
    go_ret
    exact ⟨rfl, rfl⟩
  · rw [decide_eq_false hx, Bool.false_or]
    rw [findI_no (fun h => hx ((find_opt N x).1 h))] at fN
    by_cases hy : findAt x L < L.length
    · rw [decide_eq_true hy]
      rw [findI_yes hy] at fL
      obtain ⟨i, hi⟩ : ∃ i, i = findAt x L := ⟨_, rfl⟩
      rw [← hi] at fL
      have i0 : (0 : Int) ≤ (i : Int) := by omega
      clear hB hR hN hS h hx hi hy
      go_enter Try.func31, Try.ntmps31
      go_wp2_with (first
        | (go_at_call 55; ((with_reducible refine fN.mono ?_); rintro e w' ⟨rfl, rfl⟩))
        | (go_at_call 55; ((with_reducible refine fL.mono ?_); rintro e w' ⟨rfl, rfl⟩)))
      go_ret
      exact ⟨rfl, rfl⟩
    · rw [decide_eq_false hy]
      rw [findI_no hy] at fL
      clear hB hR hN hS h hx hy
      go_enter Try.func31, Try.ntmps31
      go_wp2_with (first
        | (go_at_call 55; ((with_reducible refine fN.mono ?_); rintro e w' ⟨rfl, rfl⟩))
        | (go_at_call 55; ((with_reducible refine fL.mono ?_); rintro e w' ⟨rfl, rfl⟩)))
      go_ret
      exact ⟨rfl, rfl⟩
set_option maxHeartbeats 1600000 in
theorem rremove_any (h : RefAt w r S M L N) (hl : L.length ≤ 8192) (x : Int) :
    Calls Try.prog 35 #[.pointer (some ⟨r, 0, none⟩), .int .i64 x] w fun e w' => e = .returned (.bool (hasQ L N x)) ∧ RTurns r S M (remL L N x) (remN N x) w w' := by
  obtain ⟨VL, VN, hB, hR, hN, hS⟩ := id h
  have k0 := hB.cell 0
  have k2 := hB.cell 2
  have f0 := hB.frozen 0
  have f2 := hB.frozen 2
  have lr := hB.lt
  have fL := rfind_any hR hl x
  have fN := rfind_any hN (by cases N <;> simp) x
  unfold hasQ remL remN
  obtain ⟨A, c, rfl, _⟩ := hR.open_
  obtain ⟨A2, c2, rfl, _⟩ := hN.open_
  have HH := Lib.hid h
  by_cases hx : N = some x
  · rw [decide_eq_true hx, Bool.true_or, if_pos hx, if_pos hx]
    rw [findI_yes ((find_opt N x).2 hx)] at fN
    obtain ⟨i, hi⟩ : ∃ i, i = findAt x N.toList := ⟨_, rfl⟩
    rw [← hi] at fN
    have i0 : (0 : Int) ≤ (i : Int) := by omega
    have HT := Lib.hid (RTurns.setN (V := .slice none 0 0) (N' := none) hB hR hS (Chg.refl _ _) (Rd.nil _) (fun k hk => by cases hk))
    clear hB hR hN hS h fL hx hi
    go_enter Try.func35, Try.ntmps35
    go_wp2_with (go_at_call 55; refine fN.mono ?_; rintro e w' ⟨rfl, rfl⟩)
    go_ret
    exact ⟨rfl, HT.out⟩
  · rw [decide_eq_false hx, Bool.false_or, if_neg hx, if_neg hx]
    rw [findI_no (fun h => hx ((find_opt N x).1 h))] at fN
    by_cases hy : findAt x L < L.length
    · rw [decide_eq_true hy]
      rw [findI_yes hy] at fL
      have hcut := cut_any hR hl (findAt x L) hy
      obtain ⟨i, hi⟩ : ∃ i, i = findAt x L := ⟨_, rfl⟩
      rw [← hi] at fL hcut ⊢
      have i0 : (0 : Int) ≤ (i : Int) := by omega
      have i1 : ¬ ((i : Int) < 0) := by omega
      have HT := Lib.hid (fun w1 V (hf : Fresh w w1 V (L.eraseIdx i)) => RTurns.setL hB hN hS hf.2.2 hf.rd (fun k hk => .inr (hf.2.1 k hk)))
      clear hB hR hN hS h hx hi hy
      go_enter Try.func35, Try.ntmps35
      go_wp2_with (first
        | (go_at_call 55; ((with_reducible refine fN.mono ?_); rintro e w' ⟨rfl, rfl⟩))
        | (go_at_call 55; ((with_reducible refine fL.mono ?_); rintro e w' ⟨rfl, rfl⟩))
        | (go_at_call 56; refine hcut.mono ?_; rintro e w1 ⟨v, rfl, hf⟩; have e2 := (hf.2.2.cell (p := ⟨r, 0, none⟩) lr (by simp)).trans k0; have e3 := (hf.2.2.frozen (p := ⟨r, 0, none⟩) lr (by simp)).trans f0; obtain ⟨A3, c3, rfl, _⟩ := hf.1.val; have HF := Lib.hid (HT.out _ _ hf); clear hf))
      go_ret
      exact ⟨rfl, HF.out⟩
    · rw [decide_eq_false hy, eraseIdx_none hy]
      rw [findI_no hy] at fL
      clear hB hR hN hS h hx hy
      go_enter Try.func35, Try.ntmps35
      go_wp2_with (first
        | (go_at_call 55; ((with_reducible refine fN.mono ?_); rintro e w' ⟨rfl, rfl⟩))
        | (go_at_call 55; ((with_reducible refine fL.mono ?_); rintro e w' ⟨rfl, rfl⟩)))
      go_ret
      exact ⟨rfl, RTurns.refl HH.out (Chg.refl _ _)⟩
end
end Go.Proofs
