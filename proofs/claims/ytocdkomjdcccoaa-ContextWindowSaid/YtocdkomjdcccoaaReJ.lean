import Derived.Test.YtocdkomjdcccoaaReI
namespace Go.Proofs
open Go.RowKit
set_option linter.unusedVariables false

set_option maxHeartbeats 3200000 in
set_option maxRecDepth 100000 in
/-- How much is there. -/
theorem there_any {w : World} {v : Value} {l : List Rf} (h : Rd w v l) (hk : Ok l) (hn : l.length ≤ 100000) (now : Int) :
    Calls Try.prog 21 #[v, .int .u64 now] w fun e w' => e = .returned (.int .u64 (thereP l now)) ∧ Chg [] w w' := by
  have hcl := clone_any h hn
  have HT := Lib.hid (hk.there now)
  have HL := Lib.hid (show (thereL l now).length ≤ 100000 by have := List.length_filter_le (fun (x : Rf) => decide (x.2 ≤ now)) l; unfold thereL; omega)
  obtain ⟨A, c, rfl, _⟩ := h.open_
  obtain ⟨n, e1⟩ : ∃ n, n = l.length := ⟨_, rfl⟩
  rw [← e1] at hcl ⊢
  have HN := Lib.hid (show l.length ≤ 100000 from hn)
  obtain ⟨T, hT⟩ : ∃ T, T = thereP l now := ⟨_, rfl⟩
  have HTT := Lib.hid hT
  rw [← hT]
  unfold thereP at HTT
  clear h hk hn hT e1
  obtain ⟨S, hS⟩ : ∃ S, S = sumN (thereL l now) := ⟨_, rfl⟩
  obtain ⟨F, hF⟩ : ∃ S, S = sumF (thereL l now) := ⟨_, rfl⟩
  have HS := Lib.hid hS
  have HF := Lib.hid hF
  clear hS hF
  cases F with
  | true =>
    have HZ := Lib.hid (show S = T by rw [HTT.out, HS.out, ← HF.out]; have := HF.out; unfold sumF at this; unfold sumN; rw [if_pos (by simpa using this.symm)]; rfl)
    go_enter Try.func21, Try.ntmps21
    go_wp2_with (first
      | (go_at_call 40; refine hcl.mono ?_; rintro e w1 ⟨v1, rfl, h1⟩; obtain ⟨A1, c1, rfl, _⟩ := h1.rd.open_; have H1 := Lib.hid h1; clear h1)
      | (go_at_call 41; refine (above_any _ _).mono ?_; rintro e w2 ⟨rfl, q1, q2⟩; have H2 := Lib.hid q1; have H3 := Lib.hid q2; clear q1 q2)
      | (go_at_call 39; refine (delete_above (H1.out.1.quiet H3.out) H2.out HN.out).mono ?_; rintro e w3 ⟨v3, rfl, q1, q2⟩; obtain ⟨A3, c3, rfl, _⟩ := q1.open_; have H4 := Lib.hid q1; have H5 := Lib.hid ((H1.out.2.2.then H3.out).trans q2 (fun k hk => .inr (H1.out.2.1 k hk))); clear q1 q2)
      | (go_at_call 38; refine (sum_any H4.out HT.out HL.out).mono ?_; rintro e w4 ⟨rfl, q1⟩; rw [← HS.out, ← HF.out]; have H6 := Lib.hid q1; clear q1))
    go_ret
    exact ⟨by rw [HZ.out]; rfl, H5.out.then H6.out⟩
  | false =>
    have HZ := Lib.hid (show T = 18446744073709551615 by rw [HTT.out, ← HF.out]; rfl)
    go_enter Try.func21, Try.ntmps21
    go_wp2_with (first
      | (go_at_call 40; refine hcl.mono ?_; rintro e w1 ⟨v1, rfl, h1⟩; obtain ⟨A1, c1, rfl, _⟩ := h1.rd.open_; have H1 := Lib.hid h1; clear h1)
      | (go_at_call 41; refine (above_any _ _).mono ?_; rintro e w2 ⟨rfl, q1, q2⟩; have H2 := Lib.hid q1; have H3 := Lib.hid q2; clear q1 q2)
      | (go_at_call 39; refine (delete_above (H1.out.1.quiet H3.out) H2.out HN.out).mono ?_; rintro e w3 ⟨v3, rfl, q1, q2⟩; obtain ⟨A3, c3, rfl, _⟩ := q1.open_; have H4 := Lib.hid q1; have H5 := Lib.hid ((H1.out.2.2.then H3.out).trans q2 (fun k hk => .inr (H1.out.2.1 k hk))); clear q1 q2)
      | (go_at_call 38; refine (sum_any H4.out HT.out HL.out).mono ?_; rintro e w4 ⟨rfl, q1⟩; rw [← HS.out, ← HF.out]; have H6 := Lib.hid q1; clear q1))
    go_ret
    exact ⟨by rw [HZ.out]; rfl, H5.out.then H6.out⟩
/-! ### Due -/
theorem fine_at {l : List Rf} (h : fineP l = true) {k : Nat} {x : Rf} (hk : l[k]? = some x) : x.1 ≠ 0 ∧ (0 < k → aheadP l k < x.2) := by
  have h1 := fineP_iff.1 h k (List.getElem?_eq_some_iff.1 hk).1
  rw [badP_at hk] at h1
  unfold wrongP at h1
  rw [Bool.or_eq_false_iff] at h1
  refine ⟨by simpa using h1.1, fun h0 => ?_⟩
  have h2 := h1.2
  rw [decide_eq_true h0] at h2
  simp at h2
  exact h2
theorem fine_rises {l : List Rf} (h : fineP l = true) {i j : Nat} {x y : Rf} (hi : l[i]? = some x) (hj : l[j]? = some y) (hij : i < j) : x.2 < y.2 := by
  induction j generalizing y with
  | zero => omega
  | succ j ih =>
    have hjl := (List.getElem?_eq_some_iff.1 hj).1
    obtain ⟨z, hz⟩ : ∃ z, l[j]? = some z := ⟨_, List.getElem?_eq_getElem (by omega)⟩
    have h2 := (fine_at h hj).2 (by omega)
    rw [aheadP_succ hz] at h2
    by_cases e : i = j
    · subst e
      rw [hi] at hz
      cases hz
      exact h2
    · have := ih hz (by omega)
      omega
/-- Whoever is behind one whose time has not come, its time has not come. -/
theorem due_split {l : List Rf} (h : fineP l = true) {now : Int} {k : Nat} {x : Rf} (hk : l[k]? = some x) : x.2 ≤ now ↔ k < dueN l now := by
  have hkl := (List.getElem?_eq_some_iff.1 hk).1
  constructor
  · intro hx
    by_cases hd : dueN l now < l.length
    · obtain ⟨h1, y, hy, h2⟩ := dueN_split hd
      refine Nat.lt_of_not_le (fun hle => ?_)
      by_cases e : dueN l now = k
      · rw [e, hk] at hy; cases hy; omega
      · have := fine_rises h hy hk (by omega); omega
    · omega
  · intro hx
    have h3 := List.not_of_lt_findIdx (xs := l) (p := fun (x : Rf) => decide (now < x.2)) (i := k) hx
    have h4 := (List.getElem?_eq_some_iff.1 hk).2
    rw [h4] at h3
    simpa using h3
/-- The one that those who are there are together, as one; then the others. -/
def dueL (l : List Rf) (now : Int) : List Rf :=
  if dueN l now = 0 then l else (sumP (l.take (dueN l now)), aheadP l (dueN l now)) :: l.drop (dueN l now)
/-- What the document's Due has behind the first k. -/
def rdueK (l : List Rf) (now : Int) : Nat → List Rf
  | 0 => []
  | k + 1 => if 0 < k ∧ ((l[k]?).getD (0, 0)).2 ≤ now then
      (match rdueK l now k with
        | [] => []
        | y :: r => (y.1 + ((l[k]?).getD (0, 0)).1, ((l[k]?).getD (0, 0)).2) :: r)
    else rdueK l now k ++ [(l[k]?).getD (0, 0)]
theorem rdueK_low {l : List Rf} (h : fineP l = true) {now : Int} : ∀ k, 0 < k → k ≤ dueN l now → rdueK l now k = [(sumP (l.take k), aheadP l k)] := by
  intro k
  induction k with
  | zero => intro h0; omega
  | succ k ih =>
    intro _ hk
    have hle := dueN_le l now
    obtain ⟨x, hx⟩ : ∃ x, l[k]? = some x := ⟨_, List.getElem?_eq_getElem (by omega)⟩
    have hxn := (due_split (now := now) h hx).2 (by omega)
    rw [sumP_snoc hx, aheadP_succ hx]
    unfold rdueK
    rw [hx]
    simp only [Option.getD_some]
    by_cases h0 : 0 < k
    · rw [if_pos ⟨h0, hxn⟩, ih h0 (by omega)]
    · obtain rfl : k = 0 := by omega
      rw [if_neg (by omega)]
      simp [rdueK, sumP]
theorem rdueK_high {l : List Rf} (h : fineP l = true) {now : Int} : ∀ k, dueN l now ≤ k → k ≤ l.length → rdueK l now k = (if dueN l now = 0 then [] else [(sumP (l.take (dueN l now)), aheadP l (dueN l now))]) ++ (l.take k).drop (dueN l now) := by
  intro k
  induction k with
  | zero =>
    intro h0 _
    obtain e : dueN l now = 0 := by omega
    rw [e]; simp [rdueK]
  | succ k ih =>
    intro hk hkl
    by_cases e : dueN l now = k + 1
    · rw [rdueK_low h (k + 1) (by omega) (by omega), e, if_neg (by omega), List.drop_eq_nil_of_le (by simp; omega)]
      simp
    · obtain ⟨x, hx⟩ : ∃ x, l[k]? = some x := ⟨_, List.getElem?_eq_getElem (by omega)⟩
      have hxn : ¬ x.2 ≤ now := fun c => by have := (due_split h hx).1 c; omega
      unfold rdueK
      rw [hx]
      simp only [Option.getD_some]
      rw [if_neg (fun c => hxn c.2), ih (by omega) (by omega), take_snoc hx, List.append_assoc]
      congr 1
      rw [List.drop_append_of_le_length (by rw [List.length_take]; omega)]
theorem rdueK_all {l : List Rf} (h : fineP l = true) {now : Int} : rdueK l now l.length = dueL l now := by
  rw [rdueK_high h _ (dueN_le l now) (Nat.le_refl _), List.take_length]
  unfold dueL
  split
  · rename_i e; rw [e]; rfl
  · rfl
theorem mayP_iff {l : List Rf} : mayP l = true ↔ sumP l < 18446744073709551616 ∧ fineP l = true := by
  unfold mayP sumF
  rw [Bool.and_eq_true, decide_eq_true_iff]
theorem Ok.due {l : List Rf} (h : Ok l) (hm : mayP l = true) (now : Int) : Ok (dueL l now) := by
  unfold dueL
  split
  · exact h
  · rename_i e
    have hle := dueN_le l now
    obtain ⟨x, hx⟩ : ∃ x, l[dueN l now - 1]? = some x := ⟨_, List.getElem?_eq_getElem (by omega)⟩
    have ha : aheadP l (dueN l now) = x.2 := by
      have := aheadP_succ hx
      rwa [show dueN l now - 1 + 1 = dueN l now by omega] at this
    refine Ok.cons ⟨sumP_nonneg (h.take _), ?_⟩ (by rw [ha]; exact (h.at hx).2) (h.drop _)
    have := sumP_le h (dueN l now)
    have := (mayP_iff.1 hm).1
    omega
theorem due_len {l : List Rf} (now : Int) : (dueL l now).length ≤ l.length := by
  unfold dueL
  have := dueN_le l now
  split
  · exact Nat.le_refl _
  · simp; omega
end Go.Proofs
