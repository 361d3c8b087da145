import Derived.Test.YtocdkomjdcccoaaReQ
namespace Go.Proofs
open Go.RowKit
set_option linter.unusedVariables false

/-- What is there of the list Due is what was there. -/
theorem due_first {l : List Rf} (hm : mayP l = true) {now : Int} (h0 : 0 < dueN l now) : aheadP l (dueN l now) ≤ now := by
  have hle := dueN_le l now
  obtain ⟨x, hx⟩ : ∃ x, l[dueN l now - 1]? = some x := ⟨_, List.getElem?_eq_getElem (by omega)⟩
  have := aheadP_succ hx
  rw [show dueN l now - 1 + 1 = dueN l now by omega] at this
  rw [this]
  exact (due_split (mayP_iff.1 hm).2 hx).2 (by omega)
theorem late_rest {l : List Rf} (hf : fineP l = true) (now : Int) : ∀ x ∈ l.drop (dueN l now), now < x.2 := by
  intro x hx
  obtain ⟨j, hj, hje⟩ := List.mem_iff_getElem.1 hx
  rw [List.length_drop] at hj
  rw [List.getElem_drop] at hje
  refine Int.not_le.1 (fun hc => ?_)
  have := (due_split (now := now) hf (List.getElem?_eq_getElem (by omega : dueN l now + j < l.length))).1 (by rw [hje]; exact hc)
  omega
theorem thereL_late {l : List Rf} {now : Int} (h : ∀ x ∈ l, now < x.2) : thereL l now = [] := by
  unfold thereL
  rw [List.filter_eq_nil_iff]
  intro x hx hc
  have h1 := h x hx
  have h2 : x.2 ≤ now := by simpa using hc
  omega
theorem thereL_cons {x : Rf} {l : List Rf} {now : Int} (h : x.2 ≤ now) : thereL (x :: l) now = x :: thereL l now := by
  unfold thereL
  rw [List.filter_cons, if_pos (by simpa using h)]
theorem there_due {l : List Rf} (hk : Ok l) (hm : mayP l = true) (now : Int) : thereP (dueL l now) now = thereP l now := by
  by_cases h0 : dueN l now = 0
  · rw [show dueL l now = l by unfold dueL; rw [if_pos h0]]
  · obtain ⟨h1, h2⟩ := mayP_iff.1 hm
    have hle := sumP_le hk (dueN l now)
    rw [thereP_fine hk hm]
    have e : thereL (dueL l now) now = [(sumP (l.take (dueN l now)), aheadP l (dueN l now))] := by
      unfold dueL
      rw [if_neg h0, thereL_cons (due_first hm (by omega)), thereL_late (late_rest h2 now)]
    unfold thereP
    rw [e, (sum_all (l := [(sumP (l.take (dueN l now)), aheadP l (dueN l now))]) (by simp [sumP]; omega)).1]
    simp [sumP]
def incP : List Rf → Int → List Rf
  | [], _ => []
  | (a, t) :: r, m => (a + m, t) :: r
def giveP (l : List Rf) (now m most : Int) : List Rf × Int :=
  if mayP l = false ∨ m = 0 ∨ holdsP l most = false then ([], 2)
  else if ¬ sumP l + m < 18446744073709551616 then ([], 6)
  else if 1 ≤ thereP l now then (incP (dueL l now) m, 0)
  else if (l.length : Int) = most then ([], 3)
  else ((m, now) :: l, 0)
theorem due_none {l : List Rf} (hk : Ok l) (hm : mayP l = true) {now : Int} (h : ¬ 1 ≤ thereP l now) : dueL l now = l ∧ thereP l now = 0 := by
  rw [thereP_fine hk hm] at h ⊢
  have h0 : dueN l now = 0 := by
    refine Classical.byContradiction (fun e => h ?_)
    exact due_sum hk (mayP_iff.1 hm).2 (by omega) (dueN_le l now)
  refine ⟨by unfold dueL; rw [if_pos h0], by rw [h0]; simp [sumP]⟩
end Go.Proofs
