import Derived.Test.YtgdjagbkpdndgaaGaW
namespace Go.Proofs
open Go.RowKit
set_option linter.unusedVariables false

/-! ### Taking again and again, plainly -/
def tks (f : Int → Bool) : Nat → List Int → List Int
  | 0, L => L
  | n + 1, L => tkL f (tks f n L)
section
variable {f : Int → Bool} {y : Int} {l L : List Int}
theorem tkL_yes (h : f y = true) : tkL f (y :: l) = l := by unfold tkL fAt; rw [if_pos h]; rfl
theorem tkL_no (h : f y = false) : tkL f (y :: l) = y :: tkL f l := by unfold tkL; rw [fAt, if_neg (by simp [h])]; rfl
theorem tkV_yes (h : f y = true) : tkV f (y :: l) = y := by unfold tkV fAt; rw [if_pos h]; rfl
theorem tkV_no (h : f y = false) : tkV f (y :: l) = tkV f l := by unfold tkV; rw [fAt, if_neg (by simp [h])]; simp
theorem tkL_nil : tkL f [] = [] := rfl
theorem tkL_rest (L : List Int) : (tkL f L).filter (fun x => !f x) = L.filter (fun x => !f x) := by
  induction L with
  | nil => rfl
  | cons y l ih =>
    cases h : f y with
    | true => rw [tkL_yes h, List.filter_cons]; simp [h]
    | false => rw [tkL_no h, List.filter_cons, List.filter_cons, ih]
theorem tkL_have (L : List Int) : (tkL f L).filter f = (L.filter f).tail := by
  induction L with
  | nil => rfl
  | cons y l ih =>
    cases h : f y with
    | true => rw [tkL_yes h, List.filter_cons]; simp [h]
    | false => rw [tkL_no h, List.filter_cons, List.filter_cons]; simp [h, ih]
theorem tkV_head (L : List Int) : ∀ x xs, L.filter f = x :: xs → tkV f L = x ∧ tkB f L = true := by
  induction L with
  | nil => intro x xs h; simp at h
  | cons y l ih =>
    intro x xs h
    cases hy : f y with
    | true =>
      rw [List.filter_cons, if_pos hy] at h
      injection h with h1 h2
      refine ⟨by rw [tkV_yes hy]; exact h1, ?_⟩
      unfold tkB fAt
      rw [if_pos hy]; simp
    | false =>
      rw [List.filter_cons, if_neg (by simp [hy])] at h
      obtain ⟨h1, h2⟩ := ih x xs h
      refine ⟨by rw [tkV_no hy]; exact h1, ?_⟩
      unfold tkB at h2 ⊢
      rw [fAt, if_neg (by simp [hy])]
      simpa using h2
theorem tkB_none (L : List Int) (h : L.filter f = []) : tkB f L = false := by
  unfold tkB
  rw [decide_eq_false_iff_not]
  intro hl
  obtain ⟨⟨x, h1, h2⟩, _⟩ := fAt_some hl
  have : x ∈ L.filter f := List.mem_filter.2 ⟨List.mem_of_getElem? h1, h2⟩
  rw [h] at this
  cases this
theorem tks_rest (n : Nat) (L : List Int) : (tks f n L).filter (fun x => !f x) = L.filter (fun x => !f x) := by
  induction n with
  | zero => rfl
  | succ n ih => unfold tks; rw [tkL_rest, ih]
theorem tks_have (n : Nat) (L : List Int) : (tks f n L).filter f = (L.filter f).drop n := by
  induction n with
  | zero => rfl
  | succ n ih => unfold tks; rw [tkL_have, ih, List.tail_drop]
theorem tks_len (n : Nat) (L : List Int) : (tks f n L).length ≤ L.length := by
  induction n with
  | zero => exact Nat.le_refl _
  | succ n ih => unfold tks; exact Nat.le_trans (tkL_len _ _) ih
/-- Taken often enough, those are left that may not. -/
theorem tks_all (n : Nat) (L : List Int) (h : L.length ≤ n) : tks f n L = L.filter (fun x => !f x) := by
  rw [← tks_rest n L]
  have h1 : (tks f n L).filter f = [] := by
    rw [tks_have]
    exact List.drop_eq_nil_of_le (Nat.le_trans (List.length_filter_le _ _) h)
  symm
  rw [List.filter_eq_self]
  intro x hx
  cases hf : f x with
  | true =>
    have : x ∈ (tks f n L).filter f := List.mem_filter.2 ⟨hx, hf⟩
    rw [h1] at this; cases this
  | false => rfl
theorem tks_at {n : Nat} {x : Int} (h : (L.filter f)[n]? = some x) : tkV f (tks f n L) = x ∧ tkB f (tks f n L) = true := by
  obtain ⟨hn, hx⟩ := List.getElem?_eq_some_iff.1 h
  refine tkV_head _ x ((L.filter f).drop (n + 1)) ?_
  rw [tks_have, List.drop_eq_getElem_cons hn, hx]
/-- One that may goes, ahead of g: one fewer is ahead of g. -/
theorem ahead_less {g : Int} (hg : f g = true) : ∀ L : List Int, findAt g L < L.length → 0 < (L.take (findAt g L)).countP f → findAt g (tkL f L) < (tkL f L).length ∧ ((tkL f L).take (findAt g (tkL f L))).countP f + 1 = (L.take (findAt g L)).countP f := by
  intro L
  induction L with
  | nil => intro h; simp at h
  | cons y l ih =>
    intro h1 h2
    by_cases hy : y = g
    · unfold findAt at h2
      rw [if_pos hy] at h2
      simp at h2
    · have e : ∀ l : List Int, findAt g (y :: l) = findAt g l + 1 := fun l => by rw [findAt, if_neg hy]
      rw [e] at h1 h2 ⊢
      rw [List.take_succ_cons, List.countP_cons] at h2 ⊢
      cases hf : f y with
      | true =>
        rw [tkL_yes hf]
        exact ⟨by simpa using h1, by simp⟩
      | false =>
        rw [tkL_no hf, e, List.take_succ_cons, List.countP_cons]
        rw [hf] at h2
        obtain ⟨k1, k2⟩ := ih (by simpa using h1) (by simpa using h2)
        exact ⟨by simpa using k1, by simp only [hf]; simpa using k2⟩
theorem ahead_first {g : Int} (hg : f g = true) : ∀ L : List Int, findAt g L < L.length → (L.take (findAt g L)).countP f = 0 → tkV f L = g := by
  intro L
  induction L with
  | nil => intro h; simp at h
  | cons y l ih =>
    intro h1 h2
    by_cases hy : y = g
    · subst hy; exact tkV_yes hg
    · have e : findAt g (y :: l) = findAt g l + 1 := by rw [findAt, if_neg hy]
      rw [e] at h1 h2
      rw [List.take_succ_cons, List.countP_cons] at h2
      cases hf : f y with
      | true => rw [hf] at h2; simp at h2
      | false => rw [tkV_no hf]; exact ih (by simpa using h1) (by rw [hf] at h2; simpa using h2)
/-- With each one taken there is one fewer ahead of g. -/
theorem ahd_tks {g n : Int} (h : ahd f g L = (n, true)) : ∀ i : Nat, (i : Int) ≤ n → ahd f g (tks f i L) = (n - i, true) := by
  have key : f g = true ∧ findAt g L < L.length ∧ n = ((L.take (findAt g L)).countP f : Nat) := by
    unfold ahd at h
    by_cases hc : f g = true ∧ findAt g L < L.length
    · rw [if_pos hc] at h
      injection h with h1 _
      exact ⟨hc.1, hc.2, h1.symm⟩
    · rw [if_neg hc] at h
      injection h with _ h2
      cases h2
  obtain ⟨hg, hl, hn⟩ := key
  have inv : ∀ i : Nat, (i : Int) ≤ n → findAt g (tks f i L) < (tks f i L).length ∧ (((tks f i L).take (findAt g (tks f i L))).countP f : Nat) + i = (L.take (findAt g L)).countP f := by
    intro i
    induction i with
    | zero => intro _; exact ⟨hl, rfl⟩
    | succ i ih =>
      intro hi
      obtain ⟨k1, k2⟩ := ih (by omega)
      obtain ⟨m1, m2⟩ := ahead_less hg (tks f i L) k1 (by omega)
      exact ⟨m1, by show _ + (i + 1) = _; unfold tks; omega⟩
  intro i hi
  obtain ⟨k1, k2⟩ := inv i hi
  unfold ahd
  rw [if_pos ⟨hg, k1⟩]
  congr 1
  omega
theorem ahd_zero {g : Int} (h : ahd f g L = (0, true)) : tkV f L = g := by
  unfold ahd at h
  by_cases hc : f g = true ∧ findAt g L < L.length
  · rw [if_pos hc] at h
    injection h with h1 _
    exact ahead_first hc.1 L hc.2 (by omega)
  · rw [if_neg hc] at h
    injection h with _ h2
    cases h2
theorem ahd_bd (g : Int) (L : List Int) : 0 ≤ (ahd f g L).1 ∧ (ahd f g L).1 ≤ L.length := by
  unfold ahd
  split
  · have := List.countP_le_length (p := f) (l := L.take (findAt g L))
    rw [List.length_take] at this
    simp only
    omega
  · simp
end
end Go.Proofs
