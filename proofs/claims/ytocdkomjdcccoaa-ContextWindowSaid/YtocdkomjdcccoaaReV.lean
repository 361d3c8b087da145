import Derived.Test.YtocdkomjdcccoaaReS
import Derived.Test.YtocdkomjdcccoaaReS
namespace Go.Proofs
open Go.RowKit
set_option linter.unusedVariables false

/-! ### Plain facts -/
theorem fineP_pw {l : List Rf} : fineP l = true ↔ l.Pairwise (fun x y => x.2 < y.2) ∧ ∀ x ∈ l, x.1 ≠ 0 := by
  constructor
  · intro h
    refine ⟨?_, fun x hx => ?_⟩
    · rw [List.pairwise_iff_getElem]
      intro i j hi hj hij
      exact fine_rises h (List.getElem?_eq_getElem hi) (List.getElem?_eq_getElem hj) hij
    · obtain ⟨j, hj, hje⟩ := List.mem_iff_getElem.1 hx
      have := (fine_at h (List.getElem?_eq_getElem hj)).1
      rwa [hje] at this
  · rintro ⟨h1, h2⟩
    rw [fineP_iff]
    intro k hk
    rw [badP_at (List.getElem?_eq_getElem hk)]
    unfold wrongP
    rw [Bool.or_eq_false_iff]
    refine ⟨by simpa using h2 _ (List.getElem_mem hk), ?_⟩
    cases k with
    | zero => rfl
    | succ k =>
      rw [aheadP_succ (List.getElem?_eq_getElem (by omega : k < l.length))]
      have := List.pairwise_iff_getElem.1 h1 k (k + 1) (by omega) hk (by omega)
      simp
      omega
/-- What comes later than a time. -/
def lateP : List Rf → Int → Int
  | [], _ => 0
  | x :: l, τ => (if τ < x.2 then x.1 else 0) + lateP l τ
theorem lateP_append (a b : List Rf) (τ : Int) : lateP (a ++ b) τ = lateP a τ + lateP b τ := by
  induction a with
  | nil => simp [lateP]
  | cons x l ih => simp only [List.cons_append, lateP, ih]; omega
theorem lateP_le {l : List Rf} (h : Ok l) (τ : Int) : 0 ≤ lateP l τ ∧ lateP l τ ≤ sumP l := by
  induction l with
  | nil => simp [lateP, sumP]
  | cons x l ih =>
    have h1 := ih h.tail
    have h2 := h.head.1.1
    simp only [lateP, sumP]
    split <;> omega
theorem sum_there (l : List Rf) (now : Int) : sumP (thereL l now) = sumP l - lateP l now := by
  induction l with
  | nil => simp [lateP, sumP, thereL]
  | cons x l ih =>
    by_cases h : x.2 ≤ now
    · rw [thereL_cons h]
      simp only [lateP, sumP, ih]
      rw [if_neg (by omega)]
      omega
    · have : thereL (x :: l) now = thereL l now := by unfold thereL; rw [List.filter_cons, if_neg (by simpa using h)]
      rw [this]
      simp only [lateP, sumP, ih]
      rw [if_pos (by omega)]
      omega
theorem thereP_late {l : List Rf} (hk : Ok l) (hm : mayP l = true) (now : Int) : thereP l now = sumP l - lateP l now := by
  have h1 := (mayP_iff.1 hm).1
  have h2 := lateP_le hk now
  unfold thereP
  rw [(sum_all (l := thereL l now) (by rw [sum_there]; omega)).1, sum_there]
  rfl
theorem late_none {l : List Rf} {τ : Int} (h : ∀ x ∈ l, x.2 ≤ τ) : lateP l τ = 0 := by
  induction l with
  | nil => rfl
  | cons x l ih =>
    simp only [lateP]
    rw [ih (fun y hy => h y (by simp [hy])), if_neg (by have := h x (by simp); omega)]
    rfl
/-- Where something is there: the list, and the list Due. -/
theorem due_parts {l : List Rf} (hk : Ok l) (hm : mayP l = true) {now : Int} (ht : 1 ≤ thereP l now) : ∃ t r, dueL l now = (thereP l now, t) :: r ∧ t ≤ now ∧ (∀ x ∈ r, now < x.2) ∧ (∀ τ, now ≤ τ → lateP r τ = lateP l τ) ∧ r.Pairwise (fun x y => x.2 < y.2) ∧ (∀ x ∈ r, x.1 ≠ 0) ∧ Ok ((thereP l now, t) :: r) ∧ thereP l now + sumP r = sumP l ∧ r.length + 1 ≤ l.length := by
  obtain ⟨hdf, h0⟩ := due_form hk hm ht
  obtain ⟨h1, h2⟩ := mayP_iff.1 hm
  obtain ⟨p1, p2⟩ := fineP_pw.1 h2
  have hds := sumP_due (l := l) now
  have hdl := due_len (l := l) now
  have hdo := hk.due hm now
  rw [hdf] at hds hdl hdo
  refine ⟨_, _, hdf, due_first hm h0, late_rest h2 now, fun τ hτ => ?_, p1.sublist (List.drop_sublist _ _), fun x hx => p2 x (List.mem_of_mem_drop hx), hdo, hds, by simpa using hdl⟩
  have h3 := lateP_append (l.take (dueN l now)) (l.drop (dueN l now)) τ
  rw [List.take_append_drop] at h3
  rw [h3, late_none (l := l.take (dueN l now))]
  · omega
  · intro x hx
    obtain ⟨j, hj, hje⟩ := List.mem_iff_getElem.1 hx
    rw [List.length_take] at hj
    rw [List.getElem_take] at hje
    have := (due_split (now := now) h2 (List.getElem?_eq_getElem (by omega : j < l.length))).2 (by omega)
    rw [hje] at this
    omega
theorem snoc_of {X : List Rf} (h : X ≠ []) : ∃ Y z, X = Y ++ [z] := ⟨X.dropLast, X.getLast h, (List.dropLast_concat_getLast h).symm⟩
theorem backP_snoc (Y : List Rf) (z : Rf) (at_ most : Int) : backP (Y ++ [z]) at_ most = if z.2 < at_ then (if ((Y.length + 1 : Nat) : Int) < most then (Y ++ [z]) ++ [(1, at_)] else Y ++ [(z.1 + 1, at_)]) else Y ++ [(z.1 + 1, z.2)] := by
  have h1 : lastP (Y ++ [z]) = z := by unfold lastP; simp
  have h2 : (Y ++ [z]).length = Y.length + 1 := by simp
  have h3 : ∀ u : Rf, (Y ++ [z]).set (Y.length + 1 - 1) u = Y ++ [u] := fun u => by simp
  unfold backP
  rw [h1, h2]
  by_cases hz : z.2 < at_
  · rw [if_pos (.inr hz), if_pos hz, h3]
  · rw [if_neg (by omega), if_neg hz, h3]
/-- What one that comes back does to a list. -/
theorem back_facts {X : List Rf} (hk : Ok X) (hp : X.Pairwise (fun x y => x.2 < y.2)) (hz : ∀ x ∈ X, x.1 ≠ 0) (hs : sumP X + 1 < 18446744073709551616) {at_ most : Int} (hat : U64 at_) (hm : 1 ≤ most) (hl : (X.length : Int) ≤ most) :
    Ok (backP X at_ most) ∧ fineP (backP X at_ most) = true ∧ sumP (backP X at_ most) = sumP X + 1 ∧ ((backP X at_ most).length : Int) ≤ most ∧ ∀ τ, lateP X τ + (if τ < at_ then 1 else 0) ≤ lateP (backP X at_ most) τ := by
  by_cases hX : X = []
  · subst hX
    rw [show backP [] at_ most = [(1, at_)] by unfold backP; rw [if_pos (.inl rfl), if_pos (by simp; omega)]; rfl]
    refine ⟨Ok.cons ⟨by omega, by omega⟩ hat Ok.nil, fineP_pw.2 ⟨by simp, by simp⟩, by simp [sumP], by simpa using hm, fun τ => ?_⟩
    simp only [lateP]; omega
  · obtain ⟨Y, z, rfl⟩ := snoc_of hX
    rw [List.pairwise_append] at hp
    obtain ⟨p1, _, p3⟩ := hp
    have p3 : ∀ y ∈ Y, y.2 < z.2 := fun y hy => p3 y hy z (by simp)
    have hzz := hk z (by simp)
    have hoy : Ok Y := fun x hx => hk x (by simp [hx])
    have hz0 := hzz.1.1
    have hsy := sumP_nonneg hoy
    rw [sumP_append] at hs
    simp only [sumP] at hs
    have hzy : ∀ x ∈ Y, x.1 ≠ 0 := fun x hx => hz x (by simp [hx])
    have hln : ((Y ++ [z]).length : Int) = (Y.length : Int) + 1 := by simp
    rw [hln] at hl
    rw [backP_snoc]
    by_cases hlt : z.2 < at_
    · rw [if_pos hlt]
      by_cases hr : ((Y.length + 1 : Nat) : Int) < most
      · rw [if_pos hr]
        refine ⟨hk.append (Ok.cons ⟨by omega, by omega⟩ hat Ok.nil), fineP_pw.2 ⟨?_, ?_⟩, ?_, ?_, fun τ => ?_⟩
        · rw [List.pairwise_append, List.pairwise_append]
          refine ⟨⟨p1, by simp, fun y hy u hu => by simp at hu; subst hu; exact p3 y hy⟩, by simp, fun y hy u hu => ?_⟩
          simp at hu
          subst hu
          simp only
          rcases List.mem_append.1 hy with h | h
          · have := p3 y h; omega
          · simp at h; subst h; exact hlt
        · intro x hx
          rcases List.mem_append.1 hx with h | h
          · exact hz x h
          · simp at h; subst h; simp
        · simp only [sumP_append, sumP]; omega
        · simp; omega
        · simp only [lateP_append, lateP]; omega
      · rw [if_neg hr]
        refine ⟨hoy.append (Ok.cons ⟨by omega, by omega⟩ hat Ok.nil), fineP_pw.2 ⟨?_, ?_⟩, ?_, ?_, fun τ => ?_⟩
        · rw [List.pairwise_append]
          refine ⟨p1, by simp, fun y hy u hu => ?_⟩
          simp at hu
          subst hu
          have := p3 y hy
          simp only
          omega
        · intro x hx
          rcases List.mem_append.1 hx with h | h
          · exact hzy x h
          · simp at h; subst h; simp only; omega
        · simp only [sumP_append, sumP]; omega
        · simp; omega
        · simp only [lateP_append, lateP]
          by_cases h1 : τ < z.2
          · rw [if_pos h1, if_pos (by omega), if_pos (by omega)]; omega
          · rw [if_neg h1]
            split <;> omega
    · rw [if_neg hlt]
      refine ⟨hoy.append (Ok.cons ⟨by omega, by omega⟩ hzz.2 Ok.nil), fineP_pw.2 ⟨?_, ?_⟩, ?_, ?_, fun τ => ?_⟩
      · rw [List.pairwise_append]
        refine ⟨p1, by simp, fun y hy u hu => ?_⟩
        simp at hu
        subst hu
        exact p3 y hy
      · intro x hx
        rcases List.mem_append.1 hx with h | h
        · exact hzy x h
        · simp at h; subst h; simp only; omega
      · simp only [sumP_append, sumP]; omega
      · simp; omega
      · simp only [lateP_append, lateP]
        by_cases h1 : τ < z.2
        · rw [if_pos h1]; split <;> omega
        · rw [if_neg h1, if_neg (by omega)]; omega
/-- What a use does. -/
theorem use_facts {l : List Rf} (hk : Ok l) {now per most : Int} (h0 : 0 ≤ now) (hp0 : 0 ≤ per) (hc : canP l now per most) :
    Ok (useP l now per most) ∧ mayP (useP l now per most) = true ∧ sumP (useP l now per most) = sumP l ∧ ((useP l now per most).length : Int) ≤ most ∧ ∀ τ, now ≤ τ → lateP l τ + (if τ < now + per then 1 else 0) ≤ lateP (useP l now per most) τ := by
  obtain ⟨hho, hpe, hf, hm, ht⟩ := hc
  unfold holdsP at hho
  simp only [Bool.and_eq_true, decide_eq_true_iff] at hho
  obtain ⟨t, r, hd, ht1, hrl, hrt, hrp, hrz, hro, hrs, hrn⟩ := due_parts hk hm ht
  have hms := (mayP_iff.1 hm).1
  have hr0 := sumP_nonneg hro.tail
  unfold useP
  rw [hd, decP_cons]
  by_cases hT : thereP l now = 1
  · rw [if_pos hT]
    obtain ⟨q1, q2, q3, q4, q5⟩ := back_facts (at_ := now + per) (most := most) hro.tail hrp hrz (by omega) ⟨by omega, hf⟩ hho.1 (by omega)
    refine ⟨q1, mayP_iff.2 ⟨by omega, q2⟩, by omega, q4, fun τ hτ => ?_⟩
    rw [← hrt τ hτ]
    exact q5 τ
  · rw [if_neg hT]
    have hoo : Ok ((thereP l now - 1, t) :: r) := by
      have := hro.dec (m := 1) (by omega) ht
      rwa [decP_cons, if_neg hT] at this
    obtain ⟨q1, q2, q3, q4, q5⟩ := back_facts (at_ := now + per) (most := most) hoo (List.pairwise_cons.2 ⟨fun x hx => by have := hrl x hx; simp only; omega, hrp⟩) (fun x hx => by
      rcases List.mem_cons.1 hx with rfl | h
      · simp only; omega
      · exact hrz x h) (by simp only [sumP]; omega) ⟨by omega, hf⟩ hho.1 (by simp; omega)
    simp only [sumP] at q3
    refine ⟨q1, mayP_iff.2 ⟨by omega, q2⟩, by omega, q4, fun τ hτ => ?_⟩
    have := q5 τ
    simp only [lateP] at this
    rw [if_neg (by omega)] at this
    rw [← hrt τ hτ]
    omega
theorem use_there {l : List Rf} (hk : Ok l) {now per most : Int} (h0 : 0 ≤ now) (hp0 : 0 ≤ per) (hc : canP l now per most) : thereP (useP l now per most) now ≤ thereP l now := by
  obtain ⟨q1, q2, q3, q4, q5⟩ := use_facts hk h0 hp0 hc
  rw [thereP_late q1 q2, thereP_late hk hc.2.2.2.1]
  have := q5 now (Int.le_refl _)
  split at this <;> omega
end Go.Proofs
