import Derived.Test.YtfbelpbfmafjdaaBd
namespace Go.Proofs
open Go.RowKit Go.Shelf
set_option linter.unusedVariables false

/-- What the document's table has at a place is what All goes over there. -/
theorem Sim.now_yes {t : Tab Int} {r : RTab} (h : Sim t r) (hw : t.WF) {k : Nat} {p : Pl} (hp : r.L[k]? = some p) (hth : p.there = true) : nowL t (k + 1) = nowL t k ++ [⟨(k : Nat), p.gen, p.x⟩] := by
  by_cases hk : k < t.spots.length
  · obtain ⟨q, hq, h1, h2, h3, h4⟩ := h.taken k _ (List.getElem?_eq_getElem hk)
    rw [hp] at hq
    cases hq
    have hl : t.live (k : Nat) = some t.spots[k] := live_nat.2 ⟨List.getElem?_eq_getElem hk, by rw [← h2]; exact hth⟩
    rw [nowL_yes hl, h1, h4, if_neg ?_]
    intro hg
    have := (hw.gens k _ (List.getElem?_eq_getElem hk)).2.2 (by rw [← h2]; exact hth)
    omega
  · have hlt : k < r.L.length := (List.getElem?_eq_some_iff.1 hp).1
    have := h.fresh k (by omega) (by have := h.len; omega)
    rw [hp] at this
    cases this
    cases hth
theorem Sim.now_no {t : Tab Int} {r : RTab} (h : Sim t r) {k : Nat} {p : Pl} (hp : r.L[k]? = some p) (hth : p.there = false) : nowL t (k + 1) = nowL t k := by
  refine nowL_no ?_
  rcases live_cases t (k : Nat) with ⟨s, hs⟩ | hn
  · obtain ⟨h1, h2⟩ := live_nat.1 hs
    obtain ⟨q, hq, _, h4, _⟩ := h.taken k s h1
    rw [hp] at hq
    cases hq
    rw [hth, h2] at h4
    cases h4
  · exact hn
/-- A name that comes at place k, and is another one than that of what is there, makes no part of what there is. -/
theorem now_other {t : Tab Int} {k N : Nat} {a b : Nam} (hk : k < N) (h1 : nowL t (k + 1) = nowL t k ++ [a]) (hne : a ≠ b) : ¬ (nowL t k ++ [b] <+: nowL t N) := by
  intro hp
  have h2 := nowL_pre t (k + 1) N (by omega)
  rw [h1] at h2
  have := List.prefix_of_prefix_length_le h2 hp (by simp)
  have e := this.eq_of_length (by simp)
  simp at e
  exact hne e
/-- Behind the last place nothing more comes. -/
theorem now_end {t : Tab Int} {N : Nat} (b : Nam) : ¬ (nowL t N ++ [b] <+: nowL t N) := by
  intro hp
  have := hp.length_le
  rw [List.length_append] at this
  simp only [List.length_cons] at this
  omega
end Go.Proofs
