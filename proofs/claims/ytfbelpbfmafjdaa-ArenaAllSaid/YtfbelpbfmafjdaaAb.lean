import Derived.Test.YtfbelpbfmafjdaaAa
namespace Go.Proofs
open Go.RowKit
set_option linter.unusedVariables false

/-! ### How many are there, retired, free -/
def cT (r : RTab) (j : Nat) : Nat := (r.L.take j).countP (fun p => p.there)
def cR (r : RTab) (j : Nat) : Nat := (r.L.take j).countP (fun p => p.retired)
theorem cT_succ {r : RTab} {j : Nat} {p : Pl} (h : r.L[j]? = some p) : cT r (j + 1) = cT r j + if p.there = true then 1 else 0 := by
  unfold cT
  rw [List.take_succ_eq_append_getElem (List.getElem?_eq_some_iff.1 h).1, List.countP_append, (List.getElem?_eq_some_iff.1 h).2]
  cases hb : p.there <;> simp [hb]
theorem cR_succ {r : RTab} {j : Nat} {p : Pl} (h : r.L[j]? = some p) : cR r (j + 1) = cR r j + if p.retired = true then 1 else 0 := by
  unfold cR
  rw [List.take_succ_eq_append_getElem (List.getElem?_eq_some_iff.1 h).1, List.countP_append, (List.getElem?_eq_some_iff.1 h).2]
  cases hb : p.retired <;> simp [hb]
theorem cT_le (r : RTab) (j : Nat) : cT r j ≤ j := by unfold cT; exact Nat.le_trans List.countP_le_length (by rw [List.length_take]; omega)
theorem cR_le (r : RTab) (j : Nat) : cR r j ≤ j := by unfold cR; exact Nat.le_trans List.countP_le_length (by rw [List.length_take]; omega)
theorem freeL_count (L : List Pl) : ∀ n, n ≤ L.length → (freeL L n).length = (L.take n).countP (fun p => !p.there && !p.retired) := by
  intro n
  induction n with
  | zero => intro _; rfl
  | succ n ih =>
    intro hn
    have hp := List.getElem?_eq_getElem (l := L) (i := n) (by omega)
    rw [List.take_succ_eq_append_getElem (by omega), List.countP_append, ← ih (by omega)]
    have hf : freeAt L n = (!L[n].there && !L[n].retired) := by unfold freeAt; rw [hp]
    cases hb : freeAt L n with
    | true => rw [freeL_yes L n hb]; rw [hf] at hb; simp [hb]
    | false => rw [freeL_no L n hb]; rw [hf] at hb; simp [hb]
theorem three_counts (L : List Pl) (h : ∀ p ∈ L, p.there = true → p.retired = false) :
    L.countP (fun p => p.there) + L.countP (fun p => p.retired) + L.countP (fun p => !p.there && !p.retired) = L.length := by
  induction L with
  | nil => rfl
  | cons a l ih =>
    have := ih (fun p hp => h p (by simp [hp]))
    have ha := h a (by simp)
    simp only [List.countP_cons, List.length_cons]
    cases h1 : a.there with
    | true => rw [ha h1]; simp; omega
    | false => cases h2 : a.retired <;> simp <;> omega
theorem Sim.excl {t : Tab Int} {r : RTab} (h : Sim t r) (hw : t.WF) : ∀ (k : Nat) (p : Pl), r.L[k]? = some p → p.there = true → p.retired = false := by
  intro k p hp ht
  rcases Nat.lt_or_ge k t.spots.length with hk | hk
  · obtain ⟨s, hs⟩ : ∃ s, t.spots[k]? = some s := ⟨_, List.getElem?_eq_getElem hk⟩
    obtain ⟨p', hp', h1, h2, h3, h4⟩ := h.taken k s hs
    rw [hp] at hp'; cases hp'
    have := (hw.gens k s hs).2.2 (by rw [← h2]; exact ht)
    rw [h3]; simp; omega
  · have hl := h.len
    have := (List.getElem?_eq_some_iff.1 hp).1
    rw [h.fresh k hk (by omega)] at hp
    cases hp; rfl
theorem Sim.counts {t : Tab Int} {r : RTab} (h : Sim t r) (hw : t.WF) :
    cT r r.L.length + cR r r.L.length + r.frees.length = r.L.length ∧ ((cR r r.L.length : Nat) : Int) = t.retired ∧ ((cT r r.L.length : Nat) : Int) = t.size - t.frees - t.retired := by
  have hl := h.len
  have hwl := hw.len
  have e1 : cT r r.L.length + cR r r.L.length + r.frees.length = r.L.length := by
    have := three_counts r.L (fun p hp => by
      obtain ⟨k, hk, rfl⟩ := List.getElem_of_mem hp
      exact h.excl hw k _ (List.getElem?_eq_getElem hk))
    have hf := freeL_count r.L r.L.length (Nat.le_refl _)
    unfold cT cR RTab.frees
    rw [List.take_length] at hf ⊢
    omega
  have e2 : ((cR r r.L.length : Nat) : Int) = t.retired := by
    rw [hw.ret]
    have hm : r.L.map (fun p => p.retired) = t.spots.map (fun s => s.gen == topG) ++ List.replicate (r.L.length - t.spots.length) false := by
      refine List.ext_getElem? fun k => ?_
      rw [List.getElem?_map]
      rcases Nat.lt_or_ge k t.spots.length with hk | hk
      · obtain ⟨s, hs⟩ : ∃ s, t.spots[k]? = some s := ⟨_, List.getElem?_eq_getElem hk⟩
        obtain ⟨p, hp, h1, h2, h3, h4⟩ := h.taken k s hs
        rw [List.getElem?_append_left (by simpa using hk), List.getElem?_map, hp, hs]
        simp [h3]
      · rw [List.getElem?_append_right (by simpa using hk)]
        rcases Nat.lt_or_ge k r.L.length with hk2 | hk2
        · rw [h.fresh k hk (by omega), List.getElem?_replicate_of_lt (by simp; omega)]; rfl
        · rw [List.getElem?_eq_none hk2, List.getElem?_eq_none (by simp; omega)]; rfl
    have hc : (r.L.map (fun p => p.retired)).countP id = r.L.countP (fun p => p.retired) := by rw [List.countP_map]; rfl
    have hc2 : (t.spots.map (fun s => s.gen == topG)).countP id = t.spots.countP (fun s => s.gen == topG) := by rw [List.countP_map]; rfl
    rw [hm, List.countP_append, hc2] at hc
    have hz : (List.replicate (r.L.length - t.spots.length) false).countP id = 0 := by rw [List.countP_replicate]; simp
    unfold cR
    rw [List.take_length, ← hc, hz]
    simp
  refine ⟨e1, e2, ?_⟩
  have := h.frees_len hw
  omega
/-- What the code tells of a place, by the document's. -/
theorem Sim.live {t : Tab Int} {r : RTab} (h : Sim t r) (hw : t.WF) {k : Nat} {p : Pl} (hp : r.L[k]? = some p) :
    (p.there = true → t.atIdx k = (k : Nat) ∧ t.atGen k = p.gen ∧ t.atIs k = true ∧ t.got k p.gen = p.x ∧ t.err k p.gen = 0) ∧ (p.there = false → t.atIdx k = 0 ∧ t.atGen k = 0 ∧ t.atIs k = false) := by
  rcases Nat.lt_or_ge k t.spots.length with hk | hk
  · obtain ⟨s, hs⟩ : ∃ s, t.spots[k]? = some s := ⟨_, List.getElem?_eq_getElem hk⟩
    obtain ⟨p', hp', h1, h2, h3, h4⟩ := h.taken k s hs
    rw [hp] at hp'; cases hp'
    constructor
    · intro ht
      have hst : s.there = true := by rw [← h2]; exact ht
      have hgen : p.gen = s.gen := by have := (hw.gens k s hs).2.2 hst; rw [h1, if_neg (by omega)]
      have hl := live_nat.2 ⟨hs, hst⟩
      obtain ⟨q1, q2, q3⟩ := live_some hl
      have hh : t.has k p.gen = true := has_iff.2 ⟨s, hl, hgen.symm⟩
      refine ⟨q1, by rw [q2, hgen], q3, ?_, ?_⟩
      · unfold Tab.got; rw [if_pos hh, hl]; exact h4.symm
      · unfold Tab.err; rw [if_pos hh]
    · intro ht
      have hn : t.live k = none := by
        cases hl : t.live (k : Nat) with
        | none => rfl
        | some s' =>
          obtain ⟨h5, h6⟩ := live_nat.1 hl
          rw [hs] at h5; cases h5; rw [← h2, ht] at h6; cases h6
      obtain ⟨q1, q2, q3, _⟩ := live_none hn
      exact ⟨q1, q2, q3⟩
  · have hl := h.len
    have := (List.getElem?_eq_some_iff.1 hp).1
    rw [h.fresh k hk (by omega)] at hp
    cases hp
    have hn : t.live k = none := by
      cases hl : t.live (k : Nat) with
      | none => rfl
      | some s' => have := (live_nat.1 hl).1; rw [List.getElem?_eq_none hk] at this; cases this
    obtain ⟨q1, q2, q3, _⟩ := live_none hn
    exact ⟨(fun h => by cases h), fun _ => ⟨q1, q2, q3⟩⟩
theorem live_out {t : Tab Int} {i : Int} (h : i < 0 ∨ (t.spots.length : Int) ≤ i) : t.atIdx i = 0 ∧ t.atGen i = 0 ∧ t.atIs i = false := by
  have hn : t.live i = none := by
    cases hl : t.live i with
    | none => rfl
    | some s =>
      obtain ⟨j0, hj, _⟩ := live_iff.1 hl
      have := (List.getElem?_eq_some_iff.1 hj).1
      omega
  obtain ⟨q1, q2, q3, _⟩ := live_none hn
  exact ⟨q1, q2, q3⟩
end Go.Proofs
