import Derived.Test.YtfbelpbfmafjdaaAd
namespace Go.Proofs
open Go.RowKit
set_option linter.unusedVariables false

/-! ### A table that is filled, and emptied, turn by turn -/
structure Filling (N i T : Nat) (F G : Int) (t : Tab Int) : Prop where
  hw : t.WF
  sz : t.size = (N : Nat)
  fr : t.first = F
  gT : G = F + (T : Nat)
  gB : G < topG
  gens : ∀ (k : Nat) (s : Spot Int), t.spots[k]? = some s → s.gen = G
  cnt : t.frees = (N : Int) - (i : Nat)
  zero : T = 0 → t.spots.length = i ∧ t.freed = []
  full : T ≠ 0 → t.spots.length = N
structure Dropping (N i : Nat) (F G : Int) (t : Tab Int) : Prop where
  hw : t.WF
  sz : t.size = (N : Nat)
  fr : t.first = F
  gB : G < topG
  len : t.spots.length = N
  done : ∀ (k : Nat) (s : Spot Int), k < i → t.spots[k]? = some s → s.there = false ∧ s.gen = G + 1
  todo : ∀ (k : Nat) (s : Spot Int), i ≤ k → t.spots[k]? = some s → s.there = true ∧ s.gen = G
structure Dead (N : Nat) (F : Int) (t : Tab Int) : Prop where
  hw : t.WF
  sz : t.size = (N : Nat)
  fr : t.first = F
  len : t.spots.length = N
  all : ∀ (k : Nat) (s : Spot Int), t.spots[k]? = some s → s.there = false ∧ s.gen = topG
theorem frees_val (t : Tab Int) : t.frees = t.size - t.spots.length + t.freed.length := rfl
theorem ret_zero {t : Tab Int} (hw : t.WF) (h : ∀ (k : Nat) (s : Spot Int), t.spots[k]? = some s → s.gen < topG) : t.retired = 0 := by
  rw [hw.ret]
  have : t.spots.countP (fun s => s.gen == topG) = 0 := by
    rw [List.countP_eq_zero]
    intro s hs
    obtain ⟨k, hk, rfl⟩ := List.getElem_of_mem hs
    have := h k _ (List.getElem?_eq_getElem hk)
    simp; omega
  rw [this]; rfl
theorem ret_all {t : Tab Int} (hw : t.WF) (h : ∀ (k : Nat) (s : Spot Int), t.spots[k]? = some s → s.gen = topG) : t.retired = (t.spots.length : Nat) := by
  rw [hw.ret]
  have : t.spots.countP (fun s => s.gen == topG) = t.spots.length := by
    rw [List.countP_eq_length]
    intro s hs
    obtain ⟨k, hk, rfl⟩ := List.getElem_of_mem hs
    have := h k _ (List.getElem?_eq_getElem hk)
    simp [this]
  rw [this]
theorem freed_nil {t : Tab Int} (hw : t.WF) (h : ∀ (k : Nat) (s : Spot Int), t.spots[k]? = some s → s.there = true ∨ s.gen = topG) : t.freed = [] := by
  cases hf : t.freed with
  | nil => rfl
  | cons a b =>
    obtain ⟨s, hs, h1, h2⟩ := hw.free a (by rw [hf]; simp)
    rcases h a s hs with h3 | h3
    · rw [h1] at h3; cases h3
    · omega
section
variable {N i T : Nat} {F G : Int} {t : Tab Int}
theorem Filling.ret (h : Filling N i T F G t) : t.retired = 0 := ret_zero h.hw (fun k s hs => by have := h.gens k s hs; have := h.gB; omega)
theorem Filling.len_ (h : Filling N i T F G t) : t.size - t.frees - t.retired = (i : Nat) := by rw [h.ret, h.cnt, h.sz]; omega
theorem Filling.ne (h : Filling N i T F G t) (hi : i < N) : t.frees ≠ 0 := by rw [h.cnt]; omega
theorem Filling.gen (h : Filling N i T F G t) (hi : i < N) : t.genAt t.takeAt = G := by
  obtain ⟨s, hs, _, _, _, _, _, hge, hlt⟩ := h.hw.take_at (z := (0 : Int)) (h.ne hi)
  unfold Tab.genAt
  rcases Nat.lt_or_ge t.takeAt t.spots.length with hk | hk
  · rw [List.getElem?_eq_getElem hk]; exact h.gens _ _ (List.getElem?_eq_getElem hk)
  · rw [List.getElem?_eq_none hk]
    show t.first = G
    rw [h.fr]
    by_cases hT : T = 0
    · rw [h.gT, hT]; simp
    · have := h.full hT; have := h.sz; omega
theorem Filling.idx (h : Filling N i T F G t) (hT : T = 0) : t.takeAt = i := by
  obtain ⟨h1, h2⟩ := h.zero hT
  rw [(take_nil (z := (0 : Int)) h2).2, h1]
theorem Filling.put (h : Filling N i T F G t) (hi : i < N) (x : Int) : Filling N (i + 1) T F G (t.put' x) := by
  have hne := h.ne hi
  have hg := h.gen hi
  have e : t.put' x = t.put 0 x := by unfold Tab.put'; rw [if_neg hne]
  rw [e]
  obtain ⟨p1, p2, p3⟩ := put_same (z := (0 : Int)) (t := t) x
  refine ⟨h.hw.put hne x, by rw [p1]; exact h.sz, by rw [p2]; exact h.fr, h.gT, h.gB, ?_, by rw [put_frees h.hw hne x, h.cnt]; omega, ?_, ?_⟩
  · intro k s hs
    rw [put_spots h.hw hne] at hs
    split at hs
    · cases hs; exact hg
    · exact h.gens k s hs
  · intro hT
    obtain ⟨h1, h2⟩ := h.zero hT
    rw [put_eq h.hw hne x, (take_nil (z := (0 : Int)) h2).1]
    refine ⟨?_, h2⟩
    show ((t.spots ++ _).set _ _).length = _
    rw [List.length_set, List.length_append, h1]; rfl
  · intro hT
    have hl := h.full hT
    rw [put_eq h.hw hne x]
    rcases List.eq_nil_or_concat t.freed with hn | ⟨l, j, hj⟩
    · rw [frees_val, hn, hl, h.sz] at hne; simp at hne
    · rw [List.concat_eq_append] at hj
      rw [(take_cons (z := (0 : Int)) hj).1]
      show (t.spots.set _ _).length = _
      rw [List.length_set]; exact hl
theorem Filling.end_ (h : Filling N N T F G t) : Dropping N 0 F G t := by
  have hc := h.cnt
  rw [frees_val, h.sz] at hc
  have hl := h.hw.len
  rw [h.sz] at hl
  have hf : t.freed = [] := List.eq_nil_of_length_eq_zero (by omega)
  refine ⟨h.hw, h.sz, h.fr, h.gB, by omega, fun k s hk => by omega, fun k s _ hs => ⟨?_, h.gens k s hs⟩⟩
  cases hb : s.there with
  | true => rfl
  | false =>
    have := h.hw.empties k s hs hb (by rw [h.gens k s hs]; exact h.gB)
    rw [hf] at this; cases this
theorem Dropping.at_ (h : Dropping N i F G t) (hi : i < N) : ∃ s, t.spots[i]? = some s ∧ s.there = true ∧ s.gen = G := by
  have hk : i < t.spots.length := by rw [h.len]; exact hi
  have hs := List.getElem?_eq_getElem hk
  obtain ⟨h1, h2⟩ := h.todo i _ (Nat.le_refl _) hs
  exact ⟨_, hs, h1, h2⟩
theorem Dropping.tell (h : Dropping N i F G t) (hi : i < N) : t.atIdx i = (i : Nat) ∧ t.atGen i = G ∧ t.atIs i = true ∧ t.err i G = 0 := by
  obtain ⟨s, hs, h1, h2⟩ := h.at_ hi
  have hl := live_nat.2 ⟨hs, h1⟩
  obtain ⟨q1, q2, q3⟩ := live_some hl
  refine ⟨q1, by rw [q2, h2], q3, ?_⟩
  unfold Tab.err
  rw [if_pos (has_iff.2 ⟨s, hl, h2⟩)]
theorem Dropping.drop (h : Dropping N i F G t) (hi : i < N) : Dropping N (i + 1) F G (t.drop' i G) := by
  obtain ⟨s, hs, h1, h2⟩ := h.at_ hi
  have hl := live_nat.2 ⟨hs, h1⟩
  have e : t.drop' i G = t.drop 0 i s.gen := by unfold Tab.drop'; rw [if_pos (has_iff.2 ⟨s, hl, h2⟩), h2]; rfl
  rw [e]
  have hk := (List.getElem?_eq_some_iff.1 hs).1
  refine ⟨h.hw.drop hs h1, h.sz, h.fr, h.gB, by unfold Tab.drop; simpa using h.len, ?_, ?_⟩
  · intro k s' hki hks
    rw [drop_spots hk] at hks
    split at hks
    · cases hks; exact ⟨rfl, by show s.gen + 1 = _; rw [h2]⟩
    · exact h.done k s' (by omega) hks
  · intro k s' hki hks
    rw [drop_spots hk, if_neg (by omega)] at hks
    exact h.todo k s' (by omega) hks
theorem Dropping.dead (h : Dropping N N F G t) (hG : topG ≤ G + 1) : Dead N F t :=
  ⟨h.hw, h.sz, h.fr, h.len, fun k s hs => by
    have hk := (List.getElem?_eq_some_iff.1 hs).1
    obtain ⟨h1, h2⟩ := h.done k s (by rw [← h.len]; exact hk) hs
    exact ⟨h1, by have := h.gB; omega⟩⟩
theorem Dropping.again (h : Dropping N N F G t) (hT : G = F + (T : Nat)) (hG : G + 1 < topG) : Filling N 0 (T + 1) F (G + 1) t := by
  have hall : ∀ (k : Nat) (s : Spot Int), t.spots[k]? = some s → s.there = false ∧ s.gen = G + 1 := fun k s hs => by
    have hk := (List.getElem?_eq_some_iff.1 hs).1
    exact h.done k s (by rw [← h.len]; exact hk) hs
  have h1 : t.freed.length = N := by
    have a := h.hw.freed_len
    rw [h.len] at a
    have b := (List.nodup_range (n := N)).length_le_of_subset (l₂ := t.freed) (fun k hk => by
      rw [List.mem_range] at hk
      have hk' : k < t.spots.length := by rw [h.len]; exact hk
      obtain ⟨q1, q2⟩ := hall k _ (List.getElem?_eq_getElem hk')
      exact h.hw.empties k _ (List.getElem?_eq_getElem hk') q1 (by rw [q2]; exact hG))
    simp at b
    omega
  refine ⟨h.hw, h.sz, h.fr, by rw [hT]; omega, hG, fun k s hs => (hall k s hs).2, by rw [frees_val, h.len, h.sz, h1]; omega, fun h => by omega, fun _ => h.len⟩
theorem Dropping.sums (h : Dropping N N F G t) (hT : G = F + (T : Nat)) : t.size - t.frees - t.retired = 0 ∧ t.frees + t.retired = (N : Nat) ∧ 0 ≤ t.retired ∧ t.retired ≤ (N : Nat) := by
  have hr := h.hw.ret_bd
  rw [h.len] at hr
  by_cases hG : topG ≤ G + 1
  · have hd := h.dead hG
    have h1 := ret_all h.hw (fun k s hs => (hd.all k s hs).2)
    have h2 := freed_nil h.hw (fun k s hs => .inr (hd.all k s hs).2)
    rw [frees_val, h1, h2, h.len, h.sz]; simp
  · have hf := h.again hT (by omega)
    rw [hf.ret, hf.cnt, h.sz]; simp
theorem Dead.facts (h : Dead N F t) : t.frees = 0 ∧ t.retired = (N : Nat) ∧ ∀ k : Int, t.atIs k = false ∧ t.atIdx k = 0 ∧ t.atGen k = 0 := by
  have h1 := ret_all h.hw (fun k s hs => (h.all k s hs).2)
  have h2 := freed_nil h.hw (fun k s hs => .inr (h.all k s hs).2)
  refine ⟨by rw [frees_val, h2, h.len, h.sz]; simp, by rw [h1, h.len], fun k => ?_⟩
  have hn : t.live k = none := by
    cases hl : t.live k with
    | none => rfl
    | some s =>
      obtain ⟨_, hj, ht⟩ := live_iff.1 hl
      rw [(h.all _ s hj).1] at ht; cases ht
  obtain ⟨q1, q2, q3, _⟩ := live_none hn
  exact ⟨q3, q1, q2⟩
end
end Go.Proofs
