import Derived.Test.YtocdkomjdcccoaaReO
namespace Go.Proofs
open Go.RowKit
set_option linter.unusedVariables false

/-! ### A table, plainly -/
structure Spot (α : Type) where
  gen : Int
  there : Bool
  thing : α
structure Tab (α : Type) where
  size : Int
  first : Int
  spots : List (Spot α)
  freed : List Nat
  retired : Int
/-- The number above the last generation: a retired place has it. -/
def topG : Int := 18446744073709551615
theorem topG_val : topG = 18446744073709551615 := rfl
variable {α : Type}
def Tab.frees (t : Tab α) : Int := t.size - t.spots.length + t.freed.length
structure Tab.WF (t : Tab α) : Prop where
  s0 : 1 ≤ t.size
  s1 : t.size ≤ 4096
  f0 : 1 ≤ t.first
  f1 : t.first < topG
  len : (t.spots.length : Int) ≤ t.size
  free : ∀ k ∈ t.freed, ∃ s : Spot α, t.spots[k]? = some s ∧ s.there = false ∧ s.gen < topG
  nodup : t.freed.Nodup
  gens : ∀ (k : Nat) (s : Spot α), t.spots[k]? = some s → t.first ≤ s.gen ∧ s.gen ≤ topG ∧ (s.there = true → s.gen < topG)
  empties : ∀ (k : Nat) (s : Spot α), t.spots[k]? = some s → s.there = false → s.gen < topG → k ∈ t.freed
  ret : t.retired = (t.spots.countP (fun s : Spot α => s.gen == topG) : Nat)
theorem nodup_len {l : List Nat} {n : Nat} (hn : l.Nodup) (hb : ∀ k ∈ l, k < n) : l.length ≤ n := by
  have h := hn.length_le_of_subset (l₂ := List.range n) (fun k hk => List.mem_range.2 (hb k hk))
  simpa using h
theorem Tab.WF.freed_lt {t : Tab α} (h : t.WF) : ∀ k ∈ t.freed, k < t.spots.length := fun k hk => by
  obtain ⟨s, hs, _⟩ := h.free k hk
  exact (List.getElem?_eq_some_iff.1 hs).1
theorem Tab.WF.freed_len {t : Tab α} (h : t.WF) : t.freed.length ≤ t.spots.length := nodup_len h.nodup h.freed_lt
theorem Tab.WF.ret_bd {t : Tab α} (h : t.WF) : 0 ≤ t.retired ∧ t.retired ≤ t.spots.length := by
  have := List.countP_le_length (p := fun s : Spot α => s.gen == topG) (l := t.spots)
  rw [h.ret]; omega

/-- The spot at a place that was taken once. -/
def Tab.spot? (t : Tab α) (i : Int) : Option (Spot α) := if 0 ≤ i then t.spots[i.toNat]? else none
/-- What is there at a place. -/
def Tab.live (t : Tab α) (i : Int) : Option (Spot α) := (t.spot? i).filter (·.there)
def Tab.atIdx (t : Tab α) (i : Int) : Int := match t.live i with | some _ => i | none => 0
def Tab.atGen (t : Tab α) (i : Int) : Int := match t.live i with | some s => s.gen | none => 0
def Tab.atIs (t : Tab α) (i : Int) : Bool := (t.live i).isSome
/-- Does the ref name something? -/
def Tab.has (t : Tab α) (i g : Int) : Bool := match t.live i with | some s => decide (s.gen = g) | none => false
def Tab.takeAt (t : Tab α) : Nat := t.freed.getLast?.getD t.spots.length
def Tab.take (z : α) (t : Tab α) : Tab α := match t.freed with
  | [] => { t with spots := t.spots ++ [⟨t.first, false, z⟩] }
  | _ :: _ => { t with freed := t.freed.dropLast }
def Tab.genAt (t : Tab α) (i : Nat) : Int := match t.spots[i]? with | some s => s.gen | none => t.first
def Tab.fill (t : Tab α) (i : Nat) (x : α) : Tab α := { t with spots := t.spots.set i ⟨t.genAt i, true, x⟩ }
def Tab.put (z : α) (t : Tab α) (x : α) : Tab α := (t.take z).fill t.takeAt x
def Tab.drop (z : α) (t : Tab α) (i : Nat) (g : Int) : Tab α :=
  { t with spots := t.spots.set i ⟨g + 1, false, z⟩, freed := if topG ≤ g + 1 then t.freed else t.freed ++ [i], retired := if topG ≤ g + 1 then t.retired + 1 else t.retired }

/-- The table in which another thing is at a place. -/
def Tab.thing (t : Tab α) (i : Nat) (x : α) : Tab α := match t.spots[i]? with | some s => { t with spots := t.spots.set i { s with thing := x } } | none => t
theorem live_iff {t : Tab α} {i : Int} {s : Spot α} : t.live i = some s ↔ 0 ≤ i ∧ t.spots[i.toNat]? = some s ∧ s.there = true := by
  unfold Tab.live Tab.spot?
  by_cases h : 0 ≤ i
  · simp [h, Option.filter_eq_some_iff]
  · simp [h]
theorem live_nat {t : Tab α} {i : Nat} {s : Spot α} : t.live (i : Nat) = some s ↔ t.spots[i]? = some s ∧ s.there = true := by
  rw [live_iff]; simp
theorem has_iff {t : Tab α} {i g : Int} : t.has i g = true ↔ ∃ s, t.live i = some s ∧ s.gen = g := by
  unfold Tab.has
  cases h : t.live i with
  | none => simp
  | some s => simp
theorem live_none {t : Tab α} {i : Int} (h : t.live i = none) : t.atIdx i = 0 ∧ t.atGen i = 0 ∧ t.atIs i = false ∧ ∀ g, t.has i g = false := by
  unfold Tab.atIdx Tab.atGen Tab.atIs Tab.has
  simp [h]
theorem live_some {t : Tab α} {i : Int} {s : Spot α} (h : t.live i = some s) : t.atIdx i = i ∧ t.atGen i = s.gen ∧ t.atIs i = true := by
  unfold Tab.atIdx Tab.atGen Tab.atIs
  simp [h]
theorem live_cases (t : Tab α) (i : Int) : (∃ s, t.live i = some s) ∨ t.live i = none := by
  cases h : t.live i with
  | none => exact .inr rfl
  | some s => exact .inl ⟨s, rfl⟩

theorem take_nil {z : α} {t : Tab α} (h : t.freed = []) : t.take z = { t with spots := t.spots ++ [⟨t.first, false, z⟩] } ∧ t.takeAt = t.spots.length := by
  unfold Tab.take Tab.takeAt
  rw [h]; exact ⟨rfl, rfl⟩
theorem take_cons {z : α} {t : Tab α} {l : List Nat} {k : Nat} (h : t.freed = l ++ [k]) : t.take z = { t with freed := l } ∧ t.takeAt = k := by
  unfold Tab.take Tab.takeAt
  rw [h]
  constructor
  · cases hl : l ++ [k] with
    | nil => simp at hl
    | cons a b => simp [← hl]
  · simp
/-- The place whose turn it is, and what it is like: not there, below the last generation, no longer free. -/
theorem Tab.WF.take_at {z : α} {t : Tab α} (h : t.WF) (hf : t.frees ≠ 0) :
    ∃ s, (t.take z).spots[t.takeAt]? = some s ∧ s.there = false ∧ s.gen < topG ∧ t.first ≤ s.gen ∧ t.takeAt ∉ (t.take z).freed ∧ t.live t.takeAt = none ∧ s.gen = t.genAt t.takeAt ∧ (t.takeAt : Int) < t.size := by
  rcases List.eq_nil_or_concat t.freed with hn | ⟨l, k, hk⟩
  · obtain ⟨e1, e2⟩ := take_nil (z := z) hn
    have hlt : (t.spots.length : Int) < t.size := by have := h.len; unfold Tab.frees at hf; rw [hn] at hf; simp at hf; omega
    refine ⟨⟨t.first, false, z⟩, by rw [e1, e2]; simp, rfl, h.f1, Int.le_refl _, by rw [e1, e2]; show _ ∉ t.freed; rw [hn]; simp, ?_, ?_, by rw [e2]; exact hlt⟩
    · rw [e2]
      cases hl : t.live (t.spots.length : Nat) with
      | none => rfl
      | some s => have := (live_nat.1 hl).1; simp at this
    · rw [e2]; unfold Tab.genAt; simp
  · rw [List.concat_eq_append] at hk
    obtain ⟨e1, e2⟩ := take_cons (z := z) hk
    obtain ⟨s, hs, hth, hg⟩ := h.free k (by rw [hk]; simp)
    refine ⟨s, by rw [e1, e2]; exact hs, hth, hg, (h.gens k s hs).1, ?_, ?_, ?_, ?_⟩
    · rw [e1, e2]
      have := h.nodup
      rw [hk, List.nodup_append] at this
      intro hm
      exact this.2.2 k hm k (by simp) rfl
    · rw [e2]
      cases hl : t.live (k : Nat) with
      | none => rfl
      | some s' =>
        obtain ⟨h1, h2⟩ := live_nat.1 hl
        rw [hs] at h1; cases h1; rw [hth] at h2; cases h2
    · rw [e2]; unfold Tab.genAt; rw [hs]
    · rw [e2]; have := (List.getElem?_eq_some_iff.1 hs).1; have := h.len; omega
/-- The spots behind the place was taken, at another place. -/
theorem take_other {z : α} {t : Tab α} {k : Nat} (hk : k ≠ t.takeAt) : (t.take z).spots[k]? = t.spots[k]? := by
  rcases List.eq_nil_or_concat t.freed with hn | ⟨l, j, hj⟩
  · obtain ⟨e1, e2⟩ := take_nil (z := z) hn
    rw [e1]
    show (t.spots ++ _)[k]? = _
    rw [e2] at hk
    rcases Nat.lt_or_ge k t.spots.length with h | h
    · rw [List.getElem?_append_left h]
    · rw [List.getElem?_append_right h, List.getElem?_eq_none h, List.getElem?_eq_none]
      simp; omega
  · rw [List.concat_eq_append] at hj
    rw [(take_cons (z := z) hj).1]
theorem put_eq {z : α} {t : Tab α} (h : t.WF) (hf : t.frees ≠ 0) (x : α) :
    (t.put z x) = { (t.take z) with spots := (t.take z).spots.set t.takeAt ⟨t.genAt t.takeAt, true, x⟩ } := by
  obtain ⟨s, hs, _, _, _, _, _, hg, _⟩ := h.take_at (z := z) hf
  unfold Tab.put Tab.fill
  have : (t.take z).genAt t.takeAt = t.genAt t.takeAt := by
    conv => lhs; unfold Tab.genAt
    rw [hs]; exact hg
  rw [this]
theorem put_spots {z : α} {t : Tab α} (h : t.WF) (hf : t.frees ≠ 0) (x : α) (k : Nat) :
    (t.put z x).spots[k]? = if k = t.takeAt then some ⟨t.genAt t.takeAt, true, x⟩ else t.spots[k]? := by
  obtain ⟨s, hs, _⟩ := h.take_at (z := z) hf
  rw [put_eq h hf x]
  show ((t.take z).spots.set t.takeAt _)[k]? = _
  by_cases hk : k = t.takeAt
  · subst hk
    rw [if_pos rfl, List.getElem?_set_self (List.getElem?_eq_some_iff.1 hs).1]
  · rw [if_neg hk, List.getElem?_set_ne (fun e => hk e.symm), take_other hk]
theorem put_freed {z : α} {t : Tab α} (h : t.WF) (hf : t.frees ≠ 0) (x : α) (k : Nat) : k ∈ (t.put z x).freed ↔ k ∈ t.freed ∧ k ≠ t.takeAt := by
  rw [put_eq h hf x]
  show k ∈ (t.take z).freed ↔ _
  rcases List.eq_nil_or_concat t.freed with hn | ⟨l, j, hj⟩
  · obtain ⟨e1, e2⟩ := take_nil (z := z) hn
    rw [e1]; show k ∈ t.freed ↔ _; rw [hn]; simp
  · rw [List.concat_eq_append] at hj
    obtain ⟨e1, e2⟩ := take_cons (z := z) hj
    rw [e1, e2]
    show k ∈ l ↔ _
    rw [hj]
    have := h.nodup
    rw [hj, List.nodup_append] at this
    simp only [List.mem_append, List.mem_singleton]
    constructor
    · intro hm
      exact ⟨.inl hm, fun e => this.2.2 k hm j (by simp) e⟩
    · rintro ⟨h1 | h1, h2⟩
      · exact h1
      · exact absurd h1 h2
theorem put_same {z : α} {t : Tab α} (x : α) : (t.put z x).size = t.size ∧ (t.put z x).first = t.first ∧ (t.put z x).retired = t.retired := by
  unfold Tab.put Tab.fill Tab.take
  cases t.freed <;> exact ⟨rfl, rfl, rfl⟩
theorem put_frees {z : α} {t : Tab α} (h : t.WF) (hf : t.frees ≠ 0) (x : α) : (t.put z x).frees = t.frees - 1 := by
  rw [put_eq h hf x]
  rcases List.eq_nil_or_concat t.freed with hn | ⟨l, j, hj⟩
  · rw [(take_nil (z := z) hn).1]; unfold Tab.frees; simp; omega
  · rw [List.concat_eq_append] at hj
    rw [(take_cons (z := z) hj).1]; unfold Tab.frees; simp [hj]; omega
theorem countP_set {β : Type} (p : β → Bool) (l : List β) (k : Nat) (x y : β) (h : l[k]? = some x) (hx : p x = p y) : (l.set k y).countP p = l.countP p := by
  have hlt := (List.getElem?_eq_some_iff.1 h).1
  have hv := (List.getElem?_eq_some_iff.1 h).2
  rw [List.countP_set hlt, hv, hx]
  by_cases hp : p y = true
  · have : 0 < l.countP p := by
      rw [List.countP_pos_iff]
      exact ⟨x, by rw [← hv]; exact List.getElem_mem hlt, by rw [hx]; exact hp⟩
    simp [hp]; omega
  · simp [hp]
theorem Tab.WF.put {z : α} {t : Tab α} (h : t.WF) (hf : t.frees ≠ 0) (x : α) : (t.put z x).WF := by
  obtain ⟨s, hs, hth, hg, hfg, hnf, hlv, hgen, hlt⟩ := h.take_at (z := z) hf
  obtain ⟨p1, p2, p3⟩ := put_same (z := z) (t := t) x
  refine ⟨by rw [p1]; exact h.s0, by rw [p1]; exact h.s1, by rw [p2]; exact h.f0, by rw [p2]; exact h.f1, ?_, ?_, ?_, ?_, ?_, ?_⟩
  · rw [p1]
    have : ((t.put z x).spots.length : Int) = ((t.take z).spots.length : Nat) := by rw [put_eq h hf x]; simp
    rw [this]
    rcases List.eq_nil_or_concat t.freed with hn | ⟨l, j, hj⟩
    · obtain ⟨e1, e2⟩ := take_nil (z := z) hn
      rw [e1]; rw [e2] at hlt; simp; omega
    · rw [List.concat_eq_append] at hj
      rw [(take_cons (z := z) hj).1]; exact h.len
  · intro k hk
    obtain ⟨hk1, hk2⟩ := (put_freed h hf x k).1 hk
    obtain ⟨s', h1, h2, h3⟩ := h.free k hk1
    exact ⟨s', by rw [put_spots h hf, if_neg hk2]; exact h1, h2, h3⟩
  · rw [put_eq h hf x]
    show (t.take z).freed.Nodup
    rcases List.eq_nil_or_concat t.freed with hn | ⟨l, j, hj⟩
    · rw [(take_nil (z := z) hn).1]; exact h.nodup
    · rw [List.concat_eq_append] at hj
      rw [(take_cons (z := z) hj).1]
      have := h.nodup
      rw [hj, List.nodup_append] at this
      exact this.1
  · intro k s' hk
    rw [put_spots h hf] at hk
    rw [p2]
    by_cases e : k = t.takeAt
    · rw [if_pos e] at hk; cases hk
      exact ⟨by show t.first ≤ t.genAt _; rw [← hgen]; exact hfg, by show t.genAt _ ≤ _; omega, fun _ => by show t.genAt _ < _; omega⟩
    · rw [if_neg e] at hk; exact h.gens k s' hk
  · intro k s' hk h1 h2
    rw [put_spots h hf] at hk
    by_cases e : k = t.takeAt
    · rw [if_pos e] at hk; cases hk; cases h1
    · rw [if_neg e] at hk
      exact (put_freed h hf x k).2 ⟨h.empties k s' hk h1 h2, e⟩
  · rw [p3, h.ret, put_eq h hf x]
    have hne : (s.gen == topG) = false := by simp; omega
    have e0 : (t.take z).spots.countP (fun s => s.gen == topG) = t.spots.countP (fun s => s.gen == topG) := by
      rcases List.eq_nil_or_concat t.freed with hn | ⟨l, j, hj⟩
      · rw [(take_nil (z := z) hn).1]
        show (t.spots ++ _).countP _ = _
        rw [List.countP_append]
        have : (t.first == topG) = false := by simp; have := h.f1; omega
        simp [this]
      · rw [List.concat_eq_append] at hj
        rw [(take_cons (z := z) hj).1]
    show ((t.spots.countP _ : Nat) : Int) = (((t.take z).spots.set t.takeAt _).countP _ : Nat)
    rw [countP_set _ _ _ s _ hs (by simp only; rw [hgen]), e0]
theorem Tab.WF.set {t : Tab α} (h : t.WF) {i : Nat} {s : Spot α} (hs : t.spots[i]? = some s) (x : α) : ({ t with spots := t.spots.set i { s with thing := x } } : Tab α).WF := by
  have hlt := (List.getElem?_eq_some_iff.1 hs).1
  have key : ∀ (k : Nat) (s' : Spot α), (t.spots.set i { s with thing := x })[k]? = some s' → ∃ s0 : Spot α, t.spots[k]? = some s0 ∧ s0.gen = s'.gen ∧ s0.there = s'.there := by
    intro k s' hk
    by_cases e : k = i
    · subst e; rw [List.getElem?_set_self hlt] at hk; cases hk; exact ⟨s, hs, rfl, rfl⟩
    · rw [List.getElem?_set_ne (fun e' => e e'.symm)] at hk; exact ⟨s', hk, rfl, rfl⟩
  refine ⟨h.s0, h.s1, h.f0, h.f1, by show ((t.spots.set _ _).length : Int) ≤ _; rw [List.length_set]; exact h.len, ?_, h.nodup, ?_, ?_, ?_⟩
  · intro k hk
    obtain ⟨s', h1, h2, h3⟩ := h.free k hk
    by_cases e : k = i
    · subst e; rw [hs] at h1; cases h1
      exact ⟨_, List.getElem?_set_self hlt, h2, h3⟩
    · exact ⟨s', by show (t.spots.set _ _)[k]? = _; rw [List.getElem?_set_ne (fun e' => e e'.symm)]; exact h1, h2, h3⟩
  · intro k s' hk
    obtain ⟨s0, h0, h1, h2⟩ := key k s' hk
    have := h.gens k s0 h0
    rw [h1, h2] at this; exact this
  · intro k s' hk h1 h2
    obtain ⟨s0, h0, h3, h4⟩ := key k s' hk
    exact h.empties k s0 h0 (by rw [h4]; exact h1) (by rw [h3]; exact h2)
  · show t.retired = ((t.spots.set i _).countP _ : Nat)
    rw [countP_set (fun s : Spot α => s.gen == topG) _ _ s { s with thing := x } hs rfl]; exact h.ret
theorem drop_spots {z : α} {t : Tab α} {i : Nat} {g : Int} (hi : i < t.spots.length) (k : Nat) : (t.drop z i g).spots[k]? = if k = i then some ⟨g + 1, false, z⟩ else t.spots[k]? := by
  unfold Tab.drop
  show (t.spots.set i _)[k]? = _
  by_cases e : k = i
  · subst e; rw [if_pos rfl, List.getElem?_set_self hi]
  · rw [if_neg e, List.getElem?_set_ne (fun e' => e e'.symm)]
theorem drop_freed {z : α} {t : Tab α} {i : Nat} {g : Int} : (t.drop z i g).freed = if topG ≤ g + 1 then t.freed else t.freed ++ [i] := rfl
theorem Tab.WF.drop {z : α} {t : Tab α} (h : t.WF) {i : Nat} {s : Spot α} (hs : t.spots[i]? = some s) (hth : s.there = true) : (t.drop z i s.gen).WF := by
  have hlt := (List.getElem?_eq_some_iff.1 hs).1
  have hv := (List.getElem?_eq_some_iff.1 hs).2
  obtain ⟨g1, g2, g3⟩ := h.gens i s hs
  have g4 := g3 hth
  have hnf : i ∉ t.freed := fun hm => by
    obtain ⟨s', h1, h2, _⟩ := h.free i hm
    rw [hs] at h1; cases h1; rw [hth] at h2; cases h2
  have key := @drop_spots _ z t i s.gen hlt
  refine ⟨h.s0, h.s1, h.f0, h.f1, by show ((t.spots.set _ _).length : Int) ≤ _; rw [List.length_set]; exact h.len, ?_, ?_, ?_, ?_, ?_⟩
  · intro k hk
    rw [drop_freed] at hk
    rw [key]
    by_cases e : k = i
    · subst e
      rw [if_pos rfl]
      refine ⟨_, rfl, rfl, ?_⟩
      show s.gen + 1 < topG
      split at hk
      · exact absurd hk hnf
      · omega
    · rw [if_neg e]
      refine h.free k ?_
      split at hk
      · exact hk
      · simp at hk; rcases hk with h1 | h1
        · exact h1
        · exact absurd h1 e
  · rw [drop_freed]
    split
    · exact h.nodup
    · rw [List.nodup_append]
      exact ⟨h.nodup, by simp, fun a ha b hb => by simp at hb; subst hb; rintro rfl; exact hnf ha⟩
  · intro k s' hk
    rw [key] at hk
    by_cases e : k = i
    · rw [if_pos e] at hk; cases hk
      refine ⟨?_, ?_, fun h => by cases h⟩
      · show t.first ≤ s.gen + 1; omega
      · show s.gen + 1 ≤ topG; omega
    · rw [if_neg e] at hk; exact h.gens k s' hk
  · intro k s' hk h1 h2
    rw [key] at hk
    rw [drop_freed]
    by_cases e : k = i
    · rw [if_pos e] at hk; cases hk
      have h2' : s.gen + 1 < topG := h2
      rw [if_neg (by omega)]
      subst e; simp
    · rw [if_neg e] at hk
      have := h.empties k s' hk h1 h2
      split
      · exact this
      · simp [this]
  · show (if topG ≤ s.gen + 1 then t.retired + 1 else t.retired) = ((t.spots.set i _).countP _ : Nat)
    have hne : (s.gen == topG) = false := by simp; omega
    rw [List.countP_set hlt, hv]
    simp only [hne]
    rw [h.ret]
    by_cases e : topG ≤ s.gen + 1
    · have he : (s.gen + 1 == topG) = true := by simp; omega
      rw [if_pos e]; simp [he]
    · have he : (s.gen + 1 == topG) = false := by simp; omega
      rw [if_neg e]; simp [he]
/-- May there be such a table? -/
def mayT (size first : Int) : Bool := decide (1 ≤ size) && decide (size ≤ 4096) && decide (1 ≤ first) && decide (first ≤ 18446744073709551614)
theorem mayT_iff {size first : Int} : mayT size first = true ↔ 1 ≤ size ∧ size ≤ 4096 ∧ 1 ≤ first ∧ first < topG := by
  unfold mayT; rw [topG_val]; simp [and_assoc]; omega
theorem Tab.WF.new {size first : Int} (h0 : 1 ≤ size) (h1 : size ≤ 4096) (h2 : 1 ≤ first) (h3 : first < topG) : (⟨size, first, [], [], 0⟩ : Tab α).WF :=
  ⟨h0, h1, h2, h3, by simp; omega, by simp, by simp, by simp, by simp, by simp⟩
end Go.Proofs
