import Derived.Test.YtgelpbmjgebnhaaProg
import Derived.Test.YtgelpbmjgebnhaaM1
import Derived.WalkKit
import Derived.WalkSpells
import Derived.Laws.Pointers
import Derived.Outline
import Derived.BigQuiet
import Derived.Deep.QuietTactic
import Derived.Deep.DeepFit
import Derived.Deep.RegionHeld3
import Derived.Deep.RegionLaw
import Derived.KernelRfl
import Derived.IntWalk
import Derived.LoopTactic
import Derived.StillTailTactics
import Derived.BigRegion
import Derived.Laws.StructEq
import Derived.Deep.Upon
import Derived.Lib.AppendZerosOnto
import Derived.Lib.SliceRun
section
namespace Go.Proofs
open Go.RowKit
set_option linter.unusedVariables false

/-! ### Elements of several cells, in a row -/
section
variable {α : Type} {enc : α → List Value} {s : Nat}
theorem flat_len (hs : ∀ x, (enc x).length = s) (l : List α) : (l.flatMap enc).length = l.length * s := by
  induction l with
  | nil => simp
  | cons x l ih => rw [List.flatMap_cons, List.length_append, ih, hs, List.length_cons, Nat.add_mul]; omega
theorem flat_at (hs : ∀ x, (enc x).length = s) {l : List α} {k j : Nat} {x : α} {u : Value} (hk : l[k]? = some x) (hj : (enc x)[j]? = some u) : (l.flatMap enc)[k * s + j]? = some u := by
  induction l generalizing k with
  | nil => simp at hk
  | cons y l ih =>
    cases k with
    | zero =>
      simp at hk
      subst hk
      have hl := (List.getElem?_eq_some_iff.1 hj).1
      rw [List.flatMap_cons, List.getElem?_append_left (by omega), Nat.zero_mul, Nat.zero_add]
      exact hj
    | succ k =>
      simp at hk
      rw [List.flatMap_cons, List.getElem?_append_right (by rw [hs, Nat.add_mul]; omega), hs]
      rw [show (k + 1) * s + j - s = k * s + j by rw [Nat.add_mul]; omega]
      exact ih hk
theorem flat_take (hs : ∀ x, (enc x).length = s) (l : List α) (k : Nat) : (l.flatMap enc).take (k * s) = (l.take k).flatMap enc := by
  induction l generalizing k with
  | nil => simp
  | cons x l ih =>
    cases k with
    | zero => simp
    | succ k =>
      have h := hs x
      rw [List.take_succ_cons, List.flatMap_cons, List.flatMap_cons, ← ih k, List.take_append, h]
      rw [List.take_of_length_le (by rw [h, Nat.add_mul]; omega)]
      congr 2
      rw [Nat.add_mul]; omega
theorem flat_drop (hs : ∀ x, (enc x).length = s) (l : List α) (k : Nat) : (l.flatMap enc).drop (k * s) = (l.drop k).flatMap enc := by
  induction l generalizing k with
  | nil => simp
  | cons x l ih =>
    cases k with
    | zero => simp
    | succ k =>
      have h := hs x
      rw [List.drop_succ_cons, List.flatMap_cons, ← ih k, List.drop_append, h]
      rw [List.drop_eq_nil_of_le (by rw [h, Nat.add_mul]; omega), List.nil_append]
      congr 1
      rw [Nat.add_mul]; omega
end
theorem Blk.at (w : World) (t : TypeId) (cs : Array Value) {n : Nat} (h : n = w.heap.size) : Blk (w.alloc (.cells cs t)) n t cs := by subst h; exact Blk.new w t cs
end Go.Proofs
end
section
namespace Go.Proofs
open Go.RowKit
set_option linter.unusedVariables false

/-! ### A table, plainly -/
structure Spot (α : Type) where
  gen : Int
  there : Bool
  thing : α
structure Tab (α : Type) where
  size : Int
  first : Int
  spots : List (Spot α)
  freed : List Nat
  retired : Int
/-- The number above the last generation: a retired place has it. -/
def topG : Int := 18446744073709551615
theorem topG_val : topG = 18446744073709551615 := rfl
variable {α : Type}
def Tab.frees (t : Tab α) : Int := t.size - t.spots.length + t.freed.length
structure Tab.WF (t : Tab α) : Prop where
  s0 : 1 ≤ t.size
  s1 : t.size ≤ 4096
  f0 : 1 ≤ t.first
  f1 : t.first < topG
  len : (t.spots.length : Int) ≤ t.size
  free : ∀ k ∈ t.freed, ∃ s : Spot α, t.spots[k]? = some s ∧ s.there = false ∧ s.gen < topG
  nodup : t.freed.Nodup
  gens : ∀ (k : Nat) (s : Spot α), t.spots[k]? = some s → t.first ≤ s.gen ∧ s.gen ≤ topG ∧ (s.there = true → s.gen < topG)
  empties : ∀ (k : Nat) (s : Spot α), t.spots[k]? = some s → s.there = false → s.gen < topG → k ∈ t.freed
  ret : t.retired = (t.spots.countP (fun s : Spot α => s.gen == topG) : Nat)
theorem nodup_len {l : List Nat} {n : Nat} (hn : l.Nodup) (hb : ∀ k ∈ l, k < n) : l.length ≤ n := by
  have h := hn.length_le_of_subset (l₂ := List.range n) (fun k hk => List.mem_range.2 (hb k hk))
  simpa using h
theorem Tab.WF.freed_lt {t : Tab α} (h : t.WF) : ∀ k ∈ t.freed, k < t.spots.length := fun k hk => by
  obtain ⟨s, hs, _⟩ := h.free k hk
  exact (List.getElem?_eq_some_iff.1 hs).1
theorem Tab.WF.freed_len {t : Tab α} (h : t.WF) : t.freed.length ≤ t.spots.length := nodup_len h.nodup h.freed_lt
theorem Tab.WF.ret_bd {t : Tab α} (h : t.WF) : 0 ≤ t.retired ∧ t.retired ≤ t.spots.length := by
  have := List.countP_le_length (p := fun s : Spot α => s.gen == topG) (l := t.spots)
  rw [h.ret]; omega

/-- The spot at a place that was taken once. -/
def Tab.spot? (t : Tab α) (i : Int) : Option (Spot α) := if 0 ≤ i then t.spots[i.toNat]? else none
/-- What is there at a place. -/
def Tab.live (t : Tab α) (i : Int) : Option (Spot α) := (t.spot? i).filter (·.there)
def Tab.atIdx (t : Tab α) (i : Int) : Int := match t.live i with | some _ => i | none => 0
def Tab.atGen (t : Tab α) (i : Int) : Int := match t.live i with | some s => s.gen | none => 0
def Tab.atIs (t : Tab α) (i : Int) : Bool := (t.live i).isSome
/-- Does the ref name something? -/
def Tab.has (t : Tab α) (i g : Int) : Bool := match t.live i with | some s => decide (s.gen = g) | none => false
def Tab.takeAt (t : Tab α) : Nat := t.freed.getLast?.getD t.spots.length
def Tab.take (z : α) (t : Tab α) : Tab α := match t.freed with
  | [] => { t with spots := t.spots ++ [⟨t.first, false, z⟩] }
  | _ :: _ => { t with freed := t.freed.dropLast }
def Tab.genAt (t : Tab α) (i : Nat) : Int := match t.spots[i]? with | some s => s.gen | none => t.first
def Tab.fill (t : Tab α) (i : Nat) (x : α) : Tab α := { t with spots := t.spots.set i ⟨t.genAt i, true, x⟩ }
def Tab.put (z : α) (t : Tab α) (x : α) : Tab α := (t.take z).fill t.takeAt x
def Tab.drop (z : α) (t : Tab α) (i : Nat) (g : Int) : Tab α :=
  { t with spots := t.spots.set i ⟨g + 1, false, z⟩, freed := if topG ≤ g + 1 then t.freed else t.freed ++ [i], retired := if topG ≤ g + 1 then t.retired + 1 else t.retired }

/-- The table in which another thing is at a place. -/
def Tab.thing (t : Tab α) (i : Nat) (x : α) : Tab α := match t.spots[i]? with | some s => { t with spots := t.spots.set i { s with thing := x } } | none => t
theorem live_iff {t : Tab α} {i : Int} {s : Spot α} : t.live i = some s ↔ 0 ≤ i ∧ t.spots[i.toNat]? = some s ∧ s.there = true := by
  unfold Tab.live Tab.spot?
  by_cases h : 0 ≤ i
  · simp [h, Option.filter_eq_some_iff]
  · simp [h]
theorem live_nat {t : Tab α} {i : Nat} {s : Spot α} : t.live (i : Nat) = some s ↔ t.spots[i]? = some s ∧ s.there = true := by
  rw [live_iff]; simp
theorem has_iff {t : Tab α} {i g : Int} : t.has i g = true ↔ ∃ s, t.live i = some s ∧ s.gen = g := by
  unfold Tab.has
  cases h : t.live i with
  | none => simp
  | some s => simp
theorem live_none {t : Tab α} {i : Int} (h : t.live i = none) : t.atIdx i = 0 ∧ t.atGen i = 0 ∧ t.atIs i = false ∧ ∀ g, t.has i g = false := by
  unfold Tab.atIdx Tab.atGen Tab.atIs Tab.has
  simp [h]
theorem live_some {t : Tab α} {i : Int} {s : Spot α} (h : t.live i = some s) : t.atIdx i = i ∧ t.atGen i = s.gen ∧ t.atIs i = true := by
  unfold Tab.atIdx Tab.atGen Tab.atIs
  simp [h]
theorem live_cases (t : Tab α) (i : Int) : (∃ s, t.live i = some s) ∨ t.live i = none := by
  cases h : t.live i with
  | none => exact .inr rfl
  | some s => exact .inl ⟨s, rfl⟩

theorem take_nil {z : α} {t : Tab α} (h : t.freed = []) : t.take z = { t with spots := t.spots ++ [⟨t.first, false, z⟩] } ∧ t.takeAt = t.spots.length := by
  unfold Tab.take Tab.takeAt
  rw [h]; exact ⟨rfl, rfl⟩
theorem take_cons {z : α} {t : Tab α} {l : List Nat} {k : Nat} (h : t.freed = l ++ [k]) : t.take z = { t with freed := l } ∧ t.takeAt = k := by
  unfold Tab.take Tab.takeAt
  rw [h]
  constructor
  · cases hl : l ++ [k] with
    | nil => simp at hl
    | cons a b => simp [← hl]
  · simp
/-- The place whose turn it is, and what it is like: not there, below the last generation, no longer free. -/
theorem Tab.WF.take_at {z : α} {t : Tab α} (h : t.WF) (hf : t.frees ≠ 0) :
    ∃ s, (t.take z).spots[t.takeAt]? = some s ∧ s.there = false ∧ s.gen < topG ∧ t.first ≤ s.gen ∧ t.takeAt ∉ (t.take z).freed ∧ t.live t.takeAt = none ∧ s.gen = t.genAt t.takeAt ∧ (t.takeAt : Int) < t.size := by
  rcases List.eq_nil_or_concat t.freed with hn | ⟨l, k, hk⟩
  · obtain ⟨e1, e2⟩ := take_nil (z := z) hn
    have hlt : (t.spots.length : Int) < t.size := by have := h.len; unfold Tab.frees at hf; rw [hn] at hf; simp at hf; omega
    refine ⟨⟨t.first, false, z⟩, by rw [e1, e2]; simp, rfl, h.f1, Int.le_refl _, by rw [e1, e2]; show _ ∉ t.freed; rw [hn]; simp, ?_, ?_, by rw [e2]; exact hlt⟩
    · rw [e2]
      cases hl : t.live (t.spots.length : Nat) with
      | none => rfl
      | some s => have := (live_nat.1 hl).1; simp at this
    · rw [e2]; unfold Tab.genAt; simp
  · rw [List.concat_eq_append] at hk
    obtain ⟨e1, e2⟩ := take_cons (z := z) hk
    obtain ⟨s, hs, hth, hg⟩ := h.free k (by rw [hk]; simp)
    refine ⟨s, by rw [e1, e2]; exact hs, hth, hg, (h.gens k s hs).1, ?_, ?_, ?_, ?_⟩
    · rw [e1, e2]
      have := h.nodup
      rw [hk, List.nodup_append] at this
      intro hm
      exact this.2.2 k hm k (by simp) rfl
    · rw [e2]
      cases hl : t.live (k : Nat) with
      | none => rfl
      | some s' =>
        obtain ⟨h1, h2⟩ := live_nat.1 hl
        rw [hs] at h1; cases h1; rw [hth] at h2; cases h2
    · rw [e2]; unfold Tab.genAt; rw [hs]
    · rw [e2]; have := (List.getElem?_eq_some_iff.1 hs).1; have := h.len; omega
/-- The spots behind the place was taken, at another place. -/
theorem take_other {z : α} {t : Tab α} {k : Nat} (hk : k ≠ t.takeAt) : (t.take z).spots[k]? = t.spots[k]? := by
  rcases List.eq_nil_or_concat t.freed with hn | ⟨l, j, hj⟩
  · obtain ⟨e1, e2⟩ := take_nil (z := z) hn
    rw [e1]
    show (t.spots ++ _)[k]? = _
    rw [e2] at hk
    rcases Nat.lt_or_ge k t.spots.length with h | h
    · rw [List.getElem?_append_left h]
    · rw [List.getElem?_append_right h, List.getElem?_eq_none h, List.getElem?_eq_none]
      simp; omega
  · rw [List.concat_eq_append] at hj
    rw [(take_cons (z := z) hj).1]
theorem put_eq {z : α} {t : Tab α} (h : t.WF) (hf : t.frees ≠ 0) (x : α) :
    (t.put z x) = { (t.take z) with spots := (t.take z).spots.set t.takeAt ⟨t.genAt t.takeAt, true, x⟩ } := by
  obtain ⟨s, hs, _, _, _, _, _, hg, _⟩ := h.take_at (z := z) hf
  unfold Tab.put Tab.fill
  have : (t.take z).genAt t.takeAt = t.genAt t.takeAt := by
    conv => lhs; unfold Tab.genAt
    rw [hs]; exact hg
  rw [this]
theorem put_spots {z : α} {t : Tab α} (h : t.WF) (hf : t.frees ≠ 0) (x : α) (k : Nat) :
    (t.put z x).spots[k]? = if k = t.takeAt then some ⟨t.genAt t.takeAt, true, x⟩ else t.spots[k]? := by
  obtain ⟨s, hs, _⟩ := h.take_at (z := z) hf
  rw [put_eq h hf x]
  show ((t.take z).spots.set t.takeAt _)[k]? = _
  by_cases hk : k = t.takeAt
  · subst hk
    rw [if_pos rfl, List.getElem?_set_self (List.getElem?_eq_some_iff.1 hs).1]
  · rw [if_neg hk, List.getElem?_set_ne (fun e => hk e.symm), take_other hk]
theorem put_freed {z : α} {t : Tab α} (h : t.WF) (hf : t.frees ≠ 0) (x : α) (k : Nat) : k ∈ (t.put z x).freed ↔ k ∈ t.freed ∧ k ≠ t.takeAt := by
  rw [put_eq h hf x]
  show k ∈ (t.take z).freed ↔ _
  rcases List.eq_nil_or_concat t.freed with hn | ⟨l, j, hj⟩
  · obtain ⟨e1, e2⟩ := take_nil (z := z) hn
    rw [e1]; show k ∈ t.freed ↔ _; rw [hn]; simp
  · rw [List.concat_eq_append] at hj
    obtain ⟨e1, e2⟩ := take_cons (z := z) hj
    rw [e1, e2]
    show k ∈ l ↔ _
    rw [hj]
    have := h.nodup
    rw [hj, List.nodup_append] at this
    simp only [List.mem_append, List.mem_singleton]
    constructor
    · intro hm
      exact ⟨.inl hm, fun e => this.2.2 k hm j (by simp) e⟩
    · rintro ⟨h1 | h1, h2⟩
      · exact h1
      · exact absurd h1 h2
theorem put_same {z : α} {t : Tab α} (x : α) : (t.put z x).size = t.size ∧ (t.put z x).first = t.first ∧ (t.put z x).retired = t.retired := by
  unfold Tab.put Tab.fill Tab.take
  cases t.freed <;> exact ⟨rfl, rfl, rfl⟩
theorem put_frees {z : α} {t : Tab α} (h : t.WF) (hf : t.frees ≠ 0) (x : α) : (t.put z x).frees = t.frees - 1 := by
  rw [put_eq h hf x]
  rcases List.eq_nil_or_concat t.freed with hn | ⟨l, j, hj⟩
  · rw [(take_nil (z := z) hn).1]; unfold Tab.frees; simp; omega
  · rw [List.concat_eq_append] at hj
    rw [(take_cons (z := z) hj).1]; unfold Tab.frees; simp [hj]; omega
theorem countP_set {β : Type} (p : β → Bool) (l : List β) (k : Nat) (x y : β) (h : l[k]? = some x) (hx : p x = p y) : (l.set k y).countP p = l.countP p := by
  have hlt := (List.getElem?_eq_some_iff.1 h).1
  have hv := (List.getElem?_eq_some_iff.1 h).2
  rw [List.countP_set hlt, hv, hx]
  by_cases hp : p y = true
  · have : 0 < l.countP p := by
      rw [List.countP_pos_iff]
      exact ⟨x, by rw [← hv]; exact List.getElem_mem hlt, by rw [hx]; exact hp⟩
    simp [hp]; omega
  · simp [hp]
theorem Tab.WF.put {z : α} {t : Tab α} (h : t.WF) (hf : t.frees ≠ 0) (x : α) : (t.put z x).WF := by
  obtain ⟨s, hs, hth, hg, hfg, hnf, hlv, hgen, hlt⟩ := h.take_at (z := z) hf
  obtain ⟨p1, p2, p3⟩ := put_same (z := z) (t := t) x
  refine ⟨by rw [p1]; exact h.s0, by rw [p1]; exact h.s1, by rw [p2]; exact h.f0, by rw [p2]; exact h.f1, ?_, ?_, ?_, ?_, ?_, ?_⟩
  · rw [p1]
    have : ((t.put z x).spots.length : Int) = ((t.take z).spots.length : Nat) := by rw [put_eq h hf x]; simp
    rw [this]
    rcases List.eq_nil_or_concat t.freed with hn | ⟨l, j, hj⟩
    · obtain ⟨e1, e2⟩ := take_nil (z := z) hn
      rw [e1]; rw [e2] at hlt; simp; omega
    · rw [List.concat_eq_append] at hj
      rw [(take_cons (z := z) hj).1]; exact h.len
  · intro k hk
    obtain ⟨hk1, hk2⟩ := (put_freed h hf x k).1 hk
    obtain ⟨s', h1, h2, h3⟩ := h.free k hk1
    exact ⟨s', by rw [put_spots h hf, if_neg hk2]; exact h1, h2, h3⟩
  · rw [put_eq h hf x]
    show (t.take z).freed.Nodup
    rcases List.eq_nil_or_concat t.freed with hn | ⟨l, j, hj⟩
    · rw [(take_nil (z := z) hn).1]; exact h.nodup
    · rw [List.concat_eq_append] at hj
      rw [(take_cons (z := z) hj).1]
      have := h.nodup
      rw [hj, List.nodup_append] at this
      exact this.1
  · intro k s' hk
    rw [put_spots h hf] at hk
    rw [p2]
    by_cases e : k = t.takeAt
    · rw [if_pos e] at hk; cases hk
      exact ⟨by show t.first ≤ t.genAt _; rw [← hgen]; exact hfg, by show t.genAt _ ≤ _; omega, fun _ => by show t.genAt _ < _; omega⟩
    · rw [if_neg e] at hk; exact h.gens k s' hk
  · intro k s' hk h1 h2
    rw [put_spots h hf] at hk
    by_cases e : k = t.takeAt
    · rw [if_pos e] at hk; cases hk; cases h1
    · rw [if_neg e] at hk
      exact (put_freed h hf x k).2 ⟨h.empties k s' hk h1 h2, e⟩
  · rw [p3, h.ret, put_eq h hf x]
    have hne : (s.gen == topG) = false := by simp; omega
    have e0 : (t.take z).spots.countP (fun s => s.gen == topG) = t.spots.countP (fun s => s.gen == topG) := by
      rcases List.eq_nil_or_concat t.freed with hn | ⟨l, j, hj⟩
      · rw [(take_nil (z := z) hn).1]
        show (t.spots ++ _).countP _ = _
        rw [List.countP_append]
        have : (t.first == topG) = false := by simp; have := h.f1; omega
        simp [this]
      · rw [List.concat_eq_append] at hj
        rw [(take_cons (z := z) hj).1]
    show ((t.spots.countP _ : Nat) : Int) = (((t.take z).spots.set t.takeAt _).countP _ : Nat)
    rw [countP_set _ _ _ s _ hs (by simp only; rw [hgen]), e0]
theorem Tab.WF.set {t : Tab α} (h : t.WF) {i : Nat} {s : Spot α} (hs : t.spots[i]? = some s) (x : α) : ({ t with spots := t.spots.set i { s with thing := x } } : Tab α).WF := by
  have hlt := (List.getElem?_eq_some_iff.1 hs).1
  have key : ∀ (k : Nat) (s' : Spot α), (t.spots.set i { s with thing := x })[k]? = some s' → ∃ s0 : Spot α, t.spots[k]? = some s0 ∧ s0.gen = s'.gen ∧ s0.there = s'.there := by
    intro k s' hk
    by_cases e : k = i
    · subst e; rw [List.getElem?_set_self hlt] at hk; cases hk; exact ⟨s, hs, rfl, rfl⟩
    · rw [List.getElem?_set_ne (fun e' => e e'.symm)] at hk; exact ⟨s', hk, rfl, rfl⟩
  refine ⟨h.s0, h.s1, h.f0, h.f1, by show ((t.spots.set _ _).length : Int) ≤ _; rw [List.length_set]; exact h.len, ?_, h.nodup, ?_, ?_, ?_⟩
  · intro k hk
    obtain ⟨s', h1, h2, h3⟩ := h.free k hk
    by_cases e : k = i
    · subst e; rw [hs] at h1; cases h1
      exact ⟨_, List.getElem?_set_self hlt, h2, h3⟩
    · exact ⟨s', by show (t.spots.set _ _)[k]? = _; rw [List.getElem?_set_ne (fun e' => e e'.symm)]; exact h1, h2, h3⟩
  · intro k s' hk
    obtain ⟨s0, h0, h1, h2⟩ := key k s' hk
    have := h.gens k s0 h0
    rw [h1, h2] at this; exact this
  · intro k s' hk h1 h2
    obtain ⟨s0, h0, h3, h4⟩ := key k s' hk
    exact h.empties k s0 h0 (by rw [h4]; exact h1) (by rw [h3]; exact h2)
  · show t.retired = ((t.spots.set i _).countP _ : Nat)
    rw [countP_set (fun s : Spot α => s.gen == topG) _ _ s { s with thing := x } hs rfl]; exact h.ret
theorem drop_spots {z : α} {t : Tab α} {i : Nat} {g : Int} (hi : i < t.spots.length) (k : Nat) : (t.drop z i g).spots[k]? = if k = i then some ⟨g + 1, false, z⟩ else t.spots[k]? := by
  unfold Tab.drop
  show (t.spots.set i _)[k]? = _
  by_cases e : k = i
  · subst e; rw [if_pos rfl, List.getElem?_set_self hi]
  · rw [if_neg e, List.getElem?_set_ne (fun e' => e e'.symm)]
theorem drop_freed {z : α} {t : Tab α} {i : Nat} {g : Int} : (t.drop z i g).freed = if topG ≤ g + 1 then t.freed else t.freed ++ [i] := rfl
theorem Tab.WF.drop {z : α} {t : Tab α} (h : t.WF) {i : Nat} {s : Spot α} (hs : t.spots[i]? = some s) (hth : s.there = true) : (t.drop z i s.gen).WF := by
  have hlt := (List.getElem?_eq_some_iff.1 hs).1
  have hv := (List.getElem?_eq_some_iff.1 hs).2
  obtain ⟨g1, g2, g3⟩ := h.gens i s hs
  have g4 := g3 hth
  have hnf : i ∉ t.freed := fun hm => by
    obtain ⟨s', h1, h2, _⟩ := h.free i hm
    rw [hs] at h1; cases h1; rw [hth] at h2; cases h2
  have key := @drop_spots _ z t i s.gen hlt
  refine ⟨h.s0, h.s1, h.f0, h.f1, by show ((t.spots.set _ _).length : Int) ≤ _; rw [List.length_set]; exact h.len, ?_, ?_, ?_, ?_, ?_⟩
  · intro k hk
    rw [drop_freed] at hk
    rw [key]
    by_cases e : k = i
    · subst e
      rw [if_pos rfl]
      refine ⟨_, rfl, rfl, ?_⟩
      show s.gen + 1 < topG
      split at hk
      · exact absurd hk hnf
      · omega
    · rw [if_neg e]
      refine h.free k ?_
      split at hk
      · exact hk
      · simp at hk; rcases hk with h1 | h1
        · exact h1
        · exact absurd h1 e
  · rw [drop_freed]
    split
    · exact h.nodup
    · rw [List.nodup_append]
      exact ⟨h.nodup, by simp, fun a ha b hb => by simp at hb; subst hb; rintro rfl; exact hnf ha⟩
  · intro k s' hk
    rw [key] at hk
    by_cases e : k = i
    · rw [if_pos e] at hk; cases hk
      refine ⟨?_, ?_, fun h => by cases h⟩
      · show t.first ≤ s.gen + 1; omega
      · show s.gen + 1 ≤ topG; omega
    · rw [if_neg e] at hk; exact h.gens k s' hk
  · intro k s' hk h1 h2
    rw [key] at hk
    rw [drop_freed]
    by_cases e : k = i
    · rw [if_pos e] at hk; cases hk
      have h2' : s.gen + 1 < topG := h2
      rw [if_neg (by omega)]
      subst e; simp
    · rw [if_neg e] at hk
      have := h.empties k s' hk h1 h2
      split
      · exact this
      · simp [this]
  · show (if topG ≤ s.gen + 1 then t.retired + 1 else t.retired) = ((t.spots.set i _).countP _ : Nat)
    have hne : (s.gen == topG) = false := by simp; omega
    rw [List.countP_set hlt, hv]
    simp only [hne]
    rw [h.ret]
    by_cases e : topG ≤ s.gen + 1
    · have he : (s.gen + 1 == topG) = true := by simp; omega
      rw [if_pos e]; simp [he]
    · have he : (s.gen + 1 == topG) = false := by simp; omega
      rw [if_neg e]; simp [he]
/-- May there be such a table? -/
def mayT (size first : Int) : Bool := decide (1 ≤ size) && decide (size ≤ 4096) && decide (1 ≤ first) && decide (first ≤ 18446744073709551614)
theorem mayT_iff {size first : Int} : mayT size first = true ↔ 1 ≤ size ∧ size ≤ 4096 ∧ 1 ≤ first ∧ first < topG := by
  unfold mayT; rw [topG_val]; simp [and_assoc]; omega
theorem Tab.WF.new {size first : Int} (h0 : 1 ≤ size) (h1 : size ≤ 4096) (h2 : 1 ≤ first) (h3 : first < topG) : (⟨size, first, [], [], 0⟩ : Tab α).WF :=
  ⟨h0, h1, h2, h3, by simp; omega, by simp, by simp, by simp, by simp, by simp⟩
end Go.Proofs
end
section
namespace Go.Proofs
open Go.RowKit
set_option linter.unusedVariables false

/-! ### A table of contexts in memory -/
/-- A domain: its parent, limits, what is carved out of them, its own, those that live, what is used, how many children. -/
structure Dm where
  pi : Int
  pg : Int
  gs : Int
  cpu : Int
  per : Int
  cgs : Int
  car : Int
  own : Int
  live : Int
  used : Int
  ch : Int
def dm0 : Dm := ⟨0, 0, 0, 0, 0, 0, 0, 0, 0, 0, 0⟩
abbrev Dm.val (x : Dm) : Value := .agg #[.int .i64 x.pi, .int .u64 x.pg, .int .i64 x.gs, .int .u64 x.cpu, .int .u64 x.per, .int .i64 x.cgs, .int .u64 x.car, .int .i64 x.own, .int .i64 x.live, .int .u64 x.used, .int .i64 x.ch]
abbrev Dm.arr (x : Dm) : Array Value := #[.int .i64 x.pi, .int .u64 x.pg, .int .i64 x.gs, .int .u64 x.cpu, .int .u64 x.per, .int .i64 x.cgs, .int .u64 x.car, .int .i64 x.own, .int .i64 x.live, .int .u64 x.used, .int .i64 x.ch]
def Dm.cells (x : Dm) : List Value := [.int .i64 x.pi, .int .u64 x.pg, .int .i64 x.gs, .int .u64 x.cpu, .int .u64 x.per, .int .i64 x.cgs, .int .u64 x.car, .int .i64 x.own, .int .i64 x.live, .int .u64 x.used, .int .i64 x.ch]
def Spot.cells (s : Spot Dm) : List Value := [.int .u64 s.gen, .bool s.there, .int .i64 s.thing.pi, .int .u64 s.thing.pg, .int .i64 s.thing.gs, .int .u64 s.thing.cpu, .int .u64 s.thing.per, .int .i64 s.thing.cgs, .int .u64 s.thing.car, .int .i64 s.thing.own, .int .i64 s.thing.live, .int .u64 s.thing.used, .int .i64 s.thing.ch]
def spotCells (l : List (Spot Dm)) : List Value := l.flatMap Spot.cells
def numCells (l : List Nat) : List Value := l.map fun k => .int .i64 ((k : Nat) : Int)
theorem spotCells_len (l : List (Spot Dm)) : (spotCells l).length = l.length * 13 := flat_len (enc := Spot.cells) (s := 13) (fun _ => rfl) l
theorem spotCells_append (l l' : List (Spot Dm)) : spotCells (l ++ l') = spotCells l ++ spotCells l' := by unfold spotCells; simp
theorem spotCells_at (l : List (Spot Dm)) (k : Nat) (s : Spot Dm) (h : l[k]? = some s) :
    (spotCells l)[k * 13]? = some (.int .u64 s.gen) ∧ (spotCells l)[k * 13 + 1]? = some (.bool s.there) ∧ (spotCells l)[k * 13 + 2]? = some (.int .i64 s.thing.pi) ∧ (spotCells l)[k * 13 + 3]? = some (.int .u64 s.thing.pg) ∧ (spotCells l)[k * 13 + 4]? = some (.int .i64 s.thing.gs) ∧ (spotCells l)[k * 13 + 5]? = some (.int .u64 s.thing.cpu) ∧ (spotCells l)[k * 13 + 6]? = some (.int .u64 s.thing.per) ∧ (spotCells l)[k * 13 + 7]? = some (.int .i64 s.thing.cgs) ∧ (spotCells l)[k * 13 + 8]? = some (.int .u64 s.thing.car) ∧ (spotCells l)[k * 13 + 9]? = some (.int .i64 s.thing.own) ∧ (spotCells l)[k * 13 + 10]? = some (.int .i64 s.thing.live) ∧ (spotCells l)[k * 13 + 11]? = some (.int .u64 s.thing.used) ∧ (spotCells l)[k * 13 + 12]? = some (.int .i64 s.thing.ch) := by
  have e := fun j u => flat_at (enc := Spot.cells) (s := 13) (fun _ => rfl) (j := j) (u := u) h
  exact ⟨e 0 _ rfl, e 1 _ rfl, e 2 _ rfl, e 3 _ rfl, e 4 _ rfl, e 5 _ rfl, e 6 _ rfl, e 7 _ rfl, e 8 _ rfl, e 9 _ rfl, e 10 _ rfl, e 11 _ rfl, e 12 _ rfl⟩
/-- The eleven cells of a thing, set in a list. -/
abbrev set11 (m : List Value) (o : Nat) (x : Dm) : List Value := ((((((((((m.set o (.int .i64 x.pi)).set (o + 1) (.int .u64 x.pg)).set (o + 2) (.int .i64 x.gs)).set (o + 3) (.int .u64 x.cpu)).set (o + 4) (.int .u64 x.per)).set (o + 5) (.int .i64 x.cgs)).set (o + 6) (.int .u64 x.car)).set (o + 7) (.int .i64 x.own)).set (o + 8) (.int .i64 x.live)).set (o + 9) (.int .u64 x.used)).set (o + 10) (.int .i64 x.ch)
theorem spotCells_set : ∀ (l : List (Spot Dm)) (k : Nat) (s : Spot Dm), k < l.length →
    spotCells (l.set k s) = set11 (((spotCells l).set (k * 13) (.int .u64 s.gen)).set (k * 13 + 1) (.bool s.there)) (k * 13 + 2) s.thing := by
  intro l
  induction l with
  | nil => intro k s h; simp at h
  | cons a l ih =>
    intro k s h
    cases k with
    | zero => simp [spotCells, Spot.cells, set11]
    | succ k =>
      have := ih k s (by simpa using h)
      unfold spotCells set11 at this ⊢
      rw [List.set_cons_succ, List.flatMap_cons, List.flatMap_cons, this]
      have e : ∀ (m : List Value) (j : Nat) (u : Value), (Spot.cells a ++ m).set ((k + 1) * 13 + j) u = Spot.cells a ++ m.set (k * 13 + j) u := fun m j u => by
        rw [List.set_append_right _ _ (by simp [Spot.cells]; omega)]
        simp [Spot.cells]; congr 1; omega
      have e0 := fun m u => e m 0 u
      simp only [Nat.add_zero] at e0
      simp only [Nat.add_assoc, Nat.reduceAdd] at e ⊢
      rw [e0, e, e, e, e, e, e, e, e, e, e, e, e]
theorem set_self_at {β : Type} {l : List β} {k : Nat} {x : β} (h : l[k]? = some x) : l.set k x = l := by
  refine List.ext_getElem? fun j => ?_
  by_cases e : j = k
  · subst e; rw [List.getElem?_set_self (List.getElem?_eq_some_iff.1 h).1, h]
  · rw [List.getElem?_set_ne (fun e' => e e'.symm)]
theorem spotCells_thing (l : List (Spot Dm)) (k : Nat) (s : Spot Dm) (x : Dm) (h : l[k]? = some s) :
    spotCells (l.set k { s with thing := x }) = set11 (spotCells l) (k * 13 + 2) x := by
  obtain ⟨h0, h1, _⟩ := spotCells_at l k s h
  rw [spotCells_set l k _ (List.getElem?_eq_some_iff.1 h).1, set_self_at h0, set_self_at h1]
/-- The eleven cells of a thing, set in memory. -/
abbrev put11 (w : World) (g o : Nat) (x : Dm) : World := ((((((((((w.setCell ⟨g, o, none⟩ (.int .i64 x.pi)).setCell ⟨g, o + 1, none⟩ (.int .u64 x.pg)).setCell ⟨g, o + 2, none⟩ (.int .i64 x.gs)).setCell ⟨g, o + 3, none⟩ (.int .u64 x.cpu)).setCell ⟨g, o + 4, none⟩ (.int .u64 x.per)).setCell ⟨g, o + 5, none⟩ (.int .i64 x.cgs)).setCell ⟨g, o + 6, none⟩ (.int .u64 x.car)).setCell ⟨g, o + 7, none⟩ (.int .i64 x.own)).setCell ⟨g, o + 8, none⟩ (.int .i64 x.live)).setCell ⟨g, o + 9, none⟩ (.int .u64 x.used)).setCell ⟨g, o + 10, none⟩ (.int .i64 x.ch)
theorem chg_put11 {S : List Nat} {a w : World} {g : Nat} (h : Chg S a w) (hg : g ∈ S ∨ a.heap.size ≤ g) (o : Nat) (x : Dm) : Chg S a (put11 w g o x) :=
  ((((((((((h.setCell (p := ⟨g, o, none⟩) hg _).setCell (p := ⟨g, o + 1, none⟩) hg _).setCell (p := ⟨g, o + 2, none⟩) hg _).setCell (p := ⟨g, o + 3, none⟩) hg _).setCell (p := ⟨g, o + 4, none⟩) hg _).setCell (p := ⟨g, o + 5, none⟩) hg _).setCell (p := ⟨g, o + 6, none⟩) hg _).setCell (p := ⟨g, o + 7, none⟩) hg _).setCell (p := ⟨g, o + 8, none⟩) hg _).setCell (p := ⟨g, o + 9, none⟩) hg _).setCell (p := ⟨g, o + 10, none⟩) hg _
theorem Row.put11_ {w : World} {e : TypeId} {size n g cap : Nat} {xs : List Value} (h : Row w e size (.slice (some ⟨g, 0, none⟩) n cap) n xs) {o : Nat} (ho : o + 10 < n * size) (x : Dm) :
    Row (put11 w g o x) e size (.slice (some ⟨g, 0, none⟩) n cap) n (set11 xs o x) :=
  ((((((((((h.set_ (j := o) (by omega) _).set_ (j := o + 1) (by omega) _).set_ (j := o + 2) (by omega) _).set_ (j := o + 3) (by omega) _).set_ (j := o + 4) (by omega) _).set_ (j := o + 5) (by omega) _).set_ (j := o + 6) (by omega) _).set_ (j := o + 7) (by omega) _).set_ (j := o + 8) (by omega) _).set_ (j := o + 9) (by omega) _).set_ (j := o + 10) (by omega) _
theorem Row.far11 {w : World} {e : TypeId} {size n : Nat} {v : Value} {xs : List Value} (h : Row w e size v n xs) {g : Nat} (hg : g ∉ foot v) (o : Nat) (x : Dm) : Row (Go.Proofs.put11 w g o x) e size v n xs :=
  ((((((((((h.far (p := ⟨g, o, none⟩) hg _).far (p := ⟨g, o + 1, none⟩) hg _).far (p := ⟨g, o + 2, none⟩) hg _).far (p := ⟨g, o + 3, none⟩) hg _).far (p := ⟨g, o + 4, none⟩) hg _).far (p := ⟨g, o + 5, none⟩) hg _).far (p := ⟨g, o + 6, none⟩) hg _).far (p := ⟨g, o + 7, none⟩) hg _).far (p := ⟨g, o + 8, none⟩) hg _).far (p := ⟨g, o + 9, none⟩) hg _).far (p := ⟨g, o + 10, none⟩) hg _
theorem Blk.far11 {w : World} {b : Nat} {t : TypeId} {cs : Array Value} (h : Blk w b t cs) {g : Nat} (hg : b ≠ g) (o : Nat) (x : Dm) : Blk (Go.Proofs.put11 w g o x) b t cs :=
  ((((((((((h.far (p := ⟨g, o, none⟩) hg _).far (p := ⟨g, o + 1, none⟩) hg _).far (p := ⟨g, o + 2, none⟩) hg _).far (p := ⟨g, o + 3, none⟩) hg _).far (p := ⟨g, o + 4, none⟩) hg _).far (p := ⟨g, o + 5, none⟩) hg _).far (p := ⟨g, o + 6, none⟩) hg _).far (p := ⟨g, o + 7, none⟩) hg _).far (p := ⟨g, o + 8, none⟩) hg _).far (p := ⟨g, o + 9, none⟩) hg _).far (p := ⟨g, o + 10, none⟩) hg _

/-- The table t lies in w at block g; S are its blocks. -/
def TabAt (w : World) (g : Nat) (S : List Nat) (t : Tab Dm) : Prop :=
  ∃ VS VF, Blk w g 139 #[.int .i64 t.size, .int .u64 t.first, VS, VF, .int .i64 t.retired] ∧
    Row w 135 13 VS t.spots.length (spotCells t.spots) ∧ Row w 3 1 VF t.freed.length (numCells t.freed) ∧ S = g :: (foot VS ++ foot VF)
section
variable {w w' : World} {g : Nat} {S : List Nat} {t : Tab Dm}
theorem TabAt.lt (h : TabAt w g S t) : ∀ k ∈ S, k < w.heap.size := by
  obtain ⟨VS, VF, hB, hS, hF, rfl⟩ := h
  intro k hk
  simp at hk
  rcases hk with rfl | hk | hk
  · exact hB.lt
  · exact hS.lt k hk
  · exact hF.lt k hk
theorem TabAt.mem (h : TabAt w g S t) : g ∈ S := by
  obtain ⟨VS, VF, hB, hS, hF, rfl⟩ := h; simp
theorem TabAt.same (h : TabAt w g S t) (hk : ∀ k ∈ S, w'.heap[k]? = w.heap[k]?) : TabAt w' g S t := by
  obtain ⟨VS, VF, hB, hS, hF, rfl⟩ := h
  exact ⟨VS, VF, hB.same (hk g (by simp)), hS.same (fun k h => hk k (by simp [h])), hF.same (fun k h => hk k (by simp [h])), rfl⟩
theorem TabAt.chg {S' : List Nat} (h : TabAt w g S t) (hc : Chg S' w w') (hn : ∀ k ∈ S, k ∉ S') : TabAt w' g S t :=
  h.same fun k hk => hc.block k (h.lt k hk) (hn k hk)
theorem TabAt.quiet (h : TabAt w g S t) (hc : Chg [] w w') : TabAt w' g S t := h.chg hc (fun _ _ hk => by cases hk)
end
/-- What a call on the table at g leaves: the table t'; its blocks are those it had, or new ones; nothing else has turned. -/
def Turns (g : Nat) (S : List Nat) (t' : Tab Dm) (w w' : World) : Prop :=
  ∃ S', TabAt w' g S' t' ∧ (∀ k ∈ S', k ∈ S ∨ w.heap.size ≤ k) ∧ Chg S w w'
theorem Turns.later {g : Nat} {S : List Nat} {t' : Tab Dm} {a b c : World} (h : Turns g S t' a b) (hc : Chg [] b c) : Turns g S t' a c := by
  obtain ⟨S', h1, h2, h3⟩ := h
  exact ⟨S', h1.quiet hc, h2, h3.then hc⟩
theorem Turns.earlier {g : Nat} {S : List Nat} {t' : Tab Dm} {a b c : World} (h : Turns g S t' b c) (hc : Chg [] a b) (hS : ∀ k ∈ S, k < a.heap.size) : Turns g S t' a c := by
  obtain ⟨S', h1, h2, h3⟩ := h
  refine ⟨S', h1, fun k hk => (h2 k hk).imp id (fun h => Nat.le_trans hc.size h), ?_⟩
  exact (Chg.any hc).trans h3 (fun k hk => .inl hk)
theorem Turns.refl {g : Nat} {S : List Nat} {t : Tab Dm} {a b : World} (h : TabAt a g S t) (hc : Chg [] a b) : Turns g S t a b :=
  ⟨S, h.quiet hc, fun k hk => .inl hk, hc.any⟩
theorem Turns.mk {g : Nat} {S : List Nat} {t' : Tab Dm} {w w' : World} {VS VF : Value} (hB : Blk w' g 139 #[.int .i64 t'.size, .int .u64 t'.first, VS, VF, .int .i64 t'.retired])
    (hS : Row w' 135 13 VS t'.spots.length (spotCells t'.spots)) (hF : Row w' 3 1 VF t'.freed.length (numCells t'.freed))
    (hg : g ∈ S) (sS : ∀ k ∈ foot VS, k ∈ S ∨ w.heap.size ≤ k) (sF : ∀ k ∈ foot VF, k ∈ S ∨ w.heap.size ≤ k) (hc : Chg S w w') : Turns g S t' w w' := by
  refine ⟨_, ⟨VS, VF, hB, hS, hF, rfl⟩, fun k hk => ?_, hc⟩
  simp at hk
  rcases hk with rfl | hk | hk
  · exact .inl hg
  · exact sS k hk
  · exact sF k hk
theorem numCells_take (l : List Nat) (k : Nat) : (numCells (l ++ [k])).take (l.length * 1) = numCells l := by
  unfold numCells
  rw [Nat.mul_one, List.map_append, List.take_append_of_le_length (by simp), List.take_of_length_le (by simp)]
/-- The last one of those that are free is taken. -/
theorem Turns.cut {g gf cf n : Nat} {t : Tab Dm} {l : List Nat} {k : Nat} {w : World} {VS : Value}
    (hB : Blk w g 139 #[.int .i64 t.size, .int .u64 t.first, VS, .slice (some ⟨gf, 0, none⟩) n cf, .int .i64 t.retired])
    (hS : Row w 135 13 VS t.spots.length (spotCells t.spots))
    (hF : Row w 3 1 (.slice (some ⟨gf, 0, none⟩) l.length l.length) l.length ((numCells (l ++ [k])).take (l.length * 1))) (hne : gf ≠ g) (hgf : gf < w.heap.size) :
    Turns g (g :: (foot VS ++ foot (.slice (some ⟨gf, 0, none⟩) n cf))) { t with freed := l } w (w.setCell ⟨g, 3, none⟩ (.slice (some ⟨gf, 0, none⟩) l.length l.length)) := by
  rw [numCells_take] at hF
  refine Turns.mk (hB.set_ 3 _) (hS.far (hS.ty hB (by decide)) _) (hF.far (by simpa [foot_some] using fun e => hne e.symm) _) (by simp) (fun k hk => .inl (by simp [hk])) (fun k hk => .inl (by simp [foot_some] at hk ⊢; simp [hk])) ?_
  exact (Chg.refl _ _).setCell (.inl (by simp)) _
theorem foot_own {v : Value} {S : List Nat} {H : Nat} (h : ∀ k ∈ foot v, k ∈ S ∨ H ≤ k) : ∀ k, v.ownBlock = some k → k ∈ S ∨ H ≤ k := fun k hk => h k (row_mem hk)
/-- One spot more: taken for the first time. -/
theorem Turns.grow {g gg cap : Nat} {t : Tab Dm} {s : Spot Dm} {w w1 : World} {VS VF : Value} {o : Obj}
    (hB : Blk w g 139 #[.int .i64 t.size, .int .u64 t.first, VS, VF, .int .i64 t.retired])
    (hS : Row w 135 13 VS t.spots.length (spotCells t.spots)) (hF : Row w 3 1 VF t.freed.length (numCells t.freed))
    (hown : Row w1 135 13 (.slice (some ⟨gg, 0, none⟩) (t.spots.length + 1) cap) (t.spots.length + 1) (spotCells t.spots ++ Spot.cells s))
    (hgrow : ((w.alloc o).drew).grownBy w1 VS.ownBlock) (hat : VS.ownBlock = some gg ∨ gg = w.heap.size + 1) :
    Turns g (g :: (foot VS ++ foot VF)) { t with spots := t.spots ++ [s] } w (w1.setCell ⟨g, 2, none⟩ (.slice (some ⟨gg, 0, none⟩) (t.spots.length + 1) cap)) := by
  have hc : Chg (foot VS) w w1 := ((Chg.refl _ w).alloc o).drew.grown hgrow (fun k hk => .inl (row_mem hk))
  have hg1 : g ∉ foot VS := hS.ty hB (by decide)
  have hg2 : g ∉ foot VF := hF.ty hB (by decide)
  have hgg : gg ≠ g := by
    rcases hat with h | h
    · intro e; exact hg1 (by rw [← e]; exact row_mem h)
    · have := hB.lt; omega
  refine Turns.mk (VS := .slice (some ⟨gg, 0, none⟩) (t.spots.length + 1) cap) ((hB.chg hc hg1).set_ 2 _) ?_ ((hF.chg hc (fun k hk hk' => hS.ty2 hF (by decide) k hk' hk)).far hg2 _) (by simp) ?_ (fun k hk => .inl (by simp [hk])) ?_
  · have hr := hown.far (p := ⟨g, 2, none⟩) (by simpa [foot_some] using fun e => hgg e.symm) (.slice (some ⟨gg, 0, none⟩) (t.spots.length + 1) cap)
    rw [show spotCells t.spots ++ Spot.cells s = spotCells (t.spots ++ [s]) by rw [spotCells_append]; simp [spotCells]] at hr
    simpa using hr
  · intro k hk
    simp [foot_some] at hk
    subst hk
    rcases hat with h | h
    · exact .inl (by simp [row_mem h])
    · exact .inr (by omega)
  · exact (hc.mono (fun k hk => .inl (by simp [hk]))).setCell (.inl (by simp)) _
theorem TabAt.far {w : World} {g : Nat} {S : List Nat} {t : Tab Dm} (h : TabAt w g S t) {p : Addr} (hp : p.block ∉ S) (u : Value) : TabAt (w.setCell p u) g S t :=
  h.same fun k hk => Below.heap_setCell w p u k (fun e => hp (by rw [← e]; exact hk))
/-- The three cells of a spot, written anew. -/
theorem Row.spot {w : World} {gs cs : Nat} {l : List (Spot Dm)} (hS : Row w 135 13 (.slice (some ⟨gs, 0, none⟩) l.length cs) l.length (spotCells l)) {k : Nat} (hk : k < l.length) (s : Spot Dm) :
    Row (put11 ((w.setCell ⟨gs, k * 13, none⟩ (.int .u64 s.gen)).setCell ⟨gs, k * 13 + 1, none⟩ (.bool s.there)) gs (k * 13 + 2) s.thing) 135 13 (.slice (some ⟨gs, 0, none⟩) l.length cs) l.length (spotCells (l.set k s)) := by
  have h := ((hS.set_ (j := k * 13) (by omega) (.int .u64 s.gen)).set_ (j := k * 13 + 1) (by omega) (.bool s.there)).put11_ (o := k * 13 + 2) (by omega) s.thing
  rw [← spotCells_set l k s hk] at h
  exact h
/-- Something is there now. -/
theorem Row.come {w : World} {gs cs : Nat} {l : List (Spot Dm)} (hS : Row w 135 13 (.slice (some ⟨gs, 0, none⟩) l.length cs) l.length (spotCells l)) {k : Nat} {s : Spot Dm} (hs : l[k]? = some s) (x : Dm) :
    Row (put11 (w.setCell ⟨gs, k * 13 + 1, none⟩ (.bool true)) gs (k * 13 + 2) x) 135 13 (.slice (some ⟨gs, 0, none⟩) l.length cs) l.length (spotCells (l.set k ⟨s.gen, true, x⟩)) := by
  have hk := (List.getElem?_eq_some_iff.1 hs).1
  have h := (hS.set_ (j := k * 13 + 1) (by omega) (.bool true)).put11_ (o := k * 13 + 2) (by omega) x
  rw [spotCells_set l k _ hk, set_self_at (spotCells_at l k s hs).1]
  exact h
/-- Another thing is there now. -/
theorem Turns.thing {g gs cs : Nat} {t : Tab Dm} {s : Spot Dm} {w w1 : World} {VF : Value}
    (hB : Blk w g 139 #[.int .i64 t.size, .int .u64 t.first, .slice (some ⟨gs, 0, none⟩) t.spots.length cs, VF, .int .i64 t.retired])
    (hS : Row w 135 13 (.slice (some ⟨gs, 0, none⟩) t.spots.length cs) t.spots.length (spotCells t.spots)) (hF : Row w 3 1 VF t.freed.length (numCells t.freed))
    {k : Nat} (hs : t.spots[k]? = some s) (x : Dm) (hc : Chg [] w w1) :
    Turns g (g :: (foot (.slice (some ⟨gs, 0, none⟩) t.spots.length cs) ++ foot VF)) { t with spots := t.spots.set k { s with thing := x } } w (put11 w1 gs (k * 13 + 2) x) := by
  have hk := (List.getElem?_eq_some_iff.1 hs).1
  have hB1 := hB.chg hc (by simp)
  have hS1 := hS.chg hc (fun _ _ h => by cases h)
  have hF1 := hF.chg hc (fun _ _ h => by cases h)
  have hg : g ≠ gs := by have := hS.ty hB (by decide); simpa [foot_some] using this
  have hfg : gs ∉ foot VF := fun h => hS.ty2 hF (by decide) gs (by simp [foot_some]) h
  have hr := hS1.put11_ (o := k * 13 + 2) (by omega) x
  rw [← spotCells_thing t.spots k s x hs] at hr
  refine Turns.mk (VS := .slice (some ⟨gs, 0, none⟩) t.spots.length cs) (VF := VF) (hB1.far11 hg _ _) (by simpa using hr) (hF1.far11 hfg _ _) (by simp) (fun k hk => .inl (by simp [hk])) (fun k hk => .inl (by simp [hk])) (chg_put11 hc.any (.inl (by simp [foot_some])) _ _)
/-- Nothing is there any more; the place is free. -/
theorem Turns.freed {g gs cs gg cap : Nat} {t : Tab Dm} {s : Spot Dm} {w w1 w2 : World} {VF : Value} {o : Obj}
    (hB : Blk w g 139 #[.int .i64 t.size, .int .u64 t.first, .slice (some ⟨gs, 0, none⟩) t.spots.length cs, VF, .int .i64 t.retired])
    (hS : Row w 135 13 (.slice (some ⟨gs, 0, none⟩) t.spots.length cs) t.spots.length (spotCells t.spots)) (hF : Row w 3 1 VF t.freed.length (numCells t.freed))
    {k : Nat} (hk : k < t.spots.length) (hc : Chg [] w w1)
    (hown : Row w2 3 1 (.slice (some ⟨gg, 0, none⟩) (t.freed.length + 1) cap) (t.freed.length + 1) (numCells t.freed ++ [.int .i64 ((k : Nat) : Int)]))
    (hgrow : (((put11 ((w1.setCell ⟨gs, k * 13, none⟩ (.int .u64 s.gen)).setCell ⟨gs, k * 13 + 1, none⟩ (.bool s.there)) gs (k * 13 + 2) s.thing).alloc o).drew).grownBy w2 VF.ownBlock) (hat : VF.ownBlock = some gg ∨ gg = w1.heap.size + 1) :
    Turns g (g :: (foot (.slice (some ⟨gs, 0, none⟩) t.spots.length cs) ++ foot VF)) { t with spots := t.spots.set k s, freed := t.freed ++ [k] } w (w2.setCell ⟨g, 3, none⟩ (.slice (some ⟨gg, 0, none⟩) (t.freed.length + 1) cap)) := by
  have hB1 := hB.chg hc (by simp)
  have hS1 := hS.chg hc (fun _ _ h => by cases h)
  have hg : g ≠ gs := by have := hS.ty hB (by decide); simpa [foot_some] using this
  have hfg : gs ∉ foot VF := fun h => hS.ty2 hF (by decide) gs (by simp [foot_some]) h
  have hgf : g ∉ foot VF := hF.ty hB (by decide)
  have hcF : Chg (foot VF) ((put11 ((w1.setCell ⟨gs, k * 13, none⟩ (.int .u64 s.gen)).setCell ⟨gs, k * 13 + 1, none⟩ (.bool s.there)) gs (k * 13 + 2) s.thing)) w2 :=
    ((Chg.refl _ _).alloc o).drew.grown hgrow (fun k hk => .inl (row_mem hk))
  have hr := (hS1.spot hk s).chg hcF (by simpa [foot_some] using hfg)
  have hgg : gg ≠ g := by
    rcases hat with h | h
    · intro e; exact hgf (by rw [← e]; exact row_mem h)
    · have := hB.lt; have := hc.size; omega
  refine Turns.mk (VS := .slice (some ⟨gs, 0, none⟩) t.spots.length cs) (VF := .slice (some ⟨gg, 0, none⟩) (t.freed.length + 1) cap) (((((hB1.far hg _).far hg _).far11 hg _ _).chg hcF hgf).set_ 3 _)
    (Row.far (by simpa using hr) (by simpa [foot_some] using hg) _) ?_ (by simp) (fun k hk => .inl (by simp [hk])) ?_ ?_
  · have h := hown.far (p := ⟨g, 3, none⟩) (by simpa [foot_some] using fun e => hgg e.symm) (.slice (some ⟨gg, 0, none⟩) (t.freed.length + 1) cap)
    rw [show numCells t.freed ++ [.int .i64 ((k : Nat) : Int)] = numCells (t.freed ++ [k]) by unfold numCells; simp] at h
    simpa using h
  · intro k hk
    simp [foot_some] at hk
    subst hk
    rcases hat with h | h
    · exact .inl (by simp [row_mem h])
    · have := hc.size; exact .inr (by omega)
  · refine Chg.setCell ?_ (.inl (by simp)) _
    refine Chg.trans ?_ hcF (fun k hk => .inl (by simp [hk]))
    exact chg_put11 ((hc.any.setCell (.inl (by simp [foot_some])) _).setCell (.inl (by simp [foot_some])) _) (.inl (by simp [foot_some])) _ _
/-- What one spot's cells are: for the walk. -/
theorem TabAt.open_spot {w : World} {VS : Value} {l : List (Spot Dm)} (hS : Row w 135 13 VS l.length (spotCells l)) {i : Nat} {s : Spot Dm} (hs : l[i]? = some s) :
    ∃ gs cs, VS = .slice (some ⟨gs, 0, none⟩) l.length cs ∧ foot VS = [gs] ∧ l.length ≤ cs ∧ gs < w.heap.size ∧ i < l.length ∧
      w.cell? ⟨gs, i * 13, none⟩ = some (.int .u64 s.gen) ∧ w.cell? ⟨gs, i * 13 + 1, none⟩ = some (.bool s.there) ∧ w.cell? ⟨gs, i * 13 + 2, none⟩ = some (.int .i64 s.thing.pi) ∧ w.cell? ⟨gs, i * 13 + 3, none⟩ = some (.int .u64 s.thing.pg) ∧ w.cell? ⟨gs, i * 13 + 4, none⟩ = some (.int .i64 s.thing.gs) ∧ w.cell? ⟨gs, i * 13 + 5, none⟩ = some (.int .u64 s.thing.cpu) ∧ w.cell? ⟨gs, i * 13 + 6, none⟩ = some (.int .u64 s.thing.per) ∧ w.cell? ⟨gs, i * 13 + 7, none⟩ = some (.int .i64 s.thing.cgs) ∧ w.cell? ⟨gs, i * 13 + 8, none⟩ = some (.int .u64 s.thing.car) ∧ w.cell? ⟨gs, i * 13 + 9, none⟩ = some (.int .i64 s.thing.own) ∧ w.cell? ⟨gs, i * 13 + 10, none⟩ = some (.int .i64 s.thing.live) ∧ w.cell? ⟨gs, i * 13 + 11, none⟩ = some (.int .u64 s.thing.used) ∧ w.cell? ⟨gs, i * 13 + 12, none⟩ = some (.int .i64 s.thing.ch) ∧
      (∀ j, w.frozen? ⟨gs, j, none⟩ = false) := by
  have hi := (List.getElem?_eq_some_iff.1 hs).1
  obtain ⟨gs, cs, hv, hft, hc, hcell, hfz, hlt⟩ := hS.form (by omega)
  obtain ⟨h0, h1, h2, h3, h4, h5, h6, h7, h8, h9, h10, h11, h12⟩ := spotCells_at l i s hs
  exact ⟨gs, cs, hv, hft, hc, hlt, hi, hcell _ _ h0, hcell _ _ h1, hcell _ _ h2, hcell _ _ h3, hcell _ _ h4, hcell _ _ h5, hcell _ _ h6, hcell _ _ h7, hcell _ _ h8, hcell _ _ h9, hcell _ _ h10, hcell _ _ h11, hcell _ _ h12, hfz⟩
/-- What there is where a ref names something. -/
theorem has_form {w : World} {g : Nat} {S : List Nat} {t : Tab Dm} (h : TabAt w g S t) {i q : Int} (hq : t.has i q = true) :
    ∃ (k : Nat) (s : Spot Dm) (gs cs : Nat) (VF : Value), i = (k : Nat) ∧ q = s.gen ∧ t.spots[k]? = some s ∧ s.there = true ∧ k < t.spots.length ∧
      Blk w g 139 #[.int .i64 t.size, .int .u64 t.first, .slice (some ⟨gs, 0, none⟩) t.spots.length cs, VF, .int .i64 t.retired] ∧
      Row w 135 13 (.slice (some ⟨gs, 0, none⟩) t.spots.length cs) t.spots.length (spotCells t.spots) ∧ Row w 3 1 VF t.freed.length (numCells t.freed) ∧
      S = g :: (foot (.slice (some ⟨gs, 0, none⟩) t.spots.length cs) ++ foot VF) := by
  obtain ⟨s, hl, rfl⟩ := has_iff.1 hq
  obtain ⟨j0, hj, hth⟩ := live_iff.1 hl
  obtain ⟨k, rfl⟩ := Int.eq_ofNat_of_zero_le j0
  simp only [Int.toNat_natCast] at hj
  have hk := (List.getElem?_eq_some_iff.1 hj).1
  obtain ⟨VS, VF, hB, hS, hF, rfl⟩ := h
  obtain ⟨gs, cs, rfl, _⟩ := hS.form (by omega)
  exact ⟨k, s, gs, cs, VF, rfl, rfl, hj, hth, hk, hB, hS, hF, rfl⟩

end Go.Proofs
end
section
namespace Go.Proofs
open Go.RowKit
set_option linter.unusedVariables false

theorem Try.info_C : (Try.prog.info? 135).map (fun i => (i.zero, i.size, i.bytes)) = some (some (.agg #[.int .u64 0, .bool false, .int .i64 0, .int .u64 0, .int .i64 0, .int .u64 0, .int .u64 0, .int .i64 0, .int .u64 0, .int .i64 0, .int .i64 0, .int .u64 0, .int .i64 0]), 13, 104) := by kernel_rfl

theorem size_C {w : World} {g : Nat} {S : List Nat} {t : Tab Dm} (h : TabAt w g S t) :
    Calls Try.prog 85 #[.pointer (some ⟨g, 0, none⟩)] w fun e w' => e = .returned (.int .i64 t.size) ∧ w = w' := by
  obtain ⟨VS, VF, hB, hS, hF, rfl⟩ := h
  have c0 := hB.cell 0
  clear hB hS hF
  go_enter Try.func85, Try.ntmps85
  go_wp2
  go_ret
  exact ⟨rfl, rfl⟩
theorem none_C {w : World} {g : Nat} {S : List Nat} {t : Tab Dm} (h : TabAt w g S t) (hw : t.WF) :
    Calls Try.prog 77 #[.pointer (some ⟨g, 0, none⟩)] w fun e w' => e = .returned (.bool false) ∧ w = w' := by
  have s0 := hw.s0
  have hb : (t.size == 0) = false := by simp; omega
  go_enter Try.func77, Try.ntmps77
  go_wp2_with (go_at_call 85; refine (size_C h).mono ?_; rintro e w' ⟨rfl, rfl⟩)
  go_ret
  exact ⟨rfl, rfl⟩
theorem free_C {w : World} {g : Nat} {S : List Nat} {t : Tab Dm} (h : TabAt w g S t) (hw : t.WF) :
    Calls Try.prog 80 #[.pointer (some ⟨g, 0, none⟩)] w fun e w' => e = .returned (.int .i64 t.frees) ∧ ∃ n, w' = w.drewN n := by
  obtain ⟨VS, VF, hB, hS, hF, rfl⟩ := h
  obtain ⟨A, c, rfl, _⟩ := hS.val
  obtain ⟨A', c', rfl, _⟩ := hF.val
  have c0 := hB.cell 0
  have c2 := hB.cell 2
  have c3 := hB.cell 3
  have s0 := hw.s0
  have s1 := hw.s1
  have hl := hw.len
  have hf := hw.freed_len
  have e : t.frees = t.size - t.spots.length + t.freed.length := rfl
  obtain ⟨m, hm⟩ : ∃ m, m = t.spots.length := ⟨_, rfl⟩
  obtain ⟨k, hk⟩ : ∃ k, k = t.freed.length := ⟨_, rfl⟩
  rw [← hm, ← hk] at e
  rw [← hm] at hl hf c2
  rw [← hk] at hf c3
  rw [e]
  have e1 : IntKind.i64.wrap (t.size - m) = t.size - m := IntWalk.i64_in _ (by omega)
  have e2 : IntKind.i64.wrap (t.size - m + k) = t.size - m + k := IntWalk.i64_in _ (by omega)
  clear hB hS hF hw e hm hk
  go_enter Try.func80, Try.ntmps80
  go_wp2
  go_quiet (fail)
  go_wp2
  go_ret
  exact ⟨rfl, _, rfl⟩
theorem at_C {w : World} {g : Nat} {S : List Nat} {t : Tab Dm} (h : TabAt w g S t) (hw : t.WF) (i : Int) (i0 : -9223372036854775808 ≤ i) (i1 : i ≤ 9223372036854775807) :
    Calls Try.prog 60 #[.pointer (some ⟨g, 0, none⟩), .int .i64 i] w fun e w' => e = .returned (.tuple #[.agg #[.int .i64 (t.atIdx i), .int .u64 (t.atGen i)], .bool (t.atIs i)]) ∧ Chg [] w w' := by
  have h0 := h
  obtain ⟨VS, VF, hB, hS, hF, rfl⟩ := h
  rcases live_cases t i with ⟨s, hs⟩ | hno
  · obtain ⟨q1, q2, q3⟩ := live_some hs
    rw [q1, q2, q3]
    obtain ⟨j0, hj, hth⟩ := live_iff.1 hs
    obtain ⟨k, rfl⟩ := Int.eq_ofNat_of_zero_le j0
    simp only [Int.toNat_natCast] at hj
    obtain ⟨gs, cs, rfl, _, hcs, hgs, hk, a0, a1, _⟩ := TabAt.open_spot hS hj
    rw [hth] at a1
    have c2 := hB.cell 2
    obtain ⟨m, hm⟩ : ∃ m, m = t.spots.length := ⟨_, rfl⟩
    rw [← hm] at c2 hk hcs
    have lg := hB.lt
    clear hB hS hF hs hj q1 q2 q3 hm
    go_enter Try.func60, Try.ntmps60
    go_wp2_with (go_at_call 77; refine (none_C (h0.quiet (Chg.alloc (Chg.refl _ _) _)) hw).mono ?_; rintro e w' ⟨rfl, rfl⟩)
    exact bodyPost_ret (v := .tuple #[.agg #[.int .i64 k, .int .u64 s.gen], .bool true]) (by simp [results, Try.results60, go_sem]) rfl ⟨rfl, (Chg.refl _ _).alloc _⟩
  · obtain ⟨q1, q2, q3, _⟩ := live_none hno
    rw [q1, q2, q3]
    clear q1 q2 q3
    obtain ⟨A, c, rfl, _⟩ := hS.val
    have c2 := hB.cell 2
    have lg := hB.lt
    by_cases j0 : i < 0
    · clear hB hS hF hno
      go_enter Try.func60, Try.ntmps60
      go_wp2_with (go_at_call 77; refine (none_C (h0.quiet (Chg.alloc (Chg.refl _ _) _)) hw).mono ?_; rintro e w' ⟨rfl, rfl⟩)
      exact bodyPost_ret (v := .tuple #[.agg #[.int .i64 0, .int .u64 0], .bool false]) (by simp [results, Try.results60, go_sem]) rfl ⟨rfl, (Chg.refl _ _).alloc _⟩
    · obtain ⟨k, rfl⟩ := Int.eq_ofNat_of_zero_le (by omega : 0 ≤ i)
      by_cases hk : k < t.spots.length
      · have hj : t.spots[k]? = some (t.spots[k]) := List.getElem?_eq_getElem hk
        have hth : (t.spots[k]).there = false := by
          cases hb : (t.spots[k]).there with
          | false => rfl
          | true => have := live_nat.2 ⟨hj, hb⟩; rw [hno] at this; cases this
        obtain ⟨gs, cs, hv, _, hcs, hgs, hk, a0, a1, _⟩ := TabAt.open_spot hS hj
        injection hv with hA _ hc
        subst hA
        rw [hth] at a1
        obtain ⟨m, hm⟩ : ∃ m, m = t.spots.length := ⟨_, rfl⟩
        rw [← hm] at c2 hk hcs
        clear hB hS hF hno hj hth hm a0
        go_enter Try.func60, Try.ntmps60
        go_wp2_with (go_at_call 77; refine (none_C (h0.quiet (Chg.alloc (Chg.refl _ _) _)) hw).mono ?_; rintro e w' ⟨rfl, rfl⟩)
        exact bodyPost_ret (v := .tuple #[.agg #[.int .i64 0, .int .u64 0], .bool false]) (by simp [results, Try.results60, go_sem]) rfl ⟨rfl, (Chg.refl _ _).alloc _⟩
      · obtain ⟨m, hm⟩ : ∃ m, m = t.spots.length := ⟨_, rfl⟩
        rw [← hm] at c2 hk
        clear hB hS hF hno hm
        go_enter Try.func60, Try.ntmps60
        go_wp2_with (go_at_call 77; refine (none_C (h0.quiet (Chg.alloc (Chg.refl _ _) _)) hw).mono ?_; rintro e w' ⟨rfl, rfl⟩)
        exact bodyPost_ret (v := .tuple #[.agg #[.int .i64 0, .int .u64 0], .bool false]) (by simp [results, Try.results60, go_sem]) rfl ⟨rfl, (Chg.refl _ _).alloc _⟩

/-- The ref that is compared: is it the one that is asked for? -/
theorem nil_C (w : World) : Calls Try.prog 85 #[.pointer none] w fun e w' => e = .returned (.int .i64 0) ∧ w = w' := by
  go_enter Try.func85, Try.ntmps85
  go_wp2
  go_ret
  exact ⟨rfl, rfl⟩

theorem take_C {w : World} {g : Nat} {S : List Nat} {t : Tab Dm} (h : TabAt w g S t) (hw : t.WF) (hf : t.frees ≠ 0) :
    Calls Try.prog 81 #[.pointer (some ⟨g, 0, none⟩)] w fun e w' => e = .returned (.int .i64 (t.takeAt : Nat)) ∧ Turns g S (t.take dm0) w w' := by
  obtain ⟨VS, VF, hB, hS, hF, rfl⟩ := h
  obtain ⟨A, c, rfl, _⟩ := hS.val
  have hs1 := hw.s1
  have hl := hw.len
  rcases List.eq_nil_or_concat t.freed with hn | ⟨l, k, hk⟩
  · obtain ⟨q1, q2⟩ := take_nil (z := dm0) hn
    rw [q1, q2]
    obtain ⟨i0, hi0, hz0, hz1, hz2⟩ := info_parts Try.info_C
    have hlt : (t.spots.length : Int) < t.size := by unfold Tab.frees at hf; rw [hn] at hf; simp at hf; omega
    rw [hn] at hF
    obtain ⟨A', c', rfl, _⟩ := hF.val
    have c1 := hB.cell 1
    have c2 := hB.cell 2
    have c3 := hB.cell 3
    have f2 := hB.frozen 2
    have c2' : ((w.alloc (.cells #[.int .u64 t.first, .bool false, .int .i64 0, .int .u64 0, .int .i64 0, .int .u64 0, .int .u64 0, .int .i64 0, .int .u64 0, .int .i64 0, .int .i64 0, .int .u64 0, .int .i64 0] 135)).drew).cell? ⟨g, 2, none⟩ = some (.slice A t.spots.length c) := (hB.alloc _).cell 2
    have f2a' : ((w.alloc (.cells #[.int .u64 t.first, .bool false, .int .i64 0, .int .u64 0, .int .i64 0, .int .u64 0, .int .u64 0, .int .i64 0, .int .u64 0, .int .i64 0, .int .i64 0, .int .u64 0, .int .i64 0] 135)).drew).frozen? ⟨g, 2, none⟩ = false := (hB.alloc _).frozen 2
    have lg := hB.lt
    have hne : ∀ k ∈ foot (.slice A t.spots.length c), k ≠ g := fun k hk e => hS.ty hB (by decide) (by rw [← e]; exact hk)
    have hne' : (Value.slice A t.spots.length c).ownBlock ≠ some g := fun e => hne g (row_mem e) rfl
    have hff := hS.ty2 hF (by decide)
    have HB := Lib.hid hB
    have HF := Lib.hid hF
    have HQ := Lib.hid hff
    have HN := Lib.hid hn
    have hl4 : t.spots.length + 1 ≤ 4097 := by omega
    clear hB hF hf hn q1 q2 hff
    go_enter Try.func81, Try.ntmps81
    go_wp2
    go_region_law
      ((refine step_append_row _ (by rfl) _ _ _ (by rfl) 135 i0 _ 13 104 Try.underlying137 hi0 hz0 hz1 hz2 rfl (.slice A t.spots.length c) t.spots.length (spotCells t.spots) (by rfl) ((hS.alloc _).drew) ⟨w.heap.size, 0, none⟩ 1 1 [.int .u64 t.first, .bool false, .int .i64 0, .int .u64 0, .int .i64 0, .int .u64 0, .int .u64 0, .int .i64 0, .int .u64 0, .int .i64 0, .int .i64 0, .int .u64 0, .int .i64 0] (by rfl) (by rfl) (World.news_of_block (cs := #[.int .u64 t.first, .bool false, .int .i64 0, .int .u64 0, .int .i64 0, .int .u64 0, .int .u64 0, .int .i64 0, .int .u64 0, .int .i64 0, .int .i64 0, .int .u64 0, .int .i64 0]) (t := 135) (fr := (0, 0)) (heap_alloc_new w _)) (by simp [Value.oneCell']) (by omega) (by unfold maxLen; omega) (by omega) (w.heap.size + 1) (by simp) ?_; intro gg cap w1 hown1 hgrow hat hlt1; have e2 : w1.cell? ⟨g, 2, none⟩ = some (.slice A t.spots.length c) := (hgrow.cell_far _ (by simp; omega) (Ne.symm hne')).trans c2'; have e3 : w1.frozen? ⟨g, 2, none⟩ = false := (hgrow.frozen_far _ (by simp; omega) (Ne.symm hne')).trans f2a'))
    all_goals
      have HT := Lib.hid (Turns.grow (s := ⟨t.first, false, dm0⟩) HB.out hS (HN.out ▸ HF.out) hown1 hgrow hat)
      go_wp2
      go_ret
      exact ⟨rfl, HT.out⟩
  · rw [List.concat_eq_append] at hk
    obtain ⟨q1, q2⟩ := take_cons (z := dm0) hk
    rw [q1, q2]
    rw [hk] at hF
    obtain ⟨gf, cf, rfl, hft, hcf, hcell, hfz, hlt⟩ := hF.form (by simp)
    have a3 : w.cell? ⟨gf, l.length, none⟩ = some (.int .i64 (k : Nat)) := hcell _ _ (by unfold numCells; simp)
    have c3 := hB.cell 3
    have f3 := hB.frozen 3
    have hne : gf ≠ g := fun e => hF.ty hB (by decide) (by rw [hft]; simp [e])
    have HT := Lib.hid (Turns.cut (k := k) hB hS (hF.cut (k := l.length) (by simp)) hne hlt)
    have hlen : (l ++ [k]).length = l.length + 1 := by simp
    rw [hlen] at c3 hcf
    obtain ⟨m, hm⟩ : ∃ m, m = l.length := ⟨_, rfl⟩
    rw [← hm] at a3 c3 hcf
    have hm2 : m ≤ 4096 := by have := hw.freed_len; rw [hk] at this; simp at this; omega
    have HM := Lib.hid hm
    clear hB hS hF hcell hfz hft hlen hm q1 q2 hk hf
    go_enter Try.func81, Try.ntmps81
    go_wp2
    go_ret
    refine ⟨rfl, ?_⟩
    rw [HM.out]
    exact HT.out
end Go.Proofs
end
