import Derived.Test.YtgdjagbkpdndgaaGaA
namespace Go.Proofs
open Go.RowKit
set_option linter.unusedVariables false

/-- How far behind the first one x stands for the first time; the length, if it does not. -/
def findAt (x : Int) : List Int → Nat
  | [] => 0
  | y :: l => if y = x then 0 else findAt x l + 1
theorem findAt_le (x : Int) (l : List Int) : findAt x l ≤ l.length := by
  induction l with
  | nil => simp [findAt]
  | cons y l ih => unfold findAt; split <;> simp <;> omega
theorem findAt_first {x : Int} : ∀ {l : List Int} {k : Nat}, (∀ j, j < k → l[j]? ≠ some x) → l[k]? = some x → findAt x l = k := by
  intro l
  induction l with
  | nil => intro k _ h; simp at h
  | cons y l ih =>
    intro k h1 h2
    cases k with
    | zero => simp at h2; unfold findAt; rw [if_pos h2]
    | succ k =>
      have : y ≠ x := fun e => h1 0 (by omega) (by simp [e])
      unfold findAt
      rw [if_neg this, ih (k := k) (fun j hj => by have := h1 (j + 1) (by omega); simpa using this) (by simpa using h2)]
theorem findAt_none {x : Int} : ∀ {l : List Int}, (∀ j, j < l.length → l[j]? ≠ some x) → findAt x l = l.length := by
  intro l
  induction l with
  | nil => intro _; rfl
  | cons y l ih =>
    intro h1
    have : y ≠ x := fun e => h1 0 (by simp) (by simp [e])
    unfold findAt
    rw [if_neg this, ih (fun j hj => by have := h1 (j + 1) (by simp; omega); simpa using this)]
    rfl
theorem findAt_mem {x : Int} {l : List Int} (h : findAt x l < l.length) : l[findAt x l]? = some x := by
  induction l with
  | nil => simp at h
  | cons y l ih =>
    unfold findAt at h ⊢
    split
    · rename_i e; simp [e]
    · rename_i e
      rw [if_neg e] at h
      simpa using ih (by simpa using h)

/-! ### What a slice of ints reads as -/
def ints (l : List Int) : List Value := l.map (Value.int .i64)
theorem ints_len (l : List Int) : (ints l).length = l.length := by simp [ints]
theorem ints_at {l : List Int} {k : Nat} {x : Int} (h : l[k]? = some x) : (ints l)[k]? = some (.int .i64 x) := by unfold ints; rw [List.getElem?_map, h]; rfl
theorem ints_append (l l' : List Int) : ints (l ++ l') = ints l ++ ints l' := by simp [ints]
theorem ints_set (l : List Int) (k : Nat) (x : Int) : ints (l.set k x) = (ints l).set k (.int .i64 x) := by simp [ints, List.map_set]
/-- The slice v reads as the ints l. -/
def Rd (w : World) (v : Value) (l : List Int) : Prop :=
  ∃ A c, v = .slice A l.length c ∧ l.length ≤ c ∧ c ≤ maxLen ∧ (A = none → c = 0) ∧
    ∀ a, A = some a → ∃ h o cs, a = ⟨h, o, none⟩ ∧ Blk w h 3 cs ∧ o + c ≤ cs.size ∧ ∀ j x, l[j]? = some x → cs[o + j]? = some (.int .i64 x)
section
variable {w w' : World} {v : Value} {l : List Int}
theorem Rd.nil (w : World) : Rd w (.slice none 0 0) [] := ⟨none, 0, rfl, by simp, by simp, fun _ => rfl, fun a h => by cases h⟩
theorem Rd.same (h : Rd w v l) (hk : ∀ k ∈ foot v, w'.heap[k]? = w.heap[k]?) : Rd w' v l := by
  obtain ⟨A, c, rfl, h1, h2, h3, h4⟩ := h
  refine ⟨A, c, rfl, h1, h2, h3, fun a ha => ?_⟩
  obtain ⟨g, o, cs, rfl, hB, r⟩ := h4 a ha
  subst ha
  exact ⟨g, o, cs, rfl, hB.same (hk g (by simp [foot_some])), r⟩
theorem Rd.lt (h : Rd w v l) : ∀ k ∈ foot v, k < w.heap.size := by
  obtain ⟨A, c, rfl, h1, h2, h3, h4⟩ := h
  intro k hk
  cases A with
  | none => cases hk
  | some a =>
    obtain ⟨g, o, cs, rfl, hB, r⟩ := h4 a rfl
    simp [foot_some] at hk
    subst hk
    exact hB.lt
theorem Rd.chg {S : List Nat} (h : Rd w v l) (hc : Chg S w w') (hn : ∀ k ∈ foot v, k ∉ S) : Rd w' v l := h.same fun k hk => hc.block k (h.lt k hk) (hn k hk)
theorem Rd.quiet (h : Rd w v l) (hc : Chg [] w w') : Rd w' v l := h.chg hc (fun _ _ hk => by cases hk)
theorem Rd.ty (h : Rd w v l) {g : Nat} {t : TypeId} {cs : Array Value} (hg : Blk w g t cs) (hne : 3 ≠ t) : g ∉ foot v := by
  obtain ⟨A, c, rfl, h1, h2, h3, h4⟩ := h
  intro hk
  cases A with
  | none => cases hk
  | some a =>
    obtain ⟨g', o, cs', rfl, hB, r⟩ := h4 a rfl
    simp [foot_some] at hk
    subst hk
    exact Blk.ty hB hg hne rfl
/-- What a slice looks like, for the walk: its cells, if it has any. -/
theorem Rd.open_ (h : Rd w v l) : ∃ A c, v = .slice A l.length c ∧ l.length ≤ c ∧ c ≤ maxLen ∧ (A = none → c = 0) ∧
    (∀ k x, l[k]? = some x → ∃ b o, A = some ⟨b, o, none⟩ ∧ b < w.heap.size ∧ w.cell? ⟨b, o + k, none⟩ = some (.int .i64 x)) := by
  obtain ⟨A, c, rfl, h1, h2, h3, h4⟩ := h
  refine ⟨A, c, rfl, h1, h2, h3, fun k x hk => ?_⟩
  have hkl := (List.getElem?_eq_some_iff.1 hk).1
  cases A with
  | none => have := h3 rfl; omega
  | some a =>
    obtain ⟨g, o, cs, rfl, hB, hs, r⟩ := h4 a rfl
    exact ⟨g, o, rfl, hB.lt, by rw [hB.cell]; exact r k x hk⟩
theorem Rd.of_row {n : Nat} (h : Row w 3 1 v n (ints l)) : Rd w v l := by
  have hn : n = l.length := by have := h.1; rw [ints_len] at this; omega
  subst hn
  rcases h.2 with ⟨rfl, h0⟩ | ⟨g, cap, cur, rfl, hg, hc, hm, hs, ht⟩
  · have : l = [] := List.eq_nil_of_length_eq_zero h0
    subst this
    exact Rd.nil w
  · refine ⟨_, cap, rfl, hc, hm, fun h => (by cases h), fun a ha => ?_⟩
    cases ha
    refine ⟨g, 0, cur, rfl, hg, by omega, fun j x hj => ?_⟩
    have hi := ints_at hj
    rw [← ht, List.getElem?_take] at hi
    split at hi
    · simpa using hi
    · cases hi
/-- A part of it. -/
theorem Rd.cut {A : Option Addr} {n c : Nat} (h : Rd w (.slice A n c) l) {i j k : Nat} (hi : i ≤ j) (hj : j ≤ l.length) (hk : j ≤ k) (hkc : k ≤ c) (hA : A ≠ none) (hik : i < k) :
    ∀ b o, A = some ⟨b, o, none⟩ → Rd w (.slice (some ⟨b, o + i, none⟩) (j - i) (k - i)) ((l.drop i).take (j - i)) := by
  intro b o hb
  obtain ⟨A', c', hv, h1, h2, h3, h4⟩ := h
  injection hv with hA' hn hc
  subst hA' hc hb
  obtain ⟨g, o', cs, he, hB, hs, r⟩ := h4 _ rfl
  cases he
  have hlen : ((l.drop i).take (j - i)).length = j - i := by simp; omega
  refine ⟨_, k - i, by rw [hlen], by rw [hlen]; omega, by omega, fun h => (by cases h), fun a ha => ?_⟩
  cases ha
  refine ⟨_, _, cs, rfl, hB, by omega, fun q x hq => ?_⟩
  rw [List.getElem?_take] at hq
  split at hq
  · rw [List.getElem?_drop] at hq
    rw [Nat.add_assoc]
    exact r _ x hq
  · cases hq
end
end Go.Proofs
