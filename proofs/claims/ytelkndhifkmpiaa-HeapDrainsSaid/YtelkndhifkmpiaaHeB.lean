import Derived.Test.YtelkndhifkmpiaaHeA
namespace Go.Proofs
set_option linter.unusedVariables false

/-! ### Timers, and their order -/
structure Tm where
  at_ : Int
  id : Int
  put : Nat
  deriving Inhabited, DecidableEq
def Tm.lt (x y : Tm) : Prop := x.at_ < y.at_ ∨ (x.at_ = y.at_ ∧ x.put < y.put)
instance (x y : Tm) : Decidable (Tm.lt x y) := by unfold Tm.lt; infer_instance
/-- What compare tells. -/
def Tm.cf (x y : Tm) : Int := if x.at_ < y.at_ then -1 else if y.at_ < x.at_ then 1 else if x.put < y.put then -1 else if y.put < x.put then 1 else 0
theorem Tm.cf_lt (x y : Tm) : Tm.cf x y < 0 ↔ Tm.lt x y := by
  unfold Tm.cf Tm.lt
  split
  · simp; omega
  · split
    · simp; omega
    · split
      · simp; omega
      · split
        · simp; omega
        · simp; omega
theorem Tm.irrefl (x : Tm) : ¬ Tm.lt x x := by unfold Tm.lt; omega
theorem Tm.trans {x y z : Tm} (h : Tm.lt x y) (k : Tm.lt y z) : Tm.lt x z := by unfold Tm.lt at *; omega
theorem Tm.ntrans {x y z : Tm} (h : ¬ Tm.lt x y) (k : ¬ Tm.lt y z) : ¬ Tm.lt x z := by unfold Tm.lt at *; omega
theorem Tm.asymm {x y : Tm} (h : Tm.lt x y) : ¬ Tm.lt y x := by unfold Tm.lt at *; omega
theorem Tm.nlt {x y z : Tm} (h : ¬ Tm.lt x y) (k : Tm.lt z y) : ¬ Tm.lt x z := fun e => h (Tm.trans e k)

/-! ### A heap, as a function of places -/
def par (k : Nat) : Nat := (k - 1) / 2
theorem par_lt {k : Nat} (h : 0 < k) : par k < k := by unfold par; omega
def swf (a : Nat → Tm) (i j : Nat) : Nat → Tm := fun k => if k = j then a i else if k = i then a j else a k
def OkAt (a : Nat → Tm) (k : Nat) : Prop := ¬ Tm.lt (a k) (a (par k))
/-- A heap but for the one at i. -/
def Hole (a : Nat → Tm) (n i : Nat) : Prop := ∀ k, 0 < k → k < n → (k ≠ i → par k ≠ i → OkAt a k) ∧ (par k = i → 0 < i → ¬ Tm.lt (a k) (a (par i)))
/-- A heap but that the one at j may come ahead of the one above it. -/
def UpI (a : Nat → Tm) (n j : Nat) : Prop := ∀ k, 0 < k → k < n → (k ≠ j → OkAt a k) ∧ (par k = j → 0 < j → ¬ Tm.lt (a k) (a (par j)))
/-- A heap but that the one at j may come behind those below it. -/
def DownI (a : Nat → Tm) (n j : Nat) : Prop := ∀ k, 0 < k → k < n → (par k ≠ j → OkAt a k) ∧ (par k = j → 0 < j → ¬ Tm.lt (a k) (a (par j)))
def HeapO (a : Nat → Tm) (n : Nat) : Prop := ∀ k, 0 < k → k < n → OkAt a k
section
variable {a : Nat → Tm} {n i j : Nat}
theorem UpI.hole (h : UpI a n j) : Hole a n j := fun k h0 h1 => ⟨fun e _ => (h k h0 h1).1 e, (h k h0 h1).2⟩
theorem Hole.up (h : Hole a n j) (j0 : 0 < j) (jn : j < n) (hl : Tm.lt (a j) (a (par j))) : UpI (swf a j (par j)) n (par j) := by
  have hp := par_lt j0
  generalize hpe : par j = p at *
  intro k h0 h1
  have hk := par_lt h0
  obtain ⟨q1, q2⟩ := h k h0 h1
  refine ⟨fun hkp => ?_, fun hkp p0 => ?_⟩
  · unfold OkAt swf
    rw [if_neg hkp]
    by_cases e : k = j
    · subst e
      rw [if_pos rfl, hpe, if_pos rfl]
      exact Tm.asymm hl
    · rw [if_neg e]
      by_cases e1 : par k = j
      · rw [e1, if_neg (by omega), if_pos rfl]
        have := q2 e1 j0
        rw [hpe] at this
        exact this
      · by_cases e2 : par k = p
        · rw [e2, if_pos rfl]
          have := q1 e e1
          unfold OkAt at this
          rw [e2] at this
          exact Tm.nlt this hl
        · rw [if_neg e2, if_neg e1]
          exact q1 e e1
  · have hpp := par_lt p0
    have hj : p ≠ j := by omega
    have hgp : ¬ Tm.lt (a p) (a (par p)) := (h p p0 (by omega)).1 (by omega) (by omega)
    unfold swf
    rw [if_neg (show ¬ k = p by omega)]
    rw [if_neg (show ¬ par p = p by omega), if_neg (show ¬ par p = j by omega)]
    by_cases e : k = j
    · rw [if_pos e]
      exact hgp
    · rw [if_neg e]
      have := q1 e (by omega)
      unfold OkAt at this
      rw [hkp] at this
      exact Tm.ntrans this hgp
theorem Hole.stop (h : Hole a n i) (hs : 0 < i → ¬ Tm.lt (a i) (a (par i))) : DownI a n i := fun k h0 h1 =>
  ⟨fun e => if hk : k = i then by subst hk; exact hs h0 else (h k h0 h1).1 hk e, (h k h0 h1).2⟩
theorem HeapO.down (h : HeapO a n) (i : Nat) : DownI a n i := fun k h0 h1 =>
  ⟨fun _ => h k h0 h1, fun e i0 => by
    have q := h k h0 h1
    unfold OkAt at q
    rw [e] at q
    have := par_lt h0
    exact Tm.ntrans q (h i i0 (by omega))⟩
theorem UpI.stop (h : UpI a n j) (hs : 0 < j → ¬ Tm.lt (a j) (a (par j))) : HeapO a n := fun k h0 h1 =>
  if hk : k = j then by subst hk; exact hs h0 else (h k h0 h1).1 hk
theorem DownI.step (h : DownI a n j) {f : Nat} (hf : par f = j) (f0 : 0 < f) (fn : f < n) (hl : Tm.lt (a f) (a j)) (hm : ∀ c, 0 < c → c < n → par c = j → ¬ Tm.lt (a c) (a f)) : DownI (swf a j f) n f := by
  have hjf := par_lt f0
  rw [hf] at hjf
  intro k h0 h1
  have hk := par_lt h0
  obtain ⟨q1, q2⟩ := h k h0 h1
  refine ⟨fun hkp => ?_, fun hkp _ => ?_⟩
  · unfold OkAt swf
    rw [if_neg hkp]
    by_cases e : k = f
    · subst e
      rw [if_pos rfl, hf, if_pos rfl]
      exact Tm.asymm hl
    · rw [if_neg e]
      by_cases e1 : par k = j
      · rw [if_pos e1, if_neg (show ¬ k = j by omega)]
        exact hm k h0 h1 e1
      · rw [if_neg e1]
        by_cases e2 : k = j
        · rw [if_pos e2]
          have := (h f f0 fn).2 hf (by omega)
          rw [← e2] at this
          exact this
        · rw [if_neg e2]
          exact q1 e1
  · unfold swf
    rw [if_neg (show ¬ k = f by omega), if_neg (show ¬ k = j by omega), hf, if_neg (show ¬ j = f by omega), if_pos rfl]
    have := q1 (by omega)
    unfold OkAt at this
    rw [hkp] at this
    exact this
theorem DownI.stop (h : DownI a n j) (hs : ∀ c, 0 < c → c < n → par c = j → ¬ Tm.lt (a c) (a j)) : HeapO a n := fun k h0 h1 => by
  by_cases e : par k = j
  · unfold OkAt
    rw [e]
    exact hs k h0 h1 e
  · exact (h k h0 h1).1 e
theorem HeapO.root (h : HeapO a n) : ∀ k, k < n → ¬ Tm.lt (a k) (a 0) := by
  intro k
  induction k using Nat.strongRecOn with
  | ind k ih =>
    intro hk
    by_cases h0 : k = 0
    · subst h0; exact Tm.irrefl _
    · have hp := par_lt (k := k) (by omega)
      exact Tm.ntrans (h k (by omega) hk) (ih _ hp (by omega))
end
/-- What up keeps from round to round. -/
def UpAt (a : Nat → Tm) (n i0 j : Nat) : Prop := (j = i0 ∧ Hole a n i0) ∨ UpI a n j
theorem UpAt.hole {a : Nat → Tm} {n i0 j : Nat} (h : UpAt a n i0 j) : Hole a n j := by
  rcases h with ⟨rfl, h⟩ | h
  · exact h
  · exact h.hole
theorem UpAt.stop {a : Nat → Tm} {n i0 j : Nat} (h : UpAt a n i0 j) (hs : 0 < j → ¬ Tm.lt (a j) (a (par j))) : DownI a n i0 := by
  rcases h with ⟨rfl, h⟩ | h
  · exact h.stop hs
  · exact (h.stop hs).down i0

/-! ### The same, of a list -/
def at_ (ts : List Tm) (k : Nat) : Tm := ts.getD k default
theorem at_eq {ts : List Tm} {k : Nat} (h : k < ts.length) : ts[k]? = some (at_ ts k) := by
  unfold at_; rw [List.getD_eq_getElem?_getD, List.getElem?_eq_getElem h]; rfl
theorem at_of {ts : List Tm} {k : Nat} {x : Tm} (h : ts[k]? = some x) : at_ ts k = x := by
  unfold at_; rw [List.getD_eq_getElem?_getD, h]; rfl
def swp (ts : List Tm) (i j : Nat) : List Tm := (ts.set i (at_ ts j)).set j (at_ ts i)
theorem swp_len (ts : List Tm) (i j : Nat) : (swp ts i j).length = ts.length := by simp [swp]
theorem swp_at {ts : List Tm} {i j : Nat} (hi : i < ts.length) (hj : j < ts.length) : at_ (swp ts i j) = swf (at_ ts) i j := by
  funext k
  unfold swf
  by_cases h1 : k = j
  · subst h1
    rw [if_pos rfl]
    exact at_of (by unfold swp; rw [List.getElem?_set_self (by simpa using hj)])
  · rw [if_neg h1]
    by_cases h2 : k = i
    · subst h2
      rw [if_pos rfl]
      exact at_of (by unfold swp; rw [List.getElem?_set_ne (Ne.symm h1), List.getElem?_set_self hi])
    · rw [if_neg h2]
      unfold at_ swp
      rw [List.getD_eq_getElem?_getD, List.getElem?_set_ne (Ne.symm h1), List.getElem?_set_ne (Ne.symm h2), ← List.getD_eq_getElem?_getD]
theorem swp_perm {ts : List Tm} {i j : Nat} (hi : i < ts.length) (hj : j < ts.length) : (swp ts i j).Perm ts := by
  have e : swp ts i j = (ts.set i ts[j]).set j ts[i] := by
    unfold swp
    rw [at_of (List.getElem?_eq_getElem hi), at_of (List.getElem?_eq_getElem hj)]
  rw [e]
  exact List.set_set_perm hi hj
end Go.Proofs
