import Derived.Test.YtoddffpbbnicpaaRuZ
namespace Go.Proofs
open Go.RowKit
set_option linter.unusedVariables false

/-- One more at the end: it is stolen, where it may be, and not all that are wanted have been. -/
theorem steal_snoc (f : Int → Bool) (k : Nat) (l : List Int) (x : Int) :
    (f x = true ∧ (stl f k l).length < k → stl f k (l ++ [x]) = stl f k l ++ [x] ∧ rst f k (l ++ [x]) = rst f k l) ∧
    (¬ (f x = true ∧ (stl f k l).length < k) → stl f k (l ++ [x]) = stl f k l ∧ rst f k (l ++ [x]) = rst f k l ++ [x]) := by
  induction l generalizing k with
  | nil =>
    cases k with
    | zero => simp [stl, rst]
    | succ k => by_cases hf : f x = true <;> cases k <;> simp [stl, rst, hf]
  | cons y l ih =>
    cases k with
    | zero => simp [stl, rst]
    | succ k =>
      by_cases hf : f y = true
      · have := ih k
        simp only [List.cons_append, stl, rst, hf, if_true, List.length_cons, Nat.add_lt_add_iff_right, List.cons.injEq, true_and]
        exact this
      · have := ih (k + 1)
        simp only [List.cons_append, stl, rst, hf, if_false, Bool.false_eq_true, List.cons.injEq, true_and]
        exact this
section
variable {w w1 : World} {r : Nat} {S : List Nat} {M : Nat} {L L' : List Int} {N : Option Int} {VL VN V : Value}
/-- A new value in the ring's cell, and nobody next. -/
theorem RTurns.setLN (hB : Blk w r 45 #[VL, .int .i64 M, VN]) (hS : S = r :: (foot VL ++ foot VN)) (hc : Chg [] w w1) (hV : Rd w1 V L') (hf : ∀ k ∈ foot V, w.heap.size ≤ k) :
    RTurns r S M L' none w ((w1.setCell ⟨r, 0, none⟩ V).setCell ⟨r, 2, none⟩ (.slice none 0 0)) := by
  have hB1 := hB.chg hc (by simp)
  have hrV : r ∉ foot V := hV.ty hB1 (by decide)
  refine ⟨r :: (foot V ++ foot (.slice none 0 0)), ⟨V, .slice none 0 0, (hB1.set_ 0 V).set_ 2 _, ?_, Rd.nil _, rfl⟩, fun k hk => ?_, (hc.any.setCell (p := ⟨r, 0, none⟩) (.inl (by simp)) V).setCell (p := ⟨r, 2, none⟩) (.inl (by simp)) _⟩
  · refine (hV.same fun k hk => Below.heap_setCell _ _ _ _ (fun e => hrV (by have : k = r := e; rw [← this]; exact hk))).same fun k hk => Below.heap_setCell _ _ _ _ (fun e => hrV (by have : k = r := e; rw [← this]; exact hk))
  · simp [foot_nil] at hk
    rcases hk with rfl | hk
    · exact .inl (by rw [hS]; simp)
    · exact .inr (hf k hk)
/-- In the midst of the document's theft: v9 has those that are stolen, v10 the others. -/
structure RMid (w : World) (f : Int → Bool) (L : List Int) (k i : Nat) (v9 v10 : Value) (wx : World) : Prop where
  out : Fresh w wx v9 (stl f k (L.take i))
  left : Fresh w wx v10 (rst f k (L.take i))
  apart : ∀ b ∈ foot v9, b ∉ foot v10
theorem RMid.start (w : World) (f : Int → Bool) (L : List Int) (k : Nat) : RMid w f L k 0 (.slice none 0 0) (.slice none 0 0) w := by
  refine ⟨?_, ?_, fun b hb => by cases hb⟩
  · have : stl f k (L.take 0) = [] := by cases k <;> rfl
    rw [this]; exact Fresh.nil (Chg.refl _ _)
  · have : rst f k (L.take 0) = [] := by cases k <;> rfl
    rw [this]; exact Fresh.nil (Chg.refl _ _)
variable {f : Int → Bool} {k i : Nat} {v9 v10 v9' v10' : Value} {wx w2 w3 : World} {y : Int}
theorem RMid.took (H : RMid w f L k i v9 v10 wx) (hy : L[i]? = some y) (hf : f y = true) (hk : (stl f k (L.take i)).length < k) (hc : Chg [] wx w2)
    (hr : Row w3 3 1 v9' (stl f k (L.take i) ++ [y]).length (ints (stl f k (L.take i) ++ [y]))) (hg : w2.grownBy w3 v9.ownBlock) (hft : ∀ b ∈ foot v9', b ∈ foot v9 ∨ w2.heap.size ≤ b) : RMid w f L k (i + 1) v9' v10 w3 := by
  obtain ⟨hi, rfl⟩ := List.getElem?_eq_some_iff.1 hy
  obtain ⟨e1, e2⟩ := (steal_snoc f k (L.take i) L[i]).1 ⟨hf, hk⟩
  rw [← List.take_succ_eq_append_getElem hi] at e1 e2
  have hl := H.left.later hc
  refine ⟨by rw [e1]; exact (H.out.later hc).append hr hg hft, ?_, fun b hb hm => ?_⟩
  · rw [e2]
    refine ⟨hl.1.same fun b hb => hg.block b (hl.1.lt b hb) (fun e => H.apart b (row_mem e.symm) hb), hl.2.1, ?_⟩
    exact (H.out.later hc).2.2.grown hg (fun b hb => .inr (H.out.2.1 b (row_mem hb)))
  · rcases hft b hb with h9 | h9
    · exact H.apart b h9 hm
    · have := hl.1.lt b hm; omega
theorem RMid.left_ (H : RMid w f L k i v9 v10 wx) (hy : L[i]? = some y) (hf : ¬ (f y = true ∧ (stl f k (L.take i)).length < k)) (hc : Chg [] wx w2)
    (hr : Row w3 3 1 v10' (rst f k (L.take i) ++ [y]).length (ints (rst f k (L.take i) ++ [y]))) (hg : w2.grownBy w3 v10.ownBlock) (hft : ∀ b ∈ foot v10', b ∈ foot v10 ∨ w2.heap.size ≤ b) : RMid w f L k (i + 1) v9 v10' w3 := by
  obtain ⟨hi, rfl⟩ := List.getElem?_eq_some_iff.1 hy
  obtain ⟨e1, e2⟩ := (steal_snoc f k (L.take i) L[i]).2 hf
  rw [← List.take_succ_eq_append_getElem hi] at e1 e2
  have hl := H.out.later hc
  refine ⟨?_, by rw [e2]; exact (H.left.later hc).append hr hg hft, fun b hb hm => ?_⟩
  · rw [e1]
    refine ⟨hl.1.same fun b hb => hg.block b (hl.1.lt b hb) (fun e => H.apart b hb (row_mem e.symm)), hl.2.1, ?_⟩
    exact (H.left.later hc).2.2.grown hg (fun b hb => .inr (H.left.2.1 b (row_mem hb)))
  · rcases hft b hm with h9 | h9
    · exact H.apart b hb h9
    · have := hl.1.lt b hb; omega
end
end Go.Proofs
