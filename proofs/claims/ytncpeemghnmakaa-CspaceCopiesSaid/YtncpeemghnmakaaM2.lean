import Derived.Test.YtncpeemghnmakaaM1
import Derived.Test.YtncpeemghnmakaaProg
import Derived.WalkKit
import Derived.LoopTactic
import Derived.Deep.Upon
import Derived.Lib.AppendZerosOnto
import Derived.Lib.SliceRun
section
namespace Go.Proofs
open Go.RowKit
set_option linter.unusedVariables false

theorem Try.num_info : (Try.prog.info? 3).map (fun i => (i.zero, i.size, i.bytes)) = some (some (.int .i64 0), 1, 8) := by kernel_rfl
/-- append of a slice that reads as l onto a row of the call's own. -/
theorem run_append_rd (w : World) (ty : TypeId) {v x : Value} {xs l : List Int} (hr : Row w 3 1 v xs.length (ints xs)) (hx : Rd w x l) (hb : xs.length + l.length ≤ 1000000) :
    ∃ v' w', (Builtin.append_ #[107, 107] ty #[v, x]).run Try.prog w = .ok v' w' ∧ Row w' 3 1 v' (xs ++ l).length (ints (xs ++ l)) ∧ w.grownBy w' v.ownBlock ∧ (∀ k ∈ foot v', k ∈ foot v ∨ w.heap.size ≤ k) := by
  obtain ⟨i0, hi0, hz0, hz1, hz2⟩ := info_parts Try.num_info
  obtain ⟨A, c, rfl, h1, h2, h3, h4⟩ := hx
  rcases Nat.eq_zero_or_pos l.length with h0 | h0
  · have hl : l = [] := List.eq_nil_of_length_eq_zero h0
    subst hl
    obtain ⟨A', c', rfl, hA'⟩ := hr.val
    have hle : xs.length ≤ c' := by
      rcases hr.2 with ⟨hv, h0⟩ | ⟨g, cap, cur, hv, _, hc, _⟩
      · omega
      · injection hv with _ _ hv; omega
    refine ⟨_, w, run_append_nothing w 107 107 ty 3 i0 Try.underlying107 hi0 A' xs.length c' hle (.slice A 0 c) ?_, by simpa using hr, World.grownBy.refl w _, fun k hk => .inl hk⟩
    have hc : ∀ W : World, (Builtin.firstCells i0.size 0 (.slice A 0 c)).run Try.prog W = .ok #[] W := fun W => by
      cases A with
      | none => exact run_firstCells_none W i0.size 0 0 c
      | some a => exact run_firstCells_some W i0.size 0 a 0 c [] (by simp) (fun j u hj => by simp at hj)
    exact ⟨.inl ⟨3, Try.underlying107⟩, fun w' => by simp [Builtin.lenOf], hc w, hc _, by simp, by simp⟩
  · cases A with
    | none => have := h3 rfl; omega
    | some a =>
      obtain ⟨g, o, cs, rfl, hB, hs, r⟩ := h4 a rfl
      obtain ⟨gg, cap, w', q1, q2, q3, q4, q5⟩ := run_append_row (P := Try.prog) w 107 ty 3 i0 (.int .i64 0) 1 8 Try.underlying107 hi0 hz0 hz1 hz2 rfl v xs.length (ints xs) hr ⟨g, o, none⟩ l.length c (ints l) (by rw [ints_len]; omega)
        (fun j u hu => by
          unfold ints at hu
          rw [List.getElem?_map, Option.map_eq_some_iff] at hu
          obtain ⟨y, hy, rfl⟩ := hu
          have := r j y hy
          have hadd : (⟨g, o, none⟩ : Addr).add j = ⟨g, o + j, none⟩ := by unfold Addr.add; split <;> simp_all
          rw [hadd, hB.cell]
          exact this) (by intro u hu; unfold ints at hu; obtain ⟨y, _, rfl⟩ := List.mem_map.1 hu; rfl) h0 (by unfold maxLen; omega) (by omega) w.heap.size rfl
      rw [← ints_append] at q2
      rw [← List.length_append] at q1 q2
      exact ⟨_, w', q1, q2, q3, foot_grown q4 (fun k hk => hk)⟩

theorem wpList_append_rd (w : World) {ops : Array Oper} {rest : List Oper} {o : Oper} {a : Act} {Q : Exit → Act → World → Prop} (hgd : o.guard = none) (s y : Operand)
    (ho : o.op = .call { callee := .builtin .append, args := #[s, y], argTypes := #[107, 107] })
    {v x : Value} {xs l : List Int} (hs : a.eval s = v) (hy : a.eval y = x) (hr : Row w 3 1 v xs.length (ints xs)) (hx : Rd w x l) (hb : xs.length + l.length ≤ 1000000)
    (h : ∀ v' w', Row w' 3 1 v' (xs ++ l).length (ints (xs ++ l)) → w.grownBy w' v.ownBlock → (∀ k ∈ foot v', k ∈ foot v ∨ w.heap.size ≤ k) → wpList Try.prog ops Q rest (a.put o.dst v') w') : wpList Try.prog ops Q (o :: rest) a w := by
  obtain ⟨v', w', h1, h2, h3, h4⟩ := run_append_rd w o.type hr hx hb
  exact Lib.wpList_append_run w hgd s y 107 107 ho v x hs hy v' w' h1 (h v' w' h2 h3 h4)
theorem wpList_append_rs (w : World) {ops : Array Oper} {rest : List Oper} {o : Oper} {a : Act} {Q : Exit → Act → World → Prop} (hgd : o.guard = none) (s y : Operand)
    (ho : o.op = .call { callee := .builtin .append, args := #[s, y], argTypes := #[107, 107] })
    {v x : Value} {xs l : List Int} {n : Nat} (hs : a.eval s = v) (hy : a.eval y = x) (hr : Row w 3 1 v xs.length (ints xs)) (hx : Rd w x l) (hb : xs.length + l.length ≤ 1000000) (hn : n = xs.length + l.length)
    (h : ∀ A' c' w', Row w' 3 1 (.slice A' n c') (xs ++ l).length (ints (xs ++ l)) → w.grownBy w' v.ownBlock → (∀ k ∈ foot (.slice A' n c'), k ∈ foot v ∨ w.heap.size ≤ k) → wpList Try.prog ops Q rest (a.put o.dst (.slice A' n c')) w') : wpList Try.prog ops Q (o :: rest) a w := by
  subst hn
  obtain ⟨v', w', h1, h2, h3, h4⟩ := run_append_rd w o.type hr hx hb
  obtain ⟨A', c', rfl, _⟩ := h2.val
  rw [List.length_append] at h1 h2 h4
  rw [← List.length_append] at h2
  exact Lib.wpList_append_run w hgd s y 107 107 ho v x hs hy _ w' h1 (h A' c' w' (by simpa using h2) h3 h4)
/-- What a call makes: a row of its own, in new blocks; nothing else has turned. -/
def Fresh (w w' : World) (v : Value) (l : List Int) : Prop := Row w' 3 1 v l.length (ints l) ∧ (∀ k ∈ foot v, w.heap.size ≤ k) ∧ Chg [] w w'
theorem Fresh.append {w w1 w2 : World} {v v' : Value} {xs l : List Int} (h : Fresh w w1 v xs) (hr : Row w2 3 1 v' (xs ++ l).length (ints (xs ++ l))) (hg : w1.grownBy w2 v.ownBlock) (hf : ∀ k ∈ foot v', k ∈ foot v ∨ w1.heap.size ≤ k) : Fresh w w2 v' (xs ++ l) := by
  refine ⟨hr, fun k hk => ?_, ?_⟩
  · rcases hf k hk with h1 | h1
    · exact h.2.1 k h1
    · have := h.2.2.size; omega
  · exact h.2.2.grown hg (fun k hk => .inr (h.2.1 k (row_mem hk)))
theorem Fresh.rd {w w1 : World} {v : Value} {l : List Int} (h : Fresh w w1 v l) : Rd w1 v l := Rd.of_row h.1
theorem Fresh.nil {w w1 : World} (h : Chg [] w w1) : Fresh w w1 (.slice none 0 0) [] := ⟨Row.nil _ _ _, (fun k hk => by cases hk), h⟩
theorem Fresh.drewN {w w1 : World} {v : Value} {l : List Int} (h : Fresh w w1 v l) (n : Nat) : Fresh w (w1.drewN n) v l := ⟨h.1.drewN n, h.2.1, h.2.2.drewN n⟩
theorem Fresh.before {w0 w w1 : World} {v : Value} {l : List Int} (h0 : Chg [] w0 w) (h : Fresh w w1 v l) : Fresh w0 w1 v l := ⟨h.1, fun k hk => Nat.le_trans h0.size (h.2.1 k hk), h0.then h.2.2⟩
theorem Fresh.later {w w1 w2 : World} {v : Value} {l : List Int} (h : Fresh w w1 v l) (hc : Chg [] w1 w2) : Fresh w w2 v l := ⟨h.1.chg hc (fun _ _ h => by cases h), h.2.1, h.2.2.then hc⟩
theorem step_append_rs (w : World) {ops : Array Oper} {o : Oper} {a : Act} {K : Act → World → Prop} {Q : Exit → Act → World → Prop} {E : Prop} (hgd : o.guard = none) (s y : Operand)
    (ho : o.op = .call { callee := .builtin .append, args := #[s, y], argTypes := #[107, 107] })
    {v x : Value} {xs l : List Int} {n : Nat} (hs : a.eval s = v) (hy : a.eval y = x) (hr : Row w 3 1 v xs.length (ints xs)) (hx : Rd w x l) (hb : xs.length + l.length ≤ 1000000) (hn : n = xs.length + l.length)
    (h : ∀ A' c' w', Row w' 3 1 (.slice A' n c') (xs ++ l).length (ints (xs ++ l)) → w.grownBy w' v.ownBlock → (∀ k ∈ foot (.slice A' n c'), k ∈ foot v ∨ w.heap.size ≤ k) → K (a.put o.dst (.slice A' n c')) w') :
    if Region.wanted o (yielded ops a.tmps) = true then Oper.wp Try.prog o a w K Q else E := by
  have hw : Region.wanted o (yielded ops a.tmps) = true := by simp [Region.wanted, hgd]
  rw [if_pos hw]
  subst hn
  obtain ⟨v', w', h1, h2, h3, h4⟩ := run_append_rd w o.type hr hx hb
  obtain ⟨A', c', rfl, _⟩ := h2.val
  rw [List.length_append] at h1 h2 h4
  rw [← List.length_append] at h2
  unfold Oper.wp execOp
  simp only [ho, resolve, invoke, builtin, Sem.run_bind, Sem.run_pure, Result.andThen_ok, List.map_toArray, List.map_cons, List.map_nil, hs, hy, h1]
  exact h A' c' w' (by simpa using h2) h3 h4
end Go.Proofs
end
