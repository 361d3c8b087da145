import Derived.Test.YtoddffpbbnicpaaRuM
namespace Go.Proofs
open Go.RowKit
set_option linter.unusedVariables false

/-- append onto a slice that has no room for more: what comes lies in a new block, whatever is behind. -/
theorem run_append_full (w : World) (ty : TypeId) {A : Option Addr} {n : Nat} {x : Value} {xs l : List Int} (hr : Rd w (.slice A n n) xs) (h0 : 0 < n) (hx : Rd w x l) (hl : 0 < l.length) (hb : xs.length + l.length ≤ 1000000) :
    ∃ v' w', (Builtin.append_ #[38, 38] ty #[.slice A n n, x]).run Try.prog w = .ok v' w' ∧ Fresh w w' v' (xs ++ l) := by
  obtain ⟨i0, hi0, hz0, hz1, hz2⟩ := info_parts Try.num_info
  obtain ⟨A', c', hv, q1, q2, q3, q4⟩ := hr
  simp only [Value.slice.injEq] at hv
  obtain ⟨rfl, hn, hc⟩ := hv
  subst hn
  cases A with
  | none => have := q3 rfl; omega
  | some a0 =>
    obtain ⟨g, o, cs, rfl, hB, hs, r⟩ := q4 _ rfl
    obtain ⟨A2, c2, rfl, p1, p2, p3, p4⟩ := hx
    cases A2 with
    | none => have := p3 rfl; omega
    | some a2 =>
      obtain ⟨g2, o2, cs2, rfl, hB2, hs2, r2⟩ := p4 _ rfl
      have hadd : ∀ (g o j : Nat), (⟨g, o, none⟩ : Addr).add j = ⟨g, o + j, none⟩ := fun g o j => by unfold Addr.add; split <;> simp_all
      have hat : ∀ (u : List Int) (g o : Nat) (cs : Array Value), Blk w g 3 cs → (∀ j x, u[j]? = some x → cs[o + j]? = some (.int .i64 x)) → ∀ j v, (ints u)[j]? = some v → w.cell? ((⟨g, o, none⟩ : Addr).add j) = some v := by
        intro u g o cs hB r j v hj
        unfold ints at hj
        rw [List.getElem?_map, Option.map_eq_some_iff] at hj
        obtain ⟨y, hy, rfl⟩ := hj
        rw [hadd, hB.cell]
        exact r j y hy
      have hrun := run_append_grow (P := Try.prog) w 38 ty 3 i0 (.int .i64 0) Try.underlying38 hi0 hz0 ⟨g, o, none⟩ xs.length xs.length (ints xs) (by rw [ints_len, hz1]; omega) (hat xs g o cs hB r) ⟨g2, o2, none⟩ l.length c2 (ints l) (by rw [ints_len, hz1]; omega) (hat l g2 o2 cs2 hB2 r2) (by omega) (by omega) (growslice_fits (by omega) (by rw [hz2]; omega))
      refine ⟨_, _, hrun, ⟨by rw [ints_len]; omega, .inr ⟨w.heap.size, grownCap w (xs.length + l.length) xs.length 3, _, by rw [List.length_append], heap_alloc_new w.drew _, ?_, ?_, ?_, ?_⟩⟩, ?_, ((Chg.refl _ _).drew).alloc _⟩
      · rw [List.length_append]; exact grownCap_ge w _ _ _
      · exact grownCap_le_maxLen w _ _ _ (by unfold maxLen; omega)
      · have := grownCap_ge w (xs.length + l.length) xs.length 3
        simp only [Array.size_append, List.size_toArray, size_zeroCells, ints_len, Value.cells]
        simp
        omega
      · simp only [Array.toList_append, List.append_assoc]
        rw [ints_append, ← List.append_assoc]
        have : (xs ++ l).length * 1 = (ints xs ++ ints l).length := by simp [ints_len]
        rw [this]
        exact List.take_left
      · intro k hk
        simp [foot_some] at hk
        omega
theorem wpList_append_full (w : World) {ops : Array Oper} {rest : List Oper} {o : Oper} {a : Act} {Q : Exit → Act → World → Prop} (hgd : o.guard = none) (s y : Operand)
    (ho : o.op = .call { callee := .builtin .append, args := #[s, y], argTypes := #[38, 38] })
    {A : Option Addr} {n : Nat} {x : Value} {xs l : List Int} (hs : a.eval s = .slice A n n) (hy : a.eval y = x) (hr : Rd w (.slice A n n) xs) (h0 : 0 < n) (hx : Rd w x l) (hl : 0 < l.length) (hb : xs.length + l.length ≤ 1000000)
    (h : ∀ v' w', Fresh w w' v' (xs ++ l) → wpList Try.prog ops Q rest (a.put o.dst v') w') : wpList Try.prog ops Q (o :: rest) a w := by
  obtain ⟨v', w', h1, h2⟩ := run_append_full w o.type hr h0 hx hl hb
  exact Lib.wpList_append_run w hgd s y 38 38 ho _ x hs hy v' w' h1 (h v' w' h2)
end Go.Proofs
