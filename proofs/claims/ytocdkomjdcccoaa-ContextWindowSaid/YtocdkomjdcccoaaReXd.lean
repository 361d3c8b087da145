import Derived.Test.YtocdkomjdcccoaaReV
namespace Go.Proofs
open Go.RowKit
set_option linter.unusedVariables false

/-! ### Times, in a row of the law's own -/
def u64s (U : List Int) : List Value := U.map (Value.int .u64)
theorem u64s_len (U : List Int) : (u64s U).length = U.length := by simp [u64s]
theorem u64s_at {U : List Int} {k : Nat} {x : Int} (h : U[k]? = some x) : (u64s U)[k]? = some (.int .u64 x) := by unfold u64s; rw [List.getElem?_map, h]; rfl
/-- The slice v is a row of its own, and reads as the numbers U. -/
def Un (w : World) (v : Value) (U : List Int) : Prop := Row w 22 1 v U.length (u64s U)
theorem Un.quiet {w w' : World} {v : Value} {U : List Int} (h : Un w v U) (hc : Chg [] w w') : Un w' v U := Row.chg h hc (fun _ _ hk => by cases hk)
theorem u_info : (Try.prog.info? 22).map (fun i => (i.zero, i.size, i.bytes)) = some (some (.int .u64 0), 1, 8) := by kernel_rfl
theorem run_append_u (w : World) (ty : TypeId) {v : Value} {U : List Int} {g : Nat} {x : Int} (hr : Un w v U) (hx : Blk w g 22 #[.int .u64 x]) (hb : U.length ≤ 100000) :
    ∃ A' c' w', (Builtin.append_ #[33, 33] ty #[v, .slice (some ⟨g, 0, none⟩) 1 1]).run Try.prog w = .ok (.slice A' (U.length + 1) c') w' ∧ Un w' (.slice A' (U.length + 1) c') (U ++ [x]) ∧ w.grownBy w' v.ownBlock ∧ (∀ k ∈ foot (.slice A' (U.length + 1) c'), k ∈ foot v ∨ w.heap.size ≤ k) := by
  obtain ⟨i0, hi0, hz0, hz1, hz2⟩ := info_parts u_info
  obtain ⟨gg, cap, w', q1, q2, q3, q4, q5⟩ := run_append_row (P := Try.prog) w 33 ty 22 i0 (.int .u64 0) 1 8 Try.underlying33 hi0 hz0 hz1 hz2 rfl v U.length (u64s U) hr ⟨g, 0, none⟩ 1 1 [.int .u64 x] rfl
    (fun j u hu => by
      match j, hu with
      | 0, hu =>
        simp at hu
        subst hu
        rw [addr_add, hx.cell]; rfl) (by intro u hu; simp at hu; subst hu; rfl) (by omega) (by unfold maxLen; omega) (by omega) w.heap.size rfl
  refine ⟨_, _, w', q1, ?_, q3, foot_grown q4 (fun k hk => hk)⟩
  unfold Un
  rw [List.length_append]
  have e : u64s (U ++ [x]) = u64s U ++ [.int .u64 x] := by simp [u64s]
  rw [e]
  exact q2
theorem wpList_append_u (w : World) {ops : Array Oper} {rest : List Oper} {o : Oper} {a : Act} {Q : Exit → Act → World → Prop} (hgd : o.guard = none) (s y : Operand)
    (ho : o.op = .call { callee := .builtin .append, args := #[s, y], argTypes := #[33, 33] })
    {v : Value} {U : List Int} {g N : Nat} {x : Int} (hs : a.eval s = v) (hy : a.eval y = .slice (some ⟨g, 0, none⟩) 1 1) (hr : Un w v U) (hx : Blk w g 22 #[.int .u64 x]) (hb : U.length ≤ 100000) (hN : N = U.length + 1)
    (h : ∀ A' c' w', Un w' (.slice A' N c') (U ++ [x]) → w.grownBy w' v.ownBlock → (∀ k ∈ foot (.slice A' N c'), k ∈ foot v ∨ w.heap.size ≤ k) → wpList Try.prog ops Q rest (a.put o.dst (.slice A' N c')) w') : wpList Try.prog ops Q (o :: rest) a w := by
  subst hN
  obtain ⟨A', c', w', h1, h2, h3, h4⟩ := run_append_u w o.type hr hx hb
  exact Lib.wpList_append_run w hgd s y 33 33 ho v _ hs hy _ w' h1 (h A' c' w' h2 h3 h4)
theorem Un.far {w : World} {v u : Value} {U : List Int} {X : List Rf} (h : Un w v U) (k : Rd w u X) : ∀ j ∈ foot u, j ∉ foot v := fun j hj hm => by
  rcases h.2 with ⟨rfl, _⟩ | ⟨g, cap, cur, rfl, hg, _⟩
  · cases hm
  · simp [foot_some] at hm
    subst hm
    exact Rs.ty k hg (by decide) hj
theorem Un.at_ {w : World} {A : Option Addr} {n c : Nat} {U : List Int} (h : Un w (.slice A n c) U) {k : Nat} {x : Int} (hk : U[k]? = some x) : ∃ g, A = some ⟨g, 0, none⟩ ∧ n = U.length ∧ w.cell? ⟨g, k, none⟩ = some (.int .u64 x) := by
  have hl := (List.getElem?_eq_some_iff.1 hk).1
  obtain ⟨g, cap, hv, _, _, hc, _, _⟩ := Row.form h (by omega)
  simp only [Value.slice.injEq] at hv
  obtain ⟨rfl, rfl, _⟩ := hv
  exact ⟨g, rfl, rfl, hc k _ (u64s_at hk)⟩
theorem Un.val {w : World} {v : Value} {U : List Int} (h : Un w v U) {n : Nat} (hn : U.length = n) : ∃ A c, v = .slice A n c := by
  obtain ⟨A, c, h1, _⟩ := Row.val h
  exact ⟨A, c, by rw [h1, hn]⟩
/-- How many of those that were used do not come back till a time. -/
def cntP (U : List Int) (per τ : Int) : Nat := U.countP (fun u => decide (τ < u + per))
theorem cntP_snoc (U : List Int) (u per τ : Int) : (cntP (U ++ [u]) per τ : Int) = cntP U per τ + (if τ < u + per then 1 else 0) := by
  unfold cntP
  rw [List.countP_append]
  by_cases h : τ < u + per
  · rw [if_pos h]; simp [h]
  · rw [if_neg h]; simp [h]
theorem cntP_tail {U : List Int} {per τ : Int} {q : Nat} (h : ∀ k u, q ≤ k → U[k]? = some u → τ < u + per) : U.length - q ≤ cntP U per τ := by
  have e : cntP U per τ = cntP (U.take q) per τ + cntP (U.drop q) per τ := by unfold cntP; rw [← List.countP_append, List.take_append_drop]
  have e2 : cntP (U.drop q) per τ = (U.drop q).length := by
    unfold cntP
    rw [List.countP_eq_length]
    intro u hu
    obtain ⟨j, hj, hje⟩ := List.mem_iff_getElem.1 hu
    rw [List.length_drop] at hj
    rw [List.getElem_drop] at hje
    have := h (q + j) u (by omega) (by rw [List.getElem?_eq_getElem (by omega), hje])
    simpa using this
  rw [e, e2, List.length_drop]
  omega
/-- What holds ahead of each time. -/
structure WInv (l : List Rf) (per most : Int) (k : Nat) (now : Int) (U : List Int) (X : List Rf) : Prop where
  ok : Ok X
  may : mayP X = true
  sum : sumP X = sumP l
  len : (X.length : Int) ≤ most
  now0 : 0 ≤ now
  now1 : now ≤ 1000 * (k : Int)
  used : U.length ≤ k
  past : ∀ u ∈ U, 0 ≤ u ∧ u ≤ now
  late : ∀ τ, now ≤ τ → (cntP U per τ : Int) ≤ lateP X τ
theorem WInv.start {l : List Rf} {per most : Int} (hk : Ok l) (hm : mayP l = true) (hl : (l.length : Int) ≤ most) : WInv l per most 0 0 [] l :=
  ⟨hk, hm, rfl, hl, Int.le_refl _, by simp, by simp, (fun u hu => by cases hu), fun τ _ => by simp [cntP]; exact (lateP_le hk τ).1⟩
theorem WInv.skip {l : List Rf} {per most now d : Int} {k : Nat} {U : List Int} {X : List Rf} (h : WInv l per most k now U X) (d0 : 0 ≤ d) (d1 : d ≤ 1000) : WInv l per most (k + 1) (now + d) U X :=
  ⟨h.ok, h.may, h.sum, h.len, by have := h.now0; omega, by have := h.now1; omega, by have := h.used; omega, fun u hu => by have := h.past u hu; omega, fun τ hτ => h.late τ (by omega)⟩
theorem WInv.use {l : List Rf} {per most now : Int} {k : Nat} {U : List Int} {X : List Rf} (h : WInv l per most (k + 1) now U X) (hU : U.length ≤ k) (hp : 0 ≤ per) (hc : canP X now per most) : WInv l per most (k + 1) now (U ++ [now]) (useP X now per most) := by
  obtain ⟨u1, u2, u3, u4, u5⟩ := use_facts h.ok h.now0 hp hc
  refine ⟨u1, u2, by rw [u3, h.sum], u4, h.now0, h.now1, by simp; omega, fun u hu => ?_, fun τ hτ => ?_⟩
  · rcases List.mem_append.1 hu with h1 | h1
    · exact h.past u h1
    · simp at h1; subst h1; exact ⟨h.now0, Int.le_refl _⟩
  · rw [cntP_snoc]
    have := h.late τ hτ
    have := u5 τ hτ
    omega
/-- No more in the window than all together. -/
theorem WInv.window {l : List Rf} {per most now : Int} {k q : Nat} {U : List Int} {X : List Rf} (h : WInv l per most k now U X) (ht : ∀ k u, q ≤ k → U[k]? = some u → now < u + per) : ((U.length - q : Nat) : Int) ≤ sumP l := by
  have h1 := cntP_tail ht
  have h2 := h.late now (Int.le_refl _)
  have h3 := (lateP_le h.ok now).2
  have h4 := h.sum
  omega
/-- In the midst: the times used, and the list, in memory. -/
def WMid (w wx : World) (V5 V7 : Value) (U : List Int) (X : List Rf) : Prop := Un wx V5 U ∧ (∀ k ∈ foot V5, w.heap.size ≤ k) ∧ Rd wx V7 X ∧ Chg [] w wx
end Go.Proofs
