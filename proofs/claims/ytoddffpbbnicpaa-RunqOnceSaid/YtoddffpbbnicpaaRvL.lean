import Derived.Test.YtoddffpbbnicpaaRvI
import Derived.Laws.BytesArg
namespace Go.Proofs
open Go.RowKit
set_option linter.unusedVariables false

/-! ### What a theft takes, plainly -/
theorem steal_perm (f : Int → Bool) (k : Nat) (l : List Int) : (stl f k l ++ rst f k l).Perm l := by
  induction l generalizing k with
  | nil => cases k <;> exact List.Perm.refl _
  | cons x l ih =>
    cases k with
    | zero => rw [stl_zero, rst_zero]; exact List.Perm.refl _
    | succ k =>
      unfold stl rst
      by_cases hf : f x = true
      · rw [if_pos hf, if_pos hf]
        exact (ih k).cons x
      · rw [if_neg hf, if_neg hf]
        exact List.perm_middle.trans ((ih (k + 1)).cons x)
theorem stealQ_perm (f : Int → Bool) (L : List Int) (N : Option Int) : (stealS f L N ++ ((stealN f L N).toList ++ stealL f L)).Perm (N.toList ++ L) := by
  have hp := steal_perm f (halfN (L.countP f)) L
  unfold stealS stealN stealL stealR
  by_cases h0 : (stl f (halfN (L.countP f)) L).length = 0
  · rw [if_pos h0, if_pos h0]
    rw [List.eq_nil_of_length_eq_zero h0, List.nil_append] at hp
    rw [← List.append_assoc]
    refine List.Perm.append ?_ hp
    cases N with
    | none => exact List.Perm.refl _
    | some y => by_cases hf : f y = true <;> simp [Option.filter, hf]
  · rw [if_neg h0, if_neg h0]
    rw [← List.append_assoc]
    refine ((List.perm_append_comm).append_right _).trans ?_
    rw [List.append_assoc]
    exact (List.Perm.refl _).append hp
theorem stl_len (f : Int → Bool) (k : Nat) (l : List Int) : (stl f k l).length = min k (l.countP f) := by
  induction l generalizing k with
  | nil => cases k <;> simp [stl]
  | cons x l ih =>
    cases k with
    | zero => rw [stl_zero]; simp
    | succ k =>
      unfold stl
      by_cases hf : f x = true
      · rw [if_pos hf, List.countP_cons_of_pos hf, List.length_cons, ih]; omega
      · rw [if_neg hf, List.countP_cons_of_neg hf, ih]
theorem stl_may (f : Int → Bool) (k : Nat) (l : List Int) : ∀ x ∈ stl f k l, f x = true := by
  induction l generalizing k with
  | nil => intro x hx; cases k <;> simp [stl] at hx
  | cons y l ih =>
    intro x hx
    cases k with
    | zero => rw [stl_zero] at hx; cases hx
    | succ k =>
      unfold stl at hx
      by_cases hf : f y = true
      · rw [if_pos hf] at hx
        rcases List.mem_cons.1 hx with rfl | h9
        · exact hf
        · exact ih k x h9
      · rw [if_neg hf] at hx
        exact ih (k + 1) x hx
theorem stealS_may (f : Int → Bool) (L : List Int) (N : Option Int) : ∀ x ∈ stealS f L N, f x = true := by
  intro x hx
  unfold stealS at hx
  split at hx
  · exact (List.mem_filter.1 hx).2
  · exact stl_may _ _ _ x hx
theorem stealS_len (f : Int → Bool) (L : List Int) (N : Option Int) : (0 < L.countP f → (stealS f L N).length = (L.countP f + 1) / 2) ∧ (L.countP f = 0 → (stealS f L N).length ≤ 1) := by
  have hl := stl_len f (halfN (L.countP f)) L
  have hh : halfN (L.countP f) = (L.countP f + 1) / 2 := by unfold halfN; omega
  have hm : min (halfN (L.countP f)) (L.countP f) = (L.countP f + 1) / 2 := by rw [hh]; omega
  rw [hm] at hl
  unfold stealS stealR
  refine ⟨fun h => ?_, fun h => ?_⟩
  · rw [if_neg (by omega), hl]
  · rw [if_pos (by omega)]
    refine Nat.le_trans (List.length_filter_le _ _) ?_
    cases N <;> simp
/-! ### Bytes -/
def bytes (l : List Int) : List Value := l.map (Value.int .u8)
theorem bytes_at {l : List Int} {j : Nat} {v : Value} (h : (bytes l)[j]? = some v) : ∃ x, l[j]? = some x ∧ v = .int .u8 x := by
  unfold bytes at h
  rw [List.getElem?_map, Option.map_eq_some_iff] at h
  obtain ⟨y, hy, rfl⟩ := h
  exact ⟨y, hy, rfl⟩
theorem Try.byte_info : (Try.prog.info? 5).map (fun i => (i.zero, i.size, i.bytes)) = some (some (.int .u8 0), 1, 1) := by kernel_rfl
/-- A copy of bytes, made by append onto nothing. -/
theorem run_append_bytes (w : World) (ty : TypeId) {V : Value} {l : List Int} (h : Bs w V l) (hb : l.length ≤ 1000) :
    ∃ v' w', (Builtin.append_ #[33, 33] ty #[.slice none 0 0, V]).run Try.prog w = .ok v' w' ∧ Bs w' v' l ∧ (∀ k ∈ foot v', w.heap.size ≤ k) ∧ Chg [] w w' := by
  obtain ⟨i0, hi0, hz0, hz1, hz2⟩ := info_parts Try.byte_info
  obtain ⟨A, c, rfl, ho⟩ := h
  rcases Nat.eq_zero_or_pos l.length with h0 | h0
  · have hl : l = [] := List.eq_nil_of_length_eq_zero h0
    subst hl
    refine ⟨_, w, run_append_nothing w 33 33 ty 5 i0 Try.underlying33 hi0 none 0 0 (Nat.le_refl _) (.slice A 0 c) ?_, ⟨none, 0, rfl, fun k x hk => by simp at hk⟩, (fun k hk => by cases hk), Chg.refl _ _⟩
    have hc : ∀ W : World, (Builtin.firstCells i0.size 0 (.slice A 0 c)).run Try.prog W = .ok #[] W := fun W => by
      cases A with
      | none => exact run_firstCells_none W i0.size 0 0 c
      | some a => exact run_firstCells_some W i0.size 0 a 0 c [] (by simp) (fun j u hj => by simp at hj)
    exact ⟨.inl ⟨5, Try.underlying33⟩, fun w' => by simp [Builtin.lenOf], hc w, hc _, by simp, by simp⟩
  · obtain ⟨b, o, rfl, _⟩ := ho 0 _ (List.getElem?_eq_getElem h0)
    have hat : ∀ j v, (bytes l)[j]? = some v → w.cell? ((⟨b, o, none⟩ : Addr).add j) = some v := fun j v hj => by
      obtain ⟨x, hx, rfl⟩ := bytes_at hj
      obtain ⟨b', o', e, _, _, _, hc⟩ := ho j x hx
      injection e with e
      injection e with e1 e2
      subst e1 e2
      have hadd : (⟨b, o, none⟩ : Addr).add j = ⟨b, o + j, none⟩ := by unfold Addr.add; split <;> simp_all
      rw [hadd]
      exact hc
    obtain ⟨g, cap, w', q1, q2, q3, q4, q5⟩ := run_append_row (P := Try.prog) w 33 ty 5 i0 (.int .u8 0) 1 1 Try.underlying33 hi0 hz0 hz1 hz2 rfl (.slice none 0 0) 0 [] (Row.nil _ _ _) ⟨b, o, none⟩ l.length c (bytes l)
      (by simp [bytes]) hat (by intro u hu; unfold bytes at hu; obtain ⟨y, _, rfl⟩ := List.mem_map.1 hu; rfl) h0 (by unfold maxLen; omega) (by omega) w.heap.size rfl
    simp only [Nat.zero_add, List.nil_append] at q1 q2
    have hg : g = w.heap.size := q4.resolve_left (by simp [Value.ownBlock])
    obtain ⟨_, _, hv, _, _, hcell, _, hlt⟩ := q2.form h0
    simp only [Value.slice.injEq, Option.some.injEq, Addr.mk.injEq] at hv
    obtain ⟨⟨rfl, _⟩, _, rfl⟩ := hv
    refine ⟨_, w', q1, ⟨_, cap, rfl, fun k x hk => ⟨g, 0, rfl, hlt, ?_, ?_, ?_⟩⟩, fun k hk => by simp [foot_some] at hk; omega, (Chg.refl _ _).grown q3 (fun k hk => by simp [Value.ownBlock] at hk)⟩
    · obtain ⟨_, _, _, _, x0, _⟩ := ho k x hk; exact x0
    · obtain ⟨_, _, _, _, _, x1, _⟩ := ho k x hk; exact x1
    · rw [Nat.zero_add]
      exact hcell k _ (by unfold bytes; rw [List.getElem?_map, hk]; rfl)
theorem wpList_append_bytes (w : World) {ops : Array Oper} {rest : List Oper} {o : Oper} {a : Act} {Q : Exit → Act → World → Prop} (hgd : o.guard = none) (s y : Operand)
    (ho : o.op = .call { callee := .builtin .append, args := #[s, y], argTypes := #[33, 33] })
    {x : Value} {l : List Int} (hs : a.eval s = .slice none 0 0) (hy : a.eval y = x) (hx : Bs w x l) (hb : l.length ≤ 1000)
    (h : ∀ A' c' w', Bs w' (.slice A' l.length c') l → (∀ k ∈ foot (.slice A' l.length c'), w.heap.size ≤ k) → Chg [] w w' → wpList Try.prog ops Q rest (a.put o.dst (.slice A' l.length c')) w') : wpList Try.prog ops Q (o :: rest) a w := by
  obtain ⟨v', w', h1, h2, h3, h4⟩ := run_append_bytes w o.type hx hb
  obtain ⟨A', c', rfl, _⟩ := id h2
  exact Lib.wpList_append_run w hgd s y 33 33 ho _ x hs hy _ w' h1 (h A' c' w' h2 h3 h4)
/-- The string of bytes that are read. -/
theorem conv_any {w : World} {V : Value} {l : List Int} (h : Bs w V l) : (convert 33 9 V).run Try.prog w = .ok (.string (strOfNums l)) w := by
  obtain ⟨A, c, rfl, ho⟩ := h
  rcases Nat.eq_zero_or_pos l.length with h0 | h0
  · have hl : l = [] := List.eq_nil_of_length_eq_zero h0
    subst hl
    cases A with
    | none => exact run_convert_bytes_nil w 33 5 Try.underlying33 Try.underlying5 0 c 9 Try.underlying9
    | some a =>
      have hl0 : (loadCells a 0).run Try.prog w = .ok (([] : List Int).map (Value.int .u8)).toArray w := run_loadCells_list (P := Try.prog) w a [] (fun j v hj => by simp at hj)
      rw [List.length_nil, run_convert_bytes_string w 33 9 5 (some a) 0 c Try.underlying33 Try.underlying5 Try.underlying9, run_bytesToString w a 0 c [] hl0]
      rfl
  · obtain ⟨b, o, rfl, _⟩ := ho 0 _ (List.getElem?_eq_getElem h0)
    refine run_convert_bytes_arg w 33 5 Try.underlying33 Try.underlying5 b o l.length c l rfl (fun i hi => ?_) 9 Try.underlying9
    obtain ⟨b', o', e, _, _, _, hc⟩ := ho i _ (List.getElem?_eq_getElem hi)
    injection e with e
    injection e with e1 e2
    subst e1 e2
    rw [hc, List.getD_eq_getElem?_getD, List.getElem?_eq_getElem hi]
    rfl
theorem neq_str (s : ByteArray) (W : World) : (binOp .neq 9 (.string s) (.string s)).run Try.prog W = .ok (.bool false) W := by
  simp [go_sem]
end Go.Proofs
