import Derived.Test.YtapgcadffghljaaDoorFMay4
import Derived.Great.BuildSlice
import Derived.Laws.Tables
section
namespace Go.Proofs
open Go.RowKit
set_option linter.unusedVariables false
set_option linter.unusedSimpArgs false

/-! ### A struct built of parts of many cells -/
theorem foldset_get (off : Nat) : ∀ (l : List Value) (n : Nat) (cells : Array Value) (i : Nat), off + n + l.length ≤ cells.size →
    ((l.zipIdx n).foldl (fun (cs : Array Value) (x : Value × Nat) => cs.setIfInBounds (off + x.2) x.1) cells)[i]? = if off + n ≤ i ∧ i < off + n + l.length then l[i - (off + n)]? else cells[i]? := by
  intro l
  induction l with
  | nil => intro n cells i h; simp; intro h1 h2; omega
  | cons v l ih =>
    intro n cells i h
    simp only [List.length_cons] at h
    rw [List.zipIdx_cons, List.foldl_cons, ih (n + 1) _ i (by simp; omega)]
    by_cases h1 : off + (n + 1) ≤ i ∧ i < off + (n + 1) + l.length
    · rw [if_pos h1, if_pos (by simp only [List.length_cons]; omega)]
      rw [show i - (off + n) = (i - (off + (n + 1))) + 1 by omega]
      simp
    · rw [if_neg h1]
      by_cases h2 : i = off + n
      · subst h2
        rw [if_pos (by simp only [List.length_cons]; omega), Nat.sub_self, Array.getElem?_setIfInBounds_self_of_lt (by omega)]
        simp
      · rw [if_neg (by simp only [List.length_cons]; omega), Array.getElem?_setIfInBounds_ne (by simpa using fun e => h2 e.symm)]
theorem foldset (off : Nat) (A cells : Array Value) (h : off + A.size ≤ cells.size) : A.zipIdx.foldl (fun (cs : Array Value) (x : Value × Nat) => cs.setIfInBounds (off + x.2) x.1) cells = splice_at cells off A := by
  obtain ⟨l⟩ := A
  simp only [List.size_toArray] at h
  have e : (List.toArray l).zipIdx.foldl (fun (cs : Array Value) (x : Value × Nat) => cs.setIfInBounds (off + x.2) x.1) cells = (l.zipIdx 0).foldl (fun (cs : Array Value) (x : Value × Nat) => cs.setIfInBounds (off + x.2) x.1) cells := by
    simp
  rw [e]
  apply Array.ext_getElem?
  intro i
  rw [foldset_get off l 0 cells i (by omega)]
  by_cases h1 : off + 0 ≤ i ∧ i < off + 0 + l.length
  · rw [if_pos h1]
    have := splice_in cells (List.toArray l) off (i - off) (by simpa using h) (by simp; omega)
    rw [show off + (i - off) = i by omega] at this
    rw [this]; simp
  · rw [if_neg h1, splice_out cells (List.toArray l) off i (by simpa using h) (by simp; omega)]
theorem fill_step {place : Nat → Option (Nat × Nat)} {cells A : Array Value} {i off : Nat} {rest : List (Nat × Value)} (h : place i = some (off, A.size)) (hf : off + A.size ≤ cells.size) : Instr.fill place cells ((i, .agg A) :: rest) = Instr.fill place (splice_at cells off A) rest := by
  rw [Instr.fill]
  simp only [h]
  split
  · rename_i hc
    exfalso
    simp [Value.cells] at hc
    omega
  · congr 1
    exact foldset off A cells hf
theorem fill_two {places : Nat → Option (Nat × Nat)} {Z R XA : Array Value} (h0 : places 0 = some (0, R.size)) (h1 : places 1 = some (R.size, XA.size)) (hZ : Z.size = R.size + XA.size) : Instr.fill places Z [(0, .agg R), (1, .agg XA)] = some (R ++ XA) := by
  have hs : (splice_at Z 0 R).size = Z.size := splice_size Z R 0 (by omega)
  rw [fill_step h0 (by omega), fill_step h1 (by omega), Instr.fill]
  congr 1
  have hz : Z.toList.length = R.size + XA.size := by simpa using hZ
  have hr : R.toList.length = R.size := by simp
  unfold splice_at
  simp only [List.take_zero, List.nil_append, Nat.zero_add]
  apply Array.toList_inj.1
  simp only [Array.toList_append]
  rw [List.take_append_of_le_length (by omega), List.take_of_length_le (by omega), List.drop_eq_nil_of_le (by simp only [List.length_append, List.length_drop]; omega), List.append_nil]
theorem fill_one {Z PA : Array Value} {n : Nat} (hP : PA.size = n) (hZ : Z.size = n) : Instr.fill (fun i => some (i * n, n)) Z [(0, .agg PA)] = some PA := by
  rw [fill_step (off := 0) (by simp [hP]) (by omega), Instr.fill, splice_all Z PA (by omega)]
/-- One element's cells, as a slice. -/
theorem run_bs {P : Program} {t e : TypeId} {n : Nat} {PA : Array Value} {ie : TypeInfo} {z : Value} (hu : P.underlying t = some (.slice e)) (hie : P.info? e = some ie) (hz : ie.zero = some z) (hn : ie.size = n) (hP : PA.size = n) (h0 : 0 < n) (h1 : n ≤ 1000) (w : World) :
    (Instr.buildSlice t 1 #[(0, .agg PA)]).run P w = .ok (.slice (some ⟨w.heap.size, 0, none⟩) 1 1) (w.alloc (.cells PA e)) :=
  run_buildSlice w t e 1 _ PA ie z hu hie hz (by omega) (by omega) (fill_one (by omega) (by simp))
section
variable {F : Fence} {m : Nat} {P : Program} {w : World} {ops : Array Oper} {rest : List Oper} {o : Oper} {a : Act} {Q : Exit → Act → World → Prop}
theorem wpi_build {t : TypeId} {vx vy v : Value} (hr : ∀ W, (Instr.build t #[(0, vx), (1, vy)]).run P W = .ok v W) (hg : Region.wanted o (yielded ops a.tmps) = true) (x y : Operand) (ho : o.op = .build t #[(0, x), (1, y)]) (hx : a.eval x = vx) (hy : a.eval y = vy) (h : wpListIn F m P ops Q rest (a.put o.dst v) w) : wpListIn F m P ops Q (o :: rest) a w :=
  wpListIn_step fun K hK => by
    rw [if_pos hg]
    refine wpIn_of_value (by simp [ho]) (by simp [ho]) (v := v) (w' := w) ?_ (hK _ _ h)
    unfold execOp
    simp only [ho, List.map_toArray, List.map_cons, List.map_nil, hx, hy, Sem.run_bind, hr, Result.andThen_ok, Sem.run_pure]
theorem wpi_bs {t e : TypeId} {n : Nat} {PA : Array Value} {ie : TypeInfo} {z : Value} (hu : P.underlying t = some (.slice e)) (hie : P.info? e = some ie) (hz : ie.zero = some z) (hn : ie.size = n) (hP : PA.size = n) (h0 : 0 < n) (h1 : n ≤ 1000) (hg : Region.wanted o (yielded ops a.tmps) = true) (x : Operand) (ho : o.op = .buildSlice t 1 #[(0, x)]) (hx : a.eval x = .agg PA)
    (h : wpListIn F m P ops Q rest (a.put o.dst (.slice (some ⟨w.heap.size, 0, none⟩) 1 1)) (w.alloc (.cells PA e))) : wpListIn F m P ops Q (o :: rest) a w :=
  wpListIn_step fun K hK => by
    rw [if_pos hg]
    refine wpIn_of_value (by simp [ho]) (by simp [ho]) (v := .slice (some ⟨w.heap.size, 0, none⟩) 1 1) (w' := w.alloc (.cells PA e)) ?_ (hK _ _ h)
    unfold execOp
    simp only [ho, List.map_toArray, List.map_cons, List.map_nil, hx, Sem.run_bind, run_bs hu hie hz hn hP h0 h1, Result.andThen_ok, Sem.run_pure]
theorem wpl_build {t : TypeId} {vx vy v : Value} (hr : ∀ W, (Instr.build t #[(0, vx), (1, vy)]).run P W = .ok v W) (hg : Region.wanted o (yielded ops a.tmps) = true) (x y : Operand) (ho : o.op = .build t #[(0, x), (1, y)]) (hx : a.eval x = vx) (hy : a.eval y = vy) (h : wpList P ops Q rest (a.put o.dst v) w) : wpList P ops Q (o :: rest) a w :=
  wpList_step fun K hK => by
    rw [if_pos hg]
    unfold Oper.wp execOp
    simp only [ho, List.map_toArray, List.map_cons, List.map_nil, hx, hy, Sem.run_bind, hr, Result.andThen_ok, Sem.run_pure]
    exact hK _ _ h
end

/-! ### The same arms, to be met by with_reducible refine -/
section
variable {F : Fence} {m : Nat} {P : Program} {w : World} {b n off : Nat} {t e : TypeId} {A cur : Array Value} {ops : Array Oper} {rest : List Oper} {o : Oper} {a : Act} {Q : Exit → Act → World → Prop}
theorem wpi_loadE (T : AggOf P t n) (hB : Blk w b e A) (hn : A.size = n) (hg : Region.wanted o (yielded ops a.tmps) = true) (ho : ∃ x, o.op = .load t x ∧ a.eval x = .pointer (some ⟨b, 0, none⟩)) (h : wpListIn F m P ops Q rest (a.put o.dst (.agg A)) w) : wpListIn F m P ops Q (o :: rest) a w := by
  obtain ⟨x, h1, h2⟩ := ho; exact wpi_load T hB hn hg x h1 h2 h
theorem wpi_load_atE (T : AggOf P t n) (hn : A.size = n) (hc : ∀ j v, A[j]? = some v → w.cell? ⟨b, off + j, none⟩ = some v) (hg : Region.wanted o (yielded ops a.tmps) = true) (ho : ∃ x, o.op = .load t x ∧ a.eval x = .pointer (some ⟨b, off, none⟩)) (h : wpListIn F m P ops Q rest (a.put o.dst (.agg A)) w) : wpListIn F m P ops Q (o :: rest) a w := by
  obtain ⟨x, h1, h2⟩ := ho; exact wpi_load_at T hn hc hg x h1 h2 h
theorem wpi_storeE (T : AggOf P t n) (hB : Blk w b e cur) (hc : cur.size = n) (hn : A.size = n) (h1 : A.all (·.oneCell') = true) (hg : Region.wanted o (yielded ops a.tmps) = true) (ho : ∃ x y, o.op = .store t x y ∧ a.eval x = .pointer (some ⟨b, 0, none⟩) ∧ a.eval y = .agg A) (h : ∀ w', Stored w w' b e A → wpListIn F m P ops Q rest (a.put o.dst undef) w') : wpListIn F m P ops Q (o :: rest) a w := by
  obtain ⟨x, y, h2, h3, h4⟩ := ho; exact wpi_store T hB hc hn h1 hg x y h2 h3 h4 h
theorem wpi_buildE {vx vy v : Value} (hr : ∀ W, (Instr.build t #[(0, vx), (1, vy)]).run P W = .ok v W) (hg : Region.wanted o (yielded ops a.tmps) = true) (ho : ∃ x y, o.op = .build t #[(0, x), (1, y)] ∧ a.eval x = vx ∧ a.eval y = vy) (h : wpListIn F m P ops Q rest (a.put o.dst v) w) : wpListIn F m P ops Q (o :: rest) a w := by
  obtain ⟨x, y, h2, h3, h4⟩ := ho; exact wpi_build hr hg x y h2 h3 h4 h
theorem wpi_bsE {PA : Array Value} {ie : TypeInfo} {z : Value} (hu : P.underlying t = some (.slice e)) (hie : P.info? e = some ie) (hz : ie.zero = some z) (hn : ie.size = n) (hP : PA.size = n) (h0 : 0 < n) (h1 : n ≤ 1000) (hg : Region.wanted o (yielded ops a.tmps) = true) (ho : ∃ x, o.op = .buildSlice t 1 #[(0, x)] ∧ a.eval x = .agg PA)
    (h : wpListIn F m P ops Q rest (a.put o.dst (.slice (some ⟨w.heap.size, 0, none⟩) 1 1)) (w.alloc (.cells PA e))) : wpListIn F m P ops Q (o :: rest) a w := by
  obtain ⟨x, h2, h3⟩ := ho; exact wpi_bs hu hie hz hn hP h0 h1 hg x h2 h3 h
theorem wpl_loadE (T : AggOf P t n) (hB : Blk w b e A) (hn : A.size = n) (hg : Region.wanted o (yielded ops a.tmps) = true) (ho : ∃ x, o.op = .load t x ∧ a.eval x = .pointer (some ⟨b, 0, none⟩)) (h : wpList P ops Q rest (a.put o.dst (.agg A)) w) : wpList P ops Q (o :: rest) a w := by
  obtain ⟨x, h1, h2⟩ := ho; exact wpl_load T hB hn hg x h1 h2 h
theorem wpl_load_atE (T : AggOf P t n) (hn : A.size = n) (hc : ∀ j v, A[j]? = some v → w.cell? ⟨b, off + j, none⟩ = some v) (hg : Region.wanted o (yielded ops a.tmps) = true) (ho : ∃ x, o.op = .load t x ∧ a.eval x = .pointer (some ⟨b, off, none⟩)) (h : wpList P ops Q rest (a.put o.dst (.agg A)) w) : wpList P ops Q (o :: rest) a w := by
  obtain ⟨x, h1, h2⟩ := ho; exact sk_list_load T hn hc hg x h1 h2 h
theorem wpl_storeE (T : AggOf P t n) (hB : Blk w b e cur) (hc : cur.size = n) (hn : A.size = n) (h1 : A.all (·.oneCell') = true) (hg : Region.wanted o (yielded ops a.tmps) = true) (ho : ∃ x y, o.op = .store t x y ∧ a.eval x = .pointer (some ⟨b, 0, none⟩) ∧ a.eval y = .agg A) (h : ∀ w', Stored w w' b e A → wpList P ops Q rest (a.put o.dst undef) w') : wpList P ops Q (o :: rest) a w := by
  obtain ⟨x, y, h2, h3, h4⟩ := ho; exact wpl_store T hB hc hn h1 hg x y h2 h3 h4 h
theorem wpl_store_atE (T : AggOf P t n) (hB : Blk w b e cur) (hn : A.size = n) (hf : off + A.size ≤ cur.size) (h1 : A.all (·.oneCell') = true) (hg : Region.wanted o (yielded ops a.tmps) = true) (ho : ∃ x y, o.op = .store t x y ∧ a.eval x = .pointer (some ⟨b, off, none⟩) ∧ a.eval y = .agg A) (h : ∀ w', Stored w w' b e (splice_at cur off A) → wpList P ops Q rest (a.put o.dst undef) w') : wpList P ops Q (o :: rest) a w := by
  obtain ⟨x, y, h2, h3, h4⟩ := ho; exact sk_list_store T hB hn hf h1 hg x y h2 h3 h4 h
theorem wpl_buildE {vx vy v : Value} (hr : ∀ W, (Instr.build t #[(0, vx), (1, vy)]).run P W = .ok v W) (hg : Region.wanted o (yielded ops a.tmps) = true) (ho : ∃ x y, o.op = .build t #[(0, x), (1, y)] ∧ a.eval x = vx ∧ a.eval y = vy) (h : wpList P ops Q rest (a.put o.dst v) w) : wpList P ops Q (o :: rest) a w := by
  obtain ⟨x, y, h2, h3, h4⟩ := ho; exact wpl_build hr hg x y h2 h3 h4 h
end
end Go.Proofs
end
