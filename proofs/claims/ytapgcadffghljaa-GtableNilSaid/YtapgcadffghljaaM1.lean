import Derived.Laws.CopyRow
import Derived.Laws.Tables
import Derived.Laws.StructEq
import Derived.Laws.World
import Derived.OrdersHeld
import Derived.WalkKit
section
namespace Go.Proofs
open Go.RowKit
set_option linter.unusedVariables false

/-! ### A struct of many cells, loaded and stored whole at any place of a block: no unrolling. No seat's names -/
/-- A type of aggregates of so many cells: what a walk's load and store ask of it. -/
structure AggOf (P : Program) (t : TypeId) (n : Nat) : Prop where
  agg : ∀ w, (isAgg t).run P w = .ok true w
  size : ∀ w, (sizeOf t).run P w = .ok n w
section
variable {P : Program} {w : World} {b off n : Nat} {t : TypeId} {A : Array Value}
theorem sk_load (T : AggOf P t n) (hn : A.size = n) (hc : ∀ j v, A[j]? = some v → w.cell? ⟨b, off + j, none⟩ = some v) : (loadVar t ⟨b, off, none⟩).run P w = .ok (.agg A) w := by
  have hl := run_loadCells_list (P := P) w ⟨b, off, none⟩ A.toList (fun j v hv => by
    have hadd : (⟨b, off, none⟩ : Addr).add j = ⟨b, off + j, none⟩ := by unfold Addr.add; split <;> simp_all
    rw [hadd]
    exact hc j v (by simpa using hv))
  rw [Array.length_toList, hn] at hl
  unfold loadVar
  rw [Sem.run_bind, T.agg]
  simp only [Result.andThen_ok, if_true]
  rw [Sem.run_bind, T.size]
  simp only [Result.andThen_ok, Sem.run_bind, hl, Sem.run_pure]
theorem sk_run_load (T : AggOf P t n) (hn : A.size = n) (hc : ∀ j v, A[j]? = some v → w.cell? ⟨b, off + j, none⟩ = some v) {o : Oper} {a : Act} (x : Operand) (ho : o.op = .load t x) (hx : a.eval x = .pointer (some ⟨b, off, none⟩)) :
    (execOp a.eval o).run P w = .ok (.value (.agg A)) w := by
  unfold execOp
  simp only [ho, hx, Instr.loadAt, Instr.sureAddr, Sem.run_bind, Sem.run_pure, Result.andThen_ok, sk_load T hn hc]
theorem sk_wp_load (T : AggOf P t n) (hn : A.size = n) (hc : ∀ j v, A[j]? = some v → w.cell? ⟨b, off + j, none⟩ = some v) {o : Oper} {a : Act} {K : Act → World → Prop} {Q : Exit → Act → World → Prop} (x : Operand) (ho : o.op = .load t x)
    (hx : a.eval x = .pointer (some ⟨b, off, none⟩)) (h : K (a.put o.dst (.agg A)) w) : o.wp P a w K Q := by
  unfold Oper.wp
  rw [sk_run_load T hn hc x ho hx]
  exact h
/-- As a walk's arm (`hg` by rfl, also where a guard holds). -/
theorem sk_list_load (T : AggOf P t n) (hn : A.size = n) (hc : ∀ j v, A[j]? = some v → w.cell? ⟨b, off + j, none⟩ = some v) {ops : Array Oper} {rest : List Oper} {o : Oper} {a : Act} {Q : Exit → Act → World → Prop} (hg : Region.wanted o (yielded ops a.tmps) = true) (x : Operand) (ho : o.op = .load t x)
    (hx : a.eval x = .pointer (some ⟨b, off, none⟩)) (h : wpList P ops Q rest (a.put o.dst (.agg A)) w) : wpList P ops Q (o :: rest) a w :=
  wpList_step fun K hK => by rw [if_pos hg]; exact sk_wp_load T hn hc x ho hx (hK _ _ h)

/-- One block is another one; all else is as it was. -/
structure Stored (w w' : World) (b : Nat) (e : TypeId) (new : Array Value) : Prop where
  at_ : w'.heap[b]? = some (.cells new e (0, 0))
  other : ∀ k, k ≠ b → w'.heap[k]? = w.heap[k]?
  size : w'.heap.size = w.heap.size
  os : w'.os = w.os
  tape : w'.tape = w.tape
  output : w'.output = w.output
/-- The cells of a block, with these at a place. -/
def splice_at (cur : Array Value) (off : Nat) (A : Array Value) : Array Value := (cur.toList.take off ++ A.toList ++ cur.toList.drop (off + A.size)).toArray
theorem splice_size (cur A : Array Value) (off : Nat) (h : off + A.size ≤ cur.size) : (splice_at cur off A).size = cur.size := by
  unfold splice_at
  simp only [List.size_toArray, List.length_append, List.length_take, List.length_drop, Array.length_toList]
  omega
theorem splice_in (cur A : Array Value) (off j : Nat) (h : off + A.size ≤ cur.size) (hj : j < A.size) : (splice_at cur off A)[off + j]? = A[j]? := by
  unfold splice_at
  have h1 : (cur.toList.take off).length = off := by rw [List.length_take, Array.length_toList]; omega
  rw [List.getElem?_toArray, List.append_assoc, List.getElem?_append_right (by rw [h1]; omega), h1, List.getElem?_append_left (by rw [Array.length_toList]; omega)]
  simp
theorem splice_out (cur A : Array Value) (off i : Nat) (h : off + A.size ≤ cur.size) (hi : i < off ∨ off + A.size ≤ i) : (splice_at cur off A)[i]? = cur[i]? := by
  unfold splice_at
  have h1 : (cur.toList.take off).length = off := by rw [List.length_take, Array.length_toList]; omega
  rw [List.getElem?_toArray, List.append_assoc]
  rcases hi with hi | hi
  · rw [List.getElem?_append_left (by rw [h1]; exact hi), List.getElem?_take, if_pos hi]; simp
  · rw [List.getElem?_append_right (by rw [h1]; omega), h1, List.getElem?_append_right (by rw [Array.length_toList]; omega), List.getElem?_drop, Array.length_toList]
    rw [show off + A.size + (i - off - A.size) = i by omega]; simp
theorem sk_store (T : AggOf P t n) {e : TypeId} {cur : Array Value} (hB : w.heap[b]? = some (.cells cur e (0, 0))) (hn : A.size = n) (hf : off + A.size ≤ cur.size) (h1 : A.all (·.oneCell') = true) :
    ∃ w', (storeVar t ⟨b, off, none⟩ (.agg A)).run P w = .ok () w' ∧ Stored w w' b e (splice_at cur off A) := by
  have hst := run_storeCells_at P b off e A.toList 0 cur w hB (by simpa using hf) (fun v hv => (Array.all_eq_true_iff_forall_mem.1 h1) v (by simpa using hv))
  refine ⟨w.setRow b (splice_at cur off A), ?_, ⟨setRow_heap w b cur _ e (0, 0) hB, fun k hk => setRow_other w b k _ hk, by simp, rfl, rfl, rfl⟩⟩
  unfold storeVar
  rw [Sem.run_bind, T.size]
  simp only [Result.andThen_ok, Value.cells, hn, ne_eq, not_true_eq_false, if_false]
  simpa [splice_at, hn] using hst
theorem sk_wp_store (T : AggOf P t n) {e : TypeId} {cur : Array Value} (hB : w.heap[b]? = some (.cells cur e (0, 0))) (hn : A.size = n) (hf : off + A.size ≤ cur.size) (h1 : A.all (·.oneCell') = true) {o : Oper} {a : Act} {K : Act → World → Prop} {Q : Exit → Act → World → Prop} (x y : Operand) (ho : o.op = .store t x y)
    (hx : a.eval x = .pointer (some ⟨b, off, none⟩)) (hy : a.eval y = .agg A) (h : ∀ w', Stored w w' b e (splice_at cur off A) → K (a.put o.dst undef) w') : o.wp P a w K Q := by
  obtain ⟨w', hrun, hS⟩ := sk_store (P := P) T hB hn hf h1
  unfold Oper.wp execOp
  simp only [ho, hx, hy, Instr.storeAt, Instr.sureAddr, Sem.run_bind, Sem.run_pure, Result.andThen_ok, hrun]
  exact h w' hS
theorem sk_list_store (T : AggOf P t n) {e : TypeId} {cur : Array Value} (hB : w.heap[b]? = some (.cells cur e (0, 0))) (hn : A.size = n) (hf : off + A.size ≤ cur.size) (h1 : A.all (·.oneCell') = true) {ops : Array Oper} {rest : List Oper} {o : Oper} {a : Act} {Q : Exit → Act → World → Prop} (hg : Region.wanted o (yielded ops a.tmps) = true) (x y : Operand) (ho : o.op = .store t x y)
    (hx : a.eval x = .pointer (some ⟨b, off, none⟩)) (hy : a.eval y = .agg A) (h : ∀ w', Stored w w' b e (splice_at cur off A) → wpList P ops Q rest (a.put o.dst undef) w') : wpList P ops Q (o :: rest) a w :=
  wpList_step fun K hK => by rw [if_pos hg]; exact sk_wp_store T hB hn hf h1 x y ho hx hy fun w' hS => hK _ _ (h w' hS)
/-- As a step of a region that draws its order. -/
theorem sk_step_store (T : AggOf P t n) {e : TypeId} {cur : Array Value} (hB : w.heap[b]? = some (.cells cur e (0, 0))) (hn : A.size = n) (hf : off + A.size ≤ cur.size) (h1 : A.all (·.oneCell') = true) {ops : Array Oper} {o : Oper} {a : Act} {K : Act → World → Prop} {Q : Exit → Act → World → Prop} {R : Prop} (hg : Region.wanted o (yielded ops a.tmps) = true) (x y : Operand) (ho : o.op = .store t x y)
    (hx : a.eval x = .pointer (some ⟨b, off, none⟩)) (hy : a.eval y = .agg A) (h : ∀ w', Stored w w' b e (splice_at cur off A) → K (a.put o.dst undef) w') : if Region.wanted o (yielded ops a.tmps) = true then Oper.wp P o a w K Q else R := by
  rw [if_pos hg]
  exact sk_wp_store T hB hn hf h1 x y ho hx hy h
end

/-! ### Equality of two arrays of numbers -/
theorem sk_eq_array {P : Program} {t e : TypeId} {n : Nat} {k k' : IntKind} (d : Nat) (hu : P.underlying t = some (.array n e)) (he : P.underlying e = some (.int k')) (ha : ∀ w, (isAgg e).run P w = .ok false w) (hs : ∀ w, (sizeOf e).run P w = .ok 1 w)
    (xs ys : Array Value) (fx fy : Nat → Int) (hx : ∀ i, i < n → xs[i]? = some (.int k (fx i))) (hy : ∀ i, i < n → ys[i]? = some (.int k (fy i))) (w : World) :
    (Op.equalIn (d + 1 + 1) t (.agg xs) (.agg ys)).run P w = .ok ((List.range' 0 n).all fun i => fx i == fy i) w := by
  have part1 : ∀ (zs : Array Value) (i : Nat) (x : Int), zs[i]? = some (.int k x) → (part e zs i).run P w = .ok (.int k x) w := fun zs i x h => by
    unfold part
    rw [Sem.run_bind, ha]
    simp [h]
  have heq : ∀ x y, (Op.equalIn (d + 1) e (.int k x) (.int k y)).run P w = .ok (x == y) w := fun x y => run_equalIn_int w d e k k' x y he
  rw [Op.equalIn]
  simp only [Sem.run_bind, run_underlying hu, Result.andThen_ok, hs, Nat.mul_one, Std.Legacy.Range.forIn_eq_forIn_range']
  have key : ∀ (L : List Nat), (∀ i ∈ L, i < n) → (forIn (m := Sem) L ((none : Option Bool), ()) fun i __s => do
              let a ← part e xs i
              let b ← part e ys i
              let c ← Op.equalIn (d + 1) e a b
              if (!c) = true then pure (ForInStep.done (some false, ())) else pure (ForInStep.yield (none, ()))).run P w = .ok (if L.all (fun i => fx i == fy i) then none else some false, ()) w := by
    intro L
    induction L with
    | nil => intro _; rfl
    | cons i L ih =>
      intro hL
      have hi := hL i (by simp)
      simp only [List.forIn_cons, Sem.run_bind, part1 xs i _ (hx i hi), part1 ys i _ (hy i hi), heq, Result.andThen_ok]
      cases hq : fx i == fy i
      · simp [hq]
      · simp only [Bool.not_true, Bool.false_eq_true, if_false, Sem.run_pure, Result.andThen_ok, List.all_cons, hq, Bool.true_and]
        exact ih (fun j hj => hL j (by simp [hj]))
  rw [key _ (by intro i hi; simp [List.mem_range'] at hi; omega)]
  simp only [Result.andThen_ok, Std.Legacy.Range.size]
  simp
  split <;> simp_all
end Go.Proofs
end
