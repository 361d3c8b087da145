/-
  Proved: a step changes nothing but PC, the registers and Code, and at most one register; what is bad changes PC and Code alone; what is over changes nothing. No conditions.
-/
import Derived.Test.YtojpllmghfafjaaM13
import Derived.Test.YtojpllmghfafjaaM12
import Derived.Laws.CopyRow
import Derived.Test.YtojpllmghfafjaaRows
import Derived.WalkKit
import Derived.Below
import Derived.ChangeSame
import Derived.ProofKit
import Derived.OpenShut
section
namespace Go.Proofs
open Go.ChangeShapes Go.WideShapes Go.ChangeAt Go.RowKit Go.Deep
set_option linter.unusedVariables false
theorem okWide_array {P : Program} {w : World} {r : Reach} {base : Nat} {t e : TypeId} {n : Nat} {v : Value} (ht : P.underlying t = some (.array n e)) (h : Value.okWide P w r base t v) : ∃ cs, v = .agg cs := by
  simp only [Value.okWide, ht] at h
  obtain ⟨cs, h1, _⟩ := h
  exact ⟨cs, h1⟩
theorem open_r {H : Type} {enc : TypeId × Value → H} {w : World} {base : Nat} {held : Bool} {v : Value} {d : DataW H} {ps : List MemPlace} {r : Reach} {b0 : Nat} (hv : Value.okWide Try.prog w r b0 27 v) (h : DataW.Trod enc Try.prog w base (fun _ => true) held 27 v d ps) :
    ∃ r : Nat → Int, (∀ i, 0 ≤ r i) ∧ (∀ i, r i < 18446744073709551616) ∧ v = .agg #[.int .u64 (r 0), .int .u64 (r 1), .int .u64 (r 2), .int .u64 (r 3), .int .u64 (r 4), .int .u64 (r 5), .int .u64 (r 6), .int .u64 (r 7)] := by
  obtain ⟨cs, rfl⟩ := okWide_array Try.underlying27 hv
  obtain ⟨fuel, hf⟩ := h
  obtain ⟨r, r0, r1, e⟩ := open_regs hf
  refine ⟨r, r0, r1, ?_⟩
  obtain ⟨cs⟩ := cs
  simp only [Value.cells] at e
  rw [e]
end Go.Proofs
end
section
namespace Go.Proofs
open Go.RowKit
set_option linter.unusedVariables false
set_option linter.unusedSimpArgs false

/-! ### What a step leaves -/
theorem put_same (g : Gr) : g.put 0 (g.r 0) = g := by
  obtain ⟨st, su, d0, d1, c0, c1, af, pg, pc, r, cd, un⟩ := g
  simp only [Gr.put]
  congr
  funext i
  split
  · rename_i h; rw [h]
  · rfl
/-- Behind what was done: one register at most is another one, and PC. -/
def Kept (n : Nat) (g0 g : Gr) : Prop := ∃ (j : Nat) (v : Int), 0 ≤ v ∧ v < 18446744073709551616 ∧ g = { g0.put j v with pc := g.pc } ∧ (g.pc = g0.pc + 1 ∨ (0 ≤ g.pc ∧ g.pc ≤ n))
theorem kept_next {n : Nat} {g0 : Gr} (h : g0.ok) (g : Gr) (hg : g = { g0 with pc := g.pc }) (hp : g.pc = g0.pc + 1 ∨ (0 ≤ g.pc ∧ g.pc ≤ n)) : Kept n g0 g :=
  ⟨0, g0.r 0, h.r0 0, h.r1 0, by rw [put_same]; exact hg, hp⟩
theorem doneP_kept {n : Nat} {x : Ins} {g0 : Gr} (h0 : g0.ok) : (∃ k, doneP n x g0 = .inl k ∧ (k = 6 ∨ k = 7)) ∨ ∃ g c k, doneP n x g0 = .inr (g, c, k) ∧ Kept n g0 g ∧ (k = 1 ∨ k = 2) := by
  have hnum := x.num_lt
  obtain ⟨D, hD⟩ : ∃ D, D = doneP n x g0 := ⟨_, rfl⟩
  rw [← hD]
  unfold doneP at hD
  simp only at hD
  have hput : ∀ (j : Nat) (v : Int), 0 ≤ v → v < 18446744073709551616 → Kept n g0 (g0.next.put j v) := fun j v a b => ⟨j, v, a, b, rfl, .inl rfl⟩
  have hn : Kept n g0 g0.next := kept_next h0 _ rfl (.inl rfl)
  have b0 := fun i => h0.r0 i
  have b1 := fun i => h0.r1 i
  repeat' split at hD
  all_goals subst hD
  all_goals first
    | exact .inl ⟨_, rfl, .inl rfl⟩
    | exact .inl ⟨_, rfl, .inr rfl⟩
    | exact .inr ⟨_, _, _, rfl, hn, .inl rfl⟩
    | exact .inr ⟨_, _, _, rfl, hn, .inr rfl⟩
    | (rename_i hp; exact .inr ⟨_, _, _, rfl, kept_next h0 _ rfl (.inr hp), .inl rfl⟩)
    | skip
  · exact .inr ⟨_, _, _, rfl, hput _ _ (by omega) (by omega), .inl rfl⟩
  · rename_i hF
    have hF' : g0.next.r x.b.toNat + g0.next.r x.c.toNat < 18446744073709551616 := of_decide_eq_true hF
    refine .inr ⟨_, _, _, rfl, hput _ _ ?_ ?_, .inl rfl⟩
    · unfold addN; rw [if_pos hF']; have := b0 x.b.toNat; have := b0 x.c.toNat; show 0 ≤ g0.r _ + g0.r _; omega
    · unfold addN; rw [if_pos hF']; exact hF'
  · rename_i hF
    have hF' : g0.next.r x.c.toNat ≤ g0.next.r x.b.toNat := of_decide_eq_true hF
    refine .inr ⟨_, _, _, rfl, hput _ _ ?_ ?_, .inl rfl⟩
    · unfold subN; rw [if_neg (by omega)]; omega
    · unfold subN; rw [if_neg (by omega)]; have h1 : g0.next.r x.b.toNat < _ := b1 x.b.toNat; have h2 : 0 ≤ g0.next.r x.c.toNat := b0 x.c.toNat; omega
  · rename_i hF
    have hF' : g0.next.r x.b.toNat * g0.next.r x.c.toNat < 18446744073709551616 := of_decide_eq_true hF
    refine .inr ⟨_, _, _, rfl, hput _ _ ?_ ?_, .inl rfl⟩
    · unfold mulN; rw [if_pos hF']; exact Int.mul_nonneg (b0 x.b.toNat) (b0 x.c.toNat)
    · unfold mulN; rw [if_pos hF']; exact hF'
  · rename_i hF
    exact .inr ⟨_, _, _, rfl, hput _ _ hF (by have := h0.c1; show g0.cd < _; omega), .inl rfl⟩
/-- A step: over; bad; or done. -/
theorem stepP_kept (l : List UInt8) (g : Gr) (h0 : g.ok) :
    ((stepP l g).2.2 = 3 ∧ (stepP l g).1 = g ∧ ((l.length / 4 : Nat) : Int) ≤ g.pc) ∨
    ((stepP l g).2.2 = 4 ∧ g.pc ≤ ((l.length / 4 : Nat) : Int) ∧ ∃ e, (e = 6 ∨ e = 7) ∧ (stepP l g).1 = g.bad e) ∨
    (((stepP l g).2.2 = 1 ∨ (stepP l g).2.2 = 2) ∧ g.pc ≤ ((l.length / 4 : Nat) : Int) ∧ Kept (l.length / 4) g (stepP l g).1) := by
  have hdec : (decodeP l g.pc).2 = 4 → ((l.length / 4 : Nat) : Int) ≤ g.pc := fun h => by
    unfold decodeP at h
    split at h
    · rename_i h1; omega
    · split at h
      · simp at h
      · split at h <;> simp at h
  have hdec7 : (decodeP l g.pc).2 ≠ 4 → (decodeP l g.pc).2 ≠ 0 → (decodeP l g.pc).2 = 7 := fun h4 h0 => by
    unfold decodeP at h4 h0 ⊢
    split
    · rename_i h1; rw [if_pos h1] at h4; simp at h4
    · rename_i h1
      rw [if_neg h1] at h4 h0
      split
      · rfl
      · rename_i h2
        rw [if_neg h2] at h4 h0
        split
        · rename_i h3; rw [if_pos h3] at h0; simp at h0
        · rfl
  unfold stepP
  by_cases h1 : (decodeP l g.pc).2 = 4 ∨ ((l.length / 4 : Nat) : Int) < g.pc
  · rw [if_pos h1]
    exact .inl ⟨rfl, rfl, h1.elim hdec (fun h => Int.le_of_lt h)⟩
  · rw [if_neg h1]
    have h2 : (decodeP l g.pc).2 ≠ 4 := fun e => h1 (.inl e)
    have h3 : g.pc ≤ ((l.length / 4 : Nat) : Int) := by
      rcases Int.lt_or_le ((l.length / 4 : Nat) : Int) g.pc with h | h
      · exact absurd (.inr h) h1
      · exact h
    by_cases h4 : (decodeP l g.pc).2 ≠ 0
    · rw [if_pos h4]
      exact .inr (.inl ⟨rfl, h3, 7, .inr rfl, by rw [hdec7 h2 h4]⟩)
    · rw [if_neg h4]
      rcases doneP_kept (n := l.length / 4) (x := (decodeP l g.pc).1) h0 with ⟨k, e, hk⟩ | ⟨g', c, k, e, hk, hk2⟩
      · rw [e]; exact .inr (.inl ⟨rfl, h3, k, hk, rfl⟩)
      · rw [e]; exact .inr (.inr ⟨hk2, h3, hk⟩)
end Go.Proofs
end
section
namespace Go.Proofs
open Go.RowKit
set_option linter.unusedVariables false
set_option linter.unusedSimpArgs false

theorem two_chgK {w0 w1 w3 w4 : World} (h : Below w0.heap.size w0 w1) (hC3 : Chg [w1.heap.size] (two w1) w3) (hC4 : Chg [w1.heap.size + 1] w3 w4) : Below w0.heap.size w0 w4 := by
  have hb := h.trans ((two_b w1).mono h.size)
  have := h.size
  exact (hb.trans (hC3.below (by simpa using h.size) hb.size)).trans (hC4.below (by simp; omega) (Nat.le_trans hb.size hC3.size))
abbrev rK (r : Nat → Int) : Array Value := #[.int .u64 (r 0), .int .u64 (r 1), .int .u64 (r 2), .int .u64 (r 3), .int .u64 (r 4), .int .u64 (r 5), .int .u64 (r 6), .int .u64 (r 7)]
theorem info27k : (Try.prog.info? 27).map (·.size) = some 8 := by kernel_rfl
/-- The registers, out of a goroutine's block. -/
theorem wpList_load_regs {w : World} {b : Nat} {A : Array Value} (hB : Blk w b 30 A) (r : Nat → Int) (hA : ∀ k, k < 8 → A[9 + k]? = some (.int .u64 (r k))) {ops : Array Oper} {rest : List Oper} {o : Oper} {a : Act} {Q : Exit → Act → World → Prop} (hg : o.guard = none) (x : Operand) (ho : o.op = .load 27 x)
    (hx : a.eval x = .pointer (some ⟨b, 9, none⟩)) (h : wpList Try.prog ops Q rest (a.put o.dst (.agg (rK r))) w) : wpList Try.prog ops Q (o :: rest) a w := by
  have hl : (loadCells ⟨b, 9, none⟩ 8).run Try.prog w = .ok (rK r) w := by
    have := run_loadCells_list (P := Try.prog) w ⟨b, 9, none⟩ (rK r).toList (fun j v hv => by
      have hadd : (⟨b, 9, none⟩ : Addr).add j = ⟨b, 9 + j, none⟩ := by unfold Addr.add; split <;> simp_all
      have hj : j < 8 := by have := (List.getElem?_eq_some_iff.1 hv).1; simpa using this
      rw [hadd, hB.cell, hA j hj, ← hv]
      have : j = 0 ∨ j = 1 ∨ j = 2 ∨ j = 3 ∨ j = 4 ∨ j = 5 ∨ j = 6 ∨ j = 7 := by omega
      rcases this with rfl | rfl | rfl | rfl | rfl | rfl | rfl | rfl <;> rfl)
    exact this
  have hrun : (loadVar 27 ⟨b, 9, none⟩).run Try.prog w = .ok (.agg (rK r)) w := by
    unfold loadVar
    rw [Sem.run_bind, Try.isAgg27]
    simp only [Result.andThen_ok, if_true]
    rw [Sem.run_bind, Try.sizeOf27]
    simp only [Result.andThen_ok, Sem.run_bind, hl, Sem.run_pure]
  refine wpList_plain hg fun K hK => ?_
  unfold Oper.wp execOp
  simp only [ho, hx, Instr.loadAt, Instr.sureAddr, Sem.run_bind, Sem.run_pure, Result.andThen_ok, hrun]
  exact hK _ _ h
/-- An array with other registers. -/
def spl (A : Array Value) (r : Nat → Int) : Array Value := (A.toList.take 9 ++ (rK r).toList ++ A.toList.drop 17).toArray
theorem spl_17 (A : Array Value) (r : Nat → Int) (h : A.size = 19) : (spl A r)[17]? = A[17]? := by
  unfold spl
  rw [List.getElem?_toArray, List.getElem?_append_right (by simp [h]), List.getElem?_drop]
  simp [h]
theorem wpList_store_regs {w : World} {b : Nat} {A : Array Value} (hB : Blk w b 30 A) (hs : A.size = 19) (r : Nat → Int) {ops : Array Oper} {rest : List Oper} {o : Oper} {a : Act} {Q : Exit → Act → World → Prop} (hg : o.guard = none) (x y : Operand) (ho : o.op = .store 27 x y)
    (hx : a.eval x = .pointer (some ⟨b, 9, none⟩)) (hy : a.eval y = .agg (rK r)) (h : ∀ w', Blk w' b 30 (spl A r) → Chg [b] w w' → wpList Try.prog ops Q rest (a.put o.dst undef) w') : wpList Try.prog ops Q (o :: rest) a w := by
  have hst := run_storeCells_at Try.prog b 9 30 (rK r).toList 0 A w hB (by simp [hs]) (by simp [Value.oneCell'])
  have hrun : (storeVar 27 ⟨b, 9, none⟩ (.agg (rK r))).run Try.prog w = .ok () (w.setRow b (spl A r)) := by
    unfold storeVar
    rw [Sem.run_bind, Try.sizeOf27]
    simp only [Result.andThen_ok, Value.cells]
    exact hst
  refine wpList_plain hg fun K hK => ?_
  unfold Oper.wp execOp
  simp only [ho, hx, hy, Instr.storeAt, Instr.sureAddr, Sem.run_bind, Sem.run_pure, Result.andThen_ok, hrun]
  exact hK _ _ (h _ hB.row (Chg.row w b _))
theorem small_any (pc : Int) (w : World) : Calls Try.prog 7 #[.int .i64 pc] w fun e w' => e = .returned (.bool (decide (-1099511627776 < pc) && decide (pc < 1099511627776))) ∧ w' = w := by
  by_cases h : -1099511627776 < pc
  · go_enter Try.func7, Try.ntmps7
    go_wp2
    go_ret
    exact ⟨by simp [h], rfl⟩
  · go_enter Try.func7, Try.ntmps7
    go_wp2
    go_ret
    exact ⟨by simp; intro h'; omega, rfl⟩
/-- What StepKeeps asks of a step, the cells as letters. -/
theorem keep_facts (V : Value) (l : List UInt8) (hl : l.length ≤ 2000) (g : Gr) (h : g.ok) :
    ∃ (A A1 CA : Array Value) (W0 p1 cd1 : Int) (rr : Nat → Int) (j : Nat), g.arr = A ∧ A.size = 19 ∧ A1.size = 19 ∧ CA.size = 6 ∧ A.all (·.oneCell') = true ∧ A1.all (·.oneCell') = true ∧ CA.all (·.oneCell') = true ∧
    A[8]? = some (.int .i64 g.pc) ∧ A[17]? = some (.int .i64 g.cd) ∧ A1[8]? = some (.int .i64 p1) ∧ A1[17]? = some (.int .i64 cd1) ∧ (∀ k, k < 8 → A[9 + k]? = some (.int .u64 (g.r k))) ∧ (∀ k, k < 8 → A1[9 + k]? = some (.int .u64 (rr k))) ∧
    (spl (A1.setIfInBounds 8 (.int .i64 g.pc)) g.r).setIfInBounds 17 (.int .i64 g.cd) = A ∧ (∀ k, k ≠ j → rr k = g.r k) ∧
    ((W0 = 3 ∧ A1 = A ∧ rr j = g.r j) ∨ (W0 = 4 ∧ rr j = g.r j ∧ p1 = g.pc + 1 ∧ (cd1 = 6 ∨ cd1 = 7)) ∨ ((W0 = 1 ∨ W0 = 2) ∧ cd1 = g.cd)) ∧
    (∀ w, (binOp BinOp.neq 30 (.agg A) (.agg A)).run Try.prog w = .ok (.bool false) w) ∧
    (∀ W, By W V l → Calls Try.prog 9 #[V, .agg A] W fun e w' => e = .returned (.tuple #[.agg A1, .agg CA, .int .i64 W0]) ∧ Below W.heap.size W w') := by
  have hA : ∀ k, k < 8 → g.arr[9 + k]? = some (.int .u64 (g.r k)) := fun k hk => g.get_cell k hk
  have hcall := fun W hV => do_any V l (by omega) g h W hV
  rcases stepP_kept l g h with ⟨hw, hg, hp⟩ | ⟨hw, hp, e, he, hg⟩ | ⟨hw, hp, j, v, v0, v1, hg, hq⟩
  · refine ⟨g.arr, g.arr, (stepP l g).2.1.arr, 3, g.pc, g.cd, g.r, 0, rfl, rfl, rfl, rfl, g.one, g.one, Cl.one _, rfl, rfl, rfl, rfl, hA, hA, rfl, fun k _ => rfl, .inl ⟨rfl, rfl, rfl⟩, neqG g, fun W hV => ?_⟩
    have := hcall W hV
    unfold stepV Gr.val Cl.val at this
    rw [hg, hw] at this
    exact this
  · refine ⟨g.arr, (g.bad e).arr, (stepP l g).2.1.arr, 4, g.pc + 1, e, g.r, 0, rfl, rfl, rfl, rfl, g.one, Gr.one _, Cl.one _, rfl, rfl, rfl, rfl, hA, fun k hk => (g.bad e).get_cell k hk, rfl, fun k _ => rfl, .inr (.inl ⟨rfl, rfl, rfl, he⟩), neqG g, fun W hV => ?_⟩
    have := hcall W hV
    unfold stepV Gr.val Cl.val at this
    rw [hg, hw] at this
    exact this
  · obtain ⟨x, hx⟩ : ∃ x, x = (stepP l g).1 := ⟨_, rfl⟩
    rw [← hx] at hg
    refine ⟨g.arr, x.arr, (stepP l g).2.1.arr, (stepP l g).2.2, x.pc, x.cd, x.r, j, rfl, rfl, rfl, rfl, g.one, x.one, Cl.one _, rfl, rfl, rfl, rfl, hA, fun k hk => x.get_cell k hk, ?_, fun k hk => ?_, .inr (.inr ⟨hw, by rw [hg]; rfl⟩), neqG g, fun W hV => ?_⟩
    · rw [hg]; rfl
    · rw [hg]; show (if k = j then v else g.r k) = g.r k; rw [if_neg hk]
    · have := hcall W hV
      unfold stepV Gr.val Cl.val at this
      rw [← hx] at this
      exact this
end Go.Proofs
end
section
namespace Go.Proofs
open Go.RowKit
set_option linter.unusedVariables false
set_option linter.unusedSimpArgs false

set_option maxHeartbeats 4000000 in
set_option maxRecDepth 100000 in
theorem keeps_out (V : Value) (l : List UInt8) (g : Gr) (h : 2000 < l.length ∨ ¬ (-1099511627776 < g.pc ∧ g.pc < 1099511627776)) (w : World) (hV : By w V l) :
    Calls Try.prog 3 #[V, g.val] w fun e w' => e = .returned (.bool true) ∧ Below w.heap.size w w' := by
  obtain ⟨A, c, rfl, hc, hc2⟩ := hV.val
  have h8 : g.arr[8]? = some (.int .i64 g.pc) := rfl
  have hsm := small_any g.pc
  unfold Gr.val
  have hk0 := Blk.new w 30 g.arr
  obtain ⟨W, hW⟩ : ∃ W, W = w.alloc (.cells g.arr 30) := ⟨_, rfl⟩
  rw [← hW] at hk0
  have hbl : Below w.heap.size w W := by rw [hW]; exact (Below.refl _ _).alloc (Nat.le_refl _) _
  have c8 := (hk0.cell 8).trans h8
  clear hV hc hc2 hk0 h8
  generalize g.arr = GA at *
  generalize g.pc = pc at *
  generalize l.length = L at *
  by_cases h1 : 2000 < L
  · have h1' : (2000 : Int) < (L : Int) := by omega
    go_enter Try.func3, Try.ntmps3
    go_upto_region 1 with (fail)
    rw [← hW]
    clear hW
    go_wp2_with (go_at_call 8; refine (known_any _).mono ?_; rintro e w9 ⟨rfl, hb9⟩)
    go_ret
    exact ⟨rfl, hbl.trans (hb9.mono hbl.size)⟩
  · have h1' : ¬ (2000 : Int) < (L : Int) := by omega
    have hd : (decide (-1099511627776 < pc) && decide (pc < 1099511627776)) = false := by simp; omega
    rw [hd] at hsm
    go_enter Try.func3, Try.ntmps3
    go_upto_region 1 with (fail)
    rw [← hW]
    clear hW
    go_wp2_with (first
      | (go_at_call 7; refine (hsm _).mono ?_; rintro e w3 ⟨rfl, rfl⟩)
      | (go_at_call 8; refine (known_any _).mono ?_; rintro e w9 ⟨rfl, hb9⟩))
    go_ret
    exact ⟨rfl, hbl.trans (hb9.mono hbl.size)⟩
/-- How many registers are another one, of the first so many. -/
def cnt (r rr : Nat → Int) (j k : Nat) : Int := if j < k ∧ rr j ≠ r j then 1 else 0
theorem cnt_same {r rr : Nat → Int} {j : Nat} (h : ∀ k, k ≠ j → rr k = r k) (k : Nat) (hk : rr k = r k) : cnt r rr j (k + 1) = cnt r rr j k := by
  unfold cnt
  by_cases hj : j = k
  · subst hj; rw [if_neg (fun e => e.2 hk), if_neg (fun e => e.2 hk)]
  · by_cases h2 : j < k ∧ rr j ≠ r j
    · rw [if_pos h2, if_pos ⟨by omega, h2.2⟩]
    · rw [if_neg h2, if_neg (fun e => h2 ⟨by omega, e.2⟩)]
theorem cnt_other {r rr : Nat → Int} {j : Nat} (h : ∀ k, k ≠ j → rr k = r k) (k : Nat) (hk : rr k ≠ r k) : cnt r rr j k = 0 ∧ cnt r rr j (k + 1) = 1 := by
  have hj : k = j := by
    by_cases e : k = j
    · exact e
    · exact absurd (h k e) hk
  subst hj
  unfold cnt
  exact ⟨by rw [if_neg (by omega)], by rw [if_pos ⟨by omega, hk⟩]⟩
/-- What holds in the loop. -/
structure KeepAt (w W : World) (Dx : Nat) (A A1 : Array Value) : Prop where
  bg : Blk W w.heap.size 30 A
  bx : Blk W Dx 30 A1
  bl : Below w.heap.size w W
theorem KeepAt.drewN {w W : World} {Dx : Nat} {A A1 : Array Value} (h : KeepAt w W Dx A A1) (n : Nat) : KeepAt w (W.drewN n) Dx A A1 := ⟨h.bg, h.bx, below_drewN h.bl n⟩
set_option maxHeartbeats 4000000 in
set_option maxRecDepth 100000 in
theorem keeps_in (V : Value) (l : List UInt8) (hl : l.length ≤ 2000) (g : Gr) (hg : g.ok) (hp0 : -1099511627776 < g.pc) (hp1 : g.pc < 1099511627776) (w : World) (hV : By w V l) :
    Calls Try.prog 3 #[V, g.val] w fun e w' => e = .returned (.bool true) ∧ Below w.heap.size w w' := by
  have hVH := Lib.hid hV
  obtain ⟨Ad, c, rfl, hc, hc2⟩ := hV.val
  obtain ⟨A, A1, CA, W0, p1, cd1, rr, j, hA, s0, s1, sC, o0, o1, oC, a8, a17, b8, b17, aR, bR, hEq, hrr, hway, hneq, hD⟩ := keep_facts (.slice Ad l.length c) l hl g hg
  have hsm := small_any g.pc
  have hd : (decide (-1099511627776 < g.pc) && decide (g.pc < 1099511627776)) = true := by simp [hp0, hp1]
  rw [hd] at hsm
  have hL : ¬ (2000 : Int) < ((l.length : Nat) : Int) := by omega
  have e1 : wrap64 (g.pc + 1) = g.pc + 1 := IntWalk.wrap64_in _ (by omega)
  unfold Gr.val
  rw [hA]
  clear hA
  have hk0 := Blk.new w 30 A
  obtain ⟨W, hW⟩ : ∃ W, W = w.alloc (.cells A 30) := ⟨_, rfl⟩
  rw [← hW] at hk0
  have hbl : Below w.heap.size w W := by rw [hW]; exact (Below.refl _ _).alloc (Nat.le_refl _) _
  have c8 := (hk0.cell 8).trans a8
  generalize g.r = r at *
  generalize g.pc = pc at *
  generalize g.cd = cd at *
  have hwA : Whole 30 A.size := by rw [s0]; exact whole30
  have hw1 : Whole 30 A1.size := by rw [s1]; exact whole30
  have hwC : Whole 36 CA.size := by rw [sC]; exact whole36
  have hf1 : zG.size = A1.size := s1.symm
  have hfC : zC.size = CA.size := sC.symm
  have hDH := Lib.hid (fun W hb => hD W (hVH.out.below hb))
  have hFH := Lib.hid (⟨a8, a17, b8, b17⟩ : _ ∧ _ ∧ _ ∧ _)
  have hEqH := Lib.hid hEq
  have hrrH := Lib.hid hrr
  have hwayH := Lib.hid hway
  have aRH := Lib.hid aR
  have bRH := Lib.hid bR
  have hszH := Lib.hid (⟨s0, s1⟩ : _ ∧ _)
  clear hV hc hc2 hD hEq hrr hway aR bR a8 a17 b8 b17 s0 s1 sC hd hg hp0 hp1 hl
  generalize l.length = L at *
  go_enter Try.func3, Try.ntmps3
  go_upto_region 1 with (fail)
  rw [← hW]
  clear hW
  go_upto_region 4 with (first
    | (go_at_call 7; refine (hsm _).mono ?_; rintro e w3 ⟨rfl, rfl⟩)
    | (refine wpList_load_blk hk0 hwA rfl _ rfl rfl ?_)
    | (go_at_call 9; refine (hDH.out _ hbl).mono ?_; rintro e w3 ⟨rfl, hb3⟩)
    | (refine wpList_store_blk (two_g w3) hw1 hf1 o1 rfl _ _ rfl rfl rfl ?_; intro w4 hB4 hC4)
    | (refine wpList_store_blk ((two_c w3).chg hC4 (by simp)) hwC hfC oC rfl _ _ rfl rfl rfl ?_; intro w5 hB5 hC5))
  have hb5 := two_chgK hb3 hC4 hC5
  have hne : w.heap.size < w3.heap.size := by have := hk0.lt; have := hb3.size; omega
  have hKH : Hid (KeepAt w w5 w3.heap.size A A1) := Lib.hid ⟨hk0.below hb5, hB4.chg hC5 (by simp), hbl.trans (hb5.mono hbl.size)⟩
  clear hB4 hB5 hC4 hC5 hb3 hb5 hk0 hbl c8 hL hf1 hwC hfC oC hsm hDH hVH
  generalize w3.heap.size = Dx at *
  go_wp2
  go_loopw [8, 9] (fun v u wr => ∃ k : Nat, v = .int .i64 (cnt r rr j k) ∧ u = .int .i64 k ∧ k ≤ 8 ∧ Hid (KeepAt w wr Dx A A1)) (fun _ u _ => 8 - (intOf u).toNat)
  case atStart => exact ⟨0, by simp [cnt], rfl, by omega, hKH⟩
  case round =>
    obtain ⟨k, rfl, rfl, hk, hI⟩ := hrel
    by_cases hk8 : k < 8
    · have q1 := (hI.out.bx.cell (9 + k)).trans (bRH.out k hk8)
      have q2 := (hI.out.bg.cell (9 + k)).trans (aRH.out k hk8)
      have hk8' : (k : Int) < 8 := by omega
      have e2 : wrap64 ((k : Int) + 1) = (k : Int) + 1 := IntWalk.wrap64_in _ (by omega)
      by_cases hs : rr k = r k
      · have hcnt := cnt_same hrrH.out k hs
        have hn : (rr k != r k) = false := by simp [hs]
        go_wp2
        refine wp_region_held_drew (S := fun w' => w'.cell? ⟨Dx, 9 + k, none⟩ = some (.int .u64 (rr k)) ∧ w'.cell? ⟨w.heap.size, 9 + k, none⟩ = some (.int .u64 (r k))) (by kernel_rfl) ⟨q1, q2⟩ (fun hHeld => ?_)
        simp only [List.setIfInBounds_toArray, List.size_toArray, List.length_cons, List.length_nil, Array.replicate]
        refine wpAnyH_take (i := 0) (v := ?_) rfl (by kernel_rfl) (by kernel_rfl) (by kernel_rfl) (fun _ _ _ h => h) (Or.inl ⟨by rfl, ?_⟩) hHeld ?_
        rotate_left
        · (intro w' hSw; obtain ⟨s0, s1⟩ := hSw; go_simp; try with_reducible rfl)
        simp only [Act.put, List.getElem_toArray, List.getElem_cons_succ, List.getElem_cons_zero, List.setIfInBounds_toArray, List.set_cons_zero, List.set_cons_succ]
        refine wpAnyH_take (i := 1) (v := ?_) rfl (by kernel_rfl) (by kernel_rfl) (by kernel_rfl) (fun _ _ _ h => h) (Or.inl ⟨by rfl, ?_⟩) hHeld ?_
        rotate_left
        · (intro w' hSw; obtain ⟨s0, s1⟩ := hSw; go_simp; try with_reducible rfl)
        simp only [Act.put, List.getElem_toArray, List.getElem_cons_succ, List.getElem_cons_zero, List.setIfInBounds_toArray, List.set_cons_zero, List.set_cons_succ]
        refine wpAnyH_take (i := 2) (v := ?_) rfl (by kernel_rfl) (by kernel_rfl) (by kernel_rfl) (fun _ _ _ h => h) (Or.inl ⟨by rfl, ?_⟩) hHeld ?_
        rotate_left
        · (intro w' hSw; obtain ⟨s0, s1⟩ := hSw; go_simp; try with_reducible rfl)
        simp only [Act.put, List.getElem_toArray, List.getElem_cons_succ, List.getElem_cons_zero, List.setIfInBounds_toArray, List.set_cons_zero, List.set_cons_succ]
        refine wpAnyH_take (i := 3) (v := ?_) rfl (by kernel_rfl) (by kernel_rfl) (by kernel_rfl) (fun _ _ _ h => h) (Or.inl ⟨by rfl, ?_⟩) hHeld ?_
        rotate_left
        · (intro w' hSw; obtain ⟨s0, s1⟩ := hSw; go_simp; try with_reducible rfl)
        simp only [Act.put, List.getElem_toArray, List.getElem_cons_succ, List.getElem_cons_zero, List.setIfInBounds_toArray, List.set_cons_zero, List.set_cons_succ]
        refine wpAnyH_take (i := 4) (v := ?_) rfl (by kernel_rfl) (by kernel_rfl) (by kernel_rfl) (fun _ _ _ h => h) (Or.inl ⟨by rfl, ?_⟩) hHeld ?_
        rotate_left
        · (intro w' hSw; obtain ⟨s0, s1⟩ := hSw; go_simp; try with_reducible rfl)
        simp only [Act.put, List.getElem_toArray, List.getElem_cons_succ, List.getElem_cons_zero, List.setIfInBounds_toArray, List.set_cons_zero, List.set_cons_succ]
        refine wpAnyH_take (i := 5) (v := ?_) rfl (by kernel_rfl) (by kernel_rfl) (by kernel_rfl) (fun _ _ _ h => h) (Or.inl ⟨by rfl, ?_⟩) hHeld ?_
        rotate_left
        · (intro w' hSw; obtain ⟨s0, s1⟩ := hSw; go_simp; try with_reducible rfl)
        simp only [Act.put, List.getElem_toArray, List.getElem_cons_succ, List.getElem_cons_zero, List.setIfInBounds_toArray, List.set_cons_zero, List.set_cons_succ]
        refine wpAnyH_take (i := 6) (v := ?_) rfl (by kernel_rfl) (by kernel_rfl) (by kernel_rfl) (fun _ _ _ h => h) (Or.inl ⟨by rfl, ?_⟩) hHeld ?_
        rotate_left
        · (intro w' hSw; obtain ⟨s0, s1⟩ := hSw; go_simp; try with_reducible rfl)
        simp only [Act.put, List.getElem_toArray, List.getElem_cons_succ, List.getElem_cons_zero, List.setIfInBounds_toArray, List.set_cons_zero, List.set_cons_succ]
        refine wpAnyH_take (i := 7) (v := ?_) rfl (by kernel_rfl) (by kernel_rfl) (by kernel_rfl) (fun _ _ _ h => h) (Or.inl ⟨by rfl, ?_⟩) hHeld ?_
        rotate_left
        · (intro w' hSw; obtain ⟨s0, s1⟩ := hSw; go_simp; try with_reducible rfl)
        simp only [Act.put, List.getElem_toArray, List.getElem_cons_succ, List.getElem_cons_zero, List.setIfInBounds_toArray, List.set_cons_zero, List.set_cons_succ]
        refine wpAnyH_take (i := 8) (v := ?_) rfl (by kernel_rfl) (by kernel_rfl) (by kernel_rfl) (fun _ _ _ h => h) (Or.inl ⟨by rfl, ?_⟩) hHeld ?_
        rotate_left
        · (intro w' hSw; obtain ⟨s0, s1⟩ := hSw; go_simp; try with_reducible rfl)
        simp only [Act.put, List.getElem_toArray, List.getElem_cons_succ, List.getElem_cons_zero, List.setIfInBounds_toArray, List.set_cons_zero, List.set_cons_succ]
        refine wpAnyH_done (by kernel_rfl) ?_ _
        clear q1 q2 hHeld hs hneq o0 o1 hwA hw1 hk8' e1 hKH
        go_wp2
        go_roundw
        case rel => exact ⟨k + 1, by rw [hcnt], by simp, by omega, Lib.hid (hI.out.drewN 1)⟩
        case measure => simp [intOf]; omega
      · obtain ⟨hc0, hc1⟩ := cnt_other hrrH.out k hs
        have hn : (rr k != r k) = true := by simp [hs]
        rw [hc0]
        go_wp2
        refine wp_region_held_drew (S := fun w' => w'.cell? ⟨Dx, 9 + k, none⟩ = some (.int .u64 (rr k)) ∧ w'.cell? ⟨w.heap.size, 9 + k, none⟩ = some (.int .u64 (r k))) (by kernel_rfl) ⟨q1, q2⟩ (fun hHeld => ?_)
        simp only [List.setIfInBounds_toArray, List.size_toArray, List.length_cons, List.length_nil, Array.replicate]
        refine wpAnyH_take (i := 0) (v := ?_) rfl (by kernel_rfl) (by kernel_rfl) (by kernel_rfl) (fun _ _ _ h => h) (Or.inl ⟨by rfl, ?_⟩) hHeld ?_
        rotate_left
        · (intro w' hSw; obtain ⟨s0, s1⟩ := hSw; go_simp; try with_reducible rfl)
        simp only [Act.put, List.getElem_toArray, List.getElem_cons_succ, List.getElem_cons_zero, List.setIfInBounds_toArray, List.set_cons_zero, List.set_cons_succ]
        refine wpAnyH_take (i := 1) (v := ?_) rfl (by kernel_rfl) (by kernel_rfl) (by kernel_rfl) (fun _ _ _ h => h) (Or.inl ⟨by rfl, ?_⟩) hHeld ?_
        rotate_left
        · (intro w' hSw; obtain ⟨s0, s1⟩ := hSw; go_simp; try with_reducible rfl)
        simp only [Act.put, List.getElem_toArray, List.getElem_cons_succ, List.getElem_cons_zero, List.setIfInBounds_toArray, List.set_cons_zero, List.set_cons_succ]
        refine wpAnyH_take (i := 2) (v := ?_) rfl (by kernel_rfl) (by kernel_rfl) (by kernel_rfl) (fun _ _ _ h => h) (Or.inl ⟨by rfl, ?_⟩) hHeld ?_
        rotate_left
        · (intro w' hSw; obtain ⟨s0, s1⟩ := hSw; go_simp; try with_reducible rfl)
        simp only [Act.put, List.getElem_toArray, List.getElem_cons_succ, List.getElem_cons_zero, List.setIfInBounds_toArray, List.set_cons_zero, List.set_cons_succ]
        refine wpAnyH_take (i := 3) (v := ?_) rfl (by kernel_rfl) (by kernel_rfl) (by kernel_rfl) (fun _ _ _ h => h) (Or.inl ⟨by rfl, ?_⟩) hHeld ?_
        rotate_left
        · (intro w' hSw; obtain ⟨s0, s1⟩ := hSw; go_simp; try with_reducible rfl)
        simp only [Act.put, List.getElem_toArray, List.getElem_cons_succ, List.getElem_cons_zero, List.setIfInBounds_toArray, List.set_cons_zero, List.set_cons_succ]
        refine wpAnyH_take (i := 4) (v := ?_) rfl (by kernel_rfl) (by kernel_rfl) (by kernel_rfl) (fun _ _ _ h => h) (Or.inl ⟨by rfl, ?_⟩) hHeld ?_
        rotate_left
        · (intro w' hSw; obtain ⟨s0, s1⟩ := hSw; go_simp; try with_reducible rfl)
        simp only [Act.put, List.getElem_toArray, List.getElem_cons_succ, List.getElem_cons_zero, List.setIfInBounds_toArray, List.set_cons_zero, List.set_cons_succ]
        refine wpAnyH_take (i := 5) (v := ?_) rfl (by kernel_rfl) (by kernel_rfl) (by kernel_rfl) (fun _ _ _ h => h) (Or.inl ⟨by rfl, ?_⟩) hHeld ?_
        rotate_left
        · (intro w' hSw; obtain ⟨s0, s1⟩ := hSw; go_simp; try with_reducible rfl)
        simp only [Act.put, List.getElem_toArray, List.getElem_cons_succ, List.getElem_cons_zero, List.setIfInBounds_toArray, List.set_cons_zero, List.set_cons_succ]
        refine wpAnyH_take (i := 6) (v := ?_) rfl (by kernel_rfl) (by kernel_rfl) (by kernel_rfl) (fun _ _ _ h => h) (Or.inl ⟨by rfl, ?_⟩) hHeld ?_
        rotate_left
        · (intro w' hSw; obtain ⟨s0, s1⟩ := hSw; go_simp; try with_reducible rfl)
        simp only [Act.put, List.getElem_toArray, List.getElem_cons_succ, List.getElem_cons_zero, List.setIfInBounds_toArray, List.set_cons_zero, List.set_cons_succ]
        refine wpAnyH_take (i := 7) (v := ?_) rfl (by kernel_rfl) (by kernel_rfl) (by kernel_rfl) (fun _ _ _ h => h) (Or.inl ⟨by rfl, ?_⟩) hHeld ?_
        rotate_left
        · (intro w' hSw; obtain ⟨s0, s1⟩ := hSw; go_simp; try with_reducible rfl)
        simp only [Act.put, List.getElem_toArray, List.getElem_cons_succ, List.getElem_cons_zero, List.setIfInBounds_toArray, List.set_cons_zero, List.set_cons_succ]
        refine wpAnyH_take (i := 8) (v := ?_) rfl (by kernel_rfl) (by kernel_rfl) (by kernel_rfl) (fun _ _ _ h => h) (Or.inl ⟨by rfl, ?_⟩) hHeld ?_
        rotate_left
        · (intro w' hSw; obtain ⟨s0, s1⟩ := hSw; go_simp; try with_reducible rfl)
        simp only [Act.put, List.getElem_toArray, List.getElem_cons_succ, List.getElem_cons_zero, List.setIfInBounds_toArray, List.set_cons_zero, List.set_cons_succ]
        refine wpAnyH_done (by kernel_rfl) ?_ _
        clear q1 q2 hHeld hs hneq o0 o1 hwA hw1 hk8' e1 hKH
        go_wp2
        go_roundw
        case rel => exact ⟨k + 1, by rw [hc1], by simp, by omega, Lib.hid (hI.out.drewN 1)⟩
        case measure => simp [intOf]; omega
    · obtain rfl : k = 8 := by omega
      have hk9 : ¬ ((8 : Nat) : Int) < 8 := by omega
      obtain ⟨s0, s1⟩ := hszH.out
      obtain ⟨a8, a17, b8, b17⟩ := hFH.out
      have hbg := hI.out.bg
      have hbx := hI.out.bx
      have hbl := hI.out.bl
      have hkn := Blk.new wr 30 zG
      have hf1 : zG.size = A1.size := s1.symm
      have c8 := (hbg.cell 8).trans a8
      have c17 := (hbg.cell 17).trans a17
      go_upto_region 11 with (first
        | (refine wpList_load_blk hbx hw1 rfl _ rfl rfl ?_)
        | (refine wpList_store_blk hkn hw1 hf1 o1 rfl _ _ rfl rfl rfl ?_; intro w6 hB6 hC6))
      have hDyx : wr.heap.size ≠ w.heap.size := by have := hbg.lt; omega
      have hDyx2 : wr.heap.size ≠ Dx := by have := hbx.lt; omega
      have hDy : w.heap.size ≤ wr.heap.size := hbl.size
      have kg := (hbg.alloc (.cells zG 30)).chg hC6 (by simp; omega)
      have kx := (hbx.alloc (.cells zG 30)).chg hC6 (by simp; omega)
      have hb6 := (hbl.alloc hbl.size (.cells zG 30)).trans (hC6.below (by simpa using hbl.size) (by have := hbl.size; simp; omega))
      clear hC6 hkn hbg hbx hbl hf1 hw1 o1 c8 c17 hI hKH hk9
      generalize wr.heap.size = Dy at *
      have c8 := (kg.cell 8).trans a8
      have d8 := (hB6.cell 8).trans b8
      have f8 := hB6.frozen 8
      have kY := hB6.set_ 8 (.int .i64 pc)
      have kg7 := kg.far (p := ⟨Dy, 8, none⟩) (by simp; omega) (.int .i64 pc)
      have kx7 := kx.far (p := ⟨Dy, 8, none⟩) (by simp; omega) (.int .i64 pc)
      have hb7 := hb6.setCell (p := ⟨Dy, 8, none⟩) hDy (.int .i64 pc)
      clear hB6 kg kx hb6
      go_upto_region 12 with (fail)
      clear c8 d8 f8
      generalize World.setCell _ _ _ = W7 at *
      have hs19 : (A1.setIfInBounds 8 (.int .i64 pc)).size = 19 := by simp [s1]
      have e17 : (spl (A1.setIfInBounds 8 (.int .i64 pc)) r)[17]? = some (.int .i64 cd1) := by
        rw [spl_17 _ r hs19, Array.getElem?_setIfInBounds_ne (by decide)]; exact b17
      go_upto_region 13 with (first
        | (refine wpList_load_regs kg7 r aRH.out rfl _ rfl rfl ?_)
        | (refine wpList_store_regs kY hs19 r rfl _ _ rfl rfl rfl ?_; intro w8 hB8 hC8))
      have kg8 := kg7.chg hC8 (by simp; omega)
      have kx8 := kx7.chg hC8 (by simp; omega)
      have hb8 := hb7.trans (hC8.below (by simpa using hDy) hb7.size)
      clear kg7 kx7 hb7 kY hC8
      have c17 := (kg8.cell 17).trans a17
      have d17 := (hB8.cell 17).trans e17
      have f17 := hB8.frozen 17
      have kY := hB8.set_ 17 (.int .i64 cd)
      rw [hEqH.out] at kY
      have kg := kg8.far (p := ⟨Dy, 17, none⟩) (by simp; omega) (.int .i64 cd)
      have kx := kx8.far (p := ⟨Dy, 17, none⟩) (by simp; omega) (.int .i64 cd)
      have hb9 := hb8.setCell (p := ⟨Dy, 17, none⟩) hDy (.int .i64 cd)
      clear kg8 kx8 hb8 hB8
      go_upto_region 14 with (fail)
      clear c17 d17 f17 hs19 e17
      generalize World.setCell _ _ _ = W9 at *
      have x8 := (kx.cell 8).trans b8
      have x17 := (kx.cell 17).trans b17
      have y8 := (kg.cell 8).trans a8
      have y17 := (kg.cell 17).trans a17
      obtain ⟨ch, hch⟩ : ∃ ch, ch = cnt r rr j 8 := ⟨_, rfl⟩
      rw [← hch]
      have hc01 : ch = 0 ∨ ch = 1 := by rw [hch]; unfold cnt; split <;> simp
      have hcz : rr j = r j → ch = 0 := fun h => by rw [hch]; unfold cnt; rw [if_neg (fun e => e.2 h)]
      have hway := hwayH.out
      clear hch hwayH aRH bRH hEqH hrrH hFH hszH a8 a17 b8 b17 s0 s1 hDyx hDyx2 hDy
      rcases hway with ⟨rfl, rfl, hrj⟩ | ⟨rfl, hrj, rfl, h67⟩ | ⟨hW, rfl⟩
      · rw [hcz hrj]
        clear hcz hc01 hrj
        have h17 := ((kx.cell 17).symm.trans x17).symm.trans ((kg.cell 17).symm.trans y17)
        simp only [Option.some.injEq, Value.int.injEq, true_and] at h17
        subst h17
        go_wp2_with (first
          | (refine wpList_load_blkG kY hwA (by rfl) _ rfl rfl ?_)
          | (refine wpList_load_blkG kg hwA (by rfl) _ rfl rfl ?_)
          | (refine wpList_load_blkG kx hwA (by rfl) _ rfl rfl ?_)
          | (go_at_call 8; refine (known_any _).mono ?_; rintro e w10 ⟨rfl, hb10⟩))
        go_ret
        exact ⟨rfl, hb9.trans (hb10.mono hb9.size)⟩
      · rw [hcz hrj]
        clear hcz hc01 hrj
        rcases h67 with rfl | rfl
        · go_wp2_with (first
            | (refine wpList_load_blkG kY hwA (by rfl) _ rfl rfl ?_)
            | (refine wpList_load_blkG kg hwA (by rfl) _ rfl rfl ?_)
            | (go_at_call 8; refine (known_any _).mono ?_; rintro e w10 ⟨rfl, hb10⟩))
          go_ret
          exact ⟨rfl, hb9.trans (hb10.mono hb9.size)⟩
        · go_wp2_with (first
            | (refine wpList_load_blkG kY hwA (by rfl) _ rfl rfl ?_)
            | (refine wpList_load_blkG kg hwA (by rfl) _ rfl rfl ?_)
            | (go_at_call 8; refine (known_any _).mono ?_; rintro e w10 ⟨rfl, hb10⟩))
          go_ret
          exact ⟨rfl, hb9.trans (hb10.mono hb9.size)⟩
      · have w3 : (W0 == 3) = false := by simp; omega
        have w4 : (W0 == 4) = false := by simp; omega
        clear hcz hW
        rcases hc01 with rfl | rfl
        · go_wp2_with (first
            | (refine wpList_load_blkG kY hwA (by rfl) _ rfl rfl ?_)
            | (refine wpList_load_blkG kg hwA (by rfl) _ rfl rfl ?_)
            | (go_at_call 8; refine (known_any _).mono ?_; rintro e w10 ⟨rfl, hb10⟩))
          go_ret
          exact ⟨rfl, hb9.trans (hb10.mono hb9.size)⟩
        · go_wp2_with (first
            | (refine wpList_load_blkG kY hwA (by rfl) _ rfl rfl ?_)
            | (refine wpList_load_blkG kg hwA (by rfl) _ rfl rfl ?_)
            | (go_at_call 8; refine (known_any _).mono ?_; rintro e w10 ⟨rfl, hb10⟩))
          go_ret
          exact ⟨rfl, hb9.trans (hb10.mono hb9.size)⟩
theorem keeps_any (V : Value) (l : List UInt8) (g : Gr) (hg : g.fine) (w : World) (hV : By w V l) :
    Calls Try.prog 3 #[V, g.val] w fun e w' => e = .returned (.bool true) ∧ Below w.heap.size w w' := by
  by_cases h : 2000 < l.length ∨ ¬ (-1099511627776 < g.pc ∧ g.pc < 1099511627776)
  · exact keeps_out V l g h w hV
  · exact keeps_in V l (by omega) g ⟨hg.r0, hg.r1, by omega, by omega, hg.c0, hg.c1⟩ (by omega) (by omega) w hV
end Go.Proofs
end
section
namespace Go.Proofs.Ytojpllmghfafjaa.stepKeeps
open Go.ChangeShapes Go.WideShapes Go.ChangeAt Go.RowKit
set_option linter.unusedVariables false

theorem own : ownKnob Try.prog.godebug = none := by kernel_rfl

set_option maxRecDepth 100000 in
theorem lifted (os : Os) (started : os.Started) (H : Type) (enc : TypeId × Value → H) :
    ReturnsInHanded {} Try.checked os 3 .any (Rows.stepKeepsSpec.pre6 enc Try.prog Try.f3 Rows.stepKeepsRow.domain false) (Rows.stepKeepsSpec.post enc Try.prog Try.f3 false true false false) := by
  refine returnsInHanded_of_change (C := Try.checked) own started (by kernel_rfl) Try.func3
    (ChangeSpec.witness6 (enc := enc) (C := Try.checked) false ⟨#[], #[.slice none 0 0, .agg #[.int .i64 0, .bool false, .int .i64 0, .int .u64 0, .int .i64 0, .int .u64 0, .int .u8 0, .int .i64 0, .int .i64 0, .int .u64 0, .int .u64 0, .int .u64 0, .int .u64 0, .int .u64 0, .int .u64 0, .int .u64 0, .int .u64 0, .int .i64 0, .int .u64 0]], []⟩ 8 (by kernel_rfl) (by kernel_rfl) (by kernel_rfl) (by kernel_rfl)) ?_
  intro W base args ds gs before hval0 hW hcnd _
  have hval : ∀ (j : Nat) t v, Try.f3.params[j]? = some t → args[j]? = some v → Value.okWide Try.prog W .any base t v := hval0
  have hW' := hW
  obtain ⟨p, q, hA0, hV, rfl, hfz, hnd⟩ := hW
  have hA : DataW.TrodAll enc Try.prog W 0 (fun _ => true) true Try.f3.params.toList args.toList ds p := hA0
  rw [Try.params3] at hA hval
  obtain ⟨v0, vs0, d0, ds0, p0, q0, hargs, rfl, rfl, h0, r0⟩ := trodAll_cons hA
  obtain ⟨v1, vs1, d1, ds1, p1, q1, rfl, rfl, rfl, h1, r1⟩ := trodAll_cons r0
  obtain ⟨rfl, rfl, rfl⟩ := trodAll_nil r1
  obtain rfl : args = #[v0, v1] := by cases args; simp_all
  obtain ⟨rfl, rfl⟩ := trodVars_none hV
  clear hA0 hval0
  simp only [List.append_nil] at hW'
  have hlt0 : ∀ x ∈ p0, x.block < W.heap.size := fun x hx => hW'.lt x (by simp [hx])
  obtain ⟨l0, hl0⟩ := open_bytes (hval 0 22 v0 rfl rfl) h0
  have hlt1 : ∀ x ∈ p1, x.block < W.heap.size := fun x hx => hW'.lt x (by simp [hx])
  obtain ⟨g1, hg1, rfl⟩ := open_g (hval 1 30 v1 rfl rfl) h1
  refine (keeps_any v0 l0 g1 hg1 W hl0).mono fun e W' ⟨he, hg⟩ => ?_
  subst he
  exact ⟨_, rfl, post_of_below (pa := (p0 ++ (p1 ++ []))) (pv := []) hW' (fun _ _ _ => (trodAll_cons_mk (shut_bool Try.underlying4 _) trodAll_mk0)) (fun sp hsp => (trodAll_cons_mk (WideElems.Trod_stays Try.laidOut (by kernel_rfl) (of_decide_eq_true (by kernel_rfl)) h0 (fun x hx => hg.same (hlt0 x hx)) (fun x hx => hsp x (by simp [hx]))) (trodAll_cons_mk (WideElems.Trod_stays Try.laidOut (by kernel_rfl) (of_decide_eq_true (by kernel_rfl)) h1 (fun x hx => hg.same (hlt1 x hx)) (fun x hx => hsp x (by simp [hx]))) trodAll_mk0))) (fun _ _ => rfl) (by simp)
    hg (ok_one (by kernel_rfl) rfl (okWide_bool_mk Try.underlying4 _))⟩

theorem over : Rows.stepKeepsRow.holds Try.pinned (OpenSpec.ofChange Rows.stepKeepsSpec) :=
  OpenClaim.holds_of_wide 3 Try.f3 rfl rfl rfl rfl rfl rfl rfl ⟨rfl, rfl, rfl, rfl, rfl⟩ rfl rfl rfl rfl rfl (by kernel_rfl) Try.func3 (by kernel_rfl)
    (of_decide_eq_true (by kernel_rfl)) (by unfold Func.isWrapper; first | (rw [if_pos (by decide +kernel)]; kernel_rfl) | (rw [if_neg (by decide +kernel)]; exact ⟨rfl, rfl⟩))
    (fun os started H enc _ => lifted os started H enc)

/-- ████ THE STATEMENT ████ -/
theorem proved : Rows.StepKeepsSaid :=
  over
#print axioms proved
end Go.Proofs.Ytojpllmghfafjaa.stepKeeps
end
