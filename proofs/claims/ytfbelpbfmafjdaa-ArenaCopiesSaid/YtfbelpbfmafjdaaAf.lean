import Derived.Test.YtfbelpbfmafjdaaAd
import Derived.Deep.RegionLaw
namespace Go.Proofs
open Go.RowKit
set_option linter.unusedVariables false

section
variable {P : Program} (w : World)
/-- append of nothing onto a row: the row. -/
theorem run_append_none (t ty e : TypeId) (i : TypeInfo) (size : Nat) (ht : P.underlying t = some (.slice e)) (hi : P.info? e = some i)
    (v : Value) (n : Nat) (xs : List Value) (hr : Row w e size v n xs) (A : Option Addr) (c : Nat) :
    (Builtin.append_ #[t, t] ty #[v, .slice A 0 c]).run P w = .ok v w := by
  rcases hr.2 with ⟨rfl, rfl⟩ | ⟨g, cap, cur, rfl, _, hnc, _⟩
  · cases A <;> simp [Builtin.append_, run_underlying ht, sizeOf, typeInfo, hi, Builtin.lenOf, Builtin.firstCells, loadCells, loadCellsFrom]
  · cases A <;> simp [Builtin.append_, run_underlying ht, sizeOf, typeInfo, hi, Builtin.lenOf, Builtin.firstCells, loadCells, loadCellsFrom, hnc, storeCells]
/-- append of a row onto an empty row: a copy. -/
theorem wpList_append_copy {ops : Array Oper} {rest : List Oper} {o : Oper} {a : Act} {Q : Exit → Act → World → Prop} (hgd : o.guard = none) (s x : Operand) (t : TypeId)
    (ho : o.op = .call { callee := .builtin .append, args := #[s, x], argTypes := #[t, t] })
    (e : TypeId) (i : TypeInfo) (z : Value) (size bytes : Nat) (ht : P.underlying t = some (.slice e)) (hi : P.info? e = some i) (hz : i.zero = some z)
    (hsize : i.size = size) (hby : i.bytes = bytes) (hzs : z.cells.size = size)
    (v : Value) (hs : a.eval s = v) (hr : Row w e size v 0 [])
    (V : Value) (n : Nat) (xs : List Value) (hx : a.eval x = V) (hV : Row w e size V n xs) (h1 : ∀ u ∈ xs, u.oneCell' = true)
    (h63 : n ≤ maxLen) (hbytes : n * bytes ≤ 140737488355328) (H : Nat) (hH : w.heap.size = H)
    (h : ∀ v' w', Row w' e size v' n xs → w.grownBy w' v.ownBlock → (∀ k ∈ foot v', v.ownBlock = some k ∨ k = H) → wpList P ops Q rest (a.put o.dst v') w') : wpList P ops Q (o :: rest) a w := by
  obtain ⟨A, c, rfl, hA⟩ := hV.val
  rcases Nat.eq_zero_or_pos n with h0 | h0
  · subst h0
    have hxs : xs = [] := List.eq_nil_of_length_eq_zero (by simpa using hV.1)
    subst hxs
    have hrun := run_append_none (P := P) w t o.type e i size ht hi v 0 [] hr A c
    refine wpList_plain hgd fun _ hK => ?_
    unfold Oper.wp execOp
    simp only [ho, resolve, invoke, builtin, Sem.run_bind, Sem.run_pure, Result.andThen_ok, List.map_toArray, List.map_cons, List.map_nil, hs, hx, hrun]
    exact hK _ _ (h v w hr ⟨rfl, rfl, rfl, Nat.le_refl _, fun _ _ _ => rfl⟩ (fun k hk => .inl (by simpa [foot] using hk)))
  · obtain ⟨g, cap, hv, _, _, hcell, _, _⟩ := hV.form h0
    simp only [Value.slice.injEq] at hv
    obtain ⟨rfl, _, _⟩ := hv
    have hadd : ∀ j, (⟨g, 0, none⟩ : Addr).add j = ⟨g, j, none⟩ := fun j => by unfold Addr.add; split <;> simp_all
    refine wpList_append_row w hgd s x t ho e i z size bytes ht hi hz hsize hby hzs v 0 [] hs hr ⟨g, 0, none⟩ n c xs hx hV.1 (fun j u hu => by rw [hadd]; exact hcell j u hu) h1 h0 (by omega) (by rw [Nat.zero_add]; exact hbytes) H hH ?_
    intro g' cap' w' h2 h3 h4 _
    simp only [Nat.zero_add, List.nil_append] at h2
    rw [Nat.zero_add]
    exact h _ _ h2 h3 (fun k hk => by simp [foot_some] at hk; subst hk; exact h4)
end
/-- A slice in new blocks, with the same cells. -/
def Cloned (e : TypeId) (size n : Nat) (xs : List Value) (w w' : World) (en : Ending) : Prop := ∃ v, en = .returned v ∧ Row w' e size v n xs ∧ (∀ k ∈ foot v, w.heap.size ≤ k) ∧ Chg [] w w'
theorem spotCells_one (l : List (Spot Int)) : ∀ u ∈ spotCells kI.val l, u.oneCell' = true := by
  intro u hu
  unfold spotCells at hu
  rw [List.mem_flatMap] at hu
  obtain ⟨s, _, hs⟩ := hu
  simp [Spot.cells, kI] at hs
  rcases hs with rfl | rfl | rfl <;> rfl
theorem numCells_one (l : List Nat) : ∀ u ∈ numCells l, u.oneCell' = true := by
  intro u hu
  unfold numCells at hu
  rw [List.mem_map] at hu
  obtain ⟨s, _, rfl⟩ := hu
  rfl
theorem eql_nil_63 (w : World) (a : Option Addr) (n c : Nat) : (binOp .eql 63 (.slice a n c) (.slice none 0 0)).run Try.prog w = .ok (.bool a.isNone) w := by
  simp only [binOp]
  simp [Op.equal, Op.maxDepth, Lib.run_equalIn_slice_nil w 9999 63 82 a n c 0 0 Try.underlying63]
theorem eql_nil_64 (w : World) (a : Option Addr) (n c : Nat) : (binOp .eql 64 (.slice a n c) (.slice none 0 0)).run Try.prog w = .ok (.bool a.isNone) w := by
  simp only [binOp]
  simp [Op.equal, Op.maxDepth, Lib.run_equalIn_slice_nil w 9999 64 3 a n c 0 0 Try.underlying64]
attribute [local go_sem] eql_nil_63 eql_nil_64
set_option maxRecDepth 100000 in
theorem clone_spots {w : World} {V : Value} {l : List (Spot Int)} (hV : Row w 82 3 V l.length (spotCells kI.val l)) (hl : l.length ≤ 4096) :
    Calls Try.prog 42 #[V] w fun e w' => Cloned 82 3 l.length (spotCells kI.val l) w w' e := by
  obtain ⟨i0, hi0, hz0, hz1, hz2⟩ := info_parts Try.info_I
  have hone := spotCells_one l
  have hV0 := hV
  rcases hV.2 with ⟨rfl, h0⟩ | ⟨g, cap, cur, rfl, hg, hc, hm, hcs, ht⟩
  · have hnil : l = [] := List.eq_nil_of_length_eq_zero h0
    subst hnil
    clear hV hV0 hone
    go_enter Try.func42, Try.ntmps42
    go_wp2
    go_ret
    exact ⟨_, rfl, Row.nil _ _ _, by simp [foot_nil], Chg.refl _ _⟩
  · have HV := Lib.hid hV0
    clear hV hV0 ht hg hcs hm hc
    obtain ⟨n, hn⟩ : ∃ n, n = l.length := ⟨_, rfl⟩
    rw [← hn] at HV hl ⊢
    clear hn
    go_enter Try.func42, Try.ntmps42
    go_wp2_with (at_builtin; refine wpList_append_copy _ rfl _ _ 63 (by rfl) 82 i0 _ 3 24 Try.underlying63 hi0 hz0 hz1 hz2 rfl (.slice (some ⟨w.heap.size, 0, none⟩) 0 0) (by rfl) ⟨by simp, .inr ⟨w.heap.size, 0, #[], rfl, Blk.new w _ _, by omega, by unfold maxLen; omega, by simp, rfl⟩⟩ (.slice (some ⟨g, 0, none⟩) n cap) n (spotCells kI.val l) (by rfl) (HV.out.alloc _) hone (by unfold maxLen; omega) (by omega) (w.heap.size + 1) (by simp) ?_; intro v' w1 hr hg hf)
    go_ret
    refine ⟨_, rfl, hr, fun k hk => ?_, ((Chg.refl [] w).alloc _).grown hg (fun k hk => ?_)⟩
    · rcases hf k hk with h9 | h9
      · simp [Value.ownBlock] at h9; omega
      · omega
    · simp [Value.ownBlock] at hk; exact .inr (by omega)
set_option maxRecDepth 100000 in
theorem clone_nums {w : World} {V : Value} {l : List Nat} (hV : Row w 3 1 V l.length (numCells l)) (hl : l.length ≤ 4096) :
    Calls Try.prog 43 #[V] w fun e w' => Cloned 3 1 l.length (numCells l) w w' e := by
  obtain ⟨i0, hi0, hz0, hz1, hz2⟩ := info_parts Try.int_info
  have hone := numCells_one l
  have hV0 := hV
  rcases hV.2 with ⟨rfl, h0⟩ | ⟨g, cap, cur, rfl, hg, hc, hm, hcs, ht⟩
  · have hnil : l = [] := List.eq_nil_of_length_eq_zero h0
    subst hnil
    clear hV hV0 hone
    go_enter Try.func43, Try.ntmps43
    go_wp2
    go_ret
    exact ⟨_, rfl, Row.nil _ _ _, by simp [foot_nil], Chg.refl _ _⟩
  · have HV := Lib.hid hV0
    clear hV hV0 ht hg hcs hm hc
    obtain ⟨n, hn⟩ : ∃ n, n = l.length := ⟨_, rfl⟩
    rw [← hn] at HV hl ⊢
    clear hn
    go_enter Try.func43, Try.ntmps43
    go_wp2_with (at_builtin; refine wpList_append_copy _ rfl _ _ 64 (by rfl) 3 i0 _ 1 8 Try.underlying64 hi0 hz0 hz1 hz2 rfl (.slice (some ⟨w.heap.size, 0, none⟩) 0 0) (by rfl) ⟨by simp, .inr ⟨w.heap.size, 0, #[], rfl, Blk.new w _ _, by omega, by unfold maxLen; omega, by simp, rfl⟩⟩ (.slice (some ⟨g, 0, none⟩) n cap) n (numCells l) (by rfl) (HV.out.alloc _) hone (by unfold maxLen; omega) (by omega) (w.heap.size + 1) (by simp) ?_; intro v' w1 hr hg hf)
    go_ret
    refine ⟨_, rfl, hr, fun k hk => ?_, ((Chg.refl [] w).alloc _).grown hg (fun k hk => ?_)⟩
    · rcases hf k hk with h9 | h9
      · simp [Value.ownBlock] at h9; omega
      · omega
    · simp [Value.ownBlock] at hk; exact .inr (by omega)
end Go.Proofs
