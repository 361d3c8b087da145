import Derived.Test.YtelkndhifkmpiaaHeN
import Derived.RangeFuncNested
import Derived.RangeFuncBound
import Derived.RangeFuncCalls
import Derived.RangeFuncLeaves
import Derived.Shelf.Abstract
import Derived.Shelf.RegionOpen
import Derived.OwnWalkIn
import Derived.TacticsInMore
import Derived.LoopNIn
import Derived.LoopIn
import Derived.RangeFuncBox
import Derived.Maps.AppendAt
namespace Go.Proofs
open Go.RowKit Go.Shelf
set_option linter.unusedVariables false
attribute [local go_sem] Oper.semAt_some

theorem grown_of_chg {W W' : World} (h : Chg [] W W') : W.grownBy W' none := ⟨h.os, h.tape, h.output, h.size, fun k hk _ => h.block k hk (by simp)⟩
/-- These blocks are as they were. -/
structure KeepL (L : List Nat) (A B : World) : Prop where
  size : A.heap.size ≤ B.heap.size
  block : ∀ k ∈ L, B.heap[k]? = A.heap[k]?
theorem KeepL.refl (L : List Nat) (A : World) : KeepL L A A := ⟨Nat.le_refl _, fun _ _ => rfl⟩
theorem KeepL.trans {L : List Nat} {A B C : World} (h : KeepL L A B) (k : KeepL L B C) : KeepL L A C := ⟨Nat.le_trans h.size k.size, fun i hi => (k.block i hi).trans (h.block i hi)⟩
theorem KeepL.chg {L : List Nat} {A B : World} (h : Chg [] A B) (hL : ∀ k ∈ L, k < A.heap.size) : KeepL L A B := ⟨h.size, fun k hk => h.block k (hL k hk) (by simp)⟩
theorem KeepL.cell {L : List Nat} {A B : World} (h : KeepL L A B) {p : Addr} (hp : p.block ∈ L) : B.cell? p = A.cell? p := World.cell?_of_block (h.block p.block hp)
def encT (x : Tm) : Array Value := #[.agg #[.int .u64 x.at_, .int .i64 x.id, .int .u64 x.put]]
theorem take_succ' {ts : List Tm} {k : Nat} (h : k < ts.length) : ts.take (k + 1) = ts.take k ++ [at_ ts k] := by
  rw [List.take_add_one, at_eq h]; rfl
set_option maxRecDepth 100000 in
set_option maxHeartbeats 3200000 in
/-- The iterator that goes over a slice. -/
theorem vals_in (n : Nat) (hn : 1 ≤ n) (l b : Nat) (V : Value) (ts : List Tm) (w : World) (hlen : ts.length ≤ 100000) (hb : b < w.heap.size) (hV : w.cell? ⟨b, 0, none⟩ = some V) (hT : Rs w 61 3 V ts.length (tms ts))
    (J Jx : List Tm → World → Prop) (W : World) (hW : KeepL (b :: foot V) w W) (hJ : AbidesFrom W.heap.size J)
    (hY : ∀ pre x W1, J pre W1 → pre.length < 100000 → YieldAt Fence.wide (n - 1) Try.prog l (encT x) W1 fun e W' =>
      (e = .returned (.bool true) ∧ J (pre ++ [x]) W' ∧ KeepL (b :: foot V) W1 W') ∨ (e = .returned (.bool false) ∧ Jx (pre ++ [x]) W')) (h0 : J [] W) :
    CallsIn Fence.wide n Try.prog 39 #[.func (.yield l) #[] #[], .pointer (some ⟨b, 0, none⟩)] W fun e W' => (∃ v, e = .returned v) ∧ ((∃ ys, ys = ts ∧ J ys W') ∨ (∃ pre, pre <+: ts ∧ Jx pre W')) := by
  obtain ⟨A, c, rfl, hc1, hc2, hc3, hcell⟩ := hT.open_
  have hVW := (hW.cell (p := ⟨b, 0, none⟩) (by simp)).trans hV
  have hlt0 : ∀ k ∈ b :: foot (.slice A ts.length c), k < w.heap.size := fun k hk => by
    rcases List.mem_cons.1 hk with rfl | hk
    · exact hb
    · exact hT.lt k hk
  have HLT := Lib.hid hlt0
  have HC := Lib.hid (fun k (hk : k < ts.length) => by
    obtain ⟨q0, q1, q2⟩ := tms_at (at_eq hk)
    obtain ⟨bb, o, hA, hlt, e0⟩ := hcell _ _ q0
    obtain ⟨bb1, o1, hA1, _, e1⟩ := hcell _ _ q1
    obtain ⟨bb2, o2, hA2, _, e2⟩ := hcell _ _ q2
    rw [hA] at hA1 hA2
    cases hA1
    cases hA2
    rw [← Nat.add_assoc] at e1 e2
    exact (⟨bb, o, hA, e0, e1, e2⟩ : ∃ bb o, A = some ⟨bb, o, none⟩ ∧ w.cell? ⟨bb, o + k * 3, none⟩ = some (.int .u64 (at_ ts k).at_) ∧ w.cell? ⟨bb, o + k * 3 + 1, none⟩ = some (.int .i64 (at_ ts k).id) ∧ w.cell? ⟨bb, o + k * 3 + 2, none⟩ = some (.int .u64 (at_ ts k).put)))
  clear hlt0 hcell hT
  obtain ⟨m, hm⟩ : ∃ m, m = ts.length := ⟨_, rfl⟩
  rw [← hm] at HC HLT hV hVW hlen hW hY
  have HM := Lib.hid hm
  clear hm
  refine callsIn_of_wp Try.func39 rfl trivial ?_ rfl
  simp only [Try.ntmps39, List.size_toArray, List.length_cons, List.length_nil, Nat.reduceAdd, Nat.reduceSub, Array.replicate_succ, Array.replicate_zero, List.push_toArray, List.append_toArray, List.nil_append, List.cons_append]
  gi_wp2
  gi_loopw [7] (fun iv wr => ∃ k : Nat, k ≤ m ∧ iv = .int .i64 k ∧ KeepL (b :: foot (.slice A m c)) w wr ∧ W.heap.size ≤ wr.heap.size ∧ J (ts.take k) wr) (fun iv wr => m - (intOf' iv).toNat)
  case atStart => exact ⟨0, by omega, rfl, hW, Nat.le_refl _, by simpa using h0⟩
  case round =>
    obtain ⟨k, hk, rfl, hB, hz, hJk⟩ := hrel
    by_cases hlt : k < m
    · have k0 : (0 : Int) ≤ (k : Int) := by omega
      have k1 : (k : Int) < (m : Int) := by omega
      obtain ⟨bb, o, rfl, e0, e1, e2⟩ := HC.out k hlt
      have lbb : bb ∈ b :: foot (.slice (some ⟨bb, o, none⟩) m c) := by simp [foot_some]
      have x0 := (hB.cell (p := ⟨bb, o + k * 3, none⟩) lbb).trans e0
      have x1 := (hB.cell (p := ⟨bb, o + k * 3 + 1, none⟩) lbb).trans e1
      have x2 := (hB.cell (p := ⟨bb, o + k * 3 + 2, none⟩) lbb).trans e2
      have hpl : (ts.take k).length < 100000 := by rw [List.length_take]; omega
      have HS := Lib.hid (take_succ' (ts := ts) (k := k) (by rw [← HM.out]; exact hlt))
      generalize at_ ts k = x at *
      obtain ⟨xa, xi, xp⟩ := x
      simp only at x0 x1 x2
      have hc9 : Chg [] wr (wr.alloc (.cells #[.int .u64 xa, .int .i64 xi, .int .u64 xp] 61)) := (Chg.refl _ _).alloc _
      have hJ2 : J (ts.take k) (wr.alloc (.cells #[.int .u64 xa, .int .i64 xi, .int .u64 xp] 61)) := hJ _ _ _ none hJk (grown_of_chg hc9) (fun r e => by cases e)
      obtain ⟨fn, tmps, assign, body, hy, hRo⟩ := hY _ ⟨xa, xi, xp⟩ _ hJ2 hpl
      simp only [encT] at hy
      have HRo := Lib.hid hRo
      have HC9 := Lib.hid hc9
      have HB := Lib.hid hB
      clear hJ2 hRo hc9 e0 e1 e2 hB hJk
      gi_wp2
      refine HRo.out.mono ?_
      rintro e W3 (⟨rfl, hJ3, hk3⟩ | ⟨rfl, hJx3⟩)
      · have HJ3 := Lib.hid hJ3
        have HK3 := Lib.hid hk3
        clear hJ3 hk3
        gi_wp2
        go_roundw
        case rel => exact ⟨k + 1, by omega, by go_num, (HB.out.trans (KeepL.chg HC9.out (fun k hk => Nat.lt_of_lt_of_le (HLT.out k hk) HB.out.size))).trans HK3.out, by have := HK3.out.size; have := HC9.out.size; omega, by rw [HS.out]; exact HJ3.out⟩
        case measure => simp [intOf']; omega
      · have HJ3 := Lib.hid hJx3
        clear hJx3
        gi_wp2
        refine bodyPost_ret (results_none rfl _ _ _) rfl ?_
        exact ⟨⟨_, rfl⟩, .inr ⟨_, by rw [← HS.out]; exact List.take_prefix _ _, HJ3.out⟩⟩
    · obtain rfl : k = m := by omega
      gi_wp2
      go_end0
      exact ⟨⟨_, rfl⟩, .inl ⟨_, rfl, by rw [HM.out, List.take_length] at hJk; exact hJk⟩⟩
end Go.Proofs
