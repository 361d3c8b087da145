import Derived.Test.YtfbelpbfmafjdaaAe
import Derived.RangeFuncNested
import Derived.RangeFuncBound
import Derived.RangeFuncCalls
import Derived.RangeFuncLeaves
import Derived.RangeFuncFrom
import Derived.Shelf.Abstract
import Derived.Shelf.RegionOpen
import Derived.OwnWalkIn
import Derived.TacticsInMore
import Derived.LoopNIn
import Derived.LoopIn
import Derived.Sort.QuietIn
namespace Go.Proofs
open Go.RowKit Go.Shelf
set_option linter.unusedVariables false
attribute [local go_sem] Oper.semAt_some

/-- A thing, and the ref that names it. -/
structure Nam where
  i : Int
  q : Int
  x : Int
def Nam.encs (p : Nam) : Array Value := #[.agg #[.int .i64 p.i, .int .u64 p.q], .int .i64 p.x]
def namCells (l : List Nam) : List Value := l.flatMap fun p => [.int .i64 p.i, .int .u64 p.q, .int .i64 p.x]
theorem namCells_at : ∀ (l : List Nam) (k : Nat) (p : Nam), l[k]? = some p → (namCells l)[k * 3]? = some (.int .i64 p.i) ∧ (namCells l)[k * 3 + 1]? = some (.int .u64 p.q) ∧ (namCells l)[k * 3 + 2]? = some (.int .i64 p.x) := by
  intro l
  induction l with
  | nil => intro k p h; simp at h
  | cons a l ih =>
    intro k p h
    unfold namCells at ih ⊢
    rw [List.flatMap_cons]
    cases k with
    | zero => simp at h; subst h; simp
    | succ k =>
      have := ih k p (by simpa using h)
      have e : ∀ j, (([.int .i64 a.i, .int .u64 a.q, .int .i64 a.x] : List Value) ++ l.flatMap fun p => [.int .i64 p.i, .int .u64 p.q, .int .i64 p.x])[(k + 1) * 3 + j]? = (l.flatMap fun p => ([.int .i64 p.i, .int .u64 p.q, .int .i64 p.x] : List Value))[k * 3 + j]? := fun j => by
        rw [List.getElem?_append_right (by simp; omega)]
        simp; congr 1; omega
      exact ⟨(e 0).trans this.1, (e 1).trans this.2.1, (e 2).trans this.2.2⟩
theorem take_snoc {β : Type} (l : List β) (k : Nat) (x : β) (h : l[k]? = some x) : l.take (k + 1) = l.take k ++ [x] := by
  have hk := (List.getElem?_eq_some_iff.1 h).1
  rw [List.take_succ_eq_append_getElem hk, (List.getElem?_eq_some_iff.1 h).2]

set_option maxRecDepth 100000 in
set_option maxHeartbeats 1600000 in
/-- The iterator that All hands out, over what was gathered. -/
theorem over_in (n : Nat) (hn : 1 ≤ n) (l b n0 : Nat) (V : Value) (xs : List Nam) (w : World) (hb : b < n0) (hV : w.cell? ⟨b, 0, none⟩ = some V) (hR : Row w 87 3 V xs.length (namCells xs)) (hf : ∀ k ∈ foot V, k < n0) (hl : xs.length ≤ 5000)
    (J Jx : List Nam → World → Prop) (W : World) (hW : Below n0 w W) (hn0 : n0 ≤ W.heap.size) (hJ : AbidesFrom W.heap.size J)
    (hY : ∀ pre x W1, J pre W1 → pre.length < xs.length → YieldAt Fence.wide (n - 1) Try.prog l (Nam.encs x) W1 fun e W' =>
      (e = .returned (.bool true) ∧ J (pre ++ [x]) W' ∧ Below n0 W1 W') ∨ (e = .returned (.bool false) ∧ Jx (pre ++ [x]) W')) (h0 : J [] W) :
    CallsIn Fence.wide n Try.prog 41 #[.func (.yield l) #[] #[], .pointer (some ⟨b, 0, none⟩)] W fun e W' => (∃ v, e = .returned v) ∧ ((∃ ys, ys = xs ∧ J ys W') ∨ (∃ pre, pre <+: xs ∧ Jx pre W')) := by
  obtain ⟨A, c, rfl, hA⟩ := hR.val
  have hVW := (hW.cell (p := ⟨b, 0, none⟩) hb).trans hV
  obtain ⟨m, hm⟩ : ∃ m, m = xs.length := ⟨_, rfl⟩
  have HM := Lib.hid hm
  rw [← hm] at hl hY hVW hf
  have HR := Lib.hid hR
  have HF := Lib.hid hf
  have HA := Lib.hid hA
  clear hA
  refine callsIn_of_wp Try.func41 rfl trivial ?_ rfl
  simp only [Try.ntmps41, List.size_toArray, List.length_cons, List.length_nil, Nat.reduceAdd, Nat.reduceSub, Array.replicate_succ, Array.replicate_zero, List.push_toArray, List.append_toArray, List.nil_append, List.cons_append]
  clear hm hR hf hV
  gi_wp2
  gi_loopw [7] (fun iv wr => ∃ k : Nat, k ≤ m ∧ iv = .int .i64 k ∧ Below n0 w wr ∧ W.heap.size ≤ wr.heap.size ∧ J (xs.take k) wr) (fun iv wr => m - (intOf iv).toNat)
  case atStart => exact ⟨0, by omega, rfl, hW, Nat.le_refl _, h0⟩
  case round =>
    obtain ⟨k, hk, rfl, hB, hz, hJk⟩ := hrel
    by_cases hlt : k < m
    · obtain ⟨p, hp⟩ : ∃ p, xs[k]? = some p := ⟨_, List.getElem?_eq_getElem (by rw [← HM.out]; exact hlt)⟩
      obtain ⟨gl, cl, hv, _, _, hcell, _, _⟩ := HR.out.form (by rw [← HM.out]; omega)
      simp only [Value.slice.injEq] at hv
      obtain ⟨rfl, h91, h92⟩ := hv
      clear h91 h92
      have hgl : gl < n0 := HF.out gl (by simp [foot_some])
      obtain ⟨q0, q1, q2⟩ := namCells_at xs k p hp
      have d0 := (hB.cell (p := ⟨gl, k * 3, none⟩) hgl).trans (hcell _ _ q0)
      have d1 := (hB.cell (p := ⟨gl, k * 3 + 1, none⟩) hgl).trans (hcell _ _ q1)
      have d2 := (hB.cell (p := ⟨gl, k * 3 + 2, none⟩) hgl).trans (hcell _ _ q2)
      have k0 : (0 : Int) ≤ (k : Int) := by omega
      have k1 : (k : Int) < (m : Int) := by omega
      have hlen : (xs.take k).length < m := by rw [List.length_take, ← HM.out]; omega
      have HS := Lib.hid (take_snoc xs k p hp)
      have HB := Lib.hid hB
      obtain ⟨pi, pq, px⟩ := p
      simp only at d0 d1 d2
      have hJ2 : J (xs.take k) (wr.alloc (.cells #[.int .i64 pi, .int .u64 pq, .int .i64 px] 87)) := hJ _ _ _ none hJk (World.grownBy_alloc wr _ none) (fun r e => by cases e)
      obtain ⟨fn, tmps, assign, body, hy, hRo⟩ := hY _ ⟨pi, pq, px⟩ _ hJ2 hlen
      simp only [Nam.encs] at hy
      clear hp hcell q0 q1 q2 hB hJk
      gi_wp2
      refine hRo.mono ?_
      rintro e W3 (⟨rfl, hJ3, hk3⟩ | ⟨rfl, hJx3⟩)
      · gi_wp2
        go_roundw
        case rel => exact ⟨k + 1, by omega, by go_num, (HB.out.trans ((Below.refl n0 wr).alloc (by omega) _)).trans hk3, by have := hk3.size; simp at this; omega, by rw [HS.out]; exact hJ3⟩
        case measure => simp [intOf]; omega
      · gi_wp2
        refine bodyPost_ret (results_none rfl _ _ _) rfl ?_
        exact ⟨⟨_, rfl⟩, .inr ⟨_, by rw [← HS.out]; exact List.take_prefix _ _, hJx3⟩⟩
    · obtain rfl : k = m := by omega
      gi_wp2
      go_end0
      exact ⟨⟨_, rfl⟩, .inl ⟨_, rfl, by have := hJk; rw [HM.out, List.take_length] at this; exact this⟩⟩
end Go.Proofs
