import Derived.Test.YtocdkomjdcccoaaGreatM17
import Derived.RangeFuncNested
import Derived.RangeFuncBound
import Derived.RangeFuncCalls
import Derived.RangeFuncLeaves
import Derived.RangeFuncFrom
import Derived.Shelf.Abstract
import Derived.Shelf.RegionOpen
import Derived.OwnWalkIn
import Derived.TacticsInMore
import Derived.LoopNIn
import Derived.LoopIn
import Derived.Sort.QuietIn
import Derived.RangeFuncBox
import Derived.Stop.RegionWithIn
import Derived.Maps.AppendAt
import Derived.Laws.EntriesVeiled
import Derived.Sort.QuietThIn
import Derived.Sort.BigQuietIn
section
namespace Go.Proofs
open Go.RowKit Go.Shelf
set_option linter.unusedVariables false
attribute [local go_sem] Oper.semAt_some

/-- A thing, and the ref that names it. -/
structure Nam where
  i : Int
  q : Int
  x : Cx
def Nam.encs (p : Nam) : Array Value := #[.agg #[.int .i64 p.i, .int .u64 p.q], p.x.val]
def Nam.cells (p : Nam) : List Value := [.int .i64 p.i, .int .u64 p.q, .int .u64 p.x.b, .int .u64 p.x.p, .slice p.x.a p.x.m p.x.c, .int .i64 p.x.n]
def namCells (l : List Nam) : List Value := l.flatMap Nam.cells
theorem namCells_at (l : List Nam) (k : Nat) (p : Nam) (h : l[k]? = some p) :
    (namCells l)[k * 6]? = some (.int .i64 p.i) ∧ (namCells l)[k * 6 + 1]? = some (.int .u64 p.q) ∧ (namCells l)[k * 6 + 2]? = some (.int .u64 p.x.b) ∧
    (namCells l)[k * 6 + 3]? = some (.int .u64 p.x.p) ∧ (namCells l)[k * 6 + 4]? = some (.slice p.x.a p.x.m p.x.c) ∧ (namCells l)[k * 6 + 5]? = some (.int .i64 p.x.n) := by
  have e := fun j u => flat_at (enc := Nam.cells) (s := 6) (fun _ => rfl) (j := j) (u := u) h
  exact ⟨e 0 _ rfl, e 1 _ rfl, e 2 _ rfl, e 3 _ rfl, e 4 _ rfl, e 5 _ rfl⟩
theorem take_one_more {β : Type} (l : List β) (k : Nat) (x : β) (h : l[k]? = some x) : l.take (k + 1) = l.take k ++ [x] := by
  have hk := (List.getElem?_eq_some_iff.1 h).1
  rw [List.take_succ_eq_append_getElem hk, (List.getElem?_eq_some_iff.1 h).2]

/-- The blocks of X lie as they lay. -/
structure KeepP (X : Nat → Prop) (A B : World) : Prop where
  size : A.heap.size ≤ B.heap.size
  block : ∀ k, X k → B.heap[k]? = A.heap[k]?
section
variable {X : Nat → Prop} {A B C : World}
theorem KeepP.refl (X : Nat → Prop) (A : World) : KeepP X A A := ⟨Nat.le_refl _, fun _ _ => rfl⟩
theorem KeepP.trans (h : KeepP X A B) (k : KeepP X B C) : KeepP X A C := ⟨Nat.le_trans h.size k.size, fun i hi => (k.block i hi).trans (h.block i hi)⟩
theorem KeepP.cell (h : KeepP X A B) {p : Addr} (hp : X p.block) : B.cell? p = A.cell? p := World.cell?_of_block (h.block p.block hp)
theorem KeepP.frozen (h : KeepP X A B) {p : Addr} (hp : X p.block) : B.frozen? p = A.frozen? p := by unfold World.frozen?; rw [h.block p.block hp]
theorem KeepP.chg {S : List Nat} (h : Chg S A B) (hX : ∀ k, X k → k < A.heap.size) (hS : ∀ k ∈ S, ¬ X k) : KeepP X A B := ⟨h.size, fun k hk => h.block k (hX k hk) (fun hm => hS k hm hk)⟩
theorem KeepP.quiet (h : Chg [] A B) (hX : ∀ k, X k → k < A.heap.size) : KeepP X A B := KeepP.chg h hX (fun _ hm => by cases hm)
theorem KeepP.below {D : Nat} (h : Below D A B) (hX : ∀ k, X k → k < D) : KeepP X A B := ⟨h.size, fun k hk => h.block k (hX k hk)⟩
theorem KeepP.grown {row : Option Nat} (hg : A.grownBy B row) (hX : ∀ k, X k → k < A.heap.size) (hr : ∀ k, row = some k → ¬ X k) : KeepP X A B := ⟨hg.size, fun k hk => hg.block k (hX k hk) (fun e => hr k e.symm hk)⟩
end
set_option maxRecDepth 100000 in
set_option maxHeartbeats 1600000 in
/-- The iterator that All hands out, over what was gathered. -/
theorem over_in {β : Type} (f : β → Nam) (n : Nat) (hn : 1 ≤ n) (l b : Nat) (X : Nat → Prop) (V : Value) (xs : List β) (w : World) (hXw : ∀ k, X k → k < w.heap.size) (hb : X b) (hV : w.cell? ⟨b, 0, none⟩ = some V) (hR : Row w 116 6 V xs.length (namCells (xs.map f))) (hft : ∀ k ∈ foot V, X k) (hl : xs.length ≤ 5000)
    (J Jx : List β → World → Prop) (W : World) (hW : KeepP X w W) (hJ : AbidesFrom W.heap.size J)
    (hY : ∀ pre x W1, J pre W1 → pre.length < xs.length → YieldAt Fence.wide (n - 1) Tryz.prog l (Nam.encs (f x)) W1 fun e W' =>
      (e = .returned (.bool true) ∧ J (pre ++ [x]) W' ∧ KeepP X W1 W') ∨ (e = .returned (.bool false) ∧ Jx (pre ++ [x]) W')) (h0 : J [] W) :
    CallsIn Fence.wide n Tryz.prog 87 #[.func (.yield l) #[] #[], .pointer (some ⟨b, 0, none⟩)] W fun e W' => (∃ v, e = .returned v) ∧ ((∃ ys, ys = xs ∧ J ys W') ∨ (∃ pre, pre <+: xs ∧ Jx pre W')) := by
  obtain ⟨A, c, rfl, hA⟩ := hR.val
  have hVW := (hW.cell (p := ⟨b, 0, none⟩) hb).trans hV
  obtain ⟨m, hm⟩ : ∃ m, m = xs.length := ⟨_, rfl⟩
  have HM := Lib.hid hm
  rw [← hm] at hl hY hVW hft
  have HR := Lib.hid hR
  have HF := Lib.hid hft
  have HA := Lib.hid hA
  clear hA
  refine callsIn_of_wp Tryz.func87 rfl trivial ?_ rfl
  simp only [Tryz.ntmps87, List.size_toArray, List.length_cons, List.length_nil, Nat.reduceAdd, Nat.reduceSub, Array.replicate_succ, Array.replicate_zero, List.push_toArray, List.append_toArray, List.nil_append, List.cons_append]
  clear hm hR hft hV
  gi_wp2
  gi_loopw [7] (fun iv wr => ∃ k : Nat, k ≤ m ∧ iv = .int .i64 k ∧ KeepP X w wr ∧ W.heap.size ≤ wr.heap.size ∧ J (xs.take k) wr) (fun iv wr => m - (intOfN iv).toNat)
  case atStart => exact ⟨0, by omega, rfl, hW, Nat.le_refl _, h0⟩
  case round =>
    obtain ⟨k, hk, rfl, hB, hz, hJk⟩ := hrel
    by_cases hlt : k < m
    · obtain ⟨p, hp⟩ : ∃ p, xs[k]? = some p := ⟨_, List.getElem?_eq_getElem (by rw [← HM.out]; exact hlt)⟩
      obtain ⟨gl, cl, hv, _, _, hcell, _, _⟩ := HR.out.form (by rw [← HM.out]; omega)
      simp only [Value.slice.injEq] at hv
      obtain ⟨rfl, h91, h92⟩ := hv
      clear h91 h92
      have hgl : X gl := HF.out gl (by simp [foot_some])
      obtain ⟨Q, hQ⟩ : ∃ Q, Q = f p := ⟨_, rfl⟩
      obtain ⟨q0, q1, q2, q3, q4, q5⟩ := namCells_at (xs.map f) k Q (by rw [List.getElem?_map, hp, hQ]; rfl)
      have d0 := (hB.cell (p := ⟨gl, k * 6, none⟩) hgl).trans (hcell _ _ q0)
      have d1 := (hB.cell (p := ⟨gl, k * 6 + 1, none⟩) hgl).trans (hcell _ _ q1)
      have d2 := (hB.cell (p := ⟨gl, k * 6 + 2, none⟩) hgl).trans (hcell _ _ q2)
      have d3 := (hB.cell (p := ⟨gl, k * 6 + 3, none⟩) hgl).trans (hcell _ _ q3)
      have d4 := (hB.cell (p := ⟨gl, k * 6 + 4, none⟩) hgl).trans (hcell _ _ q4)
      have d5 := (hB.cell (p := ⟨gl, k * 6 + 5, none⟩) hgl).trans (hcell _ _ q5)
      have k0 : (0 : Int) ≤ (k : Int) := by omega
      have k1 : (k : Int) < (m : Int) := by omega
      have hlen : (xs.take k).length < m := by rw [List.length_take, ← HM.out]; omega
      have HS := Lib.hid (take_one_more xs k p hp)
      have HB := Lib.hid hB
      obtain ⟨pi, pq, xb, xp, xa, xm, xc, xn, xl⟩ := Q
      simp only at d0 d1 d2 d3 d4 d5
      have hJ2 : J (xs.take k) (wr.alloc (.cells #[.int .i64 pi, .int .u64 pq, .int .u64 xb, .int .u64 xp, .slice xa xm xc, .int .i64 xn] 116)) := hJ _ _ _ none hJk (World.grownBy_alloc wr _ none) (fun r e => by cases e)
      obtain ⟨fn, tmps, assign, body, hy, hRo⟩ := hY _ p _ hJ2 hlen
      rw [← hQ] at hy
      simp only [Nam.encs, Cx.val] at hy
      clear hQ hp hcell q0 q1 q2 q3 q4 q5 hB hJk
      gi_wp2
      refine hRo.mono ?_
      rintro e W3 (⟨rfl, hJ3, hk3⟩ | ⟨rfl, hJx3⟩)
      · gi_wp2
        go_roundw
        case rel => exact ⟨k + 1, by omega, by go_num, (HB.out.trans (KeepP.quiet ((Chg.refl [] wr).alloc _) (fun k hk => by have := hXw k hk; have := HB.out.size; omega))).trans hk3, by have := hk3.size; simp at this; omega, by rw [HS.out]; exact hJ3⟩
        case measure => simp [intOfN]; omega
      · gi_wp2
        refine bodyPost_ret (results_none rfl _ _ _) rfl ?_
        exact ⟨⟨_, rfl⟩, .inr ⟨_, by rw [← HS.out]; exact List.take_prefix _ _, hJx3⟩⟩
    · obtain rfl : k = m := by omega
      gi_wp2
      go_end0
      exact ⟨⟨_, rfl⟩, .inl ⟨_, rfl, by have := hJk; rw [HM.out, List.take_length] at this; exact this⟩⟩
end Go.Proofs
end
section
namespace Go.Proofs
open Go.RowKit Go.Shelf
set_option linter.unusedVariables false
attribute [local go_sem] Oper.semAt_some

/-- What is there below a place, rising. -/
def nowL (t : Tab Cx) (k : Nat) : List Nam := (List.range k).filterMap fun i => (t.live (i : Nat)).map fun s => ⟨(i : Nat), s.gen, s.thing⟩
theorem nowL_yes {t : Tab Cx} {k : Nat} {s : Spot Cx} (h : t.live (k : Nat) = some s) : nowL t (k + 1) = nowL t k ++ [⟨(k : Nat), s.gen, s.thing⟩] := by
  unfold nowL
  rw [List.range_succ, List.filterMap_append]
  simp [h]
theorem nowL_no {t : Tab Cx} {k : Nat} (h : t.live (k : Nat) = none) : nowL t (k + 1) = nowL t k := by
  unfold nowL
  rw [List.range_succ, List.filterMap_append]
  simp [h]
theorem nowL_len (t : Tab Cx) (k : Nat) : (nowL t k).length ≤ k := by
  unfold nowL
  exact Nat.le_trans (List.length_filterMap_le _ _) (by simp)
theorem nowL_pre (t : Tab Cx) (k j : Nat) (h : k ≤ j) : nowL t k <+: nowL t j := by
  induction j with
  | zero => obtain rfl : k = 0 := by omega
            exact List.prefix_refl _
  | succ j ih =>
    by_cases e : k = j + 1
    · subst e; exact List.prefix_refl _
    · have := ih (by omega)
      rcases live_cases t (j : Nat) with ⟨s, hs⟩ | hn
      · rw [nowL_yes hs]; exact this.trans (List.prefix_append _ _)
      · rw [nowL_no hn]; exact this
theorem grown_of_chg {W W' : World} (h : Chg [] W W') : W.grownBy W' none := ⟨h.os, h.tape, h.output, h.size, fun k hk _ => h.block k hk (by simp)⟩

/-- These blocks are as they were. -/
structure KeepL (L : List Nat) (A B : World) : Prop where
  size : A.heap.size ≤ B.heap.size
  block : ∀ k ∈ L, B.heap[k]? = A.heap[k]?
theorem KeepL.refl (L : List Nat) (A : World) : KeepL L A A := ⟨Nat.le_refl _, fun _ _ => rfl⟩
theorem KeepL.trans {L : List Nat} {A B C : World} (h : KeepL L A B) (k : KeepL L B C) : KeepL L A C := ⟨Nat.le_trans h.size k.size, fun i hi => (k.block i hi).trans (h.block i hi)⟩
theorem KeepL.chg {L : List Nat} {A B : World} (h : Chg [] A B) (hL : ∀ k ∈ L, k < A.heap.size) : KeepL L A B := ⟨h.size, fun k hk => h.block k (hL k hk) (by simp)⟩
theorem KeepL.cell {L : List Nat} {A B : World} (h : KeepL L A B) {p : Addr} (hp : p.block ∈ L) : B.cell? p = A.cell? p := World.cell?_of_block (h.block p.block hp)

set_option maxRecDepth 100000 in
set_option maxHeartbeats 3200000 in
/-- The iterator that goes over the table as it is. -/
theorem now_in (n : Nat) (hn : 1 ≤ n) (l b g N : Nat) (S : List Nat) (t : Tab Cx) (hw : t.WF) (hN : t.size = (N : Nat)) (w : World) (hb : b < w.heap.size) (hV : w.cell? ⟨b, 0, none⟩ = some (.pointer (some ⟨g, 0, none⟩))) (hT : TabAt w g S t)
    (J Jx : List Nam → World → Prop) (W : World) (hW : KeepL (b :: S) w W) (hJ : AbidesFrom W.heap.size J)
    (hY : ∀ pre x W1, J pre W1 → pre.length < N + 1 → YieldAt Fence.wide (n - 1) Tryz.prog l (Nam.encs x) W1 fun e W' =>
      (e = .returned (.bool true) ∧ J (pre ++ [x]) W' ∧ KeepL (b :: S) W1 W') ∨ (e = .returned (.bool false) ∧ Jx (pre ++ [x]) W')) (h0 : J [] W) :
    CallsIn Fence.wide n Tryz.prog 114 #[.func (.yield l) #[] #[], .pointer (some ⟨b, 0, none⟩)] W fun e W' => (∃ v, e = .returned v) ∧ ((∃ ys, ys = nowL t N ∧ J ys W') ∨ (∃ pre, pre <+: nowL t N ∧ Jx pre W')) := by
  have hVW := (hW.cell (p := ⟨b, 0, none⟩) (by simp)).trans hV
  have hTW : ∀ W', KeepL (b :: S) w W' → TabAt W' g S t := fun W' h => hT.same (fun k hk => h.block k (by simp [hk]))
  have hlt0 : ∀ k ∈ b :: S, k < w.heap.size := fun k hk => by
    rcases List.mem_cons.1 hk with rfl | hk
    · exact hb
    · exact hT.lt k hk
  have HLT := Lib.hid hlt0
  clear hlt0
  have HTW := Lib.hid hTW
  have HSz := fun w' h' => (size_C (w := w') (g := g) (S := S) (t := t) h').mono (R' := fun e w'' => e = .returned (.int .i64 (N : Nat)) ∧ w' = w'') (fun e w'' ⟨h1, h2⟩ => ⟨by rw [h1, hN], h2⟩)
  have hN4 : N ≤ 4096 := by have := hw.s1; omega
  have HNN := Lib.hid hN
  clear hN
  refine callsIn_of_wp Tryz.func114 rfl trivial ?_ rfl
  simp only [Tryz.ntmps114, List.size_toArray, List.length_cons, List.length_nil, Nat.reduceAdd, Nat.reduceSub, Array.replicate_succ, Array.replicate_zero, List.push_toArray, List.append_toArray, List.nil_append, List.cons_append]
  gi_wp2_with (refine ⟨trivial, ?_⟩; gi_at_call 61; refine (callsIn_wide.2 (HSz _ (HTW.out _ hW))).mono ?_; rintro e w' ⟨rfl, rfl⟩)
  gi_loopw [8] (fun iv wr => ∃ k : Nat, k ≤ N ∧ iv = .int .i64 k ∧ KeepL (b :: S) w wr ∧ W.heap.size ≤ wr.heap.size ∧ J (nowL t k) wr) (fun iv wr => N - (intOfN iv).toNat)
  case atStart => exact ⟨0, by omega, rfl, hW, Nat.le_refl _, h0⟩
  case round =>
    obtain ⟨k, hk, rfl, hB, hz, hJk⟩ := hrel
    have hVr := (hB.cell (p := ⟨b, 0, none⟩) (by simp)).trans hV
    by_cases hlt : k < N
    · have k0 : (0 : Int) ≤ (k : Int) := by omega
      have k1 : (k : Int) < (N : Int) := by omega
      have HA := fun w' h' => at_C (w := w') (g := g) (S := S) (t := t) h' hw (k : Nat) (by omega) (by omega)
      have hlen : (nowL t k).length < N + 1 := by have := nowL_len t k; omega
      have HB := Lib.hid hB
      have HJk := Lib.hid hJk
      rcases live_cases t (k : Nat) with ⟨s, hs⟩ | hno
      · obtain ⟨q1, q2, q3⟩ := live_some hs
        rw [q1, q2, q3] at HA
        have HS := Lib.hid (nowL_yes hs)
        obtain ⟨hj, hth⟩ := live_nat.1 hs
        obtain ⟨VS, VF, hBk, hSp, hFr, hSS⟩ := hT
        obtain ⟨gs, cs, rfl, hft, hcs, hgs, hks, a0, a1, a2, a3, a4, a5, _⟩ := TabAt.open_spot hSp hj
        have lg : g ∈ b :: S := by rw [hSS]; simp
        have lgs : gs ∈ b :: S := by rw [hSS]; simp [foot_some]
        have c2 := hBk.cell 2
        obtain ⟨m, hm⟩ : ∃ m, m = t.spots.length := ⟨_, rfl⟩
        rw [← hm] at c2 hks
        have k2 : (k : Int) < (m : Int) := by omega
        obtain ⟨G, hG⟩ : ∃ G, G = s.gen := ⟨_, rfl⟩
        obtain ⟨X, hX⟩ : ∃ X, X = s.thing := ⟨_, rfl⟩
        rw [← hX] at a2 a3 a4 a5 HS
        obtain ⟨xb, xp, xa, xm, xc, xn, xl⟩ := X
        simp only at a2 a3 a4 a5
        rw [← hG] at HA
        rw [← hG] at HS
        clear q1 q2 q3 hs hj hth hBk hSp hFr hSS hft hm hG hX a0 a1 hB hJk
        gi_wp2_with (refine ⟨trivial, ?_⟩; gi_at_call 115; refine (callsIn_wide.2 (HA _ (HTW.out _ HB.out))).mono ?_; rintro e w1 ⟨rfl, hc1⟩; have hb1 : KeepL (b :: S) w ((w1.alloc (.cells #[.int .i64 (k : Nat), .int .u64 G] 34)).drew) := HB.out.trans (KeepL.chg ((hc1.then ((Chg.refl _ _).alloc _)).drew) (fun k hk => Nat.lt_of_lt_of_le (HLT.out k hk) HB.out.size)); have HB1 := Lib.hid hb1; have v0 := (hb1.cell (p := ⟨b, 0, none⟩) (by simp)).trans hV; have v1 := (hb1.cell (p := ⟨g, 2, none⟩) lg).trans c2; have v2 := (hb1.cell (p := ⟨gs, k * 6 + 2, none⟩) lgs).trans a2; have v3 := (hb1.cell (p := ⟨gs, k * 6 + 3, none⟩) lgs).trans a3; have v4 := (hb1.cell (p := ⟨gs, k * 6 + 4, none⟩) lgs).trans a4; have v5 := (hb1.cell (p := ⟨gs, k * 6 + 5, none⟩) lgs).trans a5; have HC1 := Lib.hid hc1; clear hb1 hc1)
        have hJ2 : J (nowL t k) ((w1.alloc (.cells #[.int .i64 (k : Nat), .int .u64 G] 34)).drew) := hJ _ _ _ none HJk.out (grown_of_chg (((HC1.out).then ((Chg.refl _ _).alloc _)).drew)) (fun r e => by cases e)
        obtain ⟨fn, tmps, assign, body, hy, hRo⟩ := hY _ ⟨(k : Nat), G, xb, xp, xa, xm, xc, xn, xl⟩ _ hJ2 hlen
        simp only [Nam.encs, Cx.val] at hy
        have hRo1 := hRo.mono (R' := fun e W' => ∃ bb : Bool, e = .returned (.bool bb) ∧ ((bb = true ∧ J (nowL t k ++ [⟨(k : Nat), G, xb, xp, xa, xm, xc, xn, xl⟩]) W' ∧ KeepL (b :: S) ((w1.alloc (.cells #[.int .i64 (k : Nat), .int .u64 G] 34)).drew) W') ∨ (bb = false ∧ Jx (nowL t k ++ [⟨(k : Nat), G, xb, xp, xa, xm, xc, xn, xl⟩]) W'))) (by
          rintro e W3 (⟨h1, h2, h3⟩ | ⟨h1, h2⟩)
          · exact ⟨true, h1, .inl ⟨rfl, h2, h3⟩⟩
          · exact ⟨false, h1, .inr ⟨rfl, h2⟩⟩)
        clear hRo hJ2
        gi_region_with (refine hRo1.mono ?_; rintro e W3 ⟨bb, rfl, h9⟩; have H9 := Lib.hid h9; clear h9)
        all_goals
          rcases H9.out with ⟨rfl, hJ3, hk3⟩ | ⟨rfl, hJx3⟩
          · have HJ3 := Lib.hid hJ3
            have HK3 := Lib.hid hk3
            clear hJ3 hk3 H9
            gi_wp2
            go_roundw
            case rel => exact ⟨k + 1, by omega, by go_num, HB1.out.trans HK3.out, by have := HK3.out.size; have := HC1.out.size; simp at *; omega, by rw [HS.out]; exact HJ3.out⟩
            case measure => simp [intOfN]; omega
          · have HJ3 := Lib.hid hJx3
            clear hJx3 H9
            gi_wp2
            refine bodyPost_ret (results_none rfl _ _ _) rfl ?_
            exact ⟨⟨_, rfl⟩, .inr ⟨_, by rw [← HS.out]; exact nowL_pre t _ _ (by omega), HJ3.out⟩⟩
      · obtain ⟨q1, q2, q3, _⟩ := live_none hno
        rw [q1, q2, q3] at HA
        have HS := Lib.hid (nowL_no hno)
        clear q1 q2 q3 hno hB hJk
        gi_wp2_with (refine ⟨trivial, ?_⟩; gi_at_call 115; refine (callsIn_wide.2 (HA _ (HTW.out _ HB.out))).mono ?_; rintro e w1 ⟨rfl, hc1⟩; have HC1 := Lib.hid hc1; clear hc1)
        refine wpIn_region_quiet_lit rfl (by kernel_rfl) (by kernel_rfl) ?_
        repeat (refine wpQuietIn_step (by first | (go_simp; done) | (unfold Oper.askedIn; intros; trivial) | (go_simp; intros; trivial)) (fun K hK => ?_); go_simp; refine hK _ ?_; clear hK K)
        refine wpQuietIn_nil ?_
        intro _ hw'
        obtain ⟨nq, hw''⟩ := hw'
        subst hw''
        have hc9 : Chg [] wr ((w1.alloc (.cells #[.int .i64 0, .int .u64 0] 34)).drewN nq) := ((HC1.out).then ((Chg.refl _ _).alloc _)).drewN nq
        have HJ2 := Lib.hid (hJ _ _ _ none HJk.out (grown_of_chg hc9) (fun r e => by cases e))
        have HC9 := Lib.hid hc9
        clear hc9
        gi_wp2
        go_roundw
        case rel => exact ⟨k + 1, by omega, by go_num, HB.out.trans (KeepL.chg HC9.out (fun k hk => Nat.lt_of_lt_of_le (HLT.out k hk) HB.out.size)), by have := HC9.out.size; omega, by rw [HS.out]; exact HJ2.out⟩
        case measure => simp [intOfN]; omega
    · obtain rfl : k = N := by omega
      gi_wp2
      go_end0
      exact ⟨⟨_, rfl⟩, .inl ⟨_, rfl, hJk⟩⟩
end Go.Proofs
end
section
namespace Go.Proofs
open Go.RowKit Go.Shelf
set_option linter.unusedVariables false
attribute [local go_sem] Oper.semAt_some

/-- The maker of the iterator that goes over the table as it is. -/
theorem make_now (n : Nat) (p : Option Addr) (w : World) :
    CallsIn Fence.wide n Tryz.prog 86 #[.pointer p] w fun e w' => e = .returned (.func (.func 114) #[] #[.pointer (some ⟨w.heap.size, 0, none⟩)]) ∧ w' = w.alloc (.cells #[.pointer p] 64) := by
  refine callsIn_of_wp Tryz.func86 rfl trivial ?_ rfl
  simp only [Tryz.ntmps86, List.size_toArray, List.length_cons, List.length_nil, Nat.reduceAdd, Nat.reduceSub, Array.replicate_succ, Array.replicate_zero, List.push_toArray, List.append_toArray, List.nil_append, List.cons_append]
  gi_wp2
  go_ret
  exact ⟨rfl, rfl⟩

theorem now_stops (n : Nat) (hn : 1 ≤ n) (b g N : Nat) (S : List Nat) (t : Tab Cx) (hw : t.WF) (hN : t.size = (N : Nat)) (w : World) (hb : b < w.heap.size) (hV : w.cell? ⟨b, 0, none⟩ = some (.pointer (some ⟨g, 0, none⟩))) (hT : TabAt w g S t) :
    SeqStopsK Fence.wide n Tryz.prog 114 #[.pointer (some ⟨b, 0, none⟩)] Nam.encs (KeepL (b :: S)) (fun ys => ys = nowL t N) (fun pre => pre <+: nowL t N) (N + 1) w := fun l J Jx W hW hJ _ hY h0 =>
  now_in n hn l b g N S t hw hN w hb hV hT J Jx W ⟨hW.size, fun k hk => hW.block k (by
    rcases List.mem_cons.1 hk with rfl | hk
    · exact hb
    · exact hT.lt k hk)⟩ hJ hY h0

theorem Tryz.info_116 : (Tryz.prog.info? 116).map (fun i => (i.zero, i.size, i.bytes)) = some (some (.agg #[.int .i64 0, .int .u64 0, .int .u64 0, .int .u64 0, .slice none 0 0, .int .i64 0]), 6, 64) := by kernel_rfl

/-- A captured box, and the slice of names that it holds; both were made from n0 on. -/
structure Held (n0 : Nat) (W : World) (B : Nat) (xs : List Nam) : Prop where
  ge : n0 ≤ B
  lt : B < W.heap.size
  row : ∃ V, W.cell? ⟨B, 0, none⟩ = some V ∧ Row W 116 6 V xs.length (namCells xs) ∧ (∀ k ∈ foot V, n0 ≤ k ∧ k < W.heap.size)
def Gathered (n0 : Nat) (xs : List Nam) (e : Ending) (W : World) : Prop := ∃ B, e = .returned (.func (.func 87) #[] #[.pointer (some ⟨B, 0, none⟩)]) ∧ Held n0 W B xs

theorem namCells_snoc (l : List Nam) (p : Nam) : namCells (l ++ [p]) = namCells l ++ [.int .i64 p.i, .int .u64 p.q, .int .u64 p.x.b, .int .u64 p.x.p, .slice p.x.a p.x.m p.x.c, .int .i64 p.x.n] := by simp [namCells, Nam.cells]

set_option maxRecDepth 100000 in
set_option maxHeartbeats 3200000 in
/-- **All**: it gathers all that is there, at once. -/
theorem all_in (n : Nat) (hn : 6 ≤ n) (g N : Nat) (S : List Nat) (t : Tab Cx) (hw : t.WF) (hN : t.size = (N : Nat)) (w : World) (hT : TabAt w g S t) :
    CallsIn Fence.wide n Tryz.prog 44 #[.pointer (some ⟨g, 0, none⟩)] w fun e W' => Gathered w.heap.size (nowL t N) e W' ∧ Below w.heap.size w W' := by
  have h1 : 1 ≤ n := by omega
  have hN4 : N ≤ 4096 := by have := hw.s1; omega
  have hlen : ∀ pre : List Nam, pre.length < N + 1 → pre.length ≤ 4096 := fun _ _ => by omega
  refine callsIn_of_wp_marks Tryz.func44 rfl trivial ?_ rfl
  simp only [Tryz.ntmps44, List.size_toArray, List.length_cons, List.length_nil, Nat.reduceAdd, Nat.reduceSub, Array.replicate_succ, Array.replicate_zero, List.push_toArray, List.append_toArray, List.nil_append, List.cons_append]
  gi_wp2_with (refine ⟨trivial, ?_⟩; gi_at_call 86; refine (make_now (n - 1) _ _).mono ?_; rintro e w' ⟨rfl, rfl⟩)
  have bS := (Boxed.new w 114 (.slice none 0 0)).alloc (.cells #[.pointer (some ⟨g, 0, none⟩)] 64)
  have bT := Boxed.new (w.alloc (.cells #[.slice none 0 0] 114)) 64 (.pointer (some ⟨g, 0, none⟩))
  simp only [World.size_alloc] at bT
  have hB0 : Below w.heap.size w ((w.alloc (.cells #[.slice none 0 0] 114)).alloc (.cells #[.pointer (some ⟨g, 0, none⟩)] 64)) := ((Below.refl _ w).alloc (Nat.le_refl _) _).alloc (by simp) _
  have hT0 := (hT.quiet (((Chg.refl [] w).alloc (.cells #[.slice none 0 0] 114)).alloc (.cells #[.pointer (some ⟨g, 0, none⟩)] 64)))
  have hsz : ((w.alloc (.cells #[.slice none 0 0] 114)).alloc (.cells #[.pointer (some ⟨g, 0, none⟩)] 64)).heap.size = w.heap.size + 2 := by simp
  obtain ⟨W0, hW0⟩ : ∃ W0, (w.alloc (.cells #[.slice none 0 0] 114)).alloc (.cells #[.pointer (some ⟨g, 0, none⟩)] 64) = W0 := ⟨_, rfl⟩
  rw [hW0] at bS bT hB0 hsz hT0 ⊢
  clear hW0
  have hL : ∀ k ∈ (w.heap.size + 1) :: S, k < W0.heap.size ∧ k ≠ w.heap.size := fun k hk => by
    rcases List.mem_cons.1 hk with rfl | hk
    · omega
    · have := hT.lt k hk; omega
  obtain ⟨i0, hi0, hz0, hz1, hz2⟩ := info_parts Tryz.info_116
  refine wpIn_rangeFunc_ownH rfl h1 (gf := 114) (lb := #[.pointer (some ⟨w.heap.size + 1, 0, none⟩)]) rfl trivial (enters_of Tryz.func114 (by kernel_rfl) rfl)
    (now_stops (n - 1) (by omega) (w.heap.size + 1) g N S t hw hN W0 (by omega) bT.cell hT0) (fun h k => h.trans k)
    (fun W l o o' hl ho _ _ => ⟨by simp [World.putObj], fun k hk => by have := hL k hk; exact (grownBy_putObj' W l o').block k (by have := (Array.getElem?_eq_some_iff.1 ho).1; omega) (fun e => by cases e; omega)⟩)
    (Below.refl _ _) (fun _ => rfl)
    (fun pre W => ((∃ V, Boxed W w.heap.size 114 V ∧ W.ownsRow w.heap.size 116 6 V pre.length (namCells pre) ∧ True) ∧ Boxed W (w.heap.size + 1) 64 (.pointer (some ⟨g, 0, none⟩))) ∧ Below w.heap.size W0 W)
    (fun _ _ _ => False)
    (OwnFrom.and (OwnFrom.and (Own.from (holdsRow_own w.heap.size w.heap.size 114 116 6 (fun pre : List Nam => pre.length) (fun pre => namCells pre) (fun pre v => True)) _) (Own.from (boxed_own _ _ _) _)) (ownFrom_below (by omega) (by omega)))
    (fun _ _ _ _ _ hs _ _ => hs)
    ⟨⟨⟨_, bS, World.ownsRow_nil _ _ _ _, trivial⟩, bT⟩, Below.refl _ _⟩
    (fun x a' W => ∃ Bx By, w.heap.size + 1 < Bx ∧ w.heap.size + 1 < By ∧ Blk W Bx 34 #[.int .i64 x.i, .int .u64 x.q] ∧ Blk W By 43 #[.int .u64 x.x.b, .int .u64 x.x.p, .slice x.x.a x.x.m x.x.c, .int .i64 x.x.n] ∧ a' = { tmps := #[.pointer (some ⟨g, 0, none⟩), undef, .nilFunc, .pointer (some ⟨w.heap.size, 0, none⟩), .pointer (some ⟨Bx, 0, none⟩), .pointer (some ⟨By, 0, none⟩), .pointer (some ⟨g, 0, none⟩), .func (.func 114) #[] #[.pointer (some ⟨w.heap.size + 1, 0, none⟩)], .agg #[.int .i64 x.i, .int .u64 x.q], x.x.val, undef, undef, undef, undef, undef, undef, undef], defers := [] })
    (fun x a' _ X Y row hs hg hr => by
      obtain ⟨Bx, By, h1, h1', h2, h2', h3⟩ := hs
      have k : ∀ {b : Nat} {t : TypeId} {cs : Array Value}, Blk X b t cs → Blk Y b t cs := fun {b t cs} h2 => h2.same (hg.block b h2.lt (fun e => by
        obtain ⟨_, o, ho, hc⟩ := hr b e.symm
        unfold Blk at h2
        rw [h2] at ho; cases ho; cases hc))
      exact ⟨Bx, By, h1, h1', k h2, k h2', h3⟩)
    ?assign ?body ?done ?stop
  case assign =>
    rintro l pre x W K ⟨⟨⟨V, hV, hr, _⟩, hT9⟩, hB⟩ hK
    have hz := hB.size
    have hzw : w.heap.size ≤ W.heap.size := by omega
    simp only [Nam.encs]
    gi_wp2
    exact hK _ _ (((KeepsOthers.alloc _ _).trans (KeepsOthers.alloc _ _)).from _) (KeepL.chg (((Chg.refl [] W).alloc _).alloc _) (fun k hk => by have := hL k hk; omega)) ⟨⟨⟨V, (hV.alloc _).alloc _, (hr.alloc _).alloc _, trivial⟩, (hT9.alloc _).alloc _⟩, (hB.alloc hzw _).alloc (by simp; omega) _⟩ ⟨W.heap.size, W.heap.size + 1, by omega, by omega, (Blk.new W 34 _).alloc _, Blk.at (W.alloc _) 43 _ (by simp), rfl⟩
  case body =>
    rintro l pre x a' W hl ⟨r, hr⟩ ⟨⟨⟨V, hV, hrow, _⟩, hT9⟩, hB⟩ ⟨Bx, By, hBx, hBy, bX, bY, rfl⟩ hlt
    have hz := hB.size
    have hzw : w.heap.size ≤ W.heap.size := by omega
    have hc := hV.cell
    have hf := hV.frozen
    have x0 := bX.cell 0
    have x1 := bX.cell 1
    have y0 := bY.cell 0
    have y1 := bY.cell 1
    have y2 := bY.cell 2
    have y3 := bY.cell 3
    have ly := bY.lt
    have lx := bX.lt
    have hln := hlen pre hlt
    have hne := hT9.not_row (by decide) hrow
    gi_wp2_with (gi_at_builtin; refine wpListIn_append_own _ rfl _ _ 114 rfl w.heap.size 116 i0 (.agg #[.int .i64 0, .int .u64 0, .int .u64 0, .int .u64 0, .slice none 0 0, .int .i64 0]) 6 64 Tryz.underlying114 hi0 hz0 hz1 hz2 rfl (by decide) _ _ _ rfl (hrow.alloc _) ⟨W.heap.size, 0, none⟩ 1 1 [.int .i64 x.i, .int .u64 x.q, .int .u64 x.x.b, .int .u64 x.x.p, .slice x.x.a x.x.m x.x.c, .int .i64 x.x.n] rfl rfl (World.news_of_block (cs := #[.int .i64 x.i, .int .u64 x.q, .int .u64 x.x.b, .int .u64 x.x.p, .slice x.x.a x.x.m x.x.c, .int .i64 x.x.n]) (t := 116) (fr := (0, 0)) (heap_alloc_new W _)) (by simp [Value.oneCell']) (by unfold maxLen; omega) (by omega) (by simp; omega) ?_; intro v' w1 hown' hgrow _; obtain ⟨g', cap', rfl⟩ := ownsRow_succ hown'; obtain ⟨hv1, hv2, hr2, hk2, hb2⟩ := hV.appended (by decide) hrow hzw (Nat.le_refl _) hown' hgrow; have hc1 := hv1.cell; have hf1 := hv1.frozen; have hT8 := ((hT9.alloc (.cells #[.int .i64 x.i, .int .u64 x.q, .int .u64 x.x.b, .int .u64 x.x.p, .slice x.x.a x.x.m x.x.c, .int .i64 x.x.n] 116)).kept hgrow hne).other (B' := w.heap.size) (by omega) (.slice (some ⟨g', 0, none⟩) (pre.length + 1) cap'))
    refine ⟨hk2.from _, ⟨hb2.size, fun k hk => ?_⟩, ⟨⟨⟨_, hv2, ?_, trivial⟩, hT8⟩, hB.trans hb2⟩⟩
    · rcases List.mem_cons.1 hk with rfl | hk
      · exact hT8.trans hT9.symm
      · exact hb2.block k (hT.lt k hk)
    · rw [namCells_snoc, List.length_append]; exact hr2
  case done =>
    rintro D zs W hD rfl ⟨⟨⟨V, hV, hrow, _⟩, hT9⟩, hB⟩ hK
    have hz := hB.size
    have cS := hV.cell
    gi_wp2
    refine ⟨by simp, .inl ⟨_, _, rfl, run_takeDeferred hK, ?_⟩⟩
    have hgD := grownBy_putObj' W D (.deferred none)
    have hD2 : some w.heap.size ≠ some D := by intro e; cases e; omega
    refine ⟨_, results_tmp rfl _ _ _, ⟨w.heap.size, rfl, Nat.le_refl _, by have := (hV.kept hgD hD2).lt; exact this, V, (hV.kept hgD hD2).cell, Row.of_own (ownsRow_putObj hrow _ hK rfl), fun k hk => ⟨?_, Row.lt (Row.of_own (ownsRow_putObj hrow (.deferred none) hK rfl)) k hk⟩⟩, (hB0.trans hB).trans (belowK_b (w := w) (Nat.le_refl _) W D _ _ (by omega) hK rfl rfl)⟩
    rcases hrow.2 with ⟨rfl, _⟩ | ⟨g', cap, cur, rfl, hb, _, _⟩
    · cases hk
    · simp [foot_some] at hk; subst hk; exact hb
  case stop =>
    rintro D c pre W _ _ h _
    exact h.elim
end Go.Proofs
end
section
namespace Go.Proofs
open Go.RowKit Go.Shelf
set_option linter.unusedVariables false

/-- A captured box, and the slice of names that it holds; both were made from n0 on, and lie below hi. -/
structure HeldTo (n0 hi : Nat) (W : World) (B : Nat) (xs : List Nam) : Prop where
  ge : n0 ≤ B
  lt : B < hi
  top : hi ≤ W.heap.size
  row : ∃ V, W.cell? ⟨B, 0, none⟩ = some V ∧ Row W 116 6 V xs.length (namCells xs) ∧ (∀ k ∈ foot V, n0 ≤ k ∧ k < hi)
theorem Held.to {n0 : Nat} {W : World} {B : Nat} {xs : List Nam} (h : Held n0 W B xs) : HeldTo n0 W.heap.size W B xs := ⟨h.ge, h.lt, Nat.le_refl _, h.row⟩
/-- What changes blocks that lie ahead of it, or behind it, leaves it as it is. -/
theorem HeldTo.chg {n0 hi : Nat} {W W' : World} {B : Nat} {xs : List Nam} {S : List Nat} (h : HeldTo n0 hi W B xs) (hc : Chg S W W') (hS : ∀ k ∈ S, k < n0 ∨ hi ≤ k) : HeldTo n0 hi W' B xs := by
  obtain ⟨h1, h2, h3, V, hV, hR, hf⟩ := h
  refine ⟨h1, h2, Nat.le_trans h3 hc.size, V, ?_, hR.chg hc (fun k hk hm => ?_), hf⟩
  · rw [hc.cell (p := ⟨B, 0, none⟩) (Nat.lt_of_lt_of_le h2 h3) (fun hm => by have := hS _ hm; simp only at this; omega)]
    exact hV
  · have a := hf k hk
    have b := hS k hm
    omega
theorem HeldTo.below {n0 hi D : Nat} {W W' : World} {B : Nat} {xs : List Nam} (h : HeldTo n0 hi W B xs) (hb : Below D W W') (hD : hi ≤ D) : HeldTo n0 hi W' B xs := by
  obtain ⟨h1, h2, h3, V, hV, hR, hf⟩ := h
  exact ⟨h1, h2, Nat.le_trans h3 hb.size, V, (hb.cell (p := ⟨B, 0, none⟩) (Nat.lt_of_lt_of_le h2 hD)).trans hV, hR.same (fun k hk => hb.block k (Nat.lt_of_lt_of_le (hf k hk).2 hD)), hf⟩

theorem HeldTo.keep {n0 hi : Nat} {X : Nat → Prop} {W W' : World} {B : Nat} {xs : List Nam} (h : HeldTo n0 hi W B xs) (hk : KeepP X W W') (hX : ∀ k, n0 ≤ k → k < hi → X k) : HeldTo n0 hi W' B xs := by
  obtain ⟨h1, h2, h3, V, hV, hR, hf⟩ := h
  exact ⟨h1, h2, Nat.le_trans h3 hk.size, V, (hk.cell (p := ⟨B, 0, none⟩) (hX B h1 h2)).trans hV, hR.same (fun k hm => hk.block k (hX k (hf k hm).1 (hf k hm).2)), hf⟩
/-- The iterator that All hands out, for a range over it. -/
theorem over_stops {β : Type} (f : β → Nam) (n : Nat) (hn : 1 ≤ n) {n0 hi B : Nat} {X : Nat → Prop} {xs : List β} {w : World} (h : HeldTo n0 hi w B (xs.map f)) (hX : ∀ k, n0 ≤ k → k < hi → X k) (hXw : ∀ k, X k → k < w.heap.size) (hl : xs.length ≤ 5000) :
    SeqStopsK Fence.wide n Tryz.prog 87 #[.pointer (some ⟨B, 0, none⟩)] (fun x => Nam.encs (f x)) (KeepP X) (fun ys => ys = xs) (fun pre => pre <+: xs) xs.length w := fun l J Jx W hW hJ _ hY h0 => by
  obtain ⟨h1, h2, h3, V, hV, hR, hf⟩ := h
  rw [List.length_map] at hR
  exact over_in f n hn l B X V xs w hXw (hX B h1 h2) hV hR (fun k hk => hX k (hf k hk).1 (hf k hk).2) hl J Jx W (KeepP.below hW hXw) hJ hY h0
end Go.Proofs
end
section
/-! A range over a function whose iterator tells, of each thing that it hands on, what holds of it in the world in which it hands it on. -/
namespace Go
open Go.RowKit
set_option linter.unusedVariables false
section
variable {F : Fence} {n : Nat} {P : Program} {α : Type}
/-- What an iterator does that tells T of each element, where it yields; E: what is no cells from there on, the rounds keep; m: the room that a round has. -/
def SeqTells (F : Fence) (n : Nat) (P : Program) (g : Nat) (lb : Array Value) (encs : α → Array Value) (Kp : World → World → Prop) (T : α → World → Prop) (S Sp : List α → Prop) (N E m : Nat) (w : World) : Prop :=
  ∀ (l : Nat) (J Jx : List α → World → Prop) (W : World), Below w.heap.size w W → E ≤ W.heap.size → OwnFrom W.heap.size J → OwnFrom W.heap.size Jx →
    (∀ pre x W1, J pre W1 → T x W1 → pre.length < N →
      YieldAt F m P l (encs x) W1 fun e W' => KeepsFrom E W1 W' ∧ ((e = .returned (.bool true) ∧ J (pre ++ [x]) W' ∧ Kp W1 W') ∨ (e = .returned (.bool false) ∧ Jx (pre ++ [x]) W'))) →
    J [] W → CallsIn F n P g (#[.func (.yield l) #[] #[]] ++ lb) W fun e W' => (∃ v, e = .returned v) ∧ ((∃ xs, S xs ∧ J xs W') ∨ ∃ pre, Sp pre ∧ Jx pre W')
/-- The two blocks of the statement's own: its record, and where the rounds' deferred calls would stand. -/
def Own2 (b : Nat) (r : Loop) (W : World) : Prop := W.heap[b + 1]? = some (.loop r) ∧ W.heap[b]? = some (.deferred (some []))
section
variable {b : Nat} {r : Loop} {A B : World}
theorem Own2.lt (h : Own2 b r A) : b + 1 < A.heap.size := (Array.getElem?_eq_some_iff.1 h.1).1
theorem Own2.past {row : Option Nat} (h : Own2 b r A) (hg : A.grownBy B row) (hr : ∀ k, row = some k → b + 2 ≤ k) : Own2 b r B :=
  ⟨(hg.block _ h.lt (fun e => by have := hr _ e.symm; omega)).trans h.1, (hg.block _ (by have := h.lt; omega) (fun e => by have := hr _ e.symm; omega)).trans h.2⟩
theorem Own2.kept (h : Own2 b r A) (hk : KeepsFrom b A B) : Own2 b r B := ⟨hk.same _ _ (by omega) h.1 rfl, hk.same _ _ (Nat.le_refl _) h.2 rfl⟩
theorem Own2.turn (h : Own2 b r A) (r' : Loop) : Own2 b r' (A.putObj (b + 1) (.loop r')) := ⟨World.putObj_heap_same h.lt, (World.putObj_heap_other (by omega)).trans h.2⟩
theorem keepsFrom_more {b c : Nat} (h : KeepsFrom b A B) (hbc : b ≤ c) : KeepsFrom c A B := ⟨h.size, fun k o hk => h.same k o (Nat.le_trans hbc hk)⟩
theorem keepsFrom_turn (A : World) (k : Nat) (o : Obj) : KeepsFrom (k + 1) A (A.putObj k o) := ⟨by simp [World.putObj], fun j o' hj hA _ => (World.putObj_heap_other (by omega)).trans hA⟩
theorem Own2.lay (w : World) (r : Loop) : Own2 w.heap.size r ((w.alloc (.deferred (some []))).alloc (.loop r)) := by
  have h := World.alloc_heap_new (w.alloc (.deferred (some []))) (.loop r)
  rw [World.size_alloc] at h
  exact ⟨h, (Below.heap_alloc _ _ _ (by simp)).trans (World.alloc_heap_new w _)⟩
/-- What the record's turn leaves of what abides it. -/
theorem own2_abides {β : Type} {I : β → World → Prop} (hI : OwnFrom b I) {s : β} (h : Own2 b r A) (hs : I s A) (r' : Loop) : I s (A.putObj (b + 1) (.loop r')) := hI.putObj _ hs (by omega) h.1 rfl
/-- The round's end. -/
theorem Own2.ends (h : Own2 b r A) (jump : Option Code) : (Instr.endRound (b + 1) jump).run P A = .ok (.bool jump.isNone) (A.putObj (b + 1) (.loop { r with state := if jump.isNone then .ready else .done, pending := jump })) :=
  run_endRound jump h.1
end
theorem wpIn_rangeFunc_told {g : Operand} {ps : Array Tmp} {assign body : Code} {Q : Exit → Act → World → Prop} {a : Act} {w : World}
    (hro : F.round = none) (h1 : 1 ≤ n) {gf : Nat} {lb : Array Value} (hg : a.eval g = .func (.func gf) #[] lb) (hFg : F.fn gf) (eg : ∀ args w, (callFunc gf args).run P w = .ok (.enter gf args) w)
    {encs : α → Array Value} {Kp : World → World → Prop} {T : α → World → Prop} {S Sp : List α → Prop} {N m : Nat} {w0 : World} (hseq : SeqTells F (n - 1) P gf lb encs Kp T S Sp N (w.heap.size + 2) m w0)
    (hKt : ∀ {A B C : World}, Kp A B → Kp B C → Kp A C) (hKb : ∀ (W : World) (o o' : Obj), W.heap[w.heap.size + 1]? = some o → o.isCells = false → Kp W (W.putObj (w.heap.size + 1) o')) (hb0 : Below w0.heap.size w0 w) (hps : ∀ x, (encs x).size = ps.size)
    (I : List α → World → Prop) (Ix : Code → List α → World → Prop) (hI : OwnFrom w.heap.size I) (hIx : ∀ c, OwnFrom w.heap.size (Ix c)) (h0 : I [] w) (Ax : α → Act → World → Prop) (hAx : ∀ x a', OwnFrom w.heap.size (fun (_ : Unit) W => Ax x a' W))
    (hassign : ∀ (l : Nat) (pre : List α) (x : α) (W : World) (K : Act → World → Prop), I pre W → T x W → (∀ a' W', KeepsFrom w.heap.size W W' → Kp W W' → I pre W' → Ax x a' W' → K a' W') →
      assign.wpIn (F.inRound l) m P (Exit.then K (fun _ _ _ => False)) { tmps := (ps.zip (encs x)).foldl (fun t (p, v) => t.setIfInBounds p v) a.tmps, defers := [] } W)
    (hbody : ∀ (l : Nat) (pre : List α) (x : α) (a' : Act) (W : World), I pre W → Ax x a' W → pre.length < N → body.wpIn (F.inRound l) m P (ownPostG w.heap.size Kp I Ix (pre ++ [x]) W) a' W)
    (hdone : ∀ (D : Nat) (xs : List α) (W : World), w.heap.size ≤ D → S xs → I xs W → W.heap[D]? = some (.deferred (some [])) → Q .normal { a with defers := { target := .collected D, args := #[] } :: a.defers } W)
    (hstop : ∀ (D : Nat) (c : Code) (pre : List α) (W : World), w.heap.size ≤ D → Sp pre → Ix c pre W → W.heap[D]? = some (.deferred (some [])) → c.wpIn F n P Q { a with defers := { target := .collected D, args := #[] } :: a.defers } W) :
    (Code.rangeFunc g ps assign body).wpIn F n P Q a w := by
  refine wpIn_rangeFunc fun fn hfn => ?_
  rw [hro]
  let r0 : Loop := { state := .ready, pending := none, fn, tmps := a.tmps, params := ps, assign, body, defers := w.heap.size }
  let W1 := (w.alloc (.deferred (some []))).alloc (.loop r0)
  have hz1 : W1.heap.size = w.heap.size + 2 := by simp [W1]
  have hI1 : I [] W1 := hI.alloc _ (hI.alloc _ h0)
  have hb1 : Below w0.heap.size w0 W1 := hb0.trans ((((Below.refl _ w).alloc (Nat.le_refl _) _).alloc (by simp) _).mono hb0.size)
  refine ⟨w.heap.size + 1, [{ target := .collected w.heap.size, args := #[] }], W1, { target := .fn (.func gf) lb, args := #[.func (.yield (w.heap.size + 1)) #[] #[]] }, W1, gf,
    #[.func (.yield (w.heap.size + 1)) #[] #[]] ++ lb, W1, run_enterLoop_outer _ _ _ _ _, ?_, ?_, ?_, fun _ => h1, ?_⟩
  · simp only [resolve, hg]
    simp [go_sem]
  · intro f' hf'
    simp [Target.leads] at hf'
    subst hf'; exact hFg
  · simp [invoke, go_sem, eg]
  refine (hseq (w.heap.size + 1) (fun pre W => I pre W ∧ Own2 w.heap.size r0 W) (fun pre W => ∃ c, Ix c pre W ∧ Own2 w.heap.size { r0 with state := .done, pending := some c } W) W1 hb1 (by omega)
    (fun s A B row hs hg' hr => ⟨hI s A B row hs.1 hg' (fun k e => ⟨by have := (hr k e).1; omega, (hr k e).2⟩), hs.2.past hg' (fun k e => by have := (hr k e).1; omega)⟩)
    (fun s A B row hs hg' hr => by
      obtain ⟨c, hc, hl⟩ := hs
      exact ⟨c, hIx c s A B row hc hg' (fun k e => ⟨by have := (hr k e).1; omega, (hr k e).2⟩), hl.past hg' (fun k e => by have := (hr k e).1; omega)⟩) ?_ ⟨hI1, Own2.lay w r0⟩).mono ?_
  · -- a round
    rintro pre x W ⟨hi, hl⟩ hT hlen
    refine ⟨fn, _, assign, body, run_yield hl.1 (hps x), roundIn_of_wpIn hfn (hassign _ pre x W _ hi hT fun a' Wa hka hpa hia hax => ?_)⟩
    have hla := hl.kept hka
    refine ⟨_, run_beginRound hla.1 rfl, ?_⟩
    have hlb := hla.turn { r0 with state := .busy }
    have hpb : Kp Wa (Wa.putObj (w.heap.size + 1) (.loop { r0 with state := .busy })) := hKb _ _ _ hla.1 rfl
    refine wpIn_mono (hbody _ pre x a' _ (own2_abides hI hla hia _) (own2_abides (hAx x a') (s := ()) hla hax _) hlen) ?_
    have hbeg : KeepsFrom (w.heap.size + 2) W (Wa.putObj (w.heap.size + 1) (.loop { r0 with state := .busy })) := (keepsFrom_more hka (by omega)).trans (keepsFrom_turn _ _ _)
    have left : ∀ (c : Code) (W3 : World), KeepsFrom w.heap.size (Wa.putObj (w.heap.size + 1) (.loop { r0 with state := .busy })) W3 → Ix c (pre ++ [x]) W3 →
        ∃ v w', (Instr.endRound (w.heap.size + 1) (some c)).run P W3 = .ok v w' ∧ KeepsFrom (w.heap.size + 2) W w' ∧ ((Ending.returned v = .returned (.bool true) ∧ (I (pre ++ [x]) w' ∧ Own2 w.heap.size r0 w') ∧ Kp W w') ∨ (Ending.returned v = .returned (.bool false) ∧ ∃ c, Ix c (pre ++ [x]) w' ∧ Own2 w.heap.size { r0 with state := .done, pending := some c } w')) := fun c W3 hk hi => by
      have h3 := hlb.kept hk
      exact ⟨_, _, h3.ends (some c), hbeg.trans ((keepsFrom_more hk (by omega)).trans (keepsFrom_turn _ _ _)), .inr ⟨rfl, c, own2_abides (hIx c) h3 hi _, h3.turn _⟩⟩
    rintro e a3 W3 hp
    cases e with
    | normal =>
      obtain ⟨hk, hkp, hi3⟩ := hp
      have h3 := hlb.kept hk
      exact ⟨_, _, h3.ends none, hbeg.trans ((keepsFrom_more hk (by omega)).trans (keepsFrom_turn _ _ _)), .inl ⟨rfl, ⟨own2_abides hI h3 hi3 _, h3.turn _⟩, hKt hpa (hKt hpb (hKt hkp (hKb _ _ _ h3.1 rfl)))⟩⟩
    | ret => exact left _ _ hp.1 hp.2
    | exit id => exact left _ _ hp.1 hp.2
    | goto t => exact left _ _ hp.1 hp.2
    | panic ch => exact hp.elim
    | outgrown => exact hp.elim
  · -- behind all rounds
    rintro e W2 ⟨⟨v, rfl⟩, (⟨xs, hS, hi, hl⟩ | ⟨pre, hSp, c, hi, hl⟩)⟩
    · exact ⟨none, _, run_endLoop hl.1 (by simp [r0]), hdone _ xs _ (Nat.le_refl _) hS (own2_abides hI hl hi _) ((World.putObj_heap_other (by omega)).trans hl.2)⟩
    · exact ⟨some c, _, run_endLoop hl.1 (by simp), hstop _ c pre _ (Nat.le_refl _) hSp (own2_abides (hIx c) hl hi _) ((World.putObj_heap_other (by omega)).trans hl.2)⟩
end
end Go
end
section
namespace Go
open Go.RowKit
set_option linter.unusedVariables false

def noDefer (o : Oper) : Bool := match o.op with | .defer _ => false | _ => true
theorem noDefer_ne {o : Oper} (h : noDefer o = true) : ∀ c, o.op ≠ .defer c := fun c e => by
  unfold noDefer at h
  rw [e] at h
  cases h
section
variable {F : Fence} {n : Nat} {P : Program} {ops : Array Oper} {Q : Exit → Act → World → Prop}
/-- An operation that defers nothing goes in a round as anywhere. -/
theorem Oper.wpIn_round (l : Nat) (hro : F.round = none) {o : Oper} (hd : noDefer o = true) {a : Act} {w : World} {K K' : Act → World → Prop} (hK : ∀ a w, K a w → K' a w) (h : o.wpIn F n P a w K Q) : o.wpIn (F.inRound l) n P a w K' Q := by
  have h := Oper.wpIn_mono hK h
  unfold Oper.wpIn at *
  refine ⟨h.1, ?_⟩
  have h2 := h.2
  rw [hro, Oper.semAt_eq _ _ _ (noDefer_ne hd)] at h2
  rw [Oper.semAt_eq _ _ _ (noDefer_ne hd)]
  generalize (execOp a.eval o).run P w = r at *
  cases r with
  | ok x w' => cases x <;> exact h2
  | halt x w' => cases x <;> exact h2
theorem wpAnyIn_round (l : Nat) (hro : F.round = none) {md : Region.Mode} (hd : ∀ (i : Nat) (o : Oper), ops[i]? = some o → noDefer o = true) : ∀ (fuel : Nat) (listed : Array Bool) (a : Act) (w : World), wpAnyIn F n P md ops Q fuel listed a w → wpAnyIn (F.inRound l) n P md ops Q fuel listed a w := by
  intro fuel
  induction fuel with
  | zero => intro listed a w h; exact h
  | succ fuel ih =>
    intro listed a w h
    refine ⟨h.1, fun i hi => ?_⟩
    have h2 := h.2 i hi
    unfold wpOpIn at *
    split
    · rename_i ho
      simp only [ho] at h2
      exact ih _ _ _ h2
    · rename_i o ho
      simp only [ho] at h2
      split
      · rename_i hw
        simp only [hw, if_true] at h2
        exact Oper.wpIn_round l hro (hd i o ho) (fun a w h => ih _ a w h) h2
      · rename_i hw
        simp only [hw] at h2
        exact ⟨h2.1, ih _ _ _ h2.2⟩
/-- A region that draws its order, in a round: as anywhere. -/
theorem wpIn_region_round {id : Nat} {a : Act} {w : World} {L : List Oper} (l : Nat) (hro : F.round = none) (hd : L.all noDefer = true) (hm : P.follows .mixedOrders = true)
    (h : wpAnyIn F n P .any L.toArray Q L.toArray.size (Array.replicate L.toArray.size false) a w.drew) : (Code.region id L.toArray true).wpIn (F.inRound l) n P Q a w := by
  refine wpIn_region_any hm (wpAnyIn_round l hro (fun i o ho => ?_) _ _ _ _ h)
  exact List.all_eq_true.1 hd o (List.mem_of_getElem? (by simpa using ho))
/-- A region that draws its order, and only reads, in a round. -/
theorem wpIn_region_quiet_round {id : Nat} {a : Act} {w : World} {L : List Oper} (l : Nat) (hro : F.round = none) (hd : L.all noDefer = true) (hm : P.follows .mixedOrders = true) (hB : Region.lexB .any L.toArray = true)
    (h : wpQuietIn F n P L.toArray (fun w' => ∃ n, w' = w.drewN n) (fun a' => ∀ w', (∃ n, w' = w.drewN n) → Q .normal a' w') L a) : (Code.region id L.toArray true).wpIn (F.inRound l) n P Q a w := by
  simp only [Region.lexB, Bool.and_eq_true] at hB
  refine wpIn_region_any hm (wpAnyIn_round l hro (fun i o ho => ?_) _ _ _ _ (wpAnyIn_of_quiet (C := fun w' => ∃ n, w' = w.drewN n) (Q := fun a' => ∀ w', (∃ n, w' = w.drewN n) → Q .normal a' w') hro (fun _ w' hw' h => h w' hw') _ _ _ _ ⟨1, rfl⟩ ?_))
  · exact List.all_eq_true.1 hd o (List.mem_of_getElem? (by simpa using ho))
  · have := wpAnyQIn_lex (F := F) (n := n) (C := fun w' => ∃ n, w' = w.drewN n) (md := .any) hB.1 L 0 (Array.replicate L.toArray.size false) a (by simp) (by simpa using hB.2) h
    simpa using this
end
theorem KeepsOthers.drewN (W : World) (n : Nat) : KeepsOthers W (W.drewN n) := ⟨Nat.le_refl _, fun _ _ h _ => h⟩
theorem KeepsOthers.of_chg {A B : World} (h : Go.Proofs.Chg [] A B) : KeepsOthers A B := ⟨h.size, fun k o hk _ => (h.block k (Array.getElem?_eq_some_iff.1 hk).1 (by simp)).trans hk⟩
end Go
namespace Go.Proofs
open Go.RowKit Go.Shelf
set_option linter.unusedVariables false
attribute [local go_sem] Oper.semAt_some

theorem mem_nowL {t : Tab Cx} {k : Nat} {p : Nam} : p ∈ nowL t k ↔ ∃ (i : Nat) (s : Spot Cx), i < k ∧ t.live (i : Nat) = some s ∧ p = ⟨(i : Nat), s.gen, s.thing⟩ := by
  unfold nowL
  simp only [List.mem_filterMap, List.mem_range, Option.map_eq_some_iff]
  constructor
  · rintro ⟨i, hi, s, hs, rfl⟩; exact ⟨i, s, hi, hs, rfl⟩
  · rintro ⟨i, s, hi, hs, rfl⟩; exact ⟨i, hi, s, hs, rfl⟩
/-- What the iterator of contexts goes over: its box holds the iterator of what was gathered; all of it, and the lists of refills, are among X. -/
structure Over (X : Nat → Prop) (W : World) (BB : Nat) (xs : List Nam) : Prop where
  box : ∃ B n0 hi, Blk W BB 39 #[.func (.func 87) #[] #[.pointer (some ⟨B, 0, none⟩)]] ∧ X BB ∧ HeldTo n0 hi W B xs ∧ ∀ k, n0 ≤ k → k < hi → X k
  len : xs.length ≤ 5000
  lists : ∀ p ∈ xs, Rd W p.x.v p.x.l ∧ (∀ k ∈ foot p.x.v, X k) ∧ p.x.l.length ≤ 100000
  top : ∀ k, X k → k < W.heap.size
theorem Rd.keepP {X : Nat → Prop} {A B : World} {v : Value} {l : List Rf} (h : Rd A v l) (hb : KeepP X A B) (hf : ∀ k ∈ foot v, X k) : Rd B v l := Rs.same h (fun k hk => hb.block k (hf k hk))
theorem Over.keep {X : Nat → Prop} {A B : World} {BB : Nat} {xs : List Nam} (h : Over X A BB xs) (hb : KeepP X A B) : Over X B BB xs := by
  obtain ⟨⟨B', n0, hi, h1, h2, h3, h4⟩, h5, h6, h7⟩ := h
  exact ⟨⟨B', n0, hi, h1.same (hb.block _ h2), h2, h3.keep hb h4, h4⟩, h5, fun p hp => ⟨(h6 p hp).1.keepP hb (h6 p hp).2.1, (h6 p hp).2⟩, fun k hk => Nat.lt_of_lt_of_le (h7 k hk) hb.size⟩
/-- All: the iterator of contexts; X: any blocks that hold what it gathered, and the lists. -/
theorem All_any {w : World} {c N : Nat} {S : List Nat} {t : Tab Cx} {most : Int} (h : CtxAt w c S t most) (hN : t.size = (N : Nat)) (hl : ∀ (k : Nat) (s : Spot Cx), t.spots[k]? = some s → s.there = true → s.thing.l.length ≤ 100000) :
    Calls Tryz.prog 14 #[ptr c] w fun e w' => ∃ BB, e = .returned (.func (.func 45) #[] #[ptr BB]) ∧ Below w.heap.size w w' ∧
      ∀ X : Nat → Prop, (∀ k, w.heap.size ≤ k → k < w'.heap.size → X k) → (∀ (k : Nat) (s : Spot Cx), t.spots[k]? = some s → s.there = true → ∀ j ∈ foot s.thing.v, X j) → (∀ k, X k → k < w'.heap.size) → Over X w' BB (nowL t N) := by
  obtain ⟨g, hB, hT, hG, hW⟩ := id h
  have HP := Lib.hid (places_any hB)
  have HA := Lib.hid ((callsIn_wide (n := 8)).1 (all_in 8 (by omega) g N S t hW hN w hT))
  have HF : Hid (∀ w' B, Held w.heap.size w' B (nowL t N) → Below w.heap.size w w' → ∀ X : Nat → Prop, (∀ k, w.heap.size ≤ k → k < w'.heap.size + 1 → X k) → (∀ (k : Nat) (s : Spot Cx), t.spots[k]? = some s → s.there = true → ∀ j ∈ foot s.thing.v, X j) → (∀ k, X k → k < w'.heap.size + 1) → Over X (w'.alloc (.cells #[.func (.func 87) #[] #[.pointer (some ⟨B, 0, none⟩)]] 39)) w'.heap.size (nowL t N)) := Lib.hid fun w' B hH hb X hX hXl hXw => by
    have hs1 := hW.s1
    have hln := nowL_len t N
    have z := hb.size
    refine ⟨⟨B, w.heap.size, w'.heap.size, Blk.new w' 39 _, hX _ z (by omega), hH.to.chg ((Chg.refl [] w').alloc _) (fun _ h => by cases h), fun k h1 h2 => hX k h1 (by omega)⟩, by omega, fun p hp => ?_, by simpa using hXw⟩
    obtain ⟨i, s, hi, hs, rfl⟩ := mem_nowL.1 hp
    obtain ⟨q1, q2⟩ := live_nat.1 hs
    have hrd := hG i s q1
    have hlt := hrd.lt
    exact ⟨(Rs.same hrd (fun k hk => hb.block k (hlt k hk)) : Rd w' _ _).quiet ((Chg.refl _ _).alloc _), hXl i s q1 q2, hl i s q1 q2⟩
  clear h hB hT hG hW hl hN
  go_enter Tryz.func14, Tryz.ntmps14
  go_wp2_with (first
    | (go_at_call 43; refine HP.out.mono ?_; rintro e w' ⟨rfl, rfl⟩)
    | (go_at_call 44; refine HA.out.mono ?_; rintro e w1 ⟨⟨B, rfl, hH⟩, hb⟩; have HH := Lib.hid hH; have HB := Lib.hid hb; clear hH hb))
  go_ret
  have hz : (w1.alloc (.cells #[.func (.func 87) #[] #[.pointer (some ⟨B, 0, none⟩)]] 39)).heap.size = w1.heap.size + 1 := by simp
  exact ⟨_, rfl, HB.out.alloc HB.out.size _, fun X h1 h2 h3 => HF.out _ _ HH.out HB.out X (by rw [hz] at h1; exact h1) h2 (by rw [hz] at h3; exact h3)⟩
end Go.Proofs
end
section
namespace Go.Proofs
open Go.RowKit Go.Shelf
set_option linter.unusedVariables false
set_option linter.unusedSimpArgs false
attribute [local go_sem] Oper.semAt_some

/-- A name as it is told: without where its refills lie. -/
def Nam.strip (p : Nam) : Nam := ⟨p.i, p.q, p.x.b, p.x.p, none, 0, 0, p.x.n, p.x.l⟩
/-- Its refills are the caller's own, and new from D on; it is one of xs. -/
def FreshN (D : Nat) (xs : List Nam) (x : Nam) (W : World) : Prop := Ro W x.x.v x.x.l ∧ (∀ k ∈ foot x.x.v, D ≤ k) ∧ x.x.l.length ≤ 100000 ∧ ∃ p ∈ xs, x.strip = p.strip
abbrev Mem (xs : List Nam) := {p : Nam // p ∈ xs}
theorem att_map (xs : List Nam) : xs.attach.map (fun p : Mem xs => p.1) = xs := List.attach_map_subtype_val xs
def stripM {xs : List Nam} (pre : List (Mem xs)) : List Nam := pre.map fun p : Mem xs => p.1.strip
theorem stripM_snoc {xs : List Nam} (pre : List (Mem xs)) (x : Mem xs) : stripM (pre ++ [x]) = stripM pre ++ [x.1.strip] := by unfold stripM; rw [List.map_append]; rfl
theorem stripM_len {xs : List Nam} (pre : List (Mem xs)) : (stripM pre).length = pre.length := by unfold stripM; simp
theorem att_strip (xs : List Nam) : stripM xs.attach = xs.map Nam.strip := by
  unfold stripM
  rw [show (fun p : Mem xs => p.1.strip) = Nam.strip ∘ Subtype.val from rfl, ← List.map_map, List.attach_map_subtype_val]
theorem pre_strip {xs : List Nam} {pre : List (Mem xs)} (h : pre <+: xs.attach) : stripM pre <+: xs.map Nam.strip := by
  rw [← att_strip xs]; exact h.map _
/-- What lies in X, and each box that holds a yield, lies as it lay. -/
def Kp85 (X : Nat → Prop) (A B : World) : Prop := KeepP X A B ∧ ∀ (k : Nat) (cs : Array Value), Blk A k 85 cs → Blk B k 85 cs
theorem Kp85.trans {X : Nat → Prop} {A B C : World} (h : Kp85 X A B) (k : Kp85 X B C) : Kp85 X A C := ⟨h.1.trans k.1, fun j cs hj => k.2 j cs (h.2 j cs hj)⟩
theorem Kp85.chg {X : Nat → Prop} {A B : World} {S : List Nat} (hc : Chg S A B) (hX : ∀ k, X k → k < A.heap.size) (hS : ∀ k ∈ S, ¬ X k ∧ ∀ cs, ¬ Blk A k 85 cs) : Kp85 X A B :=
  ⟨KeepP.chg hc hX (fun k hk => (hS k hk).1), fun k cs hk => hk.chg hc (fun hm => (hS k hm).2 cs hk)⟩
theorem Kp85.quiet {X : Nat → Prop} {A B : World} (hc : Chg [] A B) (hX : ∀ k, X k → k < A.heap.size) : Kp85 X A B := Kp85.chg hc hX (fun _ h => by cases h)
theorem Kp85.turn {X : Nat → Prop} (W : World) {k : Nat} {o o' : Obj} (hk : W.heap[k]? = some o) (ho : o.isCells = false) (hX : ¬ X k) : Kp85 X W (W.putObj k o') :=
  ⟨⟨by simp [World.putObj], fun j hj => World.putObj_heap_other (fun e => hX (by subst e; exact hj))⟩, fun j cs hj => hj.same (World.putObj_heap_other (fun e => by
    subst e
    unfold Blk at hj
    rw [hk] at hj; cases hj; cases ho))⟩
/-- In the midst of the rounds. -/
def Mid45 {xs : List Nam} (X : Nat → Prop) (l b : Nat) (W0 : World) (J : List Nam → World → Prop) (pre : List (Mem xs)) (W : World) : Prop :=
  ∃ ys : List Nam, ys.map Nam.strip = stripM pre ∧ J ys W ∧ KeepP X W0 W ∧ Blk W b 85 #[.func (.yield l) #[] #[]]
theorem Mid45.own {xs : List Nam} {X : Nat → Prop} {l b C : Nat} {W0 : World} {J : List Nam → World → Prop} (hJ : OwnFrom C J) (hC : ∀ k, X k → k < C) (hD0 : ∀ k, X k → k < W0.heap.size) : OwnFrom C (Mid45 (xs := xs) X l b W0 J) := by
  rintro pre A B row ⟨ys, h1, h2, h3, h4⟩ hg hr
  refine ⟨ys, h1, hJ _ _ _ _ h2 hg hr, h3.trans (KeepP.grown hg (fun k hk => Nat.lt_of_lt_of_le (hD0 k hk) h3.size) (fun k e hk => by have := hC k hk; have := (hr k e).1; omega)), h4.same (hg.block b h4.lt (fun e => ?_))⟩
  obtain ⟨_, o, ho, hc⟩ := hr b e.symm
  unfold Blk at h4
  rw [h4] at ho; cases ho; cases hc
set_option maxRecDepth 100000 in
set_option maxHeartbeats 6400000 in
theorem over_tells (n : Nat) (hn : 4 ≤ n) {D BB E : Nat} {X : Nat → Prop} {xs : List Nam} {w : World} (H : Over X w BB xs) (hXD : ∀ k, X k → k < D) (hDw : D ≤ w.heap.size) :
    SeqTells Fence.wide n Tryz.prog 45 #[.pointer (some ⟨BB, 0, none⟩)] Nam.encs (Kp85 X) (FreshN D xs) (fun ys => ys.map Nam.strip = xs.map Nam.strip) (fun pre => pre.map Nam.strip <+: xs.map Nam.strip) xs.length E (n - 1 - 1 - 1) w := by
  intro l J Jx W hW hE hJ hJx hY h0
  have hO := H.keep (KeepP.below hW H.top)
  have hDW : D ≤ W.heap.size := Nat.le_trans hDw hW.size
  clear hW hDw
  have hO1 := hO.keep (KeepP.quiet ((Chg.refl [] W).alloc (.cells #[.func (.yield l) #[] #[]] 85)) hO.top)
  obtain ⟨⟨B, n0, hi, hb, hBB, hH, hhi⟩, hlen, hls, htop⟩ := hO1
  have c39 : W.cell? ⟨BB, 0, none⟩ = some (.func (.func 87) #[] #[.pointer (some ⟨B, 0, none⟩)]) := by
    have := hb.cell 0
    rw [World.cell?_alloc_lt W _ _ (hO.top _ hBB)] at this
    exact this
  have lBB : BB < W.heap.size := hO.top _ hBB
  have hJ0 : J [] (W.alloc (.cells #[.func (.yield l) #[] #[]] 85)) := hJ _ _ _ none h0 (World.grownBy_alloc W _ none) (fun r e => by cases e)
  have hbx : Blk (W.alloc (.cells #[.func (.yield l) #[] #[]] 85)) W.heap.size 85 #[.func (.yield l) #[] #[]] := Blk.new W 85 _
  have hz0 : (W.alloc (.cells #[.func (.yield l) #[] #[]] 85)).heap.size = W.heap.size + 1 := by simp
  refine callsIn_of_wp_marks Tryz.func45 rfl trivial ?_ rfl
  simp only [Tryz.ntmps45, List.size_toArray, List.length_cons, List.length_nil, Nat.reduceAdd, Nat.reduceSub, Array.replicate_succ, Array.replicate_zero, List.push_toArray, List.append_toArray, List.nil_append, List.cons_append]
  gi_wp2
  obtain ⟨W0, hW0⟩ : ∃ W0, W.alloc (.cells #[.func (.yield l) #[] #[]] 85) = W0 := ⟨_, rfl⟩
  rw [hW0] at hb hH hls htop hJ0 hbx hz0 ⊢
  clear hW0 H hO hb c39 lBB
  have HLS := Lib.hid hls
  have HYY := Lib.hid hY
  have HJJ := Lib.hid hJ
  have HJX := Lib.hid hJx
  clear hls hY
  have HZ0 := Lib.hid hz0
  have lz : W.heap.size < W0.heap.size := by omega
  clear hz0
  have hH' : HeldTo n0 hi W0 B (xs.attach.map (fun p : Mem xs => p.1)) := by rw [att_map]; exact hH
  refine wpIn_rangeFunc_ownH rfl (by omega) (gf := 87) (lb := #[.pointer (some ⟨B, 0, none⟩)]) rfl trivial (enters_of Tryz.func87 (by kernel_rfl) rfl)
    (over_stops (fun p : Mem xs => p.1) (n - 1) (by omega) hH' hhi htop (by rw [List.length_attach]; exact hlen)) (fun h k => h.trans k)
    (fun W l o o' hl ho _ _ => ⟨by simp [World.putObj], fun k hk => World.putObj_heap_other (fun e => by have := hXD k hk; omega)⟩)
    (Below.refl _ _) (fun _ => rfl)
    (Mid45 X l W.heap.size W0 J)
    (fun c pre W => c = .ret ∧ ∃ ys : List Nam, ys.map Nam.strip = stripM pre ∧ Jx ys W)
    (Mid45.own (fun s A B row hs hg hr => hJ s A B row hs hg (fun k e => ⟨by have := (hr k e).1; omega, (hr k e).2⟩)) htop htop)
    (fun c pre A B row hs hg hr => by
      obtain ⟨h1, ys, h2, h3⟩ := hs
      exact ⟨h1, ys, h2, hJx _ _ _ _ h3 hg (fun k e => ⟨by have := (hr k e).1; omega, (hr k e).2⟩)⟩)
    ⟨[], rfl, hJ0, KeepP.refl _ _, hbx⟩
    (fun x a' V => ∃ Bx By, W.heap.size < Bx ∧ W.heap.size < By ∧ Blk V Bx 34 #[.int .i64 x.1.i, .int .u64 x.1.q] ∧ Blk V By 43 #[.int .u64 x.1.x.b, .int .u64 x.1.x.p, .slice x.1.x.a x.1.x.m x.1.x.c, .int .i64 x.1.x.n] ∧ a' = { tmps := #[.func (.yield l) #[] #[], .pointer (some ⟨BB, 0, none⟩), .pointer (some ⟨W.heap.size, 0, none⟩), .pointer (some ⟨Bx, 0, none⟩), .pointer (some ⟨By, 0, none⟩), .func (.func 87) #[] #[.pointer (some ⟨B, 0, none⟩)], .agg #[.int .i64 x.1.i, .int .u64 x.1.q], x.1.x.val, undef, undef, undef, undef, undef, undef], defers := [] })
    (fun x a' _ X Y row hs hg hr => by
      obtain ⟨Bx, By, h1, h1', h2, h2', h3⟩ := hs
      have k : ∀ {b : Nat} {t : TypeId} {cs : Array Value}, Blk X b t cs → Blk Y b t cs := fun {b t cs} h2 => h2.same (hg.block b h2.lt (fun e => by
        obtain ⟨_, o, ho, hc⟩ := hr b e.symm
        unfold Blk at h2
        rw [h2] at ho; cases ho; cases hc))
      exact ⟨Bx, By, h1, h1', k h2, k h2', h3⟩)
    ?assign ?body ?done ?stop
  case assign =>
    rintro l' pre x W' K ⟨ys, h1, h2, h3, h4⟩ hK
    have hz := h3.size
    simp only [Nam.encs]
    gi_wp2
    have hg : W'.grownBy ((W'.alloc (.cells #[.int .i64 x.1.i, .int .u64 x.1.q] 34)).alloc (.cells #[.int .u64 x.1.x.b, .int .u64 x.1.x.p, .slice x.1.x.a x.1.x.m x.1.x.c, .int .i64 x.1.x.n] 43)) none := grown_of_chg (((Chg.refl [] W').alloc _).alloc _)
    exact hK _ _ (((KeepsOthers.alloc _ _).trans (KeepsOthers.alloc _ _)).from _) (KeepP.quiet (((Chg.refl [] W').alloc _).alloc _) (fun k hk => by have := hXD k hk; omega))
      ⟨ys, h1, HJJ.out _ _ _ none h2 hg (fun r e => by cases e), h3.trans (KeepP.quiet (((Chg.refl [] W').alloc _).alloc _) (fun k hk => by have := hXD k hk; omega)), (h4.alloc _).alloc _⟩
      ⟨W'.heap.size, W'.heap.size + 1, by have := h4.lt; omega, by have := h4.lt; omega, (Blk.new W' 34 _).alloc _, Blk.at (W'.alloc _) 43 _ (by simp), rfl⟩
  case body =>
    rintro l' pre x a' W' hl' ⟨r', hr'⟩ ⟨ys, h1, h2, h3, h4⟩ ⟨Bx, By, hBx, hBy, bX, bY, rfl⟩ hlt
    obtain ⟨hrd, hft, hll⟩ := HLS.out x.1 x.2
    have hrd' := hrd.keepP h3 hft
    have hz := h3.size
    have HAP := Lib.hid (apart_any (w := W'.drew) (x := x.1.x) (hrd'.quiet ((Chg.refl [] W').drew)) hll)
    have hpl : ys.length = pre.length := by have := congrArg List.length h1; rwa [List.length_map, stripM_len] at this
    rw [List.length_attach] at hlt
    have HST : Hid (∀ w2 A cc, Own W'.drew w2 (.slice A x.1.x.l.length cc) x.1.x.l → YieldAt Fence.wide (n - 1 - 1 - 1) Tryz.prog l #[.agg #[.int .i64 x.1.i, .int .u64 x.1.q], .agg #[.int .u64 x.1.x.b, .int .u64 x.1.x.p, .slice A x.1.x.l.length cc, .int .i64 x.1.x.n]] w2 fun e W4 => ∃ v : Bool, e = .returned (.bool v) ∧ KeepsFrom W0.heap.size W' W4 ∧
        ((v = true ∧ KeepP X W' W4 ∧ Mid45 X l W.heap.size W0 J (pre ++ [x]) W4) ∨ (v = false ∧ ∃ ys : List Nam, ys.map Nam.strip = stripM (pre ++ [x]) ∧ Jx ys W4))) := Lib.hid (fun w2 A cc ho => by
      have hc : Chg [] W' w2 := ((Chg.refl [] W').drew).then ho.2.2
      have hJ2 : J ys w2 := HJJ.out _ _ _ none h2 (grown_of_chg hc) (fun r e => by cases e)
      have hT : FreshN D xs ⟨x.1.i, x.1.q, x.1.x.b, x.1.x.p, A, x.1.x.l.length, cc, x.1.x.n, x.1.x.l⟩ w2 := ⟨ho.1, fun k hk => by have := ho.2.1 k hk; have e : W'.drew.heap.size = W'.heap.size := rfl; omega, hll, x.1, x.2, rfl⟩
      have hkw : KeepsFrom W0.heap.size W' w2 := (KeepsOthers.of_chg hc).from _
      have hbw : KeepP X W' w2 := KeepP.quiet hc (fun k hk => by have := hXD k hk; omega)
      have hs : (ys ++ [(⟨x.1.i, x.1.q, x.1.x.b, x.1.x.p, A, x.1.x.l.length, cc, x.1.x.n, x.1.x.l⟩ : Nam)]).map Nam.strip = stripM (pre ++ [x]) := by
        rw [List.map_append, stripM_snoc, h1]; rfl
      refine (HYY.out ys ⟨x.1.i, x.1.q, x.1.x.b, x.1.x.p, A, x.1.x.l.length, cc, x.1.x.n, x.1.x.l⟩ w2 hJ2 hT (by omega)).mono ?_
      rintro e W4 ⟨hk, (⟨rfl, hj, hb⟩ | ⟨rfl, hj⟩)⟩
      · have hb4 : KeepP X W' W4 := hbw.trans hb.1
        exact ⟨true, rfl, hkw.trans (keepsFrom_more hk (by omega)), .inl ⟨rfl, hb4, _, hs, hj, h3.trans hb4, hb.2 _ _ (h4.chg hc (by simp))⟩⟩
      · exact ⟨false, rfl, hkw.trans (keepsFrom_more hk (by omega)), .inr ⟨rfl, _, hs, hj⟩⟩)
    have v85 : W'.drew.cell? ⟨W.heap.size, 0, none⟩ = some (.func (.yield l) #[] #[]) := by simpa using h4.cell 0
    have v0 : W'.drew.cell? ⟨Bx, 0, none⟩ = some (.int .i64 x.1.i) := by simpa using bX.cell 0
    have v1 : W'.drew.cell? ⟨Bx, 1, none⟩ = some (.int .u64 x.1.q) := by simpa using bX.cell 1
    have y0 : W'.drew.cell? ⟨By, 0, none⟩ = some (.int .u64 x.1.x.b) := by simpa using bY.cell 0
    have y1 : W'.drew.cell? ⟨By, 1, none⟩ = some (.int .u64 x.1.x.p) := by simpa using bY.cell 1
    have y2 : W'.drew.cell? ⟨By, 2, none⟩ = some (.slice x.1.x.a x.1.x.m x.1.x.c) := by simpa using bY.cell 2
    have y3 : W'.drew.cell? ⟨By, 3, none⟩ = some (.int .i64 x.1.x.n) := by simpa using bY.cell 3
    clear hr' hrd hft hll hrd' hlt hpl bY h1 h2 h3 hz
    gi_wp2
    refine wpIn_region_round (F := Fence.wide) l' rfl (by rfl) (by kernel_rfl) ?_
    show wpAnyIn _ _ _ _ _ _ 6 #[false, false, false, false, false, false] _ _
    refine wpAnyIn_ready (rs := [0, 1, 2]) (by kernel_rfl) (by simp) ?_
    refine AllReadyIn.cons rfl (fun K hK => ?_) (AllReadyIn.cons rfl (fun K hK => ?_) (AllReadyIn.cons rfl (fun K hK => ?_) AllReadyIn.nil))
    · go_simp
      refine hK _ _ ?_
      clear hK K
      refine wpAnyIn_ready (rs := [1, 2]) (by kernel_rfl) (by simp) ?_
      refine AllReadyIn.cons rfl (fun K hK => ?_) (AllReadyIn.cons rfl (fun K hK => ?_) AllReadyIn.nil)
      · go_simp
        refine hK _ _ ?_
        clear hK K
        refine wpAnyIn_ready (rs := [2]) (by kernel_rfl) (by simp) ?_
        refine AllReadyIn.cons rfl (fun K hK => ?_) AllReadyIn.nil
        go_simp
        refine hK _ _ ?_
        clear hK K
        refine wpAnyIn_ready (rs := [3]) (by kernel_rfl) (by simp) ?_
        refine AllReadyIn.cons rfl (fun K hK => ?_) AllReadyIn.nil
        go_simp
        (refine ⟨trivial, (fun h => by cases h), ?_⟩; refine (callsIn_wide.2 HAP.out).mono ?_; rintro e w2 ⟨A, cc, rfl, ho⟩; have hcq := ((Chg.refl [] W').drew).then ho.2.2; have u85 := (h4.chg hcq (by simp)).cell 0; have u0 := (bX.chg hcq (by simp)).cell 0; have u1 := (bX.chg hcq (by simp)).cell 1; simp only [List.getElem?_toArray, List.getElem?_cons_succ, List.getElem?_cons_zero] at u85 u0 u1; obtain ⟨fn, tmps, assign, body, hy, hRo⟩ := HST.out w2 A cc ho; clear ho hcq)
        refine hK _ _ ?_
        clear hK K
        refine wpAnyIn_ready (rs := [4]) (by kernel_rfl) (by simp) ?_
        refine AllReadyIn.cons rfl (fun K hK => ?_) AllReadyIn.nil
        go_simp
        (refine ⟨(fun h => by cases h), ?_⟩; refine hRo.mono ?_; rintro e W4 ⟨v, rfl, hk, h9⟩)
        refine hK _ _ ?_
        clear hK K
        refine wpAnyIn_ready (rs := [5]) (by kernel_rfl) (by simp) ?_
        refine AllReadyIn.cons rfl (fun K hK => ?_) AllReadyIn.nil
        go_simp
        refine hK _ _ ?_
        clear hK K
        refine wpAnyIn_done (by kernel_rfl) ?_ _
        cases v with
        | true =>
          obtain ⟨_, hb4, hm4⟩ | ⟨h, _⟩ := h9
          · gi_wp2
            exact ⟨hk, hb4, hm4⟩
          · cases h
        | false =>
          obtain ⟨h, _⟩ | ⟨_, hj⟩ := h9
          · cases h
          · gi_wp2
            exact ⟨hk, rfl, hj⟩
      · go_simp
        refine hK _ _ ?_
        clear hK K
        refine wpAnyIn_ready (rs := [1, 3]) (by kernel_rfl) (by simp) ?_
        refine AllReadyIn.cons rfl (fun K hK => ?_) (AllReadyIn.cons rfl (fun K hK => ?_) AllReadyIn.nil)
        · go_simp
          refine hK _ _ ?_
          clear hK K
          refine wpAnyIn_ready (rs := [3]) (by kernel_rfl) (by simp) ?_
          refine AllReadyIn.cons rfl (fun K hK => ?_) AllReadyIn.nil
          go_simp
          (refine ⟨trivial, (fun h => by cases h), ?_⟩; refine (callsIn_wide.2 HAP.out).mono ?_; rintro e w2 ⟨A, cc, rfl, ho⟩; have hcq := ((Chg.refl [] W').drew).then ho.2.2; have u85 := (h4.chg hcq (by simp)).cell 0; have u0 := (bX.chg hcq (by simp)).cell 0; have u1 := (bX.chg hcq (by simp)).cell 1; simp only [List.getElem?_toArray, List.getElem?_cons_succ, List.getElem?_cons_zero] at u85 u0 u1; obtain ⟨fn, tmps, assign, body, hy, hRo⟩ := HST.out w2 A cc ho; clear ho hcq)
          refine hK _ _ ?_
          clear hK K
          refine wpAnyIn_ready (rs := [4]) (by kernel_rfl) (by simp) ?_
          refine AllReadyIn.cons rfl (fun K hK => ?_) AllReadyIn.nil
          go_simp
          (refine ⟨(fun h => by cases h), ?_⟩; refine hRo.mono ?_; rintro e W4 ⟨v, rfl, hk, h9⟩)
          refine hK _ _ ?_
          clear hK K
          refine wpAnyIn_ready (rs := [5]) (by kernel_rfl) (by simp) ?_
          refine AllReadyIn.cons rfl (fun K hK => ?_) AllReadyIn.nil
          go_simp
          refine hK _ _ ?_
          clear hK K
          refine wpAnyIn_done (by kernel_rfl) ?_ _
          cases v with
          | true =>
            obtain ⟨_, hb4, hm4⟩ | ⟨h, _⟩ := h9
            · gi_wp2
              exact ⟨hk, hb4, hm4⟩
            · cases h
          | false =>
            obtain ⟨h, _⟩ | ⟨_, hj⟩ := h9
            · cases h
            · gi_wp2
              exact ⟨hk, rfl, hj⟩
        · go_simp
          (refine ⟨trivial, (fun h => by cases h), ?_⟩; refine (callsIn_wide.2 HAP.out).mono ?_; rintro e w2 ⟨A, cc, rfl, ho⟩; have hcq := ((Chg.refl [] W').drew).then ho.2.2; have u85 := (h4.chg hcq (by simp)).cell 0; have u0 := (bX.chg hcq (by simp)).cell 0; have u1 := (bX.chg hcq (by simp)).cell 1; simp only [List.getElem?_toArray, List.getElem?_cons_succ, List.getElem?_cons_zero] at u85 u0 u1; obtain ⟨fn, tmps, assign, body, hy, hRo⟩ := HST.out w2 A cc ho; clear ho hcq)
          refine hK _ _ ?_
          clear hK K
          refine wpAnyIn_ready (rs := [1]) (by kernel_rfl) (by simp) ?_
          refine AllReadyIn.cons rfl (fun K hK => ?_) AllReadyIn.nil
          go_simp
          refine hK _ _ ?_
          clear hK K
          refine wpAnyIn_ready (rs := [4]) (by kernel_rfl) (by simp) ?_
          refine AllReadyIn.cons rfl (fun K hK => ?_) AllReadyIn.nil
          go_simp
          (refine ⟨(fun h => by cases h), ?_⟩; refine hRo.mono ?_; rintro e W4 ⟨v, rfl, hk, h9⟩)
          refine hK _ _ ?_
          clear hK K
          refine wpAnyIn_ready (rs := [5]) (by kernel_rfl) (by simp) ?_
          refine AllReadyIn.cons rfl (fun K hK => ?_) AllReadyIn.nil
          go_simp
          refine hK _ _ ?_
          clear hK K
          refine wpAnyIn_done (by kernel_rfl) ?_ _
          cases v with
          | true =>
            obtain ⟨_, hb4, hm4⟩ | ⟨h, _⟩ := h9
            · gi_wp2
              exact ⟨hk, hb4, hm4⟩
            · cases h
          | false =>
            obtain ⟨h, _⟩ | ⟨_, hj⟩ := h9
            · cases h
            · gi_wp2
              exact ⟨hk, rfl, hj⟩
    · go_simp
      refine hK _ _ ?_
      clear hK K
      refine wpAnyIn_ready (rs := [0, 2]) (by kernel_rfl) (by simp) ?_
      refine AllReadyIn.cons rfl (fun K hK => ?_) (AllReadyIn.cons rfl (fun K hK => ?_) AllReadyIn.nil)
      · go_simp
        refine hK _ _ ?_
        clear hK K
        refine wpAnyIn_ready (rs := [2]) (by kernel_rfl) (by simp) ?_
        refine AllReadyIn.cons rfl (fun K hK => ?_) AllReadyIn.nil
        go_simp
        refine hK _ _ ?_
        clear hK K
        refine wpAnyIn_ready (rs := [3]) (by kernel_rfl) (by simp) ?_
        refine AllReadyIn.cons rfl (fun K hK => ?_) AllReadyIn.nil
        go_simp
        (refine ⟨trivial, (fun h => by cases h), ?_⟩; refine (callsIn_wide.2 HAP.out).mono ?_; rintro e w2 ⟨A, cc, rfl, ho⟩; have hcq := ((Chg.refl [] W').drew).then ho.2.2; have u85 := (h4.chg hcq (by simp)).cell 0; have u0 := (bX.chg hcq (by simp)).cell 0; have u1 := (bX.chg hcq (by simp)).cell 1; simp only [List.getElem?_toArray, List.getElem?_cons_succ, List.getElem?_cons_zero] at u85 u0 u1; obtain ⟨fn, tmps, assign, body, hy, hRo⟩ := HST.out w2 A cc ho; clear ho hcq)
        refine hK _ _ ?_
        clear hK K
        refine wpAnyIn_ready (rs := [4]) (by kernel_rfl) (by simp) ?_
        refine AllReadyIn.cons rfl (fun K hK => ?_) AllReadyIn.nil
        go_simp
        (refine ⟨(fun h => by cases h), ?_⟩; refine hRo.mono ?_; rintro e W4 ⟨v, rfl, hk, h9⟩)
        refine hK _ _ ?_
        clear hK K
        refine wpAnyIn_ready (rs := [5]) (by kernel_rfl) (by simp) ?_
        refine AllReadyIn.cons rfl (fun K hK => ?_) AllReadyIn.nil
        go_simp
        refine hK _ _ ?_
        clear hK K
        refine wpAnyIn_done (by kernel_rfl) ?_ _
        cases v with
        | true =>
          obtain ⟨_, hb4, hm4⟩ | ⟨h, _⟩ := h9
          · gi_wp2
            exact ⟨hk, hb4, hm4⟩
          · cases h
        | false =>
          obtain ⟨h, _⟩ | ⟨_, hj⟩ := h9
          · cases h
          · gi_wp2
            exact ⟨hk, rfl, hj⟩
      · go_simp
        refine hK _ _ ?_
        clear hK K
        refine wpAnyIn_ready (rs := [0, 3]) (by kernel_rfl) (by simp) ?_
        refine AllReadyIn.cons rfl (fun K hK => ?_) (AllReadyIn.cons rfl (fun K hK => ?_) AllReadyIn.nil)
        · go_simp
          refine hK _ _ ?_
          clear hK K
          refine wpAnyIn_ready (rs := [3]) (by kernel_rfl) (by simp) ?_
          refine AllReadyIn.cons rfl (fun K hK => ?_) AllReadyIn.nil
          go_simp
          (refine ⟨trivial, (fun h => by cases h), ?_⟩; refine (callsIn_wide.2 HAP.out).mono ?_; rintro e w2 ⟨A, cc, rfl, ho⟩; have hcq := ((Chg.refl [] W').drew).then ho.2.2; have u85 := (h4.chg hcq (by simp)).cell 0; have u0 := (bX.chg hcq (by simp)).cell 0; have u1 := (bX.chg hcq (by simp)).cell 1; simp only [List.getElem?_toArray, List.getElem?_cons_succ, List.getElem?_cons_zero] at u85 u0 u1; obtain ⟨fn, tmps, assign, body, hy, hRo⟩ := HST.out w2 A cc ho; clear ho hcq)
          refine hK _ _ ?_
          clear hK K
          refine wpAnyIn_ready (rs := [4]) (by kernel_rfl) (by simp) ?_
          refine AllReadyIn.cons rfl (fun K hK => ?_) AllReadyIn.nil
          go_simp
          (refine ⟨(fun h => by cases h), ?_⟩; refine hRo.mono ?_; rintro e W4 ⟨v, rfl, hk, h9⟩)
          refine hK _ _ ?_
          clear hK K
          refine wpAnyIn_ready (rs := [5]) (by kernel_rfl) (by simp) ?_
          refine AllReadyIn.cons rfl (fun K hK => ?_) AllReadyIn.nil
          go_simp
          refine hK _ _ ?_
          clear hK K
          refine wpAnyIn_done (by kernel_rfl) ?_ _
          cases v with
          | true =>
            obtain ⟨_, hb4, hm4⟩ | ⟨h, _⟩ := h9
            · gi_wp2
              exact ⟨hk, hb4, hm4⟩
            · cases h
          | false =>
            obtain ⟨h, _⟩ | ⟨_, hj⟩ := h9
            · cases h
            · gi_wp2
              exact ⟨hk, rfl, hj⟩
        · go_simp
          (refine ⟨trivial, (fun h => by cases h), ?_⟩; refine (callsIn_wide.2 HAP.out).mono ?_; rintro e w2 ⟨A, cc, rfl, ho⟩; have hcq := ((Chg.refl [] W').drew).then ho.2.2; have u85 := (h4.chg hcq (by simp)).cell 0; have u0 := (bX.chg hcq (by simp)).cell 0; have u1 := (bX.chg hcq (by simp)).cell 1; simp only [List.getElem?_toArray, List.getElem?_cons_succ, List.getElem?_cons_zero] at u85 u0 u1; obtain ⟨fn, tmps, assign, body, hy, hRo⟩ := HST.out w2 A cc ho; clear ho hcq)
          refine hK _ _ ?_
          clear hK K
          refine wpAnyIn_ready (rs := [0]) (by kernel_rfl) (by simp) ?_
          refine AllReadyIn.cons rfl (fun K hK => ?_) AllReadyIn.nil
          go_simp
          refine hK _ _ ?_
          clear hK K
          refine wpAnyIn_ready (rs := [4]) (by kernel_rfl) (by simp) ?_
          refine AllReadyIn.cons rfl (fun K hK => ?_) AllReadyIn.nil
          go_simp
          (refine ⟨(fun h => by cases h), ?_⟩; refine hRo.mono ?_; rintro e W4 ⟨v, rfl, hk, h9⟩)
          refine hK _ _ ?_
          clear hK K
          refine wpAnyIn_ready (rs := [5]) (by kernel_rfl) (by simp) ?_
          refine AllReadyIn.cons rfl (fun K hK => ?_) AllReadyIn.nil
          go_simp
          refine hK _ _ ?_
          clear hK K
          refine wpAnyIn_done (by kernel_rfl) ?_ _
          cases v with
          | true =>
            obtain ⟨_, hb4, hm4⟩ | ⟨h, _⟩ := h9
            · gi_wp2
              exact ⟨hk, hb4, hm4⟩
            · cases h
          | false =>
            obtain ⟨h, _⟩ | ⟨_, hj⟩ := h9
            · cases h
            · gi_wp2
              exact ⟨hk, rfl, hj⟩
    · go_simp
      refine hK _ _ ?_
      clear hK K
      refine wpAnyIn_ready (rs := [0, 1, 3]) (by kernel_rfl) (by simp) ?_
      refine AllReadyIn.cons rfl (fun K hK => ?_) (AllReadyIn.cons rfl (fun K hK => ?_) (AllReadyIn.cons rfl (fun K hK => ?_) AllReadyIn.nil))
      · go_simp
        refine hK _ _ ?_
        clear hK K
        refine wpAnyIn_ready (rs := [1, 3]) (by kernel_rfl) (by simp) ?_
        refine AllReadyIn.cons rfl (fun K hK => ?_) (AllReadyIn.cons rfl (fun K hK => ?_) AllReadyIn.nil)
        · go_simp
          refine hK _ _ ?_
          clear hK K
          refine wpAnyIn_ready (rs := [3]) (by kernel_rfl) (by simp) ?_
          refine AllReadyIn.cons rfl (fun K hK => ?_) AllReadyIn.nil
          go_simp
          (refine ⟨trivial, (fun h => by cases h), ?_⟩; refine (callsIn_wide.2 HAP.out).mono ?_; rintro e w2 ⟨A, cc, rfl, ho⟩; have hcq := ((Chg.refl [] W').drew).then ho.2.2; have u85 := (h4.chg hcq (by simp)).cell 0; have u0 := (bX.chg hcq (by simp)).cell 0; have u1 := (bX.chg hcq (by simp)).cell 1; simp only [List.getElem?_toArray, List.getElem?_cons_succ, List.getElem?_cons_zero] at u85 u0 u1; obtain ⟨fn, tmps, assign, body, hy, hRo⟩ := HST.out w2 A cc ho; clear ho hcq)
          refine hK _ _ ?_
          clear hK K
          refine wpAnyIn_ready (rs := [4]) (by kernel_rfl) (by simp) ?_
          refine AllReadyIn.cons rfl (fun K hK => ?_) AllReadyIn.nil
          go_simp
          (refine ⟨(fun h => by cases h), ?_⟩; refine hRo.mono ?_; rintro e W4 ⟨v, rfl, hk, h9⟩)
          refine hK _ _ ?_
          clear hK K
          refine wpAnyIn_ready (rs := [5]) (by kernel_rfl) (by simp) ?_
          refine AllReadyIn.cons rfl (fun K hK => ?_) AllReadyIn.nil
          go_simp
          refine hK _ _ ?_
          clear hK K
          refine wpAnyIn_done (by kernel_rfl) ?_ _
          cases v with
          | true =>
            obtain ⟨_, hb4, hm4⟩ | ⟨h, _⟩ := h9
            · gi_wp2
              exact ⟨hk, hb4, hm4⟩
            · cases h
          | false =>
            obtain ⟨h, _⟩ | ⟨_, hj⟩ := h9
            · cases h
            · gi_wp2
              exact ⟨hk, rfl, hj⟩
        · go_simp
          (refine ⟨trivial, (fun h => by cases h), ?_⟩; refine (callsIn_wide.2 HAP.out).mono ?_; rintro e w2 ⟨A, cc, rfl, ho⟩; have hcq := ((Chg.refl [] W').drew).then ho.2.2; have u85 := (h4.chg hcq (by simp)).cell 0; have u0 := (bX.chg hcq (by simp)).cell 0; have u1 := (bX.chg hcq (by simp)).cell 1; simp only [List.getElem?_toArray, List.getElem?_cons_succ, List.getElem?_cons_zero] at u85 u0 u1; obtain ⟨fn, tmps, assign, body, hy, hRo⟩ := HST.out w2 A cc ho; clear ho hcq)
          refine hK _ _ ?_
          clear hK K
          refine wpAnyIn_ready (rs := [1]) (by kernel_rfl) (by simp) ?_
          refine AllReadyIn.cons rfl (fun K hK => ?_) AllReadyIn.nil
          go_simp
          refine hK _ _ ?_
          clear hK K
          refine wpAnyIn_ready (rs := [4]) (by kernel_rfl) (by simp) ?_
          refine AllReadyIn.cons rfl (fun K hK => ?_) AllReadyIn.nil
          go_simp
          (refine ⟨(fun h => by cases h), ?_⟩; refine hRo.mono ?_; rintro e W4 ⟨v, rfl, hk, h9⟩)
          refine hK _ _ ?_
          clear hK K
          refine wpAnyIn_ready (rs := [5]) (by kernel_rfl) (by simp) ?_
          refine AllReadyIn.cons rfl (fun K hK => ?_) AllReadyIn.nil
          go_simp
          refine hK _ _ ?_
          clear hK K
          refine wpAnyIn_done (by kernel_rfl) ?_ _
          cases v with
          | true =>
            obtain ⟨_, hb4, hm4⟩ | ⟨h, _⟩ := h9
            · gi_wp2
              exact ⟨hk, hb4, hm4⟩
            · cases h
          | false =>
            obtain ⟨h, _⟩ | ⟨_, hj⟩ := h9
            · cases h
            · gi_wp2
              exact ⟨hk, rfl, hj⟩
      · go_simp
        refine hK _ _ ?_
        clear hK K
        refine wpAnyIn_ready (rs := [0, 3]) (by kernel_rfl) (by simp) ?_
        refine AllReadyIn.cons rfl (fun K hK => ?_) (AllReadyIn.cons rfl (fun K hK => ?_) AllReadyIn.nil)
        · go_simp
          refine hK _ _ ?_
          clear hK K
          refine wpAnyIn_ready (rs := [3]) (by kernel_rfl) (by simp) ?_
          refine AllReadyIn.cons rfl (fun K hK => ?_) AllReadyIn.nil
          go_simp
          (refine ⟨trivial, (fun h => by cases h), ?_⟩; refine (callsIn_wide.2 HAP.out).mono ?_; rintro e w2 ⟨A, cc, rfl, ho⟩; have hcq := ((Chg.refl [] W').drew).then ho.2.2; have u85 := (h4.chg hcq (by simp)).cell 0; have u0 := (bX.chg hcq (by simp)).cell 0; have u1 := (bX.chg hcq (by simp)).cell 1; simp only [List.getElem?_toArray, List.getElem?_cons_succ, List.getElem?_cons_zero] at u85 u0 u1; obtain ⟨fn, tmps, assign, body, hy, hRo⟩ := HST.out w2 A cc ho; clear ho hcq)
          refine hK _ _ ?_
          clear hK K
          refine wpAnyIn_ready (rs := [4]) (by kernel_rfl) (by simp) ?_
          refine AllReadyIn.cons rfl (fun K hK => ?_) AllReadyIn.nil
          go_simp
          (refine ⟨(fun h => by cases h), ?_⟩; refine hRo.mono ?_; rintro e W4 ⟨v, rfl, hk, h9⟩)
          refine hK _ _ ?_
          clear hK K
          refine wpAnyIn_ready (rs := [5]) (by kernel_rfl) (by simp) ?_
          refine AllReadyIn.cons rfl (fun K hK => ?_) AllReadyIn.nil
          go_simp
          refine hK _ _ ?_
          clear hK K
          refine wpAnyIn_done (by kernel_rfl) ?_ _
          cases v with
          | true =>
            obtain ⟨_, hb4, hm4⟩ | ⟨h, _⟩ := h9
            · gi_wp2
              exact ⟨hk, hb4, hm4⟩
            · cases h
          | false =>
            obtain ⟨h, _⟩ | ⟨_, hj⟩ := h9
            · cases h
            · gi_wp2
              exact ⟨hk, rfl, hj⟩
        · go_simp
          (refine ⟨trivial, (fun h => by cases h), ?_⟩; refine (callsIn_wide.2 HAP.out).mono ?_; rintro e w2 ⟨A, cc, rfl, ho⟩; have hcq := ((Chg.refl [] W').drew).then ho.2.2; have u85 := (h4.chg hcq (by simp)).cell 0; have u0 := (bX.chg hcq (by simp)).cell 0; have u1 := (bX.chg hcq (by simp)).cell 1; simp only [List.getElem?_toArray, List.getElem?_cons_succ, List.getElem?_cons_zero] at u85 u0 u1; obtain ⟨fn, tmps, assign, body, hy, hRo⟩ := HST.out w2 A cc ho; clear ho hcq)
          refine hK _ _ ?_
          clear hK K
          refine wpAnyIn_ready (rs := [0]) (by kernel_rfl) (by simp) ?_
          refine AllReadyIn.cons rfl (fun K hK => ?_) AllReadyIn.nil
          go_simp
          refine hK _ _ ?_
          clear hK K
          refine wpAnyIn_ready (rs := [4]) (by kernel_rfl) (by simp) ?_
          refine AllReadyIn.cons rfl (fun K hK => ?_) AllReadyIn.nil
          go_simp
          (refine ⟨(fun h => by cases h), ?_⟩; refine hRo.mono ?_; rintro e W4 ⟨v, rfl, hk, h9⟩)
          refine hK _ _ ?_
          clear hK K
          refine wpAnyIn_ready (rs := [5]) (by kernel_rfl) (by simp) ?_
          refine AllReadyIn.cons rfl (fun K hK => ?_) AllReadyIn.nil
          go_simp
          refine hK _ _ ?_
          clear hK K
          refine wpAnyIn_done (by kernel_rfl) ?_ _
          cases v with
          | true =>
            obtain ⟨_, hb4, hm4⟩ | ⟨h, _⟩ := h9
            · gi_wp2
              exact ⟨hk, hb4, hm4⟩
            · cases h
          | false =>
            obtain ⟨h, _⟩ | ⟨_, hj⟩ := h9
            · cases h
            · gi_wp2
              exact ⟨hk, rfl, hj⟩
      · go_simp
        (refine ⟨trivial, (fun h => by cases h), ?_⟩; refine (callsIn_wide.2 HAP.out).mono ?_; rintro e w2 ⟨A, cc, rfl, ho⟩; have hcq := ((Chg.refl [] W').drew).then ho.2.2; have u85 := (h4.chg hcq (by simp)).cell 0; have u0 := (bX.chg hcq (by simp)).cell 0; have u1 := (bX.chg hcq (by simp)).cell 1; simp only [List.getElem?_toArray, List.getElem?_cons_succ, List.getElem?_cons_zero] at u85 u0 u1; obtain ⟨fn, tmps, assign, body, hy, hRo⟩ := HST.out w2 A cc ho; clear ho hcq)
        refine hK _ _ ?_
        clear hK K
        refine wpAnyIn_ready (rs := [0, 1]) (by kernel_rfl) (by simp) ?_
        refine AllReadyIn.cons rfl (fun K hK => ?_) (AllReadyIn.cons rfl (fun K hK => ?_) AllReadyIn.nil)
        · go_simp
          refine hK _ _ ?_
          clear hK K
          refine wpAnyIn_ready (rs := [1]) (by kernel_rfl) (by simp) ?_
          refine AllReadyIn.cons rfl (fun K hK => ?_) AllReadyIn.nil
          go_simp
          refine hK _ _ ?_
          clear hK K
          refine wpAnyIn_ready (rs := [4]) (by kernel_rfl) (by simp) ?_
          refine AllReadyIn.cons rfl (fun K hK => ?_) AllReadyIn.nil
          go_simp
          (refine ⟨(fun h => by cases h), ?_⟩; refine hRo.mono ?_; rintro e W4 ⟨v, rfl, hk, h9⟩)
          refine hK _ _ ?_
          clear hK K
          refine wpAnyIn_ready (rs := [5]) (by kernel_rfl) (by simp) ?_
          refine AllReadyIn.cons rfl (fun K hK => ?_) AllReadyIn.nil
          go_simp
          refine hK _ _ ?_
          clear hK K
          refine wpAnyIn_done (by kernel_rfl) ?_ _
          cases v with
          | true =>
            obtain ⟨_, hb4, hm4⟩ | ⟨h, _⟩ := h9
            · gi_wp2
              exact ⟨hk, hb4, hm4⟩
            · cases h
          | false =>
            obtain ⟨h, _⟩ | ⟨_, hj⟩ := h9
            · cases h
            · gi_wp2
              exact ⟨hk, rfl, hj⟩
        · go_simp
          refine hK _ _ ?_
          clear hK K
          refine wpAnyIn_ready (rs := [0]) (by kernel_rfl) (by simp) ?_
          refine AllReadyIn.cons rfl (fun K hK => ?_) AllReadyIn.nil
          go_simp
          refine hK _ _ ?_
          clear hK K
          refine wpAnyIn_ready (rs := [4]) (by kernel_rfl) (by simp) ?_
          refine AllReadyIn.cons rfl (fun K hK => ?_) AllReadyIn.nil
          go_simp
          (refine ⟨(fun h => by cases h), ?_⟩; refine hRo.mono ?_; rintro e W4 ⟨v, rfl, hk, h9⟩)
          refine hK _ _ ?_
          clear hK K
          refine wpAnyIn_ready (rs := [5]) (by kernel_rfl) (by simp) ?_
          refine AllReadyIn.cons rfl (fun K hK => ?_) AllReadyIn.nil
          go_simp
          refine hK _ _ ?_
          clear hK K
          refine wpAnyIn_done (by kernel_rfl) ?_ _
          cases v with
          | true =>
            obtain ⟨_, hb4, hm4⟩ | ⟨h, _⟩ := h9
            · gi_wp2
              exact ⟨hk, hb4, hm4⟩
            · cases h
          | false =>
            obtain ⟨h, _⟩ | ⟨_, hj⟩ := h9
            · cases h
            · gi_wp2
              exact ⟨hk, rfl, hj⟩
  case done =>
    rintro Dd zs W' hD rfl ⟨ys, h1, h2, h3, h4⟩ hK
    gi_wp2
    refine ⟨by simp, .inl ⟨_, _, rfl, run_takeDeferred hK, ?_⟩⟩
    exact ⟨_, results_none rfl _ _ _, ⟨_, rfl⟩, .inl ⟨ys, by rw [h1, att_strip], HJJ.out _ _ _ (some Dd) h2 (grownBy_putObj' W' Dd _) (fun k e => by cases e; exact ⟨by omega, _, hK, rfl⟩)⟩⟩
  case stop =>
    rintro Dd c pre W' hD hpre ⟨rfl, ys, h1, h2⟩ hK
    gi_wp2
    refine ⟨by simp, .inl ⟨_, _, rfl, run_takeDeferred hK, ?_⟩⟩
    exact ⟨_, results_none rfl _ _ _, ⟨_, rfl⟩, .inr ⟨ys, by rw [h1]; exact pre_strip hpre, HJX.out _ _ _ (some Dd) h2 (grownBy_putObj' W' Dd _) (fun k e => by cases e; exact ⟨by omega, _, hK, rfl⟩)⟩⟩
end Go.Proofs
end
