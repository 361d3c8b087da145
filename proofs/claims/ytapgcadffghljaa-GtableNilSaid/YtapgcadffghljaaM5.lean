import Derived.Test.YtapgcadffghljaaM4
import Derived.RangeFuncNested
import Derived.RangeFuncBound
import Derived.RangeFuncCalls
import Derived.RangeFuncLeaves
import Derived.RangeFuncFrom
import Derived.Shelf.Abstract
import Derived.Shelf.RegionOpen
import Derived.OwnWalkIn
import Derived.TacticsInMore
import Derived.LoopNIn
import Derived.LoopIn
import Derived.Sort.QuietIn
import Derived.RangeFuncBox
import Derived.Stop.RegionWithIn
section
namespace Go.Proofs
open Go.RowKit Go.Shelf
set_option linter.unusedVariables false
set_option linter.unusedSimpArgs false
attribute [local go_sem] Oper.semAt_some

def intOfN : Value → Int
  | .int _ n => n
  | _ => 0
/-- A goroutine, and what names it. -/
structure Plc where
  i : Int
  q : Int
  x : Gr
def Plc.arr (p : Plc) : Array Value := #[.int .i64 p.i, .int .u64 p.q] ++ p.x.arr
theorem Plc.size (p : Plc) : p.arr.size = 21 := by unfold Plc.arr; rw [Array.size_append, Gr.size]; rfl
theorem Plc.at0 (p : Plc) : p.arr[0]? = some (.int .i64 p.i) := by unfold Plc.arr; rw [Array.getElem?_append_left (by simp)]; rfl
theorem Plc.at1 (p : Plc) : p.arr[1]? = some (.int .u64 p.q) := by unfold Plc.arr; rw [Array.getElem?_append_left (by simp)]; rfl
theorem Plc.atx (p : Plc) (j : Nat) (v : Value) (h : p.x.arr[j]? = some v) : p.arr[2 + j]? = some v := by
  unfold Plc.arr
  rw [Array.getElem?_append_right (by simp)]
  simpa using h
theorem Plc.one (p : Plc) : p.arr.all (·.oneCell') = true := by
  unfold Plc.arr
  rw [Array.all_append, p.x.one]
  simp [Value.oneCell']
theorem Plc.ones (p : Plc) : ∀ u ∈ p.arr.toList, u.oneCell' = true := fun u hu => (Array.all_eq_true_iff_forall_mem.1 p.one) u (by simpa using hu)
def plcCells (l : List Plc) : List Value := l.flatMap fun p => p.arr.toList
theorem plcCells_len (l : List Plc) : (plcCells l).length = l.length * 21 := flat_len (enc := fun p : Plc => p.arr.toList) (fun p => by simp [Plc.size]) l
theorem plcCells_at {l : List Plc} {k : Nat} {p : Plc} (h : l[k]? = some p) (j : Nat) (v : Value) (hv : p.arr[j]? = some v) : (plcCells l)[k * 21 + j]? = some v :=
  flat_at (enc := fun p : Plc => p.arr.toList) (s := 21) (fun p => by simp [Plc.size]) h (by simpa using hv)
theorem plcCells_snoc (l : List Plc) (p : Plc) : plcCells (l ++ [p]) = plcCells l ++ p.arr.toList := by unfold plcCells; simp
theorem plcCells_ones (l : List Plc) : ∀ u ∈ plcCells l, u.oneCell' = true := by
  intro u hu
  unfold plcCells at hu
  rw [List.mem_flatMap] at hu
  obtain ⟨p, _, hp⟩ := hu
  exact p.ones u hp
abbrev zP : Array Value := #[.int .i64 0, .int .u64 0, .int .i64 0, .bool false, .int .i64 0, .int .u64 0, .int .i64 0, .int .u64 0, .int .u8 0, .int .i64 0, .int .i64 0, .int .u64 0, .int .u64 0, .int .u64 0, .int .u64 0, .int .u64 0, .int .u64 0, .int .u64 0, .int .u64 0, .int .i64 0, .int .u64 0]
def Plc.encs (p : Plc) : Array Value := #[.agg #[.int .i64 p.i, .int .u64 p.q], p.x.val]
theorem grown_of_chg {W W' : World} (h : Chg [] W W') : W.grownBy W' none := ⟨h.os, h.tape, h.output, h.size, fun k hk _ => h.block k hk (by simp)⟩
theorem take_one_more {β : Type} (l : List β) (k : Nat) (x : β) (h : l[k]? = some x) : l.take (k + 1) = l.take k ++ [x] := by
  have hk := (List.getElem?_eq_some_iff.1 h).1
  rw [List.take_succ_eq_append_getElem hk, (List.getElem?_eq_some_iff.1 h).2]

/-- The blocks of X lie as they lay. -/
structure KeepP (X : Nat → Prop) (A B : World) : Prop where
  size : A.heap.size ≤ B.heap.size
  block : ∀ k, X k → B.heap[k]? = A.heap[k]?
section
variable {X : Nat → Prop} {A B C : World}
theorem KeepP.refl (X : Nat → Prop) (A : World) : KeepP X A A := ⟨Nat.le_refl _, fun _ _ => rfl⟩
theorem KeepP.trans (h : KeepP X A B) (k : KeepP X B C) : KeepP X A C := ⟨Nat.le_trans h.size k.size, fun i hi => (k.block i hi).trans (h.block i hi)⟩
theorem KeepP.cell (h : KeepP X A B) {p : Addr} (hp : X p.block) : B.cell? p = A.cell? p := World.cell?_of_block (h.block p.block hp)
theorem KeepP.frozen (h : KeepP X A B) {p : Addr} (hp : X p.block) : B.frozen? p = A.frozen? p := by unfold World.frozen?; rw [h.block p.block hp]
theorem KeepP.chg {S : List Nat} (h : Chg S A B) (hX : ∀ k, X k → k < A.heap.size) (hS : ∀ k ∈ S, ¬ X k) : KeepP X A B := ⟨h.size, fun k hk => h.block k (hX k hk) (fun hm => hS k hm hk)⟩
theorem KeepP.quiet (h : Chg [] A B) (hX : ∀ k, X k → k < A.heap.size) : KeepP X A B := KeepP.chg h hX (fun _ hm => by cases hm)
theorem KeepP.below {D : Nat} (h : Below D A B) (hX : ∀ k, X k → k < D) : KeepP X A B := ⟨h.size, fun k hk => h.block k (hX k hk)⟩
theorem KeepP.grown {row : Option Nat} (hg : A.grownBy B row) (hX : ∀ k, X k → k < A.heap.size) (hr : ∀ k, row = some k → ¬ X k) : KeepP X A B := ⟨hg.size, fun k hk => hg.block k (hX k hk) (fun e => hr k e.symm hk)⟩
end
set_option maxRecDepth 100000 in
set_option maxHeartbeats 1600000 in
/-- The iterator that All hands out, over what was gathered. -/
theorem over_in {β : Type} (f : β → Plc) (n : Nat) (hn : 1 ≤ n) (l b : Nat) (X : Nat → Prop) (V : Value) (xs : List β) (w : World) (hXw : ∀ k, X k → k < w.heap.size) (hb : X b) (hV : w.cell? ⟨b, 0, none⟩ = some V) (hR : Row w 115 21 V xs.length (plcCells (xs.map f))) (hft : ∀ k ∈ foot V, X k) (hl : xs.length ≤ 5000)
    (J Jx : List β → World → Prop) (W : World) (hW : KeepP X w W) (hJ : AbidesFrom W.heap.size J)
    (hY : ∀ pre x W1, J pre W1 → pre.length < xs.length → YieldAt Fence.wide (n - 1) Try.prog l (Plc.encs (f x)) W1 fun e W' =>
      (e = .returned (.bool true) ∧ J (pre ++ [x]) W' ∧ KeepP X W1 W') ∨ (e = .returned (.bool false) ∧ Jx (pre ++ [x]) W')) (h0 : J [] W) :
    CallsIn Fence.wide n Try.prog 69 #[.func (.yield l) #[] #[], .pointer (some ⟨b, 0, none⟩)] W fun e W' => (∃ v, e = .returned v) ∧ ((∃ ys, ys = xs ∧ J ys W') ∨ (∃ pre, pre <+: xs ∧ Jx pre W')) := by
  obtain ⟨A, c, rfl, hA⟩ := hR.val
  have hVW := (hW.cell (p := ⟨b, 0, none⟩) hb).trans hV
  obtain ⟨m, hm⟩ : ∃ m, m = xs.length := ⟨_, rfl⟩
  have HM := Lib.hid hm
  rw [← hm] at hl hY hVW hft
  have HR := Lib.hid hR
  have HF := Lib.hid hft
  have HA := Lib.hid hA
  clear hA
  refine callsIn_of_wp Try.func69 rfl trivial ?_ rfl
  simp only [Try.ntmps69, List.size_toArray, List.length_cons, List.length_nil, Nat.reduceAdd, Nat.reduceSub, Array.replicate_succ, Array.replicate_zero, List.push_toArray, List.append_toArray, List.nil_append, List.cons_append]
  clear hm hR hft hV
  gi_wp2
  gi_loopw [7] (fun iv wr => ∃ k : Nat, k ≤ m ∧ iv = .int .i64 k ∧ KeepP X w wr ∧ W.heap.size ≤ wr.heap.size ∧ J (xs.take k) wr) (fun iv wr => m - (intOfN iv).toNat)
  case atStart => exact ⟨0, by omega, rfl, hW, Nat.le_refl _, h0⟩
  case round =>
    obtain ⟨k, hk, rfl, hB, hz, hJk⟩ := hrel
    by_cases hlt : k < m
    · obtain ⟨p, hp⟩ : ∃ p, xs[k]? = some p := ⟨_, List.getElem?_eq_getElem (by rw [← HM.out]; exact hlt)⟩
      obtain ⟨gl, cl, hv, _, _, hcell, _, _⟩ := HR.out.form (by rw [← HM.out]; omega)
      simp only [Value.slice.injEq] at hv
      obtain ⟨rfl, h91, h92⟩ := hv
      clear h91 h92
      have hgl : X gl := HF.out gl (by simp [foot_some])
      obtain ⟨Q, hQ⟩ : ∃ Q, Q = f p := ⟨_, rfl⟩
      have qc := fun j v => plcCells_at (l := xs.map f) (k := k) (p := Q) (by rw [List.getElem?_map, hp, hQ]; rfl) j v
      have dc : ∀ j v, Q.arr[j]? = some v → wr.cell? ⟨gl, k * 21 + j, none⟩ = some v := fun j v hv => (hB.cell (p := ⟨gl, k * 21 + j, none⟩) hgl).trans (hcell _ _ (qc j v hv))
      have k0 : (0 : Int) ≤ (k : Int) := by omega
      have k1 : (k : Int) < (m : Int) := by omega
      have hlen : (xs.take k).length < m := by rw [List.length_take, ← HM.out]; omega
      have HS := Lib.hid (take_one_more xs k p hp)
      have HB := Lib.hid hB
      have hQs := Q.size
      have hQ1 := Q.one
      have hGs := Q.x.size
      obtain ⟨Q0, hQ0⟩ : ∃ Q0, Q0 = Q.i := ⟨_, rfl⟩
      obtain ⟨Qq, hQq⟩ : ∃ Qq, Qq = Q.q := ⟨_, rfl⟩
      have a0 := Q.at0
      have a1 := Q.at1
      have ax := Q.atx
      rw [← hQ0] at a0
      rw [← hQq] at a1
      obtain ⟨XA, hXA⟩ : ∃ XA, XA = Q.x.arr := ⟨_, rfl⟩
      rw [← hXA] at ax hGs
      obtain ⟨QA, hQA⟩ : ∃ QA, QA = Q.arr := ⟨_, rfl⟩
      rw [← hQA] at dc hQs hQ1 a0 a1 ax
      have hen : Plc.encs (f p) = #[.agg #[.int .i64 Q0, .int .u64 Qq], .agg XA] := by rw [← hQ, hQ0, hQq, hXA]; rfl
      have hY2 := Lib.hid (fun W1 (hJ2 : J (xs.take k) W1) => hY _ p W1 hJ2 hlen)
      have HJk := Lib.hid hJk
      clear hQ hp hcell qc hB hJk hQ0 hQq hXA hQA hlen
      gi_wp2_with (first
        | (refine wpi_load_at T115 hQs dc rfl _ rfl rfl ?_)
        | (refine wpi_store T115 (Blk.new wr 115 zP) rfl hQs hQ1 rfl _ _ rfl rfl rfl ?_; intro w3 hS3; have hc3 : Chg [] wr w3 := (((Chg.refl [] wr).alloc _).trans hS3.chg (fun k hk => by simp at hk; omega)); have HC3 := Lib.hid hc3; have b0 := (hS3.blk.cell 0).trans a0; have b1 := (hS3.blk.cell 1).trans a1; have bx : ∀ j v, XA[j]? = some v → w3.cell? ⟨wr.heap.size, 2 + j, none⟩ = some v := (fun j v hv => (hS3.blk.cell (2 + j)).trans (ax j v hv)); obtain ⟨fn, tmps, assign, body, hy, hRo⟩ := hY2.out w3 (hJ _ _ _ none HJk.out (grown_of_chg hc3) (fun r e => by cases e)); rw [hen] at hy; clear hS3 hc3)
        | (refine wpi_load_at T37 hGs bx rfl _ rfl rfl ?_))
      refine hRo.mono ?_
      rintro e W3 (⟨rfl, hJ3, hk3⟩ | ⟨rfl, hJx3⟩)
      · gi_wp2
        go_roundw
        case rel => exact ⟨k + 1, by omega, by go_num, (HB.out.trans (KeepP.quiet HC3.out (fun k hk => by have := hXw k hk; have := HB.out.size; omega))).trans hk3, by have := hk3.size; have := HC3.out.size; omega, by rw [HS.out]; exact hJ3⟩
        case measure => simp [intOfN]; omega
      · gi_wp2
        refine bodyPost_ret (results_none rfl _ _ _) rfl ?_
        exact ⟨⟨_, rfl⟩, .inr ⟨_, by rw [← HS.out]; exact List.take_prefix _ _, hJx3⟩⟩
    · obtain rfl : k = m := by omega
      gi_wp2
      go_end0
      exact ⟨⟨_, rfl⟩, .inl ⟨_, rfl, by have := hJk; rw [HM.out, List.take_length] at this; exact this⟩⟩
end Go.Proofs
end
section
namespace Go.Proofs
open Go.RowKit Go.Shelf
set_option linter.unusedVariables false
set_option linter.unusedSimpArgs false
attribute [local go_sem] Oper.semAt_some

/-- What is there below a place, rising. -/
def nowL (t : Tab Gr) (k : Nat) : List Plc := (List.range k).filterMap fun i => (t.live (i : Nat)).map fun s => ⟨(i : Nat), s.gen, s.thing⟩
theorem nowL_yes {t : Tab Gr} {k : Nat} {s : Spot Gr} (h : t.live (k : Nat) = some s) : nowL t (k + 1) = nowL t k ++ [⟨(k : Nat), s.gen, s.thing⟩] := by
  unfold nowL
  rw [List.range_succ, List.filterMap_append]
  simp [h]
theorem nowL_no {t : Tab Gr} {k : Nat} (h : t.live (k : Nat) = none) : nowL t (k + 1) = nowL t k := by
  unfold nowL
  rw [List.range_succ, List.filterMap_append]
  simp [h]
theorem nowL_len (t : Tab Gr) (k : Nat) : (nowL t k).length ≤ k := by
  unfold nowL
  exact Nat.le_trans (List.length_filterMap_le _ _) (by simp)
theorem nowL_pre (t : Tab Gr) (k j : Nat) (h : k ≤ j) : nowL t k <+: nowL t j := by
  induction j with
  | zero => obtain rfl : k = 0 := by omega
            exact List.prefix_refl _
  | succ j ih =>
    by_cases e : k = j + 1
    · subst e; exact List.prefix_refl _
    · have := ih (by omega)
      rcases live_cases t (j : Nat) with ⟨s, hs⟩ | hn
      · rw [nowL_yes hs]; exact this.trans (List.prefix_append _ _)
      · rw [nowL_no hn]; exact this
/-- These blocks are as they were. -/
structure KeepL (L : List Nat) (A B : World) : Prop where
  size : A.heap.size ≤ B.heap.size
  block : ∀ k ∈ L, B.heap[k]? = A.heap[k]?
theorem KeepL.refl (L : List Nat) (A : World) : KeepL L A A := ⟨Nat.le_refl _, fun _ _ => rfl⟩
theorem KeepL.trans {L : List Nat} {A B C : World} (h : KeepL L A B) (k : KeepL L B C) : KeepL L A C := ⟨Nat.le_trans h.size k.size, fun i hi => (k.block i hi).trans (h.block i hi)⟩
theorem KeepL.chg {L : List Nat} {A B : World} (h : Chg [] A B) (hL : ∀ k ∈ L, k < A.heap.size) : KeepL L A B := ⟨h.size, fun k hk => h.block k (hL k hk) (by simp)⟩
theorem KeepL.cell {L : List Nat} {A B : World} (h : KeepL L A B) {p : Addr} (hp : p.block ∈ L) : B.cell? p = A.cell? p := World.cell?_of_block (h.block p.block hp)

set_option maxRecDepth 100000 in
set_option maxHeartbeats 3200000 in
/-- The iterator that goes over the table as it is. -/
theorem now_in (n : Nat) (hn : 1 ≤ n) (l b g N : Nat) (S : List Nat) (t : Tab Gr) (hw : t.WF) (hN : t.size = (N : Nat)) (w : World) (hb : b < w.heap.size) (hV : w.cell? ⟨b, 0, none⟩ = some (.pointer (some ⟨g, 0, none⟩))) (hT : TabAt w g S t)
    (J Jx : List Plc → World → Prop) (W : World) (hW : KeepL (b :: S) w W) (hJ : AbidesFrom W.heap.size J)
    (hY : ∀ pre x W1, J pre W1 → pre.length < N + 1 → YieldAt Fence.wide (n - 1) Try.prog l (Plc.encs x) W1 fun e W' =>
      (e = .returned (.bool true) ∧ J (pre ++ [x]) W' ∧ KeepL (b :: S) W1 W') ∨ (e = .returned (.bool false) ∧ Jx (pre ++ [x]) W')) (h0 : J [] W) :
    CallsIn Fence.wide n Try.prog 71 #[.func (.yield l) #[] #[], .pointer (some ⟨b, 0, none⟩)] W fun e W' => (∃ v, e = .returned v) ∧ ((∃ ys, ys = nowL t N ∧ J ys W') ∨ (∃ pre, pre <+: nowL t N ∧ Jx pre W')) := by
  have hVW := (hW.cell (p := ⟨b, 0, none⟩) (by simp)).trans hV
  have hTW : ∀ W', KeepL (b :: S) w W' → TabAt W' g S t := fun W' h => hT.same (fun k hk => h.block k (by simp [hk]))
  have hlt0 : ∀ k ∈ b :: S, k < w.heap.size := fun k hk => by
    rcases List.mem_cons.1 hk with rfl | hk
    · exact hb
    · exact hT.lt k hk
  have HLT := Lib.hid hlt0
  clear hlt0
  have HTW := Lib.hid hTW
  have HSz := fun w' h' => (size_C (w := w') (g := g) (S := S) (t := t) h').mono (R' := fun e w'' => e = .returned (.int .i64 (N : Nat)) ∧ w' = w'') (fun e w'' ⟨h1, h2⟩ => ⟨by rw [h1, hN], h2⟩)
  have hN4 : N ≤ 4096 := by have := hw.s1; omega
  have HNN := Lib.hid hN
  clear hN
  refine callsIn_of_wp Try.func71 rfl trivial ?_ rfl
  simp only [Try.ntmps71, List.size_toArray, List.length_cons, List.length_nil, Nat.reduceAdd, Nat.reduceSub, Array.replicate_succ, Array.replicate_zero, List.push_toArray, List.append_toArray, List.nil_append, List.cons_append]
  gi_wp2_with (refine ⟨trivial, ?_⟩; gi_at_call 48; refine (callsIn_wide.2 (HSz _ (HTW.out _ hW))).mono ?_; rintro e w' ⟨rfl, rfl⟩)
  gi_loopw [8] (fun iv wr => ∃ k : Nat, k ≤ N ∧ iv = .int .i64 k ∧ KeepL (b :: S) w wr ∧ W.heap.size ≤ wr.heap.size ∧ J (nowL t k) wr) (fun iv wr => N - (intOfN iv).toNat)
  case atStart => exact ⟨0, by omega, rfl, hW, Nat.le_refl _, h0⟩
  case round =>
    obtain ⟨k, hk, rfl, hB, hz, hJk⟩ := hrel
    have hVr := (hB.cell (p := ⟨b, 0, none⟩) (by simp)).trans hV
    by_cases hlt : k < N
    · have k0 : (0 : Int) ≤ (k : Int) := by omega
      have k1 : (k : Int) < (N : Int) := by omega
      have HA := fun w' h' => at_C (w := w') (g := g) (S := S) (t := t) h' hw (k : Nat) (by omega) (by omega)
      have hlen : (nowL t k).length < N + 1 := by have := nowL_len t k; omega
      have HB := Lib.hid hB
      have HJk := Lib.hid hJk
      rcases live_cases t (k : Nat) with ⟨s, hs⟩ | hno
      · obtain ⟨q1, q2, q3⟩ := live_some hs
        rw [q1, q2, q3] at HA
        have HS := Lib.hid (nowL_yes hs)
        obtain ⟨hj, hth⟩ := live_nat.1 hs
        obtain ⟨VS, VF, hBk, hSp, hFr, hSS⟩ := hT
        obtain ⟨gs, cs, rfl, hft, hcs, hgs, hks, a0, a1, ax, _⟩ := open_spot hSp hj
        have lg : g ∈ b :: S := by rw [hSS]; simp
        have lgs : gs ∈ b :: S := by rw [hSS]; simp [foot_some]
        have c2 := hBk.cell 2
        obtain ⟨m, hm⟩ : ∃ m, m = t.spots.length := ⟨_, rfl⟩
        rw [← hm] at c2 hks
        have k2 : (k : Int) < (m : Int) := by omega
        obtain ⟨G, hG⟩ : ∃ G, G = s.gen := ⟨_, rfl⟩
        obtain ⟨X, hX⟩ : ∃ X, X = s.thing := ⟨_, rfl⟩
        rw [← hX] at ax HS
        rw [← hG] at HA
        rw [← hG] at HS
        have hGs := X.size
        obtain ⟨XA, hXA⟩ : ∃ XA, XA = X.arr := ⟨_, rfl⟩
        rw [← hXA] at ax hGs
        have hen : Plc.encs ⟨(k : Nat), G, X⟩ = #[.agg #[.int .i64 (k : Nat), .int .u64 G], .agg XA] := by rw [hXA]; rfl
        obtain ⟨P9, hP9⟩ : ∃ P9 : Plc, P9 = ⟨(k : Nat), G, X⟩ := ⟨_, rfl⟩
        rw [← hP9] at HS hen
        clear q1 q2 q3 hs hj hth hBk hSp hFr hSS hft hm hG hX a0 a1 hB hJk hXA hP9
        gi_wp2_with (refine ⟨trivial, ?_⟩; gi_at_call 51; refine (callsIn_wide.2 (HA _ (HTW.out _ HB.out))).mono ?_; rintro e w1 ⟨rfl, hc1⟩; have hb1 : KeepL (b :: S) w ((w1.alloc (.cells #[.int .i64 (k : Nat), .int .u64 G] 33)).drew) := HB.out.trans (KeepL.chg ((hc1.then ((Chg.refl _ _).alloc _)).drew) (fun k hk => Nat.lt_of_lt_of_le (HLT.out k hk) HB.out.size)); have HB1 := Lib.hid hb1; have v0 := (hb1.cell (p := ⟨b, 0, none⟩) (by simp)).trans hV; have v1 := (hb1.cell (p := ⟨g, 2, none⟩) lg).trans c2; have vx : ∀ j v, XA[j]? = some v → ((w1.alloc (.cells #[.int .i64 (k : Nat), .int .u64 G] 33)).drew).cell? ⟨gs, k * 21 + 2 + j, none⟩ = some v := (fun j v hv => (hb1.cell (p := ⟨gs, k * 21 + 2 + j, none⟩) lgs).trans (ax j v hv)); have HC1 := Lib.hid hc1; clear hb1 hc1)
        have hJ2 : J (nowL t k) ((w1.alloc (.cells #[.int .i64 (k : Nat), .int .u64 G] 33)).drew) := hJ _ _ _ none HJk.out (grown_of_chg (((HC1.out).then ((Chg.refl _ _).alloc _)).drew)) (fun r e => by cases e)
        obtain ⟨fn, tmps, assign, body, hy, hRo⟩ := hY _ P9 _ hJ2 hlen
        rw [hen] at hy
        have hRo1 := hRo.mono (R' := fun e W' => ∃ bb : Bool, e = .returned (.bool bb) ∧ ((bb = true ∧ J (nowL t k ++ [P9]) W' ∧ KeepL (b :: S) ((w1.alloc (.cells #[.int .i64 (k : Nat), .int .u64 G] 33)).drew) W') ∨ (bb = false ∧ Jx (nowL t k ++ [P9]) W'))) (by
          rintro e W3 (⟨h1, h2, h3⟩ | ⟨h1, h2⟩)
          · exact ⟨true, h1, .inl ⟨rfl, h2, h3⟩⟩
          · exact ⟨false, h1, .inr ⟨rfl, h2⟩⟩)
        clear hRo hJ2 hen
        refine wpIn_region_any (by kernel_rfl) ?_
        change wpAnyIn _ _ _ _ _ _ _ _ _ (World.drew _)
        simp only [List.size_toArray, List.length_cons, List.length_nil, Array.replicate]
        refine wpAnyIn_take (i := 0) (v := ?_) rfl rfl (by kernel_rfl) (by kernel_rfl) (by kernel_rfl) (fun _ _ _ h => h) ⟨Or.inl ⟨by rfl, ?_⟩, fun _ => rfl⟩ ?_
        rotate_left
        · (intro w; go_simp; try with_reducible rfl)
        simp only [Act.put, List.getElem_toArray, List.getElem_cons_succ, List.getElem_cons_zero, List.setIfInBounds_toArray, List.set_cons_zero, List.set_cons_succ]
        refine wpAnyIn_take (i := 1) (v := ?_) rfl rfl (by kernel_rfl) (by kernel_rfl) (by kernel_rfl) (fun _ _ _ h => h) ⟨Or.inl ⟨by rfl, ?_⟩, fun _ => rfl⟩ ?_
        rotate_left
        · (intro w; go_simp; try with_reducible rfl)
        simp only [Act.put, List.getElem_toArray, List.getElem_cons_succ, List.getElem_cons_zero, List.setIfInBounds_toArray, List.set_cons_zero, List.set_cons_succ]
        refine wpAnyIn_take (i := 2) (v := ?_) rfl rfl (by kernel_rfl) (by kernel_rfl) (by kernel_rfl) (fun _ _ _ h => h) ⟨Or.inl ⟨by rfl, ?_⟩, fun _ => rfl⟩ ?_
        rotate_left
        · (intro w; go_simp; try with_reducible rfl)
        simp only [Act.put, List.getElem_toArray, List.getElem_cons_succ, List.getElem_cons_zero, List.setIfInBounds_toArray, List.set_cons_zero, List.set_cons_succ]
        refine wpAnyIn_take (i := 8) (v := ?_) rfl rfl (by kernel_rfl) (by kernel_rfl) (by kernel_rfl) (fun _ _ _ h => h) ⟨Or.inl ⟨by rfl, ?_⟩, fun _ => rfl⟩ ?_
        rotate_left
        · (intro w; go_simp; try with_reducible rfl)
        simp only [Act.put, List.getElem_toArray, List.getElem_cons_succ, List.getElem_cons_zero, List.setIfInBounds_toArray, List.set_cons_zero, List.set_cons_succ]
        refine wpAnyIn_ready (rs := [3, 4]) (by kernel_rfl) (by simp) ?_
        refine AllReadyIn.cons rfl (fun K hK => ?_) ?_
        · go_simp
          refine hK _ _ ?_
          clear hK K
          simp only [Act.put, List.getElem_toArray, List.getElem_cons_succ, List.getElem_cons_zero, List.setIfInBounds_toArray, List.set_cons_zero, List.set_cons_succ]
          refine wpAnyIn_ready (rs := [4]) (by kernel_rfl) (by simp) ?_
          refine AllReadyIn.cons rfl (fun K hK => ?_) AllReadyIn.nil
          go_simp
          refine hK _ _ ?_
          clear hK K
          simp only [Act.put, List.getElem_toArray, List.getElem_cons_succ, List.getElem_cons_zero, List.setIfInBounds_toArray, List.set_cons_zero, List.set_cons_succ]
          refine wpAnyIn_take (i := 5) (v := ?_) rfl rfl (by kernel_rfl) (by kernel_rfl) (by kernel_rfl) (fun _ _ _ h => h) ⟨Or.inl ⟨by rfl, ?_⟩, fun _ => rfl⟩ ?_
          rotate_left
          · (intro w; go_simp; try with_reducible rfl)
          simp only [Act.put, List.getElem_toArray, List.getElem_cons_succ, List.getElem_cons_zero, List.setIfInBounds_toArray, List.set_cons_zero, List.set_cons_succ]
          refine wpAnyIn_take (i := 6) (v := ?_) rfl rfl (by kernel_rfl) (by kernel_rfl) (by kernel_rfl) (fun _ _ _ h => h) ⟨Or.inl ⟨by rfl, ?_⟩, fun _ => rfl⟩ ?_
          rotate_left
          · (intro w; go_simp; try with_reducible rfl)
          simp only [Act.put, List.getElem_toArray, List.getElem_cons_succ, List.getElem_cons_zero, List.setIfInBounds_toArray, List.set_cons_zero, List.set_cons_succ]
          refine wpAnyIn_ready (rs := [7]) (by kernel_rfl) (by simp) ?_
          refine AllReadyIn.cons rfl (fun K hK => ?_) AllReadyIn.nil
          go_simp
          refine hK _ _ ?_
          clear hK K
          simp only [Act.put, List.getElem_toArray, List.getElem_cons_succ, List.getElem_cons_zero, List.setIfInBounds_toArray, List.set_cons_zero, List.set_cons_succ]
          refine wpAnyIn_take (i := 9) (v := ?_) rfl rfl (by kernel_rfl) (by kernel_rfl) (by kernel_rfl) (fun _ _ _ h => h) ⟨Or.inl ⟨by rfl, ?_⟩, fun _ => rfl⟩ ?_
          rotate_left
          · (intro w; go_simp; try with_reducible rfl)
          simp only [Act.put, List.getElem_toArray, List.getElem_cons_succ, List.getElem_cons_zero, List.setIfInBounds_toArray, List.set_cons_zero, List.set_cons_succ]
          refine wpAnyIn_take (i := 10) (v := ?_) rfl rfl (by kernel_rfl) (by kernel_rfl) (by kernel_rfl) (fun _ _ _ h => h) ⟨Or.inl ⟨by rfl, ?_⟩, fun _ => rfl⟩ ?_
          rotate_left
          · (intro w; go_simp; try with_reducible rfl)
          simp only [Act.put, List.getElem_toArray, List.getElem_cons_succ, List.getElem_cons_zero, List.setIfInBounds_toArray, List.set_cons_zero, List.set_cons_succ]
          refine wpAnyIn_ready (rs := [11]) (by kernel_rfl) (by simp) ?_
          refine AllReadyIn.cons rfl (fun K hK => ?_) AllReadyIn.nil
          rw [if_pos (by rfl)]
          refine wpIn_of_value (by simp) (by simp) (sk_run_load T37 hGs vx _ (by rfl) (by rfl)) ?_
          refine hK _ _ ?_
          clear hK K
          simp only [Act.put, List.getElem_toArray, List.getElem_cons_succ, List.getElem_cons_zero, List.setIfInBounds_toArray, List.set_cons_zero, List.set_cons_succ]
          refine wpAnyIn_ready (rs := [12]) (by kernel_rfl) (by simp) ?_
          refine AllReadyIn.cons rfl (fun K hK => ?_) AllReadyIn.nil
          go_simp
          gi_wp2_with (refine hRo1.mono ?_; rintro e W3 ⟨bb, rfl, h9⟩; have H9 := Lib.hid h9; clear h9)
          try (refine hK _ _ ?_; clear hK K)
          try simp only [Act.put, List.getElem_toArray, List.getElem_cons_succ, List.getElem_cons_zero, List.setIfInBounds_toArray, List.set_cons_zero, List.set_cons_succ]
          refine wpAnyIn_take (i := 13) (v := ?_) rfl rfl (by kernel_rfl) (by kernel_rfl) (by kernel_rfl) (fun _ _ _ h => h) ⟨Or.inl ⟨by rfl, ?_⟩, fun _ => rfl⟩ ?_
          rotate_left
          · (intro w; go_simp; try with_reducible rfl)
          simp only [Act.put, List.getElem_toArray, List.getElem_cons_succ, List.getElem_cons_zero, List.setIfInBounds_toArray, List.set_cons_zero, List.set_cons_succ]
          refine wpAnyIn_take (i := 14) (v := ?_) rfl rfl (by kernel_rfl) (by kernel_rfl) (by kernel_rfl) (fun _ _ _ h => h) ⟨Or.inl ⟨by rfl, ?_⟩, fun _ => rfl⟩ ?_
          rotate_left
          · (intro w; go_simp; try with_reducible rfl)
          simp only [Act.put, List.getElem_toArray, List.getElem_cons_succ, List.getElem_cons_zero, List.setIfInBounds_toArray, List.set_cons_zero, List.set_cons_succ]
          refine wpAnyIn_done (by kernel_rfl) ?_ _
          rcases H9.out with ⟨rfl, hJ3, hk3⟩ | ⟨rfl, hJx3⟩
          · have HJ3 := Lib.hid hJ3
            have HK3 := Lib.hid hk3
            clear hJ3 hk3 H9
            gi_wp2
            go_roundw
            case rel => exact ⟨k + 1, by omega, by go_num, HB1.out.trans HK3.out, by have := HK3.out.size; have := HC1.out.size; simp at *; omega, by rw [HS.out]; exact HJ3.out⟩
            case measure => simp [intOfN]; omega
          · have HJ3 := Lib.hid hJx3
            clear hJx3 H9
            gi_wp2
            refine bodyPost_ret (results_none rfl _ _ _) rfl ?_
            exact ⟨⟨_, rfl⟩, .inr ⟨_, by rw [← HS.out]; exact nowL_pre t _ _ (by omega), HJ3.out⟩⟩
        refine AllReadyIn.cons rfl (fun K hK => ?_) AllReadyIn.nil
        go_simp
        refine hK _ _ ?_
        clear hK K
        simp only [Act.put, List.getElem_toArray, List.getElem_cons_succ, List.getElem_cons_zero, List.setIfInBounds_toArray, List.set_cons_zero, List.set_cons_succ]
        refine wpAnyIn_take (i := 5) (v := ?_) rfl rfl (by kernel_rfl) (by kernel_rfl) (by kernel_rfl) (fun _ _ _ h => h) ⟨Or.inl ⟨by rfl, ?_⟩, fun _ => rfl⟩ ?_
        rotate_left
        · (intro w; go_simp; try with_reducible rfl)
        simp only [Act.put, List.getElem_toArray, List.getElem_cons_succ, List.getElem_cons_zero, List.setIfInBounds_toArray, List.set_cons_zero, List.set_cons_succ]
        refine wpAnyIn_take (i := 6) (v := ?_) rfl rfl (by kernel_rfl) (by kernel_rfl) (by kernel_rfl) (fun _ _ _ h => h) ⟨Or.inl ⟨by rfl, ?_⟩, fun _ => rfl⟩ ?_
        rotate_left
        · (intro w; go_simp; try with_reducible rfl)
        simp only [Act.put, List.getElem_toArray, List.getElem_cons_succ, List.getElem_cons_zero, List.setIfInBounds_toArray, List.set_cons_zero, List.set_cons_succ]
        refine wpAnyIn_ready (rs := [3, 7]) (by kernel_rfl) (by simp) ?_
        refine AllReadyIn.cons rfl (fun K hK => ?_) ?_
        · go_simp
          refine hK _ _ ?_
          clear hK K
          simp only [Act.put, List.getElem_toArray, List.getElem_cons_succ, List.getElem_cons_zero, List.setIfInBounds_toArray, List.set_cons_zero, List.set_cons_succ]
          refine wpAnyIn_ready (rs := [7]) (by kernel_rfl) (by simp) ?_
          refine AllReadyIn.cons rfl (fun K hK => ?_) AllReadyIn.nil
          go_simp
          refine hK _ _ ?_
          clear hK K
          simp only [Act.put, List.getElem_toArray, List.getElem_cons_succ, List.getElem_cons_zero, List.setIfInBounds_toArray, List.set_cons_zero, List.set_cons_succ]
          refine wpAnyIn_take (i := 9) (v := ?_) rfl rfl (by kernel_rfl) (by kernel_rfl) (by kernel_rfl) (fun _ _ _ h => h) ⟨Or.inl ⟨by rfl, ?_⟩, fun _ => rfl⟩ ?_
          rotate_left
          · (intro w; go_simp; try with_reducible rfl)
          simp only [Act.put, List.getElem_toArray, List.getElem_cons_succ, List.getElem_cons_zero, List.setIfInBounds_toArray, List.set_cons_zero, List.set_cons_succ]
          refine wpAnyIn_take (i := 10) (v := ?_) rfl rfl (by kernel_rfl) (by kernel_rfl) (by kernel_rfl) (fun _ _ _ h => h) ⟨Or.inl ⟨by rfl, ?_⟩, fun _ => rfl⟩ ?_
          rotate_left
          · (intro w; go_simp; try with_reducible rfl)
          simp only [Act.put, List.getElem_toArray, List.getElem_cons_succ, List.getElem_cons_zero, List.setIfInBounds_toArray, List.set_cons_zero, List.set_cons_succ]
          refine wpAnyIn_ready (rs := [11]) (by kernel_rfl) (by simp) ?_
          refine AllReadyIn.cons rfl (fun K hK => ?_) AllReadyIn.nil
          rw [if_pos (by rfl)]
          refine wpIn_of_value (by simp) (by simp) (sk_run_load T37 hGs vx _ (by rfl) (by rfl)) ?_
          refine hK _ _ ?_
          clear hK K
          simp only [Act.put, List.getElem_toArray, List.getElem_cons_succ, List.getElem_cons_zero, List.setIfInBounds_toArray, List.set_cons_zero, List.set_cons_succ]
          refine wpAnyIn_ready (rs := [12]) (by kernel_rfl) (by simp) ?_
          refine AllReadyIn.cons rfl (fun K hK => ?_) AllReadyIn.nil
          go_simp
          gi_wp2_with (refine hRo1.mono ?_; rintro e W3 ⟨bb, rfl, h9⟩; have H9 := Lib.hid h9; clear h9)
          try (refine hK _ _ ?_; clear hK K)
          try simp only [Act.put, List.getElem_toArray, List.getElem_cons_succ, List.getElem_cons_zero, List.setIfInBounds_toArray, List.set_cons_zero, List.set_cons_succ]
          refine wpAnyIn_take (i := 13) (v := ?_) rfl rfl (by kernel_rfl) (by kernel_rfl) (by kernel_rfl) (fun _ _ _ h => h) ⟨Or.inl ⟨by rfl, ?_⟩, fun _ => rfl⟩ ?_
          rotate_left
          · (intro w; go_simp; try with_reducible rfl)
          simp only [Act.put, List.getElem_toArray, List.getElem_cons_succ, List.getElem_cons_zero, List.setIfInBounds_toArray, List.set_cons_zero, List.set_cons_succ]
          refine wpAnyIn_take (i := 14) (v := ?_) rfl rfl (by kernel_rfl) (by kernel_rfl) (by kernel_rfl) (fun _ _ _ h => h) ⟨Or.inl ⟨by rfl, ?_⟩, fun _ => rfl⟩ ?_
          rotate_left
          · (intro w; go_simp; try with_reducible rfl)
          simp only [Act.put, List.getElem_toArray, List.getElem_cons_succ, List.getElem_cons_zero, List.setIfInBounds_toArray, List.set_cons_zero, List.set_cons_succ]
          refine wpAnyIn_done (by kernel_rfl) ?_ _
          rcases H9.out with ⟨rfl, hJ3, hk3⟩ | ⟨rfl, hJx3⟩
          · have HJ3 := Lib.hid hJ3
            have HK3 := Lib.hid hk3
            clear hJ3 hk3 H9
            gi_wp2
            go_roundw
            case rel => exact ⟨k + 1, by omega, by go_num, HB1.out.trans HK3.out, by have := HK3.out.size; have := HC1.out.size; simp at *; omega, by rw [HS.out]; exact HJ3.out⟩
            case measure => simp [intOfN]; omega
          · have HJ3 := Lib.hid hJx3
            clear hJx3 H9
            gi_wp2
            refine bodyPost_ret (results_none rfl _ _ _) rfl ?_
            exact ⟨⟨_, rfl⟩, .inr ⟨_, by rw [← HS.out]; exact nowL_pre t _ _ (by omega), HJ3.out⟩⟩
        refine AllReadyIn.cons rfl (fun K hK => ?_) AllReadyIn.nil
        go_simp
        refine hK _ _ ?_
        clear hK K
        simp only [Act.put, List.getElem_toArray, List.getElem_cons_succ, List.getElem_cons_zero, List.setIfInBounds_toArray, List.set_cons_zero, List.set_cons_succ]
        refine wpAnyIn_take (i := 9) (v := ?_) rfl rfl (by kernel_rfl) (by kernel_rfl) (by kernel_rfl) (fun _ _ _ h => h) ⟨Or.inl ⟨by rfl, ?_⟩, fun _ => rfl⟩ ?_
        rotate_left
        · (intro w; go_simp; try with_reducible rfl)
        simp only [Act.put, List.getElem_toArray, List.getElem_cons_succ, List.getElem_cons_zero, List.setIfInBounds_toArray, List.set_cons_zero, List.set_cons_succ]
        refine wpAnyIn_take (i := 10) (v := ?_) rfl rfl (by kernel_rfl) (by kernel_rfl) (by kernel_rfl) (fun _ _ _ h => h) ⟨Or.inl ⟨by rfl, ?_⟩, fun _ => rfl⟩ ?_
        rotate_left
        · (intro w; go_simp; try with_reducible rfl)
        simp only [Act.put, List.getElem_toArray, List.getElem_cons_succ, List.getElem_cons_zero, List.setIfInBounds_toArray, List.set_cons_zero, List.set_cons_succ]
        refine wpAnyIn_ready (rs := [3, 11]) (by kernel_rfl) (by simp) ?_
        refine AllReadyIn.cons rfl (fun K hK => ?_) ?_
        · go_simp
          refine hK _ _ ?_
          clear hK K
          simp only [Act.put, List.getElem_toArray, List.getElem_cons_succ, List.getElem_cons_zero, List.setIfInBounds_toArray, List.set_cons_zero, List.set_cons_succ]
          refine wpAnyIn_ready (rs := [11]) (by kernel_rfl) (by simp) ?_
          refine AllReadyIn.cons rfl (fun K hK => ?_) AllReadyIn.nil
          rw [if_pos (by rfl)]
          refine wpIn_of_value (by simp) (by simp) (sk_run_load T37 hGs vx _ (by rfl) (by rfl)) ?_
          refine hK _ _ ?_
          clear hK K
          simp only [Act.put, List.getElem_toArray, List.getElem_cons_succ, List.getElem_cons_zero, List.setIfInBounds_toArray, List.set_cons_zero, List.set_cons_succ]
          refine wpAnyIn_ready (rs := [12]) (by kernel_rfl) (by simp) ?_
          refine AllReadyIn.cons rfl (fun K hK => ?_) AllReadyIn.nil
          go_simp
          gi_wp2_with (refine hRo1.mono ?_; rintro e W3 ⟨bb, rfl, h9⟩; have H9 := Lib.hid h9; clear h9)
          try (refine hK _ _ ?_; clear hK K)
          try simp only [Act.put, List.getElem_toArray, List.getElem_cons_succ, List.getElem_cons_zero, List.setIfInBounds_toArray, List.set_cons_zero, List.set_cons_succ]
          refine wpAnyIn_take (i := 13) (v := ?_) rfl rfl (by kernel_rfl) (by kernel_rfl) (by kernel_rfl) (fun _ _ _ h => h) ⟨Or.inl ⟨by rfl, ?_⟩, fun _ => rfl⟩ ?_
          rotate_left
          · (intro w; go_simp; try with_reducible rfl)
          simp only [Act.put, List.getElem_toArray, List.getElem_cons_succ, List.getElem_cons_zero, List.setIfInBounds_toArray, List.set_cons_zero, List.set_cons_succ]
          refine wpAnyIn_take (i := 14) (v := ?_) rfl rfl (by kernel_rfl) (by kernel_rfl) (by kernel_rfl) (fun _ _ _ h => h) ⟨Or.inl ⟨by rfl, ?_⟩, fun _ => rfl⟩ ?_
          rotate_left
          · (intro w; go_simp; try with_reducible rfl)
          simp only [Act.put, List.getElem_toArray, List.getElem_cons_succ, List.getElem_cons_zero, List.setIfInBounds_toArray, List.set_cons_zero, List.set_cons_succ]
          refine wpAnyIn_done (by kernel_rfl) ?_ _
          rcases H9.out with ⟨rfl, hJ3, hk3⟩ | ⟨rfl, hJx3⟩
          · have HJ3 := Lib.hid hJ3
            have HK3 := Lib.hid hk3
            clear hJ3 hk3 H9
            gi_wp2
            go_roundw
            case rel => exact ⟨k + 1, by omega, by go_num, HB1.out.trans HK3.out, by have := HK3.out.size; have := HC1.out.size; simp at *; omega, by rw [HS.out]; exact HJ3.out⟩
            case measure => simp [intOfN]; omega
          · have HJ3 := Lib.hid hJx3
            clear hJx3 H9
            gi_wp2
            refine bodyPost_ret (results_none rfl _ _ _) rfl ?_
            exact ⟨⟨_, rfl⟩, .inr ⟨_, by rw [← HS.out]; exact nowL_pre t _ _ (by omega), HJ3.out⟩⟩
        refine AllReadyIn.cons rfl (fun K hK => ?_) AllReadyIn.nil
        rw [if_pos (by rfl)]
        refine wpIn_of_value (by simp) (by simp) (sk_run_load T37 hGs vx _ (by rfl) (by rfl)) ?_
        refine hK _ _ ?_
        clear hK K
        simp only [Act.put, List.getElem_toArray, List.getElem_cons_succ, List.getElem_cons_zero, List.setIfInBounds_toArray, List.set_cons_zero, List.set_cons_succ]
        refine wpAnyIn_ready (rs := [3]) (by kernel_rfl) (by simp) ?_
        refine AllReadyIn.cons rfl (fun K hK => ?_) AllReadyIn.nil
        go_simp
        refine hK _ _ ?_
        clear hK K
        simp only [Act.put, List.getElem_toArray, List.getElem_cons_succ, List.getElem_cons_zero, List.setIfInBounds_toArray, List.set_cons_zero, List.set_cons_succ]
        refine wpAnyIn_ready (rs := [12]) (by kernel_rfl) (by simp) ?_
        refine AllReadyIn.cons rfl (fun K hK => ?_) AllReadyIn.nil
        go_simp
        gi_wp2_with (refine hRo1.mono ?_; rintro e W3 ⟨bb, rfl, h9⟩; have H9 := Lib.hid h9; clear h9)
        try (refine hK _ _ ?_; clear hK K)
        try simp only [Act.put, List.getElem_toArray, List.getElem_cons_succ, List.getElem_cons_zero, List.setIfInBounds_toArray, List.set_cons_zero, List.set_cons_succ]
        refine wpAnyIn_take (i := 13) (v := ?_) rfl rfl (by kernel_rfl) (by kernel_rfl) (by kernel_rfl) (fun _ _ _ h => h) ⟨Or.inl ⟨by rfl, ?_⟩, fun _ => rfl⟩ ?_
        rotate_left
        · (intro w; go_simp; try with_reducible rfl)
        simp only [Act.put, List.getElem_toArray, List.getElem_cons_succ, List.getElem_cons_zero, List.setIfInBounds_toArray, List.set_cons_zero, List.set_cons_succ]
        refine wpAnyIn_take (i := 14) (v := ?_) rfl rfl (by kernel_rfl) (by kernel_rfl) (by kernel_rfl) (fun _ _ _ h => h) ⟨Or.inl ⟨by rfl, ?_⟩, fun _ => rfl⟩ ?_
        rotate_left
        · (intro w; go_simp; try with_reducible rfl)
        simp only [Act.put, List.getElem_toArray, List.getElem_cons_succ, List.getElem_cons_zero, List.setIfInBounds_toArray, List.set_cons_zero, List.set_cons_succ]
        refine wpAnyIn_done (by kernel_rfl) ?_ _
        rcases H9.out with ⟨rfl, hJ3, hk3⟩ | ⟨rfl, hJx3⟩
        · have HJ3 := Lib.hid hJ3
          have HK3 := Lib.hid hk3
          clear hJ3 hk3 H9
          gi_wp2
          go_roundw
          case rel => exact ⟨k + 1, by omega, by go_num, HB1.out.trans HK3.out, by have := HK3.out.size; have := HC1.out.size; simp at *; omega, by rw [HS.out]; exact HJ3.out⟩
          case measure => simp [intOfN]; omega
        · have HJ3 := Lib.hid hJx3
          clear hJx3 H9
          gi_wp2
          refine bodyPost_ret (results_none rfl _ _ _) rfl ?_
          exact ⟨⟨_, rfl⟩, .inr ⟨_, by rw [← HS.out]; exact nowL_pre t _ _ (by omega), HJ3.out⟩⟩
      · obtain ⟨q1, q2, q3, _⟩ := live_none hno
        rw [q1, q2, q3] at HA
        have HS := Lib.hid (nowL_no hno)
        clear q1 q2 q3 hno hB hJk
        gi_wp2_with (refine ⟨trivial, ?_⟩; gi_at_call 51; refine (callsIn_wide.2 (HA _ (HTW.out _ HB.out))).mono ?_; rintro e w1 ⟨rfl, hc1⟩; have HC1 := Lib.hid hc1; clear hc1)
        refine wpIn_region_quiet_lit rfl (by kernel_rfl) (by kernel_rfl) ?_
        repeat (refine wpQuietIn_step (by first | (go_simp; done) | (unfold Oper.askedIn; intros; trivial) | (go_simp; intros; trivial)) (fun K hK => ?_); go_simp; refine hK _ ?_; clear hK K)
        refine wpQuietIn_nil ?_
        intro _ hw'
        obtain ⟨nq, hw''⟩ := hw'
        subst hw''
        have hc9 : Chg [] wr ((w1.alloc (.cells #[.int .i64 0, .int .u64 0] 33)).drewN nq) := ((HC1.out).then ((Chg.refl _ _).alloc _)).drewN nq
        have HJ2 := Lib.hid (hJ _ _ _ none HJk.out (grown_of_chg hc9) (fun r e => by cases e))
        have HC9 := Lib.hid hc9
        clear hc9
        gi_wp2
        go_roundw
        case rel => exact ⟨k + 1, by omega, by go_num, HB.out.trans (KeepL.chg HC9.out (fun k hk => Nat.lt_of_lt_of_le (HLT.out k hk) HB.out.size)), by have := HC9.out.size; omega, by rw [HS.out]; exact HJ2.out⟩
        case measure => simp [intOfN]; omega
    · obtain rfl : k = N := by omega
      gi_wp2
      go_end0
      exact ⟨⟨_, rfl⟩, .inl ⟨_, rfl, hJk⟩⟩
end Go.Proofs
end
