import Derived.Test.YteghakaflpgjgaaDoorM7
import Derived.RangeFuncNested
import Derived.RangeFuncBound
import Derived.RangeFuncCalls
import Derived.RangeFuncLeaves
import Derived.RangeFuncFrom
import Derived.RangeFuncBox
import Derived.Shelf.Abstract
import Derived.Shelf.RegionOpen
import Derived.OwnWalkIn
import Derived.TacticsInMore
import Derived.LoopNIn
import Derived.LoopIn
import Derived.Sort.QuietIn
import Derived.Maps.AppendAt
import Derived.Laws.MakeOwn
import Derived.Deep.RegionWith
section
namespace Go.Proofs
open Go.RowKit Go.Shelf
set_option linter.unusedVariables false
set_option linter.unusedSimpArgs false
attribute [local go_sem] Oper.semAt_some

theorem grown_of_chg {W W' : World} (h : Chg [] W W') : W.grownBy W' none := ⟨h.os, h.tape, h.output, h.size, fun k hk _ => h.block k hk (by simp)⟩
/-- These blocks are as they were. -/
structure KeepL (L : List Nat) (A B : World) : Prop where
  size : A.heap.size ≤ B.heap.size
  block : ∀ k ∈ L, B.heap[k]? = A.heap[k]?
theorem KeepL.refl (L : List Nat) (A : World) : KeepL L A A := ⟨Nat.le_refl _, fun _ _ => rfl⟩
theorem KeepL.trans {L : List Nat} {A B C : World} (h : KeepL L A B) (k : KeepL L B C) : KeepL L A C := ⟨Nat.le_trans h.size k.size, fun i hi => (k.block i hi).trans (h.block i hi)⟩
theorem KeepL.chg {L : List Nat} {A B : World} (h : Chg [] A B) (hL : ∀ k ∈ L, k < A.heap.size) : KeepL L A B := ⟨h.size, fun k hk => h.block k (hL k hk) (by simp)⟩
theorem KeepL.cell {L : List Nat} {A B : World} (h : KeepL L A B) {p : Addr} (hp : p.block ∈ L) : B.cell? p = A.cell? p := World.cell?_of_block (h.block p.block hp)
theorem chunk_any (A : Option Addr) (n c : Nat) (w : World) : Calls Tryd.prog 26 #[.slice A n c, .int .i64 4] w fun e w' => e = .returned (.func (.func 37) #[] #[.pointer (some ⟨w.heap.size, 0, none⟩), .pointer (some ⟨w.heap.size + 1, 0, none⟩)]) ∧ w' = (w.alloc (.cells #[.slice A n c] 22)).alloc (.cells #[.int .i64 4] 3) := by
  go_enter Tryd.func26, Tryd.ntmps26
  go_wp2
  go_ret
  exact ⟨rfl, rfl⟩
/-- How many pieces of four there are. -/
def pieces (m : Nat) : Nat := (m + 3) / 4
def encC (bb o m : Nat) (k : Nat) : Array Value := #[.slice (some ⟨bb, o + 4 * k, none⟩) (min 4 (m - 4 * k)) (min 4 (m - 4 * k))]
theorem range_snoc (k : Nat) : List.range (k + 1) = List.range k ++ [k] := List.range_succ
set_option maxRecDepth 100000 in
set_option maxHeartbeats 3200000 in
/-- The iterator that goes over the pieces. -/
theorem chunk_in (n : Nat) (hn : 1 ≤ n) (l b1 b2 bb o m c : Nat) (A : Option Addr) (w : World) (hm : m ≤ 100000) (hmc : m ≤ c) (hc : c ≤ maxLen) (hA : 0 < m → A = some ⟨bb, o, none⟩) (hb1 : b1 < w.heap.size) (hb2 : b2 < w.heap.size)
    (hV : w.cell? ⟨b1, 0, none⟩ = some (.slice A m c)) (hN : w.cell? ⟨b2, 0, none⟩ = some (.int .i64 4))
    (J Jx : List Nat → World → Prop) (W : World) (hW : KeepL [b1, b2] w W) (hJ : AbidesFrom W.heap.size J)
    (hY : ∀ pre x W1, J pre W1 → pre.length < 100001 → YieldAt Fence.wide (n - 1) Tryd.prog l (encC bb o m x) W1 fun e W' =>
      (e = .returned (.bool true) ∧ J (pre ++ [x]) W' ∧ KeepL [b1, b2] W1 W') ∨ (e = .returned (.bool false) ∧ Jx (pre ++ [x]) W')) (h0 : J [] W) :
    CallsIn Fence.wide n Tryd.prog 37 #[.func (.yield l) #[] #[], .pointer (some ⟨b1, 0, none⟩), .pointer (some ⟨b2, 0, none⟩)] W fun e W' => (∃ v, e = .returned v) ∧ ((∃ ys, ys = List.range (pieces m) ∧ J ys W') ∨ (∃ pre, pre <+: List.range (pieces m) ∧ Jx pre W')) := by
  have hVW := (hW.cell (p := ⟨b1, 0, none⟩) (by simp)).trans hV
  have hNW := (hW.cell (p := ⟨b2, 0, none⟩) (by simp)).trans hN
  have HLT := Lib.hid (⟨hb1, hb2⟩ : b1 < w.heap.size ∧ b2 < w.heap.size)
  have HV := Lib.hid hV
  have HN := Lib.hid hN
  have HA := Lib.hid hA
  clear hV hN hA hb1 hb2
  refine callsIn_of_wp Tryd.func37 rfl trivial ?_ rfl
  simp only [Tryd.ntmps37, List.size_toArray, List.length_cons, List.length_nil, Nat.reduceAdd, Nat.reduceSub, Array.replicate_succ, Array.replicate_zero, List.push_toArray, List.append_toArray, List.nil_append, List.cons_append]
  gi_wp2
  gi_loopw [4] (fun iv wr => ∃ k : Nat, k ≤ pieces m ∧ iv = .int .i64 (4 * k : Nat) ∧ KeepL [b1, b2] w wr ∧ W.heap.size ≤ wr.heap.size ∧ J (List.range k) wr) (fun iv wr => 4 * pieces m - (intOf iv).toNat)
  case atStart => exact ⟨0, by omega, rfl, hW, Nat.le_refl _, by simpa using h0⟩
  case round =>
    obtain ⟨k, hk, rfl, hB, hz, hJk⟩ := hrel
    have hVr := (hB.cell (p := ⟨b1, 0, none⟩) (by simp)).trans HV.out
    have hNr := (hB.cell (p := ⟨b2, 0, none⟩) (by simp)).trans HN.out
    have hpm : pieces m = (m + 3) / 4 := rfl
    by_cases hlt : 4 * k < m
    · obtain rfl := HA.out (by omega)
      obtain ⟨i, hi⟩ : ∃ i, i = 4 * k := ⟨_, rfl⟩
      rw [← hi] at hlt ⊢
      have i0 : (0 : Int) ≤ (i : Int) := by omega
      have i1 : (i : Int) < (m : Int) := by omega
      have i2 : (i : Int) ≤ (m : Int) := by omega
      have hpl : (List.range k).length < 100001 := by rw [List.length_range]; omega
      gi_wp2
      gi_quiet (fail)
      have hc9 : Chg [] wr (wr.drewN nq) := (Chg.refl _ _).drewN nq
      have hJ2 : J (List.range k) (wr.drewN nq) := hJ _ _ _ none hJk (grown_of_chg hc9) (fun r e => by cases e)
      obtain ⟨fn, tmps, assign, body, hy, hRo⟩ := hY _ k _ hJ2 hpl
      have eL : ((4 * (k : Int) + min 4 ((m - 4 * k : Nat) : Int)).toNat - 4 * k) = min 4 (m - 4 * k) := by omega
      simp only [encC] at hy
      rw [← eL] at hy
      have HRo := Lib.hid hRo
      have HC9 := Lib.hid hc9
      have HB := Lib.hid hB
      clear hJ2 hRo hc9 hB hJk eL
      gi_wp2
      refine HRo.out.mono ?_
      rintro e W3 (⟨rfl, hJ3, hk3⟩ | ⟨rfl, hJx3⟩)
      · have HJ3 := Lib.hid hJ3
        have HK3 := Lib.hid hk3
        have hN3 := ((HB.out.trans ⟨HC9.out.size, fun k _ => rfl⟩).trans hk3 : KeepL [b1, b2] w W3)
        have hNr3 := (hN3.cell (p := ⟨b2, 0, none⟩) (by simp)).trans HN.out
        clear hJ3 hk3
        gi_wp2
        go_roundw
        case rel => exact ⟨k + 1, by omega, by first | rfl | (congr 1; omega), hN3, by have := HK3.out.size; have := HC9.out.size; omega, by rw [range_snoc]; exact HJ3.out⟩
        case measure => simp [intOf]; omega
      · have HJ3 := Lib.hid hJx3
        clear hJx3
        gi_wp2
        refine bodyPost_ret (results_none rfl _ _ _) rfl ?_
        refine ⟨⟨_, rfl⟩, .inr ⟨_, ?_, HJ3.out⟩⟩
        rw [← range_snoc]
        exact ⟨(List.range (pieces m)).drop (k + 1), by rw [show List.range (k + 1) = (List.range (pieces m)).take (k + 1) by rw [List.take_range, Nat.min_eq_left (by omega)], List.take_append_drop]⟩
    · have hke : k = pieces m := by omega
      have hq : ¬ ((4 * k : Nat) : Int) < (m : Int) := by omega
      gi_wp2
      go_end0
      rw [hke] at hJk
      refine ⟨⟨_, rfl⟩, .inl ?_⟩
      first | exact hJk | exact ⟨_, rfl, hJk⟩
theorem chunk_stops (n : Nat) (hn : 1 ≤ n) (b1 b2 bb o m c : Nat) (A : Option Addr) (w : World) (hm : m ≤ 100000) (hmc : m ≤ c) (hc : c ≤ maxLen) (hA : 0 < m → A = some ⟨bb, o, none⟩) (hb1 : b1 < w.heap.size) (hb2 : b2 < w.heap.size)
    (hV : w.cell? ⟨b1, 0, none⟩ = some (.slice A m c)) (hN : w.cell? ⟨b2, 0, none⟩ = some (.int .i64 4)) :
    SeqStopsK Fence.wide n Tryd.prog 37 #[.pointer (some ⟨b1, 0, none⟩), .pointer (some ⟨b2, 0, none⟩)] (encC bb o m) (KeepL [b1, b2]) (fun ys => ys = List.range (pieces m)) (fun pre => pre <+: List.range (pieces m)) 100001 w := fun l J Jx W hW hJ _ hY h0 =>
  chunk_in n hn l b1 b2 bb o m c A w hm hmc hc hA hb1 hb2 hV hN J Jx W ⟨hW.size, fun k hk => hW.block k (by
    simp at hk
    rcases hk with rfl | rfl
    · exact hb1
    · exact hb2)⟩ hJ hY h0
end Go.Proofs
end
section
namespace Go.Proofs
open Go.RowKit Go.Shelf
set_option linter.unusedVariables false
set_option linter.unusedSimpArgs false
attribute [local go_sem] Oper.semAt_some

theorem piece_by {w : World} {A : Option Addr} {m c bb o : Nat} {l : List UInt8} (h : By w (.slice A m c) l) (hA : 0 < m → A = some ⟨bb, o, none⟩) (x : Nat) : By w (.slice (some ⟨bb, o + 4 * x, none⟩) (min 4 (m - 4 * x)) (min 4 (m - 4 * x))) ((l.drop (4 * x)).take 4) := by
  have hm : m = l.length := by obtain ⟨A', c', e, _⟩ := h; injection e
  subst hm
  by_cases hx : 4 * x < l.length
  · obtain rfl := hA (by omega)
    have hc := h.val
    obtain ⟨_, c', e, h1, h2⟩ := hc
    injection e with _ _ e
    subst e
    have := h.cut (i := 4 * x) (m := min 4 (l.length - 4 * x)) (c' := min 4 (l.length - 4 * x)) (by omega) (Nat.le_refl _) (by omega)
    have e : (l.drop (4 * x)).take (min 4 (l.length - 4 * x)) = (l.drop (4 * x)).take 4 := by
      rw [← List.length_drop, List.take_eq_take_iff]
      omega
    rw [e] at this; exact this
  · have e : (l.drop (4 * x)).take 4 = [] := by rw [List.drop_eq_nil_of_le (by omega)]; rfl
    rw [e, show min 4 (l.length - 4 * x) = 0 by omega]
    exact ⟨_, 0, rfl, Nat.le_refl _, by simp [maxLen], fun k u hk => by simp [Lib.byteCells] at hk⟩
theorem not_cells_block {A : World} {b : Nat} {t : TypeId} {cs : Array Value} {fz : Nat × Nat} {row : Option Nat} (h : A.heap[b]? = some (.cells cs t fz)) (hr : ∀ r, row = some r → ∃ o : Obj, A.heap[r]? = some o ∧ o.isCells = false) : some b ≠ row := fun e => by
  obtain ⟨o, ho, hc⟩ := hr b e.symm
  rw [h] at ho; cases ho; cases hc
theorem Blk.at (w : World) (t : TypeId) (cs : Array Value) {n : Nat} (h : n = w.heap.size) : Blk (w.alloc (.cells cs t)) n t cs := by subst h; exact Blk.new w t cs
theorem blk_keep {A B : World} {b : Nat} {t : TypeId} {cs : Array Value} {row : Option Nat} (h : Blk A b t cs) (hg : A.grownBy B row) (hr : ∀ r, row = some r → ∃ o : Obj, A.heap[r]? = some o ∧ o.isCells = false) : Blk B b t cs :=
  h.same (hg.block b h.lt (not_cells_block h hr))
theorem Blk.below {A B : World} {b : Nat} {t : TypeId} {cs : Array Value} (h : Blk A b t cs) (hb : Below A.heap.size A B) : Blk B b t cs := h.same (hb.block b h.lt)
theorem Blk.others {A B : World} {b c : Nat} {t : TypeId} {cs : Array Value} (h : Blk A b t cs) (hk : Lib.OthersKept 5 (some c) A B) (hne : b ≠ c) (ht : t ≠ 5) : Blk B b t cs :=
  hk b _ h (by simpa using hne) (fun c fz e => by cases e; exact ht rfl)
theorem keeps_of {A B C : World} {b : Nat} (h : Below A.heap.size A B) (hk : Lib.OthersKept 5 (some b) B C) (hs : B.heap.size ≤ C.heap.size) (hc : ∃ t cs, Blk A b t cs) : KeepsOthers A C :=
  ⟨Nat.le_trans h.size hs, fun k o hko ho => by
    have hlt := (Array.getElem?_eq_some_iff.1 hko).1
    refine hk k o ((h.block k hlt).trans hko) (fun e => ?_) (fun c fz e => by rw [e] at ho; cases ho)
    obtain ⟨t, cs, hb⟩ := hc
    cases e
    unfold Blk at hb
    rw [hko] at hb; cases hb; cases ho⟩
theorem builderF_blk {T e : TypeId} {b c : Nat} {bs : List Value} {A : World} (h : Lib.IsBuilderF T e b c bs A) : ∃ t cs, Blk A c t cs := by
  rcases h with ⟨_, v, h2, _⟩ | ⟨_, v, h2, _⟩ <;> exact ⟨_, _, h2⟩
theorem builderF_keep {T e : TypeId} {b c : Nat} {bs : List Value} {A B : World} {row : Option Nat} (h : Lib.IsBuilderF T e b c bs A) (hg : A.grownBy B row) (hr : ∀ r, row = some r → ∃ o : Obj, A.heap[r]? = some o ∧ o.isCells = false) : Lib.IsBuilderF T e b c bs B := by
  have : ∀ p, Lib.BuilderAtF T e b c p bs A → Lib.BuilderAtF T e b c p bs B := fun p ⟨h1, v, h2, h3, h4⟩ => by
    refine ⟨h1, v, (hg.block c (Array.getElem?_eq_some_iff.1 h2).1 (not_cells_block h2 hr)).trans h2, h3.kept hg ?_, h4⟩
    cases hv : v.ownBlock with
    | none => exact .inl rfl
    | some g =>
      right
      obtain ⟨cc, fz, hgg⟩ := Lib.ownsRowF_kind h3 g hv
      exact not_cells_block hgg hr
  exact h.imp (this _) (this _)
theorem builderF_below {T e : TypeId} {b c : Nat} {bs : List Value} {A B : World} (h : Lib.IsBuilderF T e b c bs A) (hb : Below A.heap.size A B) : Lib.IsBuilderF T e b c bs B :=
  builderF_keep (row := none) h ⟨hb.os, hb.tape, hb.output, hb.size, fun i hi _ => hb.block i hi⟩ (fun r e => by cases e)
def txP (l : List UInt8) (ks : List Nat) : List UInt8 := ks.flatMap fun k => lineAt l k ++ [10]
theorem txP_snoc (l : List UInt8) (ks : List Nat) (k : Nat) : txP l (ks ++ [k]) = txP l ks ++ (lineAt l k ++ [10]) := by simp [txP]
theorem txP_length (l : List UInt8) (ks : List Nat) : (txP l ks).length ≤ 27 * ks.length := by
  unfold txP
  induction ks with
  | nil => simp
  | cons k r ih =>
    have : (lineAt l k).length ≤ 26 := line_length (take4_le _)
    rw [List.flatMap_cons, List.length_append, List.length_append]
    simp only [List.length_cons, List.length_nil]; omega
theorem txP_all (l : List UInt8) : txP l (List.range (pieces l.length)) = textP l := rfl
theorem strCells_bys (s : List UInt8) : Lib.strCells ⟨s.toArray⟩ = bys s := rfl
set_option maxRecDepth 100000 in
set_option maxHeartbeats 3200000 in
theorem text_any (V : Value) (l : List UInt8) (hl : l.length ≤ 100000) (w : World) (hT : Ta w) (h : By w V l) : Calls Tryd.prog 18 #[V] w fun e w' => e = .returned (.string ⟨(textP l).toArray⟩) ∧ Below w.heap.size w w' := by
  obtain ⟨A, c, rfl, hc1, hc2, hcell⟩ := id h
  obtain ⟨bb, o, hA⟩ : ∃ bb o, 0 < l.length → A = some ⟨bb, o, none⟩ := by
    by_cases h0 : 0 < l.length
    · obtain ⟨b, o, e, _⟩ := hcell 0 _ (bys_at (List.getElem?_eq_getElem h0))
      exact ⟨b, o, fun _ => e⟩
    · exact ⟨0, 0, fun q => absurd q h0⟩
  refine (callsIn_wide (n := 6)).1 ?_
  refine callsIn_of_wp_marks Tryd.func18 rfl trivial ?_ rfl
  simp only [Tryd.ntmps18, List.size_toArray, List.length_cons, List.length_nil, Nat.reduceAdd, Nat.reduceSub, Array.replicate_succ, Array.replicate_zero, List.push_toArray, List.append_toArray, List.nil_append, List.cons_append]
  gi_wp2_with (first
    | (refine ⟨trivial, ?_⟩; gi_at_call 24; refine (callsIn_wide.2 (forms_any _)).mono ?_; rintro e w1 ⟨rfl, hF1, hb1⟩)
    | (refine ⟨trivial, ?_⟩; gi_at_call 26; refine (callsIn_wide.2 (chunk_any _ _ _ _)).mono ?_; rintro e w2 ⟨rfl, rfl⟩))
  have hsz1 : w.heap.size ≤ w1.heap.size := hb1.size
  obtain ⟨W2, hW2⟩ : ∃ W2, W2 = w1.alloc (.cells #[.map (some w.heap.size)] 48) := ⟨_, rfl⟩
  have h2s : W2.heap.size = w1.heap.size + 1 := by rw [hW2]; simp
  have hbA : Blk W2 w1.heap.size 48 #[.map (some w.heap.size)] := by rw [hW2]; exact Blk.new w1 48 _
  have hb2 : Below w.heap.size w W2 := by rw [hW2]; exact hb1.alloc hsz1 _
  have hF2 : FormsAt W2 w.heap.size := by rw [hW2]; exact hF1.below ((Below.refl _ _).alloc (Nat.le_refl _) _)
  have hT2 := hT.below hb2
  have hV2 := By.below h hb2
  have hbB := Lib.IsBuilderF.of (Lib.fresh_isBuilder 54 5 W2)
  rw [← hW2]
  have e1 : w1.heap.size + 1 = W2.heap.size := h2s.symm
  rw [e1]
  have hbA2 := hbA.lt
  obtain ⟨a3, ha3⟩ : ∃ a3, a3 = w1.heap.size := ⟨_, rfl⟩
  rw [← ha3] at hbA hbA2 ⊢
  clear hW2 hF1 hb1 h2s e1 ha3 hT h hsz1
  obtain ⟨B, hB⟩ : ∃ B, B = W2.heap.size := ⟨_, rfl⟩
  rw [← hB] at hbB ⊢
  obtain ⟨W0, hW0⟩ : ∃ W0, W0 = ((W2.alloc (.cells #[.pointer none, .slice none 0 0] 54)).alloc (.cells #[.slice A l.length c] 22)).alloc (.cells #[.int .i64 4] 3) := ⟨_, rfl⟩
  rw [← hW0]
  have h0s : W0.heap.size = B + 3 := by rw [hW0, hB]; simp
  have h20 : Below B W2 W0 := by rw [hW0, hB]; exact (((Below.refl _ _).alloc (Nat.le_refl _) _).alloc (by simp) _).alloc (by simp; omega) _
  have hbB0 : Lib.IsBuilderF 54 5 B B [] W0 := by rw [hW0]; exact (hbB.alloc _).alloc _
  have q1 : Blk W0 (B + 1) 22 #[.slice A l.length c] := by
    have := (Blk.at (W2.alloc (.cells #[.pointer none, .slice none 0 0] 54)) 22 #[.slice A l.length c] (n := B + 1) (by simp [hB])).alloc (.cells #[.int .i64 4] 3)
    rw [hW0]; exact this
  have q2 : Blk W0 (B + 1 + 1) 3 #[.int .i64 4] := by
    have := Blk.at ((W2.alloc (.cells #[.pointer none, .slice none 0 0] 54)).alloc (.cells #[.slice A l.length c] 22)) 3 #[.int .i64 4] (n := B + 1 + 1) (by simp [hB])
    rw [hW0]; exact this
  clear hbB hW0
  have HB2 := Lib.hid hB
  clear hB
  refine wpIn_rangeFunc_ownF rfl (by omega) (gf := 37) (lb := #[.pointer (some ⟨B + 1, 0, none⟩), .pointer (some ⟨B + 1 + 1, 0, none⟩)]) rfl trivial (enters_of Tryd.func37 (by kernel_rfl) rfl)
    (chunk_stops (6 - 1) (by omega) (B + 1) (B + 1 + 1) bb o l.length c A W0 hl hc1 hc2 hA (by omega) (by omega) (q1.cell 0) (q2.cell 0)) (fun h k => h.trans k)
    (fun W l o o' hl ho hcc _ => ⟨by simp [World.putObj], fun k hk => (grownBy_putObj' W l o').block k (by have := (Array.getElem?_eq_some_iff.1 ho).1; simp at hk; omega) (fun e => by cases e; simp at hk; omega)⟩)
    (Below.refl _ _) (fun _ => rfl)
    (fun pre W => (Lib.IsBuilderF 54 5 B B (bys (txP l pre)) W ∧ Blk W (B + 1) 22 #[.slice A l.length c] ∧ Blk W (B + 1 + 1) 3 #[.int .i64 4]) ∧ Below B W0 W)
    (fun _ _ _ => False)
    (OwnFrom.and (fun s A B row hs hg hr => ⟨builderF_keep hs.1 hg (fun r e => (hr r e).2), blk_keep hs.2.1 hg (fun r e => (hr r e).2), blk_keep hs.2.2 hg (fun r e => (hr r e).2)⟩) (ownFrom_below (by omega) (by omega)))
    (fun _ _ _ _ _ hs _ _ => hs)
    ⟨⟨hbB0, q1, q2⟩, Below.refl _ _⟩
    (fun x => { tmps := #[.slice A l.length c, undef, .string ⟨#[]⟩, .pointer (some ⟨a3, 0, none⟩), .pointer (some ⟨B, 0, none⟩), .slice (some ⟨bb, o + 4 * x, none⟩) (min 4 (l.length - 4 * x)) (min 4 (l.length - 4 * x)), .map (some w.heap.size), .slice A l.length c, .func (.func 37) #[] #[.pointer (some ⟨B + 1, 0, none⟩), .pointer (some ⟨B + 1 + 1, 0, none⟩)], .slice (some ⟨bb, o + 4 * x, none⟩) (min 4 (l.length - 4 * x)) (min 4 (l.length - 4 * x)), undef, undef, undef, undef, undef, undef], defers := [] }) ?assign ?body ?done ?stop
  case assign =>
    intro l x W K hK
    simp only [encC]
    gi_wp2
    exact hK
  case body =>
    rintro r pre x W ⟨⟨hI, hq1, hq2⟩, hbw⟩ hlp
    have h2W := h20.trans hbw
    have h2W' : Below W2.heap.size W2 W := by rw [← HB2.out]; exact h2W
    have a0 := (h2W.cell (p := ⟨a3, 0, none⟩) (by show a3 < B; have := HB2.out; omega)).trans (hbA.cell 0)
    have hBW : B ≤ W.heap.size := by have := hbw.size; omega
    have hline := (callsIn_wide (n := 6 - 1 - 1 - 1)).2 (line_any _ ((l.drop (4 * x)).take 4) (take4_le _) w.heap.size W (hF2.below h2W') (hT2.below h2W') (piece_by (By.below hV2 h2W') hA x))
    have hlA : lineAt l x = lineP ((l.drop (4 * x)).take 4) := rfl
    rw [← hlA] at hline
    have hll : (lineAt l x).length ≤ 26 := line_length (take4_le (l.drop (4 * x)))
    obtain ⟨sB, hsB⟩ : ∃ sB : ByteArray, sB = ⟨(lineAt l x).toArray⟩ := ⟨_, rfl⟩
    have hss : sB.size ≤ 26 := by rw [hsB, str_size]; exact hll
    have hcat : sB ++ ({ data := #[10] } : ByteArray) = ⟨(lineAt l x ++ [10]).toArray⟩ := by rw [hsB]; exact str_append _ _
    rw [← hsB] at hline
    have hws := fun W3 (hb3 : Below W.heap.size W W3) => (callsIn_wide (n := 6 - 1 - 1 - 1)).2 (writeString_k B B (bys (txP l pre)) (sB ++ ({ data := #[10] } : ByteArray)) W3 (builderF_below hI hb3) (by
      have := txP_length l pre
      rw [hcat, str_size, bys_length]; simp; omega) (by have := hb3.size; omega))
    have hcatH := Lib.hid hcat
    clear hcat hlA hsB hll
    gi_wp2_with (first
      | (refine ⟨trivial, ?_⟩; gi_at_call 28; refine hline.mono ?_; rintro e W3 ⟨rfl, hb3⟩)
      | (refine ⟨trivial, ?_⟩; gi_at_call 27; refine (hws W3 hb3).mono ?_; rintro e W4 ⟨rfl, hI4, hb4, hk4⟩))
    refine ⟨keeps_of hb3 hk4 hb4.size (builderF_blk hI), ⟨Nat.le_trans hb3.size hb4.size, fun k hk => ?_⟩, ⟨?_, (hq1.below hb3).others hk4 (by omega) (by decide), (hq2.below hb3).others hk4 (by omega) (by decide)⟩, hbw.trans ((hb3.mono hBW).trans hb4)⟩
    · simp at hk
      rcases hk with rfl | rfl
      · rw [hq1]; exact (hq1.below hb3).others hk4 (by omega) (by decide)
      · rw [hq2]; exact (hq2.below hb3).others hk4 (by omega) (by decide)
    · rw [txP_snoc, bys_append, ← strCells_bys (lineAt l x ++ [10]), ← hcatH.out]
      exact .inr hI4
  case done =>
    rintro D ks W hD rfl ⟨⟨hI, hq1, hq2⟩, hbw⟩ hK
    rw [txP_all] at hI
    have hBW : B ≤ W.heap.size := by have := hbw.size; omega
    have hS := (callsIn_wide (n := 6 - 1)).2 (Tryd.Builder_String_any_k B B (textP l) W hI hBW)
    gi_wp2_with (refine ⟨trivial, ?_⟩; gi_at_call 29; refine hS.mono ?_; rintro e W3 ⟨rfl, hI3, hb3, hk3⟩)
    have hK' : W3.heap[D]? = some (.deferred (some [])) := hk3 D _ hK (by simp; omega) (fun c fz e => by cases e)
    refine ⟨by simp, .inl ⟨_, _, rfl, run_takeDeferred hK', ?_⟩⟩
    have hbb : Below w.heap.size w W3 := hb2.trans (((h20.trans hbw).trans hb3).mono (by have := HB2.out; have := hb2.size; omega))
    exact ⟨_, results_tmp rfl _ _ _, rfl, hbb.trans (belowK_b (w := w) (Nat.le_refl _) _ D _ _ (by have := HB2.out; have := hb2.size; omega) hK' rfl rfl)⟩
  case stop =>
    rintro D c pre W _ _ h _
    exact h.elim
end Go.Proofs
end
section
namespace Go.Proofs
open Go.RowKit
set_option linter.unusedVariables false
set_option linter.unusedSimpArgs false

/-! ### Bytes of instructions; what stands at a place -/
def flatI (l : List Ins) : List UInt8 := l.flatMap Ins.bytes
theorem flatI_length (l : List Ins) : (flatI l).length = 4 * l.length := by
  unfold flatI
  induction l with
  | nil => rfl
  | cons x r ih => rw [List.flatMap_cons, List.length_append, ih]; simp [Ins.bytes]; omega
theorem flatI_append (a b : List Ins) : flatI (a ++ b) = flatI a ++ flatI b := by simp [flatI]
theorem flatI_at {l : List Ins} {k : Nat} {x : Ins} (h : l[k]? = some x) : (flatI l)[4 * k]? = some x.o ∧ (flatI l)[4 * k + 1]? = some x.a ∧ (flatI l)[4 * k + 2]? = some x.b ∧ (flatI l)[4 * k + 3]? = some x.c := by
  induction l generalizing k with
  | nil => simp at h
  | cons y r ih =>
    cases k with
    | zero =>
      simp at h; subst h
      simp [flatI, Ins.bytes]
    | succ k =>
      have := ih (k := k) (by simpa using h)
      have e : ∀ j, (flatI (y :: r))[4 * (k + 1) + j]? = (flatI r)[4 * k + j]? := fun j => by
        show (y.bytes ++ flatI r)[4 * (k + 1) + j]? = _
        rw [List.getElem?_append_right (by simp [Ins.bytes]; omega)]
        congr 1; simp [Ins.bytes]; omega
      have e0 := e 0
      simp only [Nat.add_zero] at e0
      rw [e0, e, e, e]; exact this
theorem Row.empty (w : World) (g cap : Nat) (cs : Array Value) (e : TypeId) (h : Blk w g e cs) (hc : cap ≤ maxLen) (hs : cs.size = cap) : Row w e 1 (.slice (some ⟨g, 0, none⟩) 0 cap) 0 [] :=
  ⟨rfl, .inr ⟨g, cap, cs, rfl, h, by omega, hc, by omega, by simp⟩⟩
theorem len_any (V : Value) (l : List UInt8) (hl : l.length ≤ 1000000) (w : World) (h : By w V l) : Calls Tryd.prog 12 #[V] w fun e w' => e = .returned (.int .i64 (l.length / 4 : Nat)) ∧ w' = w := by
  obtain ⟨A, c, rfl, _⟩ := h.val
  generalize l.length = n at *
  have hd : ((n : Int).tdiv 4) = ((n / 4 : Nat) : Int) := by rw [Int.tdiv_eq_ediv_of_nonneg (by omega)]; omega
  clear h
  go_enter Tryd.func12, Tryd.ntmps12
  go_wp2
  go_ret
  exact ⟨by first | rfl | (congr 2) , rfl⟩
set_option maxHeartbeats 2000000 in
set_option maxRecDepth 100000 in
theorem bytes_any (V : Value) (l : List Ins) (hl : l.length ≤ 100000) (w : World) (h : Cs w V l.length (bys (flatI l))) :
    Calls Tryd.prog 13 #[V] w fun e w' => ∃ R, e = .returned R ∧ Row w' 5 1 R (4 * l.length) (bys (flatI l)) ∧ (∀ k ∈ foot R, w.heap.size ≤ k) ∧ Below w.heap.size w w' := by
  obtain ⟨A, c, rfl, hc1, hc2, hcell⟩ := h
  obtain ⟨n, hn⟩ : ∃ n, n = l.length := ⟨_, rfl⟩
  rw [← hn] at hc1 hl ⊢
  have hnH := Lib.hid hn
  have hcellH := Lib.hid hcell
  clear hcell hn
  obtain ⟨_, i0, z0, hi0, hz0, hz1, hz2, _⟩ := elt_bytes
  obtain ⟨w1, hmk, hown, hgrow⟩ := run_makeSlice_owned (P := Tryd.prog) w w.heap.size 22 5 i0 z0 1 Tryd.underlying22 hi0 hz0 hz1 .i64 .i64 (4 * n) (by omega) (by rw [hz2]; omega) (by unfold maxLen; omega) (Nat.le_refl _)
  rw [show ((4 * n : Nat) : Int) = 4 * (n : Int) by omega] at hmk
  have hb1 : Below w.heap.size w w1 := (Below.refl _ w).grown hgrow (Nat.le_refl _) (fun k e => by cases e)
  have hS := Lib.hid (⟨Row.of_own hown, hb1⟩ : _ ∧ _)
  clear hown hgrow hb1 hi0 hz0 hz1 hz2
  go_enter Tryd.func13, Tryd.ntmps13
  go_wp2
  go_loopw [3, 12] (fun v i wr => ∃ (k : Nat) (B : Option Addr) (cc : Nat), v = .slice B (4 * k) cc ∧ i = .int .i64 k ∧ k ≤ n ∧ Hid (Row wr 5 1 (.slice B (4 * k) cc) (4 * k) (bys (flatI (l.take k))) ∧ (∀ j ∈ foot (.slice B (4 * k) cc), w.heap.size ≤ j) ∧ Below w.heap.size w wr)) (fun _ i _ => n - (intOf i).toNat)
  case atStart =>
    exact ⟨0, _, _, rfl, rfl, by omega, Lib.hid ⟨hS.out.1, fun j hj => by simp [foot_some] at hj; omega, hS.out.2⟩⟩
  case round =>
    obtain ⟨k, B, cc, rfl, rfl, hk, hI⟩ := hrel
    by_cases hkn : k < n
    · obtain ⟨x, hx⟩ : ∃ x, l[k]? = some x := ⟨_, List.getElem?_eq_getElem (by have := hnH.out; omega)⟩
      obtain ⟨f0, f1, f2, f3⟩ := flatI_at hx
      obtain ⟨g, o, rfl, hlt, q0⟩ := hcellH.out _ _ (bys_at f0)
      have hq : ∀ j u, (bys (flatI l))[4 * k + j]? = some u → wr.cell? ⟨g, o + (4 * k + j), none⟩ = some u := fun j u hu => by
        obtain ⟨g', o', he, _, q⟩ := hcellH.out _ _ hu
        simp only [Option.some.injEq, Addr.mk.injEq, and_true] at he
        obtain ⟨rfl, rfl⟩ := he
        exact (hI.out.2.2.cell (p := ⟨g, o + (4 * k + j), none⟩) hlt).trans q
      have e : ∀ j, o + (4 * k + j) = o + k * 4 + j := fun j => by omega
      have p0 := hq 0 _ (bys_at f0)
      have p1 := hq 1 _ (bys_at f1)
      have p2 := hq 2 _ (bys_at f2)
      have p3 := hq 3 _ (bys_at f3)
      rw [e] at p0 p1 p2 p3
      rw [Nat.add_zero] at p0
      have hxH := Lib.hid hx
      have hbd := ((Below.refl wr.heap.size wr).alloc (Nat.le_refl _) (.cells x.arr 26)).alloc (by simp) (.cells #[.int .u8 x.o.toNat, .int .u8 x.a.toNat, .int .u8 x.b.toNat, .int .u8 x.c.toNat] 5)
      have hR2 := Lib.hid (hI.out.1.below hbd)
      have hC2 := Lib.hid (show Cs ((wr.alloc (.cells x.arr 26)).alloc (.cells #[.int .u8 x.o.toNat, .int .u8 x.a.toNat, .int .u8 x.b.toNat, .int .u8 x.c.toNat] 5)) (.slice (some ⟨wr.heap.size + 1, 0, none⟩) 4 4) 4 (bys x.bytes) by
        have := Cs.new (wr.alloc (.cells x.arr 26)) (bys x.bytes) 5 4 (by unfold maxLen; omega)
        simpa [Lib.byteCells, Ins.bytes] using this)
      have hbdH := Lib.hid hbd
      clear hq f0 f1 f2 f3 hx q0 e hbd
      go_wp2_with (at_builtin; refine wpList_append_cs elt_bytes (by decide) _ rfl _ _ (by rfl) (by rfl) (by rfl) hR2.out hC2.out rfl (bys_one _) (by unfold maxLen; omega) (by omega) (k := 4 * (k + 1)) (by omega) ?_; intro A' c' w' hr hg hf)
      go_roundw
      case rel =>
        have hxx := hxH.out
        refine ⟨k + 1, _, _, rfl, by simp, by omega, Lib.hid ⟨?_, fun j hj => ?_, ?_⟩⟩
        · have e : bys (flatI (l.take (k + 1))) = bys (flatI (l.take k)) ++ bys x.bytes := by
            rw [List.take_add_one, hxx, Option.toList_some, flatI_append, ← bys_append]; simp [flatI]
          rw [e]; exact hr
        · rcases hf j hj with h1 | h1
          · exact hI.out.2.1 j h1
          · exact Nat.le_trans (Nat.le_trans hI.out.2.2.size hbdH.out.size) h1
        · have hb1 := hI.out.2.2.trans (hbdH.out.mono hI.out.2.2.size)
          exact hb1.grown hg (by have := hb1.size; omega) (fun q hq => hI.out.2.1 q (row_mem hq))
      case measure => simp [intOf]; omega
    · obtain rfl : k = n := by omega
      have e : l.take k = l := by rw [hnH.out, List.take_length]
      go_wp2
      go_ret
      exact ⟨_, rfl, by have := hI.out.1; rw [e] at this; exact this, hI.out.2.1, hI.out.2.2⟩
end Go.Proofs
end
section
namespace Go.Proofs
open Go.RowKit
set_option linter.unusedVariables false
set_option linter.unusedSimpArgs false

def insAt (l : List UInt8) (k : Nat) : Ins := ⟨l.getD (4 * k) 0, l.getD (4 * k + 1) 0, l.getD (4 * k + 2) 0, l.getD (4 * k + 3) 0⟩
/-- What stands at a place of a program, or by which error none does. -/
def decodeP (l : List UInt8) (pc : Int) : Ins × Int :=
  if 0 ≤ pc ∧ 4 * pc = l.length then (Ins.zero, 4)
  else if pc < 0 ∨ (l.length : Int) < 4 * pc + 4 then (Ins.zero, 7)
  else if (insAt l pc.toNat).is then (insAt l pc.toNat, 0) else (Ins.zero, 7)
theorem drop_at {l : List UInt8} {k : Nat} (h : 4 * k + 4 ≤ l.length) : l.drop (4 * k) = (insAt l k).o :: (insAt l k).a :: (insAt l k).b :: (insAt l k).c :: l.drop (4 * k + 4) := by
  have g : ∀ (j : Nat) (hj : j < 4), l.getD (4 * k + j) 0 = l[4 * k + j]'(by omega) := fun j hj => by simp [List.getD, List.getElem?_eq_getElem (show 4 * k + j < l.length by omega)]
  have g0 := g 0 (by omega)
  have g1 := g 1 (by omega)
  have g2 := g 2 (by omega)
  have g3 := g 3 (by omega)
  simp only [insAt]
  simp only [Nat.add_zero] at g0
  rw [g0, g1, g2, g3]
  rw [List.drop_eq_getElem_cons (show 4 * k < l.length by omega), List.drop_eq_getElem_cons (show 4 * k + 1 < l.length by omega), List.drop_eq_getElem_cons (show 4 * k + 1 + 1 < l.length by omega), List.drop_eq_getElem_cons (show 4 * k + 1 + 1 + 1 < l.length by omega)]
set_option maxHeartbeats 2000000 in
set_option maxRecDepth 100000 in
theorem decode_any (V : Value) (l : List UInt8) (hl : l.length ≤ 100000) (pc : Int) (h0 : -9223372036854775808 ≤ pc) (h1 : pc ≤ 9223372036854775807) (w : World) (h : By w V l) :
    Calls Tryd.prog 10 #[V, .int .i64 pc] w fun e w' => e = .returned (.tuple #[(decodeP l pc).1.val, .int .i64 (decodeP l pc).2]) ∧ Below w.heap.size w w' := by
  have hL := fun W (hb : Below w.heap.size w W) => len_any V l (by omega) W (h.below hb)
  obtain ⟨A, c, rfl, hc1, hc2⟩ := h.val
  have hz : Ins.zero.val = .agg #[.int .u8 0, .int .u8 0, .int .u8 0, .int .u8 0] := rfl
  have hb0 := (Below.refl w.heap.size w).alloc (Nat.le_refl _) (.cells #[.int .u8 0, .int .u8 0, .int .u8 0, .int .u8 0] 26)
  have hL1 := hL _ hb0
  obtain ⟨n, hn⟩ : ∃ n, n = l.length := ⟨_, rfl⟩
  by_cases hA : 0 ≤ pc ∧ 4 * pc = l.length
  · have hd : decodeP l pc = (Ins.zero, 4) := if_pos hA
    rw [hd]
    simp only [hz]
    rw [← hn] at hA hL1 hc1 hl ⊢
    obtain ⟨q, hq⟩ : ∃ q, q = n / 4 := ⟨_, rfl⟩
    rw [← hq] at hL1
    have e1 : pc = (q : Int) := by omega
    have e2 : ((n : Int).tmod 4) = 0 := by rw [Int.tmod_eq_emod_of_nonneg (by omega)]; omega
    subst e1
    clear h hL hd hn hA hq
    go_enter Tryd.func10, Tryd.ntmps10
    go_wp2_with (go_at_call 12; refine hL1.mono ?_; rintro e w' ⟨rfl, rfl⟩)
    exact bodyPost_ret (v := .tuple #[.agg #[.int .u8 0, .int .u8 0, .int .u8 0, .int .u8 0], .int .i64 4]) (by simp [results, Tryd.results10, go_sem]) rfl ⟨rfl, hb0⟩
  · by_cases hB : pc < 0 ∨ (l.length : Int) < 4 * pc + 4
    · have hd : decodeP l pc = (Ins.zero, 7) := by unfold decodeP; rw [if_neg hA, if_pos hB]
      rw [hd]
      simp only [hz]
      rw [← hn] at hA hB hL1 hc1 hl ⊢
      obtain ⟨q, hq⟩ : ∃ q, q = n / 4 := ⟨_, rfl⟩
      rw [← hq] at hL1
      rcases Int.lt_or_le pc 0 with hp | hp
      · have e1 : (pc == (q : Int)) = false := by simp; omega
        clear h hL hd hn hA hB hq
        go_enter Tryd.func10, Tryd.ntmps10
        go_wp2_with (go_at_call 12; refine hL1.mono ?_; rintro e w' ⟨rfl, rfl⟩)
        exact bodyPost_ret (v := .tuple #[.agg #[.int .u8 0, .int .u8 0, .int .u8 0, .int .u8 0], .int .i64 7]) (by simp [results, Tryd.results10, go_sem]) rfl ⟨rfl, hb0⟩
      · by_cases hpq : pc = (q : Int)
        · subst hpq
          obtain ⟨r, hr⟩ : ∃ r : Int, r = (n : Int).tmod 4 := ⟨_, rfl⟩
          have e2 : r ≠ 0 := by rw [hr, Int.tmod_eq_emod_of_nonneg (by omega)]; omega
          have e3 : (r == 0) = false := by simpa using e2
          have hr' := hr.symm
          clear h hL hd hn hA hB hq hr
          go_enter Tryd.func10, Tryd.ntmps10
          go_wp2_with (go_at_call 12; refine hL1.mono ?_; rintro e w' ⟨rfl, rfl⟩)
          exact bodyPost_ret (v := .tuple #[.agg #[.int .u8 0, .int .u8 0, .int .u8 0, .int .u8 0], .int .i64 7]) (by simp [results, Tryd.results10, go_sem]) rfl ⟨rfl, hb0⟩
        · have e1 : (pc == (q : Int)) = false := by simpa using hpq
          have e2 : (q : Int) ≤ pc := by omega
          have e3 : ¬ pc < 0 := by omega
          clear h hL hd hn hA hB hq
          go_enter Tryd.func10, Tryd.ntmps10
          go_wp2_with (go_at_call 12; refine hL1.mono ?_; rintro e w' ⟨rfl, rfl⟩)
          exact bodyPost_ret (v := .tuple #[.agg #[.int .u8 0, .int .u8 0, .int .u8 0, .int .u8 0], .int .i64 7]) (by simp [results, Tryd.results10, go_sem]) rfl ⟨rfl, hb0⟩
    · obtain ⟨k, rfl⟩ : ∃ k : Nat, pc = (k : Int) := ⟨pc.toNat, by omega⟩
      have hk4 : 4 * k + 4 ≤ l.length := by omega
      have hd : decodeP l k = if (insAt l k).is then (insAt l k, 0) else (Ins.zero, 7) := by unfold decodeP; rw [if_neg hA, if_neg hB]; rfl
      obtain ⟨g, off, c', e, _, _, hlt, _⟩ := h.open_ (by omega)
      injection e with e' e2 e3
      subst e' e3
      have hcut := h.cut (i := 4 * k) (m := l.length - 4 * k) (c' := c - 4 * k) (by omega) (by omega) (by omega)
      rw [List.take_of_length_le (by rw [List.length_drop]; omega), drop_at hk4] at hcut
      have hX := four_any _ _ _ _ _ _ _ (hcut.below hb0)
      obtain ⟨x, hx⟩ : ∃ x, x = insAt l k := ⟨_, rfl⟩
      rw [← hx] at hd
      have hX : Calls Tryd.prog 22 #[.slice (some ⟨g, off + 4 * k, none⟩) (l.length - 4 * k) (c - 4 * k)] (w.alloc (.cells #[.int .u8 0, .int .u8 0, .int .u8 0, .int .u8 0] 26)) fun e w' => e = .returned (.agg x.arr) ∧ Below (w.alloc (.cells #[.int .u8 0, .int .u8 0, .int .u8 0, .int .u8 0] 26)).heap.size (w.alloc (.cells #[.int .u8 0, .int .u8 0, .int .u8 0, .int .u8 0] 26)) w' := by rw [hx]; exact hX
      rw [hd]
      rw [← hn] at hL1 hc1 hl hX hk4 ⊢
      obtain ⟨q, hq⟩ : ∃ q, q = n / 4 := ⟨_, rfl⟩
      rw [← hq] at hL1
      have e1 : ((k : Int) == (q : Int)) = false := by simp; omega
      have e2 : (k : Int) < (q : Int) := by omega
      have e4 : 4 * (k : Int) ≤ (n : Int) := by omega
      have hk6 : k ≤ 100000 := by omega
      obtain ⟨D, hD⟩ : ∃ D : Ins × Int, D = if x.is = true then (x, 0) else (Ins.zero, 7) := ⟨_, rfl⟩
      rw [← hD]
      obtain ⟨dy, de⟩ := D
      have hDH := Lib.hid hD
      clear h hL hd hn hA hB hq hcut hx hD
      go_enter Tryd.func10, Tryd.ntmps10
      go_wp2_with (first
        | (go_at_call 12; refine hL1.mono ?_; rintro e w' ⟨rfl, rfl⟩)
        | (go_at_call 22; refine hX.mono ?_; rintro e w1 ⟨rfl, hb1⟩))
      have hb1' := hb0.trans (hb1.mono (by simp))
      have hres : Blk w1 w.heap.size 26 #[.int .u8 0, .int .u8 0, .int .u8 0, .int .u8 0] := (Blk.new w 26 #[.int .u8 0, .int .u8 0, .int .u8 0, .int .u8 0]).below hb1
      obtain ⟨W1, hW1⟩ : ∃ W1, W1 = w1.alloc (.cells x.arr 26) := ⟨_, rfl⟩
      have hblk : Blk W1 w1.heap.size 26 x.arr := by rw [hW1]; exact Blk.new w1 26 _
      have hb2 : Below w.heap.size w W1 := by rw [hW1]; exact hb1'.alloc hb1'.size _
      obtain ⟨X, hX2⟩ : ∃ X, X = w1.heap.size := ⟨_, rfl⟩
      rw [← hW1, ← hX2]
      rw [← hX2] at hblk
      have hXs := hblk.lt
      have x0 := hblk.cell 0
      have x1 := hblk.cell 1
      have x2 := hblk.cell 2
      have x3 := hblk.cell 3
      simp only [List.getElem?_toArray, List.getElem?_cons_zero, List.getElem?_cons_succ] at x0 x1 x2 x3
      have hresH := Lib.hid ((hres.alloc (.cells x.arr 26)).drew)
      rw [← hW1] at hresH
      have hF0 := forms_any W1.drew
      replace hb2 := below_drew hb2
      replace hblk := hblk.drew
      have hI := fun m W hF => isOne_any x m W hF
      have hI : ∀ m W, FormsAt W m → Calls Tryd.prog 23 #[.map (some m), .agg x.arr] W fun e w' => e = .returned (.bool (isOneP x)) ∧ Below W.heap.size W w' := hI
      rw [isOne_is] at hI
      have hblkH := Lib.hid hblk
      clear hW1 hX2 hblk hb1' hb1 hX hres
      cases his : x.is
      · rw [his] at hI
        have hD : dy = Ins.zero ∧ de = 7 := by
          have q := hDH.out
          rw [if_neg (by rw [his]; decide)] at q
          exact Prod.mk.inj q
        go_region_with (first
          | (go_at_call 24; refine hF0.mono ?_; rintro e w2 ⟨rfl, hF, hb3⟩
             have hb4 := hb2.trans (hb3.mono hb2.size)
             have y := hblkH.out.below hb3
             have y0 := y.cell 0
             have y1 := y.cell 1
             have y2 := y.cell 2
             have y3 := y.cell 3
             simp only [List.getElem?_toArray, List.getElem?_cons_zero, List.getElem?_cons_succ] at y0 y1 y2 y3
             have yH := Lib.hid y
             clear y)
          | (go_at_call 23; refine (hI _ _ hF).mono ?_; rintro e w3 ⟨rfl, hb5⟩; have hb6 := hb4.trans (hb5.mono hb4.size)
             have z := yH.out.below hb5
             have z0 := z.cell 0
             have z1 := z.cell 1
             have z2 := z.cell 2
             have z3 := z.cell 3
             have r := hresH.out.below (hb3.trans (hb5.mono hb3.size))
             have r0 := r.cell 0
             have r1 := r.cell 1
             have r2 := r.cell 2
             have r3 := r.cell 3
             have f0 := r.frozen 0
             have f1 := r.frozen 1
             have f2 := r.frozen 2
             have f3 := r.frozen 3
             have rH := Lib.hid r
             simp only [List.getElem?_toArray, List.getElem?_cons_zero, List.getElem?_cons_succ] at z0 z1 z2 z3 r0 r1 r2 r3
             clear z r))
        all_goals go_wp2
        all_goals
          have q : ∀ i, ((((w3.setCell ⟨w.heap.size, 0, none⟩ (.int .u8 0)).setCell ⟨w.heap.size, 1, none⟩ (.int .u8 0)).setCell ⟨w.heap.size, 2, none⟩ (.int .u8 0)).setCell ⟨w.heap.size, 3, none⟩ (.int .u8 0)).cell? ⟨w.heap.size, i, none⟩ = (#[Value.int .u8 0, .int .u8 0, .int .u8 0, .int .u8 0] : Array Value)[i]? := fun i => (putIns_at (y := Ins.zero) rH.out Ins.zero).cell i
          have q0 := q 0
          have q1 := q 1
          have q2 := q 2
          have q3 := q 3
          simp only [List.getElem?_toArray, List.getElem?_cons_zero, List.getElem?_cons_succ] at q0 q1 q2 q3
          have hbE := putIns_below hb6 (Nat.le_refl _) Ins.zero
          obtain ⟨rfl, rfl⟩ := hD
          refine bodyPost_ret (v := .tuple #[Ins.zero.val, .int .i64 7]) ?_ rfl ⟨rfl, hbE⟩
          simp [results, Tryd.results10, go_sem, q0, q1, q2, q3, hz]
      · rw [his] at hI
        have hD : dy = x ∧ de = 0 := by
          have q := hDH.out
          rw [if_pos his] at q
          exact Prod.mk.inj q
        go_region_with (first
          | (go_at_call 24; refine hF0.mono ?_; rintro e w2 ⟨rfl, hF, hb3⟩
             have hb4 := hb2.trans (hb3.mono hb2.size)
             have y := hblkH.out.below hb3
             have y0 := y.cell 0
             have y1 := y.cell 1
             have y2 := y.cell 2
             have y3 := y.cell 3
             simp only [List.getElem?_toArray, List.getElem?_cons_zero, List.getElem?_cons_succ] at y0 y1 y2 y3
             have yH := Lib.hid y
             clear y)
          | (go_at_call 23; refine (hI _ _ hF).mono ?_; rintro e w3 ⟨rfl, hb5⟩; have hb6 := hb4.trans (hb5.mono hb4.size)
             have z := yH.out.below hb5
             have z0 := z.cell 0
             have z1 := z.cell 1
             have z2 := z.cell 2
             have z3 := z.cell 3
             have r := hresH.out.below (hb3.trans (hb5.mono hb3.size))
             have r0 := r.cell 0
             have r1 := r.cell 1
             have r2 := r.cell 2
             have r3 := r.cell 3
             have f0 := r.frozen 0
             have f1 := r.frozen 1
             have f2 := r.frozen 2
             have f3 := r.frozen 3
             have rH := Lib.hid r
             simp only [List.getElem?_toArray, List.getElem?_cons_zero, List.getElem?_cons_succ] at z0 z1 z2 z3 r0 r1 r2 r3
             clear z r))
        all_goals go_wp2
        all_goals
          have q : ∀ i, ((((w3.setCell ⟨w.heap.size, 0, none⟩ (.int .u8 x.o.toNat)).setCell ⟨w.heap.size, 1, none⟩ (.int .u8 x.a.toNat)).setCell ⟨w.heap.size, 2, none⟩ (.int .u8 x.b.toNat)).setCell ⟨w.heap.size, 3, none⟩ (.int .u8 x.c.toNat)).cell? ⟨w.heap.size, i, none⟩ = x.arr[i]? := fun i => (putIns_at (y := Ins.zero) rH.out x).cell i
          have q0 := q 0
          have q1 := q 1
          have q2 := q 2
          have q3 := q 3
          simp only [List.getElem?_toArray, List.getElem?_cons_zero, List.getElem?_cons_succ] at q0 q1 q2 q3
          have hbE := putIns_below hb6 (Nat.le_refl _) x
          obtain ⟨rfl, rfl⟩ := hD
          refine bodyPost_ret (v := .tuple #[dy.val, .int .i64 0]) ?_ rfl ⟨rfl, hbE⟩
          simp [results, Tryd.results10, go_sem, q0, q1, q2, q3, Ins.val]
end Go.Proofs
end
