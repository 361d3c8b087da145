import Derived.Test.YtapgcadffghljaaProg
import Derived.Test.YtapgcadffghljaaM1
import Derived.Test.YtapgcadffghljaaM2
import Derived.WalkKit
import Derived.WalkSpells
import Derived.Laws.Pointers
import Derived.Outline
import Derived.BigQuiet
import Derived.Deep.QuietTactic
import Derived.Deep.DeepFit
import Derived.Deep.RegionHeld3
import Derived.Deep.RegionLaw
import Derived.KernelRfl
import Derived.IntWalk
import Derived.LoopTactic
import Derived.StillTailTactics
import Derived.BigRegion
import Derived.Laws.StructEq
import Derived.Deep.Upon
import Derived.Lib.AppendZerosOnto
import Derived.Lib.SliceRun
import Derived.Laws.ResultCell
import Derived.TacticsIn
section
namespace Go.Proofs
open Go.RowKit
set_option linter.unusedVariables false

/-! ### Elements of several cells, in a row -/
section
variable {α : Type} {enc : α → List Value} {s : Nat}
theorem flat_len (hs : ∀ x, (enc x).length = s) (l : List α) : (l.flatMap enc).length = l.length * s := by
  induction l with
  | nil => simp
  | cons x l ih => rw [List.flatMap_cons, List.length_append, ih, hs, List.length_cons, Nat.add_mul]; omega
theorem flat_at (hs : ∀ x, (enc x).length = s) {l : List α} {k j : Nat} {x : α} {u : Value} (hk : l[k]? = some x) (hj : (enc x)[j]? = some u) : (l.flatMap enc)[k * s + j]? = some u := by
  induction l generalizing k with
  | nil => simp at hk
  | cons y l ih =>
    cases k with
    | zero =>
      simp at hk
      subst hk
      have hl := (List.getElem?_eq_some_iff.1 hj).1
      rw [List.flatMap_cons, List.getElem?_append_left (by omega), Nat.zero_mul, Nat.zero_add]
      exact hj
    | succ k =>
      simp at hk
      rw [List.flatMap_cons, List.getElem?_append_right (by rw [hs, Nat.add_mul]; omega), hs]
      rw [show (k + 1) * s + j - s = k * s + j by rw [Nat.add_mul]; omega]
      exact ih hk
theorem flat_take (hs : ∀ x, (enc x).length = s) (l : List α) (k : Nat) : (l.flatMap enc).take (k * s) = (l.take k).flatMap enc := by
  induction l generalizing k with
  | nil => simp
  | cons x l ih =>
    cases k with
    | zero => simp
    | succ k =>
      have h := hs x
      rw [List.take_succ_cons, List.flatMap_cons, List.flatMap_cons, ← ih k, List.take_append, h]
      rw [List.take_of_length_le (by rw [h, Nat.add_mul]; omega)]
      congr 2
      rw [Nat.add_mul]; omega
theorem flat_drop (hs : ∀ x, (enc x).length = s) (l : List α) (k : Nat) : (l.flatMap enc).drop (k * s) = (l.drop k).flatMap enc := by
  induction l generalizing k with
  | nil => simp
  | cons x l ih =>
    cases k with
    | zero => simp
    | succ k =>
      have h := hs x
      rw [List.drop_succ_cons, List.flatMap_cons, ← ih k, List.drop_append, h]
      rw [List.drop_eq_nil_of_le (by rw [h, Nat.add_mul]; omega), List.nil_append]
      congr 1
      rw [Nat.add_mul]; omega
end

/-! ### A goroutine -/
structure Gr where
  st : Int
  su : Bool
  d0 : Int
  d1 : Int
  c0 : Int
  c1 : Int
  af : UInt8
  pg : Int
  pc : Int
  r : Nat → Int
  cd : Int
  un : Int
def Gr.arr (g : Gr) : Array Value := #[.int .i64 g.st, .bool g.su, .int .i64 g.d0, .int .u64 g.d1, .int .i64 g.c0, .int .u64 g.c1, .int .u8 g.af.toNat, .int .i64 g.pg, .int .i64 g.pc, .int .u64 (g.r 0), .int .u64 (g.r 1), .int .u64 (g.r 2), .int .u64 (g.r 3), .int .u64 (g.r 4), .int .u64 (g.r 5), .int .u64 (g.r 6), .int .u64 (g.r 7), .int .i64 g.cd, .int .u64 g.un]
abbrev Gr.val (g : Gr) : Value := .agg g.arr
def Gr.zero : Gr := ⟨0, false, 0, 0, 0, 0, 0, 0, 0, fun _ => 0, 0, 0⟩
abbrev zG : Array Value := #[.int .i64 0, .bool false, .int .i64 0, .int .u64 0, .int .i64 0, .int .u64 0, .int .u8 0, .int .i64 0, .int .i64 0, .int .u64 0, .int .u64 0, .int .u64 0, .int .u64 0, .int .u64 0, .int .u64 0, .int .u64 0, .int .u64 0, .int .i64 0, .int .u64 0]
theorem Gr.zero_arr : Gr.zero.arr = zG := rfl
theorem Gr.size (g : Gr) : g.arr.size = 19 := rfl
theorem Gr.one (g : Gr) : g.arr.all (·.oneCell') = true := by simp [Gr.arr, Value.oneCell']
theorem Gr.len (g : Gr) : g.arr.toList.length = 19 := rfl
theorem Gr.ones (g : Gr) : ∀ u ∈ g.arr.toList, u.oneCell' = true := fun u hu => (Array.all_eq_true_iff_forall_mem.1 g.one) u (by simpa using hu)
theorem T37 : AggOf Try.prog 37 19 := ⟨Try.isAgg37, Try.sizeOf37⟩
theorem T103 : AggOf Try.prog 103 21 := ⟨Try.isAgg103, Try.sizeOf103⟩
theorem T79 : AggOf Try.prog 79 21 := ⟨Try.isAgg79, Try.sizeOf79⟩
theorem T49 : AggOf Try.prog 49 21 := ⟨Try.isAgg49, Try.sizeOf49⟩
theorem T115 : AggOf Try.prog 115 21 := ⟨Try.isAgg115, Try.sizeOf115⟩
theorem T39 : AggOf Try.prog 39 24 := ⟨Try.isAgg39, Try.sizeOf39⟩

/-! ### Spots -/
def Spot.cells (s : Spot Gr) : List Value := [.int .u64 s.gen, .bool s.there] ++ s.thing.arr.toList
theorem Spot.cells_len (s : Spot Gr) : s.cells.length = 21 := by simp [Spot.cells, Gr.size]
theorem Spot.cells_one (s : Spot Gr) : ∀ u ∈ s.cells, u.oneCell' = true := by
  intro u hu
  simp only [Spot.cells, List.mem_append, List.mem_cons, List.not_mem_nil, or_false] at hu
  rcases hu with (rfl | rfl) | hu
  · rfl
  · rfl
  · exact Gr.ones _ u hu
def spotCells (l : List (Spot Gr)) : List Value := l.flatMap Spot.cells
def numCells (l : List Nat) : List Value := l.map fun k => .int .i64 ((k : Nat) : Int)
theorem spotCells_len (l : List (Spot Gr)) : (spotCells l).length = l.length * 21 := flat_len Spot.cells_len l
theorem spotCells_append (l l' : List (Spot Gr)) : spotCells (l ++ l') = spotCells l ++ spotCells l' := by unfold spotCells; simp
theorem spotCells_one (s : Spot Gr) : spotCells [s] = s.cells := by unfold spotCells; simp
theorem spotCells_at {l : List (Spot Gr)} {k : Nat} {s : Spot Gr} (h : l[k]? = some s) :
    (spotCells l)[k * 21]? = some (.int .u64 s.gen) ∧ (spotCells l)[k * 21 + 1]? = some (.bool s.there) ∧ ∀ j v, s.thing.arr[j]? = some v → (spotCells l)[k * 21 + 2 + j]? = some v := by
  have e := fun j u => flat_at (enc := Spot.cells) (s := 21) Spot.cells_len (j := j) (u := u) h
  refine ⟨e 0 _ rfl, e 1 _ rfl, fun j v hv => ?_⟩
  rw [Nat.add_assoc]
  refine e (2 + j) v ?_
  unfold Spot.cells
  rw [List.getElem?_append_right (by simp)]
  simpa using hv
theorem at_split {β : Type} {l : List β} {k : Nat} {x : β} (h : l[k]? = some x) : l = l.take k ++ x :: l.drop (k + 1) ∧ (l.take k).length = k := by
  have hk := (List.getElem?_eq_some_iff.1 h).1
  refine ⟨?_, by rw [List.length_take]; omega⟩
  rw [← (List.getElem?_eq_some_iff.1 h).2, List.getElem_cons_drop, List.take_append_drop]
theorem set_split {β : Type} {l : List β} {k : Nat} {x : β} (y : β) (h : l[k]? = some x) : l.set k y = l.take k ++ y :: l.drop (k + 1) := by
  have hk := (List.getElem?_eq_some_iff.1 h).1
  rw [List.set_eq_take_append_cons_drop, if_pos hk]
/-- Some cells of a spot, written anew in the block. -/
theorem splice_spot {cur : Array Value} {l : List (Spot Gr)} {k off : Nat} {s s' : Spot Gr} {p q r : List Value} {A : Array Value} (ht : cur.toList.take (l.length * 21) = spotCells l) (hs : l[k]? = some s)
    (h1 : s.cells = p ++ q ++ r) (h2 : s'.cells = p ++ A.toList ++ r) (hq : q.length = A.size) (ho : off = k * 21 + p.length) : (splice_at cur off A).toList.take (l.length * 21) = spotCells (l.set k s') := by
  obtain ⟨e1, e2⟩ := at_split hs
  have e3 := set_split s' hs
  obtain ⟨rest, hrest⟩ : ∃ rest, cur.toList = spotCells l ++ rest := ⟨cur.toList.drop (l.length * 21), by rw [← ht, List.take_append_drop]⟩
  have hc : spotCells l = spotCells (l.take k) ++ (p ++ (q ++ (r ++ spotCells (l.drop (k + 1))))) := by
    conv => lhs; rw [e1]
    rw [spotCells_append]; unfold spotCells; rw [List.flatMap_cons, h1]; simp [List.append_assoc]
  have hn : spotCells (l.set k s') = spotCells (l.take k) ++ (p ++ (A.toList ++ (r ++ spotCells (l.drop (k + 1))))) := by
    rw [e3, spotCells_append]; unfold spotCells; rw [List.flatMap_cons, h2]; simp [List.append_assoc]
  have hl1 : (spotCells (l.take k)).length = k * 21 := by rw [spotCells_len, e2]
  have hl : (spotCells (l.set k s')).length = l.length * 21 := by rw [spotCells_len, List.length_set]
  have hsp : (splice_at cur off A).toList = spotCells (l.set k s') ++ rest := by
    unfold splice_at
    rw [hrest, hc, hn, ho]
    have t1 : (spotCells (l.take k) ++ (p ++ (q ++ (r ++ spotCells (l.drop (k + 1))))) ++ rest).take (k * 21 + p.length) = spotCells (l.take k) ++ p := by
      rw [List.append_assoc, List.append_assoc, ← List.append_assoc (spotCells (l.take k))]
      exact List.take_left' (by rw [List.length_append, hl1])
    have t2 : (spotCells (l.take k) ++ (p ++ (q ++ (r ++ spotCells (l.drop (k + 1))))) ++ rest).drop (k * 21 + p.length + A.size) = r ++ spotCells (l.drop (k + 1)) ++ rest := by
      rw [show spotCells (l.take k) ++ (p ++ (q ++ (r ++ spotCells (l.drop (k + 1))))) ++ rest = (spotCells (l.take k) ++ p ++ q) ++ (r ++ spotCells (l.drop (k + 1)) ++ rest) by simp [List.append_assoc]]
      exact List.drop_left' (by rw [List.length_append, List.length_append, hl1, hq])
    rw [t1, t2]
    simp [List.append_assoc]
  rw [hsp]
  exact List.take_left' hl
/-- One cell of a spot, set. -/
theorem spotCells_set1 {l : List (Spot Gr)} {k : Nat} {s : Spot Gr} (b : Bool) (hs : l[k]? = some s) : (spotCells l).set (k * 21 + 1) (.bool b) = spotCells (l.set k { s with there := b }) := by
  obtain ⟨e1, e2⟩ := at_split hs
  have e3 := set_split { s with there := b } hs
  have hl1 : (spotCells (l.take k)).length = k * 21 := by rw [spotCells_len, e2]
  rw [e3, spotCells_append]
  conv => lhs; rw [e1, spotCells_append]
  rw [List.set_append_right _ _ (by omega), hl1]
  have : k * 21 + 1 - k * 21 = 1 := by omega
  rw [this]
  rfl
end Go.Proofs
end
section
namespace Go.Proofs
open Go.RowKit
set_option linter.unusedVariables false

/-! ### What a whole store changes -/
section
variable {w w' : World} {b : Nat} {e : TypeId} {new : Array Value}
theorem Stored.chg (h : Stored w w' b e new) : Chg [b] w w' := ⟨h.os, h.tape, h.output, Nat.le_of_eq h.size.symm, fun k _ hk => h.other k (by simpa using hk)⟩
theorem Stored.blk (h : Stored w w' b e new) : Blk w' b e new := h.at_
theorem Stored.far (h : Stored w w' b e new) {g : Nat} {t : TypeId} {cs : Array Value} (hB : Blk w g t cs) (hne : g ≠ b) : Blk w' g t cs := hB.same (h.other g hne)
theorem splice_all (cur A : Array Value) (h : cur.size = A.size) : splice_at cur 0 A = A := by
  unfold splice_at
  have : cur.toList.drop (0 + A.size) = [] := List.drop_eq_nil_of_le (by simp; omega)
  rw [this]; simp
end
theorem Row.lt1 {w : World} {e : TypeId} {z n gs cs : Nat} {xs : List Value} (h : Row w e z (.slice (some ⟨gs, 0, none⟩) n cs) n xs) : gs < w.heap.size := h.lt gs (by simp [foot_some])
/-- The block of a row. -/
theorem Row.cur {w : World} {e : TypeId} {z n gs cs : Nat} {xs : List Value} (h : Row w e z (.slice (some ⟨gs, 0, none⟩) n cs) n xs) : ∃ cur, Blk w gs e cur ∧ n * z ≤ cur.size ∧ cur.toList.take (n * z) = xs := by
  rcases h.2 with ⟨h0, _⟩ | ⟨g', cap', cur, hv, hg, hc, hm, hs, ht⟩
  · cases h0
  · simp only [Value.slice.injEq, Option.some.injEq, Addr.mk.injEq] at hv
    obtain ⟨⟨rfl, _⟩, _, rfl⟩ := hv
    exact ⟨cur, hg, Nat.le_trans (Nat.mul_le_mul_right _ hc) hs, ht⟩
/-- A whole store in a row. -/
theorem Row.stored {w w' : World} {e : TypeId} {z n gs cs off : Nat} {xs ys : List Value} {cur A : Array Value} (h : Row w e z (.slice (some ⟨gs, 0, none⟩) n cs) n xs) (hB : Blk w gs e cur) (hS : Stored w w' gs e (splice_at cur off A)) (hf : off + A.size ≤ cur.size)
    (hy : (splice_at cur off A).toList.take (n * z) = ys) (hl : ys.length = n * z) : Row w' e z (.slice (some ⟨gs, 0, none⟩) n cs) n ys := by
  refine ⟨hl, ?_⟩
  rcases h.2 with ⟨h0, _⟩ | ⟨g', cap', cur', hv, hg, hc, hm, hs, ht⟩
  · cases h0
  · simp only [Value.slice.injEq, Option.some.injEq, Addr.mk.injEq] at hv
    obtain ⟨⟨rfl, _⟩, _, rfl⟩ := hv
    have : cur' = cur := by
      have := hg.symm.trans hB
      simp at this; exact this
    subst this
    exact .inr ⟨gs, cs, _, rfl, hS.at_, hc, hm, by rw [splice_size _ _ _ hf]; exact hs, hy⟩

/-! ### A table of goroutines in memory -/
/-- The table t lies in w at block g; S are its blocks. -/
def TabAt (w : World) (g : Nat) (S : List Nat) (t : Tab Gr) : Prop :=
  ∃ VS VF, Blk w g 96 #[.int .i64 t.size, .int .u64 t.first, VS, VF, .int .i64 t.retired] ∧
    Row w 103 21 VS t.spots.length (spotCells t.spots) ∧ Row w 3 1 VF t.freed.length (numCells t.freed) ∧ S = g :: (foot VS ++ foot VF)
section
variable {w w' : World} {g : Nat} {S : List Nat} {t : Tab Gr}
theorem TabAt.lt (h : TabAt w g S t) : ∀ k ∈ S, k < w.heap.size := by
  obtain ⟨VS, VF, hB, hS, hF, rfl⟩ := h
  intro k hk
  simp at hk
  rcases hk with rfl | hk | hk
  · exact hB.lt
  · exact hS.lt k hk
  · exact hF.lt k hk
theorem TabAt.mem (h : TabAt w g S t) : g ∈ S := by
  obtain ⟨VS, VF, hB, hS, hF, rfl⟩ := h; simp
theorem TabAt.same (h : TabAt w g S t) (hk : ∀ k ∈ S, w'.heap[k]? = w.heap[k]?) : TabAt w' g S t := by
  obtain ⟨VS, VF, hB, hS, hF, rfl⟩ := h
  exact ⟨VS, VF, hB.same (hk g (by simp)), hS.same (fun k h => hk k (by simp [h])), hF.same (fun k h => hk k (by simp [h])), rfl⟩
theorem TabAt.chg {S' : List Nat} (h : TabAt w g S t) (hc : Chg S' w w') (hn : ∀ k ∈ S, k ∉ S') : TabAt w' g S t :=
  h.same fun k hk => hc.block k (h.lt k hk) (hn k hk)
theorem TabAt.quiet (h : TabAt w g S t) (hc : Chg [] w w') : TabAt w' g S t := h.chg hc (fun _ _ hk => by cases hk)
theorem TabAt.far (h : TabAt w g S t) {p : Addr} (hp : p.block ∉ S) (u : Value) : TabAt (w.setCell p u) g S t :=
  h.same fun k hk => Below.heap_setCell w p u k (fun e => hp (by rw [← e]; exact hk))
/-- The types of its blocks: so whatever is of another type lies apart. -/
theorem TabAt.ty (h : TabAt w g S t) {b : Nat} {e : TypeId} {cs : Array Value} (hb : Blk w b e cs) (h1 : e ≠ 96) (h2 : e ≠ 103) (h3 : e ≠ 3) : b ∉ S := by
  obtain ⟨VS, VF, hB, hS, hF, rfl⟩ := h
  intro hk
  simp only [List.mem_cons, List.mem_append] at hk
  rcases hk with rfl | hk | hk
  · exact hb.ty hB h1 rfl
  · exact hS.ty hb (Ne.symm h2) hk
  · exact hF.ty hb (Ne.symm h3) hk
end
/-- What a call on the table at g leaves: the table t'; its blocks are those it had, or new ones; nothing else has turned. -/
def Turns (g : Nat) (S : List Nat) (t' : Tab Gr) (w w' : World) : Prop :=
  ∃ S', TabAt w' g S' t' ∧ (∀ k ∈ S', k ∈ S ∨ w.heap.size ≤ k) ∧ Chg S w w'
theorem Turns.later {g : Nat} {S : List Nat} {t' : Tab Gr} {a b c : World} (h : Turns g S t' a b) (hc : Chg [] b c) : Turns g S t' a c := by
  obtain ⟨S', h1, h2, h3⟩ := h
  exact ⟨S', h1.quiet hc, h2, h3.then hc⟩
theorem Turns.earlier {g : Nat} {S : List Nat} {t' : Tab Gr} {a b c : World} (h : Turns g S t' b c) (hc : Chg [] a b) : Turns g S t' a c := by
  obtain ⟨S', h1, h2, h3⟩ := h
  refine ⟨S', h1, fun k hk => (h2 k hk).imp id (fun h => Nat.le_trans hc.size h), ?_⟩
  exact (Chg.any hc).trans h3 (fun k hk => .inl hk)
theorem Turns.refl {g : Nat} {S : List Nat} {t : Tab Gr} {a b : World} (h : TabAt a g S t) (hc : Chg [] a b) : Turns g S t a b :=
  ⟨S, h.quiet hc, fun k hk => .inl hk, hc.any⟩
theorem Turns.mk {g : Nat} {S : List Nat} {t' : Tab Gr} {w w' : World} {VS VF : Value} (hB : Blk w' g 96 #[.int .i64 t'.size, .int .u64 t'.first, VS, VF, .int .i64 t'.retired])
    (hS : Row w' 103 21 VS t'.spots.length (spotCells t'.spots)) (hF : Row w' 3 1 VF t'.freed.length (numCells t'.freed))
    (hg : g ∈ S) (sS : ∀ k ∈ foot VS, k ∈ S ∨ w.heap.size ≤ k) (sF : ∀ k ∈ foot VF, k ∈ S ∨ w.heap.size ≤ k) (hc : Chg S w w') : Turns g S t' w w' := by
  refine ⟨_, ⟨VS, VF, hB, hS, hF, rfl⟩, fun k hk => ?_, hc⟩
  simp at hk
  rcases hk with rfl | hk | hk
  · exact .inl hg
  · exact sS k hk
  · exact sF k hk
theorem numCells_take (l : List Nat) (k : Nat) : (numCells (l ++ [k])).take (l.length * 1) = numCells l := by
  unfold numCells
  rw [Nat.mul_one, List.map_append, List.take_append_of_le_length (by simp), List.take_of_length_le (by simp)]
/-- The last one of those that are free is taken. -/
theorem Turns.cut {g gf cf n : Nat} {t : Tab Gr} {l : List Nat} {k : Nat} {w : World} {VS : Value}
    (hB : Blk w g 96 #[.int .i64 t.size, .int .u64 t.first, VS, .slice (some ⟨gf, 0, none⟩) n cf, .int .i64 t.retired])
    (hS : Row w 103 21 VS t.spots.length (spotCells t.spots))
    (hF : Row w 3 1 (.slice (some ⟨gf, 0, none⟩) l.length l.length) l.length ((numCells (l ++ [k])).take (l.length * 1))) (hne : gf ≠ g) (hgf : gf < w.heap.size) :
    Turns g (g :: (foot VS ++ foot (.slice (some ⟨gf, 0, none⟩) n cf))) { t with freed := l } w (w.setCell ⟨g, 3, none⟩ (.slice (some ⟨gf, 0, none⟩) l.length l.length)) := by
  rw [numCells_take] at hF
  refine Turns.mk (hB.set_ 3 _) (hS.far (hS.ty hB (by decide)) _) (hF.far (by simpa [foot_some] using fun e => hne e.symm) _) (by simp) (fun k hk => .inl (by simp [hk])) (fun k hk => .inl (by simp [foot_some] at hk ⊢; simp [hk])) ?_
  exact (Chg.refl _ _).setCell (.inl (by simp)) _
/-- One spot more: taken for the first time. -/
theorem Turns.grow {g gg cap : Nat} {t : Tab Gr} {s : Spot Gr} {w w1 : World} {VS VF : Value} {o : Obj}
    (hB : Blk w g 96 #[.int .i64 t.size, .int .u64 t.first, VS, VF, .int .i64 t.retired])
    (hS : Row w 103 21 VS t.spots.length (spotCells t.spots)) (hF : Row w 3 1 VF t.freed.length (numCells t.freed))
    (hown : Row w1 103 21 (.slice (some ⟨gg, 0, none⟩) (t.spots.length + 1) cap) (t.spots.length + 1) (spotCells t.spots ++ Spot.cells s))
    (hgrow : ((w.alloc o).drew).grownBy w1 VS.ownBlock) (hat : VS.ownBlock = some gg ∨ gg = w.heap.size + 1) :
    Turns g (g :: (foot VS ++ foot VF)) { t with spots := t.spots ++ [s] } w (w1.setCell ⟨g, 2, none⟩ (.slice (some ⟨gg, 0, none⟩) (t.spots.length + 1) cap)) := by
  have hc : Chg (foot VS) w w1 := ((Chg.refl _ w).alloc o).drew.grown hgrow (fun k hk => .inl (row_mem hk))
  have hg1 : g ∉ foot VS := hS.ty hB (by decide)
  have hg2 : g ∉ foot VF := hF.ty hB (by decide)
  have hgg : gg ≠ g := by
    rcases hat with h | h
    · intro e; exact hg1 (by rw [← e]; exact row_mem h)
    · have := hB.lt; omega
  refine Turns.mk (VS := .slice (some ⟨gg, 0, none⟩) (t.spots.length + 1) cap) ((hB.chg hc hg1).set_ 2 _) ?_ ((hF.chg hc (fun k hk hk' => hS.ty2 hF (by decide) k hk' hk)).far hg2 _) (by simp) ?_ (fun k hk => .inl (by simp [hk])) ?_
  · have hr := hown.far (p := ⟨g, 2, none⟩) (by simpa [foot_some] using fun e => hgg e.symm) (.slice (some ⟨gg, 0, none⟩) (t.spots.length + 1) cap)
    rw [show spotCells t.spots ++ Spot.cells s = spotCells (t.spots ++ [s]) by rw [spotCells_append, spotCells_one]] at hr
    simpa using hr
  · intro k hk
    simp [foot_some] at hk
    subst hk
    rcases hat with h | h
    · exact .inl (by simp [row_mem h])
    · exact .inr (by omega)
  · exact (hc.mono (fun k hk => .inl (by simp [hk]))).setCell (.inl (by simp)) _
/-- What one spot's cells are: for the walk. -/
theorem open_spot {w : World} {e : TypeId} {VS : Value} {l : List (Spot Gr)} (hS : Row w e 21 VS l.length (spotCells l)) {i : Nat} {s : Spot Gr} (hs : l[i]? = some s) :
    ∃ gs cs, VS = .slice (some ⟨gs, 0, none⟩) l.length cs ∧ foot VS = [gs] ∧ l.length ≤ cs ∧ gs < w.heap.size ∧ i < l.length ∧
      w.cell? ⟨gs, i * 21, none⟩ = some (.int .u64 s.gen) ∧ w.cell? ⟨gs, i * 21 + 1, none⟩ = some (.bool s.there) ∧ (∀ j v, s.thing.arr[j]? = some v → w.cell? ⟨gs, i * 21 + 2 + j, none⟩ = some v) ∧
      (∀ j, w.frozen? ⟨gs, j, none⟩ = false) := by
  have hi := (List.getElem?_eq_some_iff.1 hs).1
  obtain ⟨gs, cs, hv, hft, hc, hcell, hfz, hlt⟩ := hS.form (by omega)
  obtain ⟨h0, h1, h2⟩ := spotCells_at hs
  exact ⟨gs, cs, hv, hft, hc, hlt, hi, hcell _ _ h0, hcell _ _ h1, fun j v hv => hcell _ _ (h2 j v hv), hfz⟩
/-- What there is where a ref names something. -/
theorem has_form {w : World} {g : Nat} {S : List Nat} {t : Tab Gr} (h : TabAt w g S t) {i q : Int} (hq : t.has i q = true) :
    ∃ (k : Nat) (s : Spot Gr) (gs cs : Nat) (VF : Value), i = (k : Nat) ∧ q = s.gen ∧ t.spots[k]? = some s ∧ s.there = true ∧ k < t.spots.length ∧
      Blk w g 96 #[.int .i64 t.size, .int .u64 t.first, .slice (some ⟨gs, 0, none⟩) t.spots.length cs, VF, .int .i64 t.retired] ∧
      Row w 103 21 (.slice (some ⟨gs, 0, none⟩) t.spots.length cs) t.spots.length (spotCells t.spots) ∧ Row w 3 1 VF t.freed.length (numCells t.freed) ∧
      S = g :: (foot (.slice (some ⟨gs, 0, none⟩) t.spots.length cs) ++ foot VF) := by
  obtain ⟨s, hl, rfl⟩ := has_iff.1 hq
  obtain ⟨j0, hj, hth⟩ := live_iff.1 hl
  obtain ⟨k, rfl⟩ := Int.eq_ofNat_of_zero_le j0
  simp only [Int.toNat_natCast] at hj
  have hk := (List.getElem?_eq_some_iff.1 hj).1
  obtain ⟨VS, VF, hB, hS, hF, rfl⟩ := h
  obtain ⟨gs, cs, rfl, _⟩ := hS.form (by omega)
  exact ⟨k, s, gs, cs, VF, rfl, rfl, hj, hth, hk, hB, hS, hF, rfl⟩
theorem cells_thing (s : Spot Gr) (x : Gr) : s.cells = [.int .u64 s.gen, .bool s.there] ++ s.thing.arr.toList ++ [] ∧ ({ s with thing := x } : Spot Gr).cells = [.int .u64 s.gen, .bool s.there] ++ x.arr.toList ++ [] := by
  simp [Spot.cells]
/-- Another thing is stored at a place. -/
theorem Turns.thing {g gs cs : Nat} {t : Tab Gr} {s : Spot Gr} {w w1 w2 : World} {VF : Value} {cur : Array Value}
    (hB : Blk w g 96 #[.int .i64 t.size, .int .u64 t.first, .slice (some ⟨gs, 0, none⟩) t.spots.length cs, VF, .int .i64 t.retired])
    (hS : Row w 103 21 (.slice (some ⟨gs, 0, none⟩) t.spots.length cs) t.spots.length (spotCells t.spots)) (hF : Row w 3 1 VF t.freed.length (numCells t.freed))
    {k : Nat} (hs : t.spots[k]? = some s) (x : Gr) (hc : Chg [] w w1) (hcur : Blk w1 gs 103 cur) (hst : Stored w1 w2 gs 103 (splice_at cur (k * 21 + 2) x.arr)) :
    Turns g (g :: (foot (.slice (some ⟨gs, 0, none⟩) t.spots.length cs) ++ foot VF)) { t with spots := t.spots.set k { s with thing := x } } w w2 := by
  have hk := (List.getElem?_eq_some_iff.1 hs).1
  have hB1 := hB.chg hc (by simp)
  have hS1 := hS.chg hc (fun _ _ h => by cases h)
  have hF1 := hF.chg hc (fun _ _ h => by cases h)
  have hg : g ≠ gs := by have := hS.ty hB (by decide); simpa [foot_some] using this
  have hfg : gs ∉ foot VF := fun h => hS.ty2 hF (by decide) gs (by simp [foot_some]) h
  obtain ⟨cur', hb', hz', ht'⟩ := hS1.cur
  have : cur' = cur := by have := hb'.symm.trans hcur; simp at this; exact this
  subst this
  have hy := splice_spot (off := k * 21 + 2) (A := x.arr) ht' hs (cells_thing s x).1 (cells_thing s x).2 (by rw [Gr.len, Gr.size]) rfl
  have hr := hS1.stored hb' hst (by rw [Gr.size]; omega) hy (by rw [spotCells_len, List.length_set])
  refine Turns.mk (VS := .slice (some ⟨gs, 0, none⟩) t.spots.length cs) (VF := VF) (hst.far hB1 hg) (by simpa using hr) (hF1.chg hst.chg (fun k hk hk' => by simp at hk'; subst hk'; exact hfg hk)) (by simp) (fun k hk => .inl (by simp [hk])) (fun k hk => .inl (by simp [hk])) ?_
  exact (Chg.any hc).trans hst.chg (fun k hk => .inl (by simp at hk; subst hk; simp [foot_some]))
/-- Nothing is there any more; the place is free. -/
theorem Turns.freed {g gs cs gg cap : Nat} {t : Tab Gr} {s s' : Spot Gr} {w w1 w2 w3 : World} {VF : Value} {o : Obj} {cur A : Array Value}
    (hB : Blk w g 96 #[.int .i64 t.size, .int .u64 t.first, .slice (some ⟨gs, 0, none⟩) t.spots.length cs, VF, .int .i64 t.retired])
    (hS : Row w 103 21 (.slice (some ⟨gs, 0, none⟩) t.spots.length cs) t.spots.length (spotCells t.spots)) (hF : Row w 3 1 VF t.freed.length (numCells t.freed))
    {k : Nat} (hs : t.spots[k]? = some s') (hc : Chg [] w w1) (hcur : Blk w1 gs 103 cur) (hA : A.toList = s.cells) (hst : Stored w1 w2 gs 103 (splice_at cur (k * 21) A))
    (hown : Row w3 3 1 (.slice (some ⟨gg, 0, none⟩) (t.freed.length + 1) cap) (t.freed.length + 1) (numCells t.freed ++ [.int .i64 ((k : Nat) : Int)]))
    (hgrow : ((w2.alloc o).drew).grownBy w3 VF.ownBlock) (hat : VF.ownBlock = some gg ∨ gg = w2.heap.size + 1) :
    Turns g (g :: (foot (.slice (some ⟨gs, 0, none⟩) t.spots.length cs) ++ foot VF)) { t with spots := t.spots.set k s, freed := t.freed ++ [k] } w (w3.setCell ⟨g, 3, none⟩ (.slice (some ⟨gg, 0, none⟩) (t.freed.length + 1) cap)) := by
  have hk := (List.getElem?_eq_some_iff.1 hs).1
  have hB1 := hB.chg hc (by simp)
  have hS1 := hS.chg hc (fun _ _ h => by cases h)
  have hg : g ≠ gs := by have := hS.ty hB (by decide); simpa [foot_some] using this
  have hfg : gs ∉ foot VF := fun h => hS.ty2 hF (by decide) gs (by simp [foot_some]) h
  have hgf : g ∉ foot VF := hF.ty hB (by decide)
  obtain ⟨cur', hb', hz', ht'⟩ := hS1.cur
  have : cur' = cur := by have := hb'.symm.trans hcur; simp at this; exact this
  subst this
  have hAs : A.size = 21 := by rw [← Array.length_toList, hA, Spot.cells_len]
  have hy := splice_spot (off := k * 21) (A := A) (p := []) (q := s'.cells) (r := []) (s' := s) ht' hs (by simp) (by simp [hA]) (by rw [Spot.cells_len, hAs]) (by simp)
  have hr0 := hS1.stored hb' hst (by rw [hAs]; omega) hy (by rw [spotCells_len, List.length_set])
  have hcF : Chg (foot VF) w2 w3 := ((Chg.refl _ _).alloc o).drew.grown hgrow (fun k hk => .inl (row_mem hk))
  have hr := hr0.chg hcF (by simpa [foot_some] using hfg)
  have hz2 := hst.size
  have hgg : gg ≠ g := by
    rcases hat with h | h
    · intro e; exact hgf (by rw [← e]; exact row_mem h)
    · have := hB.lt; have := hc.size; omega
  refine Turns.mk (VS := .slice (some ⟨gs, 0, none⟩) t.spots.length cs) (VF := .slice (some ⟨gg, 0, none⟩) (t.freed.length + 1) cap) (((hst.far hB1 hg).chg hcF hgf).set_ 3 _)
    (Row.far (by simpa using hr) (by simpa [foot_some] using hg) _) ?_ (by simp) (fun k hk => .inl (by simp [hk])) ?_ ?_
  · have h := hown.far (p := ⟨g, 3, none⟩) (by simpa [foot_some] using fun e => hgg e.symm) (.slice (some ⟨gg, 0, none⟩) (t.freed.length + 1) cap)
    rw [show numCells t.freed ++ [.int .i64 ((k : Nat) : Int)] = numCells (t.freed ++ [k]) by unfold numCells; simp] at h
    simpa using h
  · intro k hk
    simp [foot_some] at hk
    subst hk
    rcases hat with h | h
    · exact .inl (by simp [row_mem h])
    · have := hc.size; exact .inr (by omega)
  · refine Chg.setCell ?_ (.inl (by simp)) _
    refine Chg.trans ?_ hcF (fun k hk => .inl (by simp [hk]))
    exact (Chg.any hc).trans hst.chg (fun k hk => .inl (by simp at hk; subst hk; simp [foot_some]))
end Go.Proofs
end
section
namespace Go.Proofs
open Go.RowKit
set_option linter.unusedVariables false
set_option linter.unusedSimpArgs false

theorem Try.info_C : (Try.prog.info? 103).map (fun i => (i.zero, i.size, i.bytes)) = some (some (.agg #[.int .u64 0, .bool false, .int .i64 0, .bool false, .int .i64 0, .int .u64 0, .int .i64 0, .int .u64 0, .int .u8 0, .int .i64 0, .int .i64 0, .int .u64 0, .int .u64 0, .int .u64 0, .int .u64 0, .int .u64 0, .int .u64 0, .int .u64 0, .int .u64 0, .int .i64 0, .int .u64 0]), 21, 168) := by kernel_rfl

theorem size_C {w : World} {g : Nat} {S : List Nat} {t : Tab Gr} (h : TabAt w g S t) :
    Calls Try.prog 48 #[.pointer (some ⟨g, 0, none⟩)] w fun e w' => e = .returned (.int .i64 t.size) ∧ w = w' := by
  obtain ⟨VS, VF, hB, hS, hF, rfl⟩ := h
  have c0 := hB.cell 0
  clear hB hS hF
  go_enter Try.func48, Try.ntmps48
  go_wp2
  go_ret
  exact ⟨rfl, rfl⟩
theorem none_C {w : World} {g : Nat} {S : List Nat} {t : Tab Gr} (h : TabAt w g S t) (hw : t.WF) :
    Calls Try.prog 57 #[.pointer (some ⟨g, 0, none⟩)] w fun e w' => e = .returned (.bool false) ∧ w = w' := by
  have s0 := hw.s0
  have hb : (t.size == 0) = false := by simp; omega
  go_enter Try.func57, Try.ntmps57
  go_wp2_with (go_at_call 48; refine (size_C h).mono ?_; rintro e w' ⟨rfl, rfl⟩)
  go_ret
  exact ⟨rfl, rfl⟩
theorem free_C {w : World} {g : Nat} {S : List Nat} {t : Tab Gr} (h : TabAt w g S t) (hw : t.WF) :
    Calls Try.prog 65 #[.pointer (some ⟨g, 0, none⟩)] w fun e w' => e = .returned (.int .i64 t.frees) ∧ ∃ n, w' = w.drewN n := by
  obtain ⟨VS, VF, hB, hS, hF, rfl⟩ := h
  obtain ⟨A, c, rfl, _⟩ := hS.val
  obtain ⟨A', c', rfl, _⟩ := hF.val
  have c0 := hB.cell 0
  have c2 := hB.cell 2
  have c3 := hB.cell 3
  have s0 := hw.s0
  have s1 := hw.s1
  have hl := hw.len
  have hf := hw.freed_len
  have e : t.frees = t.size - t.spots.length + t.freed.length := rfl
  obtain ⟨m, hm⟩ : ∃ m, m = t.spots.length := ⟨_, rfl⟩
  obtain ⟨k, hk⟩ : ∃ k, k = t.freed.length := ⟨_, rfl⟩
  rw [← hm, ← hk] at e
  rw [← hm] at hl hf c2
  rw [← hk] at hf c3
  rw [e]
  have e1 : IntKind.i64.wrap (t.size - m) = t.size - m := IntWalk.i64_in _ (by omega)
  have e2 : IntKind.i64.wrap (t.size - m + k) = t.size - m + k := IntWalk.i64_in _ (by omega)
  clear hB hS hF hw e hm hk
  go_enter Try.func65, Try.ntmps65
  go_wp2
  go_quiet (fail)
  go_wp2
  go_ret
  exact ⟨rfl, _, rfl⟩
theorem at_C {w : World} {g : Nat} {S : List Nat} {t : Tab Gr} (h : TabAt w g S t) (hw : t.WF) (i : Int) (i0 : -9223372036854775808 ≤ i) (i1 : i ≤ 9223372036854775807) :
    Calls Try.prog 51 #[.pointer (some ⟨g, 0, none⟩), .int .i64 i] w fun e w' => e = .returned (.tuple #[.agg #[.int .i64 (t.atIdx i), .int .u64 (t.atGen i)], .bool (t.atIs i)]) ∧ Chg [] w w' := by
  have h0 := h
  obtain ⟨VS, VF, hB, hS, hF, rfl⟩ := h
  rcases live_cases t i with ⟨s, hs⟩ | hno
  · obtain ⟨q1, q2, q3⟩ := live_some hs
    rw [q1, q2, q3]
    obtain ⟨j0, hj, hth⟩ := live_iff.1 hs
    obtain ⟨k, rfl⟩ := Int.eq_ofNat_of_zero_le j0
    simp only [Int.toNat_natCast] at hj
    obtain ⟨gs, cs, rfl, _, hcs, hgs, hk, a0, a1, _⟩ := open_spot hS hj
    rw [hth] at a1
    have c2 := hB.cell 2
    obtain ⟨m, hm⟩ : ∃ m, m = t.spots.length := ⟨_, rfl⟩
    rw [← hm] at c2 hk hcs
    have lg := hB.lt
    clear hB hS hF hs hj q1 q2 q3 hm
    go_enter Try.func51, Try.ntmps51
    go_wp2_with (go_at_call 57; refine (none_C (h0.quiet (Chg.alloc (Chg.refl _ _) _)) hw).mono ?_; rintro e w' ⟨rfl, rfl⟩)
    exact bodyPost_ret (v := .tuple #[.agg #[.int .i64 k, .int .u64 s.gen], .bool true]) (by simp [results, Try.results51, go_sem]) rfl ⟨rfl, (Chg.refl _ _).alloc _⟩
  · obtain ⟨q1, q2, q3, _⟩ := live_none hno
    rw [q1, q2, q3]
    clear q1 q2 q3
    obtain ⟨A, c, rfl, _⟩ := hS.val
    have c2 := hB.cell 2
    have lg := hB.lt
    by_cases j0 : i < 0
    · clear hB hS hF hno
      go_enter Try.func51, Try.ntmps51
      go_wp2_with (go_at_call 57; refine (none_C (h0.quiet (Chg.alloc (Chg.refl _ _) _)) hw).mono ?_; rintro e w' ⟨rfl, rfl⟩)
      exact bodyPost_ret (v := .tuple #[.agg #[.int .i64 0, .int .u64 0], .bool false]) (by simp [results, Try.results51, go_sem]) rfl ⟨rfl, (Chg.refl _ _).alloc _⟩
    · obtain ⟨k, rfl⟩ := Int.eq_ofNat_of_zero_le (by omega : 0 ≤ i)
      by_cases hk : k < t.spots.length
      · have hj : t.spots[k]? = some (t.spots[k]) := List.getElem?_eq_getElem hk
        have hth : (t.spots[k]).there = false := by
          cases hb : (t.spots[k]).there with
          | false => rfl
          | true => have := live_nat.2 ⟨hj, hb⟩; rw [hno] at this; cases this
        obtain ⟨gs, cs, hv, _, hcs, hgs, hk, a0, a1, _⟩ := open_spot hS hj
        injection hv with hA _ hc
        subst hA
        rw [hth] at a1
        obtain ⟨m, hm⟩ : ∃ m, m = t.spots.length := ⟨_, rfl⟩
        rw [← hm] at c2 hk hcs
        clear hB hS hF hno hj hth hm a0
        go_enter Try.func51, Try.ntmps51
        go_wp2_with (go_at_call 57; refine (none_C (h0.quiet (Chg.alloc (Chg.refl _ _) _)) hw).mono ?_; rintro e w' ⟨rfl, rfl⟩)
        exact bodyPost_ret (v := .tuple #[.agg #[.int .i64 0, .int .u64 0], .bool false]) (by simp [results, Try.results51, go_sem]) rfl ⟨rfl, (Chg.refl _ _).alloc _⟩
      · obtain ⟨m, hm⟩ : ∃ m, m = t.spots.length := ⟨_, rfl⟩
        rw [← hm] at c2 hk
        clear hB hS hF hno hm
        go_enter Try.func51, Try.ntmps51
        go_wp2_with (go_at_call 57; refine (none_C (h0.quiet (Chg.alloc (Chg.refl _ _) _)) hw).mono ?_; rintro e w' ⟨rfl, rfl⟩)
        exact bodyPost_ret (v := .tuple #[.agg #[.int .i64 0, .int .u64 0], .bool false]) (by simp [results, Try.results51, go_sem]) rfl ⟨rfl, (Chg.refl _ _).alloc _⟩

/-- The ref that is compared: is it the one that is asked for? -/
theorem nil_C (w : World) : Calls Try.prog 48 #[.pointer none] w fun e w' => e = .returned (.int .i64 0) ∧ w = w' := by
  go_enter Try.func48, Try.ntmps48
  go_wp2
  go_ret
  exact ⟨rfl, rfl⟩

theorem take_C {w : World} {g : Nat} {S : List Nat} {t : Tab Gr} (h : TabAt w g S t) (hw : t.WF) (hf : t.frees ≠ 0) :
    Calls Try.prog 66 #[.pointer (some ⟨g, 0, none⟩)] w fun e w' => e = .returned (.int .i64 (t.takeAt : Nat)) ∧ Turns g S (t.take Gr.zero) w w' := by
  obtain ⟨VS, VF, hB, hS, hF, rfl⟩ := h
  obtain ⟨A, c, rfl, _⟩ := hS.val
  have hs1 := hw.s1
  have hl := hw.len
  rcases List.eq_nil_or_concat t.freed with hn | ⟨l, k, hk⟩
  · obtain ⟨q1, q2⟩ := take_nil (z := Gr.zero) hn
    rw [q1, q2]
    obtain ⟨i0, hi0, hz0, hz1, hz2⟩ := info_parts Try.info_C
    have hlt : (t.spots.length : Int) < t.size := by unfold Tab.frees at hf; rw [hn] at hf; simp at hf; omega
    rw [hn] at hF
    obtain ⟨A', c', rfl, _⟩ := hF.val
    have c1 := hB.cell 1
    have c2 := hB.cell 2
    have c3 := hB.cell 3
    have f2 := hB.frozen 2
    have c2' : ((w.alloc (.cells #[.int .u64 t.first, .bool false, .int .i64 0, .bool false, .int .i64 0, .int .u64 0, .int .i64 0, .int .u64 0, .int .u8 0, .int .i64 0, .int .i64 0, .int .u64 0, .int .u64 0, .int .u64 0, .int .u64 0, .int .u64 0, .int .u64 0, .int .u64 0, .int .u64 0, .int .i64 0, .int .u64 0] 103)).drew).cell? ⟨g, 2, none⟩ = some (.slice A t.spots.length c) := (hB.alloc _).cell 2
    have f2a' : ((w.alloc (.cells #[.int .u64 t.first, .bool false, .int .i64 0, .bool false, .int .i64 0, .int .u64 0, .int .i64 0, .int .u64 0, .int .u8 0, .int .i64 0, .int .i64 0, .int .u64 0, .int .u64 0, .int .u64 0, .int .u64 0, .int .u64 0, .int .u64 0, .int .u64 0, .int .u64 0, .int .i64 0, .int .u64 0] 103)).drew).frozen? ⟨g, 2, none⟩ = false := (hB.alloc _).frozen 2
    have lg := hB.lt
    have hne : ∀ k ∈ foot (.slice A t.spots.length c), k ≠ g := fun k hk e => hS.ty hB (by decide) (by rw [← e]; exact hk)
    have hne' : (Value.slice A t.spots.length c).ownBlock ≠ some g := fun e => hne g (row_mem e) rfl
    have hff := hS.ty2 hF (by decide)
    have HB := Lib.hid hB
    have HF := Lib.hid hF
    have HQ := Lib.hid hff
    have HN := Lib.hid hn
    have hl4 : t.spots.length + 1 ≤ 4097 := by omega
    clear hB hF hf hn q1 q2 hff
    go_enter Try.func66, Try.ntmps66
    go_wp2
    go_region_law
      ((refine step_append_row _ (by rfl) _ _ _ (by rfl) 103 i0 _ 21 168 Try.underlying94 hi0 hz0 hz1 hz2 rfl (.slice A t.spots.length c) t.spots.length (spotCells t.spots) (by rfl) ((hS.alloc _).drew) ⟨w.heap.size, 0, none⟩ 1 1 [.int .u64 t.first, .bool false, .int .i64 0, .bool false, .int .i64 0, .int .u64 0, .int .i64 0, .int .u64 0, .int .u8 0, .int .i64 0, .int .i64 0, .int .u64 0, .int .u64 0, .int .u64 0, .int .u64 0, .int .u64 0, .int .u64 0, .int .u64 0, .int .u64 0, .int .i64 0, .int .u64 0] (by rfl) (by rfl) (World.news_of_block (cs := #[.int .u64 t.first, .bool false, .int .i64 0, .bool false, .int .i64 0, .int .u64 0, .int .i64 0, .int .u64 0, .int .u8 0, .int .i64 0, .int .i64 0, .int .u64 0, .int .u64 0, .int .u64 0, .int .u64 0, .int .u64 0, .int .u64 0, .int .u64 0, .int .u64 0, .int .i64 0, .int .u64 0]) (t := 103) (fr := (0, 0)) (heap_alloc_new w _)) (by simp [Value.oneCell']) (by omega) (by unfold maxLen; omega) (by omega) (w.heap.size + 1) (by simp) ?_; intro gg cap w1 hown1 hgrow hat hlt1; have e2 : w1.cell? ⟨g, 2, none⟩ = some (.slice A t.spots.length c) := (hgrow.cell_far _ (by simp; omega) (Ne.symm hne')).trans c2'; have e3 : w1.frozen? ⟨g, 2, none⟩ = false := (hgrow.frozen_far _ (by simp; omega) (Ne.symm hne')).trans f2a'))
    all_goals
      have HT := Lib.hid (Turns.grow (s := ⟨t.first, false, Gr.zero⟩) HB.out hS (HN.out ▸ HF.out) hown1 hgrow hat)
      go_wp2
      go_ret
      exact ⟨rfl, HT.out⟩
  · rw [List.concat_eq_append] at hk
    obtain ⟨q1, q2⟩ := take_cons (z := Gr.zero) hk
    rw [q1, q2]
    rw [hk] at hF
    obtain ⟨gf, cf, rfl, hft, hcf, hcell, hfz, hlt⟩ := hF.form (by simp)
    have a3 : w.cell? ⟨gf, l.length, none⟩ = some (.int .i64 (k : Nat)) := hcell _ _ (by unfold numCells; simp)
    have c3 := hB.cell 3
    have f3 := hB.frozen 3
    have hne : gf ≠ g := fun e => hF.ty hB (by decide) (by rw [hft]; simp [e])
    have HT := Lib.hid (Turns.cut (k := k) hB hS (hF.cut (k := l.length) (by simp)) hne hlt)
    have hlen : (l ++ [k]).length = l.length + 1 := by simp
    rw [hlen] at c3 hcf
    obtain ⟨m, hm⟩ : ∃ m, m = l.length := ⟨_, rfl⟩
    rw [← hm] at a3 c3 hcf
    have hm2 : m ≤ 4096 := by have := hw.freed_len; rw [hk] at this; simp at this; omega
    have HM := Lib.hid hm
    clear hB hS hF hcell hfz hft hlen hm q1 q2 hk hf
    go_enter Try.func66, Try.ntmps66
    go_wp2
    go_ret
    refine ⟨rfl, ?_⟩
    rw [HM.out]
    exact HT.out
end Go.Proofs
end
section
namespace Go.Proofs
open Go.RowKit
set_option linter.unusedVariables false

/-! ### Whole loads and stores, as arms of a walk -/
section
variable {P : Program} {w : World} {b n : Nat} {t e : TypeId} {A cur : Array Value}
theorem blk_cells (hB : Blk w b e A) : ∀ j v, A[j]? = some v → w.cell? ⟨b, 0 + j, none⟩ = some v := fun j v h => by rw [Nat.zero_add]; exact (hB.cell j).trans h
theorem wpl_load (T : AggOf P t n) (hB : Blk w b e A) (hn : A.size = n) {ops : Array Oper} {rest : List Oper} {o : Oper} {a : Act} {Q : Exit → Act → World → Prop} (hg : Region.wanted o (yielded ops a.tmps) = true) (x : Operand) (ho : o.op = .load t x)
    (hx : a.eval x = .pointer (some ⟨b, 0, none⟩)) (h : wpList P ops Q rest (a.put o.dst (.agg A)) w) : wpList P ops Q (o :: rest) a w :=
  sk_list_load T hn (blk_cells hB) hg x ho hx h
theorem wpl_store (T : AggOf P t n) (hB : Blk w b e cur) (hc : cur.size = n) (hn : A.size = n) (h1 : A.all (·.oneCell') = true) {ops : Array Oper} {rest : List Oper} {o : Oper} {a : Act} {Q : Exit → Act → World → Prop} (hg : Region.wanted o (yielded ops a.tmps) = true) (x y : Operand) (ho : o.op = .store t x y)
    (hx : a.eval x = .pointer (some ⟨b, 0, none⟩)) (hy : a.eval y = .agg A) (h : ∀ w', Stored w w' b e A → wpList P ops Q rest (a.put o.dst undef) w') : wpList P ops Q (o :: rest) a w :=
  sk_list_store T hB hn (by omega) h1 hg x y ho hx hy fun w' hS => h w' (by rw [splice_all cur A (by omega)] at hS; exact hS)
theorem wpIn_of_value {F : Fence} {m : Nat} {o : Oper} {a : Act} {K : Act → World → Prop} {Q : Exit → Act → World → Prop} {v : Value} {w w' : World} (hd : ∀ c, o.op ≠ .defer c) (hc : ∀ c, o.op ≠ .call c) (hr : (execOp a.eval o).run P w = .ok (.value v) w') (h : K (a.put o.dst v) w') : o.wpIn F m P a w K Q := by
  unfold Oper.wpIn
  rw [Oper.semAt_eq F.round a.eval o hd, hr]
  refine ⟨fun f hf => ?_, h⟩
  unfold Oper.about at hf
  split at hf
  · rename_i c hcc; exact absurd hcc (hc c)
  · cases hf
theorem wpIn_of_skip {F : Fence} {m : Nat} {o : Oper} {a : Act} {K : Act → World → Prop} {Q : Exit → Act → World → Prop} {w w' : World} (hd : ∀ c, o.op ≠ .defer c) (hc : ∀ c, o.op ≠ .call c) (hr : (execOp a.eval o).run P w = .ok .skip w') (h : K (a.put o.dst undef) w') : o.wpIn F m P a w K Q := by
  unfold Oper.wpIn
  rw [Oper.semAt_eq F.round a.eval o hd, hr]
  refine ⟨fun f hf => ?_, h⟩
  unfold Oper.about at hf
  split at hf
  · rename_i c hcc; exact absurd hcc (hc c)
  · cases hf
theorem sk_run_store (T : AggOf P t n) {off : Nat} (hB : Blk w b e cur) (hn : A.size = n) (hf : off + A.size ≤ cur.size) (h1 : A.all (·.oneCell') = true) {o : Oper} {a : Act} (x y : Operand) (ho : o.op = .store t x y)
    (hx : a.eval x = .pointer (some ⟨b, off, none⟩)) (hy : a.eval y = .agg A) : ∃ w', (execOp a.eval o).run P w = .ok .skip w' ∧ Stored w w' b e (splice_at cur off A) := by
  obtain ⟨w', hrun, hS⟩ := sk_store (P := P) T hB hn hf h1
  refine ⟨w', ?_, hS⟩
  unfold execOp
  simp only [ho, hx, hy, Instr.storeAt, Instr.sureAddr, Sem.run_bind, Sem.run_pure, Result.andThen_ok, hrun]
theorem wpi_load_at {F : Fence} {m off : Nat} (T : AggOf P t n) (hn : A.size = n) (hc : ∀ j v, A[j]? = some v → w.cell? ⟨b, off + j, none⟩ = some v) {ops : Array Oper} {rest : List Oper} {o : Oper} {a : Act} {Q : Exit → Act → World → Prop} (hg : Region.wanted o (yielded ops a.tmps) = true) (x : Operand) (ho : o.op = .load t x)
    (hx : a.eval x = .pointer (some ⟨b, off, none⟩)) (h : wpListIn F m P ops Q rest (a.put o.dst (.agg A)) w) : wpListIn F m P ops Q (o :: rest) a w :=
  wpListIn_step fun K hK => by rw [if_pos hg]; exact wpIn_of_value (by simp [ho]) (by simp [ho]) (sk_run_load T hn hc x ho hx) (hK _ _ h)
theorem wpi_load {F : Fence} {m : Nat} (T : AggOf P t n) (hB : Blk w b e A) (hn : A.size = n) {ops : Array Oper} {rest : List Oper} {o : Oper} {a : Act} {Q : Exit → Act → World → Prop} (hg : Region.wanted o (yielded ops a.tmps) = true) (x : Operand) (ho : o.op = .load t x)
    (hx : a.eval x = .pointer (some ⟨b, 0, none⟩)) (h : wpListIn F m P ops Q rest (a.put o.dst (.agg A)) w) : wpListIn F m P ops Q (o :: rest) a w :=
  wpi_load_at T hn (blk_cells hB) hg x ho hx h
theorem wpi_store {F : Fence} {m : Nat} (T : AggOf P t n) (hB : Blk w b e cur) (hc : cur.size = n) (hn : A.size = n) (h1 : A.all (·.oneCell') = true) {ops : Array Oper} {rest : List Oper} {o : Oper} {a : Act} {Q : Exit → Act → World → Prop} (hg : Region.wanted o (yielded ops a.tmps) = true) (x y : Operand) (ho : o.op = .store t x y)
    (hx : a.eval x = .pointer (some ⟨b, 0, none⟩)) (hy : a.eval y = .agg A) (h : ∀ w', Stored w w' b e A → wpListIn F m P ops Q rest (a.put o.dst undef) w') : wpListIn F m P ops Q (o :: rest) a w :=
  wpListIn_step fun K hK => by
    rw [if_pos hg]
    obtain ⟨w', hr, hS⟩ := sk_run_store T hB hn (off := 0) (by omega) h1 x y ho hx hy
    rw [splice_all cur A (by omega)] at hS
    exact wpIn_of_skip (by simp [ho]) (by simp [ho]) hr (hK _ _ (h w' hS))
end
section
variable {P : Program} {w : World} {b : Nat} {e t : TypeId} {n : Nat} {A : Array Value}
theorem res_cell {fn : Func} {p u : Tmp} {tmps : Array Value} {v : Value} (h : fn.results = #[.cell p t, .tmp u]) (T : AggOf P t n) (hp : tmps.getD p undef = .pointer (some ⟨b, 0, none⟩)) (hu : tmps.getD u undef = v) (hB : Blk w b e A) (hn : A.size = n) :
    (results fn tmps).run P w = .ok (.tuple #[.agg A, v]) w := by
  rw [results_cell_tmp h, hp, hu]
  simp only [asAddr, Sem.run_pure, Result.andThen_ok, sk_load T hn (blk_cells hB)]
end
end Go.Proofs
end
