import Derived.Test.YtncpeemghnmakaaM2
import Derived.Deep.QuietTactic
import Derived.BigQuiet
import Derived.BigRegion
import Derived.Deep.RegionHeld3
import Derived.Deep.RegionLaw
import Derived.Deep.LoopGhost
import Derived.StillTailTactics
import Derived.IntWalk
import Derived.Laws.MakeOwn
import Derived.Deep.RegionHeldLaw
import Derived.Deep.CutRange
import Derived.Deep.CutBlock
import Derived.Shelf.RegionOpen
import Derived.Laws.StructEq
import Derived.Laws.Pointers
import Derived.Deep.DeepFit
import Derived.WalkMore
import Derived.WalkSpells
section

end
section
namespace Go.Proofs
open Go.RowKit
set_option linter.unusedVariables false
set_option linter.unusedSimpArgs false

/-! ### A forest in memory, as the program keeps it -/
theorem flat_len {α : Type} {enc : α → List Value} {s : Nat} (hs : ∀ x, (enc x).length = s) (l : List α) : (l.flatMap enc).length = l.length * s := by
  induction l with
  | nil => simp
  | cons a l ih => rw [List.flatMap_cons, List.length_append, hs, ih, List.length_cons, Nat.add_mul]; omega
theorem flat_at {α : Type} {enc : α → List Value} {s : Nat} (hs : ∀ x, (enc x).length = s) {l : List α} {k : Nat} {x : α} (h : l[k]? = some x) {j : Nat} {u : Value} (hj : (enc x)[j]? = some u) : (l.flatMap enc)[k * s + j]? = some u := by
  induction l generalizing k with
  | nil => simp at h
  | cons a l ih =>
    have hjs : j < s := by have := (List.getElem?_eq_some_iff.1 hj).1; rw [hs] at this; exact this
    rw [List.flatMap_cons]
    cases k with
    | zero =>
      simp at h; subst h
      rw [Nat.zero_mul, Nat.zero_add, List.getElem?_append_left (by rw [hs]; exact hjs)]
      exact hj
    | succ k =>
      rw [List.getElem?_append_right (by rw [hs, Nat.add_mul]; omega), hs]
      rw [show (k + 1) * s + j - s = k * s + j by rw [Nat.add_mul]; omega]
      exact ih (by simpa using h)
theorem flat_set {α : Type} {enc : α → List Value} {s : Nat} (hs : ∀ x, (enc x).length = s) : ∀ (l : List α) (k : Nat) (x y : α) (j : Nat) (u : Value), l[k]? = some x → enc y = (enc x).set j u → j < s → (l.set k y).flatMap enc = (l.flatMap enc).set (k * s + j) u
  | [], k, x, y, j, u, h, _, _ => by simp at h
  | a :: l, 0, x, y, j, u, h, hy, hj => by
    simp at h; subst h
    rw [List.set_cons_zero, List.flatMap_cons, List.flatMap_cons, hy, Nat.zero_mul, Nat.zero_add, List.set_append_left _ _ (by rw [hs]; exact hj)]
  | a :: l, k + 1, x, y, j, u, h, hy, hj => by
    rw [List.set_cons_succ, List.flatMap_cons, List.flatMap_cons, flat_set hs l k x y j u (by simpa using h) hy hj, List.set_append_right _ _ (by rw [hs, Nat.add_mul]; omega), hs]
    congr 2
    rw [Nat.add_mul]; omega
/-- A node: is it there, its parent, its first child, who is beside it. -/
structure Nd where
  there : Bool
  par : Int
  child : Int
  left : Int
  right : Int
def nd0 : Nd := ⟨false, 0, 0, 0, 0⟩
/-- A forest: how many places, the first root, the places that were taken once, those of them that are free. -/
structure Tr where
  size : Nat
  root : Int
  N : List Nd
  F : List Nat
def Nd.cells (d : Nd) : List Value := [.bool d.there, .int .i64 d.par, .int .i64 d.child, .int .i64 d.left, .int .i64 d.right]
abbrev Nd.val (d : Nd) : Value := .agg #[.bool d.there, .int .i64 d.par, .int .i64 d.child, .int .i64 d.left, .int .i64 d.right]
abbrev Nd.arr (d : Nd) : Array Value := #[.bool d.there, .int .i64 d.par, .int .i64 d.child, .int .i64 d.left, .int .i64 d.right]
def ndCells (l : List Nd) : List Value := l.flatMap Nd.cells
def iN (l : List Nat) : List Int := l.map fun n => ((n : Nat) : Int)
@[simp] theorem iN_len (l : List Nat) : (iN l).length = l.length := by simp [iN]
theorem iN_append (l l' : List Nat) : iN (l ++ l') = iN l ++ iN l' := by simp [iN]
theorem iN_at {l : List Nat} {k n : Nat} (h : l[k]? = some n) : (iN l)[k]? = some ((n : Nat) : Int) := by simp [iN, h]
theorem iN_inj {l l' : List Nat} (h : iN l = iN l') : l = l' := by
  induction l generalizing l' with
  | nil => cases l' with | nil => rfl | cons b l' => simp [iN] at h
  | cons a l ih =>
    cases l' with
    | nil => simp [iN] at h
    | cons b l' =>
      simp only [iN, List.map_cons, List.cons.injEq] at h
      obtain ⟨h1, h2⟩ := h
      rw [ih h2]
      congr 1
      omega
theorem iN_take (l : List Nat) (k : Nat) : iN (l.take k) = (iN l).take k := by simp [iN, List.map_take]
theorem iN_drop (l : List Nat) (k : Nat) : iN (l.drop k) = (iN l).drop k := by simp [iN, List.map_drop]
theorem ndCells_len (l : List Nd) : (ndCells l).length = l.length * 5 := flat_len (enc := Nd.cells) (s := 5) (fun _ => rfl) l
theorem ndCells_append (l l' : List Nd) : ndCells (l ++ l') = ndCells l ++ ndCells l' := by unfold ndCells; simp
theorem ndCells_at (l : List Nd) (k : Nat) (d : Nd) (h : l[k]? = some d) : (ndCells l)[k * 5]? = some (.bool d.there) ∧ (ndCells l)[k * 5 + 1]? = some (.int .i64 d.par) ∧ (ndCells l)[k * 5 + 2]? = some (.int .i64 d.child) ∧ (ndCells l)[k * 5 + 3]? = some (.int .i64 d.left) ∧ (ndCells l)[k * 5 + 4]? = some (.int .i64 d.right) := by
  have e := fun j u => flat_at (enc := Nd.cells) (s := 5) (fun _ => rfl) (j := j) (u := u) h
  exact ⟨e 0 _ rfl, e 1 _ rfl, e 2 _ rfl, e 3 _ rfl, e 4 _ rfl⟩
theorem nd_set {l : List Nd} {k : Nat} {d d' : Nd} {j : Nat} {u : Value} (h : l[k]? = some d) (hy : d'.cells = d.cells.set j u) (hj : j < 5) : ndCells (l.set k d') = (ndCells l).set (k * 5 + j) u :=
  flat_set (enc := Nd.cells) (s := 5) (fun _ => rfl) l k d d' j u h hy hj
/-- The five cells of a node, set in memory. -/
abbrev put5 (w : World) (g o : Nat) (d : Nd) : World := ((((w.setCell ⟨g, o, none⟩ (.bool d.there)).setCell ⟨g, o + 1, none⟩ (.int .i64 d.par)).setCell ⟨g, o + 2, none⟩ (.int .i64 d.child)).setCell ⟨g, o + 3, none⟩ (.int .i64 d.left)).setCell ⟨g, o + 4, none⟩ (.int .i64 d.right)
theorem chg_put5 {S : List Nat} {a w : World} {g : Nat} (h : Chg S a w) (hg : g ∈ S ∨ a.heap.size ≤ g) (o : Nat) (d : Nd) : Chg S a (put5 w g o d) :=
  ((((h.setCell (p := ⟨g, o, none⟩) hg _).setCell (p := ⟨g, o + 1, none⟩) hg _).setCell (p := ⟨g, o + 2, none⟩) hg _).setCell (p := ⟨g, o + 3, none⟩) hg _).setCell (p := ⟨g, o + 4, none⟩) hg _
theorem nd_put {l : List Nd} {k : Nat} (d : Nd) : k < l.length → ndCells (l.set k d) = (((((ndCells l).set (k * 5) (.bool d.there)).set (k * 5 + 1) (.int .i64 d.par)).set (k * 5 + 2) (.int .i64 d.child)).set (k * 5 + 3) (.int .i64 d.left)).set (k * 5 + 4) (.int .i64 d.right) := by
  induction l generalizing k with
  | nil => intro h; simp at h
  | cons a l ih =>
    intro h
    cases k with
    | zero => simp [ndCells, Nd.cells]
    | succ k =>
      have := ih (k := k) (by simpa using h)
      unfold ndCells at this ⊢
      rw [List.set_cons_succ, List.flatMap_cons, List.flatMap_cons, this]
      have e : ∀ (m : List Value) (j : Nat) (u : Value), (Nd.cells a ++ m).set ((k + 1) * 5 + j) u = Nd.cells a ++ m.set (k * 5 + j) u := fun m j u => by
        rw [List.set_append_right _ _ (by simp [Nd.cells]; omega)]
        simp [Nd.cells]; congr 1; omega
      have e0 := fun m u => e m 0 u
      simp only [Nat.add_zero] at e0
      rw [e0, e, e, e, e]
theorem Row.put5_ {w : World} {e : TypeId} {n g cap : Nat} {l : List Nd} (h : Row w e 5 (.slice (some ⟨g, 0, none⟩) n cap) n (ndCells l)) {k : Nat} (hk : k < n) (hl : l.length = n) (d : Nd) :
    Row (put5 w g (k * 5) d) e 5 (.slice (some ⟨g, 0, none⟩) n cap) n (ndCells (l.set k d)) := by
  rw [nd_put d (by omega)]
  exact ((((h.set_ (j := k * 5) (by omega) _).set_ (j := k * 5 + 1) (by omega) _).set_ (j := k * 5 + 2) (by omega) _).set_ (j := k * 5 + 3) (by omega) _).set_ (j := k * 5 + 4) (by omega) _

/-- The forest c lies in w at block h; S are its blocks. -/
def TreeAt (w : World) (h : Nat) (S : List Nat) (c : Tr) : Prop :=
  ∃ VN VF, Blk w h 119 #[.int .i64 c.size, .int .i64 c.root, VN, VF] ∧ Row w 124 5 VN c.N.length (ndCells c.N) ∧ Row w 3 1 VF c.F.length (ints (iN c.F)) ∧ S = h :: (foot VN ++ foot VF)
section
variable {w w' : World} {h : Nat} {S : List Nat} {c : Tr}
theorem TreeAt.lt (H : TreeAt w h S c) : ∀ k ∈ S, k < w.heap.size := by
  obtain ⟨VN, VF, hB, hN, hF, rfl⟩ := H
  intro k hk
  simp only [List.mem_cons, List.mem_append] at hk
  rcases hk with rfl | hk | hk
  · exact hB.lt
  · exact hN.lt k hk
  · exact hF.lt k hk
theorem TreeAt.mem (H : TreeAt w h S c) : h ∈ S := by obtain ⟨VN, VF, hB, hN, hF, rfl⟩ := H; simp
theorem TreeAt.chg {S' : List Nat} (H : TreeAt w h S c) (hc : Chg S' w w') (hn : ∀ k ∈ S, k ∉ S') : TreeAt w' h S c := by
  obtain ⟨VN, VF, hB, hN, hF, rfl⟩ := H
  exact ⟨VN, VF, hB.chg hc (hn h (by simp)), hN.chg hc (fun k hk => hn k (by simp [hk])), hF.chg hc (fun k hk => hn k (by simp [hk])), rfl⟩
theorem TreeAt.quiet (H : TreeAt w h S c) (hc : Chg [] w w') : TreeAt w' h S c := H.chg hc (fun _ _ hk => by cases hk)
/-- What there is of a forest, in every world in which nothing turned. -/
theorem TreeAt.head (H : TreeAt w h S c) : ∃ A cN B cF, c.N.length ≤ cN ∧ c.F.length ≤ cF ∧ (A = none → cN = 0) ∧ (B = none → cF = 0) ∧ (∀ W, Chg [] w W →
    W.cell? ⟨h, 0, none⟩ = some (.int .i64 c.size) ∧ W.cell? ⟨h, 1, none⟩ = some (.int .i64 c.root) ∧ W.cell? ⟨h, 2, none⟩ = some (.slice A c.N.length cN) ∧ W.cell? ⟨h, 3, none⟩ = some (.slice B c.F.length cF) ∧ h < W.heap.size ∧ ∀ j, W.frozen? ⟨h, j, none⟩ = false) ∧
    (∀ (k : Nat) (d : Nd), c.N[k]? = some d → ∃ g, A = some ⟨g, 0, none⟩ ∧ g ≠ h ∧ ∀ W, Chg [] w W → g < W.heap.size ∧ (∀ j, W.frozen? ⟨g, j, none⟩ = false) ∧ W.cell? ⟨g, k * 5, none⟩ = some (.bool d.there) ∧ W.cell? ⟨g, k * 5 + 1, none⟩ = some (.int .i64 d.par) ∧ W.cell? ⟨g, k * 5 + 2, none⟩ = some (.int .i64 d.child) ∧ W.cell? ⟨g, k * 5 + 3, none⟩ = some (.int .i64 d.left) ∧ W.cell? ⟨g, k * 5 + 4, none⟩ = some (.int .i64 d.right)) ∧
    (∀ (k n : Nat), c.F[k]? = some n → ∃ g, B = some ⟨g, 0, none⟩ ∧ ∀ W, Chg [] w W → g < W.heap.size ∧ W.cell? ⟨g, k, none⟩ = some (.int .i64 ((n : Nat) : Int))) := by
  obtain ⟨VN, VF, hB, hN, hF, rfl⟩ := H
  have len : ∀ {e : TypeId} {s n : Nat} {v : Value} {xs : List Value}, Row w e s v n xs → ∃ A c', v = .slice A n c' ∧ n ≤ c' ∧ (A = none → c' = 0) := by
    intro e s n v xs hr
    rcases hr.2 with ⟨rfl, rfl⟩ | ⟨g, cap, cur, rfl, _, hc, _⟩
    · exact ⟨_, _, rfl, Nat.le_refl _, fun _ => rfl⟩
    · exact ⟨_, _, rfl, hc, fun h => by cases h⟩
  obtain ⟨A, cN, rfl, hA, hA0⟩ := len hN
  obtain ⟨B, cF, rfl, hB', hB0⟩ := len hF
  refine ⟨A, cN, B, cF, hA, hB', hA0, hB0, fun W hc => ?_, fun k d hk => ?_, fun k n hk => ?_⟩
  · have hb := hB.chg hc (by simp)
    exact ⟨hb.cell 0, hb.cell 1, hb.cell 2, hb.cell 3, hb.lt, hb.frozen⟩
  · obtain ⟨g, cap, hv, hf, _, hcell, hfz, hlt⟩ := hN.form (by have := (List.getElem?_eq_some_iff.1 hk).1; omega)
    injection hv with hv1 hv2 hv3
    subst hv1
    have hne : h ≠ g := by have := hN.ty hB (by decide); simpa [foot_some] using this
    refine ⟨g, rfl, hne.symm, fun W hc => ?_⟩
    have e : ∀ o, W.cell? ⟨g, o, none⟩ = w.cell? ⟨g, o, none⟩ := fun o => hc.cell (p := ⟨g, o, none⟩) hlt (by simp)
    obtain ⟨c0, c1, c2, c3, c4⟩ := ndCells_at c.N k d hk
    exact ⟨Nat.lt_of_lt_of_le hlt hc.size, fun j => (hc.frozen (p := ⟨g, j, none⟩) hlt (by simp)).trans (hfz j), (e _).trans (hcell _ _ c0), (e _).trans (hcell _ _ c1), (e _).trans (hcell _ _ c2), (e _).trans (hcell _ _ c3), (e _).trans (hcell _ _ c4)⟩
  · obtain ⟨g, cap, hv, hf, _, hcell, hfz, hlt⟩ := hF.form (by have := (List.getElem?_eq_some_iff.1 hk).1; omega)
    injection hv with hv1 hv2 hv3
    subst hv1
    refine ⟨g, rfl, fun W hc => ?_⟩
    have e : ∀ o, W.cell? ⟨g, o, none⟩ = w.cell? ⟨g, o, none⟩ := fun o => hc.cell (p := ⟨g, o, none⟩) hlt (by simp)
    exact ⟨Nat.lt_of_lt_of_le hlt hc.size, (e _).trans (hcell _ _ (ints_at (iN_at hk)))⟩
end
/-- What a call on the forest at h leaves: the forest c'; its blocks are those it had, or new ones; nothing else has turned. -/
def Turns (h : Nat) (S : List Nat) (c' : Tr) (w w' : World) : Prop := ∃ S', TreeAt w' h S' c' ∧ (∀ k ∈ S', k ∈ S ∨ w.heap.size ≤ k) ∧ Chg S w w'
theorem Turns.refl {h : Nat} {S : List Nat} {c : Tr} {a b : World} (H : TreeAt a h S c) (hc : Chg [] a b) : Turns h S c a b := ⟨S, H.quiet hc, fun k hk => .inl hk, hc.any⟩
theorem Turns.later {h : Nat} {S : List Nat} {c : Tr} {a b d : World} (H : Turns h S c a b) (hc : Chg [] b d) : Turns h S c a d := by
  obtain ⟨S', h1, h2, h3⟩ := H
  exact ⟨S', h1.quiet hc, h2, h3.then hc⟩
theorem Turns.earlier {h : Nat} {S : List Nat} {c : Tr} {a b d : World} (H : Turns h S c b d) (hc : Chg [] a b) : Turns h S c a d := by
  obtain ⟨S', h1, h2, h3⟩ := H
  exact ⟨S', h1, fun k hk => (h2 k hk).imp id (fun h => Nat.le_trans hc.size h), (Chg.any hc).trans h3 (fun k hk => .inl hk)⟩
theorem Turns.trans {h : Nat} {S S1 : List Nat} {c2 : Tr} {a b d : World} (hs : ∀ k ∈ S1, k ∈ S ∨ a.heap.size ≤ k) (hc : Chg S a b) (H : Turns h S1 c2 b d) : Turns h S c2 a d := by
  obtain ⟨S2, h1, h2, h3⟩ := H
  refine ⟨S2, h1, fun k hk => ?_, hc.trans h3 hs⟩
  rcases h2 k hk with h | h
  · exact hs k h
  · exact .inr (Nat.le_trans hc.size h)
/-- A node is another one now. -/
theorem Turns.write {w W W2 : World} {h gl cl : Nat} {S : List Nat} {c : Tr} {N' : List Nd} (H : TreeAt w h S c) (hv : w.cell? ⟨h, 2, none⟩ = some (.slice (some ⟨gl, 0, none⟩) c.N.length cl)) (hc : Chg [] w W) (h2 : Chg [gl] W W2)
    (hl : N'.length = c.N.length) (hrow : Row W2 124 5 (.slice (some ⟨gl, 0, none⟩) c.N.length cl) c.N.length (ndCells N')) :
    Turns h S { c with N := N' } w W2 := by
  obtain ⟨VN, VF, hB, hN, hF, rfl⟩ := H
  have e0 : VN = .slice (some ⟨gl, 0, none⟩) c.N.length cl := by
    have := hB.cell 2
    simp only [List.getElem?_toArray, List.getElem?_cons_zero, List.getElem?_cons_succ] at this
    rw [this] at hv
    exact Option.some.inj hv
  subst e0
  have hne : h ≠ gl := by have := hN.ty hB (by decide); simpa [foot_some] using this
  have hfn : gl ∉ foot VF := fun hm => hN.ty2 hF (by decide) gl (by simp [foot_some]) hm
  refine ⟨_, ⟨_, VF, (hB.chg hc (by simp)).chg h2 (by simpa using hne), by simpa [hl] using hrow, (hF.chg hc (fun _ _ h => by cases h)).chg h2 (fun k hk e => hfn (by simp at e; exact e ▸ hk)), rfl⟩, fun k hk => .inl hk, ?_⟩
  exact (Chg.any hc).trans h2 (fun k hk => .inl (by simp at hk; simp [hk, foot_some]))
theorem TreeAt.row {w : World} {h gl cl : Nat} {S : List Nat} {c : Tr} (H : TreeAt w h S c) (hv : w.cell? ⟨h, 2, none⟩ = some (.slice (some ⟨gl, 0, none⟩) c.N.length cl)) : Row w 124 5 (.slice (some ⟨gl, 0, none⟩) c.N.length cl) c.N.length (ndCells c.N) := by
  obtain ⟨VN, VF, hB, hN, hF, rfl⟩ := H
  have e0 : VN = .slice (some ⟨gl, 0, none⟩) c.N.length cl := by
    have := hB.cell 2
    simp only [List.getElem?_toArray, List.getElem?_cons_zero, List.getElem?_cons_succ] at this
    rw [this] at hv
    exact Option.some.inj hv
  subst e0
  exact hN
end Go.Proofs
end
section
namespace Go.Proofs
open Go.RowKit
set_option linter.unusedVariables false
set_option linter.unusedSimpArgs false

abbrev ptr (c : Nat) : Value := .pointer (some ⟨c, 0, none⟩)
section
variable {w : World} {h : Nat} {S : List Nat} {c : Tr}
theorem size_any (H : TreeAt w h S c) : Calls Try.prog 75 #[ptr h] w fun e w' => e = .returned (.int .i64 (c.size : Nat)) ∧ w = w' := by
  obtain ⟨A, cN, B, cF, _, _, _, _, hh, _, _⟩ := H.head
  obtain ⟨c0, c1, c2, c3, lt, _⟩ := hh w (Chg.refl _ _)
  clear hh H
  go_enter Try.func75, Try.ntmps75
  go_wp2
  go_ret
  exact ⟨rfl, rfl⟩
theorem size_nil (w : World) : Calls Try.prog 75 #[.pointer none] w fun e w' => e = .returned (.int .i64 0) ∧ w = w' := by
  go_enter Try.func75, Try.ntmps75
  go_wp2
  go_ret
  exact ⟨rfl, rfl⟩
theorem none_any (H : TreeAt w h S c) : Calls Try.prog 83 #[ptr h] w fun e w' => e = .returned (.bool (decide (c.size = 0))) ∧ w = w' := by
  have HS := size_any H
  obtain ⟨n, hn⟩ : ∃ n, n = c.size := ⟨_, rfl⟩
  rw [← hn] at HS ⊢
  have e : ((n : Int) == 0) = decide (n = 0) := by cases n <;> simp; omega
  clear hn H
  go_enter Try.func83, Try.ntmps83
  go_wp2_with (go_at_call 75; refine HS.mono ?_; rintro e w' ⟨rfl, rfl⟩)
  go_ret
  exact ⟨by first | rfl | (rw [← e]; rfl), rfl⟩
theorem none_nil (w : World) : Calls Try.prog 83 #[.pointer none] w fun e w' => e = .returned (.bool true) ∧ w = w' := by
  go_enter Try.func83, Try.ntmps83
  go_wp2_with (go_at_call 75; refine (size_nil w).mono ?_; rintro e w' ⟨rfl, rfl⟩)
  go_ret
  exact ⟨rfl, rfl⟩
theorem len_any (H : TreeAt w h S c) (hl : c.F.length ≤ c.N.length) (hn : c.N.length ≤ 4096) : Calls Try.prog 74 #[ptr h] w fun e w' => e = .returned (.int .i64 ((c.N.length - c.F.length : Nat) : Int)) ∧ Chg [] w w' := by
  obtain ⟨A, cN, B, cF, _, _, _, _, hh, _, _⟩ := H.head
  obtain ⟨c0, c1, c2, c3, lt, _⟩ := hh w (Chg.refl _ _)
  have e1 : IntKind.i64.wrap ((c.N.length : Int) - (c.F.length : Int)) = ((c.N.length - c.F.length : Nat) : Int) := by rw [show (c.N.length : Int) - (c.F.length : Int) = ((c.N.length - c.F.length : Nat) : Int) by omega]; exact IntWalk.i64_in _ (by omega)
  clear hh H
  go_enter Try.func74, Try.ntmps74
  go_wp2
  go_quiet (fail)
  go_wp2
  go_ret
  exact ⟨by simp only [Ending.returned.injEq, Value.int.injEq, true_and]; first | exact e1 | rfl | simpa using e1, (Chg.refl _ _).drewN _⟩
theorem len_nil (w : World) : Calls Try.prog 74 #[.pointer none] w fun e w' => e = .returned (.int .i64 0) ∧ w = w' := by
  go_enter Try.func74, Try.ntmps74
  go_wp2
  go_ret
  exact ⟨rfl, rfl⟩
/-- The node at a place; where there is none, one that is not there. -/
def Tr.nd (c : Tr) (i : Int) : Nd := if 0 ≤ i then (c.N[i.toNat]?).getD nd0 else nd0
theorem nd_at {c : Tr} {k : Nat} {d : Nd} (h : c.N[k]? = some d) : c.nd (k : Nat) = d := by unfold Tr.nd; simp [h]
theorem nd_out {c : Tr} {k : Nat} (h : c.N.length ≤ k) : c.nd (k : Nat) = nd0 := by unfold Tr.nd; simp [List.getElem?_eq_none h]
theorem nd_neg {c : Tr} {i : Int} (h : i < 0) : c.nd i = nd0 := by unfold Tr.nd; rw [if_neg (by omega)]
theorem at_any (H : TreeAt w h S c) (hn : c.N.length ≤ 4096) (i : Int) : Calls Try.prog 98 #[ptr h, .int .i64 i] w fun e w' => e = .returned (c.nd i).val ∧ Chg [] w w' := by
  obtain ⟨A, cN, B, cF, _, _, _, _, hh, hnd, _⟩ := H.head
  obtain ⟨c0, c1, c2, c3, lt, _⟩ := hh w (Chg.refl _ _)
  by_cases h0 : i < 0
  · rw [nd_neg h0]
    have d0 : decide (i < 0) = true := by simpa using h0
    clear hh hnd H
    go_enter Try.func98, Try.ntmps98
    go_wp2
    refine bodyPost_ret (v := nd0.val) ?_ rfl ⟨rfl, by repeat' (first | with_reducible exact Chg.refl _ _ | with_reducible apply Chg.alloc | with_reducible apply Chg.setCell | (with_reducible refine Or.inr ?_; dsimp only; omega))⟩
    simp [results, Try.results98, go_sem, nd0]
  · obtain ⟨k, rfl⟩ := Int.eq_ofNat_of_zero_le (by omega : 0 ≤ i)
    have d0 : decide ((k : Int) < 0) = false := by simp
    by_cases h1 : k < c.N.length
    · obtain ⟨d, hd⟩ : ∃ d, c.N[k]? = some d := ⟨_, List.getElem?_eq_getElem h1⟩
      rw [nd_at hd]
      obtain ⟨g, rfl, hne, hW⟩ := hnd k d hd
      obtain ⟨lg, fz, b0, b1, b2, b3, b4⟩ := hW w (Chg.refl _ _)
      obtain ⟨n, hnn⟩ : ∃ n, n = c.N.length := ⟨_, rfl⟩
      rw [← hnn] at c2 h1 hn
      have d1 : decide ((n : Int) ≤ (k : Int)) = false := by simp; omega
      have i0 : (0 : Int) ≤ (k : Int) := by omega
      have i1 : (k : Int) < (n : Int) := by omega
      clear hh hnd H hW hd hnn
      go_enter Try.func98, Try.ntmps98
      go_wp2
      refine bodyPost_ret (v := d.val) ?_ rfl ⟨rfl, by repeat' (first | with_reducible exact Chg.refl _ _ | with_reducible apply Chg.alloc | with_reducible apply Chg.setCell | (with_reducible refine Or.inr ?_; dsimp only; omega))⟩
      simp [results, Try.results98, go_sem]
    · rw [nd_out (by omega)]
      obtain ⟨n, hnn⟩ : ∃ n, n = c.N.length := ⟨_, rfl⟩
      rw [← hnn] at c2 h1 hn
      have d1 : decide ((n : Int) ≤ (k : Int)) = true := by simp; omega
      clear hh hnd H hnn
      go_enter Try.func98, Try.ntmps98
      go_wp2
      refine bodyPost_ret (v := nd0.val) ?_ rfl ⟨rfl, by repeat' (first | with_reducible exact Chg.refl _ _ | with_reducible apply Chg.alloc | with_reducible apply Chg.setCell | (with_reducible refine Or.inr ?_; dsimp only; omega))⟩
      simp [results, Try.results98, go_sem, nd0]
theorem at_nil (w : World) (i : Int) : Calls Try.prog 98 #[.pointer none, .int .i64 i] w fun e w' => e = .returned nd0.val ∧ Chg [] w w' := by
  go_enter Try.func98, Try.ntmps98
  go_wp2
  refine bodyPost_ret (v := nd0.val) ?_ rfl ⟨rfl, by repeat' (first | with_reducible exact Chg.refl _ _ | with_reducible apply Chg.alloc | with_reducible apply Chg.setCell | (with_reducible refine Or.inr ?_; dsimp only; omega))⟩
  simp [results, Try.results98, go_sem, nd0]
theorem fldT (t : Bool) (p q l r : Int) (W : World) : (Instr.field 124 (.agg #[.bool t, .int .i64 p, .int .i64 q, .int .i64 l, .int .i64 r]) 0).run Try.prog W = .ok (.bool t) W := by kernel_rfl
theorem has_any (H : TreeAt w h S c) (hn : c.N.length ≤ 4096) (i : Int) : Calls Try.prog 99 #[ptr h, .int .i64 i] w fun e w' => e = .returned (.bool (c.nd i).there) ∧ Chg [] w w' := by
  have HA := at_any H hn i
  obtain ⟨d, hd⟩ : ∃ d, d = c.nd i := ⟨_, rfl⟩
  rw [← hd] at HA ⊢
  simp only [Nd.val] at HA
  have hf := fldT d.there d.par d.child d.left d.right
  clear hd H
  go_enter Try.func99, Try.ntmps99
  go_wp2_with (go_at_call 98; refine HA.mono ?_; rintro e w' ⟨rfl, hc⟩; have HC := Lib.hid hc; clear hc)
  go_ret
  exact ⟨rfl, by repeat' (first | with_reducible exact HC.out | with_reducible apply Chg.alloc | with_reducible apply Chg.setCell | (with_reducible refine Or.inr ?_; dsimp only; omega))⟩
theorem has_nil (w : World) (i : Int) : Calls Try.prog 99 #[.pointer none, .int .i64 i] w fun e w' => e = .returned (.bool false) ∧ Chg [] w w' := by
  have HA := at_nil w i
  simp only [Nd.val, nd0] at HA
  have hf := fldT false 0 0 0 0
  go_enter Try.func99, Try.ntmps99
  go_wp2_with (go_at_call 98; refine HA.mono ?_; rintro e w' ⟨rfl, hc⟩; have HC := Lib.hid hc; clear hc)
  go_ret
  exact ⟨rfl, by repeat' (first | with_reducible exact HC.out | with_reducible apply Chg.alloc | with_reducible apply Chg.setCell | (with_reducible refine Or.inr ?_; dsimp only; omega))⟩
theorem parent_any (H : TreeAt w h S c) (hn : c.N.length ≤ 4096) (i : Int) : Calls Try.prog 78 #[ptr h, .int .i64 i] w fun e w' => e = .returned (.tuple #[.int .i64 (if (c.nd i).there = true ∧ (c.nd i).par ≠ -1 then (c.nd i).par else 0), .bool (decide ((c.nd i).there = true ∧ (c.nd i).par ≠ -1))]) ∧ Chg [] w w' := by
  have HA := at_any H hn i
  obtain ⟨d, hd⟩ : ∃ d, d = c.nd i := ⟨_, rfl⟩
  rw [← hd] at HA ⊢
  obtain ⟨t, p, ch, l, r⟩ := d
  simp only [Nd.val] at HA
  clear hd H
  cases t with
  | false =>
    simp only [Bool.false_eq_true, false_and, if_false, decide_false]
    go_enter Try.func78, Try.ntmps78
    go_wp2_with (go_at_call 98; refine HA.mono ?_; rintro e w' ⟨rfl, hc⟩; have HC := Lib.hid hc; clear hc)
    go_ret2
    exact ⟨rfl, by repeat' (first | with_reducible exact HC.out | with_reducible apply Chg.alloc | with_reducible apply Chg.setCell | (with_reducible refine Or.inr ?_; dsimp only; omega))⟩
  | true =>
    by_cases hp : p = -1
    · subst hp
      simp only [ne_eq, not_true, and_false, if_false, decide_false]
      go_enter Try.func78, Try.ntmps78
      go_wp2_with (go_at_call 98; refine HA.mono ?_; rintro e w' ⟨rfl, hc⟩; have HC := Lib.hid hc; clear hc)
      go_ret2
      exact ⟨rfl, by repeat' (first | with_reducible exact HC.out | with_reducible apply Chg.alloc | with_reducible apply Chg.setCell | (with_reducible refine Or.inr ?_; dsimp only; omega))⟩
    · have hb : (p == -1) = false := by simpa using hp
      simp only [ne_eq, hp, not_false_eq_true, and_self, if_true, decide_true]
      go_enter Try.func78, Try.ntmps78
      go_wp2_with (go_at_call 98; refine HA.mono ?_; rintro e w' ⟨rfl, hc⟩; have HC := Lib.hid hc; clear hc)
      go_ret2
      exact ⟨rfl, by repeat' (first | with_reducible exact HC.out | with_reducible apply Chg.alloc | with_reducible apply Chg.setCell | (with_reducible refine Or.inr ?_; dsimp only; omega))⟩
theorem parent_nil (w : World) (i : Int) : Calls Try.prog 78 #[.pointer none, .int .i64 i] w fun e w' => e = .returned (.tuple #[.int .i64 0, .bool false]) ∧ Chg [] w w' := by
  have HA := at_nil w i
  simp only [Nd.val, nd0] at HA
  go_enter Try.func78, Try.ntmps78
  go_wp2_with (go_at_call 98; refine HA.mono ?_; rintro e w' ⟨rfl, hc⟩; have HC := Lib.hid hc; clear hc)
  go_ret2
  exact ⟨rfl, by repeat' (first | with_reducible exact HC.out | with_reducible apply Chg.alloc | with_reducible apply Chg.setCell | (with_reducible refine Or.inr ?_; dsimp only; omega))⟩
/-- The error, if there is no such node. -/
def findE (c : Tr) (i : Int) : Int := if c.size = 0 then 1 else if (c.nd i).there then 0 else 4
theorem find_any (H : TreeAt w h S c) (hn : c.N.length ≤ 4096) (i : Int) : Calls Try.prog 87 #[ptr h, .int .i64 i] w fun e w' => e = .returned (.int .i64 (findE c i)) ∧ Chg [] w w' := by
  have HN := none_any H
  have HH := has_any H hn i
  unfold findE
  obtain ⟨t, ht⟩ : ∃ t, t = (c.nd i).there := ⟨_, rfl⟩
  rw [← ht] at HH ⊢
  clear H ht
  by_cases h0 : c.size = 0
  · rw [if_pos h0]
    have e0 : decide (c.size = 0) = true := by simpa using h0
    rw [e0] at HN
    clear h0 e0
    go_enter Try.func87, Try.ntmps87
    go_wp2_with (go_at_call 83; refine HN.mono ?_; rintro e w' ⟨rfl, rfl⟩)
    go_ret
    exact ⟨rfl, Chg.refl _ _⟩
  · rw [if_neg h0]
    have e0 : decide (c.size = 0) = false := by simpa using h0
    rw [e0] at HN
    clear h0 e0
    cases t with
    | false =>
      go_enter Try.func87, Try.ntmps87
      go_wp2_with (first | (go_at_call 83; refine HN.mono ?_; rintro e w' ⟨rfl, rfl⟩) | (go_at_call 99; refine HH.mono ?_; rintro e w' ⟨rfl, hc⟩; have HC := Lib.hid hc; clear hc))
      go_ret
      exact ⟨rfl, HC.out⟩
    | true =>
      go_enter Try.func87, Try.ntmps87
      go_wp2_with (first | (go_at_call 83; refine HN.mono ?_; rintro e w' ⟨rfl, rfl⟩) | (go_at_call 99; refine HH.mono ?_; rintro e w' ⟨rfl, hc⟩; have HC := Lib.hid hc; clear hc))
      go_ret
      exact ⟨rfl, HC.out⟩
theorem find_nil (w : World) (i : Int) : Calls Try.prog 87 #[.pointer none, .int .i64 i] w fun e w' => e = .returned (.int .i64 1) ∧ w = w' := by
  go_enter Try.func87, Try.ntmps87
  go_wp2_with (go_at_call 83; refine (none_nil w).mono ?_; rintro e w' ⟨rfl, rfl⟩)
  go_ret
  exact ⟨rfl, rfl⟩
/-- Who is the first one of a row. -/
def Tr.hd (c : Tr) (p : Int) : Int := if p = -1 then c.root else (c.nd p).child
/-- Where it is kept who is the first one of a row. -/
theorem head_any (H : TreeAt w h S c) (hn : c.N.length ≤ 4096) (p : Int) (hp : p = -1 ∨ ∃ (k : Nat) (d : Nd), p = (k : Nat) ∧ c.N[k]? = some d) :
    Calls Try.prog 101 #[ptr h, .int .i64 p] w fun e w' => w = w' ∧ ∃ b o, e = .returned (.pointer (some ⟨b, o, none⟩)) ∧ (∀ W, Chg [] w W → b < W.heap.size ∧ W.cell? ⟨b, o, none⟩ = some (.int .i64 (c.hd p)) ∧ W.frozen? ⟨b, o, none⟩ = false) ∧
      ((b = h ∧ o = 1 ∧ p = -1) ∨ ∃ (k : Nat) (d : Nd) (cl : Nat), p = (k : Nat) ∧ c.N[k]? = some d ∧ w.cell? ⟨h, 2, none⟩ = some (.slice (some ⟨b, 0, none⟩) c.N.length cl) ∧ o = k * 5 + 2) := by
  obtain ⟨A, cN, B, cF, _, _, _, _, hh, hnd, _⟩ := H.head
  obtain ⟨c0, c1, c2, c3, lt, _⟩ := hh w (Chg.refl _ _)
  rcases hp with rfl | ⟨k, d, rfl, hd⟩
  · have HQ := Lib.hid (fun W hc => (And.intro (hh W hc).2.2.2.2.1 (And.intro (hh W hc).2.1 ((hh W hc).2.2.2.2.2 1)) : h < W.heap.size ∧ W.cell? ⟨h, 1, none⟩ = some (.int .i64 (c.hd (-1))) ∧ W.frozen? ⟨h, 1, none⟩ = false))
    clear hh hnd H
    go_enter Try.func101, Try.ntmps101
    go_wp2
    go_ret
    exact ⟨rfl, h, 1, rfl, HQ.out, (by first | exact .inl ⟨rfl, rfl, rfl⟩ | exact .inl ⟨rfl, rfl, trivial⟩ | exact .inl ⟨rfl, rfl⟩)⟩
  · obtain ⟨g, rfl, hne, hW⟩ := hnd k d hd
    have hdd : c.hd (k : Nat) = d.child := by unfold Tr.hd; rw [if_neg (by omega), nd_at hd]
    have HQ := Lib.hid (fun W hc => (And.intro (hW W hc).1 (And.intro (hdd ▸ (hW W hc).2.2.2.2.1) ((hW W hc).2.1 _)) : g < W.heap.size ∧ W.cell? ⟨g, k * 5 + 2, none⟩ = some (.int .i64 (c.hd (k : Nat))) ∧ W.frozen? ⟨g, k * 5 + 2, none⟩ = false))
    have hb : ((k : Int) == -1) = false := by simp
    have h1 : k < c.N.length := (List.getElem?_eq_some_iff.1 hd).1
    have i0 : (0 : Int) ≤ (k : Int) := by omega
    have i1 : (k : Int) < (c.N.length : Int) := by omega
    have HD := Lib.hid hd
    have C2 := Lib.hid c2
    clear hh hnd H hW hd hdd h1
    go_enter Try.func101, Try.ntmps101
    go_wp2
    go_ret
    exact ⟨rfl, g, k * 5 + 2, rfl, HQ.out, .inr ⟨k, d, cN, rfl, HD.out, C2.out, rfl⟩⟩
end
end Go.Proofs
end
section
namespace Go.Proofs
open Go.RowKit
set_option linter.unusedVariables false
set_option linter.unusedSimpArgs false

/-! ### Nodes that are changed -/
def Tr.upd (c : Tr) (k : Nat) (f : Nd → Nd) : Tr := match c.N[k]? with | some d => { c with N := c.N.set k (f d) } | none => c
theorem upd_some {c : Tr} {k : Nat} {d : Nd} (h : c.N[k]? = some d) (f : Nd → Nd) : c.upd k f = { c with N := c.N.set k (f d) } := by unfold Tr.upd; rw [h]
theorem upd_len (c : Tr) (k : Nat) (f : Nd → Nd) : (c.upd k f).N.length = c.N.length := by unfold Tr.upd; split <;> simp
theorem upd_F (c : Tr) (k : Nat) (f : Nd → Nd) : (c.upd k f).F = c.F := by unfold Tr.upd; split <;> rfl
theorem upd_size (c : Tr) (k : Nat) (f : Nd → Nd) : (c.upd k f).size = c.size := by unfold Tr.upd; split <;> rfl
theorem upd_root (c : Tr) (k : Nat) (f : Nd → Nd) : (c.upd k f).root = c.root := by unfold Tr.upd; split <;> rfl
theorem upd_get (c : Tr) (k j : Nat) (f : Nd → Nd) : (c.upd k f).N[j]? = if j = k then (c.N[k]?).map f else c.N[j]? := by
  unfold Tr.upd
  cases hd : c.N[k]? with
  | none =>
    by_cases e : j = k
    · subst e; simp [hd]
    · simp [e]
  | some d =>
    have hk := (List.getElem?_eq_some_iff.1 hd).1
    by_cases e : j = k
    · subst e; simp [hk]
    · simp [e, List.getElem?_set_ne (fun h => e h.symm)]
/-- Who is the first one of a row is another one. -/
def Tr.setHd (c : Tr) (p x : Int) : Tr := if p = -1 then { c with root := x } else c.upd p.toNat fun d => { d with child := x }
/-- Two stand side by side. -/
def Tr.join1 (c : Tr) (p l r : Int) : Tr := if l = -1 then c.setHd p r else c.upd l.toNat fun d => { d with right := r }
def Tr.join (c : Tr) (p l r : Int) : Tr := if r = -1 then c.join1 p l r else (c.join1 p l r).upd r.toNat fun d => { d with left := l }
/-- -1, or a node's place. -/
def Ix (c : Tr) (i : Int) : Prop := i = -1 ∨ ∃ (k : Nat) (d : Nd), i = (k : Nat) ∧ c.N[k]? = some d
section
variable {w : World} {h : Nat} {S : List Nat} {c : Tr}
/-- A store into one cell of a node. -/
theorem TreeAt.node (H : TreeAt w h S c) {g cl k j : Nat} {d d' : Nd} {u : Value} (hv : w.cell? ⟨h, 2, none⟩ = some (.slice (some ⟨g, 0, none⟩) c.N.length cl)) (hd : c.N[k]? = some d) (hj : j < 5) (hu : d'.cells = d.cells.set j u) :
    TreeAt (w.setCell ⟨g, k * 5 + j, none⟩ u) h S { c with N := c.N.set k d' } ∧ Chg S w (w.setCell ⟨g, k * 5 + j, none⟩ u) := by
  obtain ⟨VN, VF, hB, hN, hF, rfl⟩ := H
  have e0 : VN = .slice (some ⟨g, 0, none⟩) c.N.length cl := by
    have := hB.cell 2
    simp only [List.getElem?_toArray, List.getElem?_cons_zero, List.getElem?_cons_succ] at this
    rw [this] at hv
    exact Option.some.inj hv
  subst e0
  have hne : h ≠ g := by have := hN.ty hB (by decide); simpa [foot_some] using this
  have hfn : g ∉ foot VF := fun hm => hN.ty2 hF (by decide) g (by simp [foot_some]) hm
  have hk := (List.getElem?_eq_some_iff.1 hd).1
  refine ⟨⟨.slice (some ⟨g, 0, none⟩) c.N.length cl, VF, hB.far hne _, ?_, hF.far hfn _, rfl⟩, (Chg.refl _ _).setCell (.inl (by simp [foot_some])) _⟩
  have hr := hN.set_ (j := k * 5 + j) (by omega) u
  rw [← nd_set hd hu hj] at hr
  simpa using hr
theorem TreeAt.rooted (H : TreeAt w h S c) (x : Int) : TreeAt (w.setCell ⟨h, 1, none⟩ (.int .i64 x)) h S { c with root := x } ∧ Chg S w (w.setCell ⟨h, 1, none⟩ (.int .i64 x)) := by
  obtain ⟨VN, VF, hB, hN, hF, rfl⟩ := H
  exact ⟨⟨VN, VF, hB.set_ 1 _, hN.far (hN.ty hB (by decide)) _, hF.far (hF.ty hB (by decide)) _, rfl⟩, (Chg.refl _ _).setCell (.inl (by simp)) _⟩
/-- Who stands first is set. -/
theorem TreeAt.headed (H : TreeAt w h S c) {p x : Int} {b o : Nat} (hp : (b = h ∧ o = 1 ∧ p = -1) ∨ ∃ (k : Nat) (d : Nd) (cl : Nat), p = (k : Nat) ∧ c.N[k]? = some d ∧ w.cell? ⟨h, 2, none⟩ = some (.slice (some ⟨b, 0, none⟩) c.N.length cl) ∧ o = k * 5 + 2) :
    TreeAt (w.setCell ⟨b, o, none⟩ (.int .i64 x)) h S (c.setHd p x) ∧ Chg S w (w.setCell ⟨b, o, none⟩ (.int .i64 x)) := by
  rcases hp with ⟨rfl, rfl, rfl⟩ | ⟨k, d, cl, rfl, hd, hv, rfl⟩
  · unfold Tr.setHd
    rw [if_pos rfl]
    exact H.rooted x
  · unfold Tr.setHd
    rw [if_neg (by omega), Int.toNat_natCast, upd_some hd]
    exact H.node hv hd (j := 2) (by omega) rfl
theorem Ix.upd {i : Int} (h : Ix c i) (k : Nat) (f : Nd → Nd) : Ix (c.upd k f) i := by
  rcases h with h | ⟨j, d, rfl, hd⟩
  · exact .inl h
  · right
    by_cases e : j = k
    · subst e; exact ⟨j, f d, rfl, by rw [upd_get, if_pos rfl, hd]; rfl⟩
    · exact ⟨j, d, rfl, by rw [upd_get, if_neg e]; exact hd⟩
theorem join1_len (c : Tr) (p l r : Int) : (c.join1 p l r).N.length = c.N.length := by
  unfold Tr.join1 Tr.setHd
  split
  · split
    · rfl
    · exact upd_len ..
  · exact upd_len ..
theorem join_len (c : Tr) (p l r : Int) : (c.join p l r).N.length = c.N.length := by
  unfold Tr.join
  split
  · exact join1_len ..
  · rw [upd_len]; exact join1_len ..
theorem join1_F (c : Tr) (p l r : Int) : (c.join1 p l r).F = c.F := by
  unfold Tr.join1 Tr.setHd
  split
  · split
    · rfl
    · exact upd_F ..
  · exact upd_F ..
theorem join_F (c : Tr) (p l r : Int) : (c.join p l r).F = c.F := by
  unfold Tr.join
  split
  · exact join1_F ..
  · rw [upd_F]; exact join1_F ..
theorem join1_size (c : Tr) (p l r : Int) : (c.join1 p l r).size = c.size := by
  unfold Tr.join1 Tr.setHd
  split
  · split
    · rfl
    · exact upd_size ..
  · exact upd_size ..
theorem join_size (c : Tr) (p l r : Int) : (c.join p l r).size = c.size := by
  unfold Tr.join
  split
  · exact join1_size ..
  · rw [upd_size]; exact join1_size ..
theorem Ix.join1 {i : Int} (h : Ix c i) (p l r : Int) : Ix (c.join1 p l r) i := by
  unfold Tr.join1 Tr.setHd
  split
  · split
    · exact h
    · exact h.upd _ _
  · exact h.upd _ _
theorem Ix.join {i : Int} (h : Ix c i) (p l r : Int) : Ix (c.join p l r) i := by
  unfold Tr.join
  split
  · exact h.join1 _ _ _
  · exact (h.join1 _ _ _).upd _ _
set_option maxHeartbeats 1600000 in
set_option maxRecDepth 100000 in
theorem join_any (H : TreeAt w h S c) (hn : c.N.length ≤ 4096) {p l r : Int} (hp : Ix c p) (hl : Ix c l) (hr : Ix c r) :
    Calls Try.prog 97 #[ptr h, .int .i64 p, .int .i64 l, .int .i64 r] w fun e w' => e = .returned (.tuple #[]) ∧ TreeAt w' h S (c.join p l r) ∧ Chg S w w' := by
  -- behind the first half
  have second : ∀ (W : World), TreeAt W h S (c.join1 p l r) → Chg S w W → ∀ (k : Nat), r = (k : Nat) → ∃ g cl, W.cell? ⟨h, 2, none⟩ = some (.slice (some ⟨g, 0, none⟩) c.N.length cl) ∧ h < W.heap.size ∧ g < W.heap.size ∧ (∀ j, W.frozen? ⟨g, j, none⟩ = false) ∧ (∃ u, W.cell? ⟨g, k * 5 + 3, none⟩ = some u) ∧ (0 : Int) ≤ (k : Int) ∧ (k : Int) < (c.N.length : Int) ∧
      TreeAt (W.setCell ⟨g, k * 5 + 3, none⟩ (.int .i64 l)) h S (c.join p l r) ∧ Chg S w (W.setCell ⟨g, k * 5 + 3, none⟩ (.int .i64 l)) := by
    intro W H1 hc1 k hk
    subst hk
    obtain ⟨d, hd⟩ : ∃ d, (c.join1 p l (k : Nat)).N[k]? = some d := by
      rcases hr.join1 p l (k : Nat) with h | ⟨j, d, h, hd⟩
      · omega
      · have : k = j := by omega
        subst this
        exact ⟨d, hd⟩
    obtain ⟨A, cN, B, cF, _, _, _, _, hh, hnd, _⟩ := H1.head
    obtain ⟨g, rfl, hne, hW⟩ := hnd k d hd
    obtain ⟨_, _, c2, _, lt, _⟩ := hh W (Chg.refl _ _)
    obtain ⟨lg, fz, b0, b1, b2, b3, b4⟩ := hW W (Chg.refl _ _)
    obtain ⟨t1, t2⟩ := H1.node c2 hd (j := 3) (d' := { d with left := l }) (u := .int .i64 l) (by omega) rfl
    have hk := (List.getElem?_eq_some_iff.1 hd).1
    rw [join1_len] at hk c2
    refine ⟨g, cN, c2, lt, lg, fz, ⟨_, b3⟩, by omega, by omega, ?_, hc1.trans t2 (fun k hk => .inl hk)⟩
    unfold Tr.join
    rw [if_neg (by omega), Int.toNat_natCast, upd_some hd]
    exact t1
  by_cases hl1 : l = -1
  · have hj1 : c.join1 p l r = c.setHd p r := by unfold Tr.join1; rw [if_pos hl1]
    have HA := Lib.hid (head_any H hn p hp)
    have HS := Lib.hid second
    have HX := Lib.hid (fun b o hp => H.headed (p := p) (x := r) (b := b) (o := o) hp)
    rw [← hj1] at HX
    have hb : (l == -1) = true := by simpa using hl1
    by_cases hr1 : r = -1
    · have hb2 : (r != -1) = false := by simpa using hr1
      have HJ := Lib.hid (show c.join p l r = c.join1 p l r by unfold Tr.join; rw [if_pos hr1])
      clear second hl1 hr1 hj1 hp hl hr H
      go_enter Try.func97, Try.ntmps97
      go_wp2_with (go_at_call 101; refine HA.out.mono ?_; rintro e w' ⟨rfl, b, o, rfl, hf, hp⟩; obtain ⟨lb, cb, fb⟩ := hf w (Chg.refl _ _); obtain ⟨t1, t2⟩ := HX.out b o hp; have HT1 := Lib.hid t1; have HT2 := Lib.hid t2; clear t1 t2 hf hp)
      go_end0
      exact ⟨rfl, HJ.out ▸ HT1.out, HT2.out⟩
    · have hb2 : (r != -1) = true := by simpa using hr1
      obtain ⟨k, rfl⟩ : ∃ k : Nat, r = (k : Nat) := by rcases hr with h | ⟨k, d, h, _⟩; exact absurd h hr1; exact ⟨k, h⟩
      clear second hl1 hr1 hj1 hp hl hr H
      go_enter Try.func97, Try.ntmps97
      go_wp2_with (go_at_call 101; refine HA.out.mono ?_; rintro e w' ⟨rfl, b, o, rfl, hf, hp⟩; obtain ⟨lb, cb, fb⟩ := hf w (Chg.refl _ _); obtain ⟨t1, t2⟩ := HX.out b o hp; obtain ⟨g, cl, q1, q2, q3, q4, ⟨u, q5⟩, q6, q7, q8, q9⟩ := HS.out _ t1 t2 k rfl; have HT1 := Lib.hid q8; have HT2 := Lib.hid q9; clear t1 t2 hf hp q8 q9)
      go_end0
      exact ⟨rfl, HT1.out, HT2.out⟩
  · obtain ⟨m, d, rfl, hd⟩ : ∃ (m : Nat) (d : Nd), l = (m : Nat) ∧ c.N[m]? = some d := by rcases hl with h | h; exact absurd h hl1; exact h
    have hj1 : c.join1 p (m : Nat) r = c.upd m fun d => { d with right := r } := by unfold Tr.join1; rw [if_neg hl1, Int.toNat_natCast]
    obtain ⟨A, cN, B, cF, _, _, _, _, hh, hnd, _⟩ := H.head
    obtain ⟨g0, rfl, hne, hW⟩ := hnd m d hd
    obtain ⟨_, _, c2, _, lt, _⟩ := hh w (Chg.refl _ _)
    obtain ⟨lg, fz, b0, b1, b2, b3, b4⟩ := hW w (Chg.refl _ _)
    obtain ⟨t1, t2⟩ := H.node c2 hd (j := 4) (d' := { d with right := r }) (u := .int .i64 r) (by omega) rfl
    have e1 := upd_some hd (fun d => { d with right := r })
    rw [← e1, ← hj1] at t1
    have hm := (List.getElem?_eq_some_iff.1 hd).1
    have i0 : (0 : Int) ≤ (m : Int) := by omega
    have i1 : (m : Int) < (c.N.length : Int) := by omega
    have hb : ((m : Int) == -1) = false := by simp
    by_cases hr1 : r = -1
    · have hb2 : (r != -1) = false := by simpa using hr1
      have HJ := Lib.hid (show c.join p (m : Nat) r = c.join1 p (m : Nat) r by unfold Tr.join; rw [if_pos hr1])
      have HT1 := Lib.hid t1
      have HT2 := Lib.hid t2
      clear second hl1 hr1 hj1 hp hl hr H e1 hm t1 t2 hh hnd hW hd
      go_enter Try.func97, Try.ntmps97
      go_wp2
      go_end0
      exact ⟨rfl, HJ.out ▸ HT1.out, HT2.out⟩
    · have hb2 : (r != -1) = true := by simpa using hr1
      obtain ⟨k, rfl⟩ : ∃ k : Nat, r = (k : Nat) := by rcases hr with h | ⟨k, d, h, _⟩; exact absurd h hr1; exact ⟨k, h⟩
      obtain ⟨g, cl, q1, q2, q3, q4, ⟨u, q5⟩, q6, q7, q8, q9⟩ := second _ t1 t2 k rfl
      have HT1 := Lib.hid q8
      have HT2 := Lib.hid q9
      clear second hl1 hr1 hj1 hp hl hr H e1 hm t1 t2 hh hnd hW hd q8 q9
      go_enter Try.func97, Try.ntmps97
      go_wp2
      go_end0
      exact ⟨rfl, HT1.out, HT2.out⟩
end
end Go.Proofs
end
section
namespace Go.Proofs
open Go.RowKit
set_option linter.unusedVariables false
set_option linter.unusedSimpArgs false

theorem Try.nd_info : (Try.prog.info? 124).map (fun i => (i.zero, i.size, i.bytes)) = some (some (.agg #[.bool false, .int .i64 0, .int .i64 0, .int .i64 0, .int .i64 0]), 5, 40) := by kernel_rfl
section
variable {w : World} {h : Nat} {S : List Nat} {c : Tr}
set_option maxHeartbeats 800000 in
/-- The last one of those that are free is taken. -/
theorem take_some (H : TreeAt w h S c) {F' : List Nat} {n : Nat} (hF : c.F = F' ++ [n]) (hn : c.F.length ≤ 4096) :
    Calls Try.prog 100 #[ptr h] w fun e w' => e = .returned (.int .i64 (n : Nat)) ∧ Turns h S { c with F := F' } w w' := by
  obtain ⟨VN, VF, hB, hN, hFr, rfl⟩ := H
  obtain ⟨gf, cf, rfl, hff, hcf, hcell, hfz, hlt⟩ := hFr.form (by rw [hF]; simp)
  obtain ⟨m, hm⟩ : ∃ m, m = F'.length := ⟨_, rfl⟩
  have hlen : c.F.length = m + 1 := by rw [hF, hm]; simp
  rw [hlen] at hB hFr hcf hn
  have c3 := hB.cell 3
  have cn := hcell m (.int .i64 (n : Nat)) (ints_at (iN_at (by rw [hF, hm]; simp)))
  have hne : h ≠ gf := by have := hFr.ty hB (by decide); simpa [foot_some] using this
  have e1 : IntKind.i64.wrap (((m + 1 : Nat) : Int) - 1) = (m : Int) := by rw [show ((m + 1 : Nat) : Int) - 1 = (m : Int) by omega]; exact IntWalk.i64_in _ (by omega)
  have d0 : decide ((m : Int) < 0) = false := by simp
  have i0 : (0 : Int) ≤ (m : Int) := by omega
  have i1 : (m : Int) < ((m + 1 : Nat) : Int) := by omega
  have i2 : (m : Int) ≤ (cf : Int) := by omega
  have fh := hB.frozen 3
  have lh := hB.lt
  have HT := Lib.hid (show Turns h (h :: (foot VN ++ foot (.slice (some ⟨gf, 0, none⟩) (m + 1) cf))) { c with F := F' } w (w.setCell ⟨h, 3, none⟩ (.slice (some ⟨gf, 0, none⟩) m m)) by
    have hr := hFr.cut (k := m) (by omega)
    have e : (ints (iN c.F)).take (m * 1) = ints (iN F') := by
      rw [hF, iN_append, ints_append, Nat.mul_one, List.take_append_of_le_length (by rw [ints_len, iN_len]; omega), List.take_of_length_le (by rw [ints_len, iN_len]; omega)]
    rw [e] at hr
    refine ⟨_, ⟨VN, .slice (some ⟨gf, 0, none⟩) m m, hB.set_ 3 _, hN.far (hN.ty hB (by decide)) _, ?_, rfl⟩, fun k hk => .inl (by simpa [foot_some] using hk), (Chg.refl _ _).setCell (.inl (by simp)) _⟩
    rw [hm] at hr ⊢
    exact hr.far (by simpa [foot_some] using hne) _)
  simp only [hlen] at *
  clear hB hN hFr hff hcell hfz hF hm
  go_enter Try.func100, Try.ntmps100
  go_wp2
  go_ret
  exact ⟨rfl, HT.out⟩
end
end Go.Proofs
end
section
namespace Go.Proofs
open Go.RowKit
set_option linter.unusedVariables false
set_option linter.unusedSimpArgs false

section
variable {w : World} {h : Nat} {S : List Nat} {c : Tr}
theorem TreeAt.nodes (H : TreeAt w h S c) {w1 : World} {gg cap : Nat} {N' : List Nd} (VN : Value) (hv : w.cell? ⟨h, 2, none⟩ = some VN) (hc : Chg (foot VN) w w1)
    (hown : Row w1 124 5 (.slice (some ⟨gg, 0, none⟩) N'.length cap) N'.length (ndCells N')) (hgg : gg ∈ foot VN ∨ w.heap.size ≤ gg) :
    Turns h S { c with N := N' } w (w1.setCell ⟨h, 2, none⟩ (.slice (some ⟨gg, 0, none⟩) N'.length cap)) := by
  obtain ⟨VN', VF, hB, hN, hF, rfl⟩ := H
  have e0 : VN' = VN := by
    have := hB.cell 2
    simp only [List.getElem?_toArray, List.getElem?_cons_zero, List.getElem?_cons_succ] at this
    rw [this] at hv
    exact Option.some.inj hv
  subst e0
  have hg1 : h ∉ foot VN' := hN.ty hB (by decide)
  have hg2 : h ∉ foot VF := hF.ty hB (by decide)
  have hne : h ≠ gg := by
    rcases hgg with h1 | h1
    · intro e; exact hg1 (e ▸ h1)
    · have := hB.lt; omega
  refine ⟨_, ⟨.slice (some ⟨gg, 0, none⟩) N'.length cap, VF, (hB.chg hc hg1).set_ 2 _, hown.far (by simpa [foot_some] using hne) _, (hF.chg hc (fun k hk hk' => hN.ty2 hF (by decide) k hk' hk)).far hg2 _, rfl⟩, ?_, ?_⟩
  · intro k hk
    simp only [List.mem_cons, List.mem_append, foot_some, List.mem_singleton, List.not_mem_nil, or_false] at hk
    rcases hk with rfl | rfl | hk
    · exact .inl (by simp)
    · exact hgg.imp (fun h => by simp [h]) id
    · exact .inl (by simp [hk])
  · exact (hc.mono (fun k hk => .inl (by simp [hk]))).setCell (.inl (by simp)) _
theorem TreeAt.freed (H : TreeAt w h S c) {w1 : World} {V' : Value} {F' : List Nat} (VF : Value) (hv : w.cell? ⟨h, 3, none⟩ = some VF) (hc : Chg (foot VF) w w1)
    (hown : Row w1 3 1 V' F'.length (ints (iN F'))) (hgg : ∀ k ∈ foot V', k ∈ foot VF ∨ w.heap.size ≤ k) :
    Turns h S { c with F := F' } w (w1.setCell ⟨h, 3, none⟩ V') := by
  obtain ⟨VN, VF', hB, hN, hF, rfl⟩ := H
  have e0 : VF' = VF := by
    have := hB.cell 3
    simp only [List.getElem?_toArray, List.getElem?_cons_zero, List.getElem?_cons_succ] at this
    rw [this] at hv
    exact Option.some.inj hv
  subst e0
  have hg1 : h ∉ foot VN := hN.ty hB (by decide)
  have hg2 : h ∉ foot VF' := hF.ty hB (by decide)
  have hb1 := hB.chg hc hg2
  refine ⟨_, ⟨VN, V', hb1.set_ 3 _, (hN.chg hc (fun k hk hk' => hN.ty2 hF (by decide) k hk hk')).far hg1 _, hown.far (hown.ty hb1 (by decide)) _, rfl⟩, ?_, ?_⟩
  · intro k hk
    simp only [List.mem_cons, List.mem_append] at hk
    rcases hk with rfl | hk | hk
    · exact .inl (by simp)
    · exact .inl (by simp [hk])
    · exact (hgg k hk).imp (fun h => by simp [h]) id
  · exact (hc.mono (fun k hk => .inl (by simp [hk]))).setCell (.inl (by simp)) _
set_option maxHeartbeats 1600000 in
/-- None is free: a place is taken for the first time. -/
theorem take_new (H : TreeAt w h S c) (hF : c.F = []) (hn : c.N.length < 4096) :
    Calls Try.prog 100 #[ptr h] w fun e w' => e = .returned (.int .i64 (c.N.length : Nat)) ∧ Turns h S { c with N := c.N ++ [nd0] } w w' := by
  obtain ⟨i0, hi0, hz0, hz1, hz2⟩ := info_parts Try.nd_info
  have HH := Lib.hid H
  obtain ⟨VN, VF, hB, hN, hFr, rfl⟩ := H
  obtain ⟨A, cN, rfl, _⟩ := hN.val
  obtain ⟨B, cF, rfl, _⟩ := hFr.val
  have c3 := hB.cell 3
  have c2 := hB.cell 2
  have fh := hB.frozen 2
  have lh := hB.lt
  have hg1 : h ∉ foot (.slice A c.N.length cN) := hN.ty hB (by decide)
  have hg3 : (Value.slice A c.N.length cN).ownBlock ≠ some h := fun e => hg1 (row_mem e)
  obtain ⟨n, hnn⟩ : ∃ n, n = c.N.length := ⟨_, rfl⟩
  have HN := Lib.hid hnn
  rw [hF] at c3
  simp only [List.length_nil, List.getElem?_toArray, List.getElem?_cons_zero, List.getElem?_cons_succ] at c3
  rw [← hnn] at hN hB c2 hn hg1 hg3 ⊢
  simp only [List.getElem?_toArray, List.getElem?_cons_zero, List.getElem?_cons_succ] at c2
  have HB := Lib.hid hB
  have e1 : IntKind.i64.wrap ((n : Int) + 1 - 1) = (n : Int) := by rw [show (n : Int) + 1 - 1 = (n : Int) by omega]; exact IntWalk.i64_in _ (by omega)
  have HR := Lib.hid hN
  clear hB hN hFr hF hnn
  go_enter Try.func100, Try.ntmps100
  go_wp2_with (at_builtin; (refine wpList_append_row _ (by rfl) _ _ 117 (by rfl) 124 i0 _ 5 40 Try.underlying117 hi0 hz0 hz1 hz2 rfl (.slice A n cN) n (ndCells c.N) (by rfl) (HR.out.alloc _) ⟨w.heap.size, 0, none⟩ 1 1 [.bool false, .int .i64 0, .int .i64 0, .int .i64 0, .int .i64 0] (by rfl) (by rfl) (World.news_of_block (cs := #[.bool false, .int .i64 0, .int .i64 0, .int .i64 0, .int .i64 0]) (t := 124) (fr := (0, 0)) (heap_alloc_new w _)) (by simp [Value.oneCell']) (by omega) (by unfold maxLen; omega) (by omega) (w.heap.size + 1) (by simp) ?_; intro gg cap w1 hown hgrow hat hlt1; have d2 := (hgrow.cell_far ⟨h, 2, none⟩ (by simp; omega) (Ne.symm hg3)).trans ((HB.out.alloc _).cell 2); have df := (hgrow.frozen_far ⟨h, 2, none⟩ (by simp; omega) (Ne.symm hg3)).trans ((HB.out.alloc _).frozen 2); simp only [List.getElem?_toArray, List.getElem?_cons_zero, List.getElem?_cons_succ] at d2; have lw : h < w1.heap.size := (by have := hgrow.size; simp at this; omega); have HOWN := Lib.hid hown; have HG := Lib.hid hgrow; have HAT := Lib.hid hat; clear hown hgrow hat))
  go_ret
  refine ⟨rfl, ?_⟩
  have hHN := HN.out
  have hc : Chg (foot (.slice A n cN)) w w1 := ((Chg.refl _ w).alloc _).grown HG.out (fun k hk => .inl (row_mem hk))
  have hown : Row w1 124 5 (.slice (some ⟨gg, 0, none⟩) (c.N ++ [nd0]).length cap) (c.N ++ [nd0]).length (ndCells (c.N ++ [nd0])) := by
    rw [ndCells_append, List.length_append, ← hHN]
    exact HOWN.out
  have := HH.out.nodes (N' := c.N ++ [nd0]) (.slice A n cN) (HB.out.cell 2) hc hown (HAT.out.imp (fun h => row_mem h) (fun h => by omega))
  rw [List.length_append, ← hHN] at this
  exact this
/-- Places at which nobody is any more. -/
def clr (N : List Nd) (l : List Nat) : List Nd := l.foldl (fun N n => N.set n nd0) N
theorem clr_len (N : List Nd) (l : List Nat) : (clr N l).length = N.length := by
  unfold clr
  induction l generalizing N with
  | nil => rfl
  | cons a l ih => simp only [List.foldl_cons]; rw [ih]; simp
theorem clr_snoc (N : List Nd) (l : List Nat) (n : Nat) : clr N (l ++ [n]) = (clr N l).set n nd0 := by unfold clr; simp
theorem clr_get {l : List Nat} : ∀ {N : List Nd} {j : Nat}, (clr N l)[j]? = if j ∈ l ∧ j < N.length then some nd0 else N[j]? := by
  induction l with
  | nil => intro N j; simp [clr]
  | cons a l ih =>
    intro N j
    have : clr N (a :: l) = clr (N.set a nd0) l := rfl
    rw [this, ih, List.length_set]
    by_cases h1 : j ∈ l ∧ j < N.length
    · rw [if_pos h1, if_pos ⟨by simp [h1.1], h1.2⟩]
    · rw [if_neg h1]
      by_cases h2 : j = a
      · subst h2
        by_cases h3 : j < N.length
        · rw [List.getElem?_set_self h3, if_pos ⟨by simp, h3⟩]
        · rw [if_neg (fun h => h3 h.2), List.getElem?_eq_none (by simp; omega), List.getElem?_eq_none (by omega)]
      · rw [List.getElem?_set_ne (fun h => h2 h.symm), if_neg]
        rintro ⟨h3, h4⟩
        rcases List.mem_cons.1 h3 with h5 | h5
        · exact h2 h5
        · exact h1 ⟨h5, h4⟩
/-- A node is written whole. -/
theorem TreeAt.node5 (H : TreeAt w h S c) {g cl k : Nat} (d' : Nd) (hv : w.cell? ⟨h, 2, none⟩ = some (.slice (some ⟨g, 0, none⟩) c.N.length cl)) (hk : k < c.N.length) :
    TreeAt (put5 w g (k * 5) d') h S { c with N := c.N.set k d' } ∧ Chg S w (put5 w g (k * 5) d') := by
  obtain ⟨VN, VF, hB, hN, hF, rfl⟩ := H
  have e0 : VN = .slice (some ⟨g, 0, none⟩) c.N.length cl := by
    have := hB.cell 2
    simp only [List.getElem?_toArray, List.getElem?_cons_zero, List.getElem?_cons_succ] at this
    rw [this] at hv
    exact Option.some.inj hv
  subst e0
  have hne : h ≠ g := by have := hN.ty hB (by decide); simpa [foot_some] using this
  have hfn : g ∉ foot VF := fun hm => hN.ty2 hF (by decide) g (by simp [foot_some]) hm
  have hc : Chg [g] w (put5 w g (k * 5) d') := chg_put5 (Chg.refl _ _) (.inl (by simp)) _ _
  refine ⟨⟨.slice (some ⟨g, 0, none⟩) c.N.length cl, VF, hB.chg hc (by simpa using hne), ?_, hF.chg hc (fun k hk e => hfn (by simp at e; exact e ▸ hk)), rfl⟩, chg_put5 (Chg.refl _ _) (.inl (by simp [foot_some])) _ _⟩
  have hr := hN.put5_ hk rfl d'
  simpa using hr
set_option maxHeartbeats 1600000 in
set_option maxRecDepth 100000 in
theorem free_any (H : TreeAt w h S c) {v : Value} {l : List Nat} (hR : Rd w v (iN l)) (hv : ∀ k ∈ foot v, k ∉ S) (hl : ∀ n ∈ l, n < c.N.length) (hn : c.N.length ≤ 4096) (hll : l.length ≤ 4096) (hF : c.F.length ≤ 4096) :
    Calls Try.prog 89 #[ptr h, v] w fun e w' => e = .returned (.tuple #[]) ∧ Turns h S { c with N := clr c.N l, F := c.F ++ l } w w' := by
  obtain ⟨A, cc, rfl, hlc, hcm, hA, hcell⟩ := hR.open_
  obtain ⟨m, hm⟩ : ∃ m, m = l.length := ⟨_, rfl⟩
  simp only [iN_len] at hR hv hcell ⊢
  rw [← hm] at hR hv hll ⊢
  have HH := Lib.hid H
  have HR := Lib.hid hR
  have HV := Lib.hid hv
  have HL := Lib.hid hl
  have HM := Lib.hid hm
  have HCELL := Lib.hid (fun k x hk => hcell k x hk)
  clear hR hv hl hcell hlc H hm
  go_enter Try.func89, Try.ntmps89
  go_wp2
  go_loopg [8] m (fun gh iv wr => ∃ k : Nat, k + gh = m ∧ iv = .int .i64 k ∧ Hid (TreeAt wr h S { c with N := clr c.N (l.take k) } ∧ Chg S w wr))
  case atStart => exact ⟨0, by omega, rfl, Lib.hid ⟨by simpa [clr] using HH.out, Chg.refl _ _⟩⟩
  case round =>
    obtain ⟨k, hk, rfl, HI⟩ := hrel
    obtain ⟨H1, hc1⟩ := HI.out
    have hSlt := HH.out.lt
    by_cases hlt : k < m
    · obtain ⟨n, hnk⟩ : ∃ n, l[k]? = some n := ⟨_, List.getElem?_eq_getElem (by rw [← HM.out]; exact hlt)⟩
      have hnl := HL.out n (List.mem_of_getElem? hnk)
      obtain ⟨b, o, rfl, hb, hcb⟩ := HCELL.out k _ (iN_at hnk)
      have hbS : b ∉ S := HV.out b (by simp [foot_some])
      have cb := (hc1.cell (p := ⟨b, o + k, none⟩) hb hbS).trans hcb
      obtain ⟨d, hd⟩ : ∃ d, (clr c.N (l.take k))[n]? = some d := ⟨_, List.getElem?_eq_getElem (by rw [clr_len]; exact hnl)⟩
      obtain ⟨A1, cN, B1, cF, _, _, _, _, hh, hnd, _⟩ := H1.head
      obtain ⟨g, rfl, hne, hW⟩ := hnd n d hd
      obtain ⟨_, _, c2, _, lt, _⟩ := hh wr (Chg.refl _ _)
      obtain ⟨lg, fz, b0, b1, b2, b3, b4⟩ := hW wr (Chg.refl _ _)
      obtain ⟨t1, t2⟩ := H1.node5 nd0 c2 (k := n) (by show n < (clr c.N (l.take k)).length; rw [clr_len]; exact hnl)
      have e1 : (clr c.N (l.take k)).set n nd0 = clr c.N (l.take (k + 1)) := by
        rw [List.take_add_one, hnk, ← clr_snoc]; rfl
      simp only [e1] at t1
      have HT1 := Lib.hid t1
      have HT2 := Lib.hid (hc1.trans t2 (fun k hk => .inl hk))
      have i0 : (0 : Int) ≤ (k : Int) := by omega
      have i1 : (k : Int) < (m : Int) := by omega
      have j0 : (0 : Int) ≤ (n : Int) := by omega
      have j1 : (n : Int) < (((clr c.N (l.take k)).length : Nat) : Int) := by rw [clr_len]; omega
      simp only at c2
      rw [clr_len] at c2 j1
      clear H1 hc1 HI hSlt t1 t2 e1 hh hnd hW hd hnk hb hbS hcb
      go_wp2
      go_roundg (m - k - 1)
      case measure => omega
      case rel => exact ⟨k + 1, by omega, by go_num, Lib.hid ⟨HT1.out, HT2.out⟩⟩
    · obtain rfl : k = m := by omega
      have e0 : l.take k = l := by rw [HM.out]; exact List.take_length
      rw [e0] at H1
      obtain ⟨A1, cN, B1, cF, _, _, _, _, hh, hnd, _⟩ := H1.head
      obtain ⟨_, _, _, c3, lt, fh⟩ := hh wr (Chg.refl _ _)
      obtain ⟨VN, VF, hB, hN, hFr, hSS⟩ := id H1
      have e3 := hB.cell 3
      simp only [List.getElem?_toArray, List.getElem?_cons_zero, List.getElem?_cons_succ] at e3
      obtain ⟨B2, cF2, hB2, _⟩ := hFr.val
      subst hB2
      simp only at e3 hFr
      rw [e3] at c3
      simp only [Option.some.injEq, Value.slice.injEq, true_and] at c3
      obtain ⟨rfl, rfl⟩ := c3
      have HRD := Lib.hid (HR.out.chg hc1 HV.out)
      have HFR := Lib.hid hFr
      have fh3 := fh 3
      have hgF : h ∉ foot (.slice B2 c.F.length cF2) := hFr.ty hB (by decide)
      have hgF2 : (Value.slice B2 c.F.length cF2).ownBlock ≠ some h := fun e => hgF (row_mem e)
      have HC1 := Lib.hid hc1
      have HH1 := Lib.hid H1
      have E3 := Lib.hid e3
      have hSF : ∀ j ∈ foot (.slice B2 c.F.length cF2), j ∈ S := fun j hj => by rw [hSS]; simp [hj]
      have HSF := Lib.hid hSF
      clear hh hnd hB hN hFr hSS hc1 H1 HI hSlt e0 fh hSF hgF
      go_wp2_with (at_builtin; (refine wpList_append_rs (n := c.F.length + k) _ (by rfl) _ _ (by rfl) (v := .slice B2 c.F.length cF2) (x := .slice A k cc) (xs := iN c.F) (l := iN l) (by rfl) (by rfl) (by rw [iN_len]; exact HFR.out) HRD.out (by rw [iN_len, iN_len, ← HM.out]; omega) (by rw [iN_len, iN_len, ← HM.out]) ?_; intro A' c' w1 hown hgrow hat; have lw : h < w1.heap.size := (by have := hgrow.size; omega); have d2 := (hgrow.cell_far ⟨h, 3, none⟩ lt (Ne.symm hgF2)).trans E3.out; have df := (hgrow.frozen_far ⟨h, 3, none⟩ lt (Ne.symm hgF2)).trans fh3; have HOWN := Lib.hid hown; have HG := Lib.hid hgrow; have HAT := Lib.hid hat; clear hown hgrow hat))
      go_end0
      refine ⟨rfl, ?_⟩
      have hc : Chg (foot (.slice B2 c.F.length cF2)) wr w1 := (Chg.refl _ wr).grown HG.out (fun k hk => .inl (row_mem hk))
      have ho := HOWN.out
      rw [← iN_append, iN_len] at ho
      exact Turns.trans (fun j hj => .inl hj) HC1.out (HH1.out.freed (.slice B2 c.F.length cF2) E3.out hc ho HAT.out)
end
end Go.Proofs
end
section
namespace Go.Proofs
open Go.RowKit
set_option linter.unusedVariables false
set_option linter.unusedSimpArgs false

/-- Who stands side by side, from a place on. -/
inductive Seq (c : Tr) : Int → List Nat → Prop where
  | nil : Seq c (-1) []
  | cons {k : Nat} {d : Nd} {l : List Nat} : c.N[k]? = some d → Seq c d.right l → Seq c (k : Nat) (k :: l)
section
variable {w : World} {h : Nat} {S : List Nat} {c : Tr}
/-- What there is of a node, for the walk. -/
theorem TreeAt.open_ (H : TreeAt w h S c) {k : Nat} {d : Nd} (hd : c.N[k]? = some d) {W : World} (hc : Chg [] w W) :
    ∃ g cN, W.cell? ⟨h, 2, none⟩ = some (.slice (some ⟨g, 0, none⟩) c.N.length cN) ∧ h < W.heap.size ∧ g < W.heap.size ∧ (0 : Int) ≤ (k : Int) ∧ (k : Int) < (c.N.length : Int) ∧
      W.cell? ⟨g, k * 5, none⟩ = some (.bool d.there) ∧ W.cell? ⟨g, k * 5 + 1, none⟩ = some (.int .i64 d.par) ∧ W.cell? ⟨g, k * 5 + 2, none⟩ = some (.int .i64 d.child) ∧ W.cell? ⟨g, k * 5 + 3, none⟩ = some (.int .i64 d.left) ∧ W.cell? ⟨g, k * 5 + 4, none⟩ = some (.int .i64 d.right) := by
  obtain ⟨A, cN, B, cF, _, _, _, _, hh, hnd, _⟩ := H.head
  obtain ⟨g, rfl, hne, hW⟩ := hnd k d hd
  obtain ⟨_, _, c2, _, lt, _⟩ := hh W hc
  obtain ⟨lg, fz, b0, b1, b2, b3, b4⟩ := hW W hc
  have hk := (List.getElem?_eq_some_iff.1 hd).1
  exact ⟨g, cN, c2, lt, lg, by omega, by omega, b0, b1, b2, b3, b4⟩
set_option maxHeartbeats 3200000 in
set_option maxRecDepth 100000 in
theorem row_any (H : TreeAt w h S c) (hn : c.N.length ≤ 4096) {p : Int} (hp : Ix c p) {l : List Nat} (hs : Seq c (c.hd p) l) (hl : l.length ≤ 4096) :
    Calls Try.prog 96 #[ptr h, .int .i64 p] w fun e w' => ∃ A cc, e = .returned (.slice A l.length cc) ∧ Fresh w w' (.slice A l.length cc) (iN l) := by
  have HA := Lib.hid (head_any H hn p hp)
  have HO := Lib.hid (fun k d (hd : c.N[k]? = some d) W (hc : Chg [] w W) => H.open_ hd hc)
  obtain ⟨in0, hi0, hq0, hq1, hq2⟩ := info_parts Try.num_info
  obtain ⟨f0, hf0⟩ : ∃ f0, f0 = c.hd p := ⟨_, rfl⟩
  rw [← hf0] at hs HA
  have HS := Lib.hid hs
  clear hs hp H hf0
  go_enter Try.func96, Try.ntmps96
  go_wp2_with (go_at_call 101; refine HA.out.mono ?_; rintro e w' ⟨rfl, b, o, rfl, hf, hp⟩; obtain ⟨lb, cb, fb⟩ := hf w (Chg.refl _ _); clear hf hp)
  go_loopg [5, 6] l.length (fun gh v xv wr => ∃ (pre rest : List Nat) (x : Int) (A : Option Addr) (cc : Nat), gh = rest.length ∧ v = .slice A pre.length cc ∧ xv = .int .i64 x ∧ Hid (l = pre ++ rest ∧ Seq c x rest ∧ Chg [] w wr ∧ Row wr 3 1 (.slice A pre.length cc) pre.length (ints (iN pre)) ∧ (∀ k ∈ foot (.slice A pre.length cc), w.heap.size ≤ k)))
  case atStart => exact ⟨[], l, f0, none, 0, rfl, rfl, rfl, Lib.hid ⟨rfl, HS.out, Chg.refl _ _, Row.nil _ _ _, fun k hk => (by cases hk)⟩⟩
  case round =>
    obtain ⟨pre, rest, x, A, cc, rfl, rfl, rfl, HH⟩ := hrel
    obtain ⟨hLL, hsq, hc, hrow, hft⟩ := HH.out
    cases hsq with
    | nil =>
      have hpl : l = pre := by rw [hLL]; simp
      have HC := Lib.hid hc
      have HR := Lib.hid hrow
      have HF := Lib.hid hft
      have HP := Lib.hid hpl
      clear hLL hc hrow hft HH hpl
      go_wp2
      go_ret
      have hp := HP.out
      subst hp
      refine ⟨A, cc, rfl, by have := HR.out; rw [iN_len]; exact this, HF.out, HC.out⟩
    | @cons k d rest hd hsq =>
      obtain ⟨g, cN, c2, lt, lg, i0, i1, b0, b1, b2, b3, b4⟩ := HO.out k d hd wr hc
      have hkb : ((k : Int) != -1) = true := by simp
      have hpl : pre.length + 1 ≤ 4096 := by rw [hLL] at hl; simp at hl; omega
      have HL := Lib.hid hLL
      have HC := Lib.hid hc
      have HR := Lib.hid hrow
      have HF := Lib.hid hft
      have HD := Lib.hid hd
      have HSQ := Lib.hid hsq
      clear hLL hc hrow hft HH hd hsq c2 lt lg b0 b1 b2 b3 b4
      go_wp2_with (at_builtin; (refine wpList_append_row _ (by rfl) _ _ 107 (by rfl) 3 in0 (.int .i64 0) 1 8 Try.underlying107 hi0 hq0 hq1 hq2 rfl (.slice A pre.length cc) pre.length (ints (iN pre)) (by rfl) (HR.out.alloc _) ⟨wr.heap.size, 0, none⟩ 1 1 [.int .i64 (k : Nat)] (by rfl) (by rfl) (World.news_of_block (cs := #[.int .i64 (k : Nat)]) (t := 3) (fr := (0, 0)) (heap_alloc_new wr _)) (by simp [Value.oneCell']) (by omega) (by unfold maxLen; omega) (by omega) (wr.heap.size + 1) (by simp) ?_; intro gg cap w1 hown hgrow hat hlt1; have hc1 : Chg [] w w1 := ((HC.out.any.trans (((Chg.refl (foot (.slice A pre.length cc)) wr).alloc _).grown hgrow (fun k hk => .inl (row_mem hk))) (fun k hk => .inl hk)).mono (fun k hk => .inr (HF.out k hk))); obtain ⟨g1, cN1, c2, lt, lg, _, _, b0, b1, b2, b3, b4⟩ := HO.out k d HD.out w1 hc1; have HC1 := Lib.hid hc1; have HOWN := Lib.hid hown; have HAT := Lib.hid hat; clear hown hgrow hat hc1))
      go_roundg rest.length
      case measure => simp
      case rel =>
        refine ⟨pre ++ [k], rest, d.right, some ⟨gg, 0, none⟩, cap, rfl, by rw [List.length_append]; rfl, rfl, Lib.hid ⟨by rw [HL.out]; simp, HSQ.out, HC1.out, ?_, ?_⟩⟩
        · rw [iN_append, ints_append, List.length_append]
          exact HOWN.out
        · intro j hj
          rw [List.length_append] at hj
          simp [foot_some] at hj
          subst hj
          rcases HAT.out with h | h
          · exact HF.out _ (row_mem h)
          · have := HC.out.size; omega
end
end Go.Proofs
end
section
namespace Go.Proofs
open Go.RowKit
set_option linter.unusedVariables false
set_option linter.unusedSimpArgs false

/-- Up from a node to the next one that is gone to, so many steps; -1: the end. -/
inductive Up (c : Tr) (r : Nat) : Nat → Nat → Int → Prop where
  | side {n : Nat} {d : Nd} : c.N[n]? = some d → d.right ≠ -1 → Up c r 0 n d.right
  | stop {n : Nat} {d : Nd} : c.N[n]? = some d → d.right = -1 → d.par = (r : Nat) → Up c r 0 n (-1)
  | up {j n p : Nat} {d : Nd} {m : Int} : c.N[n]? = some d → d.right = -1 → d.par = (p : Nat) → p ≠ r → Up c r j p m → Up c r (j + 1) n m
/-- Who is gone over from a place on. -/
inductive Tv (c : Tr) (r : Nat) : Int → List Nat → Prop where
  | nil : Tv c r (-1) []
  | down {k : Nat} {d : Nd} {l : List Nat} : c.N[k]? = some d → d.child ≠ -1 → Tv c r d.child l → Tv c r (k : Nat) (k :: l)
  | side {k j : Nat} {d : Nd} {m : Int} {l : List Nat} : c.N[k]? = some d → d.child = -1 → Up c r j k m → Tv c r m l → Tv c r (k : Nat) (k :: l)
theorem Tv.end_ {c : Tr} {r : Nat} {l : List Nat} (h : Tv c r (-1) l) : l = [] := by
  generalize hx : (-1 : Int) = x at h
  cases h with
  | nil => rfl
  | down _ _ _ => omega
  | side _ _ _ _ => omega
section
variable {w : World} {h : Nat} {S : List Nat} {c : Tr}
set_option maxHeartbeats 3200000 in
set_option maxRecDepth 100000 in
theorem below_any (H : TreeAt w h S c) (hn : c.N.length ≤ 4096) {r : Nat} {dr : Nd} (hr : c.N[r]? = some dr) {l : List Nat} (hs : Tv c r dr.child l) (hl : l.length ≤ 4096) :
    Calls Try.prog 88 #[ptr h, .int .i64 (r : Nat)] w fun e w' => ∃ A cc, e = .returned (.slice A l.length cc) ∧ Fresh w w' (.slice A l.length cc) (iN l) := by
  have HO := Lib.hid (fun k d (hd : c.N[k]? = some d) W (hc : Chg [] w W) => H.open_ hd hc)
  obtain ⟨in0, hi0, hq0, hq1, hq2⟩ := info_parts Try.num_info
  obtain ⟨g, cN, c2, lt, lg, i0, i1, b0, b1, b2, b3, b4⟩ := HO.out r dr hr w (Chg.refl _ _)
  obtain ⟨f0, hf0⟩ : ∃ f0, f0 = dr.child := ⟨_, rfl⟩
  rw [← hf0] at hs b2
  have HS := Lib.hid hs
  clear hs H hf0
  go_enter Try.func88, Try.ntmps88
  go_wp2
  go_step3
  go_wp2
  go_step3
  go_wp2
  clear c2 lt lg i0 i1 b0 b1 b2 b3 b4
  go_loopg [5, 6] l.length (fun gh v xv wr => ∃ (pre rest : List Nat) (x : Int) (A : Option Addr) (cc : Nat), gh = rest.length ∧ v = .slice A pre.length cc ∧ xv = .int .i64 x ∧ Hid (l = pre ++ rest ∧ Tv c r x rest ∧ Chg [] w wr ∧ Row wr 3 1 (.slice A pre.length cc) pre.length (ints (iN pre)) ∧ (∀ k ∈ foot (.slice A pre.length cc), w.heap.size ≤ k)))
  case atStart => exact ⟨[], l, f0, none, 0, rfl, rfl, rfl, Lib.hid ⟨rfl, HS.out, Chg.refl _ _, Row.nil _ _ _, fun k hk => (by cases hk)⟩⟩
  case round =>
    obtain ⟨pre, rest, x, A, cc, rfl, rfl, rfl, HH⟩ := hrel
    obtain ⟨hLL, hsq, hc, hrow, hft⟩ := HH.out
    have fin : rest = [] → l = pre := fun e => by rw [hLL, e]; simp
    have HFIN := Lib.hid fin
    have HC := Lib.hid hc
    have HR := Lib.hid hrow
    have HF := Lib.hid hft
    have HL := Lib.hid hLL
    have hpl : rest ≠ [] → pre.length + 1 ≤ 4096 := fun e => by
      have : rest.length ≠ 0 := fun h => e (List.eq_nil_of_length_eq_zero h)
      rw [hLL] at hl; simp at hl; omega
    clear hLL hc hrow hft HH fin
    cases hsq with
    | nil =>
      have HP := Lib.hid (HFIN.out rfl)
      clear hpl HFIN
      go_wp2
      rw [Exit.noGoto_ret]
      go_ret
      have hp := HP.out
      subst hp
      refine ⟨A, cc, rfl, by have := HR.out; rw [iN_len]; exact this, HF.out, HC.out⟩
    | @down k d rest hd hch hsq =>
      have hpl := hpl (by simp)
      have hkb : ((k : Int) != -1) = true := by simp
      have hdb : (d.child != -1) = true := by simpa using hch
      have HD := Lib.hid hd
      have HSQ := Lib.hid hsq
      have hk := (List.getElem?_eq_some_iff.1 hd).1
      have i0 : (0 : Int) ≤ (k : Int) := by omega
      have i1 : (k : Int) < (c.N.length : Int) := by omega
      clear hd hsq hch hk HFIN
      go_wp2_with (at_builtin; (refine wpList_append_row _ (by rfl) _ _ 107 (by rfl) 3 in0 (.int .i64 0) 1 8 Try.underlying107 hi0 hq0 hq1 hq2 rfl (.slice A pre.length cc) pre.length (ints (iN pre)) (by rfl) (HR.out.alloc _) ⟨wr.heap.size, 0, none⟩ 1 1 [.int .i64 (k : Nat)] (by rfl) (by rfl) (World.news_of_block (cs := #[.int .i64 (k : Nat)]) (t := 3) (fr := (0, 0)) (heap_alloc_new wr _)) (by simp [Value.oneCell']) (by omega) (by unfold maxLen; omega) (by omega) (wr.heap.size + 1) (by simp) ?_; intro gg cap w1 hown hgrow hat hlt1; have hc1 : Chg [] w w1 := ((HC.out.any.trans (((Chg.refl (foot (.slice A pre.length cc)) wr).alloc _).grown hgrow (fun k hk => .inl (row_mem hk))) (fun k hk => .inl hk)).mono (fun k hk => .inr (HF.out k hk))); obtain ⟨g1, cN1, c2, lt, lg, _, _, b0, b1, b2, b3, b4⟩ := HO.out k d HD.out w1 hc1; have HC1 := Lib.hid hc1; have HOWN := Lib.hid hown; have HAT := Lib.hid hat; clear hown hgrow hat hc1))
      go_roundg rest.length
      case measure => simp
      case rel =>
        refine ⟨pre ++ [k], rest, d.child, some ⟨gg, 0, none⟩, cap, rfl, by rw [List.length_append]; rfl, rfl, Lib.hid ⟨by rw [HL.out]; simp, HSQ.out, HC1.out, ?_, ?_⟩⟩
        · rw [iN_append, ints_append, List.length_append]
          exact HOWN.out
        · intro j hj
          rw [List.length_append] at hj
          simp [foot_some] at hj
          subst hj
          rcases HAT.out with h | h
          · exact HF.out _ (row_mem h)
          · have := HC.out.size; omega
    | @side k j d m rest hd hch hup hsq =>
      have hpl := hpl (by simp)
      have hkb : ((k : Int) != -1) = true := by simp
      have hdb : (d.child != -1) = false := by simpa using hch
      have HD := Lib.hid hd
      have HSQ := Lib.hid hsq
      have HUP := Lib.hid hup
      have hk := (List.getElem?_eq_some_iff.1 hd).1
      have i0 : (0 : Int) ≤ (k : Int) := by omega
      have i1 : (k : Int) < (c.N.length : Int) := by omega
      clear hd hsq hch hk HFIN hup
      go_wp2_with (at_builtin; (refine wpList_append_row _ (by rfl) _ _ 107 (by rfl) 3 in0 (.int .i64 0) 1 8 Try.underlying107 hi0 hq0 hq1 hq2 rfl (.slice A pre.length cc) pre.length (ints (iN pre)) (by rfl) (HR.out.alloc _) ⟨wr.heap.size, 0, none⟩ 1 1 [.int .i64 (k : Nat)] (by rfl) (by rfl) (World.news_of_block (cs := #[.int .i64 (k : Nat)]) (t := 3) (fr := (0, 0)) (heap_alloc_new wr _)) (by simp [Value.oneCell']) (by omega) (by unfold maxLen; omega) (by omega) (wr.heap.size + 1) (by simp) ?_; intro gg cap w1 hown hgrow hat hlt1; have hc1 : Chg [] w w1 := ((HC.out.any.trans (((Chg.refl (foot (.slice A pre.length cc)) wr).alloc _).grown hgrow (fun k hk => .inl (row_mem hk))) (fun k hk => .inl hk)).mono (fun k hk => .inr (HF.out k hk))); obtain ⟨g1, cN1, c2, lt, lg, _, _, b0, b1, b2, b3, b4⟩ := HO.out k d HD.out w1 hc1; have HC1 := Lib.hid hc1; have HOWN := Lib.hid hown; have HAT := Lib.hid hat; clear hown hgrow hat hc1))
      have hfin : Fresh w w1 (.slice (some ⟨gg, 0, none⟩) (pre.length + 1) cap) (iN (pre ++ [k])) := by
        refine ⟨?_, ?_, HC1.out⟩
        · rw [iN_len, iN_append, ints_append, List.length_append]
          exact HOWN.out
        · intro j hj
          simp [foot_some] at hj
          subst hj
          rcases HAT.out with h | h
          · exact HF.out _ (row_mem h)
          · have := HC.out.size; omega
      have HFR := Lib.hid hfin
      clear hfin c2 lt lg b0 b1 b2 b3 b4 HOWN HAT
      go_loopg [6] j (fun gh xv wy => ∃ n : Nat, xv = .int .i64 (n : Nat) ∧ Hid (Up c r gh n m) ∧ w1 = wy)
      case atStart => exact ⟨k, rfl, Lib.hid HUP.out, rfl⟩
      case round =>
        obtain ⟨n, rfl, HI, rfl⟩ := hrel
        have hup := HI.out
        clear HI
        cases hup with
        | @side n d2 hd2 hr2 =>
          obtain ⟨g2, cN2, c2, lt, lg, j0, j1, b0, b1, b2, b3, b4⟩ := HO.out n d2 hd2 w1 HC1.out
          have hb : (d2.right == -1) = false := by simpa using hr2
          clear hd2 hr2
          go_wp2
          go_roundg rest.length
          case measure => simp
          case rel =>
            have hf := HFR.out
            refine ⟨pre ++ [k], rest, d2.right, some ⟨gg, 0, none⟩, cap, rfl, by rw [List.length_append]; rfl, rfl, Lib.hid ⟨by rw [HL.out]; simp, HSQ.out, hf.2.2, ?_, ?_⟩⟩
            · have := hf.1
              rw [iN_len] at this
              rw [List.length_append] at this ⊢
              exact this
            · rw [List.length_append]
              exact hf.2.1
        | @stop n d2 hd2 hr2 hp2 =>
          obtain ⟨g2, cN2, c2, lt, lg, j0, j1, b0, b1, b2, b3, b4⟩ := HO.out n d2 hd2 w1 HC1.out
          have hb : (d2.right == -1) = true := by simpa using hr2
          rw [hp2] at b1
          have hb2 : ((r : Int) == (r : Int)) = true := by simp
          have HE := Lib.hid (Tv.end_ HSQ.out)
          clear hd2 hr2 hp2
          go_wp2
          rw [Exit.noGoto_ret]
          go_ret
          have hl : l = pre ++ [k] := by rw [HL.out, HE.out]
          have hf := HFR.out
          rw [hl]
          have he : (pre ++ [k]).length = pre.length + 1 := by simp
          rw [he]
          exact ⟨some ⟨gg, 0, none⟩, cap, rfl, hf⟩
        | @up j n p2 d2 m hd2 hr2 hp2 hne hup =>
          obtain ⟨g2, cN2, c2, lt, lg, j0, j1, b0, b1, b2, b3, b4⟩ := HO.out n d2 hd2 w1 HC1.out
          have hb : (d2.right == -1) = true := by simpa using hr2
          rw [hp2] at b1
          have hb2 : ((p2 : Int) == (r : Int)) = false := by simp; omega
          have HU := Lib.hid hup
          clear hd2 hr2 hp2 hup
          go_wp2
          go_roundg j
          case measure => omega
          case rel => exact ⟨p2, rfl, Lib.hid HU.out, rfl⟩
end
end Go.Proofs
end
section
namespace Go.Proofs
open Go.RowKit
set_option linter.unusedVariables false

section
variable {P : Program} (w : World)
/-- append of nothing onto a row: the row. -/
theorem run_append_none (t ty e : TypeId) (i : TypeInfo) (size : Nat) (ht : P.underlying t = some (.slice e)) (hi : P.info? e = some i)
    (v : Value) (n : Nat) (xs : List Value) (hr : Row w e size v n xs) (A : Option Addr) (c : Nat) :
    (Builtin.append_ #[t, t] ty #[v, .slice A 0 c]).run P w = .ok v w := by
  rcases hr.2 with ⟨rfl, rfl⟩ | ⟨g, cap, cur, rfl, _, hnc, _⟩
  · cases A <;> simp [Builtin.append_, run_underlying ht, sizeOf, typeInfo, hi, Builtin.lenOf, Builtin.firstCells, loadCells, loadCellsFrom]
  · cases A <;> simp [Builtin.append_, run_underlying ht, sizeOf, typeInfo, hi, Builtin.lenOf, Builtin.firstCells, loadCells, loadCellsFrom, hnc, storeCells]
/-- append of a row onto an empty row: a copy. -/
theorem wpList_append_copy {ops : Array Oper} {rest : List Oper} {o : Oper} {a : Act} {Q : Exit → Act → World → Prop} (hgd : o.guard = none) (s x : Operand) (t : TypeId)
    (ho : o.op = .call { callee := .builtin .append, args := #[s, x], argTypes := #[t, t] })
    (e : TypeId) (i : TypeInfo) (z : Value) (size bytes : Nat) (ht : P.underlying t = some (.slice e)) (hi : P.info? e = some i) (hz : i.zero = some z)
    (hsize : i.size = size) (hby : i.bytes = bytes) (hzs : z.cells.size = size)
    (v : Value) (hs : a.eval s = v) (hr : Row w e size v 0 [])
    (V : Value) (n : Nat) (xs : List Value) (hx : a.eval x = V) (hV : Row w e size V n xs) (h1 : ∀ u ∈ xs, u.oneCell' = true)
    (h63 : n ≤ maxLen) (hbytes : n * bytes ≤ 140737488355328) (H : Nat) (hH : w.heap.size = H)
    (h : ∀ v' w', Row w' e size v' n xs → w.grownBy w' v.ownBlock → (∀ k ∈ foot v', v.ownBlock = some k ∨ k = H) → wpList P ops Q rest (a.put o.dst v') w') : wpList P ops Q (o :: rest) a w := by
  obtain ⟨A, c, rfl, hA⟩ := hV.val
  rcases Nat.eq_zero_or_pos n with h0 | h0
  · subst h0
    have hxs : xs = [] := List.eq_nil_of_length_eq_zero (by simpa using hV.1)
    subst hxs
    have hrun := run_append_none (P := P) w t o.type e i size ht hi v 0 [] hr A c
    refine wpList_plain hgd fun _ hK => ?_
    unfold Oper.wp execOp
    simp only [ho, resolve, invoke, builtin, Sem.run_bind, Sem.run_pure, Result.andThen_ok, List.map_toArray, List.map_cons, List.map_nil, hs, hx, hrun]
    exact hK _ _ (h v w hr ⟨rfl, rfl, rfl, Nat.le_refl _, fun _ _ _ => rfl⟩ (fun k hk => .inl (by simpa [foot] using hk)))
  · obtain ⟨g, cap, hv, _, _, hcell, _, _⟩ := hV.form h0
    simp only [Value.slice.injEq] at hv
    obtain ⟨rfl, _, _⟩ := hv
    have hadd : ∀ j, (⟨g, 0, none⟩ : Addr).add j = ⟨g, j, none⟩ := fun j => by unfold Addr.add; split <;> simp_all
    refine wpList_append_row w hgd s x t ho e i z size bytes ht hi hz hsize hby hzs v 0 [] hs hr ⟨g, 0, none⟩ n c xs hx hV.1 (fun j u hu => by rw [hadd]; exact hcell j u hu) h1 h0 (by omega) (by rw [Nat.zero_add]; exact hbytes) H hH ?_
    intro g' cap' w' h2 h3 h4 _
    simp only [Nat.zero_add, List.nil_append] at h2
    rw [Nat.zero_add]
    exact h _ _ h2 h3 (fun k hk => by simp [foot_some] at hk; subst hk; exact h4)
end
/-- A slice in new blocks, with the same cells. -/
def Cloned (e : TypeId) (size n : Nat) (xs : List Value) (w w' : World) (en : Ending) : Prop := ∃ v, en = .returned v ∧ Row w' e size v n xs ∧ (∀ k ∈ foot v, w.heap.size ≤ k) ∧ Chg [] w w'
theorem ndCells_one (l : List Nd) : ∀ u ∈ ndCells l, u.oneCell' = true := by
  intro u hu
  unfold ndCells at hu
  rw [List.mem_flatMap] at hu
  obtain ⟨s, _, hs⟩ := hu
  simp [Nd.cells] at hs
  rcases hs with rfl | rfl | rfl | rfl | rfl <;> rfl
theorem intsN_one (l : List Nat) : ∀ u ∈ ints (iN l), u.oneCell' = true := by
  intro u hu
  unfold ints at hu
  rw [List.mem_map] at hu
  obtain ⟨s, _, rfl⟩ := hu
  rfl
theorem eql_nil_55 (w : World) (a : Option Addr) (n c : Nat) : (binOp .eql 117 (.slice a n c) (.slice none 0 0)).run Try.prog w = .ok (.bool a.isNone) w := by
  simp only [binOp]
  simp [Op.equal, Op.maxDepth, Lib.run_equalIn_slice_nil w 9999 117 124 a n c 0 0 Try.underlying117]
theorem eql_nil_37 (w : World) (a : Option Addr) (n c : Nat) : (binOp .eql 107 (.slice a n c) (.slice none 0 0)).run Try.prog w = .ok (.bool a.isNone) w := by
  simp only [binOp]
  simp [Op.equal, Op.maxDepth, Lib.run_equalIn_slice_nil w 9999 107 3 a n c 0 0 Try.underlying107]
attribute [local go_sem] eql_nil_55 eql_nil_37
set_option maxRecDepth 100000 in
theorem clone_nds {w : World} {V : Value} {l : List Nd} (hV : Row w 124 5 V l.length (ndCells l)) (hl : l.length ≤ 4096) :
    Calls Try.prog 84 #[V] w fun e w' => Cloned 124 5 l.length (ndCells l) w w' e := by
  obtain ⟨i0, hi0, hz0, hz1, hz2⟩ := info_parts Try.nd_info
  have hone := ndCells_one l
  have hV0 := hV
  rcases hV.2 with ⟨rfl, h0⟩ | ⟨g, cap, cur, rfl, hg, hc, hm, hcs, ht⟩
  · have hnil : l = [] := List.eq_nil_of_length_eq_zero h0
    subst hnil
    clear hV hV0 hone
    go_enter Try.func84, Try.ntmps84
    go_wp2
    go_ret
    exact ⟨_, rfl, Row.nil _ _ _, by simp [foot_nil], Chg.refl _ _⟩
  · have HV := Lib.hid hV0
    clear hV hV0 ht hg hcs hm hc
    obtain ⟨n, hn⟩ : ∃ n, n = l.length := ⟨_, rfl⟩
    rw [← hn] at HV hl ⊢
    clear hn
    go_enter Try.func84, Try.ntmps84
    go_wp2_with (at_builtin; refine wpList_append_copy _ rfl _ _ 117 (by rfl) 124 i0 _ 5 40 Try.underlying117 hi0 hz0 hz1 hz2 rfl (.slice (some ⟨w.heap.size, 0, none⟩) 0 0) (by rfl) ⟨by simp, .inr ⟨w.heap.size, 0, #[], rfl, Blk.new w _ _, by omega, by unfold maxLen; omega, by simp, rfl⟩⟩ (.slice (some ⟨g, 0, none⟩) n cap) n (ndCells l) (by rfl) (HV.out.alloc _) hone (by unfold maxLen; omega) (by omega) (w.heap.size + 1) (by simp) ?_; intro v' w1 hr hg hf)
    go_ret
    refine ⟨_, rfl, hr, fun k hk => ?_, ((Chg.refl [] w).alloc _).grown hg (fun k hk => ?_)⟩
    · rcases hf k hk with h9 | h9
      · simp [Value.ownBlock] at h9; omega
      · omega
    · simp [Value.ownBlock] at hk; exact .inr (by omega)
set_option maxRecDepth 100000 in
theorem clone_nums {w : World} {V : Value} {l : List Nat} (hV : Row w 3 1 V l.length (ints (iN l))) (hl : l.length ≤ 4096) :
    Calls Try.prog 85 #[V] w fun e w' => Cloned 3 1 l.length (ints (iN l)) w w' e := by
  obtain ⟨i0, hi0, hz0, hz1, hz2⟩ := info_parts Try.num_info
  have hone := intsN_one l
  have hV0 := hV
  rcases hV.2 with ⟨rfl, h0⟩ | ⟨g, cap, cur, rfl, hg, hc, hm, hcs, ht⟩
  · have hnil : l = [] := List.eq_nil_of_length_eq_zero h0
    subst hnil
    clear hV hV0 hone
    go_enter Try.func85, Try.ntmps85
    go_wp2
    go_ret
    exact ⟨_, rfl, Row.nil _ _ _, by simp [foot_nil], Chg.refl _ _⟩
  · have HV := Lib.hid hV0
    clear hV hV0 ht hg hcs hm hc
    obtain ⟨n, hn⟩ : ∃ n, n = l.length := ⟨_, rfl⟩
    rw [← hn] at HV hl ⊢
    clear hn
    go_enter Try.func85, Try.ntmps85
    go_wp2_with (at_builtin; refine wpList_append_copy _ rfl _ _ 107 (by rfl) 3 i0 _ 1 8 Try.underlying107 hi0 hz0 hz1 hz2 rfl (.slice (some ⟨w.heap.size, 0, none⟩) 0 0) (by rfl) ⟨by simp, .inr ⟨w.heap.size, 0, #[], rfl, Blk.new w _ _, by omega, by unfold maxLen; omega, by simp, rfl⟩⟩ (.slice (some ⟨g, 0, none⟩) n cap) n (ints (iN l)) (by rfl) (HV.out.alloc _) hone (by unfold maxLen; omega) (by omega) (w.heap.size + 1) (by simp) ?_; intro v' w1 hr hg hf)
    go_ret
    refine ⟨_, rfl, hr, fun k hk => ?_, ((Chg.refl [] w).alloc _).grown hg (fun k hk => ?_)⟩
    · rcases hf k hk with h9 | h9
      · simp [Value.ownBlock] at h9; omega
      · omega
    · simp [Value.ownBlock] at hk; exact .inr (by omega)
/-- A copy of the forest, in new blocks. -/
def Copied (c : Tr) (w w' : World) : Prop := ∃ S, TreeAt w' w.heap.size S c ∧ (∀ k ∈ S, w.heap.size ≤ k) ∧ Chg [] w w'
theorem Copied.mk {c : Tr} {w W : World} {v1 v2 : Value} (hB : Blk W w.heap.size 119 #[.int .i64 c.size, .int .i64 c.root, v1, v2]) (h1 : Row W 124 5 v1 c.N.length (ndCells c.N)) (h2 : Row W 3 1 v2 c.F.length (ints (iN c.F)))
    (f1 : ∀ k ∈ foot v1, w.heap.size ≤ k) (f2 : ∀ k ∈ foot v2, w.heap.size ≤ k) (hc : Chg [] w W) : Copied c w W :=
  ⟨_, ⟨v1, v2, hB, h1, h2, rfl⟩, fun k hk => by
    simp at hk
    rcases hk with rfl | hk | hk
    · exact Nat.le_refl _
    · exact f1 k hk
    · exact f2 k hk, hc⟩
set_option maxRecDepth 100000 in
set_option maxHeartbeats 3200000 in
theorem copy_any {w : World} {h : Nat} {S : List Nat} {c : Tr} (H : TreeAt w h S c) (h0 : c.size ≠ 0) (hl1 : c.N.length ≤ 4096) (hl2 : c.F.length ≤ 4096) :
    Calls Try.prog 58 #[ptr h] w fun e w' => e = .returned (ptr w.heap.size) ∧ Copied c w w' := by
  have HN := none_any H
  have e0 : decide (c.size = 0) = false := by simpa using h0
  rw [e0] at HN
  obtain ⟨VS, VF, hB, hS, hF, hSS⟩ := H
  obtain ⟨A, cc, rfl, _⟩ := hS.val
  obtain ⟨A', c', rfl, _⟩ := hF.val
  obtain ⟨n1, hn1⟩ : ∃ n, n = c.N.length := ⟨_, rfl⟩
  obtain ⟨n2, hn2⟩ : ∃ n, n = c.F.length := ⟨_, rfl⟩
  have lg := hB.lt
  have hne : h ≠ w.heap.size := by omega
  have HS : Hid (Row w 124 5 (.slice A n1 cc) c.N.length (ndCells c.N)) := Lib.hid (by rw [hn1]; exact hS)
  have HF : Hid (Row w 3 1 (.slice A' n2 c') c.F.length (ints (iN c.F))) := Lib.hid (by rw [hn2]; exact hF)
  have HB := Lib.hid hB
  have b0 := hB.cell 0
  have b1 := hB.cell 1
  have b2 := hB.cell 2
  have b3 := hB.cell 3
  obtain ⟨Z, hZ⟩ : ∃ Z, Z = c.size := ⟨_, rfl⟩
  obtain ⟨R, hR⟩ : ∃ R, R = c.root := ⟨_, rfl⟩
  rw [← hZ] at b0
  rw [← hR] at b1
  have HZ := Lib.hid hZ
  have HR := Lib.hid hR
  have HN1 := Lib.hid hn1
  have HN2 := Lib.hid hn2
  rw [← hn1] at b2
  rw [← hn2] at b3
  simp only [List.getElem?_toArray, List.getElem?_cons_zero, List.getElem?_cons_succ] at b0 b1 b2 b3
  clear hB hS hF hSS hZ hR hn1 hn2 h0 e0
  go_enter Try.func58, Try.ntmps58
  go_wp2_with (go_at_call 83; refine HN.mono ?_; rintro e w' ⟨rfl, rfl⟩)
  have HCC := Lib.hid (((Chg.refl [] w).alloc (.cells #[.int .i64 Z, .int .i64 R, (.slice A n1 cc), (.slice A' n2 c')] 119)).drew)
  have HBX := Lib.hid ((Blk.new w 119 #[.int .i64 Z, .int .i64 R, (.slice A n1 cc), (.slice A' n2 c')]).drew)
  go_region_held3 (fun w' => w'.cell? ⟨h, 2, none⟩ = some (.slice A n1 cc) ∧ w'.cell? ⟨h, 3, none⟩ = some (.slice A' n2 c'))
    (first | go_keep | (simp [*, World.cell?_setCell_far, Ne.symm hne]))
    (first
      | (go_at_call 84; refine (clone_nds (HS.out.chg HCC.out (fun _ _ h => by cases h)) hl1).mono ?_; rintro e w1 ⟨v1, rfl, hr1, hf1, hc1⟩; obtain ⟨A1, c1, rfl, _⟩ := hr1.val; have HBX := Lib.hid (HBX.out.chg hc1 (by simp)); have HR1 := Lib.hid hr1; have HF1 := Lib.hid hf1; have HC1 := Lib.hid hc1; have HCC := Lib.hid (HCC.out.then hc1); have k2 : w1.cell? ⟨h, 2, none⟩ = some (.slice A n1 cc) := (HCC.out.cell (p := ⟨h, 2, none⟩) lg (by simp)).trans b2; have k3 : w1.cell? ⟨h, 3, none⟩ = some (.slice A' n2 c') := (HCC.out.cell (p := ⟨h, 3, none⟩) lg (by simp)).trans b3; clear hr1 hf1 hc1)
      | (go_at_call 85; refine (clone_nums (HF.out.chg HCC.out (fun _ _ h => by cases h)) hl2).mono ?_; rintro e w2 ⟨v2, rfl, hr2, hf2, hc2⟩; obtain ⟨A2, c2, rfl, _⟩ := hr2.val; have hbx := HBX.out.chg hc2 (by simp); have x2 := hbx.cell 2; have x3 := hbx.cell 3; have y2 := hbx.frozen 2; have y3 := hbx.frozen 3; have HBX := Lib.hid hbx; have HR2 := Lib.hid hr2; have HF2 := Lib.hid hf2; have HC2 := Lib.hid hc2; have HCC := Lib.hid (HCC.out.then hc2); have j2 : w2.cell? ⟨h, 2, none⟩ = some (.slice A n1 cc) := (HCC.out.cell (p := ⟨h, 2, none⟩) lg (by simp)).trans b2; have j3 : w2.cell? ⟨h, 3, none⟩ = some (.slice A' n2 c') := (HCC.out.cell (p := ⟨h, 3, none⟩) lg (by simp)).trans b3; clear hr2 hf2 hc2 hbx))
  have z2 := HC2.out.size
  have z1 := HC1.out.size
  simp only [World.size_drew, World.size_alloc] at z1
  have m1 : w.heap.size ∉ foot (.slice A1 c.N.length c1) := fun hm => by have := HF1.out _ hm; simp at this; omega
  have m2 : w.heap.size ∉ foot (.slice A2 c.F.length c2) := fun hm => by have := HF2.out _ hm; omega
  have hB2 : Blk ((w2.setCell ⟨w.heap.size, 2, none⟩ (.slice A1 c.N.length c1)).setCell ⟨w.heap.size, 3, none⟩ (.slice A2 c.F.length c2)) w.heap.size 119 #[.int .i64 Z, .int .i64 R, .slice A1 c.N.length c1, .slice A2 c.F.length c2] := (HBX.out.set_ 2 _).set_ 3 _
  have hq1 := ((HR1.out.chg HC2.out (fun _ _ h => by cases h)).far (p := ⟨w.heap.size, 2, none⟩) m1 (.slice A1 c.N.length c1)).far (p := ⟨w.heap.size, 3, none⟩) m1 (.slice A2 c.F.length c2)
  have hq2 := (HR2.out.far (p := ⟨w.heap.size, 2, none⟩) m2 (.slice A1 c.N.length c1)).far (p := ⟨w.heap.size, 3, none⟩) m2 (.slice A2 c.F.length c2)
  rw [HZ.out, HR.out] at hB2
  have HM := Lib.hid (Copied.mk hB2 hq1 hq2 (fun k hk => by have := HF1.out k hk; simp at this; omega) (fun k hk => by have := HF2.out k hk; omega) ((HCC.out.setCell (p := ⟨w.heap.size, 2, none⟩) (.inr (Nat.le_refl _)) _).setCell (p := ⟨w.heap.size, 3, none⟩) (.inr (Nat.le_refl _)) _))
  clear z1 z2 m1 m2 hB2 hq1 hq2
  go_wp2
  go_ret
  exact ⟨rfl, HM.out⟩
theorem copy_zero {w : World} {h : Nat} {S : List Nat} {c : Tr} (H : TreeAt w h S c) (h0 : c.size = 0) :
    Calls Try.prog 58 #[ptr h] w fun e w' => e = .returned (.pointer none) ∧ w = w' := by
  have HN := none_any H
  have e0 : decide (c.size = 0) = true := by simpa using h0
  rw [e0] at HN
  clear e0 h0 H
  go_enter Try.func58, Try.ntmps58
  go_wp2_with (go_at_call 83; refine HN.mono ?_; rintro e w' ⟨rfl, rfl⟩)
  go_ret
  exact ⟨rfl, rfl⟩
theorem copy_nil (w : World) : Calls Try.prog 58 #[.pointer none] w fun e w' => e = .returned (.pointer none) ∧ w = w' := by
  go_enter Try.func58, Try.ntmps58
  go_wp2_with (go_at_call 83; refine (none_nil w).mono ?_; rintro e w' ⟨rfl, rfl⟩)
  go_ret
  exact ⟨rfl, rfl⟩
end Go.Proofs
end
section
namespace Go.Proofs
open Go.RowKit
set_option linter.unusedVariables false
set_option linter.unusedSimpArgs false

/-- Who is above a node, the nearest one first. -/
inductive Pa (c : Tr) : Int → List Nat → Prop where
  | nil {i : Int} : ¬ ((c.nd i).there = true ∧ (c.nd i).par ≠ -1) → Pa c i []
  | cons {i : Int} {p : Nat} {l : List Nat} : (c.nd i).there = true → (c.nd i).par = (p : Nat) → Pa c (p : Nat) l → Pa c i (p :: l)
section
variable {w : World} {h : Nat} {S : List Nat} {c : Tr}
theorem pa_no (H : TreeAt w h S c) (hn : c.N.length ≤ 4096) {i : Int} (hi : ¬ ((c.nd i).there = true ∧ (c.nd i).par ≠ -1)) : Calls Try.prog 78 #[ptr h, .int .i64 i] w fun e w' => e = .returned (.tuple #[.int .i64 0, .bool false]) ∧ Chg [] w w' := by
  have := parent_any H hn i
  rw [if_neg hi, decide_eq_false hi] at this
  exact this
theorem pa_yes (H : TreeAt w h S c) (hn : c.N.length ≤ 4096) {i : Int} {p : Nat} (h1 : (c.nd i).there = true) (h2 : (c.nd i).par = (p : Nat)) : Calls Try.prog 78 #[ptr h, .int .i64 i] w fun e w' => e = .returned (.tuple #[.int .i64 (p : Nat), .bool true]) ∧ Chg [] w w' := by
  have := parent_any H hn i
  have hi : (c.nd i).there = true ∧ (c.nd i).par ≠ -1 := ⟨h1, by rw [h2]; omega⟩
  rw [if_pos hi, decide_eq_true hi, h2] at this
  exact this
set_option maxHeartbeats 1600000 in
set_option maxRecDepth 100000 in
theorem under_any (H : TreeAt w h S c) (hn : c.N.length ≤ 4096) {i : Int} {l : List Nat} (hp : Pa c i l) (j : Int) :
    Calls Try.prog 64 #[ptr h, .int .i64 i, .int .i64 j] w fun e w' => e = .returned (.bool (decide (j ∈ iN l))) ∧ Chg [] w w' := by
  have HPN := Lib.hid (fun W (hc : Chg [] w W) i hi => pa_no (H.quiet hc) hn (i := i) hi)
  have HPY := Lib.hid (fun W (hc : Chg [] w W) i p h1 h2 => pa_yes (H.quiet hc) hn (i := i) (p := p) h1 h2)
  clear H
  cases hp with
  | nil hi =>
    have HQ := Lib.hid (HPN.out w (Chg.refl _ _) i hi)
    clear hi
    go_enter Try.func64, Try.ntmps64
    go_wp2_with (go_at_call 78; refine HQ.out.mono ?_; rintro e w1 ⟨rfl, hc⟩; have HC := Lib.hid hc; clear hc)
    go_loopg [7, 8] 0 (fun gh xv hv wr => xv = .int .i64 0 ∧ hv = .bool false ∧ w1 = wr)
    case atStart => exact ⟨rfl, rfl, rfl⟩
    case round =>
      obtain ⟨rfl, rfl, rfl⟩ := hrel
      go_wp2
      go_ret
      exact ⟨by simp [iN], HC.out⟩
  | @cons _ p l h1 h2 hpa =>
    have HQ := Lib.hid (HPY.out w (Chg.refl _ _) i p h1 h2)
    have HPA := Lib.hid hpa
    clear h1 h2 hpa
    go_enter Try.func64, Try.ntmps64
    go_wp2_with (go_at_call 78; refine HQ.out.mono ?_; rintro e w1 ⟨rfl, hc⟩; have HC := Lib.hid hc; clear hc)
    go_loopg [7, 8] (l.length + 1) (fun gh xv hv wr => ∃ (rest : List Nat) (x : Int) (b : Bool), gh = rest.length ∧ xv = .int .i64 x ∧ hv = .bool b ∧ Hid (Chg [] w wr ∧ (j ∈ iN (p :: l) ↔ j ∈ iN rest) ∧ ((rest = [] ∧ b = false) ∨ ∃ (q : Nat) (r : List Nat), rest = q :: r ∧ x = (q : Nat) ∧ b = true ∧ Pa c x r)))
    case atStart => exact ⟨p :: l, (p : Nat), true, by simp, rfl, rfl, Lib.hid ⟨HC.out, Iff.rfl, .inr ⟨p, l, rfl, rfl, rfl, HPA.out⟩⟩⟩
    case round =>
      obtain ⟨rest, x, b, rfl, rfl, rfl, HH⟩ := hrel
      obtain ⟨hc, hiff, hor⟩ := HH.out
      have HI := Lib.hid hiff
      have HC2 := Lib.hid hc
      clear hiff HH
      rcases hor with ⟨rfl, rfl⟩ | ⟨q, r, rfl, rfl, rfl, hpa⟩
      · clear hc
        go_wp2
        go_ret
        exact ⟨by have := HI.out; rw [decide_eq_false (by rw [this]; simp [iN])]; rfl, HC2.out⟩
      · by_cases hqj : (q : Int) = j
        · subst hqj
          have hb : ((q : Int) == (q : Int)) = true := by simp
          clear hc hpa
          go_wp2
          go_ret
          exact ⟨by have := HI.out; rw [decide_eq_true (by rw [this]; simp [iN])]; rfl, HC2.out⟩
        · have hb : ((q : Int) == j) = false := by simpa using hqj
          have hji : j ∈ iN (q :: r) ↔ j ∈ iN r := by simp only [iN, List.map_cons, List.mem_cons]; exact ⟨fun h => h.resolve_left (fun e => hqj e.symm), .inr⟩
          have HJ := Lib.hid (HI.out.trans hji)
          clear hqj hji
          cases hpa with
          | nil hi =>
            have HQ2 := Lib.hid (HPN.out wr hc (q : Nat) hi)
            clear hi hc
            go_wp2_with (go_at_call 78; refine HQ2.out.mono ?_; rintro e w2 ⟨rfl, hc⟩; have HC3 := Lib.hid hc; clear hc)
            go_roundg 0
            case measure => simp
            case rel => exact ⟨[], 0, false, rfl, rfl, rfl, Lib.hid ⟨HC2.out.then HC3.out, HJ.out, .inl ⟨rfl, rfl⟩⟩⟩
          | @cons _ p2 l2 h1 h2 hpa =>
            have HQ2 := Lib.hid (HPY.out wr hc (q : Nat) p2 h1 h2)
            have HPA2 := Lib.hid hpa
            clear h1 h2 hc hpa
            go_wp2_with (go_at_call 78; refine HQ2.out.mono ?_; rintro e w2 ⟨rfl, hc⟩; have HC3 := Lib.hid hc; clear hc)
            go_roundg (l2.length + 1)
            case measure => simp
            case rel => exact ⟨p2 :: l2, (p2 : Nat), true, by simp, rfl, rfl, Lib.hid ⟨HC2.out.then HC3.out, HJ.out, .inr ⟨p2, l2, rfl, rfl, rfl, HPA2.out⟩⟩⟩
/-- A forest without nodes. -/
def tr0 (n : Nat) : Tr := ⟨n, -1, [], []⟩
theorem new_any (n : Nat) (h1 : 1 ≤ n) (h2 : n ≤ 4096) (w : World) : Calls Try.prog 40 #[.int .i64 (n : Nat)] w fun e w' => e = .returned (.tuple #[ptr w.heap.size, .int .i64 0]) ∧ TreeAt w' w.heap.size [w.heap.size] (tr0 n) ∧ Chg [] w w' := by
  have d1 : decide ((n : Int) < 1) = false := by simp; omega
  have d2 : decide ((4096 : Int) < (n : Int)) = false := by simp; omega
  go_enter Try.func40, Try.ntmps40
  go_wp2
  go_ret2
  exact ⟨rfl, ⟨.slice none 0 0, .slice none 0 0, Blk.new w 119 _, Row.nil _ _ _, Row.nil _ _ _, rfl⟩, (Chg.refl _ _).alloc _⟩
theorem new_bad {n : Int} (hb : n < 1 ∨ 4096 < n) (w : World) : Calls Try.prog 40 #[.int .i64 n] w fun e w' => e = .returned (.tuple #[.pointer none, .int .i64 2]) ∧ w = w' := by
  by_cases h1 : n < 1
  · have d1 : decide (n < 1) = true := by simpa using h1
    go_enter Try.func40, Try.ntmps40
    go_wp2
    go_ret2
    exact ⟨rfl, rfl⟩
  · have d1 : decide (n < 1) = false := by simpa using h1
    have d2 : decide (4096 < n) = true := by simp; omega
    go_enter Try.func40, Try.ntmps40
    go_wp2
    go_ret2
    exact ⟨rfl, rfl⟩
end
end Go.Proofs
end
