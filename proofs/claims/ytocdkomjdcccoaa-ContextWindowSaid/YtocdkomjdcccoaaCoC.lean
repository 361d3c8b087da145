import Derived.Test.YtocdkomjdcccoaaCoB
namespace Go.Proofs
open Go.RowKit
set_option linter.unusedVariables false

/-! ### A table of contexts in memory -/
/-- A context: its budget, its period, its refills as they lie in memory, how many are bound; and the refills as a list. -/
structure Cx where
  b : Int
  p : Int
  a : Option Addr
  m : Nat
  c : Nat
  n : Int
  l : List Rf
def cx0 : Cx := ⟨0, 0, none, 0, 0, 0, []⟩
abbrev Cx.val (x : Cx) : Value := .agg #[.int .u64 x.b, .int .u64 x.p, (.slice x.a x.m x.c), .int .i64 x.n]
def Spot.cells (s : Spot Cx) : List Value := [.int .u64 s.gen, .bool s.there, .int .u64 s.thing.b, .int .u64 s.thing.p, (.slice s.thing.a s.thing.m s.thing.c), .int .i64 s.thing.n]
def spotCells (l : List (Spot Cx)) : List Value := l.flatMap Spot.cells
def numCells (l : List Nat) : List Value := l.map fun k => .int .i64 ((k : Nat) : Int)
theorem spotCells_len (l : List (Spot Cx)) : (spotCells l).length = l.length * 6 := flat_len (enc := Spot.cells) (s := 6) (fun _ => rfl) l
theorem spotCells_append (l l' : List (Spot Cx)) : spotCells (l ++ l') = spotCells l ++ spotCells l' := by unfold spotCells; simp
theorem spotCells_at (l : List (Spot Cx)) (k : Nat) (s : Spot Cx) (h : l[k]? = some s) :
    (spotCells l)[k * 6]? = some (.int .u64 s.gen) ∧ (spotCells l)[k * 6 + 1]? = some (.bool s.there) ∧ (spotCells l)[k * 6 + 2]? = some (.int .u64 s.thing.b) ∧
    (spotCells l)[k * 6 + 3]? = some (.int .u64 s.thing.p) ∧ (spotCells l)[k * 6 + 4]? = some (.slice s.thing.a s.thing.m s.thing.c) ∧ (spotCells l)[k * 6 + 5]? = some (.int .i64 s.thing.n) := by
  have e := fun j u => flat_at (enc := Spot.cells) (s := 6) (fun _ => rfl) (j := j) (u := u) h
  exact ⟨e 0 _ rfl, e 1 _ rfl, e 2 _ rfl, e 3 _ rfl, e 4 _ rfl, e 5 _ rfl⟩
/-- The four cells of a thing, set in a list. -/
abbrev set4 (m : List Value) (o : Nat) (x : Cx) : List Value := (((m.set o (.int .u64 x.b)).set (o + 1) (.int .u64 x.p)).set (o + 2) (.slice x.a x.m x.c)).set (o + 3) (.int .i64 x.n)
theorem spotCells_set : ∀ (l : List (Spot Cx)) (k : Nat) (s : Spot Cx), k < l.length →
    spotCells (l.set k s) = set4 (((spotCells l).set (k * 6) (.int .u64 s.gen)).set (k * 6 + 1) (.bool s.there)) (k * 6 + 2) s.thing := by
  intro l
  induction l with
  | nil => intro k s h; simp at h
  | cons a l ih =>
    intro k s h
    cases k with
    | zero => simp [spotCells, Spot.cells, set4]
    | succ k =>
      have := ih k s (by simpa using h)
      unfold spotCells set4 at this ⊢
      rw [List.set_cons_succ, List.flatMap_cons, List.flatMap_cons, this]
      have e : ∀ (m : List Value) (j : Nat) (u : Value), (Spot.cells a ++ m).set ((k + 1) * 6 + j) u = Spot.cells a ++ m.set (k * 6 + j) u := fun m j u => by
        rw [List.set_append_right _ _ (by simp [Spot.cells]; omega)]
        simp [Spot.cells]; congr 1; omega
      have e0 := fun m u => e m 0 u
      simp only [Nat.add_zero] at e0
      simp only [Nat.add_assoc, Nat.reduceAdd] at e ⊢
      rw [e0, e, e, e, e, e]
theorem set_self_at {β : Type} {l : List β} {k : Nat} {x : β} (h : l[k]? = some x) : l.set k x = l := by
  refine List.ext_getElem? fun j => ?_
  by_cases e : j = k
  · subst e; rw [List.getElem?_set_self (List.getElem?_eq_some_iff.1 h).1, h]
  · rw [List.getElem?_set_ne (fun e' => e e'.symm)]
theorem spotCells_thing (l : List (Spot Cx)) (k : Nat) (s : Spot Cx) (x : Cx) (h : l[k]? = some s) :
    spotCells (l.set k { s with thing := x }) = set4 (spotCells l) (k * 6 + 2) x := by
  obtain ⟨h0, h1, _⟩ := spotCells_at l k s h
  rw [spotCells_set l k _ (List.getElem?_eq_some_iff.1 h).1, set_self_at h0, set_self_at h1]
/-- The four cells of a thing, set in memory. -/
abbrev put4 (w : World) (g o : Nat) (x : Cx) : World := (((w.setCell ⟨g, o, none⟩ (.int .u64 x.b)).setCell ⟨g, o + 1, none⟩ (.int .u64 x.p)).setCell ⟨g, o + 2, none⟩ (.slice x.a x.m x.c)).setCell ⟨g, o + 3, none⟩ (.int .i64 x.n)
theorem chg_put4 {S : List Nat} {a w : World} {g : Nat} (h : Chg S a w) (hg : g ∈ S ∨ a.heap.size ≤ g) (o : Nat) (x : Cx) : Chg S a (put4 w g o x) :=
  (((h.setCell (p := ⟨g, o, none⟩) hg _).setCell (p := ⟨g, o + 1, none⟩) hg _).setCell (p := ⟨g, o + 2, none⟩) hg _).setCell (p := ⟨g, o + 3, none⟩) hg _
theorem Row.put4_ {w : World} {e : TypeId} {size n g cap : Nat} {xs : List Value} (h : Row w e size (.slice (some ⟨g, 0, none⟩) n cap) n xs) {o : Nat} (ho : o + 3 < n * size) (x : Cx) :
    Row (put4 w g o x) e size (.slice (some ⟨g, 0, none⟩) n cap) n (set4 xs o x) :=
  (((h.set_ (j := o) (by omega) _).set_ (j := o + 1) (by omega) _).set_ (j := o + 2) (by omega) _).set_ (j := o + 3) ho _
theorem Row.far4 {w : World} {e : TypeId} {size n : Nat} {v : Value} {xs : List Value} (h : Row w e size v n xs) {g : Nat} (hg : g ∉ foot v) (o : Nat) (x : Cx) : Row (Go.Proofs.put4 w g o x) e size v n xs :=
  (((h.far (p := ⟨g, o, none⟩) hg _).far (p := ⟨g, o + 1, none⟩) hg _).far (p := ⟨g, o + 2, none⟩) hg _).far (p := ⟨g, o + 3, none⟩) hg _
theorem Blk.far4 {w : World} {b : Nat} {t : TypeId} {cs : Array Value} (h : Blk w b t cs) {g : Nat} (hg : b ≠ g) (o : Nat) (x : Cx) : Blk (Go.Proofs.put4 w g o x) b t cs :=
  (((h.far (p := ⟨g, o, none⟩) hg _).far (p := ⟨g, o + 1, none⟩) hg _).far (p := ⟨g, o + 2, none⟩) hg _).far (p := ⟨g, o + 3, none⟩) hg _

/-- The table t lies in w at block g; S are its blocks. -/
def TabAt (w : World) (g : Nat) (S : List Nat) (t : Tab Cx) : Prop :=
  ∃ VS VF, Blk w g 74 #[.int .i64 t.size, .int .u64 t.first, VS, VF, .int .i64 t.retired] ∧
    Row w 79 6 VS t.spots.length (spotCells t.spots) ∧ Row w 3 1 VF t.freed.length (numCells t.freed) ∧ S = g :: (foot VS ++ foot VF)
section
variable {w w' : World} {g : Nat} {S : List Nat} {t : Tab Cx}
theorem TabAt.lt (h : TabAt w g S t) : ∀ k ∈ S, k < w.heap.size := by
  obtain ⟨VS, VF, hB, hS, hF, rfl⟩ := h
  intro k hk
  simp at hk
  rcases hk with rfl | hk | hk
  · exact hB.lt
  · exact hS.lt k hk
  · exact hF.lt k hk
theorem TabAt.mem (h : TabAt w g S t) : g ∈ S := by
  obtain ⟨VS, VF, hB, hS, hF, rfl⟩ := h; simp
theorem TabAt.same (h : TabAt w g S t) (hk : ∀ k ∈ S, w'.heap[k]? = w.heap[k]?) : TabAt w' g S t := by
  obtain ⟨VS, VF, hB, hS, hF, rfl⟩ := h
  exact ⟨VS, VF, hB.same (hk g (by simp)), hS.same (fun k h => hk k (by simp [h])), hF.same (fun k h => hk k (by simp [h])), rfl⟩
theorem TabAt.chg {S' : List Nat} (h : TabAt w g S t) (hc : Chg S' w w') (hn : ∀ k ∈ S, k ∉ S') : TabAt w' g S t :=
  h.same fun k hk => hc.block k (h.lt k hk) (hn k hk)
theorem TabAt.quiet (h : TabAt w g S t) (hc : Chg [] w w') : TabAt w' g S t := h.chg hc (fun _ _ hk => by cases hk)
end
/-- What a call on the table at g leaves: the table t'; its blocks are those it had, or new ones; nothing else has turned. -/
def Turns (g : Nat) (S : List Nat) (t' : Tab Cx) (w w' : World) : Prop :=
  ∃ S', TabAt w' g S' t' ∧ (∀ k ∈ S', k ∈ S ∨ w.heap.size ≤ k) ∧ Chg S w w'
theorem Turns.later {g : Nat} {S : List Nat} {t' : Tab Cx} {a b c : World} (h : Turns g S t' a b) (hc : Chg [] b c) : Turns g S t' a c := by
  obtain ⟨S', h1, h2, h3⟩ := h
  exact ⟨S', h1.quiet hc, h2, h3.then hc⟩
theorem Turns.earlier {g : Nat} {S : List Nat} {t' : Tab Cx} {a b c : World} (h : Turns g S t' b c) (hc : Chg [] a b) (hS : ∀ k ∈ S, k < a.heap.size) : Turns g S t' a c := by
  obtain ⟨S', h1, h2, h3⟩ := h
  refine ⟨S', h1, fun k hk => (h2 k hk).imp id (fun h => Nat.le_trans hc.size h), ?_⟩
  exact (Chg.any hc).trans h3 (fun k hk => .inl hk)
theorem Turns.refl {g : Nat} {S : List Nat} {t : Tab Cx} {a b : World} (h : TabAt a g S t) (hc : Chg [] a b) : Turns g S t a b :=
  ⟨S, h.quiet hc, fun k hk => .inl hk, hc.any⟩
theorem Turns.mk {g : Nat} {S : List Nat} {t' : Tab Cx} {w w' : World} {VS VF : Value} (hB : Blk w' g 74 #[.int .i64 t'.size, .int .u64 t'.first, VS, VF, .int .i64 t'.retired])
    (hS : Row w' 79 6 VS t'.spots.length (spotCells t'.spots)) (hF : Row w' 3 1 VF t'.freed.length (numCells t'.freed))
    (hg : g ∈ S) (sS : ∀ k ∈ foot VS, k ∈ S ∨ w.heap.size ≤ k) (sF : ∀ k ∈ foot VF, k ∈ S ∨ w.heap.size ≤ k) (hc : Chg S w w') : Turns g S t' w w' := by
  refine ⟨_, ⟨VS, VF, hB, hS, hF, rfl⟩, fun k hk => ?_, hc⟩
  simp at hk
  rcases hk with rfl | hk | hk
  · exact .inl hg
  · exact sS k hk
  · exact sF k hk
theorem numCells_take (l : List Nat) (k : Nat) : (numCells (l ++ [k])).take (l.length * 1) = numCells l := by
  unfold numCells
  rw [Nat.mul_one, List.map_append, List.take_append_of_le_length (by simp), List.take_of_length_le (by simp)]
/-- The last one of those that are free is taken. -/
theorem Turns.cut {g gf cf n : Nat} {t : Tab Cx} {l : List Nat} {k : Nat} {w : World} {VS : Value}
    (hB : Blk w g 74 #[.int .i64 t.size, .int .u64 t.first, VS, .slice (some ⟨gf, 0, none⟩) n cf, .int .i64 t.retired])
    (hS : Row w 79 6 VS t.spots.length (spotCells t.spots))
    (hF : Row w 3 1 (.slice (some ⟨gf, 0, none⟩) l.length l.length) l.length ((numCells (l ++ [k])).take (l.length * 1))) (hne : gf ≠ g) (hgf : gf < w.heap.size) :
    Turns g (g :: (foot VS ++ foot (.slice (some ⟨gf, 0, none⟩) n cf))) { t with freed := l } w (w.setCell ⟨g, 3, none⟩ (.slice (some ⟨gf, 0, none⟩) l.length l.length)) := by
  rw [numCells_take] at hF
  refine Turns.mk (hB.set_ 3 _) (hS.far (hS.ty hB (by decide)) _) (hF.far (by simpa [foot_some] using fun e => hne e.symm) _) (by simp) (fun k hk => .inl (by simp [hk])) (fun k hk => .inl (by simp [foot_some] at hk ⊢; simp [hk])) ?_
  exact (Chg.refl _ _).setCell (.inl (by simp)) _
theorem foot_own {v : Value} {S : List Nat} {H : Nat} (h : ∀ k ∈ foot v, k ∈ S ∨ H ≤ k) : ∀ k, v.ownBlock = some k → k ∈ S ∨ H ≤ k := fun k hk => h k (row_mem hk)
/-- One spot more: taken for the first time. -/
theorem Turns.grow {g gg cap : Nat} {t : Tab Cx} {s : Spot Cx} {w w1 : World} {VS VF : Value} {o : Obj}
    (hB : Blk w g 74 #[.int .i64 t.size, .int .u64 t.first, VS, VF, .int .i64 t.retired])
    (hS : Row w 79 6 VS t.spots.length (spotCells t.spots)) (hF : Row w 3 1 VF t.freed.length (numCells t.freed))
    (hown : Row w1 79 6 (.slice (some ⟨gg, 0, none⟩) (t.spots.length + 1) cap) (t.spots.length + 1) (spotCells t.spots ++ Spot.cells s))
    (hgrow : ((w.alloc o).drew).grownBy w1 VS.ownBlock) (hat : VS.ownBlock = some gg ∨ gg = w.heap.size + 1) :
    Turns g (g :: (foot VS ++ foot VF)) { t with spots := t.spots ++ [s] } w (w1.setCell ⟨g, 2, none⟩ (.slice (some ⟨gg, 0, none⟩) (t.spots.length + 1) cap)) := by
  have hc : Chg (foot VS) w w1 := ((Chg.refl _ w).alloc o).drew.grown hgrow (fun k hk => .inl (row_mem hk))
  have hg1 : g ∉ foot VS := hS.ty hB (by decide)
  have hg2 : g ∉ foot VF := hF.ty hB (by decide)
  have hgg : gg ≠ g := by
    rcases hat with h | h
    · intro e; exact hg1 (by rw [← e]; exact row_mem h)
    · have := hB.lt; omega
  refine Turns.mk (VS := .slice (some ⟨gg, 0, none⟩) (t.spots.length + 1) cap) ((hB.chg hc hg1).set_ 2 _) ?_ ((hF.chg hc (fun k hk hk' => hS.ty2 hF (by decide) k hk' hk)).far hg2 _) (by simp) ?_ (fun k hk => .inl (by simp [hk])) ?_
  · have hr := hown.far (p := ⟨g, 2, none⟩) (by simpa [foot_some] using fun e => hgg e.symm) (.slice (some ⟨gg, 0, none⟩) (t.spots.length + 1) cap)
    rw [show spotCells t.spots ++ Spot.cells s = spotCells (t.spots ++ [s]) by rw [spotCells_append]; simp [spotCells]] at hr
    simpa using hr
  · intro k hk
    simp [foot_some] at hk
    subst hk
    rcases hat with h | h
    · exact .inl (by simp [row_mem h])
    · exact .inr (by omega)
  · exact (hc.mono (fun k hk => .inl (by simp [hk]))).setCell (.inl (by simp)) _
theorem TabAt.far {w : World} {g : Nat} {S : List Nat} {t : Tab Cx} (h : TabAt w g S t) {p : Addr} (hp : p.block ∉ S) (u : Value) : TabAt (w.setCell p u) g S t :=
  h.same fun k hk => Below.heap_setCell w p u k (fun e => hp (by rw [← e]; exact hk))
/-- The three cells of a spot, written anew. -/
theorem Row.spot {w : World} {gs cs : Nat} {l : List (Spot Cx)} (hS : Row w 79 6 (.slice (some ⟨gs, 0, none⟩) l.length cs) l.length (spotCells l)) {k : Nat} (hk : k < l.length) (s : Spot Cx) :
    Row (put4 ((w.setCell ⟨gs, k * 6, none⟩ (.int .u64 s.gen)).setCell ⟨gs, k * 6 + 1, none⟩ (.bool s.there)) gs (k * 6 + 2) s.thing) 79 6 (.slice (some ⟨gs, 0, none⟩) l.length cs) l.length (spotCells (l.set k s)) := by
  have h := ((hS.set_ (j := k * 6) (by omega) (.int .u64 s.gen)).set_ (j := k * 6 + 1) (by omega) (.bool s.there)).put4_ (o := k * 6 + 2) (by omega) s.thing
  rw [← spotCells_set l k s hk] at h
  exact h
/-- Something is there now. -/
theorem Row.come {w : World} {gs cs : Nat} {l : List (Spot Cx)} (hS : Row w 79 6 (.slice (some ⟨gs, 0, none⟩) l.length cs) l.length (spotCells l)) {k : Nat} {s : Spot Cx} (hs : l[k]? = some s) (x : Cx) :
    Row (put4 (w.setCell ⟨gs, k * 6 + 1, none⟩ (.bool true)) gs (k * 6 + 2) x) 79 6 (.slice (some ⟨gs, 0, none⟩) l.length cs) l.length (spotCells (l.set k ⟨s.gen, true, x⟩)) := by
  have hk := (List.getElem?_eq_some_iff.1 hs).1
  have h := (hS.set_ (j := k * 6 + 1) (by omega) (.bool true)).put4_ (o := k * 6 + 2) (by omega) x
  rw [spotCells_set l k _ hk, set_self_at (spotCells_at l k s hs).1]
  exact h
/-- Another thing is there now. -/
theorem Turns.thing {g gs cs : Nat} {t : Tab Cx} {s : Spot Cx} {w w1 : World} {VF : Value}
    (hB : Blk w g 74 #[.int .i64 t.size, .int .u64 t.first, .slice (some ⟨gs, 0, none⟩) t.spots.length cs, VF, .int .i64 t.retired])
    (hS : Row w 79 6 (.slice (some ⟨gs, 0, none⟩) t.spots.length cs) t.spots.length (spotCells t.spots)) (hF : Row w 3 1 VF t.freed.length (numCells t.freed))
    {k : Nat} (hs : t.spots[k]? = some s) (x : Cx) (hc : Chg [] w w1) :
    Turns g (g :: (foot (.slice (some ⟨gs, 0, none⟩) t.spots.length cs) ++ foot VF)) { t with spots := t.spots.set k { s with thing := x } } w (put4 w1 gs (k * 6 + 2) x) := by
  have hk := (List.getElem?_eq_some_iff.1 hs).1
  have hB1 := hB.chg hc (by simp)
  have hS1 := hS.chg hc (fun _ _ h => by cases h)
  have hF1 := hF.chg hc (fun _ _ h => by cases h)
  have hg : g ≠ gs := by have := hS.ty hB (by decide); simpa [foot_some] using this
  have hfg : gs ∉ foot VF := fun h => hS.ty2 hF (by decide) gs (by simp [foot_some]) h
  have hr := hS1.put4_ (o := k * 6 + 2) (by omega) x
  rw [← spotCells_thing t.spots k s x hs] at hr
  refine Turns.mk (VS := .slice (some ⟨gs, 0, none⟩) t.spots.length cs) (VF := VF) (hB1.far4 hg _ _) (by simpa using hr) (hF1.far4 hfg _ _) (by simp) (fun k hk => .inl (by simp [hk])) (fun k hk => .inl (by simp [hk])) (chg_put4 hc.any (.inl (by simp [foot_some])) _ _)
/-- Nothing is there any more; the place is free. -/
theorem Turns.freed {g gs cs gg cap : Nat} {t : Tab Cx} {s : Spot Cx} {w w1 w2 : World} {VF : Value} {o : Obj}
    (hB : Blk w g 74 #[.int .i64 t.size, .int .u64 t.first, .slice (some ⟨gs, 0, none⟩) t.spots.length cs, VF, .int .i64 t.retired])
    (hS : Row w 79 6 (.slice (some ⟨gs, 0, none⟩) t.spots.length cs) t.spots.length (spotCells t.spots)) (hF : Row w 3 1 VF t.freed.length (numCells t.freed))
    {k : Nat} (hk : k < t.spots.length) (hc : Chg [] w w1)
    (hown : Row w2 3 1 (.slice (some ⟨gg, 0, none⟩) (t.freed.length + 1) cap) (t.freed.length + 1) (numCells t.freed ++ [.int .i64 ((k : Nat) : Int)]))
    (hgrow : (((put4 ((w1.setCell ⟨gs, k * 6, none⟩ (.int .u64 s.gen)).setCell ⟨gs, k * 6 + 1, none⟩ (.bool s.there)) gs (k * 6 + 2) s.thing).alloc o).drew).grownBy w2 VF.ownBlock) (hat : VF.ownBlock = some gg ∨ gg = w1.heap.size + 1) :
    Turns g (g :: (foot (.slice (some ⟨gs, 0, none⟩) t.spots.length cs) ++ foot VF)) { t with spots := t.spots.set k s, freed := t.freed ++ [k] } w (w2.setCell ⟨g, 3, none⟩ (.slice (some ⟨gg, 0, none⟩) (t.freed.length + 1) cap)) := by
  have hB1 := hB.chg hc (by simp)
  have hS1 := hS.chg hc (fun _ _ h => by cases h)
  have hg : g ≠ gs := by have := hS.ty hB (by decide); simpa [foot_some] using this
  have hfg : gs ∉ foot VF := fun h => hS.ty2 hF (by decide) gs (by simp [foot_some]) h
  have hgf : g ∉ foot VF := hF.ty hB (by decide)
  have hcF : Chg (foot VF) ((put4 ((w1.setCell ⟨gs, k * 6, none⟩ (.int .u64 s.gen)).setCell ⟨gs, k * 6 + 1, none⟩ (.bool s.there)) gs (k * 6 + 2) s.thing)) w2 :=
    ((Chg.refl _ _).alloc o).drew.grown hgrow (fun k hk => .inl (row_mem hk))
  have hr := (hS1.spot hk s).chg hcF (by simpa [foot_some] using hfg)
  have hgg : gg ≠ g := by
    rcases hat with h | h
    · intro e; exact hgf (by rw [← e]; exact row_mem h)
    · have := hB.lt; have := hc.size; omega
  refine Turns.mk (VS := .slice (some ⟨gs, 0, none⟩) t.spots.length cs) (VF := .slice (some ⟨gg, 0, none⟩) (t.freed.length + 1) cap) (((((hB1.far hg _).far hg _).far4 hg _ _).chg hcF hgf).set_ 3 _)
    (Row.far (by simpa using hr) (by simpa [foot_some] using hg) _) ?_ (by simp) (fun k hk => .inl (by simp [hk])) ?_ ?_
  · have h := hown.far (p := ⟨g, 3, none⟩) (by simpa [foot_some] using fun e => hgg e.symm) (.slice (some ⟨gg, 0, none⟩) (t.freed.length + 1) cap)
    rw [show numCells t.freed ++ [.int .i64 ((k : Nat) : Int)] = numCells (t.freed ++ [k]) by unfold numCells; simp] at h
    simpa using h
  · intro k hk
    simp [foot_some] at hk
    subst hk
    rcases hat with h | h
    · exact .inl (by simp [row_mem h])
    · have := hc.size; exact .inr (by omega)
  · refine Chg.setCell ?_ (.inl (by simp)) _
    refine Chg.trans ?_ hcF (fun k hk => .inl (by simp [hk]))
    exact chg_put4 ((hc.any.setCell (.inl (by simp [foot_some])) _).setCell (.inl (by simp [foot_some])) _) (.inl (by simp [foot_some])) _ _
/-- What one spot's cells are: for the walk. -/
theorem TabAt.open_spot {w : World} {VS : Value} {l : List (Spot Cx)} (hS : Row w 79 6 VS l.length (spotCells l)) {i : Nat} {s : Spot Cx} (hs : l[i]? = some s) :
    ∃ gs cs, VS = .slice (some ⟨gs, 0, none⟩) l.length cs ∧ foot VS = [gs] ∧ l.length ≤ cs ∧ gs < w.heap.size ∧ i < l.length ∧
      w.cell? ⟨gs, i * 6, none⟩ = some (.int .u64 s.gen) ∧ w.cell? ⟨gs, i * 6 + 1, none⟩ = some (.bool s.there) ∧ w.cell? ⟨gs, i * 6 + 2, none⟩ = some (.int .u64 s.thing.b) ∧ w.cell? ⟨gs, i * 6 + 3, none⟩ = some (.int .u64 s.thing.p) ∧ w.cell? ⟨gs, i * 6 + 4, none⟩ = some (.slice s.thing.a s.thing.m s.thing.c) ∧ w.cell? ⟨gs, i * 6 + 5, none⟩ = some (.int .i64 s.thing.n) ∧
      (∀ j, w.frozen? ⟨gs, j, none⟩ = false) := by
  have hi := (List.getElem?_eq_some_iff.1 hs).1
  obtain ⟨gs, cs, hv, hft, hc, hcell, hfz, hlt⟩ := hS.form (by omega)
  obtain ⟨h0, h1, h2, h3, h4, h5⟩ := spotCells_at l i s hs
  exact ⟨gs, cs, hv, hft, hc, hlt, hi, hcell _ _ h0, hcell _ _ h1, hcell _ _ h2, hcell _ _ h3, hcell _ _ h4, hcell _ _ h5, hfz⟩
/-- What there is where a ref names something. -/
theorem has_form {w : World} {g : Nat} {S : List Nat} {t : Tab Cx} (h : TabAt w g S t) {i q : Int} (hq : t.has i q = true) :
    ∃ (k : Nat) (s : Spot Cx) (gs cs : Nat) (VF : Value), i = (k : Nat) ∧ q = s.gen ∧ t.spots[k]? = some s ∧ s.there = true ∧ k < t.spots.length ∧
      Blk w g 74 #[.int .i64 t.size, .int .u64 t.first, .slice (some ⟨gs, 0, none⟩) t.spots.length cs, VF, .int .i64 t.retired] ∧
      Row w 79 6 (.slice (some ⟨gs, 0, none⟩) t.spots.length cs) t.spots.length (spotCells t.spots) ∧ Row w 3 1 VF t.freed.length (numCells t.freed) ∧
      S = g :: (foot (.slice (some ⟨gs, 0, none⟩) t.spots.length cs) ++ foot VF) := by
  obtain ⟨s, hl, rfl⟩ := has_iff.1 hq
  obtain ⟨j0, hj, hth⟩ := live_iff.1 hl
  obtain ⟨k, rfl⟩ := Int.eq_ofNat_of_zero_le j0
  simp only [Int.toNat_natCast] at hj
  have hk := (List.getElem?_eq_some_iff.1 hj).1
  obtain ⟨VS, VF, hB, hS, hF, rfl⟩ := h
  obtain ⟨gs, cs, rfl, _⟩ := hS.form (by omega)
  exact ⟨k, s, gs, cs, VF, rfl, rfl, hj, hth, hk, hB, hS, hF, rfl⟩

end Go.Proofs
