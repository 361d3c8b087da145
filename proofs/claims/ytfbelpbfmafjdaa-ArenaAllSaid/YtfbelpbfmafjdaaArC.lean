import Derived.Test.YtfbelpbfmafjdaaArB
namespace Go.Proofs
open Go.RowKit
set_option linter.unusedVariables false

/-! ### A table in memory -/
/-- The types' numbers of a table of a's: the table, a spot, int; how a thing is a value. -/
structure Kind (α : Type) where
  tbl : TypeId
  spot : TypeId
  num : TypeId
  val : α → Value
variable {α : Type}
def Spot.cells (V : α → Value) (s : Spot α) : List Value := [.int .u64 s.gen, .bool s.there, V s.thing]
def spotCells (V : α → Value) (l : List (Spot α)) : List Value := l.flatMap (Spot.cells V)
def numCells (l : List Nat) : List Value := l.map fun k => .int .i64 ((k : Nat) : Int)
theorem spotCells_len (V : α → Value) (l : List (Spot α)) : (spotCells V l).length = l.length * 3 := by
  unfold spotCells
  induction l with
  | nil => rfl
  | cons a l ih => rw [List.flatMap_cons, List.length_append, ih]; simp [Spot.cells]; omega
theorem spotCells_append (V : α → Value) (l l' : List (Spot α)) : spotCells V (l ++ l') = spotCells V l ++ spotCells V l' := by unfold spotCells; simp
theorem spotCells_at (V : α → Value) : ∀ (l : List (Spot α)) (k : Nat) (s : Spot α), l[k]? = some s →
    (spotCells V l)[k * 3]? = some (.int .u64 s.gen) ∧ (spotCells V l)[k * 3 + 1]? = some (.bool s.there) ∧ (spotCells V l)[k * 3 + 2]? = some (V s.thing) := by
  intro l
  induction l with
  | nil => intro k s h; simp at h
  | cons a l ih =>
    intro k s h
    unfold spotCells at ih ⊢
    rw [List.flatMap_cons]
    cases k with
    | zero => simp at h; subst h; simp [Spot.cells]
    | succ k =>
      have := ih k s (by simpa using h)
      have e : ∀ j, (Spot.cells V a ++ l.flatMap (Spot.cells V))[(k + 1) * 3 + j]? = (l.flatMap (Spot.cells V))[k * 3 + j]? := fun j => by
        rw [List.getElem?_append_right (by simp [Spot.cells]; omega)]
        simp [Spot.cells]; congr 1; omega
      exact ⟨(e 0).trans this.1, (e 1).trans this.2.1, (e 2).trans this.2.2⟩
theorem spotCells_set (V : α → Value) : ∀ (l : List (Spot α)) (k : Nat) (s : Spot α), k < l.length →
    spotCells V (l.set k s) = (((spotCells V l).set (k * 3) (.int .u64 s.gen)).set (k * 3 + 1) (.bool s.there)).set (k * 3 + 2) (V s.thing) := by
  intro l
  induction l with
  | nil => intro k s h; simp at h
  | cons a l ih =>
    intro k s h
    cases k with
    | zero => simp [spotCells, Spot.cells]
    | succ k =>
      have := ih k s (by simpa using h)
      unfold spotCells at this ⊢
      rw [List.set_cons_succ, List.flatMap_cons, List.flatMap_cons, this]
      have e : ∀ (m : List Value) (j : Nat) (u : Value), (Spot.cells V a ++ m).set ((k + 1) * 3 + j) u = Spot.cells V a ++ m.set (k * 3 + j) u := fun m j u => by
        rw [List.set_append_right _ _ (by simp [Spot.cells]; omega)]
        simp [Spot.cells]; congr 1; omega
      have e0 := fun m u => e m 0 u
      simp only [Nat.add_zero] at e0
      rw [e0, e, e]
theorem spotCells_thing (V : α → Value) (l : List (Spot α)) (k : Nat) (s : Spot α) (x : α) (h : l[k]? = some s) :
    spotCells V (l.set k { s with thing := x }) = (spotCells V l).set (k * 3 + 2) (V x) := by
  obtain ⟨h0, h1, _⟩ := spotCells_at V l k s h
  rw [spotCells_set V l k _ (List.getElem?_eq_some_iff.1 h).1]
  have q0 : (spotCells V l).set (k * 3) (.int .u64 s.gen) = spotCells V l := by
    refine List.ext_getElem? fun j => ?_
    by_cases e : j = k * 3
    · subst e; rw [List.getElem?_set_self (List.getElem?_eq_some_iff.1 h0).1, h0]
    · rw [List.getElem?_set_ne (fun e' => e e'.symm)]
  have q1 : (spotCells V l).set (k * 3 + 1) (.bool s.there) = spotCells V l := by
    refine List.ext_getElem? fun j => ?_
    by_cases e : j = k * 3 + 1
    · subst e; rw [List.getElem?_set_self (List.getElem?_eq_some_iff.1 h1).1, h1]
    · rw [List.getElem?_set_ne (fun e' => e e'.symm)]
  rw [q0, q1]

/-- The table t lies in w at block g; S are its blocks. -/
def TabAt (κ : Kind α) (w : World) (g : Nat) (S : List Nat) (t : Tab α) : Prop :=
  ∃ VS VF, Blk w g κ.tbl #[.int .i64 t.size, .int .u64 t.first, VS, VF, .int .i64 t.retired] ∧
    Row w κ.spot 3 VS t.spots.length (spotCells κ.val t.spots) ∧ Row w κ.num 1 VF t.freed.length (numCells t.freed) ∧ S = g :: (foot VS ++ foot VF)
/-- The types' numbers are three. -/
structure Kind.Fine (κ : Kind α) : Prop where
  ts : κ.tbl ≠ κ.spot
  tn : κ.tbl ≠ κ.num
  sn : κ.spot ≠ κ.num
section
variable {κ : Kind α} {w w' : World} {g : Nat} {S : List Nat} {t : Tab α}
theorem TabAt.lt (h : TabAt κ w g S t) : ∀ k ∈ S, k < w.heap.size := by
  obtain ⟨VS, VF, hB, hS, hF, rfl⟩ := h
  intro k hk
  simp at hk
  rcases hk with rfl | hk | hk
  · exact hB.lt
  · exact hS.lt k hk
  · exact hF.lt k hk
theorem TabAt.mem (h : TabAt κ w g S t) : g ∈ S := by
  obtain ⟨VS, VF, hB, hS, hF, rfl⟩ := h; simp
theorem TabAt.same (h : TabAt κ w g S t) (hk : ∀ k ∈ S, w'.heap[k]? = w.heap[k]?) : TabAt κ w' g S t := by
  obtain ⟨VS, VF, hB, hS, hF, rfl⟩ := h
  exact ⟨VS, VF, hB.same (hk g (by simp)), hS.same (fun k h => hk k (by simp [h])), hF.same (fun k h => hk k (by simp [h])), rfl⟩
theorem TabAt.chg {S' : List Nat} (h : TabAt κ w g S t) (hc : Chg S' w w') (hn : ∀ k ∈ S, k ∉ S') : TabAt κ w' g S t :=
  h.same fun k hk => hc.block k (h.lt k hk) (hn k hk)
theorem TabAt.quiet (h : TabAt κ w g S t) (hc : Chg [] w w') : TabAt κ w' g S t := h.chg hc (fun _ _ hk => by cases hk)
end
/-- What a call on the table at g leaves: the table t'; its blocks are those it had, or new ones; nothing else has turned. -/
def Turns (κ : Kind α) (g : Nat) (S : List Nat) (t' : Tab α) (w w' : World) : Prop :=
  ∃ S', TabAt κ w' g S' t' ∧ (∀ k ∈ S', k ∈ S ∨ w.heap.size ≤ k) ∧ Chg S w w'
theorem Turns.later {κ : Kind α} {g : Nat} {S : List Nat} {t' : Tab α} {a b c : World} (h : Turns κ g S t' a b) (hc : Chg [] b c) : Turns κ g S t' a c := by
  obtain ⟨S', h1, h2, h3⟩ := h
  exact ⟨S', h1.quiet hc, h2, h3.then hc⟩
theorem Turns.earlier {κ : Kind α} {g : Nat} {S : List Nat} {t' : Tab α} {a b c : World} (h : Turns κ g S t' b c) (hc : Chg [] a b) (hS : ∀ k ∈ S, k < a.heap.size) : Turns κ g S t' a c := by
  obtain ⟨S', h1, h2, h3⟩ := h
  refine ⟨S', h1, fun k hk => (h2 k hk).imp id (fun h => Nat.le_trans hc.size h), ?_⟩
  exact (Chg.any hc).trans h3 (fun k hk => .inl hk)
theorem Turns.refl {κ : Kind α} {g : Nat} {S : List Nat} {t : Tab α} {a b : World} (h : TabAt κ a g S t) (hc : Chg [] a b) : Turns κ g S t a b :=
  ⟨S, h.quiet hc, fun k hk => .inl hk, hc.any⟩
theorem Turns.mk {κ : Kind α} {g : Nat} {S : List Nat} {t' : Tab α} {w w' : World} {VS VF : Value} (hB : Blk w' g κ.tbl #[.int .i64 t'.size, .int .u64 t'.first, VS, VF, .int .i64 t'.retired])
    (hS : Row w' κ.spot 3 VS t'.spots.length (spotCells κ.val t'.spots)) (hF : Row w' κ.num 1 VF t'.freed.length (numCells t'.freed))
    (hg : g ∈ S) (sS : ∀ k ∈ foot VS, k ∈ S ∨ w.heap.size ≤ k) (sF : ∀ k ∈ foot VF, k ∈ S ∨ w.heap.size ≤ k) (hc : Chg S w w') : Turns κ g S t' w w' := by
  refine ⟨_, ⟨VS, VF, hB, hS, hF, rfl⟩, fun k hk => ?_, hc⟩
  simp at hk
  rcases hk with rfl | hk | hk
  · exact .inl hg
  · exact sS k hk
  · exact sF k hk
theorem numCells_take (l : List Nat) (k : Nat) : (numCells (l ++ [k])).take (l.length * 1) = numCells l := by
  unfold numCells
  rw [Nat.mul_one, List.map_append, List.take_append_of_le_length (by simp), List.take_of_length_le (by simp)]
/-- The last one of those that are free is taken. -/
theorem Turns.cut {κ : Kind α} (hκ : κ.Fine) {g gf cf n : Nat} {t : Tab α} {l : List Nat} {k : Nat} {w : World} {VS : Value}
    (hB : Blk w g κ.tbl #[.int .i64 t.size, .int .u64 t.first, VS, .slice (some ⟨gf, 0, none⟩) n cf, .int .i64 t.retired])
    (hS : Row w κ.spot 3 VS t.spots.length (spotCells κ.val t.spots))
    (hF : Row w κ.num 1 (.slice (some ⟨gf, 0, none⟩) l.length l.length) l.length ((numCells (l ++ [k])).take (l.length * 1))) (hne : gf ≠ g) (hgf : gf < w.heap.size) :
    Turns κ g (g :: (foot VS ++ foot (.slice (some ⟨gf, 0, none⟩) n cf))) { t with freed := l } w (w.setCell ⟨g, 3, none⟩ (.slice (some ⟨gf, 0, none⟩) l.length l.length)) := by
  rw [numCells_take] at hF
  refine Turns.mk (hB.set_ 3 _) (hS.far (hS.ty hB (Ne.symm hκ.ts)) _) (hF.far (by simpa [foot_some] using fun e => hne e.symm) _) (by simp) (fun k hk => .inl (by simp [hk])) (fun k hk => .inl (by simp [foot_some] at hk ⊢; simp [hk])) ?_
  exact (Chg.refl _ _).setCell (.inl (by simp)) _
theorem foot_own {v : Value} {S : List Nat} {H : Nat} (h : ∀ k ∈ foot v, k ∈ S ∨ H ≤ k) : ∀ k, v.ownBlock = some k → k ∈ S ∨ H ≤ k := fun k hk => h k (row_mem hk)
/-- One spot more: taken for the first time. -/
theorem Turns.grow {κ : Kind α} (hκ : κ.Fine) {g gg cap : Nat} {t : Tab α} {s : Spot α} {w w1 : World} {VS VF : Value} {o : Obj}
    (hB : Blk w g κ.tbl #[.int .i64 t.size, .int .u64 t.first, VS, VF, .int .i64 t.retired])
    (hS : Row w κ.spot 3 VS t.spots.length (spotCells κ.val t.spots)) (hF : Row w κ.num 1 VF t.freed.length (numCells t.freed))
    (hown : Row w1 κ.spot 3 (.slice (some ⟨gg, 0, none⟩) (t.spots.length + 1) cap) (t.spots.length + 1) (spotCells κ.val t.spots ++ Spot.cells κ.val s))
    (hgrow : ((w.alloc o).drew).grownBy w1 VS.ownBlock) (hat : VS.ownBlock = some gg ∨ gg = w.heap.size + 1) :
    Turns κ g (g :: (foot VS ++ foot VF)) { t with spots := t.spots ++ [s] } w (w1.setCell ⟨g, 2, none⟩ (.slice (some ⟨gg, 0, none⟩) (t.spots.length + 1) cap)) := by
  have hc : Chg (foot VS) w w1 := ((Chg.refl _ w).alloc o).drew.grown hgrow (fun k hk => .inl (row_mem hk))
  have hg1 : g ∉ foot VS := hS.ty hB (Ne.symm hκ.ts)
  have hg2 : g ∉ foot VF := hF.ty hB (Ne.symm hκ.tn)
  have hgg : gg ≠ g := by
    rcases hat with h | h
    · intro e; exact hg1 (by rw [← e]; exact row_mem h)
    · have := hB.lt; omega
  refine Turns.mk (VS := .slice (some ⟨gg, 0, none⟩) (t.spots.length + 1) cap) ((hB.chg hc hg1).set_ 2 _) ?_ ((hF.chg hc (fun k hk hk' => hS.ty2 hF hκ.sn k hk' hk)).far hg2 _) (by simp) ?_ (fun k hk => .inl (by simp [hk])) ?_
  · have hr := hown.far (p := ⟨g, 2, none⟩) (by simpa [foot_some] using fun e => hgg e.symm) (.slice (some ⟨gg, 0, none⟩) (t.spots.length + 1) cap)
    rw [show spotCells κ.val t.spots ++ Spot.cells κ.val s = spotCells κ.val (t.spots ++ [s]) by rw [spotCells_append]; simp [spotCells]] at hr
    simpa using hr
  · intro k hk
    simp [foot_some] at hk
    subst hk
    rcases hat with h | h
    · exact .inl (by simp [row_mem h])
    · exact .inr (by omega)
  · exact (hc.mono (fun k hk => .inl (by simp [hk]))).setCell (.inl (by simp)) _
theorem TabAt.far {κ : Kind α} {w : World} {g : Nat} {S : List Nat} {t : Tab α} (h : TabAt κ w g S t) {p : Addr} (hp : p.block ∉ S) (u : Value) : TabAt κ (w.setCell p u) g S t :=
  h.same fun k hk => Below.heap_setCell w p u k (fun e => hp (by rw [← e]; exact hk))
theorem set_self_at {β : Type} {l : List β} {k : Nat} {x : β} (h : l[k]? = some x) : l.set k x = l := by
  refine List.ext_getElem? fun j => ?_
  by_cases e : j = k
  · subst e; rw [List.getElem?_set_self (List.getElem?_eq_some_iff.1 h).1, h]
  · rw [List.getElem?_set_ne (fun e' => e e'.symm)]
/-- The three cells of a spot, written anew. -/
theorem Row.spot {κ : Kind α} {w : World} {gs cs : Nat} {l : List (Spot α)} (hS : Row w κ.spot 3 (.slice (some ⟨gs, 0, none⟩) l.length cs) l.length (spotCells κ.val l)) {k : Nat} (hk : k < l.length) (s : Spot α) :
    Row (((w.setCell ⟨gs, k * 3, none⟩ (.int .u64 s.gen)).setCell ⟨gs, k * 3 + 1, none⟩ (.bool s.there)).setCell ⟨gs, k * 3 + 2, none⟩ (κ.val s.thing)) κ.spot 3 (.slice (some ⟨gs, 0, none⟩) l.length cs) l.length (spotCells κ.val (l.set k s)) := by
  have h := ((hS.set_ (j := k * 3) (by omega) (.int .u64 s.gen)).set_ (j := k * 3 + 1) (by omega) (.bool s.there)).set_ (j := k * 3 + 2) (by omega) (κ.val s.thing)
  rw [← spotCells_set κ.val l k s hk] at h
  exact h
/-- Something is there now. -/
theorem Row.come {κ : Kind α} {w : World} {gs cs : Nat} {l : List (Spot α)} (hS : Row w κ.spot 3 (.slice (some ⟨gs, 0, none⟩) l.length cs) l.length (spotCells κ.val l)) {k : Nat} {s : Spot α} (hs : l[k]? = some s) (x : α) :
    Row ((w.setCell ⟨gs, k * 3 + 1, none⟩ (.bool true)).setCell ⟨gs, k * 3 + 2, none⟩ (κ.val x)) κ.spot 3 (.slice (some ⟨gs, 0, none⟩) l.length cs) l.length (spotCells κ.val (l.set k ⟨s.gen, true, x⟩)) := by
  have hk := (List.getElem?_eq_some_iff.1 hs).1
  have h := (hS.set_ (j := k * 3 + 1) (by omega) (.bool true)).set_ (j := k * 3 + 2) (by omega) (κ.val x)
  rw [spotCells_set κ.val l k _ hk, set_self_at (spotCells_at κ.val l k s hs).1]
  exact h
/-- Another thing is there now. -/
theorem Turns.thing {κ : Kind α} (hκ : κ.Fine) {g gs cs : Nat} {t : Tab α} {s : Spot α} {w w1 : World} {VF : Value}
    (hB : Blk w g κ.tbl #[.int .i64 t.size, .int .u64 t.first, .slice (some ⟨gs, 0, none⟩) t.spots.length cs, VF, .int .i64 t.retired])
    (hS : Row w κ.spot 3 (.slice (some ⟨gs, 0, none⟩) t.spots.length cs) t.spots.length (spotCells κ.val t.spots)) (hF : Row w κ.num 1 VF t.freed.length (numCells t.freed))
    {k : Nat} (hs : t.spots[k]? = some s) (x : α) (hc : Chg [] w w1) :
    Turns κ g (g :: (foot (.slice (some ⟨gs, 0, none⟩) t.spots.length cs) ++ foot VF)) { t with spots := t.spots.set k { s with thing := x } } w (w1.setCell ⟨gs, k * 3 + 2, none⟩ (κ.val x)) := by
  have hk := (List.getElem?_eq_some_iff.1 hs).1
  have hB1 := hB.chg hc (by simp)
  have hS1 := hS.chg hc (fun _ _ h => by cases h)
  have hF1 := hF.chg hc (fun _ _ h => by cases h)
  have hg : g ≠ gs := by have := hS.ty hB (Ne.symm hκ.ts); simpa [foot_some] using this
  have hfg : gs ∉ foot VF := fun h => hS.ty2 hF hκ.sn gs (by simp [foot_some]) h
  have hr := hS1.set_ (j := k * 3 + 2) (by omega) (κ.val x)
  rw [← spotCells_thing κ.val t.spots k s x hs] at hr
  refine Turns.mk (VS := .slice (some ⟨gs, 0, none⟩) t.spots.length cs) (VF := VF) (hB1.far hg _) (by simpa using hr) (hF1.far hfg _) (by simp) (fun k hk => .inl (by simp [hk])) (fun k hk => .inl (by simp [hk])) (hc.any.setCell (.inl (by simp [foot_some])) _)
/-- Nothing is there any more, and nothing comes there any more. -/
theorem Turns.retire {κ : Kind α} (hκ : κ.Fine) {g gs cs : Nat} {t : Tab α} {s : Spot α} {w w1 : World} {VF : Value}
    (hB : Blk w g κ.tbl #[.int .i64 t.size, .int .u64 t.first, .slice (some ⟨gs, 0, none⟩) t.spots.length cs, VF, .int .i64 t.retired])
    (hS : Row w κ.spot 3 (.slice (some ⟨gs, 0, none⟩) t.spots.length cs) t.spots.length (spotCells κ.val t.spots)) (hF : Row w κ.num 1 VF t.freed.length (numCells t.freed))
    {k : Nat} (hk : k < t.spots.length) (r : Int) (hc : Chg [] w w1) :
    Turns κ g (g :: (foot (.slice (some ⟨gs, 0, none⟩) t.spots.length cs) ++ foot VF)) { t with spots := t.spots.set k s, retired := r } w
      ((((w1.setCell ⟨gs, k * 3, none⟩ (.int .u64 s.gen)).setCell ⟨gs, k * 3 + 1, none⟩ (.bool s.there)).setCell ⟨gs, k * 3 + 2, none⟩ (κ.val s.thing)).setCell ⟨g, 4, none⟩ (.int .i64 r)) := by
  have hB1 := hB.chg hc (by simp)
  have hS1 := hS.chg hc (fun _ _ h => by cases h)
  have hF1 := hF.chg hc (fun _ _ h => by cases h)
  have hg : g ≠ gs := by have := hS.ty hB (Ne.symm hκ.ts); simpa [foot_some] using this
  have hfg : gs ∉ foot VF := fun h => hS.ty2 hF hκ.sn gs (by simp [foot_some]) h
  have hgf : g ∉ foot VF := hF.ty hB (Ne.symm hκ.tn)
  have hr := hS1.spot hk s
  refine Turns.mk (VS := .slice (some ⟨gs, 0, none⟩) t.spots.length cs) (VF := VF) ((((hB1.far hg _).far hg _).far hg _).set_ 4 _) (Row.far (by simpa using hr) (by simpa [foot_some] using hg) _) ((((hF1.far hfg _).far hfg _).far hfg _).far hgf _) (by simp)
    (fun k hk => .inl (by simp [hk])) (fun k hk => .inl (by simp [hk])) ?_
  exact (((hc.any.setCell (.inl (by simp [foot_some])) _).setCell (.inl (by simp [foot_some])) _).setCell (.inl (by simp [foot_some])) _).setCell (.inl (by simp)) _
/-- Nothing is there any more; the place is free. -/
theorem Turns.freed {κ : Kind α} (hκ : κ.Fine) {g gs cs gg cap : Nat} {t : Tab α} {s : Spot α} {w w1 w2 : World} {VF : Value} {o : Obj}
    (hB : Blk w g κ.tbl #[.int .i64 t.size, .int .u64 t.first, .slice (some ⟨gs, 0, none⟩) t.spots.length cs, VF, .int .i64 t.retired])
    (hS : Row w κ.spot 3 (.slice (some ⟨gs, 0, none⟩) t.spots.length cs) t.spots.length (spotCells κ.val t.spots)) (hF : Row w κ.num 1 VF t.freed.length (numCells t.freed))
    {k : Nat} (hk : k < t.spots.length) (hc : Chg [] w w1)
    (hown : Row w2 κ.num 1 (.slice (some ⟨gg, 0, none⟩) (t.freed.length + 1) cap) (t.freed.length + 1) (numCells t.freed ++ [.int .i64 ((k : Nat) : Int)]))
    (hgrow : (((((w1.setCell ⟨gs, k * 3, none⟩ (.int .u64 s.gen)).setCell ⟨gs, k * 3 + 1, none⟩ (.bool s.there)).setCell ⟨gs, k * 3 + 2, none⟩ (κ.val s.thing)).alloc o).drew).grownBy w2 VF.ownBlock) (hat : VF.ownBlock = some gg ∨ gg = w1.heap.size + 1) :
    Turns κ g (g :: (foot (.slice (some ⟨gs, 0, none⟩) t.spots.length cs) ++ foot VF)) { t with spots := t.spots.set k s, freed := t.freed ++ [k] } w (w2.setCell ⟨g, 3, none⟩ (.slice (some ⟨gg, 0, none⟩) (t.freed.length + 1) cap)) := by
  have hB1 := hB.chg hc (by simp)
  have hS1 := hS.chg hc (fun _ _ h => by cases h)
  have hg : g ≠ gs := by have := hS.ty hB (Ne.symm hκ.ts); simpa [foot_some] using this
  have hfg : gs ∉ foot VF := fun h => hS.ty2 hF hκ.sn gs (by simp [foot_some]) h
  have hgf : g ∉ foot VF := hF.ty hB (Ne.symm hκ.tn)
  have hcF : Chg (foot VF) ((((w1.setCell ⟨gs, k * 3, none⟩ (.int .u64 s.gen)).setCell ⟨gs, k * 3 + 1, none⟩ (.bool s.there)).setCell ⟨gs, k * 3 + 2, none⟩ (κ.val s.thing))) w2 :=
    ((Chg.refl _ _).alloc o).drew.grown hgrow (fun k hk => .inl (row_mem hk))
  have hr := (hS1.spot hk s).chg hcF (by simpa [foot_some] using hfg)
  have hgg : gg ≠ g := by
    rcases hat with h | h
    · intro e; exact hgf (by rw [← e]; exact row_mem h)
    · have := hB.lt; have := hc.size; omega
  refine Turns.mk (VS := .slice (some ⟨gs, 0, none⟩) t.spots.length cs) (VF := .slice (some ⟨gg, 0, none⟩) (t.freed.length + 1) cap) (((((hB1.far hg _).far hg _).far hg _).chg hcF hgf).set_ 3 _)
    (Row.far (by simpa using hr) (by simpa [foot_some] using hg) _) ?_ (by simp) (fun k hk => .inl (by simp [hk])) ?_ ?_
  · have h := hown.far (p := ⟨g, 3, none⟩) (by simpa [foot_some] using fun e => hgg e.symm) (.slice (some ⟨gg, 0, none⟩) (t.freed.length + 1) cap)
    rw [show numCells t.freed ++ [.int .i64 ((k : Nat) : Int)] = numCells (t.freed ++ [k]) by unfold numCells; simp] at h
    simpa using h
  · intro k hk
    simp [foot_some] at hk
    subst hk
    rcases hat with h | h
    · exact .inl (by simp [row_mem h])
    · have := hc.size; exact .inr (by omega)
  · refine Chg.setCell ?_ (.inl (by simp)) _
    refine Chg.trans ?_ hcF (fun k hk => .inl (by simp [hk]))
    exact ((hc.any.setCell (.inl (by simp [foot_some])) _).setCell (.inl (by simp [foot_some])) _).setCell (.inl (by simp [foot_some])) _
/-- What one spot's cells are: for the walk. -/
theorem TabAt.open_spot {κ : Kind α} {w : World} {VS : Value} {l : List (Spot α)} (hS : Row w κ.spot 3 VS l.length (spotCells κ.val l)) {i : Nat} {s : Spot α} (hs : l[i]? = some s) :
    ∃ gs cs, VS = .slice (some ⟨gs, 0, none⟩) l.length cs ∧ foot VS = [gs] ∧ l.length ≤ cs ∧ gs < w.heap.size ∧ i < l.length ∧
      w.cell? ⟨gs, i * 3, none⟩ = some (.int .u64 s.gen) ∧ w.cell? ⟨gs, i * 3 + 1, none⟩ = some (.bool s.there) ∧ w.cell? ⟨gs, i * 3 + 2, none⟩ = some (κ.val s.thing) ∧
      (∀ j, w.frozen? ⟨gs, j, none⟩ = false) := by
  have hi := (List.getElem?_eq_some_iff.1 hs).1
  obtain ⟨gs, cs, hv, hft, hc, hcell, hfz, hlt⟩ := hS.form (by omega)
  obtain ⟨h0, h1, h2⟩ := spotCells_at κ.val l i s hs
  exact ⟨gs, cs, hv, hft, hc, hlt, hi, hcell _ _ h0, hcell _ _ h1, hcell _ _ h2, hfz⟩
/-- What there is where a ref names something. -/
theorem has_form {κ : Kind α} {w : World} {g : Nat} {S : List Nat} {t : Tab α} (h : TabAt κ w g S t) {i q : Int} (hq : t.has i q = true) :
    ∃ (k : Nat) (s : Spot α) (gs cs : Nat) (VF : Value), i = (k : Nat) ∧ q = s.gen ∧ t.spots[k]? = some s ∧ s.there = true ∧ k < t.spots.length ∧
      Blk w g κ.tbl #[.int .i64 t.size, .int .u64 t.first, .slice (some ⟨gs, 0, none⟩) t.spots.length cs, VF, .int .i64 t.retired] ∧
      Row w κ.spot 3 (.slice (some ⟨gs, 0, none⟩) t.spots.length cs) t.spots.length (spotCells κ.val t.spots) ∧ Row w κ.num 1 VF t.freed.length (numCells t.freed) ∧
      S = g :: (foot (.slice (some ⟨gs, 0, none⟩) t.spots.length cs) ++ foot VF) := by
  obtain ⟨s, hl, rfl⟩ := has_iff.1 hq
  obtain ⟨j0, hj, hth⟩ := live_iff.1 hl
  obtain ⟨k, rfl⟩ := Int.eq_ofNat_of_zero_le j0
  simp only [Int.toNat_natCast] at hj
  have hk := (List.getElem?_eq_some_iff.1 hj).1
  obtain ⟨VS, VF, hB, hS, hF, rfl⟩ := h
  obtain ⟨gs, cs, rfl, _⟩ := hS.form (by omega)
  exact ⟨k, s, gs, cs, VF, rfl, rfl, hj, hth, hk, hB, hS, hF, rfl⟩

end Go.Proofs
