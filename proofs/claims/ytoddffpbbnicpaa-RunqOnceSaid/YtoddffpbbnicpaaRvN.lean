import Derived.Test.YtoddffpbbnicpaaRvL
namespace Go.Proofs
open Go.RowKit
set_option linter.unusedVariables false

/-! ### Who went, and who is there, plainly -/
theorem put_perm (M : Nat) (L : List Int) (N : Option Int) (x : Int) : (putS M L x ++ (N.toList ++ putL M L x)).Perm (x :: (N.toList ++ L)) := by
  unfold putS putL
  by_cases h : L.length < M
  · rw [if_pos h, if_pos h, List.nil_append, ← List.append_assoc]
    exact List.perm_append_comm
  · rw [if_neg h, if_neg h, List.append_assoc, List.singleton_append]
    refine List.perm_middle.trans (List.Perm.cons x ?_)
    rw [← List.append_assoc]
    refine (List.Perm.append_right _ List.perm_append_comm).trans ?_
    rw [List.append_assoc, List.take_append_drop]
theorem kick_perm (M : Nat) (L : List Int) (N : Option Int) : (kickS M L N ++ kickL M L N).Perm (N.toList ++ L) := by
  cases N with
  | none => exact List.Perm.refl _
  | some y => exact put_perm M L none y
theorem putNext_perm (M : Nat) (L : List Int) (N : Option Int) (x : Int) : (kickS M L N ++ ((some x : Option Int).toList ++ kickL M L N)).Perm (x :: (N.toList ++ L)) := by
  simp only [Option.toList_some, List.singleton_append]
  exact List.perm_middle.trans ((kick_perm M L N).cons x)
theorem take_perm {M : Nat} {L : List Int} {N : Option Int} {z : Int} {K : List Int} (h : kickL M L N = z :: K) : ((kickS M L N ++ [z]) ++ ((none : Option Int).toList ++ K)).Perm (N.toList ++ L) := by
  have := kick_perm M L N
  rw [h] at this
  simpa using this
theorem remove_perm {L : List Int} {N : Option Int} {x : Int} (h : hasQ L N x = true) : ([x] ++ ((remN N x).toList ++ remL L N x)).Perm (N.toList ++ L) := by
  unfold remN remL hasQ at *
  by_cases hx : N = some x
  · rw [if_pos hx, if_pos hx, hx]
    simp
  · rw [if_neg hx, if_neg hx]
    rw [decide_eq_false hx, Bool.false_or, decide_eq_true_iff] at h
    have h1 := findAt_mem h
    obtain ⟨h2, h3⟩ := List.getElem?_eq_some_iff.1 h1
    have hp : (x :: L.eraseIdx (findAt x L)).Perm L := by
      rw [List.eraseIdx_eq_take_drop_succ]
      refine List.perm_middle.symm.trans ?_
      have e : L.drop (findAt x L) = x :: L.drop (findAt x L + 1) := by rw [List.drop_eq_getElem_cons h2, h3]
      rw [← e, List.take_append_drop]
    rw [List.singleton_append]
    exact List.perm_middle.symm.trans ((List.Perm.refl _).append hp)
theorem remove_perm_no {L : List Int} {N : Option Int} {x : Int} (h : hasQ L N x = false) : ((remN N x).toList ++ remL L N x).Perm (N.toList ++ L) := by
  unfold remN remL hasQ at *
  rw [Bool.or_eq_false_iff, decide_eq_false_iff_not, decide_eq_false_iff_not] at h
  rw [if_neg h.1, if_neg h.1, eraseIdx_none h.2]
/-! ### The list of who is there -/
def thL (B : List Int) : List Int := (List.range 100).map (fun g : Nat => if (g : Int) ∈ B then 1 else 0)
theorem thL_len (B : List Int) : (thL B).length = 100 := by simp [thL]
theorem thL_at (B : List Int) {g : Nat} (h : g < 100) : (thL B)[g]? = some (if (g : Int) ∈ B then 1 else 0) := by
  unfold thL
  rw [List.getElem?_map, List.getElem?_range h]; rfl
theorem thL_congr {B C : List Int} (h : ∀ y, y ∈ B ↔ y ∈ C) : thL B = thL C := by
  unfold thL
  refine List.map_congr_left fun g _ => ?_
  by_cases h1 : (g : Int) ∈ B
  · rw [if_pos h1, if_pos ((h _).1 h1)]
  · rw [if_neg h1, if_neg (fun h2 => h1 ((h _).2 h2))]
theorem thL_perm {B C : List Int} (h : B.Perm C) : thL B = thL C := thL_congr fun y => h.mem_iff
theorem thL_nil : thL [] = List.replicate 100 0 := by
  refine List.ext_getElem? fun k => ?_
  by_cases hk : k < 100
  · rw [thL_at _ hk, List.getElem?_replicate, if_pos hk, if_neg (by simp)]
  · rw [List.getElem?_eq_none (by rw [thL_len]; omega), List.getElem?_eq_none (by simp; omega)]
theorem thL_set1 (B : List Int) {x : Nat} (h : x < 100) : (thL B).set x 1 = thL ((x : Int) :: B) := by
  refine List.ext_getElem? fun k => ?_
  by_cases hk : k < 100
  · rw [thL_at _ hk]
    by_cases e : k = x
    · subst e
      rw [List.getElem?_set_self (by rw [thL_len]; omega)]; simp
    · rw [List.getElem?_set_ne (fun e' => e e'.symm), thL_at _ hk]
      have : ((k : Int) ∈ (x : Int) :: B) ↔ (k : Int) ∈ B := by simp; omega
      by_cases h1 : (k : Int) ∈ B
      · rw [if_pos h1, if_pos (this.2 h1)]
      · rw [if_neg h1, if_neg (fun h2 => h1 (this.1 h2))]
  · rw [List.getElem?_eq_none (by simp [thL_len]; omega), List.getElem?_eq_none (by rw [thL_len]; omega)]
theorem thL_set0 {B : List Int} {x : Nat} (h : x < 100) (hx : (x : Int) ∉ B) : (thL ((x : Int) :: B)).set x 0 = thL B := by
  refine List.ext_getElem? fun k => ?_
  by_cases hk : k < 100
  · rw [thL_at _ hk]
    by_cases e : k = x
    · subst e
      rw [List.getElem?_set_self (by rw [thL_len]; omega), if_neg hx]
    · rw [List.getElem?_set_ne (fun e' => e e'.symm), thL_at _ hk]
      have : ((k : Int) ∈ (x : Int) :: B) ↔ (k : Int) ∈ B := by simp; omega
      by_cases h1 : (k : Int) ∈ B
      · rw [if_pos h1, if_pos (this.2 h1)]
      · rw [if_neg h1, if_neg (fun h2 => h1 (this.1 h2))]
  · rw [List.getElem?_eq_none (by simp [thL_len]; omega), List.getElem?_eq_none (by rw [thL_len]; omega)]
/-- How many of the first k are there. -/
def cnt (B : List Int) : Nat → Nat
  | 0 => 0
  | k + 1 => cnt B k + (if (k : Int) ∈ B then 1 else 0)
theorem cnt_congr {B C : List Int} {k : Nat} (h : ∀ j : Nat, j < k → ((j : Int) ∈ B ↔ (j : Int) ∈ C)) : cnt B k = cnt C k := by
  induction k with
  | zero => rfl
  | succ k ih =>
    unfold cnt
    rw [ih (fun j hj => h j (by omega))]
    have := h k (by omega)
    by_cases h1 : (k : Int) ∈ B
    · rw [if_pos h1, if_pos (this.1 h1)]
    · rw [if_neg h1, if_neg (fun h2 => h1 (this.2 h2))]
theorem cnt_all {k : Nat} : ∀ {B : List Int}, B.Nodup → (∀ y ∈ B, 0 ≤ y ∧ y < k) → cnt B k = B.length := by
  induction k with
  | zero =>
    intro B _ h
    cases B with
    | nil => rfl
    | cons y l => have := h y (by simp); omega
  | succ k ih =>
    intro B hn h
    unfold cnt
    by_cases h1 : (k : Int) ∈ B
    · rw [if_pos h1]
      have e1 : cnt B k = cnt (B.erase (k : Int)) k := cnt_congr fun j hj => by
        rw [hn.mem_erase_iff]
        exact ⟨fun h2 => ⟨by omega, h2⟩, fun h2 => h2.2⟩
      rw [e1, ih (hn.erase _) (fun y hy => by
        rw [hn.mem_erase_iff] at hy
        have := h y hy.2
        omega), List.length_erase_of_mem h1]
      have := List.length_pos_of_mem h1
      omega
    · rw [if_neg h1, ih hn (fun y hy => by
        have := h y hy
        have : y ≠ (k : Int) := fun e => h1 (e ▸ hy)
        omega)]
      rfl
theorem cnt_le (B : List Int) (k : Nat) : cnt B k ≤ k := by
  induction k with
  | zero => exact Nat.le_refl _
  | succ k ih => unfold cnt; split <;> omega
/-! ### What holds in the midst of an act -/
structure GoneK (w0 w : World) (q g h M t : Nat) (v : Value) (X L : List Int) (N : Option Int) (k : Nat) : Prop where
  queue : QueueAt w q g h M L N
  row : Row w 3 1 (.slice (some ⟨t, 0, none⟩) 100 100) 100 (ints (thL (X.drop k ++ (N.toList ++ L))))
  new : ∀ j ∈ [q, g, h], w0.heap.size ≤ j
  newt : w0.heap.size ≤ t
  apart : t ∉ [q, g, h]
  chg : Chg [] w0 w
  rd : Rd w v X
  far : t ∉ foot v
  nd : (X.drop k ++ (N.toList ++ L)).Nodup
  in0 : ∀ y ∈ X.drop k ++ (N.toList ++ L), 0 ≤ y ∧ y < 100
/-- Between two acts. -/
def OnceB (w0 w : World) (q g h M t : Nat) (L : List Int) (N : Option Int) : Prop := GoneK w0 w q g h M t (.slice none 0 0) [] L N 0
section
variable {w0 w wa wb w1 w2 w3 : World} {q g h M t k : Nat} {v v' : Value} {X L L' : List Int} {N N' : Option Int} {pre : List Int}
theorem GoneK.quiet (H : GoneK w0 w q g h M t v X L N k) (hc : Chg [] w w1) : GoneK w0 w1 q g h M t v X L N k :=
  ⟨H.queue.quiet hc, H.row.chg hc (fun _ _ h => by cases h), H.new, H.newt, H.apart, H.chg.then hc, H.rd.quiet hc, H.far, H.nd, H.in0⟩
theorem GoneK.make (hq : QueueAt wa q g h M L N) (hrow : Row wa 3 1 (.slice (some ⟨t, 0, none⟩) 100 100) 100 (ints (thL pre))) (hnew : ∀ j ∈ [q, g, h], w0.heap.size ≤ j) (hnt : w0.heap.size ≤ t) (hap : t ∉ [q, g, h]) (hc : Chg [] w0 wa)
    (hT : QTurn q g h M v X L' N' wa wb) (hp : (X ++ (N'.toList ++ L')).Perm pre) (hnd : pre.Nodup) (hin : ∀ y ∈ pre, 0 ≤ y ∧ y < 100) : GoneK w0 wb q g h M t v X L' N' 0 := by
  obtain ⟨t1, t2, t3, t4⟩ := id hT
  have hlt := hrow.lt t (by simp [foot_some])
  refine ⟨t1, ?_, hnew, hnt, hap, hc.trans t4 (fun j hj => .inr (hnew j hj)), hT.rd, fun hm => by have := t3 t hm; omega, by rw [List.drop_zero]; exact hp.nodup_iff.2 hnd, fun y hy => hin y (by rw [List.drop_zero] at hy; exact hp.mem_iff.1 hy)⟩
  rw [List.drop_zero, thL_perm hp]
  exact hrow.chg t4 (fun j hj hm => by simp [foot_some] at hj; subst hj; exact hap hm)
theorem QTurn.append {z : Int} (H : QTurn q g h M v X L' N' w w1) (hlt : ∀ j ∈ [q, g, h], j < w.heap.size) (hc : Chg [] w1 w2) (hr : Row w3 3 1 v' (X ++ [z]).length (ints (X ++ [z]))) (hg : w2.grownBy w3 v.ownBlock) (hf : ∀ j ∈ foot v', j ∈ foot v ∨ w2.heap.size ≤ j) : QTurn q g h M v' (X ++ [z]) L' N' w w3 := by
  obtain ⟨t1, t2, t3, t4⟩ := H
  have z1 := t4.size
  have z2 := hc.size
  have e3 : Chg (foot v) w1 w3 := (Chg.any hc).grown hg (fun j hj => .inl (row_mem hj))
  refine ⟨t1.chg e3 (fun j hj hm => by have := t3 j hm; have := hlt j hj; omega), hr, fun j hj => ?_, t4.trans e3 (fun j hj => .inr (t3 j hj))⟩
  rcases hf j hj with h9 | h9
  · exact t3 j h9
  · omega
theorem QTurn.one {x : Int} (hq : QueueAt w1 q g h M L' N') (hc : Chg [q, g, h] w w1) : QTurn q g h M (.slice (some ⟨w1.heap.size, 0, none⟩) 1 1) [x] L' N' w (w1.alloc (.cells #[.int .i64 x] 3)) :=
  ⟨hq.quiet ((Chg.refl _ _).alloc _), ⟨rfl, .inr ⟨_, 1, _, rfl, Blk.new _ _ _, Nat.le_refl _, by unfold maxLen; omega, by simp, rfl⟩⟩, fun j hj => by simp [foot_some] at hj; have := hc.size; omega, hc.alloc _⟩
/-- One of those who went is told off. -/
theorem GoneK.step {y : Nat} (H : GoneK w0 w q g h M t v X L N k) (hk : k < X.length) (hy : X[k]? = some (y : Int)) : GoneK w0 (w.setCell ⟨t, y, none⟩ (.int .i64 0)) q g h M t v X L N (k + 1) := by
  have hd : X.drop k = (y : Int) :: X.drop (k + 1) := by
    obtain ⟨h1, h2⟩ := List.getElem?_eq_some_iff.1 hy
    rw [List.drop_eq_getElem_cons h1, h2]
  have hnd := H.nd
  have hin := H.in0
  have hrow := H.row
  rw [hd, List.cons_append] at hnd hin hrow
  have hy0 := hin (y : Int) (by simp)
  rw [List.nodup_cons] at hnd
  have hset := hrow.set_ (j := y) (by omega) (.int .i64 0)
  rw [← ints_set, thL_set0 (by omega) hnd.1] at hset
  have e1 : Chg [t] w (w.setCell ⟨t, y, none⟩ (.int .i64 0)) := (Chg.refl _ _).setCell (p := ⟨t, y, none⟩) (.inl (by simp)) _
  exact ⟨H.queue.chg e1 (fun j hj hm => by simp at hm; subst hm; exact H.apart hj), hset, H.new, H.newt, H.apart, H.chg.trans e1 (fun j hj => .inr (by simp at hj; subst hj; exact H.newt)), H.rd.chg e1 (fun j hj hm => by simp at hm; subst hm; exact H.far hj), H.far, hnd.2, fun z hz => hin z (List.mem_cons_of_mem _ hz)⟩
theorem GoneK.cell (H : GoneK w0 w q g h M t v X L N k) (j : Nat) (hj : j < 100) : w.cell? ⟨t, j, none⟩ = some (.int .i64 (if (j : Int) ∈ X.drop k ++ (N.toList ++ L) then 1 else 0)) ∧ w.frozen? ⟨t, j, none⟩ = false := by
  obtain ⟨g', c', hv, _, _, hcell, hfz, _⟩ := H.row.form (by omega)
  simp only [Value.slice.injEq, Option.some.injEq, Addr.mk.injEq] at hv
  obtain ⟨⟨rfl, _⟩, _, rfl⟩ := hv
  exact ⟨hcell j _ (ints_at (thL_at _ hj)), hfz j⟩
theorem GoneK.end_ (H : GoneK w0 w q g h M t v X L N X.length) : OnceB w0 w q g h M t L N := by
  have h1 := H.row
  have h2 := H.nd
  have h3 := H.in0
  rw [List.drop_length, List.nil_append] at h1 h2 h3
  exact ⟨H.queue, h1, H.new, H.newt, H.apart, H.chg, Rd.nil _, (fun h => by cases h), h2, h3⟩
/-- One that comes is written down. -/
theorem OnceB.comes {x : Nat} (H : OnceB w0 w q g h M t L N) (hx : x < 100) (hc : Chg [] w w1) : QueueAt (w1.setCell ⟨t, x, none⟩ (.int .i64 1)) q g h M L N ∧ Row (w1.setCell ⟨t, x, none⟩ (.int .i64 1)) 3 1 (.slice (some ⟨t, 0, none⟩) 100 100) 100 (ints (thL ((x : Int) :: (N.toList ++ L)))) ∧ Chg [] w0 (w1.setCell ⟨t, x, none⟩ (.int .i64 1)) := by
  have H1 := GoneK.quiet H hc
  have hset := H1.row.set_ (j := x) (by omega) (.int .i64 1)
  rw [← ints_set, List.drop_nil, List.nil_append, thL_set1 _ hx] at hset
  have e1 : Chg [t] w1 (w1.setCell ⟨t, x, none⟩ (.int .i64 1)) := (Chg.refl _ _).setCell (p := ⟨t, x, none⟩) (.inl (by simp)) _
  exact ⟨H1.queue.chg e1 (fun j hj hm => by simp at hm; subst hm; exact H1.apart hj), hset, H1.chg.trans e1 (fun j hj => .inr (by simp at hj; subst hj; exact H1.newt))⟩
theorem OnceB.cell (H : OnceB w0 w q g h M t L N) (j : Nat) (hj : j < 100) : w.cell? ⟨t, j, none⟩ = some (.int .i64 (if (j : Int) ∈ N.toList ++ L then 1 else 0)) ∧ w.frozen? ⟨t, j, none⟩ = false := by
  have := GoneK.cell H j hj
  simpa using this
theorem OnceB.plain (H : OnceB w0 w q g h M t L N) : QueueAt w q g h M L N ∧ Row w 3 1 (.slice (some ⟨t, 0, none⟩) 100 100) 100 (ints (thL (N.toList ++ L))) ∧ (N.toList ++ L).Nodup ∧ ∀ y ∈ N.toList ++ L, 0 ≤ y ∧ y < 100 := by
  have h1 := H.row
  have h2 := H.nd
  have h3 := H.in0
  rw [List.drop_nil, List.nil_append] at h1 h2 h3
  exact ⟨H.queue, h1, h2, h3⟩
end
end Go.Proofs
