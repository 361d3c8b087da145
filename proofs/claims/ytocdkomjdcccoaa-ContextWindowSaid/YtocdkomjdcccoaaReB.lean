import Derived.Test.YtocdkomjdcccoaaProg
import Derived.Test.YtocdkomjdcccoaaReA
import Derived.WalkKit
import Derived.WalkSpells
import Derived.Laws.Pointers
import Derived.Outline
import Derived.BigQuiet
import Derived.Deep.QuietTactic
import Derived.Deep.DeepFit
import Derived.Deep.RegionHeld3
import Derived.Deep.RegionLaw
import Derived.KernelRfl
import Derived.IntWalk
import Derived.LoopTactic
import Derived.StillTailTactics
import Derived.BigRegion
import Derived.Laws.StructEq
import Derived.Deep.Upon
import Derived.Lib.AppendZerosOnto
import Derived.Lib.SliceRun
namespace Go.Proofs
open Go.RowKit
set_option linter.unusedVariables false

/-! ### Elements of several cells, in a row -/
section
variable {α : Type} {enc : α → List Value} {s : Nat}
theorem flat_len (hs : ∀ x, (enc x).length = s) (l : List α) : (l.flatMap enc).length = l.length * s := by
  induction l with
  | nil => simp
  | cons x l ih => rw [List.flatMap_cons, List.length_append, ih, hs, List.length_cons, Nat.add_mul]; omega
theorem flat_at (hs : ∀ x, (enc x).length = s) {l : List α} {k j : Nat} {x : α} {u : Value} (hk : l[k]? = some x) (hj : (enc x)[j]? = some u) : (l.flatMap enc)[k * s + j]? = some u := by
  induction l generalizing k with
  | nil => simp at hk
  | cons y l ih =>
    cases k with
    | zero =>
      simp at hk
      subst hk
      have hl := (List.getElem?_eq_some_iff.1 hj).1
      rw [List.flatMap_cons, List.getElem?_append_left (by omega), Nat.zero_mul, Nat.zero_add]
      exact hj
    | succ k =>
      simp at hk
      rw [List.flatMap_cons, List.getElem?_append_right (by rw [hs, Nat.add_mul]; omega), hs]
      rw [show (k + 1) * s + j - s = k * s + j by rw [Nat.add_mul]; omega]
      exact ih hk
theorem flat_take (hs : ∀ x, (enc x).length = s) (l : List α) (k : Nat) : (l.flatMap enc).take (k * s) = (l.take k).flatMap enc := by
  induction l generalizing k with
  | nil => simp
  | cons x l ih =>
    cases k with
    | zero => simp
    | succ k =>
      have h := hs x
      rw [List.take_succ_cons, List.flatMap_cons, List.flatMap_cons, ← ih k, List.take_append, h]
      rw [List.take_of_length_le (by rw [h, Nat.add_mul]; omega)]
      congr 2
      rw [Nat.add_mul]; omega
theorem flat_drop (hs : ∀ x, (enc x).length = s) (l : List α) (k : Nat) : (l.flatMap enc).drop (k * s) = (l.drop k).flatMap enc := by
  induction l generalizing k with
  | nil => simp
  | cons x l ih =>
    cases k with
    | zero => simp
    | succ k =>
      have h := hs x
      rw [List.drop_succ_cons, List.flatMap_cons, ← ih k, List.drop_append, h]
      rw [List.drop_eq_nil_of_le (by rw [h, Nat.add_mul]; omega), List.nil_append]
      congr 1
      rw [Nat.add_mul]; omega
end
/-- A refill: how much, and from when on. -/
abbrev Rf := Int × Int
def rfCells (x : Rf) : List Value := [.int .u64 x.1, .int .u64 x.2]
theorem rfCells_len (x : Rf) : (rfCells x).length = 2 := rfl
def rfs (l : List Rf) : List Value := l.flatMap rfCells
theorem rfs_len (l : List Rf) : (rfs l).length = l.length * 2 := flat_len rfCells_len l
theorem rfs_append (a b : List Rf) : rfs (a ++ b) = rfs a ++ rfs b := by simp [rfs]
theorem rfs_at {l : List Rf} {k : Nat} {x : Rf} (h : l[k]? = some x) : (rfs l)[k * 2]? = some (.int .u64 x.1) ∧ (rfs l)[k * 2 + 1]? = some (.int .u64 x.2) :=
  ⟨flat_at (j := 0) rfCells_len h rfl, flat_at (j := 1) rfCells_len h rfl⟩
theorem rfs_take (l : List Rf) (k : Nat) : (rfs l).take (k * 2) = rfs (l.take k) := flat_take rfCells_len l k
theorem rfs_drop (l : List Rf) (k : Nat) : (rfs l).drop (k * 2) = rfs (l.drop k) := flat_drop rfCells_len l k
theorem rfs_set (l : List Rf) (k : Nat) (x : Rf) (h : k < l.length) : rfs (l.set k x) = ((rfs l).set (k * 2) (.int .u64 x.1)).set (k * 2 + 1) (.int .u64 x.2) := by
  induction l generalizing k with
  | nil => simp at h
  | cons y l ih =>
    cases k with
    | zero => simp [rfs, rfCells]
    | succ k =>
      have := ih k (by simpa using h)
      rw [List.set_cons_succ]
      unfold rfs at this ⊢
      rw [List.flatMap_cons, List.flatMap_cons, this]
      simp [rfCells, Nat.add_mul]
theorem set_same {l : List Value} {k : Nat} {u : Value} (h : l[k]? = some u) : l.set k u = l := by
  refine List.ext_getElem? fun j => ?_
  rw [List.getElem?_set]
  split
  · rename_i e
    subst e
    rw [if_pos (List.getElem?_eq_some_iff.1 h).1, h]
  · rfl
theorem rfs_set1 (l : List Rf) (k : Nat) (x : Rf) (a : Int) (h : l[k]? = some x) : rfs (l.set k (a, x.2)) = (rfs l).set (k * 2) (.int .u64 a) := by
  rw [rfs_set l k _ (List.getElem?_eq_some_iff.1 h).1, List.set_comm _ _ (by omega), set_same (rfs_at h).2]
theorem rfs_set2 (l : List Rf) (k : Nat) (x : Rf) (a : Int) (h : l[k]? = some x) : rfs (l.set k (x.1, a)) = (rfs l).set (k * 2 + 1) (.int .u64 a) := by
  rw [rfs_set l k _ (List.getElem?_eq_some_iff.1 h).1, set_same (rfs_at h).1]

/-! ### What a slice reads as -/
/-- The slice v, of n elements of type e (size cells each), reads as the cells xs. -/
def Rs (w : World) (e : TypeId) (size : Nat) (v : Value) (n : Nat) (xs : List Value) : Prop :=
  ∃ A c, v = .slice A n c ∧ n ≤ c ∧ c ≤ maxLen ∧ xs.length = n * size ∧ (A = none → c = 0) ∧
    ∀ a, A = some a → ∃ h o cs, a = ⟨h, o, none⟩ ∧ Blk w h e cs ∧ o + c * size ≤ cs.size ∧ ∀ j u, xs[j]? = some u → cs[o + j]? = some u
section
variable {w w' : World} {e : TypeId} {size n : Nat} {v : Value} {xs : List Value}
theorem Rs.nil (w : World) (e : TypeId) (size : Nat) : Rs w e size (.slice none 0 0) 0 [] := ⟨none, 0, rfl, by simp, by simp, by simp, fun _ => rfl, fun a h => by cases h⟩
theorem Rs.same (h : Rs w e size v n xs) (hk : ∀ k ∈ foot v, w'.heap[k]? = w.heap[k]?) : Rs w' e size v n xs := by
  obtain ⟨A, c, rfl, h1, h2, h0, h3, h4⟩ := h
  refine ⟨A, c, rfl, h1, h2, h0, h3, fun a ha => ?_⟩
  obtain ⟨g, o, cs, rfl, hB, r⟩ := h4 a ha
  subst ha
  exact ⟨g, o, cs, rfl, hB.same (hk g (by simp [foot_some])), r⟩
theorem Rs.lt (h : Rs w e size v n xs) : ∀ k ∈ foot v, k < w.heap.size := by
  obtain ⟨A, c, rfl, h1, h2, h0, h3, h4⟩ := h
  intro k hk
  cases A with
  | none => cases hk
  | some a =>
    obtain ⟨g, o, cs, rfl, hB, r⟩ := h4 a rfl
    simp [foot_some] at hk
    subst hk
    exact hB.lt
theorem Rs.chg {S : List Nat} (h : Rs w e size v n xs) (hc : Chg S w w') (hn : ∀ k ∈ foot v, k ∉ S) : Rs w' e size v n xs := h.same fun k hk => hc.block k (h.lt k hk) (hn k hk)
theorem Rs.quiet (h : Rs w e size v n xs) (hc : Chg [] w w') : Rs w' e size v n xs := h.chg hc (fun _ _ hk => by cases hk)
theorem Rs.ty (h : Rs w e size v n xs) {g : Nat} {t : TypeId} {cs : Array Value} (hg : Blk w g t cs) (hne : e ≠ t) : g ∉ foot v := by
  obtain ⟨A, c, rfl, h1, h2, h0, h3, h4⟩ := h
  intro hk
  cases A with
  | none => cases hk
  | some a =>
    obtain ⟨g', o, cs', rfl, hB, r⟩ := h4 a rfl
    simp [foot_some] at hk
    subst hk
    exact Blk.ty hB hg hne rfl
/-- What a slice looks like, for the walk: its cells, if it has any. -/
theorem Rs.open_ (h : Rs w e size v n xs) : ∃ A c, v = .slice A n c ∧ n ≤ c ∧ c ≤ maxLen ∧ (A = none → c = 0) ∧
    (∀ j u, xs[j]? = some u → ∃ b o, A = some ⟨b, o, none⟩ ∧ b < w.heap.size ∧ w.cell? ⟨b, o + j, none⟩ = some u) := by
  obtain ⟨A, c, rfl, h1, h2, h0, h3, h4⟩ := h
  refine ⟨A, c, rfl, h1, h2, h3, fun k x hk => ?_⟩
  have hkl := (List.getElem?_eq_some_iff.1 hk).1
  cases A with
  | none => have := h3 rfl; obtain rfl : n = 0 := by omega
            omega
  | some a =>
    obtain ⟨g, o, cs, rfl, hB, hs, r⟩ := h4 a rfl
    exact ⟨g, o, rfl, hB.lt, by rw [hB.cell]; exact r k x hk⟩
theorem Rs.len (h : Rs w e size v n xs) : xs.length = n * size := by obtain ⟨A, c, rfl, h1, h2, h0, _⟩ := h; exact h0
theorem Rs.of_row (h : Row w e size v n xs) : Rs w e size v n xs := by
  have h0 := h.1
  rcases h.2 with ⟨rfl, hn⟩ | ⟨g, cap, cur, rfl, hg, hc, hm, hs, ht⟩
  · subst hn
    have : xs = [] := List.eq_nil_of_length_eq_zero (by simpa using h0)
    subst this
    exact Rs.nil w e size
  · refine ⟨_, cap, rfl, hc, hm, h0, fun h => (by cases h), fun a ha => ?_⟩
    cases ha
    refine ⟨g, 0, cur, rfl, hg, by omega, fun j x hj => ?_⟩
    rw [← ht, List.getElem?_take] at hj
    split at hj
    · simpa using hj
    · cases hj
/-- A part of it. -/
theorem Rs.cut {b o n c : Nat} (h : Rs w e size (.slice (some ⟨b, o, none⟩) n c) n xs) {i j k : Nat} (hi : i ≤ j) (hj : j ≤ n) (hk : j ≤ k) (hkc : k ≤ c) :
    Rs w e size (.slice (some ⟨b, o + i * size, none⟩) (j - i) (k - i)) (j - i) ((xs.drop (i * size)).take ((j - i) * size)) := by
  obtain ⟨A', c', hv, h1, h2, h0, h3, h4⟩ := h
  injection hv with hA' hn hc
  subst hA' hc
  obtain ⟨g, o', cs, he, hB, hs, r⟩ := h4 _ rfl
  cases he
  refine ⟨_, k - i, rfl, by omega, by omega, ?_, fun h => (by cases h), fun a ha => ?_⟩
  · have : i * size + (j - i) * size ≤ n * size := by rw [← Nat.add_mul]; exact Nat.mul_le_mul_right _ (by omega)
    simp
    omega
  · cases ha
    have : i * size + (k - i) * size ≤ c * size := by rw [← Nat.add_mul]; exact Nat.mul_le_mul_right _ (by omega)
    refine ⟨_, _, cs, rfl, hB, by omega, fun q x hq => ?_⟩
    rw [List.getElem?_take] at hq
    split at hq
    · rw [List.getElem?_drop] at hq
      rw [Nat.add_assoc]
      exact r _ x hq
    · cases hq
end

/-- The slice v reads as the refills l. -/
def Rd (w : World) (v : Value) (l : List Rf) : Prop := Rs w 47 2 v l.length (rfs l)
/-- The slice v is a row of the call's own, and reads as l. -/
def Ro (w : World) (v : Value) (l : List Rf) : Prop := Row w 47 2 v l.length (rfs l)
theorem Rd.quiet {w w' : World} {v : Value} {l : List Rf} (h : Rd w v l) (hc : Chg [] w w') : Rd w' v l := Rs.quiet h hc
theorem Rd.chg {w w' : World} {S : List Nat} {v : Value} {l : List Rf} (h : Rd w v l) (hc : Chg S w w') (hn : ∀ k ∈ foot v, k ∉ S) : Rd w' v l := Rs.chg h hc hn
theorem Rd.lt {w : World} {v : Value} {l : List Rf} (h : Rd w v l) : ∀ k ∈ foot v, k < w.heap.size := Rs.lt h
theorem Ro.rd {w : World} {v : Value} {l : List Rf} (h : Ro w v l) : Rd w v l := Rs.of_row h
theorem Ro.quiet {w w' : World} {v : Value} {l : List Rf} (h : Ro w v l) (hc : Chg [] w w') : Ro w' v l := Row.chg h hc (fun _ _ hk => by cases hk)
theorem Rd.nil (w : World) : Rd w (.slice none 0 0) [] := Rs.nil w 47 2
theorem Ro.nil (w : World) : Ro w (.slice none 0 0) [] := Row.nil w 47 2
/-- What a slice of refills looks like, for the walk. -/
theorem Rd.open_ {w : World} {v : Value} {l : List Rf} (h : Rd w v l) : ∃ A c, v = .slice A l.length c ∧ l.length ≤ c ∧ c ≤ maxLen ∧ (A = none → c = 0) ∧
    ∀ k x, l[k]? = some x → ∃ b o, A = some ⟨b, o, none⟩ ∧ b < w.heap.size ∧ w.cell? ⟨b, o + k * 2, none⟩ = some (.int .u64 x.1) ∧ w.cell? ⟨b, o + k * 2 + 1, none⟩ = some (.int .u64 x.2) := by
  obtain ⟨A, c, rfl, h1, h2, h3, hcell⟩ := Rs.open_ h
  refine ⟨A, c, rfl, h1, h2, h3, fun k x hk => ?_⟩
  obtain ⟨q0, q1⟩ := rfs_at hk
  obtain ⟨b, o, hA, lb, e0⟩ := hcell _ _ q0
  obtain ⟨b1, o1, hA1, _, e1⟩ := hcell _ _ q1
  rw [hA] at hA1
  cases hA1
  rw [← Nat.add_assoc] at e1
  exact ⟨b, o, hA, lb, e0, e1⟩
/-- Two refills are told apart. -/
theorem neq_rf (a b c d : Int) (W : World) : (binOp .neq 47 (.agg #[.int .u64 a, .int .u64 b]) (.agg #[.int .u64 c, .int .u64 d])).run Try.prog W = .ok (.bool (!(a == c && b == d))) W := by
  have h1 : Try.prog.underlying 47 = some (.struct (Try.prog.fieldsOf 47)) := by kernel_rfl
  have h2 : Try.prog.stoodInHeld 47 = false := by kernel_rfl
  rw [run_neq_struct, run_equalIn_agg (ht := h1) (hp := h2)]
  simp [go_sem, Try.underlying47, Op.eqFields, Try.underlying22]
  by_cases e1 : a = c <;> by_cases e2 : b = d <;> simp [e1, e2]
theorem rf_yes {a b c d : Int} (h : a = c ∧ b = d) (W : World) : (binOp .neq 47 (.agg #[.int .u64 a, .int .u64 b]) (.agg #[.int .u64 c, .int .u64 d])).run Try.prog W = .ok (.bool false) W := by
  rw [neq_rf]; simp [h.1, h.2]
theorem rf_no {a b c d : Int} (h : ¬ (a = c ∧ b = d)) (W : World) : (binOp .neq 47 (.agg #[.int .u64 a, .int .u64 b]) (.agg #[.int .u64 c, .int .u64 d])).run Try.prog W = .ok (.bool true) W := by
  rw [neq_rf]
  have : (a == c && b == d) = false := by
    rw [Bool.and_eq_false_iff]
    by_cases e : a = c
    · right; simpa using fun e2 => h ⟨e, e2⟩
    · left; simpa using e
  rw [this]; rfl
theorem rf_info : (Try.prog.info? 47).map (fun i => (i.zero, i.size, i.bytes)) = some (some (.agg #[.int .u64 0, .int .u64 0]), 2, 16) := by kernel_rfl
theorem run_append_rs (w : World) (ty : TypeId) {v x : Value} {xs l : List Rf} {n m : Nat} (hr : Row w 47 2 v n (rfs xs)) (hx : Rs w 47 2 x m (rfs l)) (hb : n + m ≤ 1000000) :
    ∃ A' c' w', (Builtin.append_ #[40, 40] ty #[v, x]).run Try.prog w = .ok (.slice A' (n + m) c') w' ∧ Row w' 47 2 (.slice A' (n + m) c') (n + m) (rfs (xs ++ l)) ∧ w.grownBy w' v.ownBlock ∧ (∀ k ∈ foot (.slice A' (n + m) c'), k ∈ foot v ∨ w.heap.size ≤ k) := by
  obtain ⟨i0, hi0, hz0, hz1, hz2⟩ := info_parts rf_info
  have hll : m = l.length := by have := hx.len; rw [rfs_len] at this; omega
  obtain ⟨A, c, rfl, h1, h2, h0, h3, h4⟩ := hx
  rcases Nat.eq_zero_or_pos m with hm | hm
  · subst hm
    have hl : l = [] := List.eq_nil_of_length_eq_zero hll.symm
    subst hl
    obtain ⟨A', c', rfl, hA'⟩ := hr.val
    have hle : n ≤ c' := by
      rcases hr.2 with ⟨hv, h0⟩ | ⟨g, cap, cur, hv, _, hc, _⟩
      · omega
      · injection hv with _ _ hv; omega
    refine ⟨A', c', w, run_append_nothing w 40 40 ty 47 i0 Try.underlying40 hi0 A' n c' hle (.slice A 0 c) ?_, by simpa using hr, World.grownBy.refl w _, fun k hk => .inl hk⟩
    have hc : ∀ W : World, (Builtin.firstCells i0.size 0 (.slice A 0 c)).run Try.prog W = .ok #[] W := fun W => by
      cases A with
      | none => exact run_firstCells_none W i0.size 0 0 c
      | some a => exact run_firstCells_some W i0.size 0 a 0 c [] (by simp) (fun j u hj => by simp at hj)
    exact ⟨.inl ⟨47, Try.underlying40⟩, fun w' => by simp [Builtin.lenOf], hc w, hc _, by simp, by simp⟩
  · cases A with
    | none => have := h3 rfl; omega
    | some a =>
      obtain ⟨g, o, cs, rfl, hB, hs, r⟩ := h4 a rfl
      obtain ⟨gg, cap, w', q1, q2, q3, q4, q5⟩ := run_append_row (P := Try.prog) w 40 ty 47 i0 (.agg #[.int .u64 0, .int .u64 0]) 2 16 Try.underlying40 hi0 hz0 hz1 hz2 rfl v n (rfs xs) hr ⟨g, o, none⟩ m c (rfs l) h0
        (fun j u hu => by
          have hadd : (⟨g, o, none⟩ : Addr).add j = ⟨g, o + j, none⟩ := by unfold Addr.add; split <;> simp_all
          rw [hadd, hB.cell]
          exact r j u hu) (by
          intro u hu
          unfold rfs at hu
          obtain ⟨y, _, hy⟩ := List.mem_flatMap.1 hu
          simp [rfCells] at hy
          rcases hy with rfl | rfl <;> rfl) hm (by unfold maxLen; omega) (by omega) w.heap.size rfl
      rw [← rfs_append] at q2
      exact ⟨_, _, w', q1, q2, q3, foot_grown q4 (fun k hk => hk)⟩
theorem wpList_append_rs (w : World) {ops : Array Oper} {rest : List Oper} {o : Oper} {a : Act} {Q : Exit → Act → World → Prop} (hgd : o.guard = none) (s y : Operand)
    (ho : o.op = .call { callee := .builtin .append, args := #[s, y], argTypes := #[40, 40] })
    {v x : Value} {xs l : List Rf} {n m N : Nat} (hs : a.eval s = v) (hy : a.eval y = x) (hr : Row w 47 2 v n (rfs xs)) (hx : Rs w 47 2 x m (rfs l)) (hb : n + m ≤ 1000000) (hN : N = n + m)
    (h : ∀ A' c' w', Row w' 47 2 (.slice A' N c') N (rfs (xs ++ l)) → w.grownBy w' v.ownBlock → (∀ k ∈ foot (.slice A' N c'), k ∈ foot v ∨ w.heap.size ≤ k) → wpList Try.prog ops Q rest (a.put o.dst (.slice A' N c')) w') : wpList Try.prog ops Q (o :: rest) a w := by
  subst hN
  obtain ⟨A', c', w', h1, h2, h3, h4⟩ := run_append_rs w o.type hr hx hb
  exact Lib.wpList_append_run w hgd s y 40 40 ho v x hs hy _ w' h1 (h A' c' w' h2 h3 h4)
theorem step_append_rs (w : World) {ops : Array Oper} {o : Oper} {a : Act} {K : Act → World → Prop} {Q : Exit → Act → World → Prop} {E : Prop} (hgd : o.guard = none) (s y : Operand)
    (ho : o.op = .call { callee := .builtin .append, args := #[s, y], argTypes := #[40, 40] })
    {v x : Value} {xs l : List Rf} {n m N : Nat} (hs : a.eval s = v) (hy : a.eval y = x) (hr : Row w 47 2 v n (rfs xs)) (hx : Rs w 47 2 x m (rfs l)) (hb : n + m ≤ 1000000) (hN : N = n + m)
    (h : ∀ A' c' w', Row w' 47 2 (.slice A' N c') N (rfs (xs ++ l)) → w.grownBy w' v.ownBlock → (∀ k ∈ foot (.slice A' N c'), k ∈ foot v ∨ w.heap.size ≤ k) → K (a.put o.dst (.slice A' N c')) w') :
    if Region.wanted o (yielded ops a.tmps) = true then Oper.wp Try.prog o a w K Q else E := by
  subst hN
  have hw : Region.wanted o (yielded ops a.tmps) = true := by simp [Region.wanted, hgd]
  rw [if_pos hw]
  obtain ⟨A', c', w', h1, h2, h3, h4⟩ := run_append_rs w o.type hr hx hb
  unfold Oper.wp execOp
  simp only [ho, resolve, invoke, builtin, Sem.run_bind, Sem.run_pure, Result.andThen_ok, List.map_toArray, List.map_cons, List.map_nil, hs, hy, h1]
  exact h A' c' w' h2 h3 h4
theorem Rs.first {w : World} {b o n c : Nat} {l : List Rf} (h : Rs w 47 2 (.slice (some ⟨b, o, none⟩) n c) n (rfs l)) {i : Nat} (hi : i ≤ n) : Rs w 47 2 (.slice (some ⟨b, o, none⟩) i c) i (rfs (l.take i)) := by
  have hc : n ≤ c := by obtain ⟨A, c', hv, h1, _⟩ := h; injection hv with _ _ hv; omega
  have := h.cut (i := 0) (j := i) (k := c) (Nat.zero_le _) hi (by omega) (Nat.le_refl _)
  simpa [rfs_take] using this
theorem Rs.rest {w : World} {b o n c : Nat} {l : List Rf} (h : Rs w 47 2 (.slice (some ⟨b, o, none⟩) n c) n (rfs l)) {i : Nat} (hi : i ≤ n) : Rs w 47 2 (.slice (some ⟨b, o + i * 2, none⟩) (n - i) (c - i)) (n - i) (rfs (l.drop i)) := by
  have hc : n ≤ c := by obtain ⟨A, c', hv, h1, _⟩ := h; injection hv with _ _ hv; omega
  have hl : n = l.length := by have := h.len; rw [rfs_len] at this; omega
  have := h.cut (i := i) (j := n) (k := c) hi (Nat.le_refl _) hc (Nat.le_refl _)
  rw [rfs_drop, List.take_of_length_le (by rw [rfs_len, List.length_drop]; omega)] at this
  exact this
theorem Rs.none_ {w : World} {b o n c : Nat} {l : List Rf} (h : Rs w 47 2 (.slice (some ⟨b, o, none⟩) n c) n (rfs l)) : Rs w 47 2 (.slice (some ⟨b, o, none⟩) 0 0) 0 (rfs []) := by
  have := h.cut (i := 0) (j := 0) (k := 0) (Nat.le_refl _) (Nat.zero_le _) (Nat.le_refl _) (Nat.zero_le _)
  simpa [rfs] using this
theorem Rs.one {w : World} {b : Nat} {x : Rf} (h : Blk w b 47 #[.int .u64 x.1, .int .u64 x.2]) : Rs w 47 2 (.slice (some ⟨b, 0, none⟩) 1 1) 1 (rfs [x]) :=
  ⟨_, 1, rfl, Nat.le_refl _, by unfold maxLen; omega, rfl, fun h => (by cases h), fun a ha => by
    cases ha
    refine ⟨b, 0, _, rfl, h, by simp, fun j u hj => ?_⟩
    rw [Nat.zero_add]
    match j, hj with
    | 0, hj => simpa [rfs, rfCells] using hj
    | 1, hj => simpa [rfs, rfCells] using hj⟩
end Go.Proofs
