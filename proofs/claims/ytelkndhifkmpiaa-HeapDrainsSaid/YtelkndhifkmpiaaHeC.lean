import Derived.Test.YtelkndhifkmpiaaProg
import Derived.Test.YtelkndhifkmpiaaHeB
import Derived.WalkKit
import Derived.WalkSpells
import Derived.Laws.Pointers
import Derived.Outline
import Derived.BigQuiet
import Derived.Deep.QuietTactic
import Derived.Deep.DeepFit
import Derived.Deep.RegionHeld3
import Derived.Deep.RegionLaw
import Derived.KernelRfl
import Derived.IntWalk
import Derived.LoopTactic
import Derived.StillTailTactics
import Derived.BigRegion
import Derived.ChangeAlike
import Derived.Maps.OwnSet
import Derived.Maps.OwnOps
namespace Go.Proofs
open Go.RowKit
set_option linter.unusedVariables false

/-! ### Elements of several cells, in a row -/
section
variable {α : Type} {enc : α → List Value} {s : Nat}
theorem flat_len (hs : ∀ x, (enc x).length = s) (l : List α) : (l.flatMap enc).length = l.length * s := by
  induction l with
  | nil => simp
  | cons x l ih => rw [List.flatMap_cons, List.length_append, ih, hs, List.length_cons, Nat.add_mul]; omega
theorem flat_at (hs : ∀ x, (enc x).length = s) {l : List α} {k j : Nat} {x : α} {u : Value} (hk : l[k]? = some x) (hj : (enc x)[j]? = some u) : (l.flatMap enc)[k * s + j]? = some u := by
  induction l generalizing k with
  | nil => simp at hk
  | cons y l ih =>
    cases k with
    | zero =>
      simp at hk
      subst hk
      have hl := (List.getElem?_eq_some_iff.1 hj).1
      rw [List.flatMap_cons, List.getElem?_append_left (by omega), Nat.zero_mul, Nat.zero_add]
      exact hj
    | succ k =>
      simp at hk
      rw [List.flatMap_cons, List.getElem?_append_right (by rw [hs, Nat.add_mul]; omega), hs]
      rw [show (k + 1) * s + j - s = k * s + j by rw [Nat.add_mul]; omega]
      exact ih hk
theorem flat_take (hs : ∀ x, (enc x).length = s) (l : List α) (k : Nat) : (l.flatMap enc).take (k * s) = (l.take k).flatMap enc := by
  induction l generalizing k with
  | nil => simp
  | cons x l ih =>
    cases k with
    | zero => simp
    | succ k =>
      have h := hs x
      rw [List.take_succ_cons, List.flatMap_cons, List.flatMap_cons, ← ih k, List.take_append, h]
      rw [List.take_of_length_le (by rw [h, Nat.add_mul]; omega)]
      congr 2
      rw [Nat.add_mul]; omega
theorem flat_drop (hs : ∀ x, (enc x).length = s) (l : List α) (k : Nat) : (l.flatMap enc).drop (k * s) = (l.drop k).flatMap enc := by
  induction l generalizing k with
  | nil => simp
  | cons x l ih =>
    cases k with
    | zero => simp
    | succ k =>
      have h := hs x
      rw [List.drop_succ_cons, List.flatMap_cons, ← ih k, List.drop_append, h]
      rw [List.drop_eq_nil_of_le (by rw [h, Nat.add_mul]; omega), List.nil_append]
      congr 1
      rw [Nat.add_mul]; omega
end
def tmCells (x : Tm) : List Value := [.int .u64 x.at_, .int .i64 x.id, .int .u64 x.put]
theorem tmCells_len (x : Tm) : (tmCells x).length = 3 := rfl
def tms (ts : List Tm) : List Value := ts.flatMap tmCells
theorem tms_len (ts : List Tm) : (tms ts).length = ts.length * 3 := flat_len tmCells_len ts
theorem tms_append (a b : List Tm) : tms (a ++ b) = tms a ++ tms b := by simp [tms]
theorem tms_at {ts : List Tm} {k : Nat} {x : Tm} (h : ts[k]? = some x) : (tms ts)[k * 3]? = some (.int .u64 x.at_) ∧ (tms ts)[k * 3 + 1]? = some (.int .i64 x.id) ∧ (tms ts)[k * 3 + 2]? = some (.int .u64 x.put) :=
  ⟨flat_at (j := 0) tmCells_len h rfl, flat_at (j := 1) tmCells_len h rfl, flat_at (j := 2) tmCells_len h rfl⟩
theorem tms_set (ts : List Tm) (k : Nat) (x : Tm) (h : k < ts.length) : tms (ts.set k x) = (((tms ts).set (k * 3) (.int .u64 x.at_)).set (k * 3 + 1) (.int .i64 x.id)).set (k * 3 + 2) (.int .u64 x.put) := by
  induction ts generalizing k with
  | nil => simp at h
  | cons y l ih =>
    cases k with
    | zero => simp [tms, tmCells]
    | succ k =>
      have := ih k (by simpa using h)
      rw [List.set_cons_succ]
      unfold tms at this ⊢
      rw [List.flatMap_cons, List.flatMap_cons, this]
      simp [tmCells, Nat.add_mul]
/-- What is told of a timer. -/
def nmCells (x : Int × Int) : List Value := [.int .u64 x.1, .int .i64 x.2]
theorem nmCells_len (x : Int × Int) : (nmCells x).length = 2 := rfl
def nms (l : List (Int × Int)) : List Value := l.flatMap nmCells
theorem nms_len (l : List (Int × Int)) : (nms l).length = l.length * 2 := flat_len nmCells_len l
theorem nms_append (a b : List (Int × Int)) : nms (a ++ b) = nms a ++ nms b := by simp [nms]
theorem nms_at {l : List (Int × Int)} {k : Nat} {x : Int × Int} (h : l[k]? = some x) : (nms l)[k * 2]? = some (.int .u64 x.1) ∧ (nms l)[k * 2 + 1]? = some (.int .i64 x.2) :=
  ⟨flat_at (j := 0) nmCells_len h rfl, flat_at (j := 1) nmCells_len h rfl⟩

/-! ### What a slice reads as -/
/-- The slice v, of n elements of type e (size cells each), reads as the cells xs. -/
def Rs (w : World) (e : TypeId) (size : Nat) (v : Value) (n : Nat) (xs : List Value) : Prop :=
  ∃ A c, v = .slice A n c ∧ n ≤ c ∧ c ≤ maxLen ∧ xs.length = n * size ∧ (A = none → c = 0) ∧
    ∀ a, A = some a → ∃ h o cs, a = ⟨h, o, none⟩ ∧ Blk w h e cs ∧ o + c * size ≤ cs.size ∧ ∀ j u, xs[j]? = some u → cs[o + j]? = some u
section
variable {w w' : World} {e : TypeId} {size n : Nat} {v : Value} {xs : List Value}
theorem Rs.nil (w : World) (e : TypeId) (size : Nat) : Rs w e size (.slice none 0 0) 0 [] := ⟨none, 0, rfl, by simp, by simp, by simp, fun _ => rfl, fun a h => by cases h⟩
theorem Rs.same (h : Rs w e size v n xs) (hk : ∀ k ∈ foot v, w'.heap[k]? = w.heap[k]?) : Rs w' e size v n xs := by
  obtain ⟨A, c, rfl, h1, h2, h0, h3, h4⟩ := h
  refine ⟨A, c, rfl, h1, h2, h0, h3, fun a ha => ?_⟩
  obtain ⟨g, o, cs, rfl, hB, r⟩ := h4 a ha
  subst ha
  exact ⟨g, o, cs, rfl, hB.same (hk g (by simp [foot_some])), r⟩
theorem Rs.lt (h : Rs w e size v n xs) : ∀ k ∈ foot v, k < w.heap.size := by
  obtain ⟨A, c, rfl, h1, h2, h0, h3, h4⟩ := h
  intro k hk
  cases A with
  | none => cases hk
  | some a =>
    obtain ⟨g, o, cs, rfl, hB, r⟩ := h4 a rfl
    simp [foot_some] at hk
    subst hk
    exact hB.lt
theorem Rs.chg {S : List Nat} (h : Rs w e size v n xs) (hc : Chg S w w') (hn : ∀ k ∈ foot v, k ∉ S) : Rs w' e size v n xs := h.same fun k hk => hc.block k (h.lt k hk) (hn k hk)
theorem Rs.quiet (h : Rs w e size v n xs) (hc : Chg [] w w') : Rs w' e size v n xs := h.chg hc (fun _ _ hk => by cases hk)
theorem Rs.ty (h : Rs w e size v n xs) {g : Nat} {t : TypeId} {cs : Array Value} (hg : Blk w g t cs) (hne : e ≠ t) : g ∉ foot v := by
  obtain ⟨A, c, rfl, h1, h2, h0, h3, h4⟩ := h
  intro hk
  cases A with
  | none => cases hk
  | some a =>
    obtain ⟨g', o, cs', rfl, hB, r⟩ := h4 a rfl
    simp [foot_some] at hk
    subst hk
    exact Blk.ty hB hg hne rfl
/-- What a slice looks like, for the walk: its cells, if it has any. -/
theorem Rs.open_ (h : Rs w e size v n xs) : ∃ A c, v = .slice A n c ∧ n ≤ c ∧ c ≤ maxLen ∧ (A = none → c = 0) ∧
    (∀ j u, xs[j]? = some u → ∃ b o, A = some ⟨b, o, none⟩ ∧ b < w.heap.size ∧ w.cell? ⟨b, o + j, none⟩ = some u) := by
  obtain ⟨A, c, rfl, h1, h2, h0, h3, h4⟩ := h
  refine ⟨A, c, rfl, h1, h2, h3, fun k x hk => ?_⟩
  have hkl := (List.getElem?_eq_some_iff.1 hk).1
  cases A with
  | none => have := h3 rfl; obtain rfl : n = 0 := by omega
            omega
  | some a =>
    obtain ⟨g, o, cs, rfl, hB, hs, r⟩ := h4 a rfl
    exact ⟨g, o, rfl, hB.lt, by rw [hB.cell]; exact r k x hk⟩
theorem Rs.len (h : Rs w e size v n xs) : xs.length = n * size := by obtain ⟨A, c, rfl, h1, h2, h0, _⟩ := h; exact h0
theorem Rs.of_row (h : Row w e size v n xs) : Rs w e size v n xs := by
  have h0 := h.1
  rcases h.2 with ⟨rfl, hn⟩ | ⟨g, cap, cur, rfl, hg, hc, hm, hs, ht⟩
  · subst hn
    have : xs = [] := List.eq_nil_of_length_eq_zero (by simpa using h0)
    subst this
    exact Rs.nil w e size
  · refine ⟨_, cap, rfl, hc, hm, h0, fun h => (by cases h), fun a ha => ?_⟩
    cases ha
    refine ⟨g, 0, cur, rfl, hg, by omega, fun j x hj => ?_⟩
    rw [← ht, List.getElem?_take] at hj
    split at hj
    · simpa using hj
    · cases hj
/-- A part of it. -/
theorem Rs.cut {b o n c : Nat} (h : Rs w e size (.slice (some ⟨b, o, none⟩) n c) n xs) {i j k : Nat} (hi : i ≤ j) (hj : j ≤ n) (hk : j ≤ k) (hkc : k ≤ c) :
    Rs w e size (.slice (some ⟨b, o + i * size, none⟩) (j - i) (k - i)) (j - i) ((xs.drop (i * size)).take ((j - i) * size)) := by
  obtain ⟨A', c', hv, h1, h2, h0, h3, h4⟩ := h
  injection hv with hA' hn hc
  subst hA' hc
  obtain ⟨g, o', cs, he, hB, hs, r⟩ := h4 _ rfl
  cases he
  refine ⟨_, k - i, rfl, by omega, by omega, ?_, fun h => (by cases h), fun a ha => ?_⟩
  · have : i * size + (j - i) * size ≤ n * size := by rw [← Nat.add_mul]; exact Nat.mul_le_mul_right _ (by omega)
    simp
    omega
  · cases ha
    have : i * size + (k - i) * size ≤ c * size := by rw [← Nat.add_mul]; exact Nat.mul_le_mul_right _ (by omega)
    refine ⟨_, _, cs, rfl, hB, by omega, fun q x hq => ?_⟩
    rw [List.getElem?_take] at hq
    split at hq
    · rw [List.getElem?_drop] at hq
      rw [Nat.add_assoc]
      exact r _ x hq
    · cases hq
end

/-! ### The map of places -/
theorem law3 : Maps.Keyed Try.prog 3 := Maps.int_keyed Try.underlying3
theorem zero3 (w : World) : (zeroValue 3).run Try.prog w = .ok (.int .i64 0) w := Try.zeroValue3 w
def I64 (x : Int) : Prop := -9223372036854775808 ≤ x ∧ x ≤ 9223372036854775807
theorem I64.wf {x : Int} (h : I64 x) : (Lit.int .i64 x).wf = true := WalkArith.wf_i64 ⟨h.1, h.2⟩
theorem I64.nat {k : Nat} (h : k ≤ 1000000) : I64 (k : Int) := ⟨by omega, by omega⟩
theorem key_of {x : Int} (h : I64 x) : keyOf Try.prog 3 (.int .i64 x) = some (.int .i64 x) := Maps.keyOf_int_mk Try.underlying3 h.wf
def Plc (D : DataW Unit) (f : Int → Option Nat) : Prop :=
  ∀ id, I64 id → Maps.has D (.int .i64 id) = (f id).isSome ∧ ∀ i : Nat, f id = some i → ∀ z, D.atKey (.int .i64 id) z = .lit (.int .i64 i)
/-- The map at block b holds just the places f, of at most m IDs. -/
def Mp (w : World) (b m : Nat) (f : Int → Option Nat) : Prop :=
  ∃ D : DataW Unit, w.ownsMap Try.prog 3 (plainElem Try.prog 3) b (Maps.size D) D ∧ Maps.size D ≤ m ∧ Plc D f
def upd (f : Int → Option Nat) (id : Int) (i : Nat) : Int → Option Nat := fun x => if x = id then some i else f x
def del (f : Int → Option Nat) (id : Int) : Int → Option Nat := fun x => if x = id then none else f x
theorem owns_tight {w : World} {b n : Nat} {D : DataW Unit} (h : w.ownsMap Try.prog 3 (plainElem Try.prog 3) b n D) : w.ownsMap Try.prog 3 (plainElem Try.prog 3) b (Maps.size D) D := by
  obtain ⟨es, clock, hb, F, hs, rfl⟩ := h
  exact ⟨es, clock, hb, F, by rw [Maps.size_eq, length_read]; exact Nat.le_refl _, rfl⟩
section
variable {w w' : World} {b m : Nat} {f : Int → Option Nat}
theorem Mp.lt (h : Mp w b m f) : b < w.heap.size := by obtain ⟨D, h1, _⟩ := h; exact h1.lt
theorem Mp.same (h : Mp w b m f) (e : w'.heap[b]? = w.heap[b]?) : Mp w' b m f := by
  obtain ⟨D, ⟨es, clock, hb, r⟩, h2⟩ := h
  exact ⟨D, ⟨es, clock, e.trans hb, r⟩, h2⟩
theorem Mp.chg {S : List Nat} (h : Mp w b m f) (hc : Chg S w w') (hn : b ∉ S) : Mp w' b m f := h.same (hc.block b h.lt hn)
theorem Mp.far {g : Nat} {t : TypeId} {cs : Array Value} (h : Mp w b m f) (hg : Blk w g t cs) : b ≠ g := by
  rintro rfl
  obtain ⟨D, ⟨es, clock, hb, r⟩, h2⟩ := h
  unfold Blk at hg
  rw [hg] at hb
  cases hb
theorem Mp.row {e : TypeId} {size n : Nat} {v : Value} {xs : List Value} (h : Mp w b m f) (hr : Row w e size v n xs) : b ∉ foot v := by
  intro hk
  rcases hr.2 with ⟨rfl, _⟩ | ⟨g', cap, cur, rfl, hg', _⟩
  · cases hk
  · simp [foot_some] at hk
    exact h.far hg' hk
theorem Mp.more (h : Mp w b m f) {m' : Nat} (hm : m ≤ m') : Mp w b m' f := by
  obtain ⟨D, h1, h2, h3⟩ := h
  exact ⟨D, h1, by omega, h3⟩
theorem Mp.made (w : World) : Mp (w.alloc (.map #[] 0)) w.heap.size 0 (fun _ => none) :=
  ⟨.map [], World.ownsMap_made _ _ _ _, Nat.le_refl _, fun id _ => ⟨rfl, fun i h => by cases h⟩⟩
theorem Mp.has (h : Mp w b m f) {id : Int} (hi : I64 id) : ∃ c, (Instr.lookup 53 (.map (some b)) (.int .i64 id) true).run Try.prog w = .ok (.tuple #[.int .i64 c, .bool (f id).isSome]) w := by
  obtain ⟨D, h1, h2, h3⟩ := h
  obtain ⟨v, ps, hr, hv⟩ := h1.look_ok law3 Try.underlying53 (zero3 w) (plainElem_int Try.underlying3 (by decide)) (key_of hi)
  obtain ⟨c, rfl, _⟩ := plainElem_int_inv Try.underlying3 hv
  rw [(h3 id hi).1] at hr
  exact ⟨c, hr⟩
theorem Mp.look (h : Mp w b m f) {id : Int} (hi : I64 id) {i : Nat} (hf : f id = some i) : (Instr.lookup 53 (.map (some b)) (.int .i64 id) false).run Try.prog w = .ok (.int .i64 i) w := by
  obtain ⟨D, h1, h2, h3⟩ := h
  obtain ⟨c, hr, hc, _⟩ := h1.lookup_int law3 Try.underlying53 Try.underlying3 (zero3 w) (key_of hi)
  rw [(h3 id hi).2 i hf] at hc
  simp only [DataW.lit.injEq, Lit.int.injEq, true_and] at hc
  rw [hc]
  exact hr
theorem has_nil (w : World) {id : Int} (hi : I64 id) : (Instr.lookup 53 (.map none) (.int .i64 id) true).run Try.prog w = .ok (.tuple #[.int .i64 0, .bool false]) w := Maps.look_nil true law3 Try.underlying53 (zero3 w) (key_of hi)
/-- 'm[k] = v' -/
theorem Mp.store (h : Mp w b m f) (hm : m ≤ 1000000) {id : Int} (hi : I64 id) {i : Nat} (hk : i ≤ 1000000) : ∃ w', (Instr.mapUpdate 53 (.map (some b)) (.int .i64 id) (.int .i64 i)).run Try.prog w = .ok () w' ∧ w.grownBy w' (some b) ∧
    Mp w' b (m + if (f id).isSome then 0 else 1) (upd f id i) := by
  obtain ⟨D, h1, h2, h3⟩ := h
  obtain ⟨w', hr, ho, ht⟩ := h1.store law3 Try.underlying53 (by unfold maxLen; omega) (key_of hi) (plainElem_int Try.underlying3 (I64.nat hk).wf)
  refine ⟨w', hr, ht.grown, _, owns_tight ho, ?_, ?_⟩
  · rw [Maps.size_put (h1.tidy law3), (h3 id hi).1]
    cases f id <;> simp <;> omega
  · intro x hx
    unfold upd
    by_cases e : x = id
    · subst e
      rw [if_pos rfl]
      refine ⟨Maps.has_put_same h1.isMap (law3.key (key_of hi)) _, fun j hj z => ?_⟩
      cases hj
      exact Maps.atKey_put_same h1.isMap (law3.key (key_of hi)) _ _
    · have e' : (Lit.int .i64 x) ≠ .int .i64 id := fun he => by injection he with _ he; exact e he
      rw [if_neg e, Maps.has_put_other e']
      refine ⟨(h3 x hx).1, fun j hj z => ?_⟩
      rw [Maps.atKey_put_other e']
      exact (h3 x hx).2 j hj z
theorem Mp.drop (h : Mp w b m f) {id : Int} (hi : I64 id) (ty : TypeId) : ∃ w', (Builtin.delete_ #[53, 3] ty #[.map (some b), .int .i64 id]).run Try.prog w = .ok (.tuple #[]) w' ∧ w.grownBy w' (some b) ∧ Mp w' b m (del f id) := by
  obtain ⟨D, h1, h2, h3⟩ := h
  obtain ⟨w', hr, ho, ht⟩ := h1.drop law3 Try.underlying53 (key_of hi) ty
  refine ⟨w', hr, ht.grown, _, owns_tight ho, ?_, ?_⟩
  · have := Maps.size_del (k := .int .i64 id) (h1.tidy law3)
    omega
  · intro x hx
    unfold del
    by_cases e : x = id
    · subst e
      rw [if_pos rfl]
      exact ⟨Maps.has_del_same, fun j hj => by cases hj⟩
    · have e' : (Lit.int .i64 x) ≠ .int .i64 id := fun he => by injection he with _ he; exact e he
      rw [if_neg e, Maps.has_del_other e']
      refine ⟨(h3 x hx).1, fun j hj z => ?_⟩
      rw [Maps.atKey_del_other e']
      exact (h3 x hx).2 j hj z
end
section
variable {P : Program} (w : World)
theorem step_store {ops : Array Oper} {o : Oper} {a : Act} {K : Act → World → Prop} {Q : Exit → Act → World → Prop} {E : Prop} (hgd : o.guard = none) (mo x v : Operand)
    (hop : o.op = Op.mapUpdate 53 mo x v) {b m : Nat} {f : Int → Option Nat} (hm : a.eval mo = .map (some b)) (h : Mp w b m f) (hmm : m ≤ 1000000) {id : Int} (hx : a.eval x = .int .i64 id) (hi : I64 id) {i : Nat} (hv : a.eval v = .int .i64 i) (hk : i ≤ 1000000)
    (hK : ∀ w', w.grownBy w' (some b) → Mp w' b (m + if (f id).isSome then 0 else 1) (upd f id i) → K (a.put o.dst undef) w') :
    if Region.wanted o (yielded ops a.tmps) = true then Oper.wp Try.prog o a w K Q else E := by
  have hw : Region.wanted o (yielded ops a.tmps) = true := by simp [Region.wanted, hgd]
  rw [if_pos hw]
  obtain ⟨w', hrun, r1, r2⟩ := h.store hmm hi hk
  unfold Oper.wp
  simp [execOp, hop, hm, hx, hv, hrun, Result.andThen]
  exact hK w' r1 r2
theorem step_drop {ops : Array Oper} {o : Oper} {a : Act} {K : Act → World → Prop} {Q : Exit → Act → World → Prop} {E : Prop} (hgd : o.guard = none) (mo x : Operand)
    (hop : o.op = Op.call { callee := Callee.builtin Builtin.delete, args := #[mo, x], argTypes := #[53, 3] }) {b m : Nat} {f : Int → Option Nat} (hm : a.eval mo = .map (some b)) (h : Mp w b m f) {id : Int} (hx : a.eval x = .int .i64 id) (hi : I64 id)
    (hK : ∀ w', w.grownBy w' (some b) → Mp w' b m (del f id) → K (a.put o.dst (.tuple #[])) w') :
    if Region.wanted o (yielded ops a.tmps) = true then Oper.wp Try.prog o a w K Q else E := by
  have hw : Region.wanted o (yielded ops a.tmps) = true := by simp [Region.wanted, hgd]
  rw [if_pos hw]
  obtain ⟨w', hrun, r1, r2⟩ := h.drop hi o.type
  unfold Oper.wp
  simp [execOp, hop, resolve, invoke, builtin, hm, hx, hrun, Result.andThen]
  exact hK w' r1 r2
end
end Go.Proofs
