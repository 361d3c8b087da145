import Derived.Deep.Upon
import Derived.Lib.AppendZerosOnto
import Derived.Lib.SliceRun
import Derived.Lib.UnsafeStr
import Derived.Test.YtojpllmghfafjaaM2
import Derived.Test.YtojpllmghfafjaaM1
import Derived.Maps.Own
import Derived.Maps.RangeWalk
import Derived.Laws.RangeString
section
namespace Go.Proofs
open Go.RowKit
set_option linter.unusedVariables false
set_option linter.unusedSimpArgs false

/-! ### Slices that are read, cell by cell -/
/-- The slice V of n elements reads as the cells cs. -/
def Cs (w : World) (V : Value) (n : Nat) (cs : List Value) : Prop :=
  ∃ A c, V = .slice A n c ∧ n ≤ c ∧ c ≤ maxLen ∧ ∀ (k : Nat) (u : Value), cs[k]? = some u → ∃ b o, A = some ⟨b, o, none⟩ ∧ b < w.heap.size ∧ w.cell? ⟨b, o + k, none⟩ = some u
theorem Cs.below {w w' : World} {V : Value} {n : Nat} {cs : List Value} (h : Cs w V n cs) (hb : Below w.heap.size w w') : Cs w' V n cs := by
  obtain ⟨A, c, rfl, h1, h2, h3⟩ := h
  refine ⟨A, c, rfl, h1, h2, fun k u hk => ?_⟩
  obtain ⟨b, o, rfl, hlt, hc⟩ := h3 k u hk
  exact ⟨b, o, rfl, Nat.lt_of_lt_of_le hlt hb.size, (hb.cell (p := ⟨b, o + k, none⟩) hlt).trans hc⟩
theorem Cs.chg {S : List Nat} {w w' : World} {V : Value} {n : Nat} {cs : List Value} (h : Cs w V n cs) (hc : Chg S w w') (hn : ∀ k ∈ foot V, k ∉ S) : Cs w' V n cs := by
  obtain ⟨A, c, rfl, h1, h2, h3⟩ := h
  refine ⟨A, c, rfl, h1, h2, fun k u hk => ?_⟩
  obtain ⟨b, o, rfl, hlt, he⟩ := h3 k u hk
  exact ⟨b, o, rfl, Nat.lt_of_lt_of_le hlt hc.size, (hc.cell (p := ⟨b, o + k, none⟩) hlt (hn b (by simp [foot_some]))).trans he⟩
theorem Cs.nil (w : World) : Cs w (.slice none 0 0) 0 [] := ⟨none, 0, rfl, by simp, by simp [maxLen], fun k u hk => by simp at hk⟩
theorem Cs.of_row {w : World} {e : TypeId} {size n : Nat} {V : Value} {xs : List Value} (h : Row w e size V n xs) : Cs w V n xs := by
  rcases h.2 with ⟨rfl, rfl⟩ | ⟨g, cap, cur, rfl, hg, hc, hm, hs, ht⟩
  · have : xs = [] := List.eq_nil_of_length_eq_zero (by simpa using h.1)
    subst this; exact Cs.nil w
  · refine ⟨_, _, rfl, hc, hm, fun k u hk => ⟨g, 0, rfl, hg.lt, ?_⟩⟩
    rw [hg.cell]
    rw [← ht, List.getElem?_take] at hk
    split at hk
    · simpa using hk
    · cases hk
/-- What a slice of at least one cell looks like. -/
theorem Cs.open_ {w : World} {V : Value} {n : Nat} {cs : List Value} (h : Cs w V n cs) (h0 : 0 < cs.length) : ∃ b o c, V = .slice (some ⟨b, o, none⟩) n c ∧ n ≤ c ∧ c ≤ maxLen ∧ b < w.heap.size ∧ ∀ k u, cs[k]? = some u → w.cell? ⟨b, o + k, none⟩ = some u := by
  obtain ⟨A, c, rfl, h1, h2, h3⟩ := h
  obtain ⟨b, o, rfl, hlt, _⟩ := h3 0 _ (List.getElem?_eq_getElem h0)
  refine ⟨b, o, c, rfl, h1, h2, hlt, fun k u hk => ?_⟩
  obtain ⟨b', o', he, _, hc⟩ := h3 k u hk
  simp only [Option.some.injEq, Addr.mk.injEq, and_true] at he
  obtain ⟨rfl, rfl⟩ := he
  exact hc
theorem Cs.val {w : World} {V : Value} {n : Nat} {cs : List Value} (h : Cs w V n cs) : ∃ A c, V = .slice A n c ∧ n ≤ c ∧ c ≤ maxLen := by
  obtain ⟨A, c, rfl, h1, h2, _⟩ := h; exact ⟨A, c, rfl, h1, h2⟩

/-! ### append, at any type of elements -/
def Elt (t e : TypeId) (size bytes : Nat) : Prop := Try.prog.underlying t = some (.slice e) ∧ ∃ i z, Try.prog.info? e = some i ∧ i.zero = some z ∧ i.size = size ∧ i.bytes = bytes ∧ z.cells.size = size
theorem run_append_cs {t e : TypeId} {size bytes : Nat} (E : Elt t e size bytes) (hpos : 0 < size) (w : World) (ty : TypeId) {v x : Value} {n m : Nat} {xs news : List Value} (hr : Row w e size v n xs) (hx : Cs w x m news) (hl : news.length = m * size) (h1 : ∀ u ∈ news, u.oneCell' = true)
    (h63 : n + m ≤ maxLen) (hbytes : (n + m) * bytes ≤ 140737488355328) :
    ∃ A' c' w', (Builtin.append_ #[t, t] ty #[v, x]).run Try.prog w = .ok (.slice A' (n + m) c') w' ∧ Row w' e size (.slice A' (n + m) c') (n + m) (xs ++ news) ∧ w.grownBy w' v.ownBlock ∧ (∀ k ∈ foot (.slice A' (n + m) c'), k ∈ foot v ∨ w.heap.size ≤ k) := by
  obtain ⟨ht, i, z, hi, hz, hz1, hz2, hzs⟩ := E
  rcases Nat.eq_zero_or_pos m with h0 | h0
  · subst h0
    have hn : news = [] := List.eq_nil_of_length_eq_zero (by simpa using hl)
    subst hn
    obtain ⟨A', c', rfl, hA'⟩ := hr.val
    have hle : n ≤ c' := by
      rcases hr.2 with ⟨hv, h0⟩ | ⟨g, cap, cur, hv, _, hc, _⟩
      · omega
      · injection hv with _ _ hv; omega
    obtain ⟨A, c, rfl, _⟩ := hx.val
    refine ⟨A', c', w, run_append_nothing w t t ty e i ht hi A' n c' hle (.slice A 0 c) ?_, by simpa using hr, World.grownBy.refl w _, fun k hk => .inl hk⟩
    have hc : ∀ W : World, (Builtin.firstCells i.size 0 (.slice A 0 c)).run Try.prog W = .ok #[] W := fun W => by
      cases A with
      | none => exact run_firstCells_none W i.size 0 0 c
      | some a => exact run_firstCells_some W i.size 0 a 0 c [] (by simp) (fun j u hj => by simp at hj)
    exact ⟨.inl ⟨e, ht⟩, fun w' => by simp [Builtin.lenOf], hc w, hc _, by simp, by simp⟩
  · obtain ⟨b, o, c, rfl, _, _, _, hcell⟩ := hx.open_ (by rw [hl]; exact Nat.mul_pos h0 hpos)
    obtain ⟨gg, cap, w', q1, q2, q3, q4, q5⟩ := run_append_row (P := Try.prog) w t ty e i z size bytes ht hi hz hz1 hz2 hzs v n xs hr ⟨b, o, none⟩ m c news hl
      (fun j u hu => by
        have hadd : (⟨b, o, none⟩ : Addr).add j = ⟨b, o + j, none⟩ := by unfold Addr.add; split <;> simp_all
        rw [hadd]
        exact hcell j u hu) h1 h0 h63 hbytes w.heap.size rfl
    exact ⟨_, _, w', q1, q2, q3, foot_grown q4 (fun k hk => hk)⟩
theorem wpList_append_cs {t e : TypeId} {size bytes : Nat} (E : Elt t e size bytes) (hpos : 0 < size) (w : World) {ops : Array Oper} {rest : List Oper} {o : Oper} {a : Act} {Q : Exit → Act → World → Prop} (hgd : o.guard = none) (s y : Operand)
    (ho : o.op = .call { callee := .builtin .append, args := #[s, y], argTypes := #[t, t] })
    {v x : Value} {n m k : Nat} {xs news : List Value} (hs : a.eval s = v) (hy : a.eval y = x) (hr : Row w e size v n xs) (hx : Cs w x m news) (hl : news.length = m * size) (h1 : ∀ u ∈ news, u.oneCell' = true)
    (h63 : n + m ≤ maxLen) (hbytes : (n + m) * bytes ≤ 140737488355328) (hk : k = n + m)
    (h : ∀ A' c' w', Row w' e size (.slice A' k c') k (xs ++ news) → w.grownBy w' v.ownBlock → (∀ j ∈ foot (.slice A' k c'), j ∈ foot v ∨ w.heap.size ≤ j) → wpList Try.prog ops Q rest (a.put o.dst (.slice A' k c')) w') : wpList Try.prog ops Q (o :: rest) a w := by
  subst hk
  obtain ⟨A', c', w', h2, h3, h4, h5⟩ := run_append_cs E hpos w o.type hr hx hl h1 h63 hbytes
  exact Lib.wpList_append_run w hgd s y t t ho v x hs hy _ w' h2 (h A' c' w' h3 h4 h5)
theorem step_append_cs {t e : TypeId} {size bytes : Nat} (E : Elt t e size bytes) (hpos : 0 < size) (w : World) {ops : Array Oper} {o : Oper} {a : Act} {K : Act → World → Prop} {Q : Exit → Act → World → Prop} {R : Prop} (hgd : o.guard = none) (s y : Operand)
    (ho : o.op = .call { callee := .builtin .append, args := #[s, y], argTypes := #[t, t] })
    {v x : Value} {n m k : Nat} {xs news : List Value} (hs : a.eval s = v) (hy : a.eval y = x) (hr : Row w e size v n xs) (hx : Cs w x m news) (hl : news.length = m * size) (h1 : ∀ u ∈ news, u.oneCell' = true)
    (h63 : n + m ≤ maxLen) (hbytes : (n + m) * bytes ≤ 140737488355328) (hk : k = n + m)
    (h : ∀ A' c' w', Row w' e size (.slice A' k c') k (xs ++ news) → w.grownBy w' v.ownBlock → (∀ j ∈ foot (.slice A' k c'), j ∈ foot v ∨ w.heap.size ≤ j) → K (a.put o.dst (.slice A' k c')) w') :
    if Region.wanted o (yielded ops a.tmps) = true then Oper.wp Try.prog o a w K Q else R := by
  have hw : Region.wanted o (yielded ops a.tmps) = true := by simp [Region.wanted, hgd]
  rw [if_pos hw]
  subst hk
  obtain ⟨A', c', w', h2, h3, h4, h5⟩ := run_append_cs E hpos w o.type hr hx hl h1 h63 hbytes
  unfold Oper.wp execOp
  simp only [ho, resolve, invoke, builtin, Sem.run_bind, Sem.run_pure, Result.andThen_ok, List.map_toArray, List.map_cons, List.map_nil, hs, hy, h2]
  exact h A' c' w' h3 h4 h5

/-! ### Bytes -/
abbrev bys (l : List UInt8) : List Value := Lib.byteCells l
theorem bys_length (l : List UInt8) : (bys l).length = l.length := by simp [Lib.byteCells]
theorem bys_append (a b : List UInt8) : bys (a ++ b) = bys a ++ bys b := by simp [Lib.byteCells]
theorem bys_at {l : List UInt8} {k : Nat} {x : UInt8} (h : l[k]? = some x) : (bys l)[k]? = some (.int .u8 x.toNat) := by simp [Lib.byteCells, h]
theorem bys_one (l : List UInt8) : ∀ u ∈ bys l, u.oneCell' = true := by
  intro u hu
  simp only [Lib.byteCells, List.mem_map] at hu
  obtain ⟨x, _, rfl⟩ := hu; rfl
theorem elt_bytes : Elt 22 5 1 1 := by
  obtain ⟨i, h1, h2, h3, h4⟩ := info_parts (show (Try.prog.info? 5).map (fun i => (i.zero, i.size, i.bytes)) = some (some (.int .u8 0), 1, 1) by kernel_rfl)
  exact ⟨Try.underlying22, i, _, h1, h2, h3, h4, rfl⟩
theorem elt_ins : Elt 52 45 4 4 := by
  obtain ⟨i, h1, h2, h3, h4⟩ := info_parts (show (Try.prog.info? 45).map (fun i => (i.zero, i.size, i.bytes)) = some (some (.agg #[.int .u8 0, .int .u8 0, .int .u8 0, .int .u8 0]), 4, 4) by kernel_rfl)
  exact ⟨Try.underlying52, i, _, h1, h2, h3, h4, rfl⟩
/-- The slice V reads as these bytes. -/
def By (w : World) (V : Value) (l : List UInt8) : Prop := Cs w V l.length (bys l)
theorem By.below {w w' : World} {V : Value} {l : List UInt8} (h : By w V l) (hb : Below w.heap.size w w') : By w' V l := Cs.below h hb
theorem By.nil (w : World) : By w (.slice none 0 0) [] := Cs.nil w
theorem By.of_row {w : World} {V : Value} {n : Nat} {l : List UInt8} (h : Row w 5 1 V n (bys l)) : By w V l := by
  have : n = l.length := by have := h.1; rw [bys_length] at this; omega
  subst this; exact Cs.of_row h
theorem By.val {w : World} {V : Value} {l : List UInt8} (h : By w V l) : ∃ A c, V = .slice A l.length c ∧ l.length ≤ c ∧ c ≤ maxLen := Cs.val h
theorem By.open_ {w : World} {V : Value} {l : List UInt8} (h : By w V l) (h0 : 0 < l.length) : ∃ b o c, V = .slice (some ⟨b, o, none⟩) l.length c ∧ l.length ≤ c ∧ c ≤ maxLen ∧ b < w.heap.size ∧ ∀ k x, l[k]? = some x → w.cell? ⟨b, o + k, none⟩ = some (.int .u8 x.toNat) := by
  obtain ⟨b, o, c, e, h1, h2, h3, h4⟩ := Cs.open_ h (by rw [bys_length]; exact h0)
  exact ⟨b, o, c, e, h1, h2, h3, fun k x hk => h4 k _ (bys_at hk)⟩
/-- A piece of it. -/
theorem By.cut {w : World} {b o n c : Nat} {l : List UInt8} (h : By w (.slice (some ⟨b, o, none⟩) n c) l) {i m c' : Nat} (hm : i + m ≤ l.length) (hc : m ≤ c') (hc' : c' ≤ maxLen) : By w (.slice (some ⟨b, o + i, none⟩) m c') ((l.drop i).take m) := by
  obtain ⟨A, cc, e, h1, h2, h3⟩ := h
  injection e with e1 e2 e3
  subst e1 e2 e3
  have hlen : ((l.drop i).take m).length = m := by rw [List.length_take, List.length_drop]; omega
  refine ⟨_, c', by rw [hlen], by rw [hlen]; exact hc, hc', fun k u hk => ?_⟩
  have hk2 : (bys l)[i + k]? = some u := by
    simp only [Lib.byteCells, List.getElem?_map, List.getElem?_take, List.getElem?_drop] at hk ⊢
    split at hk
    · exact hk
    · cases hk
  obtain ⟨b', o', he, hlt, hcell⟩ := h3 (i + k) u hk2
  simp only [Option.some.injEq, Addr.mk.injEq, and_true] at he
  obtain ⟨rfl, rfl⟩ := he
  exact ⟨b, o + i, rfl, hlt, by rw [Nat.add_assoc]; exact hcell⟩
end Go.Proofs
end
section
namespace Go.Proofs
open Go.RowKit
set_option linter.unusedVariables false
set_option linter.unusedSimpArgs false

/-! ### The map of forms -/
def formD (f : List UInt8 × List UInt8) : DataW Unit := .agg [.lit (.string f.1), .lit (.string f.2)]
def formV (f : List UInt8 × List UInt8) : Value := .agg #[.string ⟨f.1.toArray⟩, .string ⟨f.2.toArray⟩]
def formElem : Value → Option (DataW Unit × List MemPlace)
  | .agg xs => match xs.toList with
    | [.string a, .string b] => some (formD (a.data.toList, b.data.toList), [])
    | _ => none
  | _ => none
theorem formElem_V (f : List UInt8 × List UInt8) : formElem (formV f) = some (formD f, []) := rfl
theorem formElem_inv {v : Value} {y : DataW Unit × List MemPlace} (h : formElem v = some y) : ∃ f, v = formV f ∧ y = (formD f, []) := by
  unfold formElem at h
  split at h
  · rename_i xs
    split at h
    · rename_i a b hx
      refine ⟨(a.data.toList, b.data.toList), ?_, (Option.some.inj h).symm⟩
      have : xs = #[.string a, .string b] := by apply Array.ext'; rw [hx]
      rw [this]
      obtain ⟨⟨a⟩⟩ := a
      obtain ⟨⟨b⟩⟩ := b
      rfl
    · cases h
  · cases h
theorem formD_inj {f g : List UInt8 × List UInt8} (h : formD f = formD g) : f = g := by
  obtain ⟨a, b⟩ := f
  obtain ⟨c, d⟩ := g
  simp [formD] at h
  simp [h]
def keyL (o : UInt8) : Lit := .int .u8 o.toNat
def formsDL (l : List (UInt8 × List UInt8 × List UInt8)) : DataW Unit := .map (l.map fun e => (keyL e.1, formD e.2))
abbrev formsD : DataW Unit := formsDL formsL
theorem sameKey_key (a b : UInt8) : (keyL a).sameKey (keyL b) = (a == b) := by
  unfold keyL Lit.sameKey
  by_cases h : a = b
  · subst h; simp
  · have : ¬ ((a.toNat : Int) = (b.toNat : Int)) := fun e => h (UInt8.toNat_inj.1 (by omega))
    simp [this, h]
theorem atKey_forms (o : UInt8) (z : DataW Unit) : formsD.atKey (keyL o) z = match formAt o with | some f => formD f | none => z := by
  have : ((fun p : Lit × DataW Unit => p.1.sameKey (keyL o)) ∘ fun e : UInt8 × List UInt8 × List UInt8 => (keyL e.1, formD e.2)) = fun e => e.1 == o := by
    funext e; exact sameKey_key e.1 o
  simp only [formsD, formsDL, DataW.atKey, formAt, List.find?_map, this]
  cases formsL.find? fun e => e.1 == o <;> rfl
theorem law24 : Maps.Keyed Try.prog 43 := Maps.int_keyed Try.underlying43
theorem wf_u8 (o : UInt8) : (Lit.int .u8 o.toNat).wf = true := by
  have := o.toNat_lt
  simp [Lit.wf, IntKind.min, IntKind.max, IntKind.bits, IntKind.signed]; omega
theorem key_of_op (o : UInt8) : keyOf Try.prog 43 (.int .u8 o.toNat) = some (keyL o) := Maps.keyOf_int_mk Try.underlying43 (wf_u8 o)
theorem key_inv {key : Value} {kl : Lit} (h : keyOf Try.prog 43 key = some kl) : ∃ o : UInt8, key = .int .u8 o.toNat ∧ kl = keyL o := by
  obtain ⟨x, rfl, rfl, hw⟩ := Maps.keyOf_int_inv Try.underlying43 h
  have hx : 0 ≤ x ∧ x < 256 := by
    simp [Lit.wf, IntKind.min, IntKind.max, IntKind.bits, IntKind.signed] at hw; omega
  have e : ((UInt8.ofNat x.toNat).toNat : Int) = x := by rw [UInt8.toNat_ofNat']; omega
  exact ⟨UInt8.ofNat x.toNat, congrArg (Value.int .u8) e.symm, congrArg (Lit.int .u8) e.symm⟩
/-- At m lies the map of forms. -/
def FormsAt (w : World) (m : Nat) : Prop := w.ownsMap Try.prog 43 formElem m 9 formsD
theorem FormsAt.below {w w' : World} {m : Nat} (h : FormsAt w m) (hb : Below w.heap.size w w') : FormsAt w' m :=
  World.ownsMap.kept (row := none) h ⟨hb.os, hb.tape, hb.output, hb.size, fun i hi _ => hb.block i hi⟩ (by simp)
theorem FormsAt.lt {w : World} {m : Nat} (h : FormsAt w m) : m < w.heap.size := World.ownsMap.lt h
theorem form_zero (w : World) : (zeroValue 74).run Try.prog w = .ok (formV ([], [])) w := Try.zeroValue74 w
/-- Looking up. -/
theorem FormsAt.look {w : World} {m : Nat} (h : FormsAt w m) (o : UInt8) : (Instr.lookup 62 (.map (some m)) (.int .u8 o.toNat) true).run Try.prog w = .ok (.tuple #[formV ((formAt o).getD ([], [])), .bool (formAt o).isSome]) w := by
  obtain ⟨es, clock, hb, F, _, hD⟩ := h
  rcases Maps.fit_look true law24 Try.underlying62 (form_zero w) hb F (key_of_op o) with ⟨hrun, _, hat⟩ | ⟨e0, y, _, _, hrun, hRv, hat, _⟩
  · rw [hrun]
    rw [← hD] at hat
    cases hf : formAt o with
    | none => rfl
    | some f =>
      have h1 := hat (formD ([], [0]))
      have h2 := hat (formD ([], []))
      rw [atKey_forms, hf] at h1 h2
      have := formD_inj (h1.symm.trans h2)
      simp at this
  · rw [hrun]
    rw [← hD] at hat
    obtain ⟨f, he, rfl⟩ := formElem_inv hRv
    rw [he]
    cases hf : formAt o with
    | none =>
      have h1 := hat (formD ([], [0]))
      have h2 := hat (formD ([], []))
      rw [atKey_forms, hf] at h1 h2
      have := formD_inj (h1.trans h2.symm)
      simp at this
    | some g =>
      have h1 := hat (formD ([], []))
      rw [atKey_forms, hf] at h1
      have := formD_inj h1
      subst this; rfl
theorem wpList_insert_form {w : World} {mb n : Nat} {D : DataW Unit} (h : w.ownsMap Try.prog 43 formElem mb n D) {ops : Array Oper} {rest : List Oper} {o : Oper} {a : Act} {Q : Exit → Act → World → Prop}
    (hg : o.guard = none) (m x v : Operand) (hop : o.op = Op.insert 62 m x v) (hm : a.eval m = .map (some mb)) (k : UInt8) (hx : a.eval x = .int .u8 k.toNat) (f : List UInt8 × List UInt8) (hv : a.eval v = formV f)
    (hn : n < 100) (hK : ∀ w', w'.ownsMap Try.prog 43 formElem mb (n + 1) (D.put (keyL k) (formD f)) → w.grownBy w' (some mb) → wpList Try.prog ops Q rest (a.put o.dst undef) w') : wpList Try.prog ops Q (o :: rest) a w := by
  refine wpList_plain hg fun K' hK' => ?_
  obtain ⟨w', hrun, r1, r2⟩ := World.ownsMap.update h law24 Try.underlying62 (by unfold maxLen; omega) (key_of_op k) (formElem_V f)
  unfold Oper.wp
  simp [execOp, hop, hm, hx, hv, hrun, Result.andThen]
  exact hK' _ _ (hK w' r1 r2)
set_option maxRecDepth 100000 in
set_option maxHeartbeats 2000000 in
theorem forms_any (w : World) : Calls Try.prog 25 #[] w fun e w' => e = .returned (.map (some w.heap.size)) ∧ FormsAt w' w.heap.size ∧ Below w.heap.size w w' := by
  have hmm := @run_makeMap Try.prog
  have hD := World.ownsMap_made w Try.prog 43 formElem
  have hb := (Below.refl w.heap.size w).alloc (Nat.le_refl _) (.map #[] 0)
  go_enter Try.func25, Try.ntmps25
  go_wp2_with (first
    | (refine wpList_insert_form hD rfl _ _ _ rfl rfl 0 rfl (wNop, []) rfl (by decide) ?_; clear hD; intro w1 hD hg; replace hb := hb.grown hg (by have := hb.size; omega) (fun k hk => by cases hk; exact Nat.le_refl _); clear hg)
    | (refine wpList_insert_form hD rfl _ _ _ rfl rfl 1 rfl (wConst, [65, 78]) rfl (by decide) ?_; clear hD; intro w1 hD hg; replace hb := hb.grown hg (by have := hb.size; omega) (fun k hk => by cases hk; exact Nat.le_refl _); clear hg)
    | (refine wpList_insert_form hD rfl _ _ _ rfl rfl 2 rfl (wAdd, [65, 66, 67]) rfl (by decide) ?_; clear hD; intro w1 hD hg; replace hb := hb.grown hg (by have := hb.size; omega) (fun k hk => by cases hk; exact Nat.le_refl _); clear hg)
    | (refine wpList_insert_form hD rfl _ _ _ rfl rfl 3 rfl (wSub, [65, 66, 67]) rfl (by decide) ?_; clear hD; intro w1 hD hg; replace hb := hb.grown hg (by have := hb.size; omega) (fun k hk => by cases hk; exact Nat.le_refl _); clear hg)
    | (refine wpList_insert_form hD rfl _ _ _ rfl rfl 4 rfl (wMul, [65, 66, 67]) rfl (by decide) ?_; clear hD; intro w1 hD hg; replace hb := hb.grown hg (by have := hb.size; omega) (fun k hk => by cases hk; exact Nat.le_refl _); clear hg)
    | (refine wpList_insert_form hD rfl _ _ _ rfl rfl 5 rfl (wJump, [68]) rfl (by decide) ?_; clear hD; intro w1 hD hg; replace hb := hb.grown hg (by have := hb.size; omega) (fun k hk => by cases hk; exact Nat.le_refl _); clear hg)
    | (refine wpList_insert_form hD rfl _ _ _ rfl rfl 6 rfl (wZero, [65, 68]) rfl (by decide) ?_; clear hD; intro w1 hD hg; replace hb := hb.grown hg (by have := hb.size; omega) (fun k hk => by cases hk; exact Nat.le_refl _); clear hg)
    | (refine wpList_insert_form hD rfl _ _ _ rfl rfl 7 rfl (wCode, [65]) rfl (by decide) ?_; clear hD; intro w1 hD hg; replace hb := hb.grown hg (by have := hb.size; omega) (fun k hk => by cases hk; exact Nat.le_refl _); clear hg)
    | (refine wpList_insert_form hD rfl _ _ _ rfl rfl 17 rfl (wCall, [75]) rfl (by decide) ?_; clear hD; intro w1 hD hg; replace hb := hb.grown hg (by have := hb.size; omega) (fun k hk => by cases hk; exact Nat.le_refl _); clear hg))
  go_ret
  exact ⟨rfl, hD, hb⟩
end Go.Proofs
end
section
namespace Go.Proofs
open Go.RowKit
set_option linter.unusedVariables false
set_option linter.unusedSimpArgs false

/-! ### An op's form; is it an instruction? -/
def formOr (o : UInt8) : List UInt8 × List UInt8 := (formP o).getD ([], [])
set_option maxRecDepth 100000 in
theorem formOf_any (o : UInt8) (m : Nat) (w : World) (h : FormsAt w m) :
    Calls Try.prog 34 #[.map (some m), .int .u8 o.toNat] w fun e w' => e = .returned (.tuple #[formV (formOr o), .bool (formP o).isSome]) ∧ Below w.heap.size w w' := by
  have hL := fun (W : World) (hb : Below w.heap.size w W) (k : UInt8) => (h.below hb).look k
  have hlt := o.toNat_lt
  unfold formOr formP
  by_cases hc : 17 < o.toNat ∧ o.toNat ≤ 38
  · rw [if_pos hc]
    have hL := fun (W : World) (hb : Below w.heap.size w W) => hL W hb 17
    rw [show ((17 : UInt8).toNat : Int) = 17 from rfl] at hL
    obtain ⟨V, hV⟩ : ∃ V, V = (formAt 17).getD ([], []) := ⟨_, rfl⟩
    obtain ⟨B, hB⟩ : ∃ B, B = (formAt 17).isSome := ⟨_, rfl⟩
    rw [← hV, ← hB] at hL ⊢
    clear hV hB
    obtain ⟨v1, v2⟩ := V
    generalize o.toNat = o at *
    obtain ⟨O, hO⟩ : ∃ O : Int, O = (o : Int) := ⟨_, rfl⟩
    obtain ⟨h1, h2⟩ : 17 < O ∧ O ≤ 38 := by omega
    rw [← hO]
    clear hO hc hlt h
    have hL1 := hL _ ((Below.refl w.heap.size w).alloc (Nat.le_refl _) (.cells #[.string ⟨#[]⟩, .string ⟨#[]⟩] 74))
    unfold formV at hL1 ⊢
    go_enter Try.func34, Try.ntmps34
    go_wp2
    exact bodyPost_ret (v := .tuple #[.agg #[.string ⟨v1.toArray⟩, .string ⟨v2.toArray⟩], .bool B]) (by simp [results, Try.results34, go_sem]) rfl ⟨rfl, ((Below.refl _ _).alloc (Nat.le_refl _) _).alloc (by simp) _⟩
  · rw [if_neg hc]
    have hL := fun (W : World) (hb : Below w.heap.size w W) => hL W hb o
    obtain ⟨V, hV⟩ : ∃ V, V = (formAt o).getD ([], []) := ⟨_, rfl⟩
    obtain ⟨B, hB⟩ : ∃ B, B = (formAt o).isSome := ⟨_, rfl⟩
    rw [← hV, ← hB] at hL ⊢
    clear hV hB
    obtain ⟨v1, v2⟩ := V
    have hL1 := hL _ ((Below.refl w.heap.size w).alloc (Nat.le_refl _) (.cells #[.string ⟨#[]⟩, .string ⟨#[]⟩] 74))
    clear hL h
    obtain ⟨O, hO⟩ : ∃ O : Int, O = (o.toNat : Int) := ⟨_, rfl⟩
    have h1 : O ≤ 17 ∨ 38 < O := by omega
    rw [← hO] at hL1 ⊢
    clear hO hc hlt
    unfold formV at hL1 ⊢
    rcases h1 with h1 | h1
    all_goals
      go_enter Try.func34, Try.ntmps34
      go_wp2
      exact bodyPost_ret (v := .tuple #[.agg #[.string ⟨v1.toArray⟩, .string ⟨v2.toArray⟩], .bool B]) (by simp [results, Try.results34, go_sem]) rfl ⟨rfl, ((Below.refl _ _).alloc (Nat.le_refl _) _).alloc (by simp) _⟩
theorem noReg_any (x : Ins) (l : UInt8) (hl : isLetter l) (w : World) : Calls Try.prog 35 #[x.val, .int .i32 l.toNat] w fun e w' => e = .returned (.bool (noReg x l)) ∧ Below w.heap.size w w' := by
  have hN := named_any x l hl
  have hr : noReg x l = ((l == 65 || l == 66 || l == 67) && decide (8 ≤ x.named l)) := rfl
  obtain ⟨n, hn⟩ : ∃ n, n = x.named l := ⟨_, rfl⟩
  rw [hr]
  rw [← hn] at hN ⊢
  obtain ⟨o, a, b, c⟩ := x
  rw [Ins.val_eq] at hN ⊢
  have hb0 := (Below.refl w.heap.size w).alloc (Nat.le_refl _) (.cells #[.int .u8 o.toNat, .int .u8 a.toNat, .int .u8 b.toNat, .int .u8 c.toNat] 45)
  clear hn hr
  rcases hl with rfl | rfl | rfl | rfl | rfl | rfl
  · go_enter Try.func35, Try.ntmps35
    go_wp2_with (go_at_call 38; refine (hN _).mono ?_; rintro e w' ⟨rfl, hb⟩)
    go_ret
    exact ⟨rfl, hb0.trans (hb.mono (by simp))⟩
  · go_enter Try.func35, Try.ntmps35
    go_wp2_with (go_at_call 38; refine (hN _).mono ?_; rintro e w' ⟨rfl, hb⟩)
    go_ret
    exact ⟨rfl, hb0.trans (hb.mono (by simp))⟩
  · go_enter Try.func35, Try.ntmps35
    go_wp2_with (go_at_call 38; refine (hN _).mono ?_; rintro e w' ⟨rfl, hb⟩)
    go_ret
    exact ⟨rfl, hb0.trans (hb.mono (by simp))⟩
  all_goals
    clear hN
    go_enter Try.func35, Try.ntmps35
    go_wp2
    go_ret
    exact ⟨rfl, hb0⟩
end Go.Proofs
end
