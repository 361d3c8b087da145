import Derived.Test.YtocdkomjdcccoaaReL
import Derived.ArgAppend
namespace Go.Proofs
open Go.RowKit
set_option linter.unusedVariables false

/-- A list in new memory: at whatever place of its block. -/
def Mine (w0 w : World) (v : Value) (l : List Rf) : Prop := Rd w v l ∧ (∀ k ∈ foot v, w0.heap.size ≤ k) ∧ Chg [] w0 w
theorem Own.mine {w0 w : World} {v : Value} {l : List Rf} (h : Own w0 w v l) : Mine w0 w v l := ⟨h.rd, h.2⟩
theorem Mine.before {w0 w w1 : World} {v : Value} {l : List Rf} (h0 : Chg [] w0 w) (h : Mine w w1 v l) : Mine w0 w1 v l := ⟨h.1, fun k hk => Nat.le_trans h0.size (h.2.1 k hk), h0.then h.2.2⟩
theorem Mine.later {w w1 w2 : World} {v : Value} {l : List Rf} (h : Mine w w1 v l) (hc : Chg [] w1 w2) : Mine w w2 v l := ⟨h.1.quiet hc, h.2.1, h.2.2.then hc⟩
theorem Mine.nil {w w1 : World} (h : Chg [] w w1) : Mine w w1 (.slice none 0 0) [] := (Own.nil h).mine
theorem Mine.chg {w w1 w2 : World} {v : Value} {l : List Rf} {S : List Nat} (h : Mine w w1 v l) (hc : Chg S w1 w2) (hn : ∀ k ∈ foot v, k ∉ S) (hS : ∀ k ∈ S, w.heap.size ≤ k) : Mine w w2 v l :=
  ⟨h.1.chg hc hn, h.2.1, h.2.2.trans hc (fun k hk => .inr (hS k hk))⟩
theorem rd_cell {w : World} {b o n c : Nat} {l : List Rf} (h : Rd w (.slice (some ⟨b, o, none⟩) n c) l) {j : Nat} {u : Value} (hj : j < l.length * 2) {l' : List Rf} (hl : l'.length = l.length) (he : rfs l' = (rfs l).set j u) :
    Rd (w.setCell ⟨b, o + j, none⟩ u) (.slice (some ⟨b, o, none⟩) n c) l' := by
  obtain ⟨A', c', hv, h1, h2, h0, h3, h4⟩ := h
  simp only [Value.slice.injEq] at hv
  obtain ⟨rfl, rfl, rfl⟩ := hv
  obtain ⟨g, o', cs, he', hB, hs, r⟩ := h4 _ rfl
  simp only [Addr.mk.injEq, and_true] at he'
  obtain ⟨rfl, rfl⟩ := he'
  unfold Rd
  rw [hl]
  refine ⟨_, c, rfl, h1, h2, by rw [rfs_len, hl], fun h => (by cases h), fun a ha => ?_⟩
  cases ha
  refine ⟨b, o, _, rfl, hB.set_ (o + j) u, by simpa using hs, fun k v hk => ?_⟩
  rw [he, List.getElem?_set] at hk
  split at hk
  · rename_i e
    subst e
    split at hk
    · rw [Array.getElem?_setIfInBounds_self_of_lt (by omega)]
      exact hk
    · cases hk
  · rename_i e
    rw [Array.getElem?_setIfInBounds_ne (by omega)]
    exact r k v hk
theorem Mine.cell {w0 w : World} {b o n c : Nat} {l : List Rf} (h : Mine w0 w (.slice (some ⟨b, o, none⟩) n c) l) {j : Nat} {u : Value} (hj : j < l.length * 2) {l' : List Rf} (hl : l'.length = l.length) (he : rfs l' = (rfs l).set j u) :
    Mine w0 (w.setCell ⟨b, o + j, none⟩ u) (.slice (some ⟨b, o, none⟩) n c) l' :=
  ⟨rd_cell h.1 hj hl he, h.2.1, h.2.2.setCell (p := ⟨b, o + j, none⟩) (.inr (h.2.1 b (by simp [foot_some]))) _⟩
/-- A new Amount of the k-th one. -/
theorem Mine.set1 {w0 w : World} {b o n c : Nat} {l : List Rf} (h : Mine w0 w (.slice (some ⟨b, o, none⟩) n c) l) {k : Nat} {x : Rf} (hx : l[k]? = some x) (a : Int) :
    Mine w0 (w.setCell ⟨b, o + k * 2, none⟩ (.int .u64 a)) (.slice (some ⟨b, o, none⟩) n c) (l.set k (a, x.2)) := by
  have hk := (List.getElem?_eq_some_iff.1 hx).1
  exact h.cell (by omega) (by simp) (rfs_set1 l k x a hx)
/-- A new At of the k-th one. -/
theorem Mine.set2 {w0 w : World} {b o n c : Nat} {l : List Rf} (h : Mine w0 w (.slice (some ⟨b, o, none⟩) n c) l) {k : Nat} {x : Rf} (hx : l[k]? = some x) (a : Int) :
    Mine w0 (w.setCell ⟨b, o + k * 2 + 1, none⟩ (.int .u64 a)) (.slice (some ⟨b, o, none⟩) n c) (l.set k (x.1, a)) := by
  have hk := (List.getElem?_eq_some_iff.1 hx).1
  exact h.cell (j := k * 2 + 1) (by omega) (by simp) (rfs_set2 l k x a hx)
theorem blk_setCells2 (b : Nat) (t : TypeId) : ∀ (vs : List Value) (o : Nat) (w : World) (cs : Array Value), Blk w b t cs → o + vs.length ≤ cs.size → ∃ cs', Blk (w.setCells b o vs) b t cs' ∧ cs'.size = cs.size ∧ (∀ j, j < o → cs'[j]? = cs[j]?) ∧ ∀ j, j < vs.length → cs'[o + j]? = vs[j]?
  | [], o, w, cs, h, _ => ⟨cs, h, rfl, fun _ _ => rfl, fun j hj => by simp at hj⟩
  | v :: r, o, w, cs, h, hs => by
    obtain ⟨cs', h1, h2, h3, h4⟩ := blk_setCells2 b t r (o + 1) _ _ (h.set_ o v) (by simp at hs ⊢; omega)
    refine ⟨cs', h1, by rw [h2]; simp, fun j hj => ?_, fun j hj => ?_⟩
    · rw [h3 j (by omega), Array.getElem?_setIfInBounds_ne (by omega)]
    · cases j with
      | zero => rw [Nat.add_zero, h3 o (by omega), Array.getElem?_setIfInBounds_self_of_lt (by simp at hs; omega)]; rfl
      | succ j => rw [show o + (j + 1) = o + 1 + j by omega, h4 j (by simpa using hj)]; rfl
theorem addr_add (g o j : Nat) : (⟨g, o, none⟩ : Addr).add j = ⟨g, o + j, none⟩ := by unfold Addr.add; split <;> simp_all
/-- append onto a list at whatever place of its block. -/
theorem run_append_any (w : World) (ty : TypeId) {v x : Value} {xs l : List Rf} (hr : Rd w v xs) (hx : Rd w x l) (hl0 : 0 < l.length) (hb : xs.length + l.length ≤ 1000000) :
    ∃ A' c' w', (Builtin.append_ #[40, 40] ty #[v, x]).run Try.prog w = .ok (.slice A' (xs.length + l.length) c') w' ∧ Rd w' (.slice A' (xs.length + l.length) c') (xs ++ l) ∧ Chg (foot v) w w' ∧ (∀ k ∈ foot (.slice A' (xs.length + l.length) c'), k ∈ foot v ∨ w.heap.size ≤ k) := by
  obtain ⟨i0, hi0, hz0, hz1, hz2⟩ := info_parts rf_info
  obtain ⟨A, c, rfl, h1, h2, h0, h3, h4⟩ := hr
  have hrx := hx
  obtain ⟨A2, c2, rfl, p1, p2, p0, p3, p4⟩ := hx
  have one : ∀ u ∈ rfs l, u.oneCell' = true := by
    intro u hu
    unfold rfs at hu
    obtain ⟨y, _, hy⟩ := List.mem_flatMap.1 hu
    simp [rfCells] at hy
    rcases hy with rfl | rfl <;> rfl
  cases A with
  | none =>
    have hc0 := h3 rfl
    have hxs : xs = [] := List.eq_nil_of_length_eq_zero (by omega)
    subst hxs hc0
    obtain ⟨A', c', w', q1, q2, q3, q4⟩ := run_append_rs (n := 0) (xs := []) w ty (Row.nil w 47 2) hrx (by simpa using hb)
    rw [Nat.zero_add] at q1 q2 q4
    refine ⟨A', c', w', by simpa using q1, ?_, ?_, ?_⟩
    · simp only [List.length_nil, Nat.zero_add]
      have := Rs.of_row q2
      exact this
    · exact (Chg.refl _ _).grown q3 (fun k hk => by cases hk)
    · simpa using q4
  | some a0 =>
    obtain ⟨g, o, cs, rfl, hB, hs, r⟩ := h4 _ rfl
    cases A2 with
    | none => have := p3 rfl; omega
    | some a2 =>
      obtain ⟨g2, o2, cs2, rfl, hB2, hs2, r2⟩ := p4 _ rfl
      have hnews : ∀ j u, (rfs l)[j]? = some u → w.cell? ((⟨g2, o2, none⟩ : Addr).add j) = some u := fun j u hu => by rw [addr_add, hB2.cell]; exact r2 j u hu
      by_cases hroom : xs.length + l.length ≤ c
      · have hcell : o + xs.length * 2 + (rfs l).length ≤ cs.size := by rw [rfs_len]; omega
        have hrun := run_append_room_cells (P := Try.prog) w 40 ty 47 i0 Try.underlying40 hi0 g o xs.length c ⟨g2, o2, none⟩ l.length c2 (rfs l) (by rw [rfs_len, hz1]) hnews one hroom
          (fun j hj => by rw [hB.cell, hz1]; simp; omega) (fun j hj => hB.frozen _)
        rw [hz1] at hrun
        obtain ⟨cs', k1, k2, k3, k4⟩ := blk_setCells2 g 47 (rfs l) (o + xs.length * 2) w cs hB hcell
        refine ⟨_, c, _, hrun, ?_, (chg_setCells g _ _ w).mono (fun k hk => .inl (by simpa [foot_some] using hk)), fun k hk => .inl hk⟩
        unfold Rd
        rw [List.length_append]
        refine ⟨_, c, rfl, hroom, h2, by rw [rfs_len, List.length_append], fun h => (by cases h), fun a ha => ?_⟩
        cases ha
        refine ⟨g, o, cs', rfl, k1, by omega, fun j u hj => ?_⟩
        rw [rfs_append] at hj
        by_cases hjl : j < xs.length * 2
        · rw [List.getElem?_append_left (by rw [rfs_len]; exact hjl)] at hj
          rw [k3 _ (by omega)]
          exact r j u hj
        · rw [List.getElem?_append_right (by rw [rfs_len]; omega), rfs_len] at hj
          have hjl2 := (List.getElem?_eq_some_iff.1 hj).1
          rw [show o + j = o + xs.length * 2 + (j - xs.length * 2) by omega, k4 _ hjl2]
          exact hj
      · have hrun := run_append_grow (P := Try.prog) w 40 ty 47 i0 (.agg #[.int .u64 0, .int .u64 0]) Try.underlying40 hi0 hz0 ⟨g, o, none⟩ xs.length c (rfs xs) (by rw [rfs_len, hz1]) (fun j u hu => by rw [addr_add, hB.cell]; exact r j u hu)
          ⟨g2, o2, none⟩ l.length c2 (rfs l) (by rw [rfs_len, hz1]) hnews (by omega) (by omega) (growslice_fits (by omega) (by rw [hz2]; omega))
        refine ⟨_, _, _, hrun, ?_, (Chg.refl _ _).drew.alloc _, fun k hk => .inr (by simp [foot_some] at hk; omega)⟩
        unfold Rd
        rw [List.length_append]
        have hge := grownCap_ge w (xs.length + l.length) c 47
        have hcm : grownCap w (xs.length + l.length) c 47 ≤ maxLen := grownCap_le_maxLen w _ _ _ (by unfold maxLen; omega)
        refine Rs.of_row ⟨by rw [rfs_len, List.length_append], .inr ⟨w.heap.size, _, _, rfl, heap_alloc_new w.drew _, hge, hcm, ?_, ?_⟩⟩
        · simp only [Array.size_append, List.size_toArray, size_zeroCells, rfs_len, Value.cells]
          simp
          omega
        · simp only [Array.toList_append, List.append_assoc]
          rw [← List.append_assoc, ← rfs_append]
          rw [show (xs.length + l.length) * 2 = (rfs (xs ++ l)).length by rw [rfs_len, List.length_append]]
          exact List.take_left
theorem wpList_append_any (w : World) {ops : Array Oper} {rest : List Oper} {o : Oper} {a : Act} {Q : Exit → Act → World → Prop} (hgd : o.guard = none) (s y : Operand)
    (ho : o.op = .call { callee := .builtin .append, args := #[s, y], argTypes := #[40, 40] })
    {v x : Value} {xs l : List Rf} {N : Nat} (hs : a.eval s = v) (hy : a.eval y = x) (hr : Rd w v xs) (hx : Rd w x l) (hl0 : 0 < l.length) (hb : xs.length + l.length ≤ 1000000) (hN : N = xs.length + l.length)
    (h : ∀ A' c' w', Rd w' (.slice A' N c') (xs ++ l) → Chg (foot v) w w' → (∀ k ∈ foot (.slice A' N c'), k ∈ foot v ∨ w.heap.size ≤ k) → wpList Try.prog ops Q rest (a.put o.dst (.slice A' N c')) w') : wpList Try.prog ops Q (o :: rest) a w := by
  subst hN
  obtain ⟨A', c', w', h1, h2, h3, h4⟩ := run_append_any w o.type hr hx hl0 hb
  exact Lib.wpList_append_run w hgd s y 40 40 ho v x hs hy _ w' h1 (h A' c' w' h2 h3 h4)
theorem Mine.append {w w1 w2 : World} {v v' : Value} {xs l : List Rf} (h : Mine w w1 v xs) (hr : Rd w2 v' (xs ++ l)) (hg : Chg (foot v) w1 w2) (hf : ∀ k ∈ foot v', k ∈ foot v ∨ w1.heap.size ≤ k) : Mine w w2 v' (xs ++ l) := by
  refine ⟨hr, fun k hk => ?_, h.2.2.trans hg (fun k hk => .inr (h.2.1 k hk))⟩
  rcases hf k hk with h1 | h1
  · exact h.2.1 k h1
  · have := h.2.2.size; omega
end Go.Proofs
