import Derived.Test.YtelkndhifkmpiaaHeT
import Derived.Deep.Upon
import Derived.Lib.AppendZerosOnto
import Derived.Lib.SliceRun
namespace Go.Proofs
open Go.RowKit
set_option linter.unusedVariables false

/-! ### The document's heap: a list in order -/
theorem run_append_rs (w : World) (ty : TypeId) {v x : Value} {xs l : List (Int × Int)} {n m : Nat} (hr : Row w 39 2 v n (nms xs)) (hx : Rs w 39 2 x m (nms l)) (hb : n + m ≤ 1000000) :
    ∃ A' c' w', (Builtin.append_ #[27, 27] ty #[v, x]).run Try.prog w = .ok (.slice A' (n + m) c') w' ∧ Row w' 39 2 (.slice A' (n + m) c') (n + m) (nms (xs ++ l)) ∧ w.grownBy w' v.ownBlock ∧ (∀ k ∈ foot (.slice A' (n + m) c'), k ∈ foot v ∨ w.heap.size ≤ k) := by
  obtain ⟨i0, hi0, hz0, hz1, hz2⟩ := info_parts nm_info
  have hll := hx.nlen
  obtain ⟨A, c, rfl, h1, h2, h0, h3, h4⟩ := hx
  rcases Nat.eq_zero_or_pos m with hm | hm
  · subst hm
    have hl : l = [] := List.eq_nil_of_length_eq_zero hll.symm
    subst hl
    obtain ⟨A', c', rfl, hA'⟩ := hr.val
    have hle : n ≤ c' := by
      rcases hr.2 with ⟨hv, h0⟩ | ⟨g, cap, cur, hv, _, hc, _⟩
      · omega
      · injection hv with _ _ hv; omega
    refine ⟨A', c', w, run_append_nothing w 27 27 ty 39 i0 Try.underlying27 hi0 A' n c' hle (.slice A 0 c) ?_, by simpa using hr, World.grownBy.refl w _, fun k hk => .inl hk⟩
    have hc : ∀ W : World, (Builtin.firstCells i0.size 0 (.slice A 0 c)).run Try.prog W = .ok #[] W := fun W => by
      cases A with
      | none => exact run_firstCells_none W i0.size 0 0 c
      | some a => exact run_firstCells_some W i0.size 0 a 0 c [] (by simp) (fun j u hj => by simp at hj)
    exact ⟨.inl ⟨39, Try.underlying27⟩, fun w' => by simp [Builtin.lenOf], hc w, hc _, by simp, by simp⟩
  · cases A with
    | none => have := h3 rfl; omega
    | some a =>
      obtain ⟨g, o, cs, rfl, hB, hs, r⟩ := h4 a rfl
      obtain ⟨gg, cap, w', q1, q2, q3, q4, q5⟩ := run_append_row (P := Try.prog) w 27 ty 39 i0 (.agg #[.int .u64 0, .int .i64 0]) 2 16 Try.underlying27 hi0 hz0 hz1 hz2 rfl v n (nms xs) hr ⟨g, o, none⟩ m c (nms l) h0
        (fun j u hu => by
          have hadd : (⟨g, o, none⟩ : Addr).add j = ⟨g, o + j, none⟩ := by unfold Addr.add; split <;> simp_all
          rw [hadd, hB.cell]
          exact r j u hu) (by
          intro u hu
          unfold nms at hu
          obtain ⟨y, _, hy⟩ := List.mem_flatMap.1 hu
          simp [nmCells] at hy
          rcases hy with rfl | rfl <;> rfl) hm (by unfold maxLen; omega) (by omega) w.heap.size rfl
      rw [← nms_append] at q2
      exact ⟨_, _, w', q1, q2, q3, foot_grown q4 (fun k hk => hk)⟩
theorem wpList_append_rs (w : World) {ops : Array Oper} {rest : List Oper} {o : Oper} {a : Act} {Q : Exit → Act → World → Prop} (hgd : o.guard = none) (s y : Operand)
    (ho : o.op = .call { callee := .builtin .append, args := #[s, y], argTypes := #[27, 27] })
    {v x : Value} {xs l : List (Int × Int)} {n m N : Nat} (hs : a.eval s = v) (hy : a.eval y = x) (hr : Row w 39 2 v n (nms xs)) (hx : Rs w 39 2 x m (nms l)) (hb : n + m ≤ 1000000) (hN : N = n + m)
    (h : ∀ A' c' w', Row w' 39 2 (.slice A' N c') N (nms (xs ++ l)) → w.grownBy w' v.ownBlock → (∀ k ∈ foot (.slice A' N c'), k ∈ foot v ∨ w.heap.size ≤ k) → wpList Try.prog ops Q rest (a.put o.dst (.slice A' N c')) w') : wpList Try.prog ops Q (o :: rest) a w := by
  subst hN
  obtain ⟨A', c', w', h1, h2, h3, h4⟩ := run_append_rs w o.type hr hx hb
  exact Lib.wpList_append_run w hgd s y 27 27 ho v x hs hy _ w' h1 (h A' c' w' h2 h3 h4)
theorem step_append_rs (w : World) {ops : Array Oper} {o : Oper} {a : Act} {K : Act → World → Prop} {Q : Exit → Act → World → Prop} {E : Prop} (hgd : o.guard = none) (s y : Operand)
    (ho : o.op = .call { callee := .builtin .append, args := #[s, y], argTypes := #[27, 27] })
    {v x : Value} {xs l : List (Int × Int)} {n m N : Nat} (hs : a.eval s = v) (hy : a.eval y = x) (hr : Row w 39 2 v n (nms xs)) (hx : Rs w 39 2 x m (nms l)) (hb : n + m ≤ 1000000) (hN : N = n + m)
    (h : ∀ A' c' w', Row w' 39 2 (.slice A' N c') N (nms (xs ++ l)) → w.grownBy w' v.ownBlock → (∀ k ∈ foot (.slice A' N c'), k ∈ foot v ∨ w.heap.size ≤ k) → K (a.put o.dst (.slice A' N c')) w') :
    if Region.wanted o (yielded ops a.tmps) = true then Oper.wp Try.prog o a w K Q else E := by
  subst hN
  have hw : Region.wanted o (yielded ops a.tmps) = true := by simp [Region.wanted, hgd]
  rw [if_pos hw]
  obtain ⟨A', c', w', h1, h2, h3, h4⟩ := run_append_rs w o.type hr hx hb
  unfold Oper.wp execOp
  simp only [ho, resolve, invoke, builtin, Sem.run_bind, Sem.run_pure, Result.andThen_ok, List.map_toArray, List.map_cons, List.map_nil, hs, hy, h1]
  exact h A' c' w' h2 h3 h4
theorem nms_take (l : List (Int × Int)) (k : Nat) : (nms l).take (k * 2) = nms (l.take k) := flat_take nmCells_len l k
theorem nms_drop (l : List (Int × Int)) (k : Nat) : (nms l).drop (k * 2) = nms (l.drop k) := flat_drop nmCells_len l k
theorem Rs.first {w : World} {b o n c : Nat} {l : List (Int × Int)} (h : Rs w 39 2 (.slice (some ⟨b, o, none⟩) n c) n (nms l)) {i : Nat} (hi : i ≤ n) : Rs w 39 2 (.slice (some ⟨b, o, none⟩) i c) i (nms (l.take i)) := by
  have hc : n ≤ c := by obtain ⟨A, c', hv, h1, _⟩ := h; injection hv with _ _ hv; omega
  have := h.cut (i := 0) (j := i) (k := c) (Nat.zero_le _) hi (by omega) (Nat.le_refl _)
  simpa [nms_take] using this
theorem Rs.rest {w : World} {b o n c : Nat} {l : List (Int × Int)} (h : Rs w 39 2 (.slice (some ⟨b, o, none⟩) n c) n (nms l)) {i : Nat} (hi : i ≤ n) : Rs w 39 2 (.slice (some ⟨b, o + i * 2, none⟩) (n - i) (c - i)) (n - i) (nms (l.drop i)) := by
  have hc : n ≤ c := by obtain ⟨A, c', hv, h1, _⟩ := h; injection hv with _ _ hv; omega
  have hl := h.nlen
  have := h.cut (i := i) (j := n) (k := c) hi (Nat.le_refl _) hc (Nat.le_refl _)
  rw [nms_drop, List.take_of_length_le (by rw [nms_len, List.length_drop]; omega)] at this
  exact this
theorem Rs.none_ {w : World} {b o n c : Nat} {l : List (Int × Int)} (h : Rs w 39 2 (.slice (some ⟨b, o, none⟩) n c) n (nms l)) : Rs w 39 2 (.slice (some ⟨b, o, none⟩) 0 0) 0 (nms []) := by
  have := h.cut (i := 0) (j := 0) (k := 0) (Nat.le_refl _) (Nat.zero_le _) (Nat.le_refl _) (Nat.zero_le _)
  simpa [nms] using this
theorem Rs.one {w : World} {b : Nat} {x : Int × Int} (h : Blk w b 39 #[.int .u64 x.1, .int .i64 x.2]) : Rs w 39 2 (.slice (some ⟨b, 0, none⟩) 1 1) 1 (nms [x]) :=
  ⟨_, 1, rfl, Nat.le_refl _, by unfold maxLen; omega, rfl, fun h => (by cases h), fun a ha => by
    cases ha
    refine ⟨b, 0, _, rfl, h, by simp, fun j u hj => ?_⟩
    rw [Nat.zero_add]
    match j, hj with
    | 0, hj => simpa [nms, nmCells] using hj
    | 1, hj => simpa [nms, nmCells] using hj⟩
/-- The document's heap in memory: at block r; S: its blocks. -/
def RefAt (w : World) (r : Nat) (S : List Nat) (l : List (Int × Int)) : Prop :=
  ∃ V, Blk w r 29 #[V] ∧ Rs w 39 2 V l.length (nms l) ∧ S = r :: foot V
section
variable {w w' : World} {r : Nat} {S : List Nat} {l : List (Int × Int)}
theorem RefAt.lt (h : RefAt w r S l) : ∀ k ∈ S, k < w.heap.size := by
  obtain ⟨V, hB, hR, rfl⟩ := h
  intro k hk
  simp at hk
  rcases hk with rfl | hk
  · exact hB.lt
  · exact hR.lt k hk
theorem RefAt.mem (h : RefAt w r S l) : r ∈ S := by obtain ⟨V, hB, hR, rfl⟩ := h; simp
theorem RefAt.same (h : RefAt w r S l) (hk : ∀ k ∈ S, w'.heap[k]? = w.heap[k]?) : RefAt w' r S l := by
  obtain ⟨V, hB, hR, rfl⟩ := h
  exact ⟨V, hB.same (hk r (by simp)), hR.same (fun k h => hk k (by simp [h])), rfl⟩
theorem RefAt.chg {S' : List Nat} (h : RefAt w r S l) (hc : Chg S' w w') (hn : ∀ k ∈ S, k ∉ S') : RefAt w' r S l := h.same fun k hk => hc.block k (h.lt k hk) (hn k hk)
theorem RefAt.quiet (h : RefAt w r S l) (hc : Chg [] w w') : RefAt w' r S l := h.chg hc (fun _ _ hk => by cases hk)
end
/-- What a call on the document's heap leaves. -/
def RTurns (r : Nat) (S : List Nat) (l : List (Int × Int)) (w w' : World) : Prop :=
  ∃ S', RefAt w' r S' l ∧ (∀ k ∈ S', k ∈ S ∨ w.heap.size ≤ k) ∧ Chg [r] w w'
theorem RTurns.put {r : Nat} {S : List Nat} {l : List (Int × Int)} {w w1 : World} {V V1 : Value} (hB : Blk w r 29 #[V]) (hg : r ∈ S) (hc : Chg [] w w1) (hV : Rs w1 39 2 V1 l.length (nms l)) (hS : ∀ k ∈ foot V1, k ∈ S ∨ w.heap.size ≤ k) :
    RTurns r S l w (w1.setCell ⟨r, 0, none⟩ V1) := by
  have hB1 := hB.chg hc (by simp)
  have hgV : r ∉ foot V1 := hV.ty hB1 (by decide)
  refine ⟨r :: foot V1, ⟨V1, hB1.set_ 0 V1, hV.same fun k hk => Below.heap_setCell _ _ _ _ (fun e => hgV (by have : k = r := e; rw [← this]; exact hk)), rfl⟩, fun k hk => ?_, hc.any.setCell (p := ⟨r, 0, none⟩) (.inl (by simp)) V1⟩
  simp at hk
  rcases hk with rfl | hk
  · exact .inl hg
  · exact hS k hk
theorem RTurns.refl {r : Nat} {S : List Nat} {l : List (Int × Int)} {a b : World} (h : RefAt a r S l) (hc : Chg [] a b) : RTurns r S l a b := ⟨S, h.quiet hc, fun k hk => .inl hk, hc.any⟩
theorem RTurns.later {r : Nat} {S : List Nat} {l : List (Int × Int)} {a b c : World} (h : RTurns r S l a b) (hc : Chg [] b c) : RTurns r S l a c := by
  obtain ⟨S', h1, h2, h3⟩ := h
  exact ⟨S', h1.quiet hc, h2, h3.then hc⟩
/-- Where an ID stands. -/
def idAt (id : Int) (l : List (Int × Int)) : Nat := l.findIdx (fun x => x.2 == id)
def hasP (id : Int) (l : List (Int × Int)) : Bool := l.any (fun x => x.2 == id)
def idI (id : Int) (l : List (Int × Int)) : Int := if hasP id l then (idAt id l : Nat) else -1
theorem hasP_lt {id : Int} {l : List (Int × Int)} : hasP id l = true ↔ idAt id l < l.length := by
  unfold hasP idAt
  rw [List.findIdx_lt_length]
  simp
theorem idAt_first {id : Int} {l : List (Int × Int)} {k : Nat} {x : Int × Int} (h : ∀ j y, j < k → l[j]? = some y → y.2 ≠ id) (hk : l[k]? = some x) (hx : x.2 = id) : idI id l = (k : Nat) := by
  have hl := (List.getElem?_eq_some_iff.1 hk).1
  have hxx := (List.getElem?_eq_some_iff.1 hk).2
  have e : idAt id l = k := by
    unfold idAt
    rw [List.findIdx_eq hl]
    refine ⟨by rw [hxx]; simpa using hx, fun j hj => ?_⟩
    have := h j _ hj (List.getElem?_eq_getElem (by omega))
    simpa using this
  unfold idI
  rw [if_pos (hasP_lt.2 (by omega)), e]
theorem idAt_none {id : Int} {l : List (Int × Int)} (h : ∀ j y, j < l.length → l[j]? = some y → y.2 ≠ id) : idI id l = -1 := by
  unfold idI
  rw [if_neg]
  unfold hasP
  simp only [List.any_eq_true, beq_iff_eq, not_exists, not_and]
  intro x hx e
  obtain ⟨j, hj, hje⟩ := List.mem_iff_getElem.1 hx
  exact h j x hj (by rw [List.getElem?_eq_getElem hj, hje]) e
set_option maxHeartbeats 1600000 in
set_option maxRecDepth 100000 in
theorem rfind_any {w : World} {r : Nat} {S : List Nat} {l : List (Int × Int)} (h : RefAt w r S l) (hn : l.length ≤ 100000) (id : Int) :
    Calls Try.prog 36 #[.pointer (some ⟨r, 0, none⟩), .int .i64 id] w fun e w' => e = .returned (.int .i64 (idI id l)) ∧ w = w' := by
  obtain ⟨V, hB, hR, _⟩ := h
  obtain ⟨A, c, rfl, _⟩ := _root_.id hR
  have HC := Lib.hid hR.nm
  have c0 := hB.cell 0
  obtain ⟨n, hnl⟩ : ∃ n, n = l.length := ⟨_, rfl⟩
  rw [← hnl] at hn
  simp only [List.getElem?_toArray, List.getElem?_cons_zero, ← hnl] at c0
  have HN := Lib.hid hnl
  clear hB hR hnl
  go_enter Try.func36, Try.ntmps36
  go_wp2
  go_loop [5] (fun i => ∃ k : Nat, k ≤ n ∧ i = .int .i64 k ∧ Hid (∀ j (y : Int × Int), j < k → l[j]? = some y → y.2 ≠ id)) (fun i => n - (intOf' i).toNat)
  case atStart => exact ⟨0, Nat.zero_le _, rfl, Lib.hid fun j y hj => by omega⟩
  case round =>
    obtain ⟨k, hk, rfl, HE⟩ := hrel
    by_cases hlt : k < n
    · obtain ⟨y, hy⟩ : ∃ y, l[k]? = some y := ⟨_, List.getElem?_eq_getElem (by rw [← HN.out]; exact hlt)⟩
      obtain ⟨b, o, rfl, _, p0, p1⟩ := HC.out k y hy
      have HY := Lib.hid hy
      have k0 : (0 : Int) ≤ (k : Int) := by omega
      have k1 : (k : Int) < (n : Int) := by omega
      clear hy
      by_cases hxy : y.2 = id
      · have HZ := Lib.hid (idAt_first HE.out HY.out hxy)
        have hb : (y.2 == id) = true := by simpa using hxy
        clear hxy
        go_wp2
        go_ret
        exact ⟨by rw [HZ.out]; rfl, rfl⟩
      · have hb : (y.2 == id) = false := by simpa using hxy
        have HX := Lib.hid hxy
        clear hxy
        go_wp2
        go_round
        case rel =>
          refine ⟨k + 1, by omega, by go_num, Lib.hid fun j z hj hz => ?_⟩
          by_cases e : j = k
          · subst e
            rw [HY.out] at hz
            cases hz
            exact HX.out
          · exact HE.out j z (by omega) hz
        case measure => simp [intOf']; omega
    · obtain rfl : k = n := by omega
      have HZ := Lib.hid (idAt_none (id := id) (l := l) (by rw [← HN.out]; exact HE.out))
      go_wp2
      go_ret
      exact ⟨by rw [HZ.out]; rfl, rfl⟩
theorem idI_ge {id : Int} {l : List (Int × Int)} : decide (idI id l ≥ 0) = hasP id l := by
  unfold idI
  cases h : hasP id l with
  | true => simp
  | false => simp
theorem rhas_any {w : World} {r : Nat} {S : List Nat} {l : List (Int × Int)} (h : RefAt w r S l) (hn : l.length ≤ 100000) (id : Int) :
    Calls Try.prog 26 #[.pointer (some ⟨r, 0, none⟩), .int .i64 id] w fun e w' => e = .returned (.bool (hasP id l)) ∧ w = w' := by
  have HF := rfind_any h hn id
  rw [← idI_ge]
  obtain ⟨q, hq⟩ : ∃ q, q = idI id l := ⟨_, rfl⟩
  rw [← hq] at HF ⊢
  clear hq
  go_enter Try.func26, Try.ntmps26
  go_wp2_with (go_at_call 36; refine HF.mono ?_; rintro e w' ⟨rfl, rfl⟩)
  go_ret
  exact ⟨rfl, rfl⟩
end Go.Proofs
