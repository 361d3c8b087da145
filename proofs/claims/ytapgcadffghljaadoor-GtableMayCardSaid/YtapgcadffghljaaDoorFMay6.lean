import Derived.Test.YtapgcadffghljaaDoorFMay5
import Derived.Deep.Cut
import Derived.Deep.RegionWith
import Derived.Deep.RegionHeld3
import Derived.BigRegion
import Derived.Test.YtapgcadffghljaaDoorFMay3
import Derived.Maps.Own
import Derived.BigQuiet
import Derived.StillTailTactics
import Derived.Test.YtapgcadffghljaaDoorFMay4
section
namespace Go.Proofs
open Go.RowKit
set_option linter.unusedVariables false
set_option linter.unusedSimpArgs false

abbrev ptr (p : Nat) : Value := .pointer (some ⟨p, 0, none⟩)
/-- The table of goroutines lies at block c: it points at a table of layer 2, whose blocks are S. -/
def GAt (w : World) (c : Nat) (S : List Nat) (t : Tab Gr) : Prop := ∃ g, Blk w c 54 #[ptr g] ∧ TabAt w g S t ∧ t.WF
section
variable {w w' : World} {c : Nat} {S : List Nat} {t : Tab Gr}
theorem GAt.same (h : GAt w c S t) (hc : w'.heap[c]? = w.heap[c]?) (hk : ∀ k ∈ S, w'.heap[k]? = w.heap[k]?) : GAt w' c S t := by
  obtain ⟨g, hB, hT, hW⟩ := h
  exact ⟨g, hB.same hc, hT.same hk, hW⟩
theorem GAt.lt (h : GAt w c S t) : c < w.heap.size ∧ ∀ k ∈ S, k < w.heap.size := by
  obtain ⟨g, hB, hT, hW⟩ := h
  exact ⟨hB.lt, hT.lt⟩
theorem GAt.chg {S' : List Nat} (h : GAt w c S t) (hc : Chg S' w w') (hn : c ∉ S') (hk : ∀ k ∈ S, k ∉ S') : GAt w' c S t := by
  obtain ⟨g, hB, hT, hW⟩ := h
  exact ⟨g, hB.chg hc hn, hT.chg hc hk, hW⟩
theorem GAt.quiet (h : GAt w c S t) (hc : Chg [] w w') : GAt w' c S t := h.chg hc (by simp) (fun _ _ hk => by cases hk)
theorem GAt.ty (h : GAt w c S t) {b : Nat} {e : TypeId} {cs : Array Value} (hb : Blk w b e cs) (h0 : e ≠ 54) (h1 : e ≠ 62) (h2 : e ≠ 67) (h3 : e ≠ 3) : b ≠ c ∧ b ∉ S := by
  obtain ⟨g, hB, hT, hW⟩ := h
  exact ⟨hb.ty hB h0, hT.ty hb h1 h2 h3⟩
end
theorem places_any {w : World} {c : Nat} {V : Value} (h : Blk w c 54 #[V]) : Calls Tryd.prog 24 #[ptr c] w fun e w' => e = .returned V ∧ w = w' := by
  have c0 := h.cell 0
  clear h
  go_enter Tryd.func24, Tryd.ntmps24
  go_wp2
  go_ret
  exact ⟨rfl, rfl⟩
theorem gnone_any {w : World} {c g : Nat} (h : Blk w c 54 #[ptr g]) : Calls Tryd.prog 20 #[ptr c] w fun e w' => e = .returned (.bool false) ∧ w = w' := by
  go_enter Tryd.func20, Tryd.ntmps20
  go_wp2_with (go_at_call 24; refine (places_any h).mono ?_; rintro e w' ⟨rfl, rfl⟩)
  go_ret
  exact ⟨rfl, rfl⟩
end Go.Proofs
end
section
namespace Go.Proofs
open Go.RowKit
set_option linter.unusedVariables false
set_option linter.unusedSimpArgs false

/-! ### The map of turns -/
/-- The map that is being made: its entries, each key and the set there. -/
structure DT (w0 w : World) (m : Nat) (E : List (Int × Int)) : Prop where
  base : w0.heap.size ≤ m
  below : Below m w0 w
  map : ∃ es c, w.heap[m]? = some (.map es c) ∧ es.size = E.length ∧ ∀ (i : Nat) k l, E[i]? = some (k, l) → ∃ e, es[i]? = some e ∧ e.key = .int .i64 k ∧ e.val = .int .u8 l
theorem DT.next {w0 w w' : World} {m : Nat} {E : List (Int × Int)} (h : DT w0 w m E) (hb : Below w.heap.size w w') : DT w0 w' m E := by
  obtain ⟨es, c, hm, hs, he⟩ := h.map
  have hlt : m < w.heap.size := (Array.getElem?_eq_some_iff.1 hm).1
  exact ⟨h.base, h.below.trans (hb.mono (by omega)), es, c, (hb.block m hlt).trans hm, hs, he⟩
theorem DT.made (w : World) : DT w (w.alloc (.map #[] 0)) w.heap.size [] :=
  ⟨Nat.le_refl _, (Below.refl _ w).alloc (Nat.le_refl _) _, #[], 0, (MapKept.heap_alloc w _).1, rfl, fun i k l hi => by simp at hi⟩
theorem keyWf {k : Int} (h0 : -9223372036854775808 ≤ k) (h1 : k ≤ 9223372036854775807) : keyOf Tryd.prog 22 (.int .i64 k) = some (.int .i64 k) :=
  Maps.keyOf_int_mk Tryd.underlying22 (WalkArith.wf_i64 ⟨h0, h1⟩)
theorem DT.keys {w : World} {m : Nat} {E : List (Int × Int)} (hE : ∀ x ∈ E, 0 ≤ x.1 ∧ x.1 ≤ 1000) {es : Array MapEntry} (hs : es.size = E.length)
    (he : ∀ (i : Nat) k l, E[i]? = some (k, l) → ∃ e, es[i]? = some e ∧ e.key = .int .i64 k ∧ e.val = .int .u8 l) : ∀ e ∈ es.toList, ∃ x ∈ E, e.key = .int .i64 x.1 ∧ e.val = .int .u8 x.2 ∧ keyOf Tryd.prog 22 e.key = some (.int .i64 x.1) := by
  intro e hm
  obtain ⟨i, hi⟩ := List.getElem?_of_mem hm
  have hlt : i < E.length := by
    have := (List.getElem?_eq_some_iff.1 hi).1
    rw [Array.length_toList] at this
    omega
  obtain ⟨e', h1, h2, h3⟩ := he i E[i].1 E[i].2 (List.getElem?_eq_getElem hlt)
  have : e' = e := by
    have := h1.symm.trans (by simpa using hi)
    exact Option.some.inj this
  subst this
  have hx := hE E[i] (List.getElem_mem hlt)
  exact ⟨E[i], List.getElem_mem hlt, h2, h3, by rw [h2]; exact keyWf (by omega) (by omega)⟩
theorem DT.insert {w0 w : World} {m : Nat} {E : List (Int × Int)} (h : DT w0 w m E) (hE : ∀ x ∈ E, 0 ≤ x.1 ∧ x.1 ≤ 1000) {k : Int} (h0 : 0 ≤ k) (h1 : k ≤ 1000) (hk : ∀ x ∈ E, x.1 ≠ k) (v : Int) :
    ∃ w', (Instr.mapUpdate 40 (.map (some m)) (.int .i64 k) (.int .u8 v)).run Tryd.prog w = .ok () w' ∧ DT w0 w' m (E ++ [(k, v)]) := by
  obtain ⟨es, c, hm, hs, he⟩ := h.map
  have K := Maps.int_keyed (P := Tryd.prog) Tryd.underlying22
  have hkeys := DT.keys (w := w) (m := m) hE hs he
  have hlt : m < w.heap.size := (Array.getElem?_eq_some_iff.1 hm).1
  have hf : (Instr.findKey 22 (.int .i64 k) es.toList).run Tryd.prog w = .ok none w := by
    rcases K.find w (keyWf (k := k) (by omega) (by omega)) es.toList (fun e hm => by obtain ⟨x, _, _, _, hx⟩ := hkeys e hm; exact ⟨_, hx⟩) with ⟨hr, _⟩ | ⟨j, e, _, hj, hke⟩
    · exact hr
    · obtain ⟨x, hx, hkx, _⟩ := hkeys e (List.mem_of_getElem? hj)
      rw [hkx] at hke
      cases hke
      exact absurd rfl (hk x hx)
  refine ⟨{ w with heap := w.heap.setIfInBounds m (.map (es.push { key := .int .i64 k, val := .int .u8 v, born := c }) (c + 1)) }, ?_, ?_⟩
  · unfold Instr.mapUpdate
    simp only [Sem.run_bind, run_underlying Tryd.underlying40, Result.andThen, MapKept.run_getObj_map hm, K.check w false (keyWf (k := k) (by omega) (by omega)), hf]
    exact MapKept.run_setObj_map _ hm
  · refine ⟨h.base, h.below.trans ⟨rfl, rfl, rfl, by simp, fun b hb => ?_⟩, es.push { key := .int .i64 k, val := .int .u8 v, born := c }, c + 1, by simp [hlt], by simp [hs], fun i k' l' hi => ?_⟩
    · show (w.heap.setIfInBounds m _)[b]? = _
      rw [Array.getElem?_setIfInBounds_ne (by omega)]
    · by_cases hlast : i < E.length
      · rw [List.getElem?_append_left hlast] at hi
        obtain ⟨e, q1, q2, q3⟩ := he i k' l' hi
        exact ⟨e, by rw [Array.getElem?_push_lt (by omega)]; rw [← q1]; simp [hs, hlast], q2, q3⟩
      · have hi2 : i = E.length := by
          have := (List.getElem?_eq_some_iff.1 hi).1
          simp at this
          omega
        subst hi2
        simp at hi
        obtain ⟨rfl, rfl⟩ := hi
        exact ⟨{ key := .int .i64 k, val := .int .u8 v, born := c }, by rw [← hs]; simp, rfl, rfl⟩
def lookE (E : List (Int × Int)) (k : Int) : Int := match E.find? (fun x => x.1 == k) with | some x => x.2 | none => 0
theorem zero110 (w : World) : (zeroValue 39).run Tryd.prog w = .ok (.int .u8 0) w := Tryd.zeroValue39 w
theorem DT.lookup {w0 w : World} {m : Nat} {E : List (Int × Int)} (h : DT w0 w m E) (hE : ∀ x ∈ E, 0 ≤ x.1 ∧ x.1 ≤ 1000) (hd : ∀ x ∈ E, lookE E x.1 = x.2) {k : Int} (h0 : -9223372036854775808 ≤ k) (h1 : k ≤ 9223372036854775807) :
    (Instr.lookup 40 (.map (some m)) (.int .i64 k) false).run Tryd.prog w = .ok (.int .u8 (lookE E k)) w := by
  obtain ⟨es, c, hm, hs, he⟩ := h.map
  have K := Maps.int_keyed (P := Tryd.prog) Tryd.underlying22
  have hkeys := DT.keys (w := w) (m := m) hE hs he
  rcases K.find w (keyWf h0 h1) es.toList (fun e hm => by obtain ⟨x, _, _, _, hx⟩ := hkeys e hm; exact ⟨_, hx⟩) with ⟨hr, hno⟩ | ⟨j, e, hr, hj, hke⟩
  · have hn : ∀ x ∈ E, x.1 ≠ k := fun x hx hxk => by
      obtain ⟨i, hi⟩ := List.getElem?_of_mem hx
      obtain ⟨e, q1, q2, _⟩ := he i x.1 x.2 hi
      exact hno e (by have := List.mem_of_getElem? (l := es.toList) (i := i) (a := e) (by simpa using q1); exact this) (by rw [q2, hxk])
    have hz : lookE E k = 0 := by
      unfold lookE
      rw [List.find?_eq_none.2 (fun x hx => by simpa using hn x hx)]
    rw [hz]
    simp [Instr.lookup, run_underlying Tryd.underlying40, MapKept.run_getObj_map hm, K.check w _ (keyWf h0 h1), hr, zero110 w, Result.andThen]
  · obtain ⟨x, hx, hkx, hv, _⟩ := hkeys e (List.mem_of_getElem? hj)
    rw [hkx] at hke
    cases hke
    rw [hd x hx, ← hv]
    simp [Instr.lookup, run_underlying Tryd.underlying40, MapKept.run_getObj_map hm, K.check w _ (keyWf h0 h1), hr, Result.andThen]
/-- .. whose keys are lesser than n. -/
def DTn (w0 w : World) (m : Nat) (E : List (Int × Int)) (n : Int) : Prop := DT w0 w m E ∧ ∀ x ∈ E, 0 ≤ x.1 ∧ x.1 < n
theorem wpList_insert_dt {w0 w : World} {mb : Nat} {E : List (Int × Int)} {n : Int} (h : DTn w0 w mb E n) {ops : Array Oper} {rest : List Oper} {o : Oper} {a : Act} {Q : Exit → Act → World → Prop}
    (hg : o.guard = none) (m x v : Operand) (hop : o.op = Op.insert 40 m x v) (hm : a.eval m = .map (some mb)) (k : Int) (hx : a.eval x = .int .i64 k) (l : Int) (hv : a.eval v = .int .u8 l)
    (hn : n ≤ k) (hn2 : n ≤ 1000) (h0 : 0 ≤ k) (h1 : k ≤ 1000) (hK : ∀ w', DTn w0 w' mb (E ++ [(k, l)]) (k + 1) → wpList Tryd.prog ops Q rest (a.put o.dst undef) w') : wpList Tryd.prog ops Q (o :: rest) a w := by
  refine wpList_plain hg fun K' hK' => ?_
  obtain ⟨w', hrun, hD⟩ := h.1.insert (fun x hx => by have := h.2 x hx; omega) (k := k) (by omega) (by omega) (fun x hx e => by have := h.2 x hx; omega) l
  unfold Oper.wp
  simp [execOp, hop, hm, hx, hv, hrun, Result.andThen]
  refine hK' _ _ (hK w' ⟨hD, fun x hx => ?_⟩)
  rcases List.mem_append.1 hx with hx | hx
  · have := h.2 x hx; omega
  · simp at hx; subst hx; exact ⟨h0, by show k < k + 1; omega⟩
/-- Which turns may be: the sets, as bits. -/
def turnE : List (Int × Int) := [(1, 100), (2, 122), (3, 34), (4, 34), (5, 2), (6, 34)]
def turnsP (a b : Int) : Bool :=
  if a = 1 then b == 2 || b == 5 || b == 6 else if a = 2 then b == 1 || b == 3 || b == 4 || b == 5 || b == 6
  else if a = 3 ∨ a = 4 ∨ a = 6 then b == 1 || b == 5 else if a = 5 then b == 1 else false
def flagP (s : Int) (was : Bool) : Bool := if s = 5 then true else if s = 1 ∨ s = 2 then false else was
def mayP (g : Gr) : Bool :=
  (decide (1 ≤ g.st) && decide (g.st ≤ 6)) && (g.un == 0 || (g.st == 4 && decide (g.un ≤ 1152921504606846976))) && decide (0 ≤ g.pg) && decide (0 ≤ g.pc) && (g.su == flagP g.st g.su)
def Gr.turn (g : Gr) (to : Int) : Gr := { g with st := to, su := flagP to g.su, un := 0 }
end Go.Proofs
end
section
namespace Go.Proofs
open Go.RowKit
set_option linter.unusedVariables false
set_option linter.unusedSimpArgs false

/-! ### Which turns may be; the code's and the document's -/
def intOfV : Value → Int
  | .int _ n => n
  | _ => 0
def setP (f : Nat → Int) : Nat → Int
  | 0 => 0
  | k + 1 => bits BinOp.or IntKind.u8 (setP f k) (2 ^ (f k).toNat % 256)
def hasP (x s : Int) : Bool := decide (0 ≤ s) && (bits BinOp.and IntKind.u8 (x / 2 ^ min s.toNat 8) 1 == 1)
theorem setOf_any (n b : Nat) (f : Nat → Int) (hf : ∀ i, 0 ≤ f i ∧ f i ≤ 7) (hn : n ≤ 10) (w : World) (hc : ∀ i, i < n → w.cell? ⟨b, i, none⟩ = some (.int .i64 (f i))) :
    Calls Tryd.prog 18 #[.slice (some ⟨b, 0, none⟩) n n] w fun e w' => e = .returned (.int .u8 (setP f n)) ∧ w' = w := by
  go_enter Tryd.func18, Tryd.ntmps18
  go_wp2
  go_loopw [3, 8] (fun xv iv wr => ∃ k : Nat, k ≤ n ∧ iv = .int .i64 k ∧ xv = .int .u8 (setP f k) ∧ wr = w) (fun xv iv wr => n - (intOfV iv).toNat)
  case atStart => exact ⟨0, by omega, rfl, rfl, rfl⟩
  case round =>
    obtain ⟨k, hk, rfl, rfl, rfl⟩ := hrel
    by_cases hlt : k < n
    · have c := hc k hlt
      have h0 := (hf k).1
      have h7 := (hf k).2
      go_wp2
      refine ⟨⟨k + 1, by omega, rfl, rfl, trivial⟩, by simp [intOfV]; omega⟩
    · obtain rfl : k = n := by omega
      go_wp2
      go_ret
      exact ⟨rfl, rfl⟩
theorem has_any (x s : Int) (hs : -9223372036854775808 ≤ s ∧ s ≤ 9223372036854775807) (w : World) :
    Calls Tryd.prog 14 #[.int .u8 x, .int .i64 s] w fun e w' => e = .returned (.bool (hasP x s)) ∧ w' = w := by
  unfold hasP
  by_cases h0 : 0 ≤ s
  · rw [show decide (0 ≤ s) = true from decide_eq_true h0, Bool.true_and]
    go_enter Tryd.func14, Tryd.ntmps14
    go_wp2
    go_ret
    exact ⟨rfl, rfl⟩
  · rw [show decide (0 ≤ s) = false from decide_eq_false h0, Bool.false_and]
    go_enter Tryd.func14, Tryd.ntmps14
    go_wp2
    go_ret
    exact ⟨rfl, rfl⟩
def fOf (l : List Int) (i : Nat) : Int := l.getD i 0
set_option maxRecDepth 100000 in
theorem turns_any (w : World) : Calls Tryd.prog 13 #[] w fun e w' => e = .returned (.map (some w.heap.size)) ∧ DTn w w' w.heap.size turnE 7 := by
  have hmm := @run_makeMap Tryd.prog
  have hD : DTn w (w.alloc (.map #[] 0)) w.heap.size [] 0 := ⟨DT.made w, fun x hx => by simp at hx⟩
  have s1 := fun W b hc => setOf_any 3 b (fOf [2, 5, 6]) (by intro i; rcases i with _ | _ | _ | i <;> simp [fOf]) (by omega) W hc
  have s2 := fun W b hc => setOf_any 5 b (fOf [1, 3, 4, 5, 6]) (by intro i; rcases i with _ | _ | _ | _ | _ | i <;> simp [fOf]) (by omega) W hc
  have s3 := fun W b hc => setOf_any 2 b (fOf [1, 5]) (by intro i; rcases i with _ | _ | i <;> simp [fOf]) (by omega) W hc
  have s5 := fun W b hc => setOf_any 1 b (fOf [1]) (by intro i; rcases i with _ | i <;> simp [fOf]) (by omega) W hc
  rw [show setP (fOf [2, 5, 6]) 3 = 100 by decide] at s1
  rw [show setP (fOf [1, 3, 4, 5, 6]) 5 = 122 by decide] at s2
  rw [show setP (fOf [1, 5]) 2 = 34 by decide] at s3
  rw [show setP (fOf [1]) 1 = 2 by decide] at s5
  have cells : ∀ (W : World) (l : List Int) (b : Nat), b = W.heap.size → ∀ i, i < l.length → (W.alloc (.cells (l.map (.int .i64 ·)).toArray 22)).cell? ⟨b, i, none⟩ = some (.int .i64 (fOf l i)) := by
    rintro W l b rfl i hi
    rw [(Blk.new W 22 _).cell]
    simp [fOf, List.getElem?_eq_getElem hi, List.getD]
  have c1 := fun W b (h : b = W.heap.size) => s1 (W.alloc (.cells #[.int .i64 2, .int .i64 5, .int .i64 6] 22)) b (fun i hi => cells W [2, 5, 6] b h i hi)
  have c2 := fun W b (h : b = W.heap.size) => s2 (W.alloc (.cells #[.int .i64 1, .int .i64 3, .int .i64 4, .int .i64 5, .int .i64 6] 22)) b (fun i hi => cells W [1, 3, 4, 5, 6] b h i hi)
  have c3 := fun W b (h : b = W.heap.size) => s3 (W.alloc (.cells #[.int .i64 1, .int .i64 5] 22)) b (fun i hi => cells W [1, 5] b h i hi)
  have c5 := fun W b (h : b = W.heap.size) => s5 (W.alloc (.cells #[.int .i64 1] 22)) b (fun i hi => cells W [1] b h i hi)
  clear s1 s2 s3 s5 cells
  go_enter Tryd.func13, Tryd.ntmps13
  go_wp2_with (first
    | (go_at_call 18; first
        | ((with_reducible refine (c1 _ _ (by simp)).mono ?_); rintro e w' ⟨rfl, rfl⟩)
        | ((with_reducible refine (c2 _ _ (by simp)).mono ?_); rintro e w' ⟨rfl, rfl⟩)
        | ((with_reducible refine (c3 _ _ (by simp)).mono ?_); rintro e w' ⟨rfl, rfl⟩)
        | ((with_reducible refine (c5 _ _ (by simp)).mono ?_); rintro e w' ⟨rfl, rfl⟩))
    | (refine wpList_insert_dt (w0 := w) (mb := w.heap.size) ⟨hD.1.next ((Below.refl _ _).alloc (Nat.le_refl _) _), hD.2⟩ rfl _ _ _ rfl rfl _ rfl _ rfl (by decide) (by decide) (by decide) (by decide) ?_; clear hD; intro w1 hD))
  go_ret
  exact ⟨rfl, hD⟩
theorem look_has (a b : Int) : hasP (lookE turnE a) b = turnsP a b := by
  have hl : lookE turnE a = if a = 1 then 100 else if a = 2 then 122 else if a = 3 ∨ a = 4 ∨ a = 6 then 34 else if a = 5 then 2 else 0 := by
    unfold lookE turnE
    by_cases h1 : a = 1
    · subst h1; rfl
    by_cases h2 : a = 2
    · subst h2; rfl
    by_cases h3 : a = 3
    · subst h3; rfl
    by_cases h4 : a = 4
    · subst h4; rfl
    by_cases h5 : a = 5
    · subst h5; rfl
    by_cases h6 : a = 6
    · subst h6; rfl
    rw [if_neg h1, if_neg h2, if_neg (by omega), if_neg h5, List.find?_eq_none.2 (by simp; omega)]
  rw [hl]
  unfold turnsP
  by_cases hb : 0 ≤ b ∧ b ≤ 7
  · have hb' : b = 0 ∨ b = 1 ∨ b = 2 ∨ b = 3 ∨ b = 4 ∨ b = 5 ∨ b = 6 ∨ b = 7 := by omega
    rcases hb' with rfl | rfl | rfl | rfl | rfl | rfl | rfl | rfl <;> (repeat' split) <;> decide
  · have hz : ∀ x : Int, 0 ≤ x → x < 256 → hasP x b = false := fun x h0 h1 => by
      unfold hasP
      by_cases hn : 0 ≤ b
      · have : min b.toNat 8 = 8 := by omega
        rw [this, show x / 2 ^ 8 = 0 by omega]
        rw [show (bits BinOp.and IntKind.u8 0 1 == 1) = false by decide, Bool.and_false]
      · simp [hn]
    have e : ∀ k : Int, 0 ≤ k → k ≤ 7 → (b == k) = false := fun k h0 h1 => by simp; omega
    have e1 := e 1 (by omega) (by omega)
    have e2 := e 2 (by omega) (by omega)
    have e3 := e 3 (by omega) (by omega)
    have e4 := e 4 (by omega) (by omega)
    have e5 := e 5 (by omega) (by omega)
    have e6 := e 6 (by omega) (by omega)
    rw [hz _ (by repeat' split
                 all_goals omega) (by repeat' split
                                      all_goals omega)]
    simp only [e1, e2, e3, e4, e5, e6]
    (repeat' split) <;> rfl
theorem Turns_any (a b : Int) (ha : -9223372036854775808 ≤ a ∧ a ≤ 9223372036854775807) (hb : -9223372036854775808 ≤ b ∧ b ≤ 9223372036854775807) (w : World) :
    Calls Tryd.prog 6 #[.int .i64 a, .int .i64 b] w fun e w' => e = .returned (.bool (turnsP a b)) ∧ Chg [] w w' := by
  rw [← look_has a b]
  have HL := fun w' (hD : DTn w w' w.heap.size turnE 7) => hD.1.lookup (by decide) (by decide) ha.1 ha.2
  have HB := has_any (lookE turnE a) b hb
  generalize lookE turnE a = x at *
  go_enter Tryd.func6, Tryd.ntmps6
  go_wp2_with (first
    | (go_at_call 13; refine (turns_any w).mono ?_; rintro e w1 ⟨rfl, hD⟩; have hl := HL _ hD; have HD := Lib.hid hD; clear hD)
    | (go_at_call 14; refine (HB _).mono ?_; rintro e w' ⟨rfl, rfl⟩))
  go_ret
  exact ⟨rfl, Chg.of_below HD.out.1.below⟩
end Go.Proofs
end
section
namespace Go.Proofs
open Go.RowKit
set_option linter.unusedVariables false
set_option linter.unusedSimpArgs false

theorem flag_any (s : Int) (b : Bool) (w : World) : Calls Tryd.prog 12 #[.int .i64 s, .bool b] w fun e w' => e = .returned (.bool (flagP s b)) ∧ w' = w := by
  unfold flagP
  by_cases h5 : s = 5
  · subst h5
    rw [if_pos rfl]
    go_enter Tryd.func12, Tryd.ntmps12
    go_wp2
    go_ret
    exact ⟨rfl, rfl⟩
  · rw [if_neg h5]
    by_cases h1 : s = 1
    · subst h1
      rw [if_pos (.inl rfl)]
      go_enter Tryd.func12, Tryd.ntmps12
      go_wp2
      go_ret
      exact ⟨rfl, rfl⟩
    · by_cases h2 : s = 2
      · subst h2
        rw [if_pos (.inr rfl)]
        go_enter Tryd.func12, Tryd.ntmps12
        go_wp2
        go_ret
        exact ⟨rfl, rfl⟩
      · rw [if_neg (by omega)]
        go_enter Tryd.func12, Tryd.ntmps12
        go_wp2
        go_ret
        exact ⟨rfl, rfl⟩
def liveP (s : Int) : Bool := decide (1 ≤ s) && decide (s ≤ 6)
theorem live_any (s : Int) (w : World) : Calls Tryd.prog 10 #[.int .i64 s] w fun e w' => e = .returned (.bool (liveP s)) ∧ w' = w := by
  unfold liveP
  by_cases h : 1 ≤ s
  · rw [show decide (1 ≤ s) = true from decide_eq_true h, Bool.true_and]
    go_enter Tryd.func10, Tryd.ntmps10
    go_wp2
    go_ret
    exact ⟨rfl, rfl⟩
  · rw [show decide (1 ≤ s) = false from decide_eq_false h, Bool.false_and]
    go_enter Tryd.func10, Tryd.ntmps10
    go_wp2
    go_ret
    exact ⟨rfl, rfl⟩
def timelyP (s u : Int) : Bool := u == 0 || (s == 4 && decide (u ≤ 1152921504606846976))
theorem timely_any (s u : Int) (w : World) : Calls Tryd.prog 11 #[.int .i64 s, .int .u64 u] w fun e w' => e = .returned (.bool (timelyP s u)) ∧ w' = w := by
  unfold timelyP
  by_cases h : u = 0
  · subst h
    go_enter Tryd.func11, Tryd.ntmps11
    go_wp2
    go_ret
    exact ⟨rfl, rfl⟩
  · rw [show (u == 0) = false by simpa using h, Bool.false_or]
    have hu : (u == 0) = false := by simpa using h
    by_cases h4 : s = 4
    · subst h4
      go_enter Tryd.func11, Tryd.ntmps11
      go_wp2
      go_ret
      exact ⟨rfl, rfl⟩
    · have h4' : (s == 4) = false := by simpa using h4
      rw [h4', Bool.false_and]
      go_enter Tryd.func11, Tryd.ntmps11
      go_wp2
      go_ret
      exact ⟨rfl, rfl⟩
theorem mayP_eq (g : Gr) : mayP g = (liveP g.st && timelyP g.st g.un && decide (0 ≤ g.pg) && decide (0 ≤ g.pc) && (g.su == flagP g.st g.su)) := rfl
theorem Gr.a0 (g : Gr) : g.arr[0]? = some (.int .i64 g.st) := rfl
theorem Gr.a1 (g : Gr) : g.arr[1]? = some (.bool g.su) := rfl
theorem Gr.a6 (g : Gr) : g.arr[6]? = some (.int .u8 g.af.toNat) := rfl
theorem Gr.a7 (g : Gr) : g.arr[7]? = some (.int .i64 g.pg) := rfl
theorem Gr.a8 (g : Gr) : g.arr[8]? = some (.int .i64 g.pc) := rfl
theorem Gr.a18 (g : Gr) : g.arr[18]? = some (.int .u64 g.un) := rfl
set_option maxHeartbeats 1600000 in
theorem May_any (g : Gr) (w : World) : Calls Tryd.prog 4 #[g.val] w fun e w' => e = .returned (.bool (mayP g)) ∧ Chg [] w w' := by
  rw [mayP_eq]
  have hb := Blk.new w 29 g.arr
  have c0 := (hb.cell 0).trans g.a0
  have c1 := (hb.cell 1).trans g.a1
  have c7 := (hb.cell 7).trans g.a7
  have c8 := (hb.cell 8).trans g.a8
  have c18 := (hb.cell 18).trans g.a18
  have HL := live_any g.st
  have HT := timely_any g.st g.un
  have HF := flag_any g.st g.su
  unfold Gr.val
  generalize g.arr = A at *
  generalize g.st = st at *
  generalize g.su = su at *
  generalize g.pg = pg at *
  generalize g.pc = pc at *
  generalize g.un = un at *
  generalize flagP st su = fl at *
  generalize hlv : liveP st = lv at *
  generalize htm : timelyP st un = tm at *
  obtain ⟨W, hW⟩ : ∃ W, W = w.alloc (.cells A 29) := ⟨_, rfl⟩
  have hc : Chg [] w W := by rw [hW]; exact (Chg.refl [] w).alloc _
  rw [← hW] at c0 c1 c7 c8 c18
  clear hb
  obtain ⟨H, hH⟩ : ∃ H, H = w.heap.size := ⟨_, rfl⟩
  cases lv with
  | false =>
    go_enter Tryd.func4, Tryd.ntmps4
    go_upto_region 1 with (fail)
    rw [← hW]
    clear hW
    go_quiet ((first | (go_at_call 10; exact Calls.quiet_of_same (HL _))))
    go_wp2
    go_ret
    exact ⟨rfl, hc.drewN _⟩
  | true =>
    cases tm with
    | false =>
      go_enter Tryd.func4, Tryd.ntmps4
      go_upto_region 1 with (fail)
      rw [← hW]
      clear hW
      go_quiet ((first | (go_at_call 10; exact Calls.quiet_of_same (HL _)) | (go_at_call 11; exact Calls.quiet_of_same (HT _))))
      go_wp2
      go_ret
      exact ⟨rfl, hc.drewN _⟩
    | true =>
      cases hp : decide (0 ≤ pg) with
      | false =>
        go_enter Tryd.func4, Tryd.ntmps4
        go_upto_region 1 with (fail)
        rw [← hW]
        clear hW
        go_quiet ((first | (go_at_call 10; exact Calls.quiet_of_same (HL _)) | (go_at_call 11; exact Calls.quiet_of_same (HT _))))
        go_wp2
        go_ret
        exact ⟨rfl, hc.drewN _⟩
      | true =>
        cases hq : decide (0 ≤ pc) with
        | false =>
          go_enter Tryd.func4, Tryd.ntmps4
          go_upto_region 1 with (fail)
          rw [← hW]
          clear hW
          go_quiet ((first | (go_at_call 10; exact Calls.quiet_of_same (HL _)) | (go_at_call 11; exact Calls.quiet_of_same (HT _))))
          go_wp2
          go_ret
          exact ⟨rfl, hc.drewN _⟩
        | true =>
          go_enter Tryd.func4, Tryd.ntmps4
          go_upto_region 1 with (fail)
          rw [← hW]
          clear hW
          go_quiet ((first | (go_at_call 10; exact Calls.quiet_of_same (HL _)) | (go_at_call 11; exact Calls.quiet_of_same (HT _)) | (go_at_call 12; exact Calls.quiet_of_same (HF _))))
          go_wp2
          go_ret
          exact ⟨by simp, hc.drewN _⟩
end Go.Proofs
end
section
namespace Go.Proofs
open Go.RowKit
set_option linter.unusedVariables false
set_option linter.unusedSimpArgs false

set_option maxHeartbeats 1600000 in
theorem rMay_any (g : Gr) (h0 : 0 ≤ g.un) (w : World) : Calls Tryd.prog 5 #[g.val] w fun e w' => e = .returned (.bool (mayP g)) ∧ Chg [] w w' := by
  have hb := Blk.new w 29 g.arr
  have c0 := (hb.cell 0).trans g.a0
  have c1 := (hb.cell 1).trans g.a1
  have c7 := (hb.cell 7).trans g.a7
  have c8 := (hb.cell 8).trans g.a8
  have c18 := (hb.cell 18).trans g.a18
  obtain ⟨P, hP⟩ : ∃ P, P = mayP g := ⟨_, rfl⟩
  rw [← hP]
  have hP2 := hP.trans (mayP_eq g)
  clear hP
  unfold liveP timelyP flagP at hP2
  unfold Gr.val
  generalize g.arr = A at *
  generalize g.st = st at *
  generalize g.su = su at *
  generalize g.pg = pg at *
  generalize g.pc = pc at *
  generalize g.un = un at *
  obtain ⟨W, hW⟩ : ∃ W, W = w.alloc (.cells A 29) := ⟨_, rfl⟩
  have hc : Chg [] w W := by rw [hW]; exact (Chg.refl [] w).alloc _
  rw [← hW] at c0 c1 c7 c8 c18
  clear hb
  by_cases h1 : st < 1
  · obtain rfl : P = false := by rw [hP2, show decide (1 ≤ st) = false from decide_eq_false (by omega)]; simp
    clear hP2
    go_enter Tryd.func5, Tryd.ntmps5
    go_upto_region 1 with (fail)
    rw [← hW]
    clear hW
    go_wp2
    go_ret
    exact ⟨rfl, hc⟩
  by_cases h2 : 6 < st
  · obtain rfl : P = false := by rw [hP2, show decide (st ≤ 6) = false from decide_eq_false (by omega)]; simp
    clear hP2
    go_enter Tryd.func5, Tryd.ntmps5
    go_upto_region 1 with (fail)
    rw [← hW]
    clear hW
    go_wp2
    go_ret
    exact ⟨rfl, hc⟩
  by_cases h3 : 1152921504606846976 < un
  · obtain rfl : P = false := by rw [hP2, show (un == 0) = false by simp; omega, show decide (un ≤ 1152921504606846976) = false from decide_eq_false (by omega)]; simp
    clear hP2
    go_enter Tryd.func5, Tryd.ntmps5
    go_upto_region 1 with (fail)
    rw [← hW]
    clear hW
    go_wp2
    go_ret
    exact ⟨rfl, hc⟩
  by_cases h4 : 0 < un ∧ st ≠ 4
  · obtain rfl : P = false := by rw [hP2, show (un == 0) = false by simp; omega, show (st == 4) = false by simpa using h4.2]; simp
    clear hP2
    have h5 : 0 < un := h4.1
    have h6 : (st == 4) = false := by simpa using h4.2
    have h7 : (st != 4) = true := by simpa using h4.2
    clear h4
    go_enter Tryd.func5, Tryd.ntmps5
    go_upto_region 1 with (fail)
    rw [← hW]
    clear hW
    go_wp2
    go_ret
    exact ⟨rfl, hc⟩
  have hts : (un == 0 || st == 4 && decide (un ≤ 1152921504606846976)) = true := by
    by_cases hu : un = 0
    · simp [hu]
    · have : st = 4 := by omega
      have h' : un ≤ 1152921504606846976 := by omega
      simp [this, h']
  rw [hts, show decide (1 ≤ st) = true from decide_eq_true (by omega), show decide (st ≤ 6) = true from decide_eq_true (by omega)] at hP2
  simp only [Bool.and_self, Bool.true_and] at hP2
  have hg : ¬ 0 < un ∨ (0 < un ∧ st = 4) := by omega
  clear hts h4
  by_cases h5 : pg < 0
  · obtain rfl : P = false := by rw [hP2, show decide (0 ≤ pg) = false from decide_eq_false (by omega)]; simp
    clear hP2
    rcases hg with hg | ⟨hg, rfl⟩
    all_goals
      go_enter Tryd.func5, Tryd.ntmps5
      go_upto_region 1 with (fail)
      rw [← hW]
      clear hW
      go_wp2
      go_ret
      exact ⟨rfl, hc⟩
  by_cases h6 : pc < 0
  · obtain rfl : P = false := by rw [hP2, show decide (0 ≤ pc) = false from decide_eq_false (by omega)]; simp
    clear hP2
    rcases hg with hg | ⟨hg, rfl⟩
    all_goals
      go_enter Tryd.func5, Tryd.ntmps5
      go_upto_region 1 with (fail)
      rw [← hW]
      clear hW
      go_wp2
      go_ret
      exact ⟨rfl, hc⟩
  rw [show decide (0 ≤ pg) = true from decide_eq_true (by omega), show decide (0 ≤ pc) = true from decide_eq_true (by omega)] at hP2
  simp only [Bool.and_self, Bool.true_and] at hP2
  by_cases h7 : st = 5
  · subst h7
    obtain rfl : P = su := by rw [hP2]; cases su <;> rfl
    clear hP2
    have hg' : ¬ 0 < un := by omega
    clear hg
    go_enter Tryd.func5, Tryd.ntmps5
    go_upto_region 1 with (fail)
    rw [← hW]
    clear hW
    go_wp2
    go_ret
    exact ⟨rfl, hc⟩
  have h7' : (st == 5) = false := by simpa using h7
  rw [if_neg h7] at hP2
  clear h7
  have hQ : P = (!su || decide (2 < st)) := by
    rw [hP2]
    by_cases h8 : st = 1 ∨ st = 2
    · rw [if_pos h8, show decide (2 < st) = false from decide_eq_false (by omega)]; cases su <;> rfl
    · rw [if_neg h8, show decide (2 < st) = true from decide_eq_true (by omega)]; cases su <;> rfl
  clear hP2
  cases su with
  | false =>
    simp only [Bool.not_false, Bool.true_or] at hQ
    subst hQ
    rcases hg with hg | ⟨hg, rfl⟩
    all_goals
      go_enter Tryd.func5, Tryd.ntmps5
      go_upto_region 1 with (fail)
      rw [← hW]
      clear hW
      go_wp2
      go_ret
      exact ⟨rfl, hc⟩
  | true =>
    simp only [Bool.not_true, Bool.false_or] at hQ
    subst hQ
    rcases hg with hg | ⟨hg, rfl⟩
    all_goals
      go_enter Tryd.func5, Tryd.ntmps5
      go_upto_region 1 with (fail)
      rw [← hW]
      clear hW
      go_wp2
      go_ret
      exact ⟨rfl, hc⟩
end Go.Proofs
end
section
namespace Go.Proofs
open Go.RowKit
set_option linter.unusedVariables false
set_option linter.unusedSimpArgs false

section
variable {P : Program} {w : World} {b n off : Nat} {t e : TypeId} {A : Array Value} {ops : Array Oper} {rest : List Oper} {o : Oper} {a : Act} {Q : Act → Prop}
theorem wpStill_load (T : AggOf P t n) (hn : A.size = n) (hc : ∀ j v, A[j]? = some v → w.cell? ⟨b, off + j, none⟩ = some v) (hg : Region.wanted o (yielded ops a.tmps) = true) (ho : ∃ x, o.op = .load t x ∧ a.eval x = .pointer (some ⟨b, off, none⟩))
    (h : wpStill P ops w Q rest (a.put o.dst (.agg A))) : wpStill P ops w Q (o :: rest) a := by
  obtain ⟨x, h1, h2⟩ := ho
  refine wpStill_step fun K hK => ?_
  rw [if_pos hg]
  unfold Oper.still
  rw [sk_run_load T hn hc x h1 h2]
  exact ⟨rfl, hK _ h⟩
end
/-- What Get answers. -/
def Tab.getG (t : Tab Gr) (i q : Int) : Gr := match t.live i with | some s => if s.gen = q then s.thing else Gr.zero | none => Gr.zero
def Tab.getE (t : Tab Gr) (i q : Int) : Int := if t.has i q = true then 0 else 11
theorem getG_no {t : Tab Gr} {i q : Int} (h : t.has i q = false) : t.getG i q = Gr.zero := by
  unfold Tab.getG
  rcases live_cases t i with ⟨s, hs⟩ | hn
  · rw [hs]; simp only
    rw [if_neg]
    intro e
    have := has_iff.2 ⟨s, hs, e⟩
    rw [h] at this; cases this
  · rw [hn]
theorem getG_yes {t : Tab Gr} {i q : Int} {s : Spot Gr} (hl : t.live i = some s) (hq : t.has i q = true) : t.getG i q = s.thing := by
  unfold Tab.getG
  obtain ⟨s', h1, h2⟩ := has_iff.1 hq
  rw [hl] at h1 ⊢
  cases h1
  simp only
  rw [if_pos h2]
def inI (i : Int) : Prop := -9223372036854775808 ≤ i ∧ i ≤ 9223372036854775807
theorem aget_any {w : World} {g : Nat} {S : List Nat} {t : Tab Gr} (h : TabAt w g S t) (hw : t.WF) (i q : Int) (hi : inI i) :
    Calls Tryd.prog 28 #[ptr g, .agg #[.int .i64 i, .int .u64 q]] w fun e w' => e = .returned (.tuple #[(t.getG i q).val, .int .i64 (t.getE i q)]) ∧ Chg [] w w' := by
  cases hq : t.has i q with
  | false =>
    rw [getG_no hq]
    unfold Tab.getE
    rw [if_neg (by simp [hq])]
    exact get_no_C h hw i q hi.1 hi.2 hq
  | true =>
    obtain ⟨s, hl, _⟩ := has_iff.1 hq
    rw [getG_yes hl hq]
    unfold Tab.getE
    rw [if_pos hq]
    exact get_yes_C h hw hq hl
/-- What a call on the table at c leaves. -/
def GTurns (c : Nat) (S : List Nat) (t' : Tab Gr) (w w' : World) : Prop := ∃ S', GAt w' c S' t' ∧ (∀ k ∈ S', k ∈ S ∨ w.heap.size ≤ k) ∧ Chg S w w'
theorem GTurns.refl {c : Nat} {S : List Nat} {t : Tab Gr} {w w' : World} (h : GAt w c S t) (hc : Chg [] w w') : GTurns c S t w w' := ⟨S, h.quiet hc, fun k hk => .inl hk, hc.any⟩
theorem GTurns.of {c g : Nat} {S : List Nat} {t' : Tab Gr} {w w1 w2 w' : World} (hB : Blk w c 54 #[ptr g]) (hcS : c ∉ S) (h1 : Chg [] w w1) (h : Turns g S t' w1 w2) (h2 : Chg [] w2 w') (hW : t'.WF) : GTurns c S t' w w' := by
  obtain ⟨S', hT, hs, hc⟩ := h
  have hc' : Chg S w w' := ((Chg.any h1).trans hc (fun k hk => .inl hk)).then h2
  exact ⟨S', ⟨g, hB.chg hc' hcS, hT.quiet h2, hW⟩, fun k hk => (hs k hk).imp id (fun h => Nat.le_trans h1.size h), hc'⟩
set_option maxRecDepth 100000 in
theorem Get_any {w : World} {c : Nat} {S : List Nat} {t : Tab Gr} (h : GAt w c S t) (i q : Int) (hi : inI i) :
    Calls Tryd.prog 22 #[ptr c, .agg #[.int .i64 i, .int .u64 q]] w fun e w' => e = .returned (.tuple #[(t.getG i q).val, .int .i64 (t.getE i q)]) ∧ Chg [] w w' := by
  obtain ⟨g, hB, hT, hW⟩ := h
  have HP := Lib.hid (fun W (hc : Chg [] w W) => places_any (hB.chg hc (by simp)))
  have HG := Lib.hid (fun W (hc : Chg [] w W) => aget_any (hT.quiet hc) hW i q hi)
  have hs := (t.getG i q).size
  have h1 := (t.getG i q).one
  unfold Gr.val at HG ⊢
  generalize (t.getG i q).arr = A at *
  generalize t.getE i q = E at *
  obtain ⟨W, hWe⟩ : ∃ W, W = (w.alloc (.cells #[.int .i64 i, .int .u64 q] 25)).alloc (.cells zG 29) := ⟨_, rfl⟩
  have hc : Chg [] w W := by rw [hWe]; exact ((Chg.refl [] w).alloc _).alloc _
  have hb0 : Blk W w.heap.size 25 #[.int .i64 i, .int .u64 q] := by rw [hWe]; exact (Blk.new w 25 _).alloc _
  have hb1 : Blk W (w.heap.size + 1) 29 zG := by rw [hWe]; exact Blk.at' (w.alloc _) 29 _ (by simp)
  have y0 := hb0.cell 0
  have y1 := hb0.cell 1
  have hz := hb1.lt
  clear hB hT hW
  go_enter Tryd.func22, Tryd.ntmps22
  go_upto_region 1 with (fail)
  rw [← hWe]
  clear hWe
  refine wp_region_held_drew (S := fun w' => Blk w' w.heap.size 25 #[.int .i64 i, .int .u64 q]) (by kernel_rfl) hb0.drew (fun hHeld => ?_)
  simp only [List.setIfInBounds_toArray, List.size_toArray, List.length_cons, List.length_nil, Array.replicate]
  refine wpAnyH_take (i := 0) (v := ?_) rfl (by kernel_rfl) (by kernel_rfl) (by kernel_rfl) (fun _ _ _ h => h) (Or.inl ⟨by rfl, ?_⟩) hHeld ?_
  rotate_left
  · (intro w' hSw; go_simp; try with_reducible rfl)
  simp only [Act.put, List.getElem_toArray, List.getElem_cons_succ, List.getElem_cons_zero, List.setIfInBounds_toArray, List.set_cons_zero, List.set_cons_succ]
  refine wpAnyH_take (i := 2) (v := ?_) rfl (by kernel_rfl) (by kernel_rfl) (by kernel_rfl) (fun _ _ _ h => h) (Or.inl ⟨by rfl, ?_⟩) hHeld ?_
  rotate_left
  · (intro w' hSw; have q0 := hSw.cell 0; have q1 := hSw.cell 1; simp only [List.getElem?_toArray, List.getElem?_cons_zero, List.getElem?_cons_succ] at q0 q1; go_simp; try with_reducible rfl)
  simp only [Act.put, List.getElem_toArray, List.getElem_cons_succ, List.getElem_cons_zero, List.setIfInBounds_toArray, List.set_cons_zero, List.set_cons_succ]
  refine wpAnyH_ready (rs := [1]) (by kernel_rfl) (by simp) ?_
  refine AllReadyH.cons rfl (fun K hK => ?_) AllReadyH.nil
  go_simp
  refine (HP.out _ hc.drew).mono ?_
  rintro e w2 ⟨rfl, rfl⟩
  refine hK _ _ hHeld (fun hHeld => ?_)
  clear hK K
  simp only [Act.put, List.getElem_toArray, List.getElem_cons_succ, List.getElem_cons_zero, List.setIfInBounds_toArray, List.set_cons_zero, List.set_cons_succ]
  refine wpAnyH_ready (rs := [3]) (by kernel_rfl) (by simp) ?_
  refine AllReadyH.cons rfl (fun K hK => ?_) AllReadyH.nil
  go_simp
  refine (HG.out _ hc.drew).mono ?_
  rintro e w2 ⟨rfl, hc2⟩
  have hb2 := (hb1.drew).chg hc2 (by simp)
  refine hK _ _ (hHeld.chg hc2 (by simp)) (fun hHeld => ?_)
  clear hK K
  simp only [Act.put, List.getElem_toArray, List.getElem_cons_succ, List.getElem_cons_zero, List.setIfInBounds_toArray, List.set_cons_zero, List.set_cons_succ]
  refine wpAnyH_take (i := 4) (v := ?_) rfl (by kernel_rfl) (by kernel_rfl) (by kernel_rfl) (fun _ _ _ h => h) (Or.inl ⟨by rfl, ?_⟩) hHeld ?_
  rotate_left
  · (intro w' hSw; go_simp; try with_reducible rfl)
  simp only [Act.put, List.getElem_toArray, List.getElem_cons_succ, List.getElem_cons_zero, List.setIfInBounds_toArray, List.set_cons_zero, List.set_cons_succ]
  refine wpAnyH_take (i := 5) (v := ?_) rfl (by kernel_rfl) (by kernel_rfl) (by kernel_rfl) (fun _ _ _ h => h) (Or.inl ⟨by rfl, ?_⟩) hHeld ?_
  rotate_left
  · (intro w' hSw; go_simp; try with_reducible rfl)
  simp only [Act.put, List.getElem_toArray, List.getElem_cons_succ, List.getElem_cons_zero, List.setIfInBounds_toArray, List.set_cons_zero, List.set_cons_succ]
  refine wpAnyH_ready (rs := [6]) (by kernel_rfl) (by simp) ?_
  refine AllReadyH.cons rfl (fun K hK => ?_) AllReadyH.nil
  refine sk_step_store (off := 0) T37 hb2 hs (by rw [hs]; decide) h1 (by rfl) _ _ (by rfl) (by rfl) (by rfl) ?_
  intro w3 hS3
  rw [splice_all zG A (by rw [hs]; rfl)] at hS3
  refine hK _ _ (hS3.far hHeld (by simp)) (fun hHeld => ?_)
  clear hK K
  simp only [Act.put, List.getElem_toArray, List.getElem_cons_succ, List.getElem_cons_zero, List.setIfInBounds_toArray, List.set_cons_zero, List.set_cons_succ]
  refine wpAnyH_take (i := 7) (v := ?_) rfl (by kernel_rfl) (by kernel_rfl) (by kernel_rfl) (fun _ _ _ h => h) (Or.inl ⟨by rfl, ?_⟩) hHeld ?_
  rotate_left
  · (intro w' hSw; go_simp; try with_reducible rfl)
  simp only [Act.put, List.getElem_toArray, List.getElem_cons_succ, List.getElem_cons_zero, List.setIfInBounds_toArray, List.set_cons_zero, List.set_cons_succ]
  refine wpAnyH_done (by kernel_rfl) ?_ _
  go_wp2
  refine bodyPost_ret (res_cell (b := w.heap.size + 1) rfl T37 rfl rfl hS3.blk hs) rfl ⟨rfl, ?_⟩
  exact (hc.drew.then hc2).trans hS3.chg (fun k hk => by simp at hk; omega)
end Go.Proofs
end
section
namespace Go.Proofs
open Go.RowKit
set_option linter.unusedVariables false
set_option linter.unusedSimpArgs false

theorem thing_eq {t : Tab Gr} {k : Nat} {s : Spot Gr} (hs : t.spots[k]? = some s) (x : Gr) : t.thing k x = { t with spots := t.spots.set k { s with thing := x } } := by
  unfold Tab.thing; rw [hs]
theorem aset_any {w : World} {g : Nat} {S : List Nat} {t : Tab Gr} (h : TabAt w g S t) (hw : t.WF) (i q : Int) (hi : inI i) (x : Gr) :
    Calls Tryd.prog 23 #[ptr g, .agg #[.int .i64 i, .int .u64 q], x.val] w fun e w' => e = .returned (.int .i64 (t.getE i q)) ∧ Turns g S (if t.has i q = true then t.thing i.toNat x else t) w w' := by
  cases hq : t.has i q with
  | false =>
    unfold Tab.getE
    rw [if_neg (by simp [hq]), if_neg (by simp)]
    exact (set_no_C h hw i q hi.1 hi.2 hq x).mono fun e w' hh => ⟨hh.1, Turns.refl h hh.2⟩
  | true =>
    unfold Tab.getE
    rw [if_pos hq, if_pos rfl]
    obtain ⟨k, s, gs, cs, VF, rfl, rfl, hs, hth, hk, _⟩ := has_form h hq
    rw [show ((k : Nat) : Int).toNat = k from rfl, thing_eq hs]
    exact set_yes_C h hw hq hs x
theorem wf_thing {t : Tab Gr} (hw : t.WF) (k : Nat) (x : Gr) : (t.thing k x).WF := by
  unfold Tab.thing
  cases hs : t.spots[k]? with
  | none => exact hw
  | some s => exact hw.set hs x
theorem wf_if {t t' : Tab Gr} {b : Prop} [Decidable b] (h : t.WF) (h' : t'.WF) : (if b then t' else t).WF := by split <;> assumption
def Tab.setE (t : Tab Gr) (i q : Int) (x : Gr) : Int := if mayP x = false then 2 else if t.has i q = false then 11 else if (t.getG i q).st = x.st then 0 else 5
def Tab.setT (t : Tab Gr) (i q : Int) (x : Gr) : Tab Gr := if t.setE i q x = 0 then t.thing i.toNat x else t
def Tab.turnE (t : Tab Gr) (i q : Int) (to : Int) : Int := if t.has i q = false then 11 else if turnsP (t.getG i q).st to = true then 0 else 5
def Tab.turnT (t : Tab Gr) (i q : Int) (to : Int) : Tab Gr := if t.turnE i q to = 0 then t.thing i.toNat ((t.getG i q).turn to) else t
theorem GAt.aset {w : World} {c : Nat} {S : List Nat} {t : Tab Gr} (h : GAt w c S t) {i q : Int} (hi : inI i) (hq : t.has i q = true) (x : Gr) {W : World} (hc : Chg [] w W) :
    ∃ g, Blk w c 54 #[ptr g] ∧ Calls Tryd.prog 23 #[ptr g, .agg #[.int .i64 i, .int .u64 q], x.val] W fun e w' => e = .returned (.int .i64 0) ∧ GTurns c S (t.thing i.toNat x) w w' := by
  have hcS : c ∉ S := by obtain ⟨g, hB, hT, _⟩ := h; exact hT.ty hB (by decide) (by decide) (by decide)
  obtain ⟨g, hB, hT, hW⟩ := h
  refine ⟨g, hB, ?_⟩
  have := aset_any (hT.quiet hc) hW i q hi x
  rw [if_pos hq] at this
  refine this.mono fun e w' hh => ⟨by rw [hh.1]; unfold Tab.getE; rw [if_pos hq], GTurns.of hB hcS hc hh.2 (Chg.refl _ _) (wf_thing hW _ x)⟩
theorem GAt.none {w : World} {c : Nat} {S : List Nat} {t : Tab Gr} (h : GAt w c S t) {W : World} (hc : Chg [] w W) : Calls Tryd.prog 20 #[ptr c] W fun e w' => e = .returned (.bool false) ∧ w' = W := by
  obtain ⟨g, hB, _⟩ := h
  exact (gnone_any (hB.chg hc (by simp))).mono fun e w' hh => ⟨hh.1, hh.2.symm⟩
end Go.Proofs
end
section
namespace Go.Proofs
open Go.RowKit
set_option linter.unusedVariables false
set_option linter.unusedSimpArgs false

theorem turn_cells (g : Gr) (to : Int) : ((g.arr.setIfInBounds 0 (.int .i64 to)).setIfInBounds 1 (.bool (flagP to g.su))).setIfInBounds 18 (.int .u64 0) = (g.turn to).arr := rfl
set_option maxRecDepth 100000 in
set_option maxHeartbeats 1600000 in
theorem Turn_any {w : World} {c : Nat} {S : List Nat} {t : Tab Gr} (h : GAt w c S t) (i q : Int) (hi : inI i) (to : Int) (hto : inI to) (hst : inI (t.getG i q).st) :
    Calls Tryd.prog 17 #[ptr c, .agg #[.int .i64 i, .int .u64 q], .int .i64 to] w fun e w' => e = .returned (.int .i64 (t.turnE i q to)) ∧ GTurns c S (t.turnT i q to) w w' := by
  have HG := Lib.hid (fun W (hc : Chg [] w W) => Get_any (h.quiet hc) i q hi)
  have HT := Lib.hid (fun W => Turns_any (t.getG i q).st to hst hto W)
  have HF := Lib.hid (fun W => flag_any to (t.getG i q).su W)
  have HSame := Lib.hid (fun W (hc : Chg [] w W) => GTurns.refl h hc)
  have hA0 := (t.getG i q).a0
  have hA18 := (t.getG i q).a18
  have hAb := (t.getG i q).a1
  have hAs := (t.getG i q).size
  have hA1 := (t.getG i q).one
  have hTC := turn_cells (t.getG i q) to
  have hXs := ((t.getG i q).turn to).size
  have hX1 := ((t.getG i q).turn to).one
  have hb4 := Blk.new w 25 #[.int .i64 i, .int .u64 q]
  have hc : Chg [] w (w.alloc (.cells #[.int .i64 i, .int .u64 q] 25)) := (Chg.refl [] w).alloc _
  unfold Tab.turnT
  cases hq : t.has i q with
  | false =>
    have hE : t.turnE i q to = 11 := by unfold Tab.turnE; rw [if_pos hq]
    have hG : t.getE i q = 11 := by unfold Tab.getE; rw [if_neg (by simp [hq])]
    rw [hE, if_neg (by decide)]
    rw [hG] at HG
    unfold Gr.val at HG
    generalize ((t.getG i q).turn to).arr = X at *
    generalize (t.getG i q).arr = A at *
    clear hE hq hG hA0 hA18 hAb hTC hXs hX1 h hi hst hto HT HF
    go_enter Tryd.func17, Tryd.ntmps17
    go_wp2_with (first
      | (go_at_call 22; (refine (HG.out _ hc).mono ?_); rintro e w2 ⟨rfl, hc2⟩)
      | ((with_reducible refine wpl_storeE T37 (Blk.new w2 29 zG) rfl hAs hA1 ?_ ?_ ?_); (· rfl); (· exact ⟨_, _, rfl, rfl, rfl⟩); intro w3 hS3; have hc3 := (((hc.then hc2).alloc _).trans hS3.chg (fun k hk => by have h7 := hc2.size; have h8 := hc.size; simp at hk; omega))))
    go_ret
    exact ⟨rfl, HSame.out _ hc3⟩
  | true =>
    have hG : t.getE i q = 0 := by unfold Tab.getE; rw [if_pos hq]
    rw [hG] at HG
    cases htp : turnsP (t.getG i q).st to with
    | false =>
      have hE : t.turnE i q to = 5 := by unfold Tab.turnE; rw [if_neg (by simp [hq]), if_neg (by simp [htp])]
      rw [hE, if_neg (by decide)]
      rw [htp] at HT
      unfold Gr.val at HG
      generalize ((t.getG i q).turn to).arr = X at *
      generalize (t.getG i q).arr = A at *
      generalize (t.getG i q).st = st at *
      clear hE hq hG hA18 hAb hTC hXs hX1 h hi hst hto HF htp
      go_enter Tryd.func17, Tryd.ntmps17
      go_wp2_with (first
        | (go_at_call 22; (refine (HG.out _ hc).mono ?_); rintro e w2 ⟨rfl, hc2⟩)
        | ((with_reducible refine wpl_storeE T37 (Blk.new w2 29 zG) rfl hAs hA1 ?_ ?_ ?_); (· rfl); (· exact ⟨_, _, rfl, rfl, rfl⟩); intro w3 hS3; have hc3 := (((hc.then hc2).alloc _).trans hS3.chg (fun k hk => by have h7 := hc2.size; have h8 := hc.size; simp at hk; omega)); have z0 := (hS3.blk.cell 0).trans hA0)
        | (go_at_call 6; (refine (HT.out _).mono ?_); rintro e w4 ⟨rfl, hc4⟩))
      go_ret
      exact ⟨rfl, HSame.out _ (hc3.then hc4)⟩
    | true =>
      have hE : t.turnE i q to = 0 := by unfold Tab.turnE; rw [if_neg (by simp [hq]), if_pos htp]
      rw [hE, if_pos rfl]
      rw [htp] at HT
      have HAS := Lib.hid (fun W (hc : Chg [] w W) => h.aset hi hq ((t.getG i q).turn to) hc)
      obtain ⟨g, hgB, _⟩ := HAS.out _ (Chg.refl [] w)
      have HAS2 : Hid (∀ W, Chg [] w W → Calls Tryd.prog 23 #[ptr g, .agg #[.int .i64 i, .int .u64 q], ((t.getG i q).turn to).val] W fun e w' => e = .returned (.int .i64 0) ∧ GTurns c S (t.thing i.toNat ((t.getG i q).turn to)) w w') := Lib.hid (fun W hc => by
        obtain ⟨g', hg', h'⟩ := HAS.out W hc
        have : g' = g := by have := hg'.symm.trans hgB; simpa using this
        subst this; exact h')
      obtain ⟨T', hT'⟩ : ∃ T', T' = t.thing i.toNat ((t.getG i q).turn to) := ⟨_, rfl⟩
      rw [← hT'] at HAS2 ⊢
      unfold Gr.val at HG HAS2
      generalize ((t.getG i q).turn to).arr = X at *
      generalize (t.getG i q).arr = A at *
      generalize (t.getG i q).st = st at *
      generalize (t.getG i q).su = su at *
      generalize flagP to su = fl at *
      clear hE hq hG h hi hst hto htp hT' HAS
      go_enter Tryd.func17, Tryd.ntmps17
      go_wp2_with (first
        | (go_at_call 22; (refine (HG.out _ hc).mono ?_); rintro e w2 ⟨rfl, hc2⟩; have hsz2 := hc2.size)
        | ((with_reducible refine wpl_storeE T37 (Blk.new w2 29 zG) rfl hAs hA1 ?_ ?_ ?_); (· rfl); (· exact ⟨_, _, rfl, rfl, rfl⟩); intro w3 hS3; have hc3 := (((Chg.refl [] _).alloc _).trans hS3.chg (fun k hk => by simp at hk; omega) : Chg [] w2 w3); have z0 := (hS3.blk.cell 0).trans hA0; have HC3 := Lib.hid hc3; have HS3 := Lib.hid hS3; clear hc3 hS3)
        | (go_at_call 6; (refine (HT.out _).mono ?_); rintro e w4 ⟨rfl, hc4⟩; have hb7 := HS3.out.blk.chg hc4 (by simp); have y0 := (hb7.cell 0).trans hA0; have y1 := (hb7.cell 1).trans hAb; have y18 := (hb7.cell 18).trans hA18; have f0 := hb7.frozen 0; have f1 := hb7.frozen 1; have f18 := hb7.frozen 18; have HC4 := Lib.hid hc4; have HB7 := Lib.hid hb7; clear hc4 hb7 z0)
        | (go_at_call 12; (refine (HF.out _).mono ?_); rintro e w5 ⟨rfl, rfl⟩))
      have hb8 := ((HB7.out.set_ 0 (.int .i64 to)).set_ 1 (.bool fl)).set_ 18 (.int .u64 0)
      rw [hTC] at hb8
      have hsz1 := hc.size
      have hcA := (hc.then hc2).then (HC3.out.then HC4.out)
      have hle : w.heap.size ≤ w2.heap.size := by omega
      have hcB := ((hcA.setCell (p := ⟨w2.heap.size, 0, none⟩) (.inr hle) (.int .i64 to)).setCell (p := ⟨w2.heap.size, 1, none⟩) (.inr hle) (.bool fl)).setCell (p := ⟨w2.heap.size, 18, none⟩) (.inr hle) (.int .u64 0)
      have hbn : w.heap.size ≠ w2.heap.size := by simp at hsz2; omega
      have hb6 := ((((hb4.chg (hc2.then (HC3.out.then HC4.out)) (by simp)).far (p := ⟨w2.heap.size, 0, none⟩) hbn (.int .i64 to)).far (p := ⟨w2.heap.size, 1, none⟩) hbn (.bool fl)).far (p := ⟨w2.heap.size, 18, none⟩) hbn (.int .u64 0))
      have k0 := hb6.cell 0
      have k1 := hb6.cell 1
      have k2 := (hgB.chg hcB (by simp)).cell 0
      have HB8 := Lib.hid hb8
      have HCB := Lib.hid hcB
      clear hb8 hcB hcA hb6 y0 y1 y18 f0 f1 f18 hA0 hA18 hAb hTC hAs hA1 hbn
      generalize World.setCell _ _ _ = W9 at *
      go_still_tail 6, (by kernel_rfl)
      (try change wpStill _ _ (World.drew _) _ _ _)
      refine wpStill_load T37 hXs (blk_cells HB8.out.drew) rfl ⟨_, rfl, rfl⟩ ?_
      (try refine wpStill_nil ?_)
      (try change wpList _ _ _ _ _ (World.drew _))
      go_wp2_with (go_at_call 23; (refine (HAS2.out _ HCB.out.drew).mono ?_); rintro e w6 ⟨rfl, hT4⟩)
      go_ret
      exact ⟨rfl, hT4⟩
end Go.Proofs
end
section
namespace Go.Proofs
open Go.RowKit
set_option linter.unusedVariables false
set_option linter.unusedSimpArgs false

theorem Below.heap_setCell2 (w : World) (b o o' : Nat) (u u' : Value) {k : Nat} (h : b ≠ k) : ((w.setCell ⟨b, o, none⟩ u).setCell ⟨b, o', none⟩ u').heap[k]? = w.heap[k]? :=
  (Below.heap_setCell _ _ _ k (Ne.symm h)).trans (Below.heap_setCell _ _ _ k (Ne.symm h))
def Tab.putE (t : Tab Gr) : Int := if t.frees = 0 then 3 else 0
def Tab.putI (t : Tab Gr) : Int := if t.frees = 0 then 0 else (t.takeAt : Nat)
def Tab.putQ (t : Tab Gr) : Int := if t.frees = 0 then 0 else t.genAt t.takeAt
def Tab.putT (t : Tab Gr) (x : Gr) : Tab Gr := if t.frees = 0 then t else t.put Gr.zero x
theorem aput_any {w : World} {g : Nat} {S : List Nat} {t : Tab Gr} (h : TabAt w g S t) (hw : t.WF) (x : Gr) :
    Calls Tryd.prog 21 #[ptr g, x.val] w fun e w' => e = .returned (.tuple #[.agg #[.int .i64 t.putI, .int .u64 t.putQ], .int .i64 t.putE]) ∧ Turns g S (t.putT x) w w' := by
  unfold Tab.putE Tab.putI Tab.putQ Tab.putT
  by_cases hf : t.frees = 0
  · rw [if_pos hf, if_pos hf, if_pos hf, if_pos hf]
    exact (put_full_C h hw hf x).mono fun e w' hh => ⟨hh.1, Turns.refl h hh.2⟩
  · rw [if_neg hf, if_neg hf, if_neg hf, if_neg hf]
    exact put_ok_C h hw hf x
theorem putT_wf {t : Tab Gr} (hw : t.WF) (x : Gr) : (t.putT x).WF := by
  unfold Tab.putT
  by_cases hf : t.frees = 0
  · rw [if_pos hf]; exact hw
  · rw [if_neg hf]; exact hw.put hf x
def Tab.mkE (t : Tab Gr) (x : Gr) : Int := if mayP x = false then 2 else t.putE
def Tab.mkI (t : Tab Gr) (x : Gr) : Int := if mayP x = false then 0 else t.putI
def Tab.mkQ (t : Tab Gr) (x : Gr) : Int := if mayP x = false then 0 else t.putQ
def Tab.mkT (t : Tab Gr) (x : Gr) : Tab Gr := if mayP x = false then t else t.putT x
set_option maxRecDepth 100000 in
set_option maxHeartbeats 1600000 in
theorem Make_any {w : World} {c : Nat} {S : List Nat} {t : Tab Gr} (h : GAt w c S t) (x : Gr) :
    Calls Tryd.prog 16 #[ptr c, x.val] w fun e w' => e = .returned (.tuple #[.agg #[.int .i64 (t.mkI x), .int .u64 (t.mkQ x)], .int .i64 (t.mkE x)]) ∧ GTurns c S (t.mkT x) w w' := by
  have HN := Lib.hid (fun W (hc : Chg [] w W) => h.none hc)
  have HM := Lib.hid (fun W => May_any x W)
  have HSame := Lib.hid (fun W (hc : Chg [] w W) => GTurns.refl h hc)
  have hXs := x.size
  have hX1 := x.one
  obtain ⟨W, hWe⟩ : ∃ W, W = (w.alloc (.cells x.arr 29)).alloc (.cells #[.int .i64 0, .int .u64 0] 25) := ⟨_, rfl⟩
  have hc : Chg [] w W := by rw [hWe]; exact ((Chg.refl [] w).alloc _).alloc _
  have hb3 : Blk W w.heap.size 29 x.arr := by rw [hWe]; exact (Blk.new w 29 _).alloc _
  have hb4 : Blk W (w.heap.size + 1) 25 #[.int .i64 0, .int .u64 0] := by rw [hWe]; exact Blk.at' (w.alloc _) 25 _ (by simp)
  unfold Tab.mkE Tab.mkI Tab.mkQ Tab.mkT
  cases hm : mayP x with
  | false =>
    simp only [if_true]
    rw [hm] at HM
    unfold Gr.val at HM ⊢
    generalize x.arr = X at *
    have k0 := hb4.cell 0
    have k1 := hb4.cell 1
    have f0 := hb4.frozen 0
    have f1 := hb4.frozen 1
    have HB4 := Lib.hid hb4
    clear hb4 hm h
    go_enter Tryd.func16, Tryd.ntmps16
    go_upto_region 1 with (fail)
    rw [← hWe]
    clear hWe
    go_wp2_with (first
      | (go_at_call 20; (refine (HN.out _ hc).mono ?_); rintro e w' ⟨rfl, rfl⟩)
      | ((with_reducible refine wpl_loadE T37 hb3 hXs ?_ ?_ ?_); (· rfl); (· exact ⟨_, rfl, rfl⟩))
      | (go_at_call 4; (refine (HM.out _).mono ?_); rintro e w1 ⟨rfl, hc1⟩; have hb5 := HB4.out.chg hc1 (by simp); have y0 := hb5.cell 0; have y1 := hb5.cell 1; have g0 := hb5.frozen 0; have g1 := hb5.frozen 1; have HC1 := Lib.hid hc1; clear hc1 hb5))
    exact bodyPost_ret (v := .tuple #[.agg #[.int .i64 0, .int .u64 0], .int .i64 2]) (by simp [results, Tryd.results16, go_sem, y0, y1]) rfl ⟨rfl, HSame.out _ (((hc.then HC1.out).setCell (p := ⟨w.heap.size + 1, 0, none⟩) (.inr (by simp)) _).setCell (p := ⟨w.heap.size + 1, 1, none⟩) (.inr (by simp)) _)⟩
  | true =>
    simp only [Bool.true_eq_false, if_false]
    rw [hm] at HM
    have hcS : c ∉ S := by obtain ⟨g, hB, hT, _⟩ := h; exact hT.ty hB (by decide) (by decide) (by decide)
    obtain ⟨g, hB, hT, hW⟩ := h
    have HP : Hid (∀ W W', Chg [] w W → Chg [] W W' → Calls Tryd.prog 21 #[ptr g, x.val] W' fun e w' => e = .returned (.tuple #[.agg #[.int .i64 t.putI, .int .u64 t.putQ], .int .i64 t.putE]) ∧ Turns g S (t.putT x) W' w') := Lib.hid (fun W W' hc hc' => aput_any (hT.quiet (hc.then hc')) hW x)
    have HT := Lib.hid (fun W w2 w' hc (hT2 : Turns g S (t.putT x) W w2) hc2 => GTurns.of (w := w) (w1 := W) (w2 := w2) (w' := w') hB hcS hc hT2 hc2 (putT_wf hW x))
    have HB := Lib.hid hB
    have hSl := hT.lt
    have hn5' : w.heap.size ∉ S := fun hk => by have := hSl _ hk; omega
    have hn4 : w.heap.size + 1 ∉ S := fun hk => by have := hSl _ hk; omega
    have lc := hB.lt
    generalize t.putI = I at *
    generalize t.putQ = Q at *
    generalize t.putE = E at *
    generalize t.putT x = T' at *
    unfold Gr.val at HM HP ⊢
    generalize x.arr = X at *
    clear hm hT hW hB hSl
    go_enter Tryd.func16, Tryd.ntmps16
    go_upto_region 1 with (fail)
    rw [← hWe]
    clear hWe
    go_wp2_with (first
      | (go_at_call 20; (refine (HN.out _ hc).mono ?_); rintro e w' ⟨rfl, rfl⟩)
      | ((with_reducible refine wpl_loadE T37 hb3 hXs ?_ ?_ ?_); (· rfl); (· exact ⟨_, rfl, rfl⟩))
      | (go_at_call 4; (refine (HM.out _).mono ?_); rintro e w1 ⟨rfl, hc1⟩))
    have hb5 := (hb3.chg hc1 (by simp)).drew
    have hbc := (HB.out.chg (hc.then hc1) (by simp)).drew
    have hb6 := (hb4.chg hc1 (by simp)).drew
    have hc9 := hc.size
    refine wp_region_held_drew (S := fun w' => Blk w' w.heap.size 29 X ∧ Blk w' c 54 #[ptr g]) (by kernel_rfl) ⟨hb5, hbc⟩ (fun hHeld => ?_)
    simp only [List.setIfInBounds_toArray, List.size_toArray, List.length_cons, List.length_nil, Array.replicate]
    refine wpAnyH_take (i := 0) (v := ?_) rfl (by kernel_rfl) (by kernel_rfl) (by kernel_rfl) (fun _ _ _ h => h) (Or.inl ⟨by rfl, ?_⟩) hHeld ?_
    rotate_left
    · (intro w' hSw; go_simp; try with_reducible rfl)
    simp only [Act.put, List.getElem_toArray, List.getElem_cons_succ, List.getElem_cons_zero, List.setIfInBounds_toArray, List.set_cons_zero, List.set_cons_succ]
    refine wpAnyH_take (i := 1) (v := ?_) rfl (by kernel_rfl) (by kernel_rfl) (by kernel_rfl) (fun _ _ _ h => h) (Or.inl ⟨by rfl, ?_⟩) hHeld ?_
    rotate_left
    · (intro w' hSw; go_simp; try with_reducible rfl)
    simp only [Act.put, List.getElem_toArray, List.getElem_cons_succ, List.getElem_cons_zero, List.setIfInBounds_toArray, List.set_cons_zero, List.set_cons_succ]
    refine wpAnyH_take (i := 2) (v := ?_) rfl (by kernel_rfl) (by kernel_rfl) (by kernel_rfl) (fun _ _ _ h => h) (Or.inl ⟨by rfl, ?_⟩) hHeld ?_
    rotate_left
    · (intro w' hSw; go_simp; try with_reducible rfl)
    simp only [Act.put, List.getElem_toArray, List.getElem_cons_succ, List.getElem_cons_zero, List.setIfInBounds_toArray, List.set_cons_zero, List.set_cons_succ]
    refine wpAnyH_take (i := 3) (v := ?_) rfl (by kernel_rfl) (by kernel_rfl) (by kernel_rfl) (fun _ _ _ h => h) (Or.inl ⟨by rfl, ?_⟩) hHeld ?_
    rotate_left
    · (intro w' hSw; obtain ⟨s0, s1⟩ := hSw; have q0 := s1.cell 0; simp only [List.getElem?_toArray, List.getElem?_cons_zero, List.getElem?_cons_succ] at q0; go_simp; try with_reducible rfl)
    simp only [Act.put, List.getElem_toArray, List.getElem_cons_succ, List.getElem_cons_zero, List.setIfInBounds_toArray, List.set_cons_zero, List.set_cons_succ]
    refine wpAnyH_take (i := 4) (v := .agg X) rfl (by kernel_rfl) (by kernel_rfl) (by kernel_rfl) (fun _ _ _ h => h) (Or.inl ⟨by rfl, fun w' hSw => sk_run_load T37 hXs (blk_cells hSw.1) _ (by rfl) (by rfl)⟩) hHeld ?_
    simp only [Act.put, List.getElem_toArray, List.getElem_cons_succ, List.getElem_cons_zero, List.setIfInBounds_toArray, List.set_cons_zero, List.set_cons_succ]
    refine wpAnyH_ready (rs := [5]) (by kernel_rfl) (by simp) ?_
    refine AllReadyH.cons rfl (fun K hK => ?_) AllReadyH.nil
    go_simp
    refine (HP.out _ _ hc hc1.drew).mono ?_
    rintro e w2 ⟨rfl, hT2⟩
    obtain ⟨S2, hT3, hs2, hc2⟩ := hT2
    have hz1 := hc1.size
    have hn5 := hn5'
    have hb7 := hb6.chg hc2 hn4
    refine hK _ _ ⟨hHeld.1.chg hc2 hn5, hHeld.2.chg hc2 hcS⟩ (fun hHeld => ?_)
    clear hK K
    simp only [Act.put, List.getElem_toArray, List.getElem_cons_succ, List.getElem_cons_zero, List.setIfInBounds_toArray, List.set_cons_zero, List.set_cons_succ]
    refine wpAnyH_take (i := 6) (v := ?_) rfl (by kernel_rfl) (by kernel_rfl) (by kernel_rfl) (fun _ _ _ h => h) (Or.inl ⟨by rfl, ?_⟩) hHeld ?_
    rotate_left
    · (intro w' hSw; go_simp; try with_reducible rfl)
    simp only [Act.put, List.getElem_toArray, List.getElem_cons_succ, List.getElem_cons_zero, List.setIfInBounds_toArray, List.set_cons_zero, List.set_cons_succ]
    refine wpAnyH_take (i := 7) (v := ?_) rfl (by kernel_rfl) (by kernel_rfl) (by kernel_rfl) (fun _ _ _ h => h) (Or.inl ⟨by rfl, ?_⟩) hHeld ?_
    rotate_left
    · (intro w' hSw; go_simp; try with_reducible rfl)
    simp only [Act.put, List.getElem_toArray, List.getElem_cons_succ, List.getElem_cons_zero, List.setIfInBounds_toArray, List.set_cons_zero, List.set_cons_succ]
    have k0 := hb7.cell 0
    have k1 := hb7.cell 1
    have f0 := hb7.frozen 0
    have f1 := hb7.frozen 1
    refine wpAnyH_ready (rs := [8]) (by kernel_rfl) (by simp) ?_
    refine AllReadyH.cons rfl (fun K hK => ?_) AllReadyH.nil
    go_simp
    refine hK _ _ ⟨(hHeld.1.far (p := ⟨w.heap.size + 1, 0, none⟩) (by simp) _).far (p := ⟨w.heap.size + 1, 1, none⟩) (by simp) _, (hHeld.2.far (p := ⟨w.heap.size + 1, 0, none⟩) (by simp; omega) _).far (p := ⟨w.heap.size + 1, 1, none⟩) (by simp; omega) _⟩ (fun hHeld => ?_)
    clear hK K
    simp only [Act.put, List.getElem_toArray, List.getElem_cons_succ, List.getElem_cons_zero, List.setIfInBounds_toArray, List.set_cons_zero, List.set_cons_succ]
    refine wpAnyH_take (i := 9) (v := ?_) rfl (by kernel_rfl) (by kernel_rfl) (by kernel_rfl) (fun _ _ _ h => h) (Or.inl ⟨by rfl, ?_⟩) hHeld ?_
    rotate_left
    · (intro w' hSw; go_simp; try with_reducible rfl)
    simp only [Act.put, List.getElem_toArray, List.getElem_cons_succ, List.getElem_cons_zero, List.setIfInBounds_toArray, List.set_cons_zero, List.set_cons_succ]
    refine wpAnyH_done (by kernel_rfl) ?_ _
    go_wp2
    have hb8 := (hb7.set_ 0 (.int .i64 I)).set_ 1 (.int .u64 Q)
    have m0 := hb8.cell 0
    have m1 := hb8.cell 1
    refine bodyPost_ret (v := .tuple #[.agg #[.int .i64 I, .int .u64 Q], .int .i64 E]) (by simp [results, Tryd.results16, go_sem, k0, k1]) rfl ⟨rfl, ?_⟩
    have hG := HT.out _ _ w2 (hc.then hc1.drew) ⟨S2, hT3, hs2, hc2⟩ (Chg.refl _ _)
    obtain ⟨S3, hG3, hs3, hc3⟩ := hG
    have hn6 : w.heap.size + 1 ≠ c ∧ w.heap.size + 1 ∉ S3 := hG3.ty hb7 (by decide) (by decide) (by decide) (by decide)
    refine ⟨S3, hG3.same (Below.heap_setCell2 _ _ _ _ _ _ hn6.1) (fun k hk => Below.heap_setCell2 _ _ _ _ _ _ (fun e => hn6.2 (by rw [e]; exact hk))), hs3, (hc3.setCell (p := ⟨w.heap.size + 1, 0, none⟩) (.inr (by simp)) _).setCell (p := ⟨w.heap.size + 1, 1, none⟩) (.inr (by simp)) _⟩
end Go.Proofs
end
section
namespace Go.Proofs
open Go.RowKit
set_option linter.unusedVariables false
set_option linter.unusedSimpArgs false

/-- No place of it is near its last generation. -/
def Tab.low (t : Tab Gr) : Prop := ∀ (k : Nat) (s : Spot Gr), t.spots[k]? = some s → s.gen + 1 < topG
def Tab.drT (t : Tab Gr) (i q : Int) : Tab Gr := if t.has i q = true then t.drop Gr.zero i.toNat q else t
theorem has_spot {t : Tab Gr} {i q : Int} (h : t.has i q = true) : ∃ (k : Nat) (s : Spot Gr), i = (k : Nat) ∧ q = s.gen ∧ t.spots[k]? = some s ∧ s.there = true := by
  obtain ⟨s, hl, rfl⟩ := has_iff.1 h
  obtain ⟨j0, hj, hth⟩ := live_iff.1 hl
  obtain ⟨k, rfl⟩ := Int.eq_ofNat_of_zero_le j0
  simp only [Int.toNat_natCast] at hj
  exact ⟨k, s, rfl, rfl, hj, hth⟩
theorem drT_wf {t : Tab Gr} (hw : t.WF) (i q : Int) : (t.drT i q).WF := by
  unfold Tab.drT
  cases hq : t.has i q with
  | false => rw [if_neg (by simp)]; exact hw
  | true =>
    rw [if_pos rfl]
    obtain ⟨k, s, rfl, rfl, hs, hth⟩ := has_spot hq
    exact hw.drop hs hth
theorem gnew_no (size : Int) (h : size < 1 ∨ 64 < size) (w : World) : Calls Tryd.prog 15 #[.int .i64 size] w fun e w' => e = .returned (.tuple #[.pointer none, .int .i64 2]) ∧ w' = w := by
  by_cases h1 : size < 1
  · go_enter Tryd.func15, Tryd.ntmps15
    go_wp2
    go_ret2
    exact ⟨rfl, rfl⟩
  · have h2 : 64 < size := by omega
    clear h
    go_enter Tryd.func15, Tryd.ntmps15
    go_wp2
    go_ret2
    exact ⟨rfl, rfl⟩
theorem gnew_ok (size : Int) (h1 : 1 ≤ size) (h2 : size ≤ 64) (w : World) : Calls Tryd.prog 15 #[.int .i64 size] w fun e w' => ∃ c S, e = .returned (.tuple #[ptr c, .int .i64 0]) ∧ GAt w' c S ⟨size, 1, [], [], 0⟩ ∧ w.heap.size ≤ c ∧ (∀ k ∈ S, w.heap.size ≤ k) ∧ Chg [] w w' := by
  have hm : mayT size 1 = true := mayT_iff.2 ⟨h1, by omega, by decide, by decide⟩
  have HN := new_ok_C (w := w) size 1 hm
  have hW : (⟨size, 1, [], [], 0⟩ : Tab Gr).WF := Tab.WF.new h1 (by omega) (by decide) (by decide)
  clear hm
  go_enter Tryd.func15, Tryd.ntmps15
  go_wp2_with (go_at_call 19; (refine HN.mono ?_); rintro e w1 ⟨rfl, hT, hc⟩; have HT := Lib.hid hT; have HC := Lib.hid hc; clear hT hc)
  go_ret2
  refine ⟨w1.heap.size, _, rfl, ⟨w.heap.size, Blk.new w1 54 _, HT.out.quiet ((Chg.refl [] w1).alloc _), hW⟩, HC.out.size, by simp, HC.out.then ((Chg.refl [] w1).alloc _)⟩
end Go.Proofs
end
section
namespace Go.Proofs
open Go.RowKit
set_option linter.unusedVariables false
set_option linter.unusedSimpArgs false

/-! ### known: the chapter's row -/
def g1 : Gr := { Gr.zero with st := 1 }
def k0 : Tab Gr := ⟨(2 : Nat), 1, [], [], 0⟩
def k1 : Tab Gr := k0.mkT g1
def k2 : Tab Gr := k1.turnT 0 1 2
def k3 : Tab Gr := k2.turnT 0 1 4
theorem k0_e : k0.mkE g1 = 0 ∧ k0.mkI g1 = 0 ∧ k0.mkQ g1 = 1 := by decide
theorem k1_e : k1.turnE 0 1 2 = 0 := by decide
theorem k2_e : k2.turnE 0 1 4 = 0 := by decide
theorem k3_e : k3.turnE 0 1 2 = 5 := by decide
theorem in1 : inI (k1.getG 0 1).st := ⟨by decide, by decide⟩
theorem in2 : inI (k2.getG 0 1).st := ⟨by decide, by decide⟩
theorem in3 : inI (k3.getG 0 1).st := ⟨by decide, by decide⟩
set_option maxRecDepth 100000 in
set_option maxHeartbeats 3200000 in
theorem known_any (w : World) : Calls Tryd.prog 9 #[] w fun e w' => e = .returned (.bool true) ∧ Chg [] w w' := by
  have HN := Lib.hid (gnew_ok (2 : Nat) (by decide) (by decide) w)
  have i0 : inI 0 := ⟨by decide, by decide⟩
  have i2 : inI 2 := ⟨by decide, by decide⟩
  have i4 : inI 4 := ⟨by decide, by decide⟩
  have HM := Lib.hid (fun W c S (h : GAt W c S k0) => (by have := Make_any h g1; rw [k0_e.1, k0_e.2.1, k0_e.2.2] at this; exact this : Calls Tryd.prog 16 #[ptr c, g1.val] W fun e w' => e = .returned (.tuple #[.agg #[.int .i64 0, .int .u64 1], .int .i64 0]) ∧ GTurns c S k1 W w'))
  have H1 := Lib.hid (fun W c S (h : GAt W c S k1) => (by have := Turn_any h 0 1 i0 2 i2 in1; rw [k1_e] at this; exact this : Calls Tryd.prog 17 #[ptr c, .agg #[.int .i64 0, .int .u64 1], .int .i64 2] W fun e w' => e = .returned (.int .i64 0) ∧ GTurns c S k2 W w'))
  have H2 := Lib.hid (fun W c S (h : GAt W c S k2) => (by have := Turn_any h 0 1 i0 4 i4 in2; rw [k2_e] at this; exact this : Calls Tryd.prog 17 #[ptr c, .agg #[.int .i64 0, .int .u64 1], .int .i64 4] W fun e w' => e = .returned (.int .i64 0) ∧ GTurns c S k3 W w'))
  have H3 := Lib.hid (fun W c S (h : GAt W c S k3) => (by have := Turn_any h 0 1 i0 2 i2 in3; rw [k3_e] at this; exact ⟨_, this⟩ : ∃ t', Calls Tryd.prog 17 #[ptr c, .agg #[.int .i64 0, .int .u64 1], .int .i64 2] W fun e w' => e = .returned (.int .i64 5) ∧ GTurns c S t' W w'))
  go_enter Tryd.func9, Tryd.ntmps9
  go_wp2_with (first
    | (go_at_call 15; (refine HN.out.mono ?_); rintro e w1 ⟨c, S, rfl, hG, hcl, hSl, hc1⟩)
    | (go_at_call 16; (refine (HM.out _ c S (hG.quiet (Chg.refl [] _))).mono ?_); rintro e w2 ⟨rfl, S2, hG2, hs2, hc2⟩; have hl2 := hc2.size; have hz2 := hG2.lt.2; clear hG)
    | (go_at_call 17; (refine (H1.out _ c S2 (hG2.quiet (((Chg.refl [] w2).alloc _)))).mono ?_); rintro e w3 ⟨rfl, S3, hG3, hs3, hc3⟩; have hn2 : w2.heap.size ∉ S2 := (fun hk => by have := hz2 _ hk; omega); have hb3 := (Blk.new w2 25 #[.int .i64 0, .int .u64 1]).chg hc3 hn2; have hn3 : w2.heap.size ∉ S3 := (fun hk => by have := hs3 _ hk; simp only [World.size_alloc] at this; rcases this with h9 | h9; exact hn2 h9; omega); have b0 := hb3.cell 0; have b1 := hb3.cell 1; simp only [List.getElem?_toArray, List.getElem?_cons_zero, List.getElem?_cons_succ] at b0 b1; have hl3 := hc3.size; simp only [World.size_alloc] at hl3; clear hG2)
    | (go_at_call 17; (refine (H2.out _ c S3 hG3).mono ?_); rintro e w4 ⟨rfl, S4, hG4, hs4, hc4⟩; have hb4 := hb3.chg hc4 hn3; have d0 := hb4.cell 0; have d1 := hb4.cell 1; simp only [List.getElem?_toArray, List.getElem?_cons_zero, List.getElem?_cons_succ] at d0 d1; have hl4 := hc4.size; clear hG3 b0 b1)
    | (go_at_call 17; (obtain ⟨t', H3'⟩ := H3.out _ c S4 hG4); (refine H3'.mono ?_); rintro e w5 ⟨rfl, S5, hG5, hs5, hc5⟩))
  go_ret
  refine ⟨rfl, ?_⟩
  have l1 := hc1.size
  have a2 : ∀ k ∈ S2, w.heap.size ≤ k := fun k hk => by rcases hs2 k hk with h9 | h9; exact hSl k h9; omega
  have a3 : ∀ k ∈ S3, w.heap.size ≤ k := fun k hk => by
    have := hs3 k hk
    simp only [World.size_alloc] at this
    rcases this with h9 | h9
    · exact a2 k h9
    · omega
  have a4 : ∀ k ∈ S4, w.heap.size ≤ k := fun k hk => by rcases hs4 k hk with h9 | h9; exact a3 k h9; omega
  exact ((((hc1.trans hc2 (fun k hk => .inr (hSl k hk))).alloc _).trans hc3 (fun k hk => .inr (a2 k hk))).trans hc4 (fun k hk => .inr (a3 k hk))).trans hc5 (fun k hk => .inr (a4 k hk))
end Go.Proofs
end
section
namespace Go.Proofs
open Go.RowKit
set_option linter.unusedVariables false
set_option linter.unusedSimpArgs false

theorem rTurns_1 (b : Int) (w : World) : Calls Tryd.prog 7 #[.int .i64 1, .int .i64 b] w fun e w' => e = .returned (.bool (b == 2 || b == 5 || b == 6)) ∧ w' = w := by
  by_cases h2 : b = 2
  · subst h2
    go_enter Tryd.func7, Tryd.ntmps7
    go_wp2
    go_ret
    exact ⟨rfl, rfl⟩
  have e2 : (b == 2) = false := by simpa using h2
  by_cases h5 : b = 5
  · subst h5
    go_enter Tryd.func7, Tryd.ntmps7
    go_wp2
    go_ret
    exact ⟨rfl, rfl⟩
  have e5 : (b == 5) = false := by simpa using h5
  rw [e2, e5]
  simp only [Bool.false_or]
  go_enter Tryd.func7, Tryd.ntmps7
  go_wp2
  go_ret
  exact ⟨rfl, rfl⟩
theorem rTurns_2 (b : Int) (w : World) : Calls Tryd.prog 7 #[.int .i64 2, .int .i64 b] w fun e w' => e = .returned (.bool (b == 1 || b == 3 || b == 4 || b == 5 || b == 6)) ∧ w' = w := by
  by_cases h1 : b = 1
  · subst h1
    go_enter Tryd.func7, Tryd.ntmps7
    go_wp2
    go_ret
    exact ⟨rfl, rfl⟩
  have e1 : (b == 1) = false := by simpa using h1
  by_cases h3 : b = 3
  · subst h3
    go_enter Tryd.func7, Tryd.ntmps7
    go_wp2
    go_ret
    exact ⟨rfl, rfl⟩
  have e3 : (b == 3) = false := by simpa using h3
  by_cases h4 : b = 4
  · subst h4
    go_enter Tryd.func7, Tryd.ntmps7
    go_wp2
    go_ret
    exact ⟨rfl, rfl⟩
  have e4 : (b == 4) = false := by simpa using h4
  by_cases h5 : b = 5
  · subst h5
    go_enter Tryd.func7, Tryd.ntmps7
    go_wp2
    go_ret
    exact ⟨rfl, rfl⟩
  have e5 : (b == 5) = false := by simpa using h5
  rw [e1, e3, e4, e5]
  simp only [Bool.false_or]
  go_enter Tryd.func7, Tryd.ntmps7
  go_wp2
  go_ret
  exact ⟨rfl, rfl⟩
theorem rTurns_3 (b : Int) (w : World) : Calls Tryd.prog 7 #[.int .i64 3, .int .i64 b] w fun e w' => e = .returned (.bool (b == 1 || b == 5)) ∧ w' = w := by
  by_cases h1 : b = 1
  · subst h1
    go_enter Tryd.func7, Tryd.ntmps7
    go_wp2
    go_ret
    exact ⟨rfl, rfl⟩
  have e1 : (b == 1) = false := by simpa using h1
  rw [e1]
  simp only [Bool.false_or]
  go_enter Tryd.func7, Tryd.ntmps7
  go_wp2
  go_ret
  exact ⟨rfl, rfl⟩
theorem rTurns_4 (b : Int) (w : World) : Calls Tryd.prog 7 #[.int .i64 4, .int .i64 b] w fun e w' => e = .returned (.bool (b == 1 || b == 5)) ∧ w' = w := by
  by_cases h1 : b = 1
  · subst h1
    go_enter Tryd.func7, Tryd.ntmps7
    go_wp2
    go_ret
    exact ⟨rfl, rfl⟩
  have e1 : (b == 1) = false := by simpa using h1
  rw [e1]
  simp only [Bool.false_or]
  go_enter Tryd.func7, Tryd.ntmps7
  go_wp2
  go_ret
  exact ⟨rfl, rfl⟩
theorem rTurns_6 (b : Int) (w : World) : Calls Tryd.prog 7 #[.int .i64 6, .int .i64 b] w fun e w' => e = .returned (.bool (b == 1 || b == 5)) ∧ w' = w := by
  by_cases h1 : b = 1
  · subst h1
    go_enter Tryd.func7, Tryd.ntmps7
    go_wp2
    go_ret
    exact ⟨rfl, rfl⟩
  have e1 : (b == 1) = false := by simpa using h1
  rw [e1]
  simp only [Bool.false_or]
  go_enter Tryd.func7, Tryd.ntmps7
  go_wp2
  go_ret
  exact ⟨rfl, rfl⟩
theorem rTurns_5 (b : Int) (w : World) : Calls Tryd.prog 7 #[.int .i64 5, .int .i64 b] w fun e w' => e = .returned (.bool (b == 1)) ∧ w' = w := by
  go_enter Tryd.func7, Tryd.ntmps7
  go_wp2
  go_ret
  exact ⟨rfl, rfl⟩
theorem rTurns_any (a b : Int) (w : World) : Calls Tryd.prog 7 #[.int .i64 a, .int .i64 b] w fun e w' => e = .returned (.bool (turnsP a b)) ∧ w' = w := by
  unfold turnsP
  by_cases h1 : a = 1
  · subst h1; rw [if_pos rfl]; exact rTurns_1 b w
  by_cases h2 : a = 2
  · subst h2; rw [if_neg (by decide), if_pos rfl]; exact rTurns_2 b w
  by_cases h3 : a = 3
  · subst h3; rw [if_neg (by decide), if_neg (by decide), if_pos (by decide)]; exact rTurns_3 b w
  by_cases h4 : a = 4
  · subst h4; rw [if_neg (by decide), if_neg (by decide), if_pos (by decide)]; exact rTurns_4 b w
  by_cases h6 : a = 6
  · subst h6; rw [if_neg (by decide), if_neg (by decide), if_pos (by decide)]; exact rTurns_6 b w
  by_cases h5 : a = 5
  · subst h5; rw [if_neg (by decide), if_neg (by decide), if_neg (by decide), if_pos rfl]; exact rTurns_5 b w
  rw [if_neg h1, if_neg h2, if_neg (by omega), if_neg h5]
  have e1 : (a == 1) = false := by simpa using h1
  have e2 : (a == 2) = false := by simpa using h2
  have e3 : (a == 3) = false := by simpa using h3
  have e4 : (a == 4) = false := by simpa using h4
  have e5 : (a == 5) = false := by simpa using h5
  have e6 : (a == 6) = false := by simpa using h6
  clear h1 h2 h3 h4 h5 h6
  go_enter Tryd.func7, Tryd.ntmps7
  go_wp2
  go_ret
  exact ⟨rfl, rfl⟩
end Go.Proofs
end
section
namespace Go.Proofs
open Go.RowKit
set_option linter.unusedVariables false
set_option linter.unusedSimpArgs false

/-! ### States' names -/
def nameAt : Nat → List UInt8
  | 0 => [105, 100, 108, 101]
  | 1 => [114, 117, 110, 110, 97, 98, 108, 101]
  | 2 => [114, 117, 110, 110, 105, 110, 103]
  | 3 => [112, 97, 114, 107, 101, 100]
  | 4 => [115, 108, 101, 101, 112, 105, 110, 103]
  | 5 => [115, 117, 115, 112, 101, 110, 100, 101, 100]
  | 6 => [116, 104, 114, 111, 116, 116, 108, 101, 100]
  | _ => [63]
def nameOf (s : Int) : List UInt8 := if 0 ≤ s ∧ s ≤ 6 then nameAt s.toNat else [63]
/-- The array of names. -/
def TabNames (w : World) : Prop := 0 < w.heap.size ∧ ∀ n : Nat, n < 7 → w.cell? ⟨0, n, none⟩ = some (.string ⟨(nameAt n).toArray⟩)
theorem TabNames.next {w w' : World} (h : TabNames w) (hc : Chg [] w w') : TabNames w' :=
  ⟨Nat.lt_of_lt_of_le h.1 hc.size, fun n hn => (hc.cell (p := ⟨0, n, none⟩) (show 0 < _ from h.1) (by simp)).trans (h.2 n hn)⟩
theorem Name_any (s : Int) (w : World) (h : TabNames w) : Calls Tryd.prog 8 #[.int .i64 s] w fun e w' => e = .returned (.string ⟨(nameOf s).toArray⟩) ∧ w' = w := by
  have hpos := h.1
  by_cases hk : 0 ≤ s ∧ s ≤ 6
  · obtain ⟨n, rfl⟩ := Int.eq_ofNat_of_zero_le hk.1
    have hr : nameOf (n : Int) = nameAt n := by unfold nameOf; rw [if_pos hk]; rfl
    rw [hr]
    have h1 := h.2 n (by omega)
    obtain ⟨x, hx⟩ : ∃ x : ByteArray, x = ⟨(nameAt n).toArray⟩ := ⟨_, rfl⟩
    rw [← hx] at h1 ⊢
    have hlo : ¬ (n : Int) < 0 := by omega
    have hhi : ¬ (n : Int) ≥ 7 := by omega
    have n0 : (0 : Int) ≤ (n : Int) := by omega
    have n1 : (n : Int) < 7 := by omega
    clear hx hr h
    go_enter Tryd.func8, Tryd.ntmps8
    go_wp2
    go_ret
    exact ⟨rfl, rfl⟩
  · have hr : nameOf s = [63] := by unfold nameOf; rw [if_neg hk]
    rw [hr]
    clear hr h
    by_cases hlo : s < 0
    · go_enter Tryd.func8, Tryd.ntmps8
      go_wp2
      go_ret
      exact ⟨rfl, rfl⟩
    · have hhi : s ≥ 7 := by omega
      go_enter Tryd.func8, Tryd.ntmps8
      go_wp2
      go_ret
      exact ⟨rfl, rfl⟩
theorem turns_self (a : Int) : turnsP a a = false := by
  unfold turnsP
  by_cases h1 : a = 1
  · subst h1; decide
  · rw [if_neg h1]
    by_cases h2 : a = 2
    · subst h2; decide
    · rw [if_neg h2]
      by_cases h3 : a = 3 ∨ a = 4 ∨ a = 6
      · rw [if_pos h3]
        rcases h3 with rfl | rfl | rfl <;> decide
      · rw [if_neg h3]
        by_cases h5 : a = 5
        · subst h5; decide
        · rw [if_neg h5]
theorem turns_idle (a : Int) : turnsP a 0 = false := by
  unfold turnsP
  split
  · decide
  · split
    · decide
    · split
      · decide
      · split <;> decide
theorem turns_from (b : Int) : turnsP 0 b = false := by
  unfold turnsP
  rw [if_neg (by decide), if_neg (by decide), if_neg (by decide), if_neg (by decide)]
end Go.Proofs
end
