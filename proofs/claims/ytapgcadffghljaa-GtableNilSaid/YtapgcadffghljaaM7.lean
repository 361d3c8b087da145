import Derived.Test.YtapgcadffghljaaM6
import Derived.Deep.Cut
import Derived.Deep.RegionWith
import Derived.Deep.RegionHeld3
import Derived.BigRegion
import Derived.Test.YtapgcadffghljaaM3
import Derived.Maps.Own
import Derived.BigQuiet
import Derived.StillTailTactics
import Derived.Test.YtapgcadffghljaaM4
import Derived.Laws.MakeOwn
import Derived.Laws.BytesArg
import Derived.Lib.Hide
section
namespace Go.Proofs
open Go.RowKit
set_option linter.unusedVariables false
set_option linter.unusedSimpArgs false

abbrev ptr (p : Nat) : Value := .pointer (some ⟨p, 0, none⟩)
/-- The table of goroutines lies at block c: it points at a table of layer 2, whose blocks are S. -/
def GAt (w : World) (c : Nat) (S : List Nat) (t : Tab Gr) : Prop := ∃ g, Blk w c 64 #[ptr g] ∧ TabAt w g S t ∧ t.WF
section
variable {w w' : World} {c : Nat} {S : List Nat} {t : Tab Gr}
theorem GAt.same (h : GAt w c S t) (hc : w'.heap[c]? = w.heap[c]?) (hk : ∀ k ∈ S, w'.heap[k]? = w.heap[k]?) : GAt w' c S t := by
  obtain ⟨g, hB, hT, hW⟩ := h
  exact ⟨g, hB.same hc, hT.same hk, hW⟩
theorem GAt.lt (h : GAt w c S t) : c < w.heap.size ∧ ∀ k ∈ S, k < w.heap.size := by
  obtain ⟨g, hB, hT, hW⟩ := h
  exact ⟨hB.lt, hT.lt⟩
theorem GAt.chg {S' : List Nat} (h : GAt w c S t) (hc : Chg S' w w') (hn : c ∉ S') (hk : ∀ k ∈ S, k ∉ S') : GAt w' c S t := by
  obtain ⟨g, hB, hT, hW⟩ := h
  exact ⟨g, hB.chg hc hn, hT.chg hc hk, hW⟩
theorem GAt.quiet (h : GAt w c S t) (hc : Chg [] w w') : GAt w' c S t := h.chg hc (by simp) (fun _ _ hk => by cases hk)
theorem GAt.ty (h : GAt w c S t) {b : Nat} {e : TypeId} {cs : Array Value} (hb : Blk w b e cs) (h0 : e ≠ 64) (h1 : e ≠ 96) (h2 : e ≠ 103) (h3 : e ≠ 3) : b ≠ c ∧ b ∉ S := by
  obtain ⟨g, hB, hT, hW⟩ := h
  exact ⟨hb.ty hB h0, hT.ty hb h1 h2 h3⟩
end
theorem places_any {w : World} {c : Nat} {V : Value} (h : Blk w c 64 #[V]) : Calls Try.prog 40 #[ptr c] w fun e w' => e = .returned V ∧ w = w' := by
  have c0 := h.cell 0
  clear h
  go_enter Try.func40, Try.ntmps40
  go_wp2
  go_ret
  exact ⟨rfl, rfl⟩
theorem gnone_any {w : World} {c g : Nat} (h : Blk w c 64 #[ptr g]) : Calls Try.prog 42 #[ptr c] w fun e w' => e = .returned (.bool false) ∧ w = w' := by
  go_enter Try.func42, Try.ntmps42
  go_wp2_with (go_at_call 40; refine (places_any h).mono ?_; rintro e w' ⟨rfl, rfl⟩)
  go_ret
  exact ⟨rfl, rfl⟩
/-- What All tells of one. -/
theorem taskf_any (i q : Int) (XA : Array Value) (hs : XA.size = 19) (h1 : XA.all (·.oneCell') = true) (w : World) :
    Calls Try.prog 38 #[.agg #[.int .i64 i, .int .u64 q], .agg XA] w fun e w' => e = .returned (.tuple #[.agg (#[.int .i64 i, .int .u64 q] ++ XA), .bool true]) ∧ Chg [] w w' := by
  have hbd := run_build49 i q XA hs
  have hps : (#[Value.int .i64 i, Value.int .u64 q] ++ XA).size = 21 := by simp [hs]
  have hp1 : (#[Value.int .i64 i, Value.int .u64 q] ++ XA).all (·.oneCell') = true := by rw [Array.all_append, h1]; simp [Value.oneCell']
  generalize #[Value.int .i64 i, Value.int .u64 q] ++ XA = PA at *
  obtain ⟨W, hW⟩ : ∃ W, W = ((w.alloc (.cells #[.int .i64 i, .int .u64 q] 33)).alloc (.cells XA 37)).alloc (.cells zP 49) := ⟨_, rfl⟩
  have hc : Chg [] w W := by rw [hW]; exact (((Chg.refl [] w).alloc _).alloc _).alloc _
  have hb0 : Blk W w.heap.size 33 #[.int .i64 i, .int .u64 q] := by rw [hW]; exact ((Blk.new w 33 _).alloc _).alloc _
  have hb1 : Blk W (w.heap.size + 1) 37 XA := by rw [hW]; exact (Blk.at' (w.alloc _) 37 _ (by simp)).alloc _
  have hb2 : Blk W (w.heap.size + 2) 49 zP := by rw [hW]; exact Blk.at' ((w.alloc _).alloc _) 49 _ (by simp)
  have y0 := hb0.cell 0
  have y1 := hb0.cell 1
  go_enter Try.func38, Try.ntmps38
  go_upto_region 1 with (fail)
  rw [← hW]
  clear hW
  go_wp2_with (first
    | ((with_reducible refine wpl_loadE T37 hb1 hs ?_ ?_ ?_); (· rfl); (· exact ⟨_, rfl, rfl⟩))
    | ((with_reducible refine wpl_buildE hbd ?_ ?_ ?_); (· rfl); (· exact ⟨_, _, rfl, rfl, rfl⟩))
    | ((with_reducible refine wpl_storeE T49 hb2 rfl hps hp1 ?_ ?_ ?_); (· rfl); (· exact ⟨_, _, rfl, rfl, rfl⟩); intro w3 hS3))
  refine bodyPost_ret (res_cell (b := w.heap.size + 2) rfl T49 rfl rfl hS3.blk hps) rfl ⟨rfl, hc.trans hS3.chg (fun k hk => by simp at hk; omega)⟩
/-- What Of tells of one. -/
theorem off_any (i q st s : Int) (XA : Array Value) (hs : XA.size = 19) (h0 : XA[0]? = some (.int .i64 st)) (b : Nat) (w : World) (hb : Blk w b 34 #[.int .i64 s]) :
    Calls Try.prog 54 #[.agg #[.int .i64 i, .int .u64 q], .agg XA, ptr b] w fun e w' => e = .returned (.tuple #[.agg #[.int .i64 i, .int .u64 q], .bool (st == s)]) ∧ Chg [] w w' := by
  obtain ⟨W, hW⟩ : ∃ W, W = ((w.alloc (.cells #[.int .i64 i, .int .u64 q] 33)).alloc (.cells XA 37)).alloc (.cells #[.int .i64 0, .int .u64 0] 33) := ⟨_, rfl⟩
  have hc : Chg [] w W := by rw [hW]; exact (((Chg.refl [] w).alloc _).alloc _).alloc _
  have hb0 : Blk W w.heap.size 33 #[.int .i64 i, .int .u64 q] := by rw [hW]; exact ((Blk.new w 33 _).alloc _).alloc _
  have hb1 : Blk W (w.heap.size + 1) 37 XA := by rw [hW]; exact (Blk.at' (w.alloc _) 37 _ (by simp)).alloc _
  have hb2 : Blk W (w.heap.size + 2) 33 #[.int .i64 0, .int .u64 0] := by rw [hW]; exact Blk.at' ((w.alloc _).alloc _) 33 _ (by simp)
  have hb3 : Blk W b 34 #[.int .i64 s] := hb.chg hc (by simp)
  have y0 := hb0.cell 0
  have y1 := hb0.cell 1
  have y2 := (hb1.cell 0).trans h0
  have y3 := hb3.cell 0
  have z0 := hb2.cell 0
  have z1 := hb2.cell 1
  have f0 := hb2.frozen 0
  have f1 := hb2.frozen 1
  have hz := hb2.lt
  have HB2 := Lib.hid hb2
  have HC := Lib.hid hc
  have lb := hb.lt
  have n1 : ¬ (w.heap.size + 1 + 1 = b) := by omega
  have n2 : ¬ (b = w.heap.size + 1 + 1) := by omega
  clear hb0 hb1 hb2 hb3 h0 hb hc lb
  go_enter Try.func54, Try.ntmps54
  go_upto_region 1 with (fail)
  rw [← hW]
  clear hW
  go_region
  all_goals
    go_wp2
    exact bodyPost_ret (v := .tuple #[.agg #[.int .i64 i, .int .u64 q], .bool (st == s)]) (by simp [results, Try.results54, go_sem, z0, z1, hz]) rfl ⟨rfl, ((HC.out.drew.setCell (p := ⟨w.heap.size + 2, 0, none⟩) (.inr (by simp)) _).setCell (p := ⟨w.heap.size + 2, 1, none⟩) (.inr (by simp)) _)⟩
end Go.Proofs
end
section
namespace Go.Proofs
open Go.RowKit
set_option linter.unusedVariables false
set_option linter.unusedSimpArgs false

/-! ### The map of turns -/
/-- The map that is being made: its entries, each key and the set there. -/
structure DT (w0 w : World) (m : Nat) (E : List (Int × Int)) : Prop where
  base : w0.heap.size ≤ m
  below : Below m w0 w
  map : ∃ es c, w.heap[m]? = some (.map es c) ∧ es.size = E.length ∧ ∀ (i : Nat) k l, E[i]? = some (k, l) → ∃ e, es[i]? = some e ∧ e.key = .int .i64 k ∧ e.val = .int .u8 l
theorem DT.next {w0 w w' : World} {m : Nat} {E : List (Int × Int)} (h : DT w0 w m E) (hb : Below w.heap.size w w') : DT w0 w' m E := by
  obtain ⟨es, c, hm, hs, he⟩ := h.map
  have hlt : m < w.heap.size := (Array.getElem?_eq_some_iff.1 hm).1
  exact ⟨h.base, h.below.trans (hb.mono (by omega)), es, c, (hb.block m hlt).trans hm, hs, he⟩
theorem DT.made (w : World) : DT w (w.alloc (.map #[] 0)) w.heap.size [] :=
  ⟨Nat.le_refl _, (Below.refl _ w).alloc (Nat.le_refl _) _, #[], 0, (MapKept.heap_alloc w _).1, rfl, fun i k l hi => by simp at hi⟩
theorem keyWf {k : Int} (h0 : -9223372036854775808 ≤ k) (h1 : k ≤ 9223372036854775807) : keyOf Try.prog 34 (.int .i64 k) = some (.int .i64 k) :=
  Maps.keyOf_int_mk Try.underlying34 (WalkArith.wf_i64 ⟨h0, h1⟩)
theorem DT.keys {w : World} {m : Nat} {E : List (Int × Int)} (hE : ∀ x ∈ E, 0 ≤ x.1 ∧ x.1 ≤ 1000) {es : Array MapEntry} (hs : es.size = E.length)
    (he : ∀ (i : Nat) k l, E[i]? = some (k, l) → ∃ e, es[i]? = some e ∧ e.key = .int .i64 k ∧ e.val = .int .u8 l) : ∀ e ∈ es.toList, ∃ x ∈ E, e.key = .int .i64 x.1 ∧ e.val = .int .u8 x.2 ∧ keyOf Try.prog 34 e.key = some (.int .i64 x.1) := by
  intro e hm
  obtain ⟨i, hi⟩ := List.getElem?_of_mem hm
  have hlt : i < E.length := by
    have := (List.getElem?_eq_some_iff.1 hi).1
    rw [Array.length_toList] at this
    omega
  obtain ⟨e', h1, h2, h3⟩ := he i E[i].1 E[i].2 (List.getElem?_eq_getElem hlt)
  have : e' = e := by
    have := h1.symm.trans (by simpa using hi)
    exact Option.some.inj this
  subst this
  have hx := hE E[i] (List.getElem_mem hlt)
  exact ⟨E[i], List.getElem_mem hlt, h2, h3, by rw [h2]; exact keyWf (by omega) (by omega)⟩
theorem DT.insert {w0 w : World} {m : Nat} {E : List (Int × Int)} (h : DT w0 w m E) (hE : ∀ x ∈ E, 0 ≤ x.1 ∧ x.1 ≤ 1000) {k : Int} (h0 : 0 ≤ k) (h1 : k ≤ 1000) (hk : ∀ x ∈ E, x.1 ≠ k) (v : Int) :
    ∃ w', (Instr.mapUpdate 111 (.map (some m)) (.int .i64 k) (.int .u8 v)).run Try.prog w = .ok () w' ∧ DT w0 w' m (E ++ [(k, v)]) := by
  obtain ⟨es, c, hm, hs, he⟩ := h.map
  have K := Maps.int_keyed (P := Try.prog) Try.underlying34
  have hkeys := DT.keys (w := w) (m := m) hE hs he
  have hlt : m < w.heap.size := (Array.getElem?_eq_some_iff.1 hm).1
  have hf : (Instr.findKey 34 (.int .i64 k) es.toList).run Try.prog w = .ok none w := by
    rcases K.find w (keyWf (k := k) (by omega) (by omega)) es.toList (fun e hm => by obtain ⟨x, _, _, _, hx⟩ := hkeys e hm; exact ⟨_, hx⟩) with ⟨hr, _⟩ | ⟨j, e, _, hj, hke⟩
    · exact hr
    · obtain ⟨x, hx, hkx, _⟩ := hkeys e (List.mem_of_getElem? hj)
      rw [hkx] at hke
      cases hke
      exact absurd rfl (hk x hx)
  refine ⟨{ w with heap := w.heap.setIfInBounds m (.map (es.push { key := .int .i64 k, val := .int .u8 v, born := c }) (c + 1)) }, ?_, ?_⟩
  · unfold Instr.mapUpdate
    simp only [Sem.run_bind, run_underlying Try.underlying111, Result.andThen, MapKept.run_getObj_map hm, K.check w false (keyWf (k := k) (by omega) (by omega)), hf]
    exact MapKept.run_setObj_map _ hm
  · refine ⟨h.base, h.below.trans ⟨rfl, rfl, rfl, by simp, fun b hb => ?_⟩, es.push { key := .int .i64 k, val := .int .u8 v, born := c }, c + 1, by simp [hlt], by simp [hs], fun i k' l' hi => ?_⟩
    · show (w.heap.setIfInBounds m _)[b]? = _
      rw [Array.getElem?_setIfInBounds_ne (by omega)]
    · by_cases hlast : i < E.length
      · rw [List.getElem?_append_left hlast] at hi
        obtain ⟨e, q1, q2, q3⟩ := he i k' l' hi
        exact ⟨e, by rw [Array.getElem?_push_lt (by omega)]; rw [← q1]; simp [hs, hlast], q2, q3⟩
      · have hi2 : i = E.length := by
          have := (List.getElem?_eq_some_iff.1 hi).1
          simp at this
          omega
        subst hi2
        simp at hi
        obtain ⟨rfl, rfl⟩ := hi
        exact ⟨{ key := .int .i64 k, val := .int .u8 v, born := c }, by rw [← hs]; simp, rfl, rfl⟩
def lookE (E : List (Int × Int)) (k : Int) : Int := match E.find? (fun x => x.1 == k) with | some x => x.2 | none => 0
theorem zero110 (w : World) : (zeroValue 110).run Try.prog w = .ok (.int .u8 0) w := Try.zeroValue110 w
theorem DT.lookup {w0 w : World} {m : Nat} {E : List (Int × Int)} (h : DT w0 w m E) (hE : ∀ x ∈ E, 0 ≤ x.1 ∧ x.1 ≤ 1000) (hd : ∀ x ∈ E, lookE E x.1 = x.2) {k : Int} (h0 : -9223372036854775808 ≤ k) (h1 : k ≤ 9223372036854775807) :
    (Instr.lookup 111 (.map (some m)) (.int .i64 k) false).run Try.prog w = .ok (.int .u8 (lookE E k)) w := by
  obtain ⟨es, c, hm, hs, he⟩ := h.map
  have K := Maps.int_keyed (P := Try.prog) Try.underlying34
  have hkeys := DT.keys (w := w) (m := m) hE hs he
  rcases K.find w (keyWf h0 h1) es.toList (fun e hm => by obtain ⟨x, _, _, _, hx⟩ := hkeys e hm; exact ⟨_, hx⟩) with ⟨hr, hno⟩ | ⟨j, e, hr, hj, hke⟩
  · have hn : ∀ x ∈ E, x.1 ≠ k := fun x hx hxk => by
      obtain ⟨i, hi⟩ := List.getElem?_of_mem hx
      obtain ⟨e, q1, q2, _⟩ := he i x.1 x.2 hi
      exact hno e (by have := List.mem_of_getElem? (l := es.toList) (i := i) (a := e) (by simpa using q1); exact this) (by rw [q2, hxk])
    have hz : lookE E k = 0 := by
      unfold lookE
      rw [List.find?_eq_none.2 (fun x hx => by simpa using hn x hx)]
    rw [hz]
    simp [Instr.lookup, run_underlying Try.underlying111, MapKept.run_getObj_map hm, K.check w _ (keyWf h0 h1), hr, zero110 w, Result.andThen]
  · obtain ⟨x, hx, hkx, hv, _⟩ := hkeys e (List.mem_of_getElem? hj)
    rw [hkx] at hke
    cases hke
    rw [hd x hx, ← hv]
    simp [Instr.lookup, run_underlying Try.underlying111, MapKept.run_getObj_map hm, K.check w _ (keyWf h0 h1), hr, Result.andThen]
/-- .. whose keys are lesser than n. -/
def DTn (w0 w : World) (m : Nat) (E : List (Int × Int)) (n : Int) : Prop := DT w0 w m E ∧ ∀ x ∈ E, 0 ≤ x.1 ∧ x.1 < n
theorem wpList_insert_dt {w0 w : World} {mb : Nat} {E : List (Int × Int)} {n : Int} (h : DTn w0 w mb E n) {ops : Array Oper} {rest : List Oper} {o : Oper} {a : Act} {Q : Exit → Act → World → Prop}
    (hg : o.guard = none) (m x v : Operand) (hop : o.op = Op.insert 111 m x v) (hm : a.eval m = .map (some mb)) (k : Int) (hx : a.eval x = .int .i64 k) (l : Int) (hv : a.eval v = .int .u8 l)
    (hn : n ≤ k) (hn2 : n ≤ 1000) (h0 : 0 ≤ k) (h1 : k ≤ 1000) (hK : ∀ w', DTn w0 w' mb (E ++ [(k, l)]) (k + 1) → wpList Try.prog ops Q rest (a.put o.dst undef) w') : wpList Try.prog ops Q (o :: rest) a w := by
  refine wpList_plain hg fun K' hK' => ?_
  obtain ⟨w', hrun, hD⟩ := h.1.insert (fun x hx => by have := h.2 x hx; omega) (k := k) (by omega) (by omega) (fun x hx e => by have := h.2 x hx; omega) l
  unfold Oper.wp
  simp [execOp, hop, hm, hx, hv, hrun, Result.andThen]
  refine hK' _ _ (hK w' ⟨hD, fun x hx => ?_⟩)
  rcases List.mem_append.1 hx with hx | hx
  · have := h.2 x hx; omega
  · simp at hx; subst hx; exact ⟨h0, by show k < k + 1; omega⟩
/-- Which turns may be: the sets, as bits. -/
def turnE : List (Int × Int) := [(1, 100), (2, 122), (3, 34), (4, 34), (5, 2), (6, 34)]
def turnsP (a b : Int) : Bool :=
  if a = 1 then b == 2 || b == 5 || b == 6 else if a = 2 then b == 1 || b == 3 || b == 4 || b == 5 || b == 6
  else if a = 3 ∨ a = 4 ∨ a = 6 then b == 1 || b == 5 else if a = 5 then b == 1 else false
def flagP (s : Int) (was : Bool) : Bool := if s = 5 then true else if s = 1 ∨ s = 2 then false else was
def mayP (g : Gr) : Bool :=
  (decide (1 ≤ g.st) && decide (g.st ≤ 6)) && (g.un == 0 || (g.st == 4 && decide (g.un ≤ 1152921504606846976))) && decide (0 ≤ g.pg) && decide (0 ≤ g.pc) && (g.su == flagP g.st g.su)
def Gr.turn (g : Gr) (to : Int) : Gr := { g with st := to, su := flagP to g.su, un := 0 }
end Go.Proofs
end
section
namespace Go.Proofs
open Go.RowKit
set_option linter.unusedVariables false
set_option linter.unusedSimpArgs false

/-! ### Which turns may be; the code's and the document's -/
def intOfV : Value → Int
  | .int _ n => n
  | _ => 0
def setP (f : Nat → Int) : Nat → Int
  | 0 => 0
  | k + 1 => bits BinOp.or IntKind.u8 (setP f k) (2 ^ (f k).toNat % 256)
def hasP (x s : Int) : Bool := decide (0 ≤ s) && (bits BinOp.and IntKind.u8 (x / 2 ^ min s.toNat 8) 1 == 1)
theorem setOf_any (n b : Nat) (f : Nat → Int) (hf : ∀ i, 0 ≤ f i ∧ f i ≤ 7) (hn : n ≤ 10) (w : World) (hc : ∀ i, i < n → w.cell? ⟨b, i, none⟩ = some (.int .i64 (f i))) :
    Calls Try.prog 70 #[.slice (some ⟨b, 0, none⟩) n n] w fun e w' => e = .returned (.int .u8 (setP f n)) ∧ w' = w := by
  go_enter Try.func70, Try.ntmps70
  go_wp2
  go_loopw [3, 8] (fun xv iv wr => ∃ k : Nat, k ≤ n ∧ iv = .int .i64 k ∧ xv = .int .u8 (setP f k) ∧ wr = w) (fun xv iv wr => n - (intOfV iv).toNat)
  case atStart => exact ⟨0, by omega, rfl, rfl, rfl⟩
  case round =>
    obtain ⟨k, hk, rfl, rfl, rfl⟩ := hrel
    by_cases hlt : k < n
    · have c := hc k hlt
      have h0 := (hf k).1
      have h7 := (hf k).2
      go_wp2
      refine ⟨⟨k + 1, by omega, rfl, rfl, trivial⟩, by simp [intOfV]; omega⟩
    · obtain rfl : k = n := by omega
      go_wp2
      go_ret
      exact ⟨rfl, rfl⟩
theorem has_any (x s : Int) (hs : -9223372036854775808 ≤ s ∧ s ≤ 9223372036854775807) (w : World) :
    Calls Try.prog 64 #[.int .u8 x, .int .i64 s] w fun e w' => e = .returned (.bool (hasP x s)) ∧ w' = w := by
  unfold hasP
  by_cases h0 : 0 ≤ s
  · rw [show decide (0 ≤ s) = true from decide_eq_true h0, Bool.true_and]
    go_enter Try.func64, Try.ntmps64
    go_wp2
    go_ret
    exact ⟨rfl, rfl⟩
  · rw [show decide (0 ≤ s) = false from decide_eq_false h0, Bool.false_and]
    go_enter Try.func64, Try.ntmps64
    go_wp2
    go_ret
    exact ⟨rfl, rfl⟩
def fOf (l : List Int) (i : Nat) : Int := l.getD i 0
set_option maxRecDepth 100000 in
theorem turns_any (w : World) : Calls Try.prog 63 #[] w fun e w' => e = .returned (.map (some w.heap.size)) ∧ DTn w w' w.heap.size turnE 7 := by
  have hmm := @run_makeMap Try.prog
  have hD : DTn w (w.alloc (.map #[] 0)) w.heap.size [] 0 := ⟨DT.made w, fun x hx => by simp at hx⟩
  have s1 := fun W b hc => setOf_any 3 b (fOf [2, 5, 6]) (by intro i; rcases i with _ | _ | _ | i <;> simp [fOf]) (by omega) W hc
  have s2 := fun W b hc => setOf_any 5 b (fOf [1, 3, 4, 5, 6]) (by intro i; rcases i with _ | _ | _ | _ | _ | i <;> simp [fOf]) (by omega) W hc
  have s3 := fun W b hc => setOf_any 2 b (fOf [1, 5]) (by intro i; rcases i with _ | _ | i <;> simp [fOf]) (by omega) W hc
  have s5 := fun W b hc => setOf_any 1 b (fOf [1]) (by intro i; rcases i with _ | i <;> simp [fOf]) (by omega) W hc
  rw [show setP (fOf [2, 5, 6]) 3 = 100 by decide] at s1
  rw [show setP (fOf [1, 3, 4, 5, 6]) 5 = 122 by decide] at s2
  rw [show setP (fOf [1, 5]) 2 = 34 by decide] at s3
  rw [show setP (fOf [1]) 1 = 2 by decide] at s5
  have cells : ∀ (W : World) (l : List Int) (b : Nat), b = W.heap.size → ∀ i, i < l.length → (W.alloc (.cells (l.map (.int .i64 ·)).toArray 34)).cell? ⟨b, i, none⟩ = some (.int .i64 (fOf l i)) := by
    rintro W l b rfl i hi
    rw [(Blk.new W 34 _).cell]
    simp [fOf, List.getElem?_eq_getElem hi, List.getD]
  have c1 := fun W b (h : b = W.heap.size) => s1 (W.alloc (.cells #[.int .i64 2, .int .i64 5, .int .i64 6] 34)) b (fun i hi => cells W [2, 5, 6] b h i hi)
  have c2 := fun W b (h : b = W.heap.size) => s2 (W.alloc (.cells #[.int .i64 1, .int .i64 3, .int .i64 4, .int .i64 5, .int .i64 6] 34)) b (fun i hi => cells W [1, 3, 4, 5, 6] b h i hi)
  have c3 := fun W b (h : b = W.heap.size) => s3 (W.alloc (.cells #[.int .i64 1, .int .i64 5] 34)) b (fun i hi => cells W [1, 5] b h i hi)
  have c5 := fun W b (h : b = W.heap.size) => s5 (W.alloc (.cells #[.int .i64 1] 34)) b (fun i hi => cells W [1] b h i hi)
  clear s1 s2 s3 s5 cells
  go_enter Try.func63, Try.ntmps63
  go_wp2_with (first
    | (go_at_call 70; first
        | ((with_reducible refine (c1 _ _ (by simp)).mono ?_); rintro e w' ⟨rfl, rfl⟩)
        | ((with_reducible refine (c2 _ _ (by simp)).mono ?_); rintro e w' ⟨rfl, rfl⟩)
        | ((with_reducible refine (c3 _ _ (by simp)).mono ?_); rintro e w' ⟨rfl, rfl⟩)
        | ((with_reducible refine (c5 _ _ (by simp)).mono ?_); rintro e w' ⟨rfl, rfl⟩))
    | (refine wpList_insert_dt (w0 := w) (mb := w.heap.size) ⟨hD.1.next ((Below.refl _ _).alloc (Nat.le_refl _) _), hD.2⟩ rfl _ _ _ rfl rfl _ rfl _ rfl (by decide) (by decide) (by decide) (by decide) ?_; clear hD; intro w1 hD))
  go_ret
  exact ⟨rfl, hD⟩
theorem look_has (a b : Int) : hasP (lookE turnE a) b = turnsP a b := by
  have hl : lookE turnE a = if a = 1 then 100 else if a = 2 then 122 else if a = 3 ∨ a = 4 ∨ a = 6 then 34 else if a = 5 then 2 else 0 := by
    unfold lookE turnE
    by_cases h1 : a = 1
    · subst h1; rfl
    by_cases h2 : a = 2
    · subst h2; rfl
    by_cases h3 : a = 3
    · subst h3; rfl
    by_cases h4 : a = 4
    · subst h4; rfl
    by_cases h5 : a = 5
    · subst h5; rfl
    by_cases h6 : a = 6
    · subst h6; rfl
    rw [if_neg h1, if_neg h2, if_neg (by omega), if_neg h5, List.find?_eq_none.2 (by simp; omega)]
  rw [hl]
  unfold turnsP
  by_cases hb : 0 ≤ b ∧ b ≤ 7
  · have hb' : b = 0 ∨ b = 1 ∨ b = 2 ∨ b = 3 ∨ b = 4 ∨ b = 5 ∨ b = 6 ∨ b = 7 := by omega
    rcases hb' with rfl | rfl | rfl | rfl | rfl | rfl | rfl | rfl <;> (repeat' split) <;> decide
  · have hz : ∀ x : Int, 0 ≤ x → x < 256 → hasP x b = false := fun x h0 h1 => by
      unfold hasP
      by_cases hn : 0 ≤ b
      · have : min b.toNat 8 = 8 := by omega
        rw [this, show x / 2 ^ 8 = 0 by omega]
        rw [show (bits BinOp.and IntKind.u8 0 1 == 1) = false by decide, Bool.and_false]
      · simp [hn]
    have e : ∀ k : Int, 0 ≤ k → k ≤ 7 → (b == k) = false := fun k h0 h1 => by simp; omega
    have e1 := e 1 (by omega) (by omega)
    have e2 := e 2 (by omega) (by omega)
    have e3 := e 3 (by omega) (by omega)
    have e4 := e 4 (by omega) (by omega)
    have e5 := e 5 (by omega) (by omega)
    have e6 := e 6 (by omega) (by omega)
    rw [hz _ (by repeat' split
                 all_goals omega) (by repeat' split
                                      all_goals omega)]
    simp only [e1, e2, e3, e4, e5, e6]
    (repeat' split) <;> rfl
theorem Turns_any (a b : Int) (ha : -9223372036854775808 ≤ a ∧ a ≤ 9223372036854775807) (hb : -9223372036854775808 ≤ b ∧ b ≤ 9223372036854775807) (w : World) :
    Calls Try.prog 45 #[.int .i64 a, .int .i64 b] w fun e w' => e = .returned (.bool (turnsP a b)) ∧ Chg [] w w' := by
  rw [← look_has a b]
  have HL := fun w' (hD : DTn w w' w.heap.size turnE 7) => hD.1.lookup (by decide) (by decide) ha.1 ha.2
  have HB := has_any (lookE turnE a) b hb
  generalize lookE turnE a = x at *
  go_enter Try.func45, Try.ntmps45
  go_wp2_with (first
    | (go_at_call 63; refine (turns_any w).mono ?_; rintro e w1 ⟨rfl, hD⟩; have hl := HL _ hD; have HD := Lib.hid hD; clear hD)
    | (go_at_call 64; refine (HB _).mono ?_; rintro e w' ⟨rfl, rfl⟩))
  go_ret
  exact ⟨rfl, Chg.of_below HD.out.1.below⟩
end Go.Proofs
end
section
namespace Go.Proofs
open Go.RowKit
set_option linter.unusedVariables false
set_option linter.unusedSimpArgs false

theorem flag_any (s : Int) (b : Bool) (w : World) : Calls Try.prog 46 #[.int .i64 s, .bool b] w fun e w' => e = .returned (.bool (flagP s b)) ∧ w' = w := by
  unfold flagP
  by_cases h5 : s = 5
  · subst h5
    rw [if_pos rfl]
    go_enter Try.func46, Try.ntmps46
    go_wp2
    go_ret
    exact ⟨rfl, rfl⟩
  · rw [if_neg h5]
    by_cases h1 : s = 1
    · subst h1
      rw [if_pos (.inl rfl)]
      go_enter Try.func46, Try.ntmps46
      go_wp2
      go_ret
      exact ⟨rfl, rfl⟩
    · by_cases h2 : s = 2
      · subst h2
        rw [if_pos (.inr rfl)]
        go_enter Try.func46, Try.ntmps46
        go_wp2
        go_ret
        exact ⟨rfl, rfl⟩
      · rw [if_neg (by omega)]
        go_enter Try.func46, Try.ntmps46
        go_wp2
        go_ret
        exact ⟨rfl, rfl⟩
def liveP (s : Int) : Bool := decide (1 ≤ s) && decide (s ≤ 6)
theorem live_any (s : Int) (w : World) : Calls Try.prog 61 #[.int .i64 s] w fun e w' => e = .returned (.bool (liveP s)) ∧ w' = w := by
  unfold liveP
  by_cases h : 1 ≤ s
  · rw [show decide (1 ≤ s) = true from decide_eq_true h, Bool.true_and]
    go_enter Try.func61, Try.ntmps61
    go_wp2
    go_ret
    exact ⟨rfl, rfl⟩
  · rw [show decide (1 ≤ s) = false from decide_eq_false h, Bool.false_and]
    go_enter Try.func61, Try.ntmps61
    go_wp2
    go_ret
    exact ⟨rfl, rfl⟩
def timelyP (s u : Int) : Bool := u == 0 || (s == 4 && decide (u ≤ 1152921504606846976))
theorem timely_any (s u : Int) (w : World) : Calls Try.prog 62 #[.int .i64 s, .int .u64 u] w fun e w' => e = .returned (.bool (timelyP s u)) ∧ w' = w := by
  unfold timelyP
  by_cases h : u = 0
  · subst h
    go_enter Try.func62, Try.ntmps62
    go_wp2
    go_ret
    exact ⟨rfl, rfl⟩
  · rw [show (u == 0) = false by simpa using h, Bool.false_or]
    have hu : (u == 0) = false := by simpa using h
    by_cases h4 : s = 4
    · subst h4
      go_enter Try.func62, Try.ntmps62
      go_wp2
      go_ret
      exact ⟨rfl, rfl⟩
    · have h4' : (s == 4) = false := by simpa using h4
      rw [h4', Bool.false_and]
      go_enter Try.func62, Try.ntmps62
      go_wp2
      go_ret
      exact ⟨rfl, rfl⟩
theorem mayP_eq (g : Gr) : mayP g = (liveP g.st && timelyP g.st g.un && decide (0 ≤ g.pg) && decide (0 ≤ g.pc) && (g.su == flagP g.st g.su)) := rfl
theorem Gr.a0 (g : Gr) : g.arr[0]? = some (.int .i64 g.st) := rfl
theorem Gr.a1 (g : Gr) : g.arr[1]? = some (.bool g.su) := rfl
theorem Gr.a6 (g : Gr) : g.arr[6]? = some (.int .u8 g.af.toNat) := rfl
theorem Gr.a7 (g : Gr) : g.arr[7]? = some (.int .i64 g.pg) := rfl
theorem Gr.a8 (g : Gr) : g.arr[8]? = some (.int .i64 g.pc) := rfl
theorem Gr.a18 (g : Gr) : g.arr[18]? = some (.int .u64 g.un) := rfl
set_option maxHeartbeats 1600000 in
theorem May_any (g : Gr) (w : World) : Calls Try.prog 43 #[g.val] w fun e w' => e = .returned (.bool (mayP g)) ∧ Chg [] w w' := by
  rw [mayP_eq]
  have hb := Blk.new w 37 g.arr
  have c0 := (hb.cell 0).trans g.a0
  have c1 := (hb.cell 1).trans g.a1
  have c7 := (hb.cell 7).trans g.a7
  have c8 := (hb.cell 8).trans g.a8
  have c18 := (hb.cell 18).trans g.a18
  have HL := live_any g.st
  have HT := timely_any g.st g.un
  have HF := flag_any g.st g.su
  unfold Gr.val
  generalize g.arr = A at *
  generalize g.st = st at *
  generalize g.su = su at *
  generalize g.pg = pg at *
  generalize g.pc = pc at *
  generalize g.un = un at *
  generalize flagP st su = fl at *
  generalize hlv : liveP st = lv at *
  generalize htm : timelyP st un = tm at *
  obtain ⟨W, hW⟩ : ∃ W, W = w.alloc (.cells A 37) := ⟨_, rfl⟩
  have hc : Chg [] w W := by rw [hW]; exact (Chg.refl [] w).alloc _
  rw [← hW] at c0 c1 c7 c8 c18
  clear hb
  obtain ⟨H, hH⟩ : ∃ H, H = w.heap.size := ⟨_, rfl⟩
  cases lv with
  | false =>
    go_enter Try.func43, Try.ntmps43
    go_upto_region 1 with (fail)
    rw [← hW]
    clear hW
    go_quiet ((first | (go_at_call 61; exact Calls.quiet_of_same (HL _))))
    go_wp2
    go_ret
    exact ⟨rfl, hc.drewN _⟩
  | true =>
    cases tm with
    | false =>
      go_enter Try.func43, Try.ntmps43
      go_upto_region 1 with (fail)
      rw [← hW]
      clear hW
      go_quiet ((first | (go_at_call 61; exact Calls.quiet_of_same (HL _)) | (go_at_call 62; exact Calls.quiet_of_same (HT _))))
      go_wp2
      go_ret
      exact ⟨rfl, hc.drewN _⟩
    | true =>
      cases hp : decide (0 ≤ pg) with
      | false =>
        go_enter Try.func43, Try.ntmps43
        go_upto_region 1 with (fail)
        rw [← hW]
        clear hW
        go_quiet ((first | (go_at_call 61; exact Calls.quiet_of_same (HL _)) | (go_at_call 62; exact Calls.quiet_of_same (HT _))))
        go_wp2
        go_ret
        exact ⟨rfl, hc.drewN _⟩
      | true =>
        cases hq : decide (0 ≤ pc) with
        | false =>
          go_enter Try.func43, Try.ntmps43
          go_upto_region 1 with (fail)
          rw [← hW]
          clear hW
          go_quiet ((first | (go_at_call 61; exact Calls.quiet_of_same (HL _)) | (go_at_call 62; exact Calls.quiet_of_same (HT _))))
          go_wp2
          go_ret
          exact ⟨rfl, hc.drewN _⟩
        | true =>
          go_enter Try.func43, Try.ntmps43
          go_upto_region 1 with (fail)
          rw [← hW]
          clear hW
          go_quiet ((first | (go_at_call 61; exact Calls.quiet_of_same (HL _)) | (go_at_call 62; exact Calls.quiet_of_same (HT _)) | (go_at_call 46; exact Calls.quiet_of_same (HF _))))
          go_wp2
          go_ret
          exact ⟨by simp, hc.drewN _⟩
end Go.Proofs
end
section
namespace Go.Proofs
open Go.RowKit
set_option linter.unusedVariables false
set_option linter.unusedSimpArgs false

set_option maxHeartbeats 1600000 in
theorem rMay_any (g : Gr) (h0 : 0 ≤ g.un) (w : World) : Calls Try.prog 14 #[g.val] w fun e w' => e = .returned (.bool (mayP g)) ∧ Chg [] w w' := by
  have hb := Blk.new w 37 g.arr
  have c0 := (hb.cell 0).trans g.a0
  have c1 := (hb.cell 1).trans g.a1
  have c7 := (hb.cell 7).trans g.a7
  have c8 := (hb.cell 8).trans g.a8
  have c18 := (hb.cell 18).trans g.a18
  obtain ⟨P, hP⟩ : ∃ P, P = mayP g := ⟨_, rfl⟩
  rw [← hP]
  have hP2 := hP.trans (mayP_eq g)
  clear hP
  unfold liveP timelyP flagP at hP2
  unfold Gr.val
  generalize g.arr = A at *
  generalize g.st = st at *
  generalize g.su = su at *
  generalize g.pg = pg at *
  generalize g.pc = pc at *
  generalize g.un = un at *
  obtain ⟨W, hW⟩ : ∃ W, W = w.alloc (.cells A 37) := ⟨_, rfl⟩
  have hc : Chg [] w W := by rw [hW]; exact (Chg.refl [] w).alloc _
  rw [← hW] at c0 c1 c7 c8 c18
  clear hb
  by_cases h1 : st < 1
  · obtain rfl : P = false := by rw [hP2, show decide (1 ≤ st) = false from decide_eq_false (by omega)]; simp
    clear hP2
    go_enter Try.func14, Try.ntmps14
    go_upto_region 1 with (fail)
    rw [← hW]
    clear hW
    go_wp2
    go_ret
    exact ⟨rfl, hc⟩
  by_cases h2 : 6 < st
  · obtain rfl : P = false := by rw [hP2, show decide (st ≤ 6) = false from decide_eq_false (by omega)]; simp
    clear hP2
    go_enter Try.func14, Try.ntmps14
    go_upto_region 1 with (fail)
    rw [← hW]
    clear hW
    go_wp2
    go_ret
    exact ⟨rfl, hc⟩
  by_cases h3 : 1152921504606846976 < un
  · obtain rfl : P = false := by rw [hP2, show (un == 0) = false by simp; omega, show decide (un ≤ 1152921504606846976) = false from decide_eq_false (by omega)]; simp
    clear hP2
    go_enter Try.func14, Try.ntmps14
    go_upto_region 1 with (fail)
    rw [← hW]
    clear hW
    go_wp2
    go_ret
    exact ⟨rfl, hc⟩
  by_cases h4 : 0 < un ∧ st ≠ 4
  · obtain rfl : P = false := by rw [hP2, show (un == 0) = false by simp; omega, show (st == 4) = false by simpa using h4.2]; simp
    clear hP2
    have h5 : 0 < un := h4.1
    have h6 : (st == 4) = false := by simpa using h4.2
    have h7 : (st != 4) = true := by simpa using h4.2
    clear h4
    go_enter Try.func14, Try.ntmps14
    go_upto_region 1 with (fail)
    rw [← hW]
    clear hW
    go_wp2
    go_ret
    exact ⟨rfl, hc⟩
  have hts : (un == 0 || st == 4 && decide (un ≤ 1152921504606846976)) = true := by
    by_cases hu : un = 0
    · simp [hu]
    · have : st = 4 := by omega
      have h' : un ≤ 1152921504606846976 := by omega
      simp [this, h']
  rw [hts, show decide (1 ≤ st) = true from decide_eq_true (by omega), show decide (st ≤ 6) = true from decide_eq_true (by omega)] at hP2
  simp only [Bool.and_self, Bool.true_and] at hP2
  have hg : ¬ 0 < un ∨ (0 < un ∧ st = 4) := by omega
  clear hts h4
  by_cases h5 : pg < 0
  · obtain rfl : P = false := by rw [hP2, show decide (0 ≤ pg) = false from decide_eq_false (by omega)]; simp
    clear hP2
    rcases hg with hg | ⟨hg, rfl⟩
    all_goals
      go_enter Try.func14, Try.ntmps14
      go_upto_region 1 with (fail)
      rw [← hW]
      clear hW
      go_wp2
      go_ret
      exact ⟨rfl, hc⟩
  by_cases h6 : pc < 0
  · obtain rfl : P = false := by rw [hP2, show decide (0 ≤ pc) = false from decide_eq_false (by omega)]; simp
    clear hP2
    rcases hg with hg | ⟨hg, rfl⟩
    all_goals
      go_enter Try.func14, Try.ntmps14
      go_upto_region 1 with (fail)
      rw [← hW]
      clear hW
      go_wp2
      go_ret
      exact ⟨rfl, hc⟩
  rw [show decide (0 ≤ pg) = true from decide_eq_true (by omega), show decide (0 ≤ pc) = true from decide_eq_true (by omega)] at hP2
  simp only [Bool.and_self, Bool.true_and] at hP2
  by_cases h7 : st = 5
  · subst h7
    obtain rfl : P = su := by rw [hP2]; cases su <;> rfl
    clear hP2
    have hg' : ¬ 0 < un := by omega
    clear hg
    go_enter Try.func14, Try.ntmps14
    go_upto_region 1 with (fail)
    rw [← hW]
    clear hW
    go_wp2
    go_ret
    exact ⟨rfl, hc⟩
  have h7' : (st == 5) = false := by simpa using h7
  rw [if_neg h7] at hP2
  clear h7
  have hQ : P = (!su || decide (2 < st)) := by
    rw [hP2]
    by_cases h8 : st = 1 ∨ st = 2
    · rw [if_pos h8, show decide (2 < st) = false from decide_eq_false (by omega)]; cases su <;> rfl
    · rw [if_neg h8, show decide (2 < st) = true from decide_eq_true (by omega)]; cases su <;> rfl
  clear hP2
  cases su with
  | false =>
    simp only [Bool.not_false, Bool.true_or] at hQ
    subst hQ
    rcases hg with hg | ⟨hg, rfl⟩
    all_goals
      go_enter Try.func14, Try.ntmps14
      go_upto_region 1 with (fail)
      rw [← hW]
      clear hW
      go_wp2
      go_ret
      exact ⟨rfl, hc⟩
  | true =>
    simp only [Bool.not_true, Bool.false_or] at hQ
    subst hQ
    rcases hg with hg | ⟨hg, rfl⟩
    all_goals
      go_enter Try.func14, Try.ntmps14
      go_upto_region 1 with (fail)
      rw [← hW]
      clear hW
      go_wp2
      go_ret
      exact ⟨rfl, hc⟩
end Go.Proofs
end
section
namespace Go.Proofs
open Go.RowKit
set_option linter.unusedVariables false
set_option linter.unusedSimpArgs false

section
variable {P : Program} {w : World} {b n off : Nat} {t e : TypeId} {A : Array Value} {ops : Array Oper} {rest : List Oper} {o : Oper} {a : Act} {Q : Act → Prop}
theorem wpStill_load (T : AggOf P t n) (hn : A.size = n) (hc : ∀ j v, A[j]? = some v → w.cell? ⟨b, off + j, none⟩ = some v) (hg : Region.wanted o (yielded ops a.tmps) = true) (ho : ∃ x, o.op = .load t x ∧ a.eval x = .pointer (some ⟨b, off, none⟩))
    (h : wpStill P ops w Q rest (a.put o.dst (.agg A))) : wpStill P ops w Q (o :: rest) a := by
  obtain ⟨x, h1, h2⟩ := ho
  refine wpStill_step fun K hK => ?_
  rw [if_pos hg]
  unfold Oper.still
  rw [sk_run_load T hn hc x h1 h2]
  exact ⟨rfl, hK _ h⟩
end
/-- What Get answers. -/
def Tab.getG (t : Tab Gr) (i q : Int) : Gr := match t.live i with | some s => if s.gen = q then s.thing else Gr.zero | none => Gr.zero
def Tab.getE (t : Tab Gr) (i q : Int) : Int := if t.has i q = true then 0 else 11
theorem getG_no {t : Tab Gr} {i q : Int} (h : t.has i q = false) : t.getG i q = Gr.zero := by
  unfold Tab.getG
  rcases live_cases t i with ⟨s, hs⟩ | hn
  · rw [hs]; simp only
    rw [if_neg]
    intro e
    have := has_iff.2 ⟨s, hs, e⟩
    rw [h] at this; cases this
  · rw [hn]
theorem getG_yes {t : Tab Gr} {i q : Int} {s : Spot Gr} (hl : t.live i = some s) (hq : t.has i q = true) : t.getG i q = s.thing := by
  unfold Tab.getG
  obtain ⟨s', h1, h2⟩ := has_iff.1 hq
  rw [hl] at h1 ⊢
  cases h1
  simp only
  rw [if_pos h2]
def inI (i : Int) : Prop := -9223372036854775808 ≤ i ∧ i ≤ 9223372036854775807
theorem aget_any {w : World} {g : Nat} {S : List Nat} {t : Tab Gr} (h : TabAt w g S t) (hw : t.WF) (i q : Int) (hi : inI i) :
    Calls Try.prog 41 #[ptr g, .agg #[.int .i64 i, .int .u64 q]] w fun e w' => e = .returned (.tuple #[(t.getG i q).val, .int .i64 (t.getE i q)]) ∧ Chg [] w w' := by
  cases hq : t.has i q with
  | false =>
    rw [getG_no hq]
    unfold Tab.getE
    rw [if_neg (by simp [hq])]
    exact get_no_C h hw i q hi.1 hi.2 hq
  | true =>
    obtain ⟨s, hl, _⟩ := has_iff.1 hq
    rw [getG_yes hl hq]
    unfold Tab.getE
    rw [if_pos hq]
    exact get_yes_C h hw hq hl
/-- What a call on the table at c leaves. -/
def GTurns (c : Nat) (S : List Nat) (t' : Tab Gr) (w w' : World) : Prop := ∃ S', GAt w' c S' t' ∧ (∀ k ∈ S', k ∈ S ∨ w.heap.size ≤ k) ∧ Chg S w w'
theorem GTurns.refl {c : Nat} {S : List Nat} {t : Tab Gr} {w w' : World} (h : GAt w c S t) (hc : Chg [] w w') : GTurns c S t w w' := ⟨S, h.quiet hc, fun k hk => .inl hk, hc.any⟩
theorem GTurns.of {c g : Nat} {S : List Nat} {t' : Tab Gr} {w w1 w2 w' : World} (hB : Blk w c 64 #[ptr g]) (hcS : c ∉ S) (h1 : Chg [] w w1) (h : Turns g S t' w1 w2) (h2 : Chg [] w2 w') (hW : t'.WF) : GTurns c S t' w w' := by
  obtain ⟨S', hT, hs, hc⟩ := h
  have hc' : Chg S w w' := ((Chg.any h1).trans hc (fun k hk => .inl hk)).then h2
  exact ⟨S', ⟨g, hB.chg hc' hcS, hT.quiet h2, hW⟩, fun k hk => (hs k hk).imp id (fun h => Nat.le_trans h1.size h), hc'⟩
set_option maxRecDepth 100000 in
theorem Get_any {w : World} {c : Nat} {S : List Nat} {t : Tab Gr} (h : GAt w c S t) (i q : Int) (hi : inI i) :
    Calls Try.prog 17 #[ptr c, .agg #[.int .i64 i, .int .u64 q]] w fun e w' => e = .returned (.tuple #[(t.getG i q).val, .int .i64 (t.getE i q)]) ∧ Chg [] w w' := by
  obtain ⟨g, hB, hT, hW⟩ := h
  have HP := Lib.hid (fun W (hc : Chg [] w W) => places_any (hB.chg hc (by simp)))
  have HG := Lib.hid (fun W (hc : Chg [] w W) => aget_any (hT.quiet hc) hW i q hi)
  have hs := (t.getG i q).size
  have h1 := (t.getG i q).one
  unfold Gr.val at HG ⊢
  generalize (t.getG i q).arr = A at *
  generalize t.getE i q = E at *
  obtain ⟨W, hWe⟩ : ∃ W, W = (w.alloc (.cells #[.int .i64 i, .int .u64 q] 33)).alloc (.cells zG 37) := ⟨_, rfl⟩
  have hc : Chg [] w W := by rw [hWe]; exact ((Chg.refl [] w).alloc _).alloc _
  have hb0 : Blk W w.heap.size 33 #[.int .i64 i, .int .u64 q] := by rw [hWe]; exact (Blk.new w 33 _).alloc _
  have hb1 : Blk W (w.heap.size + 1) 37 zG := by rw [hWe]; exact Blk.at' (w.alloc _) 37 _ (by simp)
  have y0 := hb0.cell 0
  have y1 := hb0.cell 1
  have hz := hb1.lt
  clear hB hT hW
  go_enter Try.func17, Try.ntmps17
  go_upto_region 1 with (fail)
  rw [← hWe]
  clear hWe
  refine wp_region_held_drew (S := fun w' => Blk w' w.heap.size 33 #[.int .i64 i, .int .u64 q]) (by kernel_rfl) hb0.drew (fun hHeld => ?_)
  simp only [List.setIfInBounds_toArray, List.size_toArray, List.length_cons, List.length_nil, Array.replicate]
  refine wpAnyH_take (i := 0) (v := ?_) rfl (by kernel_rfl) (by kernel_rfl) (by kernel_rfl) (fun _ _ _ h => h) (Or.inl ⟨by rfl, ?_⟩) hHeld ?_
  rotate_left
  · (intro w' hSw; go_simp; try with_reducible rfl)
  simp only [Act.put, List.getElem_toArray, List.getElem_cons_succ, List.getElem_cons_zero, List.setIfInBounds_toArray, List.set_cons_zero, List.set_cons_succ]
  refine wpAnyH_take (i := 2) (v := ?_) rfl (by kernel_rfl) (by kernel_rfl) (by kernel_rfl) (fun _ _ _ h => h) (Or.inl ⟨by rfl, ?_⟩) hHeld ?_
  rotate_left
  · (intro w' hSw; have q0 := hSw.cell 0; have q1 := hSw.cell 1; simp only [List.getElem?_toArray, List.getElem?_cons_zero, List.getElem?_cons_succ] at q0 q1; go_simp; try with_reducible rfl)
  simp only [Act.put, List.getElem_toArray, List.getElem_cons_succ, List.getElem_cons_zero, List.setIfInBounds_toArray, List.set_cons_zero, List.set_cons_succ]
  refine wpAnyH_ready (rs := [1]) (by kernel_rfl) (by simp) ?_
  refine AllReadyH.cons rfl (fun K hK => ?_) AllReadyH.nil
  go_simp
  refine (HP.out _ hc.drew).mono ?_
  rintro e w2 ⟨rfl, rfl⟩
  refine hK _ _ hHeld (fun hHeld => ?_)
  clear hK K
  simp only [Act.put, List.getElem_toArray, List.getElem_cons_succ, List.getElem_cons_zero, List.setIfInBounds_toArray, List.set_cons_zero, List.set_cons_succ]
  refine wpAnyH_ready (rs := [3]) (by kernel_rfl) (by simp) ?_
  refine AllReadyH.cons rfl (fun K hK => ?_) AllReadyH.nil
  go_simp
  refine (HG.out _ hc.drew).mono ?_
  rintro e w2 ⟨rfl, hc2⟩
  have hb2 := (hb1.drew).chg hc2 (by simp)
  refine hK _ _ (hHeld.chg hc2 (by simp)) (fun hHeld => ?_)
  clear hK K
  simp only [Act.put, List.getElem_toArray, List.getElem_cons_succ, List.getElem_cons_zero, List.setIfInBounds_toArray, List.set_cons_zero, List.set_cons_succ]
  refine wpAnyH_take (i := 4) (v := ?_) rfl (by kernel_rfl) (by kernel_rfl) (by kernel_rfl) (fun _ _ _ h => h) (Or.inl ⟨by rfl, ?_⟩) hHeld ?_
  rotate_left
  · (intro w' hSw; go_simp; try with_reducible rfl)
  simp only [Act.put, List.getElem_toArray, List.getElem_cons_succ, List.getElem_cons_zero, List.setIfInBounds_toArray, List.set_cons_zero, List.set_cons_succ]
  refine wpAnyH_take (i := 5) (v := ?_) rfl (by kernel_rfl) (by kernel_rfl) (by kernel_rfl) (fun _ _ _ h => h) (Or.inl ⟨by rfl, ?_⟩) hHeld ?_
  rotate_left
  · (intro w' hSw; go_simp; try with_reducible rfl)
  simp only [Act.put, List.getElem_toArray, List.getElem_cons_succ, List.getElem_cons_zero, List.setIfInBounds_toArray, List.set_cons_zero, List.set_cons_succ]
  refine wpAnyH_ready (rs := [6]) (by kernel_rfl) (by simp) ?_
  refine AllReadyH.cons rfl (fun K hK => ?_) AllReadyH.nil
  refine sk_step_store (off := 0) T37 hb2 hs (by rw [hs]; decide) h1 (by rfl) _ _ (by rfl) (by rfl) (by rfl) ?_
  intro w3 hS3
  rw [splice_all zG A (by rw [hs]; rfl)] at hS3
  refine hK _ _ (hS3.far hHeld (by simp)) (fun hHeld => ?_)
  clear hK K
  simp only [Act.put, List.getElem_toArray, List.getElem_cons_succ, List.getElem_cons_zero, List.setIfInBounds_toArray, List.set_cons_zero, List.set_cons_succ]
  refine wpAnyH_take (i := 7) (v := ?_) rfl (by kernel_rfl) (by kernel_rfl) (by kernel_rfl) (fun _ _ _ h => h) (Or.inl ⟨by rfl, ?_⟩) hHeld ?_
  rotate_left
  · (intro w' hSw; go_simp; try with_reducible rfl)
  simp only [Act.put, List.getElem_toArray, List.getElem_cons_succ, List.getElem_cons_zero, List.setIfInBounds_toArray, List.set_cons_zero, List.set_cons_succ]
  refine wpAnyH_done (by kernel_rfl) ?_ _
  go_wp2
  refine bodyPost_ret (res_cell (b := w.heap.size + 1) rfl T37 rfl rfl hS3.blk hs) rfl ⟨rfl, ?_⟩
  exact (hc.drew.then hc2).trans hS3.chg (fun k hk => by simp at hk; omega)
end Go.Proofs
end
section
namespace Go.Proofs
open Go.RowKit
set_option linter.unusedVariables false
set_option linter.unusedSimpArgs false

theorem thing_eq {t : Tab Gr} {k : Nat} {s : Spot Gr} (hs : t.spots[k]? = some s) (x : Gr) : t.thing k x = { t with spots := t.spots.set k { s with thing := x } } := by
  unfold Tab.thing; rw [hs]
theorem aset_any {w : World} {g : Nat} {S : List Nat} {t : Tab Gr} (h : TabAt w g S t) (hw : t.WF) (i q : Int) (hi : inI i) (x : Gr) :
    Calls Try.prog 44 #[ptr g, .agg #[.int .i64 i, .int .u64 q], x.val] w fun e w' => e = .returned (.int .i64 (t.getE i q)) ∧ Turns g S (if t.has i q = true then t.thing i.toNat x else t) w w' := by
  cases hq : t.has i q with
  | false =>
    unfold Tab.getE
    rw [if_neg (by simp [hq]), if_neg (by simp)]
    exact (set_no_C h hw i q hi.1 hi.2 hq x).mono fun e w' hh => ⟨hh.1, Turns.refl h hh.2⟩
  | true =>
    unfold Tab.getE
    rw [if_pos hq, if_pos rfl]
    obtain ⟨k, s, gs, cs, VF, rfl, rfl, hs, hth, hk, _⟩ := has_form h hq
    rw [show ((k : Nat) : Int).toNat = k from rfl, thing_eq hs]
    exact set_yes_C h hw hq hs x
theorem wf_thing {t : Tab Gr} (hw : t.WF) (k : Nat) (x : Gr) : (t.thing k x).WF := by
  unfold Tab.thing
  cases hs : t.spots[k]? with
  | none => exact hw
  | some s => exact hw.set hs x
theorem wf_if {t t' : Tab Gr} {b : Prop} [Decidable b] (h : t.WF) (h' : t'.WF) : (if b then t' else t).WF := by split <;> assumption
def Tab.setE (t : Tab Gr) (i q : Int) (x : Gr) : Int := if mayP x = false then 2 else if t.has i q = false then 11 else if (t.getG i q).st = x.st then 0 else 5
def Tab.setT (t : Tab Gr) (i q : Int) (x : Gr) : Tab Gr := if t.setE i q x = 0 then t.thing i.toNat x else t
def Tab.turnE (t : Tab Gr) (i q : Int) (to : Int) : Int := if t.has i q = false then 11 else if turnsP (t.getG i q).st to = true then 0 else 5
def Tab.turnT (t : Tab Gr) (i q : Int) (to : Int) : Tab Gr := if t.turnE i q to = 0 then t.thing i.toNat ((t.getG i q).turn to) else t
theorem GAt.aset {w : World} {c : Nat} {S : List Nat} {t : Tab Gr} (h : GAt w c S t) {i q : Int} (hi : inI i) (hq : t.has i q = true) (x : Gr) {W : World} (hc : Chg [] w W) :
    ∃ g, Blk w c 64 #[ptr g] ∧ Calls Try.prog 44 #[ptr g, .agg #[.int .i64 i, .int .u64 q], x.val] W fun e w' => e = .returned (.int .i64 0) ∧ GTurns c S (t.thing i.toNat x) w w' := by
  have hcS : c ∉ S := by obtain ⟨g, hB, hT, _⟩ := h; exact hT.ty hB (by decide) (by decide) (by decide)
  obtain ⟨g, hB, hT, hW⟩ := h
  refine ⟨g, hB, ?_⟩
  have := aset_any (hT.quiet hc) hW i q hi x
  rw [if_pos hq] at this
  refine this.mono fun e w' hh => ⟨by rw [hh.1]; unfold Tab.getE; rw [if_pos hq], GTurns.of hB hcS hc hh.2 (Chg.refl _ _) (wf_thing hW _ x)⟩
theorem GAt.none {w : World} {c : Nat} {S : List Nat} {t : Tab Gr} (h : GAt w c S t) {W : World} (hc : Chg [] w W) : Calls Try.prog 42 #[ptr c] W fun e w' => e = .returned (.bool false) ∧ w' = W := by
  obtain ⟨g, hB, _⟩ := h
  exact (gnone_any (hB.chg hc (by simp))).mono fun e w' hh => ⟨hh.1, hh.2.symm⟩
set_option maxRecDepth 100000 in
set_option maxHeartbeats 1600000 in
theorem Set_any {w : World} {c : Nat} {S : List Nat} {t : Tab Gr} (h : GAt w c S t) (i q : Int) (hi : inI i) (x : Gr) :
    Calls Try.prog 18 #[ptr c, .agg #[.int .i64 i, .int .u64 q], x.val] w fun e w' => e = .returned (.int .i64 (t.setE i q x)) ∧ GTurns c S (t.setT i q x) w w' := by
  have HN := Lib.hid (fun W (hc : Chg [] w W) => h.none hc)
  have HG := Lib.hid (fun W (hc : Chg [] w W) => Get_any (h.quiet hc) i q hi)
  have HM := Lib.hid (fun W => May_any x W)
  have HSame := Lib.hid (fun W (hc : Chg [] w W) => GTurns.refl h hc)
  have hA0 := (t.getG i q).a0
  have hAs := (t.getG i q).size
  have hA1 := (t.getG i q).one
  have hX0 := x.a0
  have hXs := x.size
  obtain ⟨W, hWe⟩ : ∃ W, W = (w.alloc (.cells #[.int .i64 i, .int .u64 q] 33)).alloc (.cells x.arr 37) := ⟨_, rfl⟩
  have hc : Chg [] w W := by rw [hWe]; exact ((Chg.refl [] w).alloc _).alloc _
  have hb4 : Blk W w.heap.size 33 #[.int .i64 i, .int .u64 q] := by rw [hWe]; exact (Blk.new w 33 _).alloc _
  have hb5 : Blk W (w.heap.size + 1) 37 x.arr := by rw [hWe]; exact Blk.at' (w.alloc _) 37 _ (by simp)
  unfold Tab.setT
  cases hm : mayP x with
  | false =>
    have hE : t.setE i q x = 2 := by unfold Tab.setE; rw [if_pos hm]
    rw [hE, if_neg (by decide)]
    rw [hm] at HM
    unfold Gr.val at HM ⊢
    generalize x.arr = X at *
    clear hE hm hA0 hAs hA1 hX0 HG h hi
    go_enter Try.func18, Try.ntmps18
    go_upto_region 1 with (fail)
    rw [← hWe]
    clear hWe
    go_wp2_with (first
      | (go_at_call 42; (refine (HN.out _ hc).mono ?_); rintro e w' ⟨rfl, rfl⟩)
      | ((with_reducible refine wpl_loadE T37 hb5 hXs ?_ ?_ ?_); (· rfl); (· exact ⟨_, rfl, rfl⟩))
      | (go_at_call 43; (refine (HM.out _).mono ?_); rintro e w1 ⟨rfl, hc1⟩))
    go_ret
    exact ⟨rfl, HSame.out _ (hc.then hc1)⟩
  | true =>
    rw [hm] at HM
    cases hq : t.has i q with
    | false =>
      have hE : t.setE i q x = 11 := by unfold Tab.setE; rw [if_neg (by simp [hm]), if_pos hq]
      have hG : t.getE i q = 11 := by unfold Tab.getE; rw [if_neg (by simp [hq])]
      rw [hE, if_neg (by decide)]
      rw [hG] at HG
      unfold Gr.val at HM HG ⊢
      generalize x.arr = X at *
      generalize (t.getG i q).arr = A at *
      clear hE hm hq hG hA0 hX0 h hi
      go_enter Try.func18, Try.ntmps18
      go_upto_region 1 with (fail)
      rw [← hWe]
      clear hWe
      go_wp2_with (first
        | (go_at_call 42; (refine (HN.out _ hc).mono ?_); rintro e w' ⟨rfl, rfl⟩)
        | ((with_reducible refine wpl_loadE T37 hb5 hXs ?_ ?_ ?_); (· rfl); (· exact ⟨_, rfl, rfl⟩))
        | (go_at_call 43; (refine (HM.out _).mono ?_); rintro e w1 ⟨rfl, hc1⟩; have k0 := (hb4.chg hc1 (by simp)).cell 0; have k1 := (hb4.chg hc1 (by simp)).cell 1)
        | (go_at_call 17; (refine (HG.out _ (hc.then hc1)).mono ?_); rintro e w2 ⟨rfl, hc2⟩)
        | ((with_reducible refine wpl_storeE T37 (Blk.new w2 37 zG) rfl hAs hA1 ?_ ?_ ?_); (· rfl); (· exact ⟨_, _, rfl, rfl, rfl⟩); intro w3 hS3; have hc3 : Chg [] w w3 := ((((hc.then hc1).then hc2).alloc _).trans hS3.chg (fun k hk => by have h5 := hc.size; have h6 := hc1.size; have h7 := hc2.size; simp at hk; omega))))
      go_ret
      exact ⟨rfl, HSame.out _ hc3⟩
    | true =>
      have hG : t.getE i q = 0 := by unfold Tab.getE; rw [if_pos hq]
      rw [hG] at HG
      by_cases hst : (t.getG i q).st = x.st
      · have hE : t.setE i q x = 0 := by unfold Tab.setE; rw [if_neg (by simp [hm]), if_neg (by simp [hq]), if_pos hst]
        rw [hE, if_pos rfl]
        have HAS := Lib.hid (fun W (hc : Chg [] w W) => h.aset hi hq x hc)
        obtain ⟨g, hgB, _⟩ := HAS.out _ (Chg.refl [] w)
        have HAS2 : Hid (∀ W, Chg [] w W → Calls Try.prog 44 #[ptr g, .agg #[.int .i64 i, .int .u64 q], x.val] W fun e w' => e = .returned (.int .i64 0) ∧ GTurns c S (t.thing i.toNat x) w w') := Lib.hid (fun W hc => by
          obtain ⟨g', hg', h'⟩ := HAS.out W hc
          have : g' = g := by have := hg'.symm.trans hgB; simpa using this
          subst this; exact h')
        obtain ⟨T', hT'⟩ : ∃ T', T' = t.thing i.toNat x := ⟨_, rfl⟩
        rw [← hT'] at HAS2 ⊢
        rw [hst] at hA0
        unfold Gr.val at HM HG HAS2 ⊢
        generalize x.arr = X at *
        generalize x.st = st at *
        generalize (t.getG i q).arr = A at *
        clear hE hm hq hG h hi HAS hT' hst
        go_enter Try.func18, Try.ntmps18
        go_upto_region 1 with (fail)
        rw [← hWe]
        clear hWe
        go_wp2_with (first
          | (go_at_call 42; (refine (HN.out _ hc).mono ?_); rintro e w' ⟨rfl, rfl⟩)
          | ((with_reducible refine wpl_loadE T37 hb5 hXs ?_ ?_ ?_); (· rfl); (· exact ⟨_, rfl, rfl⟩))
          | (go_at_call 43; (refine (HM.out _).mono ?_); rintro e w1 ⟨rfl, hc1⟩; have k0 := (hb4.chg hc1 (by simp)).cell 0; have k1 := (hb4.chg hc1 (by simp)).cell 1)
          | (go_at_call 17; (refine (HG.out _ (hc.then hc1)).mono ?_); rintro e w2 ⟨rfl, hc2⟩)
          | ((with_reducible refine wpl_storeE T37 (Blk.new w2 37 zG) rfl hAs hA1 ?_ ?_ ?_); (· rfl); (· exact ⟨_, _, rfl, rfl, rfl⟩); intro w3 hS3; have hc23 := (((hc1.then hc2).alloc _).trans hS3.chg (fun k hk => by have h6 := hc1.size; have h7 := hc2.size; simp at hk; omega)); have z0 := (hS3.blk.cell 0).trans hA0; have z1 := ((hb5.chg hc23 (by simp)).cell 0).trans hX0; have HC23 := Lib.hid hc23; clear hc23 k0 k1))
        have hb6 := hb4.chg HC23.out (by simp)
        have hb7 := hb5.chg HC23.out (by simp)
        have k0 := hb6.cell 0
        have k1 := hb6.cell 1
        have k2 := (hgB.chg (hc.then HC23.out) (by simp)).cell 0
        go_still_tail 6, (by kernel_rfl)
        (try change wpStill _ _ (World.drew _) _ _ _)
        refine wpStill_load T37 hXs (blk_cells hb7.drew) rfl ⟨_, rfl, rfl⟩ ?_
        (try refine wpStill_nil ?_)
        (try change wpList _ _ _ _ _ (World.drew _))
        go_wp2_with (go_at_call 44; (refine (HAS2.out _ (hc.then HC23.out).drew).mono ?_); rintro e w4 ⟨rfl, hT4⟩)
        go_ret
        exact ⟨rfl, hT4⟩
      · have hE : t.setE i q x = 5 := by unfold Tab.setE; rw [if_neg (by simp [hm]), if_neg (by simp [hq]), if_neg hst]
        rw [hE, if_neg (by decide)]
        have hne : ((t.getG i q).st != x.st) = true := by simpa using hst
        have hne2 : ((t.getG i q).st == x.st) = false := by simpa using hst
        unfold Gr.val at HM HG ⊢
        generalize x.arr = X at *
        generalize x.st = st at *
        generalize (t.getG i q).arr = A at *
        generalize (t.getG i q).st = st2 at *
        clear hE hm hq hG h hi hst
        go_enter Try.func18, Try.ntmps18
        go_upto_region 1 with (fail)
        rw [← hWe]
        clear hWe
        go_wp2_with (first
          | (go_at_call 42; (refine (HN.out _ hc).mono ?_); rintro e w' ⟨rfl, rfl⟩)
          | ((with_reducible refine wpl_loadE T37 hb5 hXs ?_ ?_ ?_); (· rfl); (· exact ⟨_, rfl, rfl⟩))
          | (go_at_call 43; (refine (HM.out _).mono ?_); rintro e w1 ⟨rfl, hc1⟩; have k0 := (hb4.chg hc1 (by simp)).cell 0; have k1 := (hb4.chg hc1 (by simp)).cell 1)
          | (go_at_call 17; (refine (HG.out _ (hc.then hc1)).mono ?_); rintro e w2 ⟨rfl, hc2⟩)
          | ((with_reducible refine wpl_storeE T37 (Blk.new w2 37 zG) rfl hAs hA1 ?_ ?_ ?_); (· rfl); (· exact ⟨_, _, rfl, rfl, rfl⟩); intro w3 hS3; have hc23 := (((hc1.then hc2).alloc _).trans hS3.chg (fun k hk => by have h6 := hc1.size; have h7 := hc2.size; simp at hk; omega)); have z0 := (hS3.blk.cell 0).trans hA0; have z1 := ((hb5.chg hc23 (by simp)).cell 0).trans hX0; have HC23 := Lib.hid hc23; clear hc23 k0 k1))
        go_ret
        exact ⟨rfl, HSame.out _ (hc.then HC23.out)⟩
end Go.Proofs
end
section
namespace Go.Proofs
open Go.RowKit
set_option linter.unusedVariables false
set_option linter.unusedSimpArgs false

theorem turn_cells (g : Gr) (to : Int) : ((g.arr.setIfInBounds 0 (.int .i64 to)).setIfInBounds 1 (.bool (flagP to g.su))).setIfInBounds 18 (.int .u64 0) = (g.turn to).arr := rfl
set_option maxRecDepth 100000 in
set_option maxHeartbeats 1600000 in
theorem Turn_any {w : World} {c : Nat} {S : List Nat} {t : Tab Gr} (h : GAt w c S t) (i q : Int) (hi : inI i) (to : Int) (hto : inI to) (hst : inI (t.getG i q).st) :
    Calls Try.prog 19 #[ptr c, .agg #[.int .i64 i, .int .u64 q], .int .i64 to] w fun e w' => e = .returned (.int .i64 (t.turnE i q to)) ∧ GTurns c S (t.turnT i q to) w w' := by
  have HG := Lib.hid (fun W (hc : Chg [] w W) => Get_any (h.quiet hc) i q hi)
  have HT := Lib.hid (fun W => Turns_any (t.getG i q).st to hst hto W)
  have HF := Lib.hid (fun W => flag_any to (t.getG i q).su W)
  have HSame := Lib.hid (fun W (hc : Chg [] w W) => GTurns.refl h hc)
  have hA0 := (t.getG i q).a0
  have hA18 := (t.getG i q).a18
  have hAb := (t.getG i q).a1
  have hAs := (t.getG i q).size
  have hA1 := (t.getG i q).one
  have hTC := turn_cells (t.getG i q) to
  have hXs := ((t.getG i q).turn to).size
  have hX1 := ((t.getG i q).turn to).one
  have hb4 := Blk.new w 33 #[.int .i64 i, .int .u64 q]
  have hc : Chg [] w (w.alloc (.cells #[.int .i64 i, .int .u64 q] 33)) := (Chg.refl [] w).alloc _
  unfold Tab.turnT
  cases hq : t.has i q with
  | false =>
    have hE : t.turnE i q to = 11 := by unfold Tab.turnE; rw [if_pos hq]
    have hG : t.getE i q = 11 := by unfold Tab.getE; rw [if_neg (by simp [hq])]
    rw [hE, if_neg (by decide)]
    rw [hG] at HG
    unfold Gr.val at HG
    generalize ((t.getG i q).turn to).arr = X at *
    generalize (t.getG i q).arr = A at *
    clear hE hq hG hA0 hA18 hAb hTC hXs hX1 h hi hst hto HT HF
    go_enter Try.func19, Try.ntmps19
    go_wp2_with (first
      | (go_at_call 17; (refine (HG.out _ hc).mono ?_); rintro e w2 ⟨rfl, hc2⟩)
      | ((with_reducible refine wpl_storeE T37 (Blk.new w2 37 zG) rfl hAs hA1 ?_ ?_ ?_); (· rfl); (· exact ⟨_, _, rfl, rfl, rfl⟩); intro w3 hS3; have hc3 := (((hc.then hc2).alloc _).trans hS3.chg (fun k hk => by have h7 := hc2.size; have h8 := hc.size; simp at hk; omega))))
    go_ret
    exact ⟨rfl, HSame.out _ hc3⟩
  | true =>
    have hG : t.getE i q = 0 := by unfold Tab.getE; rw [if_pos hq]
    rw [hG] at HG
    cases htp : turnsP (t.getG i q).st to with
    | false =>
      have hE : t.turnE i q to = 5 := by unfold Tab.turnE; rw [if_neg (by simp [hq]), if_neg (by simp [htp])]
      rw [hE, if_neg (by decide)]
      rw [htp] at HT
      unfold Gr.val at HG
      generalize ((t.getG i q).turn to).arr = X at *
      generalize (t.getG i q).arr = A at *
      generalize (t.getG i q).st = st at *
      clear hE hq hG hA18 hAb hTC hXs hX1 h hi hst hto HF htp
      go_enter Try.func19, Try.ntmps19
      go_wp2_with (first
        | (go_at_call 17; (refine (HG.out _ hc).mono ?_); rintro e w2 ⟨rfl, hc2⟩)
        | ((with_reducible refine wpl_storeE T37 (Blk.new w2 37 zG) rfl hAs hA1 ?_ ?_ ?_); (· rfl); (· exact ⟨_, _, rfl, rfl, rfl⟩); intro w3 hS3; have hc3 := (((hc.then hc2).alloc _).trans hS3.chg (fun k hk => by have h7 := hc2.size; have h8 := hc.size; simp at hk; omega)); have z0 := (hS3.blk.cell 0).trans hA0)
        | (go_at_call 45; (refine (HT.out _).mono ?_); rintro e w4 ⟨rfl, hc4⟩))
      go_ret
      exact ⟨rfl, HSame.out _ (hc3.then hc4)⟩
    | true =>
      have hE : t.turnE i q to = 0 := by unfold Tab.turnE; rw [if_neg (by simp [hq]), if_pos htp]
      rw [hE, if_pos rfl]
      rw [htp] at HT
      have HAS := Lib.hid (fun W (hc : Chg [] w W) => h.aset hi hq ((t.getG i q).turn to) hc)
      obtain ⟨g, hgB, _⟩ := HAS.out _ (Chg.refl [] w)
      have HAS2 : Hid (∀ W, Chg [] w W → Calls Try.prog 44 #[ptr g, .agg #[.int .i64 i, .int .u64 q], ((t.getG i q).turn to).val] W fun e w' => e = .returned (.int .i64 0) ∧ GTurns c S (t.thing i.toNat ((t.getG i q).turn to)) w w') := Lib.hid (fun W hc => by
        obtain ⟨g', hg', h'⟩ := HAS.out W hc
        have : g' = g := by have := hg'.symm.trans hgB; simpa using this
        subst this; exact h')
      obtain ⟨T', hT'⟩ : ∃ T', T' = t.thing i.toNat ((t.getG i q).turn to) := ⟨_, rfl⟩
      rw [← hT'] at HAS2 ⊢
      unfold Gr.val at HG HAS2
      generalize ((t.getG i q).turn to).arr = X at *
      generalize (t.getG i q).arr = A at *
      generalize (t.getG i q).st = st at *
      generalize (t.getG i q).su = su at *
      generalize flagP to su = fl at *
      clear hE hq hG h hi hst hto htp hT' HAS
      go_enter Try.func19, Try.ntmps19
      go_wp2_with (first
        | (go_at_call 17; (refine (HG.out _ hc).mono ?_); rintro e w2 ⟨rfl, hc2⟩; have hsz2 := hc2.size)
        | ((with_reducible refine wpl_storeE T37 (Blk.new w2 37 zG) rfl hAs hA1 ?_ ?_ ?_); (· rfl); (· exact ⟨_, _, rfl, rfl, rfl⟩); intro w3 hS3; have hc3 := (((Chg.refl [] _).alloc _).trans hS3.chg (fun k hk => by simp at hk; omega) : Chg [] w2 w3); have z0 := (hS3.blk.cell 0).trans hA0; have HC3 := Lib.hid hc3; have HS3 := Lib.hid hS3; clear hc3 hS3)
        | (go_at_call 45; (refine (HT.out _).mono ?_); rintro e w4 ⟨rfl, hc4⟩; have hb7 := HS3.out.blk.chg hc4 (by simp); have y0 := (hb7.cell 0).trans hA0; have y1 := (hb7.cell 1).trans hAb; have y18 := (hb7.cell 18).trans hA18; have f0 := hb7.frozen 0; have f1 := hb7.frozen 1; have f18 := hb7.frozen 18; have HC4 := Lib.hid hc4; have HB7 := Lib.hid hb7; clear hc4 hb7 z0)
        | (go_at_call 46; (refine (HF.out _).mono ?_); rintro e w5 ⟨rfl, rfl⟩))
      have hb8 := ((HB7.out.set_ 0 (.int .i64 to)).set_ 1 (.bool fl)).set_ 18 (.int .u64 0)
      rw [hTC] at hb8
      have hsz1 := hc.size
      have hcA := (hc.then hc2).then (HC3.out.then HC4.out)
      have hle : w.heap.size ≤ w2.heap.size := by omega
      have hcB := ((hcA.setCell (p := ⟨w2.heap.size, 0, none⟩) (.inr hle) (.int .i64 to)).setCell (p := ⟨w2.heap.size, 1, none⟩) (.inr hle) (.bool fl)).setCell (p := ⟨w2.heap.size, 18, none⟩) (.inr hle) (.int .u64 0)
      have hbn : w.heap.size ≠ w2.heap.size := by simp at hsz2; omega
      have hb6 := ((((hb4.chg (hc2.then (HC3.out.then HC4.out)) (by simp)).far (p := ⟨w2.heap.size, 0, none⟩) hbn (.int .i64 to)).far (p := ⟨w2.heap.size, 1, none⟩) hbn (.bool fl)).far (p := ⟨w2.heap.size, 18, none⟩) hbn (.int .u64 0))
      have k0 := hb6.cell 0
      have k1 := hb6.cell 1
      have k2 := (hgB.chg hcB (by simp)).cell 0
      have HB8 := Lib.hid hb8
      have HCB := Lib.hid hcB
      clear hb8 hcB hcA hb6 y0 y1 y18 f0 f1 f18 hA0 hA18 hAb hTC hAs hA1 hbn
      generalize World.setCell _ _ _ = W9 at *
      go_still_tail 6, (by kernel_rfl)
      (try change wpStill _ _ (World.drew _) _ _ _)
      refine wpStill_load T37 hXs (blk_cells HB8.out.drew) rfl ⟨_, rfl, rfl⟩ ?_
      (try refine wpStill_nil ?_)
      (try change wpList _ _ _ _ _ (World.drew _))
      go_wp2_with (go_at_call 44; (refine (HAS2.out _ HCB.out.drew).mono ?_); rintro e w6 ⟨rfl, hT4⟩)
      go_ret
      exact ⟨rfl, hT4⟩
end Go.Proofs
end
section
namespace Go.Proofs
open Go.RowKit
set_option linter.unusedVariables false
set_option linter.unusedSimpArgs false

theorem Below.heap_setCell2 (w : World) (b o o' : Nat) (u u' : Value) {k : Nat} (h : b ≠ k) : ((w.setCell ⟨b, o, none⟩ u).setCell ⟨b, o', none⟩ u').heap[k]? = w.heap[k]? :=
  (Below.heap_setCell _ _ _ k (Ne.symm h)).trans (Below.heap_setCell _ _ _ k (Ne.symm h))
def Tab.putE (t : Tab Gr) : Int := if t.frees = 0 then 3 else 0
def Tab.putI (t : Tab Gr) : Int := if t.frees = 0 then 0 else (t.takeAt : Nat)
def Tab.putQ (t : Tab Gr) : Int := if t.frees = 0 then 0 else t.genAt t.takeAt
def Tab.putT (t : Tab Gr) (x : Gr) : Tab Gr := if t.frees = 0 then t else t.put Gr.zero x
theorem aput_any {w : World} {g : Nat} {S : List Nat} {t : Tab Gr} (h : TabAt w g S t) (hw : t.WF) (x : Gr) :
    Calls Try.prog 50 #[ptr g, x.val] w fun e w' => e = .returned (.tuple #[.agg #[.int .i64 t.putI, .int .u64 t.putQ], .int .i64 t.putE]) ∧ Turns g S (t.putT x) w w' := by
  unfold Tab.putE Tab.putI Tab.putQ Tab.putT
  by_cases hf : t.frees = 0
  · rw [if_pos hf, if_pos hf, if_pos hf, if_pos hf]
    exact (put_full_C h hw hf x).mono fun e w' hh => ⟨hh.1, Turns.refl h hh.2⟩
  · rw [if_neg hf, if_neg hf, if_neg hf, if_neg hf]
    exact put_ok_C h hw hf x
theorem putT_wf {t : Tab Gr} (hw : t.WF) (x : Gr) : (t.putT x).WF := by
  unfold Tab.putT
  by_cases hf : t.frees = 0
  · rw [if_pos hf]; exact hw
  · rw [if_neg hf]; exact hw.put hf x
def Tab.mkE (t : Tab Gr) (x : Gr) : Int := if mayP x = false then 2 else t.putE
def Tab.mkI (t : Tab Gr) (x : Gr) : Int := if mayP x = false then 0 else t.putI
def Tab.mkQ (t : Tab Gr) (x : Gr) : Int := if mayP x = false then 0 else t.putQ
def Tab.mkT (t : Tab Gr) (x : Gr) : Tab Gr := if mayP x = false then t else t.putT x
set_option maxRecDepth 100000 in
set_option maxHeartbeats 1600000 in
theorem Make_any {w : World} {c : Nat} {S : List Nat} {t : Tab Gr} (h : GAt w c S t) (x : Gr) :
    Calls Try.prog 25 #[ptr c, x.val] w fun e w' => e = .returned (.tuple #[.agg #[.int .i64 (t.mkI x), .int .u64 (t.mkQ x)], .int .i64 (t.mkE x)]) ∧ GTurns c S (t.mkT x) w w' := by
  have HN := Lib.hid (fun W (hc : Chg [] w W) => h.none hc)
  have HM := Lib.hid (fun W => May_any x W)
  have HSame := Lib.hid (fun W (hc : Chg [] w W) => GTurns.refl h hc)
  have hXs := x.size
  have hX1 := x.one
  obtain ⟨W, hWe⟩ : ∃ W, W = (w.alloc (.cells x.arr 37)).alloc (.cells #[.int .i64 0, .int .u64 0] 33) := ⟨_, rfl⟩
  have hc : Chg [] w W := by rw [hWe]; exact ((Chg.refl [] w).alloc _).alloc _
  have hb3 : Blk W w.heap.size 37 x.arr := by rw [hWe]; exact (Blk.new w 37 _).alloc _
  have hb4 : Blk W (w.heap.size + 1) 33 #[.int .i64 0, .int .u64 0] := by rw [hWe]; exact Blk.at' (w.alloc _) 33 _ (by simp)
  unfold Tab.mkE Tab.mkI Tab.mkQ Tab.mkT
  cases hm : mayP x with
  | false =>
    simp only [if_true]
    rw [hm] at HM
    unfold Gr.val at HM ⊢
    generalize x.arr = X at *
    have k0 := hb4.cell 0
    have k1 := hb4.cell 1
    have f0 := hb4.frozen 0
    have f1 := hb4.frozen 1
    have HB4 := Lib.hid hb4
    clear hb4 hm h
    go_enter Try.func25, Try.ntmps25
    go_upto_region 1 with (fail)
    rw [← hWe]
    clear hWe
    go_wp2_with (first
      | (go_at_call 42; (refine (HN.out _ hc).mono ?_); rintro e w' ⟨rfl, rfl⟩)
      | ((with_reducible refine wpl_loadE T37 hb3 hXs ?_ ?_ ?_); (· rfl); (· exact ⟨_, rfl, rfl⟩))
      | (go_at_call 43; (refine (HM.out _).mono ?_); rintro e w1 ⟨rfl, hc1⟩; have hb5 := HB4.out.chg hc1 (by simp); have y0 := hb5.cell 0; have y1 := hb5.cell 1; have g0 := hb5.frozen 0; have g1 := hb5.frozen 1; have HC1 := Lib.hid hc1; clear hc1 hb5))
    exact bodyPost_ret (v := .tuple #[.agg #[.int .i64 0, .int .u64 0], .int .i64 2]) (by simp [results, Try.results25, go_sem, y0, y1]) rfl ⟨rfl, HSame.out _ (((hc.then HC1.out).setCell (p := ⟨w.heap.size + 1, 0, none⟩) (.inr (by simp)) _).setCell (p := ⟨w.heap.size + 1, 1, none⟩) (.inr (by simp)) _)⟩
  | true =>
    simp only [Bool.true_eq_false, if_false]
    rw [hm] at HM
    have hcS : c ∉ S := by obtain ⟨g, hB, hT, _⟩ := h; exact hT.ty hB (by decide) (by decide) (by decide)
    obtain ⟨g, hB, hT, hW⟩ := h
    have HP : Hid (∀ W W', Chg [] w W → Chg [] W W' → Calls Try.prog 50 #[ptr g, x.val] W' fun e w' => e = .returned (.tuple #[.agg #[.int .i64 t.putI, .int .u64 t.putQ], .int .i64 t.putE]) ∧ Turns g S (t.putT x) W' w') := Lib.hid (fun W W' hc hc' => aput_any (hT.quiet (hc.then hc')) hW x)
    have HT := Lib.hid (fun W w2 w' hc (hT2 : Turns g S (t.putT x) W w2) hc2 => GTurns.of (w := w) (w1 := W) (w2 := w2) (w' := w') hB hcS hc hT2 hc2 (putT_wf hW x))
    have HB := Lib.hid hB
    have hSl := hT.lt
    have hn5' : w.heap.size ∉ S := fun hk => by have := hSl _ hk; omega
    have hn4 : w.heap.size + 1 ∉ S := fun hk => by have := hSl _ hk; omega
    have lc := hB.lt
    generalize t.putI = I at *
    generalize t.putQ = Q at *
    generalize t.putE = E at *
    generalize t.putT x = T' at *
    unfold Gr.val at HM HP ⊢
    generalize x.arr = X at *
    clear hm hT hW hB hSl
    go_enter Try.func25, Try.ntmps25
    go_upto_region 1 with (fail)
    rw [← hWe]
    clear hWe
    go_wp2_with (first
      | (go_at_call 42; (refine (HN.out _ hc).mono ?_); rintro e w' ⟨rfl, rfl⟩)
      | ((with_reducible refine wpl_loadE T37 hb3 hXs ?_ ?_ ?_); (· rfl); (· exact ⟨_, rfl, rfl⟩))
      | (go_at_call 43; (refine (HM.out _).mono ?_); rintro e w1 ⟨rfl, hc1⟩))
    have hb5 := (hb3.chg hc1 (by simp)).drew
    have hbc := (HB.out.chg (hc.then hc1) (by simp)).drew
    have hb6 := (hb4.chg hc1 (by simp)).drew
    have hc9 := hc.size
    refine wp_region_held_drew (S := fun w' => Blk w' w.heap.size 37 X ∧ Blk w' c 64 #[ptr g]) (by kernel_rfl) ⟨hb5, hbc⟩ (fun hHeld => ?_)
    simp only [List.setIfInBounds_toArray, List.size_toArray, List.length_cons, List.length_nil, Array.replicate]
    refine wpAnyH_take (i := 0) (v := ?_) rfl (by kernel_rfl) (by kernel_rfl) (by kernel_rfl) (fun _ _ _ h => h) (Or.inl ⟨by rfl, ?_⟩) hHeld ?_
    rotate_left
    · (intro w' hSw; go_simp; try with_reducible rfl)
    simp only [Act.put, List.getElem_toArray, List.getElem_cons_succ, List.getElem_cons_zero, List.setIfInBounds_toArray, List.set_cons_zero, List.set_cons_succ]
    refine wpAnyH_take (i := 1) (v := ?_) rfl (by kernel_rfl) (by kernel_rfl) (by kernel_rfl) (fun _ _ _ h => h) (Or.inl ⟨by rfl, ?_⟩) hHeld ?_
    rotate_left
    · (intro w' hSw; go_simp; try with_reducible rfl)
    simp only [Act.put, List.getElem_toArray, List.getElem_cons_succ, List.getElem_cons_zero, List.setIfInBounds_toArray, List.set_cons_zero, List.set_cons_succ]
    refine wpAnyH_take (i := 2) (v := ?_) rfl (by kernel_rfl) (by kernel_rfl) (by kernel_rfl) (fun _ _ _ h => h) (Or.inl ⟨by rfl, ?_⟩) hHeld ?_
    rotate_left
    · (intro w' hSw; go_simp; try with_reducible rfl)
    simp only [Act.put, List.getElem_toArray, List.getElem_cons_succ, List.getElem_cons_zero, List.setIfInBounds_toArray, List.set_cons_zero, List.set_cons_succ]
    refine wpAnyH_take (i := 3) (v := ?_) rfl (by kernel_rfl) (by kernel_rfl) (by kernel_rfl) (fun _ _ _ h => h) (Or.inl ⟨by rfl, ?_⟩) hHeld ?_
    rotate_left
    · (intro w' hSw; obtain ⟨s0, s1⟩ := hSw; have q0 := s1.cell 0; simp only [List.getElem?_toArray, List.getElem?_cons_zero, List.getElem?_cons_succ] at q0; go_simp; try with_reducible rfl)
    simp only [Act.put, List.getElem_toArray, List.getElem_cons_succ, List.getElem_cons_zero, List.setIfInBounds_toArray, List.set_cons_zero, List.set_cons_succ]
    refine wpAnyH_take (i := 4) (v := .agg X) rfl (by kernel_rfl) (by kernel_rfl) (by kernel_rfl) (fun _ _ _ h => h) (Or.inl ⟨by rfl, fun w' hSw => sk_run_load T37 hXs (blk_cells hSw.1) _ (by rfl) (by rfl)⟩) hHeld ?_
    simp only [Act.put, List.getElem_toArray, List.getElem_cons_succ, List.getElem_cons_zero, List.setIfInBounds_toArray, List.set_cons_zero, List.set_cons_succ]
    refine wpAnyH_ready (rs := [5]) (by kernel_rfl) (by simp) ?_
    refine AllReadyH.cons rfl (fun K hK => ?_) AllReadyH.nil
    go_simp
    refine (HP.out _ _ hc hc1.drew).mono ?_
    rintro e w2 ⟨rfl, hT2⟩
    obtain ⟨S2, hT3, hs2, hc2⟩ := hT2
    have hz1 := hc1.size
    have hn5 := hn5'
    have hb7 := hb6.chg hc2 hn4
    refine hK _ _ ⟨hHeld.1.chg hc2 hn5, hHeld.2.chg hc2 hcS⟩ (fun hHeld => ?_)
    clear hK K
    simp only [Act.put, List.getElem_toArray, List.getElem_cons_succ, List.getElem_cons_zero, List.setIfInBounds_toArray, List.set_cons_zero, List.set_cons_succ]
    refine wpAnyH_take (i := 6) (v := ?_) rfl (by kernel_rfl) (by kernel_rfl) (by kernel_rfl) (fun _ _ _ h => h) (Or.inl ⟨by rfl, ?_⟩) hHeld ?_
    rotate_left
    · (intro w' hSw; go_simp; try with_reducible rfl)
    simp only [Act.put, List.getElem_toArray, List.getElem_cons_succ, List.getElem_cons_zero, List.setIfInBounds_toArray, List.set_cons_zero, List.set_cons_succ]
    refine wpAnyH_take (i := 7) (v := ?_) rfl (by kernel_rfl) (by kernel_rfl) (by kernel_rfl) (fun _ _ _ h => h) (Or.inl ⟨by rfl, ?_⟩) hHeld ?_
    rotate_left
    · (intro w' hSw; go_simp; try with_reducible rfl)
    simp only [Act.put, List.getElem_toArray, List.getElem_cons_succ, List.getElem_cons_zero, List.setIfInBounds_toArray, List.set_cons_zero, List.set_cons_succ]
    have k0 := hb7.cell 0
    have k1 := hb7.cell 1
    have f0 := hb7.frozen 0
    have f1 := hb7.frozen 1
    refine wpAnyH_ready (rs := [8]) (by kernel_rfl) (by simp) ?_
    refine AllReadyH.cons rfl (fun K hK => ?_) AllReadyH.nil
    go_simp
    refine hK _ _ ⟨(hHeld.1.far (p := ⟨w.heap.size + 1, 0, none⟩) (by simp) _).far (p := ⟨w.heap.size + 1, 1, none⟩) (by simp) _, (hHeld.2.far (p := ⟨w.heap.size + 1, 0, none⟩) (by simp; omega) _).far (p := ⟨w.heap.size + 1, 1, none⟩) (by simp; omega) _⟩ (fun hHeld => ?_)
    clear hK K
    simp only [Act.put, List.getElem_toArray, List.getElem_cons_succ, List.getElem_cons_zero, List.setIfInBounds_toArray, List.set_cons_zero, List.set_cons_succ]
    refine wpAnyH_take (i := 9) (v := ?_) rfl (by kernel_rfl) (by kernel_rfl) (by kernel_rfl) (fun _ _ _ h => h) (Or.inl ⟨by rfl, ?_⟩) hHeld ?_
    rotate_left
    · (intro w' hSw; go_simp; try with_reducible rfl)
    simp only [Act.put, List.getElem_toArray, List.getElem_cons_succ, List.getElem_cons_zero, List.setIfInBounds_toArray, List.set_cons_zero, List.set_cons_succ]
    refine wpAnyH_done (by kernel_rfl) ?_ _
    go_wp2
    have hb8 := (hb7.set_ 0 (.int .i64 I)).set_ 1 (.int .u64 Q)
    have m0 := hb8.cell 0
    have m1 := hb8.cell 1
    refine bodyPost_ret (v := .tuple #[.agg #[.int .i64 I, .int .u64 Q], .int .i64 E]) (by simp [results, Try.results25, go_sem, k0, k1]) rfl ⟨rfl, ?_⟩
    have hG := HT.out _ _ w2 (hc.then hc1.drew) ⟨S2, hT3, hs2, hc2⟩ (Chg.refl _ _)
    obtain ⟨S3, hG3, hs3, hc3⟩ := hG
    have hn6 : w.heap.size + 1 ≠ c ∧ w.heap.size + 1 ∉ S3 := hG3.ty hb7 (by decide) (by decide) (by decide) (by decide)
    refine ⟨S3, hG3.same (Below.heap_setCell2 _ _ _ _ _ _ hn6.1) (fun k hk => Below.heap_setCell2 _ _ _ _ _ _ (fun e => hn6.2 (by rw [e]; exact hk))), hs3, (hc3.setCell (p := ⟨w.heap.size + 1, 0, none⟩) (.inr (by simp)) _).setCell (p := ⟨w.heap.size + 1, 1, none⟩) (.inr (by simp)) _⟩
end Go.Proofs
end
section
namespace Go.Proofs
open Go.RowKit Go.Shelf
set_option linter.unusedVariables false
set_option linter.unusedSimpArgs false
attribute [local go_sem] Oper.semAt_some

theorem ownsRow_mono {W : World} {n m : Nat} {t : TypeId} {z : Nat} {V : Value} {k : Nat} {xs : List Value} (h : m ≤ n) (hr : W.ownsRow n t z V k xs) : W.ownsRow m t z V k xs :=
  ⟨hr.1, hr.2.imp id fun ⟨g, cap, cur, e, hb, r⟩ => ⟨g, cap, cur, e, by omega, r⟩⟩
theorem Try.info_T : (Try.prog.info? 49).map (fun i => (i.zero, i.size, i.bytes)) = some (some (.agg zP), 21, 168) := by kernel_rfl
theorem Try.info_R : (Try.prog.info? 33).map (fun i => (i.zero, i.size, i.bytes)) = some (some (.agg #[.int .i64 0, .int .u64 0]), 2, 16) := by kernel_rfl
/-- The refs of some. -/
def refCells (l : List Plc) : List Value := l.flatMap fun p => [.int .i64 p.i, .int .u64 p.q]
theorem refCells_snoc (l : List Plc) (p : Plc) : refCells (l ++ [p]) = refCells l ++ [.int .i64 p.i, .int .u64 p.q] := by unfold refCells; simp
theorem refCells_len (l : List Plc) : (refCells l).length = l.length * 2 := flat_len (enc := fun p : Plc => [Value.int .i64 p.i, .int .u64 p.q]) (s := 2) (fun p => rfl) l
theorem refCells_at {l : List Plc} {k : Nat} {p : Plc} (h : l[k]? = some p) : (refCells l)[k * 2]? = some (.int .i64 p.i) ∧ (refCells l)[k * 2 + 1]? = some (.int .u64 p.q) :=
  ⟨flat_at (enc := fun p : Plc => [Value.int .i64 p.i, .int .u64 p.q]) (s := 2) (j := 0) (fun p => rfl) h rfl, flat_at (enc := fun p : Plc => [Value.int .i64 p.i, .int .u64 p.q]) (s := 2) (j := 1) (fun p => rfl) h rfl⟩
set_option maxRecDepth 100000 in
set_option maxHeartbeats 3200000 in
theorem pickT_in (n : Nat) (hn : 10 ≤ n) {w : World} {c N : Nat} {S : List Nat} {t : Tab Gr} (h : GAt w c S t) (hN : t.size = (N : Nat)) :
    CallsIn Fence.wide n Try.prog 37 #[ptr c, (.func (.func 38) #[] #[])] w fun e W' => ∃ A cc, e = .returned (.slice A (nowL t N).length cc) ∧ Row W' 49 21 (.slice A (nowL t N).length cc) (nowL t N).length (plcCells (nowL t N)) ∧ (∀ k ∈ foot (.slice A (nowL t N).length cc), w.heap.size ≤ k) ∧ Below w.heap.size w W' := by
  obtain ⟨g, hB, hT, hW⟩ := h
  have h1 : 1 ≤ n := by omega
  have hN4 : N ≤ 4096 := by have := hW.s1; omega
  have HP := Lib.hid (fun W (hc : Chg [] w W) => places_any (hB.chg hc (by simp)))
  have HA := Lib.hid (fun W (hc : Chg [] w W) => all_in (n - 1) (by omega) g N S t hW hN W (hT.quiet hc))
  clear hB hT hW
  have hnl := nowL_len t N
  obtain ⟨XS, hXS⟩ : ∃ XS, XS = nowL t N := ⟨_, rfl⟩
  rw [← hXS] at HA hnl ⊢
  refine callsIn_of_wp_marks Try.func37 rfl trivial ?_ rfl
  simp only [Try.ntmps37, List.size_toArray, List.length_cons, List.length_nil, Nat.reduceAdd, Nat.reduceSub, Array.replicate_succ, Array.replicate_zero, List.push_toArray, List.append_toArray, List.nil_append, List.cons_append]
  gi_wp2_with (first
    | (refine ⟨trivial, ?_⟩; gi_at_call 40; refine (callsIn_wide.2 (HP.out _ (((Chg.refl _ _).alloc _).alloc _))).mono ?_; rintro e w' ⟨rfl, rfl⟩)
    | (refine ⟨trivial, ?_⟩; gi_at_call 56; refine (HA.out _ (((Chg.refl _ _).alloc _).alloc _)).mono ?_; rintro e W0 ⟨⟨Bo, rfl, hH⟩, hBl⟩; have HH := Lib.hid hH; have HBL := Lib.hid hBl; clear hH hBl))
  have hz0 := HBL.out.size
  simp only [World.size_alloc] at hz0
  have hPk : Boxed W0 w.heap.size 88 (.func (.func 38) #[] #[]) := (HBL.out.block _ (by simp; omega)).trans (((Boxed.new w 88 (.func (.func 38) #[] #[])).alloc _))
  have hBx : Boxed W0 (w.heap.size + 1) 41 (.slice none 0 0) := (HBL.out.block _ (by simp)).trans (Blk.at' (w.alloc (.cells #[(.func (.func 38) #[] #[])] 88)) 41 #[.slice none 0 0] (by simp))
  have hB0 : Below w.heap.size w W0 := (((Below.refl _ w).alloc (Nat.le_refl _) _).alloc (by simp) _).trans (HBL.out.mono (by simp; omega))
  have hHT := HH.out.to
  simp only [World.size_alloc] at hHT
  have hmap : XS.map id = XS := by simp
  rw [← hmap] at hHT
  obtain ⟨in0, hi0, hq0, hq1, hq2⟩ := info_parts Try.info_T
  have lbo := hHT.lt
  refine wpIn_rangeFunc_ownH rfl h1 (gf := 69) (lb := #[.pointer (some ⟨Bo, 0, none⟩)]) rfl trivial (enters_of Try.func69 (by kernel_rfl) rfl)
    (over_stops id (n - 1) (by omega) (X := fun k => w.heap.size + 2 ≤ k ∧ k < W0.heap.size) hHT (fun k h1 h2 => ⟨by omega, h2⟩) (fun k hk => hk.2) (by omega)) (fun h k => h.trans k)
    (fun W l o o' hl ho _ _ => ⟨by simp [World.putObj], fun k hk => (grownBy_putObj' W l o').block k (by have := (Array.getElem?_eq_some_iff.1 ho).1; omega) (fun e => by cases e; omega)⟩)
    (Below.refl _ _) (fun _ => rfl)
    (fun pre W => ((∃ V, Boxed W (w.heap.size + 1) 41 V ∧ W.ownsRow W0.heap.size 49 21 V pre.length (plcCells pre) ∧ True) ∧ Boxed W w.heap.size 88 (.func (.func 38) #[] #[])) ∧ Below w.heap.size W0 W)
    (fun _ _ _ => False)
    (OwnFrom.and (OwnFrom.and (Own.from (holdsRow_own W0.heap.size (w.heap.size + 1) 41 49 21 (fun pre : List Plc => pre.length) (fun pre => plcCells pre) (fun pre v => True)) _) (Own.from (boxed_own _ _ _) _)) (ownFrom_below (by omega) (by omega)))
    (fun _ _ _ _ _ hs _ _ => hs)
    ⟨⟨⟨_, hBx, World.ownsRow_nil _ _ _ _, trivial⟩, hPk⟩, Below.refl _ _⟩
    (fun x a' W => ∃ Bx By, W0.heap.size ≤ Bx ∧ W0.heap.size ≤ By ∧ Blk W Bx 33 #[.int .i64 x.i, .int .u64 x.q] ∧ Blk W By 37 x.x.arr ∧ a' = { tmps := #[ptr c, (.func (.func 38) #[] #[]), undef, ptr w.heap.size, .slice none 0 0, ptr (w.heap.size + 1), ptr Bx, ptr By, undef, undef, ptr c, ptr g, .func (.func 69) #[] #[.pointer (some ⟨Bo, 0, none⟩)], .agg #[.int .i64 x.i, .int .u64 x.q], .agg x.x.arr, undef, undef, undef, undef, undef, undef, undef, undef, undef, undef, undef, undef, undef], defers := [] })
    (fun x a' _ X Y row hs hg hr => by
      obtain ⟨Bx, By, h1, h1', h2, h2', h3⟩ := hs
      have k : ∀ {b : Nat} {t : TypeId} {cs : Array Value}, Blk X b t cs → Blk Y b t cs := fun {b t cs} h2 => h2.same (hg.block b h2.lt (fun e => by
        obtain ⟨_, o, ho, hc⟩ := hr b e.symm
        unfold Blk at h2
        rw [h2] at ho; cases ho; cases hc))
      exact ⟨Bx, By, h1, h1', k h2, k h2', h3⟩)
    ?assign ?body ?done ?stop
  case assign =>
    rintro l pre x W K ⟨⟨⟨V, hV, hr, _⟩, hP9⟩, hB⟩ hK
    have hz := hB.size
    have hzw : w.heap.size ≤ W.heap.size := by omega
    have hGs := x.x.size
    have hG1 := x.x.one
    simp only [Plc.encs, Gr.val, id]
    obtain ⟨XA, hXA⟩ : ∃ XA, XA = x.x.arr := ⟨_, rfl⟩
    rw [← hXA] at hGs hG1 hK ⊢
    have hXA' := Lib.hid hXA
    clear hXA
    obtain ⟨W1, hW1⟩ : ∃ W1, W1 = (W.alloc (.cells #[.int .i64 x.i, .int .u64 x.q] 33)).alloc (.cells zG 37) := ⟨_, rfl⟩
    have hc1 : Chg [] W W1 := by rw [hW1]; exact ((Chg.refl [] W).alloc _).alloc _
    have hb1 : Blk W1 (W.heap.size + 1) 37 zG := by rw [hW1]; exact Blk.at' (W.alloc _) 37 _ (by simp)
    have hb0 : Blk W1 W.heap.size 33 #[.int .i64 x.i, .int .u64 x.q] := by rw [hW1]; exact (Blk.new W 33 _).alloc _
    have hs1 : W1.heap.size = W.heap.size + 2 := by rw [hW1]; simp
    have HW1 := Lib.hid hW1
    clear hW1
    gi_wp2_with (first
      | (rw [← HW1.out]; refine wpi_store T37 hb1 rfl hGs hG1 rfl _ _ rfl rfl rfl ?_; intro w3 hS3))
    have hc3 : Chg [] W w3 := hc1.trans hS3.chg (fun k hk => by simp at hk; omega)
    have hg3 := grown_of_chg hc3
    have hko : KeepsOthers W w3 := KeepsOthers.of_grownBy hg3 (fun j o e _ => by cases e)
    have hrr : ∀ {v : Value}, v.ownBlock = none ∨ v.ownBlock ≠ none := fun {v} => by cases v.ownBlock <;> simp
    exact hK _ _ (hko.from _) (KeepP.quiet hc3 (fun k hk => by omega)) ⟨⟨⟨V, hV.kept hg3 (by simp), hr.kept hg3 hrr, trivial⟩, hP9.kept hg3 (by simp)⟩, hB.trans (hc3.below (by simp) hzw)⟩ ⟨W.heap.size, W.heap.size + 1, by omega, by omega, hS3.far hb0 (by omega), hS3.blk, by rw [hXA'.out] <;> rfl⟩
  case body =>
    rintro l pre x a' W hl ⟨r, hr⟩ ⟨⟨⟨V, hV, hrow, _⟩, hP9⟩, hB⟩ ⟨Bx, By, hBx, hBy, bX, bY, rfl⟩ hlt
    have hz := hB.size
    have x0 := bX.cell 0
    have x1 := bX.cell 1
    have c3 := hP9.cell
    have hGs := x.x.size
    have hG1 := x.x.one
    have hzw : w.heap.size ≤ W.heap.size := by omega
    have hPs := x.size
    have hPo := x.one
    have hP1 := x.ones
    have hPL : x.arr.toList.length = 21 := by simp [hPs]
    have hsn := plcCells_snoc pre x
    have hPA : #[Value.int .i64 x.i, .int .u64 x.q] ++ x.x.arr = x.arr := rfl
    obtain ⟨XA, hXA⟩ : ∃ XA, XA = x.x.arr := ⟨_, rfl⟩
    rw [← hXA] at hGs hG1 bY hPA
    have HCL := Lib.hid (fun W => taskf_any x.i x.q XA hGs hG1 W)
    rw [hPA] at HCL
    rw [← hXA]
    obtain ⟨PA, hPA2⟩ : ∃ PA, PA = x.arr := ⟨_, rfl⟩
    rw [← hPA2] at hPs hPo hP1 hPL hsn HCL
    have HSN := Lib.hid hsn
    clear hXA hPA hPA2 hsn
    have hrr : ∀ {v : Value}, v.ownBlock = none ∨ v.ownBlock ≠ none := fun {v} => by cases v.ownBlock <;> simp
    gi_wp2_with (first
      | ((with_reducible refine wpi_loadE T37 bY hGs ?_ ?_ ?_); (· rfl); (· exact ⟨_, rfl, rfl⟩)))
    refine ⟨trivial, (fun h => by cases h), ?_⟩
    refine ((callsIn_wide.2 (HCL.out _)).inRound l).mono ?_
    rintro e W2 ⟨rfl, hc2⟩
    have hz2 := hc2.size
    gi_wp2_with (first
      | ((with_reducible refine wpi_storeE T49 (Blk.new W2 49 zP) rfl hPs hPo ?_ ?_ ?_); (· rfl); (· exact ⟨_, _, rfl, rfl, rfl⟩); intro w4 hS4; have hc4 : Chg [] W w4 := (hc2.then ((Chg.refl [] W2).alloc _)).trans hS4.chg (fun k hk => by simp at hk; omega); have hg4 := grown_of_chg hc4; have hV4 := hV.kept hg4 (by simp); have hr4 := hrow.kept hg4 hrr; have hP4 := hP9.kept hg4 (by simp); have b4 := hS4.blk; have v4 := hV4.cell; have vf4 := hV4.frozen; have l4 := hc4.size)
      | ((with_reducible refine wpi_loadE T49 b4 hPs ?_ ?_ ?_); (· rfl); (· exact ⟨_, rfl, rfl⟩))
      | ((with_reducible refine wpi_bsE Try.underlying41 hi0 hq0 hq1 hPs (by omega) (by omega) ?_ ?_ ?_); (· rfl); (· exact ⟨_, rfl, rfl⟩))
      | (gi_at_builtin; refine wpListIn_append_own _ rfl _ _ 41 rfl W0.heap.size 49 in0 (.agg zP) 21 168 Try.underlying41 hi0 hq0 hq1 hq2 rfl (by decide) _ _ _ rfl (hr4.alloc _) ⟨w4.heap.size, 0, none⟩ 1 1 PA.toList rfl hPL (World.news_of_block (cs := PA) (t := 49) (fr := (0, 0)) (heap_alloc_new w4 _)) hP1 (by unfold maxLen; omega) (by omega) (by simp; omega) ?_; intro v' w1 hown' hgrow _; obtain ⟨g', cap', rfl⟩ := ownsRow_succ hown'; obtain ⟨hv1, hv2, hr2, hk2, hb2⟩ := hV4.appended (by decide) (ownsRow_mono (m := w.heap.size) (by omega) hr4) (by omega) (by omega) (ownsRow_mono (by omega) hown') hgrow; have hr3 := hown'.kept (grownBy_setCell' w1 (w.heap.size + 1) (.slice (some ⟨g', 0, none⟩) (pre.length + 1) cap')) (.inr (hv1.not_row (by decide) hown').symm); have hc1 := hv1.cell; have hf1 := hv1.frozen))
    have hP8 := ((hP4.alloc (.cells PA 49)).kept hgrow (hP4.not_row (by decide) hr4)).other (B' := w.heap.size + 1) (by omega) (.slice (some ⟨g', 0, none⟩) (pre.length + 1) cap')
    have hfin : (w1.setCell ⟨w.heap.size + 1, 0, none⟩ (.slice (some ⟨g', 0, none⟩) (pre.length + 1) cap')).ownsRow W0.heap.size 49 21 (.slice (some ⟨g', 0, none⟩) (pre.length + 1) cap') (pre ++ [x]).length (plcCells (pre ++ [x])) := by
      rw [HSN.out, List.length_append]; exact hr3
    refine ⟨((KeepsOthers.of_grownBy hg4 (fun j o e _ => by cases e)).trans hk2).from _, (KeepP.quiet hc4 (fun k hk => by omega)).trans ⟨hb2.size, fun k hk => ?_⟩, ⟨⟨⟨_, hv2, hfin⟩, hP8⟩, (hB.trans (hc4.below (by simp) hzw)).trans hb2⟩⟩
    obtain ⟨hka, hkb⟩ := hk
    have hz4 := hc4.size
    have e1 := hgrow.block k (by simp; omega) (fun e => by
      rcases hr4.2 with ⟨rfl, _⟩ | ⟨g1, cap, cur, rfl, hb, _, _⟩
      · have e' : (none : Option Nat) = some k := e.symm
        cases e'
      · have e' : (some g1 : Option Nat) = some k := e.symm
        cases e'; omega)
    rw [((grownBy_setCell' w1 (w.heap.size + 1) _).block k (by have := hgrow.size; simp at this; omega) (fun e => by cases e; omega)), e1]
    exact ((Chg.refl [] w4).alloc _).block k (by omega) (by simp)
  case done =>
    rintro D zs W hD rfl ⟨⟨⟨V, hV, hrow, _⟩, hP9⟩, hB⟩ hK
    have hz := hB.size
    have cS := hV.cell
    gi_wp2
    refine ⟨by simp, .inl ⟨_, _, rfl, run_takeDeferred hK, ?_⟩⟩
    have hgD := grownBy_putObj' W D (.deferred none)
    have hR := Row.of_own (ownsRow_putObj hrow (.deferred none) hK rfl)
    have hB9 := (hB0.trans hB).trans (belowK_b (w := w) (Nat.le_refl _) W D _ (.deferred none) (by omega) hK rfl rfl)
    rcases hrow.2 with ⟨rfl, h0⟩ | ⟨g', cap, cur, rfl, hb, _, _⟩
    · refine ⟨_, results_tmp rfl _ _ _, none, 0, by simp [h0], by rw [h0] at hR ⊢; exact hR, (fun k hk => by cases hk), hB9⟩
    · refine ⟨_, results_tmp rfl _ _ _, some ⟨g', 0, none⟩, cap, rfl, hR, fun k hk => ?_, hB9⟩
      simp [foot_some] at hk; subst hk; omega
  case stop =>
    rintro D c pre W _ _ h _
    exact h.elim
end Go.Proofs
end
section
namespace Go.Proofs
open Go.RowKit Go.Shelf
set_option linter.unusedVariables false
set_option linter.unusedSimpArgs false
attribute [local go_sem] Oper.semAt_some

set_option maxRecDepth 100000 in
set_option maxHeartbeats 3200000 in
theorem pickR_in (n : Nat) (hn : 10 ≤ n) {w : World} {c N : Nat} {S : List Nat} {t : Tab Gr} (h : GAt w c S t) (hN : t.size = (N : Nat)) (s : Int) {sb : Nat} (hsb : Blk w sb 34 #[.int .i64 s]) :
    CallsIn Fence.wide n Try.prog 53 #[ptr c, (.func (.func 54) #[] #[ptr sb])] w fun e W' => ∃ A cc, e = .returned (.slice A ((nowL t N).filter fun p => p.x.st == s).length cc) ∧ Row W' 33 2 (.slice A ((nowL t N).filter fun p => p.x.st == s).length cc) ((nowL t N).filter fun p => p.x.st == s).length (refCells ((nowL t N).filter fun p => p.x.st == s)) ∧ (∀ k ∈ foot (.slice A ((nowL t N).filter fun p => p.x.st == s).length cc), w.heap.size ≤ k) ∧ Below w.heap.size w W' := by
  obtain ⟨g, hB, hT, hW⟩ := h
  have h1 : 1 ≤ n := by omega
  have hN4 : N ≤ 4096 := by have := hW.s1; omega
  have HP := Lib.hid (fun W (hc : Chg [] w W) => places_any (hB.chg hc (by simp)))
  have HA := Lib.hid (fun W (hc : Chg [] w W) => all_in (n - 1) (by omega) g N S t hW hN W (hT.quiet hc))
  have HSB := Lib.hid hsb
  have lsb := hsb.lt
  clear hsb
  clear hB hT hW
  have hnl := nowL_len t N
  obtain ⟨XS, hXS⟩ : ∃ XS, XS = nowL t N := ⟨_, rfl⟩
  rw [← hXS] at HA hnl ⊢
  refine callsIn_of_wp_marks Try.func53 rfl trivial ?_ rfl
  simp only [Try.ntmps53, List.size_toArray, List.length_cons, List.length_nil, Nat.reduceAdd, Nat.reduceSub, Array.replicate_succ, Array.replicate_zero, List.push_toArray, List.append_toArray, List.nil_append, List.cons_append]
  gi_wp2_with (first
    | (refine ⟨trivial, ?_⟩; gi_at_call 40; refine (callsIn_wide.2 (HP.out _ (((Chg.refl _ _).alloc _).alloc _))).mono ?_; rintro e w' ⟨rfl, rfl⟩)
    | (refine ⟨trivial, ?_⟩; gi_at_call 56; refine (HA.out _ (((Chg.refl _ _).alloc _).alloc _)).mono ?_; rintro e W0 ⟨⟨Bo, rfl, hH⟩, hBl⟩; have HH := Lib.hid hH; have HBL := Lib.hid hBl; clear hH hBl))
  have hz0 := HBL.out.size
  simp only [World.size_alloc] at hz0
  have hPk : Boxed W0 w.heap.size 93 (.func (.func 54) #[] #[ptr sb]) := (HBL.out.block _ (by simp; omega)).trans (((Boxed.new w 93 (.func (.func 54) #[] #[ptr sb])).alloc _))
  have hBx : Boxed W0 (w.heap.size + 1) 43 (.slice none 0 0) := (HBL.out.block _ (by simp)).trans (Blk.at' (w.alloc (.cells #[(.func (.func 54) #[] #[ptr sb])] 93)) 43 #[.slice none 0 0] (by simp))
  have hB0 : Below w.heap.size w W0 := (((Below.refl _ w).alloc (Nat.le_refl _) _).alloc (by simp) _).trans (HBL.out.mono (by simp; omega))
  have hHT := HH.out.to
  simp only [World.size_alloc] at hHT
  have hmap : XS.map id = XS := by simp
  rw [← hmap] at hHT
  obtain ⟨in0, hi0, hq0, hq1, hq2⟩ := info_parts Try.info_R
  have lbo := hHT.lt
  have hSB0 : Boxed W0 sb 34 (.int .i64 s) := (hB0.block _ lsb).trans HSB.out
  refine wpIn_rangeFunc_ownH rfl h1 (gf := 69) (lb := #[.pointer (some ⟨Bo, 0, none⟩)]) rfl trivial (enters_of Try.func69 (by kernel_rfl) rfl)
    (over_stops id (n - 1) (by omega) (X := fun k => w.heap.size + 2 ≤ k ∧ k < W0.heap.size) hHT (fun k h1 h2 => ⟨by omega, h2⟩) (fun k hk => hk.2) (by omega)) (fun h k => h.trans k)
    (fun W l o o' hl ho _ _ => ⟨by simp [World.putObj], fun k hk => (grownBy_putObj' W l o').block k (by have := (Array.getElem?_eq_some_iff.1 ho).1; omega) (fun e => by cases e; omega)⟩)
    (Below.refl _ _) (fun _ => rfl)
    (fun pre W => ((∃ V, Boxed W (w.heap.size + 1) 43 V ∧ W.ownsRow W0.heap.size 33 2 V (pre.filter fun p => p.x.st == s).length (refCells (pre.filter fun p => p.x.st == s)) ∧ True) ∧ Boxed W w.heap.size 93 (.func (.func 54) #[] #[ptr sb]) ∧ Boxed W sb 34 (.int .i64 s)) ∧ Below w.heap.size W0 W)
    (fun _ _ _ => False)
    (OwnFrom.and (OwnFrom.and (Own.from (holdsRow_own W0.heap.size (w.heap.size + 1) 43 33 2 (fun pre : List Plc => (pre.filter fun p => p.x.st == s).length) (fun pre => refCells (pre.filter fun p => p.x.st == s)) (fun pre v => True)) _) (OwnFrom.and (Own.from (boxed_own _ _ _) _) (Own.from (boxed_own _ _ _) _))) (ownFrom_below (by omega) (by omega)))
    (fun _ _ _ _ _ hs _ _ => hs)
    ⟨⟨⟨_, hBx, World.ownsRow_nil _ _ _ _, trivial⟩, ⟨hPk, hSB0⟩⟩, Below.refl _ _⟩
    (fun x a' W => ∃ Bx By, W0.heap.size ≤ Bx ∧ W0.heap.size ≤ By ∧ Blk W Bx 33 #[.int .i64 x.i, .int .u64 x.q] ∧ Blk W By 37 x.x.arr ∧ a' = { tmps := #[ptr c, (.func (.func 54) #[] #[ptr sb]), undef, ptr w.heap.size, .slice none 0 0, ptr (w.heap.size + 1), ptr Bx, ptr By, undef, undef, ptr c, ptr g, .func (.func 69) #[] #[.pointer (some ⟨Bo, 0, none⟩)], .agg #[.int .i64 x.i, .int .u64 x.q], .agg x.x.arr, undef, undef, undef, undef, undef, undef, undef, undef, undef, undef, undef, undef, undef], defers := [] })
    (fun x a' _ X Y row hs hg hr => by
      obtain ⟨Bx, By, h1, h1', h2, h2', h3⟩ := hs
      have k : ∀ {b : Nat} {t : TypeId} {cs : Array Value}, Blk X b t cs → Blk Y b t cs := fun {b t cs} h2 => h2.same (hg.block b h2.lt (fun e => by
        obtain ⟨_, o, ho, hc⟩ := hr b e.symm
        unfold Blk at h2
        rw [h2] at ho; cases ho; cases hc))
      exact ⟨Bx, By, h1, h1', k h2, k h2', h3⟩)
    ?assign ?body ?done ?stop
  case assign =>
    rintro l pre x W K ⟨⟨⟨V, hV, hr, _⟩, ⟨hP9, hS9⟩⟩, hB⟩ hK
    have hz := hB.size
    have hzw : w.heap.size ≤ W.heap.size := by omega
    have hGs := x.x.size
    have hG1 := x.x.one
    simp only [Plc.encs, Gr.val, id]
    obtain ⟨XA, hXA⟩ : ∃ XA, XA = x.x.arr := ⟨_, rfl⟩
    rw [← hXA] at hGs hG1 hK ⊢
    have hXA' := Lib.hid hXA
    clear hXA
    obtain ⟨W1, hW1⟩ : ∃ W1, W1 = (W.alloc (.cells #[.int .i64 x.i, .int .u64 x.q] 33)).alloc (.cells zG 37) := ⟨_, rfl⟩
    have hc1 : Chg [] W W1 := by rw [hW1]; exact ((Chg.refl [] W).alloc _).alloc _
    have hb1 : Blk W1 (W.heap.size + 1) 37 zG := by rw [hW1]; exact Blk.at' (W.alloc _) 37 _ (by simp)
    have hb0 : Blk W1 W.heap.size 33 #[.int .i64 x.i, .int .u64 x.q] := by rw [hW1]; exact (Blk.new W 33 _).alloc _
    have hs1 : W1.heap.size = W.heap.size + 2 := by rw [hW1]; simp
    have HW1 := Lib.hid hW1
    clear hW1
    gi_wp2_with (first
      | (rw [← HW1.out]; refine wpi_store T37 hb1 rfl hGs hG1 rfl _ _ rfl rfl rfl ?_; intro w3 hS3))
    have hc3 : Chg [] W w3 := hc1.trans hS3.chg (fun k hk => by simp at hk; omega)
    have hg3 := grown_of_chg hc3
    have hko : KeepsOthers W w3 := KeepsOthers.of_grownBy hg3 (fun j o e _ => by cases e)
    have hrr : ∀ {v : Value}, v.ownBlock = none ∨ v.ownBlock ≠ none := fun {v} => by cases v.ownBlock <;> simp
    exact hK _ _ (hko.from _) (KeepP.quiet hc3 (fun k hk => by omega)) ⟨⟨⟨V, hV.kept hg3 (by simp), hr.kept hg3 hrr, trivial⟩, ⟨hP9.kept hg3 (by simp), hS9.kept hg3 (by simp)⟩⟩, hB.trans (hc3.below (by simp) hzw)⟩ ⟨W.heap.size, W.heap.size + 1, by omega, by omega, hS3.far hb0 (by omega), hS3.blk, by rw [hXA'.out] <;> rfl⟩
  case body =>
    rintro l pre x a' W hl ⟨r, hr⟩ ⟨⟨⟨V, hV, hrow, _⟩, ⟨hP9, hS9⟩⟩, hB⟩ ⟨Bx, By, hBx, hBy, bX, bY, rfl⟩ hlt
    have hz := hB.size
    have x0 := bX.cell 0
    have x1 := bX.cell 1
    have c3 := hP9.cell
    have hGs := x.x.size
    have hG1 := x.x.one
    have hzw : w.heap.size ≤ W.heap.size := by omega
    have h0c : x.x.arr[0]? = some (.int .i64 x.x.st) := rfl
    have hsn := refCells_snoc (pre.filter fun p => p.x.st == s) x
    have hfl : (pre ++ [x]).filter (fun p => p.x.st == s) = if (x.x.st == s) = true then pre.filter (fun p => p.x.st == s) ++ [x] else pre.filter (fun p => p.x.st == s) := by
      rw [List.filter_append]; by_cases hb : (x.x.st == s) = true
      · simp [hb]
      · simp [hb]
    obtain ⟨XA, hXA⟩ : ∃ XA, XA = x.x.arr := ⟨_, rfl⟩
    rw [← hXA] at hGs hG1 bY h0c
    have HCL := Lib.hid (fun W hb => off_any x.i x.q x.x.st s XA hGs h0c sb W hb)
    rw [← hXA]
    have HSN := Lib.hid hsn
    have HFL := Lib.hid hfl
    have HS9 := Lib.hid hS9
    clear hXA hsn hfl h0c hS9
    obtain ⟨bb, hbb⟩ : ∃ bb, bb = (x.x.st == s) := ⟨_, rfl⟩
    rw [← hbb] at HCL HFL
    have Hlr := Lib.hid (show (pre.filter fun p => p.x.st == s).length ≤ pre.length from List.length_filter_le _ _)
    have hll : (pre.filter fun p => p.x.st == s).length ≤ 4097 := by have := Hlr.out; omega
    generalize hrs : pre.filter (fun p => p.x.st == s) = rs at hrow HSN HFL hll
    clear hbb hrs Hlr
    have hrr : ∀ {v : Value}, v.ownBlock = none ∨ v.ownBlock ≠ none := fun {v} => by cases v.ownBlock <;> simp
    gi_wp2_with (first
      | ((with_reducible refine wpi_loadE T37 bY hGs ?_ ?_ ?_); (· rfl); (· exact ⟨_, rfl, rfl⟩)))
    refine ⟨trivial, (fun h => by cases h), ?_⟩
    refine ((callsIn_wide.2 (HCL.out _ HS9.out)).inRound l).mono ?_
    rintro e W2 ⟨rfl, hc2⟩
    have hz2 := hc2.size
    have hc4 : Chg [] W (W2.alloc (.cells #[.int .i64 x.i, .int .u64 x.q] 33)) := hc2.then ((Chg.refl [] W2).alloc _)
    have b4 : Blk (W2.alloc (.cells #[.int .i64 x.i, .int .u64 x.q] 33)) W2.heap.size 33 #[.int .i64 x.i, .int .u64 x.q] := Blk.new W2 33 _
    have hg4 := grown_of_chg hc4
    have hV4 := hV.kept hg4 (by simp)
    have hr4 := hrow.kept hg4 hrr
    have hP4 := hP9.kept hg4 (by simp)
    have hS4 := HS9.out.kept hg4 (by simp)
    have v4 := hV4.cell
    have vf4 := hV4.frozen
    have l4 := hc4.size
    have u0 := b4.cell 0
    have u1 := b4.cell 1
    cases bb with
    | false =>
      gi_wp2_with (fail)
      refine ⟨((KeepsOthers.of_grownBy hg4 (fun j o e _ => by cases e))).from _, (KeepP.quiet hc4 (fun k hk => by omega)), ⟨⟨⟨_, hV4, by rw [HFL.out, if_neg (by simp)]; exact hr4, trivial⟩, ⟨hP4, hS4⟩⟩, hB.trans (hc4.below (by simp) hzw)⟩⟩
    | true =>
      gi_wp2_with (gi_at_builtin; refine wpListIn_append_own _ rfl _ _ 43 rfl W0.heap.size 33 in0 (.agg #[.int .i64 0, .int .u64 0]) 2 16 Try.underlying43 hi0 hq0 hq1 hq2 rfl (by decide) _ _ _ rfl (hr4.alloc _) ⟨W2.heap.size + 1, 0, none⟩ 1 1 [.int .i64 x.i, .int .u64 x.q] rfl rfl (World.news_of_block (cs := #[.int .i64 x.i, .int .u64 x.q]) (t := 33) (fr := (0, 0)) (by have := heap_alloc_new (W2.alloc (.cells #[.int .i64 x.i, .int .u64 x.q] 33)) (.cells #[.int .i64 x.i, .int .u64 x.q] 33); simpa using this)) (by simp [Value.oneCell']) (by unfold maxLen; omega) (by omega) (by simp; omega) ?_; intro v' w1 hown' hgrow _; obtain ⟨g', cap', rfl⟩ := ownsRow_succ hown'; obtain ⟨hv1, hv2, hr2, hk2, hb2⟩ := hV4.appended (by decide) (ownsRow_mono (m := w.heap.size) (by omega) hr4) (by omega) (by omega) (ownsRow_mono (by omega) hown') hgrow; have hr3 := hown'.kept (grownBy_setCell' w1 (w.heap.size + 1) (.slice (some ⟨g', 0, none⟩) (rs.length + 1) cap')) (.inr (hv1.not_row (by decide) hown').symm); have hc1 := hv1.cell; have hf1 := hv1.frozen)
      have hP8 := ((hP4.alloc (.cells #[.int .i64 x.i, .int .u64 x.q] 33)).kept hgrow (hP4.not_row (by decide) hr4)).other (B' := w.heap.size + 1) (by omega) (.slice (some ⟨g', 0, none⟩) (rs.length + 1) cap')
      have hS8 := ((hS4.alloc (.cells #[.int .i64 x.i, .int .u64 x.q] 33)).kept hgrow (hS4.not_row (by decide) hr4)).other (B' := w.heap.size + 1) (by omega) (.slice (some ⟨g', 0, none⟩) (rs.length + 1) cap')
      have hfin : (w1.setCell ⟨w.heap.size + 1, 0, none⟩ (.slice (some ⟨g', 0, none⟩) (rs.length + 1) cap')).ownsRow W0.heap.size 33 2 (.slice (some ⟨g', 0, none⟩) (rs.length + 1) cap') ((pre ++ [x]).filter fun p => p.x.st == s).length (refCells ((pre ++ [x]).filter fun p => p.x.st == s)) := by
        rw [HFL.out]; simp only [if_true]; rw [HSN.out, List.length_append]; exact hr3
      refine ⟨((KeepsOthers.of_grownBy hg4 (fun j o e _ => by cases e)).trans hk2).from _, (KeepP.quiet hc4 (fun k hk => by omega)).trans ⟨hb2.size, fun k hk => ?_⟩, ⟨⟨⟨_, hv2, hfin, trivial⟩, ⟨hP8, hS8⟩⟩, (hB.trans (hc4.below (by simp) hzw)).trans hb2⟩⟩
      obtain ⟨hka, hkb⟩ := hk
      have hz4 := hc4.size
      have e1 := hgrow.block k (by simp; omega) (fun e => by
        rcases hr4.2 with ⟨rfl, _⟩ | ⟨g1, cap, cur, rfl, hb, _, _⟩
        · have e' : (none : Option Nat) = some k := e.symm
          cases e'
        · have e' : (some g1 : Option Nat) = some k := e.symm
          cases e'; omega)
      rw [((grownBy_setCell' w1 (w.heap.size + 1) _).block k (by have := hgrow.size; simp at this; omega) (fun e => by cases e; omega)), e1]
      exact ((Chg.refl [] (W2.alloc (.cells #[.int .i64 x.i, .int .u64 x.q] 33))).alloc _).block k (by omega) (by simp)
  case done =>
    rintro D zs W hD rfl ⟨⟨⟨V, hV, hrow, _⟩, ⟨hP9, hS9⟩⟩, hB⟩ hK
    have hz := hB.size
    have cS := hV.cell
    gi_wp2
    refine ⟨by simp, .inl ⟨_, _, rfl, run_takeDeferred hK, ?_⟩⟩
    have hgD := grownBy_putObj' W D (.deferred none)
    have hR := Row.of_own (ownsRow_putObj hrow (.deferred none) hK rfl)
    have hB9 := (hB0.trans hB).trans (belowK_b (w := w) (Nat.le_refl _) W D _ (.deferred none) (by omega) hK rfl rfl)
    rcases hrow.2 with ⟨rfl, h0⟩ | ⟨g', cap, cur, rfl, hb, _, _⟩
    · refine ⟨_, results_tmp rfl _ _ _, none, 0, by simp [h0], by rw [h0] at hR ⊢; exact hR, (fun k hk => by cases hk), hB9⟩
    · refine ⟨_, results_tmp rfl _ _ _, some ⟨g', 0, none⟩, cap, rfl, hR, fun k hk => ?_, hB9⟩
      simp [foot_some] at hk; subst hk; omega
  case stop =>
    rintro D c pre W _ _ h _
    exact h.elim
end Go.Proofs
end
section
namespace Go.Proofs
open Go.RowKit
set_option linter.unusedVariables false
set_option linter.unusedSimpArgs false

/-- No place of it is near its last generation. -/
def Tab.low (t : Tab Gr) : Prop := ∀ (k : Nat) (s : Spot Gr), t.spots[k]? = some s → s.gen + 1 < topG
def Tab.drT (t : Tab Gr) (i q : Int) : Tab Gr := if t.has i q = true then t.drop Gr.zero i.toNat q else t
theorem has_spot {t : Tab Gr} {i q : Int} (h : t.has i q = true) : ∃ (k : Nat) (s : Spot Gr), i = (k : Nat) ∧ q = s.gen ∧ t.spots[k]? = some s ∧ s.there = true := by
  obtain ⟨s, hl, rfl⟩ := has_iff.1 h
  obtain ⟨j0, hj, hth⟩ := live_iff.1 hl
  obtain ⟨k, rfl⟩ := Int.eq_ofNat_of_zero_le j0
  simp only [Int.toNat_natCast] at hj
  exact ⟨k, s, rfl, rfl, hj, hth⟩
theorem adrop_any {w : World} {g : Nat} {S : List Nat} {t : Tab Gr} (h : TabAt w g S t) (hw : t.WF) (hl : t.low) (i q : Int) (hi : inI i) :
    Calls Try.prog 47 #[ptr g, .agg #[.int .i64 i, .int .u64 q]] w fun e w' => e = .returned (.int .i64 (t.getE i q)) ∧ Turns g S (t.drT i q) w w' := by
  unfold Tab.drT Tab.getE
  cases hq : t.has i q with
  | false =>
    rw [if_neg (by simp), if_neg (by simp)]
    exact (drop_no_C h hw i q hi.1 hi.2 hq).mono fun e w' hh => ⟨hh.1, Turns.refl h hh.2⟩
  | true =>
    rw [if_pos rfl, if_pos rfl]
    obtain ⟨k, s, rfl, rfl, hs, _⟩ := has_spot hq
    exact drop_yes_C h hw hq (hl k s hs)
theorem drT_wf {t : Tab Gr} (hw : t.WF) (i q : Int) : (t.drT i q).WF := by
  unfold Tab.drT
  cases hq : t.has i q with
  | false => rw [if_neg (by simp)]; exact hw
  | true =>
    rw [if_pos rfl]
    obtain ⟨k, s, rfl, rfl, hs, hth⟩ := has_spot hq
    exact hw.drop hs hth
set_option maxRecDepth 100000 in
theorem Drop_any {w : World} {c : Nat} {S : List Nat} {t : Tab Gr} (h : GAt w c S t) (hl : t.low) (i q : Int) (hi : inI i) :
    Calls Try.prog 20 #[ptr c, .agg #[.int .i64 i, .int .u64 q]] w fun e w' => e = .returned (.int .i64 (t.getE i q)) ∧ GTurns c S (t.drT i q) w w' := by
  have hcS : c ∉ S := by obtain ⟨g, hB, hT, _⟩ := h; exact hT.ty hB (by decide) (by decide) (by decide)
  obtain ⟨g, hB, hT, hW⟩ := h
  have HP := Lib.hid (fun W (hc : Chg [] w W) => places_any (hB.chg hc (by simp)))
  have HD := Lib.hid (fun W (hc : Chg [] w W) => adrop_any (hT.quiet hc) hW hl i q hi)
  have HT := Lib.hid (fun W w2 hc (hT2 : Turns g S (t.drT i q) W w2) => GTurns.of (w := w) (w1 := W) (w2 := w2) (w' := w2) hB hcS hc hT2 (Chg.refl _ _) (drT_wf hW i q))
  generalize t.drT i q = T' at *
  generalize t.getE i q = E at *
  have hc : Chg [] w (w.alloc (.cells #[.int .i64 i, .int .u64 q] 33)).drew := ((Chg.refl [] w).alloc _).drew
  have hb := (Blk.new w 33 #[.int .i64 i, .int .u64 q]).drew
  have k0 := hb.cell 0
  have k1 := hb.cell 1
  clear hB hT hW hb
  go_enter Try.func20, Try.ntmps20
  go_upto_region 1 with (fail)
  go_still_tail 3, (by kernel_rfl)
  (try change wpStill _ _ (World.drew _) _ _ _)
  (still_call ((HP.out _ hc).mono (fun e w' h => ⟨h.1, h.2.symm⟩)))
  (repeat still_step)
  (try refine wpStill_nil ?_)
  (try change wpList _ _ _ _ _ (World.drew _))
  go_wp2_with (go_at_call 47; (refine (HD.out _ hc).mono ?_); rintro e w2 ⟨rfl, hT2⟩)
  go_ret
  exact ⟨rfl, HT.out _ _ hc hT2⟩
theorem At_any {w : World} {c : Nat} {S : List Nat} {t : Tab Gr} (h : GAt w c S t) (i : Int) (hi : inI i) :
    Calls Try.prog 26 #[ptr c, .int .i64 i] w fun e w' => e = .returned (.tuple #[.agg #[.int .i64 (t.atIdx i), .int .u64 (t.atGen i)], .bool (t.atIs i)]) ∧ Chg [] w w' := by
  obtain ⟨g, hB, hT, hW⟩ := h
  have HP := Lib.hid (fun W (hc : Chg [] w W) => places_any (hB.chg hc (by simp)))
  have HA := Lib.hid (fun W (hc : Chg [] w W) => at_C (hT.quiet hc) hW i hi.1 hi.2)
  generalize t.atIdx i = I at *
  generalize t.atGen i = Q at *
  generalize t.atIs i = B at *
  have hb := Blk.new w 33 #[.int .i64 0, .int .u64 0]
  have hc : Chg [] w (w.alloc (.cells #[.int .i64 0, .int .u64 0] 33)) := (Chg.refl [] w).alloc _
  clear hB hT hW
  go_enter Try.func26, Try.ntmps26
  go_wp2_with (first
    | (go_at_call 40; (refine (HP.out _ hc).mono ?_); rintro e w' ⟨rfl, rfl⟩)
    | (go_at_call 51; (refine (HA.out _ hc).mono ?_); rintro e w2 ⟨rfl, hc2⟩; have hb2 := hb.chg hc2 (by simp); have y0 := hb2.cell 0; have y1 := hb2.cell 1; have f0 := hb2.frozen 0; have f1 := hb2.frozen 1; have HC2 := Lib.hid hc2; clear hc2))
  exact bodyPost_ret (v := .tuple #[.agg #[.int .i64 I, .int .u64 Q], .bool B]) (by simp [results, Try.results26, go_sem, y0, y1]) rfl ⟨rfl, ((hc.then HC2.out).setCell (p := ⟨w.heap.size, 0, none⟩) (.inr (by simp)) _).setCell (p := ⟨w.heap.size, 1, none⟩) (.inr (by simp)) _⟩
theorem Live_any {w : World} {c : Nat} {S : List Nat} {t : Tab Gr} (h : GAt w c S t) :
    Calls Try.prog 27 #[ptr c] w fun e w' => e = .returned (.int .i64 (t.size - t.frees - t.retired)) ∧ Chg [] w w' := by
  obtain ⟨g, hB, hT, hW⟩ := h
  have HP := places_any hB
  have HA := len_C hT hW
  generalize t.size - t.frees - t.retired = L at *
  clear hB hT hW
  go_enter Try.func27, Try.ntmps27
  go_wp2_with (first
    | (go_at_call 40; (refine HP.mono ?_); rintro e w' ⟨rfl, rfl⟩)
    | (go_at_call 52; (refine HA.mono ?_); rintro e w2 ⟨rfl, n, rfl⟩))
  go_ret
  exact ⟨rfl, (Chg.refl [] w).drewN n⟩
theorem gnew_no (size : Int) (h : size < 1 ∨ 64 < size) (w : World) : Calls Try.prog 8 #[.int .i64 size] w fun e w' => e = .returned (.tuple #[.pointer none, .int .i64 2]) ∧ w' = w := by
  by_cases h1 : size < 1
  · go_enter Try.func8, Try.ntmps8
    go_wp2
    go_ret2
    exact ⟨rfl, rfl⟩
  · have h2 : 64 < size := by omega
    clear h
    go_enter Try.func8, Try.ntmps8
    go_wp2
    go_ret2
    exact ⟨rfl, rfl⟩
theorem gnew_ok (size : Int) (h1 : 1 ≤ size) (h2 : size ≤ 64) (w : World) : Calls Try.prog 8 #[.int .i64 size] w fun e w' => ∃ c S, e = .returned (.tuple #[ptr c, .int .i64 0]) ∧ GAt w' c S ⟨size, 1, [], [], 0⟩ ∧ w.heap.size ≤ c ∧ (∀ k ∈ S, w.heap.size ≤ k) ∧ Chg [] w w' := by
  have hm : mayT size 1 = true := mayT_iff.2 ⟨h1, by omega, by decide, by decide⟩
  have HN := new_ok_C (w := w) size 1 hm
  have hW : (⟨size, 1, [], [], 0⟩ : Tab Gr).WF := Tab.WF.new h1 (by omega) (by decide) (by decide)
  clear hm
  go_enter Try.func8, Try.ntmps8
  go_wp2_with (go_at_call 30; (refine HN.mono ?_); rintro e w1 ⟨rfl, hT, hc⟩; have HT := Lib.hid hT; have HC := Lib.hid hc; clear hT hc)
  go_ret2
  refine ⟨w1.heap.size, _, rfl, ⟨w.heap.size, Blk.new w1 64 _, HT.out.quiet ((Chg.refl [] w1).alloc _), hW⟩, HC.out.size, by simp, HC.out.then ((Chg.refl [] w1).alloc _)⟩
theorem Copy_any {w : World} {c : Nat} {S : List Nat} {t : Tab Gr} (h : GAt w c S t) :
    Calls Try.prog 15 #[ptr c] w fun e w' => ∃ c' S', e = .returned (ptr c') ∧ GAt w' c' S' t ∧ w.heap.size ≤ c' ∧ (∀ k ∈ S', w.heap.size ≤ k) ∧ Chg [] w w' := by
  obtain ⟨g, hB, hT, hW⟩ := h
  have HC := tcopy_any hT hW
  have c0 := hB.cell 0
  have hnil : ∀ w' : World, (binOp .eql 23 (ptr c) (.pointer none)).run Try.prog w' = .ok (.bool false) w' := fun w' => by kernel_rfl
  clear hB hT
  go_enter Try.func15, Try.ntmps15
  go_wp2_with (go_at_call 39; (refine HC.mono ?_); rintro e w1 ⟨rfl, hcp⟩; have HCP := Lib.hid hcp; clear hcp)
  go_ret
  obtain ⟨S', hT', hs, hc⟩ := HCP.out
  exact ⟨_, S', rfl, ⟨_, Blk.new w1 64 _, hT'.quiet ((Chg.refl [] w1).alloc _), hW⟩, hc.size, hs, hc.then ((Chg.refl [] w1).alloc _)⟩
/-- All: these, by places. -/
theorem All_any {w : World} {c N : Nat} {S : List Nat} {t : Tab Gr} (h : GAt w c S t) (hN : t.size = (N : Nat)) :
    Calls Try.prog 13 #[ptr c] w fun e w' => ∃ A cc, e = .returned (.slice A (nowL t N).length cc) ∧ Row w' 49 21 (.slice A (nowL t N).length cc) (nowL t N).length (plcCells (nowL t N)) ∧ (∀ k ∈ foot (.slice A (nowL t N).length cc), w.heap.size ≤ k) ∧ Below w.heap.size w w' := by
  have HP := (callsIn_wide (n := 12)).1 (pickT_in 12 (by omega) h hN)
  generalize nowL t N = L at *
  go_enter Try.func13, Try.ntmps13
  go_wp2_with (go_at_call 37; (refine HP.mono ?_); rintro e w1 ⟨A, cc, rfl, hR, hf, hb⟩)
  go_ret
  exact ⟨A, cc, rfl, hR, hf, hb⟩
/-- Of: those of a state. -/
theorem Of_any {w : World} {c N : Nat} {S : List Nat} {t : Tab Gr} (h : GAt w c S t) (hN : t.size = (N : Nat)) (s : Int) :
    Calls Try.prog 28 #[ptr c, .int .i64 s] w fun e w' => ∃ A cc, e = .returned (.slice A ((nowL t N).filter fun p => p.x.st == s).length cc) ∧ Row w' 33 2 (.slice A ((nowL t N).filter fun p => p.x.st == s).length cc) ((nowL t N).filter fun p => p.x.st == s).length (refCells ((nowL t N).filter fun p => p.x.st == s)) ∧ (∀ k ∈ foot (.slice A ((nowL t N).filter fun p => p.x.st == s).length cc), w.heap.size ≤ k) ∧ Below w.heap.size w w' := by
  have HP := (callsIn_wide (n := 12)).1 (pickR_in 12 (by omega) (h.quiet ((Chg.refl [] w).alloc (.cells #[.int .i64 s] 34))) hN s (Blk.new w 34 _))
  have hb0 : Below w.heap.size w (w.alloc (.cells #[.int .i64 s] 34)) := (Below.refl _ w).alloc (Nat.le_refl _) _
  generalize (nowL t N).filter (fun p => p.x.st == s) = L at *
  go_enter Try.func28, Try.ntmps28
  go_wp2_with (go_at_call 53; (refine HP.mono ?_); rintro e w1 ⟨A, cc, rfl, hR, hf, hb⟩)
  go_ret
  exact ⟨A, cc, rfl, hR, fun k hk => by have := hf k hk; simp at this; omega, hb0.trans (hb.mono (by simp))⟩
end Go.Proofs
end
section
namespace Go.Proofs
open Go.RowKit
set_option linter.unusedVariables false
set_option linter.unusedSimpArgs false

/-! ### Affinities, as bytes -/
def bys (l : List UInt8) : List Value := l.map fun x => .int .u8 x.toNat
theorem bys_len (l : List UInt8) : (bys l).length = l.length := by simp [bys]
def look (l : List Plc) (i : Nat) : UInt8 := l.foldl (fun v p => if p.i = (i : Int) then p.x.af else v) 0
theorem look_snoc (l : List Plc) (p : Plc) (i : Nat) : look (l ++ [p]) i = if p.i = (i : Int) then p.x.af else look l i := by unfold look; simp
def affL (xs : List Plc) (N : Nat) : List UInt8 := (List.range N).map (look xs)
theorem affL_len (xs : List Plc) (N : Nat) : (affL xs N).length = N := by simp [affL]
theorem affL_set (xs : List Plc) (p : Plc) (j N : Nat) (hp : p.i = (j : Nat)) : (bys (affL xs N)).toArray.setIfInBounds j (.int .u8 p.x.af.toNat) = (bys (affL (xs ++ [p]) N)).toArray := by
  apply Array.ext_getElem?
  intro i
  by_cases h : j = i
  · subst h
    rw [Array.getElem?_setIfInBounds_self]
    by_cases hj : j < N
    · rw [if_pos (by simpa [bys, affL] using hj)]
      simp [bys, affL, hj, look_snoc, hp]
    · rw [if_neg (by simpa [bys, affL] using hj), Array.getElem?_eq_none]
      simp [bys, affL]; omega
  · rw [Array.getElem?_setIfInBounds_ne h]
    by_cases hi : i < N
    · have : ¬ ((j : Int) = (i : Int)) := by omega
      simp [bys, affL, hi, look_snoc, hp, this]
    · rw [Array.getElem?_eq_none (by simp [bys, affL]; omega), Array.getElem?_eq_none (by simp [bys, affL]; omega)]
theorem made_bytes (n : Nat) : madeCells (Value.int .u8 0).cells (n * 1) = (bys (affL [] n)).toArray := by
  apply Array.ext_getElem?
  intro k
  by_cases hk : k < n
  · simp [madeCells, bys, affL, look, hk, Value.cells, Nat.mod_one]
  · rw [Array.getElem?_eq_none (by simp [madeCells, Value.cells]; omega), Array.getElem?_eq_none (by simp [bys, affL]; omega)]
theorem nowL_idx {t : Tab Gr} : ∀ {N k : Nat} {p : Plc}, (nowL t N)[k]? = some p → ∃ j : Nat, j < N ∧ p.i = (j : Nat) := by
  intro N
  induction N with
  | zero => intro k p h; simp [nowL] at h
  | succ N ih =>
    intro k p h
    rcases live_cases t (N : Nat) with ⟨s, hs⟩ | hn
    · rw [nowL_yes hs, List.getElem?_append] at h
      split at h
      · obtain ⟨j, h1, h2⟩ := ih h; exact ⟨j, by omega, h2⟩
      · have h5 := h
        rw [List.getElem?_singleton] at h5
        split at h5
        · cases h5; exact ⟨N, by omega, rfl⟩
        · cases h5
    · rw [nowL_no hn] at h
      obtain ⟨j, h1, h2⟩ := ih h; exact ⟨j, by omega, h2⟩
/-- Bytes that are read. -/
theorem strOfNums_nat (l : List UInt8) : strOfNums (l.map fun x => (x.toNat : Int)) = ⟨l.toArray⟩ := by
  unfold strOfNums
  congr 1
  rw [List.map_map]
  have : ((fun n : Int => (UInt8.ofNat n.toNat)) ∘ fun x : UInt8 => (x.toNat : Int)) = id := by
    funext x
    simp
  rw [this, List.map_id]
theorem conv_row {w : World} {V : Value} {l : List UInt8} (h : Row w 5 1 V l.length (bys l)) : (convert 71 9 V).run Try.prog w = .ok (.string ⟨l.toArray⟩) w := by
  rcases Nat.eq_zero_or_pos l.length with h0 | h0
  · obtain ⟨A, c, rfl, _⟩ := h.val
    have hl : l = [] := List.eq_nil_of_length_eq_zero h0
    subst hl
    cases A with
    | none => exact run_convert_bytes_nil w 71 5 Try.underlying71 Try.underlying5 0 c 9 Try.underlying9
    | some a =>
      have hl0 : (loadCells a 0).run Try.prog w = .ok (([] : List Int).map (Value.int .u8)).toArray w := run_loadCells_list (P := Try.prog) w a [] (fun j v hj => by simp at hj)
      rw [List.length_nil, run_convert_bytes_string w 71 9 5 (some a) 0 c Try.underlying71 Try.underlying5 Try.underlying9, run_bytesToString w a 0 c [] hl0]
      rfl
  · obtain ⟨b, c, rfl, _, _, hc, _, _⟩ := h.form h0
    have e := run_convert_bytes_arg (P := Try.prog) w 71 5 Try.underlying71 Try.underlying5 b 0 l.length c (l.map fun x => (x.toNat : Int)) (by simp) (fun i hi => by
      have hv : (bys l)[i]? = some (.int .u8 l[i].toNat) := by simp [bys, hi]
      have := hc i _ hv
      rw [Nat.zero_add, this]
      simp [List.getD, hi]) 9 Try.underlying9
    rw [e, strOfNums_nat]
theorem neq_str (s : ByteArray) (W : World) : (binOp .neq 9 (.string s) (.string s)).run Try.prog W = .ok (.bool false) W := by
  simp [go_sem]
theorem Try.info_B : (Try.prog.info? 5).map (fun i => (i.zero, i.size, i.bytes)) = some (some (.int .u8 0), 1, 1) := by kernel_rfl
set_option maxRecDepth 100000 in
set_option maxHeartbeats 1600000 in
theorem Aff_any {w : World} {c N : Nat} {S : List Nat} {t : Tab Gr} (h : GAt w c S t) (hN : t.size = (N : Nat)) :
    Calls Try.prog 29 #[ptr c] w fun e w' => ∃ V, e = .returned V ∧ Row w' 5 1 V N (bys (affL (nowL t N) N)) ∧ (∀ k ∈ foot V, w.heap.size ≤ k) ∧ Chg [] w w' := by
  have hN4 : N ≤ 4096 := by obtain ⟨g, _, _, hW⟩ := h; have := hW.s1; omega
  have HA := Lib.hid (fun W (hc : Chg [] w W) => All_any (h.quiet hc) hN)
  have hidx := Lib.hid (fun k p hk => nowL_idx (t := t) (N := N) (k := k) (p := p) hk)
  have hnl := nowL_len t N
  obtain ⟨g, hB, hT, hW⟩ := h
  have HP := places_any hB
  have HZ := (size_C hT).mono (R' := fun e w' => e = .returned (.int .i64 (N : Nat)) ∧ w = w') (fun e w' hh => ⟨by rw [hh.1, hN], hh.2⟩)
  obtain ⟨i0, hi0, hz0, hz1, hz2⟩ := info_parts Try.info_B
  have hmk : ∀ W : World, (Instr.makeSlice 71 (.int .i64 (N : Nat)) (.int .i64 (N : Nat))).run Try.prog W = .ok (.slice (some ⟨W.heap.size, 0, none⟩) N N) (W.alloc (.cells (bys (affL [] N)).toArray 5)) := fun W => by
    have h := run_make (P := Try.prog) W 71 5 i0 _ Try.underlying71 hi0 hz0 .i64 .i64 (N : Nat) (N : Nat) (by omega) (by omega) (by rw [hz2]; omega) (by omega)
    rw [hz1, made_bytes] at h
    simp only [Int.toNat_natCast] at h
    exact h
  generalize nowL t N = XS at *
  obtain ⟨m, hm⟩ : ∃ m, m = XS.length := ⟨_, rfl⟩
  rw [← hm] at HA hnl
  have HM := Lib.hid hm
  obtain ⟨fC, hfC⟩ : ∃ fC : Nat → Array Value, fC = fun k => (bys (affL (XS.take k) N)).toArray := ⟨_, rfl⟩
  have hC0 : (bys (affL [] N)).toArray = fC 0 := by rw [hfC]; simp
  rw [hC0] at hmk
  have hCs : ∀ (k j : Nat), j < N → ∃ u : Int, (fC k)[j]? = some (.int .u8 u) := fun k j hj => ⟨((affL (XS.take k) N)[j]?.getD 0).toNat, by rw [hfC]; simp [bys, affL, hj]⟩
  have hCn : ∀ (k : Nat) (p : Plc) (j : Nat), XS[k]? = some p → p.i = (j : Int) → (fC k).setIfInBounds j (.int .u8 p.x.af.toNat) = fC (k + 1) := fun k p j hp hj => by
    rw [hfC]; simp only
    rw [affL_set _ p j N hj, take_one_more XS k p hp]
  have hCm : fC m = (bys (affL XS N)).toArray := by rw [hfC, hm]; simp
  have hCl : ∀ k, (fC k).size = N := fun k => by rw [hfC]; simp [bys, affL]
  have HCs := Lib.hid hCs
  have HCn := Lib.hid hCn
  have HCm := Lib.hid hCm
  have HCl := Lib.hid hCl
  clear hB hT hW hN hm hfC hC0 hCs hCn hCm hCl
  go_enter Try.func29, Try.ntmps29
  go_wp2_with (first
    | (go_at_call 40; (refine HP.mono ?_); rintro e w' ⟨rfl, rfl⟩)
    | (go_at_call 48; (refine HZ.mono ?_); rintro e w' ⟨rfl, rfl⟩)
    | (go_at_call 13; (refine (HA.out _ ((Chg.refl _ _).alloc _)).mono ?_); rintro e w1 ⟨A, cc, rfl, hR, hf, hb⟩; have HR := Lib.hid hR; have HF := Lib.hid hf; have HB := Lib.hid hb; clear hR hf hb))
  have hb1 : Blk w1 w.heap.size 5 (fC 0) := (Blk.new w 5 (fC 0)).same (HB.out.block _ (by simp))
  have hc1 : Chg [] w w1 := ((Chg.refl [] w).alloc _).then (Chg.of_below HB.out)
  have hz1 := HB.out.size
  simp only [World.size_alloc] at hz1
  go_loopw [13] (fun iv wr => ∃ k : Nat, k ≤ m ∧ iv = .int .i64 k ∧ Chg [w.heap.size] w1 wr ∧ Blk wr w.heap.size 5 (fC k)) (fun iv wr => m - (intOfN iv).toNat)
  case atStart => exact ⟨0, by omega, rfl, Chg.refl _ _, hb1⟩
  case round =>
    obtain ⟨k, hk, rfl, hcr, hbk⟩ := hrel
    by_cases hlt : k < m
    · obtain ⟨p, hp⟩ : ∃ p, XS[k]? = some p := ⟨_, List.getElem?_eq_getElem (by rw [← HM.out]; exact hlt)⟩
      have hRr := HR.out.chg hcr (fun j hj => by have := HF.out j hj; simp at this ⊢; omega)
      obtain ⟨gl, cl, hv, hft, _, hcell, _, hgl⟩ := hRr.form (by omega)
      simp only [Value.slice.injEq] at hv
      obtain ⟨rfl, h91, h92⟩ := hv
      clear h91 h92
      have dc : ∀ j v, p.arr[j]? = some v → wr.cell? ⟨gl, k * 21 + j, none⟩ = some v := fun j v hv => hcell _ _ (plcCells_at hp j v hv)
      obtain ⟨j, hj, hpj⟩ := hidx.out k p hp
      obtain ⟨u, hu⟩ := HCs.out k j hj
      have hnx := Lib.hid (HCn.out k p j hp hpj)
      have hPs := p.size
      have hP1 := p.one
      have a0 := p.at0
      have a8 := p.atx 6 _ (show p.x.arr[6]? = some (.int .u8 p.x.af.toNat) from rfl)
      rw [hpj] at a0
      generalize p.arr = PA at *
      generalize (p.x.af.toNat : Int) = af at *
      have k0 : (0 : Int) ≤ (k : Int) := by omega
      have k1 : (k : Int) < (m : Int) := by omega
      have j0 : (0 : Int) ≤ (j : Int) := by omega
      have j1 : (j : Int) < (N : Int) := by omega
      have hzr := hcr.size
      have HBK := Lib.hid hbk
      have HCR := Lib.hid hcr
      clear hp hpj hcell hRr hft hbk hcr
      go_wp2_with (first
        | ((with_reducible refine wpl_load_atE T49 hPs dc ?_ ?_ ?_); (· rfl); (· exact ⟨_, rfl, rfl⟩))
        | ((with_reducible refine wpl_storeE T49 (Blk.new wr 49 zP) rfl hPs hP1 ?_ ?_ ?_); (· rfl); (· exact ⟨_, _, rfl, rfl, rfl⟩); intro w3 hS3; have c0 := (hS3.blk.cell 0).trans a0; have c8 := (hS3.blk.cell 8).trans a8; have hb3 := hS3.far (HBK.out.alloc (.cells zP 49)) (by omega); have y0 := (hb3.cell j).trans hu; have y1 := hb3.frozen j; have HS3 := Lib.hid hS3; have HB3 := Lib.hid hb3; clear hS3 hb3))
      go_roundw
      case rel =>
        refine ⟨k + 1, by omega, by go_num, ?_, ?_⟩
        · exact ((HCR.out.alloc _).trans HS3.out.chg (fun i hi => by simp at hi; subst hi; exact .inr (by omega))).setCell (p := ⟨w.heap.size, j, none⟩) (.inl (by simp)) _
        · have := HB3.out.set_ j (.int .u8 af)
          rw [hnx.out] at this
          exact this
      case measure => simp [intOfN]; omega
    · obtain rfl : k = m := by omega
      go_wp2
      go_ret
      refine ⟨_, rfl, ⟨by rw [bys_len, affL_len]; omega, .inr ⟨w.heap.size, N, _, rfl, hbk, Nat.le_refl _, by unfold maxLen; omega, by rw [HCl.out]; omega, ?_⟩⟩, fun i hi => by simp [foot_some] at hi; omega, ?_⟩
      · rw [HCm.out, List.take_of_length_le (by simp [bys_len, affL_len])]
      · exact ⟨hcr.os.trans hc1.os, hcr.tape.trans hc1.tape, hcr.output.trans hc1.output, Nat.le_trans hc1.size hcr.size, fun i hi _ => (hcr.block i (Nat.lt_of_lt_of_le hi hc1.size) (by simp; omega)).trans (hc1.block i hi (by simp))⟩
end Go.Proofs
end
section
namespace Go.Proofs
open Go.RowKit
set_option linter.unusedVariables false
set_option linter.unusedSimpArgs false

theorem rTurns_1 (b : Int) (w : World) : Calls Try.prog 55 #[.int .i64 1, .int .i64 b] w fun e w' => e = .returned (.bool (b == 2 || b == 5 || b == 6)) ∧ w' = w := by
  by_cases h2 : b = 2
  · subst h2
    go_enter Try.func55, Try.ntmps55
    go_wp2
    go_ret
    exact ⟨rfl, rfl⟩
  have e2 : (b == 2) = false := by simpa using h2
  by_cases h5 : b = 5
  · subst h5
    go_enter Try.func55, Try.ntmps55
    go_wp2
    go_ret
    exact ⟨rfl, rfl⟩
  have e5 : (b == 5) = false := by simpa using h5
  rw [e2, e5]
  simp only [Bool.false_or]
  go_enter Try.func55, Try.ntmps55
  go_wp2
  go_ret
  exact ⟨rfl, rfl⟩
theorem rTurns_2 (b : Int) (w : World) : Calls Try.prog 55 #[.int .i64 2, .int .i64 b] w fun e w' => e = .returned (.bool (b == 1 || b == 3 || b == 4 || b == 5 || b == 6)) ∧ w' = w := by
  by_cases h1 : b = 1
  · subst h1
    go_enter Try.func55, Try.ntmps55
    go_wp2
    go_ret
    exact ⟨rfl, rfl⟩
  have e1 : (b == 1) = false := by simpa using h1
  by_cases h3 : b = 3
  · subst h3
    go_enter Try.func55, Try.ntmps55
    go_wp2
    go_ret
    exact ⟨rfl, rfl⟩
  have e3 : (b == 3) = false := by simpa using h3
  by_cases h4 : b = 4
  · subst h4
    go_enter Try.func55, Try.ntmps55
    go_wp2
    go_ret
    exact ⟨rfl, rfl⟩
  have e4 : (b == 4) = false := by simpa using h4
  by_cases h5 : b = 5
  · subst h5
    go_enter Try.func55, Try.ntmps55
    go_wp2
    go_ret
    exact ⟨rfl, rfl⟩
  have e5 : (b == 5) = false := by simpa using h5
  rw [e1, e3, e4, e5]
  simp only [Bool.false_or]
  go_enter Try.func55, Try.ntmps55
  go_wp2
  go_ret
  exact ⟨rfl, rfl⟩
theorem rTurns_3 (b : Int) (w : World) : Calls Try.prog 55 #[.int .i64 3, .int .i64 b] w fun e w' => e = .returned (.bool (b == 1 || b == 5)) ∧ w' = w := by
  by_cases h1 : b = 1
  · subst h1
    go_enter Try.func55, Try.ntmps55
    go_wp2
    go_ret
    exact ⟨rfl, rfl⟩
  have e1 : (b == 1) = false := by simpa using h1
  rw [e1]
  simp only [Bool.false_or]
  go_enter Try.func55, Try.ntmps55
  go_wp2
  go_ret
  exact ⟨rfl, rfl⟩
theorem rTurns_4 (b : Int) (w : World) : Calls Try.prog 55 #[.int .i64 4, .int .i64 b] w fun e w' => e = .returned (.bool (b == 1 || b == 5)) ∧ w' = w := by
  by_cases h1 : b = 1
  · subst h1
    go_enter Try.func55, Try.ntmps55
    go_wp2
    go_ret
    exact ⟨rfl, rfl⟩
  have e1 : (b == 1) = false := by simpa using h1
  rw [e1]
  simp only [Bool.false_or]
  go_enter Try.func55, Try.ntmps55
  go_wp2
  go_ret
  exact ⟨rfl, rfl⟩
theorem rTurns_6 (b : Int) (w : World) : Calls Try.prog 55 #[.int .i64 6, .int .i64 b] w fun e w' => e = .returned (.bool (b == 1 || b == 5)) ∧ w' = w := by
  by_cases h1 : b = 1
  · subst h1
    go_enter Try.func55, Try.ntmps55
    go_wp2
    go_ret
    exact ⟨rfl, rfl⟩
  have e1 : (b == 1) = false := by simpa using h1
  rw [e1]
  simp only [Bool.false_or]
  go_enter Try.func55, Try.ntmps55
  go_wp2
  go_ret
  exact ⟨rfl, rfl⟩
theorem rTurns_5 (b : Int) (w : World) : Calls Try.prog 55 #[.int .i64 5, .int .i64 b] w fun e w' => e = .returned (.bool (b == 1)) ∧ w' = w := by
  go_enter Try.func55, Try.ntmps55
  go_wp2
  go_ret
  exact ⟨rfl, rfl⟩
theorem rTurns_any (a b : Int) (w : World) : Calls Try.prog 55 #[.int .i64 a, .int .i64 b] w fun e w' => e = .returned (.bool (turnsP a b)) ∧ w' = w := by
  unfold turnsP
  by_cases h1 : a = 1
  · subst h1; rw [if_pos rfl]; exact rTurns_1 b w
  by_cases h2 : a = 2
  · subst h2; rw [if_neg (by decide), if_pos rfl]; exact rTurns_2 b w
  by_cases h3 : a = 3
  · subst h3; rw [if_neg (by decide), if_neg (by decide), if_pos (by decide)]; exact rTurns_3 b w
  by_cases h4 : a = 4
  · subst h4; rw [if_neg (by decide), if_neg (by decide), if_pos (by decide)]; exact rTurns_4 b w
  by_cases h6 : a = 6
  · subst h6; rw [if_neg (by decide), if_neg (by decide), if_pos (by decide)]; exact rTurns_6 b w
  by_cases h5 : a = 5
  · subst h5; rw [if_neg (by decide), if_neg (by decide), if_neg (by decide), if_pos rfl]; exact rTurns_5 b w
  rw [if_neg h1, if_neg h2, if_neg (by omega), if_neg h5]
  have e1 : (a == 1) = false := by simpa using h1
  have e2 : (a == 2) = false := by simpa using h2
  have e3 : (a == 3) = false := by simpa using h3
  have e4 : (a == 4) = false := by simpa using h4
  have e5 : (a == 5) = false := by simpa using h5
  have e6 : (a == 6) = false := by simpa using h6
  clear h1 h2 h3 h4 h5 h6
  go_enter Try.func55, Try.ntmps55
  go_wp2
  go_ret
  exact ⟨rfl, rfl⟩
end Go.Proofs
end
section
namespace Go.Proofs
open Go.RowKit
set_option linter.unusedVariables false
set_option linter.unusedSimpArgs false

/-! ### The document's table -/
structure Rt where
  L : List (Spot Gr)
  F : List Nat
def DAt (w : World) (p : Nat) (S : List Nat) (r : Rt) : Prop :=
  ∃ VL VF, Blk w p 83 #[VL, VF] ∧ Row w 79 21 VL r.L.length (spotCells r.L) ∧ Row w 3 1 VF r.F.length (numCells r.F) ∧ S = p :: (foot VL ++ foot VF)
section
variable {w w' : World} {p : Nat} {S : List Nat} {r : Rt}
theorem DAt.lt (h : DAt w p S r) : ∀ k ∈ S, k < w.heap.size := by
  obtain ⟨VS, VF, hB, hS, hF, rfl⟩ := h
  intro k hk
  simp at hk
  rcases hk with rfl | hk | hk
  · exact hB.lt
  · exact hS.lt k hk
  · exact hF.lt k hk
theorem DAt.mem (h : DAt w p S r) : p ∈ S := by
  obtain ⟨VS, VF, hB, hS, hF, rfl⟩ := h; simp
theorem DAt.same (h : DAt w p S r) (hk : ∀ k ∈ S, w'.heap[k]? = w.heap[k]?) : DAt w' p S r := by
  obtain ⟨VS, VF, hB, hS, hF, rfl⟩ := h
  exact ⟨VS, VF, hB.same (hk p (by simp)), hS.same (fun k h => hk k (by simp [h])), hF.same (fun k h => hk k (by simp [h])), rfl⟩
theorem DAt.chg {S' : List Nat} (h : DAt w p S r) (hc : Chg S' w w') (hn : ∀ k ∈ S, k ∉ S') : DAt w' p S r :=
  h.same fun k hk => hc.block k (h.lt k hk) (hn k hk)
theorem DAt.quiet (h : DAt w p S r) (hc : Chg [] w w') : DAt w' p S r := h.chg hc (fun _ _ hk => by cases hk)
theorem DAt.ty (h : DAt w p S r) {b : Nat} {e : TypeId} {cs : Array Value} (hb : Blk w b e cs) (h1 : e ≠ 83) (h2 : e ≠ 79) (h3 : e ≠ 3) : b ∉ S := by
  obtain ⟨VS, VF, hB, hS, hF, rfl⟩ := h
  intro hk
  simp only [List.mem_cons, List.mem_append] at hk
  rcases hk with rfl | hk | hk
  · exact hb.ty hB h1 rfl
  · exact hS.ty hb (Ne.symm h2) hk
  · exact hF.ty hb (Ne.symm h3) hk
end
def DTurns (p : Nat) (S : List Nat) (r' : Rt) (w w' : World) : Prop :=
  ∃ S', DAt w' p S' r' ∧ (∀ k ∈ S', k ∈ S ∨ w.heap.size ≤ k) ∧ Chg S w w'
theorem DTurns.refl {p : Nat} {S : List Nat} {r : Rt} {a b : World} (h : DAt a p S r) (hc : Chg [] a b) : DTurns p S r a b :=
  ⟨S, h.quiet hc, fun k hk => .inl hk, hc.any⟩
theorem DTurns.later {p : Nat} {S : List Nat} {r' : Rt} {a b c : World} (h : DTurns p S r' a b) (hc : Chg [] b c) : DTurns p S r' a c := by
  obtain ⟨S', h1, h2, h3⟩ := h
  exact ⟨S', h1.quiet hc, h2, h3.then hc⟩
theorem DTurns.mk {p : Nat} {S : List Nat} {r' : Rt} {w w' : World} {VS VF : Value} (hB : Blk w' p 83 #[VS, VF])
    (hS : Row w' 79 21 VS r'.L.length (spotCells r'.L)) (hF : Row w' 3 1 VF r'.F.length (numCells r'.F))
    (hg : p ∈ S) (sS : ∀ k ∈ foot VS, k ∈ S ∨ w.heap.size ≤ k) (sF : ∀ k ∈ foot VF, k ∈ S ∨ w.heap.size ≤ k) (hc : Chg S w w') : DTurns p S r' w w' := by
  refine ⟨_, ⟨VS, VF, hB, hS, hF, rfl⟩, fun k hk => ?_, hc⟩
  simp at hk
  rcases hk with rfl | hk | hk
  · exact .inl hg
  · exact sS k hk
  · exact sF k hk
/-- Who is at a place of the document's. -/
def Rt.at_ (r : Rt) (i : Int) : Option (Spot Gr) := if 0 ≤ i then r.L[i.toNat]? else none
def Rt.is (r : Rt) (i q : Int) : Bool := match r.at_ i with | some s => s.there && (s.gen == q) | none => false
theorem rat_some {r : Rt} {i : Int} {s : Spot Gr} (h : r.at_ i = some s) : ∃ k : Nat, i = (k : Nat) ∧ r.L[k]? = some s := by
  unfold Rt.at_ at h
  split at h
  · rename_i h0
    obtain ⟨k, rfl⟩ := Int.eq_ofNat_of_zero_le h0
    exact ⟨k, rfl, by simpa using h⟩
  · cases h
set_option maxRecDepth 100000 in
set_option maxHeartbeats 1600000 in
theorem rIs_any {w : World} {p : Nat} {S : List Nat} {r : Rt} (h : DAt w p S r) (hl : r.L.length ≤ 64) (i q : Int) (hi : inI i) :
    Calls Try.prog 16 #[ptr p, .agg #[.int .i64 i, .int .u64 q]] w fun e w' => e = .returned (.bool (r.is i q)) ∧ Chg [] w w' := by
  obtain ⟨VL, VF, hB, hS, hF, hSS⟩ := h
  obtain ⟨A, c, rfl, _⟩ := hS.val
  have hc : Chg [] w (w.alloc (.cells #[.int .i64 i, .int .u64 q] 33)) := (Chg.refl [] w).alloc _
  have c0 := (hB.alloc (.cells #[.int .i64 i, .int .u64 q] 33)).cell 0
  have lp := hB.lt
  unfold Rt.is
  by_cases h0 : 0 ≤ i
  · obtain ⟨k, rfl⟩ := Int.eq_ofNat_of_zero_le h0
    by_cases hk : k < r.L.length
    · obtain ⟨s, hs⟩ : ∃ s, r.L[k]? = some s := ⟨_, List.getElem?_eq_getElem hk⟩
      have ha : r.at_ (k : Nat) = some s := by unfold Rt.at_; rw [if_pos h0]; simpa using hs
      rw [ha]
      simp only
      obtain ⟨gs, cs, hv, _, _, hgs, _, a0, a1, _, _⟩ := open_spot (hS.alloc (.cells #[.int .i64 (k : Nat), .int .u64 q] 33)) hs
      simp only [Value.slice.injEq] at hv
      obtain ⟨rfl, _, _⟩ := hv
      obtain ⟨m, hm⟩ : ∃ m, m = r.L.length := ⟨_, rfl⟩
      rw [← hm] at c0 hk
      have k1 : (k : Int) < (m : Int) := by omega
      have d1 : decide ((k : Int) < (m : Int)) = true := decide_eq_true k1
      cases hth : s.there with
      | false =>
        rw [hth] at a1
        rw [Bool.false_and]
        clear hB hS hF hSS ha hs hm hth
        go_enter Try.func16, Try.ntmps16
        go_upto_region 1 with (fail)
        go_quiet (fail)
        go_wp2
        go_ret
        exact ⟨rfl, hc.drewN _⟩
      | true =>
        rw [hth] at a1
        rw [Bool.true_and]
        clear hB hS hF hSS ha hs hm hth
        go_enter Try.func16, Try.ntmps16
        go_upto_region 1 with (fail)
        go_quiet (fail)
        go_wp2
        go_ret
        exact ⟨rfl, hc.drewN _⟩
    · have ha : r.at_ (k : Nat) = none := by unfold Rt.at_; rw [if_pos h0]; simp; omega
      rw [ha]
      simp only
      obtain ⟨m, hm⟩ : ∃ m, m = r.L.length := ⟨_, rfl⟩
      rw [← hm] at c0 hk
      have d1 : decide ((k : Int) < (m : Int)) = false := decide_eq_false (by omega)
      clear hB hS hF hSS ha hm
      go_enter Try.func16, Try.ntmps16
      go_upto_region 1 with (fail)
      go_quiet (fail)
      go_wp2
      go_ret
      exact ⟨rfl, hc.drewN _⟩
  · have ha : r.at_ i = none := by unfold Rt.at_; rw [if_neg h0]
    rw [ha]
    simp only
    have d0 : decide (0 ≤ i) = false := decide_eq_false h0
    clear hB hS hF hSS ha
    go_enter Try.func16, Try.ntmps16
    go_upto_region 1 with (fail)
    go_quiet (fail)
    go_wp2
    go_ret
    exact ⟨rfl, hc.drewN _⟩
end Go.Proofs
end
