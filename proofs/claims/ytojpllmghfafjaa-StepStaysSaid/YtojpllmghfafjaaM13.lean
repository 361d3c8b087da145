import Derived.Test.YtojpllmghfafjaaM12
import Derived.Deep.Slices
import Derived.Deep.Fields
import Derived.ChangeSame
import Derived.Carry
import Derived.ProofKit
import Derived.OpenShut
import Derived.Test.YtojpllmghfafjaaRows
section
namespace Go.Proofs
open Go.ChangeShapes Go.WideShapes Go.ChangeAt Go.RowKit Go.Deep
set_option linter.unusedVariables false
set_option maxRecDepth 100000
/-- The numbers of a goroutine that came in. -/
structure Gr.fine (g : Gr) : Prop where
  r0 : ∀ i, 0 ≤ g.r i
  r1 : ∀ i, g.r i < 18446744073709551616
  p0 : -9223372036854775808 ≤ g.pc
  p1 : g.pc ≤ 9223372036854775807
  c0 : -9223372036854775808 ≤ g.cd
  c1 : g.cd ≤ 9223372036854775807
section
variable {H : Type} {enc : TypeId × Value → H} {w : World} {base : Nat} {held : Bool}
theorem bounds_u8 {n : Int} (h : (Lit.int .u8 n).wf = true) : 0 ≤ n ∧ n < 256 := by
  simp [Lit.wf] at h
  have e0 : IntKind.u8.min = 0 := by kernel_rfl
  have e1 : IntKind.u8.max = 255 := by kernel_rfl
  omega
theorem byte_of {n : Int} (h : 0 ≤ n ∧ n < 256) : ∃ x : UInt8, n = (x.toNat : Int) := by
  refine ⟨UInt8.ofNat n.toNat, ?_⟩
  rw [UInt8.toNat_ofNat', Nat.mod_eq_of_lt (by omega)]; omega
theorem spot_none {W : World} {a : Addr} {u : Value} (h : W.cell? ((a.add 0).add 0) = some u) : a.spot = none ∧ a.block < W.heap.size := by
  have e0 : (a.add 0).add 0 = a := by unfold Addr.add; simp
  rw [e0] at h
  refine ⟨?_, World.block_lt_of_cell? W _ h⟩
  unfold World.cell? at h
  split at h
  · split at h
    · cases h
    · rename_i hns; simpa using hns
  · cases h
theorem bys_get {l : List UInt8} {k : Nat} {u : Value} (h : (bys l)[k]? = some u) : ∃ x, l[k]? = some x ∧ u = .int .u8 x.toNat := by
  simp only [bys, Lib.byteCells, List.getElem?_map, Option.map_eq_some_iff] at h
  obtain ⟨x, hx, rfl⟩ := h
  exact ⟨x, hx, rfl⟩
/-- Bytes that came in. -/
theorem open_by {fuel : Nat} {cs : List Value} {x : DataW H × List MemPlace} (h : DataW.trod enc Try.prog w base (fun _ => true) held fuel 22 cs = some x) : ∃ V l, cs = [V] ∧ By w V l := by
  rcases open_slice1 Try.underlying22 (by kernel_rfl) h with ⟨rfl, _⟩ | ⟨a, len, cap, m, n, V, D, Pl, rfl, hb, hl, hm, hmm, hx, hi⟩
  · exact ⟨_, [], rfl, By.nil w⟩
  · have hml : len ≤ m := by rw [hmm]; simpa using hl
    have each : ∀ i, i < m → ∃ x : UInt8, w.cell? (a.add i) = some (.int .u8 x.toNat) := fun i him => by
      obtain ⟨hc, ht⟩ := hi i him
      obtain ⟨y, e, _, w0⟩ := DataW.trod_int Try.underlying5 ht
      simp only [List.cons.injEq, and_true] at e
      rw [e] at hc
      obtain ⟨z, hz⟩ := byte_of (bounds_u8 w0)
      exact ⟨z, by rw [hc, hz]⟩
    refine ⟨_, (List.range len).map (fun i => if h : i < m then (each i h).choose else 0), rfl, ⟨some a, cap, by simp, by simpa using hl, hm, fun k u hk => ?_⟩⟩
    obtain ⟨y, hy, rfl⟩ := bys_get hk
    rw [List.getElem?_map, Option.map_eq_some_iff] at hy
    obtain ⟨k', hk', rfl⟩ := hy
    obtain ⟨hk1, rfl⟩ := List.getElem?_eq_some_iff.1 hk'
    simp only [List.length_range] at hk1
    obtain ⟨hsp, hbl⟩ : a.spot = none ∧ a.block < w.heap.size := by
      obtain ⟨x, hc⟩ := each 0 (by omega)
      refine spot_none (u := .int .u8 x.toNat) ?_
      have e0 : (a.add 0).add 0 = a.add 0 := by unfold Addr.add; simp
      rw [e0]
      exact hc
    obtain ⟨b, off, sp⟩ := a
    simp only at hsp hbl
    subst hsp
    have hadd : ∀ i, (⟨b, off, none⟩ : Addr).add i = ⟨b, off + i, none⟩ := fun i => by
      unfold Addr.add
      by_cases h1 : i = 0 <;> simp [h1]
    rw [List.getElem_range, dif_pos (by omega : k < m)]
    exact ⟨b, off, rfl, hbl, (congrArg w.cell? (hadd k)).symm.trans (each k (by omega)).choose_spec⟩
theorem open_bytes {v : Value} {d : DataW H} {ps : List MemPlace} {b : Nat} (hv : Value.okWide Try.prog w .any b 22 v) (h : DataW.Trod enc Try.prog w 0 (fun _ => true) true 22 v d ps) : ∃ l, By w v l := by
  obtain ⟨fuel, hf⟩ := h
  obtain ⟨a', len', cap', rfl⟩ := okWide_slice Try.underlying22 hv
  obtain ⟨V, l, e, hp⟩ := open_by hf
  simp [Value.cells] at e
  subst e
  exact ⟨l, hp⟩
theorem open_ref {fuel : Nat} {cs : List Value} {x : DataW H × List MemPlace} (h : DataW.trod enc Try.prog w base (fun _ => true) held fuel 26 cs = some x) : ∃ i g : Int, cs = [.int .i64 i, .int .u64 g] := by
  obtain ⟨xs, n, _, _, hlen, hxl, hf⟩ := DataW.trod_struct Try.underlying26 h
  have h8 : Try.prog.cellsOf 26 = 2 := by kernel_rfl
  have h3 : Try.prog.cellsOf 3 = 1 := by kernel_rfl
  have h9 : Try.prog.cellsOf 24 = 1 := by kernel_rfl
  rw [h8] at hlen
  match cs, hlen with
  | [c0, c1], _ =>
    match xs, hxl with
    | [y0, y1], _ =>
      have g0 := hf 0 _ rfl
      have g1 := hf 1 _ rfl
      simp [h9, h3] at g0 g1
      obtain ⟨A, e0, _, w0⟩ := DataW.trod_int Try.underlying3 g0
      obtain ⟨B, e1, _, w1⟩ := DataW.trod_int Try.underlying24 g1
      simp only [List.cons.injEq, and_true] at e0 e1
      subst e0 e1
      exact ⟨A, B, rfl⟩
theorem open_regs {fuel : Nat} {cs : List Value} {x : DataW H × List MemPlace} (h : DataW.trod enc Try.prog w base (fun _ => true) held fuel 27 cs = some x) :
    ∃ r : Nat → Int, (∀ i, 0 ≤ r i) ∧ (∀ i, r i < 18446744073709551616) ∧ cs = [.int .u64 (r 0), .int .u64 (r 1), .int .u64 (r 2), .int .u64 (r 3), .int .u64 (r 4), .int .u64 (r 5), .int .u64 (r 6), .int .u64 (r 7)] := by
  obtain ⟨xs, n, _, _, hlen, hxl, hf⟩ := DataW.trod_array Try.underlying27 h
  have h8 : Try.prog.cellsOf 27 = 8 := by kernel_rfl
  have h1 : Try.prog.cellsOf 24 = 1 := by kernel_rfl
  rw [h8] at hlen
  rw [h1] at hf
  have each : ∀ i, i < 8 → ∃ n : Int, (0 ≤ n ∧ n < 18446744073709551616) ∧ cs[i]? = some (.int .u64 n) := fun i hi => by
    have hx : ∃ y, xs[i]? = some y := ⟨_, List.getElem?_eq_getElem (by omega)⟩
    obtain ⟨y, hy⟩ := hx
    have := hf i hi
    rw [hy] at this
    obtain ⟨n, e, _, wn⟩ := DataW.trod_int Try.underlying24 this
    refine ⟨n, by have := bounds_u64 wn; omega, ?_⟩
    have e2 := congrArg (·[0]?) e
    simp [List.getElem?_drop] at e2
    exact e2
  refine ⟨fun i => if h : i < 8 then (each i h).choose else 0, fun i => ?_, fun i => ?_, ?_⟩
  · dsimp only; split
    · rename_i h; exact (each i h).choose_spec.1.1
    · omega
  · dsimp only; split
    · rename_i h; exact (each i h).choose_spec.1.2
    · omega
  · apply List.ext_getElem?
    intro i
    by_cases hi : i < 8
    · have hc := (each i hi).choose_spec.2
      rw [hc]
      have : i = 0 ∨ i = 1 ∨ i = 2 ∨ i = 3 ∨ i = 4 ∨ i = 5 ∨ i = 6 ∨ i = 7 := by omega
      rcases this with rfl | rfl | rfl | rfl | rfl | rfl | rfl | rfl <;> rfl
    · rw [List.getElem?_eq_none (by omega), List.getElem?_eq_none (by simp; omega)]
theorem open_g {v : Value} {d : DataW H} {ps : List MemPlace} {r : Reach} {b0 : Nat} (hv : Value.okWide Try.prog w r b0 30 v) (h : DataW.Trod enc Try.prog w base (fun _ => true) held 30 v d ps) : ∃ g : Gr, g.fine ∧ v = g.val := by
  obtain ⟨cs, rfl, _⟩ := okWide_struct Try.underlying30 hv
  obtain ⟨fuel, hf⟩ := h
  obtain ⟨xs, n, _, _, hlen, hxl, hf⟩ := DataW.trod_struct Try.underlying30 hf
  have h8 : Try.prog.cellsOf 30 = 19 := by kernel_rfl
  have h23 : Try.prog.cellsOf 23 = 1 := by kernel_rfl
  have h4 : Try.prog.cellsOf 4 = 1 := by kernel_rfl
  have h26 : Try.prog.cellsOf 26 = 2 := by kernel_rfl
  have h5 : Try.prog.cellsOf 5 = 1 := by kernel_rfl
  have h3 : Try.prog.cellsOf 3 = 1 := by kernel_rfl
  have h27 : Try.prog.cellsOf 27 = 8 := by kernel_rfl
  have h28 : Try.prog.cellsOf 28 = 1 := by kernel_rfl
  have h24 : Try.prog.cellsOf 24 = 1 := by kernel_rfl
  rw [h8] at hlen
  simp only [Value.cells] at hlen hf
  obtain ⟨cs⟩ := cs
  simp only at hlen hf
  match cs, hlen with
  | [c0, c1, c2, c3, c4, c5, c6, c7, c8, c9, c10, c11, c12, c13, c14, c15, c16, c17, c18], _ =>
    match xs, hxl with
    | [y0, y1, y2, y3, y4, y5, y6, y7, y8, y9], _ =>
      have g0 := hf 0 _ rfl
      have g1 := hf 1 _ rfl
      have g2 := hf 2 _ rfl
      have g3 := hf 3 _ rfl
      have g4 := hf 4 _ rfl
      have g5 := hf 5 _ rfl
      have g6 := hf 6 _ rfl
      have g7 := hf 7 _ rfl
      have g8 := hf 8 _ rfl
      have g9 := hf 9 _ rfl
      simp [h23, h4, h26, h5, h3, h27, h28, h24] at g0 g1 g2 g3 g4 g5 g6 g7 g8 g9
      obtain ⟨st, e0, _, w0⟩ := DataW.trod_int Try.underlying23 g0
      obtain ⟨su, e1, _⟩ := DataW.trod_bool Try.underlying4 g1
      obtain ⟨d0, d1, e2⟩ := open_ref g2
      obtain ⟨cc0, cc1, e3⟩ := open_ref g3
      obtain ⟨af, e4, _, w4⟩ := DataW.trod_int Try.underlying5 g4
      obtain ⟨pg, e5, _, w5⟩ := DataW.trod_int Try.underlying3 g5
      obtain ⟨pc, e6, _, w6⟩ := DataW.trod_int Try.underlying3 g6
      obtain ⟨r, r0, r1, e7⟩ := open_regs g7
      obtain ⟨cd, e8, _, w8⟩ := DataW.trod_int Try.underlying28 g8
      obtain ⟨un, e9, _, w9⟩ := DataW.trod_int Try.underlying24 g9
      simp only [List.cons.injEq, and_true] at e0 e1 e2 e3 e4 e5 e6 e7 e8 e9
      obtain ⟨rfl, rfl⟩ := e2
      obtain ⟨rfl, rfl⟩ := e3
      obtain ⟨rfl, rfl, rfl, rfl, rfl, rfl, rfl, rfl⟩ := e7
      subst e0 e1 e4 e5 e6 e8 e9
      obtain ⟨q0, q1⟩ := bounds_i64 w6
      obtain ⟨q2, q3⟩ := bounds_i64 w8
      exact ⟨⟨st, su, d0, d1, cc0, cc1, af, pg, pc, r, cd, un⟩, ⟨r0, r1, by show _ ≤ pc; omega, by show pc ≤ _; omega, by show _ ≤ cd; omega, by show cd ≤ _; omega⟩, rfl⟩
end
section
variable {H : Type} {enc : TypeId × Value → H} {P : Program}
theorem post_of_below {f : Func} {s : ChangeSpec} {apart fresh handsOn again : Bool} {W W' : World} {args : Array Value} {v : Value} {ds gs : List (DataW H)} {before pa pv : List MemPlace}
    (hW : DataW.Whole enc P f.params.toList s.vars apart W args.toList ds gs before)
    (hres : ∀ (b : Nat) (sp : Nat → Bool) (hd : Bool), DataW.TrodAll enc P W' b sp hd f.resultTypes.toList (v.resultList f.resultTypes.size) (s.fn H (ds ++ gs)).results [])
    (hargs : ∀ sp : Nat → Bool, (∀ p ∈ before, sp p.block = true) → DataW.TrodAll enc P W' 0 sp true f.params.toList args.toList (s.fn H (ds ++ gs)).args pa)
    (hvars : ∀ sp : Nat → Bool, (∀ p ∈ before, sp p.block = true) → DataW.TrodVars enc P W' sp s.vars (s.fn H (ds ++ gs)).vars pv)
    (hps : before = pa ++ pv) (hb : Below W.heap.size W W')
    (hok : ∀ (j : Nat) (t : TypeId) (r : Value), f.resultTypes[j]? = some t → (v.resultList f.resultTypes.size)[j]? = some r → Value.okWide P W' .any 0 t r) :
    s.post enc P f apart fresh handsOn again W args v W' := by
  have hlt : ∀ p ∈ before, p.block < W.heap.size := fun p hp => hW.lt p hp
  have hold : ∀ p ∈ before, (fun b => decide (b < W.heap.size)) p.block = true := fun p hp => by simpa using hlt p hp
  refine ⟨ds, gs, before, [], pa, pv, hW, hres _ _ _, hargs _ hold, hvars _ hold, World.keptBut_mono (fun p hp => ⟨hp, ?_⟩) (hb.frame (· ∈ before)), fun _ => ?_⟩
  · rw [hps, List.mem_append] at hp
    exact Or.inr hp
  · obtain ⟨_, _, _, _, _, hz, hn⟩ := hW
    refine ⟨hok, _, _, ([] ++ pa) ++ pv, ⟨[] ++ pa, pv, trodAll_append (hargs _ (fun _ _ => rfl)) (hres _ _ _), hvars _ (fun _ _ => rfl), rfl, ?_, ?_⟩, ?_⟩
    · intro b off hp
      have hin : MemPlace.cell b off ∈ before := by rw [hps]; simpa using hp
      rw [hb.frozen (hlt _ hin)]
      exact hz b off hin
    · intro ha
      have := hn ha
      rw [hps] at this
      simpa using this
    · intro p hp _
      rw [hps]
      simpa using hp
end
theorem Try.laidOut : laidOutB Try.prog = true := by kernel_rfl
end Go.Proofs
end
