import Derived.Test.YtapgcadffghljaaDoorFMay7
import Derived.Deep.Slices
import Derived.Deep.Fields
import Derived.ChangeSame
import Derived.Carry
import Derived.ProofKit
import Derived.OpenShut
import Derived.LaidMore
import Derived.Stop.Joined
import Derived.Test.YtapgcadffghljaaDoorRows
section
namespace Go.Proofs.YtapgcadffghljaaDoor
open Go Go.Proofs Go.ChangeShapes Go.WideShapes Go.ChangeAt Go.WideElems Go.RowKit Go.Deep
set_option linter.unusedVariables false
set_option maxRecDepth 100000
section
variable {H : Type} {enc : TypeId × Value → H} {w : World} {base : Nat} {held : Bool}
theorem bounds_u8 {n : Int} (h : (Lit.int .u8 n).wf = true) : 0 ≤ n ∧ n < 256 := by
  simp [Lit.wf] at h
  have e0 : IntKind.u8.min = 0 := by kernel_rfl
  have e1 : IntKind.u8.max = 255 := by kernel_rfl
  omega
theorem byte_of {n : Int} (h : 0 ≤ n ∧ n < 256) : ∃ x : UInt8, n = (x.toNat : Int) := by
  refine ⟨UInt8.ofNat n.toNat, ?_⟩
  rw [UInt8.toNat_ofNat', Nat.mod_eq_of_lt (by omega)]; omega
theorem open_ref {fuel : Nat} {cs : List Value} {x : DataW H × List MemPlace} (h : DataW.trod enc Tryd.prog w base (fun _ => true) held fuel 25 cs = some x) : ∃ i g : Int, inI i ∧ cs = [.int .i64 i, .int .u64 g] := by
  obtain ⟨xs, n, _, _, hlen, hxl, hf⟩ := DataW.trod_struct Tryd.underlying25 h
  have h8 : Tryd.prog.cellsOf 25 = 2 := by kernel_rfl
  have h3 : Tryd.prog.cellsOf 3 = 1 := by kernel_rfl
  have h9 : Tryd.prog.cellsOf 23 = 1 := by kernel_rfl
  rw [h8] at hlen
  match cs, hlen with
  | [c0, c1], _ =>
    match xs, hxl with
    | [y0, y1], _ =>
      have g0 := hf 0 _ rfl
      have g1 := hf 1 _ rfl
      simp [h9, h3] at g0 g1
      obtain ⟨A, e0, _, w0⟩ := DataW.trod_int Tryd.underlying3 g0
      obtain ⟨B, e1, _, w1⟩ := DataW.trod_int Tryd.underlying23 g1
      simp only [List.cons.injEq, and_true] at e0 e1
      subst e0 e1
      have hb := bounds_i64 w0
      exact ⟨A, B, ⟨by omega, by omega⟩, rfl⟩
theorem open_regs {fuel : Nat} {cs : List Value} {x : DataW H × List MemPlace} (h : DataW.trod enc Tryd.prog w base (fun _ => true) held fuel 26 cs = some x) :
    ∃ r : Nat → Int, (∀ i, 0 ≤ r i) ∧ (∀ i, r i < 18446744073709551616) ∧ cs = [.int .u64 (r 0), .int .u64 (r 1), .int .u64 (r 2), .int .u64 (r 3), .int .u64 (r 4), .int .u64 (r 5), .int .u64 (r 6), .int .u64 (r 7)] := by
  obtain ⟨xs, n, _, _, hlen, hxl, hf⟩ := DataW.trod_array Tryd.underlying26 h
  have h8 : Tryd.prog.cellsOf 26 = 8 := by kernel_rfl
  have h1 : Tryd.prog.cellsOf 23 = 1 := by kernel_rfl
  rw [h8] at hlen
  rw [h1] at hf
  have each : ∀ i, i < 8 → ∃ n : Int, (0 ≤ n ∧ n < 18446744073709551616) ∧ cs[i]? = some (.int .u64 n) := fun i hi => by
    have hx : ∃ y, xs[i]? = some y := ⟨_, List.getElem?_eq_getElem (by omega)⟩
    obtain ⟨y, hy⟩ := hx
    have := hf i hi
    rw [hy] at this
    obtain ⟨n, e, _, wn⟩ := DataW.trod_int Tryd.underlying23 this
    refine ⟨n, by have := bounds_u64 wn; omega, ?_⟩
    have e2 := congrArg (·[0]?) e
    simp [List.getElem?_drop] at e2
    exact e2
  refine ⟨fun i => if h : i < 8 then (each i h).choose else 0, fun i => ?_, fun i => ?_, ?_⟩
  · dsimp only; split
    · rename_i h; exact (each i h).choose_spec.1.1
    · omega
  · dsimp only; split
    · rename_i h; exact (each i h).choose_spec.1.2
    · omega
  · apply List.ext_getElem?
    intro i
    by_cases hi : i < 8
    · have hc := (each i hi).choose_spec.2
      rw [hc]
      have : i = 0 ∨ i = 1 ∨ i = 2 ∨ i = 3 ∨ i = 4 ∨ i = 5 ∨ i = 6 ∨ i = 7 := by omega
      rcases this with rfl | rfl | rfl | rfl | rfl | rfl | rfl | rfl <;> rfl
    · rw [List.getElem?_eq_none (by omega), List.getElem?_eq_none (by simp; omega)]
theorem open_gc {fuel : Nat} {cs : List Value} {x : DataW H × List MemPlace} (h : DataW.trod enc Tryd.prog w base (fun _ => true) held fuel 29 cs = some x) : ∃ g : Gr, 0 ≤ g.un ∧ inI g.st ∧ cs = g.arr.toList := by
  obtain ⟨xs, n, _, _, hlen, hxl, hf⟩ := DataW.trod_struct Tryd.underlying29 h
  have h8 : Tryd.prog.cellsOf 29 = 19 := by kernel_rfl
  have h23 : Tryd.prog.cellsOf 22 = 1 := by kernel_rfl
  have h4 : Tryd.prog.cellsOf 4 = 1 := by kernel_rfl
  have h26 : Tryd.prog.cellsOf 25 = 2 := by kernel_rfl
  have h5 : Tryd.prog.cellsOf 5 = 1 := by kernel_rfl
  have h3 : Tryd.prog.cellsOf 3 = 1 := by kernel_rfl
  have h27 : Tryd.prog.cellsOf 26 = 8 := by kernel_rfl
  have h28 : Tryd.prog.cellsOf 27 = 1 := by kernel_rfl
  have h24 : Tryd.prog.cellsOf 23 = 1 := by kernel_rfl
  rw [h8] at hlen
  match cs, hlen with
  | [c0, c1, c2, c3, c4, c5, c6, c7, c8, c9, c10, c11, c12, c13, c14, c15, c16, c17, c18], _ =>
    match xs, hxl with
    | [y0, y1, y2, y3, y4, y5, y6, y7, y8, y9], _ =>
      have g0 := hf 0 _ rfl
      have g1 := hf 1 _ rfl
      have g2 := hf 2 _ rfl
      have g3 := hf 3 _ rfl
      have g4 := hf 4 _ rfl
      have g5 := hf 5 _ rfl
      have g6 := hf 6 _ rfl
      have g7 := hf 7 _ rfl
      have g8 := hf 8 _ rfl
      have g9 := hf 9 _ rfl
      simp [h23, h4, h26, h5, h3, h27, h28, h24] at g0 g1 g2 g3 g4 g5 g6 g7 g8 g9
      obtain ⟨st, e0, _, w0⟩ := DataW.trod_int Tryd.underlying22 g0
      obtain ⟨su, e1, _⟩ := DataW.trod_bool Tryd.underlying4 g1
      obtain ⟨d0, d1, _, e2⟩ := open_ref g2
      obtain ⟨cc0, cc1, _, e3⟩ := open_ref g3
      obtain ⟨af, e4, _, w4⟩ := DataW.trod_int Tryd.underlying5 g4
      obtain ⟨pg, e5, _, w5⟩ := DataW.trod_int Tryd.underlying3 g5
      obtain ⟨pc, e6, _, w6⟩ := DataW.trod_int Tryd.underlying3 g6
      obtain ⟨r, r0, r1, e7⟩ := open_regs g7
      obtain ⟨cd, e8, _, w8⟩ := DataW.trod_int Tryd.underlying27 g8
      obtain ⟨un, e9, _, w9⟩ := DataW.trod_int Tryd.underlying23 g9
      simp only [List.cons.injEq, and_true] at e0 e1 e2 e3 e4 e5 e6 e7 e8 e9
      obtain ⟨rfl, rfl⟩ := e2
      obtain ⟨rfl, rfl⟩ := e3
      obtain ⟨rfl, rfl, rfl, rfl, rfl, rfl, rfl, rfl⟩ := e7
      subst e0 e1 e4 e5 e6 e8 e9
      obtain ⟨ab, rfl⟩ := byte_of (bounds_u8 w4)
      have hst := bounds_i64 w0
      have hun := bounds_u64 w9
      exact ⟨⟨st, su, d0, d1, cc0, cc1, ab, pg, pc, r, cd, un⟩, by show 0 ≤ un; omega, ⟨by show _ ≤ st; omega, by show st ≤ _; omega⟩, rfl⟩
theorem open_g {v : Value} {d : DataW H} {ps : List MemPlace} {r : Reach} {b0 : Nat} (hv : Value.okWide Tryd.prog w r b0 29 v) (h : DataW.Trod enc Tryd.prog w base (fun _ => true) held 29 v d ps) : ∃ g : Gr, 0 ≤ g.un ∧ inI g.st ∧ v = g.val := by
  obtain ⟨cs, rfl, _⟩ := okWide_struct Tryd.underlying29 hv
  obtain ⟨fuel, hf⟩ := h
  obtain ⟨g, h0, h1, e⟩ := open_gc hf
  refine ⟨g, h0, h1, ?_⟩
  simp only [Value.cells] at e
  rw [Array.toList_inj] at e
  rw [e]
end
theorem gNames : Tryd.prog.globalNamed "helmsman/gtable.names" = some 0 := by kernel_rfl
theorem tNames : (Tryd.prog.globals[0]?).map (·.type) = some 42 := by kernel_rfl
abbrev laidL : List (String × DataW Unit) := [("helmsman/gtable.names", Rows.laid_helmsman_gtable_names)]
theorem laid_rows : (Rows.laid_helmsman_gtable_names : DataW Unit) = .agg ((List.range 7).map fun n => .lit (.string (nameAt n))) := rfl
/-- The door's own heap meets the condition. -/
theorem door_met (os : Os) (args : Array Value) : laidMetH Tryd.prog laidL ((World.doorLaid Tryd.prog 400 os).forCall (fun _ _ => 0) ⟨#[], args, []⟩).memory :=
  laidMetH_of_parts3 (fuel := 8) (laidMet_of_run' 8 (by kernel_rfl) (by kernel_rfl)) (by kernel_rfl) (by kernel_rfl)
/-- What the condition gives: the array's cells. -/
theorem of_laid {W : World} (h : laidMetH Tryd.prog laidL W) : TabNames W := by
  rw [MakeChecks.laidMetH_plain _ _ _ (by kernel_rfl)] at h
  obtain ⟨ps, ⟨g0, t0, cs0, f0, p0, q0, hg0, ht0, hv0, hd0, _, _⟩, _, _⟩ := h
  obtain rfl := Option.some.inj (gNames.symm.trans hg0)
  obtain rfl := Option.some.inj (tNames.symm.trans ht0)
  have hcell := fun i => World.var?_cell hg0 hv0 i
  rw [laid_rows] at hd0
  obtain ⟨xs, m1, rfl, hx1, hlen, hn, hel⟩ := DataW.trod_array Tryd.underlying42 hd0
  have c9 : Tryd.prog.cellsOf 9 = 1 := by kernel_rfl
  have c42 : Tryd.prog.cellsOf 42 = 7 := by kernel_rfl
  simp only [Prod.mk.injEq, DataW.agg.injEq] at hx1
  rw [c42] at hlen
  have each : ∀ n : Nat, n < 7 → W.cell? ⟨0, n, none⟩ = some (.string ⟨(nameAt n).toArray⟩) := by
    intro n hn7
    have h1 := hel n hn7
    rw [c9, List.getElem?_eq_getElem (by omega)] at h1
    have hd : xs[n].1 = .lit (.string (nameAt n)) := by
      have := congrArg (fun l => l[n]?) hx1.1
      simp [List.getElem?_map, hn7, List.getElem?_eq_getElem (show n < xs.length by omega)] at this
      exact this.symm
    obtain ⟨s, e0, z0, _⟩ := DataW.trod_string Tryd.underlying9 h1
    rw [z0] at hd
    have q0 := congrArg (fun l => l[0]?) e0
    simp [List.getElem?_drop] at q0
    simp only [DataW.lit.injEq, Lit.string.injEq] at hd
    have hs : s = ⟨(nameAt n).toArray⟩ := by rw [← hd]
    rw [hcell, q0, hs]
  refine ⟨?_, each⟩
  have := each 0 (by omega)
  exact World.block_lt_of_cell? W _ this
section
variable {H : Type} {enc : TypeId × Value → H} {P : Program}
theorem post_of_below {f : Func} {s : ChangeSpec} {apart fresh handsOn again : Bool} {W W' : World} {args : Array Value} {v : Value} {ds gs : List (DataW H)} {before pa pv : List MemPlace}
    (hW : DataW.Whole enc P f.params.toList s.vars apart W args.toList ds gs before)
    (hres : ∀ (b : Nat) (sp : Nat → Bool) (hd : Bool), DataW.TrodAll enc P W' b sp hd f.resultTypes.toList (v.resultList f.resultTypes.size) (s.fn H (ds ++ gs)).results [])
    (hargs : ∀ sp : Nat → Bool, (∀ p ∈ before, sp p.block = true) → DataW.TrodAll enc P W' 0 sp true f.params.toList args.toList (s.fn H (ds ++ gs)).args pa)
    (hvars : ∀ sp : Nat → Bool, (∀ p ∈ before, sp p.block = true) → DataW.TrodVars enc P W' sp s.vars (s.fn H (ds ++ gs)).vars pv)
    (hps : before = pa ++ pv) (hb : Below W.heap.size W W')
    (hok : ∀ (j : Nat) (t : TypeId) (r : Value), f.resultTypes[j]? = some t → (v.resultList f.resultTypes.size)[j]? = some r → Value.okWide P W' .any 0 t r) :
    s.post enc P f apart fresh handsOn again W args v W' := by
  have hlt : ∀ p ∈ before, p.block < W.heap.size := fun p hp => hW.lt p hp
  have hold : ∀ p ∈ before, (fun b => decide (b < W.heap.size)) p.block = true := fun p hp => by simpa using hlt p hp
  refine ⟨ds, gs, before, [], pa, pv, hW, hres _ _ _, hargs _ hold, hvars _ hold, World.keptBut_mono (fun p hp => ⟨hp, ?_⟩) (hb.frame (· ∈ before)), fun _ => ?_⟩
  · rw [hps, List.mem_append] at hp
    exact Or.inr hp
  · obtain ⟨_, _, _, _, _, hz, hn⟩ := hW
    refine ⟨hok, _, _, ([] ++ pa) ++ pv, ⟨[] ++ pa, pv, trodAll_append (hargs _ (fun _ _ => rfl)) (hres _ _ _), hvars _ (fun _ _ => rfl), rfl, ?_, ?_⟩, ?_⟩
    · intro b off hp
      have hin : MemPlace.cell b off ∈ before := by rw [hps]; simpa using hp
      rw [hb.frozen (hlt _ hin)]
      exact hz b off hin
    · intro ha
      have := hn ha
      rw [hps] at this
      simpa using this
    · intro p hp _
      rw [hps]
      simpa using hp
end
theorem Tryd.laidOut : laidOutB Tryd.prog = true := by kernel_rfl
end Go.Proofs.YtapgcadffghljaaDoor
end
