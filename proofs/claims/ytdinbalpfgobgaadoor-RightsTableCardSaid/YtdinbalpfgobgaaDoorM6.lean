import Derived.Test.YtdinbalpfgobgaaDoorM2
import Derived.Test.YtdinbalpfgobgaaDoorM5
import Derived.Deep.Slices
import Derived.ChangeSame
import Derived.Carry
import Derived.ProofKit
import Derived.OpenShut
import Derived.LaidMore
import Derived.Stop.Joined
import Derived.Test.YtdinbalpfgobgaaDoorRows
section
namespace Go.Proofs.YtdinbalpfgobgaaDoor
open Go Go.Proofs Go.ChangeShapes Go.WideShapes Go.ChangeAt Go.WideElems Go.RowKit
set_option linter.unusedVariables false
set_option maxRecDepth 100000

theorem gCalls : Tryd.prog.globalNamed "helmsman/rights.calls" = some 0 := by kernel_rfl
theorem tCalls : (Tryd.prog.globals[0]?).map (·.type) = some 50 := by kernel_rfl
abbrev laidL : List (String × DataW Unit) := [("helmsman/rights.calls", Rows.laid_helmsman_rights_calls)]
theorem laid_rows : (Rows.laid_helmsman_rights_calls : DataW Unit) = .agg ((List.range 23).map fun n => .agg [.lit (.string (rowAt n).name), .lit (.int .i64 (rowAt n).args)]) := rfl
/-- The door's own heap meets the condition. -/
theorem door_met (os : Os) (args : Array Value) : laidMetH Tryd.prog laidL ((World.doorLaid Tryd.prog 400 os).forCall (fun _ _ => 0) ⟨#[], args, []⟩).memory :=
  laidMetH_of_parts3 (fuel := 8) (laidMet_of_run' 8 (by kernel_rfl) (by kernel_rfl)) (by kernel_rfl) (by kernel_rfl)
/-- What the condition gives: the array's cells. -/
theorem of_laid {W : World} (h : laidMetH Tryd.prog laidL W) : TabAt W := by
  rw [MakeChecks.laidMetH_plain _ _ _ (by kernel_rfl)] at h
  obtain ⟨ps, ⟨g0, t0, cs0, f0, p0, q0, hg0, ht0, hv0, hd0, _, _⟩, _, _⟩ := h
  obtain rfl := Option.some.inj (gCalls.symm.trans hg0)
  obtain rfl := Option.some.inj (tCalls.symm.trans ht0)
  have hcell := fun i => World.var?_cell hg0 hv0 i
  rw [laid_rows] at hd0
  obtain ⟨xs, m1, rfl, hx1, hlen, hn, hel⟩ := DataW.trod_array Tryd.underlying50 hd0
  have c45 : Tryd.prog.cellsOf 45 = 2 := by kernel_rfl
  have c9 : Tryd.prog.cellsOf 9 = 1 := by kernel_rfl
  have c3 : Tryd.prog.cellsOf 3 = 1 := by kernel_rfl
  have c50 : Tryd.prog.cellsOf 50 = 46 := by kernel_rfl
  simp only [Prod.mk.injEq, DataW.agg.injEq] at hx1
  rw [c50] at hlen
  have each : ∀ n : Nat, n < 23 → W.cell? ⟨0, n * 2, none⟩ = some (.string ⟨(rowAt n).name.toArray⟩) ∧ W.cell? ⟨0, n * 2 + 1, none⟩ = some (.int .i64 (rowAt n).args) := by
    intro n hn23
    have h1 := hel n hn23
    rw [c45, List.getElem?_eq_getElem (by omega)] at h1
    have hd : xs[n].1 = .agg [.lit (.string (rowAt n).name), .lit (.int .i64 (rowAt n).args)] := by
      have := congrArg (fun l => l[n]?) hx1.1
      simp [List.getElem?_map, hn23, List.getElem?_eq_getElem (show n < xs.length by omega)] at this
      exact this.symm
    obtain ⟨ys, m2, rfl, hy, hl2, hyl, hf⟩ := DataW.trod_struct Tryd.underlying45 h1
    rw [hy] at hd
    simp only [DataW.agg.injEq] at hd
    rw [c45] at hl2
    match ys, hyl with
    | [y0, y1], _ =>
      have g0 := hf 0 _ rfl
      have g1 := hf 1 _ rfl
      simp [c9, c3] at g0 g1
      obtain ⟨s, e0, z0, _⟩ := DataW.trod_string Tryd.underlying9 g0
      obtain ⟨k, e1, z1, _⟩ := DataW.trod_int Tryd.underlying3 g1
      simp only [List.map_cons, List.map_nil, List.cons.injEq, and_true] at hd
      rw [z0, z1] at hd
      have q0 := congrArg (fun l => l[0]?) e0
      have q1 := congrArg (fun l => l[0]?) e1
      simp [List.getElem?_drop] at q0 q1
      obtain ⟨d0, d1⟩ := hd
      simp only [DataW.lit.injEq, Lit.string.injEq, Lit.int.injEq, true_and] at d0 d1
      have hs : s = ⟨(rowAt n).name.toArray⟩ := by rw [← d0]
      subst d1
      exact ⟨by rw [hcell, q0, hs], by rw [hcell, q1]⟩
  refine ⟨?_, each⟩
  have := (each 0 (by omega)).1
  exact World.block_lt_of_cell? W _ this
section
variable {H : Type} {enc : TypeId × Value → H} {P : Program}
theorem post_of_below {f : Func} {s : ChangeSpec} {apart fresh handsOn again : Bool} {W W' : World} {args : Array Value} {v : Value} {ds gs : List (DataW H)} {before pa pv : List MemPlace}
    (hW : DataW.Whole enc P f.params.toList s.vars apart W args.toList ds gs before)
    (hres : ∀ (b : Nat) (sp : Nat → Bool) (hd : Bool), DataW.TrodAll enc P W' b sp hd f.resultTypes.toList (v.resultList f.resultTypes.size) (s.fn H (ds ++ gs)).results [])
    (hargs : ∀ sp : Nat → Bool, (∀ p ∈ before, sp p.block = true) → DataW.TrodAll enc P W' 0 sp true f.params.toList args.toList (s.fn H (ds ++ gs)).args pa)
    (hvars : ∀ sp : Nat → Bool, (∀ p ∈ before, sp p.block = true) → DataW.TrodVars enc P W' sp s.vars (s.fn H (ds ++ gs)).vars pv)
    (hps : before = pa ++ pv) (hb : Below W.heap.size W W')
    (hok : ∀ (j : Nat) (t : TypeId) (r : Value), f.resultTypes[j]? = some t → (v.resultList f.resultTypes.size)[j]? = some r → Value.okWide P W' .any 0 t r) :
    s.post enc P f apart fresh handsOn again W args v W' := by
  have hlt : ∀ p ∈ before, p.block < W.heap.size := fun p hp => hW.lt p hp
  have hold : ∀ p ∈ before, (fun b => decide (b < W.heap.size)) p.block = true := fun p hp => by simpa using hlt p hp
  refine ⟨ds, gs, before, [], pa, pv, hW, hres _ _ _, hargs _ hold, hvars _ hold, World.keptBut_mono (fun p hp => ⟨hp, ?_⟩) (hb.frame (· ∈ before)), fun _ => ?_⟩
  · rw [hps, List.mem_append] at hp
    exact Or.inr hp
  · obtain ⟨_, _, _, _, _, hz, hn⟩ := hW
    refine ⟨hok, _, _, ([] ++ pa) ++ pv, ⟨[] ++ pa, pv, trodAll_append (hargs _ (fun _ _ => rfl)) (hres _ _ _), hvars _ (fun _ _ => rfl), rfl, ?_, ?_⟩, ?_⟩
    · intro b off hp
      have hin : MemPlace.cell b off ∈ before := by rw [hps]; simpa using hp
      rw [hb.frozen (hlt _ hin)]
      exact hz b off hin
    · intro ha
      have := hn ha
      rw [hps] at this
      simpa using this
    · intro p hp _
      rw [hps]
      simpa using hp
end
theorem Tryd.laidOut : laidOutB Tryd.prog = true := by kernel_rfl
theorem names_str (s : ByteArray) (w : World) (h : TabAt w) : Calls Tryd.prog 4 #[.string s] w fun e w' => e = .returned (.bool true) ∧ Below w.heap.size w w' := by
  rw [show s = ⟨s.data.toList.toArray⟩ by cases s; simp]
  exact names_law _ w h
end Go.Proofs.YtdinbalpfgobgaaDoor
end
