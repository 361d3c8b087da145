import Derived.Test.YteghakaflpgjgaaDoorM13
import Derived.Deep.Slices
import Derived.ChangeSame
import Derived.Carry
import Derived.ProofKit
import Derived.OpenShut
import Derived.LaidMore
import Derived.Lib.LaidTab
import Derived.Shelf.Vars
import Derived.SizedLaws
import Derived.Stop.Joined
import Derived.Test.YteghakaflpgjgaaDoorRows
section
namespace Go.Proofs.YteghakaflpgjgaaDoor
open Go Go.Proofs Go.ChangeShapes Go.WideShapes Go.ChangeAt Go.WideElems Go.RowKit Go.Deep
set_option linter.unusedVariables false
set_option maxRecDepth 100000

/-! ### A contract that is handed what the row lays, and the world's shape -/
section
variable {H : Type} {enc : TypeId × Value → H}
theorem returns_laid_shaped {a : Assume} {C : Checked} {os : Os} {f : FuncId} {fn : Func} {s : ChangeSpec} {conds : List PathCond} {apart fresh handsOn again : Bool} {X : World → Array Value → Prop}
    (hX : ∀ (w w' : World) (args : Array Value), w.heap = w'.heap → X w args → X w' args)
    (own : ownKnob C.prog.godebug = none) (started : os.Started) (noInit : C.prog.inits.idxOf? f = none) (hfn : C.prog.funcs[f]? = some fn)
    (witness : ∃ (w : World) (tape : Tape) (i : Input), w.os = os ∧ (w.forCall tape i).Shaped C.prog ∧ i.vars = [] ∧ Input.okWide C.prog (w.forCall tape i) .any w.heap.size f i ∧
      ((s.pre enc C.prog fn conds apart (w.forCall tape i).memory i.args ∧ X (w.forCall tape i).memory i.args) ∧ sizedMet enc C.prog fn (OpenSpec.ofChange s) apart (w.forCall tape i).memory i.args) ∧ a.holds C.prog (lone (Frame.enter C.prog f i.args .normal) [] (w.forCall tape i)))
    (contract : ∀ (W : World) (base : Nat) (args : Array Value) (ds gs : List (DataW H)) (before : List MemPlace),
      (∀ (j : Nat) t v, fn.params[j]? = some t → args[j]? = some v → Value.okWide C.prog W .any base t v) →
      DataW.Whole enc C.prog fn.params.toList s.vars apart W args.toList ds gs before → X W args → W.ShapedOpen C.prog →
      Calls C.prog f args W fun e W' => ∃ v, e = .returned v ∧ s.post enc C.prog fn apart fresh handsOn again W args v W') :
    ReturnsInHanded a C os f .any (fun w args => (s.pre enc C.prog fn conds apart w args ∧ X w args) ∧ sizedMet enc C.prog fn (OpenSpec.ofChange s) apart w args) (s.post enc C.prog fn apart fresh handsOn again) := by
  refine returnsInHanded_of_calls own started noInit witness ?_
  intro w tape i _ hsh _ hok hpre hholds
  obtain ⟨_, _, _, fn', hfn', _, _, _, _, hval⟩ := hok
  have e : fn' = fn := Option.some.inj (hfn'.symm.trans hfn)
  subst e
  obtain ⟨⟨⟨ds, gs, before, hw, hc⟩, hx⟩, hz⟩ := hpre
  have hw' := DataW.Whole.of_heap (w' := w.forCall tape i) (by rfl) hw
  refine (contract (w.forCall tape i) w.heap.size i.args ds gs before hval hw' (hX _ _ _ (by rfl) hx) hsh).mono fun e W' ⟨v, he, hp⟩ => ?_
  subst he
  exact ChangeSpec.post_blind hp
end

/-! ### What the row lays -/
theorem gMax : Tryd.prog.globalNamed "internal/bytealg.MaxLen" = some 0 := by kernel_rfl
theorem gPow : Tryd.prog.globalNamed "internal/strconv.uint64pow10" = some 1 := by kernel_rfl
theorem tPow : (Tryd.prog.globals[1]?).map (·.type) = some 119 := by kernel_rfl
theorem gSyn : Tryd.prog.globalNamed "strconv.ErrSyntax" = some 2 := by kernel_rfl
theorem tSyn : (Tryd.prog.globals[2]?).map (·.type) = some 59 := by kernel_rfl
theorem gRng : Tryd.prog.globalNamed "strconv.ErrRange" = some 3 := by kernel_rfl
theorem tRng : (Tryd.prog.globals[3]?).map (·.type) = some 59 := by kernel_rfl
abbrev laidS : List (String × DataW Unit) := [("math/bits.deBruijn32tab", Rows.laid_math_bits_deBruijn32tab), ("math/bits.deBruijn64tab", Rows.laid_math_bits_deBruijn64tab), ("internal/strconv.uint64pow10", Rows.laid_internal_strconv_uint64pow10)]
abbrev laidL : List (String × DataW Unit) := [("math/bits.deBruijn32tab", Rows.laid_math_bits_deBruijn32tab), ("math/bits.deBruijn64tab", Rows.laid_math_bits_deBruijn64tab), ("internal/strconv.uint64pow10", Rows.laid_internal_strconv_uint64pow10), ("strconv.ErrRange", Rows.laid_strconv_ErrRange), ("strconv.ErrSyntax", Rows.laid_strconv_ErrSyntax)]
theorem pow_rows : (Rows.laid_internal_strconv_uint64pow10 : DataW Unit) = Lib.tabData .u64 Lib.pow10Tab := rfl
/-- The door's own heap meets the condition. -/
theorem door_metS (os : Os) (args : Array Value) : laidMetH Tryd.prog laidS ((World.doorLaid Tryd.prog 400 os).forCall (fun _ _ => 0) ⟨#[], args, []⟩).memory :=
  laidMetH_of_parts3 (fuel := 8) (laidMet_of_run' 8 (by kernel_rfl) (by kernel_rfl)) (by kernel_rfl) (by kernel_rfl)
theorem door_metL (os : Os) (args : Array Value) : laidMetH Tryd.prog laidL ((World.doorLaid Tryd.prog 400 os).forCall (fun _ _ => 0) ⟨#[], args, []⟩).memory :=
  laidMetH_of_parts3 (fuel := 8) (laidMet_of_run' 8 (by kernel_rfl) (by kernel_rfl)) (by kernel_rfl) (by kernel_rfl)
theorem vars_tail {P : Program} {w : World} {n : String} {d : DataW Unit} {l : List (String × DataW Unit)} {ps : List MemPlace} (h : DataW.LaidVars P w ((n, d) :: l) ps) : ∃ q, DataW.LaidVars P w l q := by
  obtain ⟨g, t, cs, f, p, q, _, _, _, _, h1, _⟩ := h
  exact ⟨q, h1⟩
theorem pow_of {w : World} {l : List (String × DataW Unit)} {ps : List MemPlace} (h : DataW.LaidVars Tryd.prog w (("internal/strconv.uint64pow10", Rows.laid_internal_strconv_uint64pow10) :: l) ps) : Ta w := by
  obtain ⟨g, t, cs, f, p, q, hg, ht, hv, hd, _, _⟩ := h
  obtain rfl := Option.some.inj (gPow.symm.trans hg)
  obtain rfl := Option.some.inj (tPow.symm.trans ht)
  rw [pow_rows] at hd
  unfold Ta Lib.TabIs
  rw [hv, ← Lib.cells_of_tab Tryd.underlying119 Tryd.underlying95 (by kernel_rfl) (by kernel_rfl) hd]
/-- A cell that reads as an error holds one. -/
theorem iface_of_trod {P : Program} {w : World} {base : Nat} {sp : Nat → Bool} {fuel : Nat} {t : TypeId} {ms : Array (String × TypeId)} {cs : List Value} {nm : String} {d : DataW Unit} {p : List MemPlace} (hi : ∃ m, P.underlying t = some (.interface m))
    (h : DataW.trod (fun _ => ()) P w base sp false fuel t cs = some (.iface nm d, p)) : ∃ te pe, cs = [.iface te pe] := by
  obtain ⟨m, hm⟩ := hi
  cases fuel with
  | zero => simp [DataW.trod] at h
  | succ n =>
    simp only [DataW.trod, hm] at h
    split at h <;> first | exact ⟨_, _, rfl⟩ | simp_all
theorem err_of {w : World} {name nm : String} {d : DataW Unit} {g : Nat} {l : List (String × DataW Unit)} {ps : List MemPlace} (hg : Tryd.prog.globalNamed name = some g) (ht : (Tryd.prog.globals[g]?).map (·.type) = some 59)
    (h : DataW.LaidVars Tryd.prog w ((name, .iface nm d) :: l) ps) : ∃ te pe, w.cell? ⟨g, 0, none⟩ = some (.iface te pe) := by
  obtain ⟨g', t, cs, f, p, q, hg', ht', hv, hd, _, _⟩ := h
  obtain rfl := Option.some.inj (hg.symm.trans hg')
  obtain rfl := Option.some.inj (ht.symm.trans ht')
  obtain ⟨te, pe, e⟩ := iface_of_trod (ms := #[]) ⟨_, Tryd.underlying59⟩ hd
  refine ⟨te, pe, ?_⟩
  rw [World.var?_cell hg hv 0]
  have := congrArg (·[0]?) e
  simpa using this
theorem of_laidS {W : World} (h : laidMetH Tryd.prog laidS W) : Ta W := by
  rw [MakeChecks.laidMetH_plain _ _ _ (by kernel_rfl)] at h
  obtain ⟨ps, h1, _⟩ := h
  obtain ⟨_, h2⟩ := vars_tail h1
  obtain ⟨_, h3⟩ := vars_tail h2
  exact pow_of h3
theorem of_laidL {W : World} (h : laidMetH Tryd.prog laidL W) (hs : W.ShapedOpen Tryd.prog) : Ld W := by
  rw [MakeChecks.laidMetH_plain _ _ _ (by kernel_rfl)] at h
  obtain ⟨ps, h1, _⟩ := h
  obtain ⟨_, h2⟩ := vars_tail h1
  obtain ⟨_, h3⟩ := vars_tail h2
  obtain ⟨_, h4⟩ := vars_tail h3
  obtain ⟨_, h5⟩ := vars_tail h4
  exact ⟨pow_of h3, err_of gSyn tSyn h5, err_of gRng tRng h4, cell_of_shapedOpen_int (t := 3) (zero := #[.int .i64 0]) hs (of_decide_eq_true (by kernel_rfl)) (by kernel_rfl) rfl (by kernel_rfl) (by kernel_rfl) Tryd.underlying3⟩

/-! ### What came in -/
section
variable {H : Type} {enc : TypeId × Value → H} {w : World} {base : Nat} {held : Bool}
theorem bounds_u8 {n : Int} (h : (Lit.int .u8 n).wf = true) : 0 ≤ n ∧ n < 256 := by
  simp [Lit.wf] at h
  have e0 : IntKind.u8.min = 0 := by kernel_rfl
  have e1 : IntKind.u8.max = 255 := by kernel_rfl
  omega
theorem byte_of {n : Int} (h : 0 ≤ n ∧ n < 256) : ∃ x : UInt8, n = (x.toNat : Int) := by
  refine ⟨UInt8.ofNat n.toNat, ?_⟩
  rw [UInt8.toNat_ofNat', Nat.mod_eq_of_lt (by omega)]; omega
theorem spot_none {W : World} {a : Addr} {u : Value} (h : W.cell? ((a.add 0).add 0) = some u) : a.spot = none ∧ a.block < W.heap.size := by
  have e0 : (a.add 0).add 0 = a := by unfold Addr.add; simp
  rw [e0] at h
  refine ⟨?_, World.block_lt_of_cell? W _ h⟩
  unfold World.cell? at h
  split at h
  · split at h
    · cases h
    · rename_i hns; simpa using hns
  · cases h
theorem bys_get {l : List UInt8} {k : Nat} {u : Value} (h : (bys l)[k]? = some u) : ∃ x, l[k]? = some x ∧ u = .int .u8 x.toNat := by
  simp only [bys, Lib.byteCells, List.getElem?_map, Option.map_eq_some_iff] at h
  obtain ⟨x, hx, rfl⟩ := h
  exact ⟨x, hx, rfl⟩
/-- Bytes that came in. -/
theorem open_by {fuel : Nat} {cs : List Value} {x : DataW H × List MemPlace} (h : DataW.trod enc Tryd.prog w base (fun _ => true) held fuel 22 cs = some x) : ∃ V l, cs = [V] ∧ By w V l := by
  rcases open_slice1 Tryd.underlying22 (by kernel_rfl) h with ⟨rfl, _⟩ | ⟨a, len, cap, m, n, V, D, Pl, rfl, hb, hl, hm, hmm, hx, hi⟩
  · exact ⟨_, [], rfl, By.nil w⟩
  · have hml : len ≤ m := by rw [hmm]; simpa using hl
    have each : ∀ i, i < m → ∃ x : UInt8, w.cell? (a.add i) = some (.int .u8 x.toNat) := fun i him => by
      obtain ⟨hc, ht⟩ := hi i him
      obtain ⟨y, e, _, w0⟩ := DataW.trod_int Tryd.underlying5 ht
      simp only [List.cons.injEq, and_true] at e
      rw [e] at hc
      obtain ⟨z, hz⟩ := byte_of (bounds_u8 w0)
      exact ⟨z, by rw [hc, hz]⟩
    refine ⟨_, (List.range len).map (fun i => if h : i < m then (each i h).choose else 0), rfl, ⟨some a, cap, by simp, by simpa using hl, hm, fun k u hk => ?_⟩⟩
    obtain ⟨y, hy, rfl⟩ := bys_get hk
    rw [List.getElem?_map, Option.map_eq_some_iff] at hy
    obtain ⟨k', hk', rfl⟩ := hy
    obtain ⟨hk1, rfl⟩ := List.getElem?_eq_some_iff.1 hk'
    simp only [List.length_range] at hk1
    obtain ⟨hsp, hbl⟩ : a.spot = none ∧ a.block < w.heap.size := by
      obtain ⟨x, hc⟩ := each 0 (by omega)
      refine spot_none (u := .int .u8 x.toNat) ?_
      have e0 : (a.add 0).add 0 = a.add 0 := by unfold Addr.add; simp
      rw [e0]
      exact hc
    obtain ⟨b, off, sp⟩ := a
    simp only at hsp hbl
    subst hsp
    have hadd : ∀ i, (⟨b, off, none⟩ : Addr).add i = ⟨b, off + i, none⟩ := fun i => by
      unfold Addr.add
      by_cases h1 : i = 0 <;> simp [h1]
    rw [List.getElem_range, dif_pos (by omega : k < m)]
    exact ⟨b, off, rfl, hbl, (congrArg w.cell? (hadd k)).symm.trans (each k (by omega)).choose_spec⟩
/-- An instruction that came in. -/
theorem open_ins {fuel : Nat} {cs : List Value} {x : DataW H × List MemPlace} (h : DataW.trod enc Tryd.prog w base (fun _ => true) held fuel 26 cs = some x) : ∃ a : Ins, cs = bys a.bytes := by
  obtain ⟨xs, n, _, _, hlen, hxl, hf⟩ := DataW.trod_struct Tryd.underlying26 h
  have h8 : Tryd.prog.cellsOf 26 = 4 := by kernel_rfl
  have h3 : Tryd.prog.cellsOf 24 = 1 := by kernel_rfl
  have h9 : Tryd.prog.cellsOf 5 = 1 := by kernel_rfl
  rw [h8] at hlen
  match cs, hlen with
  | [c0, c1, c2, c3], _ =>
    match xs, hxl with
    | [y0, y1, y2, y3], _ =>
      have g0 := hf 0 _ rfl
      have g1 := hf 1 _ rfl
      have g2 := hf 2 _ rfl
      have g3 := hf 3 _ rfl
      simp [h9, h3] at g0 g1 g2 g3
      obtain ⟨A, e0, _, w0⟩ := DataW.trod_int Tryd.underlying24 g0
      obtain ⟨B, e1, _, w1⟩ := DataW.trod_int Tryd.underlying5 g1
      obtain ⟨C, e2, _, w2⟩ := DataW.trod_int Tryd.underlying5 g2
      obtain ⟨D, e3, _, w3⟩ := DataW.trod_int Tryd.underlying5 g3
      simp only [List.cons.injEq, and_true] at e0 e1 e2 e3
      subst e0 e1 e2 e3
      obtain ⟨o, rfl⟩ := byte_of (bounds_u8 w0)
      obtain ⟨a, rfl⟩ := byte_of (bounds_u8 w1)
      obtain ⟨b, rfl⟩ := byte_of (bounds_u8 w2)
      obtain ⟨c, rfl⟩ := byte_of (bounds_u8 w3)
      exact ⟨⟨o, a, b, c⟩, rfl⟩
/-- Instructions that came in. -/
theorem open_inss {fuel : Nat} {cs : List Value} {x : DataW H × List MemPlace} (hf : DataW.trod enc Tryd.prog w base (fun _ => true) held fuel 34 cs = some x) : ∃ V l, cs = [V] ∧ Cs w V l.length (bys (flatI l)) := by
  rcases open_slice Tryd.underlying34 hf with ⟨hcs, _⟩ | ⟨a, len, cap, m, n, D, Pl, hcs, hb, hl, hm, hmm, hx, hi⟩
  · exact ⟨_, [], hcs, Cs.nil w⟩
  · have hml : len ≤ m := by rw [hmm]; simp; exact hl
    have hce : Tryd.prog.cellsOf 26 = 4 := by kernel_rfl
    have each : ∀ i, i < m → ∃ y : Ins, ∀ (j : Nat) (u : Value), (bys y.bytes)[j]? = some u → w.cell? ((a.add (i * 4)).add j) = some u := fun i him => by
      obtain ⟨cs', hc, ht⟩ := hi i him
      rw [hce] at hc
      obtain ⟨y, rfl⟩ := open_ins ht
      obtain ⟨_, _, hat⟩ := World.cells?_some hc
      exact ⟨y, fun j u hj => (hat j (by have := (List.getElem?_eq_some_iff.1 hj).1; rw [bys_length] at this; exact this)).trans hj⟩
    refine ⟨_, (List.range len).map (fun i => if h : i < m then (each i h).choose else Ins.zero), hcs, ⟨some a, cap, by simp, by simpa using hl, hm, fun k u hk => ?_⟩⟩
    have hkl : k < 4 * len := by
      have := (List.getElem?_eq_some_iff.1 hk).1
      rw [bys_length, flatI_length] at this
      simpa using this
    obtain ⟨hsp, hbl⟩ : a.spot = none ∧ a.block < w.heap.size := by
      obtain ⟨y, hc⟩ := each 0 (by omega)
      have := hc 0 _ rfl
      rw [Nat.zero_mul] at this
      exact spot_none this
    obtain ⟨b, off, sp⟩ := a
    simp only at hsp hbl
    subst hsp
    have hadd : ∀ i j, ((⟨b, off, none⟩ : Addr).add (i * 4)).add j = ⟨b, off + i * 4 + j, none⟩ := fun i j => by
      unfold Addr.add
      by_cases h1 : i * 4 = 0 <;> by_cases h2 : j = 0 <;> simp [h1, h2] <;> omega
    refine ⟨b, off, rfl, hbl, ?_⟩
    obtain ⟨y, hy⟩ : ∃ y, ((List.range len).map (fun i => if h : i < m then (each i h).choose else Ins.zero))[k / 4]? = some y := ⟨_, List.getElem?_eq_getElem (by simp; omega)⟩
    obtain ⟨f0, f1, f2, f3⟩ := flatI_at hy
    have hyy : ∀ (j : Nat) (u : Value), (bys y.bytes)[j]? = some u → w.cell? ⟨b, off + k / 4 * 4 + j, none⟩ = some u := fun j u hj => by
      rw [List.getElem?_map, Option.map_eq_some_iff] at hy
      obtain ⟨k', hk', rfl⟩ := hy
      obtain ⟨hk1, rfl⟩ := List.getElem?_eq_some_iff.1 hk'
      simp only [List.length_range] at hk1
      rw [List.getElem_range, dif_pos (by omega : k / 4 < m)] at hj
      have := (each (k / 4) (by omega)).choose_spec j u hj
      rw [hadd] at this; exact this
    have h4 : k % 4 = 0 ∨ k % 4 = 1 ∨ k % 4 = 2 ∨ k % 4 = 3 := by omega
    have hkk : ∀ j, k % 4 = j → k = 4 * (k / 4) + j ∧ off + k = off + k / 4 * 4 + j := fun j hj => by omega
    rcases h4 with h4 | h4 | h4 | h4 <;> obtain ⟨e1, e2⟩ := hkk _ h4 <;> rw [e1] at hk <;> rw [e2]
    · rw [Nat.add_zero, bys_at f0] at hk; exact hyy 0 _ hk
    · rw [bys_at f1] at hk; exact hyy 1 _ hk
    · rw [bys_at f2] at hk; exact hyy 2 _ hk
    · rw [bys_at f3] at hk; exact hyy 3 _ hk
theorem open_v {ty el : TypeId} (hty : Tryd.prog.underlying ty = some (.slice el)) {p : Value → Prop} (each : ∀ {fuel : Nat} {cs : List Value} {x : DataW H × List MemPlace}, DataW.trod enc Tryd.prog w 0 (fun _ => true) true fuel ty cs = some x → ∃ V, cs = [V] ∧ p V)
    {v : Value} {d : DataW H} {ps : List MemPlace} {b : Nat} (hv : Value.okWide Tryd.prog w .any b ty v) (h : DataW.Trod enc Tryd.prog w 0 (fun _ => true) true ty v d ps) : p v := by
  obtain ⟨fuel, hf⟩ := h
  obtain ⟨a', len', cap', rfl⟩ := okWide_slice hty hv
  obtain ⟨V, e, hp⟩ := each hf
  simp [Value.cells] at e
  subst e
  exact hp
theorem open_bytes {v : Value} {d : DataW H} {ps : List MemPlace} {b : Nat} (hv : Value.okWide Tryd.prog w .any b 22 v) (h : DataW.Trod enc Tryd.prog w 0 (fun _ => true) true 22 v d ps) : ∃ l, By w v l :=
  open_v (p := fun v => ∃ l, By w v l) Tryd.underlying22 (fun hf => let ⟨V, l, e, h⟩ := open_by hf; ⟨V, e, l, h⟩) hv h
theorem open_instrs {v : Value} {d : DataW H} {ps : List MemPlace} {b : Nat} (hv : Value.okWide Tryd.prog w .any b 34 v) (h : DataW.Trod enc Tryd.prog w 0 (fun _ => true) true 34 v d ps) : ∃ l, Cs w v l.length (bys (flatI l)) :=
  open_v (p := fun v => ∃ l : List Ins, Cs w v l.length (bys (flatI l))) Tryd.underlying34 (fun hf => let ⟨V, l, e, h⟩ := open_inss hf; ⟨V, e, l, h⟩) hv h
end
section
variable {H : Type} {enc : TypeId × Value → H} {P : Program}
theorem post_of_below {f : Func} {s : ChangeSpec} {apart fresh handsOn again : Bool} {W W' : World} {args : Array Value} {v : Value} {ds gs : List (DataW H)} {before pa pv : List MemPlace}
    (hW : DataW.Whole enc P f.params.toList s.vars apart W args.toList ds gs before)
    (hres : ∀ (b : Nat) (sp : Nat → Bool) (hd : Bool), DataW.TrodAll enc P W' b sp hd f.resultTypes.toList (v.resultList f.resultTypes.size) (s.fn H (ds ++ gs)).results [])
    (hargs : ∀ sp : Nat → Bool, (∀ p ∈ before, sp p.block = true) → DataW.TrodAll enc P W' 0 sp true f.params.toList args.toList (s.fn H (ds ++ gs)).args pa)
    (hvars : ∀ sp : Nat → Bool, (∀ p ∈ before, sp p.block = true) → DataW.TrodVars enc P W' sp s.vars (s.fn H (ds ++ gs)).vars pv)
    (hps : before = pa ++ pv) (hb : Below W.heap.size W W')
    (hok : ∀ (j : Nat) (t : TypeId) (r : Value), f.resultTypes[j]? = some t → (v.resultList f.resultTypes.size)[j]? = some r → Value.okWide P W' .any 0 t r) :
    s.post enc P f apart fresh handsOn again W args v W' := by
  have hlt : ∀ p ∈ before, p.block < W.heap.size := fun p hp => hW.lt p hp
  have hold : ∀ p ∈ before, (fun b => decide (b < W.heap.size)) p.block = true := fun p hp => by simpa using hlt p hp
  refine ⟨ds, gs, before, [], pa, pv, hW, hres _ _ _, hargs _ hold, hvars _ hold, World.keptBut_mono (fun p hp => ⟨hp, ?_⟩) (hb.frame (· ∈ before)), fun _ => ?_⟩
  · rw [hps, List.mem_append] at hp
    exact Or.inr hp
  · obtain ⟨_, _, _, _, _, hz, hn⟩ := hW
    refine ⟨hok, _, _, ([] ++ pa) ++ pv, ⟨[] ++ pa, pv, trodAll_append (hargs _ (fun _ _ => rfl)) (hres _ _ _), hvars _ (fun _ _ => rfl), rfl, ?_, ?_⟩, ?_⟩
    · intro b off hp
      have hin : MemPlace.cell b off ∈ before := by rw [hps]; simpa using hp
      rw [hb.frozen (hlt _ hin)]
      exact hz b off hin
    · intro ha
      have := hn ha
      rw [hps] at this
      simpa using this
    · intro p hp _
      rw [hps]
      simpa using hp
end
theorem Tryd.laidOut : laidOutB Tryd.prog = true := by kernel_rfl
theorem reads_str (s : ByteArray) (w : World) (h : Ld w) : Calls Tryd.prog 6 #[.string s] w fun e w' => e = .returned (.bool true) ∧ Below w.heap.size w w' := by
  rw [show s = ⟨s.data.toList.toArray⟩ by cases s; simp]
  exact reads_any _ w h
end Go.Proofs.YteghakaflpgjgaaDoor
end
