import Derived.Test.YtgdjagbkpdndgaaGaW
import Derived.Deep.Slices
import Derived.Deep.Fields
import Derived.ChangeSame
import Derived.Carry
import Derived.ProofKit
import Derived.OpenShut
import Derived.Test.YtgdjagbkpdndgaaRows
namespace Go.Proofs
open Go.ChangeShapes Go.WideShapes Go.ChangeAt Go.RowKit Go.Deep
set_option linter.unusedVariables false
set_option maxRecDepth 100000
theorem bounds_u8 {n : Int} (h : (Lit.int .u8 n).wf = true) : 0 ≤ n ∧ n < 256 := by
  simp [Lit.wf] at h
  have e0 : IntKind.u8.min = 0 := by kernel_rfl
  have e1 : IntKind.u8.max = 255 := by kernel_rfl
  omega
theorem spot_none {W : World} {a : Addr} {u : Value} (h : W.cell? ((a.add 0).add 0) = some u) : a.spot = none ∧ a.block < W.heap.size := by
  have e0 : (a.add 0).add 0 = a := by unfold Addr.add; simp
  rw [e0] at h
  refine ⟨?_, World.block_lt_of_cell? W _ h⟩
  unfold World.cell? at h
  split at h
  · split at h
    · cases h
    · rename_i hns; simpa using hns
  · cases h
section
variable {H : Type} {enc : TypeId × Value → H} {w : World} {base : Nat} {held : Bool}
/-- Bytes that came in. -/
theorem open_bytes {fuel : Nat} {cs : List Value} {x : DataW H × List MemPlace} (h : DataW.trod enc Try.prog w base (fun _ => true) held fuel 32 cs = some x) :
    ∃ V l, cs = [V] ∧ Bs w V l ∧ (l = [] ∨ ∀ k ∈ foot V, k < w.heap.size) := by
  rcases open_slice1 Try.underlying32 (by kernel_rfl) h with ⟨rfl, _⟩ | ⟨a, len, cap, m, n, V, D, Pl, rfl, hb, hl, hm, hmm, hx, hi⟩
  · exact ⟨_, [], rfl, ⟨none, 0, rfl, fun k x hk => by simp at hk⟩, .inl rfl⟩
  · have hml : len ≤ m := by rw [hmm]; simpa using hl
    rcases Nat.eq_zero_or_pos len with h0 | h0
    · subst h0
      exact ⟨_, [], rfl, ⟨some a, cap, rfl, fun k x hk => by simp at hk⟩, .inl rfl⟩
    · have each : ∀ i, i < m → ∃ x : Int, (0 ≤ x ∧ x < 256) ∧ w.cell? (a.add i) = some (.int .u8 x) := fun i him => by
        obtain ⟨hc, ht⟩ := hi i him
        obtain ⟨x, e, _, w0⟩ := DataW.trod_int Try.underlying5 ht
        simp only [List.cons.injEq, and_true] at e
        rw [e] at hc
        exact ⟨x, bounds_u8 w0, hc⟩
      obtain ⟨hsp, hbl⟩ : a.spot = none ∧ a.block < w.heap.size := by
        obtain ⟨x, _, hc⟩ := each 0 (by omega)
        refine spot_none (u := .int .u8 x) ?_
        have e0 : (a.add 0).add 0 = a.add 0 := by unfold Addr.add; simp
        rw [e0]
        exact hc
      obtain ⟨b, off, sp⟩ := a
      simp only at hsp hbl
      subst hsp
      have hadd : ∀ i, (⟨b, off, none⟩ : Addr).add i = ⟨b, off + i, none⟩ := fun i => by
        unfold Addr.add
        by_cases h1 : i = 0 <;> simp [h1]
      refine ⟨_, (List.range len).map (fun i => if h : i < m then (each i h).choose else 0), rfl, ⟨some ⟨b, off, none⟩, cap, by simp, fun k x hk => ?_⟩, .inr (fun k hk => by simp [foot_some] at hk; omega)⟩
      rw [List.getElem?_map, Option.map_eq_some_iff] at hk
      obtain ⟨k', hk', rfl⟩ := hk
      obtain ⟨hk1, rfl⟩ := List.getElem?_eq_some_iff.1 hk'
      simp only [List.length_range] at hk1
      rw [List.getElem_range, dif_pos (by omega : k < m)]
      obtain ⟨q1, q2⟩ := (each k (by omega)).choose_spec
      exact ⟨b, off, rfl, hbl, q1.1, q1.2, (congrArg w.cell? (hadd k)).symm.trans q2⟩
/-- Numbers that came in. -/
theorem open_nums {fuel : Nat} {cs : List Value} {x : DataW H × List MemPlace} (h : DataW.trod enc Try.prog w base (fun _ => true) held fuel 28 cs = some x) :
    ∃ V l, cs = [V] ∧ Is w V l ∧ (l = [] ∨ ∀ k ∈ foot V, k < w.heap.size) := by
  rcases open_slice1 Try.underlying28 (by kernel_rfl) h with ⟨rfl, _⟩ | ⟨a, len, cap, m, n, V, D, Pl, rfl, hb, hl, hm, hmm, hx, hi⟩
  · exact ⟨_, [], rfl, ⟨none, 0, rfl, fun k x hk => by simp at hk⟩, .inl rfl⟩
  · have hml : len ≤ m := by rw [hmm]; simpa using hl
    rcases Nat.eq_zero_or_pos len with h0 | h0
    · subst h0
      exact ⟨_, [], rfl, ⟨some a, cap, rfl, fun k x hk => by simp at hk⟩, .inl rfl⟩
    · have each : ∀ i, i < m → ∃ x : Int, w.cell? (a.add i) = some (.int .i64 x) := fun i him => by
        obtain ⟨hc, ht⟩ := hi i him
        obtain ⟨x, e, _, w0⟩ := DataW.trod_int Try.underlying3 ht
        simp only [List.cons.injEq, and_true] at e
        rw [e] at hc
        exact ⟨x, hc⟩
      obtain ⟨hsp, hbl⟩ : a.spot = none ∧ a.block < w.heap.size := by
        obtain ⟨x, hc⟩ := each 0 (by omega)
        refine spot_none (u := .int .i64 x) ?_
        have e0 : (a.add 0).add 0 = a.add 0 := by unfold Addr.add; simp
        rw [e0]
        exact hc
      obtain ⟨b, off, sp⟩ := a
      simp only at hsp hbl
      subst hsp
      have hadd : ∀ i, (⟨b, off, none⟩ : Addr).add i = ⟨b, off + i, none⟩ := fun i => by
        unfold Addr.add
        by_cases h1 : i = 0 <;> simp [h1]
      refine ⟨_, (List.range len).map (fun i => if h : i < m then (each i h).choose else 0), rfl, ⟨some ⟨b, off, none⟩, cap, by simp, fun k x hk => ?_⟩, .inr (fun k hk => by simp [foot_some] at hk; omega)⟩
      rw [List.getElem?_map, Option.map_eq_some_iff] at hk
      obtain ⟨k', hk', rfl⟩ := hk
      obtain ⟨hk1, rfl⟩ := List.getElem?_eq_some_iff.1 hk'
      simp only [List.length_range] at hk1
      rw [List.getElem_range, dif_pos (by omega : k < m)]
      exact ⟨b, off, rfl, hbl, (congrArg w.cell? (hadd k)).symm.trans (each k (by omega)).choose_spec⟩
/-- An act that came in, cell by cell. -/
theorem open_act {fuel : Nat} {cs : List Value} {x : DataW H × List MemPlace} (h : DataW.trod enc Try.prog w base (fun _ => true) held fuel 34 cs = some x) :
    ∃ a : ActV, a.Fits w w.heap.size ∧ cs = [.int .i64 a.kind, a.VL, .int .i64 a.g, .int .i64 a.p, a.VA] := by
  obtain ⟨xs, n, _, _, hlen, hxl, hf⟩ := DataW.trod_struct Try.underlying34 h
  have h4 : Try.prog.cellsOf 34 = 5 := by kernel_rfl
  have h1 : Try.prog.cellsOf 3 = 1 := by kernel_rfl
  have h2 : Try.prog.cellsOf 28 = 1 := by kernel_rfl
  have h3 : Try.prog.cellsOf 32 = 1 := by kernel_rfl
  rw [h4] at hlen
  match cs, hlen with
  | [c0, c1, c2, c3, c4], _ =>
    match xs, hxl with
    | [y0, y1, y2, y3, y4], _ =>
      have g0 := hf 0 _ rfl
      have g1 := hf 1 _ rfl
      have g2 := hf 2 _ rfl
      have g3 := hf 3 _ rfl
      have g4 := hf 4 _ rfl
      simp [h1, h2, h3] at g0 g1 g2 g3 g4
      obtain ⟨k, e0, _, w0⟩ := DataW.trod_int Try.underlying3 g0
      obtain ⟨VL, ll, e1, hn, hfarL⟩ := open_nums g1
      obtain ⟨x, e2, _, w2⟩ := DataW.trod_int Try.underlying3 g2
      obtain ⟨y, e3, _, w3⟩ := DataW.trod_int Try.underlying3 g3
      obtain ⟨V, l, e4, hb, hfar⟩ := open_bytes g4
      simp only [List.cons.injEq, and_true] at e0 e1 e2 e3 e4
      subst e0 e1 e2 e3 e4
      exact ⟨⟨k, ll, c1, x, y, l, c4⟩, ⟨hn, hfarL, hb, hfar⟩, rfl⟩
/-- Acts that came in. -/
theorem open_acts {v : Value} {d : DataW H} {ps : List MemPlace} {W : World} (hv : Value.okWide Try.prog W .any 0 22 v) (h : DataW.Trod enc Try.prog W 0 (fun _ => true) true 22 v d ps) :
    ∃ l, Acts W W.heap.size v l := by
  obtain ⟨fuel, hf⟩ := h
  have h5 : Try.prog.cellsOf 34 = 5 := by kernel_rfl
  obtain ⟨a', len', cap', rfl⟩ := okWide_slice Try.underlying22 hv
  rcases open_slice Try.underlying22 hf with ⟨hcs, _⟩ | ⟨a, len, cap, m, n, D, Pl, hcs, hb, hl, hm, hmm, hx, hi⟩
  · simp [Value.cells] at hcs
    obtain ⟨rfl, rfl, rfl⟩ := hcs
    exact ⟨[], Nat.le_refl _, none, 0, rfl, fun k a hk => by simp at hk⟩
  · simp [Value.cells] at hcs
    obtain ⟨rfl, rfl, rfl⟩ := hcs
    have hml : len' ≤ m := by rw [hmm]; simp; exact hl
    rcases Nat.eq_zero_or_pos len' with h0 | h0
    · subst h0
      exact ⟨[], Nat.le_refl _, some a, cap', rfl, fun k a hk => by simp at hk⟩
    · have each : ∀ i, i < m → ∃ a1 : ActV, a1.Fits W W.heap.size ∧ ∀ j u, [Value.int .i64 a1.kind, a1.VL, .int .i64 a1.g, .int .i64 a1.p, a1.VA][j]? = some u → W.cell? ((a.add (i * 5)).add j) = some u := fun i him => by
        obtain ⟨cs', hc, ht⟩ := hi i him
        rw [h5] at hc
        obtain ⟨a1, hf1, rfl⟩ := open_act ht
        obtain ⟨_, _, hat⟩ := World.cells?_some hc
        exact ⟨a1, hf1, fun j u hj => (hat j (by have := (List.getElem?_eq_some_iff.1 hj).1; simpa using this)).trans hj⟩
      obtain ⟨hsp, hbl⟩ : a.spot = none ∧ a.block < W.heap.size := by
        obtain ⟨a1, _, hc⟩ := each 0 (by omega)
        have := hc 0 _ rfl
        rw [Nat.zero_mul] at this
        exact spot_none this
      obtain ⟨b, off, sp⟩ := a
      simp only at hsp hbl
      subst hsp
      have hadd : ∀ i j, ((⟨b, off, none⟩ : Addr).add (i * 5)).add j = ⟨b, off + i * 5 + j, none⟩ := fun i j => by
        unfold Addr.add
        by_cases h1 : i * 5 = 0 <;> by_cases h2 : j = 0 <;> simp [h1, h2] <;> omega
      refine ⟨(List.range len').map (fun i => if h : i < m then (each i h).choose else ⟨0, [], .slice none 0 0, 0, 0, [], .slice none 0 0⟩), Nat.le_refl _, some ⟨b, off, none⟩, cap', by simp, ?_⟩
      intro k a1 hk
      rw [List.getElem?_map, Option.map_eq_some_iff] at hk
      obtain ⟨k', hk', rfl⟩ := hk
      obtain ⟨hk1, rfl⟩ := List.getElem?_eq_some_iff.1 hk'
      simp only [List.length_range] at hk1
      rw [List.getElem_range]
      rw [dif_pos (by omega : k < m)]
      obtain ⟨q1, q2⟩ := (each k (by omega)).choose_spec
      have r0 := q2 0 _ rfl
      have r1 := q2 1 _ rfl
      have r2 := q2 2 _ rfl
      have r3 := q2 3 _ rfl
      have r4 := q2 4 _ rfl
      rw [hadd] at r0 r1 r2 r3 r4
      exact ⟨b, off, rfl, hbl, q1, r0, r1, r2, r3, r4⟩
/-- A slice of bytes that came in. -/
theorem open_aff {v : Value} {d : DataW H} {ps : List MemPlace} {W : World} (hv : Value.okWide Try.prog W .any 0 32 v) (h : DataW.Trod enc Try.prog W 0 (fun _ => true) true 32 v d ps) :
    ∃ l, Bs W v l ∧ (l = [] ∨ ∀ k ∈ foot v, k < W.heap.size) := by
  obtain ⟨fuel, hf⟩ := h
  obtain ⟨a', len', cap', rfl⟩ := okWide_slice Try.underlying32 hv
  obtain ⟨V, l, e, h1, h2⟩ := open_bytes hf
  simp [Value.cells] at e
  subst e
  exact ⟨l, h1, h2⟩
end
section
variable {H : Type} {enc : TypeId × Value → H} {P : Program}
theorem post_of_below {f : Func} {s : ChangeSpec} {apart fresh handsOn again : Bool} {W W' : World} {args : Array Value} {v : Value} {ds gs : List (DataW H)} {before pa pv : List MemPlace}
    (hW : DataW.Whole enc P f.params.toList s.vars apart W args.toList ds gs before)
    (hres : ∀ (b : Nat) (sp : Nat → Bool) (hd : Bool), DataW.TrodAll enc P W' b sp hd f.resultTypes.toList (v.resultList f.resultTypes.size) (s.fn H (ds ++ gs)).results [])
    (hargs : ∀ sp : Nat → Bool, (∀ p ∈ before, sp p.block = true) → DataW.TrodAll enc P W' 0 sp true f.params.toList args.toList (s.fn H (ds ++ gs)).args pa)
    (hvars : ∀ sp : Nat → Bool, (∀ p ∈ before, sp p.block = true) → DataW.TrodVars enc P W' sp s.vars (s.fn H (ds ++ gs)).vars pv)
    (hps : before = pa ++ pv) (hb : Below W.heap.size W W')
    (hok : ∀ (j : Nat) (t : TypeId) (r : Value), f.resultTypes[j]? = some t → (v.resultList f.resultTypes.size)[j]? = some r → Value.okWide P W' .any 0 t r) :
    s.post enc P f apart fresh handsOn again W args v W' := by
  have hlt : ∀ p ∈ before, p.block < W.heap.size := fun p hp => hW.lt p hp
  have hold : ∀ p ∈ before, (fun b => decide (b < W.heap.size)) p.block = true := fun p hp => by simpa using hlt p hp
  refine ⟨ds, gs, before, [], pa, pv, hW, hres _ _ _, hargs _ hold, hvars _ hold, World.keptBut_mono (fun p hp => ⟨hp, ?_⟩) (hb.frame (· ∈ before)), fun _ => ?_⟩
  · rw [hps, List.mem_append] at hp
    exact Or.inr hp
  · obtain ⟨_, _, _, _, _, hz, hn⟩ := hW
    refine ⟨hok, _, _, ([] ++ pa) ++ pv, ⟨[] ++ pa, pv, trodAll_append (hargs _ (fun _ _ => rfl)) (hres _ _ _), hvars _ (fun _ _ => rfl), rfl, ?_, ?_⟩, ?_⟩
    · intro b off hp
      have hin : MemPlace.cell b off ∈ before := by rw [hps]; simpa using hp
      rw [hb.frozen (hlt _ hin)]
      exact hz b off hin
    · intro ha
      have := hn ha
      rw [hps] at this
      simpa using this
    · intro p hp _
      rw [hps]
      simpa using hp
end
theorem Try.laidOut : laidOutB Try.prog = true := by kernel_rfl
end Go.Proofs
