import Derived.Test.YtihodeaeacgdpaaReW
import Derived.Deep.Slices
import Derived.Deep.Fields
import Derived.ChangeSame
import Derived.Carry
import Derived.ProofKit
import Derived.OpenShut
import Derived.Test.YtihodeaeacgdpaaRows
namespace Go.Proofs
open Go.ChangeShapes Go.WideShapes Go.ChangeAt Go.RowKit Go.Deep
set_option linter.unusedVariables false
set_option maxRecDepth 100000
/-- Numbers that came in. -/
def Nums (w : World) (V : Value) (l : List Int) : Prop :=
  ∃ A c, V = .slice A l.length c ∧ ∀ (k : Nat) (x : Int), l[k]? = some x → ∃ b off, A = some ⟨b, off, none⟩ ∧ b < w.heap.size ∧ 0 ≤ x ∧ x ≤ 18446744073709551615 ∧ w.cell? ⟨b, off + k, none⟩ = some (.int .u64 x)
section
variable {H : Type} {enc : TypeId × Value → H} {w : World} {base : Nat} {spare : Nat → Bool} {held : Bool}
/-- A refill that came in, cell by cell. -/
theorem open_ref {fuel : Nat} {cs : List Value} {x : DataW H × List MemPlace} (h : DataW.trod enc Try.prog w base spare held fuel 35 cs = some x) :
    ∃ a : Rf, (U64 a.1 ∧ U64 a.2) ∧ cs = [.int .u64 a.1, .int .u64 a.2] := by
  obtain ⟨xs, n, _, _, hlen, hxl, hf⟩ := DataW.trod_struct Try.underlying35 h
  have h2 : Try.prog.cellsOf 35 = 2 := by kernel_rfl
  have h9 : Try.prog.cellsOf 23 = 1 := by kernel_rfl
  rw [h2] at hlen
  match cs, hlen with
  | [c0, c1], _ =>
    match xs, hxl with
    | [y0, y1], _ =>
      have g0 := hf 0 _ rfl
      have g1 := hf 1 _ rfl
      simp [h9] at g0 g1
      obtain ⟨k, e0, _, w0⟩ := DataW.trod_int Try.underlying23 g0
      obtain ⟨x, e1, _, w1⟩ := DataW.trod_int Try.underlying23 g1
      simp only [List.cons.injEq, and_true] at e0 e1
      subst e0 e1
      obtain ⟨a0, a1⟩ := bounds_u64 w0
      obtain ⟨b0, b1⟩ := bounds_u64 w1
      exact ⟨(k, x), ⟨⟨a0, by simp only; omega⟩, ⟨b0, by simp only; omega⟩⟩, rfl⟩
theorem spot_none {W : World} {a : Addr} {u : Value} (h : W.cell? ((a.add 0).add 0) = some u) : a.spot = none ∧ a.block < W.heap.size := by
  have e0 : (a.add 0).add 0 = a := by unfold Addr.add; simp
  rw [e0] at h
  refine ⟨?_, World.block_lt_of_cell? W _ h⟩
  unfold World.cell? at h
  split at h
  · split at h
    · cases h
    · rename_i hns; simpa using hns
  · cases h
/-- Refills that came in. -/
theorem open_refs {v : Value} {d : DataW H} {ps : List MemPlace} {W : World} (hv : Value.okWide Try.prog W .any 0 22 v) (h : DataW.Trod enc Try.prog W 0 (fun _ => true) true 22 v d ps) :
    ∃ l, In W v l ∧ Ok l := by
  obtain ⟨fuel, hf⟩ := h
  have h5 : Try.prog.cellsOf 35 = 2 := by kernel_rfl
  obtain ⟨a', len', cap', rfl⟩ := okWide_slice Try.underlying22 hv
  rcases open_slice Try.underlying22 hf with ⟨hcs, _⟩ | ⟨a, len, cap, m, n, D, Pl, hcs, hb, hl, hm, hmm, hx, hi⟩
  · simp [Value.cells] at hcs
    obtain ⟨rfl, rfl, rfl⟩ := hcs
    exact ⟨[], ⟨none, 0, rfl, fun k a hk => by simp at hk⟩, Ok.nil⟩
  · simp [Value.cells] at hcs
    obtain ⟨rfl, rfl, rfl⟩ := hcs
    have hml : len' ≤ m := by rw [hmm]; simp; exact hl
    rcases Nat.eq_zero_or_pos len' with h0 | h0
    · subst h0
      exact ⟨[], ⟨some a, cap', rfl, fun k a hk => by simp at hk⟩, Ok.nil⟩
    · have each : ∀ i, i < m → ∃ a1 : Rf, (U64 a1.1 ∧ U64 a1.2) ∧ ∀ j u, [Value.int .u64 a1.1, .int .u64 a1.2][j]? = some u → W.cell? ((a.add (i * 2)).add j) = some u := fun i him => by
        obtain ⟨cs', hc, ht⟩ := hi i him
        rw [h5] at hc
        obtain ⟨a1, hf1, rfl⟩ := open_ref ht
        obtain ⟨_, _, hat⟩ := World.cells?_some hc
        exact ⟨a1, hf1, fun j u hj => (hat j (by have := (List.getElem?_eq_some_iff.1 hj).1; simpa using this)).trans hj⟩
      obtain ⟨hsp, hbl⟩ : a.spot = none ∧ a.block < W.heap.size := by
        obtain ⟨a1, _, hc⟩ := each 0 (by omega)
        have := hc 0 _ rfl
        rw [Nat.zero_mul] at this
        exact spot_none this
      obtain ⟨b, off, sp⟩ := a
      simp only at hsp hbl
      subst hsp
      have hadd : ∀ i j, ((⟨b, off, none⟩ : Addr).add (i * 2)).add j = ⟨b, off + i * 2 + j, none⟩ := fun i j => by
        unfold Addr.add
        by_cases h1 : i * 2 = 0 <;> by_cases h2 : j = 0 <;> simp [h1, h2] <;> omega
      have hall : ∀ k (a1 : Rf), ((List.range len').map (fun i => if h : i < m then (each i h).choose else (0, 0)))[k]? = some a1 → (U64 a1.1 ∧ U64 a1.2) ∧ W.cell? ⟨b, off + k * 2, none⟩ = some (.int .u64 a1.1) ∧ W.cell? ⟨b, off + k * 2 + 1, none⟩ = some (.int .u64 a1.2) := by
        intro k a1 hk
        rw [List.getElem?_map, Option.map_eq_some_iff] at hk
        obtain ⟨k', hk', rfl⟩ := hk
        obtain ⟨hk1, rfl⟩ := List.getElem?_eq_some_iff.1 hk'
        simp only [List.length_range] at hk1
        rw [List.getElem_range]
        rw [dif_pos (by omega : k < m)]
        obtain ⟨q1, q2⟩ := (each k (by omega)).choose_spec
        have r0 := q2 0 _ rfl
        have r1 := q2 1 _ rfl
        rw [hadd] at r0 r1
        exact ⟨q1, r0, r1⟩
      refine ⟨(List.range len').map (fun i => if h : i < m then (each i h).choose else (0, 0)), ⟨some ⟨b, off, none⟩, cap', by simp, fun k a1 hk => ⟨b, off, rfl, hbl, (hall k a1 hk).2⟩⟩, fun x hx => ?_⟩
      obtain ⟨k, hk, hke⟩ := List.mem_iff_getElem.1 hx
      exact (hall k x (by rw [List.getElem?_eq_getElem hk, hke])).1
/-- Numbers that came in. -/
theorem open_nums {v : Value} {d : DataW H} {ps : List MemPlace} {W : World} (hv : Value.okWide Try.prog W .any 0 47 v) (h : DataW.Trod enc Try.prog W 0 (fun _ => true) true 47 v d ps) :
    ∃ l, Nums W v l := by
  obtain ⟨fuel, hf⟩ := h
  have h5 : Try.prog.cellsOf 23 = 1 := by kernel_rfl
  obtain ⟨a', len', cap', rfl⟩ := okWide_slice Try.underlying47 hv
  rcases open_slice Try.underlying47 hf with ⟨hcs, _⟩ | ⟨a, len, cap, m, n, D, Pl, hcs, hb, hl, hm, hmm, hx, hi⟩
  · simp [Value.cells] at hcs
    obtain ⟨rfl, rfl, rfl⟩ := hcs
    exact ⟨[], none, 0, rfl, fun k a hk => by simp at hk⟩
  · simp [Value.cells] at hcs
    obtain ⟨rfl, rfl, rfl⟩ := hcs
    have hml : len' ≤ m := by rw [hmm]; simp; exact hl
    rcases Nat.eq_zero_or_pos len' with h0 | h0
    · subst h0
      exact ⟨[], some a, cap', rfl, fun k a hk => by simp at hk⟩
    · have each : ∀ i, i < m → ∃ x : Int, (0 ≤ x ∧ x ≤ 18446744073709551615) ∧ W.cell? ((a.add (i * 1)).add 0) = some (.int .u64 x) := fun i him => by
        obtain ⟨cs', hc, ht⟩ := hi i him
        rw [h5] at hc
        obtain ⟨x, rfl, _, w0⟩ := DataW.trod_int Try.underlying23 ht
        obtain ⟨_, _, hat⟩ := World.cells?_some hc
        exact ⟨x, bounds_u64 w0, hat 0 (by omega)⟩
      obtain ⟨hsp, hbl⟩ : a.spot = none ∧ a.block < W.heap.size := by
        obtain ⟨x, _, hc⟩ := each 0 (by omega)
        rw [Nat.zero_mul] at hc
        exact spot_none hc
      obtain ⟨b, off, sp⟩ := a
      simp only at hsp hbl
      subst hsp
      have hadd : ∀ i, ((⟨b, off, none⟩ : Addr).add (i * 1)).add 0 = ⟨b, off + i, none⟩ := fun i => by
        unfold Addr.add
        by_cases h1 : i = 0 <;> simp [h1]
      refine ⟨(List.range len').map (fun i => if h : i < m then (each i h).choose else 0), some ⟨b, off, none⟩, cap', by simp, ?_⟩
      intro k x hk
      rw [List.getElem?_map, Option.map_eq_some_iff] at hk
      obtain ⟨k', hk', rfl⟩ := hk
      obtain ⟨hk1, rfl⟩ := List.getElem?_eq_some_iff.1 hk'
      simp only [List.length_range] at hk1
      rw [List.getElem_range]
      rw [dif_pos (by omega : k < m)]
      obtain ⟨q1, q2⟩ := (each k (by omega)).choose_spec
      exact ⟨b, off, rfl, hbl, q1.1, q1.2, (congrArg W.cell? (hadd k)).symm.trans q2⟩
end
section
variable {H : Type} {enc : TypeId × Value → H} {P : Program}
theorem post_of_below {f : Func} {s : ChangeSpec} {apart fresh handsOn again : Bool} {W W' : World} {args : Array Value} {v : Value} {ds gs : List (DataW H)} {before pa pv : List MemPlace}
    (hW : DataW.Whole enc P f.params.toList s.vars apart W args.toList ds gs before)
    (hres : ∀ (b : Nat) (sp : Nat → Bool) (hd : Bool), DataW.TrodAll enc P W' b sp hd f.resultTypes.toList (v.resultList f.resultTypes.size) (s.fn H (ds ++ gs)).results [])
    (hargs : ∀ sp : Nat → Bool, (∀ p ∈ before, sp p.block = true) → DataW.TrodAll enc P W' 0 sp true f.params.toList args.toList (s.fn H (ds ++ gs)).args pa)
    (hvars : ∀ sp : Nat → Bool, (∀ p ∈ before, sp p.block = true) → DataW.TrodVars enc P W' sp s.vars (s.fn H (ds ++ gs)).vars pv)
    (hps : before = pa ++ pv) (hb : Below W.heap.size W W')
    (hok : ∀ (j : Nat) (t : TypeId) (r : Value), f.resultTypes[j]? = some t → (v.resultList f.resultTypes.size)[j]? = some r → Value.okWide P W' .any 0 t r) :
    s.post enc P f apart fresh handsOn again W args v W' := by
  have hlt : ∀ p ∈ before, p.block < W.heap.size := fun p hp => hW.lt p hp
  have hold : ∀ p ∈ before, (fun b => decide (b < W.heap.size)) p.block = true := fun p hp => by simpa using hlt p hp
  refine ⟨ds, gs, before, [], pa, pv, hW, hres _ _ _, hargs _ hold, hvars _ hold, World.keptBut_mono (fun p hp => ⟨hp, ?_⟩) (hb.frame (· ∈ before)), fun _ => ?_⟩
  · rw [hps, List.mem_append] at hp
    exact Or.inr hp
  · obtain ⟨_, _, _, _, _, hz, hn⟩ := hW
    refine ⟨hok, _, _, ([] ++ pa) ++ pv, ⟨[] ++ pa, pv, trodAll_append (hargs _ (fun _ _ => rfl)) (hres _ _ _), hvars _ (fun _ _ => rfl), rfl, ?_, ?_⟩, ?_⟩
    · intro b off hp
      have hin : MemPlace.cell b off ∈ before := by rw [hps]; simpa using hp
      rw [hb.frozen (hlt _ hin)]
      exact hz b off hin
    · intro ha
      have := hn ha
      rw [hps] at this
      simpa using this
    · intro p hp _
      rw [hps]
      simpa using hp
end
theorem Try.laidOut : laidOutB Try.prog = true := by kernel_rfl
end Go.Proofs
