import Derived.Test.YtfbelpbfmafjdaaAd
import Derived.Deep.Slices
import Derived.Deep.Fields
import Derived.ChangeSame
import Derived.Carry
import Derived.ProofKit
import Derived.OpenShut
import Derived.Test.YtfbelpbfmafjdaaRows
namespace Go.Proofs
open Go.ChangeShapes Go.WideShapes Go.ChangeAt Go.RowKit Go.Deep
set_option linter.unusedVariables false
set_option maxRecDepth 100000
section
variable {H : Type} {enc : TypeId × Value → H} {w : World} {base : Nat} {spare : Nat → Bool} {held : Bool}
/-- An act that came in, cell by cell. -/
theorem open_act {fuel : Nat} {cs : List Value} {x : DataW H × List MemPlace} (h : DataW.trod enc Try.prog w base spare held fuel 38 cs = some x) :
    ∃ a : ActV, a.Fits ∧ cs = [.int .i64 a.kind, .int .i64 a.x, .int .i64 a.i, .int .u64 a.q, .int .i64 a.n] := by
  obtain ⟨xs, n, _, _, hlen, hxl, hf⟩ := DataW.trod_struct Try.underlying38 h
  have h5 : Try.prog.cellsOf 38 = 5 := by kernel_rfl
  have h2 : Try.prog.cellsOf 36 = 2 := by kernel_rfl
  have h1 : Try.prog.cellsOf 3 = 1 := by kernel_rfl
  have h1' : Try.prog.cellsOf 22 = 1 := by kernel_rfl
  rw [h5] at hlen
  match cs, hlen with
  | [c0, c1, c2, c3, c4], _ =>
    match xs, hxl with
    | [y0, y1, y2, y3], _ =>
      have g0 := hf 0 _ rfl
      have g1 := hf 1 _ rfl
      have g2 := hf 2 _ rfl
      have g3 := hf 3 _ rfl
      simp [h1] at g0 g1 g3
      simp [h2] at g2
      obtain ⟨k, e0, _, w0⟩ := DataW.trod_int Try.underlying3 g0
      obtain ⟨x, e1, _, w1⟩ := DataW.trod_int Try.underlying3 g1
      obtain ⟨nn, e3, _, w3⟩ := DataW.trod_int Try.underlying3 g3
      obtain ⟨ys, n', _, _, _, hyl, hg⟩ := DataW.trod_struct Try.underlying36 g2
      match ys, hyl with
      | [z0, z1], _ =>
        have q0 := hg 0 _ rfl
        have q1 := hg 1 _ rfl
        simp [h1] at q0
        simp [h1'] at q1
        obtain ⟨i, e4, _, w4⟩ := DataW.trod_int Try.underlying3 q0
        obtain ⟨q, e5, _, w5⟩ := DataW.trod_int Try.underlying22 q1
        simp only [List.cons.injEq, and_true] at e0 e1 e3 e4 e5
        subst e0 e1 e3 e4 e5
        obtain ⟨a1, a2⟩ := bounds_i64 w1
        obtain ⟨b1, b2⟩ := bounds_i64 w3
        obtain ⟨d1, d2⟩ := bounds_i64 w4
        obtain ⟨u1, u2⟩ := bounds_u64 w5
        exact ⟨⟨k, x, i, q, nn⟩, ⟨a1, a2, d1, d2, u1, by show q < 18446744073709551616; omega, b1, b2⟩, rfl⟩
/-- Acts that came in. -/
theorem open_acts {v : Value} {d : DataW H} {ps : List MemPlace} {W : World} (hv : Value.okWide Try.prog W .any 0 23 v) (h : DataW.Trod enc Try.prog W 0 (fun _ => true) true 23 v d ps) (hlt : ∀ p ∈ ps, p.block < W.heap.size) :
    ∃ l, Acts W W.heap.size v l := by
  obtain ⟨fuel, hf⟩ := h
  have h5 : Try.prog.cellsOf 38 = 5 := by kernel_rfl
  obtain ⟨a', len', cap', rfl⟩ := okWide_slice Try.underlying23 hv
  rcases open_slice Try.underlying23 hf with ⟨hcs, _⟩ | ⟨a, len, cap, m, n, D, Pl, hcs, hb, hl, hm, hmm, hx, hi⟩
  · simp [Value.cells] at hcs
    obtain ⟨rfl, rfl, rfl⟩ := hcs
    exact ⟨[], none, 0, rfl, fun k a hk => by simp at hk⟩
  · simp [Value.cells] at hcs
    obtain ⟨rfl, rfl, rfl⟩ := hcs
    have hml : len' ≤ m := by rw [hmm]; simp; exact hl
    rcases Nat.eq_zero_or_pos len' with h0 | h0
    · subst h0
      exact ⟨[], some a, cap', rfl, fun k a hk => by simp at hk⟩
    · have each : ∀ i, i < m → ∃ a1 : ActV, a1.Fits ∧ ∀ j u, [Value.int .i64 a1.kind, .int .i64 a1.x, .int .i64 a1.i, .int .u64 a1.q, .int .i64 a1.n][j]? = some u → W.cell? ((a.add (i * 5)).add j) = some u := fun i him => by
        obtain ⟨cs', hc, ht⟩ := hi i him
        rw [h5] at hc
        obtain ⟨a1, hf1, rfl⟩ := open_act ht
        obtain ⟨_, _, hat⟩ := World.cells?_some hc
        exact ⟨a1, hf1, fun j u hj => (hat j (by have := (List.getElem?_eq_some_iff.1 hj).1; simpa using this)).trans hj⟩
      have hsp : a.spot = none := by
        obtain ⟨a1, _, hc⟩ := each 0 (by omega)
        have := hc 0 _ rfl
        rw [Nat.zero_mul] at this
        have e0 : (a.add 0).add 0 = a := by unfold Addr.add; simp
        rw [e0] at this
        unfold World.cell? at this
        split at this
        · split at this
          · cases this
          · rename_i hns; simpa using hns
        · cases this
      obtain ⟨b, off, sp⟩ := a
      simp only at hsp
      subst hsp
      have hbl : b < W.heap.size := by
        obtain ⟨a1, _, hc⟩ := each 0 (by omega)
        have := World.block_lt_of_cell? W _ (hc 0 _ rfl)
        have e0 : ((⟨b, off, none⟩ : Addr).add (0 * 5)).add 0 = ⟨b, off, none⟩ := by unfold Addr.add; simp
        rw [e0] at this
        exact this
      have hadd : ∀ i j, ((⟨b, off, none⟩ : Addr).add (i * 5)).add j = ⟨b, off + i * 5 + j, none⟩ := fun i j => by
        unfold Addr.add
        by_cases h1 : i * 5 = 0 <;> by_cases h2 : j = 0 <;> simp [h1, h2] <;> omega
      refine ⟨(List.range len').map (fun i => if h : i < m then (each i h).choose else ⟨0, 0, 0, 0, 0⟩), some ⟨b, off, none⟩, cap', by simp, ?_⟩
      intro k a1 hk
      rw [List.getElem?_map, Option.map_eq_some_iff] at hk
      obtain ⟨k', hk', rfl⟩ := hk
      obtain ⟨hk1, rfl⟩ := List.getElem?_eq_some_iff.1 hk'
      simp only [List.length_range] at hk1
      rw [List.getElem_range]
      rw [dif_pos (by omega : k < m)]
      obtain ⟨q1, q2⟩ := (each k (by omega)).choose_spec
      have r0 := q2 0 _ rfl
      have r1 := q2 1 _ rfl
      have r2 := q2 2 _ rfl
      have r3 := q2 3 _ rfl
      have r4 := q2 4 _ rfl
      rw [hadd] at r0 r1 r2 r3 r4
      exact ⟨b, off, rfl, hbl, q1, r0, r1, r2, r3, r4⟩
end
section
variable {H : Type} {enc : TypeId × Value → H} {P : Program}
theorem post_of_below {f : Func} {s : ChangeSpec} {apart fresh handsOn again : Bool} {W W' : World} {args : Array Value} {v : Value} {ds gs : List (DataW H)} {before pa pv : List MemPlace}
    (hW : DataW.Whole enc P f.params.toList s.vars apart W args.toList ds gs before)
    (hres : ∀ (b : Nat) (sp : Nat → Bool) (hd : Bool), DataW.TrodAll enc P W' b sp hd f.resultTypes.toList (v.resultList f.resultTypes.size) (s.fn H (ds ++ gs)).results [])
    (hargs : ∀ sp : Nat → Bool, (∀ p ∈ before, sp p.block = true) → DataW.TrodAll enc P W' 0 sp true f.params.toList args.toList (s.fn H (ds ++ gs)).args pa)
    (hvars : ∀ sp : Nat → Bool, (∀ p ∈ before, sp p.block = true) → DataW.TrodVars enc P W' sp s.vars (s.fn H (ds ++ gs)).vars pv)
    (hps : before = pa ++ pv) (hb : Below W.heap.size W W')
    (hok : ∀ (j : Nat) (t : TypeId) (r : Value), f.resultTypes[j]? = some t → (v.resultList f.resultTypes.size)[j]? = some r → Value.okWide P W' .any 0 t r) :
    s.post enc P f apart fresh handsOn again W args v W' := by
  have hlt : ∀ p ∈ before, p.block < W.heap.size := fun p hp => hW.lt p hp
  have hold : ∀ p ∈ before, (fun b => decide (b < W.heap.size)) p.block = true := fun p hp => by simpa using hlt p hp
  refine ⟨ds, gs, before, [], pa, pv, hW, hres _ _ _, hargs _ hold, hvars _ hold, World.keptBut_mono (fun p hp => ⟨hp, ?_⟩) (hb.frame (· ∈ before)), fun _ => ?_⟩
  · rw [hps, List.mem_append] at hp
    exact Or.inr hp
  · obtain ⟨_, _, _, _, _, hz, hn⟩ := hW
    refine ⟨hok, _, _, ([] ++ pa) ++ pv, ⟨[] ++ pa, pv, trodAll_append (hargs _ (fun _ _ => rfl)) (hres _ _ _), hvars _ (fun _ _ => rfl), rfl, ?_, ?_⟩, ?_⟩
    · intro b off hp
      have hin : MemPlace.cell b off ∈ before := by rw [hps]; simpa using hp
      rw [hb.frozen (hlt _ hin)]
      exact hz b off hin
    · intro ha
      have := hn ha
      rw [hps] at this
      simpa using this
    · intro p hp _
      rw [hps]
      simpa using hp
end
theorem Try.laidOut : laidOutB Try.prog = true := by kernel_rfl
end Go.Proofs
