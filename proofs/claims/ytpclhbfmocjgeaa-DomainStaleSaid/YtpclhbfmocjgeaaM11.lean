import Derived.Test.YtpclhbfmocjgeaaM10
import Derived.Deep.Slices
import Derived.Deep.Fields
import Derived.ChangeSame
import Derived.Carry
import Derived.ProofKit
import Derived.OpenShut
import Derived.Test.YtpclhbfmocjgeaaRows
import Derived.Test.YtpclhbfmocjgeaaM9
import Derived.IntWalk
import Derived.Test.YtpclhbfmocjgeaaM8
import Derived.RangeFuncBox
import Derived.Maps.AppendAt
import Derived.Test.YtpclhbfmocjgeaaM3
section
namespace Go.Proofs
open Go.ChangeShapes Go.WideShapes Go.ChangeAt Go.RowKit Go.Deep
set_option linter.unusedVariables false
set_option maxRecDepth 100000
theorem spot_none {W : World} {a : Addr} {u : Value} (h : W.cell? ((a.add 0).add 0) = some u) : a.spot = none ∧ a.block < W.heap.size := by
  have e0 : (a.add 0).add 0 = a := by unfold Addr.add; simp
  rw [e0] at h
  refine ⟨?_, World.block_lt_of_cell? W _ h⟩
  unfold World.cell? at h
  split at h
  · split at h
    · cases h
    · rename_i hns; simpa using hns
  · cases h
section
variable {H : Type} {enc : TypeId × Value → H} {w : World} {base : Nat} {held : Bool}
/-- A ref that came in. -/
theorem open_ref1 {fuel : Nat} {cs : List Value} {x : DataW H × List MemPlace} (h : DataW.trod enc Try.prog w base (fun _ => true) held fuel 34 cs = some x) :
    ∃ i q : Int, (-9223372036854775808 ≤ i ∧ i ≤ 9223372036854775807) ∧ (0 ≤ q ∧ q < 18446744073709551616) ∧ cs = [.int .i64 i, .int .u64 q] := by
  obtain ⟨xs, n, _, _, hlen, hxl, hf⟩ := DataW.trod_struct Try.underlying34 h
  have h2 : Try.prog.cellsOf 34 = 2 := by kernel_rfl
  have h3 : Try.prog.cellsOf 3 = 1 := by kernel_rfl
  have h9 : Try.prog.cellsOf 22 = 1 := by kernel_rfl
  rw [h2] at hlen
  match cs, hlen with
  | [c0, c1], _ =>
    match xs, hxl with
    | [y0, y1], _ =>
      have g0 := hf 0 _ rfl
      have g1 := hf 1 _ rfl
      simp [h9, h3] at g0 g1
      obtain ⟨k, e0, _, w0⟩ := DataW.trod_int Try.underlying3 g0
      obtain ⟨x, e1, _, w1⟩ := DataW.trod_int Try.underlying22 g1
      simp only [List.cons.injEq, and_true] at e0 e1
      subst e0 e1
      obtain ⟨a0, a1⟩ := bounds_i64 w0
      obtain ⟨b0, b1⟩ := bounds_u64 w1
      exact ⟨k, x, ⟨a0, by omega⟩, ⟨b0, by omega⟩, rfl⟩
/-- An act that came in, cell by cell. -/
theorem open_act {fuel : Nat} {cs : List Value} {x : DataW H × List MemPlace} (h : DataW.trod enc Try.prog w base (fun _ => true) held fuel 36 cs = some x) :
    ∃ a : ActC, a.Fits ∧ cs = a.cells := by
  obtain ⟨xs, n, _, _, hlen, hxl, hf⟩ := DataW.trod_struct Try.underlying36 h
  have h8 : Try.prog.cellsOf 36 = 7 := by kernel_rfl
  have h2 : Try.prog.cellsOf 34 = 2 := by kernel_rfl
  have h3 : Try.prog.cellsOf 3 = 1 := by kernel_rfl
  have h9 : Try.prog.cellsOf 22 = 1 := by kernel_rfl
  rw [h8] at hlen
  match cs, hlen with
  | [c0, c1, c2, c3, c4, c5, c6], _ =>
    match xs, hxl with
    | [y0, y1, y2, y3, y4, y5], _ =>
      have g0 := hf 0 _ rfl
      have g1 := hf 1 _ rfl
      have g2 := hf 2 _ rfl
      have g3 := hf 3 _ rfl
      have g4 := hf 4 _ rfl
      have g5 := hf 5 _ rfl
      simp [h9, h3, h2] at g0 g1 g2 g3 g4 g5
      obtain ⟨k, e0, _, w0⟩ := DataW.trod_int Try.underlying3 g0
      obtain ⟨ri, rq, a1, a2, e1⟩ := open_ref1 g1
      obtain ⟨A, e2, _, w2⟩ := DataW.trod_int Try.underlying3 g2
      obtain ⟨B, e3, _, w3⟩ := DataW.trod_int Try.underlying3 g3
      obtain ⟨C, e4, _, w4⟩ := DataW.trod_int Try.underlying22 g4
      obtain ⟨D, e5, _, w5⟩ := DataW.trod_int Try.underlying22 g5
      simp only [List.cons.injEq, and_true] at e0 e1 e2 e3 e4 e5
      obtain ⟨rfl, rfl⟩ := e1
      subst e0 e2 e3 e4 e5
      obtain ⟨b20, b21⟩ := bounds_i64 w2
      obtain ⟨b40, b41⟩ := bounds_u64 w4
      obtain ⟨b50, b51⟩ := bounds_u64 w5
      exact ⟨⟨k, ri, rq, A, B, C, D⟩, ⟨a1.1, a1.2, b20, by show A ≤ _; omega, b40, by show C < _; omega, b50⟩, rfl⟩
/-- Acts that came in. -/
theorem open_acts {v : Value} {d : DataW H} {ps : List MemPlace} {W : World} (hv : Value.okWide Try.prog W .any 0 23 v) (h : DataW.Trod enc Try.prog W 0 (fun _ => true) true 23 v d ps) :
    ∃ l, Acts W v l := by
  obtain ⟨fuel, hf⟩ := h
  have h5 : Try.prog.cellsOf 36 = 7 := by kernel_rfl
  obtain ⟨a', len', cap', rfl⟩ := okWide_slice Try.underlying23 hv
  rcases open_slice Try.underlying23 hf with ⟨hcs, _⟩ | ⟨a, len, cap, m, n, D, Pl, hcs, hb, hl, hm, hmm, hx, hi⟩
  · simp [Value.cells] at hcs
    obtain ⟨rfl, rfl, rfl⟩ := hcs
    exact ⟨[], none, 0, rfl, fun k a hk => by simp at hk⟩
  · simp [Value.cells] at hcs
    obtain ⟨rfl, rfl, rfl⟩ := hcs
    have hml : len' ≤ m := by rw [hmm]; simp; exact hl
    rcases Nat.eq_zero_or_pos len' with h0 | h0
    · subst h0
      exact ⟨[], some a, cap', rfl, fun k a hk => by simp at hk⟩
    · have each : ∀ i, i < m → ∃ a1 : ActC, a1.Fits ∧ ∀ (j : Nat) (u : Value), a1.cells[j]? = some u → W.cell? ((a.add (i * 7)).add j) = some u := fun i him => by
        obtain ⟨cs', hc, ht⟩ := hi i him
        rw [h5] at hc
        obtain ⟨a1, hf1, rfl⟩ := open_act ht
        obtain ⟨_, _, hat⟩ := World.cells?_some hc
        exact ⟨a1, hf1, fun j u hj => (hat j (by have := (List.getElem?_eq_some_iff.1 hj).1; simpa [ActC.cells] using this)).trans hj⟩
      obtain ⟨hsp, hbl⟩ : a.spot = none ∧ a.block < W.heap.size := by
        obtain ⟨a1, _, hc⟩ := each 0 (by omega)
        have := hc 0 _ rfl
        rw [Nat.zero_mul] at this
        exact spot_none this
      obtain ⟨b, off, sp⟩ := a
      simp only at hsp hbl
      subst hsp
      have hadd : ∀ i j, ((⟨b, off, none⟩ : Addr).add (i * 7)).add j = ⟨b, off + i * 7 + j, none⟩ := fun i j => by
        unfold Addr.add
        by_cases h1 : i * 7 = 0 <;> by_cases h2 : j = 0 <;> simp [h1, h2] <;> omega
      refine ⟨(List.range len').map (fun i => if h : i < m then (each i h).choose else ⟨0, 0, 0, 0, 0, 0, 0⟩), some ⟨b, off, none⟩, cap', by simp, ?_⟩
      intro k a1 hk
      rw [List.getElem?_map, Option.map_eq_some_iff] at hk
      obtain ⟨k', hk', rfl⟩ := hk
      obtain ⟨hk1, rfl⟩ := List.getElem?_eq_some_iff.1 hk'
      simp only [List.length_range] at hk1
      rw [List.getElem_range]
      rw [dif_pos (by omega : k < m)]
      obtain ⟨q1, q2⟩ := (each k (by omega)).choose_spec
      exact ⟨b, off, rfl, hbl, q1, fun j u hj => by have := q2 j u hj; rw [hadd] at this; exact this⟩
end
section
variable {H : Type} {enc : TypeId × Value → H} {P : Program}
theorem post_of_below {f : Func} {s : ChangeSpec} {apart fresh handsOn again : Bool} {W W' : World} {args : Array Value} {v : Value} {ds gs : List (DataW H)} {before pa pv : List MemPlace}
    (hW : DataW.Whole enc P f.params.toList s.vars apart W args.toList ds gs before)
    (hres : ∀ (b : Nat) (sp : Nat → Bool) (hd : Bool), DataW.TrodAll enc P W' b sp hd f.resultTypes.toList (v.resultList f.resultTypes.size) (s.fn H (ds ++ gs)).results [])
    (hargs : ∀ sp : Nat → Bool, (∀ p ∈ before, sp p.block = true) → DataW.TrodAll enc P W' 0 sp true f.params.toList args.toList (s.fn H (ds ++ gs)).args pa)
    (hvars : ∀ sp : Nat → Bool, (∀ p ∈ before, sp p.block = true) → DataW.TrodVars enc P W' sp s.vars (s.fn H (ds ++ gs)).vars pv)
    (hps : before = pa ++ pv) (hb : Below W.heap.size W W')
    (hok : ∀ (j : Nat) (t : TypeId) (r : Value), f.resultTypes[j]? = some t → (v.resultList f.resultTypes.size)[j]? = some r → Value.okWide P W' .any 0 t r) :
    s.post enc P f apart fresh handsOn again W args v W' := by
  have hlt : ∀ p ∈ before, p.block < W.heap.size := fun p hp => hW.lt p hp
  have hold : ∀ p ∈ before, (fun b => decide (b < W.heap.size)) p.block = true := fun p hp => by simpa using hlt p hp
  refine ⟨ds, gs, before, [], pa, pv, hW, hres _ _ _, hargs _ hold, hvars _ hold, World.keptBut_mono (fun p hp => ⟨hp, ?_⟩) (hb.frame (· ∈ before)), fun _ => ?_⟩
  · rw [hps, List.mem_append] at hp
    exact Or.inr hp
  · obtain ⟨_, _, _, _, _, hz, hn⟩ := hW
    refine ⟨hok, _, _, ([] ++ pa) ++ pv, ⟨[] ++ pa, pv, trodAll_append (hargs _ (fun _ _ => rfl)) (hres _ _ _), hvars _ (fun _ _ => rfl), rfl, ?_, ?_⟩, ?_⟩
    · intro b off hp
      have hin : MemPlace.cell b off ∈ before := by rw [hps]; simpa using hp
      rw [hb.frozen (hlt _ hin)]
      exact hz b off hin
    · intro ha
      have := hn ha
      rw [hps] at this
      simpa using this
    · intro p hp _
      rw [hps]
      simpa using hp
end
theorem Try.laidOut : laidOutB Try.prog = true := by kernel_rfl
end Go.Proofs
end
section
namespace Go.Proofs
open Go.RowKit Go.Shelf
set_option linter.unusedVariables false
set_option linter.unusedSimpArgs false
section
variable {M M' : Nat} {t : Tab Dm} {r : RTab} {ch : Nat → List (Int × Int)} {f : Nat} {i q gs cpu per : Int}
theorem plcAt_pl (k : Nat) : r.plcAt ch k = if (r.pl k).is = true then some ⟨(k : Nat), (r.pl k).gen, r.get ch (k : Nat) (r.pl k).gen⟩ else none := by
  unfold RTab.plcAt
  by_cases hk : (r.pl k).is = true
  · rw [pl_is hk]
  · cases hp : r.L[k]? with
    | none => simp [hk]
    | some p =>
      rw [RTab.pl_eq hp] at hk ⊢
/-- A child carved out and merged again: all is told as before. -/
theorem back_all (h : r.Held M ch) (hg : Gets t r f) {l : List (Int × Int)} (hR : (r.on i q gs cpu per).Held M' (chOn r ch f l)) : ((r.on i q gs cpu per).off f).all (chOn r ch f l) = r.all ch := by
  have h0 := hg.at0
  have hl := hg.lt
  have hf := hg.is
  have hpf : (r.on i q gs cpu per).pl f = ⟨(r.pl f).gen, true, gs, cpu, per, i, q, 0, 0⟩ := by rw [on_pl h0 hl, if_pos rfl]
  have hk : ((r.on i q gs cpu per).pl f).is = true := by rw [hpf]
  have hz : (r.on i q gs cpu per).live (chOn r ch f l) (f : Nat) ((r.on i q gs cpu per).pl f).gen = 0 := by rw [on_live h0 hl hf, hpf]; exact (fresh_zero h hl hf).2
  unfold RTab.all RTab.allTo
  rw [off_len, on_len]
  congr 1
  funext k
  rw [plcAt_pl, plcAt_pl]
  have hpl : ((r.on i q gs cpu per).off f).pl k = if k = f then ⟨((r.on i q gs cpu per).pl f).gen + 1, false, 0, 0, 0, 0, 0, 0, 0⟩ else (r.on i q gs cpu per).pl k := off_pl (by rw [on_len]; exact hl) k
  by_cases e : k = f
  · subst e
    rw [hpl, if_pos rfl, hf]; rfl
  · have ep : ((r.on i q gs cpu per).off f).pl k = r.pl k := by rw [hpl, if_neg e, on_pl h0 hl, if_neg e]
    rw [ep, off_get hR hk hz e, on_get_old h0 hl hf l e, hpf]
    by_cases hp : i = ((k : Nat) : Int) ∧ q = (r.pl k).gen
    · simp only [if_pos hp, Int.add_sub_cancel]
    · simp only [if_neg hp]
end
end Go.Proofs
end
section
namespace Go.Proofs
open Go.RowKit Go.Shelf
set_option linter.unusedVariables false
set_option linter.unusedSimpArgs false
/-! ### The books, plainly -/
def sumE (f : Plc → Int) : List Plc → Int
  | [] => 0
  | p :: l => f p + sumE f l
theorem sumE_append (f : Plc → Int) (l l' : List Plc) : sumE f (l ++ l') = sumE f l + sumE f l' := by
  induction l with
  | nil => simp [sumE]
  | cons p l ih => simp only [List.cons_append, sumE, ih]; omega
theorem sumE_snoc (f : Plc → Int) (l : List Plc) (p : Plc) : sumE f (l ++ [p]) = sumE f l + f p := by rw [sumE_append]; simp [sumE]
section
variable {M : Nat} {r : RTab} {ch : Nat → List (Int × Int)}
theorem sumE_to (f : Plc → Int) : ∀ n, sumE f (r.allTo ch n) = sumN (fun k => if (r.pl k).is = true then f ⟨(k : Nat), (r.pl k).gen, r.get ch (k : Nat) (r.pl k).gen⟩ else 0) n
  | 0 => rfl
  | n + 1 => by
    rw [sumN_succ, ← sumE_to f n]
    by_cases h : (r.pl n).is = true
    · rw [allTo_yes (p := ⟨(n : Nat), (r.pl n).gen, r.get ch (n : Nat) (r.pl n).gen⟩) (by rw [plcAt_pl, if_pos h]), sumE_snoc, if_pos h]
    · rw [allTo_no (by rw [plcAt_pl, if_neg h]), if_neg h]; omega
theorem all_mem {e : Plc} (h : e ∈ r.all ch) : ∃ k : Nat, (r.pl k).is = true ∧ e = ⟨(k : Nat), (r.pl k).gen, r.get ch (k : Nat) (r.pl k).gen⟩ := by
  unfold RTab.all RTab.allTo at h
  obtain ⟨k, _, hk⟩ := List.mem_filterMap.1 h
  rw [plcAt_pl] at hk
  by_cases hi : (r.pl k).is = true
  · rw [if_pos hi] at hk; cases hk; exact ⟨k, hi, rfl⟩
  · rw [if_neg hi] at hk; cases hk
/-- A sum over the children, told by the list of all. -/
theorem sumE_kids (g : Dm → Int) (i q : Int) : sumE (fun p => if p.x.pi = i ∧ p.x.pg = q then g p.x else 0) (r.all ch) = sumN (fun k => if kidQ (r.pl k) i q = true then g (r.get ch (k : Nat) (r.pl k).gen) else 0) r.L.length := by
  unfold RTab.all
  rw [sumE_to]
  refine sumN_congr _ (fun k _ => ?_)
  have e1 : (r.get ch (k : Nat) (r.pl k).gen).pi = (r.pl k).pi ∧ (r.get ch (k : Nat) (r.pl k).gen).pg = (r.pl k).pg := by unfold RTab.get; simp
  dsimp only
  rw [e1.1, e1.2]
  by_cases hi : (r.pl k).is = true
  · rw [if_pos hi]
    by_cases hp : (r.pl k).pi = i ∧ (r.pl k).pg = q
    · rw [if_pos hp, if_pos (kidQ_iff.2 ⟨hi, hp.1, hp.2⟩)]
    · rw [if_neg hp, if_neg (fun x => hp (kidQ_iff.1 x).2)]
  · rw [if_neg hi, if_neg (fun x => hi (kidQ_iff.1 x).1)]
/-- The books balance. -/
theorem books (h : r.Held M ch) {e : Plc} (he : e ∈ r.all ch) :
    e.x.live ≤ e.x.gs ∧ e.x.own ≤ e.x.gs - e.x.cgs ∧ e.x.car ≤ e.x.cpu ∧
    e.x.cgs = sumE (fun p => if p.x.pi = e.i ∧ p.x.pg = e.q then p.x.gs else 0) (r.all ch) ∧
    e.x.car = sumE (fun p => if p.x.pi = e.i ∧ p.x.pg = e.q then p.x.cpu else 0) (r.all ch) ∧
    e.x.live = e.x.own + sumE (fun p => if p.x.pi = e.i ∧ p.x.pg = e.q then p.x.live else 0) (r.all ch) ∧
    e.x.ch = sumE (fun p => if p.x.pi = e.i ∧ p.x.pg = e.q then 1 else 0) (r.all ch) := by
  obtain ⟨k, hk, rfl⟩ := all_mem he
  have hr := h.room k hk
  have hl := live_gs h hk
  dsimp only
  rw [sumE_kids (fun x => x.gs), sumE_kids (fun x => x.cpu), sumE_kids (fun x => x.live), sumE_kids (fun _ => 1)]
  have e1 : (r.get ch (k : Nat) (r.pl k).gen).gs = (r.pl k).gs ∧ (r.get ch (k : Nat) (r.pl k).gen).own = (r.pl k).own ∧ (r.get ch (k : Nat) (r.pl k).gen).cgs = r.cgs (k : Nat) (r.pl k).gen ∧ (r.get ch (k : Nat) (r.pl k).gen).cpu = (r.pl k).cpu ∧ (r.get ch (k : Nat) (r.pl k).gen).car = r.car (k : Nat) (r.pl k).gen ∧ (r.get ch (k : Nat) (r.pl k).gen).live = r.live ch (k : Nat) (r.pl k).gen ∧ (r.get ch (k : Nat) (r.pl k).gen).ch = ((r.kids (k : Nat) (r.pl k).gen).length : Int) := by unfold RTab.get; simp
  rw [e1.1, e1.2.1, e1.2.2.1, e1.2.2.2.1, e1.2.2.2.2.1, e1.2.2.2.2.2.1, e1.2.2.2.2.2.2]
  refine ⟨hl, by omega, hr.2, ?_, ?_, ?_, ?_⟩
  · rw [cgs_eq]; exact sumN_congr _ (fun c _ => by unfold RTab.get; simp)
  · rw [car_eq]; exact sumN_congr _ (fun c _ => by unfold RTab.get; simp)
  · rw [live_eq h.Chs hk]; congr 1
  · rw [kids_eq]
end
end Go.Proofs
end
section
namespace Go.Proofs
open Go.RowKit Go.Shelf
set_option linter.unusedVariables false
set_option linter.unusedSimpArgs false
/-! ### What is gone is gone, plainly -/
theorem stale_stays {r r' : RTab} {x : Int × Int} (ht : ∃ k : Nat, x.1 = (k : Nat) ∧ k < r.L.length ∧ 0 ≤ x.2 ∧ x.2 ≤ (r.pl k).gen ∧ (x.2 = (r.pl k).gen → (r.pl k).is = true)) (hq : r.is x.1 x.2 = false) (hg : Grows r r') : r'.is x.1 x.2 = false := by
  obtain ⟨k, e, hk, h0, h1, h2⟩ := ht
  have hlt : x.2 < (r.pl k).gen := by
    rcases Int.lt_or_eq_of_le h1 with h | h
    · exact h
    · rw [is_pl.2 ⟨k, e, hk, h2 h, h.symm⟩] at hq; cases hq
  cases h : r'.is x.1 x.2 with
  | false => rfl
  | true =>
    obtain ⟨j, ej, _, _, eg⟩ := is_pl.1 h
    obtain rfl : k = j := by omega
    have := hg.gen k
    omega
section
variable {M : Nat} {t : Tab Dm} {r : RTab} {ch : Nat → List (Int × Int)}
theorem stale_errors (h : Sim M t r ch) {i q : Int} (hq : r.is i q = false) : carveE t i q 0 0 1 = 11 ∧ mergeE t i q = 11 ∧ joinE t i q = 11 ∧ leaveE t i q = 11 ∧ staleE t i q = 11 := by
  have e : t.has i q = false := by rw [h.has]; exact hq
  refine ⟨?_, ?_, ?_, ?_, ?_⟩
  · unfold carveE; rw [show mayD 0 0 1 = true from by decide, e]; rfl
  · unfold mergeE; rw [e]; rfl
  · unfold joinE; rw [e]; rfl
  · unfold leaveE; rw [e]; rfl
  · unfold staleE; rw [e]; rfl
theorem stale_chain (h : r.Held M ch) {i q : Int} (hq : r.is i q = false) {L : List (Int × Int)} (hL : Up r.par i q L) : L = [] :=
  Up.det hL (Up.stop (rpar_none.2 hq))
/-- A domain that is there: what both say of it, and what is left. -/
theorem live_answers (h : Sim M t r ch) {i q : Int} (hq : r.is i q = true) : staleE t i q = 0 ∧ t.at_ i q = r.get ch i q ∧ subS (t.at_ i q).cpu (t.at_ i q).car = (r.get ch i q).cpu - (r.get ch i q).car := by
  refine ⟨by unfold staleE; rw [h.has, hq]; rfl, h.at_ hq, ?_⟩
  rw [h.at_ hq]
  obtain ⟨k, rfl, hk, h1, rfl⟩ := is_pl.1 hq
  have := (get_ok h.held h1).car
  unfold subS
  rw [if_neg (by omega)]
theorem stale_answers (h : Sim M t r ch) {i q : Int} (hq : r.is i q = false) : staleE t i q = 11 ∧ t.at_ i q = dm0 := by
  have e : t.has i q = false := by rw [h.has]; exact hq
  exact ⟨by unfold staleE; rw [e]; rfl, at_no e⟩
/-- How many there are. -/
theorem len_answers (h : Sim M t r ch) : ((r.all ch).length : Int) = sumN (fun k => if (r.pl k).is = true then 1 else 0) r.L.length := by
  have e : ∀ l : List Plc, sumE (fun _ => 1) l = l.length := fun l => by
    induction l with
    | nil => rfl
    | cons p l ih => simp only [sumE, ih, List.length_cons]; omega
  rw [← e]
  exact sumE_to (fun _ => 1) _
end
end Go.Proofs
end
section
namespace Go.Proofs
open Go.RowKit Go.Shelf
set_option linter.unusedVariables false
set_option linter.unusedSimpArgs false
section
variable {M : Nat} {t : Tab Dm} {r : RTab} {ch : Nat → List (Int × Int)}
/-- How many of a list of numbers are below. -/
theorem sumN_mem : ∀ (n : Nat) (l : List Nat), l.Nodup → (∀ k ∈ l, k < n) → sumN (fun k => if k ∈ l then 1 else 0) n = (l.length : Nat)
  | n, [], _, _ => by simp only [List.not_mem_nil, if_false, List.length_nil]; exact sumN_zero n (fun _ _ => rfl)
  | n, a :: l, hd, hl => by
    rw [List.nodup_cons] at hd
    have ih := sumN_mem n l hd.2 (fun k hk => hl k (List.mem_cons_of_mem _ hk))
    have han := hl a List.mem_cons_self
    rw [sumN_upd (f := fun k => if k ∈ l then 1 else 0) n han (fun k _ hk => by simp [List.mem_cons, hk]), ih]
    simp only [hd.1, if_false, List.mem_cons_self, if_true, List.length_cons]
    omega
theorem sumN_one_all : ∀ n : Nat, sumN (fun _ => 1) n = (n : Nat)
  | 0 => rfl
  | n + 1 => by rw [sumN_succ, sumN_one_all n]; omega
theorem sumN_cut (f : Nat → Int) (m : Nat) : ∀ n, m ≤ n → (∀ k, m ≤ k → k < n → f k = 0) → sumN f n = sumN f m
  | 0, h, _ => by rw [Nat.le_zero.1 h]
  | n + 1, h, hz => by
    by_cases e : m = n + 1
    · rw [e]
    · rw [sumN_succ, sumN_cut f m n (by omega) (fun k h1 h2 => hz k h1 (by omega)), hz n (by omega) (by omega)]; omega
/-- Len tells how many there are. -/
theorem Sim.len (h : Sim M t r ch) : t.size - t.frees - t.retired = ((r.all ch).length : Nat) := by
  rw [len_answers h, h.ret]
  have hle := h.lenle
  rw [sumN_cut _ t.spots.length _ hle (fun k h1 h2 => by rw [pl_rest h h1 h2]; rfl)]
  have hmem : ∀ k, k < t.spots.length → ((if (r.pl k).is = true then 1 else 0 : Int) = 1 - (if k ∈ t.freed then 1 else 0)) := fun k hk => by
    have hs := h.spot k hk
    by_cases hi : (r.pl k).is = true
    · have hn : k ∉ t.freed := fun hm => by
        obtain ⟨s, e1, e2, _⟩ := h.wf.free k hm
        rw [hs] at e1; cases e1
        have e3 : (r.pl k).is = false := e2
        rw [hi] at e3; cases e3
      simp [hi, hn]
    · have hi' : (r.pl k).is = false := by simpa using hi
      have hg := (h.held.nums k (by omega)).2.2.2.2
      have hM := h.held.m
      have hm : k ∈ t.freed := h.wf.empties k _ hs hi' (by show (r.pl k).gen < topG; rw [topG_val]; omega)
      simp [hi', hm]
  have e1 : sumN (fun k => if (r.pl k).is = true then 1 else 0) t.spots.length + sumN (fun k => if k ∈ t.freed then 1 else 0) t.spots.length = (t.spots.length : Nat) := by
    rw [← sumN_add, ← sumN_one_all]
    exact sumN_congr _ (fun k hk => by have := hmem k hk; omega)
  rw [sumN_mem _ _ h.wf.nodup (fun k hk => by obtain ⟨s, e1, _⟩ := h.wf.free k hk; exact (List.getElem?_eq_some_iff.1 e1).1)] at e1
  unfold Tab.frees
  omega
end
end Go.Proofs
end
section
namespace Go.Proofs
open Go.RowKit Go.Shelf
set_option linter.unusedVariables false
set_option linter.unusedSimpArgs false
theorem Row.quiet {w w' : World} {e : TypeId} {size n : Nat} {v : Value} {xs : List Value} (h : Row w e size v n xs) (hc : Chg [] w w') : Row w' e size v n xs := h.chg hc (fun k _ hm => by simp at hm)
theorem sumE_bound (f : Plc → Int) (B : Int) : ∀ l : List Plc, (∀ p ∈ l, 0 ≤ f p ∧ f p ≤ B) → 0 ≤ sumE f l ∧ sumE f l ≤ B * l.length
  | [], _ => by simp [sumE]
  | p :: l, h => by
    have a := h p List.mem_cons_self
    have b := sumE_bound f B l (fun q hq => h q (List.mem_cons_of_mem _ hq))
    have e : B * ((p :: l).length : Int) = B * (l.length : Int) + B := by rw [List.length_cons]; push_cast; rw [Int.mul_add]; omega
    simp only [sumE]
    rw [e]
    omega
/-- What the law counts of one domain's children, round by round. -/
structure Bk (l0 : List Plc) (n0 : Nat) (e : Plc) (S1 S2 S3 S4 : Nat → Int) : Prop where
  z : S1 0 = 0 ∧ S2 0 = 0 ∧ S3 0 = e.x.own ∧ S4 0 = 0
  yes : ∀ (i : Nat) (p : Plc), l0[i]? = some p → p.x.pi = e.i → p.x.pg = e.q → IntKind.i64.wrap (S1 i + p.x.gs) = S1 (i + 1) ∧ IntKind.u64.wrap (S2 i + p.x.cpu) = S2 (i + 1) ∧ IntKind.i64.wrap (S3 i + p.x.live) = S3 (i + 1) ∧ IntKind.i64.wrap (S4 i + 1) = S4 (i + 1)
  no : ∀ (i : Nat) (p : Plc), l0[i]? = some p → ¬ (p.x.pi = e.i ∧ p.x.pg = e.q) → S1 (i + 1) = S1 i ∧ S2 (i + 1) = S2 i ∧ S3 (i + 1) = S3 i ∧ S4 (i + 1) = S4 i
  fin : S1 n0 = e.x.cgs ∧ S2 n0 = e.x.car ∧ S3 n0 = e.x.live ∧ S4 n0 = e.x.ch
  chk : e.x.live ≤ e.x.gs ∧ e.x.own ≤ e.x.gs - e.x.cgs ∧ e.x.car ≤ e.x.cpu ∧ IntKind.i64.wrap (e.x.gs - e.x.cgs) = e.x.gs - e.x.cgs
section
variable {M : Nat} {r : RTab} {ch : Nat → List (Int × Int)}
theorem all_ok (h : r.Held M ch) {e : Plc} (he : e ∈ r.all ch) : e.x.Ok := by
  obtain ⟨k, hk, rfl⟩ := all_mem he
  exact get_ok h hk
theorem bk_of (h : r.Held M ch) {e : Plc} (he : e ∈ r.all ch) : ∃ S1 S2 S3 S4, Bk (r.all ch) (r.all ch).length e S1 S2 S3 S4 := by
  obtain ⟨b1, b2, b3, b4, b5, b6, b7⟩ := books h he
  have hl : (r.all ch).length ≤ 32 := Nat.le_trans (allTo_len r ch _) h.n1
  have hok := fun p (hp : p ∈ r.all ch) => all_ok h hp
  have heo := hok e he
  obtain ⟨l, hl0⟩ : ∃ l, l = r.all ch := ⟨_, rfl⟩
  rw [← hl0] at b4 b5 b6 b7 hl hok ⊢
  clear hl0 he
  have hT : ∀ (f : Plc → Int) (i : Nat) (p : Plc), l[i]? = some p → sumE f (l.take (i + 1)) = sumE f (l.take i) + f p := fun f i p hp => by
    rw [List.take_add_one, hp]; exact sumE_snoc f _ p
  have hB : ∀ (f : Plc → Int) (B : Int), 0 ≤ B → B ≤ 4294967296 → (∀ p, p ∈ l → 0 ≤ f p ∧ f p ≤ B) → ∀ i, 0 ≤ sumE f (l.take i) ∧ sumE f (l.take i) ≤ B * 32 := fun f B hB0 hB1 hf i => by
    have a := sumE_bound f B (l.take i) (fun p hp => hf p (List.mem_of_mem_take hp))
    have b : ((l.take i).length : Int) ≤ 32 := by have : (l.take i).length ≤ l.length := List.length_take_le' i l; omega
    have c : B * ((l.take i).length : Int) ≤ B * 32 := Int.mul_le_mul_of_nonneg_left b hB0
    omega
  refine ⟨fun i => sumE (fun p => if p.x.pi = e.i ∧ p.x.pg = e.q then p.x.gs else 0) (l.take i), fun i => sumE (fun p => if p.x.pi = e.i ∧ p.x.pg = e.q then p.x.cpu else 0) (l.take i), fun i => e.x.own + sumE (fun p => if p.x.pi = e.i ∧ p.x.pg = e.q then p.x.live else 0) (l.take i), fun i => sumE (fun p => if p.x.pi = e.i ∧ p.x.pg = e.q then 1 else 0) (l.take i), ⟨?_, ?_, ?_, ?_, ?_⟩⟩
  · simp [sumE]
  · intro i p hp h1 h2
    have c1 := hB (fun p => if p.x.pi = e.i ∧ p.x.pg = e.q then p.x.gs else 0) 64 (by omega) (by omega) (fun p hp => by have := (hok p hp).gs; (try dsimp only); split <;> omega) i
    have c2 := hB (fun p => if p.x.pi = e.i ∧ p.x.pg = e.q then p.x.cpu else 0) 4294967296 (by omega) (by omega) (fun p hp => by have := (hok p hp).cpu; (try dsimp only); split <;> omega) i
    have c3 := hB (fun p => if p.x.pi = e.i ∧ p.x.pg = e.q then p.x.live else 0) 64 (by omega) (by omega) (fun p hp => by have := (hok p hp).live; (try dsimp only); split <;> omega) i
    have c4 := hB (fun p => if p.x.pi = e.i ∧ p.x.pg = e.q then 1 else 0) 1 (by omega) (by omega) (fun p hp => by (try dsimp only); split <;> omega) i
    have hpo := hok p (List.mem_of_getElem? hp)
    have := hpo.gs
    have := hpo.cpu
    have := hpo.live
    have := heo.own
    have hif : ∀ a : Int, (if p.x.pi = e.i ∧ p.x.pg = e.q then a else 0) = a := fun a => if_pos ⟨h1, h2⟩
    (try dsimp only)
    rw [hT _ i p hp, hT _ i p hp, hT _ i p hp, hT _ i p hp]
    simp only [hif]
    exact ⟨IntWalk.i64_in _ (by omega), by rw [IntKind.wrap_u64]; omega, by rw [IntWalk.i64_in _ (by omega)]; omega, IntWalk.i64_in _ (by omega)⟩
  · intro i p hp hn
    have hif : ∀ a : Int, (if p.x.pi = e.i ∧ p.x.pg = e.q then a else 0) = 0 := fun a => if_neg hn
    (try dsimp only)
    rw [hT _ i p hp, hT _ i p hp, hT _ i p hp, hT _ i p hp]
    simp only [hif]
    omega
  · (try dsimp only)
    rw [List.take_length]
    exact ⟨b4.symm, b5.symm, b6.symm, b7.symm⟩
  · exact ⟨b1, b2, b3, IntWalk.i64_in _ (by have := heo.gs; have := heo.cgs; omega)⟩
end
end Go.Proofs
end
section
namespace Go.Proofs
open Go.RowKit Go.Shelf
set_option linter.unusedVariables false
set_option linter.unusedSimpArgs false
theorem blk_put11 {w : World} {B : Nat} {a0 a1 a2 a3 a4 a5 a6 a7 a8 a9 a10 : Value} (h : Blk w B 45 #[a0, a1, a2, a3, a4, a5, a6, a7, a8, a9, a10]) (x : Dm) : Blk (put11 w B 0 x) B 45 x.arr := by
  have h0 : Blk (w.setCell ⟨B, 0, none⟩ (.int .i64 x.pi)) B 45 #[.int .i64 x.pi, a1, a2, a3, a4, a5, a6, a7, a8, a9, a10] := by simpa using h.set_ 0 (.int .i64 x.pi)
  have h1 : Blk ((w.setCell ⟨B, 0, none⟩ (.int .i64 x.pi)).setCell ⟨B, 1, none⟩ (.int .u64 x.pg)) B 45 #[.int .i64 x.pi, .int .u64 x.pg, a2, a3, a4, a5, a6, a7, a8, a9, a10] := by simpa using h0.set_ 1 (.int .u64 x.pg)
  have h2 : Blk (((w.setCell ⟨B, 0, none⟩ (.int .i64 x.pi)).setCell ⟨B, 1, none⟩ (.int .u64 x.pg)).setCell ⟨B, 2, none⟩ (.int .i64 x.gs)) B 45 #[.int .i64 x.pi, .int .u64 x.pg, .int .i64 x.gs, a3, a4, a5, a6, a7, a8, a9, a10] := by simpa using h1.set_ 2 (.int .i64 x.gs)
  have h3 : Blk ((((w.setCell ⟨B, 0, none⟩ (.int .i64 x.pi)).setCell ⟨B, 1, none⟩ (.int .u64 x.pg)).setCell ⟨B, 2, none⟩ (.int .i64 x.gs)).setCell ⟨B, 3, none⟩ (.int .u64 x.cpu)) B 45 #[.int .i64 x.pi, .int .u64 x.pg, .int .i64 x.gs, .int .u64 x.cpu, a4, a5, a6, a7, a8, a9, a10] := by simpa using h2.set_ 3 (.int .u64 x.cpu)
  have h4 : Blk (((((w.setCell ⟨B, 0, none⟩ (.int .i64 x.pi)).setCell ⟨B, 1, none⟩ (.int .u64 x.pg)).setCell ⟨B, 2, none⟩ (.int .i64 x.gs)).setCell ⟨B, 3, none⟩ (.int .u64 x.cpu)).setCell ⟨B, 4, none⟩ (.int .u64 x.per)) B 45 #[.int .i64 x.pi, .int .u64 x.pg, .int .i64 x.gs, .int .u64 x.cpu, .int .u64 x.per, a5, a6, a7, a8, a9, a10] := by simpa using h3.set_ 4 (.int .u64 x.per)
  have h5 : Blk ((((((w.setCell ⟨B, 0, none⟩ (.int .i64 x.pi)).setCell ⟨B, 1, none⟩ (.int .u64 x.pg)).setCell ⟨B, 2, none⟩ (.int .i64 x.gs)).setCell ⟨B, 3, none⟩ (.int .u64 x.cpu)).setCell ⟨B, 4, none⟩ (.int .u64 x.per)).setCell ⟨B, 5, none⟩ (.int .i64 x.cgs)) B 45 #[.int .i64 x.pi, .int .u64 x.pg, .int .i64 x.gs, .int .u64 x.cpu, .int .u64 x.per, .int .i64 x.cgs, a6, a7, a8, a9, a10] := by simpa using h4.set_ 5 (.int .i64 x.cgs)
  have h6 : Blk (((((((w.setCell ⟨B, 0, none⟩ (.int .i64 x.pi)).setCell ⟨B, 1, none⟩ (.int .u64 x.pg)).setCell ⟨B, 2, none⟩ (.int .i64 x.gs)).setCell ⟨B, 3, none⟩ (.int .u64 x.cpu)).setCell ⟨B, 4, none⟩ (.int .u64 x.per)).setCell ⟨B, 5, none⟩ (.int .i64 x.cgs)).setCell ⟨B, 6, none⟩ (.int .u64 x.car)) B 45 #[.int .i64 x.pi, .int .u64 x.pg, .int .i64 x.gs, .int .u64 x.cpu, .int .u64 x.per, .int .i64 x.cgs, .int .u64 x.car, a7, a8, a9, a10] := by simpa using h5.set_ 6 (.int .u64 x.car)
  have h7 : Blk ((((((((w.setCell ⟨B, 0, none⟩ (.int .i64 x.pi)).setCell ⟨B, 1, none⟩ (.int .u64 x.pg)).setCell ⟨B, 2, none⟩ (.int .i64 x.gs)).setCell ⟨B, 3, none⟩ (.int .u64 x.cpu)).setCell ⟨B, 4, none⟩ (.int .u64 x.per)).setCell ⟨B, 5, none⟩ (.int .i64 x.cgs)).setCell ⟨B, 6, none⟩ (.int .u64 x.car)).setCell ⟨B, 7, none⟩ (.int .i64 x.own)) B 45 #[.int .i64 x.pi, .int .u64 x.pg, .int .i64 x.gs, .int .u64 x.cpu, .int .u64 x.per, .int .i64 x.cgs, .int .u64 x.car, .int .i64 x.own, a8, a9, a10] := by simpa using h6.set_ 7 (.int .i64 x.own)
  have h8 : Blk (((((((((w.setCell ⟨B, 0, none⟩ (.int .i64 x.pi)).setCell ⟨B, 1, none⟩ (.int .u64 x.pg)).setCell ⟨B, 2, none⟩ (.int .i64 x.gs)).setCell ⟨B, 3, none⟩ (.int .u64 x.cpu)).setCell ⟨B, 4, none⟩ (.int .u64 x.per)).setCell ⟨B, 5, none⟩ (.int .i64 x.cgs)).setCell ⟨B, 6, none⟩ (.int .u64 x.car)).setCell ⟨B, 7, none⟩ (.int .i64 x.own)).setCell ⟨B, 8, none⟩ (.int .i64 x.live)) B 45 #[.int .i64 x.pi, .int .u64 x.pg, .int .i64 x.gs, .int .u64 x.cpu, .int .u64 x.per, .int .i64 x.cgs, .int .u64 x.car, .int .i64 x.own, .int .i64 x.live, a9, a10] := by simpa using h7.set_ 8 (.int .i64 x.live)
  have h9 : Blk ((((((((((w.setCell ⟨B, 0, none⟩ (.int .i64 x.pi)).setCell ⟨B, 1, none⟩ (.int .u64 x.pg)).setCell ⟨B, 2, none⟩ (.int .i64 x.gs)).setCell ⟨B, 3, none⟩ (.int .u64 x.cpu)).setCell ⟨B, 4, none⟩ (.int .u64 x.per)).setCell ⟨B, 5, none⟩ (.int .i64 x.cgs)).setCell ⟨B, 6, none⟩ (.int .u64 x.car)).setCell ⟨B, 7, none⟩ (.int .i64 x.own)).setCell ⟨B, 8, none⟩ (.int .i64 x.live)).setCell ⟨B, 9, none⟩ (.int .u64 x.used)) B 45 #[.int .i64 x.pi, .int .u64 x.pg, .int .i64 x.gs, .int .u64 x.cpu, .int .u64 x.per, .int .i64 x.cgs, .int .u64 x.car, .int .i64 x.own, .int .i64 x.live, .int .u64 x.used, a10] := by simpa using h8.set_ 9 (.int .u64 x.used)
  have h10 : Blk (((((((((((w.setCell ⟨B, 0, none⟩ (.int .i64 x.pi)).setCell ⟨B, 1, none⟩ (.int .u64 x.pg)).setCell ⟨B, 2, none⟩ (.int .i64 x.gs)).setCell ⟨B, 3, none⟩ (.int .u64 x.cpu)).setCell ⟨B, 4, none⟩ (.int .u64 x.per)).setCell ⟨B, 5, none⟩ (.int .i64 x.cgs)).setCell ⟨B, 6, none⟩ (.int .u64 x.car)).setCell ⟨B, 7, none⟩ (.int .i64 x.own)).setCell ⟨B, 8, none⟩ (.int .i64 x.live)).setCell ⟨B, 9, none⟩ (.int .u64 x.used)).setCell ⟨B, 10, none⟩ (.int .i64 x.ch)) B 45 #[.int .i64 x.pi, .int .u64 x.pg, .int .i64 x.gs, .int .u64 x.cpu, .int .u64 x.per, .int .i64 x.cgs, .int .u64 x.car, .int .i64 x.own, .int .i64 x.live, .int .u64 x.used, .int .i64 x.ch] := by simpa using h9.set_ 10 (.int .i64 x.ch)
  exact h10
/-- What is answered of a ref, by both. -/
structure Looks (w : World) (c h : Nat) (j p : Int) (x : Dm) (E m n9 : Int) (b : Bool) (L : List (Int × Int)) : Prop where
  get : ∀ W, Chg [] w W → Calls Try.prog 15 #[ptr c, .agg #[.int .i64 j, .int .u64 p]] W fun e w' => e = .returned (.tuple #[x.val, .int .i64 E]) ∧ Chg [] W w'
  share : ∀ W, Chg [] w W → Calls Try.prog 26 #[ptr c, .agg #[.int .i64 j, .int .u64 p]] W fun e w' => e = .returned (.tuple #[.int .i64 m, .int .u64 n9, .int .i64 E]) ∧ Chg [] W w'
  chain : ∀ W, Chg [] w W → Calls Try.prog 23 #[ptr c, .agg #[.int .i64 j, .int .u64 p]] W fun e w' => ∃ A cc, e = .returned (.slice A L.length cc) ∧ Row w' 34 2 (.slice A L.length cc) L.length (refCells L) ∧ Chg [] W w'
  rchain : ∀ W, Chg [] w W → Calls Try.prog 35 #[ptr h, .agg #[.int .i64 j, .int .u64 p]] W fun e w' => ∃ A cc, e = .returned (.slice A L.length cc) ∧ Row w' 34 2 (.slice A L.length cc) L.length (refCells L) ∧ Chg [] W w'
  is : ∀ W, Chg [] w W → Calls Try.prog 36 #[ptr h, .agg #[.int .i64 j, .int .u64 p]] W fun e w' => e = .returned (.bool b) ∧ Chg [] W w'
  no : b = false → x = dm0 ∧ E = 11 ∧ m = 0 ∧ n9 = 0
  yes : b = true → E = 0 ∧ IntKind.i64.wrap (x.gs - x.cgs) = m ∧ IntKind.u64.wrap (x.cpu - x.car) = n9 ∧ ∀ W, Chg [] w W → Calls Try.prog 37 #[ptr h, .agg #[.int .i64 j, .int .u64 p]] W fun e w' => e = .returned x.val ∧ Chg [] W w'
  len : L.length ≤ 1000
section
variable {w : World} {G c h M : Nat} {S S2 : List Nat} {V : Value} {rs : List (Int × Int)} {t : Tab Dm} {r : RTab} {ch : Nat → List (Int × Int)}
theorem Game.looks (g : Game w G c S h S2 V rs M t r ch) {j p : Int} (hx : (j, p) ∈ rs) : ∃ x E m n9 b L, Looks w c h j p x E m n9 b L := by
  have P := g.pair
  have Sm := P.sim
  obtain ⟨kk, hj, hkl, _⟩ := g.told _ hx
  have hL := Sm.held.n1
  simp only at hj
  have i0 : -9223372036854775808 ≤ j := by omega
  have i1 : j ≤ 9223372036854775807 := by omega
  have h0 : 0 < r.L.length := by omega
  obtain ⟨L, hU, hl, _, _⟩ := Sim.chain Sm.held j p
  have hU' : Up t.par j p L := by rw [Sm.par]; exact hU
  refine ⟨t.at_ j p, staleE t j p, (t.at_ j p).gs - (t.at_ j p).cgs, subS (t.at_ j p).cpu (t.at_ j p).car, r.is j p, L, ⟨?_, ?_, ?_, ?_, ?_, ?_, ?_, hl⟩⟩
  · exact fun W hc => Get_any (P.dm.quiet hc) j p i0 i1
  · exact fun W hc => Share_any (P.dm.quiet hc) Sm.oks i0 i1
  · intro W hc
    refine (Chain_any (P.dm.quiet hc) hU' Sm.oks.fit (by omega) i0 i1).mono ?_
    rintro e w' ⟨V1, rfl, hr, hf, hc'⟩
    obtain ⟨A, cc, rfl, _⟩ := hr.val
    exact ⟨A, cc, rfl, hr, hc'⟩
  · intro W hc
    refine (rchain_any (P.rf.quiet hc) h0 hU (by omega)).mono ?_
    rintro e w' ⟨A, cc, rfl, hr, hf, hc'⟩
    exact ⟨A, cc, rfl, hr, hc'⟩
  · exact fun W hc => ris_any (P.rf.quiet hc) h0 j p
  · intro hb
    obtain ⟨e1, e2⟩ := stale_answers Sm hb
    rw [e1, e2]
    exact ⟨rfl, rfl, by decide, by decide⟩
  · intro hb
    obtain ⟨e1, e2, e3⟩ := live_answers Sm hb
    have hok := Sm.oks.ok j p
    obtain ⟨k, rfl, hk, h1, rfl⟩ := is_pl.1 hb
    refine ⟨e1, IntWalk.i64_in _ (by have := hok.gs; have := hok.cgs; omega), ?_, ?_⟩
    · have := hok.car; have := hok.cpu
      rw [IntKind.wrap_u64, e3, ← e2]; omega
    · intro W hc
      rw [e2]
      exact rget_any (P.rf.quiet hc) Sm.held.fine Sm.held.Chs (List.getElem?_eq_getElem hk) _
end
end Go.Proofs
end
section
namespace Go.Proofs
open Go.RowKit Go.Shelf
set_option linter.unusedVariables false
attribute [local go_sem] Oper.semAt_some

/-- The maker of the iterator that goes over the table as it is. -/
theorem make_now (n : Nat) (p : Option Addr) (w : World) :
    CallsIn Fence.wide n Try.prog 72 #[.pointer p] w fun e w' => e = .returned (.func (.func 86) #[] #[.pointer (some ⟨w.heap.size, 0, none⟩)]) ∧ w' = w.alloc (.cells #[.pointer p] 60) := by
  refine callsIn_of_wp Try.func72 rfl trivial ?_ rfl
  simp only [Try.ntmps72, List.size_toArray, List.length_cons, List.length_nil, Nat.reduceAdd, Nat.reduceSub, Array.replicate_succ, Array.replicate_zero, List.push_toArray, List.append_toArray, List.nil_append, List.cons_append]
  gi_wp2
  go_ret
  exact ⟨rfl, rfl⟩

theorem now_stops (n : Nat) (hn : 1 ≤ n) (b g N : Nat) (S : List Nat) (t : Tab Dm) (hw : t.WF) (hN : t.size = (N : Nat)) (w : World) (hb : b < w.heap.size) (hV : w.cell? ⟨b, 0, none⟩ = some (.pointer (some ⟨g, 0, none⟩))) (hT : TabAt w g S t) :
    SeqStopsK Fence.wide n Try.prog 86 #[.pointer (some ⟨b, 0, none⟩)] Plc.encs (KeepL (b :: S)) (fun ys => ys = nowL t N) (fun pre => pre <+: nowL t N) (N + 1) w := fun l J Jx W hW hJ _ hY h0 =>
  now_in n hn l b g N S t hw hN w hb hV hT J Jx W ⟨hW.size, fun k hk => hW.block k (by
    rcases List.mem_cons.1 hk with rfl | hk
    · exact hb
    · exact hT.lt k hk)⟩ hJ hY h0

theorem Try.info_N : (Try.prog.info? 114).map (fun i => (i.zero, i.size, i.bytes)) = some (some (.agg #[.int .i64 0, .int .u64 0, .int .i64 0, .int .u64 0, .int .i64 0, .int .u64 0, .int .u64 0, .int .i64 0, .int .u64 0, .int .i64 0, .int .i64 0, .int .u64 0, .int .i64 0]), 13, 104) := by kernel_rfl

/-- A captured box, and the slice of names that it holds; both were made from n0 on. -/
structure Held (n0 : Nat) (W : World) (B : Nat) (xs : List Plc) : Prop where
  ge : n0 ≤ B
  lt : B < W.heap.size
  row : ∃ V, W.cell? ⟨B, 0, none⟩ = some V ∧ Row W 114 13 V xs.length (plcCells xs) ∧ (∀ k ∈ foot V, n0 ≤ k ∧ k < W.heap.size)
def Gathered (n0 : Nat) (xs : List Plc) (e : Ending) (W : World) : Prop := ∃ B, e = .returned (.func (.func 73) #[] #[.pointer (some ⟨B, 0, none⟩)]) ∧ Held n0 W B xs


set_option maxRecDepth 100000 in
set_option maxHeartbeats 3200000 in
/-- **All**: it gathers all that is there, at once. -/
theorem all_in (n : Nat) (hn : 6 ≤ n) (g N : Nat) (S : List Nat) (t : Tab Dm) (hw : t.WF) (hN : t.size = (N : Nat)) (w : World) (hT : TabAt w g S t) :
    CallsIn Fence.wide n Try.prog 45 #[.pointer (some ⟨g, 0, none⟩)] w fun e W' => Gathered w.heap.size (nowL t N) e W' ∧ Below w.heap.size w W' := by
  have h1 : 1 ≤ n := by omega
  have hN4 : N ≤ 4096 := by have := hw.s1; omega
  have hlen : ∀ pre : List Plc, pre.length < N + 1 → pre.length ≤ 4096 := fun _ _ => by omega
  refine callsIn_of_wp_marks Try.func45 rfl trivial ?_ rfl
  simp only [Try.ntmps45, List.size_toArray, List.length_cons, List.length_nil, Nat.reduceAdd, Nat.reduceSub, Array.replicate_succ, Array.replicate_zero, List.push_toArray, List.append_toArray, List.nil_append, List.cons_append]
  gi_wp2_with (refine ⟨trivial, ?_⟩; gi_at_call 72; refine (make_now (n - 1) _ _).mono ?_; rintro e w' ⟨rfl, rfl⟩)
  have bS := (Boxed.new w 112 (.slice none 0 0)).alloc (.cells #[.pointer (some ⟨g, 0, none⟩)] 60)
  have bT := Boxed.new (w.alloc (.cells #[.slice none 0 0] 112)) 60 (.pointer (some ⟨g, 0, none⟩))
  simp only [World.size_alloc] at bT
  have hB0 : Below w.heap.size w ((w.alloc (.cells #[.slice none 0 0] 112)).alloc (.cells #[.pointer (some ⟨g, 0, none⟩)] 60)) := ((Below.refl _ w).alloc (Nat.le_refl _) _).alloc (by simp) _
  have hT0 := (hT.quiet (((Chg.refl [] w).alloc (.cells #[.slice none 0 0] 112)).alloc (.cells #[.pointer (some ⟨g, 0, none⟩)] 60)))
  have hsz : ((w.alloc (.cells #[.slice none 0 0] 112)).alloc (.cells #[.pointer (some ⟨g, 0, none⟩)] 60)).heap.size = w.heap.size + 2 := by simp
  obtain ⟨W0, hW0⟩ : ∃ W0, (w.alloc (.cells #[.slice none 0 0] 112)).alloc (.cells #[.pointer (some ⟨g, 0, none⟩)] 60) = W0 := ⟨_, rfl⟩
  rw [hW0] at bS bT hB0 hsz hT0 ⊢
  clear hW0
  have hL : ∀ k ∈ (w.heap.size + 1) :: S, k < W0.heap.size ∧ k ≠ w.heap.size := fun k hk => by
    rcases List.mem_cons.1 hk with rfl | hk
    · omega
    · have := hT.lt k hk; omega
  obtain ⟨i0, hi0, hz0, hz1, hz2⟩ := info_parts Try.info_N
  refine wpIn_rangeFunc_ownH rfl h1 (gf := 86) (lb := #[.pointer (some ⟨w.heap.size + 1, 0, none⟩)]) rfl trivial (enters_of Try.func86 (by kernel_rfl) rfl)
    (now_stops (n - 1) (by omega) (w.heap.size + 1) g N S t hw hN W0 (by omega) bT.cell hT0) (fun h k => h.trans k)
    (fun W l o o' hl ho _ _ => ⟨by simp [World.putObj], fun k hk => by have := hL k hk; exact (grownBy_putObj' W l o').block k (by have := (Array.getElem?_eq_some_iff.1 ho).1; omega) (fun e => by cases e; omega)⟩)
    (Below.refl _ _) (fun _ => rfl)
    (fun pre W => ((∃ V, Boxed W w.heap.size 112 V ∧ W.ownsRow w.heap.size 114 13 V pre.length (plcCells pre) ∧ True) ∧ Boxed W (w.heap.size + 1) 60 (.pointer (some ⟨g, 0, none⟩))) ∧ Below w.heap.size W0 W)
    (fun _ _ _ => False)
    (OwnFrom.and (OwnFrom.and (Own.from (holdsRow_own w.heap.size w.heap.size 112 114 13 (fun pre : List Plc => pre.length) (fun pre => plcCells pre) (fun pre v => True)) _) (Own.from (boxed_own _ _ _) _)) (ownFrom_below (by omega) (by omega)))
    (fun _ _ _ _ _ hs _ _ => hs)
    ⟨⟨⟨_, bS, World.ownsRow_nil _ _ _ _, trivial⟩, bT⟩, Below.refl _ _⟩
    (fun x a' W => ∃ Bx By, w.heap.size + 1 < Bx ∧ w.heap.size + 1 < By ∧ Blk W Bx 34 #[.int .i64 x.i, .int .u64 x.q] ∧ Blk W By 45 #[.int .i64 x.x.pi, .int .u64 x.x.pg, .int .i64 x.x.gs, .int .u64 x.x.cpu, .int .u64 x.x.per, .int .i64 x.x.cgs, .int .u64 x.x.car, .int .i64 x.x.own, .int .i64 x.x.live, .int .u64 x.x.used, .int .i64 x.x.ch] ∧ a' = { tmps := #[.pointer (some ⟨g, 0, none⟩), undef, .nilFunc, .pointer (some ⟨w.heap.size, 0, none⟩), .pointer (some ⟨Bx, 0, none⟩), .pointer (some ⟨By, 0, none⟩), .pointer (some ⟨g, 0, none⟩), .func (.func 86) #[] #[.pointer (some ⟨w.heap.size + 1, 0, none⟩)], .agg #[.int .i64 x.i, .int .u64 x.q], x.x.val, undef, undef, undef, undef, undef, undef, undef], defers := [] })
    (fun x a' _ X Y row hs hg hr => by
      obtain ⟨Bx, By, h1, h1', h2, h2', h3⟩ := hs
      have k : ∀ {b : Nat} {t : TypeId} {cs : Array Value}, Blk X b t cs → Blk Y b t cs := fun {b t cs} h2 => h2.same (hg.block b h2.lt (fun e => by
        obtain ⟨_, o, ho, hc⟩ := hr b e.symm
        unfold Blk at h2
        rw [h2] at ho; cases ho; cases hc))
      exact ⟨Bx, By, h1, h1', k h2, k h2', h3⟩)
    ?assign ?body ?done ?stop
  case assign =>
    rintro l pre x W K ⟨⟨⟨V, hV, hr, _⟩, hT9⟩, hB⟩ hK
    have hz := hB.size
    have hzw : w.heap.size ≤ W.heap.size := by omega
    simp only [Plc.encs]
    gi_wp2
    exact hK _ _ (((KeepsOthers.alloc _ _).trans (KeepsOthers.alloc _ _)).from _) (KeepL.chg (((Chg.refl [] W).alloc _).alloc _) (fun k hk => by have := hL k hk; omega)) ⟨⟨⟨V, (hV.alloc _).alloc _, (hr.alloc _).alloc _, trivial⟩, (hT9.alloc _).alloc _⟩, (hB.alloc hzw _).alloc (by simp; omega) _⟩ ⟨W.heap.size, W.heap.size + 1, by omega, by omega, (Blk.new W 34 _).alloc _, Blk.at' (W.alloc _) 45 _ (by simp), rfl⟩
  case body =>
    rintro l pre x a' W hl ⟨r, hr⟩ ⟨⟨⟨V, hV, hrow, _⟩, hT9⟩, hB⟩ ⟨Bx, By, hBx, hBy, bX, bY, rfl⟩ hlt
    have hz := hB.size
    have hzw : w.heap.size ≤ W.heap.size := by omega
    have hc := hV.cell
    have hf := hV.frozen
    have x0 := bX.cell 0
    have x1 := bX.cell 1
    have y0 := bY.cell 0
    have y1 := bY.cell 1
    have y2 := bY.cell 2
    have y3 := bY.cell 3
    have y4 := bY.cell 4
    have y5 := bY.cell 5
    have y6 := bY.cell 6
    have y7 := bY.cell 7
    have y8 := bY.cell 8
    have y9 := bY.cell 9
    have y10 := bY.cell 10
    have ly := bY.lt
    have lx := bX.lt
    have hln := hlen pre hlt
    have hne := hT9.not_row (by decide) hrow
    gi_wp2_with (gi_at_builtin; refine wpListIn_append_own _ rfl _ _ 112 rfl w.heap.size 114 i0 (.agg #[.int .i64 0, .int .u64 0, .int .i64 0, .int .u64 0, .int .i64 0, .int .u64 0, .int .u64 0, .int .i64 0, .int .u64 0, .int .i64 0, .int .i64 0, .int .u64 0, .int .i64 0]) 13 104 Try.underlying112 hi0 hz0 hz1 hz2 rfl (by decide) _ _ _ rfl (hrow.alloc _) ⟨W.heap.size, 0, none⟩ 1 1 [.int .i64 x.i, .int .u64 x.q, .int .i64 x.x.pi, .int .u64 x.x.pg, .int .i64 x.x.gs, .int .u64 x.x.cpu, .int .u64 x.x.per, .int .i64 x.x.cgs, .int .u64 x.x.car, .int .i64 x.x.own, .int .i64 x.x.live, .int .u64 x.x.used, .int .i64 x.x.ch] rfl rfl (World.news_of_block (cs := #[.int .i64 x.i, .int .u64 x.q, .int .i64 x.x.pi, .int .u64 x.x.pg, .int .i64 x.x.gs, .int .u64 x.x.cpu, .int .u64 x.x.per, .int .i64 x.x.cgs, .int .u64 x.x.car, .int .i64 x.x.own, .int .i64 x.x.live, .int .u64 x.x.used, .int .i64 x.x.ch]) (t := 114) (fr := (0, 0)) (heap_alloc_new W _)) (by simp [Value.oneCell']) (by unfold maxLen; omega) (by omega) (by simp; omega) ?_; intro v' w1 hown' hgrow _; obtain ⟨g', cap', rfl⟩ := ownsRow_succ hown'; obtain ⟨hv1, hv2, hr2, hk2, hb2⟩ := hV.appended (by decide) hrow hzw (Nat.le_refl _) hown' hgrow; have hc1 := hv1.cell; have hf1 := hv1.frozen; have hT8 := ((hT9.alloc (.cells #[.int .i64 x.i, .int .u64 x.q, .int .i64 x.x.pi, .int .u64 x.x.pg, .int .i64 x.x.gs, .int .u64 x.x.cpu, .int .u64 x.x.per, .int .i64 x.x.cgs, .int .u64 x.x.car, .int .i64 x.x.own, .int .i64 x.x.live, .int .u64 x.x.used, .int .i64 x.x.ch] 114)).kept hgrow hne).other (B' := w.heap.size) (by omega) (.slice (some ⟨g', 0, none⟩) (pre.length + 1) cap'))
    refine ⟨hk2.from _, ⟨hb2.size, fun k hk => ?_⟩, ⟨⟨⟨_, hv2, ?_, trivial⟩, hT8⟩, hB.trans hb2⟩⟩
    · rcases List.mem_cons.1 hk with rfl | hk
      · exact hT8.trans hT9.symm
      · exact hb2.block k (hT.lt k hk)
    · rw [plcCells_snoc, List.length_append]; exact hr2
  case done =>
    rintro D zs W hD rfl ⟨⟨⟨V, hV, hrow, _⟩, hT9⟩, hB⟩ hK
    have hz := hB.size
    have cS := hV.cell
    gi_wp2
    refine ⟨by simp, .inl ⟨_, _, rfl, run_takeDeferred hK, ?_⟩⟩
    have hgD := grownBy_putObj' W D (.deferred none)
    have hD2 : some w.heap.size ≠ some D := by intro e; cases e; omega
    refine ⟨_, results_tmp rfl _ _ _, ⟨w.heap.size, rfl, Nat.le_refl _, by have := (hV.kept hgD hD2).lt; exact this, V, (hV.kept hgD hD2).cell, Row.of_own (ownsRow_putObj hrow _ hK rfl), fun k hk => ⟨?_, Row.lt (Row.of_own (ownsRow_putObj hrow (.deferred none) hK rfl)) k hk⟩⟩, (hB0.trans hB).trans (belowK_b (w := w) (Nat.le_refl _) W D _ _ (by omega) hK rfl rfl)⟩
    rcases hrow.2 with ⟨rfl, _⟩ | ⟨g', cap, cur, rfl, hb, _, _⟩
    · cases hk
    · simp [foot_some] at hk; subst hk; exact hb
  case stop =>
    rintro D c pre W _ _ h _
    exact h.elim
end Go.Proofs
end
section
namespace Go.Proofs
open Go.RowKit Go.Shelf
set_option linter.unusedVariables false

/-- A captured box, and the slice of names that it holds; both were made from n0 on, and lie below hi. -/
structure HeldTo (n0 hi : Nat) (W : World) (B : Nat) (xs : List Plc) : Prop where
  ge : n0 ≤ B
  lt : B < hi
  top : hi ≤ W.heap.size
  row : ∃ V, W.cell? ⟨B, 0, none⟩ = some V ∧ Row W 114 13 V xs.length (plcCells xs) ∧ (∀ k ∈ foot V, n0 ≤ k ∧ k < hi)
theorem Held.to {n0 : Nat} {W : World} {B : Nat} {xs : List Plc} (h : Held n0 W B xs) : HeldTo n0 W.heap.size W B xs := ⟨h.ge, h.lt, Nat.le_refl _, h.row⟩
/-- What changes blocks that lie ahead of it, or behind it, leaves it as it is. -/
theorem HeldTo.chg {n0 hi : Nat} {W W' : World} {B : Nat} {xs : List Plc} {S : List Nat} (h : HeldTo n0 hi W B xs) (hc : Chg S W W') (hS : ∀ k ∈ S, k < n0 ∨ hi ≤ k) : HeldTo n0 hi W' B xs := by
  obtain ⟨h1, h2, h3, V, hV, hR, hf⟩ := h
  refine ⟨h1, h2, Nat.le_trans h3 hc.size, V, ?_, hR.chg hc (fun k hk hm => ?_), hf⟩
  · rw [hc.cell (p := ⟨B, 0, none⟩) (Nat.lt_of_lt_of_le h2 h3) (fun hm => by have := hS _ hm; simp only at this; omega)]
    exact hV
  · have a := hf k hk
    have b := hS k hm
    omega
theorem HeldTo.below {n0 hi D : Nat} {W W' : World} {B : Nat} {xs : List Plc} (h : HeldTo n0 hi W B xs) (hb : Below D W W') (hD : hi ≤ D) : HeldTo n0 hi W' B xs := by
  obtain ⟨h1, h2, h3, V, hV, hR, hf⟩ := h
  exact ⟨h1, h2, Nat.le_trans h3 hb.size, V, (hb.cell (p := ⟨B, 0, none⟩) (Nat.lt_of_lt_of_le h2 hD)).trans hV, hR.same (fun k hk => hb.block k (Nat.lt_of_lt_of_le (hf k hk).2 hD)), hf⟩

theorem HeldTo.keep {n0 hi : Nat} {X : Nat → Prop} {W W' : World} {B : Nat} {xs : List Plc} (h : HeldTo n0 hi W B xs) (hk : KeepP X W W') (hX : ∀ k, n0 ≤ k → k < hi → X k) : HeldTo n0 hi W' B xs := by
  obtain ⟨h1, h2, h3, V, hV, hR, hf⟩ := h
  exact ⟨h1, h2, Nat.le_trans h3 hk.size, V, (hk.cell (p := ⟨B, 0, none⟩) (hX B h1 h2)).trans hV, hR.same (fun k hm => hk.block k (hX k (hf k hm).1 (hf k hm).2)), hf⟩
/-- The iterator that All hands out, for a range over it. -/
theorem over_stops {β : Type} (f : β → Plc) (n : Nat) (hn : 1 ≤ n) {n0 hi B : Nat} {X : Nat → Prop} {xs : List β} {w : World} (h : HeldTo n0 hi w B (xs.map f)) (hX : ∀ k, n0 ≤ k → k < hi → X k) (hXw : ∀ k, X k → k < w.heap.size) (hl : xs.length ≤ 5000) :
    SeqStopsK Fence.wide n Try.prog 73 #[.pointer (some ⟨B, 0, none⟩)] (fun x => Plc.encs (f x)) (KeepP X) (fun ys => ys = xs) (fun pre => pre <+: xs) xs.length w := fun l J Jx W hW hJ _ hY h0 => by
  obtain ⟨h1, h2, h3, V, hV, hR, hf⟩ := h
  rw [List.length_map] at hR
  exact over_in f n hn l B X V xs w hXw (hX B h1 h2) hV hR (fun k hk => hX k (hf k hk).1 (hf k hk).2) hl J Jx W (KeepP.below hW hXw) hJ hY h0
end Go.Proofs
end
section
namespace Go.Proofs
open Go.RowKit Go.Shelf
set_option linter.unusedVariables false
set_option linter.unusedSimpArgs false
attribute [local go_sem] Oper.semAt_some

theorem ownsRow_mono {W : World} {n m : Nat} {t : TypeId} {z : Nat} {V : Value} {k : Nat} {xs : List Value} (h : m ≤ n) (hr : W.ownsRow n t z V k xs) : W.ownsRow m t z V k xs :=
  ⟨hr.1, hr.2.imp id fun ⟨g, cap, cur, e, hb, r⟩ => ⟨g, cap, cur, e, by omega, r⟩⟩

set_option maxRecDepth 100000 in
set_option maxHeartbeats 3200000 in
/-- **All** of the domains: what is gathered, in a slice of the call's own. -/
theorem allD_in (n : Nat) (hn : 10 ≤ n) {w : World} {c N : Nat} {S : List Nat} {t : Tab Dm} (h : DomAt w c S t) (hN : t.size = (N : Nat)) :
    CallsIn Fence.wide n Try.prog 14 #[ptr c] w fun e W' => ∃ A cc, e = .returned (.slice A (nowL t N).length cc) ∧ Row W' 47 13 (.slice A (nowL t N).length cc) (nowL t N).length (plcCells (nowL t N)) ∧ (∀ k ∈ foot (.slice A (nowL t N).length cc), w.heap.size ≤ k) ∧ Below w.heap.size w W' := by
  obtain ⟨g, hB, hT, hW⟩ := h
  have h1 : 1 ≤ n := by omega
  have hN4 : N ≤ 4096 := by have := hW.s1; omega
  have HP := Lib.hid (fun W (hc : Chg [] w W) => places_any (hB.chg hc (by simp)))
  have HA := Lib.hid (fun W (hc : Chg [] w W) => all_in (n - 1) (by omega) g N S t hW hN W (hT.quiet hc))
  clear hB hT hW
  have hnl := nowL_len t N
  obtain ⟨XS, hXS⟩ : ∃ XS, XS = nowL t N := ⟨_, rfl⟩
  rw [← hXS] at HA hnl ⊢
  refine callsIn_of_wp_marks Try.func14 rfl trivial ?_ rfl
  simp only [Try.ntmps14, List.size_toArray, List.length_cons, List.length_nil, Nat.reduceAdd, Nat.reduceSub, Array.replicate_succ, Array.replicate_zero, List.push_toArray, List.append_toArray, List.nil_append, List.cons_append]
  gi_wp2_with (first
    | (refine ⟨trivial, ?_⟩; gi_at_call 44; refine (callsIn_wide.2 (HP.out _ ((Chg.refl _ _).alloc _))).mono ?_; rintro e w' ⟨rfl, rfl⟩)
    | (refine ⟨trivial, ?_⟩; gi_at_call 45; refine (HA.out _ ((Chg.refl _ _).alloc _)).mono ?_; rintro e W0 ⟨⟨Bo, rfl, hH⟩, hBl⟩; have HH := Lib.hid hH; have HBL := Lib.hid hBl; clear hH hBl))
  have hz0 := HBL.out.size
  simp only [World.size_alloc] at hz0
  have hBx : Boxed W0 w.heap.size 38 (.slice none 0 0) := (HBL.out.block _ (by simp)).trans (Boxed.new w 38 (.slice none 0 0))
  have hB0 : Below w.heap.size w W0 := ((Below.refl _ w).alloc (Nat.le_refl _) _).trans (HBL.out.mono (by simp))
  have hHT := HH.out.to
  simp only [World.size_alloc] at hHT
  have hmap : XS.map id = XS := by simp
  rw [← hmap] at hHT
  obtain ⟨in0, hi0, hq0, hq1, hq2⟩ := info_parts Try.plc_info
  have lbo := hHT.lt
  refine wpIn_rangeFunc_ownH rfl h1 (gf := 73) (lb := #[.pointer (some ⟨Bo, 0, none⟩)]) rfl trivial (enters_of Try.func73 (by kernel_rfl) rfl)
    (over_stops id (n - 1) (by omega) (X := fun k => w.heap.size + 1 ≤ k ∧ k < W0.heap.size) hHT (fun k h1 h2 => ⟨h1, h2⟩) (fun k hk => hk.2) (by omega)) (fun h k => h.trans k)
    (fun W l o o' hl ho _ _ => ⟨by simp [World.putObj], fun k hk => (grownBy_putObj' W l o').block k (by have := (Array.getElem?_eq_some_iff.1 ho).1; omega) (fun e => by cases e; omega)⟩)
    (Below.refl _ _) (fun _ => rfl)
    (fun pre W => (∃ V, Boxed W w.heap.size 38 V ∧ W.ownsRow W0.heap.size 47 13 V pre.length (plcCells pre) ∧ True) ∧ Below w.heap.size W0 W)
    (fun _ _ _ => False)
    (OwnFrom.and (Own.from (holdsRow_own W0.heap.size w.heap.size 38 47 13 (fun pre : List Plc => pre.length) (fun pre => plcCells pre) (fun pre v => True)) _) (ownFrom_below (by omega) (by omega)))
    (fun _ _ _ _ _ hs _ _ => hs)
    ⟨⟨_, hBx, World.ownsRow_nil _ _ _ _, trivial⟩, Below.refl _ _⟩
    (fun x a' W => ∃ Bx By, W0.heap.size ≤ Bx ∧ W0.heap.size ≤ By ∧ Blk W Bx 34 #[.int .i64 x.i, .int .u64 x.q] ∧ Blk W By 45 x.x.arr ∧ a' = { tmps := #[ptr c, undef, .slice none 0 0, .pointer (some ⟨w.heap.size, 0, none⟩), .pointer (some ⟨Bx, 0, none⟩), .pointer (some ⟨By, 0, none⟩), ptr c, ptr g, .func (.func 73) #[] #[.pointer (some ⟨Bo, 0, none⟩)], .agg #[.int .i64 x.i, .int .u64 x.q], x.x.val, undef, undef, undef, undef, undef, undef, undef], defers := [] })
    (fun x a' _ X Y row hs hg hr => by
      obtain ⟨Bx, By, h1, h1', h2, h2', h3⟩ := hs
      have k : ∀ {b : Nat} {t : TypeId} {cs : Array Value}, Blk X b t cs → Blk Y b t cs := fun {b t cs} h2 => h2.same (hg.block b h2.lt (fun e => by
        obtain ⟨_, o, ho, hc⟩ := hr b e.symm
        unfold Blk at h2
        rw [h2] at ho; cases ho; cases hc))
      exact ⟨Bx, By, h1, h1', k h2, k h2', h3⟩)
    ?assign ?body ?done ?stop
  case assign =>
    rintro l pre x W K ⟨⟨V, hV, hr, _⟩, hB⟩ hK
    have hz := hB.size
    simp only [Plc.encs, id]
    gi_wp2
    exact hK _ _ (((KeepsOthers.alloc _ _).trans (KeepsOthers.alloc _ _)).from _) (KeepP.quiet (((Chg.refl [] W).alloc _).alloc _) (fun k hk => by omega)) ⟨⟨V, (hV.alloc _).alloc _, (hr.alloc _).alloc _, trivial⟩, (hB.alloc (by omega) _).alloc (by simp; omega) _⟩ ⟨W.heap.size, W.heap.size + 1, by omega, by omega, (Blk.new W 34 _).alloc _, Blk.at' (W.alloc _) 45 _ (by simp), rfl⟩
  case body =>
    rintro l pre x a' W hl ⟨r, hr⟩ ⟨⟨V, hV, hrow, _⟩, hB⟩ ⟨Bx, By, hBx, hBy, bX, bY, rfl⟩ hlt
    have hz := hB.size
    have hc := hV.cell
    have hf := hV.frozen
    have x0 := bX.cell 0
    have x1 := bX.cell 1
    have ly := bY.lt
    have lx := bX.lt
    obtain ⟨_, y0, y1, y2, y3, y4, y5, y6, y7, y8, y9, y10, yf⟩ := x_facts bY
    have hzw : w.heap.size ≤ W.heap.size := by omega
    gi_wp2_with (gi_at_builtin; refine wpListIn_append_own _ rfl _ _ 38 rfl W0.heap.size 47 in0 (.agg #[.int .i64 0, .int .u64 0, .int .i64 0, .int .u64 0, .int .i64 0, .int .u64 0, .int .u64 0, .int .i64 0, .int .u64 0, .int .i64 0, .int .i64 0, .int .u64 0, .int .i64 0]) 13 104 Try.underlying38 hi0 hq0 hq1 hq2 rfl (by decide) _ _ _ rfl (hrow.alloc _) ⟨W.heap.size, 0, none⟩ 1 1 [.int .i64 x.i, .int .u64 x.q, .int .i64 x.x.pi, .int .u64 x.x.pg, .int .i64 x.x.gs, .int .u64 x.x.cpu, .int .u64 x.x.per, .int .i64 x.x.cgs, .int .u64 x.x.car, .int .i64 x.x.own, .int .i64 x.x.live, .int .u64 x.x.used, .int .i64 x.x.ch] rfl rfl (World.news_of_block (cs := #[.int .i64 x.i, .int .u64 x.q, .int .i64 x.x.pi, .int .u64 x.x.pg, .int .i64 x.x.gs, .int .u64 x.x.cpu, .int .u64 x.x.per, .int .i64 x.x.cgs, .int .u64 x.x.car, .int .i64 x.x.own, .int .i64 x.x.live, .int .u64 x.x.used, .int .i64 x.x.ch]) (t := 47) (fr := (0, 0)) (heap_alloc_new W _)) (by simp [Value.oneCell']) (by unfold maxLen; omega) (by omega) (by simp; omega) ?_; intro v' w1 hown' hgrow _; obtain ⟨g', cap', rfl⟩ := ownsRow_succ hown'; obtain ⟨hv1, hv2, hr2, hk2, hb2⟩ := hV.appended (by decide) (ownsRow_mono (m := w.heap.size) (by omega) hrow) (by omega) (Nat.le_refl _) (ownsRow_mono (by omega) hown') hgrow; have hr3 := hown'.kept (grownBy_setCell' w1 w.heap.size (.slice (some ⟨g', 0, none⟩) (pre.length + 1) cap')) (.inr (hv1.not_row (by decide) hown').symm); have hc1 := hv1.cell; have hf1 := hv1.frozen)
    refine ⟨hk2.from _, ⟨hb2.size, fun k hk => ?_⟩, ⟨⟨_, hv2, ?_, trivial⟩, hB.trans hb2⟩⟩
    · obtain ⟨hka, hkb⟩ := hk
      have e1 := hgrow.block k (by simp; omega) (fun e => by
        rcases hrow.2 with ⟨rfl, _⟩ | ⟨g1, cap, cur, rfl, hb, _, _⟩
        · have e' : (none : Option Nat) = some k := e.symm
          cases e'
        · have e' : (some g1 : Option Nat) = some k := e.symm
          cases e'; omega)
      rw [((grownBy_setCell' w1 w.heap.size _).block k (by have := hgrow.size; simp at this; omega) (fun e => by cases e; omega)), e1]
      exact ((Chg.refl [] W).alloc _).block k (by omega) (by simp)
    · rw [plcCells_snoc, List.length_append]; exact hr3
  case done =>
    rintro D zs W hD rfl ⟨⟨V, hV, hrow, _⟩, hB⟩ hK
    have hz := hB.size
    have cS := hV.cell
    gi_wp2
    refine ⟨by simp, .inl ⟨_, _, rfl, run_takeDeferred hK, ?_⟩⟩
    have hgD := grownBy_putObj' W D (.deferred none)
    have hR := Row.of_own (ownsRow_putObj hrow (.deferred none) hK rfl)
    have hB9 := (hB0.trans hB).trans (belowK_b (w := w) (Nat.le_refl _) W D _ (.deferred none) (by omega) hK rfl rfl)
    rcases hrow.2 with ⟨rfl, h0⟩ | ⟨g', cap, cur, rfl, hb, _, _⟩
    · refine ⟨_, results_tmp rfl _ _ _, none, 0, by simp [h0], by rw [h0] at hR ⊢; exact hR, (fun k hk => by cases hk), hB9⟩
    · refine ⟨_, results_tmp rfl _ _ _, some ⟨g', 0, none⟩, cap, rfl, hR, fun k hk => ?_, hB9⟩
      simp [foot_some] at hk; subst hk; omega
  case stop =>
    rintro D c pre W _ _ h _
    exact h.elim

theorem allD_any {w : World} {c N : Nat} {S : List Nat} {t : Tab Dm} (h : DomAt w c S t) (hN : t.size = (N : Nat)) :
    Calls Try.prog 14 #[ptr c] w fun e W' => ∃ A cc, e = .returned (.slice A (nowL t N).length cc) ∧ Row W' 47 13 (.slice A (nowL t N).length cc) (nowL t N).length (plcCells (nowL t N)) ∧ (∀ k ∈ foot (.slice A (nowL t N).length cc), w.heap.size ≤ k) ∧ Below w.heap.size w W' :=
  (callsIn_wide (n := 12)).1 (allD_in 12 (by omega) h hN)
end Go.Proofs
end
