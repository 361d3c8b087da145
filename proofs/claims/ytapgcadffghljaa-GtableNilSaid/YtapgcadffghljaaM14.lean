import Derived.Test.YtapgcadffghljaaM9
import Derived.Test.YtapgcadffghljaaM13
import Derived.Deep.Slices
import Derived.Deep.Fields
import Derived.ChangeSame
import Derived.Carry
import Derived.ProofKit
import Derived.OpenShut
import Derived.Test.YtapgcadffghljaaRows
import Derived.Deep.CutRange
import Derived.Deep.RegionWith
section
namespace Go.Proofs
open Go.ChangeShapes Go.WideShapes Go.ChangeAt Go.RowKit Go.Deep
set_option linter.unusedVariables false
set_option maxRecDepth 100000
theorem spot_none {W : World} {a : Addr} {u : Value} (h : W.cell? ((a.add 0).add 0) = some u) : a.spot = none ∧ a.block < W.heap.size := by
  have e0 : (a.add 0).add 0 = a := by unfold Addr.add; simp
  rw [e0] at h
  refine ⟨?_, World.block_lt_of_cell? W _ h⟩
  unfold World.cell? at h
  split at h
  · split at h
    · cases h
    · rename_i hns; simpa using hns
  · cases h
/-! ### What came in, element by element -/
def Ins {α : Type} (enc : α → List Value) (ok : α → Prop) (s : Nat) (w : World) (V : Value) (l : List α) : Prop :=
  ∃ A c, V = .slice A l.length c ∧ ∀ (k : Nat) (a : α), l[k]? = some a → ∃ b off, A = some ⟨b, off, none⟩ ∧ b < w.heap.size ∧ ok a ∧
    ∀ (j : Nat) (u : Value), (enc a)[j]? = some u → w.cell? ⟨b, off + k * s + j, none⟩ = some u
section
variable {α : Type} {enc : α → List Value} {ok : α → Prop} {s : Nat} {w : World}
theorem Ins.open_ {V : Value} {l : List α} (h : Ins enc ok s w V l) : ∃ A c, V = .slice A l.length c := by
  obtain ⟨A, c, h1, _⟩ := h; exact ⟨A, c, h1⟩
theorem Ins.is_ {A : Option Addr} {n c : Nat} {l : List α} (h : Ins enc ok s w (.slice A n c) l) {k : Nat} (hk : k < n) :
    ∃ b off a, A = some ⟨b, off, none⟩ ∧ l[k]? = some a ∧ ok a ∧ b < w.heap.size ∧ ∀ W, Chg [] w W → ∀ (j : Nat) (u : Value), (enc a)[j]? = some u → W.cell? ⟨b, off + k * s + j, none⟩ = some u := by
  obtain ⟨A', c', hv, ho⟩ := h
  simp only [Value.slice.injEq] at hv
  obtain ⟨rfl, rfl, rfl⟩ := hv
  obtain ⟨a, ha⟩ : ∃ a, l[k]? = some a := ⟨_, List.getElem?_eq_getElem hk⟩
  obtain ⟨b, off, rfl, hb, hf, h2⟩ := ho k a ha
  exact ⟨b, off, a, rfl, ha, hf, hb, fun W hc j u hj => (hc.cell (p := ⟨b, off + k * s + j, none⟩) hb (by simp)).trans (h2 j u hj)⟩
end

def Ac.cells (x : Ac) : List Value := x.arr.toList
theorem Ac.cells_len (x : Ac) : x.cells.length = 24 := by unfold Ac.cells; simp [Ac.size]
abbrev Acts (w : World) (V : Value) (l : List Ac) : Prop := Ins Ac.cells Ac.Fits 24 w V l
section
variable {H : Type} {enc : TypeId × Value → H} {w : World} {base : Nat} {held : Bool}
/-- Elements that came in. -/
theorem open_insT {α : Type} [Inhabited α] {cells : α → List Value} {ok : α → Prop} {s : Nat} {ty el : TypeId} (hty : Try.prog.underlying ty = some (.slice el)) (hce : Try.prog.cellsOf el = s) (hs : ∀ a, (cells a).length = s) (hs1 : 1 ≤ s)
    {W : World} (each1 : ∀ {fuel : Nat} {cs : List Value} {x : DataW H × List MemPlace}, DataW.trod enc Try.prog W 0 (fun _ => true) true fuel el cs = some x → ∃ a, ok a ∧ cs = cells a)
    {fuel : Nat} {cs : List Value} {x : DataW H × List MemPlace} (hf : DataW.trod enc Try.prog W 0 (fun _ => true) true fuel ty cs = some x) :
    ∃ V l, cs = [V] ∧ Ins cells ok s W V l := by
  rcases open_slice hty hf with ⟨hcs, _⟩ | ⟨a, len, cap, m, n, D, Pl, hcs, hb, hl, hm, hmm, hx, hi⟩
  · exact ⟨_, [], hcs, none, 0, rfl, fun k a hk => by simp at hk⟩
  · refine ⟨.slice (some a) len cap, ?_⟩
    have hml : len ≤ m := by rw [hmm]; simp; exact hl
    rcases Nat.eq_zero_or_pos len with h0 | h0
    · subst h0
      exact ⟨[], hcs, some a, cap, rfl, fun k a hk => by simp at hk⟩
    · have each : ∀ i, i < m → ∃ a1 : α, ok a1 ∧ ∀ (j : Nat) (u : Value), (cells a1)[j]? = some u → W.cell? ((a.add (i * s)).add j) = some u := fun i him => by
        obtain ⟨cs', hc, ht⟩ := hi i him
        rw [hce] at hc
        obtain ⟨a1, hf1, rfl⟩ := each1 ht
        obtain ⟨_, _, hat⟩ := World.cells?_some hc
        exact ⟨a1, hf1, fun j u hj => (hat j (by have := (List.getElem?_eq_some_iff.1 hj).1; rw [hs] at this; exact this)).trans hj⟩
      obtain ⟨hsp, hbl⟩ : a.spot = none ∧ a.block < W.heap.size := by
        obtain ⟨a1, _, hc⟩ := each 0 (by omega)
        have := hc 0 _ (List.getElem?_eq_getElem (by rw [hs]; omega))
        rw [Nat.zero_mul] at this
        exact spot_none this
      obtain ⟨b, off, sp⟩ := a
      simp only at hsp hbl
      subst hsp
      have hadd : ∀ i j, ((⟨b, off, none⟩ : Addr).add (i * s)).add j = ⟨b, off + i * s + j, none⟩ := fun i j => by
        unfold Addr.add
        by_cases h1 : i * s = 0 <;> by_cases h2 : j = 0 <;> simp [h1, h2] <;> omega
      refine ⟨(List.range len).map (fun i => if h : i < m then (each i h).choose else default), hcs, some ⟨b, off, none⟩, cap, by simp, ?_⟩
      intro k a1 hk
      rw [List.getElem?_map, Option.map_eq_some_iff] at hk
      obtain ⟨k', hk', rfl⟩ := hk
      obtain ⟨hk1, rfl⟩ := List.getElem?_eq_some_iff.1 hk'
      simp only [List.length_range] at hk1
      rw [List.getElem_range]
      rw [dif_pos (by omega : k < m)]
      obtain ⟨q1, q2⟩ := (each k (by omega)).choose_spec
      exact ⟨b, off, rfl, hbl, q1, fun j u hj => by have := q2 j u hj; rw [hadd] at this; exact this⟩
theorem open_ins {α : Type} [Inhabited α] {cells : α → List Value} {ok : α → Prop} {s : Nat} {ty el : TypeId} (hty : Try.prog.underlying ty = some (.slice el)) (hce : Try.prog.cellsOf el = s) (hs : ∀ a, (cells a).length = s) (hs1 : 1 ≤ s)
    {W : World} (each1 : ∀ {fuel : Nat} {cs : List Value} {x : DataW H × List MemPlace}, DataW.trod enc Try.prog W 0 (fun _ => true) true fuel el cs = some x → ∃ a, ok a ∧ cs = cells a)
    {v : Value} {d : DataW H} {ps : List MemPlace} (hv : Value.okWide Try.prog W .any 0 ty v) (h : DataW.Trod enc Try.prog W 0 (fun _ => true) true ty v d ps) : ∃ l, Ins cells ok s W v l := by
  obtain ⟨fuel, hf⟩ := h
  obtain ⟨a', len', cap', rfl⟩ := okWide_slice hty hv
  obtain ⟨V, l, e, hI⟩ := open_insT hty hce hs hs1 each1 hf
  simp [Value.cells] at e
  subst e
  exact ⟨l, hI⟩
theorem bounds_u8 {n : Int} (h : (Lit.int .u8 n).wf = true) : 0 ≤ n ∧ n < 256 := by
  simp [Lit.wf] at h
  have e0 : IntKind.u8.min = 0 := by kernel_rfl
  have e1 : IntKind.u8.max = 255 := by kernel_rfl
  omega
theorem byte_of {n : Int} (h : 0 ≤ n ∧ n < 256) : ∃ x : UInt8, n = (x.toNat : Int) := by
  refine ⟨UInt8.ofNat n.toNat, ?_⟩
  rw [UInt8.toNat_ofNat', Nat.mod_eq_of_lt (by omega)]; omega
theorem open_ref {fuel : Nat} {cs : List Value} {x : DataW H × List MemPlace} (h : DataW.trod enc Try.prog w base (fun _ => true) held fuel 33 cs = some x) : ∃ i g : Int, inI i ∧ cs = [.int .i64 i, .int .u64 g] := by
  obtain ⟨xs, n, _, _, hlen, hxl, hf⟩ := DataW.trod_struct Try.underlying33 h
  have h8 : Try.prog.cellsOf 33 = 2 := by kernel_rfl
  have h3 : Try.prog.cellsOf 3 = 1 := by kernel_rfl
  have h9 : Try.prog.cellsOf 31 = 1 := by kernel_rfl
  rw [h8] at hlen
  match cs, hlen with
  | [c0, c1], _ =>
    match xs, hxl with
    | [y0, y1], _ =>
      have g0 := hf 0 _ rfl
      have g1 := hf 1 _ rfl
      simp [h9, h3] at g0 g1
      obtain ⟨A, e0, _, w0⟩ := DataW.trod_int Try.underlying3 g0
      obtain ⟨B, e1, _, w1⟩ := DataW.trod_int Try.underlying31 g1
      simp only [List.cons.injEq, and_true] at e0 e1
      subst e0 e1
      have hb := bounds_i64 w0
      exact ⟨A, B, ⟨by omega, by omega⟩, rfl⟩
theorem open_regs {fuel : Nat} {cs : List Value} {x : DataW H × List MemPlace} (h : DataW.trod enc Try.prog w base (fun _ => true) held fuel 35 cs = some x) :
    ∃ r : Nat → Int, (∀ i, 0 ≤ r i) ∧ (∀ i, r i < 18446744073709551616) ∧ cs = [.int .u64 (r 0), .int .u64 (r 1), .int .u64 (r 2), .int .u64 (r 3), .int .u64 (r 4), .int .u64 (r 5), .int .u64 (r 6), .int .u64 (r 7)] := by
  obtain ⟨xs, n, _, _, hlen, hxl, hf⟩ := DataW.trod_array Try.underlying35 h
  have h8 : Try.prog.cellsOf 35 = 8 := by kernel_rfl
  have h1 : Try.prog.cellsOf 31 = 1 := by kernel_rfl
  rw [h8] at hlen
  rw [h1] at hf
  have each : ∀ i, i < 8 → ∃ n : Int, (0 ≤ n ∧ n < 18446744073709551616) ∧ cs[i]? = some (.int .u64 n) := fun i hi => by
    have hx : ∃ y, xs[i]? = some y := ⟨_, List.getElem?_eq_getElem (by omega)⟩
    obtain ⟨y, hy⟩ := hx
    have := hf i hi
    rw [hy] at this
    obtain ⟨n, e, _, wn⟩ := DataW.trod_int Try.underlying31 this
    refine ⟨n, by have := bounds_u64 wn; omega, ?_⟩
    have e2 := congrArg (·[0]?) e
    simp [List.getElem?_drop] at e2
    exact e2
  refine ⟨fun i => if h : i < 8 then (each i h).choose else 0, fun i => ?_, fun i => ?_, ?_⟩
  · dsimp only; split
    · rename_i h; exact (each i h).choose_spec.1.1
    · omega
  · dsimp only; split
    · rename_i h; exact (each i h).choose_spec.1.2
    · omega
  · apply List.ext_getElem?
    intro i
    by_cases hi : i < 8
    · have hc := (each i hi).choose_spec.2
      rw [hc]
      have : i = 0 ∨ i = 1 ∨ i = 2 ∨ i = 3 ∨ i = 4 ∨ i = 5 ∨ i = 6 ∨ i = 7 := by omega
      rcases this with rfl | rfl | rfl | rfl | rfl | rfl | rfl | rfl <;> rfl
    · rw [List.getElem?_eq_none (by omega), List.getElem?_eq_none (by simp; omega)]
theorem open_gc {fuel : Nat} {cs : List Value} {x : DataW H × List MemPlace} (h : DataW.trod enc Try.prog w base (fun _ => true) held fuel 37 cs = some x) : ∃ g : Gr, 0 ≤ g.un ∧ inI g.st ∧ cs = g.arr.toList := by
  obtain ⟨xs, n, _, _, hlen, hxl, hf⟩ := DataW.trod_struct Try.underlying37 h
  have h8 : Try.prog.cellsOf 37 = 19 := by kernel_rfl
  have h23 : Try.prog.cellsOf 34 = 1 := by kernel_rfl
  have h4 : Try.prog.cellsOf 4 = 1 := by kernel_rfl
  have h26 : Try.prog.cellsOf 33 = 2 := by kernel_rfl
  have h5 : Try.prog.cellsOf 5 = 1 := by kernel_rfl
  have h3 : Try.prog.cellsOf 3 = 1 := by kernel_rfl
  have h27 : Try.prog.cellsOf 35 = 8 := by kernel_rfl
  have h28 : Try.prog.cellsOf 24 = 1 := by kernel_rfl
  have h24 : Try.prog.cellsOf 31 = 1 := by kernel_rfl
  rw [h8] at hlen
  match cs, hlen with
  | [c0, c1, c2, c3, c4, c5, c6, c7, c8, c9, c10, c11, c12, c13, c14, c15, c16, c17, c18], _ =>
    match xs, hxl with
    | [y0, y1, y2, y3, y4, y5, y6, y7, y8, y9], _ =>
      have g0 := hf 0 _ rfl
      have g1 := hf 1 _ rfl
      have g2 := hf 2 _ rfl
      have g3 := hf 3 _ rfl
      have g4 := hf 4 _ rfl
      have g5 := hf 5 _ rfl
      have g6 := hf 6 _ rfl
      have g7 := hf 7 _ rfl
      have g8 := hf 8 _ rfl
      have g9 := hf 9 _ rfl
      simp [h23, h4, h26, h5, h3, h27, h28, h24] at g0 g1 g2 g3 g4 g5 g6 g7 g8 g9
      obtain ⟨st, e0, _, w0⟩ := DataW.trod_int Try.underlying34 g0
      obtain ⟨su, e1, _⟩ := DataW.trod_bool Try.underlying4 g1
      obtain ⟨d0, d1, _, e2⟩ := open_ref g2
      obtain ⟨cc0, cc1, _, e3⟩ := open_ref g3
      obtain ⟨af, e4, _, w4⟩ := DataW.trod_int Try.underlying5 g4
      obtain ⟨pg, e5, _, w5⟩ := DataW.trod_int Try.underlying3 g5
      obtain ⟨pc, e6, _, w6⟩ := DataW.trod_int Try.underlying3 g6
      obtain ⟨r, r0, r1, e7⟩ := open_regs g7
      obtain ⟨cd, e8, _, w8⟩ := DataW.trod_int Try.underlying24 g8
      obtain ⟨un, e9, _, w9⟩ := DataW.trod_int Try.underlying31 g9
      simp only [List.cons.injEq, and_true] at e0 e1 e2 e3 e4 e5 e6 e7 e8 e9
      obtain ⟨rfl, rfl⟩ := e2
      obtain ⟨rfl, rfl⟩ := e3
      obtain ⟨rfl, rfl, rfl, rfl, rfl, rfl, rfl, rfl⟩ := e7
      subst e0 e1 e4 e5 e6 e8 e9
      obtain ⟨ab, rfl⟩ := byte_of (bounds_u8 w4)
      have hst := bounds_i64 w0
      have hun := bounds_u64 w9
      exact ⟨⟨st, su, d0, d1, cc0, cc1, ab, pg, pc, r, cd, un⟩, by show 0 ≤ un; omega, ⟨by show _ ≤ st; omega, by show st ≤ _; omega⟩, rfl⟩
theorem open_g {v : Value} {d : DataW H} {ps : List MemPlace} {r : Reach} {b0 : Nat} (hv : Value.okWide Try.prog w r b0 37 v) (h : DataW.Trod enc Try.prog w base (fun _ => true) held 37 v d ps) : ∃ g : Gr, 0 ≤ g.un ∧ inI g.st ∧ v = g.val := by
  obtain ⟨cs, rfl, _⟩ := okWide_struct Try.underlying37 hv
  obtain ⟨fuel, hf⟩ := h
  obtain ⟨g, h0, h1, e⟩ := open_gc hf
  refine ⟨g, h0, h1, ?_⟩
  simp only [Value.cells] at e
  rw [Array.toList_inj] at e
  rw [e]
theorem open_act {fuel : Nat} {cs : List Value} {x : DataW H × List MemPlace} (h : DataW.trod enc Try.prog w base (fun _ => true) held fuel 39 cs = some x) : ∃ a : Ac, a.Fits ∧ cs = a.cells := by
  obtain ⟨xs, n, _, _, hlen, hxl, hf⟩ := DataW.trod_struct Try.underlying39 h
  have h8 : Try.prog.cellsOf 39 = 24 := by kernel_rfl
  have h3 : Try.prog.cellsOf 3 = 1 := by kernel_rfl
  have h33 : Try.prog.cellsOf 33 = 2 := by kernel_rfl
  have h34 : Try.prog.cellsOf 34 = 1 := by kernel_rfl
  have h37 : Try.prog.cellsOf 37 = 19 := by kernel_rfl
  rw [h8] at hlen
  match cs, hlen with
  | c0 :: c1 :: c2 :: c3 :: cs, hlen =>
    match xs, hxl with
    | [y0, y1, y2, y3, y4], _ =>
      have g0 := hf 0 _ rfl
      have g1 := hf 1 _ rfl
      have g2 := hf 2 _ rfl
      have g3 := hf 3 _ rfl
      have g4 := hf 4 _ rfl
      simp [h3, h33, h34, h37] at g0 g1 g2 g3 g4
      obtain ⟨k, e0, _, w0⟩ := DataW.trod_int Try.underlying3 g0
      obtain ⟨ri, rq, hri, e1⟩ := open_ref g1
      obtain ⟨at_, e2, _, w2⟩ := DataW.trod_int Try.underlying3 g2
      obtain ⟨g, hun, _, e3⟩ := open_gc g3
      obtain ⟨tov, e4, _, w4⟩ := DataW.trod_int Try.underlying34 g4
      simp only [List.cons.injEq, and_true] at e0 e1 e2
      obtain ⟨rfl, rfl⟩ := e1
      subst e0 e2
      have b2 := bounds_i64 w2
      have b4 := bounds_i64 w4
      refine ⟨⟨k, ri, rq, at_, g, tov⟩, ⟨hri, ⟨by show _ ≤ at_; omega, by show at_ ≤ _; omega⟩, ⟨by show _ ≤ tov; omega, by show tov ≤ _; omega⟩, hun⟩, ?_⟩
      have e5 : cs = cs.take 19 ++ cs.drop 19 := (List.take_append_drop 19 cs).symm
      have e6 : cs.drop 19 = [.int .i64 tov] := by
        rw [List.take_of_length_le (by simp at hlen ⊢; omega)] at e4
        exact e4
      unfold Ac.cells Ac.arr
      simp only [Array.toList_append]
      rw [e5, e3, e6]
      rfl
instance : Inhabited Ac := ⟨⟨0, 0, 0, 0, Gr.zero, 0⟩⟩
section
variable {v : Value} {d : DataW H} {ps : List MemPlace} {W : World}
theorem open_acts (hv : Value.okWide Try.prog W .any 0 22 v) (h : DataW.Trod enc Try.prog W 0 (fun _ => true) true 22 v d ps) : ∃ l, Acts W v l :=
  open_ins (cells := Ac.cells) (ok := Ac.Fits) (s := 24) Try.underlying22 (by kernel_rfl) Ac.cells_len (by omega) (fun h => open_act h) hv h
end
end
section
variable {H : Type} {enc : TypeId × Value → H} {P : Program}
theorem post_of_below {f : Func} {s : ChangeSpec} {apart fresh handsOn again : Bool} {W W' : World} {args : Array Value} {v : Value} {ds gs : List (DataW H)} {before pa pv : List MemPlace}
    (hW : DataW.Whole enc P f.params.toList s.vars apart W args.toList ds gs before)
    (hres : ∀ (b : Nat) (sp : Nat → Bool) (hd : Bool), DataW.TrodAll enc P W' b sp hd f.resultTypes.toList (v.resultList f.resultTypes.size) (s.fn H (ds ++ gs)).results [])
    (hargs : ∀ sp : Nat → Bool, (∀ p ∈ before, sp p.block = true) → DataW.TrodAll enc P W' 0 sp true f.params.toList args.toList (s.fn H (ds ++ gs)).args pa)
    (hvars : ∀ sp : Nat → Bool, (∀ p ∈ before, sp p.block = true) → DataW.TrodVars enc P W' sp s.vars (s.fn H (ds ++ gs)).vars pv)
    (hps : before = pa ++ pv) (hb : Below W.heap.size W W')
    (hok : ∀ (j : Nat) (t : TypeId) (r : Value), f.resultTypes[j]? = some t → (v.resultList f.resultTypes.size)[j]? = some r → Value.okWide P W' .any 0 t r) :
    s.post enc P f apart fresh handsOn again W args v W' := by
  have hlt : ∀ p ∈ before, p.block < W.heap.size := fun p hp => hW.lt p hp
  have hold : ∀ p ∈ before, (fun b => decide (b < W.heap.size)) p.block = true := fun p hp => by simpa using hlt p hp
  refine ⟨ds, gs, before, [], pa, pv, hW, hres _ _ _, hargs _ hold, hvars _ hold, World.keptBut_mono (fun p hp => ⟨hp, ?_⟩) (hb.frame (· ∈ before)), fun _ => ?_⟩
  · rw [hps, List.mem_append] at hp
    exact Or.inr hp
  · obtain ⟨_, _, _, _, _, hz, hn⟩ := hW
    refine ⟨hok, _, _, ([] ++ pa) ++ pv, ⟨[] ++ pa, pv, trodAll_append (hargs _ (fun _ _ => rfl)) (hres _ _ _), hvars _ (fun _ _ => rfl), rfl, ?_, ?_⟩, ?_⟩
    · intro b off hp
      have hin : MemPlace.cell b off ∈ before := by rw [hps]; simpa using hp
      rw [hb.frozen (hlt _ hin)]
      exact hz b off hin
    · intro ha
      have := hn ha
      rw [hps] at this
      simpa using this
    · intro p hp _
      rw [hps]
      simpa using hp
end
theorem Try.laidOut : laidOutB Try.prog = true := by kernel_rfl
end Go.Proofs
end
section
namespace Go.Proofs
open Go.RowKit
set_option linter.unusedVariables false
set_option linter.unusedSimpArgs false

theorem doc_live {t : Tab Gr} {N M k : Nat} {s : Spot Gr} (h : Inv t N M) (hs : (docT t).L[k]? = some s) : t.live (k : Nat) = if s.there = true then some s else none := by
  rw [doc_at] at hs
  by_cases hk : k < t.spots.length
  · rw [if_pos hk] at hs
    cases hb : s.there
    · rw [if_neg (by simp)]
      cases hl : t.live (k : Nat) with
      | none => rfl
      | some s' => have := live_nat.1 hl; rw [hs] at this; obtain ⟨e, e2⟩ := this; cases e; rw [hb] at e2; cases e2
    · rw [if_pos rfl]; exact live_nat.2 ⟨hs, hb⟩
  · rw [if_neg hk] at hs
    split at hs
    · cases hs
      rw [if_neg (by simp)]
      cases hl : t.live (k : Nat) with
      | none => rfl
      | some s' => have := (List.getElem?_eq_some_iff.1 (live_nat.1 hl).1).1; omega
    · cases hs
theorem live_out {t : Tab Gr} {N M : Nat} {i : Int} (h : Inv t N M) (hi : i < 0 ∨ (N : Nat) ≤ i) : t.live i = none := by
  cases hl : t.live i with
  | none => rfl
  | some s =>
    obtain ⟨k, hk, hs⟩ : ∃ k : Nat, i = (k : Nat) ∧ t.spots[k]? = some s := by
      unfold Tab.live Tab.spot? at hl
      by_cases h0 : 0 ≤ i
      · rw [if_pos h0] at hl
        refine ⟨i.toNat, by omega, ?_⟩
        cases hq : t.spots[i.toNat]? with
        | none => rw [hq] at hl; cases hl
        | some s' => rw [hq] at hl; simp [Option.filter] at hl; rw [← hl.2]
      · rw [if_neg h0] at hl; cases hl
    have h1 := (List.getElem?_eq_some_iff.1 hs).1
    have h2 := h.len
    omega
theorem cnt_step {α : Type} (p : α → Bool) {l : List α} {k : Nat} {x : α} (h : l[k]? = some x) : ((l.take (k + 1)).filter p).length = ((l.take k).filter p).length + (if p x = true then 1 else 0) := by
  rw [take_one_more l k x h, List.filter_append, List.length_append]
  by_cases hp : p x = true
  · simp [hp]
  · simp [hp]
theorem cnt_get {α : Type} (p : α → Bool) {l : List α} {k : Nat} {x : α} (h : l[k]? = some x) (hp : p x = true) : (l.filter p)[((l.take k).filter p).length]? = some x := by
  have hk := (List.getElem?_eq_some_iff.1 h).1
  have e : l.filter p = (l.take k).filter p ++ (l.drop k).filter p := by rw [← List.filter_append, List.take_append_drop]
  rw [e, List.getElem?_append_right (Nat.le_refl _), Nat.sub_self, ← List.getElem_cons_drop hk, (List.getElem?_eq_some_iff.1 h).2, List.filter_cons, if_pos hp]
  rfl
set_option maxRecDepth 100000 in
set_option maxHeartbeats 6400000 in
theorem same_any {w : World} {gb c p N M : Nat} {S T : List Nat} {VR : Value} {t : Tab Gr} {rs : List (Int × Int)} (h : GameIn w gb c p S T VR t rs) (hI : Inv t N M) (hM : M < 1000) :
    Calls Try.prog 12 #[ptr gb] w fun e w' => e = .returned (.bool true) ∧ Chg [] w w' := by
  have HG := Lib.hid h
  have HI := Lib.hid hI
  have HB := Lib.hid h.b
  have lgb := h.b.lt
  have hN64 := hI.n64
  have hdl := docL_len hI
  obtain ⟨L, hL⟩ : ∃ L, L = nowL t N := ⟨_, rfl⟩
  obtain ⟨BS, hBS⟩ : ∃ B, B = affL (nowL t N) N := ⟨_, rfl⟩
  have hBl : BS.length = N := by rw [hBS]; simp [affL]
  have hLl : L.length ≤ N := by rw [hL]; exact nowL_len t N
  have HA := Lib.hid (All_any h.g hI.size)
  have HRA := Lib.hid (fun W (hc : Chg [] w W) => (rAll_any (h.d.quiet hc) (by rw [hdl]; exact hN64)).mono (R' := fun e w' => ∃ A cc, e = .returned (.slice A L.length cc) ∧ Row w' 49 21 (.slice A L.length cc) L.length (plcCells L) ∧ Chg [] W w') (fun e w' hh => by rw [hdl, doc_all hI, ← hL] at hh; obtain ⟨A, cc, h1, h2, _, h4⟩ := hh; exact ⟨A, cc, h1, h2, h4⟩))
  have HLV := Lib.hid (fun W (hc : Chg [] w W) => (Live_any (h.g.quiet hc)).mono (R' := fun e w' => e = .returned (.int .i64 (L.length : Nat)) ∧ Chg [] W w') (fun e w' hh => by rw [live_len hI hM, ← hL] at hh; exact hh))
  have HAF := Lib.hid (fun W (hc : Chg [] w W) => (Aff_any (h.g.quiet hc) hI.size).mono (R' := fun e w' => ∃ V, e = .returned V ∧ Row w' 5 1 V BS.length (bys BS) ∧ Chg [] W w') (fun e w' hh => by rw [← hBS] at hh; obtain ⟨V, h1, h2, _, h4⟩ := hh; exact ⟨V, h1, by rw [hBl]; exact h2, h4⟩))
  have HRF := Lib.hid (fun W (hc : Chg [] w W) => (rAff_any (h.d.quiet hc) (by rw [hdl]; exact hN64)).mono (R' := fun e w' => ∃ V, e = .returned V ∧ Row w' 5 1 V BS.length (bys BS) ∧ Chg [] W w') (fun e w' hh => by rw [doc_aff hI, ← hBS] at hh; obtain ⟨V, h1, h2, _, h4⟩ := hh; exact ⟨V, h1, h2, h4⟩))
  have HAT := Lib.hid (fun (i : Int) (hi : inI i) W (hc : Chg [] w W) => At_any (h.g.quiet hc) i hi)
  have HOF := Lib.hid (fun (s : Int) W (hc : Chg [] w W) => (Of_any (h.g.quiet hc) hI.size s).mono (R' := fun e w' => ∃ A cc, e = .returned (.slice A (L.filter fun p => p.x.st == s).length cc) ∧ Row w' 33 2 (.slice A (L.filter fun p => p.x.st == s).length cc) (L.filter fun p => p.x.st == s).length (refCells (L.filter fun p => p.x.st == s)) ∧ Chg [] W w') (fun e w' hh => by rw [← hL] at hh; obtain ⟨A, cc, h1, h2, _, h4⟩ := hh; exact ⟨A, cc, h1, h2, Chg.of_below h4⟩))
  rw [← hL] at HA
  have hne9 : ∀ W : World, (binOp .neq 9 (.string ⟨BS.toArray⟩) (.string ⟨BS.toArray⟩)).run Try.prog W = .ok (.bool false) W := fun W => neq_str _ W
  clear hBl hBS hL hdl h hI
  obtain ⟨m, hm⟩ : ∃ m, m = L.length := ⟨_, rfl⟩
  have Hm := Lib.hid hm
  rw [← hm] at HA HRA HLV hLl
  clear hm
  have hb0 := HB.out.cell 0
  go_enter Try.func12, Try.ntmps12
  go_upto_region 2 with (go_at_call 13; refine HA.out.mono ?_; rintro e w1 ⟨AL, cL, rfl, hRL, _, hBlw⟩)
  have hc1 : Chg [] w w1 := Chg.of_below hBlw
  clear hBlw
  have hRL9 := Lib.hid hRL
  go_cut [49] from 17 to 49 (fun s49 wx => s49 = .bool false ∧ Hid (Chg [] w1 wx))
  case first =>
    have hcD : Chg [] w1 w1.drew := (Chg.refl [] w1).drew
    refine wp_region_held_drew (S := fun w' => Blk w' gb 45 #[ptr c, ptr p, VR]) (by kernel_rfl) (HB.out.chg (hc1.then hcD) (by simp)) (fun hHeld => ?_)
    simp only [List.setIfInBounds_toArray, List.size_toArray, List.length_cons, List.length_nil, Array.replicate]
    refine wpAnyH_take (i := 0) (v := ?_) rfl (by kernel_rfl) (by kernel_rfl) (by kernel_rfl) (fun _ _ _ h => h) (Or.inl ⟨by rfl, ?_⟩) hHeld ?_
    rotate_left
    · (intro w' hSw; go_simp; try with_reducible rfl)
    simp only [Act.put, List.getElem_toArray, List.getElem_cons_succ, List.getElem_cons_zero, List.setIfInBounds_toArray, List.set_cons_zero, List.set_cons_succ]
    refine wpAnyH_take (i := 1) (v := ?_) rfl (by kernel_rfl) (by kernel_rfl) (by kernel_rfl) (fun _ _ _ h => h) (Or.inl ⟨by rfl, ?_⟩) hHeld ?_
    rotate_left
    · (intro w' hSw; go_simp; try with_reducible rfl)
    simp only [Act.put, List.getElem_toArray, List.getElem_cons_succ, List.getElem_cons_zero, List.setIfInBounds_toArray, List.set_cons_zero, List.set_cons_succ]
    refine wpAnyH_take (i := 2) (v := ?_) rfl (by kernel_rfl) (by kernel_rfl) (by kernel_rfl) (fun _ _ _ h => h) (Or.inl ⟨by rfl, ?_⟩) hHeld ?_
    rotate_left
    · (intro w' hSw; go_simp; try with_reducible rfl)
    simp only [Act.put, List.getElem_toArray, List.getElem_cons_succ, List.getElem_cons_zero, List.setIfInBounds_toArray, List.set_cons_zero, List.set_cons_succ]
    refine wpAnyH_take (i := 3) (v := ?_) rfl (by kernel_rfl) (by kernel_rfl) (by kernel_rfl) (fun _ _ _ h => h) (Or.inl ⟨by rfl, ?_⟩) hHeld ?_
    rotate_left
    · (intro w' hSw; go_simp; try with_reducible rfl)
    simp only [Act.put, List.getElem_toArray, List.getElem_cons_succ, List.getElem_cons_zero, List.setIfInBounds_toArray, List.set_cons_zero, List.set_cons_succ]
    refine wpAnyH_take (i := 4) (v := ?_) rfl (by kernel_rfl) (by kernel_rfl) (by kernel_rfl) (fun _ _ _ h => h) (Or.inl ⟨by rfl, ?_⟩) hHeld ?_
    rotate_left
    · (intro w' hSw; have q0 := hSw.cell 1; simp only [List.getElem?_toArray, List.getElem?_cons_zero, List.getElem?_cons_succ] at *; go_simp; try with_reducible rfl)
    simp only [Act.put, List.getElem_toArray, List.getElem_cons_succ, List.getElem_cons_zero, List.setIfInBounds_toArray, List.set_cons_zero, List.set_cons_succ]
    refine wpAnyH_ready (rs := [5]) (by kernel_rfl) (by simp) ?_
    refine AllReadyH.cons rfl (fun K hK => ?_) AllReadyH.nil
    go_simp
    refine (HRA.out _ (hc1.then hcD)).mono ?_
    rintro e w2 ⟨AD, cD, rfl, hRD, hc2⟩
    refine hK _ _ (hHeld.chg hc2 (by simp)) (fun hHeld => ?_)
    clear hK K
    simp only [Act.put, List.getElem_toArray, List.getElem_cons_succ, List.getElem_cons_zero, List.setIfInBounds_toArray, List.set_cons_zero, List.set_cons_succ]
    refine wpAnyH_ready (rs := [6]) (by kernel_rfl) (by simp) ?_
    refine AllReadyH.cons rfl (fun K hK => ?_) AllReadyH.nil
    go_simp
    have hRL2 : Row w2 49 21 (.slice AL m cL) L.length (plcCells L) := by have := (hRL.drew).chg hc2 (fun _ _ hk => by cases hk); rw [← Hm.out]; exact this
    have hRD2 : Row w2 49 21 (.slice AD m cD) L.length (plcCells L) := by rw [← Hm.out]; exact hRD
    have hSM := sameL_any hRL2 hRD2 (by rw [← Hm.out]; omega) (by rw [← Hm.out]; omega)
    rw [eqL_refl] at hSM
    refine hSM.mono ?_
    rintro e w3 ⟨rfl, nn, hn3⟩
    have hc3 : Chg [] w1 w3 := by rw [hn3]; exact (hcD.then hc2).drewN nn
    have hHb := HB.out.chg (hc1.then hc3) (by simp)
    clear hn3
    refine hK _ _ hHb (fun hHeld => ?_)
    clear hK K
    simp only [Act.put, List.getElem_toArray, List.getElem_cons_succ, List.getElem_cons_zero, List.setIfInBounds_toArray, List.set_cons_zero, List.set_cons_succ]
    refine wpAnyH_take (i := 7) (v := ?_) rfl (by kernel_rfl) (by kernel_rfl) (by kernel_rfl) (fun _ _ _ h => h) (Or.inl ⟨by rfl, ?_⟩) hHeld ?_
    rotate_left
    · (intro w' hSw; go_simp; try with_reducible rfl)
    simp only [Act.put, List.getElem_toArray, List.getElem_cons_succ, List.getElem_cons_zero, List.setIfInBounds_toArray, List.set_cons_zero, List.set_cons_succ]
    refine wpAnyH_take (i := 8) (v := ?_) rfl (by kernel_rfl) (by kernel_rfl) (by kernel_rfl) (fun _ _ _ h => h) (Or.inl ⟨by rfl, ?_⟩) hHeld ?_
    rotate_left
    · (intro w' hSw; go_simp; try with_reducible rfl)
    simp only [Act.put, List.getElem_toArray, List.getElem_cons_succ, List.getElem_cons_zero, List.setIfInBounds_toArray, List.set_cons_zero, List.set_cons_succ]
    refine wpAnyH_take (i := 9) (v := ?_) rfl (by kernel_rfl) (by kernel_rfl) (by kernel_rfl) (fun _ _ _ h => h) (Or.inl ⟨by rfl, ?_⟩) hHeld ?_
    rotate_left
    · (intro w' hSw; go_simp; try with_reducible rfl)
    simp only [Act.put, List.getElem_toArray, List.getElem_cons_succ, List.getElem_cons_zero, List.setIfInBounds_toArray, List.set_cons_zero, List.set_cons_succ]
    refine wpAnyH_take (i := 10) (v := ?_) rfl (by kernel_rfl) (by kernel_rfl) (by kernel_rfl) (fun _ _ _ h => h) (Or.inl ⟨by rfl, ?_⟩) hHeld ?_
    rotate_left
    · (intro w' hSw; go_simp; try with_reducible rfl)
    simp only [Act.put, List.getElem_toArray, List.getElem_cons_succ, List.getElem_cons_zero, List.setIfInBounds_toArray, List.set_cons_zero, List.set_cons_succ]
    refine wpAnyH_take (i := 11) (v := ?_) rfl (by kernel_rfl) (by kernel_rfl) (by kernel_rfl) (fun _ _ _ h => h) (Or.inl ⟨by rfl, ?_⟩) hHeld ?_
    rotate_left
    · (intro w' hSw; go_simp; try with_reducible rfl)
    simp only [Act.put, List.getElem_toArray, List.getElem_cons_succ, List.getElem_cons_zero, List.setIfInBounds_toArray, List.set_cons_zero, List.set_cons_succ]
    refine wpAnyH_take (i := 12) (v := ?_) rfl (by kernel_rfl) (by kernel_rfl) (by kernel_rfl) (fun _ _ _ h => h) (Or.inl ⟨by rfl, ?_⟩) hHeld ?_
    rotate_left
    · (intro w' hSw; have q0 := hSw.cell 0; simp only [List.getElem?_toArray, List.getElem?_cons_zero, List.getElem?_cons_succ] at *; go_simp; try with_reducible rfl)
    simp only [Act.put, List.getElem_toArray, List.getElem_cons_succ, List.getElem_cons_zero, List.setIfInBounds_toArray, List.set_cons_zero, List.set_cons_succ]
    refine wpAnyH_take (i := 14) (v := ?_) rfl (by kernel_rfl) (by kernel_rfl) (by kernel_rfl) (fun _ _ _ h => h) (Or.inl ⟨by rfl, ?_⟩) hHeld ?_
    rotate_left
    · (intro w' hSw; go_simp; try with_reducible rfl)
    simp only [Act.put, List.getElem_toArray, List.getElem_cons_succ, List.getElem_cons_zero, List.setIfInBounds_toArray, List.set_cons_zero, List.set_cons_succ]
    refine wpAnyH_take (i := 15) (v := ?_) rfl (by kernel_rfl) (by kernel_rfl) (by kernel_rfl) (fun _ _ _ h => h) (Or.inl ⟨by rfl, ?_⟩) hHeld ?_
    rotate_left
    · (intro w' hSw; go_simp; try with_reducible rfl)
    simp only [Act.put, List.getElem_toArray, List.getElem_cons_succ, List.getElem_cons_zero, List.setIfInBounds_toArray, List.set_cons_zero, List.set_cons_succ]
    refine wpAnyH_ready (rs := [13]) (by kernel_rfl) (by simp) ?_
    refine AllReadyH.cons rfl (fun K hK => ?_) AllReadyH.nil
    go_simp
    refine (HLV.out _ (hc1.then hc3)).mono ?_
    rintro e w4 ⟨rfl, hc4⟩
    have hc4w := hc3.then hc4
    refine hK _ _ (hHeld.chg hc4 (by simp)) (fun hHeld => ?_)
    clear hK K
    simp only [Act.put, List.getElem_toArray, List.getElem_cons_succ, List.getElem_cons_zero, List.setIfInBounds_toArray, List.set_cons_zero, List.set_cons_succ]
    refine wpAnyH_take (i := 16) (v := ?_) rfl (by kernel_rfl) (by kernel_rfl) (by kernel_rfl) (fun _ _ _ h => h) (Or.inl ⟨by rfl, ?_⟩) hHeld ?_
    rotate_left
    · (intro w' hSw; go_simp; try with_reducible rfl)
    simp only [Act.put, List.getElem_toArray, List.getElem_cons_succ, List.getElem_cons_zero, List.setIfInBounds_toArray, List.set_cons_zero, List.set_cons_succ]
    refine wpAnyH_take (i := 17) (v := ?_) rfl (by kernel_rfl) (by kernel_rfl) (by kernel_rfl) (fun _ _ _ h => h) (Or.inl ⟨by rfl, ?_⟩) hHeld ?_
    rotate_left
    · (intro w' hSw; go_simp; try with_reducible rfl)
    simp only [Act.put, List.getElem_toArray, List.getElem_cons_succ, List.getElem_cons_zero, List.setIfInBounds_toArray, List.set_cons_zero, List.set_cons_succ]
    refine wpAnyH_take (i := 18) (v := ?_) rfl (by kernel_rfl) (by kernel_rfl) (by kernel_rfl) (fun _ _ _ h => h) (Or.inl ⟨by rfl, ?_⟩) hHeld ?_
    rotate_left
    · (intro w' hSw; go_simp; try with_reducible rfl)
    simp only [Act.put, List.getElem_toArray, List.getElem_cons_succ, List.getElem_cons_zero, List.setIfInBounds_toArray, List.set_cons_zero, List.set_cons_succ]
    refine wpAnyH_take (i := 19) (v := ?_) rfl (by kernel_rfl) (by kernel_rfl) (by kernel_rfl) (fun _ _ _ h => h) (Or.inl ⟨by rfl, ?_⟩) hHeld ?_
    rotate_left
    · (intro w' hSw; go_simp; try with_reducible rfl)
    simp only [Act.put, List.getElem_toArray, List.getElem_cons_succ, List.getElem_cons_zero, List.setIfInBounds_toArray, List.set_cons_zero, List.set_cons_succ]
    refine wpAnyH_take (i := 20) (v := ?_) rfl (by kernel_rfl) (by kernel_rfl) (by kernel_rfl) (fun _ _ _ h => h) (Or.inl ⟨by rfl, ?_⟩) hHeld ?_
    rotate_left
    · (intro w' hSw; go_simp; try with_reducible rfl)
    simp only [Act.put, List.getElem_toArray, List.getElem_cons_succ, List.getElem_cons_zero, List.setIfInBounds_toArray, List.set_cons_zero, List.set_cons_succ]
    refine wpAnyH_take (i := 21) (v := ?_) rfl (by kernel_rfl) (by kernel_rfl) (by kernel_rfl) (fun _ _ _ h => h) (Or.inl ⟨by rfl, ?_⟩) hHeld ?_
    rotate_left
    · (intro w' hSw; go_simp; try with_reducible rfl)
    simp only [Act.put, List.getElem_toArray, List.getElem_cons_succ, List.getElem_cons_zero, List.setIfInBounds_toArray, List.set_cons_zero, List.set_cons_succ]
    refine wpAnyH_take (i := 22) (v := ?_) rfl (by kernel_rfl) (by kernel_rfl) (by kernel_rfl) (fun _ _ _ h => h) (Or.inl ⟨by rfl, ?_⟩) hHeld ?_
    rotate_left
    · (intro w' hSw; have q0 := hSw.cell 0; simp only [List.getElem?_toArray, List.getElem?_cons_zero, List.getElem?_cons_succ] at *; go_simp; try with_reducible rfl)
    simp only [Act.put, List.getElem_toArray, List.getElem_cons_succ, List.getElem_cons_zero, List.setIfInBounds_toArray, List.set_cons_zero, List.set_cons_succ]
    refine wpAnyH_take (i := 25) (v := ?_) rfl (by kernel_rfl) (by kernel_rfl) (by kernel_rfl) (fun _ _ _ h => h) (Or.inl ⟨by rfl, ?_⟩) hHeld ?_
    rotate_left
    · (intro w' hSw; go_simp; try with_reducible rfl)
    simp only [Act.put, List.getElem_toArray, List.getElem_cons_succ, List.getElem_cons_zero, List.setIfInBounds_toArray, List.set_cons_zero, List.set_cons_succ]
    refine wpAnyH_take (i := 26) (v := ?_) rfl (by kernel_rfl) (by kernel_rfl) (by kernel_rfl) (fun _ _ _ h => h) (Or.inl ⟨by rfl, ?_⟩) hHeld ?_
    rotate_left
    · (intro w' hSw; go_simp; try with_reducible rfl)
    simp only [Act.put, List.getElem_toArray, List.getElem_cons_succ, List.getElem_cons_zero, List.setIfInBounds_toArray, List.set_cons_zero, List.set_cons_succ]
    refine wpAnyH_take (i := 27) (v := ?_) rfl (by kernel_rfl) (by kernel_rfl) (by kernel_rfl) (fun _ _ _ h => h) (Or.inl ⟨by rfl, ?_⟩) hHeld ?_
    rotate_left
    · (intro w' hSw; go_simp; try with_reducible rfl)
    simp only [Act.put, List.getElem_toArray, List.getElem_cons_succ, List.getElem_cons_zero, List.setIfInBounds_toArray, List.set_cons_zero, List.set_cons_succ]
    refine wpAnyH_take (i := 28) (v := ?_) rfl (by kernel_rfl) (by kernel_rfl) (by kernel_rfl) (fun _ _ _ h => h) (Or.inl ⟨by rfl, ?_⟩) hHeld ?_
    rotate_left
    · (intro w' hSw; have q0 := hSw.cell 1; simp only [List.getElem?_toArray, List.getElem?_cons_zero, List.getElem?_cons_succ] at *; go_simp; try with_reducible rfl)
    simp only [Act.put, List.getElem_toArray, List.getElem_cons_succ, List.getElem_cons_zero, List.setIfInBounds_toArray, List.set_cons_zero, List.set_cons_succ]
    refine wpAnyH_ready (rs := [23]) (by kernel_rfl) (by simp) ?_
    refine AllReadyH.cons rfl (fun K hK => ?_) AllReadyH.nil
    go_simp
    refine (HAF.out _ (hc1.then hc4w)).mono ?_
    rintro e w5 ⟨V9, rfl, hR9, hc5⟩
    have hc5w := hc4w.then hc5
    have hcv9 := conv_row hR9
    refine hK _ _ (hHeld.chg hc5 (by simp)) (fun hHeld => ?_)
    clear hK K
    simp only [Act.put, List.getElem_toArray, List.getElem_cons_succ, List.getElem_cons_zero, List.setIfInBounds_toArray, List.set_cons_zero, List.set_cons_succ]
    refine wpAnyH_ready (rs := [24, 29]) (by kernel_rfl) (by simp) ?_
    refine AllReadyH.cons rfl (fun K hK => ?_) ?_
    · go_simp
      refine hK _ _ hHeld (fun hHeld => ?_)
      clear hK K
      simp only [Act.put, List.getElem_toArray, List.getElem_cons_succ, List.getElem_cons_zero, List.setIfInBounds_toArray, List.set_cons_zero, List.set_cons_succ]
      refine wpAnyH_ready (rs := [29]) (by kernel_rfl) (by simp) ?_
      refine AllReadyH.cons rfl (fun K hK => ?_) AllReadyH.nil
      go_simp
      refine (HRF.out _ (hc1.then hc5w)).mono ?_
      rintro e w6 ⟨V8, rfl, hR8, hc6⟩
      have hc6w := hc5w.then hc6
      have hcv8 := conv_row hR8
      have hcv9b := conv_row (hR9.chg hc6 (fun _ _ hk => by cases hk))
      refine hK _ _ (hHeld.chg hc6 (by simp)) (fun hHeld => ?_)
      clear hK K
      simp only [Act.put, List.getElem_toArray, List.getElem_cons_succ, List.getElem_cons_zero, List.setIfInBounds_toArray, List.set_cons_zero, List.set_cons_succ]
      refine wpAnyH_ready (rs := [30]) (by kernel_rfl) (by simp) ?_
      refine AllReadyH.cons rfl (fun K hK => ?_) AllReadyH.nil
      go_simp
      refine hK _ _ hHeld (fun hHeld => ?_)
      clear hK K
      simp only [Act.put, List.getElem_toArray, List.getElem_cons_succ, List.getElem_cons_zero, List.setIfInBounds_toArray, List.set_cons_zero, List.set_cons_succ]
      refine wpAnyH_take (i := 31) (v := ?_) rfl (by kernel_rfl) (by kernel_rfl) (by kernel_rfl) (fun _ _ _ h => h) (Or.inl ⟨by rfl, ?_⟩) hHeld ?_
      rotate_left
      · (intro w' hSw; go_simp; try with_reducible rfl)
      simp only [Act.put, List.getElem_toArray, List.getElem_cons_succ, List.getElem_cons_zero, List.setIfInBounds_toArray, List.set_cons_zero, List.set_cons_succ]
      refine wpAnyH_take (i := 32) (v := ?_) rfl (by kernel_rfl) (by kernel_rfl) (by kernel_rfl) (fun _ _ _ h => h) (Or.inl ⟨by rfl, ?_⟩) hHeld ?_
      rotate_left
      · (intro w' hSw; go_simp; try with_reducible rfl)
      simp only [Act.put, List.getElem_toArray, List.getElem_cons_succ, List.getElem_cons_zero, List.setIfInBounds_toArray, List.set_cons_zero, List.set_cons_succ]
      refine wpAnyH_done (by kernel_rfl) ?_ _
      go_wp2
      go_meet
      case rel => exact ⟨rfl, Lib.hid hc6w⟩
    refine AllReadyH.cons rfl (fun K hK => ?_) AllReadyH.nil
    go_simp
    refine (HRF.out _ (hc1.then hc5w)).mono ?_
    rintro e w6 ⟨V8, rfl, hR8, hc6⟩
    have hc6w := hc5w.then hc6
    have hcv8 := conv_row hR8
    have hcv9b := conv_row (hR9.chg hc6 (fun _ _ hk => by cases hk))
    refine hK _ _ (hHeld.chg hc6 (by simp)) (fun hHeld => ?_)
    clear hK K
    simp only [Act.put, List.getElem_toArray, List.getElem_cons_succ, List.getElem_cons_zero, List.setIfInBounds_toArray, List.set_cons_zero, List.set_cons_succ]
    refine wpAnyH_ready (rs := [24, 30]) (by kernel_rfl) (by simp) ?_
    refine AllReadyH.cons rfl (fun K hK => ?_) ?_
    · go_simp
      refine hK _ _ hHeld (fun hHeld => ?_)
      clear hK K
      simp only [Act.put, List.getElem_toArray, List.getElem_cons_succ, List.getElem_cons_zero, List.setIfInBounds_toArray, List.set_cons_zero, List.set_cons_succ]
      refine wpAnyH_ready (rs := [30]) (by kernel_rfl) (by simp) ?_
      refine AllReadyH.cons rfl (fun K hK => ?_) AllReadyH.nil
      go_simp
      refine hK _ _ hHeld (fun hHeld => ?_)
      clear hK K
      simp only [Act.put, List.getElem_toArray, List.getElem_cons_succ, List.getElem_cons_zero, List.setIfInBounds_toArray, List.set_cons_zero, List.set_cons_succ]
      refine wpAnyH_take (i := 31) (v := ?_) rfl (by kernel_rfl) (by kernel_rfl) (by kernel_rfl) (fun _ _ _ h => h) (Or.inl ⟨by rfl, ?_⟩) hHeld ?_
      rotate_left
      · (intro w' hSw; go_simp; try with_reducible rfl)
      simp only [Act.put, List.getElem_toArray, List.getElem_cons_succ, List.getElem_cons_zero, List.setIfInBounds_toArray, List.set_cons_zero, List.set_cons_succ]
      refine wpAnyH_take (i := 32) (v := ?_) rfl (by kernel_rfl) (by kernel_rfl) (by kernel_rfl) (fun _ _ _ h => h) (Or.inl ⟨by rfl, ?_⟩) hHeld ?_
      rotate_left
      · (intro w' hSw; go_simp; try with_reducible rfl)
      simp only [Act.put, List.getElem_toArray, List.getElem_cons_succ, List.getElem_cons_zero, List.setIfInBounds_toArray, List.set_cons_zero, List.set_cons_succ]
      refine wpAnyH_done (by kernel_rfl) ?_ _
      go_wp2
      go_meet
      case rel => exact ⟨rfl, Lib.hid hc6w⟩
    refine AllReadyH.cons rfl (fun K hK => ?_) AllReadyH.nil
    go_simp
    refine hK _ _ hHeld (fun hHeld => ?_)
    clear hK K
    simp only [Act.put, List.getElem_toArray, List.getElem_cons_succ, List.getElem_cons_zero, List.setIfInBounds_toArray, List.set_cons_zero, List.set_cons_succ]
    refine wpAnyH_ready (rs := [24]) (by kernel_rfl) (by simp) ?_
    refine AllReadyH.cons rfl (fun K hK => ?_) AllReadyH.nil
    go_simp
    refine hK _ _ hHeld (fun hHeld => ?_)
    clear hK K
    simp only [Act.put, List.getElem_toArray, List.getElem_cons_succ, List.getElem_cons_zero, List.setIfInBounds_toArray, List.set_cons_zero, List.set_cons_succ]
    refine wpAnyH_take (i := 31) (v := ?_) rfl (by kernel_rfl) (by kernel_rfl) (by kernel_rfl) (fun _ _ _ h => h) (Or.inl ⟨by rfl, ?_⟩) hHeld ?_
    rotate_left
    · (intro w' hSw; go_simp; try with_reducible rfl)
    simp only [Act.put, List.getElem_toArray, List.getElem_cons_succ, List.getElem_cons_zero, List.setIfInBounds_toArray, List.set_cons_zero, List.set_cons_succ]
    refine wpAnyH_take (i := 32) (v := ?_) rfl (by kernel_rfl) (by kernel_rfl) (by kernel_rfl) (fun _ _ _ h => h) (Or.inl ⟨by rfl, ?_⟩) hHeld ?_
    rotate_left
    · (intro w' hSw; go_simp; try with_reducible rfl)
    simp only [Act.put, List.getElem_toArray, List.getElem_cons_succ, List.getElem_cons_zero, List.setIfInBounds_toArray, List.set_cons_zero, List.set_cons_succ]
    refine wpAnyH_done (by kernel_rfl) ?_ _
    go_wp2
    go_meet
    case rel => exact ⟨rfl, Lib.hid hc6w⟩
  case rest =>
    obtain ⟨rfl, hcw⟩ := hcut
    obtain ⟨w2, hw2⟩ : ∃ W, W = wc := ⟨_, rfl⟩
    subst hw2
    obtain ⟨VL, VF, hpB, hpS, hpF, hpSS⟩ := HG.out.d
    obtain ⟨A9, c9, hv9, _⟩ := hpS.val
    rw [hv9] at hpB hpS
    have hdl := docL_len HI.out
    rw [hdl] at hpB hpS
    have HPB := Lib.hid hpB
    have HPS := Lib.hid hpS
    have lp := hpB.lt
    clear hpB hpS hpF hpSS hv9 hRL hdl
    go_wp2
    go_loopg [4] (N + 2) (fun gh iv wr => ∃ i : Int, -1 ≤ i ∧ i + gh = (N : Int) + 1 ∧ iv = .int .i64 i ∧ Hid (Chg [] w1 wr))
    case atStart => exact ⟨-1, by omega, by omega, rfl, hcw⟩
    case round =>
      obtain ⟨i, hi0, hi1, rfl, HW⟩ := hrel
      have hcr := hc1.then HW.out
      have g0 := (HB.out.chg hcr (by simp)).cell 0
      have g1 := (HB.out.chg hcr (by simp)).cell 1
      have p0 := (HPB.out.chg hcr (by simp)).cell 0
      simp only [List.getElem?_toArray, List.getElem?_cons_zero, List.getElem?_cons_succ] at g0 g1 p0
      by_cases hlt : i ≤ (N : Int)
      · have d1 : decide (i ≤ (N : Int)) = true := decide_eq_true hlt
        have hii : inI i := ⟨by omega, by omega⟩
        have hAT := HAT.out i hii _ hcr
        by_cases hr : 0 ≤ i ∧ i < (N : Int)
        · obtain ⟨k, rfl⟩ := Int.eq_ofNat_of_zero_le hr.1
          have hkN : k < N := by omega
          obtain ⟨s, hs⟩ : ∃ s, (docT t).L[k]? = some s := ⟨_, List.getElem?_eq_getElem (by rw [docL_len HI.out]; exact hkN)⟩
          have hlv := doc_live HI.out hs
          obtain ⟨gl, cl, hvl, _, _, hgl, _, ha0, ha1, _, _⟩ := open_spot (by rw [docL_len HI.out]; exact HPS.out) hs
          simp only [Value.slice.injEq] at hvl
          obtain ⟨h90, h91, h92⟩ := hvl
          clear h91 h92
          subst h90
          have k0 : (0 : Int) ≤ (k : Int) := by omega
          have k1 : (k : Int) < (N : Int) := by omega
          have dk0 : decide ((k : Int) ≥ 0) = true := by simp
          have dk0b : decide (0 ≤ (k : Int)) = true := by simp
          have dk1 : decide ((k : Int) < (N : Int)) = true := decide_eq_true k1
          obtain ⟨gn, th, xs⟩ := s
          simp only at ha0 ha1 hlv
          cases th with
          | true =>
            rw [if_pos rfl] at hlv
            have e1 : t.atIdx (k : Nat) = (k : Nat) := by unfold Tab.atIdx; rw [hlv]
            have e2 : t.atGen (k : Nat) = gn := by unfold Tab.atGen; rw [hlv]
            have e3 : t.atIs (k : Nat) = true := by unfold Tab.atIs; rw [hlv]; rfl
            rw [e1, e2, e3] at hAT
            have HATK := Lib.hid hAT
            clear hAT e1 e2 e3
            go_upto_region 8 with (go_at_call 26; refine HATK.out.mono ?_; rintro e w3 ⟨rfl, hc3⟩)
            clear HATK
            have hcx := (hcr.then hc3).alloc (.cells #[.int .i64 (k : Nat), .int .u64 gn] 33)
            have hcx1 := (HW.out.then hc3).alloc (.cells #[.int .i64 (k : Nat), .int .u64 gn] 33)
            have hbx := Blk.new w3 33 #[.int .i64 (k : Nat), .int .u64 gn]
            have g1x := (HB.out.chg hcx (by simp)).cell 1
            have p0x := (HPB.out.chg hcx (by simp)).cell 0
            have b0 := hbx.cell 0
            have b1 := hbx.cell 1
            simp only [List.getElem?_toArray, List.getElem?_cons_zero, List.getElem?_cons_succ] at g1x p0x b0 b1
            have a0x := (hcx.cell (p := ⟨gl, k * 21, none⟩) hgl (by simp)).trans ha0
            have a1x := (hcx.cell (p := ⟨gl, k * 21 + 1, none⟩) hgl (by simp)).trans ha1
            clear ha0 ha1
            have HX := Lib.hid hcx1
            clear hcx hcx1 hbx hc3 g0 g1 p0
            generalize World.alloc w3 _ = wx at *
            generalize w3.heap.size = bx at *
            go_upto_region 9 with (fail)
            go_quiet (fail)
            go_wp2
            go_roundg ((N : Int) - ((k : Int))).toNat
            case measure => omega
            case rel => exact ⟨((k : Int)) + 1, by omega, by omega, by go_num, Lib.hid (HX.out.drewN _)⟩
          | false =>
            rw [if_neg (by simp)] at hlv
            have e1 : t.atIdx (k : Nat) = 0 := by unfold Tab.atIdx; rw [hlv]
            have e2 : t.atGen (k : Nat) = 0 := by unfold Tab.atGen; rw [hlv]
            have e3 : t.atIs (k : Nat) = false := by unfold Tab.atIs; rw [hlv]; rfl
            rw [e1, e2, e3] at hAT
            have HATK := Lib.hid hAT
            clear hAT e1 e2 e3
            go_upto_region 8 with (go_at_call 26; refine HATK.out.mono ?_; rintro e w3 ⟨rfl, hc3⟩)
            clear HATK
            have hcx := (hcr.then hc3).alloc (.cells #[.int .i64 0, .int .u64 0] 33)
            have hcx1 := (HW.out.then hc3).alloc (.cells #[.int .i64 0, .int .u64 0] 33)
            have hbx := Blk.new w3 33 #[.int .i64 0, .int .u64 0]
            have g1x := (HB.out.chg hcx (by simp)).cell 1
            have p0x := (HPB.out.chg hcx (by simp)).cell 0
            have b0 := hbx.cell 0
            have b1 := hbx.cell 1
            simp only [List.getElem?_toArray, List.getElem?_cons_zero, List.getElem?_cons_succ] at g1x p0x b0 b1
            have a0x := (hcx.cell (p := ⟨gl, k * 21, none⟩) hgl (by simp)).trans ha0
            have a1x := (hcx.cell (p := ⟨gl, k * 21 + 1, none⟩) hgl (by simp)).trans ha1
            clear ha0 ha1
            have HX := Lib.hid hcx1
            clear hcx hcx1 hbx hc3 g0 g1 p0
            generalize World.alloc w3 _ = wx at *
            generalize w3.heap.size = bx at *
            have hnr := neqRef 0 0
            go_upto_region 9 with (fail)
            go_quiet (fail)
            go_wp2
            go_roundg ((N : Int) - ((k : Int))).toNat
            case measure => omega
            case rel => exact ⟨((k : Int)) + 1, by omega, by omega, by go_num, Lib.hid (HX.out.drewN _)⟩
        · have hlv := live_out (t := t) (i := i) HI.out (by omega)
          have e1 : t.atIdx i = 0 := by unfold Tab.atIdx; rw [hlv]
          have e2 : t.atGen i = 0 := by unfold Tab.atGen; rw [hlv]
          have e3 : t.atIs i = false := by unfold Tab.atIs; rw [hlv]; rfl
          rw [e1, e2, e3] at hAT
          have HATK := Lib.hid hAT
          clear hAT e1 e2 e3
          go_upto_region 8 with (go_at_call 26; refine HATK.out.mono ?_; rintro e w3 ⟨rfl, hc3⟩)
          clear HATK
          have hcx := (hcr.then hc3).alloc (.cells #[.int .i64 0, .int .u64 0] 33)
          have hcx1 := (HW.out.then hc3).alloc (.cells #[.int .i64 0, .int .u64 0] 33)
          have hbx := Blk.new w3 33 #[.int .i64 0, .int .u64 0]
          have g1x := (HB.out.chg hcx (by simp)).cell 1
          have p0x := (HPB.out.chg hcx (by simp)).cell 0
          have b0 := hbx.cell 0
          have b1 := hbx.cell 1
          simp only [List.getElem?_toArray, List.getElem?_cons_zero, List.getElem?_cons_succ] at g1x p0x b0 b1
          have HX := Lib.hid hcx1
          clear hcx hcx1 hbx hc3 g0 g1 p0
          generalize World.alloc w3 _ = wx at *
          generalize w3.heap.size = bx at *
          have hnr := neqRef 0 0
          by_cases hneg : 0 ≤ i
          · have hin : i = (N : Int) := by omega
            subst hin
            have dk0 : decide ((N : Int) ≥ 0) = true := by simp
            have dk0b : decide (0 ≤ (N : Int)) = true := by simp
            have dk1 : decide ((N : Int) < (N : Int)) = false := by simp
            go_upto_region 9 with (fail)
            go_quiet (fail)
            go_wp2
            go_roundg ((N : Int) - ((N : Int))).toNat
            case measure => omega
            case rel => exact ⟨((N : Int)) + 1, by omega, by omega, by go_num, Lib.hid (HX.out.drewN _)⟩
          · have hin : i = -1 := by omega
            subst hin
            go_upto_region 9 with (fail)
            go_quiet (fail)
            go_wp2
            go_roundg ((N : Int) - ((-1 : Int))).toNat
            case measure => omega
            case rel => exact ⟨((-1 : Int)) + 1, by omega, by omega, by go_num, Lib.hid (HX.out.drewN _)⟩
      · have d1 : decide (i ≤ (N : Int)) = false := decide_eq_false hlt
        go_wp2
        clear g0 g1 p0 d1 hlt hi0 hi1
        go_loopg [8] 7 (fun gh iv wr => ∃ s : Int, 0 ≤ s ∧ s + gh = 7 ∧ iv = .int .i64 s ∧ Hid (Chg [] w1 wr))
        case atStart => exact ⟨0, by omega, by omega, rfl, HW⟩
        case round =>
          obtain ⟨s, hs0, hs1, rfl, HW2⟩ := hrel
          have hcr := hc1.then HW2.out
          have g0 := (HB.out.chg hcr (by simp)).cell 0
          simp only [List.getElem?_toArray, List.getElem?_cons_zero] at g0
          by_cases hs6 : s ≤ 6
          · have d6 : decide (s ≤ 6) = true := decide_eq_true hs6
            have HOFK := Lib.hid (HOF.out s _ hcr)
            obtain ⟨F, hF⟩ : ∃ F, F = L.filter (fun p => p.x.st == s) := ⟨_, rfl⟩
            obtain ⟨cnt, hcnt⟩ : ∃ f : Nat → Nat, f = fun k => ((L.take k).filter (fun p => p.x.st == s)).length := ⟨_, rfl⟩
            have C0 : cnt 0 = 0 := by rw [hcnt]; simp
            have HCS := Lib.hid (fun (k : Nat) (p : Plc) (hp : L[k]? = some p) => (by rw [hcnt]; exact cnt_step _ hp : cnt (k + 1) = cnt k + (if (p.x.st == s) = true then 1 else 0)))
            have HCG := Lib.hid (fun (k : Nat) (p : Plc) (hp : L[k]? = some p) (he : (p.x.st == s) = true) => (by rw [hcnt, hF]; exact cnt_get (fun p : Plc => p.x.st == s) hp he : F[cnt k]? = some p))
            have HCE : Hid (cnt m = F.length) := Lib.hid (by rw [hcnt, hF]; show ((L.take m).filter _).length = _; rw [Hm.out, List.take_length])
            rw [← hF] at HOFK
            have hFl : F.length ≤ m := by rw [hF, Hm.out]; exact List.length_filter_le _ _
            clear hF hcnt
            obtain ⟨nF, hnF⟩ : ∃ n, n = F.length := ⟨_, rfl⟩
            rw [← hnF] at HOFK HCE hFl
            have HNF := Lib.hid hnF
            clear hnF
            go_wp2_with (go_at_call 28; refine HOFK.out.mono ?_; rintro e w4 ⟨AO, cO, rfl, hRO, hc4⟩)
            have HRO := Lib.hid hRO
            have HW4 := Lib.hid (HW2.out.then hc4)
            clear hRO hc4 HOFK g0 hcr
            go_loopg [10, 11] m (fun gh nv iv wr => ∃ (k v : Nat), k + gh = m ∧ iv = .int .i64 k ∧ nv = .int .i64 v ∧ Hid (v = cnt k) ∧ Hid (Chg [] w4 wr))
            case atStart => exact ⟨0, 0, by omega, rfl, rfl, Lib.hid C0.symm, Lib.hid (Chg.refl [] w4)⟩
            case round =>
              obtain ⟨k, v, hk, rfl, rfl, HV, HK⟩ := hrel
              by_cases hkm : k < m
              · have k0 : (0 : Int) ≤ (k : Int) := by omega
                have k1 : (k : Int) < (m : Int) := by omega
                have dk : decide ((k : Int) < (m : Int)) = true := decide_eq_true k1
                obtain ⟨p, hp⟩ : ∃ p, L[k]? = some p := ⟨_, List.getElem?_eq_getElem (by rw [← Hm.out]; exact hkm)⟩
                obtain ⟨gl, cl, hvl, _, _, hcl, _, hgl⟩ := hRL9.out.form (by omega)
                simp only [Value.slice.injEq] at hvl
                obtain ⟨h90, h91, h92⟩ := hvl
                clear h91 h92
                subst h90
                have hcK := HW4.out.then HK.out
                have l0 := (hcK.cell (p := ⟨gl, k * 21, none⟩) hgl (by simp)).trans (hcl _ _ (plcCells_at hp 0 _ p.at0))
                have l1 := (hcK.cell (p := ⟨gl, k * 21 + 1, none⟩) hgl (by simp)).trans (hcl _ _ (plcCells_at hp 1 _ p.at1))
                have l2 := (hcK.cell (p := ⟨gl, k * 21 + 2, none⟩) hgl (by simp)).trans (hcl _ _ (plcCells_at hp (2 + 0) _ (p.atx 0 _ p.x.a0)))
                have hstep := HCS.out k p hp
                have hget := HCG.out k p hp
                generalize p.x.st = st at *
                by_cases hst : st = s
                · subst hst
                  rw [if_pos (by simp)] at hstep
                  have hg := hget (by simp)
                  have hvF : v < nF := by rw [HV.out, HNF.out]; exact (List.getElem?_eq_some_iff.1 hg).1
                  obtain ⟨gf, cf, hvf, _, _, hcf, _, hgf⟩ := HRO.out.form (by omega)
                  simp only [Value.slice.injEq] at hvf
                  obtain ⟨h90, h91, h92⟩ := hvf
                  clear h91 h92
                  subst h90
                  rw [← HV.out] at hg
                  have hqf := refCells_at hg
                  have f0 := (HK.out.cell (p := ⟨gf, v * 2, none⟩) hgf (by simp)).trans (hcf _ _ hqf.1)
                  have f1 := (HK.out.cell (p := ⟨gf, v * 2 + 1, none⟩) hgf (by simp)).trans (hcf _ _ hqf.2)
                  have v0 : (0 : Int) ≤ (v : Int) := by omega
                  have v1 : (v : Int) < (nF : Int) := by omega
                  have dv : decide ((v : Int) ≥ (nF : Int)) = false := by simp; omega
                  have dvb : decide ((nF : Int) ≤ (v : Int)) = false := by simp; omega
                  have dd : (st == st) = true := by simp
                  generalize p.i = pi_ at *
                  generalize p.q = pq at *
                  have hnr := neqRef pi_ pq
                  have HSV := Lib.hid hstep
                  clear hstep hget hg hqf hcl hcf hp hgl hgf hcK
                  go_upto_region 20 with (fail)
                  go_quiet (fail)
                  go_wp2
                  go_roundg (m - k - 1)
                  case measure => omega
                  case rel => exact ⟨k + 1, v + 1, by omega, by go_num, by go_num, Lib.hid (by rw [HSV.out, HV.out]), Lib.hid (HK.out.drewN _)⟩
                · rw [if_neg (by simp; exact hst)] at hstep
                  have dd : (st == s) = false := by simp; exact hst
                  have HSV := Lib.hid hstep
                  clear hstep hget hcl hp hgl hcK l0 l1 hst
                  go_wp2
                  go_roundg (m - k - 1)
                  case measure => omega
                  case rel => exact ⟨k + 1, v, by omega, by go_num, rfl, Lib.hid (by rw [HSV.out, HV.out]; rfl), HK⟩
              · have dk : decide ((k : Int) < (m : Int)) = false := by simp; omega
                have hkm2 : k = m := by omega
                have hvn : v = nF := by rw [HV.out, hkm2, HCE.out]
                subst hvn
                clear hkm2
                go_wp2
                go_roundg (7 - s - 1).toNat
                case measure => omega
                case rel => exact ⟨s + 1, by omega, by omega, by go_num, Lib.hid (HW4.out.then HK.out)⟩
          · have d6 : decide (s ≤ 6) = false := decide_eq_false hs6
            go_wp2
            go_ret
            exact ⟨rfl, hcr⟩
end Go.Proofs
end
section
namespace Go.Proofs
open Go.RowKit
set_option linter.unusedVariables false
set_option linter.unusedSimpArgs false

/-! ### A game, in blocks that were laid since w -/
def Mid (w W : World) (gb N m : Nat) : Prop :=
  ∃ K t rs, GameAt W gb K t rs ∧ Inv t N m ∧ rs.length ≤ m ∧ (∀ x ∈ rs, inI x.1) ∧ (∀ k ∈ K, w.heap.size ≤ k) ∧ Chg [] w W
section
variable {w W W' : World} {gb N m : Nat}
theorem Mid.chg (h : Mid w W gb N m) : Chg [] w W := by obtain ⟨_, _, _, _, _, _, _, _, h⟩ := h; exact h
theorem Mid.quiet (h : Mid w W gb N m) (hc : Chg [] W W') : Mid w W' gb N m := by
  obtain ⟨K, t, rs, ⟨c, p, S, T, VR, hg, rfl⟩, h2, h3, h4, h5, h6⟩ := h
  exact ⟨_, t, rs, ⟨c, p, S, T, VR, hg.quiet hc, rfl⟩, h2, h3, h4, h5, h6.then hc⟩
theorem Mid.do (h : Mid w W gb N m) (hm : m < 500) {x : Ac} (hx : x.Fits) :
    Calls Try.prog 11 #[ptr gb, x.val] W fun e W' => e = .returned (.bool true) ∧ Mid w W' gb N (m + 1) := by
  obtain ⟨K, t, rs, ⟨c, p, S, T, VR, hg, rfl⟩, h2, h3, h4, h5, h6⟩ := h
  refine (do_any hg h2 hm (by omega) h4 x hx).mono ?_
  rintro e W' ⟨rfl, t', rs', a1, a2, a3, K', a4, a5, a6⟩
  refine ⟨rfl, K', t', rs', a4, a1, by omega, a3, fun k hk => ?_, h6.trans a6 (fun k hk => .inr (h5 k hk))⟩
  rcases a5 k hk with h9 | h9
  · exact h5 k h9
  · exact Nat.le_trans h6.size h9
theorem Mid.same (h : Mid w W gb N m) (hm : m < 1000) : Calls Try.prog 12 #[ptr gb] W fun e W' => e = .returned (.bool true) ∧ Mid w W' gb N m := by
  have hh := h
  obtain ⟨K, t, rs, ⟨c, p, S, T, VR, hg, rfl⟩, h2, h3, h4, h5, h6⟩ := h
  exact (same_any hg h2 hm).mono fun e W' hq => ⟨hq.1, hh.quiet hq.2⟩
theorem Mid.known (h : Mid w W gb N m) : Calls Try.prog 9 #[] W fun e W' => e = .returned (.bool true) ∧ Mid w W' gb N m :=
  (known_any W).mono fun e W' hq => ⟨hq.1, h.quiet hq.2⟩
end
theorem mid_begun (N : Nat) (h1 : 1 ≤ N) (h2 : N ≤ 64) (w : World) : Calls Try.prog 10 #[.int .i64 (N : Nat)] w fun e w' => ∃ gb, e = .returned (ptr gb) ∧ Mid w w' gb N 0 := by
  refine (begin_ok N h1 h2 w).mono ?_
  rintro e w' ⟨gb, K, rfl, hg, hk, hc⟩
  exact ⟨gb, rfl, K, _, [], hg, Inv.new N h1 h2, by simp, by simp, hk, hc⟩
/-- The cells of an act that came in. -/
theorem Acts.at_ {w : World} {A : Option Addr} {n c : Nat} {l : List Ac} (h : Acts w (.slice A n c) l) {k : Nat} (hk : k < n) :
    ∃ (b off : Nat) (x : Ac), A = some ⟨b, off, none⟩ ∧ x.Fits ∧ ∀ W, Chg [] w W → ∀ j v, x.arr[j]? = some v → W.cell? ⟨b, off + k * 24 + j, none⟩ = some v := by
  obtain ⟨b, off, a, hA, _, hf, hb, hc⟩ := h.is_ hk
  exact ⟨b, off, a, hA, hf, fun W hW j v hv => hc W hW j v (by unfold Ac.cells; simpa using hv)⟩
theorem eql_ptr_nil (f : Nat) (w : World) : (binOp .eql 28 (ptr f) (.pointer none)).run Try.prog w = .ok (.bool false) w := by kernel_rfl
theorem eql_nil_nil (w : World) : (binOp .eql 28 (.pointer none) (.pointer none)).run Try.prog w = .ok (.bool true) w := by kernel_rfl
theorem eql_tptr_nil (f : Nat) (w : World) : (binOp .eql 23 (ptr f) (.pointer none)).run Try.prog w = .ok (.bool false) w := by kernel_rfl
theorem eql_tnil_nil (w : World) : (binOp .eql 23 (.pointer none) (.pointer none)).run Try.prog w = .ok (.bool true) w := by kernel_rfl
end Go.Proofs
end
section
namespace Go.Proofs
open Go.RowKit
set_option linter.unusedVariables false
set_option linter.unusedSimpArgs false
attribute [local go_sem] eql_ptr_nil eql_nil_nil eql_tptr_nil eql_tnil_nil
theorem nowL_may {t : Tab Gr} {N M : Nat} (h : Inv t N M) {n k : Nat} {p : Plc} (hp : (nowL t n)[k]? = some p) : mayP p.x = true ∧ 0 ≤ p.x.un := by
  have hm := List.mem_of_getElem? hp
  unfold nowL at hm
  rw [List.mem_filterMap] at hm
  obtain ⟨i, _, hi⟩ := hm
  rw [Option.map_eq_some_iff] at hi
  obtain ⟨s, hs, rfl⟩ := hi
  obtain ⟨h1, h2⟩ := live_nat.1 hs
  exact h.may i s h1 h2
/-- The goroutines that a game's table has. -/
theorem Mid.all {w W : World} {gb N m : Nat} (h : Mid w W gb N m) : ∃ c p VR, Blk W gb 45 #[ptr c, ptr p, VR] ∧
    ∀ W', Chg [] W W' → Calls Try.prog 13 #[ptr c] W' fun e W2 => ∃ (L : List Plc) (A : Option Addr) (cc : Nat), e = .returned (.slice A L.length cc) ∧ Row W2 49 21 (.slice A L.length cc) L.length (plcCells L) ∧ L.length ≤ N ∧ (∀ (k : Nat) (p : Plc), L[k]? = some p → mayP p.x = true ∧ 0 ≤ p.x.un) ∧ Chg [] W' W2 := by
  obtain ⟨K, t, rs, ⟨c, p, S, T, VR, hg, rfl⟩, h2, h3, h4, h5, h6⟩ := h
  refine ⟨c, p, VR, hg.b, fun W' hc => (All_any (hg.g.quiet hc) h2.size).mono ?_⟩
  rintro e W2 ⟨A, cc, rfl, hr, _, hb⟩
  exact ⟨nowL t N, A, cc, rfl, hr, nowL_len t N, fun k p hp => nowL_may h2 hp, Chg.of_below hb⟩
set_option maxHeartbeats 6400000 in
set_option maxRecDepth 100000 in
theorem fine_any (size : Int) (hsz : inI size) (V : Value) (acts : List Ac) (w : World) (hV : Acts w V acts) :
    Calls Try.prog 4 #[.int .i64 size, V] w fun e w' => e = .returned (.bool true) ∧ Chg [] w w' := by
  have HK := Lib.hid known_any
  obtain ⟨A2, c2, rfl⟩ := hV.open_
  obtain ⟨m, hm⟩ : ∃ m, m = acts.length := ⟨_, rfl⟩
  rw [← hm] at hV ⊢
  have HV := Lib.hid hV
  clear hV hm
  by_cases hb : 1 ≤ size ∧ size ≤ 64
  · obtain ⟨N, rfl⟩ : ∃ N : Nat, size = (N : Nat) := ⟨size.toNat, by omega⟩
    have HB := Lib.hid (mid_begun N (by omega) (by omega) w)
    have d0 : decide ((N : Int) < 1) = false := decide_eq_false (by omega)
    have d2 : decide ((N : Int) > 64) = false := decide_eq_false (by omega)
    have d2' : decide ((64 : Int) < (N : Int)) = false := decide_eq_false (by omega)
    have hN64 : N ≤ 64 := by omega
    clear hsz hb
    by_cases hm100 : (100 : Int) < (m : Int)
    · have d1 : decide ((m : Int) > 100) = true := decide_eq_true hm100
      have d1' : decide ((100 : Int) < (m : Int)) = true := decide_eq_true hm100
      go_enter Try.func4, Try.ntmps4
      go_wp2_with (first
        | (go_at_call 10; refine HB.out.mono ?_; rintro e w1 ⟨gb, rfl, hM⟩; have HQ := Lib.hid hM; clear hM)
        | (go_at_call 9; refine HQ.out.known.mono ?_; rintro e w2 ⟨rfl, hq⟩; have HQ := Lib.hid hq; clear hq))
      go_ret
      exact ⟨rfl, HQ.out.chg⟩
    · have d1 : decide ((m : Int) > 100) = false := decide_eq_false hm100
      have d1' : decide ((100 : Int) < (m : Int)) = false := decide_eq_false hm100
      have hm2 : m ≤ 100 := by omega
      go_enter Try.func4, Try.ntmps4
      go_wp2_with (go_at_call 10; refine HB.out.mono ?_; rintro e w1 ⟨gb, rfl, hM⟩; have HQ := Lib.hid hM; clear hM)
      go_loopg [6] m (fun gh iv wr => ∃ j : Nat, j + gh = m ∧ iv = .int .i64 j ∧ Hid (Mid w wr gb N j))
      case atStart => exact ⟨0, by omega, rfl, HQ⟩
      case round =>
        obtain ⟨j, hj, rfl, HMI⟩ := hrel
        by_cases hlt : j < m
        · have j0 : (0 : Int) ≤ (j : Int) := by omega
          have j1 : (j : Int) < (m : Int) := by omega
          obtain ⟨bI, oI, xa, hA, hfit, hcells⟩ := HV.out.at_ hlt
          subst hA
          have hxc := hcells wr HMI.out.chg
          have hxs := xa.size
          have HDO := Lib.hid (HMI.out.do (by omega) hfit)
          clear HV hcells hfit
          unfold Ac.val at HDO
          generalize xa.arr = XA at *
          go_upto_region 8 with (first
            | ((with_reducible refine wpl_load_atE (b := bI) (off := oI + j * 24) T39 hxs hxc ?_ ?_ ?_); (· rfl); (· exact ⟨_, rfl, rfl⟩))
            | (go_at_call 11; refine HDO.out.mono ?_; rintro e w4 ⟨rfl, hM'⟩; have HM' := Lib.hid hM'; clear hM'))
          obtain ⟨c, p, VR, hgb, hall⟩ := HM'.out.all
          have g0 := hgb.cell 0
          simp only [List.getElem?_toArray, List.getElem?_cons_zero] at g0
          have HALL := Lib.hid (hall _ (Chg.refl [] _))
          clear hall hgb hxc HDO
          go_wp2_with (go_at_call 13; refine HALL.out.mono ?_; rintro e w5 ⟨L, AL, cL, rfl, hRL, hLN, hmay, hc5⟩)
          have HMAY := Lib.hid hmay
          have HM5 := Lib.hid (HM'.out.quiet hc5)
          have HRL := Lib.hid hRL
          obtain ⟨n, hn⟩ : ∃ n, n = L.length := ⟨_, rfl⟩
          have Hn := Lib.hid hn
          rw [← hn] at HRL hLN ⊢
          clear hn hmay hc5 hRL HALL g0
          go_loopg [8] n (fun gh kv wq => ∃ k : Nat, k + gh = n ∧ kv = .int .i64 k ∧ Hid (Chg [] w5 wq))
          case atStart => exact ⟨0, by omega, rfl, Lib.hid (Chg.refl [] w5)⟩
          case round =>
            obtain ⟨k, hk, rfl, HW⟩ := hrel
            by_cases hkn : k < n
            · have k0 : (0 : Int) ≤ (k : Int) := by omega
              have k1 : (k : Int) < (n : Int) := by omega
              obtain ⟨pp, hp⟩ : ∃ pp, L[k]? = some pp := ⟨_, List.getElem?_eq_getElem (by rw [← Hn.out]; exact hkn)⟩
              obtain ⟨gl, cl, hvl, _, _, hcl, _, hgl⟩ := HRL.out.form (by omega)
              simp only [Value.slice.injEq] at hvl
              obtain ⟨h90, h91, h92⟩ := hvl
              clear h91 h92
              subst h90
              have hxl : ∀ j v, pp.x.arr[j]? = some v → wr.cell? ⟨gl, k * 21 + 2 + j, none⟩ = some v := fun j v hv => (HW.out.cell (p := ⟨gl, k * 21 + 2 + j, none⟩) hgl (by simp)).trans (by have := hcl _ _ (plcCells_at hp (2 + j) _ (pp.atx j v hv)); rw [show k * 21 + 2 + j = k * 21 + (2 + j) by omega]; exact this)
              have hgs := pp.x.size
              have HR := Lib.hid (rMay_any pp.x (HMAY.out k pp hp).2)
              rw [(HMAY.out k pp hp).1] at HR
              unfold Gr.val at HR
              generalize pp.x.arr = XG at *
              clear hcl hp
              go_wp2_with (first
                | ((with_reducible refine wpl_load_atE (b := gl) (off := k * 21 + 2) T37 hgs hxl ?_ ?_ ?_); (· rfl); (· exact ⟨_, rfl, rfl⟩))
                | (go_at_call 14; refine (HR.out _).mono ?_; rintro e w6 ⟨rfl, hc6⟩))
              go_roundg (n - k - 1)
              case measure => omega
              case rel => exact ⟨k + 1, by omega, by go_num, Lib.hid (HW.out.then hc6)⟩
            · have dk : decide ((k : Int) < (n : Int)) = false := by simp; omega
              go_wp2
              go_roundg (m - j - 1)
              case measure => omega
              case rel => exact ⟨j + 1, by omega, by go_num, Lib.hid (HM5.out.quiet HW.out)⟩
        · have d1 : decide ((j : Int) < (m : Int)) = false := by simp; omega
          go_wp2_with (go_at_call 9; refine HMI.out.known.mono ?_; rintro e w2 ⟨rfl, hq⟩)
          go_ret
          exact ⟨rfl, hq.chg⟩
  · have HN := Lib.hid (begin_no size (by omega) w)
    have hK0 := HK.out w
    by_cases h1 : size < 1
    · have d0 : decide (size < 1) = true := decide_eq_true h1
      go_enter Try.func4, Try.ntmps4
      go_wp2_with (first
        | (go_at_call 10; refine HN.out.mono ?_; rintro e w' ⟨rfl, rfl⟩)
        | (go_at_call 9; refine hK0.mono ?_; rintro e w2 ⟨rfl, hc⟩; have HC := Lib.hid hc; clear hc))
      go_ret
      exact ⟨rfl, HC.out⟩
    · have d0 : decide (size < 1) = false := decide_eq_false h1
      have d2 : decide (size > 64) = true := decide_eq_true (by omega)
      have d2' : decide ((64 : Int) < size) = true := decide_eq_true (by omega)
      go_enter Try.func4, Try.ntmps4
      go_wp2_with (first
        | (go_at_call 10; refine HN.out.mono ?_; rintro e w' ⟨rfl, rfl⟩)
        | (go_at_call 9; refine hK0.mono ?_; rintro e w2 ⟨rfl, hc⟩; have HC := Lib.hid hc; clear hc))
      go_ret
      exact ⟨rfl, HC.out⟩
end Go.Proofs
end
section
namespace Go.Proofs
open Go.RowKit
set_option linter.unusedVariables false
set_option linter.unusedSimpArgs false

/-! ### Who is stale: nothing is changed -/
section
variable {w : World} {c : Nat} {S : List Nat} {t : Tab Gr}
set_option maxRecDepth 100000 in
set_option maxHeartbeats 1600000 in
theorem Set_stale (h : GAt w c S t) (i q : Int) (hi : inI i) (x : Gr) (hm : mayP x = true) (hq : t.has i q = false) :
    Calls Try.prog 18 #[ptr c, .agg #[.int .i64 i, .int .u64 q], x.val] w fun e w' => e = .returned (.int .i64 11) ∧ Chg [] w w' := by
  have HN := Lib.hid (fun W (hc : Chg [] w W) => h.none hc)
  have HG := Lib.hid (fun W (hc : Chg [] w W) => Get_any (h.quiet hc) i q hi)
  have HM := Lib.hid (fun W => May_any x W)
  have hAs := (t.getG i q).size
  have hA1 := (t.getG i q).one
  have hXs := x.size
  obtain ⟨W, hWe⟩ : ∃ W, W = (w.alloc (.cells #[.int .i64 i, .int .u64 q] 33)).alloc (.cells x.arr 37) := ⟨_, rfl⟩
  have hc : Chg [] w W := by rw [hWe]; exact ((Chg.refl [] w).alloc _).alloc _
  have hb4 : Blk W w.heap.size 33 #[.int .i64 i, .int .u64 q] := by rw [hWe]; exact (Blk.new w 33 _).alloc _
  have hb5 : Blk W (w.heap.size + 1) 37 x.arr := by rw [hWe]; exact Blk.at' (w.alloc _) 37 _ (by simp)
  rw [hm] at HM
  have hG : t.getE i q = 11 := by unfold Tab.getE; rw [if_neg (by simp [hq])]
  rw [hG] at HG
  unfold Gr.val at HM HG ⊢
  generalize x.arr = X at *
  generalize (t.getG i q).arr = A at *
  clear hm hq hG h hi
  go_enter Try.func18, Try.ntmps18
  go_upto_region 1 with (fail)
  rw [← hWe]
  clear hWe
  go_wp2_with (first
    | (go_at_call 42; (refine (HN.out _ hc).mono ?_); rintro e w' ⟨rfl, rfl⟩)
    | ((with_reducible refine wpl_loadE T37 hb5 hXs ?_ ?_ ?_); (· rfl); (· exact ⟨_, rfl, rfl⟩))
    | (go_at_call 43; (refine (HM.out _).mono ?_); rintro e w1 ⟨rfl, hc1⟩; have k0 := (hb4.chg hc1 (by simp)).cell 0; have k1 := (hb4.chg hc1 (by simp)).cell 1)
    | (go_at_call 17; (refine (HG.out _ (hc.then hc1)).mono ?_); rintro e w2 ⟨rfl, hc2⟩)
    | ((with_reducible refine wpl_storeE T37 (Blk.new w2 37 zG) rfl hAs hA1 ?_ ?_ ?_); (· rfl); (· exact ⟨_, _, rfl, rfl, rfl⟩); intro w3 hS3; have hc3 : Chg [] w w3 := ((((hc.then hc1).then hc2).alloc _).trans hS3.chg (fun k hk => by have h5 := hc.size; have h6 := hc1.size; have h7 := hc2.size; simp at hk; omega))))
  go_ret
  exact ⟨rfl, hc3⟩
set_option maxRecDepth 100000 in
set_option maxHeartbeats 1600000 in
theorem Turn_stale (h : GAt w c S t) (i q : Int) (hi : inI i) (tov : Int) (hq : t.has i q = false) :
    Calls Try.prog 19 #[ptr c, .agg #[.int .i64 i, .int .u64 q], .int .i64 tov] w fun e w' => e = .returned (.int .i64 11) ∧ Chg [] w w' := by
  have HG := Lib.hid (fun W (hc : Chg [] w W) => Get_any (h.quiet hc) i q hi)
  have hAs := (t.getG i q).size
  have hA1 := (t.getG i q).one
  have hc : Chg [] w (w.alloc (.cells #[.int .i64 i, .int .u64 q] 33)) := (Chg.refl [] w).alloc _
  have hb4 := Blk.new w 33 #[.int .i64 i, .int .u64 q]
  have hG : t.getE i q = 11 := by unfold Tab.getE; rw [if_neg (by simp [hq])]
  rw [hG] at HG
  unfold Gr.val at HG
  generalize (t.getG i q).arr = A at *
  clear hq hG h hi
  go_enter Try.func19, Try.ntmps19
  go_wp2_with (first
    | (go_at_call 17; (refine (HG.out _ hc).mono ?_); rintro e w2 ⟨rfl, hc2⟩)
    | ((with_reducible refine wpl_storeE T37 (Blk.new w2 37 zG) rfl hAs hA1 ?_ ?_ ?_); (· rfl); (· exact ⟨_, _, rfl, rfl, rfl⟩); intro w3 hS3; have hc3 := (((hc.then hc2).alloc _).trans hS3.chg (fun k hk => by have h7 := hc2.size; have h8 := hc.size; simp at hk; omega))))
  go_ret
  exact ⟨rfl, hc3⟩
set_option maxRecDepth 100000 in
theorem Drop_stale (h : GAt w c S t) (i q : Int) (hi : inI i) (hq : t.has i q = false) :
    Calls Try.prog 20 #[ptr c, .agg #[.int .i64 i, .int .u64 q]] w fun e w' => e = .returned (.int .i64 11) ∧ Chg [] w w' := by
  obtain ⟨g, hB, hT, hW⟩ := h
  have HP := Lib.hid (fun W (hc : Chg [] w W) => places_any (hB.chg hc (by simp)))
  have HD := Lib.hid (fun W (hc : Chg [] w W) => drop_no_C (hT.quiet hc) hW i q hi.1 hi.2 hq)
  have hc : Chg [] w (w.alloc (.cells #[.int .i64 i, .int .u64 q] 33)).drew := ((Chg.refl [] w).alloc _).drew
  have hb := (Blk.new w 33 #[.int .i64 i, .int .u64 q]).drew
  have k0 := hb.cell 0
  have k1 := hb.cell 1
  clear hB hT hW hb
  go_enter Try.func20, Try.ntmps20
  go_upto_region 1 with (fail)
  go_still_tail 3, (by kernel_rfl)
  (try change wpStill _ _ (World.drew _) _ _ _)
  (still_call ((HP.out _ hc).mono (fun e w' h => ⟨h.1, h.2.symm⟩)))
  (repeat still_step)
  (try refine wpStill_nil ?_)
  (try change wpList _ _ _ _ _ (World.drew _))
  go_wp2_with (go_at_call 47; (refine (HD.out _ hc).mono ?_); rintro e w2 ⟨rfl, hT2⟩)
  go_ret
  exact ⟨rfl, hc.then hT2⟩
end
/-! ### The code's Same -/
set_option maxRecDepth 100000 in
set_option maxHeartbeats 1600000 in
theorem Same_any {w : World} {c c' N : Nat} {S S' : List Nat} {t t' : Tab Gr} (h : GAt w c S t) (h' : GAt w c' S' t') (hN : t.size = (N : Nat)) (hN' : t'.size = (N : Nat)) (h64 : N ≤ 64) :
    Calls Try.prog 21 #[ptr c, ptr c'] w fun e w' => e = .returned (.bool (eqL (nowL t N) (nowL t' N))) ∧ Chg [] w w' := by
  have HA := Lib.hid (fun W (hc : Chg [] w W) => All_any (h.quiet hc) hN)
  have HA' := Lib.hid (fun W (hc : Chg [] w W) => All_any (h'.quiet hc) hN')
  have l1 := nowL_len t N
  have l2 := nowL_len t' N
  obtain ⟨g, hB, hT, _⟩ := h
  obtain ⟨g', hB', hT', _⟩ := h'
  have HP := Lib.hid (places_any hB)
  have HP' := Lib.hid (places_any hB')
  have HS := Lib.hid ((size_C hT).mono (R' := fun e w' => e = .returned (.int .i64 (N : Nat)) ∧ w = w') (fun e w' hh => ⟨by rw [hh.1, hN], hh.2⟩))
  have HS' := Lib.hid ((size_C hT').mono (R' := fun e w' => e = .returned (.int .i64 (N : Nat)) ∧ w = w') (fun e w' hh => ⟨by rw [hh.1, hN'], hh.2⟩))
  generalize nowL t N = L at *
  generalize nowL t' N = L' at *
  have HL := Lib.hid l1
  have HL' := Lib.hid l2
  clear l1 l2 hB hT hB' hT' hN hN'
  go_enter Try.func21, Try.ntmps21
  go_wp2_with (first
    | (go_at_call_of 40 (ptr c); refine HP.out.mono ?_; rintro e w1 ⟨rfl, rfl⟩)
    | (go_at_call_of 40 (ptr c'); refine HP'.out.mono ?_; rintro e w1 ⟨rfl, rfl⟩)
    | (go_at_call_of 48 (ptr g); refine HS.out.mono ?_; rintro e w1 ⟨rfl, rfl⟩)
    | (go_at_call_of 48 (ptr g'); refine HS'.out.mono ?_; rintro e w1 ⟨rfl, rfl⟩)
    | (go_at_call_of 13 (ptr c); refine (HA.out _ (Chg.refl [] _)).mono ?_; rintro e w1 ⟨A1, c1, rfl, hr1, _, hb1⟩; have hc1 := Chg.of_below hb1)
    | (go_at_call_of 13 (ptr c'); refine (HA'.out _ hc1).mono ?_; rintro e w2 ⟨A2, c2, rfl, hr2, _, hb2⟩; have hc2 := Chg.of_below hb2; have hr1' := hr1.chg hc2 (fun _ _ hk => by cases hk))
    | (go_at_call 49; refine (equalL_any hr1' hr2 (by have := HL.out; omega) (by have := HL'.out; omega)).mono ?_; rintro e w3 ⟨rfl, nn, hw3⟩))
  go_ret
  exact ⟨rfl, (hc1.then hc2).drewN nn⟩
end Go.Proofs
end
