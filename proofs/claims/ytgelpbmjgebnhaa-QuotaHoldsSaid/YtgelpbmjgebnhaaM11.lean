import Derived.Test.YtgelpbmjgebnhaaM10
import Derived.Deep.Slices
import Derived.Deep.Fields
import Derived.ChangeSame
import Derived.Carry
import Derived.ProofKit
import Derived.OpenShut
import Derived.Test.YtgelpbmjgebnhaaRows
import Derived.Test.YtgelpbmjgebnhaaM8
import Derived.Deep.RegionLaw
section
namespace Go.Proofs
open Go.ChangeShapes Go.WideShapes Go.ChangeAt Go.RowKit Go.Deep
set_option linter.unusedVariables false
set_option maxRecDepth 100000
theorem spot_none {W : World} {a : Addr} {u : Value} (h : W.cell? ((a.add 0).add 0) = some u) : a.spot = none ∧ a.block < W.heap.size := by
  have e0 : (a.add 0).add 0 = a := by unfold Addr.add; simp
  rw [e0] at h
  refine ⟨?_, World.block_lt_of_cell? W _ h⟩
  unfold World.cell? at h
  split at h
  · split at h
    · cases h
    · rename_i hns; simpa using hns
  · cases h
/-- An act. -/
structure ActQ where
  kind : Int
  at_ : Int
  n : Int
abbrev ActQ.cells (a : ActQ) : List Value := [.int .i64 a.kind, .int .i64 a.at_, .int .u64 a.n]
structure ActQ.Fits (a : ActQ) : Prop where
  a0 : -9223372036854775808 ≤ a.at_
  a1 : a.at_ ≤ 9223372036854775807
  n0 : 0 ≤ a.n
  n1 : a.n < 18446744073709551616
abbrev ActsQ (w : World) (V : Value) (l : List ActQ) : Prop := Ins ActQ.cells ActQ.Fits 3 w V l
/-- Numbers that came in. -/
abbrev IntsQ (w : World) (V : Value) (l : List Int) : Prop := Ins (fun x => [Value.int .i64 x]) (fun x => -9223372036854775808 ≤ x ∧ x ≤ 9223372036854775807) 1 w V l
/-- Rows of numbers that came in. -/
abbrev TimesQ (w : World) (V : Value) (l : List (Value × List Int)) : Prop := Ins (fun x => [x.1]) (fun x => IntsQ w x.1 x.2) 1 w V l
section
variable {H : Type} {enc : TypeId × Value → H} {w : World} {base : Nat} {held : Bool}
/-- Elements that came in. -/
theorem open_insT {α : Type} [Inhabited α] {cells : α → List Value} {ok : α → Prop} {s : Nat} {ty el : TypeId} (hty : Try.prog.underlying ty = some (.slice el)) (hce : Try.prog.cellsOf el = s) (hs : ∀ a, (cells a).length = s) (hs1 : 1 ≤ s)
    {W : World} (each1 : ∀ {fuel : Nat} {cs : List Value} {x : DataW H × List MemPlace}, DataW.trod enc Try.prog W 0 (fun _ => true) true fuel el cs = some x → ∃ a, ok a ∧ cs = cells a)
    {fuel : Nat} {cs : List Value} {x : DataW H × List MemPlace} (hf : DataW.trod enc Try.prog W 0 (fun _ => true) true fuel ty cs = some x) :
    ∃ V l, cs = [V] ∧ Ins cells ok s W V l := by
  rcases open_slice hty hf with ⟨hcs, _⟩ | ⟨a, len, cap, m, n, D, Pl, hcs, hb, hl, hm, hmm, hx, hi⟩
  · exact ⟨_, [], hcs, none, 0, rfl, fun k a hk => by simp at hk⟩
  · refine ⟨.slice (some a) len cap, ?_⟩
    have hml : len ≤ m := by rw [hmm]; simp; exact hl
    rcases Nat.eq_zero_or_pos len with h0 | h0
    · subst h0
      exact ⟨[], hcs, some a, cap, rfl, fun k a hk => by simp at hk⟩
    · have each : ∀ i, i < m → ∃ a1 : α, ok a1 ∧ ∀ (j : Nat) (u : Value), (cells a1)[j]? = some u → W.cell? ((a.add (i * s)).add j) = some u := fun i him => by
        obtain ⟨cs', hc, ht⟩ := hi i him
        rw [hce] at hc
        obtain ⟨a1, hf1, rfl⟩ := each1 ht
        obtain ⟨_, _, hat⟩ := World.cells?_some hc
        exact ⟨a1, hf1, fun j u hj => (hat j (by have := (List.getElem?_eq_some_iff.1 hj).1; rw [hs] at this; exact this)).trans hj⟩
      obtain ⟨hsp, hbl⟩ : a.spot = none ∧ a.block < W.heap.size := by
        obtain ⟨a1, _, hc⟩ := each 0 (by omega)
        have := hc 0 _ (List.getElem?_eq_getElem (by rw [hs]; omega))
        rw [Nat.zero_mul] at this
        exact spot_none this
      obtain ⟨b, off, sp⟩ := a
      simp only at hsp hbl
      subst hsp
      have hadd : ∀ i j, ((⟨b, off, none⟩ : Addr).add (i * s)).add j = ⟨b, off + i * s + j, none⟩ := fun i j => by
        unfold Addr.add
        by_cases h1 : i * s = 0 <;> by_cases h2 : j = 0 <;> simp [h1, h2] <;> omega
      refine ⟨(List.range len).map (fun i => if h : i < m then (each i h).choose else default), hcs, some ⟨b, off, none⟩, cap, by simp, ?_⟩
      intro k a1 hk
      rw [List.getElem?_map, Option.map_eq_some_iff] at hk
      obtain ⟨k', hk', rfl⟩ := hk
      obtain ⟨hk1, rfl⟩ := List.getElem?_eq_some_iff.1 hk'
      simp only [List.length_range] at hk1
      rw [List.getElem_range]
      rw [dif_pos (by omega : k < m)]
      obtain ⟨q1, q2⟩ := (each k (by omega)).choose_spec
      exact ⟨b, off, rfl, hbl, q1, fun j u hj => by have := q2 j u hj; rw [hadd] at this; exact this⟩
theorem open_ins {α : Type} [Inhabited α] {cells : α → List Value} {ok : α → Prop} {s : Nat} {ty el : TypeId} (hty : Try.prog.underlying ty = some (.slice el)) (hce : Try.prog.cellsOf el = s) (hs : ∀ a, (cells a).length = s) (hs1 : 1 ≤ s)
    {W : World} (each1 : ∀ {fuel : Nat} {cs : List Value} {x : DataW H × List MemPlace}, DataW.trod enc Try.prog W 0 (fun _ => true) true fuel el cs = some x → ∃ a, ok a ∧ cs = cells a)
    {v : Value} {d : DataW H} {ps : List MemPlace} (hv : Value.okWide Try.prog W .any 0 ty v) (h : DataW.Trod enc Try.prog W 0 (fun _ => true) true ty v d ps) : ∃ l, Ins cells ok s W v l := by
  obtain ⟨fuel, hf⟩ := h
  obtain ⟨a', len', cap', rfl⟩ := okWide_slice hty hv
  obtain ⟨V, l, e, hI⟩ := open_insT hty hce hs hs1 each1 hf
  simp [Value.cells] at e
  subst e
  exact ⟨l, hI⟩
instance : Inhabited CarvC := ⟨⟨0, 0, 0, 0⟩⟩
instance : Inhabited ActQ := ⟨⟨0, 0, 0⟩⟩
theorem open_carv {fuel : Nat} {cs : List Value} {x : DataW H × List MemPlace} (h : DataW.trod enc Try.prog w base (fun _ => true) held fuel 74 cs = some x) : ∃ a : CarvC, a.Fits ∧ cs = a.cells := by
  obtain ⟨xs, n, _, _, hlen, hxl, hf⟩ := DataW.trod_struct Try.underlying74 h
  have h8 : Try.prog.cellsOf 74 = 4 := by kernel_rfl
  have h3 : Try.prog.cellsOf 3 = 1 := by kernel_rfl
  have h9 : Try.prog.cellsOf 22 = 1 := by kernel_rfl
  rw [h8] at hlen
  match cs, hlen with
  | [c0, c1, c2, c3], _ =>
    match xs, hxl with
    | [y0, y1, y2, y3], _ =>
      have g0 := hf 0 _ rfl
      have g1 := hf 1 _ rfl
      have g2 := hf 2 _ rfl
      have g3 := hf 3 _ rfl
      simp [h9, h3] at g0 g1 g2 g3
      obtain ⟨A, e0, _, w0⟩ := DataW.trod_int Try.underlying3 g0
      obtain ⟨B, e1, _, w1⟩ := DataW.trod_int Try.underlying3 g1
      obtain ⟨C, e2, _, w2⟩ := DataW.trod_int Try.underlying22 g2
      obtain ⟨D, e3, _, w3⟩ := DataW.trod_int Try.underlying22 g3
      simp only [List.cons.injEq, and_true] at e0 e1 e2 e3
      subst e0 e1 e2 e3
      obtain ⟨a0, a1⟩ := bounds_i64 w0
      obtain ⟨b0, b1⟩ := bounds_i64 w1
      obtain ⟨c0, c1⟩ := bounds_u64 w2
      obtain ⟨d0, d1⟩ := bounds_u64 w3
      exact ⟨⟨A, B, C, D⟩, ⟨a0, by show A ≤ _; omega, b0, by show B ≤ _; omega, c0, by show C < _; omega, d0, by show D < _; omega⟩, rfl⟩
theorem open_actq {fuel : Nat} {cs : List Value} {x : DataW H × List MemPlace} (h : DataW.trod enc Try.prog w base (fun _ => true) held fuel 32 cs = some x) : ∃ a : ActQ, a.Fits ∧ cs = a.cells := by
  obtain ⟨xs, n, _, _, hlen, hxl, hf⟩ := DataW.trod_struct Try.underlying32 h
  have h8 : Try.prog.cellsOf 32 = 3 := by kernel_rfl
  have h3 : Try.prog.cellsOf 3 = 1 := by kernel_rfl
  have h9 : Try.prog.cellsOf 22 = 1 := by kernel_rfl
  rw [h8] at hlen
  match cs, hlen with
  | [c0, c1, c2], _ =>
    match xs, hxl with
    | [y0, y1, y2], _ =>
      have g0 := hf 0 _ rfl
      have g1 := hf 1 _ rfl
      have g2 := hf 2 _ rfl
      simp [h9, h3] at g0 g1 g2
      obtain ⟨A, e0, _, w0⟩ := DataW.trod_int Try.underlying3 g0
      obtain ⟨B, e1, _, w1⟩ := DataW.trod_int Try.underlying3 g1
      obtain ⟨C, e2, _, w2⟩ := DataW.trod_int Try.underlying22 g2
      simp only [List.cons.injEq, and_true] at e0 e1 e2
      subst e0 e1 e2
      obtain ⟨b0, b1⟩ := bounds_i64 w1
      obtain ⟨c0, c1⟩ := bounds_u64 w2
      exact ⟨⟨A, B, C⟩, ⟨b0, by show B ≤ _; omega, c0, by show C < _; omega⟩, rfl⟩
theorem open_int1 {fuel : Nat} {cs : List Value} {x : DataW H × List MemPlace} (h : DataW.trod enc Try.prog w base (fun _ => true) held fuel 3 cs = some x) : ∃ a : Int, (-9223372036854775808 ≤ a ∧ a ≤ 9223372036854775807) ∧ cs = [Value.int .i64 a] := by
  obtain ⟨A, e0, _, w0⟩ := DataW.trod_int Try.underlying3 h
  obtain ⟨a0, a1⟩ := bounds_i64 w0
  exact ⟨A, ⟨a0, by omega⟩, e0⟩
section
variable {v : Value} {d : DataW H} {ps : List MemPlace} {W : World}
theorem open_carvs (hv : Value.okWide Try.prog W .any 0 23 v) (h : DataW.Trod enc Try.prog W 0 (fun _ => true) true 23 v d ps) : ∃ l, Carvs W v l :=
  open_ins (cells := CarvC.cells) (ok := CarvC.Fits) (s := 4) Try.underlying23 (by kernel_rfl) (fun _ => rfl) (by omega) (fun h => open_carv h) hv h
theorem open_acts (hv : Value.okWide Try.prog W .any 0 24 v) (h : DataW.Trod enc Try.prog W 0 (fun _ => true) true 24 v d ps) : ∃ l, ActsQ W v l :=
  open_ins (cells := ActQ.cells) (ok := ActQ.Fits) (s := 3) Try.underlying24 (by kernel_rfl) (fun _ => rfl) (by omega) (fun h => open_actq h) hv h
theorem open_times (hv : Value.okWide Try.prog W .any 0 56 v) (h : DataW.Trod enc Try.prog W 0 (fun _ => true) true 56 v d ps) : ∃ l, TimesQ W v l := by
  haveI : Inhabited (Value × List Int) := ⟨(undef, [])⟩
  refine open_ins (cells := fun (x : Value × List Int) => [x.1]) (ok := fun (x : Value × List Int) => IntsQ W x.1 x.2) (s := 1) Try.underlying56 (by kernel_rfl) (fun _ => rfl) (by omega) (fun h => ?_) hv h
  obtain ⟨V, l, e, hI⟩ := open_insT (cells := fun (x : Int) => [Value.int .i64 x]) (ok := fun (x : Int) => -9223372036854775808 ≤ x ∧ x ≤ 9223372036854775807) (s := 1) Try.underlying62 (by kernel_rfl) (fun _ => rfl) (by omega) (fun h => open_int1 h) h
  exact ⟨(V, l), hI, e⟩
end
end
section
variable {H : Type} {enc : TypeId × Value → H} {P : Program}
theorem post_of_below {f : Func} {s : ChangeSpec} {apart fresh handsOn again : Bool} {W W' : World} {args : Array Value} {v : Value} {ds gs : List (DataW H)} {before pa pv : List MemPlace}
    (hW : DataW.Whole enc P f.params.toList s.vars apart W args.toList ds gs before)
    (hres : ∀ (b : Nat) (sp : Nat → Bool) (hd : Bool), DataW.TrodAll enc P W' b sp hd f.resultTypes.toList (v.resultList f.resultTypes.size) (s.fn H (ds ++ gs)).results [])
    (hargs : ∀ sp : Nat → Bool, (∀ p ∈ before, sp p.block = true) → DataW.TrodAll enc P W' 0 sp true f.params.toList args.toList (s.fn H (ds ++ gs)).args pa)
    (hvars : ∀ sp : Nat → Bool, (∀ p ∈ before, sp p.block = true) → DataW.TrodVars enc P W' sp s.vars (s.fn H (ds ++ gs)).vars pv)
    (hps : before = pa ++ pv) (hb : Below W.heap.size W W')
    (hok : ∀ (j : Nat) (t : TypeId) (r : Value), f.resultTypes[j]? = some t → (v.resultList f.resultTypes.size)[j]? = some r → Value.okWide P W' .any 0 t r) :
    s.post enc P f apart fresh handsOn again W args v W' := by
  have hlt : ∀ p ∈ before, p.block < W.heap.size := fun p hp => hW.lt p hp
  have hold : ∀ p ∈ before, (fun b => decide (b < W.heap.size)) p.block = true := fun p hp => by simpa using hlt p hp
  refine ⟨ds, gs, before, [], pa, pv, hW, hres _ _ _, hargs _ hold, hvars _ hold, World.keptBut_mono (fun p hp => ⟨hp, ?_⟩) (hb.frame (· ∈ before)), fun _ => ?_⟩
  · rw [hps, List.mem_append] at hp
    exact Or.inr hp
  · obtain ⟨_, _, _, _, _, hz, hn⟩ := hW
    refine ⟨hok, _, _, ([] ++ pa) ++ pv, ⟨[] ++ pa, pv, trodAll_append (hargs _ (fun _ _ => rfl)) (hres _ _ _), hvars _ (fun _ _ => rfl), rfl, ?_, ?_⟩, ?_⟩
    · intro b off hp
      have hin : MemPlace.cell b off ∈ before := by rw [hps]; simpa using hp
      rw [hb.frozen (hlt _ hin)]
      exact hz b off hin
    · intro ha
      have := hn ha
      rw [hps] at this
      simpa using this
    · intro p hp _
      rw [hps]
      simpa using hp
end
theorem Try.laidOut : laidOutB Try.prog = true := by kernel_rfl
end Go.Proofs
end
section
namespace Go.Proofs
open Go.RowKit Go.Shelf
set_option linter.unusedVariables false
set_option linter.unusedSimpArgs false

/-! ### Both, each by itself -/
def Duo (w W : World) (c h M : Nat) (rc rd : RTab) (ch : Nat → List (Int × Int)) : Prop :=
  Chg [] w W ∧ ∃ S t S2, DomAt W c S t ∧ Sim M t rc ch ∧ RefAt W h S2 rd ∧ rd.Held M ch ∧ (∀ k ∈ c :: S, w.heap.size ≤ k) ∧ (∀ k ∈ S2, w.heap.size ≤ k) ∧ (∀ k ∈ S, k ∉ S2)
/-- What is neither the domains', nor the document's, stays. -/
def Stays (W W' : World) : Prop := W.heap.size ≤ W'.heap.size ∧ ∀ (b : Nat) (e : TypeId) (cs : Array Value), Blk W b e cs → e ≠ 110 → e ≠ 139 → e ≠ 135 → e ≠ 3 → e ≠ 88 → e ≠ 85 → Blk W' b e cs
theorem Stays.refl (W : World) : Stays W W := ⟨Nat.le_refl _, fun _ _ _ h _ _ _ _ _ _ => h⟩
theorem Stays.trans {A B C : World} (h : Stays A B) (k : Stays B C) : Stays A C := ⟨Nat.le_trans h.1 k.1, fun b e cs hB a1 a2 a3 a4 a5 a6 => k.2 b e cs (h.2 b e cs hB a1 a2 a3 a4 a5 a6) a1 a2 a3 a4 a5 a6⟩
theorem Stays.quiet {A B : World} (h : Chg [] A B) : Stays A B := ⟨h.size, fun b e cs hB _ _ _ _ _ _ => hB.chg h (by simp)⟩
theorem Stays.blk {W W' : World} (h : Stays W W') {b : Nat} {e : TypeId} {cs : Array Value} (hB : Blk W b e cs) (e1 : e ≠ 110 := by decide) (e2 : e ≠ 139 := by decide) (e3 : e ≠ 135 := by decide) (e4 : e ≠ 3 := by decide) (e5 : e ≠ 88 := by decide) (e6 : e ≠ 85 := by decide) : Blk W' b e cs := h.2 b e cs hB e1 e2 e3 e4 e5 e6
theorem Stays.row {W W' : World} (h : Stays W W') {e : TypeId} {size n : Nat} {v : Value} {xs : List Value} (hR : Row W e size v n xs) (e1 : e ≠ 110 := by decide) (e2 : e ≠ 139 := by decide) (e3 : e ≠ 135 := by decide) (e4 : e ≠ 3 := by decide) (e5 : e ≠ 88 := by decide) (e6 : e ≠ 85 := by decide) : Row W' e size v n xs := by
  refine ⟨hR.1, ?_⟩
  rcases hR.2 with h0 | ⟨b, cap, cur, he, hb, hrest⟩
  · exact .inl h0
  · exact .inr ⟨b, cap, cur, he, h.2 b e _ hb e1 e2 e3 e4 e5 e6, hrest⟩
section
variable {w W W2 : World} {c h M : Nat} {r rc rd rc' rd' : RTab} {ch : Nat → List (Int × Int)} {i q : Int} {L : List (Int × Int)} {k : Nat}
theorem Duo.chg (H : Duo w W c h M rc rd ch) : Chg [] w W := H.1
theorem Duo.heldc (H : Duo w W c h M rc rd ch) : rc.Held M ch := by obtain ⟨_, S, t, S2, _, hs, _⟩ := H; exact hs.held
theorem Duo.heldd (H : Duo w W c h M rc rd ch) : rd.Held M ch := by obtain ⟨_, S, t, S2, _, _, _, hd, _⟩ := H; exact hd
theorem Duo.quiet (H : Duo w W c h M rc rd ch) (hc : Chg [] W W2) : Duo w W2 c h M rc rd ch := by
  obtain ⟨h1, S, t, S2, a, b, d, e, f, g, i⟩ := H
  exact ⟨h1.then hc, S, t, S2, a.quiet hc, b, d.quiet hc, e, f, g, i⟩
/-- The code's part alone. -/
theorem Duo.cat (H : Duo w W c h M rc rd ch) : CAt w W c M rc ch := by
  obtain ⟨h1, S, t, S2, a, b, d, e, f, g, i⟩ := H
  exact ⟨h1, S, t, a, b, f⟩
theorem Duo.code {S S2 : List Nat} {t : Tab Dm} (h1 : Chg [] w W) (a : DomAt W c S t) (d : RefAt W h S2 rd) (e : rd.Held M ch) (f : ∀ k ∈ c :: S, w.heap.size ≤ k) (g : ∀ k ∈ S2, w.heap.size ≤ k) (i : ∀ k ∈ S, k ∉ S2) (hT : CTurns c S M rc' ch W W2) : Duo w W2 c h M rc' rd ch ∧ Stays W W2 := by
  obtain ⟨t', a', b', d'⟩ := hT
  exact ⟨⟨h1.trans d' (fun k hk => .inr (f k (List.mem_cons_of_mem _ hk))), S, t', S2, a', b', d.chg d' (fun k hk hm => i k hm hk), e, f, g, i⟩, d'.size, fun b e cs hB e1 e2 e3 e4 _ _ => hB.chg d' (fun hm => a.ne_ty hB e1 e2 e3 e4 (List.mem_cons_of_mem _ hm))⟩
theorem Duo.doc {S S2 : List Nat} {t : Tab Dm} (h1 : Chg [] w W) (a : DomAt W c S t) (b : Sim M t rc ch) (d : RefAt W h S2 rd) (f : ∀ k ∈ c :: S, w.heap.size ≤ k) (g : ∀ k ∈ S2, w.heap.size ≤ k) (i : ∀ k ∈ S, k ∉ S2) (hT : RTurns h S2 rd' W W2) (e' : rd'.Held M ch) : Duo w W2 c h M rc rd' ch ∧ Stays W W2 := by
  obtain ⟨S2', d', s', c'⟩ := hT
  have hcS : c ∉ S2 := by
    obtain ⟨g0, hB, _⟩ := a
    exact d.not_box hB (by decide) (by decide) (by decide)
  have hl := a.lt
  refine ⟨⟨h1.trans c' (fun k hk => .inr (g k hk)), S, t, S2', a.chg c' hcS i, b, d', e', f, fun k hk => (s' k hk).elim (g k) (fun x => Nat.le_trans h1.size x), fun k hk hm => ?_⟩, c'.size, fun b e cs hB e1 e2 e3 e4 e5 e6 => hB.chg c' (d.not_box hB (Ne.symm e5) (Ne.symm e6) (Ne.symm e4))⟩
  rcases s' k hm with hm | hm
  · exact i k hk hm
  · have := hl k (List.mem_cons_of_mem _ hk); omega
theorem Duo.charge (H : Duo w W c h M rc rd ch) (hU : Up rc.par i q L) (hL : L.length ≤ 1000) (i0 : -9223372036854775808 ≤ i) (i1 : i ≤ 9223372036854775807) : Calls Try.prog 10 #[ptr c, .agg #[.int .i64 i, .int .u64 q]] W fun e W' => e = .returned (.bool (decide (0 < leftR rc L))) ∧ Duo w W' c h M (chargeR L rc) rd ch ∧ Stays W W' := by
  obtain ⟨h1, S, t, S2, a, b, d, e, f, g, i9⟩ := H
  refine (Charge_any a b hU hL i0 i1).mono ?_
  rintro e9 W' ⟨rfl, hT⟩
  exact ⟨rfl, Duo.code h1 a d e f g i9 hT⟩
theorem useR_held (hh : r.Held M ch) (L : List (Int × Int)) : (∀ x ∈ L, (r.pl x.1.toNat).is = true) → (useR L r).Held M ch := by
  refine snoc_rec (P := fun L => (∀ x ∈ L, (r.pl x.1.toNat).is = true) → (useR L r).Held M ch) (fun _ => hh) (fun L x ih h => ?_) L
  rw [useR_snoc]
  have h1 := ih (fun y hy => h y (List.mem_append_left _ hy))
  have h2 := useR_like (M := M) (ch := ch) L (fun y hy => is_lt (h y (List.mem_append_left _ hy)))
  exact useK_held h1 (by rw [h2.is]; exact h x (List.mem_append_right _ (List.mem_singleton.2 rfl)))
theorem up_is (hU : Up r.par i q L) : ∀ x ∈ L, (r.pl x.1.toNat).is = true := fun x hx => by
  obtain ⟨k, rfl, _, h⟩ := hU.there x hx
  rw [Int.toNat_natCast]; exact h
theorem chargeR_held (hh : r.Held M ch) (hU : Up r.par i q L) : (chargeR L r).Held M ch := by
  unfold chargeR
  split
  · exact useR_held hh L (up_is hU)
  · exact hh
theorem chargeR_like {M : Nat} {ch : Nat → List (Int × Int)} (hU : Up r.par i q L) : Like r (chargeR L r) := by
  unfold chargeR
  split
  · exact useR_like (M := M) (ch := ch) L (fun x hx => is_lt (up_is hU x hx))
  · exact Like.refl r
theorem Duo.rcharge (H : Duo w W c h M rc rd ch) (hU : Up rd.par i q L) (hL : L.length ≤ 1000) : Calls Try.prog 11 #[ptr h, .agg #[.int .i64 i, .int .u64 q]] W fun e W' => e = .returned (.bool (decide (0 < leftR rd L))) ∧ Duo w W' c h M rc (chargeR L rd) ch ∧ Stays W W' := by
  obtain ⟨h1, S, t, S2, a, b, d, e, f, g, i9⟩ := H
  refine (rcharge_any d e hU hL (leftR_nn e L)).mono ?_
  rintro e9 W' ⟨rfl, hT⟩
  exact ⟨rfl, Duo.doc h1 a b d f g i9 hT (chargeR_held e hU)⟩
theorem Duo.use (H : Duo w W c h M rc rd ch) (hk : (rc.pl k).is = true) {g : Int} (hg : (rc.pl k).gen = g) {n : Int} (n0 : 0 ≤ n) (n1 : n < 18446744073709551616) : Calls Try.prog 12 #[ptr c, .agg #[.int .i64 (k : Nat), .int .u64 g], .int .u64 n] W fun e W' => e = .returned (.int .i64 0) ∧ Duo w W' c h M (rc.useN k n) rd ch ∧ Stays W W' := by
  obtain ⟨h1, S, t, S2, a, b, d, e, f, g', i9⟩ := H
  have hl := is_lt hk
  have hn1 := b.held.n1
  have hnum := (b.held.nums k hl).2.2.2.1
  subst hg
  refine (Use_any a b.oks (i := (k : Nat)) (q := (rc.pl k).gen) (by omega) (by omega) n n0 n1).mono ?_
  rintro e9 W' ⟨rfl, hD, hc⟩
  have hst : staleE t (k : Nat) (rc.pl k).gen = 0 := by unfold staleE; rw [b.has, is_pl.2 ⟨k, rfl, hl, hk, rfl⟩]; rfl
  refine ⟨by rw [hst], Duo.code h1 a d e f g' i9 ⟨_, hD, b.usedTo hk _ (addS (rc.pl k).used n) (fun x hx => by rw [hx]) ?_ ?_, hc⟩⟩
  · unfold addS; split <;> omega
  · unfold addS; split <;> omega
theorem useN_held (hh : r.Held M ch) (hk : (r.pl k).is = true) {n : Int} (n0 : 0 ≤ n) (n1 : n < 18446744073709551616) : (r.useN k n).Held M ch := by
  obtain ⟨_, b, _, d, _⟩ := hh.nums k (is_lt hk)
  refine set1_held hh hk b.1 (hh.room k hk).1 ?_ ?_
  · unfold addS; split <;> omega
  · unfold addS; split <;> omega
theorem Duo.ruse (H : Duo w W c h M rc rd ch) (hk : (rd.pl k).is = true) {g : Int} (hg : (rd.pl k).gen = g) {n : Int} (n0 : 0 ≤ n) (n1 : n < 18446744073709551616) : Calls Try.prog 13 #[ptr h, .agg #[.int .i64 (k : Nat), .int .u64 g], .int .u64 n] W fun e W' => e = .returned (.int .i64 0) ∧ Duo w W' c h M rc (rd.useN k n) ch ∧ Stays W W' := by
  obtain ⟨h1, S, t, S2, a, b, d, e, f, g', i9⟩ := H
  have := ruse_any d e.n0 e.fine (i := (k : Nat)) (q := g) n n0 n1
  have hi : rd.is (k : Nat) g = true := is_pl.2 ⟨k, rfl, is_lt hk, hk, hg⟩
  rw [hi] at this
  simp only [if_true, Int.toNat_natCast] at this
  refine this.mono ?_
  rintro e9 W' ⟨rfl, hT⟩
  exact ⟨rfl, Duo.doc h1 a b d f g' i9 hT (useN_held e hk n0 n1)⟩
/-- What Reset tells. -/
def ResetsTo (c h : Nat) (w W : World) (M : Nat) (rc rd : RTab) (ch : Nat → List (Int × Int)) (bg : List (Int × Int)) (e : Ending) (W' : World) : Prop :=
  ∃ A cc, e = .returned (.slice A bg.length cc) ∧ Row W' 34 2 (.slice A bg.length cc) bg.length (refCells bg) ∧ Duo w W' c h M rc rd ch ∧ Stays W W'
theorem Duo.reset (H : Duo w W c h M rc rd ch) (hp : Pers rc) {now : Int} (n0 : 0 ≤ now) (n1 : now < 18446744073709551616) : Calls Try.prog 15 #[ptr c, .int .u64 now] W (ResetsTo c h w W M (resetR rc ch now) rd ch (begunL now (rc.all ch))) := by
  obtain ⟨h1, S, t, S2, a, b, d, e, f, g, i9⟩ := H
  refine (Reset_any a b hp n0 n1).mono ?_
  rintro e9 W' ⟨A, cc, rfl, hr, hf, hT, hl⟩
  exact ⟨A, cc, rfl, hr, Duo.code h1 a d e f g i9 hT⟩
theorem Duo.rreset (H : Duo w W c h M rc rd ch) (hp : Pers rd) {now : Int} (n0 : 0 ≤ now) (n1 : now < 18446744073709551616) : Calls Try.prog 16 #[ptr h, .int .u64 now] W (ResetsTo c h w W M rc (resetR rd ch now) ch (begunL now (rd.all ch))) := by
  obtain ⟨h1, S, t, S2, a, b, d, e, f, g, i9⟩ := H
  refine (rreset_any d e hp n0 n1).mono ?_
  rintro e9 W' ⟨A, cc, rfl, hr, hf, hT, hh⟩
  exact ⟨A, cc, rfl, hr, Duo.doc h1 a b d f g i9 hT hh⟩
theorem Duo.rleft (H : Duo w W c h M rc rd ch) (hU : Up rd.par i q L) (hL : L.length ≤ 1000) : Calls Try.prog 17 #[ptr h, .agg #[.int .i64 i, .int .u64 q]] W fun e W' => e = .returned (.int .u64 (leftR rd L)) ∧ Chg [] W W' := by
  obtain ⟨h1, S, t, S2, a, b, d, e, f, g, i9⟩ := H
  exact rleft_any d e hU hL
theorem Duo.rtight (H : Duo w W c h M rc rd ch) (hU : Up rd.par i q L) (hL : L.length ≤ 1000) : Calls Try.prog 19 #[ptr h, .agg #[.int .i64 i, .int .u64 q]] W fun e W' => e = tightAns (tightO rd L) ∧ Chg [] W W' := by
  obtain ⟨h1, S, t, S2, a, b, d, e, f, g, i9⟩ := H
  exact rtight_any d e hU hL
theorem Duo.rnext (H : Duo w W c h M rc rd ch) (hp : Pers rd) {now : Int} (n0 : 0 ≤ now) (n1 : now < 18446744073709551616) : Calls Try.prog 21 #[ptr h, .int .u64 now] W fun e W' => e = .returned (.tuple #[.int .u64 (oInt (nextR rd ch now)), .bool (nextR rd ch now).isSome]) ∧ Chg [] W W' := by
  obtain ⟨h1, S, t, S2, a, b, d, e, f, g, i9⟩ := H
  exact rnext_any d e hp n0 n1
theorem Duo.rall (H : Duo w W c h M rc rd ch) : Calls Try.prog 26 #[ptr h] W fun e W' => ∃ A cc, e = .returned (.slice A (rd.all ch).length cc) ∧ Row W' 90 13 (.slice A (rd.all ch).length cc) (rd.all ch).length (plcCells (rd.all ch)) ∧ (∀ k ∈ foot (.slice A (rd.all ch).length cc), W.heap.size ≤ k) ∧ Chg [] W W' := by
  obtain ⟨h1, S, t, S2, a, b, d, e, f, g, i9⟩ := H
  exact rall_any d e.n0 e.fine e.Chs
theorem clearR_like (L : List (Int × Int)) : (∀ x ∈ L, (r.pl x.1.toNat).is = true) → Like r (clearR L r) := by
  refine snoc_rec (P := fun L => (∀ x ∈ L, (r.pl x.1.toNat).is = true) → Like r (clearR L r)) (fun _ => Like.refl r) (fun L x ih h => ?_) L
  rw [clearR_snoc]
  have := ih (fun y hy => h y (List.mem_append_left _ hy))
  exact this.trans (Like.set1 (by rw [this.len]; exact is_lt (h x (List.mem_append_right _ (List.mem_singleton.2 rfl)))) _ _)
theorem begun_is (now : Int) : ∀ x ∈ begunL now (r.all ch), (r.pl x.1.toNat).is = true := fun x hx => by
  unfold begunL at hx
  rw [List.mem_map] at hx
  obtain ⟨p, hp, rfl⟩ := hx
  obtain ⟨k, _, hi, rfl⟩ := all_mem.1 (List.mem_filter.1 hp).1
  simp only [Int.toNat_natCast]; exact hi
theorem resetR_like (now : Int) : Like r (resetR r ch now) := clearR_like _ (begun_is now)
end
end Go.Proofs
end
section
namespace Go.Proofs
open Go.RowKit
set_option linter.unusedVariables false

section
variable {P : Program} (w : World)
/-- append of nothing onto a row: the row. -/
theorem run_append_none (t ty e : TypeId) (i : TypeInfo) (size : Nat) (ht : P.underlying t = some (.slice e)) (hi : P.info? e = some i)
    (v : Value) (n : Nat) (xs : List Value) (hr : Row w e size v n xs) (A : Option Addr) (c : Nat) :
    (Builtin.append_ #[t, t] ty #[v, .slice A 0 c]).run P w = .ok v w := by
  rcases hr.2 with ⟨rfl, rfl⟩ | ⟨g, cap, cur, rfl, _, hnc, _⟩
  · cases A <;> simp [Builtin.append_, run_underlying ht, sizeOf, typeInfo, hi, Builtin.lenOf, Builtin.firstCells, loadCells, loadCellsFrom]
  · cases A <;> simp [Builtin.append_, run_underlying ht, sizeOf, typeInfo, hi, Builtin.lenOf, Builtin.firstCells, loadCells, loadCellsFrom, hnc, storeCells]
/-- append of a row onto an empty row: a copy. -/
theorem wpList_append_copy {ops : Array Oper} {rest : List Oper} {o : Oper} {a : Act} {Q : Exit → Act → World → Prop} (hgd : o.guard = none) (s x : Operand) (t : TypeId)
    (ho : o.op = .call { callee := .builtin .append, args := #[s, x], argTypes := #[t, t] })
    (e : TypeId) (i : TypeInfo) (z : Value) (size bytes : Nat) (ht : P.underlying t = some (.slice e)) (hi : P.info? e = some i) (hz : i.zero = some z)
    (hsize : i.size = size) (hby : i.bytes = bytes) (hzs : z.cells.size = size)
    (v : Value) (hs : a.eval s = v) (hr : Row w e size v 0 [])
    (V : Value) (n : Nat) (xs : List Value) (hx : a.eval x = V) (hV : Row w e size V n xs) (h1 : ∀ u ∈ xs, u.oneCell' = true)
    (h63 : n ≤ maxLen) (hbytes : n * bytes ≤ 140737488355328) (H : Nat) (hH : w.heap.size = H)
    (h : ∀ v' w', Row w' e size v' n xs → w.grownBy w' v.ownBlock → (∀ k ∈ foot v', v.ownBlock = some k ∨ k = H) → wpList P ops Q rest (a.put o.dst v') w') : wpList P ops Q (o :: rest) a w := by
  obtain ⟨A, c, rfl, hA⟩ := hV.val
  rcases Nat.eq_zero_or_pos n with h0 | h0
  · subst h0
    have hxs : xs = [] := List.eq_nil_of_length_eq_zero (by simpa using hV.1)
    subst hxs
    have hrun := run_append_none (P := P) w t o.type e i size ht hi v 0 [] hr A c
    refine wpList_plain hgd fun _ hK => ?_
    unfold Oper.wp execOp
    simp only [ho, resolve, invoke, builtin, Sem.run_bind, Sem.run_pure, Result.andThen_ok, List.map_toArray, List.map_cons, List.map_nil, hs, hx, hrun]
    exact hK _ _ (h v w hr ⟨rfl, rfl, rfl, Nat.le_refl _, fun _ _ _ => rfl⟩ (fun k hk => .inl (by simpa [foot] using hk)))
  · obtain ⟨g, cap, hv, _, _, hcell, _, _⟩ := hV.form h0
    simp only [Value.slice.injEq] at hv
    obtain ⟨rfl, _, _⟩ := hv
    have hadd : ∀ j, (⟨g, 0, none⟩ : Addr).add j = ⟨g, j, none⟩ := fun j => by unfold Addr.add; split <;> simp_all
    refine wpList_append_row w hgd s x t ho e i z size bytes ht hi hz hsize hby hzs v 0 [] hs hr ⟨g, 0, none⟩ n c xs hx hV.1 (fun j u hu => by rw [hadd]; exact hcell j u hu) h1 h0 (by omega) (by rw [Nat.zero_add]; exact hbytes) H hH ?_
    intro g' cap' w' h2 h3 h4 _
    simp only [Nat.zero_add, List.nil_append] at h2
    rw [Nat.zero_add]
    exact h _ _ h2 h3 (fun k hk => by simp [foot_some] at hk; subst hk; exact h4)
end
theorem Try.int_info3 : (Try.prog.info? 3).map (fun i => (i.zero, i.size, i.bytes)) = some (some (.int .i64 0), 1, 8) := by kernel_rfl
/-- A slice in new blocks, with the same cells. -/
def Cloned (e : TypeId) (size n : Nat) (xs : List Value) (w w' : World) (en : Ending) : Prop := ∃ v, en = .returned v ∧ Row w' e size v n xs ∧ (∀ k ∈ foot v, w.heap.size ≤ k) ∧ Chg [] w w'
theorem spotCells_one (l : List (Spot Dm)) : ∀ u ∈ spotCells l, u.oneCell' = true := by
  intro u hu
  unfold spotCells at hu
  rw [List.mem_flatMap] at hu
  obtain ⟨s, _, hs⟩ := hu
  simp [Spot.cells] at hs
  rcases hs with rfl | rfl | rfl | rfl | rfl | rfl | rfl | rfl | rfl | rfl | rfl | rfl | rfl <;> rfl
theorem numCells_one (l : List Nat) : ∀ u ∈ numCells l, u.oneCell' = true := by
  intro u hu
  unfold numCells at hu
  rw [List.mem_map] at hu
  obtain ⟨s, _, rfl⟩ := hu
  rfl
theorem eql_nil_97 (w : World) (a : Option Addr) (n c : Nat) : (binOp .eql 137 (.slice a n c) (.slice none 0 0)).run Try.prog w = .ok (.bool a.isNone) w := by
  simp only [binOp]
  simp [Op.equal, Op.maxDepth, Lib.run_equalIn_slice_nil w 9999 137 135 a n c 0 0 Try.underlying137]
theorem eql_nil_98 (w : World) (a : Option Addr) (n c : Nat) : (binOp .eql 62 (.slice a n c) (.slice none 0 0)).run Try.prog w = .ok (.bool a.isNone) w := by
  simp only [binOp]
  simp [Op.equal, Op.maxDepth, Lib.run_equalIn_slice_nil w 9999 62 3 a n c 0 0 Try.underlying62]
attribute [local go_sem] eql_nil_97 eql_nil_98
set_option maxRecDepth 100000 in
theorem clone_spots {w : World} {V : Value} {l : List (Spot Dm)} (hV : Row w 135 13 V l.length (spotCells l)) (hl : l.length ≤ 4096) :
    Calls Try.prog 78 #[V] w fun e w' => Cloned 135 13 l.length (spotCells l) w w' e := by
  obtain ⟨i0, hi0, hz0, hz1, hz2⟩ := info_parts Try.info_C
  have hone := spotCells_one l
  have hV0 := hV
  rcases hV.2 with ⟨rfl, h0⟩ | ⟨g, cap, cur, rfl, hg, hc, hm, hcs, ht⟩
  · have hnil : l = [] := List.eq_nil_of_length_eq_zero h0
    subst hnil
    clear hV hV0 hone
    go_enter Try.func78, Try.ntmps78
    go_wp2
    go_ret
    exact ⟨_, rfl, Row.nil _ _ _, by simp [foot_nil], Chg.refl _ _⟩
  · have HV := Lib.hid hV0
    clear hV hV0 ht hg hcs hm hc
    obtain ⟨n, hn⟩ : ∃ n, n = l.length := ⟨_, rfl⟩
    rw [← hn] at HV hl ⊢
    clear hn
    go_enter Try.func78, Try.ntmps78
    go_wp2_with (at_builtin; refine wpList_append_copy _ rfl _ _ 137 (by rfl) 135 i0 _ 13 104 Try.underlying137 hi0 hz0 hz1 hz2 rfl (.slice (some ⟨w.heap.size, 0, none⟩) 0 0) (by rfl) ⟨by simp, .inr ⟨w.heap.size, 0, #[], rfl, Blk.new w _ _, by omega, by unfold maxLen; omega, by simp, rfl⟩⟩ (.slice (some ⟨g, 0, none⟩) n cap) n (spotCells l) (by rfl) (HV.out.alloc _) hone (by unfold maxLen; omega) (by omega) (w.heap.size + 1) (by simp) ?_; intro v' w1 hr hg hf)
    go_ret
    refine ⟨_, rfl, hr, fun k hk => ?_, ((Chg.refl [] w).alloc _).grown hg (fun k hk => ?_)⟩
    · rcases hf k hk with h9 | h9
      · simp [Value.ownBlock] at h9; omega
      · omega
    · simp [Value.ownBlock] at hk; exact .inr (by omega)
set_option maxRecDepth 100000 in
theorem clone_nums {w : World} {V : Value} {l : List Nat} (hV : Row w 3 1 V l.length (numCells l)) (hl : l.length ≤ 4096) :
    Calls Try.prog 79 #[V] w fun e w' => Cloned 3 1 l.length (numCells l) w w' e := by
  obtain ⟨i0, hi0, hz0, hz1, hz2⟩ := info_parts Try.int_info3
  have hone := numCells_one l
  have hV0 := hV
  rcases hV.2 with ⟨rfl, h0⟩ | ⟨g, cap, cur, rfl, hg, hc, hm, hcs, ht⟩
  · have hnil : l = [] := List.eq_nil_of_length_eq_zero h0
    subst hnil
    clear hV hV0 hone
    go_enter Try.func79, Try.ntmps79
    go_wp2
    go_ret
    exact ⟨_, rfl, Row.nil _ _ _, by simp [foot_nil], Chg.refl _ _⟩
  · have HV := Lib.hid hV0
    clear hV hV0 ht hg hcs hm hc
    obtain ⟨n, hn⟩ : ∃ n, n = l.length := ⟨_, rfl⟩
    rw [← hn] at HV hl ⊢
    clear hn
    go_enter Try.func79, Try.ntmps79
    go_wp2_with (at_builtin; refine wpList_append_copy _ rfl _ _ 62 (by rfl) 3 i0 _ 1 8 Try.underlying62 hi0 hz0 hz1 hz2 rfl (.slice (some ⟨w.heap.size, 0, none⟩) 0 0) (by rfl) ⟨by simp, .inr ⟨w.heap.size, 0, #[], rfl, Blk.new w _ _, by omega, by unfold maxLen; omega, by simp, rfl⟩⟩ (.slice (some ⟨g, 0, none⟩) n cap) n (numCells l) (by rfl) (HV.out.alloc _) hone (by unfold maxLen; omega) (by omega) (w.heap.size + 1) (by simp) ?_; intro v' w1 hr hg hf)
    go_ret
    refine ⟨_, rfl, hr, fun k hk => ?_, ((Chg.refl [] w).alloc _).grown hg (fun k hk => ?_)⟩
    · rcases hf k hk with h9 | h9
      · simp [Value.ownBlock] at h9; omega
      · omega
    · simp [Value.ownBlock] at hk; exact .inr (by omega)
/-- A copy of the table, in new blocks. -/
def Copied (t : Tab Dm) (w w' : World) : Prop := ∃ S, TabAt w' w.heap.size S t ∧ (∀ k ∈ S, w.heap.size ≤ k) ∧ Chg [] w w'
theorem Copied.mk {t : Tab Dm} {w W : World} {v1 v2 : Value} (hB : Blk W w.heap.size 139 #[.int .i64 t.size, .int .u64 t.first, v1, v2, .int .i64 t.retired]) (h1 : Row W 135 13 v1 t.spots.length (spotCells t.spots)) (h2 : Row W 3 1 v2 t.freed.length (numCells t.freed))
    (f1 : ∀ k ∈ foot v1, w.heap.size ≤ k) (f2 : ∀ k ∈ foot v2, w.heap.size ≤ k) (hc : Chg [] w W) : Copied t w W :=
  ⟨_, ⟨v1, v2, hB, h1, h2, rfl⟩, fun k hk => by
    simp at hk
    rcases hk with rfl | hk | hk
    · exact Nat.le_refl _
    · exact f1 k hk
    · exact f2 k hk, hc⟩
set_option maxRecDepth 100000 in
set_option maxHeartbeats 3200000 in
theorem tcopy_any {w : World} {g : Nat} {S : List Nat} {t : Tab Dm} (h : TabAt w g S t) (hw : t.WF) :
    Calls Try.prog 55 #[.pointer (some ⟨g, 0, none⟩)] w fun e w' => e = .returned (.pointer (some ⟨w.heap.size, 0, none⟩)) ∧ Copied t w w' := by
  have h0 := h
  obtain ⟨VS, VF, hB, hS, hF, hSS⟩ := h
  obtain ⟨A, c, rfl, _⟩ := hS.val
  obtain ⟨A', c', rfl, _⟩ := hF.val
  obtain ⟨n1, hn1⟩ : ∃ n, n = t.spots.length := ⟨_, rfl⟩
  obtain ⟨n2, hn2⟩ : ∃ n, n = t.freed.length := ⟨_, rfl⟩
  have hl1 : t.spots.length ≤ 4096 := by have := hw.len; have := hw.s1; omega
  have hl2 : t.freed.length ≤ 4096 := by have := hw.freed_len; omega
  have lg := hB.lt
  have hne : g ≠ w.heap.size := by omega
  have HS : Hid (Row w 135 13 (.slice A n1 c) t.spots.length (spotCells t.spots)) := Lib.hid (by rw [hn1]; exact hS)
  have HF : Hid (Row w 3 1 (.slice A' n2 c') t.freed.length (numCells t.freed)) := Lib.hid (by rw [hn2]; exact hF)
  have HB := Lib.hid hB
  have b0 := hB.cell 0
  have b1 := hB.cell 1
  have b2 := hB.cell 2
  have b3 := hB.cell 3
  have b4 := hB.cell 4
  obtain ⟨Z, hZ⟩ : ∃ Z, Z = t.size := ⟨_, rfl⟩
  obtain ⟨F, hFi⟩ : ∃ F, F = t.first := ⟨_, rfl⟩
  obtain ⟨R, hR⟩ : ∃ R, R = t.retired := ⟨_, rfl⟩
  rw [← hZ] at b0
  rw [← hFi] at b1
  rw [← hR] at b4
  have HZ := Lib.hid hZ
  have HFi := Lib.hid hFi
  have HR := Lib.hid hR
  have HN1 := Lib.hid hn1
  have HN2 := Lib.hid hn2
  rw [← hn1] at b2
  rw [← hn2] at b3
  clear hB hS hF hSS hZ hFi hR hn1 hn2
  go_enter Try.func55, Try.ntmps55
  go_wp2_with (go_at_call 77; refine (none_C h0 hw).mono ?_; rintro e w' ⟨rfl, rfl⟩)
  have HCC := Lib.hid (((Chg.refl [] w).alloc (.cells #[.int .i64 Z, .int .u64 F, (.slice A n1 c), (.slice A' n2 c'), .int .i64 R] 139)).drew)
  have HBX := Lib.hid ((Blk.new w 139 #[.int .i64 Z, .int .u64 F, (.slice A n1 c), (.slice A' n2 c'), .int .i64 R]).drew)
  go_region_held3 (fun w' => w'.cell? ⟨g, 2, none⟩ = some (.slice A n1 c) ∧ w'.cell? ⟨g, 3, none⟩ = some (.slice A' n2 c'))
    (first | go_keep | (simp [*, World.cell?_setCell_far, Ne.symm hne]))
    (first
      | (go_at_call 78; refine (clone_spots (HS.out.chg HCC.out (fun _ _ h => by cases h)) hl1).mono ?_; rintro e w1 ⟨v1, rfl, hr1, hf1, hc1⟩; obtain ⟨A1, c1, rfl, _⟩ := hr1.val; have HBX := Lib.hid (HBX.out.chg hc1 (by simp)); have HR1 := Lib.hid hr1; have HF1 := Lib.hid hf1; have HC1 := Lib.hid hc1; have HCC := Lib.hid (HCC.out.then hc1); have k2 : w1.cell? ⟨g, 2, none⟩ = some (.slice A n1 c) := (HCC.out.cell (p := ⟨g, 2, none⟩) lg (by simp)).trans b2; have k3 : w1.cell? ⟨g, 3, none⟩ = some (.slice A' n2 c') := (HCC.out.cell (p := ⟨g, 3, none⟩) lg (by simp)).trans b3; clear hr1 hf1 hc1)
      | (go_at_call 79; refine (clone_nums (HF.out.chg HCC.out (fun _ _ h => by cases h)) hl2).mono ?_; rintro e w2 ⟨v2, rfl, hr2, hf2, hc2⟩; obtain ⟨A2, c2, rfl, _⟩ := hr2.val; have hbx := HBX.out.chg hc2 (by simp); have x2 := hbx.cell 2; have x3 := hbx.cell 3; have y2 := hbx.frozen 2; have y3 := hbx.frozen 3; have HBX := Lib.hid hbx; have HR2 := Lib.hid hr2; have HF2 := Lib.hid hf2; have HC2 := Lib.hid hc2; have HCC := Lib.hid (HCC.out.then hc2); have j2 : w2.cell? ⟨g, 2, none⟩ = some (.slice A n1 c) := (HCC.out.cell (p := ⟨g, 2, none⟩) lg (by simp)).trans b2; have j3 : w2.cell? ⟨g, 3, none⟩ = some (.slice A' n2 c') := (HCC.out.cell (p := ⟨g, 3, none⟩) lg (by simp)).trans b3; clear hr2 hf2 hc2 hbx))
  have z2 := HC2.out.size
  have z1 := HC1.out.size
  simp only [World.size_drew, World.size_alloc] at z1
  have m1 : w.heap.size ∉ foot (.slice A1 t.spots.length c1) := fun hm => by have := HF1.out _ hm; simp at this; omega
  have m2 : w.heap.size ∉ foot (.slice A2 t.freed.length c2) := fun hm => by have := HF2.out _ hm; omega
  have hB2 : Blk ((w2.setCell ⟨w.heap.size, 2, none⟩ (.slice A1 t.spots.length c1)).setCell ⟨w.heap.size, 3, none⟩ (.slice A2 t.freed.length c2)) w.heap.size 139 #[.int .i64 Z, .int .u64 F, .slice A1 t.spots.length c1, .slice A2 t.freed.length c2, .int .i64 R] := (HBX.out.set_ 2 _).set_ 3 _
  have hq1 := ((HR1.out.chg HC2.out (fun _ _ h => by cases h)).far (p := ⟨w.heap.size, 2, none⟩) m1 (.slice A1 t.spots.length c1)).far (p := ⟨w.heap.size, 3, none⟩) m1 (.slice A2 t.freed.length c2)
  have hq2 := (HR2.out.far (p := ⟨w.heap.size, 2, none⟩) m2 (.slice A1 t.spots.length c1)).far (p := ⟨w.heap.size, 3, none⟩) m2 (.slice A2 t.freed.length c2)
  rw [HZ.out, HFi.out, HR.out] at hB2
  have HM := Lib.hid (Copied.mk hB2 hq1 hq2 (fun k hk => by have := HF1.out k hk; simp at this; omega) (fun k hk => by have := HF2.out k hk; omega) ((HCC.out.setCell (p := ⟨w.heap.size, 2, none⟩) (.inr (Nat.le_refl _)) _).setCell (p := ⟨w.heap.size, 3, none⟩) (.inr (Nat.le_refl _)) _))
  clear z1 z2 m1 m2 hB2 hq1 hq2
  go_wp2
  go_ret
  exact ⟨rfl, HM.out⟩
end Go.Proofs
end
section
namespace Go.Proofs
open Go.RowKit Go.Shelf
set_option linter.unusedVariables false
set_option linter.unusedSimpArgs false
set_option maxRecDepth 100000 in
/-- Copy: another one, which has the same table. -/
theorem Copy_any {w : World} {c : Nat} {S : List Nat} {t : Tab Dm} (h : DomAt w c S t) :
    Calls Try.prog 29 #[ptr c] w fun e w' => ∃ c2 S2, e = .returned (ptr c2) ∧ DomAt w' c2 S2 t ∧ (∀ k ∈ c2 :: S2, w.heap.size ≤ k) ∧ Chg [] w w' := by
  obtain ⟨g, hB, hT, hW⟩ := h
  have c0 : w.cell? ⟨c, 0, none⟩ = some (ptr g) := hB.cell 0
  have HT := Lib.hid (tcopy_any hT hW)
  have HW := Lib.hid hW
  clear hB hT hW
  go_enter Try.func29, Try.ntmps29
  go_wp2_with (go_at_call 55; refine HT.out.mono ?_; rintro e w1 ⟨rfl, hcp⟩; have HC := Lib.hid hcp; clear hcp)
  go_ret
  obtain ⟨S, h1, h2, h3⟩ := HC.out
  have z := h3.size
  have hq := (Chg.refl [] w1).alloc (.cells #[ptr w.heap.size] 110)
  refine ⟨_, S, rfl, ⟨w.heap.size, Blk.new w1 110 _, h1.quiet hq, HW.out⟩, fun k hk => ?_, h3.then hq⟩
  rcases List.mem_cons.1 hk with rfl | hk
  · exact z
  · exact h2 k hk
/-- The cells of a row of all. -/
theorem plc_cells {w : World} {A : Option Addr} {n c1 : Nat} {l0 : List Plc} (h : Row w 90 13 (.slice A n c1) n (plcCells l0)) {k : Nat} (hk : k < n) {p : Plc} (hp : l0[k]? = some p) : ∃ g, A = some ⟨g, 0, none⟩ ∧ g < w.heap.size ∧ ∀ W', Chg [] w W' →
    W'.cell? ⟨g, k * 13, none⟩ = some (.int .i64 p.i) ∧ W'.cell? ⟨g, k * 13 + 1, none⟩ = some (.int .u64 p.q) ∧ W'.cell? ⟨g, k * 13 + 2, none⟩ = some (.int .i64 p.x.pi) ∧ W'.cell? ⟨g, k * 13 + 3, none⟩ = some (.int .u64 p.x.pg) ∧ W'.cell? ⟨g, k * 13 + 4, none⟩ = some (.int .i64 p.x.gs) ∧ W'.cell? ⟨g, k * 13 + 5, none⟩ = some (.int .u64 p.x.cpu) ∧ W'.cell? ⟨g, k * 13 + 6, none⟩ = some (.int .u64 p.x.per) ∧ W'.cell? ⟨g, k * 13 + 7, none⟩ = some (.int .i64 p.x.cgs) ∧ W'.cell? ⟨g, k * 13 + 8, none⟩ = some (.int .u64 p.x.car) ∧ W'.cell? ⟨g, k * 13 + 9, none⟩ = some (.int .i64 p.x.own) ∧ W'.cell? ⟨g, k * 13 + 10, none⟩ = some (.int .i64 p.x.live) ∧ W'.cell? ⟨g, k * 13 + 11, none⟩ = some (.int .u64 p.x.used) ∧ W'.cell? ⟨g, k * 13 + 12, none⟩ = some (.int .i64 p.x.ch) := by
  obtain ⟨g, d, hv, _, _, hcell, _, lg⟩ := h.form (by omega)
  simp only [Value.slice.injEq] at hv
  obtain ⟨rfl, _, _⟩ := hv
  obtain ⟨q0, q1, q2, q3, q4, q5, q6, q7, q8, q9, q10, q11, q12⟩ := plcCells_at hp
  refine ⟨g, rfl, lg, fun W' hc => ?_⟩
  have e := fun (j : Nat) (u : Value) (hj : (plcCells l0)[j]? = some u) => (hc.cell (p := ⟨g, j, none⟩) lg (by simp)).trans (hcell _ _ hj)
  exact ⟨e _ _ q0, e _ _ q1, e _ _ q2, e _ _ q3, e _ _ q4, e _ _ q5, e _ _ q6, e _ _ q7, e _ _ q8, e _ _ q9, e _ _ q10, e _ _ q11, e _ _ q12⟩
end Go.Proofs
end
