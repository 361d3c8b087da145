import Derived.Test.YtncpeemghnmakaaM11
import Derived.Deep.Slices
import Derived.Deep.Fields
import Derived.ChangeSame
import Derived.Carry
import Derived.ProofKit
import Derived.OpenShut
import Derived.Test.YtncpeemghnmakaaRows
section
namespace Go.Proofs
open Go.ChangeShapes Go.WideShapes Go.ChangeAt Go.RowKit Go.Deep
set_option linter.unusedVariables false
set_option maxRecDepth 100000
theorem spot_none {W : World} {a : Addr} {u : Value} (h : W.cell? ((a.add 0).add 0) = some u) : a.spot = none ∧ a.block < W.heap.size := by
  have e0 : (a.add 0).add 0 = a := by unfold Addr.add; simp
  rw [e0] at h
  refine ⟨?_, World.block_lt_of_cell? W _ h⟩
  unfold World.cell? at h
  split at h
  · split at h
    · cases h
    · rename_i hns; simpa using hns
  · cases h
/-! ### What came in, element by element -/
def Ins {α : Type} (enc : α → List Value) (ok : α → Prop) (s : Nat) (w : World) (V : Value) (l : List α) : Prop :=
  ∃ A c, V = .slice A l.length c ∧ ∀ (k : Nat) (a : α), l[k]? = some a → ∃ b off, A = some ⟨b, off, none⟩ ∧ b < w.heap.size ∧ ok a ∧
    ∀ (j : Nat) (u : Value), (enc a)[j]? = some u → w.cell? ⟨b, off + k * s + j, none⟩ = some u
section
variable {α : Type} {enc : α → List Value} {ok : α → Prop} {s : Nat} {w : World}
theorem Ins.open_ {V : Value} {l : List α} (h : Ins enc ok s w V l) : ∃ A c, V = .slice A l.length c := by
  obtain ⟨A, c, h1, _⟩ := h; exact ⟨A, c, h1⟩
theorem Ins.is_ {A : Option Addr} {n c : Nat} {l : List α} (h : Ins enc ok s w (.slice A n c) l) {k : Nat} (hk : k < n) :
    ∃ b off a, A = some ⟨b, off, none⟩ ∧ l[k]? = some a ∧ ok a ∧ b < w.heap.size ∧ ∀ W, Chg [] w W → ∀ (j : Nat) (u : Value), (enc a)[j]? = some u → W.cell? ⟨b, off + k * s + j, none⟩ = some u := by
  obtain ⟨A', c', hv, ho⟩ := h
  simp only [Value.slice.injEq] at hv
  obtain ⟨rfl, rfl, rfl⟩ := hv
  obtain ⟨a, ha⟩ : ∃ a, l[k]? = some a := ⟨_, List.getElem?_eq_getElem hk⟩
  obtain ⟨b, off, rfl, hb, hf, h2⟩ := ho k a ha
  exact ⟨b, off, a, rfl, ha, hf, hb, fun W hc j u hj => (hc.cell (p := ⟨b, off + k * s + j, none⟩) hb (by simp)).trans (h2 j u hj)⟩
end

abbrev Acts (w : World) (V : Value) (l : List ActC) : Prop := Ins ActC.cells ActC.Fits 9 w V l
section
variable {H : Type} {enc : TypeId × Value → H} {w : World} {base : Nat} {held : Bool}
/-- Elements that came in. -/
theorem open_insT {α : Type} [Inhabited α] {cells : α → List Value} {ok : α → Prop} {s : Nat} {ty el : TypeId} (hty : Try.prog.underlying ty = some (.slice el)) (hce : Try.prog.cellsOf el = s) (hs : ∀ a, (cells a).length = s) (hs1 : 1 ≤ s)
    {W : World} (each1 : ∀ {fuel : Nat} {cs : List Value} {x : DataW H × List MemPlace}, DataW.trod enc Try.prog W 0 (fun _ => true) true fuel el cs = some x → ∃ a, ok a ∧ cs = cells a)
    {fuel : Nat} {cs : List Value} {x : DataW H × List MemPlace} (hf : DataW.trod enc Try.prog W 0 (fun _ => true) true fuel ty cs = some x) :
    ∃ V l, cs = [V] ∧ Ins cells ok s W V l := by
  rcases open_slice hty hf with ⟨hcs, _⟩ | ⟨a, len, cap, m, n, D, Pl, hcs, hb, hl, hm, hmm, hx, hi⟩
  · exact ⟨_, [], hcs, none, 0, rfl, fun k a hk => by simp at hk⟩
  · refine ⟨.slice (some a) len cap, ?_⟩
    have hml : len ≤ m := by rw [hmm]; simp; exact hl
    rcases Nat.eq_zero_or_pos len with h0 | h0
    · subst h0
      exact ⟨[], hcs, some a, cap, rfl, fun k a hk => by simp at hk⟩
    · have each : ∀ i, i < m → ∃ a1 : α, ok a1 ∧ ∀ (j : Nat) (u : Value), (cells a1)[j]? = some u → W.cell? ((a.add (i * s)).add j) = some u := fun i him => by
        obtain ⟨cs', hc, ht⟩ := hi i him
        rw [hce] at hc
        obtain ⟨a1, hf1, rfl⟩ := each1 ht
        obtain ⟨_, _, hat⟩ := World.cells?_some hc
        exact ⟨a1, hf1, fun j u hj => (hat j (by have := (List.getElem?_eq_some_iff.1 hj).1; rw [hs] at this; exact this)).trans hj⟩
      obtain ⟨hsp, hbl⟩ : a.spot = none ∧ a.block < W.heap.size := by
        obtain ⟨a1, _, hc⟩ := each 0 (by omega)
        have := hc 0 _ (List.getElem?_eq_getElem (by rw [hs]; omega))
        rw [Nat.zero_mul] at this
        exact spot_none this
      obtain ⟨b, off, sp⟩ := a
      simp only at hsp hbl
      subst hsp
      have hadd : ∀ i j, ((⟨b, off, none⟩ : Addr).add (i * s)).add j = ⟨b, off + i * s + j, none⟩ := fun i j => by
        unfold Addr.add
        by_cases h1 : i * s = 0 <;> by_cases h2 : j = 0 <;> simp [h1, h2] <;> omega
      refine ⟨(List.range len).map (fun i => if h : i < m then (each i h).choose else default), hcs, some ⟨b, off, none⟩, cap, by simp, ?_⟩
      intro k a1 hk
      rw [List.getElem?_map, Option.map_eq_some_iff] at hk
      obtain ⟨k', hk', rfl⟩ := hk
      obtain ⟨hk1, rfl⟩ := List.getElem?_eq_some_iff.1 hk'
      simp only [List.length_range] at hk1
      rw [List.getElem_range]
      rw [dif_pos (by omega : k < m)]
      obtain ⟨q1, q2⟩ := (each k (by omega)).choose_spec
      exact ⟨b, off, rfl, hbl, q1, fun j u hj => by have := q2 j u hj; rw [hadd] at this; exact this⟩
theorem open_ins {α : Type} [Inhabited α] {cells : α → List Value} {ok : α → Prop} {s : Nat} {ty el : TypeId} (hty : Try.prog.underlying ty = some (.slice el)) (hce : Try.prog.cellsOf el = s) (hs : ∀ a, (cells a).length = s) (hs1 : 1 ≤ s)
    {W : World} (each1 : ∀ {fuel : Nat} {cs : List Value} {x : DataW H × List MemPlace}, DataW.trod enc Try.prog W 0 (fun _ => true) true fuel el cs = some x → ∃ a, ok a ∧ cs = cells a)
    {v : Value} {d : DataW H} {ps : List MemPlace} (hv : Value.okWide Try.prog W .any 0 ty v) (h : DataW.Trod enc Try.prog W 0 (fun _ => true) true ty v d ps) : ∃ l, Ins cells ok s W v l := by
  obtain ⟨fuel, hf⟩ := h
  obtain ⟨a', len', cap', rfl⟩ := okWide_slice hty hv
  obtain ⟨V, l, e, hI⟩ := open_insT hty hce hs hs1 each1 hf
  simp [Value.cells] at e
  subst e
  exact ⟨l, hI⟩
instance : Inhabited ActC := ⟨⟨0, 0, 0, 0, 0, ⟨0, 0, 0, 0⟩⟩⟩
theorem open_ref1 {fuel : Nat} {cs : List Value} {x : DataW H × List MemPlace} (h : DataW.trod enc Try.prog w base (fun _ => true) held fuel 36 cs = some x) :
    ∃ i q : Int, I64 i ∧ (0 ≤ q ∧ q ≤ 18446744073709551615) ∧ cs = [.int .i64 i, .int .u64 q] := by
  obtain ⟨xs, n, _, _, hlen, hxl, hf⟩ := DataW.trod_struct Try.underlying36 h
  have h2 : Try.prog.cellsOf 36 = 2 := by kernel_rfl
  have h3 : Try.prog.cellsOf 3 = 1 := by kernel_rfl
  have h9 : Try.prog.cellsOf 34 = 1 := by kernel_rfl
  rw [h2] at hlen
  match cs, hlen with
  | [c0, c1], _ =>
    match xs, hxl with
    | [y0, y1], _ =>
      have g0 := hf 0 _ rfl
      have g1 := hf 1 _ rfl
      simp [h9, h3] at g0 g1
      obtain ⟨k, e0, _, w0⟩ := DataW.trod_int Try.underlying3 g0
      obtain ⟨x, e1, _, w1⟩ := DataW.trod_int Try.underlying34 g1
      simp only [List.cons.injEq, and_true] at e0 e1
      subst e0 e1
      obtain ⟨a0, a1⟩ := bounds_i64 w0
      obtain ⟨b0, b1⟩ := bounds_u64 w1
      exact ⟨k, x, ⟨a0, by omega⟩, ⟨b0, by omega⟩, rfl⟩
theorem open_cap {fuel : Nat} {cs : List Value} {x : DataW H × List MemPlace} (h : DataW.trod enc Try.prog w base (fun _ => true) held fuel 39 cs = some x) :
    ∃ c : Cp, c.ok ∧ cs = [.int .i64 c.kind, .int .i64 c.idx, .int .u64 c.gen, .int .u8 (c.rts : Nat)] := by
  obtain ⟨xs, n, _, _, hlen, hxl, hf⟩ := DataW.trod_struct Try.underlying39 h
  have h8 : Try.prog.cellsOf 39 = 4 := by kernel_rfl
  have h2 : Try.prog.cellsOf 36 = 2 := by kernel_rfl
  have h3 : Try.prog.cellsOf 33 = 1 := by kernel_rfl
  have h9 : Try.prog.cellsOf 37 = 1 := by kernel_rfl
  rw [h8] at hlen
  match cs, hlen with
  | [c0, c1, c2, c3], _ =>
    match xs, hxl with
    | [y0, y1, y2], _ =>
      have g0 := hf 0 _ rfl
      have g1 := hf 1 _ rfl
      have g2 := hf 2 _ rfl
      simp [h9, h3, h2] at g0 g1 g2
      obtain ⟨k, e0, _, w0⟩ := DataW.trod_int Try.underlying33 g0
      obtain ⟨ri, rq, a1, a2, e1⟩ := open_ref1 g1
      obtain ⟨R, e2, _, w2⟩ := DataW.trod_int Try.underlying37 g2
      simp only [List.cons.injEq, and_true] at e0 e1 e2
      obtain ⟨rfl, rfl⟩ := e1
      subst e0 e2
      obtain ⟨b00, b01⟩ := bounds_i64 w0
      obtain ⟨b20, b21⟩ := bounds_u8 w2
      obtain ⟨N, rfl⟩ : ∃ N : Nat, R = N := ⟨R.toNat, by omega⟩
      exact ⟨⟨k, ri, rq, N⟩, ⟨⟨b00, b01⟩, a1, a2.1, a2.2, by show N < 256; omega⟩, rfl⟩
theorem open_actc {fuel : Nat} {cs : List Value} {x : DataW H × List MemPlace} (h : DataW.trod enc Try.prog w base (fun _ => true) held fuel 41 cs = some x) : ∃ a : ActC, a.Fits ∧ cs = a.cells := by
  obtain ⟨xs, n, _, _, hlen, hxl, hf⟩ := DataW.trod_struct Try.underlying41 h
  have h8 : Try.prog.cellsOf 41 = 9 := by kernel_rfl
  have h4 : Try.prog.cellsOf 39 = 4 := by kernel_rfl
  have h3 : Try.prog.cellsOf 3 = 1 := by kernel_rfl
  rw [h8] at hlen
  match cs, hlen with
  | [c0, c1, c2, c3, c4, c5, c6, c7, c8], _ =>
    match xs, hxl with
    | [y0, y1, y2, y3, y4, y5], _ =>
      have g0 := hf 0 _ rfl
      have g1 := hf 1 _ rfl
      have g2 := hf 2 _ rfl
      have g3 := hf 3 _ rfl
      have g4 := hf 4 _ rfl
      have g5 := hf 5 _ rfl
      simp [h4, h3] at g0 g1 g2 g3 g4 g5
      obtain ⟨A, e0, _, w0⟩ := DataW.trod_int Try.underlying3 g0
      obtain ⟨B, e1, _, w1⟩ := DataW.trod_int Try.underlying3 g1
      obtain ⟨C, e2, _, w2⟩ := DataW.trod_int Try.underlying3 g2
      obtain ⟨D, e3, _, w3⟩ := DataW.trod_int Try.underlying3 g3
      obtain ⟨E, e4, _, w4⟩ := DataW.trod_int Try.underlying3 g4
      obtain ⟨c, hc, e5⟩ := open_cap g5
      simp only [List.cons.injEq, and_true] at e0 e1 e2 e3 e4 e5
      obtain ⟨rfl, rfl, rfl, rfl⟩ := e5
      subst e0 e1 e2 e3 e4
      exact ⟨⟨A, B, C, D, E, c⟩, ⟨bounds_i64 w1, bounds_i64 w2, bounds_i64 w3, bounds_i64 w4, hc⟩, rfl⟩
section
variable {v : Value} {d : DataW H} {ps : List MemPlace} {W : World}
theorem open_acts (hv : Value.okWide Try.prog W .any 0 22 v) (h : DataW.Trod enc Try.prog W 0 (fun _ => true) true 22 v d ps) : ∃ l, Acts W v l :=
  open_ins (cells := ActC.cells) (ok := ActC.Fits) (s := 9) Try.underlying22 (by kernel_rfl) (fun _ => rfl) (by omega) (fun h => open_actc h) hv h
end
end
section
variable {H : Type} {enc : TypeId × Value → H} {P : Program}
theorem post_of_below {f : Func} {s : ChangeSpec} {apart fresh handsOn again : Bool} {W W' : World} {args : Array Value} {v : Value} {ds gs : List (DataW H)} {before pa pv : List MemPlace}
    (hW : DataW.Whole enc P f.params.toList s.vars apart W args.toList ds gs before)
    (hres : ∀ (b : Nat) (sp : Nat → Bool) (hd : Bool), DataW.TrodAll enc P W' b sp hd f.resultTypes.toList (v.resultList f.resultTypes.size) (s.fn H (ds ++ gs)).results [])
    (hargs : ∀ sp : Nat → Bool, (∀ p ∈ before, sp p.block = true) → DataW.TrodAll enc P W' 0 sp true f.params.toList args.toList (s.fn H (ds ++ gs)).args pa)
    (hvars : ∀ sp : Nat → Bool, (∀ p ∈ before, sp p.block = true) → DataW.TrodVars enc P W' sp s.vars (s.fn H (ds ++ gs)).vars pv)
    (hps : before = pa ++ pv) (hb : Below W.heap.size W W')
    (hok : ∀ (j : Nat) (t : TypeId) (r : Value), f.resultTypes[j]? = some t → (v.resultList f.resultTypes.size)[j]? = some r → Value.okWide P W' .any 0 t r) :
    s.post enc P f apart fresh handsOn again W args v W' := by
  have hlt : ∀ p ∈ before, p.block < W.heap.size := fun p hp => hW.lt p hp
  have hold : ∀ p ∈ before, (fun b => decide (b < W.heap.size)) p.block = true := fun p hp => by simpa using hlt p hp
  refine ⟨ds, gs, before, [], pa, pv, hW, hres _ _ _, hargs _ hold, hvars _ hold, World.keptBut_mono (fun p hp => ⟨hp, ?_⟩) (hb.frame (· ∈ before)), fun _ => ?_⟩
  · rw [hps, List.mem_append] at hp
    exact Or.inr hp
  · obtain ⟨_, _, _, _, _, hz, hn⟩ := hW
    refine ⟨hok, _, _, ([] ++ pa) ++ pv, ⟨[] ++ pa, pv, trodAll_append (hargs _ (fun _ _ => rfl)) (hres _ _ _), hvars _ (fun _ _ => rfl), rfl, ?_, ?_⟩, ?_⟩
    · intro b off hp
      have hin : MemPlace.cell b off ∈ before := by rw [hps]; simpa using hp
      rw [hb.frozen (hlt _ hin)]
      exact hz b off hin
    · intro ha
      have := hn ha
      rw [hps] at this
      simpa using this
    · intro p hp _
      rw [hps]
      simpa using hp
end
end Go.Proofs
end
section
namespace Go.Proofs
open Go.RowKit
set_option linter.unusedVariables false
set_option linter.unusedSimpArgs false

/-! ### Both spaces, in blocks that were laid since w -/
def Mid (w W : World) (a b : Nat) (s : Sp) (r : Rf) (m : Nat) : Prop :=
  ∃ S T, SpAt W a S s ∧ RefAt W b T r ∧ (∀ k ∈ S, w.heap.size ≤ k) ∧ (∀ k ∈ T, w.heap.size ≤ k) ∧ Chg [] w W ∧ Both s r m
/-- .. whatever they are. -/
def MidX (w W : World) (a b : Nat) (x y m : Nat) : Prop := ∃ s r, Mid w W a b s r m ∧ s.gs = x ∧ s.slots = y
section
variable {w W W' : World} {a b : Nat} {s : Sp} {r : Rf} {m x y : Nat}
theorem Mid.chg (h : Mid w W a b s r m) : Chg [] w W := by obtain ⟨_, _, _, _, _, _, h, _⟩ := h; exact h
theorem Mid.both (h : Mid w W a b s r m) : Both s r m := by obtain ⟨_, _, _, _, _, _, _, h⟩ := h; exact h
theorem Mid.quiet (h : Mid w W a b s r m) (hc : Chg [] W W') : Mid w W' a b s r m := by
  obtain ⟨S, T, h1, h2, h3, h4, h5, h6⟩ := h
  exact ⟨S, T, h1.quiet hc, h2.quiet hc, h3, h4, h5.then hc, h6⟩
theorem MidX.chg (h : MidX w W a b x y m) : Chg [] w W := by obtain ⟨s, r, h, _⟩ := h; exact h.chg
theorem MidX.quiet (h : MidX w W a b x y m) (hc : Chg [] W W') : MidX w W' a b x y m := by obtain ⟨s, r, h, hx⟩ := h; exact ⟨s, r, h.quiet hc, hx⟩
theorem MidX.do (h : MidX w W a b x y m) (hm : m ≤ 1000000) {t : ActC} (ht : t.Fits) :
    Calls Try.prog 14 #[ptr a, ptr b, t.val] W fun e W' => e = .returned (.bool true) ∧ MidX w W' a b x y (m + 1) := by
  obtain ⟨s, r, ⟨S, T, h1, h2, h3, h4, h5, h6⟩, hgx, hgy⟩ := h
  refine (do_any h1 h2 h6 hm ht).mono ?_
  rintro e W' ⟨rfl, s', r', ⟨S', T', a1, a2, a3, a4, a5⟩, hb, hs1, hs2, hs3⟩
  refine ⟨rfl, s', r', ⟨S', T', a1, a2, fun k hk => ?_, fun k hk => ?_, h5.trans a5 (fun k hk => ?_), hb⟩, hs1.trans hgx, hs2.trans hgy⟩
  · rcases a3 k hk with h | h
    · exact h3 k h
    · exact Nat.le_trans h5.size h
  · rcases a4 k hk with h | h
    · exact h4 k h
    · exact Nat.le_trans h5.size h
  · rcases List.mem_append.1 hk with h | h
    · exact .inr (h3 k h)
    · exact .inr (h4 k h)
theorem MidX.same (h : MidX w W a b x y m) : Calls Try.prog 15 #[ptr a, ptr b] W fun e W' => e = .returned (.bool true) ∧ MidX w W' a b x y m := by
  have hh := h
  obtain ⟨s, r, ⟨S, T, h1, h2, h3, h4, h5, h6⟩, _⟩ := h
  exact (same_look h1 h2 h6).mono fun e W' hq => ⟨hq.1, hh.quiet hq.2⟩
theorem MidX.known (h : MidX w W a b x y m) : Calls Try.prog 12 #[] W fun e W' => e = .returned (.bool true) ∧ MidX w W' a b x y m :=
  (known_any W).mono fun e W' hq => ⟨hq.1, h.quiet hq.2⟩
end
theorem mid_begun {gs slots nodes : Nat} (h1 : 1 ≤ gs ∧ gs ≤ 64) (h2 : 1 ≤ slots ∧ slots ≤ 32) (h3 : 1 ≤ nodes ∧ nodes ≤ 512) (w : World) :
    Calls Try.prog 9 #[.int .i64 (gs : Nat), .int .i64 (slots : Nat), .int .i64 (nodes : Nat)] w fun e w' => ∃ a b, e = .returned (.tuple #[ptr a, ptr b]) ∧ MidX w w' a b gs slots 0 := by
  refine (begin_ok gs slots nodes h1 h2 h3 w).mono ?_
  rintro e w' ⟨a, b, S, T, rfl, q1, q2, q3, q4, q5⟩
  exact ⟨a, b, rfl, _, _, ⟨S, T, q1, q2, q3, q4, q5, Both.new h1 h2 h3⟩, rfl, rfl⟩
/-- The cells of an act that came in. -/
theorem Acts.at_ {w : World} {A : Option Addr} {n c : Nat} {l : List ActC} (h : Acts w (.slice A n c) l) {k : Nat} (hk : k < n) :
    ∃ (b off : Nat) (x : ActC), A = some ⟨b, off, none⟩ ∧ x.Fits ∧ ∀ W, Chg [] w W → b < W.heap.size ∧ W.cell? ⟨b, off + k * 9, none⟩ = some (.int .i64 x.kind) ∧ W.cell? ⟨b, off + k * 9 + 1, none⟩ = some (.int .i64 x.g) ∧ W.cell? ⟨b, off + k * 9 + 2, none⟩ = some (.int .i64 x.slot) ∧ W.cell? ⟨b, off + k * 9 + 3, none⟩ = some (.int .i64 x.toG) ∧ W.cell? ⟨b, off + k * 9 + 4, none⟩ = some (.int .i64 x.dst) ∧ W.cell? ⟨b, off + k * 9 + 5, none⟩ = some (.int .i64 x.cap.kind) ∧ W.cell? ⟨b, off + k * 9 + 6, none⟩ = some (.int .i64 x.cap.idx) ∧ W.cell? ⟨b, off + k * 9 + 7, none⟩ = some (.int .u64 x.cap.gen) ∧ W.cell? ⟨b, off + k * 9 + 8, none⟩ = some (.int .u8 (x.cap.rts : Nat)) := by
  obtain ⟨b, off, a, hA, _, hf, hb, hc⟩ := h.is_ hk
  exact ⟨b, off, a, hA, hf, fun W hW => ⟨Nat.lt_of_lt_of_le hb hW.size, hc W hW 0 _ rfl, hc W hW 1 _ rfl, hc W hW 2 _ rfl, hc W hW 3 _ rfl, hc W hW 4 _ rfl, hc W hW 5 _ rfl, hc W hW 6 _ rfl, hc W hW 7 _ rfl, hc W hW 8 _ rfl⟩⟩
theorem mayG_nat {gs slots nodes : Int} (h : mayG gs slots nodes = true) : ∃ x y z : Nat, gs = x ∧ slots = y ∧ nodes = z ∧ (1 ≤ x ∧ x ≤ 64) ∧ (1 ≤ y ∧ y ≤ 32) ∧ 1 ≤ z ∧ z ≤ 512 := by
  have := of_decide_eq_true h
  exact ⟨gs.toNat, slots.toNat, nodes.toNat, by omega, by omega, by omega, by omega, by omega, by omega, by omega⟩
end Go.Proofs
end
section
namespace Go.Proofs
open Go.RowKit
set_option linter.unusedVariables false
set_option linter.unusedSimpArgs false
theorem eql_nil_nil (w : World) : (binOp .eql 23 (.pointer none) (.pointer none)).run Try.prog w = .ok (.bool true) w := by kernel_rfl
attribute [local go_sem] eql_ptr_nil neq_ptr_nil eql_nil_nil
set_option maxHeartbeats 6400000 in
set_option maxRecDepth 100000 in
theorem plays_any (n1 n2 n3 : Int) (V : Value) (acts : List ActC) (w : World) (hV : Acts w V acts) :
    Calls Try.prog 3 #[.int .i64 n1, .int .i64 n2, .int .i64 n3, V] w fun e w' => e = .returned (.bool true) ∧ Chg [] w w' := by
  have HK := Lib.hid known_any
  obtain ⟨A2, c2, rfl⟩ := hV.open_
  obtain ⟨m, hm⟩ : ∃ m, m = acts.length := ⟨_, rfl⟩
  rw [← hm] at hV ⊢
  have HV := Lib.hid hV
  clear hV hm
  have HM := Lib.hid (lmay_any n1 n2 n3)
  cases hb : mayG n1 n2 n3 with
  | false =>
    rw [hb] at HM
    have HB := Lib.hid (begin_no hb w)
    have HN := Lib.hid (snew_bad (of_decide_eq_false hb) w)
    clear hb
    go_enter Try.func3, Try.ntmps3
    go_wp2_with (first
      | (go_at_call 9; refine HB.out.mono ?_; rintro e w' ⟨rfl, rfl⟩)
      | (go_at_call 10; refine (HM.out _).mono ?_; rintro e w' ⟨rfl, rfl⟩)
      | (go_at_call 11; refine HN.out.mono ?_; rintro e w' ⟨rfl, rfl⟩)
      | (go_at_call 12; refine (HK.out _).mono ?_; rintro e w2 ⟨rfl, hc⟩; have HC := Lib.hid hc; clear hc))
    go_ret
    exact ⟨rfl, HC.out⟩
  | true =>
    rw [hb] at HM
    obtain ⟨x, y, z, rfl, rfl, rfl, hx, hy, hz⟩ := mayG_nat hb
    have HB := Lib.hid (mid_begun hx hy hz w)
    have HS := Lib.hid (small_any x y z)
    obtain ⟨sm, hsm⟩ : ∃ b, b = smallG x y z := ⟨_, rfl⟩
    rw [← hsm] at HS
    clear hb hsm
    cases sm with
    | false =>
      go_enter Try.func3, Try.ntmps3
      go_wp2_with (first
        | (go_at_call 9; refine HB.out.mono ?_; rintro e w1 ⟨a, b, rfl, hM⟩; have HQ := Lib.hid hM; clear hM)
        | (go_at_call 10; refine (HM.out _).mono ?_; rintro e w' ⟨rfl, rfl⟩)
        | (go_at_call 13; refine (HS.out _).mono ?_; rintro e w' ⟨rfl, rfl⟩)
        | (go_at_call 12; refine HQ.out.known.mono ?_; rintro e w2 ⟨rfl, hq⟩; have HQ := Lib.hid hq; clear hq))
      go_ret
      exact ⟨rfl, HQ.out.chg⟩
    | true =>
      by_cases hm120 : (120 : Int) < (m : Int)
      · have d1 : decide ((m : Int) > 120) = true := decide_eq_true hm120
        have d1' : decide ((120 : Int) < (m : Int)) = true := decide_eq_true hm120
        go_enter Try.func3, Try.ntmps3
        go_wp2_with (first
          | (go_at_call 9; refine HB.out.mono ?_; rintro e w1 ⟨a, b, rfl, hM⟩; have HQ := Lib.hid hM; clear hM)
          | (go_at_call 10; refine (HM.out _).mono ?_; rintro e w' ⟨rfl, rfl⟩)
          | (go_at_call 13; refine (HS.out _).mono ?_; rintro e w' ⟨rfl, rfl⟩)
          | (go_at_call 12; refine HQ.out.known.mono ?_; rintro e w2 ⟨rfl, hq⟩; have HQ := Lib.hid hq; clear hq))
        go_ret
        exact ⟨rfl, HQ.out.chg⟩
      · have d1 : decide ((m : Int) > 120) = false := decide_eq_false hm120
        have d1' : decide ((120 : Int) < (m : Int)) = false := decide_eq_false hm120
        have hm2 : m ≤ 120 := by omega
        go_enter Try.func3, Try.ntmps3
        go_wp2_with (first
          | (go_at_call 9; refine HB.out.mono ?_; rintro e w1 ⟨a, b, rfl, hM⟩; have HQ := Lib.hid hM; clear hM)
          | (go_at_call 10; refine (HM.out _).mono ?_; rintro e w' ⟨rfl, rfl⟩)
          | (go_at_call 13; refine (HS.out _).mono ?_; rintro e w' ⟨rfl, rfl⟩))
        go_loopg [13] m (fun gh iv wr => ∃ j : Nat, j + gh = m ∧ iv = .int .i64 j ∧ Hid (MidX w wr a b x y j))
        case atStart => exact ⟨0, by omega, rfl, HQ⟩
        case round =>
          obtain ⟨j, hj, rfl, HMI⟩ := hrel
          by_cases hlt : j < m
          · have j0 : (0 : Int) ≤ (j : Int) := by omega
            have j1 : (j : Int) < (m : Int) := by omega
            obtain ⟨bI, oI, xa, hA, hfit, hcells⟩ := HV.out.at_ hlt
            subst hA
            obtain ⟨z0, z1, z2, z3, z4, z5, z6, z7, z8, z9⟩ := hcells wr HMI.out.chg
            have HDO := Lib.hid (HMI.out.do (by omega) hfit)
            obtain ⟨kd, g, sl, tg, td, ⟨ck, ci, cg, cr⟩⟩ := xa
            simp only at z1 z2 z3 z4 z5 z6 z7 z8 z9
            clear HV hcells hfit
            go_wp2_with (first
              | (go_at_call 14; refine HDO.out.mono ?_; rintro e w4 ⟨rfl, hM'⟩; have HM' := Lib.hid hM'; clear hM')
              | (go_at_call 15; refine HM'.out.same.mono ?_; rintro e w5 ⟨rfl, hq⟩; have HM' := Lib.hid hq; clear hq))
            go_roundg (m - j - 1)
            case measure => omega
            case rel => exact ⟨j + 1, by omega, by go_num, HM'⟩
          · have d1 : decide ((j : Int) < (m : Int)) = false := by simp; omega
            go_wp2_with (go_at_call 12; refine HMI.out.known.mono ?_; rintro e w2 ⟨rfl, hq⟩)
            go_ret
            exact ⟨rfl, hq.chg⟩
end Go.Proofs
end
section
namespace Go.Proofs
open Go.RowKit
set_option linter.unusedVariables false
set_option linter.unusedSimpArgs false

/-! ### There and back -/
section
variable {s : Sp}
theorem Sp.SameP.refl (s : Sp) : s.SameP s := ⟨rfl, rfl, rfl, rfl, fun p n hf => by unfold Sp.alikeB; rw [hf]; simp⟩
theorem Sp.moved_not (hw : s.WF) {n : Nat} {q : Pt} (hq : s.f q = none) : ¬ (s.move n q).SameP s := fun h => by
  have h1 := h.all q n (show set' (del s.f (s.hd n).p) q n q = some n by unfold set'; rw [if_pos rfl])
  unfold Sp.alikeB at h1
  rw [hq] at h1
  simp at h1
theorem Sp.moved_back (hw : s.WF) (ht : s.t.WF) {n : Nat} {p q : Pt} (hp : s.f p = some n) (hq : s.f q = none) (h1 : s.slot p = true) (h2 : s.slot q = true) :
    (s.move n q).moveE q p = 0 ∧ (s.move n q).movP q p = s := by
  obtain ⟨hn, hnp⟩ := hw.back p n hp
  have hnl := hw.lt ht hn
  have hne : p ≠ q := fun e => by rw [e, hq] at hp; cases hp
  have f1 : (s.move n q).f q = some n := by show set' (del s.f (s.hd n).p) q n q = some n; unfold set'; rw [if_pos rfl]
  have f2 : (s.move n q).f p = none := by
    show set' (del s.f (s.hd n).p) q n p = none
    unfold set' del
    rw [if_neg hne, hnp, if_pos rfl]
  have he : (s.move n q).moveE q p = 0 := by
    unfold Sp.moveE
    rw [f1, f2, show (s.move n q).slot q = s.slot q from rfl, show (s.move n q).slot p = s.slot p from rfl, h1, h2]
    rfl
  refine ⟨he, ?_⟩
  unfold Sp.movP
  rw [if_pos he, f1]
  show (s.move n q).move n p = s
  have hhd : (s.move n q).hd n = ⟨q, (s.hd n).cap⟩ := by
    rw [Sp.hd_eq]
    show hdAt (s.H.set n ⟨q, (s.hd n).cap⟩) n = _
    rw [hdAt_set _ _ _ _ hnl, if_pos rfl]
  have hf : set' (del (s.move n q).f ((s.move n q).hd n).p) p n = s.f := by
    rw [hhd]
    funext x
    show set' (del (set' (del s.f (s.hd n).p) q n) q) p n x = s.f x
    unfold set' del
    by_cases e1 : x = p
    · rw [if_pos e1, e1, hp]
    · rw [if_neg e1]
      by_cases e2 : x = q
      · rw [if_pos e2, e2, hq]
      · rw [if_neg e2]
        show (if x = q then some n else if x = (s.hd n).p then none else s.f x) = s.f x
        rw [if_neg e2, hnp, if_neg e1]
  have hH : ((s.move n q).H.set n ⟨p, ((s.move n q).hd n).cap⟩) = s.H := by
    rw [hhd]
    show (s.H.set n ⟨q, (s.hd n).cap⟩).set n ⟨p, (s.hd n).cap⟩ = s.H
    rw [List.set_set]
    refine List.ext_getElem? fun j => ?_
    rw [List.getElem?_set]
    split
    · rename_i e
      subst e
      rw [hw.get (ht.lt n hn)]
      cases hh : s.hd n with | mk a b => rw [hh] at hnp; simp only at hnp; rw [hnp]
    · rfl
  unfold Sp.move at hf hH ⊢
  rw [hf, hH]
end
section
variable {w W W' : World} {a o : Nat} {s s' u u' : Sp}
theorem C2.same (h : C2 w W a s o u) {x : Bool} (hx : x = true ↔ s.SameP u) : Calls Try.prog 22 #[ptr a, ptr o] W fun e W' => e = .returned (.bool x) ∧ C2 w W' a s o u := by
  have hh := h
  obtain ⟨S, So, h1, h2, h3, h4, h5, h6⟩ := h
  exact (ssame_any h1 h2 hx).mono fun e W' hq => ⟨hq.1, hh.quiet hq.2⟩
theorem C2.same2 (h : C2 w W a s o u) {x : Bool} (hx : x = true ↔ u.SameP s) : Calls Try.prog 22 #[ptr o, ptr a] W fun e W' => e = .returned (.bool x) ∧ C2 w W' a s o u :=
  (h.symm.same hx).mono fun e W' hq => ⟨hq.1, hq.2.symm⟩
theorem C2.known (h : C2 w W a s o u) : Calls Try.prog 12 #[] W fun e W' => e = .returned (.bool true) ∧ C2 w W' a s o u :=
  (known_any W).mono fun e W' hq => ⟨hq.1, h.quiet hq.2⟩
theorem C2.move (h : C2 w W a s o u) (p q : Pt) (hpq : q.g = p.g) {z : Int} (hz : s.moveE p q = z) (hs : s.movP p q = s') : Calls Try.prog 25 #[ptr a, .int .i64 p.g, .int .i64 p.s, .int .i64 q.s] W fun e W' => e = .returned (.int .i64 z) ∧ C2 w W' a s' o u :=
  h.step (fun S h1 => by rw [← hz, ← hs]; exact move_any h1 p q hpq)
theorem C2.wf (h : C2 w W a s o u) : s.WF ∧ s.t.WF ∧ u.WF ∧ u.t.WF := by
  obtain ⟨S, So, h1, h2, _⟩ := h
  exact ⟨h1.wf, h1.twf, h2.wf, h2.twf⟩
end
end Go.Proofs
end
