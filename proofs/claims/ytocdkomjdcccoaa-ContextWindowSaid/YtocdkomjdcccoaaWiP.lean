import Derived.Test.YtocdkomjdcccoaaCoP
namespace Go.Proofs
open Go.RowKit
set_option linter.unusedVariables false
structure ActC where
  kind : Int
  ri : Int
  rq : Int
  ti : Int
  tq : Int
  a : Int
  b : Int
  T : Int
def ActC.cells (a : ActC) : List Value := [.int .i64 a.kind, .int .i64 a.ri, .int .u64 a.rq, .int .i64 a.ti, .int .u64 a.tq, .int .u64 a.a, .int .u64 a.b, .int .u64 a.T]
structure ActC.Fits (a : ActC) : Prop where
  r0 : -9223372036854775808 ≤ a.ri
  r1 : a.ri ≤ 9223372036854775807
  t0 : -9223372036854775808 ≤ a.ti
  t1 : a.ti ≤ 9223372036854775807
  uA : U64 a.a
  uB : U64 a.b
  uT : U64 a.T
def Acts (w : World) (V : Value) (l : List ActC) : Prop :=
  ∃ A c, V = .slice A l.length c ∧ ∀ (k : Nat) (a : ActC), l[k]? = some a → ∃ b off, A = some ⟨b, off, none⟩ ∧ b < w.heap.size ∧ a.Fits ∧
    ∀ (j : Nat) (u : Value), a.cells[j]? = some u → w.cell? ⟨b, off + k * 8 + j, none⟩ = some u
theorem Acts.quiet {w w' : World} {V : Value} {l : List ActC} (h : Acts w V l) (hc : Chg [] w w') : Acts w' V l := by
  obtain ⟨A, c, rfl, h1⟩ := h
  refine ⟨A, c, rfl, fun k a hk => ?_⟩
  obtain ⟨b, off, rfl, hb, hf, h2⟩ := h1 k a hk
  exact ⟨b, off, rfl, Nat.lt_of_lt_of_le hb hc.size, hf, fun j u hj => (hc.cell (p := ⟨b, _, none⟩) hb (by simp)).trans (h2 j u hj)⟩
theorem Acts.open_ {w : World} {V : Value} {l : List ActC} (h : Acts w V l) : ∃ A c, V = .slice A l.length c := by
  obtain ⟨A, c, h1, _⟩ := h; exact ⟨A, c, h1⟩
/-- An act's cells. -/
theorem Acts.at_ {w : World} {A : Option Addr} {n c : Nat} {l : List ActC} (h : Acts w (.slice A n c) l) {k : Nat} (hk : k < n) :
    ∃ b off kind ri rq ti tq a2 b2 T, A = some ⟨b, off, none⟩ ∧ l[k]? = some ⟨kind, ri, rq, ti, tq, a2, b2, T⟩ ∧ ActC.Fits ⟨kind, ri, rq, ti, tq, a2, b2, T⟩ ∧
      w.cell? ⟨b, off + k * 8, none⟩ = some (.int .i64 kind) ∧ w.cell? ⟨b, off + k * 8 + 1, none⟩ = some (.int .i64 ri) ∧ w.cell? ⟨b, off + k * 8 + 2, none⟩ = some (.int .u64 rq) ∧ w.cell? ⟨b, off + k * 8 + 3, none⟩ = some (.int .i64 ti) ∧
      w.cell? ⟨b, off + k * 8 + 4, none⟩ = some (.int .u64 tq) ∧ w.cell? ⟨b, off + k * 8 + 5, none⟩ = some (.int .u64 a2) ∧ w.cell? ⟨b, off + k * 8 + 6, none⟩ = some (.int .u64 b2) ∧ w.cell? ⟨b, off + k * 8 + 7, none⟩ = some (.int .u64 T) := by
  obtain ⟨A', c', hv, ho⟩ := h
  simp only [Value.slice.injEq] at hv
  obtain ⟨rfl, rfl, rfl⟩ := hv
  obtain ⟨a, ha⟩ : ∃ a, l[k]? = some a := ⟨_, List.getElem?_eq_getElem hk⟩
  obtain ⟨b, off, rfl, hb, hf, h2⟩ := ho k a ha
  obtain ⟨kind, ri, rq, ti, tq, a2, b2, T⟩ := a
  exact ⟨b, off, kind, ri, rq, ti, tq, a2, b2, T, rfl, ha, hf, h2 0 _ rfl, h2 1 _ rfl, h2 2 _ rfl, h2 3 _ rfl, h2 4 _ rfl, h2 5 _ rfl, h2 6 _ rfl, h2 7 _ rfl⟩
/-- The cells of an act that came in, whatever else has turned since. -/
def ActIs (w : World) (b o : Nat) (kind ri rq ti tq a2 b2 T : Int) : Prop := ∀ W, Chg [] w W →
  W.cell? ⟨b, o, none⟩ = some (.int .i64 kind) ∧ W.cell? ⟨b, o + 1, none⟩ = some (.int .i64 ri) ∧ W.cell? ⟨b, o + 2, none⟩ = some (.int .u64 rq) ∧ W.cell? ⟨b, o + 3, none⟩ = some (.int .i64 ti) ∧
  W.cell? ⟨b, o + 4, none⟩ = some (.int .u64 tq) ∧ W.cell? ⟨b, o + 5, none⟩ = some (.int .u64 a2) ∧ W.cell? ⟨b, o + 6, none⟩ = some (.int .u64 b2) ∧ W.cell? ⟨b, o + 7, none⟩ = some (.int .u64 T)
theorem Acts.is_ {w : World} {A : Option Addr} {n c : Nat} {l : List ActC} (h : Acts w (.slice A n c) l) {k : Nat} (hk : k < n) :
    ∃ b off kind ri rq ti tq a2 b2 T, A = some ⟨b, off, none⟩ ∧ l[k]? = some ⟨kind, ri, rq, ti, tq, a2, b2, T⟩ ∧ ActC.Fits ⟨kind, ri, rq, ti, tq, a2, b2, T⟩ ∧ ActIs w b (off + k * 8) kind ri rq ti tq a2 b2 T := by
  obtain ⟨A', c', hv, ho⟩ := h
  simp only [Value.slice.injEq] at hv
  obtain ⟨rfl, rfl, rfl⟩ := hv
  obtain ⟨a, ha⟩ : ∃ a, l[k]? = some a := ⟨_, List.getElem?_eq_getElem hk⟩
  obtain ⟨b, off, rfl, hb, hf, h2⟩ := ho k a ha
  obtain ⟨kind, ri, rq, ti, tq, a2, b2, T⟩ := a
  refine ⟨b, off, kind, ri, rq, ti, tq, a2, b2, T, rfl, ha, hf, fun W hc => ?_⟩
  have g := fun (j : Nat) (u : Value) (hj : (ActC.cells ⟨kind, ri, rq, ti, tq, a2, b2, T⟩)[j]? = some u) => (hc.cell (p := ⟨b, off + k * 8 + j, none⟩) hb (by simp)).trans (h2 j u hj)
  exact ⟨g 0 _ rfl, g 1 _ rfl, g 2 _ rfl, g 3 _ rfl, g 4 _ rfl, g 5 _ rfl, g 6 _ rfl, g 7 _ rfl⟩
theorem other_thing {t : Tab Cx} {fi fq ti tq : Int} (hf : t.has fi fq = true) (ht : t.has ti tq = true) (hne : ¬ (fi = ti ∧ fq = tq)) (x : Cx) : (t.thing fi.toNat x).has ti tq = true ∧ (t.thing fi.toNat x).at_ ti tq = t.at_ ti tq := by
  obtain ⟨s, hl, he⟩ := has_iff.1 hf
  obtain ⟨j0, hs, hth⟩ := live_iff.1 hl
  obtain ⟨s', hl', he'⟩ := has_iff.1 ht
  obtain ⟨j0', hs', hth'⟩ := live_iff.1 hl'
  have hn : fi.toNat ≠ ti.toNat := by
    intro e
    rw [e, hs'] at hs
    cases hs
    exact hne ⟨by omega, by rw [← he, ← he']⟩
  have h2 : (t.thing fi.toNat x).live ti = some s' := by
    unfold Tab.thing
    rw [hs]
    exact live_iff.2 ⟨j0', by simp only; rw [List.getElem?_set_ne hn]; exact hs', hth'⟩
  exact ⟨has_iff.2 ⟨_, h2, he'⟩, by rw [at_yes h2 he', at_yes hl' he']⟩
theorem Row.blk_of {w : World} {e : TypeId} {size n : Nat} {v : Value} {xs : List Value} (h : Row w e size v n xs) : ∀ k ∈ foot v, ∃ cs, Blk w k e cs := fun j hj => by
  rcases h.2 with ⟨rfl, _⟩ | ⟨g, cap, cur, rfl, hg, _⟩
  · cases hj
  · simp [foot_some] at hj; subst hj; exact ⟨_, hg⟩
end Go.Proofs
