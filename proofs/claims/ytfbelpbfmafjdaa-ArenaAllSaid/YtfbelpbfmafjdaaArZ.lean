import Derived.Test.YtfbelpbfmafjdaaArY
namespace Go.Proofs
open Go.RowKit
set_option linter.unusedVariables false

/-! ### Each operation as one contract -/
def Tab.pIdx (t : Tab Int) : Int := if t.frees = 0 then 0 else (t.takeAt : Nat)
def Tab.pGen (t : Tab Int) : Int := if t.frees = 0 then 0 else t.genAt t.takeAt
def Tab.pErr (t : Tab Int) : Int := if t.frees = 0 then 3 else 0
def Tab.put' (t : Tab Int) (x : Int) : Tab Int := if t.frees = 0 then t else t.put 0 x
def Tab.err (t : Tab Int) (i q : Int) : Int := if t.has i q = true then 0 else 11
def Tab.got (t : Tab Int) (i q : Int) : Int := if t.has i q = true then (match t.live i with | some s => s.thing | none => 0) else 0
def Tab.set' (t : Tab Int) (i q x : Int) : Tab Int := if t.has i q = true then t.thing i.toNat x else t
def Tab.drop' (t : Tab Int) (i q : Int) : Tab Int := if t.has i q = true then t.drop 0 i.toNat q else t
def RTab.pIdx (r : RTab) : Int := if r.frees = [] then 0 else (r.pick : Nat)
def RTab.pGen (r : RTab) : Int := if r.frees = [] then 0 else r.genAt r.pick
def RTab.pErr (r : RTab) : Int := if r.frees = [] then 3 else 0
def RTab.put' (r : RTab) (x : Int) : RTab := if r.frees = [] then r else r.put x
def RTab.err (r : RTab) (i q : Int) : Int := if r.is i q = true then 0 else 11
def RTab.got (r : RTab) (i q : Int) : Int := if r.is i q = true then (match r.L[i.toNat]? with | some p => p.x | none => 0) else 0
def RTab.set' (r : RTab) (i q x : Int) : RTab := if r.is i q = true then r.thing i.toNat x else r
def RTab.drop' (r : RTab) (i q : Int) : RTab := if r.is i q = true then r.drop i.toNat else r

theorem put_any {w : World} {g : Nat} {S : List Nat} {t : Tab Int} (h : TabAt kI w g S t) (hw : t.WF) (x : Int) :
    Calls Try.prog 16 #[.pointer (some ⟨g, 0, none⟩), .int .i64 x] w fun e w' => e = .returned (.tuple #[.agg #[.int .i64 t.pIdx, .int .u64 t.pGen], .int .i64 t.pErr]) ∧ Turns kI g S (t.put' x) w w' := by
  unfold Tab.pIdx Tab.pGen Tab.pErr Tab.put'
  by_cases hf : t.frees = 0
  · simp only [hf, if_true]
    exact (put_full_I h hw hf x).mono fun e w' ⟨he, hc⟩ => ⟨he, Turns.refl h hc⟩
  · simp only [hf, if_false]
    exact put_ok_I h hw hf x
theorem get_any {w : World} {g : Nat} {S : List Nat} {t : Tab Int} (h : TabAt kI w g S t) (hw : t.WF) (i q : Int) (i0 : -9223372036854775808 ≤ i) (i1 : i ≤ 9223372036854775807) :
    Calls Try.prog 17 #[.pointer (some ⟨g, 0, none⟩), .agg #[.int .i64 i, .int .u64 q]] w fun e w' => e = .returned (.tuple #[.int .i64 (t.got i q), .int .i64 (t.err i q)]) ∧ Chg [] w w' := by
  unfold Tab.got Tab.err
  cases hq : t.has i q with
  | false => simpa using get_no_I h hw i q i0 i1 hq
  | true =>
    obtain ⟨s, hl, rfl⟩ := has_iff.1 hq
    simpa [hl] using get_yes_I h hw hq hl
theorem set_any {w : World} {g : Nat} {S : List Nat} {t : Tab Int} (h : TabAt kI w g S t) (hw : t.WF) (i q x : Int) (i0 : -9223372036854775808 ≤ i) (i1 : i ≤ 9223372036854775807) :
    Calls Try.prog 18 #[.pointer (some ⟨g, 0, none⟩), .agg #[.int .i64 i, .int .u64 q], .int .i64 x] w fun e w' => e = .returned (.int .i64 (t.err i q)) ∧ Turns kI g S (t.set' i q x) w w' := by
  unfold Tab.err Tab.set'
  cases hq : t.has i q with
  | false => simpa using (set_no_I h hw i q x i0 i1 hq).mono fun e w' ⟨he, hc⟩ => ⟨he, Turns.refl h hc⟩
  | true => simpa using set_yes_I h hw x hq
theorem drop_any {w : World} {g : Nat} {S : List Nat} {t : Tab Int} (h : TabAt kI w g S t) (hw : t.WF) (i q : Int) (i0 : -9223372036854775808 ≤ i) (i1 : i ≤ 9223372036854775807) :
    Calls Try.prog 19 #[.pointer (some ⟨g, 0, none⟩), .agg #[.int .i64 i, .int .u64 q]] w fun e w' => e = .returned (.int .i64 (t.err i q)) ∧ Turns kI g S (t.drop' i q) w w' := by
  unfold Tab.err Tab.drop'
  cases hq : t.has i q with
  | false => simpa using (drop_no_I h hw i q i0 i1 hq).mono fun e w' ⟨he, hc⟩ => ⟨he, Turns.refl h hc⟩
  | true => simpa using drop_yes_I h hw hq
theorem rput_any {w : World} {h : Nat} {S : List Nat} {r : RTab} (hr : RefAt w h S r) (hn : r.L.length ≤ 4096) (x : Int) :
    Calls Try.prog 33 #[.pointer (some ⟨h, 0, none⟩), .int .i64 x] w fun e w' => e = .returned (.tuple #[.agg #[.int .i64 r.pIdx, .int .u64 r.pGen], .int .i64 r.pErr]) ∧ RTurns h S (r.put' x) w w' := by
  unfold RTab.pIdx RTab.pGen RTab.pErr RTab.put'
  by_cases hf : r.frees = []
  · simp only [hf, if_true]
    exact (rput_full hr hn x hf).mono fun e w' ⟨he, hc⟩ => ⟨he, RTurns.refl hr hc⟩
  · simp only [hf, if_false]
    exact rput_ok hr hn x hf
theorem rget_any {w : World} {h : Nat} {S : List Nat} {r : RTab} (hr : RefAt w h S r) (hn : r.L.length ≤ 4096) (i q : Int) :
    Calls Try.prog 34 #[.pointer (some ⟨h, 0, none⟩), .agg #[.int .i64 i, .int .u64 q]] w fun e w' => e = .returned (.tuple #[.int .i64 (r.got i q), .int .i64 (r.err i q)]) ∧ Chg [] w w' := by
  unfold RTab.got RTab.err
  cases hq : r.is i q with
  | false => simpa using rget_no hr hn i q hq
  | true =>
    obtain ⟨k, p, rfl, hp, _, rfl⟩ := ris_iff.1 hq
    simpa [hp] using rget_yes hr hn hq (p := p) hp
theorem rset_any {w : World} {h : Nat} {S : List Nat} {r : RTab} (hr : RefAt w h S r) (hn : r.L.length ≤ 4096) (i q x : Int) :
    Calls Try.prog 35 #[.pointer (some ⟨h, 0, none⟩), .agg #[.int .i64 i, .int .u64 q], .int .i64 x] w fun e w' => e = .returned (.int .i64 (r.err i q)) ∧ RTurns h S (r.set' i q x) w w' := by
  unfold RTab.err RTab.set'
  cases hq : r.is i q with
  | false => simpa using (rset_no hr hn i q x hq).mono fun e w' ⟨he, hc⟩ => ⟨he, RTurns.refl hr hc⟩
  | true => simpa using rset_yes hr hn x hq
theorem rdrop_any {w : World} {h : Nat} {S : List Nat} {r : RTab} (hr : RefAt w h S r) (hn : r.L.length ≤ 4096) (i q : Int) (t0 : -1000000 ≤ r.times) (t1 : r.times ≤ 1000000) (hg : ∀ (k : Nat) (p : Pl), r.L[k]? = some p → p.there = true → 0 ≤ p.gen ∧ p.gen ≤ 18446744073709551614) :
    Calls Try.prog 36 #[.pointer (some ⟨h, 0, none⟩), .agg #[.int .i64 i, .int .u64 q]] w fun e w' => e = .returned (.int .i64 (r.err i q)) ∧ RTurns h S (r.drop' i q) w w' := by
  unfold RTab.err RTab.drop'
  cases hq : r.is i q with
  | false => simpa using (rdrop_no hr hn i q hq).mono fun e w' ⟨he, hc⟩ => ⟨he, RTurns.refl hr hc⟩
  | true =>
    obtain ⟨k, p, rfl, hp, ht, rfl⟩ := ris_iff.1 hq
    obtain ⟨g0, g1⟩ := hg k p hp ht
    simpa using rdrop_yes hr hn hq t0 t1 g0 g1

/-! ### One act, plainly -/
structure ActV where
  kind : Int
  x : Int
  i : Int
  q : Int
  n : Int
def ActV.val (a : ActV) : Value := .agg #[.int .i64 a.kind, .int .i64 a.x, .int .i64 a.i, .int .u64 a.q, .int .i64 a.n]
structure ActV.Fits (a : ActV) : Prop where
  x0 : -9223372036854775808 ≤ a.x
  x1 : a.x ≤ 9223372036854775807
  i0 : -9223372036854775808 ≤ a.i
  i1 : a.i ≤ 9223372036854775807
  q0 : 0 ≤ a.q
  q1 : a.q < 18446744073709551616
  n0 : -9223372036854775808 ≤ a.n
  n1 : a.n ≤ 9223372036854775807
/-- What an act makes of the code's table. -/
def Tab.act (t : Tab Int) (a : ActV) : Tab Int :=
  if a.kind = 1 then t.put' a.x else if a.kind = 3 then t.set' a.i a.q a.x else if a.kind = 4 then t.drop' a.i a.q else if a.kind = 5 then t.drop' (t.atIdx a.n) (t.atGen a.n) else t
/-- What it makes of the document's (at: the ref that the code tells of the place). -/
def RTab.act (r : RTab) (a : ActV) (i q : Int) : RTab :=
  if a.kind = 1 then r.put' a.x else if a.kind = 3 then r.set' a.i a.q a.x else if a.kind = 4 then r.drop' a.i a.q else if a.kind = 5 then r.drop' i q else r
/-- The document's table is one whose numbers fit. -/
structure RTab.Fits (r : RTab) (T : Int) : Prop where
  len : r.L.length ≤ 4096
  t0 : 0 ≤ r.times
  t1 : r.times ≤ T
  gens : ∀ (k : Nat) (p : Pl), r.L[k]? = some p → 0 ≤ p.gen ∧ p.gen ≤ 18446744073709551614
theorem RTab.Fits.mono {r : RTab} {T T' : Int} (h : r.Fits T) (hT : T ≤ T') : r.Fits T' := ⟨h.len, h.t0, Int.le_trans h.t1 hT, h.gens⟩
theorem RTab.Fits.put' {r : RTab} {T : Int} (h : r.Fits T) (x : Int) : (r.put' x).Fits T := by
  unfold RTab.put'
  split
  · exact h
  · unfold RTab.put
    split
    · rename_i p hp
      refine ⟨by simpa using h.len, h.t0, h.t1, fun k p' hk => ?_⟩
      by_cases e : k = r.pick
      · subst e
        rw [List.getElem?_set_self (List.getElem?_eq_some_iff.1 hp).1] at hk
        cases hk; exact h.gens _ p hp
      · rw [List.getElem?_set_ne (fun e' => e e'.symm)] at hk; exact h.gens _ _ hk
    · exact h
theorem RTab.Fits.set' {r : RTab} {T : Int} (h : r.Fits T) (i q x : Int) : (r.set' i q x).Fits T := by
  unfold RTab.set'
  split
  · unfold RTab.thing
    split
    · rename_i p hp
      refine ⟨by simpa using h.len, h.t0, h.t1, fun k p' hk => ?_⟩
      by_cases e : k = i.toNat
      · subst e
        rw [List.getElem?_set_self (List.getElem?_eq_some_iff.1 hp).1] at hk
        cases hk; exact h.gens _ p hp
      · rw [List.getElem?_set_ne (fun e' => e e'.symm)] at hk; exact h.gens _ _ hk
    · exact h
  · exact h
theorem RTab.Fits.drop' {r : RTab} {T : Int} (h : r.Fits T) (i q : Int) : (r.drop' i q).Fits (T + 1) := by
  have h0 := h.t0
  have h1 := h.t1
  unfold RTab.drop'
  split
  · unfold RTab.drop
    split
    · rename_i p hp
      refine ⟨by simpa using h.len, by show (0 : Int) ≤ (if p.gen = 18446744073709551614 then r.times else r.times + 1); split <;> omega, by show (if p.gen = 18446744073709551614 then r.times else r.times + 1) ≤ _; split <;> omega, fun k p' hk => ?_⟩
      by_cases e : k = i.toNat
      · subst e
        rw [List.getElem?_set_self (List.getElem?_eq_some_iff.1 hp).1] at hk
        cases hk
        have := h.gens _ _ hp
        unfold Pl.gone
        split
        · exact this
        · show 0 ≤ p.gen + 1 ∧ p.gen + 1 ≤ _; omega
      · rw [List.getElem?_set_ne (fun e' => e e'.symm)] at hk; exact h.gens _ _ hk
    · exact h.mono (by omega)
  · exact h.mono (by omega)
theorem RTab.Fits.act {r : RTab} {T : Int} (h : r.Fits T) (a : ActV) (i q : Int) : (r.act a i q).Fits (T + 1) := by
  unfold RTab.act
  split
  · exact (h.put' _).mono (by omega)
  · split
    · exact (h.set' _ _ _).mono (by omega)
    · split
      · exact h.drop' _ _
      · split
        · exact h.drop' _ _
        · exact h.mono (by omega)
theorem Tab.WF.put' {t : Tab Int} (h : t.WF) (x : Int) : (t.put' x).WF := by
  unfold Tab.put'; split
  · exact h
  · rename_i e; exact h.put e x
theorem Tab.WF.set' {t : Tab Int} (h : t.WF) (i q x : Int) : (t.set' i q x).WF := by
  unfold Tab.set'; split
  · rename_i e
    obtain ⟨s, hl, rfl⟩ := has_iff.1 e
    obtain ⟨_, hj, _⟩ := live_iff.1 hl
    unfold Tab.thing; rw [hj]; exact h.set hj x
  · exact h
theorem Tab.WF.drop' {t : Tab Int} (h : t.WF) (i q : Int) : (t.drop' i q).WF := by
  unfold Tab.drop'; split
  · rename_i e
    obtain ⟨s, hl, rfl⟩ := has_iff.1 e
    obtain ⟨_, hj, ht⟩ := live_iff.1 hl
    exact h.drop hj ht
  · exact h
theorem Tab.WF.act {t : Tab Int} (h : t.WF) (a : ActV) : (t.act a).WF := by
  unfold Tab.act
  split
  · exact h.put' _
  · split
    · exact h.set' _ _ _
    · split
      · exact h.drop' _ _
      · split
        · exact h.drop' _ _
        · exact h
section
variable {t : Tab Int} {r : RTab}
theorem Sim.frees_nil (h : Sim t r) (hw : t.WF) : r.frees = [] ↔ t.frees = 0 := by
  have := h.frees_len hw
  constructor
  · intro e; rw [e] at this; simpa using this.symm
  · intro e; rw [e] at this; exact List.eq_nil_of_length_eq_zero (by omega)
theorem Sim.puts (h : Sim t r) (hw : t.WF) : r.pIdx = t.pIdx ∧ r.pGen = t.pGen ∧ r.pErr = t.pErr := by
  unfold RTab.pIdx RTab.pGen RTab.pErr Tab.pIdx Tab.pGen Tab.pErr
  by_cases e : t.frees = 0
  · simp only [e, (h.frees_nil hw).2 e, if_true]; simp
  · have e' : r.frees ≠ [] := fun h' => e ((h.frees_nil hw).1 h')
    simp only [e, e', if_false]
    rw [h.pick hw e, h.gen_at hw e]; simp
theorem Sim.put' (h : Sim t r) (hw : t.WF) (x : Int) : Sim (t.put' x) (r.put' x) := by
  unfold RTab.put' Tab.put'
  by_cases e : t.frees = 0
  · simp only [e, (h.frees_nil hw).2 e, if_true]; exact h
  · have e' : r.frees ≠ [] := fun h' => e ((h.frees_nil hw).1 h')
    simp only [e, e', if_false]; exact h.put hw e x
theorem Sim.errs (h : Sim t r) (hw : t.WF) (i q : Int) : r.err i q = t.err i q := by unfold RTab.err Tab.err; rw [h.has hw]
theorem Sim.gots (h : Sim t r) (hw : t.WF) (i q : Int) : r.got i q = t.got i q := by
  unfold RTab.got Tab.got
  rw [h.has hw]
  cases hq : t.has i q with
  | false => rfl
  | true =>
    obtain ⟨s, hl, rfl⟩ := has_iff.1 hq
    obtain ⟨_, hj, ht⟩ := live_iff.1 hl
    obtain ⟨p, hp, _, _, _, h4⟩ := h.taken _ s hj
    simp [hl, hp, h4]
theorem Sim.set' (h : Sim t r) (hw : t.WF) (i q x : Int) : Sim (t.set' i q x) (r.set' i q x) := by
  unfold RTab.set' Tab.set'
  rw [h.has hw]
  split
  · rename_i e
    obtain ⟨s, hl, rfl⟩ := has_iff.1 e
    obtain ⟨_, hj, _⟩ := live_iff.1 hl
    exact h.thing hj x
  · exact h
theorem Sim.drop' (h : Sim t r) (hw : t.WF) (i q : Int) : Sim (t.drop' i q) (r.drop' i q) := by
  unfold RTab.drop' Tab.drop'
  rw [h.has hw]
  split
  · rename_i e
    obtain ⟨s, hl, rfl⟩ := has_iff.1 e
    obtain ⟨_, hj, ht⟩ := live_iff.1 hl
    exact h.drop hw hj ht
  · exact h
theorem Sim.act (h : Sim t r) (hw : t.WF) (a : ActV) : Sim (t.act a) (r.act a (t.atIdx a.n) (t.atGen a.n)) := by
  unfold RTab.act Tab.act
  split
  · exact h.put' hw _
  · split
    · exact h.set' hw _ _ _
    · split
      · exact h.drop' hw _ _
      · split
        · exact h.drop' hw _ _
        · exact h
end
end Go.Proofs
