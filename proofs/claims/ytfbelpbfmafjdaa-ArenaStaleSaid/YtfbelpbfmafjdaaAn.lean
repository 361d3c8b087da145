import Derived.Test.YtfbelpbfmafjdaaAl
import Derived.Test.YtfbelpbfmafjdaaAd
namespace Go.Proofs
open Go.RowKit
set_option linter.unusedVariables false

/-! ### Refs that were given, and those that are gone, plainly -/
structure Inv (t : Tab Int) (G : List (Int × Int)) (B : List Bool) : Prop where
  hw : t.WF
  len : B.length = G.length
  each : ∀ (k : Nat) (i q : Int), G[k]? = some (i, q) → ∃ (n : Nat) (s : Spot Int), i = (n : Nat) ∧ t.spots[n]? = some s ∧ q ≤ s.gen ∧ (q = s.gen → s.there = true) ∧ 0 ≤ q
  gone : ∀ (k : Nat) (i q : Int), G[k]? = some (i, q) → B[k]? = some true → t.has i q = false
section
variable {t : Tab Int} {G : List (Int × Int)} {B : List Bool}
theorem Inv.stale (h : Inv t G B) {k : Nat} {i q : Int} (hk : G[k]? = some (i, q)) : t.has i q = false ↔ ∃ (n : Nat) (s : Spot Int), i = (n : Nat) ∧ t.spots[n]? = some s ∧ q < s.gen := by
  obtain ⟨n, s, rfl, hs, h1, h2, _⟩ := h.each k i q hk
  constructor
  · intro hf
    refine ⟨n, s, rfl, hs, ?_⟩
    by_cases e : q = s.gen
    · have := has_iff.2 ⟨s, live_nat.2 ⟨hs, h2 e⟩, e.symm⟩
      rw [hf] at this; cases this
    · omega
  · rintro ⟨n', s', hn, hs', hlt⟩
    obtain rfl : n = n' := by omega
    rw [hs] at hs'; cases hs'
    cases hb : t.has (n : Nat) q with
    | false => rfl
    | true =>
      obtain ⟨s', hl, he⟩ := has_iff.1 hb
      have := (live_nat.1 hl).1
      rw [hs] at this; cases this
      omega
theorem Inv.rng (h : Inv t G B) {k : Nat} {i q : Int} (hk : G[k]? = some (i, q)) : 0 ≤ i ∧ i ≤ 4096 := by
  obtain ⟨n, s, rfl, hs, _⟩ := h.each k i q hk
  have := (List.getElem?_eq_some_iff.1 hs).1
  have := h.hw.len
  have := h.hw.s1
  omega
/-- Where places' generations only grow, and those that stay stay there, all holds on. -/
theorem Inv.grow (h : Inv t G B) {t' : Tab Int} (hw : t'.WF) (hg : ∀ (n : Nat) (s : Spot Int), t.spots[n]? = some s → ∃ s', t'.spots[n]? = some s' ∧ (s.gen < s'.gen ∨ s.gen = s'.gen ∧ (s.there = true → s'.there = true))) : Inv t' G B := by
  refine ⟨hw, h.len, fun k i q hk => ?_, fun k i q hk hb => ?_⟩
  · obtain ⟨n, s, rfl, hs, h1, h2, h3⟩ := h.each k i q hk
    obtain ⟨s', hs', h4⟩ := hg n s hs
    refine ⟨n, s', rfl, hs', by omega, fun e => ?_, h3⟩
    rcases h4 with h4 | ⟨h4, h5⟩
    · omega
    · exact h5 (h2 (by omega))
  · have hst := h.gone k i q hk hb
    obtain ⟨n, s, rfl, hs, hlt⟩ := (h.stale hk).1 hst
    obtain ⟨s', hs', h4⟩ := hg n s hs
    cases hb : t'.has (n : Nat) q with
    | false => rfl
    | true =>
      obtain ⟨s2, hl, he⟩ := has_iff.1 hb
      have := (live_nat.1 hl).1
      rw [hs'] at this; cases this
      omega
theorem Inv.set (h : Inv t G B) (i q x : Int) : Inv (t.set' i q x) G B := by
  refine h.grow (h.hw.set' i q x) fun n s hs => ?_
  unfold Tab.set'
  split
  · unfold Tab.thing
    split
    · rename_i s2 hs2
      by_cases e : n = i.toNat
      · subst e
        rw [hs] at hs2; cases hs2
        exact ⟨_, List.getElem?_set_self (List.getElem?_eq_some_iff.1 hs).1, .inr ⟨rfl, id⟩⟩
      · exact ⟨s, by show (t.spots.set _ _)[n]? = _; rw [List.getElem?_set_ne (fun e' => e e'.symm)]; exact hs, .inr ⟨rfl, id⟩⟩
    · exact ⟨s, hs, .inr ⟨rfl, id⟩⟩
  · exact ⟨s, hs, .inr ⟨rfl, id⟩⟩
theorem Inv.drop (h : Inv t G B) (i q : Int) : Inv (t.drop' i q) G B := by
  refine h.grow (h.hw.drop' i q) fun n s hs => ?_
  unfold Tab.drop'
  split
  · rename_i hh
    obtain ⟨s2, hl, rfl⟩ := has_iff.1 hh
    obtain ⟨_, hj, ht⟩ := live_iff.1 hl
    have hlt := (List.getElem?_eq_some_iff.1 hj).1
    by_cases e : n = i.toNat
    · subst e
      rw [hs] at hj; cases hj
      exact ⟨_, by rw [drop_spots hlt, if_pos rfl], .inl (by show s.gen < s.gen + 1; omega)⟩
    · exact ⟨s, by rw [drop_spots hlt, if_neg e]; exact hs, .inr ⟨rfl, id⟩⟩
  · exact ⟨s, hs, .inr ⟨rfl, id⟩⟩
theorem Inv.act (h : Inv t G B) (a : ActV) (ha : a.kind ≠ 1) : Inv (t.act a) G B := by
  unfold Tab.act
  rw [if_neg ha]
  split
  · exact h.set _ _ _
  · split
    · exact h.drop _ _
    · split
      · exact h.drop _ _
      · exact h
/-- A ref that comes is none of those that were given. -/
theorem Inv.fresh (h : Inv t G B) (hf : t.frees ≠ 0) {k : Nat} {i q : Int} (hk : G[k]? = some (i, q)) : ¬ (i = (t.takeAt : Nat) ∧ q = t.genAt t.takeAt) := by
  rintro ⟨h1, h2⟩
  obtain ⟨n, s, rfl, hs, h3, h4, _⟩ := h.each k i q hk
  obtain rfl : n = t.takeAt := by omega
  obtain ⟨s', hs', hth, _, _, _, hlv, hge, _⟩ := h.hw.take_at (z := (0 : Int)) hf
  have he : t.genAt t.takeAt = s.gen := by unfold Tab.genAt; rw [hs]
  have := live_nat.2 ⟨hs, h4 (by omega)⟩
  rw [hlv] at this; cases this
theorem Inv.put (h : Inv t G B) (hf : t.frees ≠ 0) (x : Int) : Inv (t.put 0 x) (G ++ [(((t.takeAt : Nat) : Int), t.genAt t.takeAt)]) (B ++ [false]) := by
  obtain ⟨s0, hs0, hth0, hg0, hfg0, _, hlv, hge, _⟩ := h.hw.take_at (z := (0 : Int)) hf
  have hw := h.hw.put (z := (0 : Int)) hf x
  have h' : Inv (t.put 0 x) G B := h.grow hw fun n s hs => by
    rw [put_spots h.hw hf]
    by_cases e : n = t.takeAt
    · subst e
      rw [if_pos rfl]
      refine ⟨_, rfl, .inr ⟨?_, fun _ => rfl⟩⟩
      show s.gen = t.genAt _
      unfold Tab.genAt; rw [hs]
    · rw [if_neg e]; exact ⟨s, hs, .inr ⟨rfl, id⟩⟩
  refine ⟨hw, by simp [h.len], fun k i q hk => ?_, fun k i q hk hb => ?_⟩
  · rcases Nat.lt_or_ge k G.length with hl | hl
    · rw [List.getElem?_append_left hl] at hk; exact h'.each k i q hk
    · rw [List.getElem?_append_right hl] at hk
      have hk0 : k - G.length = 0 := by
        have := (List.getElem?_eq_some_iff.1 hk).1; simp at this; omega
      rw [hk0] at hk
      simp at hk
      obtain ⟨rfl, rfl⟩ := hk
      refine ⟨t.takeAt, _, rfl, by rw [put_spots h.hw hf, if_pos rfl], Int.le_refl _, fun _ => rfl, ?_⟩
      have := h.hw.f0
      omega
  · rcases Nat.lt_or_ge k G.length with hl | hl
    · rw [List.getElem?_append_left hl] at hk
      rw [List.getElem?_append_left (by rw [h.len]; exact hl)] at hb
      exact h'.gone k i q hk hb
    · rw [List.getElem?_append_right (by rw [h.len]; exact hl)] at hb
      have hk0 : k - B.length = 0 := by
        have := (List.getElem?_eq_some_iff.1 hb).1; simp at this; omega
      rw [hk0] at hb
      simp at hb
theorem Inv.mark (h : Inv t G B) {k : Nat} {i q : Int} (hk : G[k]? = some (i, q)) (hf : t.has i q = false) : Inv t G (B.set k true) := by
  refine ⟨h.hw, by rw [List.length_set]; exact h.len, h.each, fun k' i' q' hk' hb => ?_⟩
  by_cases e : k' = k
  · subst e
    rw [hk] at hk'; cases hk'; exact hf
  · rw [List.getElem?_set_ne (fun e' => e e'.symm)] at hb
    exact h.gone k' i' q' hk' hb
end

/-! ### In memory -/
def refCells (l : List (Int × Int)) : List Value := l.flatMap fun p => [.int .i64 p.1, .int .u64 p.2]
theorem refCells_append (l l' : List (Int × Int)) : refCells (l ++ l') = refCells l ++ refCells l' := by unfold refCells; simp
theorem refCells_at : ∀ (l : List (Int × Int)) (k : Nat) (i q : Int), l[k]? = some (i, q) → (refCells l)[k * 2]? = some (.int .i64 i) ∧ (refCells l)[k * 2 + 1]? = some (.int .u64 q) := by
  intro l
  induction l with
  | nil => intro k i q h; simp at h
  | cons a l ih =>
    intro k i q h
    unfold refCells at ih ⊢
    rw [List.flatMap_cons]
    cases k with
    | zero => simp at h; subst h; simp
    | succ k =>
      have := ih k i q (by simpa using h)
      have e : ∀ j, (([.int .i64 a.1, .int .u64 a.2] : List Value) ++ l.flatMap fun p => [.int .i64 p.1, .int .u64 p.2])[(k + 1) * 2 + j]? = (l.flatMap fun p => ([.int .i64 p.1, .int .u64 p.2] : List Value))[k * 2 + j]? := fun j => by
        rw [List.getElem?_append_right (by simp; omega)]
        simp; congr 1; omega
      exact ⟨(e 0).trans this.1, (e 1).trans this.2⟩
def boolCells (l : List Bool) : List Value := l.map Value.bool
theorem TabAt.ty {w : World} {g : Nat} {S : List Nat} {t : Tab Int} (h : TabAt kI w g S t) {b : Nat} {ty : TypeId} {cs : Array Value} (hb : Blk w b ty cs) (h1 : ty ≠ 66) (h2 : ty ≠ 82) (h3 : ty ≠ 3) : b ∉ S := by
  obtain ⟨VS, VF, hB, hS, hF, rfl⟩ := h
  intro hm
  simp at hm
  rcases hm with rfl | hm | hm
  · exact Blk.ty hb hB h1 rfl
  · exact hS.ty hb (Ne.symm h2) hm
  · exact hF.ty hb (Ne.symm h3) hm
theorem TabAt.ty2 {w : World} {g : Nat} {S : List Nat} {t : Tab Int} (h : TabAt kI w g S t) {e : TypeId} {size n : Nat} {v : Value} {xs : List Value} (hr : Row w e size v n xs) (h1 : e ≠ 66) (h2 : e ≠ 82) (h3 : e ≠ 3) : ∀ k ∈ foot v, k ∉ S := by
  intro k hk
  rcases hr.2 with ⟨rfl, _⟩ | ⟨g', cap, cur, rfl, hg', _⟩
  · cases hk
  · simp [foot_some] at hk; subst hk; exact h.ty hg' h1 h2 h3
/-- The table t, the refs G in the slice VG, who is gone in VB. -/
structure Tri (w0 : World) (g : Nat) (VG VB : Value) (G : List (Int × Int)) (B : List Bool) (t : Tab Int) (w : World) (S : List Nat) : Prop where
  tab : TabAt kI w g S t
  own : ∀ k ∈ S, w0.heap.size ≤ k
  bel : Below w0.heap.size w0 w
  rg : Row w 36 2 VG G.length (refCells G)
  fg : ∀ k ∈ foot VG, w0.heap.size ≤ k
  rb : Row w 4 1 VB B.length (boolCells B)
  fb : ∀ k ∈ foot VB, w0.heap.size ≤ k
def Three (w0 : World) (g : Nat) (VG VB : Value) (G : List (Int × Int)) (B : List Bool) (t : Tab Int) (w : World) : Prop := ∃ S, Tri w0 g VG VB G B t w S
section
variable {w0 : World} {g : Nat} {VG VB : Value} {G : List (Int × Int)} {B : List Bool} {t : Tab Int} {w w' : World} {S : List Nat}
theorem Tri.quiet (H : Tri w0 g VG VB G B t w S) (hc : Chg [] w w') : Tri w0 g VG VB G B t w' S :=
  ⟨H.tab.quiet hc, H.own, H.bel.trans (hc.below (fun _ h => by cases h) H.bel.size), H.rg.chg hc (fun _ _ h => by cases h), H.fg, H.rb.chg hc (fun _ _ h => by cases h), H.fb⟩
theorem Three.quiet (H : Three w0 g VG VB G B t w) (hc : Chg [] w w') : Three w0 g VG VB G B t w' := by
  obtain ⟨S, h⟩ := H; exact ⟨S, h.quiet hc⟩
theorem Tri.turns (H : Tri w0 g VG VB G B t w S) {t' : Tab Int} (ht : Turns kI g S t' w w') : Three w0 g VG VB G B t' w' := by
  obtain ⟨S', k1, k2, k3⟩ := ht
  refine ⟨S', k1, fun k hk => ?_, H.bel.trans (k3.below H.own H.bel.size), H.rg.chg k3 (H.tab.ty2 H.rg (by decide) (by decide) (by decide)), H.fg, H.rb.chg k3 (H.tab.ty2 H.rb (by decide) (by decide) (by decide)), H.fb⟩
  rcases k2 k hk with h | h
  · exact H.own k h
  · exact Nat.le_trans H.bel.size h
theorem Three.below (H : Three w0 g VG VB G B t w) : Below w0.heap.size w0 w := by obtain ⟨S, h⟩ := H; exact h.bel
theorem Three.put (H : Three w0 g VG VB G B t w) (hw : t.WF) (x : Int) :
    Calls Try.prog 16 #[.pointer (some ⟨g, 0, none⟩), .int .i64 x] w fun e w' => e = .returned (.tuple #[.agg #[.int .i64 t.pIdx, .int .u64 t.pGen], .int .i64 t.pErr]) ∧ Three w0 g VG VB G B (t.put' x) w' := by
  obtain ⟨S, h⟩ := H
  exact (put_any h.tab hw x).mono fun e w' ⟨he, ht⟩ => ⟨he, h.turns ht⟩
theorem Three.get (H : Three w0 g VG VB G B t w) (hw : t.WF) (i q : Int) (i0 : -9223372036854775808 ≤ i) (i1 : i ≤ 9223372036854775807) :
    Calls Try.prog 17 #[.pointer (some ⟨g, 0, none⟩), .agg #[.int .i64 i, .int .u64 q]] w fun e w' => e = .returned (.tuple #[.int .i64 (t.got i q), .int .i64 (t.err i q)]) ∧ Three w0 g VG VB G B t w' := by
  obtain ⟨S, h⟩ := id H
  exact (get_any h.tab hw i q i0 i1).mono fun e w' ⟨he, hc⟩ => ⟨he, H.quiet hc⟩
theorem Three.set (H : Three w0 g VG VB G B t w) (hw : t.WF) (i q x : Int) (i0 : -9223372036854775808 ≤ i) (i1 : i ≤ 9223372036854775807) (hf : t.has i q = false) :
    Calls Try.prog 18 #[.pointer (some ⟨g, 0, none⟩), .agg #[.int .i64 i, .int .u64 q], .int .i64 x] w fun e w' => e = .returned (.int .i64 11) ∧ Three w0 g VG VB G B t w' := by
  obtain ⟨S, h⟩ := id H
  exact (set_no_I h.tab hw i q x i0 i1 hf).mono fun e w' ⟨he, hc⟩ => ⟨he, H.quiet hc⟩
theorem Three.drop (H : Three w0 g VG VB G B t w) (hw : t.WF) (i q : Int) (i0 : -9223372036854775808 ≤ i) (i1 : i ≤ 9223372036854775807) (hf : t.has i q = false) :
    Calls Try.prog 19 #[.pointer (some ⟨g, 0, none⟩), .agg #[.int .i64 i, .int .u64 q]] w fun e w' => e = .returned (.int .i64 11) ∧ Three w0 g VG VB G B t w' := by
  obtain ⟨S, h⟩ := id H
  exact (drop_no_I h.tab hw i q i0 i1 hf).mono fun e w' ⟨he, hc⟩ => ⟨he, H.quiet hc⟩
/-- An act, done on the table and on a document's table that was just made. -/
theorem Three.do_ {wa w1 : World} (H : Three w0 g VG VB G B t wa) (hw : t.WF) {r : RTab} (hf : r.Fits 0) (hR : RMade r wa w1) (a : ActV) (ha : a.Fits) {hh : Nat} (ehh : hh = wa.heap.size) :
    Calls Try.prog 15 #[.pointer (some ⟨g, 0, none⟩), .pointer (some ⟨hh, 0, none⟩), .agg #[.int .i64 a.kind, .int .i64 a.x, .int .i64 a.i, .int .u64 a.q, .int .i64 a.n]] w1 fun e w2 => (∃ v : Bool, e = .returned (.bool v)) ∧
      Three w0 g VG VB G B (t.act a) w2 ∧ ∀ b cs, b < wa.heap.size → Blk w1 b 38 cs → Blk w2 b 38 cs := by
  subst ehh
  obtain ⟨S, h⟩ := H
  obtain ⟨R, hR, hr, hc⟩ := hR
  have hS := h.tab.lt
  have h1 := h.quiet hc
  have hap : ∀ k ∈ S, k ∉ R := fun k hk hk' => by have := hS k hk; have := hr k hk'; omega
  refine (do_any ⟨h1.tab, hR, hap⟩ hw hf (by decide) a ha).mono ?_
  rintro e w2 ⟨⟨v, he, _⟩, S', R', k1, k2, k3, k4⟩
  have hlG := h.rg.lt
  have hlB := h.rb.lt
  have nG : ∀ k ∈ foot VG, k ∉ S ++ R := fun k hk hm => by
    rcases List.mem_append.1 hm with h9 | h9
    · exact h.tab.ty2 h.rg (by decide) (by decide) (by decide) k hk h9
    · have := hlG k hk; have := hr k h9; omega
  have nB : ∀ k ∈ foot VB, k ∉ S ++ R := fun k hk hm => by
    rcases List.mem_append.1 hm with h9 | h9
    · exact h.tab.ty2 h.rb (by decide) (by decide) (by decide) k hk h9
    · have := hlB k hk; have := hr k h9; omega
  have hSR : ∀ k ∈ S ++ R, w0.heap.size ≤ k := fun k hk => by
    rcases List.mem_append.1 hk with h9 | h9
    · exact h.own k h9
    · exact Nat.le_trans h.bel.size (hr k h9)
  refine ⟨⟨v, he⟩, ⟨S', k1.tab, sub_below h.own h1.bel.size k2, h1.bel.trans (k4.below hSR h1.bel.size), h1.rg.chg k4 nG, h.fg, h1.rb.chg k4 nB, h.fb⟩, fun b cs hb hB => hB.chg k4 fun hm => ?_⟩
  rcases List.mem_append.1 hm with h9 | h9
  · exact h1.tab.ty hB (by decide) (by decide) (by decide) h9
  · have := hr b h9; omega
/-- The row of the refs grows. -/
theorem Three.growG (H : Three w0 g VG VB G B t w) {VG' : Value} {G' : List (Int × Int)} {W : World} {gg : Nat} (hg : w.grownBy W VG.ownBlock) (hr : Row W 36 2 VG' G'.length (refCells G')) (hft : foot VG' = [gg]) (hat : VG.ownBlock = some gg ∨ w.heap.size ≤ gg) : Three w0 g VG' VB G' B t W := by
  obtain ⟨S, h⟩ := H
  have hc : Chg (foot VG) w W := (Chg.refl _ w).grown hg (fun k hk => .inl (row_mem hk))
  have n1 := h.tab.ty2 h.rg (by decide) (by decide) (by decide)
  refine ⟨S, h.tab.chg hc (fun k hk hk' => n1 k hk' hk), h.own, h.bel.trans (hc.below h.fg h.bel.size), hr, fun k hk => ?_, h.rb.chg hc (fun k hk hk' => h.rb.ty2 h.rg (by decide) k hk hk'), h.fb⟩
  rw [hft] at hk
  simp at hk
  subst hk
  rcases hat with h9 | h9
  · exact h.fg _ (row_mem h9)
  · exact Nat.le_trans h.bel.size h9
theorem Three.growB (H : Three w0 g VG VB G B t w) {VB' : Value} {B' : List Bool} {W : World} {gg : Nat} (hg : w.grownBy W VB.ownBlock) (hr : Row W 4 1 VB' B'.length (boolCells B')) (hft : foot VB' = [gg]) (hat : VB.ownBlock = some gg ∨ w.heap.size ≤ gg) : Three w0 g VG VB' G B' t W := by
  obtain ⟨S, h⟩ := H
  have hc : Chg (foot VB) w W := (Chg.refl _ w).grown hg (fun k hk => .inl (row_mem hk))
  have n1 := h.tab.ty2 h.rb (by decide) (by decide) (by decide)
  refine ⟨S, h.tab.chg hc (fun k hk hk' => n1 k hk' hk), h.own, h.bel.trans (hc.below h.fb h.bel.size), h.rg.chg hc (fun k hk hk' => h.rg.ty2 h.rb (by decide) k hk hk'), h.fg, hr, fun k hk => ?_⟩
  rw [hft] at hk
  simp at hk
  subst hk
  rcases hat with h9 | h9
  · exact h.fb _ (row_mem h9)
  · exact Nat.le_trans h.bel.size h9
/-- One more is gone. -/
theorem Three.mark {gb n c : Nat} (H : Three w0 g VG (.slice (some ⟨gb, 0, none⟩) n c) G B t w) {k : Nat} (hk : k < B.length) : Three w0 g VG (.slice (some ⟨gb, 0, none⟩) n c) G (B.set k true) t (w.setCell ⟨gb, k, none⟩ (.bool true)) := by
  obtain ⟨S, h⟩ := H
  have hn : n = B.length := by
    obtain ⟨A, c', hv, _⟩ := h.rb.val
    simp only [Value.slice.injEq] at hv
    exact hv.2.1
  subst hn
  have n1 := h.tab.ty2 h.rb (by decide) (by decide) (by decide)
  have hb : gb ∉ S := n1 gb (by simp [foot_some])
  have hc : Chg [gb] w (w.setCell ⟨gb, k, none⟩ (.bool true)) := (Chg.refl _ w).setCell (.inl (by simp)) _
  have hr := h.rb.set_ (j := k) (by omega) (.bool true)
  have e : (boolCells B).set k (.bool true) = boolCells (B.set k true) := by unfold boolCells; rw [List.map_set]
  rw [e] at hr
  refine ⟨S, h.tab.far hb _, h.own, h.bel.trans (hc.below (fun k hk => by simp at hk; subst hk; exact h.fb _ (by simp [foot_some])) h.bel.size), h.rg.far (p := ⟨gb, k, none⟩) (fun hm => h.rg.ty2 h.rb (by decide) gb hm (by simp [foot_some])) _, h.fg, by simpa using hr, h.fb⟩
/-- What a ref, and a flag, is. -/
theorem Three.atG (H : Three w0 g VG VB G B t w) {k : Nat} {i q : Int} (hk : G[k]? = some (i, q)) : ∃ gg c, VG = .slice (some ⟨gg, 0, none⟩) G.length c ∧ k < G.length ∧ gg < w.heap.size ∧ w.cell? ⟨gg, k * 2, none⟩ = some (.int .i64 i) ∧ w.cell? ⟨gg, k * 2 + 1, none⟩ = some (.int .u64 q) := by
  obtain ⟨S, h⟩ := H
  have hl := (List.getElem?_eq_some_iff.1 hk).1
  obtain ⟨gg, c, hv, _, _, hcell, _, hlt⟩ := h.rg.form (by omega)
  obtain ⟨h1, h2⟩ := refCells_at G k i q hk
  exact ⟨gg, c, hv, hl, hlt, hcell _ _ h1, hcell _ _ h2⟩
theorem Three.atB (H : Three w0 g VG VB G B t w) {k : Nat} {b : Bool} (hk : B[k]? = some b) : ∃ gg c, VB = .slice (some ⟨gg, 0, none⟩) B.length c ∧ k < B.length ∧ gg < w.heap.size ∧ w.cell? ⟨gg, k, none⟩ = some (.bool b) ∧ w.frozen? ⟨gg, k, none⟩ = false := by
  obtain ⟨S, h⟩ := H
  have hl := (List.getElem?_eq_some_iff.1 hk).1
  obtain ⟨gg, c, hv, _, _, hcell, hfz, hlt⟩ := h.rb.form (by omega)
  exact ⟨gg, c, hv, hl, hlt, hcell _ _ (by unfold boolCells; rw [List.getElem?_map, hk]; rfl), hfz _⟩
theorem Three.cellB {gb n c : Nat} (H : Three w0 g VG (.slice (some ⟨gb, 0, none⟩) n c) G B t w) {k : Nat} {b : Bool} (hk : B[k]? = some b) : w.cell? ⟨gb, k, none⟩ = some (.bool b) ∧ w.frozen? ⟨gb, k, none⟩ = false ∧ gb < w.heap.size := by
  obtain ⟨gg, c', hv, _, h1, h2, h3⟩ := H.atB hk
  simp only [Value.slice.injEq, Option.some.injEq, Addr.mk.injEq] at hv
  obtain ⟨⟨rfl, _⟩, _⟩ := hv
  exact ⟨h2, h3, h1⟩
theorem Three.cellG {gg n c : Nat} (H : Three w0 g (.slice (some ⟨gg, 0, none⟩) n c) VB G B t w) {k : Nat} {i q : Int} (hk : G[k]? = some (i, q)) : w.cell? ⟨gg, k * 2, none⟩ = some (.int .i64 i) ∧ w.cell? ⟨gg, k * 2 + 1, none⟩ = some (.int .u64 q) ∧ gg < w.heap.size := by
  obtain ⟨gg', c', hv, _, h1, h2, h3⟩ := H.atG hk
  simp only [Value.slice.injEq, Option.some.injEq, Addr.mk.injEq] at hv
  obtain ⟨⟨rfl, _⟩, _⟩ := hv
  exact ⟨h2, h3, h1⟩
end
theorem rnew1 (w : World) : Calls Try.prog 13 #[.int .i64 1, .int .u64 1] w fun e w' => e = .returned (.pointer (some ⟨w.heap.size, 0, none⟩)) ∧ RMade ⟨newL 1 1, 0⟩ w w' := rnew_any 1 (by omega) 1 w
theorem fits1 : RTab.Fits ⟨newL 1 1, 0⟩ 0 := ⟨by decide, by decide, by decide, fun k p hk => by
  rcases k with _ | k
  · simp [newL] at hk; subst hk; simp
  · simp [newL] at hk⟩
end Go.Proofs
