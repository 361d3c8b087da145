import Derived.Test.YtfbelpbfmafjdaaArDI
import Derived.LaidEqlPtr
namespace Go.Proofs
open Go.RowKit
set_option linter.unusedVariables false

theorem find_no_I {w : World} {g : Nat} {S : List Nat} {t : Tab Int} (h : TabAt kI w g S t) (hw : t.WF) (i q : Int) (i0 : -9223372036854775808 ≤ i) (i1 : i ≤ 9223372036854775807) (hno : t.has i q = false) :
    Calls Try.prog 39 #[.pointer (some ⟨g, 0, none⟩), .agg #[.int .i64 i, .int .u64 q]] w fun e w' => e = .returned (.tuple #[.pointer none, .int .i64 11]) ∧ Chg [] w w' := by
  rcases live_cases t i with ⟨s, hs⟩ | hn
  · have hg : s.gen ≠ q := fun e => by have := has_iff.2 ⟨s, hs, e⟩; rw [hno] at this; cases this
    obtain ⟨q1, q2, q3⟩ := live_some hs
    have HA := fun w' => at_I (w := w') (g := g) (S := S) (t := t) (i := i)
    rw [q1, q2, q3] at HA
    have hb : (s.gen == q) = false := by simpa using hg
    have hb2 : (s.gen != q) = true := by simpa using hg
    clear q1 q2 q3 hg hno hs
    go_enter Try.func39, Try.ntmps39
    go_wp2_with (first
      | (go_at_call 37; refine (none_I (h.quiet (Chg.alloc (Chg.refl _ _) _)) hw).mono ?_; rintro e w' ⟨rfl, rfl⟩)
      | (go_at_call 21; refine (HA _ (h.quiet (Chg.alloc (Chg.refl _ _) _)) hw i0 i1).mono ?_; rintro e w1 ⟨rfl, hc1⟩; have hz : w.heap.size < w1.heap.size := (by have := hc1.size; simp at this; omega); have k3 := ((Blk.new w 36 _).chg hc1 (by simp)).cell 0; have k4 := ((Blk.new w 36 _).chg hc1 (by simp)).cell 1))
    exact bodyPost_ret (v := .tuple #[.pointer none, .int .i64 11]) (by simp [results, Try.results39, go_sem]) rfl ⟨rfl, ((Chg.refl _ _).alloc _).then (hc1.then ((Chg.refl _ _).alloc _))⟩
  · obtain ⟨q1, q2, q3, _⟩ := live_none hn
    have HA := fun w' => at_I (w := w') (g := g) (S := S) (t := t) (i := i)
    rw [q1, q2, q3] at HA
    clear q1 q2 q3 hn hno
    go_enter Try.func39, Try.ntmps39
    go_wp2_with (first
      | (go_at_call 37; refine (none_I (h.quiet (Chg.alloc (Chg.refl _ _) _)) hw).mono ?_; rintro e w' ⟨rfl, rfl⟩)
      | (go_at_call 21; refine (HA _ (h.quiet (Chg.alloc (Chg.refl _ _) _)) hw i0 i1).mono ?_; rintro e w1 ⟨rfl, hc1⟩; have hz : w.heap.size < w1.heap.size := (by have := hc1.size; simp at this; omega); have k3 := ((Blk.new w 36 _).chg hc1 (by simp)).cell 0; have k4 := ((Blk.new w 36 _).chg hc1 (by simp)).cell 1))
    exact bodyPost_ret (v := .tuple #[.pointer none, .int .i64 11]) (by simp [results, Try.results39, go_sem]) rfl ⟨rfl, ((Chg.refl _ _).alloc _).then (hc1.then ((Chg.refl _ _).alloc _))⟩
theorem find_yes_I {w : World} {g : Nat} {S : List Nat} {t : Tab Int} (h : TabAt kI w g S t) (hw : t.WF) {k : Nat} {s : Spot Int} (hs : t.spots[k]? = some s) (hth : s.there = true) {gs n cs : Nat} (hv : w.cell? ⟨g, 2, none⟩ = some (.slice (some ⟨gs, 0, none⟩) n cs)) (hn : n = t.spots.length) :
    Calls Try.prog 39 #[.pointer (some ⟨g, 0, none⟩), .agg #[.int .i64 (k : Nat), .int .u64 s.gen]] w fun e w' => e = .returned (.tuple #[.pointer (some ⟨gs, k * 3, none⟩), .int .i64 0]) ∧ Chg [] w w' := by
  obtain ⟨q1, q2, q3⟩ := live_some (live_nat.2 ⟨hs, hth⟩)
  have hk := (List.getElem?_eq_some_iff.1 hs).1
  have hl := hw.len
  have hs1 := hw.s1
  have HA := fun w' => at_I (w := w') (g := g) (S := S) (t := t) (i := (k : Nat))
  rw [q1, q2, q3] at HA
  have lg := h.lt g h.mem
  rw [← hn] at hk hl
  have i0 : (0 : Int) ≤ (k : Int) := by omega
  have i1 : (k : Int) < (n : Int) := by omega
  have HN := Lib.hid hn
  clear q1 q2 q3 hs hth hn
  go_enter Try.func39, Try.ntmps39
  go_wp2_with (first
    | (go_at_call 37; refine (none_I (h.quiet (Chg.alloc (Chg.refl _ _) _)) hw).mono ?_; rintro e w' ⟨rfl, rfl⟩)
    | (go_at_call 21; refine (HA _ (h.quiet (Chg.alloc (Chg.refl _ _) _)) hw (by omega) (by omega)).mono ?_; rintro e w1 ⟨rfl, hc1⟩; have hz : w.heap.size < w1.heap.size := (by have := hc1.size; simp at this; omega); have lg1 : g < w1.heap.size := (by omega); have k3 := ((Blk.new w 36 _).chg hc1 (by simp)).cell 0; have k4 := ((Blk.new w 36 _).chg hc1 (by simp)).cell 1; have k5 : w1.cell? ⟨g, 2, none⟩ = some (.slice (some ⟨gs, 0, none⟩) n cs) := (hc1.cell (p := ⟨g, 2, none⟩) (by simp; omega) (by simp)).trans ((World.cell?_alloc_lt w _ _ lg).trans hv)))
  go_quiet (fail)
  go_wp2
  exact bodyPost_ret (v := .tuple #[.pointer (some ⟨gs, k * 3, none⟩), .int .i64 0]) (by simp [results, Try.results39, go_sem]) rfl ⟨rfl, ((Chg.refl _ _).alloc _).then (hc1.then (((Chg.refl _ _).alloc _).drewN _))⟩

theorem get_no_I {w : World} {g : Nat} {S : List Nat} {t : Tab Int} (h : TabAt kI w g S t) (hw : t.WF) (i q : Int) (i0 : -9223372036854775808 ≤ i) (i1 : i ≤ 9223372036854775807) (hno : t.has i q = false) :
    Calls Try.prog 17 #[.pointer (some ⟨g, 0, none⟩), .agg #[.int .i64 i, .int .u64 q]] w fun e w' => e = .returned (.tuple #[.int .i64 0, .int .i64 11]) ∧ Chg [] w w' := by
  have HA := fun w' h' => find_no_I (w := w') (g := g) (S := S) (t := t) h' hw i q i0 i1 hno
  clear hno
  go_enter Try.func17, Try.ntmps17
  go_wp2_with (go_at_call 39; refine (HA _ (h.quiet (Chg.alloc (Chg.refl _ _) _))).mono ?_; rintro e w1 ⟨rfl, hc1⟩)
  go_ret2
  exact ⟨rfl, ((Chg.refl _ _).alloc _).then hc1⟩
theorem get_yes_I {w : World} {g : Nat} {S : List Nat} {t : Tab Int} (h : TabAt kI w g S t) (hw : t.WF) {i q : Int} {s : Spot Int} (hq : t.has i q = true) (hl : t.live i = some s) :
    Calls Try.prog 17 #[.pointer (some ⟨g, 0, none⟩), .agg #[.int .i64 i, .int .u64 q]] w fun e w' => e = .returned (.tuple #[.int .i64 s.thing, .int .i64 0]) ∧ Chg [] w w' := by
  obtain ⟨k, s', gs, cs, VF, rfl, rfl, hs, hth, hk, hB, hS, hF, hSS⟩ := has_form h hq
  have e := (live_nat.1 hl).1
  rw [hs] at e
  obtain rfl : s' = s := by injection e
  have HA := fun w' h' => find_yes_I (w := w') (g := g) (S := S) (t := t) h' hw hs hth (gs := gs) (cs := cs) (n := t.spots.length)
  obtain ⟨gs', cs', hv, _, _, hgs, _, _, _, a2, _⟩ := TabAt.open_spot hS hs
  simp only [Value.slice.injEq, Option.some.injEq, Addr.mk.injEq] at hv
  obtain ⟨⟨rfl, _⟩, _, _⟩ := hv
  obtain ⟨x, hx⟩ : ∃ x, x = s'.thing := ⟨_, rfl⟩
  have a2' : w.cell? ⟨gs, k * 3 + 2, none⟩ = some (.int .i64 x) := by rw [hx]; exact a2
  rw [← hx]
  have hB' := Lib.hid hB
  clear hS hF hSS hl hq hs hth hB hx a2 e
  go_enter Try.func17, Try.ntmps17
  go_wp2_with (go_at_call 39; refine (HA _ (h.quiet (Chg.alloc (Chg.refl _ _) _)) ((hB'.out.alloc _).cell 2) rfl).mono ?_; rintro e w1 ⟨rfl, hc1⟩; have k2 : w1.cell? ⟨gs, k * 3 + 2, none⟩ = some (.int .i64 x) := (hc1.cell (p := ⟨gs, k * 3 + 2, none⟩) (by simp; omega) (by simp)).trans ((World.cell?_alloc_lt w _ _ hgs).trans a2'))
  go_ret2
  exact ⟨rfl, ((Chg.refl _ _).alloc _).then hc1⟩
end Go.Proofs
