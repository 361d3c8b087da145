import Derived.Test.YtocdkomjdcccoaaCoD
import Derived.LaidEqlPtr
namespace Go.Proofs
open Go.RowKit
set_option linter.unusedVariables false

theorem find_no_C {w : World} {g : Nat} {S : List Nat} {t : Tab Cx} (h : TabAt w g S t) (hw : t.WF) (i q : Int) (i0 : -9223372036854775808 ≤ i) (i1 : i ≤ 9223372036854775807) (hno : t.has i q = false) :
    Calls Try.prog 42 #[.pointer (some ⟨g, 0, none⟩), .agg #[.int .i64 i, .int .u64 q]] w fun e w' => e = .returned (.tuple #[.pointer none, .int .i64 11]) ∧ Chg [] w w' := by
  rcases live_cases t i with ⟨s, hs⟩ | hn
  · have hg : s.gen ≠ q := fun e => by have := has_iff.2 ⟨s, hs, e⟩; rw [hno] at this; cases this
    obtain ⟨q1, q2, q3⟩ := live_some hs
    have HA := fun w' => at_C (w := w') (g := g) (S := S) (t := t) (i := i)
    rw [q1, q2, q3] at HA
    have hb : (s.gen == q) = false := by simpa using hg
    have hb2 : (s.gen != q) = true := by simpa using hg
    clear q1 q2 q3 hg hno hs
    go_enter Try.func42, Try.ntmps42
    go_wp2_with (first
      | (go_at_call 35; refine (none_C (h.quiet (Chg.alloc (Chg.refl _ _) _)) hw).mono ?_; rintro e w' ⟨rfl, rfl⟩)
      | (go_at_call 52; refine (HA _ (h.quiet (Chg.alloc (Chg.refl _ _) _)) hw i0 i1).mono ?_; rintro e w1 ⟨rfl, hc1⟩; have hz : w.heap.size < w1.heap.size := (by have := hc1.size; simp at this; omega); have k3 := ((Blk.new w 30 _).chg hc1 (by simp)).cell 0; have k4 := ((Blk.new w 30 _).chg hc1 (by simp)).cell 1))
    exact bodyPost_ret (v := .tuple #[.pointer none, .int .i64 11]) (by simp [results, Try.results42, go_sem]) rfl ⟨rfl, ((Chg.refl _ _).alloc _).then (hc1.then ((Chg.refl _ _).alloc _))⟩
  · obtain ⟨q1, q2, q3, _⟩ := live_none hn
    have HA := fun w' => at_C (w := w') (g := g) (S := S) (t := t) (i := i)
    rw [q1, q2, q3] at HA
    clear q1 q2 q3 hn hno
    go_enter Try.func42, Try.ntmps42
    go_wp2_with (first
      | (go_at_call 35; refine (none_C (h.quiet (Chg.alloc (Chg.refl _ _) _)) hw).mono ?_; rintro e w' ⟨rfl, rfl⟩)
      | (go_at_call 52; refine (HA _ (h.quiet (Chg.alloc (Chg.refl _ _) _)) hw i0 i1).mono ?_; rintro e w1 ⟨rfl, hc1⟩; have hz : w.heap.size < w1.heap.size := (by have := hc1.size; simp at this; omega); have k3 := ((Blk.new w 30 _).chg hc1 (by simp)).cell 0; have k4 := ((Blk.new w 30 _).chg hc1 (by simp)).cell 1))
    exact bodyPost_ret (v := .tuple #[.pointer none, .int .i64 11]) (by simp [results, Try.results42, go_sem]) rfl ⟨rfl, ((Chg.refl _ _).alloc _).then (hc1.then ((Chg.refl _ _).alloc _))⟩
theorem find_yes_C {w : World} {g : Nat} {S : List Nat} {t : Tab Cx} (h : TabAt w g S t) (hw : t.WF) {k : Nat} {s : Spot Cx} (hs : t.spots[k]? = some s) (hth : s.there = true) {gs n cs : Nat} (hv : w.cell? ⟨g, 2, none⟩ = some (.slice (some ⟨gs, 0, none⟩) n cs)) (hn : n = t.spots.length) :
    Calls Try.prog 42 #[.pointer (some ⟨g, 0, none⟩), .agg #[.int .i64 (k : Nat), .int .u64 s.gen]] w fun e w' => e = .returned (.tuple #[.pointer (some ⟨gs, k * 6, none⟩), .int .i64 0]) ∧ Chg [] w w' := by
  obtain ⟨q1, q2, q3⟩ := live_some (live_nat.2 ⟨hs, hth⟩)
  have hk := (List.getElem?_eq_some_iff.1 hs).1
  have hl := hw.len
  have hs1 := hw.s1
  have HA := fun w' => at_C (w := w') (g := g) (S := S) (t := t) (i := (k : Nat))
  rw [q1, q2, q3] at HA
  have lg := h.lt g h.mem
  rw [← hn] at hk hl
  have i0 : (0 : Int) ≤ (k : Int) := by omega
  have i1 : (k : Int) < (n : Int) := by omega
  have HN := Lib.hid hn
  clear q1 q2 q3 hs hth hn
  go_enter Try.func42, Try.ntmps42
  go_wp2_with (first
    | (go_at_call 35; refine (none_C (h.quiet (Chg.alloc (Chg.refl _ _) _)) hw).mono ?_; rintro e w' ⟨rfl, rfl⟩)
    | (go_at_call 52; refine (HA _ (h.quiet (Chg.alloc (Chg.refl _ _) _)) hw (by omega) (by omega)).mono ?_; rintro e w1 ⟨rfl, hc1⟩; have hz : w.heap.size < w1.heap.size := (by have := hc1.size; simp at this; omega); have lg1 : g < w1.heap.size := (by omega); have k3 := ((Blk.new w 30 _).chg hc1 (by simp)).cell 0; have k4 := ((Blk.new w 30 _).chg hc1 (by simp)).cell 1; have k5 : w1.cell? ⟨g, 2, none⟩ = some (.slice (some ⟨gs, 0, none⟩) n cs) := (hc1.cell (p := ⟨g, 2, none⟩) (by simp; omega) (by simp)).trans ((World.cell?_alloc_lt w _ _ lg).trans hv)))
  go_quiet (fail)
  go_wp2
  exact bodyPost_ret (v := .tuple #[.pointer (some ⟨gs, k * 6, none⟩), .int .i64 0]) (by simp [results, Try.results42, go_sem]) rfl ⟨rfl, ((Chg.refl _ _).alloc _).then (hc1.then (((Chg.refl _ _).alloc _).drewN _))⟩

/-- What there is of the boxes behind a call that turned nothing. -/
theorem box2 {w w1 : World} {a b : Obj} {t : TypeId} {cs : Array Value} (hb : b = .cells cs t) (hc : Chg [] ((w.alloc a).alloc b) w1) :
    Blk w1 (w.heap.size + 1) t cs := by
  subst hb
  have := (Blk.new (w.alloc a) t cs).chg hc (by simp)
  simpa using this
theorem chg_box {w w1 : World} (h : Chg [] w w1) (o : Nat) (x : Cx) : Chg [] w (put4 w1 (w.heap.size + 1) o x) := chg_put4 h (.inr (by omega)) o x
set_option maxRecDepth 100000 in
theorem get_no_C {w : World} {g : Nat} {S : List Nat} {t : Tab Cx} (h : TabAt w g S t) (hw : t.WF) (i q : Int) (i0 : -9223372036854775808 ≤ i) (i1 : i ≤ 9223372036854775807) (hno : t.has i q = false) :
    Calls Try.prog 24 #[.pointer (some ⟨g, 0, none⟩), .agg #[.int .i64 i, .int .u64 q]] w fun e w' => e = .returned (.tuple #[cx0.val, .int .i64 11]) ∧ Chg [] w w' := by
  have HA := fun w' h' => find_no_C (w := w') (g := g) (S := S) (t := t) h' hw i q i0 i1 hno
  clear hno
  go_enter Try.func24, Try.ntmps24
  go_wp2_with (go_at_call 42; refine (HA _ (h.quiet (((Chg.refl _ _).alloc _).alloc _))).mono ?_; rintro e w1 ⟨rfl, hc1⟩; have hz : w.heap.size + 1 < w1.heap.size := (by have := hc1.size; simp at this; omega); have HC := Lib.hid (((Chg.refl [] w).alloc _).alloc _ |>.then hc1); have hB1 := (box2 rfl hc1); have k0 := hB1.cell 0; have k1 := hB1.cell 1; have k2 := hB1.cell 2; have k3 := hB1.cell 3; have f0 := hB1.frozen; clear hB1 hc1)
  refine bodyPost_ret (v := .tuple #[cx0.val, .int .i64 11]) ?_ rfl ⟨rfl, (chg_box HC.out 0 cx0).alloc _⟩
  simp [results, Try.results24, go_sem, cx0, Cx.val, hz, k0, k1, k2, k3]
set_option maxRecDepth 100000 in
theorem get_yes_C {w : World} {g : Nat} {S : List Nat} {t : Tab Cx} (h : TabAt w g S t) (hw : t.WF) {i q : Int} {s : Spot Cx} (hq : t.has i q = true) (hl : t.live i = some s) :
    Calls Try.prog 24 #[.pointer (some ⟨g, 0, none⟩), .agg #[.int .i64 i, .int .u64 q]] w fun e w' => e = .returned (.tuple #[s.thing.val, .int .i64 0]) ∧ Chg [] w w' := by
  obtain ⟨k, s', gs, cs, VF, rfl, rfl, hs, hth, hk, hB, hS, hF, hSS⟩ := has_form h hq
  have e := (live_nat.1 hl).1
  rw [hs] at e
  obtain rfl : s' = s := by injection e
  have HA := fun w' h' => find_yes_C (w := w') (g := g) (S := S) (t := t) h' hw hs hth (gs := gs) (cs := cs) (n := t.spots.length)
  obtain ⟨gs', cs', hv, _, _, hgs, _, _, _, a2, a3, a4, a5, _⟩ := TabAt.open_spot hS hs
  simp only [Value.slice.injEq, Option.some.injEq, Addr.mk.injEq] at hv
  obtain ⟨⟨rfl, _⟩, _, _⟩ := hv
  obtain ⟨x, hx⟩ : ∃ x, x = s'.thing := ⟨_, rfl⟩
  rw [← hx] at a2 a3 a4 a5
  rw [← hx]
  have hB' := Lib.hid hB
  clear hS hF hSS hl hq hs hth hB hx e
  go_enter Try.func24, Try.ntmps24
  go_wp2_with (go_at_call 42; refine (HA _ (h.quiet (((Chg.refl _ _).alloc _).alloc _)) (((hB'.out.alloc _).alloc _).cell 2) rfl).mono ?_; rintro e w1 ⟨rfl, hc1⟩; have hz : w.heap.size + 1 < w1.heap.size := (by have := hc1.size; simp at this; omega); have lgs1 : gs < w1.heap.size := (by omega); have HC := Lib.hid (((Chg.refl [] w).alloc _).alloc _ |>.then hc1); have hB1 := (box2 rfl hc1); have k0 := hB1.cell 0; have k1 := hB1.cell 1; have k2 := hB1.cell 2; have k3 := hB1.cell 3; have f0 := hB1.frozen; have kk : ∀ o, w1.cell? ⟨gs, o, none⟩ = w.cell? ⟨gs, o, none⟩ := (fun o => HC.out.cell (p := ⟨gs, o, none⟩) hgs (by simp)); rw [← kk] at a2 a3 a4 a5; clear hB1 hc1 kk)
  refine bodyPost_ret (v := .tuple #[x.val, .int .i64 0]) ?_ rfl ⟨rfl, chg_box HC.out 0 _⟩
  simp [results, Try.results24, go_sem, Cx.val, k0, k1, k2, k3]
end Go.Proofs
