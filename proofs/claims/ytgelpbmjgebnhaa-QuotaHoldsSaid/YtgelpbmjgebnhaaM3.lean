import Derived.Test.YtgelpbmjgebnhaaM2
import Derived.LaidEqlPtr
import Derived.Laws.Externs
import Derived.RowKit3
import Derived.Below
import Derived.Lib.Hide
section
namespace Go.Proofs
open Go.RowKit
set_option linter.unusedVariables false

theorem find_no_C {w : World} {g : Nat} {S : List Nat} {t : Tab Dm} (h : TabAt w g S t) (hw : t.WF) (i q : Int) (i0 : -9223372036854775808 ≤ i) (i1 : i ≤ 9223372036854775807) (hno : t.has i q = false) :
    Calls Try.prog 74 #[.pointer (some ⟨g, 0, none⟩), .agg #[.int .i64 i, .int .u64 q]] w fun e w' => e = .returned (.tuple #[.pointer none, .int .i64 11]) ∧ Chg [] w w' := by
  rcases live_cases t i with ⟨s, hs⟩ | hn
  · have hg : s.gen ≠ q := fun e => by have := has_iff.2 ⟨s, hs, e⟩; rw [hno] at this; cases this
    obtain ⟨q1, q2, q3⟩ := live_some hs
    have HA := fun w' => at_C (w := w') (g := g) (S := S) (t := t) (i := i)
    rw [q1, q2, q3] at HA
    have hb : (s.gen == q) = false := by simpa using hg
    have hb2 : (s.gen != q) = true := by simpa using hg
    clear q1 q2 q3 hg hno hs
    go_enter Try.func74, Try.ntmps74
    go_wp2_with (first
      | (go_at_call 77; refine (none_C (h.quiet (Chg.alloc (Chg.refl _ _) _)) hw).mono ?_; rintro e w' ⟨rfl, rfl⟩)
      | (go_at_call 60; refine (HA _ (h.quiet (Chg.alloc (Chg.refl _ _) _)) hw i0 i1).mono ?_; rintro e w1 ⟨rfl, hc1⟩; have hz : w.heap.size < w1.heap.size := (by have := hc1.size; simp at this; omega); have k3 := ((Blk.new w 34 _).chg hc1 (by simp)).cell 0; have k4 := ((Blk.new w 34 _).chg hc1 (by simp)).cell 1))
    exact bodyPost_ret (v := .tuple #[.pointer none, .int .i64 11]) (by simp [results, Try.results74, go_sem]) rfl ⟨rfl, ((Chg.refl _ _).alloc _).then (hc1.then ((Chg.refl _ _).alloc _))⟩
  · obtain ⟨q1, q2, q3, _⟩ := live_none hn
    have HA := fun w' => at_C (w := w') (g := g) (S := S) (t := t) (i := i)
    rw [q1, q2, q3] at HA
    clear q1 q2 q3 hn hno
    go_enter Try.func74, Try.ntmps74
    go_wp2_with (first
      | (go_at_call 77; refine (none_C (h.quiet (Chg.alloc (Chg.refl _ _) _)) hw).mono ?_; rintro e w' ⟨rfl, rfl⟩)
      | (go_at_call 60; refine (HA _ (h.quiet (Chg.alloc (Chg.refl _ _) _)) hw i0 i1).mono ?_; rintro e w1 ⟨rfl, hc1⟩; have hz : w.heap.size < w1.heap.size := (by have := hc1.size; simp at this; omega); have k3 := ((Blk.new w 34 _).chg hc1 (by simp)).cell 0; have k4 := ((Blk.new w 34 _).chg hc1 (by simp)).cell 1))
    exact bodyPost_ret (v := .tuple #[.pointer none, .int .i64 11]) (by simp [results, Try.results74, go_sem]) rfl ⟨rfl, ((Chg.refl _ _).alloc _).then (hc1.then ((Chg.refl _ _).alloc _))⟩
theorem find_yes_C {w : World} {g : Nat} {S : List Nat} {t : Tab Dm} (h : TabAt w g S t) (hw : t.WF) {k : Nat} {s : Spot Dm} (hs : t.spots[k]? = some s) (hth : s.there = true) {gs n cs : Nat} (hv : w.cell? ⟨g, 2, none⟩ = some (.slice (some ⟨gs, 0, none⟩) n cs)) (hn : n = t.spots.length) :
    Calls Try.prog 74 #[.pointer (some ⟨g, 0, none⟩), .agg #[.int .i64 (k : Nat), .int .u64 s.gen]] w fun e w' => e = .returned (.tuple #[.pointer (some ⟨gs, k * 13, none⟩), .int .i64 0]) ∧ Chg [] w w' := by
  obtain ⟨q1, q2, q3⟩ := live_some (live_nat.2 ⟨hs, hth⟩)
  have hk := (List.getElem?_eq_some_iff.1 hs).1
  have hl := hw.len
  have hs1 := hw.s1
  have HA := fun w' => at_C (w := w') (g := g) (S := S) (t := t) (i := (k : Nat))
  rw [q1, q2, q3] at HA
  have lg := h.lt g h.mem
  rw [← hn] at hk hl
  have i0 : (0 : Int) ≤ (k : Int) := by omega
  have i1 : (k : Int) < (n : Int) := by omega
  have HN := Lib.hid hn
  clear q1 q2 q3 hs hth hn
  go_enter Try.func74, Try.ntmps74
  go_wp2_with (first
    | (go_at_call 77; refine (none_C (h.quiet (Chg.alloc (Chg.refl _ _) _)) hw).mono ?_; rintro e w' ⟨rfl, rfl⟩)
    | (go_at_call 60; refine (HA _ (h.quiet (Chg.alloc (Chg.refl _ _) _)) hw (by omega) (by omega)).mono ?_; rintro e w1 ⟨rfl, hc1⟩; have hz : w.heap.size < w1.heap.size := (by have := hc1.size; simp at this; omega); have lg1 : g < w1.heap.size := (by omega); have k3 := ((Blk.new w 34 _).chg hc1 (by simp)).cell 0; have k4 := ((Blk.new w 34 _).chg hc1 (by simp)).cell 1; have k5 : w1.cell? ⟨g, 2, none⟩ = some (.slice (some ⟨gs, 0, none⟩) n cs) := (hc1.cell (p := ⟨g, 2, none⟩) (by simp; omega) (by simp)).trans ((World.cell?_alloc_lt w _ _ lg).trans hv)))
  go_quiet (fail)
  go_wp2
  exact bodyPost_ret (v := .tuple #[.pointer (some ⟨gs, k * 13, none⟩), .int .i64 0]) (by simp [results, Try.results74, go_sem]) rfl ⟨rfl, ((Chg.refl _ _).alloc _).then (hc1.then (((Chg.refl _ _).alloc _).drewN _))⟩

/-- What there is of the boxes behind a call that turned nothing. -/
theorem box2 {w w1 : World} {a b : Obj} {t : TypeId} {cs : Array Value} (hb : b = .cells cs t) (hc : Chg [] ((w.alloc a).alloc b) w1) :
    Blk w1 (w.heap.size + 1) t cs := by
  subst hb
  have := (Blk.new (w.alloc a) t cs).chg hc (by simp)
  simpa using this
theorem chg_box {w w1 : World} (h : Chg [] w w1) (o : Nat) (x : Dm) : Chg [] w (put11 w1 (w.heap.size + 1) o x) := chg_put11 h (.inr (by omega)) o x
set_option maxRecDepth 100000 in
theorem get_no_C {w : World} {g : Nat} {S : List Nat} {t : Tab Dm} (h : TabAt w g S t) (hw : t.WF) (i q : Int) (i0 : -9223372036854775808 ≤ i) (i1 : i ≤ 9223372036854775807) (hno : t.has i q = false) :
    Calls Try.prog 52 #[.pointer (some ⟨g, 0, none⟩), .agg #[.int .i64 i, .int .u64 q]] w fun e w' => e = .returned (.tuple #[dm0.val, .int .i64 11]) ∧ Chg [] w w' := by
  have HA := fun w' h' => find_no_C (w := w') (g := g) (S := S) (t := t) h' hw i q i0 i1 hno
  clear hno
  go_enter Try.func52, Try.ntmps52
  go_wp2_with (go_at_call 74; refine (HA _ (h.quiet (((Chg.refl _ _).alloc _).alloc _))).mono ?_; rintro e w1 ⟨rfl, hc1⟩; have hz : w.heap.size + 1 < w1.heap.size := (by have := hc1.size; simp at this; omega); have HC := Lib.hid (((Chg.refl [] w).alloc _).alloc _ |>.then hc1); have hB1 := (box2 rfl hc1); have k0 := hB1.cell 0; have k1 := hB1.cell 1; have k2 := hB1.cell 2; have k3 := hB1.cell 3; have k4 := hB1.cell 4; have k5 := hB1.cell 5; have k6 := hB1.cell 6; have k7 := hB1.cell 7; have k8 := hB1.cell 8; have k9 := hB1.cell 9; have k10 := hB1.cell 10; have f0 := hB1.frozen; clear hB1 hc1)
  refine bodyPost_ret (v := .tuple #[dm0.val, .int .i64 11]) ?_ rfl ⟨rfl, (chg_box HC.out 0 dm0).alloc _⟩
  simp [results, Try.results52, go_sem, dm0, Dm.val, hz, k0, k1, k2, k3, k4, k5, k6, k7, k8, k9, k10]
set_option maxRecDepth 100000 in
theorem get_yes_C {w : World} {g : Nat} {S : List Nat} {t : Tab Dm} (h : TabAt w g S t) (hw : t.WF) {i q : Int} {s : Spot Dm} (hq : t.has i q = true) (hl : t.live i = some s) :
    Calls Try.prog 52 #[.pointer (some ⟨g, 0, none⟩), .agg #[.int .i64 i, .int .u64 q]] w fun e w' => e = .returned (.tuple #[s.thing.val, .int .i64 0]) ∧ Chg [] w w' := by
  obtain ⟨k, s', gs, cs, VF, rfl, rfl, hs, hth, hk, hB, hS, hF, hSS⟩ := has_form h hq
  have e := (live_nat.1 hl).1
  rw [hs] at e
  obtain rfl : s' = s := by injection e
  have HA := fun w' h' => find_yes_C (w := w') (g := g) (S := S) (t := t) h' hw hs hth (gs := gs) (cs := cs) (n := t.spots.length)
  obtain ⟨gs', cs', hv, _, _, hgs, _, _, _, a2, a3, a4, a5, a6, a7, a8, a9, a10, a11, a12, _⟩ := TabAt.open_spot hS hs
  simp only [Value.slice.injEq, Option.some.injEq, Addr.mk.injEq] at hv
  obtain ⟨⟨rfl, _⟩, _, _⟩ := hv
  obtain ⟨x, hx⟩ : ∃ x, x = s'.thing := ⟨_, rfl⟩
  rw [← hx] at a2 a3 a4 a5 a6 a7 a8 a9 a10 a11 a12
  rw [← hx]
  have hB' := Lib.hid hB
  clear hS hF hSS hl hq hs hth hB hx e
  go_enter Try.func52, Try.ntmps52
  go_wp2_with (go_at_call 74; refine (HA _ (h.quiet (((Chg.refl _ _).alloc _).alloc _)) (((hB'.out.alloc _).alloc _).cell 2) rfl).mono ?_; rintro e w1 ⟨rfl, hc1⟩; have hz : w.heap.size + 1 < w1.heap.size := (by have := hc1.size; simp at this; omega); have lgs1 : gs < w1.heap.size := (by omega); have HC := Lib.hid (((Chg.refl [] w).alloc _).alloc _ |>.then hc1); have hB1 := (box2 rfl hc1); have k0 := hB1.cell 0; have k1 := hB1.cell 1; have k2 := hB1.cell 2; have k3 := hB1.cell 3; have k4 := hB1.cell 4; have k5 := hB1.cell 5; have k6 := hB1.cell 6; have k7 := hB1.cell 7; have k8 := hB1.cell 8; have k9 := hB1.cell 9; have k10 := hB1.cell 10; have f0 := hB1.frozen; have kk : ∀ o, w1.cell? ⟨gs, o, none⟩ = w.cell? ⟨gs, o, none⟩ := (fun o => HC.out.cell (p := ⟨gs, o, none⟩) hgs (by simp)); rw [← kk] at a2 a3 a4 a5 a6 a7 a8 a9 a10 a11 a12; clear hB1 hc1 kk)
  refine bodyPost_ret (v := .tuple #[x.val, .int .i64 0]) ?_ rfl ⟨rfl, chg_box HC.out 0 _⟩
  simp [results, Try.results52, go_sem, Dm.val, k0, k1, k2, k3, k4, k5, k6, k7, k8, k9, k10]
end Go.Proofs
end
section
namespace Go.Proofs
open Go.RowKit
set_option linter.unusedVariables false

set_option maxRecDepth 100000 in
theorem set_no_C {w : World} {g : Nat} {S : List Nat} {t : Tab Dm} (h : TabAt w g S t) (hw : t.WF) (i q : Int) (x : Dm) (i0 : -9223372036854775808 ≤ i) (i1 : i ≤ 9223372036854775807) (hno : t.has i q = false) :
    Calls Try.prog 65 #[.pointer (some ⟨g, 0, none⟩), .agg #[.int .i64 i, .int .u64 q], x.val] w fun e w' => e = .returned (.int .i64 11) ∧ Chg [] w w' := by
  have HA := fun w' h' => find_no_C (w := w') (g := g) (S := S) (t := t) h' hw i q i0 i1 hno
  clear hno
  go_enter Try.func65, Try.ntmps65
  go_wp2_with (go_at_call 74; refine (HA _ (h.quiet (((Chg.refl _ _).alloc _).alloc _))).mono ?_; rintro e w1 ⟨rfl, hc1⟩)
  go_ret
  exact ⟨rfl, (((Chg.refl _ _).alloc _).alloc _).then hc1⟩
set_option maxRecDepth 100000 in
theorem set_yes_C {w : World} {g : Nat} {S : List Nat} {t : Tab Dm} (h : TabAt w g S t) (hw : t.WF) {i q : Int} (x : Dm) (hq : t.has i q = true) :
    Calls Try.prog 65 #[.pointer (some ⟨g, 0, none⟩), .agg #[.int .i64 i, .int .u64 q], x.val] w fun e w' => e = .returned (.int .i64 0) ∧ Turns g S (t.thing i.toNat x) w w' := by
  obtain ⟨k, s, gs, cs, VF, rfl, rfl, hs, hth, hk, hB, hS, hF, hSS⟩ := has_form h hq
  have HA := fun w' h' => find_yes_C (w := w') (g := g) (S := S) (t := t) h' hw hs hth (gs := gs) (cs := cs) (n := t.spots.length)
  subst hSS
  obtain ⟨gs', cs', hv, _, _, hgs, _, _, _, a2, a3, a4, a5, a6, a7, a8, a9, a10, a11, a12, f⟩ := TabAt.open_spot hS hs
  simp only [Value.slice.injEq, Option.some.injEq, Addr.mk.injEq] at hv
  obtain ⟨⟨rfl, _⟩, _, _⟩ := hv
  have HT := fun (w1 : World) (hc : Chg [] w w1) => Turns.thing hB hS hF hs x hc
  rw [show t.thing ((k : Nat) : Int).toNat x = { t with spots := t.spots.set k { s with thing := x } } by unfold Tab.thing; simp [hs]]
  have HH := Lib.hid HT
  have hB' := Lib.hid hB
  clear hS hF hq hs hth hB HT
  go_enter Try.func65, Try.ntmps65
  go_wp2_with (go_at_call 74; refine (HA _ (h.quiet (((Chg.refl _ _).alloc _).alloc _)) (((hB'.out.alloc _).alloc _).cell 2) rfl).mono ?_; rintro e w1 ⟨rfl, hc1⟩; have hz : w.heap.size + 1 < w1.heap.size := (by have := hc1.size; simp at this; omega); have lgs1 : gs < w1.heap.size := (by omega); have HC := Lib.hid (((Chg.refl [] w).alloc _).alloc _ |>.then hc1); have hB1 := (box2 rfl hc1); have k0 := hB1.cell 0; have k1 := hB1.cell 1; have k2 := hB1.cell 2; have k3 := hB1.cell 3; have k4 := hB1.cell 4; have k5 := hB1.cell 5; have k6 := hB1.cell 6; have k7 := hB1.cell 7; have k8 := hB1.cell 8; have k9 := hB1.cell 9; have k10 := hB1.cell 10; have kk : ∀ o, w1.cell? ⟨gs, o, none⟩ = w.cell? ⟨gs, o, none⟩ := (fun o => HC.out.cell (p := ⟨gs, o, none⟩) hgs (by simp)); have kf : ∀ o, w1.frozen? ⟨gs, o, none⟩ = false := (fun o => (HC.out.frozen (p := ⟨gs, o, none⟩) hgs (by simp)).trans (f o)); rw [← kk] at a2 a3 a4 a5 a6 a7 a8 a9 a10 a11 a12; clear hB1 hc1 kk f)
  go_ret
  exact ⟨rfl, HH.out _ HC.out⟩
theorem Try.num_info_C : (Try.prog.info? 3).map (fun i => (i.zero, i.size, i.bytes)) = some (some (.int .i64 0), 1, 8) := by kernel_rfl
end Go.Proofs
end
section
namespace Go.Proofs
open Go.RowKit
set_option linter.unusedVariables false

theorem Blk.at' (w : World) (t : TypeId) (cs : Array Value) {n : Nat} (h : n = w.heap.size) : Blk (w.alloc (.cells cs t)) n t cs := by subst h; exact Blk.new w t cs
theorem open_put_C {w : World} {g : Nat} {S : List Nat} {t : Tab Dm} (h : TabAt w g S t) {k : Nat} {s : Spot Dm} (hs : t.spots[k]? = some s) :
    ∃ gs n cs, w.cell? ⟨g, 2, none⟩ = some (.slice (some ⟨gs, 0, none⟩) n cs) ∧ k < n ∧ w.cell? ⟨gs, k * 13, none⟩ = some (.int .u64 s.gen) ∧ w.cell? ⟨gs, k * 13 + 1, none⟩ = some (.bool s.there) ∧
      (∃ u2 u3 u4 u5 u6 u7 u8 u9 u10 u11 u12, w.cell? ⟨gs, k * 13 + 2, none⟩ = some u2 ∧ w.cell? ⟨gs, k * 13 + 3, none⟩ = some u3 ∧ w.cell? ⟨gs, k * 13 + 4, none⟩ = some u4 ∧ w.cell? ⟨gs, k * 13 + 5, none⟩ = some u5 ∧ w.cell? ⟨gs, k * 13 + 6, none⟩ = some u6 ∧ w.cell? ⟨gs, k * 13 + 7, none⟩ = some u7 ∧ w.cell? ⟨gs, k * 13 + 8, none⟩ = some u8 ∧ w.cell? ⟨gs, k * 13 + 9, none⟩ = some u9 ∧ w.cell? ⟨gs, k * 13 + 10, none⟩ = some u10 ∧ w.cell? ⟨gs, k * 13 + 11, none⟩ = some u11 ∧ w.cell? ⟨gs, k * 13 + 12, none⟩ = some u12) ∧
      (∀ j, w.frozen? ⟨gs, j, none⟩ = false) ∧ gs ∈ S ∧ gs < w.heap.size ∧ g ≠ gs ∧
      ∀ x, TabAt (put11 (w.setCell ⟨gs, k * 13 + 1, none⟩ (.bool true)) gs (k * 13 + 2) x) g S { t with spots := t.spots.set k ⟨s.gen, true, x⟩ } := by
  obtain ⟨VS, VF, hB, hS, hF, rfl⟩ := h
  obtain ⟨gs, cs, rfl, hft, _, hlt, hk, a0, a1, a2, a3, a4, a5, a6, a7, a8, a9, a10, a11, a12, hfz⟩ := TabAt.open_spot hS hs
  have hg : g ≠ gs := by have := hS.ty hB (by decide); simpa [foot_some] using this
  have hfg : gs ∉ foot VF := fun h => hS.ty2 hF (by decide) gs (by simp [foot_some]) h
  refine ⟨gs, _, cs, hB.cell 2, hk, a0, a1, ⟨_, _, _, _, _, _, _, _, _, _, _, a2, a3, a4, a5, a6, a7, a8, a9, a10, a11, a12⟩, hfz, by simp [foot_some], hlt, hg, fun x => ?_⟩
  refine ⟨.slice (some ⟨gs, 0, none⟩) t.spots.length cs, VF, (hB.far hg _).far11 hg _ _, ?_, (hF.far hfg _).far11 hfg _ _, rfl⟩
  have := hS.come hs x
  simpa using this
theorem off_box_C {S S1 : List Nat} {B H gs : Nat} (hB : B ∉ S) (hH : B < H) (hsub : ∀ k ∈ S1, k ∈ S ∨ H ≤ k) (hm : gs ∈ S1) : gs ≠ B := by
  rintro rfl
  rcases hsub _ hm with h | h
  · exact hB h
  · omega
set_option maxRecDepth 100000 in
theorem put_full_C {w : World} {g : Nat} {S : List Nat} {t : Tab Dm} (h : TabAt w g S t) (hw : t.WF) (hf : t.frees = 0) (x : Dm) :
    Calls Try.prog 58 #[.pointer (some ⟨g, 0, none⟩), x.val] w fun e w' => e = .returned (.tuple #[.agg #[.int .i64 0, .int .u64 0], .int .i64 3]) ∧ Chg [] w w' := by
  have HA := fun w' h' => free_C (w := w') (g := g) (S := S) (t := t) h' hw
  rw [hf] at HA
  clear hf
  go_enter Try.func58, Try.ntmps58
  go_wp2_with (first
    | (go_at_call 77; refine (none_C (h.quiet (((Chg.refl _ _).alloc _).alloc _)) hw).mono ?_; rintro e w' ⟨rfl, rfl⟩)
    | (go_at_call 80; refine (HA _ (h.quiet (((Chg.refl _ _).alloc _).alloc _))).mono ?_; rintro e w' ⟨rfl, nq, rfl⟩))
  exact bodyPost_ret (v := .tuple #[.agg #[.int .i64 0, .int .u64 0], .int .i64 3]) (by simp [results, Try.results58, go_sem]) rfl ⟨rfl, (((((Chg.refl _ _).alloc _).alloc _).drewN _).setCell (p := ⟨w.heap.size + 1, 0, none⟩) (.inr (by simp)) _).setCell (p := ⟨w.heap.size + 1, 1, none⟩) (.inr (by simp)) _⟩
set_option maxRecDepth 100000 in
set_option maxHeartbeats 1600000 in
theorem put_ok_C {w : World} {g : Nat} {S : List Nat} {t : Tab Dm} (h : TabAt w g S t) (hw : t.WF) (hf : t.frees ≠ 0) (x : Dm) :
    Calls Try.prog 58 #[.pointer (some ⟨g, 0, none⟩), x.val] w fun e w' => e = .returned (.tuple #[.agg #[.int .i64 (t.takeAt : Nat), .int .u64 (t.genAt t.takeAt)], .int .i64 0]) ∧ Turns g S (t.put dm0 x) w w' := by
  have HF := fun w' h' => free_C (w := w') (g := g) (S := S) (t := t) h' hw
  have HT := fun w' h' => take_C (w := w') (g := g) (S := S) (t := t) h' hw hf
  obtain ⟨s, hs, hth, _, _, _, _, hg, hlt⟩ := hw.take_at (z := dm0) hf
  have hs1 := hw.s1
  have hb : (t.frees == 0) = false := by simpa using hf
  have HP := put_eq (z := dm0) hw hf x
  rw [← hg] at HP
  have HO := fun w' S' h' => open_put_C (w := w') (g := g) (S := S') (t := t.take dm0) h' hs
  rw [hth] at HO
  rw [← hg, HP]
  obtain ⟨k, hk⟩ : ∃ k, k = t.takeAt := ⟨_, rfl⟩
  rw [← hk] at HT HO hlt ⊢
  obtain ⟨q, hq⟩ : ∃ q, q = s.gen := ⟨_, rfl⟩
  rw [← hq] at HO ⊢
  have hS := h.lt
  have hbx : w.heap.size ∉ S := fun hm => by have := hS _ hm; omega
  have hbx2 : w.heap.size + 1 ∉ S := fun hm => by have := hS _ hm; omega
  have HbS := Lib.hid hS
  have Hbx := Lib.hid hbx
  have Hbx2 := Lib.hid hbx2
  have Hh := Lib.hid h
  clear hs hth hg hf HP hk hq hS hbx hbx2
  go_enter Try.func58, Try.ntmps58
  go_wp2_with (first
    | (go_at_call 77; refine (none_C (h.quiet (((Chg.refl _ _).alloc _).alloc _)) hw).mono ?_; rintro e w' ⟨rfl, rfl⟩)
    | (go_at_call 80; refine (HF _ (h.quiet (((Chg.refl _ _).alloc _).alloc _))).mono ?_; rintro e w' ⟨rfl, nq, rfl⟩)
    | (go_at_call 81; refine (HT _ (h.quiet ((((Chg.refl _ _).alloc _).alloc _).drewN _))).mono ?_; rintro e w1 ⟨rfl, S1, hT1, hsub, hc1⟩; obtain ⟨gs, n, cs, c2, hk, a0, a1, ⟨u2, u3, u4, u5, u6, u7, u8, u9, u10, u11, u12, a2, a3, a4, a5, a6, a7, a8, a9, a10, a11, a12⟩, f, hm, lgs, hne, HX⟩ := HO _ _ hT1; have i0 : (0 : Int) ≤ (k : Int) := (by omega); have i1 : (k : Int) < (n : Int) := (by omega); have hB0 := ((((Blk.new w 59 #[.int .i64 x.pi, .int .u64 x.pg, .int .i64 x.gs, .int .u64 x.cpu, .int .u64 x.per, .int .i64 x.cgs, .int .u64 x.car, .int .i64 x.own, .int .i64 x.live, .int .u64 x.used, .int .i64 x.ch]).alloc (.cells #[.int .i64 0, .int .u64 0] 34)).drewN nq).chg hc1 Hbx.out); have hB1 := (((Blk.at' (w.alloc (.cells #[.int .i64 x.pi, .int .u64 x.pg, .int .i64 x.gs, .int .u64 x.cpu, .int .u64 x.per, .int .i64 x.cgs, .int .u64 x.car, .int .i64 x.own, .int .i64 x.live, .int .u64 x.used, .int .i64 x.ch] 59)) 34 #[.int .i64 0, .int .u64 0] (n := w.heap.size + 1) (by simp)).drewN nq).chg hc1 Hbx2.out); have x0 := hB0.cell 0; have x1 := hB0.cell 1; have x2 := hB0.cell 2; have x3 := hB0.cell 3; have x4 := hB0.cell 4; have x5 := hB0.cell 5; have x6 := hB0.cell 6; have x7 := hB0.cell 7; have x8 := hB0.cell 8; have x9 := hB0.cell 9; have x10 := hB0.cell 10; have b0 := hB1.cell 0; have b1 := hB1.cell 1; have p0 := hB1.frozen 0; have p1 := hB1.frozen 1; have f1 := f (k * 13 + 1); have f2 := f (k * 13 + 2); have f3 := f (k * 13 + 3); have f4 := f (k * 13 + 4); have f5 := f (k * 13 + 5); have f6 := f (k * 13 + 6); have f7 := f (k * 13 + 7); have f8 := f (k * 13 + 8); have f9 := f (k * 13 + 9); have f10 := f (k * 13 + 10); have f11 := f (k * 13 + 11); have f12 := f (k * 13 + 12); have hng : gs ≠ w.heap.size + 1 := off_box_C Hbx2.out (by simp) hsub hm; have hng0 : gs ≠ w.heap.size := off_box_C Hbx.out (by simp; omega) hsub hm; have H1 := Lib.hid hT1; have H2 := Lib.hid hsub; have H3 := Lib.hid hc1; have H4 := Lib.hid HX; have H5 := Lib.hid hm; clear hT1 hsub hc1 HX hm f))
  go_region
  go_wp2
  refine bodyPost_ret (v := .tuple #[.agg #[.int .i64 (k : Nat), .int .u64 q], .int .i64 0]) (by simp [results, Try.results58, go_sem, b0, b1]) rfl ⟨rfl, ?_⟩
  have hsub := H2.out
  have hbx : w.heap.size + 1 ∉ S1 := fun hm => by
    rcases hsub _ hm with h9 | h9
    · exact Hbx2.out h9
    · simp at h9; omega
  refine ⟨S1, (((H4.out x).far (p := ⟨w.heap.size + 1, 0, none⟩) hbx _).far (p := ⟨w.heap.size + 1, 1, none⟩) hbx _).quiet (Chg.refl _ _).drew, fun j hj => ?_, ?_⟩
  · rcases hsub j hj with h9 | h9
    · exact .inl h9
    · simp at h9; exact .inr (by omega)
  · have h0 : Chg S w w1 := ((((Chg.refl S w).alloc _).alloc _).drewN nq).trans H3.out (fun _ hk => .inl hk)
    have hgs : gs ∈ S ∨ w.heap.size ≤ gs := by
      rcases hsub gs H5.out with h9 | h9
      · exact .inl h9
      · simp at h9; exact .inr (by omega)
    exact (((chg_put11 (h0.setCell (p := ⟨gs, k * 13 + 1, none⟩) hgs _) hgs _ _).setCell (p := ⟨w.heap.size + 1, 0, none⟩) (.inr (by simp)) _).setCell (p := ⟨w.heap.size + 1, 1, none⟩) (.inr (by simp)) _).drew

theorem new_no_C {w : World} (size first : Int) (f0 : 0 ≤ first) (h : mayT size first = false) :
    Calls Try.prog 57 #[.int .i64 size, .int .u64 first] w fun e w' => e = .returned (.tuple #[.pointer none, .int .i64 2]) ∧ w = w' := by
  have h' : ¬ (1 ≤ size ∧ size ≤ 4096 ∧ 1 ≤ first ∧ first < topG) := fun hh => by rw [mayT_iff.2 hh] at h; cases h
  rw [topG_val] at h'
  clear h
  by_cases a : size < 1
  · go_enter Try.func57, Try.ntmps57
    go_wp2
    go_ret2
    exact ⟨rfl, rfl⟩
  · by_cases b : 4096 < size
    · go_enter Try.func57, Try.ntmps57
      go_wp2
      go_ret2
      exact ⟨rfl, rfl⟩
    · by_cases c : first < 1
      · go_enter Try.func57, Try.ntmps57
        go_wp2
        go_ret2
        exact ⟨rfl, rfl⟩
      · have d : 18446744073709551614 < first := by omega
        clear h'
        go_enter Try.func57, Try.ntmps57
        go_wp2
        go_ret2
        exact ⟨rfl, rfl⟩
theorem new_ok_C {w : World} (size first : Int) (h : mayT size first = true) :
    Calls Try.prog 57 #[.int .i64 size, .int .u64 first] w fun e w' => e = .returned (.tuple #[.pointer (some ⟨w.heap.size, 0, none⟩), .int .i64 0]) ∧
      TabAt w' w.heap.size [w.heap.size] ⟨size, first, [], [], 0⟩ ∧ Chg [] w w' := by
  obtain ⟨a, b, c, d⟩ := mayT_iff.1 h
  rw [topG_val] at d
  have d' : ¬ 18446744073709551614 < first := by omega
  clear h
  go_enter Try.func57, Try.ntmps57
  go_wp2
  go_ret2
  refine ⟨rfl, ⟨.slice none 0 0, .slice none 0 0, Blk.new w _ _, Row.nil _ _ _, Row.nil _ _ _, rfl⟩, (Chg.refl _ _).alloc _⟩
end Go.Proofs
end
section
namespace Go.Proofs
open Go.RowKit
set_option linter.unusedVariables false

/-! ### Numbers that fit, or are saturated -/
def addN (x y : Int) : Int := if x + y < 18446744073709551616 then x + y else 0
def addS (x y : Int) : Int := if x + y < 18446744073709551616 then x + y else 18446744073709551615
def subS (x y : Int) : Int := if x < y then 0 else x - y
theorem add64_0 (x y : Int) (hx : 0 ≤ x) (hy : 0 ≤ y) (w : World) : (callFunc 82 #[.int .u64 x, .int .u64 y, .int .u64 0]).run Try.prog w =
    .ok (.value (.tuple #[.int .u64 ((x + y) % 18446744073709551616), .int .u64 ((x + y) / 18446744073709551616)])) w := by
  rw [run_callFunc_extern Try.func82 (by kernel_rfl) (by kernel_rfl) (by kernel_rfl) (e := add64Entry) (by kernel_rfl), run_add64 x y 0 hx hy (by omega) (by omega)]
  simp [Result.andThen]
theorem add64_fits (x y : Int) (hx : 0 ≤ x) (hy : 0 ≤ y) (h : x + y < 18446744073709551616) (w : World) : (callFunc 82 #[.int .u64 x, .int .u64 y, .int .u64 0]).run Try.prog w =
    .ok (.value (.tuple #[.int .u64 (addN x y), .int .u64 0])) w := by
  rw [add64_0 x y hx hy]
  have e1 : (x + y) % 18446744073709551616 = addN x y := by unfold addN; rw [if_pos h]; omega
  have e2 : (x + y) / 18446744073709551616 = 0 := by omega
  rw [e1, e2]
theorem add64_over (x y : Int) (hx : 0 ≤ x) (hy : 0 ≤ y) (hx' : x < 18446744073709551616) (hy' : y < 18446744073709551616) (h : ¬ x + y < 18446744073709551616) (w : World) : (callFunc 82 #[.int .u64 x, .int .u64 y, .int .u64 0]).run Try.prog w =
    .ok (.value (.tuple #[.int .u64 (x + y - 18446744073709551616), .int .u64 1])) w := by
  rw [add64_0 x y hx hy]
  have e1 : (x + y) % 18446744073709551616 = x + y - 18446744073709551616 := by omega
  have e2 : (x + y) / 18446744073709551616 = 1 := by omega
  rw [e1, e2]
theorem sat_number (x n : Int) (w : World) :
    Calls Try.prog 104 #[.int .u64 x, .int .u64 n] w fun e w' => e = .returned (.int .u64 n) ∧ w' = w := by
  go_enter Try.func104, Try.ntmps104
  go_wp2
  go_ret
  exact ⟨rfl, rfl⟩
theorem sat_nearest (x n : Int) (w : World) :
    Calls Try.prog 103 #[.int .u64 x, .int .u64 n] w fun e w' => e = .returned (.int .u64 n) ∧ w' = w := by
  go_enter Try.func103, Try.ntmps103
  go_wp2
  go_ret
  exact ⟨rfl, rfl⟩
theorem m106 (w : World) : (method 263 120 (.int .u64 0) "helmsman/num.number").run Try.prog w = .ok (104, .int .u64 0) w := by kernel_rfl
theorem m105 (w : World) : (method 263 120 (.int .u64 0) "helmsman/num.nearest").run Try.prog w = .ok (103, .int .u64 0) w := by kernel_rfl
set_option maxRecDepth 100000 in
theorem sum_sat_fits (x y : Int) (hx : 0 ≤ x) (hy : 0 ≤ y) (hx1 : x < 18446744073709551616) (hy1 : y < 18446744073709551616) (h : x + y < 18446744073709551616) (w : World) :
    Calls Try.prog 66 #[.int .u64 x, .int .u64 y] w fun e w' => e = .returned (.int .u64 (addN x y)) ∧ w = w' := by
  have hm := m106
  have hA := add64_fits x y hx hy h
  clear h
  go_enter Try.func66, Try.ntmps66
  go_wp2_with (first | (go_at_call 104; refine (sat_number _ _ _).mono ?_; rintro e w' ⟨rfl, rfl⟩))
  go_ret
  exact ⟨rfl, rfl⟩
set_option maxRecDepth 100000 in
theorem sum_sat_over (x y : Int) (hx : 0 ≤ x) (hy : 0 ≤ y) (hx1 : x < 18446744073709551616) (hy1 : y < 18446744073709551616) (h : ¬ x + y < 18446744073709551616) (w : World) :
    Calls Try.prog 66 #[.int .u64 x, .int .u64 y] w fun e w' => e = .returned (.int .u64 (18446744073709551615)) ∧ w = w' := by
  have hm := m105
  have hA := add64_over x y hx hy hx1 hy1 h
  clear h
  go_enter Try.func66, Try.ntmps66
  go_wp2_with (first | (go_at_call 103; refine (sat_nearest _ _ _).mono ?_; rintro e w' ⟨rfl, rfl⟩))
  go_ret
  exact ⟨rfl, rfl⟩
set_option maxRecDepth 100000 in
theorem dif_sat_fits (x y : Int) (hx : 0 ≤ x) (hy : 0 ≤ y) (hx1 : x < 18446744073709551616) (hy1 : y < 18446744073709551616) (h : y ≤ x) (w : World) :
    Calls Try.prog 83 #[.int .u64 x, .int .u64 y] w fun e w' => e = .returned (.int .u64 (x - y)) ∧ w = w' := by
  have hm := m106
  have hA : IntKind.u64.wrap (x - y) = x - y := by rw [IntKind.wrap_u64]; omega
  go_enter Try.func83, Try.ntmps83
  go_wp2_with (first | (go_at_call 104; refine (sat_number _ _ _).mono ?_; rintro e w' ⟨rfl, rfl⟩))
  go_ret
  exact ⟨rfl, rfl⟩
set_option maxRecDepth 100000 in
theorem dif_sat_over (x y : Int) (hx : 0 ≤ x) (hy : 0 ≤ y) (hx1 : x < 18446744073709551616) (hy1 : y < 18446744073709551616) (h : x < y) (w : World) :
    Calls Try.prog 83 #[.int .u64 x, .int .u64 y] w fun e w' => e = .returned (.int .u64 (0)) ∧ w = w' := by
  have hm := m105
  go_enter Try.func83, Try.ntmps83
  go_wp2_with (first | (go_at_call 103; refine (sat_nearest _ _ _).mono ?_; rintro e w' ⟨rfl, rfl⟩))
  go_ret
  exact ⟨rfl, rfl⟩
theorem sum_sat (x y : Int) (hx : 0 ≤ x) (hy : 0 ≤ y) (hx1 : x < 18446744073709551616) (hy1 : y < 18446744073709551616) (w : World) :
    Calls Try.prog 66 #[.int .u64 x, .int .u64 y] w fun e w' => e = .returned (.int .u64 (addS x y)) ∧ w = w' := by
  by_cases h : x + y < 18446744073709551616
  · rw [show addS x y = addN x y by unfold addS addN; rw [if_pos h, if_pos h]]; exact sum_sat_fits x y hx hy hx1 hy1 h w
  · rw [show addS x y = 18446744073709551615 from if_neg h]; exact sum_sat_over x y hx hy hx1 hy1 h w
theorem dif_sat (x y : Int) (hx : 0 ≤ x) (hy : 0 ≤ y) (hx1 : x < 18446744073709551616) (hy1 : y < 18446744073709551616) (w : World) :
    Calls Try.prog 83 #[.int .u64 x, .int .u64 y] w fun e w' => e = .returned (.int .u64 (subS x y)) ∧ w = w' := by
  by_cases h : x < y
  · rw [show subS x y = 0 from if_pos h]; exact dif_sat_over x y hx hy hx1 hy1 h w
  · rw [show subS x y = x - y from if_neg h]; exact dif_sat_fits x y hx hy hx1 hy1 (by omega) w
theorem num_addS (x y : Int) (hx : 0 ≤ x) (hy : 0 ≤ y) (hx1 : x < 18446744073709551616) (hy1 : y < 18446744073709551616) (w : World) :
    Calls Try.prog 39 #[.int .u64 x, .int .u64 y] w fun e w' => e = .returned (.int .u64 (addS x y)) ∧ w = w' := by
  go_enter Try.func39, Try.ntmps39
  go_wp2_with (go_at_call 66; refine (sum_sat x y hx hy hx1 hy1 _).mono ?_; rintro e w' ⟨rfl, rfl⟩)
  go_ret
  exact ⟨rfl, rfl⟩
theorem num_subS (x y : Int) (hx : 0 ≤ x) (hy : 0 ≤ y) (hx1 : x < 18446744073709551616) (hy1 : y < 18446744073709551616) (w : World) :
    Calls Try.prog 70 #[.int .u64 x, .int .u64 y] w fun e w' => e = .returned (.int .u64 (subS x y)) ∧ w = w' := by
  go_enter Try.func70, Try.ntmps70
  go_wp2_with (go_at_call 83; refine (dif_sat x y hx hy hx1 hy1 _).mono ?_; rintro e w' ⟨rfl, rfl⟩)
  go_ret
  exact ⟨rfl, rfl⟩
/-- May these be a domain's limits? -/
def mayD (gs cpu per : Int) : Bool := decide (0 ≤ gs) && decide (gs ≤ 64) && decide (cpu ≤ 4294967296) && decide (1 ≤ per) && decide (per ≤ 4294967296)
theorem mayD_any (f : Nat) (hf : f = 56 ∨ f = 31) (gs cpu per : Int) (hc : 0 ≤ cpu) (hp : 0 ≤ per) (w : World) :
    Calls Try.prog f #[.int .i64 gs, .int .u64 cpu, .int .u64 per] w fun e w' => e = .returned (.bool (mayD gs cpu per)) ∧ w = w' := by
  rcases hf with rfl | rfl
  · by_cases a : 0 ≤ gs
    · by_cases b : gs ≤ 64
      · by_cases c : cpu ≤ 4294967296
        · by_cases d : 1 ≤ per
          · by_cases e : per ≤ 4294967296
            · have hv : mayD gs cpu per = true := by unfold mayD; simp [a, b, c, d, e]
              rw [hv]; clear hv
              go_enter Try.func56, Try.ntmps56
              go_wp2
              go_ret
              exact ⟨rfl, rfl⟩
            · have hv : mayD gs cpu per = false := by unfold mayD; simp; omega
              rw [hv]; clear hv
              go_enter Try.func56, Try.ntmps56
              go_wp2
              go_ret
              exact ⟨rfl, rfl⟩
          · have hv : mayD gs cpu per = false := by unfold mayD; simp; omega
            rw [hv]; clear hv
            go_enter Try.func56, Try.ntmps56
            go_wp2
            go_ret
            exact ⟨rfl, rfl⟩
        · have hv : mayD gs cpu per = false := by unfold mayD; simp; omega
          rw [hv]; clear hv
          go_enter Try.func56, Try.ntmps56
          go_wp2
          go_ret
          exact ⟨rfl, rfl⟩
      · have hv : mayD gs cpu per = false := by unfold mayD; simp; omega
        rw [hv]; clear hv
        go_enter Try.func56, Try.ntmps56
        go_wp2
        go_ret
        exact ⟨rfl, rfl⟩
    · have hv : mayD gs cpu per = false := by unfold mayD; simp; omega
      rw [hv]; clear hv
      go_enter Try.func56, Try.ntmps56
      go_wp2
      go_ret
      exact ⟨rfl, rfl⟩
  · by_cases a : 0 ≤ gs
    · by_cases b : gs ≤ 64
      · by_cases c : cpu ≤ 4294967296
        · by_cases d : 0 < per
          · by_cases e : per ≤ 4294967296
            · have hv : mayD gs cpu per = true := by unfold mayD; simp [a, b, c, e]; omega
              rw [hv]; clear hv
              go_enter Try.func31, Try.ntmps31
              go_wp2
              go_ret
              exact ⟨rfl, rfl⟩
            · have hv : mayD gs cpu per = false := by unfold mayD; simp; omega
              rw [hv]; clear hv
              go_enter Try.func31, Try.ntmps31
              go_wp2
              go_ret
              exact ⟨rfl, rfl⟩
          · have hv : mayD gs cpu per = false := by unfold mayD; simp; omega
            rw [hv]; clear hv
            go_enter Try.func31, Try.ntmps31
            go_wp2
            go_ret
            exact ⟨rfl, rfl⟩
        · have hv : mayD gs cpu per = false := by unfold mayD; simp; omega
          rw [hv]; clear hv
          go_enter Try.func31, Try.ntmps31
          go_wp2
          go_ret
          exact ⟨rfl, rfl⟩
      · have hv : mayD gs cpu per = false := by unfold mayD; simp; omega
        rw [hv]; clear hv
        go_enter Try.func31, Try.ntmps31
        go_wp2
        go_ret
        exact ⟨rfl, rfl⟩
    · have hv : mayD gs cpu per = false := by unfold mayD; simp; omega
      rw [hv]; clear hv
      go_enter Try.func31, Try.ntmps31
      go_wp2
      go_ret
      exact ⟨rfl, rfl⟩
end Go.Proofs
end
section
namespace Go.Proofs
open Go.RowKit
set_option linter.unusedVariables false
set_option linter.unusedSimpArgs false

/-! ### Domains in memory -/
abbrev ptr (c : Nat) : Value := .pointer (some ⟨c, 0, none⟩)
/-- Domains lie at c: their table is t, whose blocks are S. -/
def DomAt (w : World) (c : Nat) (S : List Nat) (t : Tab Dm) : Prop := ∃ g, Blk w c 110 #[ptr g] ∧ TabAt w g S t ∧ t.WF
section
variable {w w' : World} {c : Nat} {S : List Nat} {t : Tab Dm}
theorem DomAt.quiet (h : DomAt w c S t) (hc : Chg [] w w') : DomAt w' c S t := by
  obtain ⟨g, h1, h2, h4⟩ := h
  exact ⟨g, h1.chg hc (by simp), h2.quiet hc, h4⟩
theorem DomAt.chg {S' : List Nat} (h : DomAt w c S t) (hc : Chg S' w w') (h1 : c ∉ S') (h2 : ∀ k ∈ S, k ∉ S') : DomAt w' c S t := by
  obtain ⟨g, k1, k2, k4⟩ := h
  exact ⟨g, k1.chg hc h1, k2.chg hc h2, k4⟩
theorem DomAt.lt (h : DomAt w c S t) : ∀ k ∈ c :: S, k < w.heap.size := by
  obtain ⟨g, h1, h2, h4⟩ := h
  intro k hk
  rcases List.mem_cons.1 hk with rfl | hk
  · exact h1.lt
  · exact h2.lt k hk
theorem DomAt.wf (h : DomAt w c S t) : t.WF := by obtain ⟨g, h1, h2, h4⟩ := h; exact h4
theorem TabAt.not_dom {g : Nat} {cs : Array Value} (h : TabAt w g S t) (hB : Blk w c 110 cs) : c ∉ S := by
  obtain ⟨VS, VF, hB', hS, hF, rfl⟩ := h
  simp only [List.mem_cons, List.mem_append, not_or]
  exact ⟨fun e => Blk.ty hB hB' (by decide) e, hS.ty hB (by decide), hF.ty hB (by decide)⟩
theorem DomAt.not_mem (h : DomAt w c S t) : c ∉ S := by obtain ⟨g, h1, h2, h4⟩ := h; exact h2.not_dom h1
/-- A block of another kind is none of a table's. -/
theorem DomAt.ne_ty (h : DomAt w c S t) {b : Nat} {ty : TypeId} {cs : Array Value} (hB : Blk w b ty cs) (h1 : ty ≠ 110) (h2 : ty ≠ 139) (h3 : ty ≠ 135) (h4 : ty ≠ 3) : b ∉ c :: S := by
  obtain ⟨g, k1, ⟨VS, VF, hB', hS, hF, rfl⟩, k4⟩ := h
  simp only [List.mem_cons, List.mem_append, not_or]
  exact ⟨fun e => Blk.ty hB k1 h1 e, fun e => Blk.ty hB hB' h2 e, hS.ty hB (Ne.symm h3), hF.ty hB (Ne.symm h4)⟩
end
/-- What a call on domains leaves. -/
def DomTurns (c : Nat) (S : List Nat) (t' : Tab Dm) (w w' : World) : Prop := ∃ S', DomAt w' c S' t' ∧ (∀ k ∈ S', k ∈ S ∨ w.heap.size ≤ k) ∧ Chg S w w'
theorem DomTurns.refl {c : Nat} {S : List Nat} {t : Tab Dm} {a b : World} (h : DomAt a c S t) (hc : Chg [] a b) : DomTurns c S t a b := ⟨S, h.quiet hc, fun k hk => .inl hk, hc.any⟩
theorem DomTurns.later {c : Nat} {S : List Nat} {t : Tab Dm} {a b d : World} (h : DomTurns c S t a b) (hc : Chg [] b d) : DomTurns c S t a d := by
  obtain ⟨S', h1, h2, h3⟩ := h
  exact ⟨S', h1.quiet hc, h2, h3.then hc⟩
theorem DomTurns.earlier {c : Nat} {S : List Nat} {t : Tab Dm} {a b d : World} (h : DomTurns c S t b d) (hc : Chg [] a b) : DomTurns c S t a d := by
  obtain ⟨S', h1, h2, h3⟩ := h
  exact ⟨S', h1, fun k hk => (h2 k hk).imp id (fun h => Nat.le_trans hc.size h), (Chg.any hc).trans h3 (fun k hk => .inl hk)⟩
/-- One turn behind another. -/
theorem DomTurns.after {c : Nat} {S S' : List Nat} {t : Tab Dm} {a b d : World} (h : DomTurns c S' t b d) (hc : Chg S a b) (hS : ∀ k ∈ S', k ∈ S ∨ a.heap.size ≤ k) : DomTurns c S t a d := by
  obtain ⟨S2, h1, h2, h3⟩ := h
  refine ⟨S2, h1, fun k hk => ?_, hc.trans h3 hS⟩
  rcases h2 k hk with h | h
  · exact hS k h
  · exact .inr (Nat.le_trans hc.size h)
/-- What a ref names; where it is stale, a domain of which nothing is there. -/
def Tab.at_ (t : Tab Dm) (i q : Int) : Dm := match t.live i with | some s => if s.gen = q then s.thing else dm0 | none => dm0
theorem at_no {t : Tab Dm} {i q : Int} (h : t.has i q = false) : t.at_ i q = dm0 := by
  unfold Tab.at_
  unfold Tab.has at h
  cases hl : t.live i with
  | none => rfl
  | some s => rw [hl] at h; simp at h; simp [h]
theorem at_yes {t : Tab Dm} {i q : Int} {s : Spot Dm} (hl : t.live i = some s) (hq : s.gen = q) : t.at_ i q = s.thing := by
  unfold Tab.at_; rw [hl]; simp [hq]
/-- The error of a ref. -/
def staleE (t : Tab Dm) (i q : Int) : Int := if t.has i q then 0 else 11
theorem get_any {w : World} {g : Nat} {S : List Nat} {t : Tab Dm} (h : TabAt w g S t) (hw : t.WF) (i q : Int) (i0 : -9223372036854775808 ≤ i) (i1 : i ≤ 9223372036854775807) :
    Calls Try.prog 52 #[.pointer (some ⟨g, 0, none⟩), .agg #[.int .i64 i, .int .u64 q]] w fun e w' => e = .returned (.tuple #[(t.at_ i q).val, .int .i64 (staleE t i q)]) ∧ Chg [] w w' := by
  unfold staleE
  cases hq : t.has i q with
  | false => rw [at_no hq]; exact get_no_C h hw i q i0 i1 hq
  | true =>
    obtain ⟨s, hl, he⟩ := has_iff.1 hq
    rw [at_yes hl he]
    exact get_yes_C h hw hq hl
theorem places_any {w : World} {c g : Nat} (hB : Blk w c 110 #[ptr g]) :
    Calls Try.prog 50 #[ptr c] w fun e w' => e = .returned (ptr g) ∧ w = w' := by
  have c0 := hB.cell 0
  clear hB
  go_enter Try.func50, Try.ntmps50
  go_wp2
  go_ret
  exact ⟨rfl, rfl⟩
theorem places_nil (w : World) : Calls Try.prog 50 #[.pointer none] w fun e w' => e = .returned (.pointer none) ∧ w = w' := by
  go_enter Try.func50, Try.ntmps50
  go_wp2
  go_ret
  exact ⟨rfl, rfl⟩
theorem none_any {w : World} {c : Nat} {S : List Nat} {t : Tab Dm} (h : DomAt w c S t) :
    Calls Try.prog 61 #[ptr c] w fun e w' => e = .returned (.bool false) ∧ w = w' := by
  obtain ⟨g, hB, _⟩ := h
  go_enter Try.func61, Try.ntmps61
  go_wp2_with (go_at_call 50; refine (places_any hB).mono ?_; rintro e w' ⟨rfl, rfl⟩)
  go_ret
  exact ⟨rfl, rfl⟩
abbrev obRef (i q : Int) : Obj := .cells #[.int .i64 i, .int .u64 q] 34
abbrev obDm : Obj := .cells #[.int .i64 0, .int .u64 0, .int .i64 0, .int .u64 0, .int .u64 0, .int .i64 0, .int .u64 0, .int .i64 0, .int .i64 0, .int .u64 0, .int .i64 0] 59
abbrev obX (x : Dm) : Obj := .cells #[.int .i64 x.pi, .int .u64 x.pg, .int .i64 x.gs, .int .u64 x.cpu, .int .u64 x.per, .int .i64 x.cgs, .int .u64 x.car, .int .i64 x.own, .int .i64 x.live, .int .u64 x.used, .int .i64 x.ch] 59
/-- What there is of a box for a domain behind calls that turned nothing. -/
theorem dm_facts {w W w2 : World} {n : Nat} (hn : n = w.heap.size) (hW : Chg [] (w.alloc obDm) W) (hc : Chg [] W w2) :
    n < w2.heap.size ∧ w2.cell? ⟨n, 0, none⟩ = some (.int .i64 0) ∧ w2.cell? ⟨n, 1, none⟩ = some (.int .u64 0) ∧ w2.cell? ⟨n, 2, none⟩ = some (.int .i64 0) ∧ w2.cell? ⟨n, 3, none⟩ = some (.int .u64 0) ∧ w2.cell? ⟨n, 4, none⟩ = some (.int .u64 0) ∧ w2.cell? ⟨n, 5, none⟩ = some (.int .i64 0) ∧ w2.cell? ⟨n, 6, none⟩ = some (.int .u64 0) ∧ w2.cell? ⟨n, 7, none⟩ = some (.int .i64 0) ∧ w2.cell? ⟨n, 8, none⟩ = some (.int .i64 0) ∧ w2.cell? ⟨n, 9, none⟩ = some (.int .u64 0) ∧ w2.cell? ⟨n, 10, none⟩ = some (.int .i64 0) ∧ ∀ o, w2.frozen? ⟨n, o, none⟩ = false := by
  subst hn
  have hB := ((Blk.new w 59 #[.int .i64 0, .int .u64 0, .int .i64 0, .int .u64 0, .int .u64 0, .int .i64 0, .int .u64 0, .int .i64 0, .int .i64 0, .int .u64 0, .int .i64 0]).chg hW (by simp)).chg hc (by simp)
  exact ⟨hB.lt, hB.cell 0, hB.cell 1, hB.cell 2, hB.cell 3, hB.cell 4, hB.cell 5, hB.cell 6, hB.cell 7, hB.cell 8, hB.cell 9, hB.cell 10, hB.frozen⟩
theorem x_facts {w2 : World} {n : Nat} {x : Dm} (hB : Blk w2 n 59 x.arr) :
    n < w2.heap.size ∧ w2.cell? ⟨n, 0, none⟩ = some (.int .i64 x.pi) ∧ w2.cell? ⟨n, 1, none⟩ = some (.int .u64 x.pg) ∧ w2.cell? ⟨n, 2, none⟩ = some (.int .i64 x.gs) ∧ w2.cell? ⟨n, 3, none⟩ = some (.int .u64 x.cpu) ∧ w2.cell? ⟨n, 4, none⟩ = some (.int .u64 x.per) ∧ w2.cell? ⟨n, 5, none⟩ = some (.int .i64 x.cgs) ∧ w2.cell? ⟨n, 6, none⟩ = some (.int .u64 x.car) ∧ w2.cell? ⟨n, 7, none⟩ = some (.int .i64 x.own) ∧ w2.cell? ⟨n, 8, none⟩ = some (.int .i64 x.live) ∧ w2.cell? ⟨n, 9, none⟩ = some (.int .u64 x.used) ∧ w2.cell? ⟨n, 10, none⟩ = some (.int .i64 x.ch) ∧ ∀ o, w2.frozen? ⟨n, o, none⟩ = false :=
  ⟨hB.lt, hB.cell 0, hB.cell 1, hB.cell 2, hB.cell 3, hB.cell 4, hB.cell 5, hB.cell 6, hB.cell 7, hB.cell 8, hB.cell 9, hB.cell 10, hB.frozen⟩
theorem ref_facts {w W w2 : World} {i q : Int} {n : Nat} (hn : n = w.heap.size) (hW : Chg [] (w.alloc (obRef i q)) W) (hc : Chg [] W w2) :
    n < w2.heap.size ∧ w2.cell? ⟨n, 0, none⟩ = some (.int .i64 i) ∧ w2.cell? ⟨n, 1, none⟩ = some (.int .u64 q) := by
  subst hn
  have hB := ((Blk.new w 34 #[.int .i64 i, .int .u64 q]).chg hW (by simp)).chg hc (by simp)
  exact ⟨hB.lt, hB.cell 0, hB.cell 1⟩
set_option maxHeartbeats 1600000 in
set_option maxRecDepth 100000 in
theorem Get_any {w : World} {c : Nat} {S : List Nat} {t : Tab Dm} (h : DomAt w c S t) (i q : Int) (i0 : -9223372036854775808 ≤ i) (i1 : i ≤ 9223372036854775807) :
    Calls Try.prog 27 #[ptr c, .agg #[.int .i64 i, .int .u64 q]] w fun e w' => e = .returned (.tuple #[(t.at_ i q).val, .int .i64 (staleE t i q)]) ∧ Chg [] w w' := by
  obtain ⟨g, hB, hT, hW⟩ := h
  have HP := fun W (hW : Chg [] w W) => places_any (hB.chg hW (by simp))
  have HG := fun W (hc : Chg [] w W) => get_any (hT.quiet hc) hW i q i0 i1
  obtain ⟨x, hx⟩ : ∃ x, x = t.at_ i q := ⟨_, rfl⟩
  rw [← hx] at HG ⊢
  obtain ⟨e0, he⟩ : ∃ e0, e0 = staleE t i q := ⟨_, rfl⟩
  rw [← he] at HG ⊢
  have HP := Lib.hid HP
  have HG := Lib.hid HG
  clear hx he hT hW hB
  go_enter Try.func27, Try.ntmps27
  go_wp2
  go_region_held3 (fun w' => w'.cell? ⟨w.heap.size, 0, none⟩ = some (.int .i64 i) ∧ w'.cell? ⟨w.heap.size, 1, none⟩ = some (.int .u64 q))
    (first | go_keep)
    (first
      | (go_at_call 50; refine (HP.out _ ((((Chg.refl _ _).alloc _).alloc _).drew)).mono ?_; rintro e w1 ⟨rfl, rfl⟩)
      | (go_at_call 52; refine (HG.out _ ((((Chg.refl _ _).alloc _).alloc _).drew)).mono ?_; rintro e w2 ⟨rfl, hc⟩; obtain ⟨_, b0, b1⟩ := ref_facts (w := w) rfl (((Chg.refl [] _).alloc _).drew) hc; obtain ⟨hz, r0, r1, r2, r3, r4, r5, r6, r7, r8, r9, r10, rf⟩ := dm_facts (w := w.alloc (obRef i q)) (n := w.heap.size + 1) (by simp) ((Chg.refl [] _).drew) hc; have HC := Lib.hid ((((Chg.refl [] w).alloc _).alloc _).drew.then hc); clear hc))
  all_goals
    go_wp2
    refine bodyPost_ret (v := .tuple #[x.val, .int .i64 e0]) ?_ rfl ⟨rfl, by repeat' (first | with_reducible exact HC.out | with_reducible apply Chg.alloc | with_reducible apply Chg.setCell | (with_reducible refine Or.inr ?_; dsimp only; omega))⟩
    simp [results, Try.results27, go_sem, Dm.val, hz, r0, r1, r2, r3, r4, r5, r6, r7, r8, r9, r10]
end Go.Proofs
end
section
namespace Go.Proofs
open Go.RowKit
set_option linter.unusedVariables false
set_option linter.unusedSimpArgs false

/-- Another thing is there now: the same blocks. -/
theorem TabAt.thing_ {g gs cs : Nat} {t : Tab Dm} {s : Spot Dm} {w w1 : World} {VF : Value}
    (hB : Blk w g 139 #[.int .i64 t.size, .int .u64 t.first, .slice (some ⟨gs, 0, none⟩) t.spots.length cs, VF, .int .i64 t.retired])
    (hS : Row w 135 13 (.slice (some ⟨gs, 0, none⟩) t.spots.length cs) t.spots.length (spotCells t.spots)) (hF : Row w 3 1 VF t.freed.length (numCells t.freed))
    {k : Nat} (hs : t.spots[k]? = some s) (x : Dm) (hc : Chg [] w w1) :
    TabAt (put11 w1 gs (k * 13 + 2) x) g (g :: (foot (.slice (some ⟨gs, 0, none⟩) t.spots.length cs) ++ foot VF)) { t with spots := t.spots.set k { s with thing := x } } ∧ Chg (g :: (foot (.slice (some ⟨gs, 0, none⟩) t.spots.length cs) ++ foot VF)) w (put11 w1 gs (k * 13 + 2) x) := by
  have hk := (List.getElem?_eq_some_iff.1 hs).1
  have hB1 := hB.chg hc (by simp)
  have hS1 := hS.chg hc (fun _ _ h => by cases h)
  have hF1 := hF.chg hc (fun _ _ h => by cases h)
  have hg : g ≠ gs := by have := hS.ty hB (by decide); simpa [foot_some] using this
  have hfg : gs ∉ foot VF := fun h => hS.ty2 hF (by decide) gs (by simp [foot_some]) h
  have hr := hS1.put11_ (o := k * 13 + 2) (by omega) x
  rw [← spotCells_thing t.spots k s x hs] at hr
  exact ⟨⟨.slice (some ⟨gs, 0, none⟩) t.spots.length cs, VF, hB1.far11 hg _ _, by simpa using hr, hF1.far11 hfg _ _, rfl⟩, chg_put11 hc.any (.inl (by simp [foot_some])) _ _⟩
set_option maxRecDepth 100000 in
theorem set_yes_S {w : World} {g : Nat} {S : List Nat} {t : Tab Dm} (h : TabAt w g S t) (hw : t.WF) {i q : Int} (x : Dm) (hq : t.has i q = true) :
    Calls Try.prog 65 #[.pointer (some ⟨g, 0, none⟩), .agg #[.int .i64 i, .int .u64 q], x.val] w fun e w' => e = .returned (.int .i64 0) ∧ TabAt w' g S (t.thing i.toNat x) ∧ Chg S w w' := by
  obtain ⟨k, s, gs, cs, VF, rfl, rfl, hs, hth, hk, hB, hS, hF, hSS⟩ := has_form h hq
  have HA := fun w' h' => find_yes_C (w := w') (g := g) (S := S) (t := t) h' hw hs hth (gs := gs) (cs := cs) (n := t.spots.length)
  subst hSS
  obtain ⟨gs', cs', hv, _, _, hgs, _, _, _, a2, a3, a4, a5, a6, a7, a8, a9, a10, a11, a12, f⟩ := TabAt.open_spot hS hs
  simp only [Value.slice.injEq, Option.some.injEq, Addr.mk.injEq] at hv
  obtain ⟨⟨rfl, _⟩, _, _⟩ := hv
  have HT := fun (w1 : World) (hc : Chg [] w w1) => TabAt.thing_ hB hS hF hs x hc
  rw [show t.thing ((k : Nat) : Int).toNat x = { t with spots := t.spots.set k { s with thing := x } } by unfold Tab.thing; simp [hs]]
  have HH := Lib.hid HT
  have hB' := Lib.hid hB
  clear hS hF hq hs hth hB HT
  go_enter Try.func65, Try.ntmps65
  go_wp2_with (go_at_call 74; refine (HA _ (h.quiet (((Chg.refl _ _).alloc _).alloc _)) (((hB'.out.alloc _).alloc _).cell 2) rfl).mono ?_; rintro e w1 ⟨rfl, hc1⟩; have hz : w.heap.size + 1 < w1.heap.size := (by have := hc1.size; simp at this; omega); have lgs1 : gs < w1.heap.size := (by omega); have HC := Lib.hid (((Chg.refl [] w).alloc _).alloc _ |>.then hc1); have hB1 := (box2 rfl hc1); have k0 := hB1.cell 0; have k1 := hB1.cell 1; have k2 := hB1.cell 2; have k3 := hB1.cell 3; have k4 := hB1.cell 4; have k5 := hB1.cell 5; have k6 := hB1.cell 6; have k7 := hB1.cell 7; have k8 := hB1.cell 8; have k9 := hB1.cell 9; have k10 := hB1.cell 10; have kk : ∀ o, w1.cell? ⟨gs, o, none⟩ = w.cell? ⟨gs, o, none⟩ := (fun o => HC.out.cell (p := ⟨gs, o, none⟩) hgs (by simp)); have kf : ∀ o, w1.frozen? ⟨gs, o, none⟩ = false := (fun o => (HC.out.frozen (p := ⟨gs, o, none⟩) hgs (by simp)).trans (f o)); rw [← kk] at a2 a3 a4 a5 a6 a7 a8 a9 a10 a11 a12; clear hB1 hc1 kk f)
  go_ret
  exact ⟨rfl, HH.out _ HC.out⟩

/-- Numbers of a domain with which no arithmetic goes over. -/
structure Dm.Sm (x : Dm) : Prop where
  gs : -1000000 ≤ x.gs ∧ x.gs ≤ 1000000
  cgs : -1000000 ≤ x.cgs ∧ x.cgs ≤ 1000000
  own : -1000000 ≤ x.own ∧ x.own ≤ 1000000
  live : -1000000 ≤ x.live ∧ x.live ≤ 1000000
  ch : -1000000 ≤ x.ch ∧ x.ch ≤ 1000000
  cpu : 0 ≤ x.cpu ∧ x.cpu < 18446744073709551616
  car : 0 ≤ x.car ∧ x.car < 18446744073709551616
  used : 0 ≤ x.used ∧ x.used < 18446744073709551616
theorem Dm.Sm.zero : dm0.Sm := by constructor <;> simp [dm0]
set_option maxRecDepth 100000 in
theorem share_any (w : World) (x : Dm) (hx : x.Sm) :
    Calls Try.prog 62 #[x.val] w fun e w' => e = .returned (.tuple #[.int .i64 (x.gs - x.cgs), .int .u64 (subS x.cpu x.car)]) ∧ Chg [] w w' := by
  have hS := fun W => (num_subS x.cpu x.car hx.cpu.1 hx.car.1 hx.cpu.2 hx.car.2 W).mono (fun e w' h => (⟨h.1, h.2.symm⟩ : e = .returned (.int .u64 (subS x.cpu x.car)) ∧ w' = W))
  have e1 : IntKind.i64.wrap (x.gs - x.cgs) = x.gs - x.cgs := IntWalk.i64_in _ (by have := hx.gs; have := hx.cgs; omega)
  clear hx
  go_enter Try.func62, Try.ntmps62
  go_wp2
  go_quiet ((go_at_call 70; exact Calls.quiet_of_same (hS _)))
  go_wp2
  go_ret2
  exact ⟨rfl, ((Chg.refl _ _).alloc _).drewN _⟩
set_option maxRecDepth 100000 in
theorem room_any (w : World) (x : Dm) (hx : x.Sm) :
    Calls Try.prog 63 #[x.val] w fun e w' => e = .returned (.int .i64 (x.gs - x.cgs - x.own)) ∧ Chg [] w w' := by
  have hS := fun W => share_any W x hx
  have e1 : IntKind.i64.wrap (x.gs - x.cgs - x.own) = x.gs - x.cgs - x.own := IntWalk.i64_in _ (by have := hx.gs; have := hx.cgs; have := hx.own; omega)
  clear hx
  go_enter Try.func63, Try.ntmps63
  go_wp2_with (go_at_call 62; refine (hS _).mono ?_; rintro e w1 ⟨rfl, hc⟩; obtain ⟨_, k0, k1, k2, k3, k4, k5, k6, k7, k8, k9, k10, kf⟩ := x_facts ((Blk.new w 59 x.arr).chg hc (by simp)); have HC := Lib.hid (((Chg.refl [] w).alloc _).then hc); clear hc)
  go_ret
  exact ⟨rfl, HC.out⟩
/-! ### What changes a domain: closures -/
/-- The function f, with what it has caught, makes of each domain that d holds of what h says, and turns nothing else, in each world that ok holds of. -/
def How (N : Nat) (f : Nat) (cs : Array Value) (ok : World → Prop) (d : Dm → Prop) (h : Dm → Dm) : Prop :=
  (∀ v W, (callFunc f (#[v] ++ cs)).run Try.prog W = .ok (.enter f (#[v] ++ cs)) W) ∧
  ∀ (W : World) (B : Nat) (x : Dm), N ≤ B → ok W → Blk W B 59 x.arr → d x → Calls Try.prog f (#[ptr B] ++ cs) W fun e W' => e = .returned (.tuple #[]) ∧ Blk W' B 59 (h x).arr ∧ Chg [B] W W'
set_option maxRecDepth 100000 in
theorem use_used (N M : Nat) (n : Int) (n0 : 0 ≤ n) (n1 : n < 18446744073709551616) : How N 38 #[ptr M] (fun W => Blk W M 22 #[.int .u64 n]) (fun x => 0 ≤ x.used ∧ x.used < 18446744073709551616) (fun x => { x with used := addS x.used n }) := by
  refine ⟨fun v W => by kernel_rfl, fun W B x hN hM hB hx => ?_⟩
  have hS := fun W => num_addS x.used n hx.1 n0 hx.2 n1 W
  have m0 := hM.cell 0
  obtain ⟨lB, k0, k1, k2, k3, k4, k5, k6, k7, k8, k9, k10, kf⟩ := x_facts hB
  have HB := Lib.hid hB
  clear hM hB hx
  go_enter Try.func38, Try.ntmps38
  go_wp2
  go_region_with (go_at_call 39; refine (hS _).mono ?_; rintro e w' ⟨rfl, rfl⟩)
  all_goals
    go_wp2
    go_end0
    refine ⟨rfl, ?_, (Chg.refl _ _).drew.setCell (.inl (by simp)) _⟩
    exact (HB.out.drew.set_ 9 (.int .u64 (addS x.used n)))
set_option maxRecDepth 100000 in
theorem clear_used (N : Nat) : How N 67 #[] (fun _ => True) (fun _ => True) (fun x => { x with used := 0 }) := by
  refine ⟨fun v W => by kernel_rfl, fun W B x hN hM hB hx => ?_⟩
  obtain ⟨lB, k0, k1, k2, k3, k4, k5, k6, k7, k8, k9, k10, kf⟩ := x_facts hB
  have HB := Lib.hid hB
  clear hM hB hx
  go_enter Try.func67, Try.ntmps67
  go_wp2
  go_end0
  refine ⟨rfl, ?_, (Chg.refl _ _).setCell (.inl (by simp)) _⟩
  exact (HB.out.set_ 9 (.int .u64 0))
end Go.Proofs
end
section
namespace Go.Proofs
open Go.RowKit
set_option linter.unusedVariables false
set_option linter.unusedSimpArgs false

set_option maxRecDepth 100000 in
theorem carve_how (N G C : Nat) (gs cpu : Int) : How N 64 #[ptr G, ptr C] (fun W => Blk W G 3 #[.int .i64 gs] ∧ Blk W C 22 #[.int .u64 cpu]) (fun x => (-1000000 ≤ x.cgs + gs ∧ x.cgs + gs ≤ 1000000) ∧ (0 ≤ x.car + cpu ∧ x.car + cpu < 18446744073709551616) ∧ (-1000000 ≤ x.ch + 1 ∧ x.ch + 1 ≤ 1000000)) (fun x => { x with cgs := x.cgs + gs, car := x.car + cpu, ch := x.ch + 1 }) := by
  refine ⟨fun v W => by kernel_rfl, fun W B x hN hM hB hx => ?_⟩
  have e1 : IntKind.i64.wrap (x.cgs + gs) = x.cgs + gs := IntWalk.i64_in _ (by omega)
  have e2 : IntKind.u64.wrap (x.car + cpu) = x.car + cpu := by rw [IntKind.wrap_u64]; omega
  have e3 : IntKind.i64.wrap (x.ch + 1) = x.ch + 1 := IntWalk.i64_in _ (by omega)
  have m0 := hM.1.cell 0
  have m1 := hM.2.cell 0
  have n0 : G ≠ B := Blk.ty hM.1 hB (by decide)
  have n1 : C ≠ B := Blk.ty hM.2 hB (by decide)
  obtain ⟨lB, k0, k1, k2, k3, k4, k5, k6, k7, k8, k9, k10, kf⟩ := x_facts hB
  have HB := Lib.hid hB
  clear hM hB hx
  go_enter Try.func64, Try.ntmps64
  go_wp2
  go_still_tail 8, (by kernel_rfl)
  (try change wpStill _ _ (World.drew _) _ _ _)
  (repeat still_step)
  (try refine wpStill_nil ?_)
  (try change wpList _ _ _ _ _ (World.drew _))
  go_wp2
  go_still_tail 8, (by kernel_rfl)
  (try change wpStill _ _ (World.drew _) _ _ _)
  (repeat still_step)
  (try refine wpStill_nil ?_)
  (try change wpList _ _ _ _ _ (World.drew _))
  go_wp2
  go_end0
  refine ⟨rfl, ?_, ?_⟩
  · exact ((((HB.out.drew.set_ 5 (.int .i64 (x.cgs + gs))).drew).set_ 6 (.int .u64 (x.car + cpu))).set_ 10 (.int .i64 (x.ch + 1)))
  · exact ((((Chg.refl _ _).drew.setCell (.inl (by simp)) _).drew).setCell (.inl (by simp)) _).setCell (.inl (by simp)) _
/-- The table in which what a ref names is as h makes it. -/
def Tab.upd (t : Tab Dm) (i q : Int) (h : Dm → Dm) : Tab Dm := if t.has i q then t.thing i.toNat (h (t.at_ i q)) else t
theorem Tab.upd_yes {t : Tab Dm} {i q : Int} (hq : t.has i q = true) (h : Dm → Dm) : t.upd i q h = t.thing i.toNat (h (t.at_ i q)) := by unfold Tab.upd; rw [if_pos hq]
theorem Tab.upd_no {t : Tab Dm} {i q : Int} (hq : t.has i q = false) (h : Dm → Dm) : t.upd i q h = t := by unfold Tab.upd; rw [hq]; rfl
theorem Tab.WF.thing {t : Tab Dm} (h : t.WF) (i : Nat) (x : Dm) : (t.thing i x).WF := by
  unfold Tab.thing
  cases hs : t.spots[i]? with
  | none => exact h
  | some s => exact h.set hs x
theorem Tab.WF.upd {t : Tab Dm} (h : t.WF) (i q : Int) (f : Dm → Dm) : (t.upd i q f).WF := by
  unfold Tab.upd; split
  · exact h.thing _ _
  · exact h
theorem set_dom {w : World} {c : Nat} {S : List Nat} {t : Tab Dm} (h : DomAt w c S t) {i q : Int} (hq : t.has i q = true) :
    ∃ g, Blk w c 110 #[ptr g] ∧ ∀ S1 W x, Chg S1 w W → c ∉ S1 → (∀ k ∈ S, k ∉ S1) → Calls Try.prog 65 #[ptr g, .agg #[.int .i64 i, .int .u64 q], x.val] W fun e w' => e = .returned (.int .i64 0) ∧ DomAt w' c S (t.thing i.toNat x) ∧ Chg S W w' := by
  obtain ⟨g, hB, hT, hW⟩ := h
  refine ⟨g, hB, fun S1 W x hc h1 h2 => ?_⟩
  refine (set_yes_S (hT.chg hc h2) hW x hq).mono ?_
  rintro e w' ⟨he, h3, h4⟩
  exact ⟨he, ⟨g, (hB.chg hc h1).chg h4 (hT.not_dom hB), h3, hW.thing _ _⟩, h4⟩
set_option maxHeartbeats 1600000 in
set_option maxRecDepth 100000 in
/-- A change of a domain. -/
theorem change_any {w : World} {c : Nat} {S : List Nat} {t : Tab Dm} (h : DomAt w c S t) (i q : Int) (i0 : -9223372036854775808 ≤ i) (i1 : i ≤ 9223372036854775807)
    {N f : Nat} {cs : Array Value} {ok : World → Prop} {d : Dm → Prop} {hf : Dm → Dm} (hH : How N f cs ok d hf) (hN : N ≤ w.heap.size) (hok : ∀ W, Chg [] w W → ok W) (hd : t.has i q = true → d (t.at_ i q)) :
    Calls Try.prog 37 #[ptr c, .agg #[.int .i64 i, .int .u64 q], .func (.func f) #[] cs] w fun e w' => e = .returned (.int .i64 (staleE t i q)) ∧ DomAt w' c S (t.upd i q hf) ∧ Chg S w w' := by
  have HG := Lib.hid (fun W (hW : Chg [] w W) => Get_any (h.quiet hW) i q i0 i1)
  cases hq : t.has i q with
  | false =>
    have e0 : staleE t i q = 11 := by unfold staleE; rw [hq]; rfl
    rw [Tab.upd_no hq, e0]
    rw [e0] at HG
    obtain ⟨x, hx⟩ : ∃ x, x = t.at_ i q := ⟨_, rfl⟩
    rw [← hx] at HG
    clear hx hq e0 hd hH hok
    go_enter Try.func37, Try.ntmps37
    go_wp2_with (go_at_call 27; refine (HG.out _ ((Chg.refl _ _).alloc _)).mono ?_; rintro e w1 ⟨rfl, hc⟩; have HC := Lib.hid (((Chg.refl [] w).alloc _).then hc); clear hc)
    go_ret
    have hcc := HC.out.alloc (obX x)
    exact ⟨rfl, h.quiet hcc, hcc.any⟩
  | true =>
    have e0 : staleE t i q = 0 := by unfold staleE; rw [hq]; rfl
    rw [Tab.upd_yes hq, e0]
    rw [e0] at HG
    obtain ⟨g, hB, hset⟩ := set_dom h hq
    obtain ⟨x, hx⟩ : ∃ x, x = t.at_ i q := ⟨_, rfl⟩
    rw [← hx] at HG ⊢
    have HD := hd hq
    rw [← hx] at HD
    obtain ⟨hrun, hcall⟩ := hH
    have HS := Lib.hid hset
    have HB := Lib.hid hB
    have lS := Lib.hid h.lt
    obtain ⟨y, hy⟩ : ∃ y, y = hf x := ⟨_, rfl⟩
    have HCALL := Lib.hid (fun W B (hN : N ≤ B) (hk : ok W) (hb : Blk W B 59 x.arr) => hcall W B x hN hk hb HD)
    rw [← hy] at HCALL ⊢
    have HOK := Lib.hid hok
    have lc := h.lt c (by simp)
    clear hx hy hq e0 hd hcall hset hB HD hok h
    go_enter Try.func37, Try.ntmps37
    go_wp2_with (go_at_call 27; refine (HG.out _ ((Chg.refl _ _).alloc _)).mono ?_; rintro e w1 ⟨rfl, hc⟩; obtain ⟨lr, b0, b1⟩ := ref_facts (w := w) rfl (Chg.refl [] _) hc; have HC := Lib.hid (((Chg.refl [] w).alloc _).then hc); have HR := Lib.hid ((Blk.new w 34 #[.int .i64 i, .int .u64 q]).chg hc (by simp)); have z1 := hc.size; simp only [World.size_alloc] at z1; clear hc)
    refine (HCALL.out _ w1.heap.size (by omega) (HOK.out _ (HC.out.alloc _)) (Blk.new w1 59 x.arr)).mono ?_
    rintro e w2 ⟨rfl, hb, hc2⟩
    obtain ⟨l2, k0, k1, k2, k3, k4, k5, k6, k7, k8, k9, k10, kf⟩ := x_facts hb
    have hcw : Chg [w1.heap.size] w w2 := ((HC.out.alloc _).any).trans hc2 (fun k hk => .inl hk)
    have HCW := Lib.hid (show Chg [] w w2 from hcw.mono (fun k hk => by simp at hk; subst hk; exact .inr HC.out.size))
    have HR2 := ((HR.out.alloc (obX x)).chg hc2 (by simp; omega))
    have r0 := HR2.cell 0
    have r1 := HR2.cell 1
    have c0 := (HB.out.chg HCW.out (by simp)).cell 0
    clear hb hc2 hcw HR2 b0 b1 HR HCALL
    go_wp2
    go_still_tail 6, (by kernel_rfl)
    (try change wpStill _ _ (World.drew _) _ _ _)
    (repeat still_step)
    (try refine wpStill_nil ?_)
    (try change wpList _ _ _ _ _ (World.drew _))
    go_wp2_with (go_at_call 65; refine (HS.out [] _ y HCW.out.drew (by simp) (by simp)).mono ?_; rintro e w3 ⟨rfl, hD, hc3⟩; have HD3 := Lib.hid hD; have HC3 := Lib.hid hc3; clear hD hc3)
    go_ret
    exact ⟨rfl, HD3.out, HCW.out.drew.any.trans HC3.out (fun k hk => .inl hk)⟩
end Go.Proofs
end
