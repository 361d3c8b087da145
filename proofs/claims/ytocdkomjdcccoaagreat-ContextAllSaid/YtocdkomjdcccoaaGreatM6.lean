import Derived.Test.YtocdkomjdcccoaaGreatM5
import Derived.LaidEqlPtr
section
namespace Go.Proofs
open Go.RowKit
set_option linter.unusedVariables false

theorem find_no_C {w : World} {g : Nat} {S : List Nat} {t : Tab Cx} (h : TabAt w g S t) (hw : t.WF) (i q : Int) (i0 : -9223372036854775808 ≤ i) (i1 : i ≤ 9223372036854775807) (hno : t.has i q = false) :
    Calls Tryz.prog 94 #[.pointer (some ⟨g, 0, none⟩), .agg #[.int .i64 i, .int .u64 q]] w fun e w' => e = .returned (.tuple #[.pointer none, .int .i64 11]) ∧ Chg [] w w' := by
  rcases live_cases t i with ⟨s, hs⟩ | hn
  · have hg : s.gen ≠ q := fun e => by have := has_iff.2 ⟨s, hs, e⟩; rw [hno] at this; cases this
    obtain ⟨q1, q2, q3⟩ := live_some hs
    have HA := fun w' => at_C (w := w') (g := g) (S := S) (t := t) (i := i)
    rw [q1, q2, q3] at HA
    have hb : (s.gen == q) = false := by simpa using hg
    have hb2 : (s.gen != q) = true := by simpa using hg
    clear q1 q2 q3 hg hno hs
    go_enter Tryz.func94, Tryz.ntmps94
    go_wp2_with (first
      | (go_at_call 90; refine (none_C (h.quiet (Chg.alloc (Chg.refl _ _) _)) hw).mono ?_; rintro e w' ⟨rfl, rfl⟩)
      | (go_at_call 115; refine (HA _ (h.quiet (Chg.alloc (Chg.refl _ _) _)) hw i0 i1).mono ?_; rintro e w1 ⟨rfl, hc1⟩; have hz : w.heap.size < w1.heap.size := (by have := hc1.size; simp at this; omega); have k3 := ((Blk.new w 34 _).chg hc1 (by simp)).cell 0; have k4 := ((Blk.new w 34 _).chg hc1 (by simp)).cell 1))
    exact bodyPost_ret (v := .tuple #[.pointer none, .int .i64 11]) (by simp [results, Tryz.results94, go_sem]) rfl ⟨rfl, ((Chg.refl _ _).alloc _).then (hc1.then ((Chg.refl _ _).alloc _))⟩
  · obtain ⟨q1, q2, q3, _⟩ := live_none hn
    have HA := fun w' => at_C (w := w') (g := g) (S := S) (t := t) (i := i)
    rw [q1, q2, q3] at HA
    clear q1 q2 q3 hn hno
    go_enter Tryz.func94, Tryz.ntmps94
    go_wp2_with (first
      | (go_at_call 90; refine (none_C (h.quiet (Chg.alloc (Chg.refl _ _) _)) hw).mono ?_; rintro e w' ⟨rfl, rfl⟩)
      | (go_at_call 115; refine (HA _ (h.quiet (Chg.alloc (Chg.refl _ _) _)) hw i0 i1).mono ?_; rintro e w1 ⟨rfl, hc1⟩; have hz : w.heap.size < w1.heap.size := (by have := hc1.size; simp at this; omega); have k3 := ((Blk.new w 34 _).chg hc1 (by simp)).cell 0; have k4 := ((Blk.new w 34 _).chg hc1 (by simp)).cell 1))
    exact bodyPost_ret (v := .tuple #[.pointer none, .int .i64 11]) (by simp [results, Tryz.results94, go_sem]) rfl ⟨rfl, ((Chg.refl _ _).alloc _).then (hc1.then ((Chg.refl _ _).alloc _))⟩
theorem find_yes_C {w : World} {g : Nat} {S : List Nat} {t : Tab Cx} (h : TabAt w g S t) (hw : t.WF) {k : Nat} {s : Spot Cx} (hs : t.spots[k]? = some s) (hth : s.there = true) {gs n cs : Nat} (hv : w.cell? ⟨g, 2, none⟩ = some (.slice (some ⟨gs, 0, none⟩) n cs)) (hn : n = t.spots.length) :
    Calls Tryz.prog 94 #[.pointer (some ⟨g, 0, none⟩), .agg #[.int .i64 (k : Nat), .int .u64 s.gen]] w fun e w' => e = .returned (.tuple #[.pointer (some ⟨gs, k * 6, none⟩), .int .i64 0]) ∧ Chg [] w w' := by
  obtain ⟨q1, q2, q3⟩ := live_some (live_nat.2 ⟨hs, hth⟩)
  have hk := (List.getElem?_eq_some_iff.1 hs).1
  have hl := hw.len
  have hs1 := hw.s1
  have HA := fun w' => at_C (w := w') (g := g) (S := S) (t := t) (i := (k : Nat))
  rw [q1, q2, q3] at HA
  have lg := h.lt g h.mem
  rw [← hn] at hk hl
  have i0 : (0 : Int) ≤ (k : Int) := by omega
  have i1 : (k : Int) < (n : Int) := by omega
  have HN := Lib.hid hn
  clear q1 q2 q3 hs hth hn
  go_enter Tryz.func94, Tryz.ntmps94
  go_wp2_with (first
    | (go_at_call 90; refine (none_C (h.quiet (Chg.alloc (Chg.refl _ _) _)) hw).mono ?_; rintro e w' ⟨rfl, rfl⟩)
    | (go_at_call 115; refine (HA _ (h.quiet (Chg.alloc (Chg.refl _ _) _)) hw (by omega) (by omega)).mono ?_; rintro e w1 ⟨rfl, hc1⟩; have hz : w.heap.size < w1.heap.size := (by have := hc1.size; simp at this; omega); have lg1 : g < w1.heap.size := (by omega); have k3 := ((Blk.new w 34 _).chg hc1 (by simp)).cell 0; have k4 := ((Blk.new w 34 _).chg hc1 (by simp)).cell 1; have k5 : w1.cell? ⟨g, 2, none⟩ = some (.slice (some ⟨gs, 0, none⟩) n cs) := (hc1.cell (p := ⟨g, 2, none⟩) (by simp; omega) (by simp)).trans ((World.cell?_alloc_lt w _ _ lg).trans hv)))
  go_quiet (fail)
  go_wp2
  exact bodyPost_ret (v := .tuple #[.pointer (some ⟨gs, k * 6, none⟩), .int .i64 0]) (by simp [results, Tryz.results94, go_sem]) rfl ⟨rfl, ((Chg.refl _ _).alloc _).then (hc1.then (((Chg.refl _ _).alloc _).drewN _))⟩

/-- What there is of the boxes behind a call that turned nothing. -/
theorem box2 {w w1 : World} {a b : Obj} {t : TypeId} {cs : Array Value} (hb : b = .cells cs t) (hc : Chg [] ((w.alloc a).alloc b) w1) :
    Blk w1 (w.heap.size + 1) t cs := by
  subst hb
  have := (Blk.new (w.alloc a) t cs).chg hc (by simp)
  simpa using this
theorem chg_box {w w1 : World} (h : Chg [] w w1) (o : Nat) (x : Cx) : Chg [] w (put4 w1 (w.heap.size + 1) o x) := chg_put4 h (.inr (by omega)) o x
set_option maxRecDepth 100000 in
theorem get_no_C {w : World} {g : Nat} {S : List Nat} {t : Tab Cx} (h : TabAt w g S t) (hw : t.WF) (i q : Int) (i0 : -9223372036854775808 ≤ i) (i1 : i ≤ 9223372036854775807) (hno : t.has i q = false) :
    Calls Tryz.prog 62 #[.pointer (some ⟨g, 0, none⟩), .agg #[.int .i64 i, .int .u64 q]] w fun e w' => e = .returned (.tuple #[cx0.val, .int .i64 11]) ∧ Chg [] w w' := by
  have HA := fun w' h' => find_no_C (w := w') (g := g) (S := S) (t := t) h' hw i q i0 i1 hno
  clear hno
  go_enter Tryz.func62, Tryz.ntmps62
  go_wp2_with (go_at_call 94; refine (HA _ (h.quiet (((Chg.refl _ _).alloc _).alloc _))).mono ?_; rintro e w1 ⟨rfl, hc1⟩; have hz : w.heap.size + 1 < w1.heap.size := (by have := hc1.size; simp at this; omega); have HC := Lib.hid (((Chg.refl [] w).alloc _).alloc _ |>.then hc1); have hB1 := (box2 rfl hc1); have k0 := hB1.cell 0; have k1 := hB1.cell 1; have k2 := hB1.cell 2; have k3 := hB1.cell 3; have f0 := hB1.frozen; clear hB1 hc1)
  refine bodyPost_ret (v := .tuple #[cx0.val, .int .i64 11]) ?_ rfl ⟨rfl, (chg_box HC.out 0 cx0).alloc _⟩
  simp [results, Tryz.results62, go_sem, cx0, Cx.val, hz, k0, k1, k2, k3]
set_option maxRecDepth 100000 in
theorem get_yes_C {w : World} {g : Nat} {S : List Nat} {t : Tab Cx} (h : TabAt w g S t) (hw : t.WF) {i q : Int} {s : Spot Cx} (hq : t.has i q = true) (hl : t.live i = some s) :
    Calls Tryz.prog 62 #[.pointer (some ⟨g, 0, none⟩), .agg #[.int .i64 i, .int .u64 q]] w fun e w' => e = .returned (.tuple #[s.thing.val, .int .i64 0]) ∧ Chg [] w w' := by
  obtain ⟨k, s', gs, cs, VF, rfl, rfl, hs, hth, hk, hB, hS, hF, hSS⟩ := has_form h hq
  have e := (live_nat.1 hl).1
  rw [hs] at e
  obtain rfl : s' = s := by injection e
  have HA := fun w' h' => find_yes_C (w := w') (g := g) (S := S) (t := t) h' hw hs hth (gs := gs) (cs := cs) (n := t.spots.length)
  obtain ⟨gs', cs', hv, _, _, hgs, _, _, _, a2, a3, a4, a5, _⟩ := TabAt.open_spot hS hs
  simp only [Value.slice.injEq, Option.some.injEq, Addr.mk.injEq] at hv
  obtain ⟨⟨rfl, _⟩, _, _⟩ := hv
  obtain ⟨x, hx⟩ : ∃ x, x = s'.thing := ⟨_, rfl⟩
  rw [← hx] at a2 a3 a4 a5
  rw [← hx]
  have hB' := Lib.hid hB
  clear hS hF hSS hl hq hs hth hB hx e
  go_enter Tryz.func62, Tryz.ntmps62
  go_wp2_with (go_at_call 94; refine (HA _ (h.quiet (((Chg.refl _ _).alloc _).alloc _)) (((hB'.out.alloc _).alloc _).cell 2) rfl).mono ?_; rintro e w1 ⟨rfl, hc1⟩; have hz : w.heap.size + 1 < w1.heap.size := (by have := hc1.size; simp at this; omega); have lgs1 : gs < w1.heap.size := (by omega); have HC := Lib.hid (((Chg.refl [] w).alloc _).alloc _ |>.then hc1); have hB1 := (box2 rfl hc1); have k0 := hB1.cell 0; have k1 := hB1.cell 1; have k2 := hB1.cell 2; have k3 := hB1.cell 3; have f0 := hB1.frozen; have kk : ∀ o, w1.cell? ⟨gs, o, none⟩ = w.cell? ⟨gs, o, none⟩ := (fun o => HC.out.cell (p := ⟨gs, o, none⟩) hgs (by simp)); rw [← kk] at a2 a3 a4 a5; clear hB1 hc1 kk)
  refine bodyPost_ret (v := .tuple #[x.val, .int .i64 0]) ?_ rfl ⟨rfl, chg_box HC.out 0 _⟩
  simp [results, Tryz.results62, go_sem, Cx.val, k0, k1, k2, k3]
end Go.Proofs
end
section
namespace Go.Proofs
open Go.RowKit
set_option linter.unusedVariables false

set_option maxRecDepth 100000 in
theorem set_no_C {w : World} {g : Nat} {S : List Nat} {t : Tab Cx} (h : TabAt w g S t) (hw : t.WF) (i q : Int) (x : Cx) (i0 : -9223372036854775808 ≤ i) (i1 : i ≤ 9223372036854775807) (hno : t.has i q = false) :
    Calls Tryz.prog 76 #[.pointer (some ⟨g, 0, none⟩), .agg #[.int .i64 i, .int .u64 q], x.val] w fun e w' => e = .returned (.int .i64 11) ∧ Chg [] w w' := by
  have HA := fun w' h' => find_no_C (w := w') (g := g) (S := S) (t := t) h' hw i q i0 i1 hno
  clear hno
  go_enter Tryz.func76, Tryz.ntmps76
  go_wp2_with (go_at_call 94; refine (HA _ (h.quiet (((Chg.refl _ _).alloc _).alloc _))).mono ?_; rintro e w1 ⟨rfl, hc1⟩)
  go_ret
  exact ⟨rfl, (((Chg.refl _ _).alloc _).alloc _).then hc1⟩
set_option maxRecDepth 100000 in
theorem set_yes_C {w : World} {g : Nat} {S : List Nat} {t : Tab Cx} (h : TabAt w g S t) (hw : t.WF) {i q : Int} (x : Cx) (hq : t.has i q = true) :
    Calls Tryz.prog 76 #[.pointer (some ⟨g, 0, none⟩), .agg #[.int .i64 i, .int .u64 q], x.val] w fun e w' => e = .returned (.int .i64 0) ∧ Turns g S (t.thing i.toNat x) w w' := by
  obtain ⟨k, s, gs, cs, VF, rfl, rfl, hs, hth, hk, hB, hS, hF, hSS⟩ := has_form h hq
  have HA := fun w' h' => find_yes_C (w := w') (g := g) (S := S) (t := t) h' hw hs hth (gs := gs) (cs := cs) (n := t.spots.length)
  subst hSS
  obtain ⟨gs', cs', hv, _, _, hgs, _, _, _, a2, a3, a4, a5, f⟩ := TabAt.open_spot hS hs
  simp only [Value.slice.injEq, Option.some.injEq, Addr.mk.injEq] at hv
  obtain ⟨⟨rfl, _⟩, _, _⟩ := hv
  have HT := fun (w1 : World) (hc : Chg [] w w1) => Turns.thing hB hS hF hs x hc
  rw [show t.thing ((k : Nat) : Int).toNat x = { t with spots := t.spots.set k { s with thing := x } } by unfold Tab.thing; simp [hs]]
  have HH := Lib.hid HT
  have hB' := Lib.hid hB
  clear hS hF hq hs hth hB HT
  go_enter Tryz.func76, Tryz.ntmps76
  go_wp2_with (go_at_call 94; refine (HA _ (h.quiet (((Chg.refl _ _).alloc _).alloc _)) (((hB'.out.alloc _).alloc _).cell 2) rfl).mono ?_; rintro e w1 ⟨rfl, hc1⟩; have hz : w.heap.size + 1 < w1.heap.size := (by have := hc1.size; simp at this; omega); have lgs1 : gs < w1.heap.size := (by omega); have HC := Lib.hid (((Chg.refl [] w).alloc _).alloc _ |>.then hc1); have hB1 := (box2 rfl hc1); have k0 := hB1.cell 0; have k1 := hB1.cell 1; have k2 := hB1.cell 2; have k3 := hB1.cell 3; have kk : ∀ o, w1.cell? ⟨gs, o, none⟩ = w.cell? ⟨gs, o, none⟩ := (fun o => HC.out.cell (p := ⟨gs, o, none⟩) hgs (by simp)); have kf : ∀ o, w1.frozen? ⟨gs, o, none⟩ = false := (fun o => (HC.out.frozen (p := ⟨gs, o, none⟩) hgs (by simp)).trans (f o)); rw [← kk] at a2 a3 a4 a5; clear hB1 hc1 kk f)
  go_ret
  exact ⟨rfl, HH.out _ HC.out⟩
theorem drop_no_C {w : World} {g : Nat} {S : List Nat} {t : Tab Cx} (h : TabAt w g S t) (hw : t.WF) (i q : Int) (i0 : -9223372036854775808 ≤ i) (i1 : i ≤ 9223372036854775807) (hno : t.has i q = false) :
    Calls Tryz.prog 58 #[.pointer (some ⟨g, 0, none⟩), .agg #[.int .i64 i, .int .u64 q]] w fun e w' => e = .returned (.int .i64 11) ∧ Chg [] w w' := by
  have HA := fun w' h' => find_no_C (w := w') (g := g) (S := S) (t := t) h' hw i q i0 i1 hno
  clear hno
  go_enter Tryz.func58, Tryz.ntmps58
  go_wp2_with (go_at_call 94; refine (HA _ (h.quiet (Chg.alloc (Chg.refl _ _) _))).mono ?_; rintro e w1 ⟨rfl, hc1⟩)
  go_ret
  exact ⟨rfl, ((Chg.refl _ _).alloc _).then hc1⟩
theorem Tryz.num_info_C : (Tryz.prog.info? 3).map (fun i => (i.zero, i.size, i.bytes)) = some (some (.int .i64 0), 1, 8) := by kernel_rfl
set_option maxRecDepth 100000 in
set_option maxHeartbeats 1600000 in
theorem drop_yes_C {w : World} {g : Nat} {S : List Nat} {t : Tab Cx} (h : TabAt w g S t) (hw : t.WF) {i q : Int} (hq : t.has i q = true) (hr : q + 1 < topG) :
    Calls Tryz.prog 58 #[.pointer (some ⟨g, 0, none⟩), .agg #[.int .i64 i, .int .u64 q]] w fun e w' => e = .returned (.int .i64 0) ∧ Turns g S (t.drop cx0 i.toNat q) w w' := by
  obtain ⟨k, s, gs, cs, VF, rfl, rfl, hs, hth, hk, hB, hS, hF, hSS⟩ := has_form h hq
  have HA := fun w' h' => find_yes_C (w := w') (g := g) (S := S) (t := t) h' hw hs hth (gs := gs) (cs := cs) (n := t.spots.length)
  subst hSS
  obtain ⟨gs', cs', hv, _, _, hgs, _, a0, a1, a2, a3, a4, a5, f⟩ := TabAt.open_spot hS hs
  simp only [Value.slice.injEq, Option.some.injEq, Addr.mk.injEq] at hv
  obtain ⟨⟨rfl, _⟩, _, _⟩ := hv
  have f0 := f (k * 6)
  have f1 := f (k * 6 + 1)
  have f2 := f (k * 6 + 2)
  have f3 := f (k * 6 + 3)
  have f4 := f (k * 6 + 4)
  have f5 := f (k * 6 + 5)
  obtain ⟨g1, g2, g3⟩ := hw.gens k s hs
  have g4 := g3 hth
  have g0 := hw.f0
  rw [topG_val] at g4
  obtain ⟨r0, r1⟩ := hw.ret_bd
  have hl := hw.len
  have hs1 := hw.s1
  have hfl := hw.freed_len
  have hg : g ≠ gs := by have := hS.ty hB (by decide); simpa [foot_some] using this
  have lg := hB.lt
  rw [show ((k : Nat) : Int).toNat = k from rfl]
  have e1 : IntKind.u64.wrap (s.gen + 1) = s.gen + 1 := by rw [IntKind.wrap_u64]; omega
  obtain ⟨ni, hi0, hz0, hz1, hz2⟩ := info_parts Tryz.num_info_C
  have hfg : gs ∉ foot VF := fun h => hS.ty2 hF (by decide) gs (by simp [foot_some]) h
  have hgf : VF.ownBlock ≠ some g := fun e => hF.ty hB (by decide) (row_mem e)
  have HT := fun (w1 w2 : World) (gg cap : Nat) (o : Obj) (hc : Chg [] w w1) => Turns.freed (s := ⟨s.gen + 1, false, cx0⟩) (w1 := w1) (w2 := w2) (gg := gg) (cap := cap) (o := o) hB hS hF hk hc
  rw [show t.drop cx0 k s.gen = { t with spots := t.spots.set k ⟨s.gen + 1, false, cx0⟩, freed := t.freed ++ [k] } by unfold Tab.drop; rw [if_neg (by omega), if_neg (by omega)]]
  have HH := Lib.hid HT
  have hB' := Lib.hid hB
  have HB3 : ∀ w1, Chg [] w w1 → Blk (put4 ((w1.setCell ⟨gs, k * 6, none⟩ (.int .u64 (s.gen + 1))).setCell ⟨gs, k * 6 + 1, none⟩ (.bool false)) gs (k * 6 + 2) cx0) g 108 #[.int .i64 t.size, .int .u64 t.first, .slice (some ⟨gs, 0, none⟩) t.spots.length cs, VF, .int .i64 t.retired] :=
    fun w1 hc => (((hB.chg hc (by simp)).far hg _).far hg _).far4 hg _ _
  have HF3 : ∀ w1, Chg [] w w1 → Row (put4 ((w1.setCell ⟨gs, k * 6, none⟩ (.int .u64 (s.gen + 1))).setCell ⟨gs, k * 6 + 1, none⟩ (.bool false)) gs (k * 6 + 2) cx0) 3 1 VF t.freed.length (numCells t.freed) :=
    fun w1 hc => (((hF.chg hc (fun _ _ h => by cases h)).far hfg _).far hfg _).far4 hfg _ _
  have hnew : ∀ (W : World) (n : Nat) (o : Obj), n = W.heap.size → (W.alloc o).heap[n]? = some o := by rintro W n o rfl; exact heap_alloc_new W o
  obtain ⟨A', c', hVF, _⟩ := hF.val
  rw [topG_val] at hr
  have e2 : ¬ 18446744073709551614 < s.gen + 1 := by omega
  have b3 := hB.cell 3
  have q3 := hB.frozen 3
  have lf : t.freed.length + 1 ≤ 4097 := by omega
  have H3 := Lib.hid HB3
  have H4 := Lib.hid HF3
  have H5 := Lib.hid hnew
  have H6 := Lib.hid hVF
  have H7 := Lib.hid hgf
  clear hS hF hq hs hth hB f HT g1 g2 g3 HB3 HF3 hnew hVF hgf
  go_enter Tryz.func58, Tryz.ntmps58
  go_wp2_with (go_at_call 94; refine (HA _ (h.quiet (Chg.alloc (Chg.refl _ _) _)) ((hB'.out.alloc _).cell 2) rfl).mono ?_; rintro e w1 ⟨rfl, hc1⟩; have hz : w.heap.size < w1.heap.size := (by have := hc1.size; simp at this; omega); have lgs1 : gs < w1.heap.size := (by omega); have lg1 : g < w1.heap.size := (by omega); have kk : ∀ b o, b < w.heap.size → w1.cell? ⟨b, o, none⟩ = w.cell? ⟨b, o, none⟩ := (fun b o hb => (hc1.cell (p := ⟨b, o, none⟩) (by simp; omega) (by simp)).trans (World.cell?_alloc_past _ _ _ hb)); have kf : ∀ b o, b < w.heap.size → w1.frozen? ⟨b, o, none⟩ = w.frozen? ⟨b, o, none⟩ := (fun b o hb => (hc1.frozen (p := ⟨b, o, none⟩) (by simp; omega) (by simp)).trans (World.frozen?_of_block (w := w) (Below.heap_alloc w _ b hb))); have k3 := ((Blk.new w 34 _).chg hc1 (by simp)).cell 0; have k4 := ((Blk.new w 34 _).chg hc1 (by simp)).cell 1)
  have hcc := ((Chg.refl [] w).alloc (.cells #[.int .i64 k, .int .u64 s.gen] 34)).then hc1
  have j3 := (kk g 3 lg).trans b3
  have j4 := (kf g 3 lg).trans q3
  clear e1 e2 g4 hr g0 kk kf b3 q3 a0 a1 a2 a3 a4 a5 f0 f1 f2 f3 f4 f5 h HA
  go_region_law
    ((refine step_append_row _ (by rfl) _ _ _ (by rfl) 3 ni _ 1 8 Tryz.underlying106 hi0 hz0 hz1 hz2 rfl VF t.freed.length (numCells t.freed) (by rfl) (((H4.out _ hcc).alloc _).drew) ⟨w1.heap.size, 0, none⟩ 1 1 [.int .i64 (k : Nat)] (by rfl) (by rfl) (World.news_of_block (cs := #[.int .i64 (k : Nat)]) (t := 3) (fr := (0, 0)) (H5.out _ _ _ (by simp))) (by simp [Value.oneCell']) (by omega) (by unfold maxLen; omega) (by omega) (w1.heap.size + 1) (by simp) ?_; intro gg cap w2 hown hgrow hat hlt1; have y2 := (hgrow.cell_far ⟨g, 3, none⟩ (by simp; omega) (Ne.symm H7.out)).trans (((H3.out _ hcc).alloc _).drew.cell 3); have y3 := (hgrow.frozen_far ⟨g, 3, none⟩ (by simp; omega) (Ne.symm H7.out)).trans (((H3.out _ hcc).alloc _).drew.frozen 3)))
  all_goals
    have HT := Lib.hid (HH.out _ _ _ _ _ hcc hown hgrow hat)
    go_wp2
    go_ret
    exact ⟨rfl, HT.out⟩
end Go.Proofs
end
section
namespace Go.Proofs
open Go.RowKit
set_option linter.unusedVariables false

theorem open_put_C {w : World} {g : Nat} {S : List Nat} {t : Tab Cx} (h : TabAt w g S t) {k : Nat} {s : Spot Cx} (hs : t.spots[k]? = some s) :
    ∃ gs n cs, w.cell? ⟨g, 2, none⟩ = some (.slice (some ⟨gs, 0, none⟩) n cs) ∧ k < n ∧ w.cell? ⟨gs, k * 6, none⟩ = some (.int .u64 s.gen) ∧ w.cell? ⟨gs, k * 6 + 1, none⟩ = some (.bool s.there) ∧
      (∃ u2 u3 u4 u5, w.cell? ⟨gs, k * 6 + 2, none⟩ = some u2 ∧ w.cell? ⟨gs, k * 6 + 3, none⟩ = some u3 ∧ w.cell? ⟨gs, k * 6 + 4, none⟩ = some u4 ∧ w.cell? ⟨gs, k * 6 + 5, none⟩ = some u5) ∧
      (∀ j, w.frozen? ⟨gs, j, none⟩ = false) ∧ gs ∈ S ∧ gs < w.heap.size ∧ g ≠ gs ∧
      ∀ x, TabAt (put4 (w.setCell ⟨gs, k * 6 + 1, none⟩ (.bool true)) gs (k * 6 + 2) x) g S { t with spots := t.spots.set k ⟨s.gen, true, x⟩ } := by
  obtain ⟨VS, VF, hB, hS, hF, rfl⟩ := h
  obtain ⟨gs, cs, rfl, hft, _, hlt, hk, a0, a1, a2, a3, a4, a5, hfz⟩ := TabAt.open_spot hS hs
  have hg : g ≠ gs := by have := hS.ty hB (by decide); simpa [foot_some] using this
  have hfg : gs ∉ foot VF := fun h => hS.ty2 hF (by decide) gs (by simp [foot_some]) h
  refine ⟨gs, _, cs, hB.cell 2, hk, a0, a1, ⟨_, _, _, _, a2, a3, a4, a5⟩, hfz, by simp [foot_some], hlt, hg, fun x => ?_⟩
  refine ⟨.slice (some ⟨gs, 0, none⟩) t.spots.length cs, VF, (hB.far hg _).far4 hg _ _, ?_, (hF.far hfg _).far4 hfg _ _, rfl⟩
  have := hS.come hs x
  simpa using this
theorem off_box_C {S S1 : List Nat} {B H gs : Nat} (hB : B ∉ S) (hH : B < H) (hsub : ∀ k ∈ S1, k ∈ S ∨ H ≤ k) (hm : gs ∈ S1) : gs ≠ B := by
  rintro rfl
  rcases hsub _ hm with h | h
  · exact hB h
  · omega
set_option maxRecDepth 100000 in
theorem put_full_C {w : World} {g : Nat} {S : List Nat} {t : Tab Cx} (h : TabAt w g S t) (hw : t.WF) (hf : t.frees = 0) (x : Cx) :
    Calls Tryz.prog 53 #[.pointer (some ⟨g, 0, none⟩), x.val] w fun e w' => e = .returned (.tuple #[.agg #[.int .i64 0, .int .u64 0], .int .i64 3]) ∧ Chg [] w w' := by
  have HA := fun w' h' => free_C (w := w') (g := g) (S := S) (t := t) h' hw
  rw [hf] at HA
  clear hf
  go_enter Tryz.func53, Tryz.ntmps53
  go_wp2_with (first
    | (go_at_call 90; refine (none_C (h.quiet (((Chg.refl _ _).alloc _).alloc _)) hw).mono ?_; rintro e w' ⟨rfl, rfl⟩)
    | (go_at_call 89; refine (HA _ (h.quiet (((Chg.refl _ _).alloc _).alloc _))).mono ?_; rintro e w' ⟨rfl, nq, rfl⟩))
  exact bodyPost_ret (v := .tuple #[.agg #[.int .i64 0, .int .u64 0], .int .i64 3]) (by simp [results, Tryz.results53, go_sem]) rfl ⟨rfl, (((((Chg.refl _ _).alloc _).alloc _).drewN _).setCell (p := ⟨w.heap.size + 1, 0, none⟩) (.inr (by simp)) _).setCell (p := ⟨w.heap.size + 1, 1, none⟩) (.inr (by simp)) _⟩
set_option maxRecDepth 100000 in
set_option maxHeartbeats 1600000 in
theorem put_ok_C {w : World} {g : Nat} {S : List Nat} {t : Tab Cx} (h : TabAt w g S t) (hw : t.WF) (hf : t.frees ≠ 0) (x : Cx) :
    Calls Tryz.prog 53 #[.pointer (some ⟨g, 0, none⟩), x.val] w fun e w' => e = .returned (.tuple #[.agg #[.int .i64 (t.takeAt : Nat), .int .u64 (t.genAt t.takeAt)], .int .i64 0]) ∧ Turns g S (t.put cx0 x) w w' := by
  have HF := fun w' h' => free_C (w := w') (g := g) (S := S) (t := t) h' hw
  have HT := fun w' h' => take_C (w := w') (g := g) (S := S) (t := t) h' hw hf
  obtain ⟨s, hs, hth, _, _, _, _, hg, hlt⟩ := hw.take_at (z := cx0) hf
  have hs1 := hw.s1
  have hb : (t.frees == 0) = false := by simpa using hf
  have HP := put_eq (z := cx0) hw hf x
  rw [← hg] at HP
  have HO := fun w' S' h' => open_put_C (w := w') (g := g) (S := S') (t := t.take cx0) h' hs
  rw [hth] at HO
  rw [← hg, HP]
  obtain ⟨k, hk⟩ : ∃ k, k = t.takeAt := ⟨_, rfl⟩
  rw [← hk] at HT HO hlt ⊢
  obtain ⟨q, hq⟩ : ∃ q, q = s.gen := ⟨_, rfl⟩
  rw [← hq] at HO ⊢
  have hS := h.lt
  have hbx : w.heap.size ∉ S := fun hm => by have := hS _ hm; omega
  have hbx2 : w.heap.size + 1 ∉ S := fun hm => by have := hS _ hm; omega
  have HbS := Lib.hid hS
  have Hbx := Lib.hid hbx
  have Hbx2 := Lib.hid hbx2
  have Hh := Lib.hid h
  clear hs hth hg hf HP hk hq hS hbx hbx2
  go_enter Tryz.func53, Tryz.ntmps53
  go_wp2_with (first
    | (go_at_call 90; refine (none_C (h.quiet (((Chg.refl _ _).alloc _).alloc _)) hw).mono ?_; rintro e w' ⟨rfl, rfl⟩)
    | (go_at_call 89; refine (HF _ (h.quiet (((Chg.refl _ _).alloc _).alloc _))).mono ?_; rintro e w' ⟨rfl, nq, rfl⟩)
    | (go_at_call 91; refine (HT _ (h.quiet ((((Chg.refl _ _).alloc _).alloc _).drewN _))).mono ?_; rintro e w1 ⟨rfl, S1, hT1, hsub, hc1⟩; obtain ⟨gs, n, cs, c2, hk, a0, a1, ⟨u2, u3, u4, u5, a2, a3, a4, a5⟩, f, hm, lgs, hne, HX⟩ := HO _ _ hT1; have i0 : (0 : Int) ≤ (k : Int) := (by omega); have i1 : (k : Int) < (n : Int) := (by omega); have hB0 := ((((Blk.new w 43 #[.int .u64 x.b, .int .u64 x.p, .slice x.a x.m x.c, .int .i64 x.n]).alloc (.cells #[.int .i64 0, .int .u64 0] 34)).drewN nq).chg hc1 Hbx.out); have hB1 := (((Blk.at (w.alloc (.cells #[.int .u64 x.b, .int .u64 x.p, .slice x.a x.m x.c, .int .i64 x.n] 43)) 34 #[.int .i64 0, .int .u64 0] (n := w.heap.size + 1) (by simp)).drewN nq).chg hc1 Hbx2.out); have x0 := hB0.cell 0; have x1 := hB0.cell 1; have x2 := hB0.cell 2; have x3 := hB0.cell 3; have b0 := hB1.cell 0; have b1 := hB1.cell 1; have p0 := hB1.frozen 0; have p1 := hB1.frozen 1; have f1 := f (k * 6 + 1); have f2 := f (k * 6 + 2); have f3 := f (k * 6 + 3); have f4 := f (k * 6 + 4); have f5 := f (k * 6 + 5); have hng : gs ≠ w.heap.size + 1 := off_box_C Hbx2.out (by simp) hsub hm; have hng0 : gs ≠ w.heap.size := off_box_C Hbx.out (by simp; omega) hsub hm; have H1 := Lib.hid hT1; have H2 := Lib.hid hsub; have H3 := Lib.hid hc1; have H4 := Lib.hid HX; have H5 := Lib.hid hm; clear hT1 hsub hc1 HX hm f))
  go_region
  go_wp2
  refine bodyPost_ret (v := .tuple #[.agg #[.int .i64 (k : Nat), .int .u64 q], .int .i64 0]) (by simp [results, Tryz.results53, go_sem, b0, b1]) rfl ⟨rfl, ?_⟩
  have hsub := H2.out
  have hbx : w.heap.size + 1 ∉ S1 := fun hm => by
    rcases hsub _ hm with h9 | h9
    · exact Hbx2.out h9
    · simp at h9; omega
  refine ⟨S1, (((H4.out x).far (p := ⟨w.heap.size + 1, 0, none⟩) hbx _).far (p := ⟨w.heap.size + 1, 1, none⟩) hbx _).quiet (Chg.refl _ _).drew, fun j hj => ?_, ?_⟩
  · rcases hsub j hj with h9 | h9
    · exact .inl h9
    · simp at h9; exact .inr (by omega)
  · have h0 : Chg S w w1 := ((((Chg.refl S w).alloc _).alloc _).drewN nq).trans H3.out (fun _ hk => .inl hk)
    have hgs : gs ∈ S ∨ w.heap.size ≤ gs := by
      rcases hsub gs H5.out with h9 | h9
      · exact .inl h9
      · simp at h9; exact .inr (by omega)
    exact (((chg_put4 (h0.setCell (p := ⟨gs, k * 6 + 1, none⟩) hgs _) hgs _ _).setCell (p := ⟨w.heap.size + 1, 0, none⟩) (.inr (by simp)) _).setCell (p := ⟨w.heap.size + 1, 1, none⟩) (.inr (by simp)) _).drew

theorem new_no_C {w : World} (size first : Int) (f0 : 0 ≤ first) (h : mayT size first = false) :
    Calls Tryz.prog 33 #[.int .i64 size, .int .u64 first] w fun e w' => e = .returned (.tuple #[.pointer none, .int .i64 2]) ∧ w = w' := by
  have h' : ¬ (1 ≤ size ∧ size ≤ 4096 ∧ 1 ≤ first ∧ first < topG) := fun hh => by rw [mayT_iff.2 hh] at h; cases h
  rw [topG_val] at h'
  clear h
  by_cases a : size < 1
  · go_enter Tryz.func33, Tryz.ntmps33
    go_wp2
    go_ret2
    exact ⟨rfl, rfl⟩
  · by_cases b : 4096 < size
    · go_enter Tryz.func33, Tryz.ntmps33
      go_wp2
      go_ret2
      exact ⟨rfl, rfl⟩
    · by_cases c : first < 1
      · go_enter Tryz.func33, Tryz.ntmps33
        go_wp2
        go_ret2
        exact ⟨rfl, rfl⟩
      · have d : 18446744073709551614 < first := by omega
        clear h'
        go_enter Tryz.func33, Tryz.ntmps33
        go_wp2
        go_ret2
        exact ⟨rfl, rfl⟩
theorem new_ok_C {w : World} (size first : Int) (h : mayT size first = true) :
    Calls Tryz.prog 33 #[.int .i64 size, .int .u64 first] w fun e w' => e = .returned (.tuple #[.pointer (some ⟨w.heap.size, 0, none⟩), .int .i64 0]) ∧
      TabAt w' w.heap.size [w.heap.size] ⟨size, first, [], [], 0⟩ ∧ Chg [] w w' := by
  obtain ⟨a, b, c, d⟩ := mayT_iff.1 h
  rw [topG_val] at d
  have d' : ¬ 18446744073709551614 < first := by omega
  clear h
  go_enter Tryz.func33, Tryz.ntmps33
  go_wp2
  go_ret2
  refine ⟨rfl, ⟨.slice none 0 0, .slice none 0 0, Blk.new w _ _, Row.nil _ _ _, Row.nil _ _ _, rfl⟩, (Chg.refl _ _).alloc _⟩
theorem retired_C {w : World} {g : Nat} {S : List Nat} {t : Tab Cx} (h : TabAt w g S t) :
    Calls Tryz.prog 111 #[.pointer (some ⟨g, 0, none⟩)] w fun e w' => e = .returned (.int .i64 t.retired) ∧ w = w' := by
  obtain ⟨VS, VF, hB, hS, hF, rfl⟩ := h
  have c0 := hB.cell 4
  clear hB hS hF
  go_enter Tryz.func111, Tryz.ntmps111
  go_wp2
  go_ret
  exact ⟨rfl, rfl⟩
theorem len_C {w : World} {g : Nat} {S : List Nat} {t : Tab Cx} (h : TabAt w g S t) (hw : t.WF) :
    Calls Tryz.prog 77 #[.pointer (some ⟨g, 0, none⟩)] w fun e w' => e = .returned (.int .i64 (t.size - t.frees - t.retired)) ∧ ∃ n, w' = w.drewN n := by
  have s0 := hw.s0
  have s1 := hw.s1
  have l := hw.len
  have lf := hw.freed_len
  obtain ⟨r0, r1⟩ := hw.ret_bd
  have e0 : t.frees = t.size - t.spots.length + t.freed.length := rfl
  have e1 : -10000 ≤ t.size - t.frees := by omega
  have e2 : t.size - t.frees ≤ 10000 := by omega
  have e3 : t.retired ≤ 4096 := by omega
  clear e0 l lf r1
  go_enter Tryz.func77, Tryz.ntmps77
  go_wp2_with (first
    | (go_at_call 61; refine (size_C h).mono ?_; rintro e w' ⟨rfl, rfl⟩)
    | (go_at_call 89; refine (free_C h hw).mono ?_; rintro e w' ⟨rfl, nq, rfl⟩)
    | (go_at_call 111; refine (retired_C (h.quiet (Chg.drewN (Chg.refl _ _) _))).mono ?_; rintro e w' ⟨rfl, rfl⟩))
  go_ret
  exact ⟨rfl, _, rfl⟩
end Go.Proofs
end
section
namespace Go.Proofs
open Go.RowKit
set_option linter.unusedVariables false

theorem sumP_due {l : List Rf} (now : Int) : sumP (dueL l now) = sumP l := by
  unfold dueL
  split
  · rfl
  · have := sumP_append (l.take (dueN l now)) (l.drop (dueN l now))
    rw [List.take_append_drop] at this
    simp only [sumP]; omega
theorem Ok.dec {a t : Int} {r : List Rf} {m : Int} (h : Ok ((a, t) :: r)) (h0 : 0 ≤ m) (h1 : m ≤ a) : Ok (decP ((a, t) :: r) m) := by
  rw [decP_cons]
  split
  · exact h.tail
  · have := h.head
    simp only at this
    exact Ok.cons ⟨by omega, by have := this.1.2; omega⟩ this.2 h.tail
theorem sumP_dec (a t : Int) (r : List Rf) (m : Int) : sumP (decP ((a, t) :: r) m) = sumP ((a, t) :: r) - m := by
  rw [decP_cons]
  split
  · rename_i e; simp only [sumP]; omega
  · simp only [sumP]; omega
theorem dec_len (a t : Int) (r : List Rf) (m : Int) : (decP ((a, t) :: r) m).length ≤ r.length + 1 := by
  rw [decP_cons]
  split <;> simp
/-- Can one be used? -/
def canP (l : List Rf) (now per most : Int) : Prop := holdsP l most = true ∧ per ≠ 0 ∧ now + per < 18446744073709551616 ∧ mayP l = true ∧ 1 ≤ thereP l now
instance (l : List Rf) (now per most : Int) : Decidable (canP l now per most) := by unfold canP; infer_instance
/-- The list behind one is used. -/
def useP (l : List Rf) (now per most : Int) : List Rf := backP (decP (dueL l now) 1) (now + per) most
def chargeP (l : List Rf) (now per most : Int) : List Rf × Bool := if canP l now per most then (useP l now per most, true) else ([], false)
theorem chargeP_no {l : List Rf} {now per most : Int} (h : ¬ canP l now per most) : chargeP l now per most = ([], false) := by unfold chargeP; rw [if_neg h]
theorem chargeP_yes {l : List Rf} {now per most : Int} (h : canP l now per most) : chargeP l now per most = (useP l now per most, true) := by unfold chargeP; rw [if_pos h]
set_option maxHeartbeats 6400000 in
set_option maxRecDepth 100000 in
theorem charge_any {w : World} {v : Value} {l : List Rf} (h : Rd w v l) (hk : Ok l) (hn : l.length ≤ 100000) {now per most : Int} (hnow : U64 now) (hper : U64 per) :
    Calls Tryz.prog 75 #[v, .int .u64 now, .int .u64 per, .int .i64 most] w fun e w' => ∃ v', e = .returned (.tuple #[v', .bool (chargeP l now per most).2]) ∧ Mine w w' v' (chargeP l now per most).1 := by
  have hadd := fun W => add_any now per hnow.1 hper.1 hnow.2 hper.2 W
  have HHO := Lib.hid (fun W (hW : Chg [] w W) => holds_any (h.quiet hW) most)
  have HPU := Lib.hid (fun W (hW : Chg [] w W) => pull_any (h.quiet hW) hk hn now 1 ⟨by omega, by omega⟩)
  obtain ⟨A, c, rfl, _⟩ := h.open_
  obtain ⟨n, e1⟩ : ∃ n, n = l.length := ⟨_, rfl⟩
  rw [← e1] at HHO HPU ⊢
  cases hho : holdsP l most with
  | false =>
    have HE := Lib.hid (chargeP_no (l := l) (now := now) (per := per) (most := most) (fun c => by have := c.1; rw [hho] at this; cases this))
    rw [hho] at HHO
    clear h hk hn e1 hho
    go_enter Tryz.func75, Tryz.ntmps75
    go_wp2_with (first
      | (go_at_call 108; refine (hadd _).mono ?_; rintro e w1 ⟨rfl, h1⟩; have H1 := Lib.hid h1; clear h1)
      | (go_at_call 109; refine (HHO.out _ H1.out).mono ?_; rintro e w2 ⟨rfl, rfl⟩))
    go_ret2
    exact ⟨_, by rw [HE.out]; rfl, by rw [HE.out]; exact Mine.nil H1.out⟩
  | true =>
    rw [hho] at HHO
    by_cases hp0 : per = 0
    · have HE := Lib.hid (chargeP_no (l := l) (now := now) (per := per) (most := most) (fun c => c.2.1 hp0))
      have g0 : (per == 0) = true := by simpa using hp0
      clear h hk hn e1 hho hp0
      go_enter Tryz.func75, Tryz.ntmps75
      go_wp2_with (first
        | (go_at_call 108; refine (hadd _).mono ?_; rintro e w1 ⟨rfl, h1⟩; have H1 := Lib.hid h1; clear h1)
        | (go_at_call 109; refine (HHO.out _ H1.out).mono ?_; rintro e w2 ⟨rfl, rfl⟩))
      go_ret2
      exact ⟨_, by rw [HE.out]; rfl, by rw [HE.out]; exact Mine.nil H1.out⟩
    · have g0 : (per == 0) = false := by simpa using hp0
      by_cases hf : now + per < 18446744073709551616
      · obtain ⟨f1, f2⟩ := addF_yes hf
        rw [f1, f2] at hadd
        by_cases hpl : (pullP l now 1).2 = 0
        · have hcan : canP l now per most := by
            refine ⟨hho, hp0, hf, ?_⟩
            unfold pullP at hpl
            split at hpl
            · simp at hpl
            · rename_i e
              split at hpl
              · simp at hpl
              · rename_i e2
                exact ⟨by cases hmm : mayP l with
                  | true => rfl
                  | false => exact absurd (.inl hmm) e, by omega⟩
          have hpe : pullP l now 1 = (decP (dueL l now) 1, 0) := by
            unfold pullP
            rw [if_neg (by rw [hcan.2.2.2.1]; simp), if_neg (by have := hcan.2.2.2.2; omega)]
          have HE := Lib.hid (chargeP_yes hcan)
          unfold useP at HE
          rw [hpe] at HPU
          obtain ⟨hdf, _⟩ := due_form hk hcan.2.2.2.1 hcan.2.2.2.2
          have hdo := hk.due hcan.2.2.2.1 now
          have hds := sumP_due (l := l) now
          have hdl := due_len (l := l) now
          rw [hdf] at hdo hds hdl
          have hms := (mayP_iff.1 hcan.2.2.2.1).1
          have hT1 := hcan.2.2.2.2
          have hm1 : 1 ≤ most := by have := hcan.1; unfold holdsP at this; simp at this; exact this.1
          have HBK := Lib.hid (fun w0 W V (hM : Mine w0 W V (decP (dueL l now) 1)) => back_any (at_ := now + per) (most := most) hM (by rw [hdf]; exact hdo.dec (by omega) hT1) (by rw [hdf, sumP_dec]; omega) hm1 (by rw [hdf]; have := dec_len (thereP l now) (aheadP l (dueN l now)) (l.drop (dueN l now)) 1; simp only [List.length_cons] at hdl; omega))
          clear h hk hn e1 hho hp0 hf hpl hcan hpe hdf hdo hds hdl hms hT1 hm1 f1 f2
          go_enter Tryz.func75, Tryz.ntmps75
          go_wp2_with (first
            | (go_at_call 108; refine (hadd _).mono ?_; rintro e w1 ⟨rfl, h1⟩; have H1 := Lib.hid h1; clear h1)
            | (go_at_call 109; refine (HHO.out _ H1.out).mono ?_; rintro e w2 ⟨rfl, rfl⟩)
            | (go_at_call 99; refine (HPU.out _ H1.out).mono ?_; rintro e w3 ⟨v3, rfl, h1⟩; obtain ⟨A3, c3, rfl, _⟩ := h1.1.open_; have H3 := Lib.hid (h1.before H1.out); clear h1)
            | (go_at_call 110; refine (HBK.out _ _ _ H3.out).mono ?_; rintro e w4 ⟨v4, rfl, h1⟩; have H4 := Lib.hid h1; clear h1))
          go_ret2
          exact ⟨_, by rw [HE.out]; rfl, by rw [HE.out]; exact H4.out⟩
        · have HE := Lib.hid (chargeP_no (l := l) (now := now) (per := per) (most := most) (fun c => hpl (by unfold pullP; rw [if_neg (by rw [c.2.2.2.1]; simp), if_neg (by have := c.2.2.2.2; omega)])))
          obtain ⟨PE, hPE⟩ : ∃ PE, PE = (pullP l now 1).2 := ⟨_, rfl⟩
          rw [← hPE] at HPU hpl
          have g1 : (PE != 0) = true := by simpa using hpl
          clear h hk hn e1 hho hp0 hf hpl hPE f1 f2
          go_enter Tryz.func75, Tryz.ntmps75
          go_wp2_with (first
            | (go_at_call 108; refine (hadd _).mono ?_; rintro e w1 ⟨rfl, h1⟩; have H1 := Lib.hid h1; clear h1)
            | (go_at_call 109; refine (HHO.out _ H1.out).mono ?_; rintro e w2 ⟨rfl, rfl⟩)
            | (go_at_call 99; refine (HPU.out _ H1.out).mono ?_; rintro e w3 ⟨v3, rfl, h1⟩; obtain ⟨A3, c3, rfl, _⟩ := h1.1.open_; have H3 := Lib.hid (h1.before H1.out); clear h1))
          go_ret2
          exact ⟨_, by rw [HE.out]; rfl, by rw [HE.out]; exact Mine.nil H3.out.2.2⟩
      · obtain ⟨f1, f2⟩ := addF_no hf
        rw [f1, f2] at hadd
        have HE := Lib.hid (chargeP_no (l := l) (now := now) (per := per) (most := most) (fun c => hf c.2.2.1))
        clear h hk hn e1 hho hp0 hf f1 f2
        go_enter Tryz.func75, Tryz.ntmps75
        go_wp2_with (first
          | (go_at_call 108; refine (hadd _).mono ?_; rintro e w1 ⟨rfl, h1⟩; have H1 := Lib.hid h1; clear h1)
          | (go_at_call 109; refine (HHO.out _ H1.out).mono ?_; rintro e w2 ⟨rfl, rfl⟩))
        go_ret2
        exact ⟨_, by rw [HE.out]; rfl, by rw [HE.out]; exact Mine.nil H1.out⟩
end Go.Proofs
end
section
namespace Go.Proofs
open Go.RowKit
set_option linter.unusedVariables false

/-- Is the first one there? -/
theorem there_head {l : List Rf} (hk : Ok l) (hm : mayP l = true) (now : Int) : 1 ≤ thereP l now ↔ ∃ x, l[0]? = some x ∧ x.2 ≤ now := by
  obtain ⟨h1, h2⟩ := mayP_iff.1 hm
  rw [thereP_fine hk hm]
  constructor
  · intro h
    have h0 : dueN l now ≠ 0 := fun e => by rw [e] at h; simp [sumP] at h
    have hle := dueN_le l now
    obtain ⟨x, hx⟩ : ∃ x, l[0]? = some x := ⟨_, List.getElem?_eq_getElem (by omega)⟩
    exact ⟨x, hx, (due_split h2 hx).2 (by omega)⟩
  · rintro ⟨x, hx, hxn⟩
    exact due_sum hk h2 ((due_split h2 hx).1 hxn) (dueN_le l now)
/-- What is known of a list Due in memory, and of it with one used. -/
theorem due_mem {w0 w : World} {v : Value} {T t : Int} {r : List Rf} (h : Own w0 w v ((T, t) :: r)) : ∃ g cap, v = .slice (some ⟨g, 0, none⟩) (r.length + 1) cap ∧ r.length + 1 ≤ cap ∧ g < w.heap.size ∧ (∀ k, w.frozen? ⟨g, k, none⟩ = false) ∧
    w.cell? ⟨g, 0, none⟩ = some (.int .u64 T) ∧ w.cell? ⟨g, 1, none⟩ = some (.int .u64 t) ∧
    (0 < r.length → w.cell? ⟨g, r.length * 2, none⟩ = some (.int .u64 (lastP r).1) ∧ w.cell? ⟨g, r.length * 2 + 1, none⟩ = some (.int .u64 (lastP r).2)) ∧
    ∀ a, Mine w0 (w.setCell ⟨g, 0, none⟩ (.int .u64 a)) (.slice (some ⟨g, 0, none⟩) (r.length + 1) cap) ((a, t) :: r) := by
  obtain ⟨g, cap, rfl, hf, hc, lg, y0, y1, hfz⟩ := h.1.head
  refine ⟨g, cap, rfl, hc, lg, hfz, y0, y1, fun h0 => ?_, fun a => ?_⟩
  · obtain ⟨A, c', hv, _, _, _, hcell⟩ := h.rd.open_
    obtain ⟨b, o, hA, _, q0, q1⟩ := hcell r.length (lastP r) (by
      have := lastP_at h0
      obtain ⟨m, hm⟩ : ∃ m, r.length = m + 1 := ⟨r.length - 1, by omega⟩
      rw [hm] at this ⊢
      simpa using this)
    simp only [Value.slice.injEq] at hv
    rw [← hv.1] at hA
    simp only [Option.some.injEq, Addr.mk.injEq, and_true] at hA
    obtain ⟨rfl, rfl⟩ := hA
    rw [Nat.zero_add] at q0 q1
    exact ⟨q0, q1⟩
  · have := h.mine.set1 (k := 0) (x := (T, t)) rfl a
    simpa using this
end Go.Proofs
end
section
namespace Go.Proofs
open Go.RowKit
set_option linter.unusedVariables false

set_option maxHeartbeats 3200000 in
set_option maxRecDepth 100000 in
theorem rch_1 {w : World} {b o n c : Nat} {now per most at_ T t xt : Int} {r : List Rf}
    (hadd : ∀ W, Calls Tryz.prog 47 #[.int .u64 now, .int .u64 per] W fun e w' => e = .returned (.tuple #[.int .u64 at_, .bool true]) ∧ W = w')
    (hmy : Calls Tryz.prog 16 #[.slice (some ⟨b, o, none⟩) n c] w fun e w' => e = .returned (.bool true) ∧ Chg [] w w')
    (HX9 : Hid (∀ W, Chg [] w W → W.cell? ⟨b, o + 1, none⟩ = some (.int .u64 xt)))
    (HDU : Hid (∀ W, Chg [] w W → Calls Tryz.prog 112 #[.slice (some ⟨b, o, none⟩) n c, .int .u64 now] W fun e w' => ∃ v', e = .returned v' ∧ Own W w' v' ((T, t) :: r)))
    (HRN : Hid (r.length + 1 ≤ 100000)) (g1 : decide (most < 1) = false) (g2 : decide ((n : Int) > most) = false) (g2' : decide (most < (n : Int)) = false) (g3 : (per == 0) = false) (g4 : ((n : Int) == 0) = false) (g5 : (0 : Int) < (n : Int))
    (g6 : decide (xt > now) = false) (g6' : decide (now < xt) = false) (k1 : IntKind.u64.wrap (T - 1) = T - 1)
    (hT : T = 1) (hr : r = []) :
    Calls Tryz.prog 81 #[.slice (some ⟨b, o, none⟩) n c, .int .u64 now, .int .u64 per, .int .i64 most] w fun e w' => ∃ v', e = .returned (.tuple #[v', .bool true]) ∧ Mine w w' v' ([(1, at_)]) := by
  have m0 : (T - 1 == 0) = true := by simp; omega
  subst hr
  clear hT
  go_enter Tryz.func81, Tryz.ntmps81
  go_wp2_with (first
    | (go_at_call 47; refine (hadd _).mono ?_; rintro e w0 ⟨rfl, rfl⟩)
    | (go_at_call 16; refine hmy.mono ?_; rintro e w1 ⟨rfl, h1⟩; have x9 := HX9.out _ h1; have H1 := Lib.hid h1; clear h1)
    | (go_at_call 112; refine (HDU.out _ H1.out).mono ?_; rintro e w3 ⟨v3, rfl, h1⟩; obtain ⟨g, cap, rfl, hcap, lg, hfz, y0, y1, yl, hM⟩ := due_mem (h1.before H1.out); simp only [List.length_nil, Nat.zero_add] at hcap hM ⊢; have q2 : (1 : Int) ≤ (cap : Int) := (by omega); have f0 := hfz 0; have H3 := Lib.hid hM; have HW3 := Lib.hid (h1.before H1.out).2.2; clear h1 hfz hM yl))
  all_goals
    go_ret2
    have hS : (w3.setCell ⟨g, 0, none⟩ (.int .u64 (T - 1))).heap.size = w3.heap.size := by simp [World.setCell]
    have hO := (Ro.one (w3.setCell ⟨g, 0, none⟩ (.int .u64 (T - 1))) 1 at_).rd
    rw [hS] at hO
    exact ⟨_, rfl, ⟨hO, (fun k hk => by have := HW3.out.size; simp [foot_some] at hk; omega), (H3.out _).2.2.alloc _⟩⟩
end Go.Proofs
end
section
namespace Go.Proofs
open Go.RowKit
set_option linter.unusedVariables false

set_option maxHeartbeats 3200000 in
set_option maxRecDepth 100000 in
theorem rch_2 {w : World} {b o n c : Nat} {now per most at_ T t xt : Int} {r : List Rf}
    (hadd : ∀ W, Calls Tryz.prog 47 #[.int .u64 now, .int .u64 per] W fun e w' => e = .returned (.tuple #[.int .u64 at_, .bool true]) ∧ W = w')
    (hmy : Calls Tryz.prog 16 #[.slice (some ⟨b, o, none⟩) n c] w fun e w' => e = .returned (.bool true) ∧ Chg [] w w')
    (HX9 : Hid (∀ W, Chg [] w W → W.cell? ⟨b, o + 1, none⟩ = some (.int .u64 xt)))
    (HDU : Hid (∀ W, Chg [] w W → Calls Tryz.prog 112 #[.slice (some ⟨b, o, none⟩) n c, .int .u64 now] W fun e w' => ∃ v', e = .returned v' ∧ Own W w' v' ((T, t) :: r)))
    (HRN : Hid (r.length + 1 ≤ 100000)) (g1 : decide (most < 1) = false) (g2 : decide ((n : Int) > most) = false) (g2' : decide (most < (n : Int)) = false) (g3 : (per == 0) = false) (g4 : ((n : Int) == 0) = false) (g5 : (0 : Int) < (n : Int))
    (g6 : decide (xt > now) = false) (g6' : decide (now < xt) = false) (k1 : IntKind.u64.wrap (T - 1) = T - 1)
    {N p : Nat} {x2 : Rf} (hT : T = 1) (hN : N = r.length) (hp : p + 1 = r.length) (hx2 : lastP r = x2) (hlast : r[p]? = some x2) (m5 : IntKind.u64.wrap (x2.1 + 1) = x2.1 + 1) (hlt : x2.2 < at_) (hrm : (N : Int) < most) :
    Calls Tryz.prog 81 #[.slice (some ⟨b, o, none⟩) n c, .int .u64 now, .int .u64 per, .int .i64 most] w fun e w' => ∃ v', e = .returned (.tuple #[v', .bool true]) ∧ Mine w w' v' (r ++ [(1, at_)]) := by
  have m0 : (T - 1 == 0) = true := by simp; omega
  have HL := Lib.hid hlast
  have HX2 := Lib.hid hx2
  have HNR := Lib.hid hN
  have HPN := Lib.hid hp
  have HRR := Lib.hid HRN.out
  have m1 : IntKind.i64.wrap ((N : Int) - 1) = (p : Int) := by have := HRN.out; rw [IntWalk.i64_in _ (by omega)]; omega
  have m2 : (0 : Int) ≤ (p : Int) := by omega
  have m3 : (p : Int) < (N : Int) := by omega
  have m4 : ((N : Int) == 0) = false := by simp; omega
  have j0 : decide (x2.2 ≥ at_) = false := by simp; omega
  have j1 : decide (at_ ≤ x2.2) = false := by simp; omega
  have j2 : decide ((N : Int) < most) = true := by simpa using hrm
  clear hT hN hp hx2 hlast hlt hrm
  go_enter Tryz.func81, Tryz.ntmps81
  go_wp2_with (first
    | (go_at_call 47; refine (hadd _).mono ?_; rintro e w0 ⟨rfl, rfl⟩)
    | (go_at_call 16; refine hmy.mono ?_; rintro e w1 ⟨rfl, h1⟩; have x9 := HX9.out _ h1; have H1 := Lib.hid h1; clear h1)
    | (go_at_call 112; refine (HDU.out _ H1.out).mono ?_; rintro e w3 ⟨v3, rfl, h1⟩; obtain ⟨g, cap, rfl, hcap, lg, hfz, y0, y1, yl, hM⟩ := due_mem (h1.before H1.out); obtain ⟨z0, z1⟩ := yl (by have := HPN.out; omega); rw [HX2.out] at z0 z1; rw [← HPN.out, show (p + 1) * 2 = 2 + p * 2 by omega] at z0 z1; rw [← HNR.out] at hcap hM ⊢; have f1 := hfz (2 + p * 2); have f2 := hfz (2 + p * 2 + 1); have q0 : (0 : Int) < ((N : Int) + 1) := (by omega); have q1 : (1 : Int) ≤ ((N : Int) + 1) := (by omega); have q2 : (1 : Int) ≤ (cap : Int) := (by omega); have hcn : cap ≠ 1 := (by have := HNR.out; have := HPN.out; omega); have HM2 := Lib.hid (show Mine w (w3.setCell ⟨g, 0, none⟩ (.int .u64 (T - 1))) (.slice (some ⟨g, 2, none⟩) N (cap - 1)) r from (by have := (hM (T - 1)).rest (by have := HNR.out; have := HPN.out; omega); simpa using this)); clear hcap; have f0 := hfz 0; have H3 := Lib.hid hM; have HW3 := Lib.hid (h1.before H1.out).2.2; clear h1 hfz hM yl)
    | (at_builtin; go_loud (refine wpList_append_any (xs := r) (l := [(1, at_)]) (N := N + 1) _ rfl _ _ rfl (by rfl) (by rfl) ((HM2.out).1.quiet ((Chg.refl [] _).alloc (.cells #[.int .u64 1, .int .u64 at_] 57))) (Rs.one (x := (1, at_)) (Blk.at _ 57 _ (by simp))) (by simp) (by have := HRN.out; simp; omega) (by have := HNR.out; simp; omega) ?_; intro A6 c6 w6 hr6 hg6 hf6; have H7 := Lib.hid (((HM2.out).later ((Chg.refl [] _).alloc (.cells #[.int .u64 1, .int .u64 at_] 57))).append hr6 hg6 hf6); clear hr6 hg6 hf6)))
  go_ret2
  exact ⟨_, rfl, H7.out⟩
end Go.Proofs
end
section
namespace Go.Proofs
open Go.RowKit
set_option linter.unusedVariables false

set_option maxHeartbeats 3200000 in
set_option maxRecDepth 100000 in
theorem rch_3 {w : World} {b o n c : Nat} {now per most at_ T t xt : Int} {r : List Rf}
    (hadd : ∀ W, Calls Tryz.prog 47 #[.int .u64 now, .int .u64 per] W fun e w' => e = .returned (.tuple #[.int .u64 at_, .bool true]) ∧ W = w')
    (hmy : Calls Tryz.prog 16 #[.slice (some ⟨b, o, none⟩) n c] w fun e w' => e = .returned (.bool true) ∧ Chg [] w w')
    (HX9 : Hid (∀ W, Chg [] w W → W.cell? ⟨b, o + 1, none⟩ = some (.int .u64 xt)))
    (HDU : Hid (∀ W, Chg [] w W → Calls Tryz.prog 112 #[.slice (some ⟨b, o, none⟩) n c, .int .u64 now] W fun e w' => ∃ v', e = .returned v' ∧ Own W w' v' ((T, t) :: r)))
    (HRN : Hid (r.length + 1 ≤ 100000)) (g1 : decide (most < 1) = false) (g2 : decide ((n : Int) > most) = false) (g2' : decide (most < (n : Int)) = false) (g3 : (per == 0) = false) (g4 : ((n : Int) == 0) = false) (g5 : (0 : Int) < (n : Int))
    (g6 : decide (xt > now) = false) (g6' : decide (now < xt) = false) (k1 : IntKind.u64.wrap (T - 1) = T - 1)
    {N p : Nat} {x2 : Rf} (hT : T = 1) (hN : N = r.length) (hp : p + 1 = r.length) (hx2 : lastP r = x2) (hlast : r[p]? = some x2) (m5 : IntKind.u64.wrap (x2.1 + 1) = x2.1 + 1) (hlt : x2.2 < at_) (hrm : ¬ (N : Int) < most) :
    Calls Tryz.prog 81 #[.slice (some ⟨b, o, none⟩) n c, .int .u64 now, .int .u64 per, .int .i64 most] w fun e w' => ∃ v', e = .returned (.tuple #[v', .bool true]) ∧ Mine w w' v' (r.set p (x2.1 + 1, at_)) := by
  have m0 : (T - 1 == 0) = true := by simp; omega
  have HL := Lib.hid hlast
  have HX2 := Lib.hid hx2
  have HNR := Lib.hid hN
  have HPN := Lib.hid hp
  have HRR := Lib.hid HRN.out
  have m1 : IntKind.i64.wrap ((N : Int) - 1) = (p : Int) := by have := HRN.out; rw [IntWalk.i64_in _ (by omega)]; omega
  have m2 : (0 : Int) ≤ (p : Int) := by omega
  have m3 : (p : Int) < (N : Int) := by omega
  have m4 : ((N : Int) == 0) = false := by simp; omega
  have j0 : decide (x2.2 ≥ at_) = false := by simp; omega
  have j1 : decide (at_ ≤ x2.2) = false := by simp; omega
  have j2 : decide ((N : Int) < most) = false := by simpa using hrm
  clear hT hN hp hx2 hlast hlt hrm
  go_enter Tryz.func81, Tryz.ntmps81
  go_wp2_with (first
    | (go_at_call 47; refine (hadd _).mono ?_; rintro e w0 ⟨rfl, rfl⟩)
    | (go_at_call 16; refine hmy.mono ?_; rintro e w1 ⟨rfl, h1⟩; have x9 := HX9.out _ h1; have H1 := Lib.hid h1; clear h1)
    | (go_at_call 112; refine (HDU.out _ H1.out).mono ?_; rintro e w3 ⟨v3, rfl, h1⟩; obtain ⟨g, cap, rfl, hcap, lg, hfz, y0, y1, yl, hM⟩ := due_mem (h1.before H1.out); obtain ⟨z0, z1⟩ := yl (by have := HPN.out; omega); rw [HX2.out] at z0 z1; rw [← HPN.out, show (p + 1) * 2 = 2 + p * 2 by omega] at z0 z1; rw [← HNR.out] at hcap hM ⊢; have f1 := hfz (2 + p * 2); have f2 := hfz (2 + p * 2 + 1); have q0 : (0 : Int) < ((N : Int) + 1) := (by omega); have q1 : (1 : Int) ≤ ((N : Int) + 1) := (by omega); have q2 : (1 : Int) ≤ (cap : Int) := (by omega); have hcn : cap ≠ 1 := (by have := HNR.out; have := HPN.out; omega); have HM2 := Lib.hid (show Mine w (w3.setCell ⟨g, 0, none⟩ (.int .u64 (T - 1))) (.slice (some ⟨g, 2, none⟩) N (cap - 1)) r from (by have := (hM (T - 1)).rest (by have := HNR.out; have := HPN.out; omega); simpa using this)); clear hcap; have HF := Lib.hid ((HM2.out.set1 HL.out (x2.1 + 1)).set2 (k := p) (x := (x2.1 + 1, x2.2)) (by rw [List.getElem?_set_self (by have := HPN.out; omega)]) at_); rw [List.set_set] at HF; have f0 := hfz 0; have H3 := Lib.hid hM; have HW3 := Lib.hid (h1.before H1.out).2.2; clear h1 hfz hM yl))
  go_ret2
  exact ⟨_, rfl, by have := HF.out; simpa using this⟩
end Go.Proofs
end
section
namespace Go.Proofs
open Go.RowKit
set_option linter.unusedVariables false

set_option maxHeartbeats 3200000 in
set_option maxRecDepth 100000 in
theorem rch_4 {w : World} {b o n c : Nat} {now per most at_ T t xt : Int} {r : List Rf}
    (hadd : ∀ W, Calls Tryz.prog 47 #[.int .u64 now, .int .u64 per] W fun e w' => e = .returned (.tuple #[.int .u64 at_, .bool true]) ∧ W = w')
    (hmy : Calls Tryz.prog 16 #[.slice (some ⟨b, o, none⟩) n c] w fun e w' => e = .returned (.bool true) ∧ Chg [] w w')
    (HX9 : Hid (∀ W, Chg [] w W → W.cell? ⟨b, o + 1, none⟩ = some (.int .u64 xt)))
    (HDU : Hid (∀ W, Chg [] w W → Calls Tryz.prog 112 #[.slice (some ⟨b, o, none⟩) n c, .int .u64 now] W fun e w' => ∃ v', e = .returned v' ∧ Own W w' v' ((T, t) :: r)))
    (HRN : Hid (r.length + 1 ≤ 100000)) (g1 : decide (most < 1) = false) (g2 : decide ((n : Int) > most) = false) (g2' : decide (most < (n : Int)) = false) (g3 : (per == 0) = false) (g4 : ((n : Int) == 0) = false) (g5 : (0 : Int) < (n : Int))
    (g6 : decide (xt > now) = false) (g6' : decide (now < xt) = false) (k1 : IntKind.u64.wrap (T - 1) = T - 1)
    {N p : Nat} {x2 : Rf} (hT : T = 1) (hN : N = r.length) (hp : p + 1 = r.length) (hx2 : lastP r = x2) (hlast : r[p]? = some x2) (m5 : IntKind.u64.wrap (x2.1 + 1) = x2.1 + 1) (hlt : ¬ x2.2 < at_) :
    Calls Tryz.prog 81 #[.slice (some ⟨b, o, none⟩) n c, .int .u64 now, .int .u64 per, .int .i64 most] w fun e w' => ∃ v', e = .returned (.tuple #[v', .bool true]) ∧ Mine w w' v' (r.set p (x2.1 + 1, x2.2)) := by
  have m0 : (T - 1 == 0) = true := by simp; omega
  have HL := Lib.hid hlast
  have HX2 := Lib.hid hx2
  have HNR := Lib.hid hN
  have HPN := Lib.hid hp
  have HRR := Lib.hid HRN.out
  have m1 : IntKind.i64.wrap ((N : Int) - 1) = (p : Int) := by have := HRN.out; rw [IntWalk.i64_in _ (by omega)]; omega
  have m2 : (0 : Int) ≤ (p : Int) := by omega
  have m3 : (p : Int) < (N : Int) := by omega
  have m4 : ((N : Int) == 0) = false := by simp; omega
  have j0 : decide (x2.2 ≥ at_) = true := by simp; omega
  have j1 : decide (at_ ≤ x2.2) = true := by simp; omega
  clear hT hN hp hx2 hlast hlt
  go_enter Tryz.func81, Tryz.ntmps81
  go_wp2_with (first
    | (go_at_call 47; refine (hadd _).mono ?_; rintro e w0 ⟨rfl, rfl⟩)
    | (go_at_call 16; refine hmy.mono ?_; rintro e w1 ⟨rfl, h1⟩; have x9 := HX9.out _ h1; have H1 := Lib.hid h1; clear h1)
    | (go_at_call 112; refine (HDU.out _ H1.out).mono ?_; rintro e w3 ⟨v3, rfl, h1⟩; obtain ⟨g, cap, rfl, hcap, lg, hfz, y0, y1, yl, hM⟩ := due_mem (h1.before H1.out); obtain ⟨z0, z1⟩ := yl (by have := HPN.out; omega); rw [HX2.out] at z0 z1; rw [← HPN.out, show (p + 1) * 2 = 2 + p * 2 by omega] at z0 z1; rw [← HNR.out] at hcap hM ⊢; have f1 := hfz (2 + p * 2); have f2 := hfz (2 + p * 2 + 1); have q0 : (0 : Int) < ((N : Int) + 1) := (by omega); have q1 : (1 : Int) ≤ ((N : Int) + 1) := (by omega); have q2 : (1 : Int) ≤ (cap : Int) := (by omega); have hcn : cap ≠ 1 := (by have := HNR.out; have := HPN.out; omega); have HM2 := Lib.hid (show Mine w (w3.setCell ⟨g, 0, none⟩ (.int .u64 (T - 1))) (.slice (some ⟨g, 2, none⟩) N (cap - 1)) r from (by have := (hM (T - 1)).rest (by have := HNR.out; have := HPN.out; omega); simpa using this)); clear hcap; have HF := Lib.hid (HM2.out.set1 HL.out (x2.1 + 1)); have f0 := hfz 0; have H3 := Lib.hid hM; have HW3 := Lib.hid (h1.before H1.out).2.2; clear h1 hfz hM yl))
  go_ret2
  exact ⟨_, rfl, by have := HF.out; simpa using this⟩
end Go.Proofs
end
section
namespace Go.Proofs
open Go.RowKit
set_option linter.unusedVariables false

set_option maxHeartbeats 3200000 in
set_option maxRecDepth 100000 in
theorem rch_5 {w : World} {b o n c : Nat} {now per most at_ T t xt : Int} {r : List Rf}
    (hadd : ∀ W, Calls Tryz.prog 47 #[.int .u64 now, .int .u64 per] W fun e w' => e = .returned (.tuple #[.int .u64 at_, .bool true]) ∧ W = w')
    (hmy : Calls Tryz.prog 16 #[.slice (some ⟨b, o, none⟩) n c] w fun e w' => e = .returned (.bool true) ∧ Chg [] w w')
    (HX9 : Hid (∀ W, Chg [] w W → W.cell? ⟨b, o + 1, none⟩ = some (.int .u64 xt)))
    (HDU : Hid (∀ W, Chg [] w W → Calls Tryz.prog 112 #[.slice (some ⟨b, o, none⟩) n c, .int .u64 now] W fun e w' => ∃ v', e = .returned v' ∧ Own W w' v' ((T, t) :: r)))
    (HRN : Hid (r.length + 1 ≤ 100000)) (g1 : decide (most < 1) = false) (g2 : decide ((n : Int) > most) = false) (g2' : decide (most < (n : Int)) = false) (g3 : (per == 0) = false) (g4 : ((n : Int) == 0) = false) (g5 : (0 : Int) < (n : Int))
    (g6 : decide (xt > now) = false) (g6' : decide (now < xt) = false) (k1 : IntKind.u64.wrap (T - 1) = T - 1)
    {N p : Nat} {x2 : Rf} (hT : T ≠ 1) (hN : N = r.length + 1) (hp : p = r.length) (hlast : ((T - 1, t) :: r)[p]? = some x2) (m5 : IntKind.u64.wrap (x2.1 + 1) = x2.1 + 1) (hlt : x2.2 < at_) (hrm : (N : Int) < most) :
    Calls Tryz.prog 81 #[.slice (some ⟨b, o, none⟩) n c, .int .u64 now, .int .u64 per, .int .i64 most] w fun e w' => ∃ v', e = .returned (.tuple #[v', .bool true]) ∧ Mine w w' v' (((T - 1, t) :: r) ++ [(1, at_)]) := by
  have m0 : (T - 1 == 0) = false := by simp; omega
  have HL := Lib.hid hlast
  have HNR := Lib.hid (show N = r.length + 1 ∧ p = r.length from ⟨hN, hp⟩)
  have m1 : IntKind.i64.wrap ((N : Int) - 1) = (p : Int) := by have := HRN.out; rw [IntWalk.i64_in _ (by omega)]; omega
  have m2 : (0 : Int) ≤ (p : Int) := by omega
  have m3 : (p : Int) < (N : Int) := by omega
  have m4 : ((N : Int) == 0) = false := by simp; omega
  have j0 : decide (x2.2 ≥ at_) = false := by simp; omega
  have j1 : decide (at_ ≤ x2.2) = false := by simp; omega
  have j2 : decide ((N : Int) < most) = true := by simpa using hrm
  clear hT hN hp hlast hlt hrm
  go_enter Tryz.func81, Tryz.ntmps81
  go_wp2_with (first
    | (go_at_call 47; refine (hadd _).mono ?_; rintro e w0 ⟨rfl, rfl⟩)
    | (go_at_call 16; refine hmy.mono ?_; rintro e w1 ⟨rfl, h1⟩; have x9 := HX9.out _ h1; have H1 := Lib.hid h1; clear h1)
    | (go_at_call 112; refine (HDU.out _ H1.out).mono ?_; rintro e w3 ⟨v3, rfl, h1⟩; obtain ⟨g, cap, rfl, hcap, lg, hfz, y0, y1, yl, hM⟩ := due_mem (h1.before H1.out); rw [← HNR.out.1] at hcap hM ⊢; have q0 : (0 : Int) < (N : Int) := (by have := HNR.out; omega); have HM2 := Lib.hid (hM (T - 1)); obtain ⟨b2, o2, c2, hv2, _, _, _, hc2⟩ := HM2.out.1.form (by simp); simp only [Value.slice.injEq, Option.some.injEq, Addr.mk.injEq, and_true] at hv2; obtain ⟨⟨rfl, rfl⟩, hz9, rfl⟩ := hv2; clear hz9; obtain ⟨z0, z1⟩ := hc2 _ _ HL.out; clear hc2; rw [Nat.zero_add] at z0 z1; have f1 := hfz (p * 2); have f2 := hfz (p * 2 + 1); clear hcap; have f0 := hfz 0; have H3 := Lib.hid hM; have HW3 := Lib.hid (h1.before H1.out).2.2; clear h1 hfz hM yl)
    | (at_builtin; go_loud (refine wpList_append_any (xs := ((T - 1, t) :: r)) (l := [(1, at_)]) (N := N + 1) _ rfl _ _ rfl (by rfl) (by rfl) ((HM2.out).1.quiet ((Chg.refl [] _).alloc (.cells #[.int .u64 1, .int .u64 at_] 57))) (Rs.one (x := (1, at_)) (Blk.at _ 57 _ (by simp))) (by simp) (by have := HRN.out; simp; omega) (by have := HNR.out; simp; omega) ?_; intro A6 c6 w6 hr6 hg6 hf6; have H7 := Lib.hid (((HM2.out).later ((Chg.refl [] _).alloc (.cells #[.int .u64 1, .int .u64 at_] 57))).append hr6 hg6 hf6); clear hr6 hg6 hf6)))
  go_ret2
  exact ⟨_, rfl, H7.out⟩
end Go.Proofs
end
section
namespace Go.Proofs
open Go.RowKit
set_option linter.unusedVariables false

set_option maxHeartbeats 3200000 in
set_option maxRecDepth 100000 in
theorem rch_6 {w : World} {b o n c : Nat} {now per most at_ T t xt : Int} {r : List Rf}
    (hadd : ∀ W, Calls Tryz.prog 47 #[.int .u64 now, .int .u64 per] W fun e w' => e = .returned (.tuple #[.int .u64 at_, .bool true]) ∧ W = w')
    (hmy : Calls Tryz.prog 16 #[.slice (some ⟨b, o, none⟩) n c] w fun e w' => e = .returned (.bool true) ∧ Chg [] w w')
    (HX9 : Hid (∀ W, Chg [] w W → W.cell? ⟨b, o + 1, none⟩ = some (.int .u64 xt)))
    (HDU : Hid (∀ W, Chg [] w W → Calls Tryz.prog 112 #[.slice (some ⟨b, o, none⟩) n c, .int .u64 now] W fun e w' => ∃ v', e = .returned v' ∧ Own W w' v' ((T, t) :: r)))
    (HRN : Hid (r.length + 1 ≤ 100000)) (g1 : decide (most < 1) = false) (g2 : decide ((n : Int) > most) = false) (g2' : decide (most < (n : Int)) = false) (g3 : (per == 0) = false) (g4 : ((n : Int) == 0) = false) (g5 : (0 : Int) < (n : Int))
    (g6 : decide (xt > now) = false) (g6' : decide (now < xt) = false) (k1 : IntKind.u64.wrap (T - 1) = T - 1)
    {N p : Nat} {x2 : Rf} (hT : T ≠ 1) (hN : N = r.length + 1) (hp : p = r.length) (hlast : ((T - 1, t) :: r)[p]? = some x2) (m5 : IntKind.u64.wrap (x2.1 + 1) = x2.1 + 1) (hlt : x2.2 < at_) (hrm : ¬ (N : Int) < most) :
    Calls Tryz.prog 81 #[.slice (some ⟨b, o, none⟩) n c, .int .u64 now, .int .u64 per, .int .i64 most] w fun e w' => ∃ v', e = .returned (.tuple #[v', .bool true]) ∧ Mine w w' v' (((T - 1, t) :: r).set p (x2.1 + 1, at_)) := by
  have m0 : (T - 1 == 0) = false := by simp; omega
  have HL := Lib.hid hlast
  have HNR := Lib.hid (show N = r.length + 1 ∧ p = r.length from ⟨hN, hp⟩)
  have m1 : IntKind.i64.wrap ((N : Int) - 1) = (p : Int) := by have := HRN.out; rw [IntWalk.i64_in _ (by omega)]; omega
  have m2 : (0 : Int) ≤ (p : Int) := by omega
  have m3 : (p : Int) < (N : Int) := by omega
  have m4 : ((N : Int) == 0) = false := by simp; omega
  have j0 : decide (x2.2 ≥ at_) = false := by simp; omega
  have j1 : decide (at_ ≤ x2.2) = false := by simp; omega
  have j2 : decide ((N : Int) < most) = false := by simpa using hrm
  clear hT hN hp hlast hlt hrm
  go_enter Tryz.func81, Tryz.ntmps81
  go_wp2_with (first
    | (go_at_call 47; refine (hadd _).mono ?_; rintro e w0 ⟨rfl, rfl⟩)
    | (go_at_call 16; refine hmy.mono ?_; rintro e w1 ⟨rfl, h1⟩; have x9 := HX9.out _ h1; have H1 := Lib.hid h1; clear h1)
    | (go_at_call 112; refine (HDU.out _ H1.out).mono ?_; rintro e w3 ⟨v3, rfl, h1⟩; obtain ⟨g, cap, rfl, hcap, lg, hfz, y0, y1, yl, hM⟩ := due_mem (h1.before H1.out); rw [← HNR.out.1] at hcap hM ⊢; have q0 : (0 : Int) < (N : Int) := (by have := HNR.out; omega); have HM2 := Lib.hid (hM (T - 1)); obtain ⟨b2, o2, c2, hv2, _, _, _, hc2⟩ := HM2.out.1.form (by simp); simp only [Value.slice.injEq, Option.some.injEq, Addr.mk.injEq, and_true] at hv2; obtain ⟨⟨rfl, rfl⟩, hz9, rfl⟩ := hv2; clear hz9; obtain ⟨z0, z1⟩ := hc2 _ _ HL.out; clear hc2; rw [Nat.zero_add] at z0 z1; have f1 := hfz (p * 2); have f2 := hfz (p * 2 + 1); clear hcap; have HF := Lib.hid ((HM2.out.set1 HL.out (x2.1 + 1)).set2 (k := p) (x := (x2.1 + 1, x2.2)) (by rw [List.getElem?_set_self (by have := HNR.out; simp; omega)]) at_); rw [List.set_set] at HF; have f0 := hfz 0; have H3 := Lib.hid hM; have HW3 := Lib.hid (h1.before H1.out).2.2; clear h1 hfz hM yl))
  go_ret2
  exact ⟨_, rfl, by have := HF.out; simpa using this⟩
end Go.Proofs
end
section
namespace Go.Proofs
open Go.RowKit
set_option linter.unusedVariables false

set_option maxHeartbeats 3200000 in
set_option maxRecDepth 100000 in
theorem rch_7 {w : World} {b o n c : Nat} {now per most at_ T t xt : Int} {r : List Rf}
    (hadd : ∀ W, Calls Tryz.prog 47 #[.int .u64 now, .int .u64 per] W fun e w' => e = .returned (.tuple #[.int .u64 at_, .bool true]) ∧ W = w')
    (hmy : Calls Tryz.prog 16 #[.slice (some ⟨b, o, none⟩) n c] w fun e w' => e = .returned (.bool true) ∧ Chg [] w w')
    (HX9 : Hid (∀ W, Chg [] w W → W.cell? ⟨b, o + 1, none⟩ = some (.int .u64 xt)))
    (HDU : Hid (∀ W, Chg [] w W → Calls Tryz.prog 112 #[.slice (some ⟨b, o, none⟩) n c, .int .u64 now] W fun e w' => ∃ v', e = .returned v' ∧ Own W w' v' ((T, t) :: r)))
    (HRN : Hid (r.length + 1 ≤ 100000)) (g1 : decide (most < 1) = false) (g2 : decide ((n : Int) > most) = false) (g2' : decide (most < (n : Int)) = false) (g3 : (per == 0) = false) (g4 : ((n : Int) == 0) = false) (g5 : (0 : Int) < (n : Int))
    (g6 : decide (xt > now) = false) (g6' : decide (now < xt) = false) (k1 : IntKind.u64.wrap (T - 1) = T - 1)
    {N p : Nat} {x2 : Rf} (hT : T ≠ 1) (hN : N = r.length + 1) (hp : p = r.length) (hlast : ((T - 1, t) :: r)[p]? = some x2) (m5 : IntKind.u64.wrap (x2.1 + 1) = x2.1 + 1) (hlt : ¬ x2.2 < at_) :
    Calls Tryz.prog 81 #[.slice (some ⟨b, o, none⟩) n c, .int .u64 now, .int .u64 per, .int .i64 most] w fun e w' => ∃ v', e = .returned (.tuple #[v', .bool true]) ∧ Mine w w' v' (((T - 1, t) :: r).set p (x2.1 + 1, x2.2)) := by
  have m0 : (T - 1 == 0) = false := by simp; omega
  have HL := Lib.hid hlast
  have HNR := Lib.hid (show N = r.length + 1 ∧ p = r.length from ⟨hN, hp⟩)
  have m1 : IntKind.i64.wrap ((N : Int) - 1) = (p : Int) := by have := HRN.out; rw [IntWalk.i64_in _ (by omega)]; omega
  have m2 : (0 : Int) ≤ (p : Int) := by omega
  have m3 : (p : Int) < (N : Int) := by omega
  have m4 : ((N : Int) == 0) = false := by simp; omega
  have j0 : decide (x2.2 ≥ at_) = true := by simp; omega
  have j1 : decide (at_ ≤ x2.2) = true := by simp; omega
  clear hT hN hp hlast hlt
  go_enter Tryz.func81, Tryz.ntmps81
  go_wp2_with (first
    | (go_at_call 47; refine (hadd _).mono ?_; rintro e w0 ⟨rfl, rfl⟩)
    | (go_at_call 16; refine hmy.mono ?_; rintro e w1 ⟨rfl, h1⟩; have x9 := HX9.out _ h1; have H1 := Lib.hid h1; clear h1)
    | (go_at_call 112; refine (HDU.out _ H1.out).mono ?_; rintro e w3 ⟨v3, rfl, h1⟩; obtain ⟨g, cap, rfl, hcap, lg, hfz, y0, y1, yl, hM⟩ := due_mem (h1.before H1.out); rw [← HNR.out.1] at hcap hM ⊢; have q0 : (0 : Int) < (N : Int) := (by have := HNR.out; omega); have HM2 := Lib.hid (hM (T - 1)); obtain ⟨b2, o2, c2, hv2, _, _, _, hc2⟩ := HM2.out.1.form (by simp); simp only [Value.slice.injEq, Option.some.injEq, Addr.mk.injEq, and_true] at hv2; obtain ⟨⟨rfl, rfl⟩, hz9, rfl⟩ := hv2; clear hz9; obtain ⟨z0, z1⟩ := hc2 _ _ HL.out; clear hc2; rw [Nat.zero_add] at z0 z1; have f1 := hfz (p * 2); have f2 := hfz (p * 2 + 1); clear hcap; have HF := Lib.hid (HM2.out.set1 HL.out (x2.1 + 1)); have f0 := hfz 0; have H3 := Lib.hid hM; have HW3 := Lib.hid (h1.before H1.out).2.2; clear h1 hfz hM yl))
  go_ret2
  exact ⟨_, rfl, by have := HF.out; simpa using this⟩
end Go.Proofs
end
section
namespace Go.Proofs
open Go.RowKit
set_option linter.unusedVariables false

set_option maxHeartbeats 6400000 in
set_option maxRecDepth 100000 in
theorem rch_no {w : World} {v : Value} {l : List Rf} (h : In w v l) (hk : Ok l) (hn : l.length ≤ 100000) {now per most : Int} (hnow : U64 now) (hper : U64 per) (hno : ¬ canP l now per most) :
    Calls Tryz.prog 81 #[v, .int .u64 now, .int .u64 per, .int .i64 most] w fun e w' => ∃ v', e = .returned (.tuple #[v', .bool false]) ∧ Mine w w' v' [] := by
  have hadd := fun W => radd_any now per hnow.1 hper.1 hnow.2 hper.2 W
  have hmy := rmay_any h hk hn
  obtain ⟨A, c, rfl, _, _, _, hcell⟩ := h.open_
  have HC := Lib.hid hcell
  obtain ⟨n, e1⟩ : ∃ n, n = l.length := ⟨_, rfl⟩
  rw [← e1] at hmy ⊢
  have HN := Lib.hid e1
  have HNO := Lib.hid hno
  have HK := Lib.hid hk
  clear hcell h hk hn hno e1
  obtain ⟨S, hS⟩ : ∃ S, S = addN now per := ⟨_, rfl⟩
  obtain ⟨F, hF⟩ : ∃ S, S = addF now per := ⟨_, rfl⟩
  rw [← hS, ← hF] at hadd
  have HF := Lib.hid hF
  clear hS hF
  cases hm : mayP l with
  | false =>
    rw [hm] at hmy
    clear hm
    go_enter Tryz.func81, Tryz.ntmps81
    go_wp2_with (first
      | (go_at_call 47; refine (hadd _).mono ?_; rintro e w0 ⟨rfl, rfl⟩)
      | (go_at_call 16; refine hmy.mono ?_; rintro e w1 ⟨rfl, h1⟩; have H1 := Lib.hid h1; clear h1))
    go_ret2
    exact ⟨_, rfl, Mine.nil H1.out⟩
  | true =>
    rw [hm] at hmy
    have HM := Lib.hid hm
    clear hm
    by_cases hm1 : most < 1
    · have g1 : decide (most < 1) = true := by simpa using hm1
      clear hm1
      go_enter Tryz.func81, Tryz.ntmps81
      go_wp2_with (first
        | (go_at_call 47; refine (hadd _).mono ?_; rintro e w0 ⟨rfl, rfl⟩)
        | (go_at_call 16; refine hmy.mono ?_; rintro e w1 ⟨rfl, h1⟩; have H1 := Lib.hid h1; clear h1))
      go_ret2
      exact ⟨_, rfl, Mine.nil H1.out⟩
    · have g1 : decide (most < 1) = false := by simpa using hm1
      have HM1 := Lib.hid hm1
      clear hm1
      by_cases hl1 : (n : Int) > most
      · have g2 : decide ((n : Int) > most) = true := by simpa using hl1
        have g2' : decide (most < (n : Int)) = true := by simpa using hl1
        clear hl1
        go_enter Tryz.func81, Tryz.ntmps81
        go_wp2_with (first
          | (go_at_call 47; refine (hadd _).mono ?_; rintro e w0 ⟨rfl, rfl⟩)
          | (go_at_call 16; refine hmy.mono ?_; rintro e w1 ⟨rfl, h1⟩; have H1 := Lib.hid h1; clear h1))
        go_ret2
        exact ⟨_, rfl, Mine.nil H1.out⟩
      · have g2 : decide ((n : Int) > most) = false := by simpa using hl1
        have g2' : decide (most < (n : Int)) = false := by simpa using hl1
        have HL1 := Lib.hid hl1
        clear hl1
        by_cases hp0 : per = 0
        · have g3 : (per == 0) = true := by simpa using hp0
          clear hp0
          go_enter Tryz.func81, Tryz.ntmps81
          go_wp2_with (first
            | (go_at_call 47; refine (hadd _).mono ?_; rintro e w0 ⟨rfl, rfl⟩)
            | (go_at_call 16; refine hmy.mono ?_; rintro e w1 ⟨rfl, h1⟩; have H1 := Lib.hid h1; clear h1))
          go_ret2
          exact ⟨_, rfl, Mine.nil H1.out⟩
        · have g3 : (per == 0) = false := by simpa using hp0
          have HP0 := Lib.hid hp0
          clear hp0
          cases F with
          | false =>
            go_enter Tryz.func81, Tryz.ntmps81
            go_wp2_with (first
              | (go_at_call 47; refine (hadd _).mono ?_; rintro e w0 ⟨rfl, rfl⟩)
              | (go_at_call 16; refine hmy.mono ?_; rintro e w1 ⟨rfl, h1⟩; have H1 := Lib.hid h1; clear h1))
            go_ret2
            exact ⟨_, rfl, Mine.nil H1.out⟩
          | true =>
            by_cases hl0 : n = 0
            · have g4 : ((n : Int) == 0) = true := by simp; omega
              clear hl0
              go_enter Tryz.func81, Tryz.ntmps81
              go_wp2_with (first
                | (go_at_call 47; refine (hadd _).mono ?_; rintro e w0 ⟨rfl, rfl⟩)
                | (go_at_call 16; refine hmy.mono ?_; rintro e w1 ⟨rfl, h1⟩; have H1 := Lib.hid h1; clear h1))
              go_ret2
              exact ⟨_, rfl, Mine.nil H1.out⟩
            · have g4 : ((n : Int) == 0) = false := by simp; omega
              have g5 : (0 : Int) < (n : Int) := by omega
              obtain ⟨x, hx⟩ : ∃ x, l[0]? = some x := ⟨_, List.getElem?_eq_getElem (by rw [← HN.out]; omega)⟩
              obtain ⟨b, o, rfl, lb, p0, p1⟩ := HC.out 0 x hx
              simp only [Nat.zero_mul, Nat.add_zero] at p0 p1
              have HX9 := Lib.hid (fun W (hW : Chg [] w W) => (hW.cell (p := ⟨b, o + 1, none⟩) lb (by simp)).trans p1)
              have hx1 : x.2 > now := by
                refine Int.not_le.1 (fun hle => HNO.out ⟨?_, HP0.out, ?_, HM.out, (there_head HK.out HM.out now).2 ⟨x, hx, hle⟩⟩)
                · unfold holdsP
                  have h1 := HM1.out
                  have h2 := HL1.out
                  have h3 := HN.out
                  simp
                  omega
                · have := HF.out
                  unfold addF at this
                  simpa using this.symm
              have g6 : decide (x.2 > now) = true := by simpa using hx1
              have g6' : decide (now < x.2) = true := by simpa using hx1
              clear hl0 hx p0 p1 hx1
              go_enter Tryz.func81, Tryz.ntmps81
              go_wp2_with (first
                | (go_at_call 47; refine (hadd _).mono ?_; rintro e w0 ⟨rfl, rfl⟩)
                | (go_at_call 16; refine hmy.mono ?_; rintro e w1 ⟨rfl, h1⟩; have x9 := HX9.out _ h1; have H1 := Lib.hid h1; clear h1))
              go_ret2
              exact ⟨_, rfl, Mine.nil H1.out⟩
end Go.Proofs
end
section
namespace Go.Proofs
open Go.RowKit
set_option linter.unusedVariables false

/-- The document's Charge. -/
theorem rcharge_any {w : World} {v : Value} {l : List Rf} (h : In w v l) (hk : Ok l) (hn : l.length ≤ 100000) {now per most : Int} (hnow : U64 now) (hper : U64 per) :
    Calls Tryz.prog 81 #[v, .int .u64 now, .int .u64 per, .int .i64 most] w fun e w' => ∃ v', e = .returned (.tuple #[v', .bool (chargeP l now per most).2]) ∧ Mine w w' v' (chargeP l now per most).1 := by
  by_cases hcan : canP l now per most
  · have hadd := fun W => radd_any now per hnow.1 hper.1 hnow.2 hper.2 W
    have hmy := rmay_any h hk hn
    obtain ⟨hho, hp0, hf, hm, hth⟩ := id hcan
    obtain ⟨f1, f2⟩ := addF_yes hf
    rw [f1, f2] at hadd
    rw [hm] at hmy
    have HDU := Lib.hid (fun W (hW : Chg [] w W) => rdue_any (h.quiet hW) hk hm hn now)
    obtain ⟨A, c, rfl, _, _, _, hcell⟩ := h.open_
    obtain ⟨x, hx, hxn⟩ := (there_head hk hm now).1 hth
    have hl0 := (List.getElem?_eq_some_iff.1 hx).1
    obtain ⟨b, o, rfl, lb, p0, p1⟩ := hcell 0 x hx
    simp only [Nat.zero_mul, Nat.add_zero] at p0 p1
    have HX9 := Lib.hid (fun W (hW : Chg [] w W) => (hW.cell (p := ⟨b, o + 1, none⟩) lb (by simp)).trans p1)
    obtain ⟨hdf, _⟩ := due_form hk hm hth
    have hdo := hk.due hm now
    have hds := sumP_due (l := l) now
    have hdl := due_len (l := l) now
    have hms := (mayP_iff.1 hm).1
    have hE : chargeP l now per most = (backP (decP (dueL l now) 1) (now + per) most, true) := by rw [chargeP_yes hcan]; rfl
    obtain ⟨n, e1⟩ : ∃ n, n = l.length := ⟨_, rfl⟩
    obtain ⟨T, hT⟩ : ∃ T, T = thereP l now := ⟨_, rfl⟩
    obtain ⟨t, ht⟩ : ∃ t, t = aheadP l (dueN l now) := ⟨_, rfl⟩
    obtain ⟨r, hr⟩ : ∃ r, r = l.drop (dueN l now) := ⟨_, rfl⟩
    obtain ⟨at_, hat⟩ : ∃ at_, at_ = now + per := ⟨_, rfl⟩
    rw [← hT, ← ht, ← hr] at hdf
    rw [← e1] at hmy HDU ⊢
    rw [← hT] at hth
    rw [hdf] at hdo hds hdl
    rw [hdf, ← hat, decP_cons] at hE
    rw [← hat] at hadd
    rw [hdf] at HDU
    have hT2 := hdo.head.1
    have hr0 := sumP_nonneg hdo.tail
    obtain ⟨hT0, hT1⟩ := hT2
    simp only [sumP] at hds
    simp only at hT0 hT1
    unfold holdsP at hho
    simp only [Bool.and_eq_true, decide_eq_true_iff] at hho
    have k1 : IntKind.u64.wrap (T - 1) = T - 1 := by rw [IntKind.wrap_u64]; omega
    have g1 : decide (most < 1) = false := by simp; omega
    have g2 : decide ((n : Int) > most) = false := by simp; omega
    have g2' : decide (most < (n : Int)) = false := by simp; omega
    have g3 : (per == 0) = false := by simpa using hp0
    have g4 : ((n : Int) == 0) = false := by simp; omega
    have g5 : (0 : Int) < (n : Int) := by omega
    have g6 : decide (x.2 > now) = false := by simp; omega
    have g6' : decide (now < x.2) = false := by simp; omega
    have HRN := Lib.hid (show r.length + 1 ≤ 100000 by simp only [List.length_cons] at hdl; omega)
    rw [hE]
    by_cases hT9 : T = 1
    · rw [if_pos hT9]
      by_cases hr9 : r.length = 0
      · have hrr : r = [] := List.eq_nil_of_length_eq_zero hr9
        rw [show backP r at_ most = [(1, at_)] by rw [hrr]; unfold backP; rw [if_pos (.inl rfl), if_pos (by simp; omega)]; rfl]
        exact rch_1 hadd hmy HX9 HDU HRN g1 g2 g2' g3 g4 g5 g6 g6' k1 hT9 hrr
      · have hl := lastP_at (l := r) (by omega)
        have h1 := sumP_snoc hl
        rw [show r.length - 1 + 1 = r.length by omega, List.take_length] at h1
        have h2 := sumP_nonneg (hdo.tail.take (r.length - 1))
        have h3 := (hdo.tail.at hl).1.1
        have m5 : IntKind.u64.wrap ((lastP r).1 + 1) = (lastP r).1 + 1 := by rw [IntKind.wrap_u64]; omega
        by_cases hlt : (lastP r).2 < at_
        · by_cases hrm : (r.length : Int) < most
          · rw [show backP r at_ most = r ++ [(1, at_)] by unfold backP; rw [if_pos (.inr hlt), if_pos hrm]]
            exact rch_2 hadd hmy HX9 HDU HRN g1 g2 g2' g3 g4 g5 g6 g6' k1 hT9 rfl (by omega : r.length - 1 + 1 = r.length) rfl hl m5 hlt hrm
          · rw [show backP r at_ most = r.set (r.length - 1) ((lastP r).1 + 1, at_) by unfold backP; rw [if_pos (.inr hlt), if_neg hrm]]
            exact rch_3 hadd hmy HX9 HDU HRN g1 g2 g2' g3 g4 g5 g6 g6' k1 hT9 rfl (by omega : r.length - 1 + 1 = r.length) rfl hl m5 hlt hrm
        · rw [show backP r at_ most = r.set (r.length - 1) ((lastP r).1 + 1, (lastP r).2) by unfold backP; rw [if_neg (by omega)]]
          exact rch_4 hadd hmy HX9 HDU HRN g1 g2 g2' g3 g4 g5 g6 g6' k1 hT9 rfl (by omega : r.length - 1 + 1 = r.length) rfl hl m5 hlt
    · rw [if_neg hT9]
      obtain ⟨x2, hlast, hx2, m5⟩ : ∃ x2, ((T - 1, t) :: r)[r.length]? = some x2 ∧ lastP ((T - 1, t) :: r) = x2 ∧ IntKind.u64.wrap (x2.1 + 1) = x2.1 + 1 := by
        have h1 := lastP_at (l := (T - 1, t) :: r) (by simp)
        rw [show ((T - 1, t) :: r).length - 1 = r.length by simp] at h1
        refine ⟨_, h1, rfl, ?_⟩
        have h2 : 0 ≤ (lastP ((T - 1, t) :: r)).1 ∧ (lastP ((T - 1, t) :: r)).1 + 1 < 18446744073709551616 := by
          by_cases hr9 : r.length = 0
          · have hrr : r = [] := List.eq_nil_of_length_eq_zero hr9
            rw [hrr]
            show 0 ≤ T - 1 ∧ T - 1 + 1 < 18446744073709551616
            omega
          · have h3 := lastP_at (l := r) (by omega)
            rw [show r.length = (r.length - 1) + 1 by omega, List.getElem?_cons_succ, h3] at h1
            rw [← Option.some.inj h1]
            have h4 := sumP_snoc h3
            rw [show r.length - 1 + 1 = r.length by omega, List.take_length] at h4
            have h5 := sumP_nonneg (hdo.tail.take (r.length - 1))
            have h6 := (hdo.tail.at h3).1.1
            omega
        rw [IntKind.wrap_u64]
        omega
      have hlen : ((T - 1, t) :: r).length - 1 = r.length := by simp
      have hlen2 : ((T - 1, t) :: r).length = r.length + 1 := by simp
      by_cases hlt : x2.2 < at_
      · by_cases hrm : ((r.length + 1 : Nat) : Int) < most
        · rw [show backP ((T - 1, t) :: r) at_ most = ((T - 1, t) :: r) ++ [(1, at_)] by unfold backP; rw [hx2, hlen2, if_pos (.inr hlt), if_pos hrm]]
          exact rch_5 hadd hmy HX9 HDU HRN g1 g2 g2' g3 g4 g5 g6 g6' k1 hT9 rfl rfl hlast m5 hlt hrm
        · rw [show backP ((T - 1, t) :: r) at_ most = ((T - 1, t) :: r).set r.length (x2.1 + 1, at_) by unfold backP; rw [hx2, hlen, hlen2, if_pos (.inr hlt), if_neg hrm]]
          exact rch_6 hadd hmy HX9 HDU HRN g1 g2 g2' g3 g4 g5 g6 g6' k1 hT9 rfl rfl hlast m5 hlt hrm
      · rw [show backP ((T - 1, t) :: r) at_ most = ((T - 1, t) :: r).set r.length (x2.1 + 1, x2.2) by unfold backP; rw [hx2, hlen, if_neg (by simp; omega)]]
        exact rch_7 hadd hmy HX9 HDU HRN g1 g2 g2' g3 g4 g5 g6 g6' k1 hT9 rfl rfl hlast m5 hlt
  · rw [chargeP_no hcan]
    exact rch_no h hk hn hnow hper hcan
end Go.Proofs
end
section
namespace Go.Proofs
open Go.RowKit
set_option linter.unusedVariables false

/-- What is there of the list Due is what was there. -/
theorem due_first {l : List Rf} (hm : mayP l = true) {now : Int} (h0 : 0 < dueN l now) : aheadP l (dueN l now) ≤ now := by
  have hle := dueN_le l now
  obtain ⟨x, hx⟩ : ∃ x, l[dueN l now - 1]? = some x := ⟨_, List.getElem?_eq_getElem (by omega)⟩
  have := aheadP_succ hx
  rw [show dueN l now - 1 + 1 = dueN l now by omega] at this
  rw [this]
  exact (due_split (mayP_iff.1 hm).2 hx).2 (by omega)
theorem late_rest {l : List Rf} (hf : fineP l = true) (now : Int) : ∀ x ∈ l.drop (dueN l now), now < x.2 := by
  intro x hx
  obtain ⟨j, hj, hje⟩ := List.mem_iff_getElem.1 hx
  rw [List.length_drop] at hj
  rw [List.getElem_drop] at hje
  refine Int.not_le.1 (fun hc => ?_)
  have := (due_split (now := now) hf (List.getElem?_eq_getElem (by omega : dueN l now + j < l.length))).1 (by rw [hje]; exact hc)
  omega
theorem thereL_late {l : List Rf} {now : Int} (h : ∀ x ∈ l, now < x.2) : thereL l now = [] := by
  unfold thereL
  rw [List.filter_eq_nil_iff]
  intro x hx hc
  have h1 := h x hx
  have h2 : x.2 ≤ now := by simpa using hc
  omega
theorem thereL_cons {x : Rf} {l : List Rf} {now : Int} (h : x.2 ≤ now) : thereL (x :: l) now = x :: thereL l now := by
  unfold thereL
  rw [List.filter_cons, if_pos (by simpa using h)]
theorem there_due {l : List Rf} (hk : Ok l) (hm : mayP l = true) (now : Int) : thereP (dueL l now) now = thereP l now := by
  by_cases h0 : dueN l now = 0
  · rw [show dueL l now = l by unfold dueL; rw [if_pos h0]]
  · obtain ⟨h1, h2⟩ := mayP_iff.1 hm
    have hle := sumP_le hk (dueN l now)
    rw [thereP_fine hk hm]
    have e : thereL (dueL l now) now = [(sumP (l.take (dueN l now)), aheadP l (dueN l now))] := by
      unfold dueL
      rw [if_neg h0, thereL_cons (due_first hm (by omega)), thereL_late (late_rest h2 now)]
    unfold thereP
    rw [e, (sum_all (l := [(sumP (l.take (dueN l now)), aheadP l (dueN l now))]) (by simp [sumP]; omega)).1]
    simp [sumP]
def incP : List Rf → Int → List Rf
  | [], _ => []
  | (a, t) :: r, m => (a + m, t) :: r
def giveP (l : List Rf) (now m most : Int) : List Rf × Int :=
  if mayP l = false ∨ m = 0 ∨ holdsP l most = false then ([], 2)
  else if ¬ sumP l + m < 18446744073709551616 then ([], 6)
  else if 1 ≤ thereP l now then (incP (dueL l now) m, 0)
  else if (l.length : Int) = most then ([], 3)
  else ((m, now) :: l, 0)
theorem due_none {l : List Rf} (hk : Ok l) (hm : mayP l = true) {now : Int} (h : ¬ 1 ≤ thereP l now) : dueL l now = l ∧ thereP l now = 0 := by
  rw [thereP_fine hk hm] at h ⊢
  have h0 : dueN l now = 0 := by
    refine Classical.byContradiction (fun e => h ?_)
    exact due_sum hk (mayP_iff.1 hm).2 (by omega) (dueN_le l now)
  refine ⟨by unfold dueL; rw [if_pos h0], by rw [h0]; simp [sumP]⟩
set_option maxHeartbeats 6400000 in
set_option maxRecDepth 100000 in
/-- The document's Pull. -/
theorem rpull_any {w : World} {v : Value} {l : List Rf} (h : In w v l) (hk : Ok l) (hn : l.length ≤ 100000) (now : Int) (m : Int) (hm : U64 m) :
    Calls Tryz.prog 113 #[v, .int .u64 now, .int .u64 m] w fun e w' => ∃ v', e = .returned (.tuple #[v', .int .i64 (pullP l now m).2]) ∧ Mine w w' v' (pullP l now m).1 := by
  have hmy := rmay_any h hk hn
  have HTH := Lib.hid (fun W (hW : Chg [] w W) => (rthere_any (h.quiet hW) hk hn now).mono (R' := fun e w' => e = .returned (.int .u64 (thereP l now)) ∧ Chg [] W w') (fun e w' ⟨h1, h2⟩ => ⟨h1, by rw [← h2]; exact Chg.refl _ _⟩))
  have HDU := Lib.hid (fun (hm9 : mayP l = true) W (hW : Chg [] w W) => rdue_any (h.quiet hW) hk hm9 hn now)
  obtain ⟨A, c, rfl, _⟩ := h.open_
  obtain ⟨n, e1⟩ : ∃ n, n = l.length := ⟨_, rfl⟩
  rw [← e1] at hmy HTH HDU ⊢
  cases hmp : mayP l with
  | false =>
    rw [hmp] at hmy
    have HE := Lib.hid (show pullP l now m = ([], 2) by unfold pullP; rw [if_pos (.inl hmp)])
    clear h hk hn e1 hmp hm
    go_enter Tryz.func113, Tryz.ntmps113
    go_wp2_with (go_at_call 16; refine hmy.mono ?_; rintro e w1 ⟨rfl, h1⟩; have H1 := Lib.hid h1; clear h1)
    go_ret2
    exact ⟨_, by rw [HE.out]; rfl, by rw [HE.out]; exact Mine.nil H1.out⟩
  | true =>
    rw [hmp] at hmy
    replace HDU := Lib.hid (HDU.out hmp)
    by_cases hm0 : m = 0
    · have HE := Lib.hid (show pullP l now m = ([], 2) by unfold pullP; rw [if_pos (.inr hm0)])
      have g0 : (m == 0) = true := by simpa using hm0
      clear h hk hn e1 hmp hm hm0
      go_enter Tryz.func113, Tryz.ntmps113
      go_wp2_with (go_at_call 16; refine hmy.mono ?_; rintro e w1 ⟨rfl, h1⟩; have H1 := Lib.hid h1; clear h1)
      go_ret2
      exact ⟨_, by rw [HE.out]; rfl, by rw [HE.out]; exact Mine.nil H1.out⟩
    · have g0 : (m == 0) = false := by simpa using hm0
      by_cases hlt : thereP l now < m
      · have HE := Lib.hid (show pullP l now m = ([], 15) by unfold pullP; rw [if_neg (by rw [hmp]; simpa using hm0), if_pos hlt])
        obtain ⟨T, hT⟩ : ∃ T, T = thereP l now := ⟨_, rfl⟩
        rw [← hT] at HTH hlt
        have g1 : decide (T < m) = true := by simpa using hlt
        clear h hk hn e1 hmp hm hm0 hT hlt
        go_enter Tryz.func113, Tryz.ntmps113
        go_wp2_with (first
          | (go_at_call 16; refine hmy.mono ?_; rintro e w1 ⟨rfl, h1⟩; have H1 := Lib.hid h1; clear h1)
          | (go_at_call 80; refine (HTH.out _ H1.out).mono ?_; rintro e w2 ⟨rfl, h1⟩; have H2 := Lib.hid (H1.out.then h1); clear h1))
        go_ret2
        exact ⟨_, by rw [HE.out]; rfl, by rw [HE.out]; exact Mine.nil H2.out⟩
      · have hE : pullP l now m = (decP (dueL l now) m, 0) := by unfold pullP; rw [if_neg (by rw [hmp]; simpa using hm0), if_neg hlt]
        have hm1 : 1 ≤ m := by have := hm.1; omega
        obtain ⟨hdf, _⟩ := due_form hk hmp (now := now) (by omega)
        have hdo := (hk.due hmp now)
        rw [hdf] at hdo
        have hT2 := hdo.head.1
        obtain ⟨T, hT⟩ : ∃ T, T = thereP l now := ⟨_, rfl⟩
        obtain ⟨t, ht⟩ : ∃ t, t = aheadP l (dueN l now) := ⟨_, rfl⟩
        obtain ⟨r, hr⟩ : ∃ r, r = l.drop (dueN l now) := ⟨_, rfl⟩
        rw [← hT] at HTH hlt hT2
        rw [← hT, ← ht, ← hr] at hdf
        rw [hdf] at HDU hE
        obtain ⟨hT0, hT1⟩ := hT2
        simp only at hT0 hT1
        have g1 : decide (T < m) = false := by simpa using hlt
        have g2 : IntKind.u64.wrap (T - m) = T - m := by rw [IntKind.wrap_u64]; omega
        by_cases hTm : T = m
        · have HE := Lib.hid (show pullP l now m = (r, 0) by rw [hE, decP_cons, if_pos hTm])
          have g3 : (T - m == 0) = true := by simp; omega
          clear h hk hn e1 hmp hm hm0 hT ht hr hlt hdf hdo hE hm1 hT0 hT1 hTm
          have HR := Lib.hid (show ∀ (W : World) (g N cap : Nat), Mine w W (.slice (some ⟨g, 0, none⟩) N cap) ((T, t) :: r) → Mine w (W.setCell ⟨g, 0, none⟩ (.int .u64 (T - m))) (.slice (some ⟨g, 0, none⟩) N cap) ((T - m, t) :: r) from fun W g N cap hM => by
            have := hM.set1 (k := 0) (x := (T, t)) rfl (T - m)
            simpa using this)
          go_enter Tryz.func113, Tryz.ntmps113
          go_wp2_with (first
            | (go_at_call 16; refine hmy.mono ?_; rintro e w1 ⟨rfl, h1⟩; have H1 := Lib.hid h1; clear h1)
            | (go_at_call 80; refine (HTH.out _ H1.out).mono ?_; rintro e w2 ⟨rfl, h1⟩; have H2 := Lib.hid (H1.out.then h1); clear h1)
            | (go_at_call 112; refine (HDU.out _ H2.out).mono ?_; rintro e w3 ⟨v3, rfl, h1⟩; obtain ⟨g, cap, rfl, _, hcap, lg, y0, y1, hfz⟩ := h1.1.head; have f0 := hfz 0; have H3 := Lib.hid (h1.before H2.out).mine; clear h1 hfz; obtain ⟨N, hN⟩ : ∃ N, N = r.length + 1 := ⟨_, rfl⟩; rw [← hN] at hcap H3 ⊢; have q1 : (1 : Int) ≤ (N : Int) := (by omega); have q0 : (0 : Int) < (N : Int) := (by omega); have q2 : (1 : Int) ≤ (cap : Int) := (by omega); clear hN))
          · have H4 := Lib.hid ((HR.out _ _ _ _ H3.out).rest0 (by omega))
            go_ret2
            obtain ⟨z1, z2, z3, z4⟩ := H4.out
            exact ⟨_, by rw [HE.out]; rfl, by rw [HE.out]; have : N - 1 = 0 := z1; simpa [this] using z4⟩
          · have H4 := Lib.hid ((HR.out _ _ _ _ H3.out).rest (by omega))
            go_ret2
            exact ⟨_, by rw [HE.out]; rfl, by rw [HE.out]; simpa using H4.out⟩
        · have HE := Lib.hid (show pullP l now m = ((T - m, t) :: r, 0) by rw [hE, decP_cons, if_neg hTm])
          have g3 : (T - m == 0) = false := by simp; omega
          clear h hk hn e1 hmp hm hm0 hT ht hr hlt hdf hdo hE hm1 hT0 hT1 hTm
          have HR := Lib.hid (show ∀ (W : World) (g N cap : Nat), Mine w W (.slice (some ⟨g, 0, none⟩) N cap) ((T, t) :: r) → Mine w (W.setCell ⟨g, 0, none⟩ (.int .u64 (T - m))) (.slice (some ⟨g, 0, none⟩) N cap) ((T - m, t) :: r) from fun W g N cap hM => by
            have := hM.set1 (k := 0) (x := (T, t)) rfl (T - m)
            simpa using this)
          go_enter Tryz.func113, Tryz.ntmps113
          go_wp2_with (first
            | (go_at_call 16; refine hmy.mono ?_; rintro e w1 ⟨rfl, h1⟩; have H1 := Lib.hid h1; clear h1)
            | (go_at_call 80; refine (HTH.out _ H1.out).mono ?_; rintro e w2 ⟨rfl, h1⟩; have H2 := Lib.hid (H1.out.then h1); clear h1)
            | (go_at_call 112; refine (HDU.out _ H2.out).mono ?_; rintro e w3 ⟨v3, rfl, h1⟩; obtain ⟨g, cap, rfl, _, hcap, lg, y0, y1, hfz⟩ := h1.1.head; have f0 := hfz 0; have H3 := Lib.hid (h1.before H2.out).mine; clear h1 hfz; obtain ⟨N, hN⟩ : ∃ N, N = r.length + 1 := ⟨_, rfl⟩; rw [← hN] at hcap H3 ⊢; have q1 : (1 : Int) ≤ (N : Int) := (by omega); have q0 : (0 : Int) < (N : Int) := (by omega); clear hN))
          go_ret2
          exact ⟨_, by rw [HE.out]; rfl, by rw [HE.out]; exact HR.out _ _ _ _ H3.out⟩
end Go.Proofs
end
