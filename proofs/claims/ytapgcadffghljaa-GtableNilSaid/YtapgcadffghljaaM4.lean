import Derived.Test.YtapgcadffghljaaM3
import Derived.LaidEqlPtr
import Derived.Deep.RegionWith
import Derived.Deep.RegionHeld3
import Derived.Deep.RegionLaw
section
namespace Go.Proofs
open Go.RowKit
set_option linter.unusedVariables false
set_option linter.unusedSimpArgs false

theorem find_no_C {w : World} {g : Nat} {S : List Nat} {t : Tab Gr} (h : TabAt w g S t) (hw : t.WF) (i q : Int) (i0 : -9223372036854775808 ≤ i) (i1 : i ≤ 9223372036854775807) (hno : t.has i q = false) :
    Calls Try.prog 60 #[.pointer (some ⟨g, 0, none⟩), .agg #[.int .i64 i, .int .u64 q]] w fun e w' => e = .returned (.tuple #[.pointer none, .int .i64 11]) ∧ Chg [] w w' := by
  rcases live_cases t i with ⟨s, hs⟩ | hn
  · have hg : s.gen ≠ q := fun e => by have := has_iff.2 ⟨s, hs, e⟩; rw [hno] at this; cases this
    obtain ⟨q1, q2, q3⟩ := live_some hs
    have HA := fun w' => at_C (w := w') (g := g) (S := S) (t := t) (i := i)
    rw [q1, q2, q3] at HA
    have hb : (s.gen == q) = false := by simpa using hg
    have hb2 : (s.gen != q) = true := by simpa using hg
    clear q1 q2 q3 hg hno hs
    go_enter Try.func60, Try.ntmps60
    go_wp2_with (first
      | (go_at_call 57; refine (none_C (h.quiet (Chg.alloc (Chg.refl _ _) _)) hw).mono ?_; rintro e w' ⟨rfl, rfl⟩)
      | (go_at_call 51; refine (HA _ (h.quiet (Chg.alloc (Chg.refl _ _) _)) hw i0 i1).mono ?_; rintro e w1 ⟨rfl, hc1⟩; have hz : w.heap.size < w1.heap.size := (by have := hc1.size; simp at this; omega); have k3 := ((Blk.new w 33 _).chg hc1 (by simp)).cell 0; have k4 := ((Blk.new w 33 _).chg hc1 (by simp)).cell 1))
    exact bodyPost_ret (v := .tuple #[.pointer none, .int .i64 11]) (by simp [results, Try.results60, go_sem]) rfl ⟨rfl, ((Chg.refl _ _).alloc _).then (hc1.then ((Chg.refl _ _).alloc _))⟩
  · obtain ⟨q1, q2, q3, _⟩ := live_none hn
    have HA := fun w' => at_C (w := w') (g := g) (S := S) (t := t) (i := i)
    rw [q1, q2, q3] at HA
    clear q1 q2 q3 hn hno
    go_enter Try.func60, Try.ntmps60
    go_wp2_with (first
      | (go_at_call 57; refine (none_C (h.quiet (Chg.alloc (Chg.refl _ _) _)) hw).mono ?_; rintro e w' ⟨rfl, rfl⟩)
      | (go_at_call 51; refine (HA _ (h.quiet (Chg.alloc (Chg.refl _ _) _)) hw i0 i1).mono ?_; rintro e w1 ⟨rfl, hc1⟩; have hz : w.heap.size < w1.heap.size := (by have := hc1.size; simp at this; omega); have k3 := ((Blk.new w 33 _).chg hc1 (by simp)).cell 0; have k4 := ((Blk.new w 33 _).chg hc1 (by simp)).cell 1))
    exact bodyPost_ret (v := .tuple #[.pointer none, .int .i64 11]) (by simp [results, Try.results60, go_sem]) rfl ⟨rfl, ((Chg.refl _ _).alloc _).then (hc1.then ((Chg.refl _ _).alloc _))⟩
theorem find_yes_C {w : World} {g : Nat} {S : List Nat} {t : Tab Gr} (h : TabAt w g S t) (hw : t.WF) {k : Nat} {s : Spot Gr} (hs : t.spots[k]? = some s) (hth : s.there = true) {gs n cs : Nat} (hv : w.cell? ⟨g, 2, none⟩ = some (.slice (some ⟨gs, 0, none⟩) n cs)) (hn : n = t.spots.length) :
    Calls Try.prog 60 #[.pointer (some ⟨g, 0, none⟩), .agg #[.int .i64 (k : Nat), .int .u64 s.gen]] w fun e w' => e = .returned (.tuple #[.pointer (some ⟨gs, k * 21, none⟩), .int .i64 0]) ∧ Chg [] w w' := by
  obtain ⟨q1, q2, q3⟩ := live_some (live_nat.2 ⟨hs, hth⟩)
  have hk := (List.getElem?_eq_some_iff.1 hs).1
  have hl := hw.len
  have hs1 := hw.s1
  have HA := fun w' => at_C (w := w') (g := g) (S := S) (t := t) (i := (k : Nat))
  rw [q1, q2, q3] at HA
  have lg := h.lt g h.mem
  rw [← hn] at hk hl
  have i0 : (0 : Int) ≤ (k : Int) := by omega
  have i1 : (k : Int) < (n : Int) := by omega
  have HN := Lib.hid hn
  clear q1 q2 q3 hs hth hn
  go_enter Try.func60, Try.ntmps60
  go_wp2_with (first
    | (go_at_call 57; refine (none_C (h.quiet (Chg.alloc (Chg.refl _ _) _)) hw).mono ?_; rintro e w' ⟨rfl, rfl⟩)
    | (go_at_call 51; refine (HA _ (h.quiet (Chg.alloc (Chg.refl _ _) _)) hw (by omega) (by omega)).mono ?_; rintro e w1 ⟨rfl, hc1⟩; have hz : w.heap.size < w1.heap.size := (by have := hc1.size; simp at this; omega); have lg1 : g < w1.heap.size := (by omega); have k3 := ((Blk.new w 33 _).chg hc1 (by simp)).cell 0; have k4 := ((Blk.new w 33 _).chg hc1 (by simp)).cell 1; have k5 : w1.cell? ⟨g, 2, none⟩ = some (.slice (some ⟨gs, 0, none⟩) n cs) := (hc1.cell (p := ⟨g, 2, none⟩) (by simp; omega) (by simp)).trans ((World.cell?_alloc_lt w _ _ lg).trans hv)))
  go_quiet (fail)
  go_wp2
  exact bodyPost_ret (v := .tuple #[.pointer (some ⟨gs, k * 21, none⟩), .int .i64 0]) (by simp [results, Try.results60, go_sem]) rfl ⟨rfl, ((Chg.refl _ _).alloc _).then (hc1.then (((Chg.refl _ _).alloc _).drewN _))⟩

/-- What there is of the boxes behind a call that turned nothing. -/
theorem box2 {w w1 : World} {a b : Obj} {t : TypeId} {cs : Array Value} (hb : b = .cells cs t) (hc : Chg [] ((w.alloc a).alloc b) w1) :
    Blk w1 (w.heap.size + 1) t cs := by
  subst hb
  have := (Blk.new (w.alloc a) t cs).chg hc (by simp)
  simpa using this

set_option maxRecDepth 100000 in
theorem get_no_C {w : World} {g : Nat} {S : List Nat} {t : Tab Gr} (h : TabAt w g S t) (hw : t.WF) (i q : Int) (i0 : -9223372036854775808 ≤ i) (i1 : i ≤ 9223372036854775807) (hno : t.has i q = false) :
    Calls Try.prog 41 #[.pointer (some ⟨g, 0, none⟩), .agg #[.int .i64 i, .int .u64 q]] w fun e w' => e = .returned (.tuple #[Gr.zero.val, .int .i64 11]) ∧ Chg [] w w' := by
  have HA := fun w' h' => find_no_C (w := w') (g := g) (S := S) (t := t) h' hw i q i0 i1 hno
  clear hno
  go_enter Try.func41, Try.ntmps41
  go_wp2_with (first
    | (go_at_call 60; refine (HA _ (h.quiet (((Chg.refl _ _).alloc _).alloc _))).mono ?_; rintro e w1 ⟨rfl, hc1⟩; have hz : w.heap.size + 1 < w1.heap.size := (by have := hc1.size; simp at this; omega); have HC := Lib.hid (((Chg.refl [] w).alloc _).alloc _ |>.then hc1); have hB1 := Lib.hid (box2 rfl hc1); clear hc1)
    | (refine wpl_load T37 (Blk.new w1 37 zG) rfl rfl _ rfl rfl ?_)
    | (refine wpl_store T37 (hB1.out.alloc _) rfl rfl Gr.zero.one rfl _ _ rfl rfl rfl ?_; intro w3 hS3))
  refine bodyPost_ret (res_cell (b := w.heap.size + 1) rfl T37 rfl rfl hS3.blk rfl) rfl ⟨rfl, ?_⟩
  exact (HC.out.alloc _).trans hS3.chg (fun k hk => by simp at hk; omega)
set_option maxRecDepth 100000 in
theorem get_yes_C {w : World} {g : Nat} {S : List Nat} {t : Tab Gr} (h : TabAt w g S t) (hw : t.WF) {i q : Int} {s : Spot Gr} (hq : t.has i q = true) (hl : t.live i = some s) :
    Calls Try.prog 41 #[.pointer (some ⟨g, 0, none⟩), .agg #[.int .i64 i, .int .u64 q]] w fun e w' => e = .returned (.tuple #[s.thing.val, .int .i64 0]) ∧ Chg [] w w' := by
  obtain ⟨k, s', gs, cs, VF, rfl, rfl, hs, hth, hk, hB, hS, hF, hSS⟩ := has_form h hq
  have e := (live_nat.1 hl).1
  rw [hs] at e
  obtain rfl : s' = s := by injection e
  have HA := fun w' h' => find_yes_C (w := w') (g := g) (S := S) (t := t) h' hw hs hth (gs := gs) (cs := cs) (n := t.spots.length)
  obtain ⟨gs', cs', hv, _, _, hgs, _, _, _, a2, _⟩ := open_spot hS hs
  simp only [Value.slice.injEq, Option.some.injEq, Addr.mk.injEq] at hv
  obtain ⟨⟨rfl, _⟩, _, _⟩ := hv
  have hz1 := s'.thing.size
  have ho1 := s'.thing.one
  unfold Gr.val
  generalize s'.thing.arr = A at *
  have hB' := Lib.hid hB
  clear hS hF hSS hl hq hs hth hB e
  go_enter Try.func41, Try.ntmps41
  go_wp2_with (first
    | (go_at_call 60; refine (HA _ (h.quiet (((Chg.refl _ _).alloc _).alloc _)) (((hB'.out.alloc _).alloc _).cell 2) rfl).mono ?_; rintro e w1 ⟨rfl, hc1⟩; have hz : w.heap.size + 1 < w1.heap.size := (by have := hc1.size; simp at this; omega); have lgs1 : gs < w1.heap.size := (by omega); have HC := Lib.hid (((Chg.refl [] w).alloc _).alloc _ |>.then hc1); have hB1 := Lib.hid (box2 rfl hc1); have kk : ∀ j v, A[j]? = some v → w1.cell? ⟨gs, k * 21 + 2 + j, none⟩ = some v := (fun j v hv => (HC.out.cell (p := ⟨gs, k * 21 + 2 + j, none⟩) hgs (by simp)).trans (a2 j v hv)); clear hc1 a2)
    | (refine sk_list_load T37 hz1 kk rfl _ rfl rfl ?_)
    | (refine wpl_store T37 hB1.out rfl hz1 ho1 rfl _ _ rfl rfl rfl ?_; intro w3 hS3))
  refine bodyPost_ret (res_cell (b := w.heap.size + 1) rfl T37 rfl rfl hS3.blk hz1) rfl ⟨rfl, ?_⟩
  exact HC.out.trans hS3.chg (fun k hk => by simp at hk; omega)

set_option maxRecDepth 100000 in
theorem set_no_C {w : World} {g : Nat} {S : List Nat} {t : Tab Gr} (h : TabAt w g S t) (hw : t.WF) (i q : Int) (i0 : -9223372036854775808 ≤ i) (i1 : i ≤ 9223372036854775807) (hno : t.has i q = false) (x : Gr) :
    Calls Try.prog 44 #[.pointer (some ⟨g, 0, none⟩), .agg #[.int .i64 i, .int .u64 q], x.val] w fun e w' => e = .returned (.int .i64 11) ∧ Chg [] w w' := by
  have HA := fun w' h' => find_no_C (w := w') (g := g) (S := S) (t := t) h' hw i q i0 i1 hno
  clear hno
  unfold Gr.val
  generalize x.arr = A
  go_enter Try.func44, Try.ntmps44
  go_wp2_with (first
    | (go_at_call 60; refine (HA _ (h.quiet (((Chg.refl _ _).alloc _).alloc _))).mono ?_; rintro e w1 ⟨rfl, hc1⟩; have HC := Lib.hid (((Chg.refl [] w).alloc _).alloc _ |>.then hc1); clear hc1))
  go_ret
  exact ⟨rfl, HC.out⟩
set_option maxRecDepth 100000 in
theorem set_yes_C {w : World} {g : Nat} {S : List Nat} {t : Tab Gr} (h : TabAt w g S t) (hw : t.WF) {k : Nat} {s : Spot Gr} (hq : t.has (k : Nat) s.gen = true) (hs : t.spots[k]? = some s) (x : Gr) :
    Calls Try.prog 44 #[.pointer (some ⟨g, 0, none⟩), .agg #[.int .i64 (k : Nat), .int .u64 s.gen], x.val] w fun e w' => e = .returned (.int .i64 0) ∧ Turns g S { t with spots := t.spots.set k { s with thing := x } } w w' := by
  obtain ⟨k', s', gs, cs, VF, hkk, hgg, hs', hth, hk, hB, hS, hF, hSS⟩ := has_form h hq
  obtain rfl : k = k' := by omega
  obtain rfl : s' = s := by rw [hs] at hs'; injection hs' with e; exact e.symm
  have HA := fun w' h' => find_yes_C (w := w') (g := g) (S := S) (t := t) h' hw hs hth (gs := gs) (cs := cs) (n := t.spots.length)
  have hgs := hS.lt1
  have HT := Lib.hid (fun w1 w2 cur hc hcur hst => Turns.thing (w1 := w1) (w2 := w2) (cur := cur) hB hS hF hs x hc hcur hst)
  have hz1 := x.size
  have ho1 := x.one
  unfold Gr.val
  generalize x.arr = A at *
  obtain ⟨cur, hcur, hcz, _⟩ := hS.cur
  have hB' := Lib.hid hB
  have hcu := Lib.hid hcur
  have hfit : k * 21 + 2 + A.size ≤ cur.size := by omega
  clear hS hF hq hs hs' hth hB hkk hgg hcur
  rw [hSS] 
  clear hcz hk
  go_enter Try.func44, Try.ntmps44
  go_wp2_with (first
    | (go_at_call 60; refine (HA _ (h.quiet (((Chg.refl _ _).alloc _).alloc _)) (((hB'.out.alloc _).alloc _).cell 2) rfl).mono ?_; rintro e w1 ⟨rfl, hc1⟩; have hz : w.heap.size + 1 < w1.heap.size := (by have := hc1.size; simp at this; omega); have lgs1 : gs < w1.heap.size := (by omega); have HC := Lib.hid (((Chg.refl [] w).alloc _).alloc _ |>.then hc1); have hB1 := Lib.hid (box2 rfl hc1); clear hc1)
    | (refine wpl_load T37 hB1.out hz1 rfl _ rfl rfl ?_)
    | (refine sk_list_store T37 (hcu.out.chg HC.out (by simp)) hz1 hfit ho1 rfl _ _ rfl rfl rfl ?_; intro w3 hS3))
  go_ret
  exact ⟨rfl, HT.out _ _ _ HC.out (hcu.out.chg HC.out (by simp)) hS3⟩
end Go.Proofs
end
section
namespace Go.Proofs
open Go.RowKit
set_option linter.unusedVariables false
set_option linter.unusedSimpArgs false

theorem Blk.at' (w : World) (t : TypeId) (cs : Array Value) {n : Nat} (h : n = w.heap.size) : Blk (w.alloc (.cells cs t)) n t cs := by subst h; exact Blk.new w t cs
/-- The place that was taken, filled: in both orders. -/
theorem open_put_C {w : World} {g : Nat} {S : List Nat} {t : Tab Gr} (h : TabAt w g S t) {k : Nat} {s : Spot Gr} (hs : t.spots[k]? = some s) (x : Gr) :
    ∃ gs n cs cur, w.cell? ⟨g, 2, none⟩ = some (.slice (some ⟨gs, 0, none⟩) n cs) ∧ k < n ∧ Blk w gs 103 cur ∧ k * 21 + 21 ≤ cur.size ∧ w.cell? ⟨gs, k * 21 + 1, none⟩ = some (.bool s.there) ∧ gs ∈ S ∧ g ≠ gs ∧
      (∀ w2, Stored (w.setCell ⟨gs, k * 21 + 1, none⟩ (.bool true)) w2 gs 103 (splice_at (cur.setIfInBounds (k * 21 + 1) (.bool true)) (k * 21 + 2) x.arr) → TabAt w2 g S { t with spots := t.spots.set k ⟨s.gen, true, x⟩ } ∧ Chg [gs] w w2 ∧ w2.cell? ⟨gs, k * 21, none⟩ = some (.int .u64 s.gen)) := by
  obtain ⟨VS, VF, hB, hS, hF, rfl⟩ := h
  obtain ⟨gs, cs, rfl, hft, _, hlt, hk, a0, a1, _, hfz⟩ := open_spot hS hs
  have hg : g ≠ gs := by have := hS.ty hB (by decide); simpa [foot_some] using this
  have hfg : gs ∉ foot VF := fun h => hS.ty2 hF (by decide) gs (by simp [foot_some]) h
  obtain ⟨cur, hcur, hcz, htk⟩ := hS.cur
  have hfin : ∀ w2, Chg [gs] w w2 → Row w2 103 21 (.slice (some ⟨gs, 0, none⟩) t.spots.length cs) t.spots.length (spotCells (t.spots.set k ⟨s.gen, true, x⟩)) → TabAt w2 g (g :: (foot (.slice (some ⟨gs, 0, none⟩) t.spots.length cs) ++ foot VF)) { t with spots := t.spots.set k ⟨s.gen, true, x⟩ } ∧ Chg [gs] w w2 ∧ w2.cell? ⟨gs, k * 21, none⟩ = some (.int .u64 s.gen) := fun w2 hc hr => by
    refine ⟨⟨.slice (some ⟨gs, 0, none⟩) t.spots.length cs, VF, hB.chg hc (by simpa using hg), by simpa using hr, hF.chg hc (fun k hk hk' => by simp at hk'; subst hk'; exact hfg hk), rfl⟩, hc, ?_⟩
    obtain ⟨gs', cs', hv, _, _, hcell, _, _⟩ := hr.form (by omega)
    simp only [Value.slice.injEq, Option.some.injEq, Addr.mk.injEq] at hv
    obtain ⟨⟨rfl, _⟩, _, _⟩ := hv
    exact hcell _ _ (spotCells_at (s := ⟨s.gen, true, x⟩) (List.getElem?_set_self hk)).1
  have hz := hcur.lt
  refine ⟨gs, _, cs, cur, hB.cell 2, hk, hcur, by omega, a1, by simp [foot_some], hg, fun w2 hst => ?_⟩
  · have hS1 := hS.set_ (j := k * 21 + 1) (by omega) (.bool true)
    rw [spotCells_set1 true hs] at hS1
    have hb1 := hcur.set_ (k * 21 + 1) (.bool true)
    have hs1 : (t.spots.set k { s with there := true })[k]? = some { s with there := true } := List.getElem?_set_self hk
    have hl1 : t.spots.length = (t.spots.set k { s with there := true }).length := by simp
    obtain ⟨cur', hb', _, ht'⟩ := hS1.cur
    have : cur' = cur.setIfInBounds (k * 21 + 1) (.bool true) := by have := hb'.symm.trans hb1; simp at this; exact this
    subst this
    rw [hl1] at ht'
    have hy := splice_spot (off := k * 21 + 2) (A := x.arr) ht' hs1 (cells_thing _ x).1 (cells_thing _ x).2 (by rw [Gr.len, Gr.size]) rfl
    rw [← hl1, List.set_set] at hy
    have hr := hS1.stored hb' hst (by rw [Gr.size]; simp; omega) hy (by rw [spotCells_len, List.length_set])
    exact hfin w2 (((Chg.refl [gs] w).setCell (p := ⟨gs, k * 21 + 1, none⟩) (.inl (by simp)) _).trans hst.chg (fun k hk => .inl hk)) hr
set_option maxRecDepth 100000 in
theorem put_full_C {w : World} {g : Nat} {S : List Nat} {t : Tab Gr} (h : TabAt w g S t) (hw : t.WF) (hf : t.frees = 0) (x : Gr) :
    Calls Try.prog 50 #[.pointer (some ⟨g, 0, none⟩), x.val] w fun e w' => e = .returned (.tuple #[.agg #[.int .i64 0, .int .u64 0], .int .i64 3]) ∧ Chg [] w w' := by
  have HA := fun w' h' => free_C (w := w') (g := g) (S := S) (t := t) h' hw
  rw [hf] at HA
  unfold Gr.val
  generalize x.arr = A
  clear hf
  go_enter Try.func50, Try.ntmps50
  go_wp2_with (first
    | (go_at_call 57; refine (none_C (h.quiet (((Chg.refl _ _).alloc _).alloc _)) hw).mono ?_; rintro e w' ⟨rfl, rfl⟩)
    | (go_at_call 65; refine (HA _ (h.quiet (((Chg.refl _ _).alloc _).alloc _))).mono ?_; rintro e w' ⟨rfl, nq, rfl⟩))
  exact bodyPost_ret (v := .tuple #[.agg #[.int .i64 0, .int .u64 0], .int .i64 3]) (by simp [results, Try.results50, go_sem]) rfl ⟨rfl, (((((Chg.refl _ _).alloc _).alloc _).drewN _).setCell (p := ⟨w.heap.size + 1, 0, none⟩) (.inr (by simp)) _).setCell (p := ⟨w.heap.size + 1, 1, none⟩) (.inr (by simp)) _⟩
theorem off_box_C {S S1 : List Nat} {B H gs : Nat} (hB : B ∉ S) (hH : B < H) (hsub : ∀ k ∈ S1, k ∈ S ∨ H ≤ k) (hm : gs ∈ S1) : gs ≠ B := by
  rintro rfl
  rcases hsub _ hm with h | h
  · exact hB h
  · omega
set_option maxRecDepth 100000 in
set_option maxHeartbeats 1600000 in
theorem put_ok_C {w : World} {g : Nat} {S : List Nat} {t : Tab Gr} (h : TabAt w g S t) (hw : t.WF) (hf : t.frees ≠ 0) (x : Gr) :
    Calls Try.prog 50 #[.pointer (some ⟨g, 0, none⟩), x.val] w fun e w' => e = .returned (.tuple #[.agg #[.int .i64 (t.takeAt : Nat), .int .u64 (t.genAt t.takeAt)], .int .i64 0]) ∧ Turns g S (t.put Gr.zero x) w w' := by
  have HF := fun w' h' => free_C (w := w') (g := g) (S := S) (t := t) h' hw
  have HT := fun w' h' => take_C (w := w') (g := g) (S := S) (t := t) h' hw hf
  obtain ⟨s, hs, hth, _, _, _, _, hg, hlt⟩ := hw.take_at (z := Gr.zero) hf
  have hs1 := hw.s1
  have hb : (t.frees == 0) = false := by simpa using hf
  have HP := put_eq (z := Gr.zero) hw hf x
  rw [← hg] at HP
  have HO := fun w' S' h' => open_put_C (w := w') (g := g) (S := S') (t := t.take Gr.zero) h' hs x
  rw [hth] at HO
  rw [← hg, HP]
  obtain ⟨k, hk⟩ : ∃ k, k = t.takeAt := ⟨_, rfl⟩
  rw [← hk] at HT HO hlt ⊢
  obtain ⟨q, hq⟩ : ∃ q, q = s.gen := ⟨_, rfl⟩
  rw [← hq] at HO ⊢
  obtain ⟨T1, hT1⟩ : ∃ T1 : Tab Gr, T1 = { t.take Gr.zero with spots := (t.take Gr.zero).spots.set k ⟨q, true, x⟩ } := ⟨_, rfl⟩
  rw [← hT1] at HO ⊢
  have hz1 := x.size
  have ho1 := x.one
  unfold Gr.val
  generalize x.arr = A at *
  have hS := h.lt
  have hbx : w.heap.size ∉ S := fun hm => by have := hS _ hm; omega
  have hbx2 : w.heap.size + 1 ∉ S := fun hm => by have := hS _ hm; omega
  have HbS := Lib.hid hS
  have Hbx := Lib.hid hbx
  have Hbx2 := Lib.hid hbx2
  have Hh := Lib.hid h
  clear hs hth hg hf HP hk hq hS hbx hbx2 hT1
  go_enter Try.func50, Try.ntmps50
  go_wp2_with (first
    | (go_at_call 57; refine (none_C (h.quiet (((Chg.refl _ _).alloc _).alloc _)) hw).mono ?_; rintro e w' ⟨rfl, rfl⟩)
    | (go_at_call 65; refine (HF _ (h.quiet (((Chg.refl _ _).alloc _).alloc _))).mono ?_; rintro e w' ⟨rfl, nq, rfl⟩)
    | (go_at_call 66; refine (HT _ (h.quiet ((((Chg.refl _ _).alloc _).alloc _).drewN _))).mono ?_; rintro e w1 ⟨rfl, S1, hT1, hsub, hc1⟩; obtain ⟨gs, n, cs, cur, c2, hk, hcur, hcz, a1, hm, hne, HX1⟩ := HO _ _ hT1; have i0 : (0 : Int) ≤ (k : Int) := (by omega); have i1 : (k : Int) < (n : Int) := (by omega); have hB0 := Lib.hid ((((Blk.new w 37 A).alloc (.cells #[.int .i64 0, .int .u64 0] 33)).drewN nq).chg hc1 Hbx.out); have hB1 := Lib.hid (((Blk.at' (w.alloc (.cells A 37)) 33 #[.int .i64 0, .int .u64 0] (n := w.heap.size + 1) (by simp)).drewN nq).chg hc1 Hbx2.out); have f1 := hcur.frozen (k * 21 + 1); have hng : gs ≠ w.heap.size + 1 := off_box_C Hbx2.out (by simp) hsub hm; have hng0 : gs ≠ w.heap.size := off_box_C Hbx.out (by simp; omega) hsub hm; have hgs1 : gs < w1.heap.size := hcur.lt; have H1 := Lib.hid hT1; have H2 := Lib.hid hsub; have H3 := Lib.hid hc1; have H4 := Lib.hid HX1; have H5 := Lib.hid hm; have HC := Lib.hid hcur; have hfit : k * 21 + 2 + A.size ≤ cur.size := (by omega); clear hT1 hsub hc1 HX1 hm hcur))
  refine wp_region_held_drew (S := fun w' => Blk w' w.heap.size 37 A) (by kernel_rfl) hB0.out.drew (fun hHeld => ?_)
  simp only [List.setIfInBounds_toArray, List.size_toArray, List.length_cons, List.length_nil, Array.replicate]
  refine wpAnyH_take (i := 0) (v := ?_) rfl (by kernel_rfl) (by kernel_rfl) (by kernel_rfl) (fun _ _ _ h => h) (Or.inl ⟨by rfl, ?_⟩) hHeld ?_
  rotate_left
  · (intro w' hSw; go_simp; try with_reducible rfl)
  simp only [Act.put, List.getElem_toArray, List.getElem_cons_succ, List.getElem_cons_zero, List.setIfInBounds_toArray, List.set_cons_zero, List.set_cons_succ]
  refine wpAnyH_take (i := 1) (v := ?_) rfl (by kernel_rfl) (by kernel_rfl) (by kernel_rfl) (fun _ _ _ h => h) (Or.inl ⟨by rfl, ?_⟩) hHeld ?_
  rotate_left
  · (intro w' hSw; go_simp; try with_reducible rfl)
  simp only [Act.put, List.getElem_toArray, List.getElem_cons_succ, List.getElem_cons_zero, List.setIfInBounds_toArray, List.set_cons_zero, List.set_cons_succ]
  refine wpAnyH_take (i := 2) (v := .agg A) rfl (by kernel_rfl) (by kernel_rfl) (by kernel_rfl) (fun _ _ _ h => h) (Or.inl ⟨by rfl, fun w' hSw => sk_run_load T37 hz1 (blk_cells hSw) _ (by rfl) (by rfl)⟩) hHeld ?_
  simp only [Act.put, List.getElem_toArray, List.getElem_cons_succ, List.getElem_cons_zero, List.setIfInBounds_toArray, List.set_cons_zero, List.set_cons_succ]
  refine wpAnyH_take (i := 3) (v := ?_) rfl (by kernel_rfl) (by kernel_rfl) (by kernel_rfl) (fun _ _ _ h => h) (Or.inl ⟨by rfl, ?_⟩) hHeld ?_
  rotate_left
  · (intro w' hSw; go_simp; try with_reducible rfl)
  simp only [Act.put, List.getElem_toArray, List.getElem_cons_succ, List.getElem_cons_zero, List.setIfInBounds_toArray, List.set_cons_zero, List.set_cons_succ]
  refine wpAnyH_take (i := 4) (v := ?_) rfl (by kernel_rfl) (by kernel_rfl) (by kernel_rfl) (fun _ _ _ h => h) (Or.inl ⟨by rfl, ?_⟩) hHeld ?_
  rotate_left
  · (intro w' hSw; go_simp; try with_reducible rfl)
  simp only [Act.put, List.getElem_toArray, List.getElem_cons_succ, List.getElem_cons_zero, List.setIfInBounds_toArray, List.set_cons_zero, List.set_cons_succ]
  refine wpAnyH_ready (rs := [5]) (by kernel_rfl) (by simp) ?_
  refine AllReadyH.cons rfl (fun K hK => ?_) AllReadyH.nil
  go_simp
  refine hK _ _ (hHeld.far (by simpa using hng0.symm) _) (fun hHeld => ?_)
  clear hK K
  simp only [Act.put, List.getElem_toArray, List.getElem_cons_succ, List.getElem_cons_zero, List.setIfInBounds_toArray, List.set_cons_zero, List.set_cons_succ]
  refine wpAnyH_take (i := 6) (v := ?_) rfl (by kernel_rfl) (by kernel_rfl) (by kernel_rfl) (fun _ _ _ h => h) (Or.inl ⟨by rfl, ?_⟩) hHeld ?_
  rotate_left
  · (intro w' hSw; go_simp; try with_reducible rfl)
  simp only [Act.put, List.getElem_toArray, List.getElem_cons_succ, List.getElem_cons_zero, List.setIfInBounds_toArray, List.set_cons_zero, List.set_cons_succ]
  refine wpAnyH_take (i := 7) (v := ?_) rfl (by kernel_rfl) (by kernel_rfl) (by kernel_rfl) (fun _ _ _ h => h) (Or.inl ⟨by rfl, ?_⟩) hHeld ?_
  rotate_left
  · (intro w' hSw; go_simp; try with_reducible rfl)
  simp only [Act.put, List.getElem_toArray, List.getElem_cons_succ, List.getElem_cons_zero, List.setIfInBounds_toArray, List.set_cons_zero, List.set_cons_succ]
  refine wpAnyH_ready (rs := [8]) (by kernel_rfl) (by simp) ?_
  refine AllReadyH.cons rfl (fun K hK => ?_) AllReadyH.nil
  refine sk_step_store T37 (HC.out.drew.set_ (k * 21 + 1) (.bool true)) hz1 (by simpa using hfit) ho1 (by rfl) _ _ (by rfl) (by rfl) (by rfl) ?_
  intro w3 hS3
  refine hK _ _ (hS3.far hHeld (Ne.symm hng0)) (fun hHeld => ?_)
  clear hK K
  simp only [Act.put, List.getElem_toArray, List.getElem_cons_succ, List.getElem_cons_zero, List.setIfInBounds_toArray, List.set_cons_zero, List.set_cons_succ]
  refine wpAnyH_done (by kernel_rfl) ?_ _
  obtain ⟨hTA, hCA, hGA⟩ := H4.out w3 ⟨hS3.at_, hS3.other, hS3.size, hS3.os, hS3.tape, hS3.output⟩
  have hB2 : Blk w3 (w.heap.size + 1) 33 #[.int .i64 0, .int .u64 0] := hS3.far (hB1.out.drew.far (by simpa using Ne.symm hng) _) (Ne.symm hng)
  have b0 := hB2.cell 0
  have b1 := hB2.cell 1
  have p0 := hB2.frozen 0
  have p1 := hB2.frozen 1
  have HTA := Lib.hid hTA
  have HCA := Lib.hid hCA
  have HB2 := Lib.hid hB2
  clear hTA hCA hHeld hB2
  go_wp2
  refine bodyPost_ret (v := .tuple #[.agg #[.int .i64 (k : Nat), .int .u64 q], .int .i64 0]) (by simp [results, Try.results50, go_sem, b0, b1]) rfl ⟨rfl, ?_⟩
  have hsub := H2.out
  have hbx : w.heap.size + 1 ∉ S1 := fun hm => by
    rcases hsub _ hm with h9 | h9
    · exact Hbx2.out h9
    · simp at h9; omega
  have h0 : Chg S w w1 := ((((Chg.refl S w).alloc _).alloc _).drewN nq).trans H3.out (fun _ hk => .inl hk)
  have hgs : gs ∈ S ∨ w.heap.size ≤ gs := by
    rcases hsub gs H5.out with h9 | h9
    · exact .inl h9
    · simp at h9; exact .inr (by omega)
  refine ⟨S1, (HTA.out.far (p := ⟨w.heap.size + 1, 0, none⟩) hbx _).far (p := ⟨w.heap.size + 1, 1, none⟩) hbx _, fun j hj => ?_, ?_⟩
  · rcases hsub j hj with h9 | h9
    · exact .inl h9
    · simp at h9; exact .inr (by omega)
  · exact ((h0.trans HCA.out (fun k hk => by simp at hk; subst hk; exact hgs)).setCell (p := ⟨w.heap.size + 1, 0, none⟩) (.inr (by simp)) _).setCell (p := ⟨w.heap.size + 1, 1, none⟩) (.inr (by simp)) _
theorem new_no_C {w : World} (size first : Int) (f0 : 0 ≤ first) (h : mayT size first = false) :
    Calls Try.prog 30 #[.int .i64 size, .int .u64 first] w fun e w' => e = .returned (.tuple #[.pointer none, .int .i64 2]) ∧ w = w' := by
  have h' : ¬ (1 ≤ size ∧ size ≤ 4096 ∧ 1 ≤ first ∧ first < topG) := fun hh => by rw [mayT_iff.2 hh] at h; cases h
  rw [topG_val] at h'
  clear h
  by_cases a : size < 1
  · go_enter Try.func30, Try.ntmps30
    go_wp2
    go_ret2
    exact ⟨rfl, rfl⟩
  · by_cases b : 4096 < size
    · go_enter Try.func30, Try.ntmps30
      go_wp2
      go_ret2
      exact ⟨rfl, rfl⟩
    · by_cases c : first < 1
      · go_enter Try.func30, Try.ntmps30
        go_wp2
        go_ret2
        exact ⟨rfl, rfl⟩
      · have d : 18446744073709551614 < first := by omega
        clear h'
        go_enter Try.func30, Try.ntmps30
        go_wp2
        go_ret2
        exact ⟨rfl, rfl⟩
theorem new_ok_C {w : World} (size first : Int) (h : mayT size first = true) :
    Calls Try.prog 30 #[.int .i64 size, .int .u64 first] w fun e w' => e = .returned (.tuple #[.pointer (some ⟨w.heap.size, 0, none⟩), .int .i64 0]) ∧
      TabAt w' w.heap.size [w.heap.size] ⟨size, first, [], [], 0⟩ ∧ Chg [] w w' := by
  obtain ⟨a, b, c, d⟩ := mayT_iff.1 h
  rw [topG_val] at d
  have d' : ¬ 18446744073709551614 < first := by omega
  clear h
  go_enter Try.func30, Try.ntmps30
  go_wp2
  go_ret2
  refine ⟨rfl, ⟨.slice none 0 0, .slice none 0 0, Blk.new w _ _, Row.nil _ _ _, Row.nil _ _ _, rfl⟩, (Chg.refl _ _).alloc _⟩
theorem retired_C {w : World} {g : Nat} {S : List Nat} {t : Tab Gr} (h : TabAt w g S t) :
    Calls Try.prog 67 #[.pointer (some ⟨g, 0, none⟩)] w fun e w' => e = .returned (.int .i64 t.retired) ∧ w = w' := by
  obtain ⟨VS, VF, hB, hS, hF, rfl⟩ := h
  have c0 := hB.cell 4
  clear hB hS hF
  go_enter Try.func67, Try.ntmps67
  go_wp2
  go_ret
  exact ⟨rfl, rfl⟩
theorem len_C {w : World} {g : Nat} {S : List Nat} {t : Tab Gr} (h : TabAt w g S t) (hw : t.WF) :
    Calls Try.prog 52 #[.pointer (some ⟨g, 0, none⟩)] w fun e w' => e = .returned (.int .i64 (t.size - t.frees - t.retired)) ∧ ∃ n, w' = w.drewN n := by
  have s0 := hw.s0
  have s1 := hw.s1
  have l := hw.len
  have lf := hw.freed_len
  obtain ⟨r0, r1⟩ := hw.ret_bd
  have e0 : t.frees = t.size - t.spots.length + t.freed.length := rfl
  have e1 : -10000 ≤ t.size - t.frees := by omega
  have e2 : t.size - t.frees ≤ 10000 := by omega
  have e3 : t.retired ≤ 4096 := by omega
  clear e0 l lf r1
  go_enter Try.func52, Try.ntmps52
  go_wp2_with (first
    | (go_at_call 48; refine (size_C h).mono ?_; rintro e w' ⟨rfl, rfl⟩)
    | (go_at_call 65; refine (free_C h hw).mono ?_; rintro e w' ⟨rfl, nq, rfl⟩)
    | (go_at_call 67; refine (retired_C (h.quiet (Chg.drewN (Chg.refl _ _) _))).mono ?_; rintro e w' ⟨rfl, rfl⟩))
  go_ret
  exact ⟨rfl, _, rfl⟩
end Go.Proofs
end
section
namespace Go.Proofs
open Go.RowKit
set_option linter.unusedVariables false
set_option linter.unusedSimpArgs false

theorem drop_no_C {w : World} {g : Nat} {S : List Nat} {t : Tab Gr} (h : TabAt w g S t) (hw : t.WF) (i q : Int) (i0 : -9223372036854775808 ≤ i) (i1 : i ≤ 9223372036854775807) (hno : t.has i q = false) :
    Calls Try.prog 47 #[.pointer (some ⟨g, 0, none⟩), .agg #[.int .i64 i, .int .u64 q]] w fun e w' => e = .returned (.int .i64 11) ∧ Chg [] w w' := by
  have HA := fun w' h' => find_no_C (w := w') (g := g) (S := S) (t := t) h' hw i q i0 i1 hno
  clear hno
  go_enter Try.func47, Try.ntmps47
  go_wp2_with (go_at_call 60; refine (HA _ (h.quiet (Chg.alloc (Chg.refl _ _) _))).mono ?_; rintro e w1 ⟨rfl, hc1⟩)
  go_ret
  exact ⟨rfl, ((Chg.refl _ _).alloc _).then hc1⟩
theorem Try.num_info_C : (Try.prog.info? 3).map (fun i => (i.zero, i.size, i.bytes)) = some (some (.int .i64 0), 1, 8) := by kernel_rfl
abbrev gone (q : Int) : Array Value := #[.int .u64 q, .bool false, .int .i64 0, .bool false, .int .i64 0, .int .u64 0, .int .i64 0, .int .u64 0, .int .u8 0, .int .i64 0, .int .i64 0, .int .u64 0, .int .u64 0, .int .u64 0, .int .u64 0, .int .u64 0, .int .u64 0, .int .u64 0, .int .u64 0, .int .i64 0, .int .u64 0]
theorem gone_cells (q : Int) : (gone q).toList = (⟨q, false, Gr.zero⟩ : Spot Gr).cells := rfl
theorem gone_one (q : Int) : (gone q).all (·.oneCell') = true := by simp [Value.oneCell']
set_option maxRecDepth 100000 in
set_option maxHeartbeats 4000000 in
theorem drop_yes_C {w : World} {g : Nat} {S : List Nat} {t : Tab Gr} (h : TabAt w g S t) (hw : t.WF) {i q : Int} (hq : t.has i q = true) (hr : q + 1 < topG) :
    Calls Try.prog 47 #[.pointer (some ⟨g, 0, none⟩), .agg #[.int .i64 i, .int .u64 q]] w fun e w' => e = .returned (.int .i64 0) ∧ Turns g S (t.drop Gr.zero i.toNat q) w w' := by
  obtain ⟨k, s, gs, cs, VF, rfl, rfl, hs, hth, hk, hB, hS, hF, hSS⟩ := has_form h hq
  have HA := fun w' h' => find_yes_C (w := w') (g := g) (S := S) (t := t) h' hw hs hth (gs := gs) (cs := cs) (n := t.spots.length)
  subst hSS
  have hgs := hS.lt1
  obtain ⟨g1, g2, g3⟩ := hw.gens k s hs
  have g4 := g3 hth
  have g0 := hw.f0
  rw [topG_val] at g4
  have hl := hw.len
  have hs1 := hw.s1
  have hfl := hw.freed_len
  have hg : g ≠ gs := by have := hS.ty hB (by decide); simpa [foot_some] using this
  have lg := hB.lt
  rw [show ((k : Nat) : Int).toNat = k from rfl]
  have e1 : IntKind.u64.wrap (s.gen + 1) = s.gen + 1 := by rw [IntKind.wrap_u64]; omega
  obtain ⟨ni, hi0, hz0, hz1, hz2⟩ := info_parts Try.num_info_C
  have hfg : gs ∉ foot VF := fun h => hS.ty2 hF (by decide) gs (by simp [foot_some]) h
  have hgf : VF.ownBlock ≠ some g := fun e => hF.ty hB (by decide) (row_mem e)
  obtain ⟨cur, hcur, hcz, _⟩ := hS.cur
  have hfit : k * 21 + (gone (s.gen + 1)).size ≤ cur.size := by show k * 21 + 21 ≤ _; omega
  have HT := fun (w1 w2 w3 : World) (gg cap : Nat) (o : Obj) (hc : Chg [] w w1) (hst : Stored w1 w2 gs 103 (splice_at cur (k * 21) (gone (s.gen + 1)))) => Turns.freed (s := ⟨s.gen + 1, false, Gr.zero⟩) (w1 := w1) (w2 := w2) (w3 := w3) (gg := gg) (cap := cap) (o := o) hB hS hF hs hc (hcur.chg hc (by simp)) (gone_cells _) hst
  rw [show t.drop Gr.zero k s.gen = { t with spots := t.spots.set k ⟨s.gen + 1, false, Gr.zero⟩, freed := t.freed ++ [k] } by unfold Tab.drop; rw [if_neg (by omega), if_neg (by omega)]]
  have HH := Lib.hid HT
  have hB' := Lib.hid hB
  have HF' := Lib.hid hF
  have HCu := Lib.hid hcur
  have hnew : ∀ (W : World) (n : Nat) (o : Obj), n = W.heap.size → (W.alloc o).heap[n]? = some o := by rintro W n o rfl; exact heap_alloc_new W o
  obtain ⟨A', c', hVF, _⟩ := hF.val
  rw [topG_val] at hr
  have e2 : ¬ 18446744073709551614 < s.gen + 1 := by omega
  have lf : t.freed.length + 1 ≤ 4097 := by omega
  have H5 := Lib.hid hnew
  have H6 := Lib.hid hVF
  have H7 := Lib.hid hgf
  have H8 := Lib.hid hfg
  clear hS hF hq hs hth hB HT g1 g2 g3 hnew hVF hgf hcur hcz hfg
  go_enter Try.func47, Try.ntmps47
  go_wp2_with (first
    | (go_at_call 60; refine (HA _ (h.quiet (Chg.alloc (Chg.refl _ _) _)) ((hB'.out.alloc _).cell 2) rfl).mono ?_; rintro e w1 ⟨rfl, hc1⟩; have hz : w.heap.size < w1.heap.size := (by have := hc1.size; simp at this; omega); have lgs1 : gs < w1.heap.size := (by omega); have lg1 : g < w1.heap.size := (by omega); have hcc := Lib.hid (((Chg.refl [] w).alloc (.cells #[.int .i64 k, .int .u64 s.gen] 33)).then hc1); have hBr := ((Blk.new w 33 #[.int .i64 k, .int .u64 s.gen]).chg hc1 (by simp)); have k4 := hBr.cell 1; have HBr := Lib.hid hBr; clear hBr hc1)
    | (refine sk_list_store (A := gone (s.gen + 1)) T103 (HCu.out.chg hcc.out (by simp)) rfl hfit (gone_one _) rfl _ _ rfl rfl rfl ?_; intro W2 hS3; have y0 : W2.cell? ⟨gs, k * 21, none⟩ = some (.int .u64 (s.gen + 1)) := ((hS3.blk.cell (k * 21)).trans ((splice_in _ _ (k * 21) 0 hfit (by show 0 < 21; omega)).trans rfl)); have HS3 := Lib.hid hS3; clear hS3))
  have hgr : w.heap.size ≠ gs := by omega
  have q1 := HS3.out.far (hB'.out.chg hcc.out (by simp)) hg
  have q2 := (HF'.out.chg hcc.out (fun _ _ h => by cases h)).chg HS3.out.chg (fun k hk hk' => by simp at hk'; subst hk'; exact H8.out hk)
  have q4 := HS3.out.far HBr.out hgr
  have hzz : W2.heap.size = w1.heap.size := HS3.out.size
  have lg2 : g < W2.heap.size := by omega
  have lw2 : w.heap.size < W2.heap.size := by omega
  have HQ := Lib.hid (fun (w2 : World) (gg cap : Nat) (o : Obj) a b c => HH.out w1 W2 w2 gg cap o hcc.out HS3.out a b c)
  clear e1 e2 g4 hr g0 HH HA h hzz hz k4 lg1 lgs1 y0
  have j3 := q1.cell 3
  have j4 := q1.frozen 3
  have j5 := q4.cell 0
  have j6 := (q1.drew).cell 3
  have HR := Lib.hid q2
  have HB3 := Lib.hid q1
  clear q1 q2 q4
  go_region_law
    ((refine step_append_row _ (by rfl) _ _ _ (by rfl) 3 ni _ 1 8 Try.underlying81 hi0 hz0 hz1 hz2 rfl VF t.freed.length (numCells t.freed) (by rfl) ((HR.out.alloc _).drew) ⟨W2.heap.size, 0, none⟩ 1 1 [.int .i64 (k : Nat)] (by rfl) (by rfl) (World.news_of_block (cs := #[.int .i64 (k : Nat)]) (t := 3) (fr := (0, 0)) (H5.out _ _ _ (by simp))) (by simp [Value.oneCell']) (by omega) (by unfold maxLen; omega) (by omega) (W2.heap.size + 1) (by simp) ?_; intro gg cap w2 hown hgrow hat hlt1; have y2 := (hgrow.cell_far ⟨g, 3, none⟩ (by simp; omega) (Ne.symm H7.out)).trans ((HB3.out.alloc _).drew.cell 3); have y3 := (hgrow.frozen_far ⟨g, 3, none⟩ (by simp; omega) (Ne.symm H7.out)).trans ((HB3.out.alloc _).drew.frozen 3)))
  all_goals
    have HT := Lib.hid (HQ.out _ _ _ _ hown hgrow hat)
    go_wp2
    go_ret
    exact ⟨rfl, HT.out⟩
end Go.Proofs
end
section
namespace Go.Proofs
open Go.RowKit
set_option linter.unusedVariables false
set_option linter.unusedSimpArgs false

section
variable {P : Program} (w : World)
/-- append of nothing onto a row: the row. -/
theorem run_append_none (t ty e : TypeId) (i : TypeInfo) (size : Nat) (ht : P.underlying t = some (.slice e)) (hi : P.info? e = some i)
    (v : Value) (n : Nat) (xs : List Value) (hr : Row w e size v n xs) (A : Option Addr) (c : Nat) :
    (Builtin.append_ #[t, t] ty #[v, .slice A 0 c]).run P w = .ok v w := by
  rcases hr.2 with ⟨rfl, rfl⟩ | ⟨g, cap, cur, rfl, _, hnc, _⟩
  · cases A <;> simp [Builtin.append_, run_underlying ht, sizeOf, typeInfo, hi, Builtin.lenOf, Builtin.firstCells, loadCells, loadCellsFrom]
  · cases A <;> simp [Builtin.append_, run_underlying ht, sizeOf, typeInfo, hi, Builtin.lenOf, Builtin.firstCells, loadCells, loadCellsFrom, hnc, storeCells]
/-- append of a row onto an empty row: a copy. -/
theorem wpList_append_copy {ops : Array Oper} {rest : List Oper} {o : Oper} {a : Act} {Q : Exit → Act → World → Prop} (hgd : o.guard = none) (s x : Operand) (t : TypeId)
    (ho : o.op = .call { callee := .builtin .append, args := #[s, x], argTypes := #[t, t] })
    (e : TypeId) (i : TypeInfo) (z : Value) (size bytes : Nat) (ht : P.underlying t = some (.slice e)) (hi : P.info? e = some i) (hz : i.zero = some z)
    (hsize : i.size = size) (hby : i.bytes = bytes) (hzs : z.cells.size = size)
    (v : Value) (hs : a.eval s = v) (hr : Row w e size v 0 [])
    (V : Value) (n : Nat) (xs : List Value) (hx : a.eval x = V) (hV : Row w e size V n xs) (h1 : ∀ u ∈ xs, u.oneCell' = true)
    (h63 : n ≤ maxLen) (hbytes : n * bytes ≤ 140737488355328) (H : Nat) (hH : w.heap.size = H)
    (h : ∀ v' w', Row w' e size v' n xs → w.grownBy w' v.ownBlock → (∀ k ∈ foot v', v.ownBlock = some k ∨ k = H) → wpList P ops Q rest (a.put o.dst v') w') : wpList P ops Q (o :: rest) a w := by
  obtain ⟨A, c, rfl, hA⟩ := hV.val
  rcases Nat.eq_zero_or_pos n with h0 | h0
  · subst h0
    have hxs : xs = [] := List.eq_nil_of_length_eq_zero (by simpa using hV.1)
    subst hxs
    have hrun := run_append_none (P := P) w t o.type e i size ht hi v 0 [] hr A c
    refine wpList_plain hgd fun _ hK => ?_
    unfold Oper.wp execOp
    simp only [ho, resolve, invoke, builtin, Sem.run_bind, Sem.run_pure, Result.andThen_ok, List.map_toArray, List.map_cons, List.map_nil, hs, hx, hrun]
    exact hK _ _ (h v w hr ⟨rfl, rfl, rfl, Nat.le_refl _, fun _ _ _ => rfl⟩ (fun k hk => .inl (by simpa [foot] using hk)))
  · obtain ⟨g, cap, hv, _, _, hcell, _, _⟩ := hV.form h0
    simp only [Value.slice.injEq] at hv
    obtain ⟨rfl, _, _⟩ := hv
    have hadd : ∀ j, (⟨g, 0, none⟩ : Addr).add j = ⟨g, j, none⟩ := fun j => by unfold Addr.add; split <;> simp_all
    refine wpList_append_row w hgd s x t ho e i z size bytes ht hi hz hsize hby hzs v 0 [] hs hr ⟨g, 0, none⟩ n c xs hx hV.1 (fun j u hu => by rw [hadd]; exact hcell j u hu) h1 h0 (by omega) (by rw [Nat.zero_add]; exact hbytes) H hH ?_
    intro g' cap' w' h2 h3 h4 _
    simp only [Nat.zero_add, List.nil_append] at h2
    rw [Nat.zero_add]
    exact h _ _ h2 h3 (fun k hk => by simp [foot_some] at hk; subst hk; exact h4)
end
theorem Try.int_info3 : (Try.prog.info? 3).map (fun i => (i.zero, i.size, i.bytes)) = some (some (.int .i64 0), 1, 8) := by kernel_rfl
/-- A slice in new blocks, with the same cells. -/
def Cloned (e : TypeId) (size n : Nat) (xs : List Value) (w w' : World) (en : Ending) : Prop := ∃ v, en = .returned v ∧ Row w' e size v n xs ∧ (∀ k ∈ foot v, w.heap.size ≤ k) ∧ Chg [] w w'
theorem spotsCells_one (l : List (Spot Gr)) : ∀ u ∈ spotCells l, u.oneCell' = true := by
  intro u hu
  unfold spotCells at hu
  rw [List.mem_flatMap] at hu
  obtain ⟨s, _, hs⟩ := hu
  exact s.cells_one u hs
theorem numCells_one (l : List Nat) : ∀ u ∈ numCells l, u.oneCell' = true := by
  intro u hu
  unfold numCells at hu
  rw [List.mem_map] at hu
  obtain ⟨s, _, rfl⟩ := hu
  rfl
theorem eql_nil_94 (w : World) (a : Option Addr) (n c : Nat) : (binOp .eql 94 (.slice a n c) (.slice none 0 0)).run Try.prog w = .ok (.bool a.isNone) w := by
  simp only [binOp]
  simp [Op.equal, Op.maxDepth, Lib.run_equalIn_slice_nil w 9999 94 103 a n c 0 0 Try.underlying94]
theorem eql_nil_81 (w : World) (a : Option Addr) (n c : Nat) : (binOp .eql 81 (.slice a n c) (.slice none 0 0)).run Try.prog w = .ok (.bool a.isNone) w := by
  simp only [binOp]
  simp [Op.equal, Op.maxDepth, Lib.run_equalIn_slice_nil w 9999 81 3 a n c 0 0 Try.underlying81]
attribute [local go_sem] eql_nil_94 eql_nil_81
set_option maxRecDepth 100000 in
theorem clone_spots {w : World} {V : Value} {l : List (Spot Gr)} (hV : Row w 103 21 V l.length (spotCells l)) (hl : l.length ≤ 4096) :
    Calls Try.prog 58 #[V] w fun e w' => Cloned 103 21 l.length (spotCells l) w w' e := by
  obtain ⟨i0, hi0, hz0, hz1, hz2⟩ := info_parts Try.info_C
  have hone := spotsCells_one l
  have hV0 := hV
  rcases hV.2 with ⟨rfl, h0⟩ | ⟨g, cap, cur, rfl, hg, hc, hm, hcs, ht⟩
  · have hnil : l = [] := List.eq_nil_of_length_eq_zero h0
    subst hnil
    clear hV hV0 hone
    go_enter Try.func58, Try.ntmps58
    go_wp2
    go_ret
    exact ⟨_, rfl, Row.nil _ _ _, by simp [foot_nil], Chg.refl _ _⟩
  · have HV := Lib.hid hV0
    clear hV hV0 ht hg hcs hm hc
    obtain ⟨n, hn⟩ : ∃ n, n = l.length := ⟨_, rfl⟩
    rw [← hn] at HV hl ⊢
    clear hn
    go_enter Try.func58, Try.ntmps58
    go_wp2_with (at_builtin; refine wpList_append_copy _ rfl _ _ 94 (by rfl) 103 i0 _ 21 168 Try.underlying94 hi0 hz0 hz1 hz2 rfl (.slice (some ⟨w.heap.size, 0, none⟩) 0 0) (by rfl) ⟨by simp, .inr ⟨w.heap.size, 0, #[], rfl, Blk.new w _ _, by omega, by unfold maxLen; omega, by simp, rfl⟩⟩ (.slice (some ⟨g, 0, none⟩) n cap) n (spotCells l) (by rfl) (HV.out.alloc _) hone (by unfold maxLen; omega) (by omega) (w.heap.size + 1) (by simp) ?_; intro v' w1 hr hg hf)
    go_ret
    refine ⟨_, rfl, hr, fun k hk => ?_, ((Chg.refl [] w).alloc _).grown hg (fun k hk => ?_)⟩
    · rcases hf k hk with h9 | h9
      · simp [Value.ownBlock] at h9; omega
      · omega
    · simp [Value.ownBlock] at hk; exact .inr (by omega)
set_option maxRecDepth 100000 in
theorem clone_nums {w : World} {V : Value} {l : List Nat} (hV : Row w 3 1 V l.length (numCells l)) (hl : l.length ≤ 4096) :
    Calls Try.prog 59 #[V] w fun e w' => Cloned 3 1 l.length (numCells l) w w' e := by
  obtain ⟨i0, hi0, hz0, hz1, hz2⟩ := info_parts Try.int_info3
  have hone := numCells_one l
  have hV0 := hV
  rcases hV.2 with ⟨rfl, h0⟩ | ⟨g, cap, cur, rfl, hg, hc, hm, hcs, ht⟩
  · have hnil : l = [] := List.eq_nil_of_length_eq_zero h0
    subst hnil
    clear hV hV0 hone
    go_enter Try.func59, Try.ntmps59
    go_wp2
    go_ret
    exact ⟨_, rfl, Row.nil _ _ _, by simp [foot_nil], Chg.refl _ _⟩
  · have HV := Lib.hid hV0
    clear hV hV0 ht hg hcs hm hc
    obtain ⟨n, hn⟩ : ∃ n, n = l.length := ⟨_, rfl⟩
    rw [← hn] at HV hl ⊢
    clear hn
    go_enter Try.func59, Try.ntmps59
    go_wp2_with (at_builtin; refine wpList_append_copy _ rfl _ _ 81 (by rfl) 3 i0 _ 1 8 Try.underlying81 hi0 hz0 hz1 hz2 rfl (.slice (some ⟨w.heap.size, 0, none⟩) 0 0) (by rfl) ⟨by simp, .inr ⟨w.heap.size, 0, #[], rfl, Blk.new w _ _, by omega, by unfold maxLen; omega, by simp, rfl⟩⟩ (.slice (some ⟨g, 0, none⟩) n cap) n (numCells l) (by rfl) (HV.out.alloc _) hone (by unfold maxLen; omega) (by omega) (w.heap.size + 1) (by simp) ?_; intro v' w1 hr hg hf)
    go_ret
    refine ⟨_, rfl, hr, fun k hk => ?_, ((Chg.refl [] w).alloc _).grown hg (fun k hk => ?_)⟩
    · rcases hf k hk with h9 | h9
      · simp [Value.ownBlock] at h9; omega
      · omega
    · simp [Value.ownBlock] at hk; exact .inr (by omega)
/-- A copy of the table, in new blocks. -/
def Copied (t : Tab Gr) (w w' : World) : Prop := ∃ S, TabAt w' w.heap.size S t ∧ (∀ k ∈ S, w.heap.size ≤ k) ∧ Chg [] w w'
theorem Copied.mk {t : Tab Gr} {w W : World} {v1 v2 : Value} (hB : Blk W w.heap.size 96 #[.int .i64 t.size, .int .u64 t.first, v1, v2, .int .i64 t.retired]) (h1 : Row W 103 21 v1 t.spots.length (spotCells t.spots)) (h2 : Row W 3 1 v2 t.freed.length (numCells t.freed))
    (f1 : ∀ k ∈ foot v1, w.heap.size ≤ k) (f2 : ∀ k ∈ foot v2, w.heap.size ≤ k) (hc : Chg [] w W) : Copied t w W :=
  ⟨_, ⟨v1, v2, hB, h1, h2, rfl⟩, fun k hk => by
    simp at hk
    rcases hk with rfl | hk | hk
    · exact Nat.le_refl _
    · exact f1 k hk
    · exact f2 k hk, hc⟩
set_option maxRecDepth 100000 in
set_option maxHeartbeats 3200000 in
theorem tcopy_any {w : World} {g : Nat} {S : List Nat} {t : Tab Gr} (h : TabAt w g S t) (hw : t.WF) :
    Calls Try.prog 39 #[.pointer (some ⟨g, 0, none⟩)] w fun e w' => e = .returned (.pointer (some ⟨w.heap.size, 0, none⟩)) ∧ Copied t w w' := by
  have h0 := h
  obtain ⟨VS, VF, hB, hS, hF, hSS⟩ := h
  obtain ⟨A, c, rfl, _⟩ := hS.val
  obtain ⟨A', c', rfl, _⟩ := hF.val
  obtain ⟨n1, hn1⟩ : ∃ n, n = t.spots.length := ⟨_, rfl⟩
  obtain ⟨n2, hn2⟩ : ∃ n, n = t.freed.length := ⟨_, rfl⟩
  have hl1 : t.spots.length ≤ 4096 := by have := hw.len; have := hw.s1; omega
  have hl2 : t.freed.length ≤ 4096 := by have := hw.freed_len; omega
  have lg := hB.lt
  have hne : g ≠ w.heap.size := by omega
  have HS : Hid (Row w 103 21 (.slice A n1 c) t.spots.length (spotCells t.spots)) := Lib.hid (by rw [hn1]; exact hS)
  have HF : Hid (Row w 3 1 (.slice A' n2 c') t.freed.length (numCells t.freed)) := Lib.hid (by rw [hn2]; exact hF)
  have HB := Lib.hid hB
  have b0 := hB.cell 0
  have b1 := hB.cell 1
  have b2 := hB.cell 2
  have b3 := hB.cell 3
  have b4 := hB.cell 4
  obtain ⟨Z, hZ⟩ : ∃ Z, Z = t.size := ⟨_, rfl⟩
  obtain ⟨F, hFi⟩ : ∃ F, F = t.first := ⟨_, rfl⟩
  obtain ⟨R, hR⟩ : ∃ R, R = t.retired := ⟨_, rfl⟩
  rw [← hZ] at b0
  rw [← hFi] at b1
  rw [← hR] at b4
  have HZ := Lib.hid hZ
  have HFi := Lib.hid hFi
  have HR := Lib.hid hR
  have HN1 := Lib.hid hn1
  have HN2 := Lib.hid hn2
  rw [← hn1] at b2
  rw [← hn2] at b3
  clear hB hS hF hSS hZ hFi hR hn1 hn2
  go_enter Try.func39, Try.ntmps39
  go_wp2_with (go_at_call 57; refine (none_C h0 hw).mono ?_; rintro e w' ⟨rfl, rfl⟩)
  have HCC := Lib.hid (((Chg.refl [] w).alloc (.cells #[.int .i64 Z, .int .u64 F, (.slice A n1 c), (.slice A' n2 c'), .int .i64 R] 96)).drew)
  have HBX := Lib.hid ((Blk.new w 96 #[.int .i64 Z, .int .u64 F, (.slice A n1 c), (.slice A' n2 c'), .int .i64 R]).drew)
  go_region_held3 (fun w' => w'.cell? ⟨g, 2, none⟩ = some (.slice A n1 c) ∧ w'.cell? ⟨g, 3, none⟩ = some (.slice A' n2 c'))
    (first | go_keep | (simp [*, World.cell?_setCell_far, Ne.symm hne]))
    (first
      | (go_at_call 58; refine (clone_spots (HS.out.chg HCC.out (fun _ _ h => by cases h)) hl1).mono ?_; rintro e w1 ⟨v1, rfl, hr1, hf1, hc1⟩; obtain ⟨A1, c1, rfl, _⟩ := hr1.val; have HBX := Lib.hid (HBX.out.chg hc1 (by simp)); have HR1 := Lib.hid hr1; have HF1 := Lib.hid hf1; have HC1 := Lib.hid hc1; have HCC := Lib.hid (HCC.out.then hc1); have k2 : w1.cell? ⟨g, 2, none⟩ = some (.slice A n1 c) := (HCC.out.cell (p := ⟨g, 2, none⟩) lg (by simp)).trans b2; have k3 : w1.cell? ⟨g, 3, none⟩ = some (.slice A' n2 c') := (HCC.out.cell (p := ⟨g, 3, none⟩) lg (by simp)).trans b3; clear hr1 hf1 hc1)
      | (go_at_call 59; refine (clone_nums (HF.out.chg HCC.out (fun _ _ h => by cases h)) hl2).mono ?_; rintro e w2 ⟨v2, rfl, hr2, hf2, hc2⟩; obtain ⟨A2, c2, rfl, _⟩ := hr2.val; have hbx := HBX.out.chg hc2 (by simp); have x2 := hbx.cell 2; have x3 := hbx.cell 3; have y2 := hbx.frozen 2; have y3 := hbx.frozen 3; have HBX := Lib.hid hbx; have HR2 := Lib.hid hr2; have HF2 := Lib.hid hf2; have HC2 := Lib.hid hc2; have HCC := Lib.hid (HCC.out.then hc2); have j2 : w2.cell? ⟨g, 2, none⟩ = some (.slice A n1 c) := (HCC.out.cell (p := ⟨g, 2, none⟩) lg (by simp)).trans b2; have j3 : w2.cell? ⟨g, 3, none⟩ = some (.slice A' n2 c') := (HCC.out.cell (p := ⟨g, 3, none⟩) lg (by simp)).trans b3; clear hr2 hf2 hc2 hbx))
  have z2 := HC2.out.size
  have z1 := HC1.out.size
  simp only [World.size_drew, World.size_alloc] at z1
  have m1 : w.heap.size ∉ foot (.slice A1 t.spots.length c1) := fun hm => by have := HF1.out _ hm; simp at this; omega
  have m2 : w.heap.size ∉ foot (.slice A2 t.freed.length c2) := fun hm => by have := HF2.out _ hm; omega
  have hB2 : Blk ((w2.setCell ⟨w.heap.size, 2, none⟩ (.slice A1 t.spots.length c1)).setCell ⟨w.heap.size, 3, none⟩ (.slice A2 t.freed.length c2)) w.heap.size 96 #[.int .i64 Z, .int .u64 F, .slice A1 t.spots.length c1, .slice A2 t.freed.length c2, .int .i64 R] := (HBX.out.set_ 2 _).set_ 3 _
  have hq1 := ((HR1.out.chg HC2.out (fun _ _ h => by cases h)).far (p := ⟨w.heap.size, 2, none⟩) m1 (.slice A1 t.spots.length c1)).far (p := ⟨w.heap.size, 3, none⟩) m1 (.slice A2 t.freed.length c2)
  have hq2 := (HR2.out.far (p := ⟨w.heap.size, 2, none⟩) m2 (.slice A1 t.spots.length c1)).far (p := ⟨w.heap.size, 3, none⟩) m2 (.slice A2 t.freed.length c2)
  rw [HZ.out, HFi.out, HR.out] at hB2
  have HM := Lib.hid (Copied.mk hB2 hq1 hq2 (fun k hk => by have := HF1.out k hk; simp at this; omega) (fun k hk => by have := HF2.out k hk; omega) ((HCC.out.setCell (p := ⟨w.heap.size, 2, none⟩) (.inr (Nat.le_refl _)) _).setCell (p := ⟨w.heap.size, 3, none⟩) (.inr (Nat.le_refl _)) _))
  clear z1 z2 m1 m2 hB2 hq1 hq2
  go_wp2
  go_ret
  exact ⟨rfl, HM.out⟩
end Go.Proofs
end
