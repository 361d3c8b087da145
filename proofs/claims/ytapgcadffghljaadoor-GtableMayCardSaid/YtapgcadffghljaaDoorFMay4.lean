import Derived.Test.YtapgcadffghljaaDoorFMay3
import Derived.LaidEqlPtr
import Derived.Deep.RegionWith
import Derived.Deep.RegionHeld3
import Derived.Deep.RegionLaw
section
namespace Go.Proofs
open Go.RowKit
set_option linter.unusedVariables false
set_option linter.unusedSimpArgs false

theorem find_no_C {w : World} {g : Nat} {S : List Nat} {t : Tab Gr} (h : TabAt w g S t) (hw : t.WF) (i q : Int) (i0 : -9223372036854775808 ≤ i) (i1 : i ≤ 9223372036854775807) (hno : t.has i q = false) :
    Calls Tryd.prog 29 #[.pointer (some ⟨g, 0, none⟩), .agg #[.int .i64 i, .int .u64 q]] w fun e w' => e = .returned (.tuple #[.pointer none, .int .i64 11]) ∧ Chg [] w w' := by
  rcases live_cases t i with ⟨s, hs⟩ | hn
  · have hg : s.gen ≠ q := fun e => by have := has_iff.2 ⟨s, hs, e⟩; rw [hno] at this; cases this
    obtain ⟨q1, q2, q3⟩ := live_some hs
    have HA := fun w' => at_C (w := w') (g := g) (S := S) (t := t) (i := i)
    rw [q1, q2, q3] at HA
    have hb : (s.gen == q) = false := by simpa using hg
    have hb2 : (s.gen != q) = true := by simpa using hg
    clear q1 q2 q3 hg hno hs
    go_enter Tryd.func29, Tryd.ntmps29
    go_wp2_with (first
      | (go_at_call 25; refine (none_C (h.quiet (Chg.alloc (Chg.refl _ _) _)) hw).mono ?_; rintro e w' ⟨rfl, rfl⟩)
      | (go_at_call 31; refine (HA _ (h.quiet (Chg.alloc (Chg.refl _ _) _)) hw i0 i1).mono ?_; rintro e w1 ⟨rfl, hc1⟩; have hz : w.heap.size < w1.heap.size := (by have := hc1.size; simp at this; omega); have k3 := ((Blk.new w 25 _).chg hc1 (by simp)).cell 0; have k4 := ((Blk.new w 25 _).chg hc1 (by simp)).cell 1))
    exact bodyPost_ret (v := .tuple #[.pointer none, .int .i64 11]) (by simp [results, Tryd.results29, go_sem]) rfl ⟨rfl, ((Chg.refl _ _).alloc _).then (hc1.then ((Chg.refl _ _).alloc _))⟩
  · obtain ⟨q1, q2, q3, _⟩ := live_none hn
    have HA := fun w' => at_C (w := w') (g := g) (S := S) (t := t) (i := i)
    rw [q1, q2, q3] at HA
    clear q1 q2 q3 hn hno
    go_enter Tryd.func29, Tryd.ntmps29
    go_wp2_with (first
      | (go_at_call 25; refine (none_C (h.quiet (Chg.alloc (Chg.refl _ _) _)) hw).mono ?_; rintro e w' ⟨rfl, rfl⟩)
      | (go_at_call 31; refine (HA _ (h.quiet (Chg.alloc (Chg.refl _ _) _)) hw i0 i1).mono ?_; rintro e w1 ⟨rfl, hc1⟩; have hz : w.heap.size < w1.heap.size := (by have := hc1.size; simp at this; omega); have k3 := ((Blk.new w 25 _).chg hc1 (by simp)).cell 0; have k4 := ((Blk.new w 25 _).chg hc1 (by simp)).cell 1))
    exact bodyPost_ret (v := .tuple #[.pointer none, .int .i64 11]) (by simp [results, Tryd.results29, go_sem]) rfl ⟨rfl, ((Chg.refl _ _).alloc _).then (hc1.then ((Chg.refl _ _).alloc _))⟩
theorem find_yes_C {w : World} {g : Nat} {S : List Nat} {t : Tab Gr} (h : TabAt w g S t) (hw : t.WF) {k : Nat} {s : Spot Gr} (hs : t.spots[k]? = some s) (hth : s.there = true) {gs n cs : Nat} (hv : w.cell? ⟨g, 2, none⟩ = some (.slice (some ⟨gs, 0, none⟩) n cs)) (hn : n = t.spots.length) :
    Calls Tryd.prog 29 #[.pointer (some ⟨g, 0, none⟩), .agg #[.int .i64 (k : Nat), .int .u64 s.gen]] w fun e w' => e = .returned (.tuple #[.pointer (some ⟨gs, k * 21, none⟩), .int .i64 0]) ∧ Chg [] w w' := by
  obtain ⟨q1, q2, q3⟩ := live_some (live_nat.2 ⟨hs, hth⟩)
  have hk := (List.getElem?_eq_some_iff.1 hs).1
  have hl := hw.len
  have hs1 := hw.s1
  have HA := fun w' => at_C (w := w') (g := g) (S := S) (t := t) (i := (k : Nat))
  rw [q1, q2, q3] at HA
  have lg := h.lt g h.mem
  rw [← hn] at hk hl
  have i0 : (0 : Int) ≤ (k : Int) := by omega
  have i1 : (k : Int) < (n : Int) := by omega
  have HN := Lib.hid hn
  clear q1 q2 q3 hs hth hn
  go_enter Tryd.func29, Tryd.ntmps29
  go_wp2_with (first
    | (go_at_call 25; refine (none_C (h.quiet (Chg.alloc (Chg.refl _ _) _)) hw).mono ?_; rintro e w' ⟨rfl, rfl⟩)
    | (go_at_call 31; refine (HA _ (h.quiet (Chg.alloc (Chg.refl _ _) _)) hw (by omega) (by omega)).mono ?_; rintro e w1 ⟨rfl, hc1⟩; have hz : w.heap.size < w1.heap.size := (by have := hc1.size; simp at this; omega); have lg1 : g < w1.heap.size := (by omega); have k3 := ((Blk.new w 25 _).chg hc1 (by simp)).cell 0; have k4 := ((Blk.new w 25 _).chg hc1 (by simp)).cell 1; have k5 : w1.cell? ⟨g, 2, none⟩ = some (.slice (some ⟨gs, 0, none⟩) n cs) := (hc1.cell (p := ⟨g, 2, none⟩) (by simp; omega) (by simp)).trans ((World.cell?_alloc_lt w _ _ lg).trans hv)))
  go_quiet (fail)
  go_wp2
  exact bodyPost_ret (v := .tuple #[.pointer (some ⟨gs, k * 21, none⟩), .int .i64 0]) (by simp [results, Tryd.results29, go_sem]) rfl ⟨rfl, ((Chg.refl _ _).alloc _).then (hc1.then (((Chg.refl _ _).alloc _).drewN _))⟩

/-- What there is of the boxes behind a call that turned nothing. -/
theorem box2 {w w1 : World} {a b : Obj} {t : TypeId} {cs : Array Value} (hb : b = .cells cs t) (hc : Chg [] ((w.alloc a).alloc b) w1) :
    Blk w1 (w.heap.size + 1) t cs := by
  subst hb
  have := (Blk.new (w.alloc a) t cs).chg hc (by simp)
  simpa using this

set_option maxRecDepth 100000 in
theorem get_no_C {w : World} {g : Nat} {S : List Nat} {t : Tab Gr} (h : TabAt w g S t) (hw : t.WF) (i q : Int) (i0 : -9223372036854775808 ≤ i) (i1 : i ≤ 9223372036854775807) (hno : t.has i q = false) :
    Calls Tryd.prog 28 #[.pointer (some ⟨g, 0, none⟩), .agg #[.int .i64 i, .int .u64 q]] w fun e w' => e = .returned (.tuple #[Gr.zero.val, .int .i64 11]) ∧ Chg [] w w' := by
  have HA := fun w' h' => find_no_C (w := w') (g := g) (S := S) (t := t) h' hw i q i0 i1 hno
  clear hno
  go_enter Tryd.func28, Tryd.ntmps28
  go_wp2_with (first
    | (go_at_call 29; refine (HA _ (h.quiet (((Chg.refl _ _).alloc _).alloc _))).mono ?_; rintro e w1 ⟨rfl, hc1⟩; have hz : w.heap.size + 1 < w1.heap.size := (by have := hc1.size; simp at this; omega); have HC := Lib.hid (((Chg.refl [] w).alloc _).alloc _ |>.then hc1); have hB1 := Lib.hid (box2 rfl hc1); clear hc1)
    | (refine wpl_load T37 (Blk.new w1 29 zG) rfl rfl _ rfl rfl ?_)
    | (refine wpl_store T37 (hB1.out.alloc _) rfl rfl Gr.zero.one rfl _ _ rfl rfl rfl ?_; intro w3 hS3))
  refine bodyPost_ret (res_cell (b := w.heap.size + 1) rfl T37 rfl rfl hS3.blk rfl) rfl ⟨rfl, ?_⟩
  exact (HC.out.alloc _).trans hS3.chg (fun k hk => by simp at hk; omega)
set_option maxRecDepth 100000 in
theorem get_yes_C {w : World} {g : Nat} {S : List Nat} {t : Tab Gr} (h : TabAt w g S t) (hw : t.WF) {i q : Int} {s : Spot Gr} (hq : t.has i q = true) (hl : t.live i = some s) :
    Calls Tryd.prog 28 #[.pointer (some ⟨g, 0, none⟩), .agg #[.int .i64 i, .int .u64 q]] w fun e w' => e = .returned (.tuple #[s.thing.val, .int .i64 0]) ∧ Chg [] w w' := by
  obtain ⟨k, s', gs, cs, VF, rfl, rfl, hs, hth, hk, hB, hS, hF, hSS⟩ := has_form h hq
  have e := (live_nat.1 hl).1
  rw [hs] at e
  obtain rfl : s' = s := by injection e
  have HA := fun w' h' => find_yes_C (w := w') (g := g) (S := S) (t := t) h' hw hs hth (gs := gs) (cs := cs) (n := t.spots.length)
  obtain ⟨gs', cs', hv, _, _, hgs, _, _, _, a2, _⟩ := open_spot hS hs
  simp only [Value.slice.injEq, Option.some.injEq, Addr.mk.injEq] at hv
  obtain ⟨⟨rfl, _⟩, _, _⟩ := hv
  have hz1 := s'.thing.size
  have ho1 := s'.thing.one
  unfold Gr.val
  generalize s'.thing.arr = A at *
  have hB' := Lib.hid hB
  clear hS hF hSS hl hq hs hth hB e
  go_enter Tryd.func28, Tryd.ntmps28
  go_wp2_with (first
    | (go_at_call 29; refine (HA _ (h.quiet (((Chg.refl _ _).alloc _).alloc _)) (((hB'.out.alloc _).alloc _).cell 2) rfl).mono ?_; rintro e w1 ⟨rfl, hc1⟩; have hz : w.heap.size + 1 < w1.heap.size := (by have := hc1.size; simp at this; omega); have lgs1 : gs < w1.heap.size := (by omega); have HC := Lib.hid (((Chg.refl [] w).alloc _).alloc _ |>.then hc1); have hB1 := Lib.hid (box2 rfl hc1); have kk : ∀ j v, A[j]? = some v → w1.cell? ⟨gs, k * 21 + 2 + j, none⟩ = some v := (fun j v hv => (HC.out.cell (p := ⟨gs, k * 21 + 2 + j, none⟩) hgs (by simp)).trans (a2 j v hv)); clear hc1 a2)
    | (refine sk_list_load T37 hz1 kk rfl _ rfl rfl ?_)
    | (refine wpl_store T37 hB1.out rfl hz1 ho1 rfl _ _ rfl rfl rfl ?_; intro w3 hS3))
  refine bodyPost_ret (res_cell (b := w.heap.size + 1) rfl T37 rfl rfl hS3.blk hz1) rfl ⟨rfl, ?_⟩
  exact HC.out.trans hS3.chg (fun k hk => by simp at hk; omega)

set_option maxRecDepth 100000 in
theorem set_no_C {w : World} {g : Nat} {S : List Nat} {t : Tab Gr} (h : TabAt w g S t) (hw : t.WF) (i q : Int) (i0 : -9223372036854775808 ≤ i) (i1 : i ≤ 9223372036854775807) (hno : t.has i q = false) (x : Gr) :
    Calls Tryd.prog 23 #[.pointer (some ⟨g, 0, none⟩), .agg #[.int .i64 i, .int .u64 q], x.val] w fun e w' => e = .returned (.int .i64 11) ∧ Chg [] w w' := by
  have HA := fun w' h' => find_no_C (w := w') (g := g) (S := S) (t := t) h' hw i q i0 i1 hno
  clear hno
  unfold Gr.val
  generalize x.arr = A
  go_enter Tryd.func23, Tryd.ntmps23
  go_wp2_with (first
    | (go_at_call 29; refine (HA _ (h.quiet (((Chg.refl _ _).alloc _).alloc _))).mono ?_; rintro e w1 ⟨rfl, hc1⟩; have HC := Lib.hid (((Chg.refl [] w).alloc _).alloc _ |>.then hc1); clear hc1))
  go_ret
  exact ⟨rfl, HC.out⟩
set_option maxRecDepth 100000 in
theorem set_yes_C {w : World} {g : Nat} {S : List Nat} {t : Tab Gr} (h : TabAt w g S t) (hw : t.WF) {k : Nat} {s : Spot Gr} (hq : t.has (k : Nat) s.gen = true) (hs : t.spots[k]? = some s) (x : Gr) :
    Calls Tryd.prog 23 #[.pointer (some ⟨g, 0, none⟩), .agg #[.int .i64 (k : Nat), .int .u64 s.gen], x.val] w fun e w' => e = .returned (.int .i64 0) ∧ Turns g S { t with spots := t.spots.set k { s with thing := x } } w w' := by
  obtain ⟨k', s', gs, cs, VF, hkk, hgg, hs', hth, hk, hB, hS, hF, hSS⟩ := has_form h hq
  obtain rfl : k = k' := by omega
  obtain rfl : s' = s := by rw [hs] at hs'; injection hs' with e; exact e.symm
  have HA := fun w' h' => find_yes_C (w := w') (g := g) (S := S) (t := t) h' hw hs hth (gs := gs) (cs := cs) (n := t.spots.length)
  have hgs := hS.lt1
  have HT := Lib.hid (fun w1 w2 cur hc hcur hst => Turns.thing (w1 := w1) (w2 := w2) (cur := cur) hB hS hF hs x hc hcur hst)
  have hz1 := x.size
  have ho1 := x.one
  unfold Gr.val
  generalize x.arr = A at *
  obtain ⟨cur, hcur, hcz, _⟩ := hS.cur
  have hB' := Lib.hid hB
  have hcu := Lib.hid hcur
  have hfit : k * 21 + 2 + A.size ≤ cur.size := by omega
  clear hS hF hq hs hs' hth hB hkk hgg hcur
  rw [hSS] 
  clear hcz hk
  go_enter Tryd.func23, Tryd.ntmps23
  go_wp2_with (first
    | (go_at_call 29; refine (HA _ (h.quiet (((Chg.refl _ _).alloc _).alloc _)) (((hB'.out.alloc _).alloc _).cell 2) rfl).mono ?_; rintro e w1 ⟨rfl, hc1⟩; have hz : w.heap.size + 1 < w1.heap.size := (by have := hc1.size; simp at this; omega); have lgs1 : gs < w1.heap.size := (by omega); have HC := Lib.hid (((Chg.refl [] w).alloc _).alloc _ |>.then hc1); have hB1 := Lib.hid (box2 rfl hc1); clear hc1)
    | (refine wpl_load T37 hB1.out hz1 rfl _ rfl rfl ?_)
    | (refine sk_list_store T37 (hcu.out.chg HC.out (by simp)) hz1 hfit ho1 rfl _ _ rfl rfl rfl ?_; intro w3 hS3))
  go_ret
  exact ⟨rfl, HT.out _ _ _ HC.out (hcu.out.chg HC.out (by simp)) hS3⟩
end Go.Proofs
end
section
namespace Go.Proofs
open Go.RowKit
set_option linter.unusedVariables false
set_option linter.unusedSimpArgs false

theorem Blk.at' (w : World) (t : TypeId) (cs : Array Value) {n : Nat} (h : n = w.heap.size) : Blk (w.alloc (.cells cs t)) n t cs := by subst h; exact Blk.new w t cs
/-- The place that was taken, filled: in both orders. -/
theorem open_put_C {w : World} {g : Nat} {S : List Nat} {t : Tab Gr} (h : TabAt w g S t) {k : Nat} {s : Spot Gr} (hs : t.spots[k]? = some s) (x : Gr) :
    ∃ gs n cs cur, w.cell? ⟨g, 2, none⟩ = some (.slice (some ⟨gs, 0, none⟩) n cs) ∧ k < n ∧ Blk w gs 67 cur ∧ k * 21 + 21 ≤ cur.size ∧ w.cell? ⟨gs, k * 21 + 1, none⟩ = some (.bool s.there) ∧ gs ∈ S ∧ g ≠ gs ∧
      (∀ w2, Stored (w.setCell ⟨gs, k * 21 + 1, none⟩ (.bool true)) w2 gs 67 (splice_at (cur.setIfInBounds (k * 21 + 1) (.bool true)) (k * 21 + 2) x.arr) → TabAt w2 g S { t with spots := t.spots.set k ⟨s.gen, true, x⟩ } ∧ Chg [gs] w w2 ∧ w2.cell? ⟨gs, k * 21, none⟩ = some (.int .u64 s.gen)) := by
  obtain ⟨VS, VF, hB, hS, hF, rfl⟩ := h
  obtain ⟨gs, cs, rfl, hft, _, hlt, hk, a0, a1, _, hfz⟩ := open_spot hS hs
  have hg : g ≠ gs := by have := hS.ty hB (by decide); simpa [foot_some] using this
  have hfg : gs ∉ foot VF := fun h => hS.ty2 hF (by decide) gs (by simp [foot_some]) h
  obtain ⟨cur, hcur, hcz, htk⟩ := hS.cur
  have hfin : ∀ w2, Chg [gs] w w2 → Row w2 67 21 (.slice (some ⟨gs, 0, none⟩) t.spots.length cs) t.spots.length (spotCells (t.spots.set k ⟨s.gen, true, x⟩)) → TabAt w2 g (g :: (foot (.slice (some ⟨gs, 0, none⟩) t.spots.length cs) ++ foot VF)) { t with spots := t.spots.set k ⟨s.gen, true, x⟩ } ∧ Chg [gs] w w2 ∧ w2.cell? ⟨gs, k * 21, none⟩ = some (.int .u64 s.gen) := fun w2 hc hr => by
    refine ⟨⟨.slice (some ⟨gs, 0, none⟩) t.spots.length cs, VF, hB.chg hc (by simpa using hg), by simpa using hr, hF.chg hc (fun k hk hk' => by simp at hk'; subst hk'; exact hfg hk), rfl⟩, hc, ?_⟩
    obtain ⟨gs', cs', hv, _, _, hcell, _, _⟩ := hr.form (by omega)
    simp only [Value.slice.injEq, Option.some.injEq, Addr.mk.injEq] at hv
    obtain ⟨⟨rfl, _⟩, _, _⟩ := hv
    exact hcell _ _ (spotCells_at (s := ⟨s.gen, true, x⟩) (List.getElem?_set_self hk)).1
  have hz := hcur.lt
  refine ⟨gs, _, cs, cur, hB.cell 2, hk, hcur, by omega, a1, by simp [foot_some], hg, fun w2 hst => ?_⟩
  · have hS1 := hS.set_ (j := k * 21 + 1) (by omega) (.bool true)
    rw [spotCells_set1 true hs] at hS1
    have hb1 := hcur.set_ (k * 21 + 1) (.bool true)
    have hs1 : (t.spots.set k { s with there := true })[k]? = some { s with there := true } := List.getElem?_set_self hk
    have hl1 : t.spots.length = (t.spots.set k { s with there := true }).length := by simp
    obtain ⟨cur', hb', _, ht'⟩ := hS1.cur
    have : cur' = cur.setIfInBounds (k * 21 + 1) (.bool true) := by have := hb'.symm.trans hb1; simp at this; exact this
    subst this
    rw [hl1] at ht'
    have hy := splice_spot (off := k * 21 + 2) (A := x.arr) ht' hs1 (cells_thing _ x).1 (cells_thing _ x).2 (by rw [Gr.len, Gr.size]) rfl
    rw [← hl1, List.set_set] at hy
    have hr := hS1.stored hb' hst (by rw [Gr.size]; simp; omega) hy (by rw [spotCells_len, List.length_set])
    exact hfin w2 (((Chg.refl [gs] w).setCell (p := ⟨gs, k * 21 + 1, none⟩) (.inl (by simp)) _).trans hst.chg (fun k hk => .inl hk)) hr
set_option maxRecDepth 100000 in
theorem put_full_C {w : World} {g : Nat} {S : List Nat} {t : Tab Gr} (h : TabAt w g S t) (hw : t.WF) (hf : t.frees = 0) (x : Gr) :
    Calls Tryd.prog 21 #[.pointer (some ⟨g, 0, none⟩), x.val] w fun e w' => e = .returned (.tuple #[.agg #[.int .i64 0, .int .u64 0], .int .i64 3]) ∧ Chg [] w w' := by
  have HA := fun w' h' => free_C (w := w') (g := g) (S := S) (t := t) h' hw
  rw [hf] at HA
  unfold Gr.val
  generalize x.arr = A
  clear hf
  go_enter Tryd.func21, Tryd.ntmps21
  go_wp2_with (first
    | (go_at_call 25; refine (none_C (h.quiet (((Chg.refl _ _).alloc _).alloc _)) hw).mono ?_; rintro e w' ⟨rfl, rfl⟩)
    | (go_at_call 26; refine (HA _ (h.quiet (((Chg.refl _ _).alloc _).alloc _))).mono ?_; rintro e w' ⟨rfl, nq, rfl⟩))
  exact bodyPost_ret (v := .tuple #[.agg #[.int .i64 0, .int .u64 0], .int .i64 3]) (by simp [results, Tryd.results21, go_sem]) rfl ⟨rfl, (((((Chg.refl _ _).alloc _).alloc _).drewN _).setCell (p := ⟨w.heap.size + 1, 0, none⟩) (.inr (by simp)) _).setCell (p := ⟨w.heap.size + 1, 1, none⟩) (.inr (by simp)) _⟩
theorem off_box_C {S S1 : List Nat} {B H gs : Nat} (hB : B ∉ S) (hH : B < H) (hsub : ∀ k ∈ S1, k ∈ S ∨ H ≤ k) (hm : gs ∈ S1) : gs ≠ B := by
  rintro rfl
  rcases hsub _ hm with h | h
  · exact hB h
  · omega
set_option maxRecDepth 100000 in
set_option maxHeartbeats 1600000 in
theorem put_ok_C {w : World} {g : Nat} {S : List Nat} {t : Tab Gr} (h : TabAt w g S t) (hw : t.WF) (hf : t.frees ≠ 0) (x : Gr) :
    Calls Tryd.prog 21 #[.pointer (some ⟨g, 0, none⟩), x.val] w fun e w' => e = .returned (.tuple #[.agg #[.int .i64 (t.takeAt : Nat), .int .u64 (t.genAt t.takeAt)], .int .i64 0]) ∧ Turns g S (t.put Gr.zero x) w w' := by
  have HF := fun w' h' => free_C (w := w') (g := g) (S := S) (t := t) h' hw
  have HT := fun w' h' => take_C (w := w') (g := g) (S := S) (t := t) h' hw hf
  obtain ⟨s, hs, hth, _, _, _, _, hg, hlt⟩ := hw.take_at (z := Gr.zero) hf
  have hs1 := hw.s1
  have hb : (t.frees == 0) = false := by simpa using hf
  have HP := put_eq (z := Gr.zero) hw hf x
  rw [← hg] at HP
  have HO := fun w' S' h' => open_put_C (w := w') (g := g) (S := S') (t := t.take Gr.zero) h' hs x
  rw [hth] at HO
  rw [← hg, HP]
  obtain ⟨k, hk⟩ : ∃ k, k = t.takeAt := ⟨_, rfl⟩
  rw [← hk] at HT HO hlt ⊢
  obtain ⟨q, hq⟩ : ∃ q, q = s.gen := ⟨_, rfl⟩
  rw [← hq] at HO ⊢
  obtain ⟨T1, hT1⟩ : ∃ T1 : Tab Gr, T1 = { t.take Gr.zero with spots := (t.take Gr.zero).spots.set k ⟨q, true, x⟩ } := ⟨_, rfl⟩
  rw [← hT1] at HO ⊢
  have hz1 := x.size
  have ho1 := x.one
  unfold Gr.val
  generalize x.arr = A at *
  have hS := h.lt
  have hbx : w.heap.size ∉ S := fun hm => by have := hS _ hm; omega
  have hbx2 : w.heap.size + 1 ∉ S := fun hm => by have := hS _ hm; omega
  have HbS := Lib.hid hS
  have Hbx := Lib.hid hbx
  have Hbx2 := Lib.hid hbx2
  have Hh := Lib.hid h
  clear hs hth hg hf HP hk hq hS hbx hbx2 hT1
  go_enter Tryd.func21, Tryd.ntmps21
  go_wp2_with (first
    | (go_at_call 25; refine (none_C (h.quiet (((Chg.refl _ _).alloc _).alloc _)) hw).mono ?_; rintro e w' ⟨rfl, rfl⟩)
    | (go_at_call 26; refine (HF _ (h.quiet (((Chg.refl _ _).alloc _).alloc _))).mono ?_; rintro e w' ⟨rfl, nq, rfl⟩)
    | (go_at_call 27; refine (HT _ (h.quiet ((((Chg.refl _ _).alloc _).alloc _).drewN _))).mono ?_; rintro e w1 ⟨rfl, S1, hT1, hsub, hc1⟩; obtain ⟨gs, n, cs, cur, c2, hk, hcur, hcz, a1, hm, hne, HX1⟩ := HO _ _ hT1; have i0 : (0 : Int) ≤ (k : Int) := (by omega); have i1 : (k : Int) < (n : Int) := (by omega); have hB0 := Lib.hid ((((Blk.new w 29 A).alloc (.cells #[.int .i64 0, .int .u64 0] 25)).drewN nq).chg hc1 Hbx.out); have hB1 := Lib.hid (((Blk.at' (w.alloc (.cells A 29)) 25 #[.int .i64 0, .int .u64 0] (n := w.heap.size + 1) (by simp)).drewN nq).chg hc1 Hbx2.out); have f1 := hcur.frozen (k * 21 + 1); have hng : gs ≠ w.heap.size + 1 := off_box_C Hbx2.out (by simp) hsub hm; have hng0 : gs ≠ w.heap.size := off_box_C Hbx.out (by simp; omega) hsub hm; have hgs1 : gs < w1.heap.size := hcur.lt; have H1 := Lib.hid hT1; have H2 := Lib.hid hsub; have H3 := Lib.hid hc1; have H4 := Lib.hid HX1; have H5 := Lib.hid hm; have HC := Lib.hid hcur; have hfit : k * 21 + 2 + A.size ≤ cur.size := (by omega); clear hT1 hsub hc1 HX1 hm hcur))
  refine wp_region_held_drew (S := fun w' => Blk w' w.heap.size 29 A) (by kernel_rfl) hB0.out.drew (fun hHeld => ?_)
  simp only [List.setIfInBounds_toArray, List.size_toArray, List.length_cons, List.length_nil, Array.replicate]
  refine wpAnyH_take (i := 0) (v := ?_) rfl (by kernel_rfl) (by kernel_rfl) (by kernel_rfl) (fun _ _ _ h => h) (Or.inl ⟨by rfl, ?_⟩) hHeld ?_
  rotate_left
  · (intro w' hSw; go_simp; try with_reducible rfl)
  simp only [Act.put, List.getElem_toArray, List.getElem_cons_succ, List.getElem_cons_zero, List.setIfInBounds_toArray, List.set_cons_zero, List.set_cons_succ]
  refine wpAnyH_take (i := 1) (v := ?_) rfl (by kernel_rfl) (by kernel_rfl) (by kernel_rfl) (fun _ _ _ h => h) (Or.inl ⟨by rfl, ?_⟩) hHeld ?_
  rotate_left
  · (intro w' hSw; go_simp; try with_reducible rfl)
  simp only [Act.put, List.getElem_toArray, List.getElem_cons_succ, List.getElem_cons_zero, List.setIfInBounds_toArray, List.set_cons_zero, List.set_cons_succ]
  refine wpAnyH_take (i := 2) (v := .agg A) rfl (by kernel_rfl) (by kernel_rfl) (by kernel_rfl) (fun _ _ _ h => h) (Or.inl ⟨by rfl, fun w' hSw => sk_run_load T37 hz1 (blk_cells hSw) _ (by rfl) (by rfl)⟩) hHeld ?_
  simp only [Act.put, List.getElem_toArray, List.getElem_cons_succ, List.getElem_cons_zero, List.setIfInBounds_toArray, List.set_cons_zero, List.set_cons_succ]
  refine wpAnyH_take (i := 3) (v := ?_) rfl (by kernel_rfl) (by kernel_rfl) (by kernel_rfl) (fun _ _ _ h => h) (Or.inl ⟨by rfl, ?_⟩) hHeld ?_
  rotate_left
  · (intro w' hSw; go_simp; try with_reducible rfl)
  simp only [Act.put, List.getElem_toArray, List.getElem_cons_succ, List.getElem_cons_zero, List.setIfInBounds_toArray, List.set_cons_zero, List.set_cons_succ]
  refine wpAnyH_take (i := 4) (v := ?_) rfl (by kernel_rfl) (by kernel_rfl) (by kernel_rfl) (fun _ _ _ h => h) (Or.inl ⟨by rfl, ?_⟩) hHeld ?_
  rotate_left
  · (intro w' hSw; go_simp; try with_reducible rfl)
  simp only [Act.put, List.getElem_toArray, List.getElem_cons_succ, List.getElem_cons_zero, List.setIfInBounds_toArray, List.set_cons_zero, List.set_cons_succ]
  refine wpAnyH_ready (rs := [5]) (by kernel_rfl) (by simp) ?_
  refine AllReadyH.cons rfl (fun K hK => ?_) AllReadyH.nil
  go_simp
  refine hK _ _ (hHeld.far (by simpa using hng0.symm) _) (fun hHeld => ?_)
  clear hK K
  simp only [Act.put, List.getElem_toArray, List.getElem_cons_succ, List.getElem_cons_zero, List.setIfInBounds_toArray, List.set_cons_zero, List.set_cons_succ]
  refine wpAnyH_take (i := 6) (v := ?_) rfl (by kernel_rfl) (by kernel_rfl) (by kernel_rfl) (fun _ _ _ h => h) (Or.inl ⟨by rfl, ?_⟩) hHeld ?_
  rotate_left
  · (intro w' hSw; go_simp; try with_reducible rfl)
  simp only [Act.put, List.getElem_toArray, List.getElem_cons_succ, List.getElem_cons_zero, List.setIfInBounds_toArray, List.set_cons_zero, List.set_cons_succ]
  refine wpAnyH_take (i := 7) (v := ?_) rfl (by kernel_rfl) (by kernel_rfl) (by kernel_rfl) (fun _ _ _ h => h) (Or.inl ⟨by rfl, ?_⟩) hHeld ?_
  rotate_left
  · (intro w' hSw; go_simp; try with_reducible rfl)
  simp only [Act.put, List.getElem_toArray, List.getElem_cons_succ, List.getElem_cons_zero, List.setIfInBounds_toArray, List.set_cons_zero, List.set_cons_succ]
  refine wpAnyH_ready (rs := [8]) (by kernel_rfl) (by simp) ?_
  refine AllReadyH.cons rfl (fun K hK => ?_) AllReadyH.nil
  refine sk_step_store T37 (HC.out.drew.set_ (k * 21 + 1) (.bool true)) hz1 (by simpa using hfit) ho1 (by rfl) _ _ (by rfl) (by rfl) (by rfl) ?_
  intro w3 hS3
  refine hK _ _ (hS3.far hHeld (Ne.symm hng0)) (fun hHeld => ?_)
  clear hK K
  simp only [Act.put, List.getElem_toArray, List.getElem_cons_succ, List.getElem_cons_zero, List.setIfInBounds_toArray, List.set_cons_zero, List.set_cons_succ]
  refine wpAnyH_done (by kernel_rfl) ?_ _
  obtain ⟨hTA, hCA, hGA⟩ := H4.out w3 ⟨hS3.at_, hS3.other, hS3.size, hS3.os, hS3.tape, hS3.output⟩
  have hB2 : Blk w3 (w.heap.size + 1) 25 #[.int .i64 0, .int .u64 0] := hS3.far (hB1.out.drew.far (by simpa using Ne.symm hng) _) (Ne.symm hng)
  have b0 := hB2.cell 0
  have b1 := hB2.cell 1
  have p0 := hB2.frozen 0
  have p1 := hB2.frozen 1
  have HTA := Lib.hid hTA
  have HCA := Lib.hid hCA
  have HB2 := Lib.hid hB2
  clear hTA hCA hHeld hB2
  go_wp2
  refine bodyPost_ret (v := .tuple #[.agg #[.int .i64 (k : Nat), .int .u64 q], .int .i64 0]) (by simp [results, Tryd.results21, go_sem, b0, b1]) rfl ⟨rfl, ?_⟩
  have hsub := H2.out
  have hbx : w.heap.size + 1 ∉ S1 := fun hm => by
    rcases hsub _ hm with h9 | h9
    · exact Hbx2.out h9
    · simp at h9; omega
  have h0 : Chg S w w1 := ((((Chg.refl S w).alloc _).alloc _).drewN nq).trans H3.out (fun _ hk => .inl hk)
  have hgs : gs ∈ S ∨ w.heap.size ≤ gs := by
    rcases hsub gs H5.out with h9 | h9
    · exact .inl h9
    · simp at h9; exact .inr (by omega)
  refine ⟨S1, (HTA.out.far (p := ⟨w.heap.size + 1, 0, none⟩) hbx _).far (p := ⟨w.heap.size + 1, 1, none⟩) hbx _, fun j hj => ?_, ?_⟩
  · rcases hsub j hj with h9 | h9
    · exact .inl h9
    · simp at h9; exact .inr (by omega)
  · exact ((h0.trans HCA.out (fun k hk => by simp at hk; subst hk; exact hgs)).setCell (p := ⟨w.heap.size + 1, 0, none⟩) (.inr (by simp)) _).setCell (p := ⟨w.heap.size + 1, 1, none⟩) (.inr (by simp)) _
theorem new_no_C {w : World} (size first : Int) (f0 : 0 ≤ first) (h : mayT size first = false) :
    Calls Tryd.prog 19 #[.int .i64 size, .int .u64 first] w fun e w' => e = .returned (.tuple #[.pointer none, .int .i64 2]) ∧ w = w' := by
  have h' : ¬ (1 ≤ size ∧ size ≤ 4096 ∧ 1 ≤ first ∧ first < topG) := fun hh => by rw [mayT_iff.2 hh] at h; cases h
  rw [topG_val] at h'
  clear h
  by_cases a : size < 1
  · go_enter Tryd.func19, Tryd.ntmps19
    go_wp2
    go_ret2
    exact ⟨rfl, rfl⟩
  · by_cases b : 4096 < size
    · go_enter Tryd.func19, Tryd.ntmps19
      go_wp2
      go_ret2
      exact ⟨rfl, rfl⟩
    · by_cases c : first < 1
      · go_enter Tryd.func19, Tryd.ntmps19
        go_wp2
        go_ret2
        exact ⟨rfl, rfl⟩
      · have d : 18446744073709551614 < first := by omega
        clear h'
        go_enter Tryd.func19, Tryd.ntmps19
        go_wp2
        go_ret2
        exact ⟨rfl, rfl⟩
theorem new_ok_C {w : World} (size first : Int) (h : mayT size first = true) :
    Calls Tryd.prog 19 #[.int .i64 size, .int .u64 first] w fun e w' => e = .returned (.tuple #[.pointer (some ⟨w.heap.size, 0, none⟩), .int .i64 0]) ∧
      TabAt w' w.heap.size [w.heap.size] ⟨size, first, [], [], 0⟩ ∧ Chg [] w w' := by
  obtain ⟨a, b, c, d⟩ := mayT_iff.1 h
  rw [topG_val] at d
  have d' : ¬ 18446744073709551614 < first := by omega
  clear h
  go_enter Tryd.func19, Tryd.ntmps19
  go_wp2
  go_ret2
  refine ⟨rfl, ⟨.slice none 0 0, .slice none 0 0, Blk.new w _ _, Row.nil _ _ _, Row.nil _ _ _, rfl⟩, (Chg.refl _ _).alloc _⟩
end Go.Proofs
end
section
namespace Go.Proofs
open Go.RowKit
set_option linter.unusedVariables false
set_option linter.unusedSimpArgs false

theorem Tryd.num_info_C : (Tryd.prog.info? 3).map (fun i => (i.zero, i.size, i.bytes)) = some (some (.int .i64 0), 1, 8) := by kernel_rfl
abbrev gone (q : Int) : Array Value := #[.int .u64 q, .bool false, .int .i64 0, .bool false, .int .i64 0, .int .u64 0, .int .i64 0, .int .u64 0, .int .u8 0, .int .i64 0, .int .i64 0, .int .u64 0, .int .u64 0, .int .u64 0, .int .u64 0, .int .u64 0, .int .u64 0, .int .u64 0, .int .u64 0, .int .i64 0, .int .u64 0]
theorem gone_cells (q : Int) : (gone q).toList = (⟨q, false, Gr.zero⟩ : Spot Gr).cells := rfl
theorem gone_one (q : Int) : (gone q).all (·.oneCell') = true := by simp [Value.oneCell']
end Go.Proofs
end
section
namespace Go.Proofs
open Go.RowKit
set_option linter.unusedVariables false
set_option linter.unusedSimpArgs false

section
variable {P : Program} (w : World)
/-- append of nothing onto a row: the row. -/
theorem run_append_none (t ty e : TypeId) (i : TypeInfo) (size : Nat) (ht : P.underlying t = some (.slice e)) (hi : P.info? e = some i)
    (v : Value) (n : Nat) (xs : List Value) (hr : Row w e size v n xs) (A : Option Addr) (c : Nat) :
    (Builtin.append_ #[t, t] ty #[v, .slice A 0 c]).run P w = .ok v w := by
  rcases hr.2 with ⟨rfl, rfl⟩ | ⟨g, cap, cur, rfl, _, hnc, _⟩
  · cases A <;> simp [Builtin.append_, run_underlying ht, sizeOf, typeInfo, hi, Builtin.lenOf, Builtin.firstCells, loadCells, loadCellsFrom]
  · cases A <;> simp [Builtin.append_, run_underlying ht, sizeOf, typeInfo, hi, Builtin.lenOf, Builtin.firstCells, loadCells, loadCellsFrom, hnc, storeCells]
/-- append of a row onto an empty row: a copy. -/
theorem wpList_append_copy {ops : Array Oper} {rest : List Oper} {o : Oper} {a : Act} {Q : Exit → Act → World → Prop} (hgd : o.guard = none) (s x : Operand) (t : TypeId)
    (ho : o.op = .call { callee := .builtin .append, args := #[s, x], argTypes := #[t, t] })
    (e : TypeId) (i : TypeInfo) (z : Value) (size bytes : Nat) (ht : P.underlying t = some (.slice e)) (hi : P.info? e = some i) (hz : i.zero = some z)
    (hsize : i.size = size) (hby : i.bytes = bytes) (hzs : z.cells.size = size)
    (v : Value) (hs : a.eval s = v) (hr : Row w e size v 0 [])
    (V : Value) (n : Nat) (xs : List Value) (hx : a.eval x = V) (hV : Row w e size V n xs) (h1 : ∀ u ∈ xs, u.oneCell' = true)
    (h63 : n ≤ maxLen) (hbytes : n * bytes ≤ 140737488355328) (H : Nat) (hH : w.heap.size = H)
    (h : ∀ v' w', Row w' e size v' n xs → w.grownBy w' v.ownBlock → (∀ k ∈ foot v', v.ownBlock = some k ∨ k = H) → wpList P ops Q rest (a.put o.dst v') w') : wpList P ops Q (o :: rest) a w := by
  obtain ⟨A, c, rfl, hA⟩ := hV.val
  rcases Nat.eq_zero_or_pos n with h0 | h0
  · subst h0
    have hxs : xs = [] := List.eq_nil_of_length_eq_zero (by simpa using hV.1)
    subst hxs
    have hrun := run_append_none (P := P) w t o.type e i size ht hi v 0 [] hr A c
    refine wpList_plain hgd fun _ hK => ?_
    unfold Oper.wp execOp
    simp only [ho, resolve, invoke, builtin, Sem.run_bind, Sem.run_pure, Result.andThen_ok, List.map_toArray, List.map_cons, List.map_nil, hs, hx, hrun]
    exact hK _ _ (h v w hr ⟨rfl, rfl, rfl, Nat.le_refl _, fun _ _ _ => rfl⟩ (fun k hk => .inl (by simpa [foot] using hk)))
  · obtain ⟨g, cap, hv, _, _, hcell, _, _⟩ := hV.form h0
    simp only [Value.slice.injEq] at hv
    obtain ⟨rfl, _, _⟩ := hv
    have hadd : ∀ j, (⟨g, 0, none⟩ : Addr).add j = ⟨g, j, none⟩ := fun j => by unfold Addr.add; split <;> simp_all
    refine wpList_append_row w hgd s x t ho e i z size bytes ht hi hz hsize hby hzs v 0 [] hs hr ⟨g, 0, none⟩ n c xs hx hV.1 (fun j u hu => by rw [hadd]; exact hcell j u hu) h1 h0 (by omega) (by rw [Nat.zero_add]; exact hbytes) H hH ?_
    intro g' cap' w' h2 h3 h4 _
    simp only [Nat.zero_add, List.nil_append] at h2
    rw [Nat.zero_add]
    exact h _ _ h2 h3 (fun k hk => by simp [foot_some] at hk; subst hk; exact h4)
end
theorem Tryd.int_info3 : (Tryd.prog.info? 3).map (fun i => (i.zero, i.size, i.bytes)) = some (some (.int .i64 0), 1, 8) := by kernel_rfl
/-- A slice in new blocks, with the same cells. -/
def Cloned (e : TypeId) (size n : Nat) (xs : List Value) (w w' : World) (en : Ending) : Prop := ∃ v, en = .returned v ∧ Row w' e size v n xs ∧ (∀ k ∈ foot v, w.heap.size ≤ k) ∧ Chg [] w w'
theorem spotsCells_one (l : List (Spot Gr)) : ∀ u ∈ spotCells l, u.oneCell' = true := by
  intro u hu
  unfold spotCells at hu
  rw [List.mem_flatMap] at hu
  obtain ⟨s, _, hs⟩ := hu
  exact s.cells_one u hs
theorem numCells_one (l : List Nat) : ∀ u ∈ numCells l, u.oneCell' = true := by
  intro u hu
  unfold numCells at hu
  rw [List.mem_map] at hu
  obtain ⟨s, _, rfl⟩ := hu
  rfl
theorem eql_nil_94 (w : World) (a : Option Addr) (n c : Nat) : (binOp .eql 59 (.slice a n c) (.slice none 0 0)).run Tryd.prog w = .ok (.bool a.isNone) w := by
  simp only [binOp]
  simp [Op.equal, Op.maxDepth, Lib.run_equalIn_slice_nil w 9999 59 67 a n c 0 0 Tryd.underlying59]
theorem eql_nil_81 (w : World) (a : Option Addr) (n c : Nat) : (binOp .eql 60 (.slice a n c) (.slice none 0 0)).run Tryd.prog w = .ok (.bool a.isNone) w := by
  simp only [binOp]
  simp [Op.equal, Op.maxDepth, Lib.run_equalIn_slice_nil w 9999 60 3 a n c 0 0 Tryd.underlying60]
attribute [local go_sem] eql_nil_94 eql_nil_81
/-- A copy of the table, in new blocks. -/
def Copied (t : Tab Gr) (w w' : World) : Prop := ∃ S, TabAt w' w.heap.size S t ∧ (∀ k ∈ S, w.heap.size ≤ k) ∧ Chg [] w w'
theorem Copied.mk {t : Tab Gr} {w W : World} {v1 v2 : Value} (hB : Blk W w.heap.size 62 #[.int .i64 t.size, .int .u64 t.first, v1, v2, .int .i64 t.retired]) (h1 : Row W 67 21 v1 t.spots.length (spotCells t.spots)) (h2 : Row W 3 1 v2 t.freed.length (numCells t.freed))
    (f1 : ∀ k ∈ foot v1, w.heap.size ≤ k) (f2 : ∀ k ∈ foot v2, w.heap.size ≤ k) (hc : Chg [] w W) : Copied t w W :=
  ⟨_, ⟨v1, v2, hB, h1, h2, rfl⟩, fun k hk => by
    simp at hk
    rcases hk with rfl | hk | hk
    · exact Nat.le_refl _
    · exact f1 k hk
    · exact f2 k hk, hc⟩
end Go.Proofs
end
