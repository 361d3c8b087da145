import Derived.Test.YtocdkomjdcccoaaCoF
namespace Go.Proofs
open Go.RowKit
set_option linter.unusedVariables false

theorem open_put_C {w : World} {g : Nat} {S : List Nat} {t : Tab Cx} (h : TabAt w g S t) {k : Nat} {s : Spot Cx} (hs : t.spots[k]? = some s) :
    ∃ gs n cs, w.cell? ⟨g, 2, none⟩ = some (.slice (some ⟨gs, 0, none⟩) n cs) ∧ k < n ∧ w.cell? ⟨gs, k * 6, none⟩ = some (.int .u64 s.gen) ∧ w.cell? ⟨gs, k * 6 + 1, none⟩ = some (.bool s.there) ∧
      (∃ u2 u3 u4 u5, w.cell? ⟨gs, k * 6 + 2, none⟩ = some u2 ∧ w.cell? ⟨gs, k * 6 + 3, none⟩ = some u3 ∧ w.cell? ⟨gs, k * 6 + 4, none⟩ = some u4 ∧ w.cell? ⟨gs, k * 6 + 5, none⟩ = some u5) ∧
      (∀ j, w.frozen? ⟨gs, j, none⟩ = false) ∧ gs ∈ S ∧ gs < w.heap.size ∧ g ≠ gs ∧
      ∀ x, TabAt (put4 (w.setCell ⟨gs, k * 6 + 1, none⟩ (.bool true)) gs (k * 6 + 2) x) g S { t with spots := t.spots.set k ⟨s.gen, true, x⟩ } := by
  obtain ⟨VS, VF, hB, hS, hF, rfl⟩ := h
  obtain ⟨gs, cs, rfl, hft, _, hlt, hk, a0, a1, a2, a3, a4, a5, hfz⟩ := TabAt.open_spot hS hs
  have hg : g ≠ gs := by have := hS.ty hB (by decide); simpa [foot_some] using this
  have hfg : gs ∉ foot VF := fun h => hS.ty2 hF (by decide) gs (by simp [foot_some]) h
  refine ⟨gs, _, cs, hB.cell 2, hk, a0, a1, ⟨_, _, _, _, a2, a3, a4, a5⟩, hfz, by simp [foot_some], hlt, hg, fun x => ?_⟩
  refine ⟨.slice (some ⟨gs, 0, none⟩) t.spots.length cs, VF, (hB.far hg _).far4 hg _ _, ?_, (hF.far hfg _).far4 hfg _ _, rfl⟩
  have := hS.come hs x
  simpa using this
theorem off_box_C {S S1 : List Nat} {B H gs : Nat} (hB : B ∉ S) (hH : B < H) (hsub : ∀ k ∈ S1, k ∈ S ∨ H ≤ k) (hm : gs ∈ S1) : gs ≠ B := by
  rintro rfl
  rcases hsub _ hm with h | h
  · exact hB h
  · omega
set_option maxRecDepth 100000 in
theorem put_full_C {w : World} {g : Nat} {S : List Nat} {t : Tab Cx} (h : TabAt w g S t) (hw : t.WF) (hf : t.frees = 0) (x : Cx) :
    Calls Try.prog 19 #[.pointer (some ⟨g, 0, none⟩), x.val] w fun e w' => e = .returned (.tuple #[.agg #[.int .i64 0, .int .u64 0], .int .i64 3]) ∧ Chg [] w w' := by
  have HA := fun w' h' => free_C (w := w') (g := g) (S := S) (t := t) h' hw
  rw [hf] at HA
  clear hf
  go_enter Try.func19, Try.ntmps19
  go_wp2_with (first
    | (go_at_call 35; refine (none_C (h.quiet (((Chg.refl _ _).alloc _).alloc _)) hw).mono ?_; rintro e w' ⟨rfl, rfl⟩)
    | (go_at_call 34; refine (HA _ (h.quiet (((Chg.refl _ _).alloc _).alloc _))).mono ?_; rintro e w' ⟨rfl, nq, rfl⟩))
  exact bodyPost_ret (v := .tuple #[.agg #[.int .i64 0, .int .u64 0], .int .i64 3]) (by simp [results, Try.results19, go_sem]) rfl ⟨rfl, (((((Chg.refl _ _).alloc _).alloc _).drewN _).setCell (p := ⟨w.heap.size + 1, 0, none⟩) (.inr (by simp)) _).setCell (p := ⟨w.heap.size + 1, 1, none⟩) (.inr (by simp)) _⟩
set_option maxRecDepth 100000 in
set_option maxHeartbeats 1600000 in
theorem put_ok_C {w : World} {g : Nat} {S : List Nat} {t : Tab Cx} (h : TabAt w g S t) (hw : t.WF) (hf : t.frees ≠ 0) (x : Cx) :
    Calls Try.prog 19 #[.pointer (some ⟨g, 0, none⟩), x.val] w fun e w' => e = .returned (.tuple #[.agg #[.int .i64 (t.takeAt : Nat), .int .u64 (t.genAt t.takeAt)], .int .i64 0]) ∧ Turns g S (t.put cx0 x) w w' := by
  have HF := fun w' h' => free_C (w := w') (g := g) (S := S) (t := t) h' hw
  have HT := fun w' h' => take_C (w := w') (g := g) (S := S) (t := t) h' hw hf
  obtain ⟨s, hs, hth, _, _, _, _, hg, hlt⟩ := hw.take_at (z := cx0) hf
  have hs1 := hw.s1
  have hb : (t.frees == 0) = false := by simpa using hf
  have HP := put_eq (z := cx0) hw hf x
  rw [← hg] at HP
  have HO := fun w' S' h' => open_put_C (w := w') (g := g) (S := S') (t := t.take cx0) h' hs
  rw [hth] at HO
  rw [← hg, HP]
  obtain ⟨k, hk⟩ : ∃ k, k = t.takeAt := ⟨_, rfl⟩
  rw [← hk] at HT HO hlt ⊢
  obtain ⟨q, hq⟩ : ∃ q, q = s.gen := ⟨_, rfl⟩
  rw [← hq] at HO ⊢
  have hS := h.lt
  have hbx : w.heap.size ∉ S := fun hm => by have := hS _ hm; omega
  have hbx2 : w.heap.size + 1 ∉ S := fun hm => by have := hS _ hm; omega
  have HbS := Lib.hid hS
  have Hbx := Lib.hid hbx
  have Hbx2 := Lib.hid hbx2
  have Hh := Lib.hid h
  clear hs hth hg hf HP hk hq hS hbx hbx2
  go_enter Try.func19, Try.ntmps19
  go_wp2_with (first
    | (go_at_call 35; refine (none_C (h.quiet (((Chg.refl _ _).alloc _).alloc _)) hw).mono ?_; rintro e w' ⟨rfl, rfl⟩)
    | (go_at_call 34; refine (HF _ (h.quiet (((Chg.refl _ _).alloc _).alloc _))).mono ?_; rintro e w' ⟨rfl, nq, rfl⟩)
    | (go_at_call 36; refine (HT _ (h.quiet ((((Chg.refl _ _).alloc _).alloc _).drewN _))).mono ?_; rintro e w1 ⟨rfl, S1, hT1, hsub, hc1⟩; obtain ⟨gs, n, cs, c2, hk, a0, a1, ⟨u2, u3, u4, u5, a2, a3, a4, a5⟩, f, hm, lgs, hne, HX⟩ := HO _ _ hT1; have i0 : (0 : Int) ≤ (k : Int) := (by omega); have i1 : (k : Int) < (n : Int) := (by omega); have hB0 := ((((Blk.new w 42 #[.int .u64 x.b, .int .u64 x.p, .slice x.a x.m x.c, .int .i64 x.n]).alloc (.cells #[.int .i64 0, .int .u64 0] 30)).drewN nq).chg hc1 Hbx.out); have hB1 := (((Blk.at (w.alloc (.cells #[.int .u64 x.b, .int .u64 x.p, .slice x.a x.m x.c, .int .i64 x.n] 42)) 30 #[.int .i64 0, .int .u64 0] (n := w.heap.size + 1) (by simp)).drewN nq).chg hc1 Hbx2.out); have x0 := hB0.cell 0; have x1 := hB0.cell 1; have x2 := hB0.cell 2; have x3 := hB0.cell 3; have b0 := hB1.cell 0; have b1 := hB1.cell 1; have p0 := hB1.frozen 0; have p1 := hB1.frozen 1; have f1 := f (k * 6 + 1); have f2 := f (k * 6 + 2); have f3 := f (k * 6 + 3); have f4 := f (k * 6 + 4); have f5 := f (k * 6 + 5); have hng : gs ≠ w.heap.size + 1 := off_box_C Hbx2.out (by simp) hsub hm; have hng0 : gs ≠ w.heap.size := off_box_C Hbx.out (by simp; omega) hsub hm; have H1 := Lib.hid hT1; have H2 := Lib.hid hsub; have H3 := Lib.hid hc1; have H4 := Lib.hid HX; have H5 := Lib.hid hm; clear hT1 hsub hc1 HX hm f))
  go_region
  go_wp2
  refine bodyPost_ret (v := .tuple #[.agg #[.int .i64 (k : Nat), .int .u64 q], .int .i64 0]) (by simp [results, Try.results19, go_sem, b0, b1]) rfl ⟨rfl, ?_⟩
  have hsub := H2.out
  have hbx : w.heap.size + 1 ∉ S1 := fun hm => by
    rcases hsub _ hm with h9 | h9
    · exact Hbx2.out h9
    · simp at h9; omega
  refine ⟨S1, (((H4.out x).far (p := ⟨w.heap.size + 1, 0, none⟩) hbx _).far (p := ⟨w.heap.size + 1, 1, none⟩) hbx _).quiet (Chg.refl _ _).drew, fun j hj => ?_, ?_⟩
  · rcases hsub j hj with h9 | h9
    · exact .inl h9
    · simp at h9; exact .inr (by omega)
  · have h0 : Chg S w w1 := ((((Chg.refl S w).alloc _).alloc _).drewN nq).trans H3.out (fun _ hk => .inl hk)
    have hgs : gs ∈ S ∨ w.heap.size ≤ gs := by
      rcases hsub gs H5.out with h9 | h9
      · exact .inl h9
      · simp at h9; exact .inr (by omega)
    exact (((chg_put4 (h0.setCell (p := ⟨gs, k * 6 + 1, none⟩) hgs _) hgs _ _).setCell (p := ⟨w.heap.size + 1, 0, none⟩) (.inr (by simp)) _).setCell (p := ⟨w.heap.size + 1, 1, none⟩) (.inr (by simp)) _).drew

theorem new_no_C {w : World} (size first : Int) (f0 : 0 ≤ first) (h : mayT size first = false) :
    Calls Try.prog 13 #[.int .i64 size, .int .u64 first] w fun e w' => e = .returned (.tuple #[.pointer none, .int .i64 2]) ∧ w = w' := by
  have h' : ¬ (1 ≤ size ∧ size ≤ 4096 ∧ 1 ≤ first ∧ first < topG) := fun hh => by rw [mayT_iff.2 hh] at h; cases h
  rw [topG_val] at h'
  clear h
  by_cases a : size < 1
  · go_enter Try.func13, Try.ntmps13
    go_wp2
    go_ret2
    exact ⟨rfl, rfl⟩
  · by_cases b : 4096 < size
    · go_enter Try.func13, Try.ntmps13
      go_wp2
      go_ret2
      exact ⟨rfl, rfl⟩
    · by_cases c : first < 1
      · go_enter Try.func13, Try.ntmps13
        go_wp2
        go_ret2
        exact ⟨rfl, rfl⟩
      · have d : 18446744073709551614 < first := by omega
        clear h'
        go_enter Try.func13, Try.ntmps13
        go_wp2
        go_ret2
        exact ⟨rfl, rfl⟩
theorem new_ok_C {w : World} (size first : Int) (h : mayT size first = true) :
    Calls Try.prog 13 #[.int .i64 size, .int .u64 first] w fun e w' => e = .returned (.tuple #[.pointer (some ⟨w.heap.size, 0, none⟩), .int .i64 0]) ∧
      TabAt w' w.heap.size [w.heap.size] ⟨size, first, [], [], 0⟩ ∧ Chg [] w w' := by
  obtain ⟨a, b, c, d⟩ := mayT_iff.1 h
  rw [topG_val] at d
  have d' : ¬ 18446744073709551614 < first := by omega
  clear h
  go_enter Try.func13, Try.ntmps13
  go_wp2
  go_ret2
  refine ⟨rfl, ⟨.slice none 0 0, .slice none 0 0, Blk.new w _ _, Row.nil _ _ _, Row.nil _ _ _, rfl⟩, (Chg.refl _ _).alloc _⟩
end Go.Proofs
