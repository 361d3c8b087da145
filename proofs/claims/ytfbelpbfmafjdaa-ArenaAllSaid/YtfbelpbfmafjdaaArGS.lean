import Derived.Test.YtfbelpbfmafjdaaArFS
namespace Go.Proofs
open Go.RowKit
set_option linter.unusedVariables false

theorem open_put_S {κ : Kind ByteArray} (hκ : κ.Fine) {w : World} {g : Nat} {S : List Nat} {t : Tab ByteArray} (h : TabAt κ w g S t) {k : Nat} {s : Spot ByteArray} (hs : t.spots[k]? = some s) :
    ∃ gs n cs, w.cell? ⟨g, 2, none⟩ = some (.slice (some ⟨gs, 0, none⟩) n cs) ∧ k < n ∧ w.cell? ⟨gs, k * 3, none⟩ = some (.int .u64 s.gen) ∧ w.cell? ⟨gs, k * 3 + 1, none⟩ = some (.bool s.there) ∧ w.cell? ⟨gs, k * 3 + 2, none⟩ = some (κ.val s.thing) ∧
      (∀ j, w.frozen? ⟨gs, j, none⟩ = false) ∧ gs ∈ S ∧ gs < w.heap.size ∧ g ≠ gs ∧
      ∀ x, TabAt κ ((w.setCell ⟨gs, k * 3 + 1, none⟩ (.bool true)).setCell ⟨gs, k * 3 + 2, none⟩ (κ.val x)) g S { t with spots := t.spots.set k ⟨s.gen, true, x⟩ } := by
  obtain ⟨VS, VF, hB, hS, hF, rfl⟩ := h
  obtain ⟨gs, cs, rfl, hft, _, hlt, hk, a0, a1, a2, hfz⟩ := TabAt.open_spot hS hs
  have hg : g ≠ gs := by have := hS.ty hB (Ne.symm hκ.ts); simpa [foot_some] using this
  have hfg : gs ∉ foot VF := fun h => hS.ty2 hF hκ.sn gs (by simp [foot_some]) h
  refine ⟨gs, _, cs, hB.cell 2, hk, a0, a1, a2, hfz, by simp [foot_some], hlt, hg, fun x => ?_⟩
  refine ⟨.slice (some ⟨gs, 0, none⟩) t.spots.length cs, VF, (hB.far hg _).far hg _, ?_, (hF.far hfg _).far hfg _, rfl⟩
  have := hS.come hs x
  simpa using this

theorem off_box_S {S S1 : List Nat} {B H gs : Nat} (hB : B ∉ S) (hH : B < H) (hsub : ∀ k ∈ S1, k ∈ S ∨ H ≤ k) (hm : gs ∈ S1) : gs ≠ B := by
  rintro rfl
  rcases hsub _ hm with h | h
  · exact hB h
  · omega
theorem put_full_S {w : World} {g : Nat} {S : List Nat} {t : Tab ByteArray} (h : TabAt kS w g S t) (hw : t.WF) (hf : t.frees = 0) (x : ByteArray) :
    Calls Try.prog 29 #[.pointer (some ⟨g, 0, none⟩), .string x] w fun e w' => e = .returned (.tuple #[.agg #[.int .i64 0, .int .u64 0], .int .i64 3]) ∧ Chg [] w w' := by
  have HA := fun w' h' => free_S (w := w') (g := g) (S := S) (t := t) h' hw
  rw [hf] at HA
  clear hf
  go_enter Try.func29, Try.ntmps29
  go_wp2_with (first
    | (go_at_call 44; refine (none_S (h.quiet (Chg.alloc (Chg.refl _ _) _)) hw).mono ?_; rintro e w' ⟨rfl, rfl⟩)
    | (go_at_call 45; refine (HA _ (h.quiet (Chg.alloc (Chg.refl _ _) _))).mono ?_; rintro e w' ⟨rfl, nq, rfl⟩))
  exact bodyPost_ret (v := .tuple #[.agg #[.int .i64 0, .int .u64 0], .int .i64 3]) (by simp [results, Try.results29, go_sem]) rfl ⟨rfl, ((((Chg.refl _ _).alloc _).drewN _).setCell (p := ⟨w.heap.size, 0, none⟩) (.inr (Nat.le_refl _)) _).setCell (p := ⟨w.heap.size, 1, none⟩) (.inr (Nat.le_refl _)) _⟩
set_option maxRecDepth 100000 in
set_option maxHeartbeats 1600000 in
theorem put_ok_S {w : World} {g : Nat} {S : List Nat} {t : Tab ByteArray} (h : TabAt kS w g S t) (hw : t.WF) (hf : t.frees ≠ 0) (x : ByteArray) :
    Calls Try.prog 29 #[.pointer (some ⟨g, 0, none⟩), .string x] w fun e w' => e = .returned (.tuple #[.agg #[.int .i64 (t.takeAt : Nat), .int .u64 (t.genAt t.takeAt)], .int .i64 0]) ∧ Turns kS g S (t.put (ByteArray.mk #[]) x) w w' := by
  have HF := fun w' h' => free_S (w := w') (g := g) (S := S) (t := t) h' hw
  have HT := fun w' h' => take_S (w := w') (g := g) (S := S) (t := t) h' hw hf
  obtain ⟨s, hs, hth, _, _, _, _, hg, hlt⟩ := hw.take_at (z := (ByteArray.mk #[])) hf
  have hs1 := hw.s1
  have hb : (t.frees == 0) = false := by simpa using hf
  have HP := put_eq (z := (ByteArray.mk #[])) hw hf x
  rw [← hg] at HP
  have HO := fun w' S' h' => open_put_S kS_fine (w := w') (g := g) (S := S') (t := t.take (ByteArray.mk #[])) h' hs
  rw [hth] at HO
  rw [← hg, HP]
  obtain ⟨k, hk⟩ : ∃ k, k = t.takeAt := ⟨_, rfl⟩
  rw [← hk] at HT HO hlt ⊢
  obtain ⟨q, hq⟩ : ∃ q, q = s.gen := ⟨_, rfl⟩
  rw [← hq] at HO ⊢
  have hS := h.lt
  have hbx : w.heap.size ∉ S := fun hm => by have := hS _ hm; omega
  have HbS := Lib.hid hS
  have Hbx := Lib.hid hbx
  have Hh := Lib.hid h
  clear hs hth hg hf HP hk hq hS hbx
  go_enter Try.func29, Try.ntmps29
  go_wp2_with (first
    | (go_at_call 44; refine (none_S (h.quiet (Chg.alloc (Chg.refl _ _) _)) hw).mono ?_; rintro e w' ⟨rfl, rfl⟩)
    | (go_at_call 45; refine (HF _ (h.quiet (Chg.alloc (Chg.refl _ _) _))).mono ?_; rintro e w' ⟨rfl, nq, rfl⟩)
    | (go_at_call 46; refine (HT _ (h.quiet (((Chg.refl _ _).alloc _).drewN _))).mono ?_; rintro e w1 ⟨rfl, S1, hT1, hsub, hc1⟩; obtain ⟨gs, n, cs, c2, hk, a0, a1, a2, f, hm, lgs, hne, HX⟩ := HO _ _ hT1; have i0 : (0 : Int) ≤ (k : Int) := (by omega); have i1 : (k : Int) < (n : Int) := (by omega); have hB1 := (((Blk.new w 36 #[.int .i64 0, .int .u64 0]).drewN nq).chg hc1 Hbx.out); have b0 := hB1.cell 0; have b1 := hB1.cell 1; have p0 := hB1.frozen 0; have p1 := hB1.frozen 1; have f1 := f (k * 3 + 1); have f2 := f (k * 3 + 2); have hng : gs ≠ w.heap.size := off_box_S Hbx.out (by simp) hsub hm; have H1 := Lib.hid hT1; have H2 := Lib.hid hsub; have H3 := Lib.hid hc1; have H4 := Lib.hid HX; have H5 := Lib.hid hm; clear hT1 hsub hc1 HX hm f))
  refine bodyPost_ret (v := .tuple #[.agg #[.int .i64 (k : Nat), .int .u64 q], .int .i64 0]) (by simp [results, Try.results29, go_sem, *]) rfl ⟨rfl, ?_⟩
  have hsub := H2.out
  have hbx : w.heap.size ∉ S1 := fun hm => by
    rcases hsub _ hm with h9 | h9
    · exact Hbx.out h9
    · simp at h9; omega
  refine ⟨S1, ((H4.out x).far (p := ⟨w.heap.size, 0, none⟩) hbx _).far (p := ⟨w.heap.size, 1, none⟩) hbx _, fun j hj => ?_, ?_⟩
  · rcases hsub j hj with h9 | h9
    · exact .inl h9
    · simp at h9; exact .inr (by omega)
  · have h0 : Chg S w w1 := (((Chg.refl S w).alloc _).drewN nq).trans H3.out (fun _ hk => .inl hk)
    have hgs : gs ∈ S ∨ w.heap.size ≤ gs := by
      rcases hsub gs H5.out with h9 | h9
      · exact .inl h9
      · simp at h9; exact .inr (by omega)
    exact (((h0.setCell (p := ⟨gs, k * 3 + 1, none⟩) hgs _).setCell (p := ⟨gs, k * 3 + 2, none⟩) hgs _).setCell (p := ⟨w.heap.size, 0, none⟩) (.inr (Nat.le_refl _)) _).setCell (p := ⟨w.heap.size, 1, none⟩) (.inr (Nat.le_refl _)) _

theorem new_no_S {w : World} (size first : Int) (f0 : 0 ≤ first) (h : mayT size first = false) :
    Calls Try.prog 28 #[.int .i64 size, .int .u64 first] w fun e w' => e = .returned (.tuple #[.pointer none, .int .i64 2]) ∧ w = w' := by
  have h' : ¬ (1 ≤ size ∧ size ≤ 4096 ∧ 1 ≤ first ∧ first < topG) := fun hh => by rw [mayT_iff.2 hh] at h; cases h
  rw [topG_val] at h'
  clear h
  by_cases a : size < 1
  · go_enter Try.func28, Try.ntmps28
    go_wp2
    go_ret2
    exact ⟨rfl, rfl⟩
  · by_cases b : 4096 < size
    · go_enter Try.func28, Try.ntmps28
      go_wp2
      go_ret2
      exact ⟨rfl, rfl⟩
    · by_cases c : first < 1
      · go_enter Try.func28, Try.ntmps28
        go_wp2
        go_ret2
        exact ⟨rfl, rfl⟩
      · have d : 18446744073709551614 < first := by omega
        clear h'
        go_enter Try.func28, Try.ntmps28
        go_wp2
        go_ret2
        exact ⟨rfl, rfl⟩
theorem new_ok_S {w : World} (size first : Int) (h : mayT size first = true) :
    Calls Try.prog 28 #[.int .i64 size, .int .u64 first] w fun e w' => e = .returned (.tuple #[.pointer (some ⟨w.heap.size, 0, none⟩), .int .i64 0]) ∧
      TabAt kS w' w.heap.size [w.heap.size] ⟨size, first, [], [], 0⟩ ∧ Chg [] w w' := by
  obtain ⟨a, b, c, d⟩ := mayT_iff.1 h
  rw [topG_val] at d
  have d' : ¬ 18446744073709551614 < first := by omega
  clear h
  go_enter Try.func28, Try.ntmps28
  go_wp2
  go_ret2
  refine ⟨rfl, ⟨.slice none 0 0, .slice none 0 0, Blk.new w _ _, Row.nil _ _ _, Row.nil _ _ _, rfl⟩, (Chg.refl _ _).alloc _⟩
end Go.Proofs
