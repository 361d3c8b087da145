import Derived.Test.YtfbelpbfmafjdaaArES
namespace Go.Proofs
open Go.RowKit
set_option linter.unusedVariables false

theorem drop_no_S {w : World} {g : Nat} {S : List Nat} {t : Tab ByteArray} (h : TabAt kS w g S t) (hw : t.WF) (i q : Int) (i0 : -9223372036854775808 ≤ i) (i1 : i ≤ 9223372036854775807) (hno : t.has i q = false) :
    Calls Try.prog 30 #[.pointer (some ⟨g, 0, none⟩), .agg #[.int .i64 i, .int .u64 q]] w fun e w' => e = .returned (.int .i64 11) ∧ Chg [] w w' := by
  have HA := fun w' h' => find_no_S (w := w') (g := g) (S := S) (t := t) h' hw i q i0 i1 hno
  clear hno
  go_enter Try.func30, Try.ntmps30
  go_wp2_with (go_at_call 47; refine (HA _ (h.quiet (Chg.alloc (Chg.refl _ _) _))).mono ?_; rintro e w1 ⟨rfl, hc1⟩)
  go_ret
  exact ⟨rfl, ((Chg.refl _ _).alloc _).then hc1⟩
theorem Try.num_info_S : (Try.prog.info? 3).map (fun i => (i.zero, i.size, i.bytes)) = some (some (.int .i64 0), 1, 8) := by kernel_rfl
set_option maxRecDepth 100000 in
set_option maxHeartbeats 1600000 in
theorem drop_yes_S {w : World} {g : Nat} {S : List Nat} {t : Tab ByteArray} (h : TabAt kS w g S t) (hw : t.WF) {i q : Int} (hq : t.has i q = true) :
    Calls Try.prog 30 #[.pointer (some ⟨g, 0, none⟩), .agg #[.int .i64 i, .int .u64 q]] w fun e w' => e = .returned (.int .i64 0) ∧ Turns kS g S (t.drop (ByteArray.mk #[]) i.toNat q) w w' := by
  obtain ⟨k, s, gs, cs, VF, rfl, rfl, hs, hth, hk, hB, hS, hF, hSS⟩ := has_form h hq
  have HA := fun w' h' => find_yes_S (w := w') (g := g) (S := S) (t := t) h' hw hs hth (gs := gs) (cs := cs) (n := t.spots.length)
  subst hSS
  obtain ⟨gs', cs', hv, _, _, hgs, _, a0, a1, a2, f⟩ := TabAt.open_spot hS hs
  simp only [Value.slice.injEq, Option.some.injEq, Addr.mk.injEq] at hv
  obtain ⟨⟨rfl, _⟩, _, _⟩ := hv
  have f0 := f (k * 3)
  have f1 := f (k * 3 + 1)
  have f2 := f (k * 3 + 2)
  obtain ⟨g1, g2, g3⟩ := hw.gens k s hs
  have g4 := g3 hth
  have g0 := hw.f0
  rw [topG_val] at g4
  obtain ⟨r0, r1⟩ := hw.ret_bd
  have hl := hw.len
  have hs1 := hw.s1
  have hfl := hw.freed_len
  have hg : g ≠ gs := by have := hS.ty hB (by decide); simpa [foot_some] using this
  have lg := hB.lt
  rw [show ((k : Nat) : Int).toNat = k from rfl]
  have e1 : IntKind.u64.wrap (s.gen + 1) = s.gen + 1 := by rw [IntKind.wrap_u64]; omega
  by_cases hr : topG ≤ s.gen + 1
  · have HT := fun (w1 : World) (hc : Chg [] w w1) => Turns.retire (s := ⟨s.gen + 1, false, (ByteArray.mk #[])⟩) kS_fine hB hS hF hk (t.retired + 1) hc
    rw [show t.drop (ByteArray.mk #[]) k s.gen = { t with spots := t.spots.set k ⟨s.gen + 1, false, (ByteArray.mk #[])⟩, retired := t.retired + 1 } by unfold Tab.drop; rw [if_pos hr, if_pos hr]]
    have HH := Lib.hid HT
    have hB' := Lib.hid hB
    rw [topG_val] at hr
    have e2 : 18446744073709551614 < s.gen + 1 := by omega
    have b4 := hB.cell 4
    have q4 := hB.frozen 4
    clear hS hF hq hs hth hB f HT g1 g2 g3
    go_enter Try.func30, Try.ntmps30
    go_wp2_with (go_at_call 47; refine (HA _ (h.quiet (Chg.alloc (Chg.refl _ _) _)) ((hB'.out.alloc _).cell 2) rfl).mono ?_; rintro e w1 ⟨rfl, hc1⟩; have hz : w.heap.size < w1.heap.size := (by have := hc1.size; simp at this; omega); have kk : ∀ b o, b < w.heap.size → w1.cell? ⟨b, o, none⟩ = w.cell? ⟨b, o, none⟩ := (fun b o hb => (hc1.cell (p := ⟨b, o, none⟩) (by simp; omega) (by simp)).trans (World.cell?_alloc_past _ _ _ hb)); have kf : ∀ b o, b < w.heap.size → w1.frozen? ⟨b, o, none⟩ = w.frozen? ⟨b, o, none⟩ := (fun b o hb => (hc1.frozen (p := ⟨b, o, none⟩) (by simp; omega) (by simp)).trans (World.frozen?_of_block (w := w) (Below.heap_alloc w _ b hb))); have k3 := ((Blk.new w 36 _).chg hc1 (by simp)).cell 0; have k4 := ((Blk.new w 36 _).chg hc1 (by simp)).cell 1)
    go_ret
    exact ⟨rfl, HH.out _ (((Chg.refl _ _).alloc _).then hc1)⟩
  · obtain ⟨ni, hi0, hz0, hz1, hz2⟩ := info_parts Try.num_info_S
    have hfg : gs ∉ foot VF := fun h => hS.ty2 hF (by decide) gs (by simp [foot_some]) h
    have hgf : VF.ownBlock ≠ some g := fun e => hF.ty hB (by decide) (row_mem e)
    have HT := fun (w1 w2 : World) (gg cap : Nat) (o : Obj) (hc : Chg [] w w1) => Turns.freed (s := ⟨s.gen + 1, false, (ByteArray.mk #[])⟩) (w1 := w1) (w2 := w2) (gg := gg) (cap := cap) (o := o) kS_fine hB hS hF hk hc
    rw [show t.drop (ByteArray.mk #[]) k s.gen = { t with spots := t.spots.set k ⟨s.gen + 1, false, (ByteArray.mk #[])⟩, freed := t.freed ++ [k] } by unfold Tab.drop; rw [if_neg hr, if_neg hr]]
    have HH := Lib.hid HT
    have hB' := Lib.hid hB
    have HB3 : ∀ w1, Chg [] w w1 → Blk (((w1.setCell ⟨gs, k * 3, none⟩ (.int .u64 (s.gen + 1))).setCell ⟨gs, k * 3 + 1, none⟩ (.bool false)).setCell ⟨gs, k * 3 + 2, none⟩ (.string (ByteArray.mk #[]))) g 93 #[.int .i64 t.size, .int .u64 t.first, .slice (some ⟨gs, 0, none⟩) t.spots.length cs, VF, .int .i64 t.retired] :=
      fun w1 hc => (((hB.chg hc (by simp)).far hg _).far hg _).far hg _
    have HF3 : ∀ w1, Chg [] w w1 → Row (((w1.setCell ⟨gs, k * 3, none⟩ (.int .u64 (s.gen + 1))).setCell ⟨gs, k * 3 + 1, none⟩ (.bool false)).setCell ⟨gs, k * 3 + 2, none⟩ (.string (ByteArray.mk #[]))) 3 1 VF t.freed.length (numCells t.freed) :=
      fun w1 hc => (((hF.chg hc (fun _ _ h => by cases h)).far hfg _).far hfg _).far hfg _
    have hnew : ∀ (W : World) (n : Nat) (o : Obj), n = W.heap.size → (W.alloc o).heap[n]? = some o := by rintro W n o rfl; exact heap_alloc_new W o
    obtain ⟨A', c', hVF, _⟩ := hF.val
    rw [topG_val] at hr
    have e2 : ¬ 18446744073709551614 < s.gen + 1 := by omega
    have b3 := hB.cell 3
    have q3 := hB.frozen 3
    have lf : t.freed.length + 1 ≤ 4097 := by omega
    have H3 := Lib.hid HB3
    have H4 := Lib.hid HF3
    have H5 := Lib.hid hnew
    have H6 := Lib.hid hVF
    have H7 := Lib.hid hgf
    clear hS hF hq hs hth hB f HT g1 g2 g3 HB3 HF3 hnew hVF hgf
    go_enter Try.func30, Try.ntmps30
    go_wp2_with (go_at_call 47; refine (HA _ (h.quiet (Chg.alloc (Chg.refl _ _) _)) ((hB'.out.alloc _).cell 2) rfl).mono ?_; rintro e w1 ⟨rfl, hc1⟩; have hz : w.heap.size < w1.heap.size := (by have := hc1.size; simp at this; omega); have lgs1 : gs < w1.heap.size := (by omega); have lg1 : g < w1.heap.size := (by omega); have kk : ∀ b o, b < w.heap.size → w1.cell? ⟨b, o, none⟩ = w.cell? ⟨b, o, none⟩ := (fun b o hb => (hc1.cell (p := ⟨b, o, none⟩) (by simp; omega) (by simp)).trans (World.cell?_alloc_past _ _ _ hb)); have kf : ∀ b o, b < w.heap.size → w1.frozen? ⟨b, o, none⟩ = w.frozen? ⟨b, o, none⟩ := (fun b o hb => (hc1.frozen (p := ⟨b, o, none⟩) (by simp; omega) (by simp)).trans (World.frozen?_of_block (w := w) (Below.heap_alloc w _ b hb))); have k3 := ((Blk.new w 36 _).chg hc1 (by simp)).cell 0; have k4 := ((Blk.new w 36 _).chg hc1 (by simp)).cell 1)
    have hcc := ((Chg.refl [] w).alloc (.cells #[.int .i64 k, .int .u64 s.gen] 36)).then hc1
    have j3 := (kk g 3 lg).trans b3
    have j4 := (kf g 3 lg).trans q3
    clear e1 e2 g4 hr g0 kk kf b3 q3 a0 a1 a2 f0 f1 f2 h HA
    go_region_law
      ((refine step_append_row _ (by rfl) _ _ _ (by rfl) 3 ni _ 1 8 Try.underlying64 hi0 hz0 hz1 hz2 rfl VF t.freed.length (numCells t.freed) (by rfl) (((H4.out _ hcc).alloc _).drew) ⟨w1.heap.size, 0, none⟩ 1 1 [.int .i64 (k : Nat)] (by rfl) (by rfl) (World.news_of_block (cs := #[.int .i64 (k : Nat)]) (t := 3) (fr := (0, 0)) (H5.out _ _ _ (by simp))) (by simp [Value.oneCell']) (by omega) (by unfold maxLen; omega) (by omega) (w1.heap.size + 1) (by simp) ?_; intro gg cap w2 hown hgrow hat hlt1; have y2 := (hgrow.cell_far ⟨g, 3, none⟩ (by simp; omega) (Ne.symm H7.out)).trans (((H3.out _ hcc).alloc _).drew.cell 3); have y3 := (hgrow.frozen_far ⟨g, 3, none⟩ (by simp; omega) (Ne.symm H7.out)).trans (((H3.out _ hcc).alloc _).drew.frozen 3)))
    all_goals
      have HT := Lib.hid (HH.out _ _ _ _ _ hcc hown hgrow hat)
      go_wp2
      go_ret
      exact ⟨rfl, HT.out⟩
end Go.Proofs
