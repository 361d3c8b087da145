import Derived.Test.YtgdjagbkpdndgaaGaK
namespace Go.Proofs
open Go.RowKit Go.Shelf
set_option linter.unusedVariables false
attribute [local go_sem] Oper.semAt_some

set_option maxRecDepth 100000 in
set_option maxHeartbeats 3200000 in
theorem find_may {w : World} {r : Value} {T : List Nat} {N : List (Nat × Int)} (H : Rowed w r T N) (c1 c2 : Value) (f : Int → Bool)
    (HA : ∀ W, Chg [] w W → ∀ x : Int, Calls Try.prog 39 #[.int .i64 x, c1, c2] W fun e w' => e = .returned (.bool (f x)) ∧ ∃ q, w' = W.drewN q) :
    Calls Try.prog 33 #[r, .func (.func 39) #[] #[c1, c2]] w fun e w' => Found f N e ∧ Chg [] w w' := by
  obtain ⟨p, rfl⟩ := H.val
  have hTl := H.lt
  refine Calls.mono (R := fun e w' => Found f N e ∧ Below w.heap.size w w') ?_ (fun e w' ⟨h1, h2⟩ => ⟨h1, Chg.of_below h2⟩)
  refine (callsIn_wide (n := 6)).1 ?_
  refine callsIn_of_wp_marks Try.func33 rfl trivial ?_ rfl
  simp only [Try.ntmps33, List.size_toArray, List.length_cons, List.length_nil, Nat.reduceAdd, Nat.reduceSub, Array.replicate_succ, Array.replicate_zero, List.push_toArray, List.append_toArray, List.nil_append, List.cons_append]
  gi_wp2_with (refine ⟨trivial, ?_⟩; gi_at_call 32; refine (make_nodes _ _ _).mono ?_; rintro e w' ⟨rfl, rfl⟩)
  have bA := (Blk.new w 53 #[(.func (.func 39) #[] #[c1, c2])]).alloc (.cells #[.pointer none] 49) |>.alloc (.cells #[.pointer p] 25)
  have bR := (Blk.at (w.alloc (.cells #[(.func (.func 39) #[] #[c1, c2])] 53)) 49 #[.pointer none] (n := w.heap.size + 1) (by simp)).alloc (.cells #[.pointer p] 25)
  have bI := Blk.at ((w.alloc (.cells #[(.func (.func 39) #[] #[c1, c2])] 53)).alloc (.cells #[.pointer none] 49)) 25 #[.pointer p] (n := w.heap.size + 1 + 1) (by simp)
  have hB0 : Below w.heap.size w (((w.alloc (.cells #[(.func (.func 39) #[] #[c1, c2])] 53)).alloc (.cells #[.pointer none] 49)).alloc (.cells #[.pointer p] 25)) := (((Below.refl _ w).alloc (Nat.le_refl _) _).alloc (by simp) _).alloc (by simp; omega) _
  have HT0 := H.quiet (Chg.of_below hB0)
  have hsz : (((w.alloc (.cells #[(.func (.func 39) #[] #[c1, c2])] 53)).alloc (.cells #[.pointer none] 49)).alloc (.cells #[.pointer p] 25)).heap.size = w.heap.size + 1 + 1 + 1 := by simp
  obtain ⟨W0, hW0⟩ : ∃ W0, ((w.alloc (.cells #[(.func (.func 39) #[] #[c1, c2])] 53)).alloc (.cells #[.pointer none] 49)).alloc (.cells #[.pointer p] 25) = W0 := ⟨_, rfl⟩
  rw [hW0] at bA bR bI hB0 HT0 hsz ⊢
  clear hW0
  have hL : ∀ k ∈ (w.heap.size + 1 + 1) :: T, k < W0.heap.size ∧ k ≠ w.heap.size + 1 := fun k hk => by
    rcases List.mem_cons.1 hk with rfl | hk
    · omega
    · have := hTl k hk; omega
  have HQ := fun W (hW : Below w.heap.size w W) (x : Int) (k : Nat) => (callsIn_wide (n := 6 - 1 - 1 - 1)).2 ((HA (W.drewN k) ((Chg.of_below hW).drewN k) x).mono (R' := fun e w' => e = .returned (.bool (f x)) ∧ ∃ m, w' = W.drewN m) (fun e w' ⟨h1, q, h2⟩ => ⟨h1, ⟨_, h2.trans (World.drewN_drewN _ _ _)⟩⟩))
  have HHQ := Lib.hid HQ
  have HHT := Lib.hid HT0
  clear HQ
  refine wpIn_rangeFunc_ownF rfl (by omega) (gf := 41) (lb := #[.pointer (some ⟨w.heap.size + 1 + 1, 0, none⟩)]) rfl trivial (enters_of Try.func41 (by kernel_rfl) rfl)
    (nodes_stops (6 - 1) (by omega) (w.heap.size + 1 + 1) (by omega) (bI.cell 0) HT0) (fun h k => h.trans k)
    (fun W l o o' hl ho _ _ => ⟨by simp [World.putObj], fun k hk => by have := hL k hk; exact (grownBy_putObj' W l o').block k (by have := (Array.getElem?_eq_some_iff.1 ho).1; omega) (fun e => by cases e; omega)⟩)
    (Below.refl _ _) (fun _ => rfl)
    (fun pre W => ((∀ y ∈ pre, f y.1.2 = false) ∧ Blk W w.heap.size 53 #[(.func (.func 39) #[] #[c1, c2])] ∧ Blk W (w.heap.size + 1) 49 #[.pointer none] ∧ KeepL T W0 W) ∧ Below w.heap.size w W)
    (fun c pre W => (c = .ret ∧ (∃ x q, pre = q ++ [x] ∧ (∀ y ∈ q, f y.1.2 = false) ∧ f x.1.2 = true ∧ Blk W (w.heap.size + 1) 49 #[.pointer (some ⟨x.1.1, 0, none⟩)])) ∧ Below w.heap.size w W)
    (OwnFrom.and (fun s A B row hs hg hr => ⟨hs.1, blk_keep hs.2.1 hg (fun r e => (hr r e).2), blk_keep hs.2.2.1 hg (fun r e => (hr r e).2), hs.2.2.2.trans ⟨hg.size, fun k hk => hg.block k (by have := hTl k hk; have := hs.2.2.2.size; omega) (fun e => by have := (hr k e.symm).1; have := hTl k hk; omega)⟩⟩) (ownFrom_below (Nat.le_refl _) (by omega)))
    (fun c => OwnFrom.and (fun s A B row hs hg hr => by obtain ⟨h1, x, q, h2, h3, h4, h5⟩ := hs; exact ⟨h1, x, q, h2, h3, h4, blk_keep h5 hg (fun r e => (hr r e).2)⟩) (ownFrom_below (Nat.le_refl _) (by omega)))
    ⟨⟨(fun y hy => by cases hy), bA, bR, KeepL.refl _ _⟩, hB0⟩
    (fun x => { tmps := #[.pointer p, (.func (.func 39) #[] #[c1, c2]), undef, .pointer (some ⟨w.heap.size, 0, none⟩), .pointer (some ⟨w.heap.size + 1, 0, none⟩), .pointer (some ⟨x.1.1, 0, none⟩), .pointer p, .func (.func 41) #[] #[.pointer (some ⟨w.heap.size + 1 + 1, 0, none⟩)], .pointer (some ⟨x.1.1, 0, none⟩), undef, undef, undef, undef, undef, undef, undef], defers := [] }) ?assign ?body ?done ?stop
  case assign =>
    intro l x W K hK
    simp only [Nd.encs]
    gi_wp2
    exact hK
  case body =>
    rintro l pre x W ⟨⟨hno, hA, hR, hKp⟩, hB⟩ _
    have a0 := hA.cell 0
    have r0 := hR.cell 0
    have rf := hR.frozen 0
    obtain ⟨hxT, hx0⟩ := HHT.out.cell x
    have x0 := (hKp.cell (p := ⟨x.1.1, 0, none⟩) hxT).trans hx0
    have hcall := HHQ.out W hB x.1.2
    obtain ⟨⟨xb, xv⟩, hxm⟩ := x
    simp only at x0 hcall hxT
    cases hfx : f xv with
    | true =>
      rw [hfx] at hcall
      gi_wp2
      refine wpIn_region_quiet_round (F := Fence.wide) l rfl (by rfl) (by kernel_rfl) (by kernel_rfl) ?_
      iterate 5 (gi_big_quiet_step (fail))
      refine BigFrame.wpQuietIn_want (by unfold Oper.askedIn; intros; trivial) rfl (fun K hK => ?_)
      gi_big_quiet_op
      apply Exists.intro
      refine ⟨fun _ => ?_, ?_⟩
      · (gi_at_call 39; exact hcall _)
      refine hK _ ?_
      clear hK K
      refine wpQuietIn_nil ?_
      intro _ hw'
      obtain ⟨nq, hw''⟩ := hw'
      subst hw''
      gi_wp2
      exact ⟨(KeepsOthers.drewN _ _).trans (KeepsOthers.setCell _ _ _), ⟨rfl, ⟨(xb, xv), hxm⟩, pre, rfl, hno, hfx, by have := (hR.drewN nq).set_ 0 (.pointer (some ⟨xb, 0, none⟩)); simpa using this⟩, (below_drewN hB nq).setCell (p := ⟨w.heap.size + 1, 0, none⟩) (by simp) _⟩
    | false =>
      rw [hfx] at hcall
      gi_wp2
      refine wpIn_region_quiet_round (F := Fence.wide) l rfl (by rfl) (by kernel_rfl) (by kernel_rfl) ?_
      iterate 5 (gi_big_quiet_step (fail))
      refine BigFrame.wpQuietIn_want (by unfold Oper.askedIn; intros; trivial) rfl (fun K hK => ?_)
      gi_big_quiet_op
      apply Exists.intro
      refine ⟨fun _ => ?_, ?_⟩
      · (gi_at_call 39; exact hcall _)
      refine hK _ ?_
      clear hK K
      refine wpQuietIn_nil ?_
      intro _ hw'
      obtain ⟨nq, hw''⟩ := hw'
      subst hw''
      gi_wp2
      exact ⟨KeepsOthers.drewN _ _, ⟨Nat.le_refl _, fun k hk => rfl⟩, ⟨fun y hy => by
        rcases List.mem_append.1 hy with h | h
        · exact hno y h
        · simp at h; subst h; exact hfx, hA.drewN nq, hR.drewN nq, hKp.trans ⟨Nat.le_refl _, fun k hk => rfl⟩⟩, below_drewN hB nq⟩
  case done =>
    rintro D ys W hD rfl ⟨⟨hno, hA, hR, hKp⟩, hB⟩ hK
    have r0 := hR.cell 0
    have rf := hR.frozen 0
    gi_wp2
    have hK' := (KeepsOthers.setCell W ⟨w.heap.size + 1, 0, none⟩ (.pointer none)).same D _ hK rfl
    refine ⟨by simp, .inl ⟨_, _, rfl, run_takeDeferred hK', ?_⟩⟩
    have hs := hR.set_ 0 (.pointer none)
    have q0 := (blk_keep hs (grownBy_putObj' _ D (.deferred none)) (fun r e => by cases e; exact ⟨_, hK', rfl⟩)).cell 0
    refine ⟨.pointer none, ?_, Found.no hno, (hB.setCell (p := ⟨w.heap.size + 1, 0, none⟩) (by simp) _).trans (belowK_b (w := w) (Nat.le_refl _) _ D _ _ (by omega) hK' rfl rfl)⟩
    simp at q0
    simp [results, Try.f33, go_sem, q0, Result.andThen]
  case stop =>
    rintro D c pre W hD hpre ⟨⟨rfl, x, q, rfl, hno, hx, hR⟩, hB⟩ hK
    gi_wp2
    refine ⟨by simp, .inl ⟨_, _, rfl, run_takeDeferred hK, ?_⟩⟩
    have q0 := (blk_keep hR (grownBy_putObj' _ D (.deferred none)) (fun r e => by cases e; exact ⟨_, hK, rfl⟩)).cell 0
    refine ⟨.pointer (some ⟨x.1.1, 0, none⟩), ?_, Found.yes hpre hno hx, hB.trans (belowK_b (w := w) (Nat.le_refl _) W D _ _ (by omega) hK rfl rfl)⟩
    simp at q0
    simp [results, Try.f33, go_sem, q0, Result.andThen]
end Go.Proofs
