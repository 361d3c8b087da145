import Derived.Test.YtoddffpbbnicpaaRuE
namespace Go.Proofs
open Go.RowKit
set_option linter.unusedVariables false

/-- A receiver whose pieces are known, and how many it has. -/
def Has (w : World) (r : Value) (L : List Int) : Prop :=
  ∀ W, Chg [] w W → (Calls Try.prog 65 #[r] W fun e w' => ∃ v S, e = .returned v ∧ Pieces v L w' S ∧ Chg [] W w') ∧ (Calls Try.prog 49 #[r] W fun e w' => e = .returned (.int .i64 L.length) ∧ W = w')
theorem Has.quiet {w w' : World} {r : Value} {L : List Int} (h : Has w r L) (hc : Chg [] w w') : Has w' r L := fun W hW => h W (hc.then hW)
theorem RingAt.has {w : World} {g h M : Nat} {L : List Int} (H : RingAt w g h M L) : Has w (.pointer (some ⟨g, 0, none⟩)) L := fun W hW =>
  ⟨(pieces_any (H.quiet hW)).mono fun e w' ⟨v, h1, h2, h3⟩ => ⟨v, _, h1, h2, h3⟩, len_any (H.quiet hW)⟩
theorem len_nil (w : World) : Calls Try.prog 49 #[.pointer none] w fun e w' => e = .returned (.int .i64 0) ∧ w = w' := by
  go_enter Try.func49, Try.ntmps49
  go_wp2
  go_ret
  exact ⟨rfl, rfl⟩
theorem has_nil (w : World) : Has w (.pointer none) [] := fun W hW =>
  ⟨(pieces_nil W).mono fun e w' ⟨v, h1, h2, h3⟩ => ⟨v, _, h1, h2, h3⟩, len_nil W⟩
theorem all_of {w : World} {r : Value} {L : List Int} (hL : L.length ≤ 8192) (H : Has w r L) :
    Calls Try.prog 52 #[r] w fun e w' => ∃ v, e = .returned v ∧ Fresh w w' v L := by
  have HP := (H w (Chg.refl _ _)).1
  clear H
  go_enter Try.func52, Try.ntmps52
  go_wp2_with (first
    | (go_at_call 65; refine HP.mono ?_; rintro e w1 ⟨v, S, rfl, ⟨v1, v2, l1, l2, rfl, r1, r2, hl, _, _⟩, hc⟩; obtain ⟨A1, c1, rfl, _⟩ := r1.open_; obtain ⟨A2, c2, rfl, _⟩ := r2.open_; have R1 := Lib.hid r1; have R2 := Lib.hid r2; have HL := Lib.hid hl; have HC := Lib.hid hc; clear r1 r2 hl hc HP)
    | (go_at_call 51; refine (concat_any (Blk.new _ 83 _) (R1.out.quiet ((Chg.refl _ _).alloc _)) (R2.out.quiet ((Chg.refl _ _).alloc _)) (by rw [HL.out] at hL; simpa using hL)).mono ?_; rintro e w2 ⟨v, rfl, hf⟩; have HF := Lib.hid hf; clear hf))
  go_ret
  refine ⟨_, rfl, ?_⟩
  rw [HL.out]
  exact HF.out.before (HC.out.alloc _)
theorem copy_nil (w : World) : Calls Try.prog 53 #[.pointer none] w fun e w' => e = .returned (.pointer none) ∧ w = w' := by
  go_enter Try.func53, Try.ntmps53
  go_wp2
  go_ret
  exact ⟨rfl, rfl⟩
set_option maxHeartbeats 1600000 in
theorem copy_any {w : World} {g h M : Nat} {L : List Int} (H : RingAt w g h M L) :
    Calls Try.prog 53 #[.pointer (some ⟨g, 0, none⟩)] w fun e w' => ∃ g' h', e = .returned (.pointer (some ⟨g', 0, none⟩)) ∧ Made M L g' h' w w' := by
  obtain ⟨zs, f, c, hl, hB, hR⟩ := id H
  have c0 := hB.cell 0
  have c1 := hB.cell 1
  have c2 := hB.cell 2
  have lg := hB.lt
  have z1 := hl.z1
  have z0 := hl.z0
  obtain ⟨h', _, hv, _, hMc, hcell, _, lh⟩ := hR.form (by omega)
  simp only [Value.slice.injEq, Option.some.injEq, Addr.mk.injEq] at hv
  obtain ⟨⟨rfl, _⟩, _, rfl⟩ := hv
  have HZ : ∀ W, Chg [] w W → ∀ j, j < zs.length → W.cell? ⟨h, 0 + j, none⟩ = some (.int .i64 (zs.getD j 0)) := fun W hW j hj => by
    rw [Nat.zero_add, hW.cell (p := ⟨h, j, none⟩) lh (by simp)]
    refine hcell j _ (ints_at ?_)
    rw [List.getD_eq_getElem?_getD, List.getElem?_eq_getElem hj]; rfl
  have HZZ := Lib.hid HZ
  have HK := Lib.hid hl
  have k0 : ∀ o : Obj, (w.alloc o).cell? ⟨g, 0, none⟩ = _ := fun o => (World.cell?_alloc_past o _ _ lg).trans c0
  have n0 := World.new_ne w _ c0
  clear hB hR hl hcell HZ
  go_enter Try.func53, Try.ntmps53
  go_wp2_with (go_at_call 66; refine (Try.slices_Clone_int h 0 M c zs _ (by rw [HK.out.len]; omega) (by omega) (HZZ.out _ ((Chg.refl _ _).alloc _))).mono ?_; rintro e w1 ⟨v', rfl, hown, _, hb⟩; have hrow := Row.of_own hown; obtain ⟨hh, cc, rfl, _⟩ := hrow.form z0; have hbl := (Blk.new w 76 #[.slice (some ⟨h, 0, none⟩) M c, .int .i64 f, .int .i64 L.length]).chg (Chg.of_below hb) (by simp); have q0 := hbl.cell 0; have q1 := hbl.frozen 0; have HO := Lib.hid hown; have HB := Lib.hid hb; have HR := Lib.hid hrow; have HBL := Lib.hid hbl; clear hown hb hrow hbl)
  go_ret
  have hz : M ≤ zs.length := by rw [HK.out.len]; exact Nat.le_refl _
  have e1 : (zs.take M).map (Value.int .i64) = ints zs := by rw [List.take_of_length_le (by rw [HK.out.len]; exact Nat.le_refl _)]; rfl
  have hrow := HR.out
  rw [e1] at hrow
  have hbase : w.heap.size + 1 ≤ hh := by
    rcases HO.out.2 with ⟨h0, _⟩ | ⟨g', cap, cur, hv, hb, _⟩
    · cases h0
    · simp only [Value.slice.injEq, Option.some.injEq, Addr.mk.injEq] at hv
      obtain ⟨⟨rfl, _⟩, _, _⟩ := hv
      simpa using hb
  refine ⟨_, hh, rfl, ⟨zs, f, cc, HK.out, ?_, hrow.far (p := ⟨w.heap.size, 0, none⟩) (by simp [foot_some]; omega) _⟩, Nat.le_refl _, by omega, ?_⟩
  · have := HBL.out.set_ 0 (.slice (some ⟨hh, 0, none⟩) M cc)
    simpa using this
  · exact Chg.setCell (p := ⟨w.heap.size, 0, none⟩) (((Chg.refl [] w).alloc _).then (Chg.of_below HB.out)) (.inr (Nat.le_refl _)) _
end Go.Proofs
