import Derived.Test.YtfbelpbfmafjdaaAf
namespace Go.Proofs
open Go.RowKit
set_option linter.unusedVariables false

/-- A copy of the table, in new blocks. -/
def Copied (t : Tab Int) (w w' : World) : Prop := ∃ S, TabAt kI w' w.heap.size S t ∧ (∀ k ∈ S, w.heap.size ≤ k) ∧ Chg [] w w'
theorem Copied.mk {t : Tab Int} {w W : World} {v1 v2 : Value} (hB : Blk W w.heap.size 66 #[.int .i64 t.size, .int .u64 t.first, v1, v2, .int .i64 t.retired]) (h1 : Row W 82 3 v1 t.spots.length (spotCells kI.val t.spots)) (h2 : Row W 3 1 v2 t.freed.length (numCells t.freed))
    (f1 : ∀ k ∈ foot v1, w.heap.size ≤ k) (f2 : ∀ k ∈ foot v2, w.heap.size ≤ k) (hc : Chg [] w W) : Copied t w W :=
  ⟨_, ⟨v1, v2, hB, h1, h2, rfl⟩, fun k hk => by
    simp at hk
    rcases hk with rfl | hk | hk
    · exact Nat.le_refl _
    · exact f1 k hk
    · exact f2 k hk, hc⟩
set_option maxRecDepth 100000 in
set_option maxHeartbeats 3200000 in
theorem copy_any {w : World} {g : Nat} {S : List Nat} {t : Tab Int} (h : TabAt kI w g S t) (hw : t.WF) :
    Calls Try.prog 22 #[.pointer (some ⟨g, 0, none⟩)] w fun e w' => e = .returned (.pointer (some ⟨w.heap.size, 0, none⟩)) ∧ Copied t w w' := by
  have h0 := h
  obtain ⟨VS, VF, hB, hS, hF, hSS⟩ := h
  obtain ⟨A, c, rfl, _⟩ := hS.val
  obtain ⟨A', c', rfl, _⟩ := hF.val
  obtain ⟨n1, hn1⟩ : ∃ n, n = t.spots.length := ⟨_, rfl⟩
  obtain ⟨n2, hn2⟩ : ∃ n, n = t.freed.length := ⟨_, rfl⟩
  have hl1 : t.spots.length ≤ 4096 := by have := hw.len; have := hw.s1; omega
  have hl2 : t.freed.length ≤ 4096 := by have := hw.freed_len; omega
  have lg := hB.lt
  have hne : g ≠ w.heap.size := by omega
  have HS : Hid (Row w 82 3 (.slice A n1 c) t.spots.length (spotCells kI.val t.spots)) := Lib.hid (by rw [hn1]; exact hS)
  have HF : Hid (Row w 3 1 (.slice A' n2 c') t.freed.length (numCells t.freed)) := Lib.hid (by rw [hn2]; exact hF)
  have HB := Lib.hid hB
  have b0 := hB.cell 0
  have b1 := hB.cell 1
  have b2 := hB.cell 2
  have b3 := hB.cell 3
  have b4 := hB.cell 4
  obtain ⟨Z, hZ⟩ : ∃ Z, Z = t.size := ⟨_, rfl⟩
  obtain ⟨F, hFi⟩ : ∃ F, F = t.first := ⟨_, rfl⟩
  obtain ⟨R, hR⟩ : ∃ R, R = t.retired := ⟨_, rfl⟩
  rw [← hZ] at b0
  rw [← hFi] at b1
  rw [← hR] at b4
  have HZ := Lib.hid hZ
  have HFi := Lib.hid hFi
  have HR := Lib.hid hR
  have HN1 := Lib.hid hn1
  have HN2 := Lib.hid hn2
  rw [← hn1] at b2
  rw [← hn2] at b3
  clear hB hS hF hSS hZ hFi hR hn1 hn2
  go_enter Try.func22, Try.ntmps22
  go_wp2_with (go_at_call 37; refine (none_I h0 hw).mono ?_; rintro e w' ⟨rfl, rfl⟩)
  have HCC := Lib.hid (((Chg.refl [] w).alloc (.cells #[.int .i64 Z, .int .u64 F, (.slice A n1 c), (.slice A' n2 c'), .int .i64 R] 66)).drew)
  have HBX := Lib.hid ((Blk.new w 66 #[.int .i64 Z, .int .u64 F, (.slice A n1 c), (.slice A' n2 c'), .int .i64 R]).drew)
  go_region_held3 (fun w' => w'.cell? ⟨g, 2, none⟩ = some (.slice A n1 c) ∧ w'.cell? ⟨g, 3, none⟩ = some (.slice A' n2 c'))
    (first | go_keep | (simp [*, World.cell?_setCell_far, Ne.symm hne]))
    (first
      | (go_at_call 42; refine (clone_spots (HS.out.chg HCC.out (fun _ _ h => by cases h)) hl1).mono ?_; rintro e w1 ⟨v1, rfl, hr1, hf1, hc1⟩; obtain ⟨A1, c1, rfl, _⟩ := hr1.val; have HBX := Lib.hid (HBX.out.chg hc1 (by simp)); have HR1 := Lib.hid hr1; have HF1 := Lib.hid hf1; have HC1 := Lib.hid hc1; have HCC := Lib.hid (HCC.out.then hc1); have k2 : w1.cell? ⟨g, 2, none⟩ = some (.slice A n1 c) := (HCC.out.cell (p := ⟨g, 2, none⟩) lg (by simp)).trans b2; have k3 : w1.cell? ⟨g, 3, none⟩ = some (.slice A' n2 c') := (HCC.out.cell (p := ⟨g, 3, none⟩) lg (by simp)).trans b3; clear hr1 hf1 hc1)
      | (go_at_call 43; refine (clone_nums (HF.out.chg HCC.out (fun _ _ h => by cases h)) hl2).mono ?_; rintro e w2 ⟨v2, rfl, hr2, hf2, hc2⟩; obtain ⟨A2, c2, rfl, _⟩ := hr2.val; have hbx := HBX.out.chg hc2 (by simp); have x2 := hbx.cell 2; have x3 := hbx.cell 3; have y2 := hbx.frozen 2; have y3 := hbx.frozen 3; have HBX := Lib.hid hbx; have HR2 := Lib.hid hr2; have HF2 := Lib.hid hf2; have HC2 := Lib.hid hc2; have HCC := Lib.hid (HCC.out.then hc2); have j2 : w2.cell? ⟨g, 2, none⟩ = some (.slice A n1 c) := (HCC.out.cell (p := ⟨g, 2, none⟩) lg (by simp)).trans b2; have j3 : w2.cell? ⟨g, 3, none⟩ = some (.slice A' n2 c') := (HCC.out.cell (p := ⟨g, 3, none⟩) lg (by simp)).trans b3; clear hr2 hf2 hc2 hbx))
  have z2 := HC2.out.size
  have z1 := HC1.out.size
  simp only [World.size_drew, World.size_alloc] at z1
  have m1 : w.heap.size ∉ foot (.slice A1 t.spots.length c1) := fun hm => by have := HF1.out _ hm; simp at this; omega
  have m2 : w.heap.size ∉ foot (.slice A2 t.freed.length c2) := fun hm => by have := HF2.out _ hm; omega
  have hB2 : Blk ((w2.setCell ⟨w.heap.size, 2, none⟩ (.slice A1 t.spots.length c1)).setCell ⟨w.heap.size, 3, none⟩ (.slice A2 t.freed.length c2)) w.heap.size 66 #[.int .i64 Z, .int .u64 F, .slice A1 t.spots.length c1, .slice A2 t.freed.length c2, .int .i64 R] := (HBX.out.set_ 2 _).set_ 3 _
  have hq1 := ((HR1.out.chg HC2.out (fun _ _ h => by cases h)).far (p := ⟨w.heap.size, 2, none⟩) m1 (.slice A1 t.spots.length c1)).far (p := ⟨w.heap.size, 3, none⟩) m1 (.slice A2 t.freed.length c2)
  have hq2 := (HR2.out.far (p := ⟨w.heap.size, 2, none⟩) m2 (.slice A1 t.spots.length c1)).far (p := ⟨w.heap.size, 3, none⟩) m2 (.slice A2 t.freed.length c2)
  rw [HZ.out, HFi.out, HR.out] at hB2
  have HM := Lib.hid (Copied.mk hB2 hq1 hq2 (fun k hk => by have := HF1.out k hk; simp at this; omega) (fun k hk => by have := HF2.out k hk; omega) ((HCC.out.setCell (p := ⟨w.heap.size, 2, none⟩) (.inr (Nat.le_refl _)) _).setCell (p := ⟨w.heap.size, 3, none⟩) (.inr (Nat.le_refl _)) _))
  clear z1 z2 m1 m2 hB2 hq1 hq2
  go_wp2
  go_ret
  exact ⟨rfl, HM.out⟩
end Go.Proofs
