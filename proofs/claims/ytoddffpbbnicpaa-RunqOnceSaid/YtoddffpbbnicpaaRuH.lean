import Derived.Test.YtoddffpbbnicpaaRuG
namespace Go.Proofs
open Go.RowKit
set_option linter.unusedVariables false

theorem has_of {w : World} {r : Value} {L : List Int} (hL : L.length ≤ 8192) (H : Has w r L) (x : Int) :
    Calls Try.prog 48 #[r, .int .i64 x] w fun e w' => e = .returned (.bool (decide (findAt x L < L.length))) ∧ Chg [] w w' := by
  obtain ⟨i, hi⟩ : ∃ i, i = findAt x L := ⟨_, rfl⟩
  obtain ⟨b, hb⟩ : ∃ b, b = decide (findAt x L < L.length) := ⟨_, rfl⟩
  have HF := find_of hL H x
  unfold Finds at HF
  rw [← hb, ← hi] at HF
  rw [← hb]
  clear hb hi
  go_enter Try.func48, Try.ntmps48
  go_wp2_with (go_at_call 60; refine HF.mono ?_; rintro e w1 ⟨rfl, hc⟩)
  go_ret
  exact ⟨rfl, hc⟩
theorem remove_no {w : World} {r : Value} {L : List Int} (hL : L.length ≤ 8192) (H : Has w r L) (x : Int) (hx : ¬ findAt x L < L.length) :
    Calls Try.prog 45 #[r, .int .i64 x] w fun e w' => e = .returned (.bool false) ∧ Chg [] w w' := by
  have HF := find_of hL H x
  unfold Finds at HF
  rw [decide_eq_false hx] at HF
  clear hx
  go_enter Try.func45, Try.ntmps45
  go_wp2_with (go_at_call 60; refine HF.mono ?_; rintro e w1 ⟨rfl, hc⟩)
  go_ret
  exact ⟨rfl, hc⟩
/-- In the midst of a removal: those from i on to j have come one nearer. -/
def Mid (w wr : World) (g h M f c i j : Nat) (L : List Int) : Prop :=
  ∃ zs, Lies M zs f (shift L i j) ∧ Blk wr g 76 #[.slice (some ⟨h, 0, none⟩) M c, .int .i64 f, .int .i64 (L.length - 1 : Nat)] ∧ Row wr 3 1 (.slice (some ⟨h, 0, none⟩) M c) M (ints zs) ∧ Chg [g, h] w wr
theorem Mid.step {w wr : World} {g h M f c i j : Nat} {L : List Int} (H : Mid w wr g h M f c i j L) (hij : i ≤ j) (hj : j + 1 < L.length) :
    Mid w (wr.setCell ⟨h, (f + j) % M, none⟩ (.int .i64 (L.getD (j + 1) 0))) g h M f c i (j + 1) L := by
  obtain ⟨zs, hl, hB, hR, hc⟩ := H
  have hne : g ≠ h := by
    have := hR.ty hB (by decide)
    simpa [foot_some] using this
  refine ⟨zs.set ((f + j) % M) (L.getD (j + 1) 0), ?_, hB.far (p := ⟨h, (f + j) % M, none⟩) hne _, ?_, hc.setCell (p := ⟨h, (f + j) % M, none⟩) (.inl (by simp)) _⟩
  · rw [shift_step L i j hij hj]
    exact hl.set_ (by rw [shift_len]; omega) _
  · rw [ints_set]
    exact hR.set_ (by have := hl.place j; omega) _
theorem Mid.end_ {w wr : World} {g h M f c i : Nat} {L : List Int} (H : Mid w wr g h M f c i (L.length - 1) L) (hi : i < L.length) : RingAt wr g h M (L.eraseIdx i) ∧ Chg [g, h] w wr := by
  obtain ⟨zs, hl, hB, hR, hc⟩ := H
  have := hl.less (L.length - 1)
  rw [shift_end L i hi] at this
  refine ⟨⟨zs, f, c, this, ?_, hR⟩, hc⟩
  rw [List.length_eraseIdx, if_pos hi]
  exact hB
theorem Mid.drew {w wr : World} {g h M f c i j : Nat} {L : List Int} (H : Mid w wr g h M f c i j L) : Mid w wr.drew g h M f c i j L := by
  obtain ⟨zs, hl, hB, hR, hc⟩ := H
  exact ⟨zs, hl, hB.drew, hR.drew, hc.drew⟩
set_option maxHeartbeats 3200000 in
set_option maxRecDepth 100000 in
theorem remove_yes {w : World} {g h M : Nat} {L : List Int} (H : RingAt w g h M L) (x : Int) (hx : findAt x L < L.length) :
    Calls Try.prog 45 #[.pointer (some ⟨g, 0, none⟩), .int .i64 x] w fun e w' => e = .returned (.bool true) ∧ RingAt w' g h M (L.eraseIdx (findAt x L)) ∧ Chg [g, h] w w' := by
  have hne := H.ne
  have hlt := H.lt
  obtain ⟨zs, f, c, hl, hB, hR⟩ := id H
  have hmany := hl.many
  have z1 := hl.z1
  have z0 := hl.z0
  have hf := hl.front
  have HF := find_of (by omega) H.has x
  unfold Finds at HF
  rw [decide_eq_true hx] at HF
  obtain ⟨i, hi⟩ : ∃ i, i = findAt x L := ⟨_, rfl⟩
  rw [← hi] at HF hx ⊢
  have HPl := Lib.hid (fun w1 (hc : Chg [] w w1) => place_any hl (hB.chg hc (by simp)))
  have HM0 : ∀ wr, Chg [] w wr → Mid w (wr.setCell ⟨g, 2, none⟩ (.int .i64 (L.length - 1 : Nat))) g h M f c i i L := fun wr hc => by
    refine ⟨zs, by rw [shift_none]; exact hl, ?_, ?_, ?_⟩
    · have := (hB.chg hc (by simp)).set_ 2 (.int .i64 (L.length - 1 : Nat))
      simpa using this
    · exact (hR.chg hc (fun _ _ h => by cases h)).far (p := ⟨g, 2, none⟩) (by simpa [foot_some] using hne) _
    · exact hc.any.setCell (p := ⟨g, 2, none⟩) (.inl (by simp)) _
  have HM0' := Lib.hid HM0
  have b2 := hB.cell 2
  have f2 := hB.frozen 2
  have lg := hB.lt
  obtain ⟨m, hm⟩ : ∃ m, m + 1 = L.length := ⟨L.length - 1, by omega⟩
  have HM := Lib.hid hm
  simp only [List.getElem?_toArray, List.getElem?_cons_succ, List.getElem?_cons_zero, ← hm] at b2
  rw [← hm] at hx hmany
  have HLT := Lib.hid hlt
  clear hB hl hR hi HM0 hm hlt
  go_enter Try.func45, Try.ntmps45
  go_wp2_with (first
    | (go_at_call 60; refine HF.mono ?_; rintro e w1 ⟨rfl, hc1⟩)
    | (go_at_call 58; refine (HPl.out _ hc1).mono ?_; rintro e w2 ⟨v, rfl, ⟨p, q, rfl, hp, hq, hp0, hq0⟩, hc2⟩; have k2 := ((hc1.then hc2).cell (p := ⟨g, 2, none⟩) lg (by simp)).trans b2; have q2 := ((hc1.then hc2).frozen (p := ⟨g, 2, none⟩) lg (by simp)).trans f2))
  have hcc := hc1.then hc2
  have hsz := hcc.size
  have hpS : p ∉ [g, h] := fun hm => by have := HLT.out p hm; have := hc1.size; omega
  have hqS : q ∉ [g, h] := fun hm => by have := HLT.out q hm; have := hc1.size; omega
  have hpg : p ≠ g := fun e => hpS (by simp [e])
  have hqg : q ≠ g := fun e => hqS (by simp [e])
  have hph : p ≠ h := fun e => hpS (by simp [e])
  have hqh : q ≠ h := fun e => hqS (by simp [e])
  have hM1 : L.length - 1 = m := by have := HM.out; omega
  have HMM := Lib.hid hM1
  have HS := Lib.hid (HM0'.out _ hcc)
  have HPQ := Lib.hid (show Blk (w2.setCell ⟨g, 2, none⟩ (.int .i64 (m : Nat))) p 3 #[.int .i64 f] ∧ Blk (w2.setCell ⟨g, 2, none⟩ (.int .i64 (m : Nat))) q 3 #[.int .i64 M] from ⟨hp.far hpg _, hq.far hqg _⟩)
  rw [hM1] at HS
  clear hp hq hcc k2 q2 hM1 hc1 hc2 hpS hqS hpg hqg hp0 hq0 hsz HF b2 f2
  go_loopw [5] (fun gp wr => ∃ j : Nat, i ≤ j ∧ j ≤ m ∧ gp = .int .i64 j ∧ Hid (Mid w wr g h M f c i j L) ∧ Hid (Blk wr p 3 #[.int .i64 f] ∧ Blk wr q 3 #[.int .i64 M])) (fun gp _ => m - (intOf gp).toNat)
  case atStart => exact ⟨i, Nat.le_refl _, by omega, rfl, HS, HPQ⟩
  case round =>
    obtain ⟨j, hij, hjm, rfl, HMid, HR⟩ := hrel
    obtain ⟨zs', hl', hB', hR', hc'⟩ := HMid.out
    have c0 := hB'.cell 0
    have c2 := hB'.cell 2
    have lg' := hB'.lt
    simp only [List.getElem?_toArray, List.getElem?_cons_succ, List.getElem?_cons_zero, HMM.out] at c2 c0
    by_cases hlt : j < m
    · obtain ⟨hh, _, hv, _, _, hcell, hfz, lh'⟩ := hR'.form (by omega)
      simp only [Value.slice.injEq, Option.some.injEq, Addr.mk.injEq] at hv
      obtain ⟨⟨rfl, _⟩, _, rfl⟩ := hv
      have hP0 := hl'.place j
      have hP1 := hl'.place (j + 1)
      have hx1 := hcell _ _ (ints_at (show zs'[(f + (j + 1)) % M]? = some (L.getD (j + 1) 0) by rw [hl'.at_ (j + 1) (by rw [shift_len, ← HM.out]; omega)]; exact shift_next L i j (by rw [← HM.out]; omega)))
      obtain ⟨x0, hx0⟩ : ∃ x0, wr.cell? ⟨h, (f + j) % M, none⟩ = some x0 := by
        have hx : (f + j) % M < (ints zs').length := by rw [ints_len, hl'.len]; exact hP0
        exact ⟨_, hcell _ _ (List.getElem?_eq_getElem hx)⟩
      have fx := hfz ((f + j) % M)
      have HC0 : ∀ W : World, W.heap = wr.heap → Calls Try.prog 68 #[.int .i64 (j : Int), .pointer (some ⟨p, 0, none⟩), .pointer (some ⟨q, 0, none⟩)] W fun e w' => e = .returned (.int .i64 (((f + j) % M : Nat) : Int)) ∧ W = w' :=
        fun W hW => reckon_any z0 z1 hf (by omega) (by have := HR.out.1; unfold Blk at this ⊢; rw [hW]; exact this) (by have := HR.out.2; unfold Blk at this ⊢; rw [hW]; exact this)
      have HC1 : ∀ W : World, W.heap = wr.heap → Calls Try.prog 68 #[.int .i64 ((j : Int) + 1), .pointer (some ⟨p, 0, none⟩), .pointer (some ⟨q, 0, none⟩)] W fun e w' => e = .returned (.int .i64 (((f + (j + 1)) % M : Nat) : Int)) ∧ W = w' :=
        fun W hW => reckon_any (k := j + 1) z0 z1 hf (by omega) (by have := HR.out.1; unfold Blk at this ⊢; rw [hW]; exact this) (by have := HR.out.2; unfold Blk at this ⊢; rw [hW]; exact this)
      have hstep := HMid.out.step hij (by rw [← HM.out]; omega)
      obtain ⟨Y, hY⟩ : ∃ Y, Y = L.getD (j + 1) 0 := ⟨_, rfl⟩
      obtain ⟨P0, hP0e⟩ : ∃ P, P = (f + j) % M := ⟨_, rfl⟩
      obtain ⟨P1, hP1e⟩ : ∃ P, P = (f + (j + 1)) % M := ⟨_, rfl⟩
      rw [← hP0e] at HC0 hx0 fx hP0 hstep
      rw [← hP1e] at HC1 hx1 hP1
      rw [← hY] at hx1 hstep
      have hA01 : (⟨h, P0, none⟩ : Addr) ≠ ⟨h, P1, none⟩ := fun e => by
        have hmj := hl'.many
        rw [shift_len, ← HM.out] at hmj
        injection e with _ e
        rw [hP0e, hP1e] at e
        exact mod_other (f := f) (a := j) (b := j + 1) (M := M) (by omega) (by omega) (by omega) e
      have HST := Lib.hid hstep
      have HRR := Lib.hid (show Blk (wr.setCell ⟨h, P0, none⟩ (.int .i64 Y)) p 3 #[.int .i64 f] ∧ Blk (wr.setCell ⟨h, P0, none⟩ (.int .i64 Y)) q 3 #[.int .i64 M] from ⟨HR.out.1.far (p := ⟨h, P0, none⟩) hph _, HR.out.2.far (p := ⟨h, P0, none⟩) hqh _⟩)
      have hhg : h ≠ g := fun e => hne e.symm
      have hk1 : (wr.setCell ⟨h, P0, none⟩ (.int .i64 Y)).cell? ⟨h, P1, none⟩ = some (.int .i64 Y) := (World.cell?_setCell_other (h := hA01) ..).trans hx1
      have e1 : IntKind.i64.wrap ((j : Int) + 1) = (j : Int) + 1 := IntWalk.i64_in _ (by omega)
      have i0 : (0 : Int) ≤ (P0 : Int) := by omega
      have i1 : (P0 : Int) < (M : Int) := by omega
      have i2 : (0 : Int) ≤ (P1 : Int) := by omega
      have i3 : (P1 : Int) < (M : Int) := by omega
      clear hP0e hP1e hY hstep hcell hfz hl' hB' hR' hc' HMid
      go_wp2
      go_region_held3 (fun w' => w'.cell? ⟨g, 0, none⟩ = some (.slice (some ⟨h, 0, none⟩) M c) ∧ w'.cell? ⟨h, P1, none⟩ = some (.int .i64 Y)) (go_keep)
        (first | (go_at_call 68; refine (HC0 _ (by rfl)).mono ?_; rintro e w' ⟨rfl, rfl⟩) | (go_at_call 68; refine (HC1 _ (by rfl)).mono ?_; rintro e w' ⟨rfl, rfl⟩))
      all_goals
        go_wp2
        go_roundw
        case rel => exact ⟨j + 1, by omega, by omega, by go_num, Lib.hid HST.out.drew, HRR⟩
        case measure => simp [intOf]; omega
    · obtain rfl : j = m := by omega
      have HE := HMid.out
      rw [← HMM.out] at HE
      have HEE := Lib.hid (HE.end_ (by rw [← HM.out]; exact hx))
      clear HE hl' hB' hR' hc' HMid
      go_wp2
      go_ret
      exact ⟨rfl, HEE.out⟩
end Go.Proofs
