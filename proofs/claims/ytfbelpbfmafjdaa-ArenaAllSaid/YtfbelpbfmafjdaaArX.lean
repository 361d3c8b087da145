import Derived.Test.YtfbelpbfmafjdaaArW
namespace Go.Proofs
open Go.RowKit
set_option linter.unusedVariables false

theorem RTurns.later {h : Nat} {S : List Nat} {r' : RTab} {a b c : World} (hr : RTurns h S r' a b) (hc : Chg [] b c) : RTurns h S r' a c := by
  obtain ⟨S', h1, h2, h3⟩ := hr
  exact ⟨S', h1.quiet hc, h2, h3.then hc⟩
theorem rdrop_no {w : World} {h : Nat} {S : List Nat} {r : RTab} (hr : RefAt w h S r) (hn : r.L.length ≤ 4096) (i q : Int) (hq : r.is i q = false) :
    Calls Try.prog 36 #[.pointer (some ⟨h, 0, none⟩), .agg #[.int .i64 i, .int .u64 q]] w fun e w' => e = .returned (.int .i64 11) ∧ Chg [] w w' := by
  have HA := fun w' h' => ris_any (w := w') (h := h) (S := S) (r := r) h' hn i q
  rw [hq] at HA
  clear hq
  go_enter Try.func36, Try.ntmps36
  go_wp2_with (go_at_call 48; refine (HA _ (hr.quiet (Chg.alloc (Chg.refl _ _) _))).mono ?_; rintro e w1 ⟨rfl, hc1⟩)
  go_ret
  exact ⟨rfl, ((Chg.refl _ _).alloc _).then hc1⟩
/-- The place behind what was there has gone. -/
def Pl.gone (p : Pl) (times : Int) : Pl := if p.gen = 18446744073709551614 then { p with there := false, x := 0, retired := true } else { p with gen := p.gen + 1, there := false, x := 0, freed := times + 1 }
def RTab.drop (r : RTab) (i : Nat) : RTab := match r.L[i]? with
  | some p => { L := r.L.set i (p.gone r.times), times := if p.gen = 18446744073709551614 then r.times else r.times + 1 }
  | none => r
theorem RefAt.write {h gl cl : Nat} {r : RTab} {w : World} {T : Int} (hB : Blk w h 56 #[.slice (some ⟨gl, 0, none⟩) r.L.length cl, .int .i64 T])
    (hL : Row w 58 5 (.slice (some ⟨gl, 0, none⟩) r.L.length cl) r.L.length (plCells r.L)) {k : Nat} (hk : k < r.L.length) (p : Pl) :
    RefAt (((((w.setCell ⟨gl, k * 5, none⟩ (.int .u64 p.gen)).setCell ⟨gl, k * 5 + 1, none⟩ (.bool p.there)).setCell ⟨gl, k * 5 + 2, none⟩ (.bool p.retired)).setCell ⟨gl, k * 5 + 3, none⟩ (.int .i64 p.x)).setCell ⟨gl, k * 5 + 4, none⟩ (.int .i64 p.freed)) h
      (h :: foot (.slice (some ⟨gl, 0, none⟩) r.L.length cl)) ⟨r.L.set k p, T⟩ := by
  have hg : h ≠ gl := by have := hL.ty hB (by decide); simpa [foot_some] using this
  have hr := ((((hL.set_ (j := k * 5) (by omega) (.int .u64 p.gen)).set_ (j := k * 5 + 1) (by omega) (.bool p.there)).set_ (j := k * 5 + 2) (by omega) (.bool p.retired)).set_ (j := k * 5 + 3) (by omega) (.int .i64 p.x)).set_ (j := k * 5 + 4) (by omega) (.int .i64 p.freed)
  rw [← plCells_set r.L k p hk] at hr
  exact ⟨.slice (some ⟨gl, 0, none⟩) r.L.length cl, ((((hB.far hg _).far hg _).far hg _).far hg _).far hg _, by simpa using hr, by simp [foot_some]⟩
set_option maxRecDepth 100000 in
set_option maxHeartbeats 1600000 in
theorem rdrop_yes {w : World} {h : Nat} {S : List Nat} {r : RTab} (hr : RefAt w h S r) (hn : r.L.length ≤ 4096) {i q : Int} (hq : r.is i q = true) (t0 : -1000000 ≤ r.times) (t1 : r.times ≤ 1000000) (q0 : 0 ≤ q) (q1 : q ≤ 18446744073709551614) :
    Calls Try.prog 36 #[.pointer (some ⟨h, 0, none⟩), .agg #[.int .i64 i, .int .u64 q]] w fun e w' => e = .returned (.int .i64 0) ∧ RTurns h S (r.drop i.toNat) w w' := by
  have HA := fun w' h' => ris_any (w := w') (h := h) (S := S) (r := r) h' hn i q
  rw [hq] at HA
  obtain ⟨k, p, gl, cl, rfl, rfl, hp, ht, hk, hB, hL, hSS, hcl, lg, hg, b0, b1, b2, b3, b4, f⟩ := ris_form hr hq
  have lh := hB.lt
  have a0 := hB.cell 0
  have a1 := hB.cell 1
  have fh := hB.frozen 1
  have f0 := f (k * 5)
  have f1 := f (k * 5 + 1)
  have f2 := f (k * 5 + 2)
  have f3 := f (k * 5 + 3)
  have f4 := f (k * 5 + 4)
  obtain ⟨n, hnn⟩ : ∃ n, n = r.L.length := ⟨_, rfl⟩
  obtain ⟨T, hT⟩ : ∃ T, T = r.times := ⟨_, rfl⟩
  rw [← hT] at a1 t0 t1
  rw [← hnn] at a0 hk hcl
  have i0 : (0 : Int) ≤ (k : Int) := by omega
  have i1 : (k : Int) < (n : Int) := by omega
  rw [show ((k : Nat) : Int).toNat = k from rfl]
  obtain ⟨G, hG⟩ : ∃ G, G = p.gen := ⟨_, rfl⟩
  obtain ⟨X, hX⟩ : ∃ X, X = p.x := ⟨_, rfl⟩
  obtain ⟨R, hR⟩ : ∃ R, R = p.retired := ⟨_, rfl⟩
  obtain ⟨F, hF⟩ : ∃ F, F = p.freed := ⟨_, rfl⟩
  rw [← hG] at b0 q0 q1 HA ⊢
  rw [ht] at b1
  rw [← hR] at b2
  rw [← hX] at b3
  rw [← hF] at b4
  have e1 : G ≠ 18446744073709551614 → IntKind.u64.wrap (G + 1) = G + 1 := fun hne => by rw [IntKind.wrap_u64]; omega
  have HX := Lib.hid (show r.drop k = ⟨r.L.set k (p.gone T), if G = 18446744073709551614 then T else T + 1⟩ by unfold RTab.drop; rw [hp, hG, hT])
  rw [← hT] at hB
  have HB := Lib.hid hB
  have HL := Lib.hid hL
  have HP := Lib.hid (show p = ⟨G, true, R, X, F⟩ by rw [hG, hX, hR, hF, ← ht])
  have HN := Lib.hid hnn
  have HS := Lib.hid hSS
  by_cases hE : G = 18446744073709551614
  · have eb : (G == 18446744073709551614) = true := by simpa using hE
    have hE' := Lib.hid hE
    clear hB hL hSS hp ht f hnn hq hG hX hR hF hT e1 hE q0 q1
    go_enter Try.func36, Try.ntmps36
    go_wp2_with (go_at_call 48; refine (HA _ (hr.quiet (Chg.alloc (Chg.refl _ _) _))).mono ?_; rintro e w1 ⟨rfl, hc1⟩; have hb := ((Blk.new w 36 #[.int .i64 (k : Nat), .int .u64 G]).chg hc1 (by simp)); have k0 := hb.cell 0; have k1 := hb.cell 1; have lb := hb.lt; have hcc := ((Chg.refl [] w).alloc (.cells #[.int .i64 (k : Nat), .int .u64 G] 36)).then hc1; have x0 := (hcc.cell (p := ⟨h, 0, none⟩) lh (by simp)).trans a0; have y0 := (hcc.cell (p := ⟨gl, k * 5, none⟩) lg (by simp)).trans b0; have y1 := (hcc.cell (p := ⟨gl, k * 5 + 1, none⟩) lg (by simp)).trans b1; have y2 := (hcc.cell (p := ⟨gl, k * 5 + 2, none⟩) lg (by simp)).trans b2; have y3 := (hcc.cell (p := ⟨gl, k * 5 + 3, none⟩) lg (by simp)).trans b3; have y4 := (hcc.cell (p := ⟨gl, k * 5 + 4, none⟩) lg (by simp)).trans b4; have z0 := (hcc.frozen (p := ⟨gl, k * 5, none⟩) lg (by simp)).trans f0; have z1 := (hcc.frozen (p := ⟨gl, k * 5 + 1, none⟩) lg (by simp)).trans f1; have z2 := (hcc.frozen (p := ⟨gl, k * 5 + 2, none⟩) lg (by simp)).trans f2; have z3 := (hcc.frozen (p := ⟨gl, k * 5 + 3, none⟩) lg (by simp)).trans f3; have z4 := (hcc.frozen (p := ⟨gl, k * 5 + 4, none⟩) lg (by simp)).trans f4; have lh1 : h < w1.heap.size := (by have := hcc.size; omega); have lg1 : gl < w1.heap.size := (by have := hcc.size; omega))
    go_region
    go_wp2
    go_region
    go_wp2
    go_ret
    refine ⟨rfl, ?_⟩
    have hw := RefAt.write (T := T) (HB.out.chg hcc (by simp)) (HL.out.chg hcc (fun _ _ h => by cases h)) (k := k) (by rw [← HN.out]; exact hk) (p.gone T)
    have hSg : gl ∈ S := by rw [HS.out]; simp [foot_some]
    rw [← HS.out] at hw
    rw [HX.out, if_pos hE'.out]
    rw [HP.out, show Pl.gone ⟨G, true, R, X, F⟩ T = ⟨G, false, true, 0, F⟩ by unfold Pl.gone; rw [if_pos hE'.out]] at hw ⊢
    have hcS : Chg S w _ := hcc.any
    exact RTurns.later ⟨S, hw, fun j hj => .inl hj, (((((hcS.setCell (p := ⟨gl, k * 5, none⟩) (.inl hSg) _).setCell (p := ⟨gl, k * 5 + 1, none⟩) (.inl hSg) _).setCell (p := ⟨gl, k * 5 + 2, none⟩) (.inl hSg) _).setCell (p := ⟨gl, k * 5 + 3, none⟩) (.inl hSg) _).setCell (p := ⟨gl, k * 5 + 4, none⟩) (.inl hSg) _)⟩ (((Chg.refl _ _).alloc _).drew.drew)
  · have eb : (G == 18446744073709551614) = false := by simpa using hE
    have e1' := e1 hE
    have hE' := Lib.hid hE
    clear hB hL hSS hp ht f hnn hq hG hX hR hF hT e1 hE q0 q1
    go_enter Try.func36, Try.ntmps36
    go_wp2_with (go_at_call 48; refine (HA _ (hr.quiet (Chg.alloc (Chg.refl _ _) _))).mono ?_; rintro e w1 ⟨rfl, hc1⟩; have hb := ((Blk.new w 36 #[.int .i64 (k : Nat), .int .u64 G]).chg hc1 (by simp)); have k0 := hb.cell 0; have k1 := hb.cell 1; have lb := hb.lt; have hcc := ((Chg.refl [] w).alloc (.cells #[.int .i64 (k : Nat), .int .u64 G] 36)).then hc1; have x0 := (hcc.cell (p := ⟨h, 0, none⟩) lh (by simp)).trans a0; have y0 := (hcc.cell (p := ⟨gl, k * 5, none⟩) lg (by simp)).trans b0; have y1 := (hcc.cell (p := ⟨gl, k * 5 + 1, none⟩) lg (by simp)).trans b1; have y2 := (hcc.cell (p := ⟨gl, k * 5 + 2, none⟩) lg (by simp)).trans b2; have y3 := (hcc.cell (p := ⟨gl, k * 5 + 3, none⟩) lg (by simp)).trans b3; have y4 := (hcc.cell (p := ⟨gl, k * 5 + 4, none⟩) lg (by simp)).trans b4; have z0 := (hcc.frozen (p := ⟨gl, k * 5, none⟩) lg (by simp)).trans f0; have z1 := (hcc.frozen (p := ⟨gl, k * 5 + 1, none⟩) lg (by simp)).trans f1; have z2 := (hcc.frozen (p := ⟨gl, k * 5 + 2, none⟩) lg (by simp)).trans f2; have z3 := (hcc.frozen (p := ⟨gl, k * 5 + 3, none⟩) lg (by simp)).trans f3; have z4 := (hcc.frozen (p := ⟨gl, k * 5 + 4, none⟩) lg (by simp)).trans f4; have u0 := (hcc.cell (p := ⟨h, 1, none⟩) lh (by simp)).trans a1; have u1 := (hcc.frozen (p := ⟨h, 1, none⟩) lh (by simp)).trans fh; have lh1 : h < w1.heap.size := (by have := hcc.size; omega); have lg1 : gl < w1.heap.size := (by have := hcc.size; omega))
    go_region
    go_wp2
    go_region
    go_wp2
    go_ret
    refine ⟨rfl, ?_⟩
    have hS0 : h ∈ S := by rw [HS.out]; simp
    have hSg : gl ∈ S := by rw [HS.out]; simp [foot_some]
    have hB1 : Blk (w1.setCell ⟨h, 1, none⟩ (.int .i64 (T + 1))) h 56 #[.slice (some ⟨gl, 0, none⟩) r.L.length cl, .int .i64 (T + 1)] := (HB.out.chg hcc (by simp)).set_ 1 _
    have hL1 := (HL.out.chg hcc (fun _ _ h => by cases h)).far (p := ⟨h, 1, none⟩) (by simpa [foot_some] using hg) (.int .i64 (T + 1))
    have hw := RefAt.write (T := T + 1) hB1 hL1 (k := k) (by rw [← HN.out]; exact hk) (p.gone T)
    rw [← HS.out] at hw
    rw [HX.out, if_neg hE'.out]
    rw [HP.out, show Pl.gone ⟨G, true, R, X, F⟩ T = ⟨G + 1, false, R, 0, T + 1⟩ by unfold Pl.gone; rw [if_neg hE'.out]] at hw ⊢
    have hcS : Chg S w (w1.setCell ⟨h, 1, none⟩ (.int .i64 (T + 1))) := hcc.any.setCell (p := ⟨h, 1, none⟩) (.inl hS0) _
    exact RTurns.later ⟨S, hw, fun j hj => .inl hj, (((((hcS.setCell (p := ⟨gl, k * 5, none⟩) (.inl hSg) _).setCell (p := ⟨gl, k * 5 + 1, none⟩) (.inl hSg) _).setCell (p := ⟨gl, k * 5 + 2, none⟩) (.inl hSg) _).setCell (p := ⟨gl, k * 5 + 3, none⟩) (.inl hSg) _).setCell (p := ⟨gl, k * 5 + 4, none⟩) (.inl hSg) _)⟩ (((Chg.refl _ _).alloc _).drew.drew)
end Go.Proofs
