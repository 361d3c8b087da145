import Derived.Test.YtpclhbfmocjgeaaM4
import Derived.Deep.LoopGhost
section
namespace Go.Proofs
open Go.RowKit
set_option linter.unusedVariables false
set_option linter.unusedSimpArgs false

theorem put_has {t : Tab Dm} (hw : t.WF) (hf : t.frees ≠ 0) (x : Dm) {i q : Int} (hq : t.has i q = true) : (t.put dm0 x).has i q = true := by
  obtain ⟨s, hl, hg⟩ := has_iff.1 hq
  obtain ⟨i0, hs, hth⟩ := live_iff.1 hl
  obtain ⟨k, rfl⟩ := Int.eq_ofNat_of_zero_le i0
  simp only [Int.toNat_natCast] at hs
  refine has_iff.2 ⟨s, live_nat.2 ⟨?_, hth⟩, hg⟩
  rw [put_spots hw hf, if_neg]
  · exact hs
  · rintro rfl
    obtain ⟨_, _, _, _, _, _, hlv, _⟩ := hw.take_at (z := dm0) hf
    rw [hl] at hlv; cases hlv
theorem put_at_old {t : Tab Dm} (hw : t.WF) (hf : t.frees ≠ 0) (x : Dm) {i q : Int} (hq : t.has i q = true) : (t.put dm0 x).at_ i q = t.at_ i q := by
  obtain ⟨s, hl, hg⟩ := has_iff.1 hq
  have hl' : (t.put dm0 x).live i = some s := by
    obtain ⟨i0, hs, hth⟩ := live_iff.1 hl
    obtain ⟨k, rfl⟩ := Int.eq_ofNat_of_zero_le i0
    simp only [Int.toNat_natCast] at hs
    refine live_nat.2 ⟨?_, hth⟩
    rw [put_spots hw hf, if_neg]
    · exact hs
    · rintro rfl
      obtain ⟨_, _, _, _, _, _, hlv, _⟩ := hw.take_at (z := dm0) hf
      rw [hl] at hlv; cases hlv
  rw [at_yes hl hg, at_yes hl' hg]
theorem put_dom {w : World} {c : Nat} {S : List Nat} {t : Tab Dm} (h : DomAt w c S t) (hf : t.frees ≠ 0) (x : Dm) :
    ∃ g, Blk w c 62 #[ptr g] ∧ ∀ W, Chg [] w W → Calls Try.prog 32 #[ptr g, x.val] W fun e w' => e = .returned (.tuple #[.agg #[.int .i64 (t.takeAt : Nat), .int .u64 (t.genAt t.takeAt)], .int .i64 0]) ∧ DomTurns c S (t.put dm0 x) W w' := by
  obtain ⟨g, hB, hT, hW⟩ := h
  refine ⟨g, hB, fun W hc => ?_⟩
  refine (put_ok_C (hT.quiet hc) hW hf x).mono ?_
  rintro e w' ⟨he, S', h1, h2, h3⟩
  exact ⟨he, S', ⟨g, (hB.chg hc (by simp)).chg h3 (hT.not_dom hB), h1, hW.put hf x⟩, h2, h3⟩
theorem put_dom_full {w : World} {c : Nat} {S : List Nat} {t : Tab Dm} (h : DomAt w c S t) (hf : t.frees = 0) (x : Dm) :
    ∃ g, Blk w c 62 #[ptr g] ∧ ∀ W, Chg [] w W → Calls Try.prog 32 #[ptr g, x.val] W fun e w' => e = .returned (.tuple #[.agg #[.int .i64 0, .int .u64 0], .int .i64 3]) ∧ Chg [] W w' := by
  obtain ⟨g, hB, hT, hW⟩ := h
  exact ⟨g, hB, fun W hc => put_full_C (hT.quiet hc) hW hf x⟩
def kid (i q gs cpu per : Int) : Dm := ⟨i, q, gs, cpu, per, 0, 0, 0, 0, 0, 0⟩
def carveE (t : Tab Dm) (i q gs cpu per : Int) : Int :=
  if mayD gs cpu per then (if t.has i q then (if (t.at_ i q).gs - (t.at_ i q).cgs - (t.at_ i q).own < gs ∨ subS (t.at_ i q).cpu (t.at_ i q).car < cpu then 15 else (if t.frees = 0 then 3 else 0)) else 11) else 2
def carveT (t : Tab Dm) (i q gs cpu per : Int) : Tab Dm := (t.put dm0 (kid i q gs cpu per)).upd i q (fun x => { x with cgs := x.cgs + gs, car := x.car + cpu, ch := x.ch + 1 })
/-- What a Carve leaves: an error, and nothing turned; or a child. -/
def CvOut (c : Nat) (S : List Nat) (t : Tab Dm) (i q gs cpu per : Int) (w : World) (e : Ending) (w' : World) : Prop :=
  (carveE t i q gs cpu per ≠ 0 ∧ e = .returned (.tuple #[.agg #[.int .i64 0, .int .u64 0], .int .i64 (carveE t i q gs cpu per)]) ∧ DomAt w' c S t ∧ Chg [] w w') ∨
  (carveE t i q gs cpu per = 0 ∧ e = .returned (.tuple #[.agg #[.int .i64 (t.takeAt : Nat), .int .u64 (t.genAt t.takeAt)], .int .i64 0]) ∧ DomTurns c S (carveT t i q gs cpu per) w w')
/-- The boxes of a Carve. -/
def CvBoxes (b : Nat) (i q gs cpu : Int) (w : World) : Prop := Blk w b 34 #[.int .i64 i, .int .u64 q] ∧ Blk w (b + 1) 3 #[.int .i64 gs] ∧ Blk w (b + 1 + 1) 22 #[.int .u64 cpu] ∧ Blk w (b + 1 + 1 + 1) 34 #[.int .i64 0, .int .u64 0]
theorem CvBoxes.chg {b : Nat} {i q gs cpu : Int} {w w' : World} (h : CvBoxes b i q gs cpu w) (hc : Chg [] w w') : CvBoxes b i q gs cpu w' := ⟨h.1.chg hc (by simp), h.2.1.chg hc (by simp), h.2.2.1.chg hc (by simp), h.2.2.2.chg hc (by simp)⟩
theorem CvBoxes.alloc {b : Nat} {i q gs cpu : Int} {w : World} (h : CvBoxes b i q gs cpu w) (o : Obj) : CvBoxes b i q gs cpu (w.alloc o) := h.chg ((Chg.refl _ _).alloc o)
theorem CvBoxes.drew {b : Nat} {i q gs cpu : Int} {w : World} (h : CvBoxes b i q gs cpu w) : CvBoxes b i q gs cpu w.drew := h.chg ((Chg.refl _ _).drew)
theorem carve_boxes {w w1 : World} {i q gs cpu : Int} (hc : Chg [] ((((w.alloc (obRef i q)).alloc (.cells #[.int .i64 gs] 3)).alloc (.cells #[.int .u64 cpu] 22)).alloc (obRef 0 0)) w1) : CvBoxes w.heap.size i q gs cpu w1 :=
  CvBoxes.chg (w := (((w.alloc (obRef i q)).alloc (.cells #[.int .i64 gs] 3)).alloc (.cells #[.int .u64 cpu] 22)).alloc (obRef 0 0))
    ⟨(((Blk.new w 34 _).alloc _).alloc _).alloc _, ((Blk.at' _ 3 _ (by simp)).alloc _).alloc _, (Blk.at' _ 22 _ (by simp)).alloc _, Blk.at' _ 34 _ (by simp)⟩ hc
theorem carve_tell {b : Nat} {i q gs cpu : Int} {w : World} (h : CvBoxes b i q gs cpu w) : b + 1 + 1 + 1 < w.heap.size ∧ w.cell? ⟨b, 0, none⟩ = some (.int .i64 i) ∧ w.cell? ⟨b, 1, none⟩ = some (.int .u64 q) ∧ w.cell? ⟨b + 1, 0, none⟩ = some (.int .i64 gs) ∧ w.cell? ⟨b + 1 + 1, 0, none⟩ = some (.int .u64 cpu) ∧ w.cell? ⟨b + 1 + 1 + 1, 0, none⟩ = some (.int .i64 0) ∧ w.cell? ⟨b + 1 + 1 + 1, 1, none⟩ = some (.int .u64 0) ∧ ∀ o, w.frozen? ⟨b + 1 + 1 + 1, o, none⟩ = false :=
  ⟨h.2.2.2.lt, h.1.cell 0, h.1.cell 1, h.2.1.cell 0, h.2.2.1.cell 0, h.2.2.2.cell 0, h.2.2.2.cell 1, h.2.2.2.frozen⟩
theorem CvOut.no {c : Nat} {S : List Nat} {t : Tab Dm} {i q gs cpu per e0 : Int} {w w' : World} (he : e0 ≠ 0) (h : carveE t i q gs cpu per = e0) (hD : DomAt w c S t) (hc : Chg [] w w') : CvOut c S t i q gs cpu per w (.returned (.tuple #[.agg #[.int .i64 0, .int .u64 0], .int .i64 e0])) w' :=
  .inl ⟨by rw [h]; exact he, by rw [h], hD.quiet hc, hc⟩
set_option maxRecDepth 100000 in
set_option maxHeartbeats 3200000 in
theorem Carve_no {w : World} {c : Nat} {S : List Nat} {t : Tab Dm} (h : DomAt w c S t) (hk : t.Oks) {i q gs cpu per : Int} (i0 : -9223372036854775808 ≤ i) (i1 : i ≤ 9223372036854775807) (hc0 : 0 ≤ cpu) (hp0 : 0 ≤ per)
    (he : carveE t i q gs cpu per = 2 ∨ carveE t i q gs cpu per = 11 ∨ carveE t i q gs cpu per = 15) :
    Calls Try.prog 17 #[ptr c, .agg #[.int .i64 i, .int .u64 q], .int .i64 gs, .int .u64 cpu, .int .u64 per] w (CvOut c S t i q gs cpu per w) := by
  have HN := Lib.hid (fun W (hW : Chg [] w W) => none_any (h.quiet hW))
  have HM := Lib.hid (fun W => mayD_any 30 (.inl rfl) gs cpu per hc0 hp0 W)
  have HG := Lib.hid (fun W (hW : Chg [] w W) => Get_any (h.quiet hW) i q i0 i1)
  have HS := Lib.hid (fun W => share_any W (t.at_ i q) (hk.ok i q).sm)
  have HRM := Lib.hid (fun W => room_any W (t.at_ i q) (hk.ok i q).sm)
  have HH := Lib.hid h
  have HE := Lib.hid (show carveE t i q gs cpu per = _ from rfl)
  have hce : carveE t i q gs cpu per = if mayD gs cpu per then (if t.has i q then (if (t.at_ i q).gs - (t.at_ i q).cgs - (t.at_ i q).own < gs ∨ subS (t.at_ i q).cpu (t.at_ i q).car < cpu then 15 else (if t.frees = 0 then 3 else 0)) else 11) else 2 := rfl
  clear HE h hk
  cases hm : mayD gs cpu per with
  | false =>
    have hE : carveE t i q gs cpu per = 2 := by rw [hce, hm]; rfl
    have HEE := Lib.hid hE
    rw [hm] at HM
    clear hce hm he hE HG HS HRM
    go_enter Try.func17, Try.ntmps17
    go_wp2_with (first
      | (go_at_call 48; refine (HN.out _ ((((Chg.refl _ _).alloc _).alloc _).alloc _ |>.alloc _)).mono ?_; rintro e w' ⟨rfl, rfl⟩)
      | (go_at_call 30; refine (HM.out _).mono ?_; rintro e w' ⟨rfl, rfl⟩))
    refine bodyPost_ret (v := .tuple #[.agg #[.int .i64 0, .int .u64 0], .int .i64 2]) (by simp [results, Try.results17, go_sem]) rfl (CvOut.no (by omega) HEE.out HH.out (by repeat' (first | with_reducible exact Chg.refl _ _ | with_reducible apply Chg.alloc | with_reducible apply Chg.setCell | (with_reducible refine Or.inr ?_; dsimp only; omega))))
  | true =>
    rw [hm] at HM
    simp only [hm, if_true] at hce
    cases hq : t.has i q with
    | false =>
      have e0 : staleE t i q = 11 := by unfold staleE; rw [hq]; rfl
      have hE : carveE t i q gs cpu per = 11 := by rw [hce, hq]; rfl
      have HEE := Lib.hid hE
      rw [e0] at HG
      obtain ⟨x, hx⟩ : ∃ x, x = t.at_ i q := ⟨_, rfl⟩
      rw [← hx] at HG
      clear hce hm he hE HS HRM e0 hq hx
      go_enter Try.func17, Try.ntmps17
      go_wp2_with (first
        | (go_at_call 48; refine (HN.out _ ((((Chg.refl _ _).alloc _).alloc _).alloc _ |>.alloc _)).mono ?_; rintro e w' ⟨rfl, rfl⟩)
        | (go_at_call 30; refine (HM.out _).mono ?_; rintro e w' ⟨rfl, rfl⟩)
        | (go_at_call 15; refine (HG.out _ ((((Chg.refl _ _).alloc _).alloc _).alloc _ |>.alloc _)).mono ?_; rintro e w1 ⟨rfl, hc⟩; have HB := Lib.hid (carve_boxes (i := i) (q := q) (gs := gs) (cpu := cpu) hc); have HC := Lib.hid ((((((Chg.refl [] w).alloc (obRef i q)).alloc (.cells #[.int .i64 gs] 3)).alloc (.cells #[.int .u64 cpu] 22)).alloc (obRef 0 0)).then hc); have hb := HB.out; obtain ⟨lb, b0, b1, b2, b3, d0, d1, df⟩ := carve_tell hb; clear hc hb))
      refine bodyPost_ret (v := .tuple #[.agg #[.int .i64 0, .int .u64 0], .int .i64 11]) (by simp [results, Try.results17, go_sem, d0, d1, lb]) rfl (CvOut.no (by omega) HEE.out HH.out (by repeat' (first | with_reducible exact HC.out | with_reducible apply Chg.alloc | with_reducible apply Chg.drew | with_reducible apply Chg.setCell | (with_reducible refine Or.inr ?_; dsimp only; omega))))
    | true =>
      have e0 : staleE t i q = 0 := by unfold staleE; rw [hq]; rfl
      simp only [hq, if_true] at hce
      rw [e0] at HG
      have hE : carveE t i q gs cpu per = 15 := by
        rcases he with h1 | h1 | h1
        · rw [h1] at hce; split at hce <;> first | (split at hce <;> omega) | omega
        · rw [h1] at hce; split at hce <;> first | (split at hce <;> omega) | omega
        · exact h1
      have hqu : (t.at_ i q).gs - (t.at_ i q).cgs - (t.at_ i q).own < gs ∨ subS (t.at_ i q).cpu (t.at_ i q).car < cpu := by
        rw [hE] at hce
        by_cases hh : (t.at_ i q).gs - (t.at_ i q).cgs - (t.at_ i q).own < gs ∨ subS (t.at_ i q).cpu (t.at_ i q).car < cpu
        · exact hh
        · rw [if_neg hh] at hce; split at hce <;> omega
      have HEE := Lib.hid hE
      obtain ⟨x, hx⟩ : ∃ x, x = t.at_ i q := ⟨_, rfl⟩
      rw [← hx] at HG HS HRM hqu
      obtain ⟨rm, hrm⟩ : ∃ rm, rm = x.gs - x.cgs - x.own := ⟨_, rfl⟩
      obtain ⟨s0, hs0⟩ : ∃ s0, s0 = x.gs - x.cgs := ⟨_, rfl⟩
      obtain ⟨s1, hs1⟩ : ∃ s1, s1 = subS x.cpu x.car := ⟨_, rfl⟩
      rw [← hrm] at HRM hqu
      rw [← hs1] at HS hqu
      rw [← hs0] at HS
      clear hce hm he hE e0 hq hx hrm hs0 hs1
      by_cases g0 : rm < gs
      · clear hqu
        have g9 : decide (rm < gs) = true := by simpa using g0
        go_enter Try.func17, Try.ntmps17
        go_wp2_with (first
          | (go_at_call 48; refine (HN.out _ ((((Chg.refl _ _).alloc _).alloc _).alloc _ |>.alloc _)).mono ?_; rintro e w' ⟨rfl, rfl⟩)
          | (go_at_call 30; refine (HM.out _).mono ?_; rintro e w' ⟨rfl, rfl⟩)
          | (go_at_call 15; refine (HG.out _ ((((Chg.refl _ _).alloc _).alloc _).alloc _ |>.alloc _)).mono ?_; rintro e w1 ⟨rfl, hc⟩; have HB := Lib.hid (carve_boxes (i := i) (q := q) (gs := gs) (cpu := cpu) hc); have HC := Lib.hid ((((((Chg.refl [] w).alloc (obRef i q)).alloc (.cells #[.int .i64 gs] 3)).alloc (.cells #[.int .u64 cpu] 22)).alloc (obRef 0 0)).then hc); have hb := HB.out; obtain ⟨lb, b0, b1, b2, b3, d0, d1, df⟩ := carve_tell hb; clear hc hb)
          | (go_at_call 49; refine (HS.out _).mono ?_; rintro e w2 ⟨rfl, hc⟩; have HB2 := Lib.hid ((HB.out.alloc (obX x)).chg hc); have HX2 := Lib.hid ((Blk.new w1 45 x.arr).chg hc (by simp)); have HC2 := Lib.hid ((HC.out.alloc (obX x)).then hc); have hb := HB2.out; obtain ⟨lb2, b20, b21, b22, b23, d20, d21, d2f⟩ := carve_tell hb; obtain ⟨l2, k0, k1, k2, k3, k4, k5, k6, k7, k8, k9, k10, kf⟩ := x_facts HX2.out; clear hc hb))
        refine wp_region_held_drew (S := fun w' => w'.cell? ⟨w.heap.size + 1, 0, none⟩ = some (.int .i64 gs) ∧ w'.cell? ⟨w.heap.size + 1 + 1, 0, none⟩ = some (.int .u64 cpu) ∧ w'.cell? ⟨w1.heap.size, 0, none⟩ = some (.int .i64 x.pi) ∧ w'.cell? ⟨w1.heap.size, 1, none⟩ = some (.int .u64 x.pg) ∧ w'.cell? ⟨w1.heap.size, 2, none⟩ = some (.int .i64 x.gs) ∧ w'.cell? ⟨w1.heap.size, 3, none⟩ = some (.int .u64 x.cpu) ∧ w'.cell? ⟨w1.heap.size, 4, none⟩ = some (.int .u64 x.per) ∧ w'.cell? ⟨w1.heap.size, 5, none⟩ = some (.int .i64 x.cgs) ∧ w'.cell? ⟨w1.heap.size, 6, none⟩ = some (.int .u64 x.car) ∧ w'.cell? ⟨w1.heap.size, 7, none⟩ = some (.int .i64 x.own) ∧ w'.cell? ⟨w1.heap.size, 8, none⟩ = some (.int .i64 x.live) ∧ w'.cell? ⟨w1.heap.size, 9, none⟩ = some (.int .u64 x.used) ∧ w'.cell? ⟨w1.heap.size, 10, none⟩ = some (.int .i64 x.ch)) (by kernel_rfl) ⟨b22, b23, k0, k1, k2, k3, k4, k5, k6, k7, k8, k9, k10⟩ (fun hHeld => ?_)
        simp only [List.setIfInBounds_toArray, List.size_toArray, List.length_cons, List.length_nil, Array.replicate]
        refine wpAnyH_take (i := 0) (v := .int .i64 gs) rfl (by kernel_rfl) (by kernel_rfl) (by kernel_rfl) (fun _ _ _ h => h) (Or.inl ⟨by rfl, fun w' hS => ?_⟩) hHeld ?_
        · obtain ⟨s0, s1, s2, s3, s4, s5, s6, s7, s8, s9, s10, s11, s12⟩ := hS
          go_simp
        simp only [Act.put, List.getElem_toArray, List.getElem_cons_succ, List.getElem_cons_zero, List.setIfInBounds_toArray, List.set_cons_zero, List.set_cons_succ]
        refine wpAnyH_take (i := 1) (v := .agg #[.int .i64 x.pi, .int .u64 x.pg, .int .i64 x.gs, .int .u64 x.cpu, .int .u64 x.per, .int .i64 x.cgs, .int .u64 x.car, .int .i64 x.own, .int .i64 x.live, .int .u64 x.used, .int .i64 x.ch]) rfl (by kernel_rfl) (by kernel_rfl) (by kernel_rfl) (fun _ _ _ h => h) (Or.inl ⟨by rfl, fun w' hS => ?_⟩) hHeld ?_
        · obtain ⟨s0, s1, s2, s3, s4, s5, s6, s7, s8, s9, s10, s11, s12⟩ := hS
          go_simp
        simp only [Act.put, List.getElem_toArray, List.getElem_cons_succ, List.getElem_cons_zero, List.setIfInBounds_toArray, List.set_cons_zero, List.set_cons_succ]
        refine wpAnyH_ready (rs := [2]) (by kernel_rfl) (by simp) ?_
        refine AllReadyH.cons rfl (fun K hK => ?_) AllReadyH.nil
        go_simp
        refine (HRM.out _).mono ?_
        rintro e w3 ⟨rfl, hc⟩
        have HC3 := Lib.hid (HC2.out.drew.then hc)
        have HB3 := Lib.hid ((HB2.out.drew).chg hc)
        have hb := HB3.out
        obtain ⟨lb3, b30, b31, b32, b33, d30, d31, d3f⟩ := carve_tell hb
        obtain ⟨l3, m0, m1, m2, m3, m4, m5, m6, m7, m8, m9, m10, k3f⟩ := x_facts (HX2.out.drew.chg hc (by simp))
        clear hc hb
        refine hK.out _ _ ⟨b32, b33, m0, m1, m2, m3, m4, m5, m6, m7, m8, m9, m10⟩ (fun hHeld => ?_)
        clear hK K
        simp only [Act.put, List.getElem_toArray, List.getElem_cons_succ, List.getElem_cons_zero, List.setIfInBounds_toArray, List.set_cons_zero, List.set_cons_succ]
        refine wpAnyH_take (i := 3) (v := .bool true) rfl (by kernel_rfl) (by kernel_rfl) (by kernel_rfl) (fun _ _ _ h => h) (Or.inl ⟨by rfl, fun w' hS => ?_⟩) hHeld ?_
        · obtain ⟨s0, s1, s2, s3, s4, s5, s6, s7, s8, s9, s10, s11, s12⟩ := hS
          go_simp
        simp only [Act.put, List.getElem_toArray, List.getElem_cons_succ, List.getElem_cons_zero, List.setIfInBounds_toArray, List.set_cons_zero, List.set_cons_succ]
        refine wpAnyH_take (i := 4) (v := .bool true) rfl (by kernel_rfl) (by kernel_rfl) (by kernel_rfl) (fun _ _ _ h => h) (Or.inl ⟨by rfl, fun w' hS => ?_⟩) hHeld ?_
        · obtain ⟨s0, s1, s2, s3, s4, s5, s6, s7, s8, s9, s10, s11, s12⟩ := hS
          go_simp
        simp only [Act.put, List.getElem_toArray, List.getElem_cons_succ, List.getElem_cons_zero, List.setIfInBounds_toArray, List.set_cons_zero, List.set_cons_succ]
        refine wpAnyH_take (i := 5) (v := undef) rfl (by kernel_rfl) (by kernel_rfl) (by kernel_rfl) (fun _ _ _ h => h) (Or.inr ⟨by kernel_rfl, rfl⟩) hHeld ?_
        simp only [Act.put, List.getElem_toArray, List.getElem_cons_succ, List.getElem_cons_zero, List.setIfInBounds_toArray, List.set_cons_zero, List.set_cons_succ]
        refine wpAnyH_take (i := 6) (v := undef) rfl (by kernel_rfl) (by kernel_rfl) (by kernel_rfl) (fun _ _ _ h => h) (Or.inr ⟨by kernel_rfl, rfl⟩) hHeld ?_
        simp only [Act.put, List.getElem_toArray, List.getElem_cons_succ, List.getElem_cons_zero, List.setIfInBounds_toArray, List.set_cons_zero, List.set_cons_succ]
        refine wpAnyH_take (i := 7) (v := undef) rfl (by kernel_rfl) (by kernel_rfl) (by kernel_rfl) (fun _ _ _ h => h) (Or.inr ⟨by kernel_rfl, rfl⟩) hHeld ?_
        simp only [Act.put, List.getElem_toArray, List.getElem_cons_succ, List.getElem_cons_zero, List.setIfInBounds_toArray, List.set_cons_zero, List.set_cons_succ]
        refine wpAnyH_take (i := 8) (v := .bool true) rfl (by kernel_rfl) (by kernel_rfl) (by kernel_rfl) (fun _ _ _ h => h) (Or.inl ⟨by rfl, fun w' hS => ?_⟩) hHeld ?_
        · obtain ⟨s0, s1, s2, s3, s4, s5, s6, s7, s8, s9, s10, s11, s12⟩ := hS
          go_simp
        simp only [Act.put, List.getElem_toArray, List.getElem_cons_succ, List.getElem_cons_zero, List.setIfInBounds_toArray, List.set_cons_zero, List.set_cons_succ]
        refine wpAnyH_done (by kernel_rfl) ?_ _
        go_wp2
        refine bodyPost_ret (v := .tuple #[.agg #[.int .i64 0, .int .u64 0], .int .i64 15]) (by simp [results, Try.results17, go_sem, d30, d31, lb3]) rfl (CvOut.no (by omega) HEE.out HH.out (by repeat' (first | with_reducible exact HC3.out | with_reducible apply Chg.alloc | with_reducible apply Chg.drew | with_reducible apply Chg.setCell | (with_reducible refine Or.inr ?_; dsimp only; omega))))
      · have g1 : s1 < cpu := hqu.resolve_left g0
        clear hqu
        have g9 : decide (rm < gs) = false := by simpa using g0
        have g8 : decide (s1 < cpu) = true := by simpa using g1
        go_enter Try.func17, Try.ntmps17
        go_wp2_with (first
          | (go_at_call 48; refine (HN.out _ ((((Chg.refl _ _).alloc _).alloc _).alloc _ |>.alloc _)).mono ?_; rintro e w' ⟨rfl, rfl⟩)
          | (go_at_call 30; refine (HM.out _).mono ?_; rintro e w' ⟨rfl, rfl⟩)
          | (go_at_call 15; refine (HG.out _ ((((Chg.refl _ _).alloc _).alloc _).alloc _ |>.alloc _)).mono ?_; rintro e w1 ⟨rfl, hc⟩; have HB := Lib.hid (carve_boxes (i := i) (q := q) (gs := gs) (cpu := cpu) hc); have HC := Lib.hid ((((((Chg.refl [] w).alloc (obRef i q)).alloc (.cells #[.int .i64 gs] 3)).alloc (.cells #[.int .u64 cpu] 22)).alloc (obRef 0 0)).then hc); have hb := HB.out; obtain ⟨lb, b0, b1, b2, b3, d0, d1, df⟩ := carve_tell hb; clear hc hb)
          | (go_at_call 49; refine (HS.out _).mono ?_; rintro e w2 ⟨rfl, hc⟩; have HB2 := Lib.hid ((HB.out.alloc (obX x)).chg hc); have HX2 := Lib.hid ((Blk.new w1 45 x.arr).chg hc (by simp)); have HC2 := Lib.hid ((HC.out.alloc (obX x)).then hc); have hb := HB2.out; obtain ⟨lb2, b20, b21, b22, b23, d20, d21, d2f⟩ := carve_tell hb; obtain ⟨l2, k0, k1, k2, k3, k4, k5, k6, k7, k8, k9, k10, kf⟩ := x_facts HX2.out; clear hc hb))
        go_region_held3 (fun w' => (w'.cell? ⟨w.heap.size + 1, 0, none⟩ = some (.int .i64 gs) ∧ w'.cell? ⟨w.heap.size + 1 + 1, 0, none⟩ = some (.int .u64 cpu)) ∧ w'.cell? ⟨w1.heap.size, 0, none⟩ = some (.int .i64 x.pi) ∧ w'.cell? ⟨w1.heap.size, 1, none⟩ = some (.int .u64 x.pg) ∧ w'.cell? ⟨w1.heap.size, 2, none⟩ = some (.int .i64 x.gs) ∧ w'.cell? ⟨w1.heap.size, 3, none⟩ = some (.int .u64 x.cpu) ∧ w'.cell? ⟨w1.heap.size, 4, none⟩ = some (.int .u64 x.per) ∧ w'.cell? ⟨w1.heap.size, 5, none⟩ = some (.int .i64 x.cgs) ∧ w'.cell? ⟨w1.heap.size, 6, none⟩ = some (.int .u64 x.car) ∧ w'.cell? ⟨w1.heap.size, 7, none⟩ = some (.int .i64 x.own) ∧ w'.cell? ⟨w1.heap.size, 8, none⟩ = some (.int .i64 x.live) ∧ w'.cell? ⟨w1.heap.size, 9, none⟩ = some (.int .u64 x.used) ∧ w'.cell? ⟨w1.heap.size, 10, none⟩ = some (.int .i64 x.ch))
          (first | go_keep)
          (first | (go_at_call 50; refine (HRM.out _).mono ?_; rintro e w3 ⟨rfl, hc⟩; have HC3 := Lib.hid (HC2.out.drew.then hc); have HB3 := Lib.hid ((HB2.out.drew).chg hc); have hb := HB3.out; obtain ⟨lb3, b30, b31, b32, b33, d30, d31, d3f⟩ := carve_tell hb; obtain ⟨l3, m0, m1, m2, m3, m4, m5, m6, m7, m8, m9, m10, k3f⟩ := x_facts (HX2.out.drew.chg hc (by simp)); clear hc hb))
        all_goals
          go_wp2
          refine bodyPost_ret (v := .tuple #[.agg #[.int .i64 0, .int .u64 0], .int .i64 15]) (by simp [results, Try.results17, go_sem, d30, d31, lb3]) rfl (CvOut.no (by omega) HEE.out HH.out (by repeat' (first | with_reducible exact HC3.out | with_reducible apply Chg.alloc | with_reducible apply Chg.drew | with_reducible apply Chg.setCell | (with_reducible refine Or.inr ?_; dsimp only; omega))))
end Go.Proofs
end
section
namespace Go.Proofs
open Go.RowKit
set_option linter.unusedVariables false
set_option linter.unusedSimpArgs false

theorem CvBoxes.chgS {b : Nat} {i q gs cpu : Int} {w w' : World} {S : List Nat} (h : CvBoxes b i q gs cpu w) (hc : Chg S w w') (hS : ∀ k ∈ S, k < b) : CvBoxes b i q gs cpu w' :=
  ⟨h.1.chg hc (fun hm => by have := hS _ hm; omega), h.2.1.chg hc (fun hm => by have := hS _ hm; omega), h.2.2.1.chg hc (fun hm => by have := hS _ hm; omega), h.2.2.2.chg hc (fun hm => by have := hS _ hm; omega)⟩
set_option maxRecDepth 100000 in
set_option maxHeartbeats 6400000 in
theorem Carve_full {w : World} {c : Nat} {S : List Nat} {t : Tab Dm} (h : DomAt w c S t) (hk : t.Oks) {i q gs cpu per : Int} (i0 : -9223372036854775808 ≤ i) (i1 : i ≤ 9223372036854775807) (hc0 : 0 ≤ cpu) (hp0 : 0 ≤ per)
    (hm : mayD gs cpu per = true) (hq : t.has i q = true) (g0 : ¬ (t.at_ i q).gs - (t.at_ i q).cgs - (t.at_ i q).own < gs) (g1 : ¬ subS (t.at_ i q).cpu (t.at_ i q).car < cpu) (hf : t.frees = 0) :
    Calls Try.prog 17 #[ptr c, .agg #[.int .i64 i, .int .u64 q], .int .i64 gs, .int .u64 cpu, .int .u64 per] w (CvOut c S t i q gs cpu per w) := by
  have HN := Lib.hid (fun W (hW : Chg [] w W) => none_any (h.quiet hW))
  have HM := Lib.hid (fun W => mayD_any 30 (.inl rfl) gs cpu per hc0 hp0 W)
  have HG := Lib.hid (fun W (hW : Chg [] w W) => Get_any (h.quiet hW) i q i0 i1)
  have HS := Lib.hid (fun W => share_any W (t.at_ i q) (hk.ok i q).sm)
  have HRM := Lib.hid (fun W => room_any W (t.at_ i q) (hk.ok i q).sm)
  have HH := Lib.hid h
  rw [hm] at HM
  have e0 : staleE t i q = 0 := by unfold staleE; rw [hq]; rfl
  rw [e0] at HG
  have HEE := Lib.hid (show carveE t i q gs cpu per = 3 by unfold carveE; rw [if_pos hm, if_pos hq, if_neg (fun h => h.elim g0 g1), if_pos hf])
  obtain ⟨g, hB, hput⟩ := put_dom_full h hf (kid i q gs cpu per)
  have HP := Lib.hid hput
  have HCB := Lib.hid (fun W (hW : Chg [] w W) => (hB.chg hW (by simp)).cell 0)
  have lc := hB.lt
  obtain ⟨x, hx⟩ : ∃ x, x = t.at_ i q := ⟨_, rfl⟩
  rw [← hx] at HG HS HRM g0 g1
  obtain ⟨rm, hrm⟩ : ∃ rm, rm = x.gs - x.cgs - x.own := ⟨_, rfl⟩
  obtain ⟨s0, hs0⟩ : ∃ s0, s0 = x.gs - x.cgs := ⟨_, rfl⟩
  obtain ⟨s1, hs1⟩ : ∃ s1, s1 = subS x.cpu x.car := ⟨_, rfl⟩
  rw [← hrm] at HRM g0
  rw [← hs1] at HS g1
  rw [← hs0] at HS
  have g9 : decide (rm < gs) = false := by simpa using g0
  have g8 : decide (s1 < cpu) = false := by simpa using g1
  clear hm hq e0 hx hrm hs0 hs1 h hk hf hput hB
  go_enter Try.func17, Try.ntmps17
  go_wp2_with (first
    | (go_at_call 48; refine (HN.out _ ((((Chg.refl _ _).alloc _).alloc _).alloc _ |>.alloc _)).mono ?_; rintro e w' ⟨rfl, rfl⟩)
    | (go_at_call 30; refine (HM.out _).mono ?_; rintro e w' ⟨rfl, rfl⟩)
    | (go_at_call 15; refine (HG.out _ ((((Chg.refl _ _).alloc _).alloc _).alloc _ |>.alloc _)).mono ?_; rintro e w1 ⟨rfl, hc⟩; have HB := Lib.hid (carve_boxes (i := i) (q := q) (gs := gs) (cpu := cpu) hc); have HC := Lib.hid ((((((Chg.refl [] w).alloc (obRef i q)).alloc (.cells #[.int .i64 gs] 3)).alloc (.cells #[.int .u64 cpu] 22)).alloc (obRef 0 0)).then hc); have hb := HB.out; obtain ⟨lb, b0, b1, b2, b3, d0, d1, df⟩ := carve_tell hb; clear hc hb)
    | (go_at_call 49; refine (HS.out _).mono ?_; rintro e w2 ⟨rfl, hc⟩; have HB2 := Lib.hid ((HB.out.alloc (obX x)).chg hc); have HX2 := Lib.hid ((Blk.new w1 45 x.arr).chg hc (by simp)); have HC2 := Lib.hid ((HC.out.alloc (obX x)).then hc); have hb := HB2.out; obtain ⟨lb2, b20, b21, b22, b23, d20, d21, d2f⟩ := carve_tell hb; obtain ⟨l2, k0, k1, k2, k3, k4, k5, k6, k7, k8, k9, k10, kf⟩ := x_facts HX2.out; clear hc hb))
  go_region_held3 (fun w' => (w'.cell? ⟨w.heap.size + 1, 0, none⟩ = some (.int .i64 gs) ∧ w'.cell? ⟨w.heap.size + 1 + 1, 0, none⟩ = some (.int .u64 cpu)) ∧ w'.cell? ⟨w1.heap.size, 0, none⟩ = some (.int .i64 x.pi) ∧ w'.cell? ⟨w1.heap.size, 1, none⟩ = some (.int .u64 x.pg) ∧ w'.cell? ⟨w1.heap.size, 2, none⟩ = some (.int .i64 x.gs) ∧ w'.cell? ⟨w1.heap.size, 3, none⟩ = some (.int .u64 x.cpu) ∧ w'.cell? ⟨w1.heap.size, 4, none⟩ = some (.int .u64 x.per) ∧ w'.cell? ⟨w1.heap.size, 5, none⟩ = some (.int .i64 x.cgs) ∧ w'.cell? ⟨w1.heap.size, 6, none⟩ = some (.int .u64 x.car) ∧ w'.cell? ⟨w1.heap.size, 7, none⟩ = some (.int .i64 x.own) ∧ w'.cell? ⟨w1.heap.size, 8, none⟩ = some (.int .i64 x.live) ∧ w'.cell? ⟨w1.heap.size, 9, none⟩ = some (.int .u64 x.used) ∧ w'.cell? ⟨w1.heap.size, 10, none⟩ = some (.int .i64 x.ch))
    (first | go_keep)
    (first | (go_at_call 50; refine (HRM.out _).mono ?_; rintro e w3 ⟨rfl, hc⟩; have HC3 := Lib.hid (HC2.out.drew.then hc); have HB3 := Lib.hid ((HB2.out.drew).chg hc); have hb := HB3.out; obtain ⟨lb3, b30, b31, b32, b33, d30, d31, d3f⟩ := carve_tell hb; obtain ⟨l3, m0, m1, m2, m3, m4, m5, m6, m7, m8, m9, m10, k3f⟩ := x_facts (HX2.out.drew.chg hc (by simp)); clear hc hb))
  go_wp2
  have cc := HCB.out _ HC3.out
  have lc3 : c < w3.heap.size := Nat.lt_of_lt_of_le lc HC3.out.size
  have nz0 : ¬ (w3.heap.size = c) := by omega
  have nz1 : ¬ (w3.heap.size = w.heap.size) := by omega
  have nz2 : ¬ (w3.heap.size = w.heap.size + 1) := by omega
  have nz3 : ¬ (w3.heap.size = w.heap.size + 1 + 1) := by omega
  have nz4 : ¬ (c = w3.heap.size) := by omega
  have nz5 : ¬ (w.heap.size = w3.heap.size) := by omega
  have nz6 : ¬ (w.heap.size + 1 = w3.heap.size) := by omega
  have nz7 : ¬ (w.heap.size + 1 + 1 = w3.heap.size) := by omega
  have nz8 : ¬ (w.heap.size + 1 + 1 + 1 = w3.heap.size) := by omega
  have nz9 : ¬ (w3.heap.size = w.heap.size + 1 + 1 + 1) := by omega
  go_region_held3 (fun w' => w'.cell? ⟨c, 0, none⟩ = some (ptr g) ∧ w'.cell? ⟨w.heap.size, 0, none⟩ = some (.int .i64 i) ∧ w'.cell? ⟨w.heap.size, 1, none⟩ = some (.int .u64 q) ∧ w'.cell? ⟨w.heap.size + 1, 0, none⟩ = some (.int .i64 gs) ∧ w'.cell? ⟨w.heap.size + 1 + 1, 0, none⟩ = some (.int .u64 cpu))
    (first | go_keep)
    (first
      | (go_at_call 32; refine (HP.out _ HC3.out.drew).mono ?_; rintro e w4 ⟨rfl, hc⟩; have HC4 := Lib.hid (HC3.out.drew.then hc); have cc4 := HCB.out _ HC4.out; have hb := HB3.out.drew.chg hc; obtain ⟨lb4, b40, b41, b42, b43, d40, d41, d4f⟩ := carve_tell hb; clear hc hb)
      | (go_at_call 32; refine (HP.out _ ((HC3.out.alloc _).drew)).mono ?_; rintro e w4 ⟨rfl, hc⟩; have HC4 := Lib.hid ((HC3.out.alloc _).drew.then hc); have cc4 := HCB.out _ HC4.out; have hn4 := (Blk.new w3 34 #[.int .i64 0, .int .u64 0]).drew.chg hc (by simp); have n40 := hn4.cell 0; have n41 := hn4.cell 1; have n4f := hn4.frozen; have l4 := hn4.lt; have hb := (HB3.out.alloc (obRef 0 0)).drew.chg hc; obtain ⟨lb4, b40, b41, b42, b43, d40, d41, d4f⟩ := carve_tell hb; clear hc hb hn4))
  all_goals
    go_wp2
    refine bodyPost_ret (v := .tuple #[.agg #[.int .i64 0, .int .u64 0], .int .i64 3]) (by simp [results, Try.results17, go_sem, d40, d41, lb4]) rfl (CvOut.no (by omega) HEE.out HH.out (by repeat' (first | with_reducible exact HC4.out | with_reducible apply Chg.alloc | with_reducible apply Chg.drew | with_reducible apply Chg.setCell | (with_reducible refine Or.inr ?_; dsimp only; omega))))
end Go.Proofs
end
section
namespace Go.Proofs
open Go.RowKit
set_option linter.unusedVariables false
set_option linter.unusedSimpArgs false

theorem mayD_iff {gs cpu per : Int} : mayD gs cpu per = true ↔ 0 ≤ gs ∧ gs ≤ 64 ∧ cpu ≤ 4294967296 ∧ 1 ≤ per ∧ per ≤ 4294967296 := by unfold mayD; simp [and_assoc]
theorem cv_final {w w6 : World} {c b : Nat} {S S4 : List Nat} {t2 : Tab Dm} (h : DomAt w6 c S4 t2) (hS : ∀ k ∈ S4, k ∈ S ∨ w.heap.size ≤ k) (hc : Chg S w w6) (hb : w.heap.size ≤ b) (hn : b ∉ c :: S4) (u v : Value) :
    DomTurns c S t2 w ((w6.setCell ⟨b, 0, none⟩ u).setCell ⟨b, 1, none⟩ v) := by
  have h1 : Chg [b] w6 ((w6.setCell ⟨b, 0, none⟩ u).setCell ⟨b, 1, none⟩ v) := ((Chg.refl _ _).setCell (.inl (by simp)) _).setCell (.inl (by simp)) _
  refine ⟨S4, h.chg h1 (fun e => hn (by simp at e; simp [e])) (fun k hk e => hn (by simp at e; simp [← e, hk])), hS, hc.trans h1 (fun k hk => by simp at hk; subst hk; exact .inr hb)⟩
theorem carve_change {W : World} {c : Nat} {S : List Nat} {t : Tab Dm} {i q gs cpu per : Int} {b : Nat} (h : DomAt W c S (t.put dm0 (kid i q gs cpu per))) (hk : t.Oks ∧ t.WF) (i0 : -9223372036854775808 ≤ i) (i1 : i ≤ 9223372036854775807)
    (hm : mayD gs cpu per = true ∧ 0 ≤ cpu) (hq : t.has i q = true) (hf : t.frees ≠ 0) (hG : Blk W (b + 1) 3 #[.int .i64 gs]) (hC : Blk W (b + 1 + 1) 22 #[.int .u64 cpu]) :
    Calls Try.prog 51 #[ptr c, .agg #[.int .i64 i, .int .u64 q], .func (.func 52) #[] #[ptr (b + 1), ptr (b + 1 + 1)]] W fun e w' => e = .returned (.int .i64 0) ∧ DomAt w' c S (carveT t i q gs cpu per) ∧ Chg S W w' := by
  have e0 : staleE (t.put dm0 (kid i q gs cpu per)) i q = 0 := by unfold staleE; rw [put_has hk.2 hf _ hq]; rfl
  have := change_any h i q i0 i1 (carve_how W.heap.size (b + 1) (b + 1 + 1) gs cpu) (Nat.le_refl _) (fun W' hW' => ⟨hG.chg hW' (by simp), hC.chg hW' (by simp)⟩) (fun _ => by
    rw [put_at_old hk.2 hf _ hq]
    have a := hk.1.ok i q
    obtain ⟨m0, m1, m2, m3, m4⟩ := mayD_iff.1 hm.1
    have := a.cgs; have := a.car; have := a.cpu; have := a.ch
    omega)
  rw [e0] at this
  exact this
theorem cv_mid {w W w4 : World} {c : Nat} {S S4 : List Nat} {t' : Tab Dm} {g : Nat} (hlt : ∀ k ∈ c :: S, k < w.heap.size) (hC : Chg [] w W) (hd : DomAt w4 c S4 t') (hs : ∀ k ∈ S4, k ∈ S ∨ W.heap.size ≤ k) (hc : Chg S W w4) (hcell : W.cell? ⟨c, 0, none⟩ = some (ptr g)) (hcS : c ∉ S) :
    DomAt w4 c S4 t' ∧ (∀ k ∈ S4, k ∈ S ∨ W.heap.size ≤ k) ∧ Chg S w w4 ∧ w4.cell? ⟨c, 0, none⟩ = some (ptr g) :=
  ⟨hd, hs, hC.any.trans hc (fun k hk => .inl hk), (hc.cell (p := ⟨c, 0, none⟩) (Nat.lt_of_lt_of_le (hlt c (by simp)) hC.size) hcS).trans hcell⟩
set_option maxRecDepth 100000 in
set_option maxHeartbeats 6400000 in
theorem Carve_ok {w : World} {c : Nat} {S : List Nat} {t : Tab Dm} (h : DomAt w c S t) (hk : t.Oks) {i q gs cpu per : Int} (i0 : -9223372036854775808 ≤ i) (i1 : i ≤ 9223372036854775807) (hc0 : 0 ≤ cpu) (hp0 : 0 ≤ per)
    (hm : mayD gs cpu per = true) (hq : t.has i q = true) (g0 : ¬ (t.at_ i q).gs - (t.at_ i q).cgs - (t.at_ i q).own < gs) (g1 : ¬ subS (t.at_ i q).cpu (t.at_ i q).car < cpu) (hf : t.frees ≠ 0) :
    Calls Try.prog 17 #[ptr c, .agg #[.int .i64 i, .int .u64 q], .int .i64 gs, .int .u64 cpu, .int .u64 per] w (CvOut c S t i q gs cpu per w) := by
  have HN := Lib.hid (fun W (hW : Chg [] w W) => none_any (h.quiet hW))
  have HM := Lib.hid (fun W => mayD_any 30 (.inl rfl) gs cpu per hc0 hp0 W)
  have HG := Lib.hid (fun W (hW : Chg [] w W) => Get_any (h.quiet hW) i q i0 i1)
  have HS := Lib.hid (fun W => share_any W (t.at_ i q) (hk.ok i q).sm)
  have HRM := Lib.hid (fun W => room_any W (t.at_ i q) (hk.ok i q).sm)
  have HH := Lib.hid h
  rw [hm] at HM
  have e0 : staleE t i q = 0 := by unfold staleE; rw [hq]; rfl
  rw [e0] at HG
  have HEE := Lib.hid (show carveE t i q gs cpu per = 0 by unfold carveE; rw [if_pos hm, if_pos hq, if_neg (fun h => h.elim g0 g1), if_neg hf])
  have HK := Lib.hid (show t.Oks ∧ t.WF from ⟨hk, h.wf⟩)
  have HMD := Lib.hid (show mayD gs cpu per = true ∧ 0 ≤ cpu from ⟨hm, hc0⟩)
  have HQ := Lib.hid hq
  have HF0 := Lib.hid hf
  obtain ⟨g, hB, hput⟩ := put_dom h hf (kid i q gs cpu per)
  have HP := Lib.hid hput
  have HLT := Lib.hid h.lt
  have HNS := Lib.hid h.not_mem
  have HCB := Lib.hid (fun W (hW : Chg [] w W) => (hB.chg hW (by simp)).cell 0)
  have lc := hB.lt
  obtain ⟨x, hx⟩ : ∃ x, x = t.at_ i q := ⟨_, rfl⟩
  rw [← hx] at HG HS HRM g0 g1
  obtain ⟨rm, hrm⟩ : ∃ rm, rm = x.gs - x.cgs - x.own := ⟨_, rfl⟩
  obtain ⟨s0, hs0⟩ : ∃ s0, s0 = x.gs - x.cgs := ⟨_, rfl⟩
  obtain ⟨s1, hs1⟩ : ∃ s1, s1 = subS x.cpu x.car := ⟨_, rfl⟩
  rw [← hrm] at HRM g0
  rw [← hs1] at HS g1
  rw [← hs0] at HS
  have g9 : decide (rm < gs) = false := by simpa using g0
  have g8 : decide (s1 < cpu) = false := by simpa using g1
  clear hm hq e0 hx hrm hs0 hs1 h hk hf hput hB
  go_enter Try.func17, Try.ntmps17
  go_wp2_with (first
    | (go_at_call 48; refine (HN.out _ ((((Chg.refl _ _).alloc _).alloc _).alloc _ |>.alloc _)).mono ?_; rintro e w' ⟨rfl, rfl⟩)
    | (go_at_call 30; refine (HM.out _).mono ?_; rintro e w' ⟨rfl, rfl⟩)
    | (go_at_call 15; refine (HG.out _ ((((Chg.refl _ _).alloc _).alloc _).alloc _ |>.alloc _)).mono ?_; rintro e w1 ⟨rfl, hc⟩; have HB := Lib.hid (carve_boxes (i := i) (q := q) (gs := gs) (cpu := cpu) hc); have HC := Lib.hid ((((((Chg.refl [] w).alloc (obRef i q)).alloc (.cells #[.int .i64 gs] 3)).alloc (.cells #[.int .u64 cpu] 22)).alloc (obRef 0 0)).then hc); have hb := HB.out; obtain ⟨lb, b0, b1, b2, b3, d0, d1, df⟩ := carve_tell hb; clear hc hb)
    | (go_at_call 49; refine (HS.out _).mono ?_; rintro e w2 ⟨rfl, hc⟩; have HB2 := Lib.hid ((HB.out.alloc (obX x)).chg hc); have HX2 := Lib.hid ((Blk.new w1 45 x.arr).chg hc (by simp)); have HC2 := Lib.hid ((HC.out.alloc (obX x)).then hc); have hb := HB2.out; obtain ⟨lb2, b20, b21, b22, b23, d20, d21, d2f⟩ := carve_tell hb; obtain ⟨l2, k0, k1, k2, k3, k4, k5, k6, k7, k8, k9, k10, kf⟩ := x_facts HX2.out; clear hc hb))
  go_region_held3 (fun w' => (w'.cell? ⟨w.heap.size + 1, 0, none⟩ = some (.int .i64 gs) ∧ w'.cell? ⟨w.heap.size + 1 + 1, 0, none⟩ = some (.int .u64 cpu)) ∧ w'.cell? ⟨w1.heap.size, 0, none⟩ = some (.int .i64 x.pi) ∧ w'.cell? ⟨w1.heap.size, 1, none⟩ = some (.int .u64 x.pg) ∧ w'.cell? ⟨w1.heap.size, 2, none⟩ = some (.int .i64 x.gs) ∧ w'.cell? ⟨w1.heap.size, 3, none⟩ = some (.int .u64 x.cpu) ∧ w'.cell? ⟨w1.heap.size, 4, none⟩ = some (.int .u64 x.per) ∧ w'.cell? ⟨w1.heap.size, 5, none⟩ = some (.int .i64 x.cgs) ∧ w'.cell? ⟨w1.heap.size, 6, none⟩ = some (.int .u64 x.car) ∧ w'.cell? ⟨w1.heap.size, 7, none⟩ = some (.int .i64 x.own) ∧ w'.cell? ⟨w1.heap.size, 8, none⟩ = some (.int .i64 x.live) ∧ w'.cell? ⟨w1.heap.size, 9, none⟩ = some (.int .u64 x.used) ∧ w'.cell? ⟨w1.heap.size, 10, none⟩ = some (.int .i64 x.ch))
    (first | go_keep)
    (first | (go_at_call 50; refine (HRM.out _).mono ?_; rintro e w3 ⟨rfl, hc⟩; have HC3 := Lib.hid (HC2.out.drew.then hc); have HB3 := Lib.hid ((HB2.out.drew).chg hc); have hb := HB3.out; obtain ⟨lb3, b30, b31, b32, b33, d30, d31, d3f⟩ := carve_tell hb; obtain ⟨l3, m0, m1, m2, m3, m4, m5, m6, m7, m8, m9, m10, k3f⟩ := x_facts (HX2.out.drew.chg hc (by simp)); clear hc hb))
  go_wp2
  have cc := HCB.out _ HC3.out
  have lc3 : c < w3.heap.size := Nat.lt_of_lt_of_le lc HC3.out.size
  have nz0 : ¬ (w3.heap.size = c) := by omega
  have nz1 : ¬ (w3.heap.size = w.heap.size) := by omega
  have nz2 : ¬ (w3.heap.size = w.heap.size + 1) := by omega
  have nz3 : ¬ (w3.heap.size = w.heap.size + 1 + 1) := by omega
  have nz4 : ¬ (c = w3.heap.size) := by omega
  have nz5 : ¬ (w.heap.size = w3.heap.size) := by omega
  have nz6 : ¬ (w.heap.size + 1 = w3.heap.size) := by omega
  have nz7 : ¬ (w.heap.size + 1 + 1 = w3.heap.size) := by omega
  have nz8 : ¬ (w.heap.size + 1 + 1 + 1 = w3.heap.size) := by omega
  have nz9 : ¬ (w3.heap.size = w.heap.size + 1 + 1 + 1) := by omega
  go_region_held3 (fun w' => w'.cell? ⟨c, 0, none⟩ = some (ptr g) ∧ w'.cell? ⟨w.heap.size, 0, none⟩ = some (.int .i64 i) ∧ w'.cell? ⟨w.heap.size, 1, none⟩ = some (.int .u64 q) ∧ w'.cell? ⟨w.heap.size + 1, 0, none⟩ = some (.int .i64 gs) ∧ w'.cell? ⟨w.heap.size + 1 + 1, 0, none⟩ = some (.int .u64 cpu))
    (first | go_keep)
    (first
      | (go_at_call 32; refine (HP.out _ HC3.out.drew).mono ?_; rintro e w4 ⟨rfl, S4, hd4, hs4, hc4⟩; have HW := Lib.hid (cv_mid HLT.out HC3.out.drew hd4 hs4 hc4 (HCB.out _ HC3.out.drew) HNS.out); have HCB4 := Lib.hid (HB3.out.drew.chgS hc4 (fun k hk => HLT.out k (List.mem_cons_of_mem _ hk))); obtain ⟨lb4, b40, b41, b42, b43, d40, d41, d4f⟩ := carve_tell HCB4.out; have cc4 := HW.out.2.2.2; clear hd4 hs4 hc4)
      | (go_at_call 32; refine (HP.out _ ((HC3.out.alloc _).drew)).mono ?_; rintro e w4 ⟨rfl, S4, hd4, hs4, hc4⟩; have HW := Lib.hid (cv_mid HLT.out ((HC3.out.alloc (obRef 0 0)).drew) hd4 hs4 hc4 (HCB.out _ ((HC3.out.alloc (obRef 0 0)).drew)) HNS.out); have HCB4 := Lib.hid ((HB3.out.alloc (obRef 0 0)).drew.chgS hc4 (fun k hk => HLT.out k (List.mem_cons_of_mem _ hk))); obtain ⟨lb4, b40, b41, b42, b43, d40, d41, d4f⟩ := carve_tell HCB4.out; have cc4 := HW.out.2.2.2; have HN4 := Lib.hid ((Blk.new w3 34 #[.int .i64 0, .int .u64 0]).drew.chg hc4 (fun hm => by have := HLT.out _ (List.mem_cons_of_mem _ hm); omega)); have n40 := HN4.out.cell 0; have n41 := HN4.out.cell 1; have n4f := HN4.out.frozen; have l4 := HN4.out.lt; clear hd4 hs4 hc4))
  · go_wp2
    have hst : ∀ k ∈ S4, k ∈ S ∨ w.heap.size ≤ k := fun k hk => (HW.out.2.1 k hk).imp id (fun h => by have := HC3.out.size; simp at h; omega)
    have hbx := Blk.new w4 34 #[.int .i64 (t.takeAt : Nat), .int .u64 (t.genAt t.takeAt)]
    have hcb := HCB4.out.alloc (.cells #[.int .i64 (t.takeAt : Nat), .int .u64 (t.genAt t.takeAt)] 34)
    have hd5 := HW.out.1.quiet ((Chg.refl [] w4).alloc (.cells #[.int .i64 (t.takeAt : Nat), .int .u64 (t.genAt t.takeAt)] 34))
    have hc5 := HW.out.2.2.1.then ((Chg.refl [] w4).alloc (.cells #[.int .i64 (t.takeAt : Nat), .int .u64 (t.genAt t.takeAt)] 34))
    have hnb : ¬ (w4.heap.size = w.heap.size + 1 + 1 + 1) := by omega
    obtain ⟨W5, hW5⟩ : ∃ W5, W5 = w4.alloc (.cells #[.int .i64 (t.takeAt : Nat), .int .u64 (t.genAt t.takeAt)] 34) := ⟨_, rfl⟩
    rw [← hW5] at hbx hcb hd5 hc5 ⊢
    clear hW5
    obtain ⟨bx, hbxe⟩ : ∃ bx, bx = w4.heap.size := ⟨_, rfl⟩
    rw [← hbxe] at hbx hnb ⊢
    clear hbxe
    obtain ⟨K0, hK0⟩ : ∃ K0 : Int, K0 = (t.takeAt : Nat) := ⟨_, rfl⟩
    obtain ⟨G0, hG0⟩ : ∃ G0, G0 = t.genAt t.takeAt := ⟨_, rfl⟩
    rw [← hK0, ← hG0] at hbx ⊢
    have HK0 := Lib.hid hK0
    have HG0 := Lib.hid hG0
    have hbS : bx ∉ c :: S4 := hd5.ne_ty hbx (by decide) (by decide) (by decide) (by decide)
    have hrS : w.heap.size ∉ c :: S4 := hd5.ne_ty hcb.1 (by decide) (by decide) (by decide) (by decide)
    have htS : w.heap.size + 1 + 1 + 1 ∉ c :: S4 := hd5.ne_ty hcb.2.2.2 (by decide) (by decide) (by decide) (by decide)
    have HF := Lib.hid (fun (w6 : World) (t2 : Tab Dm) (u v : Value) (h6 : DomAt w6 c S4 t2) (hc6 : Chg S4 W5.drew w6) => cv_final h6 hst (hc5.drew.trans hc6 hst) (show w.heap.size ≤ w.heap.size + 1 + 1 + 1 by omega) htS u v)
    have HCH := Lib.hid (carve_change (hd5.quiet ((Chg.refl _ _).drew)) HK.out i0 i1 HMD.out HQ.out HF0.out (hcb.2.1.drew) (hcb.2.2.1.drew))
    have HBX := Lib.hid (fun (w6 : World) (hc6 : Chg S4 W5.drew w6) => (show Blk w6 bx 34 #[.int .i64 K0, .int .u64 G0] from (hbx.drew).chg hc6 (fun h => hbS (List.mem_cons_of_mem _ h))))
    have HRX := Lib.hid (fun (w6 : World) (hc6 : Chg S4 W5.drew w6) => (show Blk w6 w.heap.size 34 #[.int .i64 i, .int .u64 q] from (hcb.1.drew).chg hc6 (fun h => hrS (List.mem_cons_of_mem _ h))))
    have HTX := Lib.hid (fun (w6 : World) (hc6 : Chg S4 W5.drew w6) => (show Blk w6 (w.heap.size + 1 + 1 + 1) 34 #[.int .i64 0, .int .u64 0] from (hcb.2.2.2.drew).chg hc6 (fun h => htS (List.mem_cons_of_mem _ h))))
    have x0 := hbx.cell 0
    have x1 := hbx.cell 1
    have y0 := hcb.1.cell 0
    have y1 := hcb.1.cell 1
    have nb3 : ¬ (bx = w.heap.size + 1 + 1 + 1) := hnb
    have nb4 : ¬ (w.heap.size + 1 + 1 + 1 = bx) := fun e => hnb e.symm
    have nb5 : ¬ (w.heap.size + 1 + 1 + 1 = w.heap.size) := by omega
    have nb6 : ¬ (w.heap.size = w.heap.size + 1 + 1 + 1) := by omega
    clear hd5 hbx hcb hc5 hbS hrS htS hst hK0 hG0 hnb
    clear HB HC HB2 HX2 HC2 HB3 HC3 HW HCB4 HCB HP HN HM HG HS HRM HH
    go_region_held3 (fun w' => w'.cell? ⟨bx, 0, none⟩ = some (.int .i64 K0) ∧ w'.cell? ⟨bx, 1, none⟩ = some (.int .u64 G0) ∧ w'.cell? ⟨w.heap.size, 0, none⟩ = some (.int .i64 i) ∧ w'.cell? ⟨w.heap.size, 1, none⟩ = some (.int .u64 q))
      (first | go_keep)
      (first
        | (go_at_call 51; refine (HCH.out).mono ?_; rintro e w6 ⟨rfl, hd6, hc6⟩; have z0 := (HBX.out _ hc6).cell 0; have z1 := (HBX.out _ hc6).cell 1; have z2 := (HRX.out _ hc6).cell 0; have z3 := (HRX.out _ hc6).cell 1; have z4 := (HTX.out _ hc6).cell 0; have z5 := (HTX.out _ hc6).cell 1; have z6 := (HTX.out _ hc6).frozen; have z7 := (HTX.out _ hc6).lt; have HD6 := Lib.hid hd6; have HC6 := Lib.hid hc6; clear hd6 hc6))
    all_goals
      go_wp2
      refine bodyPost_ret (v := .tuple #[.agg #[.int .i64 K0, .int .u64 G0], .int .i64 0]) (by simp [results, Try.results17, go_sem, z4, z5, z7]) rfl (.inr ⟨HEE.out, by rw [HK0.out, HG0.out], ?_⟩)
      first | exact HF.out _ _ _ _ HD6.out HC6.out | (trace_state; fail)
  · go_wp2
    have hst : ∀ k ∈ S4, k ∈ S ∨ w.heap.size ≤ k := fun k hk => (HW.out.2.1 k hk).imp id (fun h => by have := HC3.out.size; simp at h; omega)
    have h45 : Chg [w3.heap.size] w4 ((w4.setCell ⟨w3.heap.size, 0, none⟩ (.int .i64 (t.takeAt : Nat))).setCell ⟨w3.heap.size, 1, none⟩ (.int .u64 (t.genAt t.takeAt))) := ((Chg.refl _ _).setCell (.inl (by simp)) _).setCell (.inl (by simp)) _
    have h3S : w3.heap.size ∉ c :: S4 := HW.out.1.ne_ty HN4.out (by decide) (by decide) (by decide) (by decide)
    have hbx : Blk ((w4.setCell ⟨w3.heap.size, 0, none⟩ (.int .i64 (t.takeAt : Nat))).setCell ⟨w3.heap.size, 1, none⟩ (.int .u64 (t.genAt t.takeAt))) w3.heap.size 34 #[.int .i64 (t.takeAt : Nat), .int .u64 (t.genAt t.takeAt)] := (HN4.out.set_ 0 _).set_ 1 _
    have hcb : CvBoxes w.heap.size i q gs cpu ((w4.setCell ⟨w3.heap.size, 0, none⟩ (.int .i64 (t.takeAt : Nat))).setCell ⟨w3.heap.size, 1, none⟩ (.int .u64 (t.genAt t.takeAt))) := ⟨HCB4.out.1.chg h45 (by simp; omega), HCB4.out.2.1.chg h45 (by simp; omega), HCB4.out.2.2.1.chg h45 (by simp; omega), HCB4.out.2.2.2.chg h45 (by simp; omega)⟩
    have hd5 : DomAt ((w4.setCell ⟨w3.heap.size, 0, none⟩ (.int .i64 (t.takeAt : Nat))).setCell ⟨w3.heap.size, 1, none⟩ (.int .u64 (t.genAt t.takeAt))) c S4 (t.put dm0 (kid i q gs cpu per)) := HW.out.1.chg h45 (fun e => h3S (by simp at e; simp [e])) (fun k hk e => h3S (by simp at e; simp [← e, hk]))
    have hc5 : Chg S w ((w4.setCell ⟨w3.heap.size, 0, none⟩ (.int .i64 (t.takeAt : Nat))).setCell ⟨w3.heap.size, 1, none⟩ (.int .u64 (t.genAt t.takeAt))) := HW.out.2.2.1.trans h45 (fun k hk => by simp at hk; subst hk; right; have := HC3.out.size; omega)
    have hnb : ¬ (w3.heap.size = w.heap.size + 1 + 1 + 1) := by omega
    clear h45 h3S HN4 n40 n41 n4f
    obtain ⟨W5, hW5⟩ : ∃ W5, W5 = (w4.setCell ⟨w3.heap.size, 0, none⟩ (.int .i64 (t.takeAt : Nat))).setCell ⟨w3.heap.size, 1, none⟩ (.int .u64 (t.genAt t.takeAt)) := ⟨_, rfl⟩
    rw [← hW5] at hbx hcb hd5 hc5 ⊢
    clear hW5
    obtain ⟨bx, hbxe⟩ : ∃ bx, bx = w3.heap.size := ⟨_, rfl⟩
    rw [← hbxe] at hbx hnb ⊢
    clear hbxe
    obtain ⟨K0, hK0⟩ : ∃ K0 : Int, K0 = (t.takeAt : Nat) := ⟨_, rfl⟩
    obtain ⟨G0, hG0⟩ : ∃ G0, G0 = t.genAt t.takeAt := ⟨_, rfl⟩
    rw [← hK0, ← hG0] at hbx ⊢
    have HK0 := Lib.hid hK0
    have HG0 := Lib.hid hG0
    have hbS : bx ∉ c :: S4 := hd5.ne_ty hbx (by decide) (by decide) (by decide) (by decide)
    have hrS : w.heap.size ∉ c :: S4 := hd5.ne_ty hcb.1 (by decide) (by decide) (by decide) (by decide)
    have htS : w.heap.size + 1 + 1 + 1 ∉ c :: S4 := hd5.ne_ty hcb.2.2.2 (by decide) (by decide) (by decide) (by decide)
    have HF := Lib.hid (fun (w6 : World) (t2 : Tab Dm) (u v : Value) (h6 : DomAt w6 c S4 t2) (hc6 : Chg S4 W5.drew w6) => cv_final h6 hst (hc5.drew.trans hc6 hst) (show w.heap.size ≤ w.heap.size + 1 + 1 + 1 by omega) htS u v)
    have HCH := Lib.hid (carve_change (hd5.quiet ((Chg.refl _ _).drew)) HK.out i0 i1 HMD.out HQ.out HF0.out (hcb.2.1.drew) (hcb.2.2.1.drew))
    have HBX := Lib.hid (fun (w6 : World) (hc6 : Chg S4 W5.drew w6) => (show Blk w6 bx 34 #[.int .i64 K0, .int .u64 G0] from (hbx.drew).chg hc6 (fun h => hbS (List.mem_cons_of_mem _ h))))
    have HRX := Lib.hid (fun (w6 : World) (hc6 : Chg S4 W5.drew w6) => (show Blk w6 w.heap.size 34 #[.int .i64 i, .int .u64 q] from (hcb.1.drew).chg hc6 (fun h => hrS (List.mem_cons_of_mem _ h))))
    have HTX := Lib.hid (fun (w6 : World) (hc6 : Chg S4 W5.drew w6) => (show Blk w6 (w.heap.size + 1 + 1 + 1) 34 #[.int .i64 0, .int .u64 0] from (hcb.2.2.2.drew).chg hc6 (fun h => htS (List.mem_cons_of_mem _ h))))
    have x0 := hbx.cell 0
    have x1 := hbx.cell 1
    have y0 := hcb.1.cell 0
    have y1 := hcb.1.cell 1
    have nb3 : ¬ (bx = w.heap.size + 1 + 1 + 1) := hnb
    have nb4 : ¬ (w.heap.size + 1 + 1 + 1 = bx) := fun e => hnb e.symm
    have nb5 : ¬ (w.heap.size + 1 + 1 + 1 = w.heap.size) := by omega
    have nb6 : ¬ (w.heap.size = w.heap.size + 1 + 1 + 1) := by omega
    clear hd5 hbx hcb hc5 hbS hrS htS hst hK0 hG0 hnb
    clear HB HC HB2 HX2 HC2 HB3 HC3 HW HCB4 HCB HP HN HM HG HS HRM HH
    go_region_held3 (fun w' => w'.cell? ⟨bx, 0, none⟩ = some (.int .i64 K0) ∧ w'.cell? ⟨bx, 1, none⟩ = some (.int .u64 G0) ∧ w'.cell? ⟨w.heap.size, 0, none⟩ = some (.int .i64 i) ∧ w'.cell? ⟨w.heap.size, 1, none⟩ = some (.int .u64 q))
      (first | go_keep)
      (first
        | (go_at_call 51; refine (HCH.out).mono ?_; rintro e w6 ⟨rfl, hd6, hc6⟩; have z0 := (HBX.out _ hc6).cell 0; have z1 := (HBX.out _ hc6).cell 1; have z2 := (HRX.out _ hc6).cell 0; have z3 := (HRX.out _ hc6).cell 1; have z4 := (HTX.out _ hc6).cell 0; have z5 := (HTX.out _ hc6).cell 1; have z6 := (HTX.out _ hc6).frozen; have z7 := (HTX.out _ hc6).lt; have HD6 := Lib.hid hd6; have HC6 := Lib.hid hc6; clear hd6 hc6))
    all_goals
      go_wp2
      refine bodyPost_ret (v := .tuple #[.agg #[.int .i64 K0, .int .u64 G0], .int .i64 0]) (by simp [results, Try.results17, go_sem, z4, z5, z7]) rfl (.inr ⟨HEE.out, by rw [HK0.out, HG0.out], ?_⟩)
      first | exact HF.out _ _ _ _ HD6.out HC6.out | (trace_state; fail)
end Go.Proofs
end
section
namespace Go.Proofs
open Go.RowKit
set_option linter.unusedVariables false
set_option linter.unusedSimpArgs false

theorem Carve_any {w : World} {c : Nat} {S : List Nat} {t : Tab Dm} (h : DomAt w c S t) (hk : t.Oks) {i q gs cpu per : Int} (i0 : -9223372036854775808 ≤ i) (i1 : i ≤ 9223372036854775807) (hc0 : 0 ≤ cpu) (hp0 : 0 ≤ per) :
    Calls Try.prog 17 #[ptr c, .agg #[.int .i64 i, .int .u64 q], .int .i64 gs, .int .u64 cpu, .int .u64 per] w (CvOut c S t i q gs cpu per w) := by
  cases hm : mayD gs cpu per with
  | false => exact Carve_no h hk i0 i1 hc0 hp0 (.inl (by unfold carveE; rw [hm]; rfl))
  | true =>
    cases hq : t.has i q with
    | false => exact Carve_no h hk i0 i1 hc0 hp0 (.inr (.inl (by unfold carveE; rw [hm, hq]; rfl)))
    | true =>
      by_cases g : (t.at_ i q).gs - (t.at_ i q).cgs - (t.at_ i q).own < gs ∨ subS (t.at_ i q).cpu (t.at_ i q).car < cpu
      · exact Carve_no h hk i0 i1 hc0 hp0 (.inr (.inr (by unfold carveE; rw [if_pos hm, if_pos hq, if_pos g])))
      · by_cases hf : t.frees = 0
        · exact Carve_full h hk i0 i1 hc0 hp0 hm hq (fun h => g (.inl h)) (fun h => g (.inr h)) hf
        · exact Carve_ok h hk i0 i1 hc0 hp0 hm hq (fun h => g (.inl h)) (fun h => g (.inr h)) hf

/-! ### What a drop leaves -/
theorem drop_live {t : Tab Dm} {i : Nat} {g : Int} (hi : i < t.spots.length) (j : Int) : (t.drop dm0 i g).live j = if j = (i : Nat) then none else t.live j := by
  by_cases j0 : 0 ≤ j
  · obtain ⟨m, rfl⟩ := Int.eq_ofNat_of_zero_le j0
    unfold Tab.live Tab.spot?
    simp only [j0, if_true, Int.toNat_natCast, drop_spots hi]
    by_cases e : m = i
    · subst e; simp
    · have e' : ¬ ((m : Nat) : Int) = (i : Nat) := by omega
      rw [if_neg e, if_neg e']
  · have e' : ¬ j = (i : Nat) := by omega
    rw [if_neg e']
    unfold Tab.live Tab.spot?
    simp [j0]
theorem drop_has {t : Tab Dm} {i : Nat} {g : Int} (hi : i < t.spots.length) (j r : Int) : (t.drop dm0 i g).has j r = if j = (i : Nat) then false else t.has j r := by
  unfold Tab.has
  rw [drop_live hi]
  by_cases e : j = (i : Nat)
  · rw [if_pos e, if_pos e]
  · rw [if_neg e, if_neg e]
theorem drop_at {t : Tab Dm} {i : Nat} {g : Int} (hi : i < t.spots.length) (j r : Int) : (t.drop dm0 i g).at_ j r = if j = (i : Nat) then dm0 else t.at_ j r := by
  unfold Tab.at_
  rw [drop_live hi]
  by_cases e : j = (i : Nat)
  · rw [if_pos e, if_pos e]
  · rw [if_neg e, if_neg e]
theorem drop_dom {w : World} {c : Nat} {S : List Nat} {t : Tab Dm} (h : DomAt w c S t) {i q : Int} (hq : t.has i q = true) (hr : q + 1 < topG) :
    ∃ g, Blk w c 62 #[ptr g] ∧ ∀ W, Chg [] w W → Calls Try.prog 54 #[ptr g, .agg #[.int .i64 i, .int .u64 q]] W fun e w' => e = .returned (.int .i64 0) ∧ DomTurns c S (t.drop dm0 i.toNat q) W w' := by
  obtain ⟨g, hB, hT, hW⟩ := h
  refine ⟨g, hB, fun W hc => ?_⟩
  refine (drop_yes_C (hT.quiet hc) hW hq hr).mono ?_
  rintro e w' ⟨he, S', h1, h2, h3⟩
  obtain ⟨s, hl, rfl⟩ := has_iff.1 hq
  obtain ⟨i0, hs, hth⟩ := live_iff.1 hl
  obtain ⟨k, rfl⟩ := Int.eq_ofNat_of_zero_le i0
  exact ⟨he, S', ⟨g, (hB.chg hc (by simp)).chg h3 (hT.not_dom hB), h1, hW.drop hs hth⟩, h2, h3⟩
def mergeE (t : Tab Dm) (i q : Int) : Int := if t.has i q then (if (t.at_ i q).pg = 0 then 2 else (if 0 < (t.at_ i q).live ∨ 0 < (t.at_ i q).ch then 14 else 0)) else 11
def mergeT (t : Tab Dm) (i q : Int) : Tab Dm := (t.drop dm0 i.toNat q).upd (t.at_ i q).pi (t.at_ i q).pg (fun x => { x with cgs := x.cgs - (t.at_ i q).gs, car := x.car - (t.at_ i q).cpu, ch := x.ch - 1 })
set_option maxRecDepth 100000 in
set_option maxHeartbeats 3200000 in
theorem Merge_no {w : World} {c : Nat} {S : List Nat} {t : Tab Dm} (h : DomAt w c S t) {i q : Int} (i0 : -9223372036854775808 ≤ i) (i1 : i ≤ 9223372036854775807) (he : mergeE t i q ≠ 0) :
    Calls Try.prog 18 #[ptr c, .agg #[.int .i64 i, .int .u64 q]] w fun e w' => e = .returned (.int .i64 (mergeE t i q)) ∧ Chg [] w w' := by
  have HG := Lib.hid (fun W (hW : Chg [] w W) => Get_any (h.quiet hW) i q i0 i1)
  unfold mergeE at he ⊢
  obtain ⟨x, hx⟩ : ∃ x, x = t.at_ i q := ⟨_, rfl⟩
  rw [← hx] at HG he ⊢
  clear hx h
  cases hq : t.has i q with
  | false =>
    have e0 : staleE t i q = 11 := by unfold staleE; rw [hq]; rfl
    rw [e0] at HG
    clear e0 hq he
    simp only [Bool.false_eq_true, if_false]
    go_enter Try.func18, Try.ntmps18
    go_wp2_with (first | (go_at_call 15; refine (HG.out _ ((Chg.refl _ _).alloc _)).mono ?_; rintro e w1 ⟨rfl, hc⟩; have HC := Lib.hid (((Chg.refl [] w).alloc _).then hc); have HR1 := Lib.hid ((Blk.new w 34 #[.int .i64 i, .int .u64 q]).chg hc (by simp)); clear hc))
    go_ret
    exact ⟨rfl, HC.out.alloc (obX x)⟩
  | true =>
    have e0 : staleE t i q = 0 := by unfold staleE; rw [hq]; rfl
    rw [e0] at HG
    rw [hq] at he
    clear e0 hq
    simp only [if_true] at he ⊢
    by_cases e1 : x.pg = 0
    · have e9 : (x.pg == 0) = true := by simpa using e1
      rw [if_pos e1]
      have E1 := Lib.hid e1
      clear he e1
      go_enter Try.func18, Try.ntmps18
      go_wp2_with (first | (go_at_call 15; refine (HG.out _ ((Chg.refl _ _).alloc _)).mono ?_; rintro e w1 ⟨rfl, hc⟩; have HC := Lib.hid (((Chg.refl [] w).alloc _).then hc); have HR1 := Lib.hid ((Blk.new w 34 #[.int .i64 i, .int .u64 q]).chg hc (by simp)); clear hc) | (go_at_call 53; refine (isRoot_any _ x).mono ?_; rintro e w2 ⟨rfl, hc⟩; have HC2 := Lib.hid ((HC.out.alloc (obX x)).then hc); have HR2 := Lib.hid ((HR1.out.alloc (obX x)).chg hc (by simp)); have HX2 := Lib.hid ((Blk.new w1 45 x.arr).chg hc (by simp)); obtain ⟨l2, k0, k1, k2, k3, k4, k5, k6, k7, k8, k9, k10, kf⟩ := x_facts HX2.out; have r0 := HR2.out.cell 0; have r1 := HR2.out.cell 1; clear hc))
      go_ret
      exact ⟨rfl, HC2.out⟩
    · have e9 : (x.pg == 0) = false := by simpa using e1
      rw [if_neg e1] at he ⊢
      have hb : 0 < x.live ∨ 0 < x.ch := by
        by_cases hh : 0 < x.live ∨ 0 < x.ch
        · exact hh
        · rw [if_neg hh] at he; exact absurd rfl he
      rw [if_pos hb]
      by_cases b1 : 0 < x.live
      · clear he hb
        go_enter Try.func18, Try.ntmps18
        go_wp2_with (first | (go_at_call 15; refine (HG.out _ ((Chg.refl _ _).alloc _)).mono ?_; rintro e w1 ⟨rfl, hc⟩; have HC := Lib.hid (((Chg.refl [] w).alloc _).then hc); have HR1 := Lib.hid ((Blk.new w 34 #[.int .i64 i, .int .u64 q]).chg hc (by simp)); clear hc) | (go_at_call 53; refine (isRoot_any _ x).mono ?_; rintro e w2 ⟨rfl, hc⟩; have HC2 := Lib.hid ((HC.out.alloc (obX x)).then hc); have HR2 := Lib.hid ((HR1.out.alloc (obX x)).chg hc (by simp)); have HX2 := Lib.hid ((Blk.new w1 45 x.arr).chg hc (by simp)); obtain ⟨l2, k0, k1, k2, k3, k4, k5, k6, k7, k8, k9, k10, kf⟩ := x_facts HX2.out; have r0 := HR2.out.cell 0; have r1 := HR2.out.cell 1; clear hc))
        go_ret
        exact ⟨rfl, HC2.out⟩
      · have b2 := hb.resolve_left b1
        clear he hb
        go_enter Try.func18, Try.ntmps18
        go_wp2_with (first | (go_at_call 15; refine (HG.out _ ((Chg.refl _ _).alloc _)).mono ?_; rintro e w1 ⟨rfl, hc⟩; have HC := Lib.hid (((Chg.refl [] w).alloc _).then hc); have HR1 := Lib.hid ((Blk.new w 34 #[.int .i64 i, .int .u64 q]).chg hc (by simp)); clear hc) | (go_at_call 53; refine (isRoot_any _ x).mono ?_; rintro e w2 ⟨rfl, hc⟩; have HC2 := Lib.hid ((HC.out.alloc (obX x)).then hc); have HR2 := Lib.hid ((HR1.out.alloc (obX x)).chg hc (by simp)); have HX2 := Lib.hid ((Blk.new w1 45 x.arr).chg hc (by simp)); obtain ⟨l2, k0, k1, k2, k3, k4, k5, k6, k7, k8, k9, k10, kf⟩ := x_facts HX2.out; have r0 := HR2.out.cell 0; have r1 := HR2.out.cell 1; clear hc))
        go_ret
        exact ⟨rfl, HC2.out⟩
set_option maxRecDepth 100000 in
set_option maxHeartbeats 3200000 in
theorem Merge_ok {w : World} {c : Nat} {S : List Nat} {t : Tab Dm} (h : DomAt w c S t) (hk : t.Oks) {i q : Int} (i0 : -9223372036854775808 ≤ i) (i1 : i ≤ 9223372036854775807) (he : mergeE t i q = 0) (hr : q + 1 < topG)
    (hp : (t.drop dm0 i.toNat q).has (t.at_ i q).pi (t.at_ i q).pg = true) (hb : (t.at_ i q).cpu ≤ (t.at_ (t.at_ i q).pi (t.at_ i q).pg).car) :
    Calls Try.prog 18 #[ptr c, .agg #[.int .i64 i, .int .u64 q]] w fun e w' => e = .returned (.int .i64 0) ∧ DomTurns c S (mergeT t i q) w w' := by
  have HG := Lib.hid (fun W (hW : Chg [] w W) => Get_any (h.quiet hW) i q i0 i1)
  have hq : t.has i q = true := by
    cases hq : t.has i q with
    | true => rfl
    | false => unfold mergeE at he; rw [hq] at he; simp at he
  have hm : (t.at_ i q).pg ≠ 0 ∧ ¬ 0 < (t.at_ i q).live ∧ ¬ 0 < (t.at_ i q).ch := by
    unfold mergeE at he
    rw [if_pos hq] at he
    by_cases e1 : (t.at_ i q).pg = 0
    · rw [if_pos e1] at he; omega
    · rw [if_neg e1] at he
      by_cases e2 : 0 < (t.at_ i q).live ∨ 0 < (t.at_ i q).ch
      · rw [if_pos e2] at he; omega
      · exact ⟨e1, fun h => e2 (.inl h), fun h => e2 (.inr h)⟩
  have e0 : staleE t i q = 0 := by unfold staleE; rw [hq]; rfl
  rw [e0] at HG
  obtain ⟨g, hB, hdrop⟩ := drop_dom h hq hr
  have HDR := Lib.hid hdrop
  have HCB := Lib.hid (fun W (hW : Chg [] w W) => (hB.chg hW (by simp)).cell 0)
  have HLT := Lib.hid h.lt
  have lc := hB.lt
  obtain ⟨s, hl, hg⟩ := has_iff.1 hq
  have hks := (live_iff.1 hl)
  have hki : i.toNat < t.spots.length := (List.getElem?_eq_some_iff.1 hks.2.1).1
  have hii : ((i.toNat : Nat) : Int) = i := Int.toNat_of_nonneg hks.1
  have hpne : ¬ (t.at_ i q).pi = i := fun e => by
    rw [drop_has hki, hii, if_pos e] at hp; cases hp
  have hpat : (t.drop dm0 i.toNat q).at_ (t.at_ i q).pi (t.at_ i q).pg = t.at_ (t.at_ i q).pi (t.at_ i q).pg := by rw [drop_at hki, hii, if_neg hpne]
  have hfp := hk.fit i q _ _ (par_some.2 ⟨hq, rfl, rfl⟩)
  have hok1 := hk.ok i q
  have hok2 := hk.ok (t.at_ i q).pi (t.at_ i q).pg
  have hes : staleE (t.drop dm0 i.toNat q) (t.at_ i q).pi (t.at_ i q).pg = 0 := by unfold staleE; rw [hp]; rfl
  have HCH := Lib.hid (fun W S' (hd : DomAt W c S' (t.drop dm0 i.toNat q)) M (hM : Blk W M 45 (t.at_ i q).arr) => (change_any hd (t.at_ i q).pi (t.at_ i q).pg hfp.1 hfp.2 (merge_how W.heap.size M (t.at_ i q) hM.lt) (Nat.le_refl _) (fun W' hW' => hM.chg hW' (by simp)) (fun _ => by
    rw [hpat]
    have a1 := hok1.gs; have a2 := hok1.cpu; have b1 := hok2.cgs; have b2 := hok2.car; have b3 := hok2.ch; have b4 := hok2.cpu
    omega)).mono (R' := fun e w' => e = .returned (.int .i64 0) ∧ DomAt w' c S' (mergeT t i q) ∧ Chg S' W w') (fun e w' h => ⟨by rw [h.1, hes], h.2⟩))
  obtain ⟨T2, hT2⟩ : ∃ T2, T2 = mergeT t i q := ⟨_, rfl⟩
  rw [← hT2] at HCH ⊢
  obtain ⟨x, hx⟩ : ∃ x, x = t.at_ i q := ⟨_, rfl⟩
  rw [← hx] at HG HCH hm
  obtain ⟨h1, h2, h3⟩ := hm
  have e9 : (x.pg == 0) = false := by simpa using h1
  clear hx hT2 h hk he hp hb hq e0 hB hdrop hl hg hks hki hii hpne hpat hfp hok1 hok2 hes h1
  go_enter Try.func18, Try.ntmps18
  go_wp2_with (first | (go_at_call 15; refine (HG.out _ ((Chg.refl _ _).alloc _)).mono ?_; rintro e w1 ⟨rfl, hc⟩; have HC := Lib.hid (((Chg.refl [] w).alloc _).then hc); have HR1 := Lib.hid ((Blk.new w 34 #[.int .i64 i, .int .u64 q]).chg hc (by simp)); clear hc) | (go_at_call 53; refine (isRoot_any _ x).mono ?_; rintro e w2 ⟨rfl, hc⟩; have HC2 := Lib.hid ((HC.out.alloc (obX x)).then hc); have HR2 := Lib.hid ((HR1.out.alloc (obX x)).chg hc (by simp)); have HX2 := Lib.hid ((Blk.new w1 45 x.arr).chg hc (by simp)); obtain ⟨l2, k0, k1, k2, k3, k4, k5, k6, k7, k8, k9, k10, kf⟩ := x_facts HX2.out; have r0 := HR2.out.cell 0; have r1 := HR2.out.cell 1; clear hc))
  have cc := HCB.out _ HC2.out
  go_still_tail 5, (by kernel_rfl)
  (try change wpStill _ _ (World.drew _) _ _ _)
  (repeat still_step)
  (try refine wpStill_nil ?_)
  (try change wpList _ _ _ _ _ (World.drew _))
  go_wp2_with (first
    | (go_at_call 54; refine (HDR.out _ HC2.out.drew).mono ?_; rintro e w3 ⟨rfl, S3, hd3, hs3, hc3⟩; have hx3 := HX2.out.drew.chg hc3 (fun hm => by have := HLT.out _ (List.mem_cons_of_mem _ hm); have := HC.out.size; omega); obtain ⟨l3, m0, m1, m2, m3, m4, m5, m6, m7, m8, m9, m10, k3f⟩ := x_facts hx3; have HX3 := Lib.hid hx3; have HD3 := Lib.hid hd3; have HS3 := Lib.hid hs3; have HC3 := Lib.hid hc3; clear hx3 hd3 hs3 hc3)
    | (go_at_call 51; refine (HCH.out _ _ HD3.out _ HX3.out).mono ?_; rintro e w4 ⟨rfl, hd4, hc4⟩; have HD4 := Lib.hid hd4; have HC4 := Lib.hid hc4; clear hd4 hc4))
  go_ret
  refine ⟨rfl, _, HD4.out, fun k hk => (HS3.out k hk).imp id (fun h => Nat.le_trans HC2.out.size h), ?_⟩
  exact (HC2.out.drew.any.trans HC3.out (fun k hk => .inl hk)).trans HC4.out (fun k hk => (HS3.out k hk).imp id (fun h => Nat.le_trans HC2.out.size h))
end Go.Proofs
end
section
namespace Go.Proofs
open Go.RowKit
set_option linter.unusedVariables false
set_option linter.unusedSimpArgs false

def mayN (size gs cpu per : Int) : Bool := decide (1 ≤ size) && decide (size ≤ 32) && mayD gs cpu per
theorem mayN_iff {size gs cpu per : Int} : mayN size gs cpu per = true ↔ 1 ≤ size ∧ size ≤ 32 ∧ mayD gs cpu per = true := by unfold mayN; simp [and_assoc]
set_option maxRecDepth 100000 in
theorem New_no (w : World) {size gs cpu per : Int} (hc : 0 ≤ cpu) (hp : 0 ≤ per) (h : mayN size gs cpu per = false) :
    Calls Try.prog 10 #[.int .i64 size, .int .i64 gs, .int .u64 cpu, .int .u64 per] w fun e w' => e = .returned (.tuple #[.pointer none, .int .i64 2]) ∧ w = w' := by
  have HM := Lib.hid (fun W => mayD_any 30 (.inl rfl) gs cpu per hc hp W)
  by_cases a : size < 1
  · clear h
    go_enter Try.func10, Try.ntmps10
    go_wp2
    exact bodyPost_ret (v := .tuple #[.pointer none, .int .i64 2]) (by simp [results, Try.results10, go_sem]) rfl ⟨rfl, rfl⟩
  · by_cases b : 32 < size
    · clear h
      go_enter Try.func10, Try.ntmps10
      go_wp2
      exact bodyPost_ret (v := .tuple #[.pointer none, .int .i64 2]) (by simp [results, Try.results10, go_sem]) rfl ⟨rfl, rfl⟩
    · have hm : mayD gs cpu per = false := by
        cases hm : mayD gs cpu per with
        | false => rfl
        | true => unfold mayN at h; rw [hm] at h; simp at h; omega
      rw [hm] at HM
      clear h hm
      go_enter Try.func10, Try.ntmps10
      go_wp2_with (go_at_call 30; refine (HM.out _).mono ?_; rintro e w' ⟨rfl, rfl⟩)
      exact bodyPost_ret (v := .tuple #[.pointer none, .int .i64 2]) (by simp [results, Try.results10, go_sem]) rfl ⟨rfl, rfl⟩
/-- The table in which nothing was yet. -/
def tab0 (size : Int) : Tab Dm := ⟨size, 1, [], [], 0⟩
def rootD (gs cpu per : Int) : Dm := kid 0 0 gs cpu per
theorem tab0_wf {size : Int} (h0 : 1 ≤ size) (h1 : size ≤ 32) : (tab0 size).WF := Tab.WF.new h0 (by omega) (by omega) (by rw [topG_val]; omega)
theorem tab0_frees (size : Int) : (tab0 size).frees = size := by unfold Tab.frees tab0; simp
set_option maxRecDepth 100000 in
theorem New_yes (w : World) {size gs cpu per : Int} (hc : 0 ≤ cpu) (hp : 0 ≤ per) (h : mayN size gs cpu per = true) :
    Calls Try.prog 10 #[.int .i64 size, .int .i64 gs, .int .u64 cpu, .int .u64 per] w fun e w' => ∃ c S, e = .returned (.tuple #[ptr c, .int .i64 0]) ∧ DomAt w' c S ((tab0 size).put dm0 (rootD gs cpu per)) ∧ (∀ k ∈ c :: S, w.heap.size ≤ k) ∧ Chg [] w w' := by
  obtain ⟨h0, h1, hm⟩ := mayN_iff.1 h
  have HM := Lib.hid (fun W => mayD_any 30 (.inl rfl) gs cpu per hc hp W)
  rw [hm] at HM
  have HN := Lib.hid (fun W => new_ok_C (w := W) size 1 (by unfold mayT; simp; omega))
  have hwf := tab0_wf h0 h1
  have hfr : (tab0 size).frees ≠ 0 := by rw [tab0_frees]; omega
  have HP := Lib.hid (fun W g S (hT : TabAt W g S (tab0 size)) => put_ok_C hT hwf hfr (rootD gs cpu per))
  have HW := Lib.hid (hwf.put (z := dm0) hfr (rootD gs cpu per))
  have a0 : ¬ size < 1 := by omega
  have a1 : ¬ 32 < size := by omega
  obtain ⟨k0, hk0⟩ : ∃ k0, k0 = (tab0 size).takeAt := ⟨_, rfl⟩
  obtain ⟨q0, hq0⟩ : ∃ q0, q0 = (tab0 size).genAt (tab0 size).takeAt := ⟨_, rfl⟩
  rw [← hq0, ← hk0] at HP
  clear h hm hwf hfr hk0 hq0
  go_enter Try.func10, Try.ntmps10
  go_wp2_with (first
    | (go_at_call 30; refine (HM.out _).mono ?_; rintro e w' ⟨rfl, rfl⟩)
    | (go_at_call 31; refine (HN.out _).mono ?_; rintro e w1 ⟨rfl, hT, hc1⟩; have HT := Lib.hid hT; have HC1 := Lib.hid hc1; clear hT hc1)
    | (go_at_call 32; refine (HP.out _ _ _ HT.out).mono ?_; rintro e w2 ⟨rfl, S2, hT2, hs2, hc2⟩; have HT2 := Lib.hid hT2; have HS2 := Lib.hid hs2; have HC2 := Lib.hid hc2; clear hT2 hs2 hc2))
  have hz := HC1.out.size
  have hz2 := HC2.out.size
  refine bodyPost_ret (v := .tuple #[ptr w2.heap.size, .int .i64 0]) (by simp [results, Try.results10, go_sem]) rfl ⟨w2.heap.size, S2, rfl, ⟨w.heap.size, Blk.new w2 62 _, HT2.out.quiet ((Chg.refl [] w2).alloc _), HW.out⟩, fun k hk => ?_, ?_⟩
  · rcases List.mem_cons.1 hk with rfl | hk
    · omega
    · rcases HS2.out k hk with h | h
      · simp at h; omega
      · omega
  · refine ((HC1.out.any.trans HC2.out (fun k hk => .inl hk)).mono (S := [w.heap.size]) (fun k hk => by simp at hk; right; omega)).alloc _
end Go.Proofs
end
section
namespace Go.Proofs
open Go.RowKit
set_option linter.unusedVariables false
set_option linter.unusedSimpArgs false

/-! ### The document's domains, plainly -/
structure Pl where
  gen : Int
  is : Bool
  gs : Int
  cpu : Int
  per : Int
  pi : Int
  pg : Int
  own : Int
  used : Int
structure RTab where
  L : List Pl
  F : List Nat
def Pl.cells (p : Pl) : List Value := [.int .u64 p.gen, .bool p.is, .int .i64 p.gs, .int .u64 p.cpu, .int .u64 p.per, .int .i64 p.pi, .int .u64 p.pg, .int .i64 p.own, .int .u64 p.used]
abbrev Pl.val (p : Pl) : Value := .agg #[.int .u64 p.gen, .bool p.is, .int .i64 p.gs, .int .u64 p.cpu, .int .u64 p.per, .int .i64 p.pi, .int .u64 p.pg, .int .i64 p.own, .int .u64 p.used]
abbrev Pl.arr (p : Pl) : Array Value := #[.int .u64 p.gen, .bool p.is, .int .i64 p.gs, .int .u64 p.cpu, .int .u64 p.per, .int .i64 p.pi, .int .u64 p.pg, .int .i64 p.own, .int .u64 p.used]
def plCells (l : List Pl) : List Value := l.flatMap Pl.cells
theorem plCells_len (l : List Pl) : (plCells l).length = l.length * 9 := flat_len (enc := Pl.cells) (s := 9) (fun _ => rfl) l
theorem plCells_append (l l' : List Pl) : plCells (l ++ l') = plCells l ++ plCells l' := by unfold plCells; simp
theorem plCells_at (l : List Pl) (k : Nat) (p : Pl) (h : l[k]? = some p) : (plCells l)[k * 9]? = some (.int .u64 p.gen) ∧ (plCells l)[k * 9 + 1]? = some (.bool p.is) ∧ (plCells l)[k * 9 + 2]? = some (.int .i64 p.gs) ∧ (plCells l)[k * 9 + 3]? = some (.int .u64 p.cpu) ∧ (plCells l)[k * 9 + 4]? = some (.int .u64 p.per) ∧ (plCells l)[k * 9 + 5]? = some (.int .i64 p.pi) ∧ (plCells l)[k * 9 + 6]? = some (.int .u64 p.pg) ∧ (plCells l)[k * 9 + 7]? = some (.int .i64 p.own) ∧ (plCells l)[k * 9 + 8]? = some (.int .u64 p.used) := by
  have e := fun j u => flat_at (enc := Pl.cells) (s := 9) (fun _ => rfl) (j := j) (u := u) h
  exact ⟨e 0 _ rfl, e 1 _ rfl, e 2 _ rfl, e 3 _ rfl, e 4 _ rfl, e 5 _ rfl, e 6 _ rfl, e 7 _ rfl, e 8 _ rfl⟩
theorem flat_set {α : Type} {enc : α → List Value} {s : Nat} (hs : ∀ x, (enc x).length = s) : ∀ (l : List α) (k : Nat) (x y : α) (j : Nat) (u : Value), l[k]? = some x → enc y = (enc x).set j u → j < s → (l.set k y).flatMap enc = (l.flatMap enc).set (k * s + j) u
  | [], k, x, y, j, u, h, _, _ => by simp at h
  | a :: l, 0, x, y, j, u, h, hy, hj => by
    simp at h; subst h
    rw [List.set_cons_zero, List.flatMap_cons, List.flatMap_cons, hy, Nat.zero_mul, Nat.zero_add, List.set_append_left _ _ (by rw [hs]; exact hj)]
  | a :: l, k + 1, x, y, j, u, h, hy, hj => by
    rw [List.set_cons_succ, List.flatMap_cons, List.flatMap_cons, flat_set hs l k x y j u (by simpa using h) hy hj, List.set_append_right _ _ (by rw [hs, Nat.add_mul]; omega), hs]
    congr 2
    rw [Nat.add_mul]; omega
theorem pl_set {l : List Pl} {k : Nat} {p p' : Pl} {j : Nat} {u : Value} (h : l[k]? = some p) (hy : p'.cells = p.cells.set j u) (hj : j < 9) : plCells (l.set k p') = (plCells l).set (k * 9 + j) u :=
  flat_set (enc := Pl.cells) (s := 9) (fun _ => rfl) l k p p' j u h hy hj
/-- The nine cells of a place, set in memory. -/
abbrev put9 (w : World) (g o : Nat) (p : Pl) : World := ((((((((w.setCell ⟨g, o, none⟩ (.int .u64 p.gen)).setCell ⟨g, o + 1, none⟩ (.bool p.is)).setCell ⟨g, o + 2, none⟩ (.int .i64 p.gs)).setCell ⟨g, o + 3, none⟩ (.int .u64 p.cpu)).setCell ⟨g, o + 4, none⟩ (.int .u64 p.per)).setCell ⟨g, o + 5, none⟩ (.int .i64 p.pi)).setCell ⟨g, o + 6, none⟩ (.int .u64 p.pg)).setCell ⟨g, o + 7, none⟩ (.int .i64 p.own)).setCell ⟨g, o + 8, none⟩ (.int .u64 p.used)
theorem chg_put9 {S : List Nat} {a w : World} {g : Nat} (h : Chg S a w) (hg : g ∈ S ∨ a.heap.size ≤ g) (o : Nat) (p : Pl) : Chg S a (put9 w g o p) :=
  ((((((((h.setCell (p := ⟨g, o, none⟩) hg _).setCell (p := ⟨g, o + 1, none⟩) hg _).setCell (p := ⟨g, o + 2, none⟩) hg _).setCell (p := ⟨g, o + 3, none⟩) hg _).setCell (p := ⟨g, o + 4, none⟩) hg _).setCell (p := ⟨g, o + 5, none⟩) hg _).setCell (p := ⟨g, o + 6, none⟩) hg _).setCell (p := ⟨g, o + 7, none⟩) hg _).setCell (p := ⟨g, o + 8, none⟩) hg _
theorem pl_put {l : List Pl} {k : Nat} (p' : Pl) : k < l.length → plCells (l.set k p') = (((((((((plCells l).set (k * 9) (.int .u64 p'.gen)).set (k * 9 + 1) (.bool p'.is)).set (k * 9 + 2) (.int .i64 p'.gs)).set (k * 9 + 3) (.int .u64 p'.cpu)).set (k * 9 + 4) (.int .u64 p'.per)).set (k * 9 + 5) (.int .i64 p'.pi)).set (k * 9 + 6) (.int .u64 p'.pg)).set (k * 9 + 7) (.int .i64 p'.own)).set (k * 9 + 8) (.int .u64 p'.used) := by
  induction l generalizing k with
  | nil => intro h; simp at h
  | cons a l ih =>
    intro h
    cases k with
    | zero => simp [plCells, Pl.cells]
    | succ k =>
      have := ih (k := k) (by simpa using h)
      unfold plCells at this ⊢
      rw [List.set_cons_succ, List.flatMap_cons, List.flatMap_cons, this]
      have e : ∀ (m : List Value) (j : Nat) (u : Value), (Pl.cells a ++ m).set ((k + 1) * 9 + j) u = Pl.cells a ++ m.set (k * 9 + j) u := fun m j u => by
        rw [List.set_append_right _ _ (by simp [Pl.cells]; omega)]
        simp [Pl.cells]; congr 1; omega
      have e0 := fun m u => e m 0 u
      simp only [Nat.add_zero] at e0
      rw [e0, e, e, e, e, e, e, e, e]
theorem Row.put9_ {w : World} {e : TypeId} {n g cap : Nat} {l : List Pl} (h : Row w e 9 (.slice (some ⟨g, 0, none⟩) n cap) n (plCells l)) {k : Nat} (hk : k < n) (hl : l.length = n) (p : Pl) :
    Row (put9 w g (k * 9) p) e 9 (.slice (some ⟨g, 0, none⟩) n cap) n (plCells (l.set k p)) := by
  rw [pl_put p (by omega)]
  exact ((((((((h.set_ (j := k * 9) (by omega) _).set_ (j := k * 9 + 1) (by omega) _).set_ (j := k * 9 + 2) (by omega) _).set_ (j := k * 9 + 3) (by omega) _).set_ (j := k * 9 + 4) (by omega) _).set_ (j := k * 9 + 5) (by omega) _).set_ (j := k * 9 + 6) (by omega) _).set_ (j := k * 9 + 7) (by omega) _).set_ (j := k * 9 + 8) (by omega) _

/-- The document's domains in memory; S are the blocks. -/
def RefAt (w : World) (h : Nat) (S : List Nat) (r : RTab) : Prop :=
  ∃ VL VF, Blk w h 106 #[VL, VF] ∧ Row w 108 9 VL r.L.length (plCells r.L) ∧ Row w 3 1 VF r.F.length (numCells r.F) ∧ S = h :: (foot VL ++ foot VF)
section
variable {w w' : World} {h : Nat} {S : List Nat} {r : RTab}
theorem RefAt.lt (hr : RefAt w h S r) : ∀ k ∈ S, k < w.heap.size := by
  obtain ⟨VL, VF, hB, hL, hF, rfl⟩ := hr
  intro k hk
  simp only [List.mem_cons, List.mem_append] at hk
  rcases hk with rfl | hk | hk
  · exact hB.lt
  · exact hL.lt k hk
  · exact hF.lt k hk
theorem RefAt.mem (hr : RefAt w h S r) : h ∈ S := by obtain ⟨VL, VF, hB, hL, hF, rfl⟩ := hr; simp
theorem RefAt.chg {S' : List Nat} (hr : RefAt w h S r) (hc : Chg S' w w') (hn : ∀ k ∈ S, k ∉ S') : RefAt w' h S r := by
  obtain ⟨VL, VF, hB, hL, hF, rfl⟩ := hr
  exact ⟨VL, VF, hB.chg hc (hn h (by simp)), hL.chg hc (fun k hk => hn k (by simp [hk])), hF.chg hc (fun k hk => hn k (by simp [hk])), rfl⟩
theorem RefAt.quiet (hr : RefAt w h S r) (hc : Chg [] w w') : RefAt w' h S r := hr.chg hc (fun _ _ hk => by cases hk)
theorem RefAt.box (hr : RefAt w h S r) : ∀ k, w.heap.size ≤ k → k ∉ S := fun k hk hm => by have := hr.lt k hm; omega
theorem RefAt.not_box {b : Nat} {e : TypeId} {cs : Array Value} (hr : RefAt w h S r) (hB : Blk w b e cs) (h1 : 106 ≠ e) (h2 : 108 ≠ e) (h3 : 3 ≠ e) : b ∉ S := by
  obtain ⟨VL, VF, hB', hL, hF, rfl⟩ := hr
  simp only [List.mem_cons, List.mem_append, not_or]
  exact ⟨fun e => Blk.ty hB' hB h1 e.symm, hL.ty hB h2, hF.ty hB h3⟩
end
/-- What a call on the document's domains leaves. -/
def RTurns (h : Nat) (S : List Nat) (r' : RTab) (w w' : World) : Prop := ∃ S', RefAt w' h S' r' ∧ (∀ k ∈ S', k ∈ S ∨ w.heap.size ≤ k) ∧ Chg S w w'
theorem RTurns.refl {h : Nat} {S : List Nat} {r : RTab} {a b : World} (hr : RefAt a h S r) (hc : Chg [] a b) : RTurns h S r a b := ⟨S, hr.quiet hc, fun k hk => .inl hk, hc.any⟩
theorem RTurns.later {h : Nat} {S : List Nat} {r : RTab} {a b c : World} (hr : RTurns h S r a b) (hc : Chg [] b c) : RTurns h S r a c := by
  obtain ⟨S', h1, h2, h3⟩ := hr
  exact ⟨S', h1.quiet hc, h2, h3.then hc⟩
theorem RTurns.earlier {h : Nat} {S : List Nat} {r : RTab} {a b c : World} (hr : RTurns h S r b c) (hc : Chg [] a b) : RTurns h S r a c := by
  obtain ⟨S', h1, h2, h3⟩ := hr
  exact ⟨S', h1, fun k hk => (h2 k hk).imp id (fun h => Nat.le_trans hc.size h), (Chg.any hc).trans h3 (fun k hk => .inl hk)⟩
theorem RTurns.trans {h : Nat} {S S1 : List Nat} {r2 : RTab} {a b d : World} (hs : ∀ k ∈ S1, k ∈ S ∨ a.heap.size ≤ k) (hc : Chg S a b) (hr : RTurns h S1 r2 b d) : RTurns h S r2 a d := by
  obtain ⟨S2, h1, h2, h3⟩ := hr
  refine ⟨S2, h1, fun k hk => ?_, hc.trans h3 hs⟩
  rcases h2 k hk with h | h
  · exact hs k h
  · exact .inr (Nat.le_trans hc.size h)
/-- A box of the caller's own is written to. -/
theorem RTurns.box {w w3 w4 : World} {h b : Nat} {S : List Nat} {r : RTab} {e : TypeId} {cs : Array Value} (hr : RTurns h S r w w3) (hB : Blk w3 b e cs) (e1 : 106 ≠ e) (e2 : 108 ≠ e) (e3 : 3 ≠ e) (hb : w.heap.size ≤ b) (hc : Chg [b] w3 w4) : RTurns h S r w w4 := by
  obtain ⟨S', h1, k2, k3⟩ := hr
  have hn := h1.not_box hB e1 e2 e3
  exact ⟨S', h1.chg hc (fun k hk => by simp; rintro rfl; exact hn hk), k2, k3.trans hc (fun k hk => by simp at hk; subst hk; exact .inr hb)⟩
def RTab.pl? (r : RTab) (i : Int) : Option Pl := if 0 ≤ i then r.L[i.toNat]? else none
def RTab.is (r : RTab) (i q : Int) : Bool := match r.pl? i with | some p => p.is && (p.gen == q) | none => false
theorem ris_iff {r : RTab} {i q : Int} : r.is i q = true ↔ ∃ (k : Nat) (p : Pl), i = (k : Nat) ∧ r.L[k]? = some p ∧ p.is = true ∧ p.gen = q := by
  unfold RTab.is RTab.pl?
  by_cases h0 : 0 ≤ i
  · obtain ⟨k, rfl⟩ := Int.eq_ofNat_of_zero_le h0
    rw [if_pos h0]
    cases hp : r.L[((k : Nat) : Int).toNat]? with
    | none =>
      simp only [Int.toNat_natCast] at hp
      constructor
      · intro h; cases h
      · rintro ⟨k', p, e, hp', _⟩
        have : k = k' := by omega
        subst this
        rw [hp] at hp'; cases hp'
    | some p =>
      simp only [Int.toNat_natCast] at hp
      simp only [Bool.and_eq_true, beq_iff_eq]
      constructor
      · rintro ⟨h1, h2⟩; exact ⟨k, p, rfl, hp, h1, h2⟩
      · rintro ⟨k', p', e, hp', h1, h2⟩
        have : k = k' := by omega
        subst this
        rw [hp] at hp'; cases hp'
        exact ⟨h1, h2⟩
  · rw [if_neg h0]
    constructor
    · intro h; cases h
    · rintro ⟨k, p, rfl, _⟩; omega
/-- What there is at a place, in every world in which nothing turned. -/
theorem RefAt.tell {w : World} {h : Nat} {S : List Nat} {r : RTab} (hr : RefAt w h S r) (h0 : 0 < r.L.length) :
    ∃ gl cl A cF, h ≠ gl ∧ r.L.length ≤ cl ∧ gl ∈ S ∧ gl < w.heap.size ∧ h < w.heap.size ∧ ∀ W, Chg [] w W →
      W.cell? ⟨h, 0, none⟩ = some (.slice (some ⟨gl, 0, none⟩) r.L.length cl) ∧ W.cell? ⟨h, 1, none⟩ = some (.slice A r.F.length cF) ∧ h < W.heap.size ∧ gl < W.heap.size ∧ (∀ j, W.frozen? ⟨gl, j, none⟩ = false) ∧ (∀ j, W.frozen? ⟨h, j, none⟩ = false) ∧
      ∀ (k : Nat) (p : Pl), r.L[k]? = some p → W.cell? ⟨gl, k * 9, none⟩ = some (.int .u64 p.gen) ∧ W.cell? ⟨gl, k * 9 + 1, none⟩ = some (.bool p.is) ∧ W.cell? ⟨gl, k * 9 + 2, none⟩ = some (.int .i64 p.gs) ∧ W.cell? ⟨gl, k * 9 + 3, none⟩ = some (.int .u64 p.cpu) ∧ W.cell? ⟨gl, k * 9 + 4, none⟩ = some (.int .u64 p.per) ∧ W.cell? ⟨gl, k * 9 + 5, none⟩ = some (.int .i64 p.pi) ∧ W.cell? ⟨gl, k * 9 + 6, none⟩ = some (.int .u64 p.pg) ∧ W.cell? ⟨gl, k * 9 + 7, none⟩ = some (.int .i64 p.own) ∧ W.cell? ⟨gl, k * 9 + 8, none⟩ = some (.int .u64 p.used) := by
  obtain ⟨VL, VF, hB, hL, hF, rfl⟩ := hr
  obtain ⟨gl, cl, rfl, hft, hc, hcell, hfz, hlt⟩ := hL.form h0
  obtain ⟨A, cF, rfl, _⟩ := hF.val
  have hne : h ≠ gl := by have := hL.ty hB (by decide); simpa [foot_some] using this
  refine ⟨gl, cl, A, cF, hne, hc, by simp [foot_some], hlt, hB.lt, fun W hcW => ?_⟩
  have hB' := hB.chg hcW (by simp)
  have e : ∀ o, W.cell? ⟨gl, o, none⟩ = w.cell? ⟨gl, o, none⟩ := fun o => hcW.cell (p := ⟨gl, o, none⟩) hlt (by simp)
  refine ⟨hB'.cell 0, hB'.cell 1, hB'.lt, Nat.lt_of_lt_of_le hlt hcW.size, fun j => (hcW.frozen (p := ⟨gl, j, none⟩) hlt (by simp)).trans (hfz j), hB'.frozen, fun k p hp => ?_⟩
  obtain ⟨c0, c1, c2, c3, c4, c5, c6, c7, c8⟩ := plCells_at r.L k p hp
  exact ⟨(e _).trans (hcell _ _ c0), (e _).trans (hcell _ _ c1), (e _).trans (hcell _ _ c2), (e _).trans (hcell _ _ c3), (e _).trans (hcell _ _ c4), (e _).trans (hcell _ _ c5), (e _).trans (hcell _ _ c6), (e _).trans (hcell _ _ c7), (e _).trans (hcell _ _ c8)⟩
/-- A place is another one now. -/
theorem RTurns.write {w W W2 : World} {h gl cl : Nat} {S : List Nat} {r : RTab} {k : Nat} {p' : Pl} (hr : RefAt w h S r) (hv : w.cell? ⟨h, 0, none⟩ = some (.slice (some ⟨gl, 0, none⟩) r.L.length cl)) (hc : Chg [] w W) (h2 : Chg [gl] W W2)
    (hrow : Row W2 108 9 (.slice (some ⟨gl, 0, none⟩) r.L.length cl) r.L.length (plCells (r.L.set k p'))) :
    RTurns h S { r with L := r.L.set k p' } w W2 := by
  obtain ⟨VL, VF, hB, hL, hF, rfl⟩ := hr
  have e0 : VL = .slice (some ⟨gl, 0, none⟩) r.L.length cl := by
    have := hB.cell 0
    simp only [List.getElem?_toArray, List.getElem?_cons_zero] at this
    rw [this] at hv
    exact Option.some.inj hv
  subst e0
  have hne : h ≠ gl := by have := hL.ty hB (by decide); simpa [foot_some] using this
  have hfn : gl ∉ foot VF := fun hm => hL.ty2 hF (by decide) gl (by simp [foot_some]) hm
  refine ⟨_, ⟨_, VF, (hB.chg hc (by simp)).chg h2 (by simpa using hne), by simpa using hrow, (hF.chg hc (fun _ _ h => by cases h)).chg h2 (fun k hk e => hfn (by simp at e; exact e ▸ hk)), rfl⟩, fun k hk => .inl hk, ?_⟩
  exact (Chg.any hc).trans h2 (fun k hk => .inl (by simp at hk; simp [hk, foot_some]))
theorem RefAt.row {w : World} {h gl cl : Nat} {S : List Nat} {r : RTab} (hr : RefAt w h S r) (hv : w.cell? ⟨h, 0, none⟩ = some (.slice (some ⟨gl, 0, none⟩) r.L.length cl)) : Row w 108 9 (.slice (some ⟨gl, 0, none⟩) r.L.length cl) r.L.length (plCells r.L) := by
  obtain ⟨VL, VF, hB, hL, hF, rfl⟩ := hr
  have e0 : VL = .slice (some ⟨gl, 0, none⟩) r.L.length cl := by
    have := hB.cell 0
    simp only [List.getElem?_toArray, List.getElem?_cons_zero] at this
    rw [this] at hv
    exact Option.some.inj hv
  subst e0
  exact hL
set_option maxHeartbeats 1600000 in
set_option maxRecDepth 100000 in
theorem ris_any {w : World} {h : Nat} {S : List Nat} {r : RTab} (hr : RefAt w h S r) (h0 : 0 < r.L.length) (i q : Int) :
    Calls Try.prog 36 #[ptr h, .agg #[.int .i64 i, .int .u64 q]] w fun e w' => e = .returned (.bool (r.is i q)) ∧ Chg [] w w' := by
  obtain ⟨gl, cl, A, cF, hne, hcl, _, lg, lh, htell⟩ := hr.tell h0
  obtain ⟨a0, _, _, _, _, _, hpl⟩ := htell w (Chg.refl _ _)
  obtain ⟨n, hnn⟩ : ∃ n, n = r.L.length := ⟨_, rfl⟩
  rw [← hnn] at a0 hcl
  by_cases h0 : i < 0
  · have e : r.is i q = false := by unfold RTab.is RTab.pl?; rw [if_neg (by omega)]
    rw [e]
    have d0 : decide (0 ≤ i) = false := by simp; omega
    clear hr e htell hpl
    go_enter Try.func36, Try.ntmps36
    go_wp2
    go_quiet (fail)
    go_wp2
    go_ret
    exact ⟨rfl, ((Chg.refl _ _).alloc _).drewN _⟩
  · obtain ⟨k, rfl⟩ := Int.eq_ofNat_of_zero_le (by omega : 0 ≤ i)
    have d0 : decide (0 ≤ (k : Int)) = true := by simp
    by_cases h1 : k < n
    · obtain ⟨p, hp⟩ : ∃ p, r.L[k]? = some p := ⟨_, List.getElem?_eq_getElem (by omega)⟩
      obtain ⟨b0, b1, _⟩ := hpl k p hp
      have d1 : decide ((k : Int) < (n : Int)) = true := by simp; omega
      have i0 : (0 : Int) ≤ (k : Int) := by omega
      have i1 : (k : Int) < (n : Int) := by omega
      cases ht : p.is with
      | false =>
        have e : r.is (k : Nat) q = false := by unfold RTab.is RTab.pl?; rw [if_pos (by omega)]; simp [hp, ht]
        rw [e]
        rw [ht] at b1
        clear hr e htell hpl hp hnn h1 ht b0
        go_enter Try.func36, Try.ntmps36
        go_wp2
        go_quiet (fail)
        go_wp2
        go_ret
        exact ⟨rfl, ((Chg.refl _ _).alloc _).drewN _⟩
      | true =>
        have e : r.is (k : Nat) q = (p.gen == q) := by unfold RTab.is RTab.pl?; rw [if_pos (by omega)]; simp [hp, ht]
        rw [e]
        rw [ht] at b1
        obtain ⟨G, hG⟩ : ∃ G, G = p.gen := ⟨_, rfl⟩
        rw [← hG] at b0 ⊢
        clear hr e htell hpl hp hnn h1 ht hG
        go_enter Try.func36, Try.ntmps36
        go_wp2
        go_quiet (fail)
        go_wp2
        go_ret
        exact ⟨rfl, ((Chg.refl _ _).alloc _).drewN _⟩
    · have e : r.is (k : Nat) q = false := by unfold RTab.is RTab.pl?; rw [if_pos (by omega)]; simp only [Int.toNat_natCast]; rw [List.getElem?_eq_none (by omega)]
      rw [e]
      have d1 : decide ((k : Int) < (n : Int)) = false := by simp; omega
      clear hr e htell hpl hnn
      go_enter Try.func36, Try.ntmps36
      go_wp2
      go_quiet (fail)
      go_wp2
      go_ret
      exact ⟨rfl, ((Chg.refl _ _).alloc _).drewN _⟩
end Go.Proofs
end
section
namespace Go.Proofs
open Go.RowKit
set_option linter.unusedVariables false
set_option linter.unusedSimpArgs false

/-- What a ref's parent is, by the document. -/
def RTab.par (r : RTab) : PF := fun i q => if r.is i q then (match r.pl? i with | some p => some (p.pi, p.pg) | none => none) else none
theorem rpar_none {r : RTab} {i q : Int} : r.par i q = none ↔ r.is i q = false := by
  unfold RTab.par
  cases hq : r.is i q with
  | false => simp
  | true =>
    obtain ⟨k, p, rfl, hp, _⟩ := ris_iff.1 hq
    have : r.pl? (k : Nat) = some p := by unfold RTab.pl?; simp [hp]
    simp [this]
theorem rpar_some {r : RTab} {i q a b : Int} : r.par i q = some (a, b) ↔ ∃ (k : Nat) (p : Pl), i = (k : Nat) ∧ r.L[k]? = some p ∧ p.is = true ∧ p.gen = q ∧ p.pi = a ∧ p.pg = b := by
  unfold RTab.par
  cases hq : r.is i q with
  | false =>
    constructor
    · intro h; simp at h
    · rintro ⟨k, p, h1, h2, h3, h4, _⟩
      have := ris_iff.2 ⟨k, p, h1, h2, h3, h4⟩
      rw [hq] at this; cases this
  | true =>
    obtain ⟨k, p, rfl, hp, h3, h4⟩ := ris_iff.1 hq
    have : r.pl? (k : Nat) = some p := by unfold RTab.pl?; simp [hp]
    simp only [if_true, this, Option.some.injEq, Prod.mk.injEq]
    constructor
    · rintro ⟨h1, h2⟩; exact ⟨k, p, rfl, hp, h3, h4, h1, h2⟩
    · rintro ⟨k', p', e, hp', _, _, h1, h2⟩
      have : k = k' := by omega
      subst this
      rw [hp] at hp'; cases hp'
      exact ⟨h1, h2⟩
set_option maxHeartbeats 3200000 in
set_option maxRecDepth 100000 in
theorem rchain_any {w : World} {h : Nat} {S : List Nat} {r : RTab} (hr : RefAt w h S r) (h0 : 0 < r.L.length) {i q : Int} {L : List (Int × Int)} (hU : Up r.par i q L) (hL : L.length ≤ 100000) :
    Calls Try.prog 35 #[ptr h, .agg #[.int .i64 i, .int .u64 q]] w fun e w' => ∃ A cc, e = .returned (.slice A L.length cc) ∧ Row w' 34 2 (.slice A L.length cc) L.length (refCells L) ∧ (∀ k ∈ foot (.slice A L.length cc), w.heap.size ≤ k) ∧ Chg [] w w' := by
  obtain ⟨gl, cl, A9, cF, hne, hcl, _, lg, lh, htell⟩ := hr.tell h0
  have HT := Lib.hid htell
  have HI := Lib.hid (fun W (hc : Chg [] w W) a b => ris_any (hr.quiet hc) h0 a b)
  obtain ⟨in0, hi0, hq0, hq1, hq2⟩ := info_parts Try.info_R
  obtain ⟨n, hnn⟩ : ∃ n, n = r.L.length := ⟨_, rfl⟩
  rw [← hnn] at HT hcl
  have HN := Lib.hid hnn
  clear hr htell h0 hnn
  go_enter Try.func35, Try.ntmps35
  go_wp2
  go_loopg [5] L.length (fun gh v wr => ∃ (pre rest : List (Int × Int)) (a b : Int) (A : Option Addr) (cc : Nat), gh = rest.length ∧ v = .slice A pre.length cc ∧ Hid (L = pre ++ rest ∧ Up r.par a b rest ∧ Chg [] w wr ∧ Row wr 34 2 (.slice A pre.length cc) pre.length (refCells pre) ∧ (∀ k ∈ foot (.slice A pre.length cc), w.heap.size + 1 ≤ k)) ∧ Hid (Blk wr w.heap.size 34 #[.int .i64 a, .int .u64 b]))
  case atStart => exact ⟨[], L, i, q, none, 0, rfl, rfl, Lib.hid ⟨rfl, hU, (Chg.refl _ _).alloc _, Row.nil _ _ _, fun k hk => (by cases hk)⟩, Lib.hid (Blk.new w 34 _)⟩
  case round =>
    obtain ⟨pre, rest, a, b, A, cc, rfl, rfl, HH, HB⟩ := hrel
    obtain ⟨hLL, hup, hc, hrow, hft⟩ := HH.out
    have c0 := HB.out.cell 0
    have c1 := HB.out.cell 1
    have lB := HB.out.lt
    have HI1 := Lib.hid (HI.out _ hc a b)
    cases rest with
    | nil =>
      have hno := rpar_none.1 hup.nil
      rw [hno] at HI1
      have HL := Lib.hid hLL
      have HC := Lib.hid hc
      have HR := Lib.hid hrow
      have HF := Lib.hid hft
      clear hno hup hLL hc hrow hft HH
      go_wp2_with (go_at_call 36; refine HI1.out.mono ?_; rintro e w1 ⟨rfl, hc1⟩; have HC1 := Lib.hid hc1; clear hc1)
      go_ret
      have hl : L.length = pre.length := by rw [HL.out]; simp
      refine ⟨A, cc, by rw [hl]; rfl, ?_, ?_, HC.out.then HC1.out⟩
      · rw [hl]
        have : refCells L = refCells pre := by rw [HL.out, List.append_nil]
        rw [this]
        exact HR.out.chg HC1.out (fun _ _ h => by cases h)
      · rw [hl]; exact fun k hk => by have := HF.out k hk; omega
    | cons y rest =>
      obtain ⟨rfl, pa, pb, hfab, hup'⟩ := hup.cons
      obtain ⟨k, p, rfl, hp, h3, rfl, rfl, rfl⟩ := rpar_some.1 hfab
      rw [ris_iff.2 ⟨k, p, rfl, hp, h3, rfl⟩] at HI1
      have hkn : k < n := by have := (List.getElem?_eq_some_iff.1 hp).1; have := HN.out; omega
      have i0 : (0 : Int) ≤ (k : Int) := by omega
      have i1 : (k : Int) < (n : Int) := by omega
      have hpl : pre.length + 1 ≤ 100001 := by rw [hLL] at hL; simp at hL; omega
      have HL := Lib.hid hLL
      have HC := Lib.hid hc
      have HR := Lib.hid hrow
      have HF := Lib.hid hft
      have HUP := Lib.hid hup'
      have hn1 : w.heap.size ∉ foot (.slice A pre.length cc) := fun h => by have := hft _ h; omega
      have hn2 : (Value.slice A pre.length cc).ownBlock ≠ some w.heap.size := fun e => hn1 (row_mem e)
      have HPP := Lib.hid hp
      obtain ⟨pgen, hpgen⟩ : ∃ pgen, pgen = p.gen := ⟨_, rfl⟩
      rw [← hpgen] at HI1 HB HL c1
      have HGEN := Lib.hid hpgen
      clear hup hup' hLL hc hrow hft HH hfab hpgen h3
      go_wp2_with (first
        | (go_at_call 36; refine HI1.out.mono ?_; rintro e w1 ⟨rfl, hc1⟩; have HC1 := Lib.hid hc1; have hb1 := HB.out.chg hc1 (by simp); have HB1 := Lib.hid hb1; have c10 := hb1.cell 0; have c11 := hb1.cell 1; have lb1 := hb1.lt; have HR1 := Lib.hid (HR.out.chg hc1 (fun _ _ h => by cases h)); clear hc1 hb1)
        | (at_builtin; refine wpList_append_row _ rfl _ _ 40 rfl 34 in0 (.agg #[.int .i64 0, .int .u64 0]) 2 16 Try.underlying40 hi0 hq0 hq1 hq2 rfl (.slice A pre.length cc) pre.length (refCells pre) rfl (HR1.out.alloc _) ⟨w1.heap.size, 0, none⟩ 1 1 [.int .i64 (k : Nat), .int .u64 pgen] rfl rfl (World.news_of_block (cs := #[.int .i64 (k : Nat), .int .u64 pgen]) (t := 34) (fr := (0, 0)) (heap_alloc_new w1 _)) (by simp [Value.oneCell']) (by omega) (by unfold maxLen; omega) (by omega) (w1.heap.size + 1) (by simp) ?_; intro gg cap w2 hown hgrow hat hlt1; have HOWN := Lib.hid hown; have HG := Lib.hid hgrow; have HAT := Lib.hid hat; clear hown hgrow hat))
      have hgg : gg ∈ foot (.slice A pre.length cc) ∨ gg = w1.heap.size + 1 := HAT.out.imp (fun h => row_mem h) id
      have hc12 : Chg (foot (.slice A pre.length cc)) w1 w2 := ((Chg.refl _ w1).alloc _).grown HG.out (fun k hk => .inl (row_mem hk))
      have hcw2 : Chg [] w w2 := ((HC.out.then HC1.out).any.trans hc12 (fun k hk => .inl hk)).mono (fun k hk => .inr (by have := HF.out k hk; omega))
      have hb2 : Blk w2 w.heap.size 34 #[.int .i64 (k : Nat), .int .u64 pgen] := HB1.out.chg hc12 hn1
      obtain ⟨a0, _, lh2, lg2, fz, _, hpl2⟩ := HT.out _ hcw2
      obtain ⟨_, _, _, _, _, q5, q6, _, _⟩ := hpl2 k p HPP.out
      have d0 := hb2.cell 0
      have d1 := hb2.cell 1
      have df := hb2.frozen
      have lb2 := hb2.lt
      have HB2 := Lib.hid hb2
      have HCW2 := Lib.hid hcw2
      have hgw : gg ≠ w.heap.size := by
        rcases hgg with h | h
        · have := HF.out _ h; omega
        · omega
      have HGG := Lib.hid hgg
      have hlw : w.heap.size < w1.heap.size := lb1
      clear hb2 hcw2 hc12 hpl2 hgg
      go_wp2
      go_still_tail 9, (by kernel_rfl)
      (try change wpStill _ _ (World.drew _) _ _ _)
      (repeat still_step)
      (try refine wpStill_nil ?_)
      (try change wpList _ _ _ _ _ (World.drew _))
      go_wp2
      go_roundg rest.length
      case measure => simp
      case rel =>
        refine ⟨pre ++ [(((k : Nat) : Int), pgen)], rest, p.pi, p.pg, some ⟨gg, 0, none⟩, cap, rfl, by rw [List.length_append]; rfl, Lib.hid ⟨by rw [HL.out]; simp, HUP.out, ?_, ?_, ?_⟩, Lib.hid ?_⟩
        · exact (HCW2.out.drew.setCell (.inr (by simp)) _).setCell (.inr (by simp)) _
        · rw [refCells_snoc, List.length_append]
          exact (HOWN.out.drew.far (by simpa [foot_some] using fun e => hgw e.symm) _).far (by simpa [foot_some] using fun e => hgw e.symm) _
        · intro j hj
          rw [List.length_append] at hj
          simp [foot_some] at hj
          subst hj
          rcases HGG.out with h | h
          · have := HF.out _ h; omega
          · omega
        · exact (HB2.out.drew.set_ 0 (.int .i64 p.pi)).set_ 1 (.int .u64 p.pg)
end Go.Proofs
end
section
namespace Go.Proofs
open Go.RowKit
set_option linter.unusedVariables false
set_option linter.unusedSimpArgs false

/-! ### A domain's children -/
def RTab.kidP (r : RTab) (i q : Int) (k : Nat) : Bool := match r.L[k]? with | some p => p.is && (p.pi == i && p.pg == q) | none => false
def RTab.kidsTo (r : RTab) (i q : Int) (k : Nat) : List Nat := (List.range k).filter (r.kidP i q)
def RTab.kids (r : RTab) (i q : Int) : List Nat := r.kidsTo i q r.L.length
theorem kidsTo_yes {r : RTab} {i q : Int} {k : Nat} (h : r.kidP i q k = true) : r.kidsTo i q (k + 1) = r.kidsTo i q k ++ [k] := by unfold RTab.kidsTo; rw [List.range_succ, List.filter_append]; simp [h]
theorem kidsTo_no {r : RTab} {i q : Int} {k : Nat} (h : r.kidP i q k = false) : r.kidsTo i q (k + 1) = r.kidsTo i q k := by unfold RTab.kidsTo; rw [List.range_succ, List.filter_append]; simp [h]
theorem kidsTo_len (r : RTab) (i q : Int) (k : Nat) : (r.kidsTo i q k).length ≤ k := by unfold RTab.kidsTo; have := List.length_filter_le (r.kidP i q) (List.range k); simpa using this
theorem numCells_snoc (l : List Nat) (k : Nat) : numCells (l ++ [k]) = numCells l ++ [.int .i64 ((k : Nat) : Int)] := by unfold numCells; simp
theorem numCells_at {l : List Nat} {j k : Nat} (h : l[j]? = some k) : (numCells l)[j]? = some (.int .i64 ((k : Nat) : Int)) := by unfold numCells; simp [h]
set_option maxHeartbeats 6400000 in
set_option maxRecDepth 100000 in
theorem rkids_any {w : World} {h : Nat} {S : List Nat} {r : RTab} (hr : RefAt w h S r) (h0 : 0 < r.L.length) (hn : r.L.length ≤ 1000) (i q : Int) :
    Calls Try.prog 70 #[ptr h, .agg #[.int .i64 i, .int .u64 q]] w fun e w' => ∃ A cc, e = .returned (.slice A (r.kids i q).length cc) ∧ Row w' 3 1 (.slice A (r.kids i q).length cc) (r.kids i q).length (numCells (r.kids i q)) ∧ (∀ k ∈ foot (.slice A (r.kids i q).length cc), w.heap.size ≤ k) ∧ Chg [] w w' := by
  obtain ⟨gl, cl, A9, cF, hne, hcl, _, lg, lh, htell⟩ := hr.tell h0
  have HT := Lib.hid htell
  obtain ⟨in0, hi0, hq0, hq1, hq2⟩ := info_parts Try.num_info_C
  obtain ⟨n, hnn⟩ : ∃ n, n = r.L.length := ⟨_, rfl⟩
  rw [← hnn] at HT hcl hn
  have HN := Lib.hid hnn
  have hkk : r.kids i q = r.kidsTo i q n := by unfold RTab.kids; rw [hnn]
  rw [hkk]
  clear hr htell h0 hnn hkk
  go_enter Try.func70, Try.ntmps70
  go_wp2
  go_loopg [5, 6] n (fun gh v iv wr => ∃ (k : Nat) (A : Option Addr) (cc : Nat), k + gh = n ∧ iv = .int .i64 k ∧ v = .slice A (r.kidsTo i q k).length cc ∧ Hid (Chg [] (w.alloc (obRef i q)) wr ∧ Row wr 3 1 (.slice A (r.kidsTo i q k).length cc) (r.kidsTo i q k).length (numCells (r.kidsTo i q k)) ∧ (∀ k' ∈ foot (.slice A (r.kidsTo i q k).length cc), (w.alloc (obRef i q)).heap.size ≤ k')))
  case atStart => exact ⟨0, none, 0, by omega, rfl, rfl, Lib.hid ⟨Chg.refl _ _, Row.nil _ _ _, fun k hk => (by cases hk)⟩⟩
  case round =>
    obtain ⟨k, A, cc, hk, rfl, rfl, HH⟩ := hrel
    obtain ⟨hc, hrow, hft⟩ := HH.out
    have hcw : Chg [] w wr := ((Chg.refl [] w).alloc _).then hc
    obtain ⟨a0, _, lhr, lgr, _, _, hpl⟩ := HT.out wr hcw
    have hbR := (Blk.new w 34 #[.int .i64 i, .int .u64 q]).chg hc (by simp)
    have r0 := hbR.cell 0
    have r1 := hbR.cell 1
    have HC := Lib.hid hc
    have HR := Lib.hid hrow
    have HF := Lib.hid hft
    have hkl := kidsTo_len r i q k
    by_cases hlt : k < n
    · have k0 : (0 : Int) ≤ (k : Int) := by omega
      have k1 : (k : Int) < (n : Int) := by omega
      obtain ⟨p, hp⟩ : ∃ p, r.L[k]? = some p := ⟨_, List.getElem?_eq_getElem (by rw [← HN.out]; exact hlt)⟩
      obtain ⟨_, b1, _, _, _, b5, b6, _, _⟩ := hpl k p hp
      have HPP := Lib.hid hp
      obtain ⟨pi0, hpi⟩ : ∃ x, x = p.pi := ⟨_, rfl⟩
      obtain ⟨pg0, hpg⟩ : ∃ x, x = p.pg := ⟨_, rfl⟩
      rw [← hpi] at b5
      rw [← hpg] at b6
      have HPI := Lib.hid hpi.symm
      have HPG := Lib.hid hpg.symm
      clear hpl hp hpi hpg hc hrow hft HH hcw hbR
      cases his : p.is with
      | false =>
        rw [his] at b1
        have HIS := Lib.hid his
        clear his
        have HY := Lib.hid (kidsTo_no (show r.kidP i q k = false by unfold RTab.kidP; rw [HPP.out]; simp [HIS.out]))
        go_wp2
        go_quiet (fail)
        go_wp2
        go_roundg (n - k - 1)
        case measure => omega
        case rel => exact ⟨k + 1, A, cc, by omega, by go_num, by rw [HY.out], Lib.hid ⟨HC.out.drewN _, by rw [HY.out]; exact HR.out.drewN _, by rw [HY.out]; exact HF.out⟩⟩
      | true =>
        rw [his] at b1
        have HIS := Lib.hid his
        clear his
        by_cases ha : pi0 = i
        · by_cases hb : pg0 = q
          · have e5 : (pi0 == i) = true := by simpa using ha
            have e55 : (i == pi0) = true := by simpa using ha.symm
            have e6 : (pg0 == q) = true := by simpa using hb
            have e66 : (q == pg0) = true := by simpa using hb.symm
            have HY := Lib.hid (kidsTo_yes (show r.kidP i q k = true by unfold RTab.kidP; rw [HPP.out]; simp [HIS.out, HPI.out, HPG.out, ha, hb]))
            clear ha hb
            go_wp2
            go_quiet (fail)
            go_wp2_with (at_builtin; refine wpList_append_row _ rfl _ _ 98 rfl 3 in0 (.int .i64 0) 1 8 Try.underlying98 hi0 hq0 hq1 hq2 rfl (.slice A (r.kidsTo i q k).length cc) (r.kidsTo i q k).length (numCells (r.kidsTo i q k)) rfl ((HR.out.drewN _).alloc _) ⟨wr.heap.size, 0, none⟩ 1 1 [.int .i64 (k : Nat)] rfl rfl (World.news_of_block (cs := #[.int .i64 (k : Nat)]) (t := 3) (fr := (0, 0)) (heap_alloc_new (wr.drewN _) _)) (by simp [Value.oneCell']) (by omega) (by unfold maxLen; omega) (by omega) (wr.heap.size + 1) (by simp) ?_; intro gg cap w2 hown hgrow hat hlt1; have HOWN := Lib.hid hown; have HG := Lib.hid hgrow; have HAT := Lib.hid hat; clear hown hgrow hat)
            go_roundg (n - k - 1)
            case measure => omega
            case rel =>
              have hgg : gg ∈ foot (.slice A (r.kidsTo i q k).length cc) ∨ gg = wr.heap.size + 1 := HAT.out.imp (fun h => row_mem h) id
              have hc12 : Chg (foot (.slice A (r.kidsTo i q k).length cc)) wr w2 := (((Chg.refl _ wr).drewN nq).alloc _).grown HG.out (fun k hk => .inl (row_mem hk))
              have hsz := HC.out.size
              refine ⟨k + 1, some ⟨gg, 0, none⟩, cap, by omega, by go_num, by rw [HY.out, List.length_append]; rfl, Lib.hid ⟨(HC.out.any.trans hc12 (fun k hk => .inl hk)).mono (fun k hk => .inr (by have := HF.out k hk; omega)), ?_, ?_⟩⟩
              · rw [HY.out, List.length_append, numCells_snoc]; exact HOWN.out
              · intro j hj
                rw [HY.out, List.length_append] at hj
                simp [foot_some] at hj
                subst hj
                rcases hgg with h | h
                · exact HF.out _ h
                · omega
          · have e5 : (pi0 == i) = true := by simpa using ha
            have e55 : (i == pi0) = true := by simpa using ha.symm
            have e6 : (pg0 == q) = false := by simpa using hb
            have e66 : (q == pg0) = false := by simpa using Ne.symm hb
            have HY := Lib.hid (kidsTo_no (show r.kidP i q k = false by unfold RTab.kidP; rw [HPP.out]; simp [HIS.out, HPI.out, HPG.out, ha, hb]))
            clear ha hb
            go_wp2
            go_quiet (fail)
            go_wp2
            go_roundg (n - k - 1)
            case measure => omega
            case rel => exact ⟨k + 1, A, cc, by omega, by go_num, by rw [HY.out], Lib.hid ⟨HC.out.drewN _, by rw [HY.out]; exact HR.out.drewN _, by rw [HY.out]; exact HF.out⟩⟩
        · have e5 : (pi0 == i) = false := by simpa using ha
          have e55 : (i == pi0) = false := by simpa using Ne.symm ha
          have HY := Lib.hid (kidsTo_no (show r.kidP i q k = false by unfold RTab.kidP; rw [HPP.out]; simp [HIS.out, HPI.out, ha]))
          clear ha
          go_wp2
          go_quiet (fail)
          go_wp2
          go_roundg (n - k - 1)
          case measure => omega
          case rel => exact ⟨k + 1, A, cc, by omega, by go_num, by rw [HY.out], Lib.hid ⟨HC.out.drewN _, by rw [HY.out]; exact HR.out.drewN _, by rw [HY.out]; exact HF.out⟩⟩
    · obtain rfl : k = n := by omega
      clear hpl hc hrow hft HH hcw hbR
      go_wp2
      go_ret
      exact ⟨A, cc, rfl, HR.out, fun j hj => by have := HF.out j hj; simp at this; omega, ((Chg.refl [] w).alloc _).then HC.out⟩
end Go.Proofs
end
