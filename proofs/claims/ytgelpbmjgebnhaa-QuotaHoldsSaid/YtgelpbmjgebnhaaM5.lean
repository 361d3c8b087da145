import Derived.Test.YtgelpbmjgebnhaaM4
import Derived.Deep.LoopGhost
section
namespace Go.Proofs
open Go.RowKit
set_option linter.unusedVariables false
set_option linter.unusedSimpArgs false

theorem CvBoxes.chgS {b : Nat} {i q gs cpu : Int} {w w' : World} {S : List Nat} (h : CvBoxes b i q gs cpu w) (hc : Chg S w w') (hS : ∀ k ∈ S, k < b) : CvBoxes b i q gs cpu w' :=
  ⟨h.1.chg hc (fun hm => by have := hS _ hm; omega), h.2.1.chg hc (fun hm => by have := hS _ hm; omega), h.2.2.1.chg hc (fun hm => by have := hS _ hm; omega), h.2.2.2.chg hc (fun hm => by have := hS _ hm; omega)⟩
set_option maxRecDepth 100000 in
set_option maxHeartbeats 6400000 in
theorem Carve_full {w : World} {c : Nat} {S : List Nat} {t : Tab Dm} (h : DomAt w c S t) (hk : t.Oks) {i q gs cpu per : Int} (i0 : -9223372036854775808 ≤ i) (i1 : i ≤ 9223372036854775807) (hc0 : 0 ≤ cpu) (hp0 : 0 ≤ per)
    (hm : mayD gs cpu per = true) (hq : t.has i q = true) (g0 : ¬ (t.at_ i q).gs - (t.at_ i q).cgs - (t.at_ i q).own < gs) (g1 : ¬ subS (t.at_ i q).cpu (t.at_ i q).car < cpu) (hf : t.frees = 0) :
    Calls Try.prog 34 #[ptr c, .agg #[.int .i64 i, .int .u64 q], .int .i64 gs, .int .u64 cpu, .int .u64 per] w (CvOut c S t i q gs cpu per w) := by
  have HN := Lib.hid (fun W (hW : Chg [] w W) => none_any (h.quiet hW))
  have HM := Lib.hid (fun W => mayD_any 56 (.inl rfl) gs cpu per hc0 hp0 W)
  have HG := Lib.hid (fun W (hW : Chg [] w W) => Get_any (h.quiet hW) i q i0 i1)
  have HS := Lib.hid (fun W => share_any W (t.at_ i q) (hk.ok i q).sm)
  have HRM := Lib.hid (fun W => room_any W (t.at_ i q) (hk.ok i q).sm)
  have HH := Lib.hid h
  rw [hm] at HM
  have e0 : staleE t i q = 0 := by unfold staleE; rw [hq]; rfl
  rw [e0] at HG
  have HEE := Lib.hid (show carveE t i q gs cpu per = 3 by unfold carveE; rw [if_pos hm, if_pos hq, if_neg (fun h => h.elim g0 g1), if_pos hf])
  obtain ⟨g, hB, hput⟩ := put_dom_full h hf (kid i q gs cpu per)
  have HP := Lib.hid hput
  have HCB := Lib.hid (fun W (hW : Chg [] w W) => (hB.chg hW (by simp)).cell 0)
  have lc := hB.lt
  obtain ⟨x, hx⟩ : ∃ x, x = t.at_ i q := ⟨_, rfl⟩
  rw [← hx] at HG HS HRM g0 g1
  obtain ⟨rm, hrm⟩ : ∃ rm, rm = x.gs - x.cgs - x.own := ⟨_, rfl⟩
  obtain ⟨s0, hs0⟩ : ∃ s0, s0 = x.gs - x.cgs := ⟨_, rfl⟩
  obtain ⟨s1, hs1⟩ : ∃ s1, s1 = subS x.cpu x.car := ⟨_, rfl⟩
  rw [← hrm] at HRM g0
  rw [← hs1] at HS g1
  rw [← hs0] at HS
  have g9 : decide (rm < gs) = false := by simpa using g0
  have g8 : decide (s1 < cpu) = false := by simpa using g1
  clear hm hq e0 hx hrm hs0 hs1 h hk hf hput hB
  go_enter Try.func34, Try.ntmps34
  go_wp2_with (first
    | (go_at_call 61; refine (HN.out _ ((((Chg.refl _ _).alloc _).alloc _).alloc _ |>.alloc _)).mono ?_; rintro e w' ⟨rfl, rfl⟩)
    | (go_at_call 56; refine (HM.out _).mono ?_; rintro e w' ⟨rfl, rfl⟩)
    | (go_at_call 27; refine (HG.out _ ((((Chg.refl _ _).alloc _).alloc _).alloc _ |>.alloc _)).mono ?_; rintro e w1 ⟨rfl, hc⟩; have HB := Lib.hid (carve_boxes (i := i) (q := q) (gs := gs) (cpu := cpu) hc); have HC := Lib.hid ((((((Chg.refl [] w).alloc (obRef i q)).alloc (.cells #[.int .i64 gs] 3)).alloc (.cells #[.int .u64 cpu] 22)).alloc (obRef 0 0)).then hc); have hb := HB.out; obtain ⟨lb, b0, b1, b2, b3, d0, d1, df⟩ := carve_tell hb; clear hc hb)
    | (go_at_call 62; refine (HS.out _).mono ?_; rintro e w2 ⟨rfl, hc⟩; have HB2 := Lib.hid ((HB.out.alloc (obX x)).chg hc); have HX2 := Lib.hid ((Blk.new w1 59 x.arr).chg hc (by simp)); have HC2 := Lib.hid ((HC.out.alloc (obX x)).then hc); have hb := HB2.out; obtain ⟨lb2, b20, b21, b22, b23, d20, d21, d2f⟩ := carve_tell hb; obtain ⟨l2, k0, k1, k2, k3, k4, k5, k6, k7, k8, k9, k10, kf⟩ := x_facts HX2.out; clear hc hb))
  go_region_held3 (fun w' => (w'.cell? ⟨w.heap.size + 1, 0, none⟩ = some (.int .i64 gs) ∧ w'.cell? ⟨w.heap.size + 1 + 1, 0, none⟩ = some (.int .u64 cpu)) ∧ w'.cell? ⟨w1.heap.size, 0, none⟩ = some (.int .i64 x.pi) ∧ w'.cell? ⟨w1.heap.size, 1, none⟩ = some (.int .u64 x.pg) ∧ w'.cell? ⟨w1.heap.size, 2, none⟩ = some (.int .i64 x.gs) ∧ w'.cell? ⟨w1.heap.size, 3, none⟩ = some (.int .u64 x.cpu) ∧ w'.cell? ⟨w1.heap.size, 4, none⟩ = some (.int .u64 x.per) ∧ w'.cell? ⟨w1.heap.size, 5, none⟩ = some (.int .i64 x.cgs) ∧ w'.cell? ⟨w1.heap.size, 6, none⟩ = some (.int .u64 x.car) ∧ w'.cell? ⟨w1.heap.size, 7, none⟩ = some (.int .i64 x.own) ∧ w'.cell? ⟨w1.heap.size, 8, none⟩ = some (.int .i64 x.live) ∧ w'.cell? ⟨w1.heap.size, 9, none⟩ = some (.int .u64 x.used) ∧ w'.cell? ⟨w1.heap.size, 10, none⟩ = some (.int .i64 x.ch))
    (first | go_keep)
    (first | (go_at_call 63; refine (HRM.out _).mono ?_; rintro e w3 ⟨rfl, hc⟩; have HC3 := Lib.hid (HC2.out.drew.then hc); have HB3 := Lib.hid ((HB2.out.drew).chg hc); have hb := HB3.out; obtain ⟨lb3, b30, b31, b32, b33, d30, d31, d3f⟩ := carve_tell hb; obtain ⟨l3, m0, m1, m2, m3, m4, m5, m6, m7, m8, m9, m10, k3f⟩ := x_facts (HX2.out.drew.chg hc (by simp)); clear hc hb))
  go_wp2
  have cc := HCB.out _ HC3.out
  have lc3 : c < w3.heap.size := Nat.lt_of_lt_of_le lc HC3.out.size
  have nz0 : ¬ (w3.heap.size = c) := by omega
  have nz1 : ¬ (w3.heap.size = w.heap.size) := by omega
  have nz2 : ¬ (w3.heap.size = w.heap.size + 1) := by omega
  have nz3 : ¬ (w3.heap.size = w.heap.size + 1 + 1) := by omega
  have nz4 : ¬ (c = w3.heap.size) := by omega
  have nz5 : ¬ (w.heap.size = w3.heap.size) := by omega
  have nz6 : ¬ (w.heap.size + 1 = w3.heap.size) := by omega
  have nz7 : ¬ (w.heap.size + 1 + 1 = w3.heap.size) := by omega
  have nz8 : ¬ (w.heap.size + 1 + 1 + 1 = w3.heap.size) := by omega
  have nz9 : ¬ (w3.heap.size = w.heap.size + 1 + 1 + 1) := by omega
  go_region_held3 (fun w' => w'.cell? ⟨c, 0, none⟩ = some (ptr g) ∧ w'.cell? ⟨w.heap.size, 0, none⟩ = some (.int .i64 i) ∧ w'.cell? ⟨w.heap.size, 1, none⟩ = some (.int .u64 q) ∧ w'.cell? ⟨w.heap.size + 1, 0, none⟩ = some (.int .i64 gs) ∧ w'.cell? ⟨w.heap.size + 1 + 1, 0, none⟩ = some (.int .u64 cpu))
    (first | go_keep)
    (first
      | (go_at_call 58; refine (HP.out _ HC3.out.drew).mono ?_; rintro e w4 ⟨rfl, hc⟩; have HC4 := Lib.hid (HC3.out.drew.then hc); have cc4 := HCB.out _ HC4.out; have hb := HB3.out.drew.chg hc; obtain ⟨lb4, b40, b41, b42, b43, d40, d41, d4f⟩ := carve_tell hb; clear hc hb)
      | (go_at_call 58; refine (HP.out _ ((HC3.out.alloc _).drew)).mono ?_; rintro e w4 ⟨rfl, hc⟩; have HC4 := Lib.hid ((HC3.out.alloc _).drew.then hc); have cc4 := HCB.out _ HC4.out; have hn4 := (Blk.new w3 34 #[.int .i64 0, .int .u64 0]).drew.chg hc (by simp); have n40 := hn4.cell 0; have n41 := hn4.cell 1; have n4f := hn4.frozen; have l4 := hn4.lt; have hb := (HB3.out.alloc (obRef 0 0)).drew.chg hc; obtain ⟨lb4, b40, b41, b42, b43, d40, d41, d4f⟩ := carve_tell hb; clear hc hb hn4))
  all_goals
    go_wp2
    refine bodyPost_ret (v := .tuple #[.agg #[.int .i64 0, .int .u64 0], .int .i64 3]) (by simp [results, Try.results34, go_sem, d40, d41, lb4]) rfl (CvOut.no (by omega) HEE.out HH.out (by repeat' (first | with_reducible exact HC4.out | with_reducible apply Chg.alloc | with_reducible apply Chg.drew | with_reducible apply Chg.setCell | (with_reducible refine Or.inr ?_; dsimp only; omega))))
end Go.Proofs
end
section
namespace Go.Proofs
open Go.RowKit
set_option linter.unusedVariables false
set_option linter.unusedSimpArgs false

theorem mayD_iff {gs cpu per : Int} : mayD gs cpu per = true ↔ 0 ≤ gs ∧ gs ≤ 64 ∧ cpu ≤ 4294967296 ∧ 1 ≤ per ∧ per ≤ 4294967296 := by unfold mayD; simp [and_assoc]
theorem cv_final {w w6 : World} {c b : Nat} {S S4 : List Nat} {t2 : Tab Dm} (h : DomAt w6 c S4 t2) (hS : ∀ k ∈ S4, k ∈ S ∨ w.heap.size ≤ k) (hc : Chg S w w6) (hb : w.heap.size ≤ b) (hn : b ∉ c :: S4) (u v : Value) :
    DomTurns c S t2 w ((w6.setCell ⟨b, 0, none⟩ u).setCell ⟨b, 1, none⟩ v) := by
  have h1 : Chg [b] w6 ((w6.setCell ⟨b, 0, none⟩ u).setCell ⟨b, 1, none⟩ v) := ((Chg.refl _ _).setCell (.inl (by simp)) _).setCell (.inl (by simp)) _
  refine ⟨S4, h.chg h1 (fun e => hn (by simp at e; simp [e])) (fun k hk e => hn (by simp at e; simp [← e, hk])), hS, hc.trans h1 (fun k hk => by simp at hk; subst hk; exact .inr hb)⟩
theorem carve_change {W : World} {c : Nat} {S : List Nat} {t : Tab Dm} {i q gs cpu per : Int} {b : Nat} (h : DomAt W c S (t.put dm0 (kid i q gs cpu per))) (hk : t.Oks ∧ t.WF) (i0 : -9223372036854775808 ≤ i) (i1 : i ≤ 9223372036854775807)
    (hm : mayD gs cpu per = true ∧ 0 ≤ cpu) (hq : t.has i q = true) (hf : t.frees ≠ 0) (hG : Blk W (b + 1) 3 #[.int .i64 gs]) (hC : Blk W (b + 1 + 1) 22 #[.int .u64 cpu]) :
    Calls Try.prog 37 #[ptr c, .agg #[.int .i64 i, .int .u64 q], .func (.func 64) #[] #[ptr (b + 1), ptr (b + 1 + 1)]] W fun e w' => e = .returned (.int .i64 0) ∧ DomAt w' c S (carveT t i q gs cpu per) ∧ Chg S W w' := by
  have e0 : staleE (t.put dm0 (kid i q gs cpu per)) i q = 0 := by unfold staleE; rw [put_has hk.2 hf _ hq]; rfl
  have := change_any h i q i0 i1 (carve_how W.heap.size (b + 1) (b + 1 + 1) gs cpu) (Nat.le_refl _) (fun W' hW' => ⟨hG.chg hW' (by simp), hC.chg hW' (by simp)⟩) (fun _ => by
    rw [put_at_old hk.2 hf _ hq]
    have a := hk.1.ok i q
    obtain ⟨m0, m1, m2, m3, m4⟩ := mayD_iff.1 hm.1
    have := a.cgs; have := a.car; have := a.cpu; have := a.ch
    omega)
  rw [e0] at this
  exact this
theorem cv_mid {w W w4 : World} {c : Nat} {S S4 : List Nat} {t' : Tab Dm} {g : Nat} (hlt : ∀ k ∈ c :: S, k < w.heap.size) (hC : Chg [] w W) (hd : DomAt w4 c S4 t') (hs : ∀ k ∈ S4, k ∈ S ∨ W.heap.size ≤ k) (hc : Chg S W w4) (hcell : W.cell? ⟨c, 0, none⟩ = some (ptr g)) (hcS : c ∉ S) :
    DomAt w4 c S4 t' ∧ (∀ k ∈ S4, k ∈ S ∨ W.heap.size ≤ k) ∧ Chg S w w4 ∧ w4.cell? ⟨c, 0, none⟩ = some (ptr g) :=
  ⟨hd, hs, hC.any.trans hc (fun k hk => .inl hk), (hc.cell (p := ⟨c, 0, none⟩) (Nat.lt_of_lt_of_le (hlt c (by simp)) hC.size) hcS).trans hcell⟩
set_option maxRecDepth 100000 in
set_option maxHeartbeats 6400000 in
theorem Carve_ok {w : World} {c : Nat} {S : List Nat} {t : Tab Dm} (h : DomAt w c S t) (hk : t.Oks) {i q gs cpu per : Int} (i0 : -9223372036854775808 ≤ i) (i1 : i ≤ 9223372036854775807) (hc0 : 0 ≤ cpu) (hp0 : 0 ≤ per)
    (hm : mayD gs cpu per = true) (hq : t.has i q = true) (g0 : ¬ (t.at_ i q).gs - (t.at_ i q).cgs - (t.at_ i q).own < gs) (g1 : ¬ subS (t.at_ i q).cpu (t.at_ i q).car < cpu) (hf : t.frees ≠ 0) :
    Calls Try.prog 34 #[ptr c, .agg #[.int .i64 i, .int .u64 q], .int .i64 gs, .int .u64 cpu, .int .u64 per] w (CvOut c S t i q gs cpu per w) := by
  have HN := Lib.hid (fun W (hW : Chg [] w W) => none_any (h.quiet hW))
  have HM := Lib.hid (fun W => mayD_any 56 (.inl rfl) gs cpu per hc0 hp0 W)
  have HG := Lib.hid (fun W (hW : Chg [] w W) => Get_any (h.quiet hW) i q i0 i1)
  have HS := Lib.hid (fun W => share_any W (t.at_ i q) (hk.ok i q).sm)
  have HRM := Lib.hid (fun W => room_any W (t.at_ i q) (hk.ok i q).sm)
  have HH := Lib.hid h
  rw [hm] at HM
  have e0 : staleE t i q = 0 := by unfold staleE; rw [hq]; rfl
  rw [e0] at HG
  have HEE := Lib.hid (show carveE t i q gs cpu per = 0 by unfold carveE; rw [if_pos hm, if_pos hq, if_neg (fun h => h.elim g0 g1), if_neg hf])
  have HK := Lib.hid (show t.Oks ∧ t.WF from ⟨hk, h.wf⟩)
  have HMD := Lib.hid (show mayD gs cpu per = true ∧ 0 ≤ cpu from ⟨hm, hc0⟩)
  have HQ := Lib.hid hq
  have HF0 := Lib.hid hf
  obtain ⟨g, hB, hput⟩ := put_dom h hf (kid i q gs cpu per)
  have HP := Lib.hid hput
  have HLT := Lib.hid h.lt
  have HNS := Lib.hid h.not_mem
  have HCB := Lib.hid (fun W (hW : Chg [] w W) => (hB.chg hW (by simp)).cell 0)
  have lc := hB.lt
  obtain ⟨x, hx⟩ : ∃ x, x = t.at_ i q := ⟨_, rfl⟩
  rw [← hx] at HG HS HRM g0 g1
  obtain ⟨rm, hrm⟩ : ∃ rm, rm = x.gs - x.cgs - x.own := ⟨_, rfl⟩
  obtain ⟨s0, hs0⟩ : ∃ s0, s0 = x.gs - x.cgs := ⟨_, rfl⟩
  obtain ⟨s1, hs1⟩ : ∃ s1, s1 = subS x.cpu x.car := ⟨_, rfl⟩
  rw [← hrm] at HRM g0
  rw [← hs1] at HS g1
  rw [← hs0] at HS
  have g9 : decide (rm < gs) = false := by simpa using g0
  have g8 : decide (s1 < cpu) = false := by simpa using g1
  clear hm hq e0 hx hrm hs0 hs1 h hk hf hput hB
  go_enter Try.func34, Try.ntmps34
  go_wp2_with (first
    | (go_at_call 61; refine (HN.out _ ((((Chg.refl _ _).alloc _).alloc _).alloc _ |>.alloc _)).mono ?_; rintro e w' ⟨rfl, rfl⟩)
    | (go_at_call 56; refine (HM.out _).mono ?_; rintro e w' ⟨rfl, rfl⟩)
    | (go_at_call 27; refine (HG.out _ ((((Chg.refl _ _).alloc _).alloc _).alloc _ |>.alloc _)).mono ?_; rintro e w1 ⟨rfl, hc⟩; have HB := Lib.hid (carve_boxes (i := i) (q := q) (gs := gs) (cpu := cpu) hc); have HC := Lib.hid ((((((Chg.refl [] w).alloc (obRef i q)).alloc (.cells #[.int .i64 gs] 3)).alloc (.cells #[.int .u64 cpu] 22)).alloc (obRef 0 0)).then hc); have hb := HB.out; obtain ⟨lb, b0, b1, b2, b3, d0, d1, df⟩ := carve_tell hb; clear hc hb)
    | (go_at_call 62; refine (HS.out _).mono ?_; rintro e w2 ⟨rfl, hc⟩; have HB2 := Lib.hid ((HB.out.alloc (obX x)).chg hc); have HX2 := Lib.hid ((Blk.new w1 59 x.arr).chg hc (by simp)); have HC2 := Lib.hid ((HC.out.alloc (obX x)).then hc); have hb := HB2.out; obtain ⟨lb2, b20, b21, b22, b23, d20, d21, d2f⟩ := carve_tell hb; obtain ⟨l2, k0, k1, k2, k3, k4, k5, k6, k7, k8, k9, k10, kf⟩ := x_facts HX2.out; clear hc hb))
  go_region_held3 (fun w' => (w'.cell? ⟨w.heap.size + 1, 0, none⟩ = some (.int .i64 gs) ∧ w'.cell? ⟨w.heap.size + 1 + 1, 0, none⟩ = some (.int .u64 cpu)) ∧ w'.cell? ⟨w1.heap.size, 0, none⟩ = some (.int .i64 x.pi) ∧ w'.cell? ⟨w1.heap.size, 1, none⟩ = some (.int .u64 x.pg) ∧ w'.cell? ⟨w1.heap.size, 2, none⟩ = some (.int .i64 x.gs) ∧ w'.cell? ⟨w1.heap.size, 3, none⟩ = some (.int .u64 x.cpu) ∧ w'.cell? ⟨w1.heap.size, 4, none⟩ = some (.int .u64 x.per) ∧ w'.cell? ⟨w1.heap.size, 5, none⟩ = some (.int .i64 x.cgs) ∧ w'.cell? ⟨w1.heap.size, 6, none⟩ = some (.int .u64 x.car) ∧ w'.cell? ⟨w1.heap.size, 7, none⟩ = some (.int .i64 x.own) ∧ w'.cell? ⟨w1.heap.size, 8, none⟩ = some (.int .i64 x.live) ∧ w'.cell? ⟨w1.heap.size, 9, none⟩ = some (.int .u64 x.used) ∧ w'.cell? ⟨w1.heap.size, 10, none⟩ = some (.int .i64 x.ch))
    (first | go_keep)
    (first | (go_at_call 63; refine (HRM.out _).mono ?_; rintro e w3 ⟨rfl, hc⟩; have HC3 := Lib.hid (HC2.out.drew.then hc); have HB3 := Lib.hid ((HB2.out.drew).chg hc); have hb := HB3.out; obtain ⟨lb3, b30, b31, b32, b33, d30, d31, d3f⟩ := carve_tell hb; obtain ⟨l3, m0, m1, m2, m3, m4, m5, m6, m7, m8, m9, m10, k3f⟩ := x_facts (HX2.out.drew.chg hc (by simp)); clear hc hb))
  go_wp2
  have cc := HCB.out _ HC3.out
  have lc3 : c < w3.heap.size := Nat.lt_of_lt_of_le lc HC3.out.size
  have nz0 : ¬ (w3.heap.size = c) := by omega
  have nz1 : ¬ (w3.heap.size = w.heap.size) := by omega
  have nz2 : ¬ (w3.heap.size = w.heap.size + 1) := by omega
  have nz3 : ¬ (w3.heap.size = w.heap.size + 1 + 1) := by omega
  have nz4 : ¬ (c = w3.heap.size) := by omega
  have nz5 : ¬ (w.heap.size = w3.heap.size) := by omega
  have nz6 : ¬ (w.heap.size + 1 = w3.heap.size) := by omega
  have nz7 : ¬ (w.heap.size + 1 + 1 = w3.heap.size) := by omega
  have nz8 : ¬ (w.heap.size + 1 + 1 + 1 = w3.heap.size) := by omega
  have nz9 : ¬ (w3.heap.size = w.heap.size + 1 + 1 + 1) := by omega
  go_region_held3 (fun w' => w'.cell? ⟨c, 0, none⟩ = some (ptr g) ∧ w'.cell? ⟨w.heap.size, 0, none⟩ = some (.int .i64 i) ∧ w'.cell? ⟨w.heap.size, 1, none⟩ = some (.int .u64 q) ∧ w'.cell? ⟨w.heap.size + 1, 0, none⟩ = some (.int .i64 gs) ∧ w'.cell? ⟨w.heap.size + 1 + 1, 0, none⟩ = some (.int .u64 cpu))
    (first | go_keep)
    (first
      | (go_at_call 58; refine (HP.out _ HC3.out.drew).mono ?_; rintro e w4 ⟨rfl, S4, hd4, hs4, hc4⟩; have HW := Lib.hid (cv_mid HLT.out HC3.out.drew hd4 hs4 hc4 (HCB.out _ HC3.out.drew) HNS.out); have HCB4 := Lib.hid (HB3.out.drew.chgS hc4 (fun k hk => HLT.out k (List.mem_cons_of_mem _ hk))); obtain ⟨lb4, b40, b41, b42, b43, d40, d41, d4f⟩ := carve_tell HCB4.out; have cc4 := HW.out.2.2.2; clear hd4 hs4 hc4)
      | (go_at_call 58; refine (HP.out _ ((HC3.out.alloc _).drew)).mono ?_; rintro e w4 ⟨rfl, S4, hd4, hs4, hc4⟩; have HW := Lib.hid (cv_mid HLT.out ((HC3.out.alloc (obRef 0 0)).drew) hd4 hs4 hc4 (HCB.out _ ((HC3.out.alloc (obRef 0 0)).drew)) HNS.out); have HCB4 := Lib.hid ((HB3.out.alloc (obRef 0 0)).drew.chgS hc4 (fun k hk => HLT.out k (List.mem_cons_of_mem _ hk))); obtain ⟨lb4, b40, b41, b42, b43, d40, d41, d4f⟩ := carve_tell HCB4.out; have cc4 := HW.out.2.2.2; have HN4 := Lib.hid ((Blk.new w3 34 #[.int .i64 0, .int .u64 0]).drew.chg hc4 (fun hm => by have := HLT.out _ (List.mem_cons_of_mem _ hm); omega)); have n40 := HN4.out.cell 0; have n41 := HN4.out.cell 1; have n4f := HN4.out.frozen; have l4 := HN4.out.lt; clear hd4 hs4 hc4))
  · go_wp2
    have hst : ∀ k ∈ S4, k ∈ S ∨ w.heap.size ≤ k := fun k hk => (HW.out.2.1 k hk).imp id (fun h => by have := HC3.out.size; simp at h; omega)
    have hbx := Blk.new w4 34 #[.int .i64 (t.takeAt : Nat), .int .u64 (t.genAt t.takeAt)]
    have hcb := HCB4.out.alloc (.cells #[.int .i64 (t.takeAt : Nat), .int .u64 (t.genAt t.takeAt)] 34)
    have hd5 := HW.out.1.quiet ((Chg.refl [] w4).alloc (.cells #[.int .i64 (t.takeAt : Nat), .int .u64 (t.genAt t.takeAt)] 34))
    have hc5 := HW.out.2.2.1.then ((Chg.refl [] w4).alloc (.cells #[.int .i64 (t.takeAt : Nat), .int .u64 (t.genAt t.takeAt)] 34))
    have hnb : ¬ (w4.heap.size = w.heap.size + 1 + 1 + 1) := by omega
    obtain ⟨W5, hW5⟩ : ∃ W5, W5 = w4.alloc (.cells #[.int .i64 (t.takeAt : Nat), .int .u64 (t.genAt t.takeAt)] 34) := ⟨_, rfl⟩
    rw [← hW5] at hbx hcb hd5 hc5 ⊢
    clear hW5
    obtain ⟨bx, hbxe⟩ : ∃ bx, bx = w4.heap.size := ⟨_, rfl⟩
    rw [← hbxe] at hbx hnb ⊢
    clear hbxe
    obtain ⟨K0, hK0⟩ : ∃ K0 : Int, K0 = (t.takeAt : Nat) := ⟨_, rfl⟩
    obtain ⟨G0, hG0⟩ : ∃ G0, G0 = t.genAt t.takeAt := ⟨_, rfl⟩
    rw [← hK0, ← hG0] at hbx ⊢
    have HK0 := Lib.hid hK0
    have HG0 := Lib.hid hG0
    have hbS : bx ∉ c :: S4 := hd5.ne_ty hbx (by decide) (by decide) (by decide) (by decide)
    have hrS : w.heap.size ∉ c :: S4 := hd5.ne_ty hcb.1 (by decide) (by decide) (by decide) (by decide)
    have htS : w.heap.size + 1 + 1 + 1 ∉ c :: S4 := hd5.ne_ty hcb.2.2.2 (by decide) (by decide) (by decide) (by decide)
    have HF := Lib.hid (fun (w6 : World) (t2 : Tab Dm) (u v : Value) (h6 : DomAt w6 c S4 t2) (hc6 : Chg S4 W5.drew w6) => cv_final h6 hst (hc5.drew.trans hc6 hst) (show w.heap.size ≤ w.heap.size + 1 + 1 + 1 by omega) htS u v)
    have HCH := Lib.hid (carve_change (hd5.quiet ((Chg.refl _ _).drew)) HK.out i0 i1 HMD.out HQ.out HF0.out (hcb.2.1.drew) (hcb.2.2.1.drew))
    have HBX := Lib.hid (fun (w6 : World) (hc6 : Chg S4 W5.drew w6) => (show Blk w6 bx 34 #[.int .i64 K0, .int .u64 G0] from (hbx.drew).chg hc6 (fun h => hbS (List.mem_cons_of_mem _ h))))
    have HRX := Lib.hid (fun (w6 : World) (hc6 : Chg S4 W5.drew w6) => (show Blk w6 w.heap.size 34 #[.int .i64 i, .int .u64 q] from (hcb.1.drew).chg hc6 (fun h => hrS (List.mem_cons_of_mem _ h))))
    have HTX := Lib.hid (fun (w6 : World) (hc6 : Chg S4 W5.drew w6) => (show Blk w6 (w.heap.size + 1 + 1 + 1) 34 #[.int .i64 0, .int .u64 0] from (hcb.2.2.2.drew).chg hc6 (fun h => htS (List.mem_cons_of_mem _ h))))
    have x0 := hbx.cell 0
    have x1 := hbx.cell 1
    have y0 := hcb.1.cell 0
    have y1 := hcb.1.cell 1
    have nb3 : ¬ (bx = w.heap.size + 1 + 1 + 1) := hnb
    have nb4 : ¬ (w.heap.size + 1 + 1 + 1 = bx) := fun e => hnb e.symm
    have nb5 : ¬ (w.heap.size + 1 + 1 + 1 = w.heap.size) := by omega
    have nb6 : ¬ (w.heap.size = w.heap.size + 1 + 1 + 1) := by omega
    clear hd5 hbx hcb hc5 hbS hrS htS hst hK0 hG0 hnb
    clear HB HC HB2 HX2 HC2 HB3 HC3 HW HCB4 HCB HP HN HM HG HS HRM HH
    go_region_held3 (fun w' => w'.cell? ⟨bx, 0, none⟩ = some (.int .i64 K0) ∧ w'.cell? ⟨bx, 1, none⟩ = some (.int .u64 G0) ∧ w'.cell? ⟨w.heap.size, 0, none⟩ = some (.int .i64 i) ∧ w'.cell? ⟨w.heap.size, 1, none⟩ = some (.int .u64 q))
      (first | go_keep)
      (first
        | (go_at_call 37; refine (HCH.out).mono ?_; rintro e w6 ⟨rfl, hd6, hc6⟩; have z0 := (HBX.out _ hc6).cell 0; have z1 := (HBX.out _ hc6).cell 1; have z2 := (HRX.out _ hc6).cell 0; have z3 := (HRX.out _ hc6).cell 1; have z4 := (HTX.out _ hc6).cell 0; have z5 := (HTX.out _ hc6).cell 1; have z6 := (HTX.out _ hc6).frozen; have z7 := (HTX.out _ hc6).lt; have HD6 := Lib.hid hd6; have HC6 := Lib.hid hc6; clear hd6 hc6))
    all_goals
      go_wp2
      refine bodyPost_ret (v := .tuple #[.agg #[.int .i64 K0, .int .u64 G0], .int .i64 0]) (by simp [results, Try.results34, go_sem, z4, z5, z7]) rfl (.inr ⟨HEE.out, by rw [HK0.out, HG0.out], ?_⟩)
      first | exact HF.out _ _ _ _ HD6.out HC6.out | (trace_state; fail)
  · go_wp2
    have hst : ∀ k ∈ S4, k ∈ S ∨ w.heap.size ≤ k := fun k hk => (HW.out.2.1 k hk).imp id (fun h => by have := HC3.out.size; simp at h; omega)
    have h45 : Chg [w3.heap.size] w4 ((w4.setCell ⟨w3.heap.size, 0, none⟩ (.int .i64 (t.takeAt : Nat))).setCell ⟨w3.heap.size, 1, none⟩ (.int .u64 (t.genAt t.takeAt))) := ((Chg.refl _ _).setCell (.inl (by simp)) _).setCell (.inl (by simp)) _
    have h3S : w3.heap.size ∉ c :: S4 := HW.out.1.ne_ty HN4.out (by decide) (by decide) (by decide) (by decide)
    have hbx : Blk ((w4.setCell ⟨w3.heap.size, 0, none⟩ (.int .i64 (t.takeAt : Nat))).setCell ⟨w3.heap.size, 1, none⟩ (.int .u64 (t.genAt t.takeAt))) w3.heap.size 34 #[.int .i64 (t.takeAt : Nat), .int .u64 (t.genAt t.takeAt)] := (HN4.out.set_ 0 _).set_ 1 _
    have hcb : CvBoxes w.heap.size i q gs cpu ((w4.setCell ⟨w3.heap.size, 0, none⟩ (.int .i64 (t.takeAt : Nat))).setCell ⟨w3.heap.size, 1, none⟩ (.int .u64 (t.genAt t.takeAt))) := ⟨HCB4.out.1.chg h45 (by simp; omega), HCB4.out.2.1.chg h45 (by simp; omega), HCB4.out.2.2.1.chg h45 (by simp; omega), HCB4.out.2.2.2.chg h45 (by simp; omega)⟩
    have hd5 : DomAt ((w4.setCell ⟨w3.heap.size, 0, none⟩ (.int .i64 (t.takeAt : Nat))).setCell ⟨w3.heap.size, 1, none⟩ (.int .u64 (t.genAt t.takeAt))) c S4 (t.put dm0 (kid i q gs cpu per)) := HW.out.1.chg h45 (fun e => h3S (by simp at e; simp [e])) (fun k hk e => h3S (by simp at e; simp [← e, hk]))
    have hc5 : Chg S w ((w4.setCell ⟨w3.heap.size, 0, none⟩ (.int .i64 (t.takeAt : Nat))).setCell ⟨w3.heap.size, 1, none⟩ (.int .u64 (t.genAt t.takeAt))) := HW.out.2.2.1.trans h45 (fun k hk => by simp at hk; subst hk; right; have := HC3.out.size; omega)
    have hnb : ¬ (w3.heap.size = w.heap.size + 1 + 1 + 1) := by omega
    clear h45 h3S HN4 n40 n41 n4f
    obtain ⟨W5, hW5⟩ : ∃ W5, W5 = (w4.setCell ⟨w3.heap.size, 0, none⟩ (.int .i64 (t.takeAt : Nat))).setCell ⟨w3.heap.size, 1, none⟩ (.int .u64 (t.genAt t.takeAt)) := ⟨_, rfl⟩
    rw [← hW5] at hbx hcb hd5 hc5 ⊢
    clear hW5
    obtain ⟨bx, hbxe⟩ : ∃ bx, bx = w3.heap.size := ⟨_, rfl⟩
    rw [← hbxe] at hbx hnb ⊢
    clear hbxe
    obtain ⟨K0, hK0⟩ : ∃ K0 : Int, K0 = (t.takeAt : Nat) := ⟨_, rfl⟩
    obtain ⟨G0, hG0⟩ : ∃ G0, G0 = t.genAt t.takeAt := ⟨_, rfl⟩
    rw [← hK0, ← hG0] at hbx ⊢
    have HK0 := Lib.hid hK0
    have HG0 := Lib.hid hG0
    have hbS : bx ∉ c :: S4 := hd5.ne_ty hbx (by decide) (by decide) (by decide) (by decide)
    have hrS : w.heap.size ∉ c :: S4 := hd5.ne_ty hcb.1 (by decide) (by decide) (by decide) (by decide)
    have htS : w.heap.size + 1 + 1 + 1 ∉ c :: S4 := hd5.ne_ty hcb.2.2.2 (by decide) (by decide) (by decide) (by decide)
    have HF := Lib.hid (fun (w6 : World) (t2 : Tab Dm) (u v : Value) (h6 : DomAt w6 c S4 t2) (hc6 : Chg S4 W5.drew w6) => cv_final h6 hst (hc5.drew.trans hc6 hst) (show w.heap.size ≤ w.heap.size + 1 + 1 + 1 by omega) htS u v)
    have HCH := Lib.hid (carve_change (hd5.quiet ((Chg.refl _ _).drew)) HK.out i0 i1 HMD.out HQ.out HF0.out (hcb.2.1.drew) (hcb.2.2.1.drew))
    have HBX := Lib.hid (fun (w6 : World) (hc6 : Chg S4 W5.drew w6) => (show Blk w6 bx 34 #[.int .i64 K0, .int .u64 G0] from (hbx.drew).chg hc6 (fun h => hbS (List.mem_cons_of_mem _ h))))
    have HRX := Lib.hid (fun (w6 : World) (hc6 : Chg S4 W5.drew w6) => (show Blk w6 w.heap.size 34 #[.int .i64 i, .int .u64 q] from (hcb.1.drew).chg hc6 (fun h => hrS (List.mem_cons_of_mem _ h))))
    have HTX := Lib.hid (fun (w6 : World) (hc6 : Chg S4 W5.drew w6) => (show Blk w6 (w.heap.size + 1 + 1 + 1) 34 #[.int .i64 0, .int .u64 0] from (hcb.2.2.2.drew).chg hc6 (fun h => htS (List.mem_cons_of_mem _ h))))
    have x0 := hbx.cell 0
    have x1 := hbx.cell 1
    have y0 := hcb.1.cell 0
    have y1 := hcb.1.cell 1
    have nb3 : ¬ (bx = w.heap.size + 1 + 1 + 1) := hnb
    have nb4 : ¬ (w.heap.size + 1 + 1 + 1 = bx) := fun e => hnb e.symm
    have nb5 : ¬ (w.heap.size + 1 + 1 + 1 = w.heap.size) := by omega
    have nb6 : ¬ (w.heap.size = w.heap.size + 1 + 1 + 1) := by omega
    clear hd5 hbx hcb hc5 hbS hrS htS hst hK0 hG0 hnb
    clear HB HC HB2 HX2 HC2 HB3 HC3 HW HCB4 HCB HP HN HM HG HS HRM HH
    go_region_held3 (fun w' => w'.cell? ⟨bx, 0, none⟩ = some (.int .i64 K0) ∧ w'.cell? ⟨bx, 1, none⟩ = some (.int .u64 G0) ∧ w'.cell? ⟨w.heap.size, 0, none⟩ = some (.int .i64 i) ∧ w'.cell? ⟨w.heap.size, 1, none⟩ = some (.int .u64 q))
      (first | go_keep)
      (first
        | (go_at_call 37; refine (HCH.out).mono ?_; rintro e w6 ⟨rfl, hd6, hc6⟩; have z0 := (HBX.out _ hc6).cell 0; have z1 := (HBX.out _ hc6).cell 1; have z2 := (HRX.out _ hc6).cell 0; have z3 := (HRX.out _ hc6).cell 1; have z4 := (HTX.out _ hc6).cell 0; have z5 := (HTX.out _ hc6).cell 1; have z6 := (HTX.out _ hc6).frozen; have z7 := (HTX.out _ hc6).lt; have HD6 := Lib.hid hd6; have HC6 := Lib.hid hc6; clear hd6 hc6))
    all_goals
      go_wp2
      refine bodyPost_ret (v := .tuple #[.agg #[.int .i64 K0, .int .u64 G0], .int .i64 0]) (by simp [results, Try.results34, go_sem, z4, z5, z7]) rfl (.inr ⟨HEE.out, by rw [HK0.out, HG0.out], ?_⟩)
      first | exact HF.out _ _ _ _ HD6.out HC6.out | (trace_state; fail)
end Go.Proofs
end
section
namespace Go.Proofs
open Go.RowKit
set_option linter.unusedVariables false
set_option linter.unusedSimpArgs false

def mayN (size gs cpu per : Int) : Bool := decide (1 ≤ size) && decide (size ≤ 32) && mayD gs cpu per
theorem mayN_iff {size gs cpu per : Int} : mayN size gs cpu per = true ↔ 1 ≤ size ∧ size ≤ 32 ∧ mayD gs cpu per = true := by unfold mayN; simp [and_assoc]
set_option maxRecDepth 100000 in
theorem New_no (w : World) {size gs cpu per : Int} (hc : 0 ≤ cpu) (hp : 0 ≤ per) (h : mayN size gs cpu per = false) :
    Calls Try.prog 30 #[.int .i64 size, .int .i64 gs, .int .u64 cpu, .int .u64 per] w fun e w' => e = .returned (.tuple #[.pointer none, .int .i64 2]) ∧ w = w' := by
  have HM := Lib.hid (fun W => mayD_any 56 (.inl rfl) gs cpu per hc hp W)
  by_cases a : size < 1
  · clear h
    go_enter Try.func30, Try.ntmps30
    go_wp2
    exact bodyPost_ret (v := .tuple #[.pointer none, .int .i64 2]) (by simp [results, Try.results30, go_sem]) rfl ⟨rfl, rfl⟩
  · by_cases b : 32 < size
    · clear h
      go_enter Try.func30, Try.ntmps30
      go_wp2
      exact bodyPost_ret (v := .tuple #[.pointer none, .int .i64 2]) (by simp [results, Try.results30, go_sem]) rfl ⟨rfl, rfl⟩
    · have hm : mayD gs cpu per = false := by
        cases hm : mayD gs cpu per with
        | false => rfl
        | true => unfold mayN at h; rw [hm] at h; simp at h; omega
      rw [hm] at HM
      clear h hm
      go_enter Try.func30, Try.ntmps30
      go_wp2_with (go_at_call 56; refine (HM.out _).mono ?_; rintro e w' ⟨rfl, rfl⟩)
      exact bodyPost_ret (v := .tuple #[.pointer none, .int .i64 2]) (by simp [results, Try.results30, go_sem]) rfl ⟨rfl, rfl⟩
/-- The table in which nothing was yet. -/
def tab0 (size : Int) : Tab Dm := ⟨size, 1, [], [], 0⟩
def rootD (gs cpu per : Int) : Dm := kid 0 0 gs cpu per
theorem tab0_wf {size : Int} (h0 : 1 ≤ size) (h1 : size ≤ 32) : (tab0 size).WF := Tab.WF.new h0 (by omega) (by omega) (by rw [topG_val]; omega)
theorem tab0_frees (size : Int) : (tab0 size).frees = size := by unfold Tab.frees tab0; simp
set_option maxRecDepth 100000 in
theorem New_yes (w : World) {size gs cpu per : Int} (hc : 0 ≤ cpu) (hp : 0 ≤ per) (h : mayN size gs cpu per = true) :
    Calls Try.prog 30 #[.int .i64 size, .int .i64 gs, .int .u64 cpu, .int .u64 per] w fun e w' => ∃ c S, e = .returned (.tuple #[ptr c, .int .i64 0]) ∧ DomAt w' c S ((tab0 size).put dm0 (rootD gs cpu per)) ∧ (∀ k ∈ c :: S, w.heap.size ≤ k) ∧ Chg [] w w' := by
  obtain ⟨h0, h1, hm⟩ := mayN_iff.1 h
  have HM := Lib.hid (fun W => mayD_any 56 (.inl rfl) gs cpu per hc hp W)
  rw [hm] at HM
  have HN := Lib.hid (fun W => new_ok_C (w := W) size 1 (by unfold mayT; simp; omega))
  have hwf := tab0_wf h0 h1
  have hfr : (tab0 size).frees ≠ 0 := by rw [tab0_frees]; omega
  have HP := Lib.hid (fun W g S (hT : TabAt W g S (tab0 size)) => put_ok_C hT hwf hfr (rootD gs cpu per))
  have HW := Lib.hid (hwf.put (z := dm0) hfr (rootD gs cpu per))
  have a0 : ¬ size < 1 := by omega
  have a1 : ¬ 32 < size := by omega
  obtain ⟨k0, hk0⟩ : ∃ k0, k0 = (tab0 size).takeAt := ⟨_, rfl⟩
  obtain ⟨q0, hq0⟩ : ∃ q0, q0 = (tab0 size).genAt (tab0 size).takeAt := ⟨_, rfl⟩
  rw [← hq0, ← hk0] at HP
  clear h hm hwf hfr hk0 hq0
  go_enter Try.func30, Try.ntmps30
  go_wp2_with (first
    | (go_at_call 56; refine (HM.out _).mono ?_; rintro e w' ⟨rfl, rfl⟩)
    | (go_at_call 57; refine (HN.out _).mono ?_; rintro e w1 ⟨rfl, hT, hc1⟩; have HT := Lib.hid hT; have HC1 := Lib.hid hc1; clear hT hc1)
    | (go_at_call 58; refine (HP.out _ _ _ HT.out).mono ?_; rintro e w2 ⟨rfl, S2, hT2, hs2, hc2⟩; have HT2 := Lib.hid hT2; have HS2 := Lib.hid hs2; have HC2 := Lib.hid hc2; clear hT2 hs2 hc2))
  have hz := HC1.out.size
  have hz2 := HC2.out.size
  refine bodyPost_ret (v := .tuple #[ptr w2.heap.size, .int .i64 0]) (by simp [results, Try.results30, go_sem]) rfl ⟨w2.heap.size, S2, rfl, ⟨w.heap.size, Blk.new w2 110 _, HT2.out.quiet ((Chg.refl [] w2).alloc _), HW.out⟩, fun k hk => ?_, ?_⟩
  · rcases List.mem_cons.1 hk with rfl | hk
    · omega
    · rcases HS2.out k hk with h | h
      · simp at h; omega
      · omega
  · refine ((HC1.out.any.trans HC2.out (fun k hk => .inl hk)).mono (S := [w.heap.size]) (fun k hk => by simp at hk; right; omega)).alloc _
end Go.Proofs
end
section
namespace Go.Proofs
open Go.RowKit
set_option linter.unusedVariables false
set_option linter.unusedSimpArgs false

/-! ### The document's domains, plainly -/
structure Pl where
  gen : Int
  is : Bool
  gs : Int
  cpu : Int
  per : Int
  pi : Int
  pg : Int
  own : Int
  used : Int
structure RTab where
  L : List Pl
  F : List Nat
def Pl.cells (p : Pl) : List Value := [.int .u64 p.gen, .bool p.is, .int .i64 p.gs, .int .u64 p.cpu, .int .u64 p.per, .int .i64 p.pi, .int .u64 p.pg, .int .i64 p.own, .int .u64 p.used]
abbrev Pl.val (p : Pl) : Value := .agg #[.int .u64 p.gen, .bool p.is, .int .i64 p.gs, .int .u64 p.cpu, .int .u64 p.per, .int .i64 p.pi, .int .u64 p.pg, .int .i64 p.own, .int .u64 p.used]
abbrev Pl.arr (p : Pl) : Array Value := #[.int .u64 p.gen, .bool p.is, .int .i64 p.gs, .int .u64 p.cpu, .int .u64 p.per, .int .i64 p.pi, .int .u64 p.pg, .int .i64 p.own, .int .u64 p.used]
def plCells (l : List Pl) : List Value := l.flatMap Pl.cells
theorem plCells_len (l : List Pl) : (plCells l).length = l.length * 9 := flat_len (enc := Pl.cells) (s := 9) (fun _ => rfl) l
theorem plCells_append (l l' : List Pl) : plCells (l ++ l') = plCells l ++ plCells l' := by unfold plCells; simp
theorem plCells_at (l : List Pl) (k : Nat) (p : Pl) (h : l[k]? = some p) : (plCells l)[k * 9]? = some (.int .u64 p.gen) ∧ (plCells l)[k * 9 + 1]? = some (.bool p.is) ∧ (plCells l)[k * 9 + 2]? = some (.int .i64 p.gs) ∧ (plCells l)[k * 9 + 3]? = some (.int .u64 p.cpu) ∧ (plCells l)[k * 9 + 4]? = some (.int .u64 p.per) ∧ (plCells l)[k * 9 + 5]? = some (.int .i64 p.pi) ∧ (plCells l)[k * 9 + 6]? = some (.int .u64 p.pg) ∧ (plCells l)[k * 9 + 7]? = some (.int .i64 p.own) ∧ (plCells l)[k * 9 + 8]? = some (.int .u64 p.used) := by
  have e := fun j u => flat_at (enc := Pl.cells) (s := 9) (fun _ => rfl) (j := j) (u := u) h
  exact ⟨e 0 _ rfl, e 1 _ rfl, e 2 _ rfl, e 3 _ rfl, e 4 _ rfl, e 5 _ rfl, e 6 _ rfl, e 7 _ rfl, e 8 _ rfl⟩
theorem flat_set {α : Type} {enc : α → List Value} {s : Nat} (hs : ∀ x, (enc x).length = s) : ∀ (l : List α) (k : Nat) (x y : α) (j : Nat) (u : Value), l[k]? = some x → enc y = (enc x).set j u → j < s → (l.set k y).flatMap enc = (l.flatMap enc).set (k * s + j) u
  | [], k, x, y, j, u, h, _, _ => by simp at h
  | a :: l, 0, x, y, j, u, h, hy, hj => by
    simp at h; subst h
    rw [List.set_cons_zero, List.flatMap_cons, List.flatMap_cons, hy, Nat.zero_mul, Nat.zero_add, List.set_append_left _ _ (by rw [hs]; exact hj)]
  | a :: l, k + 1, x, y, j, u, h, hy, hj => by
    rw [List.set_cons_succ, List.flatMap_cons, List.flatMap_cons, flat_set hs l k x y j u (by simpa using h) hy hj, List.set_append_right _ _ (by rw [hs, Nat.add_mul]; omega), hs]
    congr 2
    rw [Nat.add_mul]; omega
theorem pl_set {l : List Pl} {k : Nat} {p p' : Pl} {j : Nat} {u : Value} (h : l[k]? = some p) (hy : p'.cells = p.cells.set j u) (hj : j < 9) : plCells (l.set k p') = (plCells l).set (k * 9 + j) u :=
  flat_set (enc := Pl.cells) (s := 9) (fun _ => rfl) l k p p' j u h hy hj
/-- The nine cells of a place, set in memory. -/
abbrev put9 (w : World) (g o : Nat) (p : Pl) : World := ((((((((w.setCell ⟨g, o, none⟩ (.int .u64 p.gen)).setCell ⟨g, o + 1, none⟩ (.bool p.is)).setCell ⟨g, o + 2, none⟩ (.int .i64 p.gs)).setCell ⟨g, o + 3, none⟩ (.int .u64 p.cpu)).setCell ⟨g, o + 4, none⟩ (.int .u64 p.per)).setCell ⟨g, o + 5, none⟩ (.int .i64 p.pi)).setCell ⟨g, o + 6, none⟩ (.int .u64 p.pg)).setCell ⟨g, o + 7, none⟩ (.int .i64 p.own)).setCell ⟨g, o + 8, none⟩ (.int .u64 p.used)
theorem chg_put9 {S : List Nat} {a w : World} {g : Nat} (h : Chg S a w) (hg : g ∈ S ∨ a.heap.size ≤ g) (o : Nat) (p : Pl) : Chg S a (put9 w g o p) :=
  ((((((((h.setCell (p := ⟨g, o, none⟩) hg _).setCell (p := ⟨g, o + 1, none⟩) hg _).setCell (p := ⟨g, o + 2, none⟩) hg _).setCell (p := ⟨g, o + 3, none⟩) hg _).setCell (p := ⟨g, o + 4, none⟩) hg _).setCell (p := ⟨g, o + 5, none⟩) hg _).setCell (p := ⟨g, o + 6, none⟩) hg _).setCell (p := ⟨g, o + 7, none⟩) hg _).setCell (p := ⟨g, o + 8, none⟩) hg _
theorem pl_put {l : List Pl} {k : Nat} (p' : Pl) : k < l.length → plCells (l.set k p') = (((((((((plCells l).set (k * 9) (.int .u64 p'.gen)).set (k * 9 + 1) (.bool p'.is)).set (k * 9 + 2) (.int .i64 p'.gs)).set (k * 9 + 3) (.int .u64 p'.cpu)).set (k * 9 + 4) (.int .u64 p'.per)).set (k * 9 + 5) (.int .i64 p'.pi)).set (k * 9 + 6) (.int .u64 p'.pg)).set (k * 9 + 7) (.int .i64 p'.own)).set (k * 9 + 8) (.int .u64 p'.used) := by
  induction l generalizing k with
  | nil => intro h; simp at h
  | cons a l ih =>
    intro h
    cases k with
    | zero => simp [plCells, Pl.cells]
    | succ k =>
      have := ih (k := k) (by simpa using h)
      unfold plCells at this ⊢
      rw [List.set_cons_succ, List.flatMap_cons, List.flatMap_cons, this]
      have e : ∀ (m : List Value) (j : Nat) (u : Value), (Pl.cells a ++ m).set ((k + 1) * 9 + j) u = Pl.cells a ++ m.set (k * 9 + j) u := fun m j u => by
        rw [List.set_append_right _ _ (by simp [Pl.cells]; omega)]
        simp [Pl.cells]; congr 1; omega
      have e0 := fun m u => e m 0 u
      simp only [Nat.add_zero] at e0
      rw [e0, e, e, e, e, e, e, e, e]
theorem Row.put9_ {w : World} {e : TypeId} {n g cap : Nat} {l : List Pl} (h : Row w e 9 (.slice (some ⟨g, 0, none⟩) n cap) n (plCells l)) {k : Nat} (hk : k < n) (hl : l.length = n) (p : Pl) :
    Row (put9 w g (k * 9) p) e 9 (.slice (some ⟨g, 0, none⟩) n cap) n (plCells (l.set k p)) := by
  rw [pl_put p (by omega)]
  exact ((((((((h.set_ (j := k * 9) (by omega) _).set_ (j := k * 9 + 1) (by omega) _).set_ (j := k * 9 + 2) (by omega) _).set_ (j := k * 9 + 3) (by omega) _).set_ (j := k * 9 + 4) (by omega) _).set_ (j := k * 9 + 5) (by omega) _).set_ (j := k * 9 + 6) (by omega) _).set_ (j := k * 9 + 7) (by omega) _).set_ (j := k * 9 + 8) (by omega) _

/-- The document's domains in memory; S are the blocks. -/
def RefAt (w : World) (h : Nat) (S : List Nat) (r : RTab) : Prop :=
  ∃ VL VF, Blk w h 88 #[VL, VF] ∧ Row w 85 9 VL r.L.length (plCells r.L) ∧ Row w 3 1 VF r.F.length (numCells r.F) ∧ S = h :: (foot VL ++ foot VF)
section
variable {w w' : World} {h : Nat} {S : List Nat} {r : RTab}
theorem RefAt.lt (hr : RefAt w h S r) : ∀ k ∈ S, k < w.heap.size := by
  obtain ⟨VL, VF, hB, hL, hF, rfl⟩ := hr
  intro k hk
  simp only [List.mem_cons, List.mem_append] at hk
  rcases hk with rfl | hk | hk
  · exact hB.lt
  · exact hL.lt k hk
  · exact hF.lt k hk
theorem RefAt.mem (hr : RefAt w h S r) : h ∈ S := by obtain ⟨VL, VF, hB, hL, hF, rfl⟩ := hr; simp
theorem RefAt.chg {S' : List Nat} (hr : RefAt w h S r) (hc : Chg S' w w') (hn : ∀ k ∈ S, k ∉ S') : RefAt w' h S r := by
  obtain ⟨VL, VF, hB, hL, hF, rfl⟩ := hr
  exact ⟨VL, VF, hB.chg hc (hn h (by simp)), hL.chg hc (fun k hk => hn k (by simp [hk])), hF.chg hc (fun k hk => hn k (by simp [hk])), rfl⟩
theorem RefAt.quiet (hr : RefAt w h S r) (hc : Chg [] w w') : RefAt w' h S r := hr.chg hc (fun _ _ hk => by cases hk)
theorem RefAt.box (hr : RefAt w h S r) : ∀ k, w.heap.size ≤ k → k ∉ S := fun k hk hm => by have := hr.lt k hm; omega
theorem RefAt.not_box {b : Nat} {e : TypeId} {cs : Array Value} (hr : RefAt w h S r) (hB : Blk w b e cs) (h1 : 88 ≠ e) (h2 : 85 ≠ e) (h3 : 3 ≠ e) : b ∉ S := by
  obtain ⟨VL, VF, hB', hL, hF, rfl⟩ := hr
  simp only [List.mem_cons, List.mem_append, not_or]
  exact ⟨fun e => Blk.ty hB' hB h1 e.symm, hL.ty hB h2, hF.ty hB h3⟩
end
/-- What a call on the document's domains leaves. -/
def RTurns (h : Nat) (S : List Nat) (r' : RTab) (w w' : World) : Prop := ∃ S', RefAt w' h S' r' ∧ (∀ k ∈ S', k ∈ S ∨ w.heap.size ≤ k) ∧ Chg S w w'
theorem RTurns.refl {h : Nat} {S : List Nat} {r : RTab} {a b : World} (hr : RefAt a h S r) (hc : Chg [] a b) : RTurns h S r a b := ⟨S, hr.quiet hc, fun k hk => .inl hk, hc.any⟩
theorem RTurns.later {h : Nat} {S : List Nat} {r : RTab} {a b c : World} (hr : RTurns h S r a b) (hc : Chg [] b c) : RTurns h S r a c := by
  obtain ⟨S', h1, h2, h3⟩ := hr
  exact ⟨S', h1.quiet hc, h2, h3.then hc⟩
theorem RTurns.earlier {h : Nat} {S : List Nat} {r : RTab} {a b c : World} (hr : RTurns h S r b c) (hc : Chg [] a b) : RTurns h S r a c := by
  obtain ⟨S', h1, h2, h3⟩ := hr
  exact ⟨S', h1, fun k hk => (h2 k hk).imp id (fun h => Nat.le_trans hc.size h), (Chg.any hc).trans h3 (fun k hk => .inl hk)⟩
theorem RTurns.trans {h : Nat} {S S1 : List Nat} {r2 : RTab} {a b d : World} (hs : ∀ k ∈ S1, k ∈ S ∨ a.heap.size ≤ k) (hc : Chg S a b) (hr : RTurns h S1 r2 b d) : RTurns h S r2 a d := by
  obtain ⟨S2, h1, h2, h3⟩ := hr
  refine ⟨S2, h1, fun k hk => ?_, hc.trans h3 hs⟩
  rcases h2 k hk with h | h
  · exact hs k h
  · exact .inr (Nat.le_trans hc.size h)
/-- A box of the caller's own is written to. -/
theorem RTurns.box {w w3 w4 : World} {h b : Nat} {S : List Nat} {r : RTab} {e : TypeId} {cs : Array Value} (hr : RTurns h S r w w3) (hB : Blk w3 b e cs) (e1 : 88 ≠ e) (e2 : 85 ≠ e) (e3 : 3 ≠ e) (hb : w.heap.size ≤ b) (hc : Chg [b] w3 w4) : RTurns h S r w w4 := by
  obtain ⟨S', h1, k2, k3⟩ := hr
  have hn := h1.not_box hB e1 e2 e3
  exact ⟨S', h1.chg hc (fun k hk => by simp; rintro rfl; exact hn hk), k2, k3.trans hc (fun k hk => by simp at hk; subst hk; exact .inr hb)⟩
def RTab.pl? (r : RTab) (i : Int) : Option Pl := if 0 ≤ i then r.L[i.toNat]? else none
def RTab.is (r : RTab) (i q : Int) : Bool := match r.pl? i with | some p => p.is && (p.gen == q) | none => false
theorem ris_iff {r : RTab} {i q : Int} : r.is i q = true ↔ ∃ (k : Nat) (p : Pl), i = (k : Nat) ∧ r.L[k]? = some p ∧ p.is = true ∧ p.gen = q := by
  unfold RTab.is RTab.pl?
  by_cases h0 : 0 ≤ i
  · obtain ⟨k, rfl⟩ := Int.eq_ofNat_of_zero_le h0
    rw [if_pos h0]
    cases hp : r.L[((k : Nat) : Int).toNat]? with
    | none =>
      simp only [Int.toNat_natCast] at hp
      constructor
      · intro h; cases h
      · rintro ⟨k', p, e, hp', _⟩
        have : k = k' := by omega
        subst this
        rw [hp] at hp'; cases hp'
    | some p =>
      simp only [Int.toNat_natCast] at hp
      simp only [Bool.and_eq_true, beq_iff_eq]
      constructor
      · rintro ⟨h1, h2⟩; exact ⟨k, p, rfl, hp, h1, h2⟩
      · rintro ⟨k', p', e, hp', h1, h2⟩
        have : k = k' := by omega
        subst this
        rw [hp] at hp'; cases hp'
        exact ⟨h1, h2⟩
  · rw [if_neg h0]
    constructor
    · intro h; cases h
    · rintro ⟨k, p, rfl, _⟩; omega
/-- What there is at a place, in every world in which nothing turned. -/
theorem RefAt.tell {w : World} {h : Nat} {S : List Nat} {r : RTab} (hr : RefAt w h S r) (h0 : 0 < r.L.length) :
    ∃ gl cl A cF, h ≠ gl ∧ r.L.length ≤ cl ∧ gl ∈ S ∧ gl < w.heap.size ∧ h < w.heap.size ∧ ∀ W, Chg [] w W →
      W.cell? ⟨h, 0, none⟩ = some (.slice (some ⟨gl, 0, none⟩) r.L.length cl) ∧ W.cell? ⟨h, 1, none⟩ = some (.slice A r.F.length cF) ∧ h < W.heap.size ∧ gl < W.heap.size ∧ (∀ j, W.frozen? ⟨gl, j, none⟩ = false) ∧ (∀ j, W.frozen? ⟨h, j, none⟩ = false) ∧
      ∀ (k : Nat) (p : Pl), r.L[k]? = some p → W.cell? ⟨gl, k * 9, none⟩ = some (.int .u64 p.gen) ∧ W.cell? ⟨gl, k * 9 + 1, none⟩ = some (.bool p.is) ∧ W.cell? ⟨gl, k * 9 + 2, none⟩ = some (.int .i64 p.gs) ∧ W.cell? ⟨gl, k * 9 + 3, none⟩ = some (.int .u64 p.cpu) ∧ W.cell? ⟨gl, k * 9 + 4, none⟩ = some (.int .u64 p.per) ∧ W.cell? ⟨gl, k * 9 + 5, none⟩ = some (.int .i64 p.pi) ∧ W.cell? ⟨gl, k * 9 + 6, none⟩ = some (.int .u64 p.pg) ∧ W.cell? ⟨gl, k * 9 + 7, none⟩ = some (.int .i64 p.own) ∧ W.cell? ⟨gl, k * 9 + 8, none⟩ = some (.int .u64 p.used) := by
  obtain ⟨VL, VF, hB, hL, hF, rfl⟩ := hr
  obtain ⟨gl, cl, rfl, hft, hc, hcell, hfz, hlt⟩ := hL.form h0
  obtain ⟨A, cF, rfl, _⟩ := hF.val
  have hne : h ≠ gl := by have := hL.ty hB (by decide); simpa [foot_some] using this
  refine ⟨gl, cl, A, cF, hne, hc, by simp [foot_some], hlt, hB.lt, fun W hcW => ?_⟩
  have hB' := hB.chg hcW (by simp)
  have e : ∀ o, W.cell? ⟨gl, o, none⟩ = w.cell? ⟨gl, o, none⟩ := fun o => hcW.cell (p := ⟨gl, o, none⟩) hlt (by simp)
  refine ⟨hB'.cell 0, hB'.cell 1, hB'.lt, Nat.lt_of_lt_of_le hlt hcW.size, fun j => (hcW.frozen (p := ⟨gl, j, none⟩) hlt (by simp)).trans (hfz j), hB'.frozen, fun k p hp => ?_⟩
  obtain ⟨c0, c1, c2, c3, c4, c5, c6, c7, c8⟩ := plCells_at r.L k p hp
  exact ⟨(e _).trans (hcell _ _ c0), (e _).trans (hcell _ _ c1), (e _).trans (hcell _ _ c2), (e _).trans (hcell _ _ c3), (e _).trans (hcell _ _ c4), (e _).trans (hcell _ _ c5), (e _).trans (hcell _ _ c6), (e _).trans (hcell _ _ c7), (e _).trans (hcell _ _ c8)⟩
/-- A place is another one now. -/
theorem RTurns.write {w W W2 : World} {h gl cl : Nat} {S : List Nat} {r : RTab} {k : Nat} {p' : Pl} (hr : RefAt w h S r) (hv : w.cell? ⟨h, 0, none⟩ = some (.slice (some ⟨gl, 0, none⟩) r.L.length cl)) (hc : Chg [] w W) (h2 : Chg [gl] W W2)
    (hrow : Row W2 85 9 (.slice (some ⟨gl, 0, none⟩) r.L.length cl) r.L.length (plCells (r.L.set k p'))) :
    RTurns h S { r with L := r.L.set k p' } w W2 := by
  obtain ⟨VL, VF, hB, hL, hF, rfl⟩ := hr
  have e0 : VL = .slice (some ⟨gl, 0, none⟩) r.L.length cl := by
    have := hB.cell 0
    simp only [List.getElem?_toArray, List.getElem?_cons_zero] at this
    rw [this] at hv
    exact Option.some.inj hv
  subst e0
  have hne : h ≠ gl := by have := hL.ty hB (by decide); simpa [foot_some] using this
  have hfn : gl ∉ foot VF := fun hm => hL.ty2 hF (by decide) gl (by simp [foot_some]) hm
  refine ⟨_, ⟨_, VF, (hB.chg hc (by simp)).chg h2 (by simpa using hne), by simpa using hrow, (hF.chg hc (fun _ _ h => by cases h)).chg h2 (fun k hk e => hfn (by simp at e; exact e ▸ hk)), rfl⟩, fun k hk => .inl hk, ?_⟩
  exact (Chg.any hc).trans h2 (fun k hk => .inl (by simp at hk; simp [hk, foot_some]))
theorem RefAt.row {w : World} {h gl cl : Nat} {S : List Nat} {r : RTab} (hr : RefAt w h S r) (hv : w.cell? ⟨h, 0, none⟩ = some (.slice (some ⟨gl, 0, none⟩) r.L.length cl)) : Row w 85 9 (.slice (some ⟨gl, 0, none⟩) r.L.length cl) r.L.length (plCells r.L) := by
  obtain ⟨VL, VF, hB, hL, hF, rfl⟩ := hr
  have e0 : VL = .slice (some ⟨gl, 0, none⟩) r.L.length cl := by
    have := hB.cell 0
    simp only [List.getElem?_toArray, List.getElem?_cons_zero] at this
    rw [this] at hv
    exact Option.some.inj hv
  subst e0
  exact hL
set_option maxHeartbeats 1600000 in
set_option maxRecDepth 100000 in
theorem ris_any {w : World} {h : Nat} {S : List Nat} {r : RTab} (hr : RefAt w h S r) (h0 : 0 < r.L.length) (i q : Int) :
    Calls Try.prog 40 #[ptr h, .agg #[.int .i64 i, .int .u64 q]] w fun e w' => e = .returned (.bool (r.is i q)) ∧ Chg [] w w' := by
  obtain ⟨gl, cl, A, cF, hne, hcl, _, lg, lh, htell⟩ := hr.tell h0
  obtain ⟨a0, _, _, _, _, _, hpl⟩ := htell w (Chg.refl _ _)
  obtain ⟨n, hnn⟩ : ∃ n, n = r.L.length := ⟨_, rfl⟩
  rw [← hnn] at a0 hcl
  by_cases h0 : i < 0
  · have e : r.is i q = false := by unfold RTab.is RTab.pl?; rw [if_neg (by omega)]
    rw [e]
    have d0 : decide (0 ≤ i) = false := by simp; omega
    clear hr e htell hpl
    go_enter Try.func40, Try.ntmps40
    go_wp2
    go_quiet (fail)
    go_wp2
    go_ret
    exact ⟨rfl, ((Chg.refl _ _).alloc _).drewN _⟩
  · obtain ⟨k, rfl⟩ := Int.eq_ofNat_of_zero_le (by omega : 0 ≤ i)
    have d0 : decide (0 ≤ (k : Int)) = true := by simp
    by_cases h1 : k < n
    · obtain ⟨p, hp⟩ : ∃ p, r.L[k]? = some p := ⟨_, List.getElem?_eq_getElem (by omega)⟩
      obtain ⟨b0, b1, _⟩ := hpl k p hp
      have d1 : decide ((k : Int) < (n : Int)) = true := by simp; omega
      have i0 : (0 : Int) ≤ (k : Int) := by omega
      have i1 : (k : Int) < (n : Int) := by omega
      cases ht : p.is with
      | false =>
        have e : r.is (k : Nat) q = false := by unfold RTab.is RTab.pl?; rw [if_pos (by omega)]; simp [hp, ht]
        rw [e]
        rw [ht] at b1
        clear hr e htell hpl hp hnn h1 ht b0
        go_enter Try.func40, Try.ntmps40
        go_wp2
        go_quiet (fail)
        go_wp2
        go_ret
        exact ⟨rfl, ((Chg.refl _ _).alloc _).drewN _⟩
      | true =>
        have e : r.is (k : Nat) q = (p.gen == q) := by unfold RTab.is RTab.pl?; rw [if_pos (by omega)]; simp [hp, ht]
        rw [e]
        rw [ht] at b1
        obtain ⟨G, hG⟩ : ∃ G, G = p.gen := ⟨_, rfl⟩
        rw [← hG] at b0 ⊢
        clear hr e htell hpl hp hnn h1 ht hG
        go_enter Try.func40, Try.ntmps40
        go_wp2
        go_quiet (fail)
        go_wp2
        go_ret
        exact ⟨rfl, ((Chg.refl _ _).alloc _).drewN _⟩
    · have e : r.is (k : Nat) q = false := by unfold RTab.is RTab.pl?; rw [if_pos (by omega)]; simp only [Int.toNat_natCast]; rw [List.getElem?_eq_none (by omega)]
      rw [e]
      have d1 : decide ((k : Int) < (n : Int)) = false := by simp; omega
      clear hr e htell hpl hnn
      go_enter Try.func40, Try.ntmps40
      go_wp2
      go_quiet (fail)
      go_wp2
      go_ret
      exact ⟨rfl, ((Chg.refl _ _).alloc _).drewN _⟩
end Go.Proofs
end
section
namespace Go.Proofs
open Go.RowKit
set_option linter.unusedVariables false
set_option linter.unusedSimpArgs false

/-- What a ref's parent is, by the document. -/
def RTab.par (r : RTab) : PF := fun i q => if r.is i q then (match r.pl? i with | some p => some (p.pi, p.pg) | none => none) else none
theorem rpar_none {r : RTab} {i q : Int} : r.par i q = none ↔ r.is i q = false := by
  unfold RTab.par
  cases hq : r.is i q with
  | false => simp
  | true =>
    obtain ⟨k, p, rfl, hp, _⟩ := ris_iff.1 hq
    have : r.pl? (k : Nat) = some p := by unfold RTab.pl?; simp [hp]
    simp [this]
theorem rpar_some {r : RTab} {i q a b : Int} : r.par i q = some (a, b) ↔ ∃ (k : Nat) (p : Pl), i = (k : Nat) ∧ r.L[k]? = some p ∧ p.is = true ∧ p.gen = q ∧ p.pi = a ∧ p.pg = b := by
  unfold RTab.par
  cases hq : r.is i q with
  | false =>
    constructor
    · intro h; simp at h
    · rintro ⟨k, p, h1, h2, h3, h4, _⟩
      have := ris_iff.2 ⟨k, p, h1, h2, h3, h4⟩
      rw [hq] at this; cases this
  | true =>
    obtain ⟨k, p, rfl, hp, h3, h4⟩ := ris_iff.1 hq
    have : r.pl? (k : Nat) = some p := by unfold RTab.pl?; simp [hp]
    simp only [if_true, this, Option.some.injEq, Prod.mk.injEq]
    constructor
    · rintro ⟨h1, h2⟩; exact ⟨k, p, rfl, hp, h3, h4, h1, h2⟩
    · rintro ⟨k', p', e, hp', _, _, h1, h2⟩
      have : k = k' := by omega
      subst this
      rw [hp] at hp'; cases hp'
      exact ⟨h1, h2⟩
set_option maxHeartbeats 3200000 in
set_option maxRecDepth 100000 in
theorem rchain_any {w : World} {h : Nat} {S : List Nat} {r : RTab} (hr : RefAt w h S r) (h0 : 0 < r.L.length) {i q : Int} {L : List (Int × Int)} (hU : Up r.par i q L) (hL : L.length ≤ 100000) :
    Calls Try.prog 36 #[ptr h, .agg #[.int .i64 i, .int .u64 q]] w fun e w' => ∃ A cc, e = .returned (.slice A L.length cc) ∧ Row w' 34 2 (.slice A L.length cc) L.length (refCells L) ∧ (∀ k ∈ foot (.slice A L.length cc), w.heap.size ≤ k) ∧ Chg [] w w' := by
  obtain ⟨gl, cl, A9, cF, hne, hcl, _, lg, lh, htell⟩ := hr.tell h0
  have HT := Lib.hid htell
  have HI := Lib.hid (fun W (hc : Chg [] w W) a b => ris_any (hr.quiet hc) h0 a b)
  obtain ⟨in0, hi0, hq0, hq1, hq2⟩ := info_parts Try.info_R
  obtain ⟨n, hnn⟩ : ∃ n, n = r.L.length := ⟨_, rfl⟩
  rw [← hnn] at HT hcl
  have HN := Lib.hid hnn
  clear hr htell h0 hnn
  go_enter Try.func36, Try.ntmps36
  go_wp2
  go_loopg [5] L.length (fun gh v wr => ∃ (pre rest : List (Int × Int)) (a b : Int) (A : Option Addr) (cc : Nat), gh = rest.length ∧ v = .slice A pre.length cc ∧ Hid (L = pre ++ rest ∧ Up r.par a b rest ∧ Chg [] w wr ∧ Row wr 34 2 (.slice A pre.length cc) pre.length (refCells pre) ∧ (∀ k ∈ foot (.slice A pre.length cc), w.heap.size + 1 ≤ k)) ∧ Hid (Blk wr w.heap.size 34 #[.int .i64 a, .int .u64 b]))
  case atStart => exact ⟨[], L, i, q, none, 0, rfl, rfl, Lib.hid ⟨rfl, hU, (Chg.refl _ _).alloc _, Row.nil _ _ _, fun k hk => (by cases hk)⟩, Lib.hid (Blk.new w 34 _)⟩
  case round =>
    obtain ⟨pre, rest, a, b, A, cc, rfl, rfl, HH, HB⟩ := hrel
    obtain ⟨hLL, hup, hc, hrow, hft⟩ := HH.out
    have c0 := HB.out.cell 0
    have c1 := HB.out.cell 1
    have lB := HB.out.lt
    have HI1 := Lib.hid (HI.out _ hc a b)
    cases rest with
    | nil =>
      have hno := rpar_none.1 hup.nil
      rw [hno] at HI1
      have HL := Lib.hid hLL
      have HC := Lib.hid hc
      have HR := Lib.hid hrow
      have HF := Lib.hid hft
      clear hno hup hLL hc hrow hft HH
      go_wp2_with (go_at_call 40; refine HI1.out.mono ?_; rintro e w1 ⟨rfl, hc1⟩; have HC1 := Lib.hid hc1; clear hc1)
      go_ret
      have hl : L.length = pre.length := by rw [HL.out]; simp
      refine ⟨A, cc, by rw [hl]; rfl, ?_, ?_, HC.out.then HC1.out⟩
      · rw [hl]
        have : refCells L = refCells pre := by rw [HL.out, List.append_nil]
        rw [this]
        exact HR.out.chg HC1.out (fun _ _ h => by cases h)
      · rw [hl]; exact fun k hk => by have := HF.out k hk; omega
    | cons y rest =>
      obtain ⟨rfl, pa, pb, hfab, hup'⟩ := hup.cons
      obtain ⟨k, p, rfl, hp, h3, rfl, rfl, rfl⟩ := rpar_some.1 hfab
      rw [ris_iff.2 ⟨k, p, rfl, hp, h3, rfl⟩] at HI1
      have hkn : k < n := by have := (List.getElem?_eq_some_iff.1 hp).1; have := HN.out; omega
      have i0 : (0 : Int) ≤ (k : Int) := by omega
      have i1 : (k : Int) < (n : Int) := by omega
      have hpl : pre.length + 1 ≤ 100001 := by rw [hLL] at hL; simp at hL; omega
      have HL := Lib.hid hLL
      have HC := Lib.hid hc
      have HR := Lib.hid hrow
      have HF := Lib.hid hft
      have HUP := Lib.hid hup'
      have hn1 : w.heap.size ∉ foot (.slice A pre.length cc) := fun h => by have := hft _ h; omega
      have hn2 : (Value.slice A pre.length cc).ownBlock ≠ some w.heap.size := fun e => hn1 (row_mem e)
      have HPP := Lib.hid hp
      obtain ⟨pgen, hpgen⟩ : ∃ pgen, pgen = p.gen := ⟨_, rfl⟩
      rw [← hpgen] at HI1 HB HL c1
      have HGEN := Lib.hid hpgen
      clear hup hup' hLL hc hrow hft HH hfab hpgen h3
      go_wp2_with (first
        | (go_at_call 40; refine HI1.out.mono ?_; rintro e w1 ⟨rfl, hc1⟩; have HC1 := Lib.hid hc1; have hb1 := HB.out.chg hc1 (by simp); have HB1 := Lib.hid hb1; have c10 := hb1.cell 0; have c11 := hb1.cell 1; have lb1 := hb1.lt; have HR1 := Lib.hid (HR.out.chg hc1 (fun _ _ h => by cases h)); clear hc1 hb1)
        | (at_builtin; refine wpList_append_row _ rfl _ _ 27 rfl 34 in0 (.agg #[.int .i64 0, .int .u64 0]) 2 16 Try.underlying27 hi0 hq0 hq1 hq2 rfl (.slice A pre.length cc) pre.length (refCells pre) rfl (HR1.out.alloc _) ⟨w1.heap.size, 0, none⟩ 1 1 [.int .i64 (k : Nat), .int .u64 pgen] rfl rfl (World.news_of_block (cs := #[.int .i64 (k : Nat), .int .u64 pgen]) (t := 34) (fr := (0, 0)) (heap_alloc_new w1 _)) (by simp [Value.oneCell']) (by omega) (by unfold maxLen; omega) (by omega) (w1.heap.size + 1) (by simp) ?_; intro gg cap w2 hown hgrow hat hlt1; have HOWN := Lib.hid hown; have HG := Lib.hid hgrow; have HAT := Lib.hid hat; clear hown hgrow hat))
      have hgg : gg ∈ foot (.slice A pre.length cc) ∨ gg = w1.heap.size + 1 := HAT.out.imp (fun h => row_mem h) id
      have hc12 : Chg (foot (.slice A pre.length cc)) w1 w2 := ((Chg.refl _ w1).alloc _).grown HG.out (fun k hk => .inl (row_mem hk))
      have hcw2 : Chg [] w w2 := ((HC.out.then HC1.out).any.trans hc12 (fun k hk => .inl hk)).mono (fun k hk => .inr (by have := HF.out k hk; omega))
      have hb2 : Blk w2 w.heap.size 34 #[.int .i64 (k : Nat), .int .u64 pgen] := HB1.out.chg hc12 hn1
      obtain ⟨a0, _, lh2, lg2, fz, _, hpl2⟩ := HT.out _ hcw2
      obtain ⟨_, _, _, _, _, q5, q6, _, _⟩ := hpl2 k p HPP.out
      have d0 := hb2.cell 0
      have d1 := hb2.cell 1
      have df := hb2.frozen
      have lb2 := hb2.lt
      have HB2 := Lib.hid hb2
      have HCW2 := Lib.hid hcw2
      have hgw : gg ≠ w.heap.size := by
        rcases hgg with h | h
        · have := HF.out _ h; omega
        · omega
      have HGG := Lib.hid hgg
      have hlw : w.heap.size < w1.heap.size := lb1
      clear hb2 hcw2 hc12 hpl2 hgg
      go_wp2
      go_still_tail 9, (by kernel_rfl)
      (try change wpStill _ _ (World.drew _) _ _ _)
      (repeat still_step)
      (try refine wpStill_nil ?_)
      (try change wpList _ _ _ _ _ (World.drew _))
      go_wp2
      go_roundg rest.length
      case measure => simp
      case rel =>
        refine ⟨pre ++ [(((k : Nat) : Int), pgen)], rest, p.pi, p.pg, some ⟨gg, 0, none⟩, cap, rfl, by rw [List.length_append]; rfl, Lib.hid ⟨by rw [HL.out]; simp, HUP.out, ?_, ?_, ?_⟩, Lib.hid ?_⟩
        · exact (HCW2.out.drew.setCell (.inr (by simp)) _).setCell (.inr (by simp)) _
        · rw [refCells_snoc, List.length_append]
          exact (HOWN.out.drew.far (by simpa [foot_some] using fun e => hgw e.symm) _).far (by simpa [foot_some] using fun e => hgw e.symm) _
        · intro j hj
          rw [List.length_append] at hj
          simp [foot_some] at hj
          subst hj
          rcases HGG.out with h | h
          · have := HF.out _ h; omega
          · omega
        · exact (HB2.out.drew.set_ 0 (.int .i64 p.pi)).set_ 1 (.int .u64 p.pg)
end Go.Proofs
end
section
namespace Go.Proofs
open Go.RowKit
set_option linter.unusedVariables false
set_option linter.unusedSimpArgs false

/-! ### A domain's children -/
def RTab.kidP (r : RTab) (i q : Int) (k : Nat) : Bool := match r.L[k]? with | some p => p.is && (p.pi == i && p.pg == q) | none => false
def RTab.kidsTo (r : RTab) (i q : Int) (k : Nat) : List Nat := (List.range k).filter (r.kidP i q)
def RTab.kids (r : RTab) (i q : Int) : List Nat := r.kidsTo i q r.L.length
theorem kidsTo_yes {r : RTab} {i q : Int} {k : Nat} (h : r.kidP i q k = true) : r.kidsTo i q (k + 1) = r.kidsTo i q k ++ [k] := by unfold RTab.kidsTo; rw [List.range_succ, List.filter_append]; simp [h]
theorem kidsTo_no {r : RTab} {i q : Int} {k : Nat} (h : r.kidP i q k = false) : r.kidsTo i q (k + 1) = r.kidsTo i q k := by unfold RTab.kidsTo; rw [List.range_succ, List.filter_append]; simp [h]
theorem kidsTo_len (r : RTab) (i q : Int) (k : Nat) : (r.kidsTo i q k).length ≤ k := by unfold RTab.kidsTo; have := List.length_filter_le (r.kidP i q) (List.range k); simpa using this
theorem numCells_snoc (l : List Nat) (k : Nat) : numCells (l ++ [k]) = numCells l ++ [.int .i64 ((k : Nat) : Int)] := by unfold numCells; simp
theorem numCells_at {l : List Nat} {j k : Nat} (h : l[j]? = some k) : (numCells l)[j]? = some (.int .i64 ((k : Nat) : Int)) := by unfold numCells; simp [h]
set_option maxHeartbeats 6400000 in
set_option maxRecDepth 100000 in
theorem rkids_any {w : World} {h : Nat} {S : List Nat} {r : RTab} (hr : RefAt w h S r) (h0 : 0 < r.L.length) (hn : r.L.length ≤ 1000) (i q : Int) :
    Calls Try.prog 68 #[ptr h, .agg #[.int .i64 i, .int .u64 q]] w fun e w' => ∃ A cc, e = .returned (.slice A (r.kids i q).length cc) ∧ Row w' 3 1 (.slice A (r.kids i q).length cc) (r.kids i q).length (numCells (r.kids i q)) ∧ (∀ k ∈ foot (.slice A (r.kids i q).length cc), w.heap.size ≤ k) ∧ Chg [] w w' := by
  obtain ⟨gl, cl, A9, cF, hne, hcl, _, lg, lh, htell⟩ := hr.tell h0
  have HT := Lib.hid htell
  obtain ⟨in0, hi0, hq0, hq1, hq2⟩ := info_parts Try.num_info_C
  obtain ⟨n, hnn⟩ : ∃ n, n = r.L.length := ⟨_, rfl⟩
  rw [← hnn] at HT hcl hn
  have HN := Lib.hid hnn
  have hkk : r.kids i q = r.kidsTo i q n := by unfold RTab.kids; rw [hnn]
  rw [hkk]
  clear hr htell h0 hnn hkk
  go_enter Try.func68, Try.ntmps68
  go_wp2
  go_loopg [5, 6] n (fun gh v iv wr => ∃ (k : Nat) (A : Option Addr) (cc : Nat), k + gh = n ∧ iv = .int .i64 k ∧ v = .slice A (r.kidsTo i q k).length cc ∧ Hid (Chg [] (w.alloc (obRef i q)) wr ∧ Row wr 3 1 (.slice A (r.kidsTo i q k).length cc) (r.kidsTo i q k).length (numCells (r.kidsTo i q k)) ∧ (∀ k' ∈ foot (.slice A (r.kidsTo i q k).length cc), (w.alloc (obRef i q)).heap.size ≤ k')))
  case atStart => exact ⟨0, none, 0, by omega, rfl, rfl, Lib.hid ⟨Chg.refl _ _, Row.nil _ _ _, fun k hk => (by cases hk)⟩⟩
  case round =>
    obtain ⟨k, A, cc, hk, rfl, rfl, HH⟩ := hrel
    obtain ⟨hc, hrow, hft⟩ := HH.out
    have hcw : Chg [] w wr := ((Chg.refl [] w).alloc _).then hc
    obtain ⟨a0, _, lhr, lgr, _, _, hpl⟩ := HT.out wr hcw
    have hbR := (Blk.new w 34 #[.int .i64 i, .int .u64 q]).chg hc (by simp)
    have r0 := hbR.cell 0
    have r1 := hbR.cell 1
    have HC := Lib.hid hc
    have HR := Lib.hid hrow
    have HF := Lib.hid hft
    have hkl := kidsTo_len r i q k
    by_cases hlt : k < n
    · have k0 : (0 : Int) ≤ (k : Int) := by omega
      have k1 : (k : Int) < (n : Int) := by omega
      obtain ⟨p, hp⟩ : ∃ p, r.L[k]? = some p := ⟨_, List.getElem?_eq_getElem (by rw [← HN.out]; exact hlt)⟩
      obtain ⟨_, b1, _, _, _, b5, b6, _, _⟩ := hpl k p hp
      have HPP := Lib.hid hp
      obtain ⟨pi0, hpi⟩ : ∃ x, x = p.pi := ⟨_, rfl⟩
      obtain ⟨pg0, hpg⟩ : ∃ x, x = p.pg := ⟨_, rfl⟩
      rw [← hpi] at b5
      rw [← hpg] at b6
      have HPI := Lib.hid hpi.symm
      have HPG := Lib.hid hpg.symm
      clear hpl hp hpi hpg hc hrow hft HH hcw hbR
      cases his : p.is with
      | false =>
        rw [his] at b1
        have HIS := Lib.hid his
        clear his
        have HY := Lib.hid (kidsTo_no (show r.kidP i q k = false by unfold RTab.kidP; rw [HPP.out]; simp [HIS.out]))
        go_wp2
        go_quiet (fail)
        go_wp2
        go_roundg (n - k - 1)
        case measure => omega
        case rel => exact ⟨k + 1, A, cc, by omega, by go_num, by rw [HY.out], Lib.hid ⟨HC.out.drewN _, by rw [HY.out]; exact HR.out.drewN _, by rw [HY.out]; exact HF.out⟩⟩
      | true =>
        rw [his] at b1
        have HIS := Lib.hid his
        clear his
        by_cases ha : pi0 = i
        · by_cases hb : pg0 = q
          · have e5 : (pi0 == i) = true := by simpa using ha
            have e55 : (i == pi0) = true := by simpa using ha.symm
            have e6 : (pg0 == q) = true := by simpa using hb
            have e66 : (q == pg0) = true := by simpa using hb.symm
            have HY := Lib.hid (kidsTo_yes (show r.kidP i q k = true by unfold RTab.kidP; rw [HPP.out]; simp [HIS.out, HPI.out, HPG.out, ha, hb]))
            clear ha hb
            go_wp2
            go_quiet (fail)
            go_wp2_with (at_builtin; refine wpList_append_row _ rfl _ _ 62 rfl 3 in0 (.int .i64 0) 1 8 Try.underlying62 hi0 hq0 hq1 hq2 rfl (.slice A (r.kidsTo i q k).length cc) (r.kidsTo i q k).length (numCells (r.kidsTo i q k)) rfl ((HR.out.drewN _).alloc _) ⟨wr.heap.size, 0, none⟩ 1 1 [.int .i64 (k : Nat)] rfl rfl (World.news_of_block (cs := #[.int .i64 (k : Nat)]) (t := 3) (fr := (0, 0)) (heap_alloc_new (wr.drewN _) _)) (by simp [Value.oneCell']) (by omega) (by unfold maxLen; omega) (by omega) (wr.heap.size + 1) (by simp) ?_; intro gg cap w2 hown hgrow hat hlt1; have HOWN := Lib.hid hown; have HG := Lib.hid hgrow; have HAT := Lib.hid hat; clear hown hgrow hat)
            go_roundg (n - k - 1)
            case measure => omega
            case rel =>
              have hgg : gg ∈ foot (.slice A (r.kidsTo i q k).length cc) ∨ gg = wr.heap.size + 1 := HAT.out.imp (fun h => row_mem h) id
              have hc12 : Chg (foot (.slice A (r.kidsTo i q k).length cc)) wr w2 := (((Chg.refl _ wr).drewN nq).alloc _).grown HG.out (fun k hk => .inl (row_mem hk))
              have hsz := HC.out.size
              refine ⟨k + 1, some ⟨gg, 0, none⟩, cap, by omega, by go_num, by rw [HY.out, List.length_append]; rfl, Lib.hid ⟨(HC.out.any.trans hc12 (fun k hk => .inl hk)).mono (fun k hk => .inr (by have := HF.out k hk; omega)), ?_, ?_⟩⟩
              · rw [HY.out, List.length_append, numCells_snoc]; exact HOWN.out
              · intro j hj
                rw [HY.out, List.length_append] at hj
                simp [foot_some] at hj
                subst hj
                rcases hgg with h | h
                · exact HF.out _ h
                · omega
          · have e5 : (pi0 == i) = true := by simpa using ha
            have e55 : (i == pi0) = true := by simpa using ha.symm
            have e6 : (pg0 == q) = false := by simpa using hb
            have e66 : (q == pg0) = false := by simpa using Ne.symm hb
            have HY := Lib.hid (kidsTo_no (show r.kidP i q k = false by unfold RTab.kidP; rw [HPP.out]; simp [HIS.out, HPI.out, HPG.out, ha, hb]))
            clear ha hb
            go_wp2
            go_quiet (fail)
            go_wp2
            go_roundg (n - k - 1)
            case measure => omega
            case rel => exact ⟨k + 1, A, cc, by omega, by go_num, by rw [HY.out], Lib.hid ⟨HC.out.drewN _, by rw [HY.out]; exact HR.out.drewN _, by rw [HY.out]; exact HF.out⟩⟩
        · have e5 : (pi0 == i) = false := by simpa using ha
          have e55 : (i == pi0) = false := by simpa using Ne.symm ha
          have HY := Lib.hid (kidsTo_no (show r.kidP i q k = false by unfold RTab.kidP; rw [HPP.out]; simp [HIS.out, HPI.out, ha]))
          clear ha
          go_wp2
          go_quiet (fail)
          go_wp2
          go_roundg (n - k - 1)
          case measure => omega
          case rel => exact ⟨k + 1, A, cc, by omega, by go_num, by rw [HY.out], Lib.hid ⟨HC.out.drewN _, by rw [HY.out]; exact HR.out.drewN _, by rw [HY.out]; exact HF.out⟩⟩
    · obtain rfl : k = n := by omega
      clear hpl hc hrow hft HH hcw hbR
      go_wp2
      go_ret
      exact ⟨A, cc, rfl, HR.out, fun j hj => by have := HF.out j hj; simp at this; omega, ((Chg.refl [] w).alloc _).then HC.out⟩
end Go.Proofs
end
section
namespace Go.Proofs
open Go.RowKit
set_option linter.unusedVariables false
set_option linter.unusedSimpArgs false

set_option maxHeartbeats 6400000 in
set_option maxRecDepth 100000 in
theorem rin_any {w : World} {h : Nat} {S : List Nat} {r : RTab} (hr : RefAt w h S r) (h0 : 0 < r.L.length) (hn : r.L.length ≤ 1000) {k : Nat} {p : Pl} (hp : r.L[k]? = some p) {L : List (Int × Int)} (hU : Up r.par (k : Nat) p.gen L) (hL : L.length ≤ 100000) (i q : Int) :
    Calls Try.prog 69 #[ptr h, .int .i64 (k : Nat), .agg #[.int .i64 i, .int .u64 q]] w fun e w' => e = .returned (.bool (decide ((i, q) ∈ L))) ∧ Chg [] w w' := by
  obtain ⟨gl, cl, A9, cF, hne, hcl, _, lg, lh, htell⟩ := hr.tell h0
  obtain ⟨a0, _, lhr, lgr, _, _, hpl⟩ := htell (w.alloc (obRef i q)) ((Chg.refl _ _).alloc _)
  obtain ⟨b0, _⟩ := hpl k p hp
  have HCH := Lib.hid (fun W (hc : Chg [] w W) => rchain_any (hr.quiet hc) h0 hU hL)
  obtain ⟨n, hnn⟩ : ∃ n, n = r.L.length := ⟨_, rfl⟩
  rw [← hnn] at a0 hcl hn
  have hkn : k < n := by have := (List.getElem?_eq_some_iff.1 hp).1; omega
  have k0 : (0 : Int) ≤ (k : Int) := by omega
  have k1 : (k : Int) < (n : Int) := by omega
  obtain ⟨G, hG⟩ : ∃ G, G = p.gen := ⟨_, rfl⟩
  rw [← hG] at b0 HCH
  obtain ⟨m, hm⟩ : ∃ m, m = L.length := ⟨_, rfl⟩
  rw [← hm] at HCH hL
  have HM := Lib.hid hm
  clear hr htell hpl hp hU hnn hG hm
  go_enter Try.func69, Try.ntmps69
  go_wp2_with (go_at_call 36; refine (HCH.out _ ((Chg.refl _ _).alloc _)).mono ?_; rintro e w1 ⟨A, cc, rfl, hrow, _, hc⟩; have HR := Lib.hid hrow; have HC := Lib.hid (((Chg.refl [] w).alloc _).then hc); have HB := Lib.hid ((Blk.new w 34 #[.int .i64 i, .int .u64 q]).chg hc (by simp)); clear hrow hc)
  go_loopg [8] m (fun gh iv wr => ∃ j : Nat, j + gh = m ∧ iv = .int .i64 j ∧ Hid (Chg [] w1 wr ∧ ∀ j' x, j' < j → L[j']? = some x → x ≠ (i, q)))
  case atStart => exact ⟨0, by omega, rfl, Lib.hid ⟨Chg.refl _ _, fun j' x hj => by omega⟩⟩
  case round =>
    obtain ⟨j, hj, rfl, HH⟩ := hrel
    obtain ⟨hc, hno⟩ := HH.out
    by_cases hlt : j < m
    · have j0 : (0 : Int) ≤ (j : Int) := by omega
      have j1 : (j : Int) < (m : Int) := by omega
      obtain ⟨x, hx⟩ : ∃ x, L[j]? = some x := ⟨_, List.getElem?_eq_getElem (by rw [← HM.out]; exact hlt)⟩
      obtain ⟨gr, cr, hv, _, _, hcell, _, lgr2⟩ := HR.out.form (by omega)
      simp only [Value.slice.injEq] at hv
      obtain ⟨rfl, h91, h92⟩ := hv
      clear h91 h92
      obtain ⟨x0, x1⟩ := refCells_at hx
      have y0 := (hc.cell (p := ⟨gr, j * 2, none⟩) lgr2 (by simp)).trans (hcell _ _ x0)
      have y1 := (hc.cell (p := ⟨gr, j * 2 + 1, none⟩) lgr2 (by simp)).trans (hcell _ _ x1)
      have hB := HB.out.chg hc (by simp)
      have z0 := hB.cell 0
      have z1 := hB.cell 1
      obtain ⟨xi, xq⟩ := x
      simp only at y0 y1
      have HXX := Lib.hid hx
      have HNO := Lib.hid hno
      have HC2 := Lib.hid hc
      clear hx hcell x0 x1 hB hc hno HH
      by_cases ha : xi = i
      · by_cases hb : xq = q
        · have e5 : (xi == i) = true := by simpa using ha
          have e6 : (xq == q) = true := by simpa using hb
          have HY := Lib.hid (show (i, q) ∈ L by rw [← ha, ← hb]; exact List.mem_of_getElem? HXX.out)
          clear ha hb
          go_wp2
          go_quiet (fail)
          go_wp2
          go_ret
          exact ⟨by rw [decide_eq_true HY.out]; rfl, HC.out.then (HC2.out.drewN _)⟩
        · have e5 : (xi == i) = true := by simpa using ha
          have e6 : (xq == q) = false := by simpa using hb
          have HY := Lib.hid (show (xi, xq) ≠ (i, q) from fun e => hb (by simpa using congrArg Prod.snd e))
          clear ha hb
          go_wp2
          go_quiet (fail)
          go_wp2
          go_roundg (m - j - 1)
          case measure => omega
          case rel =>
            refine ⟨j + 1, by omega, by go_num, Lib.hid ⟨HC2.out.drewN _, fun j' x hj' hx' => ?_⟩⟩
            rcases Nat.lt_or_ge j' j with h | h
            · exact HNO.out j' x h hx'
            · have : j' = j := by omega
              subst this
              rw [HXX.out] at hx'; cases hx'; exact HY.out
      · have e5 : (xi == i) = false := by simpa using ha
        have HY := Lib.hid (show (xi, xq) ≠ (i, q) from fun e => ha (by simpa using congrArg Prod.fst e))
        clear ha
        go_wp2
        go_quiet (fail)
        go_wp2
        go_roundg (m - j - 1)
        case measure => omega
        case rel =>
          refine ⟨j + 1, by omega, by go_num, Lib.hid ⟨HC2.out.drewN _, fun j' x hj' hx' => ?_⟩⟩
          rcases Nat.lt_or_ge j' j with h | h
          · exact HNO.out j' x h hx'
          · have : j' = j := by omega
            subst this
            rw [HXX.out] at hx'; cases hx'; exact HY.out
    · have hjm : j = m := by omega
      have HY := Lib.hid (show ¬ (i, q) ∈ L from fun hmem => by
        obtain ⟨j', hj'⟩ := List.getElem?_of_mem hmem
        have := (List.getElem?_eq_some_iff.1 hj').1
        exact hno j' _ (by have := HM.out; omega) hj' rfl)
      have HC2 := Lib.hid hc
      clear hc hno HH hjm
      go_wp2
      go_ret
      exact ⟨by rw [decide_eq_false HY.out]; rfl, HC.out.then HC2.out⟩
end Go.Proofs
end
section
namespace Go.Proofs
open Go.RowKit
set_option linter.unusedVariables false
set_option linter.unusedSimpArgs false

/-! ### What a domain is, by the document -/
def sumL (f : Nat → Int) (l : List Nat) : Int := l.foldl (fun a k => a + f k) 0
theorem sumL_snoc (f : Nat → Int) (l : List Nat) (k : Nat) : sumL f (l ++ [k]) = sumL f l + f k := by unfold sumL; rw [List.foldl_append]; rfl
theorem sumL_nil (f : Nat → Int) : sumL f [] = 0 := rfl
def sumN (f : Nat → Int) : Nat → Int
  | 0 => 0
  | k + 1 => sumN f k + f k
theorem sumN_succ (f : Nat → Int) (k : Nat) : sumN f (k + 1) = sumN f k + f k := rfl
theorem sumL_bd {f : Nat → Int} {B : Int} (l : List Nat) (h : ∀ k ∈ l, 0 ≤ f k ∧ f k ≤ B) : 0 ≤ sumL f l ∧ sumL f l ≤ B * l.length := by
  obtain ⟨n, hn⟩ : ∃ n, n = l.length := ⟨_, rfl⟩
  induction n generalizing l with
  | zero => have := List.eq_nil_of_length_eq_zero hn.symm; subst this; simp [sumL_nil]
  | succ n ih =>
    rcases List.eq_nil_or_concat l with h' | ⟨l', k, h'⟩
    · subst h'; simp at hn
    · rw [List.concat_eq_append] at h'
      subst h'
      have hl : n = l'.length := by simp at hn; exact hn
      have a := ih l' (fun j hj => h j (by simp [hj])) hl
      have b := h k (by simp)
      rw [sumL_snoc, List.length_append]
      have : B * ((l'.length + [k].length : Nat) : Int) = B * (l'.length : Nat) + B := by push_cast; simp [Int.mul_add]
      omega
theorem sumN_bd {f : Nat → Int} {B : Int} (n : Nat) (h : ∀ k, k < n → 0 ≤ f k ∧ f k ≤ B) : 0 ≤ sumN f n ∧ sumN f n ≤ B * n := by
  induction n with
  | zero => simp [sumN]
  | succ n ih =>
    have a := ih (fun j hj => h j (by omega))
    have b := h n (by omega)
    rw [sumN_succ]
    have : B * ((n + 1 : Nat) : Int) = B * (n : Nat) + B := by push_cast; simp [Int.mul_add]
    omega
def pl0 : Pl := ⟨0, false, 0, 0, 0, 0, 0, 0, 0⟩
def RTab.pl (r : RTab) (k : Nat) : Pl := (r.L[k]?).getD pl0
theorem RTab.pl_eq {r : RTab} {k : Nat} {p : Pl} (h : r.L[k]? = some p) : r.pl k = p := by unfold RTab.pl; rw [h]; rfl
/-- Each place's numbers may be. -/
structure RTab.Fine (r : RTab) : Prop where
  nums : ∀ (k : Nat) (p : Pl), r.L[k]? = some p → (0 ≤ p.gs ∧ p.gs ≤ 64) ∧ (0 ≤ p.own ∧ p.own ≤ 64) ∧ (0 ≤ p.cpu ∧ p.cpu ≤ 4294967296) ∧ (0 ≤ p.used ∧ p.used < 18446744073709551616)
  len : r.L.length ≤ 1000
def RTab.cgs (r : RTab) (i q : Int) : Int := sumL (fun k => (r.pl k).gs) (r.kids i q)
def RTab.car (r : RTab) (i q : Int) : Int := sumL (fun k => (r.pl k).cpu) (r.kids i q)
/-- What lives at a place, below a ref. -/
def RTab.liveAt (r : RTab) (ch : Nat → List (Int × Int)) (i q : Int) (k : Nat) : Int := if (r.pl k).is = true ∧ (i, q) ∈ ch k then (r.pl k).own else 0
def RTab.live (r : RTab) (ch : Nat → List (Int × Int)) (i q : Int) : Int := sumN (r.liveAt ch i q) r.L.length
/-- The chains, each of a domain that is there. -/
def RTab.Chs (r : RTab) (ch : Nat → List (Int × Int)) : Prop := ∀ (k : Nat) (p : Pl), r.L[k]? = some p → p.is = true → Up r.par (k : Nat) p.gen (ch k) ∧ (ch k).length ≤ 100000
def RTab.get (r : RTab) (ch : Nat → List (Int × Int)) (i q : Int) : Dm :=
  ⟨(r.pl i.toNat).pi, (r.pl i.toNat).pg, (r.pl i.toNat).gs, (r.pl i.toNat).cpu, (r.pl i.toNat).per, r.cgs i q, r.car i q, (r.pl i.toNat).own, r.live ch i q, (r.pl i.toNat).used, (r.kids i q).length⟩
theorem kids_mem {r : RTab} {i q : Int} {k : Nat} (h : k ∈ r.kids i q) : k < r.L.length := by
  unfold RTab.kids RTab.kidsTo at h
  have := (List.mem_filter.1 h).1
  simpa using this
theorem take_snoc {l : List Nat} {j k : Nat} (h : l[j]? = some k) : l.take (j + 1) = l.take j ++ [k] := by
  rw [List.take_add_one, h]; rfl
/-- The domain that is told, while it is reckoned. -/
def outD (p : Pl) (a b c d : Int) : Dm := ⟨p.pi, p.pg, p.gs, p.cpu, p.per, a, b, p.own, c, p.used, d⟩
theorem get_boxes {w w1 : World} {i q : Int} {p : Pl} (hc : Chg [] (((((w.alloc (obRef i q)).alloc obDm).alloc (.cells p.arr 85)).drew).alloc (obX (outD p 0 0 0 0))) w1) :
    Blk w1 w.heap.size 34 #[.int .i64 i, .int .u64 q] ∧ Blk w1 (w.heap.size + 1) 59 dm0.arr ∧ Blk w1 (w.heap.size + 1 + 1 + 1) 59 (outD p 0 0 0 0).arr :=
  ⟨(((((Blk.new w 34 _).alloc _).alloc _).drew).alloc _).chg hc (by simp), (((Blk.at' (w.alloc (obRef i q)) 59 dm0.arr (n := w.heap.size + 1) (by simp)).alloc (.cells p.arr 85)).drew.alloc _).chg hc (by simp), (Blk.at' _ 59 (outD p 0 0 0 0).arr (n := w.heap.size + 1 + 1 + 1) (by simp)).chg hc (by simp)⟩
set_option maxHeartbeats 12800000 in
set_option maxRecDepth 100000 in
theorem rget_any {w : World} {h : Nat} {S : List Nat} {r : RTab} (hr : RefAt w h S r) (hf : r.Fine) {ch : Nat → List (Int × Int)} (hch : r.Chs ch) {k : Nat} {p : Pl} (hp : r.L[k]? = some p) (q : Int) :
    Calls Try.prog 43 #[ptr h, .agg #[.int .i64 (k : Nat), .int .u64 q]] w fun e w' => e = .returned (r.get ch (k : Nat) q).val ∧ Chg [] w w' := by
  have h0 : 0 < r.L.length := by have := (List.getElem?_eq_some_iff.1 hp).1; omega
  obtain ⟨gl, cl, A9, cF, hne, hcl, _, lg, lh, htell⟩ := hr.tell h0
  have HT := Lib.hid htell
  have HKD := Lib.hid (fun W (hc : Chg [] w W) => rkids_any (hr.quiet hc) h0 hf.len (k : Nat) q)
  have HIN := Lib.hid (fun W (hc : Chg [] w W) j pj (hj : r.L[j]? = some pj) (hjs : pj.is = true) => rin_any (hr.quiet hc) h0 hf.len hj (hch j pj hj hjs).1 (hch j pj hj hjs).2 (k : Nat) q)
  have HN9 := Lib.hid hf.nums
  have hn := hf.len
  obtain ⟨n, hnn⟩ : ∃ n, n = r.L.length := ⟨_, rfl⟩
  have hkn : k < n := by have := (List.getElem?_eq_some_iff.1 hp).1; omega
  rw [← hnn] at HT hcl hn h0
  have HN := Lib.hid hnn
  have k0 : (0 : Int) ≤ (k : Int) := by omega
  have k1 : (k : Int) < (n : Int) := by omega
  have HPP := Lib.hid hp
  have hget : r.get ch (k : Nat) q = ⟨p.pi, p.pg, p.gs, p.cpu, p.per, r.cgs (k : Nat) q, r.car (k : Nat) q, p.own, sumN (r.liveAt ch (k : Nat) q) n, p.used, (r.kids (k : Nat) q).length⟩ := by
    unfold RTab.get RTab.live
    rw [Int.toNat_natCast, RTab.pl_eq hp, hnn]
  rw [hget]
  obtain ⟨KL, hKL⟩ : ∃ KL, KL = r.kids (k : Nat) q := ⟨_, rfl⟩
  have HKL := Lib.hid hKL
  have hcg : r.cgs (k : Nat) q = sumL (fun j => (r.pl j).gs) KL := by unfold RTab.cgs; rw [hKL]
  have hca : r.car (k : Nat) q = sumL (fun j => (r.pl j).cpu) KL := by unfold RTab.car; rw [hKL]
  rw [hcg, hca, ← hKL]
  rw [← hKL] at HKD
  have HKB := Lib.hid (show ∀ (j k' : Nat), KL[j]? = some k' → k' < n ∧ ∃ p', r.L[k']? = some p' from fun j k' hj => by
    have := kids_mem (hKL ▸ List.mem_of_getElem? hj)
    exact ⟨by omega, _, List.getElem?_eq_getElem this⟩)
  have hkl : KL.length ≤ 1000 := by rw [hKL]; have := kidsTo_len r (k : Nat) q r.L.length; unfold RTab.kids; omega
  obtain ⟨T1, hT1⟩ : ∃ T1, T1 = sumL (fun j => (r.pl j).gs) KL := ⟨_, rfl⟩
  obtain ⟨T2, hT2⟩ : ∃ T2, T2 = sumL (fun j => (r.pl j).cpu) KL := ⟨_, rfl⟩
  obtain ⟨T3, hT3⟩ : ∃ T3, T3 = sumN (r.liveAt ch (k : Nat) q) n := ⟨_, rfl⟩
  obtain ⟨m, hm⟩ : ∃ m, m = KL.length := ⟨_, rfl⟩
  rw [← hT1, ← hT2, ← hT3, ← hm]
  rw [← hm] at hkl HKD
  have HT1 := Lib.hid hT1
  have HT2 := Lib.hid hT2
  have HT3 := Lib.hid hT3
  have HM := Lib.hid hm
  clear hr hf hch hp htell hnn hget hcg hca hKL hT1 hT2 hT3 hm
  obtain ⟨a0, _, lh1, lg1, _, _, hpl⟩ := HT.out ((w.alloc (obRef (k : Nat) q)).alloc obDm) (((Chg.refl _ _).alloc _).alloc _)
  obtain ⟨b0, b1, b2, b3, b4, b5, b6, b7, b8⟩ := hpl k p HPP.out
  clear hpl
  go_enter Try.func43, Try.ntmps43
  go_wp2
  go_region_held3 (fun w' => (w'.cell? ⟨h, 0, none⟩ = some (.slice (some ⟨gl, 0, none⟩) n cl) ∧ w'.cell? ⟨w.heap.size, 0, none⟩ = some (.int .i64 (k : Nat))) ∧ w'.cell? ⟨gl, k * 9, none⟩ = some (.int .u64 p.gen) ∧ w'.cell? ⟨gl, k * 9 + 1, none⟩ = some (.bool p.is) ∧ w'.cell? ⟨gl, k * 9 + 2, none⟩ = some (.int .i64 p.gs) ∧ w'.cell? ⟨gl, k * 9 + 3, none⟩ = some (.int .u64 p.cpu) ∧ w'.cell? ⟨gl, k * 9 + 4, none⟩ = some (.int .u64 p.per) ∧ w'.cell? ⟨gl, k * 9 + 5, none⟩ = some (.int .i64 p.pi) ∧ w'.cell? ⟨gl, k * 9 + 6, none⟩ = some (.int .u64 p.pg) ∧ w'.cell? ⟨gl, k * 9 + 7, none⟩ = some (.int .i64 p.own) ∧ w'.cell? ⟨gl, k * 9 + 8, none⟩ = some (.int .u64 p.used))
    (first | go_keep)
    (fail)
  go_wp2_with (go_at_call 68; refine (HKD.out _ (((((Chg.refl _ _).alloc _).alloc _).alloc _).drew.alloc _)).mono ?_; rintro e w1 ⟨A, cc, rfl, hrow, hft, hc⟩; have HR := Lib.hid hrow; have HFT := Lib.hid hft; have HC := Lib.hid ((((((Chg.refl [] w).alloc _).alloc _).alloc _).drew.alloc _).then hc); have HB := Lib.hid (get_boxes hc); clear hrow hft hc)
  have hz1 := HC.out.size
  have lBo := HB.out.2.2.lt
  clear b0 b1 b2 b3 b4 b5 b6 b7 b8 a0 lh1 lg1
  go_loopg [8] m (fun gh iv wr => ∃ j : Nat, j + gh = m ∧ iv = .int .i64 j ∧ Hid (Chg [w.heap.size + 1 + 1 + 1] w1 wr ∧ Blk wr (w.heap.size + 1 + 1 + 1) 59 (outD p (sumL (fun j => (r.pl j).gs) (KL.take j)) (sumL (fun j => (r.pl j).cpu) (KL.take j)) 0 j).arr))
  case atStart => exact ⟨0, by omega, rfl, Lib.hid ⟨Chg.refl _ _, HB.out.2.2⟩⟩
  case round =>
    obtain ⟨j, hj, rfl, HH⟩ := hrel
    obtain ⟨hc, hb⟩ := HH.out
    have hcw : Chg [] w wr := (HC.out.any.trans hc (fun k hk => .inl hk)).mono (fun k hk => .inr (by simp at hk; omega))
    by_cases hlt : j < m
    · have j0 : (0 : Int) ≤ (j : Int) := by omega
      have j1 : (j : Int) < (m : Int) := by omega
      obtain ⟨kk, hkk⟩ : ∃ kk, KL[j]? = some kk := ⟨_, List.getElem?_eq_getElem (by rw [← HM.out]; exact hlt)⟩
      obtain ⟨hkn2, p', hp'⟩ := HKB.out j kk hkk
      obtain ⟨gk, ck, hv, hfk, _, hcell, _, lgk⟩ := HR.out.form (by omega)
      simp only [Value.slice.injEq] at hv
      obtain ⟨rfl, h91, h92⟩ := hv
      clear h91 h92
      have hgk : w.heap.size + 4 ≤ gk := by have := HFT.out gk (by simp [foot_some]); simpa using this
      have y0 := (hc.cell (p := ⟨gk, j, none⟩) lgk (by simp; omega)).trans (hcell _ _ (numCells_at hkk))
      obtain ⟨a0, _, lh1, lg1, _, _, hpl⟩ := HT.out wr hcw
      obtain ⟨_, _, q2, q3, _, _, _, _, _⟩ := hpl kk p' hp'
      have i0 : (0 : Int) ≤ (kk : Int) := by omega
      have i1 : (kk : Int) < (n : Int) := by omega
      obtain ⟨n1, n2, n3, _⟩ := HN9.out kk p' hp'
      have hs1 := sumL_bd (f := fun j => (r.pl j).gs) (B := 64) (KL.take j) (fun k hk => by
        obtain ⟨j', hj'⟩ := List.getElem?_of_mem (List.mem_of_mem_take hk)
        obtain ⟨_, p'', hp''⟩ := HKB.out j' k hj'
        show 0 ≤ (r.pl k).gs ∧ (r.pl k).gs ≤ 64
        rw [RTab.pl_eq hp'']; exact (HN9.out k p'' hp'').1)
      have hs2 := sumL_bd (f := fun j => (r.pl j).cpu) (B := 4294967296) (KL.take j) (fun k hk => by
        obtain ⟨j', hj'⟩ := List.getElem?_of_mem (List.mem_of_mem_take hk)
        obtain ⟨_, p'', hp''⟩ := HKB.out j' k hj'
        show 0 ≤ (r.pl k).cpu ∧ (r.pl k).cpu ≤ 4294967296
        rw [RTab.pl_eq hp'']; exact (HN9.out k p'' hp'').2.2.1)
      have hlj : (KL.take j).length = j := by rw [List.length_take, ← HM.out]; omega
      rw [hlj] at hs1 hs2
      obtain ⟨g2, hg2⟩ : ∃ g2, g2 = p'.gs := ⟨_, rfl⟩
      obtain ⟨c2, hc2⟩ : ∃ c2, c2 = p'.cpu := ⟨_, rfl⟩
      obtain ⟨s1, hs1e⟩ : ∃ s1, s1 = sumL (fun j => (r.pl j).gs) (KL.take j) := ⟨_, rfl⟩
      obtain ⟨s2, hs2e⟩ : ∃ s2, s2 = sumL (fun j => (r.pl j).cpu) (KL.take j) := ⟨_, rfl⟩
      rw [← hg2] at q2 n1
      rw [← hc2] at q3 n3
      rw [← hs1e, ← hs2e] at hb
      rw [← hs1e] at hs1
      rw [← hs2e] at hs2
      have hSS1 := Lib.hid (show sumL (fun j => (r.pl j).gs) (KL.take (j + 1)) = s1 + g2 by rw [take_snoc hkk, sumL_snoc, hs1e, RTab.pl_eq hp', hg2])
      have hSS2 := Lib.hid (show sumL (fun j => (r.pl j).cpu) (KL.take (j + 1)) = s2 + c2 by rw [take_snoc hkk, sumL_snoc, hs2e, RTab.pl_eq hp', hc2])
      have e1 : IntKind.i64.wrap (s1 + g2) = s1 + g2 := IntWalk.i64_in _ (by omega)
      have e2 : IntKind.u64.wrap (s2 + c2) = s2 + c2 := by rw [IntKind.wrap_u64]; omega
      have e3 : IntKind.i64.wrap ((j : Int) + 1) = (j : Int) + 1 := IntWalk.i64_in _ (by omega)
      obtain ⟨lb, k0, k1, k2, k3, k4, k5, k6, k7, k8, k9, k10, kf⟩ := x_facts hb
      have nq1 : gl ≠ w.heap.size + 1 + 1 + 1 := by omega
      have nq2 : h ≠ w.heap.size + 1 + 1 + 1 := by omega
      have nq3 : gk ≠ w.heap.size + 1 + 1 + 1 := by omega
      have HCR := Lib.hid hc
      have HBR := Lib.hid hb
      simp only [outD] at k0 k1 k2 k3 k4 k5 k6 k7 k8 k9 k10
      clear hc hb hcw HH hkk hp' hcell hpl hs1 hs2 hg2 hc2 hs1e hs2e hlj n2
      go_wp2
      go_still_tail 15, (by kernel_rfl)
      (try change wpStill _ _ (World.drew _) _ _ _)
      (repeat still_step)
      (try refine wpStill_nil ?_)
      (try change wpList _ _ _ _ _ (World.drew _))
      go_wp2
      go_still_tail 15, (by kernel_rfl)
      (try change wpStill _ _ (World.drew _) _ _ _)
      (repeat still_step)
      (try refine wpStill_nil ?_)
      (try change wpList _ _ _ _ _ (World.drew _))
      go_wp2
      go_roundg (m - j - 1)
      case measure => omega
      case rel =>
        refine ⟨j + 1, by omega, by go_num, Lib.hid ⟨?_, ?_⟩⟩
        · exact ((((HCR.out.drew.setCell (.inl (by simp)) _).drew).setCell (.inl (by simp)) _).setCell (.inl (by simp)) _)
        · rw [hSS1.out, hSS2.out]
          exact ((((HBR.out.drew.set_ 5 (.int .i64 (s1 + g2))).drew).set_ 6 (.int .u64 (s2 + c2))).set_ 10 (.int .i64 ((j : Int) + 1)))
    · obtain rfl : m = j := by omega
      have hktk : KL.take m = KL := by rw [HM.out, List.take_length]
      rw [hktk] at hb
      rw [← HT1.out, ← HT2.out] at hb
      have HCR0 := Lib.hid hc
      have HBR0 := Lib.hid hb
      clear hc hb hcw HH hktk hlt
      have a1 := (HT.out wr ((HC.out.any.trans HCR0.out (fun k hk => .inl hk)).mono (fun k hk => .inr (by simp at hk; omega)))).1
      go_wp2
      go_loopg [9] n (fun gh iv wr => ∃ j : Nat, j + gh = n ∧ iv = .int .i64 j ∧ Hid (Chg [w.heap.size + 1 + 1 + 1] w1 wr ∧ Blk wr (w.heap.size + 1 + 1 + 1) 59 (outD p T1 T2 (sumN (r.liveAt ch (k : Nat) q) j) m).arr))
      case atStart => exact ⟨0, by omega, rfl, Lib.hid ⟨HCR0.out, HBR0.out⟩⟩
      case round =>
        obtain ⟨j2, hj, rfl, HH⟩ := hrel
        obtain ⟨hc, hb⟩ := HH.out
        have hcw : Chg [] w wr := (HC.out.any.trans hc (fun k hk => .inl hk)).mono (fun k hk => .inr (by simp at hk; omega))
        obtain ⟨a0, _, lh1, lg1, _, _, hpl⟩ := HT.out wr hcw
        by_cases hlt : j2 < n
        · have j0 : (0 : Int) ≤ (j2 : Int) := by omega
          have j1 : (j2 : Int) < (n : Int) := by omega
          obtain ⟨p', hp'⟩ : ∃ p', r.L[j2]? = some p' := ⟨_, List.getElem?_eq_getElem (by rw [← HN.out]; exact hlt)⟩
          obtain ⟨_, q1, _, _, _, _, _, q7, _⟩ := hpl j2 p' hp'
          cases his : p'.is with
          | false =>
            rw [his] at q1
            have HY := Lib.hid (show sumN (r.liveAt ch (k : Nat) q) (j2 + 1) = sumN (r.liveAt ch (k : Nat) q) j2 by rw [sumN_succ]; unfold RTab.liveAt; rw [RTab.pl_eq hp', his]; simp)
            have HCR := Lib.hid hc
            have HBR := Lib.hid hb
            clear hc hb hcw HH hp' hpl his q7
            go_wp2
            go_roundg (n - j2 - 1)
            case measure => omega
            case rel => exact ⟨j2 + 1, by omega, by go_num, Lib.hid ⟨HCR.out, by rw [HY.out]; exact HBR.out⟩⟩
          | true =>
            rw [his] at q1
            have HI1 := Lib.hid (HIN.out wr hcw j2 p' hp' his)
            have hbR := HB.out.1.chg hc (by simp; omega)
            have t0 := hbR.cell 0
            have t1 := hbR.cell 1
            obtain ⟨_, n2, _, _⟩ := HN9.out j2 p' hp'
            have hs3 := sumN_bd (f := r.liveAt ch (k : Nat) q) (B := 64) j2 (fun k' hk' => by
              obtain ⟨p'', hp''⟩ : ∃ p'', r.L[k']? = some p'' := ⟨_, List.getElem?_eq_getElem (by rw [← HN.out]; omega)⟩
              have := (HN9.out k' p'' hp'').2.1
              unfold RTab.liveAt
              rw [RTab.pl_eq hp'']
              split <;> omega)
            cases hin : decide ((((k : Nat) : Int), q) ∈ ch j2) with
            | false =>
              rw [hin] at HI1
              have HY := Lib.hid (show sumN (r.liveAt ch (k : Nat) q) (j2 + 1) = sumN (r.liveAt ch (k : Nat) q) j2 by rw [sumN_succ]; unfold RTab.liveAt; rw [if_neg (fun h => of_decide_eq_false hin h.2)]; simp)
              have HCR := Lib.hid hc
              have HBR := Lib.hid hb
              clear hc hb hcw HH hp' hpl his hin n2 hs3 hbR
              go_wp2_with (go_at_call 69; refine HI1.out.mono ?_; rintro e w2 ⟨rfl, hc2⟩; have HC2 := Lib.hid hc2; clear hc2)
              go_roundg (n - j2 - 1)
              case measure => omega
              case rel => exact ⟨j2 + 1, by omega, by go_num, Lib.hid ⟨HCR.out.then HC2.out, by rw [HY.out]; exact HBR.out.chg HC2.out (by simp)⟩⟩
            | true =>
              rw [hin] at HI1
              obtain ⟨o2, ho2⟩ : ∃ o2, o2 = p'.own := ⟨_, rfl⟩
              obtain ⟨s3, hs3e⟩ : ∃ s3, s3 = sumN (r.liveAt ch (k : Nat) q) j2 := ⟨_, rfl⟩
              have HY := Lib.hid (show sumN (r.liveAt ch (k : Nat) q) (j2 + 1) = s3 + o2 by rw [sumN_succ, ← hs3e]; unfold RTab.liveAt; rw [RTab.pl_eq hp', if_pos ⟨his, of_decide_eq_true hin⟩, ho2])
              rw [← hs3e] at hb hs3
              rw [← ho2] at n2 q7
              have e1 : IntKind.i64.wrap (s3 + o2) = s3 + o2 := IntWalk.i64_in _ (by omega)
              have nq1 : gl ≠ w.heap.size + 1 + 1 + 1 := by omega
              have nq2 : h ≠ w.heap.size + 1 + 1 + 1 := by omega
              have HCR := Lib.hid hc
              have HBR := Lib.hid hb
              have HPL := Lib.hid (fun W (hW : Chg [] wr W) => (HT.out W (hcw.then hW)))
              have HP2 := Lib.hid hp'
              have HO2 := Lib.hid ho2
              clear hc hb hcw HH hp' hpl his hin n2 hs3 hbR hs3e ho2
              go_wp2_with (go_at_call 69; refine HI1.out.mono ?_; rintro e w2 ⟨rfl, hc2⟩; have HC2 := Lib.hid hc2; obtain ⟨a02, _, lh2, lg2, _, _, hpl2⟩ := HPL.out w2 hc2; obtain ⟨_, _, _, _, _, _, _, q72, _⟩ := hpl2 j2 p' HP2.out; rw [← HO2.out] at q72; have hb2 := HBR.out.chg hc2 (by simp); have HB2 := Lib.hid hb2; obtain ⟨lb, k0, k1, k2, k3, k4, k5, k6, k7, k8, k9, k10, kf⟩ := x_facts hb2; simp only [outD] at k0 k1 k2 k3 k4 k5 k6 k7 k8 k9 k10; clear hc2 hpl2 hb2)
              go_still_tail 12, (by kernel_rfl)
              (try change wpStill _ _ (World.drew _) _ _ _)
              (repeat still_step)
              (try refine wpStill_nil ?_)
              (try change wpList _ _ _ _ _ (World.drew _))
              go_wp2
              go_roundg (n - j2 - 1)
              case measure => omega
              case rel =>
                refine ⟨j2 + 1, by omega, by go_num, Lib.hid ⟨(HCR.out.then HC2.out).drew.setCell (.inl (by simp)) _, ?_⟩⟩
                rw [HY.out]
                exact HB2.out.drew.set_ 8 (.int .i64 (s3 + o2))
        · have hjn : j2 = n := by omega
          subst hjn
          have hbz := HB.out.2.1.chg hc (by simp)
          obtain ⟨lb, k0, k1, k2, k3, k4, k5, k6, k7, k8, k9, k10, kf⟩ := x_facts hb
          simp only [outD] at k0 k1 k2 k3 k4 k5 k6 k7 k8 k9 k10
          have lz := hbz.lt
          have z0 := hbz.cell 0
          rw [← HT3.out] at k8
          obtain ⟨_, z0, z1, z2, z3, z4, z5, z6, z7, z8, z9, z10, zf⟩ := x_facts hbz
          have HCW := Lib.hid hcw
          clear hc hb hcw HH hpl hbz
          go_wp2
          refine bodyPost_ret (v := (⟨p.pi, p.pg, p.gs, p.cpu, p.per, T1, T2, p.own, T3, p.used, m⟩ : Dm).val) ?_ rfl ⟨rfl, by repeat' (first | with_reducible exact HCW.out | with_reducible apply Chg.alloc | with_reducible apply Chg.drew | with_reducible apply Chg.setCell | (with_reducible refine Or.inr ?_; dsimp only; omega))⟩
          simp [results, Try.results43, go_sem, Dm.val, lz, z0, z1, z2, z3, z4, z5, z6, z7, z8, z9, z10]
end Go.Proofs
end
section
namespace Go.Proofs
open Go.RowKit
set_option linter.unusedVariables false
set_option linter.unusedSimpArgs false

/-- The first k of a row, with the capacity that it has. -/
theorem Row.less {w : World} {e : TypeId} {size n g cap : Nat} {xs : List Value} (h : Row w e size (.slice (some ⟨g, 0, none⟩) n cap) n xs) {k : Nat} (hk : k ≤ n) :
    Row w e size (.slice (some ⟨g, 0, none⟩) k cap) k (xs.take (k * size)) := by
  have hkn : k * size ≤ n * size := Nat.mul_le_mul_right _ hk
  refine ⟨by rw [List.length_take, h.1]; omega, ?_⟩
  rcases h.2 with ⟨h0, _⟩ | ⟨g', cap', cur, hv, hg, hc, hm, hs, ht⟩
  · cases h0
  · simp only [Value.slice.injEq, Option.some.injEq, Addr.mk.injEq] at hv
    obtain ⟨⟨rfl, _⟩, _, rfl⟩ := hv
    refine .inr ⟨g, cap, cur, rfl, hg, by omega, hm, hs, ?_⟩
    rw [← ht, List.take_take, Nat.min_eq_left hkn]
theorem RefAt.open_ {w : World} {h : Nat} {S : List Nat} {r : RTab} (hr : RefAt w h S r) (h0 : 0 < r.L.length) {F : List Nat} {f : Nat} (hF : r.F = F ++ [f]) :
    ∃ gl cl gF cF, S = h :: [gl, gF] ∧ h ≠ gl ∧ h ≠ gF ∧ gl ≠ gF ∧ r.L.length ≤ cl ∧ F.length + 1 ≤ cF ∧ gl < w.heap.size ∧ gF < w.heap.size ∧ Blk w h 88 #[.slice (some ⟨gl, 0, none⟩) r.L.length cl, .slice (some ⟨gF, 0, none⟩) (F.length + 1) cF] ∧
      Row w 85 9 (.slice (some ⟨gl, 0, none⟩) r.L.length cl) r.L.length (plCells r.L) ∧ Row w 3 1 (.slice (some ⟨gF, 0, none⟩) (F.length + 1) cF) (F.length + 1) (numCells (F ++ [f])) ∧ w.cell? ⟨gF, F.length, none⟩ = some (.int .i64 (f : Nat)) ∧ (∀ j, w.frozen? ⟨gl, j, none⟩ = false) := by
  obtain ⟨VL, VF, hB, hL, hR, rfl⟩ := hr
  obtain ⟨gl, cl, rfl, hft, hc, hcell, hfz, hlt⟩ := hL.form h0
  rw [hF] at hR
  obtain ⟨gF, cF, rfl, hft2, hc2, hcell2, hfz2, hlt2⟩ := hR.form (by simp)
  have n1 : h ≠ gl := by have := hL.ty hB (by decide); simpa [foot_some] using this
  have n2 : h ≠ gF := by have := hR.ty hB (by decide); simpa [foot_some] using this
  have n3 : gl ≠ gF := fun e => hL.ty2 hR (by decide) gl (by simp [foot_some]) (by simp [foot_some, e])
  have hl : (F ++ [f]).length = F.length + 1 := by simp
  rw [hl] at hR hB hc2
  exact ⟨gl, cl, gF, cF, by rw [hft, hft2]; rfl, n1, n2, n3, hc, hc2, hlt, hlt2, hB, hL, hR, hcell2 _ _ (by unfold numCells; simp), hfz⟩
set_option maxHeartbeats 3200000 in
set_option maxRecDepth 100000 in
theorem rput_any {w : World} {h : Nat} {S : List Nat} {r : RTab} (hr : RefAt w h S r) (hn : r.L.length ≤ 1000) {F : List Nat} {f : Nat} (hF : r.F = F ++ [f]) {p0 : Pl} (hp : r.L[f]? = some p0) (hfl : F.length ≤ 1000) (x : Pl) :
    Calls Try.prog 59 #[ptr h, x.val] w fun e w' => e = .returned (.agg #[.int .i64 (f : Nat), .int .u64 p0.gen]) ∧ RTurns h S ⟨r.L.set f { x with gen := p0.gen, is := true }, F⟩ w w' := by
  have hfn := (List.getElem?_eq_some_iff.1 hp).1
  have h0 : 0 < r.L.length := by omega
  obtain ⟨gl, cl, gF, cF, hS, n1, n2, n3, hcl, hcF, lgl, lgF, hB, hL, hR, hcell, hfz⟩ := hr.open_ h0 hF
  obtain ⟨q0, q1, q2, q3, q4, q5, q6, q7, q8⟩ := plCells_at r.L f p0 hp
  have hc2 : ∀ j u, (plCells r.L)[j]? = some u → w.cell? ⟨gl, j, none⟩ = some u := by
    obtain ⟨g2, c2, hv, _, _, hc2, _, _⟩ := hL.form h0
    simp only [Value.slice.injEq, Option.some.injEq, Addr.mk.injEq] at hv
    obtain ⟨⟨rfl, _⟩, _, _⟩ := hv
    exact hc2
  have b0 := hc2 _ _ q0
  have g0 := hfz (f * 9)
  have b1 := hc2 _ _ q1
  have g1 := hfz (f * 9 + 1)
  have b2 := hc2 _ _ q2
  have g2 := hfz (f * 9 + 2)
  have b3 := hc2 _ _ q3
  have g3 := hfz (f * 9 + 3)
  have b4 := hc2 _ _ q4
  have g4 := hfz (f * 9 + 4)
  have b5 := hc2 _ _ q5
  have g5 := hfz (f * 9 + 5)
  have b6 := hc2 _ _ q6
  have g6 := hfz (f * 9 + 6)
  have b7 := hc2 _ _ q7
  have g7 := hfz (f * 9 + 7)
  have b8 := hc2 _ _ q8
  have g8 := hfz (f * 9 + 8)
  have a0 := hB.cell 0
  have a1 := hB.cell 1
  have af := hB.frozen 1
  have lh := hB.lt
  have HB := Lib.hid hB
  have HL := Lib.hid hL
  have HR := Lib.hid hR
  obtain ⟨n, hnn⟩ : ∃ n, n = r.L.length := ⟨_, rfl⟩
  obtain ⟨m, hm⟩ : ∃ m, m = F.length := ⟨_, rfl⟩
  rw [← hnn] at a0 hcl hn hfn
  rw [← hm] at a1 hcF hfl hcell
  have HN := Lib.hid hnn
  have HM := Lib.hid hm
  have HSS := Lib.hid hS
  have i0 : (0 : Int) ≤ (f : Int) := by omega
  have i1 : (f : Int) < (n : Int) := by omega
  obtain ⟨G, hG⟩ : ∃ G, G = p0.gen := ⟨_, rfl⟩
  rw [← hG] at b0 ⊢
  have e1 : IntKind.i64.wrap (((m + 1 : Nat) : Int) - 1) = (m : Nat) := by rw [show ((m + 1 : Nat) : Int) - 1 = (m : Nat) by omega]; exact IntWalk.i64_in _ (by omega)
  have nq1 : w.heap.size ≠ h := by omega
  have nq2 : w.heap.size ≠ gl := by omega
  have nq3 : w.heap.size + 1 ≠ gl := by omega
  have fz : ∀ j, (w.alloc (.cells x.arr 85)).frozen? ⟨gl, j, none⟩ = false := fun j => (World.frozen?_of_block (Below.heap_alloc _ _ _ lgl)).trans (hfz j)
  clear hr hp hF hB hL hR hnn hm hS q0 q1 q2 q3 q4 q5 q6 q7 q8 hG h0 hc2
  go_enter Try.func59, Try.ntmps59
  go_wp2
  go_still_tail 7, (by kernel_rfl)
  (try change wpStill _ _ (World.drew _) _ _ _)
  (repeat still_step)
  (try refine wpStill_nil ?_)
  (try change wpList _ _ _ _ _ (World.drew _))
  go_wp2
  refine bodyPost_ret (v := .agg #[.int .i64 (f : Nat), .int .u64 G]) (by simp [results, Try.results59, go_sem]) rfl ⟨rfl, ?_⟩
  refine RTurns.later (b := put9 (w.setCell ⟨h, 1, none⟩ (.slice (some ⟨gF, 0, none⟩) m cF)) gl (f * 9) { x with gen := G, is := true }) ?_ ((((Chg.refl _ _).alloc _).alloc _).drew)
  have hB := HB.out
  have hL := HL.out
  have hR := HR.out
  rw [← HN.out, ← HM.out] at hB
  have hc1 : Chg [h] w (w.setCell ⟨h, 1, none⟩ (.slice (some ⟨gF, 0, none⟩) m cF)) := (Chg.refl _ _).setCell (.inl (by simp)) _
  have hc2 : Chg [gl] (w.setCell ⟨h, 1, none⟩ (.slice (some ⟨gF, 0, none⟩) m cF)) (put9 (w.setCell ⟨h, 1, none⟩ (.slice (some ⟨gF, 0, none⟩) m cF)) gl (f * 9) { x with gen := G, is := true }) := chg_put9 (Chg.refl _ _) (.inl (by simp)) _ _
  refine ⟨h :: (foot (.slice (some ⟨gl, 0, none⟩) n cl) ++ foot (.slice (some ⟨gF, 0, none⟩) m cF)), ⟨.slice (some ⟨gl, 0, none⟩) n cl, .slice (some ⟨gF, 0, none⟩) m cF, ?_, ?_, ?_, rfl⟩, fun k hk => .inl (by rw [HSS.out]; simpa [foot_some] using hk), ?_⟩
  · exact (hB.set_ 1 (.slice (some ⟨gF, 0, none⟩) m cF)).chg hc2 (by simpa using n1)
  · show Row _ 85 9 _ (r.L.set f _).length _
    rw [List.length_set]
    have h1 := hL.chg hc1 (by simpa [foot_some] using fun e => n1 e.symm)
    have h2 := h1.put9_ (k := f) (by rw [← HN.out]; exact hfn) rfl { x with gen := G, is := true }
    rw [HN.out]
    exact h2
  · have h1 := hR.less (k := F.length) (by omega)
    rw [numCells_take] at h1
    rw [← HM.out] at h1
    show Row _ 3 1 _ F.length (numCells F)
    rw [← HM.out]
    exact (h1.chg hc1 (by simpa [foot_some] using fun e => n2 e.symm)).chg hc2 (by simpa [foot_some] using fun e => n3 e.symm)
  · rw [HSS.out]
    exact (hc1.mono (fun k hk => by simp at hk; subst hk; left; simp)).trans hc2 (fun k hk => by simp at hk; subst hk; left; simp)
end Go.Proofs
end
