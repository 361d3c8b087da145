import Derived.Test.YtpclhbfmocjgeaaM9
section
namespace Go.Proofs
open Go.RowKit Go.Shelf
set_option linter.unusedVariables false
set_option linter.unusedSimpArgs false
theorem CvQ.told {w : World} {G c h M : Nat} {S S2 : List Nat} {V : Value} {rs : List (Int × Int)} {t : Tab Dm} {r : RTab} {ch : Nat → List (Int × Int)} (g : Game w G c S h S2 V rs M t r ch) {i q gs cpu per j p E : Int} (hE : E = 0) :
    ∀ r' ch', CvQ t r ch i q gs cpu per j p E r' ch' → Grows r r' ∧ ∃ k : Nat, j = (k : Nat) ∧ k < r'.L.length ∧ 0 ≤ p ∧ p = (r'.pl k).gen ∧ (r'.pl k).is = true := by
  rintro r' ch' ⟨h1, _, h3⟩
  obtain ⟨f, k, hg, _, _, _, rfl, rfl, rfl, _⟩ := h3 hE
  have hn := (g.pair.sim.held.nums f hg.lt).2.2.2.2
  refine ⟨h1, f, rfl, by rw [on_len]; exact hg.lt, by omega, ?_, ?_⟩
  · rw [on_pl hg.at0 hg.lt, if_pos rfl]
  · rw [on_pl hg.at0 hg.lt, if_pos rfl]
section
variable {w : World} {G c h M : Nat} {S S2 : List Nat} {V : Value} {rs : List (Int × Int)} {t : Tab Dm} {r : RTab} {ch : Nat → List (Int × Int)}

set_option maxRecDepth 100000 in
set_option maxHeartbeats 6400000 in
theorem do1 (g : Game w G c S h S2 V rs M t r ch) (hM : M + 1 ≤ 1000) {ri rq at_ gs n per : Int} (hF : ActC.Fits ⟨1, ri, rq, at_, gs, n, per⟩) :
    Calls Try.prog 13 #[ptr G, .agg #[.int .i64 1, .int .i64 ri, .int .u64 rq, .int .i64 at_, .int .i64 gs, .int .u64 n, .int .u64 per]] w (DoPost G c S h S2 V M r rs w) := by
  unfold DoPost
  by_cases hat : at_ < 1
  · have hat' : decide (1 ≤ at_) = false := by simp; omega
    have hc0 : Chg [] w (((w.alloc (.cells #[.int .i64 1, .int .i64 ri, .int .u64 rq, .int .i64 at_, .int .i64 gs, .int .u64 n, .int .u64 per] 36)).alloc (obRef ri rq)).drew) := (((Chg.refl [] w).alloc _).alloc _).drew
    have hbx := ((Blk.new w 36 #[.int .i64 1, .int .i64 ri, .int .u64 rq, .int .i64 at_, .int .i64 gs, .int .u64 n, .int .u64 per]).alloc (obRef ri rq)).drew
    have hrx : Blk (((w.alloc (.cells #[.int .i64 1, .int .i64 ri, .int .u64 rq, .int .i64 at_, .int .i64 gs, .int .u64 n, .int .u64 per] 36)).alloc (obRef ri rq)).drew) (w.heap.size + 1) 34 #[.int .i64 ri, .int .u64 rq] := (Blk.at' _ 34 _ (by simp)).drew
    have g1 := g.quiet hc0
    have HQ := Lib.hid (fun W (hW : Chg [] (((w.alloc (.cells #[.int .i64 1, .int .i64 ri, .int .u64 rq, .int .i64 at_, .int .i64 gs, .int .u64 n, .int .u64 per] 36)).alloc (obRef ri rq)).drew) W) => pair_carve2 (W0 := W) (hW0 := hc0.then hW) g.pair hM hF.r0 hF.r1 (q := rq) (gs := gs) (cpu := n) (per := per) hF.n0 hF.p0)
    have v0 := g.blk.cell 0
    have v1 := g.blk.cell 1
    have v2 := g.blk.cell 2
    have hGl := g.blk.lt
    clear hat
    have hsb : ∀ b, w.heap.size ≤ b → b ∉ S ∧ b ∉ S2 := fun b hb => ⟨fun x => by have := g.pair.dm.lt _ (List.mem_cons_of_mem _ x); omega, fun x => by have := g.pair.rf.lt _ x; omega⟩
    have HSB := Lib.hid hsb
    have HGQ := Lib.hid (fun W (hW : Chg [] (((w.alloc (.cells #[.int .i64 1, .int .i64 ri, .int .u64 rq, .int .i64 at_, .int .i64 gs, .int .u64 n, .int .u64 per] 36)).alloc (obRef ri rq)).drew) W) w1 (h1 : Chg S W w1) => (⟨(g1.blk.chg hW (by simp)).chg h1 (fun x => g.G_off.1 (List.mem_cons_of_mem _ x)), (hrx.chg hW (by simp)).chg h1 (hsb _ (by omega)).1, (hbx.chg hW (by simp)).chg h1 (hsb _ (by omega)).1⟩ : Blk w1 G 42 #[ptr c, ptr h, V] ∧ Blk w1 (w.heap.size + 1) 34 #[.int .i64 ri, .int .u64 rq] ∧ Blk w1 w.heap.size 36 #[.int .i64 1, .int .i64 ri, .int .u64 rq, .int .i64 at_, .int .i64 gs, .int .u64 n, .int .u64 per]))
    have HGG := Lib.hid g
    have HG := Lib.hid g1.blk
    have HR := Lib.hid hrx
    have HA := Lib.hid hbx
    have hs1 : G ∉ S ∧ w.heap.size + 1 ∉ S ∧ w.heap.size ∉ S := ⟨fun x => g.G_off.1 (List.mem_cons_of_mem _ x), fun x => by have := g.pair.dm.lt _ (List.mem_cons_of_mem _ x); omega, fun x => by have := g.pair.dm.lt _ (List.mem_cons_of_mem _ x); omega⟩
    have hs2 : G ∉ S2 ∧ w.heap.size + 1 ∉ S2 ∧ w.heap.size ∉ S2 := ⟨g.G_off.2.1, fun x => by have := g.pair.rf.lt _ x; omega, fun x => by have := g.pair.rf.lt _ x; omega⟩
    have HS1 := Lib.hid hs1
    have HS2 := Lib.hid hs2
    clear hc0 hbx hrx g1 g hs1 hs2 hsb hF hM
    have hne0 : ¬ (w.heap.size + 1 + 1 = w.heap.size) := by omega
    have hneG : ¬ (w.heap.size + 1 + 1 = G) := by omega
    have v0 : w.cell? ⟨G, 0, none⟩ = some (ptr c) := v0
    have v1 : w.cell? ⟨G, 1, none⟩ = some (ptr h) := v1
    have HK0 := Lib.hid (fun W (hW : Chg [] w W) => (hW.cell (p := ⟨G, 0, none⟩) hGl (by simp)).trans v0)
    have HK1 := Lib.hid (fun W (hW : Chg [] w W) => (hW.cell (p := ⟨G, 1, none⟩) hGl (by simp)).trans v1)
    go_enter Try.func13, Try.ntmps13
    go_wp2
    go_region_held3 (fun w' => w'.cell? ⟨G, 0, none⟩ = some (ptr c) ∧ w'.cell? ⟨G, 1, none⟩ = some (ptr h) ∧ w'.cell? ⟨w.heap.size + 1, 0, none⟩ = some (.int .i64 ri) ∧ w'.cell? ⟨w.heap.size + 1, 1, none⟩ = some (.int .u64 rq) ∧ w'.cell? ⟨w.heap.size, 4, none⟩ = some (.int .i64 gs) ∧ w'.cell? ⟨w.heap.size, 5, none⟩ = some (.int .u64 n) ∧ w'.cell? ⟨w.heap.size, 6, none⟩ = some (.int .u64 per))
      (first | (go_keep; done) | (refine ⟨?_, ?_, ?_, ?_, ?_, ?_, ?_⟩ <;> (first | (go_keep; done) | exact HK0.out _ (by repeat' (first | with_reducible exact Chg.refl [] _ | with_reducible apply Chg.alloc | with_reducible apply Chg.drew)) | exact HK1.out _ (by repeat' (first | with_reducible exact Chg.refl [] _ | with_reducible apply Chg.alloc | with_reducible apply Chg.drew)))))
      (first
        | (go_at_call 17; have hWc : Chg [] (((w.alloc (.cells #[.int .i64 1, .int .i64 ri, .int .u64 rq, .int .i64 at_, .int .i64 gs, .int .u64 n, .int .u64 per] 36)).alloc (obRef ri rq)).drew) ((((w.alloc (.cells #[.int .i64 1, .int .i64 ri, .int .u64 rq, .int .i64 at_, .int .i64 gs, .int .u64 n, .int .u64 per] 36)).alloc (obRef ri rq)).alloc (obRef 0 0)).drew) := ((Chg.refl [] (((w.alloc (.cells #[.int .i64 1, .int .i64 ri, .int .u64 rq, .int .i64 at_, .int .i64 gs, .int .u64 n, .int .u64 per] 36)).alloc (obRef ri rq)).drew)).alloc (obRef 0 0)); refine (HQ.out _ hWc).mono ?_; rintro e w1 ⟨j, p, E, rfl, hjb, hcS, hH⟩; have HG5 := Lib.hid (HGQ.out _ hWc _ hcS).1; have HR5 := Lib.hid (HGQ.out _ hWc _ hcS).2.1; have HA5 := Lib.hid (HGQ.out _ hWc _ hcS).2.2;have lw1 := hcS.size; simp only [World.size_alloc, World.size_drew] at lw1; have k0 : w1.cell? ⟨G, 0, none⟩ = some (ptr c) := HG5.out.cell 0; have k1 : w1.cell? ⟨G, 1, none⟩ = some (ptr h) := HG5.out.cell 1; have k2 : w1.cell? ⟨w.heap.size + 1, 0, none⟩ = some (.int .i64 ri) := HR5.out.cell 0; have k3 : w1.cell? ⟨w.heap.size + 1, 1, none⟩ = some (.int .u64 rq) := HR5.out.cell 1; have k4 : w1.cell? ⟨w.heap.size, 4, none⟩ = some (.int .i64 gs) := HA5.out.cell 4; have k5 : w1.cell? ⟨w.heap.size, 5, none⟩ = some (.int .u64 n) := HA5.out.cell 5; have k6 : w1.cell? ⟨w.heap.size, 6, none⟩ = some (.int .u64 per) := HA5.out.cell 6; have HJ := Lib.hid hjb; have hEE : (E == E) = true := beq_self_eq_true E; have hjj : (j == j) = true := beq_self_eq_true j; have hpp : (p == p) = true := beq_self_eq_true p; have hx5 : Blk ((((w.alloc (.cells #[.int .i64 1, .int .i64 ri, .int .u64 rq, .int .i64 at_, .int .i64 gs, .int .u64 n, .int .u64 per] 36)).alloc (obRef ri rq)).alloc (obRef 0 0)).drew) (w.heap.size + 2) 34 #[.int .i64 0, .int .u64 0] := (Blk.at' ((w.alloc (.cells #[.int .i64 1, .int .i64 ri, .int .u64 rq, .int .i64 at_, .int .i64 gs, .int .u64 n, .int .u64 per] 36)).alloc (obRef ri rq)) 34 #[.int .i64 0, .int .u64 0] (n := w.heap.size + 2) (by simp)).drew; have HX5 := Lib.hid (hx5.chg hcS (HSB.out _ (by omega)).1); have x0 : w1.cell? ⟨w.heap.size + 2, 0, none⟩ = some (.int .i64 0) := HX5.out.cell 0; have x1 : w1.cell? ⟨w.heap.size + 2, 1, none⟩ = some (.int .u64 0) := HX5.out.cell 1; have xf := HX5.out.frozen; have lx := HX5.out.lt; have HH := Lib.hid hH; have lgw : G < w1.heap.size := (by omega); clear hjb hH hWc hx5 hcS)
        | (go_at_call 17; have hWc := Chg.refl [] (((w.alloc (.cells #[.int .i64 1, .int .i64 ri, .int .u64 rq, .int .i64 at_, .int .i64 gs, .int .u64 n, .int .u64 per] 36)).alloc (obRef ri rq)).drew); refine (HQ.out _ hWc).mono ?_; rintro e w1 ⟨j, p, E, rfl, hjb, hcS, hH⟩; have HG5 := Lib.hid (HGQ.out _ hWc _ hcS).1; have HR5 := Lib.hid (HGQ.out _ hWc _ hcS).2.1; have HA5 := Lib.hid (HGQ.out _ hWc _ hcS).2.2;have lw1 := hcS.size; simp only [World.size_alloc, World.size_drew] at lw1; have k0 : w1.cell? ⟨G, 0, none⟩ = some (ptr c) := HG5.out.cell 0; have k1 : w1.cell? ⟨G, 1, none⟩ = some (ptr h) := HG5.out.cell 1; have k2 : w1.cell? ⟨w.heap.size + 1, 0, none⟩ = some (.int .i64 ri) := HR5.out.cell 0; have k3 : w1.cell? ⟨w.heap.size + 1, 1, none⟩ = some (.int .u64 rq) := HR5.out.cell 1; have k4 : w1.cell? ⟨w.heap.size, 4, none⟩ = some (.int .i64 gs) := HA5.out.cell 4; have k5 : w1.cell? ⟨w.heap.size, 5, none⟩ = some (.int .u64 n) := HA5.out.cell 5; have k6 : w1.cell? ⟨w.heap.size, 6, none⟩ = some (.int .u64 per) := HA5.out.cell 6; have HJ := Lib.hid hjb; have hEE : (E == E) = true := beq_self_eq_true E; have hjj : (j == j) = true := beq_self_eq_true j; have hpp : (p == p) = true := beq_self_eq_true p; have HH := Lib.hid hH; have lgw : G < w1.heap.size := (by omega); clear hjb hH hWc hcS))
    all_goals
      go_wp2
    all_goals
      first
      | (have hb6 : Blk (w1.alloc (.cells #[.int .i64 j, .int .u64 p] 34)) w1.heap.size 34 #[.int .i64 j, .int .u64 p] := Blk.new w1 34 _
         have hh6 := HH.out.later ((Chg.refl [] w1).alloc (.cells #[.int .i64 j, .int .u64 p] 34))
         have hg6 := HG5.out.alloc (.cells #[.int .i64 j, .int .u64 p] 34)
         have hr6 := HR5.out.alloc (.cells #[.int .i64 j, .int .u64 p] 34)
         have ha6 := HA5.out.alloc (.cells #[.int .i64 j, .int .u64 p] 34)
         have lb6 : w.heap.size + 2 ≤ w1.heap.size := by omega
         obtain ⟨W6, hW6⟩ : ∃ W6, w1.alloc (.cells #[.int .i64 j, .int .u64 p] 34) = W6 := ⟨_, rfl⟩
         rw [hW6] at hb6 hh6 hg6 hr6 ha6 ⊢
         have szW : w1.heap.size < W6.heap.size := by rw [← hW6]; simp
         clear hW6
         obtain ⟨B6, hB6⟩ : ∃ B6, B6 = w1.heap.size := ⟨_, rfl⟩
         rw [← hB6] at hb6 lb6 ⊢
         clear hB6)
      | (have hb6 : Blk ((w1.setCell ⟨w.heap.size + 1 + 1, 0, none⟩ (.int .i64 j)).setCell ⟨w.heap.size + 1 + 1, 1, none⟩ (.int .u64 p)) (w.heap.size + 1 + 1) 34 #[.int .i64 j, .int .u64 p] := (HX5.out.set_ 0 (.int .i64 j)).set_ 1 (.int .u64 p)
         have hc6 : Chg [w.heap.size + 2] w1 ((w1.setCell ⟨w.heap.size + 1 + 1, 0, none⟩ (.int .i64 j)).setCell ⟨w.heap.size + 1 + 1, 1, none⟩ (.int .u64 p)) := ((Chg.refl [w.heap.size + 2] w1).setCell (p := ⟨w.heap.size + 1 + 1, 0, none⟩) (Or.inl (List.mem_singleton.2 rfl)) _).setCell (p := ⟨w.heap.size + 1 + 1, 1, none⟩) (Or.inl (List.mem_singleton.2 rfl)) _
         have hh6 := HH.out.box HX5.out (by omega) hc6
         have hg6 := HG5.out.chg hc6 (by simp; omega)
         have hr6 := HR5.out.chg hc6 (by simp)
         have ha6 := HA5.out.chg hc6 (by simp)
         obtain ⟨W6, hW6⟩ : ∃ W6, ((w1.setCell ⟨w.heap.size + 1 + 1, 0, none⟩ (.int .i64 j)).setCell ⟨w.heap.size + 1 + 1, 1, none⟩ (.int .u64 p)) = W6 := ⟨_, rfl⟩
         rw [hW6] at hb6 hc6 hh6 hg6 hr6 ha6 ⊢
         have szW := hc6.size
         clear hW6
         obtain ⟨B6, hB6⟩ : ∃ B6, B6 = w.heap.size + 1 + 1 := ⟨_, rfl⟩
         have lb6 : w.heap.size + 2 ≤ B6 := by omega
         rw [← hB6] at hb6 ⊢
         clear hB6 hc6)
    all_goals
      have HB6 := Lib.hid hb6
      have HH6 := Lib.hid hh6
      have HG6 := Lib.hid hg6
      have HR6 := Lib.hid hr6
      have HA6 := Lib.hid ha6
      have b0 := hb6.cell 0
      have b1 := hb6.cell 1
      have lb := hb6.lt
      have lg6 := hg6.lt
      have d0 : W6.cell? ⟨G, 0, none⟩ = some (ptr c) := HG6.out.cell 0
      have d1 : W6.cell? ⟨G, 1, none⟩ = some (ptr h) := HG6.out.cell 1
      have d2 : W6.cell? ⟨w.heap.size + 1, 0, none⟩ = some (.int .i64 ri) := HR6.out.cell 0
      have d3 : W6.cell? ⟨w.heap.size + 1, 1, none⟩ = some (.int .u64 rq) := HR6.out.cell 1
      have d4 : W6.cell? ⟨w.heap.size, 4, none⟩ = some (.int .i64 gs) := HA6.out.cell 4
      have d5 : W6.cell? ⟨w.heap.size, 5, none⟩ = some (.int .u64 n) := HA6.out.cell 5
      have d6 : W6.cell? ⟨w.heap.size, 6, none⟩ = some (.int .u64 per) := HA6.out.cell 6
     
      clear hb6 hh6 hg6 hr6 ha6
      have hnB0 : ¬ (W6.heap.size = w.heap.size) := by omega
      have hnB1 : ¬ (W6.heap.size = w.heap.size + 1) := by omega
      have hnBG : ¬ (W6.heap.size = G) := by omega
      have hnB6 : ¬ (W6.heap.size = B6) := by omega
    all_goals
      by_cases hE0 : E = 0
    all_goals
      first
      | (have hE9 : (E == 0) = true := by simpa using hE0)
      | (have hE9 : (E == 0) = false := by simpa using hE0)
    all_goals
      have HE0 := Lib.hid hE0
      clear hE0
    all_goals
      go_region_held3 (fun w' => w'.cell? ⟨G, 0, none⟩ = some (ptr c) ∧ w'.cell? ⟨G, 1, none⟩ = some (ptr h) ∧ w'.cell? ⟨w.heap.size + 1, 0, none⟩ = some (.int .i64 ri) ∧ w'.cell? ⟨w.heap.size + 1, 1, none⟩ = some (.int .u64 rq) ∧ w'.cell? ⟨w.heap.size, 4, none⟩ = some (.int .i64 gs) ∧ w'.cell? ⟨w.heap.size, 5, none⟩ = some (.int .u64 n) ∧ w'.cell? ⟨w.heap.size, 6, none⟩ = some (.int .u64 per))
        (first | (go_keep; done))
        (first
          | (go_at_call 38; refine (HH6.out.call (((Chg.refl [] W6).alloc (obRef 0 0)).drew)).mono ?_; rintro e w2 ⟨rfl, hU, hc2⟩; have HG7 := Lib.hid ((HG6.out.alloc (obRef 0 0)).drew.chg hc2 HS2.out.1); have HR7 := Lib.hid ((HR6.out.alloc (obRef 0 0)).drew.chg hc2 HS2.out.2.1); have HA7 := Lib.hid ((HA6.out.alloc (obRef 0 0)).drew.chg hc2 HS2.out.2.2); have HB7 := Lib.hid ((HB6.out.alloc (obRef 0 0)).drew.chg hc2 (HSB.out _ (by omega)).2); have e0 : w2.cell? ⟨G, 0, none⟩ = some (ptr c) := HG7.out.cell 0; have e1 : w2.cell? ⟨G, 1, none⟩ = some (ptr h) := HG7.out.cell 1; have e2 : w2.cell? ⟨w.heap.size + 1, 0, none⟩ = some (.int .i64 ri) := HR7.out.cell 0; have e3 : w2.cell? ⟨w.heap.size + 1, 1, none⟩ = some (.int .u64 rq) := HR7.out.cell 1; have e4 : w2.cell? ⟨w.heap.size, 4, none⟩ = some (.int .i64 gs) := HA7.out.cell 4; have e5 : w2.cell? ⟨w.heap.size, 5, none⟩ = some (.int .u64 n) := HA7.out.cell 5; have e6 : w2.cell? ⟨w.heap.size, 6, none⟩ = some (.int .u64 per) := HA7.out.cell 6; have q0 : w2.cell? ⟨B6, 0, none⟩ = some (.int .i64 j) := HB7.out.cell 0; have q1 : w2.cell? ⟨B6, 1, none⟩ = some (.int .u64 p) := HB7.out.cell 1; have q2 : w2.cell? ⟨G, 2, none⟩ = some V := HG7.out.cell 2; have q3 := HG7.out.frozen; have lb7 := HB7.out.lt; have lg7 := HG7.out.lt; have HU := Lib.hid hU; have hy7 : Blk ((W6.alloc (obRef 0 0)).drew) W6.heap.size 34 #[.int .i64 0, .int .u64 0] := (Blk.new W6 34 _).drew; have HY7 := Lib.hid (hy7.chg hc2 (HSB.out _ (by omega)).2); have y0 : w2.cell? ⟨W6.heap.size, 0, none⟩ = some (.int .i64 0) := HY7.out.cell 0; have y1 : w2.cell? ⟨W6.heap.size, 1, none⟩ = some (.int .u64 0) := HY7.out.cell 1; have yf := HY7.out.frozen; have ly := HY7.out.lt; clear hU hc2 hy7)
          | (go_at_call 38; refine (HH6.out.call ((Chg.refl [] W6).drew)).mono ?_; rintro e w2 ⟨rfl, hU, hc2⟩; have HG7 := Lib.hid ((HG6.out).drew.chg hc2 HS2.out.1); have HR7 := Lib.hid ((HR6.out).drew.chg hc2 HS2.out.2.1); have HA7 := Lib.hid ((HA6.out).drew.chg hc2 HS2.out.2.2); have HB7 := Lib.hid ((HB6.out).drew.chg hc2 (HSB.out _ (by omega)).2); have e0 : w2.cell? ⟨G, 0, none⟩ = some (ptr c) := HG7.out.cell 0; have e1 : w2.cell? ⟨G, 1, none⟩ = some (ptr h) := HG7.out.cell 1; have e2 : w2.cell? ⟨w.heap.size + 1, 0, none⟩ = some (.int .i64 ri) := HR7.out.cell 0; have e3 : w2.cell? ⟨w.heap.size + 1, 1, none⟩ = some (.int .u64 rq) := HR7.out.cell 1; have e4 : w2.cell? ⟨w.heap.size, 4, none⟩ = some (.int .i64 gs) := HA7.out.cell 4; have e5 : w2.cell? ⟨w.heap.size, 5, none⟩ = some (.int .u64 n) := HA7.out.cell 5; have e6 : w2.cell? ⟨w.heap.size, 6, none⟩ = some (.int .u64 per) := HA7.out.cell 6; have q0 : w2.cell? ⟨B6, 0, none⟩ = some (.int .i64 j) := HB7.out.cell 0; have q1 : w2.cell? ⟨B6, 1, none⟩ = some (.int .u64 p) := HB7.out.cell 1; have q2 : w2.cell? ⟨G, 2, none⟩ = some V := HG7.out.cell 2; have q3 := HG7.out.frozen; have lb7 := HB7.out.lt; have lg7 := HG7.out.lt; have HU := Lib.hid hU; have sz7 := hc2.size; simp only [World.size_drew] at sz7; clear hU hc2))
    all_goals
      go_wp2
    all_goals
      first
      | (go_ret; first
          | exact ⟨rfl, GTurns.weak (HGG.out.turn (HU.out.box HY7.out (by omega) (((Chg.refl [W6.heap.size] w2).setCell (p := ⟨W6.heap.size, 0, none⟩) (Or.inl (List.mem_singleton.2 rfl)) _).setCell (p := ⟨W6.heap.size, 1, none⟩) (Or.inl (List.mem_singleton.2 rfl)) _)) (fun _ _ x => x.1))⟩
          | exact ⟨rfl, GTurns.weak (HGG.out.turn (HU.out.later (by repeat' (first | with_reducible exact Chg.refl [] _ | with_reducible apply Chg.alloc | with_reducible apply Chg.drew))) (fun _ _ x => x.1))⟩)
      | skip
    all_goals
      first
      | (have hc8 : Chg [W6.heap.size] w2 ((w2.setCell ⟨W6.heap.size, 0, none⟩ (.int .i64 j)).setCell ⟨W6.heap.size, 1, none⟩ (.int .u64 p)) := ((Chg.refl [W6.heap.size] w2).setCell (p := ⟨W6.heap.size, 0, none⟩) (Or.inl (List.mem_singleton.2 rfl)) _).setCell (p := ⟨W6.heap.size, 1, none⟩) (Or.inl (List.mem_singleton.2 rfl)) _
         have hu8 := HU.out.box HY7.out (by omega) hc8
         have hb8 := HB7.out.chg hc8 (by simp; omega)
         obtain ⟨W8, hW8⟩ : ∃ W8, ((w2.setCell ⟨W6.heap.size, 0, none⟩ (.int .i64 j)).setCell ⟨W6.heap.size, 1, none⟩ (.int .u64 p)) = W8 := ⟨_, rfl⟩
         rw [hW8] at hu8 hb8 ⊢
         clear hW8 hc8)
      | (have hu8 := HU.out.later ((Chg.refl [] w2).alloc (.cells #[.int .i64 j, .int .u64 p] 34))
         have hb8 := HB7.out.alloc (.cells #[.int .i64 j, .int .u64 p] 34)
         obtain ⟨W8, hW8⟩ : ∃ W8, w2.alloc (.cells #[.int .i64 j, .int .u64 p] 34) = W8 := ⟨_, rfl⟩
         rw [hW8] at hu8 hb8 ⊢
         clear hW8)
    all_goals
      have hg8 : ∃ x : Blk W8 G 42 #[ptr c, ptr h, V], Row W8 34 2 V rs.length (refCells rs) ∧ G ∉ foot V := by
        obtain ⟨_, _, _, _, _, g8, _⟩ := HGG.out.next hu8 (fun _ _ x => x.1)
        exact ⟨g8.blk, g8.row, g8.G_off.2.2⟩
      obtain ⟨hgb, hrow8, hGV⟩ := hg8
      have hlen8 : rs.length ≤ 1000 := by have := HGG.out.len; have := HGG.out.pair.sim.held.m; omega
      have z0 : W8.cell? ⟨G, 2, none⟩ = some V := hgb.cell 2
      have z1 : W8.cell? ⟨B6, 0, none⟩ = some (.int .i64 j) := hb8.cell 0
      have z2 : W8.cell? ⟨B6, 1, none⟩ = some (.int .u64 p) := hb8.cell 1
      have lg8 := hgb.lt
      have HGB := Lib.hid hgb
      have HRW := Lib.hid hrow8
      have HU8 := Lib.hid hu8
      have HGV := Lib.hid hGV
      have HL8 := Lib.hid hlen8
      clear hgb hrow8 hu8 hb8 hGV hlen8
      go_region_law
        (first
          | (refine step_append_ref (rs := rs) (v := V) (i := j) (q := p) _ (by rfl) _ _ (by rfl) (by rfl) (by rfl) (HRW.out.drew.alloc _) (Blk.new _ 34 _) HL8.out ?_; intro g9 c9 w9 hr9 hg9 hb9; have HX := Lib.hid (GTurns.app HGG.out HU8.out (CvQ.told HGG.out HE0.out) (((Chg.refl [] W8).drew).alloc _) hr9 hg9 hb9); have HZ := Lib.hid (((HGB.out.drew).alloc (.cells #[.int .i64 j, .int .u64 p] 34)).chg ((Chg.refl (foot V) _).grown hg9 (fun k hk => .inl (row_mem hk))) HGV.out); have zz := HZ.out.cell 2; have zf := HZ.out.frozen 2; have lz := HZ.out.lt; clear hr9 hg9 hb9))
    all_goals
      go_wp2
      go_ret
      exact ⟨rfl, HX.out⟩
  · have hat' : decide (1 ≤ at_) = true := by simp; omega
    have v0 := g.blk.cell 0
    have v1 := g.blk.cell 1
    have v2 := g.blk.cell 2
    have hGl := g.blk.lt
    have hone := g.one
    have hlen := g.len
    have h0 := hF.t0
    have h1 := hF.t1
    obtain ⟨b, cp, hVe, hVb⟩ : ∃ b cp, V = .slice (some ⟨b, 0, none⟩) rs.length cp ∧ ∃ cur, Blk w b 34 cur ∧ cur.toList.take (rs.length * 2) = refCells rs := by
      rcases g.row.2 with ⟨_, e0⟩ | ⟨b, cp, cur, e, hb, _, _, _, ht⟩
      · omega
      · exact ⟨b, cp, e, cur, hb, ht⟩
    rw [hVe] at v2
    obtain ⟨j, hj, hj1⟩ : ∃ j : Nat, (rs.length : Int) - 1 - (at_ - 1) % (rs.length : Int) = (j : Nat) ∧ j < rs.length := by
      have a0 := Int.emod_nonneg (at_ - 1) (b := (rs.length : Int)) (by omega)
      have a1 := Int.emod_lt_of_pos (at_ - 1) (b := (rs.length : Int)) (by omega)
      exact ⟨((rs.length : Int) - 1 - (at_ - 1) % (rs.length : Int)).toNat, by omega, by omega⟩
    have hw9 : wrap64 ((rs.length : Int) - 1 - (at_ - 1) % (rs.length : Int)) = (j : Nat) := by rw [hj]; unfold wrap64; omega
    have hj2 : ((j : Nat) : Int) < (rs.length : Int) := by omega
    obtain ⟨cur, hBb, htk⟩ := hVb
    obtain ⟨y, hy⟩ : ∃ y, rs[j]? = some y := ⟨_, List.getElem?_eq_getElem hj1⟩
    have hbl := hBb.lt
    have hcc := refCells_at hy
    have u0 : w.cell? ⟨b, j * 2, none⟩ = some (.int .i64 y.1) := by
      rw [hBb.cell, ← hcc.1, ← htk, List.getElem?_take, if_pos (by omega)]; simp
    have u1 : w.cell? ⟨b, j * 2 + 1, none⟩ = some (.int .u64 y.2) := by
      rw [hBb.cell, ← hcc.2, ← htk, List.getElem?_take, if_pos (by omega)]; simp
    obtain ⟨ky, hyk, hyl, _⟩ := g.told y (List.mem_of_getElem? hy)
    have hN := g.pair.sim.held.n1
    have hc0 : Chg [] w ((((w.alloc (.cells #[.int .i64 1, .int .i64 ri, .int .u64 rq, .int .i64 at_, .int .i64 gs, .int .u64 n, .int .u64 per] 36)).alloc (obRef y.1 y.2)).drew).drew) := ((((Chg.refl [] w).alloc _).alloc _).drew).drew
    have hbx := (((Blk.new w 36 #[.int .i64 1, .int .i64 ri, .int .u64 rq, .int .i64 at_, .int .i64 gs, .int .u64 n, .int .u64 per]).alloc (obRef y.1 y.2)).drew).drew
    have hrx : Blk ((((w.alloc (.cells #[.int .i64 1, .int .i64 ri, .int .u64 rq, .int .i64 at_, .int .i64 gs, .int .u64 n, .int .u64 per] 36)).alloc (obRef y.1 y.2)).drew).drew) (w.heap.size + 1) 34 #[.int .i64 y.1, .int .u64 y.2] := ((Blk.at' _ 34 _ (by simp)).drew).drew
    have g1 := g.quiet hc0
    have HQ := Lib.hid (fun W (hW : Chg [] ((((w.alloc (.cells #[.int .i64 1, .int .i64 ri, .int .u64 rq, .int .i64 at_, .int .i64 gs, .int .u64 n, .int .u64 per] 36)).alloc (obRef y.1 y.2)).drew).drew) W) => pair_carve2 (W0 := W) (hW0 := hc0.then hW) g.pair hM (i := y.1) (q := y.2) (by omega) (by omega) (gs := gs) (cpu := n) (per := per) hF.n0 hF.p0)
    have hsb : ∀ b, w.heap.size ≤ b → b ∉ S ∧ b ∉ S2 := fun b hb => ⟨fun x => by have := g.pair.dm.lt _ (List.mem_cons_of_mem _ x); omega, fun x => by have := g.pair.rf.lt _ x; omega⟩
    have HSB := Lib.hid hsb
    have HGQ := Lib.hid (fun W (hW : Chg [] ((((w.alloc (.cells #[.int .i64 1, .int .i64 ri, .int .u64 rq, .int .i64 at_, .int .i64 gs, .int .u64 n, .int .u64 per] 36)).alloc (obRef y.1 y.2)).drew).drew) W) w1 (h1 : Chg S W w1) => (⟨(g1.blk.chg hW (by simp)).chg h1 (fun x => g.G_off.1 (List.mem_cons_of_mem _ x)), (hrx.chg hW (by simp)).chg h1 (hsb _ (by omega)).1, (hbx.chg hW (by simp)).chg h1 (hsb _ (by omega)).1⟩ : Blk w1 G 42 #[ptr c, ptr h, V] ∧ Blk w1 (w.heap.size + 1) 34 #[.int .i64 y.1, .int .u64 y.2] ∧ Blk w1 w.heap.size 36 #[.int .i64 1, .int .i64 ri, .int .u64 rq, .int .i64 at_, .int .i64 gs, .int .u64 n, .int .u64 per]))
    have HGG := Lib.hid g
    have HG := Lib.hid g1.blk
    have HR := Lib.hid hrx
    have HA := Lib.hid hbx
    have hs1 : G ∉ S ∧ w.heap.size + 1 ∉ S ∧ w.heap.size ∉ S := ⟨fun x => g.G_off.1 (List.mem_cons_of_mem _ x), fun x => by have := g.pair.dm.lt _ (List.mem_cons_of_mem _ x); omega, fun x => by have := g.pair.dm.lt _ (List.mem_cons_of_mem _ x); omega⟩
    have hs2 : G ∉ S2 ∧ w.heap.size + 1 ∉ S2 ∧ w.heap.size ∉ S2 := ⟨g.G_off.2.1, fun x => by have := g.pair.rf.lt _ x; omega, fun x => by have := g.pair.rf.lt _ x; omega⟩
    have HS1 := Lib.hid hs1
    have HS2 := Lib.hid hs2
    clear hc0 hbx hrx g1 g hs1 hs2 hsb hF hj hBb htk hy hcc hyk hN hVe
    have hne0 : ¬ (w.heap.size + 1 + 1 = w.heap.size) := by omega
    have hneG : ¬ (w.heap.size + 1 + 1 = G) := by omega
    have v0 : w.cell? ⟨G, 0, none⟩ = some (ptr c) := v0
    have v1 : w.cell? ⟨G, 1, none⟩ = some (ptr h) := v1
    have HK0 := Lib.hid (fun W (hW : Chg [] w W) => (hW.cell (p := ⟨G, 0, none⟩) hGl (by simp)).trans v0)
    have HK1 := Lib.hid (fun W (hW : Chg [] w W) => (hW.cell (p := ⟨G, 1, none⟩) hGl (by simp)).trans v1)
    go_enter Try.func13, Try.ntmps13
    go_wp2
    go_region
    go_wp2
    go_region_held3 (fun w' => w'.cell? ⟨G, 0, none⟩ = some (ptr c) ∧ w'.cell? ⟨G, 1, none⟩ = some (ptr h) ∧ w'.cell? ⟨w.heap.size + 1, 0, none⟩ = some (.int .i64 y.1) ∧ w'.cell? ⟨w.heap.size + 1, 1, none⟩ = some (.int .u64 y.2) ∧ w'.cell? ⟨w.heap.size, 4, none⟩ = some (.int .i64 gs) ∧ w'.cell? ⟨w.heap.size, 5, none⟩ = some (.int .u64 n) ∧ w'.cell? ⟨w.heap.size, 6, none⟩ = some (.int .u64 per))
      (first | (go_keep; done) | (refine ⟨?_, ?_, ?_, ?_, ?_, ?_, ?_⟩ <;> (first | (go_keep; done) | exact HK0.out _ (by repeat' (first | with_reducible exact Chg.refl [] _ | with_reducible apply Chg.alloc | with_reducible apply Chg.drew)) | exact HK1.out _ (by repeat' (first | with_reducible exact Chg.refl [] _ | with_reducible apply Chg.alloc | with_reducible apply Chg.drew)))))
      (first
        | (go_at_call 17; have hWc : Chg [] ((((w.alloc (.cells #[.int .i64 1, .int .i64 ri, .int .u64 rq, .int .i64 at_, .int .i64 gs, .int .u64 n, .int .u64 per] 36)).alloc (obRef y.1 y.2)).drew).drew) ((((w.alloc (.cells #[.int .i64 1, .int .i64 ri, .int .u64 rq, .int .i64 at_, .int .i64 gs, .int .u64 n, .int .u64 per] 36)).alloc (obRef y.1 y.2)).alloc (obRef 0 0)).drew.drew) := ((Chg.refl [] ((((w.alloc (.cells #[.int .i64 1, .int .i64 ri, .int .u64 rq, .int .i64 at_, .int .i64 gs, .int .u64 n, .int .u64 per] 36)).alloc (obRef y.1 y.2)).drew).drew)).alloc (obRef 0 0)); refine (HQ.out _ hWc).mono ?_; rintro e w1 ⟨j, p, E, rfl, hjb, hcS, hH⟩; have HG5 := Lib.hid (HGQ.out _ hWc _ hcS).1; have HR5 := Lib.hid (HGQ.out _ hWc _ hcS).2.1; have HA5 := Lib.hid (HGQ.out _ hWc _ hcS).2.2;have lw1 := hcS.size; simp only [World.size_alloc, World.size_drew] at lw1; have k0 : w1.cell? ⟨G, 0, none⟩ = some (ptr c) := HG5.out.cell 0; have k1 : w1.cell? ⟨G, 1, none⟩ = some (ptr h) := HG5.out.cell 1; have k2 : w1.cell? ⟨w.heap.size + 1, 0, none⟩ = some (.int .i64 y.1) := HR5.out.cell 0; have k3 : w1.cell? ⟨w.heap.size + 1, 1, none⟩ = some (.int .u64 y.2) := HR5.out.cell 1; have k4 : w1.cell? ⟨w.heap.size, 4, none⟩ = some (.int .i64 gs) := HA5.out.cell 4; have k5 : w1.cell? ⟨w.heap.size, 5, none⟩ = some (.int .u64 n) := HA5.out.cell 5; have k6 : w1.cell? ⟨w.heap.size, 6, none⟩ = some (.int .u64 per) := HA5.out.cell 6; have HJ := Lib.hid hjb; have hEE : (E == E) = true := beq_self_eq_true E; have hjj : (j == j) = true := beq_self_eq_true j; have hpp : (p == p) = true := beq_self_eq_true p; have hx5 : Blk ((((w.alloc (.cells #[.int .i64 1, .int .i64 ri, .int .u64 rq, .int .i64 at_, .int .i64 gs, .int .u64 n, .int .u64 per] 36)).alloc (obRef y.1 y.2)).alloc (obRef 0 0)).drew.drew) (w.heap.size + 2) 34 #[.int .i64 0, .int .u64 0] := (Blk.at' ((w.alloc (.cells #[.int .i64 1, .int .i64 ri, .int .u64 rq, .int .i64 at_, .int .i64 gs, .int .u64 n, .int .u64 per] 36)).alloc (obRef y.1 y.2)) 34 #[.int .i64 0, .int .u64 0] (n := w.heap.size + 2) (by simp)).drew.drew; have HX5 := Lib.hid (hx5.chg hcS (HSB.out _ (by omega)).1); have x0 : w1.cell? ⟨w.heap.size + 2, 0, none⟩ = some (.int .i64 0) := HX5.out.cell 0; have x1 : w1.cell? ⟨w.heap.size + 2, 1, none⟩ = some (.int .u64 0) := HX5.out.cell 1; have xf := HX5.out.frozen; have lx := HX5.out.lt; have HH := Lib.hid hH; have lgw : G < w1.heap.size := (by omega); clear hjb hH hWc hx5 hcS)
        | (go_at_call 17; have hWc := Chg.refl [] ((((w.alloc (.cells #[.int .i64 1, .int .i64 ri, .int .u64 rq, .int .i64 at_, .int .i64 gs, .int .u64 n, .int .u64 per] 36)).alloc (obRef y.1 y.2)).drew).drew); refine (HQ.out _ hWc).mono ?_; rintro e w1 ⟨j, p, E, rfl, hjb, hcS, hH⟩; have HG5 := Lib.hid (HGQ.out _ hWc _ hcS).1; have HR5 := Lib.hid (HGQ.out _ hWc _ hcS).2.1; have HA5 := Lib.hid (HGQ.out _ hWc _ hcS).2.2;have lw1 := hcS.size; simp only [World.size_alloc, World.size_drew] at lw1; have k0 : w1.cell? ⟨G, 0, none⟩ = some (ptr c) := HG5.out.cell 0; have k1 : w1.cell? ⟨G, 1, none⟩ = some (ptr h) := HG5.out.cell 1; have k2 : w1.cell? ⟨w.heap.size + 1, 0, none⟩ = some (.int .i64 y.1) := HR5.out.cell 0; have k3 : w1.cell? ⟨w.heap.size + 1, 1, none⟩ = some (.int .u64 y.2) := HR5.out.cell 1; have k4 : w1.cell? ⟨w.heap.size, 4, none⟩ = some (.int .i64 gs) := HA5.out.cell 4; have k5 : w1.cell? ⟨w.heap.size, 5, none⟩ = some (.int .u64 n) := HA5.out.cell 5; have k6 : w1.cell? ⟨w.heap.size, 6, none⟩ = some (.int .u64 per) := HA5.out.cell 6; have HJ := Lib.hid hjb; have hEE : (E == E) = true := beq_self_eq_true E; have hjj : (j == j) = true := beq_self_eq_true j; have hpp : (p == p) = true := beq_self_eq_true p; have HH := Lib.hid hH; have lgw : G < w1.heap.size := (by omega); clear hjb hH hWc hcS))
    all_goals
      go_wp2
    all_goals
      first
      | (have hb6 : Blk (w1.alloc (.cells #[.int .i64 j, .int .u64 p] 34)) w1.heap.size 34 #[.int .i64 j, .int .u64 p] := Blk.new w1 34 _
         have hh6 := HH.out.later ((Chg.refl [] w1).alloc (.cells #[.int .i64 j, .int .u64 p] 34))
         have hg6 := HG5.out.alloc (.cells #[.int .i64 j, .int .u64 p] 34)
         have hr6 := HR5.out.alloc (.cells #[.int .i64 j, .int .u64 p] 34)
         have ha6 := HA5.out.alloc (.cells #[.int .i64 j, .int .u64 p] 34)
         have lb6 : w.heap.size + 2 ≤ w1.heap.size := by omega
         obtain ⟨W6, hW6⟩ : ∃ W6, w1.alloc (.cells #[.int .i64 j, .int .u64 p] 34) = W6 := ⟨_, rfl⟩
         rw [hW6] at hb6 hh6 hg6 hr6 ha6 ⊢
         have szW : w1.heap.size < W6.heap.size := by rw [← hW6]; simp
         clear hW6
         obtain ⟨B6, hB6⟩ : ∃ B6, B6 = w1.heap.size := ⟨_, rfl⟩
         rw [← hB6] at hb6 lb6 ⊢
         clear hB6)
      | (have hb6 : Blk ((w1.setCell ⟨w.heap.size + 1 + 1, 0, none⟩ (.int .i64 j)).setCell ⟨w.heap.size + 1 + 1, 1, none⟩ (.int .u64 p)) (w.heap.size + 1 + 1) 34 #[.int .i64 j, .int .u64 p] := (HX5.out.set_ 0 (.int .i64 j)).set_ 1 (.int .u64 p)
         have hc6 : Chg [w.heap.size + 2] w1 ((w1.setCell ⟨w.heap.size + 1 + 1, 0, none⟩ (.int .i64 j)).setCell ⟨w.heap.size + 1 + 1, 1, none⟩ (.int .u64 p)) := ((Chg.refl [w.heap.size + 2] w1).setCell (p := ⟨w.heap.size + 1 + 1, 0, none⟩) (Or.inl (List.mem_singleton.2 rfl)) _).setCell (p := ⟨w.heap.size + 1 + 1, 1, none⟩) (Or.inl (List.mem_singleton.2 rfl)) _
         have hh6 := HH.out.box HX5.out (by omega) hc6
         have hg6 := HG5.out.chg hc6 (by simp; omega)
         have hr6 := HR5.out.chg hc6 (by simp)
         have ha6 := HA5.out.chg hc6 (by simp)
         obtain ⟨W6, hW6⟩ : ∃ W6, ((w1.setCell ⟨w.heap.size + 1 + 1, 0, none⟩ (.int .i64 j)).setCell ⟨w.heap.size + 1 + 1, 1, none⟩ (.int .u64 p)) = W6 := ⟨_, rfl⟩
         rw [hW6] at hb6 hc6 hh6 hg6 hr6 ha6 ⊢
         have szW := hc6.size
         clear hW6
         obtain ⟨B6, hB6⟩ : ∃ B6, B6 = w.heap.size + 1 + 1 := ⟨_, rfl⟩
         have lb6 : w.heap.size + 2 ≤ B6 := by omega
         rw [← hB6] at hb6 ⊢
         clear hB6 hc6)
    all_goals
      have HB6 := Lib.hid hb6
      have HH6 := Lib.hid hh6
      have HG6 := Lib.hid hg6
      have HR6 := Lib.hid hr6
      have HA6 := Lib.hid ha6
      have b0 := hb6.cell 0
      have b1 := hb6.cell 1
      have lb := hb6.lt
      have lg6 := hg6.lt
      have d0 : W6.cell? ⟨G, 0, none⟩ = some (ptr c) := HG6.out.cell 0
      have d1 : W6.cell? ⟨G, 1, none⟩ = some (ptr h) := HG6.out.cell 1
      have d2 : W6.cell? ⟨w.heap.size + 1, 0, none⟩ = some (.int .i64 y.1) := HR6.out.cell 0
      have d3 : W6.cell? ⟨w.heap.size + 1, 1, none⟩ = some (.int .u64 y.2) := HR6.out.cell 1
      have d4 : W6.cell? ⟨w.heap.size, 4, none⟩ = some (.int .i64 gs) := HA6.out.cell 4
      have d5 : W6.cell? ⟨w.heap.size, 5, none⟩ = some (.int .u64 n) := HA6.out.cell 5
      have d6 : W6.cell? ⟨w.heap.size, 6, none⟩ = some (.int .u64 per) := HA6.out.cell 6
     
      clear hb6 hh6 hg6 hr6 ha6
      have hnB0 : ¬ (W6.heap.size = w.heap.size) := by omega
      have hnB1 : ¬ (W6.heap.size = w.heap.size + 1) := by omega
      have hnBG : ¬ (W6.heap.size = G) := by omega
      have hnB6 : ¬ (W6.heap.size = B6) := by omega
    all_goals
      by_cases hE0 : E = 0
    all_goals
      first
      | (have hE9 : (E == 0) = true := by simpa using hE0)
      | (have hE9 : (E == 0) = false := by simpa using hE0)
    all_goals
      have HE0 := Lib.hid hE0
      clear hE0
    all_goals
      go_region_held3 (fun w' => w'.cell? ⟨G, 0, none⟩ = some (ptr c) ∧ w'.cell? ⟨G, 1, none⟩ = some (ptr h) ∧ w'.cell? ⟨w.heap.size + 1, 0, none⟩ = some (.int .i64 y.1) ∧ w'.cell? ⟨w.heap.size + 1, 1, none⟩ = some (.int .u64 y.2) ∧ w'.cell? ⟨w.heap.size, 4, none⟩ = some (.int .i64 gs) ∧ w'.cell? ⟨w.heap.size, 5, none⟩ = some (.int .u64 n) ∧ w'.cell? ⟨w.heap.size, 6, none⟩ = some (.int .u64 per))
        (first | (go_keep; done))
        (first
          | (go_at_call 38; refine (HH6.out.call (((Chg.refl [] W6).alloc (obRef 0 0)).drew)).mono ?_; rintro e w2 ⟨rfl, hU, hc2⟩; have HG7 := Lib.hid ((HG6.out.alloc (obRef 0 0)).drew.chg hc2 HS2.out.1); have HR7 := Lib.hid ((HR6.out.alloc (obRef 0 0)).drew.chg hc2 HS2.out.2.1); have HA7 := Lib.hid ((HA6.out.alloc (obRef 0 0)).drew.chg hc2 HS2.out.2.2); have HB7 := Lib.hid ((HB6.out.alloc (obRef 0 0)).drew.chg hc2 (HSB.out _ (by omega)).2); have e0 : w2.cell? ⟨G, 0, none⟩ = some (ptr c) := HG7.out.cell 0; have e1 : w2.cell? ⟨G, 1, none⟩ = some (ptr h) := HG7.out.cell 1; have e2 : w2.cell? ⟨w.heap.size + 1, 0, none⟩ = some (.int .i64 y.1) := HR7.out.cell 0; have e3 : w2.cell? ⟨w.heap.size + 1, 1, none⟩ = some (.int .u64 y.2) := HR7.out.cell 1; have e4 : w2.cell? ⟨w.heap.size, 4, none⟩ = some (.int .i64 gs) := HA7.out.cell 4; have e5 : w2.cell? ⟨w.heap.size, 5, none⟩ = some (.int .u64 n) := HA7.out.cell 5; have e6 : w2.cell? ⟨w.heap.size, 6, none⟩ = some (.int .u64 per) := HA7.out.cell 6; have q0 : w2.cell? ⟨B6, 0, none⟩ = some (.int .i64 j) := HB7.out.cell 0; have q1 : w2.cell? ⟨B6, 1, none⟩ = some (.int .u64 p) := HB7.out.cell 1; have q2 : w2.cell? ⟨G, 2, none⟩ = some V := HG7.out.cell 2; have q3 := HG7.out.frozen; have lb7 := HB7.out.lt; have lg7 := HG7.out.lt; have HU := Lib.hid hU; have hy7 : Blk ((W6.alloc (obRef 0 0)).drew) W6.heap.size 34 #[.int .i64 0, .int .u64 0] := (Blk.new W6 34 _).drew; have HY7 := Lib.hid (hy7.chg hc2 (HSB.out _ (by omega)).2); have y0 : w2.cell? ⟨W6.heap.size, 0, none⟩ = some (.int .i64 0) := HY7.out.cell 0; have y1 : w2.cell? ⟨W6.heap.size, 1, none⟩ = some (.int .u64 0) := HY7.out.cell 1; have yf := HY7.out.frozen; have ly := HY7.out.lt; clear hU hc2 hy7)
          | (go_at_call 38; refine (HH6.out.call ((Chg.refl [] W6).drew)).mono ?_; rintro e w2 ⟨rfl, hU, hc2⟩; have HG7 := Lib.hid ((HG6.out).drew.chg hc2 HS2.out.1); have HR7 := Lib.hid ((HR6.out).drew.chg hc2 HS2.out.2.1); have HA7 := Lib.hid ((HA6.out).drew.chg hc2 HS2.out.2.2); have HB7 := Lib.hid ((HB6.out).drew.chg hc2 (HSB.out _ (by omega)).2); have e0 : w2.cell? ⟨G, 0, none⟩ = some (ptr c) := HG7.out.cell 0; have e1 : w2.cell? ⟨G, 1, none⟩ = some (ptr h) := HG7.out.cell 1; have e2 : w2.cell? ⟨w.heap.size + 1, 0, none⟩ = some (.int .i64 y.1) := HR7.out.cell 0; have e3 : w2.cell? ⟨w.heap.size + 1, 1, none⟩ = some (.int .u64 y.2) := HR7.out.cell 1; have e4 : w2.cell? ⟨w.heap.size, 4, none⟩ = some (.int .i64 gs) := HA7.out.cell 4; have e5 : w2.cell? ⟨w.heap.size, 5, none⟩ = some (.int .u64 n) := HA7.out.cell 5; have e6 : w2.cell? ⟨w.heap.size, 6, none⟩ = some (.int .u64 per) := HA7.out.cell 6; have q0 : w2.cell? ⟨B6, 0, none⟩ = some (.int .i64 j) := HB7.out.cell 0; have q1 : w2.cell? ⟨B6, 1, none⟩ = some (.int .u64 p) := HB7.out.cell 1; have q2 : w2.cell? ⟨G, 2, none⟩ = some V := HG7.out.cell 2; have q3 := HG7.out.frozen; have lb7 := HB7.out.lt; have lg7 := HG7.out.lt; have HU := Lib.hid hU; have sz7 := hc2.size; simp only [World.size_drew] at sz7; clear hU hc2))
    all_goals
      go_wp2
    all_goals
      first
      | (go_ret; first
          | exact ⟨rfl, GTurns.weak (HGG.out.turn (HU.out.box HY7.out (by omega) (((Chg.refl [W6.heap.size] w2).setCell (p := ⟨W6.heap.size, 0, none⟩) (Or.inl (List.mem_singleton.2 rfl)) _).setCell (p := ⟨W6.heap.size, 1, none⟩) (Or.inl (List.mem_singleton.2 rfl)) _)) (fun _ _ x => x.1))⟩
          | exact ⟨rfl, GTurns.weak (HGG.out.turn (HU.out.later (by repeat' (first | with_reducible exact Chg.refl [] _ | with_reducible apply Chg.alloc | with_reducible apply Chg.drew))) (fun _ _ x => x.1))⟩)
      | skip
    all_goals
      first
      | (have hc8 : Chg [W6.heap.size] w2 ((w2.setCell ⟨W6.heap.size, 0, none⟩ (.int .i64 j)).setCell ⟨W6.heap.size, 1, none⟩ (.int .u64 p)) := ((Chg.refl [W6.heap.size] w2).setCell (p := ⟨W6.heap.size, 0, none⟩) (Or.inl (List.mem_singleton.2 rfl)) _).setCell (p := ⟨W6.heap.size, 1, none⟩) (Or.inl (List.mem_singleton.2 rfl)) _
         have hu8 := HU.out.box HY7.out (by omega) hc8
         have hb8 := HB7.out.chg hc8 (by simp; omega)
         obtain ⟨W8, hW8⟩ : ∃ W8, ((w2.setCell ⟨W6.heap.size, 0, none⟩ (.int .i64 j)).setCell ⟨W6.heap.size, 1, none⟩ (.int .u64 p)) = W8 := ⟨_, rfl⟩
         rw [hW8] at hu8 hb8 ⊢
         clear hW8 hc8)
      | (have hu8 := HU.out.later ((Chg.refl [] w2).alloc (.cells #[.int .i64 j, .int .u64 p] 34))
         have hb8 := HB7.out.alloc (.cells #[.int .i64 j, .int .u64 p] 34)
         obtain ⟨W8, hW8⟩ : ∃ W8, w2.alloc (.cells #[.int .i64 j, .int .u64 p] 34) = W8 := ⟨_, rfl⟩
         rw [hW8] at hu8 hb8 ⊢
         clear hW8)
    all_goals
      have hg8 : ∃ x : Blk W8 G 42 #[ptr c, ptr h, V], Row W8 34 2 V rs.length (refCells rs) ∧ G ∉ foot V := by
        obtain ⟨_, _, _, _, _, g8, _⟩ := HGG.out.next hu8 (fun _ _ x => x.1)
        exact ⟨g8.blk, g8.row, g8.G_off.2.2⟩
      obtain ⟨hgb, hrow8, hGV⟩ := hg8
      have hlen8 : rs.length ≤ 1000 := by have := HGG.out.len; have := HGG.out.pair.sim.held.m; omega
      have z0 : W8.cell? ⟨G, 2, none⟩ = some V := hgb.cell 2
      have z1 : W8.cell? ⟨B6, 0, none⟩ = some (.int .i64 j) := hb8.cell 0
      have z2 : W8.cell? ⟨B6, 1, none⟩ = some (.int .u64 p) := hb8.cell 1
      have lg8 := hgb.lt
      have HGB := Lib.hid hgb
      have HRW := Lib.hid hrow8
      have HU8 := Lib.hid hu8
      have HGV := Lib.hid hGV
      have HL8 := Lib.hid hlen8
      clear hgb hrow8 hu8 hb8 hGV hlen8
      go_region_law
        (first
          | (refine step_append_ref (rs := rs) (v := V) (i := j) (q := p) _ (by rfl) _ _ (by rfl) (by rfl) (by rfl) (HRW.out.drew.alloc _) (Blk.new _ 34 _) HL8.out ?_; intro g9 c9 w9 hr9 hg9 hb9; have HX := Lib.hid (GTurns.app HGG.out HU8.out (CvQ.told HGG.out HE0.out) (((Chg.refl [] W8).drew).alloc _) hr9 hg9 hb9); have HZ := Lib.hid (((HGB.out.drew).alloc (.cells #[.int .i64 j, .int .u64 p] 34)).chg ((Chg.refl (foot V) _).grown hg9 (fun k hk => .inl (row_mem hk))) HGV.out); have zz := HZ.out.cell 2; have zf := HZ.out.frozen 2; have lz := HZ.out.lt; clear hr9 hg9 hb9))
    all_goals
      go_wp2
      go_ret
      exact ⟨rfl, HX.out⟩
end
end Go.Proofs
end
section
namespace Go.Proofs
open Go.RowKit Go.Shelf
set_option linter.unusedVariables false
set_option linter.unusedSimpArgs false
section
variable {w : World} {G c h M : Nat} {S S2 : List Nat} {V : Value} {rs : List (Int × Int)} {t : Tab Dm} {r : RTab} {ch : Nat → List (Int × Int)}
/-- Nothing is done. -/
theorem Game.rest (g : Game w G c S h S2 V rs M t r ch) (hM : M + 1 ≤ 1000) {w1 : World} (hc : Chg [] w w1) : GTurns (fun r' ch' rs' => Grows r r' ∧ rs <+: rs') G c S h S2 V M w w1 :=
  GTurns.weak (g.turn (Q := fun r' _ => Grows r r') (g.pair.stay hM (DomTurns.refl g.pair.dm hc) (RTurns.refl (g.pair.rf.quiet hc) (Chg.refl [] w1)) (Grows.refl r)).1 (fun _ _ x => x))
set_option maxRecDepth 100000 in
set_option maxHeartbeats 6400000 in
theorem do0 (g : Game w G c S h S2 V rs M t r ch) (hM : M + 1 ≤ 1000) {kind ri rq at_ gs n per : Int} (hF : ActC.Fits ⟨kind, ri, rq, at_, gs, n, per⟩) (hk : kind ≠ 1 ∧ kind ≠ 2 ∧ kind ≠ 3 ∧ kind ≠ 4 ∧ kind ≠ 5 ∧ kind ≠ 6) :
    Calls Try.prog 13 #[ptr G, .agg #[.int .i64 kind, .int .i64 ri, .int .u64 rq, .int .i64 at_, .int .i64 gs, .int .u64 n, .int .u64 per]] w (DoPost G c S h S2 V M r rs w) := by
  unfold DoPost
  obtain ⟨h1, h2, h3, h4, h5, h6⟩ := hk
  have d1 : (kind == 1) = false := by simpa using h1
  have d2 : (kind == 2) = false := by simpa using h2
  have d3 : (kind == 3) = false := by simpa using h3
  have d4 : (kind == 4) = false := by simpa using h4
  have d5 : (kind == 5) = false := by simpa using h5
  have d6 : (kind == 6) = false := by simpa using h6
  clear h1 h2 h3 h4 h5 h6
  have HST := Lib.hid (fun w1 (hc : Chg [] w w1) => g.rest hM hc)
  by_cases hat : at_ < 1
  · have hat' : decide (1 ≤ at_) = false := by simp; omega
    clear hat g hF hM
    go_enter Try.func13, Try.ntmps13
    go_wp2
    go_ret
    exact ⟨rfl, HST.out _ (by repeat' (first | with_reducible exact Chg.refl [] _ | with_reducible apply Chg.alloc | with_reducible apply Chg.drew))⟩
  · have hat' : decide (1 ≤ at_) = true := by simp; omega
    have v2 := g.blk.cell 2
    have hGl := g.blk.lt
    have hone := g.one
    have hlen := g.len
    have h0 := hF.t0
    have h1 := hF.t1
    obtain ⟨b, cp, hVe, hVb⟩ : ∃ b cp, V = .slice (some ⟨b, 0, none⟩) rs.length cp ∧ ∃ cur, Blk w b 34 cur ∧ cur.toList.take (rs.length * 2) = refCells rs := by
      rcases g.row.2 with ⟨_, e0⟩ | ⟨b, cp, cur, e, hb, _, _, _, ht⟩
      · omega
      · exact ⟨b, cp, e, cur, hb, ht⟩
    rw [hVe] at v2
    obtain ⟨j, hj, hj1⟩ : ∃ j : Nat, (rs.length : Int) - 1 - (at_ - 1) % (rs.length : Int) = (j : Nat) ∧ j < rs.length := by
      have a0 := Int.emod_nonneg (at_ - 1) (b := (rs.length : Int)) (by omega)
      have a1 := Int.emod_lt_of_pos (at_ - 1) (b := (rs.length : Int)) (by omega)
      exact ⟨((rs.length : Int) - 1 - (at_ - 1) % (rs.length : Int)).toNat, by omega, by omega⟩
    have hw9 : wrap64 ((rs.length : Int) - 1 - (at_ - 1) % (rs.length : Int)) = (j : Nat) := by rw [hj]; unfold wrap64; omega
    have hj2 : ((j : Nat) : Int) < (rs.length : Int) := by omega
    obtain ⟨cur, hBb, htk⟩ := hVb
    obtain ⟨y, hy⟩ : ∃ y, rs[j]? = some y := ⟨_, List.getElem?_eq_getElem hj1⟩
    have hbl := hBb.lt
    have hcc := refCells_at hy
    have u0 : w.cell? ⟨b, j * 2, none⟩ = some (.int .i64 y.1) := by
      rw [hBb.cell, ← hcc.1, ← htk, List.getElem?_take, if_pos (by omega)]; simp
    have u1 : w.cell? ⟨b, j * 2 + 1, none⟩ = some (.int .u64 y.2) := by
      rw [hBb.cell, ← hcc.2, ← htk, List.getElem?_take, if_pos (by omega)]; simp
    clear g hF hj hBb htk hy hcc
    go_enter Try.func13, Try.ntmps13
    go_wp2
    go_region
    go_wp2
    go_ret
    exact ⟨rfl, HST.out _ (by repeat' (first | with_reducible exact Chg.refl [] _ | with_reducible apply Chg.alloc | with_reducible apply Chg.drew))⟩
end
end Go.Proofs
end
section
namespace Go.Proofs
open Go.RowKit Go.Shelf
set_option linter.unusedVariables false
/-- **do**: an act, of both. -/
theorem do_any {w : World} {G c h M : Nat} {S S2 : List Nat} {V : Value} {rs : List (Int × Int)} {t : Tab Dm} {r : RTab} {ch : Nat → List (Int × Int)} (g : Game w G c S h S2 V rs M t r ch) (hM : M + 1 ≤ 1000) (a : ActC) (hF : a.Fits) :
    Calls Try.prog 13 #[ptr G, .agg a.cells.toArray] w (DoPost G c S h S2 V M r rs w) := by
  obtain ⟨kind, ri, rq, at_, gs, n, per⟩ := a
  by_cases h1 : kind = 1
  · subst h1; exact do1 g hM hF
  by_cases h2 : kind = 2
  · subst h2; exact do2 g hM hF
  by_cases h3 : kind = 3
  · subst h3; exact do3 g hM hF
  by_cases h4 : kind = 4
  · subst h4; exact do4 g hM hF
  by_cases h5 : kind = 5
  · subst h5; exact do5 g hM hF
  by_cases h6 : kind = 6
  · subst h6; exact do6 g hM hF
  exact do0 g hM hF ⟨h1, h2, h3, h4, h5, h6⟩
end Go.Proofs
end
section
namespace Go.Proofs
open Go.RowKit Go.Shelf
set_option linter.unusedVariables false
set_option linter.unusedSimpArgs false
/-! ### The chapter's rows, plainly -/
abbrev kT0 : Tab Dm := (tab0 (4 : Nat)).put dm0 (rootD 4 10 5)
abbrev kR0 : RTab := (rtab0 4).put (rkid 0 0 4 10 5)
theorem k0_sim : Sim 1 kT0 kR0 (fun _ => [(0, 1)]) := Sim.begin (n := 4) (by omega) (by omega) (by omega) (by omega) (by omega) (by omega)
theorem k0_pl : kR0.pl 0 = ⟨1, true, 4, 10, 5, 0, 0, 0, 0⟩ := by rfl
theorem k0_is : kR0.is 0 1 = true := by decide
theorem k0_gets : ∃ f, Gets kT0 kR0 f := k0_sim.gets (by decide)
theorem k0_cgs : kR0.cgs 0 1 = 0 ∧ kR0.car 0 1 = 0 := by decide
theorem k1_E : carveE kT0 0 1 3 6 5 = 0 := by decide
theorem k1_sim : ∃ ch, Sim 2 (carveT kT0 0 1 3 6 5) (kR0.on 0 1 3 6 5) ch := by
  obtain ⟨f, hg⟩ := k0_gets
  exact ⟨_, k0_sim.on (k := 0) (by omega) hg rfl (by rw [k0_pl]) (by rw [k0_pl]) (by omega) (by omega) (by omega) (by omega) (by rw [k0_cgs.1, k0_pl]; decide) (by rw [k0_cgs.2, k0_pl]; decide)⟩
theorem k1_pl : (kR0.on 0 1 3 6 5).pl 0 = ⟨1, true, 4, 10, 5, 0, 0, 0, 0⟩ := by rfl
theorem k1_cgs : (kR0.on 0 1 3 6 5).cgs 0 1 = 3 := by decide
theorem k2_sim : ∃ ch L, Sim 2 (carveT kT0 0 1 3 6 5) (kR0.on 0 1 3 6 5) ch ∧ Up (carveT kT0 0 1 3 6 5).par 0 1 L ∧ Sim 2 (settleT 1 0 1 L (carveT kT0 0 1 3 6 5)) ((kR0.on 0 1 3 6 5).set1 0 1 0) ch := by
  obtain ⟨ch, h⟩ := k1_sim
  have h1 := h.held.chs 0 (by rw [k1_pl])
  rw [k1_pl] at h1
  refine ⟨ch, ch 0, h, by rw [h.par]; exact h1.1, ?_⟩
  have := h.settle (k := 0) (by rw [k1_pl]) 1 (by rw [k1_pl]; decide) (by rw [k1_pl]; show 0 + 1 + (kR0.on 0 1 3 6 5).cgs 0 1 ≤ 4; rw [k1_cgs]; decide)
  rw [k1_pl] at this
  exact this
theorem k1_J : joinE (carveT kT0 0 1 3 6 5) 0 1 = 0 := by decide
theorem k2_get : ∀ ch, ((kR0.on 0 1 3 6 5).set1 0 1 0).is 0 1 = true ∧ (((kR0.on 0 1 3 6 5).set1 0 1 0).get ch 0 1).gs = 4 ∧ (((kR0.on 0 1 3 6 5).set1 0 1 0).get ch 0 1).cgs = 3 ∧ (((kR0.on 0 1 3 6 5).set1 0 1 0).get ch 0 1).own = 1 := fun ch => by
  refine ⟨by decide, by show (((kR0.on 0 1 3 6 5).set1 0 1 0).pl 0).gs = 4; decide, by show ((kR0.on 0 1 3 6 5).set1 0 1 0).cgs 0 1 = 3; decide, by show (((kR0.on 0 1 3 6 5).set1 0 1 0).pl 0).own = 1; decide⟩
theorem k2_E {t : Tab Dm} {ch : Nat → List (Int × Int)} (h : Sim 2 t ((kR0.on 0 1 3 6 5).set1 0 1 0) ch) : joinE t 0 1 = 15 ∧ carveE t 0 1 1 5 5 = 15 := by
  obtain ⟨a, b, c, d⟩ := k2_get ch
  constructor
  · unfold joinE
    rw [h.has, a, h.at_ a, b, c, d]; rfl
  · unfold carveE
    rw [h.has, a, h.at_ a, b, c, d]
    rw [show mayD 1 5 5 = true from by decide]
    simp
end Go.Proofs
end
section
namespace Go.Proofs
open Go.RowKit Go.Shelf
set_option linter.unusedVariables false
set_option linter.unusedSimpArgs false
theorem k_root {t : Tab Dm} {r : RTab} {M : Nat} {ch : Nat → List (Int × Int)} (h : Sim M t r ch) (h0 : (r.pl 0).is = true) (h1 : (r.pl 0).gen = 1) : t.atIdx 0 = 0 ∧ t.atGen 0 = 1 := by
  have hl := h.live.2 ⟨0, rfl, h0, rfl⟩
  unfold Tab.atIdx Tab.atGen
  rw [show ((0 : Nat) : Int) = 0 from rfl] at hl
  rw [hl]
  exact ⟨rfl, h1⟩
/-- Domains of the call's own. -/
def KAt (w W : World) (c : Nat) (t : Tab Dm) : Prop := Chg [] w W ∧ ∃ S, DomAt W c S t ∧ (∀ k ∈ S, w.heap.size ≤ k)
theorem KAt.quiet {w W W' : World} {c : Nat} {t : Tab Dm} (h : KAt w W c t) (hc : Chg [] W W') : KAt w W' c t := by
  obtain ⟨h1, S, h2, h3⟩ := h
  exact ⟨h1.then hc, S, h2.quiet hc, h3⟩
theorem KAt.turn {w W W' : World} {c : Nat} {S : List Nat} {t' : Tab Dm} (h1 : Chg [] w W) (h3 : ∀ k ∈ S, w.heap.size ≤ k) (hT : DomTurns c S t' W W') : KAt w W' c t' := by
  obtain ⟨S', a, b, d⟩ := hT
  exact ⟨h1.trans d (fun k hk => .inr (h3 k hk)), S', a, fun k hk => (b k hk).elim (h3 k) (fun x => Nat.le_trans h1.size x)⟩
set_option maxRecDepth 100000 in
set_option maxHeartbeats 3200000 in
/-- **known**: the chapter's rows. -/
theorem known_any (w : World) : Calls Try.prog 8 #[] w fun e w' => e = .returned (.bool true) ∧ Chg [] w w' := by
  obtain ⟨ch, L, s1, hU, s2⟩ := k2_sim
  have e2 := k2_E s2
  have r0 := k_root k0_sim (by rw [k0_pl]) (by rw [k0_pl])
  have r1 := k_root s1 (by rw [k1_pl]) (by rw [k1_pl])
  have r2 := k_root s2 (by rfl) (by rfl)
  obtain ⟨t1, ht1⟩ : ∃ t1, t1 = carveT kT0 0 1 3 6 5 := ⟨_, rfl⟩
  rw [← ht1] at s1 hU s2 r1 r2 e2
  have hj1 : joinE t1 0 1 = 0 := by rw [ht1]; exact k1_J
  obtain ⟨t2, ht2⟩ : ∃ t2, t2 = settleT 1 0 1 L t1 := ⟨_, rfl⟩
  rw [← ht2] at s2 r2 e2
  have HN : Hid (∀ W, Chg [] w W → Calls Try.prog 10 #[.int .i64 4, .int .i64 4, .int .u64 10, .int .u64 5] W fun e W' => ∃ c, e = .returned (.tuple #[ptr c, .int .i64 0]) ∧ KAt w W' c kT0) := Lib.hid (fun W hW => (New_yes W (size := (4 : Nat)) (gs := 4) (cpu := 10) (per := 5) (by omega) (by omega) (by decide)).mono (by
    rintro e W' ⟨c, S, rfl, hD, hf, hc⟩
    exact ⟨c, rfl, hW.then hc, S, hD, fun k hk => Nat.le_trans hW.size (hf k (List.mem_cons_of_mem _ hk))⟩))
  have HR0 : Hid (∀ W c, KAt w W c kT0 → Calls Try.prog 27 #[ptr c] W fun e W' => e = .returned (.agg #[.int .i64 0, .int .u64 1]) ∧ Chg [] W W') := Lib.hid (fun W c ⟨_, S, h, _⟩ => by have := Root_any h; rw [r0.1, r0.2] at this; exact this)
  have HR1 : Hid (∀ W c, KAt w W c t1 → Calls Try.prog 27 #[ptr c] W fun e W' => e = .returned (.agg #[.int .i64 0, .int .u64 1]) ∧ Chg [] W W') := Lib.hid (fun W c ⟨_, S, h, _⟩ => by have := Root_any h; rw [r1.1, r1.2] at this; exact this)
  have HR2 : Hid (∀ W c, KAt w W c t2 → Calls Try.prog 27 #[ptr c] W fun e W' => e = .returned (.agg #[.int .i64 0, .int .u64 1]) ∧ Chg [] W W') := Lib.hid (fun W c ⟨_, S, h, _⟩ => by have := Root_any h; rw [r2.1, r2.2] at this; exact this)
  have HC0 : Hid (∀ W c, KAt w W c kT0 → Calls Try.prog 17 #[ptr c, .agg #[.int .i64 0, .int .u64 1], .int .i64 3, .int .u64 6, .int .u64 5] W fun e W' => ∃ i q, e = refAns i q 0 ∧ KAt w W' c t1) := Lib.hid (fun W c ⟨h1, S, h, h3⟩ => (Carve_any h k0_sim.oks (i := 0) (q := 1) (gs := 3) (cpu := 6) (per := 5) (by omega) (by omega) (by omega) (by omega)).mono (by
    rintro e W' (⟨hne, _⟩ | ⟨_, rfl, hT⟩)
    · exact absurd k1_E hne
    · rw [← ht1] at hT; exact ⟨_, _, rfl, KAt.turn h1 h3 hT⟩))
  have HJ1 : Hid (∀ W c, KAt w W c t1 → Calls Try.prog 19 #[ptr c, .agg #[.int .i64 0, .int .u64 1]] W fun e W' => e = .returned (.int .i64 0) ∧ KAt w W' c t2) := Lib.hid (fun W c ⟨h1, S, h, h3⟩ => (Join_any h s1.oks hU (by omega) (by omega)).mono (by
    rintro e W' ⟨rfl, hD, hc⟩
    rw [hj1, if_pos rfl, ← ht2] at hD
    exact ⟨by rw [hj1], KAt.turn h1 h3 ⟨S, hD, fun k hk => .inl hk, hc⟩⟩))
  obtain ⟨L2, hL2, _⟩ := Sim.chain s2.held 0 1
  rw [← s2.par] at hL2
  have HJ2 : Hid (∀ W c, KAt w W c t2 → Calls Try.prog 19 #[ptr c, .agg #[.int .i64 0, .int .u64 1]] W fun e W' => e = .returned (.int .i64 15) ∧ KAt w W' c t2) := Lib.hid (fun W c ⟨h1, S, h, h3⟩ => (Join_any h s2.oks hL2 (by omega) (by omega)).mono (by
    rintro e W' ⟨rfl, hD, hc⟩
    rw [e2.1, if_neg (by decide)] at hD
    exact ⟨by rw [e2.1], KAt.turn h1 h3 ⟨S, hD, fun k hk => .inl hk, hc⟩⟩))
  have HC2 : Hid (∀ W c, KAt w W c t2 → Calls Try.prog 17 #[ptr c, .agg #[.int .i64 0, .int .u64 1], .int .i64 1, .int .u64 5, .int .u64 5] W fun e W' => ∃ i q, e = refAns i q 15 ∧ Chg [] w W') := Lib.hid (fun W c ⟨h1, S, h, h3⟩ => (Carve_any h s2.oks (i := 0) (q := 1) (gs := 1) (cpu := 5) (per := 5) (by omega) (by omega) (by omega) (by omega)).mono (by
    rintro e W' (⟨_, rfl, _, hc⟩ | ⟨he, _⟩)
    · rw [e2.2]; exact ⟨_, _, rfl, h1.then hc⟩
    · rw [e2.2] at he; cases he))
  clear hL2 s1 hU s2 e2 r0 r1 r2 ht1 hj1 ht2
  go_enter Try.func8, Try.ntmps8
  go_wp2_with (first
    | (go_at_call 10; refine (HN.out _ (by repeat' (first | with_reducible exact Chg.refl [] _ | with_reducible apply Chg.alloc | with_reducible apply Chg.drew))).mono ?_; rintro e w1 ⟨c, rfl, hk⟩; have HA := Lib.hid hk; clear hk)
    | (go_at_call 27; refine (HR2.out _ _ (HD.out.quiet (by repeat' (first | with_reducible exact Chg.refl [] _ | with_reducible apply Chg.alloc | with_reducible apply Chg.drew)))).mono ?_; rintro e w6 ⟨rfl, hc⟩; have HE := Lib.hid (HD.out.quiet (Chg.then (by repeat' (first | with_reducible exact Chg.refl [] _ | with_reducible apply Chg.alloc | with_reducible apply Chg.drew)) hc)); clear hc)
    | (go_at_call 27; refine (HR2.out _ _ (HC.out.quiet (by repeat' (first | with_reducible exact Chg.refl [] _ | with_reducible apply Chg.alloc | with_reducible apply Chg.drew)))).mono ?_; rintro e w5 ⟨rfl, hc⟩; have HD0 := Lib.hid (HC.out.quiet (Chg.then (by repeat' (first | with_reducible exact Chg.refl [] _ | with_reducible apply Chg.alloc | with_reducible apply Chg.drew)) hc)); clear hc)
    | (go_at_call 27; refine (HR1.out _ _ (HB.out.quiet (by repeat' (first | with_reducible exact Chg.refl [] _ | with_reducible apply Chg.alloc | with_reducible apply Chg.drew)))).mono ?_; rintro e w3 ⟨rfl, hc⟩; have HB1 := Lib.hid (HB.out.quiet (Chg.then (by repeat' (first | with_reducible exact Chg.refl [] _ | with_reducible apply Chg.alloc | with_reducible apply Chg.drew)) hc)); clear hc)
    | (go_at_call 27; refine (HR0.out _ _ (HA.out.quiet (by repeat' (first | with_reducible exact Chg.refl [] _ | with_reducible apply Chg.alloc | with_reducible apply Chg.drew)))).mono ?_; rintro e w2 ⟨rfl, hc⟩; have HA1 := Lib.hid (HA.out.quiet (Chg.then (by repeat' (first | with_reducible exact Chg.refl [] _ | with_reducible apply Chg.alloc | with_reducible apply Chg.drew)) hc)); clear hc)
    | (go_at_call 17; refine (HC2.out _ _ (HE.out.quiet (by repeat' (first | with_reducible exact Chg.refl [] _ | with_reducible apply Chg.alloc | with_reducible apply Chg.drew)))).mono ?_; rintro e w7 ⟨i7, q7, rfl, hc⟩; have HZ := Lib.hid hc; clear hc)
    | (go_at_call 17; refine (HC0.out _ _ (HA1.out.quiet (by repeat' (first | with_reducible exact Chg.refl [] _ | with_reducible apply Chg.alloc | with_reducible apply Chg.drew)))).mono ?_; rintro e w3 ⟨i3, q3, rfl, hk⟩; have HB := Lib.hid hk; clear hk)
    | (go_at_call 19; refine (HJ2.out _ _ (HD0.out.quiet (by repeat' (first | with_reducible exact Chg.refl [] _ | with_reducible apply Chg.alloc | with_reducible apply Chg.drew)))).mono ?_; rintro e w6 ⟨rfl, hk⟩; have HD := Lib.hid hk; clear hk)
    | (go_at_call 19; refine (HJ1.out _ _ (HB1.out.quiet (by repeat' (first | with_reducible exact Chg.refl [] _ | with_reducible apply Chg.alloc | with_reducible apply Chg.drew)))).mono ?_; rintro e w4 ⟨rfl, hk⟩; have HC := Lib.hid hk; clear hk))
  go_ret
  exact ⟨rfl, HZ.out.then (by repeat' (first | with_reducible exact Chg.refl [] _ | with_reducible apply Chg.alloc | with_reducible apply Chg.drew))⟩
end Go.Proofs
end
section
namespace Go.Proofs
open Go.RowKit Go.Shelf
set_option linter.unusedVariables false
set_option linter.unusedSimpArgs false
set_option maxRecDepth 100000 in
theorem may_any {size gs cpu per : Int} (hc : 0 ≤ cpu) (hp : 0 ≤ per) (w : World) :
    Calls Try.prog 9 #[.int .i64 size, .int .i64 gs, .int .u64 cpu, .int .u64 per] w fun e w' => e = .returned (.bool (mayN size gs cpu per)) ∧ w = w' := by
  have HM := Lib.hid (fun W => mayD_any 29 (.inr rfl) gs cpu per hc hp W)
  unfold mayN
  obtain ⟨m, hm⟩ : ∃ m, m = mayD gs cpu per := ⟨_, rfl⟩
  rw [← hm] at HM ⊢
  clear hm
  by_cases a : 1 ≤ size
  · by_cases b : size ≤ 32
    · have e : (decide (1 ≤ size) && decide (size ≤ 32) && m) = m := by simp [a, b]
      rw [e]
      go_enter Try.func9, Try.ntmps9
      go_wp2_with (go_at_call 29; refine (HM.out _).mono ?_; rintro e w' ⟨rfl, rfl⟩)
      go_ret
      exact ⟨rfl, rfl⟩
    · have e : (decide (1 ≤ size) && decide (size ≤ 32) && m) = false := by simp [b]
      rw [e]
      clear HM
      go_enter Try.func9, Try.ntmps9
      go_wp2
      go_ret
      exact ⟨rfl, rfl⟩
  · have e : (decide (1 ≤ size) && decide (size ≤ 32) && m) = false := by simp [a]
    rw [e]
    clear HM
    go_enter Try.func9, Try.ntmps9
    go_wp2
    go_ret
    exact ⟨rfl, rfl⟩
theorem begin_pl {N : Nat} (h0 : 1 ≤ N) (gs cpu per : Int) : ((rtab0 N).put (rkid 0 0 gs cpu per)).pl 0 = ⟨1, true, gs, cpu, per, 0, 0, 0, 0⟩ := by
  obtain ⟨d, rfl⟩ : ∃ d, N = d + 1 := ⟨N - 1, by omega⟩
  have hF : (rtab0 (d + 1)).F = newF (d + 1) d ++ [0] := by unfold rtab0; rw [newF_succ]; simp
  have hat : (rtab0 (d + 1)).at0 = 0 := by unfold RTab.at0; rw [hF]; simp
  have hlen : (rtab0 (d + 1)).L.length = d + 1 := by unfold rtab0; simp
  have hpl0 : (rtab0 (d + 1)).pl 0 = pl1 := RTab.pl_eq (by unfold rtab0; rw [List.getElem?_replicate, if_pos (by omega)])
  unfold RTab.put
  rw [rpl_set (by rw [hat, hlen]; omega), hat, if_pos rfl, hpl0]; rfl
set_option maxRecDepth 100000 in
set_option maxHeartbeats 3200000 in
/-- **begin**: a game. -/
theorem begin_any {N : Nat} {gs cpu per : Int} (hc : 0 ≤ cpu) (hp : 0 ≤ per) (hm : mayN (N : Nat) gs cpu per = true) (w : World) :
    Calls Try.prog 11 #[.int .i64 (N : Nat), .int .i64 gs, .int .u64 cpu, .int .u64 per] w fun e w' => ∃ G c S h S2 V t r ch, e = .returned (ptr G) ∧ Game w' G c S h S2 V [(0, 1)] 1 t r ch ∧ (∀ k ∈ gBlocks G V S S2, w.heap.size ≤ k) ∧ Chg [] w w' := by
  obtain ⟨h0, h1, hd⟩ := mayN_iff.1 hm
  have hd2 := hd
  unfold mayD at hd2
  simp at hd2
  have sim : Sim 1 ((tab0 (N : Nat)).put dm0 (rootD gs cpu per)) ((rtab0 N).put (rkid 0 0 gs cpu per)) (fun _ => [(0, 1)]) := Sim.begin (by omega) (by omega) (by omega) (by omega) hc (by omega)
  have hpl := begin_pl (N := N) (by omega) gs cpu per
  have hroot := k_root sim (by rw [hpl]) (by rw [hpl])
  have hrl : ((rtab0 N).put (rkid 0 0 gs cpu per)).L.length = N := by unfold RTab.put rtab0; simp
  obtain ⟨T, hT⟩ : ∃ T, T = (tab0 (N : Nat)).put dm0 (rootD gs cpu per) := ⟨_, rfl⟩
  obtain ⟨R, hR⟩ : ∃ R, R = (rtab0 N).put (rkid 0 0 gs cpu per) := ⟨_, rfl⟩
  have HN := Lib.hid (fun W => New_yes W (size := (N : Nat)) hc hp hm)
  have HR := Lib.hid (fun W => rnew_any N (by omega) (by omega) gs cpu per W)
  rw [← hT] at sim HN hroot
  rw [← hR] at sim HR hpl hrl
  have HO : Hid (∀ W c S, DomAt W c S T → Calls Try.prog 27 #[ptr c] W fun e W' => e = .returned (.agg #[.int .i64 0, .int .u64 1]) ∧ Chg [] W W') := Lib.hid (fun W c S h => by have := Root_any h; rw [hroot.1, hroot.2] at this; exact this)
  have HS := Lib.hid sim
  have HP := Lib.hid hpl
  have HL := Lib.hid hrl
  have N0 : 1 ≤ N := by omega
  clear sim hpl hroot hrl hT hR hd hd2 hm h0 h1
  go_enter Try.func11, Try.ntmps11
  go_wp2_with (first
    | (go_at_call 10; refine (HN.out _).mono ?_; rintro e w1 ⟨c, S, rfl, hD, hf, hc1⟩; have HD := Lib.hid hD; have HF := Lib.hid hf; have HC1 := Lib.hid hc1; clear hD hf hc1)
    | (go_at_call 33; refine (HR.out _).mono ?_; rintro e w2 ⟨h, S2, rfl, hR2, hf2, hc2⟩; have HR2 := Lib.hid hR2; have HF2 := Lib.hid hf2; have HC2 := Lib.hid hc2; clear hR2 hf2 hc2)
    | (go_at_call 27; refine (HO.out _ _ _ (HD.out.quiet HC2.out)).mono ?_; rintro e w3 ⟨rfl, hc3⟩; have HC3 := Lib.hid hc3; clear hc3))
  go_ret
  have z1 := HC1.out.size
  have z2 := HC2.out.size
  have z3 := HC3.out.size
  have hq : Chg [] w3 ((w3.alloc (.cells #[.int .i64 0, .int .u64 1] 34)).alloc (.cells #[ptr c, ptr h, .slice (some ⟨w3.heap.size, 0, none⟩) 1 1] 42)) := ((Chg.refl [] w3).alloc _).alloc _
  refine ⟨w3.heap.size + 1, c, S, h, S2, .slice (some ⟨w3.heap.size, 0, none⟩) 1 1, T, R, _, rfl, ⟨⟨((HD.out.quiet HC2.out).quiet HC3.out).quiet hq, (HR2.out.quiet HC3.out).quiet hq, HS.out, fun k hk hm => ?_⟩, Blk.at' _ 42 _ (by simp), ?_, ?_, by simp, by simp⟩, ?_, ((HC1.out.then HC2.out).then HC3.out).then hq⟩
  · have a := HD.out.lt k (List.mem_cons_of_mem _ hk)
    have b := HF2.out k hm
    omega
  · exact ⟨rfl, .inr ⟨w3.heap.size, 1, #[.int .i64 0, .int .u64 1], rfl, (Blk.new w3 34 _).alloc _, by simp, by unfold maxLen; omega, by simp, rfl⟩⟩
  · intro x hx
    simp at hx; subst hx
    have hp := HP.out
    exact ⟨0, rfl, by rw [HL.out]; exact N0, by simp, by rw [hp]; simp, fun _ => by rw [hp]⟩
  · intro k hk
    rcases List.mem_cons.1 hk with rfl | hk
    · omega
    · rcases List.mem_append.1 hk with hk | hk
      · simp [foot_some] at hk; omega
      · rcases List.mem_append.1 hk with hk | hk
        · exact HF.out k (List.mem_cons_of_mem _ hk)
        · have := HF2.out k hk; omega
end Go.Proofs
end
section
namespace Go.Proofs
open Go.RowKit Go.Shelf
set_option linter.unusedVariables false
/-! ### Acts that came in, and what holds between two acts -/
def Acts (w : World) (V : Value) (l : List ActC) : Prop :=
  ∃ A c, V = .slice A l.length c ∧ ∀ (k : Nat) (a : ActC), l[k]? = some a → ∃ b off, A = some ⟨b, off, none⟩ ∧ b < w.heap.size ∧ a.Fits ∧
    ∀ (j : Nat) (u : Value), a.cells[j]? = some u → w.cell? ⟨b, off + k * 7 + j, none⟩ = some u
theorem Acts.open_ {w : World} {V : Value} {l : List ActC} (h : Acts w V l) : ∃ A c, V = .slice A l.length c := by
  obtain ⟨A, c, h1, _⟩ := h; exact ⟨A, c, h1⟩
/-- The cells of an act that came in, whatever else has turned since. -/
def ActIs (w : World) (b o : Nat) (kind ri rq at_ gs n per : Int) : Prop := ∀ W, Chg [] w W →
  W.cell? ⟨b, o, none⟩ = some (.int .i64 kind) ∧ W.cell? ⟨b, o + 1, none⟩ = some (.int .i64 ri) ∧ W.cell? ⟨b, o + 2, none⟩ = some (.int .u64 rq) ∧ W.cell? ⟨b, o + 3, none⟩ = some (.int .i64 at_) ∧
  W.cell? ⟨b, o + 4, none⟩ = some (.int .i64 gs) ∧ W.cell? ⟨b, o + 5, none⟩ = some (.int .u64 n) ∧ W.cell? ⟨b, o + 6, none⟩ = some (.int .u64 per)
theorem Acts.is_ {w : World} {A : Option Addr} {n c : Nat} {l : List ActC} (h : Acts w (.slice A n c) l) {k : Nat} (hk : k < n) :
    ∃ b off kind ri rq at_ gs n7 per, A = some ⟨b, off, none⟩ ∧ l[k]? = some ⟨kind, ri, rq, at_, gs, n7, per⟩ ∧ ActC.Fits ⟨kind, ri, rq, at_, gs, n7, per⟩ ∧ ActIs w b (off + k * 7) kind ri rq at_ gs n7 per := by
  obtain ⟨A', c', hv, ho⟩ := h
  simp only [Value.slice.injEq] at hv
  obtain ⟨rfl, rfl, rfl⟩ := hv
  obtain ⟨a, ha⟩ : ∃ a, l[k]? = some a := ⟨_, List.getElem?_eq_getElem hk⟩
  obtain ⟨b, off, rfl, hb, hf, h2⟩ := ho k a ha
  obtain ⟨kind, ri, rq, at_, gs, n7, per⟩ := a
  refine ⟨b, off, kind, ri, rq, at_, gs, n7, per, rfl, ha, hf, fun W hc => ?_⟩
  have g := fun (j : Nat) (u : Value) (hj : (ActC.cells ⟨kind, ri, rq, at_, gs, n7, per⟩)[j]? = some u) => (hc.cell (p := ⟨b, off + k * 7 + j, none⟩) hb (by simp)).trans (h2 j u hj)
  exact ⟨g 0 _ rfl, g 1 _ rfl, g 2 _ rfl, g 3 _ rfl, g 4 _ rfl, g 5 _ rfl, g 6 _ rfl⟩
/-- What holds behind N acts. -/
def Btw (w0 : World) (G c h : Nat) (N : Nat) (w : World) : Prop :=
  ∃ S S2 V rs t r ch, Game w G c S h S2 V rs (N + 1) t r ch ∧ (∀ k ∈ gBlocks G V S S2, w0.heap.size ≤ k) ∧ Chg [] w0 w
section
variable {w0 w w' : World} {G c h : Nat} {N : Nat}
theorem Btw.chg (H : Btw w0 G c h N w) : Chg [] w0 w := by obtain ⟨S, S2, V, rs, t, r, ch, h1, h2, h3⟩ := H; exact h3
theorem Btw.quiet (H : Btw w0 G c h N w) (hc : Chg [] w w') : Btw w0 G c h N w' := by
  obtain ⟨S, S2, V, rs, t, r, ch, h1, h2, h3⟩ := H
  exact ⟨S, S2, V, rs, t, r, ch, h1.quiet hc, h2, h3.then hc⟩
/-- Both turn: what they are made of is new still. -/
theorem GTurns.new {Q : RTab → (Nat → List (Int × Int)) → List (Int × Int) → Prop} {S S2 : List Nat} {V : Value} {M : Nat} {W : World} (hp : GTurns Q G c S h S2 V M w w') (h2 : ∀ k ∈ gBlocks G V S S2, W.heap.size ≤ k) (h4 : Chg [] W w) :
    ∃ S' S2' V' rs' t' r' ch', Game w' G c S' h S2' V' rs' (M + 1) t' r' ch' ∧ (∀ k ∈ gBlocks G V' S' S2', W.heap.size ≤ k) ∧ Chg [] W w' ∧ Q r' ch' rs' := by
  obtain ⟨S', S2', V', rs', t', r', ch', k1, k2, k3, k4⟩ := hp
  have z := h4.size
  exact ⟨S', S2', V', rs', t', r', ch', k1, fun k hk => (k2 k hk).elim (h2 k) (fun h => Nat.le_trans z h), h4.trans k3 (fun k hk => .inr (h2 k hk)), k4⟩
theorem Btw.does (H : Btw w0 G c h N w) (hN : N + 1 ≤ 900) (a : ActC) (hF : a.Fits) :
    Calls Try.prog 13 #[ptr G, .agg a.cells.toArray] w fun e w' => e = .returned (.bool true) ∧ Btw w0 G c h (N + 1) w' := by
  obtain ⟨S, S2, V, rs, t, r, ch, h1, h2, h3⟩ := H
  refine (do_any h1 (by omega) a hF).mono ?_
  rintro e w' ⟨he, hp⟩
  obtain ⟨S', S2', V', rs', t', r', ch', k1, k2, k3, k4⟩ := hp.new h2 h3
  exact ⟨he, S', S2', V', rs', t', r', ch', k1, k2, k3⟩
end
theorem begin_btw {N : Nat} {gs cpu per : Int} (hc : 0 ≤ cpu) (hp : 0 ≤ per) (hm : mayN (N : Nat) gs cpu per = true) {w0 w : World} (h0 : Chg [] w0 w) :
    Calls Try.prog 11 #[.int .i64 (N : Nat), .int .i64 gs, .int .u64 cpu, .int .u64 per] w fun e w' => ∃ G c h, e = .returned (ptr G) ∧ Btw w0 G c h 0 w' := by
  refine (begin_any hc hp hm w).mono ?_
  rintro e w' ⟨G, c, S, h, S2, V, t, r, ch, rfl, hg, hb, hc'⟩
  have z := h0.size
  exact ⟨G, c, h, rfl, S, S2, V, _, t, r, ch, hg, fun k hk => Nat.le_trans z (hb k hk), h0.then hc'⟩
end Go.Proofs
end
