/-
  P9.2: carving a child out and merging it leaves all shares as they were.
-/
import Derived.Test.YtpclhbfmocjgeaaM10
import Derived.Test.YtpclhbfmocjgeaaN
import Derived.Test.YtpclhbfmocjgeaaRows
import Derived.WalkKit
import Derived.Below
import Derived.ChangeSame
import Derived.Test.YtpclhbfmocjgeaaM11
import Derived.ProofKit
import Derived.OpenShut
section
namespace Go.Proofs
open Go.RowKit Go.Shelf
set_option linter.unusedVariables false
set_option linter.unusedSimpArgs false
/-- Behind a Carve: nothing, or a child more, whose ref came last. -/
def BackQ (t : Tab Dm) (r : RTab) (ch : Nat → List (Int × Int)) (rs : List (Int × Int)) (r' : RTab) (ch' : Nat → List (Int × Int)) (rs' : List (Int × Int)) : Prop :=
  (rs' = rs ∧ r' = r ∧ ch' = ch) ∨ ∃ (f k : Nat) (gs cpu per : Int), Gets t r f ∧ (r.pl k).is = true ∧ rs' = rs ++ [(((f : Nat) : Int), (r.pl f).gen)] ∧ r' = r.on (k : Nat) (r.pl k).gen gs cpu per ∧ ch' = chOn r ch f (ch k)
def DoPostB (G c : Nat) (S : List Nat) (h : Nat) (S2 : List Nat) (V : Value) (M : Nat) (t : Tab Dm) (r : RTab) (ch : Nat → List (Int × Int)) (rs : List (Int × Int)) (w : World) (e : Ending) (w' : World) : Prop :=
  e = .returned (.bool true) ∧ GTurns (BackQ t r ch rs) G c S h S2 V M w w'
theorem GTurns.backNo {G c h M : Nat} {S S2 : List Nat} {V : Value} {rs : List (Int × Int)} {t : Tab Dm} {r : RTab} {ch : Nat → List (Int × Int)} {w w' : World} {i q gs cpu per j p E : Int} (hE : ¬ E = 0) (hg : GTurns (fun r' ch' rs' => Grows r r' ∧ CvQ t r ch i q gs cpu per j p E r' ch' ∧ rs' = rs) G c S h S2 V M w w') : GTurns (BackQ t r ch rs) G c S h S2 V M w w' := by
  obtain ⟨S', S2', V', rs', t', r', ch', h1, h2, h3, h4, h5, rfl⟩ := hg
  obtain ⟨e1, e2⟩ := h5.2.1 hE
  exact ⟨S', S2', V', rs', t', r', ch', h1, h2, h3, .inl ⟨rfl, e1, e2⟩⟩
theorem GTurns.appS {Q : PQ} {G c h M : Nat} {S S2 : List Nat} {V : Value} {rs : List (Int × Int)} {t : Tab Dm} {r : RTab} {ch : Nat → List (Int × Int)} {w w8 w9 W8 : World} (g : Game w G c S h S2 V rs M t r ch) {j p : Int}
    (hp : PTurns Q c S h S2 M w w8) (hQ : ∀ r' ch', Q r' ch' → Grows r r' ∧ ∃ k : Nat, j = (k : Nat) ∧ k < r'.L.length ∧ 0 ≤ p ∧ p = (r'.pl k).gen ∧ (r'.pl k).is = true) (hc8 : Chg [] w8 W8)
    {b cp : Nat} (hr : Row w9 34 2 (.slice (some ⟨b, 0, none⟩) (rs.length + 1) cp) (rs ++ [(j, p)]).length (refCells (rs ++ [(j, p)]))) (hg : W8.grownBy w9 V.ownBlock) (hb : V.ownBlock = some b ∨ b = W8.heap.size) :
    GTurns (fun r' ch' rs' => Q r' ch' ∧ rs' = rs ++ [(j, p)]) G c S h S2 V M w (w9.setCell ⟨G, 2, none⟩ (.slice (some ⟨b, 0, none⟩) (rs.length + 1) cp)) := by
  obtain ⟨S', S2', t', r', ch', g', h1, h2, hc, hq⟩ := g.next hp (fun r' ch' x => (hQ r' ch' x).1)
  obtain ⟨hgr, k0, hj, hk0, hp0, hpg, hpi⟩ := hQ r' ch' hq
  have g8 := g'.quiet hc8
  obtain ⟨a1, a2, a3⟩ := g8.G_off
  have a4 := g8.V_off
  have hc9 : Chg (foot V) W8 w9 := (Chg.refl _ _).grown hg (fun k hk => .inl (row_mem hk))
  have hcG : Chg [G] w9 (w9.setCell ⟨G, 2, none⟩ (.slice (some ⟨b, 0, none⟩) (rs.length + 1) cp)) := (Chg.refl _ _).setCell (.inl (by simp)) _
  have lG := g8.blk.lt
  have hbG : G ≠ b := by
    rintro rfl
    rcases hb with hb | hb
    · exact a3 (row_mem hb)
    · omega
  have hsz : w.heap.size ≤ W8.heap.size := Nat.le_trans hc.size hc8.size
  have hD9 := g8.pair.dm.chg hc9 (fun hm => by
    have := g8.pair.dm.lt c List.mem_cons_self
    obtain ⟨gg, hcb, _⟩ := g8.pair.dm
    exact g8.row.ty hcb (by decide) hm) (fun k hk hm => (a4 k hm).1 hk)
  have hR9 := g8.pair.rf.chg hc9 (fun k hk hm => (a4 k hm).2 hk)
  have hG9 := g8.blk.chg hc9 a3
  refine ⟨S', S2', .slice (some ⟨b, 0, none⟩) (rs.length + 1) cp, rs ++ [(j, p)], t', r', ch', ⟨⟨hD9.chg hcG (by simp; rintro rfl; exact a1 List.mem_cons_self) (fun k hk => by simp; rintro rfl; exact a1 (List.mem_cons_of_mem _ hk)), hR9.chg hcG (fun k hk => by simp; rintro rfl; exact a2 hk), g8.pair.sim, g8.pair.ap⟩, hG9.set_ 2 _, ?_, ?_, ?_, ?_⟩, ?_, ?_, hq, rfl⟩
  · rw [List.length_append] at hr ⊢
    exact hr.far (by simp [foot_some]; exact hbG) _
  · intro x hx
    rcases List.mem_append.1 hx with hx | hx
    · exact g8.told x hx
    · simp at hx; subst hx
      exact ⟨k0, hj, hk0, hp0, by simp only; omega, fun _ => hpi⟩
  · simp
  · have := g.len
    simp only [List.length_append, List.length_cons, List.length_nil]; omega
  · intro k hk
    rcases List.mem_cons.1 hk with rfl | hk
    · exact .inl List.mem_cons_self
    · rcases List.mem_append.1 hk with hk | hk
      · simp [foot_some] at hk; subst hk
        rcases hb with hb | hb
        · exact .inl (List.mem_cons_of_mem _ (List.mem_append_left _ (row_mem hb)))
        · exact .inr (by omega)
      · rcases List.mem_append.1 hk with hk | hk
        · exact (h1 k hk).imp (fun x => List.mem_cons_of_mem _ (List.mem_append_right _ (List.mem_append_left _ x))) id
        · exact (h2 k hk).imp (fun x => List.mem_cons_of_mem _ (List.mem_append_right _ (List.mem_append_right _ x))) id
  · refine ((chg_more hc (S' := gBlocks G V S S2) (fun k hk => List.mem_cons_of_mem _ (List.mem_append_right _ hk))).then hc8).trans hc9 (fun k hk => .inl (List.mem_cons_of_mem _ (List.mem_append_left _ hk))) |>.trans hcG (fun k hk => ?_)
    simp at hk; subst hk; exact .inl List.mem_cons_self
theorem GTurns.backYes {G c h M : Nat} {S S2 : List Nat} {V : Value} {rs : List (Int × Int)} {t : Tab Dm} {r : RTab} {ch : Nat → List (Int × Int)} {w w' : World} {i q gs cpu per j p E : Int} (hE : E = 0) (hg : GTurns (fun r' ch' rs' => CvQ t r ch i q gs cpu per j p E r' ch' ∧ rs' = rs ++ [(j, p)]) G c S h S2 V M w w') : GTurns (BackQ t r ch rs) G c S h S2 V M w w' := by
  obtain ⟨S', S2', V', rs', t', r', ch', h1, h2, h3, h5, rfl⟩ := hg
  obtain ⟨f, k, hg, rfl, rfl, hk, rfl, rfl, e1, e2⟩ := h5.2.2 hE
  exact ⟨S', S2', V', _, t', r', ch', h1, h2, h3, .inr ⟨f, k, gs, cpu, per, hg, hk, rfl, e1, e2⟩⟩
section
variable {w : World} {G c h M : Nat} {S S2 : List Nat} {V : Value} {rs : List (Int × Int)} {t : Tab Dm} {r : RTab} {ch : Nat → List (Int × Int)}

set_option maxRecDepth 100000 in
set_option maxHeartbeats 6400000 in
theorem do1b (g : Game w G c S h S2 V rs M t r ch) (hM : M + 1 ≤ 1000) {ri rq at_ gs n per : Int} (hF : ActC.Fits ⟨1, ri, rq, at_, gs, n, per⟩) :
    Calls Try.prog 13 #[ptr G, .agg #[.int .i64 1, .int .i64 ri, .int .u64 rq, .int .i64 at_, .int .i64 gs, .int .u64 n, .int .u64 per]] w (DoPostB G c S h S2 V M t r ch rs w) := by
  unfold DoPostB
  by_cases hat : at_ < 1
  · have hat' : decide (1 ≤ at_) = false := by simp; omega
    have hc0 : Chg [] w (((w.alloc (.cells #[.int .i64 1, .int .i64 ri, .int .u64 rq, .int .i64 at_, .int .i64 gs, .int .u64 n, .int .u64 per] 36)).alloc (obRef ri rq)).drew) := (((Chg.refl [] w).alloc _).alloc _).drew
    have hbx := ((Blk.new w 36 #[.int .i64 1, .int .i64 ri, .int .u64 rq, .int .i64 at_, .int .i64 gs, .int .u64 n, .int .u64 per]).alloc (obRef ri rq)).drew
    have hrx : Blk (((w.alloc (.cells #[.int .i64 1, .int .i64 ri, .int .u64 rq, .int .i64 at_, .int .i64 gs, .int .u64 n, .int .u64 per] 36)).alloc (obRef ri rq)).drew) (w.heap.size + 1) 34 #[.int .i64 ri, .int .u64 rq] := (Blk.at' _ 34 _ (by simp)).drew
    have g1 := g.quiet hc0
    have HQ := Lib.hid (fun W (hW : Chg [] (((w.alloc (.cells #[.int .i64 1, .int .i64 ri, .int .u64 rq, .int .i64 at_, .int .i64 gs, .int .u64 n, .int .u64 per] 36)).alloc (obRef ri rq)).drew) W) => pair_carve2 (W0 := W) (hW0 := hc0.then hW) g.pair hM hF.r0 hF.r1 (q := rq) (gs := gs) (cpu := n) (per := per) hF.n0 hF.p0)
    have v0 := g.blk.cell 0
    have v1 := g.blk.cell 1
    have v2 := g.blk.cell 2
    have hGl := g.blk.lt
    clear hat
    have hsb : ∀ b, w.heap.size ≤ b → b ∉ S ∧ b ∉ S2 := fun b hb => ⟨fun x => by have := g.pair.dm.lt _ (List.mem_cons_of_mem _ x); omega, fun x => by have := g.pair.rf.lt _ x; omega⟩
    have HSB := Lib.hid hsb
    have HGQ := Lib.hid (fun W (hW : Chg [] (((w.alloc (.cells #[.int .i64 1, .int .i64 ri, .int .u64 rq, .int .i64 at_, .int .i64 gs, .int .u64 n, .int .u64 per] 36)).alloc (obRef ri rq)).drew) W) w1 (h1 : Chg S W w1) => (⟨(g1.blk.chg hW (by simp)).chg h1 (fun x => g.G_off.1 (List.mem_cons_of_mem _ x)), (hrx.chg hW (by simp)).chg h1 (hsb _ (by omega)).1, (hbx.chg hW (by simp)).chg h1 (hsb _ (by omega)).1⟩ : Blk w1 G 42 #[ptr c, ptr h, V] ∧ Blk w1 (w.heap.size + 1) 34 #[.int .i64 ri, .int .u64 rq] ∧ Blk w1 w.heap.size 36 #[.int .i64 1, .int .i64 ri, .int .u64 rq, .int .i64 at_, .int .i64 gs, .int .u64 n, .int .u64 per]))
    have HGG := Lib.hid g
    have HG := Lib.hid g1.blk
    have HR := Lib.hid hrx
    have HA := Lib.hid hbx
    have hs1 : G ∉ S ∧ w.heap.size + 1 ∉ S ∧ w.heap.size ∉ S := ⟨fun x => g.G_off.1 (List.mem_cons_of_mem _ x), fun x => by have := g.pair.dm.lt _ (List.mem_cons_of_mem _ x); omega, fun x => by have := g.pair.dm.lt _ (List.mem_cons_of_mem _ x); omega⟩
    have hs2 : G ∉ S2 ∧ w.heap.size + 1 ∉ S2 ∧ w.heap.size ∉ S2 := ⟨g.G_off.2.1, fun x => by have := g.pair.rf.lt _ x; omega, fun x => by have := g.pair.rf.lt _ x; omega⟩
    have HS1 := Lib.hid hs1
    have HS2 := Lib.hid hs2
    clear hc0 hbx hrx g1 g hs1 hs2 hsb hF hM
    have hne0 : ¬ (w.heap.size + 1 + 1 = w.heap.size) := by omega
    have hneG : ¬ (w.heap.size + 1 + 1 = G) := by omega
    have v0 : w.cell? ⟨G, 0, none⟩ = some (ptr c) := v0
    have v1 : w.cell? ⟨G, 1, none⟩ = some (ptr h) := v1
    have HK0 := Lib.hid (fun W (hW : Chg [] w W) => (hW.cell (p := ⟨G, 0, none⟩) hGl (by simp)).trans v0)
    have HK1 := Lib.hid (fun W (hW : Chg [] w W) => (hW.cell (p := ⟨G, 1, none⟩) hGl (by simp)).trans v1)
    go_enter Try.func13, Try.ntmps13
    go_wp2
    go_region_held3 (fun w' => w'.cell? ⟨G, 0, none⟩ = some (ptr c) ∧ w'.cell? ⟨G, 1, none⟩ = some (ptr h) ∧ w'.cell? ⟨w.heap.size + 1, 0, none⟩ = some (.int .i64 ri) ∧ w'.cell? ⟨w.heap.size + 1, 1, none⟩ = some (.int .u64 rq) ∧ w'.cell? ⟨w.heap.size, 4, none⟩ = some (.int .i64 gs) ∧ w'.cell? ⟨w.heap.size, 5, none⟩ = some (.int .u64 n) ∧ w'.cell? ⟨w.heap.size, 6, none⟩ = some (.int .u64 per))
      (first | (go_keep; done) | (refine ⟨?_, ?_, ?_, ?_, ?_, ?_, ?_⟩ <;> (first | (go_keep; done) | exact HK0.out _ (by repeat' (first | with_reducible exact Chg.refl [] _ | with_reducible apply Chg.alloc | with_reducible apply Chg.drew)) | exact HK1.out _ (by repeat' (first | with_reducible exact Chg.refl [] _ | with_reducible apply Chg.alloc | with_reducible apply Chg.drew)))))
      (first
        | (go_at_call 17; have hWc : Chg [] (((w.alloc (.cells #[.int .i64 1, .int .i64 ri, .int .u64 rq, .int .i64 at_, .int .i64 gs, .int .u64 n, .int .u64 per] 36)).alloc (obRef ri rq)).drew) ((((w.alloc (.cells #[.int .i64 1, .int .i64 ri, .int .u64 rq, .int .i64 at_, .int .i64 gs, .int .u64 n, .int .u64 per] 36)).alloc (obRef ri rq)).alloc (obRef 0 0)).drew) := ((Chg.refl [] (((w.alloc (.cells #[.int .i64 1, .int .i64 ri, .int .u64 rq, .int .i64 at_, .int .i64 gs, .int .u64 n, .int .u64 per] 36)).alloc (obRef ri rq)).drew)).alloc (obRef 0 0)); refine (HQ.out _ hWc).mono ?_; rintro e w1 ⟨j, p, E, rfl, hjb, hcS, hH⟩; have HG5 := Lib.hid (HGQ.out _ hWc _ hcS).1; have HR5 := Lib.hid (HGQ.out _ hWc _ hcS).2.1; have HA5 := Lib.hid (HGQ.out _ hWc _ hcS).2.2;have lw1 := hcS.size; simp only [World.size_alloc, World.size_drew] at lw1; have k0 : w1.cell? ⟨G, 0, none⟩ = some (ptr c) := HG5.out.cell 0; have k1 : w1.cell? ⟨G, 1, none⟩ = some (ptr h) := HG5.out.cell 1; have k2 : w1.cell? ⟨w.heap.size + 1, 0, none⟩ = some (.int .i64 ri) := HR5.out.cell 0; have k3 : w1.cell? ⟨w.heap.size + 1, 1, none⟩ = some (.int .u64 rq) := HR5.out.cell 1; have k4 : w1.cell? ⟨w.heap.size, 4, none⟩ = some (.int .i64 gs) := HA5.out.cell 4; have k5 : w1.cell? ⟨w.heap.size, 5, none⟩ = some (.int .u64 n) := HA5.out.cell 5; have k6 : w1.cell? ⟨w.heap.size, 6, none⟩ = some (.int .u64 per) := HA5.out.cell 6; have HJ := Lib.hid hjb; have hEE : (E == E) = true := beq_self_eq_true E; have hjj : (j == j) = true := beq_self_eq_true j; have hpp : (p == p) = true := beq_self_eq_true p; have hx5 : Blk ((((w.alloc (.cells #[.int .i64 1, .int .i64 ri, .int .u64 rq, .int .i64 at_, .int .i64 gs, .int .u64 n, .int .u64 per] 36)).alloc (obRef ri rq)).alloc (obRef 0 0)).drew) (w.heap.size + 2) 34 #[.int .i64 0, .int .u64 0] := (Blk.at' ((w.alloc (.cells #[.int .i64 1, .int .i64 ri, .int .u64 rq, .int .i64 at_, .int .i64 gs, .int .u64 n, .int .u64 per] 36)).alloc (obRef ri rq)) 34 #[.int .i64 0, .int .u64 0] (n := w.heap.size + 2) (by simp)).drew; have HX5 := Lib.hid (hx5.chg hcS (HSB.out _ (by omega)).1); have x0 : w1.cell? ⟨w.heap.size + 2, 0, none⟩ = some (.int .i64 0) := HX5.out.cell 0; have x1 : w1.cell? ⟨w.heap.size + 2, 1, none⟩ = some (.int .u64 0) := HX5.out.cell 1; have xf := HX5.out.frozen; have lx := HX5.out.lt; have HH := Lib.hid hH; have lgw : G < w1.heap.size := (by omega); clear hjb hH hWc hx5 hcS)
        | (go_at_call 17; have hWc := Chg.refl [] (((w.alloc (.cells #[.int .i64 1, .int .i64 ri, .int .u64 rq, .int .i64 at_, .int .i64 gs, .int .u64 n, .int .u64 per] 36)).alloc (obRef ri rq)).drew); refine (HQ.out _ hWc).mono ?_; rintro e w1 ⟨j, p, E, rfl, hjb, hcS, hH⟩; have HG5 := Lib.hid (HGQ.out _ hWc _ hcS).1; have HR5 := Lib.hid (HGQ.out _ hWc _ hcS).2.1; have HA5 := Lib.hid (HGQ.out _ hWc _ hcS).2.2;have lw1 := hcS.size; simp only [World.size_alloc, World.size_drew] at lw1; have k0 : w1.cell? ⟨G, 0, none⟩ = some (ptr c) := HG5.out.cell 0; have k1 : w1.cell? ⟨G, 1, none⟩ = some (ptr h) := HG5.out.cell 1; have k2 : w1.cell? ⟨w.heap.size + 1, 0, none⟩ = some (.int .i64 ri) := HR5.out.cell 0; have k3 : w1.cell? ⟨w.heap.size + 1, 1, none⟩ = some (.int .u64 rq) := HR5.out.cell 1; have k4 : w1.cell? ⟨w.heap.size, 4, none⟩ = some (.int .i64 gs) := HA5.out.cell 4; have k5 : w1.cell? ⟨w.heap.size, 5, none⟩ = some (.int .u64 n) := HA5.out.cell 5; have k6 : w1.cell? ⟨w.heap.size, 6, none⟩ = some (.int .u64 per) := HA5.out.cell 6; have HJ := Lib.hid hjb; have hEE : (E == E) = true := beq_self_eq_true E; have hjj : (j == j) = true := beq_self_eq_true j; have hpp : (p == p) = true := beq_self_eq_true p; have HH := Lib.hid hH; have lgw : G < w1.heap.size := (by omega); clear hjb hH hWc hcS))
    all_goals
      go_wp2
    all_goals
      first
      | (have hb6 : Blk (w1.alloc (.cells #[.int .i64 j, .int .u64 p] 34)) w1.heap.size 34 #[.int .i64 j, .int .u64 p] := Blk.new w1 34 _
         have hh6 := HH.out.later ((Chg.refl [] w1).alloc (.cells #[.int .i64 j, .int .u64 p] 34))
         have hg6 := HG5.out.alloc (.cells #[.int .i64 j, .int .u64 p] 34)
         have hr6 := HR5.out.alloc (.cells #[.int .i64 j, .int .u64 p] 34)
         have ha6 := HA5.out.alloc (.cells #[.int .i64 j, .int .u64 p] 34)
         have lb6 : w.heap.size + 2 ≤ w1.heap.size := by omega
         obtain ⟨W6, hW6⟩ : ∃ W6, w1.alloc (.cells #[.int .i64 j, .int .u64 p] 34) = W6 := ⟨_, rfl⟩
         rw [hW6] at hb6 hh6 hg6 hr6 ha6 ⊢
         have szW : w1.heap.size < W6.heap.size := by rw [← hW6]; simp
         clear hW6
         obtain ⟨B6, hB6⟩ : ∃ B6, B6 = w1.heap.size := ⟨_, rfl⟩
         rw [← hB6] at hb6 lb6 ⊢
         clear hB6)
      | (have hb6 : Blk ((w1.setCell ⟨w.heap.size + 1 + 1, 0, none⟩ (.int .i64 j)).setCell ⟨w.heap.size + 1 + 1, 1, none⟩ (.int .u64 p)) (w.heap.size + 1 + 1) 34 #[.int .i64 j, .int .u64 p] := (HX5.out.set_ 0 (.int .i64 j)).set_ 1 (.int .u64 p)
         have hc6 : Chg [w.heap.size + 2] w1 ((w1.setCell ⟨w.heap.size + 1 + 1, 0, none⟩ (.int .i64 j)).setCell ⟨w.heap.size + 1 + 1, 1, none⟩ (.int .u64 p)) := ((Chg.refl [w.heap.size + 2] w1).setCell (p := ⟨w.heap.size + 1 + 1, 0, none⟩) (Or.inl (List.mem_singleton.2 rfl)) _).setCell (p := ⟨w.heap.size + 1 + 1, 1, none⟩) (Or.inl (List.mem_singleton.2 rfl)) _
         have hh6 := HH.out.box HX5.out (by omega) hc6
         have hg6 := HG5.out.chg hc6 (by simp; omega)
         have hr6 := HR5.out.chg hc6 (by simp)
         have ha6 := HA5.out.chg hc6 (by simp)
         obtain ⟨W6, hW6⟩ : ∃ W6, ((w1.setCell ⟨w.heap.size + 1 + 1, 0, none⟩ (.int .i64 j)).setCell ⟨w.heap.size + 1 + 1, 1, none⟩ (.int .u64 p)) = W6 := ⟨_, rfl⟩
         rw [hW6] at hb6 hc6 hh6 hg6 hr6 ha6 ⊢
         have szW := hc6.size
         clear hW6
         obtain ⟨B6, hB6⟩ : ∃ B6, B6 = w.heap.size + 1 + 1 := ⟨_, rfl⟩
         have lb6 : w.heap.size + 2 ≤ B6 := by omega
         rw [← hB6] at hb6 ⊢
         clear hB6 hc6)
    all_goals
      have HB6 := Lib.hid hb6
      have HH6 := Lib.hid hh6
      have HG6 := Lib.hid hg6
      have HR6 := Lib.hid hr6
      have HA6 := Lib.hid ha6
      have b0 := hb6.cell 0
      have b1 := hb6.cell 1
      have lb := hb6.lt
      have lg6 := hg6.lt
      have d0 : W6.cell? ⟨G, 0, none⟩ = some (ptr c) := HG6.out.cell 0
      have d1 : W6.cell? ⟨G, 1, none⟩ = some (ptr h) := HG6.out.cell 1
      have d2 : W6.cell? ⟨w.heap.size + 1, 0, none⟩ = some (.int .i64 ri) := HR6.out.cell 0
      have d3 : W6.cell? ⟨w.heap.size + 1, 1, none⟩ = some (.int .u64 rq) := HR6.out.cell 1
      have d4 : W6.cell? ⟨w.heap.size, 4, none⟩ = some (.int .i64 gs) := HA6.out.cell 4
      have d5 : W6.cell? ⟨w.heap.size, 5, none⟩ = some (.int .u64 n) := HA6.out.cell 5
      have d6 : W6.cell? ⟨w.heap.size, 6, none⟩ = some (.int .u64 per) := HA6.out.cell 6
     
      clear hb6 hh6 hg6 hr6 ha6
      have hnB0 : ¬ (W6.heap.size = w.heap.size) := by omega
      have hnB1 : ¬ (W6.heap.size = w.heap.size + 1) := by omega
      have hnBG : ¬ (W6.heap.size = G) := by omega
      have hnB6 : ¬ (W6.heap.size = B6) := by omega
    all_goals
      by_cases hE0 : E = 0
    all_goals
      first
      | (have hE9 : (E == 0) = true := by simpa using hE0)
      | (have hE9 : (E == 0) = false := by simpa using hE0)
    all_goals
      have HE0 := Lib.hid hE0
      clear hE0
    all_goals
      go_region_held3 (fun w' => w'.cell? ⟨G, 0, none⟩ = some (ptr c) ∧ w'.cell? ⟨G, 1, none⟩ = some (ptr h) ∧ w'.cell? ⟨w.heap.size + 1, 0, none⟩ = some (.int .i64 ri) ∧ w'.cell? ⟨w.heap.size + 1, 1, none⟩ = some (.int .u64 rq) ∧ w'.cell? ⟨w.heap.size, 4, none⟩ = some (.int .i64 gs) ∧ w'.cell? ⟨w.heap.size, 5, none⟩ = some (.int .u64 n) ∧ w'.cell? ⟨w.heap.size, 6, none⟩ = some (.int .u64 per))
        (first | (go_keep; done))
        (first
          | (go_at_call 38; refine (HH6.out.call (((Chg.refl [] W6).alloc (obRef 0 0)).drew)).mono ?_; rintro e w2 ⟨rfl, hU, hc2⟩; have HG7 := Lib.hid ((HG6.out.alloc (obRef 0 0)).drew.chg hc2 HS2.out.1); have HR7 := Lib.hid ((HR6.out.alloc (obRef 0 0)).drew.chg hc2 HS2.out.2.1); have HA7 := Lib.hid ((HA6.out.alloc (obRef 0 0)).drew.chg hc2 HS2.out.2.2); have HB7 := Lib.hid ((HB6.out.alloc (obRef 0 0)).drew.chg hc2 (HSB.out _ (by omega)).2); have e0 : w2.cell? ⟨G, 0, none⟩ = some (ptr c) := HG7.out.cell 0; have e1 : w2.cell? ⟨G, 1, none⟩ = some (ptr h) := HG7.out.cell 1; have e2 : w2.cell? ⟨w.heap.size + 1, 0, none⟩ = some (.int .i64 ri) := HR7.out.cell 0; have e3 : w2.cell? ⟨w.heap.size + 1, 1, none⟩ = some (.int .u64 rq) := HR7.out.cell 1; have e4 : w2.cell? ⟨w.heap.size, 4, none⟩ = some (.int .i64 gs) := HA7.out.cell 4; have e5 : w2.cell? ⟨w.heap.size, 5, none⟩ = some (.int .u64 n) := HA7.out.cell 5; have e6 : w2.cell? ⟨w.heap.size, 6, none⟩ = some (.int .u64 per) := HA7.out.cell 6; have q0 : w2.cell? ⟨B6, 0, none⟩ = some (.int .i64 j) := HB7.out.cell 0; have q1 : w2.cell? ⟨B6, 1, none⟩ = some (.int .u64 p) := HB7.out.cell 1; have q2 : w2.cell? ⟨G, 2, none⟩ = some V := HG7.out.cell 2; have q3 := HG7.out.frozen; have lb7 := HB7.out.lt; have lg7 := HG7.out.lt; have HU := Lib.hid hU; have hy7 : Blk ((W6.alloc (obRef 0 0)).drew) W6.heap.size 34 #[.int .i64 0, .int .u64 0] := (Blk.new W6 34 _).drew; have HY7 := Lib.hid (hy7.chg hc2 (HSB.out _ (by omega)).2); have y0 : w2.cell? ⟨W6.heap.size, 0, none⟩ = some (.int .i64 0) := HY7.out.cell 0; have y1 : w2.cell? ⟨W6.heap.size, 1, none⟩ = some (.int .u64 0) := HY7.out.cell 1; have yf := HY7.out.frozen; have ly := HY7.out.lt; clear hU hc2 hy7)
          | (go_at_call 38; refine (HH6.out.call ((Chg.refl [] W6).drew)).mono ?_; rintro e w2 ⟨rfl, hU, hc2⟩; have HG7 := Lib.hid ((HG6.out).drew.chg hc2 HS2.out.1); have HR7 := Lib.hid ((HR6.out).drew.chg hc2 HS2.out.2.1); have HA7 := Lib.hid ((HA6.out).drew.chg hc2 HS2.out.2.2); have HB7 := Lib.hid ((HB6.out).drew.chg hc2 (HSB.out _ (by omega)).2); have e0 : w2.cell? ⟨G, 0, none⟩ = some (ptr c) := HG7.out.cell 0; have e1 : w2.cell? ⟨G, 1, none⟩ = some (ptr h) := HG7.out.cell 1; have e2 : w2.cell? ⟨w.heap.size + 1, 0, none⟩ = some (.int .i64 ri) := HR7.out.cell 0; have e3 : w2.cell? ⟨w.heap.size + 1, 1, none⟩ = some (.int .u64 rq) := HR7.out.cell 1; have e4 : w2.cell? ⟨w.heap.size, 4, none⟩ = some (.int .i64 gs) := HA7.out.cell 4; have e5 : w2.cell? ⟨w.heap.size, 5, none⟩ = some (.int .u64 n) := HA7.out.cell 5; have e6 : w2.cell? ⟨w.heap.size, 6, none⟩ = some (.int .u64 per) := HA7.out.cell 6; have q0 : w2.cell? ⟨B6, 0, none⟩ = some (.int .i64 j) := HB7.out.cell 0; have q1 : w2.cell? ⟨B6, 1, none⟩ = some (.int .u64 p) := HB7.out.cell 1; have q2 : w2.cell? ⟨G, 2, none⟩ = some V := HG7.out.cell 2; have q3 := HG7.out.frozen; have lb7 := HB7.out.lt; have lg7 := HG7.out.lt; have HU := Lib.hid hU; have sz7 := hc2.size; simp only [World.size_drew] at sz7; clear hU hc2))
    all_goals
      go_wp2
    all_goals
      first
      | (go_ret; first
          | exact ⟨rfl, GTurns.backNo HE0.out (HGG.out.turn (HU.out.box HY7.out (by omega) (((Chg.refl [W6.heap.size] w2).setCell (p := ⟨W6.heap.size, 0, none⟩) (Or.inl (List.mem_singleton.2 rfl)) _).setCell (p := ⟨W6.heap.size, 1, none⟩) (Or.inl (List.mem_singleton.2 rfl)) _)) (fun _ _ x => x.1))⟩
          | exact ⟨rfl, GTurns.backNo HE0.out (HGG.out.turn (HU.out.later (by repeat' (first | with_reducible exact Chg.refl [] _ | with_reducible apply Chg.alloc | with_reducible apply Chg.drew))) (fun _ _ x => x.1))⟩)
      | skip
    all_goals
      first
      | (have hc8 : Chg [W6.heap.size] w2 ((w2.setCell ⟨W6.heap.size, 0, none⟩ (.int .i64 j)).setCell ⟨W6.heap.size, 1, none⟩ (.int .u64 p)) := ((Chg.refl [W6.heap.size] w2).setCell (p := ⟨W6.heap.size, 0, none⟩) (Or.inl (List.mem_singleton.2 rfl)) _).setCell (p := ⟨W6.heap.size, 1, none⟩) (Or.inl (List.mem_singleton.2 rfl)) _
         have hu8 := HU.out.box HY7.out (by omega) hc8
         have hb8 := HB7.out.chg hc8 (by simp; omega)
         obtain ⟨W8, hW8⟩ : ∃ W8, ((w2.setCell ⟨W6.heap.size, 0, none⟩ (.int .i64 j)).setCell ⟨W6.heap.size, 1, none⟩ (.int .u64 p)) = W8 := ⟨_, rfl⟩
         rw [hW8] at hu8 hb8 ⊢
         clear hW8 hc8)
      | (have hu8 := HU.out.later ((Chg.refl [] w2).alloc (.cells #[.int .i64 j, .int .u64 p] 34))
         have hb8 := HB7.out.alloc (.cells #[.int .i64 j, .int .u64 p] 34)
         obtain ⟨W8, hW8⟩ : ∃ W8, w2.alloc (.cells #[.int .i64 j, .int .u64 p] 34) = W8 := ⟨_, rfl⟩
         rw [hW8] at hu8 hb8 ⊢
         clear hW8)
    all_goals
      have hg8 : ∃ x : Blk W8 G 42 #[ptr c, ptr h, V], Row W8 34 2 V rs.length (refCells rs) ∧ G ∉ foot V := by
        obtain ⟨_, _, _, _, _, g8, _⟩ := HGG.out.next hu8 (fun _ _ x => x.1)
        exact ⟨g8.blk, g8.row, g8.G_off.2.2⟩
      obtain ⟨hgb, hrow8, hGV⟩ := hg8
      have hlen8 : rs.length ≤ 1000 := by have := HGG.out.len; have := HGG.out.pair.sim.held.m; omega
      have z0 : W8.cell? ⟨G, 2, none⟩ = some V := hgb.cell 2
      have z1 : W8.cell? ⟨B6, 0, none⟩ = some (.int .i64 j) := hb8.cell 0
      have z2 : W8.cell? ⟨B6, 1, none⟩ = some (.int .u64 p) := hb8.cell 1
      have lg8 := hgb.lt
      have HGB := Lib.hid hgb
      have HRW := Lib.hid hrow8
      have HU8 := Lib.hid hu8
      have HGV := Lib.hid hGV
      have HL8 := Lib.hid hlen8
      clear hgb hrow8 hu8 hb8 hGV hlen8
      go_region_law
        (first
          | (refine step_append_ref (rs := rs) (v := V) (i := j) (q := p) _ (by rfl) _ _ (by rfl) (by rfl) (by rfl) (HRW.out.drew.alloc _) (Blk.new _ 34 _) HL8.out ?_; intro g9 c9 w9 hr9 hg9 hb9; have HX := Lib.hid (GTurns.backYes HE0.out <| GTurns.appS HGG.out HU8.out (CvQ.told HGG.out HE0.out) (((Chg.refl [] W8).drew).alloc _) hr9 hg9 hb9); have HZ := Lib.hid (((HGB.out.drew).alloc (.cells #[.int .i64 j, .int .u64 p] 34)).chg ((Chg.refl (foot V) _).grown hg9 (fun k hk => .inl (row_mem hk))) HGV.out); have zz := HZ.out.cell 2; have zf := HZ.out.frozen 2; have lz := HZ.out.lt; clear hr9 hg9 hb9))
    all_goals
      go_wp2
      go_ret
      exact ⟨rfl, HX.out⟩
  · have hat' : decide (1 ≤ at_) = true := by simp; omega
    have v0 := g.blk.cell 0
    have v1 := g.blk.cell 1
    have v2 := g.blk.cell 2
    have hGl := g.blk.lt
    have hone := g.one
    have hlen := g.len
    have h0 := hF.t0
    have h1 := hF.t1
    obtain ⟨b, cp, hVe, hVb⟩ : ∃ b cp, V = .slice (some ⟨b, 0, none⟩) rs.length cp ∧ ∃ cur, Blk w b 34 cur ∧ cur.toList.take (rs.length * 2) = refCells rs := by
      rcases g.row.2 with ⟨_, e0⟩ | ⟨b, cp, cur, e, hb, _, _, _, ht⟩
      · omega
      · exact ⟨b, cp, e, cur, hb, ht⟩
    rw [hVe] at v2
    obtain ⟨j, hj, hj1⟩ : ∃ j : Nat, (rs.length : Int) - 1 - (at_ - 1) % (rs.length : Int) = (j : Nat) ∧ j < rs.length := by
      have a0 := Int.emod_nonneg (at_ - 1) (b := (rs.length : Int)) (by omega)
      have a1 := Int.emod_lt_of_pos (at_ - 1) (b := (rs.length : Int)) (by omega)
      exact ⟨((rs.length : Int) - 1 - (at_ - 1) % (rs.length : Int)).toNat, by omega, by omega⟩
    have hw9 : wrap64 ((rs.length : Int) - 1 - (at_ - 1) % (rs.length : Int)) = (j : Nat) := by rw [hj]; unfold wrap64; omega
    have hj2 : ((j : Nat) : Int) < (rs.length : Int) := by omega
    obtain ⟨cur, hBb, htk⟩ := hVb
    obtain ⟨y, hy⟩ : ∃ y, rs[j]? = some y := ⟨_, List.getElem?_eq_getElem hj1⟩
    have hbl := hBb.lt
    have hcc := refCells_at hy
    have u0 : w.cell? ⟨b, j * 2, none⟩ = some (.int .i64 y.1) := by
      rw [hBb.cell, ← hcc.1, ← htk, List.getElem?_take, if_pos (by omega)]; simp
    have u1 : w.cell? ⟨b, j * 2 + 1, none⟩ = some (.int .u64 y.2) := by
      rw [hBb.cell, ← hcc.2, ← htk, List.getElem?_take, if_pos (by omega)]; simp
    obtain ⟨ky, hyk, hyl, _⟩ := g.told y (List.mem_of_getElem? hy)
    have hN := g.pair.sim.held.n1
    have hc0 : Chg [] w ((((w.alloc (.cells #[.int .i64 1, .int .i64 ri, .int .u64 rq, .int .i64 at_, .int .i64 gs, .int .u64 n, .int .u64 per] 36)).alloc (obRef y.1 y.2)).drew).drew) := ((((Chg.refl [] w).alloc _).alloc _).drew).drew
    have hbx := (((Blk.new w 36 #[.int .i64 1, .int .i64 ri, .int .u64 rq, .int .i64 at_, .int .i64 gs, .int .u64 n, .int .u64 per]).alloc (obRef y.1 y.2)).drew).drew
    have hrx : Blk ((((w.alloc (.cells #[.int .i64 1, .int .i64 ri, .int .u64 rq, .int .i64 at_, .int .i64 gs, .int .u64 n, .int .u64 per] 36)).alloc (obRef y.1 y.2)).drew).drew) (w.heap.size + 1) 34 #[.int .i64 y.1, .int .u64 y.2] := ((Blk.at' _ 34 _ (by simp)).drew).drew
    have g1 := g.quiet hc0
    have HQ := Lib.hid (fun W (hW : Chg [] ((((w.alloc (.cells #[.int .i64 1, .int .i64 ri, .int .u64 rq, .int .i64 at_, .int .i64 gs, .int .u64 n, .int .u64 per] 36)).alloc (obRef y.1 y.2)).drew).drew) W) => pair_carve2 (W0 := W) (hW0 := hc0.then hW) g.pair hM (i := y.1) (q := y.2) (by omega) (by omega) (gs := gs) (cpu := n) (per := per) hF.n0 hF.p0)
    have hsb : ∀ b, w.heap.size ≤ b → b ∉ S ∧ b ∉ S2 := fun b hb => ⟨fun x => by have := g.pair.dm.lt _ (List.mem_cons_of_mem _ x); omega, fun x => by have := g.pair.rf.lt _ x; omega⟩
    have HSB := Lib.hid hsb
    have HGQ := Lib.hid (fun W (hW : Chg [] ((((w.alloc (.cells #[.int .i64 1, .int .i64 ri, .int .u64 rq, .int .i64 at_, .int .i64 gs, .int .u64 n, .int .u64 per] 36)).alloc (obRef y.1 y.2)).drew).drew) W) w1 (h1 : Chg S W w1) => (⟨(g1.blk.chg hW (by simp)).chg h1 (fun x => g.G_off.1 (List.mem_cons_of_mem _ x)), (hrx.chg hW (by simp)).chg h1 (hsb _ (by omega)).1, (hbx.chg hW (by simp)).chg h1 (hsb _ (by omega)).1⟩ : Blk w1 G 42 #[ptr c, ptr h, V] ∧ Blk w1 (w.heap.size + 1) 34 #[.int .i64 y.1, .int .u64 y.2] ∧ Blk w1 w.heap.size 36 #[.int .i64 1, .int .i64 ri, .int .u64 rq, .int .i64 at_, .int .i64 gs, .int .u64 n, .int .u64 per]))
    have HGG := Lib.hid g
    have HG := Lib.hid g1.blk
    have HR := Lib.hid hrx
    have HA := Lib.hid hbx
    have hs1 : G ∉ S ∧ w.heap.size + 1 ∉ S ∧ w.heap.size ∉ S := ⟨fun x => g.G_off.1 (List.mem_cons_of_mem _ x), fun x => by have := g.pair.dm.lt _ (List.mem_cons_of_mem _ x); omega, fun x => by have := g.pair.dm.lt _ (List.mem_cons_of_mem _ x); omega⟩
    have hs2 : G ∉ S2 ∧ w.heap.size + 1 ∉ S2 ∧ w.heap.size ∉ S2 := ⟨g.G_off.2.1, fun x => by have := g.pair.rf.lt _ x; omega, fun x => by have := g.pair.rf.lt _ x; omega⟩
    have HS1 := Lib.hid hs1
    have HS2 := Lib.hid hs2
    clear hc0 hbx hrx g1 g hs1 hs2 hsb hF hj hBb htk hy hcc hyk hN hVe
    have hne0 : ¬ (w.heap.size + 1 + 1 = w.heap.size) := by omega
    have hneG : ¬ (w.heap.size + 1 + 1 = G) := by omega
    have v0 : w.cell? ⟨G, 0, none⟩ = some (ptr c) := v0
    have v1 : w.cell? ⟨G, 1, none⟩ = some (ptr h) := v1
    have HK0 := Lib.hid (fun W (hW : Chg [] w W) => (hW.cell (p := ⟨G, 0, none⟩) hGl (by simp)).trans v0)
    have HK1 := Lib.hid (fun W (hW : Chg [] w W) => (hW.cell (p := ⟨G, 1, none⟩) hGl (by simp)).trans v1)
    go_enter Try.func13, Try.ntmps13
    go_wp2
    go_region
    go_wp2
    go_region_held3 (fun w' => w'.cell? ⟨G, 0, none⟩ = some (ptr c) ∧ w'.cell? ⟨G, 1, none⟩ = some (ptr h) ∧ w'.cell? ⟨w.heap.size + 1, 0, none⟩ = some (.int .i64 y.1) ∧ w'.cell? ⟨w.heap.size + 1, 1, none⟩ = some (.int .u64 y.2) ∧ w'.cell? ⟨w.heap.size, 4, none⟩ = some (.int .i64 gs) ∧ w'.cell? ⟨w.heap.size, 5, none⟩ = some (.int .u64 n) ∧ w'.cell? ⟨w.heap.size, 6, none⟩ = some (.int .u64 per))
      (first | (go_keep; done) | (refine ⟨?_, ?_, ?_, ?_, ?_, ?_, ?_⟩ <;> (first | (go_keep; done) | exact HK0.out _ (by repeat' (first | with_reducible exact Chg.refl [] _ | with_reducible apply Chg.alloc | with_reducible apply Chg.drew)) | exact HK1.out _ (by repeat' (first | with_reducible exact Chg.refl [] _ | with_reducible apply Chg.alloc | with_reducible apply Chg.drew)))))
      (first
        | (go_at_call 17; have hWc : Chg [] ((((w.alloc (.cells #[.int .i64 1, .int .i64 ri, .int .u64 rq, .int .i64 at_, .int .i64 gs, .int .u64 n, .int .u64 per] 36)).alloc (obRef y.1 y.2)).drew).drew) ((((w.alloc (.cells #[.int .i64 1, .int .i64 ri, .int .u64 rq, .int .i64 at_, .int .i64 gs, .int .u64 n, .int .u64 per] 36)).alloc (obRef y.1 y.2)).alloc (obRef 0 0)).drew.drew) := ((Chg.refl [] ((((w.alloc (.cells #[.int .i64 1, .int .i64 ri, .int .u64 rq, .int .i64 at_, .int .i64 gs, .int .u64 n, .int .u64 per] 36)).alloc (obRef y.1 y.2)).drew).drew)).alloc (obRef 0 0)); refine (HQ.out _ hWc).mono ?_; rintro e w1 ⟨j, p, E, rfl, hjb, hcS, hH⟩; have HG5 := Lib.hid (HGQ.out _ hWc _ hcS).1; have HR5 := Lib.hid (HGQ.out _ hWc _ hcS).2.1; have HA5 := Lib.hid (HGQ.out _ hWc _ hcS).2.2;have lw1 := hcS.size; simp only [World.size_alloc, World.size_drew] at lw1; have k0 : w1.cell? ⟨G, 0, none⟩ = some (ptr c) := HG5.out.cell 0; have k1 : w1.cell? ⟨G, 1, none⟩ = some (ptr h) := HG5.out.cell 1; have k2 : w1.cell? ⟨w.heap.size + 1, 0, none⟩ = some (.int .i64 y.1) := HR5.out.cell 0; have k3 : w1.cell? ⟨w.heap.size + 1, 1, none⟩ = some (.int .u64 y.2) := HR5.out.cell 1; have k4 : w1.cell? ⟨w.heap.size, 4, none⟩ = some (.int .i64 gs) := HA5.out.cell 4; have k5 : w1.cell? ⟨w.heap.size, 5, none⟩ = some (.int .u64 n) := HA5.out.cell 5; have k6 : w1.cell? ⟨w.heap.size, 6, none⟩ = some (.int .u64 per) := HA5.out.cell 6; have HJ := Lib.hid hjb; have hEE : (E == E) = true := beq_self_eq_true E; have hjj : (j == j) = true := beq_self_eq_true j; have hpp : (p == p) = true := beq_self_eq_true p; have hx5 : Blk ((((w.alloc (.cells #[.int .i64 1, .int .i64 ri, .int .u64 rq, .int .i64 at_, .int .i64 gs, .int .u64 n, .int .u64 per] 36)).alloc (obRef y.1 y.2)).alloc (obRef 0 0)).drew.drew) (w.heap.size + 2) 34 #[.int .i64 0, .int .u64 0] := (Blk.at' ((w.alloc (.cells #[.int .i64 1, .int .i64 ri, .int .u64 rq, .int .i64 at_, .int .i64 gs, .int .u64 n, .int .u64 per] 36)).alloc (obRef y.1 y.2)) 34 #[.int .i64 0, .int .u64 0] (n := w.heap.size + 2) (by simp)).drew.drew; have HX5 := Lib.hid (hx5.chg hcS (HSB.out _ (by omega)).1); have x0 : w1.cell? ⟨w.heap.size + 2, 0, none⟩ = some (.int .i64 0) := HX5.out.cell 0; have x1 : w1.cell? ⟨w.heap.size + 2, 1, none⟩ = some (.int .u64 0) := HX5.out.cell 1; have xf := HX5.out.frozen; have lx := HX5.out.lt; have HH := Lib.hid hH; have lgw : G < w1.heap.size := (by omega); clear hjb hH hWc hx5 hcS)
        | (go_at_call 17; have hWc := Chg.refl [] ((((w.alloc (.cells #[.int .i64 1, .int .i64 ri, .int .u64 rq, .int .i64 at_, .int .i64 gs, .int .u64 n, .int .u64 per] 36)).alloc (obRef y.1 y.2)).drew).drew); refine (HQ.out _ hWc).mono ?_; rintro e w1 ⟨j, p, E, rfl, hjb, hcS, hH⟩; have HG5 := Lib.hid (HGQ.out _ hWc _ hcS).1; have HR5 := Lib.hid (HGQ.out _ hWc _ hcS).2.1; have HA5 := Lib.hid (HGQ.out _ hWc _ hcS).2.2;have lw1 := hcS.size; simp only [World.size_alloc, World.size_drew] at lw1; have k0 : w1.cell? ⟨G, 0, none⟩ = some (ptr c) := HG5.out.cell 0; have k1 : w1.cell? ⟨G, 1, none⟩ = some (ptr h) := HG5.out.cell 1; have k2 : w1.cell? ⟨w.heap.size + 1, 0, none⟩ = some (.int .i64 y.1) := HR5.out.cell 0; have k3 : w1.cell? ⟨w.heap.size + 1, 1, none⟩ = some (.int .u64 y.2) := HR5.out.cell 1; have k4 : w1.cell? ⟨w.heap.size, 4, none⟩ = some (.int .i64 gs) := HA5.out.cell 4; have k5 : w1.cell? ⟨w.heap.size, 5, none⟩ = some (.int .u64 n) := HA5.out.cell 5; have k6 : w1.cell? ⟨w.heap.size, 6, none⟩ = some (.int .u64 per) := HA5.out.cell 6; have HJ := Lib.hid hjb; have hEE : (E == E) = true := beq_self_eq_true E; have hjj : (j == j) = true := beq_self_eq_true j; have hpp : (p == p) = true := beq_self_eq_true p; have HH := Lib.hid hH; have lgw : G < w1.heap.size := (by omega); clear hjb hH hWc hcS))
    all_goals
      go_wp2
    all_goals
      first
      | (have hb6 : Blk (w1.alloc (.cells #[.int .i64 j, .int .u64 p] 34)) w1.heap.size 34 #[.int .i64 j, .int .u64 p] := Blk.new w1 34 _
         have hh6 := HH.out.later ((Chg.refl [] w1).alloc (.cells #[.int .i64 j, .int .u64 p] 34))
         have hg6 := HG5.out.alloc (.cells #[.int .i64 j, .int .u64 p] 34)
         have hr6 := HR5.out.alloc (.cells #[.int .i64 j, .int .u64 p] 34)
         have ha6 := HA5.out.alloc (.cells #[.int .i64 j, .int .u64 p] 34)
         have lb6 : w.heap.size + 2 ≤ w1.heap.size := by omega
         obtain ⟨W6, hW6⟩ : ∃ W6, w1.alloc (.cells #[.int .i64 j, .int .u64 p] 34) = W6 := ⟨_, rfl⟩
         rw [hW6] at hb6 hh6 hg6 hr6 ha6 ⊢
         have szW : w1.heap.size < W6.heap.size := by rw [← hW6]; simp
         clear hW6
         obtain ⟨B6, hB6⟩ : ∃ B6, B6 = w1.heap.size := ⟨_, rfl⟩
         rw [← hB6] at hb6 lb6 ⊢
         clear hB6)
      | (have hb6 : Blk ((w1.setCell ⟨w.heap.size + 1 + 1, 0, none⟩ (.int .i64 j)).setCell ⟨w.heap.size + 1 + 1, 1, none⟩ (.int .u64 p)) (w.heap.size + 1 + 1) 34 #[.int .i64 j, .int .u64 p] := (HX5.out.set_ 0 (.int .i64 j)).set_ 1 (.int .u64 p)
         have hc6 : Chg [w.heap.size + 2] w1 ((w1.setCell ⟨w.heap.size + 1 + 1, 0, none⟩ (.int .i64 j)).setCell ⟨w.heap.size + 1 + 1, 1, none⟩ (.int .u64 p)) := ((Chg.refl [w.heap.size + 2] w1).setCell (p := ⟨w.heap.size + 1 + 1, 0, none⟩) (Or.inl (List.mem_singleton.2 rfl)) _).setCell (p := ⟨w.heap.size + 1 + 1, 1, none⟩) (Or.inl (List.mem_singleton.2 rfl)) _
         have hh6 := HH.out.box HX5.out (by omega) hc6
         have hg6 := HG5.out.chg hc6 (by simp; omega)
         have hr6 := HR5.out.chg hc6 (by simp)
         have ha6 := HA5.out.chg hc6 (by simp)
         obtain ⟨W6, hW6⟩ : ∃ W6, ((w1.setCell ⟨w.heap.size + 1 + 1, 0, none⟩ (.int .i64 j)).setCell ⟨w.heap.size + 1 + 1, 1, none⟩ (.int .u64 p)) = W6 := ⟨_, rfl⟩
         rw [hW6] at hb6 hc6 hh6 hg6 hr6 ha6 ⊢
         have szW := hc6.size
         clear hW6
         obtain ⟨B6, hB6⟩ : ∃ B6, B6 = w.heap.size + 1 + 1 := ⟨_, rfl⟩
         have lb6 : w.heap.size + 2 ≤ B6 := by omega
         rw [← hB6] at hb6 ⊢
         clear hB6 hc6)
    all_goals
      have HB6 := Lib.hid hb6
      have HH6 := Lib.hid hh6
      have HG6 := Lib.hid hg6
      have HR6 := Lib.hid hr6
      have HA6 := Lib.hid ha6
      have b0 := hb6.cell 0
      have b1 := hb6.cell 1
      have lb := hb6.lt
      have lg6 := hg6.lt
      have d0 : W6.cell? ⟨G, 0, none⟩ = some (ptr c) := HG6.out.cell 0
      have d1 : W6.cell? ⟨G, 1, none⟩ = some (ptr h) := HG6.out.cell 1
      have d2 : W6.cell? ⟨w.heap.size + 1, 0, none⟩ = some (.int .i64 y.1) := HR6.out.cell 0
      have d3 : W6.cell? ⟨w.heap.size + 1, 1, none⟩ = some (.int .u64 y.2) := HR6.out.cell 1
      have d4 : W6.cell? ⟨w.heap.size, 4, none⟩ = some (.int .i64 gs) := HA6.out.cell 4
      have d5 : W6.cell? ⟨w.heap.size, 5, none⟩ = some (.int .u64 n) := HA6.out.cell 5
      have d6 : W6.cell? ⟨w.heap.size, 6, none⟩ = some (.int .u64 per) := HA6.out.cell 6
     
      clear hb6 hh6 hg6 hr6 ha6
      have hnB0 : ¬ (W6.heap.size = w.heap.size) := by omega
      have hnB1 : ¬ (W6.heap.size = w.heap.size + 1) := by omega
      have hnBG : ¬ (W6.heap.size = G) := by omega
      have hnB6 : ¬ (W6.heap.size = B6) := by omega
    all_goals
      by_cases hE0 : E = 0
    all_goals
      first
      | (have hE9 : (E == 0) = true := by simpa using hE0)
      | (have hE9 : (E == 0) = false := by simpa using hE0)
    all_goals
      have HE0 := Lib.hid hE0
      clear hE0
    all_goals
      go_region_held3 (fun w' => w'.cell? ⟨G, 0, none⟩ = some (ptr c) ∧ w'.cell? ⟨G, 1, none⟩ = some (ptr h) ∧ w'.cell? ⟨w.heap.size + 1, 0, none⟩ = some (.int .i64 y.1) ∧ w'.cell? ⟨w.heap.size + 1, 1, none⟩ = some (.int .u64 y.2) ∧ w'.cell? ⟨w.heap.size, 4, none⟩ = some (.int .i64 gs) ∧ w'.cell? ⟨w.heap.size, 5, none⟩ = some (.int .u64 n) ∧ w'.cell? ⟨w.heap.size, 6, none⟩ = some (.int .u64 per))
        (first | (go_keep; done))
        (first
          | (go_at_call 38; refine (HH6.out.call (((Chg.refl [] W6).alloc (obRef 0 0)).drew)).mono ?_; rintro e w2 ⟨rfl, hU, hc2⟩; have HG7 := Lib.hid ((HG6.out.alloc (obRef 0 0)).drew.chg hc2 HS2.out.1); have HR7 := Lib.hid ((HR6.out.alloc (obRef 0 0)).drew.chg hc2 HS2.out.2.1); have HA7 := Lib.hid ((HA6.out.alloc (obRef 0 0)).drew.chg hc2 HS2.out.2.2); have HB7 := Lib.hid ((HB6.out.alloc (obRef 0 0)).drew.chg hc2 (HSB.out _ (by omega)).2); have e0 : w2.cell? ⟨G, 0, none⟩ = some (ptr c) := HG7.out.cell 0; have e1 : w2.cell? ⟨G, 1, none⟩ = some (ptr h) := HG7.out.cell 1; have e2 : w2.cell? ⟨w.heap.size + 1, 0, none⟩ = some (.int .i64 y.1) := HR7.out.cell 0; have e3 : w2.cell? ⟨w.heap.size + 1, 1, none⟩ = some (.int .u64 y.2) := HR7.out.cell 1; have e4 : w2.cell? ⟨w.heap.size, 4, none⟩ = some (.int .i64 gs) := HA7.out.cell 4; have e5 : w2.cell? ⟨w.heap.size, 5, none⟩ = some (.int .u64 n) := HA7.out.cell 5; have e6 : w2.cell? ⟨w.heap.size, 6, none⟩ = some (.int .u64 per) := HA7.out.cell 6; have q0 : w2.cell? ⟨B6, 0, none⟩ = some (.int .i64 j) := HB7.out.cell 0; have q1 : w2.cell? ⟨B6, 1, none⟩ = some (.int .u64 p) := HB7.out.cell 1; have q2 : w2.cell? ⟨G, 2, none⟩ = some V := HG7.out.cell 2; have q3 := HG7.out.frozen; have lb7 := HB7.out.lt; have lg7 := HG7.out.lt; have HU := Lib.hid hU; have hy7 : Blk ((W6.alloc (obRef 0 0)).drew) W6.heap.size 34 #[.int .i64 0, .int .u64 0] := (Blk.new W6 34 _).drew; have HY7 := Lib.hid (hy7.chg hc2 (HSB.out _ (by omega)).2); have y0 : w2.cell? ⟨W6.heap.size, 0, none⟩ = some (.int .i64 0) := HY7.out.cell 0; have y1 : w2.cell? ⟨W6.heap.size, 1, none⟩ = some (.int .u64 0) := HY7.out.cell 1; have yf := HY7.out.frozen; have ly := HY7.out.lt; clear hU hc2 hy7)
          | (go_at_call 38; refine (HH6.out.call ((Chg.refl [] W6).drew)).mono ?_; rintro e w2 ⟨rfl, hU, hc2⟩; have HG7 := Lib.hid ((HG6.out).drew.chg hc2 HS2.out.1); have HR7 := Lib.hid ((HR6.out).drew.chg hc2 HS2.out.2.1); have HA7 := Lib.hid ((HA6.out).drew.chg hc2 HS2.out.2.2); have HB7 := Lib.hid ((HB6.out).drew.chg hc2 (HSB.out _ (by omega)).2); have e0 : w2.cell? ⟨G, 0, none⟩ = some (ptr c) := HG7.out.cell 0; have e1 : w2.cell? ⟨G, 1, none⟩ = some (ptr h) := HG7.out.cell 1; have e2 : w2.cell? ⟨w.heap.size + 1, 0, none⟩ = some (.int .i64 y.1) := HR7.out.cell 0; have e3 : w2.cell? ⟨w.heap.size + 1, 1, none⟩ = some (.int .u64 y.2) := HR7.out.cell 1; have e4 : w2.cell? ⟨w.heap.size, 4, none⟩ = some (.int .i64 gs) := HA7.out.cell 4; have e5 : w2.cell? ⟨w.heap.size, 5, none⟩ = some (.int .u64 n) := HA7.out.cell 5; have e6 : w2.cell? ⟨w.heap.size, 6, none⟩ = some (.int .u64 per) := HA7.out.cell 6; have q0 : w2.cell? ⟨B6, 0, none⟩ = some (.int .i64 j) := HB7.out.cell 0; have q1 : w2.cell? ⟨B6, 1, none⟩ = some (.int .u64 p) := HB7.out.cell 1; have q2 : w2.cell? ⟨G, 2, none⟩ = some V := HG7.out.cell 2; have q3 := HG7.out.frozen; have lb7 := HB7.out.lt; have lg7 := HG7.out.lt; have HU := Lib.hid hU; have sz7 := hc2.size; simp only [World.size_drew] at sz7; clear hU hc2))
    all_goals
      go_wp2
    all_goals
      first
      | (go_ret; first
          | exact ⟨rfl, GTurns.backNo HE0.out (HGG.out.turn (HU.out.box HY7.out (by omega) (((Chg.refl [W6.heap.size] w2).setCell (p := ⟨W6.heap.size, 0, none⟩) (Or.inl (List.mem_singleton.2 rfl)) _).setCell (p := ⟨W6.heap.size, 1, none⟩) (Or.inl (List.mem_singleton.2 rfl)) _)) (fun _ _ x => x.1))⟩
          | exact ⟨rfl, GTurns.backNo HE0.out (HGG.out.turn (HU.out.later (by repeat' (first | with_reducible exact Chg.refl [] _ | with_reducible apply Chg.alloc | with_reducible apply Chg.drew))) (fun _ _ x => x.1))⟩)
      | skip
    all_goals
      first
      | (have hc8 : Chg [W6.heap.size] w2 ((w2.setCell ⟨W6.heap.size, 0, none⟩ (.int .i64 j)).setCell ⟨W6.heap.size, 1, none⟩ (.int .u64 p)) := ((Chg.refl [W6.heap.size] w2).setCell (p := ⟨W6.heap.size, 0, none⟩) (Or.inl (List.mem_singleton.2 rfl)) _).setCell (p := ⟨W6.heap.size, 1, none⟩) (Or.inl (List.mem_singleton.2 rfl)) _
         have hu8 := HU.out.box HY7.out (by omega) hc8
         have hb8 := HB7.out.chg hc8 (by simp; omega)
         obtain ⟨W8, hW8⟩ : ∃ W8, ((w2.setCell ⟨W6.heap.size, 0, none⟩ (.int .i64 j)).setCell ⟨W6.heap.size, 1, none⟩ (.int .u64 p)) = W8 := ⟨_, rfl⟩
         rw [hW8] at hu8 hb8 ⊢
         clear hW8 hc8)
      | (have hu8 := HU.out.later ((Chg.refl [] w2).alloc (.cells #[.int .i64 j, .int .u64 p] 34))
         have hb8 := HB7.out.alloc (.cells #[.int .i64 j, .int .u64 p] 34)
         obtain ⟨W8, hW8⟩ : ∃ W8, w2.alloc (.cells #[.int .i64 j, .int .u64 p] 34) = W8 := ⟨_, rfl⟩
         rw [hW8] at hu8 hb8 ⊢
         clear hW8)
    all_goals
      have hg8 : ∃ x : Blk W8 G 42 #[ptr c, ptr h, V], Row W8 34 2 V rs.length (refCells rs) ∧ G ∉ foot V := by
        obtain ⟨_, _, _, _, _, g8, _⟩ := HGG.out.next hu8 (fun _ _ x => x.1)
        exact ⟨g8.blk, g8.row, g8.G_off.2.2⟩
      obtain ⟨hgb, hrow8, hGV⟩ := hg8
      have hlen8 : rs.length ≤ 1000 := by have := HGG.out.len; have := HGG.out.pair.sim.held.m; omega
      have z0 : W8.cell? ⟨G, 2, none⟩ = some V := hgb.cell 2
      have z1 : W8.cell? ⟨B6, 0, none⟩ = some (.int .i64 j) := hb8.cell 0
      have z2 : W8.cell? ⟨B6, 1, none⟩ = some (.int .u64 p) := hb8.cell 1
      have lg8 := hgb.lt
      have HGB := Lib.hid hgb
      have HRW := Lib.hid hrow8
      have HU8 := Lib.hid hu8
      have HGV := Lib.hid hGV
      have HL8 := Lib.hid hlen8
      clear hgb hrow8 hu8 hb8 hGV hlen8
      go_region_law
        (first
          | (refine step_append_ref (rs := rs) (v := V) (i := j) (q := p) _ (by rfl) _ _ (by rfl) (by rfl) (by rfl) (HRW.out.drew.alloc _) (Blk.new _ 34 _) HL8.out ?_; intro g9 c9 w9 hr9 hg9 hb9; have HX := Lib.hid (GTurns.backYes HE0.out <| GTurns.appS HGG.out HU8.out (CvQ.told HGG.out HE0.out) (((Chg.refl [] W8).drew).alloc _) hr9 hg9 hb9); have HZ := Lib.hid (((HGB.out.drew).alloc (.cells #[.int .i64 j, .int .u64 p] 34)).chg ((Chg.refl (foot V) _).grown hg9 (fun k hk => .inl (row_mem hk))) HGV.out); have zz := HZ.out.cell 2; have zf := HZ.out.frozen 2; have lz := HZ.out.lt; clear hr9 hg9 hb9))
    all_goals
      go_wp2
      go_ret
      exact ⟨rfl, HX.out⟩
end
end Go.Proofs
end
section
namespace Go.Proofs
open Go.RowKit Go.Shelf
set_option linter.unusedVariables false
set_option linter.unusedSimpArgs false
theorem Game.slice {w : World} {G c h M : Nat} {S S2 : List Nat} {V : Value} {rs : List (Int × Int)} {t : Tab Dm} {r : RTab} {ch : Nat → List (Int × Int)} (g : Game w G c S h S2 V rs M t r ch) : ∃ b cp, V = .slice (some ⟨b, 0, none⟩) rs.length cp ∧ b < w.heap.size ∧ ∀ k x, rs[k]? = some x → w.cell? ⟨b, k * 2, none⟩ = some (.int .i64 x.1) ∧ w.cell? ⟨b, k * 2 + 1, none⟩ = some (.int .u64 x.2) := by
  have hone := g.one
  rcases g.row.2 with ⟨_, e0⟩ | ⟨b, cp, cur, e, hBb, _, _, _, htk⟩
  · omega
  · refine ⟨b, cp, e, hBb.lt, fun k x hx => ?_⟩
    have hk := (List.getElem?_eq_some_iff.1 hx).1
    have hcc := refCells_at hx
    constructor
    · rw [hBb.cell, ← hcc.1, ← htk, List.getElem?_take, if_pos (by omega)]; simp
    · rw [hBb.cell, ← hcc.2, ← htk, List.getElem?_take, if_pos (by omega)]; simp
/-- All, and what was all, are the same. -/
theorem same_was {w : World} {A1 A2 : Option Addr} {n0 c1 c2 : Nat} {l0 : List Plc} (hn : n0 = l0.length) (hl : n0 ≤ 1000) (h1 : Row w 47 13 (.slice A1 n0 c1) n0 (plcCells l0)) (h2 : Row w 47 13 (.slice A2 n0 c2) n0 (plcCells l0)) :
    Calls Try.prog 25 #[.slice A1 n0 c1, .slice A2 n0 c2] w fun e w' => e = .returned (.bool true) ∧ Chg [] w w' := by
  subst hn
  have := rSame_any h1 h2 hl hl
  rwa [decide_eq_true (rfl : l0 = l0)] at this
set_option maxHeartbeats 12800000 in
set_option maxRecDepth 100000 in
theorem back_any (size gs cpu per : Int) (hcp : 0 ≤ cpu) (hpp : 0 ≤ per) (V : Value) (l : List ActC) (w : World) (hV : Acts w V l) {kd ri rq at_ gs1 n1 per1 : Int} (hF : ActC.Fits ⟨kd, ri, rq, at_, gs1, n1, per1⟩) :
    Calls Try.prog 6 #[.int .i64 size, .int .i64 gs, .int .u64 cpu, .int .u64 per, V, .agg #[.int .i64 kd, .int .i64 ri, .int .u64 rq, .int .i64 at_, .int .i64 gs1, .int .u64 n1, .int .u64 per1]] w fun e w' => e = .returned (.bool true) ∧ Chg [] w w' := by
  obtain ⟨A, c9, rfl⟩ := hV.open_
  obtain ⟨m, hm⟩ : ∃ m, m = l.length := ⟨_, rfl⟩
  rw [← hm] at hV ⊢
  have HV := Lib.hid hV
  have HK := Lib.hid known_any
  have hF1 : ActC.Fits ⟨1, ri, rq, at_, gs1, n1, per1⟩ := ⟨hF.r0, hF.r1, hF.t0, hF.t1, hF.n0, hF.n1, hF.p0⟩
  have HF := Lib.hid hF1
  obtain ⟨w0, hw0⟩ : ∃ w0, w0 = w.alloc (.cells #[.int .i64 kd, .int .i64 ri, .int .u64 rq, .int .i64 at_, .int .i64 gs1, .int .u64 n1, .int .u64 per1] 36) := ⟨_, rfl⟩
  have hc0 : Chg [] w w0 := by rw [hw0]; exact (Chg.refl _ _).alloc _
  have hb0 : Blk w0 w.heap.size 36 #[.int .i64 kd, .int .i64 ri, .int .u64 rq, .int .i64 at_, .int .i64 gs1, .int .u64 n1, .int .u64 per1] := by rw [hw0]; exact Blk.new w 36 _
  have HC0 := Lib.hid hc0
  have HB0 := Lib.hid hb0
  clear hV hm hF hF1 hc0 hb0
  by_cases hbig : 40 < (m : Int)
  · have d1 : decide ((m : Int) > 40) = true := by simpa using hbig
    go_enter Try.func6, Try.ntmps6
    go_wp2_with (rw [← hw0]; go_at_call 8; refine (HK.out _).mono ?_; rintro e w1 ⟨rfl, hc⟩)
    go_ret
    exact ⟨rfl, HC0.out.then hc⟩
  have d1 : decide ((m : Int) > 40) = false := by simpa using hbig
  have HMY := Lib.hid (fun W => may_any (size := size) (gs := gs) (cpu := cpu) (per := per) hcp hpp W)
  cases hmay : mayN size gs cpu per with
  | false =>
    rw [hmay] at HMY
    clear hmay
    go_enter Try.func6, Try.ntmps6
    go_wp2_with (first
      | (go_at_call 9; refine (HMY.out _).mono ?_; rintro e w1 ⟨rfl, rfl⟩)
      | (rw [← hw0]; go_at_call 8; refine (HK.out _).mono ?_; rintro e w1 ⟨rfl, hc⟩))
    go_ret
    exact ⟨rfl, HC0.out.then hc⟩
  | true =>
    rw [hmay] at HMY
    obtain ⟨s1, s2, _⟩ := mayN_iff.1 hmay
    obtain ⟨N, rfl⟩ : ∃ N : Nat, size = N := ⟨size.toNat, by omega⟩
    have HBG := Lib.hid (begin_btw hcp hpp hmay (Chg.refl [] w0))
    clear hmay s1 s2
    go_enter Try.func6, Try.ntmps6
    go_wp2_with (first
      | (go_at_call 9; refine (HMY.out _).mono ?_; rintro e w1 ⟨rfl, rfl⟩)
      | (rw [← hw0]; clear hw0; go_at_call 11; refine HBG.out.mono ?_; rintro e w2 ⟨G, c, h, rfl, hB⟩; have HB2 := Lib.hid hB; clear hB HBG))
    go_loopw [14] (fun i wr => ∃ k : Nat, k ≤ m ∧ i = .int .i64 k ∧ Hid (Btw w0 G c h k wr)) (fun i wr => m - (intOfN i).toNat)
    case atStart => exact ⟨0, Nat.zero_le _, rfl, HB2⟩
    case round =>
      obtain ⟨k, hk, rfl, hB⟩ := hrel
      by_cases hlt : k < m
      · obtain ⟨b, off, kind, ri2, rq2, at2, gs2, n7, per2, rfl, hat, hfit, hcs⟩ := HV.out.is_ hlt
        obtain ⟨e0, e1, e2, e3, e4, e5, e6⟩ := hcs _ (HC0.out.then hB.out.chg)
        have i0 : (0 : Int) ≤ (k : Int) := by omega
        have i1 : (k : Int) < (m : Int) := by omega
        have HD := hB.out.does (by omega) _ hfit
        simp only [ActC.cells] at HD
        clear hfit hat hcs
        go_wp2_with (go_at_call 13; refine HD.mono ?_; rintro e w4 ⟨rfl, hB2⟩; have HB3 := Lib.hid hB2; clear hB2)
        go_roundw
        case rel => exact ⟨k + 1, by omega, by go_num, HB3⟩
        case measure => simp [intOfN]; omega
      · obtain rfl : k = m := by omega
        obtain ⟨S, S2, V9, rs, t, r, ch, hg, hfr, hch⟩ := hB.out
        have hn32 : (r.all ch).length ≤ 32 := Nat.le_trans (allTo_len r ch _) hg.pair.sim.held.n1
        have HA := Lib.hid (allD_any hg.pair.dm hg.pair.sim.size)
        rw [hg.pair.sim.all] at HA
        obtain ⟨l0, hl00⟩ : ∃ l0, l0 = r.all ch := ⟨_, rfl⟩
        rw [← hl00] at HA hn32
        obtain ⟨n0, hn00⟩ : ∃ n0, n0 = l0.length := ⟨_, rfl⟩
        rw [← hn00] at HA hn32
        have HL0 := Lib.hid hl00
        have HN0 := Lib.hid hn00
        have HG := Lib.hid hg
        have HFR := Lib.hid hfr
        have HCH := Lib.hid hch
        have HBX := Lib.hid (HB0.out.chg hch (by simp))
        obtain ⟨b9, cp9, hV9, lb9, _⟩ := hg.slice
        subst hV9
        have v0 : wr.cell? ⟨G, 0, none⟩ = some (ptr c) := hg.blk.cell 0
        have lG := hg.blk.lt
        have lbx := HBX.out.lt
        obtain ⟨n9, hn9⟩ : ∃ n9, n9 = rs.length := ⟨_, rfl⟩
        have hneB : ¬ (w.heap.size = G) := fun e => by
          have := hg.blk
          rw [← e] at this
          exact absurd rfl (Blk.ty this HBX.out (by decide))
        clear hl00 hn00 hg hfr hch hB
        go_wp2_with (first
          | (go_at_call 14; refine HA.out.mono ?_; rintro e w5 ⟨A5, c5, rfl, hr5, hf5, hb5⟩; have HR5 := Lib.hid hr5; have HF5 := Lib.hid hf5; have HC5 := Lib.hid (Chg.of_below hb5); have HBX5 := Lib.hid (HBX.out.chg HC5.out (by simp)); have b0 := HBX5.out.cell 0; have b1 := HBX5.out.cell 1; have b2 := HBX5.out.cell 2; have b3 := HBX5.out.cell 3; have b4 := HBX5.out.cell 4; have b5 := HBX5.out.cell 5; have b6 := HBX5.out.cell 6; have bf := HBX5.out.frozen; have lb5 := HBX5.out.lt; have HG5 := Lib.hid (HG.out.quiet HC5.out); have u0 := HG5.out.blk.cell 0; have u2 := HG5.out.blk.cell 2; have lG5 := HG5.out.blk.lt; clear hr5 hf5 hb5)
          | (go_at_call 13; refine (do1b (HG5.out.box36 HBX5.out ((Chg.refl [w.heap.size] w5).setCell (p := ⟨w.heap.size, 0, none⟩) (Or.inl (List.mem_singleton.2 rfl)) (.int .i64 1))) (by omega) HF.out).mono ?_; rintro e w7 ⟨rfl, hp⟩; have HP := Lib.hid hp; clear hp))
        obtain ⟨S7, S27, V7, rs7, t7, r7, ch7, g7, hfr7, hc7, hq7⟩ := HP.out
        clear HP b0 b1 b2 b3 b4 b5 b6 bf u0 u2 v0
        have hcs : Chg [w.heap.size] w5 (w5.setCell ⟨w.heap.size, 0, none⟩ (.int .i64 1)) := (Chg.refl [w.heap.size] w5).setCell (p := ⟨w.heap.size, 0, none⟩) (Or.inl (List.mem_singleton.2 rfl)) _
        have hsz6 : (w5.setCell ⟨w.heap.size, 0, none⟩ (.int .i64 1)).heap.size = w5.heap.size := by simp [World.setCell]
        have hft : ∀ k ∈ foot (.slice A5 n0 c5), (k ∉ gBlocks G (.slice (some ⟨b9, 0, none⟩) rs.length cp9) S S2) ∧ k ∉ gBlocks G V7 S7 S27 := fun k hk => by
          have h1 := HF5.out k hk
          have h2 := HR5.out.lt k hk
          have h3 : k ∉ gBlocks G (.slice (some ⟨b9, 0, none⟩) rs.length cp9) S S2 := fun hm => by have := HG.out.lt k hm; omega
          refine ⟨h3, fun hm => ?_⟩
          rcases hfr7 k hm with h | h
          · exact h3 h
          · omega
        have hR7 : Row w7 47 13 (.slice A5 n0 c5) n0 (plcCells l0) := (HR5.out.chg hcs (fun k hk hm => by simp at hm; have := HF5.out k hk; omega)).chg hc7 (fun k hk => (hft k hk).1)
        have hw6 : Chg [] w (w5.setCell ⟨w.heap.size, 0, none⟩ (.int .i64 1)) := ((HC0.out.then HCH.out).then HC5.out).trans hcs (fun k hk => by simp at hk; exact .inr (by omega))
        have hw7 : Chg [] w w7 := hw6.trans hc7 (fun k hk => .inr (by have := HFR.out k hk; have := HC0.out.size; omega))
        have hS7 : ∀ k ∈ S7, w.heap.size ≤ k := fun k hk => by
          have z1 := HC0.out.size
          rcases hfr7 k (List.mem_cons_of_mem _ (List.mem_append_right _ (List.mem_append_left _ hk))) with h | h
          · have := HFR.out k h; omega
          · omega
        have HS7 := Lib.hid hS7
        have HR7 := Lib.hid hR7
        have HW7 := Lib.hid hw7
        have HFT := Lib.hid hft
        have G7 := Lib.hid g7
        have z0 : w7.cell? ⟨G, 0, none⟩ = some (ptr c) := g7.blk.cell 0
        have z2 : w7.cell? ⟨G, 2, none⟩ = some V7 := g7.blk.cell 2
        have lG7 := g7.blk.lt
        obtain ⟨b7, cp7, hV7, lb7, hcl7⟩ := g7.slice
        have hSW := Lib.hid (fun W A2 c2 (h1 : Row W 47 13 (.slice A2 n0 c2) n0 (plcCells l0)) (h2 : Row W 47 13 (.slice A5 n0 c5) n0 (plcCells l0)) => same_was HN0.out (by omega) h1 h2)
        rcases hq7 with ⟨rfl, rfl, rfl⟩ | ⟨f, k9, gs9, cpu9, per9, hgets, hk9, rfl, e1, e2⟩
        · subst hV7
          rw [← hn9] at z2 ⊢
          have HA7 := Lib.hid (fun W (hW : Chg [] w7 W) => allD_any (g7.pair.quiet hW).dm g7.pair.sim.size)
          rw [g7.pair.sim.all, ← HL0.out, ← HN0.out] at HA7
          clear hS7 hfr7 hc7 hcs hft hR7 hw6 hw7 g7 hcl7 hsz6
          go_quiet (fail)
          go_wp2_with (first
            | (go_at_call 14; refine (HA7.out _ ((Chg.refl [] _).drewN _)).mono ?_; rintro e w8 ⟨A8, c8, rfl, hr8, _, hb8⟩; have HR8 := Lib.hid hr8; have HC8 := Lib.hid (((Chg.refl [] w7).drewN _).then (Chg.of_below hb8)); clear hr8 hb8)
            | (go_at_call 25; refine (hSW.out _ _ _ HR8.out (HR7.out.quiet HC8.out)).mono ?_; rintro e w10 ⟨rfl, hc10⟩; have HC10 := Lib.hid (HC8.out.then hc10); clear hc10)
            | (go_at_call 8; refine (HK.out _).mono ?_; rintro e w11 ⟨rfl, hc11⟩))
          go_ret
          exact ⟨rfl, (HW7.out.then HC10.out).then hc11⟩
        · have hlen : (rs ++ [(((f : Nat) : Int), (r.pl f).gen)]).length = n9 + 1 := by rw [hn9]; simp
          obtain ⟨n10, hn10⟩ : ∃ n10, n10 = n9 + 1 := ⟨_, rfl⟩
          rw [← hn10] at hlen
          subst hV7
          rw [hlen] at z2
          rw [← hn9]
          have hx := hcl7 n9 (((f : Nat) : Int), (r.pl f).gen) (by rw [hn9]; simp)
          obtain ⟨x0, x1⟩ := hx
          simp only at x0 x1
          have HM := Lib.hid (fun W (hW : Chg [] w7 W) => merge_back (g7.pair.quiet hW) (by omega) HG.out.pair.sim.held hgets hk9 e1 e2)
          obtain ⟨q9, hq9⟩ : ∃ q9, q9 = (r.pl f).gen := ⟨_, rfl⟩
          rw [← hq9] at x1 HM
          obtain ⟨f9, hf9⟩ : ∃ f9 : Int, f9 = ((f : Nat) : Int) := ⟨_, rfl⟩
          rw [← hf9] at x0 HM
          have hGS := g7.G_off.1
          have hb7 : b7 ∉ S7 := (g7.V_off b7 (by simp [foot_some])).1
          have HB7 := Lib.hid hb7
          have hgb := g7.blk
          rw [hlen] at hgb
          have HGB := Lib.hid hgb
          have HGS := Lib.hid (fun (h : G ∈ S7) => hGS (List.mem_cons_of_mem _ h))
          have hlt9 : (n9 : Int) < (n10 : Int) := by omega
          have hlt8 : n9 < n10 := by omega
          have hn90 : (0 : Int) ≤ (n9 : Int) := by omega
          clear hS7 hfr7 hc7 hcs hft hR7 hw6 hw7 hcl7 hsz6 hGS hb7 hgb hlen g7 hq9 hf9 hn9 hn10 hgets hk9 e1 e2
          go_region_held3 (fun w' => w'.cell? ⟨G, 0, none⟩ = some (ptr c) ∧ w'.cell? ⟨G, 2, none⟩ = some (.slice (some ⟨b7, 0, none⟩) n10 cp7) ∧ w'.cell? ⟨b7, n9 * 2, none⟩ = some (.int .i64 f9) ∧ w'.cell? ⟨b7, n9 * 2 + 1, none⟩ = some (.int .u64 q9))
            (first | go_keep)
            (first
              | (go_at_call 18; refine (HM.out _ (Chg.refl [] _).drew).mono ?_; rintro e w8 ⟨rfl, hc8, S8, t8, hD8, _, hs8, hn8⟩; have HC8 := Lib.hid hc8; have HA8 := Lib.hid (fun W (hW : Chg [] w8 W) => allD_any (hD8.quiet hW) hs8); have HR8 := Lib.hid ((HR7.out.drew).chg hc8 (fun k hk hm => (HFT.out k hk).2 (List.mem_cons_of_mem _ (List.mem_append_right _ (List.mem_append_left _ hm))))); have HG8 := Lib.hid ((HGB.out.drew).chg hc8 HGS.out); have y0 : w8.cell? ⟨G, 0, none⟩ = some (ptr c) := HG8.out.cell 0; have y2 : w8.cell? ⟨G, 2, none⟩ = some (.slice (some ⟨b7, 0, none⟩) n10 cp7) := HG8.out.cell 2; have y3 : w8.cell? ⟨b7, n9 * 2, none⟩ = some (.int .i64 f9) := (hc8.cell (p := ⟨b7, n9 * 2, none⟩) lb7 HB7.out).trans x0; have y4 : w8.cell? ⟨b7, n9 * 2 + 1, none⟩ = some (.int .u64 q9) := (hc8.cell (p := ⟨b7, n9 * 2 + 1, none⟩) lb7 HB7.out).trans x1; have lG8 := HG8.out.lt; rw [hn8, ← HL0.out, ← HN0.out] at HA8; clear hc8 hD8 hs8 hn8))
          all_goals
            go_wp2_with (first
              | (go_at_call 14; refine (HA8.out _ (Chg.refl [] _)).mono ?_; rintro e w9 ⟨A8, c8, rfl, hr8, _, hb8⟩; have HR9 := Lib.hid hr8; have HC9 := Lib.hid (Chg.of_below hb8); clear hr8 hb8)
              | (go_at_call 25; refine (hSW.out _ _ _ HR9.out (HR8.out.quiet HC9.out)).mono ?_; rintro e w10 ⟨rfl, hc10⟩; have HC10 := Lib.hid (HC9.out.then hc10); clear hc10)
              | (go_at_call 8; refine (HK.out _).mono ?_; rintro e w11 ⟨rfl, hc11⟩))
            go_ret
            have hw8 : Chg [] w w8 := (HW7.out.drew).trans HC8.out (fun k hk => .inr (HS7.out k hk))
            exact ⟨rfl, (hw8.then HC10.out).then hc11⟩
end Go.Proofs
end
section
namespace Go.Proofs
open Go.ChangeShapes Go.WideShapes Go.ChangeAt Go.RowKit Go.Deep
set_option linter.unusedVariables false
set_option maxRecDepth 100000
/-- An act that came in, by value. -/
theorem open_actv {H : Type} {enc : TypeId × Value → H} {base b0 : Nat} {held : Bool} {v : Value} {d : DataW H} {ps : List MemPlace} {W : World} {r : Reach} (hv : Value.okWide Try.prog W r b0 36 v) (h : DataW.Trod enc Try.prog W base (fun _ => true) held 36 v d ps) :
    ∃ kd ri rq at_ gs n per, ActC.Fits ⟨kd, ri, rq, at_, gs, n, per⟩ ∧ v = .agg #[.int .i64 kd, .int .i64 ri, .int .u64 rq, .int .i64 at_, .int .i64 gs, .int .u64 n, .int .u64 per] := by
  obtain ⟨cs, rfl, _⟩ := okWide_struct Try.underlying36 hv
  obtain ⟨fuel, hf⟩ := h
  obtain ⟨a, hF, hc⟩ := open_act hf
  obtain ⟨kd, ri, rq, at_, gs, n, per⟩ := a
  refine ⟨kd, ri, rq, at_, gs, n, per, hF, ?_⟩
  have hc' : cs.toList = ActC.cells ⟨kd, ri, rq, at_, gs, n, per⟩ := by simpa [Value.cells] using hc
  congr 1
  exact Array.toList_inj.1 (by simpa using hc')
end Go.Proofs
end
section
namespace Go.Proofs.Ytpclhbfmocjgeaa.domainBack
open Go.ChangeShapes Go.WideShapes Go.ChangeAt Go.RowKit
set_option linter.unusedVariables false

theorem own : ownKnob Try.prog.godebug = none := by kernel_rfl

set_option maxRecDepth 100000 in
theorem lifted (os : Os) (started : os.Started) (H : Type) (enc : TypeId × Value → H) :
    ReturnsInHanded {} Try.checked os 6 .any (Rows.domainBackSpec.pre6 enc Try.prog Try.f6 Rows.domainBackRow.domain false) (Rows.domainBackSpec.post enc Try.prog Try.f6 false true false false) := by
  refine returnsInHanded_of_change (C := Try.checked) own started (by kernel_rfl) Try.func6
    (ChangeSpec.witness6 (enc := enc) (C := Try.checked) false ⟨#[], #[.int .i64 0, .int .i64 0, .int .u64 0, .int .u64 0, .slice none 0 0, .agg #[.int .i64 0, .int .i64 0, .int .u64 0, .int .i64 0, .int .i64 0, .int .u64 0, .int .u64 0]], []⟩ 8 (by kernel_rfl) (by kernel_rfl) (by kernel_rfl) (by kernel_rfl)) ?_
  intro W base args ds gs before hval0 hW hcnd _
  have hval : ∀ (j : Nat) t v, Try.f6.params[j]? = some t → args[j]? = some v → Value.okWide Try.prog W .any base t v := hval0
  have hW' := hW
  obtain ⟨p, q, hA0, hV, rfl, hfz, hnd⟩ := hW
  have hA : DataW.TrodAll enc Try.prog W 0 (fun _ => true) true Try.f6.params.toList args.toList ds p := hA0
  rw [Try.params6] at hA hval
  obtain ⟨v0, vs0, d0, ds0, p0, q0, hargs, rfl, rfl, h0, r0⟩ := trodAll_cons hA
  obtain ⟨v1, vs1, d1, ds1, p1, q1, rfl, rfl, rfl, h1, r1⟩ := trodAll_cons r0
  obtain ⟨v2, vs2, d2, ds2, p2, q2, rfl, rfl, rfl, h2, r2⟩ := trodAll_cons r1
  obtain ⟨v3, vs3, d3, ds3, p3, q3, rfl, rfl, rfl, h3, r3⟩ := trodAll_cons r2
  obtain ⟨v4, vs4, d4, ds4, p4, q4, rfl, rfl, rfl, h4, r4⟩ := trodAll_cons r3
  obtain ⟨v5, vs5, d5, ds5, p5, q5, rfl, rfl, rfl, h5, r5⟩ := trodAll_cons r4
  obtain ⟨rfl, rfl, rfl⟩ := trodAll_nil r5
  obtain rfl : args = #[v0, v1, v2, v3, v4, v5] := by cases args; simp_all
  obtain ⟨rfl, rfl⟩ := trodVars_none hV
  obtain ⟨a0, rfl, rfl, rfl, w0⟩ := open_int Try.underlying3 (hval 0 3 v0 rfl rfl) h0
  obtain ⟨a1, rfl, rfl, rfl, w1⟩ := open_int Try.underlying3 (hval 1 3 v1 rfl rfl) h1
  obtain ⟨a2, rfl, rfl, rfl, w2⟩ := open_int Try.underlying22 (hval 2 22 v2 rfl rfl) h2
  obtain ⟨a3, rfl, rfl, rfl, w3⟩ := open_int Try.underlying22 (hval 3 22 v3 rfl rfl) h3
  clear hA0 hval0
  simp only [List.append_nil, List.nil_append] at hW'
  obtain ⟨b0, c0⟩ := bounds_i64 w0
  obtain ⟨b1, c1⟩ := bounds_i64 w1
  obtain ⟨b2, c2⟩ := bounds_u64 w2
  obtain ⟨b3, c3⟩ := bounds_u64 w3
  have hlt4 : ∀ x ∈ p4, x.block < W.heap.size := fun x hx => hW'.lt x (by simp [hx])
  obtain ⟨l4, hl4⟩ := open_acts (hval 4 23 v4 rfl rfl) h4
  have hlt5 : ∀ x ∈ p5, x.block < W.heap.size := fun x hx => hW'.lt x (by simp [hx])
  obtain ⟨kd5, ri5, rq5, at5, gs5, n5, per5, hf5, rfl⟩ := open_actv (hval 5 36 v5 rfl rfl) h5
  refine (back_any a0 a1 a2 a3 b2 b3 _ l4 W hl4 hf5).mono fun e W' ⟨he, hc⟩ => ?_
  have hg := hc.to_below
  subst he
  exact ⟨_, rfl, post_of_below (pa := ([] ++ ([] ++ ([] ++ ([] ++ (p4 ++ (p5 ++ []))))))) (pv := []) hW' (fun _ _ _ => (trodAll_cons_mk (shut_bool Try.underlying4 _) trodAll_mk0)) (fun sp hsp => (trodAll_cons_mk (shut_int Try.underlying3 w0) (trodAll_cons_mk (shut_int Try.underlying3 w1) (trodAll_cons_mk (shut_int Try.underlying22 w2) (trodAll_cons_mk (shut_int Try.underlying22 w3) (trodAll_cons_mk (WideElems.Trod_stays Try.laidOut (by kernel_rfl) (of_decide_eq_true (by kernel_rfl)) h4 (fun x hx => hg.same (hlt4 x hx)) (fun x hx => hsp x (by simp [hx]))) (trodAll_cons_mk (WideElems.Trod_stays Try.laidOut (by kernel_rfl) (of_decide_eq_true (by kernel_rfl)) h5 (fun x hx => hg.same (hlt5 x hx)) (fun x hx => hsp x (by simp [hx]))) trodAll_mk0))))))) (fun _ _ => rfl) (by simp)
    hg (ok_one (by kernel_rfl) rfl (okWide_bool_mk Try.underlying4 _))⟩

theorem over : Rows.domainBackRow.holds Try.pinned (OpenSpec.ofChange Rows.domainBackSpec) :=
  OpenClaim.holds_of_wide 6 Try.f6 rfl rfl rfl rfl rfl rfl rfl ⟨rfl, rfl, rfl, rfl, rfl⟩ rfl rfl rfl rfl rfl (by kernel_rfl) Try.func6 (by kernel_rfl)
    (of_decide_eq_true (by kernel_rfl)) (by unfold Func.isWrapper; first | (rw [if_pos (by decide +kernel)]; kernel_rfl) | (rw [if_neg (by decide +kernel)]; exact ⟨rfl, rfl⟩))
    (fun os started H enc _ => lifted os started H enc)

/-- ████ THE STATEMENT ████ -/
theorem proved : Rows.DomainBackSaid :=
  over
#print axioms proved
end Go.Proofs.Ytpclhbfmocjgeaa.domainBack
end
