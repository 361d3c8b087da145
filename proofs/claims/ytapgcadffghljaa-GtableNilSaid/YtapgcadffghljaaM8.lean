import Derived.Test.YtapgcadffghljaaM7
import Derived.Test.YtapgcadffghljaaM4
section
namespace Go.Proofs
open Go.RowKit
set_option linter.unusedVariables false
set_option linter.unusedSimpArgs false

/-- The first ones of a row, with the room that it has. -/
theorem Row.head {w : World} {e : TypeId} {z n g cap : Nat} {xs : List Value} (h : Row w e z (.slice (some ⟨g, 0, none⟩) n cap) n xs) {k : Nat} (hk : k ≤ n) : Row w e z (.slice (some ⟨g, 0, none⟩) k cap) k (xs.take (k * z)) := by
  have hkn : k * z ≤ n * z := Nat.mul_le_mul_right _ hk
  refine ⟨by rw [List.length_take, h.1]; omega, ?_⟩
  rcases h.2 with ⟨h0, _⟩ | ⟨g', cap', cur, hv, hg, hc, hm, hs, ht⟩
  · cases h0
  · simp only [Value.slice.injEq, Option.some.injEq, Addr.mk.injEq] at hv
    obtain ⟨⟨rfl, _⟩, _, rfl⟩ := hv
    refine .inr ⟨g, cap, cur, rfl, hg, by omega, hm, hs, ?_⟩
    rw [← ht, List.take_take, Nat.min_eq_left hkn]
set_option maxRecDepth 100000 in
theorem rMake_no {w : World} {p : Nat} {S : List Nat} {r : Rt} (h : DAt w p S r) (x : Gr) (h0 : 0 ≤ x.un) (hm : mayP x = false) :
    Calls Try.prog 32 #[ptr p, x.val] w fun e w' => e = .returned (.tuple #[.agg #[.int .i64 0, .int .u64 0], .int .i64 2]) ∧ Chg [] w w' := by
  have HM := Lib.hid (fun W => rMay_any x h0 W)
  rw [hm] at HM
  have hXs := x.size
  obtain ⟨W, hWe⟩ : ∃ W, W = (w.alloc (.cells x.arr 37)).alloc (.cells #[.int .i64 0, .int .u64 0] 33) := ⟨_, rfl⟩
  have hc : Chg [] w W := by rw [hWe]; exact ((Chg.refl [] w).alloc _).alloc _
  have hb3 : Blk W w.heap.size 37 x.arr := by rw [hWe]; exact (Blk.new w 37 _).alloc _
  have hb4 : Blk W (w.heap.size + 1) 33 #[.int .i64 0, .int .u64 0] := by rw [hWe]; exact Blk.at' (w.alloc _) 33 _ (by simp)
  unfold Gr.val at HM ⊢
  generalize x.arr = X at *
  clear h hm h0
  go_enter Try.func32, Try.ntmps32
  go_upto_region 1 with (fail)
  rw [← hWe]
  clear hWe
  go_wp2_with (first
    | ((with_reducible refine wpl_loadE T37 hb3 hXs ?_ ?_ ?_); (· rfl); (· exact ⟨_, rfl, rfl⟩))
    | (go_at_call 14; (refine (HM.out _).mono ?_); rintro e w1 ⟨rfl, hc1⟩; have hb5 := hb4.chg hc1 (by simp); have y0 := hb5.cell 0; have y1 := hb5.cell 1; have g0 := hb5.frozen 0; have g1 := hb5.frozen 1; have HC1 := Lib.hid hc1; clear hc1 hb5))
  exact bodyPost_ret (v := .tuple #[.agg #[.int .i64 0, .int .u64 0], .int .i64 2]) (by simp [results, Try.results32, go_sem, y0, y1]) rfl ⟨rfl, ((hc.then HC1.out).setCell (p := ⟨w.heap.size + 1, 0, none⟩) (.inr (by simp)) _).setCell (p := ⟨w.heap.size + 1, 1, none⟩) (.inr (by simp)) _⟩
set_option maxRecDepth 100000 in
theorem rMake_full {w : World} {p : Nat} {S : List Nat} {r : Rt} (h : DAt w p S r) (x : Gr) (h0 : 0 ≤ x.un) (hm : mayP x = true) (hF0 : r.F = []) :
    Calls Try.prog 32 #[ptr p, x.val] w fun e w' => e = .returned (.tuple #[.agg #[.int .i64 0, .int .u64 0], .int .i64 3]) ∧ Chg [] w w' := by
  have HM := Lib.hid (fun W => rMay_any x h0 W)
  rw [hm] at HM
  obtain ⟨VL, VF, hB, hS, hF, hSS⟩ := h
  rw [hF0] at hF
  obtain ⟨A, c, rfl, hA⟩ := hF.val
  have hXs := x.size
  obtain ⟨W, hWe⟩ : ∃ W, W = (w.alloc (.cells x.arr 37)).alloc (.cells #[.int .i64 0, .int .u64 0] 33) := ⟨_, rfl⟩
  have hc : Chg [] w W := by rw [hWe]; exact ((Chg.refl [] w).alloc _).alloc _
  have hb3 : Blk W w.heap.size 37 x.arr := by rw [hWe]; exact (Blk.new w 37 _).alloc _
  have hb4 : Blk W (w.heap.size + 1) 33 #[.int .i64 0, .int .u64 0] := by rw [hWe]; exact Blk.at' (w.alloc _) 33 _ (by simp)
  have HB := Lib.hid hB
  unfold Gr.val at HM ⊢
  generalize x.arr = X at *
  clear hm h0 hB hS hF hSS hF0 hA
  go_enter Try.func32, Try.ntmps32
  go_upto_region 1 with (fail)
  rw [← hWe]
  clear hWe
  go_wp2_with (first
    | ((with_reducible refine wpl_loadE T37 hb3 hXs ?_ ?_ ?_); (· rfl); (· exact ⟨_, rfl, rfl⟩))
    | (go_at_call 14; (refine (HM.out _).mono ?_); rintro e w1 ⟨rfl, hc1⟩; have hb5 := hb4.chg hc1 (by simp); have y0 := hb5.cell 0; have y1 := hb5.cell 1; have g0 := hb5.frozen 0; have g1 := hb5.frozen 1; have z1 := (HB.out.chg (hc.then hc1) (by simp)).cell 1; have HC1 := Lib.hid hc1; clear hc1 hb5))
  exact bodyPost_ret (v := .tuple #[.agg #[.int .i64 0, .int .u64 0], .int .i64 3]) (by simp [results, Try.results32, go_sem, y0, y1]) rfl ⟨rfl, ((hc.then HC1.out).setCell (p := ⟨w.heap.size + 1, 0, none⟩) (.inr (by simp)) _).setCell (p := ⟨w.heap.size + 1, 1, none⟩) (.inr (by simp)) _⟩
set_option maxRecDepth 100000 in
set_option maxHeartbeats 3200000 in
theorem rMake_ok {w : World} {p : Nat} {S : List Nat} {r : Rt} (h : DAt w p S r) (x : Gr) (h0 : 0 ≤ x.un) (hm : mayP x = true) {l : List Nat} {k : Nat} (hF0 : r.F = l ++ [k]) {s : Spot Gr} (hs : r.L[k]? = some s) (hll : l.length ≤ 64) :
    Calls Try.prog 32 #[ptr p, x.val] w fun e w' => e = .returned (.tuple #[.agg #[.int .i64 (k : Nat), .int .u64 s.gen], .int .i64 0]) ∧ DTurns p S ⟨r.L.set k ⟨s.gen, true, x⟩, l⟩ w w' := by
  have HM := Lib.hid (fun W => rMay_any x h0 W)
  rw [hm] at HM
  obtain ⟨VL, VF, hB, hS, hF, hSS⟩ := h
  rw [hF0] at hF
  obtain ⟨gf, cf, rfl, hff, hcf, hfc, hfz, hgf⟩ := hF.form (by simp)
  obtain ⟨gl, cl, rfl, hfl, hcl, hgl, hk, _, _, _, _⟩ := open_spot hS hs
  have hlen : (l ++ [k]).length = l.length + 1 := by simp
  have hkc : w.cell? ⟨gf, l.length, none⟩ = some (.int .i64 (k : Nat)) := hfc _ _ (by unfold numCells; simp)
  have hpl : p ≠ gl := by have := hS.ty hB (by decide); simpa [foot_some] using this
  have hpf : p ≠ gf := by have := hF.ty hB (by decide); simpa [foot_some] using this
  have hlf : gl ≠ gf := fun e => hS.ty2 hF (by decide) gl (by simp [foot_some]) (by simp [foot_some, e])
  have hcut := hF.head (k := l.length) (by simp)
  rw [numCells_take] at hcut
  have hone : ∀ u ∈ numCells l, u.oneCell' = true := numCells_one l
  obtain ⟨ni, hi0, hz0, hz1, hz2⟩ := info_parts Try.int_info3
  have hXs := x.size
  have hX1 := x.one
  obtain ⟨W, hWe⟩ : ∃ W, W = (w.alloc (.cells x.arr 37)).alloc (.cells #[.int .i64 0, .int .u64 0] 33) := ⟨_, rfl⟩
  have hc : Chg [] w W := by rw [hWe]; exact ((Chg.refl [] w).alloc _).alloc _
  have hb3 : Blk W w.heap.size 37 x.arr := by rw [hWe]; exact (Blk.new w 37 _).alloc _
  have hb4 : Blk W (w.heap.size + 1) 33 #[.int .i64 0, .int .u64 0] := by rw [hWe]; exact Blk.at' (w.alloc _) 33 _ (by simp)
  have lp := hB.lt
  rw [hlen] at hB hcf
  obtain ⟨m, hm0⟩ : ∃ m, m = l.length := ⟨_, rfl⟩
  rw [← hm0] at hB hkc hcut hll hcf
  have HB := Lib.hid hB
  have HS := Lib.hid hS
  have HCUT := Lib.hid hcut
  have Hm0 := Lib.hid hm0
  have Hs := Lib.hid hs
  -- what is left at the end
  have hfin : ∀ (w8 w9 : World) (cur : Array Value) (vf : Value), Chg [p] w w8 → Blk w8 p 83 #[.slice (some ⟨gl, 0, none⟩) r.L.length cl, vf] → Row w8 3 1 vf l.length (numCells l) → (∀ j ∈ foot vf, w.heap.size ≤ j) → Blk w8 gl 79 cur →
      Stored (w8.setCell ⟨gl, k * 21 + 1, none⟩ (.bool true)) w9 gl 79 (splice_at (cur.setIfInBounds (k * 21 + 1) (.bool true)) (k * 21 + 2) x.arr) →
      DTurns p S ⟨r.L.set k ⟨s.gen, true, x⟩, l⟩ w w9 ∧ w9.cell? ⟨gl, k * 21, none⟩ = some (.int .u64 s.gen) := fun w8 w9 cur vf hc8 hB8 hvf hfo hcur hst => by
    have hS8 := hS.chg hc8 (by simpa [foot_some] using Ne.symm hpl)
    have hS1 := hS8.set_ (j := k * 21 + 1) (by omega) (.bool true)
    rw [spotCells_set1 true hs] at hS1
    have hb1 := hcur.set_ (k * 21 + 1) (.bool true)
    have hs1 : (r.L.set k { s with there := true })[k]? = some { s with there := true } := List.getElem?_set_self hk
    have hl1 : r.L.length = (r.L.set k { s with there := true }).length := by simp
    obtain ⟨cur', hb', hcz, ht'⟩ := hS1.cur
    have : cur' = cur.setIfInBounds (k * 21 + 1) (.bool true) := by have := hb'.symm.trans hb1; simp at this; exact this
    subst this
    rw [hl1] at ht'
    have hy := splice_spot (off := k * 21 + 2) (A := x.arr) ht' hs1 (cells_thing _ x).1 (cells_thing _ x).2 (by rw [Gr.len, Gr.size]) rfl
    rw [← hl1, List.set_set] at hy
    have hr := hS1.stored hb' hst (by rw [Gr.size]; omega) hy (by rw [spotCells_len, List.length_set])
    have hvl : gl ∉ foot vf := fun hj => by have := hfo _ hj; omega
    have hcw : Chg S w w9 := by
      refine ((hc8.mono (S' := S) (fun j hj => by simp at hj; subst hj; exact .inl (by rw [hSS]; simp))).setCell (p := ⟨gl, k * 21 + 1, none⟩) (.inl (by rw [hSS]; simp [foot_some])) _).trans hst.chg (fun j hj => by simp at hj; subst hj; exact .inl (by rw [hSS]; simp [foot_some]))
    refine ⟨DTurns.mk (VS := .slice (some ⟨gl, 0, none⟩) r.L.length cl) (VF := vf) (hst.far (hB8.far (by simpa using hpl) _) hpl) (by simpa using hr) ((hvf.far (by simpa using hvl) _).chg hst.chg (fun j hj hj' => by simp at hj'; subst hj'; exact hvl hj)) (by rw [hSS]; simp) (fun j hj => .inl (by rw [hSS]; simp [foot_some] at hj ⊢; simp [hj])) (fun j hj => .inr (hfo j hj)) hcw, ?_⟩
    obtain ⟨gs', cs', hv, _, _, hcell, _, _⟩ := hr.form (by omega)
    simp only [Value.slice.injEq, Option.some.injEq, Addr.mk.injEq] at hv
    obtain ⟨⟨rfl, _⟩, _, _⟩ := hv
    exact hcell _ _ (spotCells_at (s := ⟨s.gen, true, x⟩) (List.getElem?_set_self hk)).1
  have HFIN := Lib.hid hfin
  obtain ⟨n, hn⟩ : ∃ n, n = r.L.length := ⟨_, rfl⟩
  rw [← hn] at HB HFIN hk
  have HS2 : Hid (∃ cur, Blk w gl 79 cur ∧ k * 21 + 21 ≤ cur.size ∧ w.cell? ⟨gl, k * 21 + 1, none⟩ = some (.bool s.there)) := Lib.hid (by
    obtain ⟨cur, h1, h2, _⟩ := hS.cur
    obtain ⟨gl', cl', hv, _, _, _, _, _, a1, _, _⟩ := open_spot hS hs
    simp only [Value.slice.injEq, Option.some.injEq, Addr.mk.injEq] at hv
    obtain ⟨⟨rfl, _⟩, _, _⟩ := hv
    exact ⟨cur, h1, by omega, a1⟩)
  obtain ⟨q, hq⟩ : ∃ q, q = s.gen := ⟨_, rfl⟩
  obtain ⟨th, hth⟩ : ∃ th, th = s.there := ⟨_, rfl⟩
  rw [← hq] at HFIN ⊢
  rw [← hth] at HS2
  obtain ⟨R', hR'⟩ : ∃ R' : Rt, R' = ⟨r.L.set k ⟨q, true, x⟩, l⟩ := ⟨_, rfl⟩
  rw [← hR'] at HFIN ⊢
  obtain ⟨cur, hcur, hcz, ha1⟩ := HS2.out
  have hk0 : (0 : Int) ≤ (k : Int) := by omega
  have hk1 : (k : Int) < (n : Int) := by omega
  have hm9 : (0 : Int) ≤ (m : Int) := by omega
  have hmc : m ≤ cf := by omega
  have hmn : ¬ ((m : Int) < 0) := by omega
  unfold Gr.val at HM ⊢
  generalize x.arr = X at *
  have hfit : k * 21 + 2 + X.size ≤ cur.size := by omega
  have HCur := Lib.hid hcur
  clear hm h0 hB hS hF hSS hF0 hlen hfc hfz hcut hm0 hfin hn hq hth hR' hs Hs HS HS2 hff hfl hcur
  go_enter Try.func32, Try.ntmps32
  go_upto_region 1 with (fail)
  rw [← hWe]
  clear hWe
  go_wp2_with (first
    | ((with_reducible refine wpl_loadE T37 hb3 hXs ?_ ?_ ?_); (· rfl); (· exact ⟨_, rfl, rfl⟩))
    | (go_at_call 14; (refine (HM.out _).mono ?_); rintro e w1 ⟨rfl, hc1⟩; have hcw := hc.then hc1; have hp1 := HB.out.chg hcw (by simp); have z0 := hp1.cell 0; have z1 := hp1.cell 1; have zf := hp1.frozen 1; have zk := (hcw.cell (p := ⟨gf, m, none⟩) hgf (by simp)).trans hkc; have HC1 := Lib.hid hc1; have HCW := Lib.hid hcw; have HP1 := Lib.hid hp1; have hz1' := hcw.size; clear hc1 hcw hp1)
    | (at_builtin; refine wpList_append_copy _ rfl _ _ 81 (by rfl) 3 ni _ 1 8 Try.underlying81 hi0 hz0 hz1 hz2 rfl (.slice none 0 0) (by rfl) (Row.nil _ _ _) (.slice (some ⟨gf, 0, none⟩) m cf) m (numCells l) (by rfl) (HCUT.out.chg HCW.out (fun _ _ h => by cases h)) hone (by unfold maxLen; omega) (by omega) w1.heap.size rfl ?_; intro v' w2 hr2 hg2 hf2; obtain ⟨Av, cv, rfl, _⟩ := hr2.val; have hc2 : Chg [] w1 w2 := (Chg.refl [] w1).grown hg2 (fun k hk => by cases hk); have hp2 := HP1.out.chg hc2 (by simp); have z0 := hp2.cell 0; have z1 := hp2.cell 1; have zf := hp2.frozen 1; have HC2 := Lib.hid hc2; have HR2 := Lib.hid hr2; have HF2 := Lib.hid hf2; have HP2 := Lib.hid hp2; have hz2' := hc2.size; have hcurA := (HCur.out.chg HCW.out (by simp)).chg hc2 (by simp); have za := (HC2.out.cell (p := ⟨gl, k * 21 + 1, none⟩) (by simp; omega) (by simp)).trans ((HCW.out.cell (p := ⟨gl, k * 21 + 1, none⟩) hgl (by simp)).trans ha1); have zaf := hcurA.frozen (k * 21 + 1); have HCurA := Lib.hid hcurA; clear hc2 hr2 hf2 hp2 hcurA))
  have hvf : ∀ j ∈ foot (.slice Av m cv), w.heap.size ≤ j ∧ w1.heap.size ≤ j := fun j hj => by
    rcases HF2.out j hj with h9 | h9
    · cases h9
    · have := HC1.out.size; have := hc.size; subst h9; omega
  have hpv : p ∉ foot (.slice Av m cv) := fun hj => by have := hvf _ hj; omega
  have hc8 : Chg [p] w (w2.setCell ⟨p, 1, none⟩ (.slice Av m cv)) := ((HCW.out.then HC2.out).any).setCell (.inl (by simp)) _
  have hB8 : Blk (w2.setCell ⟨p, 1, none⟩ (.slice Av m cv)) p 83 #[.slice (some ⟨gl, 0, none⟩) n cl, .slice Av m cv] := HP2.out.set_ 1 _
  have hR8 := HR2.out.far (p := ⟨p, 1, none⟩) hpv (.slice Av m cv)
  have hcur8 := HCurA.out.far (p := ⟨p, 1, none⟩) (Ne.symm hpl) (.slice Av m cv)
  have hR8' : Row (w2.setCell ⟨p, 1, none⟩ (.slice Av m cv)) 3 1 (.slice Av m cv) l.length (numCells l) := by rw [← Hm0.out]; exact hR8
  have HF8 := Lib.hid (fun w9 hst => HFIN.out _ w9 cur _ hc8 hB8 hR8' (fun j hj => (hvf j hj).1) hcur8 hst)
  have hcw2 := HCW.out.then HC2.out
  have hx3 := (hb3.chg (HC1.out.then HC2.out) (by simp)).far (p := ⟨p, 1, none⟩) (show w.heap.size ≠ p by omega) (.slice Av m cv)
  have hx3' := (hx3.far (p := ⟨gl, k * 21 + 1, none⟩) (show w.heap.size ≠ gl by omega) (.bool true)).drew
  have hx4 := (hb4.chg (HC1.out.then HC2.out) (by simp)).far (p := ⟨p, 1, none⟩) (show w.heap.size + 1 ≠ p by omega) (.slice Av m cv)
  have hx4' := (hx4.far (p := ⟨gl, k * 21 + 1, none⟩) (show w.heap.size + 1 ≠ gl by omega) (.bool true)).drew
  have hB9 := (hB8.far (p := ⟨gl, k * 21 + 1, none⟩) (by simpa using hpl) (.bool true)).drew
  have e0 := hB9.cell 0
  have hcurB := (hcur8.set_ (k * 21 + 1) (.bool true)).drew
  have HX4 := Lib.hid hx4'
  have HCB := Lib.hid hcurB
  have hfit2 : k * 21 + 2 + X.size ≤ (cur.setIfInBounds (k * 21 + 1) (.bool true)).size := by simpa using hfit
  clear hcurB hB9 hx4 hx4' hR8 hR8' hcur8 hB8 hc8 hvf hpv z0 z1 zf za zaf zk hx3
  go_still_tail 8, (by kernel_rfl)
  (try change wpStill _ _ (World.drew _) _ _ _)
  still_step
  still_step
  refine wpStill_load T37 hXs (blk_cells hx3') rfl ⟨_, rfl, rfl⟩ ?_
  still_step
  still_step
  (try refine wpStill_nil ?_)
  (try change wpList _ _ _ _ _ (World.drew _))
  go_wp2_with (first
    | ((with_reducible refine wpl_store_atE T37 HCB.out hXs hfit2 hX1 ?_ ?_ ?_); (· rfl); (· exact ⟨_, _, rfl, rfl, rfl⟩); intro w9 hS9; obtain ⟨hDT, hgc⟩ := HF8.out w9 ⟨hS9.at_, hS9.other, hS9.size, hS9.os, hS9.tape, hS9.output⟩; have hx5 := hS9.far HX4.out (show w.heap.size + 1 ≠ gl by omega); have v0 := hx5.cell 0; have v1 := hx5.cell 1; have vf0 := hx5.frozen 0; have vf1 := hx5.frozen 1; have HDT := Lib.hid hDT; have HX5 := Lib.hid hx5; have hpp := hS9.far (HP2.out.set_ 1 (.slice Av m cv) |>.far (p := ⟨gl, k * 21 + 1, none⟩) (by simpa using hpl) (.bool true)).drew hpl; have e1 := hpp.cell 0; clear hDT hS9 hx5 hpp))
  refine bodyPost_ret (v := .tuple #[.agg #[.int .i64 (k : Nat), .int .u64 q], .int .i64 0]) (by simp [results, Try.results32, go_sem, v0, v1]) rfl ⟨rfl, ?_⟩
  obtain ⟨S', hD, hs', hcS⟩ := HDT.out
  have hn4 := hD.ty HX5.out (by decide) (by decide) (by decide)
  exact ⟨S', hD.same (fun j hj => Below.heap_setCell2 _ _ _ _ _ _ (fun e => hn4 (by rw [e]; exact hj))), hs', (hcS.setCell (p := ⟨w.heap.size + 1, 0, none⟩) (.inr (by simp)) _).setCell (p := ⟨w.heap.size + 1, 1, none⟩) (.inr (by simp)) _⟩
end Go.Proofs
end
section
namespace Go.Proofs
open Go.RowKit
set_option linter.unusedVariables false
set_option linter.unusedSimpArgs false

/-- A thing put at a place of the document's. -/
theorem DTurns.thing {p gl cl : Nat} {S : List Nat} {r : Rt} {s : Spot Gr} {w w1 w2 : World} {VF : Value} {cur : Array Value}
    (hB : Blk w p 83 #[.slice (some ⟨gl, 0, none⟩) r.L.length cl, VF]) (hS : Row w 79 21 (.slice (some ⟨gl, 0, none⟩) r.L.length cl) r.L.length (spotCells r.L)) (hF : Row w 3 1 VF r.F.length (numCells r.F))
    (hSS : S = p :: (foot (.slice (some ⟨gl, 0, none⟩) r.L.length cl) ++ foot VF)) {k : Nat} (hs : r.L[k]? = some s) (x : Gr) (hc : Chg [] w w1) (hcur : Blk w1 gl 79 cur) (hst : Stored w1 w2 gl 79 (splice_at cur (k * 21 + 2) x.arr)) :
    DTurns p S ⟨r.L.set k { s with thing := x }, r.F⟩ w w2 := by
  have hk := (List.getElem?_eq_some_iff.1 hs).1
  have hB1 := hB.chg hc (by simp)
  have hS1 := hS.chg hc (fun _ _ h => by cases h)
  have hF1 := hF.chg hc (fun _ _ h => by cases h)
  have hg : p ≠ gl := by have := hS.ty hB (by decide); simpa [foot_some] using this
  have hfg : gl ∉ foot VF := fun h => hS.ty2 hF (by decide) gl (by simp [foot_some]) h
  obtain ⟨cur', hb', hz', ht'⟩ := hS1.cur
  have : cur' = cur := by have := hb'.symm.trans hcur; simp at this; exact this
  subst this
  have hy := splice_spot (off := k * 21 + 2) (A := x.arr) ht' hs (cells_thing s x).1 (cells_thing s x).2 (by rw [Gr.len, Gr.size]) rfl
  have hr := hS1.stored hb' hst (by rw [Gr.size]; omega) hy (by rw [spotCells_len, List.length_set])
  refine DTurns.mk (VS := .slice (some ⟨gl, 0, none⟩) r.L.length cl) (VF := VF) (hst.far hB1 hg) (by simpa using hr) (hF1.chg hst.chg (fun k hk hk' => by simp at hk'; subst hk'; exact hfg hk)) (by rw [hSS]; simp) (fun k hk => .inl (by rw [hSS]; simp [hk])) (fun k hk => .inl (by rw [hSS]; simp [hk])) ?_
  exact (Chg.any hc).trans hst.chg (fun k hk => .inl (by simp at hk; subst hk; rw [hSS]; simp [foot_some]))
theorem ris_spot {r : Rt} {i q : Int} (h : r.is i q = true) : ∃ (k : Nat) (s : Spot Gr), i = (k : Nat) ∧ q = s.gen ∧ r.L[k]? = some s ∧ s.there = true := by
  unfold Rt.is at h
  cases ha : r.at_ i with
  | none => rw [ha] at h; cases h
  | some s =>
    rw [ha] at h
    simp only [Bool.and_eq_true] at h
    obtain ⟨k, rfl, hk⟩ := rat_some ha
    exact ⟨k, s, rfl, by have := h.2; simp at this; exact this.symm, hk, h.1⟩
def Rt.thg (r : Rt) (i : Int) : Gr := match r.at_ i with | some s => s.thing | none => Gr.zero
theorem thg_eq {r : Rt} {k : Nat} {s : Spot Gr} (hs : r.L[k]? = some s) : r.thg (k : Nat) = s.thing := by
  unfold Rt.thg Rt.at_
  rw [if_pos (by omega)]
  simp [hs]
def Rt.setE (r : Rt) (i q : Int) (x : Gr) : Int := if mayP x = false then 2 else if r.is i q = false then 11 else if (r.thg i).st = x.st then 0 else 5
def Rt.put (r : Rt) (i : Int) (x : Gr) : Rt := match r.at_ i with | some s => ⟨r.L.set i.toNat { s with thing := x }, r.F⟩ | none => r
theorem rput_eq {r : Rt} {k : Nat} {s : Spot Gr} (hs : r.L[k]? = some s) (x : Gr) : r.put (k : Nat) x = ⟨r.L.set k { s with thing := x }, r.F⟩ := by
  unfold Rt.put Rt.at_
  rw [if_pos (by omega)]
  simp [hs]
def Rt.setT (r : Rt) (i q : Int) (x : Gr) : Rt := if r.setE i q x = 0 then r.put i x else r
set_option maxRecDepth 100000 in
set_option maxHeartbeats 3200000 in
theorem rSet_any {w : World} {p : Nat} {S : List Nat} {r : Rt} (h : DAt w p S r) (hl : r.L.length ≤ 64) (i q : Int) (hi : inI i) (x : Gr) (h0 : 0 ≤ x.un) :
    Calls Try.prog 33 #[ptr p, .agg #[.int .i64 i, .int .u64 q], x.val] w fun e w' => e = .returned (.int .i64 (r.setE i q x)) ∧ DTurns p S (r.setT i q x) w w' := by
  have HM := Lib.hid (fun W => rMay_any x h0 W)
  have HI := Lib.hid (fun W (hc : Chg [] w W) => rIs_any (h.quiet hc) hl i q hi)
  have HSame := Lib.hid (fun W (hc : Chg [] w W) => DTurns.refl h hc)
  have hX0 := x.a0
  have hXs := x.size
  have hX1 := x.one
  obtain ⟨W, hWe⟩ : ∃ W, W = (w.alloc (.cells #[.int .i64 i, .int .u64 q] 33)).alloc (.cells x.arr 37) := ⟨_, rfl⟩
  have hc : Chg [] w W := by rw [hWe]; exact ((Chg.refl [] w).alloc _).alloc _
  have hb4 : Blk W w.heap.size 33 #[.int .i64 i, .int .u64 q] := by rw [hWe]; exact (Blk.new w 33 _).alloc _
  have hb5 : Blk W (w.heap.size + 1) 37 x.arr := by rw [hWe]; exact Blk.at' (w.alloc _) 37 _ (by simp)
  unfold Rt.setT
  cases hm : mayP x with
  | false =>
    have hE : r.setE i q x = 2 := by unfold Rt.setE; rw [if_pos hm]
    rw [hE, if_neg (by decide)]
    rw [hm] at HM
    unfold Gr.val at HM ⊢
    generalize x.arr = X at *
    clear hE hm hX0 HI h hi h0
    go_enter Try.func33, Try.ntmps33
    go_upto_region 1 with (fail)
    rw [← hWe]
    clear hWe
    go_wp2_with (first
      | ((with_reducible refine wpl_loadE T37 hb5 hXs ?_ ?_ ?_); (· rfl); (· exact ⟨_, rfl, rfl⟩))
      | (go_at_call 14; (refine (HM.out _).mono ?_); rintro e w1 ⟨rfl, hc1⟩))
    go_ret
    exact ⟨rfl, HSame.out _ (hc.then hc1)⟩
  | true =>
    rw [hm] at HM
    cases hq : r.is i q with
    | false =>
      have hE : r.setE i q x = 11 := by unfold Rt.setE; rw [if_neg (by simp [hm]), if_pos hq]
      rw [hE, if_neg (by decide)]
      rw [hq] at HI
      unfold Gr.val at HM ⊢
      generalize x.arr = X at *
      clear hE hm hq hX0 h hi h0
      go_enter Try.func33, Try.ntmps33
      go_upto_region 1 with (fail)
      rw [← hWe]
      clear hWe
      go_wp2_with (first
        | ((with_reducible refine wpl_loadE T37 hb5 hXs ?_ ?_ ?_); (· rfl); (· exact ⟨_, rfl, rfl⟩))
        | (go_at_call 14; (refine (HM.out _).mono ?_); rintro e w1 ⟨rfl, hc1⟩; have k0 := (hb4.chg hc1 (by simp)).cell 0; have k1 := (hb4.chg hc1 (by simp)).cell 1)
        | (go_at_call 16; (refine (HI.out _ (hc.then hc1)).mono ?_); rintro e w2 ⟨rfl, hc2⟩))
      go_ret
      exact ⟨rfl, HSame.out _ ((hc.then hc1).then hc2)⟩
    | true =>
      rw [hq] at HI
      obtain ⟨k, s, rfl, hqs, hs, hth⟩ := ris_spot hq
      obtain ⟨VL, VF, hB, hS, hF, hSS⟩ := h
      obtain ⟨gl, cl, rfl, hfl, hcl, hgl, hk, _, _, hax, _⟩ := open_spot hS hs
      have hA0 := s.thing.a0
      obtain ⟨cur, hcur, hcz, _⟩ := hS.cur
      have HT := Lib.hid (fun w1 w2 hc hcur hst => DTurns.thing (w1 := w1) (w2 := w2) (cur := cur) hB hS hF hSS hs x hc hcur hst)
      have HB := Lib.hid hB
      have hst0 : w.cell? ⟨gl, k * 21 + 2, none⟩ = some (.int .i64 s.thing.st) := hax 0 _ hA0
      obtain ⟨n, hn⟩ : ∃ n, n = r.L.length := ⟨_, rfl⟩
      rw [← hn] at HB hk
      have k0' : (0 : Int) ≤ (k : Int) := by omega
      have k1' : (k : Int) < (n : Int) := by omega
      by_cases hst : s.thing.st = x.st
      · have hE : r.setE (k : Nat) q x = 0 := by unfold Rt.setE; rw [if_neg (by simp [hm]), if_neg (by simp [hq]), thg_eq hs, if_pos hst]
        rw [hE, if_pos rfl, rput_eq hs]
        obtain ⟨R', hR'⟩ : ∃ R' : Rt, R' = ⟨r.L.set k { s with thing := x }, r.F⟩ := ⟨_, rfl⟩
        rw [← hR'] at HT ⊢
        rw [hst] at hst0
        have hfit : k * 21 + 2 + x.arr.size ≤ cur.size := by rw [hXs]; omega
        have HCur := Lib.hid hcur
        unfold Gr.val at HM ⊢
        generalize x.arr = X at *
        generalize x.st = st at *
        clear hE hm hq hi h0 hqs hs hth hB hS hF hSS hfl hcl hax hA0 hcz hn hR' hst hl hcur
        go_enter Try.func33, Try.ntmps33
        go_upto_region 1 with (fail)
        rw [← hWe]
        clear hWe
        go_wp2_with (first
          | ((with_reducible refine wpl_loadE T37 hb5 hXs ?_ ?_ ?_); (· rfl); (· exact ⟨_, rfl, rfl⟩))
          | (go_at_call 14; (refine (HM.out _).mono ?_); rintro e w1 ⟨rfl, hc1⟩; have k0 := (hb4.chg hc1 (by simp)).cell 0; have k1 := (hb4.chg hc1 (by simp)).cell 1)
          | (go_at_call 16; (refine (HI.out _ (hc.then hc1)).mono ?_); rintro e w2 ⟨rfl, hc2⟩; have hcw := (hc.then hc1).then hc2; have hcx := hc1.then hc2; have HCW := Lib.hid hcw; have HCX := Lib.hid hcx; have z0 := (HB.out.chg hcw (by simp)).cell 0; have z4 := (hb4.chg hcx (by simp)).cell 0; have z5 := ((hb5.chg hcx (by simp)).cell 0).trans hX0; have zs := (hcw.cell (p := ⟨gl, k * 21 + 2, none⟩) hgl (by simp)).trans hst0; clear hcw hcx hc2 k0 k1))
        go_quiet (fail)
        go_wp2
        have hcw := (HCW.out.drewN nq).drew
        have z0' := (HB.out.chg hcw (by simp)).cell 0
        have hbb4 := ((hb4.chg HCX.out (by simp)).drewN nq).drew
        have hbb5 := ((hb5.chg HCX.out (by simp)).drewN nq).drew
        have z4' := hbb4.cell 0
        have hcB := HCur.out.chg hcw (by simp)
        go_still_tail 9, (by kernel_rfl)
        (try change wpStill _ _ (World.drew _) _ _ _)
        still_step
        still_step
        still_step
        refine wpStill_load T37 hXs (blk_cells hbb5) rfl ⟨_, rfl, rfl⟩ ?_
        still_step
        still_step
        (try refine wpStill_nil ?_)
        (try change wpList _ _ _ _ _ (World.drew _))
        go_wp2_with ((with_reducible refine wpl_store_atE T37 hcB hXs hfit hX1 ?_ ?_ ?_); (· rfl); (· exact ⟨_, _, rfl, rfl, rfl⟩); intro w9 hS9; have HS9 := Lib.hid hS9; clear hS9)
        go_ret
        exact ⟨rfl, HT.out _ _ hcw hcB HS9.out⟩
      · have hE : r.setE (k : Nat) q x = 5 := by unfold Rt.setE; rw [if_neg (by simp [hm]), if_neg (by simp [hq]), thg_eq hs, if_neg hst]
        rw [hE, if_neg (by decide)]
        have hne : (s.thing.st != x.st) = true := by simpa using hst
        have hne2 : (s.thing.st == x.st) = false := by simpa using hst
        unfold Gr.val at HM ⊢
        generalize x.arr = X at *
        generalize x.st = st at *
        generalize s.thing.st = st2 at *
        clear hE hm hq hi h0 hqs hs hth hB hS hF hSS hfl hcl hax hA0 hcz hn hst hl hcur HT
        go_enter Try.func33, Try.ntmps33
        go_upto_region 1 with (fail)
        rw [← hWe]
        clear hWe
        go_wp2_with (first
          | ((with_reducible refine wpl_loadE T37 hb5 hXs ?_ ?_ ?_); (· rfl); (· exact ⟨_, rfl, rfl⟩))
          | (go_at_call 14; (refine (HM.out _).mono ?_); rintro e w1 ⟨rfl, hc1⟩; have k0 := (hb4.chg hc1 (by simp)).cell 0; have k1 := (hb4.chg hc1 (by simp)).cell 1)
          | (go_at_call 16; (refine (HI.out _ (hc.then hc1)).mono ?_); rintro e w2 ⟨rfl, hc2⟩; have hcw := (hc.then hc1).then hc2; have hcx := hc1.then hc2; have HCW := Lib.hid hcw; have HCX := Lib.hid hcx; have z0 := (HB.out.chg hcw (by simp)).cell 0; have z4 := (hb4.chg hcx (by simp)).cell 0; have z5 := ((hb5.chg hcx (by simp)).cell 0).trans hX0; have zs := (hcw.cell (p := ⟨gl, k * 21 + 2, none⟩) hgl (by simp)).trans hst0; clear hcw hcx hc2 k0 k1))
        go_quiet (fail)
        go_wp2
        go_ret
        exact ⟨rfl, HSame.out _ (HCW.out.drewN nq)⟩
end Go.Proofs
end
section
namespace Go.Proofs
open Go.RowKit
set_option linter.unusedVariables false
set_option linter.unusedSimpArgs false

def Rt.turnE (r : Rt) (i q : Int) (to : Int) : Int := if r.is i q = false then 11 else if turnsP (r.thg i).st to = true then 0 else 5
def Rt.turnT (r : Rt) (i q : Int) (to : Int) : Rt := if r.turnE i q to = 0 then r.put i ((r.thg i).turn to) else r
theorem rturn_12 (g : Gr) (to : Int) (h : to = 1 ∨ to = 2) : ((g.arr.setIfInBounds 0 (.int .i64 to)).setIfInBounds 18 (.int .u64 0)).setIfInBounds 1 (.bool false) = (g.turn to).arr := by
  have : flagP to g.su = false := by unfold flagP; rw [if_neg (by omega), if_pos h]
  unfold Gr.turn; rw [this]; rfl
theorem rturn_5 (g : Gr) : ((g.arr.setIfInBounds 0 (.int .i64 5)).setIfInBounds 18 (.int .u64 0)).setIfInBounds 1 (.bool true) = (g.turn 5).arr := rfl
theorem rturn_o (g : Gr) (to : Int) (h : ¬ (to = 1 ∨ to = 2)) (h5 : to ≠ 5) : (g.arr.setIfInBounds 0 (.int .i64 to)).setIfInBounds 18 (.int .u64 0) = (g.turn to).arr := by
  have : flagP to g.su = g.su := by unfold flagP; rw [if_neg h5, if_neg h]
  unfold Gr.turn; rw [this]; rfl
set_option maxRecDepth 100000 in
set_option maxHeartbeats 6400000 in
theorem rTurn_any {w : World} {p : Nat} {S : List Nat} {r : Rt} (h : DAt w p S r) (hl : r.L.length ≤ 64) (i q : Int) (hi : inI i) (to : Int) :
    Calls Try.prog 34 #[ptr p, .agg #[.int .i64 i, .int .u64 q], .int .i64 to] w fun e w' => e = .returned (.int .i64 (r.turnE i q to)) ∧ DTurns p S (r.turnT i q to) w w' := by
  have HI := Lib.hid (fun W (hc : Chg [] w W) => rIs_any (h.quiet hc) hl i q hi)
  have HSame := Lib.hid (fun W (hc : Chg [] w W) => DTurns.refl h hc)
  have hb4 := Blk.new w 33 #[.int .i64 i, .int .u64 q]
  have hc : Chg [] w (w.alloc (.cells #[.int .i64 i, .int .u64 q] 33)) := (Chg.refl [] w).alloc _
  unfold Rt.turnT
  cases hq : r.is i q with
  | false =>
    have hE : r.turnE i q to = 11 := by unfold Rt.turnE; rw [if_pos hq]
    rw [hE, if_neg (by decide)]
    rw [hq] at HI
    clear hE hq h hi
    go_enter Try.func34, Try.ntmps34
    go_wp2_with (go_at_call 16; (refine (HI.out _ hc).mono ?_); rintro e w2 ⟨rfl, hc2⟩)
    go_ret
    exact ⟨rfl, HSame.out _ (hc.then hc2)⟩
  | true =>
    rw [hq] at HI
    obtain ⟨k, s, rfl, hqs, hs, hth⟩ := ris_spot hq
    obtain ⟨VL, VF, hB, hS, hF, hSS⟩ := h
    obtain ⟨gl, cl, rfl, hfl, hcl, hgl, hk, _, _, hax, _⟩ := open_spot hS hs
    obtain ⟨cur, hcur, hcz, _⟩ := hS.cur
    have HT := Lib.hid (fun w1 w2 hc hcur hst => DTurns.thing (w1 := w1) (w2 := w2) (cur := cur) hB hS hF hSS hs (s.thing.turn to) hc hcur hst)
    have HTN := Lib.hid (fun W => rTurns_any s.thing.st to W)
    have hA0 := s.thing.a0
    have hA18 := s.thing.a18
    have hAb := s.thing.a1
    have hAs := s.thing.size
    have hA1 := s.thing.one
    have lp := hB.lt
    have hpl : p ≠ gl := by have := hS.ty hB (by decide); simpa [foot_some] using this
    obtain ⟨n, hn⟩ : ∃ n, n = r.L.length := ⟨_, rfl⟩
    rw [← hn] at hB hk
    have HB := Lib.hid hB
    have k0' : (0 : Int) ≤ (k : Int) := by omega
    have k1' : (k : Int) < (n : Int) := by omega
    cases htp : turnsP s.thing.st to with
    | false =>
      have hE : r.turnE (k : Nat) q to = 5 := by unfold Rt.turnE; rw [if_neg (by simp [hq]), thg_eq hs, if_neg (by simp [htp])]
      rw [hE, if_neg (by decide)]
      rw [htp] at HTN
      generalize s.thing.arr = A at *
      generalize s.thing.st = st at *
      clear hE hq hi hqs hs hth hB hS hF hSS hfl hcl hcz hn hl htp HT hcur
      go_enter Try.func34, Try.ntmps34
      go_wp2_with (go_at_call 16; (refine (HI.out _ hc).mono ?_); rintro e w1 ⟨rfl, hc1⟩)
      have hcw := hc.then hc1
      have hp3 := (HB.out.chg hcw (by simp)).drew
      have hb43 := (hb4.chg hc1 (by simp)).drew
      have hax3 : ∀ j v, A[j]? = some v → w1.drew.cell? ⟨gl, k * 21 + 2 + j, none⟩ = some v := fun j v hv => (hcw.cell (p := ⟨gl, k * 21 + 2 + j, none⟩) hgl (by simp)).trans (hax j v hv)
      have hz1 := hcw.size
      have hz2 := hc1.size
      simp only [World.size_alloc] at hz2
      refine wp_region_held_drew (S := fun w' => Blk w' p 83 #[.slice (some ⟨gl, 0, none⟩) n cl, VF] ∧ Blk w' w.heap.size 33 #[.int .i64 (k : Nat), .int .u64 q] ∧ (∀ j v, A[j]? = some v → w'.cell? ⟨gl, k * 21 + 2 + j, none⟩ = some v)) (by kernel_rfl) ⟨hp3, hb43, hax3⟩ (fun hHeld => ?_)
      simp only [List.setIfInBounds_toArray, List.size_toArray, List.length_cons, List.length_nil, Array.replicate]
      refine wpAnyH_take (i := 0) (v := ?_) rfl (by kernel_rfl) (by kernel_rfl) (by kernel_rfl) (fun _ _ _ h => h) (Or.inl ⟨by rfl, ?_⟩) hHeld ?_
      rotate_left
      · (intro w' hSw; go_simp; try with_reducible rfl)
      simp only [Act.put, List.getElem_toArray, List.getElem_cons_succ, List.getElem_cons_zero, List.setIfInBounds_toArray, List.set_cons_zero, List.set_cons_succ]
      refine wpAnyH_take (i := 1) (v := ?_) rfl (by kernel_rfl) (by kernel_rfl) (by kernel_rfl) (fun _ _ _ h => h) (Or.inl ⟨by rfl, ?_⟩) hHeld ?_
      rotate_left
      · (intro w' hSw; go_simp; try with_reducible rfl)
      simp only [Act.put, List.getElem_toArray, List.getElem_cons_succ, List.getElem_cons_zero, List.setIfInBounds_toArray, List.set_cons_zero, List.set_cons_succ]
      refine wpAnyH_take (i := 2) (v := ?_) rfl (by kernel_rfl) (by kernel_rfl) (by kernel_rfl) (fun _ _ _ h => h) (Or.inl ⟨by rfl, ?_⟩) hHeld ?_
      rotate_left
      · (intro w' hSw; go_simp; try with_reducible rfl)
      simp only [Act.put, List.getElem_toArray, List.getElem_cons_succ, List.getElem_cons_zero, List.setIfInBounds_toArray, List.set_cons_zero, List.set_cons_succ]
      refine wpAnyH_take (i := 3) (v := ?_) rfl (by kernel_rfl) (by kernel_rfl) (by kernel_rfl) (fun _ _ _ h => h) (Or.inl ⟨by rfl, ?_⟩) hHeld ?_
      rotate_left
      · (intro w' hSw; obtain ⟨s0, s1, s2⟩ := hSw; have q0 := s0.cell 0; have q1 := s1.cell 0; simp only [List.getElem?_toArray, List.getElem?_cons_zero, List.getElem?_cons_succ] at q0 q1; go_simp; try with_reducible rfl)
      simp only [Act.put, List.getElem_toArray, List.getElem_cons_succ, List.getElem_cons_zero, List.setIfInBounds_toArray, List.set_cons_zero, List.set_cons_succ]
      refine wpAnyH_take (i := 4) (v := ?_) rfl (by kernel_rfl) (by kernel_rfl) (by kernel_rfl) (fun _ _ _ h => h) (Or.inl ⟨by rfl, ?_⟩) hHeld ?_
      rotate_left
      · (intro w' hSw; go_simp; try with_reducible rfl)
      simp only [Act.put, List.getElem_toArray, List.getElem_cons_succ, List.getElem_cons_zero, List.setIfInBounds_toArray, List.set_cons_zero, List.set_cons_succ]
      refine wpAnyH_take (i := 5) (v := ?_) rfl (by kernel_rfl) (by kernel_rfl) (by kernel_rfl) (fun _ _ _ h => h) (Or.inl ⟨by rfl, ?_⟩) hHeld ?_
      rotate_left
      · (intro w' hSw; obtain ⟨s0, s1, s2⟩ := hSw; have q0 := s0.cell 0; have q1 := s1.cell 0; simp only [List.getElem?_toArray, List.getElem?_cons_zero, List.getElem?_cons_succ] at q0 q1; go_simp; try with_reducible rfl)
      simp only [Act.put, List.getElem_toArray, List.getElem_cons_succ, List.getElem_cons_zero, List.setIfInBounds_toArray, List.set_cons_zero, List.set_cons_succ]
      refine wpAnyH_take (i := 6) (v := ?_) rfl (by kernel_rfl) (by kernel_rfl) (by kernel_rfl) (fun _ _ _ h => h) (Or.inl ⟨by rfl, ?_⟩) hHeld ?_
      rotate_left
      · (intro w' hSw; go_simp; try with_reducible rfl)
      simp only [Act.put, List.getElem_toArray, List.getElem_cons_succ, List.getElem_cons_zero, List.setIfInBounds_toArray, List.set_cons_zero, List.set_cons_succ]
      refine wpAnyH_take (i := 7) (v := ?_) rfl (by kernel_rfl) (by kernel_rfl) (by kernel_rfl) (fun _ _ _ h => h) (Or.inl ⟨by rfl, ?_⟩) hHeld ?_
      rotate_left
      · (intro w' hSw; go_simp; try with_reducible rfl)
      simp only [Act.put, List.getElem_toArray, List.getElem_cons_succ, List.getElem_cons_zero, List.setIfInBounds_toArray, List.set_cons_zero, List.set_cons_succ]
      refine wpAnyH_take (i := 8) (v := .agg A) rfl (by kernel_rfl) (by kernel_rfl) (by kernel_rfl) (fun _ _ _ h => h) (Or.inl ⟨by rfl, fun w' hSw => sk_run_load T37 hAs hSw.2.2 _ (by rfl) (by rfl)⟩) hHeld ?_
      simp only [Act.put, List.getElem_toArray, List.getElem_cons_succ, List.getElem_cons_zero, List.setIfInBounds_toArray, List.set_cons_zero, List.set_cons_succ]
      refine wpAnyH_ready (rs := [9]) (by kernel_rfl) (by simp) ?_
      refine AllReadyH.cons rfl (fun K hK => ?_) AllReadyH.nil
      go_simp
      refine hK _ _ ⟨hHeld.1.alloc _, hHeld.2.1.alloc _, fun j v hv => (World.cell?_alloc_lt _ _ _ (show gl < w1.drew.heap.size by simp; omega)).trans (hHeld.2.2 j v hv)⟩ (fun hHeld => ?_)
      clear hK K
      simp only [Act.put, List.getElem_toArray, List.getElem_cons_succ, List.getElem_cons_zero, List.setIfInBounds_toArray, List.set_cons_zero, List.set_cons_succ]
      refine wpAnyH_ready (rs := [10]) (by kernel_rfl) (by simp) ?_
      refine AllReadyH.cons rfl (fun K hK => ?_) AllReadyH.nil
      refine sk_step_store (off := 0) T37 (Blk.new w1.drew 37 zG) hAs (by rw [hAs]; decide) hA1 (by rfl) _ _ (by rfl) (by rfl) (by rfl) ?_
      intro w3 hS3
      rw [splice_all zG A (by rw [hAs]; rfl)] at hS3
      have hc3 : Chg [] w1 w3 := (((Chg.refl [] w1).drew.alloc _).trans hS3.chg (fun j hj => by simp at hj; omega))
      refine hK _ _ ⟨hS3.far hHeld.1 (by simp; omega), hS3.far hHeld.2.1 (by simp; omega), fun j v hv => (hS3.chg.cell (p := ⟨gl, k * 21 + 2 + j, none⟩) (show gl < _ by simp; omega) (by simp; omega)).trans (hHeld.2.2 j v hv)⟩ (fun hHeld => ?_)
      clear hK K
      simp only [Act.put, List.getElem_toArray, List.getElem_cons_succ, List.getElem_cons_zero, List.setIfInBounds_toArray, List.set_cons_zero, List.set_cons_succ]
      refine wpAnyH_done (by kernel_rfl) ?_ _
      have z0 : w3.cell? ⟨w1.heap.size, 0, none⟩ = some (.int .i64 st) := (hS3.blk.cell 0).trans hA0
      clear hHeld
      go_wp2_with (go_at_call 55; (refine (HTN.out _).mono ?_); rintro e w4 ⟨rfl, rfl⟩)
      go_ret
      exact ⟨rfl, HSame.out _ (hcw.then hc3)⟩
    | true =>
      have hE : r.turnE (k : Nat) q to = 0 := by unfold Rt.turnE; rw [if_neg (by simp [hq]), thg_eq hs, if_pos htp]
      rw [hE, if_pos rfl, thg_eq hs, rput_eq hs]
      obtain ⟨R', hR'⟩ : ∃ R' : Rt, R' = ⟨r.L.set k { s with thing := s.thing.turn to }, r.F⟩ := ⟨_, rfl⟩
      rw [← hR'] at HT ⊢
      rw [htp] at HTN
      have hXs := (s.thing.turn to).size
      have hX1 := (s.thing.turn to).one
      have t12 := rturn_12 s.thing to
      have t5 : to = 5 → ((s.thing.arr.setIfInBounds 0 (.int .i64 to)).setIfInBounds 18 (.int .u64 0)).setIfInBounds 1 (.bool true) = (s.thing.turn to).arr := fun e => by subst e; exact rturn_5 s.thing
      have to' := rturn_o s.thing to
      have hfit : k * 21 + 2 + (s.thing.turn to).arr.size ≤ cur.size := by rw [hXs]; omega
      have HCur := Lib.hid hcur
      generalize (s.thing.turn to).arr = X at *
      generalize s.thing.arr = A at *
      generalize s.thing.st = st at *
      generalize s.thing.su = su at *
      generalize s.thing.un = un at *
      clear hE hq hi hqs hs hth hB hS hF hSS hfl hcl hcz hn hl htp hR' hcur
      go_enter Try.func34, Try.ntmps34
      go_wp2_with (go_at_call 16; (refine (HI.out _ hc).mono ?_); rintro e w1 ⟨rfl, hc1⟩)
      have hcw := hc.then hc1
      have hp3 := (HB.out.chg hcw (by simp)).drew
      have hb43 := (hb4.chg hc1 (by simp)).drew
      have hax3 : ∀ j v, A[j]? = some v → w1.drew.cell? ⟨gl, k * 21 + 2 + j, none⟩ = some v := fun j v hv => (hcw.cell (p := ⟨gl, k * 21 + 2 + j, none⟩) hgl (by simp)).trans (hax j v hv)
      have hz1 := hcw.size
      have hz2 := hc1.size
      simp only [World.size_alloc] at hz2
      refine wp_region_held_drew (S := fun w' => Blk w' p 83 #[.slice (some ⟨gl, 0, none⟩) n cl, VF] ∧ Blk w' w.heap.size 33 #[.int .i64 (k : Nat), .int .u64 q] ∧ (∀ j v, A[j]? = some v → w'.cell? ⟨gl, k * 21 + 2 + j, none⟩ = some v)) (by kernel_rfl) ⟨hp3, hb43, hax3⟩ (fun hHeld => ?_)
      simp only [List.setIfInBounds_toArray, List.size_toArray, List.length_cons, List.length_nil, Array.replicate]
      refine wpAnyH_take (i := 0) (v := ?_) rfl (by kernel_rfl) (by kernel_rfl) (by kernel_rfl) (fun _ _ _ h => h) (Or.inl ⟨by rfl, ?_⟩) hHeld ?_
      rotate_left
      · (intro w' hSw; go_simp; try with_reducible rfl)
      simp only [Act.put, List.getElem_toArray, List.getElem_cons_succ, List.getElem_cons_zero, List.setIfInBounds_toArray, List.set_cons_zero, List.set_cons_succ]
      refine wpAnyH_take (i := 1) (v := ?_) rfl (by kernel_rfl) (by kernel_rfl) (by kernel_rfl) (fun _ _ _ h => h) (Or.inl ⟨by rfl, ?_⟩) hHeld ?_
      rotate_left
      · (intro w' hSw; go_simp; try with_reducible rfl)
      simp only [Act.put, List.getElem_toArray, List.getElem_cons_succ, List.getElem_cons_zero, List.setIfInBounds_toArray, List.set_cons_zero, List.set_cons_succ]
      refine wpAnyH_take (i := 2) (v := ?_) rfl (by kernel_rfl) (by kernel_rfl) (by kernel_rfl) (fun _ _ _ h => h) (Or.inl ⟨by rfl, ?_⟩) hHeld ?_
      rotate_left
      · (intro w' hSw; go_simp; try with_reducible rfl)
      simp only [Act.put, List.getElem_toArray, List.getElem_cons_succ, List.getElem_cons_zero, List.setIfInBounds_toArray, List.set_cons_zero, List.set_cons_succ]
      refine wpAnyH_take (i := 3) (v := ?_) rfl (by kernel_rfl) (by kernel_rfl) (by kernel_rfl) (fun _ _ _ h => h) (Or.inl ⟨by rfl, ?_⟩) hHeld ?_
      rotate_left
      · (intro w' hSw; obtain ⟨s0, s1, s2⟩ := hSw; have q0 := s0.cell 0; have q1 := s1.cell 0; simp only [List.getElem?_toArray, List.getElem?_cons_zero, List.getElem?_cons_succ] at q0 q1; go_simp; try with_reducible rfl)
      simp only [Act.put, List.getElem_toArray, List.getElem_cons_succ, List.getElem_cons_zero, List.setIfInBounds_toArray, List.set_cons_zero, List.set_cons_succ]
      refine wpAnyH_take (i := 4) (v := ?_) rfl (by kernel_rfl) (by kernel_rfl) (by kernel_rfl) (fun _ _ _ h => h) (Or.inl ⟨by rfl, ?_⟩) hHeld ?_
      rotate_left
      · (intro w' hSw; go_simp; try with_reducible rfl)
      simp only [Act.put, List.getElem_toArray, List.getElem_cons_succ, List.getElem_cons_zero, List.setIfInBounds_toArray, List.set_cons_zero, List.set_cons_succ]
      refine wpAnyH_take (i := 5) (v := ?_) rfl (by kernel_rfl) (by kernel_rfl) (by kernel_rfl) (fun _ _ _ h => h) (Or.inl ⟨by rfl, ?_⟩) hHeld ?_
      rotate_left
      · (intro w' hSw; obtain ⟨s0, s1, s2⟩ := hSw; have q0 := s0.cell 0; have q1 := s1.cell 0; simp only [List.getElem?_toArray, List.getElem?_cons_zero, List.getElem?_cons_succ] at q0 q1; go_simp; try with_reducible rfl)
      simp only [Act.put, List.getElem_toArray, List.getElem_cons_succ, List.getElem_cons_zero, List.setIfInBounds_toArray, List.set_cons_zero, List.set_cons_succ]
      refine wpAnyH_take (i := 6) (v := ?_) rfl (by kernel_rfl) (by kernel_rfl) (by kernel_rfl) (fun _ _ _ h => h) (Or.inl ⟨by rfl, ?_⟩) hHeld ?_
      rotate_left
      · (intro w' hSw; go_simp; try with_reducible rfl)
      simp only [Act.put, List.getElem_toArray, List.getElem_cons_succ, List.getElem_cons_zero, List.setIfInBounds_toArray, List.set_cons_zero, List.set_cons_succ]
      refine wpAnyH_take (i := 7) (v := ?_) rfl (by kernel_rfl) (by kernel_rfl) (by kernel_rfl) (fun _ _ _ h => h) (Or.inl ⟨by rfl, ?_⟩) hHeld ?_
      rotate_left
      · (intro w' hSw; go_simp; try with_reducible rfl)
      simp only [Act.put, List.getElem_toArray, List.getElem_cons_succ, List.getElem_cons_zero, List.setIfInBounds_toArray, List.set_cons_zero, List.set_cons_succ]
      refine wpAnyH_take (i := 8) (v := .agg A) rfl (by kernel_rfl) (by kernel_rfl) (by kernel_rfl) (fun _ _ _ h => h) (Or.inl ⟨by rfl, fun w' hSw => sk_run_load T37 hAs hSw.2.2 _ (by rfl) (by rfl)⟩) hHeld ?_
      simp only [Act.put, List.getElem_toArray, List.getElem_cons_succ, List.getElem_cons_zero, List.setIfInBounds_toArray, List.set_cons_zero, List.set_cons_succ]
      refine wpAnyH_ready (rs := [9]) (by kernel_rfl) (by simp) ?_
      refine AllReadyH.cons rfl (fun K hK => ?_) AllReadyH.nil
      go_simp
      refine hK _ _ ⟨hHeld.1.alloc _, hHeld.2.1.alloc _, fun j v hv => (World.cell?_alloc_lt _ _ _ (show gl < w1.drew.heap.size by simp; omega)).trans (hHeld.2.2 j v hv)⟩ (fun hHeld => ?_)
      clear hK K
      simp only [Act.put, List.getElem_toArray, List.getElem_cons_succ, List.getElem_cons_zero, List.setIfInBounds_toArray, List.set_cons_zero, List.set_cons_succ]
      refine wpAnyH_ready (rs := [10]) (by kernel_rfl) (by simp) ?_
      refine AllReadyH.cons rfl (fun K hK => ?_) AllReadyH.nil
      refine sk_step_store (off := 0) T37 (Blk.new w1.drew 37 zG) hAs (by rw [hAs]; decide) hA1 (by rfl) _ _ (by rfl) (by rfl) (by rfl) ?_
      intro w3 hS3
      rw [splice_all zG A (by rw [hAs]; rfl)] at hS3
      have hc3 : Chg [] w1 w3 := (((Chg.refl [] w1).drew.alloc _).trans hS3.chg (fun j hj => by simp at hj; omega))
      refine hK _ _ ⟨hS3.far hHeld.1 (by simp; omega), hS3.far hHeld.2.1 (by simp; omega), fun j v hv => (hS3.chg.cell (p := ⟨gl, k * 21 + 2 + j, none⟩) (show gl < _ by simp; omega) (by simp; omega)).trans (hHeld.2.2 j v hv)⟩ (fun hHeld => ?_)
      clear hK K
      simp only [Act.put, List.getElem_toArray, List.getElem_cons_succ, List.getElem_cons_zero, List.setIfInBounds_toArray, List.set_cons_zero, List.set_cons_succ]
      refine wpAnyH_done (by kernel_rfl) ?_ _
      have hb7 : Blk w3 w1.heap.size 37 A := hS3.blk
      have hb4w := hHeld.2.1
      have hcw3 := hcw.then hc3
      have hle : w.heap.size ≤ w1.heap.size := hz1
      have hne : w.heap.size ≠ w1.heap.size := by omega
      have y0 := (hb7.cell 0).trans hA0
      have y1 := (hb7.cell 1).trans hAb
      have y18 := (hb7.cell 18).trans hA18
      have f0 := hb7.frozen 0
      have f1 := hb7.frozen 1
      have f18 := hb7.frozen 18
      have HB7 := Lib.hid hb7
      have HB4 := Lib.hid hb4w
      have HCW3 := Lib.hid hcw3
      clear hHeld hS3 hb7 hb4w hcw3 hp3 hb43 hax3 hax hcw hc3
      by_cases h1 : to = 1
      · have hTC := t12 (.inl h1)
        clear t12 t5 to'
        subst h1
        go_wp2_with (go_at_call 55; (refine (HTN.out _).mono ?_); rintro e w4 ⟨rfl, rfl⟩)
        have hcB := (((HCW3.out.setCell (p := ⟨w1.heap.size, 0, none⟩) (.inr hle) (.int .i64 1)).setCell (p := ⟨w1.heap.size, 18, none⟩) (.inr hle) (.int .u64 0)).setCell (p := ⟨w1.heap.size, 1, none⟩) (.inr hle) (.bool false))
        have hb8 := (((HB7.out.set_ 0 (.int .i64 1)).set_ 18 (.int .u64 0)).set_ 1 (.bool false))
        have hb9 := (((HB4.out.far (p := ⟨w1.heap.size, 0, none⟩) hne (.int .i64 1)).far (p := ⟨w1.heap.size, 18, none⟩) hne (.int .u64 0)).far (p := ⟨w1.heap.size, 1, none⟩) hne (.bool false))
        rw [hTC] at hb8
        have k0 := hb9.cell 0
        have k2 := (HB.out.chg hcB (by simp)).cell 0
        have hcC := HCur.out.chg hcB.drew (by simp)
        have HB8 := Lib.hid hb8
        have HCB := Lib.hid hcB
        have HCC := Lib.hid hcC
        clear hb8 hcB hb9 hcC y0 y1 y18 f0 f1 f18 hTC
        generalize World.setCell _ _ _ = W9 at *
        go_still_tail 9, (by kernel_rfl)
        (try change wpStill _ _ (World.drew _) _ _ _)
        refine wpStill_load T37 hXs (blk_cells HB8.out.drew) rfl ⟨_, rfl, rfl⟩ ?_
        still_step
        still_step
        (try refine wpStill_nil ?_)
        (try change wpList _ _ _ _ _ (World.drew _))
        go_wp2_with ((with_reducible refine wpl_store_atE T37 HCC.out hXs hfit hX1 ?_ ?_ ?_); (· rfl); (· exact ⟨_, _, rfl, rfl, rfl⟩); intro w9 hS9; have HS9 := Lib.hid hS9; clear hS9)
        go_ret
        exact ⟨rfl, HT.out _ _ HCB.out.drew HCC.out HS9.out⟩
      by_cases h2 : to = 2
      · have hTC := t12 (.inr h2)
        clear t12 t5 to' h1
        subst h2
        go_wp2_with (go_at_call 55; (refine (HTN.out _).mono ?_); rintro e w4 ⟨rfl, rfl⟩)
        have hcB := (((HCW3.out.setCell (p := ⟨w1.heap.size, 0, none⟩) (.inr hle) (.int .i64 2)).setCell (p := ⟨w1.heap.size, 18, none⟩) (.inr hle) (.int .u64 0)).setCell (p := ⟨w1.heap.size, 1, none⟩) (.inr hle) (.bool false))
        have hb8 := (((HB7.out.set_ 0 (.int .i64 2)).set_ 18 (.int .u64 0)).set_ 1 (.bool false))
        have hb9 := (((HB4.out.far (p := ⟨w1.heap.size, 0, none⟩) hne (.int .i64 2)).far (p := ⟨w1.heap.size, 18, none⟩) hne (.int .u64 0)).far (p := ⟨w1.heap.size, 1, none⟩) hne (.bool false))
        rw [hTC] at hb8
        have k0 := hb9.cell 0
        have k2 := (HB.out.chg hcB (by simp)).cell 0
        have hcC := HCur.out.chg hcB.drew (by simp)
        have HB8 := Lib.hid hb8
        have HCB := Lib.hid hcB
        have HCC := Lib.hid hcC
        clear hb8 hcB hb9 hcC y0 y1 y18 f0 f1 f18 hTC
        generalize World.setCell _ _ _ = W9 at *
        go_still_tail 9, (by kernel_rfl)
        (try change wpStill _ _ (World.drew _) _ _ _)
        refine wpStill_load T37 hXs (blk_cells HB8.out.drew) rfl ⟨_, rfl, rfl⟩ ?_
        still_step
        still_step
        (try refine wpStill_nil ?_)
        (try change wpList _ _ _ _ _ (World.drew _))
        go_wp2_with ((with_reducible refine wpl_store_atE T37 HCC.out hXs hfit hX1 ?_ ?_ ?_); (· rfl); (· exact ⟨_, _, rfl, rfl, rfl⟩); intro w9 hS9; have HS9 := Lib.hid hS9; clear hS9)
        go_ret
        exact ⟨rfl, HT.out _ _ HCB.out.drew HCC.out HS9.out⟩
      by_cases h5 : to = 5
      · have hTC := t5 h5
        clear t12 t5 to' h1 h2
        subst h5
        go_wp2_with (go_at_call 55; (refine (HTN.out _).mono ?_); rintro e w4 ⟨rfl, rfl⟩)
        have hcB := (((HCW3.out.setCell (p := ⟨w1.heap.size, 0, none⟩) (.inr hle) (.int .i64 5)).setCell (p := ⟨w1.heap.size, 18, none⟩) (.inr hle) (.int .u64 0)).setCell (p := ⟨w1.heap.size, 1, none⟩) (.inr hle) (.bool true))
        have hb8 := (((HB7.out.set_ 0 (.int .i64 5)).set_ 18 (.int .u64 0)).set_ 1 (.bool true))
        have hb9 := (((HB4.out.far (p := ⟨w1.heap.size, 0, none⟩) hne (.int .i64 5)).far (p := ⟨w1.heap.size, 18, none⟩) hne (.int .u64 0)).far (p := ⟨w1.heap.size, 1, none⟩) hne (.bool true))
        rw [hTC] at hb8
        have k0 := hb9.cell 0
        have k2 := (HB.out.chg hcB (by simp)).cell 0
        have hcC := HCur.out.chg hcB.drew (by simp)
        have HB8 := Lib.hid hb8
        have HCB := Lib.hid hcB
        have HCC := Lib.hid hcC
        clear hb8 hcB hb9 hcC y0 y1 y18 f0 f1 f18 hTC
        generalize World.setCell _ _ _ = W9 at *
        go_still_tail 9, (by kernel_rfl)
        (try change wpStill _ _ (World.drew _) _ _ _)
        refine wpStill_load T37 hXs (blk_cells HB8.out.drew) rfl ⟨_, rfl, rfl⟩ ?_
        still_step
        still_step
        (try refine wpStill_nil ?_)
        (try change wpList _ _ _ _ _ (World.drew _))
        go_wp2_with ((with_reducible refine wpl_store_atE T37 HCC.out hXs hfit hX1 ?_ ?_ ?_); (· rfl); (· exact ⟨_, _, rfl, rfl, rfl⟩); intro w9 hS9; have HS9 := Lib.hid hS9; clear hS9)
        go_ret
        exact ⟨rfl, HT.out _ _ HCB.out.drew HCC.out HS9.out⟩
      have hTC := to' (by omega) h5
      have e1 : (to == 1) = false := by simpa using h1
      have e2 : (to == 2) = false := by simpa using h2
      have e5 : (to == 5) = false := by simpa using h5
      clear t12 t5 to' h1 h2 h5
      go_wp2_with (go_at_call 55; (refine (HTN.out _).mono ?_); rintro e w4 ⟨rfl, rfl⟩)
      have hcB := ((HCW3.out.setCell (p := ⟨w1.heap.size, 0, none⟩) (.inr hle) (.int .i64 to)).setCell (p := ⟨w1.heap.size, 18, none⟩) (.inr hle) (.int .u64 0))
      have hb8 := ((HB7.out.set_ 0 (.int .i64 to)).set_ 18 (.int .u64 0))
      have hb9 := ((HB4.out.far (p := ⟨w1.heap.size, 0, none⟩) hne (.int .i64 to)).far (p := ⟨w1.heap.size, 18, none⟩) hne (.int .u64 0))
      rw [hTC] at hb8
      have k0 := hb9.cell 0
      have k2 := (HB.out.chg hcB (by simp)).cell 0
      have hcC := HCur.out.chg hcB.drew (by simp)
      have HB8 := Lib.hid hb8
      have HCB := Lib.hid hcB
      have HCC := Lib.hid hcC
      clear hb8 hcB hb9 hcC y0 y1 y18 f0 f1 f18 hTC
      generalize World.setCell _ _ _ = W9 at *
      go_still_tail 9, (by kernel_rfl)
      (try change wpStill _ _ (World.drew _) _ _ _)
      refine wpStill_load T37 hXs (blk_cells HB8.out.drew) rfl ⟨_, rfl, rfl⟩ ?_
      still_step
      still_step
      (try refine wpStill_nil ?_)
      (try change wpList _ _ _ _ _ (World.drew _))
      go_wp2_with ((with_reducible refine wpl_store_atE T37 HCC.out hXs hfit hX1 ?_ ?_ ?_); (· rfl); (· exact ⟨_, _, rfl, rfl, rfl⟩); intro w9 hS9; have HS9 := Lib.hid hS9; clear hS9)
      go_ret
      exact ⟨rfl, HT.out _ _ HCB.out.drew HCC.out HS9.out⟩
end Go.Proofs
end
section
namespace Go.Proofs
open Go.RowKit
set_option linter.unusedVariables false
set_option linter.unusedSimpArgs false

section
variable {P : Program} (w : World)
theorem run_append_copy (t ty e : TypeId) (i : TypeInfo) (z : Value) (size bytes : Nat) (ht : P.underlying t = some (.slice e)) (hi : P.info? e = some i) (hz : i.zero = some z)
    (hsize : i.size = size) (hby : i.bytes = bytes) (hzs : z.cells.size = size) (v : Value) (hr : Row w e size v 0 []) (V : Value) (n : Nat) (xs : List Value) (hV : Row w e size V n xs) (h1 : ∀ u ∈ xs, u.oneCell' = true)
    (h63 : n ≤ maxLen) (hbytes : n * bytes ≤ 140737488355328) :
    ∃ v' w', (Builtin.append_ #[t, t] ty #[v, V]).run P w = .ok v' w' ∧ Row w' e size v' n xs ∧ w.grownBy w' v.ownBlock ∧ (∀ k ∈ foot v', v.ownBlock = some k ∨ k = w.heap.size) := by
  obtain ⟨A, c, rfl, hA⟩ := hV.val
  rcases Nat.eq_zero_or_pos n with h0 | h0
  · subst h0
    have hxs : xs = [] := List.eq_nil_of_length_eq_zero (by simpa using hV.1)
    subst hxs
    exact ⟨v, w, run_append_none (P := P) w t ty e i size ht hi v 0 [] hr A c, hr, ⟨rfl, rfl, rfl, Nat.le_refl _, fun _ _ _ => rfl⟩, fun k hk => .inl (by simpa [foot] using hk)⟩
  · obtain ⟨g, cap, hv, _, _, hcell, _, _⟩ := hV.form h0
    simp only [Value.slice.injEq] at hv
    obtain ⟨rfl, _, _⟩ := hv
    have hadd : ∀ j, (⟨g, 0, none⟩ : Addr).add j = ⟨g, j, none⟩ := fun j => by unfold Addr.add; split <;> simp_all
    obtain ⟨g', cap', w', q1, q2, q3, q4, _⟩ := run_append_row (P := P) w t ty e i z size bytes ht hi hz hsize hby hzs v 0 [] hr ⟨g, 0, none⟩ n c xs hV.1 (fun j u hu => by rw [hadd]; exact hcell j u hu) h1 h0 (by omega) (by rw [Nat.zero_add]; exact hbytes) w.heap.size rfl
    simp only [Nat.zero_add, List.nil_append] at q1 q2
    exact ⟨_, w', q1, q2, q3, fun k hk => by simp [foot_some] at hk; subst hk; exact q4⟩
theorem step_append_copy {ops : Array Oper} {o : Oper} {a : Act} {K : Act → World → Prop} {Q : Exit → Act → World → Prop} {E : Prop} (hgd : o.guard = none) (s x : Operand) (t : TypeId)
    (ho : o.op = .call { callee := .builtin .append, args := #[s, x], argTypes := #[t, t] })
    (e : TypeId) (i : TypeInfo) (z : Value) (size bytes : Nat) (ht : P.underlying t = some (.slice e)) (hi : P.info? e = some i) (hz : i.zero = some z)
    (hsize : i.size = size) (hby : i.bytes = bytes) (hzs : z.cells.size = size)
    (v : Value) (hs : a.eval s = v) (hr : Row w e size v 0 [])
    (V : Value) (n : Nat) (xs : List Value) (hx : a.eval x = V) (hV : Row w e size V n xs) (h1 : ∀ u ∈ xs, u.oneCell' = true)
    (h63 : n ≤ maxLen) (hbytes : n * bytes ≤ 140737488355328)
    (h : ∀ v' w', Row w' e size v' n xs → w.grownBy w' v.ownBlock → (∀ k ∈ foot v', v.ownBlock = some k ∨ k = w.heap.size) → K (a.put o.dst v') w') :
    if Region.wanted o (yielded ops a.tmps) = true then Oper.wp P o a w K Q else E := by
  have hw : Region.wanted o (yielded ops a.tmps) = true := by simp [Region.wanted, hgd]
  rw [if_pos hw]
  obtain ⟨v', w', q1, q2, q3, q4⟩ := run_append_copy w t o.type e i z size bytes ht hi hz hsize hby hzs v hr V n xs hV h1 h63 hbytes
  unfold Oper.wp execOp
  simp only [ho, resolve, invoke, builtin, Sem.run_bind, Sem.run_pure, Result.andThen_ok, List.map_toArray, List.map_cons, List.map_nil, hs, hx, q1]
  exact h v' w' q2 q3 q4
end
theorem numCells_snoc (l : List Nat) (k : Nat) : numCells (l ++ [k]) = numCells l ++ [.int .i64 ((k : Nat) : Int)] := by unfold numCells; simp
def Rt.drE (r : Rt) (i q : Int) : Int := if r.is i q = true then 0 else 11
def Rt.drT (r : Rt) (i q : Int) : Rt := if r.is i q = true then ⟨r.L.set i.toNat ⟨q + 1, false, Gr.zero⟩, r.F ++ [i.toNat]⟩ else r
/-- One that goes, at the document's. -/
theorem DTurns.gone {p gl cl k : Nat} {q : Int} {S : List Nat} {r : Rt} {s : Spot Gr} {w w1 w2 w3 : World} {VF VN : Value} {cur : Array Value}
    (hB : Blk w p 83 #[.slice (some ⟨gl, 0, none⟩) r.L.length cl, VF]) (hS : Row w 79 21 (.slice (some ⟨gl, 0, none⟩) r.L.length cl) r.L.length (spotCells r.L))
    (hSS : S = p :: (foot (.slice (some ⟨gl, 0, none⟩) r.L.length cl) ++ foot VF)) (hs : r.L[k]? = some s) (hc : Chg [] w w1) (hcur : Blk w1 gl 79 cur) (hst : Stored w1 w2 gl 79 (splice_at cur (k * 21) (Go.Proofs.gone q)))
    (hc3 : Chg [] w2 w3) (hN : Row w3 3 1 VN (r.F.length + 1) (numCells r.F ++ [.int .i64 ((k : Nat) : Int)])) (hNf : ∀ j ∈ foot VN, w.heap.size ≤ j) :
    DTurns p S ⟨r.L.set k ⟨q, false, Gr.zero⟩, r.F ++ [k]⟩ w (w3.setCell ⟨p, 1, none⟩ VN) := by
  have hk := (List.getElem?_eq_some_iff.1 hs).1
  have hB1 := hB.chg hc (by simp)
  have hS1 := hS.chg hc (fun _ _ h => by cases h)
  have hg : p ≠ gl := by have := hS.ty hB (by decide); simpa [foot_some] using this
  have lp := hB.lt
  obtain ⟨cur', hb', hz', ht'⟩ := hS1.cur
  have : cur' = cur := by have := hb'.symm.trans hcur; simp at this; exact this
  subst this
  have hy := splice_spot (off := k * 21) (A := Go.Proofs.gone q) (p := []) (q := s.cells) (r := []) (s' := ⟨q, false, Gr.zero⟩) ht' hs (by simp) (by rw [List.nil_append, List.append_nil, gone_cells]) (by rw [Spot.cells_len]; rfl) (by simp)
  have hr := hS1.stored hb' hst (by show k * 21 + 21 ≤ _; omega) hy (by rw [spotCells_len, List.length_set])
  have hr3 := hr.chg hc3 (fun _ _ h => by cases h)
  have hpN : p ∉ foot VN := fun h => by have := hNf _ h; omega
  refine DTurns.mk (VS := .slice (some ⟨gl, 0, none⟩) r.L.length cl) (VF := VN) (((hst.far hB1 hg).chg hc3 (by simp)).set_ 1 _) (by simpa using hr3.far (p := ⟨p, 1, none⟩) (by simpa [foot_some] using hg) VN) ?_ (by rw [hSS]; simp) (fun k hk => .inl (by rw [hSS]; simp [hk])) (fun k hk => .inr (hNf k hk)) ?_
  · have h9 := hN.far (p := ⟨p, 1, none⟩) hpN VN
    rw [← numCells_snoc] at h9
    simpa using h9
  · refine Chg.setCell ?_ (.inl (by rw [hSS]; simp)) _
    exact ((Chg.any hc).trans hst.chg (fun j hj => .inl (by simp at hj; subst hj; rw [hSS]; simp [foot_some]))).then hc3
set_option maxRecDepth 100000 in
set_option maxHeartbeats 6400000 in
theorem rDrop_any {w : World} {p : Nat} {S : List Nat} {r : Rt} (h : DAt w p S r) (hl : r.L.length ≤ 64) (hfl : r.F.length ≤ 64) (i q : Int) (hi : inI i) (hqb : r.is i q = true → 0 ≤ q ∧ q < 1000000) :
    Calls Try.prog 35 #[ptr p, .agg #[.int .i64 i, .int .u64 q]] w fun e w' => e = .returned (.int .i64 (r.drE i q)) ∧ DTurns p S (r.drT i q) w w' := by
  have HI := Lib.hid (fun W (hc : Chg [] w W) => rIs_any (h.quiet hc) hl i q hi)
  have HSame := Lib.hid (fun W (hc : Chg [] w W) => DTurns.refl h hc)
  have hb3 := Blk.new w 33 #[.int .i64 i, .int .u64 q]
  have hc : Chg [] w (w.alloc (.cells #[.int .i64 i, .int .u64 q] 33)) := (Chg.refl [] w).alloc _
  unfold Rt.drE Rt.drT
  cases hq : r.is i q with
  | false =>
    rw [if_neg (by simp), if_neg (by simp)]
    rw [hq] at HI
    clear hq h hi hqb
    go_enter Try.func35, Try.ntmps35
    go_wp2_with (go_at_call 16; (refine (HI.out _ hc).mono ?_); rintro e w2 ⟨rfl, hc2⟩)
    go_ret
    exact ⟨rfl, HSame.out _ (hc.then hc2)⟩
  | true =>
    rw [hq] at HI
    rw [if_pos rfl, if_pos rfl]
    obtain ⟨hq0, hq1⟩ := hqb hq
    obtain ⟨k, s, rfl, hqs, hs, hth⟩ := ris_spot hq
    rw [show ((k : Nat) : Int).toNat = k from rfl]
    obtain ⟨VL, VF, hB, hS, hF, hSS⟩ := h
    obtain ⟨gl, cl, rfl, _, hcl, hgl, hk, _, _, _, _⟩ := open_spot hS hs
    obtain ⟨cur, hcur, hcz, _⟩ := hS.cur
    have HT := Lib.hid (fun w1 w2 w3 VN hc hcur hst hc3 hN hNf => DTurns.gone (q := q + 1) (w1 := w1) (w2 := w2) (w3 := w3) (VN := VN) (cur := cur) hB hS hSS hs hc hcur hst hc3 hN hNf)
    have hone := numCells_one r.F
    obtain ⟨ni, hi0, hz0, hz1, hz2⟩ := info_parts Try.num_info_C
    have lp := hB.lt
    have hpl : p ≠ gl := by have := hS.ty hB (by decide); simpa [foot_some] using this
    have hlF : gl ∉ foot VF := fun h => hS.ty2 hF (by decide) gl (by simp [foot_some]) h
    obtain ⟨AF, cF, hVF, _⟩ := hF.val
    obtain ⟨n, hn⟩ : ∃ n, n = r.L.length := ⟨_, rfl⟩
    rw [← hn] at hB hk
    have HB := Lib.hid hB
    have HF := Lib.hid hF
    have k0' : (0 : Int) ≤ (k : Int) := by omega
    have k1' : (k : Int) < (n : Int) := by omega
    have e1 : IntKind.u64.wrap (q + 1) = q + 1 := by rw [IntKind.wrap_u64]; omega
    have hfit : k * 21 + (Go.Proofs.gone (q + 1)).size ≤ cur.size := by show k * 21 + 21 ≤ _; omega
    have HCur := Lib.hid hcur
    obtain ⟨R', hR'⟩ : ∃ R' : Rt, R' = ⟨r.L.set k ⟨q + 1, false, Gr.zero⟩, r.F ++ [k]⟩ := ⟨_, rfl⟩
    rw [← hR'] at HT ⊢
    obtain ⟨m, hm⟩ : ∃ m, m = r.F.length := ⟨_, rfl⟩
    rw [← hm] at HT HF hfl hVF
    obtain ⟨FL, hFL⟩ : ∃ FL, FL = numCells r.F := ⟨_, rfl⟩
    rw [← hFL] at HT HF hone
    have HVF := Lib.hid hVF
    clear hqb hq hi hqs hs hth hB hS hF hSS hcl hcz hn hR' hcur hl hm hFL hVF
    go_enter Try.func35, Try.ntmps35
    go_wp2_with (go_at_call 16; (refine (HI.out _ hc).mono ?_); rintro e w1 ⟨rfl, hc1⟩; have hcw := hc.then hc1; have HCW := Lib.hid hcw; have z0 := ((HB.out.chg hcw (by simp)).drew).cell 0; have hb4 := (hb3.chg hc1 (by simp)).drew; have z1 := hb4.cell 0; have z2 := hb4.cell 1; have hz1' := hcw.size; have hz2' := hc1.size; clear hcw hc1)
    go_still_tail 11, (by kernel_rfl)
    (try change wpStill _ _ (World.drew _) _ _ _)
    (repeat still_step)
    (try refine wpStill_nil ?_)
    (try change wpList _ _ _ _ _ (World.drew _))
    go_wp2_with ((with_reducible refine wpl_store_atE (A := Go.Proofs.gone (q + 1)) T79 (HCur.out.chg HCW.out.drew (by simp)) rfl hfit (gone_one _) ?_ ?_ ?_); (· rfl); (· exact ⟨_, _, rfl, rfl, rfl⟩); intro w2 hS9; have HS9 := Lib.hid hS9; clear hS9)
    simp only [World.size_alloc] at hz2'
    have hcA := HCW.out.drew
    have hF2 := (HF.out.chg hcA (fun _ _ h => by cases h)).chg HS9.out.chg (fun j hj hj' => by simp at hj'; subst hj'; exact hlF hj)
    have hB2 := HS9.out.far (HB.out.chg hcA (by simp)) hpl
    have hR2 := HS9.out.far hb4 (show w.heap.size ≠ gl by omega)
    have hz3 : w1.heap.size ≤ w2.heap.size := Nat.le_of_eq HS9.out.size.symm
    have HT2 := Lib.hid (fun w3 VN hc3 hN hNf => HT.out _ w2 w3 VN hcA (HCur.out.chg hcA (by simp)) HS9.out hc3 hN hNf)
    obtain ⟨lw2, hlw2⟩ : ∃ x : Nat, x = w2.heap.size := ⟨_, rfl⟩
    have hB2d := hB2.drew
    have hR2d := hR2.drew
    have HF2 := Lib.hid hF2
    clear z0 z1 z2 hb4 hB2 hR2 hF2 HT HS9 hcA
    obtain ⟨W0, hW0⟩ : ∃ W0, W0 = w2.drew := ⟨_, rfl⟩
    have hc0 : Chg [] w2 W0 := by rw [hW0]; exact (Chg.refl [] w2).drew
    rw [← hW0] at hB2d hR2d
    have hs0 : w2.heap.size ≤ W0.heap.size := by rw [hW0]; exact Nat.le_refl _
    have HF0 := Lib.hid (HF2.out.chg hc0 (fun _ _ h => by cases h))
    have z1 := hB2d.cell 1
    have z1' := (hB2d.alloc (.cells #[.int .i64 (k : Nat)] 3)).cell 1
    have HW0 := Lib.hid hW0
    refine wp_region_held_drew (S := fun w' => Blk w' w.heap.size 33 #[.int .i64 (k : Nat), .int .u64 q]) (by kernel_rfl) (by rw [← HW0.out]; exact hR2d) (fun hHeld => ?_)
    rw [← HW0.out] at hHeld ⊢
    clear hW0
    simp only [List.setIfInBounds_toArray, List.size_toArray, List.length_cons, List.length_nil, Array.replicate]
    refine wpAnyH_take (i := 0) (v := ?_) rfl (by kernel_rfl) (by kernel_rfl) (by kernel_rfl) (fun _ _ _ h => h) (Or.inl ⟨by rfl, ?_⟩) hHeld ?_
    rotate_left
    · (intro w' hSw; go_simp; try with_reducible rfl)
    simp only [Act.put, List.getElem_toArray, List.getElem_cons_succ, List.getElem_cons_zero, List.setIfInBounds_toArray, List.set_cons_zero, List.set_cons_succ]
    refine wpAnyH_take (i := 1) (v := ?_) rfl (by kernel_rfl) (by kernel_rfl) (by kernel_rfl) (fun _ _ _ h => h) (Or.inl ⟨by rfl, ?_⟩) hHeld ?_
    rotate_left
    · (intro w' hSw; go_simp; try with_reducible rfl)
    simp only [Act.put, List.getElem_toArray, List.getElem_cons_succ, List.getElem_cons_zero, List.setIfInBounds_toArray, List.set_cons_zero, List.set_cons_succ]
    refine wpAnyH_take (i := 2) (v := ?_) rfl (by kernel_rfl) (by kernel_rfl) (by kernel_rfl) (fun _ _ _ h => h) (Or.inl ⟨by rfl, ?_⟩) hHeld ?_
    rotate_left
    · (intro w' hSw; go_simp; try with_reducible rfl)
    simp only [Act.put, List.getElem_toArray, List.getElem_cons_succ, List.getElem_cons_zero, List.setIfInBounds_toArray, List.set_cons_zero, List.set_cons_succ]
    refine wpAnyH_take (i := 3) (v := ?_) rfl (by kernel_rfl) (by kernel_rfl) (by kernel_rfl) (fun _ _ _ h => h) (Or.inl ⟨by rfl, ?_⟩) hHeld ?_
    rotate_left
    · (intro w' hSw; go_simp; try with_reducible rfl)
    simp only [Act.put, List.getElem_toArray, List.getElem_cons_succ, List.getElem_cons_zero, List.setIfInBounds_toArray, List.set_cons_zero, List.set_cons_succ]
    refine wpAnyH_take (i := 6) (v := ?_) rfl (by kernel_rfl) (by kernel_rfl) (by kernel_rfl) (fun _ _ _ h => h) (Or.inl ⟨by rfl, ?_⟩) hHeld ?_
    rotate_left
    · (intro w' hSw; go_simp; try with_reducible rfl)
    simp only [Act.put, List.getElem_toArray, List.getElem_cons_succ, List.getElem_cons_zero, List.setIfInBounds_toArray, List.set_cons_zero, List.set_cons_succ]
    refine wpAnyH_take (i := 7) (v := ?_) rfl (by kernel_rfl) (by kernel_rfl) (by kernel_rfl) (fun _ _ _ h => h) (Or.inl ⟨by rfl, ?_⟩) hHeld ?_
    rotate_left
    · (intro w' hSw; have q1 := hSw.cell 0; simp only [List.getElem?_toArray, List.getElem?_cons_zero, List.getElem?_cons_succ] at q1; go_simp; try with_reducible rfl)
    simp only [Act.put, List.getElem_toArray, List.getElem_cons_succ, List.getElem_cons_zero, List.setIfInBounds_toArray, List.set_cons_zero, List.set_cons_succ]
    have hBW2 : Blk w2 p 83 #[.slice (some ⟨gl, 0, none⟩) n cl, VF] := by have h9 := hB2d; rw [HW0.out] at h9; exact h9
    have hRW2 : Blk w2 w.heap.size 33 #[.int .i64 (k : Nat), .int .u64 q] := by have h9 := hR2d; rw [HW0.out] at h9; exact h9
    refine wpAnyH_ready (rs := [4, 8]) (by kernel_rfl) (by simp) ?_
    refine AllReadyH.cons rfl (fun K hK => ?_) ?_
    · go_simp
      refine hK _ _ hHeld (fun hHeld => ?_)
      clear hK K
      simp only [Act.put, List.getElem_toArray, List.getElem_cons_succ, List.getElem_cons_zero, List.setIfInBounds_toArray, List.set_cons_zero, List.set_cons_succ]
      refine wpAnyH_ready (rs := [5, 8]) (by kernel_rfl) (by simp) ?_
      refine AllReadyH.cons rfl (fun K hK => ?_) ?_
      · refine step_append_copy (W0) rfl _ _ 81 rfl 3 ni _ 1 8 Try.underlying81 hi0 hz0 hz1 hz2 rfl (.slice none 0 0) (by rfl) (Row.nil _ _ _) VF m FL (by rfl) (HF0.out) hone (by unfold maxLen; omega) (by omega) ?_
        intro v3 w3 hr3 hg3 hf3
        obtain ⟨Av, cv, rfl, _⟩ := hr3.val
        have hc3 : Chg [] (W0) w3 := (Chg.refl [] _).grown hg3 (fun k hk => by cases hk)
        have hfo : ∀ j ∈ foot (.slice Av m cv), w2.heap.size ≤ j := fun j hj => by
          rcases hf3 j hj with h9 | h9
          · cases h9
          · subst h9; first | omega | (simp; omega)
        refine hK _ _ (hHeld.chg hc3 (by simp)) (fun hHeld => ?_)
        clear hK K
        simp only [Act.put, List.getElem_toArray, List.getElem_cons_succ, List.getElem_cons_zero, List.setIfInBounds_toArray, List.set_cons_zero, List.set_cons_succ]
        refine wpAnyH_ready (rs := [8]) (by kernel_rfl) (by simp) ?_
        refine AllReadyH.cons rfl (fun K hK => ?_) AllReadyH.nil
        go_simp
        refine hK _ _ (hHeld.alloc _) (fun hHeld => ?_)
        clear hK K
        simp only [Act.put, List.getElem_toArray, List.getElem_cons_succ, List.getElem_cons_zero, List.setIfInBounds_toArray, List.set_cons_zero, List.set_cons_succ]
        have hcW : Chg [] w2 (w3.alloc (.cells #[.int .i64 (k : Nat)] 3)) := (hc0.then hc3).alloc _
        refine wpAnyH_ready (rs := [9]) (by kernel_rfl) (by simp) ?_
        refine AllReadyH.cons rfl (fun K hK => ?_) AllReadyH.nil
        refine step_append_row (w3.alloc (.cells #[.int .i64 (k : Nat)] 3)) rfl _ _ 81 rfl 3 ni _ 1 8 Try.underlying81 hi0 hz0 hz1 hz2 rfl (.slice Av m cv) m FL (by rfl) (hr3.alloc _) ⟨w3.heap.size, 0, none⟩ 1 1 [.int .i64 (k : Nat)] (by rfl) (by rfl) (World.news_of_block (cs := #[.int .i64 (k : Nat)]) (t := 3) (fr := (0, 0)) (heap_alloc_new w3 _)) (by simp [Value.oneCell']) (by omega) (by unfold maxLen; omega) (by omega) (w3.alloc (.cells #[.int .i64 (k : Nat)] 3)).heap.size rfl ?_
        intro gg cap w4 hr4 hg4 hat4 hlt4
        have hc4 : Chg [] w2 w4 := hcW.grown hg4 (fun j hj => .inr (hfo j (row_mem hj)))
        have hzW := hcW.size
        have hnf : ∀ j ∈ foot (.slice (some ⟨gg, 0, none⟩) (m + 1) cap), w.heap.size ≤ j := fun j hj => by
          simp [foot_some] at hj
          subst hj
          rcases hat4 with h9 | h9
          · have := hfo _ (row_mem h9); omega
          · rw [h9]; omega
        have hp4 := hBW2.chg hc4 (by simp)
        have u0 := hp4.cell 1
        have uf := hp4.frozen 1
        have HFIN := Lib.hid (HT2.out w4 _ hc4 hr4 hnf)
        refine hK _ _ (hRW2.chg hc4 (by simp)) (fun hHeld => ?_)
        clear hK K
        simp only [Act.put, List.getElem_toArray, List.getElem_cons_succ, List.getElem_cons_zero, List.setIfInBounds_toArray, List.set_cons_zero, List.set_cons_succ]
        refine wpAnyH_take (i := 10) (v := ?_) rfl (by kernel_rfl) (by kernel_rfl) (by kernel_rfl) (fun _ _ _ h => h) (Or.inl ⟨by rfl, ?_⟩) hHeld ?_
        rotate_left
        · (intro w' hSw; go_simp; try with_reducible rfl)
        simp only [Act.put, List.getElem_toArray, List.getElem_cons_succ, List.getElem_cons_zero, List.setIfInBounds_toArray, List.set_cons_zero, List.set_cons_succ]
        refine wpAnyH_take (i := 11) (v := ?_) rfl (by kernel_rfl) (by kernel_rfl) (by kernel_rfl) (fun _ _ _ h => h) (Or.inl ⟨by rfl, ?_⟩) hHeld ?_
        rotate_left
        · (intro w' hSw; go_simp; try with_reducible rfl)
        simp only [Act.put, List.getElem_toArray, List.getElem_cons_succ, List.getElem_cons_zero, List.setIfInBounds_toArray, List.set_cons_zero, List.set_cons_succ]
        refine wpAnyH_ready (rs := [12]) (by kernel_rfl) (by simp) ?_
        refine AllReadyH.cons rfl (fun K hK => ?_) AllReadyH.nil
        go_simp
        refine hK _ _ (hHeld.far (p := ⟨p, 1, none⟩) (show w.heap.size ≠ p by omega) _) (fun hHeld => ?_)
        clear hK K
        simp only [Act.put, List.getElem_toArray, List.getElem_cons_succ, List.getElem_cons_zero, List.setIfInBounds_toArray, List.set_cons_zero, List.set_cons_succ]
        refine wpAnyH_done (by kernel_rfl) ?_ _
        go_wp2
        go_ret
        exact ⟨rfl, HFIN.out⟩
      refine AllReadyH.cons rfl (fun K hK => ?_) AllReadyH.nil
      go_simp
      refine hK _ _ (hHeld.alloc _) (fun hHeld => ?_)
      clear hK K
      simp only [Act.put, List.getElem_toArray, List.getElem_cons_succ, List.getElem_cons_zero, List.setIfInBounds_toArray, List.set_cons_zero, List.set_cons_succ]
      refine wpAnyH_ready (rs := [5]) (by kernel_rfl) (by simp) ?_
      refine AllReadyH.cons rfl (fun K hK => ?_) AllReadyH.nil
      refine step_append_copy (W0.alloc (.cells #[.int .i64 (k : Nat)] 3)) rfl _ _ 81 rfl 3 ni _ 1 8 Try.underlying81 hi0 hz0 hz1 hz2 rfl (.slice none 0 0) (by rfl) (Row.nil _ _ _) VF m FL (by rfl) (HF0.out.alloc _) hone (by unfold maxLen; omega) (by omega) ?_
      intro v3 w3 hr3 hg3 hf3
      obtain ⟨Av, cv, rfl, _⟩ := hr3.val
      have hc3 : Chg [] (W0.alloc (.cells #[.int .i64 (k : Nat)] 3)) w3 := (Chg.refl [] _).grown hg3 (fun k hk => by cases hk)
      have hfo : ∀ j ∈ foot (.slice Av m cv), w2.heap.size ≤ j := fun j hj => by
        rcases hf3 j hj with h9 | h9
        · cases h9
        · subst h9; first | omega | (simp; omega)
      refine hK _ _ (hHeld.chg hc3 (by simp)) (fun hHeld => ?_)
      clear hK K
      simp only [Act.put, List.getElem_toArray, List.getElem_cons_succ, List.getElem_cons_zero, List.setIfInBounds_toArray, List.set_cons_zero, List.set_cons_succ]
      have hcW : Chg [] w2 w3 := (hc0.alloc _).then hc3
      refine wpAnyH_ready (rs := [9]) (by kernel_rfl) (by simp) ?_
      refine AllReadyH.cons rfl (fun K hK => ?_) AllReadyH.nil
      refine step_append_row (w3) rfl _ _ 81 rfl 3 ni _ 1 8 Try.underlying81 hi0 hz0 hz1 hz2 rfl (.slice Av m cv) m FL (by rfl) (hr3) ⟨W0.heap.size, 0, none⟩ 1 1 [.int .i64 (k : Nat)] (by rfl) (by rfl) (World.news_of_block (cs := #[.int .i64 (k : Nat)]) (t := 3) (fr := (0, 0)) (((Blk.new W0 3 #[.int .i64 (k : Nat)]).chg hc3 (by simp)))) (by simp [Value.oneCell']) (by omega) (by unfold maxLen; omega) (by omega) (w3).heap.size rfl ?_
      intro gg cap w4 hr4 hg4 hat4 hlt4
      have hc4 : Chg [] w2 w4 := hcW.grown hg4 (fun j hj => .inr (hfo j (row_mem hj)))
      have hzW := hcW.size
      have hnf : ∀ j ∈ foot (.slice (some ⟨gg, 0, none⟩) (m + 1) cap), w.heap.size ≤ j := fun j hj => by
        simp [foot_some] at hj
        subst hj
        rcases hat4 with h9 | h9
        · have := hfo _ (row_mem h9); omega
        · rw [h9]; omega
      have hp4 := hBW2.chg hc4 (by simp)
      have u0 := hp4.cell 1
      have uf := hp4.frozen 1
      have HFIN := Lib.hid (HT2.out w4 _ hc4 hr4 hnf)
      refine hK _ _ (hRW2.chg hc4 (by simp)) (fun hHeld => ?_)
      clear hK K
      simp only [Act.put, List.getElem_toArray, List.getElem_cons_succ, List.getElem_cons_zero, List.setIfInBounds_toArray, List.set_cons_zero, List.set_cons_succ]
      refine wpAnyH_take (i := 10) (v := ?_) rfl (by kernel_rfl) (by kernel_rfl) (by kernel_rfl) (fun _ _ _ h => h) (Or.inl ⟨by rfl, ?_⟩) hHeld ?_
      rotate_left
      · (intro w' hSw; go_simp; try with_reducible rfl)
      simp only [Act.put, List.getElem_toArray, List.getElem_cons_succ, List.getElem_cons_zero, List.setIfInBounds_toArray, List.set_cons_zero, List.set_cons_succ]
      refine wpAnyH_take (i := 11) (v := ?_) rfl (by kernel_rfl) (by kernel_rfl) (by kernel_rfl) (fun _ _ _ h => h) (Or.inl ⟨by rfl, ?_⟩) hHeld ?_
      rotate_left
      · (intro w' hSw; go_simp; try with_reducible rfl)
      simp only [Act.put, List.getElem_toArray, List.getElem_cons_succ, List.getElem_cons_zero, List.setIfInBounds_toArray, List.set_cons_zero, List.set_cons_succ]
      refine wpAnyH_ready (rs := [12]) (by kernel_rfl) (by simp) ?_
      refine AllReadyH.cons rfl (fun K hK => ?_) AllReadyH.nil
      go_simp
      refine hK _ _ (hHeld.far (p := ⟨p, 1, none⟩) (show w.heap.size ≠ p by omega) _) (fun hHeld => ?_)
      clear hK K
      simp only [Act.put, List.getElem_toArray, List.getElem_cons_succ, List.getElem_cons_zero, List.setIfInBounds_toArray, List.set_cons_zero, List.set_cons_succ]
      refine wpAnyH_done (by kernel_rfl) ?_ _
      go_wp2
      go_ret
      exact ⟨rfl, HFIN.out⟩
    refine AllReadyH.cons rfl (fun K hK => ?_) AllReadyH.nil
    go_simp
    refine hK _ _ (hHeld.alloc _) (fun hHeld => ?_)
    clear hK K
    simp only [Act.put, List.getElem_toArray, List.getElem_cons_succ, List.getElem_cons_zero, List.setIfInBounds_toArray, List.set_cons_zero, List.set_cons_succ]
    refine wpAnyH_ready (rs := [4]) (by kernel_rfl) (by simp) ?_
    refine AllReadyH.cons rfl (fun K hK => ?_) AllReadyH.nil
    go_simp
    refine hK _ _ hHeld (fun hHeld => ?_)
    clear hK K
    simp only [Act.put, List.getElem_toArray, List.getElem_cons_succ, List.getElem_cons_zero, List.setIfInBounds_toArray, List.set_cons_zero, List.set_cons_succ]
    refine wpAnyH_ready (rs := [5]) (by kernel_rfl) (by simp) ?_
    refine AllReadyH.cons rfl (fun K hK => ?_) AllReadyH.nil
    refine step_append_copy (W0.alloc (.cells #[.int .i64 (k : Nat)] 3)) rfl _ _ 81 rfl 3 ni _ 1 8 Try.underlying81 hi0 hz0 hz1 hz2 rfl (.slice none 0 0) (by rfl) (Row.nil _ _ _) VF m FL (by rfl) (HF0.out.alloc _) hone (by unfold maxLen; omega) (by omega) ?_
    intro v3 w3 hr3 hg3 hf3
    obtain ⟨Av, cv, rfl, _⟩ := hr3.val
    have hc3 : Chg [] (W0.alloc (.cells #[.int .i64 (k : Nat)] 3)) w3 := (Chg.refl [] _).grown hg3 (fun k hk => by cases hk)
    have hfo : ∀ j ∈ foot (.slice Av m cv), w2.heap.size ≤ j := fun j hj => by
      rcases hf3 j hj with h9 | h9
      · cases h9
      · subst h9; first | omega | (simp; omega)
    refine hK _ _ (hHeld.chg hc3 (by simp)) (fun hHeld => ?_)
    clear hK K
    simp only [Act.put, List.getElem_toArray, List.getElem_cons_succ, List.getElem_cons_zero, List.setIfInBounds_toArray, List.set_cons_zero, List.set_cons_succ]
    have hcW : Chg [] w2 w3 := (hc0.alloc _).then hc3
    refine wpAnyH_ready (rs := [9]) (by kernel_rfl) (by simp) ?_
    refine AllReadyH.cons rfl (fun K hK => ?_) AllReadyH.nil
    refine step_append_row (w3) rfl _ _ 81 rfl 3 ni _ 1 8 Try.underlying81 hi0 hz0 hz1 hz2 rfl (.slice Av m cv) m FL (by rfl) (hr3) ⟨W0.heap.size, 0, none⟩ 1 1 [.int .i64 (k : Nat)] (by rfl) (by rfl) (World.news_of_block (cs := #[.int .i64 (k : Nat)]) (t := 3) (fr := (0, 0)) (((Blk.new W0 3 #[.int .i64 (k : Nat)]).chg hc3 (by simp)))) (by simp [Value.oneCell']) (by omega) (by unfold maxLen; omega) (by omega) (w3).heap.size rfl ?_
    intro gg cap w4 hr4 hg4 hat4 hlt4
    have hc4 : Chg [] w2 w4 := hcW.grown hg4 (fun j hj => .inr (hfo j (row_mem hj)))
    have hzW := hcW.size
    have hnf : ∀ j ∈ foot (.slice (some ⟨gg, 0, none⟩) (m + 1) cap), w.heap.size ≤ j := fun j hj => by
      simp [foot_some] at hj
      subst hj
      rcases hat4 with h9 | h9
      · have := hfo _ (row_mem h9); omega
      · rw [h9]; omega
    have hp4 := hBW2.chg hc4 (by simp)
    have u0 := hp4.cell 1
    have uf := hp4.frozen 1
    have HFIN := Lib.hid (HT2.out w4 _ hc4 hr4 hnf)
    refine hK _ _ (hRW2.chg hc4 (by simp)) (fun hHeld => ?_)
    clear hK K
    simp only [Act.put, List.getElem_toArray, List.getElem_cons_succ, List.getElem_cons_zero, List.setIfInBounds_toArray, List.set_cons_zero, List.set_cons_succ]
    refine wpAnyH_take (i := 10) (v := ?_) rfl (by kernel_rfl) (by kernel_rfl) (by kernel_rfl) (fun _ _ _ h => h) (Or.inl ⟨by rfl, ?_⟩) hHeld ?_
    rotate_left
    · (intro w' hSw; go_simp; try with_reducible rfl)
    simp only [Act.put, List.getElem_toArray, List.getElem_cons_succ, List.getElem_cons_zero, List.setIfInBounds_toArray, List.set_cons_zero, List.set_cons_succ]
    refine wpAnyH_take (i := 11) (v := ?_) rfl (by kernel_rfl) (by kernel_rfl) (by kernel_rfl) (fun _ _ _ h => h) (Or.inl ⟨by rfl, ?_⟩) hHeld ?_
    rotate_left
    · (intro w' hSw; go_simp; try with_reducible rfl)
    simp only [Act.put, List.getElem_toArray, List.getElem_cons_succ, List.getElem_cons_zero, List.setIfInBounds_toArray, List.set_cons_zero, List.set_cons_succ]
    refine wpAnyH_ready (rs := [12]) (by kernel_rfl) (by simp) ?_
    refine AllReadyH.cons rfl (fun K hK => ?_) AllReadyH.nil
    go_simp
    refine hK _ _ (hHeld.far (p := ⟨p, 1, none⟩) (show w.heap.size ≠ p by omega) _) (fun hHeld => ?_)
    clear hK K
    simp only [Act.put, List.getElem_toArray, List.getElem_cons_succ, List.getElem_cons_zero, List.setIfInBounds_toArray, List.set_cons_zero, List.set_cons_succ]
    refine wpAnyH_done (by kernel_rfl) ?_ _
    go_wp2
    go_ret
    exact ⟨rfl, HFIN.out⟩
end Go.Proofs
end
section
namespace Go.Proofs
open Go.RowKit
set_option linter.unusedVariables false
set_option linter.unusedSimpArgs false

/-! ### The document's loops -/
section
variable {P : Program} {w : World} {t : TypeId} {ops : Array Oper} {rest : List Oper} {o : Oper} {a : Act} {Q : Act → Prop}
theorem wpStill_build {vx vy v : Value} (hr : ∀ W, (Instr.build t #[(0, vx), (1, vy)]).run P W = .ok v W) (hg : Region.wanted o (yielded ops a.tmps) = true) (ho : ∃ x y, o.op = .build t #[(0, x), (1, y)] ∧ a.eval x = vx ∧ a.eval y = vy)
    (h : wpStill P ops w Q rest (a.put o.dst v)) : wpStill P ops w Q (o :: rest) a := by
  obtain ⟨x, y, h1, h2, h3⟩ := ho
  refine wpStill_step fun K hK => ?_
  rw [if_pos hg]
  have : (execOp a.eval o).run P w = .ok (.value v) w := by
    unfold execOp
    simp only [h1, List.map_toArray, List.map_cons, List.map_nil, h2, h3, Sem.run_bind, hr, Result.andThen_ok, Sem.run_pure]
  unfold Oper.still
  rw [this]
  exact ⟨rfl, hK _ h⟩
theorem run_exec_build {vx vy v : Value} (hr : ∀ W, (Instr.build t #[(0, vx), (1, vy)]).run P W = .ok v W) (x y : Operand) (ho : o.op = .build t #[(0, x), (1, y)]) (hx : a.eval x = vx) (hy : a.eval y = vy) : (execOp a.eval o).run P w = .ok (.value v) w := by
  unfold execOp
  simp only [ho, List.map_toArray, List.map_cons, List.map_nil, hx, hy, Sem.run_bind, hr, Result.andThen_ok, Sem.run_pure]
theorem step_bs {e : TypeId} {n : Nat} {PA : Array Value} {ie : TypeInfo} {z : Value} {K : Act → World → Prop} {Q : Exit → Act → World → Prop} {R : Prop} (hu : P.underlying t = some (.slice e)) (hie : P.info? e = some ie) (hz : ie.zero = some z) (hn : ie.size = n) (hP : PA.size = n) (h0 : 0 < n) (h1 : n ≤ 1000) (hg : Region.wanted o (yielded ops a.tmps) = true) (x : Operand) (ho : o.op = .buildSlice t 1 #[(0, x)]) (hx : a.eval x = .agg PA)
    (h : K (a.put o.dst (.slice (some ⟨w.heap.size, 0, none⟩) 1 1)) (w.alloc (.cells PA e))) : if Region.wanted o (yielded ops a.tmps) = true then Oper.wp P o a w K Q else R := by
  rw [if_pos hg]
  unfold Oper.wp execOp
  simp only [ho, List.map_toArray, List.map_cons, List.map_nil, hx, Sem.run_bind, run_bs hu hie hz hn hP h0 h1, Result.andThen_ok, Sem.run_pure]
  exact h
theorem wpl_bsE {F : List Oper} {e : TypeId} {n : Nat} {PA : Array Value} {ie : TypeInfo} {z : Value} {Q : Exit → Act → World → Prop} (hu : P.underlying t = some (.slice e)) (hie : P.info? e = some ie) (hz : ie.zero = some z) (hn : ie.size = n) (hP : PA.size = n) (h0 : 0 < n) (h1 : n ≤ 1000) (hg : Region.wanted o (yielded ops a.tmps) = true) (ho : ∃ x, o.op = .buildSlice t 1 #[(0, x)] ∧ a.eval x = .agg PA)
    (h : wpList P ops Q F (a.put o.dst (.slice (some ⟨w.heap.size, 0, none⟩) 1 1)) (w.alloc (.cells PA e))) : wpList P ops Q (o :: F) a w := by
  obtain ⟨x, h2, h3⟩ := ho
  refine wpList_step fun K hK => ?_
  rw [if_pos hg]
  unfold Oper.wp execOp
  simp only [h2, List.map_toArray, List.map_cons, List.map_nil, h3, Sem.run_bind, run_bs hu hie hz hn hP h0 h1, Result.andThen_ok, Sem.run_pure]
  exact hK _ _ h
end
/-- Who is there of so many places, rising. -/
def dL (L : List (Spot Gr)) (k : Nat) : List Plc := (List.range k).filterMap fun i => match L[i]? with | some s => if s.there = true then some ⟨(i : Nat), s.gen, s.thing⟩ else none | none => none
theorem dL_yes {L : List (Spot Gr)} {k : Nat} {s : Spot Gr} (h : L[k]? = some s) (ht : s.there = true) : dL L (k + 1) = dL L k ++ [⟨(k : Nat), s.gen, s.thing⟩] := by
  unfold dL
  rw [List.range_succ, List.filterMap_append]
  simp [h, ht]
theorem dL_no {L : List (Spot Gr)} {k : Nat} {s : Spot Gr} (h : L[k]? = some s) (ht : s.there = false) : dL L (k + 1) = dL L k := by
  unfold dL
  rw [List.range_succ, List.filterMap_append]
  simp [h, ht]
theorem dL_len (L : List (Spot Gr)) (k : Nat) : (dL L k).length ≤ k := by
  unfold dL
  exact Nat.le_trans (List.length_filterMap_le _ _) (by simp)
set_option maxRecDepth 100000 in
set_option maxHeartbeats 3200000 in
theorem rAll_any {w : World} {p : Nat} {S : List Nat} {r : Rt} (h : DAt w p S r) (hl : r.L.length ≤ 64) :
    Calls Try.prog 24 #[ptr p] w fun e w' => ∃ A cc, e = .returned (.slice A (dL r.L r.L.length).length cc) ∧ Row w' 49 21 (.slice A (dL r.L r.L.length).length cc) (dL r.L r.L.length).length (plcCells (dL r.L r.L.length)) ∧ (∀ k ∈ foot (.slice A (dL r.L r.L.length).length cc), w.heap.size ≤ k) ∧ Chg [] w w' := by
  obtain ⟨VL, VF, hB, hS, hF, hSS⟩ := h
  obtain ⟨AL, cL, rfl, _⟩ := hS.val
  obtain ⟨n, hn⟩ : ∃ n, n = r.L.length := ⟨_, rfl⟩
  rw [← hn] at hB hl ⊢
  have HB := Lib.hid hB
  have HS := Lib.hid hS
  have HN := Lib.hid hn
  have HSp := Lib.hid (fun k (hk : k < n) => (⟨_, List.getElem?_eq_getElem (by omega)⟩ : ∃ s, r.L[k]? = some s))
  have hdl := dL_len r.L
  have HDY := Lib.hid (fun k s h1 h2 => dL_yes (L := r.L) (k := k) (s := s) h1 h2)
  have HDN := Lib.hid (fun k s h1 h2 => dL_no (L := r.L) (k := k) (s := s) h1 h2)
  have hd0 : dL r.L 0 = [] := rfl
  obtain ⟨D, hD⟩ : ∃ D, D = dL r.L := ⟨_, rfl⟩
  rw [← hD] at hdl HDY HDN hd0 ⊢
  have HDL := Lib.hid hdl
  have HD0 := Lib.hid hd0
  obtain ⟨i0, hi0, hz0, hz1, hz2⟩ := info_parts Try.info_T
  have lp := HB.out.lt
  have hlB : ∀ g0 : Nat, AL = some ⟨g0, 0, none⟩ → g0 < w.heap.size := fun g0 e => by subst e; exact HS.out.lt g0 (by simp [foot_some])
  clear hB hS hF hSS hn hD hdl hd0
  go_enter Try.func24, Try.ntmps24
  go_wp2
  go_loopw [3, 4] (fun ov iv wr => ∃ (k : Nat) (A : Option Addr) (cc : Nat), k ≤ n ∧ iv = .int .i64 k ∧ ov = .slice A (D k).length cc ∧ Row wr 49 21 (.slice A (D k).length cc) (D k).length (plcCells (D k)) ∧ (∀ j ∈ foot (.slice A (D k).length cc), w.heap.size ≤ j) ∧ Chg [] w wr) (fun ov iv wr => n - (intOfN iv).toNat)
  case atStart => exact ⟨0, none, 0, by omega, rfl, by rw [HD0.out]; rfl, by rw [HD0.out]; exact Row.nil _ _ _, by simp [foot_nil], Chg.refl _ _⟩
  case round =>
    obtain ⟨k, A, cc, hk, rfl, rfl, hrow, hfo, hcr⟩ := hrel
    have z0 := (HB.out.chg hcr (by simp)).cell 0
    have hzr := hcr.size
    have k0 : (0 : Int) ≤ (k : Int) := by omega
    by_cases hlt : k < n
    · have k1 : (k : Int) < (n : Int) := by omega
      obtain ⟨s, hs⟩ := HSp.out k hlt
      obtain ⟨gl, cl, hv, hfl, _, hgl, _, a0, a1, hax, _⟩ := open_spot (HS.out.chg hcr (fun _ _ h => by cases h)) hs
      simp only [Value.slice.injEq] at hv
      obtain ⟨rfl, h91, h92⟩ := hv
      clear h91 h92 hfl
      have lgl := hlB gl rfl
      cases hth : s.there with
      | false =>
        rw [hth] at a1
        have HDNk := Lib.hid (HDN.out k s hs hth)
        have HROW := Lib.hid hrow
        have HFO := Lib.hid hfo
        have HCR := Lib.hid hcr
        clear hs hth hrow hfo hcr hax a0
        go_wp2
        go_roundw
        case rel => exact ⟨k + 1, A, cc, by omega, by go_num, by rw [HDNk.out], by rw [HDNk.out]; exact HROW.out, by rw [HDNk.out]; exact HFO.out, HCR.out⟩
        case measure => simp [intOfN]; omega
      | true =>
        rw [hth] at a1
        have hdy := HDY.out k s hs hth
        obtain ⟨P9, hP9⟩ : ∃ P9 : Plc, P9 = ⟨(k : Nat), s.gen, s.thing⟩ := ⟨_, rfl⟩
        rw [← hP9] at hdy
        have hsn := plcCells_snoc (D k) P9
        have hAs := s.thing.size
        have hPA : #[Value.int .i64 (k : Nat), .int .u64 s.gen] ++ s.thing.arr = P9.arr := by rw [hP9]; rfl
        have hbd := run_build49 (k : Nat) s.gen s.thing.arr hAs
        rw [hPA] at hbd
        have hPs := P9.size
        have hP1 := P9.ones
        have hPL : P9.arr.toList.length = 21 := by simp [hPs]
        have hlen : (D k).length ≤ k := HDL.out k
        generalize P9.arr = PA at *
        generalize s.thing.arr = XA at *
        generalize s.gen = G at *
        have hax2 : ∀ j v, XA[j]? = some v → (wr.drew).cell? ⟨gl, k * 21 + 2 + j, none⟩ = some v := hax
        have HDYk := Lib.hid hdy
        have HSN := Lib.hid hsn
        have HROW := Lib.hid hrow
        have HFO := Lib.hid hfo
        have HCR := Lib.hid hcr
        obtain ⟨m, hm⟩ : ∃ m, m = (D k).length := ⟨_, rfl⟩
        have HM := Lib.hid hm
        rw [← hm] at HROW HFO hlen ⊢
        clear hs hth hrow hfo hcr hax hdy hsn hPA hP9 hm
        go_wp2
        refine wp_region_held_drew (S := fun w' => Blk w' p 83 #[.slice (some ⟨gl, 0, none⟩) n cL, VF] ∧ w'.cell? ⟨gl, k * 21, none⟩ = some (.int .u64 G) ∧ (∀ j v, XA[j]? = some v → w'.cell? ⟨gl, k * 21 + 2 + j, none⟩ = some v)) (by kernel_rfl) ⟨(HB.out.chg HCR.out (by simp)).drew, a0, hax2⟩ (fun hHeld => ?_)
        simp only [List.setIfInBounds_toArray, List.size_toArray, List.length_cons, List.length_nil, Array.replicate]
        refine wpAnyH_take (i := 0) (v := ?_) rfl (by kernel_rfl) (by kernel_rfl) (by kernel_rfl) (fun _ _ _ h => h) (Or.inl ⟨by rfl, ?_⟩) hHeld ?_
        rotate_left
        · (intro w' hSw; go_simp; try with_reducible rfl)
        simp only [Act.put, List.getElem_toArray, List.getElem_cons_succ, List.getElem_cons_zero, List.setIfInBounds_toArray, List.set_cons_zero, List.set_cons_succ]
        refine wpAnyH_take (i := 1) (v := ?_) rfl (by kernel_rfl) (by kernel_rfl) (by kernel_rfl) (fun _ _ _ h => h) (Or.inl ⟨by rfl, ?_⟩) hHeld ?_
        rotate_left
        · (intro w' hSw; go_simp; try with_reducible rfl)
        simp only [Act.put, List.getElem_toArray, List.getElem_cons_succ, List.getElem_cons_zero, List.setIfInBounds_toArray, List.set_cons_zero, List.set_cons_succ]
        refine wpAnyH_take (i := 2) (v := ?_) rfl (by kernel_rfl) (by kernel_rfl) (by kernel_rfl) (fun _ _ _ h => h) (Or.inl ⟨by rfl, ?_⟩) hHeld ?_
        rotate_left
        · (intro w' hSw; go_simp; try with_reducible rfl)
        simp only [Act.put, List.getElem_toArray, List.getElem_cons_succ, List.getElem_cons_zero, List.setIfInBounds_toArray, List.set_cons_zero, List.set_cons_succ]
        refine wpAnyH_take (i := 3) (v := ?_) rfl (by kernel_rfl) (by kernel_rfl) (by kernel_rfl) (fun _ _ _ h => h) (Or.inl ⟨by rfl, ?_⟩) hHeld ?_
        rotate_left
        · (intro w' hSw; go_simp; try with_reducible rfl)
        simp only [Act.put, List.getElem_toArray, List.getElem_cons_succ, List.getElem_cons_zero, List.setIfInBounds_toArray, List.set_cons_zero, List.set_cons_succ]
        refine wpAnyH_take (i := 4) (v := ?_) rfl (by kernel_rfl) (by kernel_rfl) (by kernel_rfl) (fun _ _ _ h => h) (Or.inl ⟨by rfl, ?_⟩) hHeld ?_
        rotate_left
        · (intro w' hSw; go_simp; try with_reducible rfl)
        simp only [Act.put, List.getElem_toArray, List.getElem_cons_succ, List.getElem_cons_zero, List.setIfInBounds_toArray, List.set_cons_zero, List.set_cons_succ]
        refine wpAnyH_take (i := 5) (v := ?_) rfl (by kernel_rfl) (by kernel_rfl) (by kernel_rfl) (fun _ _ _ h => h) (Or.inl ⟨by rfl, ?_⟩) hHeld ?_
        rotate_left
        · (intro w' hSw; obtain ⟨s0, s1, s2⟩ := hSw; have q0 := s0.cell 0; simp only [List.getElem?_toArray, List.getElem?_cons_zero, List.getElem?_cons_succ] at q0; go_simp; try with_reducible rfl)
        simp only [Act.put, List.getElem_toArray, List.getElem_cons_succ, List.getElem_cons_zero, List.setIfInBounds_toArray, List.set_cons_zero, List.set_cons_succ]
        refine wpAnyH_take (i := 6) (v := ?_) rfl (by kernel_rfl) (by kernel_rfl) (by kernel_rfl) (fun _ _ _ h => h) (Or.inl ⟨by rfl, ?_⟩) hHeld ?_
        rotate_left
        · (intro w' hSw; go_simp; try with_reducible rfl)
        simp only [Act.put, List.getElem_toArray, List.getElem_cons_succ, List.getElem_cons_zero, List.setIfInBounds_toArray, List.set_cons_zero, List.set_cons_succ]
        refine wpAnyH_take (i := 7) (v := ?_) rfl (by kernel_rfl) (by kernel_rfl) (by kernel_rfl) (fun _ _ _ h => h) (Or.inl ⟨by rfl, ?_⟩) hHeld ?_
        rotate_left
        · (intro w' hSw; go_simp; try with_reducible rfl)
        simp only [Act.put, List.getElem_toArray, List.getElem_cons_succ, List.getElem_cons_zero, List.setIfInBounds_toArray, List.set_cons_zero, List.set_cons_succ]
        refine wpAnyH_take (i := 8) (v := ?_) rfl (by kernel_rfl) (by kernel_rfl) (by kernel_rfl) (fun _ _ _ h => h) (Or.inl ⟨by rfl, ?_⟩) hHeld ?_
        rotate_left
        · (intro w' hSw; go_simp; try with_reducible rfl)
        simp only [Act.put, List.getElem_toArray, List.getElem_cons_succ, List.getElem_cons_zero, List.setIfInBounds_toArray, List.set_cons_zero, List.set_cons_succ]
        refine wpAnyH_take (i := 9) (v := ?_) rfl (by kernel_rfl) (by kernel_rfl) (by kernel_rfl) (fun _ _ _ h => h) (Or.inl ⟨by rfl, ?_⟩) hHeld ?_
        rotate_left
        · (intro w' hSw; obtain ⟨s0, s1, s2⟩ := hSw; have q0 := s0.cell 0; simp only [List.getElem?_toArray, List.getElem?_cons_zero, List.getElem?_cons_succ] at q0; go_simp; try with_reducible rfl)
        simp only [Act.put, List.getElem_toArray, List.getElem_cons_succ, List.getElem_cons_zero, List.setIfInBounds_toArray, List.set_cons_zero, List.set_cons_succ]
        refine wpAnyH_take (i := 10) (v := ?_) rfl (by kernel_rfl) (by kernel_rfl) (by kernel_rfl) (fun _ _ _ h => h) (Or.inl ⟨by rfl, ?_⟩) hHeld ?_
        rotate_left
        · (intro w' hSw; go_simp; try with_reducible rfl)
        simp only [Act.put, List.getElem_toArray, List.getElem_cons_succ, List.getElem_cons_zero, List.setIfInBounds_toArray, List.set_cons_zero, List.set_cons_succ]
        refine wpAnyH_take (i := 11) (v := ?_) rfl (by kernel_rfl) (by kernel_rfl) (by kernel_rfl) (fun _ _ _ h => h) (Or.inl ⟨by rfl, ?_⟩) hHeld ?_
        rotate_left
        · (intro w' hSw; go_simp; try with_reducible rfl)
        simp only [Act.put, List.getElem_toArray, List.getElem_cons_succ, List.getElem_cons_zero, List.setIfInBounds_toArray, List.set_cons_zero, List.set_cons_succ]
        refine wpAnyH_take (i := 12) (v := ?_) rfl (by kernel_rfl) (by kernel_rfl) (by kernel_rfl) (fun _ _ _ h => h) (Or.inl ⟨by rfl, ?_⟩) hHeld ?_
        rotate_left
        · (intro w' hSw; go_simp; try with_reducible rfl)
        simp only [Act.put, List.getElem_toArray, List.getElem_cons_succ, List.getElem_cons_zero, List.setIfInBounds_toArray, List.set_cons_zero, List.set_cons_succ]
        refine wpAnyH_take (i := 13) (v := ?_) rfl (by kernel_rfl) (by kernel_rfl) (by kernel_rfl) (fun _ _ _ h => h) (Or.inl ⟨by rfl, ?_⟩) hHeld ?_
        rotate_left
        · (intro w' hSw; go_simp; try with_reducible rfl)
        simp only [Act.put, List.getElem_toArray, List.getElem_cons_succ, List.getElem_cons_zero, List.setIfInBounds_toArray, List.set_cons_zero, List.set_cons_succ]
        refine wpAnyH_take (i := 14) (v := ?_) rfl (by kernel_rfl) (by kernel_rfl) (by kernel_rfl) (fun _ _ _ h => h) (Or.inl ⟨by rfl, ?_⟩) hHeld ?_
        rotate_left
        · (intro w' hSw; obtain ⟨s0, s1, s2⟩ := hSw; have q0 := s0.cell 0; simp only [List.getElem?_toArray, List.getElem?_cons_zero, List.getElem?_cons_succ] at q0; go_simp; try with_reducible rfl)
        simp only [Act.put, List.getElem_toArray, List.getElem_cons_succ, List.getElem_cons_zero, List.setIfInBounds_toArray, List.set_cons_zero, List.set_cons_succ]
        refine wpAnyH_take (i := 15) (v := ?_) rfl (by kernel_rfl) (by kernel_rfl) (by kernel_rfl) (fun _ _ _ h => h) (Or.inl ⟨by rfl, ?_⟩) hHeld ?_
        rotate_left
        · (intro w' hSw; go_simp; try with_reducible rfl)
        simp only [Act.put, List.getElem_toArray, List.getElem_cons_succ, List.getElem_cons_zero, List.setIfInBounds_toArray, List.set_cons_zero, List.set_cons_succ]
        refine wpAnyH_take (i := 16) (v := ?_) rfl (by kernel_rfl) (by kernel_rfl) (by kernel_rfl) (fun _ _ _ h => h) (Or.inl ⟨by rfl, ?_⟩) hHeld ?_
        rotate_left
        · (intro w' hSw; go_simp; try with_reducible rfl)
        simp only [Act.put, List.getElem_toArray, List.getElem_cons_succ, List.getElem_cons_zero, List.setIfInBounds_toArray, List.set_cons_zero, List.set_cons_succ]
        refine wpAnyH_take (i := 17) (v := ?_) rfl (by kernel_rfl) (by kernel_rfl) (by kernel_rfl) (fun _ _ _ h => h) (Or.inl ⟨by rfl, ?_⟩) hHeld ?_
        rotate_left
        · (intro w' hSw; go_simp; try with_reducible rfl)
        simp only [Act.put, List.getElem_toArray, List.getElem_cons_succ, List.getElem_cons_zero, List.setIfInBounds_toArray, List.set_cons_zero, List.set_cons_succ]
        refine wpAnyH_take (i := 18) (v := .agg XA) rfl (by kernel_rfl) (by kernel_rfl) (by kernel_rfl) (fun _ _ _ h => h) (Or.inl ⟨by rfl, fun w' hSw => sk_run_load T37 hAs hSw.2.2 _ (by rfl) (by rfl)⟩) hHeld ?_
        simp only [Act.put, List.getElem_toArray, List.getElem_cons_succ, List.getElem_cons_zero, List.setIfInBounds_toArray, List.set_cons_zero, List.set_cons_succ]
        refine wpAnyH_take (i := 19) (v := .agg PA) rfl (by kernel_rfl) (by kernel_rfl) (by kernel_rfl) (fun _ _ _ h => h) (Or.inl ⟨by rfl, fun w' hSw => run_exec_build hbd _ _ (by rfl) (by rfl) (by rfl)⟩) hHeld ?_
        simp only [Act.put, List.getElem_toArray, List.getElem_cons_succ, List.getElem_cons_zero, List.setIfInBounds_toArray, List.set_cons_zero, List.set_cons_succ]
        refine wpAnyH_ready (rs := [20]) (by kernel_rfl) (by simp) ?_
        refine AllReadyH.cons rfl (fun K hK => ?_) AllReadyH.nil
        refine step_bs Try.underlying41 hi0 hz0 hz1 hPs (by omega) (by omega) (by rfl) _ (by rfl) (by rfl) ?_
        refine hK _ _ ⟨hHeld.1.alloc _, (World.cell?_alloc_lt _ _ _ (show gl < wr.drew.heap.size by exact hgl)).trans hHeld.2.1, fun j v hv => (World.cell?_alloc_lt _ _ _ (show gl < wr.drew.heap.size by exact hgl)).trans (hHeld.2.2 j v hv)⟩ (fun hHeld => ?_)
        clear hK K
        simp only [Act.put, List.getElem_toArray, List.getElem_cons_succ, List.getElem_cons_zero, List.setIfInBounds_toArray, List.set_cons_zero, List.set_cons_succ]
        refine wpAnyH_ready (rs := [21]) (by kernel_rfl) (by simp) ?_
        refine AllReadyH.cons rfl (fun K hK => ?_) AllReadyH.nil
        refine step_append_row _ rfl _ _ 41 rfl 49 i0 (.agg zP) 21 168 Try.underlying41 hi0 hz0 hz1 hz2 rfl (.slice A m cc) m (plcCells (D k)) (by rfl) ((HROW.out.drew).alloc _) ⟨wr.heap.size, 0, none⟩ 1 1 PA.toList (by rfl) hPL (World.news_of_block (cs := PA) (t := 49) (fr := (0, 0)) (heap_alloc_new wr.drew _)) hP1 (by omega) (by unfold maxLen; omega) (by omega) (wr.heap.size + 1) (by simp) ?_
        intro gg cap w4 hr4 hg4 hat4 hlt4
        have HR4 := Lib.hid hr4
        have HG4 := Lib.hid hg4
        have HA4 := Lib.hid hat4
        have hnp : some p ≠ (Value.slice A m cc).ownBlock := fun e => by have := HFO.out p (row_mem e.symm); omega
        have hng : some gl ≠ (Value.slice A m cc).ownBlock := fun e => by have := HFO.out gl (row_mem e.symm); omega
        have hgb := hg4.block gl (by simp; omega) hng
        have hpb := hg4.block p (by simp; omega) hnp
        refine hK _ _ ⟨hHeld.1.same hpb, (World.cell?_of_block hgb).trans hHeld.2.1, fun j v hv => (World.cell?_of_block hgb).trans (hHeld.2.2 j v hv)⟩ (fun hHeld => ?_)
        clear hK K
        simp only [Act.put, List.getElem_toArray, List.getElem_cons_succ, List.getElem_cons_zero, List.setIfInBounds_toArray, List.set_cons_zero, List.set_cons_succ]
        clear hr4 hg4 hat4 hnp hng hgb hpb
        refine wpAnyH_take (i := 22) (v := ?_) rfl (by kernel_rfl) (by kernel_rfl) (by kernel_rfl) (fun _ _ _ h => h) (Or.inl ⟨by rfl, ?_⟩) hHeld ?_
        rotate_left
        · (intro w' hSw; go_simp; try with_reducible rfl)
        simp only [Act.put, List.getElem_toArray, List.getElem_cons_succ, List.getElem_cons_zero, List.setIfInBounds_toArray, List.set_cons_zero, List.set_cons_succ]
        refine wpAnyH_done (by kernel_rfl) ?_ _
        clear hHeld
        go_wp2
        go_roundw
        case rel =>
          have e1 : (D (k + 1)).length = m + 1 := by rw [HDYk.out, List.length_append, ← HM.out]; rfl
          refine ⟨k + 1, some ⟨gg, 0, none⟩, cap, by omega, by go_num, by rw [e1], ?_, ?_, ?_⟩
          · rw [e1, HDYk.out, HSN.out]; exact HR4.out
          · rw [e1]
            intro j hj
            simp [foot_some] at hj
            subst hj
            rcases HA4.out with h9 | h9
            · exact HFO.out _ (row_mem h9)
            · rw [h9]; have := HCR.out.size; omega
          · exact (HCR.out.drew.alloc _).grown HG4.out (fun j hj => .inr (HFO.out j (row_mem hj)))
        case measure => simp [intOfN]; omega
    · obtain rfl : k = n := by omega
      go_wp2
      go_ret
      exact ⟨A, cc, rfl, hrow, hfo, hcr⟩
end Go.Proofs
end
section
namespace Go.Proofs
open Go.RowKit
set_option linter.unusedVariables false
set_option linter.unusedSimpArgs false

def dAff (L : List (Spot Gr)) : List UInt8 := L.map fun s => s.thing.af
set_option maxRecDepth 100000 in
set_option maxHeartbeats 3200000 in
theorem rAff_any {w : World} {p : Nat} {S : List Nat} {r : Rt} (h : DAt w p S r) (hl : r.L.length ≤ 64) :
    Calls Try.prog 36 #[ptr p] w fun e w' => ∃ V, e = .returned V ∧ Row w' 5 1 V (dAff r.L).length (bys (dAff r.L)) ∧ (∀ k ∈ foot V, w.heap.size ≤ k) ∧ Chg [] w w' := by
  obtain ⟨VL, VF, hB, hS, hF, hSS⟩ := h
  obtain ⟨AL, cL, rfl, _⟩ := hS.val
  obtain ⟨n, hn⟩ : ∃ n, n = r.L.length := ⟨_, rfl⟩
  have hdl : (dAff r.L).length = n := by simp [dAff, hn]
  rw [hdl]
  rw [← hn] at hB hl
  have HB := Lib.hid hB
  have HS := Lib.hid hS
  have HSp := Lib.hid (fun k (hk : k < n) => (⟨_, List.getElem?_eq_getElem (by omega)⟩ : ∃ s, r.L[k]? = some s))
  have htk : ∀ k s, r.L[k]? = some s → bys ((dAff r.L).take (k + 1)) = bys ((dAff r.L).take k) ++ [.int .u8 s.thing.af.toNat] := fun k s hs => by
    have hk := (List.getElem?_eq_some_iff.1 hs).1
    rw [List.take_succ_eq_append_getElem (by rw [hdl]; omega)]
    unfold bys dAff
    simp [(List.getElem?_eq_some_iff.1 hs).2]
  obtain ⟨D, hD⟩ : ∃ D : Nat → List Value, D = fun k => bys ((dAff r.L).take k) := ⟨_, rfl⟩
  have hD0 : D 0 = [] := by rw [hD]; rfl
  have hDn : D n = bys (dAff r.L) := by rw [hD]; simp only; rw [← hdl, List.take_length]
  have hDs : ∀ k s, r.L[k]? = some s → D (k + 1) = D k ++ [.int .u8 s.thing.af.toNat] := by rw [hD]; exact htk
  have HD0 := Lib.hid hD0
  have HDn := Lib.hid hDn
  have HDs := Lib.hid hDs
  obtain ⟨i0, hi0, hz0, hz1, hz2⟩ := info_parts Try.info_B
  clear hB hS hF hSS hn hD hD0 hDn hDs htk hdl
  go_enter Try.func36, Try.ntmps36
  go_wp2
  go_loopw [3, 4] (fun ov iv wr => ∃ (k : Nat) (A : Option Addr) (cc : Nat), k ≤ n ∧ iv = .int .i64 k ∧ ov = .slice A k cc ∧ Row wr 5 1 (.slice A k cc) k (D k) ∧ (∀ j ∈ foot (.slice A k cc), w.heap.size ≤ j) ∧ Chg [] w wr) (fun ov iv wr => n - (intOfN iv).toNat)
  case atStart => exact ⟨0, none, 0, by omega, rfl, rfl, by rw [HD0.out]; exact Row.nil _ _ _, by simp [foot_nil], Chg.refl _ _⟩
  case round =>
    obtain ⟨k, A, cc, hk, rfl, rfl, hrow, hfo, hcr⟩ := hrel
    have z0 := (HB.out.chg hcr (by simp)).cell 0
    have k0 : (0 : Int) ≤ (k : Int) := by omega
    by_cases hlt : k < n
    · have k1 : (k : Int) < (n : Int) := by omega
      obtain ⟨s, hs⟩ := HSp.out k hlt
      obtain ⟨gl, cl, hv, hfl, _, hgl, _, _, _, hax, _⟩ := open_spot (HS.out.chg hcr (fun _ _ h => by cases h)) hs
      simp only [Value.slice.injEq] at hv
      obtain ⟨rfl, h91, h92⟩ := hv
      have h6 := hax 6 _ s.thing.a6
      have h8 : k * 21 + 2 + 6 = k * 21 + 8 := rfl
      have HDk := Lib.hid (HDs.out k s hs)
      generalize (s.thing.af.toNat : Int) = af at *
      have HROW := Lib.hid hrow
      have HFO := Lib.hid hfo
      have HCR := Lib.hid hcr
      clear h91 h92 hfl hs hax hrow hfo hcr h8
      go_wp2_with (at_builtin; refine wpList_append_row _ rfl _ _ 71 rfl 5 i0 (.int .u8 0) 1 1 Try.underlying71 hi0 hz0 hz1 hz2 rfl (.slice A k cc) k (D k) (by rfl) (HROW.out.alloc _) ⟨wr.heap.size, 0, none⟩ 1 1 [.int .u8 af] rfl rfl (World.news_of_block (cs := #[.int .u8 af]) (t := 5) (fr := (0, 0)) (heap_alloc_new wr _)) (by simp [Value.oneCell']) (by omega) (by unfold maxLen; omega) (by omega) (wr.heap.size + 1) (by simp) ?_; intro gg cap w4 hr4 hg4 hat4 hlt4; have HR4 := Lib.hid hr4; have HG4 := Lib.hid hg4; have HA4 := Lib.hid hat4; clear hr4 hg4 hat4)
      go_roundw
      case rel =>
        refine ⟨k + 1, some ⟨gg, 0, none⟩, cap, by omega, by go_num, rfl, ?_, ?_, ?_⟩
        · rw [HDk.out]; exact HR4.out
        · intro j hj
          simp [foot_some] at hj
          subst hj
          rcases HA4.out with h9 | h9
          · exact HFO.out _ (row_mem h9)
          · rw [h9]; have := HCR.out.size; omega
        · exact (HCR.out.alloc _).grown HG4.out (fun j hj => .inr (HFO.out j (row_mem hj)))
      case measure => simp [intOfN]; omega
    · obtain rfl : k = n := by omega
      go_wp2
      go_ret
      exact ⟨_, rfl, by rw [HDn.out] at hrow; exact hrow, hfo, hcr⟩
/-- The document's table of so many places. -/
def newR (n : Nat) : Rt := ⟨List.replicate n ⟨1, false, Gr.zero⟩, (List.range n).map fun j => n - 1 - j⟩
theorem Try.info_79 : (Try.prog.info? 79).map (fun i => (i.zero, i.size, i.bytes)) = some (some (.agg (Go.Proofs.gone 0)), 21, 168) := by kernel_rfl
set_option maxRecDepth 100000 in
set_option maxHeartbeats 3200000 in
theorem rNew_any (n : Nat) (hn : n ≤ 64) (w : World) : Calls Try.prog 31 #[.int .i64 (n : Nat)] w fun e w' => ∃ S, e = .returned (ptr w.heap.size) ∧ DAt w' w.heap.size S (newR n) ∧ (∀ k ∈ S, w.heap.size ≤ k) ∧ Chg [] w w' := by
  obtain ⟨i0, hi0, hz0, hz1, hz2⟩ := info_parts Try.info_79
  obtain ⟨ni, hj0, hy0, hy1, hy2⟩ := info_parts Try.num_info_C
  have hsp : ∀ k, spotCells (List.replicate (k + 1) (⟨1, false, Gr.zero⟩ : Spot Gr)) = spotCells (List.replicate k ⟨1, false, Gr.zero⟩) ++ (Go.Proofs.gone 1).toList := fun k => by
    rw [List.replicate_succ', spotCells_append, spotCells_one]; rfl
  have hnm : ∀ k, k < n → numCells ((List.range (k + 1)).map fun j => n - 1 - j) = numCells ((List.range k).map fun j => n - 1 - j) ++ [.int .i64 ((n : Int) - 1 - (k : Int))] := fun k hk => by
    rw [List.range_succ, List.map_append]
    unfold numCells
    rw [List.map_append]
    simp
    omega
  obtain ⟨C1, hC1⟩ : ∃ C1 : Nat → List Value, C1 = fun k => spotCells (List.replicate k ⟨1, false, Gr.zero⟩) := ⟨_, rfl⟩
  obtain ⟨C2, hC2⟩ : ∃ C2 : Nat → List Value, C2 = fun k => numCells ((List.range k).map fun j => n - 1 - j) := ⟨_, rfl⟩
  have hs1 : ∀ k, C1 (k + 1) = C1 k ++ (Go.Proofs.gone 1).toList := by rw [hC1]; exact hsp
  have hs2 : ∀ k, k < n → C2 (k + 1) = C2 k ++ [.int .i64 ((n : Int) - 1 - (k : Int))] := by rw [hC2]; exact hnm
  have h10 : C1 0 = [] := by rw [hC1]; rfl
  have h20 : C2 0 = [] := by rw [hC2]; rfl
  have h1n : C1 n = spotCells (newR n).L := by rw [hC1]; rfl
  have h2n : C2 n = numCells (newR n).F := by rw [hC2]; rfl
  have HS1 := Lib.hid hs1
  have HS2 := Lib.hid hs2
  have H10 := Lib.hid h10
  have H20 := Lib.hid h20
  have H1n := Lib.hid h1n
  have H2n := Lib.hid h2n
  clear hsp hnm hC1 hC2 hs1 hs2 h10 h20 h1n h2n
  go_enter Try.func31, Try.ntmps31
  go_wp2
  go_loopw [4] (fun iv wr => ∃ (k : Nat) (A1 A2 : Option Addr) (c1 c2 : Nat), k ≤ n ∧ iv = .int .i64 k ∧ Blk wr w.heap.size 83 #[.slice A1 k c1, .slice A2 k c2] ∧ Row wr 79 21 (.slice A1 k c1) k (C1 k) ∧ Row wr 3 1 (.slice A2 k c2) k (C2 k) ∧ (∀ j ∈ foot (.slice A1 k c1), w.heap.size < j) ∧ (∀ j ∈ foot (.slice A2 k c2), w.heap.size < j) ∧ Chg [] w wr) (fun iv wr => n - (intOfN iv).toNat)
  case atStart => exact ⟨0, none, none, 0, 0, by omega, rfl, Blk.new w 83 _, by rw [H10.out]; exact Row.nil _ _ _, by rw [H20.out]; exact Row.nil _ _ _, by simp [foot_nil], by simp [foot_nil], (Chg.refl [] w).alloc _⟩
  case round =>
    obtain ⟨k, A1, A2, c1, c2, hk, rfl, hB, hR1, hR2, hf1, hf2, hcr⟩ := hrel
    have z0 := hB.cell 0
    have z1 := hB.cell 1
    have zf0 := hB.frozen 0
    have zf1 := hB.frozen 1
    have k0 : (0 : Int) ≤ (k : Int) := by omega
    by_cases hlt : k < n
    · have k1 : (k : Int) < (n : Int) := by omega
      have hw := hB.lt
      have h12 := hR1.ty2 hR2 (by decide)
      have HB := Lib.hid hB
      have HR1 := Lib.hid hR1
      have HR2 := Lib.hid hR2
      have HF1 := Lib.hid hf1
      have HF2 := Lib.hid hf2
      have HCR := Lib.hid hcr
      have H12 := Lib.hid h12
      have hsz := hcr.size
      clear hB hR1 hR2 hf1 hf2 hcr h12
      go_wp2_with (first
        | (at_builtin; refine wpList_append_row _ rfl _ _ 80 rfl 79 i0 (.agg (Go.Proofs.gone 0)) 21 168 Try.underlying80 hi0 hz0 hz1 hz2 rfl (.slice A1 k c1) k (C1 k) (by rfl) (HR1.out.alloc _) ⟨wr.heap.size, 0, none⟩ 1 1 (Go.Proofs.gone 1).toList rfl rfl (World.news_of_block (cs := Go.Proofs.gone 1) (t := 79) (fr := (0, 0)) (heap_alloc_new wr _)) (fun u hu => (Array.all_eq_true_iff_forall_mem.1 (gone_one 1)) u (by simpa using hu)) (by omega) (by unfold maxLen; omega) (by omega) (wr.heap.size + 1) (by simp) ?_; intro g4 cap4 w4 hr4 hg4 hat4 hlt4; have hb4 := HB.out.same ((hg4.block w.heap.size (by simp; omega) (fun e => by have := HF1.out _ (row_mem e.symm); omega)).trans (((Blk.alloc HB.out (.cells (Go.Proofs.gone 1) 79))).trans HB.out.symm)); have x0 := hb4.cell 0; have x1 := hb4.cell 1; have xf0 := hb4.frozen 0; have xf1 := hb4.frozen 1; have HR4 := Lib.hid hr4; have HG4 := Lib.hid hg4; have HA4 := Lib.hid hat4; have HB4 := Lib.hid hb4; have hsz4 : wr.heap.size + 1 ≤ w4.heap.size := (by simpa using hg4.size); have HR24 := Lib.hid ((HR2.out.alloc (.cells (Go.Proofs.gone 1) 79)).same (fun j hj => hg4.block j (by have := HR2.out.lt j hj; simp; omega) (fun e => H12.out j (row_mem e.symm) hj))); clear hr4 hg4 hat4 hb4)
        | (at_builtin; refine wpList_append_row _ rfl _ _ 81 rfl 3 ni (.int .i64 0) 1 8 Try.underlying81 hj0 hy0 hy1 hy2 rfl (.slice A2 k c2) k (C2 k) (by rfl) ((HR24.out.far (p := ⟨w.heap.size, 0, none⟩) (fun hj => by have := HF2.out _ hj; simp at this) (.slice (some ⟨g4, 0, none⟩) (k + 1) cap4)).alloc _) ⟨w4.heap.size, 0, none⟩ 1 1 [.int .i64 ((n : Int) - 1 - (k : Int))] rfl rfl (World.news_of_block (cs := #[.int .i64 ((n : Int) - 1 - (k : Int))]) (t := 3) (fr := (0, 0)) (by have := heap_alloc_new (w4.setCell ⟨w.heap.size, 0, none⟩ (.slice (some ⟨g4, 0, none⟩) (k + 1) cap4)) (.cells #[.int .i64 ((n : Int) - 1 - (k : Int))] 3); simpa using this)) (by simp [Value.oneCell']) (by omega) (by unfold maxLen; omega) (by omega) (w4.heap.size + 1) (by simp) ?_; intro g5 cap5 w5 hr5 hg5 hat5 hlt5; have hb5 := ((HB4.out.set_ 0 (.slice (some ⟨g4, 0, none⟩) (k + 1) cap4)).alloc (.cells #[.int .i64 ((n : Int) - 1 - (k : Int))] 3)).same (hg5.block w.heap.size (by simp; omega) (fun e => by have := HF2.out _ (row_mem e.symm); omega)); have v1 := hb5.cell 1; have vf1 := hb5.frozen 1; have HB5 := Lib.hid hb5; have HR5 := Lib.hid hr5; have HG5 := Lib.hid hg5; have HA5 := Lib.hid hat5; clear hr5 hg5 hat5 hb5))
      go_roundw
      case rel =>
        have hf4 : ∀ j ∈ foot (.slice (some ⟨g4, 0, none⟩) (k + 1) cap4), w.heap.size < j := fun j hj => by
          simp [foot_some] at hj
          subst hj
          rcases HA4.out with h9 | h9
          · exact HF1.out _ (row_mem h9)
          · rw [h9]; omega
        have hf5 : ∀ j ∈ foot (.slice (some ⟨g5, 0, none⟩) (k + 1) cap5), w.heap.size < j := fun j hj => by
          simp [foot_some] at hj
          subst hj
          rcases HA5.out with h9 | h9
          · exact HF2.out _ (row_mem h9)
          · rw [h9]; omega
        have hr4 := ((HR4.out.far (p := ⟨w.heap.size, 0, none⟩) (fun hj => by have := hf4 _ hj; simp at this) (.slice (some ⟨g4, 0, none⟩) (k + 1) cap4)))
        have hr45 := (hr4.alloc (.cells #[.int .i64 ((n : Int) - 1 - (k : Int))] 3)).same (fun j hj => HG5.out.block j (by have := hr4.lt j hj; simp at this ⊢; omega) (fun e => hr4.ty2 (HR24.out.far (p := ⟨w.heap.size, 0, none⟩) (fun hj => by have := HF2.out _ hj; simp at this) (.slice (some ⟨g4, 0, none⟩) (k + 1) cap4)) (by decide) j hj (row_mem e.symm)))
        refine ⟨k + 1, some ⟨g4, 0, none⟩, some ⟨g5, 0, none⟩, cap4, cap5, by omega, by go_num, HB5.out.set_ 1 _, ?_, ?_, hf4, hf5, ?_⟩
        · rw [HS1.out]; exact hr45.far (p := ⟨w.heap.size, 1, none⟩) (fun hj => by have := hf4 _ hj; simp at this) _
        · rw [HS2.out k (by omega)]; exact HR5.out.far (p := ⟨w.heap.size, 1, none⟩) (fun hj => by have := hf5 _ hj; simp at this) _
        · exact (((((HCR.out.alloc _).grown HG4.out (fun j hj => .inr (Nat.le_of_lt (HF1.out j (row_mem hj))))).setCell (p := ⟨w.heap.size, 0, none⟩) (.inr (Nat.le_refl _)) _).alloc _).grown HG5.out (fun j hj => .inr (Nat.le_of_lt (HF2.out j (row_mem hj))))).setCell (p := ⟨w.heap.size, 1, none⟩) (.inr (Nat.le_refl _)) _
      case measure => simp [intOfN]; omega
    · obtain rfl : k = n := by omega
      go_wp2
      go_ret
      refine ⟨_, rfl, ⟨_, _, hB, ?_, ?_, rfl⟩, ?_, hcr⟩
      · rw [← H1n.out]; simpa [newR] using hR1
      · rw [← H2n.out]; simpa [newR] using hR2
      · intro j hj
        simp only [List.mem_cons, List.mem_append] at hj
        rcases hj with rfl | hj | hj
        · exact Nat.le_refl _
        · exact Nat.le_of_lt (hf1 j hj)
        · exact Nat.le_of_lt (hf2 j hj)
end Go.Proofs
end
section
namespace Go.Proofs
open Go.RowKit
set_option linter.unusedVariables false
set_option linter.unusedSimpArgs false

/-! ### The document's table, out of the code's -/
abbrev z1 : Spot Gr := ⟨1, false, Gr.zero⟩
def Tab.n (t : Tab Gr) : Nat := t.size.toNat
def docT (t : Tab Gr) : Rt := ⟨t.spots ++ List.replicate (t.n - t.spots.length) z1, ((List.range (t.n - t.spots.length)).map fun j => t.n - 1 - j) ++ t.freed⟩
structure Inv (t : Tab Gr) (N M : Nat) : Prop where
  wf : t.WF
  size : t.size = (N : Nat)
  n64 : N ≤ 64
  first : t.first = 1
  gen : ∀ (k : Nat) (s : Spot Gr), t.spots[k]? = some s → s.gen ≤ M + 1
  zero : ∀ (k : Nat) (s : Spot Gr), t.spots[k]? = some s → s.there = false → s.thing = Gr.zero
  may : ∀ (k : Nat) (s : Spot Gr), t.spots[k]? = some s → s.there = true → mayP s.thing = true ∧ 0 ≤ s.thing.un
section
variable {t : Tab Gr} {N M : Nat}
theorem Inv.tn (h : Inv t N M) : t.n = N := by unfold Tab.n; rw [h.size]; rfl
theorem Inv.len (h : Inv t N M) : t.spots.length ≤ N := by have := h.wf.len; rw [h.size] at this; omega
theorem Inv.low (h : Inv t N M) (hM : M < 1000) : t.low := fun k s hs => by have := h.gen k s hs; rw [topG_val]; omega
theorem Inv.new (N : Nat) (h1 : 1 ≤ N) (h2 : N ≤ 64) : Inv ⟨(N : Nat), 1, [], [], 0⟩ N 0 :=
  ⟨Tab.WF.new (by omega) (by omega) (by decide) (by decide), rfl, h2, rfl, by simp, by simp, by simp⟩
theorem doc_new (N : Nat) : docT ⟨(N : Nat), 1, [], [], 0⟩ = newR N := by
  unfold docT newR Tab.n; simp
theorem docL_len (h : Inv t N M) : (docT t).L.length = N := by
  have := h.len
  unfold docT; simp only [List.length_append, List.length_replicate, h.tn]; omega
theorem docF_len (h : Inv t N M) : (docT t).F.length ≤ N := by
  have := h.len
  have hf := h.wf.freed_len
  unfold docT; simp only [List.length_append, List.length_map, List.length_range, h.tn]; omega
theorem docF_frees (h : Inv t N M) : ((docT t).F.length : Int) = t.frees := by
  have := h.len
  unfold docT Tab.frees; simp only [List.length_append, List.length_map, List.length_range, h.tn, h.size]; omega
theorem doc_at (t : Tab Gr) (k : Nat) : (docT t).L[k]? = if k < t.spots.length then t.spots[k]? else if k < t.spots.length + (t.n - t.spots.length) then some z1 else none := by
  unfold docT
  by_cases h : k < t.spots.length
  · rw [if_pos h]; simp only; rw [List.getElem?_append_left h]
  · rw [if_neg h]; simp only; rw [List.getElem?_append_right (by omega), List.getElem?_replicate]
    by_cases h2 : k < t.spots.length + (t.n - t.spots.length)
    · rw [if_pos (by omega), if_pos h2]
    · rw [if_neg (by omega), if_neg h2]
theorem doc_spot {k : Nat} {s : Spot Gr} (hs : t.spots[k]? = some s) : (docT t).L[k]? = some s := by
  rw [doc_at, if_pos (List.getElem?_eq_some_iff.1 hs).1, hs]
theorem doc_is (t : Tab Gr) (i q : Int) : (docT t).is i q = t.has i q := by
  unfold Rt.is Rt.at_ Tab.has Tab.live Tab.spot?
  by_cases h0 : 0 ≤ i
  · rw [if_pos h0, if_pos h0, doc_at]
    by_cases h : i.toNat < t.spots.length
    · rw [if_pos h, List.getElem?_eq_getElem h]
      generalize t.spots[i.toNat] = s
      obtain ⟨g, th, x⟩ := s
      simp only [Option.filter]
      cases th
      · simp
      · simp only [Bool.true_and, if_true]
        by_cases hg : g = q
        · simp [hg]
        · simp [hg]
    · rw [if_neg h, List.getElem?_eq_none (by omega)]
      split
      · rename_i h2
        split at h2
        · cases h2; rfl
        · cases h2
      · rfl
  · rw [if_neg h0, if_neg h0]; rfl
theorem doc_thg {i q : Int} (hq : t.has i q = true) : (docT t).thg i = t.getG i q := by
  obtain ⟨k, s, rfl, rfl, hs, hth⟩ := has_spot hq
  rw [thg_eq (doc_spot hs), getG_yes (live_nat.2 ⟨hs, hth⟩) hq]
theorem doc_set {k : Nat} (h : k < t.spots.length) (s : Spot Gr) : (docT t).L.set k s = t.spots.set k s ++ List.replicate (t.n - t.spots.length) z1 := by
  unfold docT; simp only; rw [List.set_append_left _ _ h]
theorem doc_thing {k : Nat} {s : Spot Gr} (hs : t.spots[k]? = some s) (x : Gr) : docT (t.thing k x) = (docT t).put (k : Nat) x := by
  rw [rput_eq (doc_spot hs), doc_set (List.getElem?_eq_some_iff.1 hs).1, thing_eq hs]
  unfold docT Tab.n; simp
theorem doc_setE (t : Tab Gr) (i q : Int) (x : Gr) : (docT t).setE i q x = t.setE i q x := by
  unfold Rt.setE Tab.setE
  rw [doc_is]
  cases hm : mayP x
  · simp
  · cases hq : t.has i q
    · simp
    · rw [doc_thg hq]
theorem doc_setT (t : Tab Gr) (i q : Int) (x : Gr) : (docT t).setT i q x = docT (t.setT i q x) := by
  unfold Rt.setT Tab.setT
  rw [doc_setE]
  by_cases h : t.setE i q x = 0
  · rw [if_pos h, if_pos h]
    have hq : t.has i q = true := by
      cases hq : t.has i q
      · unfold Tab.setE at h; rw [hq] at h; split at h
        · cases h
        · rw [if_pos rfl] at h; cases h
      · rfl
    obtain ⟨k, s, rfl, rfl, hs, hth⟩ := has_spot hq
    exact (doc_thing hs x).symm
  · rw [if_neg h, if_neg h]
theorem doc_turnE (t : Tab Gr) (i q to : Int) : (docT t).turnE i q to = t.turnE i q to := by
  unfold Rt.turnE Tab.turnE
  rw [doc_is]
  cases hq : t.has i q
  · simp
  · rw [doc_thg hq]
theorem doc_turnT (t : Tab Gr) (i q to : Int) : (docT t).turnT i q to = docT (t.turnT i q to) := by
  unfold Rt.turnT Tab.turnT
  rw [doc_turnE]
  by_cases h : t.turnE i q to = 0
  · rw [if_pos h, if_pos h]
    have hq : t.has i q = true := by
      cases hq : t.has i q
      · unfold Tab.turnE at h; rw [hq, if_pos rfl] at h; cases h
      · rfl
    rw [doc_thg hq]
    obtain ⟨k, s, rfl, rfl, hs, hth⟩ := has_spot hq
    exact (doc_thing hs _).symm
  · rw [if_neg h, if_neg h]
theorem doc_drE (t : Tab Gr) (i q : Int) : (docT t).drE i q = t.getE i q := by
  unfold Rt.drE Tab.getE; rw [doc_is]
theorem doc_drT (hl : t.low) (i q : Int) : (docT t).drT i q = docT (t.drT i q) := by
  unfold Rt.drT Tab.drT
  rw [doc_is]
  cases hq : t.has i q
  · simp
  · simp only [if_true]
    obtain ⟨k, s, rfl, rfl, hs, hth⟩ := has_spot hq
    have hlow := hl k s hs
    rw [show ((k : Nat) : Int).toNat = k from rfl, doc_set (List.getElem?_eq_some_iff.1 hs).1]
    unfold Tab.drop docT Tab.n
    rw [if_neg (by omega), if_neg (by omega)]
    simp
theorem doc_mk (h : Inv t N M) (hf : t.frees ≠ 0) (x : Gr) : ∃ l s, (docT t).F = l ++ [t.takeAt] ∧ (docT t).L[t.takeAt]? = some s ∧ s.gen = t.genAt t.takeAt ∧ l.length ≤ 64 ∧ docT (t.put Gr.zero x) = ⟨(docT t).L.set t.takeAt ⟨s.gen, true, x⟩, l⟩ := by
  have hlen := h.len
  have h64 := h.n64
  have hF := docF_len h
  rcases List.eq_nil_or_concat t.freed with hn | ⟨l, k, hk⟩
  · obtain ⟨e1, e2⟩ := take_nil (z := Gr.zero) hn
    have hlt : t.spots.length < N := by
      unfold Tab.frees at hf; rw [hn, h.size] at hf; simp at hf; omega
    obtain ⟨m, hm⟩ : ∃ m, N - t.spots.length = m + 1 := ⟨N - t.spots.length - 1, by omega⟩
    rw [e2]
    refine ⟨(List.range m).map fun j => N - 1 - j, z1, ?_, ?_, ?_, by simp; omega, ?_⟩
    · unfold docT; simp only [h.tn, hm, hn, List.append_nil]
      rw [List.range_succ, List.map_append]
      simp; omega
    · rw [doc_at, if_neg (by omega), if_pos (by rw [h.tn]; omega)]
    · unfold Tab.genAt; simp [h.first]
    · rw [put_eq h.wf hf x, e1, e2]
      unfold docT Tab.n
      simp only [h.size, Int.toNat_natCast, hm, List.replicate_succ, hn, List.append_nil]
      have hg : t.genAt t.spots.length = 1 := by unfold Tab.genAt; simp [h.first]
      rw [hg]
      have e3 : (t.spots ++ [(⟨t.first, false, Gr.zero⟩ : Spot Gr)]).set t.spots.length ⟨1, true, x⟩ = t.spots ++ [⟨1, true, x⟩] := by
        rw [List.set_append_right _ _ (by omega), Nat.sub_self]; rfl
      rw [e3]
      rw [List.set_append_right _ _ (by omega), Nat.sub_self]
      simp only [List.length_append, List.length_cons, List.length_nil, List.set_cons_zero]
      rw [show N - (t.spots.length + (0 + 1)) = m by omega]
      simp
  · rw [List.concat_eq_append] at hk
    obtain ⟨e1, e2⟩ := take_cons (z := Gr.zero) hk
    obtain ⟨s, hs, hth, hg⟩ := h.wf.free k (by rw [hk]; simp)
    rw [e2]
    refine ⟨((List.range (N - t.spots.length)).map fun j => N - 1 - j) ++ l, s, ?_, doc_spot hs, ?_, ?_, ?_⟩
    · unfold docT; simp only [h.tn, hk]; simp
    · unfold Tab.genAt; rw [hs]
    · unfold docT at hF; simp only [h.tn, hk, List.length_append, List.length_map, List.length_range, List.length_cons, List.length_nil] at hF ⊢; omega
    · have hg2 : t.genAt k = s.gen := by unfold Tab.genAt; rw [hs]
      rw [put_eq h.wf hf x, e1, e2, hg2, doc_set (List.getElem?_eq_some_iff.1 hs).1]
      unfold docT Tab.n
      simp [h.size]
theorem fm_congr {α β : Type} {f g : α → Option β} : ∀ {l : List α}, (∀ a ∈ l, f a = g a) → l.filterMap f = l.filterMap g
  | [], _ => rfl
  | a :: l, h => by
    rw [List.filterMap_cons, List.filterMap_cons, h a (by simp), fm_congr (fun b hb => h b (by simp [hb]))]
theorem doc_all (h : Inv t N M) : dL (docT t).L N = nowL t N := by
  unfold dL nowL
  apply fm_congr
  intro i hi
  have hi2 := List.mem_range.1 hi
  rw [doc_at]
  by_cases hk : i < t.spots.length
  · rw [if_pos hk, List.getElem?_eq_getElem hk]
    simp only
    cases hb : (t.spots[i]).there
    · have : t.live (i : Nat) = none := by
        cases hl : t.live (i : Nat) with
        | none => rfl
        | some s =>
          have := live_nat.1 hl
          rw [List.getElem?_eq_getElem hk] at this
          obtain ⟨h1, h2⟩ := this
          cases h1; rw [hb] at h2; cases h2
      simp [this]
    · have : t.live (i : Nat) = some (t.spots[i]) := live_nat.2 ⟨List.getElem?_eq_getElem hk, hb⟩
      simp [this]
  · rw [if_neg hk]
    have hn : t.live (i : Nat) = none := by
      cases hl : t.live (i : Nat) with
      | none => rfl
      | some s => have := (live_nat.1 hl).1; rw [List.getElem?_eq_none (by omega)] at this; cases this
    rw [hn]
    split
    · rename_i h2
      split at h2
      · cases h2; rfl
      · cases h2
    · rfl
theorem look_now (h : Inv t N M) : ∀ (n i : Nat), look (nowL t n) i = if i < n then (match t.live (i : Nat) with | some s => s.thing.af | none => 0) else 0 := by
  intro n
  induction n with
  | zero => intro i; simp [nowL, look]
  | succ n ih =>
    intro i
    rcases live_cases t (n : Nat) with ⟨s, hs⟩ | hn
    · rw [nowL_yes hs, look_snoc, ih]
      by_cases e : i = n
      · subst e; simp [hs]
      · rw [if_neg (by simp; omega)]
        by_cases h2 : i < n
        · rw [if_pos h2, if_pos (by omega)]
        · rw [if_neg h2, if_neg (by omega)]
    · rw [nowL_no hn, ih]
      by_cases e : i = n
      · subst e; simp [hn]
      · by_cases h2 : i < n
        · rw [if_pos h2, if_pos (by omega)]
        · rw [if_neg h2, if_neg (by omega)]
theorem doc_aff (h : Inv t N M) : dAff (docT t).L = affL (nowL t N) N := by
  apply List.ext_getElem?
  intro i
  unfold dAff affL
  rw [List.getElem?_map, List.getElem?_map, doc_at]
  have hlen := h.len
  by_cases hi : i < N
  · rw [List.getElem?_range hi]
    simp only [Option.map_some, look_now h N i, if_pos hi]
    by_cases hk : i < t.spots.length
    · rw [if_pos hk, List.getElem?_eq_getElem hk]
      simp only [Option.map_some, Option.some.injEq]
      cases hb : (t.spots[i]).there
      · have hl : t.live (i : Nat) = none := by
          cases hl : t.live (i : Nat) with
          | none => rfl
          | some s =>
            have := live_nat.1 hl
            rw [List.getElem?_eq_getElem hk] at this
            obtain ⟨h1, h2⟩ := this
            cases h1; rw [hb] at h2; cases h2
        rw [hl, h.zero i _ (List.getElem?_eq_getElem hk) hb]; rfl
      · rw [live_nat.2 ⟨List.getElem?_eq_getElem hk, hb⟩]
    · rw [if_neg hk, if_pos (by rw [h.tn]; omega)]
      have hn : t.live (i : Nat) = none := by
        cases hl : t.live (i : Nat) with
        | none => rfl
        | some s => have := (live_nat.1 hl).1; rw [List.getElem?_eq_none (by omega)] at this; cases this
      rw [hn]; rfl
  · rw [if_neg (by omega), if_neg (by rw [h.tn]; omega), show (List.range N)[i]? = none from List.getElem?_eq_none (by simp; omega)]; rfl
end
end Go.Proofs
end
