import Derived.Test.YtapgcadffghljaaM9
section
namespace Go.Proofs
open Go.RowKit
set_option linter.unusedVariables false
set_option linter.unusedSimpArgs false

set_option maxRecDepth 100000 in
set_option maxHeartbeats 12800000 in
theorem do_3 {w : World} {gb c p N M : Nat} {S T : List Nat} {VR : Value} {t : Tab Gr} {rs : List (Int × Int)} (h : GameIn w gb c p S T VR t rs) (hI : Inv t N M) (hM : M < 500) (hrs : rs.length ≤ 500) (hri : ∀ x ∈ rs, inI x.1) (x : Ac) (hx : x.Fits) (hk : x.k = 3) :
    Calls Try.prog 11 #[ptr gb, x.val] w (DoPost gb (gK gb c S T VR) t rs N M w) := by
  obtain ⟨AR, cR, hVR, _⟩ := h.r.val
  have H := Lib.hid h
  have HI := Lib.hid hI
  have X0 := x.a0
  have X1 := x.a1
  have X2 := x.a2
  have X3 := x.a3
  have X23 := x.a23
  have XG := x.ag
  have hXs := x.size
  have hGs := x.g.size
  have hri0 := hx.ri
  have hat := hx.a
  have hto := hx.to
  have hun := hx.un
  have HRI := Lib.hid hri
  have lgb := h.b.lt
  have hVRlt := h.r.lt
  have HR0 := Lib.hid h.r
  have hb := h.b
  rw [hVR] at hb
  have HVR := Lib.hid hVR
  clear hVR
  have HB := Lib.hid hb
  obtain ⟨n, hn⟩ : ∃ n, n = rs.length := ⟨_, rfl⟩
  rw [← hn] at HB hrs
  have Hn := Lib.hid hn
  unfold Ac.val
  obtain ⟨xg, hxg⟩ : ∃ xg, xg = x.g := ⟨_, rfl⟩
  rw [← hxg] at XG hGs hun
  generalize x.arr = X at *
  rw [hk] at X0
  generalize x.k = xk at *
  generalize x.ri = ri at *
  generalize x.rq = rq at *
  generalize x.at_ = at_ at *
  generalize x.to = to at *
  clear h hI hri hx hb hn hxg
  clear hk
  obtain ⟨a0, a1⟩ := hat
  have hb3 := Blk.new w 39 X
  have y1 := (hb3.cell 1).trans X1
  have y2 := (hb3.cell 2).trans X2
  have e3 := (hb3.alloc (.cells #[.int .i64 ri, .int .u64 rq] 33)).cell 3
  rw [X3] at e3
  have hcA : Chg [] w ((w.alloc (.cells X 39)).alloc (.cells #[.int .i64 ri, .int .u64 rq] 33)) := ((Chg.refl [] w).alloc _).alloc _
  have hb3A := hb3.alloc (.cells #[.int .i64 ri, .int .u64 rq] 33)
  have hb5A : Blk ((w.alloc (.cells X 39)).alloc (.cells #[.int .i64 ri, .int .u64 rq] 33)) (w.heap.size + 1) 33 #[.int .i64 ri, .int .u64 rq] := Blk.at' (w.alloc (.cells X 39)) 33 _ (by simp)
  have g2 := (HB.out.chg hcA (by simp)).cell 2
  by_cases ha : at_ < 1
  · clear hVRlt
    go_enter Try.func11, Try.ntmps11
    go_upto_region 4 with (fail)
    generalize World.alloc (World.alloc w _) _ = wc at *
    obtain ⟨i, q, hb5, hii⟩ : ∃ i q, Blk wc (w.heap.size + 1) 33 #[.int .i64 i, .int .u64 q] ∧ inI i := ⟨ri, rq, hb5A, hri0⟩
    clear y1 y2 e3 g2 hb3 ha a0 a1 hb5A
    have z0 := (hb3A.cell 0).trans X0
    have hgS := H.out.gS
    have hlS := H.out.lt
    have nS0 : w.heap.size ∉ S ∧ w.heap.size + 1 ∉ S := ⟨fun hk => by have := H.out.g.lt.2 _ hk; omega, fun hk => by have := H.out.g.lt.2 _ hk; omega⟩
    have nT0 : w.heap.size ∉ T ∧ w.heap.size + 1 ∉ T := ⟨fun hk => by have := H.out.d.lt _ hk; omega, fun hk => by have := H.out.d.lt _ hk; omega⟩
    have hapT : ∀ k ∈ T, k ∉ S := fun k hk hkS => H.out.ap k hkS hk
    have HC := Lib.hid (fun W (hc : Chg [] w W) => Set_any (H.out.g.quiet hc) i q hii xg)
    have HD := Lib.hid (fun W (hc : Chg S w W) => (by have := rSet_any (H.out.d.chg hc hapT) (by rw [docL_len HI.out]; exact HI.out.n64) i q hii xg hun; rw [doc_setE, doc_setT] at this; exact this : Calls Try.prog 33 #[ptr p, .agg #[.int .i64 i, .int .u64 q], xg.val] W fun e w' => e = .returned (.int .i64 (t.setE i q xg)) ∧ DTurns p T (docT (t.setT i q xg)) W w'))
    clear hlS
    go_upto_region 18 with (fail)
    have hcD := hcA.drew
    refine wp_region_held_drew (S := fun w' => Blk w' gb 45 #[ptr c, ptr p, .slice AR n cR] ∧ Blk w' (w.heap.size + 1) 33 #[.int .i64 i, .int .u64 q] ∧ Blk w' w.heap.size 39 X) (by kernel_rfl) ⟨(HB.out.chg hcA (by simp)).drew, hb5.drew, hb3A.drew⟩ (fun hHeld => ?_)
    simp only [List.setIfInBounds_toArray, List.size_toArray, List.length_cons, List.length_nil, Array.replicate]
    refine wpAnyH_take (i := 0) (v := ?_) rfl (by kernel_rfl) (by kernel_rfl) (by kernel_rfl) (fun _ _ _ h => h) (Or.inl ⟨by rfl, ?_⟩) hHeld ?_
    rotate_left
    · (intro w' hSw; go_simp; try with_reducible rfl)
    simp only [Act.put, List.getElem_toArray, List.getElem_cons_succ, List.getElem_cons_zero, List.setIfInBounds_toArray, List.set_cons_zero, List.set_cons_succ]
    refine wpAnyH_take (i := 1) (v := ?_) rfl (by kernel_rfl) (by kernel_rfl) (by kernel_rfl) (fun _ _ _ h => h) (Or.inl ⟨by rfl, ?_⟩) hHeld ?_
    rotate_left
    · (intro w' hSw; go_simp; try with_reducible rfl)
    simp only [Act.put, List.getElem_toArray, List.getElem_cons_succ, List.getElem_cons_zero, List.setIfInBounds_toArray, List.set_cons_zero, List.set_cons_succ]
    refine wpAnyH_take (i := 2) (v := ?_) rfl (by kernel_rfl) (by kernel_rfl) (by kernel_rfl) (fun _ _ _ h => h) (Or.inl ⟨by rfl, ?_⟩) hHeld ?_
    rotate_left
    · (intro w' hSw; go_simp; try with_reducible rfl)
    simp only [Act.put, List.getElem_toArray, List.getElem_cons_succ, List.getElem_cons_zero, List.setIfInBounds_toArray, List.set_cons_zero, List.set_cons_succ]
    refine wpAnyH_take (i := 3) (v := ?_) rfl (by kernel_rfl) (by kernel_rfl) (by kernel_rfl) (fun _ _ _ h => h) (Or.inl ⟨by rfl, ?_⟩) hHeld ?_
    rotate_left
    · (intro w' hSw; have q0 := hSw.1.cell 0; simp only [List.getElem?_toArray, List.getElem?_cons_zero, List.getElem?_cons_succ] at *; go_simp; try with_reducible rfl)
    simp only [Act.put, List.getElem_toArray, List.getElem_cons_succ, List.getElem_cons_zero, List.setIfInBounds_toArray, List.set_cons_zero, List.set_cons_succ]
    refine wpAnyH_take (i := 4) (v := ?_) rfl (by kernel_rfl) (by kernel_rfl) (by kernel_rfl) (fun _ _ _ h => h) (Or.inl ⟨by rfl, ?_⟩) hHeld ?_
    rotate_left
    · (intro w' hSw; have q0 := hSw.2.1.cell 0; have q1 := hSw.2.1.cell 1; simp only [List.getElem?_toArray, List.getElem?_cons_zero, List.getElem?_cons_succ] at *; go_simp; try with_reducible rfl)
    simp only [Act.put, List.getElem_toArray, List.getElem_cons_succ, List.getElem_cons_zero, List.setIfInBounds_toArray, List.set_cons_zero, List.set_cons_succ]
    refine wpAnyH_take (i := 5) (v := ?_) rfl (by kernel_rfl) (by kernel_rfl) (by kernel_rfl) (fun _ _ _ h => h) (Or.inl ⟨by rfl, ?_⟩) hHeld ?_
    rotate_left
    · (intro w' hSw; go_simp; try with_reducible rfl)
    simp only [Act.put, List.getElem_toArray, List.getElem_cons_succ, List.getElem_cons_zero, List.setIfInBounds_toArray, List.set_cons_zero, List.set_cons_succ]
    refine wpAnyH_take (i := 6) (v := .agg xg.arr) rfl (by kernel_rfl) (by kernel_rfl) (by kernel_rfl) (fun _ _ _ h => h) (Or.inl ⟨by rfl, fun w' hSw => sk_run_load T37 hGs (fun j v hv => (hSw.2.2.cell (4 + j)).trans (XG j v hv)) _ (by rfl) (by rfl)⟩) hHeld ?_
    simp only [Act.put, List.getElem_toArray, List.getElem_cons_succ, List.getElem_cons_zero, List.setIfInBounds_toArray, List.set_cons_zero, List.set_cons_succ]
    refine wpAnyH_take (i := 8) (v := ?_) rfl (by kernel_rfl) (by kernel_rfl) (by kernel_rfl) (fun _ _ _ h => h) (Or.inl ⟨by rfl, ?_⟩) hHeld ?_
    rotate_left
    · (intro w' hSw; go_simp; try with_reducible rfl)
    simp only [Act.put, List.getElem_toArray, List.getElem_cons_succ, List.getElem_cons_zero, List.setIfInBounds_toArray, List.set_cons_zero, List.set_cons_succ]
    refine wpAnyH_take (i := 9) (v := ?_) rfl (by kernel_rfl) (by kernel_rfl) (by kernel_rfl) (fun _ _ _ h => h) (Or.inl ⟨by rfl, ?_⟩) hHeld ?_
    rotate_left
    · (intro w' hSw; go_simp; try with_reducible rfl)
    simp only [Act.put, List.getElem_toArray, List.getElem_cons_succ, List.getElem_cons_zero, List.setIfInBounds_toArray, List.set_cons_zero, List.set_cons_succ]
    refine wpAnyH_take (i := 10) (v := ?_) rfl (by kernel_rfl) (by kernel_rfl) (by kernel_rfl) (fun _ _ _ h => h) (Or.inl ⟨by rfl, ?_⟩) hHeld ?_
    rotate_left
    · (intro w' hSw; go_simp; try with_reducible rfl)
    simp only [Act.put, List.getElem_toArray, List.getElem_cons_succ, List.getElem_cons_zero, List.setIfInBounds_toArray, List.set_cons_zero, List.set_cons_succ]
    refine wpAnyH_take (i := 11) (v := ?_) rfl (by kernel_rfl) (by kernel_rfl) (by kernel_rfl) (fun _ _ _ h => h) (Or.inl ⟨by rfl, ?_⟩) hHeld ?_
    rotate_left
    · (intro w' hSw; have q0 := hSw.1.cell 1; simp only [List.getElem?_toArray, List.getElem?_cons_zero, List.getElem?_cons_succ] at *; go_simp; try with_reducible rfl)
    simp only [Act.put, List.getElem_toArray, List.getElem_cons_succ, List.getElem_cons_zero, List.setIfInBounds_toArray, List.set_cons_zero, List.set_cons_succ]
    refine wpAnyH_take (i := 12) (v := ?_) rfl (by kernel_rfl) (by kernel_rfl) (by kernel_rfl) (fun _ _ _ h => h) (Or.inl ⟨by rfl, ?_⟩) hHeld ?_
    rotate_left
    · (intro w' hSw; have q0 := hSw.2.1.cell 0; have q1 := hSw.2.1.cell 1; simp only [List.getElem?_toArray, List.getElem?_cons_zero, List.getElem?_cons_succ] at *; go_simp; try with_reducible rfl)
    simp only [Act.put, List.getElem_toArray, List.getElem_cons_succ, List.getElem_cons_zero, List.setIfInBounds_toArray, List.set_cons_zero, List.set_cons_succ]
    refine wpAnyH_take (i := 13) (v := ?_) rfl (by kernel_rfl) (by kernel_rfl) (by kernel_rfl) (fun _ _ _ h => h) (Or.inl ⟨by rfl, ?_⟩) hHeld ?_
    rotate_left
    · (intro w' hSw; go_simp; try with_reducible rfl)
    simp only [Act.put, List.getElem_toArray, List.getElem_cons_succ, List.getElem_cons_zero, List.setIfInBounds_toArray, List.set_cons_zero, List.set_cons_succ]
    refine wpAnyH_take (i := 14) (v := .agg xg.arr) rfl (by kernel_rfl) (by kernel_rfl) (by kernel_rfl) (fun _ _ _ h => h) (Or.inl ⟨by rfl, fun w' hSw => sk_run_load T37 hGs (fun j v hv => (hSw.2.2.cell (4 + j)).trans (XG j v hv)) _ (by rfl) (by rfl)⟩) hHeld ?_
    simp only [Act.put, List.getElem_toArray, List.getElem_cons_succ, List.getElem_cons_zero, List.setIfInBounds_toArray, List.set_cons_zero, List.set_cons_succ]
    refine wpAnyH_ready (rs := [7]) (by kernel_rfl) (by simp) ?_
    refine AllReadyH.cons rfl (fun K hK => ?_) AllReadyH.nil
    go_simp
    refine (HC.out _ hcD).mono ?_
    rintro e w2 ⟨rfl, hT2⟩
    obtain ⟨S2, hG2, hs2, hcs⟩ := hT2
    refine hK _ _ ⟨hHeld.1.chg hcs hgS.1, hHeld.2.1.chg hcs nS0.2, hHeld.2.2.chg hcs nS0.1⟩ (fun hHeld => ?_)
    clear hK K
    simp only [Act.put, List.getElem_toArray, List.getElem_cons_succ, List.getElem_cons_zero, List.setIfInBounds_toArray, List.set_cons_zero, List.set_cons_succ]
    refine wpAnyH_ready (rs := [15]) (by kernel_rfl) (by simp) ?_
    refine AllReadyH.cons rfl (fun K hK => ?_) AllReadyH.nil
    go_simp
    refine (HD.out _ ((Chg.any hcD).trans hcs (fun k hk => .inl hk))).mono ?_
    rintro e w3 ⟨rfl, hT3⟩
    have hT3' := hT3
    obtain ⟨T3, hD3, ht3, hct⟩ := hT3
    refine hK _ _ ⟨hHeld.1.chg hct hgS.2.2.1, hHeld.2.1.chg hct nT0.2, hHeld.2.2.chg hct nT0.1⟩ (fun hHeld => ?_)
    clear hK K
    simp only [Act.put, List.getElem_toArray, List.getElem_cons_succ, List.getElem_cons_zero, List.setIfInBounds_toArray, List.set_cons_zero, List.set_cons_succ]
    refine wpAnyH_take (i := 16) (v := ?_) rfl (by kernel_rfl) (by kernel_rfl) (by kernel_rfl) (fun _ _ _ h => h) (Or.inl ⟨by rfl, ?_⟩) hHeld ?_
    rotate_left
    · (intro w' hSw; go_simp; try with_reducible rfl)
    simp only [Act.put, List.getElem_toArray, List.getElem_cons_succ, List.getElem_cons_zero, List.setIfInBounds_toArray, List.set_cons_zero, List.set_cons_succ]
    refine wpAnyH_take (i := 17) (v := ?_) rfl (by kernel_rfl) (by kernel_rfl) (by kernel_rfl) (fun _ _ _ h => h) (Or.inl ⟨by rfl, ?_⟩) hHeld ?_
    rotate_left
    · (intro w' hSw; go_simp; try with_reducible rfl)
    simp only [Act.put, List.getElem_toArray, List.getElem_cons_succ, List.getElem_cons_zero, List.setIfInBounds_toArray, List.set_cons_zero, List.set_cons_succ]
    refine wpAnyH_done (by kernel_rfl) ?_ _
    have HG := Lib.hid (GmTurns.both H.out hcD ⟨S2, hG2, hs2, hcs⟩ hT3')
    clear hHeld
    go_wp2
    go_ret
    exact ⟨by simp, _, rs, (HI.out.setT i q xg hun).mono (by omega), by omega, HRI.out, HG.out⟩
  by_cases hn0 : n = 0
  · have hn0' : ¬ (0 < n) := by omega
    clear hVRlt
    go_enter Try.func11, Try.ntmps11
    go_upto_region 4 with (fail)
    generalize World.alloc (World.alloc w _) _ = wc at *
    obtain ⟨i, q, hb5, hii⟩ : ∃ i q, Blk wc (w.heap.size + 1) 33 #[.int .i64 i, .int .u64 q] ∧ inI i := ⟨ri, rq, hb5A, hri0⟩
    clear y1 y2 e3 g2 hb3 ha a0 a1 hn0 hn0' hb5A
    have z0 := (hb3A.cell 0).trans X0
    have hgS := H.out.gS
    have hlS := H.out.lt
    have nS0 : w.heap.size ∉ S ∧ w.heap.size + 1 ∉ S := ⟨fun hk => by have := H.out.g.lt.2 _ hk; omega, fun hk => by have := H.out.g.lt.2 _ hk; omega⟩
    have nT0 : w.heap.size ∉ T ∧ w.heap.size + 1 ∉ T := ⟨fun hk => by have := H.out.d.lt _ hk; omega, fun hk => by have := H.out.d.lt _ hk; omega⟩
    have hapT : ∀ k ∈ T, k ∉ S := fun k hk hkS => H.out.ap k hkS hk
    have HC := Lib.hid (fun W (hc : Chg [] w W) => Set_any (H.out.g.quiet hc) i q hii xg)
    have HD := Lib.hid (fun W (hc : Chg S w W) => (by have := rSet_any (H.out.d.chg hc hapT) (by rw [docL_len HI.out]; exact HI.out.n64) i q hii xg hun; rw [doc_setE, doc_setT] at this; exact this : Calls Try.prog 33 #[ptr p, .agg #[.int .i64 i, .int .u64 q], xg.val] W fun e w' => e = .returned (.int .i64 (t.setE i q xg)) ∧ DTurns p T (docT (t.setT i q xg)) W w'))
    clear hlS
    go_upto_region 18 with (fail)
    have hcD := hcA.drew
    refine wp_region_held_drew (S := fun w' => Blk w' gb 45 #[ptr c, ptr p, .slice AR n cR] ∧ Blk w' (w.heap.size + 1) 33 #[.int .i64 i, .int .u64 q] ∧ Blk w' w.heap.size 39 X) (by kernel_rfl) ⟨(HB.out.chg hcA (by simp)).drew, hb5.drew, hb3A.drew⟩ (fun hHeld => ?_)
    simp only [List.setIfInBounds_toArray, List.size_toArray, List.length_cons, List.length_nil, Array.replicate]
    refine wpAnyH_take (i := 0) (v := ?_) rfl (by kernel_rfl) (by kernel_rfl) (by kernel_rfl) (fun _ _ _ h => h) (Or.inl ⟨by rfl, ?_⟩) hHeld ?_
    rotate_left
    · (intro w' hSw; go_simp; try with_reducible rfl)
    simp only [Act.put, List.getElem_toArray, List.getElem_cons_succ, List.getElem_cons_zero, List.setIfInBounds_toArray, List.set_cons_zero, List.set_cons_succ]
    refine wpAnyH_take (i := 1) (v := ?_) rfl (by kernel_rfl) (by kernel_rfl) (by kernel_rfl) (fun _ _ _ h => h) (Or.inl ⟨by rfl, ?_⟩) hHeld ?_
    rotate_left
    · (intro w' hSw; go_simp; try with_reducible rfl)
    simp only [Act.put, List.getElem_toArray, List.getElem_cons_succ, List.getElem_cons_zero, List.setIfInBounds_toArray, List.set_cons_zero, List.set_cons_succ]
    refine wpAnyH_take (i := 2) (v := ?_) rfl (by kernel_rfl) (by kernel_rfl) (by kernel_rfl) (fun _ _ _ h => h) (Or.inl ⟨by rfl, ?_⟩) hHeld ?_
    rotate_left
    · (intro w' hSw; go_simp; try with_reducible rfl)
    simp only [Act.put, List.getElem_toArray, List.getElem_cons_succ, List.getElem_cons_zero, List.setIfInBounds_toArray, List.set_cons_zero, List.set_cons_succ]
    refine wpAnyH_take (i := 3) (v := ?_) rfl (by kernel_rfl) (by kernel_rfl) (by kernel_rfl) (fun _ _ _ h => h) (Or.inl ⟨by rfl, ?_⟩) hHeld ?_
    rotate_left
    · (intro w' hSw; have q0 := hSw.1.cell 0; simp only [List.getElem?_toArray, List.getElem?_cons_zero, List.getElem?_cons_succ] at *; go_simp; try with_reducible rfl)
    simp only [Act.put, List.getElem_toArray, List.getElem_cons_succ, List.getElem_cons_zero, List.setIfInBounds_toArray, List.set_cons_zero, List.set_cons_succ]
    refine wpAnyH_take (i := 4) (v := ?_) rfl (by kernel_rfl) (by kernel_rfl) (by kernel_rfl) (fun _ _ _ h => h) (Or.inl ⟨by rfl, ?_⟩) hHeld ?_
    rotate_left
    · (intro w' hSw; have q0 := hSw.2.1.cell 0; have q1 := hSw.2.1.cell 1; simp only [List.getElem?_toArray, List.getElem?_cons_zero, List.getElem?_cons_succ] at *; go_simp; try with_reducible rfl)
    simp only [Act.put, List.getElem_toArray, List.getElem_cons_succ, List.getElem_cons_zero, List.setIfInBounds_toArray, List.set_cons_zero, List.set_cons_succ]
    refine wpAnyH_take (i := 5) (v := ?_) rfl (by kernel_rfl) (by kernel_rfl) (by kernel_rfl) (fun _ _ _ h => h) (Or.inl ⟨by rfl, ?_⟩) hHeld ?_
    rotate_left
    · (intro w' hSw; go_simp; try with_reducible rfl)
    simp only [Act.put, List.getElem_toArray, List.getElem_cons_succ, List.getElem_cons_zero, List.setIfInBounds_toArray, List.set_cons_zero, List.set_cons_succ]
    refine wpAnyH_take (i := 6) (v := .agg xg.arr) rfl (by kernel_rfl) (by kernel_rfl) (by kernel_rfl) (fun _ _ _ h => h) (Or.inl ⟨by rfl, fun w' hSw => sk_run_load T37 hGs (fun j v hv => (hSw.2.2.cell (4 + j)).trans (XG j v hv)) _ (by rfl) (by rfl)⟩) hHeld ?_
    simp only [Act.put, List.getElem_toArray, List.getElem_cons_succ, List.getElem_cons_zero, List.setIfInBounds_toArray, List.set_cons_zero, List.set_cons_succ]
    refine wpAnyH_take (i := 8) (v := ?_) rfl (by kernel_rfl) (by kernel_rfl) (by kernel_rfl) (fun _ _ _ h => h) (Or.inl ⟨by rfl, ?_⟩) hHeld ?_
    rotate_left
    · (intro w' hSw; go_simp; try with_reducible rfl)
    simp only [Act.put, List.getElem_toArray, List.getElem_cons_succ, List.getElem_cons_zero, List.setIfInBounds_toArray, List.set_cons_zero, List.set_cons_succ]
    refine wpAnyH_take (i := 9) (v := ?_) rfl (by kernel_rfl) (by kernel_rfl) (by kernel_rfl) (fun _ _ _ h => h) (Or.inl ⟨by rfl, ?_⟩) hHeld ?_
    rotate_left
    · (intro w' hSw; go_simp; try with_reducible rfl)
    simp only [Act.put, List.getElem_toArray, List.getElem_cons_succ, List.getElem_cons_zero, List.setIfInBounds_toArray, List.set_cons_zero, List.set_cons_succ]
    refine wpAnyH_take (i := 10) (v := ?_) rfl (by kernel_rfl) (by kernel_rfl) (by kernel_rfl) (fun _ _ _ h => h) (Or.inl ⟨by rfl, ?_⟩) hHeld ?_
    rotate_left
    · (intro w' hSw; go_simp; try with_reducible rfl)
    simp only [Act.put, List.getElem_toArray, List.getElem_cons_succ, List.getElem_cons_zero, List.setIfInBounds_toArray, List.set_cons_zero, List.set_cons_succ]
    refine wpAnyH_take (i := 11) (v := ?_) rfl (by kernel_rfl) (by kernel_rfl) (by kernel_rfl) (fun _ _ _ h => h) (Or.inl ⟨by rfl, ?_⟩) hHeld ?_
    rotate_left
    · (intro w' hSw; have q0 := hSw.1.cell 1; simp only [List.getElem?_toArray, List.getElem?_cons_zero, List.getElem?_cons_succ] at *; go_simp; try with_reducible rfl)
    simp only [Act.put, List.getElem_toArray, List.getElem_cons_succ, List.getElem_cons_zero, List.setIfInBounds_toArray, List.set_cons_zero, List.set_cons_succ]
    refine wpAnyH_take (i := 12) (v := ?_) rfl (by kernel_rfl) (by kernel_rfl) (by kernel_rfl) (fun _ _ _ h => h) (Or.inl ⟨by rfl, ?_⟩) hHeld ?_
    rotate_left
    · (intro w' hSw; have q0 := hSw.2.1.cell 0; have q1 := hSw.2.1.cell 1; simp only [List.getElem?_toArray, List.getElem?_cons_zero, List.getElem?_cons_succ] at *; go_simp; try with_reducible rfl)
    simp only [Act.put, List.getElem_toArray, List.getElem_cons_succ, List.getElem_cons_zero, List.setIfInBounds_toArray, List.set_cons_zero, List.set_cons_succ]
    refine wpAnyH_take (i := 13) (v := ?_) rfl (by kernel_rfl) (by kernel_rfl) (by kernel_rfl) (fun _ _ _ h => h) (Or.inl ⟨by rfl, ?_⟩) hHeld ?_
    rotate_left
    · (intro w' hSw; go_simp; try with_reducible rfl)
    simp only [Act.put, List.getElem_toArray, List.getElem_cons_succ, List.getElem_cons_zero, List.setIfInBounds_toArray, List.set_cons_zero, List.set_cons_succ]
    refine wpAnyH_take (i := 14) (v := .agg xg.arr) rfl (by kernel_rfl) (by kernel_rfl) (by kernel_rfl) (fun _ _ _ h => h) (Or.inl ⟨by rfl, fun w' hSw => sk_run_load T37 hGs (fun j v hv => (hSw.2.2.cell (4 + j)).trans (XG j v hv)) _ (by rfl) (by rfl)⟩) hHeld ?_
    simp only [Act.put, List.getElem_toArray, List.getElem_cons_succ, List.getElem_cons_zero, List.setIfInBounds_toArray, List.set_cons_zero, List.set_cons_succ]
    refine wpAnyH_ready (rs := [7]) (by kernel_rfl) (by simp) ?_
    refine AllReadyH.cons rfl (fun K hK => ?_) AllReadyH.nil
    go_simp
    refine (HC.out _ hcD).mono ?_
    rintro e w2 ⟨rfl, hT2⟩
    obtain ⟨S2, hG2, hs2, hcs⟩ := hT2
    refine hK _ _ ⟨hHeld.1.chg hcs hgS.1, hHeld.2.1.chg hcs nS0.2, hHeld.2.2.chg hcs nS0.1⟩ (fun hHeld => ?_)
    clear hK K
    simp only [Act.put, List.getElem_toArray, List.getElem_cons_succ, List.getElem_cons_zero, List.setIfInBounds_toArray, List.set_cons_zero, List.set_cons_succ]
    refine wpAnyH_ready (rs := [15]) (by kernel_rfl) (by simp) ?_
    refine AllReadyH.cons rfl (fun K hK => ?_) AllReadyH.nil
    go_simp
    refine (HD.out _ ((Chg.any hcD).trans hcs (fun k hk => .inl hk))).mono ?_
    rintro e w3 ⟨rfl, hT3⟩
    have hT3' := hT3
    obtain ⟨T3, hD3, ht3, hct⟩ := hT3
    refine hK _ _ ⟨hHeld.1.chg hct hgS.2.2.1, hHeld.2.1.chg hct nT0.2, hHeld.2.2.chg hct nT0.1⟩ (fun hHeld => ?_)
    clear hK K
    simp only [Act.put, List.getElem_toArray, List.getElem_cons_succ, List.getElem_cons_zero, List.setIfInBounds_toArray, List.set_cons_zero, List.set_cons_succ]
    refine wpAnyH_take (i := 16) (v := ?_) rfl (by kernel_rfl) (by kernel_rfl) (by kernel_rfl) (fun _ _ _ h => h) (Or.inl ⟨by rfl, ?_⟩) hHeld ?_
    rotate_left
    · (intro w' hSw; go_simp; try with_reducible rfl)
    simp only [Act.put, List.getElem_toArray, List.getElem_cons_succ, List.getElem_cons_zero, List.setIfInBounds_toArray, List.set_cons_zero, List.set_cons_succ]
    refine wpAnyH_take (i := 17) (v := ?_) rfl (by kernel_rfl) (by kernel_rfl) (by kernel_rfl) (fun _ _ _ h => h) (Or.inl ⟨by rfl, ?_⟩) hHeld ?_
    rotate_left
    · (intro w' hSw; go_simp; try with_reducible rfl)
    simp only [Act.put, List.getElem_toArray, List.getElem_cons_succ, List.getElem_cons_zero, List.setIfInBounds_toArray, List.set_cons_zero, List.set_cons_succ]
    refine wpAnyH_done (by kernel_rfl) ?_ _
    have HG := Lib.hid (GmTurns.both H.out hcD ⟨S2, hG2, hs2, hcs⟩ hT3')
    clear hHeld
    go_wp2
    go_ret
    exact ⟨by simp, _, rs, (HI.out.setT i q xg hun).mono (by omega), by omega, HRI.out, HG.out⟩
  obtain ⟨d, hd⟩ : ∃ d, d = (at_ - 1).tmod (n : Int) := ⟨_, rfl⟩
  have hdd := tmod_in (a := at_ - 1) (n := n) (by omega) (by omega)
  rw [← hd] at hdd
  obtain ⟨d0, d1⟩ := hdd
  obtain ⟨j, hj⟩ : ∃ j : Nat, (j : Int) = (n : Int) - 1 - d := ⟨((n : Int) - 1 - d).toNat, by omega⟩
  have hjn : j < rs.length := by rw [← Hn.out]; omega
  obtain ⟨y, hy⟩ : ∃ y, rs[j]? = some y := ⟨_, List.getElem?_eq_getElem hjn⟩
  have hyi : inI y.1 := HRI.out y (List.mem_of_getElem? hy)
  have HR0' := HR0.out
  rw [HVR.out] at HR0'
  obtain ⟨gr, cr, hv, _, _, hrc, _, hgr⟩ := HR0'.form (by omega)
  simp only [Value.slice.injEq] at hv
  obtain ⟨h90, h91, h92⟩ := hv
  obtain ⟨q0, q1⟩ := prCells_at hy
  have hcD := hcA.drew
  have r0 := (hcD.cell (p := ⟨gr, j * 2, none⟩) hgr (by simp)).trans (hrc _ _ q0)
  have r1 := (hcD.cell (p := ⟨gr, j * 2 + 1, none⟩) hgr (by simp)).trans (hrc _ _ q1)
  have g2D := (HB.out.chg hcD (by simp)).cell 2
  rw [h90] at g2D
  have hb5D := hb5A.drew
  have f0 := hb5D.frozen 0
  have f1 := hb5D.frozen 1
  have s0 := hb5D.cell 0
  have s1 := hb5D.cell 1
  have e3D := hb3A.drew.cell 3
  rw [X3] at e3D
  have w1 : IntKind.i64.wrap (at_ - 1) = at_ - 1 := IntWalk.i64_in _ (by omega)
  have w2 : IntKind.i64.wrap ((n : Int) - 1) = (n : Int) - 1 := IntWalk.i64_in _ (by omega)
  have w4 : IntKind.i64.wrap ((n : Int) - 1 - d) = (j : Nat) := by rw [← hj]; exact IntWalk.i64_in _ (by omega)
  have w5 : wrap64 ((n : Int) - 1 - d) = (j : Nat) := by rw [← hj]; exact IntWalk.wrap64_in _ (by omega)
  have w6 : wrap64 (at_ - 1) = at_ - 1 := IntWalk.wrap64_in _ (by omega)
  have w7 : IntKind.i64.wrap (j : Int) = (j : Nat) := IntWalk.i64_in _ (by omega)
  have j0 : (0 : Int) ≤ (j : Int) := by omega
  have j1 : (j : Int) < (n : Int) := by omega
  have hn1 : 0 < n := by omega
  have hn2 : ¬ ((n : Int) = 0) := by omega
  have hn3 : ((n : Int) == 0) = false := by simp; omega
  have hmod : (at_ - 1).tmod (n : Int) = d := hd.symm
  have hjs : (n : Int) - 1 - d = (j : Nat) := hj.symm
  clear hVRlt HR0' h90 h91 h92 hrc hy hjn hj q0 q1 hd
  go_enter Try.func11, Try.ntmps11
  go_upto_region 3 with (fail)
  have hb3D := hb3A.drew
  refine wp_region_still_tail 22 (by kernel_rfl) (by kernel_rfl) ?_
  simp only [List.take_succ_cons, List.take_zero, List.drop_succ_cons, List.drop_zero]
  (try change wpStill _ _ (World.drew _) _ _ _)
  generalize hwd : World.drew _ = wd at *
  have HWD := Lib.hid hwd
  clear hwd
  simp only [List.getElem?_toArray, List.getElem?_cons_zero, List.getElem?_cons_succ] at s0 s1 g2D
  (repeat still_step)
  refine wpStill_nil ?_
  (try change wpList _ _ _ _ _ (World.drew _))
  rw [HWD.out]
  clear HWD
  go_upto_region 4 with (fail)
  have hcC := (hcD.setCell (p := ⟨w.heap.size + 1, 0, none⟩) (.inr (by simp)) (.int .i64 y.1)).setCell (p := ⟨w.heap.size + 1, 1, none⟩) (.inr (by simp)) (.int .u64 y.2)
  have hb5C := (hb5D.set_ 0 (.int .i64 y.1)).set_ 1 (.int .u64 y.2)
  have hb3C := (hb3D.far (p := ⟨w.heap.size + 1, 0, none⟩) (by simp) (.int .i64 y.1)).far (p := ⟨w.heap.size + 1, 1, none⟩) (by simp) (.int .u64 y.2)
  clear hcA hb3A hb3D hb5A hcD r0 r1 g2D hb5D f0 f1 s0 s1 e3D w1 w2 w4 w5 w6 w7 j0 j1 hn1 hn2 hn3 hmod hjs y1 y2 e3 g2 hb3 ha a0 a1 hn0
  generalize World.setCell _ _ _ = wc at *
  have hcA := hcC
  have hb3A := hb3C
  clear hcC hb3C
  obtain ⟨i, q, hb5, hii⟩ : ∃ i q, Blk wc (w.heap.size + 1) 33 #[.int .i64 i, .int .u64 q] ∧ inI i := ⟨y.1, y.2, hb5C, hyi⟩
  clear hb5C hyi hgr HVR
  have z0 := (hb3A.cell 0).trans X0
  have hgS := H.out.gS
  have hlS := H.out.lt
  have nS0 : w.heap.size ∉ S ∧ w.heap.size + 1 ∉ S := ⟨fun hk => by have := H.out.g.lt.2 _ hk; omega, fun hk => by have := H.out.g.lt.2 _ hk; omega⟩
  have nT0 : w.heap.size ∉ T ∧ w.heap.size + 1 ∉ T := ⟨fun hk => by have := H.out.d.lt _ hk; omega, fun hk => by have := H.out.d.lt _ hk; omega⟩
  have hapT : ∀ k ∈ T, k ∉ S := fun k hk hkS => H.out.ap k hkS hk
  have HC := Lib.hid (fun W (hc : Chg [] w W) => Set_any (H.out.g.quiet hc) i q hii xg)
  have HD := Lib.hid (fun W (hc : Chg S w W) => (by have := rSet_any (H.out.d.chg hc hapT) (by rw [docL_len HI.out]; exact HI.out.n64) i q hii xg hun; rw [doc_setE, doc_setT] at this; exact this : Calls Try.prog 33 #[ptr p, .agg #[.int .i64 i, .int .u64 q], xg.val] W fun e w' => e = .returned (.int .i64 (t.setE i q xg)) ∧ DTurns p T (docT (t.setT i q xg)) W w'))
  clear hlS
  go_upto_region 18 with (fail)
  have hcD := hcA.drew
  refine wp_region_held_drew (S := fun w' => Blk w' gb 45 #[ptr c, ptr p, .slice AR n cR] ∧ Blk w' (w.heap.size + 1) 33 #[.int .i64 i, .int .u64 q] ∧ Blk w' w.heap.size 39 X) (by kernel_rfl) ⟨(HB.out.chg hcA (by simp)).drew, hb5.drew, hb3A.drew⟩ (fun hHeld => ?_)
  simp only [List.setIfInBounds_toArray, List.size_toArray, List.length_cons, List.length_nil, Array.replicate]
  refine wpAnyH_take (i := 0) (v := ?_) rfl (by kernel_rfl) (by kernel_rfl) (by kernel_rfl) (fun _ _ _ h => h) (Or.inl ⟨by rfl, ?_⟩) hHeld ?_
  rotate_left
  · (intro w' hSw; go_simp; try with_reducible rfl)
  simp only [Act.put, List.getElem_toArray, List.getElem_cons_succ, List.getElem_cons_zero, List.setIfInBounds_toArray, List.set_cons_zero, List.set_cons_succ]
  refine wpAnyH_take (i := 1) (v := ?_) rfl (by kernel_rfl) (by kernel_rfl) (by kernel_rfl) (fun _ _ _ h => h) (Or.inl ⟨by rfl, ?_⟩) hHeld ?_
  rotate_left
  · (intro w' hSw; go_simp; try with_reducible rfl)
  simp only [Act.put, List.getElem_toArray, List.getElem_cons_succ, List.getElem_cons_zero, List.setIfInBounds_toArray, List.set_cons_zero, List.set_cons_succ]
  refine wpAnyH_take (i := 2) (v := ?_) rfl (by kernel_rfl) (by kernel_rfl) (by kernel_rfl) (fun _ _ _ h => h) (Or.inl ⟨by rfl, ?_⟩) hHeld ?_
  rotate_left
  · (intro w' hSw; go_simp; try with_reducible rfl)
  simp only [Act.put, List.getElem_toArray, List.getElem_cons_succ, List.getElem_cons_zero, List.setIfInBounds_toArray, List.set_cons_zero, List.set_cons_succ]
  refine wpAnyH_take (i := 3) (v := ?_) rfl (by kernel_rfl) (by kernel_rfl) (by kernel_rfl) (fun _ _ _ h => h) (Or.inl ⟨by rfl, ?_⟩) hHeld ?_
  rotate_left
  · (intro w' hSw; have q0 := hSw.1.cell 0; simp only [List.getElem?_toArray, List.getElem?_cons_zero, List.getElem?_cons_succ] at *; go_simp; try with_reducible rfl)
  simp only [Act.put, List.getElem_toArray, List.getElem_cons_succ, List.getElem_cons_zero, List.setIfInBounds_toArray, List.set_cons_zero, List.set_cons_succ]
  refine wpAnyH_take (i := 4) (v := ?_) rfl (by kernel_rfl) (by kernel_rfl) (by kernel_rfl) (fun _ _ _ h => h) (Or.inl ⟨by rfl, ?_⟩) hHeld ?_
  rotate_left
  · (intro w' hSw; have q0 := hSw.2.1.cell 0; have q1 := hSw.2.1.cell 1; simp only [List.getElem?_toArray, List.getElem?_cons_zero, List.getElem?_cons_succ] at *; go_simp; try with_reducible rfl)
  simp only [Act.put, List.getElem_toArray, List.getElem_cons_succ, List.getElem_cons_zero, List.setIfInBounds_toArray, List.set_cons_zero, List.set_cons_succ]
  refine wpAnyH_take (i := 5) (v := ?_) rfl (by kernel_rfl) (by kernel_rfl) (by kernel_rfl) (fun _ _ _ h => h) (Or.inl ⟨by rfl, ?_⟩) hHeld ?_
  rotate_left
  · (intro w' hSw; go_simp; try with_reducible rfl)
  simp only [Act.put, List.getElem_toArray, List.getElem_cons_succ, List.getElem_cons_zero, List.setIfInBounds_toArray, List.set_cons_zero, List.set_cons_succ]
  refine wpAnyH_take (i := 6) (v := .agg xg.arr) rfl (by kernel_rfl) (by kernel_rfl) (by kernel_rfl) (fun _ _ _ h => h) (Or.inl ⟨by rfl, fun w' hSw => sk_run_load T37 hGs (fun j v hv => (hSw.2.2.cell (4 + j)).trans (XG j v hv)) _ (by rfl) (by rfl)⟩) hHeld ?_
  simp only [Act.put, List.getElem_toArray, List.getElem_cons_succ, List.getElem_cons_zero, List.setIfInBounds_toArray, List.set_cons_zero, List.set_cons_succ]
  refine wpAnyH_take (i := 8) (v := ?_) rfl (by kernel_rfl) (by kernel_rfl) (by kernel_rfl) (fun _ _ _ h => h) (Or.inl ⟨by rfl, ?_⟩) hHeld ?_
  rotate_left
  · (intro w' hSw; go_simp; try with_reducible rfl)
  simp only [Act.put, List.getElem_toArray, List.getElem_cons_succ, List.getElem_cons_zero, List.setIfInBounds_toArray, List.set_cons_zero, List.set_cons_succ]
  refine wpAnyH_take (i := 9) (v := ?_) rfl (by kernel_rfl) (by kernel_rfl) (by kernel_rfl) (fun _ _ _ h => h) (Or.inl ⟨by rfl, ?_⟩) hHeld ?_
  rotate_left
  · (intro w' hSw; go_simp; try with_reducible rfl)
  simp only [Act.put, List.getElem_toArray, List.getElem_cons_succ, List.getElem_cons_zero, List.setIfInBounds_toArray, List.set_cons_zero, List.set_cons_succ]
  refine wpAnyH_take (i := 10) (v := ?_) rfl (by kernel_rfl) (by kernel_rfl) (by kernel_rfl) (fun _ _ _ h => h) (Or.inl ⟨by rfl, ?_⟩) hHeld ?_
  rotate_left
  · (intro w' hSw; go_simp; try with_reducible rfl)
  simp only [Act.put, List.getElem_toArray, List.getElem_cons_succ, List.getElem_cons_zero, List.setIfInBounds_toArray, List.set_cons_zero, List.set_cons_succ]
  refine wpAnyH_take (i := 11) (v := ?_) rfl (by kernel_rfl) (by kernel_rfl) (by kernel_rfl) (fun _ _ _ h => h) (Or.inl ⟨by rfl, ?_⟩) hHeld ?_
  rotate_left
  · (intro w' hSw; have q0 := hSw.1.cell 1; simp only [List.getElem?_toArray, List.getElem?_cons_zero, List.getElem?_cons_succ] at *; go_simp; try with_reducible rfl)
  simp only [Act.put, List.getElem_toArray, List.getElem_cons_succ, List.getElem_cons_zero, List.setIfInBounds_toArray, List.set_cons_zero, List.set_cons_succ]
  refine wpAnyH_take (i := 12) (v := ?_) rfl (by kernel_rfl) (by kernel_rfl) (by kernel_rfl) (fun _ _ _ h => h) (Or.inl ⟨by rfl, ?_⟩) hHeld ?_
  rotate_left
  · (intro w' hSw; have q0 := hSw.2.1.cell 0; have q1 := hSw.2.1.cell 1; simp only [List.getElem?_toArray, List.getElem?_cons_zero, List.getElem?_cons_succ] at *; go_simp; try with_reducible rfl)
  simp only [Act.put, List.getElem_toArray, List.getElem_cons_succ, List.getElem_cons_zero, List.setIfInBounds_toArray, List.set_cons_zero, List.set_cons_succ]
  refine wpAnyH_take (i := 13) (v := ?_) rfl (by kernel_rfl) (by kernel_rfl) (by kernel_rfl) (fun _ _ _ h => h) (Or.inl ⟨by rfl, ?_⟩) hHeld ?_
  rotate_left
  · (intro w' hSw; go_simp; try with_reducible rfl)
  simp only [Act.put, List.getElem_toArray, List.getElem_cons_succ, List.getElem_cons_zero, List.setIfInBounds_toArray, List.set_cons_zero, List.set_cons_succ]
  refine wpAnyH_take (i := 14) (v := .agg xg.arr) rfl (by kernel_rfl) (by kernel_rfl) (by kernel_rfl) (fun _ _ _ h => h) (Or.inl ⟨by rfl, fun w' hSw => sk_run_load T37 hGs (fun j v hv => (hSw.2.2.cell (4 + j)).trans (XG j v hv)) _ (by rfl) (by rfl)⟩) hHeld ?_
  simp only [Act.put, List.getElem_toArray, List.getElem_cons_succ, List.getElem_cons_zero, List.setIfInBounds_toArray, List.set_cons_zero, List.set_cons_succ]
  refine wpAnyH_ready (rs := [7]) (by kernel_rfl) (by simp) ?_
  refine AllReadyH.cons rfl (fun K hK => ?_) AllReadyH.nil
  go_simp
  refine (HC.out _ hcD).mono ?_
  rintro e w2 ⟨rfl, hT2⟩
  obtain ⟨S2, hG2, hs2, hcs⟩ := hT2
  refine hK _ _ ⟨hHeld.1.chg hcs hgS.1, hHeld.2.1.chg hcs nS0.2, hHeld.2.2.chg hcs nS0.1⟩ (fun hHeld => ?_)
  clear hK K
  simp only [Act.put, List.getElem_toArray, List.getElem_cons_succ, List.getElem_cons_zero, List.setIfInBounds_toArray, List.set_cons_zero, List.set_cons_succ]
  refine wpAnyH_ready (rs := [15]) (by kernel_rfl) (by simp) ?_
  refine AllReadyH.cons rfl (fun K hK => ?_) AllReadyH.nil
  go_simp
  refine (HD.out _ ((Chg.any hcD).trans hcs (fun k hk => .inl hk))).mono ?_
  rintro e w3 ⟨rfl, hT3⟩
  have hT3' := hT3
  obtain ⟨T3, hD3, ht3, hct⟩ := hT3
  refine hK _ _ ⟨hHeld.1.chg hct hgS.2.2.1, hHeld.2.1.chg hct nT0.2, hHeld.2.2.chg hct nT0.1⟩ (fun hHeld => ?_)
  clear hK K
  simp only [Act.put, List.getElem_toArray, List.getElem_cons_succ, List.getElem_cons_zero, List.setIfInBounds_toArray, List.set_cons_zero, List.set_cons_succ]
  refine wpAnyH_take (i := 16) (v := ?_) rfl (by kernel_rfl) (by kernel_rfl) (by kernel_rfl) (fun _ _ _ h => h) (Or.inl ⟨by rfl, ?_⟩) hHeld ?_
  rotate_left
  · (intro w' hSw; go_simp; try with_reducible rfl)
  simp only [Act.put, List.getElem_toArray, List.getElem_cons_succ, List.getElem_cons_zero, List.setIfInBounds_toArray, List.set_cons_zero, List.set_cons_succ]
  refine wpAnyH_take (i := 17) (v := ?_) rfl (by kernel_rfl) (by kernel_rfl) (by kernel_rfl) (fun _ _ _ h => h) (Or.inl ⟨by rfl, ?_⟩) hHeld ?_
  rotate_left
  · (intro w' hSw; go_simp; try with_reducible rfl)
  simp only [Act.put, List.getElem_toArray, List.getElem_cons_succ, List.getElem_cons_zero, List.setIfInBounds_toArray, List.set_cons_zero, List.set_cons_succ]
  refine wpAnyH_done (by kernel_rfl) ?_ _
  have HG := Lib.hid (GmTurns.both H.out hcD ⟨S2, hG2, hs2, hcs⟩ hT3')
  clear hHeld
  go_wp2
  go_ret
  exact ⟨by simp, _, rs, (HI.out.setT i q xg hun).mono (by omega), by omega, HRI.out, HG.out⟩
end Go.Proofs
end
section
namespace Go.Proofs
open Go.RowKit
set_option linter.unusedVariables false
set_option linter.unusedSimpArgs false

set_option maxRecDepth 100000 in
set_option maxHeartbeats 12800000 in
theorem do_4 {w : World} {gb c p N M : Nat} {S T : List Nat} {VR : Value} {t : Tab Gr} {rs : List (Int × Int)} (h : GameIn w gb c p S T VR t rs) (hI : Inv t N M) (hM : M < 500) (hrs : rs.length ≤ 500) (hri : ∀ x ∈ rs, inI x.1) (x : Ac) (hx : x.Fits) (hk : x.k = 4) :
    Calls Try.prog 11 #[ptr gb, x.val] w (DoPost gb (gK gb c S T VR) t rs N M w) := by
  obtain ⟨AR, cR, hVR, _⟩ := h.r.val
  have H := Lib.hid h
  have HI := Lib.hid hI
  have X0 := x.a0
  have X1 := x.a1
  have X2 := x.a2
  have X3 := x.a3
  have X23 := x.a23
  have XG := x.ag
  have hXs := x.size
  have hGs := x.g.size
  have hri0 := hx.ri
  have hat := hx.a
  have hto := hx.to
  have hun := hx.un
  have HRI := Lib.hid hri
  have lgb := h.b.lt
  have hVRlt := h.r.lt
  have HR0 := Lib.hid h.r
  have hb := h.b
  rw [hVR] at hb
  have HVR := Lib.hid hVR
  clear hVR
  have HB := Lib.hid hb
  obtain ⟨n, hn⟩ : ∃ n, n = rs.length := ⟨_, rfl⟩
  rw [← hn] at HB hrs
  have Hn := Lib.hid hn
  unfold Ac.val
  obtain ⟨xg, hxg⟩ : ∃ xg, xg = x.g := ⟨_, rfl⟩
  rw [← hxg] at XG hGs hun
  generalize x.arr = X at *
  rw [hk] at X0
  generalize x.k = xk at *
  generalize x.ri = ri at *
  generalize x.rq = rq at *
  generalize x.at_ = at_ at *
  generalize x.to = to at *
  clear h hI hri hx hb hn hxg
  clear hk
  obtain ⟨a0, a1⟩ := hat
  have hb3 := Blk.new w 39 X
  have y1 := (hb3.cell 1).trans X1
  have y2 := (hb3.cell 2).trans X2
  have e3 := (hb3.alloc (.cells #[.int .i64 ri, .int .u64 rq] 33)).cell 3
  rw [X3] at e3
  have hcA : Chg [] w ((w.alloc (.cells X 39)).alloc (.cells #[.int .i64 ri, .int .u64 rq] 33)) := ((Chg.refl [] w).alloc _).alloc _
  have hb3A := hb3.alloc (.cells #[.int .i64 ri, .int .u64 rq] 33)
  have hb5A : Blk ((w.alloc (.cells X 39)).alloc (.cells #[.int .i64 ri, .int .u64 rq] 33)) (w.heap.size + 1) 33 #[.int .i64 ri, .int .u64 rq] := Blk.at' (w.alloc (.cells X 39)) 33 _ (by simp)
  have g2 := (HB.out.chg hcA (by simp)).cell 2
  by_cases ha : at_ < 1
  · clear hVRlt
    go_enter Try.func11, Try.ntmps11
    go_upto_region 4 with (fail)
    generalize World.alloc (World.alloc w _) _ = wc at *
    obtain ⟨i, q, hb5, hii⟩ : ∃ i q, Blk wc (w.heap.size + 1) 33 #[.int .i64 i, .int .u64 q] ∧ inI i := ⟨ri, rq, hb5A, hri0⟩
    clear y1 y2 e3 g2 hb3 ha a0 a1 hb5A
    have z0 := (hb3A.cell 0).trans X0
    have hgS := H.out.gS
    have hlS := H.out.lt
    have nS0 : w.heap.size ∉ S ∧ w.heap.size + 1 ∉ S := ⟨fun hk => by have := H.out.g.lt.2 _ hk; omega, fun hk => by have := H.out.g.lt.2 _ hk; omega⟩
    have nT0 : w.heap.size ∉ T ∧ w.heap.size + 1 ∉ T := ⟨fun hk => by have := H.out.d.lt _ hk; omega, fun hk => by have := H.out.d.lt _ hk; omega⟩
    have hapT : ∀ k ∈ T, k ∉ S := fun k hk hkS => H.out.ap k hkS hk
    have HC := Lib.hid (fun W (hc : Chg [] w W) => Turn_any (H.out.g.quiet hc) i q hii to hto (HI.out.getG i q))
    have HD := Lib.hid (fun W (hc : Chg S w W) => (by have := rTurn_any (H.out.d.chg hc hapT) (by rw [docL_len HI.out]; exact HI.out.n64) i q hii to; rw [doc_turnE, doc_turnT] at this; exact this : Calls Try.prog 34 #[ptr p, .agg #[.int .i64 i, .int .u64 q], .int .i64 to] W fun e w' => e = .returned (.int .i64 (t.turnE i q to)) ∧ DTurns p T (docT (t.turnT i q to)) W w'))
    clear hlS
    go_upto_region 20 with (fail)
    have hcD := hcA.drew
    refine wp_region_held_drew (S := fun w' => Blk w' gb 45 #[ptr c, ptr p, .slice AR n cR] ∧ Blk w' (w.heap.size + 1) 33 #[.int .i64 i, .int .u64 q] ∧ Blk w' w.heap.size 39 X) (by kernel_rfl) ⟨(HB.out.chg hcA (by simp)).drew, hb5.drew, hb3A.drew⟩ (fun hHeld => ?_)
    simp only [List.setIfInBounds_toArray, List.size_toArray, List.length_cons, List.length_nil, Array.replicate]
    refine wpAnyH_take (i := 0) (v := ?_) rfl (by kernel_rfl) (by kernel_rfl) (by kernel_rfl) (fun _ _ _ h => h) (Or.inl ⟨by rfl, ?_⟩) hHeld ?_
    rotate_left
    · (intro w' hSw; go_simp; try with_reducible rfl)
    simp only [Act.put, List.getElem_toArray, List.getElem_cons_succ, List.getElem_cons_zero, List.setIfInBounds_toArray, List.set_cons_zero, List.set_cons_succ]
    refine wpAnyH_take (i := 1) (v := ?_) rfl (by kernel_rfl) (by kernel_rfl) (by kernel_rfl) (fun _ _ _ h => h) (Or.inl ⟨by rfl, ?_⟩) hHeld ?_
    rotate_left
    · (intro w' hSw; go_simp; try with_reducible rfl)
    simp only [Act.put, List.getElem_toArray, List.getElem_cons_succ, List.getElem_cons_zero, List.setIfInBounds_toArray, List.set_cons_zero, List.set_cons_succ]
    refine wpAnyH_take (i := 2) (v := ?_) rfl (by kernel_rfl) (by kernel_rfl) (by kernel_rfl) (fun _ _ _ h => h) (Or.inl ⟨by rfl, ?_⟩) hHeld ?_
    rotate_left
    · (intro w' hSw; go_simp; try with_reducible rfl)
    simp only [Act.put, List.getElem_toArray, List.getElem_cons_succ, List.getElem_cons_zero, List.setIfInBounds_toArray, List.set_cons_zero, List.set_cons_succ]
    refine wpAnyH_take (i := 3) (v := ?_) rfl (by kernel_rfl) (by kernel_rfl) (by kernel_rfl) (fun _ _ _ h => h) (Or.inl ⟨by rfl, ?_⟩) hHeld ?_
    rotate_left
    · (intro w' hSw; have q0 := hSw.1.cell 0; simp only [List.getElem?_toArray, List.getElem?_cons_zero, List.getElem?_cons_succ] at *; go_simp; try with_reducible rfl)
    simp only [Act.put, List.getElem_toArray, List.getElem_cons_succ, List.getElem_cons_zero, List.setIfInBounds_toArray, List.set_cons_zero, List.set_cons_succ]
    refine wpAnyH_take (i := 4) (v := ?_) rfl (by kernel_rfl) (by kernel_rfl) (by kernel_rfl) (fun _ _ _ h => h) (Or.inl ⟨by rfl, ?_⟩) hHeld ?_
    rotate_left
    · (intro w' hSw; have q0 := hSw.2.1.cell 0; have q1 := hSw.2.1.cell 1; simp only [List.getElem?_toArray, List.getElem?_cons_zero, List.getElem?_cons_succ] at *; go_simp; try with_reducible rfl)
    simp only [Act.put, List.getElem_toArray, List.getElem_cons_succ, List.getElem_cons_zero, List.setIfInBounds_toArray, List.set_cons_zero, List.set_cons_succ]
    refine wpAnyH_take (i := 5) (v := ?_) rfl (by kernel_rfl) (by kernel_rfl) (by kernel_rfl) (fun _ _ _ h => h) (Or.inl ⟨by rfl, ?_⟩) hHeld ?_
    rotate_left
    · (intro w' hSw; go_simp; try with_reducible rfl)
    simp only [Act.put, List.getElem_toArray, List.getElem_cons_succ, List.getElem_cons_zero, List.setIfInBounds_toArray, List.set_cons_zero, List.set_cons_succ]
    refine wpAnyH_take (i := 6) (v := ?_) rfl (by kernel_rfl) (by kernel_rfl) (by kernel_rfl) (fun _ _ _ h => h) (Or.inl ⟨by rfl, ?_⟩) hHeld ?_
    rotate_left
    · (intro w' hSw; have q0 := (hSw.2.2.cell 23).trans X23; go_simp; try with_reducible rfl)
    simp only [Act.put, List.getElem_toArray, List.getElem_cons_succ, List.getElem_cons_zero, List.setIfInBounds_toArray, List.set_cons_zero, List.set_cons_succ]
    refine wpAnyH_take (i := 8) (v := ?_) rfl (by kernel_rfl) (by kernel_rfl) (by kernel_rfl) (fun _ _ _ h => h) (Or.inl ⟨by rfl, ?_⟩) hHeld ?_
    rotate_left
    · (intro w' hSw; go_simp; try with_reducible rfl)
    simp only [Act.put, List.getElem_toArray, List.getElem_cons_succ, List.getElem_cons_zero, List.setIfInBounds_toArray, List.set_cons_zero, List.set_cons_succ]
    refine wpAnyH_take (i := 9) (v := ?_) rfl (by kernel_rfl) (by kernel_rfl) (by kernel_rfl) (fun _ _ _ h => h) (Or.inl ⟨by rfl, ?_⟩) hHeld ?_
    rotate_left
    · (intro w' hSw; go_simp; try with_reducible rfl)
    simp only [Act.put, List.getElem_toArray, List.getElem_cons_succ, List.getElem_cons_zero, List.setIfInBounds_toArray, List.set_cons_zero, List.set_cons_succ]
    refine wpAnyH_take (i := 10) (v := ?_) rfl (by kernel_rfl) (by kernel_rfl) (by kernel_rfl) (fun _ _ _ h => h) (Or.inl ⟨by rfl, ?_⟩) hHeld ?_
    rotate_left
    · (intro w' hSw; go_simp; try with_reducible rfl)
    simp only [Act.put, List.getElem_toArray, List.getElem_cons_succ, List.getElem_cons_zero, List.setIfInBounds_toArray, List.set_cons_zero, List.set_cons_succ]
    refine wpAnyH_take (i := 11) (v := ?_) rfl (by kernel_rfl) (by kernel_rfl) (by kernel_rfl) (fun _ _ _ h => h) (Or.inl ⟨by rfl, ?_⟩) hHeld ?_
    rotate_left
    · (intro w' hSw; have q0 := hSw.1.cell 1; simp only [List.getElem?_toArray, List.getElem?_cons_zero, List.getElem?_cons_succ] at *; go_simp; try with_reducible rfl)
    simp only [Act.put, List.getElem_toArray, List.getElem_cons_succ, List.getElem_cons_zero, List.setIfInBounds_toArray, List.set_cons_zero, List.set_cons_succ]
    refine wpAnyH_take (i := 12) (v := ?_) rfl (by kernel_rfl) (by kernel_rfl) (by kernel_rfl) (fun _ _ _ h => h) (Or.inl ⟨by rfl, ?_⟩) hHeld ?_
    rotate_left
    · (intro w' hSw; have q0 := hSw.2.1.cell 0; have q1 := hSw.2.1.cell 1; simp only [List.getElem?_toArray, List.getElem?_cons_zero, List.getElem?_cons_succ] at *; go_simp; try with_reducible rfl)
    simp only [Act.put, List.getElem_toArray, List.getElem_cons_succ, List.getElem_cons_zero, List.setIfInBounds_toArray, List.set_cons_zero, List.set_cons_succ]
    refine wpAnyH_take (i := 13) (v := ?_) rfl (by kernel_rfl) (by kernel_rfl) (by kernel_rfl) (fun _ _ _ h => h) (Or.inl ⟨by rfl, ?_⟩) hHeld ?_
    rotate_left
    · (intro w' hSw; go_simp; try with_reducible rfl)
    simp only [Act.put, List.getElem_toArray, List.getElem_cons_succ, List.getElem_cons_zero, List.setIfInBounds_toArray, List.set_cons_zero, List.set_cons_succ]
    refine wpAnyH_take (i := 14) (v := ?_) rfl (by kernel_rfl) (by kernel_rfl) (by kernel_rfl) (fun _ _ _ h => h) (Or.inl ⟨by rfl, ?_⟩) hHeld ?_
    rotate_left
    · (intro w' hSw; have q0 := (hSw.2.2.cell 23).trans X23; go_simp; try with_reducible rfl)
    simp only [Act.put, List.getElem_toArray, List.getElem_cons_succ, List.getElem_cons_zero, List.setIfInBounds_toArray, List.set_cons_zero, List.set_cons_succ]
    refine wpAnyH_ready (rs := [7]) (by kernel_rfl) (by simp) ?_
    refine AllReadyH.cons rfl (fun K hK => ?_) AllReadyH.nil
    go_simp
    refine (HC.out _ hcD).mono ?_
    rintro e w2 ⟨rfl, hT2⟩
    obtain ⟨S2, hG2, hs2, hcs⟩ := hT2
    refine hK _ _ ⟨hHeld.1.chg hcs hgS.1, hHeld.2.1.chg hcs nS0.2, hHeld.2.2.chg hcs nS0.1⟩ (fun hHeld => ?_)
    clear hK K
    simp only [Act.put, List.getElem_toArray, List.getElem_cons_succ, List.getElem_cons_zero, List.setIfInBounds_toArray, List.set_cons_zero, List.set_cons_succ]
    refine wpAnyH_ready (rs := [15]) (by kernel_rfl) (by simp) ?_
    refine AllReadyH.cons rfl (fun K hK => ?_) AllReadyH.nil
    go_simp
    refine (HD.out _ ((Chg.any hcD).trans hcs (fun k hk => .inl hk))).mono ?_
    rintro e w3 ⟨rfl, hT3⟩
    have hT3' := hT3
    obtain ⟨T3, hD3, ht3, hct⟩ := hT3
    refine hK _ _ ⟨hHeld.1.chg hct hgS.2.2.1, hHeld.2.1.chg hct nT0.2, hHeld.2.2.chg hct nT0.1⟩ (fun hHeld => ?_)
    clear hK K
    simp only [Act.put, List.getElem_toArray, List.getElem_cons_succ, List.getElem_cons_zero, List.setIfInBounds_toArray, List.set_cons_zero, List.set_cons_succ]
    refine wpAnyH_take (i := 16) (v := ?_) rfl (by kernel_rfl) (by kernel_rfl) (by kernel_rfl) (fun _ _ _ h => h) (Or.inl ⟨by rfl, ?_⟩) hHeld ?_
    rotate_left
    · (intro w' hSw; go_simp; try with_reducible rfl)
    simp only [Act.put, List.getElem_toArray, List.getElem_cons_succ, List.getElem_cons_zero, List.setIfInBounds_toArray, List.set_cons_zero, List.set_cons_succ]
    refine wpAnyH_take (i := 17) (v := ?_) rfl (by kernel_rfl) (by kernel_rfl) (by kernel_rfl) (fun _ _ _ h => h) (Or.inl ⟨by rfl, ?_⟩) hHeld ?_
    rotate_left
    · (intro w' hSw; go_simp; try with_reducible rfl)
    simp only [Act.put, List.getElem_toArray, List.getElem_cons_succ, List.getElem_cons_zero, List.setIfInBounds_toArray, List.set_cons_zero, List.set_cons_succ]
    refine wpAnyH_done (by kernel_rfl) ?_ _
    have HG := Lib.hid (GmTurns.both H.out hcD ⟨S2, hG2, hs2, hcs⟩ hT3')
    clear hHeld
    go_wp2
    go_ret
    exact ⟨by simp, _, rs, (HI.out.turnT i q to).mono (by omega), by omega, HRI.out, HG.out⟩
  by_cases hn0 : n = 0
  · have hn0' : ¬ (0 < n) := by omega
    clear hVRlt
    go_enter Try.func11, Try.ntmps11
    go_upto_region 4 with (fail)
    generalize World.alloc (World.alloc w _) _ = wc at *
    obtain ⟨i, q, hb5, hii⟩ : ∃ i q, Blk wc (w.heap.size + 1) 33 #[.int .i64 i, .int .u64 q] ∧ inI i := ⟨ri, rq, hb5A, hri0⟩
    clear y1 y2 e3 g2 hb3 ha a0 a1 hn0 hn0' hb5A
    have z0 := (hb3A.cell 0).trans X0
    have hgS := H.out.gS
    have hlS := H.out.lt
    have nS0 : w.heap.size ∉ S ∧ w.heap.size + 1 ∉ S := ⟨fun hk => by have := H.out.g.lt.2 _ hk; omega, fun hk => by have := H.out.g.lt.2 _ hk; omega⟩
    have nT0 : w.heap.size ∉ T ∧ w.heap.size + 1 ∉ T := ⟨fun hk => by have := H.out.d.lt _ hk; omega, fun hk => by have := H.out.d.lt _ hk; omega⟩
    have hapT : ∀ k ∈ T, k ∉ S := fun k hk hkS => H.out.ap k hkS hk
    have HC := Lib.hid (fun W (hc : Chg [] w W) => Turn_any (H.out.g.quiet hc) i q hii to hto (HI.out.getG i q))
    have HD := Lib.hid (fun W (hc : Chg S w W) => (by have := rTurn_any (H.out.d.chg hc hapT) (by rw [docL_len HI.out]; exact HI.out.n64) i q hii to; rw [doc_turnE, doc_turnT] at this; exact this : Calls Try.prog 34 #[ptr p, .agg #[.int .i64 i, .int .u64 q], .int .i64 to] W fun e w' => e = .returned (.int .i64 (t.turnE i q to)) ∧ DTurns p T (docT (t.turnT i q to)) W w'))
    clear hlS
    go_upto_region 20 with (fail)
    have hcD := hcA.drew
    refine wp_region_held_drew (S := fun w' => Blk w' gb 45 #[ptr c, ptr p, .slice AR n cR] ∧ Blk w' (w.heap.size + 1) 33 #[.int .i64 i, .int .u64 q] ∧ Blk w' w.heap.size 39 X) (by kernel_rfl) ⟨(HB.out.chg hcA (by simp)).drew, hb5.drew, hb3A.drew⟩ (fun hHeld => ?_)
    simp only [List.setIfInBounds_toArray, List.size_toArray, List.length_cons, List.length_nil, Array.replicate]
    refine wpAnyH_take (i := 0) (v := ?_) rfl (by kernel_rfl) (by kernel_rfl) (by kernel_rfl) (fun _ _ _ h => h) (Or.inl ⟨by rfl, ?_⟩) hHeld ?_
    rotate_left
    · (intro w' hSw; go_simp; try with_reducible rfl)
    simp only [Act.put, List.getElem_toArray, List.getElem_cons_succ, List.getElem_cons_zero, List.setIfInBounds_toArray, List.set_cons_zero, List.set_cons_succ]
    refine wpAnyH_take (i := 1) (v := ?_) rfl (by kernel_rfl) (by kernel_rfl) (by kernel_rfl) (fun _ _ _ h => h) (Or.inl ⟨by rfl, ?_⟩) hHeld ?_
    rotate_left
    · (intro w' hSw; go_simp; try with_reducible rfl)
    simp only [Act.put, List.getElem_toArray, List.getElem_cons_succ, List.getElem_cons_zero, List.setIfInBounds_toArray, List.set_cons_zero, List.set_cons_succ]
    refine wpAnyH_take (i := 2) (v := ?_) rfl (by kernel_rfl) (by kernel_rfl) (by kernel_rfl) (fun _ _ _ h => h) (Or.inl ⟨by rfl, ?_⟩) hHeld ?_
    rotate_left
    · (intro w' hSw; go_simp; try with_reducible rfl)
    simp only [Act.put, List.getElem_toArray, List.getElem_cons_succ, List.getElem_cons_zero, List.setIfInBounds_toArray, List.set_cons_zero, List.set_cons_succ]
    refine wpAnyH_take (i := 3) (v := ?_) rfl (by kernel_rfl) (by kernel_rfl) (by kernel_rfl) (fun _ _ _ h => h) (Or.inl ⟨by rfl, ?_⟩) hHeld ?_
    rotate_left
    · (intro w' hSw; have q0 := hSw.1.cell 0; simp only [List.getElem?_toArray, List.getElem?_cons_zero, List.getElem?_cons_succ] at *; go_simp; try with_reducible rfl)
    simp only [Act.put, List.getElem_toArray, List.getElem_cons_succ, List.getElem_cons_zero, List.setIfInBounds_toArray, List.set_cons_zero, List.set_cons_succ]
    refine wpAnyH_take (i := 4) (v := ?_) rfl (by kernel_rfl) (by kernel_rfl) (by kernel_rfl) (fun _ _ _ h => h) (Or.inl ⟨by rfl, ?_⟩) hHeld ?_
    rotate_left
    · (intro w' hSw; have q0 := hSw.2.1.cell 0; have q1 := hSw.2.1.cell 1; simp only [List.getElem?_toArray, List.getElem?_cons_zero, List.getElem?_cons_succ] at *; go_simp; try with_reducible rfl)
    simp only [Act.put, List.getElem_toArray, List.getElem_cons_succ, List.getElem_cons_zero, List.setIfInBounds_toArray, List.set_cons_zero, List.set_cons_succ]
    refine wpAnyH_take (i := 5) (v := ?_) rfl (by kernel_rfl) (by kernel_rfl) (by kernel_rfl) (fun _ _ _ h => h) (Or.inl ⟨by rfl, ?_⟩) hHeld ?_
    rotate_left
    · (intro w' hSw; go_simp; try with_reducible rfl)
    simp only [Act.put, List.getElem_toArray, List.getElem_cons_succ, List.getElem_cons_zero, List.setIfInBounds_toArray, List.set_cons_zero, List.set_cons_succ]
    refine wpAnyH_take (i := 6) (v := ?_) rfl (by kernel_rfl) (by kernel_rfl) (by kernel_rfl) (fun _ _ _ h => h) (Or.inl ⟨by rfl, ?_⟩) hHeld ?_
    rotate_left
    · (intro w' hSw; have q0 := (hSw.2.2.cell 23).trans X23; go_simp; try with_reducible rfl)
    simp only [Act.put, List.getElem_toArray, List.getElem_cons_succ, List.getElem_cons_zero, List.setIfInBounds_toArray, List.set_cons_zero, List.set_cons_succ]
    refine wpAnyH_take (i := 8) (v := ?_) rfl (by kernel_rfl) (by kernel_rfl) (by kernel_rfl) (fun _ _ _ h => h) (Or.inl ⟨by rfl, ?_⟩) hHeld ?_
    rotate_left
    · (intro w' hSw; go_simp; try with_reducible rfl)
    simp only [Act.put, List.getElem_toArray, List.getElem_cons_succ, List.getElem_cons_zero, List.setIfInBounds_toArray, List.set_cons_zero, List.set_cons_succ]
    refine wpAnyH_take (i := 9) (v := ?_) rfl (by kernel_rfl) (by kernel_rfl) (by kernel_rfl) (fun _ _ _ h => h) (Or.inl ⟨by rfl, ?_⟩) hHeld ?_
    rotate_left
    · (intro w' hSw; go_simp; try with_reducible rfl)
    simp only [Act.put, List.getElem_toArray, List.getElem_cons_succ, List.getElem_cons_zero, List.setIfInBounds_toArray, List.set_cons_zero, List.set_cons_succ]
    refine wpAnyH_take (i := 10) (v := ?_) rfl (by kernel_rfl) (by kernel_rfl) (by kernel_rfl) (fun _ _ _ h => h) (Or.inl ⟨by rfl, ?_⟩) hHeld ?_
    rotate_left
    · (intro w' hSw; go_simp; try with_reducible rfl)
    simp only [Act.put, List.getElem_toArray, List.getElem_cons_succ, List.getElem_cons_zero, List.setIfInBounds_toArray, List.set_cons_zero, List.set_cons_succ]
    refine wpAnyH_take (i := 11) (v := ?_) rfl (by kernel_rfl) (by kernel_rfl) (by kernel_rfl) (fun _ _ _ h => h) (Or.inl ⟨by rfl, ?_⟩) hHeld ?_
    rotate_left
    · (intro w' hSw; have q0 := hSw.1.cell 1; simp only [List.getElem?_toArray, List.getElem?_cons_zero, List.getElem?_cons_succ] at *; go_simp; try with_reducible rfl)
    simp only [Act.put, List.getElem_toArray, List.getElem_cons_succ, List.getElem_cons_zero, List.setIfInBounds_toArray, List.set_cons_zero, List.set_cons_succ]
    refine wpAnyH_take (i := 12) (v := ?_) rfl (by kernel_rfl) (by kernel_rfl) (by kernel_rfl) (fun _ _ _ h => h) (Or.inl ⟨by rfl, ?_⟩) hHeld ?_
    rotate_left
    · (intro w' hSw; have q0 := hSw.2.1.cell 0; have q1 := hSw.2.1.cell 1; simp only [List.getElem?_toArray, List.getElem?_cons_zero, List.getElem?_cons_succ] at *; go_simp; try with_reducible rfl)
    simp only [Act.put, List.getElem_toArray, List.getElem_cons_succ, List.getElem_cons_zero, List.setIfInBounds_toArray, List.set_cons_zero, List.set_cons_succ]
    refine wpAnyH_take (i := 13) (v := ?_) rfl (by kernel_rfl) (by kernel_rfl) (by kernel_rfl) (fun _ _ _ h => h) (Or.inl ⟨by rfl, ?_⟩) hHeld ?_
    rotate_left
    · (intro w' hSw; go_simp; try with_reducible rfl)
    simp only [Act.put, List.getElem_toArray, List.getElem_cons_succ, List.getElem_cons_zero, List.setIfInBounds_toArray, List.set_cons_zero, List.set_cons_succ]
    refine wpAnyH_take (i := 14) (v := ?_) rfl (by kernel_rfl) (by kernel_rfl) (by kernel_rfl) (fun _ _ _ h => h) (Or.inl ⟨by rfl, ?_⟩) hHeld ?_
    rotate_left
    · (intro w' hSw; have q0 := (hSw.2.2.cell 23).trans X23; go_simp; try with_reducible rfl)
    simp only [Act.put, List.getElem_toArray, List.getElem_cons_succ, List.getElem_cons_zero, List.setIfInBounds_toArray, List.set_cons_zero, List.set_cons_succ]
    refine wpAnyH_ready (rs := [7]) (by kernel_rfl) (by simp) ?_
    refine AllReadyH.cons rfl (fun K hK => ?_) AllReadyH.nil
    go_simp
    refine (HC.out _ hcD).mono ?_
    rintro e w2 ⟨rfl, hT2⟩
    obtain ⟨S2, hG2, hs2, hcs⟩ := hT2
    refine hK _ _ ⟨hHeld.1.chg hcs hgS.1, hHeld.2.1.chg hcs nS0.2, hHeld.2.2.chg hcs nS0.1⟩ (fun hHeld => ?_)
    clear hK K
    simp only [Act.put, List.getElem_toArray, List.getElem_cons_succ, List.getElem_cons_zero, List.setIfInBounds_toArray, List.set_cons_zero, List.set_cons_succ]
    refine wpAnyH_ready (rs := [15]) (by kernel_rfl) (by simp) ?_
    refine AllReadyH.cons rfl (fun K hK => ?_) AllReadyH.nil
    go_simp
    refine (HD.out _ ((Chg.any hcD).trans hcs (fun k hk => .inl hk))).mono ?_
    rintro e w3 ⟨rfl, hT3⟩
    have hT3' := hT3
    obtain ⟨T3, hD3, ht3, hct⟩ := hT3
    refine hK _ _ ⟨hHeld.1.chg hct hgS.2.2.1, hHeld.2.1.chg hct nT0.2, hHeld.2.2.chg hct nT0.1⟩ (fun hHeld => ?_)
    clear hK K
    simp only [Act.put, List.getElem_toArray, List.getElem_cons_succ, List.getElem_cons_zero, List.setIfInBounds_toArray, List.set_cons_zero, List.set_cons_succ]
    refine wpAnyH_take (i := 16) (v := ?_) rfl (by kernel_rfl) (by kernel_rfl) (by kernel_rfl) (fun _ _ _ h => h) (Or.inl ⟨by rfl, ?_⟩) hHeld ?_
    rotate_left
    · (intro w' hSw; go_simp; try with_reducible rfl)
    simp only [Act.put, List.getElem_toArray, List.getElem_cons_succ, List.getElem_cons_zero, List.setIfInBounds_toArray, List.set_cons_zero, List.set_cons_succ]
    refine wpAnyH_take (i := 17) (v := ?_) rfl (by kernel_rfl) (by kernel_rfl) (by kernel_rfl) (fun _ _ _ h => h) (Or.inl ⟨by rfl, ?_⟩) hHeld ?_
    rotate_left
    · (intro w' hSw; go_simp; try with_reducible rfl)
    simp only [Act.put, List.getElem_toArray, List.getElem_cons_succ, List.getElem_cons_zero, List.setIfInBounds_toArray, List.set_cons_zero, List.set_cons_succ]
    refine wpAnyH_done (by kernel_rfl) ?_ _
    have HG := Lib.hid (GmTurns.both H.out hcD ⟨S2, hG2, hs2, hcs⟩ hT3')
    clear hHeld
    go_wp2
    go_ret
    exact ⟨by simp, _, rs, (HI.out.turnT i q to).mono (by omega), by omega, HRI.out, HG.out⟩
  obtain ⟨d, hd⟩ : ∃ d, d = (at_ - 1).tmod (n : Int) := ⟨_, rfl⟩
  have hdd := tmod_in (a := at_ - 1) (n := n) (by omega) (by omega)
  rw [← hd] at hdd
  obtain ⟨d0, d1⟩ := hdd
  obtain ⟨j, hj⟩ : ∃ j : Nat, (j : Int) = (n : Int) - 1 - d := ⟨((n : Int) - 1 - d).toNat, by omega⟩
  have hjn : j < rs.length := by rw [← Hn.out]; omega
  obtain ⟨y, hy⟩ : ∃ y, rs[j]? = some y := ⟨_, List.getElem?_eq_getElem hjn⟩
  have hyi : inI y.1 := HRI.out y (List.mem_of_getElem? hy)
  have HR0' := HR0.out
  rw [HVR.out] at HR0'
  obtain ⟨gr, cr, hv, _, _, hrc, _, hgr⟩ := HR0'.form (by omega)
  simp only [Value.slice.injEq] at hv
  obtain ⟨h90, h91, h92⟩ := hv
  obtain ⟨q0, q1⟩ := prCells_at hy
  have hcD := hcA.drew
  have r0 := (hcD.cell (p := ⟨gr, j * 2, none⟩) hgr (by simp)).trans (hrc _ _ q0)
  have r1 := (hcD.cell (p := ⟨gr, j * 2 + 1, none⟩) hgr (by simp)).trans (hrc _ _ q1)
  have g2D := (HB.out.chg hcD (by simp)).cell 2
  rw [h90] at g2D
  have hb5D := hb5A.drew
  have f0 := hb5D.frozen 0
  have f1 := hb5D.frozen 1
  have s0 := hb5D.cell 0
  have s1 := hb5D.cell 1
  have e3D := hb3A.drew.cell 3
  rw [X3] at e3D
  have w1 : IntKind.i64.wrap (at_ - 1) = at_ - 1 := IntWalk.i64_in _ (by omega)
  have w2 : IntKind.i64.wrap ((n : Int) - 1) = (n : Int) - 1 := IntWalk.i64_in _ (by omega)
  have w4 : IntKind.i64.wrap ((n : Int) - 1 - d) = (j : Nat) := by rw [← hj]; exact IntWalk.i64_in _ (by omega)
  have w5 : wrap64 ((n : Int) - 1 - d) = (j : Nat) := by rw [← hj]; exact IntWalk.wrap64_in _ (by omega)
  have w6 : wrap64 (at_ - 1) = at_ - 1 := IntWalk.wrap64_in _ (by omega)
  have w7 : IntKind.i64.wrap (j : Int) = (j : Nat) := IntWalk.i64_in _ (by omega)
  have j0 : (0 : Int) ≤ (j : Int) := by omega
  have j1 : (j : Int) < (n : Int) := by omega
  have hn1 : 0 < n := by omega
  have hn2 : ¬ ((n : Int) = 0) := by omega
  have hn3 : ((n : Int) == 0) = false := by simp; omega
  have hmod : (at_ - 1).tmod (n : Int) = d := hd.symm
  have hjs : (n : Int) - 1 - d = (j : Nat) := hj.symm
  clear hVRlt HR0' h90 h91 h92 hrc hy hjn hj q0 q1 hd
  go_enter Try.func11, Try.ntmps11
  go_upto_region 3 with (fail)
  have hb3D := hb3A.drew
  refine wp_region_still_tail 22 (by kernel_rfl) (by kernel_rfl) ?_
  simp only [List.take_succ_cons, List.take_zero, List.drop_succ_cons, List.drop_zero]
  (try change wpStill _ _ (World.drew _) _ _ _)
  generalize hwd : World.drew _ = wd at *
  have HWD := Lib.hid hwd
  clear hwd
  simp only [List.getElem?_toArray, List.getElem?_cons_zero, List.getElem?_cons_succ] at s0 s1 g2D
  (repeat still_step)
  refine wpStill_nil ?_
  (try change wpList _ _ _ _ _ (World.drew _))
  rw [HWD.out]
  clear HWD
  go_upto_region 4 with (fail)
  have hcC := (hcD.setCell (p := ⟨w.heap.size + 1, 0, none⟩) (.inr (by simp)) (.int .i64 y.1)).setCell (p := ⟨w.heap.size + 1, 1, none⟩) (.inr (by simp)) (.int .u64 y.2)
  have hb5C := (hb5D.set_ 0 (.int .i64 y.1)).set_ 1 (.int .u64 y.2)
  have hb3C := (hb3D.far (p := ⟨w.heap.size + 1, 0, none⟩) (by simp) (.int .i64 y.1)).far (p := ⟨w.heap.size + 1, 1, none⟩) (by simp) (.int .u64 y.2)
  clear hcA hb3A hb3D hb5A hcD r0 r1 g2D hb5D f0 f1 s0 s1 e3D w1 w2 w4 w5 w6 w7 j0 j1 hn1 hn2 hn3 hmod hjs y1 y2 e3 g2 hb3 ha a0 a1 hn0
  generalize World.setCell _ _ _ = wc at *
  have hcA := hcC
  have hb3A := hb3C
  clear hcC hb3C
  obtain ⟨i, q, hb5, hii⟩ : ∃ i q, Blk wc (w.heap.size + 1) 33 #[.int .i64 i, .int .u64 q] ∧ inI i := ⟨y.1, y.2, hb5C, hyi⟩
  clear hb5C hyi hgr HVR
  have z0 := (hb3A.cell 0).trans X0
  have hgS := H.out.gS
  have hlS := H.out.lt
  have nS0 : w.heap.size ∉ S ∧ w.heap.size + 1 ∉ S := ⟨fun hk => by have := H.out.g.lt.2 _ hk; omega, fun hk => by have := H.out.g.lt.2 _ hk; omega⟩
  have nT0 : w.heap.size ∉ T ∧ w.heap.size + 1 ∉ T := ⟨fun hk => by have := H.out.d.lt _ hk; omega, fun hk => by have := H.out.d.lt _ hk; omega⟩
  have hapT : ∀ k ∈ T, k ∉ S := fun k hk hkS => H.out.ap k hkS hk
  have HC := Lib.hid (fun W (hc : Chg [] w W) => Turn_any (H.out.g.quiet hc) i q hii to hto (HI.out.getG i q))
  have HD := Lib.hid (fun W (hc : Chg S w W) => (by have := rTurn_any (H.out.d.chg hc hapT) (by rw [docL_len HI.out]; exact HI.out.n64) i q hii to; rw [doc_turnE, doc_turnT] at this; exact this : Calls Try.prog 34 #[ptr p, .agg #[.int .i64 i, .int .u64 q], .int .i64 to] W fun e w' => e = .returned (.int .i64 (t.turnE i q to)) ∧ DTurns p T (docT (t.turnT i q to)) W w'))
  clear hlS
  go_upto_region 20 with (fail)
  have hcD := hcA.drew
  refine wp_region_held_drew (S := fun w' => Blk w' gb 45 #[ptr c, ptr p, .slice AR n cR] ∧ Blk w' (w.heap.size + 1) 33 #[.int .i64 i, .int .u64 q] ∧ Blk w' w.heap.size 39 X) (by kernel_rfl) ⟨(HB.out.chg hcA (by simp)).drew, hb5.drew, hb3A.drew⟩ (fun hHeld => ?_)
  simp only [List.setIfInBounds_toArray, List.size_toArray, List.length_cons, List.length_nil, Array.replicate]
  refine wpAnyH_take (i := 0) (v := ?_) rfl (by kernel_rfl) (by kernel_rfl) (by kernel_rfl) (fun _ _ _ h => h) (Or.inl ⟨by rfl, ?_⟩) hHeld ?_
  rotate_left
  · (intro w' hSw; go_simp; try with_reducible rfl)
  simp only [Act.put, List.getElem_toArray, List.getElem_cons_succ, List.getElem_cons_zero, List.setIfInBounds_toArray, List.set_cons_zero, List.set_cons_succ]
  refine wpAnyH_take (i := 1) (v := ?_) rfl (by kernel_rfl) (by kernel_rfl) (by kernel_rfl) (fun _ _ _ h => h) (Or.inl ⟨by rfl, ?_⟩) hHeld ?_
  rotate_left
  · (intro w' hSw; go_simp; try with_reducible rfl)
  simp only [Act.put, List.getElem_toArray, List.getElem_cons_succ, List.getElem_cons_zero, List.setIfInBounds_toArray, List.set_cons_zero, List.set_cons_succ]
  refine wpAnyH_take (i := 2) (v := ?_) rfl (by kernel_rfl) (by kernel_rfl) (by kernel_rfl) (fun _ _ _ h => h) (Or.inl ⟨by rfl, ?_⟩) hHeld ?_
  rotate_left
  · (intro w' hSw; go_simp; try with_reducible rfl)
  simp only [Act.put, List.getElem_toArray, List.getElem_cons_succ, List.getElem_cons_zero, List.setIfInBounds_toArray, List.set_cons_zero, List.set_cons_succ]
  refine wpAnyH_take (i := 3) (v := ?_) rfl (by kernel_rfl) (by kernel_rfl) (by kernel_rfl) (fun _ _ _ h => h) (Or.inl ⟨by rfl, ?_⟩) hHeld ?_
  rotate_left
  · (intro w' hSw; have q0 := hSw.1.cell 0; simp only [List.getElem?_toArray, List.getElem?_cons_zero, List.getElem?_cons_succ] at *; go_simp; try with_reducible rfl)
  simp only [Act.put, List.getElem_toArray, List.getElem_cons_succ, List.getElem_cons_zero, List.setIfInBounds_toArray, List.set_cons_zero, List.set_cons_succ]
  refine wpAnyH_take (i := 4) (v := ?_) rfl (by kernel_rfl) (by kernel_rfl) (by kernel_rfl) (fun _ _ _ h => h) (Or.inl ⟨by rfl, ?_⟩) hHeld ?_
  rotate_left
  · (intro w' hSw; have q0 := hSw.2.1.cell 0; have q1 := hSw.2.1.cell 1; simp only [List.getElem?_toArray, List.getElem?_cons_zero, List.getElem?_cons_succ] at *; go_simp; try with_reducible rfl)
  simp only [Act.put, List.getElem_toArray, List.getElem_cons_succ, List.getElem_cons_zero, List.setIfInBounds_toArray, List.set_cons_zero, List.set_cons_succ]
  refine wpAnyH_take (i := 5) (v := ?_) rfl (by kernel_rfl) (by kernel_rfl) (by kernel_rfl) (fun _ _ _ h => h) (Or.inl ⟨by rfl, ?_⟩) hHeld ?_
  rotate_left
  · (intro w' hSw; go_simp; try with_reducible rfl)
  simp only [Act.put, List.getElem_toArray, List.getElem_cons_succ, List.getElem_cons_zero, List.setIfInBounds_toArray, List.set_cons_zero, List.set_cons_succ]
  refine wpAnyH_take (i := 6) (v := ?_) rfl (by kernel_rfl) (by kernel_rfl) (by kernel_rfl) (fun _ _ _ h => h) (Or.inl ⟨by rfl, ?_⟩) hHeld ?_
  rotate_left
  · (intro w' hSw; have q0 := (hSw.2.2.cell 23).trans X23; go_simp; try with_reducible rfl)
  simp only [Act.put, List.getElem_toArray, List.getElem_cons_succ, List.getElem_cons_zero, List.setIfInBounds_toArray, List.set_cons_zero, List.set_cons_succ]
  refine wpAnyH_take (i := 8) (v := ?_) rfl (by kernel_rfl) (by kernel_rfl) (by kernel_rfl) (fun _ _ _ h => h) (Or.inl ⟨by rfl, ?_⟩) hHeld ?_
  rotate_left
  · (intro w' hSw; go_simp; try with_reducible rfl)
  simp only [Act.put, List.getElem_toArray, List.getElem_cons_succ, List.getElem_cons_zero, List.setIfInBounds_toArray, List.set_cons_zero, List.set_cons_succ]
  refine wpAnyH_take (i := 9) (v := ?_) rfl (by kernel_rfl) (by kernel_rfl) (by kernel_rfl) (fun _ _ _ h => h) (Or.inl ⟨by rfl, ?_⟩) hHeld ?_
  rotate_left
  · (intro w' hSw; go_simp; try with_reducible rfl)
  simp only [Act.put, List.getElem_toArray, List.getElem_cons_succ, List.getElem_cons_zero, List.setIfInBounds_toArray, List.set_cons_zero, List.set_cons_succ]
  refine wpAnyH_take (i := 10) (v := ?_) rfl (by kernel_rfl) (by kernel_rfl) (by kernel_rfl) (fun _ _ _ h => h) (Or.inl ⟨by rfl, ?_⟩) hHeld ?_
  rotate_left
  · (intro w' hSw; go_simp; try with_reducible rfl)
  simp only [Act.put, List.getElem_toArray, List.getElem_cons_succ, List.getElem_cons_zero, List.setIfInBounds_toArray, List.set_cons_zero, List.set_cons_succ]
  refine wpAnyH_take (i := 11) (v := ?_) rfl (by kernel_rfl) (by kernel_rfl) (by kernel_rfl) (fun _ _ _ h => h) (Or.inl ⟨by rfl, ?_⟩) hHeld ?_
  rotate_left
  · (intro w' hSw; have q0 := hSw.1.cell 1; simp only [List.getElem?_toArray, List.getElem?_cons_zero, List.getElem?_cons_succ] at *; go_simp; try with_reducible rfl)
  simp only [Act.put, List.getElem_toArray, List.getElem_cons_succ, List.getElem_cons_zero, List.setIfInBounds_toArray, List.set_cons_zero, List.set_cons_succ]
  refine wpAnyH_take (i := 12) (v := ?_) rfl (by kernel_rfl) (by kernel_rfl) (by kernel_rfl) (fun _ _ _ h => h) (Or.inl ⟨by rfl, ?_⟩) hHeld ?_
  rotate_left
  · (intro w' hSw; have q0 := hSw.2.1.cell 0; have q1 := hSw.2.1.cell 1; simp only [List.getElem?_toArray, List.getElem?_cons_zero, List.getElem?_cons_succ] at *; go_simp; try with_reducible rfl)
  simp only [Act.put, List.getElem_toArray, List.getElem_cons_succ, List.getElem_cons_zero, List.setIfInBounds_toArray, List.set_cons_zero, List.set_cons_succ]
  refine wpAnyH_take (i := 13) (v := ?_) rfl (by kernel_rfl) (by kernel_rfl) (by kernel_rfl) (fun _ _ _ h => h) (Or.inl ⟨by rfl, ?_⟩) hHeld ?_
  rotate_left
  · (intro w' hSw; go_simp; try with_reducible rfl)
  simp only [Act.put, List.getElem_toArray, List.getElem_cons_succ, List.getElem_cons_zero, List.setIfInBounds_toArray, List.set_cons_zero, List.set_cons_succ]
  refine wpAnyH_take (i := 14) (v := ?_) rfl (by kernel_rfl) (by kernel_rfl) (by kernel_rfl) (fun _ _ _ h => h) (Or.inl ⟨by rfl, ?_⟩) hHeld ?_
  rotate_left
  · (intro w' hSw; have q0 := (hSw.2.2.cell 23).trans X23; go_simp; try with_reducible rfl)
  simp only [Act.put, List.getElem_toArray, List.getElem_cons_succ, List.getElem_cons_zero, List.setIfInBounds_toArray, List.set_cons_zero, List.set_cons_succ]
  refine wpAnyH_ready (rs := [7]) (by kernel_rfl) (by simp) ?_
  refine AllReadyH.cons rfl (fun K hK => ?_) AllReadyH.nil
  go_simp
  refine (HC.out _ hcD).mono ?_
  rintro e w2 ⟨rfl, hT2⟩
  obtain ⟨S2, hG2, hs2, hcs⟩ := hT2
  refine hK _ _ ⟨hHeld.1.chg hcs hgS.1, hHeld.2.1.chg hcs nS0.2, hHeld.2.2.chg hcs nS0.1⟩ (fun hHeld => ?_)
  clear hK K
  simp only [Act.put, List.getElem_toArray, List.getElem_cons_succ, List.getElem_cons_zero, List.setIfInBounds_toArray, List.set_cons_zero, List.set_cons_succ]
  refine wpAnyH_ready (rs := [15]) (by kernel_rfl) (by simp) ?_
  refine AllReadyH.cons rfl (fun K hK => ?_) AllReadyH.nil
  go_simp
  refine (HD.out _ ((Chg.any hcD).trans hcs (fun k hk => .inl hk))).mono ?_
  rintro e w3 ⟨rfl, hT3⟩
  have hT3' := hT3
  obtain ⟨T3, hD3, ht3, hct⟩ := hT3
  refine hK _ _ ⟨hHeld.1.chg hct hgS.2.2.1, hHeld.2.1.chg hct nT0.2, hHeld.2.2.chg hct nT0.1⟩ (fun hHeld => ?_)
  clear hK K
  simp only [Act.put, List.getElem_toArray, List.getElem_cons_succ, List.getElem_cons_zero, List.setIfInBounds_toArray, List.set_cons_zero, List.set_cons_succ]
  refine wpAnyH_take (i := 16) (v := ?_) rfl (by kernel_rfl) (by kernel_rfl) (by kernel_rfl) (fun _ _ _ h => h) (Or.inl ⟨by rfl, ?_⟩) hHeld ?_
  rotate_left
  · (intro w' hSw; go_simp; try with_reducible rfl)
  simp only [Act.put, List.getElem_toArray, List.getElem_cons_succ, List.getElem_cons_zero, List.setIfInBounds_toArray, List.set_cons_zero, List.set_cons_succ]
  refine wpAnyH_take (i := 17) (v := ?_) rfl (by kernel_rfl) (by kernel_rfl) (by kernel_rfl) (fun _ _ _ h => h) (Or.inl ⟨by rfl, ?_⟩) hHeld ?_
  rotate_left
  · (intro w' hSw; go_simp; try with_reducible rfl)
  simp only [Act.put, List.getElem_toArray, List.getElem_cons_succ, List.getElem_cons_zero, List.setIfInBounds_toArray, List.set_cons_zero, List.set_cons_succ]
  refine wpAnyH_done (by kernel_rfl) ?_ _
  have HG := Lib.hid (GmTurns.both H.out hcD ⟨S2, hG2, hs2, hcs⟩ hT3')
  clear hHeld
  go_wp2
  go_ret
  exact ⟨by simp, _, rs, (HI.out.turnT i q to).mono (by omega), by omega, HRI.out, HG.out⟩
end Go.Proofs
end
section
namespace Go.Proofs
open Go.RowKit
set_option linter.unusedVariables false
set_option linter.unusedSimpArgs false

set_option maxRecDepth 100000 in
set_option maxHeartbeats 12800000 in
theorem do_5 {w : World} {gb c p N M : Nat} {S T : List Nat} {VR : Value} {t : Tab Gr} {rs : List (Int × Int)} (h : GameIn w gb c p S T VR t rs) (hI : Inv t N M) (hM : M < 500) (hrs : rs.length ≤ 500) (hri : ∀ x ∈ rs, inI x.1) (x : Ac) (hx : x.Fits) (hk : x.k = 5) :
    Calls Try.prog 11 #[ptr gb, x.val] w (DoPost gb (gK gb c S T VR) t rs N M w) := by
  obtain ⟨AR, cR, hVR, _⟩ := h.r.val
  have H := Lib.hid h
  have HI := Lib.hid hI
  have X0 := x.a0
  have X1 := x.a1
  have X2 := x.a2
  have X3 := x.a3
  have X23 := x.a23
  have XG := x.ag
  have hXs := x.size
  have hGs := x.g.size
  have hri0 := hx.ri
  have hat := hx.a
  have hto := hx.to
  have hun := hx.un
  have HRI := Lib.hid hri
  have lgb := h.b.lt
  have hVRlt := h.r.lt
  have HR0 := Lib.hid h.r
  have hb := h.b
  rw [hVR] at hb
  have HVR := Lib.hid hVR
  clear hVR
  have HB := Lib.hid hb
  obtain ⟨n, hn⟩ : ∃ n, n = rs.length := ⟨_, rfl⟩
  rw [← hn] at HB hrs
  have Hn := Lib.hid hn
  unfold Ac.val
  obtain ⟨xg, hxg⟩ : ∃ xg, xg = x.g := ⟨_, rfl⟩
  rw [← hxg] at XG hGs hun
  generalize x.arr = X at *
  rw [hk] at X0
  generalize x.k = xk at *
  generalize x.ri = ri at *
  generalize x.rq = rq at *
  generalize x.at_ = at_ at *
  generalize x.to = to at *
  clear h hI hri hx hb hn hxg
  clear hk
  obtain ⟨a0, a1⟩ := hat
  have hb3 := Blk.new w 39 X
  have y1 := (hb3.cell 1).trans X1
  have y2 := (hb3.cell 2).trans X2
  have e3 := (hb3.alloc (.cells #[.int .i64 ri, .int .u64 rq] 33)).cell 3
  rw [X3] at e3
  have hcA : Chg [] w ((w.alloc (.cells X 39)).alloc (.cells #[.int .i64 ri, .int .u64 rq] 33)) := ((Chg.refl [] w).alloc _).alloc _
  have hb3A := hb3.alloc (.cells #[.int .i64 ri, .int .u64 rq] 33)
  have hb5A : Blk ((w.alloc (.cells X 39)).alloc (.cells #[.int .i64 ri, .int .u64 rq] 33)) (w.heap.size + 1) 33 #[.int .i64 ri, .int .u64 rq] := Blk.at' (w.alloc (.cells X 39)) 33 _ (by simp)
  have g2 := (HB.out.chg hcA (by simp)).cell 2
  by_cases ha : at_ < 1
  · clear hVRlt
    go_enter Try.func11, Try.ntmps11
    go_upto_region 4 with (fail)
    generalize World.alloc (World.alloc w _) _ = wc at *
    obtain ⟨i, q, hb5, hii⟩ : ∃ i q, Blk wc (w.heap.size + 1) 33 #[.int .i64 i, .int .u64 q] ∧ inI i := ⟨ri, rq, hb5A, hri0⟩
    clear y1 y2 e3 g2 hb3 ha a0 a1 hb5A
    have z0 := (hb3A.cell 0).trans X0
    have hgS := H.out.gS
    have hlS := H.out.lt
    have nS0 : w.heap.size ∉ S ∧ w.heap.size + 1 ∉ S := ⟨fun hk => by have := H.out.g.lt.2 _ hk; omega, fun hk => by have := H.out.g.lt.2 _ hk; omega⟩
    have nT0 : w.heap.size ∉ T ∧ w.heap.size + 1 ∉ T := ⟨fun hk => by have := H.out.d.lt _ hk; omega, fun hk => by have := H.out.d.lt _ hk; omega⟩
    have hapT : ∀ k ∈ T, k ∉ S := fun k hk hkS => H.out.ap k hkS hk
    have HC := Lib.hid (fun W (hc : Chg [] w W) => Drop_any (H.out.g.quiet hc) (HI.out.low (by omega)) i q hii)
    have HD := Lib.hid (fun W (hc : Chg S w W) => (by have := rDrop_any (H.out.d.chg hc hapT) (by rw [docL_len HI.out]; exact HI.out.n64) (Nat.le_trans (docF_len HI.out) HI.out.n64) i q hii (fun hq => HI.out.gen_in (by omega) (by rw [doc_is] at hq; exact hq)); rw [doc_drE, doc_drT (HI.out.low (by omega))] at this; exact this : Calls Try.prog 35 #[ptr p, .agg #[.int .i64 i, .int .u64 q]] W fun e w' => e = .returned (.int .i64 (t.getE i q)) ∧ DTurns p T (docT (t.drT i q)) W w'))
    clear hlS
    go_upto_region 22 with (fail)
    have hcD := hcA.drew
    refine wp_region_held_drew (S := fun w' => Blk w' gb 45 #[ptr c, ptr p, .slice AR n cR] ∧ Blk w' (w.heap.size + 1) 33 #[.int .i64 i, .int .u64 q] ∧ Blk w' w.heap.size 39 X) (by kernel_rfl) ⟨(HB.out.chg hcA (by simp)).drew, hb5.drew, hb3A.drew⟩ (fun hHeld => ?_)
    simp only [List.setIfInBounds_toArray, List.size_toArray, List.length_cons, List.length_nil, Array.replicate]
    refine wpAnyH_take (i := 0) (v := ?_) rfl (by kernel_rfl) (by kernel_rfl) (by kernel_rfl) (fun _ _ _ h => h) (Or.inl ⟨by rfl, ?_⟩) hHeld ?_
    rotate_left
    · (intro w' hSw; go_simp; try with_reducible rfl)
    simp only [Act.put, List.getElem_toArray, List.getElem_cons_succ, List.getElem_cons_zero, List.setIfInBounds_toArray, List.set_cons_zero, List.set_cons_succ]
    refine wpAnyH_take (i := 1) (v := ?_) rfl (by kernel_rfl) (by kernel_rfl) (by kernel_rfl) (fun _ _ _ h => h) (Or.inl ⟨by rfl, ?_⟩) hHeld ?_
    rotate_left
    · (intro w' hSw; go_simp; try with_reducible rfl)
    simp only [Act.put, List.getElem_toArray, List.getElem_cons_succ, List.getElem_cons_zero, List.setIfInBounds_toArray, List.set_cons_zero, List.set_cons_succ]
    refine wpAnyH_take (i := 2) (v := ?_) rfl (by kernel_rfl) (by kernel_rfl) (by kernel_rfl) (fun _ _ _ h => h) (Or.inl ⟨by rfl, ?_⟩) hHeld ?_
    rotate_left
    · (intro w' hSw; go_simp; try with_reducible rfl)
    simp only [Act.put, List.getElem_toArray, List.getElem_cons_succ, List.getElem_cons_zero, List.setIfInBounds_toArray, List.set_cons_zero, List.set_cons_succ]
    refine wpAnyH_take (i := 3) (v := ?_) rfl (by kernel_rfl) (by kernel_rfl) (by kernel_rfl) (fun _ _ _ h => h) (Or.inl ⟨by rfl, ?_⟩) hHeld ?_
    rotate_left
    · (intro w' hSw; have q0 := hSw.1.cell 0; simp only [List.getElem?_toArray, List.getElem?_cons_zero, List.getElem?_cons_succ] at *; go_simp; try with_reducible rfl)
    simp only [Act.put, List.getElem_toArray, List.getElem_cons_succ, List.getElem_cons_zero, List.setIfInBounds_toArray, List.set_cons_zero, List.set_cons_succ]
    refine wpAnyH_take (i := 4) (v := ?_) rfl (by kernel_rfl) (by kernel_rfl) (by kernel_rfl) (fun _ _ _ h => h) (Or.inl ⟨by rfl, ?_⟩) hHeld ?_
    rotate_left
    · (intro w' hSw; have q0 := hSw.2.1.cell 0; have q1 := hSw.2.1.cell 1; simp only [List.getElem?_toArray, List.getElem?_cons_zero, List.getElem?_cons_succ] at *; go_simp; try with_reducible rfl)
    simp only [Act.put, List.getElem_toArray, List.getElem_cons_succ, List.getElem_cons_zero, List.setIfInBounds_toArray, List.set_cons_zero, List.set_cons_succ]
    refine wpAnyH_take (i := 6) (v := ?_) rfl (by kernel_rfl) (by kernel_rfl) (by kernel_rfl) (fun _ _ _ h => h) (Or.inl ⟨by rfl, ?_⟩) hHeld ?_
    rotate_left
    · (intro w' hSw; go_simp; try with_reducible rfl)
    simp only [Act.put, List.getElem_toArray, List.getElem_cons_succ, List.getElem_cons_zero, List.setIfInBounds_toArray, List.set_cons_zero, List.set_cons_succ]
    refine wpAnyH_take (i := 7) (v := ?_) rfl (by kernel_rfl) (by kernel_rfl) (by kernel_rfl) (fun _ _ _ h => h) (Or.inl ⟨by rfl, ?_⟩) hHeld ?_
    rotate_left
    · (intro w' hSw; go_simp; try with_reducible rfl)
    simp only [Act.put, List.getElem_toArray, List.getElem_cons_succ, List.getElem_cons_zero, List.setIfInBounds_toArray, List.set_cons_zero, List.set_cons_succ]
    refine wpAnyH_take (i := 8) (v := ?_) rfl (by kernel_rfl) (by kernel_rfl) (by kernel_rfl) (fun _ _ _ h => h) (Or.inl ⟨by rfl, ?_⟩) hHeld ?_
    rotate_left
    · (intro w' hSw; go_simp; try with_reducible rfl)
    simp only [Act.put, List.getElem_toArray, List.getElem_cons_succ, List.getElem_cons_zero, List.setIfInBounds_toArray, List.set_cons_zero, List.set_cons_succ]
    refine wpAnyH_take (i := 9) (v := ?_) rfl (by kernel_rfl) (by kernel_rfl) (by kernel_rfl) (fun _ _ _ h => h) (Or.inl ⟨by rfl, ?_⟩) hHeld ?_
    rotate_left
    · (intro w' hSw; have q0 := hSw.1.cell 1; simp only [List.getElem?_toArray, List.getElem?_cons_zero, List.getElem?_cons_succ] at *; go_simp; try with_reducible rfl)
    simp only [Act.put, List.getElem_toArray, List.getElem_cons_succ, List.getElem_cons_zero, List.setIfInBounds_toArray, List.set_cons_zero, List.set_cons_succ]
    refine wpAnyH_take (i := 10) (v := ?_) rfl (by kernel_rfl) (by kernel_rfl) (by kernel_rfl) (fun _ _ _ h => h) (Or.inl ⟨by rfl, ?_⟩) hHeld ?_
    rotate_left
    · (intro w' hSw; have q0 := hSw.2.1.cell 0; have q1 := hSw.2.1.cell 1; simp only [List.getElem?_toArray, List.getElem?_cons_zero, List.getElem?_cons_succ] at *; go_simp; try with_reducible rfl)
    simp only [Act.put, List.getElem_toArray, List.getElem_cons_succ, List.getElem_cons_zero, List.setIfInBounds_toArray, List.set_cons_zero, List.set_cons_succ]
    refine wpAnyH_ready (rs := [5]) (by kernel_rfl) (by simp) ?_
    refine AllReadyH.cons rfl (fun K hK => ?_) AllReadyH.nil
    go_simp
    refine (HC.out _ hcD).mono ?_
    rintro e w2 ⟨rfl, hT2⟩
    obtain ⟨S2, hG2, hs2, hcs⟩ := hT2
    refine hK _ _ ⟨hHeld.1.chg hcs hgS.1, hHeld.2.1.chg hcs nS0.2, hHeld.2.2.chg hcs nS0.1⟩ (fun hHeld => ?_)
    clear hK K
    simp only [Act.put, List.getElem_toArray, List.getElem_cons_succ, List.getElem_cons_zero, List.setIfInBounds_toArray, List.set_cons_zero, List.set_cons_succ]
    refine wpAnyH_ready (rs := [11]) (by kernel_rfl) (by simp) ?_
    refine AllReadyH.cons rfl (fun K hK => ?_) AllReadyH.nil
    go_simp
    refine (HD.out _ ((Chg.any hcD).trans hcs (fun k hk => .inl hk))).mono ?_
    rintro e w3 ⟨rfl, hT3⟩
    have hT3' := hT3
    obtain ⟨T3, hD3, ht3, hct⟩ := hT3
    refine hK _ _ ⟨hHeld.1.chg hct hgS.2.2.1, hHeld.2.1.chg hct nT0.2, hHeld.2.2.chg hct nT0.1⟩ (fun hHeld => ?_)
    clear hK K
    simp only [Act.put, List.getElem_toArray, List.getElem_cons_succ, List.getElem_cons_zero, List.setIfInBounds_toArray, List.set_cons_zero, List.set_cons_succ]
    refine wpAnyH_take (i := 12) (v := ?_) rfl (by kernel_rfl) (by kernel_rfl) (by kernel_rfl) (fun _ _ _ h => h) (Or.inl ⟨by rfl, ?_⟩) hHeld ?_
    rotate_left
    · (intro w' hSw; go_simp; try with_reducible rfl)
    simp only [Act.put, List.getElem_toArray, List.getElem_cons_succ, List.getElem_cons_zero, List.setIfInBounds_toArray, List.set_cons_zero, List.set_cons_succ]
    refine wpAnyH_take (i := 13) (v := ?_) rfl (by kernel_rfl) (by kernel_rfl) (by kernel_rfl) (fun _ _ _ h => h) (Or.inl ⟨by rfl, ?_⟩) hHeld ?_
    rotate_left
    · (intro w' hSw; go_simp; try with_reducible rfl)
    simp only [Act.put, List.getElem_toArray, List.getElem_cons_succ, List.getElem_cons_zero, List.setIfInBounds_toArray, List.set_cons_zero, List.set_cons_succ]
    refine wpAnyH_done (by kernel_rfl) ?_ _
    have HG := Lib.hid (GmTurns.both H.out hcD ⟨S2, hG2, hs2, hcs⟩ hT3')
    clear hHeld
    go_wp2
    go_ret
    exact ⟨by simp, _, rs, HI.out.drT i q, by omega, HRI.out, HG.out⟩
  by_cases hn0 : n = 0
  · have hn0' : ¬ (0 < n) := by omega
    clear hVRlt
    go_enter Try.func11, Try.ntmps11
    go_upto_region 4 with (fail)
    generalize World.alloc (World.alloc w _) _ = wc at *
    obtain ⟨i, q, hb5, hii⟩ : ∃ i q, Blk wc (w.heap.size + 1) 33 #[.int .i64 i, .int .u64 q] ∧ inI i := ⟨ri, rq, hb5A, hri0⟩
    clear y1 y2 e3 g2 hb3 ha a0 a1 hn0 hn0' hb5A
    have z0 := (hb3A.cell 0).trans X0
    have hgS := H.out.gS
    have hlS := H.out.lt
    have nS0 : w.heap.size ∉ S ∧ w.heap.size + 1 ∉ S := ⟨fun hk => by have := H.out.g.lt.2 _ hk; omega, fun hk => by have := H.out.g.lt.2 _ hk; omega⟩
    have nT0 : w.heap.size ∉ T ∧ w.heap.size + 1 ∉ T := ⟨fun hk => by have := H.out.d.lt _ hk; omega, fun hk => by have := H.out.d.lt _ hk; omega⟩
    have hapT : ∀ k ∈ T, k ∉ S := fun k hk hkS => H.out.ap k hkS hk
    have HC := Lib.hid (fun W (hc : Chg [] w W) => Drop_any (H.out.g.quiet hc) (HI.out.low (by omega)) i q hii)
    have HD := Lib.hid (fun W (hc : Chg S w W) => (by have := rDrop_any (H.out.d.chg hc hapT) (by rw [docL_len HI.out]; exact HI.out.n64) (Nat.le_trans (docF_len HI.out) HI.out.n64) i q hii (fun hq => HI.out.gen_in (by omega) (by rw [doc_is] at hq; exact hq)); rw [doc_drE, doc_drT (HI.out.low (by omega))] at this; exact this : Calls Try.prog 35 #[ptr p, .agg #[.int .i64 i, .int .u64 q]] W fun e w' => e = .returned (.int .i64 (t.getE i q)) ∧ DTurns p T (docT (t.drT i q)) W w'))
    clear hlS
    go_upto_region 22 with (fail)
    have hcD := hcA.drew
    refine wp_region_held_drew (S := fun w' => Blk w' gb 45 #[ptr c, ptr p, .slice AR n cR] ∧ Blk w' (w.heap.size + 1) 33 #[.int .i64 i, .int .u64 q] ∧ Blk w' w.heap.size 39 X) (by kernel_rfl) ⟨(HB.out.chg hcA (by simp)).drew, hb5.drew, hb3A.drew⟩ (fun hHeld => ?_)
    simp only [List.setIfInBounds_toArray, List.size_toArray, List.length_cons, List.length_nil, Array.replicate]
    refine wpAnyH_take (i := 0) (v := ?_) rfl (by kernel_rfl) (by kernel_rfl) (by kernel_rfl) (fun _ _ _ h => h) (Or.inl ⟨by rfl, ?_⟩) hHeld ?_
    rotate_left
    · (intro w' hSw; go_simp; try with_reducible rfl)
    simp only [Act.put, List.getElem_toArray, List.getElem_cons_succ, List.getElem_cons_zero, List.setIfInBounds_toArray, List.set_cons_zero, List.set_cons_succ]
    refine wpAnyH_take (i := 1) (v := ?_) rfl (by kernel_rfl) (by kernel_rfl) (by kernel_rfl) (fun _ _ _ h => h) (Or.inl ⟨by rfl, ?_⟩) hHeld ?_
    rotate_left
    · (intro w' hSw; go_simp; try with_reducible rfl)
    simp only [Act.put, List.getElem_toArray, List.getElem_cons_succ, List.getElem_cons_zero, List.setIfInBounds_toArray, List.set_cons_zero, List.set_cons_succ]
    refine wpAnyH_take (i := 2) (v := ?_) rfl (by kernel_rfl) (by kernel_rfl) (by kernel_rfl) (fun _ _ _ h => h) (Or.inl ⟨by rfl, ?_⟩) hHeld ?_
    rotate_left
    · (intro w' hSw; go_simp; try with_reducible rfl)
    simp only [Act.put, List.getElem_toArray, List.getElem_cons_succ, List.getElem_cons_zero, List.setIfInBounds_toArray, List.set_cons_zero, List.set_cons_succ]
    refine wpAnyH_take (i := 3) (v := ?_) rfl (by kernel_rfl) (by kernel_rfl) (by kernel_rfl) (fun _ _ _ h => h) (Or.inl ⟨by rfl, ?_⟩) hHeld ?_
    rotate_left
    · (intro w' hSw; have q0 := hSw.1.cell 0; simp only [List.getElem?_toArray, List.getElem?_cons_zero, List.getElem?_cons_succ] at *; go_simp; try with_reducible rfl)
    simp only [Act.put, List.getElem_toArray, List.getElem_cons_succ, List.getElem_cons_zero, List.setIfInBounds_toArray, List.set_cons_zero, List.set_cons_succ]
    refine wpAnyH_take (i := 4) (v := ?_) rfl (by kernel_rfl) (by kernel_rfl) (by kernel_rfl) (fun _ _ _ h => h) (Or.inl ⟨by rfl, ?_⟩) hHeld ?_
    rotate_left
    · (intro w' hSw; have q0 := hSw.2.1.cell 0; have q1 := hSw.2.1.cell 1; simp only [List.getElem?_toArray, List.getElem?_cons_zero, List.getElem?_cons_succ] at *; go_simp; try with_reducible rfl)
    simp only [Act.put, List.getElem_toArray, List.getElem_cons_succ, List.getElem_cons_zero, List.setIfInBounds_toArray, List.set_cons_zero, List.set_cons_succ]
    refine wpAnyH_take (i := 6) (v := ?_) rfl (by kernel_rfl) (by kernel_rfl) (by kernel_rfl) (fun _ _ _ h => h) (Or.inl ⟨by rfl, ?_⟩) hHeld ?_
    rotate_left
    · (intro w' hSw; go_simp; try with_reducible rfl)
    simp only [Act.put, List.getElem_toArray, List.getElem_cons_succ, List.getElem_cons_zero, List.setIfInBounds_toArray, List.set_cons_zero, List.set_cons_succ]
    refine wpAnyH_take (i := 7) (v := ?_) rfl (by kernel_rfl) (by kernel_rfl) (by kernel_rfl) (fun _ _ _ h => h) (Or.inl ⟨by rfl, ?_⟩) hHeld ?_
    rotate_left
    · (intro w' hSw; go_simp; try with_reducible rfl)
    simp only [Act.put, List.getElem_toArray, List.getElem_cons_succ, List.getElem_cons_zero, List.setIfInBounds_toArray, List.set_cons_zero, List.set_cons_succ]
    refine wpAnyH_take (i := 8) (v := ?_) rfl (by kernel_rfl) (by kernel_rfl) (by kernel_rfl) (fun _ _ _ h => h) (Or.inl ⟨by rfl, ?_⟩) hHeld ?_
    rotate_left
    · (intro w' hSw; go_simp; try with_reducible rfl)
    simp only [Act.put, List.getElem_toArray, List.getElem_cons_succ, List.getElem_cons_zero, List.setIfInBounds_toArray, List.set_cons_zero, List.set_cons_succ]
    refine wpAnyH_take (i := 9) (v := ?_) rfl (by kernel_rfl) (by kernel_rfl) (by kernel_rfl) (fun _ _ _ h => h) (Or.inl ⟨by rfl, ?_⟩) hHeld ?_
    rotate_left
    · (intro w' hSw; have q0 := hSw.1.cell 1; simp only [List.getElem?_toArray, List.getElem?_cons_zero, List.getElem?_cons_succ] at *; go_simp; try with_reducible rfl)
    simp only [Act.put, List.getElem_toArray, List.getElem_cons_succ, List.getElem_cons_zero, List.setIfInBounds_toArray, List.set_cons_zero, List.set_cons_succ]
    refine wpAnyH_take (i := 10) (v := ?_) rfl (by kernel_rfl) (by kernel_rfl) (by kernel_rfl) (fun _ _ _ h => h) (Or.inl ⟨by rfl, ?_⟩) hHeld ?_
    rotate_left
    · (intro w' hSw; have q0 := hSw.2.1.cell 0; have q1 := hSw.2.1.cell 1; simp only [List.getElem?_toArray, List.getElem?_cons_zero, List.getElem?_cons_succ] at *; go_simp; try with_reducible rfl)
    simp only [Act.put, List.getElem_toArray, List.getElem_cons_succ, List.getElem_cons_zero, List.setIfInBounds_toArray, List.set_cons_zero, List.set_cons_succ]
    refine wpAnyH_ready (rs := [5]) (by kernel_rfl) (by simp) ?_
    refine AllReadyH.cons rfl (fun K hK => ?_) AllReadyH.nil
    go_simp
    refine (HC.out _ hcD).mono ?_
    rintro e w2 ⟨rfl, hT2⟩
    obtain ⟨S2, hG2, hs2, hcs⟩ := hT2
    refine hK _ _ ⟨hHeld.1.chg hcs hgS.1, hHeld.2.1.chg hcs nS0.2, hHeld.2.2.chg hcs nS0.1⟩ (fun hHeld => ?_)
    clear hK K
    simp only [Act.put, List.getElem_toArray, List.getElem_cons_succ, List.getElem_cons_zero, List.setIfInBounds_toArray, List.set_cons_zero, List.set_cons_succ]
    refine wpAnyH_ready (rs := [11]) (by kernel_rfl) (by simp) ?_
    refine AllReadyH.cons rfl (fun K hK => ?_) AllReadyH.nil
    go_simp
    refine (HD.out _ ((Chg.any hcD).trans hcs (fun k hk => .inl hk))).mono ?_
    rintro e w3 ⟨rfl, hT3⟩
    have hT3' := hT3
    obtain ⟨T3, hD3, ht3, hct⟩ := hT3
    refine hK _ _ ⟨hHeld.1.chg hct hgS.2.2.1, hHeld.2.1.chg hct nT0.2, hHeld.2.2.chg hct nT0.1⟩ (fun hHeld => ?_)
    clear hK K
    simp only [Act.put, List.getElem_toArray, List.getElem_cons_succ, List.getElem_cons_zero, List.setIfInBounds_toArray, List.set_cons_zero, List.set_cons_succ]
    refine wpAnyH_take (i := 12) (v := ?_) rfl (by kernel_rfl) (by kernel_rfl) (by kernel_rfl) (fun _ _ _ h => h) (Or.inl ⟨by rfl, ?_⟩) hHeld ?_
    rotate_left
    · (intro w' hSw; go_simp; try with_reducible rfl)
    simp only [Act.put, List.getElem_toArray, List.getElem_cons_succ, List.getElem_cons_zero, List.setIfInBounds_toArray, List.set_cons_zero, List.set_cons_succ]
    refine wpAnyH_take (i := 13) (v := ?_) rfl (by kernel_rfl) (by kernel_rfl) (by kernel_rfl) (fun _ _ _ h => h) (Or.inl ⟨by rfl, ?_⟩) hHeld ?_
    rotate_left
    · (intro w' hSw; go_simp; try with_reducible rfl)
    simp only [Act.put, List.getElem_toArray, List.getElem_cons_succ, List.getElem_cons_zero, List.setIfInBounds_toArray, List.set_cons_zero, List.set_cons_succ]
    refine wpAnyH_done (by kernel_rfl) ?_ _
    have HG := Lib.hid (GmTurns.both H.out hcD ⟨S2, hG2, hs2, hcs⟩ hT3')
    clear hHeld
    go_wp2
    go_ret
    exact ⟨by simp, _, rs, HI.out.drT i q, by omega, HRI.out, HG.out⟩
  obtain ⟨d, hd⟩ : ∃ d, d = (at_ - 1).tmod (n : Int) := ⟨_, rfl⟩
  have hdd := tmod_in (a := at_ - 1) (n := n) (by omega) (by omega)
  rw [← hd] at hdd
  obtain ⟨d0, d1⟩ := hdd
  obtain ⟨j, hj⟩ : ∃ j : Nat, (j : Int) = (n : Int) - 1 - d := ⟨((n : Int) - 1 - d).toNat, by omega⟩
  have hjn : j < rs.length := by rw [← Hn.out]; omega
  obtain ⟨y, hy⟩ : ∃ y, rs[j]? = some y := ⟨_, List.getElem?_eq_getElem hjn⟩
  have hyi : inI y.1 := HRI.out y (List.mem_of_getElem? hy)
  have HR0' := HR0.out
  rw [HVR.out] at HR0'
  obtain ⟨gr, cr, hv, _, _, hrc, _, hgr⟩ := HR0'.form (by omega)
  simp only [Value.slice.injEq] at hv
  obtain ⟨h90, h91, h92⟩ := hv
  obtain ⟨q0, q1⟩ := prCells_at hy
  have hcD := hcA.drew
  have r0 := (hcD.cell (p := ⟨gr, j * 2, none⟩) hgr (by simp)).trans (hrc _ _ q0)
  have r1 := (hcD.cell (p := ⟨gr, j * 2 + 1, none⟩) hgr (by simp)).trans (hrc _ _ q1)
  have g2D := (HB.out.chg hcD (by simp)).cell 2
  rw [h90] at g2D
  have hb5D := hb5A.drew
  have f0 := hb5D.frozen 0
  have f1 := hb5D.frozen 1
  have s0 := hb5D.cell 0
  have s1 := hb5D.cell 1
  have e3D := hb3A.drew.cell 3
  rw [X3] at e3D
  have w1 : IntKind.i64.wrap (at_ - 1) = at_ - 1 := IntWalk.i64_in _ (by omega)
  have w2 : IntKind.i64.wrap ((n : Int) - 1) = (n : Int) - 1 := IntWalk.i64_in _ (by omega)
  have w4 : IntKind.i64.wrap ((n : Int) - 1 - d) = (j : Nat) := by rw [← hj]; exact IntWalk.i64_in _ (by omega)
  have w5 : wrap64 ((n : Int) - 1 - d) = (j : Nat) := by rw [← hj]; exact IntWalk.wrap64_in _ (by omega)
  have w6 : wrap64 (at_ - 1) = at_ - 1 := IntWalk.wrap64_in _ (by omega)
  have w7 : IntKind.i64.wrap (j : Int) = (j : Nat) := IntWalk.i64_in _ (by omega)
  have j0 : (0 : Int) ≤ (j : Int) := by omega
  have j1 : (j : Int) < (n : Int) := by omega
  have hn1 : 0 < n := by omega
  have hn2 : ¬ ((n : Int) = 0) := by omega
  have hn3 : ((n : Int) == 0) = false := by simp; omega
  have hmod : (at_ - 1).tmod (n : Int) = d := hd.symm
  have hjs : (n : Int) - 1 - d = (j : Nat) := hj.symm
  clear hVRlt HR0' h90 h91 h92 hrc hy hjn hj q0 q1 hd
  go_enter Try.func11, Try.ntmps11
  go_upto_region 3 with (fail)
  have hb3D := hb3A.drew
  refine wp_region_still_tail 22 (by kernel_rfl) (by kernel_rfl) ?_
  simp only [List.take_succ_cons, List.take_zero, List.drop_succ_cons, List.drop_zero]
  (try change wpStill _ _ (World.drew _) _ _ _)
  generalize hwd : World.drew _ = wd at *
  have HWD := Lib.hid hwd
  clear hwd
  simp only [List.getElem?_toArray, List.getElem?_cons_zero, List.getElem?_cons_succ] at s0 s1 g2D
  (repeat still_step)
  refine wpStill_nil ?_
  (try change wpList _ _ _ _ _ (World.drew _))
  rw [HWD.out]
  clear HWD
  go_upto_region 4 with (fail)
  have hcC := (hcD.setCell (p := ⟨w.heap.size + 1, 0, none⟩) (.inr (by simp)) (.int .i64 y.1)).setCell (p := ⟨w.heap.size + 1, 1, none⟩) (.inr (by simp)) (.int .u64 y.2)
  have hb5C := (hb5D.set_ 0 (.int .i64 y.1)).set_ 1 (.int .u64 y.2)
  have hb3C := (hb3D.far (p := ⟨w.heap.size + 1, 0, none⟩) (by simp) (.int .i64 y.1)).far (p := ⟨w.heap.size + 1, 1, none⟩) (by simp) (.int .u64 y.2)
  clear hcA hb3A hb3D hb5A hcD r0 r1 g2D hb5D f0 f1 s0 s1 e3D w1 w2 w4 w5 w6 w7 j0 j1 hn1 hn2 hn3 hmod hjs y1 y2 e3 g2 hb3 ha a0 a1 hn0
  generalize World.setCell _ _ _ = wc at *
  have hcA := hcC
  have hb3A := hb3C
  clear hcC hb3C
  obtain ⟨i, q, hb5, hii⟩ : ∃ i q, Blk wc (w.heap.size + 1) 33 #[.int .i64 i, .int .u64 q] ∧ inI i := ⟨y.1, y.2, hb5C, hyi⟩
  clear hb5C hyi hgr HVR
  have z0 := (hb3A.cell 0).trans X0
  have hgS := H.out.gS
  have hlS := H.out.lt
  have nS0 : w.heap.size ∉ S ∧ w.heap.size + 1 ∉ S := ⟨fun hk => by have := H.out.g.lt.2 _ hk; omega, fun hk => by have := H.out.g.lt.2 _ hk; omega⟩
  have nT0 : w.heap.size ∉ T ∧ w.heap.size + 1 ∉ T := ⟨fun hk => by have := H.out.d.lt _ hk; omega, fun hk => by have := H.out.d.lt _ hk; omega⟩
  have hapT : ∀ k ∈ T, k ∉ S := fun k hk hkS => H.out.ap k hkS hk
  have HC := Lib.hid (fun W (hc : Chg [] w W) => Drop_any (H.out.g.quiet hc) (HI.out.low (by omega)) i q hii)
  have HD := Lib.hid (fun W (hc : Chg S w W) => (by have := rDrop_any (H.out.d.chg hc hapT) (by rw [docL_len HI.out]; exact HI.out.n64) (Nat.le_trans (docF_len HI.out) HI.out.n64) i q hii (fun hq => HI.out.gen_in (by omega) (by rw [doc_is] at hq; exact hq)); rw [doc_drE, doc_drT (HI.out.low (by omega))] at this; exact this : Calls Try.prog 35 #[ptr p, .agg #[.int .i64 i, .int .u64 q]] W fun e w' => e = .returned (.int .i64 (t.getE i q)) ∧ DTurns p T (docT (t.drT i q)) W w'))
  clear hlS
  go_upto_region 22 with (fail)
  have hcD := hcA.drew
  refine wp_region_held_drew (S := fun w' => Blk w' gb 45 #[ptr c, ptr p, .slice AR n cR] ∧ Blk w' (w.heap.size + 1) 33 #[.int .i64 i, .int .u64 q] ∧ Blk w' w.heap.size 39 X) (by kernel_rfl) ⟨(HB.out.chg hcA (by simp)).drew, hb5.drew, hb3A.drew⟩ (fun hHeld => ?_)
  simp only [List.setIfInBounds_toArray, List.size_toArray, List.length_cons, List.length_nil, Array.replicate]
  refine wpAnyH_take (i := 0) (v := ?_) rfl (by kernel_rfl) (by kernel_rfl) (by kernel_rfl) (fun _ _ _ h => h) (Or.inl ⟨by rfl, ?_⟩) hHeld ?_
  rotate_left
  · (intro w' hSw; go_simp; try with_reducible rfl)
  simp only [Act.put, List.getElem_toArray, List.getElem_cons_succ, List.getElem_cons_zero, List.setIfInBounds_toArray, List.set_cons_zero, List.set_cons_succ]
  refine wpAnyH_take (i := 1) (v := ?_) rfl (by kernel_rfl) (by kernel_rfl) (by kernel_rfl) (fun _ _ _ h => h) (Or.inl ⟨by rfl, ?_⟩) hHeld ?_
  rotate_left
  · (intro w' hSw; go_simp; try with_reducible rfl)
  simp only [Act.put, List.getElem_toArray, List.getElem_cons_succ, List.getElem_cons_zero, List.setIfInBounds_toArray, List.set_cons_zero, List.set_cons_succ]
  refine wpAnyH_take (i := 2) (v := ?_) rfl (by kernel_rfl) (by kernel_rfl) (by kernel_rfl) (fun _ _ _ h => h) (Or.inl ⟨by rfl, ?_⟩) hHeld ?_
  rotate_left
  · (intro w' hSw; go_simp; try with_reducible rfl)
  simp only [Act.put, List.getElem_toArray, List.getElem_cons_succ, List.getElem_cons_zero, List.setIfInBounds_toArray, List.set_cons_zero, List.set_cons_succ]
  refine wpAnyH_take (i := 3) (v := ?_) rfl (by kernel_rfl) (by kernel_rfl) (by kernel_rfl) (fun _ _ _ h => h) (Or.inl ⟨by rfl, ?_⟩) hHeld ?_
  rotate_left
  · (intro w' hSw; have q0 := hSw.1.cell 0; simp only [List.getElem?_toArray, List.getElem?_cons_zero, List.getElem?_cons_succ] at *; go_simp; try with_reducible rfl)
  simp only [Act.put, List.getElem_toArray, List.getElem_cons_succ, List.getElem_cons_zero, List.setIfInBounds_toArray, List.set_cons_zero, List.set_cons_succ]
  refine wpAnyH_take (i := 4) (v := ?_) rfl (by kernel_rfl) (by kernel_rfl) (by kernel_rfl) (fun _ _ _ h => h) (Or.inl ⟨by rfl, ?_⟩) hHeld ?_
  rotate_left
  · (intro w' hSw; have q0 := hSw.2.1.cell 0; have q1 := hSw.2.1.cell 1; simp only [List.getElem?_toArray, List.getElem?_cons_zero, List.getElem?_cons_succ] at *; go_simp; try with_reducible rfl)
  simp only [Act.put, List.getElem_toArray, List.getElem_cons_succ, List.getElem_cons_zero, List.setIfInBounds_toArray, List.set_cons_zero, List.set_cons_succ]
  refine wpAnyH_take (i := 6) (v := ?_) rfl (by kernel_rfl) (by kernel_rfl) (by kernel_rfl) (fun _ _ _ h => h) (Or.inl ⟨by rfl, ?_⟩) hHeld ?_
  rotate_left
  · (intro w' hSw; go_simp; try with_reducible rfl)
  simp only [Act.put, List.getElem_toArray, List.getElem_cons_succ, List.getElem_cons_zero, List.setIfInBounds_toArray, List.set_cons_zero, List.set_cons_succ]
  refine wpAnyH_take (i := 7) (v := ?_) rfl (by kernel_rfl) (by kernel_rfl) (by kernel_rfl) (fun _ _ _ h => h) (Or.inl ⟨by rfl, ?_⟩) hHeld ?_
  rotate_left
  · (intro w' hSw; go_simp; try with_reducible rfl)
  simp only [Act.put, List.getElem_toArray, List.getElem_cons_succ, List.getElem_cons_zero, List.setIfInBounds_toArray, List.set_cons_zero, List.set_cons_succ]
  refine wpAnyH_take (i := 8) (v := ?_) rfl (by kernel_rfl) (by kernel_rfl) (by kernel_rfl) (fun _ _ _ h => h) (Or.inl ⟨by rfl, ?_⟩) hHeld ?_
  rotate_left
  · (intro w' hSw; go_simp; try with_reducible rfl)
  simp only [Act.put, List.getElem_toArray, List.getElem_cons_succ, List.getElem_cons_zero, List.setIfInBounds_toArray, List.set_cons_zero, List.set_cons_succ]
  refine wpAnyH_take (i := 9) (v := ?_) rfl (by kernel_rfl) (by kernel_rfl) (by kernel_rfl) (fun _ _ _ h => h) (Or.inl ⟨by rfl, ?_⟩) hHeld ?_
  rotate_left
  · (intro w' hSw; have q0 := hSw.1.cell 1; simp only [List.getElem?_toArray, List.getElem?_cons_zero, List.getElem?_cons_succ] at *; go_simp; try with_reducible rfl)
  simp only [Act.put, List.getElem_toArray, List.getElem_cons_succ, List.getElem_cons_zero, List.setIfInBounds_toArray, List.set_cons_zero, List.set_cons_succ]
  refine wpAnyH_take (i := 10) (v := ?_) rfl (by kernel_rfl) (by kernel_rfl) (by kernel_rfl) (fun _ _ _ h => h) (Or.inl ⟨by rfl, ?_⟩) hHeld ?_
  rotate_left
  · (intro w' hSw; have q0 := hSw.2.1.cell 0; have q1 := hSw.2.1.cell 1; simp only [List.getElem?_toArray, List.getElem?_cons_zero, List.getElem?_cons_succ] at *; go_simp; try with_reducible rfl)
  simp only [Act.put, List.getElem_toArray, List.getElem_cons_succ, List.getElem_cons_zero, List.setIfInBounds_toArray, List.set_cons_zero, List.set_cons_succ]
  refine wpAnyH_ready (rs := [5]) (by kernel_rfl) (by simp) ?_
  refine AllReadyH.cons rfl (fun K hK => ?_) AllReadyH.nil
  go_simp
  refine (HC.out _ hcD).mono ?_
  rintro e w2 ⟨rfl, hT2⟩
  obtain ⟨S2, hG2, hs2, hcs⟩ := hT2
  refine hK _ _ ⟨hHeld.1.chg hcs hgS.1, hHeld.2.1.chg hcs nS0.2, hHeld.2.2.chg hcs nS0.1⟩ (fun hHeld => ?_)
  clear hK K
  simp only [Act.put, List.getElem_toArray, List.getElem_cons_succ, List.getElem_cons_zero, List.setIfInBounds_toArray, List.set_cons_zero, List.set_cons_succ]
  refine wpAnyH_ready (rs := [11]) (by kernel_rfl) (by simp) ?_
  refine AllReadyH.cons rfl (fun K hK => ?_) AllReadyH.nil
  go_simp
  refine (HD.out _ ((Chg.any hcD).trans hcs (fun k hk => .inl hk))).mono ?_
  rintro e w3 ⟨rfl, hT3⟩
  have hT3' := hT3
  obtain ⟨T3, hD3, ht3, hct⟩ := hT3
  refine hK _ _ ⟨hHeld.1.chg hct hgS.2.2.1, hHeld.2.1.chg hct nT0.2, hHeld.2.2.chg hct nT0.1⟩ (fun hHeld => ?_)
  clear hK K
  simp only [Act.put, List.getElem_toArray, List.getElem_cons_succ, List.getElem_cons_zero, List.setIfInBounds_toArray, List.set_cons_zero, List.set_cons_succ]
  refine wpAnyH_take (i := 12) (v := ?_) rfl (by kernel_rfl) (by kernel_rfl) (by kernel_rfl) (fun _ _ _ h => h) (Or.inl ⟨by rfl, ?_⟩) hHeld ?_
  rotate_left
  · (intro w' hSw; go_simp; try with_reducible rfl)
  simp only [Act.put, List.getElem_toArray, List.getElem_cons_succ, List.getElem_cons_zero, List.setIfInBounds_toArray, List.set_cons_zero, List.set_cons_succ]
  refine wpAnyH_take (i := 13) (v := ?_) rfl (by kernel_rfl) (by kernel_rfl) (by kernel_rfl) (fun _ _ _ h => h) (Or.inl ⟨by rfl, ?_⟩) hHeld ?_
  rotate_left
  · (intro w' hSw; go_simp; try with_reducible rfl)
  simp only [Act.put, List.getElem_toArray, List.getElem_cons_succ, List.getElem_cons_zero, List.setIfInBounds_toArray, List.set_cons_zero, List.set_cons_succ]
  refine wpAnyH_done (by kernel_rfl) ?_ _
  have HG := Lib.hid (GmTurns.both H.out hcD ⟨S2, hG2, hs2, hcs⟩ hT3')
  clear hHeld
  go_wp2
  go_ret
  exact ⟨by simp, _, rs, HI.out.drT i q, by omega, HRI.out, HG.out⟩
end Go.Proofs
end
