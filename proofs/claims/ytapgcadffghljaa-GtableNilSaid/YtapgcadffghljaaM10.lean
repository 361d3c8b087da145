import Derived.Deep.CutRange
import Derived.Test.YtapgcadffghljaaM9
section
namespace Go.Proofs
open Go.RowKit
set_option linter.unusedVariables false
set_option linter.unusedSimpArgs false

set_option maxRecDepth 100000 in
set_option maxHeartbeats 12800000 in
theorem do_1 {w : World} {gb c p N M : Nat} {S T : List Nat} {VR : Value} {t : Tab Gr} {rs : List (Int × Int)} (h : GameIn w gb c p S T VR t rs) (hI : Inv t N M) (hM : M < 500) (hrs : rs.length ≤ 500) (hri : ∀ x ∈ rs, inI x.1) (x : Ac) (hx : x.Fits) (hk : x.k = 1) :
    Calls Try.prog 11 #[ptr gb, x.val] w (DoPost gb (gK gb c S T VR) t rs N M w) := by
  obtain ⟨AR, cR, hVR, _⟩ := h.r.val
  have H := Lib.hid h
  have HI := Lib.hid hI
  have X0 := x.a0
  have X1 := x.a1
  have X2 := x.a2
  have X3 := x.a3
  have X23 := x.a23
  have XG := x.ag
  have hXs := x.size
  have hGs := x.g.size
  have hri0 := hx.ri
  have hat := hx.a
  have hto := hx.to
  have hun := hx.un
  have HRI := Lib.hid hri
  have lgb := h.b.lt
  have hVRlt := h.r.lt
  have HR0 := Lib.hid h.r
  have hb := h.b
  rw [hVR] at hb
  have HVR := Lib.hid hVR
  clear hVR
  have HB := Lib.hid hb
  obtain ⟨n, hn⟩ : ∃ n, n = rs.length := ⟨_, rfl⟩
  rw [← hn] at HB hrs
  have Hn := Lib.hid hn
  unfold Ac.val
  obtain ⟨xg, hxg⟩ : ∃ xg, xg = x.g := ⟨_, rfl⟩
  rw [← hxg] at XG hGs hun
  generalize x.arr = X at *
  rw [hk] at X0
  generalize x.k = xk at *
  generalize x.ri = ri at *
  generalize x.rq = rq at *
  generalize x.at_ = at_ at *
  generalize x.to = tov at *
  clear h hI hri hx hb hn hxg
  clear hk
  obtain ⟨a0, a1⟩ := hat
  have hb3 := Blk.new w 39 X
  have y1 := (hb3.cell 1).trans X1
  have y2 := (hb3.cell 2).trans X2
  have e3 := (hb3.alloc (.cells #[.int .i64 ri, .int .u64 rq] 33)).cell 3
  rw [X3] at e3
  have hcA : Chg [] w ((w.alloc (.cells X 39)).alloc (.cells #[.int .i64 ri, .int .u64 rq] 33)) := ((Chg.refl [] w).alloc _).alloc _
  have hb3A := hb3.alloc (.cells #[.int .i64 ri, .int .u64 rq] 33)
  have hb5A : Blk ((w.alloc (.cells X 39)).alloc (.cells #[.int .i64 ri, .int .u64 rq] 33)) (w.heap.size + 1) 33 #[.int .i64 ri, .int .u64 rq] := Blk.at' (w.alloc (.cells X 39)) 33 _ (by simp)
  have g2 := (HB.out.chg hcA (by simp)).cell 2
  by_cases ha : at_ < 1
  · clear hVRlt
    go_enter Try.func11, Try.ntmps11
    go_upto_region 4 with (fail)
    generalize World.alloc (World.alloc w _) _ = wc at *
    obtain ⟨i, q, hb5, hii⟩ : ∃ i q, Blk wc (w.heap.size + 1) 33 #[.int .i64 i, .int .u64 q] ∧ inI i := ⟨ri, rq, hb5A, hri0⟩
    clear y1 y2 e3 g2 hb3 ha a0 a1 hb5A
    have z0 := (hb3A.cell 0).trans X0
    have hzz := hcA.size
    have hlt5 := hb5.lt
    obtain ⟨wA, hwA⟩ : ∃ W, W = wc := ⟨_, rfl⟩
    subst hwA
    have hgS := H.out.gS
    have hSl := H.out.g.lt.2
    have hTl := H.out.d.lt
    have nS0 : w.heap.size ∉ S := fun hk => by have := hSl _ hk; omega
    have nT0 : w.heap.size ∉ T := fun hk => by have := hTl _ hk; omega
    have hNB : wA.heap.size ∉ S := fun hk => by have := hSl _ hk; omega
    have hapT : ∀ k ∈ T, k ∉ S := fun k hk hkS => H.out.ap k hkS hk
    have HM := Lib.hid (fun W (hc : Chg [] w W) => Make_any (H.out.g.quiet hc) xg)
    have HD := Lib.hid (fun W (hc : Chg S w W) => rMake_any (H.out.d.chg hc hapT) HI.out xg hun)
    have HV := Lib.hid (HI.out.mkT xg hun)
    have hmin := HI.out.mk_in xg
    have hcD := hcA.drew
    generalize t.mkI xg = mI at *
    generalize t.mkQ xg = mQ at *
    generalize t.mkE xg = mE at *
    unfold Gr.val at HM HD
    have HRI2 := HRI
    have hin9 : ∀ y ∈ rs ++ [(mI, mQ)], inI y.1 := fun y hy => by rcases List.mem_append.1 hy with h9 | h9; exact HRI2.out y h9; simp at h9; subst h9; exact hmin
    have HIN := Lib.hid hin9
    clear hin9 hmin
    go_upto_region 6 with (fail)
    go_cut [6, 7] from 52 to 61 (fun s6 s7 wx => ∃ zb : Nat, s6 = ptr zb ∧ s7 = .int .i64 mE ∧ Hid (GTurns c S (t.mkT xg) w wx ∧ Blk wx gb 45 #[ptr c, ptr p, .slice AR n cR] ∧ Blk wx w.heap.size 39 X ∧ Blk wx zb 33 #[.int .i64 mI, .int .u64 mQ] ∧ w.heap.size + 1 < zb))
    case first =>
      refine wp_region_held_drew (S := fun w' => Blk w' gb 45 #[ptr c, ptr p, .slice AR n cR] ∧ Blk w' w.heap.size 39 X) (by kernel_rfl) ⟨(HB.out.chg hcA (by simp)).drew, hb3A.drew⟩ (fun hHeld => ?_)
      simp only [List.setIfInBounds_toArray, List.size_toArray, List.length_cons, List.length_nil, Array.replicate]
      refine wpAnyH_take (i := 0) (v := ?_) rfl (by kernel_rfl) (by kernel_rfl) (by kernel_rfl) (fun _ _ _ h => h) (Or.inl ⟨by rfl, ?_⟩) hHeld ?_
      rotate_left
      · (intro w' hSw; go_simp; try with_reducible rfl)
      simp only [Act.put, List.getElem_toArray, List.getElem_cons_succ, List.getElem_cons_zero, List.setIfInBounds_toArray, List.set_cons_zero, List.set_cons_succ]
      refine wpAnyH_take (i := 1) (v := ?_) rfl (by kernel_rfl) (by kernel_rfl) (by kernel_rfl) (fun _ _ _ h => h) (Or.inl ⟨by rfl, ?_⟩) hHeld ?_
      rotate_left
      · (intro w' hSw; go_simp; try with_reducible rfl)
      simp only [Act.put, List.getElem_toArray, List.getElem_cons_succ, List.getElem_cons_zero, List.setIfInBounds_toArray, List.set_cons_zero, List.set_cons_succ]
      refine wpAnyH_take (i := 2) (v := ?_) rfl (by kernel_rfl) (by kernel_rfl) (by kernel_rfl) (fun _ _ _ h => h) (Or.inl ⟨by rfl, ?_⟩) hHeld ?_
      rotate_left
      · (intro w' hSw; go_simp; try with_reducible rfl)
      simp only [Act.put, List.getElem_toArray, List.getElem_cons_succ, List.getElem_cons_zero, List.setIfInBounds_toArray, List.set_cons_zero, List.set_cons_succ]
      refine wpAnyH_take (i := 3) (v := ?_) rfl (by kernel_rfl) (by kernel_rfl) (by kernel_rfl) (fun _ _ _ h => h) (Or.inl ⟨by rfl, ?_⟩) hHeld ?_
      rotate_left
      · (intro w' hSw; have q0 := hSw.1.cell 0; simp only [List.getElem?_toArray, List.getElem?_cons_zero, List.getElem?_cons_succ] at *; go_simp; try with_reducible rfl)
      simp only [Act.put, List.getElem_toArray, List.getElem_cons_succ, List.getElem_cons_zero, List.setIfInBounds_toArray, List.set_cons_zero, List.set_cons_succ]
      refine wpAnyH_take (i := 4) (v := ?_) rfl (by kernel_rfl) (by kernel_rfl) (by kernel_rfl) (fun _ _ _ h => h) (Or.inl ⟨by rfl, ?_⟩) hHeld ?_
      rotate_left
      · (intro w' hSw; go_simp; try with_reducible rfl)
      simp only [Act.put, List.getElem_toArray, List.getElem_cons_succ, List.getElem_cons_zero, List.setIfInBounds_toArray, List.set_cons_zero, List.set_cons_succ]
      refine wpAnyH_take (i := 5) (v := .agg xg.arr) rfl (by kernel_rfl) (by kernel_rfl) (by kernel_rfl) (fun _ _ _ h => h) (Or.inl ⟨by rfl, fun w' hSw => sk_run_load T37 hGs (fun j v hv => (hSw.2.cell (4 + j)).trans (XG j v hv)) _ (by rfl) (by rfl)⟩) hHeld ?_
      simp only [Act.put, List.getElem_toArray, List.getElem_cons_succ, List.getElem_cons_zero, List.setIfInBounds_toArray, List.set_cons_zero, List.set_cons_succ]
      refine wpAnyH_ready (rs := [6, 10]) (by kernel_rfl) (by simp) ?_
      refine AllReadyH.cons rfl (fun K hK => ?_) ?_
      · go_simp
        refine (HM.out _ (hcD)).mono ?_
        rintro e w2 ⟨rfl, hT2⟩
        have hcs := hT2.chg
        have hz2 := hcs.size
        simp only [World.size_drew, World.size_alloc] at hz2
        have hT2 := GTurns.earlier (hcD) hT2
        refine hK _ _ ⟨hHeld.1.chg hcs hgS.1, hHeld.2.chg hcs nS0⟩ (fun hHeld => ?_)
        clear hK K
        simp only [Act.put, List.getElem_toArray, List.getElem_cons_succ, List.getElem_cons_zero, List.setIfInBounds_toArray, List.set_cons_zero, List.set_cons_succ]
        refine wpAnyH_take (i := 7) (v := ?_) rfl (by kernel_rfl) (by kernel_rfl) (by kernel_rfl) (fun _ _ _ h => h) (Or.inl ⟨by rfl, ?_⟩) hHeld ?_
        rotate_left
        · (intro w' hSw; go_simp; try with_reducible rfl)
        simp only [Act.put, List.getElem_toArray, List.getElem_cons_succ, List.getElem_cons_zero, List.setIfInBounds_toArray, List.set_cons_zero, List.set_cons_succ]
        refine wpAnyH_take (i := 8) (v := ?_) rfl (by kernel_rfl) (by kernel_rfl) (by kernel_rfl) (fun _ _ _ h => h) (Or.inl ⟨by rfl, ?_⟩) hHeld ?_
        rotate_left
        · (intro w' hSw; go_simp; try with_reducible rfl)
        simp only [Act.put, List.getElem_toArray, List.getElem_cons_succ, List.getElem_cons_zero, List.setIfInBounds_toArray, List.set_cons_zero, List.set_cons_succ]
        refine wpAnyH_take (i := 9) (v := ?_) rfl (by kernel_rfl) (by kernel_rfl) (by kernel_rfl) (fun _ _ _ h => h) (Or.inl ⟨by rfl, ?_⟩) hHeld ?_
        rotate_left
        · (intro w' hSw; go_simp; try with_reducible rfl)
        simp only [Act.put, List.getElem_toArray, List.getElem_cons_succ, List.getElem_cons_zero, List.setIfInBounds_toArray, List.set_cons_zero, List.set_cons_succ]
        refine wpAnyH_ready (rs := [10]) (by kernel_rfl) (by simp) ?_
        refine AllReadyH.cons rfl (fun K hK => ?_) AllReadyH.nil
        go_simp
        refine hK _ _ ⟨hHeld.1.alloc _, hHeld.2.alloc _⟩ (fun hHeld => ?_)
        clear hK K
        simp only [Act.put, List.getElem_toArray, List.getElem_cons_succ, List.getElem_cons_zero, List.setIfInBounds_toArray, List.set_cons_zero, List.set_cons_succ]
        refine wpAnyH_ready (rs := [11]) (by kernel_rfl) (by simp) ?_
        refine AllReadyH.cons rfl (fun K hK => ?_) AllReadyH.nil
        refine sk_step_store (A := #[.int .i64 mI, .int .u64 mQ]) (off := 0) T33 (Blk.new w2 33 zR) rfl (by simp) (by simp [Value.oneCell']) (by rfl) _ _ (by rfl) (by rfl) (by rfl) ?_
        intro w3 hS3
        rw [splice_all zR _ (by rfl)] at hS3
        refine hK _ _ ⟨hS3.far hHeld.1 (by first | omega | (simp; done) | (simp; omega)), hS3.far hHeld.2 (by first | omega | (simp; done) | (simp; omega))⟩ (fun hHeld => ?_)
        clear hK K
        simp only [Act.put, List.getElem_toArray, List.getElem_cons_succ, List.getElem_cons_zero, List.setIfInBounds_toArray, List.set_cons_zero, List.set_cons_succ]
        refine wpAnyH_take (i := 12) (v := ?_) rfl (by kernel_rfl) (by kernel_rfl) (by kernel_rfl) (fun _ _ _ h => h) (Or.inl ⟨by rfl, ?_⟩) hHeld ?_
        rotate_left
        · (intro w' hSw; go_simp; try with_reducible rfl)
        simp only [Act.put, List.getElem_toArray, List.getElem_cons_succ, List.getElem_cons_zero, List.setIfInBounds_toArray, List.set_cons_zero, List.set_cons_succ]
        refine wpAnyH_done (by kernel_rfl) ?_ _
        have hT4 := (hT2.later ((Chg.refl [] w2).alloc _)).box (Blk.new w2 33 zR) (by first | omega | (simp; done) | (simp; omega)) hS3.chg
        go_wp2
        go_meet
        case rel => exact ⟨_, rfl, rfl, Lib.hid ⟨hT4, hHeld.1, hHeld.2, hS3.blk, (by first | omega | (simp; done) | (simp; omega))⟩⟩
      refine AllReadyH.cons rfl (fun K hK => ?_) AllReadyH.nil
      go_simp
      refine hK _ _ ⟨hHeld.1.alloc _, hHeld.2.alloc _⟩ (fun hHeld => ?_)
      clear hK K
      simp only [Act.put, List.getElem_toArray, List.getElem_cons_succ, List.getElem_cons_zero, List.setIfInBounds_toArray, List.set_cons_zero, List.set_cons_succ]
      refine wpAnyH_ready (rs := [6]) (by kernel_rfl) (by simp) ?_
      refine AllReadyH.cons rfl (fun K hK => ?_) AllReadyH.nil
      go_simp
      refine (HM.out _ (hcD.alloc _)).mono ?_
      rintro e w2 ⟨rfl, hT2⟩
      have hcs := hT2.chg
      have hz2 := hcs.size
      simp only [World.size_drew, World.size_alloc] at hz2
      have hT2 := GTurns.earlier (hcD.alloc _) hT2
      refine hK _ _ ⟨hHeld.1.chg hcs hgS.1, hHeld.2.chg hcs nS0⟩ (fun hHeld => ?_)
      clear hK K
      simp only [Act.put, List.getElem_toArray, List.getElem_cons_succ, List.getElem_cons_zero, List.setIfInBounds_toArray, List.set_cons_zero, List.set_cons_succ]
      refine wpAnyH_take (i := 7) (v := ?_) rfl (by kernel_rfl) (by kernel_rfl) (by kernel_rfl) (fun _ _ _ h => h) (Or.inl ⟨by rfl, ?_⟩) hHeld ?_
      rotate_left
      · (intro w' hSw; go_simp; try with_reducible rfl)
      simp only [Act.put, List.getElem_toArray, List.getElem_cons_succ, List.getElem_cons_zero, List.setIfInBounds_toArray, List.set_cons_zero, List.set_cons_succ]
      refine wpAnyH_take (i := 8) (v := ?_) rfl (by kernel_rfl) (by kernel_rfl) (by kernel_rfl) (fun _ _ _ h => h) (Or.inl ⟨by rfl, ?_⟩) hHeld ?_
      rotate_left
      · (intro w' hSw; go_simp; try with_reducible rfl)
      simp only [Act.put, List.getElem_toArray, List.getElem_cons_succ, List.getElem_cons_zero, List.setIfInBounds_toArray, List.set_cons_zero, List.set_cons_succ]
      refine wpAnyH_take (i := 9) (v := ?_) rfl (by kernel_rfl) (by kernel_rfl) (by kernel_rfl) (fun _ _ _ h => h) (Or.inl ⟨by rfl, ?_⟩) hHeld ?_
      rotate_left
      · (intro w' hSw; go_simp; try with_reducible rfl)
      simp only [Act.put, List.getElem_toArray, List.getElem_cons_succ, List.getElem_cons_zero, List.setIfInBounds_toArray, List.set_cons_zero, List.set_cons_succ]
      refine wpAnyH_ready (rs := [11]) (by kernel_rfl) (by simp) ?_
      refine AllReadyH.cons rfl (fun K hK => ?_) AllReadyH.nil
      refine sk_step_store (A := #[.int .i64 mI, .int .u64 mQ]) (off := 0) T33 ((Blk.new wA.drew 33 zR).chg hcs hNB) rfl (by simp) (by simp [Value.oneCell']) (by rfl) _ _ (by rfl) (by rfl) (by rfl) ?_
      intro w3 hS3
      rw [splice_all zR _ (by rfl)] at hS3
      refine hK _ _ ⟨hS3.far hHeld.1 (by first | omega | (simp; done) | (simp; omega)), hS3.far hHeld.2 (by first | omega | (simp; done) | (simp; omega))⟩ (fun hHeld => ?_)
      clear hK K
      simp only [Act.put, List.getElem_toArray, List.getElem_cons_succ, List.getElem_cons_zero, List.setIfInBounds_toArray, List.set_cons_zero, List.set_cons_succ]
      refine wpAnyH_take (i := 12) (v := ?_) rfl (by kernel_rfl) (by kernel_rfl) (by kernel_rfl) (fun _ _ _ h => h) (Or.inl ⟨by rfl, ?_⟩) hHeld ?_
      rotate_left
      · (intro w' hSw; go_simp; try with_reducible rfl)
      simp only [Act.put, List.getElem_toArray, List.getElem_cons_succ, List.getElem_cons_zero, List.setIfInBounds_toArray, List.set_cons_zero, List.set_cons_succ]
      refine wpAnyH_done (by kernel_rfl) ?_ _
      have hT4 := (hT2).box ((Blk.new wA.drew 33 zR).chg hcs hNB) (by first | omega | (simp; done) | (simp; omega)) hS3.chg
      go_wp2
      go_meet
      case rel => exact ⟨_, rfl, rfl, Lib.hid ⟨hT4, hHeld.1, hHeld.2, hS3.blk, (by first | omega | (simp; done) | (simp; omega))⟩⟩
    case rest =>
      obtain ⟨zb, rfl, rfl, hq⟩ := hcut
      obtain ⟨hTC, hgbB, hb3B, hb6B, hzb⟩ := hq.out
      obtain ⟨wB, hwB⟩ : ∃ W, W = wc := ⟨_, rfl⟩
      subst hwB
      have hcB := hTC.chg
      have hzB := hcB.size
      have hltB := hb6B.lt
      have nT1 : zb ∉ T := fun hk => by have := hTl _ hk; omega
      clear hNB
      have hNB : wB.heap.size ∉ T := fun hk => by have := hTl _ hk; omega
      clear hq hcA hcD hb3A hb5 hlt5 hzz z0 HM nS0
      go_upto_region 7 with (fail)
      go_cut [8, 9] from 62 to 71 (fun s8 s9 wx => ∃ zd : Nat, s8 = ptr zd ∧ s9 = .int .i64 mE ∧ Hid (DTurns p T (docT (t.mkT xg)) wB wx ∧ Blk wx gb 45 #[ptr c, ptr p, .slice AR n cR] ∧ Blk wx zb 33 #[.int .i64 mI, .int .u64 mQ] ∧ Blk wx zd 33 #[.int .i64 mI, .int .u64 mQ]))
      case first =>
        refine wp_region_held_drew (S := fun w' => Blk w' gb 45 #[ptr c, ptr p, .slice AR n cR] ∧ Blk w' w.heap.size 39 X ∧ Blk w' zb 33 #[.int .i64 mI, .int .u64 mQ]) (by kernel_rfl) ⟨hgbB.drew, hb3B.drew, hb6B.drew⟩ (fun hHeld => ?_)
        simp only [List.setIfInBounds_toArray, List.size_toArray, List.length_cons, List.length_nil, Array.replicate]
        refine wpAnyH_take (i := 0) (v := ?_) rfl (by kernel_rfl) (by kernel_rfl) (by kernel_rfl) (fun _ _ _ h => h) (Or.inl ⟨by rfl, ?_⟩) hHeld ?_
        rotate_left
        · (intro w' hSw; go_simp; try with_reducible rfl)
        simp only [Act.put, List.getElem_toArray, List.getElem_cons_succ, List.getElem_cons_zero, List.setIfInBounds_toArray, List.set_cons_zero, List.set_cons_succ]
        refine wpAnyH_take (i := 1) (v := ?_) rfl (by kernel_rfl) (by kernel_rfl) (by kernel_rfl) (fun _ _ _ h => h) (Or.inl ⟨by rfl, ?_⟩) hHeld ?_
        rotate_left
        · (intro w' hSw; go_simp; try with_reducible rfl)
        simp only [Act.put, List.getElem_toArray, List.getElem_cons_succ, List.getElem_cons_zero, List.setIfInBounds_toArray, List.set_cons_zero, List.set_cons_succ]
        refine wpAnyH_take (i := 2) (v := ?_) rfl (by kernel_rfl) (by kernel_rfl) (by kernel_rfl) (fun _ _ _ h => h) (Or.inl ⟨by rfl, ?_⟩) hHeld ?_
        rotate_left
        · (intro w' hSw; go_simp; try with_reducible rfl)
        simp only [Act.put, List.getElem_toArray, List.getElem_cons_succ, List.getElem_cons_zero, List.setIfInBounds_toArray, List.set_cons_zero, List.set_cons_succ]
        refine wpAnyH_take (i := 3) (v := ?_) rfl (by kernel_rfl) (by kernel_rfl) (by kernel_rfl) (fun _ _ _ h => h) (Or.inl ⟨by rfl, ?_⟩) hHeld ?_
        rotate_left
        · (intro w' hSw; have q0 := hSw.1.cell 1; simp only [List.getElem?_toArray, List.getElem?_cons_zero, List.getElem?_cons_succ] at *; go_simp; try with_reducible rfl)
        simp only [Act.put, List.getElem_toArray, List.getElem_cons_succ, List.getElem_cons_zero, List.setIfInBounds_toArray, List.set_cons_zero, List.set_cons_succ]
        refine wpAnyH_take (i := 4) (v := ?_) rfl (by kernel_rfl) (by kernel_rfl) (by kernel_rfl) (fun _ _ _ h => h) (Or.inl ⟨by rfl, ?_⟩) hHeld ?_
        rotate_left
        · (intro w' hSw; go_simp; try with_reducible rfl)
        simp only [Act.put, List.getElem_toArray, List.getElem_cons_succ, List.getElem_cons_zero, List.setIfInBounds_toArray, List.set_cons_zero, List.set_cons_succ]
        refine wpAnyH_take (i := 5) (v := .agg xg.arr) rfl (by kernel_rfl) (by kernel_rfl) (by kernel_rfl) (fun _ _ _ h => h) (Or.inl ⟨by rfl, fun w' hSw => sk_run_load T37 hGs (fun j v hv => (hSw.2.1.cell (4 + j)).trans (XG j v hv)) _ (by rfl) (by rfl)⟩) hHeld ?_
        simp only [Act.put, List.getElem_toArray, List.getElem_cons_succ, List.getElem_cons_zero, List.setIfInBounds_toArray, List.set_cons_zero, List.set_cons_succ]
        refine wpAnyH_ready (rs := [6, 10]) (by kernel_rfl) (by simp) ?_
        refine AllReadyH.cons rfl (fun K hK => ?_) ?_
        · go_simp
          refine (HD.out _ (hcB.drew)).mono ?_
          rintro e w2 ⟨rfl, hT2⟩
          have hcs := hT2.chg
          have hz2 := hcs.size
          simp only [World.size_drew, World.size_alloc] at hz2
          have hT2 := DTurns.earlier ((Chg.refl [] wB).drew) hT2
          refine hK _ _ ⟨hHeld.1.chg hcs hgS.2.2.1, hHeld.2.1.chg hcs nT0, hHeld.2.2.chg hcs nT1⟩ (fun hHeld => ?_)
          clear hK K
          simp only [Act.put, List.getElem_toArray, List.getElem_cons_succ, List.getElem_cons_zero, List.setIfInBounds_toArray, List.set_cons_zero, List.set_cons_succ]
          refine wpAnyH_take (i := 7) (v := ?_) rfl (by kernel_rfl) (by kernel_rfl) (by kernel_rfl) (fun _ _ _ h => h) (Or.inl ⟨by rfl, ?_⟩) hHeld ?_
          rotate_left
          · (intro w' hSw; go_simp; try with_reducible rfl)
          simp only [Act.put, List.getElem_toArray, List.getElem_cons_succ, List.getElem_cons_zero, List.setIfInBounds_toArray, List.set_cons_zero, List.set_cons_succ]
          refine wpAnyH_take (i := 8) (v := ?_) rfl (by kernel_rfl) (by kernel_rfl) (by kernel_rfl) (fun _ _ _ h => h) (Or.inl ⟨by rfl, ?_⟩) hHeld ?_
          rotate_left
          · (intro w' hSw; go_simp; try with_reducible rfl)
          simp only [Act.put, List.getElem_toArray, List.getElem_cons_succ, List.getElem_cons_zero, List.setIfInBounds_toArray, List.set_cons_zero, List.set_cons_succ]
          refine wpAnyH_take (i := 9) (v := ?_) rfl (by kernel_rfl) (by kernel_rfl) (by kernel_rfl) (fun _ _ _ h => h) (Or.inl ⟨by rfl, ?_⟩) hHeld ?_
          rotate_left
          · (intro w' hSw; go_simp; try with_reducible rfl)
          simp only [Act.put, List.getElem_toArray, List.getElem_cons_succ, List.getElem_cons_zero, List.setIfInBounds_toArray, List.set_cons_zero, List.set_cons_succ]
          refine wpAnyH_ready (rs := [10]) (by kernel_rfl) (by simp) ?_
          refine AllReadyH.cons rfl (fun K hK => ?_) AllReadyH.nil
          go_simp
          refine hK _ _ ⟨hHeld.1.alloc _, hHeld.2.1.alloc _, hHeld.2.2.alloc _⟩ (fun hHeld => ?_)
          clear hK K
          simp only [Act.put, List.getElem_toArray, List.getElem_cons_succ, List.getElem_cons_zero, List.setIfInBounds_toArray, List.set_cons_zero, List.set_cons_succ]
          refine wpAnyH_ready (rs := [11]) (by kernel_rfl) (by simp) ?_
          refine AllReadyH.cons rfl (fun K hK => ?_) AllReadyH.nil
          refine sk_step_store (A := #[.int .i64 mI, .int .u64 mQ]) (off := 0) T33 (Blk.new w2 33 zR) rfl (by simp) (by simp [Value.oneCell']) (by rfl) _ _ (by rfl) (by rfl) (by rfl) ?_
          intro w3 hS3
          rw [splice_all zR _ (by rfl)] at hS3
          refine hK _ _ ⟨hS3.far hHeld.1 (by first | omega | (simp; done) | (simp; omega)), hS3.far hHeld.2.1 (by first | omega | (simp; done) | (simp; omega)), hS3.far hHeld.2.2 (by first | omega | (simp; done) | (simp; omega))⟩ (fun hHeld => ?_)
          clear hK K
          simp only [Act.put, List.getElem_toArray, List.getElem_cons_succ, List.getElem_cons_zero, List.setIfInBounds_toArray, List.set_cons_zero, List.set_cons_succ]
          refine wpAnyH_take (i := 12) (v := ?_) rfl (by kernel_rfl) (by kernel_rfl) (by kernel_rfl) (fun _ _ _ h => h) (Or.inl ⟨by rfl, ?_⟩) hHeld ?_
          rotate_left
          · (intro w' hSw; go_simp; try with_reducible rfl)
          simp only [Act.put, List.getElem_toArray, List.getElem_cons_succ, List.getElem_cons_zero, List.setIfInBounds_toArray, List.set_cons_zero, List.set_cons_succ]
          refine wpAnyH_done (by kernel_rfl) ?_ _
          have hT4 := (hT2.later ((Chg.refl [] w2).alloc _)).box (Blk.new w2 33 zR) (by first | omega | (simp; done) | (simp; omega)) hS3.chg
          go_wp2
          go_meet
          case rel => exact ⟨_, rfl, rfl, Lib.hid ⟨hT4, hHeld.1, hHeld.2.2, hS3.blk⟩⟩
        refine AllReadyH.cons rfl (fun K hK => ?_) AllReadyH.nil
        go_simp
        refine hK _ _ ⟨hHeld.1.alloc _, hHeld.2.1.alloc _, hHeld.2.2.alloc _⟩ (fun hHeld => ?_)
        clear hK K
        simp only [Act.put, List.getElem_toArray, List.getElem_cons_succ, List.getElem_cons_zero, List.setIfInBounds_toArray, List.set_cons_zero, List.set_cons_succ]
        refine wpAnyH_ready (rs := [6]) (by kernel_rfl) (by simp) ?_
        refine AllReadyH.cons rfl (fun K hK => ?_) AllReadyH.nil
        go_simp
        refine (HD.out _ (hcB.drew.alloc _)).mono ?_
        rintro e w2 ⟨rfl, hT2⟩
        have hcs := hT2.chg
        have hz2 := hcs.size
        simp only [World.size_drew, World.size_alloc] at hz2
        have hT2 := DTurns.earlier ((Chg.refl [] wB).drew.alloc _) hT2
        refine hK _ _ ⟨hHeld.1.chg hcs hgS.2.2.1, hHeld.2.1.chg hcs nT0, hHeld.2.2.chg hcs nT1⟩ (fun hHeld => ?_)
        clear hK K
        simp only [Act.put, List.getElem_toArray, List.getElem_cons_succ, List.getElem_cons_zero, List.setIfInBounds_toArray, List.set_cons_zero, List.set_cons_succ]
        refine wpAnyH_take (i := 7) (v := ?_) rfl (by kernel_rfl) (by kernel_rfl) (by kernel_rfl) (fun _ _ _ h => h) (Or.inl ⟨by rfl, ?_⟩) hHeld ?_
        rotate_left
        · (intro w' hSw; go_simp; try with_reducible rfl)
        simp only [Act.put, List.getElem_toArray, List.getElem_cons_succ, List.getElem_cons_zero, List.setIfInBounds_toArray, List.set_cons_zero, List.set_cons_succ]
        refine wpAnyH_take (i := 8) (v := ?_) rfl (by kernel_rfl) (by kernel_rfl) (by kernel_rfl) (fun _ _ _ h => h) (Or.inl ⟨by rfl, ?_⟩) hHeld ?_
        rotate_left
        · (intro w' hSw; go_simp; try with_reducible rfl)
        simp only [Act.put, List.getElem_toArray, List.getElem_cons_succ, List.getElem_cons_zero, List.setIfInBounds_toArray, List.set_cons_zero, List.set_cons_succ]
        refine wpAnyH_take (i := 9) (v := ?_) rfl (by kernel_rfl) (by kernel_rfl) (by kernel_rfl) (fun _ _ _ h => h) (Or.inl ⟨by rfl, ?_⟩) hHeld ?_
        rotate_left
        · (intro w' hSw; go_simp; try with_reducible rfl)
        simp only [Act.put, List.getElem_toArray, List.getElem_cons_succ, List.getElem_cons_zero, List.setIfInBounds_toArray, List.set_cons_zero, List.set_cons_succ]
        refine wpAnyH_ready (rs := [11]) (by kernel_rfl) (by simp) ?_
        refine AllReadyH.cons rfl (fun K hK => ?_) AllReadyH.nil
        refine sk_step_store (A := #[.int .i64 mI, .int .u64 mQ]) (off := 0) T33 ((Blk.new wB.drew 33 zR).chg hcs hNB) rfl (by simp) (by simp [Value.oneCell']) (by rfl) _ _ (by rfl) (by rfl) (by rfl) ?_
        intro w3 hS3
        rw [splice_all zR _ (by rfl)] at hS3
        refine hK _ _ ⟨hS3.far hHeld.1 (by first | omega | (simp; done) | (simp; omega)), hS3.far hHeld.2.1 (by first | omega | (simp; done) | (simp; omega)), hS3.far hHeld.2.2 (by first | omega | (simp; done) | (simp; omega))⟩ (fun hHeld => ?_)
        clear hK K
        simp only [Act.put, List.getElem_toArray, List.getElem_cons_succ, List.getElem_cons_zero, List.setIfInBounds_toArray, List.set_cons_zero, List.set_cons_succ]
        refine wpAnyH_take (i := 12) (v := ?_) rfl (by kernel_rfl) (by kernel_rfl) (by kernel_rfl) (fun _ _ _ h => h) (Or.inl ⟨by rfl, ?_⟩) hHeld ?_
        rotate_left
        · (intro w' hSw; go_simp; try with_reducible rfl)
        simp only [Act.put, List.getElem_toArray, List.getElem_cons_succ, List.getElem_cons_zero, List.setIfInBounds_toArray, List.set_cons_zero, List.set_cons_succ]
        refine wpAnyH_done (by kernel_rfl) ?_ _
        have hT4 := (hT2).box ((Blk.new wB.drew 33 zR).chg hcs hNB) (by first | omega | (simp; done) | (simp; omega)) hS3.chg
        go_wp2
        go_meet
        case rel => exact ⟨_, rfl, rfl, Lib.hid ⟨hT4, hHeld.1, hHeld.2.2, hS3.blk⟩⟩
      case rest =>
        obtain ⟨zd, rfl, rfl, hq⟩ := hcut
        obtain ⟨hTD, hgbD, hb6D, hb8D⟩ := hq.out
        obtain ⟨wD, hwD⟩ : ∃ W, W = wc := ⟨_, rfl⟩
        subst hwD
        clear hq hgbB hb3B hb6B HD hNB
        have hnr := neqRef mI mQ
        by_cases h0 : mE = 0
        · subst h0
          obtain ⟨S9, T9, g9, _, _⟩ := GmTurns.both_in H.out (Chg.refl [] w) hTC hTD
          have HR9 : Hid (Row wD 33 2 (.slice AR n cR) n (prCells rs)) := Lib.hid (by have := g9.r; rw [HVR.out, ← Hn.out] at this; exact this)
          clear g9
          obtain ⟨in0, hi0, hq0, hq1, hq2⟩ := info_parts Try.info_R
          have hgV : (Value.slice AR n cR).ownBlock ≠ some gb := fun e => hgS.2.2.2 (by rw [HVR.out, ← Hn.out]; exact row_mem e)
          have hzV : (Value.slice AR n cR).ownBlock ≠ some zb := fun e => by have := H.out.r.lt zb (by rw [HVR.out, ← Hn.out]; exact row_mem e); omega
          have hzgb : zb ≠ (⟨gb, 2, none⟩ : Addr).block := by simp; omega
          have hin9 := HIN.out
          go_upto_region 11 with (first | ((with_reducible refine wpl_loadE T33 hb6D rfl ?_ ?_ ?_); (· rfl); (· exact ⟨_, rfl, rfl⟩)) | ((with_reducible refine wpl_loadE T33 hb8D rfl ?_ ?_ ?_); (· rfl); (· exact ⟨_, rfl, rfl⟩)))
          refine wp_region_held_drew (S := fun w' => Blk w' zb 33 #[.int .i64 mI, .int .u64 mQ]) (by kernel_rfl) hb6D.drew (fun hHeld => ?_)
          simp only [List.setIfInBounds_toArray, List.size_toArray, List.length_cons, List.length_nil, Array.replicate]
          refine wpAnyH_take (i := 0) (v := ?_) rfl (by kernel_rfl) (by kernel_rfl) (by kernel_rfl) (fun _ _ _ h => h) (Or.inl ⟨by rfl, ?_⟩) hHeld ?_
          rotate_left
          · (intro w' hSw; go_simp; try with_reducible rfl)
          simp only [Act.put, List.getElem_toArray, List.getElem_cons_succ, List.getElem_cons_zero, List.setIfInBounds_toArray, List.set_cons_zero, List.set_cons_succ]
          refine wpAnyH_take (i := 1) (v := ?_) rfl (by kernel_rfl) (by kernel_rfl) (by kernel_rfl) (fun _ _ _ h => h) (Or.inl ⟨by rfl, ?_⟩) hHeld ?_
          rotate_left
          · (intro w' hSw; go_simp; try with_reducible rfl)
          simp only [Act.put, List.getElem_toArray, List.getElem_cons_succ, List.getElem_cons_zero, List.setIfInBounds_toArray, List.set_cons_zero, List.set_cons_succ]
          refine wpAnyH_take (i := 2) (v := ?_) rfl (by kernel_rfl) (by kernel_rfl) (by kernel_rfl) (fun _ _ _ h => h) (Or.inl ⟨by rfl, ?_⟩) hHeld ?_
          rotate_left
          · (intro w' hSw; go_simp; try with_reducible rfl)
          simp only [Act.put, List.getElem_toArray, List.getElem_cons_succ, List.getElem_cons_zero, List.setIfInBounds_toArray, List.set_cons_zero, List.set_cons_succ]
          refine wpAnyH_take (i := 3) (v := ?_) rfl (by kernel_rfl) (by kernel_rfl) (by kernel_rfl) (fun _ _ _ h => h) (Or.inl ⟨by rfl, ?_⟩) hHeld ?_
          rotate_left
          · (intro w' hSw; go_simp; try with_reducible rfl)
          simp only [Act.put, List.getElem_toArray, List.getElem_cons_succ, List.getElem_cons_zero, List.setIfInBounds_toArray, List.set_cons_zero, List.set_cons_succ]
          refine wpAnyH_take (i := 5) (v := .agg #[.int .i64 mI, .int .u64 mQ]) rfl (by kernel_rfl) (by kernel_rfl) (by kernel_rfl) (fun _ _ _ h => h) (Or.inl ⟨by rfl, fun w' hSw => sk_run_load (off := 0) T33 (by rfl) (blk_cells hSw) _ (by rfl) (by rfl)⟩) hHeld ?_
          simp only [Act.put, List.getElem_toArray, List.getElem_cons_succ, List.getElem_cons_zero, List.setIfInBounds_toArray, List.set_cons_zero, List.set_cons_succ]
          refine wpAnyH_ready (rs := [4, 6]) (by kernel_rfl) (by simp) ?_
          refine AllReadyH.cons rfl (fun K hK => ?_) ?_
          · have y0 := hgbD.drew.cell 2
            simp only [List.getElem?_toArray, List.getElem?_cons_zero, List.getElem?_cons_succ] at y0
            go_simp
            refine hK _ _ hHeld (fun hHeld => ?_)
            clear hK K
            simp only [Act.put, List.getElem_toArray, List.getElem_cons_succ, List.getElem_cons_zero, List.setIfInBounds_toArray, List.set_cons_zero, List.set_cons_succ]
            refine wpAnyH_ready (rs := [6]) (by kernel_rfl) (by simp) ?_
            refine AllReadyH.cons rfl (fun K hK => ?_) AllReadyH.nil
            go_simp
            refine hK _ _ (hHeld.alloc _) (fun hHeld => ?_)
            clear hK K
            simp only [Act.put, List.getElem_toArray, List.getElem_cons_succ, List.getElem_cons_zero, List.setIfInBounds_toArray, List.set_cons_zero, List.set_cons_succ]
            refine wpAnyH_ready (rs := [7]) (by kernel_rfl) (by simp) ?_
            refine AllReadyH.cons rfl (fun K hK => ?_) AllReadyH.nil
            refine step_append_row (wD.drew.alloc (.cells #[.int .i64 mI, .int .u64 mQ] 33)) rfl _ _ 43 rfl 33 in0 _ 2 16 Try.underlying43 hi0 hq0 hq1 hq2 rfl (.slice AR n cR) n (prCells rs) (by rfl) (HR9.out.drew.alloc _) ⟨wD.drew.heap.size, 0, none⟩ 1 1 [.int .i64 mI, .int .u64 mQ] (by rfl) (by rfl) (World.news_of_block (cs := #[.int .i64 mI, .int .u64 mQ]) (t := 33) (fr := (0, 0)) (heap_alloc_new wD.drew _)) (by simp [Value.oneCell']) (by omega) (by unfold maxLen; omega) (by omega) _ rfl ?_
            intro gg cap w9 hr9 hg9 hat9 hlt9
            have hgb9 := (hgbD.drew.alloc (.cells #[.int .i64 mI, .int .u64 mQ] 33)).grown hg9 hgV
            refine hK _ _ (hHeld.grown hg9 hzV) (fun hHeld => ?_)
            clear hK K
            simp only [Act.put, List.getElem_toArray, List.getElem_cons_succ, List.getElem_cons_zero, List.setIfInBounds_toArray, List.set_cons_zero, List.set_cons_succ]
            refine wpAnyH_take (i := 8) (v := ?_) rfl (by kernel_rfl) (by kernel_rfl) (by kernel_rfl) (fun _ _ _ h => h) (Or.inl ⟨by rfl, ?_⟩) hHeld ?_
            rotate_left
            · (intro w' hSw; go_simp; try with_reducible rfl)
            simp only [Act.put, List.getElem_toArray, List.getElem_cons_succ, List.getElem_cons_zero, List.setIfInBounds_toArray, List.set_cons_zero, List.set_cons_succ]
            refine wpAnyH_take (i := 9) (v := ?_) rfl (by kernel_rfl) (by kernel_rfl) (by kernel_rfl) (fun _ _ _ h => h) (Or.inl ⟨by rfl, ?_⟩) hHeld ?_
            rotate_left
            · (intro w' hSw; go_simp; try with_reducible rfl)
            simp only [Act.put, List.getElem_toArray, List.getElem_cons_succ, List.getElem_cons_zero, List.setIfInBounds_toArray, List.set_cons_zero, List.set_cons_succ]
            refine wpAnyH_ready (rs := [10]) (by kernel_rfl) (by simp) ?_
            refine AllReadyH.cons rfl (fun K hK => ?_) AllReadyH.nil
            have y2 := hgb9.cell 2
            have y3 := hgb9.frozen 2
            simp only [List.getElem?_toArray, List.getElem?_cons_zero, List.getElem?_cons_succ] at y2
            go_simp
            refine hK _ _ (hHeld.far hzgb _) (fun hHeld => ?_)
            clear hK K
            simp only [Act.put, List.getElem_toArray, List.getElem_cons_succ, List.getElem_cons_zero, List.setIfInBounds_toArray, List.set_cons_zero, List.set_cons_succ]
            refine wpAnyH_done (by kernel_rfl) ?_ _
            have HG := Lib.hid (GmTurns.app H.out (Chg.refl [] w) hTC hTD (((Chg.refl [] wD).drew).alloc (.cells #[.int .i64 mI, .int .u64 mQ] 33)) hr9 Hn.out (by rw [HVR.out, ← Hn.out]; exact hg9) (by rw [HVR.out, ← Hn.out]; exact hat9))
            clear hHeld
            go_wp2
            go_ret
            exact ⟨by simp, _, _, HV.out.mono (by omega), by simp, hin9, HG.out⟩
          refine AllReadyH.cons rfl (fun K hK => ?_) AllReadyH.nil
          go_simp
          refine hK _ _ (hHeld.alloc _) (fun hHeld => ?_)
          clear hK K
          simp only [Act.put, List.getElem_toArray, List.getElem_cons_succ, List.getElem_cons_zero, List.setIfInBounds_toArray, List.set_cons_zero, List.set_cons_succ]
          refine wpAnyH_ready (rs := [4]) (by kernel_rfl) (by simp) ?_
          refine AllReadyH.cons rfl (fun K hK => ?_) AllReadyH.nil
          have y0 := (hgbD.alloc (.cells #[.int .i64 mI, .int .u64 mQ] 33)).drew.cell 2
          simp only [List.getElem?_toArray, List.getElem?_cons_zero, List.getElem?_cons_succ] at y0
          go_simp
          refine hK _ _ (hHeld) (fun hHeld => ?_)
          clear hK K
          simp only [Act.put, List.getElem_toArray, List.getElem_cons_succ, List.getElem_cons_zero, List.setIfInBounds_toArray, List.set_cons_zero, List.set_cons_succ]
          refine wpAnyH_ready (rs := [7]) (by kernel_rfl) (by simp) ?_
          refine AllReadyH.cons rfl (fun K hK => ?_) AllReadyH.nil
          refine step_append_row (wD.drew.alloc (.cells #[.int .i64 mI, .int .u64 mQ] 33)) rfl _ _ 43 rfl 33 in0 _ 2 16 Try.underlying43 hi0 hq0 hq1 hq2 rfl (.slice AR n cR) n (prCells rs) (by rfl) (HR9.out.drew.alloc _) ⟨wD.drew.heap.size, 0, none⟩ 1 1 [.int .i64 mI, .int .u64 mQ] (by rfl) (by rfl) (World.news_of_block (cs := #[.int .i64 mI, .int .u64 mQ]) (t := 33) (fr := (0, 0)) (heap_alloc_new wD.drew _)) (by simp [Value.oneCell']) (by omega) (by unfold maxLen; omega) (by omega) _ rfl ?_
          intro gg cap w9 hr9 hg9 hat9 hlt9
          have hgb9 := (hgbD.drew.alloc (.cells #[.int .i64 mI, .int .u64 mQ] 33)).grown hg9 hgV
          refine hK _ _ (hHeld.grown hg9 hzV) (fun hHeld => ?_)
          clear hK K
          simp only [Act.put, List.getElem_toArray, List.getElem_cons_succ, List.getElem_cons_zero, List.setIfInBounds_toArray, List.set_cons_zero, List.set_cons_succ]
          refine wpAnyH_take (i := 8) (v := ?_) rfl (by kernel_rfl) (by kernel_rfl) (by kernel_rfl) (fun _ _ _ h => h) (Or.inl ⟨by rfl, ?_⟩) hHeld ?_
          rotate_left
          · (intro w' hSw; go_simp; try with_reducible rfl)
          simp only [Act.put, List.getElem_toArray, List.getElem_cons_succ, List.getElem_cons_zero, List.setIfInBounds_toArray, List.set_cons_zero, List.set_cons_succ]
          refine wpAnyH_take (i := 9) (v := ?_) rfl (by kernel_rfl) (by kernel_rfl) (by kernel_rfl) (fun _ _ _ h => h) (Or.inl ⟨by rfl, ?_⟩) hHeld ?_
          rotate_left
          · (intro w' hSw; go_simp; try with_reducible rfl)
          simp only [Act.put, List.getElem_toArray, List.getElem_cons_succ, List.getElem_cons_zero, List.setIfInBounds_toArray, List.set_cons_zero, List.set_cons_succ]
          refine wpAnyH_ready (rs := [10]) (by kernel_rfl) (by simp) ?_
          refine AllReadyH.cons rfl (fun K hK => ?_) AllReadyH.nil
          have y2 := hgb9.cell 2
          have y3 := hgb9.frozen 2
          simp only [List.getElem?_toArray, List.getElem?_cons_zero, List.getElem?_cons_succ] at y2
          go_simp
          refine hK _ _ (hHeld.far hzgb _) (fun hHeld => ?_)
          clear hK K
          simp only [Act.put, List.getElem_toArray, List.getElem_cons_succ, List.getElem_cons_zero, List.setIfInBounds_toArray, List.set_cons_zero, List.set_cons_succ]
          refine wpAnyH_done (by kernel_rfl) ?_ _
          have HG := Lib.hid (GmTurns.app H.out (Chg.refl [] w) hTC hTD (((Chg.refl [] wD).drew).alloc (.cells #[.int .i64 mI, .int .u64 mQ] 33)) hr9 Hn.out (by rw [HVR.out, ← Hn.out]; exact hg9) (by rw [HVR.out, ← Hn.out]; exact hat9))
          clear hHeld
          go_wp2
          go_ret
          exact ⟨by simp, _, _, HV.out.mono (by omega), by simp, hin9, HG.out⟩
        · have d0 : (mE == 0) = false := by simp; exact h0
          go_wp2_with (first | ((with_reducible refine wpl_loadE T33 hb6D rfl ?_ ?_ ?_); (· rfl); (· exact ⟨_, rfl, rfl⟩)) | ((with_reducible refine wpl_loadE T33 hb8D rfl ?_ ?_ ?_); (· rfl); (· exact ⟨_, rfl, rfl⟩)))
          go_ret
          exact ⟨by simp, _, rs, HV.out.mono (by omega), by omega, HRI.out, GmTurns.both H.out (Chg.refl [] w) hTC hTD⟩
  by_cases hn0 : n = 0
  · have hn0' : ¬ (0 < n) := by omega
    clear hVRlt
    go_enter Try.func11, Try.ntmps11
    go_upto_region 4 with (fail)
    generalize World.alloc (World.alloc w _) _ = wc at *
    obtain ⟨i, q, hb5, hii⟩ : ∃ i q, Blk wc (w.heap.size + 1) 33 #[.int .i64 i, .int .u64 q] ∧ inI i := ⟨ri, rq, hb5A, hri0⟩
    clear y1 y2 e3 g2 hb3 ha a0 a1 hn0 hn0' hb5A
    have z0 := (hb3A.cell 0).trans X0
    have hzz := hcA.size
    have hlt5 := hb5.lt
    obtain ⟨wA, hwA⟩ : ∃ W, W = wc := ⟨_, rfl⟩
    subst hwA
    have hgS := H.out.gS
    have hSl := H.out.g.lt.2
    have hTl := H.out.d.lt
    have nS0 : w.heap.size ∉ S := fun hk => by have := hSl _ hk; omega
    have nT0 : w.heap.size ∉ T := fun hk => by have := hTl _ hk; omega
    have hNB : wA.heap.size ∉ S := fun hk => by have := hSl _ hk; omega
    have hapT : ∀ k ∈ T, k ∉ S := fun k hk hkS => H.out.ap k hkS hk
    have HM := Lib.hid (fun W (hc : Chg [] w W) => Make_any (H.out.g.quiet hc) xg)
    have HD := Lib.hid (fun W (hc : Chg S w W) => rMake_any (H.out.d.chg hc hapT) HI.out xg hun)
    have HV := Lib.hid (HI.out.mkT xg hun)
    have hmin := HI.out.mk_in xg
    have hcD := hcA.drew
    generalize t.mkI xg = mI at *
    generalize t.mkQ xg = mQ at *
    generalize t.mkE xg = mE at *
    unfold Gr.val at HM HD
    have HRI2 := HRI
    have hin9 : ∀ y ∈ rs ++ [(mI, mQ)], inI y.1 := fun y hy => by rcases List.mem_append.1 hy with h9 | h9; exact HRI2.out y h9; simp at h9; subst h9; exact hmin
    have HIN := Lib.hid hin9
    clear hin9 hmin
    go_upto_region 6 with (fail)
    go_cut [6, 7] from 52 to 61 (fun s6 s7 wx => ∃ zb : Nat, s6 = ptr zb ∧ s7 = .int .i64 mE ∧ Hid (GTurns c S (t.mkT xg) w wx ∧ Blk wx gb 45 #[ptr c, ptr p, .slice AR n cR] ∧ Blk wx w.heap.size 39 X ∧ Blk wx zb 33 #[.int .i64 mI, .int .u64 mQ] ∧ w.heap.size + 1 < zb))
    case first =>
      refine wp_region_held_drew (S := fun w' => Blk w' gb 45 #[ptr c, ptr p, .slice AR n cR] ∧ Blk w' w.heap.size 39 X) (by kernel_rfl) ⟨(HB.out.chg hcA (by simp)).drew, hb3A.drew⟩ (fun hHeld => ?_)
      simp only [List.setIfInBounds_toArray, List.size_toArray, List.length_cons, List.length_nil, Array.replicate]
      refine wpAnyH_take (i := 0) (v := ?_) rfl (by kernel_rfl) (by kernel_rfl) (by kernel_rfl) (fun _ _ _ h => h) (Or.inl ⟨by rfl, ?_⟩) hHeld ?_
      rotate_left
      · (intro w' hSw; go_simp; try with_reducible rfl)
      simp only [Act.put, List.getElem_toArray, List.getElem_cons_succ, List.getElem_cons_zero, List.setIfInBounds_toArray, List.set_cons_zero, List.set_cons_succ]
      refine wpAnyH_take (i := 1) (v := ?_) rfl (by kernel_rfl) (by kernel_rfl) (by kernel_rfl) (fun _ _ _ h => h) (Or.inl ⟨by rfl, ?_⟩) hHeld ?_
      rotate_left
      · (intro w' hSw; go_simp; try with_reducible rfl)
      simp only [Act.put, List.getElem_toArray, List.getElem_cons_succ, List.getElem_cons_zero, List.setIfInBounds_toArray, List.set_cons_zero, List.set_cons_succ]
      refine wpAnyH_take (i := 2) (v := ?_) rfl (by kernel_rfl) (by kernel_rfl) (by kernel_rfl) (fun _ _ _ h => h) (Or.inl ⟨by rfl, ?_⟩) hHeld ?_
      rotate_left
      · (intro w' hSw; go_simp; try with_reducible rfl)
      simp only [Act.put, List.getElem_toArray, List.getElem_cons_succ, List.getElem_cons_zero, List.setIfInBounds_toArray, List.set_cons_zero, List.set_cons_succ]
      refine wpAnyH_take (i := 3) (v := ?_) rfl (by kernel_rfl) (by kernel_rfl) (by kernel_rfl) (fun _ _ _ h => h) (Or.inl ⟨by rfl, ?_⟩) hHeld ?_
      rotate_left
      · (intro w' hSw; have q0 := hSw.1.cell 0; simp only [List.getElem?_toArray, List.getElem?_cons_zero, List.getElem?_cons_succ] at *; go_simp; try with_reducible rfl)
      simp only [Act.put, List.getElem_toArray, List.getElem_cons_succ, List.getElem_cons_zero, List.setIfInBounds_toArray, List.set_cons_zero, List.set_cons_succ]
      refine wpAnyH_take (i := 4) (v := ?_) rfl (by kernel_rfl) (by kernel_rfl) (by kernel_rfl) (fun _ _ _ h => h) (Or.inl ⟨by rfl, ?_⟩) hHeld ?_
      rotate_left
      · (intro w' hSw; go_simp; try with_reducible rfl)
      simp only [Act.put, List.getElem_toArray, List.getElem_cons_succ, List.getElem_cons_zero, List.setIfInBounds_toArray, List.set_cons_zero, List.set_cons_succ]
      refine wpAnyH_take (i := 5) (v := .agg xg.arr) rfl (by kernel_rfl) (by kernel_rfl) (by kernel_rfl) (fun _ _ _ h => h) (Or.inl ⟨by rfl, fun w' hSw => sk_run_load T37 hGs (fun j v hv => (hSw.2.cell (4 + j)).trans (XG j v hv)) _ (by rfl) (by rfl)⟩) hHeld ?_
      simp only [Act.put, List.getElem_toArray, List.getElem_cons_succ, List.getElem_cons_zero, List.setIfInBounds_toArray, List.set_cons_zero, List.set_cons_succ]
      refine wpAnyH_ready (rs := [6, 10]) (by kernel_rfl) (by simp) ?_
      refine AllReadyH.cons rfl (fun K hK => ?_) ?_
      · go_simp
        refine (HM.out _ (hcD)).mono ?_
        rintro e w2 ⟨rfl, hT2⟩
        have hcs := hT2.chg
        have hz2 := hcs.size
        simp only [World.size_drew, World.size_alloc] at hz2
        have hT2 := GTurns.earlier (hcD) hT2
        refine hK _ _ ⟨hHeld.1.chg hcs hgS.1, hHeld.2.chg hcs nS0⟩ (fun hHeld => ?_)
        clear hK K
        simp only [Act.put, List.getElem_toArray, List.getElem_cons_succ, List.getElem_cons_zero, List.setIfInBounds_toArray, List.set_cons_zero, List.set_cons_succ]
        refine wpAnyH_take (i := 7) (v := ?_) rfl (by kernel_rfl) (by kernel_rfl) (by kernel_rfl) (fun _ _ _ h => h) (Or.inl ⟨by rfl, ?_⟩) hHeld ?_
        rotate_left
        · (intro w' hSw; go_simp; try with_reducible rfl)
        simp only [Act.put, List.getElem_toArray, List.getElem_cons_succ, List.getElem_cons_zero, List.setIfInBounds_toArray, List.set_cons_zero, List.set_cons_succ]
        refine wpAnyH_take (i := 8) (v := ?_) rfl (by kernel_rfl) (by kernel_rfl) (by kernel_rfl) (fun _ _ _ h => h) (Or.inl ⟨by rfl, ?_⟩) hHeld ?_
        rotate_left
        · (intro w' hSw; go_simp; try with_reducible rfl)
        simp only [Act.put, List.getElem_toArray, List.getElem_cons_succ, List.getElem_cons_zero, List.setIfInBounds_toArray, List.set_cons_zero, List.set_cons_succ]
        refine wpAnyH_take (i := 9) (v := ?_) rfl (by kernel_rfl) (by kernel_rfl) (by kernel_rfl) (fun _ _ _ h => h) (Or.inl ⟨by rfl, ?_⟩) hHeld ?_
        rotate_left
        · (intro w' hSw; go_simp; try with_reducible rfl)
        simp only [Act.put, List.getElem_toArray, List.getElem_cons_succ, List.getElem_cons_zero, List.setIfInBounds_toArray, List.set_cons_zero, List.set_cons_succ]
        refine wpAnyH_ready (rs := [10]) (by kernel_rfl) (by simp) ?_
        refine AllReadyH.cons rfl (fun K hK => ?_) AllReadyH.nil
        go_simp
        refine hK _ _ ⟨hHeld.1.alloc _, hHeld.2.alloc _⟩ (fun hHeld => ?_)
        clear hK K
        simp only [Act.put, List.getElem_toArray, List.getElem_cons_succ, List.getElem_cons_zero, List.setIfInBounds_toArray, List.set_cons_zero, List.set_cons_succ]
        refine wpAnyH_ready (rs := [11]) (by kernel_rfl) (by simp) ?_
        refine AllReadyH.cons rfl (fun K hK => ?_) AllReadyH.nil
        refine sk_step_store (A := #[.int .i64 mI, .int .u64 mQ]) (off := 0) T33 (Blk.new w2 33 zR) rfl (by simp) (by simp [Value.oneCell']) (by rfl) _ _ (by rfl) (by rfl) (by rfl) ?_
        intro w3 hS3
        rw [splice_all zR _ (by rfl)] at hS3
        refine hK _ _ ⟨hS3.far hHeld.1 (by first | omega | (simp; done) | (simp; omega)), hS3.far hHeld.2 (by first | omega | (simp; done) | (simp; omega))⟩ (fun hHeld => ?_)
        clear hK K
        simp only [Act.put, List.getElem_toArray, List.getElem_cons_succ, List.getElem_cons_zero, List.setIfInBounds_toArray, List.set_cons_zero, List.set_cons_succ]
        refine wpAnyH_take (i := 12) (v := ?_) rfl (by kernel_rfl) (by kernel_rfl) (by kernel_rfl) (fun _ _ _ h => h) (Or.inl ⟨by rfl, ?_⟩) hHeld ?_
        rotate_left
        · (intro w' hSw; go_simp; try with_reducible rfl)
        simp only [Act.put, List.getElem_toArray, List.getElem_cons_succ, List.getElem_cons_zero, List.setIfInBounds_toArray, List.set_cons_zero, List.set_cons_succ]
        refine wpAnyH_done (by kernel_rfl) ?_ _
        have hT4 := (hT2.later ((Chg.refl [] w2).alloc _)).box (Blk.new w2 33 zR) (by first | omega | (simp; done) | (simp; omega)) hS3.chg
        go_wp2
        go_meet
        case rel => exact ⟨_, rfl, rfl, Lib.hid ⟨hT4, hHeld.1, hHeld.2, hS3.blk, (by first | omega | (simp; done) | (simp; omega))⟩⟩
      refine AllReadyH.cons rfl (fun K hK => ?_) AllReadyH.nil
      go_simp
      refine hK _ _ ⟨hHeld.1.alloc _, hHeld.2.alloc _⟩ (fun hHeld => ?_)
      clear hK K
      simp only [Act.put, List.getElem_toArray, List.getElem_cons_succ, List.getElem_cons_zero, List.setIfInBounds_toArray, List.set_cons_zero, List.set_cons_succ]
      refine wpAnyH_ready (rs := [6]) (by kernel_rfl) (by simp) ?_
      refine AllReadyH.cons rfl (fun K hK => ?_) AllReadyH.nil
      go_simp
      refine (HM.out _ (hcD.alloc _)).mono ?_
      rintro e w2 ⟨rfl, hT2⟩
      have hcs := hT2.chg
      have hz2 := hcs.size
      simp only [World.size_drew, World.size_alloc] at hz2
      have hT2 := GTurns.earlier (hcD.alloc _) hT2
      refine hK _ _ ⟨hHeld.1.chg hcs hgS.1, hHeld.2.chg hcs nS0⟩ (fun hHeld => ?_)
      clear hK K
      simp only [Act.put, List.getElem_toArray, List.getElem_cons_succ, List.getElem_cons_zero, List.setIfInBounds_toArray, List.set_cons_zero, List.set_cons_succ]
      refine wpAnyH_take (i := 7) (v := ?_) rfl (by kernel_rfl) (by kernel_rfl) (by kernel_rfl) (fun _ _ _ h => h) (Or.inl ⟨by rfl, ?_⟩) hHeld ?_
      rotate_left
      · (intro w' hSw; go_simp; try with_reducible rfl)
      simp only [Act.put, List.getElem_toArray, List.getElem_cons_succ, List.getElem_cons_zero, List.setIfInBounds_toArray, List.set_cons_zero, List.set_cons_succ]
      refine wpAnyH_take (i := 8) (v := ?_) rfl (by kernel_rfl) (by kernel_rfl) (by kernel_rfl) (fun _ _ _ h => h) (Or.inl ⟨by rfl, ?_⟩) hHeld ?_
      rotate_left
      · (intro w' hSw; go_simp; try with_reducible rfl)
      simp only [Act.put, List.getElem_toArray, List.getElem_cons_succ, List.getElem_cons_zero, List.setIfInBounds_toArray, List.set_cons_zero, List.set_cons_succ]
      refine wpAnyH_take (i := 9) (v := ?_) rfl (by kernel_rfl) (by kernel_rfl) (by kernel_rfl) (fun _ _ _ h => h) (Or.inl ⟨by rfl, ?_⟩) hHeld ?_
      rotate_left
      · (intro w' hSw; go_simp; try with_reducible rfl)
      simp only [Act.put, List.getElem_toArray, List.getElem_cons_succ, List.getElem_cons_zero, List.setIfInBounds_toArray, List.set_cons_zero, List.set_cons_succ]
      refine wpAnyH_ready (rs := [11]) (by kernel_rfl) (by simp) ?_
      refine AllReadyH.cons rfl (fun K hK => ?_) AllReadyH.nil
      refine sk_step_store (A := #[.int .i64 mI, .int .u64 mQ]) (off := 0) T33 ((Blk.new wA.drew 33 zR).chg hcs hNB) rfl (by simp) (by simp [Value.oneCell']) (by rfl) _ _ (by rfl) (by rfl) (by rfl) ?_
      intro w3 hS3
      rw [splice_all zR _ (by rfl)] at hS3
      refine hK _ _ ⟨hS3.far hHeld.1 (by first | omega | (simp; done) | (simp; omega)), hS3.far hHeld.2 (by first | omega | (simp; done) | (simp; omega))⟩ (fun hHeld => ?_)
      clear hK K
      simp only [Act.put, List.getElem_toArray, List.getElem_cons_succ, List.getElem_cons_zero, List.setIfInBounds_toArray, List.set_cons_zero, List.set_cons_succ]
      refine wpAnyH_take (i := 12) (v := ?_) rfl (by kernel_rfl) (by kernel_rfl) (by kernel_rfl) (fun _ _ _ h => h) (Or.inl ⟨by rfl, ?_⟩) hHeld ?_
      rotate_left
      · (intro w' hSw; go_simp; try with_reducible rfl)
      simp only [Act.put, List.getElem_toArray, List.getElem_cons_succ, List.getElem_cons_zero, List.setIfInBounds_toArray, List.set_cons_zero, List.set_cons_succ]
      refine wpAnyH_done (by kernel_rfl) ?_ _
      have hT4 := (hT2).box ((Blk.new wA.drew 33 zR).chg hcs hNB) (by first | omega | (simp; done) | (simp; omega)) hS3.chg
      go_wp2
      go_meet
      case rel => exact ⟨_, rfl, rfl, Lib.hid ⟨hT4, hHeld.1, hHeld.2, hS3.blk, (by first | omega | (simp; done) | (simp; omega))⟩⟩
    case rest =>
      obtain ⟨zb, rfl, rfl, hq⟩ := hcut
      obtain ⟨hTC, hgbB, hb3B, hb6B, hzb⟩ := hq.out
      obtain ⟨wB, hwB⟩ : ∃ W, W = wc := ⟨_, rfl⟩
      subst hwB
      have hcB := hTC.chg
      have hzB := hcB.size
      have hltB := hb6B.lt
      have nT1 : zb ∉ T := fun hk => by have := hTl _ hk; omega
      clear hNB
      have hNB : wB.heap.size ∉ T := fun hk => by have := hTl _ hk; omega
      clear hq hcA hcD hb3A hb5 hlt5 hzz z0 HM nS0
      go_upto_region 7 with (fail)
      go_cut [8, 9] from 62 to 71 (fun s8 s9 wx => ∃ zd : Nat, s8 = ptr zd ∧ s9 = .int .i64 mE ∧ Hid (DTurns p T (docT (t.mkT xg)) wB wx ∧ Blk wx gb 45 #[ptr c, ptr p, .slice AR n cR] ∧ Blk wx zb 33 #[.int .i64 mI, .int .u64 mQ] ∧ Blk wx zd 33 #[.int .i64 mI, .int .u64 mQ]))
      case first =>
        refine wp_region_held_drew (S := fun w' => Blk w' gb 45 #[ptr c, ptr p, .slice AR n cR] ∧ Blk w' w.heap.size 39 X ∧ Blk w' zb 33 #[.int .i64 mI, .int .u64 mQ]) (by kernel_rfl) ⟨hgbB.drew, hb3B.drew, hb6B.drew⟩ (fun hHeld => ?_)
        simp only [List.setIfInBounds_toArray, List.size_toArray, List.length_cons, List.length_nil, Array.replicate]
        refine wpAnyH_take (i := 0) (v := ?_) rfl (by kernel_rfl) (by kernel_rfl) (by kernel_rfl) (fun _ _ _ h => h) (Or.inl ⟨by rfl, ?_⟩) hHeld ?_
        rotate_left
        · (intro w' hSw; go_simp; try with_reducible rfl)
        simp only [Act.put, List.getElem_toArray, List.getElem_cons_succ, List.getElem_cons_zero, List.setIfInBounds_toArray, List.set_cons_zero, List.set_cons_succ]
        refine wpAnyH_take (i := 1) (v := ?_) rfl (by kernel_rfl) (by kernel_rfl) (by kernel_rfl) (fun _ _ _ h => h) (Or.inl ⟨by rfl, ?_⟩) hHeld ?_
        rotate_left
        · (intro w' hSw; go_simp; try with_reducible rfl)
        simp only [Act.put, List.getElem_toArray, List.getElem_cons_succ, List.getElem_cons_zero, List.setIfInBounds_toArray, List.set_cons_zero, List.set_cons_succ]
        refine wpAnyH_take (i := 2) (v := ?_) rfl (by kernel_rfl) (by kernel_rfl) (by kernel_rfl) (fun _ _ _ h => h) (Or.inl ⟨by rfl, ?_⟩) hHeld ?_
        rotate_left
        · (intro w' hSw; go_simp; try with_reducible rfl)
        simp only [Act.put, List.getElem_toArray, List.getElem_cons_succ, List.getElem_cons_zero, List.setIfInBounds_toArray, List.set_cons_zero, List.set_cons_succ]
        refine wpAnyH_take (i := 3) (v := ?_) rfl (by kernel_rfl) (by kernel_rfl) (by kernel_rfl) (fun _ _ _ h => h) (Or.inl ⟨by rfl, ?_⟩) hHeld ?_
        rotate_left
        · (intro w' hSw; have q0 := hSw.1.cell 1; simp only [List.getElem?_toArray, List.getElem?_cons_zero, List.getElem?_cons_succ] at *; go_simp; try with_reducible rfl)
        simp only [Act.put, List.getElem_toArray, List.getElem_cons_succ, List.getElem_cons_zero, List.setIfInBounds_toArray, List.set_cons_zero, List.set_cons_succ]
        refine wpAnyH_take (i := 4) (v := ?_) rfl (by kernel_rfl) (by kernel_rfl) (by kernel_rfl) (fun _ _ _ h => h) (Or.inl ⟨by rfl, ?_⟩) hHeld ?_
        rotate_left
        · (intro w' hSw; go_simp; try with_reducible rfl)
        simp only [Act.put, List.getElem_toArray, List.getElem_cons_succ, List.getElem_cons_zero, List.setIfInBounds_toArray, List.set_cons_zero, List.set_cons_succ]
        refine wpAnyH_take (i := 5) (v := .agg xg.arr) rfl (by kernel_rfl) (by kernel_rfl) (by kernel_rfl) (fun _ _ _ h => h) (Or.inl ⟨by rfl, fun w' hSw => sk_run_load T37 hGs (fun j v hv => (hSw.2.1.cell (4 + j)).trans (XG j v hv)) _ (by rfl) (by rfl)⟩) hHeld ?_
        simp only [Act.put, List.getElem_toArray, List.getElem_cons_succ, List.getElem_cons_zero, List.setIfInBounds_toArray, List.set_cons_zero, List.set_cons_succ]
        refine wpAnyH_ready (rs := [6, 10]) (by kernel_rfl) (by simp) ?_
        refine AllReadyH.cons rfl (fun K hK => ?_) ?_
        · go_simp
          refine (HD.out _ (hcB.drew)).mono ?_
          rintro e w2 ⟨rfl, hT2⟩
          have hcs := hT2.chg
          have hz2 := hcs.size
          simp only [World.size_drew, World.size_alloc] at hz2
          have hT2 := DTurns.earlier ((Chg.refl [] wB).drew) hT2
          refine hK _ _ ⟨hHeld.1.chg hcs hgS.2.2.1, hHeld.2.1.chg hcs nT0, hHeld.2.2.chg hcs nT1⟩ (fun hHeld => ?_)
          clear hK K
          simp only [Act.put, List.getElem_toArray, List.getElem_cons_succ, List.getElem_cons_zero, List.setIfInBounds_toArray, List.set_cons_zero, List.set_cons_succ]
          refine wpAnyH_take (i := 7) (v := ?_) rfl (by kernel_rfl) (by kernel_rfl) (by kernel_rfl) (fun _ _ _ h => h) (Or.inl ⟨by rfl, ?_⟩) hHeld ?_
          rotate_left
          · (intro w' hSw; go_simp; try with_reducible rfl)
          simp only [Act.put, List.getElem_toArray, List.getElem_cons_succ, List.getElem_cons_zero, List.setIfInBounds_toArray, List.set_cons_zero, List.set_cons_succ]
          refine wpAnyH_take (i := 8) (v := ?_) rfl (by kernel_rfl) (by kernel_rfl) (by kernel_rfl) (fun _ _ _ h => h) (Or.inl ⟨by rfl, ?_⟩) hHeld ?_
          rotate_left
          · (intro w' hSw; go_simp; try with_reducible rfl)
          simp only [Act.put, List.getElem_toArray, List.getElem_cons_succ, List.getElem_cons_zero, List.setIfInBounds_toArray, List.set_cons_zero, List.set_cons_succ]
          refine wpAnyH_take (i := 9) (v := ?_) rfl (by kernel_rfl) (by kernel_rfl) (by kernel_rfl) (fun _ _ _ h => h) (Or.inl ⟨by rfl, ?_⟩) hHeld ?_
          rotate_left
          · (intro w' hSw; go_simp; try with_reducible rfl)
          simp only [Act.put, List.getElem_toArray, List.getElem_cons_succ, List.getElem_cons_zero, List.setIfInBounds_toArray, List.set_cons_zero, List.set_cons_succ]
          refine wpAnyH_ready (rs := [10]) (by kernel_rfl) (by simp) ?_
          refine AllReadyH.cons rfl (fun K hK => ?_) AllReadyH.nil
          go_simp
          refine hK _ _ ⟨hHeld.1.alloc _, hHeld.2.1.alloc _, hHeld.2.2.alloc _⟩ (fun hHeld => ?_)
          clear hK K
          simp only [Act.put, List.getElem_toArray, List.getElem_cons_succ, List.getElem_cons_zero, List.setIfInBounds_toArray, List.set_cons_zero, List.set_cons_succ]
          refine wpAnyH_ready (rs := [11]) (by kernel_rfl) (by simp) ?_
          refine AllReadyH.cons rfl (fun K hK => ?_) AllReadyH.nil
          refine sk_step_store (A := #[.int .i64 mI, .int .u64 mQ]) (off := 0) T33 (Blk.new w2 33 zR) rfl (by simp) (by simp [Value.oneCell']) (by rfl) _ _ (by rfl) (by rfl) (by rfl) ?_
          intro w3 hS3
          rw [splice_all zR _ (by rfl)] at hS3
          refine hK _ _ ⟨hS3.far hHeld.1 (by first | omega | (simp; done) | (simp; omega)), hS3.far hHeld.2.1 (by first | omega | (simp; done) | (simp; omega)), hS3.far hHeld.2.2 (by first | omega | (simp; done) | (simp; omega))⟩ (fun hHeld => ?_)
          clear hK K
          simp only [Act.put, List.getElem_toArray, List.getElem_cons_succ, List.getElem_cons_zero, List.setIfInBounds_toArray, List.set_cons_zero, List.set_cons_succ]
          refine wpAnyH_take (i := 12) (v := ?_) rfl (by kernel_rfl) (by kernel_rfl) (by kernel_rfl) (fun _ _ _ h => h) (Or.inl ⟨by rfl, ?_⟩) hHeld ?_
          rotate_left
          · (intro w' hSw; go_simp; try with_reducible rfl)
          simp only [Act.put, List.getElem_toArray, List.getElem_cons_succ, List.getElem_cons_zero, List.setIfInBounds_toArray, List.set_cons_zero, List.set_cons_succ]
          refine wpAnyH_done (by kernel_rfl) ?_ _
          have hT4 := (hT2.later ((Chg.refl [] w2).alloc _)).box (Blk.new w2 33 zR) (by first | omega | (simp; done) | (simp; omega)) hS3.chg
          go_wp2
          go_meet
          case rel => exact ⟨_, rfl, rfl, Lib.hid ⟨hT4, hHeld.1, hHeld.2.2, hS3.blk⟩⟩
        refine AllReadyH.cons rfl (fun K hK => ?_) AllReadyH.nil
        go_simp
        refine hK _ _ ⟨hHeld.1.alloc _, hHeld.2.1.alloc _, hHeld.2.2.alloc _⟩ (fun hHeld => ?_)
        clear hK K
        simp only [Act.put, List.getElem_toArray, List.getElem_cons_succ, List.getElem_cons_zero, List.setIfInBounds_toArray, List.set_cons_zero, List.set_cons_succ]
        refine wpAnyH_ready (rs := [6]) (by kernel_rfl) (by simp) ?_
        refine AllReadyH.cons rfl (fun K hK => ?_) AllReadyH.nil
        go_simp
        refine (HD.out _ (hcB.drew.alloc _)).mono ?_
        rintro e w2 ⟨rfl, hT2⟩
        have hcs := hT2.chg
        have hz2 := hcs.size
        simp only [World.size_drew, World.size_alloc] at hz2
        have hT2 := DTurns.earlier ((Chg.refl [] wB).drew.alloc _) hT2
        refine hK _ _ ⟨hHeld.1.chg hcs hgS.2.2.1, hHeld.2.1.chg hcs nT0, hHeld.2.2.chg hcs nT1⟩ (fun hHeld => ?_)
        clear hK K
        simp only [Act.put, List.getElem_toArray, List.getElem_cons_succ, List.getElem_cons_zero, List.setIfInBounds_toArray, List.set_cons_zero, List.set_cons_succ]
        refine wpAnyH_take (i := 7) (v := ?_) rfl (by kernel_rfl) (by kernel_rfl) (by kernel_rfl) (fun _ _ _ h => h) (Or.inl ⟨by rfl, ?_⟩) hHeld ?_
        rotate_left
        · (intro w' hSw; go_simp; try with_reducible rfl)
        simp only [Act.put, List.getElem_toArray, List.getElem_cons_succ, List.getElem_cons_zero, List.setIfInBounds_toArray, List.set_cons_zero, List.set_cons_succ]
        refine wpAnyH_take (i := 8) (v := ?_) rfl (by kernel_rfl) (by kernel_rfl) (by kernel_rfl) (fun _ _ _ h => h) (Or.inl ⟨by rfl, ?_⟩) hHeld ?_
        rotate_left
        · (intro w' hSw; go_simp; try with_reducible rfl)
        simp only [Act.put, List.getElem_toArray, List.getElem_cons_succ, List.getElem_cons_zero, List.setIfInBounds_toArray, List.set_cons_zero, List.set_cons_succ]
        refine wpAnyH_take (i := 9) (v := ?_) rfl (by kernel_rfl) (by kernel_rfl) (by kernel_rfl) (fun _ _ _ h => h) (Or.inl ⟨by rfl, ?_⟩) hHeld ?_
        rotate_left
        · (intro w' hSw; go_simp; try with_reducible rfl)
        simp only [Act.put, List.getElem_toArray, List.getElem_cons_succ, List.getElem_cons_zero, List.setIfInBounds_toArray, List.set_cons_zero, List.set_cons_succ]
        refine wpAnyH_ready (rs := [11]) (by kernel_rfl) (by simp) ?_
        refine AllReadyH.cons rfl (fun K hK => ?_) AllReadyH.nil
        refine sk_step_store (A := #[.int .i64 mI, .int .u64 mQ]) (off := 0) T33 ((Blk.new wB.drew 33 zR).chg hcs hNB) rfl (by simp) (by simp [Value.oneCell']) (by rfl) _ _ (by rfl) (by rfl) (by rfl) ?_
        intro w3 hS3
        rw [splice_all zR _ (by rfl)] at hS3
        refine hK _ _ ⟨hS3.far hHeld.1 (by first | omega | (simp; done) | (simp; omega)), hS3.far hHeld.2.1 (by first | omega | (simp; done) | (simp; omega)), hS3.far hHeld.2.2 (by first | omega | (simp; done) | (simp; omega))⟩ (fun hHeld => ?_)
        clear hK K
        simp only [Act.put, List.getElem_toArray, List.getElem_cons_succ, List.getElem_cons_zero, List.setIfInBounds_toArray, List.set_cons_zero, List.set_cons_succ]
        refine wpAnyH_take (i := 12) (v := ?_) rfl (by kernel_rfl) (by kernel_rfl) (by kernel_rfl) (fun _ _ _ h => h) (Or.inl ⟨by rfl, ?_⟩) hHeld ?_
        rotate_left
        · (intro w' hSw; go_simp; try with_reducible rfl)
        simp only [Act.put, List.getElem_toArray, List.getElem_cons_succ, List.getElem_cons_zero, List.setIfInBounds_toArray, List.set_cons_zero, List.set_cons_succ]
        refine wpAnyH_done (by kernel_rfl) ?_ _
        have hT4 := (hT2).box ((Blk.new wB.drew 33 zR).chg hcs hNB) (by first | omega | (simp; done) | (simp; omega)) hS3.chg
        go_wp2
        go_meet
        case rel => exact ⟨_, rfl, rfl, Lib.hid ⟨hT4, hHeld.1, hHeld.2.2, hS3.blk⟩⟩
      case rest =>
        obtain ⟨zd, rfl, rfl, hq⟩ := hcut
        obtain ⟨hTD, hgbD, hb6D, hb8D⟩ := hq.out
        obtain ⟨wD, hwD⟩ : ∃ W, W = wc := ⟨_, rfl⟩
        subst hwD
        clear hq hgbB hb3B hb6B HD hNB
        have hnr := neqRef mI mQ
        by_cases h0 : mE = 0
        · subst h0
          obtain ⟨S9, T9, g9, _, _⟩ := GmTurns.both_in H.out (Chg.refl [] w) hTC hTD
          have HR9 : Hid (Row wD 33 2 (.slice AR n cR) n (prCells rs)) := Lib.hid (by have := g9.r; rw [HVR.out, ← Hn.out] at this; exact this)
          clear g9
          obtain ⟨in0, hi0, hq0, hq1, hq2⟩ := info_parts Try.info_R
          have hgV : (Value.slice AR n cR).ownBlock ≠ some gb := fun e => hgS.2.2.2 (by rw [HVR.out, ← Hn.out]; exact row_mem e)
          have hzV : (Value.slice AR n cR).ownBlock ≠ some zb := fun e => by have := H.out.r.lt zb (by rw [HVR.out, ← Hn.out]; exact row_mem e); omega
          have hzgb : zb ≠ (⟨gb, 2, none⟩ : Addr).block := by simp; omega
          have hin9 := HIN.out
          go_upto_region 11 with (first | ((with_reducible refine wpl_loadE T33 hb6D rfl ?_ ?_ ?_); (· rfl); (· exact ⟨_, rfl, rfl⟩)) | ((with_reducible refine wpl_loadE T33 hb8D rfl ?_ ?_ ?_); (· rfl); (· exact ⟨_, rfl, rfl⟩)))
          refine wp_region_held_drew (S := fun w' => Blk w' zb 33 #[.int .i64 mI, .int .u64 mQ]) (by kernel_rfl) hb6D.drew (fun hHeld => ?_)
          simp only [List.setIfInBounds_toArray, List.size_toArray, List.length_cons, List.length_nil, Array.replicate]
          refine wpAnyH_take (i := 0) (v := ?_) rfl (by kernel_rfl) (by kernel_rfl) (by kernel_rfl) (fun _ _ _ h => h) (Or.inl ⟨by rfl, ?_⟩) hHeld ?_
          rotate_left
          · (intro w' hSw; go_simp; try with_reducible rfl)
          simp only [Act.put, List.getElem_toArray, List.getElem_cons_succ, List.getElem_cons_zero, List.setIfInBounds_toArray, List.set_cons_zero, List.set_cons_succ]
          refine wpAnyH_take (i := 1) (v := ?_) rfl (by kernel_rfl) (by kernel_rfl) (by kernel_rfl) (fun _ _ _ h => h) (Or.inl ⟨by rfl, ?_⟩) hHeld ?_
          rotate_left
          · (intro w' hSw; go_simp; try with_reducible rfl)
          simp only [Act.put, List.getElem_toArray, List.getElem_cons_succ, List.getElem_cons_zero, List.setIfInBounds_toArray, List.set_cons_zero, List.set_cons_succ]
          refine wpAnyH_take (i := 2) (v := ?_) rfl (by kernel_rfl) (by kernel_rfl) (by kernel_rfl) (fun _ _ _ h => h) (Or.inl ⟨by rfl, ?_⟩) hHeld ?_
          rotate_left
          · (intro w' hSw; go_simp; try with_reducible rfl)
          simp only [Act.put, List.getElem_toArray, List.getElem_cons_succ, List.getElem_cons_zero, List.setIfInBounds_toArray, List.set_cons_zero, List.set_cons_succ]
          refine wpAnyH_take (i := 3) (v := ?_) rfl (by kernel_rfl) (by kernel_rfl) (by kernel_rfl) (fun _ _ _ h => h) (Or.inl ⟨by rfl, ?_⟩) hHeld ?_
          rotate_left
          · (intro w' hSw; go_simp; try with_reducible rfl)
          simp only [Act.put, List.getElem_toArray, List.getElem_cons_succ, List.getElem_cons_zero, List.setIfInBounds_toArray, List.set_cons_zero, List.set_cons_succ]
          refine wpAnyH_take (i := 5) (v := .agg #[.int .i64 mI, .int .u64 mQ]) rfl (by kernel_rfl) (by kernel_rfl) (by kernel_rfl) (fun _ _ _ h => h) (Or.inl ⟨by rfl, fun w' hSw => sk_run_load (off := 0) T33 (by rfl) (blk_cells hSw) _ (by rfl) (by rfl)⟩) hHeld ?_
          simp only [Act.put, List.getElem_toArray, List.getElem_cons_succ, List.getElem_cons_zero, List.setIfInBounds_toArray, List.set_cons_zero, List.set_cons_succ]
          refine wpAnyH_ready (rs := [4, 6]) (by kernel_rfl) (by simp) ?_
          refine AllReadyH.cons rfl (fun K hK => ?_) ?_
          · have y0 := hgbD.drew.cell 2
            simp only [List.getElem?_toArray, List.getElem?_cons_zero, List.getElem?_cons_succ] at y0
            go_simp
            refine hK _ _ hHeld (fun hHeld => ?_)
            clear hK K
            simp only [Act.put, List.getElem_toArray, List.getElem_cons_succ, List.getElem_cons_zero, List.setIfInBounds_toArray, List.set_cons_zero, List.set_cons_succ]
            refine wpAnyH_ready (rs := [6]) (by kernel_rfl) (by simp) ?_
            refine AllReadyH.cons rfl (fun K hK => ?_) AllReadyH.nil
            go_simp
            refine hK _ _ (hHeld.alloc _) (fun hHeld => ?_)
            clear hK K
            simp only [Act.put, List.getElem_toArray, List.getElem_cons_succ, List.getElem_cons_zero, List.setIfInBounds_toArray, List.set_cons_zero, List.set_cons_succ]
            refine wpAnyH_ready (rs := [7]) (by kernel_rfl) (by simp) ?_
            refine AllReadyH.cons rfl (fun K hK => ?_) AllReadyH.nil
            refine step_append_row (wD.drew.alloc (.cells #[.int .i64 mI, .int .u64 mQ] 33)) rfl _ _ 43 rfl 33 in0 _ 2 16 Try.underlying43 hi0 hq0 hq1 hq2 rfl (.slice AR n cR) n (prCells rs) (by rfl) (HR9.out.drew.alloc _) ⟨wD.drew.heap.size, 0, none⟩ 1 1 [.int .i64 mI, .int .u64 mQ] (by rfl) (by rfl) (World.news_of_block (cs := #[.int .i64 mI, .int .u64 mQ]) (t := 33) (fr := (0, 0)) (heap_alloc_new wD.drew _)) (by simp [Value.oneCell']) (by omega) (by unfold maxLen; omega) (by omega) _ rfl ?_
            intro gg cap w9 hr9 hg9 hat9 hlt9
            have hgb9 := (hgbD.drew.alloc (.cells #[.int .i64 mI, .int .u64 mQ] 33)).grown hg9 hgV
            refine hK _ _ (hHeld.grown hg9 hzV) (fun hHeld => ?_)
            clear hK K
            simp only [Act.put, List.getElem_toArray, List.getElem_cons_succ, List.getElem_cons_zero, List.setIfInBounds_toArray, List.set_cons_zero, List.set_cons_succ]
            refine wpAnyH_take (i := 8) (v := ?_) rfl (by kernel_rfl) (by kernel_rfl) (by kernel_rfl) (fun _ _ _ h => h) (Or.inl ⟨by rfl, ?_⟩) hHeld ?_
            rotate_left
            · (intro w' hSw; go_simp; try with_reducible rfl)
            simp only [Act.put, List.getElem_toArray, List.getElem_cons_succ, List.getElem_cons_zero, List.setIfInBounds_toArray, List.set_cons_zero, List.set_cons_succ]
            refine wpAnyH_take (i := 9) (v := ?_) rfl (by kernel_rfl) (by kernel_rfl) (by kernel_rfl) (fun _ _ _ h => h) (Or.inl ⟨by rfl, ?_⟩) hHeld ?_
            rotate_left
            · (intro w' hSw; go_simp; try with_reducible rfl)
            simp only [Act.put, List.getElem_toArray, List.getElem_cons_succ, List.getElem_cons_zero, List.setIfInBounds_toArray, List.set_cons_zero, List.set_cons_succ]
            refine wpAnyH_ready (rs := [10]) (by kernel_rfl) (by simp) ?_
            refine AllReadyH.cons rfl (fun K hK => ?_) AllReadyH.nil
            have y2 := hgb9.cell 2
            have y3 := hgb9.frozen 2
            simp only [List.getElem?_toArray, List.getElem?_cons_zero, List.getElem?_cons_succ] at y2
            go_simp
            refine hK _ _ (hHeld.far hzgb _) (fun hHeld => ?_)
            clear hK K
            simp only [Act.put, List.getElem_toArray, List.getElem_cons_succ, List.getElem_cons_zero, List.setIfInBounds_toArray, List.set_cons_zero, List.set_cons_succ]
            refine wpAnyH_done (by kernel_rfl) ?_ _
            have HG := Lib.hid (GmTurns.app H.out (Chg.refl [] w) hTC hTD (((Chg.refl [] wD).drew).alloc (.cells #[.int .i64 mI, .int .u64 mQ] 33)) hr9 Hn.out (by rw [HVR.out, ← Hn.out]; exact hg9) (by rw [HVR.out, ← Hn.out]; exact hat9))
            clear hHeld
            go_wp2
            go_ret
            exact ⟨by simp, _, _, HV.out.mono (by omega), by simp, hin9, HG.out⟩
          refine AllReadyH.cons rfl (fun K hK => ?_) AllReadyH.nil
          go_simp
          refine hK _ _ (hHeld.alloc _) (fun hHeld => ?_)
          clear hK K
          simp only [Act.put, List.getElem_toArray, List.getElem_cons_succ, List.getElem_cons_zero, List.setIfInBounds_toArray, List.set_cons_zero, List.set_cons_succ]
          refine wpAnyH_ready (rs := [4]) (by kernel_rfl) (by simp) ?_
          refine AllReadyH.cons rfl (fun K hK => ?_) AllReadyH.nil
          have y0 := (hgbD.alloc (.cells #[.int .i64 mI, .int .u64 mQ] 33)).drew.cell 2
          simp only [List.getElem?_toArray, List.getElem?_cons_zero, List.getElem?_cons_succ] at y0
          go_simp
          refine hK _ _ (hHeld) (fun hHeld => ?_)
          clear hK K
          simp only [Act.put, List.getElem_toArray, List.getElem_cons_succ, List.getElem_cons_zero, List.setIfInBounds_toArray, List.set_cons_zero, List.set_cons_succ]
          refine wpAnyH_ready (rs := [7]) (by kernel_rfl) (by simp) ?_
          refine AllReadyH.cons rfl (fun K hK => ?_) AllReadyH.nil
          refine step_append_row (wD.drew.alloc (.cells #[.int .i64 mI, .int .u64 mQ] 33)) rfl _ _ 43 rfl 33 in0 _ 2 16 Try.underlying43 hi0 hq0 hq1 hq2 rfl (.slice AR n cR) n (prCells rs) (by rfl) (HR9.out.drew.alloc _) ⟨wD.drew.heap.size, 0, none⟩ 1 1 [.int .i64 mI, .int .u64 mQ] (by rfl) (by rfl) (World.news_of_block (cs := #[.int .i64 mI, .int .u64 mQ]) (t := 33) (fr := (0, 0)) (heap_alloc_new wD.drew _)) (by simp [Value.oneCell']) (by omega) (by unfold maxLen; omega) (by omega) _ rfl ?_
          intro gg cap w9 hr9 hg9 hat9 hlt9
          have hgb9 := (hgbD.drew.alloc (.cells #[.int .i64 mI, .int .u64 mQ] 33)).grown hg9 hgV
          refine hK _ _ (hHeld.grown hg9 hzV) (fun hHeld => ?_)
          clear hK K
          simp only [Act.put, List.getElem_toArray, List.getElem_cons_succ, List.getElem_cons_zero, List.setIfInBounds_toArray, List.set_cons_zero, List.set_cons_succ]
          refine wpAnyH_take (i := 8) (v := ?_) rfl (by kernel_rfl) (by kernel_rfl) (by kernel_rfl) (fun _ _ _ h => h) (Or.inl ⟨by rfl, ?_⟩) hHeld ?_
          rotate_left
          · (intro w' hSw; go_simp; try with_reducible rfl)
          simp only [Act.put, List.getElem_toArray, List.getElem_cons_succ, List.getElem_cons_zero, List.setIfInBounds_toArray, List.set_cons_zero, List.set_cons_succ]
          refine wpAnyH_take (i := 9) (v := ?_) rfl (by kernel_rfl) (by kernel_rfl) (by kernel_rfl) (fun _ _ _ h => h) (Or.inl ⟨by rfl, ?_⟩) hHeld ?_
          rotate_left
          · (intro w' hSw; go_simp; try with_reducible rfl)
          simp only [Act.put, List.getElem_toArray, List.getElem_cons_succ, List.getElem_cons_zero, List.setIfInBounds_toArray, List.set_cons_zero, List.set_cons_succ]
          refine wpAnyH_ready (rs := [10]) (by kernel_rfl) (by simp) ?_
          refine AllReadyH.cons rfl (fun K hK => ?_) AllReadyH.nil
          have y2 := hgb9.cell 2
          have y3 := hgb9.frozen 2
          simp only [List.getElem?_toArray, List.getElem?_cons_zero, List.getElem?_cons_succ] at y2
          go_simp
          refine hK _ _ (hHeld.far hzgb _) (fun hHeld => ?_)
          clear hK K
          simp only [Act.put, List.getElem_toArray, List.getElem_cons_succ, List.getElem_cons_zero, List.setIfInBounds_toArray, List.set_cons_zero, List.set_cons_succ]
          refine wpAnyH_done (by kernel_rfl) ?_ _
          have HG := Lib.hid (GmTurns.app H.out (Chg.refl [] w) hTC hTD (((Chg.refl [] wD).drew).alloc (.cells #[.int .i64 mI, .int .u64 mQ] 33)) hr9 Hn.out (by rw [HVR.out, ← Hn.out]; exact hg9) (by rw [HVR.out, ← Hn.out]; exact hat9))
          clear hHeld
          go_wp2
          go_ret
          exact ⟨by simp, _, _, HV.out.mono (by omega), by simp, hin9, HG.out⟩
        · have d0 : (mE == 0) = false := by simp; exact h0
          go_wp2_with (first | ((with_reducible refine wpl_loadE T33 hb6D rfl ?_ ?_ ?_); (· rfl); (· exact ⟨_, rfl, rfl⟩)) | ((with_reducible refine wpl_loadE T33 hb8D rfl ?_ ?_ ?_); (· rfl); (· exact ⟨_, rfl, rfl⟩)))
          go_ret
          exact ⟨by simp, _, rs, HV.out.mono (by omega), by omega, HRI.out, GmTurns.both H.out (Chg.refl [] w) hTC hTD⟩
  obtain ⟨d, hd⟩ : ∃ d, d = (at_ - 1).tmod (n : Int) := ⟨_, rfl⟩
  have hdd := tmod_in (a := at_ - 1) (n := n) (by omega) (by omega)
  rw [← hd] at hdd
  obtain ⟨d0, d1⟩ := hdd
  obtain ⟨j, hj⟩ : ∃ j : Nat, (j : Int) = (n : Int) - 1 - d := ⟨((n : Int) - 1 - d).toNat, by omega⟩
  have hjn : j < rs.length := by rw [← Hn.out]; omega
  obtain ⟨y, hy⟩ : ∃ y, rs[j]? = some y := ⟨_, List.getElem?_eq_getElem hjn⟩
  have hyi : inI y.1 := HRI.out y (List.mem_of_getElem? hy)
  have HR0' := HR0.out
  rw [HVR.out] at HR0'
  obtain ⟨gr, cr, hv, _, _, hrc, _, hgr⟩ := HR0'.form (by omega)
  simp only [Value.slice.injEq] at hv
  obtain ⟨h90, h91, h92⟩ := hv
  obtain ⟨q0, q1⟩ := prCells_at hy
  have hcD := hcA.drew
  have r0 := (hcD.cell (p := ⟨gr, j * 2, none⟩) hgr (by simp)).trans (hrc _ _ q0)
  have r1 := (hcD.cell (p := ⟨gr, j * 2 + 1, none⟩) hgr (by simp)).trans (hrc _ _ q1)
  have g2D := (HB.out.chg hcD (by simp)).cell 2
  rw [h90] at g2D
  have hb5D := hb5A.drew
  have f0 := hb5D.frozen 0
  have f1 := hb5D.frozen 1
  have s0 := hb5D.cell 0
  have s1 := hb5D.cell 1
  have e3D := hb3A.drew.cell 3
  rw [X3] at e3D
  have w1 : IntKind.i64.wrap (at_ - 1) = at_ - 1 := IntWalk.i64_in _ (by omega)
  have w2 : IntKind.i64.wrap ((n : Int) - 1) = (n : Int) - 1 := IntWalk.i64_in _ (by omega)
  have w4 : IntKind.i64.wrap ((n : Int) - 1 - d) = (j : Nat) := by rw [← hj]; exact IntWalk.i64_in _ (by omega)
  have w5 : wrap64 ((n : Int) - 1 - d) = (j : Nat) := by rw [← hj]; exact IntWalk.wrap64_in _ (by omega)
  have w6 : wrap64 (at_ - 1) = at_ - 1 := IntWalk.wrap64_in _ (by omega)
  have w7 : IntKind.i64.wrap (j : Int) = (j : Nat) := IntWalk.i64_in _ (by omega)
  have j0 : (0 : Int) ≤ (j : Int) := by omega
  have j1 : (j : Int) < (n : Int) := by omega
  have hn1 : 0 < n := by omega
  have hn2 : ¬ ((n : Int) = 0) := by omega
  have hn3 : ((n : Int) == 0) = false := by simp; omega
  have hmod : (at_ - 1).tmod (n : Int) = d := hd.symm
  have hjs : (n : Int) - 1 - d = (j : Nat) := hj.symm
  clear hVRlt HR0' h90 h91 h92 hrc hy hjn hj q0 q1 hd
  go_enter Try.func11, Try.ntmps11
  go_upto_region 3 with (fail)
  have hb3D := hb3A.drew
  refine wp_region_still_tail 22 (by kernel_rfl) (by kernel_rfl) ?_
  simp only [List.take_succ_cons, List.take_zero, List.drop_succ_cons, List.drop_zero]
  (try change wpStill _ _ (World.drew _) _ _ _)
  generalize hwd : World.drew _ = wd at *
  have HWD := Lib.hid hwd
  clear hwd
  simp only [List.getElem?_toArray, List.getElem?_cons_zero, List.getElem?_cons_succ] at s0 s1 g2D
  (repeat still_step)
  refine wpStill_nil ?_
  (try change wpList _ _ _ _ _ (World.drew _))
  rw [HWD.out]
  clear HWD
  go_upto_region 4 with (fail)
  have hcC := (hcD.setCell (p := ⟨w.heap.size + 1, 0, none⟩) (.inr (by simp)) (.int .i64 y.1)).setCell (p := ⟨w.heap.size + 1, 1, none⟩) (.inr (by simp)) (.int .u64 y.2)
  have hb5C := (hb5D.set_ 0 (.int .i64 y.1)).set_ 1 (.int .u64 y.2)
  have hb3C := (hb3D.far (p := ⟨w.heap.size + 1, 0, none⟩) (by simp) (.int .i64 y.1)).far (p := ⟨w.heap.size + 1, 1, none⟩) (by simp) (.int .u64 y.2)
  clear hcA hb3A hb3D hb5A hcD r0 r1 g2D hb5D f0 f1 s0 s1 e3D w1 w2 w4 w5 w6 w7 j0 j1 hn1 hn2 hn3 hmod hjs y1 y2 e3 g2 hb3 ha a0 a1 hn0
  generalize World.setCell _ _ _ = wc at *
  have hcA := hcC
  have hb3A := hb3C
  clear hcC hb3C
  obtain ⟨i, q, hb5, hii⟩ : ∃ i q, Blk wc (w.heap.size + 1) 33 #[.int .i64 i, .int .u64 q] ∧ inI i := ⟨y.1, y.2, hb5C, hyi⟩
  clear hb5C hyi hgr
  have z0 := (hb3A.cell 0).trans X0
  have hzz := hcA.size
  have hlt5 := hb5.lt
  obtain ⟨wA, hwA⟩ : ∃ W, W = wc := ⟨_, rfl⟩
  subst hwA
  have hgS := H.out.gS
  have hSl := H.out.g.lt.2
  have hTl := H.out.d.lt
  have nS0 : w.heap.size ∉ S := fun hk => by have := hSl _ hk; omega
  have nT0 : w.heap.size ∉ T := fun hk => by have := hTl _ hk; omega
  have hNB : wA.heap.size ∉ S := fun hk => by have := hSl _ hk; omega
  have hapT : ∀ k ∈ T, k ∉ S := fun k hk hkS => H.out.ap k hkS hk
  have HM := Lib.hid (fun W (hc : Chg [] w W) => Make_any (H.out.g.quiet hc) xg)
  have HD := Lib.hid (fun W (hc : Chg S w W) => rMake_any (H.out.d.chg hc hapT) HI.out xg hun)
  have HV := Lib.hid (HI.out.mkT xg hun)
  have hmin := HI.out.mk_in xg
  have hcD := hcA.drew
  generalize t.mkI xg = mI at *
  generalize t.mkQ xg = mQ at *
  generalize t.mkE xg = mE at *
  unfold Gr.val at HM HD
  have HRI2 := HRI
  have hin9 : ∀ y ∈ rs ++ [(mI, mQ)], inI y.1 := fun y hy => by rcases List.mem_append.1 hy with h9 | h9; exact HRI2.out y h9; simp at h9; subst h9; exact hmin
  have HIN := Lib.hid hin9
  clear hin9 hmin
  go_upto_region 6 with (fail)
  go_cut [6, 7] from 52 to 61 (fun s6 s7 wx => ∃ zb : Nat, s6 = ptr zb ∧ s7 = .int .i64 mE ∧ Hid (GTurns c S (t.mkT xg) w wx ∧ Blk wx gb 45 #[ptr c, ptr p, .slice AR n cR] ∧ Blk wx w.heap.size 39 X ∧ Blk wx zb 33 #[.int .i64 mI, .int .u64 mQ] ∧ w.heap.size + 1 < zb))
  case first =>
    refine wp_region_held_drew (S := fun w' => Blk w' gb 45 #[ptr c, ptr p, .slice AR n cR] ∧ Blk w' w.heap.size 39 X) (by kernel_rfl) ⟨(HB.out.chg hcA (by simp)).drew, hb3A.drew⟩ (fun hHeld => ?_)
    simp only [List.setIfInBounds_toArray, List.size_toArray, List.length_cons, List.length_nil, Array.replicate]
    refine wpAnyH_take (i := 0) (v := ?_) rfl (by kernel_rfl) (by kernel_rfl) (by kernel_rfl) (fun _ _ _ h => h) (Or.inl ⟨by rfl, ?_⟩) hHeld ?_
    rotate_left
    · (intro w' hSw; go_simp; try with_reducible rfl)
    simp only [Act.put, List.getElem_toArray, List.getElem_cons_succ, List.getElem_cons_zero, List.setIfInBounds_toArray, List.set_cons_zero, List.set_cons_succ]
    refine wpAnyH_take (i := 1) (v := ?_) rfl (by kernel_rfl) (by kernel_rfl) (by kernel_rfl) (fun _ _ _ h => h) (Or.inl ⟨by rfl, ?_⟩) hHeld ?_
    rotate_left
    · (intro w' hSw; go_simp; try with_reducible rfl)
    simp only [Act.put, List.getElem_toArray, List.getElem_cons_succ, List.getElem_cons_zero, List.setIfInBounds_toArray, List.set_cons_zero, List.set_cons_succ]
    refine wpAnyH_take (i := 2) (v := ?_) rfl (by kernel_rfl) (by kernel_rfl) (by kernel_rfl) (fun _ _ _ h => h) (Or.inl ⟨by rfl, ?_⟩) hHeld ?_
    rotate_left
    · (intro w' hSw; go_simp; try with_reducible rfl)
    simp only [Act.put, List.getElem_toArray, List.getElem_cons_succ, List.getElem_cons_zero, List.setIfInBounds_toArray, List.set_cons_zero, List.set_cons_succ]
    refine wpAnyH_take (i := 3) (v := ?_) rfl (by kernel_rfl) (by kernel_rfl) (by kernel_rfl) (fun _ _ _ h => h) (Or.inl ⟨by rfl, ?_⟩) hHeld ?_
    rotate_left
    · (intro w' hSw; have q0 := hSw.1.cell 0; simp only [List.getElem?_toArray, List.getElem?_cons_zero, List.getElem?_cons_succ] at *; go_simp; try with_reducible rfl)
    simp only [Act.put, List.getElem_toArray, List.getElem_cons_succ, List.getElem_cons_zero, List.setIfInBounds_toArray, List.set_cons_zero, List.set_cons_succ]
    refine wpAnyH_take (i := 4) (v := ?_) rfl (by kernel_rfl) (by kernel_rfl) (by kernel_rfl) (fun _ _ _ h => h) (Or.inl ⟨by rfl, ?_⟩) hHeld ?_
    rotate_left
    · (intro w' hSw; go_simp; try with_reducible rfl)
    simp only [Act.put, List.getElem_toArray, List.getElem_cons_succ, List.getElem_cons_zero, List.setIfInBounds_toArray, List.set_cons_zero, List.set_cons_succ]
    refine wpAnyH_take (i := 5) (v := .agg xg.arr) rfl (by kernel_rfl) (by kernel_rfl) (by kernel_rfl) (fun _ _ _ h => h) (Or.inl ⟨by rfl, fun w' hSw => sk_run_load T37 hGs (fun j v hv => (hSw.2.cell (4 + j)).trans (XG j v hv)) _ (by rfl) (by rfl)⟩) hHeld ?_
    simp only [Act.put, List.getElem_toArray, List.getElem_cons_succ, List.getElem_cons_zero, List.setIfInBounds_toArray, List.set_cons_zero, List.set_cons_succ]
    refine wpAnyH_ready (rs := [6, 10]) (by kernel_rfl) (by simp) ?_
    refine AllReadyH.cons rfl (fun K hK => ?_) ?_
    · go_simp
      refine (HM.out _ (hcD)).mono ?_
      rintro e w2 ⟨rfl, hT2⟩
      have hcs := hT2.chg
      have hz2 := hcs.size
      simp only [World.size_drew, World.size_alloc] at hz2
      have hT2 := GTurns.earlier (hcD) hT2
      refine hK _ _ ⟨hHeld.1.chg hcs hgS.1, hHeld.2.chg hcs nS0⟩ (fun hHeld => ?_)
      clear hK K
      simp only [Act.put, List.getElem_toArray, List.getElem_cons_succ, List.getElem_cons_zero, List.setIfInBounds_toArray, List.set_cons_zero, List.set_cons_succ]
      refine wpAnyH_take (i := 7) (v := ?_) rfl (by kernel_rfl) (by kernel_rfl) (by kernel_rfl) (fun _ _ _ h => h) (Or.inl ⟨by rfl, ?_⟩) hHeld ?_
      rotate_left
      · (intro w' hSw; go_simp; try with_reducible rfl)
      simp only [Act.put, List.getElem_toArray, List.getElem_cons_succ, List.getElem_cons_zero, List.setIfInBounds_toArray, List.set_cons_zero, List.set_cons_succ]
      refine wpAnyH_take (i := 8) (v := ?_) rfl (by kernel_rfl) (by kernel_rfl) (by kernel_rfl) (fun _ _ _ h => h) (Or.inl ⟨by rfl, ?_⟩) hHeld ?_
      rotate_left
      · (intro w' hSw; go_simp; try with_reducible rfl)
      simp only [Act.put, List.getElem_toArray, List.getElem_cons_succ, List.getElem_cons_zero, List.setIfInBounds_toArray, List.set_cons_zero, List.set_cons_succ]
      refine wpAnyH_take (i := 9) (v := ?_) rfl (by kernel_rfl) (by kernel_rfl) (by kernel_rfl) (fun _ _ _ h => h) (Or.inl ⟨by rfl, ?_⟩) hHeld ?_
      rotate_left
      · (intro w' hSw; go_simp; try with_reducible rfl)
      simp only [Act.put, List.getElem_toArray, List.getElem_cons_succ, List.getElem_cons_zero, List.setIfInBounds_toArray, List.set_cons_zero, List.set_cons_succ]
      refine wpAnyH_ready (rs := [10]) (by kernel_rfl) (by simp) ?_
      refine AllReadyH.cons rfl (fun K hK => ?_) AllReadyH.nil
      go_simp
      refine hK _ _ ⟨hHeld.1.alloc _, hHeld.2.alloc _⟩ (fun hHeld => ?_)
      clear hK K
      simp only [Act.put, List.getElem_toArray, List.getElem_cons_succ, List.getElem_cons_zero, List.setIfInBounds_toArray, List.set_cons_zero, List.set_cons_succ]
      refine wpAnyH_ready (rs := [11]) (by kernel_rfl) (by simp) ?_
      refine AllReadyH.cons rfl (fun K hK => ?_) AllReadyH.nil
      refine sk_step_store (A := #[.int .i64 mI, .int .u64 mQ]) (off := 0) T33 (Blk.new w2 33 zR) rfl (by simp) (by simp [Value.oneCell']) (by rfl) _ _ (by rfl) (by rfl) (by rfl) ?_
      intro w3 hS3
      rw [splice_all zR _ (by rfl)] at hS3
      refine hK _ _ ⟨hS3.far hHeld.1 (by first | omega | (simp; done) | (simp; omega)), hS3.far hHeld.2 (by first | omega | (simp; done) | (simp; omega))⟩ (fun hHeld => ?_)
      clear hK K
      simp only [Act.put, List.getElem_toArray, List.getElem_cons_succ, List.getElem_cons_zero, List.setIfInBounds_toArray, List.set_cons_zero, List.set_cons_succ]
      refine wpAnyH_take (i := 12) (v := ?_) rfl (by kernel_rfl) (by kernel_rfl) (by kernel_rfl) (fun _ _ _ h => h) (Or.inl ⟨by rfl, ?_⟩) hHeld ?_
      rotate_left
      · (intro w' hSw; go_simp; try with_reducible rfl)
      simp only [Act.put, List.getElem_toArray, List.getElem_cons_succ, List.getElem_cons_zero, List.setIfInBounds_toArray, List.set_cons_zero, List.set_cons_succ]
      refine wpAnyH_done (by kernel_rfl) ?_ _
      have hT4 := (hT2.later ((Chg.refl [] w2).alloc _)).box (Blk.new w2 33 zR) (by first | omega | (simp; done) | (simp; omega)) hS3.chg
      go_wp2
      go_meet
      case rel => exact ⟨_, rfl, rfl, Lib.hid ⟨hT4, hHeld.1, hHeld.2, hS3.blk, (by first | omega | (simp; done) | (simp; omega))⟩⟩
    refine AllReadyH.cons rfl (fun K hK => ?_) AllReadyH.nil
    go_simp
    refine hK _ _ ⟨hHeld.1.alloc _, hHeld.2.alloc _⟩ (fun hHeld => ?_)
    clear hK K
    simp only [Act.put, List.getElem_toArray, List.getElem_cons_succ, List.getElem_cons_zero, List.setIfInBounds_toArray, List.set_cons_zero, List.set_cons_succ]
    refine wpAnyH_ready (rs := [6]) (by kernel_rfl) (by simp) ?_
    refine AllReadyH.cons rfl (fun K hK => ?_) AllReadyH.nil
    go_simp
    refine (HM.out _ (hcD.alloc _)).mono ?_
    rintro e w2 ⟨rfl, hT2⟩
    have hcs := hT2.chg
    have hz2 := hcs.size
    simp only [World.size_drew, World.size_alloc] at hz2
    have hT2 := GTurns.earlier (hcD.alloc _) hT2
    refine hK _ _ ⟨hHeld.1.chg hcs hgS.1, hHeld.2.chg hcs nS0⟩ (fun hHeld => ?_)
    clear hK K
    simp only [Act.put, List.getElem_toArray, List.getElem_cons_succ, List.getElem_cons_zero, List.setIfInBounds_toArray, List.set_cons_zero, List.set_cons_succ]
    refine wpAnyH_take (i := 7) (v := ?_) rfl (by kernel_rfl) (by kernel_rfl) (by kernel_rfl) (fun _ _ _ h => h) (Or.inl ⟨by rfl, ?_⟩) hHeld ?_
    rotate_left
    · (intro w' hSw; go_simp; try with_reducible rfl)
    simp only [Act.put, List.getElem_toArray, List.getElem_cons_succ, List.getElem_cons_zero, List.setIfInBounds_toArray, List.set_cons_zero, List.set_cons_succ]
    refine wpAnyH_take (i := 8) (v := ?_) rfl (by kernel_rfl) (by kernel_rfl) (by kernel_rfl) (fun _ _ _ h => h) (Or.inl ⟨by rfl, ?_⟩) hHeld ?_
    rotate_left
    · (intro w' hSw; go_simp; try with_reducible rfl)
    simp only [Act.put, List.getElem_toArray, List.getElem_cons_succ, List.getElem_cons_zero, List.setIfInBounds_toArray, List.set_cons_zero, List.set_cons_succ]
    refine wpAnyH_take (i := 9) (v := ?_) rfl (by kernel_rfl) (by kernel_rfl) (by kernel_rfl) (fun _ _ _ h => h) (Or.inl ⟨by rfl, ?_⟩) hHeld ?_
    rotate_left
    · (intro w' hSw; go_simp; try with_reducible rfl)
    simp only [Act.put, List.getElem_toArray, List.getElem_cons_succ, List.getElem_cons_zero, List.setIfInBounds_toArray, List.set_cons_zero, List.set_cons_succ]
    refine wpAnyH_ready (rs := [11]) (by kernel_rfl) (by simp) ?_
    refine AllReadyH.cons rfl (fun K hK => ?_) AllReadyH.nil
    refine sk_step_store (A := #[.int .i64 mI, .int .u64 mQ]) (off := 0) T33 ((Blk.new wA.drew 33 zR).chg hcs hNB) rfl (by simp) (by simp [Value.oneCell']) (by rfl) _ _ (by rfl) (by rfl) (by rfl) ?_
    intro w3 hS3
    rw [splice_all zR _ (by rfl)] at hS3
    refine hK _ _ ⟨hS3.far hHeld.1 (by first | omega | (simp; done) | (simp; omega)), hS3.far hHeld.2 (by first | omega | (simp; done) | (simp; omega))⟩ (fun hHeld => ?_)
    clear hK K
    simp only [Act.put, List.getElem_toArray, List.getElem_cons_succ, List.getElem_cons_zero, List.setIfInBounds_toArray, List.set_cons_zero, List.set_cons_succ]
    refine wpAnyH_take (i := 12) (v := ?_) rfl (by kernel_rfl) (by kernel_rfl) (by kernel_rfl) (fun _ _ _ h => h) (Or.inl ⟨by rfl, ?_⟩) hHeld ?_
    rotate_left
    · (intro w' hSw; go_simp; try with_reducible rfl)
    simp only [Act.put, List.getElem_toArray, List.getElem_cons_succ, List.getElem_cons_zero, List.setIfInBounds_toArray, List.set_cons_zero, List.set_cons_succ]
    refine wpAnyH_done (by kernel_rfl) ?_ _
    have hT4 := (hT2).box ((Blk.new wA.drew 33 zR).chg hcs hNB) (by first | omega | (simp; done) | (simp; omega)) hS3.chg
    go_wp2
    go_meet
    case rel => exact ⟨_, rfl, rfl, Lib.hid ⟨hT4, hHeld.1, hHeld.2, hS3.blk, (by first | omega | (simp; done) | (simp; omega))⟩⟩
  case rest =>
    obtain ⟨zb, rfl, rfl, hq⟩ := hcut
    obtain ⟨hTC, hgbB, hb3B, hb6B, hzb⟩ := hq.out
    obtain ⟨wB, hwB⟩ : ∃ W, W = wc := ⟨_, rfl⟩
    subst hwB
    have hcB := hTC.chg
    have hzB := hcB.size
    have hltB := hb6B.lt
    have nT1 : zb ∉ T := fun hk => by have := hTl _ hk; omega
    clear hNB
    have hNB : wB.heap.size ∉ T := fun hk => by have := hTl _ hk; omega
    clear hq hcA hcD hb3A hb5 hlt5 hzz z0 HM nS0
    go_upto_region 7 with (fail)
    go_cut [8, 9] from 62 to 71 (fun s8 s9 wx => ∃ zd : Nat, s8 = ptr zd ∧ s9 = .int .i64 mE ∧ Hid (DTurns p T (docT (t.mkT xg)) wB wx ∧ Blk wx gb 45 #[ptr c, ptr p, .slice AR n cR] ∧ Blk wx zb 33 #[.int .i64 mI, .int .u64 mQ] ∧ Blk wx zd 33 #[.int .i64 mI, .int .u64 mQ]))
    case first =>
      refine wp_region_held_drew (S := fun w' => Blk w' gb 45 #[ptr c, ptr p, .slice AR n cR] ∧ Blk w' w.heap.size 39 X ∧ Blk w' zb 33 #[.int .i64 mI, .int .u64 mQ]) (by kernel_rfl) ⟨hgbB.drew, hb3B.drew, hb6B.drew⟩ (fun hHeld => ?_)
      simp only [List.setIfInBounds_toArray, List.size_toArray, List.length_cons, List.length_nil, Array.replicate]
      refine wpAnyH_take (i := 0) (v := ?_) rfl (by kernel_rfl) (by kernel_rfl) (by kernel_rfl) (fun _ _ _ h => h) (Or.inl ⟨by rfl, ?_⟩) hHeld ?_
      rotate_left
      · (intro w' hSw; go_simp; try with_reducible rfl)
      simp only [Act.put, List.getElem_toArray, List.getElem_cons_succ, List.getElem_cons_zero, List.setIfInBounds_toArray, List.set_cons_zero, List.set_cons_succ]
      refine wpAnyH_take (i := 1) (v := ?_) rfl (by kernel_rfl) (by kernel_rfl) (by kernel_rfl) (fun _ _ _ h => h) (Or.inl ⟨by rfl, ?_⟩) hHeld ?_
      rotate_left
      · (intro w' hSw; go_simp; try with_reducible rfl)
      simp only [Act.put, List.getElem_toArray, List.getElem_cons_succ, List.getElem_cons_zero, List.setIfInBounds_toArray, List.set_cons_zero, List.set_cons_succ]
      refine wpAnyH_take (i := 2) (v := ?_) rfl (by kernel_rfl) (by kernel_rfl) (by kernel_rfl) (fun _ _ _ h => h) (Or.inl ⟨by rfl, ?_⟩) hHeld ?_
      rotate_left
      · (intro w' hSw; go_simp; try with_reducible rfl)
      simp only [Act.put, List.getElem_toArray, List.getElem_cons_succ, List.getElem_cons_zero, List.setIfInBounds_toArray, List.set_cons_zero, List.set_cons_succ]
      refine wpAnyH_take (i := 3) (v := ?_) rfl (by kernel_rfl) (by kernel_rfl) (by kernel_rfl) (fun _ _ _ h => h) (Or.inl ⟨by rfl, ?_⟩) hHeld ?_
      rotate_left
      · (intro w' hSw; have q0 := hSw.1.cell 1; simp only [List.getElem?_toArray, List.getElem?_cons_zero, List.getElem?_cons_succ] at *; go_simp; try with_reducible rfl)
      simp only [Act.put, List.getElem_toArray, List.getElem_cons_succ, List.getElem_cons_zero, List.setIfInBounds_toArray, List.set_cons_zero, List.set_cons_succ]
      refine wpAnyH_take (i := 4) (v := ?_) rfl (by kernel_rfl) (by kernel_rfl) (by kernel_rfl) (fun _ _ _ h => h) (Or.inl ⟨by rfl, ?_⟩) hHeld ?_
      rotate_left
      · (intro w' hSw; go_simp; try with_reducible rfl)
      simp only [Act.put, List.getElem_toArray, List.getElem_cons_succ, List.getElem_cons_zero, List.setIfInBounds_toArray, List.set_cons_zero, List.set_cons_succ]
      refine wpAnyH_take (i := 5) (v := .agg xg.arr) rfl (by kernel_rfl) (by kernel_rfl) (by kernel_rfl) (fun _ _ _ h => h) (Or.inl ⟨by rfl, fun w' hSw => sk_run_load T37 hGs (fun j v hv => (hSw.2.1.cell (4 + j)).trans (XG j v hv)) _ (by rfl) (by rfl)⟩) hHeld ?_
      simp only [Act.put, List.getElem_toArray, List.getElem_cons_succ, List.getElem_cons_zero, List.setIfInBounds_toArray, List.set_cons_zero, List.set_cons_succ]
      refine wpAnyH_ready (rs := [6, 10]) (by kernel_rfl) (by simp) ?_
      refine AllReadyH.cons rfl (fun K hK => ?_) ?_
      · go_simp
        refine (HD.out _ (hcB.drew)).mono ?_
        rintro e w2 ⟨rfl, hT2⟩
        have hcs := hT2.chg
        have hz2 := hcs.size
        simp only [World.size_drew, World.size_alloc] at hz2
        have hT2 := DTurns.earlier ((Chg.refl [] wB).drew) hT2
        refine hK _ _ ⟨hHeld.1.chg hcs hgS.2.2.1, hHeld.2.1.chg hcs nT0, hHeld.2.2.chg hcs nT1⟩ (fun hHeld => ?_)
        clear hK K
        simp only [Act.put, List.getElem_toArray, List.getElem_cons_succ, List.getElem_cons_zero, List.setIfInBounds_toArray, List.set_cons_zero, List.set_cons_succ]
        refine wpAnyH_take (i := 7) (v := ?_) rfl (by kernel_rfl) (by kernel_rfl) (by kernel_rfl) (fun _ _ _ h => h) (Or.inl ⟨by rfl, ?_⟩) hHeld ?_
        rotate_left
        · (intro w' hSw; go_simp; try with_reducible rfl)
        simp only [Act.put, List.getElem_toArray, List.getElem_cons_succ, List.getElem_cons_zero, List.setIfInBounds_toArray, List.set_cons_zero, List.set_cons_succ]
        refine wpAnyH_take (i := 8) (v := ?_) rfl (by kernel_rfl) (by kernel_rfl) (by kernel_rfl) (fun _ _ _ h => h) (Or.inl ⟨by rfl, ?_⟩) hHeld ?_
        rotate_left
        · (intro w' hSw; go_simp; try with_reducible rfl)
        simp only [Act.put, List.getElem_toArray, List.getElem_cons_succ, List.getElem_cons_zero, List.setIfInBounds_toArray, List.set_cons_zero, List.set_cons_succ]
        refine wpAnyH_take (i := 9) (v := ?_) rfl (by kernel_rfl) (by kernel_rfl) (by kernel_rfl) (fun _ _ _ h => h) (Or.inl ⟨by rfl, ?_⟩) hHeld ?_
        rotate_left
        · (intro w' hSw; go_simp; try with_reducible rfl)
        simp only [Act.put, List.getElem_toArray, List.getElem_cons_succ, List.getElem_cons_zero, List.setIfInBounds_toArray, List.set_cons_zero, List.set_cons_succ]
        refine wpAnyH_ready (rs := [10]) (by kernel_rfl) (by simp) ?_
        refine AllReadyH.cons rfl (fun K hK => ?_) AllReadyH.nil
        go_simp
        refine hK _ _ ⟨hHeld.1.alloc _, hHeld.2.1.alloc _, hHeld.2.2.alloc _⟩ (fun hHeld => ?_)
        clear hK K
        simp only [Act.put, List.getElem_toArray, List.getElem_cons_succ, List.getElem_cons_zero, List.setIfInBounds_toArray, List.set_cons_zero, List.set_cons_succ]
        refine wpAnyH_ready (rs := [11]) (by kernel_rfl) (by simp) ?_
        refine AllReadyH.cons rfl (fun K hK => ?_) AllReadyH.nil
        refine sk_step_store (A := #[.int .i64 mI, .int .u64 mQ]) (off := 0) T33 (Blk.new w2 33 zR) rfl (by simp) (by simp [Value.oneCell']) (by rfl) _ _ (by rfl) (by rfl) (by rfl) ?_
        intro w3 hS3
        rw [splice_all zR _ (by rfl)] at hS3
        refine hK _ _ ⟨hS3.far hHeld.1 (by first | omega | (simp; done) | (simp; omega)), hS3.far hHeld.2.1 (by first | omega | (simp; done) | (simp; omega)), hS3.far hHeld.2.2 (by first | omega | (simp; done) | (simp; omega))⟩ (fun hHeld => ?_)
        clear hK K
        simp only [Act.put, List.getElem_toArray, List.getElem_cons_succ, List.getElem_cons_zero, List.setIfInBounds_toArray, List.set_cons_zero, List.set_cons_succ]
        refine wpAnyH_take (i := 12) (v := ?_) rfl (by kernel_rfl) (by kernel_rfl) (by kernel_rfl) (fun _ _ _ h => h) (Or.inl ⟨by rfl, ?_⟩) hHeld ?_
        rotate_left
        · (intro w' hSw; go_simp; try with_reducible rfl)
        simp only [Act.put, List.getElem_toArray, List.getElem_cons_succ, List.getElem_cons_zero, List.setIfInBounds_toArray, List.set_cons_zero, List.set_cons_succ]
        refine wpAnyH_done (by kernel_rfl) ?_ _
        have hT4 := (hT2.later ((Chg.refl [] w2).alloc _)).box (Blk.new w2 33 zR) (by first | omega | (simp; done) | (simp; omega)) hS3.chg
        go_wp2
        go_meet
        case rel => exact ⟨_, rfl, rfl, Lib.hid ⟨hT4, hHeld.1, hHeld.2.2, hS3.blk⟩⟩
      refine AllReadyH.cons rfl (fun K hK => ?_) AllReadyH.nil
      go_simp
      refine hK _ _ ⟨hHeld.1.alloc _, hHeld.2.1.alloc _, hHeld.2.2.alloc _⟩ (fun hHeld => ?_)
      clear hK K
      simp only [Act.put, List.getElem_toArray, List.getElem_cons_succ, List.getElem_cons_zero, List.setIfInBounds_toArray, List.set_cons_zero, List.set_cons_succ]
      refine wpAnyH_ready (rs := [6]) (by kernel_rfl) (by simp) ?_
      refine AllReadyH.cons rfl (fun K hK => ?_) AllReadyH.nil
      go_simp
      refine (HD.out _ (hcB.drew.alloc _)).mono ?_
      rintro e w2 ⟨rfl, hT2⟩
      have hcs := hT2.chg
      have hz2 := hcs.size
      simp only [World.size_drew, World.size_alloc] at hz2
      have hT2 := DTurns.earlier ((Chg.refl [] wB).drew.alloc _) hT2
      refine hK _ _ ⟨hHeld.1.chg hcs hgS.2.2.1, hHeld.2.1.chg hcs nT0, hHeld.2.2.chg hcs nT1⟩ (fun hHeld => ?_)
      clear hK K
      simp only [Act.put, List.getElem_toArray, List.getElem_cons_succ, List.getElem_cons_zero, List.setIfInBounds_toArray, List.set_cons_zero, List.set_cons_succ]
      refine wpAnyH_take (i := 7) (v := ?_) rfl (by kernel_rfl) (by kernel_rfl) (by kernel_rfl) (fun _ _ _ h => h) (Or.inl ⟨by rfl, ?_⟩) hHeld ?_
      rotate_left
      · (intro w' hSw; go_simp; try with_reducible rfl)
      simp only [Act.put, List.getElem_toArray, List.getElem_cons_succ, List.getElem_cons_zero, List.setIfInBounds_toArray, List.set_cons_zero, List.set_cons_succ]
      refine wpAnyH_take (i := 8) (v := ?_) rfl (by kernel_rfl) (by kernel_rfl) (by kernel_rfl) (fun _ _ _ h => h) (Or.inl ⟨by rfl, ?_⟩) hHeld ?_
      rotate_left
      · (intro w' hSw; go_simp; try with_reducible rfl)
      simp only [Act.put, List.getElem_toArray, List.getElem_cons_succ, List.getElem_cons_zero, List.setIfInBounds_toArray, List.set_cons_zero, List.set_cons_succ]
      refine wpAnyH_take (i := 9) (v := ?_) rfl (by kernel_rfl) (by kernel_rfl) (by kernel_rfl) (fun _ _ _ h => h) (Or.inl ⟨by rfl, ?_⟩) hHeld ?_
      rotate_left
      · (intro w' hSw; go_simp; try with_reducible rfl)
      simp only [Act.put, List.getElem_toArray, List.getElem_cons_succ, List.getElem_cons_zero, List.setIfInBounds_toArray, List.set_cons_zero, List.set_cons_succ]
      refine wpAnyH_ready (rs := [11]) (by kernel_rfl) (by simp) ?_
      refine AllReadyH.cons rfl (fun K hK => ?_) AllReadyH.nil
      refine sk_step_store (A := #[.int .i64 mI, .int .u64 mQ]) (off := 0) T33 ((Blk.new wB.drew 33 zR).chg hcs hNB) rfl (by simp) (by simp [Value.oneCell']) (by rfl) _ _ (by rfl) (by rfl) (by rfl) ?_
      intro w3 hS3
      rw [splice_all zR _ (by rfl)] at hS3
      refine hK _ _ ⟨hS3.far hHeld.1 (by first | omega | (simp; done) | (simp; omega)), hS3.far hHeld.2.1 (by first | omega | (simp; done) | (simp; omega)), hS3.far hHeld.2.2 (by first | omega | (simp; done) | (simp; omega))⟩ (fun hHeld => ?_)
      clear hK K
      simp only [Act.put, List.getElem_toArray, List.getElem_cons_succ, List.getElem_cons_zero, List.setIfInBounds_toArray, List.set_cons_zero, List.set_cons_succ]
      refine wpAnyH_take (i := 12) (v := ?_) rfl (by kernel_rfl) (by kernel_rfl) (by kernel_rfl) (fun _ _ _ h => h) (Or.inl ⟨by rfl, ?_⟩) hHeld ?_
      rotate_left
      · (intro w' hSw; go_simp; try with_reducible rfl)
      simp only [Act.put, List.getElem_toArray, List.getElem_cons_succ, List.getElem_cons_zero, List.setIfInBounds_toArray, List.set_cons_zero, List.set_cons_succ]
      refine wpAnyH_done (by kernel_rfl) ?_ _
      have hT4 := (hT2).box ((Blk.new wB.drew 33 zR).chg hcs hNB) (by first | omega | (simp; done) | (simp; omega)) hS3.chg
      go_wp2
      go_meet
      case rel => exact ⟨_, rfl, rfl, Lib.hid ⟨hT4, hHeld.1, hHeld.2.2, hS3.blk⟩⟩
    case rest =>
      obtain ⟨zd, rfl, rfl, hq⟩ := hcut
      obtain ⟨hTD, hgbD, hb6D, hb8D⟩ := hq.out
      obtain ⟨wD, hwD⟩ : ∃ W, W = wc := ⟨_, rfl⟩
      subst hwD
      clear hq hgbB hb3B hb6B HD hNB
      have hnr := neqRef mI mQ
      by_cases h0 : mE = 0
      · subst h0
        obtain ⟨S9, T9, g9, _, _⟩ := GmTurns.both_in H.out (Chg.refl [] w) hTC hTD
        have HR9 : Hid (Row wD 33 2 (.slice AR n cR) n (prCells rs)) := Lib.hid (by have := g9.r; rw [HVR.out, ← Hn.out] at this; exact this)
        clear g9
        obtain ⟨in0, hi0, hq0, hq1, hq2⟩ := info_parts Try.info_R
        have hgV : (Value.slice AR n cR).ownBlock ≠ some gb := fun e => hgS.2.2.2 (by rw [HVR.out, ← Hn.out]; exact row_mem e)
        have hzV : (Value.slice AR n cR).ownBlock ≠ some zb := fun e => by have := H.out.r.lt zb (by rw [HVR.out, ← Hn.out]; exact row_mem e); omega
        have hzgb : zb ≠ (⟨gb, 2, none⟩ : Addr).block := by simp; omega
        have hin9 := HIN.out
        go_upto_region 11 with (first | ((with_reducible refine wpl_loadE T33 hb6D rfl ?_ ?_ ?_); (· rfl); (· exact ⟨_, rfl, rfl⟩)) | ((with_reducible refine wpl_loadE T33 hb8D rfl ?_ ?_ ?_); (· rfl); (· exact ⟨_, rfl, rfl⟩)))
        refine wp_region_held_drew (S := fun w' => Blk w' zb 33 #[.int .i64 mI, .int .u64 mQ]) (by kernel_rfl) hb6D.drew (fun hHeld => ?_)
        simp only [List.setIfInBounds_toArray, List.size_toArray, List.length_cons, List.length_nil, Array.replicate]
        refine wpAnyH_take (i := 0) (v := ?_) rfl (by kernel_rfl) (by kernel_rfl) (by kernel_rfl) (fun _ _ _ h => h) (Or.inl ⟨by rfl, ?_⟩) hHeld ?_
        rotate_left
        · (intro w' hSw; go_simp; try with_reducible rfl)
        simp only [Act.put, List.getElem_toArray, List.getElem_cons_succ, List.getElem_cons_zero, List.setIfInBounds_toArray, List.set_cons_zero, List.set_cons_succ]
        refine wpAnyH_take (i := 1) (v := ?_) rfl (by kernel_rfl) (by kernel_rfl) (by kernel_rfl) (fun _ _ _ h => h) (Or.inl ⟨by rfl, ?_⟩) hHeld ?_
        rotate_left
        · (intro w' hSw; go_simp; try with_reducible rfl)
        simp only [Act.put, List.getElem_toArray, List.getElem_cons_succ, List.getElem_cons_zero, List.setIfInBounds_toArray, List.set_cons_zero, List.set_cons_succ]
        refine wpAnyH_take (i := 2) (v := ?_) rfl (by kernel_rfl) (by kernel_rfl) (by kernel_rfl) (fun _ _ _ h => h) (Or.inl ⟨by rfl, ?_⟩) hHeld ?_
        rotate_left
        · (intro w' hSw; go_simp; try with_reducible rfl)
        simp only [Act.put, List.getElem_toArray, List.getElem_cons_succ, List.getElem_cons_zero, List.setIfInBounds_toArray, List.set_cons_zero, List.set_cons_succ]
        refine wpAnyH_take (i := 3) (v := ?_) rfl (by kernel_rfl) (by kernel_rfl) (by kernel_rfl) (fun _ _ _ h => h) (Or.inl ⟨by rfl, ?_⟩) hHeld ?_
        rotate_left
        · (intro w' hSw; go_simp; try with_reducible rfl)
        simp only [Act.put, List.getElem_toArray, List.getElem_cons_succ, List.getElem_cons_zero, List.setIfInBounds_toArray, List.set_cons_zero, List.set_cons_succ]
        refine wpAnyH_take (i := 5) (v := .agg #[.int .i64 mI, .int .u64 mQ]) rfl (by kernel_rfl) (by kernel_rfl) (by kernel_rfl) (fun _ _ _ h => h) (Or.inl ⟨by rfl, fun w' hSw => sk_run_load (off := 0) T33 (by rfl) (blk_cells hSw) _ (by rfl) (by rfl)⟩) hHeld ?_
        simp only [Act.put, List.getElem_toArray, List.getElem_cons_succ, List.getElem_cons_zero, List.setIfInBounds_toArray, List.set_cons_zero, List.set_cons_succ]
        refine wpAnyH_ready (rs := [4, 6]) (by kernel_rfl) (by simp) ?_
        refine AllReadyH.cons rfl (fun K hK => ?_) ?_
        · have y0 := hgbD.drew.cell 2
          simp only [List.getElem?_toArray, List.getElem?_cons_zero, List.getElem?_cons_succ] at y0
          go_simp
          refine hK _ _ hHeld (fun hHeld => ?_)
          clear hK K
          simp only [Act.put, List.getElem_toArray, List.getElem_cons_succ, List.getElem_cons_zero, List.setIfInBounds_toArray, List.set_cons_zero, List.set_cons_succ]
          refine wpAnyH_ready (rs := [6]) (by kernel_rfl) (by simp) ?_
          refine AllReadyH.cons rfl (fun K hK => ?_) AllReadyH.nil
          go_simp
          refine hK _ _ (hHeld.alloc _) (fun hHeld => ?_)
          clear hK K
          simp only [Act.put, List.getElem_toArray, List.getElem_cons_succ, List.getElem_cons_zero, List.setIfInBounds_toArray, List.set_cons_zero, List.set_cons_succ]
          refine wpAnyH_ready (rs := [7]) (by kernel_rfl) (by simp) ?_
          refine AllReadyH.cons rfl (fun K hK => ?_) AllReadyH.nil
          refine step_append_row (wD.drew.alloc (.cells #[.int .i64 mI, .int .u64 mQ] 33)) rfl _ _ 43 rfl 33 in0 _ 2 16 Try.underlying43 hi0 hq0 hq1 hq2 rfl (.slice AR n cR) n (prCells rs) (by rfl) (HR9.out.drew.alloc _) ⟨wD.drew.heap.size, 0, none⟩ 1 1 [.int .i64 mI, .int .u64 mQ] (by rfl) (by rfl) (World.news_of_block (cs := #[.int .i64 mI, .int .u64 mQ]) (t := 33) (fr := (0, 0)) (heap_alloc_new wD.drew _)) (by simp [Value.oneCell']) (by omega) (by unfold maxLen; omega) (by omega) _ rfl ?_
          intro gg cap w9 hr9 hg9 hat9 hlt9
          have hgb9 := (hgbD.drew.alloc (.cells #[.int .i64 mI, .int .u64 mQ] 33)).grown hg9 hgV
          refine hK _ _ (hHeld.grown hg9 hzV) (fun hHeld => ?_)
          clear hK K
          simp only [Act.put, List.getElem_toArray, List.getElem_cons_succ, List.getElem_cons_zero, List.setIfInBounds_toArray, List.set_cons_zero, List.set_cons_succ]
          refine wpAnyH_take (i := 8) (v := ?_) rfl (by kernel_rfl) (by kernel_rfl) (by kernel_rfl) (fun _ _ _ h => h) (Or.inl ⟨by rfl, ?_⟩) hHeld ?_
          rotate_left
          · (intro w' hSw; go_simp; try with_reducible rfl)
          simp only [Act.put, List.getElem_toArray, List.getElem_cons_succ, List.getElem_cons_zero, List.setIfInBounds_toArray, List.set_cons_zero, List.set_cons_succ]
          refine wpAnyH_take (i := 9) (v := ?_) rfl (by kernel_rfl) (by kernel_rfl) (by kernel_rfl) (fun _ _ _ h => h) (Or.inl ⟨by rfl, ?_⟩) hHeld ?_
          rotate_left
          · (intro w' hSw; go_simp; try with_reducible rfl)
          simp only [Act.put, List.getElem_toArray, List.getElem_cons_succ, List.getElem_cons_zero, List.setIfInBounds_toArray, List.set_cons_zero, List.set_cons_succ]
          refine wpAnyH_ready (rs := [10]) (by kernel_rfl) (by simp) ?_
          refine AllReadyH.cons rfl (fun K hK => ?_) AllReadyH.nil
          have y2 := hgb9.cell 2
          have y3 := hgb9.frozen 2
          simp only [List.getElem?_toArray, List.getElem?_cons_zero, List.getElem?_cons_succ] at y2
          go_simp
          refine hK _ _ (hHeld.far hzgb _) (fun hHeld => ?_)
          clear hK K
          simp only [Act.put, List.getElem_toArray, List.getElem_cons_succ, List.getElem_cons_zero, List.setIfInBounds_toArray, List.set_cons_zero, List.set_cons_succ]
          refine wpAnyH_done (by kernel_rfl) ?_ _
          have HG := Lib.hid (GmTurns.app H.out (Chg.refl [] w) hTC hTD (((Chg.refl [] wD).drew).alloc (.cells #[.int .i64 mI, .int .u64 mQ] 33)) hr9 Hn.out (by rw [HVR.out, ← Hn.out]; exact hg9) (by rw [HVR.out, ← Hn.out]; exact hat9))
          clear hHeld
          go_wp2
          go_ret
          exact ⟨by simp, _, _, HV.out.mono (by omega), by simp, hin9, HG.out⟩
        refine AllReadyH.cons rfl (fun K hK => ?_) AllReadyH.nil
        go_simp
        refine hK _ _ (hHeld.alloc _) (fun hHeld => ?_)
        clear hK K
        simp only [Act.put, List.getElem_toArray, List.getElem_cons_succ, List.getElem_cons_zero, List.setIfInBounds_toArray, List.set_cons_zero, List.set_cons_succ]
        refine wpAnyH_ready (rs := [4]) (by kernel_rfl) (by simp) ?_
        refine AllReadyH.cons rfl (fun K hK => ?_) AllReadyH.nil
        have y0 := (hgbD.alloc (.cells #[.int .i64 mI, .int .u64 mQ] 33)).drew.cell 2
        simp only [List.getElem?_toArray, List.getElem?_cons_zero, List.getElem?_cons_succ] at y0
        go_simp
        refine hK _ _ (hHeld) (fun hHeld => ?_)
        clear hK K
        simp only [Act.put, List.getElem_toArray, List.getElem_cons_succ, List.getElem_cons_zero, List.setIfInBounds_toArray, List.set_cons_zero, List.set_cons_succ]
        refine wpAnyH_ready (rs := [7]) (by kernel_rfl) (by simp) ?_
        refine AllReadyH.cons rfl (fun K hK => ?_) AllReadyH.nil
        refine step_append_row (wD.drew.alloc (.cells #[.int .i64 mI, .int .u64 mQ] 33)) rfl _ _ 43 rfl 33 in0 _ 2 16 Try.underlying43 hi0 hq0 hq1 hq2 rfl (.slice AR n cR) n (prCells rs) (by rfl) (HR9.out.drew.alloc _) ⟨wD.drew.heap.size, 0, none⟩ 1 1 [.int .i64 mI, .int .u64 mQ] (by rfl) (by rfl) (World.news_of_block (cs := #[.int .i64 mI, .int .u64 mQ]) (t := 33) (fr := (0, 0)) (heap_alloc_new wD.drew _)) (by simp [Value.oneCell']) (by omega) (by unfold maxLen; omega) (by omega) _ rfl ?_
        intro gg cap w9 hr9 hg9 hat9 hlt9
        have hgb9 := (hgbD.drew.alloc (.cells #[.int .i64 mI, .int .u64 mQ] 33)).grown hg9 hgV
        refine hK _ _ (hHeld.grown hg9 hzV) (fun hHeld => ?_)
        clear hK K
        simp only [Act.put, List.getElem_toArray, List.getElem_cons_succ, List.getElem_cons_zero, List.setIfInBounds_toArray, List.set_cons_zero, List.set_cons_succ]
        refine wpAnyH_take (i := 8) (v := ?_) rfl (by kernel_rfl) (by kernel_rfl) (by kernel_rfl) (fun _ _ _ h => h) (Or.inl ⟨by rfl, ?_⟩) hHeld ?_
        rotate_left
        · (intro w' hSw; go_simp; try with_reducible rfl)
        simp only [Act.put, List.getElem_toArray, List.getElem_cons_succ, List.getElem_cons_zero, List.setIfInBounds_toArray, List.set_cons_zero, List.set_cons_succ]
        refine wpAnyH_take (i := 9) (v := ?_) rfl (by kernel_rfl) (by kernel_rfl) (by kernel_rfl) (fun _ _ _ h => h) (Or.inl ⟨by rfl, ?_⟩) hHeld ?_
        rotate_left
        · (intro w' hSw; go_simp; try with_reducible rfl)
        simp only [Act.put, List.getElem_toArray, List.getElem_cons_succ, List.getElem_cons_zero, List.setIfInBounds_toArray, List.set_cons_zero, List.set_cons_succ]
        refine wpAnyH_ready (rs := [10]) (by kernel_rfl) (by simp) ?_
        refine AllReadyH.cons rfl (fun K hK => ?_) AllReadyH.nil
        have y2 := hgb9.cell 2
        have y3 := hgb9.frozen 2
        simp only [List.getElem?_toArray, List.getElem?_cons_zero, List.getElem?_cons_succ] at y2
        go_simp
        refine hK _ _ (hHeld.far hzgb _) (fun hHeld => ?_)
        clear hK K
        simp only [Act.put, List.getElem_toArray, List.getElem_cons_succ, List.getElem_cons_zero, List.setIfInBounds_toArray, List.set_cons_zero, List.set_cons_succ]
        refine wpAnyH_done (by kernel_rfl) ?_ _
        have HG := Lib.hid (GmTurns.app H.out (Chg.refl [] w) hTC hTD (((Chg.refl [] wD).drew).alloc (.cells #[.int .i64 mI, .int .u64 mQ] 33)) hr9 Hn.out (by rw [HVR.out, ← Hn.out]; exact hg9) (by rw [HVR.out, ← Hn.out]; exact hat9))
        clear hHeld
        go_wp2
        go_ret
        exact ⟨by simp, _, _, HV.out.mono (by omega), by simp, hin9, HG.out⟩
      · have d0 : (mE == 0) = false := by simp; exact h0
        go_wp2_with (first | ((with_reducible refine wpl_loadE T33 hb6D rfl ?_ ?_ ?_); (· rfl); (· exact ⟨_, rfl, rfl⟩)) | ((with_reducible refine wpl_loadE T33 hb8D rfl ?_ ?_ ?_); (· rfl); (· exact ⟨_, rfl, rfl⟩)))
        go_ret
        exact ⟨by simp, _, rs, HV.out.mono (by omega), by omega, HRI.out, GmTurns.both H.out (Chg.refl [] w) hTC hTD⟩
end Go.Proofs
end
