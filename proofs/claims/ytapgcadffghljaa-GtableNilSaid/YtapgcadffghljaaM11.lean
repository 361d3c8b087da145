import Derived.Test.YtapgcadffghljaaM9
section
namespace Go.Proofs
open Go.RowKit
set_option linter.unusedVariables false
set_option linter.unusedSimpArgs false

theorem getG_doc {t : Tab Gr} {k : Nat} {q : Int} {s : Spot Gr} (h : t.has (k : Nat) q = true) (hs : (docT t).L[k]? = some s) : t.getG (k : Nat) q = s.thing := by
  obtain ⟨k2, s2, hk, rfl, hs2, hth⟩ := has_spot h
  have : k2 = k := by omega
  subst this
  rw [doc_spot hs2] at hs
  obtain rfl := Option.some.inj hs
  exact getG_yes (live_nat.2 ⟨hs2, hth⟩) h
set_option maxRecDepth 100000 in
set_option maxHeartbeats 12800000 in
theorem do_2 {w : World} {gb c p N M : Nat} {S T : List Nat} {VR : Value} {t : Tab Gr} {rs : List (Int × Int)} (h : GameIn w gb c p S T VR t rs) (hI : Inv t N M) (hM : M < 500) (hrs : rs.length ≤ 500) (hri : ∀ x ∈ rs, inI x.1) (x : Ac) (hx : x.Fits) (hk : x.k = 2) :
    Calls Try.prog 11 #[ptr gb, x.val] w (DoPost gb (gK gb c S T VR) t rs N M w) := by
  obtain ⟨AR, cR, hVR, _⟩ := h.r.val
  have H := Lib.hid h
  have HI := Lib.hid hI
  have X0 := x.a0
  have X1 := x.a1
  have X2 := x.a2
  have X3 := x.a3
  have X23 := x.a23
  have XG := x.ag
  have hXs := x.size
  have hGs := x.g.size
  have hri0 := hx.ri
  have hat := hx.a
  have hto := hx.to
  have hun := hx.un
  have HRI := Lib.hid hri
  have lgb := h.b.lt
  have hVRlt := h.r.lt
  have HR0 := Lib.hid h.r
  have hb := h.b
  rw [hVR] at hb
  have HVR := Lib.hid hVR
  clear hVR
  have HB := Lib.hid hb
  obtain ⟨n, hn⟩ : ∃ n, n = rs.length := ⟨_, rfl⟩
  rw [← hn] at HB hrs
  have Hn := Lib.hid hn
  unfold Ac.val
  obtain ⟨xg, hxg⟩ : ∃ xg, xg = x.g := ⟨_, rfl⟩
  rw [← hxg] at XG hGs hun
  generalize x.arr = X at *
  rw [hk] at X0
  generalize x.k = xk at *
  generalize x.ri = ri at *
  generalize x.rq = rq at *
  generalize x.at_ = at_ at *
  generalize x.to = to at *
  clear h hI hri hx hb hn hxg
  clear hk
  obtain ⟨a0, a1⟩ := hat
  have hb3 := Blk.new w 39 X
  have y1 := (hb3.cell 1).trans X1
  have y2 := (hb3.cell 2).trans X2
  have e3 := (hb3.alloc (.cells #[.int .i64 ri, .int .u64 rq] 33)).cell 3
  rw [X3] at e3
  have hcA : Chg [] w ((w.alloc (.cells X 39)).alloc (.cells #[.int .i64 ri, .int .u64 rq] 33)) := ((Chg.refl [] w).alloc _).alloc _
  have hb3A := hb3.alloc (.cells #[.int .i64 ri, .int .u64 rq] 33)
  have hb5A : Blk ((w.alloc (.cells X 39)).alloc (.cells #[.int .i64 ri, .int .u64 rq] 33)) (w.heap.size + 1) 33 #[.int .i64 ri, .int .u64 rq] := Blk.at' (w.alloc (.cells X 39)) 33 _ (by simp)
  have g2 := (HB.out.chg hcA (by simp)).cell 2
  by_cases ha : at_ < 1
  · clear hVRlt
    go_enter Try.func11, Try.ntmps11
    go_upto_region 4 with (fail)
    generalize World.alloc (World.alloc w _) _ = wc at *
    obtain ⟨i, q, hb5, hii⟩ : ∃ i q, Blk wc (w.heap.size + 1) 33 #[.int .i64 i, .int .u64 q] ∧ inI i := ⟨ri, rq, hb5A, hri0⟩
    clear y1 y2 e3 g2 hb3 ha a0 a1 hb5A
    have z0 := (hb3A.cell 0).trans X0
    have hzz := hcA.size
    have hlt5 := hb5.lt
    have HIs := Lib.hid (fun W (hc : Chg [] w W) => rIs_any (H.out.d.quiet hc) (by rw [docL_len HI.out]; exact HI.out.n64) i q hii)
    have HG := Lib.hid (fun W (hc : Chg [] w W) => Get_any (H.out.g.quiet hc) i q hii)
    have hAs := (t.getG i q).size
    have hA1 := (t.getG i q).one
    have hcD := hcA.drew
    cases hq : (docT t).is i q with
    | false =>
      have hh : t.has i q = false := by rw [← doc_is]; exact hq
      have hE : t.getE i q = 11 := by unfold Tab.getE; rw [if_neg (by simp [hh])]
      rw [hE, getG_no hh] at HG
      rw [getG_no hh] at hAs hA1
      rw [hq] at HIs
      have he0 : ∀ W, (binOp BinOp.eql 37 (.agg zG) (.agg zG)).run Try.prog W = .ok (.bool true) W := fun W => by have := eqG Gr.zero Gr.zero W; rw [geq_refl] at this; exact this
      change Hid (∀ W (hc : Chg [] w W), Calls Try.prog 17 #[ptr c, .agg #[.int .i64 i, .int .u64 q]] W fun e w' => e = .returned (.tuple #[.agg zG, .int .i64 11]) ∧ Chg [] W w') at HG
      change zG.size = 19 at hAs
      change zG.all (·.oneCell') = true at hA1
      clear hE hh hq
      go_upto_region 13 with (fail)
      refine wp_region_held_drew (S := fun w' => Blk w' gb 45 #[ptr c, ptr p, .slice AR n cR] ∧ Blk w' (w.heap.size + 1) 33 #[.int .i64 i, .int .u64 q]) (by kernel_rfl) ⟨(HB.out.chg hcA (by simp)).drew, hb5.drew⟩ (fun hHeld => ?_)
      simp only [List.setIfInBounds_toArray, List.size_toArray, List.length_cons, List.length_nil, Array.replicate]
      refine wpAnyH_take (i := 0) (v := ?_) rfl (by kernel_rfl) (by kernel_rfl) (by kernel_rfl) (fun _ _ _ h => h) (Or.inl ⟨by rfl, ?_⟩) hHeld ?_
      rotate_left
      · (intro w' hSw; go_simp; try with_reducible rfl)
      simp only [Act.put, List.getElem_toArray, List.getElem_cons_succ, List.getElem_cons_zero, List.setIfInBounds_toArray, List.set_cons_zero, List.set_cons_succ]
      refine wpAnyH_take (i := 1) (v := ?_) rfl (by kernel_rfl) (by kernel_rfl) (by kernel_rfl) (fun _ _ _ h => h) (Or.inl ⟨by rfl, ?_⟩) hHeld ?_
      rotate_left
      · (intro w' hSw; go_simp; try with_reducible rfl)
      simp only [Act.put, List.getElem_toArray, List.getElem_cons_succ, List.getElem_cons_zero, List.setIfInBounds_toArray, List.set_cons_zero, List.set_cons_succ]
      refine wpAnyH_take (i := 2) (v := ?_) rfl (by kernel_rfl) (by kernel_rfl) (by kernel_rfl) (fun _ _ _ h => h) (Or.inl ⟨by rfl, ?_⟩) hHeld ?_
      rotate_left
      · (intro w' hSw; go_simp; try with_reducible rfl)
      simp only [Act.put, List.getElem_toArray, List.getElem_cons_succ, List.getElem_cons_zero, List.setIfInBounds_toArray, List.set_cons_zero, List.set_cons_succ]
      refine wpAnyH_take (i := 3) (v := ?_) rfl (by kernel_rfl) (by kernel_rfl) (by kernel_rfl) (fun _ _ _ h => h) (Or.inl ⟨by rfl, ?_⟩) hHeld ?_
      rotate_left
      · (intro w' hSw; have q0 := hSw.1.cell 0; simp only [List.getElem?_toArray, List.getElem?_cons_zero, List.getElem?_cons_succ] at *; go_simp; try with_reducible rfl)
      simp only [Act.put, List.getElem_toArray, List.getElem_cons_succ, List.getElem_cons_zero, List.setIfInBounds_toArray, List.set_cons_zero, List.set_cons_succ]
      refine wpAnyH_take (i := 4) (v := ?_) rfl (by kernel_rfl) (by kernel_rfl) (by kernel_rfl) (fun _ _ _ h => h) (Or.inl ⟨by rfl, ?_⟩) hHeld ?_
      rotate_left
      · (intro w' hSw; have q0 := hSw.2.cell 0; have q1 := hSw.2.cell 1; simp only [List.getElem?_toArray, List.getElem?_cons_zero, List.getElem?_cons_succ] at *; go_simp; try with_reducible rfl)
      simp only [Act.put, List.getElem_toArray, List.getElem_cons_succ, List.getElem_cons_zero, List.setIfInBounds_toArray, List.set_cons_zero, List.set_cons_succ]
      refine wpAnyH_ready (rs := [5, 9]) (by kernel_rfl) (by simp) ?_
      refine AllReadyH.cons rfl (fun K hK => ?_) ?_
      · go_simp
        refine (HG.out _ hcD).mono ?_
        rintro e w2 ⟨rfl, hc2⟩
        have hz2 := hc2.size
        simp only [World.size_drew] at hz2
        refine hK _ _ ⟨hHeld.1.chg hc2 (by simp), hHeld.2.chg hc2 (by simp)⟩ (fun hHeld => ?_)
        clear hK K
        simp only [Act.put, List.getElem_toArray, List.getElem_cons_succ, List.getElem_cons_zero, List.setIfInBounds_toArray, List.set_cons_zero, List.set_cons_succ]
        refine wpAnyH_take (i := 6) (v := ?_) rfl (by kernel_rfl) (by kernel_rfl) (by kernel_rfl) (fun _ _ _ h => h) (Or.inl ⟨by rfl, ?_⟩) hHeld ?_
        rotate_left
        · (intro w' hSw; go_simp; try with_reducible rfl)
        simp only [Act.put, List.getElem_toArray, List.getElem_cons_succ, List.getElem_cons_zero, List.setIfInBounds_toArray, List.set_cons_zero, List.set_cons_succ]
        refine wpAnyH_take (i := 7) (v := ?_) rfl (by kernel_rfl) (by kernel_rfl) (by kernel_rfl) (fun _ _ _ h => h) (Or.inl ⟨by rfl, ?_⟩) hHeld ?_
        rotate_left
        · (intro w' hSw; go_simp; try with_reducible rfl)
        simp only [Act.put, List.getElem_toArray, List.getElem_cons_succ, List.getElem_cons_zero, List.setIfInBounds_toArray, List.set_cons_zero, List.set_cons_succ]
        refine wpAnyH_take (i := 8) (v := ?_) rfl (by kernel_rfl) (by kernel_rfl) (by kernel_rfl) (fun _ _ _ h => h) (Or.inl ⟨by rfl, ?_⟩) hHeld ?_
        rotate_left
        · (intro w' hSw; go_simp; try with_reducible rfl)
        simp only [Act.put, List.getElem_toArray, List.getElem_cons_succ, List.getElem_cons_zero, List.setIfInBounds_toArray, List.set_cons_zero, List.set_cons_succ]
        refine wpAnyH_ready (rs := [9]) (by kernel_rfl) (by simp) ?_
        refine AllReadyH.cons rfl (fun K hK => ?_) AllReadyH.nil
        go_simp
        refine hK _ _ ⟨hHeld.1.alloc _, hHeld.2.alloc _⟩ (fun hHeld => ?_)
        clear hK K
        simp only [Act.put, List.getElem_toArray, List.getElem_cons_succ, List.getElem_cons_zero, List.setIfInBounds_toArray, List.set_cons_zero, List.set_cons_succ]
        refine wpAnyH_ready (rs := [10]) (by kernel_rfl) (by simp) ?_
        refine AllReadyH.cons rfl (fun K hK => ?_) AllReadyH.nil
        refine sk_step_store (off := 0) T37 (Blk.new w2 37 zG) hAs (by rw [hAs]; decide) hA1 (by rfl) _ _ (by rfl) (by rfl) (by rfl) ?_
        intro w3 hS3
        rw [splice_all zG _ (by first | rfl | (rw [hAs]; rfl))] at hS3
        refine hK _ _ ⟨hS3.far hHeld.1 (by simp; omega), hS3.far hHeld.2 (by simp; omega)⟩ (fun hHeld => ?_)
        clear hK K
        simp only [Act.put, List.getElem_toArray, List.getElem_cons_succ, List.getElem_cons_zero, List.setIfInBounds_toArray, List.set_cons_zero, List.set_cons_succ]
        refine wpAnyH_take (i := 11) (v := ?_) rfl (by kernel_rfl) (by kernel_rfl) (by kernel_rfl) (fun _ _ _ h => h) (Or.inl ⟨by rfl, ?_⟩) hHeld ?_
        rotate_left
        · (intro w' hSw; go_simp; try with_reducible rfl)
        simp only [Act.put, List.getElem_toArray, List.getElem_cons_succ, List.getElem_cons_zero, List.setIfInBounds_toArray, List.set_cons_zero, List.set_cons_succ]
        refine wpAnyH_done (by kernel_rfl) ?_ _
        have hcX : Chg [] w w3 := (((hcD.then hc2).alloc _).trans hS3.chg (fun k hk => by simp at hk; omega))
        have hb5X := hHeld.2
        have hboxX := hS3.blk
        clear hHeld
        have hcXd := hcX.drew
        go_upto_region 14 with (fail)
        refine wp_region_held_drew (S := fun w' => Blk w' gb 45 #[ptr c, ptr p, .slice AR n cR] ∧ Blk w' (w.heap.size + 1) 33 #[.int .i64 i, .int .u64 q]) (by kernel_rfl) ⟨(HB.out.chg hcX (by simp)).drew, hb5X.drew⟩ (fun hHeld => ?_)
        simp only [List.setIfInBounds_toArray, List.size_toArray, List.length_cons, List.length_nil, Array.replicate]
        refine wpAnyH_take (i := 0) (v := ?_) rfl (by kernel_rfl) (by kernel_rfl) (by kernel_rfl) (fun _ _ _ h => h) (Or.inl ⟨by rfl, ?_⟩) hHeld ?_
        rotate_left
        · (intro w' hSw; go_simp; try with_reducible rfl)
        simp only [Act.put, List.getElem_toArray, List.getElem_cons_succ, List.getElem_cons_zero, List.setIfInBounds_toArray, List.set_cons_zero, List.set_cons_succ]
        refine wpAnyH_take (i := 1) (v := ?_) rfl (by kernel_rfl) (by kernel_rfl) (by kernel_rfl) (fun _ _ _ h => h) (Or.inl ⟨by rfl, ?_⟩) hHeld ?_
        rotate_left
        · (intro w' hSw; go_simp; try with_reducible rfl)
        simp only [Act.put, List.getElem_toArray, List.getElem_cons_succ, List.getElem_cons_zero, List.setIfInBounds_toArray, List.set_cons_zero, List.set_cons_succ]
        refine wpAnyH_take (i := 2) (v := ?_) rfl (by kernel_rfl) (by kernel_rfl) (by kernel_rfl) (fun _ _ _ h => h) (Or.inl ⟨by rfl, ?_⟩) hHeld ?_
        rotate_left
        · (intro w' hSw; go_simp; try with_reducible rfl)
        simp only [Act.put, List.getElem_toArray, List.getElem_cons_succ, List.getElem_cons_zero, List.setIfInBounds_toArray, List.set_cons_zero, List.set_cons_succ]
        refine wpAnyH_take (i := 3) (v := ?_) rfl (by kernel_rfl) (by kernel_rfl) (by kernel_rfl) (fun _ _ _ h => h) (Or.inl ⟨by rfl, ?_⟩) hHeld ?_
        rotate_left
        · (intro w' hSw; have q0 := hSw.1.cell 1; simp only [List.getElem?_toArray, List.getElem?_cons_zero, List.getElem?_cons_succ] at *; go_simp; try with_reducible rfl)
        simp only [Act.put, List.getElem_toArray, List.getElem_cons_succ, List.getElem_cons_zero, List.setIfInBounds_toArray, List.set_cons_zero, List.set_cons_succ]
        refine wpAnyH_take (i := 4) (v := ?_) rfl (by kernel_rfl) (by kernel_rfl) (by kernel_rfl) (fun _ _ _ h => h) (Or.inl ⟨by rfl, ?_⟩) hHeld ?_
        rotate_left
        · (intro w' hSw; have q0 := hSw.2.cell 0; have q1 := hSw.2.cell 1; simp only [List.getElem?_toArray, List.getElem?_cons_zero, List.getElem?_cons_succ] at *; go_simp; try with_reducible rfl)
        simp only [Act.put, List.getElem_toArray, List.getElem_cons_succ, List.getElem_cons_zero, List.setIfInBounds_toArray, List.set_cons_zero, List.set_cons_succ]
        refine wpAnyH_ready (rs := [5]) (by kernel_rfl) (by simp) ?_
        refine AllReadyH.cons rfl (fun K hK => ?_) AllReadyH.nil
        go_simp
        refine (HIs.out _ hcXd).mono ?_
        rintro e w4 ⟨rfl, hc4⟩
        refine hK _ _ ⟨hHeld.1.chg hc4 (by simp), hHeld.2.chg hc4 (by simp)⟩ (fun hHeld => ?_)
        clear hK K
        simp only [Act.put, List.getElem_toArray, List.getElem_cons_succ, List.getElem_cons_zero, List.setIfInBounds_toArray, List.set_cons_zero, List.set_cons_succ]
        refine wpAnyH_take (i := 6) (v := ?_) rfl (by kernel_rfl) (by kernel_rfl) (by kernel_rfl) (fun _ _ _ h => h) (Or.inl ⟨by rfl, ?_⟩) hHeld ?_
        rotate_left
        · (intro w' hSw; go_simp; try with_reducible rfl)
        simp only [Act.put, List.getElem_toArray, List.getElem_cons_succ, List.getElem_cons_zero, List.setIfInBounds_toArray, List.set_cons_zero, List.set_cons_succ]
        refine wpAnyH_done (by kernel_rfl) ?_ _
        clear hHeld
        have hbz := hboxX.drew.chg hc4 (by simp)
        go_wp2_with ((with_reducible refine wpl_loadE T37 hbz rfl ?_ ?_ ?_); (· rfl); (· exact ⟨_, rfl, rfl⟩))
        go_ret
        exact ⟨rfl, t, rs, HI.out.mono (by omega), by omega, HRI.out, GmTurns.refl H.out (hcXd.then hc4)⟩
      refine AllReadyH.cons rfl (fun K hK => ?_) AllReadyH.nil
      go_simp
      refine hK _ _ ⟨hHeld.1.alloc _, hHeld.2.alloc _⟩ (fun hHeld => ?_)
      clear hK K
      simp only [Act.put, List.getElem_toArray, List.getElem_cons_succ, List.getElem_cons_zero, List.setIfInBounds_toArray, List.set_cons_zero, List.set_cons_succ]
      refine wpAnyH_ready (rs := [5]) (by kernel_rfl) (by simp) ?_
      refine AllReadyH.cons rfl (fun K hK => ?_) AllReadyH.nil
      go_simp
      refine (HG.out _ (hcD.alloc _)).mono ?_
      rintro e w2 ⟨rfl, hc2⟩
      have hz2 := hc2.size
      simp only [World.size_alloc, World.size_drew] at hz2
      refine hK _ _ ⟨hHeld.1.chg hc2 (by simp), hHeld.2.chg hc2 (by simp)⟩ (fun hHeld => ?_)
      clear hK K
      simp only [Act.put, List.getElem_toArray, List.getElem_cons_succ, List.getElem_cons_zero, List.setIfInBounds_toArray, List.set_cons_zero, List.set_cons_succ]
      refine wpAnyH_take (i := 6) (v := ?_) rfl (by kernel_rfl) (by kernel_rfl) (by kernel_rfl) (fun _ _ _ h => h) (Or.inl ⟨by rfl, ?_⟩) hHeld ?_
      rotate_left
      · (intro w' hSw; go_simp; try with_reducible rfl)
      simp only [Act.put, List.getElem_toArray, List.getElem_cons_succ, List.getElem_cons_zero, List.setIfInBounds_toArray, List.set_cons_zero, List.set_cons_succ]
      refine wpAnyH_take (i := 7) (v := ?_) rfl (by kernel_rfl) (by kernel_rfl) (by kernel_rfl) (fun _ _ _ h => h) (Or.inl ⟨by rfl, ?_⟩) hHeld ?_
      rotate_left
      · (intro w' hSw; go_simp; try with_reducible rfl)
      simp only [Act.put, List.getElem_toArray, List.getElem_cons_succ, List.getElem_cons_zero, List.setIfInBounds_toArray, List.set_cons_zero, List.set_cons_succ]
      refine wpAnyH_take (i := 8) (v := ?_) rfl (by kernel_rfl) (by kernel_rfl) (by kernel_rfl) (fun _ _ _ h => h) (Or.inl ⟨by rfl, ?_⟩) hHeld ?_
      rotate_left
      · (intro w' hSw; go_simp; try with_reducible rfl)
      simp only [Act.put, List.getElem_toArray, List.getElem_cons_succ, List.getElem_cons_zero, List.setIfInBounds_toArray, List.set_cons_zero, List.set_cons_succ]
      refine wpAnyH_ready (rs := [10]) (by kernel_rfl) (by simp) ?_
      refine AllReadyH.cons rfl (fun K hK => ?_) AllReadyH.nil
      refine sk_step_store (off := 0) T37 ((Blk.new wc.drew 37 zG).chg hc2 (by simp)) hAs (by rw [hAs]; decide) hA1 (by rfl) _ _ (by rfl) (by rfl) (by rfl) ?_
      intro w3 hS3
      rw [splice_all zG _ (by first | rfl | (rw [hAs]; rfl))] at hS3
      refine hK _ _ ⟨hS3.far hHeld.1 (by simp; omega), hS3.far hHeld.2 (by simp; omega)⟩ (fun hHeld => ?_)
      clear hK K
      simp only [Act.put, List.getElem_toArray, List.getElem_cons_succ, List.getElem_cons_zero, List.setIfInBounds_toArray, List.set_cons_zero, List.set_cons_succ]
      refine wpAnyH_take (i := 11) (v := ?_) rfl (by kernel_rfl) (by kernel_rfl) (by kernel_rfl) (fun _ _ _ h => h) (Or.inl ⟨by rfl, ?_⟩) hHeld ?_
      rotate_left
      · (intro w' hSw; go_simp; try with_reducible rfl)
      simp only [Act.put, List.getElem_toArray, List.getElem_cons_succ, List.getElem_cons_zero, List.setIfInBounds_toArray, List.set_cons_zero, List.set_cons_succ]
      refine wpAnyH_done (by kernel_rfl) ?_ _
      have hcX : Chg [] w w3 := (((hcD.alloc _).then hc2).trans hS3.chg (fun k hk => by simp at hk; omega))
      have hb5X := hHeld.2
      have hboxX := hS3.blk
      clear hHeld
      have hcXd := hcX.drew
      go_upto_region 14 with (fail)
      refine wp_region_held_drew (S := fun w' => Blk w' gb 45 #[ptr c, ptr p, .slice AR n cR] ∧ Blk w' (w.heap.size + 1) 33 #[.int .i64 i, .int .u64 q]) (by kernel_rfl) ⟨(HB.out.chg hcX (by simp)).drew, hb5X.drew⟩ (fun hHeld => ?_)
      simp only [List.setIfInBounds_toArray, List.size_toArray, List.length_cons, List.length_nil, Array.replicate]
      refine wpAnyH_take (i := 0) (v := ?_) rfl (by kernel_rfl) (by kernel_rfl) (by kernel_rfl) (fun _ _ _ h => h) (Or.inl ⟨by rfl, ?_⟩) hHeld ?_
      rotate_left
      · (intro w' hSw; go_simp; try with_reducible rfl)
      simp only [Act.put, List.getElem_toArray, List.getElem_cons_succ, List.getElem_cons_zero, List.setIfInBounds_toArray, List.set_cons_zero, List.set_cons_succ]
      refine wpAnyH_take (i := 1) (v := ?_) rfl (by kernel_rfl) (by kernel_rfl) (by kernel_rfl) (fun _ _ _ h => h) (Or.inl ⟨by rfl, ?_⟩) hHeld ?_
      rotate_left
      · (intro w' hSw; go_simp; try with_reducible rfl)
      simp only [Act.put, List.getElem_toArray, List.getElem_cons_succ, List.getElem_cons_zero, List.setIfInBounds_toArray, List.set_cons_zero, List.set_cons_succ]
      refine wpAnyH_take (i := 2) (v := ?_) rfl (by kernel_rfl) (by kernel_rfl) (by kernel_rfl) (fun _ _ _ h => h) (Or.inl ⟨by rfl, ?_⟩) hHeld ?_
      rotate_left
      · (intro w' hSw; go_simp; try with_reducible rfl)
      simp only [Act.put, List.getElem_toArray, List.getElem_cons_succ, List.getElem_cons_zero, List.setIfInBounds_toArray, List.set_cons_zero, List.set_cons_succ]
      refine wpAnyH_take (i := 3) (v := ?_) rfl (by kernel_rfl) (by kernel_rfl) (by kernel_rfl) (fun _ _ _ h => h) (Or.inl ⟨by rfl, ?_⟩) hHeld ?_
      rotate_left
      · (intro w' hSw; have q0 := hSw.1.cell 1; simp only [List.getElem?_toArray, List.getElem?_cons_zero, List.getElem?_cons_succ] at *; go_simp; try with_reducible rfl)
      simp only [Act.put, List.getElem_toArray, List.getElem_cons_succ, List.getElem_cons_zero, List.setIfInBounds_toArray, List.set_cons_zero, List.set_cons_succ]
      refine wpAnyH_take (i := 4) (v := ?_) rfl (by kernel_rfl) (by kernel_rfl) (by kernel_rfl) (fun _ _ _ h => h) (Or.inl ⟨by rfl, ?_⟩) hHeld ?_
      rotate_left
      · (intro w' hSw; have q0 := hSw.2.cell 0; have q1 := hSw.2.cell 1; simp only [List.getElem?_toArray, List.getElem?_cons_zero, List.getElem?_cons_succ] at *; go_simp; try with_reducible rfl)
      simp only [Act.put, List.getElem_toArray, List.getElem_cons_succ, List.getElem_cons_zero, List.setIfInBounds_toArray, List.set_cons_zero, List.set_cons_succ]
      refine wpAnyH_ready (rs := [5]) (by kernel_rfl) (by simp) ?_
      refine AllReadyH.cons rfl (fun K hK => ?_) AllReadyH.nil
      go_simp
      refine (HIs.out _ hcXd).mono ?_
      rintro e w4 ⟨rfl, hc4⟩
      refine hK _ _ ⟨hHeld.1.chg hc4 (by simp), hHeld.2.chg hc4 (by simp)⟩ (fun hHeld => ?_)
      clear hK K
      simp only [Act.put, List.getElem_toArray, List.getElem_cons_succ, List.getElem_cons_zero, List.setIfInBounds_toArray, List.set_cons_zero, List.set_cons_succ]
      refine wpAnyH_take (i := 6) (v := ?_) rfl (by kernel_rfl) (by kernel_rfl) (by kernel_rfl) (fun _ _ _ h => h) (Or.inl ⟨by rfl, ?_⟩) hHeld ?_
      rotate_left
      · (intro w' hSw; go_simp; try with_reducible rfl)
      simp only [Act.put, List.getElem_toArray, List.getElem_cons_succ, List.getElem_cons_zero, List.setIfInBounds_toArray, List.set_cons_zero, List.set_cons_succ]
      refine wpAnyH_done (by kernel_rfl) ?_ _
      clear hHeld
      have hbz := hboxX.drew.chg hc4 (by simp)
      go_wp2_with ((with_reducible refine wpl_loadE T37 hbz rfl ?_ ?_ ?_); (· rfl); (· exact ⟨_, rfl, rfl⟩))
      go_ret
      exact ⟨rfl, t, rs, HI.out.mono (by omega), by omega, HRI.out, GmTurns.refl H.out (hcXd.then hc4)⟩
    | true =>
      have hh : t.has i q = true := by rw [← doc_is]; exact hq
      have hE : t.getE i q = 0 := by unfold Tab.getE; rw [if_pos hh]
      rw [hE] at HG
      rw [hq] at HIs
      obtain ⟨k, s, hik, hqs, hs, hth⟩ := ris_spot hq
      have hgs : t.getG i q = s.thing := by rw [hik]; exact getG_doc (by rw [← hik]; exact hh) hs
      rw [hgs] at HG hAs hA1
      have heA := (fun W => by have := eqG s.thing s.thing W; rw [geq_refl] at this; exact this : ∀ W, (binOp BinOp.eql 37 s.thing.val s.thing.val).run Try.prog W = .ok (.bool true) W)
      obtain ⟨VL, VF, hpB, hpS, hpF, hpSS⟩ := H.out.d
      obtain ⟨gl, cl, hvl, hfl, hcl, hgl, hk, _, _, hax, _⟩ := open_spot hpS hs
      rw [hvl] at hpB
      unfold Gr.val at HG heA
      generalize s.thing.arr = A at *
      have HAX := Lib.hid hax
      obtain ⟨nl, hnl⟩ : ∃ nl, nl = (docT t).L.length := ⟨_, rfl⟩
      rw [← hnl] at hpB hk
      have HPB := Lib.hid hpB
      have w8 : IntKind.i64.wrap i = i := by rw [hik]; exact IntWalk.i64_in _ (by have := HI.out.n64; have := docL_len HI.out; omega)
      have kk0 : (0 : Int) ≤ i := by omega
      have kk1 : i < (nl : Int) := by omega
      have kk2 : i.toNat = k := by omega
      clear hE hh hq hgs hik hqs hs hth hpB hpS hpF hpSS hvl hfl hcl hk hax hnl
      go_upto_region 13 with (fail)
      refine wp_region_held_drew (S := fun w' => Blk w' gb 45 #[ptr c, ptr p, .slice AR n cR] ∧ Blk w' (w.heap.size + 1) 33 #[.int .i64 i, .int .u64 q]) (by kernel_rfl) ⟨(HB.out.chg hcA (by simp)).drew, hb5.drew⟩ (fun hHeld => ?_)
      simp only [List.setIfInBounds_toArray, List.size_toArray, List.length_cons, List.length_nil, Array.replicate]
      refine wpAnyH_take (i := 0) (v := ?_) rfl (by kernel_rfl) (by kernel_rfl) (by kernel_rfl) (fun _ _ _ h => h) (Or.inl ⟨by rfl, ?_⟩) hHeld ?_
      rotate_left
      · (intro w' hSw; go_simp; try with_reducible rfl)
      simp only [Act.put, List.getElem_toArray, List.getElem_cons_succ, List.getElem_cons_zero, List.setIfInBounds_toArray, List.set_cons_zero, List.set_cons_succ]
      refine wpAnyH_take (i := 1) (v := ?_) rfl (by kernel_rfl) (by kernel_rfl) (by kernel_rfl) (fun _ _ _ h => h) (Or.inl ⟨by rfl, ?_⟩) hHeld ?_
      rotate_left
      · (intro w' hSw; go_simp; try with_reducible rfl)
      simp only [Act.put, List.getElem_toArray, List.getElem_cons_succ, List.getElem_cons_zero, List.setIfInBounds_toArray, List.set_cons_zero, List.set_cons_succ]
      refine wpAnyH_take (i := 2) (v := ?_) rfl (by kernel_rfl) (by kernel_rfl) (by kernel_rfl) (fun _ _ _ h => h) (Or.inl ⟨by rfl, ?_⟩) hHeld ?_
      rotate_left
      · (intro w' hSw; go_simp; try with_reducible rfl)
      simp only [Act.put, List.getElem_toArray, List.getElem_cons_succ, List.getElem_cons_zero, List.setIfInBounds_toArray, List.set_cons_zero, List.set_cons_succ]
      refine wpAnyH_take (i := 3) (v := ?_) rfl (by kernel_rfl) (by kernel_rfl) (by kernel_rfl) (fun _ _ _ h => h) (Or.inl ⟨by rfl, ?_⟩) hHeld ?_
      rotate_left
      · (intro w' hSw; have q0 := hSw.1.cell 0; simp only [List.getElem?_toArray, List.getElem?_cons_zero, List.getElem?_cons_succ] at *; go_simp; try with_reducible rfl)
      simp only [Act.put, List.getElem_toArray, List.getElem_cons_succ, List.getElem_cons_zero, List.setIfInBounds_toArray, List.set_cons_zero, List.set_cons_succ]
      refine wpAnyH_take (i := 4) (v := ?_) rfl (by kernel_rfl) (by kernel_rfl) (by kernel_rfl) (fun _ _ _ h => h) (Or.inl ⟨by rfl, ?_⟩) hHeld ?_
      rotate_left
      · (intro w' hSw; have q0 := hSw.2.cell 0; have q1 := hSw.2.cell 1; simp only [List.getElem?_toArray, List.getElem?_cons_zero, List.getElem?_cons_succ] at *; go_simp; try with_reducible rfl)
      simp only [Act.put, List.getElem_toArray, List.getElem_cons_succ, List.getElem_cons_zero, List.setIfInBounds_toArray, List.set_cons_zero, List.set_cons_succ]
      refine wpAnyH_ready (rs := [5, 9]) (by kernel_rfl) (by simp) ?_
      refine AllReadyH.cons rfl (fun K hK => ?_) ?_
      · go_simp
        refine (HG.out _ hcD).mono ?_
        rintro e w2 ⟨rfl, hc2⟩
        have hz2 := hc2.size
        simp only [World.size_drew] at hz2
        refine hK _ _ ⟨hHeld.1.chg hc2 (by simp), hHeld.2.chg hc2 (by simp)⟩ (fun hHeld => ?_)
        clear hK K
        simp only [Act.put, List.getElem_toArray, List.getElem_cons_succ, List.getElem_cons_zero, List.setIfInBounds_toArray, List.set_cons_zero, List.set_cons_succ]
        refine wpAnyH_take (i := 6) (v := ?_) rfl (by kernel_rfl) (by kernel_rfl) (by kernel_rfl) (fun _ _ _ h => h) (Or.inl ⟨by rfl, ?_⟩) hHeld ?_
        rotate_left
        · (intro w' hSw; go_simp; try with_reducible rfl)
        simp only [Act.put, List.getElem_toArray, List.getElem_cons_succ, List.getElem_cons_zero, List.setIfInBounds_toArray, List.set_cons_zero, List.set_cons_succ]
        refine wpAnyH_take (i := 7) (v := ?_) rfl (by kernel_rfl) (by kernel_rfl) (by kernel_rfl) (fun _ _ _ h => h) (Or.inl ⟨by rfl, ?_⟩) hHeld ?_
        rotate_left
        · (intro w' hSw; go_simp; try with_reducible rfl)
        simp only [Act.put, List.getElem_toArray, List.getElem_cons_succ, List.getElem_cons_zero, List.setIfInBounds_toArray, List.set_cons_zero, List.set_cons_succ]
        refine wpAnyH_take (i := 8) (v := ?_) rfl (by kernel_rfl) (by kernel_rfl) (by kernel_rfl) (fun _ _ _ h => h) (Or.inl ⟨by rfl, ?_⟩) hHeld ?_
        rotate_left
        · (intro w' hSw; go_simp; try with_reducible rfl)
        simp only [Act.put, List.getElem_toArray, List.getElem_cons_succ, List.getElem_cons_zero, List.setIfInBounds_toArray, List.set_cons_zero, List.set_cons_succ]
        refine wpAnyH_ready (rs := [9]) (by kernel_rfl) (by simp) ?_
        refine AllReadyH.cons rfl (fun K hK => ?_) AllReadyH.nil
        go_simp
        refine hK _ _ ⟨hHeld.1.alloc _, hHeld.2.alloc _⟩ (fun hHeld => ?_)
        clear hK K
        simp only [Act.put, List.getElem_toArray, List.getElem_cons_succ, List.getElem_cons_zero, List.setIfInBounds_toArray, List.set_cons_zero, List.set_cons_succ]
        refine wpAnyH_ready (rs := [10]) (by kernel_rfl) (by simp) ?_
        refine AllReadyH.cons rfl (fun K hK => ?_) AllReadyH.nil
        refine sk_step_store (off := 0) T37 (Blk.new w2 37 zG) hAs (by rw [hAs]; decide) hA1 (by rfl) _ _ (by rfl) (by rfl) (by rfl) ?_
        intro w3 hS3
        rw [splice_all zG _ (by first | rfl | (rw [hAs]; rfl))] at hS3
        refine hK _ _ ⟨hS3.far hHeld.1 (by simp; omega), hS3.far hHeld.2 (by simp; omega)⟩ (fun hHeld => ?_)
        clear hK K
        simp only [Act.put, List.getElem_toArray, List.getElem_cons_succ, List.getElem_cons_zero, List.setIfInBounds_toArray, List.set_cons_zero, List.set_cons_succ]
        refine wpAnyH_take (i := 11) (v := ?_) rfl (by kernel_rfl) (by kernel_rfl) (by kernel_rfl) (fun _ _ _ h => h) (Or.inl ⟨by rfl, ?_⟩) hHeld ?_
        rotate_left
        · (intro w' hSw; go_simp; try with_reducible rfl)
        simp only [Act.put, List.getElem_toArray, List.getElem_cons_succ, List.getElem_cons_zero, List.setIfInBounds_toArray, List.set_cons_zero, List.set_cons_succ]
        refine wpAnyH_done (by kernel_rfl) ?_ _
        have hcX : Chg [] w w3 := (((hcD.then hc2).alloc _).trans hS3.chg (fun k hk => by simp at hk; omega))
        have hb5X := hHeld.2
        have hboxX := hS3.blk
        clear hHeld
        have hcXd := hcX.drew
        go_upto_region 14 with (fail)
        refine wp_region_held_drew (S := fun w' => Blk w' gb 45 #[ptr c, ptr p, .slice AR n cR] ∧ Blk w' (w.heap.size + 1) 33 #[.int .i64 i, .int .u64 q]) (by kernel_rfl) ⟨(HB.out.chg hcX (by simp)).drew, hb5X.drew⟩ (fun hHeld => ?_)
        simp only [List.setIfInBounds_toArray, List.size_toArray, List.length_cons, List.length_nil, Array.replicate]
        refine wpAnyH_take (i := 0) (v := ?_) rfl (by kernel_rfl) (by kernel_rfl) (by kernel_rfl) (fun _ _ _ h => h) (Or.inl ⟨by rfl, ?_⟩) hHeld ?_
        rotate_left
        · (intro w' hSw; go_simp; try with_reducible rfl)
        simp only [Act.put, List.getElem_toArray, List.getElem_cons_succ, List.getElem_cons_zero, List.setIfInBounds_toArray, List.set_cons_zero, List.set_cons_succ]
        refine wpAnyH_take (i := 1) (v := ?_) rfl (by kernel_rfl) (by kernel_rfl) (by kernel_rfl) (fun _ _ _ h => h) (Or.inl ⟨by rfl, ?_⟩) hHeld ?_
        rotate_left
        · (intro w' hSw; go_simp; try with_reducible rfl)
        simp only [Act.put, List.getElem_toArray, List.getElem_cons_succ, List.getElem_cons_zero, List.setIfInBounds_toArray, List.set_cons_zero, List.set_cons_succ]
        refine wpAnyH_take (i := 2) (v := ?_) rfl (by kernel_rfl) (by kernel_rfl) (by kernel_rfl) (fun _ _ _ h => h) (Or.inl ⟨by rfl, ?_⟩) hHeld ?_
        rotate_left
        · (intro w' hSw; go_simp; try with_reducible rfl)
        simp only [Act.put, List.getElem_toArray, List.getElem_cons_succ, List.getElem_cons_zero, List.setIfInBounds_toArray, List.set_cons_zero, List.set_cons_succ]
        refine wpAnyH_take (i := 3) (v := ?_) rfl (by kernel_rfl) (by kernel_rfl) (by kernel_rfl) (fun _ _ _ h => h) (Or.inl ⟨by rfl, ?_⟩) hHeld ?_
        rotate_left
        · (intro w' hSw; have q0 := hSw.1.cell 1; simp only [List.getElem?_toArray, List.getElem?_cons_zero, List.getElem?_cons_succ] at *; go_simp; try with_reducible rfl)
        simp only [Act.put, List.getElem_toArray, List.getElem_cons_succ, List.getElem_cons_zero, List.setIfInBounds_toArray, List.set_cons_zero, List.set_cons_succ]
        refine wpAnyH_take (i := 4) (v := ?_) rfl (by kernel_rfl) (by kernel_rfl) (by kernel_rfl) (fun _ _ _ h => h) (Or.inl ⟨by rfl, ?_⟩) hHeld ?_
        rotate_left
        · (intro w' hSw; have q0 := hSw.2.cell 0; have q1 := hSw.2.cell 1; simp only [List.getElem?_toArray, List.getElem?_cons_zero, List.getElem?_cons_succ] at *; go_simp; try with_reducible rfl)
        simp only [Act.put, List.getElem_toArray, List.getElem_cons_succ, List.getElem_cons_zero, List.setIfInBounds_toArray, List.set_cons_zero, List.set_cons_succ]
        refine wpAnyH_ready (rs := [5]) (by kernel_rfl) (by simp) ?_
        refine AllReadyH.cons rfl (fun K hK => ?_) AllReadyH.nil
        go_simp
        refine (HIs.out _ hcXd).mono ?_
        rintro e w4 ⟨rfl, hc4⟩
        refine hK _ _ ⟨hHeld.1.chg hc4 (by simp), hHeld.2.chg hc4 (by simp)⟩ (fun hHeld => ?_)
        clear hK K
        simp only [Act.put, List.getElem_toArray, List.getElem_cons_succ, List.getElem_cons_zero, List.setIfInBounds_toArray, List.set_cons_zero, List.set_cons_succ]
        refine wpAnyH_take (i := 6) (v := ?_) rfl (by kernel_rfl) (by kernel_rfl) (by kernel_rfl) (fun _ _ _ h => h) (Or.inl ⟨by rfl, ?_⟩) hHeld ?_
        rotate_left
        · (intro w' hSw; go_simp; try with_reducible rfl)
        simp only [Act.put, List.getElem_toArray, List.getElem_cons_succ, List.getElem_cons_zero, List.setIfInBounds_toArray, List.set_cons_zero, List.set_cons_succ]
        refine wpAnyH_done (by kernel_rfl) ?_ _
        clear hHeld
        go_upto_region 16 with (fail)
        have hcY := (hcXd.then hc4).drew
        have hbz := (hboxX.drew.chg hc4 (by simp)).drew
        have hb5Y := (hb5X.drew.chg hc4 (by simp)).drew
        have hptr := (HPB.out.chg hcY (by simp)).cell 0
        have g1 := (HB.out.chg hcY (by simp)).cell 1
        have i0 := hb5Y.cell 0
        have hax : ∀ j v, A[j]? = some v → (World.drew w4).cell? ⟨gl, k * 21 + 2 + j, none⟩ = some v := fun j v hv => (hcY.cell (p := ⟨gl, k * 21 + 2 + j, none⟩) hgl (by simp)).trans (HAX.out j v hv)
        have hbc := blk_cells hbz
        simp only [List.getElem?_toArray, List.getElem?_cons_zero, List.getElem?_cons_succ] at hptr g1 i0
        clear hcX hcXd hc4 hb5X hboxX hS3 hc2 hb5Y hbz hz2
        refine wp_region_still_lit (by kernel_rfl) (by kernel_rfl) ?_
        (try change wpStill _ _ (World.drew _) _ _ _)
        generalize hwd : World.drew w4 = wd at *
        have HWD := Lib.hid hwd
        clear hwd
        still_step
        still_step
        still_step
        refine wpStill_load T37 hAs hbc rfl ⟨_, rfl, rfl⟩ ?_
        still_step
        still_step
        still_step
        still_step
        still_step
        still_step
        still_step
        still_step
        still_step
        still_step
        still_step
        refine wpStill_load T37 hAs hax rfl ⟨_, rfl, rfl⟩ ?_
        (repeat still_step)
        refine wpStill_nil ?_
        go_wp2
        go_ret
        exact ⟨rfl, t, rs, HI.out.mono (by omega), by omega, HRI.out, GmTurns.refl H.out (by change Chg [] w (World.drew w4); rw [HWD.out]; exact hcY)⟩
      refine AllReadyH.cons rfl (fun K hK => ?_) AllReadyH.nil
      go_simp
      refine hK _ _ ⟨hHeld.1.alloc _, hHeld.2.alloc _⟩ (fun hHeld => ?_)
      clear hK K
      simp only [Act.put, List.getElem_toArray, List.getElem_cons_succ, List.getElem_cons_zero, List.setIfInBounds_toArray, List.set_cons_zero, List.set_cons_succ]
      refine wpAnyH_ready (rs := [5]) (by kernel_rfl) (by simp) ?_
      refine AllReadyH.cons rfl (fun K hK => ?_) AllReadyH.nil
      go_simp
      refine (HG.out _ (hcD.alloc _)).mono ?_
      rintro e w2 ⟨rfl, hc2⟩
      have hz2 := hc2.size
      simp only [World.size_alloc, World.size_drew] at hz2
      refine hK _ _ ⟨hHeld.1.chg hc2 (by simp), hHeld.2.chg hc2 (by simp)⟩ (fun hHeld => ?_)
      clear hK K
      simp only [Act.put, List.getElem_toArray, List.getElem_cons_succ, List.getElem_cons_zero, List.setIfInBounds_toArray, List.set_cons_zero, List.set_cons_succ]
      refine wpAnyH_take (i := 6) (v := ?_) rfl (by kernel_rfl) (by kernel_rfl) (by kernel_rfl) (fun _ _ _ h => h) (Or.inl ⟨by rfl, ?_⟩) hHeld ?_
      rotate_left
      · (intro w' hSw; go_simp; try with_reducible rfl)
      simp only [Act.put, List.getElem_toArray, List.getElem_cons_succ, List.getElem_cons_zero, List.setIfInBounds_toArray, List.set_cons_zero, List.set_cons_succ]
      refine wpAnyH_take (i := 7) (v := ?_) rfl (by kernel_rfl) (by kernel_rfl) (by kernel_rfl) (fun _ _ _ h => h) (Or.inl ⟨by rfl, ?_⟩) hHeld ?_
      rotate_left
      · (intro w' hSw; go_simp; try with_reducible rfl)
      simp only [Act.put, List.getElem_toArray, List.getElem_cons_succ, List.getElem_cons_zero, List.setIfInBounds_toArray, List.set_cons_zero, List.set_cons_succ]
      refine wpAnyH_take (i := 8) (v := ?_) rfl (by kernel_rfl) (by kernel_rfl) (by kernel_rfl) (fun _ _ _ h => h) (Or.inl ⟨by rfl, ?_⟩) hHeld ?_
      rotate_left
      · (intro w' hSw; go_simp; try with_reducible rfl)
      simp only [Act.put, List.getElem_toArray, List.getElem_cons_succ, List.getElem_cons_zero, List.setIfInBounds_toArray, List.set_cons_zero, List.set_cons_succ]
      refine wpAnyH_ready (rs := [10]) (by kernel_rfl) (by simp) ?_
      refine AllReadyH.cons rfl (fun K hK => ?_) AllReadyH.nil
      refine sk_step_store (off := 0) T37 ((Blk.new wc.drew 37 zG).chg hc2 (by simp)) hAs (by rw [hAs]; decide) hA1 (by rfl) _ _ (by rfl) (by rfl) (by rfl) ?_
      intro w3 hS3
      rw [splice_all zG _ (by first | rfl | (rw [hAs]; rfl))] at hS3
      refine hK _ _ ⟨hS3.far hHeld.1 (by simp; omega), hS3.far hHeld.2 (by simp; omega)⟩ (fun hHeld => ?_)
      clear hK K
      simp only [Act.put, List.getElem_toArray, List.getElem_cons_succ, List.getElem_cons_zero, List.setIfInBounds_toArray, List.set_cons_zero, List.set_cons_succ]
      refine wpAnyH_take (i := 11) (v := ?_) rfl (by kernel_rfl) (by kernel_rfl) (by kernel_rfl) (fun _ _ _ h => h) (Or.inl ⟨by rfl, ?_⟩) hHeld ?_
      rotate_left
      · (intro w' hSw; go_simp; try with_reducible rfl)
      simp only [Act.put, List.getElem_toArray, List.getElem_cons_succ, List.getElem_cons_zero, List.setIfInBounds_toArray, List.set_cons_zero, List.set_cons_succ]
      refine wpAnyH_done (by kernel_rfl) ?_ _
      have hcX : Chg [] w w3 := (((hcD.alloc _).then hc2).trans hS3.chg (fun k hk => by simp at hk; omega))
      have hb5X := hHeld.2
      have hboxX := hS3.blk
      clear hHeld
      have hcXd := hcX.drew
      go_upto_region 14 with (fail)
      refine wp_region_held_drew (S := fun w' => Blk w' gb 45 #[ptr c, ptr p, .slice AR n cR] ∧ Blk w' (w.heap.size + 1) 33 #[.int .i64 i, .int .u64 q]) (by kernel_rfl) ⟨(HB.out.chg hcX (by simp)).drew, hb5X.drew⟩ (fun hHeld => ?_)
      simp only [List.setIfInBounds_toArray, List.size_toArray, List.length_cons, List.length_nil, Array.replicate]
      refine wpAnyH_take (i := 0) (v := ?_) rfl (by kernel_rfl) (by kernel_rfl) (by kernel_rfl) (fun _ _ _ h => h) (Or.inl ⟨by rfl, ?_⟩) hHeld ?_
      rotate_left
      · (intro w' hSw; go_simp; try with_reducible rfl)
      simp only [Act.put, List.getElem_toArray, List.getElem_cons_succ, List.getElem_cons_zero, List.setIfInBounds_toArray, List.set_cons_zero, List.set_cons_succ]
      refine wpAnyH_take (i := 1) (v := ?_) rfl (by kernel_rfl) (by kernel_rfl) (by kernel_rfl) (fun _ _ _ h => h) (Or.inl ⟨by rfl, ?_⟩) hHeld ?_
      rotate_left
      · (intro w' hSw; go_simp; try with_reducible rfl)
      simp only [Act.put, List.getElem_toArray, List.getElem_cons_succ, List.getElem_cons_zero, List.setIfInBounds_toArray, List.set_cons_zero, List.set_cons_succ]
      refine wpAnyH_take (i := 2) (v := ?_) rfl (by kernel_rfl) (by kernel_rfl) (by kernel_rfl) (fun _ _ _ h => h) (Or.inl ⟨by rfl, ?_⟩) hHeld ?_
      rotate_left
      · (intro w' hSw; go_simp; try with_reducible rfl)
      simp only [Act.put, List.getElem_toArray, List.getElem_cons_succ, List.getElem_cons_zero, List.setIfInBounds_toArray, List.set_cons_zero, List.set_cons_succ]
      refine wpAnyH_take (i := 3) (v := ?_) rfl (by kernel_rfl) (by kernel_rfl) (by kernel_rfl) (fun _ _ _ h => h) (Or.inl ⟨by rfl, ?_⟩) hHeld ?_
      rotate_left
      · (intro w' hSw; have q0 := hSw.1.cell 1; simp only [List.getElem?_toArray, List.getElem?_cons_zero, List.getElem?_cons_succ] at *; go_simp; try with_reducible rfl)
      simp only [Act.put, List.getElem_toArray, List.getElem_cons_succ, List.getElem_cons_zero, List.setIfInBounds_toArray, List.set_cons_zero, List.set_cons_succ]
      refine wpAnyH_take (i := 4) (v := ?_) rfl (by kernel_rfl) (by kernel_rfl) (by kernel_rfl) (fun _ _ _ h => h) (Or.inl ⟨by rfl, ?_⟩) hHeld ?_
      rotate_left
      · (intro w' hSw; have q0 := hSw.2.cell 0; have q1 := hSw.2.cell 1; simp only [List.getElem?_toArray, List.getElem?_cons_zero, List.getElem?_cons_succ] at *; go_simp; try with_reducible rfl)
      simp only [Act.put, List.getElem_toArray, List.getElem_cons_succ, List.getElem_cons_zero, List.setIfInBounds_toArray, List.set_cons_zero, List.set_cons_succ]
      refine wpAnyH_ready (rs := [5]) (by kernel_rfl) (by simp) ?_
      refine AllReadyH.cons rfl (fun K hK => ?_) AllReadyH.nil
      go_simp
      refine (HIs.out _ hcXd).mono ?_
      rintro e w4 ⟨rfl, hc4⟩
      refine hK _ _ ⟨hHeld.1.chg hc4 (by simp), hHeld.2.chg hc4 (by simp)⟩ (fun hHeld => ?_)
      clear hK K
      simp only [Act.put, List.getElem_toArray, List.getElem_cons_succ, List.getElem_cons_zero, List.setIfInBounds_toArray, List.set_cons_zero, List.set_cons_succ]
      refine wpAnyH_take (i := 6) (v := ?_) rfl (by kernel_rfl) (by kernel_rfl) (by kernel_rfl) (fun _ _ _ h => h) (Or.inl ⟨by rfl, ?_⟩) hHeld ?_
      rotate_left
      · (intro w' hSw; go_simp; try with_reducible rfl)
      simp only [Act.put, List.getElem_toArray, List.getElem_cons_succ, List.getElem_cons_zero, List.setIfInBounds_toArray, List.set_cons_zero, List.set_cons_succ]
      refine wpAnyH_done (by kernel_rfl) ?_ _
      clear hHeld
      go_upto_region 16 with (fail)
      have hcY := (hcXd.then hc4).drew
      have hbz := (hboxX.drew.chg hc4 (by simp)).drew
      have hb5Y := (hb5X.drew.chg hc4 (by simp)).drew
      have hptr := (HPB.out.chg hcY (by simp)).cell 0
      have g1 := (HB.out.chg hcY (by simp)).cell 1
      have i0 := hb5Y.cell 0
      have hax : ∀ j v, A[j]? = some v → (World.drew w4).cell? ⟨gl, k * 21 + 2 + j, none⟩ = some v := fun j v hv => (hcY.cell (p := ⟨gl, k * 21 + 2 + j, none⟩) hgl (by simp)).trans (HAX.out j v hv)
      have hbc := blk_cells hbz
      simp only [List.getElem?_toArray, List.getElem?_cons_zero, List.getElem?_cons_succ] at hptr g1 i0
      clear hcX hcXd hc4 hb5X hboxX hS3 hc2 hb5Y hbz hz2
      refine wp_region_still_lit (by kernel_rfl) (by kernel_rfl) ?_
      (try change wpStill _ _ (World.drew _) _ _ _)
      generalize hwd : World.drew w4 = wd at *
      have HWD := Lib.hid hwd
      clear hwd
      still_step
      still_step
      still_step
      refine wpStill_load T37 hAs hbc rfl ⟨_, rfl, rfl⟩ ?_
      still_step
      still_step
      still_step
      still_step
      still_step
      still_step
      still_step
      still_step
      still_step
      still_step
      still_step
      refine wpStill_load T37 hAs hax rfl ⟨_, rfl, rfl⟩ ?_
      (repeat still_step)
      refine wpStill_nil ?_
      go_wp2
      go_ret
      exact ⟨rfl, t, rs, HI.out.mono (by omega), by omega, HRI.out, GmTurns.refl H.out (by change Chg [] w (World.drew w4); rw [HWD.out]; exact hcY)⟩
  by_cases hn0 : n = 0
  · have hn0' : ¬ (0 < n) := by omega
    clear hVRlt
    go_enter Try.func11, Try.ntmps11
    go_upto_region 4 with (fail)
    generalize World.alloc (World.alloc w _) _ = wc at *
    obtain ⟨i, q, hb5, hii⟩ : ∃ i q, Blk wc (w.heap.size + 1) 33 #[.int .i64 i, .int .u64 q] ∧ inI i := ⟨ri, rq, hb5A, hri0⟩
    clear y1 y2 e3 g2 hb3 ha a0 a1 hn0 hn0' hb5A
    have z0 := (hb3A.cell 0).trans X0
    have hzz := hcA.size
    have hlt5 := hb5.lt
    have HIs := Lib.hid (fun W (hc : Chg [] w W) => rIs_any (H.out.d.quiet hc) (by rw [docL_len HI.out]; exact HI.out.n64) i q hii)
    have HG := Lib.hid (fun W (hc : Chg [] w W) => Get_any (H.out.g.quiet hc) i q hii)
    have hAs := (t.getG i q).size
    have hA1 := (t.getG i q).one
    have hcD := hcA.drew
    cases hq : (docT t).is i q with
    | false =>
      have hh : t.has i q = false := by rw [← doc_is]; exact hq
      have hE : t.getE i q = 11 := by unfold Tab.getE; rw [if_neg (by simp [hh])]
      rw [hE, getG_no hh] at HG
      rw [getG_no hh] at hAs hA1
      rw [hq] at HIs
      have he0 : ∀ W, (binOp BinOp.eql 37 (.agg zG) (.agg zG)).run Try.prog W = .ok (.bool true) W := fun W => by have := eqG Gr.zero Gr.zero W; rw [geq_refl] at this; exact this
      change Hid (∀ W (hc : Chg [] w W), Calls Try.prog 17 #[ptr c, .agg #[.int .i64 i, .int .u64 q]] W fun e w' => e = .returned (.tuple #[.agg zG, .int .i64 11]) ∧ Chg [] W w') at HG
      change zG.size = 19 at hAs
      change zG.all (·.oneCell') = true at hA1
      clear hE hh hq
      go_upto_region 13 with (fail)
      refine wp_region_held_drew (S := fun w' => Blk w' gb 45 #[ptr c, ptr p, .slice AR n cR] ∧ Blk w' (w.heap.size + 1) 33 #[.int .i64 i, .int .u64 q]) (by kernel_rfl) ⟨(HB.out.chg hcA (by simp)).drew, hb5.drew⟩ (fun hHeld => ?_)
      simp only [List.setIfInBounds_toArray, List.size_toArray, List.length_cons, List.length_nil, Array.replicate]
      refine wpAnyH_take (i := 0) (v := ?_) rfl (by kernel_rfl) (by kernel_rfl) (by kernel_rfl) (fun _ _ _ h => h) (Or.inl ⟨by rfl, ?_⟩) hHeld ?_
      rotate_left
      · (intro w' hSw; go_simp; try with_reducible rfl)
      simp only [Act.put, List.getElem_toArray, List.getElem_cons_succ, List.getElem_cons_zero, List.setIfInBounds_toArray, List.set_cons_zero, List.set_cons_succ]
      refine wpAnyH_take (i := 1) (v := ?_) rfl (by kernel_rfl) (by kernel_rfl) (by kernel_rfl) (fun _ _ _ h => h) (Or.inl ⟨by rfl, ?_⟩) hHeld ?_
      rotate_left
      · (intro w' hSw; go_simp; try with_reducible rfl)
      simp only [Act.put, List.getElem_toArray, List.getElem_cons_succ, List.getElem_cons_zero, List.setIfInBounds_toArray, List.set_cons_zero, List.set_cons_succ]
      refine wpAnyH_take (i := 2) (v := ?_) rfl (by kernel_rfl) (by kernel_rfl) (by kernel_rfl) (fun _ _ _ h => h) (Or.inl ⟨by rfl, ?_⟩) hHeld ?_
      rotate_left
      · (intro w' hSw; go_simp; try with_reducible rfl)
      simp only [Act.put, List.getElem_toArray, List.getElem_cons_succ, List.getElem_cons_zero, List.setIfInBounds_toArray, List.set_cons_zero, List.set_cons_succ]
      refine wpAnyH_take (i := 3) (v := ?_) rfl (by kernel_rfl) (by kernel_rfl) (by kernel_rfl) (fun _ _ _ h => h) (Or.inl ⟨by rfl, ?_⟩) hHeld ?_
      rotate_left
      · (intro w' hSw; have q0 := hSw.1.cell 0; simp only [List.getElem?_toArray, List.getElem?_cons_zero, List.getElem?_cons_succ] at *; go_simp; try with_reducible rfl)
      simp only [Act.put, List.getElem_toArray, List.getElem_cons_succ, List.getElem_cons_zero, List.setIfInBounds_toArray, List.set_cons_zero, List.set_cons_succ]
      refine wpAnyH_take (i := 4) (v := ?_) rfl (by kernel_rfl) (by kernel_rfl) (by kernel_rfl) (fun _ _ _ h => h) (Or.inl ⟨by rfl, ?_⟩) hHeld ?_
      rotate_left
      · (intro w' hSw; have q0 := hSw.2.cell 0; have q1 := hSw.2.cell 1; simp only [List.getElem?_toArray, List.getElem?_cons_zero, List.getElem?_cons_succ] at *; go_simp; try with_reducible rfl)
      simp only [Act.put, List.getElem_toArray, List.getElem_cons_succ, List.getElem_cons_zero, List.setIfInBounds_toArray, List.set_cons_zero, List.set_cons_succ]
      refine wpAnyH_ready (rs := [5, 9]) (by kernel_rfl) (by simp) ?_
      refine AllReadyH.cons rfl (fun K hK => ?_) ?_
      · go_simp
        refine (HG.out _ hcD).mono ?_
        rintro e w2 ⟨rfl, hc2⟩
        have hz2 := hc2.size
        simp only [World.size_drew] at hz2
        refine hK _ _ ⟨hHeld.1.chg hc2 (by simp), hHeld.2.chg hc2 (by simp)⟩ (fun hHeld => ?_)
        clear hK K
        simp only [Act.put, List.getElem_toArray, List.getElem_cons_succ, List.getElem_cons_zero, List.setIfInBounds_toArray, List.set_cons_zero, List.set_cons_succ]
        refine wpAnyH_take (i := 6) (v := ?_) rfl (by kernel_rfl) (by kernel_rfl) (by kernel_rfl) (fun _ _ _ h => h) (Or.inl ⟨by rfl, ?_⟩) hHeld ?_
        rotate_left
        · (intro w' hSw; go_simp; try with_reducible rfl)
        simp only [Act.put, List.getElem_toArray, List.getElem_cons_succ, List.getElem_cons_zero, List.setIfInBounds_toArray, List.set_cons_zero, List.set_cons_succ]
        refine wpAnyH_take (i := 7) (v := ?_) rfl (by kernel_rfl) (by kernel_rfl) (by kernel_rfl) (fun _ _ _ h => h) (Or.inl ⟨by rfl, ?_⟩) hHeld ?_
        rotate_left
        · (intro w' hSw; go_simp; try with_reducible rfl)
        simp only [Act.put, List.getElem_toArray, List.getElem_cons_succ, List.getElem_cons_zero, List.setIfInBounds_toArray, List.set_cons_zero, List.set_cons_succ]
        refine wpAnyH_take (i := 8) (v := ?_) rfl (by kernel_rfl) (by kernel_rfl) (by kernel_rfl) (fun _ _ _ h => h) (Or.inl ⟨by rfl, ?_⟩) hHeld ?_
        rotate_left
        · (intro w' hSw; go_simp; try with_reducible rfl)
        simp only [Act.put, List.getElem_toArray, List.getElem_cons_succ, List.getElem_cons_zero, List.setIfInBounds_toArray, List.set_cons_zero, List.set_cons_succ]
        refine wpAnyH_ready (rs := [9]) (by kernel_rfl) (by simp) ?_
        refine AllReadyH.cons rfl (fun K hK => ?_) AllReadyH.nil
        go_simp
        refine hK _ _ ⟨hHeld.1.alloc _, hHeld.2.alloc _⟩ (fun hHeld => ?_)
        clear hK K
        simp only [Act.put, List.getElem_toArray, List.getElem_cons_succ, List.getElem_cons_zero, List.setIfInBounds_toArray, List.set_cons_zero, List.set_cons_succ]
        refine wpAnyH_ready (rs := [10]) (by kernel_rfl) (by simp) ?_
        refine AllReadyH.cons rfl (fun K hK => ?_) AllReadyH.nil
        refine sk_step_store (off := 0) T37 (Blk.new w2 37 zG) hAs (by rw [hAs]; decide) hA1 (by rfl) _ _ (by rfl) (by rfl) (by rfl) ?_
        intro w3 hS3
        rw [splice_all zG _ (by first | rfl | (rw [hAs]; rfl))] at hS3
        refine hK _ _ ⟨hS3.far hHeld.1 (by simp; omega), hS3.far hHeld.2 (by simp; omega)⟩ (fun hHeld => ?_)
        clear hK K
        simp only [Act.put, List.getElem_toArray, List.getElem_cons_succ, List.getElem_cons_zero, List.setIfInBounds_toArray, List.set_cons_zero, List.set_cons_succ]
        refine wpAnyH_take (i := 11) (v := ?_) rfl (by kernel_rfl) (by kernel_rfl) (by kernel_rfl) (fun _ _ _ h => h) (Or.inl ⟨by rfl, ?_⟩) hHeld ?_
        rotate_left
        · (intro w' hSw; go_simp; try with_reducible rfl)
        simp only [Act.put, List.getElem_toArray, List.getElem_cons_succ, List.getElem_cons_zero, List.setIfInBounds_toArray, List.set_cons_zero, List.set_cons_succ]
        refine wpAnyH_done (by kernel_rfl) ?_ _
        have hcX : Chg [] w w3 := (((hcD.then hc2).alloc _).trans hS3.chg (fun k hk => by simp at hk; omega))
        have hb5X := hHeld.2
        have hboxX := hS3.blk
        clear hHeld
        have hcXd := hcX.drew
        go_upto_region 14 with (fail)
        refine wp_region_held_drew (S := fun w' => Blk w' gb 45 #[ptr c, ptr p, .slice AR n cR] ∧ Blk w' (w.heap.size + 1) 33 #[.int .i64 i, .int .u64 q]) (by kernel_rfl) ⟨(HB.out.chg hcX (by simp)).drew, hb5X.drew⟩ (fun hHeld => ?_)
        simp only [List.setIfInBounds_toArray, List.size_toArray, List.length_cons, List.length_nil, Array.replicate]
        refine wpAnyH_take (i := 0) (v := ?_) rfl (by kernel_rfl) (by kernel_rfl) (by kernel_rfl) (fun _ _ _ h => h) (Or.inl ⟨by rfl, ?_⟩) hHeld ?_
        rotate_left
        · (intro w' hSw; go_simp; try with_reducible rfl)
        simp only [Act.put, List.getElem_toArray, List.getElem_cons_succ, List.getElem_cons_zero, List.setIfInBounds_toArray, List.set_cons_zero, List.set_cons_succ]
        refine wpAnyH_take (i := 1) (v := ?_) rfl (by kernel_rfl) (by kernel_rfl) (by kernel_rfl) (fun _ _ _ h => h) (Or.inl ⟨by rfl, ?_⟩) hHeld ?_
        rotate_left
        · (intro w' hSw; go_simp; try with_reducible rfl)
        simp only [Act.put, List.getElem_toArray, List.getElem_cons_succ, List.getElem_cons_zero, List.setIfInBounds_toArray, List.set_cons_zero, List.set_cons_succ]
        refine wpAnyH_take (i := 2) (v := ?_) rfl (by kernel_rfl) (by kernel_rfl) (by kernel_rfl) (fun _ _ _ h => h) (Or.inl ⟨by rfl, ?_⟩) hHeld ?_
        rotate_left
        · (intro w' hSw; go_simp; try with_reducible rfl)
        simp only [Act.put, List.getElem_toArray, List.getElem_cons_succ, List.getElem_cons_zero, List.setIfInBounds_toArray, List.set_cons_zero, List.set_cons_succ]
        refine wpAnyH_take (i := 3) (v := ?_) rfl (by kernel_rfl) (by kernel_rfl) (by kernel_rfl) (fun _ _ _ h => h) (Or.inl ⟨by rfl, ?_⟩) hHeld ?_
        rotate_left
        · (intro w' hSw; have q0 := hSw.1.cell 1; simp only [List.getElem?_toArray, List.getElem?_cons_zero, List.getElem?_cons_succ] at *; go_simp; try with_reducible rfl)
        simp only [Act.put, List.getElem_toArray, List.getElem_cons_succ, List.getElem_cons_zero, List.setIfInBounds_toArray, List.set_cons_zero, List.set_cons_succ]
        refine wpAnyH_take (i := 4) (v := ?_) rfl (by kernel_rfl) (by kernel_rfl) (by kernel_rfl) (fun _ _ _ h => h) (Or.inl ⟨by rfl, ?_⟩) hHeld ?_
        rotate_left
        · (intro w' hSw; have q0 := hSw.2.cell 0; have q1 := hSw.2.cell 1; simp only [List.getElem?_toArray, List.getElem?_cons_zero, List.getElem?_cons_succ] at *; go_simp; try with_reducible rfl)
        simp only [Act.put, List.getElem_toArray, List.getElem_cons_succ, List.getElem_cons_zero, List.setIfInBounds_toArray, List.set_cons_zero, List.set_cons_succ]
        refine wpAnyH_ready (rs := [5]) (by kernel_rfl) (by simp) ?_
        refine AllReadyH.cons rfl (fun K hK => ?_) AllReadyH.nil
        go_simp
        refine (HIs.out _ hcXd).mono ?_
        rintro e w4 ⟨rfl, hc4⟩
        refine hK _ _ ⟨hHeld.1.chg hc4 (by simp), hHeld.2.chg hc4 (by simp)⟩ (fun hHeld => ?_)
        clear hK K
        simp only [Act.put, List.getElem_toArray, List.getElem_cons_succ, List.getElem_cons_zero, List.setIfInBounds_toArray, List.set_cons_zero, List.set_cons_succ]
        refine wpAnyH_take (i := 6) (v := ?_) rfl (by kernel_rfl) (by kernel_rfl) (by kernel_rfl) (fun _ _ _ h => h) (Or.inl ⟨by rfl, ?_⟩) hHeld ?_
        rotate_left
        · (intro w' hSw; go_simp; try with_reducible rfl)
        simp only [Act.put, List.getElem_toArray, List.getElem_cons_succ, List.getElem_cons_zero, List.setIfInBounds_toArray, List.set_cons_zero, List.set_cons_succ]
        refine wpAnyH_done (by kernel_rfl) ?_ _
        clear hHeld
        have hbz := hboxX.drew.chg hc4 (by simp)
        go_wp2_with ((with_reducible refine wpl_loadE T37 hbz rfl ?_ ?_ ?_); (· rfl); (· exact ⟨_, rfl, rfl⟩))
        go_ret
        exact ⟨rfl, t, rs, HI.out.mono (by omega), by omega, HRI.out, GmTurns.refl H.out (hcXd.then hc4)⟩
      refine AllReadyH.cons rfl (fun K hK => ?_) AllReadyH.nil
      go_simp
      refine hK _ _ ⟨hHeld.1.alloc _, hHeld.2.alloc _⟩ (fun hHeld => ?_)
      clear hK K
      simp only [Act.put, List.getElem_toArray, List.getElem_cons_succ, List.getElem_cons_zero, List.setIfInBounds_toArray, List.set_cons_zero, List.set_cons_succ]
      refine wpAnyH_ready (rs := [5]) (by kernel_rfl) (by simp) ?_
      refine AllReadyH.cons rfl (fun K hK => ?_) AllReadyH.nil
      go_simp
      refine (HG.out _ (hcD.alloc _)).mono ?_
      rintro e w2 ⟨rfl, hc2⟩
      have hz2 := hc2.size
      simp only [World.size_alloc, World.size_drew] at hz2
      refine hK _ _ ⟨hHeld.1.chg hc2 (by simp), hHeld.2.chg hc2 (by simp)⟩ (fun hHeld => ?_)
      clear hK K
      simp only [Act.put, List.getElem_toArray, List.getElem_cons_succ, List.getElem_cons_zero, List.setIfInBounds_toArray, List.set_cons_zero, List.set_cons_succ]
      refine wpAnyH_take (i := 6) (v := ?_) rfl (by kernel_rfl) (by kernel_rfl) (by kernel_rfl) (fun _ _ _ h => h) (Or.inl ⟨by rfl, ?_⟩) hHeld ?_
      rotate_left
      · (intro w' hSw; go_simp; try with_reducible rfl)
      simp only [Act.put, List.getElem_toArray, List.getElem_cons_succ, List.getElem_cons_zero, List.setIfInBounds_toArray, List.set_cons_zero, List.set_cons_succ]
      refine wpAnyH_take (i := 7) (v := ?_) rfl (by kernel_rfl) (by kernel_rfl) (by kernel_rfl) (fun _ _ _ h => h) (Or.inl ⟨by rfl, ?_⟩) hHeld ?_
      rotate_left
      · (intro w' hSw; go_simp; try with_reducible rfl)
      simp only [Act.put, List.getElem_toArray, List.getElem_cons_succ, List.getElem_cons_zero, List.setIfInBounds_toArray, List.set_cons_zero, List.set_cons_succ]
      refine wpAnyH_take (i := 8) (v := ?_) rfl (by kernel_rfl) (by kernel_rfl) (by kernel_rfl) (fun _ _ _ h => h) (Or.inl ⟨by rfl, ?_⟩) hHeld ?_
      rotate_left
      · (intro w' hSw; go_simp; try with_reducible rfl)
      simp only [Act.put, List.getElem_toArray, List.getElem_cons_succ, List.getElem_cons_zero, List.setIfInBounds_toArray, List.set_cons_zero, List.set_cons_succ]
      refine wpAnyH_ready (rs := [10]) (by kernel_rfl) (by simp) ?_
      refine AllReadyH.cons rfl (fun K hK => ?_) AllReadyH.nil
      refine sk_step_store (off := 0) T37 ((Blk.new wc.drew 37 zG).chg hc2 (by simp)) hAs (by rw [hAs]; decide) hA1 (by rfl) _ _ (by rfl) (by rfl) (by rfl) ?_
      intro w3 hS3
      rw [splice_all zG _ (by first | rfl | (rw [hAs]; rfl))] at hS3
      refine hK _ _ ⟨hS3.far hHeld.1 (by simp; omega), hS3.far hHeld.2 (by simp; omega)⟩ (fun hHeld => ?_)
      clear hK K
      simp only [Act.put, List.getElem_toArray, List.getElem_cons_succ, List.getElem_cons_zero, List.setIfInBounds_toArray, List.set_cons_zero, List.set_cons_succ]
      refine wpAnyH_take (i := 11) (v := ?_) rfl (by kernel_rfl) (by kernel_rfl) (by kernel_rfl) (fun _ _ _ h => h) (Or.inl ⟨by rfl, ?_⟩) hHeld ?_
      rotate_left
      · (intro w' hSw; go_simp; try with_reducible rfl)
      simp only [Act.put, List.getElem_toArray, List.getElem_cons_succ, List.getElem_cons_zero, List.setIfInBounds_toArray, List.set_cons_zero, List.set_cons_succ]
      refine wpAnyH_done (by kernel_rfl) ?_ _
      have hcX : Chg [] w w3 := (((hcD.alloc _).then hc2).trans hS3.chg (fun k hk => by simp at hk; omega))
      have hb5X := hHeld.2
      have hboxX := hS3.blk
      clear hHeld
      have hcXd := hcX.drew
      go_upto_region 14 with (fail)
      refine wp_region_held_drew (S := fun w' => Blk w' gb 45 #[ptr c, ptr p, .slice AR n cR] ∧ Blk w' (w.heap.size + 1) 33 #[.int .i64 i, .int .u64 q]) (by kernel_rfl) ⟨(HB.out.chg hcX (by simp)).drew, hb5X.drew⟩ (fun hHeld => ?_)
      simp only [List.setIfInBounds_toArray, List.size_toArray, List.length_cons, List.length_nil, Array.replicate]
      refine wpAnyH_take (i := 0) (v := ?_) rfl (by kernel_rfl) (by kernel_rfl) (by kernel_rfl) (fun _ _ _ h => h) (Or.inl ⟨by rfl, ?_⟩) hHeld ?_
      rotate_left
      · (intro w' hSw; go_simp; try with_reducible rfl)
      simp only [Act.put, List.getElem_toArray, List.getElem_cons_succ, List.getElem_cons_zero, List.setIfInBounds_toArray, List.set_cons_zero, List.set_cons_succ]
      refine wpAnyH_take (i := 1) (v := ?_) rfl (by kernel_rfl) (by kernel_rfl) (by kernel_rfl) (fun _ _ _ h => h) (Or.inl ⟨by rfl, ?_⟩) hHeld ?_
      rotate_left
      · (intro w' hSw; go_simp; try with_reducible rfl)
      simp only [Act.put, List.getElem_toArray, List.getElem_cons_succ, List.getElem_cons_zero, List.setIfInBounds_toArray, List.set_cons_zero, List.set_cons_succ]
      refine wpAnyH_take (i := 2) (v := ?_) rfl (by kernel_rfl) (by kernel_rfl) (by kernel_rfl) (fun _ _ _ h => h) (Or.inl ⟨by rfl, ?_⟩) hHeld ?_
      rotate_left
      · (intro w' hSw; go_simp; try with_reducible rfl)
      simp only [Act.put, List.getElem_toArray, List.getElem_cons_succ, List.getElem_cons_zero, List.setIfInBounds_toArray, List.set_cons_zero, List.set_cons_succ]
      refine wpAnyH_take (i := 3) (v := ?_) rfl (by kernel_rfl) (by kernel_rfl) (by kernel_rfl) (fun _ _ _ h => h) (Or.inl ⟨by rfl, ?_⟩) hHeld ?_
      rotate_left
      · (intro w' hSw; have q0 := hSw.1.cell 1; simp only [List.getElem?_toArray, List.getElem?_cons_zero, List.getElem?_cons_succ] at *; go_simp; try with_reducible rfl)
      simp only [Act.put, List.getElem_toArray, List.getElem_cons_succ, List.getElem_cons_zero, List.setIfInBounds_toArray, List.set_cons_zero, List.set_cons_succ]
      refine wpAnyH_take (i := 4) (v := ?_) rfl (by kernel_rfl) (by kernel_rfl) (by kernel_rfl) (fun _ _ _ h => h) (Or.inl ⟨by rfl, ?_⟩) hHeld ?_
      rotate_left
      · (intro w' hSw; have q0 := hSw.2.cell 0; have q1 := hSw.2.cell 1; simp only [List.getElem?_toArray, List.getElem?_cons_zero, List.getElem?_cons_succ] at *; go_simp; try with_reducible rfl)
      simp only [Act.put, List.getElem_toArray, List.getElem_cons_succ, List.getElem_cons_zero, List.setIfInBounds_toArray, List.set_cons_zero, List.set_cons_succ]
      refine wpAnyH_ready (rs := [5]) (by kernel_rfl) (by simp) ?_
      refine AllReadyH.cons rfl (fun K hK => ?_) AllReadyH.nil
      go_simp
      refine (HIs.out _ hcXd).mono ?_
      rintro e w4 ⟨rfl, hc4⟩
      refine hK _ _ ⟨hHeld.1.chg hc4 (by simp), hHeld.2.chg hc4 (by simp)⟩ (fun hHeld => ?_)
      clear hK K
      simp only [Act.put, List.getElem_toArray, List.getElem_cons_succ, List.getElem_cons_zero, List.setIfInBounds_toArray, List.set_cons_zero, List.set_cons_succ]
      refine wpAnyH_take (i := 6) (v := ?_) rfl (by kernel_rfl) (by kernel_rfl) (by kernel_rfl) (fun _ _ _ h => h) (Or.inl ⟨by rfl, ?_⟩) hHeld ?_
      rotate_left
      · (intro w' hSw; go_simp; try with_reducible rfl)
      simp only [Act.put, List.getElem_toArray, List.getElem_cons_succ, List.getElem_cons_zero, List.setIfInBounds_toArray, List.set_cons_zero, List.set_cons_succ]
      refine wpAnyH_done (by kernel_rfl) ?_ _
      clear hHeld
      have hbz := hboxX.drew.chg hc4 (by simp)
      go_wp2_with ((with_reducible refine wpl_loadE T37 hbz rfl ?_ ?_ ?_); (· rfl); (· exact ⟨_, rfl, rfl⟩))
      go_ret
      exact ⟨rfl, t, rs, HI.out.mono (by omega), by omega, HRI.out, GmTurns.refl H.out (hcXd.then hc4)⟩
    | true =>
      have hh : t.has i q = true := by rw [← doc_is]; exact hq
      have hE : t.getE i q = 0 := by unfold Tab.getE; rw [if_pos hh]
      rw [hE] at HG
      rw [hq] at HIs
      obtain ⟨k, s, hik, hqs, hs, hth⟩ := ris_spot hq
      have hgs : t.getG i q = s.thing := by rw [hik]; exact getG_doc (by rw [← hik]; exact hh) hs
      rw [hgs] at HG hAs hA1
      have heA := (fun W => by have := eqG s.thing s.thing W; rw [geq_refl] at this; exact this : ∀ W, (binOp BinOp.eql 37 s.thing.val s.thing.val).run Try.prog W = .ok (.bool true) W)
      obtain ⟨VL, VF, hpB, hpS, hpF, hpSS⟩ := H.out.d
      obtain ⟨gl, cl, hvl, hfl, hcl, hgl, hk, _, _, hax, _⟩ := open_spot hpS hs
      rw [hvl] at hpB
      unfold Gr.val at HG heA
      generalize s.thing.arr = A at *
      have HAX := Lib.hid hax
      obtain ⟨nl, hnl⟩ : ∃ nl, nl = (docT t).L.length := ⟨_, rfl⟩
      rw [← hnl] at hpB hk
      have HPB := Lib.hid hpB
      have w8 : IntKind.i64.wrap i = i := by rw [hik]; exact IntWalk.i64_in _ (by have := HI.out.n64; have := docL_len HI.out; omega)
      have kk0 : (0 : Int) ≤ i := by omega
      have kk1 : i < (nl : Int) := by omega
      have kk2 : i.toNat = k := by omega
      clear hE hh hq hgs hik hqs hs hth hpB hpS hpF hpSS hvl hfl hcl hk hax hnl
      go_upto_region 13 with (fail)
      refine wp_region_held_drew (S := fun w' => Blk w' gb 45 #[ptr c, ptr p, .slice AR n cR] ∧ Blk w' (w.heap.size + 1) 33 #[.int .i64 i, .int .u64 q]) (by kernel_rfl) ⟨(HB.out.chg hcA (by simp)).drew, hb5.drew⟩ (fun hHeld => ?_)
      simp only [List.setIfInBounds_toArray, List.size_toArray, List.length_cons, List.length_nil, Array.replicate]
      refine wpAnyH_take (i := 0) (v := ?_) rfl (by kernel_rfl) (by kernel_rfl) (by kernel_rfl) (fun _ _ _ h => h) (Or.inl ⟨by rfl, ?_⟩) hHeld ?_
      rotate_left
      · (intro w' hSw; go_simp; try with_reducible rfl)
      simp only [Act.put, List.getElem_toArray, List.getElem_cons_succ, List.getElem_cons_zero, List.setIfInBounds_toArray, List.set_cons_zero, List.set_cons_succ]
      refine wpAnyH_take (i := 1) (v := ?_) rfl (by kernel_rfl) (by kernel_rfl) (by kernel_rfl) (fun _ _ _ h => h) (Or.inl ⟨by rfl, ?_⟩) hHeld ?_
      rotate_left
      · (intro w' hSw; go_simp; try with_reducible rfl)
      simp only [Act.put, List.getElem_toArray, List.getElem_cons_succ, List.getElem_cons_zero, List.setIfInBounds_toArray, List.set_cons_zero, List.set_cons_succ]
      refine wpAnyH_take (i := 2) (v := ?_) rfl (by kernel_rfl) (by kernel_rfl) (by kernel_rfl) (fun _ _ _ h => h) (Or.inl ⟨by rfl, ?_⟩) hHeld ?_
      rotate_left
      · (intro w' hSw; go_simp; try with_reducible rfl)
      simp only [Act.put, List.getElem_toArray, List.getElem_cons_succ, List.getElem_cons_zero, List.setIfInBounds_toArray, List.set_cons_zero, List.set_cons_succ]
      refine wpAnyH_take (i := 3) (v := ?_) rfl (by kernel_rfl) (by kernel_rfl) (by kernel_rfl) (fun _ _ _ h => h) (Or.inl ⟨by rfl, ?_⟩) hHeld ?_
      rotate_left
      · (intro w' hSw; have q0 := hSw.1.cell 0; simp only [List.getElem?_toArray, List.getElem?_cons_zero, List.getElem?_cons_succ] at *; go_simp; try with_reducible rfl)
      simp only [Act.put, List.getElem_toArray, List.getElem_cons_succ, List.getElem_cons_zero, List.setIfInBounds_toArray, List.set_cons_zero, List.set_cons_succ]
      refine wpAnyH_take (i := 4) (v := ?_) rfl (by kernel_rfl) (by kernel_rfl) (by kernel_rfl) (fun _ _ _ h => h) (Or.inl ⟨by rfl, ?_⟩) hHeld ?_
      rotate_left
      · (intro w' hSw; have q0 := hSw.2.cell 0; have q1 := hSw.2.cell 1; simp only [List.getElem?_toArray, List.getElem?_cons_zero, List.getElem?_cons_succ] at *; go_simp; try with_reducible rfl)
      simp only [Act.put, List.getElem_toArray, List.getElem_cons_succ, List.getElem_cons_zero, List.setIfInBounds_toArray, List.set_cons_zero, List.set_cons_succ]
      refine wpAnyH_ready (rs := [5, 9]) (by kernel_rfl) (by simp) ?_
      refine AllReadyH.cons rfl (fun K hK => ?_) ?_
      · go_simp
        refine (HG.out _ hcD).mono ?_
        rintro e w2 ⟨rfl, hc2⟩
        have hz2 := hc2.size
        simp only [World.size_drew] at hz2
        refine hK _ _ ⟨hHeld.1.chg hc2 (by simp), hHeld.2.chg hc2 (by simp)⟩ (fun hHeld => ?_)
        clear hK K
        simp only [Act.put, List.getElem_toArray, List.getElem_cons_succ, List.getElem_cons_zero, List.setIfInBounds_toArray, List.set_cons_zero, List.set_cons_succ]
        refine wpAnyH_take (i := 6) (v := ?_) rfl (by kernel_rfl) (by kernel_rfl) (by kernel_rfl) (fun _ _ _ h => h) (Or.inl ⟨by rfl, ?_⟩) hHeld ?_
        rotate_left
        · (intro w' hSw; go_simp; try with_reducible rfl)
        simp only [Act.put, List.getElem_toArray, List.getElem_cons_succ, List.getElem_cons_zero, List.setIfInBounds_toArray, List.set_cons_zero, List.set_cons_succ]
        refine wpAnyH_take (i := 7) (v := ?_) rfl (by kernel_rfl) (by kernel_rfl) (by kernel_rfl) (fun _ _ _ h => h) (Or.inl ⟨by rfl, ?_⟩) hHeld ?_
        rotate_left
        · (intro w' hSw; go_simp; try with_reducible rfl)
        simp only [Act.put, List.getElem_toArray, List.getElem_cons_succ, List.getElem_cons_zero, List.setIfInBounds_toArray, List.set_cons_zero, List.set_cons_succ]
        refine wpAnyH_take (i := 8) (v := ?_) rfl (by kernel_rfl) (by kernel_rfl) (by kernel_rfl) (fun _ _ _ h => h) (Or.inl ⟨by rfl, ?_⟩) hHeld ?_
        rotate_left
        · (intro w' hSw; go_simp; try with_reducible rfl)
        simp only [Act.put, List.getElem_toArray, List.getElem_cons_succ, List.getElem_cons_zero, List.setIfInBounds_toArray, List.set_cons_zero, List.set_cons_succ]
        refine wpAnyH_ready (rs := [9]) (by kernel_rfl) (by simp) ?_
        refine AllReadyH.cons rfl (fun K hK => ?_) AllReadyH.nil
        go_simp
        refine hK _ _ ⟨hHeld.1.alloc _, hHeld.2.alloc _⟩ (fun hHeld => ?_)
        clear hK K
        simp only [Act.put, List.getElem_toArray, List.getElem_cons_succ, List.getElem_cons_zero, List.setIfInBounds_toArray, List.set_cons_zero, List.set_cons_succ]
        refine wpAnyH_ready (rs := [10]) (by kernel_rfl) (by simp) ?_
        refine AllReadyH.cons rfl (fun K hK => ?_) AllReadyH.nil
        refine sk_step_store (off := 0) T37 (Blk.new w2 37 zG) hAs (by rw [hAs]; decide) hA1 (by rfl) _ _ (by rfl) (by rfl) (by rfl) ?_
        intro w3 hS3
        rw [splice_all zG _ (by first | rfl | (rw [hAs]; rfl))] at hS3
        refine hK _ _ ⟨hS3.far hHeld.1 (by simp; omega), hS3.far hHeld.2 (by simp; omega)⟩ (fun hHeld => ?_)
        clear hK K
        simp only [Act.put, List.getElem_toArray, List.getElem_cons_succ, List.getElem_cons_zero, List.setIfInBounds_toArray, List.set_cons_zero, List.set_cons_succ]
        refine wpAnyH_take (i := 11) (v := ?_) rfl (by kernel_rfl) (by kernel_rfl) (by kernel_rfl) (fun _ _ _ h => h) (Or.inl ⟨by rfl, ?_⟩) hHeld ?_
        rotate_left
        · (intro w' hSw; go_simp; try with_reducible rfl)
        simp only [Act.put, List.getElem_toArray, List.getElem_cons_succ, List.getElem_cons_zero, List.setIfInBounds_toArray, List.set_cons_zero, List.set_cons_succ]
        refine wpAnyH_done (by kernel_rfl) ?_ _
        have hcX : Chg [] w w3 := (((hcD.then hc2).alloc _).trans hS3.chg (fun k hk => by simp at hk; omega))
        have hb5X := hHeld.2
        have hboxX := hS3.blk
        clear hHeld
        have hcXd := hcX.drew
        go_upto_region 14 with (fail)
        refine wp_region_held_drew (S := fun w' => Blk w' gb 45 #[ptr c, ptr p, .slice AR n cR] ∧ Blk w' (w.heap.size + 1) 33 #[.int .i64 i, .int .u64 q]) (by kernel_rfl) ⟨(HB.out.chg hcX (by simp)).drew, hb5X.drew⟩ (fun hHeld => ?_)
        simp only [List.setIfInBounds_toArray, List.size_toArray, List.length_cons, List.length_nil, Array.replicate]
        refine wpAnyH_take (i := 0) (v := ?_) rfl (by kernel_rfl) (by kernel_rfl) (by kernel_rfl) (fun _ _ _ h => h) (Or.inl ⟨by rfl, ?_⟩) hHeld ?_
        rotate_left
        · (intro w' hSw; go_simp; try with_reducible rfl)
        simp only [Act.put, List.getElem_toArray, List.getElem_cons_succ, List.getElem_cons_zero, List.setIfInBounds_toArray, List.set_cons_zero, List.set_cons_succ]
        refine wpAnyH_take (i := 1) (v := ?_) rfl (by kernel_rfl) (by kernel_rfl) (by kernel_rfl) (fun _ _ _ h => h) (Or.inl ⟨by rfl, ?_⟩) hHeld ?_
        rotate_left
        · (intro w' hSw; go_simp; try with_reducible rfl)
        simp only [Act.put, List.getElem_toArray, List.getElem_cons_succ, List.getElem_cons_zero, List.setIfInBounds_toArray, List.set_cons_zero, List.set_cons_succ]
        refine wpAnyH_take (i := 2) (v := ?_) rfl (by kernel_rfl) (by kernel_rfl) (by kernel_rfl) (fun _ _ _ h => h) (Or.inl ⟨by rfl, ?_⟩) hHeld ?_
        rotate_left
        · (intro w' hSw; go_simp; try with_reducible rfl)
        simp only [Act.put, List.getElem_toArray, List.getElem_cons_succ, List.getElem_cons_zero, List.setIfInBounds_toArray, List.set_cons_zero, List.set_cons_succ]
        refine wpAnyH_take (i := 3) (v := ?_) rfl (by kernel_rfl) (by kernel_rfl) (by kernel_rfl) (fun _ _ _ h => h) (Or.inl ⟨by rfl, ?_⟩) hHeld ?_
        rotate_left
        · (intro w' hSw; have q0 := hSw.1.cell 1; simp only [List.getElem?_toArray, List.getElem?_cons_zero, List.getElem?_cons_succ] at *; go_simp; try with_reducible rfl)
        simp only [Act.put, List.getElem_toArray, List.getElem_cons_succ, List.getElem_cons_zero, List.setIfInBounds_toArray, List.set_cons_zero, List.set_cons_succ]
        refine wpAnyH_take (i := 4) (v := ?_) rfl (by kernel_rfl) (by kernel_rfl) (by kernel_rfl) (fun _ _ _ h => h) (Or.inl ⟨by rfl, ?_⟩) hHeld ?_
        rotate_left
        · (intro w' hSw; have q0 := hSw.2.cell 0; have q1 := hSw.2.cell 1; simp only [List.getElem?_toArray, List.getElem?_cons_zero, List.getElem?_cons_succ] at *; go_simp; try with_reducible rfl)
        simp only [Act.put, List.getElem_toArray, List.getElem_cons_succ, List.getElem_cons_zero, List.setIfInBounds_toArray, List.set_cons_zero, List.set_cons_succ]
        refine wpAnyH_ready (rs := [5]) (by kernel_rfl) (by simp) ?_
        refine AllReadyH.cons rfl (fun K hK => ?_) AllReadyH.nil
        go_simp
        refine (HIs.out _ hcXd).mono ?_
        rintro e w4 ⟨rfl, hc4⟩
        refine hK _ _ ⟨hHeld.1.chg hc4 (by simp), hHeld.2.chg hc4 (by simp)⟩ (fun hHeld => ?_)
        clear hK K
        simp only [Act.put, List.getElem_toArray, List.getElem_cons_succ, List.getElem_cons_zero, List.setIfInBounds_toArray, List.set_cons_zero, List.set_cons_succ]
        refine wpAnyH_take (i := 6) (v := ?_) rfl (by kernel_rfl) (by kernel_rfl) (by kernel_rfl) (fun _ _ _ h => h) (Or.inl ⟨by rfl, ?_⟩) hHeld ?_
        rotate_left
        · (intro w' hSw; go_simp; try with_reducible rfl)
        simp only [Act.put, List.getElem_toArray, List.getElem_cons_succ, List.getElem_cons_zero, List.setIfInBounds_toArray, List.set_cons_zero, List.set_cons_succ]
        refine wpAnyH_done (by kernel_rfl) ?_ _
        clear hHeld
        go_upto_region 16 with (fail)
        have hcY := (hcXd.then hc4).drew
        have hbz := (hboxX.drew.chg hc4 (by simp)).drew
        have hb5Y := (hb5X.drew.chg hc4 (by simp)).drew
        have hptr := (HPB.out.chg hcY (by simp)).cell 0
        have g1 := (HB.out.chg hcY (by simp)).cell 1
        have i0 := hb5Y.cell 0
        have hax : ∀ j v, A[j]? = some v → (World.drew w4).cell? ⟨gl, k * 21 + 2 + j, none⟩ = some v := fun j v hv => (hcY.cell (p := ⟨gl, k * 21 + 2 + j, none⟩) hgl (by simp)).trans (HAX.out j v hv)
        have hbc := blk_cells hbz
        simp only [List.getElem?_toArray, List.getElem?_cons_zero, List.getElem?_cons_succ] at hptr g1 i0
        clear hcX hcXd hc4 hb5X hboxX hS3 hc2 hb5Y hbz hz2
        refine wp_region_still_lit (by kernel_rfl) (by kernel_rfl) ?_
        (try change wpStill _ _ (World.drew _) _ _ _)
        generalize hwd : World.drew w4 = wd at *
        have HWD := Lib.hid hwd
        clear hwd
        still_step
        still_step
        still_step
        refine wpStill_load T37 hAs hbc rfl ⟨_, rfl, rfl⟩ ?_
        still_step
        still_step
        still_step
        still_step
        still_step
        still_step
        still_step
        still_step
        still_step
        still_step
        still_step
        refine wpStill_load T37 hAs hax rfl ⟨_, rfl, rfl⟩ ?_
        (repeat still_step)
        refine wpStill_nil ?_
        go_wp2
        go_ret
        exact ⟨rfl, t, rs, HI.out.mono (by omega), by omega, HRI.out, GmTurns.refl H.out (by change Chg [] w (World.drew w4); rw [HWD.out]; exact hcY)⟩
      refine AllReadyH.cons rfl (fun K hK => ?_) AllReadyH.nil
      go_simp
      refine hK _ _ ⟨hHeld.1.alloc _, hHeld.2.alloc _⟩ (fun hHeld => ?_)
      clear hK K
      simp only [Act.put, List.getElem_toArray, List.getElem_cons_succ, List.getElem_cons_zero, List.setIfInBounds_toArray, List.set_cons_zero, List.set_cons_succ]
      refine wpAnyH_ready (rs := [5]) (by kernel_rfl) (by simp) ?_
      refine AllReadyH.cons rfl (fun K hK => ?_) AllReadyH.nil
      go_simp
      refine (HG.out _ (hcD.alloc _)).mono ?_
      rintro e w2 ⟨rfl, hc2⟩
      have hz2 := hc2.size
      simp only [World.size_alloc, World.size_drew] at hz2
      refine hK _ _ ⟨hHeld.1.chg hc2 (by simp), hHeld.2.chg hc2 (by simp)⟩ (fun hHeld => ?_)
      clear hK K
      simp only [Act.put, List.getElem_toArray, List.getElem_cons_succ, List.getElem_cons_zero, List.setIfInBounds_toArray, List.set_cons_zero, List.set_cons_succ]
      refine wpAnyH_take (i := 6) (v := ?_) rfl (by kernel_rfl) (by kernel_rfl) (by kernel_rfl) (fun _ _ _ h => h) (Or.inl ⟨by rfl, ?_⟩) hHeld ?_
      rotate_left
      · (intro w' hSw; go_simp; try with_reducible rfl)
      simp only [Act.put, List.getElem_toArray, List.getElem_cons_succ, List.getElem_cons_zero, List.setIfInBounds_toArray, List.set_cons_zero, List.set_cons_succ]
      refine wpAnyH_take (i := 7) (v := ?_) rfl (by kernel_rfl) (by kernel_rfl) (by kernel_rfl) (fun _ _ _ h => h) (Or.inl ⟨by rfl, ?_⟩) hHeld ?_
      rotate_left
      · (intro w' hSw; go_simp; try with_reducible rfl)
      simp only [Act.put, List.getElem_toArray, List.getElem_cons_succ, List.getElem_cons_zero, List.setIfInBounds_toArray, List.set_cons_zero, List.set_cons_succ]
      refine wpAnyH_take (i := 8) (v := ?_) rfl (by kernel_rfl) (by kernel_rfl) (by kernel_rfl) (fun _ _ _ h => h) (Or.inl ⟨by rfl, ?_⟩) hHeld ?_
      rotate_left
      · (intro w' hSw; go_simp; try with_reducible rfl)
      simp only [Act.put, List.getElem_toArray, List.getElem_cons_succ, List.getElem_cons_zero, List.setIfInBounds_toArray, List.set_cons_zero, List.set_cons_succ]
      refine wpAnyH_ready (rs := [10]) (by kernel_rfl) (by simp) ?_
      refine AllReadyH.cons rfl (fun K hK => ?_) AllReadyH.nil
      refine sk_step_store (off := 0) T37 ((Blk.new wc.drew 37 zG).chg hc2 (by simp)) hAs (by rw [hAs]; decide) hA1 (by rfl) _ _ (by rfl) (by rfl) (by rfl) ?_
      intro w3 hS3
      rw [splice_all zG _ (by first | rfl | (rw [hAs]; rfl))] at hS3
      refine hK _ _ ⟨hS3.far hHeld.1 (by simp; omega), hS3.far hHeld.2 (by simp; omega)⟩ (fun hHeld => ?_)
      clear hK K
      simp only [Act.put, List.getElem_toArray, List.getElem_cons_succ, List.getElem_cons_zero, List.setIfInBounds_toArray, List.set_cons_zero, List.set_cons_succ]
      refine wpAnyH_take (i := 11) (v := ?_) rfl (by kernel_rfl) (by kernel_rfl) (by kernel_rfl) (fun _ _ _ h => h) (Or.inl ⟨by rfl, ?_⟩) hHeld ?_
      rotate_left
      · (intro w' hSw; go_simp; try with_reducible rfl)
      simp only [Act.put, List.getElem_toArray, List.getElem_cons_succ, List.getElem_cons_zero, List.setIfInBounds_toArray, List.set_cons_zero, List.set_cons_succ]
      refine wpAnyH_done (by kernel_rfl) ?_ _
      have hcX : Chg [] w w3 := (((hcD.alloc _).then hc2).trans hS3.chg (fun k hk => by simp at hk; omega))
      have hb5X := hHeld.2
      have hboxX := hS3.blk
      clear hHeld
      have hcXd := hcX.drew
      go_upto_region 14 with (fail)
      refine wp_region_held_drew (S := fun w' => Blk w' gb 45 #[ptr c, ptr p, .slice AR n cR] ∧ Blk w' (w.heap.size + 1) 33 #[.int .i64 i, .int .u64 q]) (by kernel_rfl) ⟨(HB.out.chg hcX (by simp)).drew, hb5X.drew⟩ (fun hHeld => ?_)
      simp only [List.setIfInBounds_toArray, List.size_toArray, List.length_cons, List.length_nil, Array.replicate]
      refine wpAnyH_take (i := 0) (v := ?_) rfl (by kernel_rfl) (by kernel_rfl) (by kernel_rfl) (fun _ _ _ h => h) (Or.inl ⟨by rfl, ?_⟩) hHeld ?_
      rotate_left
      · (intro w' hSw; go_simp; try with_reducible rfl)
      simp only [Act.put, List.getElem_toArray, List.getElem_cons_succ, List.getElem_cons_zero, List.setIfInBounds_toArray, List.set_cons_zero, List.set_cons_succ]
      refine wpAnyH_take (i := 1) (v := ?_) rfl (by kernel_rfl) (by kernel_rfl) (by kernel_rfl) (fun _ _ _ h => h) (Or.inl ⟨by rfl, ?_⟩) hHeld ?_
      rotate_left
      · (intro w' hSw; go_simp; try with_reducible rfl)
      simp only [Act.put, List.getElem_toArray, List.getElem_cons_succ, List.getElem_cons_zero, List.setIfInBounds_toArray, List.set_cons_zero, List.set_cons_succ]
      refine wpAnyH_take (i := 2) (v := ?_) rfl (by kernel_rfl) (by kernel_rfl) (by kernel_rfl) (fun _ _ _ h => h) (Or.inl ⟨by rfl, ?_⟩) hHeld ?_
      rotate_left
      · (intro w' hSw; go_simp; try with_reducible rfl)
      simp only [Act.put, List.getElem_toArray, List.getElem_cons_succ, List.getElem_cons_zero, List.setIfInBounds_toArray, List.set_cons_zero, List.set_cons_succ]
      refine wpAnyH_take (i := 3) (v := ?_) rfl (by kernel_rfl) (by kernel_rfl) (by kernel_rfl) (fun _ _ _ h => h) (Or.inl ⟨by rfl, ?_⟩) hHeld ?_
      rotate_left
      · (intro w' hSw; have q0 := hSw.1.cell 1; simp only [List.getElem?_toArray, List.getElem?_cons_zero, List.getElem?_cons_succ] at *; go_simp; try with_reducible rfl)
      simp only [Act.put, List.getElem_toArray, List.getElem_cons_succ, List.getElem_cons_zero, List.setIfInBounds_toArray, List.set_cons_zero, List.set_cons_succ]
      refine wpAnyH_take (i := 4) (v := ?_) rfl (by kernel_rfl) (by kernel_rfl) (by kernel_rfl) (fun _ _ _ h => h) (Or.inl ⟨by rfl, ?_⟩) hHeld ?_
      rotate_left
      · (intro w' hSw; have q0 := hSw.2.cell 0; have q1 := hSw.2.cell 1; simp only [List.getElem?_toArray, List.getElem?_cons_zero, List.getElem?_cons_succ] at *; go_simp; try with_reducible rfl)
      simp only [Act.put, List.getElem_toArray, List.getElem_cons_succ, List.getElem_cons_zero, List.setIfInBounds_toArray, List.set_cons_zero, List.set_cons_succ]
      refine wpAnyH_ready (rs := [5]) (by kernel_rfl) (by simp) ?_
      refine AllReadyH.cons rfl (fun K hK => ?_) AllReadyH.nil
      go_simp
      refine (HIs.out _ hcXd).mono ?_
      rintro e w4 ⟨rfl, hc4⟩
      refine hK _ _ ⟨hHeld.1.chg hc4 (by simp), hHeld.2.chg hc4 (by simp)⟩ (fun hHeld => ?_)
      clear hK K
      simp only [Act.put, List.getElem_toArray, List.getElem_cons_succ, List.getElem_cons_zero, List.setIfInBounds_toArray, List.set_cons_zero, List.set_cons_succ]
      refine wpAnyH_take (i := 6) (v := ?_) rfl (by kernel_rfl) (by kernel_rfl) (by kernel_rfl) (fun _ _ _ h => h) (Or.inl ⟨by rfl, ?_⟩) hHeld ?_
      rotate_left
      · (intro w' hSw; go_simp; try with_reducible rfl)
      simp only [Act.put, List.getElem_toArray, List.getElem_cons_succ, List.getElem_cons_zero, List.setIfInBounds_toArray, List.set_cons_zero, List.set_cons_succ]
      refine wpAnyH_done (by kernel_rfl) ?_ _
      clear hHeld
      go_upto_region 16 with (fail)
      have hcY := (hcXd.then hc4).drew
      have hbz := (hboxX.drew.chg hc4 (by simp)).drew
      have hb5Y := (hb5X.drew.chg hc4 (by simp)).drew
      have hptr := (HPB.out.chg hcY (by simp)).cell 0
      have g1 := (HB.out.chg hcY (by simp)).cell 1
      have i0 := hb5Y.cell 0
      have hax : ∀ j v, A[j]? = some v → (World.drew w4).cell? ⟨gl, k * 21 + 2 + j, none⟩ = some v := fun j v hv => (hcY.cell (p := ⟨gl, k * 21 + 2 + j, none⟩) hgl (by simp)).trans (HAX.out j v hv)
      have hbc := blk_cells hbz
      simp only [List.getElem?_toArray, List.getElem?_cons_zero, List.getElem?_cons_succ] at hptr g1 i0
      clear hcX hcXd hc4 hb5X hboxX hS3 hc2 hb5Y hbz hz2
      refine wp_region_still_lit (by kernel_rfl) (by kernel_rfl) ?_
      (try change wpStill _ _ (World.drew _) _ _ _)
      generalize hwd : World.drew w4 = wd at *
      have HWD := Lib.hid hwd
      clear hwd
      still_step
      still_step
      still_step
      refine wpStill_load T37 hAs hbc rfl ⟨_, rfl, rfl⟩ ?_
      still_step
      still_step
      still_step
      still_step
      still_step
      still_step
      still_step
      still_step
      still_step
      still_step
      still_step
      refine wpStill_load T37 hAs hax rfl ⟨_, rfl, rfl⟩ ?_
      (repeat still_step)
      refine wpStill_nil ?_
      go_wp2
      go_ret
      exact ⟨rfl, t, rs, HI.out.mono (by omega), by omega, HRI.out, GmTurns.refl H.out (by change Chg [] w (World.drew w4); rw [HWD.out]; exact hcY)⟩
  obtain ⟨d, hd⟩ : ∃ d, d = (at_ - 1).tmod (n : Int) := ⟨_, rfl⟩
  have hdd := tmod_in (a := at_ - 1) (n := n) (by omega) (by omega)
  rw [← hd] at hdd
  obtain ⟨d0, d1⟩ := hdd
  obtain ⟨j, hj⟩ : ∃ j : Nat, (j : Int) = (n : Int) - 1 - d := ⟨((n : Int) - 1 - d).toNat, by omega⟩
  have hjn : j < rs.length := by rw [← Hn.out]; omega
  obtain ⟨y, hy⟩ : ∃ y, rs[j]? = some y := ⟨_, List.getElem?_eq_getElem hjn⟩
  have hyi : inI y.1 := HRI.out y (List.mem_of_getElem? hy)
  have HR0' := HR0.out
  rw [HVR.out] at HR0'
  obtain ⟨gr, cr, hv, _, _, hrc, _, hgr⟩ := HR0'.form (by omega)
  simp only [Value.slice.injEq] at hv
  obtain ⟨h90, h91, h92⟩ := hv
  obtain ⟨q0, q1⟩ := prCells_at hy
  have hcD := hcA.drew
  have r0 := (hcD.cell (p := ⟨gr, j * 2, none⟩) hgr (by simp)).trans (hrc _ _ q0)
  have r1 := (hcD.cell (p := ⟨gr, j * 2 + 1, none⟩) hgr (by simp)).trans (hrc _ _ q1)
  have g2D := (HB.out.chg hcD (by simp)).cell 2
  rw [h90] at g2D
  have hb5D := hb5A.drew
  have f0 := hb5D.frozen 0
  have f1 := hb5D.frozen 1
  have s0 := hb5D.cell 0
  have s1 := hb5D.cell 1
  have e3D := hb3A.drew.cell 3
  rw [X3] at e3D
  have w1 : IntKind.i64.wrap (at_ - 1) = at_ - 1 := IntWalk.i64_in _ (by omega)
  have w2 : IntKind.i64.wrap ((n : Int) - 1) = (n : Int) - 1 := IntWalk.i64_in _ (by omega)
  have w4 : IntKind.i64.wrap ((n : Int) - 1 - d) = (j : Nat) := by rw [← hj]; exact IntWalk.i64_in _ (by omega)
  have w5 : wrap64 ((n : Int) - 1 - d) = (j : Nat) := by rw [← hj]; exact IntWalk.wrap64_in _ (by omega)
  have w6 : wrap64 (at_ - 1) = at_ - 1 := IntWalk.wrap64_in _ (by omega)
  have w7 : IntKind.i64.wrap (j : Int) = (j : Nat) := IntWalk.i64_in _ (by omega)
  have j0 : (0 : Int) ≤ (j : Int) := by omega
  have j1 : (j : Int) < (n : Int) := by omega
  have hn1 : 0 < n := by omega
  have hn2 : ¬ ((n : Int) = 0) := by omega
  have hn3 : ((n : Int) == 0) = false := by simp; omega
  have hmod : (at_ - 1).tmod (n : Int) = d := hd.symm
  have hjs : (n : Int) - 1 - d = (j : Nat) := hj.symm
  clear hVRlt HR0' h90 h91 h92 hrc hy hjn hj q0 q1 hd
  go_enter Try.func11, Try.ntmps11
  go_upto_region 3 with (fail)
  have hb3D := hb3A.drew
  refine wp_region_still_tail 22 (by kernel_rfl) (by kernel_rfl) ?_
  simp only [List.take_succ_cons, List.take_zero, List.drop_succ_cons, List.drop_zero]
  (try change wpStill _ _ (World.drew _) _ _ _)
  generalize hwd : World.drew _ = wd at *
  have HWD := Lib.hid hwd
  clear hwd
  simp only [List.getElem?_toArray, List.getElem?_cons_zero, List.getElem?_cons_succ] at s0 s1 g2D
  (repeat still_step)
  refine wpStill_nil ?_
  (try change wpList _ _ _ _ _ (World.drew _))
  rw [HWD.out]
  clear HWD
  go_upto_region 4 with (fail)
  have hcC := (hcD.setCell (p := ⟨w.heap.size + 1, 0, none⟩) (.inr (by simp)) (.int .i64 y.1)).setCell (p := ⟨w.heap.size + 1, 1, none⟩) (.inr (by simp)) (.int .u64 y.2)
  have hb5C := (hb5D.set_ 0 (.int .i64 y.1)).set_ 1 (.int .u64 y.2)
  have hb3C := (hb3D.far (p := ⟨w.heap.size + 1, 0, none⟩) (by simp) (.int .i64 y.1)).far (p := ⟨w.heap.size + 1, 1, none⟩) (by simp) (.int .u64 y.2)
  clear hcA hb3A hb3D hb5A hcD r0 r1 g2D hb5D f0 f1 s0 s1 e3D w1 w2 w4 w5 w6 w7 j0 j1 hn1 hn2 hn3 hmod hjs y1 y2 e3 g2 hb3 ha a0 a1 hn0
  generalize World.setCell _ _ _ = wc at *
  have hcA := hcC
  have hb3A := hb3C
  clear hcC hb3C
  obtain ⟨i, q, hb5, hii⟩ : ∃ i q, Blk wc (w.heap.size + 1) 33 #[.int .i64 i, .int .u64 q] ∧ inI i := ⟨y.1, y.2, hb5C, hyi⟩
  clear hb5C hyi hgr HVR
  have z0 := (hb3A.cell 0).trans X0
  have hzz := hcA.size
  have hlt5 := hb5.lt
  have HIs := Lib.hid (fun W (hc : Chg [] w W) => rIs_any (H.out.d.quiet hc) (by rw [docL_len HI.out]; exact HI.out.n64) i q hii)
  have HG := Lib.hid (fun W (hc : Chg [] w W) => Get_any (H.out.g.quiet hc) i q hii)
  have hAs := (t.getG i q).size
  have hA1 := (t.getG i q).one
  have hcD := hcA.drew
  cases hq : (docT t).is i q with
  | false =>
    have hh : t.has i q = false := by rw [← doc_is]; exact hq
    have hE : t.getE i q = 11 := by unfold Tab.getE; rw [if_neg (by simp [hh])]
    rw [hE, getG_no hh] at HG
    rw [getG_no hh] at hAs hA1
    rw [hq] at HIs
    have he0 : ∀ W, (binOp BinOp.eql 37 (.agg zG) (.agg zG)).run Try.prog W = .ok (.bool true) W := fun W => by have := eqG Gr.zero Gr.zero W; rw [geq_refl] at this; exact this
    change Hid (∀ W (hc : Chg [] w W), Calls Try.prog 17 #[ptr c, .agg #[.int .i64 i, .int .u64 q]] W fun e w' => e = .returned (.tuple #[.agg zG, .int .i64 11]) ∧ Chg [] W w') at HG
    change zG.size = 19 at hAs
    change zG.all (·.oneCell') = true at hA1
    clear hE hh hq
    go_upto_region 13 with (fail)
    refine wp_region_held_drew (S := fun w' => Blk w' gb 45 #[ptr c, ptr p, .slice AR n cR] ∧ Blk w' (w.heap.size + 1) 33 #[.int .i64 i, .int .u64 q]) (by kernel_rfl) ⟨(HB.out.chg hcA (by simp)).drew, hb5.drew⟩ (fun hHeld => ?_)
    simp only [List.setIfInBounds_toArray, List.size_toArray, List.length_cons, List.length_nil, Array.replicate]
    refine wpAnyH_take (i := 0) (v := ?_) rfl (by kernel_rfl) (by kernel_rfl) (by kernel_rfl) (fun _ _ _ h => h) (Or.inl ⟨by rfl, ?_⟩) hHeld ?_
    rotate_left
    · (intro w' hSw; go_simp; try with_reducible rfl)
    simp only [Act.put, List.getElem_toArray, List.getElem_cons_succ, List.getElem_cons_zero, List.setIfInBounds_toArray, List.set_cons_zero, List.set_cons_succ]
    refine wpAnyH_take (i := 1) (v := ?_) rfl (by kernel_rfl) (by kernel_rfl) (by kernel_rfl) (fun _ _ _ h => h) (Or.inl ⟨by rfl, ?_⟩) hHeld ?_
    rotate_left
    · (intro w' hSw; go_simp; try with_reducible rfl)
    simp only [Act.put, List.getElem_toArray, List.getElem_cons_succ, List.getElem_cons_zero, List.setIfInBounds_toArray, List.set_cons_zero, List.set_cons_succ]
    refine wpAnyH_take (i := 2) (v := ?_) rfl (by kernel_rfl) (by kernel_rfl) (by kernel_rfl) (fun _ _ _ h => h) (Or.inl ⟨by rfl, ?_⟩) hHeld ?_
    rotate_left
    · (intro w' hSw; go_simp; try with_reducible rfl)
    simp only [Act.put, List.getElem_toArray, List.getElem_cons_succ, List.getElem_cons_zero, List.setIfInBounds_toArray, List.set_cons_zero, List.set_cons_succ]
    refine wpAnyH_take (i := 3) (v := ?_) rfl (by kernel_rfl) (by kernel_rfl) (by kernel_rfl) (fun _ _ _ h => h) (Or.inl ⟨by rfl, ?_⟩) hHeld ?_
    rotate_left
    · (intro w' hSw; have q0 := hSw.1.cell 0; simp only [List.getElem?_toArray, List.getElem?_cons_zero, List.getElem?_cons_succ] at *; go_simp; try with_reducible rfl)
    simp only [Act.put, List.getElem_toArray, List.getElem_cons_succ, List.getElem_cons_zero, List.setIfInBounds_toArray, List.set_cons_zero, List.set_cons_succ]
    refine wpAnyH_take (i := 4) (v := ?_) rfl (by kernel_rfl) (by kernel_rfl) (by kernel_rfl) (fun _ _ _ h => h) (Or.inl ⟨by rfl, ?_⟩) hHeld ?_
    rotate_left
    · (intro w' hSw; have q0 := hSw.2.cell 0; have q1 := hSw.2.cell 1; simp only [List.getElem?_toArray, List.getElem?_cons_zero, List.getElem?_cons_succ] at *; go_simp; try with_reducible rfl)
    simp only [Act.put, List.getElem_toArray, List.getElem_cons_succ, List.getElem_cons_zero, List.setIfInBounds_toArray, List.set_cons_zero, List.set_cons_succ]
    refine wpAnyH_ready (rs := [5, 9]) (by kernel_rfl) (by simp) ?_
    refine AllReadyH.cons rfl (fun K hK => ?_) ?_
    · go_simp
      refine (HG.out _ hcD).mono ?_
      rintro e w2 ⟨rfl, hc2⟩
      have hz2 := hc2.size
      simp only [World.size_drew] at hz2
      refine hK _ _ ⟨hHeld.1.chg hc2 (by simp), hHeld.2.chg hc2 (by simp)⟩ (fun hHeld => ?_)
      clear hK K
      simp only [Act.put, List.getElem_toArray, List.getElem_cons_succ, List.getElem_cons_zero, List.setIfInBounds_toArray, List.set_cons_zero, List.set_cons_succ]
      refine wpAnyH_take (i := 6) (v := ?_) rfl (by kernel_rfl) (by kernel_rfl) (by kernel_rfl) (fun _ _ _ h => h) (Or.inl ⟨by rfl, ?_⟩) hHeld ?_
      rotate_left
      · (intro w' hSw; go_simp; try with_reducible rfl)
      simp only [Act.put, List.getElem_toArray, List.getElem_cons_succ, List.getElem_cons_zero, List.setIfInBounds_toArray, List.set_cons_zero, List.set_cons_succ]
      refine wpAnyH_take (i := 7) (v := ?_) rfl (by kernel_rfl) (by kernel_rfl) (by kernel_rfl) (fun _ _ _ h => h) (Or.inl ⟨by rfl, ?_⟩) hHeld ?_
      rotate_left
      · (intro w' hSw; go_simp; try with_reducible rfl)
      simp only [Act.put, List.getElem_toArray, List.getElem_cons_succ, List.getElem_cons_zero, List.setIfInBounds_toArray, List.set_cons_zero, List.set_cons_succ]
      refine wpAnyH_take (i := 8) (v := ?_) rfl (by kernel_rfl) (by kernel_rfl) (by kernel_rfl) (fun _ _ _ h => h) (Or.inl ⟨by rfl, ?_⟩) hHeld ?_
      rotate_left
      · (intro w' hSw; go_simp; try with_reducible rfl)
      simp only [Act.put, List.getElem_toArray, List.getElem_cons_succ, List.getElem_cons_zero, List.setIfInBounds_toArray, List.set_cons_zero, List.set_cons_succ]
      refine wpAnyH_ready (rs := [9]) (by kernel_rfl) (by simp) ?_
      refine AllReadyH.cons rfl (fun K hK => ?_) AllReadyH.nil
      go_simp
      refine hK _ _ ⟨hHeld.1.alloc _, hHeld.2.alloc _⟩ (fun hHeld => ?_)
      clear hK K
      simp only [Act.put, List.getElem_toArray, List.getElem_cons_succ, List.getElem_cons_zero, List.setIfInBounds_toArray, List.set_cons_zero, List.set_cons_succ]
      refine wpAnyH_ready (rs := [10]) (by kernel_rfl) (by simp) ?_
      refine AllReadyH.cons rfl (fun K hK => ?_) AllReadyH.nil
      refine sk_step_store (off := 0) T37 (Blk.new w2 37 zG) hAs (by rw [hAs]; decide) hA1 (by rfl) _ _ (by rfl) (by rfl) (by rfl) ?_
      intro w3 hS3
      rw [splice_all zG _ (by first | rfl | (rw [hAs]; rfl))] at hS3
      refine hK _ _ ⟨hS3.far hHeld.1 (by simp; omega), hS3.far hHeld.2 (by simp; omega)⟩ (fun hHeld => ?_)
      clear hK K
      simp only [Act.put, List.getElem_toArray, List.getElem_cons_succ, List.getElem_cons_zero, List.setIfInBounds_toArray, List.set_cons_zero, List.set_cons_succ]
      refine wpAnyH_take (i := 11) (v := ?_) rfl (by kernel_rfl) (by kernel_rfl) (by kernel_rfl) (fun _ _ _ h => h) (Or.inl ⟨by rfl, ?_⟩) hHeld ?_
      rotate_left
      · (intro w' hSw; go_simp; try with_reducible rfl)
      simp only [Act.put, List.getElem_toArray, List.getElem_cons_succ, List.getElem_cons_zero, List.setIfInBounds_toArray, List.set_cons_zero, List.set_cons_succ]
      refine wpAnyH_done (by kernel_rfl) ?_ _
      have hcX : Chg [] w w3 := (((hcD.then hc2).alloc _).trans hS3.chg (fun k hk => by simp at hk; omega))
      have hb5X := hHeld.2
      have hboxX := hS3.blk
      clear hHeld
      have hcXd := hcX.drew
      go_upto_region 14 with (fail)
      refine wp_region_held_drew (S := fun w' => Blk w' gb 45 #[ptr c, ptr p, .slice AR n cR] ∧ Blk w' (w.heap.size + 1) 33 #[.int .i64 i, .int .u64 q]) (by kernel_rfl) ⟨(HB.out.chg hcX (by simp)).drew, hb5X.drew⟩ (fun hHeld => ?_)
      simp only [List.setIfInBounds_toArray, List.size_toArray, List.length_cons, List.length_nil, Array.replicate]
      refine wpAnyH_take (i := 0) (v := ?_) rfl (by kernel_rfl) (by kernel_rfl) (by kernel_rfl) (fun _ _ _ h => h) (Or.inl ⟨by rfl, ?_⟩) hHeld ?_
      rotate_left
      · (intro w' hSw; go_simp; try with_reducible rfl)
      simp only [Act.put, List.getElem_toArray, List.getElem_cons_succ, List.getElem_cons_zero, List.setIfInBounds_toArray, List.set_cons_zero, List.set_cons_succ]
      refine wpAnyH_take (i := 1) (v := ?_) rfl (by kernel_rfl) (by kernel_rfl) (by kernel_rfl) (fun _ _ _ h => h) (Or.inl ⟨by rfl, ?_⟩) hHeld ?_
      rotate_left
      · (intro w' hSw; go_simp; try with_reducible rfl)
      simp only [Act.put, List.getElem_toArray, List.getElem_cons_succ, List.getElem_cons_zero, List.setIfInBounds_toArray, List.set_cons_zero, List.set_cons_succ]
      refine wpAnyH_take (i := 2) (v := ?_) rfl (by kernel_rfl) (by kernel_rfl) (by kernel_rfl) (fun _ _ _ h => h) (Or.inl ⟨by rfl, ?_⟩) hHeld ?_
      rotate_left
      · (intro w' hSw; go_simp; try with_reducible rfl)
      simp only [Act.put, List.getElem_toArray, List.getElem_cons_succ, List.getElem_cons_zero, List.setIfInBounds_toArray, List.set_cons_zero, List.set_cons_succ]
      refine wpAnyH_take (i := 3) (v := ?_) rfl (by kernel_rfl) (by kernel_rfl) (by kernel_rfl) (fun _ _ _ h => h) (Or.inl ⟨by rfl, ?_⟩) hHeld ?_
      rotate_left
      · (intro w' hSw; have q0 := hSw.1.cell 1; simp only [List.getElem?_toArray, List.getElem?_cons_zero, List.getElem?_cons_succ] at *; go_simp; try with_reducible rfl)
      simp only [Act.put, List.getElem_toArray, List.getElem_cons_succ, List.getElem_cons_zero, List.setIfInBounds_toArray, List.set_cons_zero, List.set_cons_succ]
      refine wpAnyH_take (i := 4) (v := ?_) rfl (by kernel_rfl) (by kernel_rfl) (by kernel_rfl) (fun _ _ _ h => h) (Or.inl ⟨by rfl, ?_⟩) hHeld ?_
      rotate_left
      · (intro w' hSw; have q0 := hSw.2.cell 0; have q1 := hSw.2.cell 1; simp only [List.getElem?_toArray, List.getElem?_cons_zero, List.getElem?_cons_succ] at *; go_simp; try with_reducible rfl)
      simp only [Act.put, List.getElem_toArray, List.getElem_cons_succ, List.getElem_cons_zero, List.setIfInBounds_toArray, List.set_cons_zero, List.set_cons_succ]
      refine wpAnyH_ready (rs := [5]) (by kernel_rfl) (by simp) ?_
      refine AllReadyH.cons rfl (fun K hK => ?_) AllReadyH.nil
      go_simp
      refine (HIs.out _ hcXd).mono ?_
      rintro e w4 ⟨rfl, hc4⟩
      refine hK _ _ ⟨hHeld.1.chg hc4 (by simp), hHeld.2.chg hc4 (by simp)⟩ (fun hHeld => ?_)
      clear hK K
      simp only [Act.put, List.getElem_toArray, List.getElem_cons_succ, List.getElem_cons_zero, List.setIfInBounds_toArray, List.set_cons_zero, List.set_cons_succ]
      refine wpAnyH_take (i := 6) (v := ?_) rfl (by kernel_rfl) (by kernel_rfl) (by kernel_rfl) (fun _ _ _ h => h) (Or.inl ⟨by rfl, ?_⟩) hHeld ?_
      rotate_left
      · (intro w' hSw; go_simp; try with_reducible rfl)
      simp only [Act.put, List.getElem_toArray, List.getElem_cons_succ, List.getElem_cons_zero, List.setIfInBounds_toArray, List.set_cons_zero, List.set_cons_succ]
      refine wpAnyH_done (by kernel_rfl) ?_ _
      clear hHeld
      have hbz := hboxX.drew.chg hc4 (by simp)
      go_wp2_with ((with_reducible refine wpl_loadE T37 hbz rfl ?_ ?_ ?_); (· rfl); (· exact ⟨_, rfl, rfl⟩))
      go_ret
      exact ⟨rfl, t, rs, HI.out.mono (by omega), by omega, HRI.out, GmTurns.refl H.out (hcXd.then hc4)⟩
    refine AllReadyH.cons rfl (fun K hK => ?_) AllReadyH.nil
    go_simp
    refine hK _ _ ⟨hHeld.1.alloc _, hHeld.2.alloc _⟩ (fun hHeld => ?_)
    clear hK K
    simp only [Act.put, List.getElem_toArray, List.getElem_cons_succ, List.getElem_cons_zero, List.setIfInBounds_toArray, List.set_cons_zero, List.set_cons_succ]
    refine wpAnyH_ready (rs := [5]) (by kernel_rfl) (by simp) ?_
    refine AllReadyH.cons rfl (fun K hK => ?_) AllReadyH.nil
    go_simp
    refine (HG.out _ (hcD.alloc _)).mono ?_
    rintro e w2 ⟨rfl, hc2⟩
    have hz2 := hc2.size
    simp only [World.size_alloc, World.size_drew] at hz2
    refine hK _ _ ⟨hHeld.1.chg hc2 (by simp), hHeld.2.chg hc2 (by simp)⟩ (fun hHeld => ?_)
    clear hK K
    simp only [Act.put, List.getElem_toArray, List.getElem_cons_succ, List.getElem_cons_zero, List.setIfInBounds_toArray, List.set_cons_zero, List.set_cons_succ]
    refine wpAnyH_take (i := 6) (v := ?_) rfl (by kernel_rfl) (by kernel_rfl) (by kernel_rfl) (fun _ _ _ h => h) (Or.inl ⟨by rfl, ?_⟩) hHeld ?_
    rotate_left
    · (intro w' hSw; go_simp; try with_reducible rfl)
    simp only [Act.put, List.getElem_toArray, List.getElem_cons_succ, List.getElem_cons_zero, List.setIfInBounds_toArray, List.set_cons_zero, List.set_cons_succ]
    refine wpAnyH_take (i := 7) (v := ?_) rfl (by kernel_rfl) (by kernel_rfl) (by kernel_rfl) (fun _ _ _ h => h) (Or.inl ⟨by rfl, ?_⟩) hHeld ?_
    rotate_left
    · (intro w' hSw; go_simp; try with_reducible rfl)
    simp only [Act.put, List.getElem_toArray, List.getElem_cons_succ, List.getElem_cons_zero, List.setIfInBounds_toArray, List.set_cons_zero, List.set_cons_succ]
    refine wpAnyH_take (i := 8) (v := ?_) rfl (by kernel_rfl) (by kernel_rfl) (by kernel_rfl) (fun _ _ _ h => h) (Or.inl ⟨by rfl, ?_⟩) hHeld ?_
    rotate_left
    · (intro w' hSw; go_simp; try with_reducible rfl)
    simp only [Act.put, List.getElem_toArray, List.getElem_cons_succ, List.getElem_cons_zero, List.setIfInBounds_toArray, List.set_cons_zero, List.set_cons_succ]
    refine wpAnyH_ready (rs := [10]) (by kernel_rfl) (by simp) ?_
    refine AllReadyH.cons rfl (fun K hK => ?_) AllReadyH.nil
    refine sk_step_store (off := 0) T37 ((Blk.new wc.drew 37 zG).chg hc2 (by simp)) hAs (by rw [hAs]; decide) hA1 (by rfl) _ _ (by rfl) (by rfl) (by rfl) ?_
    intro w3 hS3
    rw [splice_all zG _ (by first | rfl | (rw [hAs]; rfl))] at hS3
    refine hK _ _ ⟨hS3.far hHeld.1 (by simp; omega), hS3.far hHeld.2 (by simp; omega)⟩ (fun hHeld => ?_)
    clear hK K
    simp only [Act.put, List.getElem_toArray, List.getElem_cons_succ, List.getElem_cons_zero, List.setIfInBounds_toArray, List.set_cons_zero, List.set_cons_succ]
    refine wpAnyH_take (i := 11) (v := ?_) rfl (by kernel_rfl) (by kernel_rfl) (by kernel_rfl) (fun _ _ _ h => h) (Or.inl ⟨by rfl, ?_⟩) hHeld ?_
    rotate_left
    · (intro w' hSw; go_simp; try with_reducible rfl)
    simp only [Act.put, List.getElem_toArray, List.getElem_cons_succ, List.getElem_cons_zero, List.setIfInBounds_toArray, List.set_cons_zero, List.set_cons_succ]
    refine wpAnyH_done (by kernel_rfl) ?_ _
    have hcX : Chg [] w w3 := (((hcD.alloc _).then hc2).trans hS3.chg (fun k hk => by simp at hk; omega))
    have hb5X := hHeld.2
    have hboxX := hS3.blk
    clear hHeld
    have hcXd := hcX.drew
    go_upto_region 14 with (fail)
    refine wp_region_held_drew (S := fun w' => Blk w' gb 45 #[ptr c, ptr p, .slice AR n cR] ∧ Blk w' (w.heap.size + 1) 33 #[.int .i64 i, .int .u64 q]) (by kernel_rfl) ⟨(HB.out.chg hcX (by simp)).drew, hb5X.drew⟩ (fun hHeld => ?_)
    simp only [List.setIfInBounds_toArray, List.size_toArray, List.length_cons, List.length_nil, Array.replicate]
    refine wpAnyH_take (i := 0) (v := ?_) rfl (by kernel_rfl) (by kernel_rfl) (by kernel_rfl) (fun _ _ _ h => h) (Or.inl ⟨by rfl, ?_⟩) hHeld ?_
    rotate_left
    · (intro w' hSw; go_simp; try with_reducible rfl)
    simp only [Act.put, List.getElem_toArray, List.getElem_cons_succ, List.getElem_cons_zero, List.setIfInBounds_toArray, List.set_cons_zero, List.set_cons_succ]
    refine wpAnyH_take (i := 1) (v := ?_) rfl (by kernel_rfl) (by kernel_rfl) (by kernel_rfl) (fun _ _ _ h => h) (Or.inl ⟨by rfl, ?_⟩) hHeld ?_
    rotate_left
    · (intro w' hSw; go_simp; try with_reducible rfl)
    simp only [Act.put, List.getElem_toArray, List.getElem_cons_succ, List.getElem_cons_zero, List.setIfInBounds_toArray, List.set_cons_zero, List.set_cons_succ]
    refine wpAnyH_take (i := 2) (v := ?_) rfl (by kernel_rfl) (by kernel_rfl) (by kernel_rfl) (fun _ _ _ h => h) (Or.inl ⟨by rfl, ?_⟩) hHeld ?_
    rotate_left
    · (intro w' hSw; go_simp; try with_reducible rfl)
    simp only [Act.put, List.getElem_toArray, List.getElem_cons_succ, List.getElem_cons_zero, List.setIfInBounds_toArray, List.set_cons_zero, List.set_cons_succ]
    refine wpAnyH_take (i := 3) (v := ?_) rfl (by kernel_rfl) (by kernel_rfl) (by kernel_rfl) (fun _ _ _ h => h) (Or.inl ⟨by rfl, ?_⟩) hHeld ?_
    rotate_left
    · (intro w' hSw; have q0 := hSw.1.cell 1; simp only [List.getElem?_toArray, List.getElem?_cons_zero, List.getElem?_cons_succ] at *; go_simp; try with_reducible rfl)
    simp only [Act.put, List.getElem_toArray, List.getElem_cons_succ, List.getElem_cons_zero, List.setIfInBounds_toArray, List.set_cons_zero, List.set_cons_succ]
    refine wpAnyH_take (i := 4) (v := ?_) rfl (by kernel_rfl) (by kernel_rfl) (by kernel_rfl) (fun _ _ _ h => h) (Or.inl ⟨by rfl, ?_⟩) hHeld ?_
    rotate_left
    · (intro w' hSw; have q0 := hSw.2.cell 0; have q1 := hSw.2.cell 1; simp only [List.getElem?_toArray, List.getElem?_cons_zero, List.getElem?_cons_succ] at *; go_simp; try with_reducible rfl)
    simp only [Act.put, List.getElem_toArray, List.getElem_cons_succ, List.getElem_cons_zero, List.setIfInBounds_toArray, List.set_cons_zero, List.set_cons_succ]
    refine wpAnyH_ready (rs := [5]) (by kernel_rfl) (by simp) ?_
    refine AllReadyH.cons rfl (fun K hK => ?_) AllReadyH.nil
    go_simp
    refine (HIs.out _ hcXd).mono ?_
    rintro e w4 ⟨rfl, hc4⟩
    refine hK _ _ ⟨hHeld.1.chg hc4 (by simp), hHeld.2.chg hc4 (by simp)⟩ (fun hHeld => ?_)
    clear hK K
    simp only [Act.put, List.getElem_toArray, List.getElem_cons_succ, List.getElem_cons_zero, List.setIfInBounds_toArray, List.set_cons_zero, List.set_cons_succ]
    refine wpAnyH_take (i := 6) (v := ?_) rfl (by kernel_rfl) (by kernel_rfl) (by kernel_rfl) (fun _ _ _ h => h) (Or.inl ⟨by rfl, ?_⟩) hHeld ?_
    rotate_left
    · (intro w' hSw; go_simp; try with_reducible rfl)
    simp only [Act.put, List.getElem_toArray, List.getElem_cons_succ, List.getElem_cons_zero, List.setIfInBounds_toArray, List.set_cons_zero, List.set_cons_succ]
    refine wpAnyH_done (by kernel_rfl) ?_ _
    clear hHeld
    have hbz := hboxX.drew.chg hc4 (by simp)
    go_wp2_with ((with_reducible refine wpl_loadE T37 hbz rfl ?_ ?_ ?_); (· rfl); (· exact ⟨_, rfl, rfl⟩))
    go_ret
    exact ⟨rfl, t, rs, HI.out.mono (by omega), by omega, HRI.out, GmTurns.refl H.out (hcXd.then hc4)⟩
  | true =>
    have hh : t.has i q = true := by rw [← doc_is]; exact hq
    have hE : t.getE i q = 0 := by unfold Tab.getE; rw [if_pos hh]
    rw [hE] at HG
    rw [hq] at HIs
    obtain ⟨k, s, hik, hqs, hs, hth⟩ := ris_spot hq
    have hgs : t.getG i q = s.thing := by rw [hik]; exact getG_doc (by rw [← hik]; exact hh) hs
    rw [hgs] at HG hAs hA1
    have heA := (fun W => by have := eqG s.thing s.thing W; rw [geq_refl] at this; exact this : ∀ W, (binOp BinOp.eql 37 s.thing.val s.thing.val).run Try.prog W = .ok (.bool true) W)
    obtain ⟨VL, VF, hpB, hpS, hpF, hpSS⟩ := H.out.d
    obtain ⟨gl, cl, hvl, hfl, hcl, hgl, hk, _, _, hax, _⟩ := open_spot hpS hs
    rw [hvl] at hpB
    unfold Gr.val at HG heA
    generalize s.thing.arr = A at *
    have HAX := Lib.hid hax
    obtain ⟨nl, hnl⟩ : ∃ nl, nl = (docT t).L.length := ⟨_, rfl⟩
    rw [← hnl] at hpB hk
    have HPB := Lib.hid hpB
    have w8 : IntKind.i64.wrap i = i := by rw [hik]; exact IntWalk.i64_in _ (by have := HI.out.n64; have := docL_len HI.out; omega)
    have kk0 : (0 : Int) ≤ i := by omega
    have kk1 : i < (nl : Int) := by omega
    have kk2 : i.toNat = k := by omega
    clear hE hh hq hgs hik hqs hs hth hpB hpS hpF hpSS hvl hfl hcl hk hax hnl
    go_upto_region 13 with (fail)
    refine wp_region_held_drew (S := fun w' => Blk w' gb 45 #[ptr c, ptr p, .slice AR n cR] ∧ Blk w' (w.heap.size + 1) 33 #[.int .i64 i, .int .u64 q]) (by kernel_rfl) ⟨(HB.out.chg hcA (by simp)).drew, hb5.drew⟩ (fun hHeld => ?_)
    simp only [List.setIfInBounds_toArray, List.size_toArray, List.length_cons, List.length_nil, Array.replicate]
    refine wpAnyH_take (i := 0) (v := ?_) rfl (by kernel_rfl) (by kernel_rfl) (by kernel_rfl) (fun _ _ _ h => h) (Or.inl ⟨by rfl, ?_⟩) hHeld ?_
    rotate_left
    · (intro w' hSw; go_simp; try with_reducible rfl)
    simp only [Act.put, List.getElem_toArray, List.getElem_cons_succ, List.getElem_cons_zero, List.setIfInBounds_toArray, List.set_cons_zero, List.set_cons_succ]
    refine wpAnyH_take (i := 1) (v := ?_) rfl (by kernel_rfl) (by kernel_rfl) (by kernel_rfl) (fun _ _ _ h => h) (Or.inl ⟨by rfl, ?_⟩) hHeld ?_
    rotate_left
    · (intro w' hSw; go_simp; try with_reducible rfl)
    simp only [Act.put, List.getElem_toArray, List.getElem_cons_succ, List.getElem_cons_zero, List.setIfInBounds_toArray, List.set_cons_zero, List.set_cons_succ]
    refine wpAnyH_take (i := 2) (v := ?_) rfl (by kernel_rfl) (by kernel_rfl) (by kernel_rfl) (fun _ _ _ h => h) (Or.inl ⟨by rfl, ?_⟩) hHeld ?_
    rotate_left
    · (intro w' hSw; go_simp; try with_reducible rfl)
    simp only [Act.put, List.getElem_toArray, List.getElem_cons_succ, List.getElem_cons_zero, List.setIfInBounds_toArray, List.set_cons_zero, List.set_cons_succ]
    refine wpAnyH_take (i := 3) (v := ?_) rfl (by kernel_rfl) (by kernel_rfl) (by kernel_rfl) (fun _ _ _ h => h) (Or.inl ⟨by rfl, ?_⟩) hHeld ?_
    rotate_left
    · (intro w' hSw; have q0 := hSw.1.cell 0; simp only [List.getElem?_toArray, List.getElem?_cons_zero, List.getElem?_cons_succ] at *; go_simp; try with_reducible rfl)
    simp only [Act.put, List.getElem_toArray, List.getElem_cons_succ, List.getElem_cons_zero, List.setIfInBounds_toArray, List.set_cons_zero, List.set_cons_succ]
    refine wpAnyH_take (i := 4) (v := ?_) rfl (by kernel_rfl) (by kernel_rfl) (by kernel_rfl) (fun _ _ _ h => h) (Or.inl ⟨by rfl, ?_⟩) hHeld ?_
    rotate_left
    · (intro w' hSw; have q0 := hSw.2.cell 0; have q1 := hSw.2.cell 1; simp only [List.getElem?_toArray, List.getElem?_cons_zero, List.getElem?_cons_succ] at *; go_simp; try with_reducible rfl)
    simp only [Act.put, List.getElem_toArray, List.getElem_cons_succ, List.getElem_cons_zero, List.setIfInBounds_toArray, List.set_cons_zero, List.set_cons_succ]
    refine wpAnyH_ready (rs := [5, 9]) (by kernel_rfl) (by simp) ?_
    refine AllReadyH.cons rfl (fun K hK => ?_) ?_
    · go_simp
      refine (HG.out _ hcD).mono ?_
      rintro e w2 ⟨rfl, hc2⟩
      have hz2 := hc2.size
      simp only [World.size_drew] at hz2
      refine hK _ _ ⟨hHeld.1.chg hc2 (by simp), hHeld.2.chg hc2 (by simp)⟩ (fun hHeld => ?_)
      clear hK K
      simp only [Act.put, List.getElem_toArray, List.getElem_cons_succ, List.getElem_cons_zero, List.setIfInBounds_toArray, List.set_cons_zero, List.set_cons_succ]
      refine wpAnyH_take (i := 6) (v := ?_) rfl (by kernel_rfl) (by kernel_rfl) (by kernel_rfl) (fun _ _ _ h => h) (Or.inl ⟨by rfl, ?_⟩) hHeld ?_
      rotate_left
      · (intro w' hSw; go_simp; try with_reducible rfl)
      simp only [Act.put, List.getElem_toArray, List.getElem_cons_succ, List.getElem_cons_zero, List.setIfInBounds_toArray, List.set_cons_zero, List.set_cons_succ]
      refine wpAnyH_take (i := 7) (v := ?_) rfl (by kernel_rfl) (by kernel_rfl) (by kernel_rfl) (fun _ _ _ h => h) (Or.inl ⟨by rfl, ?_⟩) hHeld ?_
      rotate_left
      · (intro w' hSw; go_simp; try with_reducible rfl)
      simp only [Act.put, List.getElem_toArray, List.getElem_cons_succ, List.getElem_cons_zero, List.setIfInBounds_toArray, List.set_cons_zero, List.set_cons_succ]
      refine wpAnyH_take (i := 8) (v := ?_) rfl (by kernel_rfl) (by kernel_rfl) (by kernel_rfl) (fun _ _ _ h => h) (Or.inl ⟨by rfl, ?_⟩) hHeld ?_
      rotate_left
      · (intro w' hSw; go_simp; try with_reducible rfl)
      simp only [Act.put, List.getElem_toArray, List.getElem_cons_succ, List.getElem_cons_zero, List.setIfInBounds_toArray, List.set_cons_zero, List.set_cons_succ]
      refine wpAnyH_ready (rs := [9]) (by kernel_rfl) (by simp) ?_
      refine AllReadyH.cons rfl (fun K hK => ?_) AllReadyH.nil
      go_simp
      refine hK _ _ ⟨hHeld.1.alloc _, hHeld.2.alloc _⟩ (fun hHeld => ?_)
      clear hK K
      simp only [Act.put, List.getElem_toArray, List.getElem_cons_succ, List.getElem_cons_zero, List.setIfInBounds_toArray, List.set_cons_zero, List.set_cons_succ]
      refine wpAnyH_ready (rs := [10]) (by kernel_rfl) (by simp) ?_
      refine AllReadyH.cons rfl (fun K hK => ?_) AllReadyH.nil
      refine sk_step_store (off := 0) T37 (Blk.new w2 37 zG) hAs (by rw [hAs]; decide) hA1 (by rfl) _ _ (by rfl) (by rfl) (by rfl) ?_
      intro w3 hS3
      rw [splice_all zG _ (by first | rfl | (rw [hAs]; rfl))] at hS3
      refine hK _ _ ⟨hS3.far hHeld.1 (by simp; omega), hS3.far hHeld.2 (by simp; omega)⟩ (fun hHeld => ?_)
      clear hK K
      simp only [Act.put, List.getElem_toArray, List.getElem_cons_succ, List.getElem_cons_zero, List.setIfInBounds_toArray, List.set_cons_zero, List.set_cons_succ]
      refine wpAnyH_take (i := 11) (v := ?_) rfl (by kernel_rfl) (by kernel_rfl) (by kernel_rfl) (fun _ _ _ h => h) (Or.inl ⟨by rfl, ?_⟩) hHeld ?_
      rotate_left
      · (intro w' hSw; go_simp; try with_reducible rfl)
      simp only [Act.put, List.getElem_toArray, List.getElem_cons_succ, List.getElem_cons_zero, List.setIfInBounds_toArray, List.set_cons_zero, List.set_cons_succ]
      refine wpAnyH_done (by kernel_rfl) ?_ _
      have hcX : Chg [] w w3 := (((hcD.then hc2).alloc _).trans hS3.chg (fun k hk => by simp at hk; omega))
      have hb5X := hHeld.2
      have hboxX := hS3.blk
      clear hHeld
      have hcXd := hcX.drew
      go_upto_region 14 with (fail)
      refine wp_region_held_drew (S := fun w' => Blk w' gb 45 #[ptr c, ptr p, .slice AR n cR] ∧ Blk w' (w.heap.size + 1) 33 #[.int .i64 i, .int .u64 q]) (by kernel_rfl) ⟨(HB.out.chg hcX (by simp)).drew, hb5X.drew⟩ (fun hHeld => ?_)
      simp only [List.setIfInBounds_toArray, List.size_toArray, List.length_cons, List.length_nil, Array.replicate]
      refine wpAnyH_take (i := 0) (v := ?_) rfl (by kernel_rfl) (by kernel_rfl) (by kernel_rfl) (fun _ _ _ h => h) (Or.inl ⟨by rfl, ?_⟩) hHeld ?_
      rotate_left
      · (intro w' hSw; go_simp; try with_reducible rfl)
      simp only [Act.put, List.getElem_toArray, List.getElem_cons_succ, List.getElem_cons_zero, List.setIfInBounds_toArray, List.set_cons_zero, List.set_cons_succ]
      refine wpAnyH_take (i := 1) (v := ?_) rfl (by kernel_rfl) (by kernel_rfl) (by kernel_rfl) (fun _ _ _ h => h) (Or.inl ⟨by rfl, ?_⟩) hHeld ?_
      rotate_left
      · (intro w' hSw; go_simp; try with_reducible rfl)
      simp only [Act.put, List.getElem_toArray, List.getElem_cons_succ, List.getElem_cons_zero, List.setIfInBounds_toArray, List.set_cons_zero, List.set_cons_succ]
      refine wpAnyH_take (i := 2) (v := ?_) rfl (by kernel_rfl) (by kernel_rfl) (by kernel_rfl) (fun _ _ _ h => h) (Or.inl ⟨by rfl, ?_⟩) hHeld ?_
      rotate_left
      · (intro w' hSw; go_simp; try with_reducible rfl)
      simp only [Act.put, List.getElem_toArray, List.getElem_cons_succ, List.getElem_cons_zero, List.setIfInBounds_toArray, List.set_cons_zero, List.set_cons_succ]
      refine wpAnyH_take (i := 3) (v := ?_) rfl (by kernel_rfl) (by kernel_rfl) (by kernel_rfl) (fun _ _ _ h => h) (Or.inl ⟨by rfl, ?_⟩) hHeld ?_
      rotate_left
      · (intro w' hSw; have q0 := hSw.1.cell 1; simp only [List.getElem?_toArray, List.getElem?_cons_zero, List.getElem?_cons_succ] at *; go_simp; try with_reducible rfl)
      simp only [Act.put, List.getElem_toArray, List.getElem_cons_succ, List.getElem_cons_zero, List.setIfInBounds_toArray, List.set_cons_zero, List.set_cons_succ]
      refine wpAnyH_take (i := 4) (v := ?_) rfl (by kernel_rfl) (by kernel_rfl) (by kernel_rfl) (fun _ _ _ h => h) (Or.inl ⟨by rfl, ?_⟩) hHeld ?_
      rotate_left
      · (intro w' hSw; have q0 := hSw.2.cell 0; have q1 := hSw.2.cell 1; simp only [List.getElem?_toArray, List.getElem?_cons_zero, List.getElem?_cons_succ] at *; go_simp; try with_reducible rfl)
      simp only [Act.put, List.getElem_toArray, List.getElem_cons_succ, List.getElem_cons_zero, List.setIfInBounds_toArray, List.set_cons_zero, List.set_cons_succ]
      refine wpAnyH_ready (rs := [5]) (by kernel_rfl) (by simp) ?_
      refine AllReadyH.cons rfl (fun K hK => ?_) AllReadyH.nil
      go_simp
      refine (HIs.out _ hcXd).mono ?_
      rintro e w4 ⟨rfl, hc4⟩
      refine hK _ _ ⟨hHeld.1.chg hc4 (by simp), hHeld.2.chg hc4 (by simp)⟩ (fun hHeld => ?_)
      clear hK K
      simp only [Act.put, List.getElem_toArray, List.getElem_cons_succ, List.getElem_cons_zero, List.setIfInBounds_toArray, List.set_cons_zero, List.set_cons_succ]
      refine wpAnyH_take (i := 6) (v := ?_) rfl (by kernel_rfl) (by kernel_rfl) (by kernel_rfl) (fun _ _ _ h => h) (Or.inl ⟨by rfl, ?_⟩) hHeld ?_
      rotate_left
      · (intro w' hSw; go_simp; try with_reducible rfl)
      simp only [Act.put, List.getElem_toArray, List.getElem_cons_succ, List.getElem_cons_zero, List.setIfInBounds_toArray, List.set_cons_zero, List.set_cons_succ]
      refine wpAnyH_done (by kernel_rfl) ?_ _
      clear hHeld
      go_upto_region 16 with (fail)
      have hcY := (hcXd.then hc4).drew
      have hbz := (hboxX.drew.chg hc4 (by simp)).drew
      have hb5Y := (hb5X.drew.chg hc4 (by simp)).drew
      have hptr := (HPB.out.chg hcY (by simp)).cell 0
      have g1 := (HB.out.chg hcY (by simp)).cell 1
      have i0 := hb5Y.cell 0
      have hax : ∀ j v, A[j]? = some v → (World.drew w4).cell? ⟨gl, k * 21 + 2 + j, none⟩ = some v := fun j v hv => (hcY.cell (p := ⟨gl, k * 21 + 2 + j, none⟩) hgl (by simp)).trans (HAX.out j v hv)
      have hbc := blk_cells hbz
      simp only [List.getElem?_toArray, List.getElem?_cons_zero, List.getElem?_cons_succ] at hptr g1 i0
      clear hcX hcXd hc4 hb5X hboxX hS3 hc2 hb5Y hbz hz2
      refine wp_region_still_lit (by kernel_rfl) (by kernel_rfl) ?_
      (try change wpStill _ _ (World.drew _) _ _ _)
      generalize hwd : World.drew w4 = wd at *
      have HWD := Lib.hid hwd
      clear hwd
      still_step
      still_step
      still_step
      refine wpStill_load T37 hAs hbc rfl ⟨_, rfl, rfl⟩ ?_
      still_step
      still_step
      still_step
      still_step
      still_step
      still_step
      still_step
      still_step
      still_step
      still_step
      still_step
      refine wpStill_load T37 hAs hax rfl ⟨_, rfl, rfl⟩ ?_
      (repeat still_step)
      refine wpStill_nil ?_
      go_wp2
      go_ret
      exact ⟨rfl, t, rs, HI.out.mono (by omega), by omega, HRI.out, GmTurns.refl H.out (by change Chg [] w (World.drew w4); rw [HWD.out]; exact hcY)⟩
    refine AllReadyH.cons rfl (fun K hK => ?_) AllReadyH.nil
    go_simp
    refine hK _ _ ⟨hHeld.1.alloc _, hHeld.2.alloc _⟩ (fun hHeld => ?_)
    clear hK K
    simp only [Act.put, List.getElem_toArray, List.getElem_cons_succ, List.getElem_cons_zero, List.setIfInBounds_toArray, List.set_cons_zero, List.set_cons_succ]
    refine wpAnyH_ready (rs := [5]) (by kernel_rfl) (by simp) ?_
    refine AllReadyH.cons rfl (fun K hK => ?_) AllReadyH.nil
    go_simp
    refine (HG.out _ (hcD.alloc _)).mono ?_
    rintro e w2 ⟨rfl, hc2⟩
    have hz2 := hc2.size
    simp only [World.size_alloc, World.size_drew] at hz2
    refine hK _ _ ⟨hHeld.1.chg hc2 (by simp), hHeld.2.chg hc2 (by simp)⟩ (fun hHeld => ?_)
    clear hK K
    simp only [Act.put, List.getElem_toArray, List.getElem_cons_succ, List.getElem_cons_zero, List.setIfInBounds_toArray, List.set_cons_zero, List.set_cons_succ]
    refine wpAnyH_take (i := 6) (v := ?_) rfl (by kernel_rfl) (by kernel_rfl) (by kernel_rfl) (fun _ _ _ h => h) (Or.inl ⟨by rfl, ?_⟩) hHeld ?_
    rotate_left
    · (intro w' hSw; go_simp; try with_reducible rfl)
    simp only [Act.put, List.getElem_toArray, List.getElem_cons_succ, List.getElem_cons_zero, List.setIfInBounds_toArray, List.set_cons_zero, List.set_cons_succ]
    refine wpAnyH_take (i := 7) (v := ?_) rfl (by kernel_rfl) (by kernel_rfl) (by kernel_rfl) (fun _ _ _ h => h) (Or.inl ⟨by rfl, ?_⟩) hHeld ?_
    rotate_left
    · (intro w' hSw; go_simp; try with_reducible rfl)
    simp only [Act.put, List.getElem_toArray, List.getElem_cons_succ, List.getElem_cons_zero, List.setIfInBounds_toArray, List.set_cons_zero, List.set_cons_succ]
    refine wpAnyH_take (i := 8) (v := ?_) rfl (by kernel_rfl) (by kernel_rfl) (by kernel_rfl) (fun _ _ _ h => h) (Or.inl ⟨by rfl, ?_⟩) hHeld ?_
    rotate_left
    · (intro w' hSw; go_simp; try with_reducible rfl)
    simp only [Act.put, List.getElem_toArray, List.getElem_cons_succ, List.getElem_cons_zero, List.setIfInBounds_toArray, List.set_cons_zero, List.set_cons_succ]
    refine wpAnyH_ready (rs := [10]) (by kernel_rfl) (by simp) ?_
    refine AllReadyH.cons rfl (fun K hK => ?_) AllReadyH.nil
    refine sk_step_store (off := 0) T37 ((Blk.new wc.drew 37 zG).chg hc2 (by simp)) hAs (by rw [hAs]; decide) hA1 (by rfl) _ _ (by rfl) (by rfl) (by rfl) ?_
    intro w3 hS3
    rw [splice_all zG _ (by first | rfl | (rw [hAs]; rfl))] at hS3
    refine hK _ _ ⟨hS3.far hHeld.1 (by simp; omega), hS3.far hHeld.2 (by simp; omega)⟩ (fun hHeld => ?_)
    clear hK K
    simp only [Act.put, List.getElem_toArray, List.getElem_cons_succ, List.getElem_cons_zero, List.setIfInBounds_toArray, List.set_cons_zero, List.set_cons_succ]
    refine wpAnyH_take (i := 11) (v := ?_) rfl (by kernel_rfl) (by kernel_rfl) (by kernel_rfl) (fun _ _ _ h => h) (Or.inl ⟨by rfl, ?_⟩) hHeld ?_
    rotate_left
    · (intro w' hSw; go_simp; try with_reducible rfl)
    simp only [Act.put, List.getElem_toArray, List.getElem_cons_succ, List.getElem_cons_zero, List.setIfInBounds_toArray, List.set_cons_zero, List.set_cons_succ]
    refine wpAnyH_done (by kernel_rfl) ?_ _
    have hcX : Chg [] w w3 := (((hcD.alloc _).then hc2).trans hS3.chg (fun k hk => by simp at hk; omega))
    have hb5X := hHeld.2
    have hboxX := hS3.blk
    clear hHeld
    have hcXd := hcX.drew
    go_upto_region 14 with (fail)
    refine wp_region_held_drew (S := fun w' => Blk w' gb 45 #[ptr c, ptr p, .slice AR n cR] ∧ Blk w' (w.heap.size + 1) 33 #[.int .i64 i, .int .u64 q]) (by kernel_rfl) ⟨(HB.out.chg hcX (by simp)).drew, hb5X.drew⟩ (fun hHeld => ?_)
    simp only [List.setIfInBounds_toArray, List.size_toArray, List.length_cons, List.length_nil, Array.replicate]
    refine wpAnyH_take (i := 0) (v := ?_) rfl (by kernel_rfl) (by kernel_rfl) (by kernel_rfl) (fun _ _ _ h => h) (Or.inl ⟨by rfl, ?_⟩) hHeld ?_
    rotate_left
    · (intro w' hSw; go_simp; try with_reducible rfl)
    simp only [Act.put, List.getElem_toArray, List.getElem_cons_succ, List.getElem_cons_zero, List.setIfInBounds_toArray, List.set_cons_zero, List.set_cons_succ]
    refine wpAnyH_take (i := 1) (v := ?_) rfl (by kernel_rfl) (by kernel_rfl) (by kernel_rfl) (fun _ _ _ h => h) (Or.inl ⟨by rfl, ?_⟩) hHeld ?_
    rotate_left
    · (intro w' hSw; go_simp; try with_reducible rfl)
    simp only [Act.put, List.getElem_toArray, List.getElem_cons_succ, List.getElem_cons_zero, List.setIfInBounds_toArray, List.set_cons_zero, List.set_cons_succ]
    refine wpAnyH_take (i := 2) (v := ?_) rfl (by kernel_rfl) (by kernel_rfl) (by kernel_rfl) (fun _ _ _ h => h) (Or.inl ⟨by rfl, ?_⟩) hHeld ?_
    rotate_left
    · (intro w' hSw; go_simp; try with_reducible rfl)
    simp only [Act.put, List.getElem_toArray, List.getElem_cons_succ, List.getElem_cons_zero, List.setIfInBounds_toArray, List.set_cons_zero, List.set_cons_succ]
    refine wpAnyH_take (i := 3) (v := ?_) rfl (by kernel_rfl) (by kernel_rfl) (by kernel_rfl) (fun _ _ _ h => h) (Or.inl ⟨by rfl, ?_⟩) hHeld ?_
    rotate_left
    · (intro w' hSw; have q0 := hSw.1.cell 1; simp only [List.getElem?_toArray, List.getElem?_cons_zero, List.getElem?_cons_succ] at *; go_simp; try with_reducible rfl)
    simp only [Act.put, List.getElem_toArray, List.getElem_cons_succ, List.getElem_cons_zero, List.setIfInBounds_toArray, List.set_cons_zero, List.set_cons_succ]
    refine wpAnyH_take (i := 4) (v := ?_) rfl (by kernel_rfl) (by kernel_rfl) (by kernel_rfl) (fun _ _ _ h => h) (Or.inl ⟨by rfl, ?_⟩) hHeld ?_
    rotate_left
    · (intro w' hSw; have q0 := hSw.2.cell 0; have q1 := hSw.2.cell 1; simp only [List.getElem?_toArray, List.getElem?_cons_zero, List.getElem?_cons_succ] at *; go_simp; try with_reducible rfl)
    simp only [Act.put, List.getElem_toArray, List.getElem_cons_succ, List.getElem_cons_zero, List.setIfInBounds_toArray, List.set_cons_zero, List.set_cons_succ]
    refine wpAnyH_ready (rs := [5]) (by kernel_rfl) (by simp) ?_
    refine AllReadyH.cons rfl (fun K hK => ?_) AllReadyH.nil
    go_simp
    refine (HIs.out _ hcXd).mono ?_
    rintro e w4 ⟨rfl, hc4⟩
    refine hK _ _ ⟨hHeld.1.chg hc4 (by simp), hHeld.2.chg hc4 (by simp)⟩ (fun hHeld => ?_)
    clear hK K
    simp only [Act.put, List.getElem_toArray, List.getElem_cons_succ, List.getElem_cons_zero, List.setIfInBounds_toArray, List.set_cons_zero, List.set_cons_succ]
    refine wpAnyH_take (i := 6) (v := ?_) rfl (by kernel_rfl) (by kernel_rfl) (by kernel_rfl) (fun _ _ _ h => h) (Or.inl ⟨by rfl, ?_⟩) hHeld ?_
    rotate_left
    · (intro w' hSw; go_simp; try with_reducible rfl)
    simp only [Act.put, List.getElem_toArray, List.getElem_cons_succ, List.getElem_cons_zero, List.setIfInBounds_toArray, List.set_cons_zero, List.set_cons_succ]
    refine wpAnyH_done (by kernel_rfl) ?_ _
    clear hHeld
    go_upto_region 16 with (fail)
    have hcY := (hcXd.then hc4).drew
    have hbz := (hboxX.drew.chg hc4 (by simp)).drew
    have hb5Y := (hb5X.drew.chg hc4 (by simp)).drew
    have hptr := (HPB.out.chg hcY (by simp)).cell 0
    have g1 := (HB.out.chg hcY (by simp)).cell 1
    have i0 := hb5Y.cell 0
    have hax : ∀ j v, A[j]? = some v → (World.drew w4).cell? ⟨gl, k * 21 + 2 + j, none⟩ = some v := fun j v hv => (hcY.cell (p := ⟨gl, k * 21 + 2 + j, none⟩) hgl (by simp)).trans (HAX.out j v hv)
    have hbc := blk_cells hbz
    simp only [List.getElem?_toArray, List.getElem?_cons_zero, List.getElem?_cons_succ] at hptr g1 i0
    clear hcX hcXd hc4 hb5X hboxX hS3 hc2 hb5Y hbz hz2
    refine wp_region_still_lit (by kernel_rfl) (by kernel_rfl) ?_
    (try change wpStill _ _ (World.drew _) _ _ _)
    generalize hwd : World.drew w4 = wd at *
    have HWD := Lib.hid hwd
    clear hwd
    still_step
    still_step
    still_step
    refine wpStill_load T37 hAs hbc rfl ⟨_, rfl, rfl⟩ ?_
    still_step
    still_step
    still_step
    still_step
    still_step
    still_step
    still_step
    still_step
    still_step
    still_step
    still_step
    refine wpStill_load T37 hAs hax rfl ⟨_, rfl, rfl⟩ ?_
    (repeat still_step)
    refine wpStill_nil ?_
    go_wp2
    go_ret
    exact ⟨rfl, t, rs, HI.out.mono (by omega), by omega, HRI.out, GmTurns.refl H.out (by change Chg [] w (World.drew w4); rw [HWD.out]; exact hcY)⟩
end Go.Proofs
end
