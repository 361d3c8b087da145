/-
  Proved: of any size, any acts and any goroutine, what is gone is stale for good, and who is stale is not changed by anything. No conditions.
-/
import Derived.Deep.CutRange
import Derived.Test.YtapgcadffghljaaM14
import Derived.Test.YtapgcadffghljaaRows
import Derived.WalkKit
import Derived.Below
import Derived.ChangeSame
import Derived.ProofKit
import Derived.OpenShut
section
namespace Go.Proofs
open Go.RowKit
set_option linter.unusedVariables false
set_option linter.unusedSimpArgs false
attribute [local go_sem] eql_ptr_nil eql_nil_nil eql_tptr_nil eql_tnil_nil
set_option maxHeartbeats 12800000 in
set_option maxRecDepth 100000 in
theorem stale_any (size : Int) (hsz : inI size) (V : Value) (acts : List Ac) (x : Gr) (h0 : 0 ≤ x.un) (w : World) (hV : Acts w V acts) :
    Calls Try.prog 5 #[.int .i64 size, V, x.val] w fun e w' => e = .returned (.bool true) ∧ Chg [] w w' := by
  have HK := Lib.hid known_any
  obtain ⟨A2, c2, rfl⟩ := hV.open_
  obtain ⟨m, hm⟩ : ∃ m, m = acts.length := ⟨_, rfl⟩
  rw [← hm] at hV ⊢
  have HV := Lib.hid hV
  clear hV hm
  have HMAY := Lib.hid (rMay_any x h0)
  have hXs := x.size
  have hmx : ∃ y : Gr, y = x := ⟨x, rfl⟩
  obtain ⟨W0, hWe⟩ : ∃ W, W = w.alloc (.cells x.arr 37) := ⟨_, rfl⟩
  have hc0 : Chg [] w W0 := by rw [hWe]; exact (Chg.refl [] w).alloc _
  have hb5 : Blk W0 w.heap.size 37 x.arr := by rw [hWe]; exact Blk.new w 37 _
  have HST := Lib.hid (fun (w : World) (c : Nat) (S : List Nat) (t : Tab Gr) (h : GAt w c S t) (i q : Int) (hi : inI i) (hm : mayP x = true) (hq : t.has i q = false) => Set_stale h i q hi x hm hq)
  generalize mayP x = mp at *
  unfold Gr.val at HMAY HST ⊢
  generalize x.arr = X at *
  clear h0 hmx
  by_cases hb : 1 ≤ size ∧ size ≤ 64
  · obtain ⟨N, rfl⟩ : ∃ N : Nat, size = (N : Nat) := ⟨size.toNat, by omega⟩
    have HB := Lib.hid (mid_begun N (by omega) (by omega) W0)
    have d0 : decide ((N : Int) < 1) = false := decide_eq_false (by omega)
    have d2 : decide ((N : Int) > 64) = false := decide_eq_false (by omega)
    have d2' : decide ((64 : Int) < (N : Int)) = false := decide_eq_false (by omega)
    have hN64 : N ≤ 64 := by omega
    clear hsz hb
    by_cases hm60 : (60 : Int) < (m : Int)
    · have d1 : decide ((m : Int) > 60) = true := decide_eq_true hm60
      have d1' : decide ((60 : Int) < (m : Int)) = true := decide_eq_true hm60
      go_enter Try.func5, Try.ntmps5
      go_upto_region 1 with (fail)
      rw [← hWe]
      clear hWe
      go_wp2_with (first | (go_at_call 10; refine HB.out.mono ?_; rintro e w1 ⟨gb, rfl, hM⟩; have HQ := Lib.hid hM; have hbx := hb5.chg hM.chg (by simp); clear hM) | (go_at_call 9; refine (HK.out _).mono ?_; rintro e w4 ⟨rfl, hc4⟩))
      go_ret
      exact ⟨rfl, (hc0.then HQ.out.chg).then hc4⟩
    · have d1 : decide ((m : Int) > 60) = false := decide_eq_false hm60
      have d1' : decide ((60 : Int) < (m : Int)) = false := decide_eq_false hm60
      have hm2 : m ≤ 60 := by omega
      cases mp with
      | false =>
        go_enter Try.func5, Try.ntmps5
        go_upto_region 1 with (fail)
        rw [← hWe]
        clear hWe
        go_wp2_with (first | (go_at_call 10; refine HB.out.mono ?_; rintro e w1 ⟨gb, rfl, hM⟩; have HQ := Lib.hid hM; have hbx := hb5.chg hM.chg (by simp); clear hM) | ((with_reducible refine wpl_loadE T37 hbx2 hXs ?_ ?_ ?_); (· rfl); (· exact ⟨_, rfl, rfl⟩)) | ((with_reducible refine wpl_loadE T37 hbx hXs ?_ ?_ ?_); (· rfl); (· exact ⟨_, rfl, rfl⟩)) | (go_at_call 14; have q9 := HC2.out; refine (HMAY.out _).mono ?_; rintro e w3 ⟨rfl, hc3⟩) | (go_at_call 14; refine (HMAY.out _).mono ?_; rintro e w2 ⟨rfl, hc2⟩; have HC2 := Lib.hid hc2; have hbx2 := hbx.chg hc2 (by simp)) | (go_at_call 9; refine (HK.out _).mono ?_; rintro e w4 ⟨rfl, hc4⟩))
        go_ret
        exact ⟨rfl, (((hc0.then HQ.out.chg).then HC2.out).then hc3).then hc4⟩
      | true =>
        go_enter Try.func5, Try.ntmps5
        go_upto_region 1 with (fail)
        rw [← hWe]
        clear hWe
        go_wp2_with (first | (go_at_call 10; refine HB.out.mono ?_; rintro e w1 ⟨gb, rfl, hM⟩; have HQ := Lib.hid hM; have hbx := hb5.chg hM.chg (by simp); clear hM) | ((with_reducible refine wpl_loadE T37 hbx hXs ?_ ?_ ?_); (· rfl); (· exact ⟨_, rfl, rfl⟩)) | (go_at_call 14; refine (HMAY.out _).mono ?_; rintro e w2 ⟨rfl, hc2⟩; have HC2 := Lib.hid hc2; have hbx2 := hbx.chg hc2 (by simp)))
        have HQ2 := Lib.hid (HQ.out.quiet HC2.out)
        clear hbx hbx2 HC2 hc2
        go_loopg [8] m (fun gh iv wr => ∃ j : Nat, j + gh = m ∧ iv = .int .i64 j ∧ Hid (Mid W0 wr gb N j))
        case atStart => exact ⟨0, by omega, rfl, HQ2⟩
        case round =>
          obtain ⟨j, hj, rfl, HMI⟩ := hrel
          by_cases hlt : j < m
          · have j0 : (0 : Int) ≤ (j : Int) := by omega
            have j1 : (j : Int) < (m : Int) := by omega
            obtain ⟨bI, oI, xa, hA, hfit, hcells⟩ := HV.out.at_ hlt
            subst hA
            have hxc := hcells wr (hc0.then HMI.out.chg)
            have hxs := xa.size
            have HDO := Lib.hid (HMI.out.do (by omega) hfit)
            clear HV hcells hfit
            unfold Ac.val at HDO
            generalize xa.arr = XA at *
            go_wp2_with (first | ((with_reducible refine wpl_load_atE (b := bI) (off := oI + j * 24) T39 hxs hxc ?_ ?_ ?_); (· rfl); (· exact ⟨_, rfl, rfl⟩)) | (go_at_call 11; refine HDO.out.mono ?_; rintro e w4 ⟨rfl, hM'⟩; have HM' := Lib.hid hM'; clear hM'))
            go_roundg (m - j - 1)
            case measure => omega
            case rel => exact ⟨j + 1, by omega, by go_num, HM'⟩
          · have dj : decide ((j : Int) < (m : Int)) = false := by simp; omega
            obtain ⟨K, t, rs, ⟨c, p, S, T, VR, hg, rfl⟩, hI, hrl, hri, hK, hcm⟩ := HMI.out
            obtain ⟨AR, cR, hVR, _⟩ := hg.r.val
            have HG := Lib.hid hg
            have HI := Lib.hid hI
            have HRI := Lib.hid hri
            have HCM := Lib.hid hcm
            obtain ⟨n, hn⟩ : ∃ n, n = rs.length := ⟨_, rfl⟩
            have hgb := hg.b
            rw [hVR, ← hn] at hgb
            have HGB := Lib.hid hgb
            have hrr := hg.r
            rw [hVR, ← hn] at hrr
            have HRR := Lib.hid hrr
            have Hn := Lib.hid hn
            have hn500 : n ≤ 60 := by omega
            have g0 := hgb.cell 0
            simp only [List.getElem?_toArray, List.getElem?_cons_zero] at g0
            have HCP := Lib.hid (Copy_any hg.g)
            clear hg hI hri hcm hVR hgb hrr hn hK hrl HMI HQ HQ2 HV
            go_upto_region 9 with (go_at_call 15; refine HCP.out.mono ?_; rintro e w2 ⟨c9, S9, rfl, hG9, _, _, hc2⟩)
            have HG9 := Lib.hid hG9
            have HC2 := Lib.hid hc2
            clear hG9 hc2 HCP g0 dj
            go_wp2
            go_loopg [10] n (fun gh kv wq => ∃ k : Nat, k + gh = n ∧ kv = .int .i64 k ∧ Hid (Chg [] w2 wq))
            case atStart => exact ⟨0, by omega, rfl, Lib.hid (Chg.refl [] w2)⟩
            case round =>
              obtain ⟨k, hk, rfl, HW⟩ := hrel
              have hcw := HC2.out.then HW.out
              have hgb2 := HGB.out.chg hcw (by simp)
              have g2 := hgb2.cell 2
              simp only [List.getElem?_toArray, List.getElem?_cons_zero, List.getElem?_cons_succ] at g2
              by_cases hkn : k < n
              · have k0 : (0 : Int) ≤ (k : Int) := by omega
                have k1 : (k : Int) < (n : Int) := by omega
                have dk : decide ((k : Int) < (n : Int)) = true := decide_eq_true k1
                obtain ⟨y, hy⟩ : ∃ y, rs[k]? = some y := ⟨_, List.getElem?_eq_getElem (by rw [← Hn.out]; exact hkn)⟩
                have hyi : inI y.1 := HRI.out y (List.mem_of_getElem? hy)
                obtain ⟨gr, cr, hv, _, _, hrc, _, hgr⟩ := HRR.out.form (by omega)
                simp only [Value.slice.injEq] at hv
                obtain ⟨h90, h91, h92⟩ := hv
                clear h91 h92
                subst h90
                obtain ⟨q0, q1⟩ := prCells_at hy
                have r0 := (hcw.cell (p := ⟨gr, k * 2, none⟩) hgr (by simp)).trans (hrc _ _ q0)
                have r1 := (hcw.cell (p := ⟨gr, k * 2 + 1, none⟩) hgr (by simp)).trans (hrc _ _ q1)
                obtain ⟨yi, yq⟩ := y
                simp only at r0 r1 hyi
                have HIS := Lib.hid (fun W (hc : Chg [] wr W) => rIs_any (HG.out.d.quiet (hcw.then hc)) (by rw [docL_len HI.out]; exact HI.out.n64) yi yq hyi)
                rw [doc_is] at HIS
                have hcx := (Chg.refl [] wr).alloc (.cells #[.int .i64 yi, .int .u64 yq] 33)
                have hbx := Blk.new wr 33 #[.int .i64 yi, .int .u64 yq]
                have hgbx := hgb2.alloc (.cells #[.int .i64 yi, .int .u64 yq] 33)
                have hbX := ((hb5.chg HCM.out (by simp)).chg hcw (by simp)).alloc (.cells #[.int .i64 yi, .int .u64 yq] 33)
                clear hrc q0 q1 hy hgr
                go_upto_region 13 with (fail)
                clear r0 r1 g2
                generalize World.alloc wr _ = wx at *
                generalize wr.heap.size = bx at *
                have hcxd := hcx.drew
                cases hq : t.has yi yq with
                | true =>
                  rw [hq] at HIS
                  refine wp_region_held_drew (S := fun w' => Blk w' gb 45 #[ptr c, ptr p, .slice (some ⟨gr, 0, none⟩) n cR] ∧ Blk w' bx 33 #[.int .i64 yi, .int .u64 yq]) (by kernel_rfl) ⟨hgbx.drew, hbx.drew⟩ (fun hHeld => ?_)
                  simp only [List.setIfInBounds_toArray, List.size_toArray, List.length_cons, List.length_nil, Array.replicate]
                  refine wpAnyH_take (i := 0) (v := ?_) rfl (by kernel_rfl) (by kernel_rfl) (by kernel_rfl) (fun _ _ _ h => h) (Or.inl ⟨by rfl, ?_⟩) hHeld ?_
                  rotate_left
                  · (intro w' hSw; go_simp; try with_reducible rfl)
                  simp only [Act.put, List.getElem_toArray, List.getElem_cons_succ, List.getElem_cons_zero, List.setIfInBounds_toArray, List.set_cons_zero, List.set_cons_succ]
                  refine wpAnyH_take (i := 1) (v := ?_) rfl (by kernel_rfl) (by kernel_rfl) (by kernel_rfl) (fun _ _ _ h => h) (Or.inl ⟨by rfl, ?_⟩) hHeld ?_
                  rotate_left
                  · (intro w' hSw; go_simp; try with_reducible rfl)
                  simp only [Act.put, List.getElem_toArray, List.getElem_cons_succ, List.getElem_cons_zero, List.setIfInBounds_toArray, List.set_cons_zero, List.set_cons_succ]
                  refine wpAnyH_take (i := 2) (v := ?_) rfl (by kernel_rfl) (by kernel_rfl) (by kernel_rfl) (fun _ _ _ h => h) (Or.inl ⟨by rfl, ?_⟩) hHeld ?_
                  rotate_left
                  · (intro w' hSw; go_simp; try with_reducible rfl)
                  simp only [Act.put, List.getElem_toArray, List.getElem_cons_succ, List.getElem_cons_zero, List.setIfInBounds_toArray, List.set_cons_zero, List.set_cons_succ]
                  refine wpAnyH_take (i := 3) (v := ?_) rfl (by kernel_rfl) (by kernel_rfl) (by kernel_rfl) (fun _ _ _ h => h) (Or.inl ⟨by rfl, ?_⟩) hHeld ?_
                  rotate_left
                  · (intro w' hSw; have q0 := hSw.1.cell 1; simp only [List.getElem?_toArray, List.getElem?_cons_zero, List.getElem?_cons_succ] at *; go_simp; try with_reducible rfl)
                  simp only [Act.put, List.getElem_toArray, List.getElem_cons_succ, List.getElem_cons_zero, List.setIfInBounds_toArray, List.set_cons_zero, List.set_cons_succ]
                  refine wpAnyH_take (i := 4) (v := ?_) rfl (by kernel_rfl) (by kernel_rfl) (by kernel_rfl) (fun _ _ _ h => h) (Or.inl ⟨by rfl, ?_⟩) hHeld ?_
                  rotate_left
                  · (intro w' hSw; have q0 := hSw.2.cell 0; have q1 := hSw.2.cell 1; simp only [List.getElem?_toArray, List.getElem?_cons_zero, List.getElem?_cons_succ] at *; go_simp; try with_reducible rfl)
                  simp only [Act.put, List.getElem_toArray, List.getElem_cons_succ, List.getElem_cons_zero, List.setIfInBounds_toArray, List.set_cons_zero, List.set_cons_succ]
                  refine wpAnyH_ready (rs := [5]) (by kernel_rfl) (by simp) ?_
                  refine AllReadyH.cons rfl (fun K hK => ?_) AllReadyH.nil
                  go_simp
                  refine (HIS.out _ hcxd).mono ?_
                  rintro e w3 ⟨rfl, hc3⟩
                  refine hK _ _ ⟨hHeld.1.chg hc3 (by simp), hHeld.2.chg hc3 (by simp)⟩ (fun hHeld => ?_)
                  clear hK K
                  simp only [Act.put, List.getElem_toArray, List.getElem_cons_succ, List.getElem_cons_zero, List.setIfInBounds_toArray, List.set_cons_zero, List.set_cons_succ]
                  refine wpAnyH_done (by kernel_rfl) ?_ _
                  clear hHeld
                  go_wp2
                  go_roundg (n - k - 1)
                  case measure => omega
                  case rel => exact ⟨k + 1, by omega, by go_num, Lib.hid (HW.out.then (hcxd.then hc3))⟩
                | false =>
                  rw [hq] at HIS
                  have hE : t.getE yi yq = 11 := by unfold Tab.getE; rw [if_neg (by simp [hq])]
                  have HGT := Lib.hid (fun W (hc : Chg [] wr W) => Get_any (HG.out.g.quiet (hcw.then hc)) yi yq hyi)
                  rw [hE, getG_no hq] at HGT
                  have hAs : zG.size = 19 := rfl
                  have hA1 : zG.all (·.oneCell') = true := Gr.zero.one
                  change Hid (∀ W (hc : Chg [] wr W), Calls Try.prog 17 #[ptr c, .agg #[.int .i64 yi, .int .u64 yq]] W fun e w' => e = .returned (.tuple #[.agg zG, .int .i64 11]) ∧ Chg [] W w') at HGT
                  have HSE := Lib.hid (fun W (hc : Chg [] wr W) => HST.out W c S t (HG.out.g.quiet (hcw.then hc)) yi yq hyi (by simp) hq)
                  have HTU := Lib.hid (fun W (hc : Chg [] wr W) => Turn_stale (HG.out.g.quiet (hcw.then hc)) yi yq hyi 1 hq)
                  have HDR := Lib.hid (fun W (hc : Chg [] wr W) => Drop_stale (HG.out.g.quiet (hcw.then hc)) yi yq hyi hq)
                  clear hE hq
                  refine wp_region_held_drew (S := fun w' => Blk w' gb 45 #[ptr c, ptr p, .slice (some ⟨gr, 0, none⟩) n cR] ∧ Blk w' bx 33 #[.int .i64 yi, .int .u64 yq]) (by kernel_rfl) ⟨hgbx.drew, hbx.drew⟩ (fun hHeld => ?_)
                  simp only [List.setIfInBounds_toArray, List.size_toArray, List.length_cons, List.length_nil, Array.replicate]
                  refine wpAnyH_take (i := 0) (v := ?_) rfl (by kernel_rfl) (by kernel_rfl) (by kernel_rfl) (fun _ _ _ h => h) (Or.inl ⟨by rfl, ?_⟩) hHeld ?_
                  rotate_left
                  · (intro w' hSw; go_simp; try with_reducible rfl)
                  simp only [Act.put, List.getElem_toArray, List.getElem_cons_succ, List.getElem_cons_zero, List.setIfInBounds_toArray, List.set_cons_zero, List.set_cons_succ]
                  refine wpAnyH_take (i := 1) (v := ?_) rfl (by kernel_rfl) (by kernel_rfl) (by kernel_rfl) (fun _ _ _ h => h) (Or.inl ⟨by rfl, ?_⟩) hHeld ?_
                  rotate_left
                  · (intro w' hSw; go_simp; try with_reducible rfl)
                  simp only [Act.put, List.getElem_toArray, List.getElem_cons_succ, List.getElem_cons_zero, List.setIfInBounds_toArray, List.set_cons_zero, List.set_cons_succ]
                  refine wpAnyH_take (i := 2) (v := ?_) rfl (by kernel_rfl) (by kernel_rfl) (by kernel_rfl) (fun _ _ _ h => h) (Or.inl ⟨by rfl, ?_⟩) hHeld ?_
                  rotate_left
                  · (intro w' hSw; go_simp; try with_reducible rfl)
                  simp only [Act.put, List.getElem_toArray, List.getElem_cons_succ, List.getElem_cons_zero, List.setIfInBounds_toArray, List.set_cons_zero, List.set_cons_succ]
                  refine wpAnyH_take (i := 3) (v := ?_) rfl (by kernel_rfl) (by kernel_rfl) (by kernel_rfl) (fun _ _ _ h => h) (Or.inl ⟨by rfl, ?_⟩) hHeld ?_
                  rotate_left
                  · (intro w' hSw; have q0 := hSw.1.cell 1; simp only [List.getElem?_toArray, List.getElem?_cons_zero, List.getElem?_cons_succ] at *; go_simp; try with_reducible rfl)
                  simp only [Act.put, List.getElem_toArray, List.getElem_cons_succ, List.getElem_cons_zero, List.setIfInBounds_toArray, List.set_cons_zero, List.set_cons_succ]
                  refine wpAnyH_take (i := 4) (v := ?_) rfl (by kernel_rfl) (by kernel_rfl) (by kernel_rfl) (fun _ _ _ h => h) (Or.inl ⟨by rfl, ?_⟩) hHeld ?_
                  rotate_left
                  · (intro w' hSw; have q0 := hSw.2.cell 0; have q1 := hSw.2.cell 1; simp only [List.getElem?_toArray, List.getElem?_cons_zero, List.getElem?_cons_succ] at *; go_simp; try with_reducible rfl)
                  simp only [Act.put, List.getElem_toArray, List.getElem_cons_succ, List.getElem_cons_zero, List.setIfInBounds_toArray, List.set_cons_zero, List.set_cons_succ]
                  refine wpAnyH_ready (rs := [5]) (by kernel_rfl) (by simp) ?_
                  refine AllReadyH.cons rfl (fun K hK => ?_) AllReadyH.nil
                  go_simp
                  refine (HIS.out _ hcxd).mono ?_
                  rintro e w3 ⟨rfl, hc3⟩
                  refine hK _ _ ⟨hHeld.1.chg hc3 (by simp), hHeld.2.chg hc3 (by simp)⟩ (fun hHeld => ?_)
                  clear hK K
                  simp only [Act.put, List.getElem_toArray, List.getElem_cons_succ, List.getElem_cons_zero, List.setIfInBounds_toArray, List.set_cons_zero, List.set_cons_succ]
                  refine wpAnyH_done (by kernel_rfl) ?_ _
                  have hgb3 := hHeld.1
                  have hb3 := hHeld.2
                  have hc3w := hcxd.then hc3
                  have hbX3 := hbX.drew.chg hc3 (by simp)
                  clear hHeld hcxd hc3 hcx hgbx hbx hbX HIS
                  go_upto_region 14 with (fail)
                  have hcD := hc3w.drew
                  go_cut [12, 13] from 86 to 94 (fun s12 s13 wx => ∃ zb : Nat, s12 = ptr zb ∧ s13 = .int .i64 11 ∧ Hid (Chg [] w3 wx))
                  case first =>
                    have lgb3 := hgb3.lt
                    have lb3 := hb3.lt
                    refine wp_region_held_drew (S := fun w' => Blk w' gb 45 #[ptr c, ptr p, .slice (some ⟨gr, 0, none⟩) n cR] ∧ Blk w' bx 33 #[.int .i64 yi, .int .u64 yq]) (by kernel_rfl) ⟨hgb3.drew, hb3.drew⟩ (fun hHeld => ?_)
                    simp only [List.setIfInBounds_toArray, List.size_toArray, List.length_cons, List.length_nil, Array.replicate]
                    refine wpAnyH_take (i := 0) (v := ?_) rfl (by kernel_rfl) (by kernel_rfl) (by kernel_rfl) (fun _ _ _ h => h) (Or.inl ⟨by rfl, ?_⟩) hHeld ?_
                    rotate_left
                    · (intro w' hSw; go_simp; try with_reducible rfl)
                    simp only [Act.put, List.getElem_toArray, List.getElem_cons_succ, List.getElem_cons_zero, List.setIfInBounds_toArray, List.set_cons_zero, List.set_cons_succ]
                    refine wpAnyH_take (i := 1) (v := ?_) rfl (by kernel_rfl) (by kernel_rfl) (by kernel_rfl) (fun _ _ _ h => h) (Or.inl ⟨by rfl, ?_⟩) hHeld ?_
                    rotate_left
                    · (intro w' hSw; go_simp; try with_reducible rfl)
                    simp only [Act.put, List.getElem_toArray, List.getElem_cons_succ, List.getElem_cons_zero, List.setIfInBounds_toArray, List.set_cons_zero, List.set_cons_succ]
                    refine wpAnyH_take (i := 2) (v := ?_) rfl (by kernel_rfl) (by kernel_rfl) (by kernel_rfl) (fun _ _ _ h => h) (Or.inl ⟨by rfl, ?_⟩) hHeld ?_
                    rotate_left
                    · (intro w' hSw; go_simp; try with_reducible rfl)
                    simp only [Act.put, List.getElem_toArray, List.getElem_cons_succ, List.getElem_cons_zero, List.setIfInBounds_toArray, List.set_cons_zero, List.set_cons_succ]
                    refine wpAnyH_take (i := 3) (v := ?_) rfl (by kernel_rfl) (by kernel_rfl) (by kernel_rfl) (fun _ _ _ h => h) (Or.inl ⟨by rfl, ?_⟩) hHeld ?_
                    rotate_left
                    · (intro w' hSw; have q0 := hSw.1.cell 0; simp only [List.getElem?_toArray, List.getElem?_cons_zero, List.getElem?_cons_succ] at *; go_simp; try with_reducible rfl)
                    simp only [Act.put, List.getElem_toArray, List.getElem_cons_succ, List.getElem_cons_zero, List.setIfInBounds_toArray, List.set_cons_zero, List.set_cons_succ]
                    refine wpAnyH_take (i := 4) (v := ?_) rfl (by kernel_rfl) (by kernel_rfl) (by kernel_rfl) (fun _ _ _ h => h) (Or.inl ⟨by rfl, ?_⟩) hHeld ?_
                    rotate_left
                    · (intro w' hSw; have q0 := hSw.2.cell 0; have q1 := hSw.2.cell 1; simp only [List.getElem?_toArray, List.getElem?_cons_zero, List.getElem?_cons_succ] at *; go_simp; try with_reducible rfl)
                    simp only [Act.put, List.getElem_toArray, List.getElem_cons_succ, List.getElem_cons_zero, List.setIfInBounds_toArray, List.set_cons_zero, List.set_cons_succ]
                    refine wpAnyH_ready (rs := [5, 9]) (by kernel_rfl) (by simp) ?_
                    refine AllReadyH.cons rfl (fun K hK => ?_) ?_
                    · go_simp
                      refine (HGT.out _ hcD).mono ?_
                      rintro e w4 ⟨rfl, hc4⟩
                      have hz4 := hc4.size
                      simp only [World.size_drew] at hz4
                      refine hK _ _ ⟨hHeld.1.chg hc4 (by simp), hHeld.2.chg hc4 (by simp)⟩ (fun hHeld => ?_)
                      clear hK K
                      simp only [Act.put, List.getElem_toArray, List.getElem_cons_succ, List.getElem_cons_zero, List.setIfInBounds_toArray, List.set_cons_zero, List.set_cons_succ]
                      refine wpAnyH_take (i := 6) (v := ?_) rfl (by kernel_rfl) (by kernel_rfl) (by kernel_rfl) (fun _ _ _ h => h) (Or.inl ⟨by rfl, ?_⟩) hHeld ?_
                      rotate_left
                      · (intro w' hSw; go_simp; try with_reducible rfl)
                      simp only [Act.put, List.getElem_toArray, List.getElem_cons_succ, List.getElem_cons_zero, List.setIfInBounds_toArray, List.set_cons_zero, List.set_cons_succ]
                      refine wpAnyH_take (i := 7) (v := ?_) rfl (by kernel_rfl) (by kernel_rfl) (by kernel_rfl) (fun _ _ _ h => h) (Or.inl ⟨by rfl, ?_⟩) hHeld ?_
                      rotate_left
                      · (intro w' hSw; go_simp; try with_reducible rfl)
                      simp only [Act.put, List.getElem_toArray, List.getElem_cons_succ, List.getElem_cons_zero, List.setIfInBounds_toArray, List.set_cons_zero, List.set_cons_succ]
                      refine wpAnyH_take (i := 8) (v := ?_) rfl (by kernel_rfl) (by kernel_rfl) (by kernel_rfl) (fun _ _ _ h => h) (Or.inl ⟨by rfl, ?_⟩) hHeld ?_
                      rotate_left
                      · (intro w' hSw; go_simp; try with_reducible rfl)
                      simp only [Act.put, List.getElem_toArray, List.getElem_cons_succ, List.getElem_cons_zero, List.setIfInBounds_toArray, List.set_cons_zero, List.set_cons_succ]
                      refine wpAnyH_ready (rs := [9]) (by kernel_rfl) (by simp) ?_
                      refine AllReadyH.cons rfl (fun K hK => ?_) AllReadyH.nil
                      go_simp
                      refine hK _ _ ⟨hHeld.1.alloc _, hHeld.2.alloc _⟩ (fun hHeld => ?_)
                      clear hK K
                      simp only [Act.put, List.getElem_toArray, List.getElem_cons_succ, List.getElem_cons_zero, List.setIfInBounds_toArray, List.set_cons_zero, List.set_cons_succ]
                      refine wpAnyH_ready (rs := [10]) (by kernel_rfl) (by simp) ?_
                      refine AllReadyH.cons rfl (fun K hK => ?_) AllReadyH.nil
                      refine sk_step_store (off := 0) T37 (Blk.new w4 37 zG) hAs (by rw [hAs]; decide) hA1 (by rfl) _ _ (by rfl) (by rfl) (by rfl) ?_
                      intro w5 hS5
                      rw [splice_all zG _ (by first | rfl | (rw [hAs]; rfl))] at hS5
                      refine hK _ _ ⟨hS5.far hHeld.1 (by first | omega | (simp; omega)), hS5.far hHeld.2 (by first | omega | (simp; omega))⟩ (fun hHeld => ?_)
                      clear hK K
                      simp only [Act.put, List.getElem_toArray, List.getElem_cons_succ, List.getElem_cons_zero, List.setIfInBounds_toArray, List.set_cons_zero, List.set_cons_succ]
                      refine wpAnyH_take (i := 11) (v := ?_) rfl (by kernel_rfl) (by kernel_rfl) (by kernel_rfl) (fun _ _ _ h => h) (Or.inl ⟨by rfl, ?_⟩) hHeld ?_
                      rotate_left
                      · (intro w' hSw; go_simp; try with_reducible rfl)
                      simp only [Act.put, List.getElem_toArray, List.getElem_cons_succ, List.getElem_cons_zero, List.setIfInBounds_toArray, List.set_cons_zero, List.set_cons_succ]
                      refine wpAnyH_done (by kernel_rfl) ?_ _
                      have hc5 : Chg [] w3 w5 := ((((Chg.refl [] w3).drew.then hc4).alloc _).trans hS5.chg (fun k hk => by simp at hk; omega))
                      go_wp2
                      go_meet
                      case rel => exact ⟨_, rfl, rfl, Lib.hid hc5⟩
                    refine AllReadyH.cons rfl (fun K hK => ?_) AllReadyH.nil
                    go_simp
                    refine hK _ _ ⟨hHeld.1.alloc _, hHeld.2.alloc _⟩ (fun hHeld => ?_)
                    clear hK K
                    simp only [Act.put, List.getElem_toArray, List.getElem_cons_succ, List.getElem_cons_zero, List.setIfInBounds_toArray, List.set_cons_zero, List.set_cons_succ]
                    refine wpAnyH_ready (rs := [5]) (by kernel_rfl) (by simp) ?_
                    refine AllReadyH.cons rfl (fun K hK => ?_) AllReadyH.nil
                    go_simp
                    refine (HGT.out _ (hcD.alloc _)).mono ?_
                    rintro e w4 ⟨rfl, hc4⟩
                    have hz4 := hc4.size
                    simp only [World.size_alloc, World.size_drew] at hz4
                    refine hK _ _ ⟨hHeld.1.chg hc4 (by simp), hHeld.2.chg hc4 (by simp)⟩ (fun hHeld => ?_)
                    clear hK K
                    simp only [Act.put, List.getElem_toArray, List.getElem_cons_succ, List.getElem_cons_zero, List.setIfInBounds_toArray, List.set_cons_zero, List.set_cons_succ]
                    refine wpAnyH_take (i := 6) (v := ?_) rfl (by kernel_rfl) (by kernel_rfl) (by kernel_rfl) (fun _ _ _ h => h) (Or.inl ⟨by rfl, ?_⟩) hHeld ?_
                    rotate_left
                    · (intro w' hSw; go_simp; try with_reducible rfl)
                    simp only [Act.put, List.getElem_toArray, List.getElem_cons_succ, List.getElem_cons_zero, List.setIfInBounds_toArray, List.set_cons_zero, List.set_cons_succ]
                    refine wpAnyH_take (i := 7) (v := ?_) rfl (by kernel_rfl) (by kernel_rfl) (by kernel_rfl) (fun _ _ _ h => h) (Or.inl ⟨by rfl, ?_⟩) hHeld ?_
                    rotate_left
                    · (intro w' hSw; go_simp; try with_reducible rfl)
                    simp only [Act.put, List.getElem_toArray, List.getElem_cons_succ, List.getElem_cons_zero, List.setIfInBounds_toArray, List.set_cons_zero, List.set_cons_succ]
                    refine wpAnyH_take (i := 8) (v := ?_) rfl (by kernel_rfl) (by kernel_rfl) (by kernel_rfl) (fun _ _ _ h => h) (Or.inl ⟨by rfl, ?_⟩) hHeld ?_
                    rotate_left
                    · (intro w' hSw; go_simp; try with_reducible rfl)
                    simp only [Act.put, List.getElem_toArray, List.getElem_cons_succ, List.getElem_cons_zero, List.setIfInBounds_toArray, List.set_cons_zero, List.set_cons_succ]
                    refine wpAnyH_ready (rs := [10]) (by kernel_rfl) (by simp) ?_
                    refine AllReadyH.cons rfl (fun K hK => ?_) AllReadyH.nil
                    refine sk_step_store (off := 0) T37 ((Blk.new w3.drew 37 zG).chg hc4 (by simp)) hAs (by rw [hAs]; decide) hA1 (by rfl) _ _ (by rfl) (by rfl) (by rfl) ?_
                    intro w5 hS5
                    rw [splice_all zG _ (by first | rfl | (rw [hAs]; rfl))] at hS5
                    refine hK _ _ ⟨hS5.far hHeld.1 (by first | omega | (simp; omega)), hS5.far hHeld.2 (by first | omega | (simp; omega))⟩ (fun hHeld => ?_)
                    clear hK K
                    simp only [Act.put, List.getElem_toArray, List.getElem_cons_succ, List.getElem_cons_zero, List.setIfInBounds_toArray, List.set_cons_zero, List.set_cons_succ]
                    refine wpAnyH_take (i := 11) (v := ?_) rfl (by kernel_rfl) (by kernel_rfl) (by kernel_rfl) (fun _ _ _ h => h) (Or.inl ⟨by rfl, ?_⟩) hHeld ?_
                    rotate_left
                    · (intro w' hSw; go_simp; try with_reducible rfl)
                    simp only [Act.put, List.getElem_toArray, List.getElem_cons_succ, List.getElem_cons_zero, List.setIfInBounds_toArray, List.set_cons_zero, List.set_cons_succ]
                    refine wpAnyH_done (by kernel_rfl) ?_ _
                    have hc5 : Chg [] w3 w5 := ((((Chg.refl [] w3).drew.alloc _).then hc4).trans hS5.chg (fun k hk => by simp at hk; omega))
                    go_wp2
                    go_meet
                    case rel => exact ⟨_, rfl, rfl, Lib.hid hc5⟩
                  case rest =>
                    obtain ⟨zb, rfl, rfl, HW5⟩ := hcut
                    obtain ⟨w5, hw5⟩ : ∃ W, W = wc := ⟨_, rfl⟩
                    subst hw5
                    have hc5 := hc3w.then HW5.out
                    have hgb5 := hgb3.chg HW5.out (by simp)
                    have hb55 := hb3.chg HW5.out (by simp)
                    have hbX5 := hbX3.chg HW5.out (by simp)
                    clear hcD hgb3 hb3 hbX3
                    go_upto_region 15 with (fail)
                    have hcE := hc5.drew
                    refine wp_region_held_drew (S := fun w' => Blk w' gb 45 #[ptr c, ptr p, .slice (some ⟨gr, 0, none⟩) n cR] ∧ Blk w' bx 33 #[.int .i64 yi, .int .u64 yq] ∧ Blk w' w.heap.size 37 X) (by kernel_rfl) ⟨hgb5.drew, hb55.drew, hbX5.drew⟩ (fun hHeld => ?_)
                    simp only [List.setIfInBounds_toArray, List.size_toArray, List.length_cons, List.length_nil, Array.replicate]
                    refine wpAnyH_take (i := 0) (v := ?_) rfl (by kernel_rfl) (by kernel_rfl) (by kernel_rfl) (fun _ _ _ h => h) (Or.inl ⟨by rfl, ?_⟩) hHeld ?_
                    rotate_left
                    · (intro w' hSw; go_simp; try with_reducible rfl)
                    simp only [Act.put, List.getElem_toArray, List.getElem_cons_succ, List.getElem_cons_zero, List.setIfInBounds_toArray, List.set_cons_zero, List.set_cons_succ]
                    refine wpAnyH_take (i := 1) (v := ?_) rfl (by kernel_rfl) (by kernel_rfl) (by kernel_rfl) (fun _ _ _ h => h) (Or.inl ⟨by rfl, ?_⟩) hHeld ?_
                    rotate_left
                    · (intro w' hSw; go_simp; try with_reducible rfl)
                    simp only [Act.put, List.getElem_toArray, List.getElem_cons_succ, List.getElem_cons_zero, List.setIfInBounds_toArray, List.set_cons_zero, List.set_cons_succ]
                    refine wpAnyH_take (i := 2) (v := ?_) rfl (by kernel_rfl) (by kernel_rfl) (by kernel_rfl) (fun _ _ _ h => h) (Or.inl ⟨by rfl, ?_⟩) hHeld ?_
                    rotate_left
                    · (intro w' hSw; go_simp; try with_reducible rfl)
                    simp only [Act.put, List.getElem_toArray, List.getElem_cons_succ, List.getElem_cons_zero, List.setIfInBounds_toArray, List.set_cons_zero, List.set_cons_succ]
                    refine wpAnyH_take (i := 3) (v := ?_) rfl (by kernel_rfl) (by kernel_rfl) (by kernel_rfl) (fun _ _ _ h => h) (Or.inl ⟨by rfl, ?_⟩) hHeld ?_
                    rotate_left
                    · (intro w' hSw; go_simp; try with_reducible rfl)
                    simp only [Act.put, List.getElem_toArray, List.getElem_cons_succ, List.getElem_cons_zero, List.setIfInBounds_toArray, List.set_cons_zero, List.set_cons_succ]
                    refine wpAnyH_take (i := 4) (v := ?_) rfl (by kernel_rfl) (by kernel_rfl) (by kernel_rfl) (fun _ _ _ h => h) (Or.inl ⟨by rfl, ?_⟩) hHeld ?_
                    rotate_left
                    · (intro w' hSw; go_simp; try with_reducible rfl)
                    simp only [Act.put, List.getElem_toArray, List.getElem_cons_succ, List.getElem_cons_zero, List.setIfInBounds_toArray, List.set_cons_zero, List.set_cons_succ]
                    refine wpAnyH_take (i := 5) (v := ?_) rfl (by kernel_rfl) (by kernel_rfl) (by kernel_rfl) (fun _ _ _ h => h) (Or.inl ⟨by rfl, ?_⟩) hHeld ?_
                    rotate_left
                    · (intro w' hSw; go_simp; try with_reducible rfl)
                    simp only [Act.put, List.getElem_toArray, List.getElem_cons_succ, List.getElem_cons_zero, List.setIfInBounds_toArray, List.set_cons_zero, List.set_cons_succ]
                    refine wpAnyH_take (i := 6) (v := ?_) rfl (by kernel_rfl) (by kernel_rfl) (by kernel_rfl) (fun _ _ _ h => h) (Or.inl ⟨by rfl, ?_⟩) hHeld ?_
                    rotate_left
                    · (intro w' hSw; have q0 := hSw.1.cell 0; simp only [List.getElem?_toArray, List.getElem?_cons_zero, List.getElem?_cons_succ] at *; go_simp; try with_reducible rfl)
                    simp only [Act.put, List.getElem_toArray, List.getElem_cons_succ, List.getElem_cons_zero, List.setIfInBounds_toArray, List.set_cons_zero, List.set_cons_succ]
                    refine wpAnyH_take (i := 7) (v := ?_) rfl (by kernel_rfl) (by kernel_rfl) (by kernel_rfl) (fun _ _ _ h => h) (Or.inl ⟨by rfl, ?_⟩) hHeld ?_
                    rotate_left
                    · (intro w' hSw; have q0 := hSw.2.1.cell 0; have q1 := hSw.2.1.cell 1; simp only [List.getElem?_toArray, List.getElem?_cons_zero, List.getElem?_cons_succ] at *; go_simp; try with_reducible rfl)
                    simp only [Act.put, List.getElem_toArray, List.getElem_cons_succ, List.getElem_cons_zero, List.setIfInBounds_toArray, List.set_cons_zero, List.set_cons_succ]
                    refine wpAnyH_take (i := 8) (v := .agg X) rfl (by kernel_rfl) (by kernel_rfl) (by kernel_rfl) (fun _ _ _ h => h) (Or.inl ⟨by rfl, fun w' hSw => sk_run_load (off := 0) T37 hXs (blk_cells hSw.2.2) _ (by rfl) (by rfl)⟩) hHeld ?_
                    simp only [Act.put, List.getElem_toArray, List.getElem_cons_succ, List.getElem_cons_zero, List.setIfInBounds_toArray, List.set_cons_zero, List.set_cons_succ]
                    refine wpAnyH_ready (rs := [9]) (by kernel_rfl) (by simp) ?_
                    refine AllReadyH.cons rfl (fun K hK => ?_) AllReadyH.nil
                    go_simp
                    refine (HSE.out _ hcE).mono ?_
                    rintro e w6 ⟨rfl, hc6⟩
                    have hc6w := hcE.then hc6
                    refine hK _ _ ⟨hHeld.1.chg hc6 (by simp), hHeld.2.1.chg hc6 (by simp), hHeld.2.2.chg hc6 (by simp)⟩ (fun hHeld => ?_)
                    clear hK K
                    simp only [Act.put, List.getElem_toArray, List.getElem_cons_succ, List.getElem_cons_zero, List.setIfInBounds_toArray, List.set_cons_zero, List.set_cons_succ]
                    refine wpAnyH_take (i := 10) (v := ?_) rfl (by kernel_rfl) (by kernel_rfl) (by kernel_rfl) (fun _ _ _ h => h) (Or.inl ⟨by rfl, ?_⟩) hHeld ?_
                    rotate_left
                    · (intro w' hSw; go_simp; try with_reducible rfl)
                    simp only [Act.put, List.getElem_toArray, List.getElem_cons_succ, List.getElem_cons_zero, List.setIfInBounds_toArray, List.set_cons_zero, List.set_cons_succ]
                    refine wpAnyH_take (i := 11) (v := ?_) rfl (by kernel_rfl) (by kernel_rfl) (by kernel_rfl) (fun _ _ _ h => h) (Or.inl ⟨by rfl, ?_⟩) hHeld ?_
                    rotate_left
                    · (intro w' hSw; go_simp; try with_reducible rfl)
                    simp only [Act.put, List.getElem_toArray, List.getElem_cons_succ, List.getElem_cons_zero, List.setIfInBounds_toArray, List.set_cons_zero, List.set_cons_succ]
                    refine wpAnyH_take (i := 12) (v := ?_) rfl (by kernel_rfl) (by kernel_rfl) (by kernel_rfl) (fun _ _ _ h => h) (Or.inl ⟨by rfl, ?_⟩) hHeld ?_
                    rotate_left
                    · (intro w' hSw; go_simp; try with_reducible rfl)
                    simp only [Act.put, List.getElem_toArray, List.getElem_cons_succ, List.getElem_cons_zero, List.setIfInBounds_toArray, List.set_cons_zero, List.set_cons_succ]
                    refine wpAnyH_take (i := 13) (v := ?_) rfl (by kernel_rfl) (by kernel_rfl) (by kernel_rfl) (fun _ _ _ h => h) (Or.inl ⟨by rfl, ?_⟩) hHeld ?_
                    rotate_left
                    · (intro w' hSw; go_simp; try with_reducible rfl)
                    simp only [Act.put, List.getElem_toArray, List.getElem_cons_succ, List.getElem_cons_zero, List.setIfInBounds_toArray, List.set_cons_zero, List.set_cons_succ]
                    refine wpAnyH_take (i := 14) (v := ?_) rfl (by kernel_rfl) (by kernel_rfl) (by kernel_rfl) (fun _ _ _ h => h) (Or.inl ⟨by rfl, ?_⟩) hHeld ?_
                    rotate_left
                    · (intro w' hSw; go_simp; try with_reducible rfl)
                    simp only [Act.put, List.getElem_toArray, List.getElem_cons_succ, List.getElem_cons_zero, List.setIfInBounds_toArray, List.set_cons_zero, List.set_cons_succ]
                    refine wpAnyH_take (i := 15) (v := ?_) rfl (by kernel_rfl) (by kernel_rfl) (by kernel_rfl) (fun _ _ _ h => h) (Or.inl ⟨by rfl, ?_⟩) hHeld ?_
                    rotate_left
                    · (intro w' hSw; go_simp; try with_reducible rfl)
                    simp only [Act.put, List.getElem_toArray, List.getElem_cons_succ, List.getElem_cons_zero, List.setIfInBounds_toArray, List.set_cons_zero, List.set_cons_succ]
                    refine wpAnyH_take (i := 16) (v := ?_) rfl (by kernel_rfl) (by kernel_rfl) (by kernel_rfl) (fun _ _ _ h => h) (Or.inl ⟨by rfl, ?_⟩) hHeld ?_
                    rotate_left
                    · (intro w' hSw; have q0 := hSw.1.cell 0; simp only [List.getElem?_toArray, List.getElem?_cons_zero, List.getElem?_cons_succ] at *; go_simp; try with_reducible rfl)
                    simp only [Act.put, List.getElem_toArray, List.getElem_cons_succ, List.getElem_cons_zero, List.setIfInBounds_toArray, List.set_cons_zero, List.set_cons_succ]
                    refine wpAnyH_take (i := 17) (v := ?_) rfl (by kernel_rfl) (by kernel_rfl) (by kernel_rfl) (fun _ _ _ h => h) (Or.inl ⟨by rfl, ?_⟩) hHeld ?_
                    rotate_left
                    · (intro w' hSw; have q0 := hSw.2.1.cell 0; have q1 := hSw.2.1.cell 1; simp only [List.getElem?_toArray, List.getElem?_cons_zero, List.getElem?_cons_succ] at *; go_simp; try with_reducible rfl)
                    simp only [Act.put, List.getElem_toArray, List.getElem_cons_succ, List.getElem_cons_zero, List.setIfInBounds_toArray, List.set_cons_zero, List.set_cons_succ]
                    refine wpAnyH_ready (rs := [18]) (by kernel_rfl) (by simp) ?_
                    refine AllReadyH.cons rfl (fun K hK => ?_) AllReadyH.nil
                    go_simp
                    refine (HTU.out _ hc6w).mono ?_
                    rintro e w7 ⟨rfl, hc7⟩
                    have hc7w := hc6w.then hc7
                    refine hK _ _ ⟨hHeld.1.chg hc7 (by simp), hHeld.2.1.chg hc7 (by simp), hHeld.2.2.chg hc7 (by simp)⟩ (fun hHeld => ?_)
                    clear hK K
                    simp only [Act.put, List.getElem_toArray, List.getElem_cons_succ, List.getElem_cons_zero, List.setIfInBounds_toArray, List.set_cons_zero, List.set_cons_succ]
                    refine wpAnyH_take (i := 19) (v := ?_) rfl (by kernel_rfl) (by kernel_rfl) (by kernel_rfl) (fun _ _ _ h => h) (Or.inl ⟨by rfl, ?_⟩) hHeld ?_
                    rotate_left
                    · (intro w' hSw; go_simp; try with_reducible rfl)
                    simp only [Act.put, List.getElem_toArray, List.getElem_cons_succ, List.getElem_cons_zero, List.setIfInBounds_toArray, List.set_cons_zero, List.set_cons_succ]
                    refine wpAnyH_take (i := 20) (v := ?_) rfl (by kernel_rfl) (by kernel_rfl) (by kernel_rfl) (fun _ _ _ h => h) (Or.inl ⟨by rfl, ?_⟩) hHeld ?_
                    rotate_left
                    · (intro w' hSw; go_simp; try with_reducible rfl)
                    simp only [Act.put, List.getElem_toArray, List.getElem_cons_succ, List.getElem_cons_zero, List.setIfInBounds_toArray, List.set_cons_zero, List.set_cons_succ]
                    refine wpAnyH_take (i := 21) (v := ?_) rfl (by kernel_rfl) (by kernel_rfl) (by kernel_rfl) (fun _ _ _ h => h) (Or.inl ⟨by rfl, ?_⟩) hHeld ?_
                    rotate_left
                    · (intro w' hSw; go_simp; try with_reducible rfl)
                    simp only [Act.put, List.getElem_toArray, List.getElem_cons_succ, List.getElem_cons_zero, List.setIfInBounds_toArray, List.set_cons_zero, List.set_cons_succ]
                    refine wpAnyH_take (i := 22) (v := ?_) rfl (by kernel_rfl) (by kernel_rfl) (by kernel_rfl) (fun _ _ _ h => h) (Or.inl ⟨by rfl, ?_⟩) hHeld ?_
                    rotate_left
                    · (intro w' hSw; go_simp; try with_reducible rfl)
                    simp only [Act.put, List.getElem_toArray, List.getElem_cons_succ, List.getElem_cons_zero, List.setIfInBounds_toArray, List.set_cons_zero, List.set_cons_succ]
                    refine wpAnyH_take (i := 23) (v := ?_) rfl (by kernel_rfl) (by kernel_rfl) (by kernel_rfl) (fun _ _ _ h => h) (Or.inl ⟨by rfl, ?_⟩) hHeld ?_
                    rotate_left
                    · (intro w' hSw; go_simp; try with_reducible rfl)
                    simp only [Act.put, List.getElem_toArray, List.getElem_cons_succ, List.getElem_cons_zero, List.setIfInBounds_toArray, List.set_cons_zero, List.set_cons_succ]
                    refine wpAnyH_take (i := 24) (v := ?_) rfl (by kernel_rfl) (by kernel_rfl) (by kernel_rfl) (fun _ _ _ h => h) (Or.inl ⟨by rfl, ?_⟩) hHeld ?_
                    rotate_left
                    · (intro w' hSw; go_simp; try with_reducible rfl)
                    simp only [Act.put, List.getElem_toArray, List.getElem_cons_succ, List.getElem_cons_zero, List.setIfInBounds_toArray, List.set_cons_zero, List.set_cons_succ]
                    refine wpAnyH_take (i := 25) (v := ?_) rfl (by kernel_rfl) (by kernel_rfl) (by kernel_rfl) (fun _ _ _ h => h) (Or.inl ⟨by rfl, ?_⟩) hHeld ?_
                    rotate_left
                    · (intro w' hSw; have q0 := hSw.1.cell 0; simp only [List.getElem?_toArray, List.getElem?_cons_zero, List.getElem?_cons_succ] at *; go_simp; try with_reducible rfl)
                    simp only [Act.put, List.getElem_toArray, List.getElem_cons_succ, List.getElem_cons_zero, List.setIfInBounds_toArray, List.set_cons_zero, List.set_cons_succ]
                    refine wpAnyH_take (i := 26) (v := ?_) rfl (by kernel_rfl) (by kernel_rfl) (by kernel_rfl) (fun _ _ _ h => h) (Or.inl ⟨by rfl, ?_⟩) hHeld ?_
                    rotate_left
                    · (intro w' hSw; have q0 := hSw.2.1.cell 0; have q1 := hSw.2.1.cell 1; simp only [List.getElem?_toArray, List.getElem?_cons_zero, List.getElem?_cons_succ] at *; go_simp; try with_reducible rfl)
                    simp only [Act.put, List.getElem_toArray, List.getElem_cons_succ, List.getElem_cons_zero, List.setIfInBounds_toArray, List.set_cons_zero, List.set_cons_succ]
                    refine wpAnyH_ready (rs := [27]) (by kernel_rfl) (by simp) ?_
                    refine AllReadyH.cons rfl (fun K hK => ?_) AllReadyH.nil
                    go_simp
                    refine (HDR.out _ hc7w).mono ?_
                    rintro e w8 ⟨rfl, hc8⟩
                    have hc8w := hc7w.then hc8
                    refine hK _ _ ⟨hHeld.1.chg hc8 (by simp), hHeld.2.1.chg hc8 (by simp), hHeld.2.2.chg hc8 (by simp)⟩ (fun hHeld => ?_)
                    clear hK K
                    simp only [Act.put, List.getElem_toArray, List.getElem_cons_succ, List.getElem_cons_zero, List.setIfInBounds_toArray, List.set_cons_zero, List.set_cons_succ]
                    refine wpAnyH_take (i := 28) (v := ?_) rfl (by kernel_rfl) (by kernel_rfl) (by kernel_rfl) (fun _ _ _ h => h) (Or.inl ⟨by rfl, ?_⟩) hHeld ?_
                    rotate_left
                    · (intro w' hSw; go_simp; try with_reducible rfl)
                    simp only [Act.put, List.getElem_toArray, List.getElem_cons_succ, List.getElem_cons_zero, List.setIfInBounds_toArray, List.set_cons_zero, List.set_cons_succ]
                    refine wpAnyH_take (i := 29) (v := ?_) rfl (by kernel_rfl) (by kernel_rfl) (by kernel_rfl) (fun _ _ _ h => h) (Or.inl ⟨by rfl, ?_⟩) hHeld ?_
                    rotate_left
                    · (intro w' hSw; go_simp; try with_reducible rfl)
                    simp only [Act.put, List.getElem_toArray, List.getElem_cons_succ, List.getElem_cons_zero, List.setIfInBounds_toArray, List.set_cons_zero, List.set_cons_succ]
                    refine wpAnyH_done (by kernel_rfl) ?_ _
                    clear hHeld
                    go_wp2
                    go_roundg (n - k - 1)
                    case measure => omega
                    case rel => exact ⟨k + 1, by omega, by go_num, Lib.hid (HW.out.then hc8w)⟩
              · have dk : decide ((k : Int) < (n : Int)) = false := by simp; omega
                have g0 := hgb2.cell 0
                simp only [List.getElem?_toArray, List.getElem?_cons_zero] at g0
                have HSM := Lib.hid (Same_any (HG.out.g.quiet hcw) (HG9.out.quiet HW.out) HI.out.size HI.out.size HI.out.n64)
                rw [eqL_refl] at HSM
                go_wp2_with (first | (go_at_call 21; refine HSM.out.mono ?_; rintro e w4 ⟨rfl, hc4⟩) | (go_at_call 9; refine (HK.out _).mono ?_; rintro e w5 ⟨rfl, hc5⟩))
                go_ret
                exact ⟨rfl, (((hc0.then HCM.out).then hcw).then hc4).then hc5⟩
  · have HN := Lib.hid (begin_no size (by omega) W0)
    by_cases h1 : size < 1
    · have d0 : decide (size < 1) = true := decide_eq_true h1
      go_enter Try.func5, Try.ntmps5
      go_upto_region 1 with (fail)
      rw [← hWe]
      clear hWe
      go_wp2_with (first | (go_at_call 10; refine HN.out.mono ?_; rintro e w' ⟨rfl, rfl⟩) | (go_at_call 9; refine (HK.out _).mono ?_; rintro e w4 ⟨rfl, hc4⟩))
      go_ret
      exact ⟨rfl, hc0.then hc4⟩
    · have d0 : decide (size < 1) = false := decide_eq_false h1
      have d2 : decide (size > 64) = true := decide_eq_true (by omega)
      have d2' : decide ((64 : Int) < size) = true := decide_eq_true (by omega)
      go_enter Try.func5, Try.ntmps5
      go_upto_region 1 with (fail)
      rw [← hWe]
      clear hWe
      go_wp2_with (first | (go_at_call 10; refine HN.out.mono ?_; rintro e w' ⟨rfl, rfl⟩) | (go_at_call 9; refine (HK.out _).mono ?_; rintro e w4 ⟨rfl, hc4⟩))
      go_ret
      exact ⟨rfl, hc0.then hc4⟩
end Go.Proofs
end
section
namespace Go.Proofs.Ytapgcadffghljaa.gtableStale
open Go.ChangeShapes Go.WideShapes Go.ChangeAt Go.RowKit
set_option linter.unusedVariables false

theorem own : ownKnob Try.prog.godebug = none := by kernel_rfl

set_option maxRecDepth 100000 in
theorem lifted (os : Os) (started : os.Started) (H : Type) (enc : TypeId × Value → H) :
    ReturnsInHanded {} Try.checked os 5 .any (Rows.gtableStaleSpec.pre6 enc Try.prog Try.f5 Rows.gtableStaleRow.domain false) (Rows.gtableStaleSpec.post enc Try.prog Try.f5 false true false false) := by
  refine returnsInHanded_of_change (C := Try.checked) own started (by kernel_rfl) Try.func5
    (ChangeSpec.witness6 (enc := enc) (C := Try.checked) false ⟨#[], #[.int .i64 0, .slice none 0 0, .agg #[.int .i64 0, .bool false, .int .i64 0, .int .u64 0, .int .i64 0, .int .u64 0, .int .u8 0, .int .i64 0, .int .i64 0, .int .u64 0, .int .u64 0, .int .u64 0, .int .u64 0, .int .u64 0, .int .u64 0, .int .u64 0, .int .u64 0, .int .i64 0, .int .u64 0]], []⟩ 8 (by kernel_rfl) (by kernel_rfl) (by kernel_rfl) (by kernel_rfl)) ?_
  intro W base args ds gs before hval0 hW hcnd _
  have hval : ∀ (j : Nat) t v, Try.f5.params[j]? = some t → args[j]? = some v → Value.okWide Try.prog W .any base t v := hval0
  have hW' := hW
  obtain ⟨p, q, hA0, hV, rfl, hfz, hnd⟩ := hW
  have hA : DataW.TrodAll enc Try.prog W 0 (fun _ => true) true Try.f5.params.toList args.toList ds p := hA0
  rw [Try.params5] at hA hval
  obtain ⟨v0, vs0, d0, ds0, p0, q0, hargs, rfl, rfl, h0, r0⟩ := trodAll_cons hA
  obtain ⟨v1, vs1, d1, ds1, p1, q1, rfl, rfl, rfl, h1, r1⟩ := trodAll_cons r0
  obtain ⟨v2, vs2, d2, ds2, p2, q2, rfl, rfl, rfl, h2, r2⟩ := trodAll_cons r1
  obtain ⟨rfl, rfl, rfl⟩ := trodAll_nil r2
  obtain rfl : args = #[v0, v1, v2] := by cases args; simp_all
  obtain ⟨rfl, rfl⟩ := trodVars_none hV
  obtain ⟨a0, rfl, rfl, rfl, w0⟩ := open_int Try.underlying3 (hval 0 3 v0 rfl rfl) h0
  clear hA0 hval0
  simp only [List.append_nil, List.nil_append] at hW'
  obtain ⟨b0, c0⟩ := bounds_i64 w0
  have hlt1 : ∀ x ∈ p1, x.block < W.heap.size := fun x hx => hW'.lt x (by simp [hx])
  obtain ⟨l1, hl1⟩ := open_acts (hval 1 22 v1 rfl rfl) h1
  have hlt2 : ∀ x ∈ p2, x.block < W.heap.size := fun x hx => hW'.lt x (by simp [hx])
  obtain ⟨g2, hun2, hst2, rfl⟩ := open_g (hval 2 37 v2 rfl rfl) h2
  refine (stale_any _ ⟨by omega, by omega⟩ _ _ g2 hun2 W hl1).mono fun e W' ⟨he, hc⟩ => ?_
  have hg := hc.to_below
  subst he
  exact ⟨_, rfl, post_of_below (pa := ([] ++ (p1 ++ (p2 ++ [])))) (pv := []) hW' (fun _ _ _ => (trodAll_cons_mk (shut_bool Try.underlying4 _) trodAll_mk0)) (fun sp hsp => (trodAll_cons_mk (shut_int Try.underlying3 w0) (trodAll_cons_mk (WideElems.Trod_stays Try.laidOut (by kernel_rfl) (of_decide_eq_true (by kernel_rfl)) h1 (fun x hx => hg.same (hlt1 x hx)) (fun x hx => hsp x (by simp [hx]))) (trodAll_cons_mk (WideElems.Trod_stays Try.laidOut (by kernel_rfl) (of_decide_eq_true (by kernel_rfl)) h2 (fun x hx => hg.same (hlt2 x hx)) (fun x hx => hsp x (by simp [hx]))) trodAll_mk0)))) (fun _ _ => rfl) (by simp)
    hg (ok_one (by kernel_rfl) rfl (okWide_bool_mk Try.underlying4 _))⟩

theorem over : Rows.gtableStaleRow.holds Try.pinned (OpenSpec.ofChange Rows.gtableStaleSpec) :=
  OpenClaim.holds_of_wide 5 Try.f5 rfl rfl rfl rfl rfl rfl rfl ⟨rfl, rfl, rfl, rfl, rfl⟩ rfl rfl rfl rfl rfl (by kernel_rfl) Try.func5 (by kernel_rfl)
    (of_decide_eq_true (by kernel_rfl)) (by unfold Func.isWrapper; first | (rw [if_pos (by decide +kernel)]; kernel_rfl) | (rw [if_neg (by decide +kernel)]; exact ⟨rfl, rfl⟩))
    (fun os started H enc _ => lifted os started H enc)

/-- ████ THE STATEMENT ████ -/
theorem proved : Rows.GtableStaleSaid :=
  over
#print axioms proved
end Go.Proofs.Ytapgcadffghljaa.gtableStale
end
