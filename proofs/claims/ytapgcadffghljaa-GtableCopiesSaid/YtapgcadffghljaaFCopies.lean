/-
  Proved: of any size and any acts, a copy goes on apart from the table that it was copied from, and the code says of two tables that they are the same just where the document does. No conditions.
-/
import Derived.Test.YtapgcadffghljaaM14
import Derived.Deep.CutRange
import Derived.Test.YtapgcadffghljaaRows
import Derived.WalkKit
import Derived.Below
import Derived.ChangeSame
import Derived.ProofKit
import Derived.OpenShut
section
namespace Go.Proofs
open Go.RowKit
set_option linter.unusedVariables false
set_option linter.unusedSimpArgs false

/-! ### Two games, apart -/
def Mid2 (w W : World) (g1 g2 N m : Nat) : Prop :=
  ∃ K1 t1 r1 K2 t2 r2, GameAt W g1 K1 t1 r1 ∧ GameAt W g2 K2 t2 r2 ∧ Inv t1 N m ∧ Inv t2 N m ∧ (r1.length ≤ m ∧ r2.length ≤ m) ∧ ((∀ x ∈ r1, inI x.1) ∧ (∀ x ∈ r2, inI x.1)) ∧
    ((∀ k ∈ K1, w.heap.size ≤ k) ∧ (∀ k ∈ K2, w.heap.size ≤ k)) ∧ (∀ k ∈ K1, k ∉ K2) ∧ Chg [] w W
section
variable {w W W' : World} {g1 g2 N m : Nat}
theorem Mid2.chg (h : Mid2 w W g1 g2 N m) : Chg [] w W := by obtain ⟨_, _, _, _, _, _, _, _, _, _, _, _, _, _, h⟩ := h; exact h
theorem Mid2.swap (h : Mid2 w W g1 g2 N m) : Mid2 w W g2 g1 N m := by
  obtain ⟨K1, t1, r1, K2, t2, r2, a, b, c, d, e, f, g, i, j⟩ := h
  exact ⟨K2, t2, r2, K1, t1, r1, b, a, d, c, ⟨e.2, e.1⟩, ⟨f.2, f.1⟩, ⟨g.2, g.1⟩, fun k h1 h2 => i k h2 h1, j⟩
theorem Mid2.quiet (h : Mid2 w W g1 g2 N m) (hc : Chg [] W W') : Mid2 w W' g1 g2 N m := by
  obtain ⟨K1, t1, r1, K2, t2, r2, ⟨c, p, S, T, VR, hg, rfl⟩, ⟨c2, p2, S2, T2, VR2, hg2, rfl⟩, a⟩ := h
  exact ⟨_, t1, r1, _, t2, r2, ⟨c, p, S, T, VR, hg.quiet hc, rfl⟩, ⟨c2, p2, S2, T2, VR2, hg2.quiet hc, rfl⟩, a.1, a.2.1, a.2.2.1, a.2.2.2.1, a.2.2.2.2.1, a.2.2.2.2.2.1, a.2.2.2.2.2.2.then hc⟩
theorem Mid2.do1 (h : Mid2 w W g1 g2 N m) (hm : m < 500) {x : Ac} (hx : x.Fits) :
    Calls Try.prog 11 #[ptr g1, x.val] W fun e W' => e = .returned (.bool true) ∧ Mid2 w W' g1 g2 N (m + 1) := by
  obtain ⟨K1, t1, r1, K2, t2, r2, ⟨c, p, S, T, VR, hg, rfl⟩, ⟨c2, p2, S2, T2, VR2, hg2, rfl⟩, i1, i2, ⟨l1, l2⟩, ⟨f1, f2⟩, ⟨q1, q2⟩, hd, hc⟩ := h
  refine (do_any hg i1 hm (by omega) f1 x hx).mono ?_
  rintro e W' ⟨rfl, t', rs', a1, a2, a3, K', a4, a5, a6⟩
  have hlt2 := hg2.lt
  refine ⟨rfl, K', t', rs', _, t2, r2, a4, ⟨c2, p2, S2, T2, VR2, hg2.chg a6 (fun k hk hk1 => hd k hk1 hk), rfl⟩, a1, i2.mono (by omega), ⟨by omega, by omega⟩, ⟨a3, f2⟩, ⟨fun k hk => ?_, q2⟩, fun k hk hk2 => ?_, hc.trans a6 (fun k hk => .inr (q1 k hk))⟩
  · rcases a5 k hk with h9 | h9
    · exact q1 k h9
    · exact Nat.le_trans hc.size h9
  · rcases a5 k hk with h9 | h9
    · exact hd k h9 hk2
    · have := hlt2 k hk2; omega
theorem Mid2.do2 (h : Mid2 w W g1 g2 N m) (hm : m < 500) {x : Ac} (hx : x.Fits) :
    Calls Try.prog 11 #[ptr g2, x.val] W fun e W' => e = .returned (.bool true) ∧ Mid2 w W' g1 g2 N (m + 1) :=
  (h.swap.do1 hm hx).mono fun e W' hh => ⟨hh.1, hh.2.swap⟩
/-- A game and its copy. -/
theorem Mid2.make {w W0 w1 w3 w4 w5 : World} {gb c p c' p' N m n : Nat} {S T S' T' : List Nat} {VR V3 : Value} {t : Tab Gr} {rs : List (Int × Int)} (hg : GameIn W0 gb c p S T VR t rs) (hI : Inv t N m) (hl : rs.length ≤ m) (hri : ∀ x ∈ rs, inI x.1)
    (hK : ∀ k ∈ gK gb c S T VR, w.heap.size ≤ k) (hc : Chg [] w W0) (hc1 : Chg [] W0 w1) (hG : GAt w3 c' S' t) (hc' : w1.heap.size ≤ c') (hS' : ∀ k ∈ S', w1.heap.size ≤ k) (hc3 : Chg [] w1 w3)
    (hD : DAt w4 p' T' (docT t)) (hT' : ∀ k ∈ T', w3.heap.size ≤ k) (hc4 : Chg [] w3 w4) (hR : Row w5 33 2 V3 n (prCells rs)) (hn : n = rs.length) (hf : ∀ k ∈ foot V3, w4.heap.size ≤ k) (hc5 : Chg [] w4 w5) :
    Mid2 w (w5.alloc (.cells #[ptr c', ptr p', V3] 45)) gb w5.heap.size N m := by
  subst hn
  have z0 := hc.size
  have z1 := hc1.size
  have z3 := hc3.size
  have z4 := hc4.size
  have z5 := hc5.size
  have hGl := hG.lt
  have hcW : Chg [] W0 (w5.alloc (.cells #[ptr c', ptr p', V3] 45)) := ((((hc1.then hc3).then hc4).then hc5).alloc _)
  have hgW := hg.quiet hcW
  have hlt := hg.lt
  have hk2 : ∀ k ∈ gK w5.heap.size c' S' T' V3, W0.heap.size ≤ k := fun k hk => by
    simp only [gK, List.mem_cons, List.mem_append] at hk
    rcases hk with rfl | rfl | (hk | hk) | hk
    · omega
    · omega
    · have := hS' k hk; omega
    · have := hT' k hk; omega
    · have := hf k hk; omega
  refine ⟨_, t, rs, _, t, rs, ⟨c, p, S, T, VR, hgW, rfl⟩, ⟨c', p', S', T', V3, ⟨Blk.new w5 45 _, (hG.quiet (hc4.then hc5)).quiet ((Chg.refl [] w5).alloc _), (hD.quiet hc5).quiet ((Chg.refl [] w5).alloc _), hR.alloc _, fun k hk hkT => ?_⟩, rfl⟩, hI, hI, ⟨hl, hl⟩, ⟨hri, hri⟩, ⟨hK, fun k hk => by have := hk2 k hk; omega⟩, fun k hk hk2' => ?_, hc.then hcW⟩
  · have := hGl.2 k hk
    have := hT' k hkT
    omega
  · have := hlt k hk
    have := hk2 k hk2'
    omega
end
end Go.Proofs
end
section
namespace Go.Proofs
open Go.RowKit
set_option linter.unusedVariables false
set_option linter.unusedSimpArgs false
attribute [local go_sem] eql_ptr_nil eql_nil_nil eql_tptr_nil eql_tnil_nil
set_option maxHeartbeats 12800000 in
set_option maxRecDepth 100000 in
theorem copies_any (size : Int) (hsz : inI size) (V1 V2 V3 : Value) (acts1 acts2 acts3 : List Ac) (w : World) (hV1 : Acts w V1 acts1) (hV2 : Acts w V2 acts2) (hV3 : Acts w V3 acts3) :
    Calls Try.prog 6 #[.int .i64 size, V1, V2, V3] w fun e w' => e = .returned (.bool true) ∧ Chg [] w w' := by
  have HK := Lib.hid known_any
  obtain ⟨A1, c1, rfl⟩ := hV1.open_
  obtain ⟨m1, hm1⟩ : ∃ m, m = acts1.length := ⟨_, rfl⟩
  rw [← hm1] at hV1 ⊢
  have HV1 := Lib.hid hV1
  clear hV1 hm1
  obtain ⟨A2, c2, rfl⟩ := hV2.open_
  obtain ⟨m2, hm2⟩ : ∃ m, m = acts2.length := ⟨_, rfl⟩
  rw [← hm2] at hV2 ⊢
  have HV2 := Lib.hid hV2
  clear hV2 hm2
  obtain ⟨A3, c3, rfl⟩ := hV3.open_
  obtain ⟨m3, hm3⟩ : ∃ m, m = acts3.length := ⟨_, rfl⟩
  rw [← hm3] at hV3 ⊢
  have HV3 := Lib.hid hV3
  clear hV3 hm3
  by_cases hb : 1 ≤ size ∧ size ≤ 64
  · obtain ⟨N, rfl⟩ : ∃ N : Nat, size = (N : Nat) := ⟨size.toNat, by omega⟩
    have HB := Lib.hid (mid_begun N (by omega) (by omega) w)
    have d0 : decide ((N : Int) < 1) = false := decide_eq_false (by omega)
    have d2 : decide ((N : Int) > 64) = false := decide_eq_false (by omega)
    have d2' : decide ((64 : Int) < (N : Int)) = false := decide_eq_false (by omega)
    have hN64 : N ≤ 64 := by omega
    clear hsz hb
    by_cases hm1 : (60 : Int) < (m1 : Int)
    · have e1 : decide ((m1 : Int) > 60) = true := decide_eq_true hm1
      have e1' : decide ((60 : Int) < (m1 : Int)) = true := decide_eq_true hm1
      go_enter Try.func6, Try.ntmps6
      go_wp2_with (first | (go_at_call 10; refine HB.out.mono ?_; rintro e w1 ⟨gb, rfl, hM⟩; have HQ := Lib.hid hM; clear hM) | (go_at_call 9; refine (HK.out _).mono ?_; rintro e w4 ⟨rfl, hc4⟩))
      go_ret
      exact ⟨rfl, HQ.out.chg.then hc4⟩
    by_cases hm2 : (30 : Int) < (m2 : Int)
    · have e1 : decide ((m1 : Int) > 60) = false := decide_eq_false hm1
      have e1' : decide ((60 : Int) < (m1 : Int)) = false := decide_eq_false hm1
      have e2 : decide ((m2 : Int) > 30) = true := decide_eq_true hm2
      have e2' : decide ((30 : Int) < (m2 : Int)) = true := decide_eq_true hm2
      go_enter Try.func6, Try.ntmps6
      go_wp2_with (first | (go_at_call 10; refine HB.out.mono ?_; rintro e w1 ⟨gb, rfl, hM⟩; have HQ := Lib.hid hM; clear hM) | (go_at_call 9; refine (HK.out _).mono ?_; rintro e w4 ⟨rfl, hc4⟩))
      go_ret
      exact ⟨rfl, HQ.out.chg.then hc4⟩
    by_cases hm3 : (30 : Int) < (m3 : Int)
    · have e1 : decide ((m1 : Int) > 60) = false := decide_eq_false hm1
      have e1' : decide ((60 : Int) < (m1 : Int)) = false := decide_eq_false hm1
      have e2 : decide ((m2 : Int) > 30) = false := decide_eq_false hm2
      have e2' : decide ((30 : Int) < (m2 : Int)) = false := decide_eq_false hm2
      have e3 : decide ((m3 : Int) > 30) = true := decide_eq_true hm3
      have e3' : decide ((30 : Int) < (m3 : Int)) = true := decide_eq_true hm3
      go_enter Try.func6, Try.ntmps6
      go_wp2_with (first | (go_at_call 10; refine HB.out.mono ?_; rintro e w1 ⟨gb, rfl, hM⟩; have HQ := Lib.hid hM; clear hM) | (go_at_call 9; refine (HK.out _).mono ?_; rintro e w4 ⟨rfl, hc4⟩))
      go_ret
      exact ⟨rfl, HQ.out.chg.then hc4⟩
    have e1 : decide ((m1 : Int) > 60) = false := decide_eq_false hm1
    have e1' : decide ((60 : Int) < (m1 : Int)) = false := decide_eq_false hm1
    have e2 : decide ((m2 : Int) > 30) = false := decide_eq_false hm2
    have e2' : decide ((30 : Int) < (m2 : Int)) = false := decide_eq_false hm2
    have e3 : decide ((m3 : Int) > 30) = false := decide_eq_false hm3
    have e3' : decide ((30 : Int) < (m3 : Int)) = false := decide_eq_false hm3
    have hl1 : m1 ≤ 60 := by omega
    have hl2 : m2 ≤ 30 := by omega
    have hl3 : m3 ≤ 30 := by omega
    go_enter Try.func6, Try.ntmps6
    go_wp2_with ((go_at_call 10; refine HB.out.mono ?_; rintro e w1 ⟨gb, rfl, hM⟩; have HQ := Lib.hid hM; clear hM))
    go_loopg [10] m1 (fun gh iv wr => ∃ j : Nat, j + gh = m1 ∧ iv = .int .i64 j ∧ Hid (Mid w wr gb N j))
    case atStart => exact ⟨0, by omega, rfl, HQ⟩
    case round =>
      obtain ⟨j, hj, rfl, HMI⟩ := hrel
      by_cases hlt : j < m1
      · have j0 : (0 : Int) ≤ (j : Int) := by omega
        have j1 : (j : Int) < (m1 : Int) := by omega
        obtain ⟨bI, oI, xa, hA, hfit, hcells⟩ := HV1.out.at_ hlt
        subst hA
        have hxc := hcells wr HMI.out.chg
        have hxs := xa.size
        have HDO := Lib.hid (HMI.out.do (by omega) hfit)
        clear hcells hfit HV1
        unfold Ac.val at HDO
        generalize xa.arr = XA at *
        go_wp2_with (first | ((with_reducible refine wpl_load_atE (b := bI) (off := oI + j * 24) T39 hxs hxc ?_ ?_ ?_); (· rfl); (· exact ⟨_, rfl, rfl⟩)) | (go_at_call 11; refine HDO.out.mono ?_; rintro e w4 ⟨rfl, hM'⟩; have HM' := Lib.hid hM'; clear hM'))
        go_roundg (m1 - j - 1)
        case measure => omega
        case rel => exact ⟨j + 1, by omega, by go_num, HM'⟩
      · have dj : decide ((j : Int) < (m1 : Int)) = false := by simp; omega
        have hjm : j = m1 := by omega
        subst hjm
        obtain ⟨K, t, rs, ⟨c, p, S, T, VR, hg, rfl⟩, hI, hrl, hri, hK1, hcm⟩ := HMI.out
        obtain ⟨AR, cR, hVR, _⟩ := hg.r.val
        have HG := Lib.hid hg
        have HI := Lib.hid hI
        have HRI := Lib.hid hri
        have HCM := Lib.hid hcm
        have HK1 := Lib.hid hK1
        obtain ⟨n, hn⟩ : ∃ n, n = rs.length := ⟨_, rfl⟩
        have hgb := hg.b
        rw [hVR, ← hn] at hgb
        have HGB := Lib.hid hgb
        have hrr := hg.r
        rw [hVR, ← hn] at hrr
        have HRR := Lib.hid hrr
        have Hn := Lib.hid hn
        have hn60 : n ≤ 60 := by omega
        obtain ⟨in0, hi0, hq0, hq1, hq2⟩ := info_parts Try.info_R
        have HCP := Lib.hid (fun W (hc : Chg [] wr W) => Copy_any (hg.g.quiet hc))
        have HRC := Lib.hid (fun W (hc : Chg [] wr W) => rCopy_any (hg.d.quiet hc) (by rw [docL_len hI]; exact hI.n64) (Nat.le_trans (docF_len hI) hI.n64))
        have hcD : Chg [] wr wr.drew := (Chg.refl [] wr).drew
        clear hg hI hri hcm hVR hgb hrr hn hK1 HMI HQ
        go_upto_region 8 with (fail)
        refine wp_region_held_drew (S := fun w' => Blk w' gb 45 #[ptr c, ptr p, .slice AR n cR]) (by kernel_rfl) HGB.out.drew (fun hHeld => ?_)
        simp only [List.setIfInBounds_toArray, List.size_toArray, List.length_cons, List.length_nil, Array.replicate]
        refine wpAnyH_take (i := 0) (v := ?_) rfl (by kernel_rfl) (by kernel_rfl) (by kernel_rfl) (fun _ _ _ h => h) (Or.inl ⟨by rfl, ?_⟩) hHeld ?_
        rotate_left
        · (intro w' hSw; go_simp; try with_reducible rfl)
        simp only [Act.put, List.getElem_toArray, List.getElem_cons_succ, List.getElem_cons_zero, List.setIfInBounds_toArray, List.set_cons_zero, List.set_cons_succ]
        refine wpAnyH_take (i := 1) (v := ?_) rfl (by kernel_rfl) (by kernel_rfl) (by kernel_rfl) (fun _ _ _ h => h) (Or.inl ⟨by rfl, ?_⟩) hHeld ?_
        rotate_left
        · (intro w' hSw; go_simp; try with_reducible rfl)
        simp only [Act.put, List.getElem_toArray, List.getElem_cons_succ, List.getElem_cons_zero, List.setIfInBounds_toArray, List.set_cons_zero, List.set_cons_succ]
        refine wpAnyH_take (i := 2) (v := ?_) rfl (by kernel_rfl) (by kernel_rfl) (by kernel_rfl) (fun _ _ _ h => h) (Or.inl ⟨by rfl, ?_⟩) hHeld ?_
        rotate_left
        · (intro w' hSw; go_simp; try with_reducible rfl)
        simp only [Act.put, List.getElem_toArray, List.getElem_cons_succ, List.getElem_cons_zero, List.setIfInBounds_toArray, List.set_cons_zero, List.set_cons_succ]
        refine wpAnyH_take (i := 3) (v := ?_) rfl (by kernel_rfl) (by kernel_rfl) (by kernel_rfl) (fun _ _ _ h => h) (Or.inl ⟨by rfl, ?_⟩) hHeld ?_
        rotate_left
        · (intro w' hSw; have q0 := hSw.cell 0; simp only [List.getElem?_toArray, List.getElem?_cons_zero, List.getElem?_cons_succ] at *; go_simp; try with_reducible rfl)
        simp only [Act.put, List.getElem_toArray, List.getElem_cons_succ, List.getElem_cons_zero, List.setIfInBounds_toArray, List.set_cons_zero, List.set_cons_succ]
        refine wpAnyH_take (i := 5) (v := ?_) rfl (by kernel_rfl) (by kernel_rfl) (by kernel_rfl) (fun _ _ _ h => h) (Or.inl ⟨by rfl, ?_⟩) hHeld ?_
        rotate_left
        · (intro w' hSw; go_simp; try with_reducible rfl)
        simp only [Act.put, List.getElem_toArray, List.getElem_cons_succ, List.getElem_cons_zero, List.setIfInBounds_toArray, List.set_cons_zero, List.set_cons_succ]
        refine wpAnyH_take (i := 6) (v := ?_) rfl (by kernel_rfl) (by kernel_rfl) (by kernel_rfl) (fun _ _ _ h => h) (Or.inl ⟨by rfl, ?_⟩) hHeld ?_
        rotate_left
        · (intro w' hSw; go_simp; try with_reducible rfl)
        simp only [Act.put, List.getElem_toArray, List.getElem_cons_succ, List.getElem_cons_zero, List.setIfInBounds_toArray, List.set_cons_zero, List.set_cons_succ]
        refine wpAnyH_take (i := 7) (v := ?_) rfl (by kernel_rfl) (by kernel_rfl) (by kernel_rfl) (fun _ _ _ h => h) (Or.inl ⟨by rfl, ?_⟩) hHeld ?_
        rotate_left
        · (intro w' hSw; go_simp; try with_reducible rfl)
        simp only [Act.put, List.getElem_toArray, List.getElem_cons_succ, List.getElem_cons_zero, List.setIfInBounds_toArray, List.set_cons_zero, List.set_cons_succ]
        refine wpAnyH_take (i := 8) (v := ?_) rfl (by kernel_rfl) (by kernel_rfl) (by kernel_rfl) (fun _ _ _ h => h) (Or.inl ⟨by rfl, ?_⟩) hHeld ?_
        rotate_left
        · (intro w' hSw; have q0 := hSw.cell 1; simp only [List.getElem?_toArray, List.getElem?_cons_zero, List.getElem?_cons_succ] at *; go_simp; try with_reducible rfl)
        simp only [Act.put, List.getElem_toArray, List.getElem_cons_succ, List.getElem_cons_zero, List.setIfInBounds_toArray, List.set_cons_zero, List.set_cons_succ]
        refine wpAnyH_take (i := 10) (v := ?_) rfl (by kernel_rfl) (by kernel_rfl) (by kernel_rfl) (fun _ _ _ h => h) (Or.inl ⟨by rfl, ?_⟩) hHeld ?_
        rotate_left
        · (intro w' hSw; go_simp; try with_reducible rfl)
        simp only [Act.put, List.getElem_toArray, List.getElem_cons_succ, List.getElem_cons_zero, List.setIfInBounds_toArray, List.set_cons_zero, List.set_cons_succ]
        refine wpAnyH_take (i := 11) (v := ?_) rfl (by kernel_rfl) (by kernel_rfl) (by kernel_rfl) (fun _ _ _ h => h) (Or.inl ⟨by rfl, ?_⟩) hHeld ?_
        rotate_left
        · (intro w' hSw; go_simp; try with_reducible rfl)
        simp only [Act.put, List.getElem_toArray, List.getElem_cons_succ, List.getElem_cons_zero, List.setIfInBounds_toArray, List.set_cons_zero, List.set_cons_succ]
        refine wpAnyH_take (i := 12) (v := ?_) rfl (by kernel_rfl) (by kernel_rfl) (by kernel_rfl) (fun _ _ _ h => h) (Or.inl ⟨by rfl, ?_⟩) hHeld ?_
        rotate_left
        · (intro w' hSw; go_simp; try with_reducible rfl)
        simp only [Act.put, List.getElem_toArray, List.getElem_cons_succ, List.getElem_cons_zero, List.setIfInBounds_toArray, List.set_cons_zero, List.set_cons_succ]
        refine wpAnyH_take (i := 13) (v := ?_) rfl (by kernel_rfl) (by kernel_rfl) (by kernel_rfl) (fun _ _ _ h => h) (Or.inl ⟨by rfl, ?_⟩) hHeld ?_
        rotate_left
        · (intro w' hSw; have q0 := hSw.cell 2; simp only [List.getElem?_toArray, List.getElem?_cons_zero, List.getElem?_cons_succ] at *; go_simp; try with_reducible rfl)
        simp only [Act.put, List.getElem_toArray, List.getElem_cons_succ, List.getElem_cons_zero, List.setIfInBounds_toArray, List.set_cons_zero, List.set_cons_succ]
        refine wpAnyH_ready (rs := [4]) (by kernel_rfl) (by simp) ?_
        refine AllReadyH.cons rfl (fun K hK => ?_) AllReadyH.nil
        go_simp
        refine (HCP.out _ hcD).mono ?_
        rintro e w3 ⟨c9, S9, rfl, hG9, hc9, hS9, hc3⟩
        refine hK _ _ (hHeld.chg hc3 (by simp)) (fun hHeld => ?_)
        clear hK K
        simp only [Act.put, List.getElem_toArray, List.getElem_cons_succ, List.getElem_cons_zero, List.setIfInBounds_toArray, List.set_cons_zero, List.set_cons_succ]
        refine wpAnyH_ready (rs := [9]) (by kernel_rfl) (by simp) ?_
        refine AllReadyH.cons rfl (fun K hK => ?_) AllReadyH.nil
        go_simp
        refine (HRC.out _ (hcD.then hc3)).mono ?_
        rintro e w4 ⟨p9, T9, rfl, hD9, hT9, hc4⟩
        refine hK _ _ (hHeld.chg hc4 (by simp)) (fun hHeld => ?_)
        clear hK K
        simp only [Act.put, List.getElem_toArray, List.getElem_cons_succ, List.getElem_cons_zero, List.setIfInBounds_toArray, List.set_cons_zero, List.set_cons_succ]
        refine wpAnyH_ready (rs := [14]) (by kernel_rfl) (by simp) ?_
        refine AllReadyH.cons rfl (fun K hK => ?_) AllReadyH.nil
        have hRW := ((HRR.out.chg hcD (fun _ _ hk => by cases hk)).chg hc3 (fun _ _ hk => by cases hk)).chg hc4 (fun _ _ hk => by cases hk)
        refine step_append_copy w4 rfl _ _ 43 rfl 33 in0 _ 2 16 Try.underlying43 hi0 hq0 hq1 hq2 rfl (.slice none 0 0) (by rfl) (Row.nil _ _ _) (.slice AR n cR) n (prCells rs) (by rfl) hRW (prCells_ones rs) (by unfold maxLen; omega) (by omega) ?_
        intro v3 w5 hr5 hg5 hf5
        obtain ⟨A5, c5, rfl, _⟩ := hr5.val
        have hc5 : Chg [] w4 w5 := (Chg.refl [] _).grown hg5 (fun k hk => by cases hk)
        have hf5' : ∀ k ∈ foot (.slice A5 n c5), w4.heap.size ≤ k := fun k hk => by rcases hf5 k hk with h9 | h9; cases h9; omega
        refine hK _ _ (hHeld.chg hc5 (by simp)) (fun hHeld => ?_)
        clear hK K
        simp only [Act.put, List.getElem_toArray, List.getElem_cons_succ, List.getElem_cons_zero, List.setIfInBounds_toArray, List.set_cons_zero, List.set_cons_succ]
        refine wpAnyH_take (i := 15) (v := ?_) rfl (by kernel_rfl) (by kernel_rfl) (by kernel_rfl) (fun _ _ _ h => h) (Or.inl ⟨by rfl, ?_⟩) hHeld ?_
        rotate_left
        · (intro w' hSw; go_simp; try with_reducible rfl)
        simp only [Act.put, List.getElem_toArray, List.getElem_cons_succ, List.getElem_cons_zero, List.setIfInBounds_toArray, List.set_cons_zero, List.set_cons_succ]
        refine wpAnyH_ready (rs := [16]) (by kernel_rfl) (by simp) ?_
        refine AllReadyH.cons rfl (fun K hK => ?_) AllReadyH.nil
        go_simp
        refine hK _ _ (hHeld.alloc _) (fun hHeld => ?_)
        clear hK K
        simp only [Act.put, List.getElem_toArray, List.getElem_cons_succ, List.getElem_cons_zero, List.setIfInBounds_toArray, List.set_cons_zero, List.set_cons_succ]
        refine wpAnyH_take (i := 17) (v := ?_) rfl (by kernel_rfl) (by kernel_rfl) (by kernel_rfl) (fun _ _ _ h => h) (Or.inl ⟨by rfl, ?_⟩) hHeld ?_
        rotate_left
        · (intro w' hSw; go_simp; try with_reducible rfl)
        simp only [Act.put, List.getElem_toArray, List.getElem_cons_succ, List.getElem_cons_zero, List.setIfInBounds_toArray, List.set_cons_zero, List.set_cons_succ]
        refine wpAnyH_done (by kernel_rfl) ?_ _
        have hM2 := Mid2.make HG.out HI.out hrl HRI.out HK1.out HCM.out hcD hG9 hc9 hS9 hc3 hD9 hT9 hc4 hr5 Hn.out hf5' hc5
        have hcW := (((hc3.then hc4).then hc5).alloc (.cells #[ptr c9, ptr p9, .slice A5 n c5] 45))
        have hcW2 := ((hc4.then hc5).alloc (.cells #[ptr c9, ptr p9, .slice A5 n c5] 45))
        have HGA := Lib.hid (HG.out.g.quiet (hcD.then hcW))
        have HGC := Lib.hid (hG9.quiet hcW2)
        have hob := Blk.new w5 45 #[ptr c9, ptr p9, .slice A5 n c5]
        have hgbW := hHeld
        have HM2 := Lib.hid hM2
        clear hM2 hHeld hG9 hc9 hS9 hc3 hD9 hT9 hc4 hr5 hf5 hf5' hg5 hc5 hRW hcW hcW2 hcD HCP HRC HRR HGB
        generalize World.alloc w5 _ = wx at *
        generalize w5.heap.size = ob at *
        have HSM := Lib.hid (fun W (hc : Chg [] wx W) => Same_any (HGC.out.quiet hc) (HGA.out.quiet hc) HI.out.size HI.out.size HI.out.n64)
        rw [eqL_refl] at HSM
        go_upto_region 9 with (fail)
        refine wp_region_held_drew (S := fun w' => Blk w' gb 45 #[ptr c, ptr p, .slice AR n cR] ∧ Blk w' ob 45 #[ptr c9, ptr p9, .slice A5 n c5]) (by kernel_rfl) ⟨hgbW.drew, hob.drew⟩ (fun hHeld => ?_)
        simp only [List.setIfInBounds_toArray, List.size_toArray, List.length_cons, List.length_nil, Array.replicate]
        refine wpAnyH_take (i := 0) (v := ?_) rfl (by kernel_rfl) (by kernel_rfl) (by kernel_rfl) (fun _ _ _ h => h) (Or.inl ⟨by rfl, ?_⟩) hHeld ?_
        rotate_left
        · (intro w' hSw; go_simp; try with_reducible rfl)
        simp only [Act.put, List.getElem_toArray, List.getElem_cons_succ, List.getElem_cons_zero, List.setIfInBounds_toArray, List.set_cons_zero, List.set_cons_succ]
        refine wpAnyH_take (i := 1) (v := ?_) rfl (by kernel_rfl) (by kernel_rfl) (by kernel_rfl) (fun _ _ _ h => h) (Or.inl ⟨by rfl, ?_⟩) hHeld ?_
        rotate_left
        · (intro w' hSw; go_simp; try with_reducible rfl)
        simp only [Act.put, List.getElem_toArray, List.getElem_cons_succ, List.getElem_cons_zero, List.setIfInBounds_toArray, List.set_cons_zero, List.set_cons_succ]
        refine wpAnyH_take (i := 2) (v := ?_) rfl (by kernel_rfl) (by kernel_rfl) (by kernel_rfl) (fun _ _ _ h => h) (Or.inl ⟨by rfl, ?_⟩) hHeld ?_
        rotate_left
        · (intro w' hSw; go_simp; try with_reducible rfl)
        simp only [Act.put, List.getElem_toArray, List.getElem_cons_succ, List.getElem_cons_zero, List.setIfInBounds_toArray, List.set_cons_zero, List.set_cons_succ]
        refine wpAnyH_take (i := 3) (v := ?_) rfl (by kernel_rfl) (by kernel_rfl) (by kernel_rfl) (fun _ _ _ h => h) (Or.inl ⟨by rfl, ?_⟩) hHeld ?_
        rotate_left
        · (intro w' hSw; have q0 := hSw.2.cell 0; simp only [List.getElem?_toArray, List.getElem?_cons_zero, List.getElem?_cons_succ] at *; go_simp; try with_reducible rfl)
        simp only [Act.put, List.getElem_toArray, List.getElem_cons_succ, List.getElem_cons_zero, List.setIfInBounds_toArray, List.set_cons_zero, List.set_cons_succ]
        refine wpAnyH_take (i := 4) (v := ?_) rfl (by kernel_rfl) (by kernel_rfl) (by kernel_rfl) (fun _ _ _ h => h) (Or.inl ⟨by rfl, ?_⟩) hHeld ?_
        rotate_left
        · (intro w' hSw; go_simp; try with_reducible rfl)
        simp only [Act.put, List.getElem_toArray, List.getElem_cons_succ, List.getElem_cons_zero, List.setIfInBounds_toArray, List.set_cons_zero, List.set_cons_succ]
        refine wpAnyH_take (i := 5) (v := ?_) rfl (by kernel_rfl) (by kernel_rfl) (by kernel_rfl) (fun _ _ _ h => h) (Or.inl ⟨by rfl, ?_⟩) hHeld ?_
        rotate_left
        · (intro w' hSw; go_simp; try with_reducible rfl)
        simp only [Act.put, List.getElem_toArray, List.getElem_cons_succ, List.getElem_cons_zero, List.setIfInBounds_toArray, List.set_cons_zero, List.set_cons_succ]
        refine wpAnyH_take (i := 6) (v := ?_) rfl (by kernel_rfl) (by kernel_rfl) (by kernel_rfl) (fun _ _ _ h => h) (Or.inl ⟨by rfl, ?_⟩) hHeld ?_
        rotate_left
        · (intro w' hSw; go_simp; try with_reducible rfl)
        simp only [Act.put, List.getElem_toArray, List.getElem_cons_succ, List.getElem_cons_zero, List.setIfInBounds_toArray, List.set_cons_zero, List.set_cons_succ]
        refine wpAnyH_take (i := 7) (v := ?_) rfl (by kernel_rfl) (by kernel_rfl) (by kernel_rfl) (fun _ _ _ h => h) (Or.inl ⟨by rfl, ?_⟩) hHeld ?_
        rotate_left
        · (intro w' hSw; go_simp; try with_reducible rfl)
        simp only [Act.put, List.getElem_toArray, List.getElem_cons_succ, List.getElem_cons_zero, List.setIfInBounds_toArray, List.set_cons_zero, List.set_cons_succ]
        refine wpAnyH_take (i := 8) (v := ?_) rfl (by kernel_rfl) (by kernel_rfl) (by kernel_rfl) (fun _ _ _ h => h) (Or.inl ⟨by rfl, ?_⟩) hHeld ?_
        rotate_left
        · (intro w' hSw; go_simp; try with_reducible rfl)
        simp only [Act.put, List.getElem_toArray, List.getElem_cons_succ, List.getElem_cons_zero, List.setIfInBounds_toArray, List.set_cons_zero, List.set_cons_succ]
        refine wpAnyH_take (i := 9) (v := ?_) rfl (by kernel_rfl) (by kernel_rfl) (by kernel_rfl) (fun _ _ _ h => h) (Or.inl ⟨by rfl, ?_⟩) hHeld ?_
        rotate_left
        · (intro w' hSw; have q0 := hSw.2.cell 0; simp only [List.getElem?_toArray, List.getElem?_cons_zero, List.getElem?_cons_succ] at *; go_simp; try with_reducible rfl)
        simp only [Act.put, List.getElem_toArray, List.getElem_cons_succ, List.getElem_cons_zero, List.setIfInBounds_toArray, List.set_cons_zero, List.set_cons_succ]
        refine wpAnyH_take (i := 10) (v := ?_) rfl (by kernel_rfl) (by kernel_rfl) (by kernel_rfl) (fun _ _ _ h => h) (Or.inl ⟨by rfl, ?_⟩) hHeld ?_
        rotate_left
        · (intro w' hSw; go_simp; try with_reducible rfl)
        simp only [Act.put, List.getElem_toArray, List.getElem_cons_succ, List.getElem_cons_zero, List.setIfInBounds_toArray, List.set_cons_zero, List.set_cons_succ]
        refine wpAnyH_take (i := 11) (v := ?_) rfl (by kernel_rfl) (by kernel_rfl) (by kernel_rfl) (fun _ _ _ h => h) (Or.inl ⟨by rfl, ?_⟩) hHeld ?_
        rotate_left
        · (intro w' hSw; go_simp; try with_reducible rfl)
        simp only [Act.put, List.getElem_toArray, List.getElem_cons_succ, List.getElem_cons_zero, List.setIfInBounds_toArray, List.set_cons_zero, List.set_cons_succ]
        refine wpAnyH_take (i := 12) (v := ?_) rfl (by kernel_rfl) (by kernel_rfl) (by kernel_rfl) (fun _ _ _ h => h) (Or.inl ⟨by rfl, ?_⟩) hHeld ?_
        rotate_left
        · (intro w' hSw; go_simp; try with_reducible rfl)
        simp only [Act.put, List.getElem_toArray, List.getElem_cons_succ, List.getElem_cons_zero, List.setIfInBounds_toArray, List.set_cons_zero, List.set_cons_succ]
        refine wpAnyH_take (i := 13) (v := ?_) rfl (by kernel_rfl) (by kernel_rfl) (by kernel_rfl) (fun _ _ _ h => h) (Or.inl ⟨by rfl, ?_⟩) hHeld ?_
        rotate_left
        · (intro w' hSw; have q0 := hSw.1.cell 0; simp only [List.getElem?_toArray, List.getElem?_cons_zero, List.getElem?_cons_succ] at *; go_simp; try with_reducible rfl)
        simp only [Act.put, List.getElem_toArray, List.getElem_cons_succ, List.getElem_cons_zero, List.setIfInBounds_toArray, List.set_cons_zero, List.set_cons_succ]
        refine wpAnyH_ready (rs := [14]) (by kernel_rfl) (by simp) ?_
        refine AllReadyH.cons rfl (fun K hK => ?_) AllReadyH.nil
        go_simp
        refine (HSM.out _ (Chg.refl [] wx).drew).mono ?_
        rintro e w7 ⟨rfl, hc7⟩
        refine hK _ _ ⟨hHeld.1.chg hc7 (by simp), hHeld.2.chg hc7 (by simp)⟩ (fun hHeld => ?_)
        clear hK K
        simp only [Act.put, List.getElem_toArray, List.getElem_cons_succ, List.getElem_cons_zero, List.setIfInBounds_toArray, List.set_cons_zero, List.set_cons_succ]
        refine wpAnyH_take (i := 15) (v := ?_) rfl (by kernel_rfl) (by kernel_rfl) (by kernel_rfl) (fun _ _ _ h => h) (Or.inl ⟨by rfl, ?_⟩) hHeld ?_
        rotate_left
        · (intro w' hSw; go_simp; try with_reducible rfl)
        simp only [Act.put, List.getElem_toArray, List.getElem_cons_succ, List.getElem_cons_zero, List.setIfInBounds_toArray, List.set_cons_zero, List.set_cons_succ]
        refine wpAnyH_take (i := 16) (v := ?_) rfl (by kernel_rfl) (by kernel_rfl) (by kernel_rfl) (fun _ _ _ h => h) (Or.inl ⟨by rfl, ?_⟩) hHeld ?_
        rotate_left
        · (intro w' hSw; go_simp; try with_reducible rfl)
        simp only [Act.put, List.getElem_toArray, List.getElem_cons_succ, List.getElem_cons_zero, List.setIfInBounds_toArray, List.set_cons_zero, List.set_cons_succ]
        refine wpAnyH_done (by kernel_rfl) ?_ _
        clear hHeld
        have HM3 := Lib.hid (HM2.out.quiet ((Chg.refl [] wx).drew.then hc7))
        clear HM2 HSM HGA HGC hob hgbW hc7 HG HI HRI HCM HK1 hrl Hn hn60 hi0 hq0 hq1 hq2 dj hj
        go_wp2
        go_loopg [12] m2 (fun gh iv wr => ∃ k : Nat, k + gh = m2 ∧ iv = .int .i64 k ∧ Hid (Mid2 w wr gb ob N (j + k)))
        case atStart => exact ⟨0, by omega, rfl, HM3⟩
        case round =>
          obtain ⟨k, hk, rfl, HMI⟩ := hrel
          by_cases hlt : k < m2
          · have j0 : (0 : Int) ≤ (k : Int) := by omega
            have j1 : (k : Int) < (m2 : Int) := by omega
            obtain ⟨bI, oI, xa, hA, hfit, hcells⟩ := HV2.out.at_ hlt
            subst hA
            have hxc := hcells wr HMI.out.chg
            have hxs := xa.size
            have HDO := Lib.hid (HMI.out.do1 (by omega) hfit)
            clear hcells hfit HV2
            unfold Ac.val at HDO
            generalize xa.arr = XA at *
            go_wp2_with (first | ((with_reducible refine wpl_load_atE (b := bI) (off := oI + k * 24) T39 hxs hxc ?_ ?_ ?_); (· rfl); (· exact ⟨_, rfl, rfl⟩)) | (go_at_call 11; refine HDO.out.mono ?_; rintro e w4 ⟨rfl, hM'⟩; have HM' := Lib.hid hM'; clear hM'))
            go_roundg (m2 - k - 1)
            case measure => omega
            case rel => exact ⟨k + 1, by omega, by go_num, HM'⟩
          · have dk : decide ((k : Int) < (m2 : Int)) = false := by simp; omega
            have HMJ := HMI
            clear HMI
            go_wp2
            go_loopg [13] m3 (fun gh iv wr => ∃ i : Nat, i + gh = m3 ∧ iv = .int .i64 i ∧ Hid (Mid2 w wr gb ob N (j + k + i)))
            case atStart => exact ⟨0, by omega, rfl, HMJ⟩
            case round =>
              obtain ⟨i, hi, rfl, HMI⟩ := hrel
              by_cases hlt : i < m3
              · have j0 : (0 : Int) ≤ (i : Int) := by omega
                have j1 : (i : Int) < (m3 : Int) := by omega
                obtain ⟨bI, oI, xa, hA, hfit, hcells⟩ := HV3.out.at_ hlt
                subst hA
                have hxc := hcells wr HMI.out.chg
                have hxs := xa.size
                have HDO := Lib.hid (HMI.out.do2 (by omega) hfit)
                clear hcells hfit HV3
                unfold Ac.val at HDO
                generalize xa.arr = XA at *
                go_wp2_with (first | ((with_reducible refine wpl_load_atE (b := bI) (off := oI + i * 24) T39 hxs hxc ?_ ?_ ?_); (· rfl); (· exact ⟨_, rfl, rfl⟩)) | (go_at_call 11; refine HDO.out.mono ?_; rintro e w4 ⟨rfl, hM'⟩; have HM' := Lib.hid hM'; clear hM'))
                go_roundg (m3 - i - 1)
                case measure => omega
                case rel => exact ⟨i + 1, by omega, by go_num, HM'⟩
              · have di : decide ((i : Int) < (m3 : Int)) = false := by simp; omega
                obtain ⟨K1, t1, r1, K2, t2, r2, ⟨a1, b1, S1, T1, VA, hg1, rfl⟩, ⟨a2, b2, S2, T2, VB, hg2, rfl⟩, i1, i2, _, _, _, _, hcx⟩ := HMI.out
                have HB1 := Lib.hid hg1.b
                have HB2 := Lib.hid hg2.b
                have HCX := Lib.hid hcx
                have HS1 := Lib.hid (fun W (hc : Chg [] wr W) => same_any (hg1.quiet hc) i1 (by omega))
                have HS2 := Lib.hid (fun W (hc : Chg [] wr W) => same_any (hg2.quiet hc) i2 (by omega))
                have HSM := Lib.hid (fun W (hc : Chg [] wr W) => Same_any (hg1.g.quiet hc) (hg2.g.quiet hc) i1.size i2.size hN64)
                obtain ⟨L1, hL1⟩ : ∃ L, L = nowL t1 N := ⟨_, rfl⟩
                obtain ⟨L2, hL2⟩ : ∃ L, L = nowL t2 N := ⟨_, rfl⟩
                have HA1 := Lib.hid (fun W (hc : Chg [] wr W) => (rAll_any (hg1.d.quiet hc) (by rw [docL_len i1]; exact hN64)).mono (R' := fun e w' => ∃ A cc, e = .returned (.slice A L1.length cc) ∧ Row w' 49 21 (.slice A L1.length cc) L1.length (plcCells L1) ∧ Chg [] W w') (fun e w' hh => by rw [docL_len i1, doc_all i1, ← hL1] at hh; obtain ⟨A, cc, h1, h2, _, h4⟩ := hh; exact ⟨A, cc, h1, h2, h4⟩))
                have HA2 := Lib.hid (fun W (hc : Chg [] wr W) => (rAll_any (hg2.d.quiet hc) (by rw [docL_len i2]; exact hN64)).mono (R' := fun e w' => ∃ A cc, e = .returned (.slice A L2.length cc) ∧ Row w' 49 21 (.slice A L2.length cc) L2.length (plcCells L2) ∧ Chg [] W w') (fun e w' hh => by rw [docL_len i2, doc_all i2, ← hL2] at hh; obtain ⟨A, cc, h1, h2, _, h4⟩ := hh; exact ⟨A, cc, h1, h2, h4⟩))
                rw [← hL1, ← hL2] at HSM
                have hq1 : L1.length ≤ 64 := by rw [hL1]; exact Nat.le_trans (nowL_len t1 N) hN64
                have hq2 : L2.length ≤ 64 := by rw [hL2]; exact Nat.le_trans (nowL_len t2 N) hN64
                have heqb : ∀ W : World, (binOp .eql 4 (.bool (eqL L1 L2)) (.bool (eqL L1 L2))).run Try.prog W = .ok (.bool true) W := fun W => by simp [go_sem]
                clear hg1 hg2 i1 i2 hcx hL1 hL2 HMI HMJ
                generalize hEQ : eqL L1 L2 = EQ at *
                have hcD : Chg [] wr wr.drew := (Chg.refl [] wr).drew
                go_upto_region 21 with (fail)
                refine wp_region_held_drew (S := fun w' => Blk w' gb 45 #[ptr a1, ptr b1, VA] ∧ Blk w' ob 45 #[ptr a2, ptr b2, VB]) (by kernel_rfl) ⟨HB1.out.drew, HB2.out.drew⟩ (fun hHeld => ?_)
                simp only [List.setIfInBounds_toArray, List.size_toArray, List.length_cons, List.length_nil, Array.replicate]
                refine wpAnyH_take (i := 0) (v := ?_) rfl (by kernel_rfl) (by kernel_rfl) (by kernel_rfl) (fun _ _ _ h => h) (Or.inl ⟨by rfl, ?_⟩) hHeld ?_
                rotate_left
                · (intro w' hSw; go_simp; try with_reducible rfl)
                simp only [Act.put, List.getElem_toArray, List.getElem_cons_succ, List.getElem_cons_zero, List.setIfInBounds_toArray, List.set_cons_zero, List.set_cons_succ]
                refine wpAnyH_ready (rs := [1]) (by kernel_rfl) (by simp) ?_
                refine AllReadyH.cons rfl (fun K hK => ?_) AllReadyH.nil
                go_simp
                refine (HS1.out _ hcD).mono ?_
                rintro e x1 ⟨rfl, hx1⟩
                have hx1w := (hcD).then hx1
                refine hK _ _ ⟨hHeld.1.chg hx1 (by simp), hHeld.2.chg hx1 (by simp)⟩ (fun hHeld => ?_)
                clear hK K
                simp only [Act.put, List.getElem_toArray, List.getElem_cons_succ, List.getElem_cons_zero, List.setIfInBounds_toArray, List.set_cons_zero, List.set_cons_succ]
                refine wpAnyH_take (i := 2) (v := ?_) rfl (by kernel_rfl) (by kernel_rfl) (by kernel_rfl) (fun _ _ _ h => h) (Or.inl ⟨by rfl, ?_⟩) hHeld ?_
                rotate_left
                · (intro w' hSw; go_simp; try with_reducible rfl)
                simp only [Act.put, List.getElem_toArray, List.getElem_cons_succ, List.getElem_cons_zero, List.setIfInBounds_toArray, List.set_cons_zero, List.set_cons_succ]
                refine wpAnyH_take (i := 3) (v := ?_) rfl (by kernel_rfl) (by kernel_rfl) (by kernel_rfl) (fun _ _ _ h => h) (Or.inl ⟨by rfl, ?_⟩) hHeld ?_
                rotate_left
                · (intro w' hSw; go_simp; try with_reducible rfl)
                simp only [Act.put, List.getElem_toArray, List.getElem_cons_succ, List.getElem_cons_zero, List.setIfInBounds_toArray, List.set_cons_zero, List.set_cons_succ]
                refine wpAnyH_ready (rs := [4]) (by kernel_rfl) (by simp) ?_
                refine AllReadyH.cons rfl (fun K hK => ?_) AllReadyH.nil
                go_simp
                refine (HS2.out _ hx1w).mono ?_
                rintro e x2 ⟨rfl, hx2⟩
                have hx2w := (hx1w).then hx2
                refine hK _ _ ⟨hHeld.1.chg hx2 (by simp), hHeld.2.chg hx2 (by simp)⟩ (fun hHeld => ?_)
                clear hK K
                simp only [Act.put, List.getElem_toArray, List.getElem_cons_succ, List.getElem_cons_zero, List.setIfInBounds_toArray, List.set_cons_zero, List.set_cons_succ]
                refine wpAnyH_take (i := 5) (v := ?_) rfl (by kernel_rfl) (by kernel_rfl) (by kernel_rfl) (fun _ _ _ h => h) (Or.inl ⟨by rfl, ?_⟩) hHeld ?_
                rotate_left
                · (intro w' hSw; go_simp; try with_reducible rfl)
                simp only [Act.put, List.getElem_toArray, List.getElem_cons_succ, List.getElem_cons_zero, List.setIfInBounds_toArray, List.set_cons_zero, List.set_cons_succ]
                refine wpAnyH_take (i := 6) (v := ?_) rfl (by kernel_rfl) (by kernel_rfl) (by kernel_rfl) (fun _ _ _ h => h) (Or.inl ⟨by rfl, ?_⟩) hHeld ?_
                rotate_left
                · (intro w' hSw; go_simp; try with_reducible rfl)
                simp only [Act.put, List.getElem_toArray, List.getElem_cons_succ, List.getElem_cons_zero, List.setIfInBounds_toArray, List.set_cons_zero, List.set_cons_succ]
                refine wpAnyH_take (i := 7) (v := ?_) rfl (by kernel_rfl) (by kernel_rfl) (by kernel_rfl) (fun _ _ _ h => h) (Or.inl ⟨by rfl, ?_⟩) hHeld ?_
                rotate_left
                · (intro w' hSw; go_simp; try with_reducible rfl)
                simp only [Act.put, List.getElem_toArray, List.getElem_cons_succ, List.getElem_cons_zero, List.setIfInBounds_toArray, List.set_cons_zero, List.set_cons_succ]
                refine wpAnyH_take (i := 8) (v := ?_) rfl (by kernel_rfl) (by kernel_rfl) (by kernel_rfl) (fun _ _ _ h => h) (Or.inl ⟨by rfl, ?_⟩) hHeld ?_
                rotate_left
                · (intro w' hSw; go_simp; try with_reducible rfl)
                simp only [Act.put, List.getElem_toArray, List.getElem_cons_succ, List.getElem_cons_zero, List.setIfInBounds_toArray, List.set_cons_zero, List.set_cons_succ]
                refine wpAnyH_take (i := 9) (v := ?_) rfl (by kernel_rfl) (by kernel_rfl) (by kernel_rfl) (fun _ _ _ h => h) (Or.inl ⟨by rfl, ?_⟩) hHeld ?_
                rotate_left
                · (intro w' hSw; go_simp; try with_reducible rfl)
                simp only [Act.put, List.getElem_toArray, List.getElem_cons_succ, List.getElem_cons_zero, List.setIfInBounds_toArray, List.set_cons_zero, List.set_cons_succ]
                refine wpAnyH_take (i := 10) (v := ?_) rfl (by kernel_rfl) (by kernel_rfl) (by kernel_rfl) (fun _ _ _ h => h) (Or.inl ⟨by rfl, ?_⟩) hHeld ?_
                rotate_left
                · (intro w' hSw; have q0 := hSw.1.cell 0; simp only [List.getElem?_toArray, List.getElem?_cons_zero, List.getElem?_cons_succ] at *; go_simp; try with_reducible rfl)
                simp only [Act.put, List.getElem_toArray, List.getElem_cons_succ, List.getElem_cons_zero, List.setIfInBounds_toArray, List.set_cons_zero, List.set_cons_succ]
                refine wpAnyH_take (i := 11) (v := ?_) rfl (by kernel_rfl) (by kernel_rfl) (by kernel_rfl) (fun _ _ _ h => h) (Or.inl ⟨by rfl, ?_⟩) hHeld ?_
                rotate_left
                · (intro w' hSw; go_simp; try with_reducible rfl)
                simp only [Act.put, List.getElem_toArray, List.getElem_cons_succ, List.getElem_cons_zero, List.setIfInBounds_toArray, List.set_cons_zero, List.set_cons_succ]
                refine wpAnyH_take (i := 12) (v := ?_) rfl (by kernel_rfl) (by kernel_rfl) (by kernel_rfl) (fun _ _ _ h => h) (Or.inl ⟨by rfl, ?_⟩) hHeld ?_
                rotate_left
                · (intro w' hSw; go_simp; try with_reducible rfl)
                simp only [Act.put, List.getElem_toArray, List.getElem_cons_succ, List.getElem_cons_zero, List.setIfInBounds_toArray, List.set_cons_zero, List.set_cons_succ]
                refine wpAnyH_take (i := 13) (v := ?_) rfl (by kernel_rfl) (by kernel_rfl) (by kernel_rfl) (fun _ _ _ h => h) (Or.inl ⟨by rfl, ?_⟩) hHeld ?_
                rotate_left
                · (intro w' hSw; go_simp; try with_reducible rfl)
                simp only [Act.put, List.getElem_toArray, List.getElem_cons_succ, List.getElem_cons_zero, List.setIfInBounds_toArray, List.set_cons_zero, List.set_cons_succ]
                refine wpAnyH_take (i := 14) (v := ?_) rfl (by kernel_rfl) (by kernel_rfl) (by kernel_rfl) (fun _ _ _ h => h) (Or.inl ⟨by rfl, ?_⟩) hHeld ?_
                rotate_left
                · (intro w' hSw; have q0 := hSw.2.cell 0; simp only [List.getElem?_toArray, List.getElem?_cons_zero, List.getElem?_cons_succ] at *; go_simp; try with_reducible rfl)
                simp only [Act.put, List.getElem_toArray, List.getElem_cons_succ, List.getElem_cons_zero, List.setIfInBounds_toArray, List.set_cons_zero, List.set_cons_succ]
                refine wpAnyH_take (i := 16) (v := ?_) rfl (by kernel_rfl) (by kernel_rfl) (by kernel_rfl) (fun _ _ _ h => h) (Or.inl ⟨by rfl, ?_⟩) hHeld ?_
                rotate_left
                · (intro w' hSw; go_simp; try with_reducible rfl)
                simp only [Act.put, List.getElem_toArray, List.getElem_cons_succ, List.getElem_cons_zero, List.setIfInBounds_toArray, List.set_cons_zero, List.set_cons_succ]
                refine wpAnyH_take (i := 17) (v := ?_) rfl (by kernel_rfl) (by kernel_rfl) (by kernel_rfl) (fun _ _ _ h => h) (Or.inl ⟨by rfl, ?_⟩) hHeld ?_
                rotate_left
                · (intro w' hSw; go_simp; try with_reducible rfl)
                simp only [Act.put, List.getElem_toArray, List.getElem_cons_succ, List.getElem_cons_zero, List.setIfInBounds_toArray, List.set_cons_zero, List.set_cons_succ]
                refine wpAnyH_take (i := 18) (v := ?_) rfl (by kernel_rfl) (by kernel_rfl) (by kernel_rfl) (fun _ _ _ h => h) (Or.inl ⟨by rfl, ?_⟩) hHeld ?_
                rotate_left
                · (intro w' hSw; go_simp; try with_reducible rfl)
                simp only [Act.put, List.getElem_toArray, List.getElem_cons_succ, List.getElem_cons_zero, List.setIfInBounds_toArray, List.set_cons_zero, List.set_cons_succ]
                refine wpAnyH_take (i := 19) (v := ?_) rfl (by kernel_rfl) (by kernel_rfl) (by kernel_rfl) (fun _ _ _ h => h) (Or.inl ⟨by rfl, ?_⟩) hHeld ?_
                rotate_left
                · (intro w' hSw; have q0 := hSw.1.cell 1; simp only [List.getElem?_toArray, List.getElem?_cons_zero, List.getElem?_cons_succ] at *; go_simp; try with_reducible rfl)
                simp only [Act.put, List.getElem_toArray, List.getElem_cons_succ, List.getElem_cons_zero, List.setIfInBounds_toArray, List.set_cons_zero, List.set_cons_succ]
                refine wpAnyH_take (i := 21) (v := ?_) rfl (by kernel_rfl) (by kernel_rfl) (by kernel_rfl) (fun _ _ _ h => h) (Or.inl ⟨by rfl, ?_⟩) hHeld ?_
                rotate_left
                · (intro w' hSw; go_simp; try with_reducible rfl)
                simp only [Act.put, List.getElem_toArray, List.getElem_cons_succ, List.getElem_cons_zero, List.setIfInBounds_toArray, List.set_cons_zero, List.set_cons_succ]
                refine wpAnyH_take (i := 22) (v := ?_) rfl (by kernel_rfl) (by kernel_rfl) (by kernel_rfl) (fun _ _ _ h => h) (Or.inl ⟨by rfl, ?_⟩) hHeld ?_
                rotate_left
                · (intro w' hSw; go_simp; try with_reducible rfl)
                simp only [Act.put, List.getElem_toArray, List.getElem_cons_succ, List.getElem_cons_zero, List.setIfInBounds_toArray, List.set_cons_zero, List.set_cons_succ]
                refine wpAnyH_take (i := 23) (v := ?_) rfl (by kernel_rfl) (by kernel_rfl) (by kernel_rfl) (fun _ _ _ h => h) (Or.inl ⟨by rfl, ?_⟩) hHeld ?_
                rotate_left
                · (intro w' hSw; go_simp; try with_reducible rfl)
                simp only [Act.put, List.getElem_toArray, List.getElem_cons_succ, List.getElem_cons_zero, List.setIfInBounds_toArray, List.set_cons_zero, List.set_cons_succ]
                refine wpAnyH_take (i := 24) (v := ?_) rfl (by kernel_rfl) (by kernel_rfl) (by kernel_rfl) (fun _ _ _ h => h) (Or.inl ⟨by rfl, ?_⟩) hHeld ?_
                rotate_left
                · (intro w' hSw; have q0 := hSw.2.cell 1; simp only [List.getElem?_toArray, List.getElem?_cons_zero, List.getElem?_cons_succ] at *; go_simp; try with_reducible rfl)
                simp only [Act.put, List.getElem_toArray, List.getElem_cons_succ, List.getElem_cons_zero, List.setIfInBounds_toArray, List.set_cons_zero, List.set_cons_succ]
                refine wpAnyH_ready (rs := [15]) (by kernel_rfl) (by simp) ?_
                refine AllReadyH.cons rfl (fun K hK => ?_) AllReadyH.nil
                go_simp
                refine (HSM.out _ hx2w).mono ?_
                rintro e x3 ⟨rfl, hx3⟩
                have hx3w := (hx2w).then hx3
                refine hK _ _ ⟨hHeld.1.chg hx3 (by simp), hHeld.2.chg hx3 (by simp)⟩ (fun hHeld => ?_)
                clear hK K
                simp only [Act.put, List.getElem_toArray, List.getElem_cons_succ, List.getElem_cons_zero, List.setIfInBounds_toArray, List.set_cons_zero, List.set_cons_succ]
                refine wpAnyH_ready (rs := [20]) (by kernel_rfl) (by simp) ?_
                refine AllReadyH.cons rfl (fun K hK => ?_) AllReadyH.nil
                go_simp
                refine (HA1.out _ hx3w).mono ?_
                rintro e x4 ⟨AX, cX, rfl, hrX, hx4⟩
                have hx4w := (hx3w).then hx4
                refine hK _ _ ⟨hHeld.1.chg hx4 (by simp), hHeld.2.chg hx4 (by simp)⟩ (fun hHeld => ?_)
                clear hK K
                simp only [Act.put, List.getElem_toArray, List.getElem_cons_succ, List.getElem_cons_zero, List.setIfInBounds_toArray, List.set_cons_zero, List.set_cons_succ]
                refine wpAnyH_ready (rs := [25]) (by kernel_rfl) (by simp) ?_
                refine AllReadyH.cons rfl (fun K hK => ?_) AllReadyH.nil
                go_simp
                refine (HA2.out _ hx4w).mono ?_
                rintro e x5 ⟨AY, cY, rfl, hrY, hx5⟩
                have hx5w := (hx4w).then hx5
                refine hK _ _ ⟨hHeld.1.chg hx5 (by simp), hHeld.2.chg hx5 (by simp)⟩ (fun hHeld => ?_)
                clear hK K
                simp only [Act.put, List.getElem_toArray, List.getElem_cons_succ, List.getElem_cons_zero, List.setIfInBounds_toArray, List.set_cons_zero, List.set_cons_succ]
                refine wpAnyH_ready (rs := [26]) (by kernel_rfl) (by simp) ?_
                refine AllReadyH.cons rfl (fun K hK => ?_) AllReadyH.nil
                go_simp
                have hrX2 := hrX.chg hx5 (fun _ _ hk => by cases hk)
                refine (sameL_any hrX2 hrY (by omega) (by omega)).mono ?_
                rintro e x6 ⟨rfl, nn, hn6⟩
                have hx6 : Chg [] x5 x6 := by rw [hn6]; exact (Chg.refl [] x5).drewN nn
                have hx6w := hx5w.then hx6
                clear hn6
                refine hK _ _ ⟨hHeld.1.chg hx6 (by simp), hHeld.2.chg hx6 (by simp)⟩ (fun hHeld => ?_)
                clear hK K
                simp only [Act.put, List.getElem_toArray, List.getElem_cons_succ, List.getElem_cons_zero, List.setIfInBounds_toArray, List.set_cons_zero, List.set_cons_succ]
                refine wpAnyH_take (i := 27) (v := ?_) rfl (by kernel_rfl) (by kernel_rfl) (by kernel_rfl) (fun _ _ _ h => h) (Or.inl ⟨by rfl, ?_⟩) hHeld ?_
                rotate_left
                · (intro w' hSw; go_simp; try with_reducible rfl)
                simp only [Act.put, List.getElem_toArray, List.getElem_cons_succ, List.getElem_cons_zero, List.setIfInBounds_toArray, List.set_cons_zero, List.set_cons_succ]
                refine wpAnyH_take (i := 28) (v := ?_) rfl (by kernel_rfl) (by kernel_rfl) (by kernel_rfl) (fun _ _ _ h => h) (Or.inl ⟨by rfl, ?_⟩) hHeld ?_
                rotate_left
                · (intro w' hSw; go_simp; try with_reducible rfl)
                simp only [Act.put, List.getElem_toArray, List.getElem_cons_succ, List.getElem_cons_zero, List.setIfInBounds_toArray, List.set_cons_zero, List.set_cons_succ]
                refine wpAnyH_take (i := 29) (v := ?_) rfl (by kernel_rfl) (by kernel_rfl) (by kernel_rfl) (fun _ _ _ h => h) (Or.inl ⟨by rfl, ?_⟩) hHeld ?_
                rotate_left
                · (intro w' hSw; go_simp; try with_reducible rfl)
                simp only [Act.put, List.getElem_toArray, List.getElem_cons_succ, List.getElem_cons_zero, List.setIfInBounds_toArray, List.set_cons_zero, List.set_cons_succ]
                refine wpAnyH_ready (rs := [30]) (by kernel_rfl) (by simp) ?_
                refine AllReadyH.cons rfl (fun K hK => ?_) AllReadyH.nil
                go_simp
                refine (HK.out _).mono ?_
                rintro e x7 ⟨rfl, hx7⟩
                have hx7w := hx6w.then hx7
                refine hK _ _ ⟨hHeld.1.chg hx7 (by simp), hHeld.2.chg hx7 (by simp)⟩ (fun hHeld => ?_)
                clear hK K
                simp only [Act.put, List.getElem_toArray, List.getElem_cons_succ, List.getElem_cons_zero, List.setIfInBounds_toArray, List.set_cons_zero, List.set_cons_succ]
                refine wpAnyH_take (i := 31) (v := ?_) rfl (by kernel_rfl) (by kernel_rfl) (by kernel_rfl) (fun _ _ _ h => h) (Or.inl ⟨by rfl, ?_⟩) hHeld ?_
                rotate_left
                · (intro w' hSw; go_simp; try with_reducible rfl)
                simp only [Act.put, List.getElem_toArray, List.getElem_cons_succ, List.getElem_cons_zero, List.setIfInBounds_toArray, List.set_cons_zero, List.set_cons_succ]
                refine wpAnyH_take (i := 32) (v := ?_) rfl (by kernel_rfl) (by kernel_rfl) (by kernel_rfl) (fun _ _ _ h => h) (Or.inl ⟨by rfl, ?_⟩) hHeld ?_
                rotate_left
                · (intro w' hSw; go_simp; try with_reducible rfl)
                simp only [Act.put, List.getElem_toArray, List.getElem_cons_succ, List.getElem_cons_zero, List.setIfInBounds_toArray, List.set_cons_zero, List.set_cons_succ]
                refine wpAnyH_done (by kernel_rfl) ?_ _
                clear hHeld
                go_wp2
                go_ret
                exact ⟨rfl, HCX.out.then hx7w⟩
  · have HN := Lib.hid (begin_no size (by omega) w)
    by_cases h1 : size < 1
    · have d0 : decide (size < 1) = true := decide_eq_true h1
      go_enter Try.func6, Try.ntmps6
      go_wp2_with (first | (go_at_call 10; refine HN.out.mono ?_; rintro e w' ⟨rfl, rfl⟩) | (go_at_call 9; refine (HK.out _).mono ?_; rintro e w4 ⟨rfl, hc4⟩))
      go_ret
      exact ⟨rfl, hc4⟩
    · have d0 : decide (size < 1) = false := decide_eq_false h1
      have d2 : decide (size > 64) = true := decide_eq_true (by omega)
      have d2' : decide ((64 : Int) < size) = true := decide_eq_true (by omega)
      go_enter Try.func6, Try.ntmps6
      go_wp2_with (first | (go_at_call 10; refine HN.out.mono ?_; rintro e w' ⟨rfl, rfl⟩) | (go_at_call 9; refine (HK.out _).mono ?_; rintro e w4 ⟨rfl, hc4⟩))
      go_ret
      exact ⟨rfl, hc4⟩
end Go.Proofs
end
section
namespace Go.Proofs.Ytapgcadffghljaa.gtableCopies
open Go.ChangeShapes Go.WideShapes Go.ChangeAt Go.RowKit
set_option linter.unusedVariables false

theorem own : ownKnob Try.prog.godebug = none := by kernel_rfl

set_option maxRecDepth 100000 in
theorem lifted (os : Os) (started : os.Started) (H : Type) (enc : TypeId × Value → H) :
    ReturnsInHanded {} Try.checked os 6 .any (Rows.gtableCopiesSpec.pre6 enc Try.prog Try.f6 Rows.gtableCopiesRow.domain false) (Rows.gtableCopiesSpec.post enc Try.prog Try.f6 false true false false) := by
  refine returnsInHanded_of_change (C := Try.checked) own started (by kernel_rfl) Try.func6
    (ChangeSpec.witness6 (enc := enc) (C := Try.checked) false ⟨#[], #[.int .i64 0, .slice none 0 0, .slice none 0 0, .slice none 0 0], []⟩ 8 (by kernel_rfl) (by kernel_rfl) (by kernel_rfl) (by kernel_rfl)) ?_
  intro W base args ds gs before hval0 hW hcnd _
  have hval : ∀ (j : Nat) t v, Try.f6.params[j]? = some t → args[j]? = some v → Value.okWide Try.prog W .any base t v := hval0
  have hW' := hW
  obtain ⟨p, q, hA0, hV, rfl, hfz, hnd⟩ := hW
  have hA : DataW.TrodAll enc Try.prog W 0 (fun _ => true) true Try.f6.params.toList args.toList ds p := hA0
  rw [Try.params6] at hA hval
  obtain ⟨v0, vs0, d0, ds0, p0, q0, hargs, rfl, rfl, h0, r0⟩ := trodAll_cons hA
  obtain ⟨v1, vs1, d1, ds1, p1, q1, rfl, rfl, rfl, h1, r1⟩ := trodAll_cons r0
  obtain ⟨v2, vs2, d2, ds2, p2, q2, rfl, rfl, rfl, h2, r2⟩ := trodAll_cons r1
  obtain ⟨v3, vs3, d3, ds3, p3, q3, rfl, rfl, rfl, h3, r3⟩ := trodAll_cons r2
  obtain ⟨rfl, rfl, rfl⟩ := trodAll_nil r3
  obtain rfl : args = #[v0, v1, v2, v3] := by cases args; simp_all
  obtain ⟨rfl, rfl⟩ := trodVars_none hV
  obtain ⟨a0, rfl, rfl, rfl, w0⟩ := open_int Try.underlying3 (hval 0 3 v0 rfl rfl) h0
  clear hA0 hval0
  simp only [List.append_nil, List.nil_append] at hW'
  obtain ⟨b0, c0⟩ := bounds_i64 w0
  have hlt1 : ∀ x ∈ p1, x.block < W.heap.size := fun x hx => hW'.lt x (by simp [hx])
  obtain ⟨l1, hl1⟩ := open_acts (hval 1 22 v1 rfl rfl) h1
  have hlt2 : ∀ x ∈ p2, x.block < W.heap.size := fun x hx => hW'.lt x (by simp [hx])
  obtain ⟨l2, hl2⟩ := open_acts (hval 2 22 v2 rfl rfl) h2
  have hlt3 : ∀ x ∈ p3, x.block < W.heap.size := fun x hx => hW'.lt x (by simp [hx])
  obtain ⟨l3, hl3⟩ := open_acts (hval 3 22 v3 rfl rfl) h3
  refine (copies_any _ ⟨by omega, by omega⟩ _ _ _ _ _ _ W hl1 hl2 hl3).mono fun e W' ⟨he, hc⟩ => ?_
  have hg := hc.to_below
  subst he
  exact ⟨_, rfl, post_of_below (pa := ([] ++ (p1 ++ (p2 ++ (p3 ++ []))))) (pv := []) hW' (fun _ _ _ => (trodAll_cons_mk (shut_bool Try.underlying4 _) trodAll_mk0)) (fun sp hsp => (trodAll_cons_mk (shut_int Try.underlying3 w0) (trodAll_cons_mk (WideElems.Trod_stays Try.laidOut (by kernel_rfl) (of_decide_eq_true (by kernel_rfl)) h1 (fun x hx => hg.same (hlt1 x hx)) (fun x hx => hsp x (by simp [hx]))) (trodAll_cons_mk (WideElems.Trod_stays Try.laidOut (by kernel_rfl) (of_decide_eq_true (by kernel_rfl)) h2 (fun x hx => hg.same (hlt2 x hx)) (fun x hx => hsp x (by simp [hx]))) (trodAll_cons_mk (WideElems.Trod_stays Try.laidOut (by kernel_rfl) (of_decide_eq_true (by kernel_rfl)) h3 (fun x hx => hg.same (hlt3 x hx)) (fun x hx => hsp x (by simp [hx]))) trodAll_mk0))))) (fun _ _ => rfl) (by simp)
    hg (ok_one (by kernel_rfl) rfl (okWide_bool_mk Try.underlying4 _))⟩

theorem over : Rows.gtableCopiesRow.holds Try.pinned (OpenSpec.ofChange Rows.gtableCopiesSpec) :=
  OpenClaim.holds_of_wide 6 Try.f6 rfl rfl rfl rfl rfl rfl rfl ⟨rfl, rfl, rfl, rfl, rfl⟩ rfl rfl rfl rfl rfl (by kernel_rfl) Try.func6 (by kernel_rfl)
    (of_decide_eq_true (by kernel_rfl)) (by unfold Func.isWrapper; first | (rw [if_pos (by decide +kernel)]; kernel_rfl) | (rw [if_neg (by decide +kernel)]; exact ⟨rfl, rfl⟩))
    (fun os started H enc _ => lifted os started H enc)

/-- ████ THE STATEMENT ████ -/
theorem proved : Rows.GtableCopiesSaid :=
  over
#print axioms proved
end Go.Proofs.Ytapgcadffghljaa.gtableCopies
end
