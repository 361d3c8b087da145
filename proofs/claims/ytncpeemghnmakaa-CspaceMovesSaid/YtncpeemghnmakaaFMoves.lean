/-
  Proved: of any three numbers, any acts and any two slots, behind these acts a move that is refused changes nothing, and one that is done is undone by the move back. No conditions.
-/
import Derived.Test.YtncpeemghnmakaaM12
import Derived.Test.YtncpeemghnmakaaRows
import Derived.WalkKit
import Derived.Below
import Derived.ChangeSame
import Derived.ProofKit
import Derived.OpenShut
section
namespace Go.Proofs
open Go.RowKit
set_option linter.unusedVariables false
set_option linter.unusedSimpArgs false
attribute [local go_sem] eql_ptr_nil neq_ptr_nil eql_nil_nil
set_option maxHeartbeats 12800000 in
set_option maxRecDepth 100000 in
theorem moves_any (n1 n2 n3 : Int) (V : Value) (acts : List ActC) (g0 sl0 td0 : Int) (w : World) (hV : Acts w V acts) :
    Calls Try.prog 6 #[.int .i64 n1, .int .i64 n2, .int .i64 n3, V, .int .i64 g0, .int .i64 sl0, .int .i64 td0] w fun e w' => e = .returned (.bool true) ∧ Chg [] w w' := by
  have HK := Lib.hid known_any
  obtain ⟨A2, c2, rfl⟩ := hV.open_
  obtain ⟨m, hm⟩ : ∃ m, m = acts.length := ⟨_, rfl⟩
  rw [← hm] at hV ⊢
  have HV := Lib.hid hV
  clear hV hm
  have HS := Lib.hid (small_any n1 n2 n3)
  cases hb : mayG n1 n2 n3 with
  | false =>
    have hsm : smallG n1 n2 n3 = false := by unfold smallG; rw [hb]; rfl
    rw [hsm] at HS
    have HB := Lib.hid (begin_no hb w)
    clear hb hsm
    go_enter Try.func6, Try.ntmps6
    go_wp2_with (first
      | (go_at_call 9; refine HB.out.mono ?_; rintro e w' ⟨rfl, rfl⟩)
      | (go_at_call 13; refine (HS.out _).mono ?_; rintro e w' ⟨rfl, rfl⟩)
      | (go_at_call 12; refine (HK.out _).mono ?_; rintro e w2 ⟨rfl, hc⟩; have HC := Lib.hid hc; clear hc))
    go_ret
    exact ⟨rfl, HC.out⟩
  | true =>
    obtain ⟨x, y, z, rfl, rfl, rfl, hx, hy, hz⟩ := mayG_nat hb
    have HB := Lib.hid (mid_begun hx hy hz w)
    obtain ⟨sm, hsm⟩ : ∃ b, b = smallG x y z := ⟨_, rfl⟩
    rw [← hsm] at HS
    clear hb hsm
    cases sm with
    | false =>
      go_enter Try.func6, Try.ntmps6
      go_wp2_with (first
        | (go_at_call 9; refine HB.out.mono ?_; rintro e w1 ⟨a, b, rfl, hM⟩; have HQ := Lib.hid hM; clear hM)
        | (go_at_call 13; refine (HS.out _).mono ?_; rintro e w' ⟨rfl, rfl⟩)
        | (go_at_call 12; refine HQ.out.known.mono ?_; rintro e w2 ⟨rfl, hq⟩; have HQ := Lib.hid hq; clear hq))
      go_ret
      exact ⟨rfl, HQ.out.chg⟩
    | true =>
      by_cases hmx : (100 : Int) < (m : Int)
      · have d1 : decide ((m : Int) > 100) = true := decide_eq_true hmx
        have d1' : decide ((100 : Int) < (m : Int)) = true := decide_eq_true hmx
        go_enter Try.func6, Try.ntmps6
        go_wp2_with (first
          | (go_at_call 9; refine HB.out.mono ?_; rintro e w1 ⟨a, b, rfl, hM⟩; have HQ := Lib.hid hM; clear hM)
          | (go_at_call 13; refine (HS.out _).mono ?_; rintro e w' ⟨rfl, rfl⟩)
          | (go_at_call 12; refine HQ.out.known.mono ?_; rintro e w2 ⟨rfl, hq⟩; have HQ := Lib.hid hq; clear hq))
        go_ret
        exact ⟨rfl, HQ.out.chg⟩
      · have d1 : decide ((m : Int) > 100) = false := decide_eq_false hmx
        have d1' : decide ((100 : Int) < (m : Int)) = false := decide_eq_false hmx
        have hm2 : m ≤ 100 := by omega
        go_enter Try.func6, Try.ntmps6
        go_wp2_with (first
          | (go_at_call 9; refine HB.out.mono ?_; rintro e w1 ⟨a, b, rfl, hM⟩; have HQ := Lib.hid hM; clear hM)
          | (go_at_call 13; refine (HS.out _).mono ?_; rintro e w' ⟨rfl, rfl⟩))
        go_loopg [17] m (fun gh iv wr => ∃ j : Nat, j + gh = m ∧ iv = .int .i64 j ∧ Hid (MidX w wr a b x y j))
        case atStart => exact ⟨0, by omega, rfl, HQ⟩
        case round =>
          obtain ⟨j, hj, rfl, HMI⟩ := hrel
          by_cases hlt : j < m
          · have j0 : (0 : Int) ≤ (j : Int) := by omega
            have j1 : (j : Int) < (m : Int) := by omega
            obtain ⟨bI, oI, xa, hA, hfit, hcells⟩ := HV.out.at_ hlt
            subst hA
            obtain ⟨z0, z1, z2, z3, z4, z5, z6, z7, z8, z9⟩ := hcells wr HMI.out.chg
            have HDO := Lib.hid (HMI.out.do (by omega) hfit)
            obtain ⟨kd, g, sl, tg, td, ⟨ck, ci, cg, cr⟩⟩ := xa
            simp only at z1 z2 z3 z4 z5 z6 z7 z8 z9
            clear HV hcells hfit
            go_wp2_with (first
              | (go_at_call 14; refine HDO.out.mono ?_; rintro e w4 ⟨rfl, hM'⟩; have HM' := Lib.hid hM'; clear hM'))
            go_roundg (m - j - 1)
            case measure => omega
            case rel => exact ⟨j + 1, by omega, by go_num, HM'⟩
          · have d1 : decide ((j : Int) < (m : Int)) = false := by simp; omega
            obtain ⟨s, r, ⟨S, T, hsp, hrf, hfS, hfT, hch, hbo⟩, hsx, hsy⟩ := HMI.out
            have HCP := Lib.hid (C1.copy (show C1 w wr a s from ⟨S, hsp, hfS, hch⟩))
            have hwf := hbo.wf
            have htw := hbo.twf
            clear hsp hrf hfS hfT hch hbo hsx hsy HMI HQ HB HS HV
            by_cases hz : s.moveE ⟨g0, sl0⟩ ⟨g0, td0⟩ = 0
            · obtain ⟨z1, ⟨n, z2⟩, z3, z4⟩ := Sp.move0 hz
              have hm1 : s.movP ⟨g0, sl0⟩ ⟨g0, td0⟩ = s.move n ⟨g0, td0⟩ := by unfold Sp.movP; rw [if_pos hz, z2]
              have HMV := Lib.hid (fun W o (h : C2 w W a s o s) => h.move ⟨g0, sl0⟩ ⟨g0, td0⟩ rfl hz hm1)
              obtain ⟨hb1, hb2⟩ := Sp.moved_back hwf htw z2 z4 z1 z3
              have hns := Sp.moved_not (n := n) hwf z4
              obtain ⟨s1, hs1⟩ : ∃ s1, s1 = s.move n ⟨g0, td0⟩ := ⟨_, rfl⟩
              rw [← hs1] at HMV hb1 hb2 hns
              have HS1 := Lib.hid (fun W o (h : C2 w W a s1 o s) => h.same (x := false) ⟨(fun e => nomatch e), (fun e => absurd e hns)⟩)
              have HMB := Lib.hid (fun W o (h : C2 w W a s1 o s) => h.move ⟨g0, td0⟩ ⟨g0, sl0⟩ rfl hb1 hb2)
              have HS2 := Lib.hid (fun W o (h : C2 w W a s o s) => h.same (x := true) ⟨fun _ => Sp.SameP.refl s, fun _ => rfl⟩)
              have HS3 := Lib.hid (fun W o (h : C2 w W a s o s) => h.same2 (x := true) ⟨fun _ => Sp.SameP.refl s, fun _ => rfl⟩)
              have t1 : True := trivial
              have t2 : True := trivial
              have t3 : True := trivial
              clear hz z1 z2 z3 z4 hm1 hb1 hb2 hns hs1 hwf htw
              go_wp2_with (first
                | (go_at_call 20; refine HCP.out.mono ?_; rintro e w1 ⟨o, rfl, hq⟩; have HQ := Lib.hid hq; clear hq)
                | (go_at_call 25; have _t := t1; refine (HMV.out _ _ HQ.out).mono ?_; rintro e w2 ⟨rfl, hq⟩; have HQ := Lib.hid hq; clear hq t1)
                | (go_at_call 25; refine (HMB.out _ _ HQ.out).mono ?_; rintro e w3 ⟨rfl, hq⟩; have HQ3 := Lib.hid hq; clear hq)
                | (go_at_call 22; have _t := t2; refine (HS1.out _ _ HQ.out).mono ?_; rintro e w5 ⟨rfl, hq⟩; have HQ := Lib.hid hq; clear hq t2)
                | (go_at_call 22; have _t := t3; refine (HS2.out _ _ HQ3.out).mono ?_; rintro e w6 ⟨rfl, hq⟩; have HQ3 := Lib.hid hq; clear hq t3)
                | (go_at_call 22; refine (HS3.out _ _ HQ3.out).mono ?_; rintro e w4 ⟨rfl, hq⟩; have HQ3 := Lib.hid hq; clear hq)
                | (go_at_call 12; refine HQ3.out.known.mono ?_; rintro e w7 ⟨rfl, hq⟩; have HQ3 := Lib.hid hq; clear hq))
              go_ret
              exact ⟨rfl, HQ3.out.chg⟩
            · have hm1 : s.movP ⟨g0, sl0⟩ ⟨g0, td0⟩ = s := by unfold Sp.movP; rw [if_neg hz]
              have HMV := Lib.hid (fun W o (h : C2 w W a s o s) => h.move ⟨g0, sl0⟩ ⟨g0, td0⟩ rfl (z := s.moveE ⟨g0, sl0⟩ ⟨g0, td0⟩) rfl hm1)
              obtain ⟨zz, hzz⟩ : ∃ zz, zz = s.moveE ⟨g0, sl0⟩ ⟨g0, td0⟩ := ⟨_, rfl⟩
              rw [← hzz] at HMV hz
              have e1 : (zz != 0) = true := by simpa using hz
              have HS2 := Lib.hid (fun W o (h : C2 w W a s o s) => h.same (x := true) ⟨fun _ => Sp.SameP.refl s, fun _ => rfl⟩)
              clear hz hm1 hzz hwf htw
              go_wp2_with (first
                | (go_at_call 20; refine HCP.out.mono ?_; rintro e w1 ⟨o, rfl, hq⟩; have HQ := Lib.hid hq; clear hq)
                | (go_at_call 25; refine (HMV.out _ _ HQ.out).mono ?_; rintro e w2 ⟨rfl, hq⟩; have HQ := Lib.hid hq; clear hq)
                | (go_at_call 22; refine (HS2.out _ _ HQ.out).mono ?_; rintro e w6 ⟨rfl, hq⟩; have HQ := Lib.hid hq; clear hq)
                | (go_at_call 12; refine HQ.out.known.mono ?_; rintro e w7 ⟨rfl, hq⟩; have HQ := Lib.hid hq; clear hq))
              go_ret
              exact ⟨rfl, HQ.out.chg⟩
end Go.Proofs
end
section
namespace Go.Proofs.Ytncpeemghnmakaa.cspaceMoves
open Go.ChangeShapes Go.WideShapes Go.ChangeAt Go.RowKit
set_option linter.unusedVariables false

theorem own : ownKnob Try.prog.godebug = none := by kernel_rfl

set_option maxRecDepth 100000 in
theorem lifted (os : Os) (started : os.Started) (H : Type) (enc : TypeId × Value → H) :
    ReturnsInHanded {} Try.checked os 6 .any (Rows.cspaceMovesSpec.pre6 enc Try.prog Try.f6 Rows.cspaceMovesRow.domain false) (Rows.cspaceMovesSpec.post enc Try.prog Try.f6 false true false false) := by
  refine returnsInHanded_of_change (C := Try.checked) own started (by kernel_rfl) Try.func6
    (ChangeSpec.witness6 (enc := enc) (C := Try.checked) false ⟨#[], #[.int .i64 0, .int .i64 0, .int .i64 0, .slice none 0 0, .int .i64 0, .int .i64 0, .int .i64 0], []⟩ 8 (by kernel_rfl) (by kernel_rfl) (by kernel_rfl) (by kernel_rfl)) ?_
  intro W base args ds gs before hval0 hW hcnd _
  have hval : ∀ (j : Nat) t v, Try.f6.params[j]? = some t → args[j]? = some v → Value.okWide Try.prog W .any base t v := hval0
  have hW' := hW
  obtain ⟨p, q, hA0, hV, rfl, hfz, hnd⟩ := hW
  have hA : DataW.TrodAll enc Try.prog W 0 (fun _ => true) true Try.f6.params.toList args.toList ds p := hA0
  rw [Try.params6] at hA hval
  obtain ⟨v0, vs0, d0, ds0, p0, q0, hargs, rfl, rfl, h0, r0⟩ := trodAll_cons hA
  obtain ⟨v1, vs1, d1, ds1, p1, q1, rfl, rfl, rfl, h1, r1⟩ := trodAll_cons r0
  obtain ⟨v2, vs2, d2, ds2, p2, q2, rfl, rfl, rfl, h2, r2⟩ := trodAll_cons r1
  obtain ⟨v3, vs3, d3, ds3, p3, q3, rfl, rfl, rfl, h3, r3⟩ := trodAll_cons r2
  obtain ⟨v4, vs4, d4, ds4, p4, q4, rfl, rfl, rfl, h4, r4⟩ := trodAll_cons r3
  obtain ⟨v5, vs5, d5, ds5, p5, q5, rfl, rfl, rfl, h5, r5⟩ := trodAll_cons r4
  obtain ⟨v6, vs6, d6, ds6, p6, q6, rfl, rfl, rfl, h6, r6⟩ := trodAll_cons r5
  obtain ⟨rfl, rfl, rfl⟩ := trodAll_nil r6
  obtain rfl : args = #[v0, v1, v2, v3, v4, v5, v6] := by cases args; simp_all
  obtain ⟨rfl, rfl⟩ := trodVars_none hV
  obtain ⟨a0, rfl, rfl, rfl, w0⟩ := open_int Try.underlying3 (hval 0 3 v0 rfl rfl) h0
  obtain ⟨a1, rfl, rfl, rfl, w1⟩ := open_int Try.underlying3 (hval 1 3 v1 rfl rfl) h1
  obtain ⟨a2, rfl, rfl, rfl, w2⟩ := open_int Try.underlying3 (hval 2 3 v2 rfl rfl) h2
  obtain ⟨a4, rfl, rfl, rfl, w4⟩ := open_int Try.underlying3 (hval 4 3 v4 rfl rfl) h4
  obtain ⟨a5, rfl, rfl, rfl, w5⟩ := open_int Try.underlying3 (hval 5 3 v5 rfl rfl) h5
  obtain ⟨a6, rfl, rfl, rfl, w6⟩ := open_int Try.underlying3 (hval 6 3 v6 rfl rfl) h6
  clear hA0 hval0
  simp only [List.append_nil, List.nil_append] at hW'
  obtain ⟨b0, c0⟩ := bounds_i64 w0
  obtain ⟨b1, c1⟩ := bounds_i64 w1
  obtain ⟨b2, c2⟩ := bounds_i64 w2
  have hlt3 : ∀ x ∈ p3, x.block < W.heap.size := fun x hx => hW'.lt x (by simp [hx])
  obtain ⟨l3, hl3⟩ := open_acts (hval 3 22 v3 rfl rfl) h3
  obtain ⟨b4, c4⟩ := bounds_i64 w4
  obtain ⟨b5, c5⟩ := bounds_i64 w5
  obtain ⟨b6, c6⟩ := bounds_i64 w6
  refine (moves_any _ _ _ _ _ _ _ _ W hl3).mono fun e W' ⟨he, hc⟩ => ?_
  have hg := hc.to_below
  subst he
  exact ⟨_, rfl, post_of_below (pa := ([] ++ ([] ++ ([] ++ (p3 ++ ([] ++ ([] ++ ([] ++ [])))))))) (pv := []) hW' (fun _ _ _ => (trodAll_cons_mk (shut_bool Try.underlying4 _) trodAll_mk0)) (fun sp hsp => (trodAll_cons_mk (shut_int Try.underlying3 w0) (trodAll_cons_mk (shut_int Try.underlying3 w1) (trodAll_cons_mk (shut_int Try.underlying3 w2) (trodAll_cons_mk (WideElems.Trod_stays Try.laidOut (by kernel_rfl) (of_decide_eq_true (by kernel_rfl)) h3 (fun x hx => hg.same (hlt3 x hx)) (fun x hx => hsp x (by simp [hx]))) (trodAll_cons_mk (shut_int Try.underlying3 w4) (trodAll_cons_mk (shut_int Try.underlying3 w5) (trodAll_cons_mk (shut_int Try.underlying3 w6) trodAll_mk0)))))))) (fun _ _ => rfl) (by simp)
    hg (ok_one (by kernel_rfl) rfl (okWide_bool_mk Try.underlying4 _))⟩

theorem over : Rows.cspaceMovesRow.holds Try.pinned (OpenSpec.ofChange Rows.cspaceMovesSpec) :=
  OpenClaim.holds_of_wide 6 Try.f6 rfl rfl rfl rfl rfl rfl rfl ⟨rfl, rfl, rfl, rfl, rfl⟩ rfl rfl rfl rfl rfl (by kernel_rfl) Try.func6 (by kernel_rfl)
    (of_decide_eq_true (by kernel_rfl)) (by unfold Func.isWrapper; first | (rw [if_pos (by decide +kernel)]; kernel_rfl) | (rw [if_neg (by decide +kernel)]; exact ⟨rfl, rfl⟩))
    (fun os started H enc _ => lifted os started H enc)

/-- ████ THE STATEMENT ████ -/
theorem proved : Rows.CspaceMovesSaid :=
  over
#print axioms proved
end Go.Proofs.Ytncpeemghnmakaa.cspaceMoves
end
