/-
  Proved: of any three numbers and any acts, behind these acts the rights of each capability of the space are among those of each one above it. No conditions.
-/
import Derived.Test.YtncpeemghnmakaaM12
import Derived.Test.YtncpeemghnmakaaRows
import Derived.WalkKit
import Derived.Below
import Derived.ChangeSame
import Derived.ProofKit
import Derived.OpenShut
section
namespace Go.Proofs
open Go.RowKit
set_option linter.unusedVariables false
set_option linter.unusedSimpArgs false

/-! ### Rights narrow upwards, plainly -/
section
variable {s : Sp}
theorem Sp.mem_caps {g : Int} {x : Hl} (h : x ∈ s.caps g) : ∃ n, s.f ⟨g, x.slot⟩ = some n ∧ x.cap = (s.hd n).cap := by
  have key : ∀ k, x ∈ s.capsTo g k → ∃ n, s.f ⟨g, x.slot⟩ = some n ∧ x.cap = (s.hd n).cap := by
    intro k
    induction k with
    | zero => intro h; cases h
    | succ k ih =>
      intro h
      rcases List.mem_append.1 h with h | h
      · exact ih h
      · unfold Sp.held at h
        cases hf : s.f ⟨g, (k : Nat)⟩ with
        | none => rw [hf] at h; cases h
        | some n =>
          rw [hf] at h
          simp only [List.mem_singleton] at h
          subst h
          exact ⟨n, hf, rfl⟩
  exact key _ h
theorem Anc.rights (hw : s.WF) (ht : s.t.WF) {a n : Nat} (h : Anc s.t a n) : amongP (s.hd n).cap.rts (s.hd a).cap.rts = true := by
  have bd := fun j (hj : s.t.there j = true) => (hw.at_ j hj).2.2.2.2.2.2
  induction h with
  | kid hk => obtain ⟨h1, h2, h3⟩ := ht.kid hk; exact hw.amg _ _ h1 h2
  | step hk h2 ih =>
    obtain ⟨q1, q2, q3⟩ := ht.kid hk
    exact amongP_trans (bd _ q1) (bd _ q3) (bd _ (h2.there ht).1) (hw.amg _ _ q1 q2) ih
/-- Where the parent is of one that is n, or above it. -/
theorem Sp.up (hw : s.WF) (ht : s.t.WF) {p : Pt} {q n : Nat} (hf : s.f p = some q) (hq : q = n ∨ Anc s.t q n) : (s.parAt p).isSome = true → ∃ k, s.f ⟨(ptO (s.parAt p)).g, (ptO (s.parAt p)).s⟩ = some k ∧ Anc s.t k n := by
  intro h
  have hqt := (hw.back p q hf).1
  unfold Sp.parAt at h ⊢
  rw [hf] at h ⊢
  simp only at h ⊢
  cases hp : s.t.par q with
  | none => rw [hp] at h; cases h
  | some k =>
    simp only
    have hk := ht.up hqt hp
    have hkid : q ∈ s.t.kids k := by have := ht.mem q hqt; rw [hp] at this; exact this
    refine ⟨k, (hw.at_ k hk).2.1, ?_⟩
    rcases hq with rfl | ha
    · exact .kid hkid
    · exact (Anc.kid hkid).trans ha
end
end Go.Proofs
end
section
namespace Go.Proofs
open Go.RowKit
set_option linter.unusedVariables false
set_option linter.unusedSimpArgs false
attribute [local go_sem] eql_ptr_nil neq_ptr_nil eql_nil_nil
set_option maxHeartbeats 12800000 in
set_option maxRecDepth 100000 in
theorem narrows_any (n1 n2 n3 : Int) (V : Value) (acts : List ActC) (w : World) (hV : Acts w V acts) :
    Calls Try.prog 4 #[.int .i64 n1, .int .i64 n2, .int .i64 n3, V] w fun e w' => e = .returned (.bool true) ∧ Chg [] w w' := by
  have HK := Lib.hid known_any
  obtain ⟨A2, c2, rfl⟩ := hV.open_
  obtain ⟨m, hm⟩ : ∃ m, m = acts.length := ⟨_, rfl⟩
  rw [← hm] at hV ⊢
  have HV := Lib.hid hV
  clear hV hm
  have HS := Lib.hid (small_any n1 n2 n3)
  cases hb : mayG n1 n2 n3 with
  | false =>
    have hsm : smallG n1 n2 n3 = false := by unfold smallG; rw [hb]; rfl
    rw [hsm] at HS
    have HB := Lib.hid (begin_no hb w)
    clear hb hsm
    go_enter Try.func4, Try.ntmps4
    go_wp2_with (first
      | (go_at_call 9; refine HB.out.mono ?_; rintro e w' ⟨rfl, rfl⟩)
      | (go_at_call 13; refine (HS.out _).mono ?_; rintro e w' ⟨rfl, rfl⟩)
      | (go_at_call 12; refine (HK.out _).mono ?_; rintro e w2 ⟨rfl, hc⟩; have HC := Lib.hid hc; clear hc))
    go_ret
    exact ⟨rfl, HC.out⟩
  | true =>
    obtain ⟨x, y, z, rfl, rfl, rfl, hx, hy, hz⟩ := mayG_nat hb
    have HB := Lib.hid (mid_begun hx hy hz w)
    obtain ⟨sm, hsm⟩ : ∃ b, b = smallG x y z := ⟨_, rfl⟩
    rw [← hsm] at HS
    clear hb hsm
    cases sm with
    | false =>
      go_enter Try.func4, Try.ntmps4
      go_wp2_with (first
        | (go_at_call 9; refine HB.out.mono ?_; rintro e w1 ⟨a, b, rfl, hM⟩; have HQ := Lib.hid hM; clear hM)
        | (go_at_call 13; refine (HS.out _).mono ?_; rintro e w' ⟨rfl, rfl⟩)
        | (go_at_call 12; refine HQ.out.known.mono ?_; rintro e w2 ⟨rfl, hq⟩; have HQ := Lib.hid hq; clear hq))
      go_ret
      exact ⟨rfl, HQ.out.chg⟩
    | true =>
      by_cases hmx : (120 : Int) < (m : Int)
      · have d1 : decide ((m : Int) > 120) = true := decide_eq_true hmx
        have d1' : decide ((120 : Int) < (m : Int)) = true := decide_eq_true hmx
        go_enter Try.func4, Try.ntmps4
        go_wp2_with (first
          | (go_at_call 9; refine HB.out.mono ?_; rintro e w1 ⟨a, b, rfl, hM⟩; have HQ := Lib.hid hM; clear hM)
          | (go_at_call 13; refine (HS.out _).mono ?_; rintro e w' ⟨rfl, rfl⟩)
          | (go_at_call 12; refine HQ.out.known.mono ?_; rintro e w2 ⟨rfl, hq⟩; have HQ := Lib.hid hq; clear hq))
        go_ret
        exact ⟨rfl, HQ.out.chg⟩
      · have d1 : decide ((m : Int) > 120) = false := decide_eq_false hmx
        have d1' : decide ((120 : Int) < (m : Int)) = false := decide_eq_false hmx
        have hm2 : m ≤ 120 := by omega
        go_enter Try.func4, Try.ntmps4
        go_wp2_with (first
          | (go_at_call 9; refine HB.out.mono ?_; rintro e w1 ⟨a, b, rfl, hM⟩; have HQ := Lib.hid hM; clear hM)
          | (go_at_call 13; refine (HS.out _).mono ?_; rintro e w' ⟨rfl, rfl⟩))
        go_loopg [11] m (fun gh iv wr => ∃ j : Nat, j + gh = m ∧ iv = .int .i64 j ∧ Hid (MidX w wr a b x y j))
        case atStart => exact ⟨0, by omega, rfl, HQ⟩
        case round =>
          obtain ⟨j, hj, rfl, HMI⟩ := hrel
          by_cases hlt : j < m
          · have j0 : (0 : Int) ≤ (j : Int) := by omega
            have j1 : (j : Int) < (m : Int) := by omega
            obtain ⟨bI, oI, xa, hA, hfit, hcells⟩ := HV.out.at_ hlt
            subst hA
            obtain ⟨z0, z1, z2, z3, z4, z5, z6, z7, z8, z9⟩ := hcells wr HMI.out.chg
            have HDO := Lib.hid (HMI.out.do (by omega) hfit)
            obtain ⟨kd, g, sl, tg, td, ⟨ck, ci, cg, cr⟩⟩ := xa
            simp only at z1 z2 z3 z4 z5 z6 z7 z8 z9
            clear HV hcells hfit
            go_wp2_with (first
              | (go_at_call 14; refine HDO.out.mono ?_; rintro e w4 ⟨rfl, hM'⟩; have HM' := Lib.hid hM'; clear hM'))
            go_roundg (m - j - 1)
            case measure => omega
            case rel => exact ⟨j + 1, by omega, by go_num, HM'⟩
          · have d1 : decide ((j : Int) < (m : Int)) = false := by simp; omega
            obtain ⟨s, r, ⟨S, T, hsp, hrf, hfS, hfT, hch, hbo⟩, hsx, hsy⟩ := HMI.out
            have HP := Lib.hid (fun W (hc : Chg [] wr W) (p : Pt) (hp : p.ok) => tparent_any (hsp.quiet hc) hp)
            have HG := Lib.hid (fun W (hc : Chg [] wr W) (p : Pt) => get_any (hsp.quiet hc) p)
            have HCAP := Lib.hid (fun W (hc : Chg [] wr W) (g : Nat) (hg : g ≤ 64) => caps_any (hsp.quiet hc) (g := (g : Int)) (I64.nat (by omega)))
            have HCL := Lib.hid (fun (g : Nat) => (Nat.le_trans (s.capsTo_len (g : Int) s.slots) hbo.wf.slots.2 : (s.caps (g : Int)).length ≤ 32))
            have HWF := Lib.hid hbo.wf
            have HTW := Lib.hid hbo.twf
            have HCH := Lib.hid hch
            clear hsp hrf hfS hfT hch hbo hsx hsy HMI HQ HB HS HV
            go_wp2
            go_loopg [12] x (fun gh i wq => ∃ g : Nat, g + gh = x ∧ i = .int .i64 g ∧ Hid (Chg [] wr wq))
            case atStart => exact ⟨0, by omega, rfl, Lib.hid (Chg.refl _ _)⟩
            case round =>
              obtain ⟨g, hg, rfl, HI⟩ := hrel
              by_cases hgx : g < x
              · have g1 : (g : Int) < (x : Int) := by omega
                have HA := Lib.hid (HCAP.out _ HI.out g (by omega))
                have HL := Lib.hid (HCL.out g)
                have HM := Lib.hid (fun y (hy : y ∈ s.caps (g : Int)) => Sp.mem_caps hy)
                obtain ⟨l, hl⟩ : ∃ l, l = s.caps (g : Int) := ⟨_, rfl⟩
                rw [← hl] at HA HL HM
                clear hl
                go_wp2_with (go_at_call 16; refine HA.out.mono ?_; rintro e w1 ⟨A1, cc1, rfl, hf⟩; have HF := Lib.hid hf; clear hf)
                obtain ⟨N, hN⟩ : ∃ N, N = l.length := ⟨_, rfl⟩
                have HN := Lib.hid hN
                rw [← hN] at HF HL ⊢
                clear hN
                go_loopg [14] N (fun gh i wp => ∃ k : Nat, k + gh = N ∧ i = .int .i64 k ∧ Hid (Chg [] w1 wp))
                case atStart => exact ⟨0, by omega, rfl, Lib.hid (Chg.refl _ _)⟩
                case round =>
                  obtain ⟨k, hk, rfl, HI2⟩ := hrel
                  have hN32 := HL.out
                  have hcw := (HI.out.then HF.out.2.2).then HI2.out
                  by_cases hkN : k < N
                  · obtain ⟨y, hy⟩ : ∃ y, l[k]? = some y := ⟨_, List.getElem?_eq_getElem (by rw [← HN.out]; exact hkN)⟩
                    obtain ⟨gb, cap, hv, hft, _, hcell, _, hbl⟩ := (show Row w1 49 5 (.slice A1 N cc1) N (hlCells l) from by have h9 := HF.out.1; rw [← HN.out] at h9; exact h9).form (by omega)
                    injection hv with hv1 _ hv3
                    subst hv1 hv3
                    obtain ⟨x0, x1, x2, x3, x4⟩ := hlCells_at l k y hy
                    have hyc : ∀ W, Chg [] w1 W → gb < W.heap.size ∧ W.cell? ⟨gb, k * 5, none⟩ = some (.int .i64 y.slot) ∧ W.cell? ⟨gb, k * 5 + 4, none⟩ = some (.int .u8 (y.cap.rts : Nat)) := fun W hW => ⟨Nat.lt_of_lt_of_le hbl hW.size, (hW.cell (p := ⟨gb, k * 5, none⟩) hbl (by simp)).trans (hcell _ _ x0), (hW.cell (p := ⟨gb, k * 5 + 4, none⟩) hbl (by simp)).trans (hcell _ _ x4)⟩
                    have HYC := Lib.hid hyc
                    obtain ⟨nd, hnf, hncap⟩ := HM.out y (List.mem_of_getElem? hy)
                    have hpok : Pt.ok ⟨(g : Int), y.slot⟩ := Sp.slot_ok HWF.out.gs.2 HWF.out.slots.2 (HWF.out.slot_of hnf)
                    have HPA := Lib.hid (HP.out _ hcw ⟨(g : Int), y.slot⟩ hpok)
                    have HUP := Lib.hid (Sp.up HWF.out HTW.out hnf (.inl rfl))
                    have HNT := Lib.hid (HWF.out.back _ nd hnf).1
                    obtain ⟨⟨pg, ps⟩, hpp⟩ : ∃ p, p = ptO (s.parAt ⟨(g : Int), y.slot⟩) := ⟨_, rfl⟩
                    obtain ⟨pb, hpb⟩ : ∃ p, p = (s.parAt ⟨(g : Int), y.slot⟩).isSome := ⟨_, rfl⟩
                    rw [← hpp, ← hpb] at HPA HUP
                    obtain ⟨lgb, z0, z4⟩ := hyc _ HI2.out
                    have HCW := Lib.hid hcw
                    obtain ⟨ys, ⟨yk, yx, ye, yr⟩⟩ := y
                    simp only at z0 z4 HYC
                    have HYR := Lib.hid (show yr = (s.hd nd).cap.rts from congrArg Cp.rts hncap)
                    have k0 : (0 : Int) ≤ (k : Int) := by omega
                    have k1 : (k : Int) < (N : Int) := by omega
                    clear hcell x0 x1 x2 x3 x4 hyc hnf hncap hpok hpp hpb hcw hy hft
                    go_wp2_with (go_at_call 17; refine HPA.out.mono ?_; rintro e w2 ⟨rfl, hc⟩; have HC2 := Lib.hid hc; clear hc)
                    go_loopg [15, 16, 17, 18] 600 (fun gh pg ps pb n wv => ∃ (j : Nat) (P Q : Int) (B : Bool), j + gh = 600 ∧ pg = .int .i64 P ∧ ps = .int .i64 Q ∧ pb = .bool B ∧ n = .int .i64 j ∧ Hid (Chg [] w2 wv ∧ (B = true → ∃ q, s.f ⟨P, Q⟩ = some q ∧ Anc s.t q nd)))
                    case atStart => exact ⟨0, pg, ps, pb, by omega, rfl, rfl, rfl, rfl, Lib.hid ⟨Chg.refl _ _, HUP.out⟩⟩
                    case round =>
                      obtain ⟨j, P, Q, B, hj, rfl, rfl, rfl, rfl, HI4⟩ := hrel
                      have hc9 := (HCW.out.then HC2.out).then HI4.out.1
                      have hc8 := (HI2.out.then HC2.out).then HI4.out.1
                      by_cases hj600 : j < 600
                      · have j0 : (j : Int) < 600 := by omega
                        cases B with
                        | true =>
                          obtain ⟨q, hqf, hqa⟩ := HI4.out.2 rfl
                          have hGT := HG.out _ hc9 ⟨P, Q⟩
                          have hfull : s.fullE ⟨P, Q⟩ = 0 := Sp.full_some (HWF.out.slot_of hqf) hqf
                          have hca : s.capAt ⟨P, Q⟩ = (s.hd q).cap := by unfold Sp.capAt; rw [hqf]
                          rw [hfull, hca] at hGT
                          have hrq : (s.hd q).cap.rts < 256 := (HWF.out.at_ q (HWF.out.back _ q hqf).1).2.2.2.2.2.2
                          have hrn : (s.hd nd).cap.rts < 256 := (HWF.out.at_ nd HNT.out).2.2.2.2.2.2
                          have ham := hqa.rights HWF.out HTW.out
                          rw [← HYR.out] at ham hrn
                          obtain ⟨⟨qk, qi, qg, qr⟩, hqc⟩ : ∃ c, c = (s.hd q).cap := ⟨_, rfl⟩
                          rw [← hqc] at hGT hrq ham
                          simp only at hrq ham
                          have HAM := fun W => ramong_any hrn hrq W
                          rw [ham] at HAM
                          have hqok : Pt.ok ⟨P, Q⟩ := Sp.slot_ok HWF.out.gs.2 HWF.out.slots.2 (HWF.out.slot_of hqf)
                          have HUP2 := Lib.hid (Sp.up HWF.out HTW.out hqf (.inr hqa))
                          have HPA2 := Lib.hid (fun W hW => HP.out W hW ⟨P, Q⟩ hqok)
                          obtain ⟨⟨P2, Q2⟩, hpp⟩ : ∃ p, p = ptO (s.parAt ⟨P, Q⟩) := ⟨_, rfl⟩
                          obtain ⟨B2, hpb⟩ : ∃ p, p = (s.parAt ⟨P, Q⟩).isSome := ⟨_, rfl⟩
                          rw [← hpp, ← hpb] at HPA2 HUP2
                          have HGT := Lib.hid hGT
                          have HC9 := Lib.hid hc9
                          have HC8 := Lib.hid hc8
                          have HI5 := Lib.hid HI4.out.1
                          clear hqf hqa hGT hfull hca ham hqc hqok hpp hpb hc9 hc8 hrq hrn HI4
                          go_wp2_with (go_at_call 18; refine HGT.out.mono ?_; rintro e w5 ⟨rfl, hc⟩; obtain ⟨lgb, z0, z4⟩ := HYC.out _ ((HC8.out.then hc).alloc (.cells #[.int .i64 qk, .int .i64 qi, .int .u64 qg, .int .u8 (qr : Nat)] 39)); have HC5 := Lib.hid ((HC9.out.then hc).alloc (.cells #[.int .i64 qk, .int .i64 qi, .int .u64 qg, .int .u8 (qr : Nat)] 39)); have HI6 := Lib.hid ((HI5.out.then hc).alloc (.cells #[.int .i64 qk, .int .i64 qi, .int .u64 qg, .int .u8 (qr : Nat)] 39)); clear hc)
                          go_quiet ((go_at_call 19; exact Calls.quiet_of_same (HAM _)))
                          go_wp2_with (go_at_call 17; refine (HPA2.out _ (HC5.out.drewN _)).mono ?_; rintro e w6 ⟨rfl, hc⟩; have HI7 := Lib.hid ((HI6.out.drewN _).then hc); clear hc)
                          go_roundg (600 - j - 1)
                          case measure => omega
                          case rel => exact ⟨j + 1, P2, Q2, B2, by omega, rfl, rfl, rfl, by go_num, Lib.hid ⟨HI7.out, HUP2.out⟩⟩
                        | false =>
                          have HI7 := Lib.hid ((HI2.out.then HC2.out).then HI4.out.1)
                          go_wp2
                          go_roundg (N - k - 1)
                          case measure => omega
                          case rel => exact ⟨k + 1, by omega, by go_num, HI7⟩
                      · have j0 : ¬ ((j : Int) < 600) := by omega
                        have HI7 := Lib.hid ((HI2.out.then HC2.out).then HI4.out.1)
                        go_wp2
                        go_roundg (N - k - 1)
                        case measure => omega
                        case rel => exact ⟨k + 1, by omega, by go_num, HI7⟩
                  · obtain rfl : k = N := by omega
                    have HI7 := Lib.hid hcw
                    go_wp2
                    go_roundg (x - g - 1)
                    case measure => omega
                    case rel => exact ⟨g + 1, by omega, by go_num, HI7⟩
              · have g1 : ¬ ((g : Int) < (x : Int)) := by omega
                go_wp2_with (go_at_call 12; refine (HK.out _).mono ?_; rintro e w2 ⟨rfl, hc⟩)
                go_ret
                exact ⟨rfl, (HCH.out.then HI.out).then hc⟩
end Go.Proofs
end
section
namespace Go.Proofs.Ytncpeemghnmakaa.cspaceNarrows
open Go.ChangeShapes Go.WideShapes Go.ChangeAt Go.RowKit
set_option linter.unusedVariables false

theorem own : ownKnob Try.prog.godebug = none := by kernel_rfl

set_option maxRecDepth 100000 in
theorem lifted (os : Os) (started : os.Started) (H : Type) (enc : TypeId × Value → H) :
    ReturnsInHanded {} Try.checked os 4 .any (Rows.cspaceNarrowsSpec.pre6 enc Try.prog Try.f4 Rows.cspaceNarrowsRow.domain false) (Rows.cspaceNarrowsSpec.post enc Try.prog Try.f4 false true false false) := by
  refine returnsInHanded_of_change (C := Try.checked) own started (by kernel_rfl) Try.func4
    (ChangeSpec.witness6 (enc := enc) (C := Try.checked) false ⟨#[], #[.int .i64 0, .int .i64 0, .int .i64 0, .slice none 0 0], []⟩ 8 (by kernel_rfl) (by kernel_rfl) (by kernel_rfl) (by kernel_rfl)) ?_
  intro W base args ds gs before hval0 hW hcnd _
  have hval : ∀ (j : Nat) t v, Try.f4.params[j]? = some t → args[j]? = some v → Value.okWide Try.prog W .any base t v := hval0
  have hW' := hW
  obtain ⟨p, q, hA0, hV, rfl, hfz, hnd⟩ := hW
  have hA : DataW.TrodAll enc Try.prog W 0 (fun _ => true) true Try.f4.params.toList args.toList ds p := hA0
  rw [Try.params4] at hA hval
  obtain ⟨v0, vs0, d0, ds0, p0, q0, hargs, rfl, rfl, h0, r0⟩ := trodAll_cons hA
  obtain ⟨v1, vs1, d1, ds1, p1, q1, rfl, rfl, rfl, h1, r1⟩ := trodAll_cons r0
  obtain ⟨v2, vs2, d2, ds2, p2, q2, rfl, rfl, rfl, h2, r2⟩ := trodAll_cons r1
  obtain ⟨v3, vs3, d3, ds3, p3, q3, rfl, rfl, rfl, h3, r3⟩ := trodAll_cons r2
  obtain ⟨rfl, rfl, rfl⟩ := trodAll_nil r3
  obtain rfl : args = #[v0, v1, v2, v3] := by cases args; simp_all
  obtain ⟨rfl, rfl⟩ := trodVars_none hV
  obtain ⟨a0, rfl, rfl, rfl, w0⟩ := open_int Try.underlying3 (hval 0 3 v0 rfl rfl) h0
  obtain ⟨a1, rfl, rfl, rfl, w1⟩ := open_int Try.underlying3 (hval 1 3 v1 rfl rfl) h1
  obtain ⟨a2, rfl, rfl, rfl, w2⟩ := open_int Try.underlying3 (hval 2 3 v2 rfl rfl) h2
  clear hA0 hval0
  simp only [List.append_nil, List.nil_append] at hW'
  obtain ⟨b0, c0⟩ := bounds_i64 w0
  obtain ⟨b1, c1⟩ := bounds_i64 w1
  obtain ⟨b2, c2⟩ := bounds_i64 w2
  have hlt3 : ∀ x ∈ p3, x.block < W.heap.size := fun x hx => hW'.lt x (by simp [hx])
  obtain ⟨l3, hl3⟩ := open_acts (hval 3 22 v3 rfl rfl) h3
  refine (narrows_any _ _ _ _ _ W hl3).mono fun e W' ⟨he, hc⟩ => ?_
  have hg := hc.to_below
  subst he
  exact ⟨_, rfl, post_of_below (pa := ([] ++ ([] ++ ([] ++ (p3 ++ []))))) (pv := []) hW' (fun _ _ _ => (trodAll_cons_mk (shut_bool Try.underlying4 _) trodAll_mk0)) (fun sp hsp => (trodAll_cons_mk (shut_int Try.underlying3 w0) (trodAll_cons_mk (shut_int Try.underlying3 w1) (trodAll_cons_mk (shut_int Try.underlying3 w2) (trodAll_cons_mk (WideElems.Trod_stays Try.laidOut (by kernel_rfl) (of_decide_eq_true (by kernel_rfl)) h3 (fun x hx => hg.same (hlt3 x hx)) (fun x hx => hsp x (by simp [hx]))) trodAll_mk0))))) (fun _ _ => rfl) (by simp)
    hg (ok_one (by kernel_rfl) rfl (okWide_bool_mk Try.underlying4 _))⟩

theorem over : Rows.cspaceNarrowsRow.holds Try.pinned (OpenSpec.ofChange Rows.cspaceNarrowsSpec) :=
  OpenClaim.holds_of_wide 4 Try.f4 rfl rfl rfl rfl rfl rfl rfl ⟨rfl, rfl, rfl, rfl, rfl⟩ rfl rfl rfl rfl rfl (by kernel_rfl) Try.func4 (by kernel_rfl)
    (of_decide_eq_true (by kernel_rfl)) (by unfold Func.isWrapper; first | (rw [if_pos (by decide +kernel)]; kernel_rfl) | (rw [if_neg (by decide +kernel)]; exact ⟨rfl, rfl⟩))
    (fun os started H enc _ => lifted os started H enc)

/-- ████ THE STATEMENT ████ -/
theorem proved : Rows.CspaceNarrowsSaid :=
  over
#print axioms proved
end Go.Proofs.Ytncpeemghnmakaa.cspaceNarrows
end
