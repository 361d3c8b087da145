/-
  Behind Drop just that node is gone, and who was under whom of all others is so still (stage 12).
-/
import Derived.Test.YthgdkaldnaeijaaM9
import Derived.Deep.RegionWith
import Derived.Test.YthgdkaldnaeijaaRows
import Derived.WalkKit
import Derived.Below
import Derived.ChangeSame
import Derived.Test.YthgdkaldnaeijaaM8
import Derived.ProofKit
import Derived.OpenShut
section
namespace Go.Proofs
open Go.RowKit
set_option linter.unusedVariables false
set_option linter.unusedSimpArgs false

theorem eql_ptr_nilD (o : Nat) (w : World) : (binOp .eql 25 (ptr o) (.pointer none)).run Try.prog w = .ok (.bool false) w := by kernel_rfl
attribute [local go_sem] eql_ptr_nilD
theorem dropped_has {u : Fo} {n : Nat} {k : Nat} {b : Bool} (hb : decide (k = n) = b) : (u.drop n).has ((k : Nat) : Int) = (u.there k && !b) := by
  rw [Fo.has_nat, Fo.drop_there]
  unfold upd
  by_cases h : k = n
  · rw [if_pos h]; simp [h] at hb; simp [← hb]
  · rw [if_neg h]; simp [h] at hb; simp [hb]
theorem dropped_under {u : Fo} (hw : u.WF) {n i k : Nat} (hn : u.there n = true) {b : Bool} (hb : b = true ↔ u.under ((i : Nat) : Int) ((k : Nat) : Int)) (hi : i ≠ n) (hk : k ≠ n) : b = true ↔ (u.drop n).under ((i : Nat) : Int) ((k : Nat) : Int) := by
  rw [hb]
  unfold Fo.under
  simp
  exact (Anc.drop hw hn hk hi).symm
theorem dropped_apart {u : Fo} (hw : u.WF) {n i k : Nat} (hn : u.there n = true) (h : i = n ∨ k = n) : ¬ (u.drop n).under ((i : Nat) : Int) ((k : Nat) : Int) := by
  unfold Fo.under
  simp
  intro ha
  have ht := ha.there (hw.drop hn)
  rw [Fo.drop_there] at ht
  rcases h with rfl | rfl
  · rw [upd_same] at ht; simp at ht
  · rw [upd_same] at ht; simp at ht
theorem dropped_underB {u : Fo} (hw : u.WF) {n i k : Nat} (hn : u.there n = true) {b c v : Bool} (hb : decide (i = n) = b) (hc : decide (k = n) = c) (hv : v = true ↔ u.under ((i : Nat) : Int) ((k : Nat) : Int)) : (!b && (!c && v)) = true ↔ (u.drop n).under ((i : Nat) : Int) ((k : Nat) : Int) := by
  by_cases h1 : i = n
  · have : b = true := by rw [← hb]; simp [h1]
    subst this
    exact ⟨fun h => by simp at h, fun h => (dropped_apart hw hn (.inl h1) h).elim⟩
  · by_cases h2 : k = n
    · have : c = true := by rw [← hc]; simp [h2]
      subst this
      exact ⟨fun h => by simp at h, fun h => (dropped_apart hw hn (.inr h2) h).elim⟩
    · have e1 : b = false := by rw [← hb]; simp [h1]
      have e2 : c = false := by rw [← hc]; simp [h2]
      subst e1; subst e2
      rw [← dropped_under hw hn hv h1 h2]
      simp
end Go.Proofs
end
section
namespace Go.Proofs
open Go.RowKit
set_option linter.unusedVariables false
set_option linter.unusedSimpArgs false
attribute [local go_sem] eql_ptr_nilD

set_option maxHeartbeats 25600000 in
set_option maxRecDepth 100000 in
theorem drops_any (n : Int) (V : Value) (acts : List ActT) (x : Int) (hx0 : -9223372036854775808 ≤ x) (hx1 : x ≤ 9223372036854775807) (w : World) (hV : ActsT w V acts) :
    Calls Try.prog 5 #[.int .i64 n, V, .int .i64 x] w fun e w' => e = .returned (.bool true) ∧ Chg [] w w' := by
  have HK := Lib.hid known_any
  obtain ⟨A2, c2, rfl⟩ := hV.open_
  obtain ⟨m, hm⟩ : ∃ m, m = acts.length := ⟨_, rfl⟩
  rw [← hm] at hV ⊢
  have HV := Lib.hid hV
  clear hV hm
  have HM := Lib.hid (much_any n 80 A2 m c2)
  obtain ⟨b, hb⟩ : ∃ b, b = muchB n m 80 := ⟨_, rfl⟩
  rw [← hb] at HM
  cases b with
  | true =>
    clear hb
    go_enter Try.func5, Try.ntmps5
    go_wp2_with (first
      | (go_at_call 9; refine (HM.out _).mono ?_; rintro e w1 ⟨rfl, hc⟩; have HC := Lib.hid hc; clear hc)
      | (go_at_call 10; refine (HK.out _).mono ?_; rintro e w2 ⟨rfl, hc⟩))
    go_ret
    exact ⟨rfl, HC.out.then hc⟩
  | false =>
    obtain ⟨n1, n2, hm80⟩ := muchB_false hb.symm
    obtain ⟨s, rfl⟩ : ∃ s : Nat, n = s := ⟨n.toNat, by omega⟩
    clear hb
    have HN := Lib.hid (new_any s (by omega) (by omega))
    have HR := Lib.hid (rnew_any s (by omega) (by omega))
    have hs1 : 1 ≤ s := by omega
    have hs2 : s ≤ 4096 := by omega
    go_enter Try.func5, Try.ntmps5
    go_wp2_with (first
      | (go_at_call 9; refine (HM.out _).mono ?_; rintro e w1 ⟨rfl, hc⟩; have HC := Lib.hid hc; clear hc)
      | (go_at_call 11; refine (HN.out _).mono ?_; rintro e w2 ⟨rfl, hT, hc⟩; have HTR := Lib.hid hT; have hfs := HC.out.size; have HC := Lib.hid (HC.out.then hc); clear hc hT)
      | (go_at_call 12; refine (HR.out _).mono ?_; rintro e w3 ⟨d, T, rfl, hR, hTn, hc⟩; have HMID := Lib.hid (mid_new hs1 hs2 HC.out HTR.out hfs hR hTn hc); clear hR hTn hc hfs HTR HC))
    obtain ⟨f, hf⟩ : ∃ f, f = w1.heap.size := ⟨_, rfl⟩
    rw [← hf] at HMID ⊢
    clear hf
    go_loopg [10] m (fun gh iv wr => ∃ (j : Nat) (t : Fo), j + gh = m ∧ iv = .int .i64 j ∧ Hid (Mid w wr f d t j))
    case atStart => exact ⟨0, _, by omega, rfl, HMID⟩
    case round =>
      obtain ⟨j, t, hj, rfl, HMI⟩ := hrel
      by_cases hlt : j < m
      · have j0 : (0 : Int) ≤ (j : Int) := by omega
        have j1 : (j : Int) < (m : Int) := by omega
        obtain ⟨bI, oI, kd, nn, hA, hcells⟩ := HV.out.at_ hlt
        subst hA
        obtain ⟨z0, z1, z2⟩ := hcells wr HMI.out.chg
        have HDO := Lib.hid (HMI.out.do (by omega) kd nn)
        have d1 : decide ((j : Int) < (m : Int)) = true := by simpa using j1
        clear HV hcells
        go_wp2_with (go_at_call 13; refine HDO.out.mono ?_; rintro e w4 ⟨rfl, t', hM'⟩; have HM' := Lib.hid hM'; clear hM')
        go_roundg (m - j - 1)
        case measure => omega
        case rel => exact ⟨j + 1, t', by omega, by go_num, HM'⟩
      · have d1 : decide ((j : Int) < (m : Int)) = false := by simp; omega
        clear HMID HV HN HR HM
        have HCP := Lib.hid HMI.out.copy
        cases hx : t.has x with
        | false =>
          have HDR := Lib.hid (fun W o (hq : Was w W f o d t t) => show Calls Try.prog 26 #[ptr f, .int .i64 x] W (fun e W' => e = .returned (.int .i64 4) ∧ Was w W' f o d t t) from by
            have := hq.drop x
            unfold Fo.noE Fo.dropI at this
            rw [hx, if_neg (by simp), if_neg (by simp)] at this
            exact this)
          have HSM := Lib.hid (fun W o (hq : Was w W f o d t t) => hq.same (b := true) ⟨fun _ => Alike.refl t, fun _ => rfl⟩)
          have HDH := Lib.hid (fun W o (hq : Was w W f o d t t) => hq.dhas hx)
          clear HMI
          go_wp2_with (first
            | (go_at_call 15; refine HCP.out.mono ?_; rintro e w5 ⟨o, rfl, hq⟩; have HQ := Lib.hid hq; clear hq)
            | (go_at_call 26; refine (HDR.out _ _ HQ.out).mono ?_; rintro e w6 ⟨rfl, hq⟩; have HQ := Lib.hid hq; clear hq)
            | (go_at_call 17; refine (HDH.out _ _ HQ.out).mono ?_; rintro e w7 ⟨rfl, hq⟩; have HQ := Lib.hid hq; clear hq)
            | (go_at_call 18; refine (HSM.out _ _ HQ.out).mono ?_; rintro e w8 ⟨rfl, hq⟩; have HQ := Lib.hid hq; clear hq)
            | (go_at_call 10; refine HQ.out.known.mono ?_; rintro e w9 ⟨rfl, hq⟩))
          go_ret
          exact ⟨rfl, hq.chg⟩
        | true =>
          obtain ⟨q, rfl⟩ : ∃ q : Nat, x = q := ⟨x.toNat, by
            by_cases h0 : 0 ≤ x
            · omega
            · rw [Fo.has_neg _ (by omega)] at hx; cases hx⟩
          have hq0 : t.there q = true := by rw [← Fo.has_nat]; exact hx
          have hwf : t.WF := by obtain ⟨S, T, K, ⟨c, r, a1, a2, a3, a4, a5⟩, h2, h3, h4, h5⟩ := HMI.out; exact a2.wf
          have hbig : t.size ≤ 4096 := by obtain ⟨S, T, K, ⟨c, r, a1, a2, a3, a4, a5⟩, h2, h3, h4, h5⟩ := HMI.out; exact a2.big
          have HDR := Lib.hid (fun W o (hq : Was w W f o d t t) => show Calls Try.prog 26 #[ptr f, .int .i64 (q : Nat)] W (fun e W' => e = .returned (.int .i64 0) ∧ Was w W' f o d (t.drop q) t) from by
            have := hq.drop (q : Nat)
            unfold Fo.noE Fo.dropI at this
            rw [hx, if_pos rfl, if_pos rfl] at this
            exact this)
          have hlen := Fo.len_drop hwf hq0
          obtain ⟨L1, hL1⟩ : ∃ L1, (t.drop q).len = L1 := ⟨_, rfl⟩
          obtain ⟨U, hU⟩ : ∃ U, t.len = U := ⟨_, rfl⟩
          rw [hL1, hU] at hlen
          have hU2 : U ≤ 4096 := by have := hwf.len; omega
          have hL2 : L1 ≤ 4096 := by omega
          have HWF := Lib.hid hwf
          have HQ0 := Lib.hid hq0
          have HTL := Lib.hid hU
          have HL1 := Lib.hid hL1
          have esub : ((U : Nat) : Int) - 1 = ((L1 : Nat) : Int) := by omega
          obtain ⟨t', ht'⟩ : ∃ t', t' = t.drop q := ⟨_, rfl⟩
          have HT' := Lib.hid ht'
          rw [← ht'] at HDR HL1
          clear hwf HMI hlen hL1 ht' hU hq0 hx
          go_wp2_with (first
            | (go_at_call 15; refine HCP.out.mono ?_; rintro e w5 ⟨o, rfl, hq⟩; have HQ := Lib.hid hq; clear hq)
            | (go_at_call 26; refine (HDR.out _ _ HQ.out).mono ?_; rintro e w6 ⟨rfl, hq⟩; have HQ := Lib.hid hq; clear hq))
          clear HDR HCP
          go_loopg [12] s (fun gh iv wr => ∃ (k : Nat), k + gh = s ∧ iv = .int .i64 k ∧ Hid (Was w wr f o d t' t))
          case atStart => exact ⟨0, by omega, rfl, HQ⟩
          case round =>
            clear HQ
            obtain ⟨k, hk, rfl, HQ⟩ := hrel
            by_cases hlt2 : k < s
            · have e1 : decide ((k : Int) < (s : Int)) = true := by simp; omega
              obtain ⟨b, hb⟩ : ∃ b : Bool, decide (k = q) = b := ⟨_, rfl⟩
              have hph := dropped_has (u := t) hb
              rw [← HT'.out] at hph
              obtain ⟨x0, hx9⟩ : ∃ x0, t.there k = x0 := ⟨_, rfl⟩
              rw [hx9] at hph
              have HO := Lib.hid (fun W (hq : Was w W f o d t' t) => hq.ohas ((Fo.has_nat t k).trans hx9))
              have HF := Lib.hid (fun W (hq : Was w W f o d t' t) => hq.fhas hph)
              have e2 : (((k : Nat) : Int) != ((q : Nat) : Int)) = !b := by
                rw [← hb, bne]
                congr 1
                by_cases h : k = q
                · simp [h]
                · simp [h]; omega
              have exx : ((x0 && !b) != (x0 && !b)) = false := by simp
              have HKQ := Lib.hid hb
              clear hb hph hx9
              cases x0 <;> cases b
              all_goals
                simp only [Bool.not_true, Bool.not_false, Bool.and_true, Bool.and_false, Bool.true_and, Bool.false_and] at e2 exx HF
                go_wp2_with (first
                  | (go_at_call_of 23 (ptr f); refine (HF.out _ HQ.out).mono ?_; rintro e w8 ⟨rfl, hq⟩; have HQ := Lib.hid hq; clear hq)
                  | (go_at_call_of 23 (ptr o); refine (HO.out _ HQ.out).mono ?_; rintro e w9 ⟨rfl, hq⟩; have HQ := Lib.hid hq; clear hq))
                go_loopg [13] s (fun gh kv wy => ∃ p : Nat, p + gh = s ∧ kv = .int .i64 p ∧ Hid (Was w wy f o d t' t))
                case atStart => exact ⟨0, by omega, rfl, HQ⟩
                case round =>
                  clear HQ
                  obtain ⟨p, hp, rfl, HQ⟩ := hrel
                  by_cases hlt3 : p < s
                  · have e3 : decide ((p : Int) < (s : Int)) = true := by simp; omega
                    obtain ⟨cc, hc⟩ : ∃ cc : Bool, decide (p = q) = cc := ⟨_, rfl⟩
                    obtain ⟨v, hv⟩ : ∃ v : Bool, v = true ↔ t.under ((k : Nat) : Int) ((p : Nat) : Int) := by
                      by_cases hu : t.under ((k : Nat) : Int) ((p : Nat) : Int)
                      · exact ⟨true, by simp [hu]⟩
                      · exact ⟨false, by simp [hu]⟩
                    have hdu := dropped_underB HWF.out HQ0.out HKQ.out hc hv
                    rw [← HT'.out] at hdu
                    have HFU := Lib.hid (fun W (hq : Was w W f o d t' t) => hq.funder hdu)
                    have HOU := Lib.hid (fun W (hq : Was w W f o d t' t) => hq.ounder hv)
                    have e4 : (((p : Nat) : Int) != ((q : Nat) : Int)) = !cc := by
                      rw [← hc, bne]
                      congr 1
                      by_cases h : p = q
                      · simp [h]
                      · simp [h]; omega
                    clear hdu hv hc
                    cases cc <;> cases v
                    all_goals
                      simp only [Bool.not_true, Bool.not_false, Bool.and_true, Bool.and_false, Bool.true_and, Bool.false_and] at e4 HFU
                      go_wp2_with (first
                        | (go_at_call_of 24 (ptr f); refine (HFU.out _ HQ.out).mono ?_; rintro e w8 ⟨rfl, hq⟩; have HQ := Lib.hid hq; clear hq)
                        | (go_at_call_of 24 (ptr o); refine (HOU.out _ HQ.out).mono ?_; rintro e w9 ⟨rfl, hq⟩; have HQ := Lib.hid hq; clear hq))
                      go_roundg (s - p - 1)
                      case measure => omega
                      case rel => exact ⟨p + 1, by omega, by go_num, HQ⟩
                  · have e3 : decide ((p : Int) < (s : Int)) = false := by simp; omega
                    go_wp2
                    go_roundg (s - k - 1)
                    case measure => omega
                    case rel => exact ⟨k + 1, by omega, by go_num, HQ⟩
            · have e1 : decide ((k : Int) < (s : Int)) = false := by simp; omega
              have ell : (((L1 : Nat) : Int) == ((L1 : Nat) : Int)) = true := by simp
              go_wp2_with (first
                | (go_at_call_of 20 (ptr f); refine (HQ.out.flen HL1.out).mono ?_; rintro e w8 ⟨rfl, hq⟩; have HQ := Lib.hid hq; clear hq)
                | (go_at_call_of 20 (ptr o); refine (HQ.out.olen HTL.out).mono ?_; rintro e w9 ⟨rfl, hq⟩; have HQ := Lib.hid hq; clear hq)
                | (go_at_call 10; refine HQ.out.known.mono ?_; rintro e w10 ⟨rfl, hq⟩))
              go_ret
              exact ⟨rfl, hq.chg⟩
end Go.Proofs
end
section
namespace Go.Proofs.Ythgdkaldnaeijaa.treeDrops
open Go.ChangeShapes Go.WideShapes Go.ChangeAt Go.RowKit
set_option linter.unusedVariables false

theorem own : ownKnob Try.prog.godebug = none := by kernel_rfl

set_option maxRecDepth 100000 in
theorem lifted (os : Os) (started : os.Started) (H : Type) (enc : TypeId × Value → H) :
    ReturnsInHanded {} Try.checked os 5 .any (Rows.treeDropsSpec.pre6 enc Try.prog Try.f5 Rows.treeDropsRow.domain false) (Rows.treeDropsSpec.post enc Try.prog Try.f5 false true false false) := by
  refine returnsInHanded_of_change (C := Try.checked) own started (by kernel_rfl) Try.func5
    (ChangeSpec.witness6 (enc := enc) (C := Try.checked) false ⟨#[], #[.int .i64 0, .slice none 0 0, .int .i64 0], []⟩ 8 (by kernel_rfl) (by kernel_rfl) (by kernel_rfl) (by kernel_rfl)) ?_
  intro W base args ds gs before hval0 hW hcnd _
  have hval : ∀ (j : Nat) t v, Try.f5.params[j]? = some t → args[j]? = some v → Value.okWide Try.prog W .any base t v := hval0
  have hW' := hW
  obtain ⟨p, q, hA0, hV, rfl, hfz, hnd⟩ := hW
  have hA : DataW.TrodAll enc Try.prog W 0 (fun _ => true) true Try.f5.params.toList args.toList ds p := hA0
  rw [Try.params5] at hA hval
  obtain ⟨v0, vs0, d0, ds0, p0, q0, hargs, rfl, rfl, h0, r0⟩ := trodAll_cons hA
  obtain ⟨v1, vs1, d1, ds1, p1, q1, rfl, rfl, rfl, h1, r1⟩ := trodAll_cons r0
  obtain ⟨v2, vs2, d2, ds2, p2, q2, rfl, rfl, rfl, h2, r2⟩ := trodAll_cons r1
  obtain ⟨rfl, rfl, rfl⟩ := trodAll_nil r2
  obtain rfl : args = #[v0, v1, v2] := by cases args; simp_all
  obtain ⟨rfl, rfl⟩ := trodVars_none hV
  obtain ⟨a0, rfl, rfl, rfl, w0⟩ := open_int Try.underlying3 (hval 0 3 v0 rfl rfl) h0
  obtain ⟨a2, rfl, rfl, rfl, w2⟩ := open_int Try.underlying3 (hval 2 3 v2 rfl rfl) h2
  clear hA0 hval0
  simp only [List.append_nil, List.nil_append] at hW'
  obtain ⟨b0, c0⟩ := bounds_i64 w0
  have hlt1 : ∀ x ∈ p1, x.block < W.heap.size := fun x hx => hW'.lt x (by simp [hx])
  obtain ⟨l1, hl1⟩ := open_acts (hval 1 22 v1 rfl rfl) h1
  obtain ⟨b2, c2⟩ := bounds_i64 w2
  refine (drops_any _ _ _ _ b2 (by omega) _ hl1).mono fun e W' ⟨he, hc⟩ => ?_
  have hg := hc.to_below
  subst he
  exact ⟨_, rfl, post_of_below (pa := ([] ++ (p1 ++ ([] ++ [])))) (pv := []) hW' (fun _ _ _ => (trodAll_cons_mk (shut_bool Try.underlying4 _) trodAll_mk0)) (fun sp hsp => (trodAll_cons_mk (shut_int Try.underlying3 w0) (trodAll_cons_mk (WideElems.Trod_stays Try.laidOut (by kernel_rfl) (of_decide_eq_true (by kernel_rfl)) h1 (fun x hx => hg.same (hlt1 x hx)) (fun x hx => hsp x (by simp [hx]))) (trodAll_cons_mk (shut_int Try.underlying3 w2) trodAll_mk0)))) (fun _ _ => rfl) (by simp)
    hg (ok_one (by kernel_rfl) rfl (okWide_bool_mk Try.underlying4 _))⟩

theorem over : Rows.treeDropsRow.holds Try.pinned (OpenSpec.ofChange Rows.treeDropsSpec) :=
  OpenClaim.holds_of_wide 5 Try.f5 rfl rfl rfl rfl rfl rfl rfl ⟨rfl, rfl, rfl, rfl, rfl⟩ rfl rfl rfl rfl rfl (by kernel_rfl) Try.func5 (by kernel_rfl)
    (of_decide_eq_true (by kernel_rfl)) (by unfold Func.isWrapper; first | (rw [if_pos (by decide +kernel)]; kernel_rfl) | (rw [if_neg (by decide +kernel)]; exact ⟨rfl, rfl⟩))
    (fun os started H enc _ => lifted os started H enc)

/-- ████ THE STATEMENT ████ -/
theorem proved : Rows.TreeDropsSaid :=
  over
#print axioms proved
end Go.Proofs.Ythgdkaldnaeijaa.treeDrops
end
