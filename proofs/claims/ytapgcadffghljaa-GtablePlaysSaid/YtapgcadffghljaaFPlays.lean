/-
  Proved: of any size and any acts, what a table has, and answers, is what the document's table has, and answers, act by act, or there is none of such a size. No conditions.
-/
import Derived.Test.YtapgcadffghljaaM14
import Derived.Test.YtapgcadffghljaaRows
import Derived.WalkKit
import Derived.Below
import Derived.ChangeSame
import Derived.ProofKit
import Derived.OpenShut
section
namespace Go.Proofs
open Go.RowKit
set_option linter.unusedVariables false
set_option linter.unusedSimpArgs false
attribute [local go_sem] eql_ptr_nil eql_nil_nil eql_tptr_nil eql_tnil_nil
set_option maxHeartbeats 6400000 in
set_option maxRecDepth 100000 in
theorem plays_any (size : Int) (hsz : inI size) (V : Value) (acts : List Ac) (w : World) (hV : Acts w V acts) :
    Calls Try.prog 3 #[.int .i64 size, V] w fun e w' => e = .returned (.bool true) ∧ Chg [] w w' := by
  have HK := Lib.hid known_any
  obtain ⟨A2, c2, rfl⟩ := hV.open_
  obtain ⟨m, hm⟩ : ∃ m, m = acts.length := ⟨_, rfl⟩
  rw [← hm] at hV ⊢
  have HV := Lib.hid hV
  clear hV hm
  by_cases hb : 1 ≤ size ∧ size ≤ 64
  · obtain ⟨N, rfl⟩ : ∃ N : Nat, size = (N : Nat) := ⟨size.toNat, by omega⟩
    have HB := Lib.hid (mid_begun N (by omega) (by omega) w)
    have d0 : decide ((N : Int) < 1) = false := decide_eq_false (by omega)
    have d2 : decide ((N : Int) > 64) = false := decide_eq_false (by omega)
    have d2' : decide ((64 : Int) < (N : Int)) = false := decide_eq_false (by omega)
    clear hsz hb
    by_cases hm100 : (100 : Int) < (m : Int)
    · have d1 : decide ((m : Int) > 100) = true := decide_eq_true hm100
      have d1' : decide ((100 : Int) < (m : Int)) = true := decide_eq_true hm100
      go_enter Try.func3, Try.ntmps3
      go_wp2_with (first
        | (go_at_call 10; refine HB.out.mono ?_; rintro e w1 ⟨gb, rfl, hM⟩; have HQ := Lib.hid hM; clear hM)
        | (go_at_call 9; refine HQ.out.known.mono ?_; rintro e w2 ⟨rfl, hq⟩; have HQ := Lib.hid hq; clear hq))
      go_ret
      exact ⟨rfl, HQ.out.chg⟩
    · have d1 : decide ((m : Int) > 100) = false := decide_eq_false hm100
      have d1' : decide ((100 : Int) < (m : Int)) = false := decide_eq_false hm100
      have hm2 : m ≤ 100 := by omega
      go_enter Try.func3, Try.ntmps3
      go_wp2_with (go_at_call 10; refine HB.out.mono ?_; rintro e w1 ⟨gb, rfl, hM⟩; have HQ := Lib.hid hM; clear hM)
      go_loopg [8] m (fun gh iv wr => ∃ j : Nat, j + gh = m ∧ iv = .int .i64 j ∧ Hid (Mid w wr gb N j))
      case atStart => exact ⟨0, by omega, rfl, HQ⟩
      case round =>
        obtain ⟨j, hj, rfl, HMI⟩ := hrel
        by_cases hlt : j < m
        · have j0 : (0 : Int) ≤ (j : Int) := by omega
          have j1 : (j : Int) < (m : Int) := by omega
          obtain ⟨bI, oI, xa, hA, hfit, hcells⟩ := HV.out.at_ hlt
          subst hA
          have hxc := hcells wr HMI.out.chg
          have hxs := xa.size
          have HDO := Lib.hid (HMI.out.do (by omega) hfit)
          clear HV hcells hfit
          unfold Ac.val at HDO
          generalize xa.arr = XA at *
          go_wp2_with (first
            | ((with_reducible refine wpl_load_atE (b := bI) (off := oI + j * 24) T39 hxs hxc ?_ ?_ ?_); (· rfl); (· exact ⟨_, rfl, rfl⟩))
            | (go_at_call 11; refine HDO.out.mono ?_; rintro e w4 ⟨rfl, hM'⟩; have HM' := Lib.hid hM'; clear hM')
            | (go_at_call 12; refine (HM'.out.same (by omega)).mono ?_; rintro e w5 ⟨rfl, hq⟩; have HM' := Lib.hid hq; clear hq))
          go_roundg (m - j - 1)
          case measure => omega
          case rel => exact ⟨j + 1, by omega, by go_num, HM'⟩
        · have d1 : decide ((j : Int) < (m : Int)) = false := by simp; omega
          go_wp2_with (go_at_call 9; refine HMI.out.known.mono ?_; rintro e w2 ⟨rfl, hq⟩)
          go_ret
          exact ⟨rfl, hq.chg⟩
  · have HN := Lib.hid (gnew_no size (by omega) w)
    have hK0 := HK.out w
    by_cases h1 : size < 1
    · have d0 : decide (size < 1) = true := decide_eq_true h1
      go_enter Try.func3, Try.ntmps3
      go_wp2_with (first
        | (go_at_call 8; refine HN.out.mono ?_; rintro e w' ⟨rfl, rfl⟩)
        | (go_at_call 9; refine hK0.mono ?_; rintro e w2 ⟨rfl, hc⟩; have HC := Lib.hid hc; clear hc))
      go_ret
      exact ⟨rfl, HC.out⟩
    · have d0 : decide (size < 1) = false := decide_eq_false h1
      have d2 : decide (size > 64) = true := decide_eq_true (by omega)
      have d2' : decide ((64 : Int) < size) = true := decide_eq_true (by omega)
      go_enter Try.func3, Try.ntmps3
      go_wp2_with (first
        | (go_at_call 8; refine HN.out.mono ?_; rintro e w' ⟨rfl, rfl⟩)
        | (go_at_call 9; refine hK0.mono ?_; rintro e w2 ⟨rfl, hc⟩; have HC := Lib.hid hc; clear hc))
      go_ret
      exact ⟨rfl, HC.out⟩
end Go.Proofs
end
section
namespace Go.Proofs.Ytapgcadffghljaa.gtablePlays
open Go.ChangeShapes Go.WideShapes Go.ChangeAt Go.RowKit
set_option linter.unusedVariables false

theorem own : ownKnob Try.prog.godebug = none := by kernel_rfl

set_option maxRecDepth 100000 in
theorem lifted (os : Os) (started : os.Started) (H : Type) (enc : TypeId × Value → H) :
    ReturnsInHanded {} Try.checked os 3 .any (Rows.gtablePlaysSpec.pre6 enc Try.prog Try.f3 Rows.gtablePlaysRow.domain false) (Rows.gtablePlaysSpec.post enc Try.prog Try.f3 false true false false) := by
  refine returnsInHanded_of_change (C := Try.checked) own started (by kernel_rfl) Try.func3
    (ChangeSpec.witness6 (enc := enc) (C := Try.checked) false ⟨#[], #[.int .i64 0, .slice none 0 0], []⟩ 8 (by kernel_rfl) (by kernel_rfl) (by kernel_rfl) (by kernel_rfl)) ?_
  intro W base args ds gs before hval0 hW hcnd _
  have hval : ∀ (j : Nat) t v, Try.f3.params[j]? = some t → args[j]? = some v → Value.okWide Try.prog W .any base t v := hval0
  have hW' := hW
  obtain ⟨p, q, hA0, hV, rfl, hfz, hnd⟩ := hW
  have hA : DataW.TrodAll enc Try.prog W 0 (fun _ => true) true Try.f3.params.toList args.toList ds p := hA0
  rw [Try.params3] at hA hval
  obtain ⟨v0, vs0, d0, ds0, p0, q0, hargs, rfl, rfl, h0, r0⟩ := trodAll_cons hA
  obtain ⟨v1, vs1, d1, ds1, p1, q1, rfl, rfl, rfl, h1, r1⟩ := trodAll_cons r0
  obtain ⟨rfl, rfl, rfl⟩ := trodAll_nil r1
  obtain rfl : args = #[v0, v1] := by cases args; simp_all
  obtain ⟨rfl, rfl⟩ := trodVars_none hV
  obtain ⟨a0, rfl, rfl, rfl, w0⟩ := open_int Try.underlying3 (hval 0 3 v0 rfl rfl) h0
  clear hA0 hval0
  simp only [List.append_nil, List.nil_append] at hW'
  obtain ⟨b0, c0⟩ := bounds_i64 w0
  have hlt1 : ∀ x ∈ p1, x.block < W.heap.size := fun x hx => hW'.lt x (by simp [hx])
  obtain ⟨l1, hl1⟩ := open_acts (hval 1 22 v1 rfl rfl) h1
  refine (plays_any _ ⟨by omega, by omega⟩ _ _ W hl1).mono fun e W' ⟨he, hc⟩ => ?_
  have hg := hc.to_below
  subst he
  exact ⟨_, rfl, post_of_below (pa := ([] ++ (p1 ++ []))) (pv := []) hW' (fun _ _ _ => (trodAll_cons_mk (shut_bool Try.underlying4 _) trodAll_mk0)) (fun sp hsp => (trodAll_cons_mk (shut_int Try.underlying3 w0) (trodAll_cons_mk (WideElems.Trod_stays Try.laidOut (by kernel_rfl) (of_decide_eq_true (by kernel_rfl)) h1 (fun x hx => hg.same (hlt1 x hx)) (fun x hx => hsp x (by simp [hx]))) trodAll_mk0))) (fun _ _ => rfl) (by simp)
    hg (ok_one (by kernel_rfl) rfl (okWide_bool_mk Try.underlying4 _))⟩

theorem over : Rows.gtablePlaysRow.holds Try.pinned (OpenSpec.ofChange Rows.gtablePlaysSpec) :=
  OpenClaim.holds_of_wide 3 Try.f3 rfl rfl rfl rfl rfl rfl rfl ⟨rfl, rfl, rfl, rfl, rfl⟩ rfl rfl rfl rfl rfl (by kernel_rfl) Try.func3 (by kernel_rfl)
    (of_decide_eq_true (by kernel_rfl)) (by unfold Func.isWrapper; first | (rw [if_pos (by decide +kernel)]; kernel_rfl) | (rw [if_neg (by decide +kernel)]; exact ⟨rfl, rfl⟩))
    (fun os started H enc _ => lifted os started H enc)

/-- ████ THE STATEMENT ████ -/
theorem proved : Rows.GtablePlaysSaid :=
  over
#print axioms proved
end Go.Proofs.Ytapgcadffghljaa.gtablePlays
end
