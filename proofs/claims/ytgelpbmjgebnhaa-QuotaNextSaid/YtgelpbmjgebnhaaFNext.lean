/-
  P10.3: at no time between now and the next one a period begins, and at that one one does.
-/
import Derived.Test.YtgelpbmjgebnhaaM11
import Derived.Test.YtgelpbmjgebnhaaRows
import Derived.WalkKit
import Derived.Below
import Derived.ChangeSame
import Derived.ProofKit
import Derived.OpenShut
section
namespace Go.Proofs
open Go.RowKit Go.Shelf
set_option linter.unusedVariables false
set_option linter.unusedSimpArgs false

/-- The next time: one begins then, and none between. -/
theorem next_some {M : Nat} {r : RTab} {ch : Nat → List (Int × Int)} (hh : r.Held M ch) (h0 : (r.pl 0).is = true) (hp : Pers r) {now : Int} (n0 : 0 ≤ now) (n1 : now ≤ 1152921504606846976) :
    ∃ at_, nextR r ch now = some at_ ∧ now < at_ ∧ at_ < 18446744073709551616 ∧ 1 ≤ (begunL at_ (r.all ch)).length ∧ ∀ b, now < b → b < at_ → begunL b (r.all ch) = [] := by
  have hI := all_per hp ch
  have hroot : (⟨((0 : Nat) : Int), (r.pl 0).gen, r.get ch ((0 : Nat) : Int) (r.pl 0).gen⟩ : Plc) ∈ r.all ch := all_mem.2 ⟨0, is_lt h0, h0, rfl⟩
  have htell : ∀ p ∈ r.all ch, tellN now p = some (now - now % p.x.per + p.x.per) := fun p hm => by
    obtain ⟨a, b⟩ := hI p hm
    obtain ⟨c, d, e⟩ := mod_bd n0 a
    unfold tellN nextP; rw [if_pos (by omega)]
  obtain ⟨m, hm, _⟩ := minF_one hroot (htell _ hroot)
  obtain ⟨⟨p, hpm, hpt⟩, hle⟩ := (minF_iff _ _ _).1 hm
  have hpa := hI p hpm
  have hpb := mod_bd n0 hpa.1
  rw [htell p hpm] at hpt
  have hme : now - now % p.x.per + p.x.per = m := Option.some.inj hpt
  refine ⟨m, hm, by omega, by omega, ?_, fun b hb1 hb2 => ?_⟩
  · have hz : m % p.x.per = 0 := by
      have h1 := Int.mul_ediv_add_emod now p.x.per
      have : m = p.x.per * (now / p.x.per + 1) := by rw [Int.mul_add, Int.mul_one]; omega
      rw [this]; exact Int.mul_emod_right _ _
    have hin : (p.i, p.q) ∈ begunL m (r.all ch) := by
      unfold begunL
      exact List.mem_map.2 ⟨p, List.mem_filter.2 ⟨hpm, by unfold beginsQ; exact decide_eq_true hz⟩, rfl⟩
    exact List.length_pos_of_mem hin
  · rw [List.eq_nil_iff_forall_not_mem]
    intro x hx
    unfold begunL at hx
    obtain ⟨y, hy, _⟩ := List.mem_map.1 hx
    obtain ⟨hy1, hy2⟩ := List.mem_filter.1 hy
    unfold beginsQ at hy2
    have hy3 : b % y.x.per = 0 := of_decide_eq_true hy2
    have hya := hI y hy1
    have hyl := hle y hy1 _ (htell y hy1)
    -- b is a whole number of periods, above now: so at least the next one
    have h1 := Int.mul_ediv_add_emod now y.x.per
    have h2 := Int.mul_ediv_add_emod b y.x.per
    have hyb := mod_bd n0 hya.1
    have h3 : now / y.x.per < b / y.x.per := by
      by_cases h : now / y.x.per < b / y.x.per
      · exact h
      · exfalso
        have h4 : y.x.per * (b / y.x.per) ≤ y.x.per * (now / y.x.per) := Int.mul_le_mul_of_nonneg_left (by omega) (by omega)
        omega
    have h5 : y.x.per * (now / y.x.per + 1) ≤ y.x.per * (b / y.x.per) := Int.mul_le_mul_of_nonneg_left (by omega) (by omega)
    rw [Int.mul_add, Int.mul_one] at h5
    omega
theorem CAt.copy {w W : World} {c M : Nat} {r : RTab} {ch : Nat → List (Int × Int)} (H : CAt w W c M r ch) : Calls Try.prog 29 #[ptr c] W fun e W' => ∃ o, e = .returned (ptr o) ∧ CAt W W' o M r ch := by
  obtain ⟨h1, S, t, h2, h3, h4⟩ := H
  refine (Copy_any h2).mono ?_
  rintro e W' ⟨o, S2, rfl, hD, hn, hc⟩
  exact ⟨o, rfl, hc, S2, t, hD, h3, hn⟩
theorem MadeAt.code {w W : World} {c h N : Nat} {V : Value} {rs : List (Int × Int)} (H : MadeAt w W c h N V rs) : ∃ r ch, CAt w W c (N + 1) r ch ∧ Row W 34 2 V rs.length (refCells rs) ∧ Refs r rs ∧ Pers r ∧ NoUse r ∧ ((r.pl 0).is = true ∧ (r.pl 0).gen = 1) ∧ N + 1 ≤ 1000 := by
  obtain ⟨S, S2, t, r, ch, hp, h2, h3, h4, h5, h6, h7, h8, h9⟩ := H
  exact ⟨r, ch, ⟨h4, S, t, hp.dm, hp.sim, fun k hk => h3 k (List.mem_append_right _ (List.mem_append_left _ hk))⟩, h2, h5, h7, h8, h9, hp.sim.held.m⟩
set_option maxHeartbeats 6400000 in
set_option maxRecDepth 100000 in
theorem next_any (cpu per : Int) (hcp : 0 ≤ cpu) (hpp : 0 ≤ per) (V1 : Value) (l : List CarvC) (now between : Int) (n0 : 0 ≤ now) (n1 : now < 18446744073709551616) (b0 : 0 ≤ between) (b1 : between < 18446744073709551616) (w : World) (hV1 : Carvs w V1 l) :
    Calls Try.prog 6 #[.int .u64 cpu, .int .u64 per, V1, .int .u64 now, .int .u64 between] w fun e w' => e = .returned (.bool true) ∧ Chg [] w w' := by
  have HM := Lib.hid (made_any cpu per hcp hpp V1 l w w hV1 (Chg.refl _ _))
  have HK := Lib.hid known_any
  clear hV1
  go_enter Try.func6, Try.ntmps6
  go_wp2_with (fail)
  refine HM.out.mono ?_
  rintro e w1 (⟨rfl, hc⟩ | ⟨c, h, N, V, rs, rfl, hN, hM⟩)
  · have HC := Lib.hid hc
    clear hc
    go_wp2_with (go_at_call 9; refine (HK.out _).mono ?_; rintro e w2 ⟨rfl, hc⟩)
    go_ret
    exact ⟨rfl, HC.out.then hc⟩
  by_cases hbig : 1152921504606846976 < now
  · have d1 : decide (now > 1152921504606846976) = true := by simpa using hbig
    have d2 : decide (1152921504606846976 < now) = true := by simpa using hbig
    have HC := Lib.hid hM.chg
    clear hM
    go_wp2_with (go_at_call 9; refine (HK.out _).mono ?_; rintro e w2 ⟨rfl, hc⟩)
    go_ret
    exact ⟨rfl, HC.out.then hc⟩
  have d1 : decide (now > 1152921504606846976) = false := decide_eq_false hbig
  have d2 : decide (1152921504606846976 < now) = false := decide_eq_false hbig
  obtain ⟨r, ch, hC, _, _, hP, _, h0, _⟩ := hM.code
  obtain ⟨a, ha, ha1, ha2, ha3, ha4⟩ := next_some hC.held h0.1 hP n0 (by omega)
  have HNX := Lib.hid (fun W (H : CAt w W c (N + 1) r ch) => by have := H.next hP n0 n1; rw [ha] at this; exact this)
  have HCP := Lib.hid (fun W (H : CAt w W c (N + 1) r ch) => H.copy)
  have HRS := Lib.hid (fun w W o x (x0 : 0 ≤ x) (x1 : x < 18446744073709551616) (H : CAt w W o (N + 1) r ch) => H.reset hP x0 x1)
  have HD := Lib.hid hC
  obtain ⟨ln, hln⟩ : ∃ ln, ln = (begunL a (r.all ch)).length := ⟨_, rfl⟩
  rw [← hln] at ha3
  have HLN := Lib.hid hln
  have e1 : ((ln : Int) == 0) = false := by have : ¬ (ln : Int) = 0 := by omega
                                            simpa using this
  have e1' : (ln == 0) = false := by have : ¬ ln = 0 := by omega
                                     simpa using this
  have e2 : decide (a ≤ now) = false := decide_eq_false (by omega)
  have HBW := Lib.hid ha4
  have a0 : 0 ≤ a := by omega
  clear ha4 hC h0 hP hM ha hln hN
  by_cases hb1 : now < between
  · have d3 : decide (now < between) = true := decide_eq_true hb1
    have d3' : decide (between > now) = true := decide_eq_true hb1
    by_cases hb2 : between < a
    · have d4 : decide (between < a) = true := decide_eq_true hb2
      have HE := Lib.hid (HBW.out between hb1 hb2)
      go_wp2_with (first
        | (go_at_call 20; refine (HNX.out _ HD.out).mono ?_; rintro e w2 ⟨rfl, hc⟩; have HD2 := Lib.hid (HD.out.quiet hc); clear hc)
        | (go_at_call 29; refine (HCP.out _ HD2.out).mono ?_; rintro e w3 ⟨o, rfl, ho⟩; have HO := Lib.hid ho; clear ho)
        | (go_at_call 15; refine (HRS.out _ _ _ _ b0 b1 HD4.out).mono ?_; rintro e w5 ⟨A5, c5, rfl, _, _, h5, _⟩; have HZ := Lib.hid h5.chg; have hz5 : begunL between (r.all ch) = [] := HE.out; simp only [hz5]; clear h5)
        | (go_at_call 15; refine (HRS.out _ _ _ _ a0 ha2 HO.out).mono ?_; rintro e w4 ⟨A4, c4, rfl, _, _, h4, _⟩; have HD4 := Lib.hid (HD2.out.quiet h4.chg); have hln4 := HLN.out; rw [← hln4]; clear h4 hln4)
        | (go_at_call 9; refine (HK.out _).mono ?_; rintro e w6 ⟨rfl, hc⟩; have HY := Lib.hid (HZ.out.then hc); clear hc))
      go_ret
      exact ⟨rfl, HY.out⟩
    · have d4 : decide (between < a) = false := decide_eq_false hb2
      go_wp2_with (first
        | (go_at_call 20; refine (HNX.out _ HD.out).mono ?_; rintro e w2 ⟨rfl, hc⟩; have HD2 := Lib.hid (HD.out.quiet hc); clear hc)
        | (go_at_call 29; refine (HCP.out _ HD2.out).mono ?_; rintro e w3 ⟨o, rfl, ho⟩; have HO := Lib.hid ho; clear ho)
        | (go_at_call 15; refine (HRS.out _ _ _ _ a0 ha2 HO.out).mono ?_; rintro e w4 ⟨A4, c4, rfl, _, _, h4, _⟩; have HD4 := Lib.hid (HD2.out.quiet h4.chg); have hln4 := HLN.out; rw [← hln4]; clear h4 hln4)
        | (go_at_call 9; refine (HK.out _).mono ?_; rintro e w6 ⟨rfl, hc⟩; have HY := Lib.hid (HD4.out.chg.then hc); clear hc))
      go_ret
      exact ⟨rfl, HY.out⟩
  · have d3 : decide (now < between) = false := decide_eq_false hb1
    have d3' : decide (between > now) = false := decide_eq_false hb1
    go_wp2_with (first
      | (go_at_call 20; refine (HNX.out _ HD.out).mono ?_; rintro e w2 ⟨rfl, hc⟩; have HD2 := Lib.hid (HD.out.quiet hc); clear hc)
      | (go_at_call 29; refine (HCP.out _ HD2.out).mono ?_; rintro e w3 ⟨o, rfl, ho⟩; have HO := Lib.hid ho; clear ho)
      | (go_at_call 15; refine (HRS.out _ _ _ _ a0 ha2 HO.out).mono ?_; rintro e w4 ⟨A4, c4, rfl, _, _, h4, _⟩; have HD4 := Lib.hid (HD2.out.quiet h4.chg); have hln4 := HLN.out; rw [← hln4]; clear h4 hln4)
      | (go_at_call 9; refine (HK.out _).mono ?_; rintro e w6 ⟨rfl, hc⟩; have HY := Lib.hid (HD4.out.chg.then hc); clear hc))
    go_ret
    exact ⟨rfl, HY.out⟩
end Go.Proofs
end
section
namespace Go.Proofs.Ytgelpbmjgebnhaa.quotaNext
open Go.ChangeShapes Go.WideShapes Go.ChangeAt Go.RowKit
set_option linter.unusedVariables false

theorem own : ownKnob Try.prog.godebug = none := by kernel_rfl

set_option maxRecDepth 100000 in
theorem lifted (os : Os) (started : os.Started) (H : Type) (enc : TypeId × Value → H) :
    ReturnsInHanded {} Try.checked os 6 .any (Rows.quotaNextSpec.pre6 enc Try.prog Try.f6 Rows.quotaNextRow.domain false) (Rows.quotaNextSpec.post enc Try.prog Try.f6 false true false false) := by
  refine returnsInHanded_of_change (C := Try.checked) own started (by kernel_rfl) Try.func6
    (ChangeSpec.witness6 (enc := enc) (C := Try.checked) false ⟨#[], #[.int .u64 0, .int .u64 0, .slice none 0 0, .int .u64 0, .int .u64 0], []⟩ 8 (by kernel_rfl) (by kernel_rfl) (by kernel_rfl) (by kernel_rfl)) ?_
  intro W base args ds gs before hval0 hW hcnd _
  have hval : ∀ (j : Nat) t v, Try.f6.params[j]? = some t → args[j]? = some v → Value.okWide Try.prog W .any base t v := hval0
  have hW' := hW
  obtain ⟨p, q, hA0, hV, rfl, hfz, hnd⟩ := hW
  have hA : DataW.TrodAll enc Try.prog W 0 (fun _ => true) true Try.f6.params.toList args.toList ds p := hA0
  rw [Try.params6] at hA hval
  obtain ⟨v0, vs0, d0, ds0, p0, q0, hargs, rfl, rfl, h0, r0⟩ := trodAll_cons hA
  obtain ⟨v1, vs1, d1, ds1, p1, q1, rfl, rfl, rfl, h1, r1⟩ := trodAll_cons r0
  obtain ⟨v2, vs2, d2, ds2, p2, q2, rfl, rfl, rfl, h2, r2⟩ := trodAll_cons r1
  obtain ⟨v3, vs3, d3, ds3, p3, q3, rfl, rfl, rfl, h3, r3⟩ := trodAll_cons r2
  obtain ⟨v4, vs4, d4, ds4, p4, q4, rfl, rfl, rfl, h4, r4⟩ := trodAll_cons r3
  obtain ⟨rfl, rfl, rfl⟩ := trodAll_nil r4
  obtain rfl : args = #[v0, v1, v2, v3, v4] := by cases args; simp_all
  obtain ⟨rfl, rfl⟩ := trodVars_none hV
  obtain ⟨a0, rfl, rfl, rfl, w0⟩ := open_int Try.underlying22 (hval 0 22 v0 rfl rfl) h0
  obtain ⟨a1, rfl, rfl, rfl, w1⟩ := open_int Try.underlying22 (hval 1 22 v1 rfl rfl) h1
  obtain ⟨a3, rfl, rfl, rfl, w3⟩ := open_int Try.underlying22 (hval 3 22 v3 rfl rfl) h3
  obtain ⟨a4, rfl, rfl, rfl, w4⟩ := open_int Try.underlying22 (hval 4 22 v4 rfl rfl) h4
  clear hA0 hval0
  simp only [List.append_nil, List.nil_append] at hW'
  obtain ⟨b0, c0⟩ := bounds_u64 w0
  obtain ⟨b1, c1⟩ := bounds_u64 w1
  have hlt2 : ∀ x ∈ p2, x.block < W.heap.size := fun x hx => hW'.lt x (by simp [hx])
  obtain ⟨l2, hl2⟩ := open_carvs (hval 2 23 v2 rfl rfl) h2
  obtain ⟨b3, c3⟩ := bounds_u64 w3
  obtain ⟨b4, c4⟩ := bounds_u64 w4
  refine (next_any a0 a1 b0 b1 _ l2 a3 a4 b3 (by omega) b4 (by omega) W hl2).mono fun e W' ⟨he, hc⟩ => ?_
  have hg := hc.to_below
  subst he
  exact ⟨_, rfl, post_of_below (pa := ([] ++ ([] ++ (p2 ++ ([] ++ ([] ++ [])))))) (pv := []) hW' (fun _ _ _ => (trodAll_cons_mk (shut_bool Try.underlying4 _) trodAll_mk0)) (fun sp hsp => (trodAll_cons_mk (shut_int Try.underlying22 w0) (trodAll_cons_mk (shut_int Try.underlying22 w1) (trodAll_cons_mk (WideElems.Trod_stays Try.laidOut (by kernel_rfl) (of_decide_eq_true (by kernel_rfl)) h2 (fun x hx => hg.same (hlt2 x hx)) (fun x hx => hsp x (by simp [hx]))) (trodAll_cons_mk (shut_int Try.underlying22 w3) (trodAll_cons_mk (shut_int Try.underlying22 w4) trodAll_mk0)))))) (fun _ _ => rfl) (by simp)
    hg (ok_one (by kernel_rfl) rfl (okWide_bool_mk Try.underlying4 _))⟩

theorem over : Rows.quotaNextRow.holds Try.pinned (OpenSpec.ofChange Rows.quotaNextSpec) :=
  OpenClaim.holds_of_wide 6 Try.f6 rfl rfl rfl rfl rfl rfl rfl ⟨rfl, rfl, rfl, rfl, rfl⟩ rfl rfl rfl rfl rfl (by kernel_rfl) Try.func6 (by kernel_rfl)
    (of_decide_eq_true (by kernel_rfl)) (by unfold Func.isWrapper; first | (rw [if_pos (by decide +kernel)]; kernel_rfl) | (rw [if_neg (by decide +kernel)]; exact ⟨rfl, rfl⟩))
    (fun os started H enc _ => lifted os started H enc)

/-- ████ THE STATEMENT ████ -/
theorem proved : Rows.QuotaNextSaid :=
  over
#print axioms proved
end Go.Proofs.Ytgelpbmjgebnhaa.quotaNext
end
