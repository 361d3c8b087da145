import Derived.Test.YtocdkomjdcccoaaWiA
import Derived.Deep.CutRange
namespace Go.Proofs
open Go.RowKit
set_option linter.unusedVariables false
set_option linter.unusedSimpArgs false
theorem make_first {w : World} {c : Nat} {S : List Nat} {B per most : Int} (h : CtxAt w c S ⟨8, 1, [], [], 0⟩ most) (b0 : 1 ≤ B) (b1 : B ≤ 4294967296) (p0 : 1 ≤ per) (p1 : per ≤ 4294967296) :
    Calls Try.prog 6 #[ptr c, .int .u64 B, .int .u64 per, .int .u64 0] w fun e w' => e = .returned (.tuple #[.agg #[.int .i64 0, .int .u64 1], .int .i64 0]) ∧ ∃ A cc, CtxTurns c S ⟨8, 1, [⟨1, true, ⟨B, per, A, 1, cc, 0, [(B, 0)]⟩⟩], [], 0⟩ most w w' := by
  have hb : badMake B per 0 = false := by rw [badMake_eq]; simp; omega
  refine (make_yes h B per 0 (by unfold makeE; rw [hb]; rfl)).mono ?_
  rintro e w' ⟨A, cc, rfl, hT⟩
  exact ⟨rfl, A, cc, hT⟩
theorem make_second {w : World} {c : Nat} {S : List Nat} {most : Int} {x : Cx} (h : CtxAt w c S ⟨8, 1, [⟨1, true, x⟩], [], 0⟩ most) :
    Calls Try.prog 6 #[ptr c, .int .u64 7, .int .u64 3, .int .u64 0] w fun e w' => e = .returned (.tuple #[.agg #[.int .i64 1, .int .u64 1], .int .i64 0]) ∧ ∃ A cc, CtxTurns c S ⟨8, 1, [⟨1, true, x⟩, ⟨1, true, ⟨7, 3, A, 1, cc, 0, [(7, 0)]⟩⟩], [], 0⟩ most w w' := by
  have hb : badMake 7 3 0 = false := by decide
  refine (make_yes h 7 3 0 (by unfold makeE; rw [hb]; rfl)).mono ?_
  rintro e w' ⟨A, cc, rfl, hT⟩
  exact ⟨rfl, A, cc, hT⟩
/-- The two that are made first: nothing has been used yet. -/
theorem WS.start {w0 w1 w2 : World} {c : Nat} {S1 : List Nat} {B per most : Int} {A A2 : Option Addr} {cc c2 : Nat} (hS : ∀ k ∈ S1, w0.heap.size ≤ k) (hc : Chg [] w0 w1) (hm : mayC 8 most = true) (b0 : 1 ≤ B) (b1 : B ≤ 4294967296) (p0 : 1 ≤ per) (p1 : per ≤ 4294967296)
    (hT : CtxTurns c S1 ⟨8, 1, [⟨1, true, ⟨B, per, A, 1, cc, 0, [(B, 0)]⟩⟩, ⟨1, true, ⟨7, 3, A2, 1, c2, 0, [(7, 0)]⟩⟩], [], 0⟩ most w1 w2) : WS w0 c B per most 0 0 0 [] [] (.slice none 0 0) w2 := by
  obtain ⟨S2, h1, h2, h3⟩ := hT
  obtain ⟨_, _, m2, m16⟩ := mayC_iff.1 hm
  have i0 := Inv.new hm
  have u0 : U64 0 := ⟨by decide, by decide⟩
  have i1 := i0.put (by decide) (XOk.fresh (A := A) (m := 1) (cc := cc) b0 b1 p0 p1 u0 m2 (Int.le_refl _))
  have i2 := i1.put (by first | exact (show (7 : Int) ≠ 0 by decide) | simp [Tab.put, Tab.frees, Tab.takeAt]) (XOk.fresh (b := 7) (p := 3) (A := A2) (m := 1) (cc := c2) (by decide) (by decide) (by decide) (by decide) u0 m2 (Int.le_refl _))
  have hx := XOk.fresh (most := most) (N := 0) (A := A) (m := 1) (cc := cc) b0 b1 p0 p1 u0 m2 (Int.le_refl _)
  refine ⟨S2, _, h1, i2, fun k hk => (h2 k hk).elim (hS k) (fun h => Nat.le_trans hc.size h), hc.trans h3 (fun k hk => .inr (hS k hk)), rfl, rfl, rfl, ?_, Row.nil _ _ _, (fun k hk => by cases hk)⟩
  exact WInv.start hx.ok hx.may hx.len
set_option maxHeartbeats 25600000 in
set_option maxRecDepth 100000 in
theorem window_any (B per most : Int) (V : Value) (l : List ActC) (w : World) (hB : U64 B) (hper : U64 per) (hV : Acts w V l) :
    Calls Try.prog 3 #[.int .u64 B, .int .u64 per, .int .i64 most, V] w fun e w' => e = .returned (.bool true) ∧ Chg [] w w' := by
  obtain ⟨A, c9, rfl⟩ := hV.open_
  obtain ⟨M, hMM⟩ : ∃ M, M = l.length := ⟨_, rfl⟩
  rw [← hMM] at hV ⊢
  have HV := Lib.hid hV
  clear hV hMM
  by_cases cA : (M : Int) > 200
  · have t1 : decide ((M : Int) > 200) = true := by simpa using cA
    have t2 : decide (200 < (M : Int)) = true := by simpa using cA
    clear cA
    go_enter Try.func3, Try.ntmps3
    go_wp2_with (go_at_call 4; refine (known_any _).mono ?_; rintro e w9 ⟨rfl, h1⟩; have H9 := Lib.hid h1; clear h1)
    go_ret
    exact ⟨rfl, H9.out⟩
  have cA1 : decide ((M : Int) > 200) = false := by simpa using cA
  have cA2 : decide (200 < (M : Int)) = false := by simpa using cA
  by_cases cB : B < 1
  · have t1 : decide (B < 1) = true := by simpa using cB
    clear cB
    go_enter Try.func3, Try.ntmps3
    go_wp2_with (go_at_call 4; refine (known_any _).mono ?_; rintro e w9 ⟨rfl, h1⟩; have H9 := Lib.hid h1; clear h1)
    go_ret
    exact ⟨rfl, H9.out⟩
  have cB1 : decide (B < 1) = false := by simpa using cB
  by_cases cC : B > 1000
  · have t1 : decide (B > 1000) = true := by simpa using cC
    have t2 : decide (1000 < B) = true := by simpa using cC
    clear cC
    go_enter Try.func3, Try.ntmps3
    go_wp2_with (go_at_call 4; refine (known_any _).mono ?_; rintro e w9 ⟨rfl, h1⟩; have H9 := Lib.hid h1; clear h1)
    go_ret
    exact ⟨rfl, H9.out⟩
  have cC1 : decide (B > 1000) = false := by simpa using cC
  have cC2 : decide (1000 < B) = false := by simpa using cC
  by_cases cD : per < 1
  · have t1 : decide (per < 1) = true := by simpa using cD
    clear cD
    go_enter Try.func3, Try.ntmps3
    go_wp2_with (go_at_call 4; refine (known_any _).mono ?_; rintro e w9 ⟨rfl, h1⟩; have H9 := Lib.hid h1; clear h1)
    go_ret
    exact ⟨rfl, H9.out⟩
  have cD1 : decide (per < 1) = false := by simpa using cD
  by_cases cE : per > 4294967296
  · have t1 : decide (per > 4294967296) = true := by simpa using cE
    have t2 : decide (4294967296 < per) = true := by simpa using cE
    clear cE
    go_enter Try.func3, Try.ntmps3
    go_wp2_with (go_at_call 4; refine (known_any _).mono ?_; rintro e w9 ⟨rfl, h1⟩; have H9 := Lib.hid h1; clear h1)
    go_ret
    exact ⟨rfl, H9.out⟩
  have cE1 : decide (per > 4294967296) = false := by simpa using cE
  have cE2 : decide (4294967296 < per) = false := by simpa using cE
  by_cases cF : most < 2
  · have t1 : decide (most < 2) = true := by simpa using cF
    clear cF
    go_enter Try.func3, Try.ntmps3
    go_wp2_with (go_at_call 4; refine (known_any _).mono ?_; rintro e w9 ⟨rfl, h1⟩; have H9 := Lib.hid h1; clear h1)
    go_ret
    exact ⟨rfl, H9.out⟩
  have cF1 : decide (most < 2) = false := by simpa using cF
  by_cases cG : most > 16
  · have t1 : decide (most > 16) = true := by simpa using cG
    have t2 : decide (16 < most) = true := by simpa using cG
    clear cG
    go_enter Try.func3, Try.ntmps3
    go_wp2_with (go_at_call 4; refine (known_any _).mono ?_; rintro e w9 ⟨rfl, h1⟩; have H9 := Lib.hid h1; clear h1)
    go_ret
    exact ⟨rfl, H9.out⟩
  have cG1 : decide (most > 16) = false := by simpa using cG
  have cG2 : decide (16 < most) = false := by simpa using cG
  have hm : mayC 8 most = true := mayC_iff.2 ⟨by decide, by decide, by omega, by omega⟩
  have b0 : 1 ≤ B := by omega
  have b1 : B ≤ 4294967296 := by omega
  have p0 : 1 ≤ per := by omega
  have p1 : per ≤ 4294967296 := by omega
  have hM : M ≤ 200 := by omega
  have HM := Lib.hid hm
  have HM1 := Lib.hid (fun (W : World) (c : Nat) (S : List Nat) (h : CtxAt W c S ⟨8, 1, [], [], 0⟩ most) => make_first h b0 b1 p0 p1)
  clear cA cB cC cD cE cF cG hm
  go_enter Try.func3, Try.ntmps3
  go_wp2_with (first
    | (go_at_call 5; refine (New_yes _ HM.out).mono ?_; rintro e w1 ⟨c, g, rfl, hT, lc, lg, hc⟩; have HT := Lib.hid hT; have HC := Lib.hid hc; have HLG := Lib.hid lg; clear hT hc lc lg)
    | (go_at_call 6; (with_reducible refine (HM1.out _ _ _ HT.out).mono ?_); rintro e w2 ⟨rfl, A1, cc1, S1, q1, q2, q3⟩; have HT2 := Lib.hid (q1.quiet ((Chg.refl [] w2).alloc (.cells #[.int .i64 0, .int .u64 1] 30))); have HS2 := Lib.hid (show ∀ k ∈ S1, w.heap.size ≤ k from fun k hk => (q2 k hk).elim (fun h => by simp at h; subst h; exact HLG.out) (fun h => Nat.le_trans HC.out.size h)); have HC2 := Lib.hid ((HC.out.trans q3 (fun k hk => by simp at hk; subst hk; exact .inr HLG.out)).alloc (.cells #[.int .i64 0, .int .u64 1] 30)); clear q1 q2 q3)
    | (go_at_call 6; refine (make_second HT2.out).mono ?_; rintro e w3 ⟨rfl, A2, cc2, hT3⟩; have HT3 := Lib.hid hT3; clear hT3))
  obtain ⟨ba, hba⟩ : ∃ b, b = w2.heap.size := ⟨_, rfl⟩
  obtain ⟨bb, hbb⟩ : ∃ b, b = w3.heap.size := ⟨_, rfl⟩
  have HBa : Hid (Blk (w3.alloc (.cells #[.int .i64 1, .int .u64 1] 30)) ba 30 #[.int .i64 0, .int .u64 1]) := Lib.hid (by
    obtain ⟨g0, _, hTab, _, _⟩ := id HT2.out
    have hb0 : Blk (w2.alloc (.cells #[.int .i64 0, .int .u64 1] 30)) ba 30 #[.int .i64 0, .int .u64 1] := by rw [hba]; exact Blk.new _ _ _
    exact (hb0.chg HT3.out.choose_spec.2.2 (hTab.not_box hb0 (by decide) (by decide) (by decide))).alloc _)
  have HBb : Hid (Blk (w3.alloc (.cells #[.int .i64 1, .int .u64 1] 30)) bb 30 #[.int .i64 1, .int .u64 1]) := Lib.hid (by rw [hbb]; exact Blk.new _ _ _)
  have HW0 := Lib.hid ((WS.start HS2.out HC2.out HM.out b0 b1 p0 p1 HT3.out).quiet ((Chg.refl [] w3).alloc (.cells #[.int .i64 1, .int .u64 1] 30)))
  rw [← hba, ← hbb]
  obtain ⟨W0, hW0⟩ : ∃ W0, W0 = w3.alloc (.cells #[.int .i64 1, .int .u64 1] 30) := ⟨_, rfl⟩
  rw [← hW0] at HBa HBb HW0 ⊢
  clear hba hbb hW0 HT3 HT2 HS2 HC2 HT HC HLG HM1
  go_loopg [14, 15, 16] M (fun gh s14 s15 s16 wx => ∃ (k : Nat) (now : Int) (U : List Int), k + gh = M ∧ s16 = .int .i64 k ∧ s14 = .int .u64 now ∧ Hid (WS w c B per most k k now U U s15 wx ∧ Blk wx ba 30 #[.int .i64 0, .int .u64 1] ∧ Blk wx bb 30 #[.int .i64 1, .int .u64 1]))
  case atStart => exact ⟨0, 0, [], by omega, rfl, rfl, Lib.hid ⟨HW0.out, HBa.out, HBb.out⟩⟩
  case round =>
    clear HW0 HBa HBb
    obtain ⟨k, now, U, hk, rfl, rfl, HR⟩ := hrel
    by_cases hlt : k < M
    · have k0 : (0 : Int) ≤ (k : Int) := by omega
      have k1 : (k : Int) < (M : Int) := by omega
      obtain ⟨bz, off, kind, ri, rq, ti, tq, aA, aB, T, rfl, hat, hfit, hcs⟩ := HV.out.is_ hlt
      obtain ⟨e0, e1, e2, e3, e4, e5, e6, e7⟩ := hcs _ HR.out.1.chg
      have hT0 : 0 ≤ T := hfit.uT.1
      have uA := hfit.uA
      have HUA := Lib.hid uA
      obtain ⟨X0, hX0⟩ := HR.out.1.win
      have n0 := hX0.now0
      have n1 := hX0.now1
      have hUk := hX0.used
      obtain ⟨nw, hnw⟩ : ∃ nw, nw = now + T % 100 := ⟨_, rfl⟩
      have hs8 := HR.out.1.skip (d := T % 100) (by omega) (by omega)
      have hsk := (HR.out.1.more (by omega)).skip (d := T % 100) (by omega) (by omega)
      rw [← hnw] at hsk hs8
      have wr0 : IntKind.u64.wrap (now + T % 100) = nw := by rw [hnw, IntKind.wrap_u64]; omega
      have wr1 : IntKind.u64.wrap (now + T.tmod 100) = nw := by rw [Int.tmod_eq_emod_of_nonneg hT0]; exact wr0
      obtain ⟨m, hm9⟩ : ∃ m, U.length = m := ⟨_, rfl⟩
      obtain ⟨A5, c5, rfl⟩ := hsk.un.val hm9
      have HM9 := Lib.hid hm9
      have hmk : m ≤ k := by omega
      have hcx : Chg [] wr (wr.alloc (.cells #[.int .i64 kind, .int .i64 ri, .int .u64 rq, .int .i64 ti, .int .u64 tq, .int .u64 aA, .int .u64 aB, .int .u64 T] 35)) := (Chg.refl _ _).alloc _
      have HQ := Lib.hid (hsk.quiet hcx)
      have HR8 := Lib.hid (hs8.quiet hcx)
      have HBA := Lib.hid (HR.out.2.1.chg hcx (by simp))
      have HBB := Lib.hid (HR.out.2.2.chg hcx (by simp))
      have HBX := Lib.hid (Blk.new wr 35 #[.int .i64 kind, .int .i64 ri, .int .u64 rq, .int .i64 ti, .int .u64 tq, .int .u64 aA, .int .u64 aB, .int .u64 T])
      have HNW := Lib.hid hnw
      have ka0 := HR.out.2.1.cell 0
      have ka1 := HR.out.2.1.cell 1
      have kb0 := HR.out.2.2.cell 0
      have kb1 := HR.out.2.2.cell 1
      have la := HR.out.2.1.lt
      have lb := HR.out.2.2.lt
      simp only [List.getElem?_toArray, List.getElem?_cons_succ, List.getElem?_cons_zero] at ka0 ka1 kb0 kb1
      clear hat hfit hcs hsk hs8 hX0 hcx hm9 uA HR hnw n0 n1 hUk
      go_upto_if 95 with fail
      go_cut [15] from 78 to 158 (fun s15 wc => ∃ (U7 : List Int), Hid (WS w c B per most (k + 1) (k + 1) nw U7 U7 s15 wc ∧ Blk wc ba 30 #[.int .i64 0, .int .u64 1] ∧ Blk wc bb 30 #[.int .i64 1, .int .u64 1]))
      case first =>
        by_cases h4 : kind = 4
        · have d4 : (kind == 4) = true := by simpa using h4
          have d4' : decide (kind = 4) = true := by simpa using h4
          obtain ⟨b, hcan, hch⟩ := HQ.out.charge (by omega) (by have := HM9.out; omega) p0
          have HCH := Lib.hid hch
          clear hch h4
          cases b with
          | true =>
            go_wp2_with (first
              | (go_at_call 7; refine hcan.mono ?_; rintro e w4 ⟨rfl, hc4⟩; have HC4 := Lib.hid hc4; have HA4 := Lib.hid (HBA.out.chg hc4 (by simp)); have j0 := HA4.out.cell 0; have j1 := HA4.out.cell 1; simp only [List.getElem?_toArray, List.getElem?_cons_succ, List.getElem?_cons_zero] at j0 j1; clear hc4)
              | (go_at_call 8; refine (HCH.out _ HC4.out).mono ?_; rintro e w5 ⟨rfl, hy, _⟩; have HWS := Lib.hid (hy (by simp)).1; have HKB := Lib.hid (hy (by simp)).2; clear hy)
              | (at_builtin; refine wpList_append_u (U := U) (x := nw) (N := m + 1) _ rfl _ _ rfl (by rfl) (by rfl) (HWS.out.un.quiet ((Chg.refl [] w5).alloc (.cells #[.int .u64 nw] 22))) (Blk.new _ 22 _) (by have := HM9.out; omega) (by rw [HM9.out]) ?_; intro A6 c6 w6 hr hg hf; have H6 := Lib.hid (HWS.out.append (x := nw) (y := nw) hr hg hf); clear hr hg hf))
            go_meet
            exact ⟨_, Lib.hid ⟨H6.out.1, H6.out.2 _ _ _ (.inl rfl) (HKB.out _ _ _ (.inl rfl) (HBA.out.chg HC4.out (by simp))), H6.out.2 _ _ _ (.inl rfl) (HKB.out _ _ _ (.inl rfl) (HBB.out.chg HC4.out (by simp)))⟩⟩
          | false =>
            go_wp2_with (first
              | (go_at_call 7; refine hcan.mono ?_; rintro e w4 ⟨rfl, hc4⟩; have HC4 := Lib.hid hc4; have HA4 := Lib.hid (HBA.out.chg hc4 (by simp)); have j0 := HA4.out.cell 0; have j1 := HA4.out.cell 1; simp only [List.getElem?_toArray, List.getElem?_cons_succ, List.getElem?_cons_zero] at j0 j1; clear hc4)
              | (go_at_call 8; refine (HCH.out _ HC4.out).mono ?_; rintro e w5 ⟨rfl, _, hy⟩; have HWS := Lib.hid (hy (by simp)).1; have HKB := Lib.hid (hy (by simp)).2; clear hy))
            go_meet
            exact ⟨_, Lib.hid ⟨HWS.out, HKB.out _ _ _ (.inl rfl) (HBA.out.chg HC4.out (by simp)), HKB.out _ _ _ (.inl rfl) (HBB.out.chg HC4.out (by simp))⟩⟩
        · have d4 : (kind == 4) = false := by simpa using h4
          have d4' : decide (kind = 4) = false := by simpa using h4
          by_cases h5 : kind = 5
          · have d5 : (kind == 5) = true := by simpa using h5
            have d5' : decide (kind = 5) = true := by simpa using h5
            have hsp := HQ.out.split (by omega) HUA.out
            clear h4 h5
            go_wp2_with (go_at_call 9; refine hsp.mono ?_; rintro e w5 ⟨v5, rfl, hws, hkb⟩; have HWS := Lib.hid hws; have HKB := Lib.hid hkb; clear hws hkb)
            go_meet
            exact ⟨_, Lib.hid ⟨HWS.out, HKB.out _ _ _ (.inl rfl) HBA.out, HKB.out _ _ _ (.inl rfl) HBB.out⟩⟩
          · have d5 : (kind == 5) = false := by simpa using h5
            have d5' : decide (kind = 5) = false := by simpa using h5
            by_cases h6 : kind = 6
            · have d6 : (kind == 6) = true := by simpa using h6
              have d6' : decide (kind = 6) = true := by simpa using h6
              have hsp := HQ.out.other (by omega)
              clear h4 h5 h6
              go_wp2_with (go_at_call 8; refine hsp.mono ?_; rintro e w5 ⟨v5, rfl, hws, hkb⟩; have HWS := Lib.hid hws; have HKB := Lib.hid hkb; clear hws hkb)
              go_meet
              exact ⟨_, Lib.hid ⟨HWS.out, HKB.out _ _ _ (.inl rfl) HBA.out, HKB.out _ _ _ (.inl rfl) HBB.out⟩⟩
            · have d6 : (kind == 6) = false := by simpa using h6
              have d6' : decide (kind = 6) = false := by simpa using h6
              have hsp := HR8.out.bind (by omega)
              have HMK := Lib.hid (fun (W : World) (hws : WS w c B per most (k + 1) (k + 1) nw U U (.slice A5 m c5) W) => hws.make (by omega) aA aB)
              clear h4 h5 h6
              go_wp2_with (first
                | (go_at_call 10; refine hsp.mono ?_; rintro e w4 ⟨v4, rfl, hws, hkb⟩; have HWS4 := Lib.hid hws; have HKB4 := Lib.hid hkb; have hbx := hkb _ _ _ (.inr rfl) HBX.out; have y5 := hbx.cell 5; have y6 := hbx.cell 6; simp only [List.getElem?_toArray, List.getElem?_cons_succ, List.getElem?_cons_zero] at y5 y6; clear hws hkb hbx)
                | (go_at_call 6; refine (HMK.out _ HWS4.out).mono ?_; rintro e w5 ⟨v5, rfl, hws, hkb⟩; have HWS := Lib.hid hws; have HKB := Lib.hid hkb; clear hws hkb))
              go_meet
              exact ⟨_, Lib.hid ⟨HWS.out, HKB.out _ _ _ (.inl rfl) (HKB4.out _ _ _ (.inl rfl) HBA.out), HKB.out _ _ _ (.inl rfl) (HKB4.out _ _ _ (.inl rfl) HBB.out)⟩⟩
      case rest =>
        clear HQ HR8 HBA HBB HBX ka0 ka1 kb0 kb1 la lb e0 e1 e2 e3 e4 e5 e6 e7 wr0 wr1 HUA hT0
        obtain ⟨U7, H7⟩ := hcut
        obtain ⟨X7, hX7⟩ := H7.out.1.win
        have hl7 := hX7.used
        obtain ⟨mm, hmm⟩ : ∃ q, U7.length = q := ⟨_, rfl⟩
        obtain ⟨A7, c7, rfl⟩ := H7.out.1.un.val hmm
        have HUN := Lib.hid H7.out.1.un
        have HU := Lib.hid hX7
        have HPAST := Lib.hid (fun j u (hj : U7[j]? = some u) => hX7.past u (List.mem_of_getElem? hj))
        have hw0 := hX7.now0
        have hw1 := hX7.now1
        have hmm9 : mm ≤ 201 := by omega
        have HL7 := Lib.hid hmm
        have q2 : IntKind.i64.wrap ((mm : Int) - 1) = (mm : Int) - 1 := by rw [IntWalk.i64_in _ (by omega)]
        clear hX7 hmm hl7
        go_wp2
        go_loopg [19, 20] mm (fun gq s19 s20 wy => ∃ q : Nat, q = gq ∧ s19 = .int .u64 ((mm - q : Nat) : Int) ∧ s20 = .int .i64 ((q : Int) - 1) ∧ wy = wc ∧ Hid (q ≤ mm ∧ ∀ j u, q ≤ j → U7[j]? = some u → nw < u + per))
        case atStart => exact ⟨mm, rfl, by simp, rfl, rfl, Lib.hid ⟨Nat.le_refl _, fun j u hj hu => by have h1 := (List.getElem?_eq_some_iff.1 hu).1; have h2 := HL7.out; omega⟩⟩
        case round =>
          obtain ⟨q, rfl, rfl, rfl, rfl, HIN⟩ := hrel
          have hwin := HU.out.window HIN.out.2
          rw [HL7.out, show sumP [(B, 0)] = B by simp [sumP]] at hwin
          have z0 : decide (((mm - q : Nat) : Int) > B) = false := by simp; omega
          have z0' : decide (B < ((mm - q : Nat) : Int)) = false := by simp; omega
          clear hwin
          cases q with
          | zero =>
            have zz : decide ((mm : Int) > B) = false := by simpa using z0
            have zz' : decide (B < (mm : Int)) = false := by simpa using z0'
            rw [Nat.sub_zero] at z0 z0'
            have z1 : decide (((0 : Nat) : Int) - 1 ≥ 0) = false := by decide
            have z2 : decide ((-1 : Int) ≥ 0) = false := by decide
            have z3 : decide ((0 : Int) ≤ -1) = false := by decide
            go_wp2
            go_roundg (M - k - 1)
            case measure => omega
            case rel => exact ⟨k + 1, nw, U7, by omega, by go_num, rfl, Lib.hid H7.out⟩
          | succ p =>
            rw [show (((p + 1 : Nat) : Int) - 1) = (p : Int) by omega]
            have hpm : p < mm := by have := HIN.out.1; omega
            obtain ⟨u, hu⟩ : ∃ u, U7[p]? = some u := ⟨_, List.getElem?_eq_getElem (by have := HL7.out; omega)⟩
            obtain ⟨g9, rfl, hz9, z4⟩ := HUN.out.at_ hu
            clear hz9
            obtain ⟨u0, u1⟩ := HPAST.out p u hu
            have z5 : IntKind.u64.wrap (nw - u) = nw - u := by rw [IntKind.wrap_u64]; omega
            have z6 : (0 : Int) ≤ (p : Int) := by omega
            have z7 : (p : Int) < (mm : Int) := by omega
            have z8 : decide ((p : Int) ≥ 0) = true := by simp
            have z9 : decide ((0 : Int) ≤ (p : Int)) = true := by simp
            by_cases hlp : nw - u < per
            · have gg : decide (nw - u < per) = true := by simpa using hlp
              have zA : IntKind.u64.wrap (((mm - (p + 1) : Nat) : Int) + 1) = ((mm - p : Nat) : Int) := by rw [IntKind.wrap_u64]; omega
              have zB : IntKind.i64.wrap ((p : Int) - 1) = (p : Int) - 1 := by rw [IntWalk.i64_in _ (by omega)]
              have HIN2 := Lib.hid (show p ≤ mm ∧ ∀ j u, p ≤ j → U7[j]? = some u → nw < u + per from ⟨by omega, fun j u' hj hu' => by
                by_cases e : j = p
                · subst e
                  rw [hu] at hu'
                  cases hu'
                  omega
                · exact HIN.out.2 j u' (by omega) hu'⟩)
              clear hu hlp z0 z0' hpm u0 u1
              go_wp2
              go_roundg p
              case measure => omega
              case rel => exact ⟨p, rfl, rfl, rfl, rfl, Lib.hid HIN2.out⟩
            · have gg : decide (nw - u < per) = false := by simpa using hlp
              clear hu hlp hpm u0 u1
              go_wp2
              go_roundg (M - k - 1)
              case measure => omega
              case rel => exact ⟨k + 1, nw, U7, by omega, by go_num, rfl, Lib.hid H7.out⟩
    · obtain rfl : k = M := by omega
      have HC := Lib.hid HR.out.1.chg
      clear HR
      go_wp2_with (go_at_call 4; refine (known_any _).mono ?_; rintro e w9 ⟨rfl, h1⟩; have H9 := Lib.hid h1; clear h1)
      go_ret
      exact ⟨rfl, HC.out.then H9.out⟩
end Go.Proofs
