import Derived.Test.YtoddffpbbnicpaaRvA
namespace Go.Proofs
open Go.RowKit
set_option linter.unusedVariables false

section
variable {w : World} {r : Nat} {S : List Nat} {M : Nat} {L : List Int} {N : Option Int} {V : Value} {aff : List Int} {p : Int}
theorem stl_len_le (f : Int → Bool) (k : Nat) (l : List Int) : (stl f k l).length ≤ l.length := by have := steal_len f k l; omega
theorem rst_len_le (f : Int → Bool) (k : Nat) (l : List Int) : (rst f k l).length ≤ l.length := by have := steal_len f k l; omega
set_option maxRecDepth 100000 in
set_option maxHeartbeats 6400000 in
theorem rsteal_any (h : RefAt w r S M L N) (hl : L.length ≤ 4096) (hV : Bs w V aff) (hfar : aff = [] ∨ ∀ k ∈ foot V, k ≠ r) :
    Calls Try.prog 22 #[.pointer (some ⟨r, 0, none⟩), .int .i64 p, V] w fun e w' => ∃ v, e = .returned v ∧ RTold r S M v (stealS (mayP aff p) L N) (stealL (mayP aff p) L) (stealN (mayP aff p) L N) w w' := by
  obtain ⟨VL, VN, hB, hR, hN, hS⟩ := h
  obtain ⟨A, c, rfl, _, _, _, ho⟩ := hR.open_
  obtain ⟨A2, c2, rfl, _, _, _, hoN⟩ := hN.open_
  obtain ⟨A3, c3, rfl, _⟩ := id hV
  have k0 := hB.cell 0
  have k2 := hB.cell 2
  have f0 := hB.frozen 0
  have f2 := hB.frozen 2
  have lr := hB.lt
  have hmy : ∀ W, Chg [] w W → ∀ x, Calls Try.prog 21 #[.int .i64 x, .int .i64 p, .slice A3 aff.length c3] W fun e w' => e = .returned (.bool (mayP aff p x)) ∧ W = w' := fun W hW x => rmay_any (hV.quiet hW) x p
  have hmy2 : ∀ W, Chg [r] w W → ∀ x, Calls Try.prog 21 #[.int .i64 x, .int .i64 p, .slice A3 aff.length c3] W fun e w' => e = .returned (.bool (mayP aff p x)) ∧ W = w' := fun W hW x => rmay_any (hV.chg hW (hfar.imp id (fun hh k hk hm => hh k hk (by simpa using hm)))) x p
  obtain ⟨f, hf⟩ : ∃ f, f = mayP aff p := ⟨_, rfl⟩
  rw [← hf] at hmy hmy2 ⊢
  obtain ⟨n, hn⟩ : ∃ n, n = L.length := ⟨_, rfl⟩
  simp only [List.getElem?_toArray, List.getElem?_cons_succ, List.getElem?_cons_zero, ← hn] at k0 k2
  rw [← hn] at hl hR hB hS
  have HN := Lib.hid hn
  have HO := Lib.hid ho
  have HON := Lib.hid hoN
  have HB := Lib.hid hB
  have HNN := Lib.hid hN
  have HS := Lib.hid hS
  have HMY := Lib.hid hmy
  have HMY2 := Lib.hid hmy2
  have hcle : ∀ k, (L.take k).countP f ≤ n := fun k => by
    have h1 := List.countP_le_length (p := f) (l := L.take k)
    rw [List.length_take] at h1; omega
  have HLE := Lib.hid hcle
  clear hR hB hN hS hf hn ho hoN hV hfar hmy hmy2 hcle
  go_enter Try.func22, Try.ntmps22
  go_wp2
  go_loop [7, 8] (fun s i => ∃ k : Nat, k ≤ n ∧ i = .int .i64 k ∧ s = .int .i64 ((L.take k).countP f : Nat)) (fun _ i => n - (intOf i).toNat)
  case atStart => exact ⟨0, Nat.zero_le _, rfl, rfl⟩
  case round =>
    obtain ⟨k, hk, rfl, rfl⟩ := hrel
    by_cases hlt : k < n
    · obtain ⟨y, hy⟩ : ∃ y, L[k]? = some y := ⟨_, List.getElem?_eq_getElem (by rw [← HN.out]; exact hlt)⟩
      obtain ⟨b, o, rfl, _, hc⟩ := HO.out k y hy
      have hcall := HMY.out w (Chg.refl _ _) y
      have HT := Lib.hid (show (L.take (k + 1)).countP f = (L.take k).countP f + (if f y then 1 else 0) by
        obtain ⟨hk9, rfl⟩ := List.getElem?_eq_some_iff.1 hy
        rw [List.take_succ_eq_append_getElem hk9, List.countP_append]
        simp [List.countP_cons])
      have hcn := HLE.out k
      obtain ⟨C, hC⟩ : ∃ C, C = (L.take k).countP f := ⟨_, rfl⟩
      rw [← hC] at HT hcn ⊢
      have i0 : (0 : Int) ≤ (k : Int) := by omega
      have i1 : (k : Int) < (n : Int) := by omega
      obtain ⟨B, hB⟩ : ∃ B, B = f y := ⟨_, rfl⟩
      rw [← hB] at hcall HT
      clear hy hC hB
      cases B with
      | true =>
        go_wp2_with (go_at_call 21; refine hcall.mono ?_; rintro e w' ⟨rfl, rfl⟩)
        go_round
        case rel => exact ⟨k + 1, by omega, by go_num, by rw [HT.out]; simp⟩
        case measure => simp [intOf]; omega
      | false =>
        go_wp2_with (go_at_call 21; refine hcall.mono ?_; rintro e w' ⟨rfl, rfl⟩)
        go_round
        case rel => exact ⟨k + 1, by omega, by go_num, by rw [HT.out]; simp⟩
        case measure => simp [intOf]; omega
    · obtain rfl : k = n := by omega
      have HE := Lib.hid (show L.take k = L by rw [HN.out, List.take_length])
      have hCL := HLE.out k
      rw [HE.out] at hCL ⊢
      obtain ⟨C, hC⟩ : ∃ C, C = L.countP f := ⟨_, rfl⟩
      rw [← hC] at hCL ⊢
      have HCC := Lib.hid hC
      obtain ⟨K, hK⟩ : ∃ K, K = halfN C := ⟨_, rfl⟩
      have HK := Lib.hid hK
      have HST := Lib.hid (RMid.start w f L K)
      clear hC hK hlt
      go_wp2
      go_loopw [9, 10, 11] (fun v9 v10 i wr => ∃ j : Nat, j ≤ k ∧ i = .int .i64 j ∧ Hid (RMid w f L K j v9 v10 wr)) (fun _ _ i _ => k - (intOf i).toNat)
      case atStart => exact ⟨0, Nat.zero_le _, rfl, HST⟩
      case round =>
        obtain ⟨j, hj, rfl, HM⟩ := hrel
        have hc0 := HM.out.out.2.2
        have e0 := (hc0.cell (p := ⟨r, 0, none⟩) lr (by simp)).trans k0
        obtain ⟨A9, c9, rfl, _⟩ := HM.out.out.1.val
        obtain ⟨A10, c10, rfl, _⟩ := HM.out.left.1.val
        by_cases hlt : j < k
        · obtain ⟨y, hy⟩ : ∃ y, L[j]? = some y := ⟨_, List.getElem?_eq_getElem (by rw [← HN.out]; exact hlt)⟩
          obtain ⟨b, o, rfl, hbl, hc⟩ := HO.out j y hy
          have e1 := (hc0.cell (p := ⟨b, o + j, none⟩) hbl (by simp)).trans hc
          have hcall := HMY.out wr hc0 y
          have HY := Lib.hid hy
          have hs1 := stl_len_le f K (L.take j)
          have hs2 := rst_len_le f K (L.take j)
          rw [List.length_take] at hs1 hs2
          have i0 : (0 : Int) ≤ (j : Int) := by omega
          have i1 : (j : Int) < (k : Int) := by omega
          have hs4 : (stl f K (L.take j)).length + 1 ≤ 5000 := by omega
          have hr4 : (rst f K (L.take j)).length + 1 ≤ 5000 := by omega
          obtain ⟨B, hB⟩ : ∃ B, B = f y := ⟨_, rfl⟩
          rw [← hB] at hcall
          have HBB := Lib.hid hB
          have HCH := Lib.hid hc0
          have R9 := Lib.hid (HM.out.out.1.alloc (.cells #[.int .i64 y] 3))
          have R10 := Lib.hid (HM.out.left.1.alloc (.cells #[.int .i64 y] 3))
          clear hy hc hbl hc0 hB
          cases B with
          | true =>
            by_cases hsk : (stl f K (L.take j)).length < K
            · have i2 : 2 * (((stl f K (L.take j)).length : Nat) : Int) < (C : Int) := by have := HK.out; unfold halfN at this; omega
              have HSK := Lib.hid hsk
              clear hsk
              go_wp2_with (first
                | (go_at_call 21; refine hcall.mono ?_; rintro e w' ⟨rfl, rfl⟩)
                | (at_builtin; refine wpList_append_rd _ rfl _ _ rfl (by rfl) (by rfl) R9.out (Rd.one _ y) (by simp only [List.length_cons, List.length_nil]; omega) ?_; intro v' w3 hr hg hft; have HR := Lib.hid (HM.out.took HY.out HBB.out.symm HSK.out ((Chg.refl _ _).alloc _) hr hg hft); clear hr hg hft))
              go_roundw
              case rel => exact ⟨j + 1, by omega, by go_num, HR⟩
              case measure => simp [intOf]; omega
            · have i2 : ¬ (2 * (((stl f K (L.take j)).length : Nat) : Int) < (C : Int)) := by have := HK.out; unfold halfN at this; omega
              have HSK := Lib.hid (show ¬ (f y = true ∧ (stl f K (L.take j)).length < K) from fun h => hsk h.2)
              clear hsk
              go_wp2_with (first
                | (go_at_call 21; refine hcall.mono ?_; rintro e w' ⟨rfl, rfl⟩)
                | (at_builtin; refine wpList_append_rd _ rfl _ _ rfl (by rfl) (by rfl) R10.out (Rd.one _ y) (by simp only [List.length_cons, List.length_nil]; omega) ?_; intro v' w3 hr hg hft; have HR := Lib.hid (HM.out.left_ HY.out HSK.out ((Chg.refl _ _).alloc _) hr hg hft); clear hr hg hft))
              go_roundw
              case rel => exact ⟨j + 1, by omega, by go_num, HR⟩
              case measure => simp [intOf]; omega
          | false =>
            have HSK := Lib.hid (show ¬ (f y = true ∧ (stl f K (L.take j)).length < K) from fun h => by rw [← HBB.out] at h; cases h.1)
            go_wp2_with (first
              | (go_at_call 21; refine hcall.mono ?_; rintro e w' ⟨rfl, rfl⟩)
              | (at_builtin; refine wpList_append_rd _ rfl _ _ rfl (by rfl) (by rfl) R10.out (Rd.one _ y) (by simp only [List.length_cons, List.length_nil]; omega) ?_; intro v' w3 hr hg hft; have HR := Lib.hid (HM.out.left_ HY.out HSK.out ((Chg.refl _ _).alloc _) hr hg hft); clear hr hg hft))
            go_roundw
            case rel => exact ⟨j + 1, by omega, by go_num, HR⟩
            case measure => simp [intOf]; omega
        · obtain rfl : j = k := by omega
          have hX : stl f K (L.take j) = stealR f L := by rw [HE.out, HK.out, HCC.out]; rfl
          have hY : rst f K (L.take j) = stealL f L := by rw [HE.out, HK.out, HCC.out]; rfl
          have hO := HM.out.out
          have hF := HM.out.left
          rw [hX] at hO ⊢
          rw [hY] at hF ⊢
          have e2 := (hc0.cell (p := ⟨r, 2, none⟩) lr (by simp)).trans k2
          have g0 := (hc0.frozen (p := ⟨r, 0, none⟩) lr (by simp)).trans f0
          have g2 := (hc0.frozen (p := ⟨r, 2, none⟩) lr (by simp)).trans f2
          obtain ⟨X, hXX⟩ : ∃ X, X = stealR f L := ⟨_, rfl⟩
          obtain ⟨Y, hYY⟩ : ∃ Y, Y = stealL f L := ⟨_, rfl⟩
          have hSS : stealS f L N = (if X.length = 0 then N.toList.filter f else X) := by rw [hXX]; rfl
          have hSN : stealN f L N = (if X.length = 0 then N.filter (fun x => !f x) else N) := by rw [hXX]; rfl
          rw [← hXX] at hO ⊢
          rw [← hYY] at hF ⊢
          have HT := Lib.hid (RTurns.setL HB.out HNN.out HS.out hc0 hF.rd (fun b hb => .inr (hF.2.1 b hb)))
          have HT2 := Lib.hid (RTurns.setLN HB.out HS.out hc0 hF.rd hF.2.1)
          have HO2 := Lib.hid hO
          have HCH := Lib.hid hc0
          have hro : ∀ V, Rd (wr.setCell ⟨r, 0, none⟩ V) (.slice A9 X.length c9) X := fun V => hO.rd.same fun b hb => Below.heap_setCell _ _ _ _ (fun e => by have := hO.2.1 b hb; have e' : b = r := e; omega)
          have HRO := Lib.hid hro
          obtain ⟨x, hx⟩ : ∃ x, x = X.length := ⟨_, rfl⟩
          rw [← hx] at hSS hSN ⊢
          have HXL := Lib.hid hx
          have HYY := Lib.hid hYY.symm
          clear hX hY hO hF hXX hYY hx hc0 HM hlt hro
          by_cases h0 : x = 0
          · subst h0
            rw [if_pos rfl] at hSS hSN
            have HX0 := Lib.hid (List.eq_nil_of_length_eq_zero HXL.out.symm)
            cases N with
            | none =>
              simp only [Option.toList_none, List.length_nil] at e2
              have HSS := Lib.hid (show stealS f L none = [] from hSS)
              have HSN := Lib.hid (show stealN f L none = none from hSN)
              clear hSS hSN
              go_wp2
              go_ret
              rw [HSS.out, HSN.out, HYY.out]
              have hr9 := HRO.out (.slice A10 Y.length c10)
              rw [← HXL.out, HX0.out] at hr9
              exact ⟨_, rfl, hr9, (fun b hb => .inr (HO2.out.2.1 b (by rw [← HXL.out]; exact hb))), HT.out⟩
            | some z =>
              obtain ⟨b, o, rfl, hbl, hcz⟩ := HON.out 0 z rfl
              rw [Nat.add_zero] at hcz
              have hbr : b ≠ r := fun e => (HNN.out.ty HB.out (by decide)) (by simp [foot_some, e])
              have e3 : (wr.setCell ⟨r, 0, none⟩ (.slice A10 Y.length c10)).cell? ⟨b, o, none⟩ = some (.int .i64 z) := by
                rw [World.cell?_setCell_other (h := fun e => hbr (by injection e with e _; exact e.symm))]
                exact (HCH.out.cell (p := ⟨b, o, none⟩) hbl (by simp)).trans hcz
              have hcall := HMY2.out (wr.setCell ⟨r, 0, none⟩ (.slice A10 Y.length c10)) (HCH.out.any.setCell (p := ⟨r, 0, none⟩) (.inl (by simp)) _) z
              simp only [Option.toList_some, List.length_cons, List.length_nil] at e2
              by_cases hfz : f z = true
              · have HX1 := Lib.hid (show List.filter f (Option.some z).toList = [z] by simp [hfz])
                have HX2 := Lib.hid (show Option.filter (fun x => !f x) (some z) = none by simp [Option.filter, hfz])
                rw [HX1.out] at hSS
                rw [HX2.out] at hSN
                have HSS := Lib.hid hSS
                have HSN := Lib.hid hSN
                rw [hfz] at hcall
                clear hfz hbl hcz hSS hSN
                go_wp2_with (go_at_call 21; refine hcall.mono ?_; rintro e w' ⟨rfl, rfl⟩)
                go_ret
                rw [HSS.out, HSN.out, HYY.out]
                refine ⟨_, rfl, ?_, fun k hk => .inl (by rw [HS.out]; simp at hk ⊢; exact .inr (.inr hk)), HT2.out⟩
                exact ((HNN.out.quiet HCH.out).same fun k hk => Below.heap_setCell _ _ _ _ (fun e => hbr (by simp [foot_some] at hk; rw [← hk]; exact e))).same fun k hk => Below.heap_setCell _ _ _ _ (fun e => hbr (by simp [foot_some] at hk; rw [← hk]; exact e))
              · have hfz' : f z = false := by simpa using hfz
                have HX1 := Lib.hid (show List.filter f (Option.some z).toList = [] by simp [hfz'])
                have HX2 := Lib.hid (show Option.filter (fun x => !f x) (some z) = some z by simp [Option.filter, hfz'])
                rw [HX1.out] at hSS
                rw [HX2.out] at hSN
                have HSS := Lib.hid hSS
                have HSN := Lib.hid hSN
                rw [hfz'] at hcall
                clear hfz hfz' hbl hcz hSS hSN
                go_wp2_with (go_at_call 21; refine hcall.mono ?_; rintro e w' ⟨rfl, rfl⟩)
                go_ret
                rw [HSS.out, HSN.out, HYY.out]
                have hr9 := HRO.out (.slice A10 Y.length c10)
                rw [← HXL.out, HX0.out] at hr9
                exact ⟨_, rfl, hr9, (fun b hb => .inr (HO2.out.2.1 b (by rw [← HXL.out]; exact hb))), HT.out⟩
          · have hz : ((x : Int) == 0) = false := by simp; omega
            rw [if_neg h0] at hSS hSN
            have HSS := Lib.hid hSS
            have HSN := Lib.hid hSN
            clear h0 hSS hSN
            go_wp2
            go_ret
            rw [HSS.out, HSN.out, HYY.out]
            have hr9 := HRO.out (.slice A10 Y.length c10)
            rw [← HXL.out] at hr9
            exact ⟨_, rfl, hr9, (fun b hb => .inr (HO2.out.2.1 b (by rw [← HXL.out]; exact hb))), HT.out⟩
end
end Go.Proofs
