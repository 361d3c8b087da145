import Derived.Test.YtgdjagbkpdndgaaGaW
namespace Go.Proofs
open Go.RowKit
set_option linter.unusedVariables false

/-- Two queues and the document's, each apart from all others. -/
def Pair (w0 w : World) (q r q' r' k k' : Nat) : Prop :=
  ∃ N S N' S', QAt w q N ∧ RefAt w r S (nu N) ∧ QAt w q' N' ∧ RefAt w r' S' (nu N') ∧ (∀ j ∈ q :: bl N, j ∉ q' :: bl N') ∧ r ≠ r' ∧ (∀ j ∈ r :: q :: bl N, w0.heap.size ≤ j) ∧ (∀ j ∈ r' :: q' :: bl N', w0.heap.size ≤ j) ∧ Chg [] w0 w ∧ (nu N).length ≤ 50 * k ∧ (nu N').length ≤ 50 * k'
theorem RefAt.not_other {w : World} {r r' : Nat} {S S' : List Nat} {L L' : List Int} (H : RefAt w r S L) (H' : RefAt w r' S' L') (hne : r ≠ r') : r ∉ S' := by
  obtain ⟨V, h1, _⟩ := H
  obtain ⟨V', g1, g2, rfl⟩ := H'
  intro hm
  rcases List.mem_cons.1 hm with h9 | h9
  · exact hne h9
  · exact g2.ty h1 (by decide) h9
section
variable {w0 w w1 : World} {q r q' r' k k' : Nat}
theorem Pair.swap (H : Pair w0 w q r q' r' k k') : Pair w0 w q' r' q r k' k := by
  obtain ⟨N, S, N', S', h1, h2, h3, h4, h5, h6, h7, h8, h9, g1, g2⟩ := H
  exact ⟨N', S', N, S, h3, h4, h1, h2, fun j hj hm => h5 j hm hj, h6.symm, h8, h7, h9, g2, g1⟩
theorem Pair.quiet (H : Pair w0 w q r q' r' k k') (hc : Chg [] w w1) : Pair w0 w1 q r q' r' k k' := by
  obtain ⟨N, S, N', S', h1, h2, h3, h4, h5, h6, h7, h8, h9, g1, g2⟩ := H
  exact ⟨N, S, N', S', h1.quiet hc, h2.quiet hc, h3.quiet hc, h4.quiet hc, h5, h6, h7, h8, h9.then hc, g1, g2⟩
theorem Pair.chg0 (H : Pair w0 w q r q' r' k k') : Chg [] w0 w := by
  obtain ⟨N, S, N', S', h1, h2, h3, h4, h5, h6, h7, h8, h9, g1, g2⟩ := H
  exact h9
theorem Pair.does (H : Pair w0 w q r q' r' k k') (hk : k ≤ 150) (a : ActV) (hf : a.Fits w0 w0.heap.size) (hl : a.l.length ≤ 50) :
    Calls Try.prog 11 #[.pointer (some ⟨q, 0, none⟩), .pointer (some ⟨r, 0, none⟩), a.val] w fun e w' => e = .returned (.bool true) ∧ Pair w0 w' q r q' r' (k + 1) k' := by
  obtain ⟨N, S, N', S', h1, h2, h3, h4, h5, h6, h7, h8, h9, g1, g2⟩ := H
  have hn := nu_len N
  refine (do_any h1 h2 (by omega) a w0.heap.size (hf.chg h9 (fun _ h => by cases h)) (fun j hj => h7 j (List.mem_cons_of_mem _ hj)) hl).mono ?_
  rintro e w' ⟨he, L', ⟨N1, S1, d1, rfl, d3, d4, d5⟩, d6⟩
  have z := h9.size
  have hlt := h3.lt
  obtain ⟨V0, v1, _⟩ := id h2
  have hrq : r ∉ q' :: bl N' := h3.not_ref v1
  refine ⟨he, N1, S1, N', S', d1, d3, h3.chg d5 (fun j hj hm => ?_), h4.chg d5 (fun j hj hm => ?_), fun j hj hm => ?_, h6, fun j hj => ?_, h8, h9.trans d5 (fun j hj => .inr (h7 j hj)), by omega, g2⟩
  · rcases List.mem_cons.1 hm with rfl | hm
    · exact hrq hj
    · exact h5 j hm hj
  · rcases List.mem_cons.1 hm with rfl | hm
    · exact h2.not_other h4 h6 hj
    · exact h4.apart h1 j hj hm
  · rcases List.mem_cons.1 hj with rfl | hj
    · exact h5 _ (by simp) hm
    · rcases d4 j hj with h | h
      · exact h5 j (List.mem_cons_of_mem _ h) hm
      · have := hlt j hm; omega
  · rcases List.mem_cons.1 hj with rfl | hj
    · exact h7 _ (by simp)
    · rcases List.mem_cons.1 hj with rfl | hj
      · exact h7 _ (by simp)
      · rcases d4 j hj with h | h
        · exact h7 j (by simp [h])
        · omega
/-- A copy of both. -/
theorem Pair.make {w2 w3 : World} {N : List (Nat × Int)} {S S2 : List Nat} (h1 : QAt w q N) (h2 : RefAt w r S (nu N)) (h3 : ∀ j ∈ r :: q :: bl N, w0.heap.size ≤ j) (h4 : Chg [] w0 w) (h5 : (nu N).length ≤ 50 * k) (hC : Made (nu N) q' w w2) (d1 : RefAt w3 r' S2 (nu N)) (d2 : ∀ j ∈ S2, w2.heap.size ≤ j) (d3 : Chg [] w2 w3) :
    Pair w0 w3 q r q' r' k k := by
  obtain ⟨N', c1, c2, c3, c4⟩ := hC
  have z0 := h4.size
  have z1 := c4.size
  have hlt := h1.lt
  have hlr := h2.lt r h2.mem
  have hcc := c4.then d3
  have hr' := d2 r' d1.mem
  refine ⟨N, S, N', S2, h1.quiet hcc, h2.quiet hcc, c1.quiet d3, by rw [c2]; exact d1, fun j hj hm => ?_, by omega, h3, fun j hj => ?_, h4.then hcc, h5, by rw [c2]; exact h5⟩
  · have := hlt j hj; have := c3 j hm; omega
  · rcases List.mem_cons.1 hj with rfl | hj
    · omega
    · have := c3 j hj; omega
end

set_option maxRecDepth 100000 in
set_option maxHeartbeats 12800000 in
theorem copies_any (V1 V2 V3 : Value) (l a b : List ActV) (w : World) (hV1 : Acts w w.heap.size V1 l) (hV2 : Acts w w.heap.size V2 a) (hV3 : Acts w w.heap.size V3 b) :
    Calls Try.prog 5 #[V1, V2, V3] w fun e w' => e = .returned (.bool true) ∧ Chg [] w w' := by
  have hfew1 : ∀ W, Chg [] w W → Calls Try.prog 8 #[V1, .int .i64 60] W fun e w' => e = .returned (.bool (fewB l 60)) ∧ W = w' := fun W hW => few_any (hV1.quiet hW) 60 (by omega)
  have hfew2 : ∀ W, Chg [] w W → Calls Try.prog 8 #[V2, .int .i64 30] W fun e w' => e = .returned (.bool (fewB a 30)) ∧ W = w' := fun W hW => few_any (hV2.quiet hW) 30 (by omega)
  have hfew3 : ∀ W, Chg [] w W → Calls Try.prog 8 #[V3, .int .i64 30] W fun e w' => e = .returned (.bool (fewB b 30)) ∧ W = w' := fun W hW => few_any (hV3.quiet hW) 30 (by omega)
  obtain ⟨A1, c1, rfl, _⟩ := hV1.2
  obtain ⟨A2, c2, rfl, _⟩ := hV2.2
  obtain ⟨A3, c3, rfl, _⟩ := hV3.2
  obtain ⟨F1, hF1⟩ : ∃ F, F = fewB l 60 := ⟨_, rfl⟩
  obtain ⟨F2, hF2⟩ : ∃ F, F = fewB a 30 := ⟨_, rfl⟩
  obtain ⟨F3, hF3⟩ : ∃ F, F = fewB b 30 := ⟨_, rfl⟩
  rw [← hF1] at hfew1
  rw [← hF2] at hfew2
  rw [← hF3] at hfew3
  obtain ⟨m1, hm1⟩ : ∃ m, m = l.length := ⟨_, rfl⟩
  obtain ⟨m2, hm2⟩ : ∃ m, m = a.length := ⟨_, rfl⟩
  obtain ⟨m3, hm3⟩ : ∃ m, m = b.length := ⟨_, rfl⟩
  rw [← hm1] at hV1 hfew1
  rw [← hm2] at hV2 hfew2
  rw [← hm3] at hV3 hfew3
  rw [← hm1, ← hm2, ← hm3]
  have HV1 := Lib.hid hV1
  have HV2 := Lib.hid hV2
  have HV3 := Lib.hid hV3
  cases F1 with
  | false =>
    clear hF1 hF2 hF3 hV1 hV2 hV3 hm1 hm2 hm3
    go_enter Try.func5, Try.ntmps5
    go_wp2_with (first
      | (go_at_call 8; ((with_reducible refine (hfew1 _ (Chg.refl _ _)).mono ?_); rintro e w' ⟨rfl, rfl⟩))
      | (go_at_call 8; ((with_reducible refine (hfew2 _ (Chg.refl _ _)).mono ?_); rintro e w' ⟨rfl, rfl⟩))
      | (go_at_call 8; ((with_reducible refine (hfew3 _ (Chg.refl _ _)).mono ?_); rintro e w' ⟨rfl, rfl⟩))
      | (go_at_call 9; refine (known_any _).mono ?_; rintro e w9 ⟨rfl, hc⟩))
    go_ret
    exact ⟨rfl, hc⟩
  | true =>
    cases F2 with
    | false =>
      clear hF1 hF2 hF3 hV1 hV2 hV3 hm1 hm2 hm3
      go_enter Try.func5, Try.ntmps5
      go_wp2_with (first
        | (go_at_call 8; ((with_reducible refine (hfew1 _ (Chg.refl _ _)).mono ?_); rintro e w' ⟨rfl, rfl⟩))
        | (go_at_call 8; ((with_reducible refine (hfew2 _ (Chg.refl _ _)).mono ?_); rintro e w' ⟨rfl, rfl⟩))
        | (go_at_call 8; ((with_reducible refine (hfew3 _ (Chg.refl _ _)).mono ?_); rintro e w' ⟨rfl, rfl⟩))
        | (go_at_call 9; refine (known_any _).mono ?_; rintro e w9 ⟨rfl, hc⟩))
      go_ret
      exact ⟨rfl, hc⟩
    | true =>
      cases F3 with
      | false =>
        clear hF1 hF2 hF3 hV1 hV2 hV3 hm1 hm2 hm3
        go_enter Try.func5, Try.ntmps5
        go_wp2_with (first
          | (go_at_call 8; ((with_reducible refine (hfew1 _ (Chg.refl _ _)).mono ?_); rintro e w' ⟨rfl, rfl⟩))
          | (go_at_call 8; ((with_reducible refine (hfew2 _ (Chg.refl _ _)).mono ?_); rintro e w' ⟨rfl, rfl⟩))
          | (go_at_call 8; ((with_reducible refine (hfew3 _ (Chg.refl _ _)).mono ?_); rintro e w' ⟨rfl, rfl⟩))
          | (go_at_call 9; refine (known_any _).mono ?_; rintro e w9 ⟨rfl, hc⟩))
        go_ret
        exact ⟨rfl, hc⟩
      | true =>
        have t1 := fewB_len hF1.symm
        have t2 := fewB_len hF2.symm
        have t3 := fewB_len hF3.symm
        rw [← hm1] at t1
        rw [← hm2] at t2
        rw [← hm3] at t3
        have HS1 := Lib.hid (fewB_small hF1.symm)
        have HS2 := Lib.hid (fewB_small hF2.symm)
        have HS3 := Lib.hid (fewB_small hF3.symm)
        clear hF1 hF2 hF3 hV1 hV2 hV3 hm1 hm2 hm3
        go_enter Try.func5, Try.ntmps5
        go_wp2_with (first
          | (go_at_call 8; ((with_reducible refine (hfew1 _ (Chg.refl _ _)).mono ?_); rintro e w' ⟨rfl, rfl⟩))
          | (go_at_call 8; ((with_reducible refine (hfew2 _ (Chg.refl _ _)).mono ?_); rintro e w' ⟨rfl, rfl⟩))
          | (go_at_call 8; ((with_reducible refine (hfew3 _ (Chg.refl _ _)).mono ?_); rintro e w' ⟨rfl, rfl⟩))
          | (go_at_call 10; refine (new_any _).mono ?_; rintro e w1 ⟨rfl, hw1⟩; have H1 := Lib.hid (Between.new (show Made [] w.heap.size w w1 by rw [hw1]; exact made_new w)); clear hw1))
        generalize hr : w1.heap.size = r at H1 ⊢
        clear hr
        generalize hq : w.heap.size = q at H1 ⊢
        go_loopw [9] (fun i wr => ∃ k : Nat, k ≤ m1 ∧ i = .int .i64 k ∧ Hid (Between w q r k wr)) (fun i wr => m1 - (intOf i).toNat)
        case atStart => exact ⟨0, Nat.zero_le _, rfl, H1⟩
        case round =>
          obtain ⟨k, hk, rfl, hB⟩ := hrel
          by_cases hlt : k < m1
          · obtain ⟨b, off, kind, A9, n9, c9, G, P, A8, n8, c8, ll, af, rfl, hat, hfit, d0, d1, d2, d3, d4⟩ := HV1.out.at_ hB.out.chg0 hlt
            have i0 : (0 : Int) ≤ (k : Int) := by omega
            have i1 : (k : Int) < (m1 : Int) := by omega
            have HD := hB.out.does (by omega) _ hfit (HS1.out _ _ hat)
            simp only [ActV.val] at HD
            clear hB hfit hat
            go_wp2_with (go_at_call 11; refine HD.mono ?_; rintro e w4 ⟨rfl, hB2⟩; have HB2 := Lib.hid hB2; clear hB2)
            go_roundw
            case rel => exact ⟨k + 1, by omega, by go_num, HB2⟩
            case measure => simp [intOf]; omega
          · obtain rfl : k = m1 := by omega
            clear hlt H1 hfew1 hfew2 hfew3
            obtain ⟨N, S, b1, b2, b3, b4, b5⟩ := hB.out
            have hnl := nu_len N
            have hcp := copy_any b1 (by omega)
            have hrc := fun W (hW : Chg [] wr W) => rcopy_any (b2.quiet hW) (by omega)
            have hsm := fun W q' N' (hW : Chg [] wr W) (hQ : QAt W q' N') (hN' : nu N' = nu N) => (same_any (b1.quiet hW).rowed hQ.rowed (by omega) (by rw [← nu_len, hN']; omega)).mono (R' := fun e w' => e = .returned (.bool true) ∧ Chg [] W w') (fun e w' ⟨h1, h2⟩ => ⟨by rw [h1, hN', beq_self_eq_true], h2⟩)
            have HMk := Lib.hid (fun q' r' w2 w3 S2 hC d1 d2 d3 => Pair.make (k := k) (q' := q') (r' := r') (w2 := w2) (w3 := w3) (S2 := S2) b1 b2 b3 b4 b5 hC d1 d2 d3)
            clear b1 b2 b3 b4 b5 hB hnl
            go_wp2_with (first
              | (go_at_call 16; refine hcp.mono ?_; rintro e w2 ⟨q', rfl, hC⟩; have HC := Lib.hid hC; obtain ⟨N', c1, c2, _, c4⟩ := hC; have HQ' := Lib.hid (And.intro c1 c2); have HC4 := Lib.hid c4; clear c1 c2 c4)
              | (go_at_call 17; refine (hrc _ HC4.out).mono ?_; rintro e w3 ⟨r', S2, rfl, d1, d2, d3⟩; have HP0 := Lib.hid (HMk.out _ _ _ _ _ HC.out d1 d2 d3); have HD3 := Lib.hid d3; clear d1 d2 d3)
              | (go_at_call 18; refine (hsm _ _ _ (HC4.out.then HD3.out) (HQ'.out.1.quiet HD3.out) HQ'.out.2).mono ?_; rintro e w5 ⟨rfl, hc⟩; have HP := Lib.hid (HP0.out.quiet hc); clear hc))
            clear hcp hrc hsm
            go_loopw [12] (fun i wr => ∃ k2 : Nat, k2 ≤ m2 ∧ i = .int .i64 k2 ∧ Hid (Pair w wr q r q' r' (k + k2) k)) (fun i wr => m2 - (intOf i).toNat)
            case atStart => exact ⟨0, Nat.zero_le _, rfl, HP⟩
            case round =>
              clear HP HP0
              obtain ⟨k2, hk2, rfl, HP⟩ := hrel
              by_cases hlta : k2 < m2
              · obtain ⟨b, off, kind, A9, n9, c9, G, P, A8, n8, c8, ll, af, rfl, hat, hfit, d0, d1, d2, d3, d4⟩ := HV2.out.at_ HP.out.chg0 hlta
                have i0 : (0 : Int) ≤ (k2 : Int) := by omega
                have i1 : (k2 : Int) < (m2 : Int) := by omega
                have HDo := HP.out.does (by omega) _ hfit (HS2.out _ _ hat)
                simp only [ActV.val] at HDo
                clear HP hfit hat
                go_wp2_with (go_at_call 11; refine HDo.mono ?_; rintro e w4 ⟨rfl, hB2⟩; have HB2 := Lib.hid hB2; clear hB2)
                go_roundw
                case rel => exact ⟨k2 + 1, by omega, by go_num, HB2⟩
                case measure => simp [intOf]; omega
              · obtain rfl : k2 = m2 := by omega
                clear hlta
                go_wp2
                go_loopw [13] (fun i wr => ∃ k3 : Nat, k3 ≤ m3 ∧ i = .int .i64 k3 ∧ Hid (Pair w wr q r q' r' (k + k2) (k + k3))) (fun i wr => m3 - (intOf i).toNat)
                case atStart => exact ⟨0, Nat.zero_le _, rfl, HP⟩
                case round =>
                  clear HP
                  obtain ⟨k3, hk3, rfl, HP⟩ := hrel
                  by_cases hltb : k3 < m3
                  · obtain ⟨b, off, kind, A9, n9, c9, G, P, A8, n8, c8, ll, af, rfl, hat, hfit, d0, d1, d2, d3, d4⟩ := HV3.out.at_ HP.out.chg0 hltb
                    have i0 : (0 : Int) ≤ (k3 : Int) := by omega
                    have i1 : (k3 : Int) < (m3 : Int) := by omega
                    have HDo := HP.out.swap.does (by omega) _ hfit (HS3.out _ _ hat)
                    simp only [ActV.val] at HDo
                    clear HP hfit hat
                    go_wp2_with (go_at_call 11; refine HDo.mono ?_; rintro e w4 ⟨rfl, hB2⟩; have HB2 := Lib.hid hB2; clear hB2)
                    go_roundw
                    case rel => exact ⟨k3 + 1, by omega, by go_num, Lib.hid HB2.out.swap⟩
                    case measure => simp [intOf]; omega
                  · obtain rfl : k3 = m3 := by omega
                    obtain ⟨N, S, N', S', g1, g2, g3, g4, _, _, _, _, g9, e1, e2⟩ := HP.out
                    have n1 := nu_len N
                    have n2 := nu_len N'
                    have hs1 := fun W (hW : Chg [] wr W) => same_q (g1.quiet hW) (g2.quiet hW) (by omega)
                    have hs2 := fun W (hW : Chg [] wr W) => same_q (g3.quiet hW) (g4.quiet hW) (by omega)
                    have hq1 := fun W (hW : Chg [] wr W) => same_any (g1.quiet hW).rowed (g3.quiet hW).rowed (by omega) (by omega)
                    obtain ⟨Va, va1, va2, _⟩ := id g2
                    obtain ⟨Vb, vb1, vb2, _⟩ := id g4
                    have hq2 := fun W (hW : Chg [] wr W) => rsame_any (va2.quiet hW) (vb2.quiet hW) (by omega) (by omega)
                    obtain ⟨Aa, ca, rfl, _⟩ := va2.open_
                    obtain ⟨Ab, cb, rfl, _⟩ := vb2.open_
                    have hka := fun W (hW : Chg [] wr W) => (va1.chg hW (by simp)).cell 0
                    have hkb := fun W (hW : Chg [] wr W) => (vb1.chg hW (by simp)).cell 0
                    simp only [List.getElem?_toArray, List.getElem?_cons_zero] at hka hkb
                    obtain ⟨na, hna⟩ : ∃ n, n = (nu N).length := ⟨_, rfl⟩
                    obtain ⟨nbb, hnb⟩ : ∃ n, n = (nu N').length := ⟨_, rfl⟩
                    rw [← hna] at hka hq2
                    rw [← hnb] at hkb hq2
                    obtain ⟨Z, hZ⟩ : ∃ Z, Z = (nu N == nu N') := ⟨_, rfl⟩
                    rw [← hZ] at hq1 hq2
                    have hzz : (Z == Z) = true := by simp
                    have HW := Lib.hid g9
                    have ka0 := hka _ ((Chg.refl [] wr).drew)
                    have kb0 := hkb _ ((Chg.refl [] wr).drew)
                    have HKa := Lib.hid hka
                    have HKb := Lib.hid hkb
                    clear HP g1 g2 g3 g4 g9 e1 e2 n1 n2 va1 va2 vb1 vb2 hZ hltb hna hnb hka hkb
                    go_wp2
                    go_region_held3 (fun w' => w'.cell? ⟨r, 0, none⟩ = some (.slice Aa na ca) ∧ w'.cell? ⟨r', 0, none⟩ = some (.slice Ab nbb cb))
                      (first | go_keep)
                      (first
                        | (go_at_call 12; ((with_reducible refine (hs1 _ ((Chg.refl _ _).drew)).mono ?_); rintro e w11 ⟨rfl, hc⟩); have X1 := Lib.hid (((Chg.refl [] wr).drew).then hc); have ka1 := HKa.out _ X1.out; have kb1 := HKb.out _ X1.out; clear hc)
                        | (go_at_call 12; ((with_reducible refine (hs2 _ X1.out).mono ?_); rintro e w12 ⟨rfl, hc⟩); have X2 := Lib.hid (X1.out.then hc); have ka2 := HKa.out _ X2.out; have kb2 := HKb.out _ X2.out; clear hc)
                        | (go_at_call 18; refine (hq1 _ X2.out).mono ?_; rintro e w13 ⟨rfl, hc⟩; have X3 := Lib.hid (X2.out.then hc); have ka3 := HKa.out _ X3.out; have kb3 := HKb.out _ X3.out; clear hc)
                        | (go_at_call 19; refine (hq2 _ X3.out).mono ?_; rintro e w14 ⟨rfl, hc⟩; have X4 := Lib.hid (X3.out.then hc); have ka4 := HKa.out _ X4.out; have kb4 := HKb.out _ X4.out; clear hc)
                        | (go_at_call 9; refine (known_any _).mono ?_; rintro e w15 ⟨rfl, hc⟩; have X5 := Lib.hid (X4.out.then hc); have ka5 := HKa.out _ X5.out; have kb5 := HKb.out _ X5.out; clear hc))
                    all_goals
                      go_wp2
                      go_ret
                      exact ⟨rfl, HW.out.then X5.out⟩
end Go.Proofs
