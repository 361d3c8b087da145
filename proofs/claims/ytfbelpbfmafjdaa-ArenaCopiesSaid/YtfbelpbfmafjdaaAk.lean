import Derived.Test.YtfbelpbfmafjdaaAj
namespace Go.Proofs
open Go.RowKit
set_option linter.unusedVariables false

set_option maxRecDepth 100000 in
set_option maxHeartbeats 6400000 in
theorem copies_any (size first : Int) (f0 : 0 ≤ first) (V VM VO : Value) (l lm lo : List ActV) (w : World) (hV : Acts w w.heap.size V l) (hM : Acts w w.heap.size VM lm) (hO : Acts w w.heap.size VO lo) :
    Calls Try.prog 6 #[.int .i64 size, .int .u64 first, V, VM, VO] w fun e w' => e = .returned (.bool true) ∧ Below w.heap.size w w' := by
  obtain ⟨A, c, rfl, hcell⟩ := hV
  obtain ⟨AM, cM, rfl, hcellM⟩ := hM
  obtain ⟨AO, cO, rfl, hcellO⟩ := hO
  have HMu := fun w' => much_any size 40 A l.length c w'
  have HCell := Lib.hid hcell
  have HCellM := Lib.hid hcellM
  have HCellO := Lib.hid hcellO
  clear hcell hcellM hcellO
  have HY := fun w' => may_any size first f0 w'
  obtain ⟨m, hm⟩ : ∃ m, m = l.length := ⟨_, rfl⟩
  obtain ⟨mM, hmM⟩ : ∃ m, m = lm.length := ⟨_, rfl⟩
  obtain ⟨mO, hmO⟩ : ∃ m, m = lo.length := ⟨_, rfl⟩
  rw [← hm] at HMu ⊢
  rw [← hmM, ← hmO]
  have HL := Lib.hid hm
  have HLM := Lib.hid hmM
  have HLO := Lib.hid hmO
  clear hm hmM hmO
  cases hmu : muchB size m 40 with
  | true =>
    rw [hmu] at HMu
    clear hmu
    go_enter Try.func6, Try.ntmps6
    go_wp2_with (first
      | (go_at_call 9; refine (HMu _).mono ?_; rintro e w' ⟨rfl, rfl⟩)
      | (go_at_call 10; refine (known_any _).mono ?_; rintro e w1 ⟨rfl, hb⟩))
    go_ret
    exact ⟨rfl, hb⟩
  | false =>
    rw [hmu] at HMu
    have hlen : m ≤ 40 := by
      unfold muchB at hmu
      rw [Bool.or_eq_false_iff] at hmu
      have := of_decide_eq_false hmu.2
      omega
    clear hmu
    by_cases h1 : 30 < mM
    · have d1 : (30 : Int) < (mM : Int) := by omega
      go_enter Try.func6, Try.ntmps6
      go_wp2_with (first
        | (go_at_call 9; refine (HMu _).mono ?_; rintro e w' ⟨rfl, rfl⟩)
        | (go_at_call 10; refine (known_any _).mono ?_; rintro e w1 ⟨rfl, hb⟩))
      go_ret
      exact ⟨rfl, hb⟩
    · have d1 : ¬ (30 : Int) < (mM : Int) := by omega
      by_cases h2 : 30 < mO
      · have d2 : (30 : Int) < (mO : Int) := by omega
        go_enter Try.func6, Try.ntmps6
        go_wp2_with (first
          | (go_at_call 9; refine (HMu _).mono ?_; rintro e w' ⟨rfl, rfl⟩)
          | (go_at_call 10; refine (known_any _).mono ?_; rintro e w1 ⟨rfl, hb⟩))
        go_ret
        exact ⟨rfl, hb⟩
      · have d2 : ¬ (30 : Int) < (mO : Int) := by omega
        cases hmay : mayT size first with
        | false =>
          rw [hmay] at HY
          clear hmay
          go_enter Try.func6, Try.ntmps6
          go_wp2_with (first
            | (go_at_call 9; refine (HMu _).mono ?_; rintro e w' ⟨rfl, rfl⟩)
            | (go_at_call 12; refine (HY _).mono ?_; rintro e w' ⟨rfl, rfl⟩)
            | (go_at_call 10; refine (known_any _).mono ?_; rintro e w1 ⟨rfl, hb⟩))
          go_ret
          exact ⟨rfl, hb⟩
        | true =>
          obtain ⟨a, b, _, _⟩ := mayT_iff.1 hmay
          obtain ⟨N, rfl⟩ := Int.eq_ofNat_of_zero_le (by omega : 0 ≤ size)
          have HN := fun w' => new_ok_I (w := w') (N : Nat) first hmay
          rw [hmay] at HY
          have HR := fun w' => rnew_any N (by omega) first w'
          have HB := Lib.hid (fun (w1 w2 : World) => Between.new (w0 := w) (w1 := w1) (w2 := w2) hmay)
          have d1 : decide ((30 : Int) < (mM : Int)) = false := by simp; omega
          have d2 : decide ((30 : Int) < (mO : Int)) = false := by simp; omega
          have q1 : mM ≤ 30 := by omega
          have q2 : mO ≤ 30 := by omega
          clear hmay a b h1 h2
          go_enter Try.func6, Try.ntmps6
          go_wp2_with (first
            | (go_at_call 9; refine (HMu _).mono ?_; rintro e w' ⟨rfl, rfl⟩)
            | (go_at_call 12; refine (HY _).mono ?_; rintro e w' ⟨rfl, rfl⟩)
            | (go_at_call 11; refine (HN _).mono ?_; rintro e w1 ⟨rfl, hT, hc1⟩; have HT := Lib.hid hT; have HC := Lib.hid hc1; clear hT hc1)
            | (go_at_call 13; refine (HR _).mono ?_; rintro e w2 ⟨rfl, hR⟩; have hB0 := HB.out _ _ HT.out HC.out hR; clear hR))
          clear HB HT HC HN HY HR HMu
          go_loopw [14] (fun i wr => ∃ k : Nat, k ≤ m ∧ i = .int .i64 k ∧ Between w w.heap.size w1.heap.size k wr) (fun i wr => m - (intOf i).toNat)
          case atStart => exact ⟨0, Nat.zero_le _, rfl, hB0⟩
          case round =>
            obtain ⟨k, hk, rfl, hB⟩ := hrel
            by_cases hlt : k < m
            · obtain ⟨a, ha⟩ : ∃ a, l[k]? = some a := ⟨_, List.getElem?_eq_getElem (by rw [← HL.out]; exact hlt)⟩
              obtain ⟨b, off, rfl, hb, hfit, c0, c1, c2, c3, c4⟩ := HCell.out k a ha
              obtain ⟨S, R, t, r, h1, h2, h3, h4, h5, h6, h7⟩ := id hB
              have d0 := (h7.cell (p := ⟨b, off + k * 5, none⟩) hb).trans c0
              have d1 := (h7.cell (p := ⟨b, off + k * 5 + 1, none⟩) hb).trans c1
              have d2 := (h7.cell (p := ⟨b, off + k * 5 + 2, none⟩) hb).trans c2
              have d3 := (h7.cell (p := ⟨b, off + k * 5 + 3, none⟩) hb).trans c3
              have d4 := (h7.cell (p := ⟨b, off + k * 5 + 4, none⟩) hb).trans c4
              have i0 : (0 : Int) ≤ (k : Int) := by omega
              have i1 : (k : Int) < (m : Int) := by omega
              have HD := hB.does (by omega) a hfit
              clear h1 h2 h3 h4 h5 h6 h7 c0 c1 c2 c3 c4 ha hB hfit
              obtain ⟨a1, a2, a3, a4, a5⟩ := a
              simp only at d0 d1 d2 d3 d4 HD
              go_wp2_with (go_at_call 15; refine HD.mono ?_; rintro e w4 ⟨rfl, hB2⟩)
              go_roundw
              case rel => exact ⟨k + 1, by omega, by go_num, hB2⟩
              case measure => simp [intOf]; omega
            · obtain rfl : k = m := by omega
              go_wp2_with (first
                | (go_at_call 22; refine hB.copy.mono ?_; rintro e w3 ⟨rfl, hH⟩)
                | (go_at_call 23; refine hH.copy.mono ?_; rintro e w4 ⟨h2, rfl, hBo⟩))
              obtain ⟨g2, hg2⟩ : ∃ g2, g2 = wr.heap.size := ⟨_, rfl⟩
              rw [← hg2] at hBo ⊢
              clear hg2 hH hB
              go_loopw [17] (fun i wq => ∃ j : Nat, j ≤ mM ∧ i = .int .i64 j ∧ Both w w.heap.size w1.heap.size g2 h2 ((k : Int) + (j : Int)) wq) (fun i wq => mM - (intOf i).toNat)
              case atStart => exact ⟨0, Nat.zero_le _, rfl, by simpa using hBo⟩
              case round =>
                clear hBo
                obtain ⟨j, hj, rfl, hB⟩ := hrel
                by_cases hlt : j < mM
                · obtain ⟨a, ha⟩ : ∃ a, lm[j]? = some a := ⟨_, List.getElem?_eq_getElem (by rw [← HLM.out]; exact hlt)⟩
                  obtain ⟨b, off, rfl, hb, hfit, c0, c1, c2, c3, c4⟩ := HCellM.out j a ha
                  have h7 := hB.below
                  have d0 := (h7.cell (p := ⟨b, off + j * 5, none⟩) hb).trans c0
                  have d1 := (h7.cell (p := ⟨b, off + j * 5 + 1, none⟩) hb).trans c1
                  have d2 := (h7.cell (p := ⟨b, off + j * 5 + 2, none⟩) hb).trans c2
                  have d3 := (h7.cell (p := ⟨b, off + j * 5 + 3, none⟩) hb).trans c3
                  have d4 := (h7.cell (p := ⟨b, off + j * 5 + 4, none⟩) hb).trans c4
                  have i0 : (0 : Int) ≤ (j : Int) := by omega
                  have i1 : (j : Int) < (mM : Int) := by omega
                  have HD := hB.does (by omega) a hfit
                  clear h7 c0 c1 c2 c3 c4 ha hB hfit
                  obtain ⟨a1, a2, a3, a4, a5⟩ := a
                  simp only at d0 d1 d2 d3 d4 HD
                  go_wp2_with (go_at_call 15; refine HD.mono ?_; rintro e w4 ⟨rfl, hB2⟩)
                  go_roundw
                  case rel => exact ⟨j + 1, by omega, by go_num, by have := hB2; rw [Int.add_assoc] at this; simpa using this⟩
                  case measure => simp [intOf]; omega
                · obtain rfl : j = mM := by omega
                  have hB3 := hB.swap
                  clear hB
                  go_wp2
                  go_loopw [18] (fun i wz => ∃ j2 : Nat, j2 ≤ mO ∧ i = .int .i64 j2 ∧ Both w g2 h2 w.heap.size w1.heap.size ((k : Int) + (j : Int) + (j2 : Int)) wz) (fun i wz => mO - (intOf i).toNat)
                  case atStart => exact ⟨0, Nat.zero_le _, rfl, by simpa using hB3⟩
                  case round =>
                    clear hB3
                    obtain ⟨j2, hj2, rfl, hB⟩ := hrel
                    by_cases hlt : j2 < mO
                    · obtain ⟨a, ha⟩ : ∃ a, lo[j2]? = some a := ⟨_, List.getElem?_eq_getElem (by rw [← HLO.out]; exact hlt)⟩
                      obtain ⟨b, off, rfl, hb, hfit, c0, c1, c2, c3, c4⟩ := HCellO.out j2 a ha
                      have h7 := hB.below
                      have d0 := (h7.cell (p := ⟨b, off + j2 * 5, none⟩) hb).trans c0
                      have d1 := (h7.cell (p := ⟨b, off + j2 * 5 + 1, none⟩) hb).trans c1
                      have d2 := (h7.cell (p := ⟨b, off + j2 * 5 + 2, none⟩) hb).trans c2
                      have d3 := (h7.cell (p := ⟨b, off + j2 * 5 + 3, none⟩) hb).trans c3
                      have d4 := (h7.cell (p := ⟨b, off + j2 * 5 + 4, none⟩) hb).trans c4
                      have i0 : (0 : Int) ≤ (j2 : Int) := by omega
                      have i1 : (j2 : Int) < (mO : Int) := by omega
                      have HD := hB.does (by omega) a hfit
                      clear h7 c0 c1 c2 c3 c4 ha hB hfit
                      obtain ⟨a1, a2, a3, a4, a5⟩ := a
                      simp only at d0 d1 d2 d3 d4 HD
                      go_wp2_with (go_at_call 15; refine HD.mono ?_; rintro e w4 ⟨rfl, hB2⟩)
                      go_roundw
                      case rel => exact ⟨j2 + 1, by omega, by go_num, by have := hB2; rw [Int.add_assoc] at this; simpa using this⟩
                      case measure => simp [intOf]; omega
                    · obtain rfl : j2 = mO := by omega
                      have hB5 := hB.swap
                      clear hB
                      go_wp2_with (first
                        | (go_at_call 14; (with_reducible refine (Both.same_ (g := w.heap.size) (h := w1.heap.size) hB5).mono ?_); rintro e w7 ⟨rfl, hB6⟩; have hB7 := hB6.swap)
                        | (go_at_call 14; (with_reducible refine (Both.same_ (g := g2) (h := h2) hB7).mono ?_); rintro e w8 ⟨rfl, hB8⟩; have hBel := Lib.hid hB8.below)
                        | (go_at_call 10; refine (known_any _).mono ?_; rintro e w9 ⟨rfl, hb9⟩))
                      go_ret
                      exact ⟨rfl, hBel.out.trans (hb9.mono hBel.out.size)⟩
end Go.Proofs
