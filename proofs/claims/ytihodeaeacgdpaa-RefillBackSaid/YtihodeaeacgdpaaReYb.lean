import Derived.Test.YtihodeaeacgdpaaReYa
import Derived.Test.YtihodeaeacgdpaaReXc
namespace Go.Proofs
open Go.RowKit
set_option linter.unusedVariables false

/-- What is left of a budget, all of which is used at once, behind i uses. -/
def leftP (B now per i : Int) : List Rf := if i < B then (B - i, now) :: (if i = 0 then [] else [(i, now + per)]) else if B = 0 then [] else [(B, now + per)]
theorem there_cons {x : Rf} {r : List Rf} {now : Int} (hx : x.2 ≤ now) (hr : ∀ y ∈ r, now < y.2) (h1 : x.1 < 18446744073709551616) : thereP (x :: r) now = x.1 := by
  have e : thereL (x :: r) now = [x] := by rw [thereL_cons hx, thereL_late hr]
  unfold thereP
  rw [e, (sum_all (l := [x]) (by simp only [sumP]; omega)).1]
  simp [sumP]
theorem there_late {l : List Rf} {now : Int} (hr : ∀ y ∈ l, now < y.2) : thereP l now = 0 := by
  unfold thereP
  rw [thereL_late hr]
  rfl
section
variable {B now per most : Int} (hB : B ≤ 300) (h0 : 0 ≤ now) (h1 : now ≤ 1099511627776) (p0 : 1 ≤ per) (p1 : per ≤ 1099511627776) (m0 : 2 ≤ most)
  include hB h0 h1 p0 p1
theorem left_ok {i : Int} (i0 : 0 ≤ i) (hi : i ≤ B) : Ok (leftP B now per i) := by
  unfold leftP
  have a1 : U64 now := ⟨h0, by omega⟩
  have a2 : U64 (now + per) := ⟨by omega, by omega⟩
  split
  · refine Ok.cons ⟨by omega, by omega⟩ a1 ?_
    split
    · exact Ok.nil
    · exact Ok.cons ⟨i0, by omega⟩ a2 Ok.nil
  · split
    · exact Ok.nil
    · exact Ok.cons ⟨by omega, by omega⟩ a2 Ok.nil
  include m0
theorem left_step {i : Int} (i0 : 0 ≤ i) (hi : i < B) : chargeP (leftP B now per i) now per most = (leftP B now per (i + 1), true) := by
  have hok := left_ok hB h0 h1 p0 p1 i0 (by omega : i ≤ B)
  have hl : leftP B now per i = (B - i, now) :: (if i = 0 then [] else [(i, now + per)]) := by unfold leftP; rw [if_pos hi]
  have hr : ∀ y ∈ (if i = 0 then ([] : List Rf) else [(i, now + per)]), now < y.2 := by
    intro y hy
    split at hy
    · cases hy
    · simp at hy; subst hy; simp only; omega
  have ht : thereP (leftP B now per i) now = B - i := by rw [hl]; exact there_cons (Int.le_refl _) hr (by simp only; omega)
  have hd : dueL (leftP B now per i) now = leftP B now per i := by rw [hl]; exact (due_id (Int.le_refl _) hr).2
  have hm : mayP (leftP B now per i) = true := by
    refine mayP_iff.2 ⟨?_, fineP_pw.2 ⟨?_, ?_⟩⟩
    · rw [hl]; split <;> simp only [sumP] <;> omega
    · rw [hl]
      refine List.pairwise_cons.2 ⟨fun y hy => hr y hy, ?_⟩
      split <;> simp
    · rw [hl]
      intro y hy
      rcases List.mem_cons.1 hy with rfl | hy
      · simp only; omega
      · split at hy
        · cases hy
        · simp at hy; subst hy; simpa using ‹¬ i = 0›
  have hlen : ((leftP B now per i).length : Int) ≤ 2 := by rw [hl]; split <;> simp
  have hc : canP (leftP B now per i) now per most := ⟨by unfold holdsP; simp; omega, by omega, by omega, hm, by omega⟩
  rw [chargeP_yes hc]
  unfold useP
  rw [hd, hl, decP_cons]
  by_cases e0 : i = 0
  · subst e0
    simp only [if_true, Int.sub_zero, Int.zero_add]
    by_cases e1 : B = 1
    · subst e1
      rw [if_pos rfl]
      congr 1
      unfold backP
      rw [if_pos (.inl rfl), if_pos (by simp; omega)]
      unfold leftP
      rw [if_neg (by omega), if_neg (by omega)]
      rfl
    · rw [if_neg e1]
      congr 1
      have := backP_snoc [] (B - 1, now) (now + per) most
      simp only [List.nil_append] at this
      rw [this, if_pos (by first | omega | (simp only; omega)), if_pos (by simp; omega)]
      unfold leftP
      rw [if_pos (by omega), if_neg (by omega)]
      rfl
  · rw [if_neg e0]
    by_cases e1 : B - i = 1
    · rw [if_pos e1]
      congr 1
      have := backP_snoc [] (i, now + per) (now + per) most
      simp only [List.nil_append] at this
      rw [this, if_neg (by first | omega | (simp only; omega))]
      unfold leftP
      rw [if_neg (by omega), if_neg (by omega)]
      have : B = i + 1 := by omega
      rw [this]
    · rw [if_neg e1]
      congr 1
      have := backP_snoc [(B - i - 1, now)] (i, now + per) (now + per) most
      rw [show [(B - i - 1, now), (i, now + per)] = [(B - i - 1, now)] ++ [(i, now + per)] from rfl, this, if_neg (by first | omega | (simp only; omega))]
      unfold leftP
      rw [if_pos (by omega), if_neg (by omega)]
      have : B - i - 1 = B - (i + 1) := by omega
      rw [this]
      rfl
  omit h0 h1 m0 in
theorem left_end (hB0 : 0 ≤ B) : chargeP (leftP B now per B) now per most = ([], false) ∧ nextP (leftP B now per B) now = (if B = 0 then (0, false) else (now + per, true)) ∧ thereP (leftP B now per B) (now + per - 1) = 0 ∧ thereP (leftP B now per B) (now + per) = B ∧ (leftP B now per B).length ≤ 1 := by
  have hl : leftP B now per B = if B = 0 then [] else [(B, now + per)] := by unfold leftP; rw [if_neg (by omega)]
  rw [hl]
  by_cases e : B = 0
  · simp only [e, if_true]
    exact ⟨chargeP_no (fun c => by have := c.2.2.2.2; rw [there_late (fun y hy => by cases hy)] at this; omega), rfl, there_late (fun y hy => by cases hy), there_late (fun y hy => by cases hy), by simp⟩
  · simp only [e, if_false]
    refine ⟨chargeP_no (fun c => by have := c.2.2.2.2; rw [there_late (fun y hy => by simp at hy; subst hy; simp only; omega)] at this; omega), ?_, there_late (fun y hy => by simp at hy; subst hy; simp only; omega), there_cons (by simp only; omega) (fun y hy => by cases hy) (by simp only; omega), by simp⟩
    show nextK [(B, now + per)] now 1 = _
    unfold nextK
    simp only [List.getElem?_cons_zero, Option.getD_some, nextK]
    rw [if_pos (by refine ⟨by omega, ?_⟩; simp)]
end
theorem left_zero {B now per : Int} (hB : 0 ≤ B) : leftP B now per 0 = newP B now := by
  unfold leftP newP
  by_cases e : B = 0
  · rw [if_neg (by omega), if_pos e, if_pos e]
  · rw [if_pos (by omega), if_neg e, if_pos rfl]; simp
set_option maxHeartbeats 6400000 in
set_option maxRecDepth 100000 in
theorem back_law (hS : Sorts 1) (B now per most : Int) (w : World) (b0 : U64 B) (n0 : U64 now) (q0 : U64 per) :
    Calls Try.prog 7 #[.int .u64 B, .int .u64 now, .int .u64 per, .int .i64 most] w fun e w' => e = .returned (.bool true) ∧ Chg [] w w' := by
  by_cases cA : B > 300
  · have t1 : decide (B > 300) = true := by simp; omega
    have t2 : decide (300 < B) = true := by simp; omega
    clear cA
    go_enter Try.func7, Try.ntmps7
    go_wp2_with (first
      | (go_at_call 9; refine (known_any _).mono ?_; rintro e w9 ⟨rfl, h1⟩; have H9 := Lib.hid (h1); clear h1))
    go_ret
    exact ⟨rfl, H9.out⟩
  · have cAf1 : decide (B > 300) = false := by simp; omega
    have cAf2 : decide (300 < B) = false := by simp; omega
    have cA' := Lib.hid cA
    clear cA
    by_cases cB : now > 1099511627776
    · have t1 : decide (now > 1099511627776) = true := by simp; omega
      have t2 : decide (1099511627776 < now) = true := by simp; omega
      clear cB
      go_enter Try.func7, Try.ntmps7
      go_wp2_with (first
        | (go_at_call 9; refine (known_any _).mono ?_; rintro e w9 ⟨rfl, h1⟩; have H9 := Lib.hid (h1); clear h1))
      go_ret
      exact ⟨rfl, H9.out⟩
    · have cBf1 : decide (now > 1099511627776) = false := by simp; omega
      have cBf2 : decide (1099511627776 < now) = false := by simp; omega
      have cB' := Lib.hid cB
      clear cB
      by_cases cC : per < 1
      · have t1 : decide (per < 1) = true := by simp; omega
        clear cC
        go_enter Try.func7, Try.ntmps7
        go_wp2_with (first
          | (go_at_call 9; refine (known_any _).mono ?_; rintro e w9 ⟨rfl, h1⟩; have H9 := Lib.hid (h1); clear h1))
        go_ret
        exact ⟨rfl, H9.out⟩
      · have cCf1 : decide (per < 1) = false := by simp; omega
        have cC' := Lib.hid cC
        clear cC
        by_cases cD : per > 1099511627776
        · have t1 : decide (per > 1099511627776) = true := by simp; omega
          have t2 : decide (1099511627776 < per) = true := by simp; omega
          clear cD
          go_enter Try.func7, Try.ntmps7
          go_wp2_with (first
            | (go_at_call 9; refine (known_any _).mono ?_; rintro e w9 ⟨rfl, h1⟩; have H9 := Lib.hid (h1); clear h1))
          go_ret
          exact ⟨rfl, H9.out⟩
        · have cDf1 : decide (per > 1099511627776) = false := by simp; omega
          have cDf2 : decide (1099511627776 < per) = false := by simp; omega
          have cD' := Lib.hid cD
          clear cD
          by_cases cE : most < 2
          · have t1 : decide (most < 2) = true := by simp; omega
            clear cE
            go_enter Try.func7, Try.ntmps7
            go_wp2_with (first
              | (go_at_call 9; refine (known_any _).mono ?_; rintro e w9 ⟨rfl, h1⟩; have H9 := Lib.hid (h1); clear h1))
            go_ret
            exact ⟨rfl, H9.out⟩
          · have cEf1 : decide (most < 2) = false := by simp; omega
            have cE' := Lib.hid cE
            clear cE
            by_cases cF : most > 60
            · have t1 : decide (most > 60) = true := by simp; omega
              have t2 : decide (60 < most) = true := by simp; omega
              clear cF
              go_enter Try.func7, Try.ntmps7
              go_wp2_with (first
                | (go_at_call 9; refine (known_any _).mono ?_; rintro e w9 ⟨rfl, h1⟩; have H9 := Lib.hid (h1); clear h1))
              go_ret
              exact ⟨rfl, H9.out⟩
            · have cFf1 : decide (most > 60) = false := by simp; omega
              have cFf2 : decide (60 < most) = false := by simp; omega
              have cF' := Lib.hid cF
              clear cF
              have hB3 : B ≤ 300 := by have := cA'.out; omega
              have hn3 : now ≤ 1099511627776 := by have := cB'.out; omega
              have hp3 : 1 ≤ per := by have := cC'.out; omega
              have hp4 : per ≤ 1099511627776 := by have := cD'.out; omega
              have hm3 : 2 ≤ most := by have := cE'.out; omega
              obtain ⟨n, rfl⟩ := Int.eq_ofNat_of_zero_le b0.1
              have HZ := Lib.hid (left_zero (now := now) (per := per) b0.1)
              have HST := Lib.hid (fun (i : Int) (i0 : 0 ≤ i) (hi : i < (n : Int)) W V (hV : Rd W V (leftP n now per i)) => (show Calls Try.prog 23 #[V, .int .u64 now, .int .u64 per, .int .i64 most] W fun e w' => ∃ v', e = .returned (.tuple #[v', .bool true]) ∧ Mine W w' v' (leftP n now per (i + 1)) from by
                have := charge_any (now := now) (per := per) (most := most) hV (left_ok hB3 n0.1 hn3 hp3 hp4 i0 (by omega)) (by unfold leftP; split <;> split <;> simp) n0 q0
                rwa [left_step hB3 n0.1 hn3 hp3 hp4 hm3 i0 hi] at this))
              obtain ⟨z1, z2, z3, z4, z5⟩ := left_end (now := now) hB3 hp3 hp4 b0.1
              have hokn := left_ok hB3 n0.1 hn3 hp3 hp4 b0.1 (Int.le_refl _)
              have HCE := Lib.hid (fun W V (hV : Rd W V (leftP n now per n)) => (show Calls Try.prog 23 #[V, .int .u64 now, .int .u64 per, .int .i64 most] W fun e w' => ∃ v', e = .returned (.tuple #[v', .bool false]) ∧ Mine W w' v' [] from by
                have := charge_any (now := now) (per := per) (most := most) hV hokn (by omega) n0 q0
                rwa [z1] at this))
              have HNX := Lib.hid (fun W V (hV : Rd W V (leftP n now per n)) => next_any hS hV z5 (by omega) now)
              rw [z2] at HNX
              have HT1 := Lib.hid (fun W V (hV : Rd W V (leftP n now per n)) => there_any hV hokn (by omega) (now + per - 1))
              have HT2 := Lib.hid (fun W V (hV : Rd W V (leftP n now per n)) => there_any hV hokn (by omega) (now + per))
              rw [z3] at HT1
              rw [z4] at HT2
              have w1 : IntKind.u64.wrap (now + per) = now + per := by rw [IntKind.wrap_u64]; have := n0.1; omega
              have w2 : IntKind.u64.wrap (now + per - 1) = now + per - 1 := by rw [IntKind.wrap_u64]; have := n0.1; omega
              have hn300 : n ≤ 300 := by omega
              clear z1 z2 z3 z4 z5 hokn
              go_enter Try.func7, Try.ntmps7
              go_wp2_with (go_at_call 20; refine (new_any _ _ _).mono ?_; rintro e w1 ⟨v1, rfl, h1⟩; rw [← HZ.out] at h1; have H1 := Lib.hid (show Rd w1 v1 (leftP n now per 0) ∧ Chg [] w w1 from ⟨h1.rd, h1.2.2⟩); clear h1)
              go_loopg [9, 10] n (fun gh s9 s10 wx => ∃ k : Nat, k + gh = n ∧ s10 = .int .u64 k ∧ Hid (Rd wx s9 (leftP n now per k) ∧ Chg [] w wx))
              case atStart => exact ⟨0, by omega, rfl, Lib.hid H1.out⟩
              case round =>
                obtain ⟨k, hk, rfl, HR⟩ := hrel
                by_cases hlt : k < n
                · have k1 : decide ((k : Int) < (n : Int)) = true := by simp; omega
                  have k2 : IntKind.u64.wrap ((k : Int) + 1) = (k : Int) + 1 := by rw [IntKind.wrap_u64]; omega
                  have hcall := HST.out k (by omega) (by omega) _ _ HR.out.1
                  go_wp2_with (go_at_call 23; refine hcall.mono ?_; rintro e w2 ⟨v2, rfl, h1⟩; have H2 := Lib.hid (show Rd w2 v2 (leftP n now per ((k : Int) + 1)) ∧ Chg [] w w2 from ⟨h1.rd, HR.out.2.then h1.now⟩); clear h1)
                  go_roundg (n - k - 1)
                  case measure => omega
                  case rel => exact ⟨k + 1, by omega, by go_num, Lib.hid (by rw [show ((k + 1 : Nat) : Int) = (k : Int) + 1 by omega]; exact H2.out)⟩
                · obtain rfl : k = n := by omega
                  have k1 : decide ((k : Int) < (k : Int)) = false := by simp
                  have hT1 := fun W (hW : Chg [] wr W) => HT1.out W u9 (HR.out.1.quiet hW)
                  have hT2 := fun W (hW : Chg [] wr W) => HT2.out W u9 (HR.out.1.quiet hW)
                  have hNX := fun W (hW : Chg [] wr W) => HNX.out W u9 (HR.out.1.quiet hW)
                  have hCE := HCE.out wr u9 HR.out.1
                  have HA := Lib.hid hT1
                  have HB := Lib.hid hT2
                  have y1 : ((0 : Int) == 0) = true := by rfl
                  have y2 : ((k : Int) == (k : Int)) = true := by simp
                  have y3 : ((now + per) != (now + per)) = false := by simp
                  clear hT1 hT2
                  by_cases e0 : k = 0
                  · subst e0
                    simp only [Int.natCast_zero, if_true] at hNX
                    have y4 : decide ((0 : Int) > 0) = false := by decide
                    go_wp2_with (first
                      | (go_at_call 23; refine hCE.mono ?_; rintro e w3 ⟨v3, rfl, h1⟩; have H3 := Lib.hid h1.now; clear h1)
                      | (go_at_call 13; refine (hNX _ H3.out).mono ?_; rintro e w4 ⟨rfl, h1⟩; have H4 := Lib.hid (H3.out.then h1); clear h1)
                      | (go_at_call 17; have q := HA.out _ H4.out; (with_reducible refine q.mono ?_); rintro e w5 ⟨rfl, h1⟩; have H5 := Lib.hid (H4.out.then h1); clear h1 q)
                      | (go_at_call 17; have q := HB.out _ H5.out; (with_reducible refine q.mono ?_); rintro e w6 ⟨rfl, h1⟩; have H6 := Lib.hid (H5.out.then h1); clear h1 q)
                      | (go_at_call 9; refine (known_any _).mono ?_; rintro e w9 ⟨rfl, h1⟩; have H9 := Lib.hid (H6.out.then h1); clear h1))
                    go_ret
                    exact ⟨rfl, HR.out.2.then H9.out⟩
                  · have e1 : ¬ (k : Int) = 0 := by omega
                    simp only [e1, if_false] at hNX
                    have y4 : decide ((k : Int) > 0) = true := by simp; omega
                    have y5 : decide ((0 : Int) < (k : Int)) = true := by simp; omega
                    have y6 : decide (0 < k) = true := by simp; omega
                    go_wp2_with (first
                      | (go_at_call 23; refine hCE.mono ?_; rintro e w3 ⟨v3, rfl, h1⟩; have H3 := Lib.hid h1.now; clear h1)
                      | (go_at_call 13; refine (hNX _ H3.out).mono ?_; rintro e w4 ⟨rfl, h1⟩; have H4 := Lib.hid (H3.out.then h1); clear h1)
                      | (go_at_call 17; have q := HA.out _ H4.out; (with_reducible refine q.mono ?_); rintro e w5 ⟨rfl, h1⟩; have H5 := Lib.hid (H4.out.then h1); clear h1 q)
                      | (go_at_call 17; have q := HB.out _ H5.out; (with_reducible refine q.mono ?_); rintro e w6 ⟨rfl, h1⟩; have H6 := Lib.hid (H5.out.then h1); clear h1 q)
                      | (go_at_call 9; refine (known_any _).mono ?_; rintro e w9 ⟨rfl, h1⟩; have H9 := Lib.hid (H6.out.then h1); clear h1))
                    go_ret
                    exact ⟨rfl, HR.out.2.then H9.out⟩
end Go.Proofs
