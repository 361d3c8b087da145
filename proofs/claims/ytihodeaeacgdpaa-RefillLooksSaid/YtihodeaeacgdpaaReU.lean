import Derived.Test.YtihodeaeacgdpaaReS
namespace Go.Proofs
open Go.RowKit
set_option linter.unusedVariables false

set_option maxHeartbeats 6400000 in
set_option maxRecDepth 100000 in
theorem rgive_any {w : World} {v : Value} {l : List Rf} (h : In w v l) (hk : Ok l) (hn : l.length ≤ 100000) {now m most : Int} (hm : U64 m) :
    Calls Try.prog 26 #[v, .int .u64 now, .int .u64 m, .int .i64 most] w fun e w' => ∃ v', e = .returned (.tuple #[v', .int .i64 (giveP l now m most).2]) ∧ Mine w w' v' (giveP l now m most).1 := by
  have hmy := rmay_any h hk hn
  have HSU := Lib.hid (fun W (hW : Chg [] w W) => (rsum_any (h.quiet hW) hk hn).mono (R' := fun e w' => e = .returned (.tuple #[.int .u64 (sumN l), .bool (sumF l)]) ∧ Chg [] W w') (fun e w' ⟨h1, h2⟩ => ⟨h1, by rw [← h2]; exact Chg.refl _ _⟩))
  have HH := Lib.hid h
  obtain ⟨A, c, rfl, _⟩ := h.open_
  obtain ⟨n, e1⟩ : ∃ n, n = l.length := ⟨_, rfl⟩
  rw [← e1] at hmy HSU HH ⊢
  cases hmp : mayP l with
  | false =>
    rw [hmp] at hmy
    have HE := Lib.hid (show giveP l now m most = ([], 2) by unfold giveP; rw [if_pos (.inl hmp)])
    clear h hk hn e1 hmp hm
    go_enter Try.func26, Try.ntmps26
    go_wp2_with (first
      | (go_at_call 16; refine hmy.mono ?_; rintro e w1 ⟨rfl, h1⟩; have H1 := Lib.hid h1; clear h1))
    go_ret2
    exact ⟨_, by rw [HE.out]; rfl, by rw [HE.out]; exact Mine.nil H1.out⟩
  | true =>
    rw [hmp] at hmy
    by_cases hm0 : m = 0
    · have HE := Lib.hid (show giveP l now m most = ([], 2) by unfold giveP; rw [if_pos (.inr (.inl hm0))])
      have g0 : (m == 0) = true := by simpa using hm0
      clear h hk hn e1 hmp hm hm0
      go_enter Try.func26, Try.ntmps26
      go_wp2_with (first
        | (go_at_call 16; refine hmy.mono ?_; rintro e w1 ⟨rfl, h1⟩; have H1 := Lib.hid h1; clear h1))
      go_ret2
      exact ⟨_, by rw [HE.out]; rfl, by rw [HE.out]; exact Mine.nil H1.out⟩
    · have g0 : (m == 0) = false := by simpa using hm0
      by_cases hmo : most < 1
      · have g1 : decide (most < 1) = true := by simpa using hmo
        have HE := Lib.hid (show giveP l now m most = ([], 2) by unfold giveP; rw [if_pos (.inr (.inr (by unfold holdsP; simp; omega)))])
        clear h hk hn e1 hmp hm hm0 hmo
        go_enter Try.func26, Try.ntmps26
        go_wp2_with (first
          | (go_at_call 16; refine hmy.mono ?_; rintro e w1 ⟨rfl, h1⟩; have H1 := Lib.hid h1; clear h1))
        go_ret2
        exact ⟨_, by rw [HE.out]; rfl, by rw [HE.out]; exact Mine.nil H1.out⟩
      · have g1 : decide (most < 1) = false := by simpa using hmo
        by_cases hlo : (n : Int) > most
        · have g2 : decide ((n : Int) > most) = true := by simpa using hlo
          have g2' : decide (most < (n : Int)) = true := by simpa using hlo
          have HE := Lib.hid (show giveP l now m most = ([], 2) by unfold giveP; rw [if_pos (.inr (.inr (by unfold holdsP; simp; omega)))])
          clear h hk hn e1 hmp hm hm0 hmo hlo
          go_enter Try.func26, Try.ntmps26
          go_wp2_with (first
            | (go_at_call 16; refine hmy.mono ?_; rintro e w1 ⟨rfl, h1⟩; have H1 := Lib.hid h1; clear h1))
          go_ret2
          exact ⟨_, by rw [HE.out]; rfl, by rw [HE.out]; exact Mine.nil H1.out⟩
        · have g2 : decide ((n : Int) > most) = false := by simpa using hlo
          have g2' : decide (most < (n : Int)) = false := by simpa using hlo
          have hho : holdsP l most = true := by unfold holdsP; simp; omega
          have hnot : ¬ (mayP l = false ∨ m = 0 ∨ holdsP l most = false) := by rw [hmp, hho]; simpa using hm0
          obtain ⟨hS, hF⟩ := mayP_iff.1 hmp
          obtain ⟨s1, s2⟩ := sum_all hS
          rw [s1, s2] at HSU
          have hS0 := sumP_nonneg hk
          have hadd := fun W => (radd_any (sumP l) m hS0 hm.1 hS hm.2 W).mono (R' := fun e w' => e = .returned (.tuple #[.int .u64 (addN (sumP l) m), .bool (addF (sumP l) m)]) ∧ Chg [] W w') (fun e w' ⟨h1, h2⟩ => ⟨h1, by rw [← h2]; exact Chg.refl _ _⟩)
          obtain ⟨S, hSS⟩ : ∃ S, S = sumP l := ⟨_, rfl⟩
          rw [← hSS] at hadd HSU hS hS0
          by_cases hov : S + m < 18446744073709551616
          · obtain ⟨f1, f2⟩ := addF_yes hov
            rw [f1, f2] at hadd
            have HDU := Lib.hid (fun W (hW : Chg [] w W) => rdue_any (HH.out.quiet hW) hk hmp hn now)
            have hdl := due_len (l := l) now
            by_cases hth : 1 ≤ thereP l now
            · have hE : giveP l now m most = (incP (dueL l now) m, 0) := by unfold giveP; rw [if_neg hnot, ← hSS, if_neg (by omega), if_pos hth]
              obtain ⟨hdf, hd0⟩ := due_form hk hmp hth
              have hap := due_first hmp hd0
              have hds := sumP_due (l := l) now
              have hdo := hk.due hmp now
              obtain ⟨T, hT⟩ : ∃ T, T = thereP l now := ⟨_, rfl⟩
              obtain ⟨t, ht⟩ : ∃ t, t = aheadP l (dueN l now) := ⟨_, rfl⟩
              obtain ⟨r, hr⟩ : ∃ r, r = l.drop (dueN l now) := ⟨_, rfl⟩
              rw [← hT, ← ht, ← hr] at hdf
              rw [hdf] at HDU hE hds hdo hdl
              rw [← ht] at hap
              rw [← hT] at hth
              have hr0 := sumP_nonneg hdo.tail
              simp only [sumP] at hds
              have g5 : IntKind.u64.wrap (T + m) = T + m := by rw [IntKind.wrap_u64]; have := hm.1; omega
              have g6 : decide (T > 0) = true := by simp; omega
              have g6' : decide (0 < T) = true := by simp; omega
              have g7 : decide (t ≤ now) = true := by simpa using hap
              have HE := Lib.hid (show giveP l now m most = ((T + m, t) :: r, 0) from hE)
              clear h hk hn e1 hmp hm hm0 hho hnot hS hF s1 s2 hS0 hSS hov f1 f2 hth hd0 hap hds hdo hT ht hr hdf hr0 hE hdl hmo hlo
              go_enter Try.func26, Try.ntmps26
              go_wp2_with (first
                | (go_at_call 16; refine hmy.mono ?_; rintro e w1 ⟨rfl, h1⟩; have H1 := Lib.hid h1; clear h1)
                | (go_at_call 12; refine (HSU.out _ H1.out).mono ?_; rintro e w3 ⟨rfl, h1⟩; have H3 := Lib.hid (H1.out.then h1); clear h1)
                | (go_at_call 30; refine (hadd _).mono ?_; rintro e w4 ⟨rfl, h1⟩; have H4 := Lib.hid (H3.out.then h1); clear h1)
                | (go_at_call 22; refine (HDU.out _ H4.out).mono ?_; rintro e w5 ⟨v5, rfl, h1⟩; obtain ⟨g, cap, rfl, _, hcap, lg, y0, y1, hfz⟩ := h1.1.head; have f0 := hfz 0; have H5 := Lib.hid (h1.before H4.out).mine; clear h1 hfz; obtain ⟨N, hN⟩ : ∃ N, N = r.length + 1 := ⟨_, rfl⟩; rw [← hN] at hcap H5 ⊢; have q0 : (0 : Int) < (N : Int) := (by omega); have q1 : decide ((N : Int) > 0) = true := (by simp; omega); have q2 : decide (0 < (N : Int)) = true := (by simp; omega); have q3 : decide (0 < N) = true := (by simp; omega); clear hN hcap))
              go_ret2
              exact ⟨_, by rw [HE.out]; rfl, by rw [HE.out]; have := H5.out.set1 (k := 0) (x := (T, t)) rfl (T + m); simpa using this⟩
            · obtain ⟨hd1, hd2⟩ := due_none hk hmp hth
              rw [hd1] at HDU
              have HL := Lib.hid e1
              have HB9 := Lib.hid (show 1 + n ≤ 1000000 by omega)
              by_cases hn0 : n = 0
              · have q1 : decide ((n : Int) > 0) = false := by simp; omega
                have q2 : decide (0 < (n : Int)) = false := by simp; omega
                have q3 : decide (0 < n) = false := by simp; omega
                by_cases hfu : (n : Int) = most
                · have g8' : decide ((n : Int) ≥ most) = true := by simp; omega
                  have g8'' : decide (most ≤ (n : Int)) = true := by simp; omega
                  have HE := Lib.hid (show giveP l now m most = ([], 3) by unfold giveP; rw [if_neg hnot, ← hSS, if_neg (by omega), if_neg hth, if_pos (by rw [← e1]; exact hfu)])
                  clear h hk hn e1 hmp hm hm0 hho hnot hS hF s1 s2 hS0 hSS hov f1 f2 hth hd1 hd2 hdl hmo hlo hn0 hfu
                  go_enter Try.func26, Try.ntmps26
                  go_wp2_with (first
                    | (go_at_call 16; refine hmy.mono ?_; rintro e w1 ⟨rfl, h1⟩; have H1 := Lib.hid h1; clear h1)
                    | (go_at_call 12; refine (HSU.out _ H1.out).mono ?_; rintro e w3 ⟨rfl, h1⟩; have H3 := Lib.hid (H1.out.then h1); clear h1)
                    | (go_at_call 30; refine (hadd _).mono ?_; rintro e w4 ⟨rfl, h1⟩; have H4 := Lib.hid (H3.out.then h1); clear h1)
                    | (go_at_call 22; refine (HDU.out _ H4.out).mono ?_; rintro e w5 ⟨v5, rfl, h1⟩; obtain ⟨A5, c5, rfl, _⟩ := h1.rd.open_; have H5 := Lib.hid (h1.before H4.out); clear h1; rw [← HL.out] at H5 ⊢))
                  go_ret2
                  exact ⟨_, by rw [HE.out]; rfl, by rw [HE.out]; exact Mine.nil H5.out.2.2⟩
                · have g8' : decide ((n : Int) ≥ most) = false := by simp; omega
                  have g8'' : decide (most ≤ (n : Int)) = false := by simp; omega
                  have HE := Lib.hid (show giveP l now m most = ([(m, now)] ++ l, 0) by unfold giveP; rw [if_neg hnot, ← hSS, if_neg (by omega), if_neg hth, if_neg (by rw [← e1]; exact hfu)]; rfl)
                  clear h hk hn e1 hmp hm hm0 hho hnot hS hF s1 s2 hS0 hSS hov f1 f2 hth hd1 hd2 hdl hmo hlo hn0 hfu
                  go_enter Try.func26, Try.ntmps26
                  go_wp2_with (first
                    | (go_at_call 16; refine hmy.mono ?_; rintro e w1 ⟨rfl, h1⟩; have H1 := Lib.hid h1; clear h1)
                    | (go_at_call 12; refine (HSU.out _ H1.out).mono ?_; rintro e w3 ⟨rfl, h1⟩; have H3 := Lib.hid (H1.out.then h1); clear h1)
                    | (go_at_call 30; refine (hadd _).mono ?_; rintro e w4 ⟨rfl, h1⟩; have H4 := Lib.hid (H3.out.then h1); clear h1)
                    | (go_at_call 22; refine (HDU.out _ H4.out).mono ?_; rintro e w5 ⟨v5, rfl, h1⟩; obtain ⟨A5, c5, rfl, _⟩ := h1.rd.open_; have H5 := Lib.hid (h1.before H4.out); clear h1; rw [← HL.out] at H5 ⊢; have HOW := Lib.hid (show Own w (w5.alloc (.cells #[.int .u64 m, .int .u64 now] 35)) (.slice (some ⟨w5.heap.size, 0, none⟩) 1 1) [(m, now)] from ⟨Ro.one w5 m now, (fun k hk => by have := H5.out.2.2.size; simp [foot_some] at hk; omega), H5.out.2.2.alloc _⟩))
                    | (at_builtin; refine wpList_append_rs (xs := [(m, now)]) (l := l) (n := 1) (m := n) (N := 1 + n) _ rfl _ _ rfl (by rfl) (by rfl) HOW.out.1 (by have := H5.out.rd.quiet ((Chg.refl [] _).alloc (.cells #[.int .u64 m, .int .u64 now] 35)); unfold Rd at this; rw [← HL.out] at this; exact this) HB9.out rfl ?_; intro A6 c6 w6 hr6 hg6 hf6; have H7 := Lib.hid (HOW.out.append (by simp; have := HL.out; omega) hr6 hg6 hf6); clear hr6 hg6 hf6))
                  go_ret2
                  exact ⟨_, by rw [HE.out]; rfl, by rw [HE.out]; exact H7.out.mine⟩
              · have q1 : decide ((n : Int) > 0) = true := by simp; omega
                have q2 : decide (0 < (n : Int)) = true := by simp; omega
                have q3 : decide (0 < n) = true := by simp; omega
                have q4 : (0 : Int) < (n : Int) := by omega
                obtain ⟨x, hx⟩ : ∃ x, l[0]? = some x := ⟨_, List.getElem?_eq_getElem (by omega)⟩
                have hxn : ¬ x.2 ≤ now := fun hc => hth ((there_head hk hmp now).2 ⟨x, hx, hc⟩)
                have q5 : decide (x.2 ≤ now) = false := by simpa using hxn
                have HX := Lib.hid hx
                by_cases hfu : (n : Int) = most
                · have g8' : decide ((n : Int) ≥ most) = true := by simp; omega
                  have g8'' : decide (most ≤ (n : Int)) = true := by simp; omega
                  have HE := Lib.hid (show giveP l now m most = ([], 3) by unfold giveP; rw [if_neg hnot, ← hSS, if_neg (by omega), if_neg hth, if_pos (by rw [← e1]; exact hfu)])
                  clear h hk hn e1 hmp hm hm0 hho hnot hS hF s1 s2 hS0 hSS hov f1 f2 hth hd1 hd2 hdl hmo hlo hn0 hx hxn hfu
                  go_enter Try.func26, Try.ntmps26
                  go_wp2_with (first
                    | (go_at_call 16; refine hmy.mono ?_; rintro e w1 ⟨rfl, h1⟩; have H1 := Lib.hid h1; clear h1)
                    | (go_at_call 12; refine (HSU.out _ H1.out).mono ?_; rintro e w3 ⟨rfl, h1⟩; have H3 := Lib.hid (H1.out.then h1); clear h1)
                    | (go_at_call 30; refine (hadd _).mono ?_; rintro e w4 ⟨rfl, h1⟩; have H4 := Lib.hid (H3.out.then h1); clear h1)
                    | (go_at_call 22; refine (HDU.out _ H4.out).mono ?_; rintro e w5 ⟨v5, rfl, h1⟩; obtain ⟨b5, o5, c5, rfl, _, _, _, hc5⟩ := h1.rd.form (by have := (List.getElem?_eq_some_iff.1 HX.out).1; omega); obtain ⟨_, z1⟩ := hc5 0 _ HX.out; simp only [Nat.zero_mul, Nat.add_zero] at z1; have H5 := Lib.hid (h1.before H4.out); clear h1 hc5; rw [← HL.out] at H5 ⊢))
                  go_ret2
                  exact ⟨_, by rw [HE.out]; rfl, by rw [HE.out]; exact Mine.nil H5.out.2.2⟩
                · have g8' : decide ((n : Int) ≥ most) = false := by simp; omega
                  have g8'' : decide (most ≤ (n : Int)) = false := by simp; omega
                  have HE := Lib.hid (show giveP l now m most = ([(m, now)] ++ l, 0) by unfold giveP; rw [if_neg hnot, ← hSS, if_neg (by omega), if_neg hth, if_neg (by rw [← e1]; exact hfu)]; rfl)
                  clear h hk hn e1 hmp hm hm0 hho hnot hS hF s1 s2 hS0 hSS hov f1 f2 hth hd1 hd2 hdl hmo hlo hn0 hx hxn hfu
                  go_enter Try.func26, Try.ntmps26
                  go_wp2_with (first
                    | (go_at_call 16; refine hmy.mono ?_; rintro e w1 ⟨rfl, h1⟩; have H1 := Lib.hid h1; clear h1)
                    | (go_at_call 12; refine (HSU.out _ H1.out).mono ?_; rintro e w3 ⟨rfl, h1⟩; have H3 := Lib.hid (H1.out.then h1); clear h1)
                    | (go_at_call 30; refine (hadd _).mono ?_; rintro e w4 ⟨rfl, h1⟩; have H4 := Lib.hid (H3.out.then h1); clear h1)
                    | (go_at_call 22; refine (HDU.out _ H4.out).mono ?_; rintro e w5 ⟨v5, rfl, h1⟩; obtain ⟨b5, o5, c5, rfl, _, _, _, hc5⟩ := h1.rd.form (by have := (List.getElem?_eq_some_iff.1 HX.out).1; omega); obtain ⟨_, z1⟩ := hc5 0 _ HX.out; simp only [Nat.zero_mul, Nat.add_zero] at z1; have H5 := Lib.hid (h1.before H4.out); clear h1 hc5; rw [← HL.out] at H5 ⊢; have HOW := Lib.hid (show Own w (w5.alloc (.cells #[.int .u64 m, .int .u64 now] 35)) (.slice (some ⟨w5.heap.size, 0, none⟩) 1 1) [(m, now)] from ⟨Ro.one w5 m now, (fun k hk => by have := H5.out.2.2.size; simp [foot_some] at hk; omega), H5.out.2.2.alloc _⟩))
                    | (at_builtin; refine wpList_append_rs (xs := [(m, now)]) (l := l) (n := 1) (m := n) (N := 1 + n) _ rfl _ _ rfl (by rfl) (by rfl) HOW.out.1 (by have := H5.out.rd.quiet ((Chg.refl [] _).alloc (.cells #[.int .u64 m, .int .u64 now] 35)); unfold Rd at this; rw [← HL.out] at this; exact this) HB9.out rfl ?_; intro A6 c6 w6 hr6 hg6 hf6; have H7 := Lib.hid (HOW.out.append (by simp; have := HL.out; omega) hr6 hg6 hf6); clear hr6 hg6 hf6))
                  go_ret2
                  exact ⟨_, by rw [HE.out]; rfl, by rw [HE.out]; exact H7.out.mine⟩
          · obtain ⟨f1, f2⟩ := addF_no hov
            rw [f1, f2] at hadd
            have HE := Lib.hid (show giveP l now m most = ([], 6) by unfold giveP; rw [if_neg hnot, ← hSS, if_pos hov])
            clear h hk hn e1 hmp hm hm0 hho hnot hS hF s1 s2 hS0 hSS hov f1 f2 hmo hlo
            go_enter Try.func26, Try.ntmps26
            go_wp2_with (first
              | (go_at_call 16; refine hmy.mono ?_; rintro e w1 ⟨rfl, h1⟩; have H1 := Lib.hid h1; clear h1)
              | (go_at_call 12; refine (HSU.out _ H1.out).mono ?_; rintro e w3 ⟨rfl, h1⟩; have H3 := Lib.hid (H1.out.then h1); clear h1)
              | (go_at_call 30; refine (hadd _).mono ?_; rintro e w4 ⟨rfl, h1⟩; have H4 := Lib.hid (H3.out.then h1); clear h1))
            go_ret2
            exact ⟨_, by rw [HE.out]; rfl, by rw [HE.out]; exact Mine.nil H4.out⟩
end Go.Proofs
