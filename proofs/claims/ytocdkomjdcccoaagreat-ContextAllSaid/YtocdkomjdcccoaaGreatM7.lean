import Derived.Test.YtocdkomjdcccoaaGreatM6
section
namespace Go.Proofs
open Go.RowKit
set_option linter.unusedVariables false

set_option maxHeartbeats 6400000 in
set_option maxRecDepth 100000 in
theorem rgive_any {w : World} {v : Value} {l : List Rf} (h : In w v l) (hk : Ok l) (hn : l.length ≤ 100000) {now m most : Int} (hm : U64 m) :
    Calls Tryz.prog 84 #[v, .int .u64 now, .int .u64 m, .int .i64 most] w fun e w' => ∃ v', e = .returned (.tuple #[v', .int .i64 (giveP l now m most).2]) ∧ Mine w w' v' (giveP l now m most).1 := by
  have hmy := rmay_any h hk hn
  have HSU := Lib.hid (fun W (hW : Chg [] w W) => (rsum_any (h.quiet hW) hk hn).mono (R' := fun e w' => e = .returned (.tuple #[.int .u64 (sumN l), .bool (sumF l)]) ∧ Chg [] W w') (fun e w' ⟨h1, h2⟩ => ⟨h1, by rw [← h2]; exact Chg.refl _ _⟩))
  have HH := Lib.hid h
  obtain ⟨A, c, rfl, _⟩ := h.open_
  obtain ⟨n, e1⟩ : ∃ n, n = l.length := ⟨_, rfl⟩
  rw [← e1] at hmy HSU HH ⊢
  cases hmp : mayP l with
  | false =>
    rw [hmp] at hmy
    have HE := Lib.hid (show giveP l now m most = ([], 2) by unfold giveP; rw [if_pos (.inl hmp)])
    clear h hk hn e1 hmp hm
    go_enter Tryz.func84, Tryz.ntmps84
    go_wp2_with (first
      | (go_at_call 16; refine hmy.mono ?_; rintro e w1 ⟨rfl, h1⟩; have H1 := Lib.hid h1; clear h1))
    go_ret2
    exact ⟨_, by rw [HE.out]; rfl, by rw [HE.out]; exact Mine.nil H1.out⟩
  | true =>
    rw [hmp] at hmy
    by_cases hm0 : m = 0
    · have HE := Lib.hid (show giveP l now m most = ([], 2) by unfold giveP; rw [if_pos (.inr (.inl hm0))])
      have g0 : (m == 0) = true := by simpa using hm0
      clear h hk hn e1 hmp hm hm0
      go_enter Tryz.func84, Tryz.ntmps84
      go_wp2_with (first
        | (go_at_call 16; refine hmy.mono ?_; rintro e w1 ⟨rfl, h1⟩; have H1 := Lib.hid h1; clear h1))
      go_ret2
      exact ⟨_, by rw [HE.out]; rfl, by rw [HE.out]; exact Mine.nil H1.out⟩
    · have g0 : (m == 0) = false := by simpa using hm0
      by_cases hmo : most < 1
      · have g1 : decide (most < 1) = true := by simpa using hmo
        have HE := Lib.hid (show giveP l now m most = ([], 2) by unfold giveP; rw [if_pos (.inr (.inr (by unfold holdsP; simp; omega)))])
        clear h hk hn e1 hmp hm hm0 hmo
        go_enter Tryz.func84, Tryz.ntmps84
        go_wp2_with (first
          | (go_at_call 16; refine hmy.mono ?_; rintro e w1 ⟨rfl, h1⟩; have H1 := Lib.hid h1; clear h1))
        go_ret2
        exact ⟨_, by rw [HE.out]; rfl, by rw [HE.out]; exact Mine.nil H1.out⟩
      · have g1 : decide (most < 1) = false := by simpa using hmo
        by_cases hlo : (n : Int) > most
        · have g2 : decide ((n : Int) > most) = true := by simpa using hlo
          have g2' : decide (most < (n : Int)) = true := by simpa using hlo
          have HE := Lib.hid (show giveP l now m most = ([], 2) by unfold giveP; rw [if_pos (.inr (.inr (by unfold holdsP; simp; omega)))])
          clear h hk hn e1 hmp hm hm0 hmo hlo
          go_enter Tryz.func84, Tryz.ntmps84
          go_wp2_with (first
            | (go_at_call 16; refine hmy.mono ?_; rintro e w1 ⟨rfl, h1⟩; have H1 := Lib.hid h1; clear h1))
          go_ret2
          exact ⟨_, by rw [HE.out]; rfl, by rw [HE.out]; exact Mine.nil H1.out⟩
        · have g2 : decide ((n : Int) > most) = false := by simpa using hlo
          have g2' : decide (most < (n : Int)) = false := by simpa using hlo
          have hho : holdsP l most = true := by unfold holdsP; simp; omega
          have hnot : ¬ (mayP l = false ∨ m = 0 ∨ holdsP l most = false) := by rw [hmp, hho]; simpa using hm0
          obtain ⟨hS, hF⟩ := mayP_iff.1 hmp
          obtain ⟨s1, s2⟩ := sum_all hS
          rw [s1, s2] at HSU
          have hS0 := sumP_nonneg hk
          have hadd := fun W => (radd_any (sumP l) m hS0 hm.1 hS hm.2 W).mono (R' := fun e w' => e = .returned (.tuple #[.int .u64 (addN (sumP l) m), .bool (addF (sumP l) m)]) ∧ Chg [] W w') (fun e w' ⟨h1, h2⟩ => ⟨h1, by rw [← h2]; exact Chg.refl _ _⟩)
          obtain ⟨S, hSS⟩ : ∃ S, S = sumP l := ⟨_, rfl⟩
          rw [← hSS] at hadd HSU hS hS0
          by_cases hov : S + m < 18446744073709551616
          · obtain ⟨f1, f2⟩ := addF_yes hov
            rw [f1, f2] at hadd
            have HDU := Lib.hid (fun W (hW : Chg [] w W) => rdue_any (HH.out.quiet hW) hk hmp hn now)
            have hdl := due_len (l := l) now
            by_cases hth : 1 ≤ thereP l now
            · have hE : giveP l now m most = (incP (dueL l now) m, 0) := by unfold giveP; rw [if_neg hnot, ← hSS, if_neg (by omega), if_pos hth]
              obtain ⟨hdf, hd0⟩ := due_form hk hmp hth
              have hap := due_first hmp hd0
              have hds := sumP_due (l := l) now
              have hdo := hk.due hmp now
              obtain ⟨T, hT⟩ : ∃ T, T = thereP l now := ⟨_, rfl⟩
              obtain ⟨t, ht⟩ : ∃ t, t = aheadP l (dueN l now) := ⟨_, rfl⟩
              obtain ⟨r, hr⟩ : ∃ r, r = l.drop (dueN l now) := ⟨_, rfl⟩
              rw [← hT, ← ht, ← hr] at hdf
              rw [hdf] at HDU hE hds hdo hdl
              rw [← ht] at hap
              rw [← hT] at hth
              have hr0 := sumP_nonneg hdo.tail
              simp only [sumP] at hds
              have g5 : IntKind.u64.wrap (T + m) = T + m := by rw [IntKind.wrap_u64]; have := hm.1; omega
              have g6 : decide (T > 0) = true := by simp; omega
              have g6' : decide (0 < T) = true := by simp; omega
              have g7 : decide (t ≤ now) = true := by simpa using hap
              have HE := Lib.hid (show giveP l now m most = ((T + m, t) :: r, 0) from hE)
              clear h hk hn e1 hmp hm hm0 hho hnot hS hF s1 s2 hS0 hSS hov f1 f2 hth hd0 hap hds hdo hT ht hr hdf hr0 hE hdl hmo hlo
              go_enter Tryz.func84, Tryz.ntmps84
              go_wp2_with (first
                | (go_at_call 16; refine hmy.mono ?_; rintro e w1 ⟨rfl, h1⟩; have H1 := Lib.hid h1; clear h1)
                | (go_at_call 15; refine (HSU.out _ H1.out).mono ?_; rintro e w3 ⟨rfl, h1⟩; have H3 := Lib.hid (H1.out.then h1); clear h1)
                | (go_at_call 47; refine (hadd _).mono ?_; rintro e w4 ⟨rfl, h1⟩; have H4 := Lib.hid (H3.out.then h1); clear h1)
                | (go_at_call 112; refine (HDU.out _ H4.out).mono ?_; rintro e w5 ⟨v5, rfl, h1⟩; obtain ⟨g, cap, rfl, _, hcap, lg, y0, y1, hfz⟩ := h1.1.head; have f0 := hfz 0; have H5 := Lib.hid (h1.before H4.out).mine; clear h1 hfz; obtain ⟨N, hN⟩ : ∃ N, N = r.length + 1 := ⟨_, rfl⟩; rw [← hN] at hcap H5 ⊢; have q0 : (0 : Int) < (N : Int) := (by omega); have q1 : decide ((N : Int) > 0) = true := (by simp; omega); have q2 : decide (0 < (N : Int)) = true := (by simp; omega); have q3 : decide (0 < N) = true := (by simp; omega); clear hN hcap))
              go_ret2
              exact ⟨_, by rw [HE.out]; rfl, by rw [HE.out]; have := H5.out.set1 (k := 0) (x := (T, t)) rfl (T + m); simpa using this⟩
            · obtain ⟨hd1, hd2⟩ := due_none hk hmp hth
              rw [hd1] at HDU
              have HL := Lib.hid e1
              have HB9 := Lib.hid (show 1 + n ≤ 1000000 by omega)
              by_cases hn0 : n = 0
              · have q1 : decide ((n : Int) > 0) = false := by simp; omega
                have q2 : decide (0 < (n : Int)) = false := by simp; omega
                have q3 : decide (0 < n) = false := by simp; omega
                by_cases hfu : (n : Int) = most
                · have g8' : decide ((n : Int) ≥ most) = true := by simp; omega
                  have g8'' : decide (most ≤ (n : Int)) = true := by simp; omega
                  have HE := Lib.hid (show giveP l now m most = ([], 3) by unfold giveP; rw [if_neg hnot, ← hSS, if_neg (by omega), if_neg hth, if_pos (by rw [← e1]; exact hfu)])
                  clear h hk hn e1 hmp hm hm0 hho hnot hS hF s1 s2 hS0 hSS hov f1 f2 hth hd1 hd2 hdl hmo hlo hn0 hfu
                  go_enter Tryz.func84, Tryz.ntmps84
                  go_wp2_with (first
                    | (go_at_call 16; refine hmy.mono ?_; rintro e w1 ⟨rfl, h1⟩; have H1 := Lib.hid h1; clear h1)
                    | (go_at_call 15; refine (HSU.out _ H1.out).mono ?_; rintro e w3 ⟨rfl, h1⟩; have H3 := Lib.hid (H1.out.then h1); clear h1)
                    | (go_at_call 47; refine (hadd _).mono ?_; rintro e w4 ⟨rfl, h1⟩; have H4 := Lib.hid (H3.out.then h1); clear h1)
                    | (go_at_call 112; refine (HDU.out _ H4.out).mono ?_; rintro e w5 ⟨v5, rfl, h1⟩; obtain ⟨A5, c5, rfl, _⟩ := h1.rd.open_; have H5 := Lib.hid (h1.before H4.out); clear h1; rw [← HL.out] at H5 ⊢))
                  go_ret2
                  exact ⟨_, by rw [HE.out]; rfl, by rw [HE.out]; exact Mine.nil H5.out.2.2⟩
                · have g8' : decide ((n : Int) ≥ most) = false := by simp; omega
                  have g8'' : decide (most ≤ (n : Int)) = false := by simp; omega
                  have HE := Lib.hid (show giveP l now m most = ([(m, now)] ++ l, 0) by unfold giveP; rw [if_neg hnot, ← hSS, if_neg (by omega), if_neg hth, if_neg (by rw [← e1]; exact hfu)]; rfl)
                  clear h hk hn e1 hmp hm hm0 hho hnot hS hF s1 s2 hS0 hSS hov f1 f2 hth hd1 hd2 hdl hmo hlo hn0 hfu
                  go_enter Tryz.func84, Tryz.ntmps84
                  go_wp2_with (first
                    | (go_at_call 16; refine hmy.mono ?_; rintro e w1 ⟨rfl, h1⟩; have H1 := Lib.hid h1; clear h1)
                    | (go_at_call 15; refine (HSU.out _ H1.out).mono ?_; rintro e w3 ⟨rfl, h1⟩; have H3 := Lib.hid (H1.out.then h1); clear h1)
                    | (go_at_call 47; refine (hadd _).mono ?_; rintro e w4 ⟨rfl, h1⟩; have H4 := Lib.hid (H3.out.then h1); clear h1)
                    | (go_at_call 112; refine (HDU.out _ H4.out).mono ?_; rintro e w5 ⟨v5, rfl, h1⟩; obtain ⟨A5, c5, rfl, _⟩ := h1.rd.open_; have H5 := Lib.hid (h1.before H4.out); clear h1; rw [← HL.out] at H5 ⊢; have HOW := Lib.hid (show Own w (w5.alloc (.cells #[.int .u64 m, .int .u64 now] 57)) (.slice (some ⟨w5.heap.size, 0, none⟩) 1 1) [(m, now)] from ⟨Ro.one w5 m now, (fun k hk => by have := H5.out.2.2.size; simp [foot_some] at hk; omega), H5.out.2.2.alloc _⟩))
                    | (at_builtin; refine wpList_append_rs (xs := [(m, now)]) (l := l) (n := 1) (m := n) (N := 1 + n) _ rfl _ _ rfl (by rfl) (by rfl) HOW.out.1 (by have := H5.out.rd.quiet ((Chg.refl [] _).alloc (.cells #[.int .u64 m, .int .u64 now] 57)); unfold Rd at this; rw [← HL.out] at this; exact this) HB9.out rfl ?_; intro A6 c6 w6 hr6 hg6 hf6; have H7 := Lib.hid (HOW.out.append (by simp; have := HL.out; omega) hr6 hg6 hf6); clear hr6 hg6 hf6))
                  go_ret2
                  exact ⟨_, by rw [HE.out]; rfl, by rw [HE.out]; exact H7.out.mine⟩
              · have q1 : decide ((n : Int) > 0) = true := by simp; omega
                have q2 : decide (0 < (n : Int)) = true := by simp; omega
                have q3 : decide (0 < n) = true := by simp; omega
                have q4 : (0 : Int) < (n : Int) := by omega
                obtain ⟨x, hx⟩ : ∃ x, l[0]? = some x := ⟨_, List.getElem?_eq_getElem (by omega)⟩
                have hxn : ¬ x.2 ≤ now := fun hc => hth ((there_head hk hmp now).2 ⟨x, hx, hc⟩)
                have q5 : decide (x.2 ≤ now) = false := by simpa using hxn
                have HX := Lib.hid hx
                by_cases hfu : (n : Int) = most
                · have g8' : decide ((n : Int) ≥ most) = true := by simp; omega
                  have g8'' : decide (most ≤ (n : Int)) = true := by simp; omega
                  have HE := Lib.hid (show giveP l now m most = ([], 3) by unfold giveP; rw [if_neg hnot, ← hSS, if_neg (by omega), if_neg hth, if_pos (by rw [← e1]; exact hfu)])
                  clear h hk hn e1 hmp hm hm0 hho hnot hS hF s1 s2 hS0 hSS hov f1 f2 hth hd1 hd2 hdl hmo hlo hn0 hx hxn hfu
                  go_enter Tryz.func84, Tryz.ntmps84
                  go_wp2_with (first
                    | (go_at_call 16; refine hmy.mono ?_; rintro e w1 ⟨rfl, h1⟩; have H1 := Lib.hid h1; clear h1)
                    | (go_at_call 15; refine (HSU.out _ H1.out).mono ?_; rintro e w3 ⟨rfl, h1⟩; have H3 := Lib.hid (H1.out.then h1); clear h1)
                    | (go_at_call 47; refine (hadd _).mono ?_; rintro e w4 ⟨rfl, h1⟩; have H4 := Lib.hid (H3.out.then h1); clear h1)
                    | (go_at_call 112; refine (HDU.out _ H4.out).mono ?_; rintro e w5 ⟨v5, rfl, h1⟩; obtain ⟨b5, o5, c5, rfl, _, _, _, hc5⟩ := h1.rd.form (by have := (List.getElem?_eq_some_iff.1 HX.out).1; omega); obtain ⟨_, z1⟩ := hc5 0 _ HX.out; simp only [Nat.zero_mul, Nat.add_zero] at z1; have H5 := Lib.hid (h1.before H4.out); clear h1 hc5; rw [← HL.out] at H5 ⊢))
                  go_ret2
                  exact ⟨_, by rw [HE.out]; rfl, by rw [HE.out]; exact Mine.nil H5.out.2.2⟩
                · have g8' : decide ((n : Int) ≥ most) = false := by simp; omega
                  have g8'' : decide (most ≤ (n : Int)) = false := by simp; omega
                  have HE := Lib.hid (show giveP l now m most = ([(m, now)] ++ l, 0) by unfold giveP; rw [if_neg hnot, ← hSS, if_neg (by omega), if_neg hth, if_neg (by rw [← e1]; exact hfu)]; rfl)
                  clear h hk hn e1 hmp hm hm0 hho hnot hS hF s1 s2 hS0 hSS hov f1 f2 hth hd1 hd2 hdl hmo hlo hn0 hx hxn hfu
                  go_enter Tryz.func84, Tryz.ntmps84
                  go_wp2_with (first
                    | (go_at_call 16; refine hmy.mono ?_; rintro e w1 ⟨rfl, h1⟩; have H1 := Lib.hid h1; clear h1)
                    | (go_at_call 15; refine (HSU.out _ H1.out).mono ?_; rintro e w3 ⟨rfl, h1⟩; have H3 := Lib.hid (H1.out.then h1); clear h1)
                    | (go_at_call 47; refine (hadd _).mono ?_; rintro e w4 ⟨rfl, h1⟩; have H4 := Lib.hid (H3.out.then h1); clear h1)
                    | (go_at_call 112; refine (HDU.out _ H4.out).mono ?_; rintro e w5 ⟨v5, rfl, h1⟩; obtain ⟨b5, o5, c5, rfl, _, _, _, hc5⟩ := h1.rd.form (by have := (List.getElem?_eq_some_iff.1 HX.out).1; omega); obtain ⟨_, z1⟩ := hc5 0 _ HX.out; simp only [Nat.zero_mul, Nat.add_zero] at z1; have H5 := Lib.hid (h1.before H4.out); clear h1 hc5; rw [← HL.out] at H5 ⊢; have HOW := Lib.hid (show Own w (w5.alloc (.cells #[.int .u64 m, .int .u64 now] 57)) (.slice (some ⟨w5.heap.size, 0, none⟩) 1 1) [(m, now)] from ⟨Ro.one w5 m now, (fun k hk => by have := H5.out.2.2.size; simp [foot_some] at hk; omega), H5.out.2.2.alloc _⟩))
                    | (at_builtin; refine wpList_append_rs (xs := [(m, now)]) (l := l) (n := 1) (m := n) (N := 1 + n) _ rfl _ _ rfl (by rfl) (by rfl) HOW.out.1 (by have := H5.out.rd.quiet ((Chg.refl [] _).alloc (.cells #[.int .u64 m, .int .u64 now] 57)); unfold Rd at this; rw [← HL.out] at this; exact this) HB9.out rfl ?_; intro A6 c6 w6 hr6 hg6 hf6; have H7 := Lib.hid (HOW.out.append (by simp; have := HL.out; omega) hr6 hg6 hf6); clear hr6 hg6 hf6))
                  go_ret2
                  exact ⟨_, by rw [HE.out]; rfl, by rw [HE.out]; exact H7.out.mine⟩
          · obtain ⟨f1, f2⟩ := addF_no hov
            rw [f1, f2] at hadd
            have HE := Lib.hid (show giveP l now m most = ([], 6) by unfold giveP; rw [if_neg hnot, ← hSS, if_pos hov])
            clear h hk hn e1 hmp hm hm0 hho hnot hS hF s1 s2 hS0 hSS hov f1 f2 hmo hlo
            go_enter Tryz.func84, Tryz.ntmps84
            go_wp2_with (first
              | (go_at_call 16; refine hmy.mono ?_; rintro e w1 ⟨rfl, h1⟩; have H1 := Lib.hid h1; clear h1)
              | (go_at_call 15; refine (HSU.out _ H1.out).mono ?_; rintro e w3 ⟨rfl, h1⟩; have H3 := Lib.hid (H1.out.then h1); clear h1)
              | (go_at_call 47; refine (hadd _).mono ?_; rintro e w4 ⟨rfl, h1⟩; have H4 := Lib.hid (H3.out.then h1); clear h1))
            go_ret2
            exact ⟨_, by rw [HE.out]; rfl, by rw [HE.out]; exact Mine.nil H4.out⟩
end Go.Proofs
end
section
namespace Go.Proofs
open Go.RowKit
set_option linter.unusedVariables false

set_option maxHeartbeats 6400000 in
set_option maxRecDepth 100000 in
theorem give_any {w : World} {v : Value} {l : List Rf} (h : Rd w v l) (hk : Ok l) (hn : l.length ≤ 100000) {now m most : Int} (hm : U64 m) :
    Calls Tryz.prog 104 #[v, .int .u64 now, .int .u64 m, .int .i64 most] w fun e w' => ∃ v', e = .returned (.tuple #[v', .int .i64 (giveP l now m most).2]) ∧ Mine w w' v' (giveP l now m most).1 := by
  have hmy := may_any h hk hn
  have HHO := Lib.hid (fun W (hW : Chg [] w W) => holds_any (h.quiet hW) most)
  have HSU := Lib.hid (fun W (hW : Chg [] w W) => sum_any (h.quiet hW) hk hn)
  have HH := Lib.hid h
  obtain ⟨A, c, rfl, _⟩ := h.open_
  obtain ⟨n, e1⟩ : ∃ n, n = l.length := ⟨_, rfl⟩
  rw [← e1] at hmy HSU HH ⊢
  rw [← e1] at HHO
  cases hmp : mayP l with
  | false =>
    rw [hmp] at hmy
    have HE := Lib.hid (show giveP l now m most = ([], 2) by unfold giveP; rw [if_pos (.inl hmp)])
    clear h hk hn e1 hmp hm
    go_enter Tryz.func104, Tryz.ntmps104
    go_wp2_with (first
      | (go_at_call 116; refine hmy.mono ?_; rintro e w1 ⟨rfl, h1⟩; have H1 := Lib.hid h1; clear h1))
    go_ret2
    exact ⟨_, by rw [HE.out]; rfl, by rw [HE.out]; exact Mine.nil H1.out⟩
  | true =>
    rw [hmp] at hmy
    by_cases hm0 : m = 0
    · have HE := Lib.hid (show giveP l now m most = ([], 2) by unfold giveP; rw [if_pos (.inr (.inl hm0))])
      have g0 : (m == 0) = true := by simpa using hm0
      clear h hk hn e1 hmp hm hm0
      go_enter Tryz.func104, Tryz.ntmps104
      go_wp2_with (first
        | (go_at_call 116; refine hmy.mono ?_; rintro e w1 ⟨rfl, h1⟩; have H1 := Lib.hid h1; clear h1))
      go_ret2
      exact ⟨_, by rw [HE.out]; rfl, by rw [HE.out]; exact Mine.nil H1.out⟩
    · have g0 : (m == 0) = false := by simpa using hm0
      cases hho : holdsP l most with
      | false =>
        rw [hho] at HHO
        have HE := Lib.hid (show giveP l now m most = ([], 2) by unfold giveP; rw [if_pos (.inr (.inr hho))])
        clear h hk hn e1 hmp hm hm0 hho
        go_enter Tryz.func104, Tryz.ntmps104
        go_wp2_with (first
          | (go_at_call 116; refine hmy.mono ?_; rintro e w1 ⟨rfl, h1⟩; have H1 := Lib.hid h1; clear h1)
          | (go_at_call 109; refine (HHO.out _ H1.out).mono ?_; rintro e w2 ⟨rfl, rfl⟩))
        go_ret2
        exact ⟨_, by rw [HE.out]; rfl, by rw [HE.out]; exact Mine.nil H1.out⟩
      | true =>
        rw [hho] at HHO
        have hnot : ¬ (mayP l = false ∨ m = 0 ∨ holdsP l most = false) := by rw [hmp, hho]; simpa using hm0
        obtain ⟨hS, hF⟩ := mayP_iff.1 hmp
        obtain ⟨s1, s2⟩ := sum_all hS
        rw [s1, s2] at HSU
        have hS0 := sumP_nonneg hk
        have hadd := fun W => add_any (sumP l) m hS0 hm.1 hS hm.2 W
        obtain ⟨S, hSS⟩ : ∃ S, S = sumP l := ⟨_, rfl⟩
        rw [← hSS] at hadd HSU hS hS0
        by_cases hov : S + m < 18446744073709551616
        · obtain ⟨f1, f2⟩ := addF_yes hov
          rw [f1, f2] at hadd
          have HDU := Lib.hid (fun W (hW : Chg [] w W) => due_any (HH.out.quiet hW) hk hn now)
          rw [hmp] at HDU
          simp only [if_true] at HDU
          have hdl := due_len (l := l) now
          have HTH := Lib.hid (fun W V (hV : Rd W V (dueL l now)) => there_any hV (hk.due hmp now) (by omega) now)
          rw [there_due hk hmp] at HTH
          by_cases hth : 1 ≤ thereP l now
          · have hE : giveP l now m most = (incP (dueL l now) m, 0) := by unfold giveP; rw [if_neg hnot, ← hSS, if_neg (by omega), if_pos hth]
            obtain ⟨hdf, hd0⟩ := due_form hk hmp hth
            have hap := due_first hmp hd0
            have hds := sumP_due (l := l) now
            have hdo := hk.due hmp now
            obtain ⟨T, hT⟩ : ∃ T, T = thereP l now := ⟨_, rfl⟩
            obtain ⟨t, ht⟩ : ∃ t, t = aheadP l (dueN l now) := ⟨_, rfl⟩
            obtain ⟨r, hr⟩ : ∃ r, r = l.drop (dueN l now) := ⟨_, rfl⟩
            rw [← hT, ← ht, ← hr] at hdf
            rw [hdf] at HDU hE hds hdo hdl
            rw [hdf, ← hT] at HTH
            rw [← ht] at hap
            rw [← hT] at hth
            have hr0 := sumP_nonneg hdo.tail
            simp only [sumP] at hds
            have g5 : IntKind.u64.wrap (T + m) = T + m := by rw [IntKind.wrap_u64]; have := hm.1; omega
            have g6 : decide (T > 0) = true := by simp; omega
            have g6' : decide (0 < T) = true := by simp; omega
            have g7 : decide (t ≤ now) = true := by simpa using hap
            have HE := Lib.hid (show giveP l now m most = ((T + m, t) :: r, 0) from hE)
            clear h hk hn e1 hmp hm hm0 hho hnot hS hF s1 s2 hS0 hSS hov f1 f2 hth hd0 hap hds hdo hT ht hr hdf hr0 hE hdl
            go_enter Tryz.func104, Tryz.ntmps104
            go_wp2_with (first
              | (go_at_call 116; refine hmy.mono ?_; rintro e w1 ⟨rfl, h1⟩; have H1 := Lib.hid h1; clear h1)
              | (go_at_call 109; refine (HHO.out _ H1.out).mono ?_; rintro e w2 ⟨rfl, rfl⟩)
              | (go_at_call 105; refine (HSU.out _ H1.out).mono ?_; rintro e w3 ⟨rfl, h1⟩; have H3 := Lib.hid (H1.out.then h1); clear h1)
              | (go_at_call 108; refine (hadd _).mono ?_; rintro e w4 ⟨rfl, h1⟩; have H4 := Lib.hid (H3.out.then h1); clear h1)
              | (go_at_call 117; refine (HDU.out _ H4.out).mono ?_; rintro e w5 ⟨v5, rfl, h1⟩; obtain ⟨g, cap, rfl, _, hcap, lg, y0, y1, hfz⟩ := h1.1.head; have f0 := hfz 0; have hth5 := HTH.out _ _ h1.rd; have H5 := Lib.hid (h1.before H4.out).mine; clear h1 hfz; obtain ⟨N, hN⟩ : ∃ N, N = r.length + 1 := ⟨_, rfl⟩; rw [← hN] at hcap H5 ⊢; rw [← hN] at hth5; have q0 : (0 : Int) < (N : Int) := (by omega); have q1 : decide ((N : Int) > 0) = true := (by simp; omega); have q2 : decide (0 < (N : Int)) = true := (by simp; omega); have q3 : decide (0 < N) = true := (by simp; omega); clear hN hcap)
              | (go_at_call 74; refine hth5.mono ?_; rintro e w6 ⟨rfl, h1⟩; have H6 := Lib.hid (H5.out.later h1); have y0' := (h1.cell (p := ⟨g, 0, none⟩) lg (by simp)).trans y0; have f0' := (h1.frozen (p := ⟨g, 0, none⟩) lg (by simp)).trans f0; clear h1))
            go_ret2
            exact ⟨_, by rw [HE.out]; rfl, by rw [HE.out]; have := H6.out.set1 (k := 0) (x := (T, t)) rfl (T + m); simpa using this⟩
          · obtain ⟨hd1, hd2⟩ := due_none hk hmp hth
            rw [hd1] at HDU
            rw [hd1, hd2] at HTH
            have HL := Lib.hid e1
            have HB9 := Lib.hid (show 1 + n ≤ 1000000 by omega)
            by_cases hfu : (n : Int) = most
            · have g8 : ((n : Int) == most) = true := by simpa using hfu
              have g8' : decide ((n : Int) ≥ most) = true := by simp; omega
              have g8'' : decide (most ≤ (n : Int)) = true := by simp; omega
              have HE := Lib.hid (show giveP l now m most = ([], 3) by unfold giveP; rw [if_neg hnot, ← hSS, if_neg (by omega), if_neg hth, if_pos (by rw [← e1]; exact hfu)])
              clear h hk hn e1 hmp hm hm0 hho hnot hS hF s1 s2 hS0 hSS hov f1 f2 hth hd1 hd2 hdl hfu
              go_enter Tryz.func104, Tryz.ntmps104
              go_wp2_with (first
                | (go_at_call 116; refine hmy.mono ?_; rintro e w1 ⟨rfl, h1⟩; have H1 := Lib.hid h1; clear h1)
                | (go_at_call 109; refine (HHO.out _ H1.out).mono ?_; rintro e w2 ⟨rfl, rfl⟩)
                | (go_at_call 105; refine (HSU.out _ H1.out).mono ?_; rintro e w3 ⟨rfl, h1⟩; have H3 := Lib.hid (H1.out.then h1); clear h1)
                | (go_at_call 108; refine (hadd _).mono ?_; rintro e w4 ⟨rfl, h1⟩; have H4 := Lib.hid (H3.out.then h1); clear h1)
                | (go_at_call 117; refine (HDU.out _ H4.out).mono ?_; rintro e w5 ⟨v5, rfl, h1⟩; have hth5 := HTH.out _ _ h1.rd; obtain ⟨A5, c5, rfl, _⟩ := h1.rd.open_; have H5 := Lib.hid (h1.before H4.out); clear h1; rw [← HL.out] at H5 hth5 ⊢)
                | (go_at_call 74; refine hth5.mono ?_; rintro e w6 ⟨rfl, h1⟩; have H6 := Lib.hid (H5.out.later h1); clear h1))
              go_ret2
              exact ⟨_, by rw [HE.out]; rfl, by rw [HE.out]; exact Mine.nil H6.out.2.2⟩
            · have g8 : ((n : Int) == most) = false := by simpa using hfu
              have HE := Lib.hid (show giveP l now m most = ([(m, now)] ++ l, 0) by unfold giveP; rw [if_neg hnot, ← hSS, if_neg (by omega), if_neg hth, if_neg (by rw [← e1]; exact hfu)]; rfl)
              have HNW := Lib.hid (show newP m now = [(m, now)] by unfold newP; rw [if_neg hm0])
              clear h hk hn e1 hmp hm hm0 hho hnot hS hF s1 s2 hS0 hSS hov f1 f2 hth hd1 hd2 hdl hfu
              go_enter Tryz.func104, Tryz.ntmps104
              go_wp2_with (first
                | (go_at_call 116; refine hmy.mono ?_; rintro e w1 ⟨rfl, h1⟩; have H1 := Lib.hid h1; clear h1)
                | (go_at_call 109; refine (HHO.out _ H1.out).mono ?_; rintro e w2 ⟨rfl, rfl⟩)
                | (go_at_call 105; refine (HSU.out _ H1.out).mono ?_; rintro e w3 ⟨rfl, h1⟩; have H3 := Lib.hid (H1.out.then h1); clear h1)
                | (go_at_call 108; refine (hadd _).mono ?_; rintro e w4 ⟨rfl, h1⟩; have H4 := Lib.hid (H3.out.then h1); clear h1)
                | (go_at_call 117; refine (HDU.out _ H4.out).mono ?_; rintro e w5 ⟨v5, rfl, h1⟩; have hth5 := HTH.out _ _ h1.rd; obtain ⟨A5, c5, rfl, _⟩ := h1.rd.open_; have H5 := Lib.hid (h1.before H4.out); clear h1; rw [← HL.out] at H5 hth5 ⊢)
                | (go_at_call 74; refine hth5.mono ?_; rintro e w6 ⟨rfl, h1⟩; have H6 := Lib.hid (H5.out.later h1); clear h1)
                | (go_at_call 92; refine (new_any _ _ _).mono ?_; rintro e w7 ⟨v7, rfl, h1⟩; rw [HNW.out] at h1; obtain ⟨g7, cap7, rfl, _, _, _, _, _, _⟩ := h1.1.head; have H6b := Lib.hid (H6.out.later h1.2.2); have H7 := Lib.hid (h1.before H6.out.2.2); clear h1)
                | (at_builtin; refine wpList_append_rs (xs := [(m, now)]) (l := l) (n := 1) (m := n) (N := 1 + n) _ rfl _ _ rfl (by rfl) (by rfl) H7.out.1 (by have := H6b.out.rd; unfold Rd at this; rw [← HL.out] at this; exact this) HB9.out rfl ?_; intro A8 c8 w8 hr8 hg8 hf8; have H8 := Lib.hid (H7.out.append (by simp; have := HL.out; omega) hr8 hg8 hf8); clear hr8 hg8 hf8))
              go_ret2
              exact ⟨_, by rw [HE.out]; rfl, by rw [HE.out]; exact H8.out.mine⟩
        · obtain ⟨f1, f2⟩ := addF_no hov
          rw [f1, f2] at hadd
          have HE := Lib.hid (show giveP l now m most = ([], 6) by unfold giveP; rw [if_neg hnot, ← hSS, if_pos hov])
          clear h hk hn e1 hmp hm hm0 hho hnot hS hF s1 s2 hS0 hSS hov f1 f2
          go_enter Tryz.func104, Tryz.ntmps104
          go_wp2_with (first
            | (go_at_call 116; refine hmy.mono ?_; rintro e w1 ⟨rfl, h1⟩; have H1 := Lib.hid h1; clear h1)
            | (go_at_call 109; refine (HHO.out _ H1.out).mono ?_; rintro e w2 ⟨rfl, rfl⟩)
            | (go_at_call 105; refine (HSU.out _ H1.out).mono ?_; rintro e w3 ⟨rfl, h1⟩; have H3 := Lib.hid (H1.out.then h1); clear h1)
            | (go_at_call 108; refine (hadd _).mono ?_; rintro e w4 ⟨rfl, h1⟩; have H4 := Lib.hid (H3.out.then h1); clear h1))
          go_ret2
          exact ⟨_, by rw [HE.out]; rfl, by rw [HE.out]; exact Mine.nil H4.out⟩
end Go.Proofs
end
section
namespace Go.Proofs
open Go.RowKit
set_option linter.unusedVariables false

/-! ### Plain facts -/
theorem fineP_pw {l : List Rf} : fineP l = true ↔ l.Pairwise (fun x y => x.2 < y.2) ∧ ∀ x ∈ l, x.1 ≠ 0 := by
  constructor
  · intro h
    refine ⟨?_, fun x hx => ?_⟩
    · rw [List.pairwise_iff_getElem]
      intro i j hi hj hij
      exact fine_rises h (List.getElem?_eq_getElem hi) (List.getElem?_eq_getElem hj) hij
    · obtain ⟨j, hj, hje⟩ := List.mem_iff_getElem.1 hx
      have := (fine_at h (List.getElem?_eq_getElem hj)).1
      rwa [hje] at this
  · rintro ⟨h1, h2⟩
    rw [fineP_iff]
    intro k hk
    rw [badP_at (List.getElem?_eq_getElem hk)]
    unfold wrongP
    rw [Bool.or_eq_false_iff]
    refine ⟨by simpa using h2 _ (List.getElem_mem hk), ?_⟩
    cases k with
    | zero => rfl
    | succ k =>
      rw [aheadP_succ (List.getElem?_eq_getElem (by omega : k < l.length))]
      have := List.pairwise_iff_getElem.1 h1 k (k + 1) (by omega) hk (by omega)
      simp
      omega
/-- What comes later than a time. -/
def lateP : List Rf → Int → Int
  | [], _ => 0
  | x :: l, τ => (if τ < x.2 then x.1 else 0) + lateP l τ
theorem lateP_append (a b : List Rf) (τ : Int) : lateP (a ++ b) τ = lateP a τ + lateP b τ := by
  induction a with
  | nil => simp [lateP]
  | cons x l ih => simp only [List.cons_append, lateP, ih]; omega
theorem lateP_le {l : List Rf} (h : Ok l) (τ : Int) : 0 ≤ lateP l τ ∧ lateP l τ ≤ sumP l := by
  induction l with
  | nil => simp [lateP, sumP]
  | cons x l ih =>
    have h1 := ih h.tail
    have h2 := h.head.1.1
    simp only [lateP, sumP]
    split <;> omega
theorem sum_there (l : List Rf) (now : Int) : sumP (thereL l now) = sumP l - lateP l now := by
  induction l with
  | nil => simp [lateP, sumP, thereL]
  | cons x l ih =>
    by_cases h : x.2 ≤ now
    · rw [thereL_cons h]
      simp only [lateP, sumP, ih]
      rw [if_neg (by omega)]
      omega
    · have : thereL (x :: l) now = thereL l now := by unfold thereL; rw [List.filter_cons, if_neg (by simpa using h)]
      rw [this]
      simp only [lateP, sumP, ih]
      rw [if_pos (by omega)]
      omega
theorem thereP_late {l : List Rf} (hk : Ok l) (hm : mayP l = true) (now : Int) : thereP l now = sumP l - lateP l now := by
  have h1 := (mayP_iff.1 hm).1
  have h2 := lateP_le hk now
  unfold thereP
  rw [(sum_all (l := thereL l now) (by rw [sum_there]; omega)).1, sum_there]
  rfl
theorem late_none {l : List Rf} {τ : Int} (h : ∀ x ∈ l, x.2 ≤ τ) : lateP l τ = 0 := by
  induction l with
  | nil => rfl
  | cons x l ih =>
    simp only [lateP]
    rw [ih (fun y hy => h y (by simp [hy])), if_neg (by have := h x (by simp); omega)]
    rfl
/-- Where something is there: the list, and the list Due. -/
theorem due_parts {l : List Rf} (hk : Ok l) (hm : mayP l = true) {now : Int} (ht : 1 ≤ thereP l now) : ∃ t r, dueL l now = (thereP l now, t) :: r ∧ t ≤ now ∧ (∀ x ∈ r, now < x.2) ∧ (∀ τ, now ≤ τ → lateP r τ = lateP l τ) ∧ r.Pairwise (fun x y => x.2 < y.2) ∧ (∀ x ∈ r, x.1 ≠ 0) ∧ Ok ((thereP l now, t) :: r) ∧ thereP l now + sumP r = sumP l ∧ r.length + 1 ≤ l.length := by
  obtain ⟨hdf, h0⟩ := due_form hk hm ht
  obtain ⟨h1, h2⟩ := mayP_iff.1 hm
  obtain ⟨p1, p2⟩ := fineP_pw.1 h2
  have hds := sumP_due (l := l) now
  have hdl := due_len (l := l) now
  have hdo := hk.due hm now
  rw [hdf] at hds hdl hdo
  refine ⟨_, _, hdf, due_first hm h0, late_rest h2 now, fun τ hτ => ?_, p1.sublist (List.drop_sublist _ _), fun x hx => p2 x (List.mem_of_mem_drop hx), hdo, hds, by simpa using hdl⟩
  have h3 := lateP_append (l.take (dueN l now)) (l.drop (dueN l now)) τ
  rw [List.take_append_drop] at h3
  rw [h3, late_none (l := l.take (dueN l now))]
  · omega
  · intro x hx
    obtain ⟨j, hj, hje⟩ := List.mem_iff_getElem.1 hx
    rw [List.length_take] at hj
    rw [List.getElem_take] at hje
    have := (due_split (now := now) h2 (List.getElem?_eq_getElem (by omega : j < l.length))).2 (by omega)
    rw [hje] at this
    omega
theorem snoc_of {X : List Rf} (h : X ≠ []) : ∃ Y z, X = Y ++ [z] := ⟨X.dropLast, X.getLast h, (List.dropLast_concat_getLast h).symm⟩
theorem backP_snoc (Y : List Rf) (z : Rf) (at_ most : Int) : backP (Y ++ [z]) at_ most = if z.2 < at_ then (if ((Y.length + 1 : Nat) : Int) < most then (Y ++ [z]) ++ [(1, at_)] else Y ++ [(z.1 + 1, at_)]) else Y ++ [(z.1 + 1, z.2)] := by
  have h1 : lastP (Y ++ [z]) = z := by unfold lastP; simp
  have h2 : (Y ++ [z]).length = Y.length + 1 := by simp
  have h3 : ∀ u : Rf, (Y ++ [z]).set (Y.length + 1 - 1) u = Y ++ [u] := fun u => by simp
  unfold backP
  rw [h1, h2]
  by_cases hz : z.2 < at_
  · rw [if_pos (.inr hz), if_pos hz, h3]
  · rw [if_neg (by omega), if_neg hz, h3]
/-- What one that comes back does to a list. -/
theorem back_facts {X : List Rf} (hk : Ok X) (hp : X.Pairwise (fun x y => x.2 < y.2)) (hz : ∀ x ∈ X, x.1 ≠ 0) (hs : sumP X + 1 < 18446744073709551616) {at_ most : Int} (hat : U64 at_) (hm : 1 ≤ most) (hl : (X.length : Int) ≤ most) :
    Ok (backP X at_ most) ∧ fineP (backP X at_ most) = true ∧ sumP (backP X at_ most) = sumP X + 1 ∧ ((backP X at_ most).length : Int) ≤ most ∧ ∀ τ, lateP X τ + (if τ < at_ then 1 else 0) ≤ lateP (backP X at_ most) τ := by
  by_cases hX : X = []
  · subst hX
    rw [show backP [] at_ most = [(1, at_)] by unfold backP; rw [if_pos (.inl rfl), if_pos (by simp; omega)]; rfl]
    refine ⟨Ok.cons ⟨by omega, by omega⟩ hat Ok.nil, fineP_pw.2 ⟨by simp, by simp⟩, by simp [sumP], by simpa using hm, fun τ => ?_⟩
    simp only [lateP]; omega
  · obtain ⟨Y, z, rfl⟩ := snoc_of hX
    rw [List.pairwise_append] at hp
    obtain ⟨p1, _, p3⟩ := hp
    have p3 : ∀ y ∈ Y, y.2 < z.2 := fun y hy => p3 y hy z (by simp)
    have hzz := hk z (by simp)
    have hoy : Ok Y := fun x hx => hk x (by simp [hx])
    have hz0 := hzz.1.1
    have hsy := sumP_nonneg hoy
    rw [sumP_append] at hs
    simp only [sumP] at hs
    have hzy : ∀ x ∈ Y, x.1 ≠ 0 := fun x hx => hz x (by simp [hx])
    have hln : ((Y ++ [z]).length : Int) = (Y.length : Int) + 1 := by simp
    rw [hln] at hl
    rw [backP_snoc]
    by_cases hlt : z.2 < at_
    · rw [if_pos hlt]
      by_cases hr : ((Y.length + 1 : Nat) : Int) < most
      · rw [if_pos hr]
        refine ⟨hk.append (Ok.cons ⟨by omega, by omega⟩ hat Ok.nil), fineP_pw.2 ⟨?_, ?_⟩, ?_, ?_, fun τ => ?_⟩
        · rw [List.pairwise_append, List.pairwise_append]
          refine ⟨⟨p1, by simp, fun y hy u hu => by simp at hu; subst hu; exact p3 y hy⟩, by simp, fun y hy u hu => ?_⟩
          simp at hu
          subst hu
          simp only
          rcases List.mem_append.1 hy with h | h
          · have := p3 y h; omega
          · simp at h; subst h; exact hlt
        · intro x hx
          rcases List.mem_append.1 hx with h | h
          · exact hz x h
          · simp at h; subst h; simp
        · simp only [sumP_append, sumP]; omega
        · simp; omega
        · simp only [lateP_append, lateP]; omega
      · rw [if_neg hr]
        refine ⟨hoy.append (Ok.cons ⟨by omega, by omega⟩ hat Ok.nil), fineP_pw.2 ⟨?_, ?_⟩, ?_, ?_, fun τ => ?_⟩
        · rw [List.pairwise_append]
          refine ⟨p1, by simp, fun y hy u hu => ?_⟩
          simp at hu
          subst hu
          have := p3 y hy
          simp only
          omega
        · intro x hx
          rcases List.mem_append.1 hx with h | h
          · exact hzy x h
          · simp at h; subst h; simp only; omega
        · simp only [sumP_append, sumP]; omega
        · simp; omega
        · simp only [lateP_append, lateP]
          by_cases h1 : τ < z.2
          · rw [if_pos h1, if_pos (by omega), if_pos (by omega)]; omega
          · rw [if_neg h1]
            split <;> omega
    · rw [if_neg hlt]
      refine ⟨hoy.append (Ok.cons ⟨by omega, by omega⟩ hzz.2 Ok.nil), fineP_pw.2 ⟨?_, ?_⟩, ?_, ?_, fun τ => ?_⟩
      · rw [List.pairwise_append]
        refine ⟨p1, by simp, fun y hy u hu => ?_⟩
        simp at hu
        subst hu
        exact p3 y hy
      · intro x hx
        rcases List.mem_append.1 hx with h | h
        · exact hzy x h
        · simp at h; subst h; simp only; omega
      · simp only [sumP_append, sumP]; omega
      · simp; omega
      · simp only [lateP_append, lateP]
        by_cases h1 : τ < z.2
        · rw [if_pos h1]; split <;> omega
        · rw [if_neg h1, if_neg (by omega)]; omega
/-- What a use does. -/
theorem use_facts {l : List Rf} (hk : Ok l) {now per most : Int} (h0 : 0 ≤ now) (hp0 : 0 ≤ per) (hc : canP l now per most) :
    Ok (useP l now per most) ∧ mayP (useP l now per most) = true ∧ sumP (useP l now per most) = sumP l ∧ ((useP l now per most).length : Int) ≤ most ∧ ∀ τ, now ≤ τ → lateP l τ + (if τ < now + per then 1 else 0) ≤ lateP (useP l now per most) τ := by
  obtain ⟨hho, hpe, hf, hm, ht⟩ := hc
  unfold holdsP at hho
  simp only [Bool.and_eq_true, decide_eq_true_iff] at hho
  obtain ⟨t, r, hd, ht1, hrl, hrt, hrp, hrz, hro, hrs, hrn⟩ := due_parts hk hm ht
  have hms := (mayP_iff.1 hm).1
  have hr0 := sumP_nonneg hro.tail
  unfold useP
  rw [hd, decP_cons]
  by_cases hT : thereP l now = 1
  · rw [if_pos hT]
    obtain ⟨q1, q2, q3, q4, q5⟩ := back_facts (at_ := now + per) (most := most) hro.tail hrp hrz (by omega) ⟨by omega, hf⟩ hho.1 (by omega)
    refine ⟨q1, mayP_iff.2 ⟨by omega, q2⟩, by omega, q4, fun τ hτ => ?_⟩
    rw [← hrt τ hτ]
    exact q5 τ
  · rw [if_neg hT]
    have hoo : Ok ((thereP l now - 1, t) :: r) := by
      have := hro.dec (m := 1) (by omega) ht
      rwa [decP_cons, if_neg hT] at this
    obtain ⟨q1, q2, q3, q4, q5⟩ := back_facts (at_ := now + per) (most := most) hoo (List.pairwise_cons.2 ⟨fun x hx => by have := hrl x hx; simp only; omega, hrp⟩) (fun x hx => by
      rcases List.mem_cons.1 hx with rfl | h
      · simp only; omega
      · exact hrz x h) (by simp only [sumP]; omega) ⟨by omega, hf⟩ hho.1 (by simp; omega)
    simp only [sumP] at q3
    refine ⟨q1, mayP_iff.2 ⟨by omega, q2⟩, by omega, q4, fun τ hτ => ?_⟩
    have := q5 τ
    simp only [lateP] at this
    rw [if_neg (by omega)] at this
    rw [← hrt τ hτ]
    omega
theorem use_there {l : List Rf} (hk : Ok l) {now per most : Int} (h0 : 0 ≤ now) (hp0 : 0 ≤ per) (hc : canP l now per most) : thereP (useP l now per most) now ≤ thereP l now := by
  obtain ⟨q1, q2, q3, q4, q5⟩ := use_facts hk h0 hp0 hc
  rw [thereP_late q1 q2, thereP_late hk hc.2.2.2.1]
  have := q5 now (Int.le_refl _)
  split at this <;> omega
end Go.Proofs
end
section
namespace Go.Proofs
open Go.RowKit
set_option linter.unusedVariables false

/-! ### What may turn without a list of refills turning -/
/-- Each of these blocks holds no refills, or is not there yet. -/
def Off (w : World) (S : List Nat) : Prop := ∀ k ∈ S, k < w.heap.size → ∃ t cs, Blk w k t cs ∧ t ≠ 57
theorem Off.nil (w : World) : Off w [] := fun k hk => by cases hk
theorem Off.cons {w : World} {k : Nat} {t : TypeId} {cs : Array Value} {S : List Nat} (h : Blk w k t cs) (ht : t ≠ 57) (hS : Off w S) : Off w (k :: S) := fun j hj hl => by
  rcases List.mem_cons.1 hj with rfl | hj
  · exact ⟨t, cs, h, ht⟩
  · exact hS j hj hl
theorem Off.append {w : World} {S T : List Nat} (hS : Off w S) (hT : Off w T) : Off w (S ++ T) := fun j hj hl => (List.mem_append.1 hj).elim (fun h => hS j h hl) (fun h => hT j h hl)
theorem Off.row {w : World} {e : TypeId} {size n : Nat} {v : Value} {xs : List Value} (h : Row w e size v n xs) (he : e ≠ 57) : Off w (foot v) := fun j hj hl => by
  rcases h.2 with ⟨rfl, _⟩ | ⟨g, cap, cur, rfl, hg, _⟩
  · cases hj
  · simp [foot_some] at hj; subst hj; exact ⟨_, _, hg, he⟩
theorem Rd.off {w : World} {v : Value} {l : List Rf} (h : Rd w v l) {S : List Nat} (hS : Off w S) : ∀ k ∈ foot v, k ∉ S := fun k hk hm => by
  obtain ⟨t, cs, hB, ht⟩ := hS k hm (h.lt k hk)
  exact Rs.ty h hB (Ne.symm ht) hk
theorem Rd.keep {w w' : World} {v : Value} {l : List Rf} (h : Rd w v l) {S : List Nat} (hS : Off w S) (hc : Chg S w w') : Rd w' v l := h.chg hc (h.off hS)
theorem TabAt.off {w : World} {g : Nat} {S : List Nat} {t : Tab Cx} (h : TabAt w g S t) : Off w S := by
  obtain ⟨VS, VF, hB, hS, hF, rfl⟩ := h
  exact Off.cons hB (by decide) ((Off.row hS (by decide)).append (Off.row hF (by decide)))

/-! ### Contexts -/
abbrev Cx.v (x : Cx) : Value := .slice x.a x.m x.c
/-- Each context's refills read as its list. -/
def Good (w : World) (t : Tab Cx) : Prop := ∀ (k : Nat) (s : Spot Cx), t.spots[k]? = some s → Rd w s.thing.v s.thing.l
theorem Good.keep {w w' : World} {t : Tab Cx} (h : Good w t) {S : List Nat} (hS : Off w S) (hc : Chg S w w') : Good w' t := fun k s hs => (h k s hs).keep hS hc
theorem Good.quiet {w w' : World} {t : Tab Cx} (h : Good w t) (hc : Chg [] w w') : Good w' t := h.keep (Off.nil w) hc
theorem Good.nil (w : World) (a b c : Int) : Good w ⟨a, b, [], [], c⟩ := fun k s hs => by simp at hs
def CtxAt (w : World) (c : Nat) (S : List Nat) (t : Tab Cx) (most : Int) : Prop := ∃ g, Blk w c 66 #[.pointer (some ⟨g, 0, none⟩), .int .i64 most] ∧ TabAt w g S t ∧ Good w t ∧ t.WF
section
variable {w w' : World} {c : Nat} {S : List Nat} {t : Tab Cx} {most : Int}
theorem CtxAt.quiet (h : CtxAt w c S t most) (hc : Chg [] w w') : CtxAt w' c S t most := by
  obtain ⟨g, h1, h2, h3, h4⟩ := h
  exact ⟨g, h1.chg hc (by simp), h2.quiet hc, h3.quiet hc, h4⟩
theorem CtxAt.chg {S' : List Nat} (h : CtxAt w c S t most) (hc : Chg S' w w') (h1 : c ∉ S') (h2 : ∀ k ∈ S, k ∉ S') (h3 : Off w S') : CtxAt w' c S t most := by
  obtain ⟨g, k1, k2, k3, k4⟩ := h
  exact ⟨g, k1.chg hc h1, k2.chg hc h2, k3.keep h3 hc, k4⟩
theorem CtxAt.lt (h : CtxAt w c S t most) : ∀ k ∈ c :: S, k < w.heap.size := by
  obtain ⟨g, h1, h2, h3, h4⟩ := h
  intro k hk
  rcases List.mem_cons.1 hk with rfl | hk
  · exact h1.lt
  · exact h2.lt k hk
theorem CtxAt.off (h : CtxAt w c S t most) : Off w S := by obtain ⟨g, h1, h2, h3, h4⟩ := h; exact h2.off
theorem CtxAt.wf (h : CtxAt w c S t most) : t.WF := by obtain ⟨g, h1, h2, h3, h4⟩ := h; exact h4
theorem TabAt.not_ctx {g : Nat} {cs : Array Value} (h : TabAt w g S t) (hB : Blk w c 66 cs) : c ∉ S := by
  obtain ⟨VS, VF, hB', hS, hF, rfl⟩ := h
  simp only [List.mem_cons, List.mem_append, not_or]
  exact ⟨fun e => Blk.ty hB hB' (by decide) e, hS.ty hB (by decide), hF.ty hB (by decide)⟩
end
/-- What a call on contexts leaves. -/
def CtxTurns (c : Nat) (S : List Nat) (t' : Tab Cx) (most : Int) (w w' : World) : Prop := ∃ S', CtxAt w' c S' t' most ∧ (∀ k ∈ S', k ∈ S ∨ w.heap.size ≤ k) ∧ Chg S w w'
theorem CtxTurns.refl {c : Nat} {S : List Nat} {t : Tab Cx} {most : Int} {a b : World} (h : CtxAt a c S t most) (hc : Chg [] a b) : CtxTurns c S t most a b := ⟨S, h.quiet hc, fun k hk => .inl hk, hc.any⟩
theorem CtxTurns.later {c : Nat} {S : List Nat} {t : Tab Cx} {most : Int} {a b d : World} (h : CtxTurns c S t most a b) (hc : Chg [] b d) : CtxTurns c S t most a d := by
  obtain ⟨S', h1, h2, h3⟩ := h
  exact ⟨S', h1.quiet hc, h2, h3.then hc⟩
theorem CtxTurns.earlier {c : Nat} {S : List Nat} {t : Tab Cx} {most : Int} {a b d : World} (h : CtxTurns c S t most b d) (hc : Chg [] a b) : CtxTurns c S t most a d := by
  obtain ⟨S', h1, h2, h3⟩ := h
  exact ⟨S', h1, fun k hk => (h2 k hk).imp id (fun h => Nat.le_trans hc.size h), (Chg.any hc).trans h3 (fun k hk => .inl hk)⟩
/-- What a ref names; where it is stale, a context of which nothing is there. -/
def Tab.at_ (t : Tab Cx) (i q : Int) : Cx := match t.live i with | some s => if s.gen = q then s.thing else cx0 | none => cx0
theorem at_no {t : Tab Cx} {i q : Int} (h : t.has i q = false) : t.at_ i q = cx0 := by
  unfold Tab.at_
  unfold Tab.has at h
  cases hl : t.live i with
  | none => rfl
  | some s => rw [hl] at h; simp at h; simp [h]
theorem at_yes {t : Tab Cx} {i q : Int} {s : Spot Cx} (hl : t.live i = some s) (hq : s.gen = q) : t.at_ i q = s.thing := by
  unfold Tab.at_; rw [hl]; simp [hq]
theorem Good.at_ {w : World} {t : Tab Cx} (h : Good w t) (i q : Int) : Rd w (t.at_ i q).v (t.at_ i q).l := by
  cases hq : t.has i q with
  | false => rw [at_no hq]; exact Rd.nil w
  | true =>
    obtain ⟨s, hl, he⟩ := has_iff.1 hq
    rw [at_yes hl he]
    exact h _ s (live_iff.1 hl).2.1
/-- The error of a ref. -/
def staleE (t : Tab Cx) (i q : Int) : Int := if t.has i q then 0 else 11
theorem get_any {w : World} {g : Nat} {S : List Nat} {t : Tab Cx} (h : TabAt w g S t) (hw : t.WF) (i q : Int) (i0 : -9223372036854775808 ≤ i) (i1 : i ≤ 9223372036854775807) :
    Calls Tryz.prog 62 #[.pointer (some ⟨g, 0, none⟩), .agg #[.int .i64 i, .int .u64 q]] w fun e w' => e = .returned (.tuple #[(t.at_ i q).val, .int .i64 (staleE t i q)]) ∧ Chg [] w w' := by
  unfold staleE
  cases hq : t.has i q with
  | false => rw [at_no hq]; exact get_no_C h hw i q i0 i1 hq
  | true =>
    obtain ⟨s, hl, he⟩ := has_iff.1 hq
    rw [at_yes hl he]
    exact get_yes_C h hw hq hl
theorem none_any {w : World} {c : Nat} {S : List Nat} {t : Tab Cx} {most : Int} (h : CtxAt w c S t most) :
    Calls Tryz.prog 49 #[.pointer (some ⟨c, 0, none⟩)] w fun e w' => e = .returned (.bool false) ∧ Chg [] w w' := by
  obtain ⟨g, hB, _⟩ := h
  have c0 := hB.cell 0
  clear hB
  go_enter Tryz.func49, Tryz.ntmps49
  go_wp2
  go_ret
  exact ⟨rfl, Chg.refl _ _⟩
theorem none_nil (w : World) : Calls Tryz.prog 49 #[.pointer none] w fun e w' => e = .returned (.bool true) ∧ w = w' := by
  go_enter Tryz.func49, Tryz.ntmps49
  go_wp2
  go_ret
  exact ⟨rfl, rfl⟩
theorem places_any {w : World} {c g : Nat} {most : Int} (hB : Blk w c 66 #[.pointer (some ⟨g, 0, none⟩), .int .i64 most]) :
    Calls Tryz.prog 43 #[.pointer (some ⟨c, 0, none⟩)] w fun e w' => e = .returned (.pointer (some ⟨g, 0, none⟩)) ∧ w = w' := by
  have c0 := hB.cell 0
  clear hB
  go_enter Tryz.func43, Tryz.ntmps43
  go_wp2
  go_ret
  exact ⟨rfl, rfl⟩
theorem full_any {w : World} {c : Nat} {S : List Nat} {t : Tab Cx} {most : Int} (h : CtxAt w c S t most) :
    Calls Tryz.prog 52 #[.pointer (some ⟨c, 0, none⟩)] w fun e w' => e = .returned (.bool (t.frees == 0)) ∧ Chg [] w w' := by
  obtain ⟨g, hB, hT, hG, hW⟩ := h
  obtain ⟨f, hf⟩ : ∃ f, f = t.frees := ⟨_, rfl⟩
  have hfr := free_C hT hW
  rw [← hf] at hfr ⊢
  clear hf hT hG hW
  go_enter Tryz.func52, Tryz.ntmps52
  go_wp2_with (first
    | (go_at_call 43; refine (places_any hB).mono ?_; rintro e w' ⟨rfl, rfl⟩)
    | (go_at_call 89; refine hfr.mono ?_; rintro e w' ⟨rfl, nq, rfl⟩))
  go_ret
  exact ⟨rfl, (Chg.refl _ _).drewN _⟩
theorem len_any {w : World} {c : Nat} {S : List Nat} {t : Tab Cx} {most : Int} (h : CtxAt w c S t most) :
    Calls Tryz.prog 32 #[.pointer (some ⟨c, 0, none⟩)] w fun e w' => e = .returned (.int .i64 (t.size - t.frees - t.retired)) ∧ Chg [] w w' := by
  obtain ⟨g, hB, hT, hG, hW⟩ := h
  have hfr := len_C hT hW
  clear hT hG hW
  go_enter Tryz.func32, Tryz.ntmps32
  go_wp2_with (first
    | (go_at_call 43; refine (places_any hB).mono ?_; rintro e w' ⟨rfl, rfl⟩)
    | (go_at_call 77; refine hfr.mono ?_; rintro e w' ⟨rfl, nq, rfl⟩))
  go_ret
  exact ⟨rfl, (Chg.refl _ _).drewN _⟩
abbrev obRef (i q : Int) : Obj := .cells #[.int .i64 i, .int .u64 q] 34
abbrev obCx : Obj := .cells #[.int .u64 0, .int .u64 0, .slice none 0 0, .int .i64 0] 43
/-- What there is of a box for a context behind calls that turned nothing. -/
theorem cx_facts {w W w2 : World} {n : Nat} (hn : n = w.heap.size) (hW : Chg [] (w.alloc obCx) W) (hc : Chg [] W w2) :
    n < w2.heap.size ∧ w2.cell? ⟨n, 0, none⟩ = some (.int .u64 0) ∧ w2.cell? ⟨n, 1, none⟩ = some (.int .u64 0) ∧ w2.cell? ⟨n, 2, none⟩ = some (.slice none 0 0) ∧ w2.cell? ⟨n, 3, none⟩ = some (.int .i64 0) ∧ ∀ o, w2.frozen? ⟨n, o, none⟩ = false := by
  subst hn
  have hB := ((Blk.new w 43 #[.int .u64 0, .int .u64 0, .slice none 0 0, .int .i64 0]).chg hW (by simp)).chg hc (by simp)
  exact ⟨hB.lt, hB.cell 0, hB.cell 1, hB.cell 2, hB.cell 3, hB.frozen⟩
theorem ref_facts {w W w2 : World} {i q : Int} {n : Nat} (hn : n = w.heap.size) (hW : Chg [] (w.alloc (obRef i q)) W) (hc : Chg [] W w2) :
    n < w2.heap.size ∧ w2.cell? ⟨n, 0, none⟩ = some (.int .i64 i) ∧ w2.cell? ⟨n, 1, none⟩ = some (.int .u64 q) := by
  subst hn
  have hB := ((Blk.new w 34 #[.int .i64 i, .int .u64 q]).chg hW (by simp)).chg hc (by simp)
  exact ⟨hB.lt, hB.cell 0, hB.cell 1⟩
set_option maxHeartbeats 1600000 in
set_option maxRecDepth 100000 in
theorem at_any {w : World} {c : Nat} {S : List Nat} {t : Tab Cx} {most : Int} (h : CtxAt w c S t most) (i q : Int) (i0 : -9223372036854775808 ≤ i) (i1 : i ≤ 9223372036854775807) :
    Calls Tryz.prog 57 #[.pointer (some ⟨c, 0, none⟩), .agg #[.int .i64 i, .int .u64 q]] w fun e w' => e = .returned (t.at_ i q).val ∧ Chg [] w w' := by
  obtain ⟨g, hB, hT, hG, hW⟩ := h
  have HP := fun W (hW : Chg [] w W) => places_any (hB.chg hW (by simp))
  have HG := fun W (hc : Chg [] w W) => get_any (hT.quiet hc) hW i q i0 i1
  obtain ⟨x, hx⟩ : ∃ x, x = t.at_ i q := ⟨_, rfl⟩
  rw [← hx] at HG ⊢
  obtain ⟨e0, he⟩ : ∃ e0, e0 = staleE t i q := ⟨_, rfl⟩
  rw [← he] at HG
  have HP := Lib.hid HP
  have HG := Lib.hid HG
  clear hx he hT hG hW hB
  have hq2 : ¬ (w.heap.size + 1 + 1 = w.heap.size) := by omega
  have hq3 : ¬ (w.heap.size = w.heap.size + 1 + 1) := by omega
  go_enter Tryz.func57, Tryz.ntmps57
  go_wp2
  go_region_held3 (fun w' => w'.cell? ⟨w.heap.size, 0, none⟩ = some (.int .i64 i) ∧ w'.cell? ⟨w.heap.size, 1, none⟩ = some (.int .u64 q))
    (first | go_keep)
    (first
      | (go_at_call 43; refine (HP.out _ ((((Chg.refl _ _).alloc _).alloc _).drew)).mono ?_; rintro e w1 ⟨rfl, rfl⟩)
      | (go_at_call 43; refine (HP.out _ (((((Chg.refl _ _).alloc _).alloc _).alloc _).drew)).mono ?_; rintro e w1 ⟨rfl, rfl⟩)
      | (go_at_call 62; refine (HG.out _ ((((Chg.refl _ _).alloc _).alloc _).drew)).mono ?_; rintro e w2 ⟨rfl, hc⟩; obtain ⟨_, b0, b1⟩ := ref_facts (w := w) rfl (((Chg.refl [] _).alloc _).drew) hc; obtain ⟨hz, r0, r1, r2, r3, rf⟩ := cx_facts (w := w.alloc (obRef i q)) (n := w.heap.size + 1) (by simp) ((Chg.refl [] _).drew) hc; have hq4 : ¬ (w2.heap.size = w.heap.size) := (by omega); have hq5 : ¬ (w.heap.size = w2.heap.size) := (by omega); have HC := Lib.hid ((((Chg.refl [] w).alloc _).alloc _).drew.then hc); clear hc)
      | (go_at_call 62; refine (HG.out _ (((((Chg.refl _ _).alloc _).alloc _).alloc _).drew)).mono ?_; rintro e w2 ⟨rfl, hc⟩; obtain ⟨_, b0, b1⟩ := ref_facts (w := w) rfl ((((Chg.refl [] _).alloc _).alloc _).drew) hc; obtain ⟨hz0, r0, r1, r2, r3, rf⟩ := cx_facts (w := w.alloc (obRef i q)) (n := w.heap.size + 1) (by simp) (((Chg.refl [] _).alloc _).drew) hc; obtain ⟨hz, k0, k1, k2, k3, kf⟩ := cx_facts (w := (w.alloc (obRef i q)).alloc obCx) (n := w.heap.size + 1 + 1) (by simp) ((Chg.refl [] _).drew) hc; have HC := Lib.hid (((((Chg.refl [] w).alloc _).alloc _).alloc _).drew.then hc); clear hc))
  all_goals
    go_wp2
    refine bodyPost_ret (v := x.val) ?_ rfl ⟨rfl, by repeat' (first | with_reducible exact HC.out | with_reducible apply Chg.alloc | with_reducible apply Chg.setCell | (with_reducible refine Or.inr ?_; dsimp only; omega))⟩
    simp [results, Tryz.results57, go_sem, Cx.val, hz, r0, r1, r2, r3]
end Go.Proofs
end
section
namespace Go.Proofs
open Go.RowKit
set_option linter.unusedVariables false

/-! ### What a call is refused by -/
/-- The function value v, called in any world in which nothing turned, answers b, and turns nothing. -/
def Clo (w : World) (v : Value) (b : Bool) : Prop := ∃ f rs cs, v = .func (.func f) rs cs ∧ (∀ W, (callFunc f (rs ++ cs)).run Tryz.prog W = .ok (.enter f (rs ++ cs)) W) ∧ ∀ W, Chg [] w W → Calls Tryz.prog f (rs ++ cs) W fun e W' => e = .returned (.bool b) ∧ Chg [] W W'
theorem Clo.quiet {w w' : World} {v : Value} {b : Bool} (h : Clo w v b) (hc : Chg [] w w') : Clo w' v b := by
  obtain ⟨f, rs, cs, rfl, h0, h1⟩ := h
  exact ⟨f, rs, cs, rfl, h0, fun W hW => h1 W (hc.then hW)⟩
abbrev Rfs3 := List (Int × Value × Bool)
def rowC (L : Rfs3) : List Value := L.flatMap fun x => [.int .i64 x.1, x.2.1]
def firstE : Rfs3 → Int
  | [] => 0
  | x :: r => if x.2.2 then x.1 else firstE r
theorem firstE_at {L : Rfs3} {k : Nat} {x : Int × Value × Bool} (hx : L[k]? = some x) (hb : x.2.2 = true) (h : ∀ (j : Nat) (y : Int × Value × Bool), j < k → L[j]? = some y → y.2.2 = false) : firstE L = x.1 := by
  induction L generalizing k with
  | nil => simp at hx
  | cons a L ih =>
    cases k with
    | zero => simp at hx; subst hx; unfold firstE; rw [if_pos hb]
    | succ k =>
      have h0 := h 0 a (by omega) (by simp)
      unfold firstE
      rw [h0, if_neg (by simp)]
      exact ih (by simpa using hx) (fun j y hj hy => h (j + 1) y (by omega) (by simpa using hy))
theorem firstE_none {L : Rfs3} (h : ∀ (j : Nat) (y : Int × Value × Bool), j < L.length → L[j]? = some y → y.2.2 = false) : firstE L = 0 := by
  induction L with
  | nil => rfl
  | cons a L ih =>
    have h0 := h 0 a (by simp) (by simp)
    unfold firstE
    rw [h0, if_neg (by simp)]
    exact ih (fun j y hj hy => h (j + 1) y (by simp; omega) (by simpa using hy))
theorem rowC_at {L : Rfs3} {k : Nat} {x : Int × Value × Bool} (h : L[k]? = some x) : (rowC L)[k * 2]? = some (.int .i64 x.1) ∧ (rowC L)[k * 2 + 1]? = some x.2.1 :=
  ⟨flat_at (enc := fun x : Int × Value × Bool => [.int .i64 x.1, x.2.1]) (s := 2) (fun _ => rfl) (j := 0) h rfl, flat_at (enc := fun x : Int × Value × Bool => [.int .i64 x.1, x.2.1]) (s := 2) (fun _ => rfl) (j := 1) h rfl⟩
set_option maxHeartbeats 3200000 in
set_option maxRecDepth 100000 in
theorem refused_any {w : World} {B n : Nat} {L : Rfs3} (hB : Blk w B 90 (rowC L).toArray) (hn : n = L.length) (hn9 : n ≤ 9)
    (hC : ∀ (k : Nat) (x : Int × Value × Bool), L[k]? = some x → (∀ (j : Nat) (y : Int × Value × Bool), j < k → L[j]? = some y → y.2.2 = false) → Clo w x.2.1 x.2.2) :
    Calls Tryz.prog 48 #[.slice (some ⟨B, 0, none⟩) n n] w fun e w' => e = .returned (.int .i64 (firstE L)) ∧ Chg [] w w' := by
  have HN := Lib.hid hn
  have HC := Lib.hid hC
  have HB := Lib.hid hB
  clear hB hC hn
  go_enter Tryz.func48, Tryz.ntmps48
  go_wp2
  go_loopg [7] n (fun gh i wx => ∃ k : Nat, k + gh = n ∧ i = .int .i64 k ∧ Hid (Chg [] w wx ∧ ∀ (j : Nat) (y : Int × Value × Bool), j < k → L[j]? = some y → y.2.2 = false))
  case atStart => exact ⟨0, by omega, rfl, Lib.hid ⟨Chg.refl _ _, fun j y hj => by omega⟩⟩
  case round =>
    obtain ⟨k, hk, rfl, HR⟩ := hrel
    by_cases hlt : k < n
    · have k0 : (0 : Int) ≤ (k : Int) := by omega
      have k1 : (k : Int) < (n : Int) := by omega
      obtain ⟨x, hx⟩ : ∃ x, L[k]? = some x := ⟨_, List.getElem?_eq_getElem (by rw [← HN.out]; exact hlt)⟩
      have hB1 := HB.out.chg HR.out.1 (by simp)
      have x0 : wr.cell? ⟨B, k * 2, none⟩ = some (.int .i64 x.1) := (hB1.cell (k * 2)).trans (by rw [List.getElem?_toArray]; exact (rowC_at hx).1)
      have x1 : wr.cell? ⟨B, k * 2 + 1, none⟩ = some x.2.1 := (hB1.cell (k * 2 + 1)).trans (by rw [List.getElem?_toArray]; exact (rowC_at hx).2)
      obtain ⟨f, rs, cs, hv, hrun, hcall⟩ := HC.out k x hx HR.out.2
      obtain ⟨ex, vx, bx⟩ := x
      simp only at hv x0 x1 hcall
      obtain ⟨az, has⟩ : ∃ az, az = rs ++ cs := ⟨_, rfl⟩
      rw [← has] at hrun hcall
      subst hv
      have HX := Lib.hid hx
      have lB := hB1.lt
      have hstep := fun W (hW : Chg [] wr W) => hcall W (HR.out.1.then hW)
      clear hx hcall hB1
      have HAS := Lib.hid has
      clear has
      cases bx with
      | true =>
        have HZ := Lib.hid (firstE_at HX.out rfl HR.out.2)
        go_wp2_with (fail)
        rw [← HAS.out, hrun]
        refine (hstep _ ((Chg.refl _ _).alloc _)).mono ?_
        rintro e w1 ⟨rfl, hc1⟩
        have hB1 := (Blk.new wr 90 #[.int .i64 ex, .func (.func f) rs cs]).chg hc1 (by simp)
        have lb1 := hB1.lt
        have z0 := hB1.cell 0
        have HC1 := Lib.hid hc1
        clear hc1 hB1
        go_wp2
        go_ret
        exact ⟨by rw [HZ.out]; rfl, (HR.out.1.alloc _).then HC1.out⟩
      | false =>
        have HZ := Lib.hid (show ∀ (j : Nat) (y : Int × Value × Bool), j < k + 1 → L[j]? = some y → y.2.2 = false from fun j y hj hy => by
          by_cases e : j = k
          · subst e
            rw [HX.out] at hy
            cases hy
            rfl
          · exact HR.out.2 j y (by omega) hy)
        go_wp2_with (fail)
        rw [← HAS.out, hrun]
        refine (hstep _ ((Chg.refl _ _).alloc _)).mono ?_
        rintro e w1 ⟨rfl, hc1⟩
        have HC1 := Lib.hid hc1
        clear hc1
        go_wp2
        go_roundg (n - k - 1)
        case measure => omega
        case rel => exact ⟨k + 1, by omega, by go_num, Lib.hid ⟨(HR.out.1.alloc _).then HC1.out, HZ.out⟩⟩
    · have hkn : k = n := by omega
      have HZ := Lib.hid (firstE_none (L := L) (fun j y hj hy => HR.out.2 j y (by have := HN.out; omega) hy))
      subst hkn
      go_wp2
      go_ret
      exact ⟨by rw [HZ.out]; rfl, HR.out.1⟩
theorem run_49 (a : Value) (W : World) : (callFunc 49 (#[a] ++ #[])).run Tryz.prog W = .ok (.enter 49 (#[a] ++ #[])) W := by kernel_rfl
end Go.Proofs
end
section
namespace Go.Proofs
open Go.RowKit
set_option linter.unusedVariables false

/-! ### The closures by which a call is refused -/
theorem Blk.tell {w : World} {b : Nat} {t : TypeId} {cs : Array Value} (h : Blk w b t cs) : ∀ W, Chg [] w W → (∀ o, W.cell? ⟨b, o, none⟩ = cs[o]?) ∧ b < W.heap.size := fun W hc => ⟨(h.chg hc (by simp)).cell, (h.chg hc (by simp)).lt⟩
abbrev ptr (b : Nat) : Value := .pointer (some ⟨b, 0, none⟩)
set_option maxHeartbeats 1600000 in
set_option maxRecDepth 100000 in
theorem gone_step {w : World} {c bc br : Nat} {S : List Nat} {t : Tab Cx} {most : Int} (h : CtxAt w c S t most) {i q : Int} (i0 : -9223372036854775808 ≤ i) (i1 : i ≤ 9223372036854775807)
    (hb : Blk w bc 24 #[ptr c]) (hr : Blk w br 34 #[.int .i64 i, .int .u64 q]) :
    Calls Tryz.prog 93 #[ptr bc, ptr br] w fun e w' => e = .returned (.bool (!t.has i q)) ∧ Chg [] w w' := by
  obtain ⟨g, hB, hT, hG, hW⟩ := h
  have HP := fun W (hW : Chg [] w W) => places_any (hB.chg hW (by simp))
  have HG := fun W (hc : Chg [] w W) => get_any (hT.quiet hc) hW i q i0 i1
  obtain ⟨x, hx⟩ : ∃ x, x = t.at_ i q := ⟨_, rfl⟩
  rw [← hx] at HG
  have hlb := hb.lt
  have hlr := hr.lt
  have p0 := hb.cell 0
  have p1 := hr.cell 0
  have p2 := hr.cell 1
  have HB := Lib.hid hb.tell
  have HR := Lib.hid hr.tell
  obtain ⟨e0, he⟩ : ∃ e0, e0 = staleE t i q := ⟨_, rfl⟩
  rw [← he] at HG
  have hres : (e0 != 0) = !t.has i q := by
    rw [he]; unfold staleE
    cases t.has i q <;> rfl
  have HRES := Lib.hid hres
  rw [← hres]
  have HP := Lib.hid HP
  have HG := Lib.hid HG
  have hq4 : ¬ (w.heap.size = bc) := by omega
  have hq5 : ¬ (w.heap.size = br) := by omega
  have hq6 : ¬ (bc = w.heap.size) := by omega
  have hq7 : ¬ (br = w.heap.size) := by omega
  clear hx he hT hG hW hB hb hr hres
  go_enter Tryz.func93, Tryz.ntmps93
  go_wp2
  go_region_held3 (fun w' => w'.cell? ⟨bc, 0, none⟩ = some (ptr c) ∧ w'.cell? ⟨br, 0, none⟩ = some (.int .i64 i) ∧ w'.cell? ⟨br, 1, none⟩ = some (.int .u64 q))
    (first | go_keep)
    (first
      | (go_at_call 43; refine (HP.out _ ((Chg.refl _ _).drew)).mono ?_; rintro e w1 ⟨rfl, rfl⟩)
      | (go_at_call 43; refine (HP.out _ (((Chg.refl _ _).alloc _).drew)).mono ?_; rintro e w1 ⟨rfl, rfl⟩)
      | (go_at_call 62; refine (HG.out _ ((Chg.refl _ _).drew)).mono ?_; rintro e w2 ⟨rfl, hc⟩; have HC := Lib.hid (((Chg.refl [] w).drew).then hc); have k0 := (HB.out _ HC.out).1 0; have k1 := (HR.out _ HC.out).1 0; have k2 := (HR.out _ HC.out).1 1; have lb2 := (HB.out _ HC.out).2; have lr2 := (HR.out _ HC.out).2; have hq4 : ¬ (w2.heap.size = bc) := (by omega); have hq5 : ¬ (w2.heap.size = br) := (by omega); have hq6 : ¬ (bc = w2.heap.size) := (by omega); have hq7 : ¬ (br = w2.heap.size) := (by omega); clear hc)
      | (go_at_call 62; refine (HG.out _ (((Chg.refl _ _).alloc _).drew)).mono ?_; rintro e w2 ⟨rfl, hc⟩; obtain ⟨hz0, r0, r1, r2, r3, rf⟩ := cx_facts (w := w) (n := w.heap.size) rfl ((Chg.refl [] _).drew) hc; have HC := Lib.hid (((Chg.refl [] w).alloc _).drew.then hc); have k0 := (HB.out _ HC.out).1 0; have k1 := (HR.out _ HC.out).1 0; have k2 := (HR.out _ HC.out).1 1; clear hc))
  all_goals
    go_wp2
    go_ret
    exact ⟨rfl, by repeat' (first | with_reducible exact HC.out | with_reducible apply Chg.alloc | with_reducible apply Chg.setCell | (with_reducible refine Or.inr ?_; dsimp only; omega))⟩
end Go.Proofs
end
section
namespace Go.Proofs
open Go.RowKit
set_option linter.unusedVariables false
set_option linter.unusedSimpArgs false
theorem CtxAt.good {w : World} {c : Nat} {S : List Nat} {t : Tab Cx} {most : Int} (h : CtxAt w c S t most) : Good w t := by obtain ⟨g, h1, h2, h3, h4⟩ := h; exact h3
theorem at_agg {w : World} {c : Nat} {S : List Nat} {t : Tab Cx} {most : Int} (h : CtxAt w c S t most) (i q : Int) (i0 : -9223372036854775808 ≤ i) (i1 : i ≤ 9223372036854775807) :
    Calls Tryz.prog 57 #[.pointer (some ⟨c, 0, none⟩), .agg #[.int .i64 i, .int .u64 q]] w fun e w' => e = .returned (.agg #[.int .u64 (t.at_ i q).b, .int .u64 (t.at_ i q).p, .slice (t.at_ i q).a (t.at_ i q).m (t.at_ i q).c, .int .i64 (t.at_ i q).n]) ∧ Chg [] w w' := at_any h i q i0 i1
theorem fldB (b p n : Int) (A : Option Addr) (m c : Nat) (W : World) : (Instr.field 43 (.agg #[.int .u64 b, .int .u64 p, .slice A m c, .int .i64 n]) 0).run Tryz.prog W = .ok (.int .u64 b) W := by kernel_rfl
theorem fldP (b p n : Int) (A : Option Addr) (m c : Nat) (W : World) : (Instr.field 43 (.agg #[.int .u64 b, .int .u64 p, .slice A m c, .int .i64 n]) 1).run Tryz.prog W = .ok (.int .u64 p) W := by kernel_rfl
theorem fldR (b p n : Int) (A : Option Addr) (m c : Nat) (W : World) : (Instr.field 43 (.agg #[.int .u64 b, .int .u64 p, .slice A m c, .int .i64 n]) 2).run Tryz.prog W = .ok (.slice A m c) W := by kernel_rfl
theorem fldN (b p n : Int) (A : Option Addr) (m c : Nat) (W : World) : (Instr.field 43 (.agg #[.int .u64 b, .int .u64 p, .slice A m c, .int .i64 n]) 3).run Tryz.prog W = .ok (.int .i64 n) W := by kernel_rfl
def lackP (x : Cx) (am now : Int) : Bool := decide (thereP x.l now < am) || decide (x.b ≤ am)
set_option maxHeartbeats 1600000 in
set_option maxRecDepth 100000 in
theorem lacks_step {w : World} {c bc br bn ba : Nat} {S : List Nat} {t : Tab Cx} {most : Int} (h : CtxAt w c S t most) {i q : Int} (i0 : -9223372036854775808 ≤ i) (i1 : i ≤ 9223372036854775807)
    (hk : Ok (t.at_ i q).l) (hn : (t.at_ i q).l.length ≤ 100000)
    (hb : Blk w bc 24 #[ptr c]) (hr : Blk w br 34 #[.int .i64 i, .int .u64 q]) {now am : Int} (hbn : Blk w bn 32 #[.int .u64 now]) (hba : Blk w ba 32 #[.int .u64 am]) :
    Calls Tryz.prog 98 #[ptr bc, ptr br, ptr bn, ptr ba] w fun e w' => e = .returned (.bool (lackP (t.at_ i q) am now)) ∧ Chg [] w w' := by
  have HA := Lib.hid (at_agg h i q i0 i1)
  have HT := Lib.hid (fun W (hW : Chg [] w W) => there_any ((h.quiet hW).good.at_ i q) hk hn now)
  unfold lackP
  obtain ⟨x, hx⟩ : ∃ x, x = t.at_ i q := ⟨_, rfl⟩
  rw [← hx] at HA HT ⊢
  have p0 := hb.cell 0
  have p1 := hr.cell 0
  have p2 := hr.cell 1
  have HN := Lib.hid hbn.tell
  have HM := Lib.hid hba.tell
  obtain ⟨th, hth⟩ : ∃ th, th = thereP x.l now := ⟨_, rfl⟩
  rw [← hth] at HT ⊢
  clear hx h hk hn hb hr hbn hba hth
  cases hd : decide (th < am) with
  | false =>
    go_enter Tryz.func98, Tryz.ntmps98
    go_wp2_with (go_at_call 57; refine (HA.out).mono ?_; rintro e w1 ⟨rfl, hc⟩; have n0 := (HN.out _ hc).1 0; have m0 := (HM.out _ hc).1 0; have ln := (HN.out _ hc).2; have lm := (HM.out _ hc).2; have HC := Lib.hid hc; clear hc)
    first
      | go_region_held3 (fun w' => w'.cell? ⟨w1.heap.size, 0, none⟩ = some (.int .u64 x.b) ∧ w'.cell? ⟨w1.heap.size, 2, none⟩ = some (.slice x.a x.m x.c) ∧ w'.cell? ⟨bn, 0, none⟩ = some (.int .u64 now) ∧ w'.cell? ⟨ba, 0, none⟩ = some (.int .u64 am))
          (first | go_keep)
          (first
            | (go_at_call 74; refine (HT.out _ ((HC.out.alloc _).drew)).mono ?_; rintro e w2 ⟨rfl, hc⟩; have hB := (Blk.new w1 43 #[.int .u64 x.b, .int .u64 x.p, .slice x.a x.m x.c, .int .i64 x.n]).drew.chg hc (by simp); have k0 := hB.cell 0; have k2 := hB.cell 2; have HC2 := Lib.hid ((HC.out.alloc _).drew.then hc); have k3 := (HN.out _ HC2.out).1 0; have k4 := (HM.out _ HC2.out).1 0; clear hc hB))
      | fail
    all_goals
      go_wp2
      go_ret
      exact ⟨rfl, by repeat' (first | with_reducible exact HC2.out | with_reducible apply Chg.alloc | with_reducible apply Chg.drew | with_reducible apply Chg.setCell | (with_reducible refine Or.inr ?_; dsimp only; omega))⟩
  | true =>
    go_enter Tryz.func98, Tryz.ntmps98
    go_wp2_with (go_at_call 57; refine (HA.out).mono ?_; rintro e w1 ⟨rfl, hc⟩; have n0 := (HN.out _ hc).1 0; have m0 := (HM.out _ hc).1 0; have ln := (HN.out _ hc).2; have lm := (HM.out _ hc).2; have HC := Lib.hid hc; clear hc)
    refine wp_region_held_drew (S := fun w' => w'.cell? ⟨w1.heap.size, 0, none⟩ = some (.int .u64 x.b) ∧ w'.cell? ⟨w1.heap.size, 2, none⟩ = some (.slice x.a x.m x.c) ∧ w'.cell? ⟨bn, 0, none⟩ = some (.int .u64 now) ∧ w'.cell? ⟨ba, 0, none⟩ = some (.int .u64 am)) (by kernel_rfl) (by go_keep) (fun hHeld => ?_)
    simp only [List.setIfInBounds_toArray, List.size_toArray, List.length_cons, List.length_nil, Array.replicate]
    refine wpAnyH_take (i := 0) (v := .pointer (some ⟨w1.heap.size, 2, none⟩)) rfl (by kernel_rfl) (by kernel_rfl) (by kernel_rfl) (fun _ _ _ h => h) (Or.inl ⟨by rfl, fun w' hS => ?_⟩) hHeld ?_
    · obtain ⟨s0, s1, s2, s3⟩ := hS
      go_simp
    simp only [Act.put, List.getElem_toArray, List.getElem_cons_succ, List.getElem_cons_zero, List.setIfInBounds_toArray, List.set_cons_zero, List.set_cons_succ]
    refine wpAnyH_take (i := 1) (v := .slice x.a x.m x.c) rfl (by kernel_rfl) (by kernel_rfl) (by kernel_rfl) (fun _ _ _ h => h) (Or.inl ⟨by rfl, fun w' hS => ?_⟩) hHeld ?_
    · obtain ⟨s0, s1, s2, s3⟩ := hS
      go_simp
    simp only [Act.put, List.getElem_toArray, List.getElem_cons_succ, List.getElem_cons_zero, List.setIfInBounds_toArray, List.set_cons_zero, List.set_cons_succ]
    refine wpAnyH_take (i := 2) (v := .int .u64 now) rfl (by kernel_rfl) (by kernel_rfl) (by kernel_rfl) (fun _ _ _ h => h) (Or.inl ⟨by rfl, fun w' hS => ?_⟩) hHeld ?_
    · obtain ⟨s0, s1, s2, s3⟩ := hS
      go_simp
    simp only [Act.put, List.getElem_toArray, List.getElem_cons_succ, List.getElem_cons_zero, List.setIfInBounds_toArray, List.set_cons_zero, List.set_cons_succ]
    refine wpAnyH_take (i := 4) (v := .int .u64 am) rfl (by kernel_rfl) (by kernel_rfl) (by kernel_rfl) (fun _ _ _ h => h) (Or.inl ⟨by rfl, fun w' hS => ?_⟩) hHeld ?_
    · obtain ⟨s0, s1, s2, s3⟩ := hS
      go_simp
    simp only [Act.put, List.getElem_toArray, List.getElem_cons_succ, List.getElem_cons_zero, List.setIfInBounds_toArray, List.set_cons_zero, List.set_cons_succ]
    refine wpAnyH_ready (rs := [3]) (by kernel_rfl) (by simp) ?_
    refine AllReadyH.cons rfl (fun K hK => ?_) AllReadyH.nil
    go_simp
    refine (HT.out _ ((HC.out.alloc _).drew)).mono ?_
    rintro e w2 ⟨rfl, hc⟩
    have hB := (Blk.new w1 43 #[.int .u64 x.b, .int .u64 x.p, .slice x.a x.m x.c, .int .i64 x.n]).drew.chg hc (by simp)
    have k0 := hB.cell 0
    have k2 := hB.cell 2
    have HC2 := Lib.hid ((HC.out.alloc _).drew.then hc)
    have k3 := (HN.out _ HC2.out).1 0
    have k4 := (HM.out _ HC2.out).1 0
    clear hc hB
    refine hK.out _ _ ⟨k0, k2, k3, k4⟩ (fun hHeld => ?_)
    clear hK K
    simp only [Act.put, List.getElem_toArray, List.getElem_cons_succ, List.getElem_cons_zero, List.setIfInBounds_toArray, List.set_cons_zero, List.set_cons_succ]
    refine wpAnyH_take (i := 5) (v := .bool true) rfl (by kernel_rfl) (by kernel_rfl) (by kernel_rfl) (fun _ _ _ h => h) (Or.inl ⟨by rfl, fun w' hS => ?_⟩) hHeld ?_
    · obtain ⟨s0, s1, s2, s3⟩ := hS
      go_simp
    simp only [Act.put, List.getElem_toArray, List.getElem_cons_succ, List.getElem_cons_zero, List.setIfInBounds_toArray, List.set_cons_zero, List.set_cons_succ]
    refine wpAnyH_take (i := 6) (v := .bool true) rfl (by kernel_rfl) (by kernel_rfl) (by kernel_rfl) (fun _ _ _ h => h) (Or.inl ⟨by rfl, fun w' hS => ?_⟩) hHeld ?_
    · obtain ⟨s0, s1, s2, s3⟩ := hS
      go_simp
    simp only [Act.put, List.getElem_toArray, List.getElem_cons_succ, List.getElem_cons_zero, List.setIfInBounds_toArray, List.set_cons_zero, List.set_cons_succ]
    refine wpAnyH_take (i := 7) (v := undef) rfl (by kernel_rfl) (by kernel_rfl) (by kernel_rfl) (fun _ _ _ h => h) (Or.inr ⟨by kernel_rfl, rfl⟩) hHeld ?_
    simp only [Act.put, List.getElem_toArray, List.getElem_cons_succ, List.getElem_cons_zero, List.setIfInBounds_toArray, List.set_cons_zero, List.set_cons_succ]
    refine wpAnyH_take (i := 8) (v := undef) rfl (by kernel_rfl) (by kernel_rfl) (by kernel_rfl) (fun _ _ _ h => h) (Or.inr ⟨by kernel_rfl, rfl⟩) hHeld ?_
    simp only [Act.put, List.getElem_toArray, List.getElem_cons_succ, List.getElem_cons_zero, List.setIfInBounds_toArray, List.set_cons_zero, List.set_cons_succ]
    refine wpAnyH_take (i := 9) (v := undef) rfl (by kernel_rfl) (by kernel_rfl) (by kernel_rfl) (fun _ _ _ h => h) (Or.inr ⟨by kernel_rfl, rfl⟩) hHeld ?_
    simp only [Act.put, List.getElem_toArray, List.getElem_cons_succ, List.getElem_cons_zero, List.setIfInBounds_toArray, List.set_cons_zero, List.set_cons_succ]
    refine wpAnyH_take (i := 10) (v := undef) rfl (by kernel_rfl) (by kernel_rfl) (by kernel_rfl) (fun _ _ _ h => h) (Or.inr ⟨by kernel_rfl, rfl⟩) hHeld ?_
    simp only [Act.put, List.getElem_toArray, List.getElem_cons_succ, List.getElem_cons_zero, List.setIfInBounds_toArray, List.set_cons_zero, List.set_cons_succ]
    refine wpAnyH_take (i := 11) (v := .bool true) rfl (by kernel_rfl) (by kernel_rfl) (by kernel_rfl) (fun _ _ _ h => h) (Or.inl ⟨by rfl, fun w' hS => ?_⟩) hHeld ?_
    · obtain ⟨s0, s1, s2, s3⟩ := hS
      go_simp
    simp only [Act.put, List.getElem_toArray, List.getElem_cons_succ, List.getElem_cons_zero, List.setIfInBounds_toArray, List.set_cons_zero, List.set_cons_succ]
    refine wpAnyH_take (i := 12) (v := .bool true) rfl (by kernel_rfl) (by kernel_rfl) (by kernel_rfl) (fun _ _ _ h => h) (Or.inl ⟨by rfl, fun w' hS => ?_⟩) hHeld ?_
    · obtain ⟨s0, s1, s2, s3⟩ := hS
      go_simp
    simp only [Act.put, List.getElem_toArray, List.getElem_cons_succ, List.getElem_cons_zero, List.setIfInBounds_toArray, List.set_cons_zero, List.set_cons_succ]
    refine wpAnyH_done (by kernel_rfl) ?_ _
    go_wp2
    go_ret
    exact ⟨rfl, HC2.out⟩

/-- What the given closures ask of their boxes. -/
theorem split_step {w : World} {ba bn : Nat} {am now : Int} (hba : Blk w ba 32 #[.int .u64 am]) (hbn : Blk w bn 32 #[.int .u64 now]) :
    Calls Tryz.prog 64 #[ptr ba, ptr bn] w fun e w' => e = .returned (.bool (am == 0 || decide (1152921504606846976 < now))) ∧ Chg [] w w' := by
  have p0 := hba.cell 0
  have p1 := hbn.cell 0
  clear hba hbn
  cases hd : (am == 0)
  all_goals
    go_enter Tryz.func64, Tryz.ntmps64
    go_wp2
    go_ret
    exact ⟨rfl, Chg.refl _ _⟩
theorem eq_ref (a b c d : Int) (W : World) : (binOp .eql 34 (.agg #[.int .i64 a, .int .u64 b]) (.agg #[.int .i64 c, .int .u64 d])).run Tryz.prog W = .ok (.bool (a == c && b == d)) W := by
  have h1 : Tryz.prog.underlying 34 = some (.struct (Tryz.prog.fieldsOf 34)) := by kernel_rfl
  have h2 : Tryz.prog.stoodInHeld 34 = false := by kernel_rfl
  rw [run_eql_struct, run_equalIn_agg (ht := h1) (hp := h2)]
  simp [go_sem, Tryz.underlying34, Op.eqFields, Tryz.underlying32, Tryz.underlying3]
  by_cases e1 : a = c <;> by_cases e2 : b = d <;> simp [e1, e2]
theorem donate1_step {w : World} {ba bn bf bt : Nat} {am now fi fq ti tq : Int} (hba : Blk w ba 32 #[.int .u64 am]) (hbn : Blk w bn 32 #[.int .u64 now]) (hbf : Blk w bf 34 #[.int .i64 fi, .int .u64 fq]) (hbt : Blk w bt 34 #[.int .i64 ti, .int .u64 tq]) :
    Calls Tryz.prog 70 #[ptr ba, ptr bn, ptr bf, ptr bt] w fun e w' => e = .returned (.bool (am == 0 || decide (1152921504606846976 < now) || (fi == ti && fq == tq))) ∧ Chg [] w w' := by
  have p0 := hba.cell 0
  have p1 := hbn.cell 0
  have p2 := hbf.cell 0
  have p3 := hbf.cell 1
  have p4 := hbt.cell 0
  have p5 := hbt.cell 1
  have hE := eq_ref fi fq ti tq
  clear hba hbn hbf hbt
  cases hd : (am == 0)
  · cases he : decide (1152921504606846976 < now)
    · go_enter Tryz.func70, Tryz.ntmps70
      go_wp2
      go_ret
      exact ⟨by simp, Chg.refl _ _⟩
    · go_enter Tryz.func70, Tryz.ntmps70
      go_wp2
      go_ret
      exact ⟨rfl, Chg.refl _ _⟩
  · go_enter Tryz.func70, Tryz.ntmps70
    go_wp2
    go_ret
    exact ⟨rfl, Chg.refl _ _⟩
set_option maxRecDepth 100000 in
theorem bound_step56 {w : World} {c bc br : Nat} {S : List Nat} {t : Tab Cx} {most : Int} (h : CtxAt w c S t most) {i q : Int} (i0 : -9223372036854775808 ≤ i) (i1 : i ≤ 9223372036854775807)
    (hb : Blk w bc 24 #[ptr c]) (hr : Blk w br 34 #[.int .i64 i, .int .u64 q]) :
    Calls Tryz.prog 56 #[ptr bc, ptr br] w fun e w' => e = .returned (.bool (decide (0 < (t.at_ i q).n))) ∧ Chg [] w w' := by
  have hA := at_agg h i q i0 i1
  have p0 := hb.cell 0
  have p1 := hr.cell 0
  have p2 := hr.cell 1
  obtain ⟨x, hx⟩ : ∃ x, x = t.at_ i q := ⟨_, rfl⟩
  rw [← hx] at hA ⊢
  clear hb hr hx
  have hfl := fldN x.b x.p x.n x.a x.m x.c
  go_enter Tryz.func56, Tryz.ntmps56
  go_wp2_with (go_at_call 57; refine hA.mono ?_; rintro e w1 ⟨rfl, hc⟩)
  go_ret
  exact ⟨rfl, hc⟩
set_option maxRecDepth 100000 in
theorem bound_step69 {w : World} {c bc br : Nat} {S : List Nat} {t : Tab Cx} {most : Int} (h : CtxAt w c S t most) {i q : Int} (i0 : -9223372036854775808 ≤ i) (i1 : i ≤ 9223372036854775807)
    (hb : Blk w bc 24 #[ptr c]) (hr : Blk w br 34 #[.int .i64 i, .int .u64 q]) :
    Calls Tryz.prog 69 #[ptr bc, ptr br] w fun e w' => e = .returned (.bool ((t.at_ i q).n == 0)) ∧ Chg [] w w' := by
  have hA := at_agg h i q i0 i1
  have p0 := hb.cell 0
  have p1 := hr.cell 0
  have p2 := hr.cell 1
  obtain ⟨x, hx⟩ : ∃ x, x = t.at_ i q := ⟨_, rfl⟩
  rw [← hx] at hA ⊢
  clear hb hr hx
  have hfl := fldN x.b x.p x.n x.a x.m x.c
  go_enter Tryz.func69, Tryz.ntmps69
  go_wp2_with (go_at_call 57; refine hA.mono ?_; rintro e w1 ⟨rfl, hc⟩)
  go_ret
  exact ⟨rfl, hc⟩
theorem upTo_any (w : World) (n m : Int) : Calls Tryz.prog 51 #[.int .u64 n, .int .u64 m] w fun e w' => e = .returned (.bool (decide (1 ≤ n) && decide (n ≤ m))) ∧ w = w' := by
  cases hd : decide (1 ≤ n)
  all_goals
    go_enter Tryz.func51, Tryz.ntmps51
    go_wp2
    go_ret
    exact ⟨rfl, rfl⟩
def badMake (b p now : Int) : Bool := !(decide (1 ≤ b) && decide (b ≤ 4294967296)) || !(decide (1 ≤ p) && decide (p ≤ 4294967296)) || decide (1152921504606846976 < now)
theorem make_step {w : World} {bb bp bn : Nat} {b p now : Int} (hb : Blk w bb 32 #[.int .u64 b]) (hp : Blk w bp 32 #[.int .u64 p]) (hn : Blk w bn 32 #[.int .u64 now]) :
    Calls Tryz.prog 50 #[ptr bb, ptr bp, ptr bn] w fun e w' => e = .returned (.bool (badMake b p now)) ∧ Chg [] w w' := by
  have p0 := hb.cell 0
  have p1 := hp.cell 0
  have p2 := hn.cell 0
  clear hb hp hn
  have h1 := fun W => upTo_any W b 4294967296
  have h2 := fun W => upTo_any W p 4294967296
  unfold badMake
  cases hd : (decide (1 ≤ b) && decide (b ≤ 4294967296))
  · rw [hd] at h1
    go_enter Tryz.func50, Tryz.ntmps50
    go_wp2_with (go_at_call 51; refine (h1 _).mono ?_; rintro e w1 ⟨rfl, rfl⟩)
    go_ret
    exact ⟨rfl, Chg.refl _ _⟩
  · rw [hd] at h1
    cases he : (decide (1 ≤ p) && decide (p ≤ 4294967296))
    all_goals
      rw [he] at h2
      go_enter Tryz.func50, Tryz.ntmps50
      go_wp2_with (first
        | (go_at_call 51; (with_reducible refine (h1 _).mono ?_); rintro e w1 ⟨rfl, rfl⟩)
        | (go_at_call 51; (with_reducible refine (h2 _).mono ?_); rintro e w1 ⟨rfl, rfl⟩))
      go_ret
      exact ⟨rfl, Chg.refl _ _⟩
set_option maxHeartbeats 1600000 in
set_option maxRecDepth 100000 in
theorem over_step {w : World} {c ba bc bt : Nat} {S : List Nat} {t : Tab Cx} {most : Int} (h : CtxAt w c S t most) {i q am : Int} (i0 : -9223372036854775808 ≤ i) (i1 : i ≤ 9223372036854775807)
    (hx0 : 0 ≤ (t.at_ i q).b) (hx1 : (t.at_ i q).b ≤ 4294967296) (ha : Blk w ba 32 #[.int .u64 am]) (hb : Blk w bc 24 #[ptr c]) (hr : Blk w bt 34 #[.int .i64 i, .int .u64 q]) :
    Calls Tryz.prog 71 #[ptr ba, ptr bc, ptr bt] w fun e w' => e = .returned (.bool (decide (4294967296 - (t.at_ i q).b < am))) ∧ Chg [] w w' := by
  have HA := Lib.hid (fun W (hW : Chg [] w W) => at_agg (h.quiet hW) i q i0 i1)
  have q0 := ha.cell 0
  have p0 := hb.cell 0
  have p1 := hr.cell 0
  have p2 := hr.cell 1
  have HM := Lib.hid ha.tell
  have HB := Lib.hid hb.tell
  have HR := Lib.hid hr.tell
  obtain ⟨x, hx⟩ : ∃ x, x = t.at_ i q := ⟨_, rfl⟩
  rw [← hx] at HA hx0 hx1 ⊢
  have e1 : IntKind.u64.wrap (4294967296 - x.b) = 4294967296 - x.b := by rw [IntKind.wrap_u64]; omega
  clear ha hb hr hx h
  have hfl := fldB x.b x.p x.n x.a x.m x.c
  go_enter Tryz.func71, Tryz.ntmps71
  go_wp2
  go_region_held3 (fun w' => w'.cell? ⟨ba, 0, none⟩ = some (.int .u64 am) ∧ w'.cell? ⟨bc, 0, none⟩ = some (ptr c) ∧ w'.cell? ⟨bt, 0, none⟩ = some (.int .i64 i) ∧ w'.cell? ⟨bt, 1, none⟩ = some (.int .u64 q))
    (first | go_keep)
    (first
      | (go_at_call 57; refine (HA.out _ ((Chg.refl _ _).drew)).mono ?_; rintro e w2 ⟨rfl, hc⟩; have HC := Lib.hid (((Chg.refl [] w).drew).then hc); have k0 := (HB.out _ HC.out).1 0; have k1 := (HR.out _ HC.out).1 0; have k2 := (HR.out _ HC.out).1 1; have k3 := (HM.out _ HC.out).1 0; clear hc))
  all_goals
    go_wp2
    go_ret
    exact ⟨rfl, HC.out⟩
theorem CtxAt.blk {w : World} {c : Nat} {S : List Nat} {t : Tab Cx} {most : Int} (h : CtxAt w c S t most) : ∃ g, Blk w c 66 #[.pointer (some ⟨g, 0, none⟩), .int .i64 most] := by obtain ⟨g, h1, h2, h3, h4⟩ := h; exact ⟨g, h1⟩
set_option maxHeartbeats 1600000 in
set_option maxRecDepth 100000 in
theorem crowded_step {w : World} {c bc br bn ba : Nat} {S : List Nat} {t : Tab Cx} {most : Int} (h : CtxAt w c S t most) {i q : Int} (i0 : -9223372036854775808 ≤ i) (i1 : i ≤ 9223372036854775807)
    (hk : Ok (t.at_ i q).l) (hn : (t.at_ i q).l.length ≤ 100000)
    (hb : Blk w bc 24 #[ptr c]) (hr : Blk w br 34 #[.int .i64 i, .int .u64 q]) {now am : Int} (hm : U64 am) (hbn : Blk w bn 32 #[.int .u64 now]) (hba : Blk w ba 32 #[.int .u64 am]) :
    Calls Tryz.prog 103 #[ptr bc, ptr br, ptr bn, ptr ba] w fun e w' => e = .returned (.bool ((giveP (t.at_ i q).l now am most).2 != 0)) ∧ Chg [] w w' := by
  obtain ⟨g, hC⟩ := h.blk
  have HA := Lib.hid (fun W (hW : Chg [] w W) => at_agg (h.quiet hW) i q i0 i1)
  have HG := Lib.hid (fun W (hW : Chg [] w W) => give_any ((h.quiet hW).good.at_ i q) hk hn (now := now) (most := most) hm)
  obtain ⟨x, hx⟩ : ∃ x, x = t.at_ i q := ⟨_, rfl⟩
  rw [← hx] at HA HG ⊢
  have c1 := hC.cell 1
  have lc := hC.lt
  have p0 := hb.cell 0
  have p1 := hr.cell 0
  have p2 := hr.cell 1
  have n0 := hbn.cell 0
  have m0 := hba.cell 0
  have HK := Lib.hid hC.tell
  have HB := Lib.hid hb.tell
  have HR := Lib.hid hr.tell
  have HN := Lib.hid hbn.tell
  have HM := Lib.hid hba.tell
  obtain ⟨gl, hgl⟩ : ∃ gl, gl = (giveP x.l now am most).1 := ⟨_, rfl⟩
  obtain ⟨ge, hge⟩ : ∃ ge, ge = (giveP x.l now am most).2 := ⟨_, rfl⟩
  rw [← hgl, ← hge] at HG
  rw [← hge]
  clear hx h hk hn hb hr hbn hba hC hgl hge
  have hfl := fldR x.b x.p x.n x.a x.m x.c
  go_enter Tryz.func103, Tryz.ntmps103
  go_wp2
  go_region_held3 (fun w' => w'.cell? ⟨c, 1, none⟩ = some (.int .i64 most) ∧ w'.cell? ⟨bc, 0, none⟩ = some (ptr c) ∧ w'.cell? ⟨br, 0, none⟩ = some (.int .i64 i) ∧ w'.cell? ⟨br, 1, none⟩ = some (.int .u64 q) ∧ w'.cell? ⟨bn, 0, none⟩ = some (.int .u64 now) ∧ w'.cell? ⟨ba, 0, none⟩ = some (.int .u64 am))
    (first | go_keep)
    (first
      | (go_at_call 57; refine (HA.out _ ((Chg.refl _ _).drew)).mono ?_; rintro e w2 ⟨rfl, hc⟩; have HC := Lib.hid (((Chg.refl [] w).drew).then hc); have k0 := (HB.out _ HC.out).1 0; have k1 := (HR.out _ HC.out).1 0; have k2 := (HR.out _ HC.out).1 1; have k3 := (HM.out _ HC.out).1 0; have k4 := (HN.out _ HC.out).1 0; have k5 := (HK.out _ HC.out).1 1; clear hc)
      | (go_at_call 104; refine (HG.out _ HC.out).mono ?_; rintro e w3 ⟨v3, rfl, hmn⟩; have HC3 := Lib.hid (HC.out.then hmn.2.2); obtain ⟨A3, c3, rfl, _⟩ := hmn.1.open_; have j0 := (HB.out _ HC3.out).1 0; have j1 := (HR.out _ HC3.out).1 0; have j2 := (HR.out _ HC3.out).1 1; have j3 := (HM.out _ HC3.out).1 0; have j4 := (HN.out _ HC3.out).1 0; have j5 := (HK.out _ HC3.out).1 1; clear hmn))
  all_goals
    go_wp2
    go_ret
    exact ⟨rfl, HC3.out⟩
end Go.Proofs
end
