import Derived.Test.YtihodeaeacgdpaaReS
namespace Go.Proofs
open Go.RowKit
set_option linter.unusedVariables false

set_option maxHeartbeats 6400000 in
set_option maxRecDepth 100000 in
theorem give_any {w : World} {v : Value} {l : List Rf} (h : Rd w v l) (hk : Ok l) (hn : l.length ≤ 100000) {now m most : Int} (hm : U64 m) :
    Calls Try.prog 25 #[v, .int .u64 now, .int .u64 m, .int .i64 most] w fun e w' => ∃ v', e = .returned (.tuple #[v', .int .i64 (giveP l now m most).2]) ∧ Mine w w' v' (giveP l now m most).1 := by
  have hmy := may_any h hk hn
  have HHO := Lib.hid (fun W (hW : Chg [] w W) => holds_any (h.quiet hW) most)
  have HSU := Lib.hid (fun W (hW : Chg [] w W) => sum_any (h.quiet hW) hk hn)
  have HH := Lib.hid h
  obtain ⟨A, c, rfl, _⟩ := h.open_
  obtain ⟨n, e1⟩ : ∃ n, n = l.length := ⟨_, rfl⟩
  rw [← e1] at hmy HSU HH ⊢
  rw [← e1] at HHO
  cases hmp : mayP l with
  | false =>
    rw [hmp] at hmy
    have HE := Lib.hid (show giveP l now m most = ([], 2) by unfold giveP; rw [if_pos (.inl hmp)])
    clear h hk hn e1 hmp hm
    go_enter Try.func25, Try.ntmps25
    go_wp2_with (first
      | (go_at_call 15; refine hmy.mono ?_; rintro e w1 ⟨rfl, h1⟩; have H1 := Lib.hid h1; clear h1))
    go_ret2
    exact ⟨_, by rw [HE.out]; rfl, by rw [HE.out]; exact Mine.nil H1.out⟩
  | true =>
    rw [hmp] at hmy
    by_cases hm0 : m = 0
    · have HE := Lib.hid (show giveP l now m most = ([], 2) by unfold giveP; rw [if_pos (.inr (.inl hm0))])
      have g0 : (m == 0) = true := by simpa using hm0
      clear h hk hn e1 hmp hm hm0
      go_enter Try.func25, Try.ntmps25
      go_wp2_with (first
        | (go_at_call 15; refine hmy.mono ?_; rintro e w1 ⟨rfl, h1⟩; have H1 := Lib.hid h1; clear h1))
      go_ret2
      exact ⟨_, by rw [HE.out]; rfl, by rw [HE.out]; exact Mine.nil H1.out⟩
    · have g0 : (m == 0) = false := by simpa using hm0
      cases hho : holdsP l most with
      | false =>
        rw [hho] at HHO
        have HE := Lib.hid (show giveP l now m most = ([], 2) by unfold giveP; rw [if_pos (.inr (.inr hho))])
        clear h hk hn e1 hmp hm hm0 hho
        go_enter Try.func25, Try.ntmps25
        go_wp2_with (first
          | (go_at_call 15; refine hmy.mono ?_; rintro e w1 ⟨rfl, h1⟩; have H1 := Lib.hid h1; clear h1)
          | (go_at_call 40; refine (HHO.out _ H1.out).mono ?_; rintro e w2 ⟨rfl, rfl⟩))
        go_ret2
        exact ⟨_, by rw [HE.out]; rfl, by rw [HE.out]; exact Mine.nil H1.out⟩
      | true =>
        rw [hho] at HHO
        have hnot : ¬ (mayP l = false ∨ m = 0 ∨ holdsP l most = false) := by rw [hmp, hho]; simpa using hm0
        obtain ⟨hS, hF⟩ := mayP_iff.1 hmp
        obtain ⟨s1, s2⟩ := sum_all hS
        rw [s1, s2] at HSU
        have hS0 := sumP_nonneg hk
        have hadd := fun W => add_any (sumP l) m hS0 hm.1 hS hm.2 W
        obtain ⟨S, hSS⟩ : ∃ S, S = sumP l := ⟨_, rfl⟩
        rw [← hSS] at hadd HSU hS hS0
        by_cases hov : S + m < 18446744073709551616
        · obtain ⟨f1, f2⟩ := addF_yes hov
          rw [f1, f2] at hadd
          have HDU := Lib.hid (fun W (hW : Chg [] w W) => due_any (HH.out.quiet hW) hk hn now)
          rw [hmp] at HDU
          simp only [if_true] at HDU
          have hdl := due_len (l := l) now
          have HTH := Lib.hid (fun W V (hV : Rd W V (dueL l now)) => there_any hV (hk.due hmp now) (by omega) now)
          rw [there_due hk hmp] at HTH
          by_cases hth : 1 ≤ thereP l now
          · have hE : giveP l now m most = (incP (dueL l now) m, 0) := by unfold giveP; rw [if_neg hnot, ← hSS, if_neg (by omega), if_pos hth]
            obtain ⟨hdf, hd0⟩ := due_form hk hmp hth
            have hap := due_first hmp hd0
            have hds := sumP_due (l := l) now
            have hdo := hk.due hmp now
            obtain ⟨T, hT⟩ : ∃ T, T = thereP l now := ⟨_, rfl⟩
            obtain ⟨t, ht⟩ : ∃ t, t = aheadP l (dueN l now) := ⟨_, rfl⟩
            obtain ⟨r, hr⟩ : ∃ r, r = l.drop (dueN l now) := ⟨_, rfl⟩
            rw [← hT, ← ht, ← hr] at hdf
            rw [hdf] at HDU hE hds hdo hdl
            rw [hdf, ← hT] at HTH
            rw [← ht] at hap
            rw [← hT] at hth
            have hr0 := sumP_nonneg hdo.tail
            simp only [sumP] at hds
            have g5 : IntKind.u64.wrap (T + m) = T + m := by rw [IntKind.wrap_u64]; have := hm.1; omega
            have g6 : decide (T > 0) = true := by simp; omega
            have g6' : decide (0 < T) = true := by simp; omega
            have g7 : decide (t ≤ now) = true := by simpa using hap
            have HE := Lib.hid (show giveP l now m most = ((T + m, t) :: r, 0) from hE)
            clear h hk hn e1 hmp hm hm0 hho hnot hS hF s1 s2 hS0 hSS hov f1 f2 hth hd0 hap hds hdo hT ht hr hdf hr0 hE hdl
            go_enter Try.func25, Try.ntmps25
            go_wp2_with (first
              | (go_at_call 15; refine hmy.mono ?_; rintro e w1 ⟨rfl, h1⟩; have H1 := Lib.hid h1; clear h1)
              | (go_at_call 40; refine (HHO.out _ H1.out).mono ?_; rintro e w2 ⟨rfl, rfl⟩)
              | (go_at_call 29; refine (HSU.out _ H1.out).mono ?_; rintro e w3 ⟨rfl, h1⟩; have H3 := Lib.hid (H1.out.then h1); clear h1)
              | (go_at_call 39; refine (hadd _).mono ?_; rintro e w4 ⟨rfl, h1⟩; have H4 := Lib.hid (H3.out.then h1); clear h1)
              | (go_at_call 19; refine (HDU.out _ H4.out).mono ?_; rintro e w5 ⟨v5, rfl, h1⟩; obtain ⟨g, cap, rfl, _, hcap, lg, y0, y1, hfz⟩ := h1.1.head; have f0 := hfz 0; have hth5 := HTH.out _ _ h1.rd; have H5 := Lib.hid (h1.before H4.out).mine; clear h1 hfz; obtain ⟨N, hN⟩ : ∃ N, N = r.length + 1 := ⟨_, rfl⟩; rw [← hN] at hcap H5 ⊢; rw [← hN] at hth5; have q0 : (0 : Int) < (N : Int) := (by omega); have q1 : decide ((N : Int) > 0) = true := (by simp; omega); have q2 : decide (0 < (N : Int)) = true := (by simp; omega); have q3 : decide (0 < N) = true := (by simp; omega); clear hN hcap)
              | (go_at_call 17; refine hth5.mono ?_; rintro e w6 ⟨rfl, h1⟩; have H6 := Lib.hid (H5.out.later h1); have y0' := (h1.cell (p := ⟨g, 0, none⟩) lg (by simp)).trans y0; have f0' := (h1.frozen (p := ⟨g, 0, none⟩) lg (by simp)).trans f0; clear h1))
            go_ret2
            exact ⟨_, by rw [HE.out]; rfl, by rw [HE.out]; have := H6.out.set1 (k := 0) (x := (T, t)) rfl (T + m); simpa using this⟩
          · obtain ⟨hd1, hd2⟩ := due_none hk hmp hth
            rw [hd1] at HDU
            rw [hd1, hd2] at HTH
            have HL := Lib.hid e1
            have HB9 := Lib.hid (show 1 + n ≤ 1000000 by omega)
            by_cases hfu : (n : Int) = most
            · have g8 : ((n : Int) == most) = true := by simpa using hfu
              have g8' : decide ((n : Int) ≥ most) = true := by simp; omega
              have g8'' : decide (most ≤ (n : Int)) = true := by simp; omega
              have HE := Lib.hid (show giveP l now m most = ([], 3) by unfold giveP; rw [if_neg hnot, ← hSS, if_neg (by omega), if_neg hth, if_pos (by rw [← e1]; exact hfu)])
              clear h hk hn e1 hmp hm hm0 hho hnot hS hF s1 s2 hS0 hSS hov f1 f2 hth hd1 hd2 hdl hfu
              go_enter Try.func25, Try.ntmps25
              go_wp2_with (first
                | (go_at_call 15; refine hmy.mono ?_; rintro e w1 ⟨rfl, h1⟩; have H1 := Lib.hid h1; clear h1)
                | (go_at_call 40; refine (HHO.out _ H1.out).mono ?_; rintro e w2 ⟨rfl, rfl⟩)
                | (go_at_call 29; refine (HSU.out _ H1.out).mono ?_; rintro e w3 ⟨rfl, h1⟩; have H3 := Lib.hid (H1.out.then h1); clear h1)
                | (go_at_call 39; refine (hadd _).mono ?_; rintro e w4 ⟨rfl, h1⟩; have H4 := Lib.hid (H3.out.then h1); clear h1)
                | (go_at_call 19; refine (HDU.out _ H4.out).mono ?_; rintro e w5 ⟨v5, rfl, h1⟩; have hth5 := HTH.out _ _ h1.rd; obtain ⟨A5, c5, rfl, _⟩ := h1.rd.open_; have H5 := Lib.hid (h1.before H4.out); clear h1; rw [← HL.out] at H5 hth5 ⊢)
                | (go_at_call 17; refine hth5.mono ?_; rintro e w6 ⟨rfl, h1⟩; have H6 := Lib.hid (H5.out.later h1); clear h1))
              go_ret2
              exact ⟨_, by rw [HE.out]; rfl, by rw [HE.out]; exact Mine.nil H6.out.2.2⟩
            · have g8 : ((n : Int) == most) = false := by simpa using hfu
              have HE := Lib.hid (show giveP l now m most = ([(m, now)] ++ l, 0) by unfold giveP; rw [if_neg hnot, ← hSS, if_neg (by omega), if_neg hth, if_neg (by rw [← e1]; exact hfu)]; rfl)
              have HNW := Lib.hid (show newP m now = [(m, now)] by unfold newP; rw [if_neg hm0])
              clear h hk hn e1 hmp hm hm0 hho hnot hS hF s1 s2 hS0 hSS hov f1 f2 hth hd1 hd2 hdl hfu
              go_enter Try.func25, Try.ntmps25
              go_wp2_with (first
                | (go_at_call 15; refine hmy.mono ?_; rintro e w1 ⟨rfl, h1⟩; have H1 := Lib.hid h1; clear h1)
                | (go_at_call 40; refine (HHO.out _ H1.out).mono ?_; rintro e w2 ⟨rfl, rfl⟩)
                | (go_at_call 29; refine (HSU.out _ H1.out).mono ?_; rintro e w3 ⟨rfl, h1⟩; have H3 := Lib.hid (H1.out.then h1); clear h1)
                | (go_at_call 39; refine (hadd _).mono ?_; rintro e w4 ⟨rfl, h1⟩; have H4 := Lib.hid (H3.out.then h1); clear h1)
                | (go_at_call 19; refine (HDU.out _ H4.out).mono ?_; rintro e w5 ⟨v5, rfl, h1⟩; have hth5 := HTH.out _ _ h1.rd; obtain ⟨A5, c5, rfl, _⟩ := h1.rd.open_; have H5 := Lib.hid (h1.before H4.out); clear h1; rw [← HL.out] at H5 hth5 ⊢)
                | (go_at_call 17; refine hth5.mono ?_; rintro e w6 ⟨rfl, h1⟩; have H6 := Lib.hid (H5.out.later h1); clear h1)
                | (go_at_call 20; refine (new_any _ _ _).mono ?_; rintro e w7 ⟨v7, rfl, h1⟩; rw [HNW.out] at h1; obtain ⟨g7, cap7, rfl, _, _, _, _, _, _⟩ := h1.1.head; have H6b := Lib.hid (H6.out.later h1.2.2); have H7 := Lib.hid (h1.before H6.out.2.2); clear h1)
                | (at_builtin; refine wpList_append_rs (xs := [(m, now)]) (l := l) (n := 1) (m := n) (N := 1 + n) _ rfl _ _ rfl (by rfl) (by rfl) H7.out.1 (by have := H6b.out.rd; unfold Rd at this; rw [← HL.out] at this; exact this) HB9.out rfl ?_; intro A8 c8 w8 hr8 hg8 hf8; have H8 := Lib.hid (H7.out.append (by simp; have := HL.out; omega) hr8 hg8 hf8); clear hr8 hg8 hf8))
              go_ret2
              exact ⟨_, by rw [HE.out]; rfl, by rw [HE.out]; exact H8.out.mine⟩
        · obtain ⟨f1, f2⟩ := addF_no hov
          rw [f1, f2] at hadd
          have HE := Lib.hid (show giveP l now m most = ([], 6) by unfold giveP; rw [if_neg hnot, ← hSS, if_pos hov])
          clear h hk hn e1 hmp hm hm0 hho hnot hS hF s1 s2 hS0 hSS hov f1 f2
          go_enter Try.func25, Try.ntmps25
          go_wp2_with (first
            | (go_at_call 15; refine hmy.mono ?_; rintro e w1 ⟨rfl, h1⟩; have H1 := Lib.hid h1; clear h1)
            | (go_at_call 40; refine (HHO.out _ H1.out).mono ?_; rintro e w2 ⟨rfl, rfl⟩)
            | (go_at_call 29; refine (HSU.out _ H1.out).mono ?_; rintro e w3 ⟨rfl, h1⟩; have H3 := Lib.hid (H1.out.then h1); clear h1)
            | (go_at_call 39; refine (hadd _).mono ?_; rintro e w4 ⟨rfl, h1⟩; have H4 := Lib.hid (H3.out.then h1); clear h1))
          go_ret2
          exact ⟨_, by rw [HE.out]; rfl, by rw [HE.out]; exact Mine.nil H4.out⟩
end Go.Proofs
