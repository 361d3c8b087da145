import Derived.Test.YtihodeaeacgdpaaReXa
namespace Go.Proofs
open Go.RowKit
set_option linter.unusedVariables false

theorem due_id {x : Rf} {r : List Rf} {now : Int} (hx : x.2 ≤ now) (hr : ∀ y ∈ r, now < y.2) : dueN (x :: r) now = 1 ∧ dueL (x :: r) now = x :: r := by
  have h1 : dueN (x :: r) now = 1 := by
    cases r with
    | nil =>
      exact dueN_none (l := [x]) (fun j y hj hy => by
        have : j = 0 := by simpa using hj
        subst this
        simp at hy
        subst hy
        exact hx)
    | cons y r =>
      refine dueN_first (x := y) (fun j z hj hz => ?_) rfl (hr y (by simp))
      have : j = 0 := by omega
      subst this
      simp at hz
      subst hz
      exact hx
  refine ⟨h1, ?_⟩
  unfold dueL
  rw [h1, if_neg (by omega)]
  simp [sumP, aheadP]
/-- What is given can be pulled. -/
theorem give_pull {l : List Rf} (hk : Ok l) {now m most : Int} (hnow : U64 now) (hm : U64 m) (hE : (giveP l now m most).2 = 0) :
    mayP l = true ∧ Ok (giveP l now m most).1 ∧ mayP (giveP l now m most).1 = true ∧ ((giveP l now m most).1.length : Int) ≤ most ∧ pullP (giveP l now m most).1 now m = (dueL l now, 0) := by
  unfold giveP at hE ⊢
  by_cases h1 : mayP l = false ∨ m = 0 ∨ holdsP l most = false
  · rw [if_pos h1] at hE; simp at hE
  · rw [if_neg h1] at hE ⊢
    by_cases h2 : ¬ sumP l + m < 18446744073709551616
    · rw [if_pos h2] at hE; simp at hE
    · rw [if_neg h2] at hE ⊢
      have hml : mayP l = true := by cases h : mayP l with
        | true => rfl
        | false => exact absurd (.inl h) h1
      have hm0 : m ≠ 0 := fun e => h1 (.inr (.inl e))
      have hho : holdsP l most = true := by cases h : holdsP l most with
        | true => rfl
        | false => exact absurd (.inr (.inr h)) h1
      unfold holdsP at hho
      simp only [Bool.and_eq_true, decide_eq_true_iff] at hho
      have hm1 := hm.1
      have key : ∀ (x : Rf) (r : List Rf), Ok (x :: r) → x.2 ≤ now → (∀ y ∈ r, now < y.2) → r.Pairwise (fun x y => x.2 < y.2) → (∀ y ∈ r, y.1 ≠ 0) → m ≤ x.1 → sumP (x :: r) < 18446744073709551616 → mayP (x :: r) = true ∧ pullP (x :: r) now m = (decP (x :: r) m, 0) := by
        intro x r hok hx hr hp hz hmx hs
        have hmay : mayP (x :: r) = true := mayP_iff.2 ⟨hs, fineP_pw.2 ⟨List.pairwise_cons.2 ⟨fun y hy => by have := hr y hy; omega, hp⟩, fun y hy => by
          rcases List.mem_cons.1 hy with rfl | h
          · omega
          · exact hz y h⟩⟩
        obtain ⟨d1, d2⟩ := due_id hx hr
        refine ⟨hmay, ?_⟩
        have ht : thereP (x :: r) now = x.1 := by
          rw [thereP_fine hok hmay, d1]
          simp [sumP]
        unfold pullP
        rw [hmay, if_neg (by simpa using hm0), ht, if_neg (by omega), d2]
      by_cases h3 : 1 ≤ thereP l now
      · rw [if_pos h3] at hE ⊢
        obtain ⟨t, r, hd, ht1, hrl, hrt, hrp, hrz, hro, hrs, hrn⟩ := due_parts hk hml h3
        simp only [hd, incP]
        have hr0 := sumP_nonneg hro.tail
        have hok : Ok ((thereP l now + m, t) :: r) := Ok.cons ⟨by omega, by omega⟩ hro.head.2 hro.tail
        obtain ⟨q1, q2⟩ := key (thereP l now + m, t) r hok ht1 hrl hrp hrz (by simp only; omega) (by simp only [sumP]; omega)
        refine ⟨hml, hok, q1, by simp; omega, ?_⟩
        rw [q2, decP_cons, if_neg (by omega)]
        congr 3
        omega
      · rw [if_neg h3] at hE ⊢
        by_cases h4 : (l.length : Int) = most
        · rw [if_pos h4] at hE; simp at hE
        · rw [if_neg h4]
          obtain ⟨hd, _⟩ := due_none hk hml h3
          obtain ⟨f1, f2⟩ := mayP_iff.1 hml
          obtain ⟨p1, p2⟩ := fineP_pw.1 f2
          have hall : ∀ y ∈ l, now < y.2 := fun y hy => by
            refine Int.not_le.1 (fun hc => h3 ?_)
            obtain ⟨j, hj, hje⟩ := List.mem_iff_getElem.1 hy
            refine (there_head hk hml now).2 ⟨_, List.getElem?_eq_getElem (by omega : 0 < l.length), ?_⟩
            by_cases e : j = 0
            · subst e; rw [hje]; exact hc
            · have := List.pairwise_iff_getElem.1 p1 0 j (by omega) hj (by omega)
              rw [hje] at this
              omega
          have hok : Ok ((m, now) :: l) := Ok.cons hm hnow hk
          obtain ⟨q1, q2⟩ := key (m, now) l hok (Int.le_refl _) hall p1 p2 (Int.le_refl _) (by simp only [sumP]; omega)
          refine ⟨hml, hok, q1, by simp; omega, ?_⟩
          rw [q2, decP_cons, if_pos rfl, hd]
theorem give_len {l : List Rf} {now m most : Int} : (giveP l now m most).1.length ≤ l.length + 1 := by
  unfold giveP
  split
  · simp
  · split
    · simp
    · split
      · have := due_len (l := l) now
        cases hd : dueL l now with
        | nil => simp [incP]
        | cons x r =>
          obtain ⟨a, t⟩ := x
          rw [hd] at this
          simp only [incP]
          simp at this ⊢
          omega
      · split <;> simp
theorem pull_len {l : List Rf} {now m : Int} : (pullP l now m).1.length ≤ l.length := by
  unfold pullP
  split
  · simp
  · split
    · simp
    · have := due_len (l := l) now
      cases hd : dueL l now with
      | nil => simp [decP]
      | cons x r =>
        obtain ⟨a, t⟩ := x
        rw [hd] at this
        have h2 := dec_len a t r m
        simp at this ⊢
        omega
set_option maxHeartbeats 6400000 in
set_option maxRecDepth 100000 in
theorem gives_any (v : Value) (l : List Rf) (now m most : Int) (w : World) (h : In w v l) (hk : Ok l) (hnow : U64 now) (hm : U64 m) :
    Calls Try.prog 5 #[v, .int .u64 now, .int .u64 m, .int .i64 most] w fun e w' => e = .returned (.bool true) ∧ Chg [] w w' := by
  obtain ⟨A, c, rfl, _⟩ := h.open_
  obtain ⟨N, e1⟩ : ∃ N, N = l.length := ⟨_, rfl⟩
  have HH := Lib.hid h
  rw [← e1] at HH ⊢
  by_cases hN : (N : Int) > 60
  · have g0 : decide ((N : Int) > 60) = true := by simpa using hN
    have g0' : decide ((60 : Int) < (N : Int)) = true := by simpa using hN
    clear h e1 hN
    go_enter Try.func5, Try.ntmps5
    go_wp2_with (go_at_call 9; refine (known_any _).mono ?_; rintro e w1 ⟨rfl, h1⟩; have H1 := Lib.hid h1; clear h1)
    go_ret
    exact ⟨rfl, H1.out⟩
  · have g0 : decide ((N : Int) > 60) = false := by simpa using hN
    have g0' : decide ((60 : Int) < (N : Int)) = false := by simpa using hN
    have hn : l.length ≤ 100000 := by omega
    have HOW := Lib.hid (own_any HH.out hn)
    have HE := Lib.hid e1.symm
    have HHN := Lib.hid hn
    have HGI := Lib.hid (fun W V (hV : Rd W V l) => give_any (now := now) (most := most) hV hk hn hm)
    have HRG := Lib.hid (fun W V (hV : In W V l) => rgive_any (now := now) (most := most) hV hk hn hm)
    have HPU := Lib.hid (fun W V (hV : Rd W V l) => pull_any hV hk hn now m hm)
    have HRP := Lib.hid (fun W V (hV : In W V l) => rpull_any hV hk hn now m hm)
    have hgl := give_len (l := l) (now := now) (m := m) (most := most)
    have hpl := pull_len (l := l) (now := now) (m := m)
    have hgp := give_pull (most := most) hk hnow hm
    obtain ⟨G, hG⟩ : ∃ G, G = (giveP l now m most).1 := ⟨_, rfl⟩
    obtain ⟨E, hE⟩ : ∃ E, E = (giveP l now m most).2 := ⟨_, rfl⟩
    obtain ⟨P, hP⟩ : ∃ P, P = (pullP l now m).1 := ⟨_, rfl⟩
    obtain ⟨F, hF⟩ : ∃ F, F = (pullP l now m).2 := ⟨_, rfl⟩
    rw [← hG, ← hE] at HGI HRG
    rw [← hP, ← hF] at HPU HRP
    rw [← hG] at hgl
    rw [← hP] at hpl
    rw [← hG, ← hE] at hgp
    obtain ⟨ng, hng⟩ : ∃ n, n = G.length := ⟨_, rfl⟩
    obtain ⟨np, hnp⟩ : ∃ n, n = P.length := ⟨_, rfl⟩
    have HNG := Lib.hid hng.symm
    have HNP := Lib.hid hnp.symm
    have HGL := Lib.hid (show G.length ≤ 100000 by omega)
    have HPL := Lib.hid (show P.length ≤ 100000 by omega)
    have k1 : (E != E) = false := by simp
    have k2 : (F != F) = false := by simp
    by_cases hE0 : E = 0
    · obtain ⟨p1, p2, p3, p4, p5⟩ := hgp hE0
      have k3 : (E == 0) = true := by simpa using hE0
      have HP2 := Lib.hid (fun W V (hV : Rd W V G) => pull_any hV p2 (by omega) now m hm)
      rw [p5] at HP2
      have HDU := Lib.hid (fun W V (hV : In W V l) => rdue_any hV hk p1 hn now)
      have HMY := Lib.hid (fun W V (hV : In W V G) => rmay_any hV p2 HGL.out)
      rw [p3] at HMY
      have hdl := due_len (l := l) now
      obtain ⟨D, hD⟩ : ∃ D, D = dueL l now := ⟨_, rfl⟩
      rw [← hD] at HP2 HDU hdl
      obtain ⟨nd, hnd⟩ : ∃ n, n = D.length := ⟨_, rfl⟩
      have HND := Lib.hid hnd.symm
      have HDL := Lib.hid (show D.length ≤ 100000 by omega)
      have k4 : decide ((ng : Int) > most) = false := by rw [hng]; simpa using p4
      have k4' : decide (most < (ng : Int)) = false := by rw [hng]; simpa using p4
      clear h hk hn e1 hN hgl hpl hgp hG hE hP hF hng hnp hE0 p1 p2 p3 p4 p5 hdl hD hnd
      go_enter Try.func5, Try.ntmps5
      go_wp2_with (first
        | (go_at_call 10; refine HOW.out.mono ?_; rintro e w1 ⟨v1, rfl, h1⟩; obtain ⟨A1, c1, rfl⟩ := h1.rd.val HE.out; have H1 := Lib.hid h1; have C1 := Lib.hid h1.2.2; clear h1)
        | (go_at_call 25; refine (HGI.out _ _ H1.out.rd).mono ?_; rintro e w2 ⟨v2, rfl, h1⟩; obtain ⟨A2, c2, rfl⟩ := h1.rd.val HNG.out; have H2 := Lib.hid h1; have C2 := Lib.hid (C1.out.then h1.now); have M2 := Lib.hid (H1.out.rd.quiet h1.now); clear h1)
        | (go_at_call 26; refine (HRG.out _ _ (HH.out.quiet C2.out)).mono ?_; rintro e w3 ⟨v3, rfl, h1⟩; obtain ⟨A3, c3, rfl⟩ := h1.rd.val HNG.out; have H3 := Lib.hid h1; have C3 := Lib.hid (C2.out.then h1.now); have M3 := Lib.hid (M2.out.quiet h1.now); have A3x := Lib.hid (H2.out.rd.quiet h1.now); clear h1)
        | (go_at_call 27; have q := HPU.out _ _ M3.out; (with_reducible refine q.mono ?_); rintro e w4 ⟨v4, rfl, h1⟩; obtain ⟨A4, c4, rfl⟩ := h1.rd.val HNP.out; have H4 := Lib.hid h1; have C4 := Lib.hid (C3.out.then h1.now); have M4 := Lib.hid (M3.out.quiet h1.now); have A4x := Lib.hid (A3x.out.quiet h1.now); have B4x := Lib.hid (H3.out.rd.quiet h1.now); clear h1 q)
        | (go_at_call 28; refine (HRP.out _ _ (HH.out.quiet C4.out)).mono ?_; rintro e w5 ⟨v5, rfl, h1⟩; obtain ⟨A5, c5, rfl⟩ := h1.rd.val HNP.out; have H5 := Lib.hid h1.rd; have C5 := Lib.hid (C4.out.then h1.now); have M5 := Lib.hid (M4.out.quiet h1.now); have A5x := Lib.hid (A4x.out.quiet h1.now); have B5x := Lib.hid (B4x.out.quiet h1.now); have P5x := Lib.hid (H4.out.rd.quiet h1.now); clear h1)
        | (go_at_call 21; have q := same_yes A5x.out.inn B5x.out.inn HGL.out; (with_reducible refine q.mono ?_); rintro e w6 ⟨rfl, h1⟩; have C6 := Lib.hid (C5.out.then h1); have M6 := Lib.hid (M5.out.quiet h1); have A6x := Lib.hid (A5x.out.quiet h1); have P6x := Lib.hid (P5x.out.quiet h1); have Q6x := Lib.hid (H5.out.quiet h1); clear h1 q)
        | (go_at_call 21; have q := same_yes P6x.out.inn Q6x.out.inn HPL.out; (with_reducible refine q.mono ?_); rintro e w7 ⟨rfl, h1⟩; have C7 := Lib.hid (C6.out.then h1); have M7 := Lib.hid (M6.out.quiet h1); have A7x := Lib.hid (A6x.out.quiet h1); clear h1 q)
        | (go_at_call 21; have q := same_yes M7.out.inn (HH.out.quiet C7.out) HHN.out; (with_reducible refine q.mono ?_); rintro e w8 ⟨rfl, h1⟩; have C8 := Lib.hid (C7.out.then h1); have A8x := Lib.hid (A7x.out.quiet h1); clear h1 q)
        | (go_at_call 27; have q := HP2.out _ _ A8x.out; (with_reducible refine q.mono ?_); rintro e w9 ⟨v9, rfl, h1⟩; obtain ⟨A9, c9, rfl⟩ := h1.rd.val HND.out; have H9 := Lib.hid h1.rd; have C9 := Lib.hid (C8.out.then h1.now); have A9x := Lib.hid (A8x.out.quiet h1.now); clear h1 q)
        | (go_at_call 22; refine (HDU.out _ _ (HH.out.quiet C9.out)).mono ?_; rintro e w10 ⟨v10, rfl, h1⟩; obtain ⟨A10, c10, rfl⟩ := h1.rd.val HND.out; have H10 := Lib.hid h1.rd; have C10 := Lib.hid (C9.out.then h1.2.2); have A10x := Lib.hid (A9x.out.quiet h1.2.2); have B10x := Lib.hid (H9.out.quiet h1.2.2); clear h1)
        | (go_at_call 21; have q := same_yes B10x.out.inn H10.out.inn HDL.out; (with_reducible refine q.mono ?_); rintro e w11 ⟨rfl, h1⟩; have C11 := Lib.hid (C10.out.then h1); have A11x := Lib.hid (A10x.out.quiet h1); clear h1 q)
        | (go_at_call 16; refine (HMY.out _ _ A11x.out.inn).mono ?_; rintro e w12 ⟨rfl, h1⟩; have C12 := Lib.hid (C11.out.then h1); clear h1)
        | (go_at_call 9; refine (known_any _).mono ?_; rintro e w13 ⟨rfl, h1⟩; have C13 := Lib.hid (C12.out.then h1); clear h1))
      go_ret
      exact ⟨rfl, C13.out⟩
    · have k3 : (E == 0) = false := by simpa using hE0
      clear h hk hn e1 hN hgl hpl hgp hG hE hP hF hng hnp hE0
      go_enter Try.func5, Try.ntmps5
      go_wp2_with (first
        | (go_at_call 10; refine HOW.out.mono ?_; rintro e w1 ⟨v1, rfl, h1⟩; obtain ⟨A1, c1, rfl⟩ := h1.rd.val HE.out; have H1 := Lib.hid h1; have C1 := Lib.hid h1.2.2; clear h1)
        | (go_at_call 25; refine (HGI.out _ _ H1.out.rd).mono ?_; rintro e w2 ⟨v2, rfl, h1⟩; obtain ⟨A2, c2, rfl⟩ := h1.rd.val HNG.out; have H2 := Lib.hid h1; have C2 := Lib.hid (C1.out.then h1.now); have M2 := Lib.hid (H1.out.rd.quiet h1.now); clear h1)
        | (go_at_call 26; refine (HRG.out _ _ (HH.out.quiet C2.out)).mono ?_; rintro e w3 ⟨v3, rfl, h1⟩; obtain ⟨A3, c3, rfl⟩ := h1.rd.val HNG.out; have H3 := Lib.hid h1; have C3 := Lib.hid (C2.out.then h1.now); have M3 := Lib.hid (M2.out.quiet h1.now); have A3x := Lib.hid (H2.out.rd.quiet h1.now); clear h1)
        | (go_at_call 27; have q := HPU.out _ _ M3.out; (with_reducible refine q.mono ?_); rintro e w4 ⟨v4, rfl, h1⟩; obtain ⟨A4, c4, rfl⟩ := h1.rd.val HNP.out; have H4 := Lib.hid h1; have C4 := Lib.hid (C3.out.then h1.now); have M4 := Lib.hid (M3.out.quiet h1.now); have A4x := Lib.hid (A3x.out.quiet h1.now); have B4x := Lib.hid (H3.out.rd.quiet h1.now); clear h1 q)
        | (go_at_call 28; refine (HRP.out _ _ (HH.out.quiet C4.out)).mono ?_; rintro e w5 ⟨v5, rfl, h1⟩; obtain ⟨A5, c5, rfl⟩ := h1.rd.val HNP.out; have H5 := Lib.hid h1.rd; have C5 := Lib.hid (C4.out.then h1.now); have M5 := Lib.hid (M4.out.quiet h1.now); have A5x := Lib.hid (A4x.out.quiet h1.now); have B5x := Lib.hid (B4x.out.quiet h1.now); have P5x := Lib.hid (H4.out.rd.quiet h1.now); clear h1)
        | (go_at_call 21; have q := same_yes A5x.out.inn B5x.out.inn HGL.out; (with_reducible refine q.mono ?_); rintro e w6 ⟨rfl, h1⟩; have C6 := Lib.hid (C5.out.then h1); have M6 := Lib.hid (M5.out.quiet h1); have P6x := Lib.hid (P5x.out.quiet h1); have Q6x := Lib.hid (H5.out.quiet h1); clear h1 q)
        | (go_at_call 21; have q := same_yes P6x.out.inn Q6x.out.inn HPL.out; (with_reducible refine q.mono ?_); rintro e w7 ⟨rfl, h1⟩; have C7 := Lib.hid (C6.out.then h1); have M7 := Lib.hid (M6.out.quiet h1); clear h1 q)
        | (go_at_call 21; have q := same_yes M7.out.inn (HH.out.quiet C7.out) HHN.out; (with_reducible refine q.mono ?_); rintro e w8 ⟨rfl, h1⟩; have C8 := Lib.hid (C7.out.then h1); clear h1 q)
        | (go_at_call 9; refine (known_any _).mono ?_; rintro e w13 ⟨rfl, h1⟩; have C13 := Lib.hid (C8.out.then h1); clear h1))
      go_ret
      exact ⟨rfl, C13.out⟩
end Go.Proofs
