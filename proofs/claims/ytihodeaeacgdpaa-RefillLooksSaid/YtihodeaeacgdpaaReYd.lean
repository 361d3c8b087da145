import Derived.Test.YtihodeaeacgdpaaReYa
import Derived.Test.YtihodeaeacgdpaaReXc
namespace Go.Proofs
open Go.RowKit
set_option linter.unusedVariables false

set_option maxHeartbeats 6400000 in
set_option maxRecDepth 100000 in
theorem looks_law (hS : Sorts 60) (v : Value) (l : List Rf) (now B : Int) (w : World) (h : In w v l) (hk : Ok l) (hnow : U64 now) (hB : U64 B) :
    Calls Try.prog 3 #[v, .int .u64 now, .int .u64 B] w fun e w' => e = .returned (.bool true) ∧ Chg [] w w' := by
  obtain ⟨A, c, rfl, _⟩ := h.open_
  obtain ⟨N, e1⟩ : ∃ N, N = l.length := ⟨_, rfl⟩
  have HH := Lib.hid h
  rw [← e1] at HH ⊢
  by_cases hN : (N : Int) > 60
  · have g0 : decide ((N : Int) > 60) = true := by simpa using hN
    have g0' : decide ((60 : Int) < (N : Int)) = true := by simpa using hN
    clear h e1 hN
    go_enter Try.func3, Try.ntmps3
    go_wp2_with (go_at_call 9; refine (known_any _).mono ?_; rintro e w1 ⟨rfl, h1⟩; have H1 := Lib.hid h1; clear h1)
    go_ret
    exact ⟨rfl, H1.out⟩
  · have g0 : decide ((N : Int) > 60) = false := by simpa using hN
    have g0' : decide ((60 : Int) < (N : Int)) = false := by simpa using hN
    have hn : l.length ≤ 100000 := by omega
    have HOW := Lib.hid (own_any HH.out hn)
    have HE := Lib.hid e1.symm
    have HHN := Lib.hid hn
    have HSU := Lib.hid (fun W V (hV : Rd W V l) => Sum_any hV hk hn)
    have HRS := Lib.hid (fun W V (hV : In W V l) => rsum_any hV hk hn)
    have HNX := Lib.hid (fun W V (hV : Rd W V l) => next_any hS hV (by omega) hn now)
    have HRN := Lib.hid (fun W V (hV : In W V l) => rnext_any hV hn now)
    have HMA := Lib.hid (fun W V (hV : Rd W V l) => may_any hV hk hn)
    have HRM := Lib.hid (fun W V (hV : In W V l) => rmay_any hV hk hn)
    have HTH := Lib.hid (fun W V (hV : Rd W V l) => there_any hV hk hn now)
    have HRT := Lib.hid (fun W V (hV : In W V l) => rthere_any hV hk hn now)
    have HDU := Lib.hid (fun W V (hV : Rd W V l) => due_any hV hk hn now)
    have HRD := Lib.hid (fun (hm : mayP l = true) W V (hV : In W V l) => rdue_any hV hk hm hn now)
    obtain ⟨S1, hS1⟩ : ∃ x, x = sumN l := ⟨_, rfl⟩
    obtain ⟨S2, hS2⟩ : ∃ x, x = sumF l := ⟨_, rfl⟩
    obtain ⟨P1, hP1⟩ : ∃ x, x = (nextP l now).1 := ⟨_, rfl⟩
    obtain ⟨P2, hP2⟩ : ∃ x, x = (nextP l now).2 := ⟨_, rfl⟩
    obtain ⟨T, hT⟩ : ∃ x, x = thereP l now := ⟨_, rfl⟩
    rw [← hS1, ← hS2] at HSU HRS
    rw [← hP1, ← hP2] at HNX HRN
    rw [← hT] at HTH HRT
    have k1 : (S1 != S1) = false := by simp
    have k2 : (S2 != S2) = false := by simp
    have k3 : (P1 != P1) = false := by simp
    have k4 : (P2 != P2) = false := by simp
    have k5 : (T != T) = false := by simp
    have hdl := due_len (l := l) now
    cases hm : mayP l with
    | false =>
      rw [hm] at HMA HRM HDU
      clear h hk hn e1 hN hS1 hS2 hP1 hP2 hT hdl hm HRD
      go_enter Try.func3, Try.ntmps3
      go_wp2_with (first
        | (go_at_call 10; refine HOW.out.mono ?_; rintro e w1 ⟨v1, rfl, h1⟩; obtain ⟨A1, c1, rfl⟩ := h1.rd.val HE.out; have M1 := Lib.hid h1.rd; have C1 := Lib.hid h1.2.2; clear h1)
        | (go_at_call 11; refine (HSU.out _ _ M1.out).mono ?_; rintro e w2 ⟨rfl, h1⟩; have M2 := Lib.hid (M1.out.quiet h1); have C2 := Lib.hid (C1.out.then h1); clear h1)
        | (go_at_call 12; refine (HRS.out _ _ (HH.out.quiet C2.out)).mono ?_; rintro e w3 ⟨rfl, rfl⟩)
        | (go_at_call 13; refine (HNX.out _ _ M2.out).mono ?_; rintro e w4 ⟨rfl, h1⟩; have M4 := Lib.hid (M2.out.quiet h1); have C4 := Lib.hid (C2.out.then h1); clear h1)
        | (go_at_call 14; refine (HRN.out _ _ (HH.out.quiet C4.out)).mono ?_; rintro e w5 ⟨rfl, h1⟩; have M5 := Lib.hid (M4.out.quiet h1); have C5 := Lib.hid (C4.out.then h1); clear h1)
        | (go_at_call 15; refine (HMA.out _ _ M5.out).mono ?_; rintro e w6 ⟨rfl, h1⟩; have M6 := Lib.hid (M5.out.quiet h1); have C6 := Lib.hid (C5.out.then h1); clear h1)
        | (go_at_call 16; have q := HRM.out _ _ (HH.out.quiet C6.out); (with_reducible refine q.mono ?_); rintro e w7 ⟨rfl, h1⟩; have M7 := Lib.hid (M6.out.quiet h1); have C7 := Lib.hid (C6.out.then h1); clear h1 q)
        | (go_at_call 17; refine (HTH.out _ _ M7.out).mono ?_; rintro e w8 ⟨rfl, h1⟩; have M8 := Lib.hid (M7.out.quiet h1); have C8 := Lib.hid (C7.out.then h1); clear h1)
        | (go_at_call 18; refine (HRT.out _ _ (HH.out.quiet C8.out)).mono ?_; rintro e w9 ⟨rfl, rfl⟩)
        | (go_at_call 19; refine (HDU.out _ _ M8.out).mono ?_; rintro e w10 ⟨v10, rfl, h1⟩; obtain ⟨A10, c10, rfl⟩ := h1.rd.val (n := 0) rfl; have C10 := Lib.hid (C8.out.then h1.2.2); clear h1)
        | (go_at_call 16; have q := HRM.out _ _ (HH.out.quiet C10.out); (with_reducible refine q.mono ?_); rintro e w11 ⟨rfl, h1⟩; have C11 := Lib.hid (C10.out.then h1); clear h1 q)
        | (go_at_call 9; refine (known_any _).mono ?_; rintro e w12 ⟨rfl, h1⟩; have C12 := Lib.hid (C11.out.then h1); clear h1))
      go_ret
      exact ⟨rfl, C12.out⟩
    | true =>
      replace HRD := Lib.hid (HRD.out hm)
      rw [hm] at HMA HRM HDU
      simp only [if_true] at HDU
      obtain ⟨D, hD⟩ : ∃ D, D = dueL l now := ⟨_, rfl⟩
      rw [← hD] at HDU HRD hdl
      obtain ⟨n, hn9⟩ : ∃ n, n = D.length := ⟨_, rfl⟩
      have HDN := Lib.hid hn9.symm
      have HDL := Lib.hid (show D.length ≤ 100000 by omega)
      have hn7 : n ≤ 100000 := by omega
      have b0 := hB.1
      clear h hk hn e1 hN hS1 hS2 hP1 hP2 hT hdl hm hD hn9
      by_cases hB0 : B = 0
      · have HNW := Lib.hid (fun W => (show Calls Try.prog 20 #[.int .u64 B, .int .u64 now] W fun e w' => ∃ v', e = .returned v' ∧ Own W w' v' [] from by
          have := new_any W B now
          rwa [show newP B now = [] by unfold newP; rw [if_pos hB0]] at this))
        have y1 : (B == 0) = true := by simpa using hB0
        have y2 : decide (B > 0) = false := by simp; omega
        have y3 : decide (0 < B) = false := by simp; omega
        clear hB0
        go_enter Try.func3, Try.ntmps3
        go_wp2_with (first
          | (go_at_call 10; refine HOW.out.mono ?_; rintro e w1 ⟨v1, rfl, h1⟩; obtain ⟨A1, c1, rfl⟩ := h1.rd.val HE.out; have M1 := Lib.hid h1.rd; have C1 := Lib.hid h1.2.2; clear h1)
          | (go_at_call 11; refine (HSU.out _ _ M1.out).mono ?_; rintro e w2 ⟨rfl, h1⟩; have M2 := Lib.hid (M1.out.quiet h1); have C2 := Lib.hid (C1.out.then h1); clear h1)
          | (go_at_call 12; refine (HRS.out _ _ (HH.out.quiet C2.out)).mono ?_; rintro e w3 ⟨rfl, rfl⟩)
          | (go_at_call 13; refine (HNX.out _ _ M2.out).mono ?_; rintro e w4 ⟨rfl, h1⟩; have M4 := Lib.hid (M2.out.quiet h1); have C4 := Lib.hid (C2.out.then h1); clear h1)
          | (go_at_call 14; refine (HRN.out _ _ (HH.out.quiet C4.out)).mono ?_; rintro e w5 ⟨rfl, h1⟩; have M5 := Lib.hid (M4.out.quiet h1); have C5 := Lib.hid (C4.out.then h1); clear h1)
          | (go_at_call 15; refine (HMA.out _ _ M5.out).mono ?_; rintro e w6 ⟨rfl, h1⟩; have M6 := Lib.hid (M5.out.quiet h1); have C6 := Lib.hid (C5.out.then h1); clear h1)
          | (go_at_call 16; have q := HRM.out _ _ (HH.out.quiet C6.out); (with_reducible refine q.mono ?_); rintro e w7 ⟨rfl, h1⟩; have M7 := Lib.hid (M6.out.quiet h1); have C7 := Lib.hid (C6.out.then h1); clear h1 q)
          | (go_at_call 17; refine (HTH.out _ _ M7.out).mono ?_; rintro e w8 ⟨rfl, h1⟩; have M8 := Lib.hid (M7.out.quiet h1); have C8 := Lib.hid (C7.out.then h1); clear h1)
          | (go_at_call 18; refine (HRT.out _ _ (HH.out.quiet C8.out)).mono ?_; rintro e w9 ⟨rfl, rfl⟩)
          | (go_at_call 19; refine (HDU.out _ _ M8.out).mono ?_; rintro e w10 ⟨v10, rfl, h1⟩; obtain ⟨A10, c10, rfl⟩ := h1.rd.val HDN.out; have D10 := Lib.hid h1; have M10 := Lib.hid (M8.out.quiet h1.2.2); have C10 := Lib.hid (C8.out.then h1.2.2); clear h1)
          | (go_at_call 16; have q := HRM.out _ _ (HH.out.quiet C10.out); (with_reducible refine q.mono ?_); rintro e w11 ⟨rfl, h1⟩; have D11 := Lib.hid (D10.out.later h1); have M11 := Lib.hid (M10.out.quiet h1); have C11 := Lib.hid (C10.out.then h1); clear h1 q)
          | (go_at_call 20; refine (HNW.out _).mono ?_; rintro e w12 ⟨v12, rfl, h1⟩; obtain ⟨A12, c12, rfl⟩ := h1.rd.val (n := 0) rfl; have D12 := Lib.hid (D11.out.later h1.2.2); have M12 := Lib.hid (M11.out.quiet h1.2.2); have C12 := Lib.hid (C11.out.then h1.2.2); clear h1)
          | (go_at_call 22; refine (HRD.out _ _ (HH.out.quiet C12.out)).mono ?_; rintro e w14 ⟨v14, rfl, h1⟩; obtain ⟨A14, c14, rfl⟩ := h1.rd.val HDN.out; have D14 := Lib.hid (D12.out.later h1.2.2); have E14 := Lib.hid h1.rd; have M14 := Lib.hid (M12.out.quiet h1.2.2); have C14 := Lib.hid (C12.out.then h1.2.2); clear h1)
          | (go_at_call 21; have q := same_yes D14.out.rd.inn E14.out.inn HDL.out; (with_reducible refine q.mono ?_); rintro e w15 ⟨rfl, h1⟩; have D15 := Lib.hid (D14.out.later h1); have M15 := Lib.hid (M14.out.quiet h1); have C15 := Lib.hid (C14.out.then h1); clear h1 q))
        have HT0 := Lib.hid (Turned.start D15.out.rd HDN.out)
        have HAFTER := Lib.hid (show ∀ wx, Turned w15 wx (.slice A10 n c10) n → In wx (.slice A1 N c1) l ∧ In wx (.slice A N c) l ∧ Chg [] w wx from fun wx hx => by
          obtain ⟨cur, _, _, hch⟩ := hx
          have hz8 := C8.out.size
          have hf : ∀ k ∈ foot (.slice A10 n c10), w8.heap.size ≤ k := D10.out.2.1
          have call : Chg (foot (.slice A10 n c10)) w wx := (C15.out.any).trans hch (fun k hk => .inl hk)
          refine ⟨(M15.out.chg hch (fun j hj hm => ?_)).inn, HH.out.chg call (fun j hm => ?_), C15.out.trans hch (fun k hk => .inr ?_)⟩
          · have := M8.out.lt j hj
            have := hf j hm
            omega
          · have := hf j hm; omega
          · have := hf k hk; omega)
        clear D10 D11 D12 D14 E14 M1 M2 M4 M5 M6 M7 M8 M10 M11 M12 M14 M15 D15
        go_loopg [18] n (fun gh i wx => ∃ k : Nat, k + gh = n ∧ i = .int .i64 k ∧ Hid (Turned w15 wx (.slice A10 n c10) n))
        case atStart => exact ⟨0, by omega, rfl, Lib.hid HT0.out⟩
        case round =>
          obtain ⟨k, hk, rfl, HR⟩ := hrel
          by_cases hlt : k < n
          · have k0 : (0 : Int) ≤ (k : Int) := by omega
            have k1' : (k : Int) < (n : Int) := by omega
            obtain ⟨b, o, a, t, rfl, q0, q1, hfz, r1, _⟩ := HR.out.form hlt
            have f1 := hfz (o + k * 2)
            have HR1 := Lib.hid r1
            clear hfz r1
            go_wp2
            go_roundg (n - k - 1)
            case measure => omega
            case rel => exact ⟨k + 1, by omega, by go_num, Lib.hid (HR1.out _)⟩
          · obtain rfl : k = n := by omega
            obtain ⟨a2, a3, a4⟩ := HAFTER.out _ HR.out
            have B2 := Lib.hid a2
            have B3 := Lib.hid a3
            have B4 := Lib.hid a4
            clear a2 a3 a4
            go_wp2_with (first
              | (go_at_call 21; refine (same_yes B2.out B3.out HHN.out).mono ?_; rintro e w19 ⟨rfl, h1⟩; have H9 := Lib.hid h1; clear h1)
              | (go_at_call 9; refine (known_any _).mono ?_; rintro e w20 ⟨rfl, h1⟩; have H10 := Lib.hid (H9.out.then h1); clear h1))
            go_ret
            exact ⟨rfl, B4.out.then H10.out⟩
      · have HNW := Lib.hid (fun W => (show Calls Try.prog 20 #[.int .u64 B, .int .u64 now] W fun e w' => ∃ v', e = .returned v' ∧ Own W w' v' [(B, now)] from by
          have := new_any W B now
          rwa [show newP B now = [(B, now)] by unfold newP; rw [if_neg hB0]] at this))
        have y1 : (B == 0) = false := by simpa using hB0
        have y2 : decide (B > 0) = true := by simp; omega
        have y3 : decide (0 < B) = true := by simp; omega
        clear hB0
        go_enter Try.func3, Try.ntmps3
        go_wp2_with (first
          | (go_at_call 10; refine HOW.out.mono ?_; rintro e w1 ⟨v1, rfl, h1⟩; obtain ⟨A1, c1, rfl⟩ := h1.rd.val HE.out; have M1 := Lib.hid h1.rd; have C1 := Lib.hid h1.2.2; clear h1)
          | (go_at_call 11; refine (HSU.out _ _ M1.out).mono ?_; rintro e w2 ⟨rfl, h1⟩; have M2 := Lib.hid (M1.out.quiet h1); have C2 := Lib.hid (C1.out.then h1); clear h1)
          | (go_at_call 12; refine (HRS.out _ _ (HH.out.quiet C2.out)).mono ?_; rintro e w3 ⟨rfl, rfl⟩)
          | (go_at_call 13; refine (HNX.out _ _ M2.out).mono ?_; rintro e w4 ⟨rfl, h1⟩; have M4 := Lib.hid (M2.out.quiet h1); have C4 := Lib.hid (C2.out.then h1); clear h1)
          | (go_at_call 14; refine (HRN.out _ _ (HH.out.quiet C4.out)).mono ?_; rintro e w5 ⟨rfl, h1⟩; have M5 := Lib.hid (M4.out.quiet h1); have C5 := Lib.hid (C4.out.then h1); clear h1)
          | (go_at_call 15; refine (HMA.out _ _ M5.out).mono ?_; rintro e w6 ⟨rfl, h1⟩; have M6 := Lib.hid (M5.out.quiet h1); have C6 := Lib.hid (C5.out.then h1); clear h1)
          | (go_at_call 16; have q := HRM.out _ _ (HH.out.quiet C6.out); (with_reducible refine q.mono ?_); rintro e w7 ⟨rfl, h1⟩; have M7 := Lib.hid (M6.out.quiet h1); have C7 := Lib.hid (C6.out.then h1); clear h1 q)
          | (go_at_call 17; refine (HTH.out _ _ M7.out).mono ?_; rintro e w8 ⟨rfl, h1⟩; have M8 := Lib.hid (M7.out.quiet h1); have C8 := Lib.hid (C7.out.then h1); clear h1)
          | (go_at_call 18; refine (HRT.out _ _ (HH.out.quiet C8.out)).mono ?_; rintro e w9 ⟨rfl, rfl⟩)
          | (go_at_call 19; refine (HDU.out _ _ M8.out).mono ?_; rintro e w10 ⟨v10, rfl, h1⟩; obtain ⟨A10, c10, rfl⟩ := h1.rd.val HDN.out; have D10 := Lib.hid h1; have M10 := Lib.hid (M8.out.quiet h1.2.2); have C10 := Lib.hid (C8.out.then h1.2.2); clear h1)
          | (go_at_call 16; have q := HRM.out _ _ (HH.out.quiet C10.out); (with_reducible refine q.mono ?_); rintro e w11 ⟨rfl, h1⟩; have D11 := Lib.hid (D10.out.later h1); have M11 := Lib.hid (M10.out.quiet h1); have C11 := Lib.hid (C10.out.then h1); clear h1 q)
          | (go_at_call 20; refine (HNW.out _).mono ?_; rintro e w12 ⟨v12, rfl, h1⟩; obtain ⟨A12, c12, rfl⟩ := h1.rd.val (n := 1) rfl; have N12 := Lib.hid (h1.rd.quiet ((Chg.refl [] _).alloc (.cells #[.int .u64 B, .int .u64 now] 35))).inn; have O12 := Lib.hid (In.one w12 B now); have D12 := Lib.hid ((D11.out.later h1.2.2).later ((Chg.refl [] _).alloc (.cells #[.int .u64 B, .int .u64 now] 35))); have M12 := Lib.hid ((M11.out.quiet h1.2.2).quiet ((Chg.refl [] _).alloc (.cells #[.int .u64 B, .int .u64 now] 35))); have C12 := Lib.hid ((C11.out.then h1.2.2).alloc (.cells #[.int .u64 B, .int .u64 now] 35)); clear h1)
          | (go_at_call 21; have q := same_yes N12.out O12.out (by simp); (with_reducible refine q.mono ?_); rintro e w13 ⟨rfl, h1⟩; have D13 := Lib.hid (D12.out.later h1); have M13 := Lib.hid (M12.out.quiet h1); have C13 := Lib.hid (C12.out.then h1); clear h1 q)
          | (go_at_call 22; refine (HRD.out _ _ (HH.out.quiet C13.out)).mono ?_; rintro e w14 ⟨v14, rfl, h1⟩; obtain ⟨A14, c14, rfl⟩ := h1.rd.val HDN.out; have D14 := Lib.hid (D13.out.later h1.2.2); have E14 := Lib.hid h1.rd; have M14 := Lib.hid (M13.out.quiet h1.2.2); have C14 := Lib.hid (C13.out.then h1.2.2); clear h1)
          | (go_at_call 21; have q := same_yes D14.out.rd.inn E14.out.inn HDL.out; (with_reducible refine q.mono ?_); rintro e w15 ⟨rfl, h1⟩; have D15 := Lib.hid (D14.out.later h1); have M15 := Lib.hid (M14.out.quiet h1); have C15 := Lib.hid (C14.out.then h1); clear h1 q))
        have HT0 := Lib.hid (Turned.start D15.out.rd HDN.out)
        have HAFTER := Lib.hid (show ∀ wx, Turned w15 wx (.slice A10 n c10) n → In wx (.slice A1 N c1) l ∧ In wx (.slice A N c) l ∧ Chg [] w wx from fun wx hx => by
          obtain ⟨cur, _, _, hch⟩ := hx
          have hz8 := C8.out.size
          have hf : ∀ k ∈ foot (.slice A10 n c10), w8.heap.size ≤ k := D10.out.2.1
          have call : Chg (foot (.slice A10 n c10)) w wx := (C15.out.any).trans hch (fun k hk => .inl hk)
          refine ⟨(M15.out.chg hch (fun j hj hm => ?_)).inn, HH.out.chg call (fun j hm => ?_), C15.out.trans hch (fun k hk => .inr ?_)⟩
          · have := M8.out.lt j hj
            have := hf j hm
            omega
          · have := hf j hm; omega
          · have := hf k hk; omega)
        clear D10 D11 D12 D13 D14 E14 M1 M2 M4 M5 M6 M7 M8 M10 M11 M12 M13 M14 M15 D15 N12 O12
        go_loopg [18] n (fun gh i wx => ∃ k : Nat, k + gh = n ∧ i = .int .i64 k ∧ Hid (Turned w15 wx (.slice A10 n c10) n))
        case atStart => exact ⟨0, by omega, rfl, Lib.hid HT0.out⟩
        case round =>
          obtain ⟨k, hk, rfl, HR⟩ := hrel
          by_cases hlt : k < n
          · have k0 : (0 : Int) ≤ (k : Int) := by omega
            have k1' : (k : Int) < (n : Int) := by omega
            obtain ⟨b, o, a, t, rfl, q0, q1, hfz, r1, _⟩ := HR.out.form hlt
            have f1 := hfz (o + k * 2)
            have HR1 := Lib.hid r1
            clear hfz r1
            go_wp2
            go_roundg (n - k - 1)
            case measure => omega
            case rel => exact ⟨k + 1, by omega, by go_num, Lib.hid (HR1.out _)⟩
          · obtain rfl : k = n := by omega
            obtain ⟨a2, a3, a4⟩ := HAFTER.out _ HR.out
            have B2 := Lib.hid a2
            have B3 := Lib.hid a3
            have B4 := Lib.hid a4
            clear a2 a3 a4
            go_wp2_with (first
              | (go_at_call 21; refine (same_yes B2.out B3.out HHN.out).mono ?_; rintro e w19 ⟨rfl, h1⟩; have H9 := Lib.hid h1; clear h1)
              | (go_at_call 9; refine (known_any _).mono ?_; rintro e w20 ⟨rfl, h1⟩; have H10 := Lib.hid (H9.out.then h1); clear h1))
            go_ret
            exact ⟨rfl, B4.out.then H10.out⟩
end Go.Proofs
