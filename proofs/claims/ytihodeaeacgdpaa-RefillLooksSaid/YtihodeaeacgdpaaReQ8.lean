import Derived.Test.YtihodeaeacgdpaaReQ
namespace Go.Proofs
open Go.RowKit
set_option linter.unusedVariables false

set_option maxHeartbeats 6400000 in
set_option maxRecDepth 100000 in
theorem rch_no {w : World} {v : Value} {l : List Rf} (h : In w v l) (hk : Ok l) (hn : l.length ≤ 100000) {now per most : Int} (hnow : U64 now) (hper : U64 per) (hno : ¬ canP l now per most) :
    Calls Try.prog 24 #[v, .int .u64 now, .int .u64 per, .int .i64 most] w fun e w' => ∃ v', e = .returned (.tuple #[v', .bool false]) ∧ Mine w w' v' [] := by
  have hadd := fun W => radd_any now per hnow.1 hper.1 hnow.2 hper.2 W
  have hmy := rmay_any h hk hn
  obtain ⟨A, c, rfl, _, _, _, hcell⟩ := h.open_
  have HC := Lib.hid hcell
  obtain ⟨n, e1⟩ : ∃ n, n = l.length := ⟨_, rfl⟩
  rw [← e1] at hmy ⊢
  have HN := Lib.hid e1
  have HNO := Lib.hid hno
  have HK := Lib.hid hk
  clear hcell h hk hn hno e1
  obtain ⟨S, hS⟩ : ∃ S, S = addN now per := ⟨_, rfl⟩
  obtain ⟨F, hF⟩ : ∃ S, S = addF now per := ⟨_, rfl⟩
  rw [← hS, ← hF] at hadd
  have HF := Lib.hid hF
  clear hS hF
  cases hm : mayP l with
  | false =>
    rw [hm] at hmy
    clear hm
    go_enter Try.func24, Try.ntmps24
    go_wp2_with (first
      | (go_at_call 30; refine (hadd _).mono ?_; rintro e w0 ⟨rfl, rfl⟩)
      | (go_at_call 16; refine hmy.mono ?_; rintro e w1 ⟨rfl, h1⟩; have H1 := Lib.hid h1; clear h1))
    go_ret2
    exact ⟨_, rfl, Mine.nil H1.out⟩
  | true =>
    rw [hm] at hmy
    have HM := Lib.hid hm
    clear hm
    by_cases hm1 : most < 1
    · have g1 : decide (most < 1) = true := by simpa using hm1
      clear hm1
      go_enter Try.func24, Try.ntmps24
      go_wp2_with (first
        | (go_at_call 30; refine (hadd _).mono ?_; rintro e w0 ⟨rfl, rfl⟩)
        | (go_at_call 16; refine hmy.mono ?_; rintro e w1 ⟨rfl, h1⟩; have H1 := Lib.hid h1; clear h1))
      go_ret2
      exact ⟨_, rfl, Mine.nil H1.out⟩
    · have g1 : decide (most < 1) = false := by simpa using hm1
      have HM1 := Lib.hid hm1
      clear hm1
      by_cases hl1 : (n : Int) > most
      · have g2 : decide ((n : Int) > most) = true := by simpa using hl1
        have g2' : decide (most < (n : Int)) = true := by simpa using hl1
        clear hl1
        go_enter Try.func24, Try.ntmps24
        go_wp2_with (first
          | (go_at_call 30; refine (hadd _).mono ?_; rintro e w0 ⟨rfl, rfl⟩)
          | (go_at_call 16; refine hmy.mono ?_; rintro e w1 ⟨rfl, h1⟩; have H1 := Lib.hid h1; clear h1))
        go_ret2
        exact ⟨_, rfl, Mine.nil H1.out⟩
      · have g2 : decide ((n : Int) > most) = false := by simpa using hl1
        have g2' : decide (most < (n : Int)) = false := by simpa using hl1
        have HL1 := Lib.hid hl1
        clear hl1
        by_cases hp0 : per = 0
        · have g3 : (per == 0) = true := by simpa using hp0
          clear hp0
          go_enter Try.func24, Try.ntmps24
          go_wp2_with (first
            | (go_at_call 30; refine (hadd _).mono ?_; rintro e w0 ⟨rfl, rfl⟩)
            | (go_at_call 16; refine hmy.mono ?_; rintro e w1 ⟨rfl, h1⟩; have H1 := Lib.hid h1; clear h1))
          go_ret2
          exact ⟨_, rfl, Mine.nil H1.out⟩
        · have g3 : (per == 0) = false := by simpa using hp0
          have HP0 := Lib.hid hp0
          clear hp0
          cases F with
          | false =>
            go_enter Try.func24, Try.ntmps24
            go_wp2_with (first
              | (go_at_call 30; refine (hadd _).mono ?_; rintro e w0 ⟨rfl, rfl⟩)
              | (go_at_call 16; refine hmy.mono ?_; rintro e w1 ⟨rfl, h1⟩; have H1 := Lib.hid h1; clear h1))
            go_ret2
            exact ⟨_, rfl, Mine.nil H1.out⟩
          | true =>
            by_cases hl0 : n = 0
            · have g4 : ((n : Int) == 0) = true := by simp; omega
              clear hl0
              go_enter Try.func24, Try.ntmps24
              go_wp2_with (first
                | (go_at_call 30; refine (hadd _).mono ?_; rintro e w0 ⟨rfl, rfl⟩)
                | (go_at_call 16; refine hmy.mono ?_; rintro e w1 ⟨rfl, h1⟩; have H1 := Lib.hid h1; clear h1))
              go_ret2
              exact ⟨_, rfl, Mine.nil H1.out⟩
            · have g4 : ((n : Int) == 0) = false := by simp; omega
              have g5 : (0 : Int) < (n : Int) := by omega
              obtain ⟨x, hx⟩ : ∃ x, l[0]? = some x := ⟨_, List.getElem?_eq_getElem (by rw [← HN.out]; omega)⟩
              obtain ⟨b, o, rfl, lb, p0, p1⟩ := HC.out 0 x hx
              simp only [Nat.zero_mul, Nat.add_zero] at p0 p1
              have HX9 := Lib.hid (fun W (hW : Chg [] w W) => (hW.cell (p := ⟨b, o + 1, none⟩) lb (by simp)).trans p1)
              have hx1 : x.2 > now := by
                refine Int.not_le.1 (fun hle => HNO.out ⟨?_, HP0.out, ?_, HM.out, (there_head HK.out HM.out now).2 ⟨x, hx, hle⟩⟩)
                · unfold holdsP
                  have h1 := HM1.out
                  have h2 := HL1.out
                  have h3 := HN.out
                  simp
                  omega
                · have := HF.out
                  unfold addF at this
                  simpa using this.symm
              have g6 : decide (x.2 > now) = true := by simpa using hx1
              have g6' : decide (now < x.2) = true := by simpa using hx1
              clear hl0 hx p0 p1 hx1
              go_enter Try.func24, Try.ntmps24
              go_wp2_with (first
                | (go_at_call 30; refine (hadd _).mono ?_; rintro e w0 ⟨rfl, rfl⟩)
                | (go_at_call 16; refine hmy.mono ?_; rintro e w1 ⟨rfl, h1⟩; have x9 := HX9.out _ h1; have H1 := Lib.hid h1; clear h1))
              go_ret2
              exact ⟨_, rfl, Mine.nil H1.out⟩
end Go.Proofs
