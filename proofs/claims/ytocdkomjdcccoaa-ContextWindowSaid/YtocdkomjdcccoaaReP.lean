import Derived.Test.YtocdkomjdcccoaaReO
namespace Go.Proofs
open Go.RowKit
set_option linter.unusedVariables false

theorem sumP_due {l : List Rf} (now : Int) : sumP (dueL l now) = sumP l := by
  unfold dueL
  split
  · rfl
  · have := sumP_append (l.take (dueN l now)) (l.drop (dueN l now))
    rw [List.take_append_drop] at this
    simp only [sumP]; omega
theorem Ok.dec {a t : Int} {r : List Rf} {m : Int} (h : Ok ((a, t) :: r)) (h0 : 0 ≤ m) (h1 : m ≤ a) : Ok (decP ((a, t) :: r) m) := by
  rw [decP_cons]
  split
  · exact h.tail
  · have := h.head
    simp only at this
    exact Ok.cons ⟨by omega, by have := this.1.2; omega⟩ this.2 h.tail
theorem sumP_dec (a t : Int) (r : List Rf) (m : Int) : sumP (decP ((a, t) :: r) m) = sumP ((a, t) :: r) - m := by
  rw [decP_cons]
  split
  · rename_i e; simp only [sumP]; omega
  · simp only [sumP]; omega
theorem dec_len (a t : Int) (r : List Rf) (m : Int) : (decP ((a, t) :: r) m).length ≤ r.length + 1 := by
  rw [decP_cons]
  split <;> simp
/-- Can one be used? -/
def canP (l : List Rf) (now per most : Int) : Prop := holdsP l most = true ∧ per ≠ 0 ∧ now + per < 18446744073709551616 ∧ mayP l = true ∧ 1 ≤ thereP l now
instance (l : List Rf) (now per most : Int) : Decidable (canP l now per most) := by unfold canP; infer_instance
/-- The list behind one is used. -/
def useP (l : List Rf) (now per most : Int) : List Rf := backP (decP (dueL l now) 1) (now + per) most
def chargeP (l : List Rf) (now per most : Int) : List Rf × Bool := if canP l now per most then (useP l now per most, true) else ([], false)
theorem chargeP_no {l : List Rf} {now per most : Int} (h : ¬ canP l now per most) : chargeP l now per most = ([], false) := by unfold chargeP; rw [if_neg h]
theorem chargeP_yes {l : List Rf} {now per most : Int} (h : canP l now per most) : chargeP l now per most = (useP l now per most, true) := by unfold chargeP; rw [if_pos h]
set_option maxHeartbeats 6400000 in
set_option maxRecDepth 100000 in
theorem charge_any {w : World} {v : Value} {l : List Rf} (h : Rd w v l) (hk : Ok l) (hn : l.length ≤ 100000) {now per most : Int} (hnow : U64 now) (hper : U64 per) :
    Calls Try.prog 25 #[v, .int .u64 now, .int .u64 per, .int .i64 most] w fun e w' => ∃ v', e = .returned (.tuple #[v', .bool (chargeP l now per most).2]) ∧ Mine w w' v' (chargeP l now per most).1 := by
  have hadd := fun W => add_any now per hnow.1 hper.1 hnow.2 hper.2 W
  have HHO := Lib.hid (fun W (hW : Chg [] w W) => holds_any (h.quiet hW) most)
  have HPU := Lib.hid (fun W (hW : Chg [] w W) => pull_any (h.quiet hW) hk hn now 1 ⟨by omega, by omega⟩)
  obtain ⟨A, c, rfl, _⟩ := h.open_
  obtain ⟨n, e1⟩ : ∃ n, n = l.length := ⟨_, rfl⟩
  rw [← e1] at HHO HPU ⊢
  cases hho : holdsP l most with
  | false =>
    have HE := Lib.hid (chargeP_no (l := l) (now := now) (per := per) (most := most) (fun c => by have := c.1; rw [hho] at this; cases this))
    rw [hho] at HHO
    clear h hk hn e1 hho
    go_enter Try.func25, Try.ntmps25
    go_wp2_with (first
      | (go_at_call 43; refine (hadd _).mono ?_; rintro e w1 ⟨rfl, h1⟩; have H1 := Lib.hid h1; clear h1)
      | (go_at_call 44; refine (HHO.out _ H1.out).mono ?_; rintro e w2 ⟨rfl, rfl⟩))
    go_ret2
    exact ⟨_, by rw [HE.out]; rfl, by rw [HE.out]; exact Mine.nil H1.out⟩
  | true =>
    rw [hho] at HHO
    by_cases hp0 : per = 0
    · have HE := Lib.hid (chargeP_no (l := l) (now := now) (per := per) (most := most) (fun c => c.2.1 hp0))
      have g0 : (per == 0) = true := by simpa using hp0
      clear h hk hn e1 hho hp0
      go_enter Try.func25, Try.ntmps25
      go_wp2_with (first
        | (go_at_call 43; refine (hadd _).mono ?_; rintro e w1 ⟨rfl, h1⟩; have H1 := Lib.hid h1; clear h1)
        | (go_at_call 44; refine (HHO.out _ H1.out).mono ?_; rintro e w2 ⟨rfl, rfl⟩))
      go_ret2
      exact ⟨_, by rw [HE.out]; rfl, by rw [HE.out]; exact Mine.nil H1.out⟩
    · have g0 : (per == 0) = false := by simpa using hp0
      by_cases hf : now + per < 18446744073709551616
      · obtain ⟨f1, f2⟩ := addF_yes hf
        rw [f1, f2] at hadd
        by_cases hpl : (pullP l now 1).2 = 0
        · have hcan : canP l now per most := by
            refine ⟨hho, hp0, hf, ?_⟩
            unfold pullP at hpl
            split at hpl
            · simp at hpl
            · rename_i e
              split at hpl
              · simp at hpl
              · rename_i e2
                exact ⟨by cases hmm : mayP l with
                  | true => rfl
                  | false => exact absurd (.inl hmm) e, by omega⟩
          have hpe : pullP l now 1 = (decP (dueL l now) 1, 0) := by
            unfold pullP
            rw [if_neg (by rw [hcan.2.2.2.1]; simp), if_neg (by have := hcan.2.2.2.2; omega)]
          have HE := Lib.hid (chargeP_yes hcan)
          unfold useP at HE
          rw [hpe] at HPU
          obtain ⟨hdf, _⟩ := due_form hk hcan.2.2.2.1 hcan.2.2.2.2
          have hdo := hk.due hcan.2.2.2.1 now
          have hds := sumP_due (l := l) now
          have hdl := due_len (l := l) now
          rw [hdf] at hdo hds hdl
          have hms := (mayP_iff.1 hcan.2.2.2.1).1
          have hT1 := hcan.2.2.2.2
          have hm1 : 1 ≤ most := by have := hcan.1; unfold holdsP at this; simp at this; exact this.1
          have HBK := Lib.hid (fun w0 W V (hM : Mine w0 W V (decP (dueL l now) 1)) => back_any (at_ := now + per) (most := most) hM (by rw [hdf]; exact hdo.dec (by omega) hT1) (by rw [hdf, sumP_dec]; omega) hm1 (by rw [hdf]; have := dec_len (thereP l now) (aheadP l (dueN l now)) (l.drop (dueN l now)) 1; simp only [List.length_cons] at hdl; omega))
          clear h hk hn e1 hho hp0 hf hpl hcan hpe hdf hdo hds hdl hms hT1 hm1 f1 f2
          go_enter Try.func25, Try.ntmps25
          go_wp2_with (first
            | (go_at_call 43; refine (hadd _).mono ?_; rintro e w1 ⟨rfl, h1⟩; have H1 := Lib.hid h1; clear h1)
            | (go_at_call 44; refine (HHO.out _ H1.out).mono ?_; rintro e w2 ⟨rfl, rfl⟩)
            | (go_at_call 45; refine (HPU.out _ H1.out).mono ?_; rintro e w3 ⟨v3, rfl, h1⟩; obtain ⟨A3, c3, rfl, _⟩ := h1.1.open_; have H3 := Lib.hid (h1.before H1.out); clear h1)
            | (go_at_call 46; refine (HBK.out _ _ _ H3.out).mono ?_; rintro e w4 ⟨v4, rfl, h1⟩; have H4 := Lib.hid h1; clear h1))
          go_ret2
          exact ⟨_, by rw [HE.out]; rfl, by rw [HE.out]; exact H4.out⟩
        · have HE := Lib.hid (chargeP_no (l := l) (now := now) (per := per) (most := most) (fun c => hpl (by unfold pullP; rw [if_neg (by rw [c.2.2.2.1]; simp), if_neg (by have := c.2.2.2.2; omega)])))
          obtain ⟨PE, hPE⟩ : ∃ PE, PE = (pullP l now 1).2 := ⟨_, rfl⟩
          rw [← hPE] at HPU hpl
          have g1 : (PE != 0) = true := by simpa using hpl
          clear h hk hn e1 hho hp0 hf hpl hPE f1 f2
          go_enter Try.func25, Try.ntmps25
          go_wp2_with (first
            | (go_at_call 43; refine (hadd _).mono ?_; rintro e w1 ⟨rfl, h1⟩; have H1 := Lib.hid h1; clear h1)
            | (go_at_call 44; refine (HHO.out _ H1.out).mono ?_; rintro e w2 ⟨rfl, rfl⟩)
            | (go_at_call 45; refine (HPU.out _ H1.out).mono ?_; rintro e w3 ⟨v3, rfl, h1⟩; obtain ⟨A3, c3, rfl, _⟩ := h1.1.open_; have H3 := Lib.hid (h1.before H1.out); clear h1))
          go_ret2
          exact ⟨_, by rw [HE.out]; rfl, by rw [HE.out]; exact Mine.nil H3.out.2.2⟩
      · obtain ⟨f1, f2⟩ := addF_no hf
        rw [f1, f2] at hadd
        have HE := Lib.hid (chargeP_no (l := l) (now := now) (per := per) (most := most) (fun c => hf c.2.2.1))
        clear h hk hn e1 hho hp0 hf f1 f2
        go_enter Try.func25, Try.ntmps25
        go_wp2_with (first
          | (go_at_call 43; refine (hadd _).mono ?_; rintro e w1 ⟨rfl, h1⟩; have H1 := Lib.hid h1; clear h1)
          | (go_at_call 44; refine (HHO.out _ H1.out).mono ?_; rintro e w2 ⟨rfl, rfl⟩))
        go_ret2
        exact ⟨_, by rw [HE.out]; rfl, by rw [HE.out]; exact Mine.nil H1.out⟩
end Go.Proofs
