import Derived.Test.YtoddffpbbnicpaaRvG
namespace Go.Proofs
open Go.RowKit
set_option linter.unusedVariables false

theorem QMade.turn {w w1 w2 : World} {q g h M : Nat} {L L' : List Int} {N N' : Option Int} (H : QMade M L N q g h w w1) (hQ : QueueAt w2 q g h M L' N') (hc : Chg [q, g, h] w1 w2) : QMade M L' N' q g h w w2 :=
  ⟨hQ, H.2.1, H.2.2.trans hc (fun k hk => .inr (H.2.1 k hk))⟩
theorem QMade.queue {w w1 : World} {q g h M : Nat} {L : List Int} {N : Option Int} (H : QMade M L N q g h w w1) : QueueAt w1 q g h M L N := H.1
theorem QMade.later {w w1 w2 : World} {q g h M : Nat} {L : List Int} {N : Option Int} (H : QMade M L N q g h w w1) (hc : Chg [] w1 w2) : QMade M L N q g h w w2 :=
  ⟨H.1.quiet hc, H.2.1, H.2.2.then hc⟩
set_option maxRecDepth 100000 in
set_option maxHeartbeats 3200000 in
theorem known_any (w : World) : Calls Try.prog 8 #[] w fun e w' => e = .returned (.bool true) ∧ Chg [] w w' := by
  have hnew := qnew_ok 2 w (by omega) (by omega)
  have HA : ∀ q g h W, QueueAt W q g h 2 [] none → Calls Try.prog 14 #[.pointer (some ⟨q, 0, none⟩), .int .i64 1] W fun e w' => ∃ v, e = .returned v ∧ QTurn q g h 2 v [] [1] none W w' := fun q g h W H => by have := put_any H 1; simpa [putS, putL] using this
  have HB : ∀ q g h W, QueueAt W q g h 2 [1] none → Calls Try.prog 14 #[.pointer (some ⟨q, 0, none⟩), .int .i64 2] W fun e w' => ∃ v, e = .returned v ∧ QTurn q g h 2 v [] [1, 2] none W w' := fun q g h W H => by have := put_any H 2; simpa [putS, putL] using this
  have HC : ∀ q g h W, QueueAt W q g h 2 [1, 2] none → Calls Try.prog 14 #[.pointer (some ⟨q, 0, none⟩), .int .i64 3] W fun e w' => ∃ v, e = .returned v ∧ QTurn q g h 2 v [1, 3] [2] none W w' := fun q g h W H => by have := put_any H 3; simpa [putS, putL, halfN] using this
  have HD : ∀ q g h W, QueueAt W q g h 2 [2] none → Calls Try.prog 15 #[.pointer (some ⟨q, 0, none⟩), .int .i64 1] W fun e w' => ∃ v, e = .returned v ∧ QTurn q g h 2 v [] [2] (some 1) W w' := fun q g h W H => by have := putNext_any H 1; simpa [kickS, kickL] using this
  have HE : ∀ q g h W, QueueAt W q g h 2 [2] (some 1) → Calls Try.prog 15 #[.pointer (some ⟨q, 0, none⟩), .int .i64 4] W fun e w' => ∃ v, e = .returned v ∧ QTurn q g h 2 v [] [2, 1] (some 4) W w' := fun q g h W H => by have := putNext_any H 4; simpa [kickS, kickL, putS, putL] using this
  have HT := fun q g h W (H : QueueAt W q g h 2 [2, 1] (some 4)) => take_next H
  have HS := fun W v1 v2 (h1 : Rd W v1 [1, 3]) (h2 : Rd W v2 [1, 3]) => rsame_any h1 h2 (by simp) (by simp)
  simp only [beq_self_eq_true] at HS
  go_enter Try.func8, Try.ntmps8
  go_wp2_with (first
    | (go_at_call 9; refine hnew.mono ?_; rintro e w1 ⟨q, g, h, rfl, hM⟩; have M0 := Lib.hid hM; clear hM)
    | (go_at_call 14; ((with_reducible refine (HA _ _ _ _ M0.out.queue).mono ?_); rintro e w2 ⟨v2, rfl, hT⟩); have M1 := Lib.hid (M0.out.turn hT.1 hT.2.2.2); clear hT)
    | (go_at_call 14; ((with_reducible refine (HB _ _ _ _ M1.out.queue).mono ?_); rintro e w3 ⟨v3, rfl, hT⟩); have M2 := Lib.hid (M1.out.turn hT.1 hT.2.2.2); clear hT)
    | (go_at_call 14; ((with_reducible refine (HC _ _ _ _ M2.out.queue).mono ?_); rintro e w4 ⟨v4, rfl, hT⟩); have M3 := Lib.hid (M2.out.turn hT.1 hT.2.2.2); have SP := Lib.hid (And.intro hT.rd (hT.far M2.out.queue)); clear hT)
    | (go_at_call 15; ((with_reducible refine (HD _ _ _ _ M3.out.queue).mono ?_); rintro e w5 ⟨v5, rfl, hT⟩); have M4 := Lib.hid (M3.out.turn hT.1 hT.2.2.2); have C5 := Lib.hid hT.2.2.2; clear hT)
    | (go_at_call 15; ((with_reducible refine (HE _ _ _ _ M4.out.queue).mono ?_); rintro e w6 ⟨v6, rfl, hT⟩); have M5 := Lib.hid (M4.out.turn hT.1 hT.2.2.2); have C6 := Lib.hid hT.2.2.2; clear hT)
    | (go_at_call 16; refine (HT _ _ _ _ M5.out.queue).mono ?_; rintro e w7 ⟨rfl, hQ, hc⟩; have M6 := Lib.hid (M5.out.turn hQ hc); have C7 := Lib.hid hc; clear hQ hc)
    | (go_at_call 23; refine (HS _ _ _ ((((SP.out.1.chg C5.out SP.out.2).chg C6.out SP.out.2).chg C7.out SP.out.2).quiet ((Chg.refl _ _).alloc _)) (Rd.two _ 1 3)).mono ?_; rintro e w8 ⟨rfl, hc⟩; have C8 := Lib.hid hc; clear hc))
  go_ret
  exact ⟨rfl, (M6.out.2.2.alloc _).then C8.out⟩
def mayB (M : Int) : Bool := decide (2 ≤ M) && decide (M ≤ 4096)
theorem maycall_any (M : Int) (w : World) : Calls Try.prog 10 #[.int .i64 M] w fun e w' => e = .returned (.bool (mayB M)) ∧ w = w' := by
  unfold mayB
  by_cases h : 2 ≤ M
  · rw [decide_eq_true h, Bool.true_and]
    by_cases h2 : M ≤ 4096
    · rw [decide_eq_true h2]
      go_enter Try.func10, Try.ntmps10
      go_wp2
      go_ret
      exact ⟨rfl, rfl⟩
    · rw [decide_eq_false h2]
      go_enter Try.func10, Try.ntmps10
      go_wp2
      go_ret
      exact ⟨rfl, rfl⟩
  · rw [decide_eq_false h, Bool.false_and]
    go_enter Try.func10, Try.ntmps10
    go_wp2
    go_ret
    exact ⟨rfl, rfl⟩
/-! ### Acts that came in -/
/-- They lie, and all that they name, below T. -/
def Acts (w : World) (T : Nat) (V : Value) (l : List ActV) : Prop :=
  T ≤ w.heap.size ∧ ∃ A c, V = .slice A l.length c ∧ ∀ (k : Nat) (a : ActV), l[k]? = some a → ∃ b off, A = some ⟨b, off, none⟩ ∧ b < T ∧ a.Fits w T ∧
    w.cell? ⟨b, off + k * 4, none⟩ = some (.int .i64 a.kind) ∧ w.cell? ⟨b, off + k * 4 + 1, none⟩ = some (.int .i64 a.g) ∧ w.cell? ⟨b, off + k * 4 + 2, none⟩ = some (.bool a.yes) ∧ w.cell? ⟨b, off + k * 4 + 3, none⟩ = some a.V
theorem Acts.chg {S : List Nat} {w w' : World} {T : Nat} {V : Value} {l : List ActV} (h : Acts w T V l) (hc : Chg S w w') (hS : ∀ k ∈ S, T ≤ k) : Acts w' T V l := by
  obtain ⟨h0, A, c, rfl, h1⟩ := h
  refine ⟨Nat.le_trans h0 hc.size, A, c, rfl, fun k a hk => ?_⟩
  obtain ⟨b, off, rfl, hb, hf, c0, c1, c2, c3⟩ := h1 k a hk
  have hn : b ∉ S := fun hm => by have := hS b hm; omega
  have hl : b < w.heap.size := by omega
  exact ⟨b, off, rfl, hb, hf.chg hc hS, (hc.cell (p := ⟨b, _, none⟩) hl hn).trans c0, (hc.cell (p := ⟨b, _, none⟩) hl hn).trans c1, (hc.cell (p := ⟨b, _, none⟩) hl hn).trans c2, (hc.cell (p := ⟨b, _, none⟩) hl hn).trans c3⟩
theorem Acts.quiet {w w' : World} {T : Nat} {V : Value} {l : List ActV} (h : Acts w T V l) (hc : Chg [] w w') : Acts w' T V l := h.chg hc (fun _ h => by cases h)
def fewB (l : List ActV) (most : Nat) : Bool := (l.take (most + 1)).all (fun a => decide (a.aff.length ≤ 100)) && decide (l.length ≤ most)
theorem few_any {w : World} {T : Nat} {V : Value} {l : List ActV} (h : Acts w T V l) (most : Nat) (hm : most ≤ 1000) :
    Calls Try.prog 7 #[V, .int .i64 (most : Nat)] w fun e w' => e = .returned (.bool (fewB l most)) ∧ w = w' := by
  obtain ⟨h0, A, c, rfl, ho⟩ := h
  obtain ⟨n, hn⟩ : ∃ n, n = l.length := ⟨_, rfl⟩
  rw [← hn]
  have HN := Lib.hid hn
  have HO := Lib.hid ho
  clear hn ho h0
  go_enter Try.func7, Try.ntmps7
  go_wp2
  go_loop [5] (fun i => ∃ k : Nat, k ≤ n ∧ k ≤ most + 1 ∧ i = .int .i64 k ∧ Hid (∀ j, j < k → ∀ a, l[j]? = some a → a.aff.length ≤ 100)) (fun i => n - (intOf i).toNat)
  case atStart => exact ⟨0, Nat.zero_le _, Nat.zero_le _, rfl, Lib.hid fun j hj => by omega⟩
  case round =>
    obtain ⟨k, hk, hk1, rfl, HE⟩ := hrel
    by_cases hgo : k < n ∧ k ≤ most
    · obtain ⟨hlt, hle⟩ := hgo
      obtain ⟨a, ha⟩ : ∃ a, l[k]? = some a := ⟨_, List.getElem?_eq_getElem (by rw [← HN.out]; exact hlt)⟩
      obtain ⟨b, off, rfl, hb, hf, c0, c1, c2, c3⟩ := HO.out k a ha
      obtain ⟨A2, c9, hV, _⟩ := hf.bs
      rw [hV] at c3
      have i0 : (0 : Int) ≤ (k : Int) := by omega
      have i1 : (k : Int) < (n : Int) := by omega
      have i2 : (k : Int) ≤ (most : Int) := by omega
      have HA := Lib.hid ha
      obtain ⟨m, hm2⟩ : ∃ m, m = a.aff.length := ⟨_, rfl⟩
      rw [← hm2] at c3
      have HM := Lib.hid hm2
      clear ha hf hV hm2 c0 c1 c2
      by_cases hbig : 100 < m
      · have HZ := Lib.hid (show fewB l most = false by
          unfold fewB
          rw [Bool.and_eq_false_iff]
          left
          rw [List.all_eq_false]
          refine ⟨a, List.mem_of_getElem? (i := k) ?_, by have := HM.out; simp; omega⟩
          rw [List.getElem?_take, if_pos (by omega)]
          exact HA.out)
        have i3 : (100 : Int) < (m : Int) := by omega
        go_wp2
        go_ret
        exact ⟨by rw [HZ.out]; rfl, rfl⟩
      · have i3 : ¬ ((100 : Int) < (m : Int)) := by omega
        have HX := Lib.hid (show m ≤ 100 by omega)
        clear hbig
        go_wp2
        go_round
        case rel =>
          refine ⟨k + 1, by omega, by omega, by go_num, Lib.hid fun j hj a' ha' => ?_⟩
          by_cases e : j = k
          · subst e
            rw [HA.out] at ha'
            rw [← Option.some.inj ha', ← HM.out]
            exact HX.out
          · exact HE.out j (by omega) a' ha'
        case measure => simp [intOf]; omega
    · have HZ := Lib.hid (show fewB l most = decide (n ≤ most) by
        unfold fewB
        have : (l.take (most + 1)).all (fun a => decide (a.aff.length ≤ 100)) = true := by
          rw [List.all_eq_true]
          intro a ha
          obtain ⟨j, hj, e⟩ := List.mem_iff_getElem.1 ha
          rw [List.length_take] at hj
          have h9 : l[j]? = some a := by
            rw [← e, List.getElem_take]
            exact List.getElem?_eq_getElem (by omega)
          have := HE.out j (by have := HN.out; omega) a h9
          simpa using this
        rw [this, Bool.true_and, HN.out])
      by_cases hlt : k < n
      · have i2 : ¬ ((k : Int) ≤ (most : Int)) := by omega
        have i4 : ¬ ((n : Int) ≤ (most : Int)) := by omega
        have HY := Lib.hid (show decide (n ≤ most) = false by simp; omega)
        clear hgo
        go_wp2
        go_ret
        exact ⟨by rw [HZ.out, HY.out]; rfl, rfl⟩
      · obtain rfl : k = n := by omega
        clear hgo
        go_wp2
        go_ret
        exact ⟨by rw [HZ.out]; simp, rfl⟩
end Go.Proofs
