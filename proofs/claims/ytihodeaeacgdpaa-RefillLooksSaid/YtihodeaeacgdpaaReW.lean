import Derived.Test.YtihodeaeacgdpaaReV
namespace Go.Proofs
open Go.RowKit
set_option linter.unusedVariables false

theorem In.two (w : World) (a b c d : Int) : In (w.alloc (.cells #[.int .u64 a, .int .u64 b, .int .u64 c, .int .u64 d] 35)) (.slice (some ⟨w.heap.size, 0, none⟩) 2 2) [(a, b), (c, d)] :=
  Rd.inn (Rs.of_row ⟨rfl, .inr ⟨_, 2, _, rfl, Blk.new w 35 _, Nat.le_refl _, by unfold maxLen; omega, by simp, rfl⟩⟩)
theorem In.one (w : World) (a b : Int) : In (w.alloc (.cells #[.int .u64 a, .int .u64 b] 35)) (.slice (some ⟨w.heap.size, 0, none⟩) 1 1) [(a, b)] := (Ro.one w a b).rd.inn
theorem Rd.val {w : World} {v : Value} {l : List Rf} (h : Rd w v l) {n : Nat} (hn : l.length = n) : ∃ A c, v = .slice A n c := by
  obtain ⟨A, c, h1, _⟩ := h.open_
  exact ⟨A, c, by rw [h1, hn]⟩
theorem charge_A : chargeP [(5, 0)] 3 10 2 = ([(4, 0), (1, 13)], true) := by decide +kernel
theorem charge_B : chargeP [(4, 0), (1, 13)] 4 10 2 = ([(3, 0), (2, 14)], true) := by decide +kernel
theorem ok_of (l : List Rf) (h : l.all (fun x => decide (0 ≤ x.1) && decide (x.1 < 18446744073709551616) && (decide (0 ≤ x.2) && decide (x.2 < 18446744073709551616))) = true) : Ok l := fun x hx => by
  have := List.all_eq_true.1 h x hx
  simp only [Bool.and_eq_true, decide_eq_true_iff] at this
  exact ⟨⟨this.1.1, this.1.2⟩, ⟨this.2.1, this.2.2⟩⟩
set_option maxHeartbeats 3200000 in
set_option maxRecDepth 100000 in
/-- The chapter's rows. -/
theorem known_any (w : World) : Calls Try.prog 9 #[] w fun e w' => e = .returned (.bool true) ∧ Chg [] w w' := by
  have HA := Lib.hid (show ∀ W V, Rd W V [(5, 0)] → Calls Try.prog 23 #[V, .int .u64 3, .int .u64 10, .int .i64 2] W fun e w' => ∃ v', e = .returned (.tuple #[v', .bool true]) ∧ Mine W w' v' [(4, 0), (1, 13)] from fun W V h => by
    have := charge_any (now := 3) (per := 10) (most := 2) h (ok_of _ (by decide)) (by simp) ⟨by omega, by omega⟩ ⟨by omega, by omega⟩
    rw [charge_A] at this
    exact this)
  have HB := Lib.hid (show ∀ W V, Rd W V [(4, 0), (1, 13)] → Calls Try.prog 23 #[V, .int .u64 4, .int .u64 10, .int .i64 2] W fun e w' => ∃ v', e = .returned (.tuple #[v', .bool true]) ∧ Mine W w' v' [(3, 0), (2, 14)] from fun W V h => by
    have := charge_any (now := 4) (per := 10) (most := 2) h (ok_of _ (by decide)) (by simp) ⟨by omega, by omega⟩ ⟨by omega, by omega⟩
    rw [charge_B] at this
    exact this)
  have HN := Lib.hid (show newP 5 0 = [(5, 0)] from rfl)
  have HS1 := Lib.hid (show ∀ W V U, In W V [(4, 0), (1, 13)] → In W U [(4, 0), (1, 13)] → Calls Try.prog 21 #[V, U] W fun e w' => e = .returned (.bool true) ∧ Chg [] W w' from fun W V U h1 h2 => by
    have := same_any h1 h2 (by simp)
    rwa [decide_eq_true rfl] at this)
  have HS2 := Lib.hid (show ∀ W V U, In W V [(3, 0), (2, 14)] → In W U [(3, 0), (2, 14)] → Calls Try.prog 21 #[V, U] W fun e w' => e = .returned (.bool true) ∧ Chg [] W w' from fun W V U h1 h2 => by
    have := same_any h1 h2 (by simp)
    rwa [decide_eq_true rfl] at this)
  go_enter Try.func9, Try.ntmps9
  go_wp2_with (first
    | (go_at_call 20; refine (new_any _ _ _).mono ?_; rintro e w1 ⟨v1, rfl, h1⟩; rw [HN.out] at h1; obtain ⟨A1, c1, rfl⟩ := h1.rd.val (n := 1) rfl; have H1 := Lib.hid h1; clear h1)
    | (go_at_call 23; have q := HA.out _ _ H1.out.rd; (with_reducible refine q.mono ?_); rintro e w2 ⟨v2, rfl, h1⟩; obtain ⟨A2, c2, rfl⟩ := h1.1.val (n := 2) rfl; have H2 := Lib.hid h1; have H2' := Lib.hid (H1.out.2.2.then h1.2.2); clear h1 q)
    | (go_at_call 23; have q := HB.out _ _ H2.out.1; (with_reducible refine q.mono ?_); rintro e w3 ⟨v3, rfl, h1⟩; obtain ⟨A3, c3, rfl⟩ := h1.1.val (n := 2) rfl; have H3 := Lib.hid h1; have H3' := Lib.hid (H2'.out.then h1.2.2); clear h1 q)
    | (go_at_call 21; have q := HS1.out _ _ _ ((H2.out.1.quiet H3.out.2.2).inn.quiet ((Chg.refl [] _).alloc _)) (In.two w3 4 0 1 13); (with_reducible refine q.mono ?_); rintro e w4 ⟨rfl, h1⟩; have H4 := Lib.hid (((Chg.refl [] w3).alloc _).then h1); clear h1 q)
    | (go_at_call 21; have q := HS2.out _ _ _ ((H3.out.1.quiet H4.out).inn.quiet ((Chg.refl [] _).alloc _)) (In.two w4 3 0 2 14); (with_reducible refine q.mono ?_); rintro e w5 ⟨rfl, h1⟩; have H5 := Lib.hid (((Chg.refl [] w4).alloc _).then h1); clear h1 q))
  go_ret
  exact ⟨rfl, (H3'.out.then H4.out).then H5.out⟩
end Go.Proofs
