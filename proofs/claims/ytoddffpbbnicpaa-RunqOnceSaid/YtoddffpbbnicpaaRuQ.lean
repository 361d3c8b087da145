import Derived.Test.YtoddffpbbnicpaaRuP
namespace Go.Proofs
open Go.RowKit
set_option linter.unusedVariables false

/-- A new queue, in new blocks. -/
def QMade (M : Nat) (L : List Int) (N : Option Int) (q g h : Nat) (w w' : World) : Prop :=
  QueueAt w' q g h M L N ∧ (∀ k ∈ [q, g, h], w.heap.size ≤ k) ∧ Chg [] w w'
theorem Made.queue {M : Nat} {L : List Int} {g h : Nat} {w w1 : World} (H : Made M L g h w w1) (N : Option Int) (h2 : 2 ≤ M) :
    QMade M L N w1.heap.size g h w (w1.alloc (.cells #[.pointer (some ⟨g, 0, none⟩), .int .i64 (N.getD 0), .bool N.isSome] 61)) := by
  obtain ⟨m1, m2, m3, m4⟩ := H
  refine ⟨⟨Blk.new w1 61 _, m1.quiet ((Chg.refl _ _).alloc _), h2⟩, fun k hk => ?_, m4.alloc _⟩
  simp at hk
  have := m4.size
  rcases hk with rfl | rfl | rfl <;> omega
theorem qnew_low (M : Int) (w : World) (h : M < 2) :
    Calls Try.prog 9 #[.int .i64 M] w fun e w' => e = .returned (.tuple #[.pointer none, .int .i64 2]) ∧ w = w' := by
  go_enter Try.func9, Try.ntmps9
  go_wp2
  go_ret2
  exact ⟨rfl, rfl⟩
theorem qnew_high (M : Int) (w : World) (h : 4096 < M) :
    Calls Try.prog 9 #[.int .i64 M] w fun e w' => e = .returned (.tuple #[.pointer none, .int .i64 2]) ∧ w = w' := by
  have hn := new_no M w (.inr h)
  have h2 : ¬ M < 2 := by omega
  go_enter Try.func9, Try.ntmps9
  go_wp2_with (go_at_call 30; refine hn.mono ?_; rintro e w' ⟨rfl, rfl⟩)
  go_ret2
  exact ⟨rfl, rfl⟩
theorem qnew_no (M : Int) (w : World) (h : M < 2 ∨ 4096 < M) :
    Calls Try.prog 9 #[.int .i64 M] w fun e w' => e = .returned (.tuple #[.pointer none, .int .i64 2]) ∧ w = w' := by
  rcases h with h | h
  · exact qnew_low M w h
  · exact qnew_high M w h
theorem qnew_ok (M : Nat) (w : World) (h0 : 2 ≤ M) (h1 : M ≤ 4096) :
    Calls Try.prog 9 #[.int .i64 (M : Nat)] w fun e w' => ∃ q g h, e = .returned (.tuple #[.pointer (some ⟨q, 0, none⟩), .int .i64 0]) ∧ QMade M [] none q g h w w' := by
  have hn := new_ok M w (by omega) h1
  have h2 : ¬ (M : Int) < 2 := by omega
  go_enter Try.func9, Try.ntmps9
  go_wp2_with (go_at_call 30; refine hn.mono ?_; rintro e w1 ⟨g, h, rfl, hm⟩; have HM := Lib.hid hm; clear hm)
  go_ret2
  exact ⟨_, g, h, rfl, HM.out.queue none h0⟩
section
variable {w : World} {q g h M : Nat} {L : List Int} {N : Option Int}
set_option maxHeartbeats 1600000 in
theorem qcopy_any (H : QueueAt w q g h M L N) :
    Calls Try.prog 26 #[.pointer (some ⟨q, 0, none⟩)] w fun e w' => ∃ q' g' h', e = .returned (.pointer (some ⟨q', 0, none⟩)) ∧ QMade M L N q' g' h' w w' := by
  obtain ⟨c0, c1, c2⟩ := H.cells w (Chg.refl _ _)
  have HC := Lib.hid H.cells
  have hr := copy_any (H.ring.quiet (Chg.refl _ _).drew)
  have h2 := H.2.2
  have HA := Lib.hid (fun w1 g' h' (hm : Made M L g' h' w.drew w1) => hm.queue N h2)
  obtain ⟨a, ha⟩ : ∃ a, a = N.getD 0 := ⟨_, rfl⟩
  obtain ⟨b, hb⟩ : ∃ b, b = N.isSome := ⟨_, rfl⟩
  rw [← ha] at c1 HC HA
  rw [← hb] at c2 HC HA
  clear H ha hb
  go_enter Try.func26, Try.ntmps26
  go_wp2
  go_region_held3 (fun w' => w'.cell? ⟨q, 0, none⟩ = some (.pointer (some ⟨g, 0, none⟩)) ∧ w'.cell? ⟨q, 1, none⟩ = some (.int .i64 a) ∧ w'.cell? ⟨q, 2, none⟩ = some (.bool b))
    (first | go_keep)
    (first
      | (go_at_call 53; refine hr.mono ?_; rintro e w1 ⟨g', h', rfl, hm⟩; obtain ⟨k0, k1, k2⟩ := HC.out w1 ((Chg.refl _ _).drew.then hm.2.2.2); have HM := Lib.hid hm; clear hm))
  all_goals
    go_wp2
    go_ret
    have hf := HA.out _ _ _ HM.out
    exact ⟨_, g', h', rfl, hf.1, hf.2.1, (Chg.refl [] w).drew.then hf.2.2⟩
variable {q2 g2 h2 : Nat} {K : List Int} {J : Option Int}
set_option maxHeartbeats 3200000 in
theorem qsame_any (H : QueueAt w q g h M L N) (H2 : QueueAt w q2 g2 h2 M K J) :
    Calls Try.prog 28 #[.pointer (some ⟨q, 0, none⟩), .pointer (some ⟨q2, 0, none⟩)] w fun e w' => e = .returned (.bool (decide (N = J) && (L == K))) ∧ Chg [] w w' := by
  have hn := none_any H
  have hn2 := none_any H2
  obtain ⟨c0, c1, c2⟩ := H.cells w (Chg.refl _ _)
  obtain ⟨d0, d1, d2⟩ := H2.cells w (Chg.refl _ _)
  have HC := Lib.hid H.cells
  have HD := Lib.hid H2.cells
  have hs := H.small
  have hs2 := H2.small
  have hr := fun W (hW : Chg [] w W) => same_yes (by omega) (by omega) (H.ring.has.quiet hW) (H2.ring.has.quiet hW) (H.ring.quiet hW).room (H2.ring.quiet hW).room
  have heq := fun W => eql_seat (N.getD 0) (J.getD 0) N.isSome J.isSome W
  have hse : (N.getD 0 == J.getD 0 && N.isSome == J.isSome) = decide (N = J) := by
    cases N <;> cases J <;> simp [Bool.beq_eq_decide_eq]
  simp only [hse] at heq
  obtain ⟨a, ha⟩ : ∃ a, a = N.getD 0 := ⟨_, rfl⟩
  obtain ⟨b, hb⟩ : ∃ b, b = N.isSome := ⟨_, rfl⟩
  obtain ⟨a2, ha2⟩ : ∃ a, a = J.getD 0 := ⟨_, rfl⟩
  obtain ⟨b2, hb2⟩ : ∃ b, b = J.isSome := ⟨_, rfl⟩
  rw [← ha] at c1 HC
  rw [← hb] at c2 HC
  rw [← ha2] at d1 HD
  rw [← hb2] at d2 HD
  simp only [← ha, ← hb, ← ha2, ← hb2] at heq
  obtain ⟨R, hR⟩ : ∃ R, R = (L == K) := ⟨_, rfl⟩
  rw [← hR] at hr ⊢
  clear H H2 ha hb ha2 hb2 hs hs2 hR hse
  by_cases hx : N = J
  · simp only [hx, decide_true, Bool.true_and] at heq ⊢
    clear hx
    go_enter Try.func28, Try.ntmps28
    go_wp2_with (first
      | (go_at_call 37; ((with_reducible refine hn.mono ?_); rintro e w' ⟨rfl, rfl⟩))
      | (go_at_call 37; ((with_reducible refine hn2.mono ?_); rintro e w' ⟨rfl, rfl⟩)))
    go_region_held3 (fun w' => w'.cell? ⟨q, 0, none⟩ = some (.pointer (some ⟨g, 0, none⟩)) ∧ w'.cell? ⟨q, 1, none⟩ = some (.int .i64 a) ∧ w'.cell? ⟨q, 2, none⟩ = some (.bool b) ∧ w'.cell? ⟨q2, 0, none⟩ = some (.pointer (some ⟨g2, 0, none⟩)) ∧ w'.cell? ⟨q2, 1, none⟩ = some (.int .i64 a2) ∧ w'.cell? ⟨q2, 2, none⟩ = some (.bool b2))
      (first | go_keep)
      (first
        | (go_at_call 54; refine (hr _ (Chg.refl _ _).drew).mono ?_; rintro e w1 ⟨rfl, hc⟩; have hcc := (Chg.refl [] w).drew.then hc; obtain ⟨k0, k1, k2⟩ := HC.out w1 hcc; obtain ⟨j0, j1, j2⟩ := HD.out w1 hcc; have H9 := Lib.hid hcc; clear hc hcc))
    all_goals
      go_wp2
      go_ret
      exact ⟨rfl, H9.out⟩
  · simp only [hx, decide_false, Bool.false_and] at heq ⊢
    clear hx
    go_enter Try.func28, Try.ntmps28
    go_wp2_with (first
      | (go_at_call 37; ((with_reducible refine hn.mono ?_); rintro e w' ⟨rfl, rfl⟩))
      | (go_at_call 37; ((with_reducible refine hn2.mono ?_); rintro e w' ⟨rfl, rfl⟩)))
    go_quiet (fail)
    go_wp2
    go_ret
    exact ⟨rfl, (Chg.refl _ _).drewN _⟩
end
end Go.Proofs
