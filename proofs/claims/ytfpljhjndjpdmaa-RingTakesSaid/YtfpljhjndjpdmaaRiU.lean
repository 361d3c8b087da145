import Derived.Test.YtfpljhjndjpdmaaRiP
namespace Go.Proofs
open Go.RowKit
set_option linter.unusedVariables false

theorem Made.step {w w1 w2 : World} {g h M : Nat} {L L' : List Int} (H : Made M L g h w w1) (hR : RingAt w2 g h M L') (hc : Chg [g, h] w1 w2) : Made M L' g h w w2 := by
  obtain ⟨_, h1, h2, h3⟩ := H
  exact ⟨hR, h1, h2, h3.trans hc (fun k hk => .inr (by simp at hk; rcases hk with rfl | rfl <;> assumption))⟩
theorem Made.later {w w1 w2 : World} {g h M : Nat} {L : List Int} (H : Made M L g h w w1) (hc : Chg [] w1 w2) : Made M L g h w w2 := by
  obtain ⟨h0, h1, h2, h3⟩ := H
  exact ⟨h0.quiet hc, h1, h2, h3.then hc⟩
theorem Made.ring {w w1 : World} {g h M : Nat} {L : List Int} (H : Made M L g h w w1) : RingAt w1 g h M L := H.1
theorem Rd.two (w : World) (x y : Int) : Rd (w.alloc (.cells #[.int .i64 x, .int .i64 y] 3)) (.slice (some ⟨w.heap.size, 0, none⟩) 2 2) [x, y] :=
  ⟨_, 2, rfl, by simp, by unfold maxLen; omega, fun h => (by cases h), fun a ha => by
    cases ha
    refine ⟨_, 0, _, rfl, Blk.new w 3 _, by simp, fun j z hj => ?_⟩
    match j, hj with
    | 0, hj => simp at hj; simp [hj]
    | 1, hj => simp at hj; simp [hj]⟩
set_option maxRecDepth 100000 in
set_option maxHeartbeats 3200000 in
theorem known_any (w : World) : Calls Try.prog 9 #[] w fun e w' => e = .returned (.bool true) ∧ Chg [] w w' := by
  have hnew : Calls Try.prog 8 #[.int .i64 2] w fun e w' => ∃ g h, e = .returned (.tuple #[.pointer (some ⟨g, 0, none⟩), .int .i64 0]) ∧ Made 2 [] g h w w' := new_ok 2 w (by omega) (by omega)
  have HA : ∀ g h W, RingAt W g h 2 [] → Calls Try.prog 12 #[.pointer (some ⟨g, 0, none⟩), .int .i64 5] W fun e w' => e = .returned (.int .i64 0) ∧ RingAt w' g h 2 [5] ∧ Chg [g, h] W w' := fun g h W H => push_room H 5 (by simp)
  have HB : ∀ g h W, RingAt W g h 2 [5] → Calls Try.prog 12 #[.pointer (some ⟨g, 0, none⟩), .int .i64 6] W fun e w' => e = .returned (.int .i64 0) ∧ RingAt w' g h 2 [5, 6] ∧ Chg [g, h] W w' := fun g h W H => push_room H 6 (by simp)
  have HC := fun g h W (H : RingAt W g h 2 [5, 6]) => push_full H 7 (by simp)
  have HD := fun g h W (H : RingAt W g h 2 [5, 6]) => pop_some H
  have HE : ∀ g h W, RingAt W g h 2 [6] → Calls Try.prog 12 #[.pointer (some ⟨g, 0, none⟩), .int .i64 7] W fun e w' => e = .returned (.int .i64 0) ∧ RingAt w' g h 2 [6, 7] ∧ Chg [g, h] W w' := fun g h W H => push_room H 7 (by simp)
  have HF := fun g h W (H : RingAt W g h 2 [6, 7]) => all_of (by simp) H.has
  have HG := fun W v1 v2 (h1 : Rd W v1 [6, 7]) (h2 : Rd W v2 [6, 7]) => rsame_any h1 h2 (by simp) (by simp)
  rw [beq_self_eq_true] at HG
  go_enter Try.func9, Try.ntmps9
  go_wp2_with (first
    | (go_at_call 8; refine hnew.mono ?_; rintro e w1 ⟨g, h, rfl, hM⟩; have M0 := Lib.hid hM; clear hM)
    | (go_at_call 12; ((with_reducible refine (HA _ _ _ M0.out.ring).mono ?_); rintro e w2 ⟨rfl, hR, hc⟩); have M1 := Lib.hid (M0.out.step hR hc); clear hR hc)
    | (go_at_call 12; ((with_reducible refine (HB _ _ _ M1.out.ring).mono ?_); rintro e w3 ⟨rfl, hR, hc⟩); have M2 := Lib.hid (M1.out.step hR hc); clear hR hc)
    | (go_at_call 12; ((with_reducible refine (HC _ _ _ M2.out.ring).mono ?_); rintro e w4 ⟨rfl, hc⟩); have M3 := Lib.hid (M2.out.later hc); clear hc)
    | (go_at_call 13; ((with_reducible refine (HD _ _ _ M3.out.ring).mono ?_); rintro e w5 ⟨rfl, hR, hc⟩); have M4 := Lib.hid (M3.out.step hR hc); clear hR hc)
    | (go_at_call 12; ((with_reducible refine (HE _ _ _ M4.out.ring).mono ?_); rintro e w6 ⟨rfl, hR, hc⟩); have M5 := Lib.hid (M4.out.step hR hc); clear hR hc)
    | (go_at_call 22; refine (HF _ _ _ M5.out.ring).mono ?_; rintro e w7 ⟨v, rfl, hf⟩; have FF := Lib.hid hf; clear hf)
    | (go_at_call 16; refine (HG _ _ _ (FF.out.rd.quiet ((Chg.refl _ _).alloc _)) (Rd.two _ 6 7)).mono ?_; rintro e w8 ⟨rfl, hc⟩; have HC8 := Lib.hid hc; clear hc))
  go_ret
  exact ⟨rfl, ((M5.out.2.2.2.then FF.out.2.2).alloc _).then HC8.out⟩
end Go.Proofs
