import Derived.Test.YtgdjagbkpdndgaaGaV
namespace Go.Proofs
open Go.RowKit
set_option linter.unusedVariables false

theorem remove_nil (g : Int) (w : World) : Calls Try.prog 23 #[.pointer none, .int .i64 g] w fun e w' => e = .returned (.bool false) ∧ Chg [] w w' := by
  have hmr := number_any g w
  have hfd := fun W c (hM : ∀ W', Chg [] W W' → ∀ x : Int, Calls Try.prog 42 #[.int .i64 x, c] W' fun e w' => e = .returned (.bool (x == g)) ∧ ∃ q, w' = W'.drewN q) => (find_num (rowed_nil W) c (fun x => x == g) hM).mono (R' := fun e w' => e = .returned (.pointer none) ∧ Chg [] W w') (fun e w' ⟨h1, h2⟩ => ⟨h1.is (.inr ⟨by simp, rfl⟩), h2⟩)
  go_enter Try.func23, Try.ntmps23
  go_wp2_with (first
    | (go_at_call 37; refine hmr.mono ?_; rintro e w1 ⟨c, rfl, hc, hM⟩; have HM := Lib.hid hM; have HC := Lib.hid hc; clear hM hc)
    | (go_at_call 33; refine (hfd _ _ HM.out).mono ?_; rintro e w2 ⟨rfl, hc2⟩; have HC2 := Lib.hid (HC.out.then hc2); clear hc2))
  go_ret
  exact ⟨rfl, HC2.out⟩
theorem Bs.two (w : World) : Bs (w.alloc (.cells #[.int .u8 1, .int .u8 1] 5)) (.slice (some ⟨w.heap.size, 0, none⟩) 2 2) [1, 1] :=
  ⟨_, 2, rfl, fun k x hk => by
    refine ⟨_, 0, rfl, by simp, ?_⟩
    match k, hk with
    | 0, hk => simp at hk; subst hk; exact ⟨by omega, by omega, by simp⟩
    | 1, hk => simp at hk; subst hk; exact ⟨by omega, by omega, by simp⟩⟩
theorem ahd_nil (f : Int → Bool) (g : Int) : ahd f g [] = (0, false) := by unfold ahd; rw [if_neg (by simp)]
set_option maxRecDepth 100000 in
set_option maxHeartbeats 12800000 in
theorem nil_any (w : World) : Calls Try.prog 7 #[] w fun e w' => e = .returned (.bool true) ∧ Chg [] w w' := by
  have HT : ∀ W : World, Calls Try.prog 15 #[.pointer none, .int .i64 0, .slice (some ⟨W.heap.size, 0, none⟩) 2 2] (W.alloc (.cells #[.int .u8 1, .int .u8 1] 5)) fun e w' => e = .returned (.tuple #[.int .i64 0, .bool false]) ∧ Chg [] W w' := fun W =>
    (take_nil (Bs.two W) 0).mono fun e w' ⟨h1, h2⟩ => ⟨h1, ((Chg.refl _ _).alloc _).then h2⟩
  have HA : ∀ W : World, Calls Try.prog 14 #[.pointer none, .int .i64 1, .int .i64 0, .slice (some ⟨W.heap.size, 0, none⟩) 2 2] (W.alloc (.cells #[.int .u8 1, .int .u8 1] 5)) fun e w' => e = .returned (.tuple #[.int .i64 0, .bool false]) ∧ Chg [] W w' := fun W =>
    (ahead_any (rowed_nil _) (by simp) (Bs.two W) 1 0).mono fun e w' ⟨h1, h2⟩ => ⟨by rw [h1, show nu [] = [] from rfl, ahd_nil], ((Chg.refl _ _).alloc _).then h2⟩
  have HP : ∀ q W, Made [] q w W → Calls Try.prog 22 #[.pointer (some ⟨q, 0, none⟩), .slice (some ⟨W.heap.size, 0, none⟩) 2 2] (W.alloc (.cells #[.int .i64 1, .int .i64 0] 3)) fun e w' => e = .returned (.tuple #[]) ∧ Made [1, 0] q w w' := fun q W H => (H.later ((Chg.refl _ _).alloc _)).put (Rd.two W 1 0) (by simp)
  have HB : ∀ q W, Made [1, 0] q w W → Calls Try.prog 15 #[.pointer (some ⟨q, 0, none⟩), .int .i64 0, .slice (some ⟨W.heap.size, 0, none⟩) 2 2] (W.alloc (.cells #[.int .u8 1, .int .u8 1] 5)) fun e w' => e = .returned (.tuple #[.int .i64 1, .bool true]) ∧ Made [0] q w w' := fun q W H => by
    have := (H.later ((Chg.refl _ _).alloc (.cells #[.int .u8 1, .int .u8 1] 5))).take (by simp) (Bs.two W) 0
    rw [show tkV (mayP [1, 1] 0) [1, 0] = 1 by decide +kernel, show tkB (mayP [1, 1] 0) [1, 0] = true by decide +kernel, show tkL (mayP [1, 1] 0) [1, 0] = [0] by decide +kernel] at this
    exact this
  have HH : ∀ W : World, Calls Try.prog 24 #[.pointer none, .int .i64 1] W fun e w' => e = .returned (.bool false) ∧ Chg [] W w' := fun W => has_q (rowed_nil W) 1
  have HL : ∀ W : World, Calls Try.prog 20 #[.pointer none] W fun e w' => (∃ A c, e = .returned (.slice A 0 c)) ∧ Chg [] W w' := fun W => (all_any (rowed_nil W) (by simp)).mono fun e w' ⟨v, h1, h2⟩ => ⟨by
    obtain ⟨A, c, rfl, _⟩ := h2.1.val
    exact ⟨A, c, h1⟩, h2.2.2⟩
  have HN : ∀ W : World, Calls Try.prog 10 #[] W fun e w' => ∃ n, e = .returned (.pointer (some ⟨n, 0, none⟩)) ∧ QAt w' n [] ∧ Chg [] W w' := fun W => (new_any W).mono fun e w' ⟨h1, h2⟩ => ⟨_, h1, by rw [h2]; exact QAt.new W, by rw [h2]; exact (Chg.refl _ _).alloc _⟩
  have HS : ∀ (W : World) n, QAt W n [] → Calls Try.prog 18 #[.pointer none, .pointer (some ⟨n, 0, none⟩)] W fun e w' => e = .returned (.bool true) ∧ Chg [] W w' := fun W n H => (same_any (rowed_nil W) H.rowed (by simp) (by simp))
  have HZ : ∀ q W, Made [0] q w W → Calls Try.prog 21 #[.pointer (some ⟨q, 0, none⟩)] W fun e w' => e = .returned (.int .i64 1) ∧ W = w' := fun q W H => H.len
  go_enter Try.func7, Try.ntmps7
  go_wp2_with (first
    | (go_at_call 22; ((with_reducible refine (put_nil _ _).mono ?_); rintro e w1 ⟨rfl, hw1⟩); have M0 := Lib.hid (show Made [] w.heap.size w w1 by rw [hw1]; exact (made_new w).later ((Chg.refl _ _).alloc _)); clear hw1)
    | (go_at_call 15; ((with_reducible refine (HT _).mono ?_); rintro e w2 ⟨rfl, hc⟩); have M1 := Lib.hid (M0.out.later hc); clear hc)
    | (go_at_call 14; ((with_reducible refine (HA _).mono ?_); rintro e w3 ⟨rfl, hc⟩); have M2 := Lib.hid (M1.out.later hc); clear hc)
    | (go_at_call 22; ((with_reducible refine (HP _ _ M2.out).mono ?_); rintro e w4 ⟨rfl, hM⟩); have M3 := Lib.hid hM; clear hM)
    | (go_at_call 15; ((with_reducible refine (HB _ _ M3.out).mono ?_); rintro e w5 ⟨rfl, hM⟩); have M4 := Lib.hid hM; clear hM)
    | (go_at_call 23; ((with_reducible refine (remove_nil _ _).mono ?_); rintro e w6 ⟨rfl, hc⟩); have M5 := Lib.hid (M4.out.later hc); clear hc)
    | (go_at_call 24; ((with_reducible refine (HH _).mono ?_); rintro e w7 ⟨rfl, hc⟩); have M6 := Lib.hid (M5.out.later hc); clear hc)
    | (go_at_call 21; ((with_reducible refine (len_nil _).mono ?_); rintro e w' ⟨rfl, rfl⟩))
    | (go_at_call 20; ((with_reducible refine (HL _).mono ?_); rintro e w8 ⟨⟨A8, c8, rfl⟩, hc⟩); have M7 := Lib.hid (M6.out.later hc); clear hc)
    | (go_at_call 16; ((with_reducible refine (copy_nil _).mono ?_); rintro e w' ⟨rfl, rfl⟩))
    | (go_at_call 10; ((with_reducible refine (HN _).mono ?_); rintro e w9 ⟨nq, rfl, hq, hc⟩); have M8 := Lib.hid (M7.out.later hc); have HQ := Lib.hid hq; clear hc hq)
    | (go_at_call 18; ((with_reducible refine (HS _ _ HQ.out).mono ?_); rintro e w10 ⟨rfl, hc⟩); have M9 := Lib.hid (M8.out.later hc); clear hc)
    | (go_at_call 21; ((with_reducible refine (HZ _ _ M9.out).mono ?_); rintro e w' ⟨rfl, rfl⟩))
    | (go_at_call 9; ((with_reducible refine (known_any _).mono ?_); rintro e w11 ⟨rfl, hc⟩); have M10 := Lib.hid (M9.out.later hc); clear hc))
  go_ret
  exact ⟨rfl, M10.out.chg⟩
end Go.Proofs
