import Derived.Test.YtelkndhifkmpiaaHd
namespace Go.Proofs
open Go.RowKit
set_option linter.unusedVariables false

theorem len_nil (w : World) : Calls Try.prog 16 #[.pointer none] w fun e w' => e = .returned (.int .i64 0) ∧ w = w' := by
  go_enter Try.func16, Try.ntmps16
  go_wp2
  go_ret
  exact ⟨rfl, rfl⟩
theorem next_nil (w : World) : Calls Try.prog 21 #[.pointer none] w fun e w' => e = .returned (.tuple #[.int .u64 0, .bool false]) ∧ w = w' := by
  have H := len_nil w
  go_enter Try.func21, Try.ntmps21
  go_wp2_with (go_at_call 16; refine H.mono ?_; rintro e w' ⟨rfl, rfl⟩)
  go_ret2
  exact ⟨rfl, rfl⟩
theorem pop_nil (now : Int) (w : World) : Calls Try.prog 14 #[.pointer none, .int .u64 now] w fun e w' => e = .returned (.tuple #[.int .i64 0, .bool false]) ∧ w = w' := by
  have H := next_nil w
  go_enter Try.func14, Try.ntmps14
  go_wp2_with (go_at_call 21; refine H.mono ?_; rintro e w' ⟨rfl, rfl⟩)
  go_ret2
  exact ⟨rfl, rfl⟩
theorem has_nil_ (id : Int) (w : World) : Calls Try.prog 15 #[.pointer none, .int .i64 id] w fun e w' => e = .returned (.bool false) ∧ w = w' := by
  go_enter Try.func15, Try.ntmps15
  go_wp2
  go_ret
  exact ⟨rfl, rfl⟩
theorem put_nil (a id : Int) (w : World) : Calls Try.prog 17 #[.pointer none, .int .u64 a, .int .i64 id] w fun e w' => e = .returned (.int .i64 1) ∧ w = w' := by
  go_enter Try.func17, Try.ntmps17
  go_wp2
  go_ret
  exact ⟨rfl, rfl⟩
theorem remove_nil (id : Int) (w : World) : Calls Try.prog 22 #[.pointer none, .int .i64 id] w fun e w' => e = .returned (.bool false) ∧ w = w' := by
  have H := has_nil_ id w
  go_enter Try.func22, Try.ntmps22
  go_wp2_with (go_at_call 15; refine H.mono ?_; rintro e w' ⟨rfl, rfl⟩)
  go_ret
  exact ⟨rfl, rfl⟩
theorem all_nil (w : World) : Calls Try.prog 12 #[.pointer none] w fun e w' => e = .returned (.slice none 0 0) ∧ w = w' := by
  go_enter Try.func12, Try.ntmps12
  go_wp2
  go_ret
  exact ⟨rfl, rfl⟩
theorem copy_nil (w : World) : Calls Try.prog 18 #[.pointer none] w fun e w' => e = .returned (.pointer none) ∧ w = w' := by
  go_enter Try.func18, Try.ntmps18
  go_wp2
  go_ret
  exact ⟨rfl, rfl⟩
theorem Made.copy {w0 w : World} {g N : Nat} {l : List (Int × Int)} (H : Made w0 g l N w) (hN : N ≤ 100000) :
    Calls Try.prog 18 #[.pointer (some ⟨g, 0, none⟩)] w fun e w' => ∃ g', e = .returned (.pointer (some ⟨g', 0, none⟩)) ∧ Made w0 g' l N w' ∧ Made w0 g l N w' := by
  obtain ⟨S, K, p, h1, h2, h3, h4, h5⟩ := _root_.id H
  refine (copy_any h1 (by omega)).mono ?_
  rintro e w' ⟨g', S', q1, q2, q3, q4⟩
  exact ⟨g', q1, ⟨S', K, p, q2, h2, h3, fun k hk => Nat.le_trans h5.size (q3 k hk), h5.then q4⟩, H.quiet q4⟩
theorem same_nn (w : World) : Calls Try.prog 20 #[.pointer none, .pointer none] w fun e w' => e = .returned (.bool true) ∧ Chg [] w w' := by
  have := same_any (tells_nil w) (tells_nil w) (by simp) (by simp)
  rwa [decide_eq_true (Eq.refl _)] at this
theorem Made.same_n {w0 w : World} {g N : Nat} {l : List (Int × Int)} (H : Made w0 g l N w) (hN : N ≤ 100000) :
    Calls Try.prog 20 #[.pointer none, .pointer (some ⟨g, 0, none⟩)] w fun e w' => e = .returned (.bool (decide ([] = l))) ∧ Made w0 g l N w' :=
  (same_any (tells_nil w) (H.tells hN) (by simp) (by have := H.few; omega)).mono fun e w' ⟨h1, h2⟩ => ⟨h1, H.quiet h2⟩
theorem Made.n_same {w0 w : World} {g N : Nat} {l : List (Int × Int)} (H : Made w0 g l N w) (hN : N ≤ 100000) :
    Calls Try.prog 20 #[.pointer (some ⟨g, 0, none⟩), .pointer none] w fun e w' => e = .returned (.bool (decide (l = []))) ∧ Made w0 g l N w' :=
  (same_any (H.tells hN) (tells_nil w) (by have := H.few; omega) (by simp)).mono fun e w' ⟨h1, h2⟩ => ⟨h1, H.quiet h2⟩
theorem Made.zero (w : World) : Made w w.heap.size [] 0 (w.alloc (.cells #[.slice none 0 0, .map none, .int .u64 0] 55)) := Made.new w
theorem Made.older {w0 w1 w : World} {g N : Nat} {l : List (Int × Int)} (hc : Chg [] w0 w1) (H : Made w1 g l N w) : Made w0 g l N w := by
  obtain ⟨S, K, p, h1, h2, h3, h4, h5⟩ := H
  exact ⟨S, K, p, h1, h2, h3, fun k hk => Nat.le_trans hc.size (h4 k hk), hc.then h5⟩
set_option maxRecDepth 100000 in
set_option maxHeartbeats 6400000 in
theorem nil_any (w : World) : Calls Try.prog 7 #[] w fun e w' => e = .returned (.bool true) ∧ Chg [] w w' := by
  have M0 := Lib.hid (Made.zero w)
  have HN := fun g W (H : Made w g [] 0 W) => H.same_n (by omega)
  have HNw := fun W => new_made W
  have HS := fun g g2 W (H : Made w g [] 0 W) (H2 : Made W g2 [] 0 W) => same_any (H.tells (by omega)) (H2.tells (by omega)) (by simp) (by simp)
  have HS' : ∀ g W W1 g2, Made w g [] 0 W → Made W g2 [] 0 W1 → Calls Try.prog 20 #[.pointer (some ⟨g, 0, none⟩), .pointer (some ⟨g2, 0, none⟩)] W1 fun e w' => e = .returned (.bool true) ∧ Made w g [] 0 w' := fun g W W1 g2 H H2 => by
    have := same_any ((H.quiet H2.chg).tells (by omega)) (H2.tells (by omega)) (by simp) (by simp)
    rw [decide_eq_true (Eq.refl _)] at this
    exact this.mono fun e w' ⟨h1, h2⟩ => ⟨h1, (H.quiet H2.chg).quiet h2⟩
  have HP : ∀ g W, Made w g [] 0 W → Calls Try.prog 17 #[.pointer (some ⟨g, 0, none⟩), .int .u64 3, .int .i64 4] W fun e w' => e = .returned (.int .i64 0) ∧ Made w g [(3, 4)] 1 w' := fun g W H => by
    have := H.put (by omega) 3 (i64_small (x := 4) (by omega) (by omega)); simpa [putP, hasP, insP] using this
  have HH : ∀ g W, Made w g [(3, 4)] 1 W → Calls Try.prog 15 #[.pointer (some ⟨g, 0, none⟩), .int .i64 4] W fun e w' => e = .returned (.bool true) ∧ W = w' := fun g W H => by
    have := H.has (i64_small (x := 4) (by omega) (by omega)); simpa [hasP] using this
  have HSn : ∀ g W, Made w g [(3, 4)] 1 W → Calls Try.prog 20 #[.pointer (some ⟨g, 0, none⟩), .pointer none] W fun e w' => e = .returned (.bool false) ∧ Made w g [(3, 4)] 1 w' := fun g W H => by
    have := H.n_same (by omega); rwa [decide_eq_false (by simp)] at this
  have HC := fun g W (H : Made w g [(3, 4)] 1 W) => H.copy (by omega)
  have HLn : ∀ g W, Made w g [(3, 4)] 1 W → Calls Try.prog 16 #[.pointer (some ⟨g, 0, none⟩)] W fun e w' => e = .returned (.int .i64 1) ∧ W = w' := fun g W H => H.len
  have HR : ∀ g W, Made w g [(3, 4)] 1 W → Calls Try.prog 22 #[.pointer (some ⟨g, 0, none⟩), .int .i64 4] W fun e w' => e = .returned (.bool true) ∧ Made w g [] 1 w' := fun g W H => by
    have := H.remove (by omega) (i64_small (x := 4) (by omega) (by omega)); simpa [remP, hasP, cutP, idAt] using this
  have HR2 : ∀ g W, Made w g [] 1 W → Calls Try.prog 22 #[.pointer (some ⟨g, 0, none⟩), .int .i64 4] W fun e w' => e = .returned (.bool false) ∧ Made w g [] 1 w' := fun g W H => by
    have := H.remove (by omega) (i64_small (x := 4) (by omega) (by omega)); simpa [remP, hasP] using this
  have HSz : ∀ g W, Made w g [] 1 W → Calls Try.prog 20 #[.pointer (some ⟨g, 0, none⟩), .pointer none] W fun e w' => e = .returned (.bool true) ∧ Made w g [] 1 w' := fun g W H => by
    have := H.n_same (by omega); rwa [decide_eq_true (Eq.refl _)] at this
  have HSm : ∀ g W, Made w g [] 0 W → Calls Try.prog 20 #[.pointer none, .pointer (some ⟨g, 0, none⟩)] W fun e w' => e = .returned (.bool true) ∧ Made w g [] 0 w' := fun g W H => by
    have := H.same_n (by omega); rwa [decide_eq_true (Eq.refl _)] at this
  clear HN HS
  go_enter Try.func7, Try.ntmps7
  go_wp2_with (first
    | (go_at_call 14; refine (pop_nil _ _).mono ?_; rintro e w' ⟨rfl, rfl⟩)
    | (go_at_call 21; refine (next_nil _).mono ?_; rintro e w' ⟨rfl, rfl⟩)
    | (go_at_call 17; ((with_reducible refine (put_nil _ _ _).mono ?_); rintro e w' ⟨rfl, rfl⟩))
    | (go_at_call 22; ((with_reducible refine (remove_nil _ _).mono ?_); rintro e w' ⟨rfl, rfl⟩))
    | (go_at_call 15; ((with_reducible refine (has_nil_ _ _).mono ?_); rintro e w' ⟨rfl, rfl⟩))
    | (go_at_call 16; ((with_reducible refine (len_nil _).mono ?_); rintro e w' ⟨rfl, rfl⟩))
    | (go_at_call 12; refine (all_nil _).mono ?_; rintro e w' ⟨rfl, rfl⟩)
    | (go_at_call 18; ((with_reducible refine (copy_nil _).mono ?_); rintro e w' ⟨rfl, rfl⟩))
    | (go_at_call 20; ((with_reducible refine (same_nn _).mono ?_); rintro e w1 ⟨rfl, hc⟩); have M1 := Lib.hid (M0.out.quiet hc); clear hc)
    | (go_at_call 20; ((with_reducible refine (HSm _ _ M1.out).mono ?_); rintro e w2 ⟨rfl, hM⟩); have M2 := Lib.hid hM; clear hM)
    | (go_at_call 9; refine (HNw _).mono ?_; rintro e w3 ⟨g2, rfl, hM⟩; have N3 := Lib.hid hM; clear hM)
    | (go_at_call 20; ((with_reducible refine (HS' _ _ _ _ M2.out N3.out).mono ?_); rintro e w4 ⟨rfl, hM⟩); have M4 := Lib.hid hM; clear hM)
    | (go_at_call 17; ((with_reducible refine (HP _ _ M4.out).mono ?_); rintro e w5 ⟨rfl, hM⟩); have M5 := Lib.hid hM; clear hM)
    | (go_at_call 15; ((with_reducible refine (HH _ _ M5.out).mono ?_); rintro e w' ⟨rfl, rfl⟩))
    | (go_at_call 20; ((with_reducible refine (HSn _ _ M5.out).mono ?_); rintro e w6 ⟨rfl, hM⟩); have M6 := Lib.hid hM; clear hM)
    | (go_at_call 18; ((with_reducible refine (HC _ _ M6.out).mono ?_); rintro e w7 ⟨g3, rfl, hM3, hM⟩); have M7 := Lib.hid hM; have N7 := Lib.hid hM3; clear hM hM3)
    | (go_at_call 16; ((with_reducible refine (HLn _ _ N7.out).mono ?_); rintro e w' ⟨rfl, rfl⟩))
    | (go_at_call 22; ((with_reducible refine (HR _ _ M7.out).mono ?_); rintro e w8 ⟨rfl, hM⟩); have M8 := Lib.hid hM; clear hM)
    | (go_at_call 22; ((with_reducible refine (HR2 _ _ M8.out).mono ?_); rintro e w9 ⟨rfl, hM⟩); have M9 := Lib.hid hM; clear hM)
    | (go_at_call 20; ((with_reducible refine (HSz _ _ M9.out).mono ?_); rintro e w10 ⟨rfl, hM⟩); have M10 := Lib.hid hM; clear hM)
    | (go_at_call 8; refine (known_any _).mono ?_; rintro e w11 ⟨rfl, hc⟩; have HC11 := Lib.hid hc; clear hc))
  go_ret
  exact ⟨rfl, M10.out.chg.then HC11.out⟩
end Go.Proofs
