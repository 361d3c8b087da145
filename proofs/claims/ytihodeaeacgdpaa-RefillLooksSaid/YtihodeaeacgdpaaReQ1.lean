import Derived.Test.YtihodeaeacgdpaaReQ
namespace Go.Proofs
open Go.RowKit
set_option linter.unusedVariables false

set_option maxHeartbeats 3200000 in
set_option maxRecDepth 100000 in
theorem rch_1 {w : World} {b o n c : Nat} {now per most at_ T t xt : Int} {r : List Rf}
    (hadd : ∀ W, Calls Try.prog 30 #[.int .u64 now, .int .u64 per] W fun e w' => e = .returned (.tuple #[.int .u64 at_, .bool true]) ∧ W = w')
    (hmy : Calls Try.prog 16 #[.slice (some ⟨b, o, none⟩) n c] w fun e w' => e = .returned (.bool true) ∧ Chg [] w w')
    (HX9 : Hid (∀ W, Chg [] w W → W.cell? ⟨b, o + 1, none⟩ = some (.int .u64 xt)))
    (HDU : Hid (∀ W, Chg [] w W → Calls Try.prog 22 #[.slice (some ⟨b, o, none⟩) n c, .int .u64 now] W fun e w' => ∃ v', e = .returned v' ∧ Own W w' v' ((T, t) :: r)))
    (HRN : Hid (r.length + 1 ≤ 100000)) (g1 : decide (most < 1) = false) (g2 : decide ((n : Int) > most) = false) (g2' : decide (most < (n : Int)) = false) (g3 : (per == 0) = false) (g4 : ((n : Int) == 0) = false) (g5 : (0 : Int) < (n : Int))
    (g6 : decide (xt > now) = false) (g6' : decide (now < xt) = false) (k1 : IntKind.u64.wrap (T - 1) = T - 1)
    (hT : T = 1) (hr : r = []) :
    Calls Try.prog 24 #[.slice (some ⟨b, o, none⟩) n c, .int .u64 now, .int .u64 per, .int .i64 most] w fun e w' => ∃ v', e = .returned (.tuple #[v', .bool true]) ∧ Mine w w' v' ([(1, at_)]) := by
  have m0 : (T - 1 == 0) = true := by simp; omega
  subst hr
  clear hT
  go_enter Try.func24, Try.ntmps24
  go_wp2_with (first
    | (go_at_call 30; refine (hadd _).mono ?_; rintro e w0 ⟨rfl, rfl⟩)
    | (go_at_call 16; refine hmy.mono ?_; rintro e w1 ⟨rfl, h1⟩; have x9 := HX9.out _ h1; have H1 := Lib.hid h1; clear h1)
    | (go_at_call 22; refine (HDU.out _ H1.out).mono ?_; rintro e w3 ⟨v3, rfl, h1⟩; obtain ⟨g, cap, rfl, hcap, lg, hfz, y0, y1, yl, hM⟩ := due_mem (h1.before H1.out); simp only [List.length_nil, Nat.zero_add] at hcap hM ⊢; have q2 : (1 : Int) ≤ (cap : Int) := (by omega); have f0 := hfz 0; have H3 := Lib.hid hM; have HW3 := Lib.hid (h1.before H1.out).2.2; clear h1 hfz hM yl))
  all_goals
    go_ret2
    have hS : (w3.setCell ⟨g, 0, none⟩ (.int .u64 (T - 1))).heap.size = w3.heap.size := by simp [World.setCell]
    have hO := (Ro.one (w3.setCell ⟨g, 0, none⟩ (.int .u64 (T - 1))) 1 at_).rd
    rw [hS] at hO
    exact ⟨_, rfl, ⟨hO, (fun k hk => by have := HW3.out.size; simp [foot_some] at hk; omega), (H3.out _).2.2.alloc _⟩⟩
end Go.Proofs
