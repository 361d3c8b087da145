import Derived.Test.YtihodeaeacgdpaaReQ
namespace Go.Proofs
open Go.RowKit
set_option linter.unusedVariables false

set_option maxHeartbeats 3200000 in
set_option maxRecDepth 100000 in
theorem rch_5 {w : World} {b o n c : Nat} {now per most at_ T t xt : Int} {r : List Rf}
    (hadd : ∀ W, Calls Try.prog 30 #[.int .u64 now, .int .u64 per] W fun e w' => e = .returned (.tuple #[.int .u64 at_, .bool true]) ∧ W = w')
    (hmy : Calls Try.prog 16 #[.slice (some ⟨b, o, none⟩) n c] w fun e w' => e = .returned (.bool true) ∧ Chg [] w w')
    (HX9 : Hid (∀ W, Chg [] w W → W.cell? ⟨b, o + 1, none⟩ = some (.int .u64 xt)))
    (HDU : Hid (∀ W, Chg [] w W → Calls Try.prog 22 #[.slice (some ⟨b, o, none⟩) n c, .int .u64 now] W fun e w' => ∃ v', e = .returned v' ∧ Own W w' v' ((T, t) :: r)))
    (HRN : Hid (r.length + 1 ≤ 100000)) (g1 : decide (most < 1) = false) (g2 : decide ((n : Int) > most) = false) (g2' : decide (most < (n : Int)) = false) (g3 : (per == 0) = false) (g4 : ((n : Int) == 0) = false) (g5 : (0 : Int) < (n : Int))
    (g6 : decide (xt > now) = false) (g6' : decide (now < xt) = false) (k1 : IntKind.u64.wrap (T - 1) = T - 1)
    {N p : Nat} {x2 : Rf} (hT : T ≠ 1) (hN : N = r.length + 1) (hp : p = r.length) (hlast : ((T - 1, t) :: r)[p]? = some x2) (m5 : IntKind.u64.wrap (x2.1 + 1) = x2.1 + 1) (hlt : x2.2 < at_) (hrm : (N : Int) < most) :
    Calls Try.prog 24 #[.slice (some ⟨b, o, none⟩) n c, .int .u64 now, .int .u64 per, .int .i64 most] w fun e w' => ∃ v', e = .returned (.tuple #[v', .bool true]) ∧ Mine w w' v' (((T - 1, t) :: r) ++ [(1, at_)]) := by
  have m0 : (T - 1 == 0) = false := by simp; omega
  have HL := Lib.hid hlast
  have HNR := Lib.hid (show N = r.length + 1 ∧ p = r.length from ⟨hN, hp⟩)
  have m1 : IntKind.i64.wrap ((N : Int) - 1) = (p : Int) := by have := HRN.out; rw [IntWalk.i64_in _ (by omega)]; omega
  have m2 : (0 : Int) ≤ (p : Int) := by omega
  have m3 : (p : Int) < (N : Int) := by omega
  have m4 : ((N : Int) == 0) = false := by simp; omega
  have j0 : decide (x2.2 ≥ at_) = false := by simp; omega
  have j1 : decide (at_ ≤ x2.2) = false := by simp; omega
  have j2 : decide ((N : Int) < most) = true := by simpa using hrm
  clear hT hN hp hlast hlt hrm
  go_enter Try.func24, Try.ntmps24
  go_wp2_with (first
    | (go_at_call 30; refine (hadd _).mono ?_; rintro e w0 ⟨rfl, rfl⟩)
    | (go_at_call 16; refine hmy.mono ?_; rintro e w1 ⟨rfl, h1⟩; have x9 := HX9.out _ h1; have H1 := Lib.hid h1; clear h1)
    | (go_at_call 22; refine (HDU.out _ H1.out).mono ?_; rintro e w3 ⟨v3, rfl, h1⟩; obtain ⟨g, cap, rfl, hcap, lg, hfz, y0, y1, yl, hM⟩ := due_mem (h1.before H1.out); rw [← HNR.out.1] at hcap hM ⊢; have q0 : (0 : Int) < (N : Int) := (by have := HNR.out; omega); have HM2 := Lib.hid (hM (T - 1)); obtain ⟨b2, o2, c2, hv2, _, _, _, hc2⟩ := HM2.out.1.form (by simp); simp only [Value.slice.injEq, Option.some.injEq, Addr.mk.injEq, and_true] at hv2; obtain ⟨⟨rfl, rfl⟩, hz9, rfl⟩ := hv2; clear hz9; obtain ⟨z0, z1⟩ := hc2 _ _ HL.out; clear hc2; rw [Nat.zero_add] at z0 z1; have f1 := hfz (p * 2); have f2 := hfz (p * 2 + 1); clear hcap; have f0 := hfz 0; have H3 := Lib.hid hM; have HW3 := Lib.hid (h1.before H1.out).2.2; clear h1 hfz hM yl)
    | (at_builtin; go_loud (refine wpList_append_any (xs := ((T - 1, t) :: r)) (l := [(1, at_)]) (N := N + 1) _ rfl _ _ rfl (by rfl) (by rfl) ((HM2.out).1.quiet ((Chg.refl [] _).alloc (.cells #[.int .u64 1, .int .u64 at_] 35))) (Rs.one (x := (1, at_)) (Blk.at _ 35 _ (by simp))) (by simp) (by have := HRN.out; simp; omega) (by have := HNR.out; simp; omega) ?_; intro A6 c6 w6 hr6 hg6 hf6; have H7 := Lib.hid (((HM2.out).later ((Chg.refl [] _).alloc (.cells #[.int .u64 1, .int .u64 at_] 35))).append hr6 hg6 hf6); clear hr6 hg6 hf6)))
  go_ret2
  exact ⟨_, rfl, H7.out⟩
end Go.Proofs
