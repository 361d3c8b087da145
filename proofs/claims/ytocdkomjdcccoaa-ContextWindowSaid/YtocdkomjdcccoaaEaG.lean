import Derived.Test.YtocdkomjdcccoaaCoT
namespace Go.Proofs
open Go.RowKit
set_option linter.unusedVariables false
/-- Two contexts that tell the same. -/
structure Alike (x y : Cx) : Prop where
  b : x.b = y.b
  p : x.p = y.p
  n : x.n = y.n
  l : x.l = y.l
theorem Alike.refl (x : Cx) : Alike x x := ⟨rfl, rfl, rfl, rfl⟩
def sameB (x y : Cx) : Bool := (x.b == y.b) && ((x.p == y.p) && ((x.n == y.n) && decide (x.l = y.l)))
theorem sameB_iff {x y : Cx} : sameB x y = true ↔ Alike x y := by
  unfold sameB
  simp only [Bool.and_eq_true, beq_iff_eq, decide_eq_true_iff]
  exact ⟨fun ⟨a, b, c, d⟩ => ⟨a, b, c, d⟩, fun ⟨a, b, c, d⟩ => ⟨a, b, c, d⟩⟩
set_option maxHeartbeats 1600000 in
set_option maxRecDepth 100000 in
theorem sameone_any {w : World} {x y : Cx} (hx : Rd w x.v x.l) (hy : Rd w y.v y.l) (hn : x.l.length ≤ 100000) :
    Calls Try.prog 12 #[.agg #[.int .u64 x.b, .int .u64 x.p, .slice x.a x.m x.c, .int .i64 x.n], .agg #[.int .u64 y.b, .int .u64 y.p, .slice y.a y.m y.c, .int .i64 y.n]] w fun e w' => e = .returned (.bool (sameB x y)) ∧ Chg [] w w' := by
  have HS := Lib.hid (fun W (hW : Chg [] w W) => same_any (hx.quiet hW).inn (hy.quiet hW).inn hn)
  unfold sameB
  obtain ⟨xb, xp, xa, xm, xc, xn, xl⟩ := x
  obtain ⟨yb, yp, ya, ym, yc, yn, yl⟩ := y
  obtain ⟨D, hD⟩ : ∃ D, D = decide (xl = yl) := ⟨_, rfl⟩
  simp only [← hD] at HS ⊢
  clear hx hy hn hD
  cases h1 : (xb == yb) with
  | false =>
    go_enter Try.func12, Try.ntmps12
    go_wp2
    go_ret
    exact ⟨rfl, by repeat' (first | with_reducible exact Chg.refl [] _ | with_reducible apply Chg.alloc | with_reducible apply Chg.drew)⟩
  | true =>
  cases h2 : (xp == yp) with
  | false =>
    go_enter Try.func12, Try.ntmps12
    go_wp2
    go_ret
    exact ⟨rfl, by repeat' (first | with_reducible exact Chg.refl [] _ | with_reducible apply Chg.alloc | with_reducible apply Chg.drew)⟩
  | true =>
  cases h3 : (xn == yn) with
  | false =>
    go_enter Try.func12, Try.ntmps12
    go_wp2
    go_ret
    exact ⟨rfl, by repeat' (first | with_reducible exact Chg.refl [] _ | with_reducible apply Chg.alloc | with_reducible apply Chg.drew)⟩
  | true =>
    go_enter Try.func12, Try.ntmps12
    go_wp2_with (go_at_call 33; refine (HS.out _ (((Chg.refl [] w).alloc _).alloc _)).mono ?_; rintro e w1 ⟨rfl, hc⟩; have HC := Lib.hid ((((Chg.refl [] w).alloc _).alloc _).then hc); clear hc)
    go_ret
    exact ⟨by simp, HC.out⟩
end Go.Proofs
