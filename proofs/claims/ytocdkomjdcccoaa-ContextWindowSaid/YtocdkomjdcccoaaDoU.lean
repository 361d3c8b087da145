import Derived.Test.YtocdkomjdcccoaaDoT
namespace Go.Proofs
open Go.RowKit
set_option linter.unusedVariables false

/-! ### The acts, plainly -/
theorem badMake_eq (b p now : Int) : badMake b p now = (decide (b < 1) || decide (4294967296 < b) || decide (p < 1) || decide (4294967296 < p) || decide (1152921504606846976 < now)) := by
  unfold badMake
  rw [Bool.eq_iff_iff]
  simp only [Bool.or_eq_true, Bool.not_eq_true', Bool.and_eq_false_iff, decide_eq_true_eq, decide_eq_false_iff_not]
  omega
section
variable {most N : Int} {t : Tab Cx}
theorem XOk.fresh {b p now : Int} {A : Option Addr} {m cc : Nat} (hb0 : 1 ≤ b) (hb1 : b ≤ 4294967296) (hp0 : 1 ≤ p) (hp1 : p ≤ 4294967296) (hn : U64 now) (hm : 2 ≤ most) (hN : 0 ≤ N) : XOk most N ⟨b, p, A, m, cc, 0, [(b, now)]⟩ :=
  ⟨hb0, hb1, hp0, hp1, Ok.cons ⟨by omega, by omega⟩ hn Ok.nil, mayP_iff.2 ⟨by show b + 0 < _; omega, fineP_pw.2 ⟨by simp, fun x hx => by simp at hx; subst hx; show b ≠ 0; omega⟩⟩, by show b + 0 = b; omega, by show ((1 : Nat) : Int) ≤ most; omega, Int.le_refl _, hN⟩
theorem XOk.charge {x : Cx} (h : XOk most N x) {now : Int} (h0 : 0 ≤ now) (hc : chB x now most = true) {A : Option Addr} {m cc : Nat} : XOk most N ⟨x.b, x.p, A, m, cc, x.n, chL x now most⟩ := by
  have hcan : canP x.l now x.p most := by
    refine Classical.byContradiction fun hn => ?_
    unfold chB at hc; rw [chargeP_no hn] at hc; cases hc
  have he : chL x now most = useP x.l now x.p most := by unfold chL; rw [chargeP_yes hcan]
  have hp := h.p0
  obtain ⟨f1, f2, f3, f4, _⟩ := use_facts h.ok h0 (by omega) hcan
  rw [he]
  exact ⟨h.b0, h.b1, h.p0, h.p1, f1, f2, by rw [f3]; exact h.sum, f4, h.n0, h.n1⟩
theorem XOk.pull {x : Cx} (h : XOk most N x) {am now : Int} (h0 : 1 ≤ am) (h1 : am ≤ thereP x.l now) (h2 : am < x.b) {A : Option Addr} {m cc : Nat} : XOk most N ⟨x.b - am, x.p, A, m, cc, x.n, (pullP x.l now am).1⟩ := by
  obtain ⟨f1, f2, f3, f4⟩ := pull_facts h.ok h.may h0 h1
  have := h.b1
  have := h.len
  exact ⟨by show 1 ≤ x.b - am; omega, by show x.b - am ≤ _; omega, h.p0, h.p1, f1, f2, by show sumP _ = x.b - am; rw [f3, h.sum], by show ((pullP x.l now am).1.length : Int) ≤ most; omega, h.n0, h.n1⟩
theorem XOk.give {x : Cx} (h : XOk most N x) {am now : Int} (hn : U64 now) (h0 : 1 ≤ am) (h1 : x.b + am ≤ 4294967296) (hm : 2 ≤ most) :
    ((giveP x.l now am most).2 = 0 ∨ (giveP x.l now am most).2 = 3) ∧ ((giveP x.l now am most).2 = 0 → ∀ (A : Option Addr) (m cc : Nat), XOk most N ⟨x.b + am, x.p, A, m, cc, x.n, (giveP x.l now am most).1⟩) := by
  have hs := h.sum
  obtain ⟨g1, g2⟩ := give_facts h.ok h.may hn h0 (by omega) (by omega : 1 ≤ most) h.len
  refine ⟨g1, fun he A m cc => ?_⟩
  obtain ⟨f1, f2, f3, f4⟩ := g2 he
  have := h.b0
  exact ⟨by show 1 ≤ x.b + am; omega, h1, h.p0, h.p1, f1, f2, by show sumP _ = x.b + am; rw [f3, hs], f4, h.n0, h.n1⟩
theorem bad_parts {b p now : Int} (h : badMake b p now = false) : 1 ≤ b ∧ b ≤ 4294967296 ∧ 1 ≤ p ∧ p ≤ 4294967296 ∧ now ≤ 1152921504606846976 := by
  rw [badMake_eq] at h
  simp only [Bool.or_eq_false_iff, decide_eq_false_iff_not] at h
  omega
end
end Go.Proofs
