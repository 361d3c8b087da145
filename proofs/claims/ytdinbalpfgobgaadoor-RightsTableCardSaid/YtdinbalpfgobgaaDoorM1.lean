import Derived.Test.YtdinbalpfgobgaaDoorProg
import Derived.WalkKit
import Derived.WalkSpells
import Derived.Laws.Externs
import Derived.Laws.Pointers
import Derived.Laws.BitsAllLaws
import Derived.Laws.BitsLemmas
import Derived.RowKit3
import Derived.Below
import Derived.Outline
import Derived.BigQuiet
import Derived.LoopTactic
import Derived.Lib.Hide
section
namespace Go.Proofs
open Go.RowKit
set_option linter.unusedVariables false

/-! ### Rights, bit by bit -/
/-- Are all of the first ones among the others? -/
def amongP (a f : Nat) : Bool := (a &&& (255 - f)) == 0
theorem amongP_iff {a f : Nat} (ha : a < 256) (hf : f < 256) : amongP a f = true ↔ ∀ i, i < 8 → a.testBit i = true → f.testBit i = true := by
  unfold amongP
  rw [beq_iff_eq]
  have e : 255 - f = 2 ^ 8 - (f + 1) := by omega
  constructor
  · intro h i hi h1
    have := congrArg (fun x => Nat.testBit x i) h
    simp only [Nat.testBit_and, Nat.zero_testBit, h1, Bool.true_and, e, Nat.testBit_two_pow_sub_succ (by omega : f < 2 ^ 8), decide_eq_true hi, Bool.not_eq_false'] at this
    exact this
  · intro h
    apply Nat.eq_of_testBit_eq
    intro i
    rw [Nat.testBit_and, Nat.zero_testBit, e, Nat.testBit_two_pow_sub_succ (by omega : f < 2 ^ 8)]
    by_cases hi : i < 8
    · cases h1 : a.testBit i
      · rfl
      · rw [h i hi h1]; simp
    · simp [hi]
theorem amongP_trans {a b c : Nat} (ha : a < 256) (hb : b < 256) (hc : c < 256) (h1 : amongP a b = true) (h2 : amongP b c = true) : amongP a c = true :=
  (amongP_iff ha hc).2 fun i hi h => (amongP_iff hb hc).1 h2 i hi ((amongP_iff ha hb).1 h1 i hi h)
/-- What is narrowed. -/
def narrowP (f a : Nat) : Nat := if amongP a f then a else 0
theorem narrow_bits {a f : Nat} (ha : a < 256) (hf : f < 256) : (bits BinOp.andNot IntKind.u8 ((a : Nat) : Int) ((f : Nat) : Int) != 0) = !amongP a f := by
  rw [u8_andNot_nat a f ha hf, Bool.eq_iff_iff]
  simp [amongP]

/-- Narrow. -/
theorem narrow_any (f a : Nat) (hf : f < 256) (ha : a < 256) (w : World) :
    Calls Tryd.prog 15 #[.int .u8 f, .int .u8 a] w fun e w' => e = .returned (.tuple #[.int .u8 (narrowP f a), .bool (amongP a f)]) ∧ w = w' := by
  have hb := narrow_bits ha hf
  unfold narrowP
  cases hA : amongP a f
  · rw [hA] at hb
    go_enter Tryd.func15, Tryd.ntmps15
    go_wp2
    go_ret2
    exact ⟨rfl, rfl⟩
  · rw [hA] at hb
    go_enter Tryd.func15, Tryd.ntmps15
    go_wp2
    go_ret2
    exact ⟨rfl, rfl⟩

/-- The right of a place. -/
def pwN (p : Nat) : Int := ((2 ^ p : Nat) : Int)
theorem right_any (p : Nat) (hp : p < 8) (w : World) :
    Calls Tryd.prog 18 #[.int .i64 p] w fun e w' => e = .returned (.int .u8 (pwN p)) ∧ w = w' := by
  have hpw : Hid ((2 : Int) ^ p % 256 = pwN p) := by
    have : ∀ q : Fin 8, (2 : Int) ^ q.val % 256 = pwN q.val := by decide
    exact Lib.hid (this ⟨p, hp⟩)
  go_enter Tryd.func18, Tryd.ntmps18
  go_wp2
  rw [hpw.out]
  go_ret
  exact ⟨rfl, rfl⟩

end Go.Proofs
end
