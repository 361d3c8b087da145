import Derived.Test.YtllohclpaggfbaaNumA
import Derived.Laws.BitsAllLaws
import Derived.Laws.BitsLemmas
import Derived.LoopTactic
import Derived.Lib.Hide
namespace Go.Proofs
open Go.RowKit
set_option linter.unusedVariables false

/-- Is p in the set s? -/
def bitOf (s p : Int) : Bool := decide (0 ≤ p) && decide (p < 8) && decide (s / 2 ^ p.toNat % 2 = 1)
/-- The set of those that f says. -/
def setOf (f : Int → Bool) : Int := (f 0).toInt + 2 * (f 1).toInt + 4 * (f 2).toInt + 8 * (f 3).toInt + 16 * (f 4).toInt + 32 * (f 5).toInt + 64 * (f 6).toInt + 128 * (f 7).toInt
/-- Those in the set, rising. -/
def allL (s : Int) : List Int := ([0, 1, 2, 3, 4, 5, 6, 7] : List Int).filter (bitOf s)
def pw (p : Int) : Int := if 0 ≤ p ∧ p < 8 then 2 ^ p.toNat else 0

theorem and_in : ∀ s : Fin 256, ∀ p : Fin 8, (bits BinOp.and IntKind.u8 ((s.val : Nat) : Int) (2 ^ p.val) != 0) = bitOf (s.val : Nat) (p.val : Nat) := by decide +kernel
theorem or_in : ∀ s : Fin 256, ∀ p : Fin 8, bits BinOp.or IntKind.u8 ((s.val : Nat) : Int) (2 ^ p.val) = setOf (fun i => bitOf (s.val : Nat) i || decide (i = (p.val : Nat))) := by decide +kernel
theorem nand_in : ∀ s : Fin 256, ∀ p : Fin 8, bits BinOp.andNot IntKind.u8 ((s.val : Nat) : Int) (2 ^ p.val) = setOf (fun i => bitOf (s.val : Nat) i && !decide (i = (p.val : Nat))) := by decide +kernel
theorem zero_in : ∀ s : Fin 256, bits BinOp.and IntKind.u8 ((s.val : Nat) : Int) 0 = 0 ∧ bits BinOp.or IntKind.u8 ((s.val : Nat) : Int) 0 = (s.val : Nat) ∧ bits BinOp.andNot IntKind.u8 ((s.val : Nat) : Int) 0 = (s.val : Nat) ∧ setOf (bitOf (s.val : Nat)) = (s.val : Nat) := by decide +kernel
theorem count_in : ∀ s : Fin 256, Lib.onesCount s.val = (allL (s.val : Nat)).length := by decide +kernel
theorem setOf_congr (f g : Int → Bool) (h : ∀ i, 0 ≤ i → i < 8 → f i = g i) : setOf f = setOf g := by
  unfold setOf
  rw [h 0 (by omega) (by omega), h 1 (by omega) (by omega), h 2 (by omega) (by omega), h 3 (by omega) (by omega), h 4 (by omega) (by omega), h 5 (by omega) (by omega), h 6 (by omega) (by omega), h 7 (by omega) (by omega)]
theorem and_of (s p : Int) (s0 : 0 ≤ s) (s1 : s < 256) : (bits BinOp.and IntKind.u8 s (pw p) != 0) = bitOf s p := by
  obtain ⟨n, rfl⟩ := Int.eq_ofNat_of_zero_le s0
  by_cases h : 0 ≤ p ∧ p < 8
  · obtain ⟨q, rfl⟩ := Int.eq_ofNat_of_zero_le h.1
    have := and_in ⟨n, by omega⟩ ⟨q, by omega⟩
    rw [show pw (q : Int) = 2 ^ q from if_pos h]
    exact this
  · rw [show pw p = 0 from if_neg h, (zero_in ⟨n, by omega⟩).1]
    unfold bitOf
    by_cases h0 : 0 ≤ p
    · have : ¬ p < 8 := fun c => h ⟨h0, c⟩
      simp [this]
    · simp [h0]
theorem or_of (s p : Int) (s0 : 0 ≤ s) (s1 : s < 256) : bits BinOp.or IntKind.u8 s (pw p) = setOf (fun i => bitOf s i || decide (i = p)) := by
  obtain ⟨n, rfl⟩ := Int.eq_ofNat_of_zero_le s0
  by_cases h : 0 ≤ p ∧ p < 8
  · obtain ⟨q, rfl⟩ := Int.eq_ofNat_of_zero_le h.1
    have := or_in ⟨n, by omega⟩ ⟨q, by omega⟩
    rw [show pw (q : Int) = 2 ^ q from if_pos h]
    exact this
  · rw [show pw p = 0 from if_neg h, (zero_in ⟨n, by omega⟩).2.1]
    refine (zero_in ⟨n, by omega⟩).2.2.2.symm.trans ?_
    exact setOf_congr _ _ fun i i0 i1 => by rw [decide_eq_false (by omega : ¬ i = p)]; simp
theorem nand_of (s p : Int) (s0 : 0 ≤ s) (s1 : s < 256) : bits BinOp.andNot IntKind.u8 s (pw p) = setOf (fun i => bitOf s i && !decide (i = p)) := by
  obtain ⟨n, rfl⟩ := Int.eq_ofNat_of_zero_le s0
  by_cases h : 0 ≤ p ∧ p < 8
  · obtain ⟨q, rfl⟩ := Int.eq_ofNat_of_zero_le h.1
    have := nand_in ⟨n, by omega⟩ ⟨q, by omega⟩
    rw [show pw (q : Int) = 2 ^ q from if_pos h]
    exact this
  · rw [show pw p = 0 from if_neg h, (zero_in ⟨n, by omega⟩).2.2.1]
    refine (zero_in ⟨n, by omega⟩).2.2.2.symm.trans ?_
    exact setOf_congr _ _ fun i i0 i1 => by rw [decide_eq_false (by omega : ¬ i = p)]; simp
theorem pw_mod (p : Int) (h0 : 0 ≤ p) (h1 : p < 8) : (2 : Int) ^ p.toNat % 256 = pw p := by
  obtain ⟨n, rfl⟩ := Int.eq_ofNat_of_zero_le h0
  rw [show pw (n : Int) = 2 ^ n from if_pos ⟨h0, h1⟩, Int.toNat_natCast]
  have : ∀ q : Fin 8, (2 : Int) ^ q.val % 256 = 2 ^ q.val := by decide
  exact this ⟨n, by omega⟩

theorem bit_any (p : Int) (w : World) :
    Calls Try.prog 35 #[.int .i64 p] w fun e w' => e = .returned (.int .u8 (pw p)) ∧ w = w' := by
  by_cases h0 : p < 0
  · rw [show pw p = 0 from if_neg (by omega)]
    go_enter Try.func35, Try.ntmps35
    go_wp2
    go_ret
    exact ⟨rfl, rfl⟩
  · by_cases h1 : 8 ≤ p
    · rw [show pw p = 0 from if_neg (by omega)]
      go_enter Try.func35, Try.ntmps35
      go_wp2
      go_ret
      exact ⟨rfl, rfl⟩
    · have hpw := Lib.hid (pw_mod p (by omega) (by omega))
      go_enter Try.func35, Try.ntmps35
      go_wp2
      rw [hpw.out]
      go_ret
      exact ⟨rfl, rfl⟩

theorem has_any (s p : Int) (s0 : 0 ≤ s) (s1 : s < 256) (w : World) :
    Calls Try.prog 19 #[.int .u8 s, .int .i64 p] w fun e w' => e = .returned (.bool (bitOf s p)) ∧ w = w' := by
  have hA := Lib.hid (and_of s p s0 s1)
  go_enter Try.func19, Try.ntmps19
  go_wp2_with (go_at_call 35; refine (bit_any _ _).mono ?_; rintro e w' ⟨rfl, rfl⟩)
  rw [hA.out]
  go_ret
  exact ⟨rfl, rfl⟩
theorem with_any (s p : Int) (s0 : 0 ≤ s) (s1 : s < 256) (w : World) :
    Calls Try.prog 21 #[.int .u8 s, .int .i64 p] w fun e w' => e = .returned (.int .u8 (setOf (fun i => bitOf s i || decide (i = p)))) ∧ w = w' := by
  have hA := Lib.hid (or_of s p s0 s1)
  go_enter Try.func21, Try.ntmps21
  go_wp2_with (go_at_call 35; refine (bit_any _ _).mono ?_; rintro e w' ⟨rfl, rfl⟩)
  rw [hA.out]
  go_ret
  exact ⟨rfl, rfl⟩
theorem without_any (s p : Int) (s0 : 0 ≤ s) (s1 : s < 256) (w : World) :
    Calls Try.prog 23 #[.int .u8 s, .int .i64 p] w fun e w' => e = .returned (.int .u8 (setOf (fun i => bitOf s i && !decide (i = p)))) ∧ w = w' := by
  have hA := Lib.hid (nand_of s p s0 s1)
  go_enter Try.func23, Try.ntmps23
  go_wp2_with (go_at_call 35; refine (bit_any _ _).mono ?_; rintro e w' ⟨rfl, rfl⟩)
  rw [hA.out]
  go_ret
  exact ⟨rfl, rfl⟩
theorem count_any (s : Int) (s0 : 0 ≤ s) (s1 : s < 256) (w : World) :
    Calls Try.prog 24 #[.int .u8 s] w fun e w' => e = .returned (.int .i64 ((allL s).length : Nat)) ∧ w = w' := by
  have hC : Hid (((Lib.onesCount s.toNat : Nat) : Int) = ((allL s).length : Nat)) := by
    have := count_in ⟨s.toNat, by omega⟩
    rw [show ((⟨s.toNat, by omega⟩ : Fin 256).val : Int) = s by simp; omega] at this
    exact Lib.hid (congrArg _ this)
  go_enter Try.func24, Try.ntmps24
  go_wp2_with (go_at_call 36; refine (Try.bits_OnesCount8 _ _ s0 (by omega)).mono ?_; rintro e w' ⟨rfl, hw⟩; subst hw)
  rw [hC.out]
  go_ret
  exact ⟨rfl, rfl⟩
theorem tm_in (n m : Int) (h : 0 < m) : (n.tmod m + m).tmod m = n % m := by
  have l1 := Int.lt_tmod_of_pos n h
  rw [Int.tmod_eq_emod_of_nonneg (by omega), Int.add_emod_right, Int.tmod_eq_emod]
  split
  · simp
  · rw [show n % m - ((m.natAbs : Nat) : Int) = n % m + m * (-1) by omega, Int.add_mul_emod_self_left, Int.emod_emod]
theorem tm_in2 (n m : Int) (h : 0 < m) : (n.tmod m + m) % m = n % m := by
  have l1 := Int.lt_tmod_of_pos n h
  have e := tm_in n m h
  rw [Int.tmod_eq_emod_of_nonneg (by omega : 0 ≤ n.tmod m + m)] at e
  exact e
theorem round_any (n m : Int) (m0 : 0 ≤ m) (m1 : m ≤ 8) (w : World) :
    Calls Try.prog 37 #[.int .i64 n, .int .i64 m] w fun e w' => e = .returned (.int .i64 (if m = 0 then 0 else n % m)) ∧ w = w' := by
  by_cases h : m = 0
  · subst h
    rw [if_pos rfl]
    go_enter Try.func37, Try.ntmps37
    go_wp2
    go_ret
    exact ⟨rfl, rfl⟩
  · rw [if_neg h]
    have ht := Lib.hid (tm_in2 n m (by omega))
    have hb : (m == 0) = false := by simpa using h
    have l1 := Int.lt_tmod_of_pos n (by omega : 0 < m)
    have l2 := Int.tmod_lt_of_pos n (by omega : 0 < m)
    have e1 : IntKind.i64.wrap (n.tmod m + m) = n.tmod m + m := by rw [IntKind.wrap_i64]; omega
    go_enter Try.func37, Try.ntmps37
    go_wp2
    rw [ht.out]
    go_ret
    exact ⟨rfl, rfl⟩
end Go.Proofs
