import Derived.Lib.ItoaNum
import Derived.Lib.ItoaLen
import Derived.Lib.AtoiAll
import Derived.Lib.AtoiTie
import Derived.Lib.Strings
import Derived.Lib.IndexMore
section
namespace Go.Proofs
open Go Go.Lib
set_option linter.unusedVariables false
set_option linter.unusedSimpArgs false

/-! ### Instructions, plainly -/
def u8 (n : Int) : UInt8 := UInt8.ofNat (n % 256).toNat
theorem u8_nat (c : UInt8) : u8 (c.toNat : Int) = c := by
  have := c.toNat_lt
  apply UInt8.toNat_inj.1
  unfold u8
  rw [UInt8.toNat_ofNat']
  omega
theorem u8_toNat (n : Int) : ((u8 n).toNat : Int) = n % 256 := by
  unfold u8
  rw [UInt8.toNat_ofNat']
  omega
structure Ins where
  o : UInt8
  a : UInt8
  b : UInt8
  c : UInt8
  deriving DecidableEq
def Ins.zero : Ins := ⟨0, 0, 0, 0⟩
def Ins.bytes (x : Ins) : List UInt8 := [x.o, x.a, x.b, x.c]
def Ins.num (x : Ins) : Nat := 256 * x.b.toNat + x.c.toNat
def Ins.jump (x : Ins) : Int := if 32767 < x.num then (x.num : Int) - 65536 else x.num
theorem Ins.num_lt (x : Ins) : x.num < 65536 := by
  have := x.b.toNat_lt; have := x.c.toNat_lt
  unfold Ins.num; omega
theorem Ins.jump_in (x : Ins) : -32768 ≤ x.jump ∧ x.jump ≤ 32767 := by
  have := x.num_lt
  unfold Ins.jump; split <;> omega
def Ins.is (x : Ins) : Bool :=
  if x.o.toNat = 0 ∨ x.o.toNat = 5 ∨ (17 ≤ x.o.toNat ∧ x.o.toNat ≤ 38) then true
  else if x.o.toNat = 1 ∨ x.o.toNat = 6 ∨ x.o.toNat = 7 then decide (x.a.toNat < 8)
  else decide (2 ≤ x.o.toNat ∧ x.o.toNat ≤ 4 ∧ x.a.toNat < 8 ∧ x.b.toNat < 8 ∧ x.c.toNat < 8)

abbrev wNop : List UInt8 := [110, 111, 112]
abbrev wConst : List UInt8 := [99, 111, 110, 115, 116]
abbrev wAdd : List UInt8 := [97, 100, 100]
abbrev wSub : List UInt8 := [115, 117, 98]
abbrev wMul : List UInt8 := [109, 117, 108]
abbrev wJump : List UInt8 := [106, 117, 109, 112]
abbrev wZero : List UInt8 := [122, 101, 114, 111]
abbrev wCode : List UInt8 := [99, 111, 100, 101]
abbrev wCall : List UInt8 := [99, 97, 108, 108]
abbrev wRaw : List UInt8 := [114, 97, 119]
/-- A number, a blank ahead. -/
def bn (n : Int) : List UInt8 := 32 :: itoa n
def Ins.told (x : Ins) : List UInt8 :=
  if x.o.toNat = 0 then (if x.a = 0 ∧ x.b = 0 ∧ x.c = 0 then wNop else [])
  else if x.o.toNat = 1 then wConst ++ bn x.a.toNat ++ bn x.num
  else if x.o.toNat = 2 then wAdd ++ bn x.a.toNat ++ bn x.b.toNat ++ bn x.c.toNat
  else if x.o.toNat = 3 then wSub ++ bn x.a.toNat ++ bn x.b.toNat ++ bn x.c.toNat
  else if x.o.toNat = 4 then wMul ++ bn x.a.toNat ++ bn x.b.toNat ++ bn x.c.toNat
  else if x.o.toNat = 5 then (if x.a = 0 then wJump ++ bn x.jump else [])
  else if x.o.toNat = 6 then wZero ++ bn x.a.toNat ++ bn x.jump
  else if x.o.toNat = 7 then (if x.b = 0 ∧ x.c = 0 then wCode ++ bn x.a.toNat else [])
  else if 17 ≤ x.o.toNat ∧ x.o.toNat ≤ 38 then (if x.a = 0 ∧ x.b = 0 ∧ x.c = 0 then wCall ++ bn ((x.o.toNat : Int) - 16) else [])
  else []
def hexDigit (n : Nat) : UInt8 := if n < 10 then UInt8.ofNat (48 + n) else UInt8.ofNat (87 + n)
def hexP (b : List UInt8) : List UInt8 := b.flatMap fun x => [hexDigit (x.toNat / 16), hexDigit (x.toNat % 16)]
def rawP (b : List UInt8) : List UInt8 := wRaw ++ 32 :: hexP b
/-- The line of bytes. -/
def lineP : List UInt8 → List UInt8
  | [o, a, b, c] => if (⟨o, a, b, c⟩ : Ins).is = true ∧ (⟨o, a, b, c⟩ : Ins).told ≠ [] then (⟨o, a, b, c⟩ : Ins).told else rawP [o, a, b, c]
  | l => rawP l

/-! ### The code's forms -/
def formsL : List (UInt8 × List UInt8 × List UInt8) :=
  [(0, wNop, []), (1, wConst, [65, 78]), (2, wAdd, [65, 66, 67]), (3, wSub, [65, 66, 67]), (4, wMul, [65, 66, 67]), (5, wJump, [68]), (6, wZero, [65, 68]), (7, wCode, [65]), (17, wCall, [75])]
def formAt (o : UInt8) : Option (List UInt8 × List UInt8) := (formsL.find? fun e => e.1 == o).map (·.2)
def formP (o : UInt8) : Option (List UInt8 × List UInt8) := formAt (if 17 < o.toNat ∧ o.toNat ≤ 38 then 17 else o)
def Ins.named (x : Ins) (l : UInt8) : Int :=
  if l = 65 then x.a.toNat else if l = 66 then x.b.toNat else if l = 67 then x.c.toNat else if l = 78 then x.num else if l = 68 then x.jump else ((x.o.toNat : Int) - 16) % 256
def Ins.with (x : Ins) (l : UInt8) (n : Int) : Ins :=
  if l = 65 then { x with a := u8 n } else if l = 66 then { x with b := u8 n } else if l = 67 then { x with c := u8 n }
  else if l = 78 ∨ l = 68 then { x with b := u8 (n / 256), c := u8 n } else if l = 75 then { x with o := u8 (16 + n) } else x
def noReg (x : Ins) (l : UInt8) : Bool := (l == 65 || l == 66 || l == 67) && decide (8 ≤ x.named l)
def isOneP (x : Ins) : Bool := match formP x.o with
  | none => false
  | some f => f.2.all fun l => !noReg x l
def lineC (x : Ins) : List UInt8 := match formP x.o with
  | none => rawP x.bytes
  | some f => if isOneP x = false then rawP x.bytes else
      let r := f.2.foldl (fun r l => r.with l 0) x
      if (r.a ||| r.b) ||| r.c ≠ 0 then rawP x.bytes else f.1 ++ f.2.flatMap fun l => bn (x.named l)

theorem ofN {o : UInt8} {n : Nat} (h : o.toNat = n) : o = UInt8.ofNat n := by
  apply UInt8.toNat_inj.1
  have := o.toNat_lt
  rw [UInt8.toNat_ofNat']; omega
theorem kinds (o : UInt8) : (o = 0 ∨ o = 1 ∨ o = 2 ∨ o = 3 ∨ o = 4 ∨ o = 5 ∨ o = 6 ∨ o = 7 ∨ (17 ≤ o.toNat ∧ o.toNat ≤ 38)) ∨ ((8 ≤ o.toNat ∧ o.toNat < 17) ∨ 38 < o.toNat) := by
  have := o.toNat_lt
  by_cases h : o.toNat < 8
  · left
    have : o.toNat = 0 ∨ o.toNat = 1 ∨ o.toNat = 2 ∨ o.toNat = 3 ∨ o.toNat = 4 ∨ o.toNat = 5 ∨ o.toNat = 6 ∨ o.toNat = 7 := by omega
    rcases this with h | h | h | h | h | h | h | h
    · exact .inl (ofN h)
    · exact .inr (.inl (ofN h))
    · exact .inr (.inr (.inl (ofN h)))
    · exact .inr (.inr (.inr (.inl (ofN h))))
    · exact .inr (.inr (.inr (.inr (.inl (ofN h)))))
    · exact .inr (.inr (.inr (.inr (.inr (.inl (ofN h))))))
    · exact .inr (.inr (.inr (.inr (.inr (.inr (.inl (ofN h)))))))
    · exact .inr (.inr (.inr (.inr (.inr (.inr (.inr (.inl (ofN h))))))))
  · by_cases h2 : 17 ≤ o.toNat ∧ o.toNat ≤ 38
    · exact .inl (.inr (.inr (.inr (.inr (.inr (.inr (.inr (.inr h2))))))))
    · right; omega
theorem form_call {o : UInt8} (h : 17 ≤ o.toNat ∧ o.toNat ≤ 38) : formP o = some (wCall, [75]) := by
  unfold formP
  by_cases h17 : 17 < o.toNat ∧ o.toNat ≤ 38
  · rw [if_pos h17]; rfl
  · rw [if_neg h17]
    have : o = 17 := ofN (n := 17) (by omega)
    subst this; rfl
theorem form_none {o : UInt8} (h : (8 ≤ o.toNat ∧ o.toNat < 17) ∨ 38 < o.toNat) : formP o = none := by
  unfold formP formAt
  rw [if_neg (by omega)]
  have ne : ∀ k : UInt8, k.toNat < 8 ∨ k.toNat = 17 → (k == o) = false := fun k hk => by
    rw [beq_eq_false_iff_ne]; intro e; subst e; omega
  simp [formsL, List.find?_cons, ne 0 (.inl (by decide)), ne 1 (.inl (by decide)), ne 2 (.inl (by decide)), ne 3 (.inl (by decide)), ne 4 (.inl (by decide)), ne 5 (.inl (by decide)), ne 6 (.inl (by decide)), ne 7 (.inl (by decide)), ne 17 (.inr (by decide))]
theorem or3 (a b c : UInt8) : ((a ||| b) ||| c = 0) ↔ (a = 0 ∧ b = 0 ∧ c = 0) := by
  constructor
  · intro e
    have e2 := congrArg UInt8.toNat e
    rw [UInt8.toNat_or, UInt8.toNat_or, show (0 : UInt8).toNat = 0 from rfl, Nat.or_eq_zero_iff, Nat.or_eq_zero_iff] at e2
    exact ⟨UInt8.toNat_inj.1 e2.1.1, UInt8.toNat_inj.1 e2.1.2, UInt8.toNat_inj.1 e2.2⟩
  · rintro ⟨rfl, rfl, rfl⟩; rfl
theorem ge8 (n : Nat) : decide ((8 : Int) ≤ (n : Int)) = !decide (n < 8) := by
  by_cases h : n < 8
  · simp [h]; omega
  · simp [h]; omega
theorem u8_zero : u8 0 = 0 := rfl
theorem isOne_is (x : Ins) : isOneP x = x.is := by
  obtain ⟨o, a, b, c⟩ := x
  have hn := Ins.num_lt ⟨o, a, b, c⟩
  rcases kinds o with (rfl | rfl | rfl | rfl | rfl | rfl | rfl | rfl | h) | h
  · rfl
  · simp [isOneP, Ins.is, formP, formAt, formsL, noReg, Ins.named, ge8]
  · simp [isOneP, Ins.is, formP, formAt, formsL, noReg, Ins.named, ge8]
  · simp [isOneP, Ins.is, formP, formAt, formsL, noReg, Ins.named, ge8]
  · simp [isOneP, Ins.is, formP, formAt, formsL, noReg, Ins.named, ge8]
  · simp [isOneP, Ins.is, formP, formAt, formsL, noReg, Ins.named, ge8]
  · simp [isOneP, Ins.is, formP, formAt, formsL, noReg, Ins.named, ge8]
  · simp [isOneP, Ins.is, formP, formAt, formsL, noReg, Ins.named, ge8]
  · simp only [isOneP, form_call h]
    simp [Ins.is, noReg, h]
  · simp only [isOneP, form_none h]
    simp only [Ins.is]
    rw [if_neg (by omega), if_neg (by omega)]
    simp; omega
theorem lineC_line (x : Ins) : lineC x = lineP x.bytes := by
  unfold lineC lineP
  simp only [Ins.bytes]
  rw [isOne_is]
  obtain ⟨o, a, b, c⟩ := x
  rcases kinds o with (rfl | rfl | rfl | rfl | rfl | rfl | rfl | rfl | h) | h
  · by_cases h1 : a = 0 ∧ b = 0 ∧ c = 0
    · obtain ⟨rfl, rfl, rfl⟩ := h1; rfl
    · have : ¬ ((a ||| b) ||| c = 0) := fun e => h1 ((or3 a b c).1 e)
      simp [formP, formAt, formsL, Ins.is, Ins.told, h1]
  · cases hA : decide (a.toNat < 8) <;> simp [formP, formAt, formsL, Ins.is, Ins.told, Ins.with, Ins.named, hA, u8_zero] <;> simp_all
  · by_cases hA : a.toNat < 8 ∧ b.toNat < 8 ∧ c.toNat < 8
    · simp [formP, formAt, formsL, Ins.is, Ins.told, Ins.with, Ins.named, u8_zero, hA]
    · have hA2 : (decide (a.toNat < 8) && (decide (b.toNat < 8) && decide (c.toNat < 8))) = false := by simpa using hA
      simp [formP, formAt, formsL, Ins.is, hA2]
  · by_cases hA : a.toNat < 8 ∧ b.toNat < 8 ∧ c.toNat < 8
    · simp [formP, formAt, formsL, Ins.is, Ins.told, Ins.with, Ins.named, u8_zero, hA]
    · have hA2 : (decide (a.toNat < 8) && (decide (b.toNat < 8) && decide (c.toNat < 8))) = false := by simpa using hA
      simp [formP, formAt, formsL, Ins.is, hA2]
  · by_cases hA : a.toNat < 8 ∧ b.toNat < 8 ∧ c.toNat < 8
    · simp [formP, formAt, formsL, Ins.is, Ins.told, Ins.with, Ins.named, u8_zero, hA]
    · have hA2 : (decide (a.toNat < 8) && (decide (b.toNat < 8) && decide (c.toNat < 8))) = false := by simpa using hA
      simp [formP, formAt, formsL, Ins.is, hA2]
  · by_cases h1 : a = 0
    · subst h1; simp [formP, formAt, formsL, Ins.is, Ins.told, Ins.with, Ins.named, u8_zero]
    · simp [formP, formAt, formsL, Ins.is, Ins.told, Ins.with, Ins.named, u8_zero, h1]
  · cases hA : decide (a.toNat < 8) <;> simp [formP, formAt, formsL, Ins.is, Ins.told, Ins.with, Ins.named, hA, u8_zero] <;> simp_all
  · by_cases h1 : b = 0 ∧ c = 0
    · obtain ⟨rfl, rfl⟩ := h1
      cases hA : decide (a.toNat < 8) <;> simp [formP, formAt, formsL, Ins.is, Ins.told, Ins.with, Ins.named, hA, u8_zero] <;> simp_all
    · have : ¬ ((0 ||| b) ||| c = 0) := fun e => h1 ((or3 0 b c).1 e).2
      cases hA : decide (a.toNat < 8) <;> simp [formP, formAt, formsL, Ins.is, Ins.told, Ins.with, Ins.named, hA, u8_zero, h1] <;> simp_all
  · have k0 : o.toNat ≠ 0 ∧ o.toNat ≠ 1 ∧ o.toNat ≠ 2 ∧ o.toNat ≠ 3 ∧ o.toNat ≠ 4 ∧ o.toNat ≠ 5 ∧ o.toNat ≠ 6 ∧ o.toNat ≠ 7 := by omega
    obtain ⟨k0, k1, k2, k3, k4, k5, k6, k7⟩ := k0
    have km : ((o.toNat : Int) - 16) % 256 = (o.toNat : Int) - 16 := by omega
    rw [form_call h]
    by_cases h1 : a = 0 ∧ b = 0 ∧ c = 0
    · obtain ⟨rfl, rfl, rfl⟩ := h1
      simp [Ins.is, Ins.told, Ins.with, Ins.named, u8_zero, k0, k1, k2, k3, k4, k5, k6, k7, h, km]
    · have : ¬ ((a ||| b) ||| c = 0) := fun e => h1 ((or3 a b c).1 e)
      simp [Ins.is, Ins.told, Ins.with, Ins.named, u8_zero, k0, k1, k2, k3, k4, k5, k6, k7, h, km, h1, this]
  · rw [form_none h]
    have k0 : o.toNat ≠ 0 ∧ o.toNat ≠ 1 ∧ o.toNat ≠ 2 ∧ o.toNat ≠ 3 ∧ o.toNat ≠ 4 ∧ o.toNat ≠ 5 ∧ o.toNat ≠ 6 ∧ o.toNat ≠ 7 := by omega
    obtain ⟨k0, k1, k2, k3, k4, k5, k6, k7⟩ := k0
    have k8 : ¬ (17 ≤ o.toNat ∧ o.toNat ≤ 38) := by omega
    have ht : (⟨o, a, b, c⟩ : Ins).told = [] := by simp only [Ins.told, k0, k1, k2, k3, k4, k5, k6, k7, k8, if_false]
    rw [if_neg (fun e => e.2 ht)]
end Go.Proofs
end
section
namespace Go.Proofs
open Go Go.Lib
set_option linter.unusedVariables false
set_option linter.unusedSimpArgs false

/-! ### Numbers there and back -/
def dig (c : UInt8) : Prop := 48 ≤ c.toNat ∧ c.toNat ≤ 57
instance (c : UInt8) : Decidable (dig c) := inferInstanceAs (Decidable (_ ∧ _))
theorem digit_ofNat {n : Nat} (h : n < 10) : (UInt8.ofNat (48 + n)).toNat = 48 + n := by rw [UInt8.toNat_ofNat']; omega
theorem decDigits_dig (u : Nat) : ∀ c ∈ decDigits u, dig c := by
  induction u using Nat.strongRecOn with
  | _ u ih =>
    intro c hc
    rw [decDigits] at hc
    split at hc
    · rename_i h
      rw [List.mem_singleton] at hc; subst hc
      unfold dig; rw [UInt8.toNat_ofNat']; omega
    · rename_i h
      rw [List.mem_append] at hc
      rcases hc with hc | hc
      · exact ih (u / 10) (by omega) c hc
      · rw [List.mem_singleton] at hc; subst hc
        unfold dig; rw [UInt8.toNat_ofNat']; omega
theorem decDigits_pos (u : Nat) : 1 ≤ (decDigits u).length := by rw [decDigits_length]; exact nDigits_pos u
def decAcc (acc : Nat) (l : List UInt8) : Nat := l.foldl (fun n c => 10 * n + (c.toNat - 48)) acc
theorem decFrom_dig : ∀ (l : List UInt8) (acc : Nat), (∀ c ∈ l, dig c) → decFrom acc l = some (decAcc acc l)
  | [], acc, _ => rfl
  | c :: r, acc, h => by
    have hc := h c (by simp)
    have ih := decFrom_dig r (10 * acc + (c.toNat - 48)) (fun x hx => h x (by simp [hx]))
    simp only [decFrom, digitVal, if_pos (show 48 ≤ c.toNat ∧ c.toNat ≤ 57 from hc)]
    rw [show acc * 10 + (c.toNat - 48) = 10 * acc + (c.toNat - 48) by omega, ih]
    rfl
theorem decAcc_digits (u : Nat) : ∀ acc, decAcc acc (decDigits u) = acc * 10 ^ (decDigits u).length + u := by
  induction u using Nat.strongRecOn with
  | _ u ih =>
    intro acc
    by_cases h : u < 10
    · rw [decDigits_one h]
      simp [decAcc]; omega
    · rw [decDigits, dif_neg h]
      have e : decAcc acc (decDigits (u / 10) ++ [UInt8.ofNat (48 + u % 10)]) = 10 * decAcc acc (decDigits (u / 10)) + ((UInt8.ofNat (48 + u % 10)).toNat - 48) := by
        unfold decAcc; rw [List.foldl_append]; rfl
      rw [e, ih (u / 10) (by omega), digit_ofNat (by omega), List.length_append]
      simp only [List.length_cons, List.length_nil, Nat.zero_add, Nat.pow_succ]
      have : acc * (10 ^ (decDigits (u / 10)).length * 10) = 10 * (acc * 10 ^ (decDigits (u / 10)).length) := by rw [← Nat.mul_assoc]; omega
      omega
theorem decFrom_digits (u : Nat) : decFrom 0 (decDigits u) = some u := by
  rw [decFrom_dig _ _ (decDigits_dig u), decAcc_digits]; simp
theorem nDigits_le (k : Nat) : ∀ u, u < 10 ^ k → 1 ≤ k → nDigits u ≤ k := by
  induction k with
  | zero => intro u _ h; omega
  | succ k ih =>
    intro u hu _
    by_cases h : u < 10
    · rw [nDigits_small h]; omega
    · rw [nDigits_big h]
      rw [Nat.pow_succ] at hu
      rcases Nat.eq_zero_or_pos k with hk | hk
      · subst hk; omega
      · have := ih (u / 10) (by omega) hk; omega
theorem decDigits_ne (u : Nat) : decDigits u ≠ [] := fun e => by have := decDigits_pos u; rw [e] at this; simp at this
theorem decDigits_cons (u : Nat) : ∃ c r, decDigits u = c :: r ∧ dig c := by
  cases h : decDigits u with
  | nil => exact absurd h (decDigits_ne u)
  | cons c r => exact ⟨c, r, rfl, decDigits_dig u c (by rw [h]; simp)⟩
theorem decNat_digits (u : Nat) : decNat (decDigits u) = some u := by
  obtain ⟨c, r, h, _⟩ := decDigits_cons u
  unfold decNat
  rw [decFrom_digits, h]; rfl
theorem len_digits {u : Nat} (h : u < 100000) : (decDigits u).length ≤ 5 := by rw [decDigits_length]; exact nDigits_le 5 u (by simpa using h) (by omega)
theorem itoa_neg {n : Int} (h : n < 0) : itoa n = 45 :: decDigits n.natAbs := by unfold itoa; rw [if_pos h]
theorem itoa_nn {n : Int} (h : 0 ≤ n) : itoa n = decDigits n.toNat := by unfold itoa; rw [if_neg (by omega)]
theorem itoa_length {n : Int} (h0 : -100000 < n) (h1 : n < 100000) : (itoa n).length ≤ 6 := by
  by_cases h : n < 0
  · rw [itoa_neg h]; have := len_digits (u := n.natAbs) (by omega); simp; omega
  · rw [itoa_nn (by omega)]; have := len_digits (u := n.toNat) (by omega); omega
/-- What stands in a number. -/
theorem itoa_mem {n : Int} {c : UInt8} (h : c ∈ itoa n) : c = 45 ∨ dig c := by
  by_cases hn : n < 0
  · rw [itoa_neg hn] at h
    simp at h
    rcases h with h | h
    · exact .inl h
    · exact .inr (decDigits_dig _ c h)
  · rw [itoa_nn (by omega)] at h; exact .inr (decDigits_dig _ c h)
theorem itoa_no {n : Int} {c : UInt8} (hc : c.toNat < 45) : c ∉ itoa n := fun h => by
  rcases itoa_mem h with e | e
  · subst e; exact absurd hc (by decide)
  · unfold dig at e; omega
theorem itoa_ne (n : Int) : itoa n ≠ [] := by
  by_cases hn : n < 0
  · rw [itoa_neg hn]; simp
  · rw [itoa_nn (by omega)]; exact decDigits_ne _
theorem ofOption_some {α : Type} (v : α) : NumEnd.ofOption (some v) = .ok v := rfl
theorem atoi_itoa {n : Int} (h0 : -100000 < n) (h1 : n < 100000) : atoiAll (itoa n) = .ok n := by
  rw [atoiAll_short _ (by have := itoa_length h0 h1; omega)]
  have : atoi (itoa n) = some n := by
    by_cases hn : n < 0
    · rw [itoa_neg hn]
      simp only [atoi]
      rw [decNat_digits]
      simp; omega
    · rw [itoa_nn (by omega)]
      obtain ⟨c, r, h, hd⟩ := decDigits_cons n.toNat
      have h2 := decNat_digits n.toNat
      rw [h] at h2 ⊢
      unfold dig at hd
      have k1 : c ≠ 43 := fun e => by subst e; simp at hd
      have k2 : c ≠ 45 := fun e => by subst e; simp at hd
      simp [atoi, k1, k2, h2]; omega
  rw [this]; rfl
/-- What Atoi hands back beside the error. -/
def atoiV (s : List UInt8) : Int := match atoiAll s with
  | .ok v => v
  | NumEnd.syntax => 0
  | .range => atoiSat s
theorem atoiV_itoa {n : Int} (h0 : -100000 < n) (h1 : n < 100000) : atoiV (itoa n) = n := by unfold atoiV; rw [atoi_itoa h0 h1]

/-- The document's reading of a number. -/
def valueAt (s : List UInt8) : Nat := if 1 < s.length ∧ s[0]? = some 45 then 1 else 0
def valueN (s : List UInt8) : Int := if valueAt s = 1 then -(decAcc 0 (s.drop 1) : Int) else decAcc 0 s
def valueOk (s : List UInt8) : Bool := decide (valueAt s ≠ s.length ∧ s.length ≤ 8) && (s.drop (valueAt s)).all fun c => decide (dig c)
def valueP (s : List UInt8) : Int × Bool := if valueOk s then (valueN s, itoa (valueN s) == s) else (0, false)
theorem value_itoa {n : Int} (h0 : -100000 < n) (h1 : n < 100000) : valueP (itoa n) = (n, true) := by
  have hl := itoa_length h0 h1
  have hk : valueOk (itoa n) = true ∧ valueN (itoa n) = n := by
    by_cases hn : n < 0
    · rw [itoa_neg hn] at hl ⊢
      have hp := decDigits_pos n.natAbs
      have ha : valueAt (45 :: decDigits n.natAbs) = 1 := by unfold valueAt; rw [if_pos ⟨by simp; omega, rfl⟩]
      constructor
      · unfold valueOk; rw [ha]
        simp at hl ⊢
        exact ⟨⟨by intro e; rw [e] at hp; simp at hp, by omega⟩, decDigits_dig _⟩
      · unfold valueN; rw [if_pos ha]
        simp [decAcc_digits]; omega
    · rw [itoa_nn (by omega)] at hl ⊢
      obtain ⟨c, r, h, hd⟩ := decDigits_cons n.toNat
      have hp := decDigits_pos n.toNat
      have ha : valueAt (decDigits n.toNat) = 0 := by
        unfold valueAt
        rw [if_neg]
        rintro ⟨_, e⟩
        rw [h] at e
        simp at e; subst e
        unfold dig at hd; simp at hd
      constructor
      · unfold valueOk; rw [ha]
        simp
        exact ⟨⟨by omega, by omega⟩, decDigits_dig _⟩
      · unfold valueN; rw [if_neg (by omega)]
        simp [decAcc_digits]; omega
  unfold valueP
  rw [if_pos hk.1, hk.2]
  simp

/-! ### Cutting at a byte -/
theorem index_one {c : UInt8} : ∀ (l : List UInt8) (r : List UInt8), c ∉ l → index (l ++ c :: r) [c] = l.length
  | [], r, _ => by simp [index]
  | b :: l, r, h => by
    have hb : c ≠ b := fun e => h (by simp [e])
    have ih := index_one l r (fun e => h (List.mem_cons_of_mem _ e))
    have e : ([c] : List UInt8).isPrefixOf (b :: (l ++ c :: r)) = false := by simp [List.isPrefixOf, hb]
    have e2 : ¬ ((l.length : Int) = -1) := by omega
    simp [index, e, ih, e2]
theorem index_none {c : UInt8} : ∀ (l : List UInt8), c ∉ l → index l [c] = -1
  | [], _ => by simp [index]
  | b :: l, h => by
    have hb : c ≠ b := fun e => h (by simp [e])
    have ih := index_none l (fun e => h (List.mem_cons_of_mem _ e))
    have e : ([c] : List UInt8).isPrefixOf (b :: l) = false := by simp [List.isPrefixOf, hb]
    simp [index, e, ih]
theorem cut_at {c : UInt8} {l r : List UInt8} (h : c ∉ l) : cut (l ++ c :: r) [c] = (l, r, true) := by
  unfold cut
  rw [index_one l r h, if_pos (by omega)]
  simp
theorem cut_no {c : UInt8} {l : List UInt8} (h : c ∉ l) : cut l [c] = (l, [], false) := by
  unfold cut
  rw [index_none l h, if_neg (by omega)]
theorem split_at (c : UInt8) : ∀ (s : List UInt8), c ∉ s ∨ ∃ l r, s = l ++ c :: r ∧ c ∉ l
  | [] => .inl (by simp)
  | b :: s => by
    by_cases hb : c = b
    · subst hb; exact .inr ⟨[], s, rfl, by simp⟩
    · rcases split_at c s with h | ⟨l, r, rfl, h⟩
      · exact .inl (by simp [hb, h])
      · exact .inr ⟨b :: l, r, rfl, by simp [hb, h]⟩
/-- The document's cut into words. -/
def cutAux (cur : List UInt8) : List UInt8 → List (List UInt8)
  | [] => [cur]
  | c :: r => if c = 32 then cur :: cutAux [] r else cutAux (cur ++ [c]) r
theorem cutAux_at : ∀ (l : List UInt8) (cur r : List UInt8), (32 : UInt8) ∉ l → cutAux cur (l ++ 32 :: r) = (cur ++ l) :: cutAux [] r
  | [], cur, r, _ => by simp [cutAux]
  | b :: l, cur, r, h => by
    have hb : ¬ b = 32 := fun e => h (by simp [e])
    have ih := cutAux_at l (cur ++ [b]) r (fun e => h (by simp [e]))
    simp [cutAux, hb, ih]
theorem cutAux_no : ∀ (l : List UInt8) (cur : List UInt8), (32 : UInt8) ∉ l → cutAux cur l = [cur ++ l]
  | [], cur, _ => by simp [cutAux]
  | b :: l, cur, h => by
    have hb : ¬ b = 32 := fun e => h (by simp [e])
    have ih := cutAux_no l (cur ++ [b]) (fun e => h (by simp [e]))
    simp [cutAux, hb, ih]
end Go.Proofs
end
section
namespace Go.Proofs
open Go Go.Lib
set_option linter.unusedVariables false
set_option linter.unusedSimpArgs false

/-! ### A line there and back -/
def instFold (s : Ins × List UInt8) (l : UInt8) : Ins × List UInt8 := (s.1.with l (atoiV (cut s.2 [32]).1), (cut s.2 [32]).2.1)
def instP (s : List UInt8) : Ins := match formsL.find? (fun e => e.2.1 == (cut s [32]).1) with
  | none => Ins.zero
  | some e => (e.2.2.foldl instFold (⟨e.1, 0, 0, 0⟩, (cut s [32]).2.1)).1
theorem no32 (n : Int) : (32 : UInt8) ∉ itoa n := itoa_no (by decide)
theorem no10 (n : Int) : (10 : UInt8) ∉ itoa n := itoa_no (by decide)
theorem u8_hi (x : Ins) : u8 ((x.num : Int) / 256) = x.b ∧ u8 (x.num : Int) = x.c := by
  have := x.b.toNat_lt; have := x.c.toNat_lt
  constructor <;> apply UInt8.toNat_inj.1 <;> (have h := u8_toNat ((x.num : Int) / 256); have h2 := u8_toNat (x.num : Int); unfold Ins.num at h h2 ⊢; omega)
theorem u8_jump (x : Ins) : u8 (x.jump / 256) = x.b ∧ u8 x.jump = x.c := by
  have := x.b.toNat_lt; have := x.c.toNat_lt
  have h := u8_toNat (x.jump / 256); have h2 := u8_toNat x.jump
  unfold Ins.jump Ins.num at h h2 ⊢
  constructor <;> apply UInt8.toNat_inj.1 <;> (split <;> simp_all <;> omega)
theorem atoiV_byte (c : UInt8) : atoiV (itoa (c.toNat : Int)) = c.toNat := atoiV_itoa (by have := c.toNat_lt; omega) (by have := c.toNat_lt; omega)
theorem atoiV_num (x : Ins) : atoiV (itoa (x.num : Int)) = x.num := atoiV_itoa (by omega) (by have := x.num_lt; omega)
theorem atoiV_jump (x : Ins) : atoiV (itoa x.jump) = x.jump := atoiV_itoa (by have := x.jump_in; omega) (by have := x.jump_in; omega)
theorem told_cut0 {w : List UInt8} {n : Int} (h : (32 : UInt8) ∉ w) : cut (w ++ bn n) [32] = (w, itoa n, true) := cut_at h
theorem told_cut {w r : List UInt8} {n : Int} (h : (32 : UInt8) ∉ w) : cut (w ++ (bn n ++ r)) [32] = (w, itoa n ++ r, true) := by
  unfold bn; exact cut_at h
theorem num_cut {r : List UInt8} {n m : Int} : cut (itoa n ++ (bn m ++ r)) [32] = (itoa n, itoa m ++ r, true) := told_cut (no32 n)
theorem num_cut0 {n m : Int} : cut (itoa n ++ bn m) [32] = (itoa n, itoa m, true) := told_cut0 (no32 n)
theorem num_end {n : Int} : cut (itoa n) [32] = (itoa n, [], false) := cut_no (no32 n)
theorem call_back {o : UInt8} (h : 17 ≤ o.toNat ∧ o.toNat ≤ 38) : u8 (16 + atoiV (itoa ((o.toNat : Int) - 16))) = o := by
  rw [atoiV_itoa (by omega) (by omega)]
  apply UInt8.toNat_inj.1
  have := u8_toNat (16 + ((o.toNat : Int) - 16))
  omega
theorem told_call {o : UInt8} (h : 17 ≤ o.toNat ∧ o.toNat ≤ 38) (a b c : UInt8) : (⟨o, a, b, c⟩ : Ins).told = if a = 0 ∧ b = 0 ∧ c = 0 then wCall ++ bn ((o.toNat : Int) - 16) else [] := by
  unfold Ins.told
  simp only
  rw [if_neg (by omega), if_neg (by omega), if_neg (by omega), if_neg (by omega), if_neg (by omega), if_neg (by omega), if_neg (by omega), if_neg (by omega), if_pos h]
theorem told_none {o : UInt8} (h : (8 ≤ o.toNat ∧ o.toNat < 17) ∨ 38 < o.toNat) (a b c : UInt8) : (⟨o, a, b, c⟩ : Ins).told = [] := by
  unfold Ins.told
  simp only
  rw [if_neg (by omega), if_neg (by omega), if_neg (by omega), if_neg (by omega), if_neg (by omega), if_neg (by omega), if_neg (by omega), if_neg (by omega), if_neg (by omega)]
theorem inst_told (x : Ins) (ht : x.told ≠ []) : instP x.told = x := by
  have hH := u8_hi x
  have hJ := u8_jump x
  have hN := atoiV_num x
  have hD := atoiV_jump x
  obtain ⟨o, a, b, c⟩ := x
  rcases kinds o with (rfl | rfl | rfl | rfl | rfl | rfl | rfl | rfl | h) | h
  · have h1 : a = 0 ∧ b = 0 ∧ c = 0 := by
      by_cases h1 : a = 0 ∧ b = 0 ∧ c = 0
      · exact h1
      · exact absurd (by simp [Ins.told, h1]) ht
    obtain ⟨rfl, rfl, rfl⟩ := h1
    decide
  · have e : (⟨1, a, b, c⟩ : Ins).told = wConst ++ (bn (a.toNat : Int) ++ bn ((⟨1, a, b, c⟩ : Ins).num : Int)) := rfl
    rw [e]; unfold instP; rw [told_cut (by decide)]
    simp [formsL, List.find?_cons, instFold, num_cut0, num_end, atoiV_byte, Ins.with, u8_nat, hN, hH]
  · have e : (⟨2, a, b, c⟩ : Ins).told = wAdd ++ (bn (a.toNat : Int) ++ (bn (b.toNat : Int) ++ bn (c.toNat : Int))) := by simp [Ins.told]
    rw [e]; unfold instP; rw [told_cut (by decide)]
    simp [formsL, List.find?_cons, instFold, num_cut, num_cut0, num_end, atoiV_byte, Ins.with, u8_nat]
  · have e : (⟨3, a, b, c⟩ : Ins).told = wSub ++ (bn (a.toNat : Int) ++ (bn (b.toNat : Int) ++ bn (c.toNat : Int))) := by simp [Ins.told]
    rw [e]; unfold instP; rw [told_cut (by decide)]
    simp [formsL, List.find?_cons, instFold, num_cut, num_cut0, num_end, atoiV_byte, Ins.with, u8_nat]
  · have e : (⟨4, a, b, c⟩ : Ins).told = wMul ++ (bn (a.toNat : Int) ++ (bn (b.toNat : Int) ++ bn (c.toNat : Int))) := by simp [Ins.told]
    rw [e]; unfold instP; rw [told_cut (by decide)]
    simp [formsL, List.find?_cons, instFold, num_cut, num_cut0, num_end, atoiV_byte, Ins.with, u8_nat]
  · have h1 : a = 0 := by
      by_cases h1 : a = 0
      · exact h1
      · exact absurd (by simp [Ins.told, h1]) ht
    subst h1
    have e : (⟨5, 0, b, c⟩ : Ins).told = wJump ++ bn (⟨5, 0, b, c⟩ : Ins).jump := rfl
    rw [e]; unfold instP; rw [told_cut0 (by decide)]
    simp [formsL, List.find?_cons, instFold, num_end, Ins.with, hD, hJ]
  · have e : (⟨6, a, b, c⟩ : Ins).told = wZero ++ (bn (a.toNat : Int) ++ bn (⟨6, a, b, c⟩ : Ins).jump) := rfl
    rw [e]; unfold instP; rw [told_cut (by decide)]
    simp [formsL, List.find?_cons, instFold, num_cut0, num_end, atoiV_byte, Ins.with, u8_nat, hD, hJ]
  · have h1 : b = 0 ∧ c = 0 := by
      by_cases h1 : b = 0 ∧ c = 0
      · exact h1
      · exact absurd (by simp [Ins.told, h1]) ht
    obtain ⟨rfl, rfl⟩ := h1
    have e : (⟨7, a, 0, 0⟩ : Ins).told = wCode ++ bn (a.toNat : Int) := rfl
    rw [e]; unfold instP; rw [told_cut0 (by decide)]
    simp [formsL, List.find?_cons, instFold, num_end, atoiV_byte, Ins.with, u8_nat]
  · rw [told_call h] at ht ⊢
    have h1 : a = 0 ∧ b = 0 ∧ c = 0 := by
      by_cases h1 : a = 0 ∧ b = 0 ∧ c = 0
      · exact h1
      · exact absurd (if_neg h1) ht
    rw [if_pos h1]
    obtain ⟨rfl, rfl, rfl⟩ := h1
    unfold instP; rw [told_cut0 (by decide)]
    simp [formsL, List.find?_cons, instFold, num_end, Ins.with, call_back h]
  · exact absurd (told_none h a b c) ht
theorem told_inj {x y : Ins} (hx : x.told ≠ []) (h : x.told = y.told) : x = y := by rw [← inst_told x hx, h, inst_told y (h ▸ hx)]
/-- What a line that isn't raw begins with, and what stands in it. -/
theorem told_head (x : Ins) (ht : x.told ≠ []) : ∃ c r, x.told = c :: r ∧ c ≠ 114 := by
  obtain ⟨o, a, b, c⟩ := x
  rcases kinds o with (rfl | rfl | rfl | rfl | rfl | rfl | rfl | rfl | h) | h
  · by_cases h1 : a = 0 ∧ b = 0 ∧ c = 0
    · simp [Ins.told, h1]
    · exact absurd (by simp [Ins.told, h1]) ht
  · simp [Ins.told]
  · simp [Ins.told]
  · simp [Ins.told]
  · simp [Ins.told]
  · by_cases h1 : a = 0
    · simp [Ins.told, h1]
    · exact absurd (by simp [Ins.told, h1]) ht
  · simp [Ins.told]
  · by_cases h1 : b = 0 ∧ c = 0
    · simp [Ins.told, h1]
    · exact absurd (by simp [Ins.told, h1]) ht
  · rw [told_call h] at ht ⊢
    by_cases h1 : a = 0 ∧ b = 0 ∧ c = 0
    · simp [h1]
    · exact absurd (if_neg h1) ht
  · exact absurd (told_none h a b c) ht
theorem bn_no10 (n : Int) : (10 : UInt8) ∉ bn n := by
  unfold bn; rw [List.mem_cons]; rintro (h | h)
  · exact absurd h (by decide)
  · exact no10 n h
theorem told_no10 (x : Ins) : (10 : UInt8) ∉ x.told := by
  unfold Ins.told
  repeat' split
  all_goals simp [bn_no10]

/-! ### Bytes as they are -/
def lowc (c : UInt8) : Nat := (c ||| 32).toNat
def hexVal (c : UInt8) : Option Nat := if 48 ≤ c.toNat ∧ c.toNat ≤ 57 then some (c.toNat - 48) else if 97 ≤ lowc c ∧ lowc c ≤ 102 then some (lowc c - 87) else none
def p16 (acc : Nat) : List UInt8 → NumEnd Nat
  | [] => .ok acc
  | c :: r => match hexVal c with
    | none => NumEnd.syntax
    | some d => if 1152921504606846976 ≤ acc then .range else p16 (acc * 16 + d) r
def p16V (s : List UInt8) : Nat := if s = [] then 0 else match p16 0 s with
  | .ok v => v
  | NumEnd.syntax => 0
  | .range => 18446744073709551615
def bytesOf (k n : Nat) : List UInt8 := (List.range k).map fun i => UInt8.ofNat (n / 256 ^ (k - 1 - i))
def unrawP (s : List UInt8) : List UInt8 := bytesOf (min (s.length / 2) 4) (p16V s)
theorem hexVal_digit : ∀ n : Fin 16, hexVal (hexDigit n.val) = some n.val := by decide
theorem p16_two {acc : Nat} {x : UInt8} {r : List UInt8} (h : acc < 4503599627370496) : p16 acc (hexDigit (x.toNat / 16) :: hexDigit (x.toNat % 16) :: r) = p16 (acc * 256 + x.toNat) r := by
  have hx := x.toNat_lt
  simp only [p16]
  rw [hexVal_digit ⟨x.toNat / 16, by omega⟩, hexVal_digit ⟨x.toNat % 16, by omega⟩]
  simp only
  rw [if_neg (by omega), if_neg (by omega)]
  congr 1; omega
theorem hexP_length (b : List UInt8) : (hexP b).length = 2 * b.length := by
  unfold hexP
  induction b with
  | nil => rfl
  | cons x r ih => rw [List.flatMap_cons, List.length_append, ih]; simp; omega
theorem bytesOf2 (n : Nat) : bytesOf 2 n = [UInt8.ofNat (n / 256), UInt8.ofNat n] := by simp [bytesOf, List.range_succ]
theorem bytesOf3 (n : Nat) : bytesOf 3 n = [UInt8.ofNat (n / 65536), UInt8.ofNat (n / 256), UInt8.ofNat n] := by simp [bytesOf, List.range_succ]
theorem bytesOf4 (n : Nat) : bytesOf 4 n = [UInt8.ofNat (n / 16777216), UInt8.ofNat (n / 65536), UInt8.ofNat (n / 256), UInt8.ofNat n] := by simp [bytesOf, List.range_succ]
theorem ofNat_eq {x : UInt8} {n : Nat} (h : n % 256 = x.toNat) : UInt8.ofNat n = x := by
  apply UInt8.toNat_inj.1
  rw [UInt8.toNat_ofNat']; exact h
theorem unraw_hex (b : List UInt8) (h : b.length ≤ 4) : unrawP (hexP b) = b := by
  match b, h with
  | [], _ => rfl
  | [x], _ =>
    have hx := x.toNat_lt
    have e : p16V (hexP [x]) = x.toNat := by simp [p16V, hexP, p16_two]; rfl
    unfold unrawP; rw [e]
    simp [hexP, bytesOf, List.range_succ]
  | [x, y], _ =>
    have hx := x.toNat_lt; have hy := y.toNat_lt
    have e : p16V (hexP [x, y]) = x.toNat * 256 + y.toNat := by
      simp only [p16V, hexP, List.flatMap_cons, List.flatMap_nil, List.cons_append, List.nil_append]
      rw [p16_two (by omega), p16_two (by omega)]; simp [p16]
    unfold unrawP; rw [e]
    rw [hexP_length, show min (2 * [x, y].length / 2) 4 = 2 by simp, bytesOf2]
    rw [ofNat_eq (x := x) (by omega), ofNat_eq (x := y) (by omega)]
  | [x, y, z], _ =>
    have hx := x.toNat_lt; have hy := y.toNat_lt; have hz := z.toNat_lt
    have e : p16V (hexP [x, y, z]) = (x.toNat * 256 + y.toNat) * 256 + z.toNat := by
      simp only [p16V, hexP, List.flatMap_cons, List.flatMap_nil, List.cons_append, List.nil_append]
      rw [p16_two (by omega), p16_two (by omega), p16_two (by omega)]; simp [p16]
    unfold unrawP; rw [e]
    rw [hexP_length, show min (2 * [x, y, z].length / 2) 4 = 3 by simp, bytesOf3]
    rw [ofNat_eq (x := x) (by omega), ofNat_eq (x := y) (by omega), ofNat_eq (x := z) (by omega)]
  | [x, y, z, t], _ =>
    have hx := x.toNat_lt; have hy := y.toNat_lt; have hz := z.toNat_lt; have ht := t.toNat_lt
    have e : p16V (hexP [x, y, z, t]) = ((x.toNat * 256 + y.toNat) * 256 + z.toNat) * 256 + t.toNat := by
      simp only [p16V, hexP, List.flatMap_cons, List.flatMap_nil, List.cons_append, List.nil_append]
      rw [p16_two (by omega), p16_two (by omega), p16_two (by omega), p16_two (by omega)]; simp [p16]
    unfold unrawP; rw [e]
    rw [hexP_length, show min (2 * [x, y, z, t].length / 2) 4 = 4 by simp, bytesOf4]
    rw [ofNat_eq (x := x) (by omega), ofNat_eq (x := y) (by omega), ofNat_eq (x := z) (by omega), ofNat_eq (x := t) (by omega)]
/-- What a line is read as. -/
abbrev rawB : List UInt8 := [114, 97, 119, 32]
def readP (s : List UInt8) : List UInt8 := if hasPrefix s rawB then unrawP (s.drop 4) else (instP s).bytes
theorem read_raw {b : List UInt8} (h : b.length ≤ 4) : readP (rawP b) = b := by
  have e : hasPrefix (rawP b) rawB = true := by simp [hasPrefix, rawP, List.isPrefixOf]
  have e2 : (rawP b).drop 4 = hexP b := rfl
  unfold readP
  rw [if_pos e, e2, unraw_hex b h]
theorem line_cases (b : List UInt8) : lineP b = rawP b ∨ ∃ x : Ins, b = x.bytes ∧ x.is = true ∧ x.told ≠ [] ∧ lineP b = x.told := by
  match b with
  | [o, a, b, c] =>
    by_cases h : (⟨o, a, b, c⟩ : Ins).is = true ∧ (⟨o, a, b, c⟩ : Ins).told ≠ []
    · exact .inr ⟨⟨o, a, b, c⟩, rfl, h.1, h.2, by simp only [lineP]; rw [if_pos h]⟩
    · exact .inl (by simp only [lineP]; rw [if_neg h])
  | [] => exact .inl rfl
  | [_] => exact .inl rfl
  | [_, _] => exact .inl rfl
  | [_, _, _] => exact .inl rfl
  | _ :: _ :: _ :: _ :: _ :: _ => exact .inl rfl
theorem read_line {b : List UInt8} (h : b.length ≤ 4) : readP (lineP b) = b := by
  rcases line_cases b with e | ⟨x, rfl, _, ht, e⟩
  · rw [e, read_raw h]
  · rw [e]
    obtain ⟨c, r, hc, hne⟩ := told_head x ht
    have e : hasPrefix x.told rawB = false := by rw [hc]; simp [hasPrefix, List.isPrefixOf, Ne.symm hne]
    unfold readP
    rw [if_neg (by rw [e]; decide), inst_told x ht]
theorem line_inj {b b' : List UInt8} (h : b.length ≤ 4) (h' : b'.length ≤ 4) (e : lineP b = lineP b') : b = b' := by rw [← read_line h, e, read_line h']
theorem hexDigit_no : ∀ n : Fin 16, hexDigit n.val ≠ 10 ∧ hexDigit n.val ≠ 32 := by decide
theorem hexP_no10 (b : List UInt8) : (10 : UInt8) ∉ hexP b := by
  unfold hexP
  rw [List.mem_flatMap]
  rintro ⟨x, _, hx⟩
  have := x.toNat_lt
  rw [List.mem_cons, List.mem_singleton] at hx
  rcases hx with hx | hx
  · exact (hexDigit_no ⟨x.toNat / 16, by omega⟩).1 hx.symm
  · exact (hexDigit_no ⟨x.toNat % 16, by omega⟩).1 hx.symm
theorem hexP_no32 (b : List UInt8) : (32 : UInt8) ∉ hexP b := by
  unfold hexP
  rw [List.mem_flatMap]
  rintro ⟨x, _, hx⟩
  have := x.toNat_lt
  rw [List.mem_cons, List.mem_singleton] at hx
  rcases hx with hx | hx
  · exact (hexDigit_no ⟨x.toNat / 16, by omega⟩).2 hx.symm
  · exact (hexDigit_no ⟨x.toNat % 16, by omega⟩).2 hx.symm
theorem line_no10 (b : List UInt8) : (10 : UInt8) ∉ lineP b := by
  rcases line_cases b with e | ⟨x, _, _, _, e⟩
  · rw [e]; simp [rawP, hexP_no10]
  · rw [e]; exact told_no10 x
theorem bn_length {n : Int} (h0 : -100000 < n) (h1 : n < 100000) : (bn n).length ≤ 7 := by
  have := itoa_length h0 h1
  unfold bn; simp; omega
theorem told_length (x : Ins) : x.told.length ≤ 26 := by
  have ha := x.a.toNat_lt; have hb := x.b.toNat_lt; have hc := x.c.toNat_lt; have ho := x.o.toNat_lt
  have h1 := bn_length (n := x.a.toNat) (by omega) (by omega)
  have h2 := bn_length (n := x.b.toNat) (by omega) (by omega)
  have h3 := bn_length (n := x.c.toNat) (by omega) (by omega)
  have h4 := bn_length (n := x.num) (by omega) (by have := x.num_lt; omega)
  have h5 := bn_length (n := x.jump) (by have := x.jump_in; omega) (by have := x.jump_in; omega)
  have h6 := bn_length (n := (x.o.toNat : Int) - 16) (by omega) (by omega)
  unfold Ins.told
  repeat' split
  all_goals simp only [List.length_append, List.length_cons, List.length_nil]
  all_goals omega
theorem line_length {b : List UInt8} (h : b.length ≤ 4) : (lineP b).length ≤ 26 := by
  rcases line_cases b with e | ⟨x, _, _, _, e⟩
  · rw [e]; simp [rawP, hexP_length]; omega
  · rw [e]; exact told_length x
end Go.Proofs
end
section
namespace Go.Proofs
open Go Go.Lib
set_option linter.unusedVariables false
set_option linter.unusedSimpArgs false

/-! ### Texts, plainly -/
def lineAt (b : List UInt8) (k : Nat) : List UInt8 := lineP ((b.drop (4 * k)).take 4)
def textTo (b : List UInt8) (n : Nat) : List UInt8 := (List.range n).flatMap fun k => lineAt b k ++ [10]
def textP (b : List UInt8) : List UInt8 := textTo b ((b.length + 3) / 4)
theorem textTo_zero (b : List UInt8) : textTo b 0 = [] := rfl
theorem textTo_succ (b : List UInt8) (n : Nat) : textTo b (n + 1) = textTo b n ++ (lineAt b n ++ [10]) := by
  unfold textTo; rw [List.range_succ, List.flatMap_append]; simp
theorem textTo_cons (b : List UInt8) (n : Nat) : textTo b (n + 1) = lineP (b.take 4) ++ 10 :: textTo (b.drop 4) n := by
  induction n with
  | zero => simp [textTo, lineAt, List.range_succ]
  | succ n ih =>
    rw [textTo_succ, ih, textTo_succ]
    have : lineAt b (n + 1) = lineAt (b.drop 4) n := by
      unfold lineAt; rw [List.drop_drop, show 4 * (n + 1) = 4 + 4 * n by omega]
    rw [this]; simp
theorem text_nil : textP [] = [] := rfl
theorem text_cons {b : List UInt8} (h : b ≠ []) : textP b = lineP (b.take 4) ++ 10 :: textP (b.drop 4) := by
  have hl : 0 < b.length := List.length_pos_iff.2 h
  unfold textP
  obtain ⟨n, hn⟩ : ∃ n, (b.length + 3) / 4 = n + 1 := ⟨(b.length + 3) / 4 - 1, by omega⟩
  rw [hn, textTo_cons, List.length_drop]
  congr 3; omega
theorem take4_le (b : List UInt8) : (b.take 4).length ≤ 4 := by rw [List.length_take]; omega
theorem take4_ne {b : List UInt8} (h : b ≠ []) : b.take 4 ≠ [] := by
  intro e
  rw [List.take_eq_nil_iff] at e
  rcases e with e | e
  · cases e
  · exact h e
theorem split_inj {c : UInt8} : ∀ (l l' r r' : List UInt8), c ∉ l → c ∉ l' → l ++ c :: r = l' ++ c :: r' → l = l' ∧ r = r'
  | [], [], r, r', _, _, e => ⟨rfl, by simpa using e⟩
  | [], x :: l', r, r', _, h', e => by
    simp at e
    exact absurd (by rw [← e.1]; simp) h'
  | x :: l, [], r, r', h, _, e => by
    simp at e
    exact absurd (by rw [e.1]; simp) h
  | x :: l, y :: l', r, r', h, h', e => by
    simp only [List.cons_append, List.cons.injEq] at e
    obtain ⟨rfl, e⟩ := e
    obtain ⟨rfl, rfl⟩ := split_inj l l' r r' (fun q => h (List.mem_cons_of_mem _ q)) (fun q => h' (List.mem_cons_of_mem _ q)) e
    exact ⟨rfl, rfl⟩
/-- A text's first line. -/
theorem text_first {b t r : List UInt8} (ht : (10 : UInt8) ∉ t) (h : t ++ 10 :: r = textP b) : b ≠ [] ∧ t = lineP (b.take 4) ∧ r = textP (b.drop 4) := by
  have hb : b ≠ [] := fun e => by rw [e, text_nil] at h; simp at h
  rw [text_cons hb] at h
  exact ⟨hb, split_inj _ _ _ _ ht (line_no10 _) h⟩
theorem text_has {b t : List UInt8} (ht : (10 : UInt8) ∉ t) (h : t = textP b) : b = [] ∧ t = [] := by
  by_cases hb : b = []
  · rw [hb] at h; exact ⟨hb, h⟩
  · rw [text_cons hb] at h
    exact absurd (by rw [h]; simp) ht
theorem text_append : ∀ (k : Nat) (b r : List UInt8), b.length = 4 * k → textP (b ++ r) = textP b ++ textP r
  | 0, b, r, h => by
    have : b = [] := List.length_eq_zero_iff.1 (by omega)
    subst this; rw [text_nil]; rfl
  | k + 1, b, r, h => by
    have hb : b ≠ [] := fun e => by rw [e] at h; simp at h
    have hbr : b ++ r ≠ [] := fun e => hb (List.append_eq_nil_iff.1 e).1
    rw [text_cons hbr, text_cons hb, List.take_append_of_le_length (by omega), List.drop_append_of_le_length (by omega), text_append k (b.drop 4) r (by rw [List.length_drop]; omega)]
    simp
theorem text_prefix : ∀ (k : Nat) (b bs r : List UInt8), b.length = 4 * k → textP b ++ r = textP bs → ∃ b2, bs = b ++ b2 ∧ r = textP b2
  | 0, b, bs, r, h, e => by
    have : b = [] := List.length_eq_zero_iff.1 (by omega)
    subst this; rw [text_nil] at e; exact ⟨bs, rfl, e⟩
  | k + 1, b, bs, r, h, e => by
    have hb : b ≠ [] := fun e => by rw [e] at h; simp at h
    rw [text_cons hb, List.append_assoc, List.cons_append] at e
    obtain ⟨hbs, h1, h2⟩ := text_first (line_no10 _) e
    have h3 := line_inj (take4_le b) (take4_le bs) h1
    obtain ⟨b2, h4, h5⟩ := text_prefix k (b.drop 4) (bs.drop 4) r (by rw [List.length_drop]; omega) h2
    refine ⟨b2, ?_, h5⟩
    have e1 := List.take_append_drop 4 bs
    rw [← h3, h4, ← List.append_assoc, List.take_append_drop] at e1
    exact e1.symm
theorem text_inj : ∀ (k : Nat) (b b' : List UInt8), b.length ≤ k → textP b = textP b' → b = b'
  | 0, b, b', h, e => by
    have : b = [] := List.length_eq_zero_iff.1 (by omega)
    subst this
    by_cases hb : b' = []
    · exact hb.symm
    · rw [text_nil, text_cons hb] at e; simp at e
  | k + 1, b, b', h, e => by
    by_cases hb : b = []
    · subst hb
      by_cases hb : b' = []
      · exact hb.symm
      · rw [text_nil, text_cons hb] at e; simp at e
    · rw [text_cons hb] at e
      obtain ⟨_, h1, h2⟩ := text_first (line_no10 _) e
      have h3 := line_inj (take4_le b) (take4_le b') h1
      have hl : 0 < b.length := List.length_pos_iff.2 hb
      have h4 := text_inj k (b.drop 4) (b'.drop 4) (by rw [List.length_drop]; omega) h2
      rw [← List.take_append_drop 4 b, ← List.take_append_drop 4 b', h3, h4]
theorem text_one {b : List UInt8} (h : b ≠ []) (h4 : b.length ≤ 4) : textP b = lineP b ++ [10] := by
  rw [text_cons h, List.take_of_length_le h4, List.drop_eq_nil_of_le h4, text_nil]
theorem textTo_length (b : List UInt8) (n : Nat) : (textTo b n).length ≤ 27 * n := by
  induction n with
  | zero => simp [textTo]
  | succ n ih =>
    rw [textTo_succ, List.length_append, List.length_append]
    have : (lineAt b n).length ≤ 26 := line_length (take4_le _)
    simp; omega
theorem text_length (b : List UInt8) : (textP b).length ≤ 27 * ((b.length + 3) / 4) := textTo_length b _

/-- What the document asks of a reading: the error, or the program. -/
def Read (s : List UInt8) (r : List UInt8) (e : Int) : Prop :=
  (∃ b, s = textP b ∧ ((b.length ≤ 1024 ∧ r = b ∧ e = 0) ∨ (1024 < b.length ∧ r = [] ∧ e = 17))) ∨ ((∀ b, s ≠ textP b) ∧ r = [] ∧ e = 16)
theorem Read.det {s r r' : List UInt8} {e e' : Int} (h : Read s r e) (h' : Read s r' e') : r = r' ∧ e = e' := by
  rcases h with ⟨b, hb, h⟩ | ⟨hn, rfl, rfl⟩
  · rcases h' with ⟨b', hb', h'⟩ | ⟨hn, _⟩
    · have := text_inj _ b b' (Nat.le_refl _) (hb.symm.trans hb')
      subst this
      rcases h with ⟨h1, rfl, rfl⟩ | ⟨h1, rfl, rfl⟩ <;> rcases h' with ⟨h2, rfl, rfl⟩ | ⟨h2, rfl, rfl⟩
      · exact ⟨rfl, rfl⟩
      · omega
      · omega
      · exact ⟨rfl, rfl⟩
    · exact absurd hb (hn b)
  · rcases h' with ⟨b', hb', _⟩ | ⟨_, rfl, rfl⟩
    · exact absurd hb' (hn b')
    · exact ⟨rfl, rfl⟩

/-! ### The code's reading: what holds between the lines -/
structure OfMid (s0 : List UInt8) (p : List UInt8) (e : Int) (s : List UInt8) (pre : List UInt8) : Prop where
  eq : s0 = textP pre ++ s
  whole : s = [] ∨ pre.length % 4 = 0
  got : (e = 0 ∧ p = pre ∧ pre.length ≤ 1024) ∨ (e = 17 ∧ 1024 < pre.length ∧ p.length = 1024)
theorem OfMid.start (s : List UInt8) : OfMid s [] 0 s [] := ⟨by rw [text_nil]; rfl, .inr rfl, .inl ⟨rfl, rfl, by simp⟩⟩
theorem OfMid.last {s0 p pre : List UInt8} {e : Int} (h : OfMid s0 p e [] pre) : Read s0 (if e = 0 then p else []) e := by
  have he := h.eq
  rw [List.append_nil] at he
  rcases h.got with ⟨rfl, rfl, h1⟩ | ⟨rfl, h1, _⟩
  · exact .inl ⟨p, he, .inl ⟨h1, rfl, rfl⟩⟩
  · exact .inl ⟨pre, he, .inr ⟨h1, rfl, rfl⟩⟩
theorem OfMid.rest {s0 p pre s b : List UInt8} {e : Int} (h : OfMid s0 p e s pre) (hs : s ≠ []) (hb : s0 = textP b) : ∃ b2, b = pre ++ b2 ∧ s = textP b2 := by
  have h4 : pre.length % 4 = 0 := h.whole.resolve_left hs
  exact text_prefix (pre.length / 4) pre b s (by omega) (h.eq.symm.trans hb)
theorem OfMid.open_ {s0 p pre s : List UInt8} {e : Int} (h : OfMid s0 p e s pre) (hs : s ≠ []) (hn : (10 : UInt8) ∉ s) : ∀ b, s0 ≠ textP b := fun b hb => by
  obtain ⟨b2, _, h2⟩ := h.rest hs hb
  exact hs (text_has hn h2).2
theorem OfMid.bad {s0 p pre t r c : List UInt8} {e : Int} (h : OfMid s0 p e (t ++ 10 :: r) pre) (hn : (10 : UInt8) ∉ t) (hc : c = readP t) (hb : c = [] ∨ lineP c ≠ t ∨ (c.length < 4 ∧ r ≠ [])) : ∀ b, s0 ≠ textP b := fun b hb0 => by
  obtain ⟨b2, _, h2⟩ := h.rest (by simp) hb0
  obtain ⟨h3, h4, h5⟩ := text_first hn h2
  have h6 : c = b2.take 4 := by rw [hc, h4, read_line (take4_le b2)]
  rcases hb with hb | hb | ⟨hb, hr⟩
  · exact take4_ne h3 (h6.symm.trans hb)
  · exact hb (by rw [h6, h4])
  · rw [h6, List.length_take] at hb
    rw [List.drop_eq_nil_of_le (by omega), text_nil] at h5
    exact hr h5
theorem OfMid.next {s0 p pre t r c : List UInt8} {e : Int} (h : OfMid s0 p e (t ++ 10 :: r) pre) (hc0 : c ≠ []) (hcl : c.length ≤ 4) (hl : lineP c = t) (hb : ¬ (c.length < 4 ∧ r ≠ [])) :
    (1024 < p.length + c.length ∧ OfMid s0 p 17 r (pre ++ c)) ∨ (p.length + c.length ≤ 1024 ∧ OfMid s0 (p ++ c) e r (pre ++ c)) := by
  have h4 : pre.length % 4 = 0 := h.whole.resolve_left (by simp)
  have hpos : 0 < c.length := List.length_pos_iff.2 hc0
  have he : s0 = textP (pre ++ c) ++ r := by
    rw [text_append (pre.length / 4) pre c (by omega), text_one hc0 hcl, hl, h.eq]; simp
  have hw : r = [] ∨ (pre ++ c).length % 4 = 0 := by
    by_cases hr : r = []
    · exact .inl hr
    · right; rw [List.length_append]
      have : ¬ c.length < 4 := fun q => hb ⟨q, hr⟩
      omega
  rcases h.got with ⟨rfl, rfl, h1⟩ | ⟨rfl, h1, h2⟩
  · by_cases hlong : 1024 < p.length + c.length
    · exact .inl ⟨hlong, he, hw, .inr ⟨rfl, by rw [List.length_append]; omega, by omega⟩⟩
    · exact .inr ⟨by omega, he, hw, .inl ⟨rfl, rfl, by rw [List.length_append]; omega⟩⟩
  · exact .inl ⟨by omega, he, hw, .inr ⟨rfl, by rw [List.length_append]; omega, h2⟩⟩
end Go.Proofs
end
section
namespace Go.Proofs
open Go Go.Lib
set_option linter.unusedVariables false
set_option linter.unusedSimpArgs false

/-! ### The document's reading, plainly -/
def nib (c : UInt8) : Option Nat := (List.range 16).find? fun i => hexDigit i == c
def unhexP : List UInt8 → Option (List UInt8)
  | [] => some []
  | [_] => none
  | a :: b :: r => match nib a, nib b with
    | some x, some y => (unhexP r).map (UInt8.ofNat (16 * x + y) :: ·)
    | _, _ => none
theorem nib_digit : ∀ n : Fin 16, nib (hexDigit n.val) = some n.val := by decide
theorem unhex_hex : ∀ b : List UInt8, unhexP (hexP b) = some b
  | [] => rfl
  | x :: b => by
    have hx := x.toNat_lt
    have e : hexP (x :: b) = hexDigit (x.toNat / 16) :: hexDigit (x.toNat % 16) :: hexP b := rfl
    rw [e]
    simp only [unhexP]
    rw [nib_digit ⟨x.toNat / 16, by omega⟩, nib_digit ⟨x.toNat % 16, by omega⟩, unhex_hex b]
    simp only [Option.map_some, Option.some.injEq, List.cons.injEq, and_true]
    exact ofNat_eq (by omega)
theorem unhex_length : ∀ (l c : List UInt8), unhexP l = some c → 2 * c.length = l.length
  | [], c, h => by simp [unhexP] at h; subst h; rfl
  | [_], c, h => by simp [unhexP] at h
  | a :: b :: r, c, h => by
    simp only [unhexP] at h
    split at h
    · rw [Option.map_eq_some_iff] at h
      obtain ⟨c', h1, rfl⟩ := h
      have := unhex_length r c' h1
      simp; omega
    · cases h
def cands (n1 n2 n3 : Int) : List Ins :=
  [Ins.zero, ⟨1, u8 n1, u8 ((n2 + 131072) % 65536 / 256), u8 ((n2 + 131072) % 65536 % 256)⟩, ⟨2, u8 n1, u8 n2, u8 n3⟩, ⟨3, u8 n1, u8 n2, u8 n3⟩, ⟨4, u8 n1, u8 n2, u8 n3⟩,
    ⟨5, 0, u8 ((n1 + 131072) % 65536 / 256), u8 ((n1 + 131072) % 65536 % 256)⟩, ⟨6, u8 n1, u8 ((n2 + 131072) % 65536 / 256), u8 ((n2 + 131072) % 65536 % 256)⟩, ⟨7, u8 n1, 0, 0⟩]
  ++ (if 1 ≤ n1 ∧ n1 ≤ 22 then [⟨u8 (16 + n1), 0, 0, 0⟩] else [])
def wordAt (f : List (List UInt8)) (i : Nat) : List UInt8 := f.getD i []
def numAt (f : List (List UInt8)) (i : Nat) : Int := if i < f.length then (valueP (wordAt f i)).1 else 0
def isRaw (f : List (List UInt8)) : Prop := wordAt f 0 = wRaw ∧ f.length = 2 ∧ (wordAt f 1).length % 2 = 0 ∧ 2 ≤ (wordAt f 1).length ∧ (wordAt f 1).length ≤ 8
instance (f : List (List UInt8)) : Decidable (isRaw f) := inferInstanceAs (Decidable (_ ∧ _))
def isFar (n : Int) : Prop := n < -40000 ∨ 70000 < n
instance (n : Int) : Decidable (isFar n) := inferInstanceAs (Decidable (_ ∨ _))
def fourP (l : List UInt8) : Option (List UInt8) :=
  if isRaw (cutAux [] l) then unhexP (wordAt (cutAux [] l) 1)
  else if 4 < (cutAux [] l).length then none
  else if ((cutAux [] l).drop 1).all (fun w => (valueP w).2) = false then none
  else if isFar (numAt (cutAux [] l) 1) ∨ isFar (numAt (cutAux [] l) 2) then none
  else ((cands (numAt (cutAux [] l) 1) (numAt (cutAux [] l) 2) (numAt (cutAux [] l) 3)).find? fun x => x.is && (x.told == l)).map Ins.bytes
theorem four_length {l c : List UInt8} (h : fourP l = some c) : c.length ≤ 4 := by
  unfold fourP at h
  split at h
  · rename_i hr
    have := unhex_length _ _ h
    have := hr.2.2.2.2
    omega
  split at h
  · cases h
  split at h
  · cases h
  split at h
  · cases h
  rw [Option.map_eq_some_iff] at h
  obtain ⟨x, _, rfl⟩ := h
  exact Nat.le_refl 4
/-- Words and numbers of a line. -/
theorem words0 {w : List UInt8} (h : (32 : UInt8) ∉ w) : cutAux [] w = [w] := by rw [cutAux_no _ _ h]; rfl
theorem words_bn {w : List UInt8} {n : Int} {r : List UInt8} (h : (32 : UInt8) ∉ w) : cutAux [] (w ++ (bn n ++ r)) = w :: cutAux [] (itoa n ++ r) := by
  unfold bn
  rw [List.cons_append, cutAux_at _ _ _ h]; rfl
theorem words_bn0 {w : List UInt8} {n : Int} (h : (32 : UInt8) ∉ w) : cutAux [] (w ++ bn n) = [w, itoa n] := by
  have := words_bn (w := w) (n := n) (r := []) h
  rw [List.append_nil, List.append_nil, words0 (no32 n)] at this
  exact this
/-- Found, once it is among those that are tried. -/
theorem four_found {x : Ins} (hi : x.is = true) (ht : x.told ≠ []) {f : List (List UInt8)} (hf : cutAux [] x.told = f) (h0 : wordAt f 0 ≠ wRaw) (hl : f.length ≤ 4) (hok : (f.drop 1).all (fun w => (valueP w).2) = true)
    (n1 : ¬ isFar (numAt f 1)) (n2 : ¬ isFar (numAt f 2)) (hm : x ∈ cands (numAt f 1) (numAt f 2) (numAt f 3)) : fourP x.told = some x.bytes := by
  unfold fourP
  rw [hf, if_neg (fun e => h0 e.1), if_neg (by omega), if_neg (by rw [hok]; decide), if_neg (fun e => e.elim n1 n2)]
  have hs : ((cands (numAt f 1) (numAt f 2) (numAt f 3)).find? fun y => y.is && (y.told == x.told)).isSome := by
    rw [List.find?_isSome]
    exact ⟨x, hm, by simp [hi]⟩
  obtain ⟨y, hy⟩ := Option.isSome_iff_exists.1 hs
  have hp := List.find?_some hy
  simp only [Bool.and_eq_true, beq_iff_eq] at hp
  have : x = y := told_inj ht hp.2.symm
  rw [hy, ← this]; rfl
theorem notFar {n : Int} (h0 : -40000 ≤ n) (h1 : n ≤ 70000) : ¬ isFar n := by unfold isFar; omega
theorem value_byte (c : UInt8) : valueP (itoa (c.toNat : Int)) = ((c.toNat : Int), true) := value_itoa (by have := c.toNat_lt; omega) (by have := c.toNat_lt; omega)
theorem value_num (x : Ins) : valueP (itoa (x.num : Int)) = ((x.num : Int), true) := value_itoa (by omega) (by have := x.num_lt; omega)
theorem value_jump (x : Ins) : valueP (itoa x.jump) = (x.jump, true) := value_itoa (by have := x.jump_in; omega) (by have := x.jump_in; omega)
theorem far_num (x : Ins) : u8 (((x.num : Int) + 131072) % 65536 / 256) = x.b ∧ u8 (((x.num : Int) + 131072) % 65536 % 256) = x.c := by
  have := x.num_lt
  have e : ((x.num : Int) + 131072) % 65536 = x.num := by omega
  rw [e]
  refine ⟨(u8_hi x).1, ?_⟩
  rw [← (u8_hi x).2]
  apply UInt8.toNat_inj.1
  have h := u8_toNat (x.num : Int); have h2 := u8_toNat ((x.num : Int) % 256)
  omega
theorem far_jump (x : Ins) : u8 ((x.jump + 131072) % 65536 / 256) = x.b ∧ u8 ((x.jump + 131072) % 65536 % 256) = x.c := by
  have h := far_num x
  have e : (x.jump + 131072) % 65536 = ((x.num : Int) + 131072) % 65536 := by
    have := x.num_lt
    unfold Ins.jump; split <;> omega
  rw [e]; exact h
theorem valueP_byte_small (c : UInt8) : ¬ isFar (c.toNat : Int) := notFar (by omega) (by have := c.toNat_lt; omega)
theorem numAt_zero (f : List (List UInt8)) (i : Nat) (h : f.length ≤ i) : numAt f i = 0 := if_neg (by omega)
theorem numAt_at {f : List (List UInt8)} {i : Nat} {w : List UInt8} (h : f[i]? = some w) : numAt f i = (valueP w).1 := by
  obtain ⟨h1, h2⟩ := List.getElem?_eq_some_iff.1 h
  unfold numAt wordAt
  rw [if_pos h1, List.getD, h]; rfl
theorem far0 : ¬ isFar 0 := notFar (by decide) (by decide)
theorem four_told (x : Ins) (hi : x.is = true) (ht : x.told ≠ []) : fourP x.told = some x.bytes := by
  have hN := value_num x
  have hJ := value_jump x
  have fN := far_num x
  have fJ := far_jump x
  have bN := x.num_lt
  have bJ := x.jump_in
  obtain ⟨o, a, b, c⟩ := x
  rcases kinds o with (rfl | rfl | rfl | rfl | rfl | rfl | rfl | rfl | h) | h
  · have h1 : a = 0 ∧ b = 0 ∧ c = 0 := by
      by_cases h1 : a = 0 ∧ b = 0 ∧ c = 0
      · exact h1
      · exact absurd (by simp [Ins.told, h1]) ht
    obtain ⟨rfl, rfl, rfl⟩ := h1
    exact four_found (f := [wNop]) hi ht (words0 (by decide)) (by decide) (by decide) rfl far0 far0 (by simp [cands, Ins.zero])
  · refine four_found (f := [wConst, itoa (a.toNat : Int), itoa ((⟨1, a, b, c⟩ : Ins).num : Int)]) hi ht ?_ (by simp [wordAt]) (by simp) (by simp [value_byte, hN]) ?_ ?_ ?_
    · have e : (⟨1, a, b, c⟩ : Ins).told = wConst ++ (bn (a.toNat : Int) ++ bn ((⟨1, a, b, c⟩ : Ins).num : Int)) := rfl
      rw [e, words_bn (by decide), words_bn0 (no32 _)]
    · rw [numAt_at rfl, value_byte]; exact valueP_byte_small a
    · rw [numAt_at rfl, hN]; exact notFar (by omega) (by simp only; omega)
    · rw [numAt_at (i := 1) rfl, numAt_at (i := 2) rfl, value_byte, hN]
      simp only [cands, u8_nat, fN]; simp
  · refine four_found (f := [wAdd, itoa (a.toNat : Int), itoa (b.toNat : Int), itoa (c.toNat : Int)]) hi ht ?_ (by simp [wordAt]) (by simp) (by simp [value_byte]) ?_ ?_ ?_
    · have e : (⟨2, a, b, c⟩ : Ins).told = wAdd ++ (bn (a.toNat : Int) ++ (bn (b.toNat : Int) ++ bn (c.toNat : Int))) := by simp [Ins.told]
      rw [e, words_bn (by decide), words_bn (no32 _), words_bn0 (no32 _)]
    · rw [numAt_at rfl, value_byte]; exact valueP_byte_small a
    · rw [numAt_at rfl, value_byte]; exact valueP_byte_small b
    · rw [numAt_at (i := 1) rfl, numAt_at (i := 2) rfl, numAt_at (i := 3) rfl, value_byte, value_byte, value_byte]
      simp only [cands, u8_nat]; simp
  · refine four_found (f := [wSub, itoa (a.toNat : Int), itoa (b.toNat : Int), itoa (c.toNat : Int)]) hi ht ?_ (by simp [wordAt]) (by simp) (by simp [value_byte]) ?_ ?_ ?_
    · have e : (⟨3, a, b, c⟩ : Ins).told = wSub ++ (bn (a.toNat : Int) ++ (bn (b.toNat : Int) ++ bn (c.toNat : Int))) := by simp [Ins.told]
      rw [e, words_bn (by decide), words_bn (no32 _), words_bn0 (no32 _)]
    · rw [numAt_at rfl, value_byte]; exact valueP_byte_small a
    · rw [numAt_at rfl, value_byte]; exact valueP_byte_small b
    · rw [numAt_at (i := 1) rfl, numAt_at (i := 2) rfl, numAt_at (i := 3) rfl, value_byte, value_byte, value_byte]
      simp only [cands, u8_nat]; simp
  · refine four_found (f := [wMul, itoa (a.toNat : Int), itoa (b.toNat : Int), itoa (c.toNat : Int)]) hi ht ?_ (by simp [wordAt]) (by simp) (by simp [value_byte]) ?_ ?_ ?_
    · have e : (⟨4, a, b, c⟩ : Ins).told = wMul ++ (bn (a.toNat : Int) ++ (bn (b.toNat : Int) ++ bn (c.toNat : Int))) := by simp [Ins.told]
      rw [e, words_bn (by decide), words_bn (no32 _), words_bn0 (no32 _)]
    · rw [numAt_at rfl, value_byte]; exact valueP_byte_small a
    · rw [numAt_at rfl, value_byte]; exact valueP_byte_small b
    · rw [numAt_at (i := 1) rfl, numAt_at (i := 2) rfl, numAt_at (i := 3) rfl, value_byte, value_byte, value_byte]
      simp only [cands, u8_nat]; simp
  · have h1 : a = 0 := by
      by_cases h1 : a = 0
      · exact h1
      · exact absurd (by simp [Ins.told, h1]) ht
    subst h1
    refine four_found (f := [wJump, itoa (⟨5, 0, b, c⟩ : Ins).jump]) hi ht ?_ (by simp [wordAt]) (by simp) (by simp [hJ]) ?_ far0 ?_
    · have e : (⟨5, 0, b, c⟩ : Ins).told = wJump ++ bn (⟨5, 0, b, c⟩ : Ins).jump := rfl
      rw [e, words_bn0 (by decide)]
    · rw [numAt_at rfl, hJ]; exact notFar (by simp only; omega) (by simp only; omega)
    · rw [numAt_at (i := 1) rfl, hJ]
      simp only [cands, fJ]; simp
  · refine four_found (f := [wZero, itoa (a.toNat : Int), itoa (⟨6, a, b, c⟩ : Ins).jump]) hi ht ?_ (by simp [wordAt]) (by simp) (by simp [value_byte, hJ]) ?_ ?_ ?_
    · have e : (⟨6, a, b, c⟩ : Ins).told = wZero ++ (bn (a.toNat : Int) ++ bn (⟨6, a, b, c⟩ : Ins).jump) := rfl
      rw [e, words_bn (by decide), words_bn0 (no32 _)]
    · rw [numAt_at rfl, value_byte]; exact valueP_byte_small a
    · rw [numAt_at rfl, hJ]; exact notFar (by simp only; omega) (by simp only; omega)
    · rw [numAt_at (i := 1) rfl, numAt_at (i := 2) rfl, value_byte, hJ]
      simp only [cands, u8_nat, fJ]; simp
  · have h1 : b = 0 ∧ c = 0 := by
      by_cases h1 : b = 0 ∧ c = 0
      · exact h1
      · exact absurd (by simp [Ins.told, h1]) ht
    obtain ⟨rfl, rfl⟩ := h1
    refine four_found (f := [wCode, itoa (a.toNat : Int)]) hi ht ?_ (by simp [wordAt]) (by simp) (by simp [value_byte]) ?_ far0 ?_
    · have e : (⟨7, a, 0, 0⟩ : Ins).told = wCode ++ bn (a.toNat : Int) := rfl
      rw [e, words_bn0 (by decide)]
    · rw [numAt_at rfl, value_byte]; exact valueP_byte_small a
    · rw [numAt_at (i := 1) rfl, value_byte]
      simp only [cands, u8_nat]; simp
  · have ht2 := ht
    rw [told_call h] at ht2
    have h1 : a = 0 ∧ b = 0 ∧ c = 0 := by
      by_cases h1 : a = 0 ∧ b = 0 ∧ c = 0
      · exact h1
      · exact absurd (if_neg h1) ht2
    obtain ⟨rfl, rfl, rfl⟩ := h1
    have hv : valueP (itoa ((o.toNat : Int) - 16)) = ((o.toNat : Int) - 16, true) := value_itoa (by omega) (by omega)
    have hu : u8 (16 + ((o.toNat : Int) - 16)) = o := by
      apply UInt8.toNat_inj.1
      have := u8_toNat (16 + ((o.toNat : Int) - 16))
      omega
    refine four_found (f := [wCall, itoa ((o.toNat : Int) - 16)]) hi ht ?_ (by simp [wordAt]) (by simp) (by simp [hv]) ?_ far0 ?_
    · rw [told_call h, if_pos ⟨rfl, rfl, rfl⟩, words_bn0 (by decide)]
    · rw [numAt_at rfl, hv]; exact notFar (by simp only; omega) (by simp only; omega)
    · rw [numAt_at (i := 1) rfl, hv]
      simp only [cands, hu]
      rw [if_pos (by omega)]; simp
  · exact absurd (told_none h a b c) ht
theorem four_line {b : List UInt8} (h0 : b ≠ []) (h : b.length ≤ 4) : fourP (lineP b) = some b := by
  rcases line_cases b with e | ⟨x, rfl, hi, ht, e⟩
  · have hp : 0 < b.length := List.length_pos_iff.2 h0
    have hw : cutAux [] (rawP b) = [wRaw, hexP b] := by
      unfold rawP; rw [cutAux_at _ _ _ (by decide), cutAux_no _ _ (hexP_no32 b)]; rfl
    rw [e]
    unfold fourP
    rw [hw, if_pos ⟨rfl, rfl, by show (hexP b).length % 2 = 0; rw [hexP_length]; omega, by show 2 ≤ (hexP b).length; rw [hexP_length]; omega, by show (hexP b).length ≤ 8; rw [hexP_length]; omega⟩]
    exact unhex_hex b
  · rw [e]; exact four_told x hi ht

/-! ### The document's reading of a text: what holds between the lines -/
def RfMid (s out : List UInt8) (frm : Nat) : Prop := ∀ bs, s = textP bs → ∃ b2, bs = out ++ b2 ∧ s.drop frm = textP b2 ∧ (b2 = [] ∨ out.length % 4 = 0)
theorem RfMid.start (s : List UInt8) : RfMid s [] 0 := fun bs h => ⟨bs, rfl, h, .inr rfl⟩
theorem RfMid.bad {s out t r : List UInt8} {frm : Nat} (h : RfMid s out frm) (hd : s.drop frm = t ++ 10 :: r) (ht : (10 : UInt8) ∉ t) (hb : fourP t = none ∨ out.length % 4 ≠ 0) : ∀ bs, s ≠ textP bs := fun bs hs => by
  obtain ⟨b2, _, h2, h3⟩ := h bs hs
  rw [hd] at h2
  obtain ⟨h4, h5, _⟩ := text_first ht h2
  rcases hb with hb | hb
  · rw [h5, four_line (take4_ne h4) (take4_le b2)] at hb; cases hb
  · exact hb (h3.resolve_left h4)
theorem RfMid.next {s out t r c : List UInt8} {frm i : Nat} (h : RfMid s out frm) (hd : s.drop frm = t ++ 10 :: r) (hd2 : s.drop i = r) (ht : (10 : UInt8) ∉ t) (hc : fourP t = some c) : RfMid s (out ++ c) i := fun bs hs => by
  obtain ⟨b2, h1, h2, h3⟩ := h bs hs
  rw [hd] at h2
  obtain ⟨h4, h5, h6⟩ := text_first ht h2
  rw [h5, four_line (take4_ne h4) (take4_le b2)] at hc
  obtain rfl := Option.some.inj hc
  refine ⟨b2.drop 4, by rw [List.append_assoc, List.take_append_drop, h1], by rw [hd2, h6], ?_⟩
  by_cases hl : b2.length ≤ 4
  · left; exact List.drop_eq_nil_of_le hl
  · right
    have := h3.resolve_left h4
    rw [List.length_append, List.length_take]; omega
theorem RfMid.none_ {s out : List UInt8} {frm : Nat} (h : RfMid s out frm) (hn : (10 : UInt8) ∉ s.drop frm) (hb : frm < s.length ∨ textP out ≠ s) : ∀ bs, s ≠ textP bs := fun bs hs => by
  obtain ⟨b2, h1, h2, h3⟩ := h bs hs
  obtain ⟨rfl, h5⟩ := text_has hn h2
  rw [List.append_nil] at h1
  rcases hb with hb | hb
  · have := congrArg List.length h5
    rw [List.length_drop] at this
    simp at this; omega
  · exact hb (by rw [← h1, ← hs])
end Go.Proofs
end
