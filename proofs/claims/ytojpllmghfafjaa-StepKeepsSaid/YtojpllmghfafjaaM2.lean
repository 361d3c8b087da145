import Derived.Test.YtojpllmghfafjaaProg
import Derived.WalkKit
import Derived.WalkSpells
import Derived.Laws.Externs
import Derived.Laws.Pointers
import Derived.Laws.BitsAllLaws
import Derived.Laws.BitsLemmas
import Derived.RowKit3
import Derived.Below
import Derived.Outline
import Derived.BigQuiet
import Derived.LoopTactic
import Derived.Lib.Hide
import Derived.BigCall
import Derived.Test.YtojpllmghfafjaaM1
section
namespace Go.Proofs
open Go.RowKit
set_option linter.unusedVariables false
set_option linter.unusedSimpArgs false

/-! ### An instruction in memory -/
def Ins.val (x : Ins) : Value := .agg #[.int .u8 x.o.toNat, .int .u8 x.a.toNat, .int .u8 x.b.toNat, .int .u8 x.c.toNat]
theorem Ins.val_eq (o a b c : UInt8) : (⟨o, a, b, c⟩ : Ins).val = .agg #[.int .u8 o.toNat, .int .u8 a.toNat, .int .u8 b.toNat, .int .u8 c.toNat] := rfl
theorem number_any (x : Ins) (w : World) : Calls Try.prog 26 #[x.val] w fun e w' => e = .returned (.int .i64 x.num) ∧ Below w.heap.size w w' := by
  obtain ⟨o, a, b, c⟩ := x
  have hb := b.toNat_lt; have hc := c.toNat_lt
  rw [Ins.val_eq]
  unfold Ins.num
  simp only
  generalize o.toNat = o
  generalize a.toNat = a
  generalize b.toNat = b at *
  generalize c.toNat = c at *
  go_enter Try.func26, Try.ntmps26
  go_wp2
  go_ret
  refine ⟨?_, (Below.refl _ _).alloc (Nat.le_refl _) _⟩
  congr 2
theorem wrap16 (n : Nat) (h : n < 65536) : IntKind.i16.wrap (n : Int) = if 32767 < n then (n : Int) - 65536 else n := by
  have e : IntKind.i16.wrap (n : Int) = if (n : Int) % 65536 ≥ 32768 then (n : Int) % 65536 - 65536 else (n : Int) % 65536 := by
    simp [IntKind.wrap, IntKind.bits, IntKind.signed]
  rw [e]
  by_cases h1 : 32767 < n
  · rw [if_pos h1, if_pos (by omega)]; omega
  · rw [if_neg h1, if_neg (by omega)]; omega
theorem jump_any (x : Ins) (w : World) : Calls Try.prog 29 #[x.val] w fun e w' => e = .returned (.int .i64 x.jump) ∧ Below w.heap.size w w' := by
  have hN := number_any x
  have hn := x.num_lt
  have hw := Lib.hid (wrap16 x.num hn)
  have hin := x.jump_in
  obtain ⟨n, hn'⟩ : ∃ n, n = x.num := ⟨_, rfl⟩
  unfold Ins.jump at hin ⊢
  rw [← hn'] at hN hn hw hin ⊢
  obtain ⟨j, hj2⟩ : ∃ j : Int, j = if 32767 < n then (n : Int) - 65536 else n := ⟨_, rfl⟩
  rw [← hj2] at hw hin ⊢
  have h64 := Lib.hid (show wrap64 j = j from IntWalk.wrap64_in _ (by omega))
  obtain ⟨o, a, b, c⟩ := x
  rw [Ins.val_eq] at hN ⊢
  clear hj2 hn' hin
  go_enter Try.func29, Try.ntmps29
  go_wp2_with (go_at_call 26; refine (hN _).mono ?_; rintro e w' ⟨rfl, hb⟩)
  rw [hw.out, h64.out]
  go_ret
  exact ⟨rfl, ((Below.refl _ _).alloc (Nat.le_refl _) _).trans (hb.mono (by simp))⟩
/-- The letters of a form. -/
def isLetter (l : UInt8) : Prop := l = 65 ∨ l = 66 ∨ l = 67 ∨ l = 78 ∨ l = 68 ∨ l = 75
theorem named_any (x : Ins) (l : UInt8) (hl : isLetter l) (w : World) : Calls Try.prog 38 #[x.val, .int .i32 l.toNat] w fun e w' => e = .returned (.int .i64 (x.named l)) ∧ Below w.heap.size w w' := by
  have hN := number_any x
  have hJ := jump_any x
  obtain ⟨n, hn'⟩ : ∃ n, n = x.num := ⟨_, rfl⟩
  obtain ⟨j, hj'⟩ : ∃ j, j = x.jump := ⟨_, rfl⟩
  have hb0 := (Below.refl w.heap.size w).alloc (Nat.le_refl _) (.cells #[.int .u8 x.o.toNat, .int .u8 x.a.toNat, .int .u8 x.b.toNat, .int .u8 x.c.toNat] 45)
  rcases hl with rfl | rfl | rfl | rfl | rfl | rfl
  · rw [show x.named 65 = x.a.toNat from rfl]
    obtain ⟨o, a, b, c⟩ := x
    have hlt := a.toNat_lt
    rw [Ins.val_eq]
    simp only at hlt hb0 ⊢
    generalize a.toNat = y at *
    clear hN hJ
    go_enter Try.func38, Try.ntmps38
    go_wp2
    go_ret
    exact ⟨rfl, hb0⟩
  · rw [show x.named 66 = x.b.toNat from rfl]
    obtain ⟨o, a, b, c⟩ := x
    have hlt := b.toNat_lt
    rw [Ins.val_eq]
    simp only at hlt hb0 ⊢
    generalize b.toNat = y at *
    clear hN hJ
    go_enter Try.func38, Try.ntmps38
    go_wp2
    go_ret
    exact ⟨rfl, hb0⟩
  · rw [show x.named 67 = x.c.toNat from rfl]
    obtain ⟨o, a, b, c⟩ := x
    have hlt := c.toNat_lt
    rw [Ins.val_eq]
    simp only at hlt hb0 ⊢
    generalize c.toNat = y at *
    clear hN hJ
    go_enter Try.func38, Try.ntmps38
    go_wp2
    go_ret
    exact ⟨rfl, hb0⟩
  · rw [show x.named 78 = x.num from rfl]
    rw [← hn'] at hN ⊢
    obtain ⟨o, a, b, c⟩ := x
    rw [Ins.val_eq] at hN ⊢
    clear hJ hn' hj'
    go_enter Try.func38, Try.ntmps38
    go_wp2_with (go_at_call 26; refine (hN _).mono ?_; rintro e w' ⟨rfl, hb⟩)
    go_ret
    exact ⟨rfl, hb0.trans (hb.mono (by simp))⟩
  · rw [show x.named 68 = x.jump from rfl]
    rw [← hj'] at hJ ⊢
    obtain ⟨o, a, b, c⟩ := x
    rw [Ins.val_eq] at hJ ⊢
    clear hN hn' hj'
    go_enter Try.func38, Try.ntmps38
    go_wp2_with (go_at_call 29; refine (hJ _).mono ?_; rintro e w' ⟨rfl, hb⟩)
    go_ret
    exact ⟨rfl, hb0.trans (hb.mono (by simp))⟩
  · rw [show x.named 75 = ((x.o.toNat : Int) - 16) % 256 from rfl]
    obtain ⟨o, a, b, c⟩ := x
    have hlt := o.toNat_lt
    rw [Ins.val_eq]
    simp only at hlt hb0 ⊢
    generalize o.toNat = y at *
    clear hN hJ hn' hj'
    go_enter Try.func38, Try.ntmps38
    go_wp2
    go_ret
    exact ⟨by first | rfl | (congr 2; omega), hb0⟩
end Go.Proofs
end
