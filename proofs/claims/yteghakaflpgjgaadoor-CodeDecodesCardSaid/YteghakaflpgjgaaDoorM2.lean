import Derived.Test.YteghakaflpgjgaaDoorM1
import Derived.Test.YteghakaflpgjgaaDoorProg
import Derived.WalkKit
import Derived.WalkSpells
import Derived.Laws.Externs
import Derived.Laws.Pointers
import Derived.Laws.BitsAllLaws
import Derived.Laws.BitsLemmas
import Derived.RowKit3
import Derived.Below
import Derived.Outline
import Derived.BigQuiet
import Derived.LoopTactic
import Derived.Lib.Hide
import Derived.BigCall
section
namespace Go.Proofs
open Go.RowKit
set_option linter.unusedVariables false

/-! ### An instruction in memory -/
def Ins.val (x : Ins) : Value := .agg #[.int .u8 x.o.toNat, .int .u8 x.a.toNat, .int .u8 x.b.toNat, .int .u8 x.c.toNat]
theorem Ins.val_eq (o a b c : UInt8) : (⟨o, a, b, c⟩ : Ins).val = .agg #[.int .u8 o.toNat, .int .u8 a.toNat, .int .u8 b.toNat, .int .u8 c.toNat] := rfl
theorem number_any (x : Ins) (w : World) : Calls Tryd.prog 14 #[x.val] w fun e w' => e = .returned (.int .i64 x.num) ∧ Below w.heap.size w w' := by
  obtain ⟨o, a, b, c⟩ := x
  have hb := b.toNat_lt; have hc := c.toNat_lt
  rw [Ins.val_eq]
  unfold Ins.num
  simp only
  generalize o.toNat = o
  generalize a.toNat = a
  generalize b.toNat = b at *
  generalize c.toNat = c at *
  go_enter Tryd.func14, Tryd.ntmps14
  go_wp2
  go_ret
  refine ⟨?_, (Below.refl _ _).alloc (Nat.le_refl _) _⟩
  congr 2
theorem rnumber_any (x : Ins) (w : World) : Calls Tryd.prog 15 #[x.val] w fun e w' => e = .returned (.int .i64 x.num) ∧ Below w.heap.size w w' := by
  obtain ⟨o, a, b, c⟩ := x
  have hb := b.toNat_lt; have hc := c.toNat_lt
  rw [Ins.val_eq]
  unfold Ins.num
  simp only
  generalize o.toNat = o
  generalize a.toNat = a
  generalize b.toNat = b at *
  generalize c.toNat = c at *
  go_enter Tryd.func15, Tryd.ntmps15
  go_wp2
  go_ret
  refine ⟨?_, (Below.refl _ _).alloc (Nat.le_refl _) _⟩
  congr 2
theorem wrap16 (n : Nat) (h : n < 65536) : IntKind.i16.wrap (n : Int) = if 32767 < n then (n : Int) - 65536 else n := by
  have e : IntKind.i16.wrap (n : Int) = if (n : Int) % 65536 ≥ 32768 then (n : Int) % 65536 - 65536 else (n : Int) % 65536 := by
    simp [IntKind.wrap, IntKind.bits, IntKind.signed]
  rw [e]
  by_cases h1 : 32767 < n
  · rw [if_pos h1, if_pos (by omega)]; omega
  · rw [if_neg h1, if_neg (by omega)]; omega
theorem jump_any (x : Ins) (w : World) : Calls Tryd.prog 16 #[x.val] w fun e w' => e = .returned (.int .i64 x.jump) ∧ Below w.heap.size w w' := by
  have hN := number_any x
  have hn := x.num_lt
  have hw := Lib.hid (wrap16 x.num hn)
  have hin := x.jump_in
  obtain ⟨n, hn'⟩ : ∃ n, n = x.num := ⟨_, rfl⟩
  unfold Ins.jump at hin ⊢
  rw [← hn'] at hN hn hw hin ⊢
  obtain ⟨j, hj2⟩ : ∃ j : Int, j = if 32767 < n then (n : Int) - 65536 else n := ⟨_, rfl⟩
  rw [← hj2] at hw hin ⊢
  have h64 := Lib.hid (show wrap64 j = j from IntWalk.wrap64_in _ (by omega))
  obtain ⟨o, a, b, c⟩ := x
  rw [Ins.val_eq] at hN ⊢
  clear hj2 hn' hin
  go_enter Tryd.func16, Tryd.ntmps16
  go_wp2_with (go_at_call 14; refine (hN _).mono ?_; rintro e w' ⟨rfl, hb⟩)
  rw [hw.out, h64.out]
  go_ret
  exact ⟨rfl, ((Below.refl _ _).alloc (Nat.le_refl _) _).trans (hb.mono (by simp))⟩
theorem rjump_any (x : Ins) (w : World) : Calls Tryd.prog 17 #[x.val] w fun e w' => e = .returned (.int .i64 x.jump) ∧ Below w.heap.size w w' := by
  have hN := rnumber_any x
  have hn := x.num_lt
  obtain ⟨n, hn'⟩ : ∃ n, n = x.num := ⟨_, rfl⟩
  unfold Ins.jump
  rw [← hn'] at hN hn ⊢
  obtain ⟨o, a, b, c⟩ := x
  rw [Ins.val_eq] at hN ⊢
  clear hn'
  by_cases hb : 32767 < n
  · rw [if_pos hb]
    go_enter Tryd.func17, Tryd.ntmps17
    go_wp2_with (go_at_call 15; refine (hN _).mono ?_; rintro e w' ⟨rfl, hb⟩)
    go_ret
    exact ⟨rfl, ((Below.refl _ _).alloc (Nat.le_refl _) _).trans (hb.mono (by simp))⟩
  · rw [if_neg hb]
    go_enter Tryd.func17, Tryd.ntmps17
    go_wp2_with (go_at_call 15; refine (hN _).mono ?_; rintro e w' ⟨rfl, hb⟩)
    go_ret
    exact ⟨rfl, ((Below.refl _ _).alloc (Nat.le_refl _) _).trans (hb.mono (by simp))⟩
set_option maxHeartbeats 1000000 in
theorem ris_any (x : Ins) (w : World) : Calls Tryd.prog 25 #[x.val] w fun e w' => e = .returned (.bool x.is) ∧ Below w.heap.size w w' := by
  obtain ⟨o, a, b, c⟩ := x
  rw [Ins.val_eq]
  unfold Ins.is
  simp only
  have hob := o.toNat_lt
  generalize o.toNat = o at *
  generalize a.toNat = a
  generalize b.toNat = b
  generalize c.toNat = c
  by_cases h1 : o = 0 ∨ o = 5 ∨ (17 ≤ o ∧ o ≤ 38)
  · rw [if_pos h1]
    have h1' := Lib.hid h1
    rcases h1 with h1 | h1 | ⟨h1, h2⟩
    · subst h1
      go_enter Tryd.func25, Tryd.ntmps25
      go_wp2
      go_ret
      exact ⟨rfl, (Below.refl _ _).alloc (Nat.le_refl _) _⟩
    · subst h1
      go_enter Tryd.func25, Tryd.ntmps25
      go_wp2
      go_ret
      exact ⟨rfl, (Below.refl _ _).alloc (Nat.le_refl _) _⟩
    · go_enter Tryd.func25, Tryd.ntmps25
      go_wp2
      go_ret
      exact ⟨rfl, (Below.refl _ _).alloc (Nat.le_refl _) _⟩
  · rw [if_neg h1]
    obtain ⟨k0, k5, kc⟩ : o ≠ 0 ∧ o ≠ 5 ∧ (o < 17 ∨ 38 < o) := by omega
    clear h1
    by_cases h2 : o = 1 ∨ o = 6 ∨ o = 7
    · rw [if_pos h2]
      rcases Nat.lt_or_ge a 8 with ha | ha
      · rw [decide_eq_true ha]
        rcases h2 with h2 | h2 | h2
        all_goals
          subst h2
          clear k0 k5 kc
          go_enter Tryd.func25, Tryd.ntmps25
          go_wp2
          go_ret
          exact ⟨congrArg (fun b => Ending.returned (Value.bool b)) (decide_eq_true (show (a : Int) < 8 by omega)), (Below.refl _ _).alloc (Nat.le_refl _) _⟩
      · rw [decide_eq_false (by omega)]
        rcases h2 with h2 | h2 | h2
        all_goals
          subst h2
          clear k0 k5 kc
          go_enter Tryd.func25, Tryd.ntmps25
          go_wp2
          go_ret
          exact ⟨congrArg (fun b => Ending.returned (Value.bool b)) (decide_eq_false (show ¬ ((a : Int) < 8) by omega)), (Below.refl _ _).alloc (Nat.le_refl _) _⟩
    · rw [if_neg h2]
      obtain ⟨k1, k6, k7⟩ : o ≠ 1 ∧ o ≠ 6 ∧ o ≠ 7 := by omega
      clear h2
      rcases Nat.lt_or_ge 4 o with h4 | h4
      · rw [decide_eq_false (by omega)]
        have ho := hob
        obtain ⟨O, hO⟩ : ∃ O : Int, O = (o : Int) := ⟨_, rfl⟩
        obtain ⟨p0, p5, p1, p6, p7, pl, pu, p4⟩ : O ≠ 0 ∧ O ≠ 5 ∧ O ≠ 1 ∧ O ≠ 6 ∧ O ≠ 7 ∧ 0 ≤ O ∧ O < 256 ∧ 4 < O := by omega
        have q0 : (O == 0) = false := by simpa using p0
        have q5 : (O == 5) = false := by simpa using p5
        have q1 : (O == 1) = false := by simpa using p1
        have q6 : (O == 6) = false := by simpa using p6
        have q7 : (O == 7) = false := by simpa using p7
        have kc' : O < 17 ∨ 38 < O := by omega
        rw [← hO]
        clear k0 k5 k1 k6 k7 kc hO ho hob h4
        rcases kc' with kc | kc
        · go_enter Tryd.func25, Tryd.ntmps25
          go_wp2
          go_ret
          exact ⟨rfl, (Below.refl _ _).alloc (Nat.le_refl _) _⟩
        · go_enter Tryd.func25, Tryd.ntmps25
          go_wp2
          go_ret
          exact ⟨rfl, (Below.refl _ _).alloc (Nat.le_refl _) _⟩
      · have h2 : o = 2 ∨ o = 3 ∨ o = 4 := by omega
        have hd : decide (2 ≤ o ∧ o ≤ 4 ∧ a < 8 ∧ b < 8 ∧ c < 8) = decide (a < 8 ∧ b < 8 ∧ c < 8) := by
          have : 2 ≤ o := by omega
          simp [this, h4]
        rw [hd]
        clear k0 k5 k1 k6 k7 kc h4 hd
        rcases Nat.lt_or_ge a 8 with ha | ha
        · rcases Nat.lt_or_ge b 8 with hb | hb
          · rcases Nat.lt_or_ge c 8 with hc | hc
            · rw [decide_eq_true ⟨ha, hb, hc⟩]
              have hq : (c : Int) < 8 := by omega
              rcases h2 with h2 | h2 | h2
              all_goals
                subst h2
                go_enter Tryd.func25, Tryd.ntmps25
                go_wp2
                go_ret
                exact ⟨rfl, (Below.refl _ _).alloc (Nat.le_refl _) _⟩
            · rw [decide_eq_false (by omega)]
              have hq : ¬ (c : Int) < 8 := by omega
              rcases h2 with h2 | h2 | h2
              all_goals
                subst h2
                go_enter Tryd.func25, Tryd.ntmps25
                go_wp2
                go_ret
                exact ⟨rfl, (Below.refl _ _).alloc (Nat.le_refl _) _⟩
          · rw [decide_eq_false (by omega)]
            rcases h2 with h2 | h2 | h2
            all_goals
              subst h2
              go_enter Tryd.func25, Tryd.ntmps25
              go_wp2
              go_ret
              exact ⟨rfl, (Below.refl _ _).alloc (Nat.le_refl _) _⟩
        · rw [decide_eq_false (by omega)]
          rcases h2 with h2 | h2 | h2
          all_goals
            subst h2
            go_enter Tryd.func25, Tryd.ntmps25
            go_wp2
            go_ret
            exact ⟨rfl, (Below.refl _ _).alloc (Nat.le_refl _) _⟩
theorem digit_any (n : Nat) (hn : n < 16) (w : World) : Calls Tryd.prog 33 #[.int .u8 n] w fun e w' => e = .returned (.int .u8 (hexDigit n).toNat) ∧ w' = w := by
  have hd : ((hexDigit n).toNat : Int) = if n < 10 then (48 : Int) + n else 87 + n := by
    have : ∀ q : Fin 16, ((hexDigit q.val).toNat : Int) = if q.val < 10 then (48 : Int) + q.val else 87 + q.val := by decide
    exact this ⟨n, hn⟩
  rw [hd]
  by_cases h : n < 10
  · rw [if_pos h]
    go_enter Tryd.func33, Tryd.ntmps33
    go_wp2
    go_ret
    exact ⟨rfl, rfl⟩
  · rw [if_neg h]
    have e : ((97 : Int) + n - 10) = 87 + n := by omega
    go_enter Tryd.func33, Tryd.ntmps33
    go_wp2
    go_ret
    exact ⟨rfl, rfl⟩
/-- The letters of a form. -/
def isLetter (l : UInt8) : Prop := l = 65 ∨ l = 66 ∨ l = 67 ∨ l = 78 ∨ l = 68 ∨ l = 75
theorem named_any (x : Ins) (l : UInt8) (hl : isLetter l) (w : World) : Calls Tryd.prog 41 #[x.val, .int .i32 l.toNat] w fun e w' => e = .returned (.int .i64 (x.named l)) ∧ Below w.heap.size w w' := by
  have hN := number_any x
  have hJ := jump_any x
  obtain ⟨n, hn'⟩ : ∃ n, n = x.num := ⟨_, rfl⟩
  obtain ⟨j, hj'⟩ : ∃ j, j = x.jump := ⟨_, rfl⟩
  have hb0 := (Below.refl w.heap.size w).alloc (Nat.le_refl _) (.cells #[.int .u8 x.o.toNat, .int .u8 x.a.toNat, .int .u8 x.b.toNat, .int .u8 x.c.toNat] 26)
  rcases hl with rfl | rfl | rfl | rfl | rfl | rfl
  · rw [show x.named 65 = x.a.toNat from rfl]
    obtain ⟨o, a, b, c⟩ := x
    have hlt := a.toNat_lt
    rw [Ins.val_eq]
    simp only at hlt hb0 ⊢
    generalize a.toNat = y at *
    clear hN hJ
    go_enter Tryd.func41, Tryd.ntmps41
    go_wp2
    go_ret
    exact ⟨rfl, hb0⟩
  · rw [show x.named 66 = x.b.toNat from rfl]
    obtain ⟨o, a, b, c⟩ := x
    have hlt := b.toNat_lt
    rw [Ins.val_eq]
    simp only at hlt hb0 ⊢
    generalize b.toNat = y at *
    clear hN hJ
    go_enter Tryd.func41, Tryd.ntmps41
    go_wp2
    go_ret
    exact ⟨rfl, hb0⟩
  · rw [show x.named 67 = x.c.toNat from rfl]
    obtain ⟨o, a, b, c⟩ := x
    have hlt := c.toNat_lt
    rw [Ins.val_eq]
    simp only at hlt hb0 ⊢
    generalize c.toNat = y at *
    clear hN hJ
    go_enter Tryd.func41, Tryd.ntmps41
    go_wp2
    go_ret
    exact ⟨rfl, hb0⟩
  · rw [show x.named 78 = x.num from rfl]
    rw [← hn'] at hN ⊢
    obtain ⟨o, a, b, c⟩ := x
    rw [Ins.val_eq] at hN ⊢
    clear hJ hn' hj'
    go_enter Tryd.func41, Tryd.ntmps41
    go_wp2_with (go_at_call 14; refine (hN _).mono ?_; rintro e w' ⟨rfl, hb⟩)
    go_ret
    exact ⟨rfl, hb0.trans (hb.mono (by simp))⟩
  · rw [show x.named 68 = x.jump from rfl]
    rw [← hj'] at hJ ⊢
    obtain ⟨o, a, b, c⟩ := x
    rw [Ins.val_eq] at hJ ⊢
    clear hN hn' hj'
    go_enter Tryd.func41, Tryd.ntmps41
    go_wp2_with (go_at_call 16; refine (hJ _).mono ?_; rintro e w' ⟨rfl, hb⟩)
    go_ret
    exact ⟨rfl, hb0.trans (hb.mono (by simp))⟩
  · rw [show x.named 75 = ((x.o.toNat : Int) - 16) % 256 from rfl]
    obtain ⟨o, a, b, c⟩ := x
    have hlt := o.toNat_lt
    rw [Ins.val_eq]
    simp only at hlt hb0 ⊢
    generalize o.toNat = y at *
    clear hN hJ hn' hj'
    go_enter Tryd.func41, Tryd.ntmps41
    go_wp2
    go_ret
    exact ⟨by first | rfl | (congr 2; omega), hb0⟩
end Go.Proofs
end
