import Derived.Test.YtihodeaeacgdpaaReYa
import Derived.Test.YtihodeaeacgdpaaReXc
namespace Go.Proofs
open Go.RowKit
set_option linter.unusedVariables false

theorem nil_charge : chargeP [] 0 1 1 = ([], false) := by decide +kernel
theorem nil_give1 : giveP [] 7 3 1 = ([(3, 7)], 0) := by decide +kernel
theorem nil_pull : pullP [] 0 1 = ([], 15) := by decide +kernel
theorem nil_give2 : giveP [(3, 7)] 7 18446744073709551613 1 = ([], 6) := by decide +kernel
theorem nil_give3 : giveP [(1, 9)] 7 1 1 = ([], 3) := by decide +kernel
theorem nil_may : mayP [] = true := by decide +kernel
set_option maxHeartbeats 6400000 in
set_option maxRecDepth 100000 in
theorem nil_law (hS : Sorts 1) (w : World) : Calls Try.prog 8 #[] w fun e w' => e = .returned (.bool true) ∧ Chg [] w w' := by
  have HSU := Lib.hid (fun W => (show Calls Try.prog 11 #[.slice none 0 0] W fun e w' => e = .returned (.tuple #[.int .u64 0, .bool true]) ∧ Chg [] W w' from Sum_any (Rd.nil W) Ok.nil (by simp)))
  have HCH := Lib.hid (fun W => (show Calls Try.prog 23 #[.slice none 0 0, .int .u64 0, .int .u64 1, .int .i64 1] W fun e w' => ∃ v', e = .returned (.tuple #[v', .bool false]) ∧ Mine W w' v' [] from by
    have := charge_any (now := 0) (per := 1) (most := 1) (Rd.nil W) Ok.nil (by simp) ⟨by omega, by omega⟩ ⟨by omega, by omega⟩
    rwa [nil_charge] at this))
  have HG1 := Lib.hid (fun W => (show Calls Try.prog 25 #[.slice none 0 0, .int .u64 7, .int .u64 3, .int .i64 1] W fun e w' => ∃ v', e = .returned (.tuple #[v', .int .i64 0]) ∧ Mine W w' v' [(3, 7)] from by
    have := give_any (now := 7) (m := 3) (most := 1) (Rd.nil W) Ok.nil (by simp) ⟨by omega, by omega⟩
    rwa [nil_give1] at this))
  have HPU := Lib.hid (fun W => (show Calls Try.prog 27 #[.slice none 0 0, .int .u64 0, .int .u64 1] W fun e w' => ∃ v', e = .returned (.tuple #[v', .int .i64 15]) ∧ Mine W w' v' [] from by
    have := pull_any (Rd.nil W) Ok.nil (by simp) 0 1 ⟨by omega, by omega⟩
    rwa [nil_pull] at this))
  have HNX := Lib.hid (fun W => (show Calls Try.prog 13 #[.slice none 0 0, .int .u64 0] W fun e w' => e = .returned (.tuple #[.int .u64 0, .bool false]) ∧ Chg [] W w' from next_any hS (Rd.nil W) (by simp) (by simp) 0))
  have HG2 := Lib.hid (fun W V (hV : Rd W V [(3, 7)]) => (show Calls Try.prog 25 #[V, .int .u64 7, .int .u64 18446744073709551613, .int .i64 1] W fun e w' => ∃ v', e = .returned (.tuple #[v', .int .i64 6]) ∧ Mine W w' v' [] from by
    have := give_any (now := 7) (m := 18446744073709551613) (most := 1) hV (ok_of _ (by decide)) (by simp) ⟨by omega, by omega⟩
    rwa [nil_give2] at this))
  have HG3 := Lib.hid (fun W V (hV : Rd W V [(1, 9)]) => (show Calls Try.prog 25 #[V, .int .u64 7, .int .u64 1, .int .i64 1] W fun e w' => ∃ v', e = .returned (.tuple #[v', .int .i64 3]) ∧ Mine W w' v' [] from by
    have := give_any (now := 7) (m := 1) (most := 1) hV (ok_of _ (by decide)) (by simp) ⟨by omega, by omega⟩
    rwa [nil_give3] at this))
  have HMY := Lib.hid (fun W => (show Calls Try.prog 15 #[.slice none 0 0] W fun e w' => e = .returned (.bool true) ∧ Chg [] W w' from by
    have := may_any (Rd.nil W) Ok.nil (by simp)
    rwa [nil_may] at this))
  have HDU := Lib.hid (fun W => (show Calls Try.prog 19 #[.slice none 0 0, .int .u64 0] W fun e w' => ∃ v', e = .returned v' ∧ Own W w' v' [] from by
    have := due_any (Rd.nil W) Ok.nil (by simp) 0
    rwa [nil_may] at this))
  have HNW := Lib.hid (fun W => (show Calls Try.prog 20 #[.int .u64 0, .int .u64 1] W fun e w' => ∃ v', e = .returned v' ∧ Own W w' v' [] from new_any W 0 1))
  go_enter Try.func8, Try.ntmps8
  go_wp2_with (first
    | (go_at_call 11; refine (HSU.out _).mono ?_; rintro e w1 ⟨rfl, h1⟩; have C1 := Lib.hid h1; clear h1)
    | (go_at_call 23; refine (HCH.out _).mono ?_; rintro e w2 ⟨v2, rfl, h1⟩; obtain ⟨A2, c2, rfl⟩ := h1.rd.val (n := 0) rfl; have C2 := Lib.hid (C1.out.then h1.now); clear h1)
    | (go_at_call 25; have q := HG1.out w2; (with_reducible refine q.mono ?_); rintro e w3 ⟨v3, rfl, h1⟩; obtain ⟨A3, c3, rfl⟩ := h1.rd.val (n := 1) rfl; have H3 := Lib.hid h1.rd; have C3 := Lib.hid (C2.out.then h1.now); clear h1 q)
    | (go_at_call 27; refine (HPU.out _).mono ?_; rintro e w4 ⟨v4, rfl, h1⟩; obtain ⟨A4, c4, rfl⟩ := h1.rd.val (n := 0) rfl; have H4 := Lib.hid (H3.out.quiet h1.now); have C4 := Lib.hid (C3.out.then h1.now); clear h1)
    | (go_at_call 13; refine (HNX.out _).mono ?_; rintro e w5 ⟨rfl, h1⟩; have H5 := Lib.hid (H4.out.quiet h1); have C5 := Lib.hid (C4.out.then h1); clear h1)
    | (go_at_call 25; have q := HG2.out _ _ H5.out; (with_reducible refine q.mono ?_); rintro e w6 ⟨v6, rfl, h1⟩; obtain ⟨A6, c6, rfl⟩ := h1.rd.val (n := 0) rfl; have H6 := Lib.hid (H5.out.quiet h1.now); have C6 := Lib.hid (C5.out.then h1.now); have R6 := Lib.hid (Ro.one w6 1 9).rd; clear h1 q)
    | (go_at_call 25; have q := HG3.out _ _ R6.out; (with_reducible refine q.mono ?_); rintro e w7 ⟨v7, rfl, h1⟩; obtain ⟨A7, c7, rfl⟩ := h1.rd.val (n := 0) rfl; have H7 := Lib.hid ((H6.out.quiet ((Chg.refl [] _).alloc _)).quiet h1.now); have C7 := Lib.hid ((C6.out.alloc _).then h1.now); have R7 := Lib.hid (In.one w7 3 7); clear h1 q)
    | (go_at_call 21; have q := same_yes (H7.out.quiet ((Chg.refl [] _).alloc _)).inn R7.out (by simp); (with_reducible refine q.mono ?_); rintro e w8 ⟨rfl, h1⟩; have C8 := Lib.hid ((C7.out.alloc _).then h1); clear h1 q)
    | (go_at_call 15; refine (HMY.out _).mono ?_; rintro e w9 ⟨rfl, h1⟩; have C9 := Lib.hid (C8.out.then h1); clear h1)
    | (go_at_call 19; refine (HDU.out _).mono ?_; rintro e w10 ⟨v10, rfl, h1⟩; obtain ⟨A10, c10, rfl⟩ := h1.rd.val (n := 0) rfl; have C10 := Lib.hid (C9.out.then h1.2.2); clear h1)
    | (go_at_call 20; refine (HNW.out _).mono ?_; rintro e w11 ⟨v11, rfl, h1⟩; obtain ⟨A11, c11, rfl⟩ := h1.rd.val (n := 0) rfl; have C11 := Lib.hid (C10.out.then h1.2.2); clear h1)
    | (go_at_call 9; refine (known_any _).mono ?_; rintro e w12 ⟨rfl, h1⟩; have C12 := Lib.hid (C11.out.then h1); clear h1))
  go_ret
  exact ⟨rfl, C12.out⟩
end Go.Proofs
