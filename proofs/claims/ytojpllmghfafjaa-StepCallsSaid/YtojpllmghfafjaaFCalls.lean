/-
  Proved: each call is told, with the registers 0 to 4, and PC is behind it; what is no call calls nothing. No conditions.
-/
import Derived.Test.YtojpllmghfafjaaM13
import Derived.Test.YtojpllmghfafjaaM12
import Derived.Test.YtojpllmghfafjaaRows
import Derived.WalkKit
import Derived.Below
import Derived.ChangeSame
import Derived.ProofKit
import Derived.OpenShut
section
namespace Go.Proofs
open Go.ChangeShapes Go.WideShapes Go.ChangeAt Go.RowKit Go.Deep
set_option linter.unusedVariables false
theorem okWide_array {P : Program} {w : World} {r : Reach} {base : Nat} {t e : TypeId} {n : Nat} {v : Value} (ht : P.underlying t = some (.array n e)) (h : Value.okWide P w r base t v) : ∃ cs, v = .agg cs := by
  simp only [Value.okWide, ht] at h
  obtain ⟨cs, h1, _⟩ := h
  exact ⟨cs, h1⟩
theorem open_r {H : Type} {enc : TypeId × Value → H} {w : World} {base : Nat} {held : Bool} {v : Value} {d : DataW H} {ps : List MemPlace} {r : Reach} {b0 : Nat} (hv : Value.okWide Try.prog w r b0 27 v) (h : DataW.Trod enc Try.prog w base (fun _ => true) held 27 v d ps) :
    ∃ r : Nat → Int, (∀ i, 0 ≤ r i) ∧ (∀ i, r i < 18446744073709551616) ∧ v = .agg #[.int .u64 (r 0), .int .u64 (r 1), .int .u64 (r 2), .int .u64 (r 3), .int .u64 (r 4), .int .u64 (r 5), .int .u64 (r 6), .int .u64 (r 7)] := by
  obtain ⟨cs, rfl⟩ := okWide_array Try.underlying27 hv
  obtain ⟨fuel, hf⟩ := h
  obtain ⟨r, r0, r1, e⟩ := open_regs hf
  refine ⟨r, r0, r1, ?_⟩
  obtain ⟨cs⟩ := cs
  simp only [Value.cells] at e
  rw [e]
end Go.Proofs
end
section
namespace Go.Proofs
open Go.RowKit
set_option linter.unusedVariables false
set_option linter.unusedSimpArgs false

/-! ### Calls -/
theorem two_chgB {w0 w1 w3 w4 : World} (h : Below w0.heap.size w0 w1) (hC3 : Chg [w1.heap.size] (two w1) w3) (hC4 : Chg [w1.heap.size + 1] w3 w4) : Below w0.heap.size w0 w4 := by
  have hb := h.trans ((two_b w1).mono h.size)
  have := h.size
  exact (hb.trans (hC3.below (by simpa using h.size) hb.size)).trans (hC4.below (by simp; omega) (Nat.le_trans hb.size hC3.size))
theorem pow255 (k : Int) : bits BinOp.and .i64 k 255 = k % 256 := by
  show IntKind.i64.wrap ((BitVec.ofInt 64 k &&& BitVec.ofInt 64 255).toNat : Int) = _
  rw [BitVec.toNat_and, show (BitVec.ofInt 64 255).toNat = 2 ^ 8 - 1 from rfl, Nat.and_two_pow_sub_one_eq_mod, BitVec.toNat_ofInt]
  simp only [IntKind.wrap, IntKind.bits, IntKind.signed]
  have : ((k % ((2 ^ 64 : Nat) : Int)).toNat : Int) = k % 18446744073709551616 := by
    rw [Int.toNat_of_nonneg (Int.emod_nonneg _ (by decide))]; rfl
  simp
  omega
theorem ins_two (o : UInt8) : flatI [⟨0, 0, 0, 0⟩, ⟨o, 0, 0, 0⟩] = [0, 0, 0, 0, o, 0, 0, 0] := rfl
/-- The program of StepCalls. -/
abbrev progC (o : UInt8) : List UInt8 := [0, 0, 0, 0, o, 0, 0, 0]
def gC (r : Nat → Int) (cd : Int) : Gr := ⟨2, false, 0, 0, 0, 0, 0, 0, 1, r, cd, 0⟩
theorem decode_C (o : UInt8) : decodeP (progC o) 1 = if (⟨o, 0, 0, 0⟩ : Ins).is then (⟨o, 0, 0, 0⟩, 0) else (Ins.zero, 7) := by rfl
theorem decode_C2 (o : UInt8) : decodeP (progC o) 2 = (Ins.zero, 4) := by rfl
theorem step_call (o : UInt8) (h0 : 17 ≤ o.toNat) (h1 : o.toNat ≤ 38) (r : Nat → Int) (cd : Int) : stepP (progC o) (gC r cd) = ((gC r cd).next, ⟨(o.toNat : Int) - 16, r⟩, 2) := by
  have his : (⟨o, 0, 0, 0⟩ : Ins).is = true := by simp [Ins.is, h0, h1]
  have hd := decode_C o
  rw [if_pos his] at hd
  have hne : ∀ k : UInt8, k.toNat < 8 → o ≠ k := fun k hk e => by subst e; omega
  unfold stepP
  rw [show (gC r cd).pc = 1 from rfl, hd]
  simp only [doneP]
  rw [if_neg (by simp), if_neg (by simp), if_neg (hne 0 (by decide)), if_neg (hne 1 (by decide)), if_neg (hne 2 (by decide)), if_neg (hne 3 (by decide)), if_neg (hne 4 (by decide)), if_neg (hne 5 (by decide)), if_neg (hne 6 (by decide)), if_neg (hne 7 (by decide))]
  rfl
theorem step_over2 (o : UInt8) (r : Nat → Int) (cd : Int) : stepP (progC o) (gC r cd).next = ((gC r cd).next, Cl.zero, 3) := by
  unfold stepP
  rw [show (gC r cd).next.pc = 2 from rfl, decode_C2]
  rfl
theorem step_else (o : UInt8) (h : o.toNat < 17 ∨ 38 < o.toNat) (r : Nat → Int) (cd : Int) : (stepP (progC o) (gC r cd)).2.1 = Cl.zero ∧ ((stepP (progC o) (gC r cd)).2.2 = 1 ∨ (stepP (progC o) (gC r cd)).2.2 = 4) := by
  unfold stepP
  rw [show (gC r cd).pc = 1 from rfl, decode_C o]
  by_cases his : (⟨o, 0, 0, 0⟩ : Ins).is = true
  · rw [if_pos his]
    simp only
    rw [if_neg (by simp), if_neg (by simp)]
    have hk : ∀ out : Out, (∃ k, out = .inl k) ∨ (∃ g, out = .inr (g, Cl.zero, 1)) → (match out with | .inl k => ((gC r cd).bad k, Cl.zero, 4) | .inr r => r : Gr × Cl × Int).2.1 = Cl.zero ∧ ((match out with | .inl k => ((gC r cd).bad k, Cl.zero, 4) | .inr r => r : Gr × Cl × Int).2.2 = 1 ∨ (match out with | .inl k => ((gC r cd).bad k, Cl.zero, 4) | .inr r => r : Gr × Cl × Int).2.2 = 4) := by
      rintro out (⟨k, rfl⟩ | ⟨g, rfl⟩)
      · exact ⟨rfl, .inr rfl⟩
      · exact ⟨rfl, .inl rfl⟩
    apply hk
    unfold doneP
    rcases kinds o with (rfl | rfl | rfl | rfl | rfl | rfl | rfl | rfl | h2) | h2
    · exact .inr ⟨_, rfl⟩
    · exact .inr ⟨_, rfl⟩
    · simp only [show ((2 : UInt8) = 0) = False by simp, show ((2 : UInt8) = 1) = False by simp, if_false, if_true]; split
      · exact .inr ⟨_, rfl⟩
      · exact .inl ⟨_, rfl⟩
    · simp only [show ((3 : UInt8) = 0) = False by simp, show ((3 : UInt8) = 1) = False by simp, show ((3 : UInt8) = 2) = False by simp, if_false, if_true]; split
      · exact .inr ⟨_, rfl⟩
      · exact .inl ⟨_, rfl⟩
    · simp only [show ((4 : UInt8) = 0) = False by simp, show ((4 : UInt8) = 1) = False by simp, show ((4 : UInt8) = 2) = False by simp, show ((4 : UInt8) = 3) = False by simp, if_false, if_true]; split
      · exact .inr ⟨_, rfl⟩
      · exact .inl ⟨_, rfl⟩
    · simp only [show ((5 : UInt8) = 0) = False by simp, show ((5 : UInt8) = 1) = False by simp, show ((5 : UInt8) = 2) = False by simp, show ((5 : UInt8) = 3) = False by simp, show ((5 : UInt8) = 4) = False by simp, if_false, if_true]; split
      · exact .inr ⟨_, rfl⟩
      · exact .inl ⟨_, rfl⟩
    · simp only [show ((6 : UInt8) = 0) = False by simp, show ((6 : UInt8) = 1) = False by simp, show ((6 : UInt8) = 2) = False by simp, show ((6 : UInt8) = 3) = False by simp, show ((6 : UInt8) = 4) = False by simp, show ((6 : UInt8) = 5) = False by simp, if_false, if_true]
      split
      · split
        · exact .inr ⟨_, rfl⟩
        · exact .inl ⟨_, rfl⟩
      · exact .inr ⟨_, rfl⟩
    · simp only [show ((7 : UInt8) = 0) = False by simp, show ((7 : UInt8) = 1) = False by simp, show ((7 : UInt8) = 2) = False by simp, show ((7 : UInt8) = 3) = False by simp, show ((7 : UInt8) = 4) = False by simp, show ((7 : UInt8) = 5) = False by simp, show ((7 : UInt8) = 6) = False by simp, if_false, if_true]; split
      · exact .inr ⟨_, rfl⟩
      · exact .inl ⟨_, rfl⟩
    · omega
    · simp only [Ins.is] at his
      rw [if_neg (by omega), if_neg (by omega)] at his
      simp at his; omega
  · rw [if_neg his]
    simp only
    rw [if_neg (by simp), if_pos (by simp)]
    exact ⟨rfl, .inr rfl⟩
end Go.Proofs
end
section
namespace Go.Proofs
open Go.RowKit
set_option linter.unusedVariables false
set_option linter.unusedSimpArgs false

theorem info27 : (Try.prog.info? 27).map (·.size) = some 8 := by kernel_rfl
theorem whole27 : Whole 27 8 := ⟨⟨_, Try.underlying27, rfl⟩, info27⟩
abbrev rA (r : Nat → Int) : Array Value := #[.int .u64 (r 0), .int .u64 (r 1), .int .u64 (r 2), .int .u64 (r 3), .int .u64 (r 4), .int .u64 (r 5), .int .u64 (r 6), .int .u64 (r 7)]
abbrev gCA (r : Nat → Int) (cd : Int) : Array Value := #[.int .i64 2, .bool false, .int .i64 0, .int .u64 0, .int .i64 0, .int .u64 0, .int .u8 0, .int .i64 0, .int .i64 1, .int .u64 (r 0), .int .u64 (r 1), .int .u64 (r 2), .int .u64 (r 3), .int .u64 (r 4), .int .u64 (r 5), .int .u64 (r 6), .int .u64 (r 7), .int .i64 cd, .int .u64 0]
theorem gC_ok (r : Nat → Int) (h0 : ∀ i, 0 ≤ r i) (h1 : ∀ i, r i < 18446744073709551616) (cd : Int) (c0 : -9223372036854775808 ≤ cd) (c1 : cd ≤ 9223372036854775807) : (gC r cd).ok := ⟨h0, h1, by show _ ≤ (1 : Int); omega, by show (1 : Int) ≤ _; omega, c0, c1⟩
theorem gC_ok2 (r : Nat → Int) (h0 : ∀ i, 0 ≤ r i) (h1 : ∀ i, r i < 18446744073709551616) (cd : Int) (c0 : -9223372036854775808 ≤ cd) (c1 : cd ≤ 9223372036854775807) : (gC r cd).next.ok := ⟨h0, h1, by show _ ≤ (2 : Int); omega, by show (2 : Int) ≤ _; omega, c0, c1⟩
/-- What StepCalls asks where it calls, the cells as letters. -/
theorem call_facts (r : Nat → Int) (h0 : ∀ i, 0 ≤ r i) (h1 : ∀ i, r i < 18446744073709551616) (cd : Int) (c0 : -9223372036854775808 ≤ cd) (c1 : cd ≤ 9223372036854775807) (o : UInt8) (o0 : 17 ≤ o.toNat) (o1 : o.toNat ≤ 38) :
    ∃ AC A1 CA : Array Value, gCA r cd = AC ∧ AC.size = 19 ∧ A1.size = 19 ∧ CA.size = 6 ∧ AC.all (·.oneCell') = true ∧ A1.all (·.oneCell') = true ∧ CA.all (·.oneCell') = true ∧ AC[8]? = some (.int .i64 1) ∧ AC.setIfInBounds 8 (.int .i64 2) = A1 ∧
    CA[0]? = some (.int .i64 ((o.toNat : Int) - 16)) ∧ (∀ i, i < 5 → CA[1 + i]? = some (.int .u64 (r i))) ∧ (∀ w, (binOp BinOp.neq 30 (.agg A1) (.agg A1)).run Try.prog w = .ok (.bool false) w) ∧
    (∀ V W, By W V (progC o) → Calls Try.prog 9 #[V, .agg AC] W fun e w' => e = .returned (.tuple #[.agg A1, .agg CA, .int .i64 2]) ∧ Below W.heap.size W w') ∧
    (∀ V W, By W V (progC o) → Calls Try.prog 9 #[V, .agg A1] W fun e w' => e = .returned (.tuple #[.agg A1, .agg zC, .int .i64 3]) ∧ Below W.heap.size W w') := by
  refine ⟨(gC r cd).arr, (gC r cd).next.arr, (⟨(o.toNat : Int) - 16, r⟩ : Cl).arr, rfl, rfl, rfl, rfl, Gr.one _, Gr.one _, Cl.one _, rfl, rfl, rfl, fun i hi => ?_, neqG _, fun V W h => ?_, fun V W h => ?_⟩
  · have : i = 0 ∨ i = 1 ∨ i = 2 ∨ i = 3 ∨ i = 4 := by omega
    rcases this with rfl | rfl | rfl | rfl | rfl <;> rfl
  · have := do_any V (progC o) (by simp) (gC r cd) (gC_ok r h0 h1 cd c0 c1) W h
    rw [step_call o o0 o1 r cd] at this
    exact this
  · have := do_any V (progC o) (by simp) (gC r cd).next (gC_ok2 r h0 h1 cd c0 c1) W h
    rw [step_over2 o r cd] at this
    exact this
theorem else_facts (r : Nat → Int) (h0 : ∀ i, 0 ≤ r i) (h1 : ∀ i, r i < 18446744073709551616) (cd : Int) (c0 : -9223372036854775808 ≤ cd) (c1 : cd ≤ 9223372036854775807) (o : UInt8) (ho : o.toNat < 17 ∨ 38 < o.toNat) :
    ∃ (AC A1 : Array Value) (W0 : Int), gCA r cd = AC ∧ AC.size = 19 ∧ A1.size = 19 ∧ AC.all (·.oneCell') = true ∧ A1.all (·.oneCell') = true ∧ (W0 == 2) = false ∧
    (∀ V W, By W V (progC o) → Calls Try.prog 9 #[V, .agg AC] W fun e w' => e = .returned (.tuple #[.agg A1, .agg zC, .int .i64 W0]) ∧ Below W.heap.size W w') := by
  obtain ⟨hz, hw⟩ := step_else o ho r cd
  refine ⟨(gC r cd).arr, (stepP (progC o) (gC r cd)).1.arr, (stepP (progC o) (gC r cd)).2.2, rfl, rfl, rfl, Gr.one _, Gr.one _, ?_, fun V W h => ?_⟩
  · rcases hw with h | h <;> rw [h] <;> rfl
  · have := do_any V (progC o) (by simp) (gC r cd) (gC_ok r h0 h1 cd c0 c1) W h
    unfold stepV Gr.val Cl.val at this
    rw [hz] at this
    exact this
theorem bytes_C (o : UInt8) (w : World) : Calls Try.prog 10 #[.slice (some ⟨w.heap.size, 0, none⟩) 2 2] (w.alloc (.cells #[.int .u8 0, .int .u8 0, .int .u8 0, .int .u8 0, .int .u8 o.toNat, .int .u8 0, .int .u8 0, .int .u8 0] 45)) fun e w' =>
    ∃ A c, e = .returned (.slice A 8 c) ∧ By w' (.slice A 8 c) (progC o) ∧ Below (w.heap.size + 1) (w.alloc (.cells #[.int .u8 0, .int .u8 0, .int .u8 0, .int .u8 0, .int .u8 o.toNat, .int .u8 0, .int .u8 0, .int .u8 0] 45)) w' := by
  have hC : Cs (w.alloc (.cells #[.int .u8 0, .int .u8 0, .int .u8 0, .int .u8 0, .int .u8 o.toNat, .int .u8 0, .int .u8 0, .int .u8 0] 45)) (.slice (some ⟨w.heap.size, 0, none⟩) 2 2) 2 (bys (flatI [⟨0, 0, 0, 0⟩, ⟨o, 0, 0, 0⟩])) := by
    have := Cs.new w (bys (flatI [⟨0, 0, 0, 0⟩, ⟨o, 0, 0, 0⟩])) 45 2 (by unfold maxLen; omega)
    exact this
  refine (bytes_any _ [⟨0, 0, 0, 0⟩, ⟨o, 0, 0, 0⟩] (by simp) _ hC).mono ?_
  rintro e w' ⟨R, rfl, hR, -, hb⟩
  have hB : By w' R (progC o) := By.of_row hR
  obtain ⟨A, c, rfl, -, -⟩ := hB.val
  exact ⟨A, c, rfl, hB, by simpa using hb⟩
set_option maxHeartbeats 4000000 in
set_option maxRecDepth 100000 in
theorem calls_else (k : Int) (k0 : -9223372036854775808 ≤ k) (k1 : k ≤ 9223372036854775807) (r : Nat → Int) (h0 : ∀ i, 0 ≤ r i) (h1 : ∀ i, r i < 18446744073709551616) (cd : Int) (c0 : -9223372036854775808 ≤ cd) (c1 : cd ≤ 9223372036854775807) (o : UInt8) (hk : (o.toNat : Int) = (16 + k % 256) % 256) (ho : o.toNat < 17 ∨ 38 < o.toNat) (w : World) :
    Calls Try.prog 5 #[.int .i64 k, .agg (rA r), .int .i64 cd] w fun e w' => e = .returned (.bool true) ∧ Below w.heap.size w w' := by
  obtain ⟨AC, A1, W0, hAC, s0, s1, o0, o1, hW0, hD⟩ := else_facts r h0 h1 cd c0 c1 o ho
  have hq := eqC
  have hW1 : ¬ W0 = 2 := by simpa using hW0
  have hW2 : (W0 != 2) = true := by simpa using hW1
  have hwr : Whole 27 (rA r).size := whole27
  have hwG : Whole 30 (gCA r cd).size := whole30
  have hwC : Whole 30 AC.size := by rw [s0]; exact whole30
  have hw1 : Whole 30 A1.size := by rw [s1]; exact whole30
  have hwc : Whole 36 zC.size := whole36
  have hzc : zC.all (·.oneCell') = true := by simp [Value.oneCell']
  have hoG : (gCA r cd).all (·.oneCell') = true := by simp [Value.oneCell']
  have hf1 : zG.size = A1.size := s1.symm
  have hb := bytes_C o
  have e1 := pow255 k
  have e2 : wrap64 (16 + k % 256) = 16 + k % 256 := IntWalk.wrap64_in _ (by omega)
  have e3 : IntKind.u8.wrap (16 + k % 256) = o.toNat := by rw [hk]; simp [IntKind.wrap, IntKind.bits, IntKind.signed]
  have e4 : bits BinOp.and .i64 (16 + k % 256) 255 = o.toNat := by rw [pow255]; exact hk.symm
  have hoI : (o.toNat : Int) < 17 ∨ 38 < (o.toNat : Int) := by omega
  have hon := o.toNat_lt
  have hDH := Lib.hid hD
  have hbH := Lib.hid hb
  have hACH := Lib.hid hAC
  clear hD hAC hb hk ho
  have hk0 := Blk.new w 27 (rA r)
  obtain ⟨W, hW⟩ : ∃ W, W = w.alloc (.cells (rA r) 27) := ⟨_, rfl⟩
  rw [← hW] at hk0
  have hbl : Below w.heap.size w W := by rw [hW]; exact (Below.refl _ _).alloc (Nat.le_refl _) _
  go_enter Try.func5, Try.ntmps5
  go_upto_region 1 with (fail)
  rw [← hW]
  clear hW
  generalize (o.toNat : Int) = O at *
  go_upto_region 2 with (go_at_call 10; refine (hbH.out W).mono ?_; rintro e w1 ⟨A, c, rfl, hV, hb1⟩)
  have hb2 : Below w.heap.size w w1 := (hbl.alloc hbl.size _).trans (hb1.mono (by have := hbl.size; omega))
  have hk1 := (hk0.alloc (.cells #[.int .u8 0, .int .u8 0, .int .u8 0, .int .u8 0, .int .u8 O, .int .u8 0, .int .u8 0, .int .u8 0] 45)).below (hb1.mono (by simp))
  have hkn := Blk.new w1 30 zG
  go_upto_region 3 with (first
    | (refine wpList_load_blk hk1 hwr rfl _ rfl rfl ?_)
    | (refine wpList_store_blk hkn hwG rfl hoG rfl _ _ rfl rfl rfl ?_; intro w2 hB2 hC2))
  have hb3 : Below w1.heap.size w1 w2 := ((Below.refl _ _).alloc (Nat.le_refl _) _).trans (hC2.below (by simp) (by simp))
  rw [hACH.out] at hB2
  have hV2 := hV.below hb3
  have hk2 := hk1.below hb3
  have hb4 := hb2.trans (hb3.mono hb2.size)
  clear hC2 hkn hb1 hb2 hb3 hk0 hk1 hV hbl hACH hwG hoG
  generalize w1.heap.size = D1 at *
  go_upto_region 4 with (first
    | (refine wpList_load_blk hB2 hwC rfl _ rfl rfl ?_)
    | (go_at_call 9; refine (hDH.out _ _ hV2).mono ?_; rintro e w3 ⟨rfl, hb5⟩)
    | (refine wpList_store_blk (two_g w3) hw1 hf1 o1 rfl _ _ rfl rfl rfl ?_; intro w4 hB4 hC4)
    | (refine wpList_store_blk ((two_c w3).chg hC4 (by simp)) hwc rfl hzc rfl _ _ rfl rfl rfl ?_; intro w5 hB5 hC5))
  have hb6 := two_chgB hb5 hC4 hC5
  have hb7 := hb4.trans (hb6.mono hb4.size)
  have q := fun i => hB5.cell i
  have q0 := q 0
  have q1 := q 1
  have q2 := q 2
  have q3 := q 3
  have q4 := q 4
  have q5 := q 5
  simp only [List.getElem?_toArray, List.getElem?_cons_zero, List.getElem?_cons_succ] at q0 q1 q2 q3 q4 q5
  clear q hB5 hB4 hC4 hC5 hb5 hB2 hV2 hk2 hb4 hb6 hDH s0 s1 o0 o1 hf1 hwC hw1 hwr
  rcases hoI with h | h
  · go_wp2_with (go_at_call 8; refine (known_any _).mono ?_; rintro e w9 ⟨rfl, hb9⟩)
    go_ret
    exact ⟨rfl, hb7.trans (hb9.mono hb7.size)⟩
  · have h' : ¬ O < 17 := by omega
    go_wp2_with (go_at_call 8; refine (known_any _).mono ?_; rintro e w9 ⟨rfl, hb9⟩)
    go_ret
    exact ⟨rfl, hb7.trans (hb9.mono hb7.size)⟩
end Go.Proofs
end
section
namespace Go.Proofs
open Go.RowKit
set_option linter.unusedVariables false
set_option linter.unusedSimpArgs false

/-- What holds in the loop. -/
structure CallAt (w W : World) (V : Value) (o : UInt8) (r : Nat → Int) (D : Nat) (A1 CA : Array Value) : Prop where
  bc : Blk W (D + 1) 36 CA
  bg : Blk W D 30 A1
  br : Blk W w.heap.size 27 (rA r)
  bv : By W V (progC o)
  bl : Below w.heap.size w W
theorem CallAt.drewN {w W : World} {V : Value} {o : UInt8} {r : Nat → Int} {D : Nat} {A1 CA : Array Value} (h : CallAt w W V o r D A1 CA) (n : Nat) : CallAt w (W.drewN n) V o r D A1 CA := ⟨h.bc, h.bg, h.br, h.bv, below_drewN h.bl n⟩
set_option maxHeartbeats 4000000 in
set_option maxRecDepth 100000 in
theorem calls_call (k : Int) (k0 : -9223372036854775808 ≤ k) (k1 : k ≤ 9223372036854775807) (r : Nat → Int) (h0 : ∀ i, 0 ≤ r i) (h1 : ∀ i, r i < 18446744073709551616) (cd : Int) (c0 : -9223372036854775808 ≤ cd) (c1 : cd ≤ 9223372036854775807) (o : UInt8) (hk : (o.toNat : Int) = (16 + k % 256) % 256) (ho0 : 17 ≤ o.toNat) (ho1 : o.toNat ≤ 38) (w : World) :
    Calls Try.prog 5 #[.int .i64 k, .agg (rA r), .int .i64 cd] w fun e w' => e = .returned (.bool true) ∧ Below w.heap.size w w' := by
  obtain ⟨AC, A1, CA, hAC, s0, s1, sC, o0, o1, oC, a8, aset, hC0, hCi, hneq, hD, hE⟩ := call_facts r h0 h1 cd c0 c1 o ho0 ho1
  have hwr : Whole 27 (rA r).size := whole27
  have hwG : Whole 30 (gCA r cd).size := whole30
  have hwC : Whole 30 AC.size := by rw [s0]; exact whole30
  have hw1 : Whole 30 A1.size := by rw [s1]; exact whole30
  have hwc : Whole 36 zC.size := whole36
  have hzc : zC.all (·.oneCell') = true := by simp [Value.oneCell']
  have hoG : (gCA r cd).all (·.oneCell') = true := by simp [Value.oneCell']
  have hf1 : zG.size = A1.size := s1.symm
  have hb := bytes_C o
  have e1 := pow255 k
  have e2 : wrap64 (16 + k % 256) = 16 + k % 256 := IntWalk.wrap64_in _ (by omega)
  have e3 : IntKind.u8.wrap (16 + k % 256) = o.toNat := by rw [hk]; simp [IntKind.wrap, IntKind.bits, IntKind.signed]
  have e4 : bits BinOp.and .i64 (16 + k % 256) 255 = o.toNat := by rw [pow255]; exact hk.symm
  have hO0 : 17 ≤ (o.toNat : Int) := by omega
  have hO1 : (o.toNat : Int) ≤ 38 := by omega
  have e5 : wrap64 ((o.toNat : Int) - 16) = (o.toNat : Int) - 16 := IntWalk.wrap64_in _ (by omega)
  have hon := o.toNat_lt
  have hwCA : Whole 36 CA.size := by rw [sC]; exact whole36
  have hfC : zC.size = CA.size := sC.symm
  have hDH := Lib.hid hD
  have hEH := Lib.hid hE
  have hCiH := Lib.hid hCi
  have hrH := Lib.hid (fun i (hi : i < 8) => (show (rA r)[i]? = some (.int .u64 (r i)) by rcases (by omega : i = 0 ∨ i = 1 ∨ i = 2 ∨ i = 3 ∨ i = 4 ∨ i = 5 ∨ i = 6 ∨ i = 7) with rfl | rfl | rfl | rfl | rfl | rfl | rfl | rfl <;> rfl))
  have hasH := Lib.hid (⟨a8, aset, hC0⟩ : _ ∧ _ ∧ _)
  have hbH := Lib.hid hb
  have hACH := Lib.hid hAC
  clear hD hAC hb hk ho0 ho1 hE hCi a8 aset hC0
  have hk0 := Blk.new w 27 (rA r)
  obtain ⟨W, hW⟩ : ∃ W, W = w.alloc (.cells (rA r) 27) := ⟨_, rfl⟩
  rw [← hW] at hk0
  have hbl : Below w.heap.size w W := by rw [hW]; exact (Below.refl _ _).alloc (Nat.le_refl _) _
  go_enter Try.func5, Try.ntmps5
  go_upto_region 1 with (fail)
  rw [← hW]
  clear hW
  generalize (o.toNat : Int) = O at *
  go_upto_region 2 with (go_at_call 10; refine (hbH.out W).mono ?_; rintro e w1 ⟨A, c, rfl, hV, hb1⟩)
  have hb2 : Below w.heap.size w w1 := (hbl.alloc hbl.size _).trans (hb1.mono (by have := hbl.size; omega))
  have hk1 := (hk0.alloc (.cells #[.int .u8 0, .int .u8 0, .int .u8 0, .int .u8 0, .int .u8 O, .int .u8 0, .int .u8 0, .int .u8 0] 45)).below (hb1.mono (by simp))
  have hkn := Blk.new w1 30 zG
  go_upto_region 3 with (first
    | (refine wpList_load_blk hk1 hwr rfl _ rfl rfl ?_)
    | (refine wpList_store_blk hkn hwG rfl hoG rfl _ _ rfl rfl rfl ?_; intro w2 hB2 hC2))
  have hb3 : Below w1.heap.size w1 w2 := ((Below.refl _ _).alloc (Nat.le_refl _) _).trans (hC2.below (by simp) (by simp))
  rw [hACH.out] at hB2
  have hV2 := hV.below hb3
  have hk2 := hk1.below hb3
  have hb4 := hb2.trans (hb3.mono hb2.size)
  have hSD := hk1.lt
  have hVB := Lib.hid (⟨hV, hb3⟩ : _ ∧ _)
  clear hC2 hkn hb1 hb2 hb3 hk0 hk1 hV hbl hACH hwG hoG
  generalize hD1 : w1.heap.size = D1 at *
  go_upto_region 4 with (first
    | (refine wpList_load_blk hB2 hwC rfl _ rfl rfl ?_)
    | (go_at_call 9; refine (hDH.out _ _ hV2).mono ?_; rintro e w3 ⟨rfl, hb5⟩)
    | (refine wpList_store_blk (two_g w3) hw1 hf1 o1 rfl _ _ rfl rfl rfl ?_; intro w4 hB4 hC4)
    | (refine wpList_store_blk ((two_c w3).chg hC4 (by simp)) hwCA hfC oC rfl _ _ rfl rfl rfl ?_; intro w5 hB5 hC5))
  have hb6 := two_chgB hb5 hC4 hC5
  have hb7 := hb4.trans (hb6.mono hb4.size)
  have k1 := hB2.below hb6
  have k2 := hk2.below hb6
  have kV := hV2.below hb6
  have kG := hB4.chg hC5 (by simp)
  have hD13 : D1 < w2.heap.size := hB2.lt
  have hD3 : w2.heap.size ≤ w3.heap.size := hb5.size
  have hwD : w.heap.size < D1 := hSD
  have hbV : Below D1 w1 w5 := hVB.out.2.trans (hb6.mono (by omega))
  clear hB4 hC4 hC5 hb5 hB2 hV2 hk2 hb4 hb6 hDH
  generalize w3.heap.size = D3 at *
  obtain ⟨a8, aset, hC0⟩ := hasH.out
  have c8 := (k1.cell 8).trans a8
  have f8 := k1.frozen 8
  have k3 := k1.set_ 8 (.int .i64 2)
  rw [aset] at k3
  have hF : CallAt w (w5.setCell ⟨D1, 8, none⟩ (.int .i64 2)) (.slice A 8 c) o r D3 A1 CA :=
    ⟨hB5.far (by simp; omega) _, kG.far (by simp; omega) _, k2.far (by simp; omega) _, hVB.out.1.below (by rw [hD1]; exact hbV.setCell (p := ⟨D1, 8, none⟩) (Nat.le_refl _) _), hb7.setCell (p := ⟨D1, 8, none⟩) (by simp; omega) _⟩
  have hwA := hw1
  have hFH := Lib.hid hF
  have g1 := hF.bg
  have q0 := (hF.bc.cell 0).trans hC0
  clear hF hB5 kG k2 kV hbV hb7 hVB k1 hasH a8 aset hC0 hD3 s0 s1 sC hwC hwr o0
  go_upto_region 10 with (first
    | (refine wpList_load_blkG g1 hwA (by rfl) _ rfl rfl ?_)
    | (refine wpList_load_blkG k3 hwA (by rfl) _ rfl rfl ?_))
  clear g1 k3 q0 c8 f8
  generalize World.setCell _ _ _ = W6 at *
  go_wp2
  go_loopw [13] (fun v wr => ∃ i : Nat, v = .int .i64 i ∧ i ≤ 5 ∧ Hid (CallAt w wr (.slice A 8 c) o r D3 A1 CA)) (fun v _ => 5 - (intOf v).toNat)
  case atStart => exact ⟨0, rfl, by omega, hFH⟩
  case round =>
    obtain ⟨i, rfl, hi, hI⟩ := hrel
    by_cases hi5 : i < 5
    · have q1 := (hI.out.bc.cell (1 + i)).trans (hCiH.out i hi5)
      have q2 := (hI.out.br.cell i).trans (hrH.out i (by omega))
      have hi5' : (i : Int) < 5 := by omega
      have hi8' : (i : Int) < 8 := by omega
      have e6 : wrap64 ((i : Int) + 1) = (i : Int) + 1 := IntWalk.wrap64_in _ (by omega)
      go_wp2
      refine wp_region_held_drew (S := fun w' => w'.cell? ⟨D3 + 1, 1 + i, none⟩ = some (.int .u64 (r i)) ∧ w'.cell? ⟨w.heap.size, i, none⟩ = some (.int .u64 (r i))) (by kernel_rfl) ⟨q1, q2⟩ (fun hHeld => ?_)
      simp only [List.setIfInBounds_toArray, List.size_toArray, List.length_cons, List.length_nil, Array.replicate]
      refine wpAnyH_take (i := 0) (v := ?_) rfl (by kernel_rfl) (by kernel_rfl) (by kernel_rfl) (fun _ _ _ h => h) (Or.inl ⟨by rfl, ?_⟩) hHeld ?_
      rotate_left
      · (intro w' hSw; obtain ⟨s0, s1⟩ := hSw; go_simp; try with_reducible rfl)
      simp only [Act.put, List.getElem_toArray, List.getElem_cons_succ, List.getElem_cons_zero, List.setIfInBounds_toArray, List.set_cons_zero, List.set_cons_succ]
      refine wpAnyH_take (i := 1) (v := ?_) rfl (by kernel_rfl) (by kernel_rfl) (by kernel_rfl) (fun _ _ _ h => h) (Or.inl ⟨by rfl, ?_⟩) hHeld ?_
      rotate_left
      · (intro w' hSw; obtain ⟨s0, s1⟩ := hSw; go_simp; try with_reducible rfl)
      simp only [Act.put, List.getElem_toArray, List.getElem_cons_succ, List.getElem_cons_zero, List.setIfInBounds_toArray, List.set_cons_zero, List.set_cons_succ]
      refine wpAnyH_take (i := 2) (v := ?_) rfl (by kernel_rfl) (by kernel_rfl) (by kernel_rfl) (fun _ _ _ h => h) (Or.inl ⟨by rfl, ?_⟩) hHeld ?_
      rotate_left
      · (intro w' hSw; obtain ⟨s0, s1⟩ := hSw; go_simp; try with_reducible rfl)
      simp only [Act.put, List.getElem_toArray, List.getElem_cons_succ, List.getElem_cons_zero, List.setIfInBounds_toArray, List.set_cons_zero, List.set_cons_succ]
      refine wpAnyH_take (i := 3) (v := ?_) rfl (by kernel_rfl) (by kernel_rfl) (by kernel_rfl) (fun _ _ _ h => h) (Or.inl ⟨by rfl, ?_⟩) hHeld ?_
      rotate_left
      · (intro w' hSw; obtain ⟨s0, s1⟩ := hSw; go_simp; try with_reducible rfl)
      simp only [Act.put, List.getElem_toArray, List.getElem_cons_succ, List.getElem_cons_zero, List.setIfInBounds_toArray, List.set_cons_zero, List.set_cons_succ]
      refine wpAnyH_take (i := 4) (v := ?_) rfl (by kernel_rfl) (by kernel_rfl) (by kernel_rfl) (fun _ _ _ h => h) (Or.inl ⟨by rfl, ?_⟩) hHeld ?_
      rotate_left
      · (intro w' hSw; obtain ⟨s0, s1⟩ := hSw; go_simp; try with_reducible rfl)
      simp only [Act.put, List.getElem_toArray, List.getElem_cons_succ, List.getElem_cons_zero, List.setIfInBounds_toArray, List.set_cons_zero, List.set_cons_succ]
      refine wpAnyH_take (i := 5) (v := ?_) rfl (by kernel_rfl) (by kernel_rfl) (by kernel_rfl) (fun _ _ _ h => h) (Or.inl ⟨by rfl, ?_⟩) hHeld ?_
      rotate_left
      · (intro w' hSw; obtain ⟨s0, s1⟩ := hSw; go_simp; try with_reducible rfl)
      simp only [Act.put, List.getElem_toArray, List.getElem_cons_succ, List.getElem_cons_zero, List.setIfInBounds_toArray, List.set_cons_zero, List.set_cons_succ]
      refine wpAnyH_take (i := 6) (v := ?_) rfl (by kernel_rfl) (by kernel_rfl) (by kernel_rfl) (fun _ _ _ h => h) (Or.inl ⟨by rfl, ?_⟩) hHeld ?_
      rotate_left
      · (intro w' hSw; obtain ⟨s0, s1⟩ := hSw; go_simp; try with_reducible rfl)
      simp only [Act.put, List.getElem_toArray, List.getElem_cons_succ, List.getElem_cons_zero, List.setIfInBounds_toArray, List.set_cons_zero, List.set_cons_succ]
      refine wpAnyH_take (i := 7) (v := ?_) rfl (by kernel_rfl) (by kernel_rfl) (by kernel_rfl) (fun _ _ _ h => h) (Or.inl ⟨by rfl, ?_⟩) hHeld ?_
      rotate_left
      · (intro w' hSw; obtain ⟨s0, s1⟩ := hSw; go_simp; try with_reducible rfl)
      simp only [Act.put, List.getElem_toArray, List.getElem_cons_succ, List.getElem_cons_zero, List.setIfInBounds_toArray, List.set_cons_zero, List.set_cons_succ]
      refine wpAnyH_done (by kernel_rfl) ?_ _
      clear h0 h1 e1 e2 e3 e4 e5 hneq hO0 hO1 hzc hfC hf1 hwc hwCA hw1 hwA o1 oC q1 q2 hHeld hFH hi8'
      go_wp2
      go_roundw
      case rel => exact ⟨i + 1, by simp, by omega, Lib.hid (hI.out.drewN 1)⟩
      case measure => simp [intOf]; omega
    · have hi6 : ¬ (i : Int) < 5 := by omega
      have g1 := hI.out.bg
      have hbl := hI.out.bl
      have hbv := hI.out.bv
      go_upto_region 16 with (first
        | (refine wpList_load_blk g1 hwA rfl _ rfl rfl ?_)
        | (go_at_call 9; refine (hEH.out _ _ hbv).mono ?_; rintro e w7 ⟨rfl, hb8⟩)
        | (refine wpList_store_blk (two_g w7) hwA hf1 o1 rfl _ _ rfl rfl rfl ?_; intro w8 hB8 hC8)
        | (refine wpList_store_blk ((two_c w7).chg hC8 (by simp)) hwc rfl hzc rfl _ _ rfl rfl rfl ?_; intro w9 hB9 hC9))
      have hb9 := hbl.trans ((two_chgB hb8 hC8 hC9).mono hbl.size)
      clear g1 hbv hB8 hB9 hC8 hC9 hb8 hbl hf1 hwA o1 hw1
      go_wp2_with (go_at_call 8; refine (known_any _).mono ?_; rintro e w10 ⟨rfl, hb10⟩)
      go_ret
      exact ⟨rfl, hb9.trans (hb10.mono hb9.size)⟩
set_option maxRecDepth 100000 in
theorem calls_any (k : Int) (k0 : -9223372036854775808 ≤ k) (k1 : k ≤ 9223372036854775807) (r : Nat → Int) (h0 : ∀ i, 0 ≤ r i) (h1 : ∀ i, r i < 18446744073709551616) (cd : Int) (c0 : -9223372036854775808 ≤ cd) (c1 : cd ≤ 9223372036854775807) (w : World) :
    Calls Try.prog 5 #[.int .i64 k, .agg (rA r), .int .i64 cd] w fun e w' => e = .returned (.bool true) ∧ Below w.heap.size w w' := by
  have hm : (0 : Int) ≤ (16 + k % 256) % 256 ∧ (16 + k % 256) % 256 < 256 := by omega
  have hk : ((UInt8.ofNat ((16 + k % 256) % 256).toNat).toNat : Int) = (16 + k % 256) % 256 := by rw [UInt8.toNat_ofNat']; omega
  by_cases ho : (UInt8.ofNat ((16 + k % 256) % 256).toNat).toNat < 17 ∨ 38 < (UInt8.ofNat ((16 + k % 256) % 256).toNat).toNat
  · exact calls_else k k0 k1 r h0 h1 cd c0 c1 _ hk ho w
  · exact calls_call k k0 k1 r h0 h1 cd c0 c1 _ hk (by omega) (by omega) w
end Go.Proofs
end
section
namespace Go.Proofs.Ytojpllmghfafjaa.stepCalls
open Go.ChangeShapes Go.WideShapes Go.ChangeAt Go.RowKit
set_option linter.unusedVariables false

theorem own : ownKnob Try.prog.godebug = none := by kernel_rfl

set_option maxRecDepth 100000 in
theorem lifted (os : Os) (started : os.Started) (H : Type) (enc : TypeId × Value → H) :
    ReturnsInHanded {} Try.checked os 5 .any (Rows.stepCallsSpec.pre6 enc Try.prog Try.f5 Rows.stepCallsRow.domain false) (Rows.stepCallsSpec.post enc Try.prog Try.f5 false true false false) := by
  refine returnsInHanded_of_change (C := Try.checked) own started (by kernel_rfl) Try.func5
    (ChangeSpec.witness6 (enc := enc) (C := Try.checked) false ⟨#[], #[.int .i64 0, .agg #[.int .u64 0, .int .u64 0, .int .u64 0, .int .u64 0, .int .u64 0, .int .u64 0, .int .u64 0, .int .u64 0], .int .i64 0], []⟩ 8 (by kernel_rfl) (by kernel_rfl) (by kernel_rfl) (by kernel_rfl)) ?_
  intro W base args ds gs before hval0 hW hcnd _
  have hval : ∀ (j : Nat) t v, Try.f5.params[j]? = some t → args[j]? = some v → Value.okWide Try.prog W .any base t v := hval0
  have hW' := hW
  obtain ⟨p, q, hA0, hV, rfl, hfz, hnd⟩ := hW
  have hA : DataW.TrodAll enc Try.prog W 0 (fun _ => true) true Try.f5.params.toList args.toList ds p := hA0
  rw [Try.params5] at hA hval
  obtain ⟨v0, vs0, d0, ds0, p0, q0, hargs, rfl, rfl, h0, r0⟩ := trodAll_cons hA
  obtain ⟨v1, vs1, d1, ds1, p1, q1, rfl, rfl, rfl, h1, r1⟩ := trodAll_cons r0
  obtain ⟨v2, vs2, d2, ds2, p2, q2, rfl, rfl, rfl, h2, r2⟩ := trodAll_cons r1
  obtain ⟨rfl, rfl, rfl⟩ := trodAll_nil r2
  obtain rfl : args = #[v0, v1, v2] := by cases args; simp_all
  obtain ⟨rfl, rfl⟩ := trodVars_none hV
  obtain ⟨a0, rfl, rfl, rfl, w0⟩ := open_int Try.underlying3 (hval 0 3 v0 rfl rfl) h0
  obtain ⟨a2, rfl, rfl, rfl, w2⟩ := open_int Try.underlying3 (hval 2 3 v2 rfl rfl) h2
  clear hA0 hval0
  simp only [List.append_nil, List.nil_append] at hW'
  obtain ⟨b0, c0⟩ := bounds_i64 w0
  have hlt1 : ∀ x ∈ p1, x.block < W.heap.size := fun x hx => hW'.lt x (by simp [hx])
  obtain ⟨t1, ht1, hu1, rfl⟩ := open_r (hval 1 27 v1 rfl rfl) h1
  obtain ⟨b2, c2⟩ := bounds_i64 w2
  refine (calls_any a0 b0 c0 t1 ht1 hu1 a2 b2 c2 W).mono fun e W' ⟨he, hg⟩ => ?_
  subst he
  exact ⟨_, rfl, post_of_below (pa := ([] ++ (p1 ++ ([] ++ [])))) (pv := []) hW' (fun _ _ _ => (trodAll_cons_mk (shut_bool Try.underlying4 _) trodAll_mk0)) (fun sp hsp => (trodAll_cons_mk (shut_int Try.underlying3 w0) (trodAll_cons_mk (WideElems.Trod_stays Try.laidOut (by kernel_rfl) (of_decide_eq_true (by kernel_rfl)) h1 (fun x hx => hg.same (hlt1 x hx)) (fun x hx => hsp x (by simp [hx]))) (trodAll_cons_mk (shut_int Try.underlying3 w2) trodAll_mk0)))) (fun _ _ => rfl) (by simp)
    hg (ok_one (by kernel_rfl) rfl (okWide_bool_mk Try.underlying4 _))⟩

theorem over : Rows.stepCallsRow.holds Try.pinned (OpenSpec.ofChange Rows.stepCallsSpec) :=
  OpenClaim.holds_of_wide 5 Try.f5 rfl rfl rfl rfl rfl rfl rfl ⟨rfl, rfl, rfl, rfl, rfl⟩ rfl rfl rfl rfl rfl (by kernel_rfl) Try.func5 (by kernel_rfl)
    (of_decide_eq_true (by kernel_rfl)) (by unfold Func.isWrapper; first | (rw [if_pos (by decide +kernel)]; kernel_rfl) | (rw [if_neg (by decide +kernel)]; exact ⟨rfl, rfl⟩))
    (fun os started H enc _ => lifted os started H enc)

/-- ████ THE STATEMENT ████ -/
theorem proved : Rows.StepCallsSaid :=
  over
#print axioms proved
end Go.Proofs.Ytojpllmghfafjaa.stepCalls
end
