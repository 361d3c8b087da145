import Derived.Test.YtllohclpaggfbaaNumI
namespace Go.Proofs
open Go.RowKit
set_option linter.unusedVariables false

/-- The first k rounds of 'from the top down, twice as much and one more where f says so'. -/
def acc (f : Int → Bool) : Nat → Int
  | 0 => 0
  | k + 1 => 2 * acc f k + (f (7 - (k : Int))).toInt
theorem acc_bd (f : Int → Bool) (k : Nat) : 0 ≤ acc f k ∧ acc f k < 2 ^ k := by
  induction k with
  | zero => simp [acc]
  | succ k ih =>
    simp only [acc]
    rw [Int.pow_succ]
    cases f (7 - (k : Int)) <;> simp <;> omega
theorem acc_8 (f : Int → Bool) : acc f 8 = setOf f := by
  have e : acc f 8 = 2 * (2 * (2 * (2 * (2 * (2 * (2 * (2 * 0 + (f 7).toInt) + (f 6).toInt) + (f 5).toInt) + (f 4).toInt) + (f 3).toInt) + (f 2).toInt) + (f 1).toInt) + (f 0).toInt := rfl
  rw [e]
  unfold setOf
  omega
theorem acc_lt (f : Int → Bool) (k : Nat) (hk : k ≤ 8) : 0 ≤ acc f k ∧ acc f k < 256 := by
  have := acc_bd f k
  have h2 : (2 : Int) ^ k ≤ 2 ^ 8 := by
    have : (2 : Nat) ^ k ≤ 2 ^ 8 := Nat.pow_le_pow_right (by decide) hk
    exact_mod_cast this
  omega
theorem acc_yes (f : Int → Bool) (k : Nat) (h : f (7 - (k : Int)) = true) : acc f (k + 1) = 2 * acc f k + 1 := by simp [acc, h]
theorem acc_no (f : Int → Bool) (k : Nat) (h : f (7 - (k : Int)) = false) : acc f (k + 1) = 2 * acc f k := by simp [acc, h]

/-- Is p among the first k of l? -/
def memB (l : List Int) (p : Int) (k : Nat) : Bool := decide (p ∈ l.take k)
theorem memB_0 (l : List Int) (p : Int) : memB l p 0 = false := by simp [memB]
theorem memB_succ (l : List Int) (p : Int) (k : Nat) (h : k < l.length) : memB l p (k + 1) = (memB l p k || (l[k]?.getD 0 == p)) := by
  unfold memB
  rw [List.take_succ_eq_append_getElem h, List.getElem?_eq_getElem h]
  rw [Bool.eq_iff_iff, Bool.or_eq_true, decide_eq_true_iff, decide_eq_true_iff, List.mem_append, List.mem_singleton, Option.getD_some, beq_iff_eq, eq_comm (a := p)]
theorem memB_all (l : List Int) (p : Int) : memB l p l.length = decide (p ∈ l) := by simp [memB]

set_option maxHeartbeats 4000000 in
set_option maxRecDepth 100000 in
theorem ref_of (v : Value) (l : List Int) (B : Nat) (hl : l.length ≤ 65536) (w : World) (hR : RowI w B v l) :
    Calls Try.prog 22 #[v] w fun e w' => e = .returned (.int .u8 (setOf (fun i => decide (i ∈ l)))) ∧ w = w' := by
  obtain ⟨A, c, rfl, _, hc⟩ := hR
  obtain ⟨m, hm⟩ : ∃ m, m = l.length := ⟨_, rfl⟩
  have Hm := Lib.hid hm
  rw [← hm] at hc hl ⊢
  clear hm
  have H8 := Lib.hid (acc_8 (fun i => decide (i ∈ l)))
  obtain ⟨f, hf⟩ : ∃ f : Int → Bool, f = fun i => decide (i ∈ l) := ⟨_, rfl⟩
  rw [← hf] at H8 ⊢
  have Hf : Hid (∀ p, f p = memB l p m) := Lib.hid (by intro p; rw [Hm.out, memB_all, hf])
  clear hf
  go_enter Try.func22, Try.ntmps22
  go_wp2
  go_loop [3, 4, 5, 6] (fun n p _ _ => ∃ k : Nat, k ≤ 8 ∧ p = .int .i64 (7 - (k : Int)) ∧ n = .int .i64 (acc f k)) (fun _ p _ _ => (intOf p + 1).toNat)
  case atStart => exact ⟨0, Nat.zero_le _, rfl, rfl⟩
  case round =>
    obtain ⟨k, hk, rfl, rfl⟩ := hrel
    obtain ⟨b0, b1⟩ := acc_lt f k hk
    by_cases hlt : k < 8
    · have q0 : 0 ≤ 7 - (k : Int) := by omega
      have q1 : 7 - (k : Int) ≤ 7 := by omega
      have HY := Lib.hid (acc_yes f k)
      have HN := Lib.hid (acc_no f k)
      obtain ⟨p, hp⟩ : ∃ p, p = 7 - (k : Int) := ⟨_, rfl⟩
      rw [← hp] at q0 q1 HY HN ⊢
      have Hp := Lib.hid hp
      clear hp
      go_wp2
      go_loop [5, 6] (fun is i => ∃ j : Nat, j ≤ m ∧ i = .int .i64 j ∧ is = .bool (memB l p j)) (fun _ i => m - (intOf i).toNat)
      case atStart => exact ⟨0, Nat.zero_le _, rfl, by rw [memB_0]⟩
      case round =>
        obtain ⟨j, hj, rfl, rfl⟩ := hrel
        by_cases hjl : j < m
        · obtain ⟨g, rfl, hg, hcell⟩ := hc j hjl
          have HS := Lib.hid (memB_succ l p j (by rw [← Hm.out]; exact hjl))
          cases hb : memB l p j with
          | true =>
            go_wp2
            go_round
            case rel => exact ⟨j + 1, by omega, by go_num, by rw [HS.out, hb]; rfl⟩
            case measure => simp [intOf]; omega
          | false =>
            go_wp2
            go_round
            case rel => exact ⟨j + 1, by omega, by go_num, by rw [HS.out, hb]; simp⟩
            case measure => simp [intOf]; omega
        · obtain rfl : j = m := by omega
          cases hb : memB l p j with
          | true =>
            go_wp2
            go_round
            case rel => exact ⟨k + 1, by omega, by rw [Hp.out]; simp; omega, by rw [HY.out (by rw [Hf.out, hb])]⟩
            case measure => simp [intOf]; omega
          | false =>
            go_wp2
            go_round
            case rel => exact ⟨k + 1, by omega, by rw [Hp.out]; simp; omega, by rw [HN.out (by rw [Hf.out, hb])]⟩
            case measure => simp [intOf]; omega
    · obtain rfl : k = 8 := by omega
      go_wp2
      go_ret
      exact ⟨by rw [H8.out]; rfl, rfl⟩

theorem setOf_bd (f : Int → Bool) : 0 ≤ setOf f ∧ setOf f < 256 := by rw [← acc_8]; exact acc_lt f 8 (by omega)
/-- The set of those below k. -/
def firstS (k : Nat) : Int := setOf (fun i => decide (i < (k : Int)))
theorem first_in : ∀ k : Fin 8, setOf (fun i => bitOf (firstS k.val) i || decide (i = (k.val : Nat))) = firstS (k.val + 1) := by decide +kernel
theorem firstS_succ (k : Nat) (h : k < 8) : setOf (fun i => bitOf (firstS k) i || decide (i = (k : Int))) = firstS (k + 1) := first_in ⟨k, h⟩
/-- How many Ps a mask of n has. -/
def capN (n : Int) : Nat := (min n 8).toNat
theorem with_first (k : Nat) (h : k < 8) (w : World) : Calls Try.prog 21 #[.int .u8 (firstS k), .int .i64 (k : Int)] w fun e w' => e = .returned (.int .u8 (firstS (k + 1))) ∧ w = w' := by
  have := setOf_bd (fun i => decide (i < (k : Int)))
  rw [← firstS_succ k h]
  exact with_any (firstS k) k this.1 this.2 w
set_option maxHeartbeats 1000000 in
theorem mask_any (n : Int) (w : World) :
    Calls Try.prog 25 #[.int .i64 n] w fun e w' => e = .returned (.int .u8 (firstS (capN n))) ∧ w = w' := by
  have h0 : Hid (firstS 0 = 0) := Lib.hid (by decide)
  have hcap : ∀ k : Nat, (k : Int) < min n 8 → k < capN n := fun k h => by unfold capN; omega
  have hcap2 : ∀ k : Nat, k ≤ capN n → ¬ (k : Int) < min n 8 → k = capN n := fun k h h' => by unfold capN at *; omega
  have hc8 : capN n ≤ 8 := by unfold capN; omega
  go_enter Try.func25, Try.ntmps25
  go_wp2
  go_loop [3, 7] (fun t i => ∃ k : Nat, k ≤ capN n ∧ i = .int .i64 k ∧ t = .int .u8 (firstS k)) (fun _ i => capN n - (intOf i).toNat)
  case atStart => exact ⟨0, Nat.zero_le _, rfl, by rw [h0.out]⟩
  case round =>
    obtain ⟨k, hk, rfl, rfl⟩ := hrel
    have hk8 : k ≤ 8 := by omega
    by_cases hlt : (k : Int) < min n 8
    · have hkc := hcap k hlt
      clear hcap hcap2
      have hW := fun w => with_first k (by omega) w
      go_wp2_with (go_at_call 21; refine (hW _).mono ?_; clear hW; rintro e w' ⟨rfl, rfl⟩)
      go_round
      case rel => exact ⟨k + 1, by omega, by go_num, rfl⟩
      case measure => simp [intOf]; omega
    · have hkc := hcap2 k hk (by omega)
      clear hcap hcap2
      go_wp2
      go_ret
      exact ⟨by rw [← hkc]; rfl, rfl⟩
end Go.Proofs
