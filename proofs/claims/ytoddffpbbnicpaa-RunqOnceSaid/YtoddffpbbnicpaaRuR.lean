import Derived.Test.YtoddffpbbnicpaaRuQ
namespace Go.Proofs
open Go.RowKit
set_option linter.unusedVariables false

/-! ### Stealing, plainly -/
def stl (f : Int → Bool) : Nat → List Int → List Int
  | 0, _ => []
  | _ + 1, [] => []
  | k + 1, x :: l => if f x then x :: stl f k l else stl f (k + 1) l
def rst (f : Int → Bool) : Nat → List Int → List Int
  | 0, l => l
  | _ + 1, [] => []
  | k + 1, x :: l => if f x then rst f k l else x :: rst f (k + 1) l
def NoF (f : Int → Bool) (R : List Int) (i : Nat) : Prop := ∀ j, j < i → ∀ y, R[j]? = some y → f y = false
theorem stl_zero (f : Int → Bool) (l : List Int) : stl f 0 l = [] := by cases l <;> rfl
theorem rst_zero (f : Int → Bool) (l : List Int) : rst f 0 l = l := by cases l <;> rfl
theorem steal_none {f : Int → Bool} {R : List Int} (h : NoF f R R.length) (k : Nat) : stl f k R = [] ∧ rst f k R = R := by
  cases k with
  | zero => exact ⟨stl_zero _ _, rst_zero _ _⟩
  | succ k =>
    induction R with
    | nil => exact ⟨rfl, rfl⟩
    | cons x l ih =>
      have h0 : f x = false := h 0 (by simp) x rfl
      have := ih (fun j hj y hy => h (j + 1) (by simp; omega) y (by simpa using hy))
      constructor
      · unfold stl; rw [h0]; exact this.1
      · unfold rst; rw [h0]; simp only [Bool.false_eq_true, if_false]; rw [this.2]
theorem steal_one {f : Int → Bool} {R : List Int} {i : Nat} {y : Int} (h : NoF f R i) (hy : R[i]? = some y) (hf : f y = true) (k : Nat) :
    stl f (k + 1) R = y :: stl f k (R.drop (i + 1)) ∧ rst f (k + 1) R = R.take i ++ rst f k (R.drop (i + 1)) := by
  induction R generalizing i with
  | nil => simp at hy
  | cons x l ih =>
    cases i with
    | zero =>
      simp at hy
      subst hy
      constructor
      · show (if f x then _ else _) = _
        rw [hf]; simp
      · show (if f x then _ else _) = _
        rw [hf]; simp
    | succ i =>
      have h0 : f x = false := h 0 (by omega) x rfl
      have := ih (i := i) (fun j hj y hy => h (j + 1) (by omega) y (by simpa using hy)) (by simpa using hy)
      constructor
      · show (if f x then _ else _) = _
        rw [h0]; simpa using this.1
      · show (if f x then _ else _) = _
        rw [h0]; simpa using this.2
theorem steal_len (f : Int → Bool) (k : Nat) (l : List Int) : (stl f k l).length + (rst f k l).length = l.length := by
  induction l generalizing k with
  | nil => cases k <;> rfl
  | cons x l ih =>
    cases k with
    | zero => rw [stl_zero, rst_zero]; simp
    | succ k =>
      unfold stl rst
      by_cases hf : f x = true
      · rw [if_pos hf, if_pos hf]; have := ih k; simp; omega
      · rw [if_neg hf, if_neg hf]; have := ih (k + 1); simp; omega
theorem NoF.snoc {f : Int → Bool} {R : List Int} {i : Nat} {y : Int} (h : NoF f R i) (hy : R[i]? = some y) (hf : f y = false) : NoF f R (i + 1) := fun j hj z hz => by
  by_cases e : j = i
  · subst e; rw [hy] at hz; rw [← Option.some.inj hz]; exact hf
  · exact h j (by omega) z hz
set_option maxHeartbeats 800000 in
theorem count_any {w : World} {T : List Nat} {v c1 c2 : Value} {R : List Int} {f : Int → Bool} (h : Rd w v R) (hf : MayF w T c1 c2 f) (hn : R.length ≤ 8192) :
    Calls Try.prog 63 #[v, .func (.func 61) #[] #[c1, c2]] w fun e w' => e = .returned (.int .i64 (R.countP f : Nat)) ∧ ∃ k, w' = w.drewN k := by
  obtain ⟨A, c, rfl, _, _, _, o⟩ := h.open_
  obtain ⟨n, hnl⟩ : ∃ n, n = R.length := ⟨_, rfl⟩
  rw [← hnl] at hn ⊢
  have HN := Lib.hid hnl
  have O := Lib.hid o
  have HF := Lib.hid hf
  have hle : ∀ k, (R.take k).countP f ≤ n := fun k => by
    have h1 := List.countP_le_length (p := f) (l := R.take k)
    rw [List.length_take] at h1; omega
  have HLE := Lib.hid hle
  clear h hf hnl o hle
  go_enter Try.func63, Try.ntmps63
  go_wp2
  go_loopw [5, 10] (fun s i wr => ∃ k d : Nat, k ≤ n ∧ i = .int .i64 k ∧ wr = w.drewN d ∧ s = .int .i64 ((R.take k).countP f : Nat)) (fun _ i _ => n - (intOf i).toNat)
  case atStart => exact ⟨0, 0, Nat.zero_le _, rfl, rfl, rfl⟩
  case round =>
    obtain ⟨k, d, hk, rfl, rfl, rfl⟩ := hrel
    by_cases hlt : k < n
    · obtain ⟨y, hy⟩ : ∃ y, R[k]? = some y := ⟨_, List.getElem?_eq_getElem (by rw [← HN.out]; exact hlt)⟩
      obtain ⟨b, p, rfl, _, hc⟩ := O.out k y hy
      have hcall := HF.out (w.drewN d) ((Chg.refl _ _).drewN d) y
      have HT := Lib.hid (show (R.take (k + 1)).countP f = (R.take k).countP f + (if f y then 1 else 0) by
        obtain ⟨hk9, rfl⟩ := List.getElem?_eq_some_iff.1 hy
        rw [List.take_succ_eq_append_getElem hk9, List.countP_append]
        simp [List.countP_cons])
      have hcn := HLE.out k
      obtain ⟨C, hC⟩ : ∃ C, C = (R.take k).countP f := ⟨_, rfl⟩
      rw [← hC] at HT hcn ⊢
      have i0 : (0 : Int) ≤ (k : Int) := by omega
      have i1 : (k : Int) < (n : Int) := by omega
      obtain ⟨B, hB⟩ : ∃ B, B = f y := ⟨_, rfl⟩
      rw [← hB] at hcall HT
      clear hy hC hB
      cases B with
      | true =>
        go_wp2_with (go_at_call 61; refine hcall.mono ?_; rintro e w' ⟨rfl, d2, rfl⟩)
        go_roundw
        case rel => exact ⟨k + 1, _, by omega, by go_num, rfl, by rw [HT.out]; simp⟩
        case measure => simp [intOf]; omega
      | false =>
        go_wp2_with (go_at_call 61; refine hcall.mono ?_; rintro e w' ⟨rfl, d2, rfl⟩)
        go_roundw
        case rel => exact ⟨k + 1, _, by omega, by go_num, rfl, by rw [HT.out]; simp⟩
        case measure => simp [intOf]; omega
    · obtain rfl : k = n := by omega
      have HE := Lib.hid (show R.take k = R by rw [HN.out, List.take_length])
      go_wp2
      go_ret
      exact ⟨by rw [HE.out]; rfl, _, rfl⟩
end Go.Proofs
