import Derived.Test.YtihodeaeacgdpaaReZd
namespace Go.Proofs
open Go.RowKit Go.Sort
set_option linter.unusedVariables false

theorem quiet_sum {P : Program} {k : Nat} {vs : Array Value} {v : Value} {W : World} {a b : Nat} (h : ∀ W, Calls P k vs W fun e w' => e = .returned v ∧ w' = W) : Calls P k vs (W.drewN (a + b)) fun e w' => e = .returned v ∧ ∃ n, w' = W.drewN (a + n) :=
  (h _).mono fun e w' ⟨h1, h2⟩ => ⟨h1, b, h2⟩
theorem sift_end {hi first r : Nat} {d : Array Int} (h : ¬ 2 * r + 1 < hi) : siftDown ltInt hi first r d = d := by
  rw [siftDown, dif_pos (by omega)]
theorem sift_1 {hi first r : Nat} {d : Array Int} (h : 2 * r + 1 < hi) (h1 : ¬ 2 * r + 2 < hi) : siftDown ltInt hi first r d = if ltInt d[first + r]! d[first + (2 * r + 1)]! then siftDown ltInt hi first (2 * r + 1) (swp d (first + r) (first + (2 * r + 1))) else d := by
  rw [siftDown, dif_neg (by omega), if_neg (by simp; omega)]
  cases ltInt d[first + r]! d[first + (2 * r + 1)]! <;> rfl
theorem sift_2 {hi first r : Nat} {d : Array Int} (h : 2 * r + 2 < hi) (hl : ltInt d[first + (2 * r + 1)]! d[first + (2 * r + 2)]! = false) : siftDown ltInt hi first r d = if ltInt d[first + r]! d[first + (2 * r + 1)]! then siftDown ltInt hi first (2 * r + 1) (swp d (first + r) (first + (2 * r + 1))) else d := by
  have e : first + (2 * r + 1) + 1 = first + (2 * r + 2) := by omega
  rw [siftDown, dif_neg (by omega), e, hl, if_neg (by simp)]
  cases ltInt d[first + r]! d[first + (2 * r + 1)]! <;> rfl
theorem sift_3 {hi first r : Nat} {d : Array Int} (h : 2 * r + 2 < hi) (hl : ltInt d[first + (2 * r + 1)]! d[first + (2 * r + 2)]! = true) : siftDown ltInt hi first r d = if ltInt d[first + r]! d[first + (2 * r + 2)]! then siftDown ltInt hi first (2 * r + 2) (swp d (first + r) (first + (2 * r + 2))) else d := by
  have e : first + (2 * r + 1) + 1 = first + (2 * r + 2) := by omega
  rw [siftDown, dif_neg (by omega), e, hl, if_pos (by simp; omega), dif_pos h]
  cases ltInt d[first + r]! d[first + (2 * r + 2)]! <;> rfl

set_option maxHeartbeats 6400000 in
set_option maxRecDepth 100000 in
theorem sift_u {w0 w : World} {g cap : Nat} {d : Array Int} (h : Ud w0 w g cap d) (lo hi first : Nat) (hb : first + hi ≤ d.size) (hlo : lo ≤ d.size) (hsz : d.size ≤ 100000) :
    Calls Try.prog 60 #[.slice (some ⟨g, 0, none⟩) d.size cap, .int .i64 lo, .int .i64 hi, .int .i64 first] w fun e w' => e = .returned (.tuple #[]) ∧ Ud w0 w' g cap (siftDown ltInt hi first lo d) := by
  obtain ⟨n, hn⟩ : ∃ n, n = d.size := ⟨_, rfl⟩
  have HI0 := Lib.hid (show Ud w0 w g cap d ∧ d.size = n ∧ siftDown ltInt hi first lo d = siftDown ltInt hi first lo d from ⟨h, hn.symm, rfl⟩)
  rw [← hn] at hb hlo hsz ⊢
  obtain ⟨R, hR⟩ : ∃ R, R = siftDown ltInt hi first lo d := ⟨_, rfl⟩
  rw [← hR] at HI0 ⊢
  clear h hn
  have HR0 := Lib.hid hR
  clear hR
  go_enter Try.func60, Try.ntmps60
  go_wp2
  go_loopg [8] (hi - lo) (fun gi s8 wx => ∃ (r : Nat) (dk : Array Int), (gi = hi - r ∧ r ≤ n) ∧ s8 = .int .i64 r ∧ Hid (Ud w0 wx g cap dk ∧ dk.size = n ∧ siftDown ltInt hi first r dk = R))
  case atStart => exact ⟨lo, d, ⟨rfl, hlo⟩, by go_num, Lib.hid ⟨HI0.out.1, HI0.out.2.1, HR0.out.symm⟩⟩
  case round =>
    obtain ⟨r, dk, ⟨hg, hrn⟩, rfl, HR⟩ := hrel
    obtain ⟨p, hp⟩ : ∃ p, p = 2 * r + 1 := ⟨_, rfl⟩
    obtain ⟨q, hq⟩ : ∃ q, q = 2 * r + 2 := ⟨_, rfl⟩
    have m0 : IntKind.i64.wrap (2 * (r : Int)) = 2 * (r : Int) := by rw [IntWalk.i64_in _ (by omega)]
    have m1 : IntKind.i64.wrap (2 * (r : Int) + 1) = (p : Int) := by rw [IntWalk.i64_in _ (by omega)]; omega
    have m2 : IntKind.i64.wrap ((p : Int) + 1) = (q : Int) := by rw [IntWalk.i64_in _ (by omega)]; omega
    by_cases hlt : p < hi
    · have k1 : decide ((p : Int) ≥ (hi : Int)) = false := by simpa using hlt
      have k1' : decide ((hi : Int) ≤ (p : Int)) = false := by simpa using hlt
      have k1'' : ¬ (hi : Int) ≤ (p : Int) := by omega
      have k1n : decide (hi ≤ p) = false := by simpa using hlt
      obtain ⟨A, hA⟩ : ∃ A, A = first + r := ⟨_, rfl⟩
      obtain ⟨B, hB⟩ : ∃ B, B = first + p := ⟨_, rfl⟩
      obtain ⟨C, hC⟩ : ∃ C, C = first + q := ⟨_, rfl⟩
      have m3 : IntKind.i64.wrap ((first : Int) + (r : Int)) = (A : Int) := by rw [IntWalk.i64_in _ (by omega)]; omega
      have m4 : IntKind.i64.wrap ((first : Int) + (p : Int)) = (B : Int) := by rw [IntWalk.i64_in _ (by omega)]; omega
      have m5 : IntKind.i64.wrap ((B : Int) + 1) = (C : Int) := by rw [IntWalk.i64_in _ (by omega)]; omega
      have m6 : IntKind.i64.wrap ((first : Int) + (q : Int)) = (C : Int) := by rw [IntWalk.i64_in _ (by omega)]; omega
      have c0 := HR.out.1.cell (j := A) (by rw [HR.out.2.1]; omega)
      have c1 := HR.out.1.cell (j := B) (by rw [HR.out.2.1]; omega)
      have f0 := HR.out.1.frozen (by rw [HR.out.2.1]; omega) A
      have f1 := HR.out.1.frozen (by rw [HR.out.2.1]; omega) B
      have hs1 := fun q => (HR.out.1.drewN q).swap (i := A) (j := B) (by rw [HR.out.2.1]; omega) (by rw [HR.out.2.1]; omega)
      have hs2 := fun q => (HR.out.1.drewN q).swap' (i := A) (j := B) (by rw [HR.out.2.1]; omega) (by rw [HR.out.2.1]; omega) (by omega)
      have e1 := sift_1 (hi := hi) (first := first) (r := r) (d := dk) (by omega)
      rw [← hp, ← hq, ← hA, ← hB] at e1
      obtain ⟨x, hx⟩ : ∃ x, x = dk[A]! := ⟨_, rfl⟩
      obtain ⟨y, hy⟩ : ∃ y, y = dk[B]! := ⟨_, rfl⟩
      rw [← hx] at c0 hs1 hs2 e1
      rw [← hy] at c1 hs1 hs2 e1
      have i0 : (0 : Int) ≤ (A : Int) := by omega
      have i1 : (A : Int) < (n : Int) := by omega
      have i2 : (0 : Int) ≤ (B : Int) := by omega
      have i3 : (B : Int) < (n : Int) := by omega
      have hAB : ¬ A = B := by omega
      have hBA : ¬ B = A := by omega
      have hless : ∀ u v, ∀ W, Calls Try.prog 54 #[.int .u64 u, .int .u64 v] W fun e w' => e = .returned (.bool (ltInt u v)) ∧ w' = W := fun u v W => (less_u u v W).mono fun e w' ⟨h1, h2⟩ => ⟨h1, h2.symm⟩
      have hLx := hless x y
      by_cases hq2 : q < hi
      · have k2 : decide ((q : Int) < (hi : Int)) = true := by simpa using hq2
        have k2' : (q : Int) < (hi : Int) := by omega
        have k2n : decide (q < hi) = true := by simpa using hq2
        have c2 := HR.out.1.cell (j := C) (by rw [HR.out.2.1]; omega)
        have f2 := HR.out.1.frozen (by rw [HR.out.2.1]; omega) C
        have ht1 := fun q => (HR.out.1.drewN q).swap (i := A) (j := C) (by rw [HR.out.2.1]; omega) (by rw [HR.out.2.1]; omega)
        have ht2 := fun q => (HR.out.1.drewN q).swap' (i := A) (j := C) (by rw [HR.out.2.1]; omega) (by rw [HR.out.2.1]; omega) (by omega)
        have e2 := sift_2 (hi := hi) (first := first) (r := r) (d := dk) (by omega)
        have e3 := sift_3 (hi := hi) (first := first) (r := r) (d := dk) (by omega)
        rw [← hp, ← hq, ← hA, ← hB, ← hC] at e2 e3
        obtain ⟨z, hz⟩ : ∃ z, z = dk[C]! := ⟨_, rfl⟩
        rw [← hx] at ht1 ht2 e2 e3
        rw [← hy] at e2 e3
        rw [← hz] at c2 ht1 ht2 e2 e3
        have i4 : (0 : Int) ≤ (C : Int) := by omega
        have i5 : (C : Int) < (n : Int) := by omega
        have hAC : ¬ A = C := by omega
        have hCA : ¬ C = A := by omega
        have hL1 := hless y z
        have hLz := hless x z
        have HN := Lib.hid (show r < p ∧ p < hi ∧ r < q ∧ q < hi ∧ hi ≤ n from by omega)
        clear hless hx hy hz hp hq hA hB hC e1
        cases hl1 : ltInt y z with
        | true =>
          rw [hl1] at hL1
          have e := e3 hl1
          clear e2 e3 hs1 hs2 hLx hl1
          cases hl : ltInt x z with
          | true =>
            rw [hl] at hLz e
            rw [if_pos rfl] at e
            have HS1 := Lib.hid ht1
            have HS2 := Lib.hid ht2
            have E := Lib.hid e
            clear ht1 ht2 hl e
            go_wp2
            go_quiet ((go_at_call 54; exact Calls.quiet_of_same (hL1 _)))
            go_wp2
            go_quiet ((go_at_call 54; first | exact Calls.quiet_of_same (hLz _) | exact quiet_sum hLz))
            go_wp2
            go_region
            all_goals
              go_wp2
              go_roundg (hi - q)
              case measure => have := HN.out; omega
              case rel =>
                have hn := HN.out
                first
                  | exact ⟨q, _, ⟨rfl, by omega⟩, rfl, Lib.hid ⟨HS1.out _, by rw [swpU_size]; exact HR.out.2.1, by rw [← E.out]; exact HR.out.2.2⟩⟩
                  | exact ⟨q, _, ⟨rfl, by omega⟩, rfl, Lib.hid ⟨HS2.out _, by rw [swpU_size]; exact HR.out.2.1, by rw [← E.out]; exact HR.out.2.2⟩⟩
          | false =>
            rw [hl] at hLz e
            rw [if_neg (by simp)] at e
            have E := Lib.hid e
            clear ht1 ht2 hl e
            go_wp2
            go_quiet ((go_at_call 54; exact Calls.quiet_of_same (hL1 _)))
            go_wp2
            go_quiet ((go_at_call 54; first | exact Calls.quiet_of_same (hLz _) | exact quiet_sum hLz))
            go_wp2
            refine bodyPost_ret (results_none rfl _ _ _) rfl ?_
            exact ⟨rfl, by rw [← HR.out.2.2, E.out]; exact (HR.out.1.drewN _).drewN _⟩
        | false =>
          rw [hl1] at hL1
          have e := e2 hl1
          clear e2 e3 ht1 ht2 hLz hl1
          cases hl : ltInt x y with
          | true =>
            rw [hl] at hLx e
            rw [if_pos rfl] at e
            have HS1 := Lib.hid hs1
            have HS2 := Lib.hid hs2
            have E := Lib.hid e
            clear hs1 hs2 hl e
            go_wp2
            go_quiet ((go_at_call 54; exact Calls.quiet_of_same (hL1 _)))
            go_wp2
            go_quiet ((go_at_call 54; first | exact Calls.quiet_of_same (hLx _) | exact quiet_sum hLx))
            go_wp2
            go_region
            all_goals
              go_wp2
              go_roundg (hi - p)
              case measure => have := HN.out; omega
              case rel =>
                have hn := HN.out
                first
                  | exact ⟨p, _, ⟨rfl, by omega⟩, rfl, Lib.hid ⟨HS1.out _, by rw [swpU_size]; exact HR.out.2.1, by rw [← E.out]; exact HR.out.2.2⟩⟩
                  | exact ⟨p, _, ⟨rfl, by omega⟩, rfl, Lib.hid ⟨HS2.out _, by rw [swpU_size]; exact HR.out.2.1, by rw [← E.out]; exact HR.out.2.2⟩⟩
          | false =>
            rw [hl] at hLx e
            rw [if_neg (by simp)] at e
            have E := Lib.hid e
            clear hs1 hs2 hl e
            go_wp2
            go_quiet ((go_at_call 54; exact Calls.quiet_of_same (hL1 _)))
            go_wp2
            go_quiet ((go_at_call 54; first | exact Calls.quiet_of_same (hLx _) | exact quiet_sum hLx))
            go_wp2
            refine bodyPost_ret (results_none rfl _ _ _) rfl ?_
            exact ⟨rfl, by rw [← HR.out.2.2, E.out]; exact (HR.out.1.drewN _).drewN _⟩
      · have k2 : decide ((q : Int) < (hi : Int)) = false := by simpa using hq2
        have k2' : ¬ (q : Int) < (hi : Int) := by omega
        have k2n : decide (q < hi) = false := by simpa using hq2
        have e := e1 (by omega)
        have HN := Lib.hid (show r < p ∧ p < hi ∧ hi ≤ n from by omega)
        clear hless hx hy hp hq hA hB hC e1
        cases hl : ltInt x y with
        | true =>
          rw [hl] at hLx e
          rw [if_pos rfl] at e
          have HS1 := Lib.hid hs1
          have HS2 := Lib.hid hs2
          have E := Lib.hid e
          clear hs1 hs2 hl e
          go_wp2
          go_quiet (fail)
          go_wp2
          go_quiet ((go_at_call 54; first | exact Calls.quiet_of_same (hLx _) | exact quiet_sum hLx))
          go_wp2
          go_region
          all_goals
            go_wp2
            go_roundg (hi - p)
            case measure => have := HN.out; omega
            case rel =>
              have hn := HN.out
              first
                | exact ⟨p, _, ⟨rfl, by omega⟩, rfl, Lib.hid ⟨HS1.out _, by rw [swpU_size]; exact HR.out.2.1, by rw [← E.out]; exact HR.out.2.2⟩⟩
                | exact ⟨p, _, ⟨rfl, by omega⟩, rfl, Lib.hid ⟨HS2.out _, by rw [swpU_size]; exact HR.out.2.1, by rw [← E.out]; exact HR.out.2.2⟩⟩
        | false =>
          rw [hl] at hLx e
          rw [if_neg (by simp)] at e
          have E := Lib.hid e
          clear hs1 hs2 hl e
          go_wp2
          go_quiet (fail)
          go_wp2
          go_quiet ((go_at_call 54; first | exact Calls.quiet_of_same (hLx _) | exact quiet_sum hLx))
          go_wp2
          refine bodyPost_ret (results_none rfl _ _ _) rfl ?_
          exact ⟨rfl, by rw [← HR.out.2.2, E.out]; exact (HR.out.1.drewN _).drewN _⟩
    · have k1 : decide ((p : Int) ≥ (hi : Int)) = true := by simp; omega
      have k1' : decide ((hi : Int) ≤ (p : Int)) = true := by simp; omega
      have k1'' : (hi : Int) ≤ (p : Int) := by omega
      have k1n : decide (hi ≤ p) = true := by simp; omega
      have HE := Lib.hid (show R = dk by rw [← HR.out.2.2, sift_end (by omega)])
      clear hp hq hg
      go_wp2
      go_end0
      exact ⟨rfl, by rw [HE.out]; exact HR.out.1⟩
end Go.Proofs
