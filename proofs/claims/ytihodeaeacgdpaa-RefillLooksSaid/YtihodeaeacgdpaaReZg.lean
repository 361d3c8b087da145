import Derived.Test.YtihodeaeacgdpaaReZf
namespace Go.Proofs
open Go.RowKit Go.Sort
set_option linter.unusedVariables false

theorem sift_size (hi first : Nat) : ∀ (m r : Nat) (d : Array Int), hi - r ≤ m → (siftDown ltInt hi first r d).size = d.size := by
  intro m
  induction m with
  | zero => intro r d h; rw [sift_end (by omega)]
  | succ m ih =>
    intro r d h
    by_cases h1 : 2 * r + 1 < hi
    · by_cases h2 : 2 * r + 2 < hi
      · cases hl : ltInt d[first + (2 * r + 1)]! d[first + (2 * r + 2)]! with
        | true =>
          rw [sift_3 h2 hl]
          split
          · rw [ih _ _ (by omega), swpU_size]
          · rfl
        | false =>
          rw [sift_2 h2 hl]
          split
          · rw [ih _ _ (by omega), swpU_size]
          · rfl
      · rw [sift_1 h1 h2]
        split
        · rw [ih _ _ (by omega), swpU_size]
        · rfl
    · rw [sift_end h1]
theorem sift_sz (hi first r : Nat) (d : Array Int) : (siftDown ltInt hi first r d).size = d.size := sift_size hi first _ r d (Nat.le_refl _)

set_option maxHeartbeats 6400000 in
set_option maxRecDepth 100000 in
theorem heap_u {w0 w : World} {g cap : Nat} {d : Array Int} (h : Ud w0 w g cap d) (a b : Nat) (hab : a < b) (hb : b ≤ d.size) (hsz : d.size ≤ 100000) :
    Calls Try.prog 49 #[.slice (some ⟨g, 0, none⟩) d.size cap, .int .i64 a, .int .i64 b] w fun e w' => e = .returned (.tuple #[]) ∧ Ud w0 w' g cap (heapSort ltInt d a b) := by
  obtain ⟨n, hn⟩ : ∃ n, n = d.size := ⟨_, rfl⟩
  obtain ⟨L, hL⟩ : ∃ L, L = b - a := ⟨_, rfl⟩
  obtain ⟨M, hM⟩ : ∃ M, M = (L - 1) / 2 := ⟨_, rfl⟩
  obtain ⟨N, hN⟩ : ∃ N, N = L - 1 := ⟨_, rfl⟩
  obtain ⟨R, hR⟩ : ∃ R, R = heapSort ltInt d a b := ⟨_, rfl⟩
  have hR1 : heapPop ltInt a L (heapBuild ltInt L a (M + 1) d) = R := by rw [hR, hM, hL]; rfl
  have HI0 := Lib.hid (show Ud w0 w g cap d ∧ d.size = n ∧ heapPop ltInt a L (heapBuild ltInt L a (M + 1) d) = R from ⟨h, hn.symm, hR1⟩)
  rw [← hn] at hb hsz ⊢
  rw [← hR]
  have HS := Lib.hid (fun (W : World) (e : Array Int) (hW : Ud w0 W g cap e) (he : e.size = n) (lo hi : Nat) (h1 : a + hi ≤ n) (h2 : lo ≤ n) =>
    show Calls Try.prog 60 #[.slice (some ⟨g, 0, none⟩) n cap, .int .i64 lo, .int .i64 hi, .int .i64 a] W fun e' w' => e' = .returned (.tuple #[]) ∧ Ud w0 w' g cap (siftDown ltInt hi a lo e) by
      rw [← he]; exact sift_u hW lo hi a (by omega) (by omega) (by omega))
  have k0 : IntKind.i64.wrap ((b : Int) - (a : Int)) = (L : Int) := by rw [IntWalk.i64_in _ (by omega)]; omega
  have k1 : IntKind.i64.wrap ((L : Int) - 1) = (N : Int) := by rw [IntWalk.i64_in _ (by omega)]; omega
  have k2 : Int.tdiv (N : Int) 2 = (M : Int) := by rw [Int.tdiv_eq_ediv_of_nonneg (by omega)]; omega
  have k3 : IntKind.i64.wrap ((M : Int)) = (M : Int) := by rw [IntWalk.i64_in _ (by omega)]
  have HL := Lib.hid (show a + L ≤ n ∧ M < L ∧ N + 1 = L ∧ 0 < L ∧ n ≤ 100000 from by omega)
  clear h hn hL hM hN hR hR1
  go_enter Try.func49, Try.ntmps49
  go_wp2
  go_loopg [9] (M + 1) (fun gi s9 wx => ∃ (m : Nat) (dk : Array Int), gi = m ∧ m ≤ M + 1 ∧ s9 = .int .i64 ((m : Int) - 1) ∧ Hid (Ud w0 wx g cap dk ∧ dk.size = n ∧ heapPop ltInt a L (heapBuild ltInt L a m dk) = R))
  case atStart => exact ⟨M + 1, d, rfl, Nat.le_refl _, by first | rfl | go_num | (congr 1; omega), Lib.hid HI0.out⟩
  case round =>
    obtain ⟨m, dk, hgm, hg, rfl, HR⟩ := hrel
    by_cases hz : 0 < m
    · obtain ⟨p, rfl⟩ : ∃ p, m = p + 1 := ⟨m - 1, by omega⟩
      have e1 : (((p + 1 : Nat) : Int) - 1) = (p : Int) := by omega
      rw [e1]
      have j1 : decide ((p : Int) ≥ 0) = true := by simp
      have j1' : decide ((0 : Int) ≤ (p : Int)) = true := by simp
      have j1'' : (0 : Int) ≤ (p : Int) := by omega
      have j2 : IntKind.i64.wrap ((p : Int) - 1) = (p : Int) - 1 := by have := HL.out; rw [IntWalk.i64_in _ (by omega)]
      have hS := HS.out _ _ HR.out.1 HR.out.2.1 p L (by have := HL.out; omega) (by have := HL.out; omega)
      clear e1
      go_wp2_with (go_at_call 60; refine hS.mono ?_; rintro e w' ⟨rfl, h1⟩; have H1 := Lib.hid h1; clear h1)
      go_roundg p
      case measure => omega
      case rel => exact ⟨p, _, rfl, by omega, rfl, Lib.hid ⟨H1.out, by rw [sift_sz]; exact HR.out.2.1, by rw [← HR.out.2.2]; rfl⟩⟩
    · have e0 : m = 0 := by omega
      subst e0
      have HR1 := Lib.hid (show Ud w0 wr g cap dk ∧ dk.size = n ∧ heapPop ltInt a L dk = R from HR.out)
      have j3 : ((L : Nat) : Int) = (N : Int) + 1 := by have := HL.out; omega
      clear j3
      go_wp2
      go_loopg [10] L (fun gj s10 wy => ∃ (m : Nat) (dj : Array Int), gj = m ∧ m ≤ L ∧ s10 = .int .i64 ((m : Int) - 1) ∧ Hid (Ud w0 wy g cap dj ∧ dj.size = n ∧ heapPop ltInt a m dj = R))
      case atStart => exact ⟨L, dk, rfl, Nat.le_refl _, by first | rfl | go_num | (congr 1; have := HL.out; omega), Lib.hid ⟨HR1.out.1, HR1.out.2.1, HR1.out.2.2⟩⟩
      case round =>
        obtain ⟨m, dj, hgm, hgj, rfl, HJ⟩ := hrel
        by_cases hzj : 0 < m
        · obtain ⟨p, rfl⟩ : ∃ p, m = p + 1 := ⟨m - 1, by omega⟩
          have hl := HL.out
          have e1 : (((p + 1 : Nat) : Int) - 1) = (p : Int) := by omega
          rw [e1]
          obtain ⟨q, hq⟩ : ∃ q, q = a + p := ⟨_, rfl⟩
          have j1 : decide ((p : Int) ≥ 0) = true := by simp
          have j1' : decide ((0 : Int) ≤ (p : Int)) = true := by simp
          have j1'' : (0 : Int) ≤ (p : Int) := by omega
          have j2 : IntKind.i64.wrap ((p : Int) - 1) = (p : Int) - 1 := by rw [IntWalk.i64_in _ (by omega)]
          have j4 : IntKind.i64.wrap ((a : Int) + (p : Int)) = (q : Int) := by rw [IntWalk.i64_in _ (by omega)]; omega
          have i0 : (0 : Int) ≤ (a : Int) := by omega
          have i1 : (a : Int) < (n : Int) := by omega
          have i2 : (0 : Int) ≤ (q : Int) := by omega
          have i3 : (q : Int) < (n : Int) := by omega
          have c0 := HJ.out.1.cell (j := a) (by rw [HJ.out.2.1]; omega)
          have c1 := HJ.out.1.cell (j := q) (by rw [HJ.out.2.1]; omega)
          have f0 := HJ.out.1.frozen (by rw [HJ.out.2.1]; omega) a
          have f1 := HJ.out.1.frozen (by rw [HJ.out.2.1]; omega) q
          have hs1 := fun t => (HJ.out.1.drewN t).swap (i := a) (j := q) (by rw [HJ.out.2.1]; omega) (by rw [HJ.out.2.1]; omega)
          obtain ⟨x, hx⟩ : ∃ x, x = dj[a]! := ⟨_, rfl⟩
          obtain ⟨y, hy⟩ : ∃ y, y = dj[q]! := ⟨_, rfl⟩
          have HG := Lib.hid (show heapPop ltInt a p (siftDown ltInt p a 0 (swp dj a q)) = R by rw [← HJ.out.2.2, hq]; rfl)
          have HSZ := Lib.hid (show (swp dj a q).size = n by rw [swpU_size]; exact HJ.out.2.1)
          have HP := Lib.hid (show p + 1 ≤ L from hgj)
          have HM := Lib.hid hgm
          by_cases hqa : q = a
          · subst hqa
            rw [← hx] at c0 hs1
            have HS1 := Lib.hid hs1
            have HS2 := Lib.hid hs1
            clear hs1 hx hy hq e1 c1 f1 hl hgj hgm i2 i3
            go_wp2
            go_region
            all_goals
              go_wp2_with (go_at_call 60; refine Calls.mono (by first | exact HS.out _ _ (HS1.out _) HSZ.out 0 p (by have := HL.out; have := HP.out; omega) (Nat.zero_le _) | exact HS.out _ _ (HS2.out _) HSZ.out 0 p (by have := HL.out; have := HP.out; omega) (Nat.zero_le _) | exact HS.out _ _ (by simpa using HS1.out _) HSZ.out 0 p (by have := HL.out; have := HP.out; omega) (Nat.zero_le _)) ?_; rintro e w' ⟨rfl, h1⟩; have H1 := Lib.hid h1; clear h1)
              go_roundg p
              case measure => have := HM.out; omega
              case rel => exact ⟨p, _, rfl, by have := HP.out; omega, rfl, Lib.hid ⟨H1.out, by rw [sift_sz]; exact HSZ.out, HG.out⟩⟩
          · have hs2 := fun t => (HJ.out.1.drewN t).swap' (i := a) (j := q) (by rw [HJ.out.2.1]; omega) (by rw [HJ.out.2.1]; omega) (fun e => hqa e.symm)
            rw [← hx] at c0 hs1 hs2
            rw [← hy] at c1 hs1 hs2
            have hne1 : ¬ a = q := fun e => hqa e.symm
            have HS1 := Lib.hid hs1
            have HS2 := Lib.hid hs2
            clear hs1 hs2 hx hy hq e1 hl hgj hgm
            go_wp2
            go_region
            all_goals
              go_wp2_with (go_at_call 60; refine Calls.mono (by first | exact HS.out _ _ (HS1.out _) HSZ.out 0 p (by have := HL.out; have := HP.out; omega) (Nat.zero_le _) | exact HS.out _ _ (HS2.out _) HSZ.out 0 p (by have := HL.out; have := HP.out; omega) (Nat.zero_le _) | exact HS.out _ _ (by simpa using HS1.out _) HSZ.out 0 p (by have := HL.out; have := HP.out; omega) (Nat.zero_le _)) ?_; rintro e w' ⟨rfl, h1⟩; have H1 := Lib.hid h1; clear h1)
              go_roundg p
              case measure => have := HM.out; omega
              case rel => exact ⟨p, _, rfl, by have := HP.out; omega, rfl, Lib.hid ⟨H1.out, by rw [sift_sz]; exact HSZ.out, HG.out⟩⟩
        · have e0 : m = 0 := by omega
          subst e0
          have HR2 := Lib.hid (show dj = R from HJ.out.2.2)
          go_wp2
          go_end0
          exact ⟨rfl, by rw [← HR2.out]; exact HJ.out.1⟩
end Go.Proofs
