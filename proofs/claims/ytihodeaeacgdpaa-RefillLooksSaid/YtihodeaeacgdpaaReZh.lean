import Derived.Test.YtihodeaeacgdpaaReZd
namespace Go.Proofs
open Go.RowKit Go.Sort
set_option linter.unusedVariables false

/-- A row, and a random number's block beside it. -/
def Xv (w0 wx : World) (g cap : Nat) (d : Array Int) (s : Nat) : Prop := Ud w0 wx g cap d ∧ (∃ k : Nat, k < 18446744073709551616 ∧ Blk wx s 83 #[.int .u64 k]) ∧ s ≠ g ∧ w0.heap.size ≤ s
theorem Xv.swap {w0 wx : World} {g cap s : Nat} {d : Array Int} (h : Xv w0 wx g cap d s) {i j : Nat} (hi : i < d.size) (hj : j < d.size) : Xv w0 ((wx.setCell ⟨g, i, none⟩ (.int .u64 d[j]!)).setCell ⟨g, j, none⟩ (.int .u64 d[i]!)) g cap (swp d i j) s := by
  obtain ⟨h1, ⟨k, hk, hb⟩, h3, h4⟩ := h
  exact ⟨h1.swap hi hj, ⟨k, hk, (hb.far h3 _).far h3 _⟩, h3, h4⟩
theorem Xv.swap' {w0 wx : World} {g cap s : Nat} {d : Array Int} (h : Xv w0 wx g cap d s) {i j : Nat} (hi : i < d.size) (hj : j < d.size) (hne : i ≠ j) : Xv w0 ((wx.setCell ⟨g, j, none⟩ (.int .u64 d[i]!)).setCell ⟨g, i, none⟩ (.int .u64 d[j]!)) g cap (swp d i j) s := by
  obtain ⟨h1, ⟨k, hk, hb⟩, h3, h4⟩ := h
  exact ⟨h1.swap' hi hj hne, ⟨k, hk, (hb.far h3 _).far h3 _⟩, h3, h4⟩
theorem Xv.drewN {w0 wx : World} {g cap s : Nat} {d : Array Int} (h : Xv w0 wx g cap d s) (q : Nat) : Xv w0 (wx.drewN q) g cap d s := by
  obtain ⟨h1, ⟨k, hk, hb⟩, h3, h4⟩ := h
  exact ⟨h1.drewN q, ⟨k, hk, hb.drewN q⟩, h3, h4⟩
theorem next_u {w0 w : World} {g cap s : Nat} {d : Array Int} (h : Xv w0 w g cap d s) :
    Calls Try.prog 62 #[.pointer (some ⟨s, 0, none⟩)] w fun e w' => (∃ k : Nat, k < 18446744073709551616 ∧ e = .returned (.int .u64 k)) ∧ Xv w0 w' g cap d s := by
  obtain ⟨h1, ⟨k, hk, hb⟩, h3, h4⟩ := h
  have hn := AnyF.xorshift_Next Try.xorNextL s 0 k hk w (by have := hb.cell 0; simpa using this) (hb.frozen 0)
  refine Calls.mono (f := 62) hn ?_
  rintro e w' ⟨rfl, rfl⟩
  refine ⟨⟨_, xorNextN_lt k hk, rfl⟩, Ud.drewN ⟨Row.far h1.1 (by simp [foot_some]; exact h3) _, h1.2.setCell (p := ⟨s, 0, none⟩) (.inr h4) _⟩ 3, ⟨_, xorNextN_lt k hk, ?_⟩, h3, h4⟩
  have := (hb.set_ 0 (.int .u64 (xorNextN k : Nat))).drewN 3
  simpa using this
set_option maxHeartbeats 6400000 in
set_option maxRecDepth 100000 in
theorem breaks_u {w0 w : World} {g cap : Nat} {d : Array Int} (h : Ud w0 w g cap d) (a b : Nat) (hab : a + 12 < b) (hb : b ≤ d.size) (hsz : d.size ≤ 100000) :
    Calls Try.prog 50 #[.slice (some ⟨g, 0, none⟩) d.size cap, .int .i64 a, .int .i64 b] w fun e w' => e = .returned (.tuple #[]) ∧ ∃ d', Ud w0 w' g cap d' ∧ PermIn a b d d' := by
  have hgl : g < w.heap.size := by
    have h1 := h.1
    unfold Un at h1
    exact h1.lt g (by simp [foot_some])
  obtain ⟨n, hn⟩ : ∃ n, n = d.size := ⟨_, rfl⟩
  obtain ⟨L, hL⟩ : ∃ L, L = b - a := ⟨_, rfl⟩
  have hP0 : ∀ k : Nat, k < 18446744073709551616 → Xv w0 (w.alloc (.cells #[.int .u64 k] 83)) g cap d w.heap.size := fun k hk =>
    ⟨⟨Row.alloc h.1 _, h.2.alloc _⟩, ⟨k, hk, Blk.new _ _ _⟩, by omega, h.2.size⟩
  have HP := Lib.hid (show Xv w0 (w.alloc (.cells #[.int .u64 L] 83)) g cap d w.heap.size ∧ d.size = n ∧ PermIn a b d d from ⟨hP0 L (by omega), hn.symm, permIn_refl d a b⟩)
  have HB := Lib.hid hb
  rw [← hn] at hb hsz ⊢
  obtain ⟨M, hM⟩ : ∃ M : Nat, M = 1 <<< bitsLen L := ⟨_, rfl⟩
  have hM1 : 1 ≤ M := by rw [hM, Nat.one_shiftLeft]; exact Nat.two_pow_pos _
  have hM2 : M ≤ 2 * L := by rw [hM, Nat.one_shiftLeft]; exact two_pow_bitsLen_le (by omega)
  have hNP : ∀ W, Calls Try.prog 61 #[.int .i64 (L : Int)] W fun e w' => e = .returned (.int .u64 (M : Int)) ∧ w' = W := by rw [hM]; exact fun W => AnyF.nextPowerOfTwo Try.pow2L L (by omega) W
  obtain ⟨q, hq⟩ : ∃ q, q = L / 4 := ⟨_, rfl⟩
  obtain ⟨J, hJ⟩ : ∃ J, J = a + q * 2 := ⟨_, rfl⟩
  obtain ⟨U, hU⟩ : ∃ U, U = J - 1 := ⟨_, rfl⟩
  obtain ⟨V, hV⟩ : ∃ V, V = J + 1 := ⟨_, rfl⟩
  obtain ⟨N, hN⟩ : ∃ N, N = M - 1 := ⟨_, rfl⟩
  have k0 : IntKind.i64.wrap ((b : Int) - (a : Int)) = (L : Int) := by rw [IntWalk.i64_in _ (by omega)]; omega
  have k1' : Int.tdiv (L : Int) 4 = (q : Int) := by rw [Int.tdiv_eq_ediv_of_nonneg (by omega)]; omega
  have k1 : IntKind.i64.wrap (Int.tdiv (L : Int) 4) = (q : Int) := by rw [k1', IntWalk.i64_in _ (by omega)]
  have k2 : decide ((L : Int) ≥ 8) = true := by simp; omega
  have k2' : decide ((8 : Int) ≤ (L : Int)) = true := by simp; omega
  have k3 : IntKind.i64.wrap ((q : Int)) = (q : Int) := by rw [IntWalk.i64_in _ (by omega)]
  have k5 : IntKind.i64.wrap ((q : Int) * 2) = (q : Int) * 2 := by rw [IntWalk.i64_in _ (by omega)]
  have k7 : IntKind.i64.wrap ((a : Int) + (q : Int) * 2) = (J : Int) := by rw [IntWalk.i64_in _ (by omega)]; omega
  have k8 : IntKind.i64.wrap ((J : Int) - 1) = (U : Int) := by rw [IntWalk.i64_in _ (by omega)]; omega
  have k9 : IntKind.i64.wrap ((J : Int) + 1) = (V : Int) := by rw [IntWalk.i64_in _ (by omega)]; omega
  have k10 : IntKind.u64.wrap ((M : Int) - 1) = (N : Int) := by rw [IntKind.wrap_u64]; omega
  have k11 : IntKind.u64.wrap (L : Int) = (L : Int) := by rw [IntKind.wrap_u64]; omega
  have HQ := Lib.hid (show a < U ∧ U ≤ V ∧ V < b ∧ b ≤ n ∧ N < 2 * L ∧ a + L = b ∧ n ≤ 100000 from by omega)
  clear h hn hL hP0 hq hJ hU hV hN hM hM1 hM2 hgl hab hb
  go_enter Try.func50, Try.ntmps50
  go_wp2_with (go_at_call 61; refine (hNP _).mono ?_; rintro e w' ⟨rfl, rfl⟩)
  go_loopg [9, 10] (V + 1 - U) (fun gi s9 s10 wx => ∃ (i : Nat) (dk : Array Int), (gi = V + 1 - i ∧ U ≤ i ∧ i ≤ V + 1) ∧ s9 = .int .i64 i ∧ Hid (Xv w0 wx g cap dk w.heap.size ∧ dk.size = n ∧ PermIn a b d dk))
  case atStart => exact ⟨U, d, ⟨rfl, Nat.le_refl _, by have := HQ.out; omega⟩, rfl, Lib.hid HP.out⟩
  case round =>
    obtain ⟨i, dk, ⟨hg, hUi, hiV⟩, rfl, HR⟩ := hrel
    by_cases hlt : i ≤ V
    · have k20 : decide ((i : Int) ≤ (V : Int)) = true := by simpa using hlt
      have k20' : (i : Int) ≤ (V : Int) := by omega
      have k21 : IntKind.i64.wrap ((i : Int) + 1) = ((i + 1 : Nat) : Int) := by have := HQ.out; rw [IntWalk.i64_in _ (by omega)]; omega
      have HX := Lib.hid (next_u HR.out.1)
      have HG := Lib.hid (show V + 1 - (i + 1) < V + 1 - i ∧ i ≤ V ∧ U ≤ i from by omega)
      have HGG := Lib.hid hg
      clear hg hUi hiV hlt
      go_wp2_with (fail)
      refine HX.out.mono ?_
      rintro e w1 ⟨⟨X, hX, rfl⟩, hx1⟩
      obtain ⟨O, hO⟩ : ∃ O : Nat, O = X &&& N := ⟨_, rfl⟩
      have lO : O ≤ N := by rw [hO]; exact Nat.and_le_right
      have eAnd : bits .and .u64 (X : Int) (N : Int) = (O : Int) := by rw [bits_and_u64_nat _ _ hX (by have := HQ.out; omega), hO]
      have eO : IntKind.i64.wrap (O : Int) = (O : Int) := by have := HQ.out; rw [IntWalk.i64_in _ (by omega)]
      have hfin : ∀ Y, a ≤ Y → Y < b → PermIn a b d (swp dk i Y) ∧ (swp dk i Y).size = n := fun Y h1 h2 => ⟨pi_swp HR.out.2.2 (by have := HQ.out; have := HG.out; omega) (by have := HQ.out; have := HG.out; omega) h1 h2 HB.out, by rw [swpU_size]; exact HR.out.2.1⟩
      have HFIN := Lib.hid hfin
      have HX1 := Lib.hid hx1
      have i0 : (0 : Int) ≤ (i : Int) := by omega
      have i1 : (i : Int) < (n : Int) := by have := HQ.out; have := HG.out; omega
      have c0 := hx1.1.cell (j := i) (by rw [HR.out.2.1]; omega)
      have f0 := hx1.1.frozen (by rw [HR.out.2.1]; omega) i
      clear hfin hx1 hX hO HX
      by_cases hLO : L ≤ O
      · have k22 : decide ((O : Int) ≥ (L : Int)) = true := by simpa using hLO
        have k22' : decide ((L : Int) ≤ (O : Int)) = true := by simpa using hLO
        have k22'' : (L : Int) ≤ (O : Int) := by omega
        obtain ⟨T, hT⟩ : ∃ T, T = O - L := ⟨_, rfl⟩
        obtain ⟨Y, hY⟩ : ∃ Y, Y = a + T := ⟨_, rfl⟩
        have k23 : IntKind.i64.wrap ((O : Int) - (L : Int)) = (T : Int) := by have := HQ.out; rw [IntWalk.i64_in _ (by omega)]; omega
        have k24 : IntKind.i64.wrap ((a : Int) + (T : Int)) = (Y : Int) := by have := HQ.out; rw [IntWalk.i64_in _ (by omega)]; omega
        have hY2 : a ≤ Y ∧ Y < b := by have := HQ.out; omega
        have HY := Lib.hid hY2
        have i2 : (0 : Int) ≤ (Y : Int) := by omega
        have i3 : (Y : Int) < (n : Int) := by have := HQ.out; omega
        have hs1 := fun q => (HX1.out.drewN q).swap (i := i) (j := Y) (by rw [HR.out.2.1]; omega) (by rw [HR.out.2.1]; have := HQ.out; omega)
        by_cases hiY : i = Y
        · obtain ⟨x, hx⟩ : ∃ x, x = dk[i]! := ⟨_, rfl⟩
          rw [← hiY] at hs1 k24 i2 i3 HY
          rw [← hx] at c0 hs1
          have HS1 := Lib.hid hs1
          clear hs1 hx hY hY2 hiY lO hLO
          clear hT
          go_wp2
          go_region
          all_goals
            go_wp2
            go_roundg (V + 1 - (i + 1))
            case measure => have := HG.out; have := HGG.out; omega
            case rel =>
              have hg := HG.out
              have hq := HQ.out
              have hy := HY.out
              first
                | exact ⟨i + 1, _, ⟨rfl, by omega, by omega⟩, by first | rfl | go_num, Lib.hid ⟨HS1.out _, (HFIN.out _ hy.1 hy.2).2, (HFIN.out _ hy.1 hy.2).1⟩⟩
                | exact ⟨i + 1, _, ⟨rfl, by omega, by omega⟩, by first | rfl | go_num, Lib.hid ⟨by simpa using HS1.out _, (HFIN.out _ hy.1 hy.2).2, (HFIN.out _ hy.1 hy.2).1⟩⟩
        · have hne : ¬ Y = i := fun e => hiY e.symm
          have c1 := HX1.out.1.cell (j := Y) (by rw [HR.out.2.1]; have := HQ.out; omega)
          have f1 := HX1.out.1.frozen (by rw [HR.out.2.1]; omega) Y
          have hs2 := fun q => (HX1.out.drewN q).swap' (i := i) (j := Y) (by rw [HR.out.2.1]; omega) (by rw [HR.out.2.1]; have := HQ.out; omega) hiY
          obtain ⟨x, hx⟩ : ∃ x, x = dk[i]! := ⟨_, rfl⟩
          obtain ⟨y, hy⟩ : ∃ y, y = dk[Y]! := ⟨_, rfl⟩
          rw [← hx] at c0 hs1 hs2
          rw [← hy] at c1 hs1 hs2
          have HS1 := Lib.hid hs1
          have HS2 := Lib.hid hs2
          clear hs1 hs2 hx hy hY hY2 lO hLO
          clear hT
          go_wp2
          go_region
          all_goals
            go_wp2
            go_roundg (V + 1 - (i + 1))
            case measure => have := HG.out; have := HGG.out; omega
            case rel =>
              have hg := HG.out
              have hq := HQ.out
              have hy := HY.out
              first
                | exact ⟨i + 1, _, ⟨rfl, by omega, by omega⟩, by first | rfl | go_num, Lib.hid ⟨HS1.out _, (HFIN.out _ hy.1 hy.2).2, (HFIN.out _ hy.1 hy.2).1⟩⟩
                | exact ⟨i + 1, _, ⟨rfl, by omega, by omega⟩, by first | rfl | go_num, Lib.hid ⟨HS2.out _, (HFIN.out _ hy.1 hy.2).2, (HFIN.out _ hy.1 hy.2).1⟩⟩
      · have k22 : decide ((O : Int) ≥ (L : Int)) = false := by simpa using hLO
        have k22' : decide ((L : Int) ≤ (O : Int)) = false := by simpa using hLO
        have k22'' : ¬ (L : Int) ≤ (O : Int) := by omega
        obtain ⟨Y, hY⟩ : ∃ Y, Y = a + O := ⟨_, rfl⟩
        have k24 : IntKind.i64.wrap ((a : Int) + (O : Int)) = (Y : Int) := by have := HQ.out; rw [IntWalk.i64_in _ (by omega)]; omega
        have hY2 : a ≤ Y ∧ Y < b := by have := HQ.out; omega
        have HY := Lib.hid hY2
        have i2 : (0 : Int) ≤ (Y : Int) := by omega
        have i3 : (Y : Int) < (n : Int) := by have := HQ.out; omega
        have hs1 := fun q => (HX1.out.drewN q).swap (i := i) (j := Y) (by rw [HR.out.2.1]; omega) (by rw [HR.out.2.1]; have := HQ.out; omega)
        by_cases hiY : i = Y
        · obtain ⟨x, hx⟩ : ∃ x, x = dk[i]! := ⟨_, rfl⟩
          rw [← hiY] at hs1 k24 i2 i3 HY
          rw [← hx] at c0 hs1
          have HS1 := Lib.hid hs1
          clear hs1 hx hY hY2 hiY lO hLO
          go_wp2
          go_region
          all_goals
            go_wp2
            go_roundg (V + 1 - (i + 1))
            case measure => have := HG.out; have := HGG.out; omega
            case rel =>
              have hg := HG.out
              have hq := HQ.out
              have hy := HY.out
              first
                | exact ⟨i + 1, _, ⟨rfl, by omega, by omega⟩, by first | rfl | go_num, Lib.hid ⟨HS1.out _, (HFIN.out _ hy.1 hy.2).2, (HFIN.out _ hy.1 hy.2).1⟩⟩
                | exact ⟨i + 1, _, ⟨rfl, by omega, by omega⟩, by first | rfl | go_num, Lib.hid ⟨by simpa using HS1.out _, (HFIN.out _ hy.1 hy.2).2, (HFIN.out _ hy.1 hy.2).1⟩⟩
        · have hne : ¬ Y = i := fun e => hiY e.symm
          have c1 := HX1.out.1.cell (j := Y) (by rw [HR.out.2.1]; have := HQ.out; omega)
          have f1 := HX1.out.1.frozen (by rw [HR.out.2.1]; omega) Y
          have hs2 := fun q => (HX1.out.drewN q).swap' (i := i) (j := Y) (by rw [HR.out.2.1]; omega) (by rw [HR.out.2.1]; have := HQ.out; omega) hiY
          obtain ⟨x, hx⟩ : ∃ x, x = dk[i]! := ⟨_, rfl⟩
          obtain ⟨y, hy⟩ : ∃ y, y = dk[Y]! := ⟨_, rfl⟩
          rw [← hx] at c0 hs1 hs2
          rw [← hy] at c1 hs1 hs2
          have HS1 := Lib.hid hs1
          have HS2 := Lib.hid hs2
          clear hs1 hs2 hx hy hY hY2 lO hLO
          go_wp2
          go_region
          all_goals
            go_wp2
            go_roundg (V + 1 - (i + 1))
            case measure => have := HG.out; have := HGG.out; omega
            case rel =>
              have hg := HG.out
              have hq := HQ.out
              have hy := HY.out
              first
                | exact ⟨i + 1, _, ⟨rfl, by omega, by omega⟩, by first | rfl | go_num, Lib.hid ⟨HS1.out _, (HFIN.out _ hy.1 hy.2).2, (HFIN.out _ hy.1 hy.2).1⟩⟩
                | exact ⟨i + 1, _, ⟨rfl, by omega, by omega⟩, by first | rfl | go_num, Lib.hid ⟨HS2.out _, (HFIN.out _ hy.1 hy.2).2, (HFIN.out _ hy.1 hy.2).1⟩⟩
    · have k20 : decide ((i : Int) ≤ (V : Int)) = false := by simpa using hlt
      have k20' : ¬ (i : Int) ≤ (V : Int) := by omega
      go_wp2
      go_end0
      exact ⟨rfl, dk, HR.out.1.1, HR.out.2.2⟩
end Go.Proofs
