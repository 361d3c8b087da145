import Derived.Test.YtfbelpbfmafjdaaAl
import Derived.Test.YtfbelpbfmafjdaaArK
import Derived.LoopTactic
namespace Go.Proofs
open Go.RowKit
set_option linter.unusedVariables false

theorem u64_eq {a b : Int} (h : a = b) : Value.int .u64 a = .int .u64 b := by rw [h]
theorem i64_eq' {a b : Int} (h : a = b) : Value.int .i64 a = .int .i64 b := by rw [h]
set_option maxRecDepth 100000 in
set_option maxHeartbeats 6400000 in
theorem fills_any (size first : Int) (f0 : 0 ≤ first) (f1 : first ≤ 18446744073709551615) (w : World) :
    Calls Try.prog 7 #[.int .i64 size, .int .u64 first] w fun e w' => e = .returned (.bool true) ∧ Below w.heap.size w w' := by
  have HY := fun w' => may_any size first f0 w'
  by_cases h2 : 200 < size
  · go_enter Try.func7, Try.ntmps7
    go_wp2_with (go_at_call 10; refine (known_any _).mono ?_; rintro e w1 ⟨rfl, hb⟩)
    go_ret
    exact ⟨rfl, hb⟩
  · cases hmay : mayT size first with
    | false =>
      rw [hmay] at HY
      clear hmay
      go_enter Try.func7, Try.ntmps7
      go_wp2_with (first
        | (go_at_call 12; refine (HY _).mono ?_; rintro e w' ⟨rfl, rfl⟩)
        | (go_at_call 10; refine (known_any _).mono ?_; rintro e w1 ⟨rfl, hb⟩))
      go_ret
      exact ⟨rfl, hb⟩
    | true =>
      obtain ⟨a, b, c, d⟩ := mayT_iff.1 hmay
      obtain ⟨N, rfl⟩ := Int.eq_ofNat_of_zero_le (by omega : 0 ≤ size)
      have HN := fun w' => new_ok_I (w := w') (N : Nat) first hmay
      rw [hmay] at HY
      have HS := Lib.hid (fun (w1 : World) => Ready.start (w0 := w) (w1 := w1) hmay)
      have hN : N ≤ 200 := by omega
      obtain ⟨L, hL⟩ : ∃ L : Int, L = 18446744073709551614 - first := ⟨_, rfl⟩
      rw [topG_val] at d
      have L0 : 0 ≤ L := by omega
      have L1 : L ≤ 18446744073709551614 := by omega
      have HLL := Lib.hid hL
      have eL : IntKind.u64.wrap (18446744073709551614 - first) = L := by rw [IntKind.wrap_u64]; omega
      have d200 : decide ((200 : Int) < (N : Int)) = false := by simp; omega
      clear hmay a b h2 hL c d f1
      go_enter Try.func7, Try.ntmps7
      go_wp2_with (first
        | (go_at_call 12; refine (HY _).mono ?_; rintro e w' ⟨rfl, rfl⟩)
        | (go_at_call 11; refine (HN _).mono ?_; rintro e w1 ⟨rfl, hT, hc1⟩; have HR := Lib.hid (HS.out _ hT hc1); clear hT hc1))
      have HRR := Lib.hid HR.out
      obtain ⟨g, hg⟩ : ∃ g, g = w.heap.size := ⟨_, rfl⟩
      rw [← hg] at HRR ⊢
      clear hg HN HY HS HR
      go_loopw [8] (fun tv wr => ∃ T : Nat, T ≤ 3 ∧ tv = .int .u64 T ∧ Ready w g N first T wr) (fun tv _ => (3 - intOf tv).toNat)
      case atStart => exact ⟨0, by omega, rfl, HRR.out⟩
      case round =>
        clear HRR
        obtain ⟨T, hT, rfl, hR⟩ := hrel
        have HBel := Lib.hid hR.below
        by_cases hlt : T < 3
        · have t0 : (0 : Int) ≤ (T : Int) := by omega
          have t3 : (T : Int) < 3 := by omega
          obtain ⟨t, hO, (⟨hal, hF⟩ | ⟨hdd, hD⟩)⟩ := hR
          · have hFi : Fills w g N 0 T first (first + (T : Nat)) wr := ⟨t, hO, hF⟩
            obtain ⟨G, hG⟩ : ∃ G, G = first + (T : Int) := ⟨_, rfl⟩
            rw [topG_val] at hal
            have hTL : (T : Int) ≤ L := by have := HLL.out; omega
            have dTL : decide (L < (T : Int)) = false := by simp; omega
            have dTL2 : decide ((T : Int) ≤ L) = true := by simp; omega
            have eG : IntKind.u64.wrap (first + (T : Int)) = G := by rw [IntKind.wrap_u64]; omega
            have HG := Lib.hid hG
            rw [← hG] at hFi
            clear hO hF hG hal
            go_wp2
            go_loopw [9] (fun iv wq => ∃ i : Nat, i ≤ N ∧ iv = .int .i64 i ∧ Fills w g N i T first G wq) (fun iv _ => N - (intOf iv).toNat)
            case atStart => exact ⟨0, by omega, rfl, hFi⟩
            case round =>
              clear hFi
              obtain ⟨i, hi, rfl, hFi⟩ := hrel
              by_cases hil : i < N
              · have i0 : (0 : Int) ≤ (i : Int) := by omega
                have i1 : (i : Int) < (N : Int) := by omega
                by_cases hT0 : T = 0
                · have HT0 := Lib.hid hT0
                  have dT0 : ((T : Int) == 0) = true := by simp; omega
                  clear hT0
                  go_wp2_with (first
                    | (go_at_call 16; refine (hFi.put hil _).mono ?_; rintro e w2 ⟨I, rfl, hI, hFi2⟩; obtain rfl : I = (i : Nat) := hI HT0.out; clear hI)
                    | (go_at_call 25; refine ((hFi2.quiet ((Chg.refl _ _).alloc _)).len_).mono ?_; rintro e w3 ⟨rfl, hFi3, hc3⟩; have b3 := (Blk.new w2 36 #[.int .i64 (i : Nat), .int .u64 G]).chg hc3 (by simp); have k0 := b3.cell 0; have HF3 := Lib.hid hFi3; clear b3 hc3 hFi3))
                  go_roundw
                  case rel => exact ⟨i + 1, by omega, by go_num, HF3.out⟩
                  case measure => simp [intOf]; omega
                · have dT0 : ((T : Int) == 0) = false := by simp; omega
                  clear hT0
                  go_wp2_with (first
                    | (go_at_call 16; refine (hFi.put hil _).mono ?_; rintro e w2 ⟨I, rfl, hI, hFi2⟩; clear hI)
                    | (go_at_call 25; refine ((hFi2.quiet ((Chg.refl _ _).alloc _)).len_).mono ?_; rintro e w3 ⟨rfl, hFi3, hc3⟩; have HF3 := Lib.hid hFi3; clear hc3 hFi3))
                  go_roundw
                  case rel => exact ⟨i + 1, by omega, by go_num, HF3.out⟩
                  case measure => simp [intOf]; omega
              · obtain rfl : i = N := by omega
                go_wp2_with (go_at_call 16; refine (hFi.full _).mono ?_; rintro e w2 ⟨rfl, hD⟩)
                have hD2 := hD.quiet ((Chg.refl _ _).alloc (.cells #[.int .i64 0, .int .u64 0] 36))
                clear hD hFi
                go_loopw [14] (fun iv wq => ∃ j : Nat, j ≤ i ∧ iv = .int .i64 j ∧ Drops w g i j first G wq) (fun iv _ => i - (intOf iv).toNat)
                case atStart => exact ⟨0, by omega, rfl, hD2⟩
                case round =>
                  clear hD2
                  obtain ⟨j, hj, rfl, hDj⟩ := hrel
                  by_cases hjl : j < i
                  · have i0 : (0 : Int) ≤ (j : Int) := by omega
                    have i1 : (j : Int) < (i : Int) := by omega
                    go_wp2_with (first
                      | (go_at_call 21; refine (hDj.at_ hjl (by omega)).mono ?_; rintro e w3 ⟨rfl, hDj2⟩)
                      | (go_at_call 19; refine ((hDj2.quiet ((Chg.refl _ _).alloc _)).drop hjl (by omega)).mono ?_; rintro e w4 ⟨rfl, hDj3⟩; have HD3 := Lib.hid hDj3; clear hDj3))
                    go_roundw
                    case rel => exact ⟨j + 1, by omega, by go_num, HD3.out⟩
                    case measure => simp [intOf]; omega
                  · obtain rfl : j = i := by omega
                    rw [HG.out] at hDj
                    have hE := hDj.empty
                    clear hDj
                    go_wp2_with (first
                      | (go_at_call 25; refine hE.len_.mono ?_; rintro e w3 ⟨rfl, hE2⟩)
                      | (go_at_call 26; refine hE2.free.mono ?_; rintro e w4 ⟨a, b, rfl, hab, hb0, hb1, h24⟩; have HAB := Lib.hid hab; have hw9 : IntKind.i64.wrap (a + b) = (j : Int) := (by rw [hab]; exact IntWalk.i64_in _ (by omega)); clear hab)
                      | (go_at_call 24; refine h24.mono ?_; rintro e w5 ⟨rfl, hRn⟩; have HRn := Lib.hid hRn; clear hRn))
                    go_roundw
                    case rel => exact ⟨T + 1, by omega, by go_num, HRn.out⟩
                    case measure => simp [intOf]; omega
          · have hDe : Deads w g N first wr := ⟨t, hO, hD⟩
            have hdd' := Lib.hid hdd
            rw [topG_val] at hdd
            have dTL : decide (L < (T : Int)) = true := by have := HLL.out; simp; omega
            have hTL : L < (T : Int) := by have := HLL.out; omega
            have dTL2 : decide ((T : Int) ≤ L) = false := by simp; omega
            clear hO hD hdd
            go_wp2
            go_loopw [9] (fun iv wq => ∃ i : Nat, i ≤ N ∧ iv = .int .i64 i ∧ Deads w g N first wq) (fun iv _ => N - (intOf iv).toNat)
            case atStart => exact ⟨0, by omega, rfl, hDe⟩
            case round =>
              clear hDe
              obtain ⟨i, hi, rfl, hDe⟩ := hrel
              by_cases hil : i < N
              · have i0 : (0 : Int) ≤ (i : Int) := by omega
                have i1 : (i : Int) < (N : Int) := by omega
                go_wp2_with (first
                  | (go_at_call 16; refine (hDe.full _).mono ?_; rintro e w2 ⟨rfl, hDe2⟩)
                  | (go_at_call 24; refine ((hDe2.quiet ((Chg.refl _ _).alloc _)).retired).mono ?_; rintro e w3 ⟨rfl, hDe3⟩; have HF3 := Lib.hid hDe3; clear hDe3))
                go_roundw
                case rel => exact ⟨i + 1, by omega, by go_num, HF3.out⟩
                case measure => simp [intOf]; omega
              · obtain rfl : i = N := by omega
                go_wp2_with (go_at_call 16; refine (hDe.full _).mono ?_; rintro e w2 ⟨rfl, hD⟩)
                have hD2 := hD.quiet ((Chg.refl _ _).alloc (.cells #[.int .i64 0, .int .u64 0] 36))
                clear hD hDe
                go_loopw [14] (fun iv wq => ∃ j : Nat, j ≤ i ∧ iv = .int .i64 j ∧ Deads w g i first wq) (fun iv _ => i - (intOf iv).toNat)
                case atStart => exact ⟨0, by omega, rfl, hD2⟩
                case round =>
                  clear hD2
                  obtain ⟨j, hj, rfl, hDj⟩ := hrel
                  by_cases hjl : j < i
                  · have i0 : (0 : Int) ≤ (j : Int) := by omega
                    have i1 : (j : Int) < (i : Int) := by omega
                    go_wp2_with (go_at_call 21; refine (hDj.at_ j (by omega)).mono ?_; rintro e w3 ⟨rfl, hDj2⟩; have HD3 := Lib.hid (hDj2.quiet ((Chg.refl _ _).alloc (.cells #[.int .i64 0, .int .u64 0] 36))); clear hDj2)
                    go_roundw
                    case rel => exact ⟨j + 1, by omega, by go_num, HD3.out⟩
                    case measure => simp [intOf]; omega
                  · obtain rfl : j = i := by omega
                    have hE := hDj.empty hdd'.out
                    clear hDj
                    go_wp2_with (first
                      | (go_at_call 25; refine hE.len_.mono ?_; rintro e w3 ⟨rfl, hE2⟩)
                      | (go_at_call 26; refine hE2.free.mono ?_; rintro e w4 ⟨a, b, rfl, hab, hb0, hb1, h24⟩; have hw9 : IntKind.i64.wrap (a + b) = (j : Int) := (by rw [hab]; exact IntWalk.i64_in _ (by omega)); clear hab)
                      | (go_at_call 24; refine h24.mono ?_; rintro e w5 ⟨rfl, hRn⟩; have HRn := Lib.hid hRn; clear hRn))
                    go_roundw
                    case rel => exact ⟨T + 1, by omega, by go_num, HRn.out⟩
                    case measure => simp [intOf]; omega
        · obtain rfl : T = 3 := by omega
          clear hR
          go_wp2_with (go_at_call 10; refine (known_any _).mono ?_; rintro e w4 ⟨rfl, hb⟩)
          go_ret
          exact ⟨rfl, HBel.out.trans (hb.mono HBel.out.size)⟩
end Go.Proofs
