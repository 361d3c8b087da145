import Derived.Test.YtihodeaeacgdpaaReZi
namespace Go.Proofs
open Go.RowKit Go.Sort
set_option linter.unusedVariables false

theorem pl_step {a i j i2 j2 : Nat} {d : Array Int} (h1 : scanUp (fun x => ltInt x d[a]!) d j i = i2) (h2 : scanDown (fun x => !ltInt x d[a]!) d i2 j = j2) : partLoop ltInt a i j d = if i2 > j2 then (j2, d) else partLoop ltInt a (i2 + 1) (j2 - 1) (swp d i2 j2) := by
  rw [partLoop_eq, h1, h2]
theorem pl_ne {a i j i2 j2 : Nat} {d : Array Int} (h1 : scanUp (fun x => ltInt x d[a]!) d j i = i2) (h2 : scanDown (fun x => !ltInt x d[a]!) d i2 j = j2) (h : i2 ≤ j2) (h0 : 0 < i2) : ¬ i2 = j2 := by
  intro e
  have s1 := (scanUp_spec (fun x => ltInt x d[a]!) d j _ i rfl).2.2.2
  have s2 := (scanDown_spec (fun x => !ltInt x d[a]!) d i2 j)
  rw [h1] at s1
  rw [h2] at s2
  have t1 := s1 (by omega)
  have t2 := s2.2.2.2 h (by omega)
  rw [← e] at t2
  simp [t1] at t2
theorem part_1 {a b pivot i2 j2 : Nat} {d d1 : Array Int} (hd : d1 = swp d a pivot) (h1 : scanUp (fun x => ltInt x d1[a]!) d1 (b - 1) (a + 1) = i2) (h2 : scanDown (fun x => !ltInt x d1[a]!) d1 i2 (b - 1) = j2) :
    partition ltInt d a b pivot = if i2 > j2 then (j2, true, swp d1 j2 a) else ((partLoop ltInt a (i2 + 1) (j2 - 1) (swp d1 i2 j2)).1, false, swp (partLoop ltInt a (i2 + 1) (j2 - 1) (swp d1 i2 j2)).2 (partLoop ltInt a (i2 + 1) (j2 - 1) (swp d1 i2 j2)).1 a) := by
  unfold partition
  simp only [← hd, h1, h2]

set_option maxHeartbeats 12800000 in
set_option maxRecDepth 100000 in
theorem part_u {w0 w : World} {g cap : Nat} {d : Array Int} (h : Ud w0 w g cap d) (a b pivot : Nat) (hp1 : a ≤ pivot) (hp2 : pivot < b) (hab : a + 2 < b) (hb : b ≤ d.size) (hsz : d.size ≤ 100000) :
    Calls Try.prog 56 #[.slice (some ⟨g, 0, none⟩) d.size cap, .int .i64 a, .int .i64 b, .int .i64 pivot] w fun e w' => e = .returned (.tuple #[.int .i64 (partition ltInt d a b pivot).1, .bool (partition ltInt d a b pivot).2.1]) ∧ Ud w0 w' g cap (partition ltInt d a b pivot).2.2 := by
  obtain ⟨n, hn⟩ : ∃ n, n = d.size := ⟨_, rfl⟩
  obtain ⟨R, hR⟩ : ∃ R, R = partition ltInt d a b pivot := ⟨_, rfl⟩
  obtain ⟨dk, hd1⟩ : ∃ d1, d1 = swp d a pivot := ⟨_, rfl⟩
  have HZ := Lib.hid (show dk.size = n by rw [hd1, swpU_size]; exact hn.symm)
  have HP1 := Lib.hid (fun i2 j2 h1 h2 => hR.trans (part_1 (a := a) (b := b) (pivot := pivot) (i2 := i2) (j2 := j2) hd1 h1 h2))
  have c0 := h.cell (j := a) (by omega)
  have c1 := h.cell (j := pivot) (by omega)
  have f0 := h.frozen (by omega) a
  have f1 := h.frozen (by omega) pivot
  have hs1 := fun q => (h.drewN q).swap (i := a) (j := pivot) (by omega) (by omega)
  have hs2 := fun q (hne : a ≠ pivot) => (h.drewN q).swap' (i := a) (j := pivot) (by omega) (by omega) hne
  rw [← hd1] at hs1 hs2
  obtain ⟨x, hx⟩ : ∃ x, x = d[a]! := ⟨_, rfl⟩
  obtain ⟨y, hy⟩ : ∃ y, y = d[pivot]! := ⟨_, rfl⟩
  rw [← hx] at c0 hs1 hs2
  rw [← hy] at c1 hs1 hs2
  have HXY := Lib.hid (show a = pivot → x = y from fun e => by rw [hx, hy, e])
  rw [← hn] at hb hsz ⊢
  rw [← hR]
  have HS1 := Lib.hid hs1
  have HS2 := Lib.hid hs2
  have i0 : (0 : Int) ≤ (a : Int) := by omega
  have i1 : (a : Int) < (n : Int) := by omega
  have i2 : (0 : Int) ≤ (pivot : Int) := by omega
  have i3 : (pivot : Int) < (n : Int) := by omega
  have k0 : IntKind.i64.wrap ((a : Int) + 1) = ((a + 1 : Nat) : Int) := by rw [IntWalk.i64_in _ (by omega)]; omega
  have k1 : IntKind.i64.wrap ((b : Int) - 1) = ((b - 1 : Nat) : Int) := by rw [IntWalk.i64_in _ (by omega)]; omega
  clear hs1 hs2 hx hy hR hd1 hn h
  go_enter Try.func56, Try.ntmps56
  go_upto_region 1 with fail
  go_cut [12] from 12 to 25 (fun s12 wc => Hid (Ud w0 wc g cap dk))
  case first =>
    by_cases hap : a = pivot
    · subst hap
      have hxy := HXY.out rfl
      subst hxy
      clear c1 f1 i2 i3
      go_wp2
      go_region
      all_goals
        go_wp2
        go_meet
        first
          | exact Lib.hid (HS1.out _)
          | exact Lib.hid (by simpa using HS1.out _)
    · have hne : ¬ pivot = a := fun e => hap e.symm
      go_wp2
      go_region
      all_goals
        go_wp2
        go_meet
        first
          | exact Lib.hid (HS1.out _)
          | exact Lib.hid (HS2.out _ hap)
  case rest =>
    have hcell : a < n ∧ b ≤ n := by omega
    clear c0 c1 f0 f1 i0 i1 i2 i3
    obtain ⟨i, hi⟩ : ∃ i, i = a + 1 := ⟨_, rfl⟩
    obtain ⟨j, hj⟩ : ∃ j, j = b - 1 := ⟨_, rfl⟩
    rw [← hi] at k0
    rw [← hj] at k1
    rw [← hi, ← hj] at HP1
    have hai : a < i := by omega
    have hij : i ≤ j + 1 := by omega
    have hjb : j < b := by omega
    clear hi hj
    go_wp2
    go_loopg [10] (j + 1 - i) (fun gk sk wy => ∃ (i1 : Nat), (gk = j + 1 - i1 ∧ i ≤ i1 ∧ i1 ≤ j + 1) ∧ sk = .int .i64 i1 ∧ Hid (Ud w0 wy g cap dk ∧ scanUp (fun x => ltInt x dk[a]!) dk j i1 = scanUp (fun x => ltInt x dk[a]!) dk j i))
    case atStart => exact ⟨i, ⟨rfl, by omega, by omega⟩, by first | rfl | go_num, Lib.hid ⟨hcut.out, rfl⟩⟩
    case round =>
      obtain ⟨i1, ⟨hgki1, hi1, hi1'⟩, rfl, HA⟩ := hrel
      by_cases hlei1 : i1 ≤ j
      · have g1 : decide ((i1 : Int) ≤ (j : Int)) = true := by simpa using hlei1
        have g1' : decide (i1 ≤ j) = true := by simpa using hlei1
        have w1 : IntKind.i64.wrap ((i1 : Int) + 1) = ((i1 + 1 : Nat) : Int) := by rw [IntWalk.i64_in _ (by omega)]; omega
        have c0 := HA.out.1.cell (j := a) (by rw [HZ.out]; omega)
        have c1 := HA.out.1.cell (j := i1) (by rw [HZ.out]; omega)
        have t0 : (0 : Int) ≤ (a : Int) := by omega
        have t1 : (a : Int) < (n : Int) := by omega
        have t2 : (0 : Int) ≤ (i1 : Int) := by omega
        have t3 : (i1 : Int) < (n : Int) := by omega
        obtain ⟨x, hx⟩ : ∃ x, x = dk[a]! := ⟨_, rfl⟩
        obtain ⟨y, hy⟩ : ∃ y, y = dk[i1]! := ⟨_, rfl⟩
        rw [← hx] at c0
        rw [← hy] at c1
        have hL : ∀ W, Calls Try.prog 54 #[.int .u64 y, .int .u64 x] W fun e w' => e = .returned (.bool (ltInt y x)) ∧ w' = W := fun W => (less_u y x W).mono fun e w' ⟨h1, h2⟩ => ⟨h1, h2.symm⟩
        cases hl : ltInt y x with
        | true =>
          have E := Lib.hid (su_go (p := (fun x => ltInt x dk[a]!)) (d := dk) (j := j) (i := i1) hlei1 (by show ltInt dk[i1]! dk[a]! = true; rw [← hx, ← hy, hl]))
          rw [hl] at hL
          clear hl hx hy
          go_wp2
          go_quiet ((go_at_call 54; first | exact Calls.quiet_of_same (hL _) | exact quiet_sum hL))
          go_wp2
          go_roundg (j + 1 - (i1 + 1))
          case measure => omega
          case rel => exact ⟨i1 + 1, ⟨rfl, by omega, by omega⟩, by first | rfl | go_num, Lib.hid ⟨HA.out.1.drewN _, by rw [← E.out]; exact HA.out.2⟩⟩
        | false =>
          have Ei1 := Lib.hid (su_no (p := (fun x => ltInt x dk[a]!)) (d := dk) (j := j) (i := i1) (by show ltInt dk[i1]! dk[a]! = false; rw [← hx, ← hy, hl]))
          rw [hl] at hL
          clear hl hx hy
          go_wp2
          go_quiet ((go_at_call 54; first | exact Calls.quiet_of_same (hL _) | exact quiet_sum hL))
          clear hL g1 g1' w1 c0 c1 t2 t3
          go_wp2
          go_loopg [11] (j + 1) (fun gk sk wy => ∃ (j1 : Nat), (gk = j1 + 1 ∧ i1 ≤ j1 + 1 ∧ j1 ≤ j) ∧ sk = .int .i64 j1 ∧ Hid (Ud w0 wy g cap dk ∧ scanDown (fun x => !ltInt x dk[a]!) dk i1 j1 = scanDown (fun x => !ltInt x dk[a]!) dk i1 j))
          case atStart => exact ⟨j, ⟨rfl, by omega, by omega⟩, by first | rfl | go_num, Lib.hid ⟨HA.out.1.drewN _, rfl⟩⟩
          case round =>
            obtain ⟨j1, ⟨hgkj1, hj1, hj1'⟩, rfl, HD⟩ := hrel
            by_cases hlej1 : i1 ≤ j1
            · have g1 : decide ((i1 : Int) ≤ (j1 : Int)) = true := by simpa using hlej1
              have g1' : decide (i1 ≤ j1) = true := by simpa using hlej1
              have w1 : IntKind.i64.wrap ((j1 : Int) - 1) = ((j1 - 1 : Nat) : Int) := by rw [IntWalk.i64_in _ (by omega)]; omega
              have c0 := HD.out.1.cell (j := a) (by rw [HZ.out]; omega)
              have c1 := HD.out.1.cell (j := j1) (by rw [HZ.out]; omega)
              have t0 : (0 : Int) ≤ (a : Int) := by omega
              have t1 : (a : Int) < (n : Int) := by omega
              have t2 : (0 : Int) ≤ (j1 : Int) := by omega
              have t3 : (j1 : Int) < (n : Int) := by omega
              obtain ⟨x, hx⟩ : ∃ x, x = dk[a]! := ⟨_, rfl⟩
              obtain ⟨y, hy⟩ : ∃ y, y = dk[j1]! := ⟨_, rfl⟩
              rw [← hx] at c0
              rw [← hy] at c1
              have hL : ∀ W, Calls Try.prog 54 #[.int .u64 y, .int .u64 x] W fun e w' => e = .returned (.bool (ltInt y x)) ∧ w' = W := fun W => (less_u y x W).mono fun e w' ⟨h1, h2⟩ => ⟨h1, h2.symm⟩
              cases hl : ltInt y x with
              | false =>
                have E := Lib.hid (sd_go (p := (fun x => !ltInt x dk[a]!)) (d := dk) (i := i1) (j := j1) hlej1 (by omega) (by show (!ltInt dk[j1]! dk[a]!) = true; rw [← hx, ← hy, hl]; rfl))
                rw [hl] at hL
                clear hl hx hy
                go_wp2
                go_quiet ((go_at_call 54; first | exact Calls.quiet_of_same (hL _) | exact quiet_sum hL))
                go_wp2
                go_roundg (j1 - 1 + 1)
                case measure => omega
                case rel => exact ⟨j1 - 1, ⟨rfl, by omega, by omega⟩, by first | rfl | go_num, Lib.hid ⟨HD.out.1.drewN _, by rw [← E.out]; exact HD.out.2⟩⟩
              | true =>
                have Ej1 := Lib.hid (sd_no (p := (fun x => !ltInt x dk[a]!)) (d := dk) (i := i1) (j := j1) (by show (!ltInt dk[j1]! dk[a]!) = false; rw [← hx, ← hy, hl]; rfl))
                rw [hl] at hL
                clear hl hx hy
                go_wp2
                go_quiet ((go_at_call 54; first | exact Calls.quiet_of_same (hL _) | exact quiet_sum hL))
                clear hL g1 g1' w1 c0 c1 t2 t3
                go_wp2
                have m1 : decide ((i1 : Int) > (j1 : Int)) = false := by simp; omega
                have m1' : decide ((j1 : Int) < (i1 : Int)) = false := by simp; omega
                have m1'' : ¬ (j1 : Int) < (i1 : Int) := by omega
                have hne := pl_ne (HA.out.2.symm.trans Ei1.out) (HD.out.2.symm.trans Ej1.out) (by omega) (by omega)
                have HE := Lib.hid (show R = ((partLoop ltInt a (i1 + 1) (j1 - 1) (swp dk i1 j1)).1, false, swp (partLoop ltInt a (i1 + 1) (j1 - 1) (swp dk i1 j1)).2 (partLoop ltInt a (i1 + 1) (j1 - 1) (swp dk i1 j1)).1 a) by rw [HP1.out i1 j1 (HA.out.2.symm.trans Ei1.out) (HD.out.2.symm.trans Ej1.out), if_neg (by omega)])
                have hne2 : ¬ j1 = i1 := fun e => hne e.symm
                have c0 := HD.out.1.cell (j := i1) (by rw [HZ.out]; omega)
                have c1 := HD.out.1.cell (j := j1) (by rw [HZ.out]; omega)
                have f0 := HD.out.1.frozen (by rw [HZ.out]; omega) i1
                have f1 := HD.out.1.frozen (by rw [HZ.out]; omega) j1
                have hs1 := fun q => (HD.out.1.drewN q).swap (i := i1) (j := j1) (by rw [HZ.out]; omega) (by rw [HZ.out]; omega)
                have hs2 := fun q => (HD.out.1.drewN q).swap' (i := i1) (j := j1) (by rw [HZ.out]; omega) (by rw [HZ.out]; omega) hne
                obtain ⟨x, hx⟩ : ∃ x, x = dk[i1]! := ⟨_, rfl⟩
                obtain ⟨y, hy⟩ : ∃ y, y = dk[j1]! := ⟨_, rfl⟩
                rw [← hx] at c0 hs1 hs2
                rw [← hy] at c1 hs1 hs2
                have HS1 := Lib.hid hs1
                have HS2 := Lib.hid hs2
                have t0 : (0 : Int) ≤ (i1 : Int) := by omega
                have t1 : (i1 : Int) < (n : Int) := by omega
                have t2 : (0 : Int) ≤ (j1 : Int) := by omega
                have t3 : (j1 : Int) < (n : Int) := by omega
                have w1 : IntKind.i64.wrap ((i1 : Int) + 1) = ((i1 + 1 : Nat) : Int) := by rw [IntWalk.i64_in _ (by omega)]; omega
                have w2 : IntKind.i64.wrap ((j1 : Int) - 1) = ((j1 - 1 : Nat) : Int) := by rw [IntWalk.i64_in _ (by omega)]; omega
                have HG := Lib.hid (show j1 - 1 + 1 - (i1 + 1) < j + 1 - i ∧ a < i1 + 1 ∧ i1 + 1 ≤ j1 - 1 + 1 ∧ j1 - 1 < b from by omega)
                have HSZ := Lib.hid (show (swp dk i1 j1).size = n by rw [swpU_size]; exact HZ.out)
                clear hs1 hs2 hx hy hgki1 hgkj1
                go_wp2
                go_region
                all_goals
                  clear c0 c1 f0 f1 t0 t1 t2 t3 m1 m1' m1'' hne hne2
                  go_wp2
                  go_loopg [10, 11] (j1 - 1 + 1 - (i1 + 1)) (fun gi s10 s11 wx => ∃ (i j : Nat) (dk : Array Int), (gi = j + 1 - i ∧ a < i ∧ i ≤ j + 1 ∧ j < b) ∧ s10 = .int .i64 i ∧ s11 = .int .i64 j ∧ Hid (Ud w0 wx g cap dk ∧ dk.size = n ∧ R = ((partLoop ltInt a i j dk).1, false, swp (partLoop ltInt a i j dk).2 (partLoop ltInt a i j dk).1 a)))
                  case atStart =>
                    first
                      | exact ⟨i1 + 1, j1 - 1, _, ⟨rfl, HG.out.2⟩, by first | rfl | go_num, by first | rfl | go_num, Lib.hid ⟨HS1.out _, HSZ.out, HE.out⟩⟩
                      | exact ⟨i1 + 1, j1 - 1, _, ⟨rfl, HG.out.2⟩, by first | rfl | go_num, by first | rfl | go_num, Lib.hid ⟨HS2.out _, HSZ.out, HE.out⟩⟩
                  case round =>
                    obtain ⟨i, j, dk, ⟨hg, hai, hij, hjb⟩, rfl, rfl, HR⟩ := hrel
                    have HZ := Lib.hid HR.out.2.1
                    go_wp2
                    go_loopg [10] (j + 1 - i) (fun gk sk wy => ∃ (i1 : Nat), (gk = j + 1 - i1 ∧ i ≤ i1 ∧ i1 ≤ j + 1) ∧ sk = .int .i64 i1 ∧ Hid (Ud w0 wy g cap dk ∧ scanUp (fun x => ltInt x dk[a]!) dk j i1 = scanUp (fun x => ltInt x dk[a]!) dk j i))
                    case atStart => exact ⟨i, ⟨rfl, by omega, by omega⟩, by first | rfl | go_num, Lib.hid ⟨HR.out.1, rfl⟩⟩
                    case round =>
                      obtain ⟨i1, ⟨hgki1, hi1, hi1'⟩, rfl, HA⟩ := hrel
                      by_cases hlei1 : i1 ≤ j
                      · have g1 : decide ((i1 : Int) ≤ (j : Int)) = true := by simpa using hlei1
                        have g1' : decide (i1 ≤ j) = true := by simpa using hlei1
                        have w1 : IntKind.i64.wrap ((i1 : Int) + 1) = ((i1 + 1 : Nat) : Int) := by rw [IntWalk.i64_in _ (by omega)]; omega
                        have c0 := HA.out.1.cell (j := a) (by rw [HZ.out]; omega)
                        have c1 := HA.out.1.cell (j := i1) (by rw [HZ.out]; omega)
                        have t0 : (0 : Int) ≤ (a : Int) := by omega
                        have t1 : (a : Int) < (n : Int) := by omega
                        have t2 : (0 : Int) ≤ (i1 : Int) := by omega
                        have t3 : (i1 : Int) < (n : Int) := by omega
                        obtain ⟨x, hx⟩ : ∃ x, x = dk[a]! := ⟨_, rfl⟩
                        obtain ⟨y, hy⟩ : ∃ y, y = dk[i1]! := ⟨_, rfl⟩
                        rw [← hx] at c0
                        rw [← hy] at c1
                        have hL : ∀ W, Calls Try.prog 54 #[.int .u64 y, .int .u64 x] W fun e w' => e = .returned (.bool (ltInt y x)) ∧ w' = W := fun W => (less_u y x W).mono fun e w' ⟨h1, h2⟩ => ⟨h1, h2.symm⟩
                        cases hl : ltInt y x with
                        | true =>
                          have E := Lib.hid (su_go (p := (fun x => ltInt x dk[a]!)) (d := dk) (j := j) (i := i1) hlei1 (by show ltInt dk[i1]! dk[a]! = true; rw [← hx, ← hy, hl]))
                          rw [hl] at hL
                          clear hl hx hy
                          go_wp2
                          go_quiet ((go_at_call 54; first | exact Calls.quiet_of_same (hL _) | exact quiet_sum hL))
                          go_wp2
                          go_roundg (j + 1 - (i1 + 1))
                          case measure => omega
                          case rel => exact ⟨i1 + 1, ⟨rfl, by omega, by omega⟩, by first | rfl | go_num, Lib.hid ⟨HA.out.1.drewN _, by rw [← E.out]; exact HA.out.2⟩⟩
                        | false =>
                          have Ei1 := Lib.hid (su_no (p := (fun x => ltInt x dk[a]!)) (d := dk) (j := j) (i := i1) (by show ltInt dk[i1]! dk[a]! = false; rw [← hx, ← hy, hl]))
                          rw [hl] at hL
                          clear hl hx hy
                          go_wp2
                          go_quiet ((go_at_call 54; first | exact Calls.quiet_of_same (hL _) | exact quiet_sum hL))
                          clear hL g1 g1' w1 c0 c1 t2 t3
                          go_wp2
                          go_loopg [11] (j + 1) (fun gk sk wy => ∃ (j1 : Nat), (gk = j1 + 1 ∧ i1 ≤ j1 + 1 ∧ j1 ≤ j) ∧ sk = .int .i64 j1 ∧ Hid (Ud w0 wy g cap dk ∧ scanDown (fun x => !ltInt x dk[a]!) dk i1 j1 = scanDown (fun x => !ltInt x dk[a]!) dk i1 j))
                          case atStart => exact ⟨j, ⟨rfl, by omega, by omega⟩, by first | rfl | go_num, Lib.hid ⟨HA.out.1.drewN _, rfl⟩⟩
                          case round =>
                            obtain ⟨j1, ⟨hgkj1, hj1, hj1'⟩, rfl, HD⟩ := hrel
                            by_cases hlej1 : i1 ≤ j1
                            · have g1 : decide ((i1 : Int) ≤ (j1 : Int)) = true := by simpa using hlej1
                              have g1' : decide (i1 ≤ j1) = true := by simpa using hlej1
                              have w1 : IntKind.i64.wrap ((j1 : Int) - 1) = ((j1 - 1 : Nat) : Int) := by rw [IntWalk.i64_in _ (by omega)]; omega
                              have c0 := HD.out.1.cell (j := a) (by rw [HZ.out]; omega)
                              have c1 := HD.out.1.cell (j := j1) (by rw [HZ.out]; omega)
                              have t0 : (0 : Int) ≤ (a : Int) := by omega
                              have t1 : (a : Int) < (n : Int) := by omega
                              have t2 : (0 : Int) ≤ (j1 : Int) := by omega
                              have t3 : (j1 : Int) < (n : Int) := by omega
                              obtain ⟨x, hx⟩ : ∃ x, x = dk[a]! := ⟨_, rfl⟩
                              obtain ⟨y, hy⟩ : ∃ y, y = dk[j1]! := ⟨_, rfl⟩
                              rw [← hx] at c0
                              rw [← hy] at c1
                              have hL : ∀ W, Calls Try.prog 54 #[.int .u64 y, .int .u64 x] W fun e w' => e = .returned (.bool (ltInt y x)) ∧ w' = W := fun W => (less_u y x W).mono fun e w' ⟨h1, h2⟩ => ⟨h1, h2.symm⟩
                              cases hl : ltInt y x with
                              | false =>
                                have E := Lib.hid (sd_go (p := (fun x => !ltInt x dk[a]!)) (d := dk) (i := i1) (j := j1) hlej1 (by omega) (by show (!ltInt dk[j1]! dk[a]!) = true; rw [← hx, ← hy, hl]; rfl))
                                rw [hl] at hL
                                clear hl hx hy
                                go_wp2
                                go_quiet ((go_at_call 54; first | exact Calls.quiet_of_same (hL _) | exact quiet_sum hL))
                                go_wp2
                                go_roundg (j1 - 1 + 1)
                                case measure => omega
                                case rel => exact ⟨j1 - 1, ⟨rfl, by omega, by omega⟩, by first | rfl | go_num, Lib.hid ⟨HD.out.1.drewN _, by rw [← E.out]; exact HD.out.2⟩⟩
                              | true =>
                                have Ej1 := Lib.hid (sd_no (p := (fun x => !ltInt x dk[a]!)) (d := dk) (i := i1) (j := j1) (by show (!ltInt dk[j1]! dk[a]!) = false; rw [← hx, ← hy, hl]; rfl))
                                rw [hl] at hL
                                clear hl hx hy
                                go_wp2
                                go_quiet ((go_at_call 54; first | exact Calls.quiet_of_same (hL _) | exact quiet_sum hL))
                                clear hL g1 g1' w1 c0 c1 t2 t3
                                go_wp2
                                have m1 : decide ((i1 : Int) > (j1 : Int)) = false := by simp; omega
                                have m1' : decide ((j1 : Int) < (i1 : Int)) = false := by simp; omega
                                have m1'' : ¬ (j1 : Int) < (i1 : Int) := by omega
                                have hne := pl_ne (HA.out.2.symm.trans Ei1.out) (HD.out.2.symm.trans Ej1.out) (by omega) (by omega)
                                have HE := Lib.hid (show R = ((partLoop ltInt a (i1 + 1) (j1 - 1) (swp dk i1 j1)).1, false, swp (partLoop ltInt a (i1 + 1) (j1 - 1) (swp dk i1 j1)).2 (partLoop ltInt a (i1 + 1) (j1 - 1) (swp dk i1 j1)).1 a) by rw [HR.out.2.2, pl_step (HA.out.2.symm.trans Ei1.out) (HD.out.2.symm.trans Ej1.out), if_neg (by omega)])
                                have hne2 : ¬ j1 = i1 := fun e => hne e.symm
                                have c0 := HD.out.1.cell (j := i1) (by rw [HZ.out]; omega)
                                have c1 := HD.out.1.cell (j := j1) (by rw [HZ.out]; omega)
                                have f0 := HD.out.1.frozen (by rw [HZ.out]; omega) i1
                                have f1 := HD.out.1.frozen (by rw [HZ.out]; omega) j1
                                have hs1 := fun q => (HD.out.1.drewN q).swap (i := i1) (j := j1) (by rw [HZ.out]; omega) (by rw [HZ.out]; omega)
                                have hs2 := fun q => (HD.out.1.drewN q).swap' (i := i1) (j := j1) (by rw [HZ.out]; omega) (by rw [HZ.out]; omega) hne
                                obtain ⟨x, hx⟩ : ∃ x, x = dk[i1]! := ⟨_, rfl⟩
                                obtain ⟨y, hy⟩ : ∃ y, y = dk[j1]! := ⟨_, rfl⟩
                                rw [← hx] at c0 hs1 hs2
                                rw [← hy] at c1 hs1 hs2
                                have HS1 := Lib.hid hs1
                                have HS2 := Lib.hid hs2
                                have t0 : (0 : Int) ≤ (i1 : Int) := by omega
                                have t1 : (i1 : Int) < (n : Int) := by omega
                                have t2 : (0 : Int) ≤ (j1 : Int) := by omega
                                have t3 : (j1 : Int) < (n : Int) := by omega
                                have w1 : IntKind.i64.wrap ((i1 : Int) + 1) = ((i1 + 1 : Nat) : Int) := by rw [IntWalk.i64_in _ (by omega)]; omega
                                have w2 : IntKind.i64.wrap ((j1 : Int) - 1) = ((j1 - 1 : Nat) : Int) := by rw [IntWalk.i64_in _ (by omega)]; omega
                                have HG := Lib.hid (show j1 - 1 + 1 - (i1 + 1) < j + 1 - i ∧ a < i1 + 1 ∧ i1 + 1 ≤ j1 - 1 + 1 ∧ j1 - 1 < b from by omega)
                                have HSZ := Lib.hid (show (swp dk i1 j1).size = n by rw [swpU_size]; exact HZ.out)
                                have HGG := Lib.hid hg
                                clear hs1 hs2 hx hy hgki1 hgkj1 hg
                                go_wp2
                                go_region
                                all_goals
                                  go_wp2
                                  go_roundg (j1 - 1 + 1 - (i1 + 1))
                                  case measure => have := HG.out; have := HGG.out; omega
                                  case rel =>
                                    first
                                      | exact ⟨i1 + 1, j1 - 1, _, ⟨rfl, HG.out.2⟩, by first | rfl | go_num, by first | rfl | go_num, Lib.hid ⟨HS1.out _, HSZ.out, HE.out⟩⟩
                                      | exact ⟨i1 + 1, j1 - 1, _, ⟨rfl, HG.out.2⟩, by first | rfl | go_num, by first | rfl | go_num, Lib.hid ⟨HS2.out _, HSZ.out, HE.out⟩⟩
                            · have g1 : decide ((i1 : Int) ≤ (j1 : Int)) = false := by simpa using hlej1
                              have g1' : decide (i1 ≤ j1) = false := by simpa using hlej1
                              have Ej1 := Lib.hid (sd_end (p := (fun x => !ltInt x dk[a]!)) (d := dk) (i := i1) (j := j1) hlej1)
                              go_wp2
                              go_quiet (fail)
                              clear g1 g1'
                              go_wp2
                              have m1 : decide ((i1 : Int) > (j1 : Int)) = true := by simp; omega
                              have m1' : decide ((j1 : Int) < (i1 : Int)) = true := by simp; omega
                              have m1'' : (j1 : Int) < (i1 : Int) := by omega
                              have HE := Lib.hid (show (j1, false, swp dk j1 a) = R by rw [HR.out.2.2, pl_step (HA.out.2.symm.trans Ei1.out) (HD.out.2.symm.trans Ej1.out), if_pos (by omega)])
                              have HN := Lib.hid (show j1 < b ∧ b ≤ n ∧ a < n from by omega)
                              have c0 := HD.out.1.cell (j := j1) (by rw [HZ.out]; omega)
                              have f0 := HD.out.1.frozen (by rw [HZ.out]; omega) j1
                              have hs1 := fun q => (HD.out.1.drewN q).swap (i := j1) (j := a) (by rw [HZ.out]; omega) (by rw [HZ.out]; omega)
                              obtain ⟨x, hx⟩ : ∃ x, x = dk[j1]! := ⟨_, rfl⟩
                              have t0 : (0 : Int) ≤ (j1 : Int) := by omega
                              have t1 : (j1 : Int) < (n : Int) := by omega
                              by_cases hja : j1 = a
                              · subst hja
                                rw [← hx] at c0 hs1
                                have HS1 := Lib.hid hs1
                                clear hs1 hx hgki1 hgkj1 hg
                                go_wp2
                                go_region
                                all_goals
                                  go_wp2
                                  go_ret2
                                  rw [← HE.out]
                                  first
                                    | exact ⟨rfl, HS1.out _⟩
                                    | exact ⟨rfl, by simpa using HS1.out _⟩
                              · have hne2 : ¬ a = j1 := fun e => hja e.symm
                                have c1 := HD.out.1.cell (j := a) (by rw [HZ.out]; omega)
                                have f1 := HD.out.1.frozen (by rw [HZ.out]; omega) a
                                have t2 : (0 : Int) ≤ (a : Int) := by omega
                                have t3 : (a : Int) < (n : Int) := by omega
                                have hs2 := fun q => (HD.out.1.drewN q).swap' (i := j1) (j := a) (by rw [HZ.out]; omega) (by rw [HZ.out]; omega) hja
                                obtain ⟨y, hy⟩ : ∃ y, y = dk[a]! := ⟨_, rfl⟩
                                rw [← hx] at c0 hs1 hs2
                                rw [← hy] at c1 hs1 hs2
                                have HS1 := Lib.hid hs1
                                have HS2 := Lib.hid hs2
                                clear hs1 hs2 hx hy hgki1 hgkj1 hg
                                go_wp2
                                go_region
                                all_goals
                                  go_wp2
                                  go_ret2
                                  rw [← HE.out]
                                  first
                                    | exact ⟨rfl, HS1.out _⟩
                                    | exact ⟨rfl, HS2.out _⟩
                      · have g1 : decide ((i1 : Int) ≤ (j : Int)) = false := by simpa using hlei1
                        have g1' : decide (i1 ≤ j) = false := by simpa using hlei1
                        have Ei1 := Lib.hid (su_end (p := (fun x => ltInt x dk[a]!)) (d := dk) (j := j) (i := i1) hlei1)
                        go_wp2
                        go_quiet (fail)
                        clear g1 g1'
                        go_wp2
                        go_loopg [11] (j + 1) (fun gk sk wy => ∃ (j1 : Nat), (gk = j1 + 1 ∧ i1 ≤ j1 + 1 ∧ j1 ≤ j) ∧ sk = .int .i64 j1 ∧ Hid (Ud w0 wy g cap dk ∧ scanDown (fun x => !ltInt x dk[a]!) dk i1 j1 = scanDown (fun x => !ltInt x dk[a]!) dk i1 j))
                        case atStart => exact ⟨j, ⟨rfl, by omega, by omega⟩, by first | rfl | go_num, Lib.hid ⟨HA.out.1.drewN _, rfl⟩⟩
                        case round =>
                          obtain ⟨j1, ⟨hgkj1, hj1, hj1'⟩, rfl, HD⟩ := hrel
                          by_cases hlej1 : i1 ≤ j1
                          · exfalso
                            omega
                          · have g1 : decide ((i1 : Int) ≤ (j1 : Int)) = false := by simpa using hlej1
                            have g1' : decide (i1 ≤ j1) = false := by simpa using hlej1
                            have Ej1 := Lib.hid (sd_end (p := (fun x => !ltInt x dk[a]!)) (d := dk) (i := i1) (j := j1) hlej1)
                            go_wp2
                            go_quiet (fail)
                            clear g1 g1'
                            go_wp2
                            have m1 : decide ((i1 : Int) > (j1 : Int)) = true := by simp; omega
                            have m1' : decide ((j1 : Int) < (i1 : Int)) = true := by simp; omega
                            have m1'' : (j1 : Int) < (i1 : Int) := by omega
                            have HE := Lib.hid (show (j1, false, swp dk j1 a) = R by rw [HR.out.2.2, pl_step (HA.out.2.symm.trans Ei1.out) (HD.out.2.symm.trans Ej1.out), if_pos (by omega)])
                            have HN := Lib.hid (show j1 < b ∧ b ≤ n ∧ a < n from by omega)
                            have c0 := HD.out.1.cell (j := j1) (by rw [HZ.out]; omega)
                            have f0 := HD.out.1.frozen (by rw [HZ.out]; omega) j1
                            have hs1 := fun q => (HD.out.1.drewN q).swap (i := j1) (j := a) (by rw [HZ.out]; omega) (by rw [HZ.out]; omega)
                            obtain ⟨x, hx⟩ : ∃ x, x = dk[j1]! := ⟨_, rfl⟩
                            have t0 : (0 : Int) ≤ (j1 : Int) := by omega
                            have t1 : (j1 : Int) < (n : Int) := by omega
                            by_cases hja : j1 = a
                            · subst hja
                              rw [← hx] at c0 hs1
                              have HS1 := Lib.hid hs1
                              clear hs1 hx hgki1 hgkj1 hg
                              go_wp2
                              go_region
                              all_goals
                                go_wp2
                                go_ret2
                                rw [← HE.out]
                                first
                                  | exact ⟨rfl, HS1.out _⟩
                                  | exact ⟨rfl, by simpa using HS1.out _⟩
                            · have hne2 : ¬ a = j1 := fun e => hja e.symm
                              have c1 := HD.out.1.cell (j := a) (by rw [HZ.out]; omega)
                              have f1 := HD.out.1.frozen (by rw [HZ.out]; omega) a
                              have t2 : (0 : Int) ≤ (a : Int) := by omega
                              have t3 : (a : Int) < (n : Int) := by omega
                              have hs2 := fun q => (HD.out.1.drewN q).swap' (i := j1) (j := a) (by rw [HZ.out]; omega) (by rw [HZ.out]; omega) hja
                              obtain ⟨y, hy⟩ : ∃ y, y = dk[a]! := ⟨_, rfl⟩
                              rw [← hx] at c0 hs1 hs2
                              rw [← hy] at c1 hs1 hs2
                              have HS1 := Lib.hid hs1
                              have HS2 := Lib.hid hs2
                              clear hs1 hs2 hx hy hgki1 hgkj1 hg
                              go_wp2
                              go_region
                              all_goals
                                go_wp2
                                go_ret2
                                rw [← HE.out]
                                first
                                  | exact ⟨rfl, HS1.out _⟩
                                  | exact ⟨rfl, HS2.out _⟩
            · have g1 : decide ((i1 : Int) ≤ (j1 : Int)) = false := by simpa using hlej1
              have g1' : decide (i1 ≤ j1) = false := by simpa using hlej1
              have Ej1 := Lib.hid (sd_end (p := (fun x => !ltInt x dk[a]!)) (d := dk) (i := i1) (j := j1) hlej1)
              go_wp2
              go_quiet (fail)
              clear g1 g1'
              go_wp2
              have m1 : decide ((i1 : Int) > (j1 : Int)) = true := by simp; omega
              have m1' : decide ((j1 : Int) < (i1 : Int)) = true := by simp; omega
              have m1'' : (j1 : Int) < (i1 : Int) := by omega
              have HE := Lib.hid (show (j1, true, swp dk j1 a) = R by rw [HP1.out i1 j1 (HA.out.2.symm.trans Ei1.out) (HD.out.2.symm.trans Ej1.out), if_pos (by omega)])
              have HN := Lib.hid (show j1 < b ∧ b ≤ n ∧ a < n from by omega)
              have c0 := HD.out.1.cell (j := j1) (by rw [HZ.out]; omega)
              have f0 := HD.out.1.frozen (by rw [HZ.out]; omega) j1
              have hs1 := fun q => (HD.out.1.drewN q).swap (i := j1) (j := a) (by rw [HZ.out]; omega) (by rw [HZ.out]; omega)
              obtain ⟨x, hx⟩ : ∃ x, x = dk[j1]! := ⟨_, rfl⟩
              have t0 : (0 : Int) ≤ (j1 : Int) := by omega
              have t1 : (j1 : Int) < (n : Int) := by omega
              by_cases hja : j1 = a
              · subst hja
                rw [← hx] at c0 hs1
                have HS1 := Lib.hid hs1
                clear hs1 hx hgki1 hgkj1
                go_wp2
                go_region
                all_goals
                  go_wp2
                  go_ret2
                  rw [← HE.out]
                  first
                    | exact ⟨rfl, HS1.out _⟩
                    | exact ⟨rfl, by simpa using HS1.out _⟩
              · have hne2 : ¬ a = j1 := fun e => hja e.symm
                have c1 := HD.out.1.cell (j := a) (by rw [HZ.out]; omega)
                have f1 := HD.out.1.frozen (by rw [HZ.out]; omega) a
                have t2 : (0 : Int) ≤ (a : Int) := by omega
                have t3 : (a : Int) < (n : Int) := by omega
                have hs2 := fun q => (HD.out.1.drewN q).swap' (i := j1) (j := a) (by rw [HZ.out]; omega) (by rw [HZ.out]; omega) hja
                obtain ⟨y, hy⟩ : ∃ y, y = dk[a]! := ⟨_, rfl⟩
                rw [← hx] at c0 hs1 hs2
                rw [← hy] at c1 hs1 hs2
                have HS1 := Lib.hid hs1
                have HS2 := Lib.hid hs2
                clear hs1 hs2 hx hy hgki1 hgkj1
                go_wp2
                go_region
                all_goals
                  go_wp2
                  go_ret2
                  rw [← HE.out]
                  first
                    | exact ⟨rfl, HS1.out _⟩
                    | exact ⟨rfl, HS2.out _⟩
      · have g1 : decide ((i1 : Int) ≤ (j : Int)) = false := by simpa using hlei1
        have g1' : decide (i1 ≤ j) = false := by simpa using hlei1
        have Ei1 := Lib.hid (su_end (p := (fun x => ltInt x dk[a]!)) (d := dk) (j := j) (i := i1) hlei1)
        go_wp2
        go_quiet (fail)
        clear g1 g1'
        go_wp2
        go_loopg [11] (j + 1) (fun gk sk wy => ∃ (j1 : Nat), (gk = j1 + 1 ∧ i1 ≤ j1 + 1 ∧ j1 ≤ j) ∧ sk = .int .i64 j1 ∧ Hid (Ud w0 wy g cap dk ∧ scanDown (fun x => !ltInt x dk[a]!) dk i1 j1 = scanDown (fun x => !ltInt x dk[a]!) dk i1 j))
        case atStart => exact ⟨j, ⟨rfl, by omega, by omega⟩, by first | rfl | go_num, Lib.hid ⟨HA.out.1.drewN _, rfl⟩⟩
        case round =>
          obtain ⟨j1, ⟨hgkj1, hj1, hj1'⟩, rfl, HD⟩ := hrel
          by_cases hlej1 : i1 ≤ j1
          · exfalso
            omega
          · have g1 : decide ((i1 : Int) ≤ (j1 : Int)) = false := by simpa using hlej1
            have g1' : decide (i1 ≤ j1) = false := by simpa using hlej1
            have Ej1 := Lib.hid (sd_end (p := (fun x => !ltInt x dk[a]!)) (d := dk) (i := i1) (j := j1) hlej1)
            go_wp2
            go_quiet (fail)
            clear g1 g1'
            go_wp2
            have m1 : decide ((i1 : Int) > (j1 : Int)) = true := by simp; omega
            have m1' : decide ((j1 : Int) < (i1 : Int)) = true := by simp; omega
            have m1'' : (j1 : Int) < (i1 : Int) := by omega
            have HE := Lib.hid (show (j1, true, swp dk j1 a) = R by rw [HP1.out i1 j1 (HA.out.2.symm.trans Ei1.out) (HD.out.2.symm.trans Ej1.out), if_pos (by omega)])
            have HN := Lib.hid (show j1 < b ∧ b ≤ n ∧ a < n from by omega)
            have c0 := HD.out.1.cell (j := j1) (by rw [HZ.out]; omega)
            have f0 := HD.out.1.frozen (by rw [HZ.out]; omega) j1
            have hs1 := fun q => (HD.out.1.drewN q).swap (i := j1) (j := a) (by rw [HZ.out]; omega) (by rw [HZ.out]; omega)
            obtain ⟨x, hx⟩ : ∃ x, x = dk[j1]! := ⟨_, rfl⟩
            have t0 : (0 : Int) ≤ (j1 : Int) := by omega
            have t1 : (j1 : Int) < (n : Int) := by omega
            by_cases hja : j1 = a
            · subst hja
              rw [← hx] at c0 hs1
              have HS1 := Lib.hid hs1
              clear hs1 hx hgki1 hgkj1
              go_wp2
              go_region
              all_goals
                go_wp2
                go_ret2
                rw [← HE.out]
                first
                  | exact ⟨rfl, HS1.out _⟩
                  | exact ⟨rfl, by simpa using HS1.out _⟩
            · have hne2 : ¬ a = j1 := fun e => hja e.symm
              have c1 := HD.out.1.cell (j := a) (by rw [HZ.out]; omega)
              have f1 := HD.out.1.frozen (by rw [HZ.out]; omega) a
              have t2 : (0 : Int) ≤ (a : Int) := by omega
              have t3 : (a : Int) < (n : Int) := by omega
              have hs2 := fun q => (HD.out.1.drewN q).swap' (i := j1) (j := a) (by rw [HZ.out]; omega) (by rw [HZ.out]; omega) hja
              obtain ⟨y, hy⟩ : ∃ y, y = dk[a]! := ⟨_, rfl⟩
              rw [← hx] at c0 hs1 hs2
              rw [← hy] at c1 hs1 hs2
              have HS1 := Lib.hid hs1
              have HS2 := Lib.hid hs2
              clear hs1 hs2 hx hy hgki1 hgkj1
              go_wp2
              go_region
              all_goals
                go_wp2
                go_ret2
                rw [← HE.out]
                first
                  | exact ⟨rfl, HS1.out _⟩
                  | exact ⟨rfl, HS2.out _⟩
end Go.Proofs
