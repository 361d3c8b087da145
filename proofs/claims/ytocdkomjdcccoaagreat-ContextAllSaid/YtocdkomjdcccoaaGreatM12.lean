import Derived.Test.YtocdkomjdcccoaaGreatM11
import Derived.Deep.CutBlock
import Derived.Deep.CutRange
import Derived.Deep.DeepCutAuto
section
namespace Go.Proofs
open Go.RowKit Go.Sort
set_option linter.unusedVariables false

theorem su_go {p : Int → Bool} {d : Array Int} {j i : Nat} (h : i ≤ j) (hp : p d[i]! = true) : scanUp p d j i = scanUp p d j (i + 1) := by rw [scanUp, if_pos (by simp [h, hp])]
theorem su_no {p : Int → Bool} {d : Array Int} {j i : Nat} (hp : p d[i]! = false) : scanUp p d j i = i := by rw [scanUp, if_neg (by simp [hp])]
theorem su_end {p : Int → Bool} {d : Array Int} {j i : Nat} (h : ¬ i ≤ j) : scanUp p d j i = i := by rw [scanUp, if_neg (by simp; omega)]
theorem sd_go {p : Int → Bool} {d : Array Int} {i j : Nat} (h : i ≤ j) (hj : 1 ≤ j) (hp : p d[j]! = true) : scanDown p d i j = scanDown p d i (j - 1) := by
  obtain ⟨k, rfl⟩ : ∃ k, j = k + 1 := ⟨j - 1, by omega⟩
  rw [scanDown, if_pos (by simp [h, hp])]
  rfl
theorem sd_no {p : Int → Bool} {d : Array Int} {i j : Nat} (hp : p d[j]! = false) : scanDown p d i j = j := by
  cases j with
  | zero => rw [scanDown]
  | succ k => rw [scanDown, if_neg (by simp [hp])]
theorem sd_end {p : Int → Bool} {d : Array Int} {i j : Nat} (h : ¬ i ≤ j) : scanDown p d i j = j := by
  cases j with
  | zero => rw [scanDown]
  | succ k => rw [scanDown, if_neg (by simp; omega)]
theorem pe_step {a i j i2 j2 : Nat} {d : Array Int} (h1 : scanUp (fun x => !ltInt d[a]! x) d j i = i2) (h2 : scanDown (fun x => ltInt d[a]! x) d i2 j = j2) : partEqLoop ltInt a i j d = if i2 > j2 then (i2, d) else partEqLoop ltInt a (i2 + 1) (j2 - 1) (swp d i2 j2) := by
  rw [partEqLoop_eq, h1, h2]
theorem pe_ne {a i j i2 j2 : Nat} {d : Array Int} (h1 : scanUp (fun x => !ltInt d[a]! x) d j i = i2) (h2 : scanDown (fun x => ltInt d[a]! x) d i2 j = j2) (h : i2 ≤ j2) (h0 : 0 < i2) : ¬ i2 = j2 := by
  intro e
  have s1 := (scanUp_spec (fun x => !ltInt d[a]! x) d j _ i rfl).2.2.2
  have s2 := (scanDown_spec (fun x => ltInt d[a]! x) d i2 j)
  rw [h1] at s1
  rw [h2] at s2
  have t1 := s1 (by omega)
  have t2 := s2.2.2.2 h (by omega)
  rw [← e] at t2
  simp [t2] at t1

set_option maxHeartbeats 6400000 in
set_option maxRecDepth 100000 in
theorem parteq_u {w0 w : World} {g cap : Nat} {d : Array Int} (h : Ud w0 w g cap d) (a b pivot : Nat) (hp1 : a ≤ pivot) (hp2 : pivot < b) (hab : a + 2 < b) (hb : b ≤ d.size) (hsz : d.size ≤ 100000) :
    Calls Tryz.prog 132 #[.slice (some ⟨g, 0, none⟩) d.size cap, .int .i64 a, .int .i64 b, .int .i64 pivot] w fun e w' => e = .returned (.int .i64 (partitionEqual ltInt d a b pivot).1) ∧ Ud w0 w' g cap (partitionEqual ltInt d a b pivot).2 := by
  obtain ⟨n, hn⟩ : ∃ n, n = d.size := ⟨_, rfl⟩
  obtain ⟨R, hR⟩ : ∃ R, R = partitionEqual ltInt d a b pivot := ⟨_, rfl⟩
  obtain ⟨d1, hd1⟩ : ∃ d1, d1 = swp d a pivot := ⟨_, rfl⟩
  have HR0 := Lib.hid (show partEqLoop ltInt a (a + 1) (b - 1) d1 = R ∧ d1.size = n by rw [hR, hd1]; exact ⟨rfl, by rw [swpU_size]; exact hn.symm⟩)
  have c0 := h.cell (j := a) (by omega)
  have c1 := h.cell (j := pivot) (by omega)
  have f0 := h.frozen (by omega) a
  have f1 := h.frozen (by omega) pivot
  have hs1 := fun q => (h.drewN q).swap (i := a) (j := pivot) (by omega) (by omega)
  have hs2 := fun q (hne : a ≠ pivot) => (h.drewN q).swap' (i := a) (j := pivot) (by omega) (by omega) hne
  rw [← hd1] at hs1 hs2
  obtain ⟨x, hx⟩ : ∃ x, x = d[a]! := ⟨_, rfl⟩
  obtain ⟨y, hy⟩ : ∃ y, y = d[pivot]! := ⟨_, rfl⟩
  rw [← hx] at c0 hs1 hs2
  rw [← hy] at c1 hs1 hs2
  have HXY := Lib.hid (show a = pivot → x = y from fun e => by rw [hx, hy, e])
  rw [← hn] at hb hsz ⊢
  rw [← hR]
  have HS1 := Lib.hid hs1
  have HS2 := Lib.hid hs2
  have i0 : (0 : Int) ≤ (a : Int) := by omega
  have i1 : (a : Int) < (n : Int) := by omega
  have i2 : (0 : Int) ≤ (pivot : Int) := by omega
  have i3 : (pivot : Int) < (n : Int) := by omega
  have k0 : IntKind.i64.wrap ((a : Int) + 1) = ((a + 1 : Nat) : Int) := by rw [IntWalk.i64_in _ (by omega)]; omega
  have k1 : IntKind.i64.wrap ((b : Int) - 1) = ((b - 1 : Nat) : Int) := by rw [IntWalk.i64_in _ (by omega)]; omega
  clear hs1 hs2 hx hy hR hd1 hn h
  go_enter Tryz.func132, Tryz.ntmps132
  go_upto_region 1 with fail
  go_cut [11] from 11 to 24 (fun s11 wc => Hid (Ud w0 wc g cap d1))
  case first =>
    by_cases hap : a = pivot
    · subst hap
      have hxy := HXY.out rfl
      subst hxy
      clear c1 f1 i2 i3
      go_wp2
      go_region
      all_goals
        go_wp2
        go_meet
        first
          | exact Lib.hid (HS1.out _)
          | exact Lib.hid (by simpa using HS1.out _)
    · have hne : ¬ pivot = a := fun e => hap e.symm
      go_wp2
      go_region
      all_goals
        go_wp2
        go_meet
        first
          | exact Lib.hid (HS1.out _)
          | exact Lib.hid (HS2.out _ hap)
  case rest =>
    clear c0 c1 f0 f1 i0 i1 i2 i3
    go_wp2
    go_loopg [9, 10] (b - 1 + 1 - (a + 1)) (fun gi s9 s10 wx => ∃ (i j : Nat) (dk : Array Int), (gi = j + 1 - i ∧ a < i ∧ i ≤ j + 1 ∧ j < b) ∧ s9 = .int .i64 i ∧ s10 = .int .i64 j ∧ Hid (Ud w0 wx g cap dk ∧ dk.size = n ∧ partEqLoop ltInt a i j dk = R))
    case atStart => exact ⟨a + 1, b - 1, d1, ⟨rfl, by omega, by omega, by omega⟩, rfl, rfl, Lib.hid ⟨hcut.out, HR0.out.2, HR0.out.1⟩⟩
    case round =>
      obtain ⟨i, j, dk, ⟨hg, hai, hij, hjb⟩, rfl, rfl, HR⟩ := hrel
      have HZ := Lib.hid HR.out.2.1
      go_wp2
      go_loopg [9] (j + 1 - i) (fun gk sk wy => ∃ (i1 : Nat), (gk = j + 1 - i1 ∧ i ≤ i1 ∧ i1 ≤ j + 1) ∧ sk = .int .i64 i1 ∧ Hid (Ud w0 wy g cap dk ∧ scanUp (fun x => !ltInt dk[a]! x) dk j i1 = scanUp (fun x => !ltInt dk[a]! x) dk j i))
      case atStart => exact ⟨i, ⟨rfl, by omega, by omega⟩, by first | rfl | go_num, Lib.hid ⟨HR.out.1, rfl⟩⟩
      case round =>
        obtain ⟨i1, ⟨hgki1, hi1, hi1'⟩, rfl, HA⟩ := hrel
        by_cases hlei1 : i1 ≤ j
        · have g1 : decide ((i1 : Int) ≤ (j : Int)) = true := by simpa using hlei1
          have g1' : decide (i1 ≤ j) = true := by simpa using hlei1
          have w1 : IntKind.i64.wrap ((i1 : Int) + 1) = ((i1 + 1 : Nat) : Int) := by rw [IntWalk.i64_in _ (by omega)]; omega
          have c0 := HA.out.1.cell (j := a) (by rw [HZ.out]; omega)
          have c1 := HA.out.1.cell (j := i1) (by rw [HZ.out]; omega)
          have t0 : (0 : Int) ≤ (a : Int) := by omega
          have t1 : (a : Int) < (n : Int) := by omega
          have t2 : (0 : Int) ≤ (i1 : Int) := by omega
          have t3 : (i1 : Int) < (n : Int) := by omega
          obtain ⟨x, hx⟩ : ∃ x, x = dk[a]! := ⟨_, rfl⟩
          obtain ⟨y, hy⟩ : ∃ y, y = dk[i1]! := ⟨_, rfl⟩
          rw [← hx] at c0
          rw [← hy] at c1
          have hL : ∀ W, Calls Tryz.prog 131 #[.int .u64 x, .int .u64 y] W fun e w' => e = .returned (.bool (ltInt x y)) ∧ w' = W := fun W => (less_u x y W).mono fun e w' ⟨h1, h2⟩ => ⟨h1, h2.symm⟩
          cases hl : ltInt x y with
          | false =>
            have E := Lib.hid (su_go (p := (fun x => !ltInt dk[a]! x)) (d := dk) (j := j) (i := i1) hlei1 (by show (!ltInt dk[a]! dk[i1]!) = true; rw [← hx, ← hy, hl]; rfl))
            rw [hl] at hL
            clear hl hx hy
            go_wp2
            go_quiet ((go_at_call 131; first | exact Calls.quiet_of_same (hL _) | exact quiet_sum hL))
            go_wp2
            go_roundg (j + 1 - (i1 + 1))
            case measure => omega
            case rel => exact ⟨i1 + 1, ⟨rfl, by omega, by omega⟩, by first | rfl | go_num, Lib.hid ⟨HA.out.1.drewN _, by rw [← E.out]; exact HA.out.2⟩⟩
          | true =>
            have Ei1 := Lib.hid (su_no (p := (fun x => !ltInt dk[a]! x)) (d := dk) (j := j) (i := i1) (by show (!ltInt dk[a]! dk[i1]!) = false; rw [← hx, ← hy, hl]; rfl))
            rw [hl] at hL
            clear hl hx hy
            go_wp2
            go_quiet ((go_at_call 131; first | exact Calls.quiet_of_same (hL _) | exact quiet_sum hL))
            clear hL g1 g1' w1 c0 c1 t2 t3
            go_wp2
            go_loopg [10] (j + 1) (fun gk sk wy => ∃ (j1 : Nat), (gk = j1 + 1 ∧ i1 ≤ j1 + 1 ∧ j1 ≤ j) ∧ sk = .int .i64 j1 ∧ Hid (Ud w0 wy g cap dk ∧ scanDown (fun x => ltInt dk[a]! x) dk i1 j1 = scanDown (fun x => ltInt dk[a]! x) dk i1 j))
            case atStart => exact ⟨j, ⟨rfl, by omega, by omega⟩, by first | rfl | go_num, Lib.hid ⟨HA.out.1.drewN _, rfl⟩⟩
            case round =>
              obtain ⟨j1, ⟨hgkj1, hj1, hj1'⟩, rfl, HD⟩ := hrel
              by_cases hlej1 : i1 ≤ j1
              · have g1 : decide ((i1 : Int) ≤ (j1 : Int)) = true := by simpa using hlej1
                have g1' : decide (i1 ≤ j1) = true := by simpa using hlej1
                have w1 : IntKind.i64.wrap ((j1 : Int) - 1) = ((j1 - 1 : Nat) : Int) := by rw [IntWalk.i64_in _ (by omega)]; omega
                have c0 := HD.out.1.cell (j := a) (by rw [HZ.out]; omega)
                have c1 := HD.out.1.cell (j := j1) (by rw [HZ.out]; omega)
                have t0 : (0 : Int) ≤ (a : Int) := by omega
                have t1 : (a : Int) < (n : Int) := by omega
                have t2 : (0 : Int) ≤ (j1 : Int) := by omega
                have t3 : (j1 : Int) < (n : Int) := by omega
                obtain ⟨x, hx⟩ : ∃ x, x = dk[a]! := ⟨_, rfl⟩
                obtain ⟨y, hy⟩ : ∃ y, y = dk[j1]! := ⟨_, rfl⟩
                rw [← hx] at c0
                rw [← hy] at c1
                have hL : ∀ W, Calls Tryz.prog 131 #[.int .u64 x, .int .u64 y] W fun e w' => e = .returned (.bool (ltInt x y)) ∧ w' = W := fun W => (less_u x y W).mono fun e w' ⟨h1, h2⟩ => ⟨h1, h2.symm⟩
                cases hl : ltInt x y with
                | true =>
                  have E := Lib.hid (sd_go (p := (fun x => ltInt dk[a]! x)) (d := dk) (i := i1) (j := j1) hlej1 (by omega) (by show ltInt dk[a]! dk[j1]! = true; rw [← hx, ← hy, hl]))
                  rw [hl] at hL
                  clear hl hx hy
                  go_wp2
                  go_quiet ((go_at_call 131; first | exact Calls.quiet_of_same (hL _) | exact quiet_sum hL))
                  go_wp2
                  go_roundg (j1 - 1 + 1)
                  case measure => omega
                  case rel => exact ⟨j1 - 1, ⟨rfl, by omega, by omega⟩, by first | rfl | go_num, Lib.hid ⟨HD.out.1.drewN _, by rw [← E.out]; exact HD.out.2⟩⟩
                | false =>
                  have Ej1 := Lib.hid (sd_no (p := (fun x => ltInt dk[a]! x)) (d := dk) (i := i1) (j := j1) (by show ltInt dk[a]! dk[j1]! = false; rw [← hx, ← hy, hl]))
                  rw [hl] at hL
                  clear hl hx hy
                  go_wp2
                  go_quiet ((go_at_call 131; first | exact Calls.quiet_of_same (hL _) | exact quiet_sum hL))
                  clear hL g1 g1' w1 c0 c1 t2 t3
                  go_wp2
                  have m1 : decide ((i1 : Int) > (j1 : Int)) = false := by simp; omega
                  have m1' : decide ((j1 : Int) < (i1 : Int)) = false := by simp; omega
                  have m1'' : ¬ (j1 : Int) < (i1 : Int) := by omega
                  have hne := pe_ne (HA.out.2.symm.trans Ei1.out) (HD.out.2.symm.trans Ej1.out) (by omega) (by omega)
                  have HE := Lib.hid (show partEqLoop ltInt a (i1 + 1) (j1 - 1) (swp dk i1 j1) = R by rw [← HR.out.2.2, pe_step (HA.out.2.symm.trans Ei1.out) (HD.out.2.symm.trans Ej1.out), if_neg (by omega)])
                  have hne2 : ¬ j1 = i1 := fun e => hne e.symm
                  have c0 := HD.out.1.cell (j := i1) (by rw [HZ.out]; omega)
                  have c1 := HD.out.1.cell (j := j1) (by rw [HZ.out]; omega)
                  have f0 := HD.out.1.frozen (by rw [HZ.out]; omega) i1
                  have f1 := HD.out.1.frozen (by rw [HZ.out]; omega) j1
                  have hs1 := fun q => (HD.out.1.drewN q).swap (i := i1) (j := j1) (by rw [HZ.out]; omega) (by rw [HZ.out]; omega)
                  have hs2 := fun q => (HD.out.1.drewN q).swap' (i := i1) (j := j1) (by rw [HZ.out]; omega) (by rw [HZ.out]; omega) hne
                  obtain ⟨x, hx⟩ : ∃ x, x = dk[i1]! := ⟨_, rfl⟩
                  obtain ⟨y, hy⟩ : ∃ y, y = dk[j1]! := ⟨_, rfl⟩
                  rw [← hx] at c0 hs1 hs2
                  rw [← hy] at c1 hs1 hs2
                  have HS1 := Lib.hid hs1
                  have HS2 := Lib.hid hs2
                  have t0 : (0 : Int) ≤ (i1 : Int) := by omega
                  have t1 : (i1 : Int) < (n : Int) := by omega
                  have t2 : (0 : Int) ≤ (j1 : Int) := by omega
                  have t3 : (j1 : Int) < (n : Int) := by omega
                  have w1 : IntKind.i64.wrap ((i1 : Int) + 1) = ((i1 + 1 : Nat) : Int) := by rw [IntWalk.i64_in _ (by omega)]; omega
                  have w2 : IntKind.i64.wrap ((j1 : Int) - 1) = ((j1 - 1 : Nat) : Int) := by rw [IntWalk.i64_in _ (by omega)]; omega
                  have HG := Lib.hid (show j1 - 1 + 1 - (i1 + 1) < j + 1 - i ∧ a < i1 + 1 ∧ i1 + 1 ≤ j1 - 1 + 1 ∧ j1 - 1 < b from by omega)
                  have HGG := Lib.hid hg
                  have HSZ := Lib.hid (show (swp dk i1 j1).size = n by rw [swpU_size]; exact HZ.out)
                  clear hs1 hs2 hx hy hgki1 hgkj1 hg
                  go_wp2
                  go_region
                  all_goals
                    go_wp2
                    go_roundg (j1 - 1 + 1 - (i1 + 1))
                    case measure => have := HG.out; have := HGG.out; omega
                    case rel =>
                      first
                        | exact ⟨i1 + 1, j1 - 1, _, ⟨rfl, HG.out.2⟩, by first | rfl | go_num, by first | rfl | go_num, Lib.hid ⟨HS1.out _, HSZ.out, HE.out⟩⟩
                        | exact ⟨i1 + 1, j1 - 1, _, ⟨rfl, HG.out.2⟩, by first | rfl | go_num, by first | rfl | go_num, Lib.hid ⟨HS2.out _, HSZ.out, HE.out⟩⟩
              · have g1 : decide ((i1 : Int) ≤ (j1 : Int)) = false := by simpa using hlej1
                have g1' : decide (i1 ≤ j1) = false := by simpa using hlej1
                have Ej1 := Lib.hid (sd_end (p := (fun x => ltInt dk[a]! x)) (d := dk) (i := i1) (j := j1) hlej1)
                go_wp2
                go_quiet (fail)
                clear g1 g1'
                go_wp2
                have m1 : decide ((i1 : Int) > (j1 : Int)) = true := by simp; omega
                have m1' : decide ((j1 : Int) < (i1 : Int)) = true := by simp; omega
                have m1'' : (j1 : Int) < (i1 : Int) := by omega
                have HE := Lib.hid (show (i1, dk) = R by rw [← HR.out.2.2, pe_step (HA.out.2.symm.trans Ei1.out) (HD.out.2.symm.trans Ej1.out), if_pos (by omega)])
                clear hgki1 hgkj1 hg
                go_wp2
                go_ret
                rw [← HE.out]
                exact ⟨rfl, HD.out.1.drewN _⟩
        · have g1 : decide ((i1 : Int) ≤ (j : Int)) = false := by simpa using hlei1
          have g1' : decide (i1 ≤ j) = false := by simpa using hlei1
          have Ei1 := Lib.hid (su_end (p := (fun x => !ltInt dk[a]! x)) (d := dk) (j := j) (i := i1) hlei1)
          go_wp2
          go_quiet (fail)
          clear g1 g1'
          go_wp2
          go_loopg [10] (j + 1) (fun gk sk wy => ∃ (j1 : Nat), (gk = j1 + 1 ∧ i1 ≤ j1 + 1 ∧ j1 ≤ j) ∧ sk = .int .i64 j1 ∧ Hid (Ud w0 wy g cap dk ∧ scanDown (fun x => ltInt dk[a]! x) dk i1 j1 = scanDown (fun x => ltInt dk[a]! x) dk i1 j))
          case atStart => exact ⟨j, ⟨rfl, by omega, by omega⟩, by first | rfl | go_num, Lib.hid ⟨HA.out.1.drewN _, rfl⟩⟩
          case round =>
            obtain ⟨j1, ⟨hgkj1, hj1, hj1'⟩, rfl, HD⟩ := hrel
            by_cases hlej1 : i1 ≤ j1
            · exfalso
              omega
            · have g1 : decide ((i1 : Int) ≤ (j1 : Int)) = false := by simpa using hlej1
              have g1' : decide (i1 ≤ j1) = false := by simpa using hlej1
              have Ej1 := Lib.hid (sd_end (p := (fun x => ltInt dk[a]! x)) (d := dk) (i := i1) (j := j1) hlej1)
              go_wp2
              go_quiet (fail)
              clear g1 g1'
              go_wp2
              have m1 : decide ((i1 : Int) > (j1 : Int)) = true := by simp; omega
              have m1' : decide ((j1 : Int) < (i1 : Int)) = true := by simp; omega
              have m1'' : (j1 : Int) < (i1 : Int) := by omega
              have HE := Lib.hid (show (i1, dk) = R by rw [← HR.out.2.2, pe_step (HA.out.2.symm.trans Ei1.out) (HD.out.2.symm.trans Ej1.out), if_pos (by omega)])
              clear hgki1 hgkj1 hg
              go_wp2
              go_ret
              rw [← HE.out]
              exact ⟨rfl, HD.out.1.drewN _⟩
end Go.Proofs
end
section
namespace Go.Proofs
open Go.RowKit Go.Sort
set_option linter.unusedVariables false

theorem pl_step {a i j i2 j2 : Nat} {d : Array Int} (h1 : scanUp (fun x => ltInt x d[a]!) d j i = i2) (h2 : scanDown (fun x => !ltInt x d[a]!) d i2 j = j2) : partLoop ltInt a i j d = if i2 > j2 then (j2, d) else partLoop ltInt a (i2 + 1) (j2 - 1) (swp d i2 j2) := by
  rw [partLoop_eq, h1, h2]
theorem pl_ne {a i j i2 j2 : Nat} {d : Array Int} (h1 : scanUp (fun x => ltInt x d[a]!) d j i = i2) (h2 : scanDown (fun x => !ltInt x d[a]!) d i2 j = j2) (h : i2 ≤ j2) (h0 : 0 < i2) : ¬ i2 = j2 := by
  intro e
  have s1 := (scanUp_spec (fun x => ltInt x d[a]!) d j _ i rfl).2.2.2
  have s2 := (scanDown_spec (fun x => !ltInt x d[a]!) d i2 j)
  rw [h1] at s1
  rw [h2] at s2
  have t1 := s1 (by omega)
  have t2 := s2.2.2.2 h (by omega)
  rw [← e] at t2
  simp [t1] at t2
theorem part_1 {a b pivot i2 j2 : Nat} {d d1 : Array Int} (hd : d1 = swp d a pivot) (h1 : scanUp (fun x => ltInt x d1[a]!) d1 (b - 1) (a + 1) = i2) (h2 : scanDown (fun x => !ltInt x d1[a]!) d1 i2 (b - 1) = j2) :
    partition ltInt d a b pivot = if i2 > j2 then (j2, true, swp d1 j2 a) else ((partLoop ltInt a (i2 + 1) (j2 - 1) (swp d1 i2 j2)).1, false, swp (partLoop ltInt a (i2 + 1) (j2 - 1) (swp d1 i2 j2)).2 (partLoop ltInt a (i2 + 1) (j2 - 1) (swp d1 i2 j2)).1 a) := by
  unfold partition
  simp only [← hd, h1, h2]

set_option maxHeartbeats 12800000 in
set_option maxRecDepth 100000 in
theorem part_u {w0 w : World} {g cap : Nat} {d : Array Int} (h : Ud w0 w g cap d) (a b pivot : Nat) (hp1 : a ≤ pivot) (hp2 : pivot < b) (hab : a + 2 < b) (hb : b ≤ d.size) (hsz : d.size ≤ 100000) :
    Calls Tryz.prog 133 #[.slice (some ⟨g, 0, none⟩) d.size cap, .int .i64 a, .int .i64 b, .int .i64 pivot] w fun e w' => e = .returned (.tuple #[.int .i64 (partition ltInt d a b pivot).1, .bool (partition ltInt d a b pivot).2.1]) ∧ Ud w0 w' g cap (partition ltInt d a b pivot).2.2 := by
  obtain ⟨n, hn⟩ : ∃ n, n = d.size := ⟨_, rfl⟩
  obtain ⟨R, hR⟩ : ∃ R, R = partition ltInt d a b pivot := ⟨_, rfl⟩
  obtain ⟨dk, hd1⟩ : ∃ d1, d1 = swp d a pivot := ⟨_, rfl⟩
  have HZ := Lib.hid (show dk.size = n by rw [hd1, swpU_size]; exact hn.symm)
  have HP1 := Lib.hid (fun i2 j2 h1 h2 => hR.trans (part_1 (a := a) (b := b) (pivot := pivot) (i2 := i2) (j2 := j2) hd1 h1 h2))
  have c0 := h.cell (j := a) (by omega)
  have c1 := h.cell (j := pivot) (by omega)
  have f0 := h.frozen (by omega) a
  have f1 := h.frozen (by omega) pivot
  have hs1 := fun q => (h.drewN q).swap (i := a) (j := pivot) (by omega) (by omega)
  have hs2 := fun q (hne : a ≠ pivot) => (h.drewN q).swap' (i := a) (j := pivot) (by omega) (by omega) hne
  rw [← hd1] at hs1 hs2
  obtain ⟨x, hx⟩ : ∃ x, x = d[a]! := ⟨_, rfl⟩
  obtain ⟨y, hy⟩ : ∃ y, y = d[pivot]! := ⟨_, rfl⟩
  rw [← hx] at c0 hs1 hs2
  rw [← hy] at c1 hs1 hs2
  have HXY := Lib.hid (show a = pivot → x = y from fun e => by rw [hx, hy, e])
  rw [← hn] at hb hsz ⊢
  rw [← hR]
  have HS1 := Lib.hid hs1
  have HS2 := Lib.hid hs2
  have i0 : (0 : Int) ≤ (a : Int) := by omega
  have i1 : (a : Int) < (n : Int) := by omega
  have i2 : (0 : Int) ≤ (pivot : Int) := by omega
  have i3 : (pivot : Int) < (n : Int) := by omega
  have k0 : IntKind.i64.wrap ((a : Int) + 1) = ((a + 1 : Nat) : Int) := by rw [IntWalk.i64_in _ (by omega)]; omega
  have k1 : IntKind.i64.wrap ((b : Int) - 1) = ((b - 1 : Nat) : Int) := by rw [IntWalk.i64_in _ (by omega)]; omega
  clear hs1 hs2 hx hy hR hd1 hn h
  go_enter Tryz.func133, Tryz.ntmps133
  go_upto_region 1 with fail
  go_cut [12] from 12 to 25 (fun s12 wc => Hid (Ud w0 wc g cap dk))
  case first =>
    by_cases hap : a = pivot
    · subst hap
      have hxy := HXY.out rfl
      subst hxy
      clear c1 f1 i2 i3
      go_wp2
      go_region
      all_goals
        go_wp2
        go_meet
        first
          | exact Lib.hid (HS1.out _)
          | exact Lib.hid (by simpa using HS1.out _)
    · have hne : ¬ pivot = a := fun e => hap e.symm
      go_wp2
      go_region
      all_goals
        go_wp2
        go_meet
        first
          | exact Lib.hid (HS1.out _)
          | exact Lib.hid (HS2.out _ hap)
  case rest =>
    have hcell : a < n ∧ b ≤ n := by omega
    clear c0 c1 f0 f1 i0 i1 i2 i3
    obtain ⟨i, hi⟩ : ∃ i, i = a + 1 := ⟨_, rfl⟩
    obtain ⟨j, hj⟩ : ∃ j, j = b - 1 := ⟨_, rfl⟩
    rw [← hi] at k0
    rw [← hj] at k1
    rw [← hi, ← hj] at HP1
    have hai : a < i := by omega
    have hij : i ≤ j + 1 := by omega
    have hjb : j < b := by omega
    clear hi hj
    go_wp2
    go_loopg [10] (j + 1 - i) (fun gk sk wy => ∃ (i1 : Nat), (gk = j + 1 - i1 ∧ i ≤ i1 ∧ i1 ≤ j + 1) ∧ sk = .int .i64 i1 ∧ Hid (Ud w0 wy g cap dk ∧ scanUp (fun x => ltInt x dk[a]!) dk j i1 = scanUp (fun x => ltInt x dk[a]!) dk j i))
    case atStart => exact ⟨i, ⟨rfl, by omega, by omega⟩, by first | rfl | go_num, Lib.hid ⟨hcut.out, rfl⟩⟩
    case round =>
      obtain ⟨i1, ⟨hgki1, hi1, hi1'⟩, rfl, HA⟩ := hrel
      by_cases hlei1 : i1 ≤ j
      · have g1 : decide ((i1 : Int) ≤ (j : Int)) = true := by simpa using hlei1
        have g1' : decide (i1 ≤ j) = true := by simpa using hlei1
        have w1 : IntKind.i64.wrap ((i1 : Int) + 1) = ((i1 + 1 : Nat) : Int) := by rw [IntWalk.i64_in _ (by omega)]; omega
        have c0 := HA.out.1.cell (j := a) (by rw [HZ.out]; omega)
        have c1 := HA.out.1.cell (j := i1) (by rw [HZ.out]; omega)
        have t0 : (0 : Int) ≤ (a : Int) := by omega
        have t1 : (a : Int) < (n : Int) := by omega
        have t2 : (0 : Int) ≤ (i1 : Int) := by omega
        have t3 : (i1 : Int) < (n : Int) := by omega
        obtain ⟨x, hx⟩ : ∃ x, x = dk[a]! := ⟨_, rfl⟩
        obtain ⟨y, hy⟩ : ∃ y, y = dk[i1]! := ⟨_, rfl⟩
        rw [← hx] at c0
        rw [← hy] at c1
        have hL : ∀ W, Calls Tryz.prog 131 #[.int .u64 y, .int .u64 x] W fun e w' => e = .returned (.bool (ltInt y x)) ∧ w' = W := fun W => (less_u y x W).mono fun e w' ⟨h1, h2⟩ => ⟨h1, h2.symm⟩
        cases hl : ltInt y x with
        | true =>
          have E := Lib.hid (su_go (p := (fun x => ltInt x dk[a]!)) (d := dk) (j := j) (i := i1) hlei1 (by show ltInt dk[i1]! dk[a]! = true; rw [← hx, ← hy, hl]))
          rw [hl] at hL
          clear hl hx hy
          go_wp2
          go_quiet ((go_at_call 131; first | exact Calls.quiet_of_same (hL _) | exact quiet_sum hL))
          go_wp2
          go_roundg (j + 1 - (i1 + 1))
          case measure => omega
          case rel => exact ⟨i1 + 1, ⟨rfl, by omega, by omega⟩, by first | rfl | go_num, Lib.hid ⟨HA.out.1.drewN _, by rw [← E.out]; exact HA.out.2⟩⟩
        | false =>
          have Ei1 := Lib.hid (su_no (p := (fun x => ltInt x dk[a]!)) (d := dk) (j := j) (i := i1) (by show ltInt dk[i1]! dk[a]! = false; rw [← hx, ← hy, hl]))
          rw [hl] at hL
          clear hl hx hy
          go_wp2
          go_quiet ((go_at_call 131; first | exact Calls.quiet_of_same (hL _) | exact quiet_sum hL))
          clear hL g1 g1' w1 c0 c1 t2 t3
          go_wp2
          go_loopg [11] (j + 1) (fun gk sk wy => ∃ (j1 : Nat), (gk = j1 + 1 ∧ i1 ≤ j1 + 1 ∧ j1 ≤ j) ∧ sk = .int .i64 j1 ∧ Hid (Ud w0 wy g cap dk ∧ scanDown (fun x => !ltInt x dk[a]!) dk i1 j1 = scanDown (fun x => !ltInt x dk[a]!) dk i1 j))
          case atStart => exact ⟨j, ⟨rfl, by omega, by omega⟩, by first | rfl | go_num, Lib.hid ⟨HA.out.1.drewN _, rfl⟩⟩
          case round =>
            obtain ⟨j1, ⟨hgkj1, hj1, hj1'⟩, rfl, HD⟩ := hrel
            by_cases hlej1 : i1 ≤ j1
            · have g1 : decide ((i1 : Int) ≤ (j1 : Int)) = true := by simpa using hlej1
              have g1' : decide (i1 ≤ j1) = true := by simpa using hlej1
              have w1 : IntKind.i64.wrap ((j1 : Int) - 1) = ((j1 - 1 : Nat) : Int) := by rw [IntWalk.i64_in _ (by omega)]; omega
              have c0 := HD.out.1.cell (j := a) (by rw [HZ.out]; omega)
              have c1 := HD.out.1.cell (j := j1) (by rw [HZ.out]; omega)
              have t0 : (0 : Int) ≤ (a : Int) := by omega
              have t1 : (a : Int) < (n : Int) := by omega
              have t2 : (0 : Int) ≤ (j1 : Int) := by omega
              have t3 : (j1 : Int) < (n : Int) := by omega
              obtain ⟨x, hx⟩ : ∃ x, x = dk[a]! := ⟨_, rfl⟩
              obtain ⟨y, hy⟩ : ∃ y, y = dk[j1]! := ⟨_, rfl⟩
              rw [← hx] at c0
              rw [← hy] at c1
              have hL : ∀ W, Calls Tryz.prog 131 #[.int .u64 y, .int .u64 x] W fun e w' => e = .returned (.bool (ltInt y x)) ∧ w' = W := fun W => (less_u y x W).mono fun e w' ⟨h1, h2⟩ => ⟨h1, h2.symm⟩
              cases hl : ltInt y x with
              | false =>
                have E := Lib.hid (sd_go (p := (fun x => !ltInt x dk[a]!)) (d := dk) (i := i1) (j := j1) hlej1 (by omega) (by show (!ltInt dk[j1]! dk[a]!) = true; rw [← hx, ← hy, hl]; rfl))
                rw [hl] at hL
                clear hl hx hy
                go_wp2
                go_quiet ((go_at_call 131; first | exact Calls.quiet_of_same (hL _) | exact quiet_sum hL))
                go_wp2
                go_roundg (j1 - 1 + 1)
                case measure => omega
                case rel => exact ⟨j1 - 1, ⟨rfl, by omega, by omega⟩, by first | rfl | go_num, Lib.hid ⟨HD.out.1.drewN _, by rw [← E.out]; exact HD.out.2⟩⟩
              | true =>
                have Ej1 := Lib.hid (sd_no (p := (fun x => !ltInt x dk[a]!)) (d := dk) (i := i1) (j := j1) (by show (!ltInt dk[j1]! dk[a]!) = false; rw [← hx, ← hy, hl]; rfl))
                rw [hl] at hL
                clear hl hx hy
                go_wp2
                go_quiet ((go_at_call 131; first | exact Calls.quiet_of_same (hL _) | exact quiet_sum hL))
                clear hL g1 g1' w1 c0 c1 t2 t3
                go_wp2
                have m1 : decide ((i1 : Int) > (j1 : Int)) = false := by simp; omega
                have m1' : decide ((j1 : Int) < (i1 : Int)) = false := by simp; omega
                have m1'' : ¬ (j1 : Int) < (i1 : Int) := by omega
                have hne := pl_ne (HA.out.2.symm.trans Ei1.out) (HD.out.2.symm.trans Ej1.out) (by omega) (by omega)
                have HE := Lib.hid (show R = ((partLoop ltInt a (i1 + 1) (j1 - 1) (swp dk i1 j1)).1, false, swp (partLoop ltInt a (i1 + 1) (j1 - 1) (swp dk i1 j1)).2 (partLoop ltInt a (i1 + 1) (j1 - 1) (swp dk i1 j1)).1 a) by rw [HP1.out i1 j1 (HA.out.2.symm.trans Ei1.out) (HD.out.2.symm.trans Ej1.out), if_neg (by omega)])
                have hne2 : ¬ j1 = i1 := fun e => hne e.symm
                have c0 := HD.out.1.cell (j := i1) (by rw [HZ.out]; omega)
                have c1 := HD.out.1.cell (j := j1) (by rw [HZ.out]; omega)
                have f0 := HD.out.1.frozen (by rw [HZ.out]; omega) i1
                have f1 := HD.out.1.frozen (by rw [HZ.out]; omega) j1
                have hs1 := fun q => (HD.out.1.drewN q).swap (i := i1) (j := j1) (by rw [HZ.out]; omega) (by rw [HZ.out]; omega)
                have hs2 := fun q => (HD.out.1.drewN q).swap' (i := i1) (j := j1) (by rw [HZ.out]; omega) (by rw [HZ.out]; omega) hne
                obtain ⟨x, hx⟩ : ∃ x, x = dk[i1]! := ⟨_, rfl⟩
                obtain ⟨y, hy⟩ : ∃ y, y = dk[j1]! := ⟨_, rfl⟩
                rw [← hx] at c0 hs1 hs2
                rw [← hy] at c1 hs1 hs2
                have HS1 := Lib.hid hs1
                have HS2 := Lib.hid hs2
                have t0 : (0 : Int) ≤ (i1 : Int) := by omega
                have t1 : (i1 : Int) < (n : Int) := by omega
                have t2 : (0 : Int) ≤ (j1 : Int) := by omega
                have t3 : (j1 : Int) < (n : Int) := by omega
                have w1 : IntKind.i64.wrap ((i1 : Int) + 1) = ((i1 + 1 : Nat) : Int) := by rw [IntWalk.i64_in _ (by omega)]; omega
                have w2 : IntKind.i64.wrap ((j1 : Int) - 1) = ((j1 - 1 : Nat) : Int) := by rw [IntWalk.i64_in _ (by omega)]; omega
                have HG := Lib.hid (show j1 - 1 + 1 - (i1 + 1) < j + 1 - i ∧ a < i1 + 1 ∧ i1 + 1 ≤ j1 - 1 + 1 ∧ j1 - 1 < b from by omega)
                have HSZ := Lib.hid (show (swp dk i1 j1).size = n by rw [swpU_size]; exact HZ.out)
                clear hs1 hs2 hx hy hgki1 hgkj1
                go_wp2
                go_region
                all_goals
                  clear c0 c1 f0 f1 t0 t1 t2 t3 m1 m1' m1'' hne hne2
                  go_wp2
                  go_loopg [10, 11] (j1 - 1 + 1 - (i1 + 1)) (fun gi s10 s11 wx => ∃ (i j : Nat) (dk : Array Int), (gi = j + 1 - i ∧ a < i ∧ i ≤ j + 1 ∧ j < b) ∧ s10 = .int .i64 i ∧ s11 = .int .i64 j ∧ Hid (Ud w0 wx g cap dk ∧ dk.size = n ∧ R = ((partLoop ltInt a i j dk).1, false, swp (partLoop ltInt a i j dk).2 (partLoop ltInt a i j dk).1 a)))
                  case atStart =>
                    first
                      | exact ⟨i1 + 1, j1 - 1, _, ⟨rfl, HG.out.2⟩, by first | rfl | go_num, by first | rfl | go_num, Lib.hid ⟨HS1.out _, HSZ.out, HE.out⟩⟩
                      | exact ⟨i1 + 1, j1 - 1, _, ⟨rfl, HG.out.2⟩, by first | rfl | go_num, by first | rfl | go_num, Lib.hid ⟨HS2.out _, HSZ.out, HE.out⟩⟩
                  case round =>
                    obtain ⟨i, j, dk, ⟨hg, hai, hij, hjb⟩, rfl, rfl, HR⟩ := hrel
                    have HZ := Lib.hid HR.out.2.1
                    go_wp2
                    go_loopg [10] (j + 1 - i) (fun gk sk wy => ∃ (i1 : Nat), (gk = j + 1 - i1 ∧ i ≤ i1 ∧ i1 ≤ j + 1) ∧ sk = .int .i64 i1 ∧ Hid (Ud w0 wy g cap dk ∧ scanUp (fun x => ltInt x dk[a]!) dk j i1 = scanUp (fun x => ltInt x dk[a]!) dk j i))
                    case atStart => exact ⟨i, ⟨rfl, by omega, by omega⟩, by first | rfl | go_num, Lib.hid ⟨HR.out.1, rfl⟩⟩
                    case round =>
                      obtain ⟨i1, ⟨hgki1, hi1, hi1'⟩, rfl, HA⟩ := hrel
                      by_cases hlei1 : i1 ≤ j
                      · have g1 : decide ((i1 : Int) ≤ (j : Int)) = true := by simpa using hlei1
                        have g1' : decide (i1 ≤ j) = true := by simpa using hlei1
                        have w1 : IntKind.i64.wrap ((i1 : Int) + 1) = ((i1 + 1 : Nat) : Int) := by rw [IntWalk.i64_in _ (by omega)]; omega
                        have c0 := HA.out.1.cell (j := a) (by rw [HZ.out]; omega)
                        have c1 := HA.out.1.cell (j := i1) (by rw [HZ.out]; omega)
                        have t0 : (0 : Int) ≤ (a : Int) := by omega
                        have t1 : (a : Int) < (n : Int) := by omega
                        have t2 : (0 : Int) ≤ (i1 : Int) := by omega
                        have t3 : (i1 : Int) < (n : Int) := by omega
                        obtain ⟨x, hx⟩ : ∃ x, x = dk[a]! := ⟨_, rfl⟩
                        obtain ⟨y, hy⟩ : ∃ y, y = dk[i1]! := ⟨_, rfl⟩
                        rw [← hx] at c0
                        rw [← hy] at c1
                        have hL : ∀ W, Calls Tryz.prog 131 #[.int .u64 y, .int .u64 x] W fun e w' => e = .returned (.bool (ltInt y x)) ∧ w' = W := fun W => (less_u y x W).mono fun e w' ⟨h1, h2⟩ => ⟨h1, h2.symm⟩
                        cases hl : ltInt y x with
                        | true =>
                          have E := Lib.hid (su_go (p := (fun x => ltInt x dk[a]!)) (d := dk) (j := j) (i := i1) hlei1 (by show ltInt dk[i1]! dk[a]! = true; rw [← hx, ← hy, hl]))
                          rw [hl] at hL
                          clear hl hx hy
                          go_wp2
                          go_quiet ((go_at_call 131; first | exact Calls.quiet_of_same (hL _) | exact quiet_sum hL))
                          go_wp2
                          go_roundg (j + 1 - (i1 + 1))
                          case measure => omega
                          case rel => exact ⟨i1 + 1, ⟨rfl, by omega, by omega⟩, by first | rfl | go_num, Lib.hid ⟨HA.out.1.drewN _, by rw [← E.out]; exact HA.out.2⟩⟩
                        | false =>
                          have Ei1 := Lib.hid (su_no (p := (fun x => ltInt x dk[a]!)) (d := dk) (j := j) (i := i1) (by show ltInt dk[i1]! dk[a]! = false; rw [← hx, ← hy, hl]))
                          rw [hl] at hL
                          clear hl hx hy
                          go_wp2
                          go_quiet ((go_at_call 131; first | exact Calls.quiet_of_same (hL _) | exact quiet_sum hL))
                          clear hL g1 g1' w1 c0 c1 t2 t3
                          go_wp2
                          go_loopg [11] (j + 1) (fun gk sk wy => ∃ (j1 : Nat), (gk = j1 + 1 ∧ i1 ≤ j1 + 1 ∧ j1 ≤ j) ∧ sk = .int .i64 j1 ∧ Hid (Ud w0 wy g cap dk ∧ scanDown (fun x => !ltInt x dk[a]!) dk i1 j1 = scanDown (fun x => !ltInt x dk[a]!) dk i1 j))
                          case atStart => exact ⟨j, ⟨rfl, by omega, by omega⟩, by first | rfl | go_num, Lib.hid ⟨HA.out.1.drewN _, rfl⟩⟩
                          case round =>
                            obtain ⟨j1, ⟨hgkj1, hj1, hj1'⟩, rfl, HD⟩ := hrel
                            by_cases hlej1 : i1 ≤ j1
                            · have g1 : decide ((i1 : Int) ≤ (j1 : Int)) = true := by simpa using hlej1
                              have g1' : decide (i1 ≤ j1) = true := by simpa using hlej1
                              have w1 : IntKind.i64.wrap ((j1 : Int) - 1) = ((j1 - 1 : Nat) : Int) := by rw [IntWalk.i64_in _ (by omega)]; omega
                              have c0 := HD.out.1.cell (j := a) (by rw [HZ.out]; omega)
                              have c1 := HD.out.1.cell (j := j1) (by rw [HZ.out]; omega)
                              have t0 : (0 : Int) ≤ (a : Int) := by omega
                              have t1 : (a : Int) < (n : Int) := by omega
                              have t2 : (0 : Int) ≤ (j1 : Int) := by omega
                              have t3 : (j1 : Int) < (n : Int) := by omega
                              obtain ⟨x, hx⟩ : ∃ x, x = dk[a]! := ⟨_, rfl⟩
                              obtain ⟨y, hy⟩ : ∃ y, y = dk[j1]! := ⟨_, rfl⟩
                              rw [← hx] at c0
                              rw [← hy] at c1
                              have hL : ∀ W, Calls Tryz.prog 131 #[.int .u64 y, .int .u64 x] W fun e w' => e = .returned (.bool (ltInt y x)) ∧ w' = W := fun W => (less_u y x W).mono fun e w' ⟨h1, h2⟩ => ⟨h1, h2.symm⟩
                              cases hl : ltInt y x with
                              | false =>
                                have E := Lib.hid (sd_go (p := (fun x => !ltInt x dk[a]!)) (d := dk) (i := i1) (j := j1) hlej1 (by omega) (by show (!ltInt dk[j1]! dk[a]!) = true; rw [← hx, ← hy, hl]; rfl))
                                rw [hl] at hL
                                clear hl hx hy
                                go_wp2
                                go_quiet ((go_at_call 131; first | exact Calls.quiet_of_same (hL _) | exact quiet_sum hL))
                                go_wp2
                                go_roundg (j1 - 1 + 1)
                                case measure => omega
                                case rel => exact ⟨j1 - 1, ⟨rfl, by omega, by omega⟩, by first | rfl | go_num, Lib.hid ⟨HD.out.1.drewN _, by rw [← E.out]; exact HD.out.2⟩⟩
                              | true =>
                                have Ej1 := Lib.hid (sd_no (p := (fun x => !ltInt x dk[a]!)) (d := dk) (i := i1) (j := j1) (by show (!ltInt dk[j1]! dk[a]!) = false; rw [← hx, ← hy, hl]; rfl))
                                rw [hl] at hL
                                clear hl hx hy
                                go_wp2
                                go_quiet ((go_at_call 131; first | exact Calls.quiet_of_same (hL _) | exact quiet_sum hL))
                                clear hL g1 g1' w1 c0 c1 t2 t3
                                go_wp2
                                have m1 : decide ((i1 : Int) > (j1 : Int)) = false := by simp; omega
                                have m1' : decide ((j1 : Int) < (i1 : Int)) = false := by simp; omega
                                have m1'' : ¬ (j1 : Int) < (i1 : Int) := by omega
                                have hne := pl_ne (HA.out.2.symm.trans Ei1.out) (HD.out.2.symm.trans Ej1.out) (by omega) (by omega)
                                have HE := Lib.hid (show R = ((partLoop ltInt a (i1 + 1) (j1 - 1) (swp dk i1 j1)).1, false, swp (partLoop ltInt a (i1 + 1) (j1 - 1) (swp dk i1 j1)).2 (partLoop ltInt a (i1 + 1) (j1 - 1) (swp dk i1 j1)).1 a) by rw [HR.out.2.2, pl_step (HA.out.2.symm.trans Ei1.out) (HD.out.2.symm.trans Ej1.out), if_neg (by omega)])
                                have hne2 : ¬ j1 = i1 := fun e => hne e.symm
                                have c0 := HD.out.1.cell (j := i1) (by rw [HZ.out]; omega)
                                have c1 := HD.out.1.cell (j := j1) (by rw [HZ.out]; omega)
                                have f0 := HD.out.1.frozen (by rw [HZ.out]; omega) i1
                                have f1 := HD.out.1.frozen (by rw [HZ.out]; omega) j1
                                have hs1 := fun q => (HD.out.1.drewN q).swap (i := i1) (j := j1) (by rw [HZ.out]; omega) (by rw [HZ.out]; omega)
                                have hs2 := fun q => (HD.out.1.drewN q).swap' (i := i1) (j := j1) (by rw [HZ.out]; omega) (by rw [HZ.out]; omega) hne
                                obtain ⟨x, hx⟩ : ∃ x, x = dk[i1]! := ⟨_, rfl⟩
                                obtain ⟨y, hy⟩ : ∃ y, y = dk[j1]! := ⟨_, rfl⟩
                                rw [← hx] at c0 hs1 hs2
                                rw [← hy] at c1 hs1 hs2
                                have HS1 := Lib.hid hs1
                                have HS2 := Lib.hid hs2
                                have t0 : (0 : Int) ≤ (i1 : Int) := by omega
                                have t1 : (i1 : Int) < (n : Int) := by omega
                                have t2 : (0 : Int) ≤ (j1 : Int) := by omega
                                have t3 : (j1 : Int) < (n : Int) := by omega
                                have w1 : IntKind.i64.wrap ((i1 : Int) + 1) = ((i1 + 1 : Nat) : Int) := by rw [IntWalk.i64_in _ (by omega)]; omega
                                have w2 : IntKind.i64.wrap ((j1 : Int) - 1) = ((j1 - 1 : Nat) : Int) := by rw [IntWalk.i64_in _ (by omega)]; omega
                                have HG := Lib.hid (show j1 - 1 + 1 - (i1 + 1) < j + 1 - i ∧ a < i1 + 1 ∧ i1 + 1 ≤ j1 - 1 + 1 ∧ j1 - 1 < b from by omega)
                                have HSZ := Lib.hid (show (swp dk i1 j1).size = n by rw [swpU_size]; exact HZ.out)
                                have HGG := Lib.hid hg
                                clear hs1 hs2 hx hy hgki1 hgkj1 hg
                                go_wp2
                                go_region
                                all_goals
                                  go_wp2
                                  go_roundg (j1 - 1 + 1 - (i1 + 1))
                                  case measure => have := HG.out; have := HGG.out; omega
                                  case rel =>
                                    first
                                      | exact ⟨i1 + 1, j1 - 1, _, ⟨rfl, HG.out.2⟩, by first | rfl | go_num, by first | rfl | go_num, Lib.hid ⟨HS1.out _, HSZ.out, HE.out⟩⟩
                                      | exact ⟨i1 + 1, j1 - 1, _, ⟨rfl, HG.out.2⟩, by first | rfl | go_num, by first | rfl | go_num, Lib.hid ⟨HS2.out _, HSZ.out, HE.out⟩⟩
                            · have g1 : decide ((i1 : Int) ≤ (j1 : Int)) = false := by simpa using hlej1
                              have g1' : decide (i1 ≤ j1) = false := by simpa using hlej1
                              have Ej1 := Lib.hid (sd_end (p := (fun x => !ltInt x dk[a]!)) (d := dk) (i := i1) (j := j1) hlej1)
                              go_wp2
                              go_quiet (fail)
                              clear g1 g1'
                              go_wp2
                              have m1 : decide ((i1 : Int) > (j1 : Int)) = true := by simp; omega
                              have m1' : decide ((j1 : Int) < (i1 : Int)) = true := by simp; omega
                              have m1'' : (j1 : Int) < (i1 : Int) := by omega
                              have HE := Lib.hid (show (j1, false, swp dk j1 a) = R by rw [HR.out.2.2, pl_step (HA.out.2.symm.trans Ei1.out) (HD.out.2.symm.trans Ej1.out), if_pos (by omega)])
                              have HN := Lib.hid (show j1 < b ∧ b ≤ n ∧ a < n from by omega)
                              have c0 := HD.out.1.cell (j := j1) (by rw [HZ.out]; omega)
                              have f0 := HD.out.1.frozen (by rw [HZ.out]; omega) j1
                              have hs1 := fun q => (HD.out.1.drewN q).swap (i := j1) (j := a) (by rw [HZ.out]; omega) (by rw [HZ.out]; omega)
                              obtain ⟨x, hx⟩ : ∃ x, x = dk[j1]! := ⟨_, rfl⟩
                              have t0 : (0 : Int) ≤ (j1 : Int) := by omega
                              have t1 : (j1 : Int) < (n : Int) := by omega
                              by_cases hja : j1 = a
                              · subst hja
                                rw [← hx] at c0 hs1
                                have HS1 := Lib.hid hs1
                                clear hs1 hx hgki1 hgkj1 hg
                                go_wp2
                                go_region
                                all_goals
                                  go_wp2
                                  go_ret2
                                  rw [← HE.out]
                                  first
                                    | exact ⟨rfl, HS1.out _⟩
                                    | exact ⟨rfl, by simpa using HS1.out _⟩
                              · have hne2 : ¬ a = j1 := fun e => hja e.symm
                                have c1 := HD.out.1.cell (j := a) (by rw [HZ.out]; omega)
                                have f1 := HD.out.1.frozen (by rw [HZ.out]; omega) a
                                have t2 : (0 : Int) ≤ (a : Int) := by omega
                                have t3 : (a : Int) < (n : Int) := by omega
                                have hs2 := fun q => (HD.out.1.drewN q).swap' (i := j1) (j := a) (by rw [HZ.out]; omega) (by rw [HZ.out]; omega) hja
                                obtain ⟨y, hy⟩ : ∃ y, y = dk[a]! := ⟨_, rfl⟩
                                rw [← hx] at c0 hs1 hs2
                                rw [← hy] at c1 hs1 hs2
                                have HS1 := Lib.hid hs1
                                have HS2 := Lib.hid hs2
                                clear hs1 hs2 hx hy hgki1 hgkj1 hg
                                go_wp2
                                go_region
                                all_goals
                                  go_wp2
                                  go_ret2
                                  rw [← HE.out]
                                  first
                                    | exact ⟨rfl, HS1.out _⟩
                                    | exact ⟨rfl, HS2.out _⟩
                      · have g1 : decide ((i1 : Int) ≤ (j : Int)) = false := by simpa using hlei1
                        have g1' : decide (i1 ≤ j) = false := by simpa using hlei1
                        have Ei1 := Lib.hid (su_end (p := (fun x => ltInt x dk[a]!)) (d := dk) (j := j) (i := i1) hlei1)
                        go_wp2
                        go_quiet (fail)
                        clear g1 g1'
                        go_wp2
                        go_loopg [11] (j + 1) (fun gk sk wy => ∃ (j1 : Nat), (gk = j1 + 1 ∧ i1 ≤ j1 + 1 ∧ j1 ≤ j) ∧ sk = .int .i64 j1 ∧ Hid (Ud w0 wy g cap dk ∧ scanDown (fun x => !ltInt x dk[a]!) dk i1 j1 = scanDown (fun x => !ltInt x dk[a]!) dk i1 j))
                        case atStart => exact ⟨j, ⟨rfl, by omega, by omega⟩, by first | rfl | go_num, Lib.hid ⟨HA.out.1.drewN _, rfl⟩⟩
                        case round =>
                          obtain ⟨j1, ⟨hgkj1, hj1, hj1'⟩, rfl, HD⟩ := hrel
                          by_cases hlej1 : i1 ≤ j1
                          · exfalso
                            omega
                          · have g1 : decide ((i1 : Int) ≤ (j1 : Int)) = false := by simpa using hlej1
                            have g1' : decide (i1 ≤ j1) = false := by simpa using hlej1
                            have Ej1 := Lib.hid (sd_end (p := (fun x => !ltInt x dk[a]!)) (d := dk) (i := i1) (j := j1) hlej1)
                            go_wp2
                            go_quiet (fail)
                            clear g1 g1'
                            go_wp2
                            have m1 : decide ((i1 : Int) > (j1 : Int)) = true := by simp; omega
                            have m1' : decide ((j1 : Int) < (i1 : Int)) = true := by simp; omega
                            have m1'' : (j1 : Int) < (i1 : Int) := by omega
                            have HE := Lib.hid (show (j1, false, swp dk j1 a) = R by rw [HR.out.2.2, pl_step (HA.out.2.symm.trans Ei1.out) (HD.out.2.symm.trans Ej1.out), if_pos (by omega)])
                            have HN := Lib.hid (show j1 < b ∧ b ≤ n ∧ a < n from by omega)
                            have c0 := HD.out.1.cell (j := j1) (by rw [HZ.out]; omega)
                            have f0 := HD.out.1.frozen (by rw [HZ.out]; omega) j1
                            have hs1 := fun q => (HD.out.1.drewN q).swap (i := j1) (j := a) (by rw [HZ.out]; omega) (by rw [HZ.out]; omega)
                            obtain ⟨x, hx⟩ : ∃ x, x = dk[j1]! := ⟨_, rfl⟩
                            have t0 : (0 : Int) ≤ (j1 : Int) := by omega
                            have t1 : (j1 : Int) < (n : Int) := by omega
                            by_cases hja : j1 = a
                            · subst hja
                              rw [← hx] at c0 hs1
                              have HS1 := Lib.hid hs1
                              clear hs1 hx hgki1 hgkj1 hg
                              go_wp2
                              go_region
                              all_goals
                                go_wp2
                                go_ret2
                                rw [← HE.out]
                                first
                                  | exact ⟨rfl, HS1.out _⟩
                                  | exact ⟨rfl, by simpa using HS1.out _⟩
                            · have hne2 : ¬ a = j1 := fun e => hja e.symm
                              have c1 := HD.out.1.cell (j := a) (by rw [HZ.out]; omega)
                              have f1 := HD.out.1.frozen (by rw [HZ.out]; omega) a
                              have t2 : (0 : Int) ≤ (a : Int) := by omega
                              have t3 : (a : Int) < (n : Int) := by omega
                              have hs2 := fun q => (HD.out.1.drewN q).swap' (i := j1) (j := a) (by rw [HZ.out]; omega) (by rw [HZ.out]; omega) hja
                              obtain ⟨y, hy⟩ : ∃ y, y = dk[a]! := ⟨_, rfl⟩
                              rw [← hx] at c0 hs1 hs2
                              rw [← hy] at c1 hs1 hs2
                              have HS1 := Lib.hid hs1
                              have HS2 := Lib.hid hs2
                              clear hs1 hs2 hx hy hgki1 hgkj1 hg
                              go_wp2
                              go_region
                              all_goals
                                go_wp2
                                go_ret2
                                rw [← HE.out]
                                first
                                  | exact ⟨rfl, HS1.out _⟩
                                  | exact ⟨rfl, HS2.out _⟩
            · have g1 : decide ((i1 : Int) ≤ (j1 : Int)) = false := by simpa using hlej1
              have g1' : decide (i1 ≤ j1) = false := by simpa using hlej1
              have Ej1 := Lib.hid (sd_end (p := (fun x => !ltInt x dk[a]!)) (d := dk) (i := i1) (j := j1) hlej1)
              go_wp2
              go_quiet (fail)
              clear g1 g1'
              go_wp2
              have m1 : decide ((i1 : Int) > (j1 : Int)) = true := by simp; omega
              have m1' : decide ((j1 : Int) < (i1 : Int)) = true := by simp; omega
              have m1'' : (j1 : Int) < (i1 : Int) := by omega
              have HE := Lib.hid (show (j1, true, swp dk j1 a) = R by rw [HP1.out i1 j1 (HA.out.2.symm.trans Ei1.out) (HD.out.2.symm.trans Ej1.out), if_pos (by omega)])
              have HN := Lib.hid (show j1 < b ∧ b ≤ n ∧ a < n from by omega)
              have c0 := HD.out.1.cell (j := j1) (by rw [HZ.out]; omega)
              have f0 := HD.out.1.frozen (by rw [HZ.out]; omega) j1
              have hs1 := fun q => (HD.out.1.drewN q).swap (i := j1) (j := a) (by rw [HZ.out]; omega) (by rw [HZ.out]; omega)
              obtain ⟨x, hx⟩ : ∃ x, x = dk[j1]! := ⟨_, rfl⟩
              have t0 : (0 : Int) ≤ (j1 : Int) := by omega
              have t1 : (j1 : Int) < (n : Int) := by omega
              by_cases hja : j1 = a
              · subst hja
                rw [← hx] at c0 hs1
                have HS1 := Lib.hid hs1
                clear hs1 hx hgki1 hgkj1
                go_wp2
                go_region
                all_goals
                  go_wp2
                  go_ret2
                  rw [← HE.out]
                  first
                    | exact ⟨rfl, HS1.out _⟩
                    | exact ⟨rfl, by simpa using HS1.out _⟩
              · have hne2 : ¬ a = j1 := fun e => hja e.symm
                have c1 := HD.out.1.cell (j := a) (by rw [HZ.out]; omega)
                have f1 := HD.out.1.frozen (by rw [HZ.out]; omega) a
                have t2 : (0 : Int) ≤ (a : Int) := by omega
                have t3 : (a : Int) < (n : Int) := by omega
                have hs2 := fun q => (HD.out.1.drewN q).swap' (i := j1) (j := a) (by rw [HZ.out]; omega) (by rw [HZ.out]; omega) hja
                obtain ⟨y, hy⟩ : ∃ y, y = dk[a]! := ⟨_, rfl⟩
                rw [← hx] at c0 hs1 hs2
                rw [← hy] at c1 hs1 hs2
                have HS1 := Lib.hid hs1
                have HS2 := Lib.hid hs2
                clear hs1 hs2 hx hy hgki1 hgkj1
                go_wp2
                go_region
                all_goals
                  go_wp2
                  go_ret2
                  rw [← HE.out]
                  first
                    | exact ⟨rfl, HS1.out _⟩
                    | exact ⟨rfl, HS2.out _⟩
      · have g1 : decide ((i1 : Int) ≤ (j : Int)) = false := by simpa using hlei1
        have g1' : decide (i1 ≤ j) = false := by simpa using hlei1
        have Ei1 := Lib.hid (su_end (p := (fun x => ltInt x dk[a]!)) (d := dk) (j := j) (i := i1) hlei1)
        go_wp2
        go_quiet (fail)
        clear g1 g1'
        go_wp2
        go_loopg [11] (j + 1) (fun gk sk wy => ∃ (j1 : Nat), (gk = j1 + 1 ∧ i1 ≤ j1 + 1 ∧ j1 ≤ j) ∧ sk = .int .i64 j1 ∧ Hid (Ud w0 wy g cap dk ∧ scanDown (fun x => !ltInt x dk[a]!) dk i1 j1 = scanDown (fun x => !ltInt x dk[a]!) dk i1 j))
        case atStart => exact ⟨j, ⟨rfl, by omega, by omega⟩, by first | rfl | go_num, Lib.hid ⟨HA.out.1.drewN _, rfl⟩⟩
        case round =>
          obtain ⟨j1, ⟨hgkj1, hj1, hj1'⟩, rfl, HD⟩ := hrel
          by_cases hlej1 : i1 ≤ j1
          · exfalso
            omega
          · have g1 : decide ((i1 : Int) ≤ (j1 : Int)) = false := by simpa using hlej1
            have g1' : decide (i1 ≤ j1) = false := by simpa using hlej1
            have Ej1 := Lib.hid (sd_end (p := (fun x => !ltInt x dk[a]!)) (d := dk) (i := i1) (j := j1) hlej1)
            go_wp2
            go_quiet (fail)
            clear g1 g1'
            go_wp2
            have m1 : decide ((i1 : Int) > (j1 : Int)) = true := by simp; omega
            have m1' : decide ((j1 : Int) < (i1 : Int)) = true := by simp; omega
            have m1'' : (j1 : Int) < (i1 : Int) := by omega
            have HE := Lib.hid (show (j1, true, swp dk j1 a) = R by rw [HP1.out i1 j1 (HA.out.2.symm.trans Ei1.out) (HD.out.2.symm.trans Ej1.out), if_pos (by omega)])
            have HN := Lib.hid (show j1 < b ∧ b ≤ n ∧ a < n from by omega)
            have c0 := HD.out.1.cell (j := j1) (by rw [HZ.out]; omega)
            have f0 := HD.out.1.frozen (by rw [HZ.out]; omega) j1
            have hs1 := fun q => (HD.out.1.drewN q).swap (i := j1) (j := a) (by rw [HZ.out]; omega) (by rw [HZ.out]; omega)
            obtain ⟨x, hx⟩ : ∃ x, x = dk[j1]! := ⟨_, rfl⟩
            have t0 : (0 : Int) ≤ (j1 : Int) := by omega
            have t1 : (j1 : Int) < (n : Int) := by omega
            by_cases hja : j1 = a
            · subst hja
              rw [← hx] at c0 hs1
              have HS1 := Lib.hid hs1
              clear hs1 hx hgki1 hgkj1
              go_wp2
              go_region
              all_goals
                go_wp2
                go_ret2
                rw [← HE.out]
                first
                  | exact ⟨rfl, HS1.out _⟩
                  | exact ⟨rfl, by simpa using HS1.out _⟩
            · have hne2 : ¬ a = j1 := fun e => hja e.symm
              have c1 := HD.out.1.cell (j := a) (by rw [HZ.out]; omega)
              have f1 := HD.out.1.frozen (by rw [HZ.out]; omega) a
              have t2 : (0 : Int) ≤ (a : Int) := by omega
              have t3 : (a : Int) < (n : Int) := by omega
              have hs2 := fun q => (HD.out.1.drewN q).swap' (i := j1) (j := a) (by rw [HZ.out]; omega) (by rw [HZ.out]; omega) hja
              obtain ⟨y, hy⟩ : ∃ y, y = dk[a]! := ⟨_, rfl⟩
              rw [← hx] at c0 hs1 hs2
              rw [← hy] at c1 hs1 hs2
              have HS1 := Lib.hid hs1
              have HS2 := Lib.hid hs2
              clear hs1 hs2 hx hy hgki1 hgkj1
              go_wp2
              go_region
              all_goals
                go_wp2
                go_ret2
                rw [← HE.out]
                first
                  | exact ⟨rfl, HS1.out _⟩
                  | exact ⟨rfl, HS2.out _⟩
end Go.Proofs
end
section
namespace Go.Proofs
open Go.RowKit Go.Sort
set_option linter.unusedVariables false

theorem ss_go {d : Array Int} {b i : Nat} (h : i < b) (hl : ltInt d[i]! d[i - 1]! = false) : scanSorted ltInt d b i = scanSorted ltInt d b (i + 1) := by rw [scanSorted, if_pos (by simp [h, hl])]
theorem ss_no {d : Array Int} {b i : Nat} (hl : ltInt d[i]! d[i - 1]! = true) : scanSorted ltInt d b i = i := by rw [scanSorted, if_neg (by simp [hl])]
theorem ss_end {d : Array Int} {b i : Nat} (h : ¬ i < b) : scanSorted ltInt d b i = i := by rw [scanSorted, if_neg (by simp; omega)]
theorem shd_go {d : Array Int} {j : Nat} (h : 1 ≤ j) (hl : ltInt d[j]! d[j - 1]! = true) : shiftDown ltInt j d = shiftDown ltInt (j - 1) (swp d j (j - 1)) := by
  obtain ⟨k, rfl⟩ : ∃ k, j = k + 1 := ⟨j - 1, by omega⟩
  rw [shiftDown]
  simp only [Nat.add_sub_cancel] at hl ⊢
  rw [hl]
  rfl
theorem shd_no {d : Array Int} {j : Nat} (hl : ltInt d[j]! d[j - 1]! = false) : shiftDown ltInt j d = d := by
  cases j with
  | zero => rw [shiftDown]
  | succ k =>
    rw [shiftDown]
    simp only [Nat.add_sub_cancel] at hl
    rw [hl]
    rfl
theorem shd_end {d : Array Int} {j : Nat} (h : ¬ 1 ≤ j) : shiftDown ltInt j d = d := by
  obtain rfl : j = 0 := by omega
  rw [shiftDown]
theorem shu_go {d : Array Int} {b j : Nat} (h : j < b) (hl : ltInt d[j]! d[j - 1]! = true) : shiftUp ltInt b j d = shiftUp ltInt b (j + 1) (swp d j (j - 1)) := by rw [shiftUp, if_pos h, hl]; rfl
theorem shu_no {d : Array Int} {b j : Nat} (hl : ltInt d[j]! d[j - 1]! = false) : shiftUp ltInt b j d = d := by
  rw [shiftUp, hl]
  split <;> rfl
theorem shu_end {d : Array Int} {b j : Nat} (h : ¬ j < b) : shiftUp ltInt b j d = d := by rw [shiftUp, if_neg h]
theorem pin_b {a b s i : Nat} {d : Array Int} (h : scanSorted ltInt d b i = b) : partialIns ltInt a b (s + 1) i d = (d, true) := by
  rw [partialIns]
  simp only [h, if_true]
theorem pin_few {a b s i i1 : Nat} {d : Array Int} (h : scanSorted ltInt d b i = i1) (h1 : ¬ i1 = b) (h2 : b - a < 50) : partialIns ltInt a b (s + 1) i d = (d, false) := by
  rw [partialIns]
  simp only [h, if_neg h1, if_pos h2]
theorem pin_go {a b s i i1 : Nat} {d : Array Int} (h : scanSorted ltInt d b i = i1) (h1 : ¬ i1 = b) (h2 : ¬ b - a < 50) :
    partialIns ltInt a b (s + 1) i d = partialIns ltInt a b s i1 (if b - i1 ≥ 2 then shiftUp ltInt b (i1 + 1) (if i1 - a ≥ 2 then shiftDown ltInt (i1 - 1) (swp d i1 (i1 - 1)) else swp d i1 (i1 - 1)) else (if i1 - a ≥ 2 then shiftDown ltInt (i1 - 1) (swp d i1 (i1 - 1)) else swp d i1 (i1 - 1))) := by
  rw [partialIns]
  simp only [h, if_neg h1, if_neg h2]

set_option maxHeartbeats 12800000 in
set_option maxRecDepth 100000 in
theorem partial_u {w0 w : World} {g cap : Nat} {d : Array Int} (h : Ud w0 w g cap d) (a b : Nat) (hab : a + 2 < b) (hb : b ≤ d.size) (hsz : d.size ≤ 100000) :
    Calls Tryz.prog 130 #[.slice (some ⟨g, 0, none⟩) d.size cap, .int .i64 a, .int .i64 b] w fun e w' => e = .returned (.bool (partialInsertionSort ltInt d a b).2) ∧ Ud w0 w' g cap (partialInsertionSort ltInt d a b).1 := by
  obtain ⟨n, hn⟩ : ∃ n, n = d.size := ⟨_, rfl⟩
  obtain ⟨R, hR⟩ : ∃ R, R = partialInsertionSort ltInt d a b := ⟨_, rfl⟩
  have HI0 := Lib.hid (show Ud w0 w g cap d ∧ d.size = n ∧ partialIns ltInt a b 5 (a + 1) d = R from ⟨h, hn.symm, by rw [hR]; rfl⟩)
  rw [← hn] at hb hsz ⊢
  rw [← hR]
  have k0 : IntKind.i64.wrap ((a : Int) + 1) = ((a + 1 : Nat) : Int) := by rw [IntWalk.i64_in _ (by omega)]; omega
  obtain ⟨L, hL⟩ : ∃ L, L = b - a := ⟨_, rfl⟩
  have k1 : IntKind.i64.wrap ((b : Int) - (a : Int)) = (L : Int) := by rw [IntWalk.i64_in _ (by omega)]; omega
  have HL := Lib.hid hL
  clear h hn hR hL
  go_enter Tryz.func130, Tryz.ntmps130
  go_wp2
  go_loopg [7, 8] 5 (fun gi s7 s8 wx => ∃ (i k : Nat) (dk : Array Int), (gi = 5 - k ∧ k ≤ 5 ∧ a < i ∧ i ≤ b) ∧ s7 = .int .i64 i ∧ s8 = .int .i64 k ∧ Hid (Ud w0 wx g cap dk ∧ dk.size = n ∧ partialIns ltInt a b (5 - k) i dk = R))
  case atStart => exact ⟨a + 1, 0, d, ⟨rfl, by omega, by omega, by omega⟩, by first | rfl | go_num, by first | rfl | go_num, Lib.hid HI0.out⟩
  case round =>
    obtain ⟨i, k, dk, ⟨hg, hk5, hai, hib⟩, rfl, rfl, HR⟩ := hrel
    have HZ := Lib.hid HR.out.2.1
    by_cases hk : k < 5
    · have m0 : decide ((k : Int) < 5) = true := by simp; omega
      have m0' : (k : Int) < 5 := by omega
      have w0k : IntKind.i64.wrap ((k : Int) + 1) = ((k + 1 : Nat) : Int) := by rw [IntWalk.i64_in _ (by omega)]; omega
      have HK := Lib.hid (show partialIns ltInt a b (5 - (k + 1) + 1) i dk = R by rw [← HR.out.2.2]; congr 1; omega)
      have HGG := Lib.hid hg
      clear hg
      go_wp2
      go_loopg [7] (b - i) (fun gk s7 wy => ∃ (i1 : Nat), (gk = b - i1 ∧ i ≤ i1 ∧ i1 ≤ b) ∧ s7 = .int .i64 i1 ∧ Hid (Ud w0 wy g cap dk ∧ scanSorted ltInt dk b i1 = scanSorted ltInt dk b i))
      case atStart => exact ⟨i, ⟨rfl, Nat.le_refl _, by omega⟩, by first | rfl | go_num, Lib.hid ⟨HR.out.1, rfl⟩⟩
      case round =>
        obtain ⟨i1, ⟨hgk, hi1, hi1'⟩, rfl, HA⟩ := hrel
        by_cases hle : i1 < b
        · obtain ⟨p, hp⟩ : ∃ p, p = i1 - 1 := ⟨_, rfl⟩
          have g1 : decide ((i1 : Int) < (b : Int)) = true := by simpa using hle
          have g1' : decide (i1 < b) = true := by simpa using hle
          have v1 : IntKind.i64.wrap ((i1 : Int) + 1) = ((i1 + 1 : Nat) : Int) := by rw [IntWalk.i64_in _ (by omega)]; omega
          have v2 : IntKind.i64.wrap ((i1 : Int) - 1) = (p : Int) := by rw [IntWalk.i64_in _ (by omega)]; omega
          have c0 := HA.out.1.cell (j := i1) (by rw [HZ.out]; omega)
          have c1 := HA.out.1.cell (j := p) (by rw [HZ.out]; omega)
          have t0 : (0 : Int) ≤ (i1 : Int) := by omega
          have t1 : (i1 : Int) < (n : Int) := by omega
          have t2 : (0 : Int) ≤ (p : Int) := by omega
          have t3 : (p : Int) < (n : Int) := by omega
          obtain ⟨x, hx⟩ : ∃ x, x = dk[i1]! := ⟨_, rfl⟩
          obtain ⟨y, hy⟩ : ∃ y, y = dk[p]! := ⟨_, rfl⟩
          rw [← hx] at c0
          rw [← hy] at c1
          have hL : ∀ W, Calls Tryz.prog 131 #[.int .u64 x, .int .u64 y] W fun e w' => e = .returned (.bool (ltInt x y)) ∧ w' = W := fun W => (less_u x y W).mono fun e w' ⟨h1, h2⟩ => ⟨h1, h2.symm⟩
          cases hl : ltInt x y with
          | false =>
            have E := Lib.hid (ss_go (d := dk) hle (by rw [← hp, ← hx, ← hy, hl]))
            rw [hl] at hL
            have HB := Lib.hid (show b - (i1 + 1) < b - i1 ∧ i ≤ i1 + 1 ∧ i1 + 1 ≤ b from by omega)
            have HGK := Lib.hid hgk
            clear hl hx hy hp hgk
            go_wp2
            go_quiet ((go_at_call 131; first | exact Calls.quiet_of_same (hL _) | exact quiet_sum hL))
            go_wp2
            go_roundg (b - (i1 + 1))
            case measure => have := HB.out; have := HGK.out; omega
            case rel => exact ⟨i1 + 1, ⟨rfl, HB.out.2⟩, by first | rfl | go_num, Lib.hid ⟨HA.out.1.drewN _, by rw [← E.out]; exact HA.out.2⟩⟩
          | true =>
            have E := Lib.hid (HA.out.2.symm.trans (ss_no (d := dk) (b := b) (i := i1) (by rw [← hp, ← hx, ← hy, hl])))
            rw [hl] at hL
            have hIB : ¬ i1 = b := by omega
            have e1 : ((i1 : Int) == (b : Int)) = false := by simp; omega
            have e1' : decide ((i1 : Int) = (b : Int)) = false := by simp; omega
            have e1'' : (i1 == b) = false := by simpa using hIB
            clear hl hgk
            by_cases hL50 : L < 50
            · have m1 : decide ((L : Int) < 50) = true := by simp; omega
              have m1' : (L : Int) < 50 := by omega
              have HE := Lib.hid (show (dk, false) = R by rw [← HK.out, pin_few E.out hIB (by have := HL.out; omega)])
              clear hp hx hy
              go_wp2
              go_quiet ((go_at_call 131; first | exact Calls.quiet_of_same (hL _) | exact quiet_sum hL))
              go_wp2
              go_ret
              rw [← HE.out]
              exact ⟨rfl, HA.out.1.drewN _⟩
            · have m1 : decide ((L : Int) < 50) = false := by simp; omega
              have m1' : ¬ (L : Int) < 50 := by omega
              have HE := Lib.hid (HK.out.symm.trans (pin_go E.out hIB (by have := HL.out; omega)))
              obtain ⟨d1, hd1⟩ : ∃ d1, d1 = swp dk i1 (i1 - 1) := ⟨_, rfl⟩
              rw [← hd1] at HE
              have HZ1 := Lib.hid (show d1.size = n by rw [hd1, swpU_size]; exact HZ.out)
              rw [← hp] at hd1
              have hne : ¬ i1 = p := by omega
              have hne2 : ¬ p = i1 := by omega
              have f0 := HA.out.1.frozen (by rw [HZ.out]; omega) i1
              have f1 := HA.out.1.frozen (by rw [HZ.out]; omega) p
              have hs1 := fun q => (HA.out.1.drewN q).swap (i := i1) (j := p) (by rw [HZ.out]; omega) (by rw [HZ.out]; omega)
              have hs2 := fun q => (HA.out.1.drewN q).swap' (i := i1) (j := p) (by rw [HZ.out]; omega) (by rw [HZ.out]; omega) hne
              rw [← hd1] at hs1 hs2
              rw [← hx, ← hy] at hs1 hs2
              have HS1 := Lib.hid hs1
              have HS2 := Lib.hid hs2
              obtain ⟨M, hM⟩ : ∃ M, M = i1 - a := ⟨_, rfl⟩
              obtain ⟨N, hN⟩ : ∃ N, N = b - i1 := ⟨_, rfl⟩
              obtain ⟨d2, hd2⟩ : ∃ d2, d2 = if i1 - a ≥ 2 then shiftDown ltInt (i1 - 1) d1 else d1 := ⟨_, rfl⟩
              obtain ⟨d3, hd3⟩ : ∃ d3, d3 = if b - i1 ≥ 2 then shiftUp ltInt b (i1 + 1) d2 else d2 := ⟨_, rfl⟩
              rw [← hd2, ← hd3] at HE
              rw [← hM, ← hp] at hd2
              rw [← hN] at hd3
              have v3 : IntKind.i64.wrap ((i1 : Int) - (a : Int)) = (M : Int) := by rw [IntWalk.i64_in _ (by omega)]; omega
              have v4 : IntKind.i64.wrap ((b : Int) - (i1 : Int)) = (N : Int) := by rw [IntWalk.i64_in _ (by omega)]; omega
              have HD2 := Lib.hid hd2
              have HD3 := Lib.hid hd3
              have HPP := Lib.hid (show p + 1 = i1 ∧ i1 < b ∧ b ≤ n ∧ n ≤ 100000 ∧ a < i1 from by omega)
              clear hs1 hs2 hd1 hp hx hy hM hN hd2 hd3
              go_wp2
              go_quiet ((go_at_call 131; first | exact Calls.quiet_of_same (hL _) | exact quiet_sum hL))
              clear hL g1 g1'
              go_upto_region 11 with fail
              go_cut [42] from 42 to 57 (fun s42 wc => Hid (Ud w0 wc g cap d1))
              case first =>
                go_wp2
                go_region
                all_goals
                  go_wp2
                  go_meet
                  first
                    | exact Lib.hid (HS1.out _)
                    | exact Lib.hid (HS2.out _)
              case rest =>
                clear c0 c1 f0 f1 t0 t1 t2 t3 HS1 HS2 hne hne2
                have HC1 := hcut
                clear hcut
                go_upto_if 61 with fail
                go_cut [9] from 61 to 94 (fun s9 wc => Hid (Ud w0 wc g cap d2 ∧ d2.size = n))
                case first =>
                  by_cases hM2 : 2 ≤ M
                  · have z1 : decide ((M : Int) ≥ 2) = true := by simp; omega
                    have z1' : decide ((2 : Int) ≤ (M : Int)) = true := by simp; omega
                    have z1'' : (2 : Int) ≤ (M : Int) := by omega
                    have HDD := Lib.hid (show shiftDown ltInt p d1 = d2 by rw [HD2.out, if_pos hM2])
                    go_wp2
                    go_loopg [9] (p) (fun gj sj wy => ∃ (j : Nat) (dj : Array Int), (gj = j ∧ j ≤ p) ∧ sj = .int .i64 j ∧ Hid (Ud w0 wy g cap dj ∧ dj.size = n ∧ shiftDown ltInt j dj = d2))
                    case atStart => exact ⟨p, d1, ⟨rfl, Nat.le_refl _⟩, by first | rfl | go_num, Lib.hid ⟨HC1.out, HZ1.out, HDD.out⟩⟩
                    case round =>
                      obtain ⟨j, dj, hj0, rfl, HJ⟩ := hrel
                      have HJ0 := Lib.hid hj0
                      by_cases hjc : 1 ≤ j
                      · obtain ⟨q, hq⟩ : ∃ q, q = j - 1 := ⟨_, rfl⟩
                        have y1 : decide ((j : Int) ≥ 1) = true := by simp; omega
                        have y1' : decide ((1 : Int) ≤ (j : Int)) = true := by simp; omega
                        have hjn : 1 ≤ j ∧ j < n := by have := HPP.out; omega
                        have v6 : IntKind.i64.wrap ((j : Int) - 1) = (q : Int) := by have := HPP.out; rw [IntWalk.i64_in _ (by omega)]; omega
                        
                        have c0 := HJ.out.1.cell (j := j) (by rw [HJ.out.2.1]; omega)
                        have c1 := HJ.out.1.cell (j := q) (by rw [HJ.out.2.1]; omega)
                        have f0 := HJ.out.1.frozen (by rw [HJ.out.2.1]; omega) j
                        have f1 := HJ.out.1.frozen (by rw [HJ.out.2.1]; omega) q
                        have t0 : (0 : Int) ≤ (j : Int) := by omega
                        have t1 : (j : Int) < (n : Int) := by omega
                        have t2 : (0 : Int) ≤ (q : Int) := by omega
                        have t3 : (q : Int) < (n : Int) := by omega
                        have hne : ¬ j = q := by omega
                        have hne2 : ¬ q = j := by omega
                        have hs1 := fun t => (HJ.out.1.drewN t).swap (i := j) (j := q) (by rw [HJ.out.2.1]; omega) (by rw [HJ.out.2.1]; omega)
                        have hs2 := fun t => (HJ.out.1.drewN t).swap' (i := j) (j := q) (by rw [HJ.out.2.1]; omega) (by rw [HJ.out.2.1]; omega) hne
                        have HSZ := Lib.hid (show (swp dj j q).size = n by rw [swpU_size]; exact HJ.out.2.1)
                        have HB := Lib.hid (show q < j ∧ q ≤ p from by omega)
                        obtain ⟨x, hx⟩ : ∃ x, x = dj[j]! := ⟨_, rfl⟩
                        obtain ⟨y, hy⟩ : ∃ y, y = dj[q]! := ⟨_, rfl⟩
                        rw [← hx] at c0 hs1 hs2
                        rw [← hy] at c1 hs1 hs2
                        have HS1 := Lib.hid hs1
                        have HS2 := Lib.hid hs2
                        have hL : ∀ W, Calls Tryz.prog 131 #[.int .u64 x, .int .u64 y] W fun e w' => e = .returned (.bool (ltInt x y)) ∧ w' = W := fun W => (less_u x y W).mono fun e w' ⟨h1, h2⟩ => ⟨h1, h2.symm⟩
                        cases hl : ltInt x y with
                        | true =>
                          have e := shd_go (d := dj) (j := j) hjc (by rw [← hq, ← hx, ← hy, hl])
                          rw [← hq] at e
                          have E := Lib.hid e
                          rw [hl] at hL
                          clear hl hx hy hq hs1 hs2 hj0 e hjn
                          go_wp2
                          go_quiet ((go_at_call 131; first | exact Calls.quiet_of_same (hL _) | exact quiet_sum hL))
                          go_wp2
                          go_region
                          all_goals
                            go_wp2
                            go_roundg (q)
                            case measure => have := HB.out; have := HJ0.out; omega
                            case rel =>
                              first
                                | exact ⟨q, _, ⟨rfl, HB.out.2⟩, by first | rfl | go_num, Lib.hid ⟨HS1.out _, HSZ.out, E.out.symm.trans HJ.out.2.2⟩⟩
                                | exact ⟨q, _, ⟨rfl, HB.out.2⟩, by first | rfl | go_num, Lib.hid ⟨HS2.out _, HSZ.out, E.out.symm.trans HJ.out.2.2⟩⟩
                        | false =>
                          have E := Lib.hid (shd_no (d := dj) (j := j) (by rw [← hq, ← hx, ← hy, hl]))
                          rw [hl] at hL
                          clear hl hx hy hq hs1 hs2 hj0 hjn
                          go_wp2
                          go_quiet ((go_at_call 131; first | exact Calls.quiet_of_same (hL _) | exact quiet_sum hL))
                          go_wp2
                          go_meet
                          exact Lib.hid (by rw [← HJ.out.2.2, E.out]; exact ⟨HJ.out.1.drewN _, HJ.out.2.1⟩)
                      · have y1 : decide ((j : Int) ≥ 1) = false := by simp; omega
                        have y1' : decide ((1 : Int) ≤ (j : Int)) = false := by simp; omega
                        have E := Lib.hid (shd_end (d := dj) (j := j) hjc)
                        clear hj0
                        go_wp2
                        go_meet
                        exact Lib.hid (by rw [← HJ.out.2.2, E.out]; exact ⟨HJ.out.1, HJ.out.2.1⟩)
                  · have z1 : decide ((M : Int) ≥ 2) = false := by simp; omega
                    have z1' : decide ((2 : Int) ≤ (M : Int)) = false := by simp; omega
                    have z1'' : ¬ (2 : Int) ≤ (M : Int) := by omega
                    have HDD := Lib.hid (show d1 = d2 by rw [HD2.out, if_neg hM2])
                    go_wp2
                    go_meet
                    exact Lib.hid (by rw [← HDD.out]; exact ⟨HC1.out, HZ1.out⟩)
                case rest =>
                  have HC2 := hcut
                  clear hcut
                  by_cases hN2 : 2 ≤ N
                  · have z1 : decide ((N : Int) ≥ 2) = true := by simp; omega
                    have z1' : decide ((2 : Int) ≤ (N : Int)) = true := by simp; omega
                    have z1'' : (2 : Int) ≤ (N : Int) := by omega
                    have HDD := Lib.hid (show shiftUp ltInt b (i1 + 1) d2 = d3 by rw [HD3.out, if_pos hN2])
                    go_wp2
                    go_loopg [10] (b - (i1 + 1)) (fun gj sj wy => ∃ (j : Nat) (dj : Array Int), (gj = b - j ∧ i1 < j ∧ j ≤ b) ∧ sj = .int .i64 j ∧ Hid (Ud w0 wy g cap dj ∧ dj.size = n ∧ shiftUp ltInt b j dj = d3))
                    case atStart => exact ⟨i1 + 1, d2, ⟨rfl, by omega, by have := HPP.out; omega⟩, by first | rfl | go_num, Lib.hid ⟨HC2.out.1, HC2.out.2, HDD.out⟩⟩
                    case round =>
                      obtain ⟨j, dj, hj0, rfl, HJ⟩ := hrel
                      have HJ0 := Lib.hid hj0
                      by_cases hjc : j < b
                      · obtain ⟨q, hq⟩ : ∃ q, q = j - 1 := ⟨_, rfl⟩
                        have y1 : decide ((j : Int) < (b : Int)) = true := by simp; omega
                        have y1' : decide (j < b) = true := by simp; omega
                        have hjn : 1 ≤ j ∧ j < n := by have := HPP.out; omega
                        have v6 : IntKind.i64.wrap ((j : Int) - 1) = (q : Int) := by have := HPP.out; rw [IntWalk.i64_in _ (by omega)]; omega
                        have v5 : IntKind.i64.wrap ((j : Int) + 1) = ((j + 1 : Nat) : Int) := by have := HPP.out; rw [IntWalk.i64_in _ (by omega)]; omega
                        have c0 := HJ.out.1.cell (j := j) (by rw [HJ.out.2.1]; omega)
                        have c1 := HJ.out.1.cell (j := q) (by rw [HJ.out.2.1]; omega)
                        have f0 := HJ.out.1.frozen (by rw [HJ.out.2.1]; omega) j
                        have f1 := HJ.out.1.frozen (by rw [HJ.out.2.1]; omega) q
                        have t0 : (0 : Int) ≤ (j : Int) := by omega
                        have t1 : (j : Int) < (n : Int) := by omega
                        have t2 : (0 : Int) ≤ (q : Int) := by omega
                        have t3 : (q : Int) < (n : Int) := by omega
                        have hne : ¬ j = q := by omega
                        have hne2 : ¬ q = j := by omega
                        have hs1 := fun t => (HJ.out.1.drewN t).swap (i := j) (j := q) (by rw [HJ.out.2.1]; omega) (by rw [HJ.out.2.1]; omega)
                        have hs2 := fun t => (HJ.out.1.drewN t).swap' (i := j) (j := q) (by rw [HJ.out.2.1]; omega) (by rw [HJ.out.2.1]; omega) hne
                        have HSZ := Lib.hid (show (swp dj j q).size = n by rw [swpU_size]; exact HJ.out.2.1)
                        have HB := Lib.hid (show b - (j + 1) < b - j ∧ i1 < j + 1 ∧ j + 1 ≤ b from by omega)
                        obtain ⟨x, hx⟩ : ∃ x, x = dj[j]! := ⟨_, rfl⟩
                        obtain ⟨y, hy⟩ : ∃ y, y = dj[q]! := ⟨_, rfl⟩
                        rw [← hx] at c0 hs1 hs2
                        rw [← hy] at c1 hs1 hs2
                        have HS1 := Lib.hid hs1
                        have HS2 := Lib.hid hs2
                        have hL : ∀ W, Calls Tryz.prog 131 #[.int .u64 x, .int .u64 y] W fun e w' => e = .returned (.bool (ltInt x y)) ∧ w' = W := fun W => (less_u x y W).mono fun e w' ⟨h1, h2⟩ => ⟨h1, h2.symm⟩
                        cases hl : ltInt x y with
                        | true =>
                          have e := shu_go (d := dj) (j := j) (b := b) hjc (by rw [← hq, ← hx, ← hy, hl])
                          rw [← hq] at e
                          have E := Lib.hid e
                          rw [hl] at hL
                          clear hl hx hy hq hs1 hs2 hj0 e hjn
                          go_wp2
                          go_quiet ((go_at_call 131; first | exact Calls.quiet_of_same (hL _) | exact quiet_sum hL))
                          go_wp2
                          go_region
                          all_goals
                            go_wp2
                            go_roundg (b - (j + 1))
                            case measure => have := HB.out; have := HJ0.out; omega
                            case rel =>
                              first
                                | exact ⟨j + 1, _, ⟨rfl, HB.out.2⟩, by first | rfl | go_num, Lib.hid ⟨HS1.out _, HSZ.out, E.out.symm.trans HJ.out.2.2⟩⟩
                                | exact ⟨j + 1, _, ⟨rfl, HB.out.2⟩, by first | rfl | go_num, Lib.hid ⟨HS2.out _, HSZ.out, E.out.symm.trans HJ.out.2.2⟩⟩
                        | false =>
                          have E := Lib.hid (shu_no (d := dj) (j := j) (b := b) (by rw [← hq, ← hx, ← hy, hl]))
                          rw [hl] at hL
                          clear hl hx hy hq hs1 hs2 hj0 hjn
                          go_wp2
                          go_quiet ((go_at_call 131; first | exact Calls.quiet_of_same (hL _) | exact quiet_sum hL))
                          go_wp2
                          go_roundg (5 - (k + 1))
                          case measure => have := HGG.out; omega
                          case rel => exact ⟨i1, k + 1, d3, ⟨rfl, by omega, by have := HPP.out; omega, by have := HPP.out; omega⟩, by first | rfl | go_num, by first | rfl | go_num, Lib.hid (by have e3 := HJ.out.2.2; rw [E.out] at e3; subst e3; exact ⟨HJ.out.1.drewN _, HJ.out.2.1, HE.out.symm⟩)⟩
                      · have y1 : decide ((j : Int) < (b : Int)) = false := by simp; omega
                        have y1' : decide (j < b) = false := by simp; omega
                        have E := Lib.hid (shu_end (d := dj) (j := j) (b := b) hjc)
                        clear hj0
                        go_wp2
                        go_roundg (5 - (k + 1))
                        case measure => have := HGG.out; omega
                        case rel => exact ⟨i1, k + 1, d3, ⟨rfl, by omega, by have := HPP.out; omega, by have := HPP.out; omega⟩, by first | rfl | go_num, by first | rfl | go_num, Lib.hid (by have e3 := HJ.out.2.2; rw [E.out] at e3; subst e3; exact ⟨HJ.out.1, HJ.out.2.1, HE.out.symm⟩)⟩
                  · have z1 : decide ((N : Int) ≥ 2) = false := by simp; omega
                    have z1' : decide ((2 : Int) ≤ (N : Int)) = false := by simp; omega
                    have z1'' : ¬ (2 : Int) ≤ (N : Int) := by omega
                    have HDD := Lib.hid (show d2 = d3 by rw [HD3.out, if_neg hN2])
                    go_wp2
                    go_roundg (5 - (k + 1))
                    case measure => have := HGG.out; omega
                    case rel => exact ⟨i1, k + 1, d3, ⟨rfl, by omega, by have := HPP.out; omega, by have := HPP.out; omega⟩, by first | rfl | go_num, by first | rfl | go_num, Lib.hid (by rw [← HDD.out]; exact ⟨HC2.out.1, HC2.out.2, by rw [HDD.out]; exact HE.out.symm⟩)⟩
        · have hE : i1 = b := by omega
          have g1 : decide ((i1 : Int) < (b : Int)) = false := by simpa using hle
          have g1' : decide (i1 < b) = false := by simpa using hle
          have e1 : ((i1 : Int) == (b : Int)) = true := by simp; omega
          have e1' : decide ((i1 : Int) = (b : Int)) = true := by simp; omega
          have HE := Lib.hid (show (dk, true) = R by rw [← HK.out, pin_b (HA.out.2.symm.trans (by rw [ss_end hle, hE]))])
          clear hgk
          subst hE
          go_wp2
          go_quiet (fail)
          go_wp2
          go_ret
          rw [← HE.out]
          exact ⟨rfl, HA.out.1.drewN _⟩
    · have m0 : decide ((k : Int) < 5) = false := by simp; omega
      have m0' : ¬ (k : Int) < 5 := by omega
      have HE := Lib.hid (show (dk, false) = R by rw [← HR.out.2.2, show 5 - k = 0 by omega, partialIns])
      clear hg
      go_wp2
      go_ret
      rw [← HE.out]
      exact ⟨rfl, HR.out.1⟩
end Go.Proofs
end
section
namespace Go.Proofs
open Go.RowKit Go.Sort
set_option linter.unusedVariables false
section
variable {w0 w : World} {g cap n : Nat} {d : Array Int}
theorem ins_n (h : Ud w0 w g cap d) (hz : d.size = n) (hn : n ≤ 100000) (a b : Nat) (hab : a ≤ b) (hb : b ≤ n) :
    Calls Tryz.prog 125 #[.slice (some ⟨g, 0, none⟩) n cap, .int .i64 a, .int .i64 b] w fun e w' => e = .returned (.tuple #[]) ∧ ∃ d', Ud w0 w' g cap d' ∧ PermIn a b d d' ∧ SortedIn ltInt a b d' := by
  subst hz
  have hp := insertionSort_holds (lt := ltInt) swo_ltInt d a b hab hb
  exact (ins_u h a b hab hb hn).mono fun e w' ⟨h1, h2⟩ => ⟨h1, _, h2, hp.1, hp.2⟩
theorem heap_n (h : Ud w0 w g cap d) (hz : d.size = n) (hn : n ≤ 100000) (a b : Nat) (hab : a < b) (hb : b ≤ n) :
    Calls Tryz.prog 126 #[.slice (some ⟨g, 0, none⟩) n cap, .int .i64 a, .int .i64 b] w fun e w' => e = .returned (.tuple #[]) ∧ ∃ d', Ud w0 w' g cap d' ∧ PermIn a b d d' ∧ SortedIn ltInt a b d' := by
  subst hz
  have hp := heapSort_holds (lt := ltInt) swo_ltInt d a b (by omega) hb
  exact (heap_u h a b hab hb hn).mono fun e w' ⟨h1, h2⟩ => ⟨h1, _, h2, hp.1, hp.2⟩
theorem breaks_n (h : Ud w0 w g cap d) (hz : d.size = n) (hn : n ≤ 100000) (a b : Nat) (hab : a + 12 < b) (hb : b ≤ n) :
    Calls Tryz.prog 127 #[.slice (some ⟨g, 0, none⟩) n cap, .int .i64 a, .int .i64 b] w fun e w' => e = .returned (.tuple #[]) ∧ ∃ d', Ud w0 w' g cap d' ∧ PermIn a b d d' := by
  subst hz
  exact breaks_u h a b hab hb hn
theorem pivot_n (h : Ud w0 w g cap d) (hz : d.size = n) (hn : n ≤ 100000) (a b : Nat) (hab : a + 12 < b) (hb : b ≤ n) :
    Calls Tryz.prog 128 #[.slice (some ⟨g, 0, none⟩) n cap, .int .i64 a, .int .i64 b] w fun e w' => (∃ (p : Nat) (hint : Int), e = .returned (.tuple #[.int .i64 p, .int .i64 hint]) ∧ a ≤ p ∧ p < b) ∧ Ud w0 w' g cap d := by
  subst hz
  exact pivot_u h a b hab hb hn
theorem reverse_n (h : Ud w0 w g cap d) (hz : d.size = n) (hn : n ≤ 100000) (a b : Nat) (hab : a < b) (hb : b ≤ n) :
    Calls Tryz.prog 129 #[.slice (some ⟨g, 0, none⟩) n cap, .int .i64 a, .int .i64 b] w fun e w' => e = .returned (.tuple #[]) ∧ ∃ d', Ud w0 w' g cap d' ∧ PermIn a b d d' := by
  subst hz
  exact reverse_u h a b hab hb hn
theorem partial_n (h : Ud w0 w g cap d) (hz : d.size = n) (hn : n ≤ 100000) (a b : Nat) (hab : a + 12 < b) (hb : b ≤ n) (hB : Below ltInt a b d) :
    Calls Tryz.prog 130 #[.slice (some ⟨g, 0, none⟩) n cap, .int .i64 a, .int .i64 b] w fun e w' => ∃ (r : Bool) (d' : Array Int), e = .returned (.bool r) ∧ Ud w0 w' g cap d' ∧ PermIn a b d d' ∧ (r = true → SortedIn ltInt a b d') := by
  subst hz
  have hp := partialInsertionSort_holds (lt := ltInt) swo_ltInt d a b (by omega) hb hB
  exact (partial_u h a b (by omega) hb hn).mono fun e w' ⟨h1, h2⟩ => ⟨_, _, h1, h2, hp.1, hp.2⟩
theorem parteq_n (h : Ud w0 w g cap d) (hz : d.size = n) (hn : n ≤ 100000) (a b p : Nat) (hab : a + 12 < b) (hb : b ≤ n) (h1 : a ≤ p) (h2 : p < b) (hB : Below ltInt a b d) (ha : 0 < a) (hl : ltInt d[a - 1]! d[p]! = false) :
    Calls Tryz.prog 132 #[.slice (some ⟨g, 0, none⟩) n cap, .int .i64 a, .int .i64 b, .int .i64 p] w fun e w' => ∃ (mid : Nat) (d' : Array Int), e = .returned (.int .i64 mid) ∧ Ud w0 w' g cap d' ∧ a < mid ∧ mid ≤ b ∧ d'.size = n ∧ Below ltInt mid b d' ∧ ∀ R, PermIn mid b d' R → SortedIn ltInt mid b R → PermIn a b d R ∧ SortedIn ltInt a b R := by
  subst hz
  refine (parteq_u h a b p h1 h2 (by omega) hb hn).mono fun e w' ⟨h3, h4⟩ => ⟨_, _, h3, h4, ?_⟩
  exact round_eq swo_ltInt (partitionEqual_holds ltInt) ha h1 h2 hb hB hl rfl
theorem part_n (h : Ud w0 w g cap d) (hz : d.size = n) (hn : n ≤ 100000) (a b p : Nat) (hab : a + 12 < b) (hb : b ≤ n) (h1 : a ≤ p) (h2 : p < b) (hB : Below ltInt a b d) :
    Calls Tryz.prog 133 #[.slice (some ⟨g, 0, none⟩) n cap, .int .i64 a, .int .i64 b, .int .i64 p] w fun e w' => ∃ (mid : Nat) (ap : Bool) (d' : Array Int), e = .returned (.tuple #[.int .i64 mid, .bool ap]) ∧ Ud w0 w' g cap d' ∧
      a ≤ mid ∧ mid < b ∧ d'.size = n ∧ Below ltInt a mid d' ∧ Below ltInt (mid + 1) b d' ∧
      (∀ L, PermIn a mid d' L → SortedIn ltInt a mid L → Below ltInt (mid + 1) b L ∧ ∀ R, PermIn (mid + 1) b L R → SortedIn ltInt (mid + 1) b R → PermIn a b d R ∧ SortedIn ltInt a b R) ∧
      (∀ L, PermIn (mid + 1) b d' L → SortedIn ltInt (mid + 1) b L → Below ltInt a mid L ∧ ∀ R, PermIn a mid L R → SortedIn ltInt a mid R → PermIn a b d R ∧ SortedIn ltInt a b R) := by
  subst hz
  refine (part_u h a b p h1 h2 (by omega) hb hn).mono fun e w' ⟨h3, h4⟩ => ⟨_, _, _, h3, h4, ?_⟩
  exact round_part swo_ltInt (partition_holds ltInt) h1 h2 hb hB rfl
end
end Go.Proofs
end
