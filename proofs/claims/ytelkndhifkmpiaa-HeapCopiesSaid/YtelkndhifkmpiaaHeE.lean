import Derived.Test.YtelkndhifkmpiaaHeD
import Derived.Deep.LoopGhost
import Derived.WalkMore
namespace Go.Proofs
open Go.RowKit
set_option linter.unusedVariables false

/-- What cmp.Compare tells of two numbers. -/
def cmpI (x y : Int) : Int := if x < y then -1 else if y < x then 1 else 0
theorem nan_any (x : Int) (w : World) : Calls Try.prog 49 #[.int .u64 x] w fun e w' => e = .returned (.bool false) ∧ w = w' := by
  have hb : (x != x) = false := by simp
  go_enter Try.func49, Try.ntmps49
  go_wp2
  go_ret
  exact ⟨rfl, rfl⟩
theorem compare_any (x y : Int) (w : World) : Calls Try.prog 41 #[.int .u64 x, .int .u64 y] w fun e w' => e = .returned (.int .i64 (cmpI x y)) ∧ w = w' := by
  have hn := nan_any
  by_cases h1 : x < y
  · rw [show cmpI x y = -1 by unfold cmpI; rw [if_pos h1]]
    go_enter Try.func41, Try.ntmps41
    go_wp2_with (go_at_call 49; refine (hn _ _).mono ?_; rintro e w' ⟨rfl, rfl⟩)
    go_ret
    exact ⟨rfl, rfl⟩
  · by_cases h2 : y < x
    · rw [show cmpI x y = 1 by unfold cmpI; rw [if_neg h1, if_pos h2]]
      go_enter Try.func41, Try.ntmps41
      go_wp2_with (go_at_call 49; refine (hn _ _).mono ?_; rintro e w' ⟨rfl, rfl⟩)
      go_ret
      exact ⟨rfl, rfl⟩
    · rw [show cmpI x y = 0 by unfold cmpI; rw [if_neg h1, if_neg h2]]
      go_enter Try.func41, Try.ntmps41
      go_wp2_with (go_at_call 49; refine (hn _ _).mono ?_; rintro e w' ⟨rfl, rfl⟩)
      go_ret
      exact ⟨rfl, rfl⟩
theorem or_any {w : World} {b : Nat} {x y : Int} (hB : Blk w b 3 #[.int .i64 x, .int .i64 y]) :
    Calls Try.prog 40 #[.slice (some ⟨b, 0, none⟩) 2 2] w fun e w' => e = .returned (.int .i64 (if x = 0 then y else x)) ∧ w = w' := by
  have c0 := hB.cell 0
  have c1 := hB.cell 1
  clear hB
  by_cases h : x = 0
  · subst h
    rw [if_pos rfl]
    by_cases hy : y = 0
    · subst hy
      go_enter Try.func40, Try.ntmps40
      go_wp2
      go_loopg [8] 2 (fun g s8 wx => ∃ k : Nat, k + g = 2 ∧ s8 = .int .i64 k ∧ w = wx)
      case atStart => exact ⟨0, rfl, rfl, rfl⟩
      case round =>
        obtain ⟨k, hk, rfl, rfl⟩ := hrel
        by_cases hk0 : k = 0
        · subst hk0
          go_wp2
          go_roundg 1
          case measure => omega
          case rel => exact ⟨1, rfl, by go_num, rfl⟩
        · by_cases hk1 : k = 1
          · subst hk1
            go_wp2
            go_roundg 0
            case measure => omega
            case rel => exact ⟨2, rfl, by go_num, rfl⟩
          · obtain rfl : k = 2 := by omega
            go_wp2
            go_ret
            exact ⟨rfl, rfl⟩
    · have hb : (y != 0) = true := by simpa using hy
      have HY := Lib.hid hy
      clear hy
      go_enter Try.func40, Try.ntmps40
      go_wp2
      go_loopg [8] 2 (fun g s8 wx => ∃ k : Nat, k + g = 2 ∧ k ≤ 1 ∧ s8 = .int .i64 k ∧ w = wx)
      case atStart => exact ⟨0, rfl, by omega, rfl, rfl⟩
      case round =>
        obtain ⟨k, hk, hk1, rfl, rfl⟩ := hrel
        by_cases hk0 : k = 0
        · subst hk0
          go_wp2
          go_roundg 1
          case measure => omega
          case rel => exact ⟨1, rfl, by omega, by go_num, rfl⟩
        · obtain rfl : k = 1 := by omega
          go_wp2
          go_ret
          exact ⟨rfl, rfl⟩
  · rw [if_neg h]
    have hb : (x != 0) = true := by simpa using h
    have HX := Lib.hid h
    clear h
    go_enter Try.func40, Try.ntmps40
    go_wp2
    go_loopg [8] 2 (fun g s8 wx => ∃ k : Nat, k + g = 2 ∧ k ≤ 0 ∧ s8 = .int .i64 k ∧ w = wx)
    case atStart => exact ⟨0, rfl, by omega, rfl, rfl⟩
    case round =>
      obtain ⟨k, hk, hk1, rfl, rfl⟩ := hrel
      obtain rfl : k = 0 := by omega
      go_wp2
      go_ret
      exact ⟨rfl, rfl⟩
theorem cf_or (x y : Tm) : (if cmpI x.at_ y.at_ = 0 then cmpI x.put y.put else cmpI x.at_ y.at_) = Tm.cf x y := by
  unfold cmpI Tm.cf
  split <;> split <;> (try split) <;> (try split) <;> omega
set_option maxHeartbeats 1600000 in
set_option maxRecDepth 100000 in
/-- compare: it lays blocks of its own. -/
theorem cmp_any (x y : Tm) (w : World) : Calls Try.prog 29 #[agg x, agg y] w fun e w' => e = .returned (.int .i64 (Tm.cf x y)) ∧ ∃ o1 o2 o3, w' = ((w.drew.alloc o1).alloc o2).alloc o3 := by
  have hc := compare_any
  have ho := fun W b hB => or_any (w := W) (b := b) (x := cmpI x.at_ y.at_) (y := cmpI x.put y.put) hB
  simp only [cf_or] at ho
  obtain ⟨r, hr⟩ : ∃ r, r = Tm.cf x y := ⟨_, rfl⟩
  rw [← hr] at ho ⊢
  obtain ⟨xa, xi, xp⟩ := x
  obtain ⟨ya, yi, yp⟩ := y
  simp only at hc ho
  unfold agg
  clear hr
  go_enter Try.func29, Try.ntmps29
  go_wp2
  go_region_held3 (fun w' => w'.cell? ⟨w.heap.size, 0, none⟩ = some (.int .u64 xa) ∧ w'.cell? ⟨w.heap.size, 2, none⟩ = some (.int .u64 xp) ∧ w'.cell? ⟨w.heap.size + 1, 0, none⟩ = some (.int .u64 ya) ∧ w'.cell? ⟨w.heap.size + 1, 2, none⟩ = some (.int .u64 yp))
    (first | go_keep)
    (first
      | (go_at_call 41; refine (hc _ _ _).mono ?_; rintro e w' ⟨rfl, rfl⟩)
      | (go_at_call 40; refine (ho _ _ (Blk.at _ 3 _ (by simp)).drew).mono ?_; rintro e w' ⟨rfl, rfl⟩))
  all_goals
    go_wp2
    go_ret
    exact ⟨rfl, _, _, _, rfl⟩
end Go.Proofs
