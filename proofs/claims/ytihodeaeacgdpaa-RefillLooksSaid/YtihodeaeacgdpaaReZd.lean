import Derived.Test.YtihodeaeacgdpaaReZb
namespace Go.Proofs
open Go.RowKit Go.Sort
set_option linter.unusedVariables false

theorem pi_swp {d dk : Array Int} {a b i j : Nat} (h : PermIn a b d dk) (hi : a ≤ i) (hi' : i < b) (hj : a ≤ j) (hj' : j < b) (hb : b ≤ d.size) : PermIn a b d (swp dk i j) :=
  permIn_trans _ _ _ a b h (swp_permIn dk a b i j hi hi' hj hj' (by rw [h.1]; exact hb))
set_option maxHeartbeats 6400000 in
set_option maxRecDepth 100000 in
theorem reverse_u {w0 w : World} {g cap : Nat} {d : Array Int} (h : Ud w0 w g cap d) (a b : Nat) (hab : a < b) (hb : b ≤ d.size) (hsz : d.size ≤ 100000) :
    Calls Try.prog 52 #[.slice (some ⟨g, 0, none⟩) d.size cap, .int .i64 a, .int .i64 b] w fun e w' => e = .returned (.tuple #[]) ∧ ∃ d', Ud w0 w' g cap d' ∧ PermIn a b d d' := by
  obtain ⟨n, hn⟩ : ∃ n, n = d.size := ⟨_, rfl⟩
  have HB := Lib.hid hb
  have HI0 := Lib.hid (show Ud w0 w g cap d ∧ d.size = n ∧ PermIn a b d d from ⟨h, hn.symm, permIn_refl d a b⟩)
  rw [← hn] at hb hsz ⊢
  have k0 : IntKind.i64.wrap ((b : Int) - 1) = ((b - 1 : Nat) : Int) := by rw [IntWalk.i64_in _ (by omega)]; omega
  clear h hn
  go_enter Try.func52, Try.ntmps52
  go_wp2
  go_loopg [6, 7] b (fun gh s6 s7 wx => ∃ (i j : Nat) (dk : Array Int), (a ≤ i ∧ j < b ∧ j + 1 - i ≤ gh) ∧ s6 = .int .i64 i ∧ s7 = .int .i64 j ∧ Hid (Ud w0 wx g cap dk ∧ dk.size = n ∧ PermIn a b d dk))
  case atStart => exact ⟨a, b - 1, d, ⟨by omega, by omega, by omega⟩, rfl, rfl, Lib.hid HI0.out⟩
  case round =>
    obtain ⟨i, j, dk, ⟨hi, hj, hij⟩, rfl, rfl, HR⟩ := hrel
    by_cases hlt : i < j
    · have k1 : decide ((i : Int) < (j : Int)) = true := by simpa using hlt
      have k2 : (i : Int) < (j : Int) := by omega
      have f0 := HR.out.1.frozen (by rw [HR.out.2.1]; omega) i
      have f1 := HR.out.1.frozen (by rw [HR.out.2.1]; omega) j
      have c0 := HR.out.1.cell (j := i) (by rw [HR.out.2.1]; omega)
      have c1 := HR.out.1.cell (j := j) (by rw [HR.out.2.1]; omega)
      have hs1 := fun q => (HR.out.1.drewN q).swap (i := i) (j := j) (by rw [HR.out.2.1]; omega) (by rw [HR.out.2.1]; omega)
      have hs2 := fun q => (HR.out.1.drewN q).swap' (i := i) (j := j) (by rw [HR.out.2.1]; omega) (by rw [HR.out.2.1]; omega) (by omega)
      obtain ⟨x, hx⟩ : ∃ x, x = dk[i]! := ⟨_, rfl⟩
      obtain ⟨y, hy⟩ : ∃ y, y = dk[j]! := ⟨_, rfl⟩
      rw [← hx] at c0 hs1 hs2
      rw [← hy] at c1 hs1 hs2
      have i0 : (0 : Int) ≤ (i : Int) := by omega
      have i1 : (i : Int) < (n : Int) := by omega
      have i2 : (0 : Int) ≤ (j : Int) := by omega
      have i3 : (j : Int) < (n : Int) := by omega
      have i4 : IntKind.i64.wrap ((j : Int) - 1) = ((j - 1 : Nat) : Int) := by rw [IntWalk.i64_in _ (by omega)]; omega
      have i5 : IntKind.i64.wrap ((i : Int) + 1) = ((i + 1 : Nat) : Int) := by rw [IntWalk.i64_in _ (by omega)]; omega
      have hne1 : ¬ i = j := by omega
      have hne2 : ¬ j = i := by omega
      have HS1 := Lib.hid hs1
      have HS2 := Lib.hid hs2
      have HLT := Lib.hid hlt
      clear hs1 hs2 hx hy hlt
      go_wp2
      go_region
      all_goals
        go_wp2
        go_roundg (j - 1 + 1 - (i + 1))
        case measure => have := HLT.out; omega
        case rel =>
          have hl := HLT.out
          have hP := pi_swp HR.out.2.2 (i := i) (j := j) hi (by omega) (by omega) (by omega) HB.out
          first
            | exact ⟨i + 1, j - 1, _, ⟨by omega, by omega, by omega⟩, by first | rfl | go_num, by first | rfl | go_num, Lib.hid ⟨HS1.out _, by rw [swpU_size]; exact HR.out.2.1, hP⟩⟩
            | exact ⟨i + 1, j - 1, _, ⟨by omega, by omega, by omega⟩, by first | rfl | go_num, by first | rfl | go_num, Lib.hid ⟨HS2.out _, by rw [swpU_size]; exact HR.out.2.1, hP⟩⟩
            | exact ⟨i + 1, j - 1, _, ⟨by omega, by omega, by omega⟩, by first | rfl | go_num, by first | rfl | go_num, Lib.hid ⟨by simpa using HS1.out 0, by rw [swpU_size]; exact HR.out.2.1, hP⟩⟩
    · have k1 : decide ((i : Int) < (j : Int)) = false := by simpa using hlt
      have k2 : ¬ (i : Int) < (j : Int) := by omega
      go_wp2
      go_end0
      exact ⟨rfl, dk, HR.out.1, HR.out.2.2⟩
/-- A row, and a counter beside it. -/
def Pv (w0 wx : World) (g cap : Nat) (d : Array Int) (s : Nat) : Prop := Ud w0 wx g cap d ∧ (∃ k, Blk wx s 3 #[.int .i64 k]) ∧ s ≠ g ∧ w0.heap.size ≤ s
set_option maxHeartbeats 6400000 in
set_option maxRecDepth 100000 in
theorem order2_u {w0 w : World} {g cap s : Nat} {d : Array Int} (h : Pv w0 w g cap d s) (a b : Nat) (ha : a < d.size) (hb : b < d.size) (hsz : d.size ≤ 100000) :
    Calls Try.prog 66 #[.slice (some ⟨g, 0, none⟩) d.size cap, .int .i64 a, .int .i64 b, .pointer (some ⟨s, 0, none⟩)] w fun e w' => (∃ p q : Nat, e = .returned (.tuple #[.int .i64 p, .int .i64 q]) ∧ ((p = a ∧ q = b) ∨ (p = b ∧ q = a))) ∧ Pv w0 w' g cap d s := by
  obtain ⟨h1, ⟨k, hk⟩, h3, h4⟩ := h
  obtain ⟨n, hn⟩ : ∃ n, n = d.size := ⟨_, rfl⟩
  have c0 := h1.cell (j := a) ha
  have c1 := h1.cell (j := b) hb
  obtain ⟨x, hx⟩ : ∃ x, x = d[a]! := ⟨_, rfl⟩
  obtain ⟨y, hy⟩ : ∃ y, y = d[b]! := ⟨_, rfl⟩
  rw [← hx] at c0
  rw [← hy] at c1
  have s0 := hk.cell 0
  have f0 := hk.frozen 0
  rw [← hn] at ha hb hsz ⊢
  have i0 : (0 : Int) ≤ (a : Int) := by omega
  have i1 : (a : Int) < (n : Int) := by omega
  have i2 : (0 : Int) ≤ (b : Int) := by omega
  have i3 : (b : Int) < (n : Int) := by omega
  have hL : ∀ W, Calls Try.prog 54 #[.int .u64 y, .int .u64 x] W fun e w' => e = .returned (.bool (ltInt y x)) ∧ w' = W := fun W => (less_u y x W).mono fun e w' ⟨h1, h2⟩ => ⟨h1, h2.symm⟩
  have HF := Lib.hid (show ∀ q v, Blk ((w.drewN q).setCell ⟨s, 0, none⟩ v) s 3 #[v] from fun q v => by have := (hk.drewN q).set_ 0 v; simpa using this)
  have HU := Lib.hid h1
  have HK := Lib.hid hk
  have H3 := Lib.hid h3
  have H4 := Lib.hid h4
  have HSZ := Lib.hid hn
  clear h1 hk h3 h4 hx hy hn
  cases hl : ltInt y x with
  | true =>
    rw [hl] at hL
    clear hl
    go_enter Try.func66, Try.ntmps66
    go_wp2
    go_quiet ((go_at_call 54; exact Calls.quiet_of_same (hL _)))
    go_wp2
    go_ret2
    refine ⟨⟨b, a, rfl, .inr ⟨rfl, rfl⟩⟩, ?_⟩
    refine ⟨⟨Row.far ((HU.out.1 : Un _ _ _).drewN _) (by simp [foot_some]; exact H3.out) _, (HU.out.2.drewN _).setCell (p := ⟨s, 0, none⟩) (.inr H4.out) _⟩, ⟨_, HF.out _ _⟩, H3.out, H4.out⟩
  | false =>
    rw [hl] at hL
    clear hl
    go_enter Try.func66, Try.ntmps66
    go_wp2
    go_quiet ((go_at_call 54; exact Calls.quiet_of_same (hL _)))
    go_wp2
    go_ret2
    exact ⟨⟨a, b, rfl, .inl ⟨rfl, rfl⟩⟩, HU.out.drewN _, ⟨k, HK.out.drewN _⟩, H3.out, H4.out⟩
set_option maxHeartbeats 3200000 in
set_option maxRecDepth 100000 in
theorem median_u {w0 w : World} {g cap s : Nat} {d : Array Int} (h : Pv w0 w g cap d s) (a b c : Nat) (ha : a < d.size) (hb : b < d.size) (hc : c < d.size) (hsz : d.size ≤ 100000) :
    Calls Try.prog 64 #[.slice (some ⟨g, 0, none⟩) d.size cap, .int .i64 a, .int .i64 b, .int .i64 c, .pointer (some ⟨s, 0, none⟩)] w fun e w' => (∃ p : Nat, e = .returned (.int .i64 p) ∧ (p = a ∨ p = b ∨ p = c)) ∧ Pv w0 w' g cap d s := by
  have H1 := order2_u h a b ha hb hsz
  have HO := Lib.hid (fun W (hW : Pv w0 W g cap d s) p q (hp : p < d.size) (hq : q < d.size) => order2_u hW p q hp hq hsz)
  obtain ⟨n, hn⟩ : ∃ n, n = d.size := ⟨_, rfl⟩
  rw [← hn] at H1 HO ha hb hc ⊢
  clear h hn
  go_enter Try.func64, Try.ntmps64
  go_wp2_with (fail)
  refine H1.mono ?_
  rintro e w1 ⟨⟨p, q, rfl, hpq⟩, h1⟩
  have hp : p < n := by omega
  have hq : q < n := by omega
  go_wp2_with (fail)
  refine (HO.out _ h1 q c hq hc).mono ?_
  rintro e w2 ⟨⟨p2, q2, rfl, hpq2⟩, h2⟩
  have hp2 : p2 < n := by omega
  go_wp2_with (fail)
  refine (HO.out _ h2 p p2 hp hp2).mono ?_
  rintro e w3 ⟨⟨p3, q3, rfl, hpq3⟩, h3⟩
  go_wp2
  go_ret
  exact ⟨⟨q3, rfl, by omega⟩, h3⟩
theorem medadj_u {w0 w : World} {g cap s : Nat} {d : Array Int} (h : Pv w0 w g cap d s) (a : Nat) (ha : 1 ≤ a) (ha' : a + 1 < d.size) (hsz : d.size ≤ 100000) :
    Calls Try.prog 63 #[.slice (some ⟨g, 0, none⟩) d.size cap, .int .i64 a, .pointer (some ⟨s, 0, none⟩)] w fun e w' => (∃ p : Nat, e = .returned (.int .i64 p) ∧ (p = a - 1 ∨ p = a ∨ p = a + 1)) ∧ Pv w0 w' g cap d s := by
  have H1 := median_u h (a - 1) a (a + 1) (by omega) (by omega) ha' hsz
  have k0 : IntKind.i64.wrap ((a : Int) - 1) = ((a - 1 : Nat) : Int) := by rw [IntWalk.i64_in _ (by omega)]; omega
  have k1 : IntKind.i64.wrap ((a : Int) + 1) = ((a + 1 : Nat) : Int) := by rw [IntWalk.i64_in _ (by omega)]; omega
  obtain ⟨n, hn⟩ : ∃ n, n = d.size := ⟨_, rfl⟩
  obtain ⟨p, hp⟩ : ∃ p, p = a - 1 := ⟨_, rfl⟩
  obtain ⟨q, hq⟩ : ∃ p, p = a + 1 := ⟨_, rfl⟩
  have HPQ := Lib.hid (show p = a - 1 ∧ q = a + 1 from ⟨hp, hq⟩)
  rw [← hn, ← hp, ← hq] at H1
  rw [← hp] at k0
  rw [← hq] at k1
  rw [← hn, ← hp, ← hq]
  clear h hn hp hq
  go_enter Try.func63, Try.ntmps63
  go_wp2_with (fail)
  refine H1.mono ?_
  rintro e w1 ⟨⟨r, rfl, hr⟩, h1⟩
  go_wp2
  go_ret
  exact ⟨⟨r, rfl, hr⟩, h1⟩
end Go.Proofs
