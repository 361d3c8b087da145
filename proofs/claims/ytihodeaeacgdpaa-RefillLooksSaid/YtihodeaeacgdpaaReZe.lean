import Derived.Test.YtihodeaeacgdpaaReZd
namespace Go.Proofs
open Go.RowKit Go.Sort
set_option linter.unusedVariables false

set_option maxHeartbeats 6400000 in
set_option maxRecDepth 100000 in
theorem pivot_few {w0 w : World} {g cap : Nat} {d : Array Int} (h : Ud w0 w g cap d) (a b : Nat) (hab : a + 12 < b) (hb : b ≤ d.size) (hsz : d.size ≤ 100000) (hbig : b - a < 50) :
    Calls Try.prog 51 #[.slice (some ⟨g, 0, none⟩) d.size cap, .int .i64 a, .int .i64 b] w fun e w' => (∃ (p : Nat) (hint : Int), e = .returned (.tuple #[.int .i64 p, .int .i64 hint]) ∧ a ≤ p ∧ p < b) ∧ Ud w0 w' g cap d := by
  have hgl : g < w.heap.size := by
    have h1 := h.1
    unfold Un at h1
    exact h1.lt g (by simp [foot_some])
  have hP : Pv w0 (w.alloc (.cells #[.int .i64 0] 3)) g cap d w.heap.size := ⟨⟨Row.alloc h.1 _, h.2.alloc _⟩, ⟨0, Blk.new _ _ _⟩, by omega, h.2.size⟩
  have HP := Lib.hid hP
  have HM := Lib.hid (fun W (hW : Pv w0 W g cap d w.heap.size) p (hp : 1 ≤ p) (hp' : p + 1 < d.size) => medadj_u hW p hp hp' hsz)
  have HD := Lib.hid (fun W (hW : Pv w0 W g cap d w.heap.size) p q r (hp : p < d.size) (hq : q < d.size) (hr : r < d.size) => median_u hW p q r hp hq hr hsz)
  have HRD := Lib.hid (fun W (hW : Pv w0 W g cap d w.heap.size) => (hW.2.1 : ∃ k, Blk W w.heap.size 3 #[.int .i64 k]))
  obtain ⟨n, hn⟩ : ∃ n, n = d.size := ⟨_, rfl⟩
  obtain ⟨L, hL⟩ : ∃ L, L = b - a := ⟨_, rfl⟩
  obtain ⟨q, hq⟩ : ∃ q, q = L / 4 := ⟨_, rfl⟩
  obtain ⟨I, hI⟩ : ∃ I, I = a + q := ⟨_, rfl⟩
  obtain ⟨J, hJ⟩ : ∃ J, J = a + q * 2 := ⟨_, rfl⟩
  obtain ⟨K, hK⟩ : ∃ K, K = a + q * 3 := ⟨_, rfl⟩
  rw [← hn] at HM HD hb hsz ⊢
  have k0 : IntKind.i64.wrap ((b : Int) - (a : Int)) = (L : Int) := by rw [IntWalk.i64_in _ (by omega)]; omega
  have k1 : IntKind.i64.wrap (Int.tdiv (L : Int) 4) = (q : Int) := by rw [Int.tdiv_eq_ediv_of_nonneg (by omega), IntWalk.i64_in _ (by omega)]; omega
  have k1' : Int.tdiv (L : Int) 4 = (q : Int) := by rw [Int.tdiv_eq_ediv_of_nonneg (by omega)]; omega
  have k2 : decide ((L : Int) ≥ 8) = true := by simp; omega
  have k2' : decide ((8 : Int) ≤ (L : Int)) = true := by simp; omega
  have k2'' : decide ((L : Int) ≥ 50) = false := by simp; omega
  have k2n : decide ((50 : Int) ≤ (L : Int)) = false := by simp; omega
  have k3 : IntKind.i64.wrap ((q : Int)) = (q : Int) := by rw [IntWalk.i64_in _ (by omega)]
  have k4 : IntKind.i64.wrap ((a : Int) + (q : Int)) = (I : Int) := by rw [IntWalk.i64_in _ (by omega)]; omega
  have k5 : IntKind.i64.wrap ((q : Int) * 2) = (q : Int) * 2 := by rw [IntWalk.i64_in _ (by omega)]
  have k6 : IntKind.i64.wrap ((q : Int) * 3) = (q : Int) * 3 := by rw [IntWalk.i64_in _ (by omega)]
  have k7 : IntKind.i64.wrap ((a : Int) + (q : Int) * 2) = (J : Int) := by rw [IntWalk.i64_in _ (by omega)]; omega
  have k8 : IntKind.i64.wrap ((a : Int) + (q : Int) * 3) = (K : Int) := by rw [IntWalk.i64_in _ (by omega)]; omega
  have HQ := Lib.hid (show a + 1 < I ∧ I + 1 < J ∧ J + 1 < K ∧ K + 1 < b ∧ b ≤ n from by omega)
  clear h hn hL hP hq hI hJ hK
  go_enter Try.func51, Try.ntmps51
  go_wp2_with (fail)
  refine (HD.out _ HP.out I J K (by have := HQ.out; omega) (by have := HQ.out; omega) (by have := HQ.out; omega)).mono ?_
  rintro e w4 ⟨⟨p4, rfl, hp4⟩, h4⟩
  have hq4 : a ≤ p4 ∧ p4 < b := by have := HQ.out; omega
  obtain ⟨c, hc⟩ := HRD.out _ h4
  have hcc := hc.cell 0
  have H4 := Lib.hid h4
  clear hp4 h4 hc
  have H5 := Lib.hid hq4
  clear hq4
  by_cases z1 : c = 0
  · subst z1
    go_wp2
    go_ret2
    exact ⟨⟨p4, _, rfl, H5.out.1, H5.out.2⟩, H4.out.1⟩
  · have z1' : (c == 0) = false := by simpa using z1
    by_cases z2 : c = 12
    · subst z2
      go_wp2
      go_ret2
      exact ⟨⟨p4, _, rfl, H5.out.1, H5.out.2⟩, H4.out.1⟩
    · have z2' : (c == 12) = false := by simpa using z2
      go_wp2
      go_ret2
      exact ⟨⟨p4, _, rfl, H5.out.1, H5.out.2⟩, H4.out.1⟩
set_option maxHeartbeats 6400000 in
set_option maxRecDepth 100000 in
theorem pivot_many {w0 w : World} {g cap : Nat} {d : Array Int} (h : Ud w0 w g cap d) (a b : Nat) (hab : a + 12 < b) (hb : b ≤ d.size) (hsz : d.size ≤ 100000) (hbig : 50 ≤ b - a) :
    Calls Try.prog 51 #[.slice (some ⟨g, 0, none⟩) d.size cap, .int .i64 a, .int .i64 b] w fun e w' => (∃ (p : Nat) (hint : Int), e = .returned (.tuple #[.int .i64 p, .int .i64 hint]) ∧ a ≤ p ∧ p < b) ∧ Ud w0 w' g cap d := by
  have hgl : g < w.heap.size := by
    have h1 := h.1
    unfold Un at h1
    exact h1.lt g (by simp [foot_some])
  have hP : Pv w0 (w.alloc (.cells #[.int .i64 0] 3)) g cap d w.heap.size := ⟨⟨Row.alloc h.1 _, h.2.alloc _⟩, ⟨0, Blk.new _ _ _⟩, by omega, h.2.size⟩
  have HP := Lib.hid hP
  have HM := Lib.hid (fun W (hW : Pv w0 W g cap d w.heap.size) p (hp : 1 ≤ p) (hp' : p + 1 < d.size) => medadj_u hW p hp hp' hsz)
  have HD := Lib.hid (fun W (hW : Pv w0 W g cap d w.heap.size) p q r (hp : p < d.size) (hq : q < d.size) (hr : r < d.size) => median_u hW p q r hp hq hr hsz)
  have HRD := Lib.hid (fun W (hW : Pv w0 W g cap d w.heap.size) => (hW.2.1 : ∃ k, Blk W w.heap.size 3 #[.int .i64 k]))
  obtain ⟨n, hn⟩ : ∃ n, n = d.size := ⟨_, rfl⟩
  obtain ⟨L, hL⟩ : ∃ L, L = b - a := ⟨_, rfl⟩
  obtain ⟨q, hq⟩ : ∃ q, q = L / 4 := ⟨_, rfl⟩
  obtain ⟨I, hI⟩ : ∃ I, I = a + q := ⟨_, rfl⟩
  obtain ⟨J, hJ⟩ : ∃ J, J = a + q * 2 := ⟨_, rfl⟩
  obtain ⟨K, hK⟩ : ∃ K, K = a + q * 3 := ⟨_, rfl⟩
  rw [← hn] at HM HD hb hsz ⊢
  have k0 : IntKind.i64.wrap ((b : Int) - (a : Int)) = (L : Int) := by rw [IntWalk.i64_in _ (by omega)]; omega
  have k1 : IntKind.i64.wrap (Int.tdiv (L : Int) 4) = (q : Int) := by rw [Int.tdiv_eq_ediv_of_nonneg (by omega), IntWalk.i64_in _ (by omega)]; omega
  have k1' : Int.tdiv (L : Int) 4 = (q : Int) := by rw [Int.tdiv_eq_ediv_of_nonneg (by omega)]; omega
  have k2 : decide ((L : Int) ≥ 8) = true := by simp; omega
  have k2' : decide ((8 : Int) ≤ (L : Int)) = true := by simp; omega
  have k2'' : decide ((L : Int) ≥ 50) = true := by simp; omega
  have k2n : decide ((50 : Int) ≤ (L : Int)) = true := by simp; omega
  have k3 : IntKind.i64.wrap ((q : Int)) = (q : Int) := by rw [IntWalk.i64_in _ (by omega)]
  have k4 : IntKind.i64.wrap ((a : Int) + (q : Int)) = (I : Int) := by rw [IntWalk.i64_in _ (by omega)]; omega
  have k5 : IntKind.i64.wrap ((q : Int) * 2) = (q : Int) * 2 := by rw [IntWalk.i64_in _ (by omega)]
  have k6 : IntKind.i64.wrap ((q : Int) * 3) = (q : Int) * 3 := by rw [IntWalk.i64_in _ (by omega)]
  have k7 : IntKind.i64.wrap ((a : Int) + (q : Int) * 2) = (J : Int) := by rw [IntWalk.i64_in _ (by omega)]; omega
  have k8 : IntKind.i64.wrap ((a : Int) + (q : Int) * 3) = (K : Int) := by rw [IntWalk.i64_in _ (by omega)]; omega
  have HQ := Lib.hid (show a + 1 < I ∧ I + 1 < J ∧ J + 1 < K ∧ K + 1 < b ∧ b ≤ n from by omega)
  clear h hn hL hP hq hI hJ hK
  go_enter Try.func51, Try.ntmps51
  go_wp2_with (fail)
  refine (HM.out _ HP.out I (by have := HQ.out; omega) (by have := HQ.out; omega)).mono ?_
  rintro e w1 ⟨⟨p1, rfl, hp1⟩, h1⟩
  have hq1 : a ≤ p1 ∧ p1 < b := by have := HQ.out; omega
  clear hp1
  go_wp2_with (fail)
  refine (HM.out _ h1 J (by have := HQ.out; omega) (by have := HQ.out; omega)).mono ?_
  rintro e w2 ⟨⟨p2, rfl, hp2⟩, h2⟩
  have hq2 : a ≤ p2 ∧ p2 < b := by have := HQ.out; omega
  clear hp2
  go_wp2_with (fail)
  refine (HM.out _ h2 K (by have := HQ.out; omega) (by have := HQ.out; omega)).mono ?_
  rintro e w3 ⟨⟨p3, rfl, hp3⟩, h3⟩
  have hq3 : a ≤ p3 ∧ p3 < b := by have := HQ.out; omega
  clear hp3
  go_wp2_with (fail)
  refine (HD.out _ h3 p1 p2 p3 (by have := HQ.out; omega) (by have := HQ.out; omega) (by have := HQ.out; omega)).mono ?_
  rintro e w4 ⟨⟨p4, rfl, hp4⟩, h4⟩
  have hq4 : a ≤ p4 ∧ p4 < b := by have := HQ.out; omega
  obtain ⟨c, hc⟩ := HRD.out _ h4
  have hcc := hc.cell 0
  have H4 := Lib.hid h4
  clear hp4 h4 hc
  have H5 := Lib.hid hq4
  clear hq4
  by_cases z1 : c = 0
  · subst z1
    go_wp2
    go_ret2
    exact ⟨⟨p4, _, rfl, H5.out.1, H5.out.2⟩, H4.out.1⟩
  · have z1' : (c == 0) = false := by simpa using z1
    by_cases z2 : c = 12
    · subst z2
      go_wp2
      go_ret2
      exact ⟨⟨p4, _, rfl, H5.out.1, H5.out.2⟩, H4.out.1⟩
    · have z2' : (c == 12) = false := by simpa using z2
      go_wp2
      go_ret2
      exact ⟨⟨p4, _, rfl, H5.out.1, H5.out.2⟩, H4.out.1⟩
theorem pivot_u {w0 w : World} {g cap : Nat} {d : Array Int} (h : Ud w0 w g cap d) (a b : Nat) (hab : a + 12 < b) (hb : b ≤ d.size) (hsz : d.size ≤ 100000) :
    Calls Try.prog 51 #[.slice (some ⟨g, 0, none⟩) d.size cap, .int .i64 a, .int .i64 b] w fun e w' => (∃ (p : Nat) (hint : Int), e = .returned (.tuple #[.int .i64 p, .int .i64 hint]) ∧ a ≤ p ∧ p < b) ∧ Ud w0 w' g cap d := by
  rcases Nat.lt_or_ge (b - a) 50 with hl | hl
  · exact pivot_few h a b hab hb hsz hl
  · exact pivot_many h a b hab hb hsz hl
end Go.Proofs
