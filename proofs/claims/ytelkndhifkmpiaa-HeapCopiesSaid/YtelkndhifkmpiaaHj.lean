import Derived.Test.YtelkndhifkmpiaaHi
namespace Go.Proofs
open Go.RowKit
set_option linter.unusedVariables false

theorem Acts.cells {w : World} {A : Option Addr} {n c : Nat} {l : List ActV} (h : Acts w (.slice A n c) l) : n = l.length ∧ ∀ k : Nat, k < n → ∃ (a : ActV) (b off : Nat), A = some ⟨b, off, none⟩ ∧ b < w.heap.size ∧ a.Fits ∧ w.cell? ⟨b, off + k * 3, none⟩ = some (.int .i64 a.kind) ∧ w.cell? ⟨b, off + k * 3 + 1, none⟩ = some (.int .u64 a.at_) ∧ w.cell? ⟨b, off + k * 3 + 2, none⟩ = some (.int .i64 a.id) := by
  obtain ⟨A', c', hv, hc⟩ := h
  injection hv with h1 h2 h3
  subst h1 h2 h3
  refine ⟨rfl, fun k hk => ?_⟩
  obtain ⟨b, off, h1, h2, h3, h4, h5, h6⟩ := hc k _ (List.getElem?_eq_getElem hk)
  exact ⟨_, b, off, h1, h2, h3, h4, h5, h6⟩
theorem Quad.comm {w0 w : World} {g r g2 r2 N : Nat} {l l2 : List (Int × Int)} (H : Quad w0 g r g2 r2 N l l2 w) (hN : N ≤ 100000) :
    Calls Try.prog 20 #[.pointer (some ⟨g2, 0, none⟩), .pointer (some ⟨g, 0, none⟩)] w fun e w' => e = .returned (.bool (decide (l = l2))) ∧ Quad w0 g r g2 r2 N l l2 w' := by
  have := H.symm.alike hN
  rw [show decide (l2 = l) = decide (l = l2) by rw [decide_eq_decide]; exact eq_comm] at this
  exact this.mono fun e w' ⟨h1, h2⟩ => ⟨h1, h2.symm⟩
theorem Quad.same2 {w0 w : World} {g r g2 r2 N : Nat} {l l2 : List (Int × Int)} (H : Quad w0 g r g2 r2 N l l2 w) (hN : N ≤ 100000) :
    Calls Try.prog 11 #[.pointer (some ⟨g2, 0, none⟩), .pointer (some ⟨r2, 0, none⟩)] w fun e w' => e = .returned (.bool true) ∧ Quad w0 g r g2 r2 N l l2 w' :=
  (H.symm.same1 hN).mono fun e w' ⟨h1, h2⟩ => ⟨h1, h2.symm⟩
set_option maxRecDepth 100000 in
set_option maxHeartbeats 40000000 in
theorem copies_any (V V1 V2 : Value) (l l1 l2 : List ActV) (w : World) (hV : Acts w V l) (hV1 : Acts w V1 l1) (hV2 : Acts w V2 l2) :
    Calls Try.prog 6 #[V, V1, V2] w fun e w' => e = .returned (.bool true) ∧ Chg [] w w' := by
  obtain ⟨A, c, rfl, _⟩ := _root_.id hV
  obtain ⟨A1, c1, rfl, _⟩ := _root_.id hV1
  obtain ⟨A2, c2, rfl, _⟩ := _root_.id hV2
  have HC := Lib.hid hV.cells.2
  have HC1 := Lib.hid hV1.cells.2
  have HC2 := Lib.hid hV2.cells.2
  obtain ⟨m, hm⟩ : ∃ m, m = l.length := ⟨_, rfl⟩
  obtain ⟨m1, hm1⟩ : ∃ m, m = l1.length := ⟨_, rfl⟩
  obtain ⟨m2, hm2⟩ : ∃ m, m = l2.length := ⟨_, rfl⟩
  rw [← hm] at HC ⊢
  rw [← hm1] at HC1 ⊢
  rw [← hm2] at HC2 ⊢
  clear hV hV1 hV2 hm hm1 hm2
  by_cases hl : 60 < m
  · have d : (60 : Int) < (m : Int) := by omega
    go_enter Try.func6, Try.ntmps6
    go_wp2_with (go_at_call 8; refine (known_any _).mono ?_; rintro e w1 ⟨rfl, hc⟩)
    go_ret
    exact ⟨rfl, hc⟩
  · have d : ¬ ((60 : Int) < (m : Int)) := by omega
    by_cases hl1 : 30 < m1
    · have d1 : (30 : Int) < (m1 : Int) := by omega
      go_enter Try.func6, Try.ntmps6
      go_wp2_with (go_at_call 8; refine (known_any _).mono ?_; rintro e w1 ⟨rfl, hc⟩)
      go_ret
      exact ⟨rfl, hc⟩
    · have d1 : ¬ ((30 : Int) < (m1 : Int)) := by omega
      by_cases hl2 : 30 < m2
      · have d2 : (30 : Int) < (m2 : Int) := by omega
        go_enter Try.func6, Try.ntmps6
        go_wp2_with (go_at_call 8; refine (known_any _).mono ?_; rintro e w1 ⟨rfl, hc⟩)
        go_ret
        exact ⟨rfl, hc⟩
      · have d2 : ¬ ((30 : Int) < (m2 : Int)) := by omega
        obtain ⟨g, hg⟩ : ∃ g, g = w.heap.size := ⟨_, rfl⟩
        obtain ⟨r, hr⟩ : ∃ r, r = w.heap.size + 1 := ⟨_, rfl⟩
        have HB := Lib.hid (Between.new w)
        rw [← hr, ← hg] at HB
        have HNw := fun W => new_any W
        go_enter Try.func6, Try.ntmps6
        go_wp2_with (first
          | (go_at_call 9; refine (HNw _).mono ?_; rintro e w1 ⟨rfl, rfl⟩))
        rw [← hr, ← hg]
        generalize (w.alloc (.cells #[.slice none 0 0, .map none, .int .u64 0] 55)).alloc (.cells #[.slice none 0 0] 29) = W0 at *
        clear hg hr
        go_loopw [9] (fun i wr => ∃ (k : Nat) (ll : List (Int × Int)), k ≤ m ∧ i = .int .i64 k ∧ Hid (Between w g r k ll wr)) (fun i wr => m - (intOf' i).toNat)
        case atStart => exact ⟨0, _, Nat.zero_le _, rfl, HB⟩
        case round =>
          obtain ⟨k, ll, hk, rfl, hB⟩ := hrel
          by_cases hlt : k < m
          · obtain ⟨a, b, off, hA, hb, hfit, c0, c1, c2⟩ := HC.out k hlt
            subst hA
            have q4 := hB.out.chg
            have d0 := (q4.cell (p := ⟨b, off + k * 3, none⟩) hb (by simp)).trans c0
            have d1 := (q4.cell (p := ⟨b, off + k * 3 + 1, none⟩) hb (by simp)).trans c1
            have d2 := (q4.cell (p := ⟨b, off + k * 3 + 2, none⟩) hb (by simp)).trans c2
            have i0 : (0 : Int) ≤ (k : Int) := by omega
            have i1 : (k : Int) < (m : Int) := by omega
            have HD := hB.out.does (by omega) a.kind a.at_ hfit.i
            clear q4 c0 c1 c2 hB hfit
            obtain ⟨a1, a2, a3⟩ := a
            simp only at d0 d1 d2 HD
            go_wp2_with (first
              | (go_at_call 10; refine HD.mono ?_; rintro e w4 ⟨rfl, hB2⟩; have HB2 := Lib.hid hB2; clear hB2))
            go_roundw
            case rel => exact ⟨k + 1, _, by omega, by go_num, HB2⟩
            case measure => simp [intOf']; omega
          · have hk1 : k ≤ 60 := by omega
            have hcp := hB.out.copied (by omega)
            clear hB HB
            go_wp2_with (first
              | (go_at_call 18; refine hcp.mono ?_; rintro e w2 ⟨g2, rfl, hrc⟩)
              | (go_at_call 19; refine hrc.mono ?_; rintro e w3 ⟨r2, rfl, hQ⟩; have HQ := Lib.hid hQ; clear hQ hrc hcp)
              | (go_at_call 20; refine (HQ.out.comm (by omega)).mono ?_; rintro e w4 ⟨he4, hQ⟩; rw [decide_eq_true (Eq.refl ll)] at he4; subst he4; have HQ2 := Lib.hid hQ; clear hQ))
            obtain ⟨N, hN⟩ : ∃ N, N = k := ⟨_, rfl⟩
            rw [← hN] at HQ2
            clear HQ
            have hN1 : N ≤ 60 := by omega
            clear hN
            generalize hl0 : ll = l0 at HQ2
            clear hl0
            go_loopw [12] (fun i wr => ∃ (k : Nat) (la : List (Int × Int)), k ≤ m1 ∧ i = .int .i64 k ∧ Hid (Quad w g r g2 r2 (N + k) la l0 wr)) (fun i wr => m1 - (intOf' i).toNat)
            case atStart => exact ⟨0, _, Nat.zero_le _, rfl, HQ2⟩
            case round =>
              obtain ⟨k, ll, hk, rfl, hB⟩ := hrel
              by_cases hlt : k < m1
              · obtain ⟨a, b, off, hA, hb, hfit, c0, c1, c2⟩ := HC1.out k hlt
                subst hA
                have q4 := hB.out.chg
                have d0 := (q4.cell (p := ⟨b, off + k * 3, none⟩) hb (by simp)).trans c0
                have d1 := (q4.cell (p := ⟨b, off + k * 3 + 1, none⟩) hb (by simp)).trans c1
                have d2 := (q4.cell (p := ⟨b, off + k * 3 + 2, none⟩) hb (by simp)).trans c2
                have i0 : (0 : Int) ≤ (k : Int) := by omega
                have i1 : (k : Int) < (m1 : Int) := by omega
                have HD := hB.out.does (by omega) a.kind a.at_ hfit.i
                clear q4 c0 c1 c2 hB hfit
                obtain ⟨a1, a2, a3⟩ := a
                simp only at d0 d1 d2 HD
                go_wp2_with (first
                  | (go_at_call 10; refine HD.mono ?_; rintro e w4 ⟨rfl, hB2⟩; have HB2 := Lib.hid hB2; clear hB2))
                go_roundw
                case rel => exact ⟨k + 1, _, by omega, by go_num, (show N + (k + 1) = N + k + 1 by omega) ▸ HB2⟩
                case measure => simp [intOf']; omega
              · obtain ⟨k', hk'⟩ : ∃ k', k' = k := ⟨_, rfl⟩
                rw [← hk'] at hB
                have hk9 : k' ≤ 30 := by omega
                have HQ3 := Lib.hid hB.out.symm
                clear hB HQ2 hk'
                generalize ll = la at HQ3
                go_wp2
                go_loopw [13] (fun i wr => ∃ (q : Nat) (lb : List (Int × Int)), q ≤ m2 ∧ i = .int .i64 q ∧ Hid (Quad w g2 r2 g r (N + k' + q) lb la wr)) (fun i wr => m2 - (intOf' i).toNat)
                case atStart => exact ⟨0, _, Nat.zero_le _, rfl, HQ3⟩
                case round =>
                  obtain ⟨k, ll, hk, rfl, hB⟩ := hrel
                  by_cases hlt : k < m2
                  · obtain ⟨a, b, off, hA, hb, hfit, c0, c1, c2⟩ := HC2.out k hlt
                    subst hA
                    have q4 := hB.out.chg
                    have d0 := (q4.cell (p := ⟨b, off + k * 3, none⟩) hb (by simp)).trans c0
                    have d1 := (q4.cell (p := ⟨b, off + k * 3 + 1, none⟩) hb (by simp)).trans c1
                    have d2 := (q4.cell (p := ⟨b, off + k * 3 + 2, none⟩) hb (by simp)).trans c2
                    have i0 : (0 : Int) ≤ (k : Int) := by omega
                    have i1 : (k : Int) < (m2 : Int) := by omega
                    have HD := hB.out.does (by omega) a.kind a.at_ hfit.i
                    clear q4 c0 c1 c2 hB hfit
                    obtain ⟨a1, a2, a3⟩ := a
                    simp only at d0 d1 d2 HD
                    go_wp2_with (first
                      | (go_at_call 10; refine HD.mono ?_; rintro e w4 ⟨rfl, hB2⟩; have HB2 := Lib.hid hB2; clear hB2))
                    go_roundw
                    case rel => exact ⟨k + 1, _, by omega, by go_num, (show N + k' + (k + 1) = N + k' + k + 1 by omega) ▸ HB2⟩
                    case measure => simp [intOf']; omega
                  · have HQ4 := Lib.hid hB.out.symm
                    have hbig : N + k' + k ≤ 100000 := by omega
                    obtain ⟨VA, VB, ca, cb, ra, rb, na, nb, lra, lrb⟩ := HQ4.out.refs hbig
                    have HSm := Lib.hid (fun W (hW : Chg [] wr W) => rsame_any (ra.quiet hW) (rb.quiet hW) na nb)
                    have HKA := Lib.hid (fun (W : World) (hW : Chg [] wr W) => (⟨(hW.cell (p := ⟨r, 0, none⟩) lra (by simp)).trans ca, (hW.cell (p := ⟨r2, 0, none⟩) lrb (by simp)).trans cb⟩ : _ ∧ _))
                    have HQa := Lib.hid (fun W (h : Quad w g r g2 r2 (N + k' + k) la ll W) => h.alike hbig)
                    have HQc := Lib.hid (fun W (h : Quad w g r g2 r2 (N + k' + k) la ll W) => h.comm hbig)
                    obtain ⟨A5, c5, rfl, _⟩ := _root_.id ra
                    obtain ⟨A6, c6, rfl, _⟩ := _root_.id rb
                    obtain ⟨bq, hbq⟩ : ∃ b, b = decide (la = ll) := ⟨_, rfl⟩
                    rw [← hbq] at HSm HQa HQc
                    have bb : (bq == bq) = true := by simp
                    clear hB HQ3 ra rb na nb hbq
                    go_wp2
                    go_region_held3 (fun w' => w'.cell? ⟨r, 0, none⟩ = some (.slice A5 la.length c5) ∧ w'.cell? ⟨r2, 0, none⟩ = some (.slice A6 ll.length c6))
                      (first | go_keep)
                      (first
                        | (go_at_call 13; refine (HSm.out _ (Chg.refl _ _).drew).mono ?_; rintro e w5 ⟨rfl, hc5⟩; obtain ⟨e5, e6⟩ := HKA.out _ ((Chg.refl _ _).drew.then hc5); have HQ5 := Lib.hid (HQ4.out.quiet ((Chg.refl _ _).drew.then hc5)); clear hc5))
                    all_goals
                      go_wp2_with (first
                        | (go_at_call 11; ((with_reducible refine (HQ5.out.same1 hbig).mono ?_); rintro e w6 ⟨rfl, hQ⟩); have HQ6 := Lib.hid hQ; clear hQ)
                        | (go_at_call 11; ((with_reducible refine (HQ6.out.same2 hbig).mono ?_); rintro e w7 ⟨rfl, hQ⟩); have HQ7 := Lib.hid hQ; clear hQ)
                        | (go_at_call 20; ((with_reducible refine (HQa.out _ HQ7.out).mono ?_); rintro e w8 ⟨rfl, hQ⟩); have HQ8 := Lib.hid hQ; clear hQ)
                        | (go_at_call 20; ((with_reducible refine (HQc.out _ HQ8.out).mono ?_); rintro e w9 ⟨rfl, hQ⟩); have HQ9 := Lib.hid hQ; clear hQ)
                        | (go_at_call 8; refine (known_any _).mono ?_; rintro e w10 ⟨rfl, hc10⟩; have HC10 := Lib.hid hc10; clear hc10))
                      go_ret
                      exact ⟨rfl, HQ9.out.chg.then HC10.out⟩
end Go.Proofs
