import Derived.Test.YtfbelpbfmafjdaaAb
import Derived.Deep.Cut
namespace Go.Proofs
open Go.RowKit
set_option linter.unusedVariables false

theorem i64_eq {a b : Int} (h : a = b) : Value.int .i64 a = .int .i64 b := by rw [h]
set_option maxRecDepth 100000 in
set_option maxHeartbeats 6400000 in
theorem same_any {w : World} {g h : Nat} {S R : List Nat} {t : Tab Int} {r : RTab} (H : Two w g h S R t r) (hw : t.WF) (hs : Sim t r) :
    Calls Try.prog 14 #[.pointer (some ⟨g, 0, none⟩), .pointer (some ⟨h, 0, none⟩)] w fun e w' => e = .returned (.bool true) ∧ Chg [] w w' := by
  obtain ⟨n, hn⟩ : ∃ n, n = r.L.length := ⟨_, rfl⟩
  have hn4 := hs.len4 hw
  have hlen := hs.len
  have hwl := hw.len
  obtain ⟨e1, e2, e3⟩ := hs.counts hw
  obtain ⟨VL, hB, hL, hR⟩ := H.ref
  obtain ⟨A, c, rfl, _⟩ := hL.val
  have a0 := hB.cell 0
  have lh := hB.lt
  rw [← hn] at a0 hn4 e1 e2 e3 hlen
  have HL := Lib.hid hL
  have HN := Lib.hid hn
  have HE1 := Lib.hid e1
  have HE2 := Lib.hid e2
  have HE3 := Lib.hid e3
  have HLen := Lib.hid hlen
  have HWl := Lib.hid hwl
  clear hB hL hn e1 e2 e3 hR hlen hwl
  go_enter Try.func14, Try.ntmps14
  go_wp2
  go_loopw [5, 6, 7] (fun vt vr i wr => ∃ k : Nat, k ≤ n + 2 ∧ i = .int .i64 ((k : Int) - 1) ∧ vt = .int .i64 ((cT r (min (k - 1) n) : Nat) : Int) ∧ vr = .int .i64 ((cR r (min (k - 1) n) : Nat) : Int) ∧ Chg [] w wr) (fun _ _ i _ => (n + 2 - (intOf i + 1)).toNat)
  case atStart => exact ⟨0, by omega, rfl, rfl, rfl, Chg.refl _ _⟩
  case round =>
    obtain ⟨k, hk, rfl, rfl, rfl, hc⟩ := hrel
    have HC := Lib.hid hc
    have a0' := (hc.cell (p := ⟨h, 0, none⟩) lh (by simp)).trans a0
    have lh1 : h < wr.heap.size := by have := hc.size; omega
    have HQ := Lib.hid (H.quiet hc)
    clear hc
    rcases k with _ | j
    · have HA := fun w' h' => at_I (w := w') (g := g) (S := S) (t := t) h' hw (-1) (by decide) (by decide)
      obtain ⟨q1, q2, q3⟩ := live_out (t := t) (i := -1) (.inl (by decide))
      rw [q1, q2, q3] at HA
      rw [show (((0 : Nat) : Int) - 1) = -1 from rfl]
      have i1 : (-1 : Int) ≤ (n : Int) := by omega
      clear q1 q2 q3
      go_wp2_with (go_at_call 21; refine (HA _ HQ.out.tab).mono ?_; rintro e w1 ⟨rfl, hc1⟩; have a1 := (hc1.cell (p := ⟨h, 0, none⟩) lh1 (by simp)).trans a0'; have lh2 : h < w1.heap.size := (by have := hc1.size; omega); have HC1 := Lib.hid hc1; clear hc1)
      go_roundw
      case rel => exact ⟨1, by omega, rfl, rfl, rfl, HC.out.then (HC1.out.then ((Chg.refl _ _).alloc _))⟩
      case measure => simp [intOf]; omega
    · rw [show (((j + 1 : Nat) : Int) - 1) = (j : Int) by omega]
      rw [show j + 1 - 1 = j from rfl]
      by_cases hj : j < n
      · rw [show min j n = j by omega]
        obtain ⟨p, hp⟩ : ∃ p, r.L[j]? = some p := ⟨_, List.getElem?_eq_getElem (by rw [← HN.out]; exact hj)⟩
        obtain ⟨gl, cl, hv2, hcl, lg, _, b0, b1, b2, b3, b4, _⟩ := ref_spot HL.out hp
        simp only [Value.slice.injEq] at hv2
        obtain ⟨rfl, _, _⟩ := hv2
        have j0 : (0 : Int) ≤ (j : Int) := by omega
        have j1 : (j : Int) < (n : Int) := by omega
        have j2 : (j : Int) ≤ (n : Int) := by omega
        have j3 : ((j : Int) == (n : Int)) = false := by simp; omega
        have lg1 : gl < wr.heap.size := by have := HC.out.size; omega
        have d0 := (HC.out.cell (p := ⟨gl, j * 5, none⟩) lg (by simp)).trans b0
        have d1 := (HC.out.cell (p := ⟨gl, j * 5 + 1, none⟩) lg (by simp)).trans b1
        have d2 := (HC.out.cell (p := ⟨gl, j * 5 + 2, none⟩) lg (by simp)).trans b2
        have d3 := (HC.out.cell (p := ⟨gl, j * 5 + 3, none⟩) lg (by simp)).trans b3
        have HA := fun w' h' => at_I (w := w') (g := g) (S := S) (t := t) h' hw (j : Nat) (by omega) (by omega)
        obtain ⟨y1, y2⟩ := hs.live hw hp
        have eT := cT_succ hp
        have eR := cR_succ hp
        have lT := cT_le r j
        have lR := cR_le r j
        have hex := hs.excl hw j p hp
        have ET := Lib.hid eT
        have ER := Lib.hid eR
        obtain ⟨G, hG⟩ : ∃ G, G = p.gen := ⟨_, rfl⟩
        obtain ⟨X, hX⟩ : ∃ X, X = p.x := ⟨_, rfl⟩
        rw [← hG] at d0 y1 b0
        rw [← hX] at d3 y1 b3
        clear b4 eT eR hG hX
        have b0' := b0
        have b1' := b1
        have b2' := b2
        have b3' := b3
        clear b0 b1 b2 b3
        cases ht : p.there with
        | true =>
          obtain ⟨q1, q2, q3, q4, q5⟩ := y1 ht
          have hre := hex ht
          rw [q1, q2, q3] at HA
          have HG := fun w' h' => get_any (w := w') (g := g) (S := S) (t := t) h' hw (j : Nat) G (by omega) (by omega)
          rw [q4, q5] at HG
          rw [ht] at d1 ET b1'
          rw [hre] at d2 ER b2'
          have e0 := Lib.hid b0'
          have e1 := Lib.hid b1'
          have e2 := Lib.hid b2'
          have e3 := Lib.hid b3'
          clear y1 y2 hp hex ht hre q1 q2 q3 q4 q5 b0' b1' b2' b3'
          go_wp2_with (first
            | (go_at_call 21; refine (HA _ HQ.out.tab).mono ?_; rintro e w1 ⟨rfl, hc1⟩; have a1 := (hc1.cell (p := ⟨h, 0, none⟩) lh1 (by simp)).trans a0'; have d11 := (hc1.cell (p := ⟨gl, j * 5 + 1, none⟩) lg1 (by simp)).trans d1; have lh2 : h < w1.heap.size := (by have := hc1.size; omega); have lg2 : gl < w1.heap.size := (by have := hc1.size; omega); have HC1 := Lib.hid (HC.out.then (hc1.then ((Chg.refl _ _).alloc (.cells #[.int .i64 (j : Nat), .int .u64 G] 36)))); clear hc1)
            | (go_at_call 17; refine (HG _ (H.tab.quiet HC1.out)).mono ?_; rintro e w2 ⟨rfl, hc2⟩; have b8 := (Blk.new w1 36 #[.int .i64 (j : Nat), .int .u64 G]).chg hc2 (by simp); have k8 := b8.cell 0; have k9 := b8.cell 1; have HC2 := Lib.hid (HC1.out.then hc2); clear hc2 b8))
          have g2 : w2.cell? ⟨h, 0, none⟩ = some (.slice (some ⟨gl, 0, none⟩) n c) := (HC2.out.cell (p := ⟨h, 0, none⟩) lh (by simp)).trans a0
          have d20 := (HC2.out.cell (p := ⟨gl, j * 5, none⟩) lg (by simp)).trans (e0.out)
          have d21 := (HC2.out.cell (p := ⟨gl, j * 5 + 1, none⟩) lg (by simp)).trans (e1.out)
          have d22 := (HC2.out.cell (p := ⟨gl, j * 5 + 2, none⟩) lg (by simp)).trans (e2.out)
          have d23 := (HC2.out.cell (p := ⟨gl, j * 5 + 3, none⟩) lg (by simp)).trans (e3.out)
          go_quiet (fail)
          go_wp2
          go_roundw
          case rel => exact ⟨j + 2, by omega, i64_eq (by omega), by rw [show min (j + 2 - 1) n = j + 1 by omega, ET.out]; exact i64_eq (by simp), by rw [show min (j + 2 - 1) n = j + 1 by omega, ER.out]; exact i64_eq (by simp), HC2.out.drewN _⟩
          case measure => simp [intOf]; omega
        | false =>
          obtain ⟨q1, q2, q3⟩ := y2 ht
          rw [q1, q2, q3] at HA
          rw [ht] at d1 ET
          have e1 := Lib.hid (ht ▸ b1')
          have e2 := Lib.hid b2'
          cases hre : p.retired with
          | true =>
            rw [hre] at d2 ER e2
            clear y1 y2 hp hex ht hre q1 q2 q3 b0' b1' b2' b3' d0 d3
            go_wp2_with (go_at_call 21; refine (HA _ HQ.out.tab).mono ?_; rintro e w1 ⟨rfl, hc1⟩; have a1 := (hc1.cell (p := ⟨h, 0, none⟩) lh1 (by simp)).trans a0'; have d11 := (hc1.cell (p := ⟨gl, j * 5 + 1, none⟩) lg1 (by simp)).trans d1; have d12 := (hc1.cell (p := ⟨gl, j * 5 + 2, none⟩) lg1 (by simp)).trans d2; have lh2 : h < w1.heap.size := (by have := hc1.size; omega); have lg2 : gl < w1.heap.size := (by have := hc1.size; omega); have HC1 := Lib.hid (HC.out.then (hc1.then ((Chg.refl _ _).alloc (.cells #[.int .i64 0, .int .u64 0] 36)))); clear hc1)
            go_roundw
            case rel => exact ⟨j + 2, by omega, i64_eq (by omega), by rw [show min (j + 2 - 1) n = j + 1 by omega, ET.out]; exact i64_eq (by simp), by rw [show min (j + 2 - 1) n = j + 1 by omega, ER.out]; exact i64_eq (by simp), HC1.out⟩
            case measure => simp [intOf]; omega
          | false =>
            rw [hre] at d2 ER e2
            clear y1 y2 hp hex ht hre q1 q2 q3 b0' b1' b2' b3' d0 d3
            go_wp2_with (go_at_call 21; refine (HA _ HQ.out.tab).mono ?_; rintro e w1 ⟨rfl, hc1⟩; have a1 := (hc1.cell (p := ⟨h, 0, none⟩) lh1 (by simp)).trans a0'; have d11 := (hc1.cell (p := ⟨gl, j * 5 + 1, none⟩) lg1 (by simp)).trans d1; have d12 := (hc1.cell (p := ⟨gl, j * 5 + 2, none⟩) lg1 (by simp)).trans d2; have lh2 : h < w1.heap.size := (by have := hc1.size; omega); have lg2 : gl < w1.heap.size := (by have := hc1.size; omega); have HC1 := Lib.hid (HC.out.then (hc1.then ((Chg.refl _ _).alloc (.cells #[.int .i64 0, .int .u64 0] 36)))); clear hc1)
            go_roundw
            case rel => exact ⟨j + 2, by omega, i64_eq (by omega), by rw [show min (j + 2 - 1) n = j + 1 by omega, ET.out]; exact i64_eq (by simp), by rw [show min (j + 2 - 1) n = j + 1 by omega, ER.out]; exact i64_eq (by simp), HC1.out⟩
            case measure => simp [intOf]; omega
      · rw [show min j n = n by omega]
        by_cases hj2 : j = n
        · subst hj2
          have HA := fun w' h' => at_I (w := w') (g := g) (S := S) (t := t) h' hw (j : Nat) (by omega) (by omega)
          obtain ⟨q1, q2, q3⟩ := live_out (t := t) (i := (j : Nat)) (.inr (by have := HLen.out; have := HWl.out; omega))
          rw [q1, q2, q3] at HA
          clear q1 q2 q3
          have j0 : (0 : Int) ≤ (j : Int) := by omega
          go_wp2_with (go_at_call 21; refine (HA _ HQ.out.tab).mono ?_; rintro e w1 ⟨rfl, hc1⟩; have a1 := (hc1.cell (p := ⟨h, 0, none⟩) lh1 (by simp)).trans a0'; have lh2 : h < w1.heap.size := (by have := hc1.size; omega); have HC1 := Lib.hid (HC.out.then (hc1.then ((Chg.refl _ _).alloc (.cells #[.int .i64 0, .int .u64 0] 36)))); clear hc1)
          go_roundw
          case rel => exact ⟨j + 2, by omega, i64_eq (by omega), by rw [show min (j + 2 - 1) j = j by omega], by rw [show min (j + 2 - 1) j = j by omega], HC1.out⟩
          case measure => simp [intOf]; omega
        · have hj3 : j = n + 1 := by omega
          subst hj3
          have e5 : ¬ ((n + 1 : Nat) : Int) ≤ (n : Int) := by omega
          have HLn := fun w' h' => (len_I (w := w') (g := g) (S := S) (t := t) h' hw).mono (R' := fun e w'' => e = .returned (.int .i64 ((cT r n : Nat) : Int)) ∧ Chg [] w' w'') (fun e w'' ⟨h1, nq, h2⟩ => ⟨by rw [h1, HE3.out], by rw [h2]; exact (Chg.refl _ _).drewN _⟩)
          have HSz := fun w' h' => (size_I (w := w') (g := g) (S := S) (t := t) h').mono (R' := fun e w'' => e = .returned (.int .i64 (n : Nat)) ∧ Chg [] w' w'') (fun e w'' ⟨h1, h2⟩ => ⟨by rw [h1, HLen.out], by rw [h2]; exact Chg.refl _ _⟩)
          have HFr := fun w' h' => (free_I (w := w') (g := g) (S := S) (t := t) h' hw).mono (R' := fun e w'' => e = .returned (.int .i64 (r.frees.length : Nat)) ∧ Chg [] w' w'') (fun e w'' ⟨h1, nq, h2⟩ => ⟨by rw [h1, hs.frees_len hw], by rw [h2]; exact (Chg.refl _ _).drewN _⟩)
          have HRe := fun w' h' => (retired_I (w := w') (g := g) (S := S) (t := t) h').mono (R' := fun e w'' => e = .returned (.int .i64 ((cR r n : Nat) : Int)) ∧ Chg [] w' w'') (fun e w'' ⟨h1, h2⟩ => ⟨by rw [h1, HE2.out], by rw [h2]; exact Chg.refl _ _⟩)
          have HRF := fun w' h' => (rfree_any (w := w') (h := h) (S := R) (r := r) h' (by rw [← HN.out]; exact hn4)).mono (R' := fun e w'' => ∃ A c, e = .returned (.slice A r.frees.length c) ∧ Chg [] w' w'') (fun e w'' ⟨A, c, h1, _, _, h4⟩ => ⟨A, c, h1, h4⟩)
          have hsum := HE1.out
          obtain ⟨C, hC⟩ : ∃ C, C = cT r n := ⟨_, rfl⟩
          obtain ⟨D, hD⟩ : ∃ D, D = cR r n := ⟨_, rfl⟩
          obtain ⟨F, hF⟩ : ∃ F, F = r.frees.length := ⟨_, rfl⟩
          rw [← hC] at HLn hsum ⊢
          rw [← hD] at HRe hsum ⊢
          rw [← hF] at HFr hsum
          simp only [← hF] at HRF
          have s3 : ((C : Int) + (F : Int) + (D : Int) == (n : Int)) = true := by simp; omega
          have s0 : (C : Int) + F + D ≤ 4096 := by omega
          have hdec : decide (((n : Int) + 1) ≤ (n : Int)) = false := by simp; omega
          clear hC hD hF hsum
          go_wp2
          have HCC := Lib.hid HC.out.drew
          go_region_held3 (fun w' => w'.cell? ⟨h, 0, none⟩ = some (.slice A n c))
            (first | go_keep)
            (first
              | (go_at_call 25; refine (HLn _ (H.tab.quiet HCC.out)).mono ?_; rintro e w1 ⟨rfl, hcx⟩; have HCC := Lib.hid (HCC.out.then hcx); have a9 : w1.cell? ⟨h, 0, none⟩ = some (.slice A n c) := (HCC.out.cell (p := ⟨h, 0, none⟩) lh (by simp)).trans a0; clear hcx)
              | (go_at_call 27; refine (HSz _ (H.tab.quiet HCC.out)).mono ?_; rintro e w1 ⟨rfl, hcx⟩; have HCC := Lib.hid (HCC.out.then hcx); have a9 : w1.cell? ⟨h, 0, none⟩ = some (.slice A n c) := (HCC.out.cell (p := ⟨h, 0, none⟩) lh (by simp)).trans a0; clear hcx)
              | (go_at_call 26; refine (HFr _ (H.tab.quiet HCC.out)).mono ?_; rintro e w1 ⟨rfl, hcx⟩; have HCC := Lib.hid (HCC.out.then hcx); have a9 : w1.cell? ⟨h, 0, none⟩ = some (.slice A n c) := (HCC.out.cell (p := ⟨h, 0, none⟩) lh (by simp)).trans a0; clear hcx)
              | (go_at_call 24; refine (HRe _ (H.tab.quiet HCC.out)).mono ?_; rintro e w1 ⟨rfl, hcx⟩; have HCC := Lib.hid (HCC.out.then hcx); have a9 : w1.cell? ⟨h, 0, none⟩ = some (.slice A n c) := (HCC.out.cell (p := ⟨h, 0, none⟩) lh (by simp)).trans a0; clear hcx)
              | (go_at_call 32; refine (HRF _ (H.ref.quiet HCC.out)).mono ?_; rintro e w1 ⟨A8, c8, rfl, hcx⟩; have HCC := Lib.hid (HCC.out.then hcx); have a9 : w1.cell? ⟨h, 0, none⟩ = some (.slice A n c) := (HCC.out.cell (p := ⟨h, 0, none⟩) lh (by simp)).trans a0; clear hcx))
          have HSum := Lib.hid s3
          all_goals
            go_wp2
            go_ret
            refine ⟨?_, HCC.out⟩
            show Ending.returned (.bool (IntKind.i64.wrap (IntKind.i64.wrap ((C : Int) + F) + D) == (n : Int))) = _
            rw [IntWalk.i64_in ((C : Int) + F) (by omega), IntWalk.i64_in ((C : Int) + F + D) (by omega), HSum.out]
end Go.Proofs
