import Derived.Test.YtelkndhifkmpiaaHg
namespace Go.Proofs
open Go.RowKit
set_option linter.unusedVariables false

set_option maxRecDepth 100000 in
set_option maxHeartbeats 40000000 in
theorem drains_any (V : Value) (now : Int) (l : List ActV) (w : World) (hV : Acts w V l) :
    Calls Try.prog 4 #[V, .int .u64 now] w fun e w' => e = .returned (.bool true) ∧ Chg [] w w' := by
  obtain ⟨A, c, rfl, hcell⟩ := hV
  have HCell := Lib.hid hcell
  obtain ⟨m, hmm⟩ : ∃ m, m = l.length := ⟨_, rfl⟩
  rw [← hmm]
  have HL := Lib.hid hmm
  clear hcell hmm
  by_cases hlen : 150 < m
  · have d : (150 : Int) < (m : Int) := by omega
    go_enter Try.func4, Try.ntmps4
    go_wp2_with (go_at_call 8; refine (known_any _).mono ?_; rintro e w1 ⟨rfl, hc⟩)
    go_ret
    exact ⟨rfl, hc⟩
  · have d : ¬ ((150 : Int) < (m : Int)) := by omega
    obtain ⟨g, hg⟩ : ∃ g, g = w.heap.size := ⟨_, rfl⟩
    obtain ⟨r, hr⟩ : ∃ r, r = w.heap.size + 1 := ⟨_, rfl⟩
    have HB := Lib.hid (Between.new w)
    rw [← hr, ← hg] at HB
    have HNw := fun W => new_any W
    go_enter Try.func4, Try.ntmps4
    go_wp2_with (first
      | (go_at_call 9; refine (HNw _).mono ?_; rintro e w1 ⟨rfl, rfl⟩))
    rw [← hr, ← hg]
    have hgr := Lib.hid (show g = w.heap.size ∧ r = w.heap.size + 1 from ⟨hg, hr⟩)
    generalize (w.alloc (.cells #[.slice none 0 0, .map none, .int .u64 0] 55)).alloc (.cells #[.slice none 0 0] 29) = W0 at *
    clear hg hr
    go_loopw [7] (fun i wr => ∃ (k : Nat) (ll : List (Int × Int)), k ≤ m ∧ i = .int .i64 k ∧ Hid (Between w g r k ll wr)) (fun i wr => m - (intOf' i).toNat)
    case atStart => exact ⟨0, _, Nat.zero_le _, rfl, HB⟩
    case round =>
      obtain ⟨k, ll, hk, rfl, hB⟩ := hrel
      by_cases hlt : k < m
      · obtain ⟨a, ha⟩ : ∃ a, l[k]? = some a := ⟨_, List.getElem?_eq_getElem (by rw [← HL.out]; exact hlt)⟩
        obtain ⟨b, off, rfl, hb, hfit, c0, c1, c2⟩ := HCell.out k a ha
        have q4 := hB.out.chg
        have d0 := (q4.cell (p := ⟨b, off + k * 3, none⟩) hb (by simp)).trans c0
        have d1 := (q4.cell (p := ⟨b, off + k * 3 + 1, none⟩) hb (by simp)).trans c1
        have d2 := (q4.cell (p := ⟨b, off + k * 3 + 2, none⟩) hb (by simp)).trans c2
        have i0 : (0 : Int) ≤ (k : Int) := by omega
        have i1 : (k : Int) < (m : Int) := by omega
        have HD := hB.out.does (by omega) a.kind a.at_ hfit.i
        clear q4 c0 c1 c2 ha hB hfit HB
        obtain ⟨a1, a2, a3⟩ := a
        simp only at d0 d1 d2 HD
        go_wp2_with (first
          | (go_at_call 10; refine HD.mono ?_; rintro e w4 ⟨rfl, hB2⟩; have HB2 := Lib.hid hB2; clear hB2))
        go_roundw
        case rel => exact ⟨k + 1, _, by omega, by go_num, HB2⟩
        case measure => simp [intOf']; omega
      · have hk1 : k ≤ 150 := by omega
        obtain ⟨VR, cr, hids, hll, hall⟩ := Dr.start hB.out (by omega)
        have HIds := Lib.hid hids
        obtain ⟨n, hn⟩ : ∃ n, n = ll.length := ⟨_, rfl⟩
        rw [← hn] at hll
        have HM := Lib.hid hn
        obtain ⟨N, hN⟩ : ∃ N, N = k := ⟨_, rfl⟩
        rw [← hN] at hll hall hk1
        have hn1 : n ≤ 150 := by omega
        obtain rfl : k = m := by omega
        clear hN hn hB HB hids
        go_wp2_with (first
          | (go_at_call 12; refine hall.mono ?_; rintro e w2 ⟨v, rfl, hD⟩; obtain ⟨A1, c1, rfl, _⟩ := _root_.id hD.rs; obtain ⟨A2, c2, rfl, _⟩ := _root_.id hD.rrs; have f0 : w2.cell? ⟨r, 0, none⟩ = some (.slice A2 ll.length c2) := hD.blk.cell 0; have HD2 := Lib.hid hD; clear hD)
          | (go_at_call 13; refine (rsame_any HD2.out.rs HD2.out.rrs (by rw [← HM.out]; omega) (by rw [← HM.out]; omega)).mono ?_; rintro e w3 ⟨he3, hc3⟩; rw [decide_eq_true (Eq.refl ll)] at he3; subst he3; have HD3 := Lib.hid (HD2.out.quiet hc3); clear hc3))
        rw [← HM.out] at HD3 ⊢
        clear HD2 f0 cr
        go_loopw [9] (fun i wr => ∃ j : Nat, j ≤ n ∧ i = .int .i64 j ∧ Hid (Dr w g r N (.slice A2 n c2) (.slice A1 n c1) ll j wr)) (fun i wr => n - (intOf' i).toNat)
        case atStart => exact ⟨0, Nat.zero_le _, rfl, HD3⟩
        case round =>
          clear hlt
          obtain ⟨k, hk, rfl, hB⟩ := hrel
          have i0 : (0 : Int) ≤ (k : Int) := by omega
          by_cases hlt : k < n
          · have i1 : (k : Int) < (n : Int) := by omega
            obtain ⟨x, hx⟩ : ∃ x, ll[k]? = some x := ⟨_, List.getElem?_eq_getElem (by rw [← HM.out]; exact hlt)⟩
            obtain ⟨b, o, rfl, lb, p0, p1⟩ := (HM.out ▸ hB.out.rs : Rs wr 39 2 (.slice A1 n c1) n (nms ll)).nm k x hx
            by_cases hle : x.1 ≤ now
            · obtain ⟨hpop, hno⟩ := hB.out.pop (by omega) now hx hle
              have hxi : I64 x.2 := HIds.out x (List.mem_of_getElem? hx)
              have HP1 := Lib.hid (fun W (h : Dr w g r N (.slice A2 n c2) (.slice (some ⟨b, o, none⟩) n c1) ll (k + 1) W) => (HM.out ▸ h.rs : Rs W 39 2 (.slice (some ⟨b, o, none⟩) n c1) n (nms ll)).nm k x hx)
              have HHas := Lib.hid (fun W (h : Dr w g r N (.slice A2 n c2) (.slice (some ⟨b, o, none⟩) n c1) ll (k + 1) W) => h.has hxi)
              rw [hno] at HHas
              obtain ⟨xa, xi⟩ := x
              simp only at p0 p1 hle hpop HP1 HHas
              have xx : (xi != xi) = false := by simp
              clear hx hB hno
              go_wp2_with (first
                | (go_at_call 14; refine hpop.mono ?_; rintro e w4 ⟨rfl, hD⟩; have HD4 := Lib.hid hD; obtain ⟨b', o', hbo, _, _, p2⟩ := HP1.out _ hD; cases hbo; clear hD)
                | (go_at_call 15; refine (HHas.out _ HD4.out).mono ?_; rintro e w' ⟨rfl, rfl⟩))
              go_roundw
              case rel => exact ⟨k + 1, by omega, by go_num, HD4⟩
              case measure => simp [intOf']; omega
            · have hst := hB.out.stay (by omega) now (fun y hy => by rw [hx] at hy; cases hy; exact hle)
              obtain ⟨xa, xi⟩ := x
              simp only at p0 p1 hle
              obtain ⟨b2, o2, rfl⟩ : ∃ b2 o2, A2 = some ⟨b2, o2, none⟩ := by
                obtain ⟨b2, o2, h, _⟩ := (HM.out ▸ hB.out.rrs : Rs wr 39 2 (.slice A2 n c2) n (nms ll)).nm k _ hx
                exact ⟨b2, o2, h⟩
              have hc2 : n ≤ c2 := by
                obtain ⟨A', c', hv, h1, _⟩ := hB.out.rrs
                rw [← HM.out] at h1
                injection hv with _ _ hv; omega
              have hne : c2 ≠ k := by omega
              have hne2 : ¬ (c2 - k = 0) := by omega
              have i3 : (k : Int) ≤ (n : Int) := by omega
              have i6 : (k : Int) ≤ (c2 : Int) := by omega
              clear hx hB
              go_wp2_with (first
                | (go_at_call 14; refine hst.mono ?_; rintro e w5 ⟨rfl, hD⟩; have HD5 := Lib.hid hD; clear hD))
              have HR3 := fun {W : World} (h : Rs W 39 2 (.slice (some ⟨b2, o2, none⟩) n c2) ll.length (nms ll)) => Rs.rest (HM.out ▸ h : Rs W 39 2 (.slice (some ⟨b2, o2, none⟩) n c2) n (nms ll)) (i := k) (by omega)
              have e5 : w5.cell? ⟨r, 0, none⟩ = some (.slice (some ⟨b2, o2, none⟩) n c2) := HD5.out.blk.cell 0
              have HLe := Lib.hid (fun W (hW : Chg [] w5 W) => (HD5.out.quiet hW).len)
              have HTe := Lib.hid (HD5.out.tells (by omega))
              have HC5 := Lib.hid HD5.out.chg
              have lr5 := HD5.out.blk.lt
              have HS3 := Lib.hid (HR3 HD5.out.rrs)
              rw [List.length_drop, ← HM.out] at HLe
              have HSm := Lib.hid (fun W v1 v2 (h1 : Rs W 39 2 v1 (ll.drop k).length (nms (ll.drop k))) (h2 : Rs W 39 2 v2 (n - k) (nms (ll.drop k))) => (rsame_any (w := W) (v1 := v1) (v2 := v2) h1 (h2.nlen ▸ h2) (by rw [List.length_drop, ← HM.out]; omega) (by rw [List.length_drop, ← HM.out]; omega) : Calls Try.prog 13 #[v1, v2] W fun e w' => e = .returned (.bool (decide (ll.drop k = ll.drop k))) ∧ Chg [] W w'))
              rw [decide_eq_true (Eq.refl _)] at HSm
              obtain ⟨q, hq⟩ : ∃ q, q = n - k := ⟨_, rfl⟩
              have i4 : (n : Int) - (k : Int) = (q : Int) := by omega
              have i5 : n - k = q := hq.symm
              rw [← hq] at HLe HSm HS3
              have qq : ((q : Int) == (q : Int)) = true := by simp
              have hwr : IntKind.i64.wrap (q : Int) = (q : Int) := by simp [IntKind.wrap, IntKind.bits, IntKind.signed]; omega
              have hwr0 : IntKind.i64.wrap (0 : Int) = 0 := by decide
              clear HD5 hq
              (go_region_held3 (fun w' => w'.cell? ⟨r, 0, none⟩ = some (.slice (some ⟨b2, o2, none⟩) n c2))
                (first | go_keep)
                (first
                  | (go_at_call 16; refine (HLe.out _ (Chg.refl _ _).drew).mono ?_; rintro e w' ⟨rfl, rfl⟩)
                  | (go_at_call 12; refine (HTe.out _ (Chg.refl _ _).drew).mono ?_; rintro e w6 ⟨v6, rfl, hf6⟩; have e6 := (hf6.2.2.cell (p := ⟨r, 0, none⟩) lr5 (by simp)).trans e5; have HF6 := Lib.hid hf6; clear hf6)
                  | (go_at_call 13; refine (HSm.out _ _ _ HF6.out.rs (HS3.out.quiet ((Chg.refl _ _).drew.then HF6.out.2.2))).mono ?_; rintro e w7 ⟨rfl, hc7⟩; have e7 := (hc7.cell (p := ⟨r, 0, none⟩) (Nat.lt_of_lt_of_le lr5 HF6.out.2.2.size) (by simp)).trans e6; have HC7 := Lib.hid hc7; clear hc7)
                  | (go_at_call 8; refine (known_any _).mono ?_; rintro e w8 ⟨rfl, hc8⟩; have e8 := (hc8.cell (p := ⟨r, 0, none⟩) (Nat.lt_of_lt_of_le (Nat.lt_of_lt_of_le lr5 HF6.out.2.2.size) HC7.out.size) (by simp)).trans e7; have HC8 := Lib.hid hc8; clear hc8)))
              all_goals
                go_wp2
                go_ret
                exact ⟨rfl, (((HC5.out.drew).then HF6.out.2.2).then HC7.out).then HC8.out⟩
          · obtain rfl : k = n := by omega
            have hst := hB.out.stay (by omega) now (fun y hy => by have := (List.getElem?_eq_some_iff.1 hy).1; rw [← HM.out] at this; omega)
            have i1 : ¬ ((k : Int) < (k : Int)) := by omega
            have hrrs : Rs wr 39 2 (.slice A2 k c2) k (nms ll) := HM.out ▸ hB.out.rrs
            have hdr := Lib.hid (show ll.drop k = [] by rw [HM.out]; exact List.drop_length)
            have hz0 : k - k = 0 := by omega
            clear hB
            cases A2 with
            | none =>
              obtain ⟨A', c', hv, h1, _, _, h2, _⟩ := hrrs
              injection hv with hv1 _ hv3
              have h3 := h2 hv1.symm
              obtain rfl : c2 = 0 := by omega
              obtain rfl : k = 0 := by omega
              clear hv1 hv3 h1 h2 h3
              go_wp2_with (first
                | (go_at_call 14; refine hst.mono ?_; rintro e w5 ⟨rfl, hD⟩; have HD5 := Lib.hid hD; clear hD))
              have HR3 := fun {W : World} (h : Rs W 39 2 (.slice none 0 0) ll.length (nms ll)) => (show Rs W 39 2 (.slice none 0 0) (0 - 0) (nms (ll.drop 0)) by rw [hdr.out]; exact Rs.nil _ _ _)
              obtain ⟨n, hnn⟩ : ∃ n, n = 0 := ⟨_, rfl⟩
              subst hnn
              have e5 : w5.cell? ⟨r, 0, none⟩ = some (.slice none 0 0) := HD5.out.blk.cell 0
              have HLe := Lib.hid (fun W (hW : Chg [] w5 W) => (HD5.out.quiet hW).len)
              have HTe := Lib.hid (HD5.out.tells (by omega))
              have HC5 := Lib.hid HD5.out.chg
              have lr5 := HD5.out.blk.lt
              have HS3 := Lib.hid (HR3 HD5.out.rrs)
              rw [List.length_drop, ← HM.out] at HLe
              have HSm := Lib.hid (fun W v1 v2 (h1 : Rs W 39 2 v1 (ll.drop 0).length (nms (ll.drop 0))) (h2 : Rs W 39 2 v2 (0 - 0) (nms (ll.drop 0))) => (rsame_any (w := W) (v1 := v1) (v2 := v2) h1 (h2.nlen ▸ h2) (by rw [List.length_drop, ← HM.out]; omega) (by rw [List.length_drop, ← HM.out]; omega) : Calls Try.prog 13 #[v1, v2] W fun e w' => e = .returned (.bool (decide (ll.drop 0 = ll.drop 0))) ∧ Chg [] W w'))
              rw [decide_eq_true (Eq.refl _)] at HSm
              simp only [Nat.sub_self] at HLe HSm HS3
              have HLe := Lib.hid (show ∀ W, Chg [] w5 W → Calls Try.prog 16 #[.pointer (some ⟨g, 0, none⟩)] W (fun e w1 => e = .returned (.int .i64 0) ∧ W = w1) from fun W hW => by have := HLe.out W hW; simpa using this)
              have hwr0 : IntKind.i64.wrap (0 : Int) = 0 := by decide
              clear HD5
              (go_region_held3 (fun w' => w'.cell? ⟨r, 0, none⟩ = some (.slice none 0 0))
                (first | go_keep)
                (first
                  | (go_at_call 16; refine (HLe.out _ (Chg.refl _ _).drew).mono ?_; rintro e w' ⟨rfl, rfl⟩)
                  | (go_at_call 12; refine (HTe.out _ (Chg.refl _ _).drew).mono ?_; rintro e w6 ⟨v6, rfl, hf6⟩; have e6 := (hf6.2.2.cell (p := ⟨r, 0, none⟩) lr5 (by simp)).trans e5; have HF6 := Lib.hid hf6; clear hf6)
                  | (go_at_call 13; refine (HSm.out _ _ _ HF6.out.rs (HS3.out.quiet ((Chg.refl _ _).drew.then HF6.out.2.2))).mono ?_; rintro e w7 ⟨rfl, hc7⟩; have e7 := (hc7.cell (p := ⟨r, 0, none⟩) (Nat.lt_of_lt_of_le lr5 HF6.out.2.2.size) (by simp)).trans e6; have HC7 := Lib.hid hc7; clear hc7)
                  | (go_at_call 8; refine (known_any _).mono ?_; rintro e w8 ⟨rfl, hc8⟩; have e8 := (hc8.cell (p := ⟨r, 0, none⟩) (Nat.lt_of_lt_of_le (Nat.lt_of_lt_of_le lr5 HF6.out.2.2.size) HC7.out.size) (by simp)).trans e7; have HC8 := Lib.hid hc8; clear hc8)))
              all_goals
                go_wp2
                go_ret
                exact ⟨rfl, (((HC5.out.drew).then HF6.out.2.2).then HC7.out).then HC8.out⟩
            | some a =>
              obtain ⟨b2, o2, rfl⟩ : ∃ b o, a = ⟨b, o, none⟩ := by
                obtain ⟨A', c', hv, _, _, _, _, h4⟩ := hrrs
                injection hv with hv
                obtain ⟨b, o, _, h5, _⟩ := h4 a hv.symm
                exact ⟨b, o, h5⟩
              have hc2 : k ≤ c2 := by
                obtain ⟨A', c', hv, h1, _⟩ := hrrs
                injection hv with _ _ hv; omega
              have i3 : (k : Int) ≤ (k : Int) := by omega
              have i6 : (k : Int) ≤ (c2 : Int) := by omega
              clear hrrs
              by_cases hck : c2 = k
              · subst hck
                go_wp2_with (first
                  | (go_at_call 14; refine hst.mono ?_; rintro e w5 ⟨rfl, hD⟩; have HD5 := Lib.hid hD; clear hD))
                have HR3 := fun {W : World} (h : Rs W 39 2 (.slice (some ⟨b2, o2, none⟩) c2 c2) ll.length (nms ll)) => (show Rs W 39 2 (.slice (some ⟨b2, o2, none⟩) 0 0) (c2 - c2) (nms (ll.drop c2)) by
                  rw [hdr.out, Nat.sub_self]; exact Rs.none_ (HM.out ▸ h : Rs W 39 2 (.slice (some ⟨b2, o2, none⟩) c2 c2) c2 (nms ll)))
                have e5 : w5.cell? ⟨r, 0, none⟩ = some (.slice (some ⟨b2, o2, none⟩) c2 c2) := HD5.out.blk.cell 0
                have HLe := Lib.hid (fun W (hW : Chg [] w5 W) => (HD5.out.quiet hW).len)
                have HTe := Lib.hid (HD5.out.tells (by omega))
                have HC5 := Lib.hid HD5.out.chg
                have lr5 := HD5.out.blk.lt
                have HS3 := Lib.hid (HR3 HD5.out.rrs)
                rw [List.length_drop, ← HM.out] at HLe
                have HSm := Lib.hid (fun W v1 v2 (h1 : Rs W 39 2 v1 (ll.drop c2).length (nms (ll.drop c2))) (h2 : Rs W 39 2 v2 (c2 - c2) (nms (ll.drop c2))) => (rsame_any (w := W) (v1 := v1) (v2 := v2) h1 (h2.nlen ▸ h2) (by rw [List.length_drop, ← HM.out]; omega) (by rw [List.length_drop, ← HM.out]; omega) : Calls Try.prog 13 #[v1, v2] W fun e w' => e = .returned (.bool (decide (ll.drop c2 = ll.drop c2))) ∧ Chg [] W w'))
                rw [decide_eq_true (Eq.refl _)] at HSm
                simp only [Nat.sub_self] at HLe HSm HS3
                have HLe := Lib.hid (show ∀ W, Chg [] w5 W → Calls Try.prog 16 #[.pointer (some ⟨g, 0, none⟩)] W (fun e w1 => e = .returned (.int .i64 0) ∧ W = w1) from fun W hW => by have := HLe.out W hW; simpa using this)
                have hwr0 : IntKind.i64.wrap (0 : Int) = 0 := by decide
                clear HD5
                (go_region_held3 (fun w' => w'.cell? ⟨r, 0, none⟩ = some (.slice (some ⟨b2, o2, none⟩) c2 c2))
                  (first | go_keep)
                  (first
                    | (go_at_call 16; refine (HLe.out _ (Chg.refl _ _).drew).mono ?_; rintro e w' ⟨rfl, rfl⟩)
                    | (go_at_call 12; refine (HTe.out _ (Chg.refl _ _).drew).mono ?_; rintro e w6 ⟨v6, rfl, hf6⟩; have e6 := (hf6.2.2.cell (p := ⟨r, 0, none⟩) lr5 (by simp)).trans e5; have HF6 := Lib.hid hf6; clear hf6)
                    | (go_at_call 13; refine (HSm.out _ _ _ HF6.out.rs (HS3.out.quiet ((Chg.refl _ _).drew.then HF6.out.2.2))).mono ?_; rintro e w7 ⟨rfl, hc7⟩; have e7 := (hc7.cell (p := ⟨r, 0, none⟩) (Nat.lt_of_lt_of_le lr5 HF6.out.2.2.size) (by simp)).trans e6; have HC7 := Lib.hid hc7; clear hc7)
                    | (go_at_call 8; refine (known_any _).mono ?_; rintro e w8 ⟨rfl, hc8⟩; have e8 := (hc8.cell (p := ⟨r, 0, none⟩) (Nat.lt_of_lt_of_le (Nat.lt_of_lt_of_le lr5 HF6.out.2.2.size) HC7.out.size) (by simp)).trans e7; have HC8 := Lib.hid hc8; clear hc8)))
                all_goals
                  go_wp2
                  go_ret
                  exact ⟨rfl, (((HC5.out.drew).then HF6.out.2.2).then HC7.out).then HC8.out⟩
              · have hne2 : ¬ (c2 - k = 0) := by omega
                go_wp2_with (first
                  | (go_at_call 14; refine hst.mono ?_; rintro e w5 ⟨rfl, hD⟩; have HD5 := Lib.hid hD; clear hD))
                have HR3 := fun {W : World} (h : Rs W 39 2 (.slice (some ⟨b2, o2, none⟩) k c2) ll.length (nms ll)) => Rs.rest (HM.out ▸ h : Rs W 39 2 (.slice (some ⟨b2, o2, none⟩) k c2) k (nms ll)) (i := k) (by omega)
                have e5 : w5.cell? ⟨r, 0, none⟩ = some (.slice (some ⟨b2, o2, none⟩) k c2) := HD5.out.blk.cell 0
                have HLe := Lib.hid (fun W (hW : Chg [] w5 W) => (HD5.out.quiet hW).len)
                have HTe := Lib.hid (HD5.out.tells (by omega))
                have HC5 := Lib.hid HD5.out.chg
                have lr5 := HD5.out.blk.lt
                have HS3 := Lib.hid (HR3 HD5.out.rrs)
                rw [List.length_drop, ← HM.out] at HLe
                have HSm := Lib.hid (fun W v1 v2 (h1 : Rs W 39 2 v1 (ll.drop k).length (nms (ll.drop k))) (h2 : Rs W 39 2 v2 (k - k) (nms (ll.drop k))) => (rsame_any (w := W) (v1 := v1) (v2 := v2) h1 (h2.nlen ▸ h2) (by rw [List.length_drop, ← HM.out]; omega) (by rw [List.length_drop, ← HM.out]; omega) : Calls Try.prog 13 #[v1, v2] W fun e w' => e = .returned (.bool (decide (ll.drop k = ll.drop k))) ∧ Chg [] W w'))
                rw [decide_eq_true (Eq.refl _)] at HSm
                simp only [Nat.sub_self] at HLe HSm HS3
                have HLe := Lib.hid (show ∀ W, Chg [] w5 W → Calls Try.prog 16 #[.pointer (some ⟨g, 0, none⟩)] W (fun e w1 => e = .returned (.int .i64 0) ∧ W = w1) from fun W hW => by have := HLe.out W hW; simpa using this)
                have hwr0 : IntKind.i64.wrap (0 : Int) = 0 := by decide
                clear HD5
                (go_region_held3 (fun w' => w'.cell? ⟨r, 0, none⟩ = some (.slice (some ⟨b2, o2, none⟩) k c2))
                  (first | go_keep)
                  (first
                    | (go_at_call 16; refine (HLe.out _ (Chg.refl _ _).drew).mono ?_; rintro e w' ⟨rfl, rfl⟩)
                    | (go_at_call 12; refine (HTe.out _ (Chg.refl _ _).drew).mono ?_; rintro e w6 ⟨v6, rfl, hf6⟩; have e6 := (hf6.2.2.cell (p := ⟨r, 0, none⟩) lr5 (by simp)).trans e5; have HF6 := Lib.hid hf6; clear hf6)
                    | (go_at_call 13; refine (HSm.out _ _ _ HF6.out.rs (HS3.out.quiet ((Chg.refl _ _).drew.then HF6.out.2.2))).mono ?_; rintro e w7 ⟨rfl, hc7⟩; have e7 := (hc7.cell (p := ⟨r, 0, none⟩) (Nat.lt_of_lt_of_le lr5 HF6.out.2.2.size) (by simp)).trans e6; have HC7 := Lib.hid hc7; clear hc7)
                    | (go_at_call 8; refine (known_any _).mono ?_; rintro e w8 ⟨rfl, hc8⟩; have e8 := (hc8.cell (p := ⟨r, 0, none⟩) (Nat.lt_of_lt_of_le (Nat.lt_of_lt_of_le lr5 HF6.out.2.2.size) HC7.out.size) (by simp)).trans e7; have HC8 := Lib.hid hc8; clear hc8)))
                all_goals
                  go_wp2
                  go_ret
                  exact ⟨rfl, (((HC5.out.drew).then HF6.out.2.2).then HC7.out).then HC8.out⟩
end Go.Proofs
