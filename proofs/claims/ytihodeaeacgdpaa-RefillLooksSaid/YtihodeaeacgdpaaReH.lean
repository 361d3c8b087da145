import Derived.Test.YtihodeaeacgdpaaReG
namespace Go.Proofs
open Go.RowKit
set_option linter.unusedVariables false

set_option maxHeartbeats 3200000 in
set_option maxRecDepth 100000 in
/-- The document's May. -/
theorem rmay_any {w : World} {v : Value} {l : List Rf} (h : In w v l) (hk : Ok l) (hn : l.length ≤ 100000) :
    Calls Try.prog 16 #[v] w fun e w' => e = .returned (.bool (mayP l)) ∧ Chg [] w w' := by
  have hs := fun W (hW : Chg [] w W) => rsum_any (h.quiet hW) hk hn
  obtain ⟨A, c, rfl, _, _, _, hcell⟩ := h.open_
  obtain ⟨n, e1⟩ : ∃ n, n = l.length := ⟨_, rfl⟩
  rw [← e1] at hn hs ⊢
  have HN := Lib.hid e1
  have HC := Lib.hid hcell
  have HK := Lib.hid hk
  have HS := Lib.hid hs
  unfold mayP
  clear h e1 hcell hk hs
  go_enter Try.func16, Try.ntmps16
  go_wp2
  go_loopg [3] n (fun gh i wx => ∃ k : Nat, k + gh = n ∧ i = .int .i64 k ∧ Hid (Chg [] w wx ∧ ∀ j, j < k → badP l j = false))
  case atStart => exact ⟨0, by omega, rfl, Lib.hid ⟨Chg.refl _ _, fun j hj => by omega⟩⟩
  case round =>
    obtain ⟨k, hk, rfl, HR⟩ := hrel
    by_cases hlt : k < n
    · have k0 : (0 : Int) ≤ (k : Int) := by omega
      have k1 : (k : Int) < (n : Int) := by omega
      obtain ⟨x, hx⟩ : ∃ x, l[k]? = some x := ⟨_, List.getElem?_eq_getElem (by rw [← HN.out]; exact hlt)⟩
      obtain ⟨b, o, rfl, lb, p0, p1⟩ := HC.out k x hx
      have hc := HR.out.1
      have x0 := (hc.cell (p := ⟨b, o + k * 2, none⟩) lb (by simp)).trans p0
      have x1 := (hc.cell (p := ⟨b, o + k * 2 + 1, none⟩) lb (by simp)).trans p1
      have HX := Lib.hid (badP_at hx)
      obtain ⟨⟨b2, b3⟩, _⟩ := HK.out.at hx
      obtain ⟨xa, xt⟩ := x
      simp only at x0 x1 b2 b3
      by_cases hxa : xa = 0
      · have HZ := Lib.hid (fineP_no (by rw [← HN.out]; exact hlt) (by rw [HX.out]; unfold wrongP; simp [hxa]))
        have g0 : decide (xa < 1) = true := by simp; omega
        clear hx hc p0 p1 hxa b2 b3
        go_wp2
        go_ret
        exact ⟨by rw [HZ.out]; simp, HR.out.1⟩
      · have g0 : decide (xa < 1) = false := by simp; omega
        by_cases hk9 : k = 0
        · subst hk9
          have HZ := Lib.hid (show badP l 0 = false by rw [HX.out]; unfold wrongP; simp [hxa])
          clear hx hc p0 p1 hxa b2 b3
          simp only [Nat.zero_mul, Nat.add_zero] at x0 x1
          go_wp2
          go_quiet (fail)
          go_wp2
          go_roundg (n - 1)
          case measure => omega
          case rel => exact ⟨1, by omega, by go_num, Lib.hid ⟨HR.out.1.drewN _, fun j hj => (show j = 0 by omega) ▸ HZ.out⟩⟩
        · obtain ⟨p, hp⟩ : ∃ p, p = k - 1 := ⟨_, rfl⟩
          obtain ⟨y, hy⟩ : ∃ y, l[p]? = some y := ⟨_, List.getElem?_eq_getElem (by rw [← HN.out]; omega)⟩
          obtain ⟨b', o', he, lb', q0, q1⟩ := HC.out p y hy
          simp only [Option.some.injEq, Addr.mk.injEq, and_true] at he
          obtain ⟨rfl, rfl⟩ := he
          have y1 := (hc.cell (p := ⟨b, o + p * 2 + 1, none⟩) lb (by simp)).trans q1
          have HY := Lib.hid (show aheadP l k = y.2 by rw [show k = p + 1 by omega]; exact aheadP_succ hy)
          obtain ⟨ya, yt⟩ := y
          simp only at y1
          have i0 : (0 : Int) ≤ (p : Int) := by omega
          have i1 : (p : Int) < (n : Int) := by omega
          have i2 : IntKind.i64.wrap ((k : Int) - 1) = (p : Int) := by rw [IntWalk.i64_in _ (by omega)]; omega
          have i3 : decide ((k : Int) > 0) = true := by simp; omega
          have i4 : decide (0 < (k : Int)) = true := by simp; omega
          have i5 : decide (0 < k) = true := by simp; omega
          have i6 : (0 : Int) < (k : Int) := by omega
          have hbp : badP l k = decide (xt ≤ yt) := by rw [HX.out, HY.out]; unfold wrongP; simp [hxa, show 0 < k by omega]
          by_cases hle : xt ≤ yt
          · have g1 : decide (xt ≤ yt) = true := by simpa using hle
            have HZ := Lib.hid (fineP_no (by rw [← HN.out]; exact hlt) (by rw [hbp, g1]))
            clear hx hc p0 p1 hxa b2 b3 hy q0 q1 hp hbp hle
            go_wp2
            go_quiet (fail)
            go_wp2
            go_ret
            exact ⟨by rw [HZ.out]; simp, HR.out.1.drewN _⟩
          · have g1 : decide (xt ≤ yt) = false := by simpa using hle
            have HZ := Lib.hid (show ∀ j, j < k + 1 → badP l j = false from fun j hj => by
              by_cases e : j = k
              · subst e; rw [hbp, g1]
              · exact HR.out.2 j (by omega))
            clear hx hc p0 p1 hxa b2 b3 hy q0 q1 hp hbp hle
            go_wp2
            go_quiet (fail)
            go_wp2
            go_roundg (n - k - 1)
            case measure => omega
            case rel => exact ⟨k + 1, by omega, by go_num, Lib.hid ⟨HR.out.1.drewN _, HZ.out⟩⟩
    · obtain rfl : k = n := by omega
      have HZ := Lib.hid (show fineP l = true by rw [fineP_iff, ← HN.out]; exact HR.out.2)
      have hcall := HS.out _ HR.out.1
      obtain ⟨S, hS⟩ : ∃ S, S = sumN l := ⟨_, rfl⟩
      obtain ⟨F, hF⟩ : ∃ S, S = sumF l := ⟨_, rfl⟩
      rw [← hS, ← hF] at hcall
      have HF := Lib.hid hF
      clear hS hF
      go_wp2_with (go_at_call 12; refine hcall.mono ?_; rintro e w1 ⟨rfl, rfl⟩)
      go_ret
      exact ⟨by rw [HZ.out, ← HF.out, Bool.and_true]; rfl, HR.out.1⟩
/-- Where the first one stands whose time has not come; -1, if there is none. -/
def idxI (l : List Rf) (now : Int) : Int := if dueN l now < l.length then (dueN l now : Nat) else -1
set_option maxHeartbeats 3200000 in
set_option maxRecDepth 100000 in
/-- slices.IndexFunc. -/
theorem index_above {w : World} {v : Value} {l : List Rf} {bN : Nat} {now : Int} (h : Rd w v l) (hB : Blk w bN 23 #[.int .u64 now]) (hn : l.length ≤ 100000) :
    Calls Try.prog 45 #[v, .func (.func 46) #[] #[.pointer (some ⟨bN, 0, none⟩)]] w fun e w' => e = .returned (.int .i64 (idxI l now)) ∧ Chg [] w w' := by
  obtain ⟨A, c, rfl, _, _, _, hcell⟩ := h.open_
  obtain ⟨n, e1⟩ : ∃ n, n = l.length := ⟨_, rfl⟩
  rw [← e1] at hn ⊢
  have HN := Lib.hid e1
  have HC := Lib.hid hcell
  have HB := Lib.hid hB
  clear h e1 hcell hB
  go_enter Try.func45, Try.ntmps45
  go_wp2
  go_loopg [8] n (fun gh i wx => ∃ k : Nat, k + gh = n ∧ i = .int .i64 k ∧ Hid (Chg [] w wx ∧ ∀ j (y : Rf), j < k → l[j]? = some y → y.2 ≤ now))
  case atStart => exact ⟨0, by omega, rfl, Lib.hid ⟨Chg.refl _ _, fun j y hj => by omega⟩⟩
  case round =>
    obtain ⟨k, hk, rfl, HR⟩ := hrel
    by_cases hlt : k < n
    · have k0 : (0 : Int) ≤ (k : Int) := by omega
      have k1 : (k : Int) < (n : Int) := by omega
      obtain ⟨x, hx⟩ : ∃ x, l[k]? = some x := ⟨_, List.getElem?_eq_getElem (by rw [← HN.out]; exact hlt)⟩
      obtain ⟨b, o, rfl, lb, p0, p1⟩ := HC.out k x hx
      have hc := HR.out.1
      have x0 := (hc.cell (p := ⟨b, o + k * 2, none⟩) lb (by simp)).trans p0
      have x1 := (hc.cell (p := ⟨b, o + k * 2 + 1, none⟩) lb (by simp)).trans p1
      have HX := Lib.hid hx
      obtain ⟨xa, xt⟩ := x
      simp only at x0 x1
      have hstep := above_step (HB.out.chg hc (by simp)) xa xt
      by_cases hbd : now < xt
      · rw [show decide (now < xt) = true by simpa using hbd] at hstep
        have HZ := Lib.hid (show idxI l now = (k : Nat) by
          have := dueN_first HR.out.2 HX.out hbd
          unfold idxI
          rw [if_pos (by rw [this, ← HN.out]; exact hlt), this])
        clear hx hc p0 p1 hbd
        go_wp2_with (go_at_call 46; refine hstep.mono ?_; rintro e w1 ⟨rfl, q3⟩; have H1 := Lib.hid q3; clear q3)
        go_ret
        exact ⟨by rw [HZ.out]; rfl, HR.out.1.then H1.out⟩
      · rw [show decide (now < xt) = false by simpa using hbd] at hstep
        have HZ := Lib.hid (show ∀ j (y : Rf), j < k + 1 → l[j]? = some y → y.2 ≤ now from fun j y hj hy => by
          by_cases e : j = k
          · subst e
            rw [HX.out] at hy
            cases hy
            simp only
            omega
          · exact HR.out.2 j y (by omega) hy)
        clear hx hc p0 p1 hbd
        go_wp2_with (go_at_call 46; refine hstep.mono ?_; rintro e w1 ⟨rfl, q3⟩; have H3 := Lib.hid q3; clear q3)
        go_roundg (n - k - 1)
        case measure => omega
        case rel => exact ⟨k + 1, by omega, by go_num, Lib.hid ⟨HR.out.1.then H3.out, HZ.out⟩⟩
    · obtain rfl : k = n := by omega
      have HZ := Lib.hid (show idxI l now = -1 by
        unfold idxI
        rw [if_neg (by rw [dueN_none (by rw [← HN.out]; exact HR.out.2)]; omega)])
      go_wp2
      go_ret
      exact ⟨by rw [HZ.out]; rfl, HR.out.1⟩
/-- Those that are there. -/
def thereL (l : List Rf) (now : Int) : List Rf := l.filter (fun x => decide (x.2 ≤ now))
theorem thereL_snoc {l : List Rf} {k : Nat} {x : Rf} {now : Int} (h : l[k]? = some x) : thereL (l.take (k + 1)) now = thereL (l.take k) now ++ (if x.2 ≤ now then [x] else []) := by
  unfold thereL
  rw [take_snoc h, List.filter_append]
  congr 1
  by_cases e : x.2 ≤ now <;> simp [e]
theorem Ok.there {l : List Rf} (h : Ok l) (now : Int) : Ok (thereL l now) := fun x hx => h x (List.mem_filter.1 hx).1
def thereP (l : List Rf) (now : Int) : Int := if sumF (thereL l now) then sumP (thereL l now) else 18446744073709551615
set_option maxHeartbeats 3200000 in
set_option maxRecDepth 100000 in
/-- The document's There. -/
theorem rthere_any {w : World} {v : Value} {l : List Rf} (h : In w v l) (hk : Ok l) (hn : l.length ≤ 100000) (now : Int) :
    Calls Try.prog 18 #[v, .int .u64 now] w fun e w' => e = .returned (.int .u64 (thereP l now)) ∧ w = w' := by
  obtain ⟨A, c, rfl, _, _, _, hcell⟩ := h.open_
  obtain ⟨n, e1⟩ : ∃ n, n = l.length := ⟨_, rfl⟩
  rw [← e1] at hn ⊢
  have HN := Lib.hid e1
  have HC := Lib.hid hcell
  have HK := Lib.hid hk
  clear h e1 hcell hk
  go_enter Try.func18, Try.ntmps18
  go_wp2
  go_loop [5, 6] (fun s i => ∃ k : Nat, k ≤ n ∧ i = .int .i64 k ∧ s = .int .u64 (sumP (thereL (l.take k) now)) ∧ Hid (sumP (thereL (l.take k) now) < 18446744073709551616)) (fun s i => n - (intQ i).toNat)
  case atStart => exact ⟨0, by omega, rfl, by simp [sumP, thereL], Lib.hid (by simp [sumP, thereL])⟩
  case round =>
    obtain ⟨k, hk, rfl, rfl, HR⟩ := hrel
    by_cases hlt : k < n
    · have k0 : (0 : Int) ≤ (k : Int) := by omega
      have k1 : (k : Int) < (n : Int) := by omega
      obtain ⟨x, hx⟩ : ∃ x, l[k]? = some x := ⟨_, List.getElem?_eq_getElem (by rw [← HN.out]; exact hlt)⟩
      obtain ⟨b, o, rfl, lb, p0, p1⟩ := HC.out k x hx
      have HS := Lib.hid (thereL_snoc (now := now) hx)
      have hTL : sumP (thereL (l.take (k + 1)) now) ≤ sumP (thereL l now) := by
        have h1 : thereL l now = thereL (l.take (k + 1)) now ++ thereL (l.drop (k + 1)) now := by unfold thereL; rw [← List.filter_append, List.take_append_drop]
        have h2 := sumP_nonneg ((HK.out.drop (k + 1)).there now)
        rw [h1, sumP_append]; omega
      have b0 := sumP_nonneg ((HK.out.take k).there now)
      have b1 := HR.out
      obtain ⟨⟨b2, b3⟩, _⟩ := HK.out.at hx
      obtain ⟨xa, xt⟩ := x
      simp only at p0 p1 b2 b3
      by_cases hbd : xt ≤ now
      · have g0 : decide (xt > now) = false := by simp; omega
        have HS2 := Lib.hid (show sumP (thereL (l.take (k + 1)) now) = sumP (thereL (l.take k) now) + xa by rw [HS.out, if_pos hbd, sumP_append]; simp [sumP])
        rw [HS2.out] at hTL
        have hadd := fun W => radd_any (sumP (thereL (l.take k) now)) xa b0 b2 b1 b3 W
        obtain ⟨S, hS⟩ : ∃ S, S = sumP (thereL (l.take k) now) := ⟨_, rfl⟩
        have HSS := Lib.hid hS
        rw [← hS] at hadd b0 b1 hTL ⊢
        by_cases ho : S + xa < 18446744073709551616
        · obtain ⟨f1, f2⟩ := addF_yes ho
          rw [f1, f2] at hadd
          have HO := Lib.hid ho
          clear hx hS b0 b1 b2 b3 ho f1 f2 hTL hbd
          go_wp2_with (go_at_call 30; refine (hadd _).mono ?_; rintro e w1 ⟨rfl, rfl⟩)
          go_round
          case rel => exact ⟨k + 1, by omega, by go_num, by rw [HS2.out, HSS.out], Lib.hid (by rw [HS2.out, ← HSS.out]; exact HO.out)⟩
          case measure => simp [intQ]; omega
        · obtain ⟨f1, f2⟩ := addF_no ho
          rw [f1, f2] at hadd
          have HE := Lib.hid (show thereP l now = 18446744073709551615 by
            unfold thereP
            rw [show sumF (thereL l now) = false by unfold sumF; simp; omega]
            rfl)
          clear hx hS b0 b1 b2 b3 ho f1 f2 hTL hbd
          go_wp2_with (go_at_call 30; refine (hadd _).mono ?_; rintro e w1 ⟨rfl, rfl⟩)
          go_ret
          exact ⟨by rw [HE.out]; rfl, rfl⟩
      · have g0 : decide (xt > now) = true := by simp; omega
        have HS2 := Lib.hid (show thereL (l.take (k + 1)) now = thereL (l.take k) now by rw [HS.out, if_neg hbd, List.append_nil])
        clear hx b0 b1 b2 b3 hTL hbd
        go_wp2
        go_round
        case rel => exact ⟨k + 1, by omega, by go_num, by rw [HS2.out], Lib.hid (by rw [HS2.out]; exact HR.out)⟩
        case measure => simp [intQ]; omega
    · obtain rfl : k = n := by omega
      have HT := Lib.hid (show l.take k = l by rw [HN.out, List.take_length])
      have HE := Lib.hid (show thereP l now = sumP (thereL (l.take k) now) by
        unfold thereP
        rw [HT.out, (sum_all (by rw [← HT.out]; exact HR.out)).1]
        rfl)
      obtain ⟨S, hS⟩ : ∃ S, S = sumP (thereL (l.take k) now) := ⟨_, rfl⟩
      rw [← hS] at HE ⊢
      clear hS
      go_wp2
      go_ret
      exact ⟨by rw [HE.out]; rfl, rfl⟩
end Go.Proofs
