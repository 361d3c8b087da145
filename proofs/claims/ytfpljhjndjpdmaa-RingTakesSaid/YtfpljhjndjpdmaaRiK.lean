import Derived.Test.YtfpljhjndjpdmaaRiJ
namespace Go.Proofs
open Go.RowKit
set_option linter.unusedVariables false

/-! ### The document's ring: a list -/
set_option maxHeartbeats 1600000 in
theorem rsame_q {w : World} {v1 v2 : Value} {l1 l2 : List Int} (h1 : Rd w v1 l1) (h2 : Rd w v2 l2) (n1 : l1.length ≤ 8192) (n2 : l2.length ≤ 8192) :
    Calls Try.prog 16 #[v1, v2] w fun e w' => e = .returned (.bool (l1 == l2)) ∧ ∃ q, w' = w.drewN q := by
  obtain ⟨A1, c1, rfl, _, _, _, o1⟩ := h1.open_
  obtain ⟨A2, c2, rfl, _, _, _, o2⟩ := h2.open_
  by_cases hl : l1.length = l2.length
  · obtain ⟨n, hn⟩ : ∃ n, n = l1.length := ⟨_, rfl⟩
    rw [← hl, ← hn]
    rw [← hn] at n1
    have HN := Lib.hid hn
    have HL := Lib.hid hl
    have O1 := Lib.hid o1
    have O2 := Lib.hid o2
    have hnn : ((n : Int) == (n : Int)) = true := by simp
    have hnn' : ((n : Int) != (n : Int)) = false := by simp
    clear hn hl o1 o2 n2 h1 h2
    go_enter Try.func16, Try.ntmps16
    go_wp2
    go_loopw [5] (fun i wr => ∃ k q : Nat, k ≤ n ∧ i = .int .i64 k ∧ wr = w.drewN q ∧ Hid (∀ j, j < k → l1[j]? = l2[j]?)) (fun i _ => n - (intOf i).toNat)
    case atStart => exact ⟨0, 0, Nat.zero_le _, rfl, rfl, Lib.hid fun j hj => by omega⟩
    case round =>
      obtain ⟨k, q, hk, rfl, rfl, HE⟩ := hrel
      by_cases hlt : k < n
      · obtain ⟨x, hx⟩ : ∃ x, l1[k]? = some x := ⟨_, List.getElem?_eq_getElem (by rw [← HN.out]; exact hlt)⟩
        obtain ⟨y, hy⟩ : ∃ y, l2[k]? = some y := ⟨_, List.getElem?_eq_getElem (by rw [← HL.out, ← HN.out]; exact hlt)⟩
        obtain ⟨b1, p1, rfl, _, q1⟩ := O1.out k x hx
        obtain ⟨b2, p2, rfl, _, q2⟩ := O2.out k y hy
        have i0 : (0 : Int) ≤ (k : Int) := by omega
        have i1 : (k : Int) < (n : Int) := by omega
        have HX := Lib.hid hx
        have HY := Lib.hid hy
        clear hx hy
        by_cases hxy : x = y
        · subst hxy
          have hb : (x != x) = false := by simp
          go_wp2
          go_quiet (fail)
          go_wp2
          go_roundw
          case rel =>
            refine ⟨k + 1, _, by omega, by go_num, rfl, Lib.hid fun j hj => ?_⟩
            by_cases e : j = k
            · subst e; rw [HX.out, HY.out]
            · exact HE.out j (by omega)
          case measure => simp [intOf]; omega
        · have hb : (x != y) = true := by simpa using hxy
          have HZ := Lib.hid (show (l1 == l2) = false by
            rw [beq_eq_false_iff_ne]
            intro e
            have hx := HX.out
            have hy := HY.out
            rw [e, hy] at hx
            exact hxy (Option.some.inj hx.symm))
          clear hxy
          go_wp2
          go_quiet (fail)
          go_wp2
          go_ret
          exact ⟨by rw [HZ.out]; rfl, _, World.drewN_drewN _ _ _⟩
      · obtain rfl : k = n := by omega
        have HZ := Lib.hid (show (l1 == l2) = true by
          rw [beq_iff_eq]
          refine List.ext_getElem? fun j => ?_
          by_cases hj : j < k
          · exact HE.out j hj
          · rw [List.getElem?_eq_none (by rw [← HN.out]; omega), List.getElem?_eq_none (by rw [← HL.out, ← HN.out]; omega)])
        go_wp2
        go_ret
        exact ⟨by rw [HZ.out]; rfl, _, rfl⟩
  · have hb : ((l1.length : Int) != (l2.length : Int)) = true := by simp; omega
    have HZ := Lib.hid (show (l1 == l2) = false by rw [beq_eq_false_iff_ne]; exact fun e => hl (by rw [e]))
    clear hl o1 o2 h1 h2
    go_enter Try.func16, Try.ntmps16
    go_wp2
    go_ret
    exact ⟨by rw [HZ.out]; rfl, 0, rfl⟩
theorem rsame_any {w : World} {v1 v2 : Value} {l1 l2 : List Int} (h1 : Rd w v1 l1) (h2 : Rd w v2 l2) (n1 : l1.length ≤ 8192) (n2 : l2.length ≤ 8192) :
    Calls Try.prog 16 #[v1, v2] w fun e w' => e = .returned (.bool (l1 == l2)) ∧ Chg [] w w' :=
  (rsame_q h1 h2 n1 n2).mono fun e w' ⟨h3, q, h4⟩ => ⟨h3, by rw [h4]; exact (Chg.refl _ _).drewN _⟩
/-- Where x stands for the first time; -1, if nowhere. -/
def findI (x : Int) (l : List Int) : Int := if findAt x l < l.length then (findAt x l : Nat) else -1
set_option maxHeartbeats 1600000 in
theorem rfind_any {w : World} {v : Value} {l : List Int} (h : Rd w v l) (hn : l.length ≤ 8192) (x : Int) :
    Calls Try.prog 26 #[v, .int .i64 x] w fun e w' => e = .returned (.int .i64 (findI x l)) ∧ w = w' := by
  obtain ⟨A, c, rfl, _, _, _, o⟩ := h.open_
  obtain ⟨n, hnl⟩ : ∃ n, n = l.length := ⟨_, rfl⟩
  rw [← hnl] at hn ⊢
  have HN := Lib.hid hnl
  have O := Lib.hid o
  clear hnl o h
  go_enter Try.func26, Try.ntmps26
  go_wp2
  go_loop [5] (fun i => ∃ k : Nat, k ≤ n ∧ i = .int .i64 k ∧ Hid (NoneOf x l k)) (fun i => n - (intOf i).toNat)
  case atStart => exact ⟨0, Nat.zero_le _, rfl, Lib.hid fun j hj => by omega⟩
  case round =>
    obtain ⟨k, hk, rfl, HE⟩ := hrel
    by_cases hlt : k < n
    · obtain ⟨y, hy⟩ : ∃ y, l[k]? = some y := ⟨_, List.getElem?_eq_getElem (by rw [← HN.out]; exact hlt)⟩
      obtain ⟨b, p, rfl, _, q⟩ := O.out k y hy
      have HY := Lib.hid hy
      have i0 : (0 : Int) ≤ (k : Int) := by omega
      have i1 : (k : Int) < (n : Int) := by omega
      clear hy
      by_cases hxy : y = x
      · subst hxy
        have HZ := Lib.hid (show findI y l = (k : Nat) by unfold findI; rw [findAt_first HE.out HY.out, if_pos (by rw [← HN.out]; exact hlt)])
        go_wp2
        go_ret
        exact ⟨by rw [HZ.out]; rfl, rfl⟩
      · have hb : (y == x) = false := by simpa using hxy
        have HX := Lib.hid hxy
        clear hxy
        go_wp2
        go_round
        case rel => exact ⟨k + 1, by omega, by go_num, Lib.hid (HE.out.snoc HY.out HX.out)⟩
        case measure => simp [intOf]; omega
    · obtain rfl : k = n := by omega
      have HZ := Lib.hid (show findI x l = -1 by unfold findI; rw [findAt_none (by rw [← HN.out]; exact HE.out), if_neg (by omega)])
      go_wp2
      go_ret
      exact ⟨by rw [HZ.out]; rfl, rfl⟩
end Go.Proofs
