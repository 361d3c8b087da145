import Derived.Test.YtelkndhifkmpiaaHeR
import Derived.Laws.StructEq
namespace Go.Proofs
open Go.RowKit
set_option linter.unusedVariables false

/-- Two timers, as they are told, are told apart. -/
theorem neq_nm (a b c d : Int) (W : World) : (binOp .neq 39 (.agg #[.int .u64 a, .int .i64 b]) (.agg #[.int .u64 c, .int .i64 d])).run Try.prog W = .ok (.bool (!(a == c && b == d))) W := by
  have h1 : Try.prog.underlying 39 = some (.struct (Try.prog.fieldsOf 39)) := by kernel_rfl
  have h2 : Try.prog.stoodInHeld 39 = false := by kernel_rfl
  rw [run_neq_struct, run_equalIn_agg (ht := h1) (hp := h2)]
  simp [go_sem, Try.underlying39, Op.eqFields, Try.underlying3, Try.underlying31]
  by_cases e1 : a = c <;> by_cases e2 : b = d <;> simp [e1, e2]
theorem nm_yes {a b c d : Int} (h : a = c ∧ b = d) (W : World) : (binOp .neq 39 (.agg #[.int .u64 a, .int .i64 b]) (.agg #[.int .u64 c, .int .i64 d])).run Try.prog W = .ok (.bool false) W := by
  rw [neq_nm]; simp [h.1, h.2]
theorem nm_no {a b c d : Int} (h : ¬ (a = c ∧ b = d)) (W : World) : (binOp .neq 39 (.agg #[.int .u64 a, .int .i64 b]) (.agg #[.int .u64 c, .int .i64 d])).run Try.prog W = .ok (.bool true) W := by
  rw [neq_nm]
  have : (a == c && b == d) = false := by
    rw [Bool.and_eq_false_iff]
    by_cases e : a = c
    · right; simpa using fun e2 => h ⟨e, e2⟩
    · left; simpa using e
  rw [this]; rfl
theorem Rs.nm {w : World} {A : Option Addr} {n c : Nat} {l : List (Int × Int)} (h : Rs w 39 2 (.slice A n c) n (nms l)) :
    ∀ k x, l[k]? = some x → ∃ b o, A = some ⟨b, o, none⟩ ∧ b < w.heap.size ∧ w.cell? ⟨b, o + k * 2, none⟩ = some (.int .u64 x.1) ∧ w.cell? ⟨b, o + k * 2 + 1, none⟩ = some (.int .i64 x.2) := by
  obtain ⟨A', c', hv, _, _, _, hcell⟩ := h.open_
  simp only [Value.slice.injEq] at hv
  obtain ⟨rfl, _, rfl⟩ := hv
  intro k x hk
  obtain ⟨q0, q1⟩ := nms_at hk
  obtain ⟨b, o, hA, lb, e0⟩ := hcell _ _ q0
  obtain ⟨b1, o1, hA1, _, e1⟩ := hcell _ _ q1
  rw [hA] at hA1
  cases hA1
  rw [← Nat.add_assoc] at e1
  exact ⟨b, o, hA, lb, e0, e1⟩
theorem Rs.nlen {w : World} {v : Value} {n : Nat} {l : List (Int × Int)} (h : Rs w 39 2 v n (nms l)) : n = l.length := by
  have := h.len
  rw [nms_len] at this
  omega
set_option maxHeartbeats 3200000 in
set_option maxRecDepth 100000 in
theorem equal_any {w : World} {v1 v2 : Value} {l1 l2 : List (Int × Int)} (h1 : Rs w 39 2 v1 l1.length (nms l1)) (h2 : Rs w 39 2 v2 l2.length (nms l2)) (hn : l1.length ≤ 100000) (hn2 : l2.length ≤ 100000) :
    Calls Try.prog 35 #[v1, v2] w fun e w' => e = .returned (.bool (decide (l1 = l2))) ∧ Chg [] w w' := by
  obtain ⟨A1, c1, rfl, _⟩ := id h1
  obtain ⟨A2, c2, rfl, _⟩ := id h2
  have HC1 := Lib.hid h1.nm
  have HC2 := Lib.hid h2.nm
  obtain ⟨n1, e1⟩ : ∃ n, n = l1.length := ⟨_, rfl⟩
  obtain ⟨n2, e2⟩ : ∃ n, n = l2.length := ⟨_, rfl⟩
  rw [← e1, ← e2]
  rw [← e1] at hn
  rw [← e2] at hn2
  have E1 := Lib.hid e1
  have E2 := Lib.hid e2
  clear h1 h2
  by_cases hne : n1 = n2
  · obtain rfl := hne
    have hb : ((n1 : Int) != (n1 : Int)) = false := by simp
    clear e1 e2
    go_enter Try.func35, Try.ntmps35
    go_wp2
    go_loopg [13] n1 (fun gh s wx => ∃ k : Nat, k + gh = n1 ∧ s = .int .i64 k ∧ Hid ((∀ j, j < k → l1[j]? = l2[j]?) ∧ Chg [] w wx))
    case atStart => exact ⟨0, by omega, rfl, Lib.hid ⟨fun j hj => by omega, Chg.refl _ _⟩⟩
    case round =>
      obtain ⟨k, hk, rfl, HR⟩ := hrel
      by_cases hlt : k < n1
      · have k0 : (0 : Int) ≤ (k : Int) := by omega
        have k1 : (k : Int) < (n1 : Int) := by omega
        obtain ⟨x, hx⟩ : ∃ x, l1[k]? = some x := ⟨_, List.getElem?_eq_getElem (by rw [← E1.out]; exact hlt)⟩
        obtain ⟨y, hy⟩ : ∃ y, l2[k]? = some y := ⟨_, List.getElem?_eq_getElem (by rw [← E2.out]; exact hlt)⟩
        obtain ⟨b1, o1, rfl, lb1, p0, p1⟩ := HC1.out k x hx
        obtain ⟨b2, o2, rfl, lb2, q0, q1⟩ := HC2.out k y hy
        have hc := HR.out.2
        have x0 := (hc.cell (p := ⟨b1, o1 + k * 2, none⟩) lb1 (by simp)).trans p0
        have x1 := (hc.cell (p := ⟨b1, o1 + k * 2 + 1, none⟩) lb1 (by simp)).trans p1
        have y0 := (hc.cell (p := ⟨b2, o2 + k * 2, none⟩) lb2 (by simp)).trans q0
        have y1 := (hc.cell (p := ⟨b2, o2 + k * 2 + 1, none⟩) lb2 (by simp)).trans q1
        have HX := Lib.hid hx
        have HY := Lib.hid hy
        clear hx hy hc p0 p1 q0 q1
        obtain ⟨xa, xi⟩ := x
        obtain ⟨ya, yi⟩ := y
        simp only at x0 x1 y0 y1
        by_cases hxy : xa = ya ∧ xi = yi
        · have hq := nm_yes hxy
          have HS := Lib.hid (show ∀ j, j < k + 1 → l1[j]? = l2[j]? from fun j hj => by
            by_cases e : j = k
            · subst e; rw [HX.out, HY.out, hxy.1, hxy.2]
            · exact HR.out.1 j (by omega))
          clear hxy
          go_wp2
          go_quiet (fail)
          go_wp2
          go_roundg (n1 - k - 1)
          case measure => omega
          case rel => exact ⟨k + 1, by omega, by go_num, Lib.hid ⟨HS.out, HR.out.2.drewN _⟩⟩
        · have hq := nm_no hxy
          have HD := Lib.hid (show decide (l1 = l2) = false from decide_eq_false (fun e => hxy (by
            have h := HY.out
            rw [← e, HX.out] at h
            simpa using h)))
          clear hxy
          go_wp2
          go_quiet (fail)
          go_wp2
          go_ret
          exact ⟨by rw [HD.out]; rfl, HR.out.2.drewN _⟩
      · obtain rfl : k = n1 := by omega
        go_wp2
        go_ret
        have HE : l1 = l2 := by
          refine List.ext_getElem? fun j => ?_
          by_cases hj : j < k
          · exact HR.out.1 j hj
          · rw [List.getElem?_eq_none (by rw [← E1.out]; omega), List.getElem?_eq_none (by rw [← E2.out]; omega)]
        exact ⟨by rw [decide_eq_true HE]; rfl, HR.out.2⟩
  · have hb : ((n1 : Int) != (n2 : Int)) = true := by simp; omega
    have HD := Lib.hid (show decide (l1 = l2) = false from decide_eq_false (fun e => hne (by rw [e1, e2, e])))
    clear hne e1 e2
    go_enter Try.func35, Try.ntmps35
    go_wp2
    go_ret
    exact ⟨by rw [HD.out]; rfl, Chg.refl _ _⟩
set_option maxHeartbeats 3200000 in
set_option maxRecDepth 100000 in
theorem rsame_any {w : World} {v1 v2 : Value} {l1 l2 : List (Int × Int)} (h1 : Rs w 39 2 v1 l1.length (nms l1)) (h2 : Rs w 39 2 v2 l2.length (nms l2)) (hn : l1.length ≤ 100000) (hn2 : l2.length ≤ 100000) :
    Calls Try.prog 13 #[v1, v2] w fun e w' => e = .returned (.bool (decide (l1 = l2))) ∧ Chg [] w w' := by
  obtain ⟨A1, c1, rfl, _⟩ := id h1
  obtain ⟨A2, c2, rfl, _⟩ := id h2
  have HC1 := Lib.hid h1.nm
  have HC2 := Lib.hid h2.nm
  obtain ⟨n1, e1⟩ : ∃ n, n = l1.length := ⟨_, rfl⟩
  obtain ⟨n2, e2⟩ : ∃ n, n = l2.length := ⟨_, rfl⟩
  rw [← e1, ← e2]
  rw [← e1] at hn
  rw [← e2] at hn2
  have E1 := Lib.hid e1
  have E2 := Lib.hid e2
  clear h1 h2
  by_cases hne : n1 = n2
  · obtain rfl := hne
    have hb : ((n1 : Int) != (n1 : Int)) = false := by simp
    clear e1 e2
    go_enter Try.func13, Try.ntmps13
    go_wp2
    go_loopg [5] n1 (fun gh s wx => ∃ k : Nat, k + gh = n1 ∧ s = .int .i64 k ∧ Hid ((∀ j, j < k → l1[j]? = l2[j]?) ∧ Chg [] w wx))
    case atStart => exact ⟨0, by omega, rfl, Lib.hid ⟨fun j hj => by omega, Chg.refl _ _⟩⟩
    case round =>
      obtain ⟨k, hk, rfl, HR⟩ := hrel
      by_cases hlt : k < n1
      · have k0 : (0 : Int) ≤ (k : Int) := by omega
        have k1 : (k : Int) < (n1 : Int) := by omega
        obtain ⟨x, hx⟩ : ∃ x, l1[k]? = some x := ⟨_, List.getElem?_eq_getElem (by rw [← E1.out]; exact hlt)⟩
        obtain ⟨y, hy⟩ : ∃ y, l2[k]? = some y := ⟨_, List.getElem?_eq_getElem (by rw [← E2.out]; exact hlt)⟩
        obtain ⟨b1, o1, rfl, lb1, p0, p1⟩ := HC1.out k x hx
        obtain ⟨b2, o2, rfl, lb2, q0, q1⟩ := HC2.out k y hy
        have hc := HR.out.2
        have x0 := (hc.cell (p := ⟨b1, o1 + k * 2, none⟩) lb1 (by simp)).trans p0
        have x1 := (hc.cell (p := ⟨b1, o1 + k * 2 + 1, none⟩) lb1 (by simp)).trans p1
        have y0 := (hc.cell (p := ⟨b2, o2 + k * 2, none⟩) lb2 (by simp)).trans q0
        have y1 := (hc.cell (p := ⟨b2, o2 + k * 2 + 1, none⟩) lb2 (by simp)).trans q1
        have HX := Lib.hid hx
        have HY := Lib.hid hy
        clear hx hy hc p0 p1 q0 q1
        obtain ⟨xa, xi⟩ := x
        obtain ⟨ya, yi⟩ := y
        simp only at x0 x1 y0 y1
        by_cases hxy : xa = ya ∧ xi = yi
        · have hq := nm_yes hxy
          have HS := Lib.hid (show ∀ j, j < k + 1 → l1[j]? = l2[j]? from fun j hj => by
            by_cases e : j = k
            · subst e; rw [HX.out, HY.out, hxy.1, hxy.2]
            · exact HR.out.1 j (by omega))
          clear hxy
          go_wp2
          go_quiet (fail)
          go_wp2
          go_roundg (n1 - k - 1)
          case measure => omega
          case rel => exact ⟨k + 1, by omega, by go_num, Lib.hid ⟨HS.out, HR.out.2.drewN _⟩⟩
        · have hq := nm_no hxy
          have HD := Lib.hid (show decide (l1 = l2) = false from decide_eq_false (fun e => hxy (by
            have h := HY.out
            rw [← e, HX.out] at h
            simpa using h)))
          clear hxy
          go_wp2
          go_quiet (fail)
          go_wp2
          go_ret
          exact ⟨by rw [HD.out]; rfl, HR.out.2.drewN _⟩
      · obtain rfl : k = n1 := by omega
        go_wp2
        go_ret
        have HE : l1 = l2 := by
          refine List.ext_getElem? fun j => ?_
          by_cases hj : j < k
          · exact HR.out.1 j hj
          · rw [List.getElem?_eq_none (by rw [← E1.out]; omega), List.getElem?_eq_none (by rw [← E2.out]; omega)]
        exact ⟨by rw [decide_eq_true HE]; rfl, HR.out.2⟩
  · have hb : ((n1 : Int) != (n2 : Int)) = true := by simp; omega
    have HD := Lib.hid (show decide (l1 = l2) = false from decide_eq_false (fun e => hne (by rw [e1, e2, e])))
    clear hne e1 e2
    go_enter Try.func13, Try.ntmps13
    go_wp2
    go_ret
    exact ⟨by rw [HD.out]; rfl, Chg.refl _ _⟩
end Go.Proofs
