import Derived.Test.YtocdkomjdcccoaaReG
namespace Go.Proofs
open Go.RowKit
set_option linter.unusedVariables false

/-- Where the first one stands whose time has not come; -1, if there is none. -/
def idxI (l : List Rf) (now : Int) : Int := if dueN l now < l.length then (dueN l now : Nat) else -1
set_option maxHeartbeats 3200000 in
set_option maxRecDepth 100000 in
/-- slices.IndexFunc. -/
theorem index_above {w : World} {v : Value} {l : List Rf} {bN : Nat} {now : Int} (h : Rd w v l) (hB : Blk w bN 22 #[.int .u64 now]) (hn : l.length ≤ 100000) :
    Calls Try.prog 50 #[v, .func (.func 51) #[] #[.pointer (some ⟨bN, 0, none⟩)]] w fun e w' => e = .returned (.int .i64 (idxI l now)) ∧ Chg [] w w' := by
  obtain ⟨A, c, rfl, _, _, _, hcell⟩ := h.open_
  obtain ⟨n, e1⟩ : ∃ n, n = l.length := ⟨_, rfl⟩
  rw [← e1] at hn ⊢
  have HN := Lib.hid e1
  have HC := Lib.hid hcell
  have HB := Lib.hid hB
  clear h e1 hcell hB
  go_enter Try.func50, Try.ntmps50
  go_wp2
  go_loopg [8] n (fun gh i wx => ∃ k : Nat, k + gh = n ∧ i = .int .i64 k ∧ Hid (Chg [] w wx ∧ ∀ j (y : Rf), j < k → l[j]? = some y → y.2 ≤ now))
  case atStart => exact ⟨0, by omega, rfl, Lib.hid ⟨Chg.refl _ _, fun j y hj => by omega⟩⟩
  case round =>
    obtain ⟨k, hk, rfl, HR⟩ := hrel
    by_cases hlt : k < n
    · have k0 : (0 : Int) ≤ (k : Int) := by omega
      have k1 : (k : Int) < (n : Int) := by omega
      obtain ⟨x, hx⟩ : ∃ x, l[k]? = some x := ⟨_, List.getElem?_eq_getElem (by rw [← HN.out]; exact hlt)⟩
      obtain ⟨b, o, rfl, lb, p0, p1⟩ := HC.out k x hx
      have hc := HR.out.1
      have x0 := (hc.cell (p := ⟨b, o + k * 2, none⟩) lb (by simp)).trans p0
      have x1 := (hc.cell (p := ⟨b, o + k * 2 + 1, none⟩) lb (by simp)).trans p1
      have HX := Lib.hid hx
      obtain ⟨xa, xt⟩ := x
      simp only at x0 x1
      have hstep := above_step (HB.out.chg hc (by simp)) xa xt
      by_cases hbd : now < xt
      · rw [show decide (now < xt) = true by simpa using hbd] at hstep
        have HZ := Lib.hid (show idxI l now = (k : Nat) by
          have := dueN_first HR.out.2 HX.out hbd
          unfold idxI
          rw [if_pos (by rw [this, ← HN.out]; exact hlt), this])
        clear hx hc p0 p1 hbd
        go_wp2_with (go_at_call 51; refine hstep.mono ?_; rintro e w1 ⟨rfl, q3⟩; have H1 := Lib.hid q3; clear q3)
        go_ret
        exact ⟨by rw [HZ.out]; rfl, HR.out.1.then H1.out⟩
      · rw [show decide (now < xt) = false by simpa using hbd] at hstep
        have HZ := Lib.hid (show ∀ j (y : Rf), j < k + 1 → l[j]? = some y → y.2 ≤ now from fun j y hj hy => by
          by_cases e : j = k
          · subst e
            rw [HX.out] at hy
            cases hy
            simp only
            omega
          · exact HR.out.2 j y (by omega) hy)
        clear hx hc p0 p1 hbd
        go_wp2_with (go_at_call 51; refine hstep.mono ?_; rintro e w1 ⟨rfl, q3⟩; have H3 := Lib.hid q3; clear q3)
        go_roundg (n - k - 1)
        case measure => omega
        case rel => exact ⟨k + 1, by omega, by go_num, Lib.hid ⟨HR.out.1.then H3.out, HZ.out⟩⟩
    · obtain rfl : k = n := by omega
      have HZ := Lib.hid (show idxI l now = -1 by
        unfold idxI
        rw [if_neg (by rw [dueN_none (by rw [← HN.out]; exact HR.out.2)]; omega)])
      go_wp2
      go_ret
      exact ⟨by rw [HZ.out]; rfl, HR.out.1⟩
/-- Those that are there. -/
def thereL (l : List Rf) (now : Int) : List Rf := l.filter (fun x => decide (x.2 ≤ now))
theorem thereL_snoc {l : List Rf} {k : Nat} {x : Rf} {now : Int} (h : l[k]? = some x) : thereL (l.take (k + 1)) now = thereL (l.take k) now ++ (if x.2 ≤ now then [x] else []) := by
  unfold thereL
  rw [take_snoc h, List.filter_append]
  congr 1
  by_cases e : x.2 ≤ now <;> simp [e]
theorem Ok.there {l : List Rf} (h : Ok l) (now : Int) : Ok (thereL l now) := fun x hx => h x (List.mem_filter.1 hx).1
def thereP (l : List Rf) (now : Int) : Int := if sumF (thereL l now) then sumP (thereL l now) else 18446744073709551615
end Go.Proofs
