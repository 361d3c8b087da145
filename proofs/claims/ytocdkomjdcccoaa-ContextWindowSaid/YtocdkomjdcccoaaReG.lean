import Derived.Test.YtocdkomjdcccoaaReF
namespace Go.Proofs
open Go.RowKit
set_option linter.unusedVariables false

/-- The At of the one ahead. -/
def aheadP (l : List Rf) : Nat → Int
  | 0 => 0
  | k + 1 => ((l[k]?).getD (0, 0)).2
theorem aheadP_succ {l : List Rf} {k : Nat} {x : Rf} (h : l[k]? = some x) : aheadP l (k + 1) = x.2 := by show ((l[k]?).getD (0, 0)).2 = x.2; rw [h]; rfl
/-- Is the k-th one wrong? -/
def badP (l : List Rf) (k : Nat) : Bool := wrongP (decide (0 < k)) (aheadP l k) ((l[k]?).getD (0, 0))
theorem badP_at {l : List Rf} {k : Nat} {x : Rf} (h : l[k]? = some x) : badP l k = wrongP (decide (0 < k)) (aheadP l k) x := by unfold badP; rw [h]; rfl
/-- Do they rise, and is each of 1 at least? -/
def fineP (l : List Rf) : Bool := decide (∀ k, k < l.length → badP l k = false)
theorem fineP_iff {l : List Rf} : fineP l = true ↔ ∀ k, k < l.length → badP l k = false := by unfold fineP; exact decide_eq_true_iff
theorem fineP_no {l : List Rf} {k : Nat} (hk : k < l.length) (h : badP l k = true) : fineP l = false := by
  unfold fineP
  refine decide_eq_false (fun e => ?_)
  rw [e k hk] at h
  cases h
/-- May the list be? -/
def mayP (l : List Rf) : Bool := sumF l && fineP l
set_option maxHeartbeats 3200000 in
set_option maxRecDepth 100000 in
/-- The first one that is wrong. -/
theorem first_wrong {w : World} {v : Value} {l : List Rf} {bB bA : Nat} (h : Rd w v l) (hB : Blk w bB 4 #[.bool false]) (hA : Blk w bA 22 #[.int .u64 0]) (hn : l.length ≤ 100000) (hf : ∀ k ∈ foot v, k ∉ [bB, bA]) :
    Calls Try.prog 57 #[v, .func (.func 59) #[] #[.pointer (some ⟨bB, 0, none⟩), .pointer (some ⟨bA, 0, none⟩)]] w fun e w' => (∃ q : Nat, e = .returned (.int .i64 q) ∧ ((q : Int) == (l.length : Int)) = fineP l) ∧ Chg [bB, bA] w w' := by
  obtain ⟨A, c, rfl, _, _, _, hcell⟩ := h.open_
  obtain ⟨n, e1⟩ : ∃ n, n = l.length := ⟨_, rfl⟩
  rw [← e1] at hn hf ⊢
  have HN := Lib.hid e1
  have HC := Lib.hid hcell
  have HF := Lib.hid hf
  have HI := Lib.hid (show Blk w bB 4 #[.bool (decide (0 < 0))] ∧ Blk w bA 22 #[.int .u64 (aheadP l 0)] ∧ Chg [bB, bA] w w from ⟨hB, hA, Chg.refl _ _⟩)
  clear h e1 hcell hB hA hf
  go_enter Try.func57, Try.ntmps57
  go_wp2
  go_loopg [9] n (fun gh i wx => ∃ k : Nat, k + gh = n ∧ i = .int .i64 k ∧ Hid ((Blk wx bB 4 #[.bool (decide (0 < k))] ∧ Blk wx bA 22 #[.int .u64 (aheadP l k)] ∧ Chg [bB, bA] w wx) ∧ ∀ j, j < k → badP l j = false))
  case atStart => exact ⟨0, by omega, rfl, Lib.hid ⟨HI.out, fun j hj => by omega⟩⟩
  case round =>
    obtain ⟨k, hk, rfl, HR⟩ := hrel
    by_cases hlt : k < n
    · have k0 : (0 : Int) ≤ (k : Int) := by omega
      have k1 : (k : Int) < (n : Int) := by omega
      obtain ⟨x, hx⟩ : ∃ x, l[k]? = some x := ⟨_, List.getElem?_eq_getElem (by rw [← HN.out]; exact hlt)⟩
      obtain ⟨b, o, rfl, lb, p0, p1⟩ := HC.out k x hx
      have hc := HR.out.1.2.2
      have hbf := HF.out b (by simp [foot_some])
      have x0 := (hc.cell (p := ⟨b, o + k * 2, none⟩) lb hbf).trans p0
      have x1 := (hc.cell (p := ⟨b, o + k * 2 + 1, none⟩) lb hbf).trans p1
      have HX := Lib.hid (badP_at hx)
      have HX2 := Lib.hid (aheadP_succ hx)
      obtain ⟨xa, xt⟩ := x
      simp only at x0 x1
      have hstep := fun (o : Obj) => wrong_step (HR.out.1.1.alloc o) (HR.out.1.2.1.alloc o) xa xt
      rw [← HX.out] at hstep
      cases hbd : badP l k with
      | true =>
        rw [hbd] at hstep
        have HZ := Lib.hid (fineP_no (by rw [← HN.out]; exact hlt) hbd)
        have HNE := Lib.hid (show ((k : Int) == (n : Int)) = false by simp; omega)
        clear hx hc hbf p0 p1 hbd
        go_wp2_with (go_at_call 59; refine (hstep _).mono ?_; rintro e w1 ⟨rfl, q1, q2, q3⟩; have H1 := Lib.hid q3; clear q1 q2 q3)
        go_ret
        exact ⟨⟨k, rfl, by rw [HZ.out]; exact HNE.out⟩, (HR.out.1.2.2.alloc _).trans H1.out (fun k hk => .inl hk)⟩
      | false =>
        rw [hbd] at hstep
        have HZ := Lib.hid (show ∀ j, j < k + 1 → badP l j = false from fun j hj => by
          by_cases e : j = k
          · subst e; exact hbd
          · exact HR.out.2 j (by omega))
        clear hx hc hbf p0 p1 hbd
        go_wp2_with (go_at_call 59; refine (hstep _).mono ?_; rintro e w1 ⟨rfl, q1, q2, q3⟩; have H1 := Lib.hid q1; have H2 := Lib.hid q2; have H3 := Lib.hid q3; clear q1 q2 q3)
        go_roundg (n - k - 1)
        case measure => omega
        case rel => exact ⟨k + 1, by omega, by go_num, Lib.hid ⟨⟨by rw [show decide (0 < k + 1) = true by simp]; exact H1.out, by rw [HX2.out]; exact H2.out, (HR.out.1.2.2.alloc _).trans H3.out (fun k hk => .inl hk)⟩, HZ.out⟩⟩
    · obtain rfl : k = n := by omega
      have HZ := Lib.hid (show fineP l = true by rw [fineP_iff, ← HN.out]; exact HR.out.2)
      go_wp2
      go_ret
      exact ⟨⟨k, rfl, by rw [HZ.out]; simp⟩, HR.out.1.2.2⟩
/-- How many are there. -/
def dueN (l : List Rf) (now : Int) : Nat := l.findIdx (fun x => decide (now < x.2))
theorem dueN_le (l : List Rf) (now : Int) : dueN l now ≤ l.length := List.findIdx_le_length
theorem dueN_first {l : List Rf} {now : Int} {k : Nat} {x : Rf} (h : ∀ j y, j < k → l[j]? = some y → y.2 ≤ now) (hk : l[k]? = some x) (hx : now < x.2) : dueN l now = k := by
  have hl := (List.getElem?_eq_some_iff.1 hk).1
  have hxx := (List.getElem?_eq_some_iff.1 hk).2
  unfold dueN
  rw [List.findIdx_eq hl]
  refine ⟨by rw [hxx]; simpa using hx, fun j hj => ?_⟩
  have := h j _ hj (List.getElem?_eq_getElem (by omega))
  simpa using this
theorem dueN_none {l : List Rf} {now : Int} (h : ∀ j y, j < l.length → l[j]? = some y → y.2 ≤ now) : dueN l now = l.length := by
  unfold dueN
  rw [List.findIdx_eq_length]
  intro x hx
  obtain ⟨j, hj, hje⟩ := List.mem_iff_getElem.1 hx
  have := h j x hj (by rw [List.getElem?_eq_getElem hj, hje])
  simpa using this
set_option maxHeartbeats 3200000 in
set_option maxRecDepth 100000 in
/-- The first one whose time has not come. -/
theorem first_above {w : World} {v : Value} {l : List Rf} {bN : Nat} {now : Int} (h : Rd w v l) (hB : Blk w bN 22 #[.int .u64 now]) (hn : l.length ≤ 100000) :
    Calls Try.prog 57 #[v, .func (.func 51) #[] #[.pointer (some ⟨bN, 0, none⟩)]] w fun e w' => e = .returned (.int .i64 (dueN l now : Nat)) ∧ Chg [] w w' := by
  obtain ⟨A, c, rfl, _, _, _, hcell⟩ := h.open_
  obtain ⟨n, e1⟩ : ∃ n, n = l.length := ⟨_, rfl⟩
  rw [← e1] at hn ⊢
  have HN := Lib.hid e1
  have HC := Lib.hid hcell
  have HB := Lib.hid hB
  clear h e1 hcell hB
  go_enter Try.func57, Try.ntmps57
  go_wp2
  go_loopg [9] n (fun gh i wx => ∃ k : Nat, k + gh = n ∧ i = .int .i64 k ∧ Hid (Chg [] w wx ∧ ∀ j (y : Rf), j < k → l[j]? = some y → y.2 ≤ now))
  case atStart => exact ⟨0, by omega, rfl, Lib.hid ⟨Chg.refl _ _, fun j y hj => by omega⟩⟩
  case round =>
    obtain ⟨k, hk, rfl, HR⟩ := hrel
    by_cases hlt : k < n
    · have k0 : (0 : Int) ≤ (k : Int) := by omega
      have k1 : (k : Int) < (n : Int) := by omega
      obtain ⟨x, hx⟩ : ∃ x, l[k]? = some x := ⟨_, List.getElem?_eq_getElem (by rw [← HN.out]; exact hlt)⟩
      obtain ⟨b, o, rfl, lb, p0, p1⟩ := HC.out k x hx
      have hc := HR.out.1
      have x0 := (hc.cell (p := ⟨b, o + k * 2, none⟩) lb (by simp)).trans p0
      have x1 := (hc.cell (p := ⟨b, o + k * 2 + 1, none⟩) lb (by simp)).trans p1
      have HX := Lib.hid hx
      obtain ⟨xa, xt⟩ := x
      simp only at x0 x1
      have hstep := fun (o : Obj) => above_step ((HB.out.chg hc (by simp)).alloc o) xa xt
      by_cases hbd : now < xt
      · rw [show decide (now < xt) = true by simpa using hbd] at hstep
        have HZ := Lib.hid (dueN_first HR.out.2 HX.out hbd)
        clear hx hc p0 p1 hbd
        go_wp2_with (go_at_call 51; refine (hstep _).mono ?_; rintro e w1 ⟨rfl, q3⟩; have H1 := Lib.hid q3; clear q3)
        go_ret
        exact ⟨by rw [HZ.out]; rfl, (HR.out.1.alloc _).then H1.out⟩
      · rw [show decide (now < xt) = false by simpa using hbd] at hstep
        have HZ := Lib.hid (show ∀ j (y : Rf), j < k + 1 → l[j]? = some y → y.2 ≤ now from fun j y hj hy => by
          by_cases e : j = k
          · subst e
            rw [HX.out] at hy
            cases hy
            simp only
            omega
          · exact HR.out.2 j y (by omega) hy)
        clear hx hc p0 p1 hbd
        go_wp2_with (go_at_call 51; refine (hstep _).mono ?_; rintro e w1 ⟨rfl, q3⟩; have H3 := Lib.hid q3; clear q3)
        go_roundg (n - k - 1)
        case measure => omega
        case rel => exact ⟨k + 1, by omega, by go_num, Lib.hid ⟨(HR.out.1.alloc _).then H3.out, HZ.out⟩⟩
    · obtain rfl : k = n := by omega
      have HZ := Lib.hid (show dueN l now = k by rw [HN.out]; exact dueN_none (by rw [← HN.out]; exact HR.out.2))
      go_wp2
      go_ret
      exact ⟨by rw [HZ.out]; rfl, HR.out.1⟩
set_option maxHeartbeats 3200000 in
set_option maxRecDepth 100000 in
/-- May the list be? -/
theorem may_any {w : World} {v : Value} {l : List Rf} (h : Rd w v l) (hk : Ok l) (hn : l.length ≤ 100000) :
    Calls Try.prog 54 #[v] w fun e w' => e = .returned (.bool (mayP l)) ∧ Chg [] w w' := by
  have hs := sum_any h hk hn
  have HL := Lib.hid h.lt
  have HH := Lib.hid h
  obtain ⟨A, c, rfl, _⟩ := h.open_
  obtain ⟨n, e1⟩ : ∃ n, n = l.length := ⟨_, rfl⟩
  unfold mayP
  obtain ⟨S, hS⟩ : ∃ S, S = sumN l := ⟨_, rfl⟩
  cases hF : sumF l with
  | false =>
    rw [← hS, hF] at hs
    clear hS hF hk h
    go_enter Try.func54, Try.ntmps54
    go_wp2_with (go_at_call 38; refine hs.mono ?_; rintro e w1 ⟨rfl, hc1⟩; have H1 := Lib.hid hc1; clear hc1)
    go_ret
    exact ⟨rfl, H1.out⟩
  | true =>
    rw [← hS, hF] at hs
    have HN := Lib.hid hn
    have E1 := Lib.hid e1
    rw [← e1] at hs HL HH ⊢
    clear hS hF hk h hn e1
    go_enter Try.func54, Try.ntmps54
    go_wp2_with (first
      | (go_at_call 38; refine hs.mono ?_; rintro e w1 ⟨rfl, hc1⟩; have H1 := Lib.hid hc1; clear hc1)
      | (go_at_call 58; refine (wrong_any _).mono ?_; rintro e w2 ⟨rfl, q1, q2, q3⟩; have H2 := Lib.hid q1; have H3 := Lib.hid q2; have H4 := Lib.hid q3; clear q1 q2 q3)
      | (go_at_call 57; refine (first_wrong (l := l) (by have := (HH.out.quiet H1.out).quiet H4.out; exact this) H2.out H3.out HN.out (fun k hk hm => by have := HL.out k hk; have := H1.out.size; simp at hm; omega)).mono ?_; rintro e w3 ⟨⟨q, rfl, hq⟩, hc3⟩; rw [← E1.out] at hq; have H5 := Lib.hid hc3; clear hc3))
    go_ret
    exact ⟨rfl, (H1.out.then H4.out).trans H5.out (fun k hk => by have := H1.out.size; simp at hk; omega)⟩
end Go.Proofs
