import Derived.Test.YtocdkomjdcccoaaGreatM3
import Derived.Laws.EntriesVeiled
import Derived.Laws.IdiomCopy
import Derived.ArgAppend
section
namespace Go.Proofs
open Go.RowKit
set_option linter.unusedVariables false

theorem Blk.at (w : World) (t : TypeId) (cs : Array Value) {n : Nat} (h : n = w.heap.size) : Blk (w.alloc (.cells cs t)) n t cs := by subst h; exact Blk.new w t cs
/-! ### Whose time has not come -/
/-- The closure that asks for refills whose time has not come. -/
theorem above_step {w : World} {bN : Nat} {now : Int} (hN : Blk w bN 32 #[.int .u64 now]) (x y : Int) :
    Calls Tryz.prog 121 #[.agg #[.int .u64 x, .int .u64 y], .pointer (some ⟨bN, 0, none⟩)] w fun e w' => e = .returned (.bool (decide (now < y))) ∧ Chg [] w w' := by
  have c0 := hN.cell 0
  have ln := hN.lt
  clear hN
  go_enter Tryz.func121, Tryz.ntmps121
  go_wp2
  go_ret
  exact ⟨rfl, (Chg.refl _ _).alloc _⟩
theorem above_any (w : World) (now : Int) :
    Calls Tryz.prog 107 #[.int .u64 now] w fun e w' => e = .returned (.func (.func 121) #[] #[.pointer (some ⟨w.heap.size, 0, none⟩)]) ∧ Blk w' w.heap.size 32 #[.int .u64 now] ∧ Chg [] w w' := by
  go_enter Tryz.func107, Tryz.ntmps107
  go_wp2
  go_ret
  exact ⟨rfl, Blk.new _ _ _, (Chg.refl _ _).alloc _⟩
/-! ### What is wrong -/
def wrongP (b : Bool) (a : Int) (x : Rf) : Bool := x.1 == 0 || (b && decide (x.2 ≤ a))
set_option maxHeartbeats 1600000 in
theorem wrong_step {w : World} {bB bA : Nat} {b : Bool} {a : Int} (hB : Blk w bB 4 #[.bool b]) (hA : Blk w bA 32 #[.int .u64 a]) (x y : Int) :
    Calls Tryz.prog 137 #[.agg #[.int .u64 x, .int .u64 y], .pointer (some ⟨bB, 0, none⟩), .pointer (some ⟨bA, 0, none⟩)] w fun e w' => e = .returned (.bool (wrongP b a (x, y))) ∧ Blk w' bB 4 #[.bool true] ∧ Blk w' bA 32 #[.int .u64 y] ∧ Chg [bB, bA] w w' := by
  have c0 := hB.cell 0
  have c1 := hA.cell 0
  have f0 := hB.frozen 0
  have f1 := hA.frozen 0
  have l0 := hB.lt
  have l1 := hA.lt
  have hne : bB ≠ bA := hB.ty hA (by decide)
  have hne' : bA ≠ bB := Ne.symm hne
  have HEnd := Lib.hid (fun (o : Obj) => (⟨by have := (((hB.set_ 0 (.bool true)).far (p := ⟨bA, 0, none⟩) hne (.int .u64 y)).alloc o).drew; simpa using this, by have := (((hA.far (p := ⟨bB, 0, none⟩) hne' (.bool true)).set_ 0 (.int .u64 y)).alloc o).drew; simpa using this, ((((Chg.refl [bB, bA] w).setCell (p := ⟨bB, 0, none⟩) (.inl (by simp)) _).setCell (p := ⟨bA, 0, none⟩) (.inl (by simp)) _).alloc o).drew⟩ : Blk (((w.setCell ⟨bB, 0, none⟩ (.bool true)).setCell ⟨bA, 0, none⟩ (.int .u64 y)).alloc o).drew bB 4 #[.bool true] ∧ Blk (((w.setCell ⟨bB, 0, none⟩ (.bool true)).setCell ⟨bA, 0, none⟩ (.int .u64 y)).alloc o).drew bA 32 #[.int .u64 y] ∧ Chg [bB, bA] w (((w.setCell ⟨bB, 0, none⟩ (.bool true)).setCell ⟨bA, 0, none⟩ (.int .u64 y)).alloc o).drew))
  have HEnd2 := Lib.hid (fun (o : Obj) => (⟨by have := (((hB.far (p := ⟨bA, 0, none⟩) hne (.int .u64 y)).set_ 0 (.bool true)).alloc o).drew; simpa using this, by have := (((hA.set_ 0 (.int .u64 y)).far (p := ⟨bB, 0, none⟩) hne' (.bool true)).alloc o).drew; simpa using this, ((((Chg.refl [bB, bA] w).setCell (p := ⟨bA, 0, none⟩) (.inl (by simp)) _).setCell (p := ⟨bB, 0, none⟩) (.inl (by simp)) _).alloc o).drew⟩ : Blk (((w.setCell ⟨bA, 0, none⟩ (.int .u64 y)).setCell ⟨bB, 0, none⟩ (.bool true)).alloc o).drew bB 4 #[.bool true] ∧ Blk (((w.setCell ⟨bA, 0, none⟩ (.int .u64 y)).setCell ⟨bB, 0, none⟩ (.bool true)).alloc o).drew bA 32 #[.int .u64 y] ∧ Chg [bB, bA] w (((w.setCell ⟨bA, 0, none⟩ (.int .u64 y)).setCell ⟨bB, 0, none⟩ (.bool true)).alloc o).drew))
  clear hB hA
  by_cases hx : x = 0
  · subst hx
    rw [show wrongP b a (0, y) = true from rfl]
    go_enter Tryz.func137, Tryz.ntmps137
    go_wp2
    go_region
    all_goals
      go_wp2
      go_ret
      first
        | exact ⟨rfl, HEnd.out _⟩
        | exact ⟨rfl, HEnd2.out _⟩
  · have g0 : (x == 0) = false := by simpa using hx
    cases b with
    | true =>
      rw [show wrongP true a (x, y) = decide (y ≤ a) by unfold wrongP; simp [hx]]
      clear hx
      go_enter Tryz.func137, Tryz.ntmps137
      go_wp2
      go_region
      all_goals
        go_wp2
        go_ret
        first
          | exact ⟨rfl, HEnd.out _⟩
          | exact ⟨rfl, HEnd2.out _⟩
    | false =>
      rw [show wrongP false a (x, y) = false by unfold wrongP; simp [hx]]
      clear hx
      go_enter Tryz.func137, Tryz.ntmps137
      go_wp2
      go_region
      all_goals
        go_wp2
        go_ret
        first
          | exact ⟨rfl, HEnd.out _⟩
          | exact ⟨rfl, HEnd2.out _⟩
theorem wrong_any (w : World) :
    Calls Tryz.prog 124 #[] w fun e w' => e = .returned (.func (.func 137) #[] #[.pointer (some ⟨w.heap.size + 1, 0, none⟩), .pointer (some ⟨w.heap.size, 0, none⟩)]) ∧ Blk w' (w.heap.size + 1) 4 #[.bool false] ∧ Blk w' w.heap.size 32 #[.int .u64 0] ∧ Chg [] w w' := by
  go_enter Tryz.func124, Tryz.ntmps124
  go_wp2
  go_ret
  refine ⟨rfl, Blk.at (w.alloc _) 4 _ (by simp), (Blk.new w 32 _).alloc _, ((Chg.refl _ _).alloc _).alloc _⟩
end Go.Proofs
end
section
namespace Go.Proofs
open Go.RowKit
set_option linter.unusedVariables false

/-- The At of the one ahead. -/
def aheadP (l : List Rf) : Nat → Int
  | 0 => 0
  | k + 1 => ((l[k]?).getD (0, 0)).2
theorem aheadP_succ {l : List Rf} {k : Nat} {x : Rf} (h : l[k]? = some x) : aheadP l (k + 1) = x.2 := by show ((l[k]?).getD (0, 0)).2 = x.2; rw [h]; rfl
/-- Is the k-th one wrong? -/
def badP (l : List Rf) (k : Nat) : Bool := wrongP (decide (0 < k)) (aheadP l k) ((l[k]?).getD (0, 0))
theorem badP_at {l : List Rf} {k : Nat} {x : Rf} (h : l[k]? = some x) : badP l k = wrongP (decide (0 < k)) (aheadP l k) x := by unfold badP; rw [h]; rfl
/-- Do they rise, and is each of 1 at least? -/
def fineP (l : List Rf) : Bool := decide (∀ k, k < l.length → badP l k = false)
theorem fineP_iff {l : List Rf} : fineP l = true ↔ ∀ k, k < l.length → badP l k = false := by unfold fineP; exact decide_eq_true_iff
theorem fineP_no {l : List Rf} {k : Nat} (hk : k < l.length) (h : badP l k = true) : fineP l = false := by
  unfold fineP
  refine decide_eq_false (fun e => ?_)
  rw [e k hk] at h
  cases h
/-- May the list be? -/
def mayP (l : List Rf) : Bool := sumF l && fineP l
set_option maxHeartbeats 3200000 in
set_option maxRecDepth 100000 in
/-- The first one that is wrong. -/
theorem first_wrong {w : World} {v : Value} {l : List Rf} {bB bA : Nat} (h : Rd w v l) (hB : Blk w bB 4 #[.bool false]) (hA : Blk w bA 32 #[.int .u64 0]) (hn : l.length ≤ 100000) (hf : ∀ k ∈ foot v, k ∉ [bB, bA]) :
    Calls Tryz.prog 123 #[v, .func (.func 137) #[] #[.pointer (some ⟨bB, 0, none⟩), .pointer (some ⟨bA, 0, none⟩)]] w fun e w' => (∃ q : Nat, e = .returned (.int .i64 q) ∧ ((q : Int) == (l.length : Int)) = fineP l) ∧ Chg [bB, bA] w w' := by
  obtain ⟨A, c, rfl, _, _, _, hcell⟩ := h.open_
  obtain ⟨n, e1⟩ : ∃ n, n = l.length := ⟨_, rfl⟩
  rw [← e1] at hn hf ⊢
  have HN := Lib.hid e1
  have HC := Lib.hid hcell
  have HF := Lib.hid hf
  have HI := Lib.hid (show Blk w bB 4 #[.bool (decide (0 < 0))] ∧ Blk w bA 32 #[.int .u64 (aheadP l 0)] ∧ Chg [bB, bA] w w from ⟨hB, hA, Chg.refl _ _⟩)
  clear h e1 hcell hB hA hf
  go_enter Tryz.func123, Tryz.ntmps123
  go_wp2
  go_loopg [9] n (fun gh i wx => ∃ k : Nat, k + gh = n ∧ i = .int .i64 k ∧ Hid ((Blk wx bB 4 #[.bool (decide (0 < k))] ∧ Blk wx bA 32 #[.int .u64 (aheadP l k)] ∧ Chg [bB, bA] w wx) ∧ ∀ j, j < k → badP l j = false))
  case atStart => exact ⟨0, by omega, rfl, Lib.hid ⟨HI.out, fun j hj => by omega⟩⟩
  case round =>
    obtain ⟨k, hk, rfl, HR⟩ := hrel
    by_cases hlt : k < n
    · have k0 : (0 : Int) ≤ (k : Int) := by omega
      have k1 : (k : Int) < (n : Int) := by omega
      obtain ⟨x, hx⟩ : ∃ x, l[k]? = some x := ⟨_, List.getElem?_eq_getElem (by rw [← HN.out]; exact hlt)⟩
      obtain ⟨b, o, rfl, lb, p0, p1⟩ := HC.out k x hx
      have hc := HR.out.1.2.2
      have hbf := HF.out b (by simp [foot_some])
      have x0 := (hc.cell (p := ⟨b, o + k * 2, none⟩) lb hbf).trans p0
      have x1 := (hc.cell (p := ⟨b, o + k * 2 + 1, none⟩) lb hbf).trans p1
      have HX := Lib.hid (badP_at hx)
      have HX2 := Lib.hid (aheadP_succ hx)
      obtain ⟨xa, xt⟩ := x
      simp only at x0 x1
      have hstep := fun (o : Obj) => wrong_step (HR.out.1.1.alloc o) (HR.out.1.2.1.alloc o) xa xt
      rw [← HX.out] at hstep
      cases hbd : badP l k with
      | true =>
        rw [hbd] at hstep
        have HZ := Lib.hid (fineP_no (by rw [← HN.out]; exact hlt) hbd)
        have HNE := Lib.hid (show ((k : Int) == (n : Int)) = false by simp; omega)
        clear hx hc hbf p0 p1 hbd
        go_wp2_with (go_at_call 137; refine (hstep _).mono ?_; rintro e w1 ⟨rfl, q1, q2, q3⟩; have H1 := Lib.hid q3; clear q1 q2 q3)
        go_ret
        exact ⟨⟨k, rfl, by rw [HZ.out]; exact HNE.out⟩, (HR.out.1.2.2.alloc _).trans H1.out (fun k hk => .inl hk)⟩
      | false =>
        rw [hbd] at hstep
        have HZ := Lib.hid (show ∀ j, j < k + 1 → badP l j = false from fun j hj => by
          by_cases e : j = k
          · subst e; exact hbd
          · exact HR.out.2 j (by omega))
        clear hx hc hbf p0 p1 hbd
        go_wp2_with (go_at_call 137; refine (hstep _).mono ?_; rintro e w1 ⟨rfl, q1, q2, q3⟩; have H1 := Lib.hid q1; have H2 := Lib.hid q2; have H3 := Lib.hid q3; clear q1 q2 q3)
        go_roundg (n - k - 1)
        case measure => omega
        case rel => exact ⟨k + 1, by omega, by go_num, Lib.hid ⟨⟨by rw [show decide (0 < k + 1) = true by simp]; exact H1.out, by rw [HX2.out]; exact H2.out, (HR.out.1.2.2.alloc _).trans H3.out (fun k hk => .inl hk)⟩, HZ.out⟩⟩
    · obtain rfl : k = n := by omega
      have HZ := Lib.hid (show fineP l = true by rw [fineP_iff, ← HN.out]; exact HR.out.2)
      go_wp2
      go_ret
      exact ⟨⟨k, rfl, by rw [HZ.out]; simp⟩, HR.out.1.2.2⟩
/-- How many are there. -/
def dueN (l : List Rf) (now : Int) : Nat := l.findIdx (fun x => decide (now < x.2))
theorem dueN_le (l : List Rf) (now : Int) : dueN l now ≤ l.length := List.findIdx_le_length
theorem dueN_first {l : List Rf} {now : Int} {k : Nat} {x : Rf} (h : ∀ j y, j < k → l[j]? = some y → y.2 ≤ now) (hk : l[k]? = some x) (hx : now < x.2) : dueN l now = k := by
  have hl := (List.getElem?_eq_some_iff.1 hk).1
  have hxx := (List.getElem?_eq_some_iff.1 hk).2
  unfold dueN
  rw [List.findIdx_eq hl]
  refine ⟨by rw [hxx]; simpa using hx, fun j hj => ?_⟩
  have := h j _ hj (List.getElem?_eq_getElem (by omega))
  simpa using this
theorem dueN_none {l : List Rf} {now : Int} (h : ∀ j y, j < l.length → l[j]? = some y → y.2 ≤ now) : dueN l now = l.length := by
  unfold dueN
  rw [List.findIdx_eq_length]
  intro x hx
  obtain ⟨j, hj, hje⟩ := List.mem_iff_getElem.1 hx
  have := h j x hj (by rw [List.getElem?_eq_getElem hj, hje])
  simpa using this
set_option maxHeartbeats 3200000 in
set_option maxRecDepth 100000 in
/-- The first one whose time has not come. -/
theorem first_above {w : World} {v : Value} {l : List Rf} {bN : Nat} {now : Int} (h : Rd w v l) (hB : Blk w bN 32 #[.int .u64 now]) (hn : l.length ≤ 100000) :
    Calls Tryz.prog 123 #[v, .func (.func 121) #[] #[.pointer (some ⟨bN, 0, none⟩)]] w fun e w' => e = .returned (.int .i64 (dueN l now : Nat)) ∧ Chg [] w w' := by
  obtain ⟨A, c, rfl, _, _, _, hcell⟩ := h.open_
  obtain ⟨n, e1⟩ : ∃ n, n = l.length := ⟨_, rfl⟩
  rw [← e1] at hn ⊢
  have HN := Lib.hid e1
  have HC := Lib.hid hcell
  have HB := Lib.hid hB
  clear h e1 hcell hB
  go_enter Tryz.func123, Tryz.ntmps123
  go_wp2
  go_loopg [9] n (fun gh i wx => ∃ k : Nat, k + gh = n ∧ i = .int .i64 k ∧ Hid (Chg [] w wx ∧ ∀ j (y : Rf), j < k → l[j]? = some y → y.2 ≤ now))
  case atStart => exact ⟨0, by omega, rfl, Lib.hid ⟨Chg.refl _ _, fun j y hj => by omega⟩⟩
  case round =>
    obtain ⟨k, hk, rfl, HR⟩ := hrel
    by_cases hlt : k < n
    · have k0 : (0 : Int) ≤ (k : Int) := by omega
      have k1 : (k : Int) < (n : Int) := by omega
      obtain ⟨x, hx⟩ : ∃ x, l[k]? = some x := ⟨_, List.getElem?_eq_getElem (by rw [← HN.out]; exact hlt)⟩
      obtain ⟨b, o, rfl, lb, p0, p1⟩ := HC.out k x hx
      have hc := HR.out.1
      have x0 := (hc.cell (p := ⟨b, o + k * 2, none⟩) lb (by simp)).trans p0
      have x1 := (hc.cell (p := ⟨b, o + k * 2 + 1, none⟩) lb (by simp)).trans p1
      have HX := Lib.hid hx
      obtain ⟨xa, xt⟩ := x
      simp only at x0 x1
      have hstep := fun (o : Obj) => above_step ((HB.out.chg hc (by simp)).alloc o) xa xt
      by_cases hbd : now < xt
      · rw [show decide (now < xt) = true by simpa using hbd] at hstep
        have HZ := Lib.hid (dueN_first HR.out.2 HX.out hbd)
        clear hx hc p0 p1 hbd
        go_wp2_with (go_at_call 121; refine (hstep _).mono ?_; rintro e w1 ⟨rfl, q3⟩; have H1 := Lib.hid q3; clear q3)
        go_ret
        exact ⟨by rw [HZ.out]; rfl, (HR.out.1.alloc _).then H1.out⟩
      · rw [show decide (now < xt) = false by simpa using hbd] at hstep
        have HZ := Lib.hid (show ∀ j (y : Rf), j < k + 1 → l[j]? = some y → y.2 ≤ now from fun j y hj hy => by
          by_cases e : j = k
          · subst e
            rw [HX.out] at hy
            cases hy
            simp only
            omega
          · exact HR.out.2 j y (by omega) hy)
        clear hx hc p0 p1 hbd
        go_wp2_with (go_at_call 121; refine (hstep _).mono ?_; rintro e w1 ⟨rfl, q3⟩; have H3 := Lib.hid q3; clear q3)
        go_roundg (n - k - 1)
        case measure => omega
        case rel => exact ⟨k + 1, by omega, by go_num, Lib.hid ⟨(HR.out.1.alloc _).then H3.out, HZ.out⟩⟩
    · obtain rfl : k = n := by omega
      have HZ := Lib.hid (show dueN l now = k by rw [HN.out]; exact dueN_none (by rw [← HN.out]; exact HR.out.2))
      go_wp2
      go_ret
      exact ⟨by rw [HZ.out]; rfl, HR.out.1⟩
set_option maxHeartbeats 3200000 in
set_option maxRecDepth 100000 in
/-- May the list be? -/
theorem may_any {w : World} {v : Value} {l : List Rf} (h : Rd w v l) (hk : Ok l) (hn : l.length ≤ 100000) :
    Calls Tryz.prog 116 #[v] w fun e w' => e = .returned (.bool (mayP l)) ∧ Chg [] w w' := by
  have hs := sum_any h hk hn
  have HL := Lib.hid h.lt
  have HH := Lib.hid h
  obtain ⟨A, c, rfl, _⟩ := h.open_
  obtain ⟨n, e1⟩ : ∃ n, n = l.length := ⟨_, rfl⟩
  unfold mayP
  obtain ⟨S, hS⟩ : ∃ S, S = sumN l := ⟨_, rfl⟩
  cases hF : sumF l with
  | false =>
    rw [← hS, hF] at hs
    clear hS hF hk h
    go_enter Tryz.func116, Tryz.ntmps116
    go_wp2_with (go_at_call 105; refine hs.mono ?_; rintro e w1 ⟨rfl, hc1⟩; have H1 := Lib.hid hc1; clear hc1)
    go_ret
    exact ⟨rfl, H1.out⟩
  | true =>
    rw [← hS, hF] at hs
    have HN := Lib.hid hn
    have E1 := Lib.hid e1
    rw [← e1] at hs HL HH ⊢
    clear hS hF hk h hn e1
    go_enter Tryz.func116, Tryz.ntmps116
    go_wp2_with (first
      | (go_at_call 105; refine hs.mono ?_; rintro e w1 ⟨rfl, hc1⟩; have H1 := Lib.hid hc1; clear hc1)
      | (go_at_call 124; refine (wrong_any _).mono ?_; rintro e w2 ⟨rfl, q1, q2, q3⟩; have H2 := Lib.hid q1; have H3 := Lib.hid q2; have H4 := Lib.hid q3; clear q1 q2 q3)
      | (go_at_call 123; refine (first_wrong (l := l) (by have := (HH.out.quiet H1.out).quiet H4.out; exact this) H2.out H3.out HN.out (fun k hk hm => by have := HL.out k hk; have := H1.out.size; simp at hm; omega)).mono ?_; rintro e w3 ⟨⟨q, rfl, hq⟩, hc3⟩; rw [← E1.out] at hq; have H5 := Lib.hid hc3; clear hc3))
    go_ret
    exact ⟨rfl, (H1.out.then H4.out).trans H5.out (fun k hk => by have := H1.out.size; simp at hk; omega)⟩
end Go.Proofs
end
section
namespace Go.Proofs
open Go.RowKit
set_option linter.unusedVariables false

set_option maxHeartbeats 3200000 in
set_option maxRecDepth 100000 in
/-- The document's May. -/
theorem rmay_any {w : World} {v : Value} {l : List Rf} (h : In w v l) (hk : Ok l) (hn : l.length ≤ 100000) :
    Calls Tryz.prog 16 #[v] w fun e w' => e = .returned (.bool (mayP l)) ∧ Chg [] w w' := by
  have hs := fun W (hW : Chg [] w W) => rsum_any (h.quiet hW) hk hn
  obtain ⟨A, c, rfl, _, _, _, hcell⟩ := h.open_
  obtain ⟨n, e1⟩ : ∃ n, n = l.length := ⟨_, rfl⟩
  rw [← e1] at hn hs ⊢
  have HN := Lib.hid e1
  have HC := Lib.hid hcell
  have HK := Lib.hid hk
  have HS := Lib.hid hs
  unfold mayP
  clear h e1 hcell hk hs
  go_enter Tryz.func16, Tryz.ntmps16
  go_wp2
  go_loopg [3] n (fun gh i wx => ∃ k : Nat, k + gh = n ∧ i = .int .i64 k ∧ Hid (Chg [] w wx ∧ ∀ j, j < k → badP l j = false))
  case atStart => exact ⟨0, by omega, rfl, Lib.hid ⟨Chg.refl _ _, fun j hj => by omega⟩⟩
  case round =>
    obtain ⟨k, hk, rfl, HR⟩ := hrel
    by_cases hlt : k < n
    · have k0 : (0 : Int) ≤ (k : Int) := by omega
      have k1 : (k : Int) < (n : Int) := by omega
      obtain ⟨x, hx⟩ : ∃ x, l[k]? = some x := ⟨_, List.getElem?_eq_getElem (by rw [← HN.out]; exact hlt)⟩
      obtain ⟨b, o, rfl, lb, p0, p1⟩ := HC.out k x hx
      have hc := HR.out.1
      have x0 := (hc.cell (p := ⟨b, o + k * 2, none⟩) lb (by simp)).trans p0
      have x1 := (hc.cell (p := ⟨b, o + k * 2 + 1, none⟩) lb (by simp)).trans p1
      have HX := Lib.hid (badP_at hx)
      obtain ⟨⟨b2, b3⟩, _⟩ := HK.out.at hx
      obtain ⟨xa, xt⟩ := x
      simp only at x0 x1 b2 b3
      by_cases hxa : xa = 0
      · have HZ := Lib.hid (fineP_no (by rw [← HN.out]; exact hlt) (by rw [HX.out]; unfold wrongP; simp [hxa]))
        have g0 : decide (xa < 1) = true := by simp; omega
        clear hx hc p0 p1 hxa b2 b3
        go_wp2
        go_ret
        exact ⟨by rw [HZ.out]; simp, HR.out.1⟩
      · have g0 : decide (xa < 1) = false := by simp; omega
        by_cases hk9 : k = 0
        · subst hk9
          have HZ := Lib.hid (show badP l 0 = false by rw [HX.out]; unfold wrongP; simp [hxa])
          clear hx hc p0 p1 hxa b2 b3
          simp only [Nat.zero_mul, Nat.add_zero] at x0 x1
          go_wp2
          go_quiet (fail)
          go_wp2
          go_roundg (n - 1)
          case measure => omega
          case rel => exact ⟨1, by omega, by go_num, Lib.hid ⟨HR.out.1.drewN _, fun j hj => (show j = 0 by omega) ▸ HZ.out⟩⟩
        · obtain ⟨p, hp⟩ : ∃ p, p = k - 1 := ⟨_, rfl⟩
          obtain ⟨y, hy⟩ : ∃ y, l[p]? = some y := ⟨_, List.getElem?_eq_getElem (by rw [← HN.out]; omega)⟩
          obtain ⟨b', o', he, lb', q0, q1⟩ := HC.out p y hy
          simp only [Option.some.injEq, Addr.mk.injEq, and_true] at he
          obtain ⟨rfl, rfl⟩ := he
          have y1 := (hc.cell (p := ⟨b, o + p * 2 + 1, none⟩) lb (by simp)).trans q1
          have HY := Lib.hid (show aheadP l k = y.2 by rw [show k = p + 1 by omega]; exact aheadP_succ hy)
          obtain ⟨ya, yt⟩ := y
          simp only at y1
          have i0 : (0 : Int) ≤ (p : Int) := by omega
          have i1 : (p : Int) < (n : Int) := by omega
          have i2 : IntKind.i64.wrap ((k : Int) - 1) = (p : Int) := by rw [IntWalk.i64_in _ (by omega)]; omega
          have i3 : decide ((k : Int) > 0) = true := by simp; omega
          have i4 : decide (0 < (k : Int)) = true := by simp; omega
          have i5 : decide (0 < k) = true := by simp; omega
          have i6 : (0 : Int) < (k : Int) := by omega
          have hbp : badP l k = decide (xt ≤ yt) := by rw [HX.out, HY.out]; unfold wrongP; simp [hxa, show 0 < k by omega]
          by_cases hle : xt ≤ yt
          · have g1 : decide (xt ≤ yt) = true := by simpa using hle
            have HZ := Lib.hid (fineP_no (by rw [← HN.out]; exact hlt) (by rw [hbp, g1]))
            clear hx hc p0 p1 hxa b2 b3 hy q0 q1 hp hbp hle
            go_wp2
            go_quiet (fail)
            go_wp2
            go_ret
            exact ⟨by rw [HZ.out]; simp, HR.out.1.drewN _⟩
          · have g1 : decide (xt ≤ yt) = false := by simpa using hle
            have HZ := Lib.hid (show ∀ j, j < k + 1 → badP l j = false from fun j hj => by
              by_cases e : j = k
              · subst e; rw [hbp, g1]
              · exact HR.out.2 j (by omega))
            clear hx hc p0 p1 hxa b2 b3 hy q0 q1 hp hbp hle
            go_wp2
            go_quiet (fail)
            go_wp2
            go_roundg (n - k - 1)
            case measure => omega
            case rel => exact ⟨k + 1, by omega, by go_num, Lib.hid ⟨HR.out.1.drewN _, HZ.out⟩⟩
    · obtain rfl : k = n := by omega
      have HZ := Lib.hid (show fineP l = true by rw [fineP_iff, ← HN.out]; exact HR.out.2)
      have hcall := HS.out _ HR.out.1
      obtain ⟨S, hS⟩ : ∃ S, S = sumN l := ⟨_, rfl⟩
      obtain ⟨F, hF⟩ : ∃ S, S = sumF l := ⟨_, rfl⟩
      rw [← hS, ← hF] at hcall
      have HF := Lib.hid hF
      clear hS hF
      go_wp2_with (go_at_call 15; refine hcall.mono ?_; rintro e w1 ⟨rfl, rfl⟩)
      go_ret
      exact ⟨by rw [HZ.out, ← HF.out, Bool.and_true]; rfl, HR.out.1⟩
/-- Where the first one stands whose time has not come; -1, if there is none. -/
def idxI (l : List Rf) (now : Int) : Int := if dueN l now < l.length then (dueN l now : Nat) else -1
set_option maxHeartbeats 3200000 in
set_option maxRecDepth 100000 in
/-- slices.IndexFunc. -/
theorem index_above {w : World} {v : Value} {l : List Rf} {bN : Nat} {now : Int} (h : Rd w v l) (hB : Blk w bN 32 #[.int .u64 now]) (hn : l.length ≤ 100000) :
    Calls Tryz.prog 120 #[v, .func (.func 121) #[] #[.pointer (some ⟨bN, 0, none⟩)]] w fun e w' => e = .returned (.int .i64 (idxI l now)) ∧ Chg [] w w' := by
  obtain ⟨A, c, rfl, _, _, _, hcell⟩ := h.open_
  obtain ⟨n, e1⟩ : ∃ n, n = l.length := ⟨_, rfl⟩
  rw [← e1] at hn ⊢
  have HN := Lib.hid e1
  have HC := Lib.hid hcell
  have HB := Lib.hid hB
  clear h e1 hcell hB
  go_enter Tryz.func120, Tryz.ntmps120
  go_wp2
  go_loopg [8] n (fun gh i wx => ∃ k : Nat, k + gh = n ∧ i = .int .i64 k ∧ Hid (Chg [] w wx ∧ ∀ j (y : Rf), j < k → l[j]? = some y → y.2 ≤ now))
  case atStart => exact ⟨0, by omega, rfl, Lib.hid ⟨Chg.refl _ _, fun j y hj => by omega⟩⟩
  case round =>
    obtain ⟨k, hk, rfl, HR⟩ := hrel
    by_cases hlt : k < n
    · have k0 : (0 : Int) ≤ (k : Int) := by omega
      have k1 : (k : Int) < (n : Int) := by omega
      obtain ⟨x, hx⟩ : ∃ x, l[k]? = some x := ⟨_, List.getElem?_eq_getElem (by rw [← HN.out]; exact hlt)⟩
      obtain ⟨b, o, rfl, lb, p0, p1⟩ := HC.out k x hx
      have hc := HR.out.1
      have x0 := (hc.cell (p := ⟨b, o + k * 2, none⟩) lb (by simp)).trans p0
      have x1 := (hc.cell (p := ⟨b, o + k * 2 + 1, none⟩) lb (by simp)).trans p1
      have HX := Lib.hid hx
      obtain ⟨xa, xt⟩ := x
      simp only at x0 x1
      have hstep := above_step (HB.out.chg hc (by simp)) xa xt
      by_cases hbd : now < xt
      · rw [show decide (now < xt) = true by simpa using hbd] at hstep
        have HZ := Lib.hid (show idxI l now = (k : Nat) by
          have := dueN_first HR.out.2 HX.out hbd
          unfold idxI
          rw [if_pos (by rw [this, ← HN.out]; exact hlt), this])
        clear hx hc p0 p1 hbd
        go_wp2_with (go_at_call 121; refine hstep.mono ?_; rintro e w1 ⟨rfl, q3⟩; have H1 := Lib.hid q3; clear q3)
        go_ret
        exact ⟨by rw [HZ.out]; rfl, HR.out.1.then H1.out⟩
      · rw [show decide (now < xt) = false by simpa using hbd] at hstep
        have HZ := Lib.hid (show ∀ j (y : Rf), j < k + 1 → l[j]? = some y → y.2 ≤ now from fun j y hj hy => by
          by_cases e : j = k
          · subst e
            rw [HX.out] at hy
            cases hy
            simp only
            omega
          · exact HR.out.2 j y (by omega) hy)
        clear hx hc p0 p1 hbd
        go_wp2_with (go_at_call 121; refine hstep.mono ?_; rintro e w1 ⟨rfl, q3⟩; have H3 := Lib.hid q3; clear q3)
        go_roundg (n - k - 1)
        case measure => omega
        case rel => exact ⟨k + 1, by omega, by go_num, Lib.hid ⟨HR.out.1.then H3.out, HZ.out⟩⟩
    · obtain rfl : k = n := by omega
      have HZ := Lib.hid (show idxI l now = -1 by
        unfold idxI
        rw [if_neg (by rw [dueN_none (by rw [← HN.out]; exact HR.out.2)]; omega)])
      go_wp2
      go_ret
      exact ⟨by rw [HZ.out]; rfl, HR.out.1⟩
/-- Those that are there. -/
def thereL (l : List Rf) (now : Int) : List Rf := l.filter (fun x => decide (x.2 ≤ now))
theorem thereL_snoc {l : List Rf} {k : Nat} {x : Rf} {now : Int} (h : l[k]? = some x) : thereL (l.take (k + 1)) now = thereL (l.take k) now ++ (if x.2 ≤ now then [x] else []) := by
  unfold thereL
  rw [take_snoc h, List.filter_append]
  congr 1
  by_cases e : x.2 ≤ now <;> simp [e]
theorem Ok.there {l : List Rf} (h : Ok l) (now : Int) : Ok (thereL l now) := fun x hx => h x (List.mem_filter.1 hx).1
def thereP (l : List Rf) (now : Int) : Int := if sumF (thereL l now) then sumP (thereL l now) else 18446744073709551615
set_option maxHeartbeats 3200000 in
set_option maxRecDepth 100000 in
/-- The document's There. -/
theorem rthere_any {w : World} {v : Value} {l : List Rf} (h : In w v l) (hk : Ok l) (hn : l.length ≤ 100000) (now : Int) :
    Calls Tryz.prog 80 #[v, .int .u64 now] w fun e w' => e = .returned (.int .u64 (thereP l now)) ∧ w = w' := by
  obtain ⟨A, c, rfl, _, _, _, hcell⟩ := h.open_
  obtain ⟨n, e1⟩ : ∃ n, n = l.length := ⟨_, rfl⟩
  rw [← e1] at hn ⊢
  have HN := Lib.hid e1
  have HC := Lib.hid hcell
  have HK := Lib.hid hk
  clear h e1 hcell hk
  go_enter Tryz.func80, Tryz.ntmps80
  go_wp2
  go_loop [5, 6] (fun s i => ∃ k : Nat, k ≤ n ∧ i = .int .i64 k ∧ s = .int .u64 (sumP (thereL (l.take k) now)) ∧ Hid (sumP (thereL (l.take k) now) < 18446744073709551616)) (fun s i => n - (intQ i).toNat)
  case atStart => exact ⟨0, by omega, rfl, by simp [sumP, thereL], Lib.hid (by simp [sumP, thereL])⟩
  case round =>
    obtain ⟨k, hk, rfl, rfl, HR⟩ := hrel
    by_cases hlt : k < n
    · have k0 : (0 : Int) ≤ (k : Int) := by omega
      have k1 : (k : Int) < (n : Int) := by omega
      obtain ⟨x, hx⟩ : ∃ x, l[k]? = some x := ⟨_, List.getElem?_eq_getElem (by rw [← HN.out]; exact hlt)⟩
      obtain ⟨b, o, rfl, lb, p0, p1⟩ := HC.out k x hx
      have HS := Lib.hid (thereL_snoc (now := now) hx)
      have hTL : sumP (thereL (l.take (k + 1)) now) ≤ sumP (thereL l now) := by
        have h1 : thereL l now = thereL (l.take (k + 1)) now ++ thereL (l.drop (k + 1)) now := by unfold thereL; rw [← List.filter_append, List.take_append_drop]
        have h2 := sumP_nonneg ((HK.out.drop (k + 1)).there now)
        rw [h1, sumP_append]; omega
      have b0 := sumP_nonneg ((HK.out.take k).there now)
      have b1 := HR.out
      obtain ⟨⟨b2, b3⟩, _⟩ := HK.out.at hx
      obtain ⟨xa, xt⟩ := x
      simp only at p0 p1 b2 b3
      by_cases hbd : xt ≤ now
      · have g0 : decide (xt > now) = false := by simp; omega
        have HS2 := Lib.hid (show sumP (thereL (l.take (k + 1)) now) = sumP (thereL (l.take k) now) + xa by rw [HS.out, if_pos hbd, sumP_append]; simp [sumP])
        rw [HS2.out] at hTL
        have hadd := fun W => radd_any (sumP (thereL (l.take k) now)) xa b0 b2 b1 b3 W
        obtain ⟨S, hS⟩ : ∃ S, S = sumP (thereL (l.take k) now) := ⟨_, rfl⟩
        have HSS := Lib.hid hS
        rw [← hS] at hadd b0 b1 hTL ⊢
        by_cases ho : S + xa < 18446744073709551616
        · obtain ⟨f1, f2⟩ := addF_yes ho
          rw [f1, f2] at hadd
          have HO := Lib.hid ho
          clear hx hS b0 b1 b2 b3 ho f1 f2 hTL hbd
          go_wp2_with (go_at_call 47; refine (hadd _).mono ?_; rintro e w1 ⟨rfl, rfl⟩)
          go_round
          case rel => exact ⟨k + 1, by omega, by go_num, by rw [HS2.out, HSS.out], Lib.hid (by rw [HS2.out, ← HSS.out]; exact HO.out)⟩
          case measure => simp [intQ]; omega
        · obtain ⟨f1, f2⟩ := addF_no ho
          rw [f1, f2] at hadd
          have HE := Lib.hid (show thereP l now = 18446744073709551615 by
            unfold thereP
            rw [show sumF (thereL l now) = false by unfold sumF; simp; omega]
            rfl)
          clear hx hS b0 b1 b2 b3 ho f1 f2 hTL hbd
          go_wp2_with (go_at_call 47; refine (hadd _).mono ?_; rintro e w1 ⟨rfl, rfl⟩)
          go_ret
          exact ⟨by rw [HE.out]; rfl, rfl⟩
      · have g0 : decide (xt > now) = true := by simp; omega
        have HS2 := Lib.hid (show thereL (l.take (k + 1)) now = thereL (l.take k) now by rw [HS.out, if_neg hbd, List.append_nil])
        clear hx b0 b1 b2 b3 hTL hbd
        go_wp2
        go_round
        case rel => exact ⟨k + 1, by omega, by go_num, by rw [HS2.out], Lib.hid (by rw [HS2.out]; exact HR.out)⟩
        case measure => simp [intQ]; omega
    · obtain rfl : k = n := by omega
      have HT := Lib.hid (show l.take k = l by rw [HN.out, List.take_length])
      have HE := Lib.hid (show thereP l now = sumP (thereL (l.take k) now) by
        unfold thereP
        rw [HT.out, (sum_all (by rw [← HT.out]; exact HR.out)).1]
        rfl)
      obtain ⟨S, hS⟩ : ∃ S, S = sumP (thereL (l.take k) now) := ⟨_, rfl⟩
      rw [← hS] at HE ⊢
      clear hS
      go_wp2
      go_ret
      exact ⟨by rw [HE.out]; rfl, rfl⟩
end Go.Proofs
end
section
namespace Go.Proofs
open Go.RowKit
set_option linter.unusedVariables false

theorem chg_setCells (b : Nat) : ∀ (vs : List Value) (o : Nat) (w : World), Chg [b] w (w.setCells b o vs)
  | [], o, w => Chg.refl _ _
  | v :: r, o, w => ((Chg.refl [b] w).setCell (p := ⟨b, o, none⟩) (.inl (by simp)) v).trans (chg_setCells b r (o + 1) _) (fun k hk => .inl hk)
theorem blk_setCells (b : Nat) (t : TypeId) : ∀ (vs : List Value) (o : Nat) (w : World) (cs : Array Value), Blk w b t cs → ∃ cs', Blk (w.setCells b o vs) b t cs' ∧ cs'.size = cs.size ∧ ∀ j, j < o → cs'[j]? = cs[j]?
  | [], o, w, cs, h => ⟨cs, h, rfl, fun _ _ => rfl⟩
  | v :: r, o, w, cs, h => by
    obtain ⟨cs', h1, h2, h3⟩ := blk_setCells b t r (o + 1) _ _ (h.set_ o v)
    refine ⟨cs', h1, by rw [h2]; simp, fun j hj => ?_⟩
    rw [h3 j (by omega), Array.getElem?_setIfInBounds_ne (by omega)]
theorem rf_zeros (n : Nat) : (Builtin.zeroCells (Value.agg #[.int .u64 0, .int .u64 0]).cells n).toList.length = n * 2 ∧ ∀ v ∈ (Builtin.zeroCells (Value.agg #[.int .u64 0, .int .u64 0]).cells n).toList, v.oneCell' = true := by
  have hc : (Value.agg #[.int .u64 0, .int .u64 0]).cells = #[.int .u64 0, .int .u64 0] := rfl
  rw [hc]
  refine ⟨by rw [Array.length_toList, size_zeroCells]; rfl, fun v hv => ?_⟩
  simp [Builtin.zeroCells] at hv
  obtain ⟨i, hi, rfl⟩ := hv
  rcases Nat.mod_two_eq_zero_or_one i with e | e <;> simp [e] <;> rfl
/-- clear of the rest of a row of refills. -/
theorem run_clear_rf (w : World) (ty : TypeId) (b o n c : Nat) {cs : Array Value} (hB : Blk w b 57 cs) (hn : o + n * 2 ≤ cs.size) :
    (Builtin.clear_ #[41] ty #[.slice (some ⟨b, o, none⟩) n c]).run Tryz.prog w = .ok (.tuple #[]) (w.setCells b o (if n = 0 then [] else (Builtin.zeroCells (Value.agg #[.int .u64 0, .int .u64 0]).cells n).toList)) := by
  cases n with
  | zero => simp [Builtin.clear_, run_underlying Tryz.underlying41, World.setCells]
  | succ m =>
    obtain ⟨z1, z2⟩ := rf_zeros (m + 1)
    have hst := run_storeCells_cells (P := Tryz.prog) b o (Builtin.zeroCells (Value.agg #[.int .u64 0, .int .u64 0]).cells (m + 1)).toList 0 w
      (fun j hj => by rw [hB.cell]; rw [z1] at hj; simp; omega) (fun j hj => hB.frozen _) z2
    rw [Nat.add_zero] at hst
    rw [if_neg (by omega)]
    have hz : (zeroValue 57).run Tryz.prog w = .ok (.agg #[.int .u64 0, .int .u64 0]) w := Tryz.zeroValue57 w
    simp [Builtin.clear_, run_underlying Tryz.underlying41, hz, hst]
/-- In the midst of a deletion: i are kept of the first j. -/
structure DMid (w : World) (v : Value) (l : List Rf) (now : Int) (i j : Nat) (wx : World) : Prop where
  row : ∃ cur : List Rf, cur.length = l.length ∧ Ro wx v cur ∧ cur.take i = thereL (l.take j) now ∧ cur.drop j = l.drop j
  kept : i = (thereL (l.take j) now).length
  lt : i < j
  chg : Chg (foot v) w wx
theorem dueN_split {l : List Rf} {now : Int} (h : dueN l now < l.length) : (∀ x ∈ l.take (dueN l now), x.2 ≤ now) ∧ ∃ x, l[dueN l now]? = some x ∧ now < x.2 := by
  have h' : l.findIdx (fun (x : Rf) => decide (now < x.2)) < l.length := h
  have h2 := List.findIdx_getElem (w := h')
  refine ⟨fun x hx => ?_, l[dueN l now], List.getElem?_eq_getElem h, by unfold dueN; simpa using h2⟩
  obtain ⟨j, hj, hje⟩ := List.mem_iff_getElem.1 hx
  rw [List.length_take] at hj
  rw [List.getElem_take] at hje
  have h3 := List.not_of_lt_findIdx (xs := l) (p := fun (x : Rf) => decide (now < x.2)) (i := j) (by unfold dueN at hj; omega)
  rw [hje] at h3
  simpa using h3
theorem dueN_full {l : List Rf} {now : Int} (h : ¬ dueN l now < l.length) : thereL l now = l := by
  have h1 : dueN l now = l.length := by have := dueN_le l now; omega
  unfold dueN at h1
  rw [List.findIdx_eq_length] at h1
  unfold thereL
  rw [List.filter_eq_self]
  intro x hx
  have := h1 x hx
  simpa using this
theorem DMid.start {w w1 : World} {v : Value} {l : List Rf} {now : Int} (h : Ro w v l) (hc : Chg [] w w1) (hd : dueN l now < l.length) : DMid w v l now (dueN l now) (dueN l now + 1) w1 := by
  obtain ⟨h1, x, hx, h2⟩ := dueN_split hd
  have e : thereL (l.take (dueN l now + 1)) now = l.take (dueN l now) := by
    rw [thereL_snoc hx, if_neg (by omega), List.append_nil]
    unfold thereL
    rw [List.filter_eq_self]
    intro y hy
    simpa using h1 y hy
  exact ⟨⟨l, rfl, h.quiet hc, e.symm, rfl⟩, by rw [e, List.length_take]; omega, by omega, hc.any⟩
theorem DMid.skip {w wx w1 : World} {v : Value} {l : List Rf} {now : Int} {i j : Nat} {x : Rf} (h : DMid w v l now i j wx) (hc : Chg [] wx w1) (hx : l[j]? = some x) (hn : now < x.2) : DMid w v l now i (j + 1) w1 := by
  obtain ⟨⟨cur, c1, c2, c3, c4⟩, k1, k2, k3⟩ := h
  have e := thereL_snoc (now := now) hx
  rw [if_neg (by omega), List.append_nil] at e
  exact ⟨⟨cur, c1, c2.quiet hc, by rw [e]; exact c3, by rw [← List.drop_drop, ← List.drop_drop, c4]⟩, by rw [e]; exact k1, by omega, k3.then hc⟩
theorem DMid.at {w wx : World} {g n cap : Nat} {l : List Rf} {now : Int} {i j : Nat} {x : Rf} (h : DMid w (.slice (some ⟨g, 0, none⟩) n cap) l now i j wx) (hx : l[j]? = some x) : g < wx.heap.size ∧
    wx.cell? ⟨g, j * 2, none⟩ = some (.int .u64 x.1) ∧ wx.cell? ⟨g, j * 2 + 1, none⟩ = some (.int .u64 x.2) ∧ (∃ a b, wx.cell? ⟨g, i * 2, none⟩ = some (.int .u64 a) ∧ wx.cell? ⟨g, i * 2 + 1, none⟩ = some (.int .u64 b)) ∧ ∀ k, wx.frozen? ⟨g, k, none⟩ = false := by
  obtain ⟨⟨cur, c1, c2, c3, c4⟩, k1, k2, k3⟩ := h
  have hj := (List.getElem?_eq_some_iff.1 hx).1
  obtain ⟨g', cap', hv, _, hc, hcell, hfz, hg⟩ := Row.form c2 (by omega)
  simp only [Value.slice.injEq, Option.some.injEq, Addr.mk.injEq] at hv
  obtain ⟨⟨rfl, _⟩, _, rfl⟩ := hv
  have hcx : cur[j]? = some x := by
    have := congrArg (fun l => l[0]?) c4
    simpa [hx] using this
  obtain ⟨q0, q1⟩ := rfs_at hcx
  obtain ⟨r0, r1⟩ := rfs_at (l := cur) (k := i) (List.getElem?_eq_getElem (by omega))
  exact ⟨hg, hcell _ _ q0, hcell _ _ q1, ⟨_, _, hcell _ _ r0, hcell _ _ r1⟩, hfz⟩
theorem DMid.keep {w wx w1 : World} {g n cap : Nat} {l : List Rf} {now : Int} {i j : Nat} {x : Rf} (h : DMid w (.slice (some ⟨g, 0, none⟩) n cap) l now i j wx) (hc : Chg [] wx w1) (hx : l[j]? = some x) (hn : x.2 ≤ now) :
    DMid w (.slice (some ⟨g, 0, none⟩) n cap) l now (i + 1) (j + 1) ((w1.setCell ⟨g, i * 2, none⟩ (.int .u64 x.1)).setCell ⟨g, i * 2 + 1, none⟩ (.int .u64 x.2)) := by
  obtain ⟨⟨cur, c1, c2, c3, c4⟩, k1, k2, k3⟩ := h
  have hj := (List.getElem?_eq_some_iff.1 hx).1
  have e := thereL_snoc (now := now) hx
  rw [if_pos hn] at e
  have h2 := c2.quiet hc
  have hnn : n = cur.length := by
    obtain ⟨A', c', hv, _⟩ := (Ro.rd h2).open_
    injection hv
  subst hnn
  have h3 := (Row.set_ h2 (j := i * 2) (by omega) (.int .u64 x.1)).set_ (j := i * 2 + 1) (by omega) (.int .u64 x.2)
  rw [← rfs_set cur i x (by omega)] at h3
  refine ⟨⟨cur.set i x, by rw [List.length_set]; exact c1, by unfold Ro; rw [List.length_set]; exact h3, ?_, ?_⟩, by rw [e, List.length_append]; simp; exact k1, by omega, ?_⟩
  · rw [e, List.take_add_one, List.getElem?_set_self (by omega), List.take_set_of_le (Nat.le_refl _), c3]; rfl
  · rw [List.drop_set_of_lt (by omega), ← List.drop_drop, ← List.drop_drop, c4]
  · exact ((k3.then hc).setCell (p := ⟨g, i * 2, none⟩) (.inl (by simp [foot_some])) _).setCell (p := ⟨g, i * 2 + 1, none⟩) (.inl (by simp [foot_some])) _
theorem idxI_no {l : List Rf} {now : Int} (h : ¬ dueN l now < l.length) : idxI l now = -1 := by unfold idxI; rw [if_neg h]
theorem idxI_yes {l : List Rf} {now : Int} (h : dueN l now < l.length) : idxI l now = (dueN l now : Nat) := by unfold idxI; rw [if_pos h]
/-- Behind the deletion. -/
theorem DMid.done {w wx : World} {g n cap : Nat} {l : List Rf} {now : Int} {i j : Nat} (h : DMid w (.slice (some ⟨g, 0, none⟩) n cap) l now i j wx) (hj : j = l.length) (hi : i < n) (vs : List Value) :
    Rd (wx.setCells g (i * 2) vs) (.slice (some ⟨g, 0, none⟩) i cap) (thereL l now) ∧ Chg [g] w (wx.setCells g (i * 2) vs) := by
  obtain ⟨⟨cur, c1, c2, c3, c4⟩, k1, k2, k3⟩ := h
  subst hj
  rw [List.take_length] at c3 k1
  have hnn : n = cur.length := by
    obtain ⟨A', c', hv, _⟩ := (Ro.rd c2).open_
    injection hv
  subst hnn
  refine ⟨?_, k3.trans (chg_setCells g vs (i * 2) wx) (fun k hk => .inl (by simpa [foot_some] using hk))⟩
  rcases c2.2 with ⟨h0, _⟩ | ⟨g', cap', cs, hv, hg, hc, hm, hs, ht⟩
  · cases h0
  · simp only [Value.slice.injEq, Option.some.injEq, Addr.mk.injEq] at hv
    obtain ⟨⟨rfl, _⟩, _, rfl⟩ := hv
    obtain ⟨cs', q1, q2, q3⟩ := blk_setCells g 57 vs (i * 2) wx cs hg
    unfold Rd
    rw [← k1]
    refine Rs.of_row ⟨by rw [rfs_len, ← k1], .inr ⟨g, cap, cs', rfl, q1, by omega, hm, by omega, ?_⟩⟩
    rw [← c3, ← rfs_take, ← ht, List.take_take, Nat.min_eq_left (by omega)]
    refine List.ext_getElem? fun k => ?_
    rw [List.getElem?_take, List.getElem?_take]
    split
    · rename_i hk
      simpa using q3 k hk
    · rfl
set_option maxHeartbeats 6400000 in
set_option maxRecDepth 100000 in
/-- slices.DeleteFunc of those whose time has not come. -/
theorem delete_above {w : World} {v : Value} {l : List Rf} {bN : Nat} {now : Int} (h : Ro w v l) (hB : Blk w bN 32 #[.int .u64 now]) (hn : l.length ≤ 100000) :
    Calls Tryz.prog 106 #[v, .func (.func 121) #[] #[.pointer (some ⟨bN, 0, none⟩)]] w fun e w' => ∃ v', e = .returned v' ∧ Rd w' v' (thereL l now) ∧ Chg (foot v) w w' := by
  have hix := index_above h.rd hB hn
  have hbv : bN ∉ foot v := Row.ty h hB (by decide)
  by_cases hd : dueN l now < l.length
  · rw [idxI_yes hd] at hix
    have hl0 : 0 < l.length := by omega
    obtain ⟨g, cap, rfl, _, hcap, _⟩ := Row.form h hl0
    clear hl0
    have hstart := fun w1 (hc : Chg [] w w1) => DMid.start h hc hd
    obtain ⟨n, e1⟩ : ∃ n, n = l.length := ⟨_, rfl⟩
    obtain ⟨k0, e2⟩ : ∃ k0, k0 = dueN l now := ⟨_, rfl⟩
    rw [← e2] at hix hd hstart
    rw [← e1] at hd hix hstart hn hcap hbv ⊢
    have HN := Lib.hid e1
    have HS := Lib.hid hstart
    have HB := Lib.hid hB
    have HV := Lib.hid hbv
    have hne : ((k0 : Int) == -1) = false := beq_eq_false_iff_ne.2 (by omega)
    clear h hB e1 e2 hstart hbv
    go_enter Tryz.func106, Tryz.ntmps106
    go_wp2_with (go_at_call 120; refine hix.mono ?_; rintro e w1 ⟨rfl, hc1⟩; have H1 := Lib.hid (HS.out _ hc1); clear hc1)
    go_loopg [5, 6] n (fun gh s5 s6 wx => ∃ i j : Nat, (j ≤ n ∧ n - j ≤ gh) ∧ s5 = .int .i64 i ∧ s6 = .int .i64 j ∧ Hid (DMid w (.slice (some ⟨g, 0, none⟩) n cap) l now i j wx))
    case atStart => exact ⟨k0, k0 + 1, by omega, rfl, by go_num, Lib.hid H1.out⟩
    case round =>
      obtain ⟨i, j, hj, rfl, rfl, HR⟩ := hrel
      by_cases hlt : j < n
      · have k0 : (0 : Int) ≤ (j : Int) := by omega
        have k1 : (j : Int) < (n : Int) := by omega
        have hij := HR.out.lt
        have k2 : (0 : Int) ≤ (i : Int) := by omega
        have k3 : (i : Int) < (n : Int) := by omega
        obtain ⟨x, hx⟩ : ∃ x, l[j]? = some x := ⟨_, List.getElem?_eq_getElem (by rw [← HN.out]; exact hlt)⟩
        obtain ⟨lg, x0, x1, ⟨ya, yb, y0, y1⟩, hfz⟩ := HR.out.at hx
        have HX := Lib.hid hx
        obtain ⟨xa, xt⟩ := x
        simp only at x0 x1
        have hgn : g ∈ foot (.slice (some ⟨g, 0, none⟩) n cap) := by simp [foot_some]
        have hstep := fun (o : Obj) => above_step ((HB.out.chg HR.out.chg HV.out).alloc o) xa xt
        have f0 := hfz (i * 2)
        have f1 := hfz (i * 2 + 1)
        by_cases hbd : now < xt
        · rw [show decide (now < xt) = true by simpa using hbd] at hstep
          have HL := Lib.hid hbd
          clear hx hfz hbd f0 f1 y0 y1 hgn
          go_wp2_with (go_at_call 121; refine (hstep _).mono ?_; rintro e w1 ⟨rfl, q3⟩; have H3 := Lib.hid q3; clear q3)
          go_roundg (n - j - 1)
          case measure => omega
          case rel => exact ⟨i, j + 1, by omega, rfl, by go_num, Lib.hid (HR.out.skip (((Chg.refl [] _).alloc _).then H3.out) HX.out HL.out)⟩
        · rw [show decide (now < xt) = false by simpa using hbd] at hstep
          have HL := Lib.hid (show xt ≤ now by omega)
          have HFC := Lib.hid (fun (o : Obj) (W : World) (hW : Chg [] (wr.alloc o) W) => (⟨(hW.cell (p := ⟨wr.heap.size, 0, none⟩) (by simp) (by simp)), (hW.cell (p := ⟨wr.heap.size, 1, none⟩) (by simp) (by simp)),
            (hW.cell (p := ⟨g, i * 2, none⟩) (by simp; omega) (by simp)), (hW.cell (p := ⟨g, i * 2 + 1, none⟩) (by simp; omega) (by simp)), (hW.frozen (p := ⟨g, i * 2, none⟩) (by simp; omega) (by simp)), (hW.frozen (p := ⟨g, i * 2 + 1, none⟩) (by simp; omega) (by simp))⟩ : _ ∧ _ ∧ _ ∧ _ ∧ _ ∧ _))
          clear hx hfz hbd hgn
          go_wp2_with (go_at_call 121; refine (hstep _).mono ?_; rintro e w1 ⟨rfl, q3⟩; obtain ⟨t0, t1, t2, t3, t4, t5⟩ := HFC.out _ _ q3; have H3 := Lib.hid q3; clear q3)
          go_roundg (n - j - 1)
          case measure => omega
          case rel => exact ⟨i + 1, j + 1, by omega, by go_num, by go_num, Lib.hid (HR.out.keep (((Chg.refl [] _).alloc _).then H3.out) HX.out HL.out)⟩
      · obtain rfl : j = n := by omega
        have hij := HR.out.lt
        have k2 : (0 : Int) ≤ (i : Int) := by omega
        have k3 : (i : Int) ≤ (j : Int) := by omega
        have k4 : i < cap := by omega
        have hend := Lib.hid (fun vs => HR.out.done HN.out hij vs)
        have HCL := Lib.hid (fun ty => (by
          obtain ⟨⟨cur, c1, c2, c3, c4⟩, _⟩ := HR.out
          rcases c2.2 with ⟨h0, _⟩ | ⟨g', cap', cs, hv, hg, hc, hm, hs, ht⟩
          · cases h0
          · simp only [Value.slice.injEq, Option.some.injEq, Addr.mk.injEq] at hv
            obtain ⟨⟨rfl, _⟩, e9, rfl⟩ := hv
            exact run_clear_rf wr ty g (i * 2) (j - i) (cap - i) hg (by omega) :
          (Builtin.clear_ #[41] ty #[.slice (some ⟨g, i * 2, none⟩) (j - i) (cap - i)]).run Tryz.prog wr = .ok (.tuple #[]) (wr.setCells g (i * 2) (if j - i = 0 then [] else (Builtin.zeroCells (Value.agg #[.int .u64 0, .int .u64 0]).cells (j - i)).toList))))
        obtain ⟨L, hL⟩ : ∃ L, L = (if j - i = 0 then [] else (Builtin.zeroCells (Value.agg #[.int .u64 0, .int .u64 0]).cells (j - i)).toList) := ⟨_, rfl⟩
        have hcl := HCL.out
        rw [← hL] at hcl
        have HEE := Lib.hid (hend.out L)
        clear hL HCL hend
        go_wp2
        go_ret
        exact ⟨_, rfl, HEE.out.1, by simpa [foot_some] using HEE.out.2⟩
  · rw [idxI_no hd] at hix
    have HE := Lib.hid (dueN_full hd)
    have HH := Lib.hid h
    obtain ⟨A, c, rfl, _⟩ := h.rd.open_
    obtain ⟨n, e1⟩ : ∃ n, n = l.length := ⟨_, rfl⟩
    rw [← e1] at hix HH ⊢
    clear h hd e1 hbv hn
    go_enter Tryz.func106, Tryz.ntmps106
    go_wp2_with (go_at_call 120; refine hix.mono ?_; rintro e w1 ⟨rfl, hc1⟩; have H1 := Lib.hid hc1; clear hc1)
    go_ret
    exact ⟨_, rfl, by rw [HE.out]; exact (HH.out.quiet H1.out).rd, H1.out.any⟩
end Go.Proofs
end
section
namespace Go.Proofs
open Go.RowKit
set_option linter.unusedVariables false

set_option maxHeartbeats 3200000 in
set_option maxRecDepth 100000 in
/-- How much is there. -/
theorem there_any {w : World} {v : Value} {l : List Rf} (h : Rd w v l) (hk : Ok l) (hn : l.length ≤ 100000) (now : Int) :
    Calls Tryz.prog 74 #[v, .int .u64 now] w fun e w' => e = .returned (.int .u64 (thereP l now)) ∧ Chg [] w w' := by
  have hcl := clone_any h hn
  have HT := Lib.hid (hk.there now)
  have HL := Lib.hid (show (thereL l now).length ≤ 100000 by have := List.length_filter_le (fun (x : Rf) => decide (x.2 ≤ now)) l; unfold thereL; omega)
  obtain ⟨A, c, rfl, _⟩ := h.open_
  obtain ⟨n, e1⟩ : ∃ n, n = l.length := ⟨_, rfl⟩
  rw [← e1] at hcl ⊢
  have HN := Lib.hid (show l.length ≤ 100000 from hn)
  obtain ⟨T, hT⟩ : ∃ T, T = thereP l now := ⟨_, rfl⟩
  have HTT := Lib.hid hT
  rw [← hT]
  unfold thereP at HTT
  clear h hk hn hT e1
  obtain ⟨S, hS⟩ : ∃ S, S = sumN (thereL l now) := ⟨_, rfl⟩
  obtain ⟨F, hF⟩ : ∃ S, S = sumF (thereL l now) := ⟨_, rfl⟩
  have HS := Lib.hid hS
  have HF := Lib.hid hF
  clear hS hF
  cases F with
  | true =>
    have HZ := Lib.hid (show S = T by rw [HTT.out, HS.out, ← HF.out]; have := HF.out; unfold sumF at this; unfold sumN; rw [if_pos (by simpa using this.symm)]; rfl)
    go_enter Tryz.func74, Tryz.ntmps74
    go_wp2_with (first
      | (go_at_call 88; refine hcl.mono ?_; rintro e w1 ⟨v1, rfl, h1⟩; obtain ⟨A1, c1, rfl, _⟩ := h1.rd.open_; have H1 := Lib.hid h1; clear h1)
      | (go_at_call 107; refine (above_any _ _).mono ?_; rintro e w2 ⟨rfl, q1, q2⟩; have H2 := Lib.hid q1; have H3 := Lib.hid q2; clear q1 q2)
      | (go_at_call 106; refine (delete_above (H1.out.1.quiet H3.out) H2.out HN.out).mono ?_; rintro e w3 ⟨v3, rfl, q1, q2⟩; obtain ⟨A3, c3, rfl, _⟩ := q1.open_; have H4 := Lib.hid q1; have H5 := Lib.hid ((H1.out.2.2.then H3.out).trans q2 (fun k hk => .inr (H1.out.2.1 k hk))); clear q1 q2)
      | (go_at_call 105; refine (sum_any H4.out HT.out HL.out).mono ?_; rintro e w4 ⟨rfl, q1⟩; rw [← HS.out, ← HF.out]; have H6 := Lib.hid q1; clear q1))
    go_ret
    exact ⟨by rw [HZ.out]; rfl, H5.out.then H6.out⟩
  | false =>
    have HZ := Lib.hid (show T = 18446744073709551615 by rw [HTT.out, ← HF.out]; rfl)
    go_enter Tryz.func74, Tryz.ntmps74
    go_wp2_with (first
      | (go_at_call 88; refine hcl.mono ?_; rintro e w1 ⟨v1, rfl, h1⟩; obtain ⟨A1, c1, rfl, _⟩ := h1.rd.open_; have H1 := Lib.hid h1; clear h1)
      | (go_at_call 107; refine (above_any _ _).mono ?_; rintro e w2 ⟨rfl, q1, q2⟩; have H2 := Lib.hid q1; have H3 := Lib.hid q2; clear q1 q2)
      | (go_at_call 106; refine (delete_above (H1.out.1.quiet H3.out) H2.out HN.out).mono ?_; rintro e w3 ⟨v3, rfl, q1, q2⟩; obtain ⟨A3, c3, rfl, _⟩ := q1.open_; have H4 := Lib.hid q1; have H5 := Lib.hid ((H1.out.2.2.then H3.out).trans q2 (fun k hk => .inr (H1.out.2.1 k hk))); clear q1 q2)
      | (go_at_call 105; refine (sum_any H4.out HT.out HL.out).mono ?_; rintro e w4 ⟨rfl, q1⟩; rw [← HS.out, ← HF.out]; have H6 := Lib.hid q1; clear q1))
    go_ret
    exact ⟨by rw [HZ.out]; rfl, H5.out.then H6.out⟩
/-! ### Due -/
theorem fine_at {l : List Rf} (h : fineP l = true) {k : Nat} {x : Rf} (hk : l[k]? = some x) : x.1 ≠ 0 ∧ (0 < k → aheadP l k < x.2) := by
  have h1 := fineP_iff.1 h k (List.getElem?_eq_some_iff.1 hk).1
  rw [badP_at hk] at h1
  unfold wrongP at h1
  rw [Bool.or_eq_false_iff] at h1
  refine ⟨by simpa using h1.1, fun h0 => ?_⟩
  have h2 := h1.2
  rw [decide_eq_true h0] at h2
  simp at h2
  exact h2
theorem fine_rises {l : List Rf} (h : fineP l = true) {i j : Nat} {x y : Rf} (hi : l[i]? = some x) (hj : l[j]? = some y) (hij : i < j) : x.2 < y.2 := by
  induction j generalizing y with
  | zero => omega
  | succ j ih =>
    have hjl := (List.getElem?_eq_some_iff.1 hj).1
    obtain ⟨z, hz⟩ : ∃ z, l[j]? = some z := ⟨_, List.getElem?_eq_getElem (by omega)⟩
    have h2 := (fine_at h hj).2 (by omega)
    rw [aheadP_succ hz] at h2
    by_cases e : i = j
    · subst e
      rw [hi] at hz
      cases hz
      exact h2
    · have := ih hz (by omega)
      omega
/-- Whoever is behind one whose time has not come, its time has not come. -/
theorem due_split {l : List Rf} (h : fineP l = true) {now : Int} {k : Nat} {x : Rf} (hk : l[k]? = some x) : x.2 ≤ now ↔ k < dueN l now := by
  have hkl := (List.getElem?_eq_some_iff.1 hk).1
  constructor
  · intro hx
    by_cases hd : dueN l now < l.length
    · obtain ⟨h1, y, hy, h2⟩ := dueN_split hd
      refine Nat.lt_of_not_le (fun hle => ?_)
      by_cases e : dueN l now = k
      · rw [e, hk] at hy; cases hy; omega
      · have := fine_rises h hy hk (by omega); omega
    · omega
  · intro hx
    have h3 := List.not_of_lt_findIdx (xs := l) (p := fun (x : Rf) => decide (now < x.2)) (i := k) hx
    have h4 := (List.getElem?_eq_some_iff.1 hk).2
    rw [h4] at h3
    simpa using h3
/-- The one that those who are there are together, as one; then the others. -/
def dueL (l : List Rf) (now : Int) : List Rf :=
  if dueN l now = 0 then l else (sumP (l.take (dueN l now)), aheadP l (dueN l now)) :: l.drop (dueN l now)
/-- What the document's Due has behind the first k. -/
def rdueK (l : List Rf) (now : Int) : Nat → List Rf
  | 0 => []
  | k + 1 => if 0 < k ∧ ((l[k]?).getD (0, 0)).2 ≤ now then
      (match rdueK l now k with
        | [] => []
        | y :: r => (y.1 + ((l[k]?).getD (0, 0)).1, ((l[k]?).getD (0, 0)).2) :: r)
    else rdueK l now k ++ [(l[k]?).getD (0, 0)]
theorem rdueK_low {l : List Rf} (h : fineP l = true) {now : Int} : ∀ k, 0 < k → k ≤ dueN l now → rdueK l now k = [(sumP (l.take k), aheadP l k)] := by
  intro k
  induction k with
  | zero => intro h0; omega
  | succ k ih =>
    intro _ hk
    have hle := dueN_le l now
    obtain ⟨x, hx⟩ : ∃ x, l[k]? = some x := ⟨_, List.getElem?_eq_getElem (by omega)⟩
    have hxn := (due_split (now := now) h hx).2 (by omega)
    rw [sumP_snoc hx, aheadP_succ hx]
    unfold rdueK
    rw [hx]
    simp only [Option.getD_some]
    by_cases h0 : 0 < k
    · rw [if_pos ⟨h0, hxn⟩, ih h0 (by omega)]
    · obtain rfl : k = 0 := by omega
      rw [if_neg (by omega)]
      simp [rdueK, sumP]
theorem rdueK_high {l : List Rf} (h : fineP l = true) {now : Int} : ∀ k, dueN l now ≤ k → k ≤ l.length → rdueK l now k = (if dueN l now = 0 then [] else [(sumP (l.take (dueN l now)), aheadP l (dueN l now))]) ++ (l.take k).drop (dueN l now) := by
  intro k
  induction k with
  | zero =>
    intro h0 _
    obtain e : dueN l now = 0 := by omega
    rw [e]; simp [rdueK]
  | succ k ih =>
    intro hk hkl
    by_cases e : dueN l now = k + 1
    · rw [rdueK_low h (k + 1) (by omega) (by omega), e, if_neg (by omega), List.drop_eq_nil_of_le (by simp; omega)]
      simp
    · obtain ⟨x, hx⟩ : ∃ x, l[k]? = some x := ⟨_, List.getElem?_eq_getElem (by omega)⟩
      have hxn : ¬ x.2 ≤ now := fun c => by have := (due_split h hx).1 c; omega
      unfold rdueK
      rw [hx]
      simp only [Option.getD_some]
      rw [if_neg (fun c => hxn c.2), ih (by omega) (by omega), take_snoc hx, List.append_assoc]
      congr 1
      rw [List.drop_append_of_le_length (by rw [List.length_take]; omega)]
theorem rdueK_all {l : List Rf} (h : fineP l = true) {now : Int} : rdueK l now l.length = dueL l now := by
  rw [rdueK_high h _ (dueN_le l now) (Nat.le_refl _), List.take_length]
  unfold dueL
  split
  · rename_i e; rw [e]; rfl
  · rfl
theorem mayP_iff {l : List Rf} : mayP l = true ↔ sumP l < 18446744073709551616 ∧ fineP l = true := by
  unfold mayP sumF
  rw [Bool.and_eq_true, decide_eq_true_iff]
theorem Ok.due {l : List Rf} (h : Ok l) (hm : mayP l = true) (now : Int) : Ok (dueL l now) := by
  unfold dueL
  split
  · exact h
  · rename_i e
    have hle := dueN_le l now
    obtain ⟨x, hx⟩ : ∃ x, l[dueN l now - 1]? = some x := ⟨_, List.getElem?_eq_getElem (by omega)⟩
    have ha : aheadP l (dueN l now) = x.2 := by
      have := aheadP_succ hx
      rwa [show dueN l now - 1 + 1 = dueN l now by omega] at this
    refine Ok.cons ⟨sumP_nonneg (h.take _), ?_⟩ (by rw [ha]; exact (h.at hx).2) (h.drop _)
    have := sumP_le h (dueN l now)
    have := (mayP_iff.1 hm).1
    omega
theorem due_len {l : List Rf} (now : Int) : (dueL l now).length ≤ l.length := by
  unfold dueL
  have := dueN_le l now
  split
  · exact Nat.le_refl _
  · simp; omega
end Go.Proofs
end
section
namespace Go.Proofs
open Go.RowKit
set_option linter.unusedVariables false

theorem Rd.first {w : World} {b o m c : Nat} {l : List Rf} (h : Rd w (.slice (some ⟨b, o, none⟩) m c) l) {i : Nat} (hi : i ≤ m) : Rd w (.slice (some ⟨b, o, none⟩) i c) (l.take i) := by
  have hm : m = l.length := by obtain ⟨A', c', hv, _⟩ := h.open_; injection hv
  subst hm
  have := Rs.first h hi
  unfold Rd
  rw [List.length_take, Nat.min_eq_left hi]
  exact this
theorem Rd.rest {w : World} {b o m c : Nat} {l : List Rf} (h : Rd w (.slice (some ⟨b, o, none⟩) m c) l) {i : Nat} (hi : i ≤ m) : Rd w (.slice (some ⟨b, o + i * 2, none⟩) (m - i) (c - i)) (l.drop i) := by
  have hm : m = l.length := by obtain ⟨A', c', hv, _⟩ := h.open_; injection hv
  subst hm
  have := Rs.rest h hi
  unfold Rd
  rw [List.length_drop]
  exact this
theorem Rd.none_ {w : World} {b o m c : Nat} {l : List Rf} (h : Rd w (.slice (some ⟨b, o, none⟩) m c) l) : Rd w (.slice (some ⟨b, o, none⟩) 0 0) [] := by
  have hm : m = l.length := by obtain ⟨A', c', hv, _⟩ := h.open_; injection hv
  subst hm
  exact Rs.none_ h
theorem due_sum {l : List Rf} (hk : Ok l) (hf : fineP l = true) {n : Nat} (h0 : 0 < n) (hn : n ≤ l.length) : 1 ≤ sumP (l.take n) := by
  obtain ⟨x, hx⟩ : ∃ x, l[0]? = some x := ⟨_, List.getElem?_eq_getElem (by omega)⟩
  have h1 := (fine_at hf hx).1
  have h2 := (hk.at hx).1.1
  have h3 := sumP_le (hk.take n) 1
  have h4 : sumP ((l.take n).take 1) = x.1 := by
    have := sumP_snoc (l := l) (k := 0) hx
    rw [List.take_take, Nat.min_eq_left (by omega), this]; simp [sumP]
  omega
set_option maxHeartbeats 3200000 in
set_option maxRecDepth 100000 in
/-- The list Due. -/
theorem due_any {w : World} {v : Value} {l : List Rf} (h : Rd w v l) (hk : Ok l) (hn : l.length ≤ 100000) (now : Int) :
    Calls Tryz.prog 117 #[v, .int .u64 now] w fun e w' => ∃ v', e = .returned v' ∧ Own w w' v' (if mayP l then dueL l now else []) := by
  have hmy := may_any h hk hn
  cases hm : mayP l with
  | false =>
    rw [hm] at hmy
    obtain ⟨A, c, rfl, _⟩ := h.open_
    obtain ⟨n, e1⟩ : ∃ n, n = l.length := ⟨_, rfl⟩
    rw [← e1] at hmy ⊢
    clear h hk hn e1 hm
    go_enter Tryz.func117, Tryz.ntmps117
    go_wp2_with (go_at_call 116; refine hmy.mono ?_; rintro e w1 ⟨rfl, h1⟩; have H1 := Lib.hid h1; clear h1)
    go_ret
    exact ⟨_, rfl, Own.nil H1.out⟩
  | true =>
    rw [hm] at hmy
    rw [if_pos rfl]
    obtain ⟨hsf, hff⟩ := mayP_iff.1 hm
    have HH := Lib.hid h
    have HFA := Lib.hid (fun W bN (hW : Chg [] w W) (hB : Blk W bN 32 #[.int .u64 now]) => first_above (h.quiet hW) hB hn)
    have hle := dueN_le l now
    have HNN := Lib.hid hn
    obtain ⟨n, e1⟩ : ∃ n, n = l.length := ⟨_, rfl⟩
    obtain ⟨k, e2⟩ : ∃ k, k = dueN l now := ⟨_, rfl⟩
    rw [← e2] at HFA
    rw [← e1, ← e2] at hle
    rw [← e1] at hn
    by_cases h0 : k = 0
    · subst h0
      have HE := Lib.hid (show dueL l now = l by unfold dueL; rw [if_pos e2.symm])
      obtain ⟨A, c, rfl, _⟩ := h.open_
      rw [← e1] at hmy HH HFA ⊢
      clear h hk e1 e2 hm hsf hff hle
      go_enter Tryz.func117, Tryz.ntmps117
      go_wp2_with (first
        | (go_at_call 116; refine hmy.mono ?_; rintro e w1 ⟨rfl, h1⟩; have H1 := Lib.hid h1; clear h1)
        | (go_at_call 107; refine (above_any _ _).mono ?_; rintro e w2 ⟨rfl, q1, q2⟩; have H2 := Lib.hid q1; have H3 := Lib.hid (H1.out.then q2); clear q1 q2)
        | (go_at_call 123; refine (HFA.out _ _ H3.out H2.out).mono ?_; rintro e w3 ⟨rfl, q1⟩; have H4 := Lib.hid (H3.out.then q1); clear q1)
        | (go_at_call 88; refine (clone_any (HH.out.quiet H4.out) HNN.out).mono ?_; rintro e w4 ⟨v4, rfl, q1⟩; have H5 := Lib.hid (q1.before H4.out); clear q1))
      go_ret
      exact ⟨_, rfl, by rw [HE.out]; exact H5.out⟩
    · have hk0 : (k == 0) = false := by simpa using h0
      have hki : ((k : Int) == 0) = false := by simp; omega
      obtain ⟨p, hp⟩ : ∃ p, p = k - 1 := ⟨_, rfl⟩
      obtain ⟨x, hx⟩ : ∃ x, l[p]? = some x := ⟨_, List.getElem?_eq_getElem (by omega)⟩
      have hap := aheadP_succ hx
      rw [show p + 1 = k by omega] at hap
      have HS1 := Lib.hid (sum_all (l := l.take k) (by have := sumP_le hk k; omega))
      have hsp := due_sum hk hff (n := k) (by omega) (by omega)
      have HE := Lib.hid (show dueL l now = newP (sumN (l.take k)) x.2 ++ l.drop k by
        unfold dueL newP
        rw [← e2, if_neg h0, HS1.out.2, if_neg (by omega), hap]; rfl)
      have HNL := Lib.hid (show (newP (sumN (l.take k)) x.2).length = 1 by unfold newP; rw [HS1.out.2, if_neg (by omega)]; rfl)
      obtain ⟨A, c, rfl, hlc, _, _, hcell⟩ := h.open_
      obtain ⟨b, o, rfl, lb, _, x1⟩ := hcell p x hx
      rw [← e1] at hmy HH HFA hlc ⊢
      have HT := Lib.hid (HH.out.first hle)
      have HOK := Lib.hid (hk.take k)
      have HTN := Lib.hid (show (l.take k).length ≤ 100000 by rw [List.length_take]; omega)
      have HDL := Lib.hid (show (l.drop k).length = n - k by rw [List.length_drop, e1])
      have HB9 := Lib.hid (show 1 + (n - k) ≤ 1000000 by omega)
      have i0 : (0 : Int) ≤ (k : Int) := by omega
      have i1 : (k : Int) ≤ (c : Int) := by omega
      have i2 : (k : Int) ≤ (n : Int) := by omega
      have i3 : IntKind.i64.wrap ((k : Int) - 1) = (p : Int) := by rw [IntWalk.i64_in _ (by omega)]; omega
      have i4 : (0 : Int) ≤ (p : Int) := by omega
      have i5 : (p : Int) < (n : Int) := by omega
      have HX1 := Lib.hid (fun W (hW : Chg [] w W) => (hW.cell (p := ⟨b, o + p * 2 + 1, none⟩) lb (by simp)).trans x1)
      obtain ⟨xa, xt⟩ := x
      simp only at HE HNL HX1 x1
      by_cases hkc : k < c
      · have HR := Lib.hid (HH.out.rest hle)
        have hne : c ≠ k := by omega
        clear h hk hn e1 e2 hm hsf hff hp hx hap hsp hcell h0 x1
        go_enter Tryz.func117, Tryz.ntmps117
        go_wp2_with (first
          | (go_at_call 116; refine hmy.mono ?_; rintro e w1 ⟨rfl, h1⟩; have H1 := Lib.hid h1; clear h1)
          | (go_at_call 107; refine (above_any _ _).mono ?_; rintro e w2 ⟨rfl, q1, q2⟩; have H2 := Lib.hid q1; have H3 := Lib.hid (H1.out.then q2); clear q1 q2)
          | (go_at_call 123; refine (HFA.out _ _ H3.out H2.out).mono ?_; rintro e w3 ⟨rfl, q1⟩; have H4 := Lib.hid (H3.out.then q1); clear q1)
          | (go_at_call 105; refine (sum_any (HT.out.quiet H4.out) HOK.out HTN.out).mono ?_; rintro e w4 ⟨rfl, q1⟩; have x9 := HX1.out _ (H4.out.then q1); have H5 := Lib.hid (H4.out.then q1); clear q1))
        go_region_held3 (fun w' => w'.cell? ⟨b, o + p * 2 + 1, none⟩ = some (.int .u64 xt))
          (first | go_keep)
          (first
            | (go_at_call 92; refine (new_any _ _ _).mono ?_; rintro e w5 ⟨v5, rfl, q1⟩; have x8 := HX1.out _ ((q1.before (H5.out.drew)).2.2); have H6 := Lib.hid (q1.before (H5.out.drew)); clear q1)
            | (refine step_append_rs (n := 1) (m := n - k) (N := 1 + (n - k)) _ (by rfl) _ _ (by rfl) (by rfl) (by rfl) (by have := H6.out.1; unfold Ro at this; rw [HNL.out] at this; exact this) (by have := HR.out.quiet H6.out.2.2; unfold Rd at this; rw [HDL.out] at this; exact this) HB9.out rfl ?_; intro A6 c6 w6 hr hg hf; have H7 := Lib.hid (H6.out.append (by rw [List.length_append, HNL.out, HDL.out]) hr hg hf); have x7 := HX1.out _ H7.out.2.2; clear hr hg hf))
        all_goals
          go_wp2
          go_ret
          exact ⟨_, rfl, by rw [HE.out]; exact H7.out⟩
      · obtain rfl : c = k := by omega
        obtain rfl : n = c := by omega
        have HR := Lib.hid HH.out.none_
        have HD0 := Lib.hid (show l.drop n = [] by rw [e1, List.drop_length])
        clear h hk hn e1 e2 hm hsf hff hp hx hap hsp hcell h0 x1
        go_enter Tryz.func117, Tryz.ntmps117
        go_wp2_with (first
          | (go_at_call 116; refine hmy.mono ?_; rintro e w1 ⟨rfl, h1⟩; have H1 := Lib.hid h1; clear h1)
          | (go_at_call 107; refine (above_any _ _).mono ?_; rintro e w2 ⟨rfl, q1, q2⟩; have H2 := Lib.hid q1; have H3 := Lib.hid (H1.out.then q2); clear q1 q2)
          | (go_at_call 123; refine (HFA.out _ _ H3.out H2.out).mono ?_; rintro e w3 ⟨rfl, q1⟩; have H4 := Lib.hid (H3.out.then q1); clear q1)
          | (go_at_call 105; refine (sum_any (HT.out.quiet H4.out) HOK.out HTN.out).mono ?_; rintro e w4 ⟨rfl, q1⟩; have x9 := HX1.out _ (H4.out.then q1); have H5 := Lib.hid (H4.out.then q1); clear q1))
        go_region_held3 (fun w' => w'.cell? ⟨b, o + p * 2 + 1, none⟩ = some (.int .u64 xt))
          (first | go_keep)
          (first
            | (go_at_call 92; refine (new_any _ _ _).mono ?_; rintro e w5 ⟨v5, rfl, q1⟩; have x8 := HX1.out _ ((q1.before (H5.out.drew)).2.2); have H6 := Lib.hid (q1.before (H5.out.drew)); clear q1)
            | (refine step_append_rs (n := 1) (m := 0) (N := 1) (l := []) _ (by rfl) _ _ (by rfl) (by rfl) (by rfl) (by have := H6.out.1; unfold Ro at this; rw [HNL.out] at this; exact this) (HR.out.quiet H6.out.2.2) (by omega) rfl ?_; intro A6 c6 w6 hr hg hf; have H7 := Lib.hid (H6.out.append (by rw [List.length_append, HNL.out]; rfl) hr hg hf); have x7 := HX1.out _ H7.out.2.2; clear hr hg hf))
        all_goals
          go_wp2
          go_ret
          exact ⟨_, rfl, by rw [HE.out, HD0.out]; exact H7.out⟩
end Go.Proofs
end
section
namespace Go.Proofs
open Go.RowKit
set_option linter.unusedVariables false

theorem rdueK_len (l : List Rf) (now : Int) : ∀ k, (rdueK l now k).length ≤ k
  | 0 => by simp [rdueK]
  | k + 1 => by
    have ih := rdueK_len l now k
    unfold rdueK
    split
    · split
      · simp
      · rename_i h; rw [h] at ih; simp at ih ⊢; omega
    · simp; omega
theorem Ro.set1 {w : World} {g cap n : Nat} {a t : Int} {r : List Rf} (h : Ro w (.slice (some ⟨g, 0, none⟩) n cap) ((a, t) :: r)) (a' : Int) : Ro (w.setCell ⟨g, 0, none⟩ (.int .u64 a')) (.slice (some ⟨g, 0, none⟩) n cap) ((a', t) :: r) := by
  have hm : n = ((a, t) :: r).length := by obtain ⟨A', c', hv, _⟩ := h.rd.open_; injection hv
  subst hm
  have := Row.set_ h (j := 0) (by simp) (.int .u64 a')
  exact this
theorem Ro.set2 {w : World} {g cap n : Nat} {a t : Int} {r : List Rf} (h : Ro w (.slice (some ⟨g, 0, none⟩) n cap) ((a, t) :: r)) (t' : Int) : Ro (w.setCell ⟨g, 1, none⟩ (.int .u64 t')) (.slice (some ⟨g, 0, none⟩) n cap) ((a, t') :: r) := by
  have hm : n = ((a, t) :: r).length := by obtain ⟨A', c', hv, _⟩ := h.rd.open_; injection hv
  subst hm
  have := Row.set_ h (j := 1) (by simp; omega) (.int .u64 t')
  exact this
/-- What a row of one at least looks like. -/
theorem Ro.head {w : World} {v : Value} {a t : Int} {r : List Rf} (h : Ro w v ((a, t) :: r)) : ∃ g cap, v = .slice (some ⟨g, 0, none⟩) (r.length + 1) cap ∧ foot v = [g] ∧ r.length + 1 ≤ cap ∧ g < w.heap.size ∧
    w.cell? ⟨g, 0, none⟩ = some (.int .u64 a) ∧ w.cell? ⟨g, 1, none⟩ = some (.int .u64 t) ∧ ∀ k, w.frozen? ⟨g, k, none⟩ = false := by
  obtain ⟨g, cap, hv, hf, hc, hcell, hfz, hg⟩ := Row.form h (by simp)
  exact ⟨g, cap, hv, hf, hc, hg, hcell 0 _ rfl, hcell 1 _ rfl, hfz⟩
theorem Own.set1 {w0 w : World} {g cap n : Nat} {a t : Int} {r : List Rf} (h : Own w0 w (.slice (some ⟨g, 0, none⟩) n cap) ((a, t) :: r)) (a' : Int) : Own w0 (w.setCell ⟨g, 0, none⟩ (.int .u64 a')) (.slice (some ⟨g, 0, none⟩) n cap) ((a', t) :: r) :=
  ⟨h.1.set1 a', h.2.1, h.2.2.setCell (p := ⟨g, 0, none⟩) (.inr (h.2.1 g (by simp [foot_some]))) _⟩
theorem Own.set2 {w0 w : World} {g cap n : Nat} {a t : Int} {r : List Rf} (h : Own w0 w (.slice (some ⟨g, 0, none⟩) n cap) ((a, t) :: r)) (t' : Int) : Own w0 (w.setCell ⟨g, 1, none⟩ (.int .u64 t')) (.slice (some ⟨g, 0, none⟩) n cap) ((a, t') :: r) :=
  ⟨h.1.set2 t', h.2.1, h.2.2.setCell (p := ⟨g, 1, none⟩) (.inr (h.2.1 g (by simp [foot_some]))) _⟩
theorem Own.drew {w0 w : World} {v : Value} {l : List Rf} (h : Own w0 w v l) : Own w0 w.drew v l := ⟨Row.drew h.1, h.2.1, h.2.2.drew⟩
theorem Own.drewN {w0 w : World} {v : Value} {l : List Rf} (h : Own w0 w v l) (n : Nat) : Own w0 (w.drewN n) v l := ⟨Row.drewN h.1 n, h.2.1, h.2.2.drewN n⟩
set_option maxHeartbeats 6400000 in
set_option maxRecDepth 100000 in
/-- The document's Due. -/
theorem rdue_any {w : World} {v : Value} {l : List Rf} (h : In w v l) (hk : Ok l) (hm : mayP l = true) (hn : l.length ≤ 100000) (now : Int) :
    Calls Tryz.prog 112 #[v, .int .u64 now] w fun e w' => ∃ v', e = .returned v' ∧ Own w w' v' (dueL l now) := by
  obtain ⟨hsf, hff⟩ := mayP_iff.1 hm
  have HEND := Lib.hid (rdueK_all (now := now) hff)
  obtain ⟨A, c, rfl, _, _, _, hcell⟩ := h.open_
  obtain ⟨n, e1⟩ : ∃ n, n = l.length := ⟨_, rfl⟩
  rw [← e1] at hn HEND ⊢
  have HN := Lib.hid e1
  have HC := Lib.hid hcell
  have HK := Lib.hid hk
  have HSF := Lib.hid hsf
  have HFF := Lib.hid hff
  have HSP := Lib.hid (fun k x (hx : l[k]? = some x) => due_split (now := now) hff hx)
  clear h e1 hcell hk hsf hff hm
  go_enter Tryz.func112, Tryz.ntmps112
  go_wp2
  go_loopg [5, 6] n (fun gh s i wx => ∃ k : Nat, k + gh = n ∧ i = .int .i64 k ∧ Hid (Own w wx s (rdueK l now k)))
  case atStart => exact ⟨0, by omega, rfl, Lib.hid (Own.nil (Chg.refl _ _))⟩
  case round =>
    obtain ⟨k, hk, rfl, HR⟩ := hrel
    by_cases hlt : k < n
    · have k0 : (0 : Int) ≤ (k : Int) := by omega
      have k1 : (k : Int) < (n : Int) := by omega
      obtain ⟨x, hx⟩ : ∃ x, l[k]? = some x := ⟨_, List.getElem?_eq_getElem (by rw [← HN.out]; exact hlt)⟩
      obtain ⟨b, o, rfl, lb, p0, p1⟩ := HC.out k x hx
      have hc := HR.out.2.2
      have x0 := (hc.cell (p := ⟨b, o + k * 2, none⟩) lb (by simp)).trans p0
      have x1 := (hc.cell (p := ⟨b, o + k * 2 + 1, none⟩) lb (by simp)).trans p1
      have hnext : rdueK l now (k + 1) = if 0 < k ∧ x.2 ≤ now then (match rdueK l now k with | [] => [] | y :: r => (y.1 + x.1, x.2) :: r) else rdueK l now k ++ [x] := by
        rw [rdueK]
        rw [hx]
        rfl
      by_cases hcase : 0 < k ∧ x.2 ≤ now
      · have hlow := rdueK_low HFF.out (now := now) k hcase.1 (Nat.le_of_lt ((HSP.out k x hx).1 hcase.2))
        rw [if_pos hcase, hlow] at hnext
        have hsum := sumP_snoc hx
        have hsle := sumP_le HK.out (k + 1)
        have hs0 := sumP_nonneg (HK.out.take k)
        have hxo := (HK.out.at hx).1.1
        have hown := HR.out
        rw [hlow] at hown
        obtain ⟨g, cap, rfl, hfo, hcap, lg, y0, y1, hfz⟩ := hown.1.head
        have hgw := hown.2.1 g (by simp [foot_some])
        have hne : b ≠ g := by omega
        have hne' : g ≠ b := by omega
        obtain ⟨xa, xt⟩ := x
        simp only at x0 x1 hnext hsum hxo hcase
        obtain ⟨S, hS⟩ : ∃ S, S = sumP (l.take k) := ⟨_, rfl⟩
        obtain ⟨T, hT⟩ : ∃ T, T = aheadP l k := ⟨_, rfl⟩
        rw [← hS] at hown y0 hnext hsum hs0
        rw [← hT] at hown y1
        have hwr : IntKind.u64.wrap (S + xa) = S + xa := by rw [IntKind.wrap_u64]; have := HSF.out; omega
        have i4 : decide (0 < (k : Int)) = true := by simp; omega
        have i5 : decide (0 < k) = true := by simp; omega
        have i6 : (0 : Int) < (k : Int) := by omega
        have i7 : decide ((k : Int) > 0) = true := by simp; omega
        have i8 : decide (xt ≤ now) = true := by simpa using hcase.2
        have f0 := hfz 0
        have f1 := hfz 1
        have HO := Lib.hid hown
        have HX := Lib.hid hnext
        clear hx hc p0 p1 hcase hlow hsum hsle hs0 hxo hown hfo hcap hfz hgw hS hT hnext
        go_wp2
        go_region
        all_goals
          go_wp2
          go_roundg (n - k - 1)
          case measure => omega
          case rel => exact ⟨k + 1, by omega, by go_num, Lib.hid (by rw [HX.out]; first | exact ((HO.out.drew).set1 _).set2 _ | exact (((HO.out.set1 _).drew).set2 _) | exact (((HO.out.set1 _).set2 _).drew))⟩
      · rw [if_neg hcase] at hnext
        have HX := Lib.hid hnext
        have HL := Lib.hid (rdueK_len l now k)
        obtain ⟨A5, c5, rfl, _⟩ := HR.out.rd.open_
        obtain ⟨m, hm⟩ : ∃ m, m = (rdueK l now k).length := ⟨_, rfl⟩
        have HO := Lib.hid HR.out
        rw [← hm] at HO ⊢
        have HM := Lib.hid hm
        have HB9 := Lib.hid (show m + 1 ≤ 1000000 by have := HL.out; omega)
        obtain ⟨xa, xt⟩ := x
        simp only at x0 x1 HX hcase
        by_cases h0 : 0 < k
        · have i4 : decide (0 < (k : Int)) = true := by simp; omega
          have i5 : decide (0 < k) = true := by simp; omega
          have i6 : (0 : Int) < (k : Int) := by omega
          have i7 : decide ((k : Int) > 0) = true := by simp; omega
          have i8 : decide (xt ≤ now) = false := by simp; omega
          clear hx hc p0 p1 hcase hm HR hnext
          go_wp2_with (at_builtin; refine wpList_append_rs (xs := rdueK l now k) (l := [(xa, xt)]) (n := m) (m := 1) (N := m + 1) _ rfl _ _ rfl (by rfl) (by rfl) (by have := Row.alloc HO.out.1 (.cells #[.int .u64 xa, .int .u64 xt] 57); rw [← HM.out] at this; exact this) (Rs.one (Blk.new _ 57 _)) HB9.out rfl ?_; intro A6 c6 w6 hr hg hf; have H7 := Lib.hid ((HO.out.later ((Chg.refl [] _).alloc (.cells #[.int .u64 xa, .int .u64 xt] 57))).append (by rw [List.length_append, ← HM.out]; rfl) hr hg hf); clear hr hg hf)
          go_roundg (n - k - 1)
          case measure => omega
          case rel => exact ⟨k + 1, by omega, by go_num, Lib.hid (by rw [HX.out]; exact H7.out)⟩
        · obtain rfl : k = 0 := by omega
          clear hx hc p0 p1 hcase hm HR hnext
          simp only [Nat.zero_mul, Nat.add_zero] at x0 x1
          go_wp2_with (at_builtin; refine wpList_append_rs (xs := rdueK l now 0) (l := [(xa, xt)]) (n := m) (m := 1) (N := m + 1) _ rfl _ _ rfl (by rfl) (by rfl) (by have := Row.alloc HO.out.1 (.cells #[.int .u64 xa, .int .u64 xt] 57); rw [← HM.out] at this; exact this) (Rs.one (Blk.new _ 57 _)) HB9.out rfl ?_; intro A6 c6 w6 hr hg hf; have H7 := Lib.hid ((HO.out.later ((Chg.refl [] _).alloc (.cells #[.int .u64 xa, .int .u64 xt] 57))).append (by rw [List.length_append, ← HM.out]; rfl) hr hg hf); clear hr hg hf)
          go_roundg (n - 1)
          case measure => omega
          case rel => exact ⟨1, by omega, by go_num, Lib.hid (by rw [HX.out]; exact H7.out)⟩
    · obtain rfl : k = n := by omega
      have HO := Lib.hid HR.out
      rw [HEND.out] at HO
      obtain ⟨A5, c5, rfl, _⟩ := HO.out.rd.open_
      clear HR
      go_wp2
      go_ret
      exact ⟨_, rfl, HO.out⟩
end Go.Proofs
end
section
namespace Go.Proofs
open Go.RowKit
set_option linter.unusedVariables false

/-- A list in new memory: at whatever place of its block. -/
def Mine (w0 w : World) (v : Value) (l : List Rf) : Prop := Rd w v l ∧ (∀ k ∈ foot v, w0.heap.size ≤ k) ∧ Chg [] w0 w
theorem Own.mine {w0 w : World} {v : Value} {l : List Rf} (h : Own w0 w v l) : Mine w0 w v l := ⟨h.rd, h.2⟩
theorem Mine.before {w0 w w1 : World} {v : Value} {l : List Rf} (h0 : Chg [] w0 w) (h : Mine w w1 v l) : Mine w0 w1 v l := ⟨h.1, fun k hk => Nat.le_trans h0.size (h.2.1 k hk), h0.then h.2.2⟩
theorem Mine.later {w w1 w2 : World} {v : Value} {l : List Rf} (h : Mine w w1 v l) (hc : Chg [] w1 w2) : Mine w w2 v l := ⟨h.1.quiet hc, h.2.1, h.2.2.then hc⟩
theorem Mine.nil {w w1 : World} (h : Chg [] w w1) : Mine w w1 (.slice none 0 0) [] := (Own.nil h).mine
theorem Mine.chg {w w1 w2 : World} {v : Value} {l : List Rf} {S : List Nat} (h : Mine w w1 v l) (hc : Chg S w1 w2) (hn : ∀ k ∈ foot v, k ∉ S) (hS : ∀ k ∈ S, w.heap.size ≤ k) : Mine w w2 v l :=
  ⟨h.1.chg hc hn, h.2.1, h.2.2.trans hc (fun k hk => .inr (hS k hk))⟩
theorem rd_cell {w : World} {b o n c : Nat} {l : List Rf} (h : Rd w (.slice (some ⟨b, o, none⟩) n c) l) {j : Nat} {u : Value} (hj : j < l.length * 2) {l' : List Rf} (hl : l'.length = l.length) (he : rfs l' = (rfs l).set j u) :
    Rd (w.setCell ⟨b, o + j, none⟩ u) (.slice (some ⟨b, o, none⟩) n c) l' := by
  obtain ⟨A', c', hv, h1, h2, h0, h3, h4⟩ := h
  simp only [Value.slice.injEq] at hv
  obtain ⟨rfl, rfl, rfl⟩ := hv
  obtain ⟨g, o', cs, he', hB, hs, r⟩ := h4 _ rfl
  simp only [Addr.mk.injEq, and_true] at he'
  obtain ⟨rfl, rfl⟩ := he'
  unfold Rd
  rw [hl]
  refine ⟨_, c, rfl, h1, h2, by rw [rfs_len, hl], fun h => (by cases h), fun a ha => ?_⟩
  cases ha
  refine ⟨b, o, _, rfl, hB.set_ (o + j) u, by simpa using hs, fun k v hk => ?_⟩
  rw [he, List.getElem?_set] at hk
  split at hk
  · rename_i e
    subst e
    split at hk
    · rw [Array.getElem?_setIfInBounds_self_of_lt (by omega)]
      exact hk
    · cases hk
  · rename_i e
    rw [Array.getElem?_setIfInBounds_ne (by omega)]
    exact r k v hk
theorem Mine.cell {w0 w : World} {b o n c : Nat} {l : List Rf} (h : Mine w0 w (.slice (some ⟨b, o, none⟩) n c) l) {j : Nat} {u : Value} (hj : j < l.length * 2) {l' : List Rf} (hl : l'.length = l.length) (he : rfs l' = (rfs l).set j u) :
    Mine w0 (w.setCell ⟨b, o + j, none⟩ u) (.slice (some ⟨b, o, none⟩) n c) l' :=
  ⟨rd_cell h.1 hj hl he, h.2.1, h.2.2.setCell (p := ⟨b, o + j, none⟩) (.inr (h.2.1 b (by simp [foot_some]))) _⟩
/-- A new Amount of the k-th one. -/
theorem Mine.set1 {w0 w : World} {b o n c : Nat} {l : List Rf} (h : Mine w0 w (.slice (some ⟨b, o, none⟩) n c) l) {k : Nat} {x : Rf} (hx : l[k]? = some x) (a : Int) :
    Mine w0 (w.setCell ⟨b, o + k * 2, none⟩ (.int .u64 a)) (.slice (some ⟨b, o, none⟩) n c) (l.set k (a, x.2)) := by
  have hk := (List.getElem?_eq_some_iff.1 hx).1
  exact h.cell (by omega) (by simp) (rfs_set1 l k x a hx)
/-- A new At of the k-th one. -/
theorem Mine.set2 {w0 w : World} {b o n c : Nat} {l : List Rf} (h : Mine w0 w (.slice (some ⟨b, o, none⟩) n c) l) {k : Nat} {x : Rf} (hx : l[k]? = some x) (a : Int) :
    Mine w0 (w.setCell ⟨b, o + k * 2 + 1, none⟩ (.int .u64 a)) (.slice (some ⟨b, o, none⟩) n c) (l.set k (x.1, a)) := by
  have hk := (List.getElem?_eq_some_iff.1 hx).1
  exact h.cell (j := k * 2 + 1) (by omega) (by simp) (rfs_set2 l k x a hx)
theorem blk_setCells2 (b : Nat) (t : TypeId) : ∀ (vs : List Value) (o : Nat) (w : World) (cs : Array Value), Blk w b t cs → o + vs.length ≤ cs.size → ∃ cs', Blk (w.setCells b o vs) b t cs' ∧ cs'.size = cs.size ∧ (∀ j, j < o → cs'[j]? = cs[j]?) ∧ ∀ j, j < vs.length → cs'[o + j]? = vs[j]?
  | [], o, w, cs, h, _ => ⟨cs, h, rfl, fun _ _ => rfl, fun j hj => by simp at hj⟩
  | v :: r, o, w, cs, h, hs => by
    obtain ⟨cs', h1, h2, h3, h4⟩ := blk_setCells2 b t r (o + 1) _ _ (h.set_ o v) (by simp at hs ⊢; omega)
    refine ⟨cs', h1, by rw [h2]; simp, fun j hj => ?_, fun j hj => ?_⟩
    · rw [h3 j (by omega), Array.getElem?_setIfInBounds_ne (by omega)]
    · cases j with
      | zero => rw [Nat.add_zero, h3 o (by omega), Array.getElem?_setIfInBounds_self_of_lt (by simp at hs; omega)]; rfl
      | succ j => rw [show o + (j + 1) = o + 1 + j by omega, h4 j (by simpa using hj)]; rfl
theorem addr_add (g o j : Nat) : (⟨g, o, none⟩ : Addr).add j = ⟨g, o + j, none⟩ := by unfold Addr.add; split <;> simp_all
/-- append onto a list at whatever place of its block. -/
theorem run_append_any (w : World) (ty : TypeId) {v x : Value} {xs l : List Rf} (hr : Rd w v xs) (hx : Rd w x l) (hl0 : 0 < l.length) (hb : xs.length + l.length ≤ 1000000) :
    ∃ A' c' w', (Builtin.append_ #[41, 41] ty #[v, x]).run Tryz.prog w = .ok (.slice A' (xs.length + l.length) c') w' ∧ Rd w' (.slice A' (xs.length + l.length) c') (xs ++ l) ∧ Chg (foot v) w w' ∧ (∀ k ∈ foot (.slice A' (xs.length + l.length) c'), k ∈ foot v ∨ w.heap.size ≤ k) := by
  obtain ⟨i0, hi0, hz0, hz1, hz2⟩ := info_parts rf_info
  obtain ⟨A, c, rfl, h1, h2, h0, h3, h4⟩ := hr
  have hrx := hx
  obtain ⟨A2, c2, rfl, p1, p2, p0, p3, p4⟩ := hx
  have one : ∀ u ∈ rfs l, u.oneCell' = true := by
    intro u hu
    unfold rfs at hu
    obtain ⟨y, _, hy⟩ := List.mem_flatMap.1 hu
    simp [rfCells] at hy
    rcases hy with rfl | rfl <;> rfl
  cases A with
  | none =>
    have hc0 := h3 rfl
    have hxs : xs = [] := List.eq_nil_of_length_eq_zero (by omega)
    subst hxs hc0
    obtain ⟨A', c', w', q1, q2, q3, q4⟩ := run_append_rs (n := 0) (xs := []) w ty (Row.nil w 57 2) hrx (by simpa using hb)
    rw [Nat.zero_add] at q1 q2 q4
    refine ⟨A', c', w', by simpa using q1, ?_, ?_, ?_⟩
    · simp only [List.length_nil, Nat.zero_add]
      have := Rs.of_row q2
      exact this
    · exact (Chg.refl _ _).grown q3 (fun k hk => by cases hk)
    · simpa using q4
  | some a0 =>
    obtain ⟨g, o, cs, rfl, hB, hs, r⟩ := h4 _ rfl
    cases A2 with
    | none => have := p3 rfl; omega
    | some a2 =>
      obtain ⟨g2, o2, cs2, rfl, hB2, hs2, r2⟩ := p4 _ rfl
      have hnews : ∀ j u, (rfs l)[j]? = some u → w.cell? ((⟨g2, o2, none⟩ : Addr).add j) = some u := fun j u hu => by rw [addr_add, hB2.cell]; exact r2 j u hu
      by_cases hroom : xs.length + l.length ≤ c
      · have hcell : o + xs.length * 2 + (rfs l).length ≤ cs.size := by rw [rfs_len]; omega
        have hrun := run_append_room_cells (P := Tryz.prog) w 41 ty 57 i0 Tryz.underlying41 hi0 g o xs.length c ⟨g2, o2, none⟩ l.length c2 (rfs l) (by rw [rfs_len, hz1]) hnews one hroom
          (fun j hj => by rw [hB.cell, hz1]; simp; omega) (fun j hj => hB.frozen _)
        rw [hz1] at hrun
        obtain ⟨cs', k1, k2, k3, k4⟩ := blk_setCells2 g 57 (rfs l) (o + xs.length * 2) w cs hB hcell
        refine ⟨_, c, _, hrun, ?_, (chg_setCells g _ _ w).mono (fun k hk => .inl (by simpa [foot_some] using hk)), fun k hk => .inl hk⟩
        unfold Rd
        rw [List.length_append]
        refine ⟨_, c, rfl, hroom, h2, by rw [rfs_len, List.length_append], fun h => (by cases h), fun a ha => ?_⟩
        cases ha
        refine ⟨g, o, cs', rfl, k1, by omega, fun j u hj => ?_⟩
        rw [rfs_append] at hj
        by_cases hjl : j < xs.length * 2
        · rw [List.getElem?_append_left (by rw [rfs_len]; exact hjl)] at hj
          rw [k3 _ (by omega)]
          exact r j u hj
        · rw [List.getElem?_append_right (by rw [rfs_len]; omega), rfs_len] at hj
          have hjl2 := (List.getElem?_eq_some_iff.1 hj).1
          rw [show o + j = o + xs.length * 2 + (j - xs.length * 2) by omega, k4 _ hjl2]
          exact hj
      · have hrun := run_append_grow (P := Tryz.prog) w 41 ty 57 i0 (.agg #[.int .u64 0, .int .u64 0]) Tryz.underlying41 hi0 hz0 ⟨g, o, none⟩ xs.length c (rfs xs) (by rw [rfs_len, hz1]) (fun j u hu => by rw [addr_add, hB.cell]; exact r j u hu)
          ⟨g2, o2, none⟩ l.length c2 (rfs l) (by rw [rfs_len, hz1]) hnews (by omega) (by omega) (growslice_fits (by omega) (by rw [hz2]; omega))
        refine ⟨_, _, _, hrun, ?_, (Chg.refl _ _).drew.alloc _, fun k hk => .inr (by simp [foot_some] at hk; omega)⟩
        unfold Rd
        rw [List.length_append]
        have hge := grownCap_ge w (xs.length + l.length) c 57
        have hcm : grownCap w (xs.length + l.length) c 57 ≤ maxLen := grownCap_le_maxLen w _ _ _ (by unfold maxLen; omega)
        refine Rs.of_row ⟨by rw [rfs_len, List.length_append], .inr ⟨w.heap.size, _, _, rfl, heap_alloc_new w.drew _, hge, hcm, ?_, ?_⟩⟩
        · simp only [Array.size_append, List.size_toArray, size_zeroCells, rfs_len, Value.cells]
          simp
          omega
        · simp only [Array.toList_append, List.append_assoc]
          rw [← List.append_assoc, ← rfs_append]
          rw [show (xs.length + l.length) * 2 = (rfs (xs ++ l)).length by rw [rfs_len, List.length_append]]
          exact List.take_left
theorem wpList_append_any (w : World) {ops : Array Oper} {rest : List Oper} {o : Oper} {a : Act} {Q : Exit → Act → World → Prop} (hgd : o.guard = none) (s y : Operand)
    (ho : o.op = .call { callee := .builtin .append, args := #[s, y], argTypes := #[41, 41] })
    {v x : Value} {xs l : List Rf} {N : Nat} (hs : a.eval s = v) (hy : a.eval y = x) (hr : Rd w v xs) (hx : Rd w x l) (hl0 : 0 < l.length) (hb : xs.length + l.length ≤ 1000000) (hN : N = xs.length + l.length)
    (h : ∀ A' c' w', Rd w' (.slice A' N c') (xs ++ l) → Chg (foot v) w w' → (∀ k ∈ foot (.slice A' N c'), k ∈ foot v ∨ w.heap.size ≤ k) → wpList Tryz.prog ops Q rest (a.put o.dst (.slice A' N c')) w') : wpList Tryz.prog ops Q (o :: rest) a w := by
  subst hN
  obtain ⟨A', c', w', h1, h2, h3, h4⟩ := run_append_any w o.type hr hx hl0 hb
  exact Lib.wpList_append_run w hgd s y 41 41 ho v x hs hy _ w' h1 (h A' c' w' h2 h3 h4)
theorem Mine.append {w w1 w2 : World} {v v' : Value} {xs l : List Rf} (h : Mine w w1 v xs) (hr : Rd w2 v' (xs ++ l)) (hg : Chg (foot v) w1 w2) (hf : ∀ k ∈ foot v', k ∈ foot v ∨ w1.heap.size ≤ k) : Mine w w2 v' (xs ++ l) := by
  refine ⟨hr, fun k hk => ?_, h.2.2.trans hg (fun k hk => .inr (h.2.1 k hk))⟩
  rcases hf k hk with h1 | h1
  · exact h.2.1 k h1
  · have := h.2.2.size; omega
end Go.Proofs
end
section
namespace Go.Proofs
open Go.RowKit
set_option linter.unusedVariables false

/-- A list of one at least, opened for writing. -/
theorem Rd.form {w : World} {v : Value} {l : List Rf} (h : Rd w v l) (h0 : 0 < l.length) : ∃ b o c, v = .slice (some ⟨b, o, none⟩) l.length c ∧ l.length ≤ c ∧ b < w.heap.size ∧ (∀ k, w.frozen? ⟨b, k, none⟩ = false) ∧
    ∀ k x, l[k]? = some x → w.cell? ⟨b, o + k * 2, none⟩ = some (.int .u64 x.1) ∧ w.cell? ⟨b, o + k * 2 + 1, none⟩ = some (.int .u64 x.2) := by
  obtain ⟨A, c, rfl, h1, h2, h3, hcell⟩ := h.open_
  obtain ⟨b, o, rfl, lb, _⟩ := hcell 0 _ (List.getElem?_eq_getElem h0)
  refine ⟨b, o, c, rfl, h1, lb, ?_, fun k x hk => ?_⟩
  · obtain ⟨A', c', hv, q1, q2, q0, q3, q4⟩ := h
    simp only [Value.slice.injEq] at hv
    obtain ⟨rfl, _, rfl⟩ := hv
    obtain ⟨g, o', cs, he, hB, hs, r⟩ := q4 _ rfl
    simp only [Addr.mk.injEq, and_true] at he
    obtain ⟨rfl, rfl⟩ := he
    exact hB.frozen
  · obtain ⟨b', o', he, _, q1, q2⟩ := hcell k x hk
    simp only [Option.some.injEq, Addr.mk.injEq, and_true] at he
    obtain ⟨rfl, rfl⟩ := he
    exact ⟨q1, q2⟩
def lastP (l : List Rf) : Rf := (l[l.length - 1]?).getD (0, 0)
theorem lastP_at {l : List Rf} (h : 0 < l.length) : l[l.length - 1]? = some (lastP l) := by unfold lastP; rw [List.getElem?_eq_getElem (by omega)]; rfl
/-- One comes back. -/
def backP (l : List Rf) (at_ most : Int) : List Rf :=
  if l.length = 0 ∨ (lastP l).2 < at_ then (if (l.length : Int) < most then l ++ [(1, at_)] else l.set (l.length - 1) ((lastP l).1 + 1, at_))
  else l.set (l.length - 1) ((lastP l).1 + 1, (lastP l).2)
set_option maxHeartbeats 6400000 in
set_option maxRecDepth 100000 in
theorem back_any {w0 w : World} {v : Value} {l : List Rf} {at_ most : Int} (h : Mine w0 w v l) (hk : Ok l) (hs : sumP l + 1 < 18446744073709551616) (hm : 1 ≤ most) (hn : l.length ≤ 100000) :
    Calls Tryz.prog 110 #[v, .int .u64 at_, .int .i64 most] w fun e w' => ∃ v', e = .returned v' ∧ Mine w0 w' v' (backP l at_ most) := by
  by_cases h0 : l.length = 0
  · have hl : l = [] := List.eq_nil_of_length_eq_zero h0
    subst hl
    obtain ⟨A, c, rfl, _⟩ := h.1.open_
    simp only [List.length_nil]
    have HH := Lib.hid h
    have HE := Lib.hid (show backP [] at_ most = [] ++ [(1, at_)] by unfold backP; rw [if_pos (.inl rfl), if_pos (by simp; omega)])
    have i0 : decide ((0 : Int) < most) = true := by simp; omega
    have i1 : (0 : Int) < most := by omega
    clear h hk hs h0
    go_enter Tryz.func110, Tryz.ntmps110
    go_wp2_with (at_builtin; refine wpList_append_any (xs := []) (l := [(1, at_)]) (N := 1) _ rfl _ _ rfl (by rfl) (by rfl) (HH.out.1.quiet ((Chg.refl [] _).alloc (.cells #[.int .u64 1, .int .u64 at_] 57))) (Rs.one (x := (1, at_)) (Blk.new _ 57 _)) (by simp) (by simp) rfl ?_; intro A6 c6 w6 hr hg hf; have H7 := Lib.hid ((HH.out.later ((Chg.refl [] _).alloc (.cells #[.int .u64 1, .int .u64 at_] 57))).append hr hg hf); clear hr hg hf)
    go_ret
    exact ⟨_, rfl, by rw [HE.out]; exact H7.out⟩
  · obtain ⟨b, o, c, rfl, hlc, lb, hfz, hcell⟩ := h.1.form (by omega)
    have hlast := lastP_at (l := l) (by omega)
    obtain ⟨x0, x1⟩ := hcell _ _ hlast
    obtain ⟨⟨a0, a1⟩, _⟩ := hk.at hlast
    have hle : (lastP l).1 ≤ sumP l := by
      have h1 := sumP_snoc hlast
      rw [show l.length - 1 + 1 = l.length by omega, List.take_length] at h1
      have := sumP_nonneg (hk.take (l.length - 1))
      omega
    obtain ⟨n, e1⟩ : ∃ n, n = l.length := ⟨_, rfl⟩
    obtain ⟨p, e2⟩ : ∃ p, p = l.length - 1 := ⟨_, rfl⟩
    obtain ⟨x, e3⟩ : ∃ x, x = lastP l := ⟨_, rfl⟩
    rw [← e3] at hlast a0 a1 hle x0 x1
    rw [← e2] at x0 x1 hlast
    rw [← e1] at h h0 hlc ⊢
    have HH := Lib.hid h
    have HX := Lib.hid hlast
    have f0 := hfz (o + p * 2)
    have f1 := hfz (o + p * 2 + 1)
    have i0 : IntKind.i64.wrap ((n : Int) - 1) = (p : Int) := by rw [IntWalk.i64_in _ (by omega)]; omega
    have i1 : (0 : Int) ≤ (p : Int) := by omega
    have i2 : (p : Int) < (n : Int) := by omega
    have i3 : decide ((p : Int) < 0) = false := by simp
    have i4 : ¬ (p : Int) < 0 := by omega
    have i5 : IntKind.u64.wrap (x.1 + 1) = x.1 + 1 := by rw [IntKind.wrap_u64]; omega
    have HB9 := Lib.hid (show n + 1 ≤ 1000000 by omega)
    have HN := Lib.hid e1
    have HBK : Hid (backP l at_ most = if x.2 < at_ then (if (n : Int) < most then l ++ [(1, at_)] else l.set p (x.1 + 1, at_)) else l.set p (x.1 + 1, x.2)) := Lib.hid (by
      unfold backP
      rw [← e1, ← e3]
      by_cases hlt : x.2 < at_
      · rw [if_pos (.inr hlt), if_pos hlt, show n - 1 = p by omega]
      · rw [if_neg (by omega), if_neg hlt, show n - 1 = p by omega])
    have HPL := Lib.hid (show p < l.length by omega)
    clear h hlast hfz hcell hk hs e1 e2 e3 h0 hle a0 a1
    obtain ⟨xa, xt⟩ := x
    simp only at x0 x1 i5 HX HBK
    by_cases hlt : xt < at_
    · have j0 : decide (at_ > xt) = true := by simp; omega
      have j1 : decide (xt < at_) = true := by simp; omega
      by_cases hrm : (n : Int) < most
      · have j2 : decide ((n : Int) < most) = true := by simpa using hrm
        have HE := Lib.hid (show backP l at_ most = l ++ [(1, at_)] by rw [HBK.out, if_pos hlt, if_pos hrm])
        clear hlt hrm HBK HX f0 f1
        go_enter Tryz.func110, Tryz.ntmps110
        go_wp2_with (at_builtin; refine wpList_append_any (xs := l) (l := [(1, at_)]) (N := n + 1) _ rfl _ _ rfl (by rfl) (by rfl) (HH.out.1.quiet ((Chg.refl [] _).alloc (.cells #[.int .u64 1, .int .u64 at_] 57))) (Rs.one (x := (1, at_)) (Blk.new _ 57 _)) (by simp) (by have := HB9.out; have := HN.out; simp; omega) (by have := HN.out; simp; omega) ?_; intro A6 c6 w6 hr hg hf; have H7 := Lib.hid ((HH.out.later ((Chg.refl [] _).alloc (.cells #[.int .u64 1, .int .u64 at_] 57))).append hr hg hf); clear hr hg hf)
        go_ret
        exact ⟨_, rfl, by rw [HE.out]; exact H7.out⟩
      · have j2 : decide ((n : Int) < most) = false := by simpa using hrm
        have HE := Lib.hid (show backP l at_ most = l.set p (xa + 1, at_) by rw [HBK.out, if_pos hlt, if_neg hrm])
        have H7 := Lib.hid ((HH.out.set2 HX.out at_).set1 (k := p) (x := (xa, at_)) (by rw [List.getElem?_set_self HPL.out]) (xa + 1))
        rw [List.set_set] at H7
        clear hlt hrm HBK HX
        go_enter Tryz.func110, Tryz.ntmps110
        go_wp2
        go_ret
        exact ⟨_, rfl, by rw [HE.out]; exact H7.out⟩
    · have j0 : decide (at_ > xt) = false := by simp; omega
      have j1 : decide (xt < at_) = false := by simp; omega
      have HE := Lib.hid (show backP l at_ most = l.set p (xa + 1, xt) by rw [HBK.out, if_neg hlt])
      have H7 := Lib.hid (HH.out.set1 HX.out (xa + 1))
      clear hlt HBK HX
      go_enter Tryz.func110, Tryz.ntmps110
      go_wp2
      go_ret
      exact ⟨_, rfl, by rw [HE.out]; exact H7.out⟩
end Go.Proofs
end
