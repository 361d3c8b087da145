import Derived.Test.YtelkndhifkmpiaaHeF
namespace Go.Proofs
open Go.RowKit
set_option linter.unusedVariables false

theorem upd_some {f : Int → Option Nat} {id x : Int} {i : Nat} (h : (f x).isSome) : (upd f id i x).isSome := by
  unfold upd; split
  · rfl
  · exact h
set_option maxHeartbeats 3200000 in
set_option maxRecDepth 100000 in
theorem swap_any {w : World} {g h b c m p : Nat} {ts : List Tm} {f : Int → Option Nat} (H : HpB w g h b c ts f m p) {i j : Nat} (hi : i < ts.length) (hj : j < ts.length) (hn : ts.length ≤ 100000) (hm : m ≤ 1000000)
    (hx : I64 (at_ ts i).id) (hy : I64 (at_ ts j).id) (fx : (f (at_ ts i).id).isSome) (fy : (f (at_ ts j).id).isSome) :
    Calls Try.prog 42 #[.pointer (some ⟨g, 0, none⟩), .int .i64 (i : Nat), .int .i64 (j : Nat)] w fun e w' => e = .returned (.tuple #[]) ∧
      HpB w' g h b c (swp ts i j) (upd (upd f (at_ ts j).id i) (at_ ts i).id j) m p ∧ Chg [g, h, b] w w' := by
  have hlt := H.lt
  obtain ⟨c0, _, _⟩ := H.head
  obtain ⟨a0, a1, a2⟩ := H.cells hi
  obtain ⟨b0, b1, b2⟩ := H.cells hj
  have lg := hlt g (by simp)
  have lh := hlt h (by simp)
  have lb := hlt b (by simp)
  have S1 : ∀ W, Chg [] w W → Calls Try.prog 31 #[.pointer (some ⟨g, 0, none⟩), .int .i64 (i : Nat), agg (at_ ts j)] W fun e w' => e = .returned (.tuple #[]) ∧ HpB w' g h b c (ts.set i (at_ ts j)) (upd f (at_ ts j).id i) m p ∧ Chg [g, h, b] W w' := fun W hW => by
    have := set_any (H.quiet hW) hi hn hm (at_ ts j) hy
    rwa [fy, if_pos rfl, Nat.add_zero] at this
  have S2 : ∀ W, HpB W g h b c (ts.set i (at_ ts j)) (upd f (at_ ts j).id i) m p → Calls Try.prog 31 #[.pointer (some ⟨g, 0, none⟩), .int .i64 (j : Nat), agg (at_ ts i)] W fun e w' => e = .returned (.tuple #[]) ∧ HpB w' g h b c (swp ts i j) (upd (upd f (at_ ts j).id i) (at_ ts i).id j) m p ∧ Chg [g, h, b] W w' := fun W hW => by
    have := set_any hW (i := j) (by rw [List.length_set]; exact hj) (by rw [List.length_set]; exact hn) hm (at_ ts i) hx
    rwa [upd_some fx, if_pos rfl, Nat.add_zero] at this
  obtain ⟨ts2, hts2⟩ : ∃ l, l = swp ts i j := ⟨_, rfl⟩
  obtain ⟨f2, hf2⟩ : ∃ l, l = upd (upd f (at_ ts j).id i) (at_ ts i).id j := ⟨_, rfl⟩
  obtain ⟨ts1, hts1⟩ : ∃ l, l = ts.set i (at_ ts j) := ⟨_, rfl⟩
  obtain ⟨f1, hf1⟩ : ∃ l, l = upd f (at_ ts j).id i := ⟨_, rfl⟩
  rw [← hts2, ← hf2] at S2 ⊢
  rw [← hts1, ← hf1] at S1 S2
  obtain ⟨n, hnn⟩ : ∃ n, n = ts.length := ⟨_, rfl⟩
  rw [← hnn] at c0 hi hj hn
  unfold agg at S1 S2
  clear hts1 hf1 hts2 hf2 fx fy hx hy
  generalize at_ ts i = x at *
  generalize at_ ts j = y at *
  obtain ⟨xa, xi, xp⟩ := x
  obtain ⟨ya, yi, yp⟩ := y
  simp only at a0 a1 a2 b0 b1 b2 S1 S2
  have i0 : (0 : Int) ≤ (i : Int) := by omega
  have i1 : (i : Int) < (n : Int) := by omega
  have j0 : (0 : Int) ≤ (j : Int) := by omega
  have j1 : (j : Int) < (n : Int) := by omega
  have HL := Lib.hid (show g < w.heap.size ∧ h < w.heap.size ∧ b < w.heap.size from ⟨lg, lh, lb⟩)
  clear H hlt hnn hi hj
  go_enter Try.func42, Try.ntmps42
  go_wp2
  go_region
  · go_wp2_with (first
      | (go_at_call 31; refine (S1 _ (by exact (((Chg.refl _ _).alloc _).alloc _).drew)).mono ?_; rintro e w1 ⟨rfl, h1, hc1⟩; obtain ⟨l0, l1, l2⟩ := HL.out; have q0 : w1.cell? ⟨w.heap.size, 0, none⟩ = some (.int .u64 xa) := (hc1.cell (p := ⟨w.heap.size, 0, none⟩) (by simp <;> omega) (by simp <;> omega)).trans (by simp); have q1 : w1.cell? ⟨w.heap.size, 1, none⟩ = some (.int .i64 xi) := (hc1.cell (p := ⟨w.heap.size, 1, none⟩) (by simp <;> omega) (by simp <;> omega)).trans (by simp); have q2 : w1.cell? ⟨w.heap.size, 2, none⟩ = some (.int .u64 xp) := (hc1.cell (p := ⟨w.heap.size, 2, none⟩) (by simp <;> omega) (by simp <;> omega)).trans (by simp); have H1 := Lib.hid h1; have HC1 := Lib.hid hc1; clear h1 hc1 S1)
      | (go_at_call 31; refine (S2 _ H1.out).mono ?_; rintro e w2 ⟨rfl, h2, hc2⟩; have H2 := Lib.hid h2; have HC2 := Lib.hid hc2; clear h2 hc2))
    go_end0
    exact ⟨rfl, H2.out, ((Chg.any ((((Chg.refl _ _).alloc _).alloc _).drew)).trans HC1.out (fun k hk => .inl hk)).trans HC2.out (fun k hk => .inl hk)⟩
  · go_wp2_with (first
      | (go_at_call 31; refine (S1 _ (by exact (((Chg.refl _ _).alloc _).alloc _).drew)).mono ?_; rintro e w1 ⟨rfl, h1, hc1⟩; obtain ⟨l0, l1, l2⟩ := HL.out; have q0 : w1.cell? ⟨w.heap.size + 1, 0, none⟩ = some (.int .u64 xa) := (hc1.cell (p := ⟨w.heap.size + 1, 0, none⟩) (by simp <;> omega) (by simp <;> omega)).trans (by simp); have q1 : w1.cell? ⟨w.heap.size + 1, 1, none⟩ = some (.int .i64 xi) := (hc1.cell (p := ⟨w.heap.size + 1, 1, none⟩) (by simp <;> omega) (by simp <;> omega)).trans (by simp); have q2 : w1.cell? ⟨w.heap.size + 1, 2, none⟩ = some (.int .u64 xp) := (hc1.cell (p := ⟨w.heap.size + 1, 2, none⟩) (by simp <;> omega) (by simp <;> omega)).trans (by simp); have H1 := Lib.hid h1; have HC1 := Lib.hid hc1; clear h1 hc1 S1)
      | (go_at_call 31; refine (S2 _ H1.out).mono ?_; rintro e w2 ⟨rfl, h2, hc2⟩; have H2 := Lib.hid h2; have HC2 := Lib.hid hc2; clear h2 hc2))
    go_end0
    exact ⟨rfl, H2.out, ((Chg.any ((((Chg.refl _ _).alloc _).alloc _).drew)).trans HC1.out (fun k hk => .inl hk)).trans HC2.out (fun k hk => .inl hk)⟩
end Go.Proofs
