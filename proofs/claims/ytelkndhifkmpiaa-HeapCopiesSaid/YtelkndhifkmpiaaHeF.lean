import Derived.Test.YtelkndhifkmpiaaHeE
namespace Go.Proofs
open Go.RowKit
set_option linter.unusedVariables false

/-- What the walk asks of a heap: its cells. -/
theorem HpB.cells {w : World} {g h b c m p : Nat} {ts : List Tm} {f : Int → Option Nat} (H : HpB w g h b c ts f m p) {i : Nat} (hi : i < ts.length) :
    w.cell? ⟨h, i * 3, none⟩ = some (.int .u64 (at_ ts i).at_) ∧ w.cell? ⟨h, i * 3 + 1, none⟩ = some (.int .i64 (at_ ts i).id) ∧ w.cell? ⟨h, i * 3 + 2, none⟩ = some (.int .u64 (at_ ts i).put) := by
  obtain ⟨hB, hR, hM⟩ := H
  obtain ⟨_, _, hv, _, _, hcell, hfz, lh⟩ := hR.form (by omega)
  simp only [Value.slice.injEq, Option.some.injEq, Addr.mk.injEq] at hv
  obtain ⟨⟨rfl, _⟩, _, rfl⟩ := hv
  exact ⟨hcell _ _ (tms_at (at_eq hi)).1, hcell _ _ (tms_at (at_eq hi)).2.1, hcell _ _ (tms_at (at_eq hi)).2.2⟩
theorem HpB.head {w : World} {g h b c m p : Nat} {ts : List Tm} {f : Int → Option Nat} (H : HpB w g h b c ts f m p) :
    w.cell? ⟨g, 0, none⟩ = some (.slice (some ⟨h, 0, none⟩) ts.length c) ∧ w.cell? ⟨g, 1, none⟩ = some (.map (some b)) ∧ w.cell? ⟨g, 2, none⟩ = some (.int .u64 p) :=
  ⟨H.1.cell 0, H.1.cell 1, H.1.cell 2⟩
set_option maxHeartbeats 1600000 in
set_option maxRecDepth 100000 in
theorem ahead_any {w : World} {g h b c m p : Nat} {ts : List Tm} {f : Int → Option Nat} (H : HpB w g h b c ts f m p) {i j : Nat} (hi : i < ts.length) (hj : j < ts.length) (hn : ts.length ≤ 100000) :
    Calls Try.prog 44 #[.pointer (some ⟨g, 0, none⟩), .int .i64 (i : Nat), .int .i64 (j : Nat)] w fun e w' => e = .returned (.bool (decide (Tm.lt (at_ ts i) (at_ ts j)))) ∧ Chg [] w w' := by
  have hlt := H.lt
  obtain ⟨c0, _, _⟩ := H.head
  obtain ⟨a0, a1, a2⟩ := H.cells hi
  obtain ⟨b0, b1, b2⟩ := H.cells hj
  have lg := hlt g (by simp)
  have lh := hlt h (by simp)
  obtain ⟨n, hnn⟩ : ∃ n, n = ts.length := ⟨_, rfl⟩
  have hc := cmp_any (at_ ts i) (at_ ts j)
  have hd : decide (Tm.lt (at_ ts i) (at_ ts j)) = decide (Tm.cf (at_ ts i) (at_ ts j) < 0) := by
    rw [decide_eq_decide]; exact (Tm.cf_lt _ _).symm
  rw [hd]
  obtain ⟨r, hr⟩ : ∃ r, r = Tm.cf (at_ ts i) (at_ ts j) := ⟨_, rfl⟩
  rw [← hr] at hc ⊢
  rw [← hnn] at c0 hi hj hn
  unfold agg at hc
  generalize at_ ts i = x at *
  generalize at_ ts j = y at *
  obtain ⟨xa, xi, xp⟩ := x
  obtain ⟨ya, yi, yp⟩ := y
  simp only at a0 a1 a2 b0 b1 b2
  have i0 : (0 : Int) ≤ (i : Int) := by omega
  have i1 : (i : Int) < (n : Int) := by omega
  have j0 : (0 : Int) ≤ (j : Int) := by omega
  have j1 : (j : Int) < (n : Int) := by omega
  clear H hlt hnn hr hd hi hj
  have HK : ∀ W w1 : World, W.heap = w.heap → Chg [] W w1 → (w1.cell? ⟨g, 0, none⟩ = some (.slice (some ⟨h, 0, none⟩) n c) ∧ w1.cell? ⟨h, i * 3, none⟩ = some (.int .u64 xa) ∧ w1.cell? ⟨h, i * 3 + 1, none⟩ = some (.int .i64 xi) ∧ w1.cell? ⟨h, i * 3 + 2, none⟩ = some (.int .u64 xp)
      ∧ w1.cell? ⟨h, j * 3, none⟩ = some (.int .u64 ya) ∧ w1.cell? ⟨h, j * 3 + 1, none⟩ = some (.int .i64 yi) ∧ w1.cell? ⟨h, j * 3 + 2, none⟩ = some (.int .u64 yp)) := by
    intro W w1 hW hc
    have e : ∀ p : Addr, p.block < w.heap.size → w1.cell? p = w.cell? p := fun p hp => by
      rw [hc.cell (p := p) (by rw [hW]; exact hp) (by simp)]
      exact World.cell?_of_block (by rw [hW])
    exact ⟨(e _ lg).trans c0, (e _ lh).trans a0, (e _ lh).trans a1, (e _ lh).trans a2, (e _ lh).trans b0, (e _ lh).trans b1, (e _ lh).trans b2⟩
  have hc' : ∀ W, Calls Try.prog 29 #[.agg #[.int .u64 xa, .int .i64 xi, .int .u64 xp], .agg #[.int .u64 ya, .int .i64 yi, .int .u64 yp]] W fun e w' => e = .returned (.int .i64 r) ∧ Chg [] W w' := fun W => (hc W).mono fun e w' ⟨h1, o1, o2, o3, h2⟩ => ⟨h1, by subst h2; exact (((((Chg.refl _ _).drew).alloc _).alloc _).alloc _)⟩
  have HKK := Lib.hid HK
  clear HK hc
  go_enter Try.func44, Try.ntmps44
  go_wp2
  go_region_held3 (fun w' => w'.cell? ⟨g, 0, none⟩ = some (.slice (some ⟨h, 0, none⟩) n c) ∧ w'.cell? ⟨h, i * 3, none⟩ = some (.int .u64 xa) ∧ w'.cell? ⟨h, i * 3 + 1, none⟩ = some (.int .i64 xi) ∧ w'.cell? ⟨h, i * 3 + 2, none⟩ = some (.int .u64 xp)
      ∧ w'.cell? ⟨h, j * 3, none⟩ = some (.int .u64 ya) ∧ w'.cell? ⟨h, j * 3 + 1, none⟩ = some (.int .i64 yi) ∧ w'.cell? ⟨h, j * 3 + 2, none⟩ = some (.int .u64 yp))
    (first | go_keep)
    (first
      | (go_at_call 29; refine (hc' _).mono ?_; rintro e w1 ⟨rfl, hcc⟩; obtain ⟨e0, e1, e2, e3, e4, e5, e6⟩ := HKK.out _ _ (by rfl) hcc; have HCC := Lib.hid hcc; clear hcc))
  all_goals
    go_wp2
    go_ret
    exact ⟨rfl, (Chg.refl _ _).drew.then HCC.out⟩
end Go.Proofs
