import Derived.Test.YtoddffpbbnicpaaRuC
namespace Go.Proofs
open Go.RowKit
set_option linter.unusedVariables false

theorem Try.num_info : (Try.prog.info? 3).map (fun i => (i.zero, i.size, i.bytes)) = some (some (.int .i64 0), 1, 8) := by kernel_rfl
theorem new_no (M : Int) (w : World) (h : M < 1 ∨ 4096 < M) :
    Calls Try.prog 30 #[.int .i64 M] w fun e w' => e = .returned (.tuple #[.pointer none, .int .i64 2]) ∧ w = w' := by
  rcases h with h | h
  · go_enter Try.func30, Try.ntmps30
    go_wp2
    go_ret2
    exact ⟨rfl, rfl⟩
  · have h' : ¬ M < 1 := by omega
    go_enter Try.func30, Try.ntmps30
    go_wp2
    go_ret2
    exact ⟨rfl, rfl⟩
/-- A new ring, in new blocks. -/
def Made (M : Nat) (L : List Int) (g h : Nat) (w w' : World) : Prop := RingAt w' g h M L ∧ w.heap.size ≤ g ∧ w.heap.size ≤ h ∧ Chg [] w w'
theorem new_ok (M : Nat) (w : World) (h0 : 0 < M) (h1 : M ≤ 4096) :
    Calls Try.prog 30 #[.int .i64 (M : Nat)] w fun e w' => ∃ g h, e = .returned (.tuple #[.pointer (some ⟨g, 0, none⟩), .int .i64 0]) ∧ Made M [] g h w w' := by
  obtain ⟨i0, hi0, hz0, hz1, hz2⟩ := info_parts Try.num_info
  have d1 : ¬ ((M : Int) < 1) := by omega
  have d2 : ¬ (4096 < (M : Int)) := by omega
  go_enter Try.func30, Try.ntmps30
  go_wp2_with ((refine wpList_make_full _ rfl _ _ 38 rfl w.heap.size 3 i0 (.int .i64 0) 1 Try.underlying38 hi0 hz0 hz1 .i64 .i64 _ _ M rfl rfl rfl rfl (by rw [hz2]; omega) (by unfold maxLen; omega) (Nat.le_refl _) ?_); intro w1 hown hgrow)
  go_ret2
  refine ⟨_, rfl, _, ⟨⟨List.replicate M 0, 0, M, Lies.new h0 h1, (Blk.new w1 76 _), (Row.of_own (base := w.heap.size) ?_).alloc _⟩, hgrow.size, Nat.le_refl _, ((Chg.refl [] w).grown hgrow (fun k hk => by cases hk)).alloc _⟩⟩
  have e : (madeCells (Value.int .i64 0).cells (M * 1)).toList = ints (List.replicate M 0) := by
    refine List.ext_getElem? fun k => ?_
    by_cases hk : k < M
    · simp [madeCells, ints, hk, Value.cells, Nat.mod_one]
    · rw [List.getElem?_eq_none (by simp [madeCells, Value.cells]; omega), List.getElem?_eq_none (by simp [ints]; omega)]
  rw [← e]
  exact hown
/-- What the two pieces are: they read as two lists. -/
def Pieces (v : Value) (L : List Int) (w : World) (S : List Nat) : Prop :=
  ∃ v1 v2 l1 l2, v = .agg #[v1, v2] ∧ Rd w v1 l1 ∧ Rd w v2 l2 ∧ L = l1 ++ l2 ∧ (∀ k ∈ foot v1, k ∈ S) ∧ ∀ k ∈ foot v2, k ∈ S
theorem pieces_nil (w : World) : Calls Try.prog 65 #[.pointer none] w fun e w' => ∃ v, e = .returned v ∧ Pieces v [] w' [] ∧ Chg [] w w' := by
  go_enter Try.func65, Try.ntmps65
  go_wp2
  exact bodyPost_ret (v := .agg #[.slice none 0 0, .slice none 0 0]) (by simp [results, Try.results65, go_sem]) rfl ⟨_, rfl, ⟨_, _, [], [], rfl, Rd.nil _, Rd.nil _, rfl, by simp [foot_nil], by simp [foot_nil]⟩, (Chg.refl _ _).alloc _⟩
theorem Lies.pieces_a {M f : Nat} {zs L : List Int} (h : Lies M zs f L) (hw : f + L.length ≤ M) : L = (zs.drop f).take L.length ++ [] := by
  have := h.pieces
  rw [Nat.min_eq_left hw, Nat.sub_self, List.take_zero, Nat.add_sub_cancel_left] at this
  exact this
theorem Lies.pieces_b {M f : Nat} {zs L : List Int} (h : Lies M zs f L) (hw : M ≤ f + L.length) : L = (zs.drop f).take (M - f) ++ zs.take (f + L.length - M) := by
  have := h.pieces
  rw [Nat.min_eq_right hw] at this
  exact this
theorem Rd.empty {w : World} {h M c : Nat} {zs : List Int} (hR : Row w 3 1 (.slice (some ⟨h, 0, none⟩) M c) M (ints zs)) : Rd w (.slice (some ⟨h, 0, none⟩) 0 0) [] := by
  rcases hR.2 with ⟨h0, _⟩ | ⟨g, cap, cur, hv, hg, _⟩
  · cases h0
  · simp only [Value.slice.injEq, Option.some.injEq, Addr.mk.injEq] at hv
    obtain ⟨⟨rfl, _⟩, _, _⟩ := hv
    exact ⟨_, 0, rfl, by simp, by simp, fun h => (by cases h), fun a ha => by cases ha; exact ⟨_, _, _, rfl, hg, by omega, fun j x hj => by simp at hj⟩⟩
theorem still2 (w : World) (o : Obj) (n i j : Nat) (a b : Value) : Chg [] w ((((w.alloc o).drewN n).setCell ⟨w.heap.size, i, none⟩ a).setCell ⟨w.heap.size, j, none⟩ b) :=
  ((((Chg.refl [] w).alloc o).drewN n).setCell (p := ⟨w.heap.size, i, none⟩) (.inr (Nat.le_refl _)) a).setCell (p := ⟨w.heap.size, j, none⟩) (.inr (Nat.le_refl _)) b
theorem piece_1 {w W : World} {h M c f E : Nat} {zs : List Int} (hR : Row w 3 1 (.slice (some ⟨h, 0, none⟩) M c) M (ints zs)) (hz : zs.length = M) (hc : M ≤ c) (h1 : f < E) (h2 : E ≤ M) (hq : Chg [] w W) :
    Rd W (.slice (some ⟨h, f, none⟩) (E - f) (E - f)) ((zs.drop f).take (E - f)) := by
  have := (Rd.of_row hR).cut (i := f) (j := E) (k := E) (by omega) (by omega) (Nat.le_refl _) (by omega) (by simp) h1 h 0 rfl
  rw [Nat.zero_add] at this
  exact this.quiet hq
theorem piece_2 {w W : World} {h M c R : Nat} {zs : List Int} (hR : Row w 3 1 (.slice (some ⟨h, 0, none⟩) M c) M (ints zs)) (hz : zs.length = M) (hc : M ≤ c) (h2 : R ≤ M) (hq : Chg [] w W) :
    Rd W (.slice (some ⟨h, 0, none⟩) R R) (zs.take R) := by
  rcases Nat.eq_zero_or_pos R with h0 | h0
  · subst h0
    exact (Rd.empty hR).quiet hq
  · have := (Rd.of_row hR).cut (i := 0) (j := R) (k := R) (by omega) (by omega) (Nat.le_refl _) (by omega) (by simp) h0 h 0 rfl
    exact this.quiet hq
set_option maxHeartbeats 1600000 in
theorem pieces_any {w : World} {g h M : Nat} {L : List Int} (H : RingAt w g h M L) :
    Calls Try.prog 65 #[.pointer (some ⟨g, 0, none⟩)] w fun e w' => ∃ v, e = .returned v ∧ Pieces v L w' [h] ∧ Chg [] w w' := by
  obtain ⟨zs, f, c, hl, hB, hR⟩ := id H
  have HK := Lib.hid hl
  have HRR := Lib.hid hR
  have z1 := hl.z1
  have hf := hl.front
  have hmany := hl.many
  have hzl := hl.len
  obtain ⟨h', _, hv, _, hMc, _, _, _⟩ := hR.form (by omega)
  simp only [Value.slice.injEq, Option.some.injEq, Addr.mk.injEq] at hv
  obtain ⟨⟨rfl, _⟩, _, rfl⟩ := hv
  obtain ⟨m, hmL⟩ : ∃ m, m = L.length := ⟨_, rfl⟩
  have hpc := hl.pieces
  have c0 := hB.cell 0
  have c1 := hB.cell 1
  have c2 := hB.cell 2
  have lg := hB.lt
  simp only [List.getElem?_toArray, List.getElem?_cons_succ, List.getElem?_cons_zero, ← hmL] at c0 c1 c2
  rw [← hmL] at hmany hpc
  have hML := Lib.hid hmL
  have n0 := World.new_ne w _ c0
  have k0 : (w.alloc (.cells #[.slice none 0 0, .slice none 0 0] 83)).cell? ⟨g, 0, none⟩ = _ := (World.cell?_alloc_past _ _ _ lg).trans c0
  have k1 : (w.alloc (.cells #[.slice none 0 0, .slice none 0 0] 83)).cell? ⟨g, 1, none⟩ = _ := (World.cell?_alloc_past _ _ _ lg).trans c1
  have k2 : (w.alloc (.cells #[.slice none 0 0, .slice none 0 0] 83)).cell? ⟨g, 2, none⟩ = _ := (World.cell?_alloc_past _ _ _ lg).trans c2
  clear hl hB hR hmL
  obtain ⟨E, hE⟩ : ∃ E, E = min (f + m) M := ⟨_, rfl⟩
  obtain ⟨R, hRe⟩ : ∃ R, R = f + m - E := ⟨_, rfl⟩
  rw [← hE, ← hRe] at hpc
  have hEi := Lib.hid (show min ((f : Int) + (m : Int)) (M : Int) = (E : Int) by omega)
  have hRi := Lib.hid (show (f : Int) + (m : Int) - (E : Int) = (R : Int) by omega)
  have a1 : f ≤ E := by omega
  have a2 : E ≤ M := by omega
  have a3 : R ≤ M := by omega
  have HPC := Lib.hid hpc
  clear hpc hE hRe
  go_enter Try.func65, Try.ntmps65
  go_wp2
  go_quiet (fail)
  go_wp2
  go_quiet (fail)
  go_wp2
  rw [hEi.out, hRi.out]
  by_cases hfE : f = E
  · subst hfE
    have i0 : (0 : Int) ≤ (f : Int) := by omega
    have i3 : (f : Int) ≤ (c : Int) := by omega
    have i4 : (0 : Int) ≤ (R : Int) := by omega
    have i5 : (R : Int) ≤ (c : Int) := by omega
    go_region_held3 (fun w' => w'.cell? ⟨g, 0, none⟩ = some (.slice (some ⟨h, 0, none⟩) M c) ∧ w'.cell? ⟨g, 1, none⟩ = some (.int .i64 f)) (go_keep) (fail)
    go_wp2
    have e0 : (zs.drop f).take (f - f) = [] := by rw [Nat.sub_self]; rfl
    exact bodyPost_ret (v := .agg #[.slice (some ⟨h, 0, none⟩) 0 0, .slice (some ⟨h, 0, none⟩) R R]) (by simp [results, Try.results65, go_sem]) rfl ⟨_, rfl, ⟨_, _, [], _, rfl, (Rd.empty HRR.out).quiet (still2 _ _ _ _ _ _ _), piece_2 HRR.out hzl hMc a3 (still2 _ _ _ _ _ _ _), by rw [← e0]; exact HPC.out, by simp [foot_some], by simp [foot_some]⟩, (still2 _ _ _ _ _ _ _)⟩
  · have a4 : f < E := by omega
    have i0 : (0 : Int) ≤ (f : Int) := by omega
    have i1 : (f : Int) ≤ (E : Int) := by omega
    have i2 : (0 : Int) ≤ (E : Int) := by omega
    have i3 : (E : Int) ≤ (c : Int) := by omega
    have i4 : (0 : Int) ≤ (R : Int) := by omega
    have i5 : (R : Int) ≤ (c : Int) := by omega
    have hfE' : E ≠ f := by omega
    go_region_held3 (fun w' => w'.cell? ⟨g, 0, none⟩ = some (.slice (some ⟨h, 0, none⟩) M c) ∧ w'.cell? ⟨g, 1, none⟩ = some (.int .i64 f)) (go_keep) (fail)
    go_wp2
    exact bodyPost_ret (v := .agg #[.slice (some ⟨h, f, none⟩) (E - f) (E - f), .slice (some ⟨h, 0, none⟩) R R]) (by simp [results, Try.results65, go_sem]) rfl ⟨_, rfl, ⟨_, _, _, _, rfl, piece_1 HRR.out hzl hMc a4 a2 (still2 _ _ _ _ _ _ _), piece_2 HRR.out hzl hMc a3 (still2 _ _ _ _ _ _ _), HPC.out, by simp [foot_some], by simp [foot_some]⟩, (still2 _ _ _ _ _ _ _)⟩
end Go.Proofs
