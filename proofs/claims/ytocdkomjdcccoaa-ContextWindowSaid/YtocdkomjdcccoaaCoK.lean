import Derived.Test.YtocdkomjdcccoaaCoJ
namespace Go.Proofs
open Go.RowKit
set_option linter.unusedVariables false
set_option linter.unusedSimpArgs false
theorem CtxAt.good {w : World} {c : Nat} {S : List Nat} {t : Tab Cx} {most : Int} (h : CtxAt w c S t most) : Good w t := by obtain ⟨g, h1, h2, h3, h4⟩ := h; exact h3
theorem at_agg {w : World} {c : Nat} {S : List Nat} {t : Tab Cx} {most : Int} (h : CtxAt w c S t most) (i q : Int) (i0 : -9223372036854775808 ≤ i) (i1 : i ≤ 9223372036854775807) :
    Calls Try.prog 22 #[.pointer (some ⟨c, 0, none⟩), .agg #[.int .i64 i, .int .u64 q]] w fun e w' => e = .returned (.agg #[.int .u64 (t.at_ i q).b, .int .u64 (t.at_ i q).p, .slice (t.at_ i q).a (t.at_ i q).m (t.at_ i q).c, .int .i64 (t.at_ i q).n]) ∧ Chg [] w w' := at_any h i q i0 i1
theorem fldB (b p n : Int) (A : Option Addr) (m c : Nat) (W : World) : (Instr.field 42 (.agg #[.int .u64 b, .int .u64 p, .slice A m c, .int .i64 n]) 0).run Try.prog W = .ok (.int .u64 b) W := by kernel_rfl
theorem fldP (b p n : Int) (A : Option Addr) (m c : Nat) (W : World) : (Instr.field 42 (.agg #[.int .u64 b, .int .u64 p, .slice A m c, .int .i64 n]) 1).run Try.prog W = .ok (.int .u64 p) W := by kernel_rfl
theorem fldR (b p n : Int) (A : Option Addr) (m c : Nat) (W : World) : (Instr.field 42 (.agg #[.int .u64 b, .int .u64 p, .slice A m c, .int .i64 n]) 2).run Try.prog W = .ok (.slice A m c) W := by kernel_rfl
theorem fldN (b p n : Int) (A : Option Addr) (m c : Nat) (W : World) : (Instr.field 42 (.agg #[.int .u64 b, .int .u64 p, .slice A m c, .int .i64 n]) 3).run Try.prog W = .ok (.int .i64 n) W := by kernel_rfl
def lackP (x : Cx) (am now : Int) : Bool := decide (thereP x.l now < am) || decide (x.b ≤ am)
set_option maxHeartbeats 1600000 in
set_option maxRecDepth 100000 in
theorem lacks_step {w : World} {c bc br bn ba : Nat} {S : List Nat} {t : Tab Cx} {most : Int} (h : CtxAt w c S t most) {i q : Int} (i0 : -9223372036854775808 ≤ i) (i1 : i ≤ 9223372036854775807)
    (hk : Ok (t.at_ i q).l) (hn : (t.at_ i q).l.length ≤ 100000)
    (hb : Blk w bc 25 #[ptr c]) (hr : Blk w br 30 #[.int .i64 i, .int .u64 q]) {now am : Int} (hbn : Blk w bn 22 #[.int .u64 now]) (hba : Blk w ba 22 #[.int .u64 am]) :
    Calls Try.prog 48 #[ptr bc, ptr br, ptr bn, ptr ba] w fun e w' => e = .returned (.bool (lackP (t.at_ i q) am now)) ∧ Chg [] w w' := by
  have HA := Lib.hid (at_agg h i q i0 i1)
  have HT := Lib.hid (fun W (hW : Chg [] w W) => there_any ((h.quiet hW).good.at_ i q) hk hn now)
  unfold lackP
  obtain ⟨x, hx⟩ : ∃ x, x = t.at_ i q := ⟨_, rfl⟩
  rw [← hx] at HA HT ⊢
  have p0 := hb.cell 0
  have p1 := hr.cell 0
  have p2 := hr.cell 1
  have HN := Lib.hid hbn.tell
  have HM := Lib.hid hba.tell
  obtain ⟨th, hth⟩ : ∃ th, th = thereP x.l now := ⟨_, rfl⟩
  rw [← hth] at HT ⊢
  clear hx h hk hn hb hr hbn hba hth
  cases hd : decide (th < am) with
  | false =>
    go_enter Try.func48, Try.ntmps48
    go_wp2_with (go_at_call 22; refine (HA.out).mono ?_; rintro e w1 ⟨rfl, hc⟩; have n0 := (HN.out _ hc).1 0; have m0 := (HM.out _ hc).1 0; have ln := (HN.out _ hc).2; have lm := (HM.out _ hc).2; have HC := Lib.hid hc; clear hc)
    first
      | go_region_held3 (fun w' => w'.cell? ⟨w1.heap.size, 0, none⟩ = some (.int .u64 x.b) ∧ w'.cell? ⟨w1.heap.size, 2, none⟩ = some (.slice x.a x.m x.c) ∧ w'.cell? ⟨bn, 0, none⟩ = some (.int .u64 now) ∧ w'.cell? ⟨ba, 0, none⟩ = some (.int .u64 am))
          (first | go_keep)
          (first
            | (go_at_call 21; refine (HT.out _ ((HC.out.alloc _).drew)).mono ?_; rintro e w2 ⟨rfl, hc⟩; have hB := (Blk.new w1 42 #[.int .u64 x.b, .int .u64 x.p, .slice x.a x.m x.c, .int .i64 x.n]).drew.chg hc (by simp); have k0 := hB.cell 0; have k2 := hB.cell 2; have HC2 := Lib.hid ((HC.out.alloc _).drew.then hc); have k3 := (HN.out _ HC2.out).1 0; have k4 := (HM.out _ HC2.out).1 0; clear hc hB))
      | fail
    all_goals
      go_wp2
      go_ret
      exact ⟨rfl, by repeat' (first | with_reducible exact HC2.out | with_reducible apply Chg.alloc | with_reducible apply Chg.drew | with_reducible apply Chg.setCell | (with_reducible refine Or.inr ?_; dsimp only; omega))⟩
  | true =>
    go_enter Try.func48, Try.ntmps48
    go_wp2_with (go_at_call 22; refine (HA.out).mono ?_; rintro e w1 ⟨rfl, hc⟩; have n0 := (HN.out _ hc).1 0; have m0 := (HM.out _ hc).1 0; have ln := (HN.out _ hc).2; have lm := (HM.out _ hc).2; have HC := Lib.hid hc; clear hc)
    refine wp_region_held_drew (S := fun w' => w'.cell? ⟨w1.heap.size, 0, none⟩ = some (.int .u64 x.b) ∧ w'.cell? ⟨w1.heap.size, 2, none⟩ = some (.slice x.a x.m x.c) ∧ w'.cell? ⟨bn, 0, none⟩ = some (.int .u64 now) ∧ w'.cell? ⟨ba, 0, none⟩ = some (.int .u64 am)) (by kernel_rfl) (by go_keep) (fun hHeld => ?_)
    simp only [List.setIfInBounds_toArray, List.size_toArray, List.length_cons, List.length_nil, Array.replicate]
    refine wpAnyH_take (i := 0) (v := .pointer (some ⟨w1.heap.size, 2, none⟩)) rfl (by kernel_rfl) (by kernel_rfl) (by kernel_rfl) (fun _ _ _ h => h) (Or.inl ⟨by rfl, fun w' hS => ?_⟩) hHeld ?_
    · obtain ⟨s0, s1, s2, s3⟩ := hS
      go_simp
    simp only [Act.put, List.getElem_toArray, List.getElem_cons_succ, List.getElem_cons_zero, List.setIfInBounds_toArray, List.set_cons_zero, List.set_cons_succ]
    refine wpAnyH_take (i := 1) (v := .slice x.a x.m x.c) rfl (by kernel_rfl) (by kernel_rfl) (by kernel_rfl) (fun _ _ _ h => h) (Or.inl ⟨by rfl, fun w' hS => ?_⟩) hHeld ?_
    · obtain ⟨s0, s1, s2, s3⟩ := hS
      go_simp
    simp only [Act.put, List.getElem_toArray, List.getElem_cons_succ, List.getElem_cons_zero, List.setIfInBounds_toArray, List.set_cons_zero, List.set_cons_succ]
    refine wpAnyH_take (i := 2) (v := .int .u64 now) rfl (by kernel_rfl) (by kernel_rfl) (by kernel_rfl) (fun _ _ _ h => h) (Or.inl ⟨by rfl, fun w' hS => ?_⟩) hHeld ?_
    · obtain ⟨s0, s1, s2, s3⟩ := hS
      go_simp
    simp only [Act.put, List.getElem_toArray, List.getElem_cons_succ, List.getElem_cons_zero, List.setIfInBounds_toArray, List.set_cons_zero, List.set_cons_succ]
    refine wpAnyH_take (i := 4) (v := .int .u64 am) rfl (by kernel_rfl) (by kernel_rfl) (by kernel_rfl) (fun _ _ _ h => h) (Or.inl ⟨by rfl, fun w' hS => ?_⟩) hHeld ?_
    · obtain ⟨s0, s1, s2, s3⟩ := hS
      go_simp
    simp only [Act.put, List.getElem_toArray, List.getElem_cons_succ, List.getElem_cons_zero, List.setIfInBounds_toArray, List.set_cons_zero, List.set_cons_succ]
    refine wpAnyH_ready (rs := [3]) (by kernel_rfl) (by simp) ?_
    refine AllReadyH.cons rfl (fun K hK => ?_) AllReadyH.nil
    go_simp
    refine (HT.out _ ((HC.out.alloc _).drew)).mono ?_
    rintro e w2 ⟨rfl, hc⟩
    have hB := (Blk.new w1 42 #[.int .u64 x.b, .int .u64 x.p, .slice x.a x.m x.c, .int .i64 x.n]).drew.chg hc (by simp)
    have k0 := hB.cell 0
    have k2 := hB.cell 2
    have HC2 := Lib.hid ((HC.out.alloc _).drew.then hc)
    have k3 := (HN.out _ HC2.out).1 0
    have k4 := (HM.out _ HC2.out).1 0
    clear hc hB
    refine hK.out _ _ ⟨k0, k2, k3, k4⟩ (fun hHeld => ?_)
    clear hK K
    simp only [Act.put, List.getElem_toArray, List.getElem_cons_succ, List.getElem_cons_zero, List.setIfInBounds_toArray, List.set_cons_zero, List.set_cons_succ]
    refine wpAnyH_take (i := 5) (v := .bool true) rfl (by kernel_rfl) (by kernel_rfl) (by kernel_rfl) (fun _ _ _ h => h) (Or.inl ⟨by rfl, fun w' hS => ?_⟩) hHeld ?_
    · obtain ⟨s0, s1, s2, s3⟩ := hS
      go_simp
    simp only [Act.put, List.getElem_toArray, List.getElem_cons_succ, List.getElem_cons_zero, List.setIfInBounds_toArray, List.set_cons_zero, List.set_cons_succ]
    refine wpAnyH_take (i := 6) (v := .bool true) rfl (by kernel_rfl) (by kernel_rfl) (by kernel_rfl) (fun _ _ _ h => h) (Or.inl ⟨by rfl, fun w' hS => ?_⟩) hHeld ?_
    · obtain ⟨s0, s1, s2, s3⟩ := hS
      go_simp
    simp only [Act.put, List.getElem_toArray, List.getElem_cons_succ, List.getElem_cons_zero, List.setIfInBounds_toArray, List.set_cons_zero, List.set_cons_succ]
    refine wpAnyH_take (i := 7) (v := undef) rfl (by kernel_rfl) (by kernel_rfl) (by kernel_rfl) (fun _ _ _ h => h) (Or.inr ⟨by kernel_rfl, rfl⟩) hHeld ?_
    simp only [Act.put, List.getElem_toArray, List.getElem_cons_succ, List.getElem_cons_zero, List.setIfInBounds_toArray, List.set_cons_zero, List.set_cons_succ]
    refine wpAnyH_take (i := 8) (v := undef) rfl (by kernel_rfl) (by kernel_rfl) (by kernel_rfl) (fun _ _ _ h => h) (Or.inr ⟨by kernel_rfl, rfl⟩) hHeld ?_
    simp only [Act.put, List.getElem_toArray, List.getElem_cons_succ, List.getElem_cons_zero, List.setIfInBounds_toArray, List.set_cons_zero, List.set_cons_succ]
    refine wpAnyH_take (i := 9) (v := undef) rfl (by kernel_rfl) (by kernel_rfl) (by kernel_rfl) (fun _ _ _ h => h) (Or.inr ⟨by kernel_rfl, rfl⟩) hHeld ?_
    simp only [Act.put, List.getElem_toArray, List.getElem_cons_succ, List.getElem_cons_zero, List.setIfInBounds_toArray, List.set_cons_zero, List.set_cons_succ]
    refine wpAnyH_take (i := 10) (v := undef) rfl (by kernel_rfl) (by kernel_rfl) (by kernel_rfl) (fun _ _ _ h => h) (Or.inr ⟨by kernel_rfl, rfl⟩) hHeld ?_
    simp only [Act.put, List.getElem_toArray, List.getElem_cons_succ, List.getElem_cons_zero, List.setIfInBounds_toArray, List.set_cons_zero, List.set_cons_succ]
    refine wpAnyH_take (i := 11) (v := .bool true) rfl (by kernel_rfl) (by kernel_rfl) (by kernel_rfl) (fun _ _ _ h => h) (Or.inl ⟨by rfl, fun w' hS => ?_⟩) hHeld ?_
    · obtain ⟨s0, s1, s2, s3⟩ := hS
      go_simp
    simp only [Act.put, List.getElem_toArray, List.getElem_cons_succ, List.getElem_cons_zero, List.setIfInBounds_toArray, List.set_cons_zero, List.set_cons_succ]
    refine wpAnyH_take (i := 12) (v := .bool true) rfl (by kernel_rfl) (by kernel_rfl) (by kernel_rfl) (fun _ _ _ h => h) (Or.inl ⟨by rfl, fun w' hS => ?_⟩) hHeld ?_
    · obtain ⟨s0, s1, s2, s3⟩ := hS
      go_simp
    simp only [Act.put, List.getElem_toArray, List.getElem_cons_succ, List.getElem_cons_zero, List.setIfInBounds_toArray, List.set_cons_zero, List.set_cons_succ]
    refine wpAnyH_done (by kernel_rfl) ?_ _
    go_wp2
    go_ret
    exact ⟨rfl, HC2.out⟩

/-- What the given closures ask of their boxes. -/
theorem split_step {w : World} {ba bn : Nat} {am now : Int} (hba : Blk w ba 22 #[.int .u64 am]) (hbn : Blk w bn 22 #[.int .u64 now]) :
    Calls Try.prog 28 #[ptr ba, ptr bn] w fun e w' => e = .returned (.bool (am == 0 || decide (1152921504606846976 < now))) ∧ Chg [] w w' := by
  have p0 := hba.cell 0
  have p1 := hbn.cell 0
  clear hba hbn
  cases hd : (am == 0)
  all_goals
    go_enter Try.func28, Try.ntmps28
    go_wp2
    go_ret
    exact ⟨rfl, Chg.refl _ _⟩
theorem eq_ref (a b c d : Int) (W : World) : (binOp .eql 30 (.agg #[.int .i64 a, .int .u64 b]) (.agg #[.int .i64 c, .int .u64 d])).run Try.prog W = .ok (.bool (a == c && b == d)) W := by
  have h1 : Try.prog.underlying 30 = some (.struct (Try.prog.fieldsOf 30)) := by kernel_rfl
  have h2 : Try.prog.stoodInHeld 30 = false := by kernel_rfl
  rw [run_eql_struct, run_equalIn_agg (ht := h1) (hp := h2)]
  simp [go_sem, Try.underlying30, Op.eqFields, Try.underlying22, Try.underlying3]
  by_cases e1 : a = c <;> by_cases e2 : b = d <;> simp [e1, e2]
theorem upTo_any (w : World) (n m : Int) : Calls Try.prog 17 #[.int .u64 n, .int .u64 m] w fun e w' => e = .returned (.bool (decide (1 ≤ n) && decide (n ≤ m))) ∧ w = w' := by
  cases hd : decide (1 ≤ n)
  all_goals
    go_enter Try.func17, Try.ntmps17
    go_wp2
    go_ret
    exact ⟨rfl, rfl⟩
def badMake (b p now : Int) : Bool := !(decide (1 ≤ b) && decide (b ≤ 4294967296)) || !(decide (1 ≤ p) && decide (p ≤ 4294967296)) || decide (1152921504606846976 < now)
theorem make_step {w : World} {bb bp bn : Nat} {b p now : Int} (hb : Blk w bb 22 #[.int .u64 b]) (hp : Blk w bp 22 #[.int .u64 p]) (hn : Blk w bn 22 #[.int .u64 now]) :
    Calls Try.prog 16 #[ptr bb, ptr bp, ptr bn] w fun e w' => e = .returned (.bool (badMake b p now)) ∧ Chg [] w w' := by
  have p0 := hb.cell 0
  have p1 := hp.cell 0
  have p2 := hn.cell 0
  clear hb hp hn
  have h1 := fun W => upTo_any W b 4294967296
  have h2 := fun W => upTo_any W p 4294967296
  unfold badMake
  cases hd : (decide (1 ≤ b) && decide (b ≤ 4294967296))
  · rw [hd] at h1
    go_enter Try.func16, Try.ntmps16
    go_wp2_with (go_at_call 17; refine (h1 _).mono ?_; rintro e w1 ⟨rfl, rfl⟩)
    go_ret
    exact ⟨rfl, Chg.refl _ _⟩
  · rw [hd] at h1
    cases he : (decide (1 ≤ p) && decide (p ≤ 4294967296))
    all_goals
      rw [he] at h2
      go_enter Try.func16, Try.ntmps16
      go_wp2_with (first
        | (go_at_call 17; (with_reducible refine (h1 _).mono ?_); rintro e w1 ⟨rfl, rfl⟩)
        | (go_at_call 17; (with_reducible refine (h2 _).mono ?_); rintro e w1 ⟨rfl, rfl⟩))
      go_ret
      exact ⟨rfl, Chg.refl _ _⟩
theorem CtxAt.blk {w : World} {c : Nat} {S : List Nat} {t : Tab Cx} {most : Int} (h : CtxAt w c S t most) : ∃ g, Blk w c 52 #[.pointer (some ⟨g, 0, none⟩), .int .i64 most] := by obtain ⟨g, h1, h2, h3, h4⟩ := h; exact ⟨g, h1⟩
end Go.Proofs
