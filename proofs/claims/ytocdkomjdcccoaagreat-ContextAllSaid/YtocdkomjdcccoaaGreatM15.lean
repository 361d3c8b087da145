import Derived.Test.YtocdkomjdcccoaaGreatM14
import Derived.Test.YtocdkomjdcccoaaGreatM13
import Derived.Test.YtocdkomjdcccoaaGreatM9
section
namespace Go.Proofs
open Go.RowKit
set_option linter.unusedVariables false
set_option linter.unusedSimpArgs false
def donateE (t : Tab Cx) (fi fq ti tq am now most : Int) : Int := if t.has fi fq && t.has ti tq then (if am == 0 || decide (1152921504606846976 < now) || (fi == ti && fq == tq) then 2 else if lackP (t.at_ fi fq) am now then 15 else if decide (4294967296 - (t.at_ ti tq).b < am) then 6 else if (giveP (t.at_ ti tq).l now am most).2 != 0 then 3 else 0) else 11
theorem donate_refused {w : World} {c n m n' m' n1 n2 n3 n4 k1 k2 k3 k4 b0 b1 b2 b3 b4 : Nat} {S : List Nat} {t : Tab Cx} {most fi fq ti tq am now : Int} (h : CtxAt w c S t most) (j0 : -9223372036854775808 ≤ ti) (j1 : ti ≤ 9223372036854775807)
    (x0 : 0 ≤ (t.at_ ti tq).b) (x1 : (t.at_ ti tq).b ≤ 4294967296)
    (hcl : Clo w (cloGone n m) (!t.has fi fq)) (hcl' : Clo w (cloGone n' m') (!t.has ti tq)) (h0 : Blk w b0 24 #[ptr c]) (h1 : Blk w b1 34 #[.int .i64 fi, .int .u64 fq]) (h2 : Blk w b2 34 #[.int .i64 ti, .int .u64 tq]) (h3 : Blk w b3 32 #[.int .u64 am]) (h4 : Blk w b4 32 #[.int .u64 now])
    (hcl2 : Clo w (cloFour 98 n1 n2 n3 n4) (lackP (t.at_ fi fq) am now)) (hcl3 : Clo w (cloFour 103 k1 k2 k3 k4) ((giveP (t.at_ ti tq).l now am most).2 != 0)) (o : Obj)
    (ho : o = .cells #[.int .i64 1, .func (.func 49) #[ptr c] #[], .int .i64 11, cloGone n m, .int .i64 11, cloGone n' m', .int .i64 2, .func (.func 70) #[] #[ptr b3, ptr b4, ptr b1, ptr b2], .int .i64 15, cloFour 98 n1 n2 n3 n4, .int .i64 6, .func (.func 71) #[] #[ptr b3, ptr b0, ptr b2], .int .i64 3, cloFour 103 k1 k2 k3 k4] 90) :
    Calls Tryz.prog 48 #[.slice (some ⟨w.heap.size, 0, none⟩) 7 7] (w.alloc o) fun e w' => e = .returned (.int .i64 (donateE t fi fq ti tq am now most)) ∧ Chg [] (w.alloc o) w' := by
  subst ho
  have hc := (Chg.refl [] w).alloc (.cells #[.int .i64 1, .func (.func 49) #[ptr c] #[], .int .i64 11, cloGone n m, .int .i64 11, cloGone n' m', .int .i64 2, .func (.func 70) #[] #[ptr b3, ptr b4, ptr b1, ptr b2], .int .i64 15, cloFour 98 n1 n2 n3 n4, .int .i64 6, .func (.func 71) #[] #[ptr b3, ptr b0, ptr b2], .int .i64 3, cloFour 103 k1 k2 k3 k4] 90)
  have hE : donateE t fi fq ti tq am now most = firstE [(1, .func (.func 49) #[ptr c] #[], false), (11, cloGone n m, !t.has fi fq), (11, cloGone n' m', !t.has ti tq), (2, .func (.func 70) #[] #[ptr b3, ptr b4, ptr b1, ptr b2], am == 0 || decide (1152921504606846976 < now) || (fi == ti && fq == tq)), (15, cloFour 98 n1 n2 n3 n4, lackP (t.at_ fi fq) am now), (6, .func (.func 71) #[] #[ptr b3, ptr b0, ptr b2], decide (4294967296 - (t.at_ ti tq).b < am)), (3, cloFour 103 k1 k2 k3 k4, (giveP (t.at_ ti tq).l now am most).2 != 0)] := by
    unfold donateE; cases t.has fi fq <;> cases t.has ti tq <;> simp [firstE]
  rw [hE]
  refine refused_any (Blk.new _ 90 _) rfl (by omega) (clos_all ?_)
  simp only [List.forall_mem_cons]
  exact ⟨clo_none (h.quiet hc), hcl.quiet hc, hcl'.quiet hc, clo_donate (h3.chg hc (by simp)) (h4.chg hc (by simp)) (h1.chg hc (by simp)) (h2.chg hc (by simp)), hcl2.quiet hc, clo_over (h.quiet hc) j0 j1 x0 x1 (h3.chg hc (by simp)) (h0.chg hc (by simp)) (h2.chg hc (by simp)), hcl3.quiet hc, fun _ h => by cases h⟩
abbrev wDon (w : World) (c : Nat) (fi fq ti tq am now : Int) : World := ((((w.alloc (.cells #[ptr c] 24)).alloc (obRef fi fq)).alloc (obRef ti tq)).alloc (obU am)).alloc (obU now)
theorem donate_boxes {w W w2 : World} {c : Nat} {fi fq ti tq am now : Int} (hW : Chg [] (wDon w c fi fq ti tq am now) W) (hc : Chg [] W w2) :
    Blk w2 w.heap.size 24 #[ptr c] ∧ Blk w2 (w.heap.size + 1) 34 #[.int .i64 fi, .int .u64 fq] ∧ Blk w2 (w.heap.size + 1 + 1) 34 #[.int .i64 ti, .int .u64 tq] ∧ Blk w2 (w.heap.size + 1 + 1 + 1) 32 #[.int .u64 am] ∧ Blk w2 (w.heap.size + 1 + 1 + 1 + 1) 32 #[.int .u64 now] ∧ Chg [] w w2 := by
  refine ⟨((((((Blk.new w 24 _).alloc _).alloc _).alloc _).alloc _).chg hW (by simp)).chg hc (by simp), (((((Blk.at (w.alloc _) 34 _ (by simp)).alloc _).alloc _).alloc _).chg hW (by simp)).chg hc (by simp), ((((Blk.at ((w.alloc _).alloc _) 34 _ (by simp)).alloc _).alloc _).chg hW (by simp)).chg hc (by simp), (((Blk.at (((w.alloc _).alloc _).alloc _) 32 _ (by simp)).alloc _).chg hW (by simp)).chg hc (by simp), ((Blk.at ((((w.alloc _).alloc _).alloc _).alloc _) 32 _ (by simp)).chg hW (by simp)).chg hc (by simp), ?_⟩
  exact ((((((Chg.refl [] w).alloc _).alloc _).alloc _).alloc _).alloc _).then (hW.then hc)
theorem donateE_0 {t : Tab Cx} {fi fq ti tq am now most : Int} (h : donateE t fi fq ti tq am now most = 0) : t.has fi fq = true ∧ t.has ti tq = true ∧ am ≠ 0 ∧ ¬ (fi = ti ∧ fq = tq) ∧ (am ≤ thereP (t.at_ fi fq).l now ∧ am < (t.at_ fi fq).b) ∧ am ≤ 4294967296 - (t.at_ ti tq).b ∧ (giveP (t.at_ ti tq).l now am most).2 = 0 := by
  unfold donateE at h
  cases hf : t.has fi fq with
  | false => rw [hf] at h; simp at h
  | true =>
    cases ht : t.has ti tq with
    | false => rw [hf, ht] at h; simp at h
    | true =>
      rw [hf, ht] at h
      simp only [Bool.and_self, if_true] at h
      by_cases c1 : (am == 0 || decide (1152921504606846976 < now) || (fi == ti && fq == tq)) = true
      · rw [if_pos c1] at h; cases h
      · rw [if_neg c1] at h
        by_cases c2 : lackP (t.at_ fi fq) am now = true
        · rw [if_pos c2] at h; cases h
        · rw [if_neg c2] at h
          by_cases c3 : decide (4294967296 - (t.at_ ti tq).b < am) = true
          · rw [if_pos c3] at h; cases h
          · rw [if_neg c3] at h
            by_cases c4 : ((giveP (t.at_ ti tq).l now am most).2 != 0) = true
            · rw [if_pos c4] at h; cases h
            · simp only [Bool.or_eq_true, beq_iff_eq, decide_eq_true_eq, Bool.and_eq_true, not_or] at c1
              unfold lackP at c2
              simp only [Bool.or_eq_true, decide_eq_true_eq, not_or] at c2 c3
              exact ⟨rfl, rfl, c1.1.1, c1.2, ⟨by omega, by omega⟩, by omega, by simpa using c4⟩
theorem other_thing {t : Tab Cx} {fi fq ti tq : Int} (hf : t.has fi fq = true) (ht : t.has ti tq = true) (hne : ¬ (fi = ti ∧ fq = tq)) (x : Cx) : (t.thing fi.toNat x).has ti tq = true ∧ (t.thing fi.toNat x).at_ ti tq = t.at_ ti tq := by
  obtain ⟨s, hl, he⟩ := has_iff.1 hf
  obtain ⟨j0, hs, hth⟩ := live_iff.1 hl
  obtain ⟨s', hl', he'⟩ := has_iff.1 ht
  obtain ⟨j0', hs', hth'⟩ := live_iff.1 hl'
  have hn : fi.toNat ≠ ti.toNat := by
    intro e
    rw [e, hs'] at hs
    cases hs
    exact hne ⟨by omega, by rw [← he, ← he']⟩
  have h2 : (t.thing fi.toNat x).live ti = some s' := by
    unfold Tab.thing
    rw [hs]
    exact live_iff.2 ⟨j0', by simp only; rw [List.getElem?_set_ne hn]; exact hs', hth'⟩
  exact ⟨has_iff.2 ⟨_, h2, he'⟩, by rw [at_yes h2 he', at_yes hl' he']⟩
/-- Behind the pull: the other one is given. -/
theorem donate_give {w w' : World} {c : Nat} {S : List Nat} {t : Tab Cx} {most fi fq ti tq am now : Int} {x : Cx} (hT : CtxTurns c S (t.thing fi.toNat x) most w w') (j0 : -9223372036854775808 ≤ ti) (j1 : ti ≤ 9223372036854775807) (hf : t.has fi fq = true) (ht : t.has ti tq = true) (hne : ¬ (fi = ti ∧ fq = tq))
    (hk : Ok (t.at_ ti tq).l) (hn : (t.at_ ti tq).l.length ≤ 100000) (hm : U64 am) (b0 : 0 ≤ (t.at_ ti tq).b + am) (b1 : (t.at_ ti tq).b + am < 18446744073709551616) :
    ∃ S1 : List Nat, (∀ k ∈ S1, k ∈ S ∨ w.heap.size ≤ k) ∧ Chg S w w' ∧ Calls Tryz.prog 73 #[ptr c, .agg #[.int .i64 ti, .int .u64 tq], .int .u64 am, .int .u64 now] w' fun e v => e = .returned (.tuple #[]) ∧
      ∃ A m cc, CtxTurns c S ((t.thing fi.toNat x).thing ti.toNat ⟨(t.at_ ti tq).b + am, (t.at_ ti tq).p, A, m, cc, (t.at_ ti tq).n, (giveP (t.at_ ti tq).l now am most).1⟩) most w v := by
  obtain ⟨S1, h1, h2, h3⟩ := hT
  obtain ⟨f1, f2⟩ := other_thing hf ht hne x
  refine ⟨S1, h2, h3, ?_⟩
  have hg := give_ctx h1 j0 j1 f1 (am := am) (now := now) (by rw [f2]; exact hk) (by rw [f2]; exact hn) hm (by rw [f2]; exact b0) (by rw [f2]; exact b1)
  rw [f2] at hg
  refine hg.mono ?_
  rintro e v ⟨rfl, A, m, cc, hT⟩
  exact ⟨rfl, A, m, cc, hT.trans h2 h3⟩
set_option maxHeartbeats 3200000 in
set_option maxRecDepth 100000 in
theorem Donate_no {w : World} {c : Nat} {S : List Nat} {t : Tab Cx} {most : Int} (h : CtxAt w c S t most) {fi fq ti tq am now : Int} (i0 : -9223372036854775808 ≤ fi) (i1 : fi ≤ 9223372036854775807) (j0 : -9223372036854775808 ≤ ti) (j1 : ti ≤ 9223372036854775807)
    (hk : Ok (t.at_ fi fq).l) (hn : (t.at_ fi fq).l.length ≤ 100000) (hk' : Ok (t.at_ ti tq).l) (hn' : (t.at_ ti tq).l.length ≤ 100000) (hm : U64 am) (x0 : 0 ≤ (t.at_ ti tq).b) (x1 : (t.at_ ti tq).b ≤ 4294967296) (he : (donateE t fi fq ti tq am now most == 0) = false) :
    Calls Tryz.prog 29 #[ptr c, .agg #[.int .i64 fi, .int .u64 fq], .agg #[.int .i64 ti, .int .u64 tq], .int .u64 am, .int .u64 now] w fun e w' => e = .returned (.int .i64 (donateE t fi fq ti tq am now most)) ∧ Chg [] w w' := by
  have HG := Lib.hid (fun W (hW : Chg [] w W) => gone_any (h.quiet hW) i0 i1 (q := fq))
  have HG' := Lib.hid (fun W (hW : Chg [] w W) => gone_any (h.quiet hW) j0 j1 (q := tq))
  have HL := Lib.hid (fun W (hW : Chg [] w W) => lacks_any (h.quiet hW) i0 i1 (q := fq) (am := am) (now := now) hk hn)
  have HCR := Lib.hid (fun W (hW : Chg [] w W) => crowded_any (h.quiet hW) j0 j1 (q := tq) (am := am) (now := now) hk' hn' hm)
  have HR := Lib.hid (fun W (hW : Chg [] w W) n m n' m' n1 n2 n3 n4 k1 k2 k3 k4 b0 b1 b2 b3 b4 => donate_refused (h.quiet hW) (n := n) (m := m) (n' := n') (m' := m') (n1 := n1) (n2 := n2) (n3 := n3) (n4 := n4) (k1 := k1) (k2 := k2) (k3 := k3) (k4 := k4) (b0 := b0) (b1 := b1) (b2 := b2) (b3 := b3) (b4 := b4) (fi := fi) (fq := fq) (ti := ti) (tq := tq) (am := am) (now := now) j0 j1 x0 x1)
  obtain ⟨E, hE⟩ : ∃ E, E = donateE t fi fq ti tq am now most := ⟨_, rfl⟩
  rw [← hE] at HR he ⊢
  clear h hE hk hn hk' hn' hm x0 x1
  go_enter Tryz.func29, Tryz.ntmps29
  go_wp2
  refine wp_region_held_drew (S := fun w' => w'.cell? ⟨w.heap.size, 0, none⟩ = some (ptr c) ∧ w'.cell? ⟨w.heap.size + 1, 0, none⟩ = some (.int .i64 fi) ∧ w'.cell? ⟨w.heap.size + 1, 1, none⟩ = some (.int .u64 fq) ∧ w'.cell? ⟨w.heap.size + 1 + 1, 0, none⟩ = some (.int .i64 ti) ∧ w'.cell? ⟨w.heap.size + 1 + 1, 1, none⟩ = some (.int .u64 tq) ∧ w'.cell? ⟨w.heap.size + 1 + 1 + 1, 0, none⟩ = some (.int .u64 am) ∧ w'.cell? ⟨w.heap.size + 1 + 1 + 1 + 1, 0, none⟩ = some (.int .u64 now)) (by kernel_rfl) ⟨by simp [go_sem], by simp [go_sem], by simp [go_sem], by simp [go_sem], by simp [go_sem], by simp [go_sem], by simp [go_sem]⟩ (fun hHeld => ?_)
  simp only [List.setIfInBounds_toArray, List.size_toArray, List.length_cons, List.length_nil, Array.replicate]
  refine wpAnyH_take (i := 0) (v := ptr c) rfl (by kernel_rfl) (by kernel_rfl) (by kernel_rfl) (fun _ _ _ h => h) (Or.inl ⟨by rfl, fun w' hS => ?_⟩) hHeld ?_
  · obtain ⟨s0, s1, s2, s3, s4, s5, s6⟩ := hS
    go_simp
  simp only [Act.put, List.setIfInBounds_toArray, List.set_cons_zero, List.set_cons_succ]
  refine wpAnyH_take (i := 1) (v := .func (.func 49) #[ptr c] #[]) rfl (by kernel_rfl) (by kernel_rfl) (by kernel_rfl) (fun _ _ _ h => h) (Or.inl ⟨by rfl, fun w' hS => ?_⟩) hHeld ?_
  · obtain ⟨s0, s1, s2, s3, s4, s5, s6⟩ := hS
    go_simp
  simp only [Act.put, List.setIfInBounds_toArray, List.set_cons_zero, List.set_cons_succ]
  refine wpAnyH_take (i := 2) (v := .agg #[.int .i64 1, .func (.func 49) #[ptr c] #[]]) rfl (by kernel_rfl) (by kernel_rfl) (by kernel_rfl) (fun _ _ _ h => h) (Or.inl ⟨by rfl, fun w' hS => ?_⟩) hHeld ?_
  · obtain ⟨s0, s1, s2, s3, s4, s5, s6⟩ := hS
    go_simp
  simp only [Act.put, List.setIfInBounds_toArray, List.set_cons_zero, List.set_cons_succ]
  refine wpAnyH_take (i := 3) (v := ptr c) rfl (by kernel_rfl) (by kernel_rfl) (by kernel_rfl) (fun _ _ _ h => h) (Or.inl ⟨by rfl, fun w' hS => ?_⟩) hHeld ?_
  · obtain ⟨s0, s1, s2, s3, s4, s5, s6⟩ := hS
    go_simp
  simp only [Act.put, List.setIfInBounds_toArray, List.set_cons_zero, List.set_cons_succ]
  refine wpAnyH_take (i := 4) (v := .agg #[.int .i64 fi, .int .u64 fq]) rfl (by kernel_rfl) (by kernel_rfl) (by kernel_rfl) (fun _ _ _ h => h) (Or.inl ⟨by rfl, fun w' hS => ?_⟩) hHeld ?_
  · obtain ⟨s0, s1, s2, s3, s4, s5, s6⟩ := hS
    go_simp
  simp only [Act.put, List.setIfInBounds_toArray, List.set_cons_zero, List.set_cons_succ]
  refine wpAnyH_take (i := 7) (v := ptr c) rfl (by kernel_rfl) (by kernel_rfl) (by kernel_rfl) (fun _ _ _ h => h) (Or.inl ⟨by rfl, fun w' hS => ?_⟩) hHeld ?_
  · obtain ⟨s0, s1, s2, s3, s4, s5, s6⟩ := hS
    go_simp
  simp only [Act.put, List.setIfInBounds_toArray, List.set_cons_zero, List.set_cons_succ]
  refine wpAnyH_take (i := 8) (v := .agg #[.int .i64 ti, .int .u64 tq]) rfl (by kernel_rfl) (by kernel_rfl) (by kernel_rfl) (fun _ _ _ h => h) (Or.inl ⟨by rfl, fun w' hS => ?_⟩) hHeld ?_
  · obtain ⟨s0, s1, s2, s3, s4, s5, s6⟩ := hS
    go_simp
  simp only [Act.put, List.setIfInBounds_toArray, List.set_cons_zero, List.set_cons_succ]
  refine wpAnyH_take (i := 11) (v := .func (.func 70) #[] #[ptr (w.heap.size + 1 + 1 + 1), ptr (w.heap.size + 1 + 1 + 1 + 1), ptr (w.heap.size + 1), ptr (w.heap.size + 1 + 1)]) rfl (by kernel_rfl) (by kernel_rfl) (by kernel_rfl) (fun _ _ _ h => h) (Or.inl ⟨by rfl, fun w' hS => ?_⟩) hHeld ?_
  · obtain ⟨s0, s1, s2, s3, s4, s5, s6⟩ := hS
    go_simp
  simp only [Act.put, List.setIfInBounds_toArray, List.set_cons_zero, List.set_cons_succ]
  refine wpAnyH_take (i := 12) (v := .agg #[.int .i64 2, .func (.func 70) #[] #[ptr (w.heap.size + 1 + 1 + 1), ptr (w.heap.size + 1 + 1 + 1 + 1), ptr (w.heap.size + 1), ptr (w.heap.size + 1 + 1)]]) rfl (by kernel_rfl) (by kernel_rfl) (by kernel_rfl) (fun _ _ _ h => h) (Or.inl ⟨by rfl, fun w' hS => ?_⟩) hHeld ?_
  · obtain ⟨s0, s1, s2, s3, s4, s5, s6⟩ := hS
    go_simp
  simp only [Act.put, List.setIfInBounds_toArray, List.set_cons_zero, List.set_cons_succ]
  refine wpAnyH_take (i := 13) (v := ptr c) rfl (by kernel_rfl) (by kernel_rfl) (by kernel_rfl) (fun _ _ _ h => h) (Or.inl ⟨by rfl, fun w' hS => ?_⟩) hHeld ?_
  · obtain ⟨s0, s1, s2, s3, s4, s5, s6⟩ := hS
    go_simp
  simp only [Act.put, List.setIfInBounds_toArray, List.set_cons_zero, List.set_cons_succ]
  refine wpAnyH_take (i := 14) (v := .agg #[.int .i64 fi, .int .u64 fq]) rfl (by kernel_rfl) (by kernel_rfl) (by kernel_rfl) (fun _ _ _ h => h) (Or.inl ⟨by rfl, fun w' hS => ?_⟩) hHeld ?_
  · obtain ⟨s0, s1, s2, s3, s4, s5, s6⟩ := hS
    go_simp
  simp only [Act.put, List.setIfInBounds_toArray, List.set_cons_zero, List.set_cons_succ]
  refine wpAnyH_take (i := 15) (v := .int .u64 am) rfl (by kernel_rfl) (by kernel_rfl) (by kernel_rfl) (fun _ _ _ h => h) (Or.inl ⟨by rfl, fun w' hS => ?_⟩) hHeld ?_
  · obtain ⟨s0, s1, s2, s3, s4, s5, s6⟩ := hS
    go_simp
  simp only [Act.put, List.setIfInBounds_toArray, List.set_cons_zero, List.set_cons_succ]
  refine wpAnyH_take (i := 16) (v := .int .u64 now) rfl (by kernel_rfl) (by kernel_rfl) (by kernel_rfl) (fun _ _ _ h => h) (Or.inl ⟨by rfl, fun w' hS => ?_⟩) hHeld ?_
  · obtain ⟨s0, s1, s2, s3, s4, s5, s6⟩ := hS
    go_simp
  simp only [Act.put, List.setIfInBounds_toArray, List.set_cons_zero, List.set_cons_succ]
  refine wpAnyH_take (i := 19) (v := .func (.func 71) #[] #[ptr (w.heap.size + 1 + 1 + 1), ptr w.heap.size, ptr (w.heap.size + 1 + 1)]) rfl (by kernel_rfl) (by kernel_rfl) (by kernel_rfl) (fun _ _ _ h => h) (Or.inl ⟨by rfl, fun w' hS => ?_⟩) hHeld ?_
  · obtain ⟨s0, s1, s2, s3, s4, s5, s6⟩ := hS
    go_simp
  simp only [Act.put, List.setIfInBounds_toArray, List.set_cons_zero, List.set_cons_succ]
  refine wpAnyH_take (i := 20) (v := .agg #[.int .i64 6, .func (.func 71) #[] #[ptr (w.heap.size + 1 + 1 + 1), ptr w.heap.size, ptr (w.heap.size + 1 + 1)]]) rfl (by kernel_rfl) (by kernel_rfl) (by kernel_rfl) (fun _ _ _ h => h) (Or.inl ⟨by rfl, fun w' hS => ?_⟩) hHeld ?_
  · obtain ⟨s0, s1, s2, s3, s4, s5, s6⟩ := hS
    go_simp
  simp only [Act.put, List.setIfInBounds_toArray, List.set_cons_zero, List.set_cons_succ]
  refine wpAnyH_take (i := 21) (v := ptr c) rfl (by kernel_rfl) (by kernel_rfl) (by kernel_rfl) (fun _ _ _ h => h) (Or.inl ⟨by rfl, fun w' hS => ?_⟩) hHeld ?_
  · obtain ⟨s0, s1, s2, s3, s4, s5, s6⟩ := hS
    go_simp
  simp only [Act.put, List.setIfInBounds_toArray, List.set_cons_zero, List.set_cons_succ]
  refine wpAnyH_take (i := 22) (v := .agg #[.int .i64 ti, .int .u64 tq]) rfl (by kernel_rfl) (by kernel_rfl) (by kernel_rfl) (fun _ _ _ h => h) (Or.inl ⟨by rfl, fun w' hS => ?_⟩) hHeld ?_
  · obtain ⟨s0, s1, s2, s3, s4, s5, s6⟩ := hS
    go_simp
  simp only [Act.put, List.setIfInBounds_toArray, List.set_cons_zero, List.set_cons_succ]
  refine wpAnyH_take (i := 23) (v := .int .u64 am) rfl (by kernel_rfl) (by kernel_rfl) (by kernel_rfl) (fun _ _ _ h => h) (Or.inl ⟨by rfl, fun w' hS => ?_⟩) hHeld ?_
  · obtain ⟨s0, s1, s2, s3, s4, s5, s6⟩ := hS
    go_simp
  simp only [Act.put, List.setIfInBounds_toArray, List.set_cons_zero, List.set_cons_succ]
  refine wpAnyH_take (i := 24) (v := .int .u64 now) rfl (by kernel_rfl) (by kernel_rfl) (by kernel_rfl) (fun _ _ _ h => h) (Or.inl ⟨by rfl, fun w' hS => ?_⟩) hHeld ?_
  · obtain ⟨s0, s1, s2, s3, s4, s5, s6⟩ := hS
    go_simp
  simp only [Act.put, List.setIfInBounds_toArray, List.set_cons_zero, List.set_cons_succ]
  refine wpAnyH_ready (rs := [5]) (by kernel_rfl) (by simp) ?_
  refine AllReadyH.cons rfl (fun K hK => ?_) AllReadyH.nil
  go_simp
  refine (HG.out _ ((((((Chg.refl _ _).alloc _).alloc _).alloc _).alloc _).alloc _ |>.drew)).mono ?_
  rintro e w2 ⟨⟨n, m, rfl, hcl⟩, hc2⟩
  obtain ⟨B0, B1, B2, B3, B4, HC⟩ := donate_boxes (w := w) (c := c) (fi := fi) (fq := fq) (ti := ti) (tq := tq) (am := am) (now := now) ((Chg.refl [] _).drew) hc2
  refine hK.out _ _ ⟨B0.cell 0, B1.cell 0, B1.cell 1, B2.cell 0, B2.cell 1, B3.cell 0, B4.cell 0⟩ (fun hHeld => ?_)
  clear hK K
  simp only [Act.put, List.setIfInBounds_toArray, List.set_cons_zero, List.set_cons_succ]
  refine wpAnyH_take (i := 6) (v := .agg #[.int .i64 11, .func (.func 93) #[] #[.pointer (some ⟨n, 0, none⟩), .pointer (some ⟨m, 0, none⟩)]]) rfl (by kernel_rfl) (by kernel_rfl) (by kernel_rfl) (fun _ _ _ h => h) (Or.inl ⟨by rfl, fun w' hS => ?_⟩) hHeld ?_
  · obtain ⟨s0, s1, s2, s3, s4, s5, s6⟩ := hS
    go_simp
  simp only [Act.put, List.setIfInBounds_toArray, List.set_cons_zero, List.set_cons_succ]
  refine wpAnyH_ready (rs := [9]) (by kernel_rfl) (by simp) ?_
  refine AllReadyH.cons rfl (fun K hK => ?_) AllReadyH.nil
  go_simp
  refine (HG'.out _ HC).mono ?_
  rintro e w3 ⟨⟨n', m', rfl, hcl'⟩, hc3⟩
  have hcA := hc2.then hc3
  have hclA := hcl.quiet hc3
  clear B0 B1 B2 B3 B4 HC hHeld
  obtain ⟨B0, B1, B2, B3, B4, HC⟩ := donate_boxes (w := w) (c := c) (fi := fi) (fq := fq) (ti := ti) (tq := tq) (am := am) (now := now) ((Chg.refl [] _).drew) hcA
  refine hK.out _ _ ⟨B0.cell 0, B1.cell 0, B1.cell 1, B2.cell 0, B2.cell 1, B3.cell 0, B4.cell 0⟩ (fun hHeld => ?_)
  clear hK K
  simp only [Act.put, List.setIfInBounds_toArray, List.set_cons_zero, List.set_cons_succ]
  refine wpAnyH_take (i := 10) (v := .agg #[.int .i64 11, .func (.func 93) #[] #[.pointer (some ⟨n', 0, none⟩), .pointer (some ⟨m', 0, none⟩)]]) rfl (by kernel_rfl) (by kernel_rfl) (by kernel_rfl) (fun _ _ _ h => h) (Or.inl ⟨by rfl, fun w' hS => ?_⟩) hHeld ?_
  · obtain ⟨s0, s1, s2, s3, s4, s5, s6⟩ := hS
    go_simp
  simp only [Act.put, List.setIfInBounds_toArray, List.set_cons_zero, List.set_cons_succ]
  refine wpAnyH_ready (rs := [17]) (by kernel_rfl) (by simp) ?_
  refine AllReadyH.cons rfl (fun K hK => ?_) AllReadyH.nil
  go_simp
  refine (HL.out _ HC).mono ?_
  rintro e w4 ⟨⟨n1, n2, n3, n4, rfl, hcl2⟩, hc4⟩
  have hcB := hcA.then hc4
  have hclB := hclA.quiet hc4
  have hclB' := hcl'.quiet hc4
  clear B0 B1 B2 B3 B4 HC hHeld
  obtain ⟨B0, B1, B2, B3, B4, HC⟩ := donate_boxes (w := w) (c := c) (fi := fi) (fq := fq) (ti := ti) (tq := tq) (am := am) (now := now) ((Chg.refl [] _).drew) hcB
  refine hK.out _ _ ⟨B0.cell 0, B1.cell 0, B1.cell 1, B2.cell 0, B2.cell 1, B3.cell 0, B4.cell 0⟩ (fun hHeld => ?_)
  clear hK K
  simp only [Act.put, List.setIfInBounds_toArray, List.set_cons_zero, List.set_cons_succ]
  refine wpAnyH_take (i := 18) (v := .agg #[.int .i64 15, .func (.func 98) #[] #[.pointer (some ⟨n1, 0, none⟩), .pointer (some ⟨n2, 0, none⟩), .pointer (some ⟨n3, 0, none⟩), .pointer (some ⟨n4, 0, none⟩)]]) rfl (by kernel_rfl) (by kernel_rfl) (by kernel_rfl) (fun _ _ _ h => h) (Or.inl ⟨by rfl, fun w' hS => ?_⟩) hHeld ?_
  · obtain ⟨s0, s1, s2, s3, s4, s5, s6⟩ := hS
    go_simp
  simp only [Act.put, List.setIfInBounds_toArray, List.set_cons_zero, List.set_cons_succ]
  refine wpAnyH_ready (rs := [25]) (by kernel_rfl) (by simp) ?_
  refine AllReadyH.cons rfl (fun K hK => ?_) AllReadyH.nil
  go_simp
  refine (HCR.out _ HC).mono ?_
  rintro e w5 ⟨⟨k1, k2, k3, k4, rfl, hcl3⟩, hc5⟩
  have hcC := hcB.then hc5
  have hclC := hclB.quiet hc5
  have hclC' := hclB'.quiet hc5
  have hclC2 := hcl2.quiet hc5
  clear B0 B1 B2 B3 B4 HC hHeld
  obtain ⟨B0, B1, B2, B3, B4, HC⟩ := donate_boxes (w := w) (c := c) (fi := fi) (fq := fq) (ti := ti) (tq := tq) (am := am) (now := now) ((Chg.refl [] _).drew) hcC
  refine hK.out _ _ ⟨B0.cell 0, B1.cell 0, B1.cell 1, B2.cell 0, B2.cell 1, B3.cell 0, B4.cell 0⟩ (fun hHeld => ?_)
  clear hK K
  simp only [Act.put, List.setIfInBounds_toArray, List.set_cons_zero, List.set_cons_succ]
  refine wpAnyH_take (i := 26) (v := .agg #[.int .i64 3, .func (.func 103) #[] #[.pointer (some ⟨k1, 0, none⟩), .pointer (some ⟨k2, 0, none⟩), .pointer (some ⟨k3, 0, none⟩), .pointer (some ⟨k4, 0, none⟩)]]) rfl (by kernel_rfl) (by kernel_rfl) (by kernel_rfl) (fun _ _ _ h => h) (Or.inl ⟨by rfl, fun w' hS => ?_⟩) hHeld ?_
  · obtain ⟨s0, s1, s2, s3, s4, s5, s6⟩ := hS
    go_simp
  simp only [Act.put, List.setIfInBounds_toArray, List.set_cons_zero, List.set_cons_succ]
  refine wpAnyH_ready (rs := [27]) (by kernel_rfl) (by simp) ?_
  refine AllReadyH.cons rfl (fun K hK => ?_) AllReadyH.nil
  go_simp

  refine hK.out _ _ ⟨(B0.alloc _).cell 0, (B1.alloc _).cell 0, (B1.alloc _).cell 1, (B2.alloc _).cell 0, (B2.alloc _).cell 1, (B3.alloc _).cell 0, (B4.alloc _).cell 0⟩ (fun hHeld => ?_)
  clear hK K
  simp only [Act.put, List.setIfInBounds_toArray, List.set_cons_zero, List.set_cons_succ]
  refine wpAnyH_ready (rs := [28]) (by kernel_rfl) (by simp) ?_
  refine AllReadyH.cons rfl (fun K hK => ?_) AllReadyH.nil
  go_simp
  refine (HR.out _ HC n m n' m' n1 n2 n3 n4 k1 k2 k3 k4 w.heap.size (w.heap.size + 1) (w.heap.size + 1 + 1) (w.heap.size + 1 + 1 + 1) (w.heap.size + 1 + 1 + 1 + 1) hclC hclC' B0 B1 B2 B3 B4 hclC2 hcl3 _ rfl).mono ?_
  rintro e w6 ⟨rfl, hc6⟩
  have hcD := (hcC.alloc _).then hc6
  clear B0 B1 B2 B3 B4 HC hHeld
  obtain ⟨B0, B1, B2, B3, B4, HC⟩ := donate_boxes (w := w) (c := c) (fi := fi) (fq := fq) (ti := ti) (tq := tq) (am := am) (now := now) ((Chg.refl [] _).drew) hcD
  refine hK.out _ _ ⟨B0.cell 0, B1.cell 0, B1.cell 1, B2.cell 0, B2.cell 1, B3.cell 0, B4.cell 0⟩ (fun hHeld => ?_)
  clear hK K
  simp only [Act.put, List.setIfInBounds_toArray, List.set_cons_zero, List.set_cons_succ]
  refine wpAnyH_take (i := 29) (v := .int .i64 E) rfl (by kernel_rfl) (by kernel_rfl) (by kernel_rfl) (fun _ _ _ h => h) (Or.inl ⟨by rfl, fun w' hS => ?_⟩) hHeld ?_
  · obtain ⟨s0, s1, s2, s3, s4, s5, s6⟩ := hS
    go_simp
  simp only [Act.put, List.setIfInBounds_toArray, List.set_cons_zero, List.set_cons_succ]
  refine wpAnyH_done (by kernel_rfl) ?_ _
  have HC9 := Lib.hid HC
  clear B0 B1 B2 B3 B4 HC hHeld hc2 hc3 hc4 hc5 hc6 hcA hcB hcC hcD hcl hcl' hcl2 hcl3 hclA hclB hclB' hclC hclC' hclC2
  go_wp2
  go_ret
  exact ⟨rfl, HC9.out⟩
set_option maxHeartbeats 3200000 in
set_option maxRecDepth 100000 in
theorem Donate_yes {w : World} {c : Nat} {S : List Nat} {t : Tab Cx} {most : Int} (h : CtxAt w c S t most) {fi fq ti tq am now : Int} (i0 : -9223372036854775808 ≤ fi) (i1 : fi ≤ 9223372036854775807) (j0 : -9223372036854775808 ≤ ti) (j1 : ti ≤ 9223372036854775807)
    (hk : Ok (t.at_ fi fq).l) (hn : (t.at_ fi fq).l.length ≤ 100000) (hk' : Ok (t.at_ ti tq).l) (hn' : (t.at_ ti tq).l.length ≤ 100000) (hm : U64 am) (x0 : 0 ≤ (t.at_ ti tq).b) (x1 : (t.at_ ti tq).b ≤ 4294967296) (he : donateE t fi fq ti tq am now most = 0) (y1 : (t.at_ fi fq).b < 18446744073709551616) :
    Calls Tryz.prog 29 #[ptr c, .agg #[.int .i64 fi, .int .u64 fq], .agg #[.int .i64 ti, .int .u64 tq], .int .u64 am, .int .u64 now] w fun e w' => e = .returned (.int .i64 0) ∧ ∃ A m cc A' m' cc', CtxTurns c S ((t.thing fi.toNat ⟨(t.at_ fi fq).b - am, (t.at_ fi fq).p, A, m, cc, (t.at_ fi fq).n, (pullP (t.at_ fi fq).l now am).1⟩).thing ti.toNat ⟨(t.at_ ti tq).b + am, (t.at_ ti tq).p, A', m', cc', (t.at_ ti tq).n, (giveP (t.at_ ti tq).l now am most).1⟩) most w w' := by
  obtain ⟨hf, ht, ham, hne, hlk, hov, hgv⟩ := donateE_0 he
  have HG := Lib.hid (fun W (hW : Chg [] w W) => gone_any (h.quiet hW) i0 i1 (q := fq))
  have HG' := Lib.hid (fun W (hW : Chg [] w W) => gone_any (h.quiet hW) j0 j1 (q := tq))
  have HL := Lib.hid (fun W (hW : Chg [] w W) => lacks_any (h.quiet hW) i0 i1 (q := fq) (am := am) (now := now) hk hn)
  have HCR := Lib.hid (fun W (hW : Chg [] w W) => crowded_any (h.quiet hW) j0 j1 (q := tq) (am := am) (now := now) hk' hn' hm)
  have HR := Lib.hid (fun W (hW : Chg [] w W) n m n' m' n1 n2 n3 n4 k1 k2 k3 k4 b0 b1 b2 b3 b4 => donate_refused (h.quiet hW) (n := n) (m := m) (n' := n') (m' := m') (n1 := n1) (n2 := n2) (n3 := n3) (n4 := n4) (k1 := k1) (k2 := k2) (k3 := k3) (k4 := k4) (b0 := b0) (b1 := b1) (b2 := b2) (b3 := b3) (b4 := b4) (fi := fi) (fq := fq) (ti := ti) (tq := tq) (am := am) (now := now) j0 j1 x0 x1)
  rw [he] at HR
  have HPU := Lib.hid (fun W (hW : Chg [] w W) => pull_ctx (h.quiet hW) i0 i1 hf (am := am) (now := now) hk hn hm (by omega) (by have := hm.1; omega))
  have HGI := Lib.hid (fun (W W' : World) (x : Cx) (hT : CtxTurns c S (t.thing fi.toNat x) most W W') => donate_give hT j0 j1 hf ht hne (am := am) (now := now) hk' hn' hm (by have := hm.1; omega) (by omega))
  have HX := Lib.hid h.box
  clear h he hk hn hk' hn' hm x0 x1 hf ht ham hne hlk hov hgv y1
  go_enter Tryz.func29, Tryz.ntmps29
  go_wp2
  refine wp_region_held_drew (S := fun w' => w'.cell? ⟨w.heap.size, 0, none⟩ = some (ptr c) ∧ w'.cell? ⟨w.heap.size + 1, 0, none⟩ = some (.int .i64 fi) ∧ w'.cell? ⟨w.heap.size + 1, 1, none⟩ = some (.int .u64 fq) ∧ w'.cell? ⟨w.heap.size + 1 + 1, 0, none⟩ = some (.int .i64 ti) ∧ w'.cell? ⟨w.heap.size + 1 + 1, 1, none⟩ = some (.int .u64 tq) ∧ w'.cell? ⟨w.heap.size + 1 + 1 + 1, 0, none⟩ = some (.int .u64 am) ∧ w'.cell? ⟨w.heap.size + 1 + 1 + 1 + 1, 0, none⟩ = some (.int .u64 now)) (by kernel_rfl) ⟨by simp [go_sem], by simp [go_sem], by simp [go_sem], by simp [go_sem], by simp [go_sem], by simp [go_sem], by simp [go_sem]⟩ (fun hHeld => ?_)
  simp only [List.setIfInBounds_toArray, List.size_toArray, List.length_cons, List.length_nil, Array.replicate]
  refine wpAnyH_take (i := 0) (v := ptr c) rfl (by kernel_rfl) (by kernel_rfl) (by kernel_rfl) (fun _ _ _ h => h) (Or.inl ⟨by rfl, fun w' hS => ?_⟩) hHeld ?_
  · obtain ⟨s0, s1, s2, s3, s4, s5, s6⟩ := hS
    go_simp
  simp only [Act.put, List.setIfInBounds_toArray, List.set_cons_zero, List.set_cons_succ]
  refine wpAnyH_take (i := 1) (v := .func (.func 49) #[ptr c] #[]) rfl (by kernel_rfl) (by kernel_rfl) (by kernel_rfl) (fun _ _ _ h => h) (Or.inl ⟨by rfl, fun w' hS => ?_⟩) hHeld ?_
  · obtain ⟨s0, s1, s2, s3, s4, s5, s6⟩ := hS
    go_simp
  simp only [Act.put, List.setIfInBounds_toArray, List.set_cons_zero, List.set_cons_succ]
  refine wpAnyH_take (i := 2) (v := .agg #[.int .i64 1, .func (.func 49) #[ptr c] #[]]) rfl (by kernel_rfl) (by kernel_rfl) (by kernel_rfl) (fun _ _ _ h => h) (Or.inl ⟨by rfl, fun w' hS => ?_⟩) hHeld ?_
  · obtain ⟨s0, s1, s2, s3, s4, s5, s6⟩ := hS
    go_simp
  simp only [Act.put, List.setIfInBounds_toArray, List.set_cons_zero, List.set_cons_succ]
  refine wpAnyH_take (i := 3) (v := ptr c) rfl (by kernel_rfl) (by kernel_rfl) (by kernel_rfl) (fun _ _ _ h => h) (Or.inl ⟨by rfl, fun w' hS => ?_⟩) hHeld ?_
  · obtain ⟨s0, s1, s2, s3, s4, s5, s6⟩ := hS
    go_simp
  simp only [Act.put, List.setIfInBounds_toArray, List.set_cons_zero, List.set_cons_succ]
  refine wpAnyH_take (i := 4) (v := .agg #[.int .i64 fi, .int .u64 fq]) rfl (by kernel_rfl) (by kernel_rfl) (by kernel_rfl) (fun _ _ _ h => h) (Or.inl ⟨by rfl, fun w' hS => ?_⟩) hHeld ?_
  · obtain ⟨s0, s1, s2, s3, s4, s5, s6⟩ := hS
    go_simp
  simp only [Act.put, List.setIfInBounds_toArray, List.set_cons_zero, List.set_cons_succ]
  refine wpAnyH_take (i := 7) (v := ptr c) rfl (by kernel_rfl) (by kernel_rfl) (by kernel_rfl) (fun _ _ _ h => h) (Or.inl ⟨by rfl, fun w' hS => ?_⟩) hHeld ?_
  · obtain ⟨s0, s1, s2, s3, s4, s5, s6⟩ := hS
    go_simp
  simp only [Act.put, List.setIfInBounds_toArray, List.set_cons_zero, List.set_cons_succ]
  refine wpAnyH_take (i := 8) (v := .agg #[.int .i64 ti, .int .u64 tq]) rfl (by kernel_rfl) (by kernel_rfl) (by kernel_rfl) (fun _ _ _ h => h) (Or.inl ⟨by rfl, fun w' hS => ?_⟩) hHeld ?_
  · obtain ⟨s0, s1, s2, s3, s4, s5, s6⟩ := hS
    go_simp
  simp only [Act.put, List.setIfInBounds_toArray, List.set_cons_zero, List.set_cons_succ]
  refine wpAnyH_take (i := 11) (v := .func (.func 70) #[] #[ptr (w.heap.size + 1 + 1 + 1), ptr (w.heap.size + 1 + 1 + 1 + 1), ptr (w.heap.size + 1), ptr (w.heap.size + 1 + 1)]) rfl (by kernel_rfl) (by kernel_rfl) (by kernel_rfl) (fun _ _ _ h => h) (Or.inl ⟨by rfl, fun w' hS => ?_⟩) hHeld ?_
  · obtain ⟨s0, s1, s2, s3, s4, s5, s6⟩ := hS
    go_simp
  simp only [Act.put, List.setIfInBounds_toArray, List.set_cons_zero, List.set_cons_succ]
  refine wpAnyH_take (i := 12) (v := .agg #[.int .i64 2, .func (.func 70) #[] #[ptr (w.heap.size + 1 + 1 + 1), ptr (w.heap.size + 1 + 1 + 1 + 1), ptr (w.heap.size + 1), ptr (w.heap.size + 1 + 1)]]) rfl (by kernel_rfl) (by kernel_rfl) (by kernel_rfl) (fun _ _ _ h => h) (Or.inl ⟨by rfl, fun w' hS => ?_⟩) hHeld ?_
  · obtain ⟨s0, s1, s2, s3, s4, s5, s6⟩ := hS
    go_simp
  simp only [Act.put, List.setIfInBounds_toArray, List.set_cons_zero, List.set_cons_succ]
  refine wpAnyH_take (i := 13) (v := ptr c) rfl (by kernel_rfl) (by kernel_rfl) (by kernel_rfl) (fun _ _ _ h => h) (Or.inl ⟨by rfl, fun w' hS => ?_⟩) hHeld ?_
  · obtain ⟨s0, s1, s2, s3, s4, s5, s6⟩ := hS
    go_simp
  simp only [Act.put, List.setIfInBounds_toArray, List.set_cons_zero, List.set_cons_succ]
  refine wpAnyH_take (i := 14) (v := .agg #[.int .i64 fi, .int .u64 fq]) rfl (by kernel_rfl) (by kernel_rfl) (by kernel_rfl) (fun _ _ _ h => h) (Or.inl ⟨by rfl, fun w' hS => ?_⟩) hHeld ?_
  · obtain ⟨s0, s1, s2, s3, s4, s5, s6⟩ := hS
    go_simp
  simp only [Act.put, List.setIfInBounds_toArray, List.set_cons_zero, List.set_cons_succ]
  refine wpAnyH_take (i := 15) (v := .int .u64 am) rfl (by kernel_rfl) (by kernel_rfl) (by kernel_rfl) (fun _ _ _ h => h) (Or.inl ⟨by rfl, fun w' hS => ?_⟩) hHeld ?_
  · obtain ⟨s0, s1, s2, s3, s4, s5, s6⟩ := hS
    go_simp
  simp only [Act.put, List.setIfInBounds_toArray, List.set_cons_zero, List.set_cons_succ]
  refine wpAnyH_take (i := 16) (v := .int .u64 now) rfl (by kernel_rfl) (by kernel_rfl) (by kernel_rfl) (fun _ _ _ h => h) (Or.inl ⟨by rfl, fun w' hS => ?_⟩) hHeld ?_
  · obtain ⟨s0, s1, s2, s3, s4, s5, s6⟩ := hS
    go_simp
  simp only [Act.put, List.setIfInBounds_toArray, List.set_cons_zero, List.set_cons_succ]
  refine wpAnyH_take (i := 19) (v := .func (.func 71) #[] #[ptr (w.heap.size + 1 + 1 + 1), ptr w.heap.size, ptr (w.heap.size + 1 + 1)]) rfl (by kernel_rfl) (by kernel_rfl) (by kernel_rfl) (fun _ _ _ h => h) (Or.inl ⟨by rfl, fun w' hS => ?_⟩) hHeld ?_
  · obtain ⟨s0, s1, s2, s3, s4, s5, s6⟩ := hS
    go_simp
  simp only [Act.put, List.setIfInBounds_toArray, List.set_cons_zero, List.set_cons_succ]
  refine wpAnyH_take (i := 20) (v := .agg #[.int .i64 6, .func (.func 71) #[] #[ptr (w.heap.size + 1 + 1 + 1), ptr w.heap.size, ptr (w.heap.size + 1 + 1)]]) rfl (by kernel_rfl) (by kernel_rfl) (by kernel_rfl) (fun _ _ _ h => h) (Or.inl ⟨by rfl, fun w' hS => ?_⟩) hHeld ?_
  · obtain ⟨s0, s1, s2, s3, s4, s5, s6⟩ := hS
    go_simp
  simp only [Act.put, List.setIfInBounds_toArray, List.set_cons_zero, List.set_cons_succ]
  refine wpAnyH_take (i := 21) (v := ptr c) rfl (by kernel_rfl) (by kernel_rfl) (by kernel_rfl) (fun _ _ _ h => h) (Or.inl ⟨by rfl, fun w' hS => ?_⟩) hHeld ?_
  · obtain ⟨s0, s1, s2, s3, s4, s5, s6⟩ := hS
    go_simp
  simp only [Act.put, List.setIfInBounds_toArray, List.set_cons_zero, List.set_cons_succ]
  refine wpAnyH_take (i := 22) (v := .agg #[.int .i64 ti, .int .u64 tq]) rfl (by kernel_rfl) (by kernel_rfl) (by kernel_rfl) (fun _ _ _ h => h) (Or.inl ⟨by rfl, fun w' hS => ?_⟩) hHeld ?_
  · obtain ⟨s0, s1, s2, s3, s4, s5, s6⟩ := hS
    go_simp
  simp only [Act.put, List.setIfInBounds_toArray, List.set_cons_zero, List.set_cons_succ]
  refine wpAnyH_take (i := 23) (v := .int .u64 am) rfl (by kernel_rfl) (by kernel_rfl) (by kernel_rfl) (fun _ _ _ h => h) (Or.inl ⟨by rfl, fun w' hS => ?_⟩) hHeld ?_
  · obtain ⟨s0, s1, s2, s3, s4, s5, s6⟩ := hS
    go_simp
  simp only [Act.put, List.setIfInBounds_toArray, List.set_cons_zero, List.set_cons_succ]
  refine wpAnyH_take (i := 24) (v := .int .u64 now) rfl (by kernel_rfl) (by kernel_rfl) (by kernel_rfl) (fun _ _ _ h => h) (Or.inl ⟨by rfl, fun w' hS => ?_⟩) hHeld ?_
  · obtain ⟨s0, s1, s2, s3, s4, s5, s6⟩ := hS
    go_simp
  simp only [Act.put, List.setIfInBounds_toArray, List.set_cons_zero, List.set_cons_succ]
  refine wpAnyH_ready (rs := [5]) (by kernel_rfl) (by simp) ?_
  refine AllReadyH.cons rfl (fun K hK => ?_) AllReadyH.nil
  go_simp
  refine (HG.out _ ((((((Chg.refl _ _).alloc _).alloc _).alloc _).alloc _).alloc _ |>.drew)).mono ?_
  rintro e w2 ⟨⟨n, m, rfl, hcl⟩, hc2⟩
  obtain ⟨B0, B1, B2, B3, B4, HC⟩ := donate_boxes (w := w) (c := c) (fi := fi) (fq := fq) (ti := ti) (tq := tq) (am := am) (now := now) ((Chg.refl [] _).drew) hc2
  refine hK.out _ _ ⟨B0.cell 0, B1.cell 0, B1.cell 1, B2.cell 0, B2.cell 1, B3.cell 0, B4.cell 0⟩ (fun hHeld => ?_)
  clear hK K
  simp only [Act.put, List.setIfInBounds_toArray, List.set_cons_zero, List.set_cons_succ]
  refine wpAnyH_take (i := 6) (v := .agg #[.int .i64 11, .func (.func 93) #[] #[.pointer (some ⟨n, 0, none⟩), .pointer (some ⟨m, 0, none⟩)]]) rfl (by kernel_rfl) (by kernel_rfl) (by kernel_rfl) (fun _ _ _ h => h) (Or.inl ⟨by rfl, fun w' hS => ?_⟩) hHeld ?_
  · obtain ⟨s0, s1, s2, s3, s4, s5, s6⟩ := hS
    go_simp
  simp only [Act.put, List.setIfInBounds_toArray, List.set_cons_zero, List.set_cons_succ]
  refine wpAnyH_ready (rs := [9]) (by kernel_rfl) (by simp) ?_
  refine AllReadyH.cons rfl (fun K hK => ?_) AllReadyH.nil
  go_simp
  refine (HG'.out _ HC).mono ?_
  rintro e w3 ⟨⟨n', m', rfl, hcl'⟩, hc3⟩
  have hcA := hc2.then hc3
  have hclA := hcl.quiet hc3
  clear B0 B1 B2 B3 B4 HC hHeld
  obtain ⟨B0, B1, B2, B3, B4, HC⟩ := donate_boxes (w := w) (c := c) (fi := fi) (fq := fq) (ti := ti) (tq := tq) (am := am) (now := now) ((Chg.refl [] _).drew) hcA
  refine hK.out _ _ ⟨B0.cell 0, B1.cell 0, B1.cell 1, B2.cell 0, B2.cell 1, B3.cell 0, B4.cell 0⟩ (fun hHeld => ?_)
  clear hK K
  simp only [Act.put, List.setIfInBounds_toArray, List.set_cons_zero, List.set_cons_succ]
  refine wpAnyH_take (i := 10) (v := .agg #[.int .i64 11, .func (.func 93) #[] #[.pointer (some ⟨n', 0, none⟩), .pointer (some ⟨m', 0, none⟩)]]) rfl (by kernel_rfl) (by kernel_rfl) (by kernel_rfl) (fun _ _ _ h => h) (Or.inl ⟨by rfl, fun w' hS => ?_⟩) hHeld ?_
  · obtain ⟨s0, s1, s2, s3, s4, s5, s6⟩ := hS
    go_simp
  simp only [Act.put, List.setIfInBounds_toArray, List.set_cons_zero, List.set_cons_succ]
  refine wpAnyH_ready (rs := [17]) (by kernel_rfl) (by simp) ?_
  refine AllReadyH.cons rfl (fun K hK => ?_) AllReadyH.nil
  go_simp
  refine (HL.out _ HC).mono ?_
  rintro e w4 ⟨⟨n1, n2, n3, n4, rfl, hcl2⟩, hc4⟩
  have hcB := hcA.then hc4
  have hclB := hclA.quiet hc4
  have hclB' := hcl'.quiet hc4
  clear B0 B1 B2 B3 B4 HC hHeld
  obtain ⟨B0, B1, B2, B3, B4, HC⟩ := donate_boxes (w := w) (c := c) (fi := fi) (fq := fq) (ti := ti) (tq := tq) (am := am) (now := now) ((Chg.refl [] _).drew) hcB
  refine hK.out _ _ ⟨B0.cell 0, B1.cell 0, B1.cell 1, B2.cell 0, B2.cell 1, B3.cell 0, B4.cell 0⟩ (fun hHeld => ?_)
  clear hK K
  simp only [Act.put, List.setIfInBounds_toArray, List.set_cons_zero, List.set_cons_succ]
  refine wpAnyH_take (i := 18) (v := .agg #[.int .i64 15, .func (.func 98) #[] #[.pointer (some ⟨n1, 0, none⟩), .pointer (some ⟨n2, 0, none⟩), .pointer (some ⟨n3, 0, none⟩), .pointer (some ⟨n4, 0, none⟩)]]) rfl (by kernel_rfl) (by kernel_rfl) (by kernel_rfl) (fun _ _ _ h => h) (Or.inl ⟨by rfl, fun w' hS => ?_⟩) hHeld ?_
  · obtain ⟨s0, s1, s2, s3, s4, s5, s6⟩ := hS
    go_simp
  simp only [Act.put, List.setIfInBounds_toArray, List.set_cons_zero, List.set_cons_succ]
  refine wpAnyH_ready (rs := [25]) (by kernel_rfl) (by simp) ?_
  refine AllReadyH.cons rfl (fun K hK => ?_) AllReadyH.nil
  go_simp
  refine (HCR.out _ HC).mono ?_
  rintro e w5 ⟨⟨k1, k2, k3, k4, rfl, hcl3⟩, hc5⟩
  have hcC := hcB.then hc5
  have hclC := hclB.quiet hc5
  have hclC' := hclB'.quiet hc5
  have hclC2 := hcl2.quiet hc5
  clear B0 B1 B2 B3 B4 HC hHeld
  obtain ⟨B0, B1, B2, B3, B4, HC⟩ := donate_boxes (w := w) (c := c) (fi := fi) (fq := fq) (ti := ti) (tq := tq) (am := am) (now := now) ((Chg.refl [] _).drew) hcC
  refine hK.out _ _ ⟨B0.cell 0, B1.cell 0, B1.cell 1, B2.cell 0, B2.cell 1, B3.cell 0, B4.cell 0⟩ (fun hHeld => ?_)
  clear hK K
  simp only [Act.put, List.setIfInBounds_toArray, List.set_cons_zero, List.set_cons_succ]
  refine wpAnyH_take (i := 26) (v := .agg #[.int .i64 3, .func (.func 103) #[] #[.pointer (some ⟨k1, 0, none⟩), .pointer (some ⟨k2, 0, none⟩), .pointer (some ⟨k3, 0, none⟩), .pointer (some ⟨k4, 0, none⟩)]]) rfl (by kernel_rfl) (by kernel_rfl) (by kernel_rfl) (fun _ _ _ h => h) (Or.inl ⟨by rfl, fun w' hS => ?_⟩) hHeld ?_
  · obtain ⟨s0, s1, s2, s3, s4, s5, s6⟩ := hS
    go_simp
  simp only [Act.put, List.setIfInBounds_toArray, List.set_cons_zero, List.set_cons_succ]
  refine wpAnyH_ready (rs := [27]) (by kernel_rfl) (by simp) ?_
  refine AllReadyH.cons rfl (fun K hK => ?_) AllReadyH.nil
  go_simp

  refine hK.out _ _ ⟨(B0.alloc _).cell 0, (B1.alloc _).cell 0, (B1.alloc _).cell 1, (B2.alloc _).cell 0, (B2.alloc _).cell 1, (B3.alloc _).cell 0, (B4.alloc _).cell 0⟩ (fun hHeld => ?_)
  clear hK K
  simp only [Act.put, List.setIfInBounds_toArray, List.set_cons_zero, List.set_cons_succ]
  refine wpAnyH_ready (rs := [28]) (by kernel_rfl) (by simp) ?_
  refine AllReadyH.cons rfl (fun K hK => ?_) AllReadyH.nil
  go_simp
  refine (HR.out _ HC n m n' m' n1 n2 n3 n4 k1 k2 k3 k4 w.heap.size (w.heap.size + 1) (w.heap.size + 1 + 1) (w.heap.size + 1 + 1 + 1) (w.heap.size + 1 + 1 + 1 + 1) hclC hclC' B0 B1 B2 B3 B4 hclC2 hcl3 _ rfl).mono ?_
  rintro e w6 ⟨rfl, hc6⟩
  have hcD := (hcC.alloc _).then hc6
  clear B0 B1 B2 B3 B4 HC hHeld
  obtain ⟨B0, B1, B2, B3, B4, HC⟩ := donate_boxes (w := w) (c := c) (fi := fi) (fq := fq) (ti := ti) (tq := tq) (am := am) (now := now) ((Chg.refl [] _).drew) hcD
  refine hK.out _ _ ⟨B0.cell 0, B1.cell 0, B1.cell 1, B2.cell 0, B2.cell 1, B3.cell 0, B4.cell 0⟩ (fun hHeld => ?_)
  clear hK K
  simp only [Act.put, List.setIfInBounds_toArray, List.set_cons_zero, List.set_cons_succ]
  refine wpAnyH_take (i := 29) (v := .int .i64 0) rfl (by kernel_rfl) (by kernel_rfl) (by kernel_rfl) (fun _ _ _ h => h) (Or.inl ⟨by rfl, fun w' hS => ?_⟩) hHeld ?_
  · obtain ⟨s0, s1, s2, s3, s4, s5, s6⟩ := hS
    go_simp
  simp only [Act.put, List.setIfInBounds_toArray, List.set_cons_zero, List.set_cons_succ]
  refine wpAnyH_done (by kernel_rfl) ?_ _
  have HC9 := Lib.hid HC
  have d0 := B0.cell 0
  have d1 := B1.cell 0
  have d2 := B1.cell 1
  have d3 := B3.cell 0
  have d4 := B4.cell 0
  have HB0 := Lib.hid B0
  have HB2 := Lib.hid B2
  have HB3 := Lib.hid B3
  have HB4 := Lib.hid B4
  have hlb := B4.lt
  clear B0 B1 B2 B3 B4 HC hHeld hc2 hc3 hc4 hc5 hc6 hcA hcB hcC hcD hcl hcl' hcl2 hcl3 hclA hclB hclB' hclC hclC' hclC2
  go_wp2_with (first
    | (go_at_call 66; refine (HPU.out _ HC9.out).mono ?_; rintro e w7 ⟨rfl, A, m9, cc, hT⟩; obtain ⟨S1, hsub, hS7, hgive⟩ := HGI.out _ _ _ hT; have e0 := (HB0.out.chg hS7 (HX.out _ (by omega))).cell 0; have e1 := (HB2.out.chg hS7 (HX.out _ (by omega))).cell 0; have e2 := (HB2.out.chg hS7 (HX.out _ (by omega))).cell 1; have e3 := (HB3.out.chg hS7 (HX.out _ (by omega))).cell 0; have e4 := (HB4.out.chg hS7 (HX.out _ (by omega))).cell 0; have HGIV := Lib.hid hgive; clear hT hsub hS7 hgive)
    | (go_at_call 73; refine HGIV.out.mono ?_; rintro e w8 ⟨rfl, A', m8, cc', hT⟩; have HT := Lib.hid (hT.earlier HC9.out); clear hT))
  go_ret
  exact ⟨rfl, _, _, _, _, _, _, HT.out⟩
end Go.Proofs
end
section
namespace Go.Proofs
open Go.RowKit
set_option linter.unusedVariables false
set_option linter.unusedSimpArgs false
def canB (t : Tab Cx) (i q now : Int) : Bool := decide (0 < thereP (t.at_ i q).l now)
set_option maxHeartbeats 1600000 in
set_option maxRecDepth 100000 in
theorem Can_any {w : World} {c : Nat} {S : List Nat} {t : Tab Cx} {most : Int} (h : CtxAt w c S t most) {i q : Int} (now : Int) (i0 : -9223372036854775808 ≤ i) (i1 : i ≤ 9223372036854775807) (hk : Ok (t.at_ i q).l) (hn : (t.at_ i q).l.length ≤ 100000) :
    Calls Tryz.prog 30 #[ptr c, .agg #[.int .i64 i, .int .u64 q], .int .u64 now] w fun e w' => e = .returned (.bool (canB t i q now)) ∧ Chg [] w w' := by
  have HA := Lib.hid (fun W (hW : Chg [] w W) => at_agg (h.quiet hW) i q i0 i1)
  have HT := Lib.hid (fun W (hW : Chg [] w W) => there_any ((h.quiet hW).good.at_ i q) hk hn now)
  unfold canB
  obtain ⟨x, hx⟩ : ∃ x, x = t.at_ i q := ⟨_, rfl⟩
  rw [← hx] at HA HT ⊢
  obtain ⟨th, hth⟩ : ∃ th, th = thereP x.l now := ⟨_, rfl⟩
  rw [← hth] at HT ⊢
  have hfl := fldR x.b x.p x.n x.a x.m x.c
  clear hx h hk hn hth
  go_enter Tryz.func30, Tryz.ntmps30
  go_wp2_with (first
    | (go_at_call 57; refine (HA.out _ ((Chg.refl _ _).alloc _)).mono ?_; rintro e w1 ⟨rfl, hc⟩; have HC := Lib.hid (((Chg.refl [] w).alloc _).then hc); clear hc)
    | (go_at_call 74; refine (HT.out _ HC.out).mono ?_; rintro e w2 ⟨rfl, hc⟩; have HC2 := Lib.hid (HC.out.then hc); clear hc))
  go_ret
  exact ⟨rfl, HC2.out⟩
set_option maxHeartbeats 1600000 in
set_option maxRecDepth 100000 in
theorem Next_any {w : World} {c : Nat} {S : List Nat} {t : Tab Cx} {most : Int} (h : CtxAt w c S t most) {i q : Int} (now : Int) (i0 : -9223372036854775808 ≤ i) (i1 : i ≤ 9223372036854775807) (hn : (t.at_ i q).l.length ≤ 1000) :
    Calls Tryz.prog 26 #[ptr c, .agg #[.int .i64 i, .int .u64 q], .int .u64 now] w fun e w' => e = .returned (.tuple #[.int .u64 (nextP (t.at_ i q).l now).1, .bool (nextP (t.at_ i q).l now).2]) ∧ Chg [] w w' := by
  have HA := Lib.hid (fun W (hW : Chg [] w W) => at_agg (h.quiet hW) i q i0 i1)
  have HT := Lib.hid (fun W (hW : Chg [] w W) => next_any (sorts_all 1000 (by omega)) ((h.quiet hW).good.at_ i q) hn (by omega) now)
  obtain ⟨x, hx⟩ : ∃ x, x = t.at_ i q := ⟨_, rfl⟩
  rw [← hx] at HA HT ⊢
  obtain ⟨a1, ha1⟩ : ∃ a1, a1 = (nextP x.l now).1 := ⟨_, rfl⟩
  obtain ⟨a2, ha2⟩ : ∃ a2, a2 = (nextP x.l now).2 := ⟨_, rfl⟩
  rw [← ha1, ← ha2] at HT ⊢
  have hfl := fldR x.b x.p x.n x.a x.m x.c
  clear hx h hn ha1 ha2
  go_enter Tryz.func26, Tryz.ntmps26
  go_wp2_with (first
    | (go_at_call 57; refine (HA.out _ ((Chg.refl _ _).alloc _)).mono ?_; rintro e w1 ⟨rfl, hc⟩; have HC := Lib.hid (((Chg.refl [] w).alloc _).then hc); clear hc)
    | (go_at_call 67; refine (HT.out _ HC.out).mono ?_; rintro e w2 ⟨rfl, hc⟩; have HC2 := Lib.hid (HC.out.then hc); clear hc))
  go_ret2
  exact ⟨rfl, HC2.out⟩
set_option maxHeartbeats 1600000 in
set_option maxRecDepth 100000 in
/-- The context is told, with refills of the caller's own. -/
theorem apart_any {w : World} {x : Cx} (hx : Rd w x.v x.l) (hn : x.l.length ≤ 100000) :
    Calls Tryz.prog 46 #[.agg #[.int .u64 x.b, .int .u64 x.p, .slice x.a x.m x.c, .int .i64 x.n]] w fun e w' => ∃ A cc, e = .returned (.agg #[.int .u64 x.b, .int .u64 x.p, .slice A x.l.length cc, .int .i64 x.n]) ∧ Own w w' (.slice A x.l.length cc) x.l := by
  have HCL := Lib.hid (fun W (hW : Chg [] w W) => clone_any (hx.quiet hW) hn)
  clear hx hn
  go_enter Tryz.func46, Tryz.ntmps46
  go_wp2_with (go_at_call 88; refine (HCL.out _ (((Chg.refl _ _).alloc _).alloc _)).mono ?_; rintro e w1 ⟨v, rfl, ho⟩; obtain ⟨A, cc, rfl, _⟩ := ho.rd.open_; obtain ⟨k0, k1, k2, k3, kf, kl⟩ := cx4_facts (w1 := w) ((Chg.refl [] _).alloc _) ho.2.2; obtain ⟨hz, r0, r1, r2, r3, rf⟩ := cx_facts (w := w.alloc (.cells #[.int .u64 x.b, .int .u64 x.p, .slice x.a x.m x.c, .int .i64 x.n] 43)) (n := w.heap.size + 1) (by simp) (Chg.refl [] _) ho.2.2; have HO := Lib.hid ho; clear ho)
  refine bodyPost_ret (v := .agg #[.int .u64 x.b, .int .u64 x.p, .slice A x.l.length cc, .int .i64 x.n]) ?_ rfl ⟨A, cc, rfl, ?_⟩
  · simp [results, Tryz.results46, go_sem, hz, r0, r1, r2, r3]
  · have hB0 := ((Blk.new w 43 #[.int .u64 x.b, .int .u64 x.p, .slice x.a x.m x.c, .int .i64 x.n]).alloc obCx).chg HO.out.2.2 (by simp)
    have hB1 := (Blk.at (w.alloc (.cells #[.int .u64 x.b, .int .u64 x.p, .slice x.a x.m x.c, .int .i64 x.n] 43)) 43 #[.int .u64 0, .int .u64 0, .slice none 0 0, .int .i64 0] (n := w.heap.size + 1) (by simp)).chg HO.out.2.2 (by simp)
    have hO : Off w1 [w.heap.size, w.heap.size + 1] := Off.cons hB0 (by decide) (Off.cons hB1 (by decide) (Off.nil _))
    have h0 : Own w w1 (.slice A x.l.length cc) x.l := HO.out.before (((Chg.refl _ _).alloc _).alloc _)
    refine h0.chg (S := [w.heap.size, w.heap.size + 1]) ?_ (h0.rd.off hO) (fun k hk => by simp at hk; omega)
    repeat' (first | with_reducible exact Chg.refl _ _ | with_reducible apply Chg.drew | with_reducible apply Chg.setCell | (with_reducible refine Or.inl ?_; simp; done))
/-- What a Get tells: the context, with refills of the caller's own; the error. -/
def GetOut (t : Tab Cx) (i q : Int) (w : World) (e : Ending) (w' : World) : Prop :=
  ∃ A cc, e = .returned (.tuple #[.agg #[.int .u64 (t.at_ i q).b, .int .u64 (t.at_ i q).p, .slice A (t.at_ i q).l.length cc, .int .i64 (t.at_ i q).n], .int .i64 (staleE t i q)]) ∧ Own w w' (.slice A (t.at_ i q).l.length cc) (t.at_ i q).l
set_option maxHeartbeats 3200000 in
set_option maxRecDepth 100000 in
theorem Get_any {w : World} {c : Nat} {S : List Nat} {t : Tab Cx} {most : Int} (h : CtxAt w c S t most) {i q : Int} (i0 : -9223372036854775808 ≤ i) (i1 : i ≤ 9223372036854775807) (hn : (t.at_ i q).l.length ≤ 100000) :
    Calls Tryz.prog 24 #[ptr c, .agg #[.int .i64 i, .int .u64 q]] w fun e w' => GetOut t i q w e w' := by
  have HAP := Lib.hid (fun W (hW : Chg [] w W) => apart_any ((h.quiet hW).good.at_ i q) hn)
  obtain ⟨g, hB, hT, hG, hW⟩ := h
  have HP := fun W (hW : Chg [] w W) => places_any (hB.chg hW (by simp))
  have HG := fun W (hc : Chg [] w W) => get_any (hT.quiet hc) hW i q i0 i1
  obtain ⟨x, hx⟩ : ∃ x, x = t.at_ i q := ⟨_, rfl⟩
  rw [← hx] at HG HAP
  obtain ⟨e0, he⟩ : ∃ e0, e0 = staleE t i q := ⟨_, rfl⟩
  rw [← he] at HG
  have HXX := Lib.hid hx
  have HEE := Lib.hid he
  have HP := Lib.hid HP
  have HG := Lib.hid HG
  have hq2 : ¬ (w.heap.size + 1 + 1 = w.heap.size) := by omega
  have hq3 : ¬ (w.heap.size = w.heap.size + 1 + 1) := by omega
  clear hx he hT hG hW hB hn
  go_enter Tryz.func24, Tryz.ntmps24
  go_wp2
  go_region_held3 (fun w' => w'.cell? ⟨w.heap.size, 0, none⟩ = some (.int .i64 i) ∧ w'.cell? ⟨w.heap.size, 1, none⟩ = some (.int .u64 q))
    (first | go_keep)
    (first
      | (go_at_call 43; refine (HP.out _ ((((Chg.refl _ _).alloc _).alloc _).drew)).mono ?_; rintro e w1 ⟨rfl, rfl⟩)
      | (go_at_call 43; refine (HP.out _ (((((Chg.refl _ _).alloc _).alloc _).alloc _).drew)).mono ?_; rintro e w1 ⟨rfl, rfl⟩)
      | (go_at_call 62; refine (HG.out _ ((((Chg.refl _ _).alloc _).alloc _).drew)).mono ?_; rintro e w2 ⟨rfl, hc⟩; obtain ⟨_, b0, b1⟩ := ref_facts (w := w) rfl (((Chg.refl [] _).alloc _).drew) hc; obtain ⟨hz, r0, r1, r2, r3, rf⟩ := cx_facts (w := w.alloc (obRef i q)) (n := w.heap.size + 1) (by simp) ((Chg.refl [] _).drew) hc; have hq4 : ¬ (w2.heap.size = w.heap.size) := (by omega); have hq5 : ¬ (w.heap.size = w2.heap.size) := (by omega); have HC := Lib.hid ((((Chg.refl [] w).alloc _).alloc _).drew.then hc); have HBQ := Lib.hid ((Blk.at (w.alloc (obRef i q)) 43 #[.int .u64 0, .int .u64 0, .slice none 0 0, .int .i64 0] (n := w.heap.size + 1) (by simp)).drew.chg hc (by simp)); clear hc)
      | (go_at_call 62; refine (HG.out _ (((((Chg.refl _ _).alloc _).alloc _).alloc _).drew)).mono ?_; rintro e w2 ⟨rfl, hc⟩; obtain ⟨_, b0, b1⟩ := ref_facts (w := w) rfl ((((Chg.refl [] _).alloc _).alloc _).drew) hc; obtain ⟨hz0, r0, r1, r2, r3, rf⟩ := cx_facts (w := w.alloc (obRef i q)) (n := w.heap.size + 1) (by simp) (((Chg.refl [] _).alloc _).drew) hc; obtain ⟨hz, k0, k1, k2, k3, kf⟩ := cx_facts (w := (w.alloc (obRef i q)).alloc obCx) (n := w.heap.size + 1 + 1) (by simp) ((Chg.refl [] _).drew) hc; have HC := Lib.hid (((((Chg.refl [] w).alloc _).alloc _).alloc _).drew.then hc); have HBQ := Lib.hid (((Blk.at (w.alloc (obRef i q)) 43 #[.int .u64 0, .int .u64 0, .slice none 0 0, .int .i64 0] (n := w.heap.size + 1) (by simp)).alloc obCx).drew.chg hc (by simp)); clear hc))
  all_goals
    go_wp2_with (go_at_call 46; refine (HAP.out _ (by repeat' (first | with_reducible exact HC.out | with_reducible apply Chg.alloc | with_reducible apply Chg.setCell | (with_reducible refine Or.inr ?_; dsimp only; omega)))).mono ?_; rintro e w3 ⟨A, cc, rfl, ho⟩; have hcc := ho.2.2; have hb3 : Blk w3 (w.heap.size + 1) 43 #[.int .u64 0, .int .u64 0, .slice none 0 0, .int .i64 0] := (by first | (with_reducible exact (HBQ.out.alloc _).chg hcc List.not_mem_nil) | (with_reducible exact (HBQ.out.far4 (g := w.heap.size + 1 + 1) (show w.heap.size + 1 ≠ w.heap.size + 1 + 1 by omega) 0 x).chg hcc List.not_mem_nil) | exact (HBQ.out.far4 (g := w.heap.size + 1 + 1) (show w.heap.size + 1 ≠ w.heap.size + 1 + 1 by omega) 0 x).chg hcc List.not_mem_nil); have HB3 := Lib.hid hb3; have m0 := hb3.cell 0; have m1 := hb3.cell 1; have m2 := hb3.cell 2; have m3 := hb3.cell 3; have mf := hb3.frozen; have ml := hb3.lt; have HO := Lib.hid (ho.before (by repeat' (first | with_reducible exact HC.out | with_reducible apply Chg.alloc | with_reducible apply Chg.setCell | (with_reducible refine Or.inr ?_; dsimp only; omega)))); clear ho hb3 hcc)
    refine bodyPost_ret (v := .tuple #[.agg #[.int .u64 x.b, .int .u64 x.p, .slice A x.l.length cc, .int .i64 x.n], .int .i64 e0]) ?_ rfl ⟨A, cc, by rw [← HXX.out, ← HEE.out], ?_⟩
    · simp [results, Tryz.results24, go_sem, ml, m0, m1, m2, m3]
    · rw [← HXX.out]
      refine HO.out.chg (S := [w.heap.size + 1]) ?_ (HO.out.rd.off (Off.cons HB3.out (by decide) (Off.nil _))) (fun k hk => by simp at hk; omega)
      repeat' (first | with_reducible exact Chg.refl _ _ | with_reducible apply Chg.drew | with_reducible apply Chg.setCell | (with_reducible refine Or.inl ?_; simp; done))
end Go.Proofs
end
section
namespace Go.Proofs
open Go.RowKit
set_option linter.unusedVariables false
/-- What a charge leaves: as it was where nothing was there; else other refills. -/
def CChOut (c : Nat) (S : List Nat) (t : Tab Cx) (most : Int) (k : Nat) (x : Cx) (l : List Rf) (b : Bool) (w w' : World) : Prop :=
  (b = false → CtxTurns c S t most w w') ∧ (b = true → ∃ A m cc, CtxTurns c S (t.thing k ⟨x.b, x.p, A, m, cc, x.n, l⟩) most w w')
theorem CChOut.no {c : Nat} {S : List Nat} {t : Tab Cx} {most : Int} {k : Nat} {x : Cx} {l : List Rf} {w w' : World} (hT : CtxTurns c S t most w w') : CChOut c S t most k x l false w w' := ⟨fun _ => hT, (fun h => by cases h)⟩
theorem CChOut.yes {c : Nat} {S : List Nat} {t : Tab Cx} {most : Int} {k : Nat} {x : Cx} {l : List Rf} {w w' : World} {A : Option Addr} {m cc : Nat} (hT : CtxTurns c S (t.thing k ⟨x.b, x.p, A, m, cc, x.n, l⟩) most w w') : CChOut c S t most k x l true w w' := ⟨(fun h => by cases h), fun _ => ⟨A, m, cc, hT⟩⟩
theorem cx_put4 {w : World} {b : Nat} (h : Blk w b 43 #[.int .u64 0, .int .u64 0, .slice none 0 0, .int .i64 0]) (x : Cx) : Blk (put4 w b 0 x) b 43 #[.int .u64 x.b, .int .u64 x.p, .slice x.a x.m x.c, .int .i64 x.n] := by
  have := (((h.set_ 0 (.int .u64 x.b)).set_ 1 (.int .u64 x.p)).set_ 2 (.slice x.a x.m x.c)).set_ 3 (.int .i64 x.n)
  simpa using this
set_option maxHeartbeats 3200000 in
set_option maxRecDepth 100000 in
theorem Charge_no {w : World} {c : Nat} {S : List Nat} {t : Tab Cx} {most : Int} (h : CtxAt w c S t most) {i q : Int} (now : Int) (i0 : -9223372036854775808 ≤ i) (i1 : i ≤ 9223372036854775807) (hq : t.has i q = false) :
    Calls Tryz.prog 31 #[ptr c, .agg #[.int .i64 i, .int .u64 q], .int .u64 now] w fun e w' => e = .returned (.bool false) ∧ Chg [] w w' := by
  obtain ⟨g, hB, hT, hG, hW⟩ := h
  have HP := fun W (hW : Chg [] w W) => places_any (hB.chg hW (by simp))
  have HG := fun W (hc : Chg [] w W) => get_any (hT.quiet hc) hW i q i0 i1
  have he : staleE t i q = 11 := by unfold staleE; rw [hq]; rfl
  rw [he] at HG
  obtain ⟨x, hx⟩ : ∃ x, x = t.at_ i q := ⟨_, rfl⟩
  rw [← hx] at HG
  have HP := Lib.hid HP
  have HG := Lib.hid HG
  clear hx he hT hG hW hB hq
  go_enter Tryz.func31, Tryz.ntmps31
  go_wp2
  go_region_held3 (fun w' => w'.cell? ⟨w.heap.size, 0, none⟩ = some (.int .i64 i) ∧ w'.cell? ⟨w.heap.size, 1, none⟩ = some (.int .u64 q))
    (first | go_keep)
    (first
      | (go_at_call 43; refine (HP.out _ (((Chg.refl _ _).alloc _).drew)).mono ?_; rintro e w1 ⟨rfl, rfl⟩)
      | (go_at_call 43; refine (HP.out _ ((((Chg.refl _ _).alloc _).alloc _).drew)).mono ?_; rintro e w1 ⟨rfl, rfl⟩)
      | (go_at_call 62; refine (HG.out _ (((Chg.refl _ _).alloc _).drew)).mono ?_; rintro e w2 ⟨rfl, hc⟩; obtain ⟨hz, b0, b1⟩ := ref_facts (w := w) rfl ((Chg.refl [] _).drew) hc; have hq4 : ¬ (w2.heap.size = w.heap.size) := (by omega); have hq5 : ¬ (w.heap.size = w2.heap.size) := (by omega); have HC := Lib.hid (((Chg.refl [] w).alloc _).drew.then hc); have HC0 := Lib.hid ((Blk.new w 34 #[.int .i64 i, .int .u64 q]).drew.chg hc (by simp)); clear hc)
      | (go_at_call 62; refine (HG.out _ ((((Chg.refl _ _).alloc _).alloc _).drew)).mono ?_; rintro e w2 ⟨rfl, hc⟩; obtain ⟨_, b0, b1⟩ := ref_facts (w := w) rfl (((Chg.refl [] _).alloc _).drew) hc; obtain ⟨hz, k0, k1, k2, k3, kf⟩ := cx_facts (w := w.alloc (obRef i q)) (n := w.heap.size + 1) (by simp) ((Chg.refl [] _).drew) hc; have HC := Lib.hid ((((Chg.refl [] w).alloc _).alloc _).drew.then hc); have HBQ := Lib.hid ((Blk.at (w.alloc (obRef i q)) 43 #[.int .u64 0, .int .u64 0, .slice none 0 0, .int .i64 0] (n := w.heap.size + 1) (by simp)).drew.chg hc (by simp)); have HC0 := Lib.hid (((Blk.new w 34 #[.int .i64 i, .int .u64 q]).alloc obCx).drew.chg hc (by simp)); clear hc))
  all_goals
    go_wp2
    go_ret
    exact ⟨rfl, by repeat' (first | with_reducible exact HC.out | with_reducible apply Chg.alloc | with_reducible apply Chg.setCell | (with_reducible refine Or.inr ?_; dsimp only; omega))⟩
set_option maxHeartbeats 6400000 in
set_option maxRecDepth 100000 in
theorem Charge_yes {w : World} {c : Nat} {S : List Nat} {t : Tab Cx} {most : Int} (h : CtxAt w c S t most) {i q : Int} {now : Int} (i0 : -9223372036854775808 ≤ i) (i1 : i ≤ 9223372036854775807) (hq : t.has i q = true)
    (hk : Ok (t.at_ i q).l) (hn : (t.at_ i q).l.length ≤ 100000) (hnow : U64 now) (hper : U64 (t.at_ i q).p) :
    Calls Tryz.prog 31 #[ptr c, .agg #[.int .i64 i, .int .u64 q], .int .u64 now] w fun e w' => e = .returned (.bool (chB (t.at_ i q) now most)) ∧ CChOut c S t most i.toNat (t.at_ i q) (chL (t.at_ i q) now most) (chB (t.at_ i q) now most) w w' := by
  have HH := Lib.hid h
  have hch := fun W (hW : Chg [] w W) => charge_any ((h.quiet hW).good.at_ i q) hk hn (now := now) (most := most) hnow hper
  obtain ⟨g', hB', hset⟩ := set_ctx h hq
  obtain ⟨g, hB, hT, hG, hW⟩ := h
  have HP := fun W (hW : Chg [] w W) => places_any (hB.chg hW (by simp))
  have HG := fun W (hc : Chg [] w W) => get_any (hT.quiet hc) hW i q i0 i1
  have hgg : g' = g := by
    have e1 := hB'.cell 0
    have e2 := hB.cell 0
    rw [e1] at e2
    simpa using e2
  subst hgg
  have he : staleE t i q = 0 := by unfold staleE; rw [hq]; rfl
  rw [he] at HG
  unfold chB chL
  obtain ⟨x, hx⟩ : ∃ x, x = t.at_ i q := ⟨_, rfl⟩
  rw [← hx] at HG hch ⊢
  obtain ⟨pl, hpl⟩ : ∃ pl, pl = (chargeP x.l now x.p most).1 := ⟨_, rfl⟩
  obtain ⟨pb, hpb⟩ : ∃ pb, pb = (chargeP x.l now x.p most).2 := ⟨_, rfl⟩
  rw [← hpl, ← hpb] at hch
  rw [← hpl, ← hpb]
  have HCH := Lib.hid hch
  have HSET := Lib.hid hset
  have HBT := Lib.hid hB.tell
  have HP := Lib.hid HP
  have HG := Lib.hid HG
  have hlc := hB.lt
  clear hx he hT hG hW hB hq hch hset hB' hpl hpb hk hn hper
  go_enter Tryz.func31, Tryz.ntmps31
  go_wp2
  go_region_held3 (fun w' => w'.cell? ⟨w.heap.size, 0, none⟩ = some (.int .i64 i) ∧ w'.cell? ⟨w.heap.size, 1, none⟩ = some (.int .u64 q))
    (first | go_keep)
    (first
      | (go_at_call 43; refine (HP.out _ (((Chg.refl _ _).alloc _).drew)).mono ?_; rintro e w1 ⟨rfl, rfl⟩)
      | (go_at_call 43; refine (HP.out _ ((((Chg.refl _ _).alloc _).alloc _).drew)).mono ?_; rintro e w1 ⟨rfl, rfl⟩)
      | (go_at_call 62; refine (HG.out _ (((Chg.refl _ _).alloc _).drew)).mono ?_; rintro e w2 ⟨rfl, hc⟩; obtain ⟨hz, b0, b1⟩ := ref_facts (w := w) rfl ((Chg.refl [] _).drew) hc; have hq4 : ¬ (w2.heap.size = w.heap.size) := (by omega); have hq5 : ¬ (w.heap.size = w2.heap.size) := (by omega); have HC := Lib.hid (((Chg.refl [] w).alloc _).drew.then hc); have HC0 := Lib.hid ((Blk.new w 34 #[.int .i64 i, .int .u64 q]).drew.chg hc (by simp)); clear hc)
      | (go_at_call 62; refine (HG.out _ ((((Chg.refl _ _).alloc _).alloc _).drew)).mono ?_; rintro e w2 ⟨rfl, hc⟩; obtain ⟨_, b0, b1⟩ := ref_facts (w := w) rfl (((Chg.refl [] _).alloc _).drew) hc; obtain ⟨hz, k0, k1, k2, k3, kf⟩ := cx_facts (w := w.alloc (obRef i q)) (n := w.heap.size + 1) (by simp) ((Chg.refl [] _).drew) hc; have HC := Lib.hid ((((Chg.refl [] w).alloc _).alloc _).drew.then hc); have HBQ := Lib.hid ((Blk.at (w.alloc (obRef i q)) 43 #[.int .u64 0, .int .u64 0, .slice none 0 0, .int .i64 0] (n := w.heap.size + 1) (by simp)).drew.chg hc (by simp)); have HC0 := Lib.hid (((Blk.new w 34 #[.int .i64 i, .int .u64 q]).alloc obCx).drew.chg hc (by simp)); clear hc))
  all_goals
    first
    | (have hb7 := Blk.new w2 43 #[.int .u64 x.b, .int .u64 x.p, .slice x.a x.m x.c, .int .i64 x.n]; have lc2 := (HBT.out _ HC.out).2; have c1' := (HBT.out _ HC.out).1 1; have HB7 := Lib.hid hb7; have v0 := hb7.cell 0; have v1 := hb7.cell 1; have v2 := hb7.cell 2; have v3 := hb7.cell 3; have HC7 := Lib.hid (HC.out.alloc (.cells #[.int .u64 x.b, .int .u64 x.p, .slice x.a x.m x.c, .int .i64 x.n] 43)); have HK := Lib.hid (HBT.out _ HC7.out); have c0 := HK.out.1 0; have c1 := HK.out.1 1; have hn1 : ¬ (w2.heap.size = c) := (by omega); have hn2 : ¬ (w2.heap.size = w.heap.size) := (by omega); clear hb7
       go_wp2
       go_region_held3 (fun w' => w'.cell? ⟨w2.heap.size, 1, none⟩ = some (.int .u64 x.p) ∧ w'.cell? ⟨w2.heap.size, 2, none⟩ = some (.slice x.a x.m x.c) ∧ w'.cell? ⟨c, 1, none⟩ = some (.int .i64 most))
         (first | go_keep)
         (first
           | (go_at_call 75; refine (HCH.out _ HC7.out.drew).mono ?_; rintro e w3 ⟨v3', rfl, hmn⟩; obtain ⟨A3, c3, rfl, _⟩ := hmn.1.open_; have hcc := hmn.2.2; have HC8 := Lib.hid (HC7.out.drew.then hcc); have HB8 := Lib.hid (HB7.out.drew.chg hcc (by simp)); have HR8 := Lib.hid hmn.1; have g0 := (HBT.out _ HC8.out).1 0; have g1 := (HBT.out _ HC8.out).1 1; have z0 := HB8.out.cell 0; have z1 := HB8.out.cell 1; have z2 := HB8.out.cell 2; have z3 := HB8.out.cell 3; have zf := HB8.out.frozen; have zl := HB8.out.lt; have y0 := ((HC0.out.alloc _).drew.chg hcc (by simp)).cell 0; have y1 := ((HC0.out.alloc _).drew.chg hcc (by simp)).cell 1; clear hmn hcc))
       all_goals
         cases pb with
         | false =>
           go_wp2
           go_ret
           exact ⟨rfl, CChOut.no (CtxTurns.refl HH.out HC8.out)⟩
         | true =>
           have HC9 := Lib.hid (HC8.out.setCell (p := ⟨w2.heap.size, 2, none⟩) (.inr (by dsimp only; omega)) (.slice A3 pl.length c3))
           have HR9 := Lib.hid (HR8.out.keep (Off.cons HB8.out (by decide) (Off.nil _)) ((Chg.refl [w2.heap.size] w3).setCell (p := ⟨w2.heap.size, 2, none⟩) (.inl (by simp)) (.slice A3 pl.length c3)))
           go_wp2
           go_still_tail 6, (by kernel_rfl)
           (try change wpStill _ _ (World.drew _) _ _ _)
           (repeat still_step)
           (try refine wpStill_nil ?_)
           (try change wpList _ _ _ _ _ (World.drew _))
           go_wp2_with (go_at_call 76; refine (HSET.out _ HC9.out.drew x.b x.p x.n A3 pl.length c3 pl (HR9.out.quiet ((Chg.refl _ _).drew))).mono ?_; rintro e w4 ⟨rfl, hT⟩; have HT := Lib.hid hT; clear hT)
           go_ret
           exact ⟨rfl, CChOut.yes HT.out⟩)
    | (have hb7 := cx_put4 HBQ.out x; have lc2 := (HBT.out _ HC.out).2; have c1' := (HBT.out _ HC.out).1 1; have HB7 := Lib.hid hb7; have v0 := hb7.cell 0; have v1 := hb7.cell 1; have v2 := hb7.cell 2; have v3 := hb7.cell 3; have HC7 := Lib.hid (chg_put4 HC.out (.inr (show w.heap.size ≤ w.heap.size + 1 by omega)) 0 x); have HK := Lib.hid (HBT.out _ HC7.out); have c0 := HK.out.1 0; have c1 := HK.out.1 1; have hn1 : ¬ ((w.heap.size + 1) = c) := (by omega); have hn2 : ¬ ((w.heap.size + 1) = w.heap.size) := (by omega); clear hb7
       go_wp2
       go_region_held3 (fun w' => w'.cell? ⟨(w.heap.size + 1), 1, none⟩ = some (.int .u64 x.p) ∧ w'.cell? ⟨(w.heap.size + 1), 2, none⟩ = some (.slice x.a x.m x.c) ∧ w'.cell? ⟨c, 1, none⟩ = some (.int .i64 most))
         (first | go_keep)
         (first
           | (go_at_call 75; refine (HCH.out _ HC7.out.drew).mono ?_; rintro e w3 ⟨v3', rfl, hmn⟩; obtain ⟨A3, c3, rfl, _⟩ := hmn.1.open_; have hcc := hmn.2.2; have HC8 := Lib.hid (HC7.out.drew.then hcc); have HB8 := Lib.hid (HB7.out.drew.chg hcc (by simp)); have HR8 := Lib.hid hmn.1; have g0 := (HBT.out _ HC8.out).1 0; have g1 := (HBT.out _ HC8.out).1 1; have z0 := HB8.out.cell 0; have z1 := HB8.out.cell 1; have z2 := HB8.out.cell 2; have z3 := HB8.out.cell 3; have zf := HB8.out.frozen; have zl := HB8.out.lt; have y0 := ((HC0.out.far4 (g := w.heap.size + 1) (show w.heap.size ≠ w.heap.size + 1 by omega) 0 x).drew.chg hcc (by simp)).cell 0; have y1 := ((HC0.out.far4 (g := w.heap.size + 1) (show w.heap.size ≠ w.heap.size + 1 by omega) 0 x).drew.chg hcc (by simp)).cell 1; clear hmn hcc))
       all_goals
         cases pb with
         | false =>
           go_wp2
           go_ret
           exact ⟨rfl, CChOut.no (CtxTurns.refl HH.out HC8.out)⟩
         | true =>
           have HC9 := Lib.hid (HC8.out.setCell (p := ⟨(w.heap.size + 1), 2, none⟩) (.inr (by dsimp only; omega)) (.slice A3 pl.length c3))
           have HR9 := Lib.hid (HR8.out.keep (Off.cons HB8.out (by decide) (Off.nil _)) ((Chg.refl [(w.heap.size + 1)] w3).setCell (p := ⟨(w.heap.size + 1), 2, none⟩) (.inl (by simp)) (.slice A3 pl.length c3)))
           go_wp2
           go_still_tail 6, (by kernel_rfl)
           (try change wpStill _ _ (World.drew _) _ _ _)
           (repeat still_step)
           (try refine wpStill_nil ?_)
           (try change wpList _ _ _ _ _ (World.drew _))
           go_wp2_with (go_at_call 76; refine (HSET.out _ HC9.out.drew x.b x.p x.n A3 pl.length c3 pl (HR9.out.quiet ((Chg.refl _ _).drew))).mono ?_; rintro e w4 ⟨rfl, hT⟩; have HT := Lib.hid hT; clear hT)
           go_ret
           exact ⟨rfl, CChOut.yes HT.out⟩)
end Go.Proofs
end
section
namespace Go.Proofs
open Go.RowKit
set_option linter.unusedVariables false
def mayC (size most : Int) : Bool := decide (1 ≤ size) && decide (size ≤ 32) && decide (2 ≤ most) && decide (most ≤ 16)
theorem mayC_iff {size most : Int} : mayC size most = true ↔ 1 ≤ size ∧ size ≤ 32 ∧ 2 ≤ most ∧ most ≤ 16 := by unfold mayC; simp [and_assoc]
theorem May_any (w : World) (size most : Int) : Calls Tryz.prog 10 #[.int .i64 size, .int .i64 most] w fun e w' => e = .returned (.bool (mayC size most)) ∧ w = w' := by
  unfold mayC
  cases d1 : decide (1 ≤ size)
  · go_enter Tryz.func10, Tryz.ntmps10
    go_wp2
    go_ret
    exact ⟨rfl, rfl⟩
  · cases d2 : decide (size ≤ 32)
    · go_enter Tryz.func10, Tryz.ntmps10
      go_wp2
      go_ret
      exact ⟨rfl, rfl⟩
    · cases d3 : decide (2 ≤ most)
      · go_enter Tryz.func10, Tryz.ntmps10
        go_wp2
        go_ret
        exact ⟨rfl, rfl⟩
      · cases d4 : decide (most ≤ 16)
        all_goals
          go_enter Tryz.func10, Tryz.ntmps10
          go_wp2
          go_ret
          exact ⟨rfl, rfl⟩
theorem New_no (w : World) {size most : Int} (h : mayC size most = false) : Calls Tryz.prog 9 #[.int .i64 size, .int .i64 most] w fun e w' => e = .returned (.tuple #[.pointer none, .int .i64 2]) ∧ w = w' := by
  have h' : decide (size < 1) = true ∨ (decide (size < 1) = false ∧ decide (32 < size) = true) ∨ (decide (size < 1) = false ∧ decide (32 < size) = false ∧ decide (most < 2) = true) ∨ (decide (size < 1) = false ∧ decide (32 < size) = false ∧ decide (most < 2) = false ∧ decide (16 < most) = true) := by
    have := mt mayC_iff.2 (by rw [h]; simp)
    simp only [decide_eq_true_eq, decide_eq_false_iff_not]
    omega
  clear h
  rcases h' with d1 | ⟨d1, d2⟩ | ⟨d1, d2, d3⟩ | ⟨d1, d2, d3, d4⟩
  all_goals
    go_enter Tryz.func9, Tryz.ntmps9
    go_wp2
    go_ret2
    exact ⟨rfl, rfl⟩
/-- New contexts, of which none is there. -/
theorem New_yes (w : World) {size most : Int} (h : mayC size most = true) : Calls Tryz.prog 9 #[.int .i64 size, .int .i64 most] w fun e w' => ∃ c g, e = .returned (.tuple #[.pointer (some ⟨c, 0, none⟩), .int .i64 0]) ∧
    CtxAt w' c [g] ⟨size, 1, [], [], 0⟩ most ∧ w.heap.size ≤ c ∧ w.heap.size ≤ g ∧ Chg [] w w' := by
  obtain ⟨a, b, c, d⟩ := mayC_iff.1 h
  have hm : mayT size 1 = true := mayT_iff.2 ⟨a, by omega, by omega, by rw [topG_val]; omega⟩
  have hN := fun W => new_ok_C (w := W) size 1 hm
  have HN := Lib.hid hN
  have HWF := Lib.hid (Tab.WF.new (α := Cx) a (by omega : size ≤ 4096) (by omega : (1 : Int) ≤ 1) (by rw [topG_val]; omega))
  have d1 : decide (size < 1) = false := by simp; omega
  have d2 : decide (32 < size) = false := by simp; omega
  have d3 : decide (most < 2) = false := by simp; omega
  have d4 : decide (16 < most) = false := by simp; omega
  clear h a b c d hm hN
  go_enter Tryz.func9, Tryz.ntmps9
  go_wp2_with (go_at_call 33; refine (HN.out _).mono ?_; rintro e w1 ⟨rfl, hT, hc⟩; have HT := Lib.hid hT; have HC := Lib.hid hc; clear hT hc)
  go_ret2
  have hcc : Chg [] w1 (w1.alloc (.cells #[.pointer (some ⟨w.heap.size, 0, none⟩), .int .i64 most] 66)) := (Chg.refl _ _).alloc _
  exact ⟨_, _, rfl, ⟨_, Blk.new _ _ _, HT.out.quiet hcc, Good.nil _ _ _ _, HWF.out⟩, HC.out.size, Nat.le_refl _, HC.out.then hcc⟩
end Go.Proofs
end
section
namespace Go.Proofs
open Go.RowKit
set_option linter.unusedVariables false

/-! ### The code's contexts and the document's -/
/-- Two contexts that tell the same. -/
structure Alike (x y : Cx) : Prop where
  b : x.b = y.b
  p : x.p = y.p
  n : x.n = y.n
  l : x.l = y.l
theorem Alike.refl (x : Cx) : Alike x x := ⟨rfl, rfl, rfl, rfl⟩
structure Sim (t : Tab Cx) (r : RTab) : Prop where
  len : (r.L.length : Int) = t.size
  taken : ∀ (k : Nat) (s : Spot Cx), t.spots[k]? = some s → ∃ p, r.L[k]? = some p ∧ p.gen = s.gen ∧ p.there = s.there ∧ Alike s.thing p.x
  fresh : ∀ k : Nat, t.spots.length ≤ k → (k : Int) < t.size → r.L[k]? = some ⟨t.first, false, cx0, -1 - (k : Nat)⟩
  order : t.freed.Pairwise (fun a b => frAt r.L a < frAt r.L b)
  stamps : ∀ k ∈ t.freed, 1 ≤ frAt r.L k ∧ frAt r.L k ≤ r.times
  t0 : 0 ≤ r.times
theorem Sim.new (size : Nat) (most : Int) : Sim ⟨(size : Nat), 1, [], [], 0⟩ ⟨newL size, 0, most⟩ := by
  refine ⟨by simp [newL_len], by simp, ?_, by simp, by simp, by simp⟩
  intro k _ hk
  simp only at hk
  unfold newL
  rw [List.getElem?_map, List.getElem?_range (by omega)]
  rfl
/-- No generation has come to its end. -/
def Low (t : Tab Cx) : Prop := ∀ (k : Nat) (s : Spot Cx), t.spots[k]? = some s → s.gen < topG
section
variable {t : Tab Cx} {r : RTab}
theorem Sim.free_iff (h : Sim t r) (hw : t.WF) (hl : Low t) (k : Nat) (hk : k < r.L.length) : thAt r.L k = false ↔ k ∈ t.freed ∨ (t.spots.length ≤ k ∧ (k : Int) < t.size) := by
  have hlen := h.len
  unfold thAt
  rcases Nat.lt_or_ge k t.spots.length with hk' | hk'
  · obtain ⟨s, hs⟩ : ∃ s, t.spots[k]? = some s := ⟨_, List.getElem?_eq_getElem hk'⟩
    obtain ⟨p, hp, h1, h2, h3⟩ := h.taken k s hs
    rw [hp]
    simp only
    rw [h2]
    constructor
    · intro hf; exact .inl (hw.empties k s hs hf (hl k s hs))
    · rintro (hf | hf)
      · obtain ⟨s', hs', h5, _⟩ := hw.free k hf
        rw [hs] at hs'; cases hs'; exact h5
      · omega
  · rw [h.fresh k hk' (by omega)]
    simp only
    exact ⟨fun _ => .inr ⟨hk', by omega⟩, fun _ => trivial⟩
theorem Sim.full_iff (h : Sim t r) (hw : t.WF) (hl : Low t) : r.pick < 0 ↔ t.frees = 0 := by
  have hlen := h.len
  have hwl := hw.len
  have hb : t.frees = t.size - t.spots.length + t.freed.length := rfl
  have hbd := pickR_bd r.L r.L.length
  have hmx := pickR_max r.L r.L.length
  unfold RTab.pick
  constructor
  · intro hneg
    rcases hf : t.freed with _ | ⟨j, l⟩
    · by_cases hlt : (t.spots.length : Int) < t.size
      · have := (hmx t.spots.length (by omega) ((h.free_iff hw hl _ (by omega)).2 (.inr ⟨Nat.le_refl _, hlt⟩))).1
        omega
      · rw [hb, hf]; simp; omega
    · have hj : j < r.L.length := by have := hw.freed_lt j (by rw [hf]; simp); omega
      have := (hmx j hj ((h.free_iff hw hl j hj).2 (.inl (by rw [hf]; simp)))).1
      omega
  · intro h0
    refine Int.not_le.1 fun hge => ?_
    have hth := hbd.2.2 hge
    have hlt : (pickR r.L r.L.length).toNat < r.L.length := by omega
    rcases (h.free_iff hw hl _ hlt).1 hth with h1 | h1
    · have : 0 < t.freed.length := List.length_pos_of_mem h1
      omega
    · omega
theorem Sim.pick (h : Sim t r) (hw : t.WF) (hl : Low t) (hf : t.frees ≠ 0) : r.pick = (t.takeAt : Nat) := by
  have hlen := h.len
  have hwl := hw.len
  have hge : 0 ≤ r.pick := Int.not_lt.1 fun hn => hf ((h.full_iff hw hl).1 hn)
  have hb : t.frees = t.size - t.spots.length + t.freed.length := rfl
  have hbd := pickR_bd r.L r.L.length
  have hmx := pickR_max r.L r.L.length
  unfold RTab.pick at hge ⊢
  have hth := hbd.2.2 hge
  have hlt : (pickR r.L r.L.length).toNat < r.L.length := by omega
  have hm := (h.free_iff hw hl _ hlt).1 hth
  obtain ⟨P, hP⟩ := Int.eq_ofNat_of_zero_le hge
  rw [hP, Int.toNat_natCast] at hm
  have hmax : ∀ i, i < r.L.length → thAt r.L i = false → frAt r.L i ≤ frAt r.L P := fun i hi ht => by have := (hmx i hi ht).2; rw [hP, Int.toNat_natCast] at this; exact this
  rw [hP]
  rcases List.eq_nil_or_concat t.freed with hn | ⟨l, j, hj⟩
  · have e2 := (take_nil (z := cx0) hn).2
    have hlt2 : (t.spots.length : Int) < t.size := by rw [hb, hn] at hf; simp at hf; omega
    have hle := hmax t.spots.length (by omega) ((h.free_iff hw hl _ (by omega)).2 (.inr ⟨Nat.le_refl _, hlt2⟩))
    rcases hm with h1 | h1
    · rw [hn] at h1; cases h1
    · have q1 : frAt r.L P = -1 - ((P : Nat) : Int) := by unfold frAt; rw [h.fresh _ h1.1 h1.2]
      have q2 : frAt r.L t.spots.length = -1 - ((t.spots.length : Nat) : Int) := by unfold frAt; rw [h.fresh _ (Nat.le_refl _) hlt2]
      rw [q1, q2] at hle
      rw [e2]
      omega
  · rw [List.concat_eq_append] at hj
    have e2 := (take_cons (z := cx0) hj).2
    have hjm : j ∈ t.freed := by rw [hj]; simp
    have hjl : j < r.L.length := by have := hw.freed_lt j hjm; omega
    have hle := hmax j hjl ((h.free_iff hw hl j hjl).2 (.inl hjm))
    have hst := h.stamps j hjm
    rw [e2]
    rcases hm with h1 | h1
    · rw [hj, List.mem_append, List.mem_singleton] at h1
      rcases h1 with h1 | h1
      · have ho := h.order
        rw [hj, List.pairwise_append] at ho
        have := ho.2.2 _ h1 j (by simp)
        omega
      · rw [h1]
    · have q1 : frAt r.L P = -1 - ((P : Nat) : Int) := by unfold frAt; rw [h.fresh _ h1.1 h1.2]
      rw [q1] at hle
      omega
theorem Sim.gen_at (h : Sim t r) (hw : t.WF) (hf : t.frees ≠ 0) : r.genAt t.takeAt = t.genAt t.takeAt := by
  obtain ⟨s, hs, hth, hg, _, _, _, hge, hlt⟩ := hw.take_at (z := cx0) hf
  rw [← hge]
  unfold RTab.genAt
  rcases Nat.lt_or_ge t.takeAt t.spots.length with hk | hk
  · obtain ⟨s', hs'⟩ : ∃ s, t.spots[t.takeAt]? = some s := ⟨_, List.getElem?_eq_getElem hk⟩
    obtain ⟨p, hp, h1, h2, h3⟩ := h.taken _ s' hs'
    rw [hp]
    show p.gen = _
    rw [h1, hge]; unfold Tab.genAt; rw [hs']
  · rw [h.fresh _ hk hlt]
    show t.first = _
    rw [hge]; unfold Tab.genAt; rw [List.getElem?_eq_none hk]
theorem frAt_set_ne {L : List Pl} {i k : Nat} {p : Pl} (h : k ≠ i) : frAt (L.set i p) k = frAt L k := by
  unfold frAt; rw [List.getElem?_set_ne (fun e => h e.symm)]
theorem frAt_set_eq {L : List Pl} {i : Nat} {p : Pl} (h : i < L.length) : frAt (L.set i p) i = p.freed := by
  unfold frAt; rw [List.getElem?_set_self h]
theorem Sim.put (h : Sim t r) (hw : t.WF) (hl : Low t) (hf : t.frees ≠ 0) {x y : Cx} (hxy : Alike x y) : Sim (t.put cx0 x) (r.put y) := by
  have hpk := h.pick hw hl hf
  have hga := h.gen_at hw hf
  obtain ⟨s, hs, hth, hg, _, hnf, _, hge, hlt⟩ := hw.take_at (z := cx0) hf
  have hlen := h.len
  have hi : t.takeAt < r.L.length := by omega
  obtain ⟨p, hp⟩ : ∃ p, r.L[t.takeAt]? = some p := ⟨_, List.getElem?_eq_getElem hi⟩
  have hpg : p.gen = t.genAt t.takeAt := by rw [← hga]; unfold RTab.genAt; rw [hp]
  obtain ⟨p1, p2, p3⟩ := put_same (z := cx0) (t := t) x
  have er := rput_eq hpk hp y
  have hlen2 : t.spots.length ≤ (t.put cx0 x).spots.length ∧ t.takeAt < (t.put cx0 x).spots.length := by
    have key := put_spots (z := cx0) hw hf x
    refine ⟨?_, ?_⟩
    · refine Nat.le_of_not_lt fun hh => ?_
      have := key ((t.put cx0 x).spots.length)
      rw [List.getElem?_eq_none (Nat.le_refl _)] at this
      split at this
      · cases this
      · rw [List.getElem?_eq_getElem hh] at this; cases this
    · have := key t.takeAt
      rw [if_pos rfl] at this
      exact (List.getElem?_eq_some_iff.1 this).1
  rw [er]
  refine ⟨by rw [p1]; simpa using hlen, ?_, ?_, ?_, ?_, h.t0⟩
  · intro k s' hk
    rw [put_spots hw hf] at hk
    by_cases e : k = t.takeAt
    · rw [if_pos e] at hk
      cases hk
      subst e
      exact ⟨_, List.getElem?_set_self hi, hpg, rfl, hxy⟩
    · rw [if_neg e] at hk
      obtain ⟨p', hp', hh⟩ := h.taken k s' hk
      exact ⟨p', by show (r.L.set _ _)[k]? = _; rw [List.getElem?_set_ne (fun e' => e e'.symm)]; exact hp', hh⟩
  · intro k hk hk2
    rw [p1] at hk2
    rw [p2]
    have hne : k ≠ t.takeAt := by omega
    show (r.L.set _ _)[k]? = _
    rw [List.getElem?_set_ne (fun e' => hne e'.symm)]
    exact h.fresh k (by omega) hk2
  · have hsub : (t.put cx0 x).freed.Sublist t.freed := by
      rw [put_eq hw hf x]
      show ((t.take cx0).freed).Sublist _
      rcases List.eq_nil_or_concat t.freed with hn | ⟨l, j, hj⟩
      · rw [(take_nil (z := cx0) hn).1]; exact List.Sublist.refl _
      · rw [List.concat_eq_append] at hj
        rw [(take_cons (z := cx0) hj).1, hj]; exact List.sublist_append_left _ _
    refine (h.order.sublist hsub).imp_of_mem ?_
    intro a b ha hb hab
    have ha' := ((put_freed hw hf x a).1 ha).2
    have hb' := ((put_freed hw hf x b).1 hb).2
    rw [frAt_set_ne ha', frAt_set_ne hb']; exact hab
  · intro k hk
    obtain ⟨h1, h2⟩ := (put_freed hw hf x k).1 hk
    show 1 ≤ frAt (r.L.set _ _) k ∧ frAt (r.L.set _ _) k ≤ _
    rw [frAt_set_ne h2]; exact h.stamps k h1
theorem Sim.has (h : Sim t r) (hw : t.WF) (i q : Int) : r.is i q = t.has i q := by
  rw [Bool.eq_iff_iff, ris_iff, has_iff]
  constructor
  · rintro ⟨k, p, rfl, hp, ht, rfl⟩
    rcases Nat.lt_or_ge k t.spots.length with hk | hk
    · obtain ⟨s, hs⟩ : ∃ s, t.spots[k]? = some s := ⟨_, List.getElem?_eq_getElem hk⟩
      obtain ⟨p', hp', h1, h2, h3⟩ := h.taken k s hs
      rw [hp] at hp'; cases hp'
      exact ⟨s, live_nat.2 ⟨hs, by rw [← h2]; exact ht⟩, h1.symm⟩
    · have hl := h.len
      have := (List.getElem?_eq_some_iff.1 hp).1
      rw [h.fresh k hk (by omega)] at hp
      cases hp; cases ht
  · rintro ⟨s, hs, rfl⟩
    obtain ⟨j0, hj, hth⟩ := live_iff.1 hs
    obtain ⟨k, rfl⟩ := Int.eq_ofNat_of_zero_le j0
    simp only [Int.toNat_natCast] at hj
    obtain ⟨p, hp, h1, h2, h3⟩ := h.taken k s hj
    exact ⟨k, p, rfl, hp, by rw [h2]; exact hth, h1⟩
theorem Sim.at_ (h : Sim t r) (hw : t.WF) (i q : Int) : Alike (t.at_ i q) (r.at_ i q) := by
  cases hq : t.has i q with
  | false => rw [at_no hq, RTab.at_no (by rw [h.has hw]; exact hq)]; exact Alike.refl _
  | true =>
    obtain ⟨s, hl, he⟩ := has_iff.1 hq
    obtain ⟨j0, hj, hth⟩ := live_iff.1 hl
    obtain ⟨k, rfl⟩ := Int.eq_ofNat_of_zero_le j0
    simp only [Int.toNat_natCast] at hj
    obtain ⟨p, hp, h1, h2, h3⟩ := h.taken k s hj
    rw [at_yes hl he, RTab.at_yes (by rw [h.has hw]; exact hq) hp]
    exact h3
theorem Sim.thing (h : Sim t r) {i q : Int} (hq : t.has i q = true) {x y : Cx} (hxy : Alike x y) : Sim (t.thing i.toNat x) (r.thing i.toNat y) := by
  obtain ⟨s, hl, he⟩ := has_iff.1 hq
  obtain ⟨j0, hs, hth⟩ := live_iff.1 hl
  obtain ⟨p, hp, h1, h2, h3⟩ := h.taken i.toNat s hs
  have hi := (List.getElem?_eq_some_iff.1 hp).1
  have hi' := (List.getElem?_eq_some_iff.1 hs).1
  rw [show t.thing i.toNat x = { t with spots := t.spots.set i.toNat { s with thing := x } } by unfold Tab.thing; rw [hs], rthing_eq hp]
  have hfr : ∀ k, frAt (r.L.set i.toNat { p with x := y }) k = frAt r.L k := fun k => by
    by_cases e : k = i.toNat
    · subst e; rw [frAt_set_eq hi]; unfold frAt; rw [hp]
    · rw [frAt_set_ne e]
  refine ⟨by simpa using h.len, ?_, ?_, ?_, ?_, h.t0⟩
  · intro k s' hk
    by_cases e : k = i.toNat
    · subst e
      rw [List.getElem?_set_self hi'] at hk
      cases hk
      exact ⟨_, List.getElem?_set_self hi, h1, h2, hxy⟩
    · rw [List.getElem?_set_ne (fun e' => e e'.symm)] at hk
      obtain ⟨p', hp', hh⟩ := h.taken k s' hk
      exact ⟨p', by show (r.L.set _ _)[k]? = _; rw [List.getElem?_set_ne (fun e' => e e'.symm)]; exact hp', hh⟩
  · intro k hk hk2
    simp only [List.length_set] at hk
    show (r.L.set _ _)[k]? = _
    rw [List.getElem?_set_ne (by omega)]
    exact h.fresh k hk hk2
  · exact h.order.imp (fun hab => by rw [hfr, hfr]; exact hab)
  · intro k hk
    show 1 ≤ frAt (r.L.set _ _) k ∧ frAt (r.L.set _ _) k ≤ _
    rw [hfr]; exact h.stamps k hk
theorem Sim.drop (h : Sim t r) (hw : t.WF) {i q : Int} (hq : t.has i q = true) (hr : q + 1 < topG) : Sim (t.drop cx0 i.toNat q) (r.drop i.toNat q) := by
  obtain ⟨s, hl, rfl⟩ := has_iff.1 hq
  obtain ⟨j0, hs, hth⟩ := live_iff.1 hl
  obtain ⟨p, hp, h1, h2, h3⟩ := h.taken i.toNat s hs
  have hi := (List.getElem?_eq_some_iff.1 hp).1
  have hi' := (List.getElem?_eq_some_iff.1 hs).1
  have hnf : i.toNat ∉ t.freed := fun hm => by
    obtain ⟨s', h1, h2, _⟩ := hw.free _ hm
    rw [hs] at h1; cases h1; rw [hth] at h2; cases h2
  have ht0 := h.t0
  have hfd : (t.drop cx0 i.toNat s.gen).freed = t.freed ++ [i.toNat] := by rw [drop_freed, if_neg (by omega)]
  unfold RTab.drop
  refine ⟨by show ((r.L.set _ _).length : Int) = t.size; rw [List.length_set]; exact h.len, ?_, ?_, ?_, ?_, by show (0 : Int) ≤ r.times + 1; omega⟩
  · intro k s' hk
    rw [drop_spots hi'] at hk
    by_cases e : k = i.toNat
    · rw [if_pos e] at hk
      cases hk
      subst e
      exact ⟨_, List.getElem?_set_self hi, rfl, rfl, Alike.refl _⟩
    · rw [if_neg e] at hk
      obtain ⟨p', hp', hh⟩ := h.taken k s' hk
      exact ⟨p', by show (r.L.set _ _)[k]? = _; rw [List.getElem?_set_ne (fun e' => e e'.symm)]; exact hp', hh⟩
  · intro k hk hk2
    have hk' : t.spots.length ≤ k := by unfold Tab.drop at hk; simpa using hk
    show (r.L.set _ _)[k]? = _
    rw [List.getElem?_set_ne (by omega)]
    exact h.fresh k hk' hk2
  · rw [hfd]
    show List.Pairwise (fun a b => frAt (r.L.set _ _) a < frAt (r.L.set _ _) b) _
    rw [List.pairwise_append]
    refine ⟨h.order.imp_of_mem (fun {a b} ha hb hab => by rw [frAt_set_ne (fun e => hnf (by rw [← e]; exact ha)), frAt_set_ne (fun e => hnf (by rw [← e]; exact hb))]; exact hab), by simp, fun a ha b hb => ?_⟩
    simp at hb
    subst hb
    rw [frAt_set_ne (fun e => hnf (by rw [← e]; exact ha)), frAt_set_eq hi]
    have := (h.stamps a ha).2
    show frAt r.L a < r.times + 1
    omega
  · intro k hk
    rw [hfd, List.mem_append, List.mem_singleton] at hk
    show 1 ≤ frAt (r.L.set _ _) k ∧ frAt (r.L.set _ _) k ≤ r.times + 1
    rcases hk with hk | rfl
    · rw [frAt_set_ne (fun e => hnf (by rw [← e]; exact hk))]
      have := h.stamps k hk
      omega
    · rw [frAt_set_eq hi]
      show 1 ≤ r.times + 1 ∧ r.times + 1 ≤ r.times + 1
      omega
end
end Go.Proofs
end
