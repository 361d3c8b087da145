import Derived.Test.YtocdkomjdcccoaaCoO
namespace Go.Proofs
open Go.RowKit
set_option linter.unusedVariables false
set_option linter.unusedSimpArgs false
def splitE (t : Tab Cx) (i q am now : Int) : Int := if t.has i q then (if am == 0 || decide (1152921504606846976 < now) then 2 else if lackP (t.at_ i q) am now then 15 else if t.frees == 0 then 3 else 0) else 11
theorem split_refused {w : World} {c n m n1 n2 n3 n4 b1 b2 : Nat} {S : List Nat} {t : Tab Cx} {most i q am now : Int} (h : CtxAt w c S t most) (hcl : Clo w (cloGone n m) (!t.has i q)) (ha : Blk w b1 22 #[.int .u64 am]) (hn : Blk w b2 22 #[.int .u64 now])
    (hcl2 : Clo w (cloFour 48 n1 n2 n3 n4) (lackP (t.at_ i q) am now)) (o : Obj)
    (ho : o = .cells #[.int .i64 1, .func (.func 15) #[ptr c] #[], .int .i64 11, cloGone n m, .int .i64 2, .func (.func 28) #[] #[ptr b1, ptr b2], .int .i64 15, cloFour 48 n1 n2 n3 n4, .int .i64 3, .func (.func 18) #[ptr c] #[]] 55) :
    Calls Try.prog 14 #[.slice (some ⟨w.heap.size, 0, none⟩) 5 5] (w.alloc o) fun e w' => e = .returned (.int .i64 (splitE t i q am now)) ∧ Chg [] (w.alloc o) w' := by
  subst ho
  have hc := (Chg.refl [] w).alloc (.cells #[.int .i64 1, .func (.func 15) #[ptr c] #[], .int .i64 11, cloGone n m, .int .i64 2, .func (.func 28) #[] #[ptr b1, ptr b2], .int .i64 15, cloFour 48 n1 n2 n3 n4, .int .i64 3, .func (.func 18) #[ptr c] #[]] 55)
  have hE : splitE t i q am now = firstE [(1, .func (.func 15) #[ptr c] #[], false), (11, cloGone n m, !t.has i q), (2, .func (.func 28) #[] #[ptr b1, ptr b2], am == 0 || decide (1152921504606846976 < now)), (15, cloFour 48 n1 n2 n3 n4, lackP (t.at_ i q) am now), (3, .func (.func 18) #[ptr c] #[], t.frees == 0)] := by
    unfold splitE; cases t.has i q <;> simp [firstE]
  rw [hE]
  refine refused_any (Blk.new _ 55 _) rfl (by omega) (clos_all ?_)
  simp only [List.forall_mem_cons]
  exact ⟨clo_none (h.quiet hc), hcl.quiet hc, clo_split (ha.chg hc (by simp)) (hn.chg hc (by simp)), hcl2.quiet hc, clo_full (h.quiet hc), fun _ h => by cases h⟩
theorem CtxTurns.trans {a b d : World} {c : Nat} {S S1 : List Nat} {t2 : Tab Cx} {most : Int} (hs : ∀ k ∈ S1, k ∈ S ∨ a.heap.size ≤ k) (hc : Chg S a b) (h : CtxTurns c S1 t2 most b d) : CtxTurns c S t2 most a d := by
  obtain ⟨S2, h1, h2, h3⟩ := h
  refine ⟨S2, h1, fun k hk => ?_, hc.trans h3 hs⟩
  rcases h2 k hk with h | h
  · exact hs k h
  · exact .inr (Nat.le_trans hc.size h)
theorem splitE_0 {t : Tab Cx} {i q am now : Int} (h : splitE t i q am now = 0) : t.has i q = true ∧ am ≠ 0 ∧ (am ≤ thereP (t.at_ i q).l now ∧ am < (t.at_ i q).b) ∧ t.frees ≠ 0 := by
  unfold splitE at h
  cases hq : t.has i q with
  | false => rw [hq] at h; simp at h
  | true =>
    rw [hq] at h
    simp only [if_true] at h
    by_cases c1 : (am == 0 || decide (1152921504606846976 < now)) = true
    · rw [if_pos c1] at h; cases h
    · rw [if_neg c1] at h
      by_cases c2 : lackP (t.at_ i q) am now = true
      · rw [if_pos c2] at h; cases h
      · rw [if_neg c2] at h
        by_cases c3 : (t.frees == 0) = true
        · rw [if_pos c3] at h; cases h
        · refine ⟨rfl, ?_, ?_, ?_⟩
          · simp at c1; omega
          · unfold lackP at c2; simp at c2; omega
          · simpa using c3
theorem has_thing {t : Tab Cx} {i q : Int} (h : t.has i q = true) (x : Cx) : (t.thing i.toNat x).has i q = true ∧ (t.thing i.toNat x).at_ i q = x ∧ (t.thing i.toNat x).frees = t.frees ∧ (t.thing i.toNat x).takeAt = t.takeAt ∧ (t.thing i.toNat x).genAt (t.thing i.toNat x).takeAt = t.genAt t.takeAt := by
  obtain ⟨s, hl, he⟩ := has_iff.1 h
  obtain ⟨j0, hs, hth⟩ := live_iff.1 hl
  have hlt := (List.getElem?_eq_some_iff.1 hs).1
  have ht : t.thing i.toNat x = { t with spots := t.spots.set i.toNat { s with thing := x } } := by unfold Tab.thing; rw [hs]
  have hl' : (t.thing i.toNat x).live i = some { s with thing := x } := by
    rw [ht]; exact live_iff.2 ⟨j0, List.getElem?_set_self hlt, hth⟩
  have hk : (t.thing i.toNat x).takeAt = t.takeAt := by rw [ht]; unfold Tab.takeAt; simp
  refine ⟨has_iff.2 ⟨_, hl', he⟩, at_yes hl' he, by rw [ht]; unfold Tab.frees; simp, hk, ?_⟩
  rw [hk]
  unfold Tab.genAt
  rw [ht]
  by_cases e : t.takeAt = i.toNat
  · rw [e]; simp only; rw [List.getElem?_set_self hlt, hs]
  · simp only; rw [List.getElem?_set_ne (fun e' => e e'.symm)]
/-- Behind the pull: the table's Put. -/
theorem split_put {w w' : World} {c : Nat} {S : List Nat} {t : Tab Cx} {most i q : Int} {x : Cx} (hT : CtxTurns c S (t.thing i.toNat x) most w w') (i0 : -9223372036854775808 ≤ i) (i1 : i ≤ 9223372036854775807) (hq : t.has i q = true) (hf : t.frees ≠ 0) :
    ∃ g S1, Blk w' c 52 #[.pointer (some ⟨g, 0, none⟩), .int .i64 most] ∧ CtxAt w' c S1 (t.thing i.toNat x) most ∧ (∀ k ∈ S1, k ∈ S ∨ w.heap.size ≤ k) ∧ Chg S w w' ∧
      (∀ W, Chg [] w' W → Calls Try.prog 22 #[ptr c, .agg #[.int .i64 i, .int .u64 q]] W fun e v => e = .returned (.agg #[.int .u64 x.b, .int .u64 x.p, .slice x.a x.m x.c, .int .i64 x.n]) ∧ Chg [] W v) ∧
      (∀ W, Chg [] w' W → ∀ (b p n : Int) (a : Option Addr) (m cc : Nat) (l : List Rf), Rd W (.slice a m cc) l →
      Calls Try.prog 19 #[.pointer (some ⟨g, 0, none⟩), .agg #[.int .u64 b, .int .u64 p, .slice a m cc, .int .i64 n]] W fun e v => e = .returned (.tuple #[.agg #[.int .i64 (t.takeAt : Nat), .int .u64 (t.genAt t.takeAt)], .int .i64 0]) ∧ Chg S1 W v ∧ CtxTurns c S ((t.thing i.toNat x).put cx0 ⟨b, p, a, m, cc, n, l⟩) most w v) := by
  obtain ⟨S1, h1, h2, h3⟩ := hT
  obtain ⟨f1, f2, f3, f4, f5⟩ := has_thing hq x
  obtain ⟨g, hB, hput⟩ := put_ctx h1 (by rw [f3]; exact hf)
  refine ⟨g, S1, hB, h1, h2, h3, fun W hW => (by have := at_agg (h1.quiet hW) i q i0 i1; rw [f2] at this; exact this), fun W hW b p n a m cc l hl => ?_⟩
  refine (hput W hW b p n a m cc l hl).mono ?_
  rintro e v ⟨rfl, k1, k2⟩
  rw [f5, f4]
  exact ⟨rfl, k1, k2.trans h2 h3⟩
theorem split_boxes {w W w2 : World} {i q am now : Int} (hW : Chg [] ((((w.alloc (obRef i q)).alloc (obU am)).alloc (obU now)).alloc (obRef 0 0)) W) (hc : Chg [] W w2) :
    Blk w2 w.heap.size 30 #[.int .i64 i, .int .u64 q] ∧ Blk w2 (w.heap.size + 1) 22 #[.int .u64 am] ∧ Blk w2 (w.heap.size + 1 + 1) 22 #[.int .u64 now] ∧ Blk w2 (w.heap.size + 1 + 1 + 1) 30 #[.int .i64 0, .int .u64 0] ∧ Chg [] w w2 := by
  refine ⟨(((((Blk.new w 30 _).alloc _).alloc _).alloc _).chg hW (by simp)).chg hc (by simp), ((((Blk.at (w.alloc _) 22 _ (by simp)).alloc _).alloc _).chg hW (by simp)).chg hc (by simp), (((Blk.at ((w.alloc _).alloc _) 22 _ (by simp)).alloc _).chg hW (by simp)).chg hc (by simp), ((Blk.at (((w.alloc _).alloc _).alloc _) 30 _ (by simp)).chg hW (by simp)).chg hc (by simp), ?_⟩
  exact (((((Chg.refl [] w).alloc _).alloc _).alloc _).alloc _).then (hW.then hc)
set_option maxHeartbeats 3200000 in
set_option maxRecDepth 100000 in
theorem Split_no {w : World} {c : Nat} {S : List Nat} {t : Tab Cx} {most : Int} (h : CtxAt w c S t most) {i q am now : Int} (i0 : -9223372036854775808 ≤ i) (i1 : i ≤ 9223372036854775807) (hk : Ok (t.at_ i q).l) (hn : (t.at_ i q).l.length ≤ 100000) (he : (splitE t i q am now != 0) = true) :
    Calls Try.prog 9 #[ptr c, .agg #[.int .i64 i, .int .u64 q], .int .u64 am, .int .u64 now] w fun e w' => e = .returned (.tuple #[.agg #[.int .i64 0, .int .u64 0], .int .i64 (splitE t i q am now)]) ∧ Chg [] w w' := by
  have HG := Lib.hid (fun W (hW : Chg [] w W) => gone_any (h.quiet hW) i0 i1 (q := q))
  have HL := Lib.hid (fun W (hW : Chg [] w W) => lacks_any (h.quiet hW) i0 i1 (q := q) (am := am) (now := now) hk hn)
  have HR := Lib.hid (fun W (hW : Chg [] w W) n m n1 n2 n3 n4 b1 b2 => split_refused (h.quiet hW) (n := n) (m := m) (n1 := n1) (n2 := n2) (n3 := n3) (n4 := n4) (b1 := b1) (b2 := b2) (i := i) (q := q) (am := am) (now := now))
  obtain ⟨E, hE⟩ : ∃ E, E = splitE t i q am now := ⟨_, rfl⟩
  rw [← hE] at HR he ⊢
  clear h hE hk hn
  go_enter Try.func9, Try.ntmps9
  go_wp2
  refine wp_region_held_drew (S := fun w' => w'.cell? ⟨w.heap.size, 0, none⟩ = some (.int .i64 i) ∧ w'.cell? ⟨w.heap.size, 1, none⟩ = some (.int .u64 q) ∧ w'.cell? ⟨w.heap.size + 1, 0, none⟩ = some (.int .u64 am) ∧ w'.cell? ⟨w.heap.size + 1 + 1, 0, none⟩ = some (.int .u64 now)) (by kernel_rfl) ⟨by simp [go_sem], by simp [go_sem], by simp [go_sem], by simp [go_sem]⟩ (fun hHeld => ?_)
  simp only [List.setIfInBounds_toArray, List.size_toArray, List.length_cons, List.length_nil, Array.replicate]
  refine wpAnyH_take (i := 0) (v := ptr c) rfl (by kernel_rfl) (by kernel_rfl) (by kernel_rfl) (fun _ _ _ h => h) (Or.inl ⟨by rfl, fun w' hS => ?_⟩) hHeld ?_
  · obtain ⟨s0, s1, s2, s3⟩ := hS
    go_simp
  simp only [Act.put, List.setIfInBounds_toArray, List.set_cons_zero, List.set_cons_succ]
  refine wpAnyH_take (i := 1) (v := .func (.func 15) #[ptr c] #[]) rfl (by kernel_rfl) (by kernel_rfl) (by kernel_rfl) (fun _ _ _ h => h) (Or.inl ⟨by rfl, fun w' hS => ?_⟩) hHeld ?_
  · obtain ⟨s0, s1, s2, s3⟩ := hS
    go_simp
  simp only [Act.put, List.setIfInBounds_toArray, List.set_cons_zero, List.set_cons_succ]
  refine wpAnyH_take (i := 2) (v := .agg #[.int .i64 1, .func (.func 15) #[ptr c] #[]]) rfl (by kernel_rfl) (by kernel_rfl) (by kernel_rfl) (fun _ _ _ h => h) (Or.inl ⟨by rfl, fun w' hS => ?_⟩) hHeld ?_
  · obtain ⟨s0, s1, s2, s3⟩ := hS
    go_simp
  simp only [Act.put, List.setIfInBounds_toArray, List.set_cons_zero, List.set_cons_succ]
  refine wpAnyH_take (i := 3) (v := ptr c) rfl (by kernel_rfl) (by kernel_rfl) (by kernel_rfl) (fun _ _ _ h => h) (Or.inl ⟨by rfl, fun w' hS => ?_⟩) hHeld ?_
  · obtain ⟨s0, s1, s2, s3⟩ := hS
    go_simp
  simp only [Act.put, List.setIfInBounds_toArray, List.set_cons_zero, List.set_cons_succ]
  refine wpAnyH_take (i := 4) (v := .agg #[.int .i64 i, .int .u64 q]) rfl (by kernel_rfl) (by kernel_rfl) (by kernel_rfl) (fun _ _ _ h => h) (Or.inl ⟨by rfl, fun w' hS => ?_⟩) hHeld ?_
  · obtain ⟨s0, s1, s2, s3⟩ := hS
    go_simp
  simp only [Act.put, List.setIfInBounds_toArray, List.set_cons_zero, List.set_cons_succ]
  refine wpAnyH_take (i := 7) (v := .func (.func 28) #[] #[ptr (w.heap.size + 1), ptr (w.heap.size + 1 + 1)]) rfl (by kernel_rfl) (by kernel_rfl) (by kernel_rfl) (fun _ _ _ h => h) (Or.inl ⟨by rfl, fun w' hS => ?_⟩) hHeld ?_
  · obtain ⟨s0, s1, s2, s3⟩ := hS
    go_simp
  simp only [Act.put, List.setIfInBounds_toArray, List.set_cons_zero, List.set_cons_succ]
  refine wpAnyH_take (i := 8) (v := .agg #[.int .i64 2, .func (.func 28) #[] #[ptr (w.heap.size + 1), ptr (w.heap.size + 1 + 1)]]) rfl (by kernel_rfl) (by kernel_rfl) (by kernel_rfl) (fun _ _ _ h => h) (Or.inl ⟨by rfl, fun w' hS => ?_⟩) hHeld ?_
  · obtain ⟨s0, s1, s2, s3⟩ := hS
    go_simp
  simp only [Act.put, List.setIfInBounds_toArray, List.set_cons_zero, List.set_cons_succ]
  refine wpAnyH_take (i := 9) (v := ptr c) rfl (by kernel_rfl) (by kernel_rfl) (by kernel_rfl) (fun _ _ _ h => h) (Or.inl ⟨by rfl, fun w' hS => ?_⟩) hHeld ?_
  · obtain ⟨s0, s1, s2, s3⟩ := hS
    go_simp
  simp only [Act.put, List.setIfInBounds_toArray, List.set_cons_zero, List.set_cons_succ]
  refine wpAnyH_take (i := 10) (v := .agg #[.int .i64 i, .int .u64 q]) rfl (by kernel_rfl) (by kernel_rfl) (by kernel_rfl) (fun _ _ _ h => h) (Or.inl ⟨by rfl, fun w' hS => ?_⟩) hHeld ?_
  · obtain ⟨s0, s1, s2, s3⟩ := hS
    go_simp
  simp only [Act.put, List.setIfInBounds_toArray, List.set_cons_zero, List.set_cons_succ]
  refine wpAnyH_take (i := 11) (v := .int .u64 am) rfl (by kernel_rfl) (by kernel_rfl) (by kernel_rfl) (fun _ _ _ h => h) (Or.inl ⟨by rfl, fun w' hS => ?_⟩) hHeld ?_
  · obtain ⟨s0, s1, s2, s3⟩ := hS
    go_simp
  simp only [Act.put, List.setIfInBounds_toArray, List.set_cons_zero, List.set_cons_succ]
  refine wpAnyH_take (i := 12) (v := .int .u64 now) rfl (by kernel_rfl) (by kernel_rfl) (by kernel_rfl) (fun _ _ _ h => h) (Or.inl ⟨by rfl, fun w' hS => ?_⟩) hHeld ?_
  · obtain ⟨s0, s1, s2, s3⟩ := hS
    go_simp
  simp only [Act.put, List.setIfInBounds_toArray, List.set_cons_zero, List.set_cons_succ]
  refine wpAnyH_take (i := 15) (v := ptr c) rfl (by kernel_rfl) (by kernel_rfl) (by kernel_rfl) (fun _ _ _ h => h) (Or.inl ⟨by rfl, fun w' hS => ?_⟩) hHeld ?_
  · obtain ⟨s0, s1, s2, s3⟩ := hS
    go_simp
  simp only [Act.put, List.setIfInBounds_toArray, List.set_cons_zero, List.set_cons_succ]
  refine wpAnyH_take (i := 16) (v := .func (.func 18) #[ptr c] #[]) rfl (by kernel_rfl) (by kernel_rfl) (by kernel_rfl) (fun _ _ _ h => h) (Or.inl ⟨by rfl, fun w' hS => ?_⟩) hHeld ?_
  · obtain ⟨s0, s1, s2, s3⟩ := hS
    go_simp
  simp only [Act.put, List.setIfInBounds_toArray, List.set_cons_zero, List.set_cons_succ]
  refine wpAnyH_take (i := 17) (v := .agg #[.int .i64 3, .func (.func 18) #[ptr c] #[]]) rfl (by kernel_rfl) (by kernel_rfl) (by kernel_rfl) (fun _ _ _ h => h) (Or.inl ⟨by rfl, fun w' hS => ?_⟩) hHeld ?_
  · obtain ⟨s0, s1, s2, s3⟩ := hS
    go_simp
  simp only [Act.put, List.setIfInBounds_toArray, List.set_cons_zero, List.set_cons_succ]
  refine wpAnyH_ready (rs := [5]) (by kernel_rfl) (by simp) ?_
  refine AllReadyH.cons rfl (fun K hK => ?_) AllReadyH.nil
  go_simp
  refine (HG.out _ (((((Chg.refl _ _).alloc _).alloc _).alloc _).alloc _ |>.drew)).mono ?_
  rintro e w2 ⟨⟨n, m, rfl, hcl⟩, hc2⟩
  obtain ⟨B5, B6, B7, B8, HC⟩ := split_boxes (w := w) (i := i) (q := q) (am := am) (now := now) ((Chg.refl [] _).drew) hc2
  refine hK.out _ _ ⟨B5.cell 0, B5.cell 1, B6.cell 0, B7.cell 0⟩ (fun hHeld => ?_)
  clear hK K
  simp only [Act.put, List.setIfInBounds_toArray, List.set_cons_zero, List.set_cons_succ]
  refine wpAnyH_take (i := 6) (v := .agg #[.int .i64 11, .func (.func 47) #[] #[.pointer (some ⟨n, 0, none⟩), .pointer (some ⟨m, 0, none⟩)]]) rfl (by kernel_rfl) (by kernel_rfl) (by kernel_rfl) (fun _ _ _ h => h) (Or.inl ⟨by rfl, fun w' hS => ?_⟩) hHeld ?_
  · obtain ⟨s0, s1, s2, s3⟩ := hS
    go_simp
  simp only [Act.put, List.setIfInBounds_toArray, List.set_cons_zero, List.set_cons_succ]
  refine wpAnyH_ready (rs := [13]) (by kernel_rfl) (by simp) ?_
  refine AllReadyH.cons rfl (fun K hK => ?_) AllReadyH.nil
  go_simp
  refine (HL.out _ HC).mono ?_
  rintro e w3 ⟨⟨n1, n2, n3, n4, rfl, hcl2⟩, hc3⟩
  have hc23 := hc2.then hc3
  have hcl' := hcl.quiet hc3
  clear B5 B6 B7 B8 HC hHeld
  obtain ⟨B5, B6, B7, B8, HC⟩ := split_boxes (w := w) (i := i) (q := q) (am := am) (now := now) ((Chg.refl [] _).drew) hc23
  refine hK.out _ _ ⟨B5.cell 0, B5.cell 1, B6.cell 0, B7.cell 0⟩ (fun hHeld => ?_)
  clear hK K
  simp only [Act.put, List.setIfInBounds_toArray, List.set_cons_zero, List.set_cons_succ]
  refine wpAnyH_take (i := 14) (v := .agg #[.int .i64 15, .func (.func 48) #[] #[.pointer (some ⟨n1, 0, none⟩), .pointer (some ⟨n2, 0, none⟩), .pointer (some ⟨n3, 0, none⟩), .pointer (some ⟨n4, 0, none⟩)]]) rfl (by kernel_rfl) (by kernel_rfl) (by kernel_rfl) (fun _ _ _ h => h) (Or.inl ⟨by rfl, fun w' hS => ?_⟩) hHeld ?_
  · obtain ⟨s0, s1, s2, s3⟩ := hS
    go_simp
  simp only [Act.put, List.setIfInBounds_toArray, List.set_cons_zero, List.set_cons_succ]
  refine wpAnyH_ready (rs := [18]) (by kernel_rfl) (by simp) ?_
  refine AllReadyH.cons rfl (fun K hK => ?_) AllReadyH.nil
  go_simp

  refine hK.out _ _ ⟨(B5.alloc _).cell 0, (B5.alloc _).cell 1, (B6.alloc _).cell 0, (B7.alloc _).cell 0⟩ (fun hHeld => ?_)
  clear hK K
  simp only [Act.put, List.setIfInBounds_toArray, List.set_cons_zero, List.set_cons_succ]
  refine wpAnyH_ready (rs := [19]) (by kernel_rfl) (by simp) ?_
  refine AllReadyH.cons rfl (fun K hK => ?_) AllReadyH.nil
  go_simp
  refine (HR.out _ HC n m n1 n2 n3 n4 (w.heap.size + 1) (w.heap.size + 1 + 1) hcl' B6 B7 hcl2 _ rfl).mono ?_
  rintro e w4 ⟨rfl, hc4⟩
  have hc24 := (hc23.alloc _).then hc4
  clear B5 B6 B7 B8 HC hHeld
  obtain ⟨B5, B6, B7, B8, HC⟩ := split_boxes (w := w) (i := i) (q := q) (am := am) (now := now) ((Chg.refl [] _).drew) hc24
  refine hK.out _ _ ⟨B5.cell 0, B5.cell 1, B6.cell 0, B7.cell 0⟩ (fun hHeld => ?_)
  clear hK K
  simp only [Act.put, List.setIfInBounds_toArray, List.set_cons_zero, List.set_cons_succ]
  refine wpAnyH_take (i := 20) (v := .int .i64 E) rfl (by kernel_rfl) (by kernel_rfl) (by kernel_rfl) (fun _ _ _ h => h) (Or.inl ⟨by rfl, fun w' hS => ?_⟩) hHeld ?_
  · obtain ⟨s0, s1, s2, s3⟩ := hS
    go_simp
  simp only [Act.put, List.setIfInBounds_toArray, List.set_cons_zero, List.set_cons_succ]
  refine wpAnyH_done (by kernel_rfl) ?_ _
  have z0 := B8.cell 0
  have z1 := B8.cell 1
  have zf := B8.frozen
  have hz := B8.lt
  have HC9 := Lib.hid HC
  clear B5 B6 B7 B8 HC hHeld hc2 hc3 hc23 hc24 hc4 hcl hcl' hcl2
  go_wp2
  refine bodyPost_ret (v := .tuple #[.agg #[.int .i64 0, .int .u64 0], .int .i64 E]) ?_ rfl ⟨rfl, by repeat' (first | with_reducible exact HC9.out | with_reducible apply Chg.alloc | with_reducible apply Chg.setCell | (with_reducible refine Or.inr ?_; dsimp only; omega))⟩
  simp [results, Try.results9, go_sem, hz, z0, z1]
set_option maxHeartbeats 3200000 in
set_option maxRecDepth 100000 in
theorem Split_yes {w : World} {c : Nat} {S : List Nat} {t : Tab Cx} {most : Int} (h : CtxAt w c S t most) {i q am now : Int} (i0 : -9223372036854775808 ≤ i) (i1 : i ≤ 9223372036854775807) (hk : Ok (t.at_ i q).l) (hn : (t.at_ i q).l.length ≤ 100000) (he : splitE t i q am now = 0) (hm : U64 am) (b1 : (t.at_ i q).b < 18446744073709551616) :
    Calls Try.prog 9 #[ptr c, .agg #[.int .i64 i, .int .u64 q], .int .u64 am, .int .u64 now] w fun e w' => ∃ A m cc A2 c2, e = .returned (.tuple #[.agg #[.int .i64 (t.takeAt : Nat), .int .u64 (t.genAt t.takeAt)], .int .i64 0]) ∧
      CtxTurns c S ((t.thing i.toNat ⟨(t.at_ i q).b - am, (t.at_ i q).p, A, m, cc, (t.at_ i q).n, (pullP (t.at_ i q).l now am).1⟩).put cx0 ⟨am, (t.at_ i q).p, A2, 1, c2, 0, [(am, now)]⟩) most w w' := by
  obtain ⟨hq, ham, hlk, hfr⟩ := splitE_0 he
  have HG := Lib.hid (fun W (hW : Chg [] w W) => gone_any (h.quiet hW) i0 i1 (q := q))
  have HL := Lib.hid (fun W (hW : Chg [] w W) => lacks_any (h.quiet hW) i0 i1 (q := q) (am := am) (now := now) hk hn)
  have HR := Lib.hid (fun W (hW : Chg [] w W) n m n1 n2 n3 n4 b1 b2 => split_refused (h.quiet hW) (n := n) (m := m) (n1 := n1) (n2 := n2) (n3 := n3) (n4 := n4) (b1 := b1) (b2 := b2) (i := i) (q := q) (am := am) (now := now))
  rw [he] at HR
  have HPU := Lib.hid (fun W (hW : Chg [] w W) => pull_ctx (h.quiet hW) i0 i1 hq (am := am) (now := now) hk hn hm (by omega) (by have := hm.1; omega))
  have HX := Lib.hid h.box
  have HCS := Lib.hid h.cS
  have HPUT := Lib.hid (fun (W W' : World) (x : Cx) (hT : CtxTurns c S (t.thing i.toNat x) most W W') => split_put hT i0 i1 hq hfr)
  have hlc := h.lt c (by simp)
  have HF := Lib.hid (fun W => fresh_any W am (t.at_ i q).p now ham)
  obtain ⟨ti, hti⟩ : ∃ ti, ti = ((t.takeAt : Nat) : Int) := ⟨_, rfl⟩
  obtain ⟨tq, htq⟩ : ∃ tq, tq = t.genAt t.takeAt := ⟨_, rfl⟩
  rw [← hti, ← htq] at HPUT ⊢
  obtain ⟨per, hper⟩ : ∃ per, per = (t.at_ i q).p := ⟨_, rfl⟩
  clear h hk hn he hq ham hlk hfr hm b1 hti htq
  go_enter Try.func9, Try.ntmps9
  go_wp2
  refine wp_region_held_drew (S := fun w' => w'.cell? ⟨w.heap.size, 0, none⟩ = some (.int .i64 i) ∧ w'.cell? ⟨w.heap.size, 1, none⟩ = some (.int .u64 q) ∧ w'.cell? ⟨w.heap.size + 1, 0, none⟩ = some (.int .u64 am) ∧ w'.cell? ⟨w.heap.size + 1 + 1, 0, none⟩ = some (.int .u64 now)) (by kernel_rfl) ⟨by simp [go_sem], by simp [go_sem], by simp [go_sem], by simp [go_sem]⟩ (fun hHeld => ?_)
  simp only [List.setIfInBounds_toArray, List.size_toArray, List.length_cons, List.length_nil, Array.replicate]
  refine wpAnyH_take (i := 0) (v := ptr c) rfl (by kernel_rfl) (by kernel_rfl) (by kernel_rfl) (fun _ _ _ h => h) (Or.inl ⟨by rfl, fun w' hS => ?_⟩) hHeld ?_
  · obtain ⟨s0, s1, s2, s3⟩ := hS
    go_simp
  simp only [Act.put, List.setIfInBounds_toArray, List.set_cons_zero, List.set_cons_succ]
  refine wpAnyH_take (i := 1) (v := .func (.func 15) #[ptr c] #[]) rfl (by kernel_rfl) (by kernel_rfl) (by kernel_rfl) (fun _ _ _ h => h) (Or.inl ⟨by rfl, fun w' hS => ?_⟩) hHeld ?_
  · obtain ⟨s0, s1, s2, s3⟩ := hS
    go_simp
  simp only [Act.put, List.setIfInBounds_toArray, List.set_cons_zero, List.set_cons_succ]
  refine wpAnyH_take (i := 2) (v := .agg #[.int .i64 1, .func (.func 15) #[ptr c] #[]]) rfl (by kernel_rfl) (by kernel_rfl) (by kernel_rfl) (fun _ _ _ h => h) (Or.inl ⟨by rfl, fun w' hS => ?_⟩) hHeld ?_
  · obtain ⟨s0, s1, s2, s3⟩ := hS
    go_simp
  simp only [Act.put, List.setIfInBounds_toArray, List.set_cons_zero, List.set_cons_succ]
  refine wpAnyH_take (i := 3) (v := ptr c) rfl (by kernel_rfl) (by kernel_rfl) (by kernel_rfl) (fun _ _ _ h => h) (Or.inl ⟨by rfl, fun w' hS => ?_⟩) hHeld ?_
  · obtain ⟨s0, s1, s2, s3⟩ := hS
    go_simp
  simp only [Act.put, List.setIfInBounds_toArray, List.set_cons_zero, List.set_cons_succ]
  refine wpAnyH_take (i := 4) (v := .agg #[.int .i64 i, .int .u64 q]) rfl (by kernel_rfl) (by kernel_rfl) (by kernel_rfl) (fun _ _ _ h => h) (Or.inl ⟨by rfl, fun w' hS => ?_⟩) hHeld ?_
  · obtain ⟨s0, s1, s2, s3⟩ := hS
    go_simp
  simp only [Act.put, List.setIfInBounds_toArray, List.set_cons_zero, List.set_cons_succ]
  refine wpAnyH_take (i := 7) (v := .func (.func 28) #[] #[ptr (w.heap.size + 1), ptr (w.heap.size + 1 + 1)]) rfl (by kernel_rfl) (by kernel_rfl) (by kernel_rfl) (fun _ _ _ h => h) (Or.inl ⟨by rfl, fun w' hS => ?_⟩) hHeld ?_
  · obtain ⟨s0, s1, s2, s3⟩ := hS
    go_simp
  simp only [Act.put, List.setIfInBounds_toArray, List.set_cons_zero, List.set_cons_succ]
  refine wpAnyH_take (i := 8) (v := .agg #[.int .i64 2, .func (.func 28) #[] #[ptr (w.heap.size + 1), ptr (w.heap.size + 1 + 1)]]) rfl (by kernel_rfl) (by kernel_rfl) (by kernel_rfl) (fun _ _ _ h => h) (Or.inl ⟨by rfl, fun w' hS => ?_⟩) hHeld ?_
  · obtain ⟨s0, s1, s2, s3⟩ := hS
    go_simp
  simp only [Act.put, List.setIfInBounds_toArray, List.set_cons_zero, List.set_cons_succ]
  refine wpAnyH_take (i := 9) (v := ptr c) rfl (by kernel_rfl) (by kernel_rfl) (by kernel_rfl) (fun _ _ _ h => h) (Or.inl ⟨by rfl, fun w' hS => ?_⟩) hHeld ?_
  · obtain ⟨s0, s1, s2, s3⟩ := hS
    go_simp
  simp only [Act.put, List.setIfInBounds_toArray, List.set_cons_zero, List.set_cons_succ]
  refine wpAnyH_take (i := 10) (v := .agg #[.int .i64 i, .int .u64 q]) rfl (by kernel_rfl) (by kernel_rfl) (by kernel_rfl) (fun _ _ _ h => h) (Or.inl ⟨by rfl, fun w' hS => ?_⟩) hHeld ?_
  · obtain ⟨s0, s1, s2, s3⟩ := hS
    go_simp
  simp only [Act.put, List.setIfInBounds_toArray, List.set_cons_zero, List.set_cons_succ]
  refine wpAnyH_take (i := 11) (v := .int .u64 am) rfl (by kernel_rfl) (by kernel_rfl) (by kernel_rfl) (fun _ _ _ h => h) (Or.inl ⟨by rfl, fun w' hS => ?_⟩) hHeld ?_
  · obtain ⟨s0, s1, s2, s3⟩ := hS
    go_simp
  simp only [Act.put, List.setIfInBounds_toArray, List.set_cons_zero, List.set_cons_succ]
  refine wpAnyH_take (i := 12) (v := .int .u64 now) rfl (by kernel_rfl) (by kernel_rfl) (by kernel_rfl) (fun _ _ _ h => h) (Or.inl ⟨by rfl, fun w' hS => ?_⟩) hHeld ?_
  · obtain ⟨s0, s1, s2, s3⟩ := hS
    go_simp
  simp only [Act.put, List.setIfInBounds_toArray, List.set_cons_zero, List.set_cons_succ]
  refine wpAnyH_take (i := 15) (v := ptr c) rfl (by kernel_rfl) (by kernel_rfl) (by kernel_rfl) (fun _ _ _ h => h) (Or.inl ⟨by rfl, fun w' hS => ?_⟩) hHeld ?_
  · obtain ⟨s0, s1, s2, s3⟩ := hS
    go_simp
  simp only [Act.put, List.setIfInBounds_toArray, List.set_cons_zero, List.set_cons_succ]
  refine wpAnyH_take (i := 16) (v := .func (.func 18) #[ptr c] #[]) rfl (by kernel_rfl) (by kernel_rfl) (by kernel_rfl) (fun _ _ _ h => h) (Or.inl ⟨by rfl, fun w' hS => ?_⟩) hHeld ?_
  · obtain ⟨s0, s1, s2, s3⟩ := hS
    go_simp
  simp only [Act.put, List.setIfInBounds_toArray, List.set_cons_zero, List.set_cons_succ]
  refine wpAnyH_take (i := 17) (v := .agg #[.int .i64 3, .func (.func 18) #[ptr c] #[]]) rfl (by kernel_rfl) (by kernel_rfl) (by kernel_rfl) (fun _ _ _ h => h) (Or.inl ⟨by rfl, fun w' hS => ?_⟩) hHeld ?_
  · obtain ⟨s0, s1, s2, s3⟩ := hS
    go_simp
  simp only [Act.put, List.setIfInBounds_toArray, List.set_cons_zero, List.set_cons_succ]
  refine wpAnyH_ready (rs := [5]) (by kernel_rfl) (by simp) ?_
  refine AllReadyH.cons rfl (fun K hK => ?_) AllReadyH.nil
  go_simp
  refine (HG.out _ (((((Chg.refl _ _).alloc _).alloc _).alloc _).alloc _ |>.drew)).mono ?_
  rintro e w2 ⟨⟨n, m, rfl, hcl⟩, hc2⟩
  obtain ⟨B5, B6, B7, B8, HC⟩ := split_boxes (w := w) (i := i) (q := q) (am := am) (now := now) ((Chg.refl [] _).drew) hc2
  refine hK.out _ _ ⟨B5.cell 0, B5.cell 1, B6.cell 0, B7.cell 0⟩ (fun hHeld => ?_)
  clear hK K
  simp only [Act.put, List.setIfInBounds_toArray, List.set_cons_zero, List.set_cons_succ]
  refine wpAnyH_take (i := 6) (v := .agg #[.int .i64 11, .func (.func 47) #[] #[.pointer (some ⟨n, 0, none⟩), .pointer (some ⟨m, 0, none⟩)]]) rfl (by kernel_rfl) (by kernel_rfl) (by kernel_rfl) (fun _ _ _ h => h) (Or.inl ⟨by rfl, fun w' hS => ?_⟩) hHeld ?_
  · obtain ⟨s0, s1, s2, s3⟩ := hS
    go_simp
  simp only [Act.put, List.setIfInBounds_toArray, List.set_cons_zero, List.set_cons_succ]
  refine wpAnyH_ready (rs := [13]) (by kernel_rfl) (by simp) ?_
  refine AllReadyH.cons rfl (fun K hK => ?_) AllReadyH.nil
  go_simp
  refine (HL.out _ HC).mono ?_
  rintro e w3 ⟨⟨n1, n2, n3, n4, rfl, hcl2⟩, hc3⟩
  have hc23 := hc2.then hc3
  have hcl' := hcl.quiet hc3
  clear B5 B6 B7 B8 HC hHeld
  obtain ⟨B5, B6, B7, B8, HC⟩ := split_boxes (w := w) (i := i) (q := q) (am := am) (now := now) ((Chg.refl [] _).drew) hc23
  refine hK.out _ _ ⟨B5.cell 0, B5.cell 1, B6.cell 0, B7.cell 0⟩ (fun hHeld => ?_)
  clear hK K
  simp only [Act.put, List.setIfInBounds_toArray, List.set_cons_zero, List.set_cons_succ]
  refine wpAnyH_take (i := 14) (v := .agg #[.int .i64 15, .func (.func 48) #[] #[.pointer (some ⟨n1, 0, none⟩), .pointer (some ⟨n2, 0, none⟩), .pointer (some ⟨n3, 0, none⟩), .pointer (some ⟨n4, 0, none⟩)]]) rfl (by kernel_rfl) (by kernel_rfl) (by kernel_rfl) (fun _ _ _ h => h) (Or.inl ⟨by rfl, fun w' hS => ?_⟩) hHeld ?_
  · obtain ⟨s0, s1, s2, s3⟩ := hS
    go_simp
  simp only [Act.put, List.setIfInBounds_toArray, List.set_cons_zero, List.set_cons_succ]
  refine wpAnyH_ready (rs := [18]) (by kernel_rfl) (by simp) ?_
  refine AllReadyH.cons rfl (fun K hK => ?_) AllReadyH.nil
  go_simp

  refine hK.out _ _ ⟨(B5.alloc _).cell 0, (B5.alloc _).cell 1, (B6.alloc _).cell 0, (B7.alloc _).cell 0⟩ (fun hHeld => ?_)
  clear hK K
  simp only [Act.put, List.setIfInBounds_toArray, List.set_cons_zero, List.set_cons_succ]
  refine wpAnyH_ready (rs := [19]) (by kernel_rfl) (by simp) ?_
  refine AllReadyH.cons rfl (fun K hK => ?_) AllReadyH.nil
  go_simp
  refine (HR.out _ HC n m n1 n2 n3 n4 (w.heap.size + 1) (w.heap.size + 1 + 1) hcl' B6 B7 hcl2 _ rfl).mono ?_
  rintro e w4 ⟨rfl, hc4⟩
  have hc24 := (hc23.alloc _).then hc4
  clear B5 B6 B7 B8 HC hHeld
  obtain ⟨B5, B6, B7, B8, HC⟩ := split_boxes (w := w) (i := i) (q := q) (am := am) (now := now) ((Chg.refl [] _).drew) hc24
  refine hK.out _ _ ⟨B5.cell 0, B5.cell 1, B6.cell 0, B7.cell 0⟩ (fun hHeld => ?_)
  clear hK K
  simp only [Act.put, List.setIfInBounds_toArray, List.set_cons_zero, List.set_cons_succ]
  refine wpAnyH_take (i := 20) (v := .int .i64 0) rfl (by kernel_rfl) (by kernel_rfl) (by kernel_rfl) (fun _ _ _ h => h) (Or.inl ⟨by rfl, fun w' hS => ?_⟩) hHeld ?_
  · obtain ⟨s0, s1, s2, s3⟩ := hS
    go_simp
  simp only [Act.put, List.setIfInBounds_toArray, List.set_cons_zero, List.set_cons_succ]
  refine wpAnyH_done (by kernel_rfl) ?_ _
  have d0 := B5.cell 0
  have d1 := B5.cell 1
  have d2 := B6.cell 0
  have d3 := B7.cell 0
  have HB5 := Lib.hid B5
  have HB6 := Lib.hid B6
  have HB7 := Lib.hid B7
  have HB8 := Lib.hid B8
  have hlb := B8.lt
  have HC9 := Lib.hid HC
  clear B5 B6 B7 B8 HC hHeld hc2 hc3 hc23 hc24 hc4 hcl hcl' hcl2
  have hn1 : ¬ (w.heap.size + 1 + 1 + 1 = c) := by omega
  have hn2 : ¬ (w.heap.size + 1 + 1 + 1 = w.heap.size) := by omega
  have hn3 : ¬ (w.heap.size + 1 + 1 = w.heap.size) := by omega
  go_wp2_with (go_at_call 30; refine (HPU.out _ HC9.out).mono ?_; rintro e w5 ⟨rfl, A, m', cc, hT⟩; obtain ⟨g, S1, hB, hX5, hsub, hS5, hat, hput⟩ := HPUT.out _ _ _ hT; have HX1 := Lib.hid (fun k (hk : w.heap.size ≤ k) (hk4 : k < w4.heap.size) (hm : k ∈ S1) => ((hsub k hm).elim (HX.out k hk) (fun h => by omega))); have HCS1 := Lib.hid hX5.cS; have hz4 : w.heap.size + 1 + 1 + 1 < w5.heap.size := (by have := hS5.size; omega); have c0 := hB.cell 0; have HE5 := Lib.hid (HB5.out.chg hS5 (HX.out _ (by omega))); have HE6 := Lib.hid (HB6.out.chg hS5 (HX.out _ (by omega))); have HE7 := Lib.hid (HB7.out.chg hS5 (HX.out _ (by omega))); have HE8 := Lib.hid (HB8.out.chg hS5 (HX.out _ (by omega))); have HEC := Lib.hid hB; have r0 := HE5.out.cell 0; have r1 := HE5.out.cell 1; have r2 := HE6.out.cell 0; have r3 := HE7.out.cell 0; have HAT := Lib.hid hat; have HPT := Lib.hid hput; have HT5 := Lib.hid (hT.earlier HC9.out); clear hX5 hsub hS5 hat hput hB hT)
  have hfl := fldP ((t.at_ i q).b - am) (t.at_ i q).p (t.at_ i q).n A m' cc
  go_region_held3 (fun w' => w'.cell? ⟨c, 0, none⟩ = some (.pointer (some ⟨g, 0, none⟩)) ∧ w'.cell? ⟨w.heap.size, 0, none⟩ = some (.int .i64 i) ∧ w'.cell? ⟨w.heap.size, 1, none⟩ = some (.int .u64 q) ∧ w'.cell? ⟨w.heap.size + 1, 0, none⟩ = some (.int .u64 am) ∧ w'.cell? ⟨w.heap.size + 1 + 1, 0, none⟩ = some (.int .u64 now))
    (first | go_keep)
    (first
      | (go_at_call 22; refine (HAT.out _ ((Chg.refl _ _).drew)).mono ?_; rintro e w6 ⟨rfl, hc⟩; have HC6 := Lib.hid (((Chg.refl [] w5).drew).then hc); have k0 := (HEC.out.chg HC6.out (by simp)).cell 0; have k1 := (HE5.out.chg HC6.out (by simp)).cell 0; have k2 := (HE5.out.chg HC6.out (by simp)).cell 1; have k3 := (HE6.out.chg HC6.out (by simp)).cell 0; have k4 := (HE7.out.chg HC6.out (by simp)).cell 0; clear hc)
      | (go_at_call 20; refine (HF.out _).mono ?_; rintro e w7 ⟨A2, c2, rfl, hR, hc⟩; have HC7 := Lib.hid (HC6.out.then hc); have HR7 := Lib.hid hR; have l0 := (HEC.out.chg HC7.out (by simp)).cell 0; have l1 := (HE5.out.chg HC7.out (by simp)).cell 0; have l2 := (HE5.out.chg HC7.out (by simp)).cell 1; have l3 := (HE6.out.chg HC7.out (by simp)).cell 0; have l4 := (HE7.out.chg HC7.out (by simp)).cell 0; clear hc hR)
      | (go_at_call 19; refine (HPT.out _ HC7.out _ _ _ _ _ _ _ HR7.out).mono ?_; rintro e w8 ⟨rfl, hs, hT⟩; have HT := Lib.hid (hT.earlier HC9.out); have HB8' := Lib.hid ((HE8.out.chg HC7.out (by simp)).chg hs (HX1.out _ (by omega) (by omega))); have j0 := ((HEC.out.chg HC7.out (by simp)).chg hs HCS1.out).cell 0; have j1 := ((HE5.out.chg HC7.out (by simp)).chg hs (HX1.out _ (by omega) (by omega))).cell 0; have j2 := ((HE5.out.chg HC7.out (by simp)).chg hs (HX1.out _ (by omega) (by omega))).cell 1; have j3 := ((HE6.out.chg HC7.out (by simp)).chg hs (HX1.out _ (by omega) (by omega))).cell 0; have j4 := ((HE7.out.chg HC7.out (by simp)).chg hs (HX1.out _ (by omega) (by omega))).cell 0; have j5 := HB8'.out.cell 0; have j6 := HB8'.out.cell 1; have j7 := HB8'.out.frozen; clear hs hT))
  all_goals
    go_wp2
    refine bodyPost_ret (v := .tuple #[.agg #[.int .i64 ti, .int .u64 tq], .int .i64 0]) ?_ rfl ⟨A, m', cc, A2, c2, rfl, ?_⟩
    · simp [results, Try.results9, go_sem, j5, j6]
    · exact HT.out.box HB8'.out (by omega) (((Chg.refl _ _).setCell (p := ⟨w.heap.size + 1 + 1 + 1, 0, none⟩) (.inl (by simp)) _).setCell (p := ⟨w.heap.size + 1 + 1 + 1, 1, none⟩) (.inl (by simp)) _)
end Go.Proofs
