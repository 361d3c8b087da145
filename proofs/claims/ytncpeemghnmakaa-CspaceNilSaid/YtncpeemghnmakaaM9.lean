import Derived.Test.YtncpeemghnmakaaM8
import Derived.Laws.MakeOwn
section
namespace Go.Proofs
open Go.RowKit
set_option linter.unusedVariables false
set_option linter.unusedSimpArgs false

/-! ### The document's Derive and Move -/
def Rf.atO (r : Rf) (p : Pt) : Option On := r.L[r.fd p]?
def Rf.idAt (r : Rf) (p : Pt) : Nat := match r.atO p with | some x => x.id | none => 0
def Rf.deriveE (r : Rf) (p q : Pt) (c : Cp) : Int := if r.fullE p = 0 then r.putE (r.idAt p) q c else r.fullE p
def Rf.derive (r : Rf) (p q : Pt) (c : Cp) : Rf := if r.fullE p = 0 then r.put (r.idAt p) q c else r
theorem Rf.full0 {r : Rf} {p : Pt} (h : r.fullE p = 0) : r.slot p = true ∧ ∃ x, r.atO p = some x ∧ r.fI p = ((r.fd p : Nat) : Int) ∧ r.fd p < r.L.length ∧ atP p x = true := by
  unfold Rf.fullE at h
  cases hs : r.slot p with
  | false => rw [hs] at h; simp at h
  | true =>
    rw [hs] at h
    cases hh : r.has p with
    | false => rw [hh] at h; simp at h
    | true =>
      unfold Rf.has at hh
      have hlt := of_decide_eq_true hh
      obtain ⟨x, hx, hp⟩ := fnd_mem hlt
      exact ⟨rfl, x, hx, by unfold Rf.fI; rw [if_pos hlt], hlt, hp⟩
section
variable {w : World} {b : Nat} {S : List Nat} {r : Rf}
set_option maxHeartbeats 3200000 in
set_option maxRecDepth 100000 in
theorem rderive_ok (H : RefAt w b S r) (hl : r.L.length ≤ 10000) (hcm : r.came ≤ 1000000) (p q : Pt) {c : Cp} (hc : c.ok) (hrt : ∀ x ∈ r.L, x.cap.rts < 256) (hf : r.fullE p = 0) :
    Calls Try.prog 42 #[ptr b, .int .i64 p.g, .int .i64 p.s, .int .i64 q.g, .int .i64 q.s, c.val] w fun e w' => e = .returned (.int .i64 (r.putE (r.idAt p) q c)) ∧ RTurns b S (r.put (r.idAt p) q c) w w' := by
  have HW0 := Lib.hid ((Chg.refl [] w).alloc (.cells c.arr 39))
  have H1 := Lib.hid (fun W (hq : Chg [] w W) => full_is (H.quiet hq) (by omega) p)
  have H2 := Lib.hid (fun W (hq : Chg [] w W) => find_is (H.quiet hq) (by omega) p)
  obtain ⟨_, x, hx, hfi, hlt, _⟩ := Rf.full0 hf
  have hid : r.idAt p = x.id := by unfold Rf.idAt; rw [hx]
  rw [hf] at H1
  rw [hfi] at H2
  rw [hid]
  have HP := Lib.hid (fun W (hq : Chg [] w W) => rput_any (H.quiet hq) hl hcm x.id q hc hrt)
  obtain ⟨A, cc, hA, hcc, hh, hrow, _⟩ := H.head
  obtain ⟨g, rfl, hgb, hcell⟩ := hrow _ x hx
  obtain ⟨_, _, _, c3, _, lb, _, _⟩ := hh _ (HW0.out.drew)
  obtain ⟨lg, _, x0, _⟩ := hcell _ (HW0.out.drew)
  have hbx := (Blk.new w 39 c.arr).drew
  obtain ⟨N, hN⟩ : ∃ N, N = r.L.length := ⟨_, rfl⟩
  obtain ⟨k, hk⟩ : ∃ k, k = r.fd p := ⟨_, rfl⟩
  rw [← hN] at c3 hlt
  rw [← hk] at hlt H2 x0
  obtain ⟨z, hz⟩ : ∃ z, z = r.putE x.id q c := ⟨_, rfl⟩
  rw [← hz] at HP ⊢
  have k0 : (0 : Int) ≤ (k : Int) := by omega
  have k1 : (k : Int) < (N : Int) := by omega
  clear H hh hrow hcell hA hcc hN hk hz hid hfi hf hx hrt hc
  obtain ⟨ck, ci, cg, cr⟩ := c
  have y0 := hbx.cell 0
  have y1 := hbx.cell 1
  have y2 := hbx.cell 2
  have y3 := hbx.cell 3
  have lbx := hbx.lt
  simp only [List.getElem?_toArray, List.getElem?_cons_succ, List.getElem?_cons_zero] at y0 y1 y2 y3
  clear hbx
  go_enter Try.func42, Try.ntmps42
  go_wp2_with (go_at_call 43; refine (H1.out _ HW0.out).mono ?_; rintro e w1 ⟨rfl, rfl⟩)
  go_region_with (first
    | (go_at_call 27; refine (H2.out _ HW0.out.drew).mono ?_; rintro e w2 ⟨rfl, rfl⟩)
    | (go_at_call 41; refine (HP.out _ HW0.out.drew).mono ?_; rintro e w3 ⟨rfl, hT⟩; have HT := Lib.hid (hT.earlier HW0.out.drew); clear hT))
  all_goals
    go_wp2
    go_ret
    exact ⟨rfl, HT.out⟩
theorem rderive_any (H : RefAt w b S r) (hl : r.L.length ≤ 10000) (hcm : r.came ≤ 1000000) (p q : Pt) {c : Cp} (hc : c.ok) (hrt : ∀ x ∈ r.L, x.cap.rts < 256) :
    Calls Try.prog 42 #[ptr b, .int .i64 p.g, .int .i64 p.s, .int .i64 q.g, .int .i64 q.s, c.val] w fun e w' => e = .returned (.int .i64 (r.deriveE p q c)) ∧ RTurns b S (r.derive p q c) w w' := by
  unfold Rf.derive Rf.deriveE
  by_cases hf : r.fullE p = 0
  · rw [if_pos hf, if_pos hf]
    exact rderive_ok H hl hcm p q hc hrt hf
  · rw [if_neg hf, if_neg hf]
    have HW0 := Lib.hid ((Chg.refl [] w).alloc (.cells c.arr 39))
    have H1 := Lib.hid (fun W (hq : Chg [] w W) => full_is (H.quiet hq) (by omega) p)
    obtain ⟨z, hz⟩ : ∃ z, z = r.fullE p := ⟨_, rfl⟩
    rw [← hz] at H1 hf ⊢
    have hb : (z != 0) = true := by simpa using hf
    have HR := Lib.hid H
    obtain ⟨ck, ci, cg, cr⟩ := c
    clear H hl hcm hc hrt hf hz
    go_enter Try.func42, Try.ntmps42
    go_wp2_with (go_at_call 43; refine (H1.out _ HW0.out).mono ?_; rintro e w1 ⟨rfl, rfl⟩)
    go_ret
    exact ⟨rfl, RTurns.refl HR.out HW0.out⟩
/-! ### Move -/
def Rf.moveE (r : Rf) (p q : Pt) : Int := if r.fullE p = 0 then r.freeE q else r.fullE p
def Rf.mv (r : Rf) (p q : Pt) : Rf := { r with L := match r.atO p with | some x => r.L.set (r.fd p) { x with s := q.s } | none => r.L }
def Rf.move (r : Rf) (p q : Pt) : Rf := if r.moveE p q = 0 then r.mv p q else r
set_option maxHeartbeats 3200000 in
set_option maxRecDepth 100000 in
theorem rmove_ok (H : RefAt w b S r) (hl : r.L.length ≤ 10000) (p q : Pt) (hpq : q.g = p.g) (hf : r.fullE p = 0) (hq : r.freeE q = 0) :
    Calls Try.prog 45 #[ptr b, .int .i64 p.g, .int .i64 p.s, .int .i64 q.s] w fun e w' => e = .returned (.int .i64 0) ∧ RTurns b S (r.mv p q) w w' := by
  have H1 := full_is H (by omega) p
  have H3 := rfree_is H (by omega) q
  rw [hf] at H1
  rw [hq] at H3
  obtain ⟨qg, qs⟩ := q
  simp only at hpq
  subst hpq
  obtain ⟨_, x, hx, hfi, hlt, _⟩ := Rf.full0 hf
  have HMV := Lib.hid (show r.mv p ⟨p.g, qs⟩ = { r with L := r.L.set (r.fd p) { x with s := qs } } by unfold Rf.mv; rw [hx])
  have HX := Lib.hid hx
  obtain ⟨A, cc, hA, hcc, hh, hrow, hgb⟩ := H.head
  obtain ⟨g, rfl, hg, hcell⟩ := hrow _ x hx
  obtain ⟨_, _, _, c3, _, lb, fb, hRow⟩ := hh _ (Chg.refl _ _)
  have HROW := Lib.hid hRow
  have f3 := fb 3
  obtain ⟨N, hN⟩ : ∃ N, N = r.L.length := ⟨_, rfl⟩
  have HN := Lib.hid hN
  obtain ⟨k, hk⟩ : ∃ k, k = r.fd p := ⟨_, rfl⟩
  have HK := Lib.hid hk
  rw [← hN] at c3 hlt hl
  rw [← hk] at hlt
  have HREF := Lib.hid H
  have HFI := Lib.hid (hfi.trans (by rw [← hk]))
  clear H hh hrow hcell hA hcc hN hk hfi hf hx hq hRow fb
  go_enter Try.func45, Try.ntmps45
  go_wp2_with (first
    | (go_at_call 43; refine H1.mono ?_; rintro e w ⟨rfl, rfl⟩)
    | (go_at_call 44; refine H3.mono ?_; rintro e w ⟨rfl, rfl⟩)
    | (at_builtin; refine wpList_append_on _ (by rfl) _ _ (by rfl) (xs := []) (l := r.L) (n := N) (m := 0) (m' := N) (by rfl) (by rfl) (Row.nil _ _ _) (by rfl) (by rw [HN.out]; exact HROW.out) HN.out (by rw [← HN.out]; simp; omega) (by rw [← HN.out]; simp) ?_; intro A1 cc1 w3 hr3 hg3 hf3; have HC3 := Lib.hid ((Chg.refl [] _).grown hg3 (fun k hk => by cases hk)); have HR3 := Lib.hid hr3; have HF3 := Lib.hid hf3; have c3' := (HC3.out.cell (p := ⟨b, 3, none⟩) lb (by simp)).trans c3; have f3' := (HC3.out.frozen (p := ⟨b, 3, none⟩) lb (by simp)).trans f3; have lb3 := Nat.lt_of_lt_of_le lb HC3.out.size; clear hr3 hg3 hf3))
  have hrow3 : Row w3 66 8 (.slice A1 N cc1) N (onCells r.L) := by have h9 := HR3.out; rw [List.nil_append, ← HN.out] at h9; exact h9
  have hf3 : ∀ q ∈ foot (.slice A1 N cc1), w.heap.size ≤ q := fun q hq => by rcases HF3.out q hq with h | h; (cases h); exact h
  have hT3 : RTurns b S { r with L := r.L } w (w3.setCell ⟨b, 3, none⟩ (.slice A1 N cc1)) := HREF.out.relist HC3.out (by rw [← HN.out]; exact hrow3) hf3
  obtain ⟨g1, cap1, hv, _, _, hcell1, hfz1, hlg1⟩ := hrow3.form (by omega)
  injection hv with hA hh1 hh2
  subst hA hh2
  obtain ⟨S3, t1, t2, t3⟩ := hT3
  have hg1b : g1 ≠ b := fun e => by have := hf3 g1 (by simp [foot_some]); omega
  have hbn : ¬ (b = g1) := fun e => hg1b e.symm
  have HFD := Lib.hid (find_is (t1.quiet (Chg.refl _ _).drew) (by show r.L.length ≤ 100000; rw [← HN.out]; omega) p)
  have z0 := hcell1 _ _ (onCells_at r.L k x (by have h9 := HX.out; unfold Rf.atO at h9; rw [← HK.out] at h9; exact h9)).2.2.2.1
  have zf := hfz1 (k * 8 + 3)
  have k0 : (0 : Int) ≤ (k : Int) := by omega
  have k1 : (k : Int) < (N : Int) := by omega
  have HFIN := Lib.hid (show RTurns b S (r.mv p ⟨p.g, qs⟩) w ((w3.setCell ⟨b, 3, none⟩ (.slice (some ⟨g1, 0, none⟩) N cc1)).setCell ⟨g1, k * 8 + 3, none⟩ (.int .i64 qs)) from by
    rw [HMV.out]
    obtain ⟨V0, hB, hR0, hS⟩ := HREF.out
    have hbV : b ∉ foot (.slice (some ⟨g1, 0, none⟩) N cc1) := by simp [foot_some]; omega
    have hrw := (hrow3.far (p := ⟨b, 3, none⟩) hbV (.slice (some ⟨g1, 0, none⟩) N cc1)).set_ (j := k * 8 + 3) (by omega) (.int .i64 qs)
    have hx9 : r.L[k]? = some x := by have h9 := HX.out; unfold Rf.atO at h9; rw [← HK.out] at h9; exact h9
    rw [← on_set (d' := { x with s := qs }) hx9 rfl (by omega)] at hrw
    refine ⟨b :: foot (.slice (some ⟨g1, 0, none⟩) N cc1), ⟨_, ((hB.quiet HC3.out).set_ 3 _).far (p := ⟨g1, k * 8 + 3, none⟩) hbn _, ?_, rfl⟩, fun q hq => ?_, ?_⟩
    · show Row _ 66 8 _ (r.L.set (r.fd p) { x with s := qs }).length (onCells (r.L.set (r.fd p) { x with s := qs }))
      rw [List.length_set, ← HN.out, ← HK.out]
      exact hrw
    · rcases List.mem_cons.1 hq with rfl | hq
      · exact .inl (by rw [hS]; simp)
      · exact .inr (hf3 q hq)
    · exact ((Chg.any HC3.out).setCell (.inl (by rw [hS]; simp)) _).setCell (.inr (hf3 g1 (by simp [foot_some]))) _)
  have HFI2 := Lib.hid (show r.fI p = (k : Nat) from HFI.out)
  have HFD2 := Lib.hid (show Calls Try.prog 27 #[ptr b, .int .i64 p.g, .int .i64 p.s] (w3.setCell ⟨b, 3, none⟩ (.slice (some ⟨g1, 0, none⟩) N cc1)).drew fun e w' => e = .returned (.int .i64 (k : Nat)) ∧ w' = (w3.setCell ⟨b, 3, none⟩ (.slice (some ⟨g1, 0, none⟩) N cc1)).drew from HFD.out.mono fun e w' hh => ⟨by rw [hh.1]; show _ = Ending.returned (.int .i64 (k : Nat)); rw [show Rf.fI { r with L := r.L } p = r.fI p from rfl, HFI2.out], hh.2⟩)
  have lg3 : g1 < w3.heap.size := hlg1
  clear hrow3 hf3 t1 t2 t3 hcell1 hfz1 hg1b HFD hlg1
  go_region_with (go_at_call 27; refine HFD2.out.mono ?_; rintro e w4 ⟨rfl, rfl⟩)
  all_goals
    go_wp2
    go_ret
    exact ⟨rfl, HFIN.out.later (Chg.refl _ _).drew⟩
theorem rmove_any (H : RefAt w b S r) (hl : r.L.length ≤ 10000) (p q : Pt) (hpq : q.g = p.g) :
    Calls Try.prog 45 #[ptr b, .int .i64 p.g, .int .i64 p.s, .int .i64 q.s] w fun e w' => e = .returned (.int .i64 (r.moveE p q)) ∧ RTurns b S (r.move p q) w w' := by
  unfold Rf.move
  by_cases hz : r.moveE p q = 0
  · rw [if_pos hz, hz]
    unfold Rf.moveE at hz
    by_cases hf : r.fullE p = 0
    · rw [if_pos hf] at hz
      exact rmove_ok H hl p q hpq hf hz
    · rw [if_neg hf] at hz
      exact absurd hz hf
  · rw [if_neg hz]
    have HR := Lib.hid H
    have H1 := full_is H (by omega) p
    have H3 := rfree_is H (by omega) q
    obtain ⟨qg, qs⟩ := q
    simp only at hpq
    subst hpq
    unfold Rf.moveE at hz ⊢
    by_cases hf : r.fullE p = 0
    · rw [if_pos hf] at hz ⊢
      rw [hf] at H1
      obtain ⟨z, hzz⟩ : ∃ z, z = r.freeE ⟨p.g, qs⟩ := ⟨_, rfl⟩
      rw [← hzz] at H3 hz ⊢
      have hb : (z != 0) = true := by simpa using hz
      clear H hl hz hf hzz
      go_enter Try.func45, Try.ntmps45
      go_wp2_with (first
        | (go_at_call 43; refine H1.mono ?_; rintro e w ⟨rfl, rfl⟩)
        | (go_at_call 44; refine H3.mono ?_; rintro e w ⟨rfl, rfl⟩))
      go_ret
      exact ⟨rfl, RTurns.refl HR.out (Chg.refl _ _)⟩
    · rw [if_neg hf] at hz ⊢
      obtain ⟨z, hzz⟩ : ∃ z, z = r.fullE p := ⟨_, rfl⟩
      rw [← hzz] at H1 hz ⊢
      have hb : (z != 0) = true := by simpa using hz
      clear H hl hz hf hzz H3
      go_enter Try.func45, Try.ntmps45
      go_wp2_with (go_at_call 43; refine H1.mono ?_; rintro e w ⟨rfl, rfl⟩)
      go_ret
      exact ⟨rfl, RTurns.refl HR.out (Chg.refl _ _)⟩
end
end Go.Proofs
end
section
namespace Go.Proofs
open Go.RowKit
set_option linter.unusedVariables false
set_option linter.unusedSimpArgs false

/-! ### The document's Delete -/
def On.rep (x y : On) : On := if y.par = x.id then { y with par := x.par } else y
def delL (x : On) (L : List On) : List On := (L.map x.rep).filter fun y => decide (y.id ≠ x.id)
theorem delL_snoc (x : On) (L : List On) (y : On) : delL x (L ++ [y]) = delL x L ++ if y.id = x.id then [] else [x.rep y] := by
  unfold delL
  rw [List.map_append, List.filter_append]
  congr 1
  have hid : (x.rep y).id = y.id := by unfold On.rep; split <;> rfl
  by_cases e : y.id = x.id
  · rw [if_pos e]; simp [hid, e]
  · rw [if_neg e]; simp [hid, e]
theorem delL_len (x : On) (L : List On) : (delL x L).length ≤ L.length := by
  unfold delL
  exact Nat.le_trans (List.length_filter_le _ _) (by simp)
def Rf.del (r : Rf) (p : Pt) : Rf := match r.atO p with | some x => { r with L := delL x r.L } | none => r
section
variable {w : World} {b : Nat} {S : List Nat} {r : Rf}
set_option maxHeartbeats 6400000 in
set_option maxRecDepth 100000 in
theorem rdelete_ok (H : RefAt w b S r) (hl : r.L.length ≤ 10000) (p : Pt) (hf : r.fullE p = 0) :
    Calls Try.prog 46 #[ptr b, .int .i64 p.g, .int .i64 p.s] w fun e w' => e = .returned (.int .i64 0) ∧ RTurns b S (r.del p) w w' := by
  have H1 := full_is H (by omega) p
  rw [hf] at H1
  obtain ⟨_, x, hx, hfi, hlt, _⟩ := Rf.full0 hf
  have H2 := Lib.hid (fun W (hq : Chg [] w W) => find_is (H.quiet hq) (by omega) p)
  rw [hfi] at H2
  have HDEL := Lib.hid (show r.del p = { r with L := delL x r.L } by unfold Rf.del; rw [hx])
  obtain ⟨A, cc, hA, hcc, hh, hrow, hgb⟩ := H.head
  obtain ⟨g, rfl, hg, hcell⟩ := hrow _ x hx
  have hw0 := (Chg.refl [] w).drew
  obtain ⟨_, _, _, c3, _, lb, _, _⟩ := hh _ (Chg.refl _ _)
  obtain ⟨lg, _, x0, x1, x2, x3, x4, x5, x6, x7⟩ := hcell _ (Chg.refl _ _)
  have HH := Lib.hid (fun W (hc : Chg [] w W) => (⟨(hh W hc).2.2.2.1, (hh W hc).2.2.2.2.2.1, (hh W hc).2.2.2.2.2.2.1 3⟩ : W.cell? ⟨b, 3, none⟩ = some (.slice (some ⟨g, 0, none⟩) r.L.length cc) ∧ b < W.heap.size ∧ W.frozen? ⟨b, 3, none⟩ = false))
  have HROW := Lib.hid (fun k y (hy : r.L[k]? = some y) => hrow k y hy)
  obtain ⟨N, hN⟩ : ∃ N, N = r.L.length := ⟨_, rfl⟩
  have HN := Lib.hid hN
  obtain ⟨k0, hk0⟩ : ∃ k, k = r.fd p := ⟨_, rfl⟩
  rw [← hN] at c3 hlt hl HH
  rw [← hk0] at hlt H2 x0 x1 x2 x3 x4 x5 x6 x7
  have HREF := Lib.hid H
  have i0 : (0 : Int) ≤ (k0 : Int) := by omega
  have i1 : (k0 : Int) < (N : Int) := by omega
  obtain ⟨xi, xp, xg, xs, ⟨xk, xx, xe, xr⟩⟩ := x
  simp only at x0 x1 x2 x3 x4 x5 x6 x7
  clear H hh hrow hcell hA hcc hN hk0 hfi hf hx hgb hw0
  go_enter Try.func46, Try.ntmps46
  go_wp2_with (go_at_call 43; refine H1.mono ?_; rintro e w ⟨rfl, rfl⟩)
  go_region_held3 (fun w' => w'.cell? ⟨b, 3, none⟩ = some (.slice (some ⟨g, 0, none⟩) N cc) ∧ w'.cell? ⟨g, k0 * 8, none⟩ = some (.int .i64 (xi : Nat)) ∧ w'.cell? ⟨g, k0 * 8 + 1, none⟩ = some (.int .i64 (xp : Nat)) ∧ w'.cell? ⟨g, k0 * 8 + 2, none⟩ = some (.int .i64 xg) ∧ w'.cell? ⟨g, k0 * 8 + 3, none⟩ = some (.int .i64 xs) ∧ w'.cell? ⟨g, k0 * 8 + 4, none⟩ = some (.int .i64 xk) ∧ w'.cell? ⟨g, k0 * 8 + 5, none⟩ = some (.int .i64 xx) ∧ w'.cell? ⟨g, k0 * 8 + 6, none⟩ = some (.int .u64 xe) ∧ w'.cell? ⟨g, k0 * 8 + 7, none⟩ = some (.int .u8 (xr : Nat)))
    (first | go_keep)
    (first | (go_at_call 27; refine (H2.out _ ((Chg.refl _ _).alloc _).drew).mono ?_; rintro e w1 ⟨rfl, rfl⟩) | (go_at_call 27; refine (H2.out _ (Chg.refl _ _).drew).mono ?_; rintro e w1 ⟨rfl, rfl⟩))
  all_goals
    have HX0 := Lib.hid (show Blk (w.alloc (.cells #[.int .i64 (xi : Nat), .int .i64 (xp : Nat), .int .i64 xg, .int .i64 xs, .int .i64 xk, .int .i64 xx, .int .u64 xe, .int .u8 (xr : Nat)] 66)).drew w.heap.size 66 #[.int .i64 (xi : Nat), .int .i64 (xp : Nat), .int .i64 xg, .int .i64 xs, .int .i64 xk, .int .i64 xx, .int .u64 xe, .int .u8 (xr : Nat)] from (Blk.new w 66 _).drew)
    have HW0 := Lib.hid (show Chg [] w (w.alloc (.cells #[.int .i64 (xi : Nat), .int .i64 (xp : Nat), .int .i64 xg, .int .i64 xs, .int .i64 xk, .int .i64 xx, .int .u64 xe, .int .u8 (xr : Nat)] 66)).drew from ((Chg.refl _ _).alloc _).drew)
    obtain ⟨W0, hW0⟩ : ∃ W0, W0 = (w.alloc (.cells #[.int .i64 (xi : Nat), .int .i64 (xp : Nat), .int .i64 xg, .int .i64 xs, .int .i64 xk, .int .i64 xx, .int .u64 xe, .int .u8 (xr : Nat)] 66)).drew := ⟨_, rfl⟩
    rw [← hW0] at HX0 HW0 ⊢
    have HLW := Lib.hid (show W0.heap.size = w.heap.size + 1 by rw [hW0]; simp)
    clear hW0 c3 x0 x1 x2 x3 x4 x5 x6 x7 H1
    obtain ⟨x, hx⟩ : ∃ x : On, x = ⟨xi, xp, xg, xs, ⟨xk, xx, xe, xr⟩⟩ := ⟨_, rfl⟩
    have HXX := Lib.hid hx
    rw [← hx] at HDEL
    clear hx
    go_wp2
    go_loopg [9, 10] N (fun gh o i wr => ∃ (k : Nat) (A : Option Addr) (c1 : Nat), k + gh = N ∧ i = .int .i64 k ∧ o = .slice A (delL x (r.L.take k)).length c1 ∧ Hid (FreshO W0 wr (.slice A (delL x (r.L.take k)).length c1) (delL x (r.L.take k))))
    case atStart => exact ⟨0, none, 0, by omega, rfl, rfl, Lib.hid (FreshO.nil (Chg.refl _ _))⟩
    case round =>
      obtain ⟨k, A, c1, hk, rfl, rfl, HI⟩ := hrel
      obtain ⟨c3, lb, fb⟩ := HH.out wr (HW0.out.then HI.out.2.2)
      have hx0 := HX0.out.quiet HI.out.2.2
      have x0 := hx0.cell 0
      have x1 := hx0.cell 1
      have lx := hx0.lt
      simp only [List.getElem?_toArray, List.getElem?_cons_succ, List.getElem?_cons_zero] at x0 x1
      by_cases hlt : k < N
      · obtain ⟨y, hy⟩ : ∃ y, r.L[k]? = some y := ⟨_, List.getElem?_eq_getElem (by rw [← HN.out]; exact hlt)⟩
        obtain ⟨g2, hgg, hg2, hcell⟩ := HROW.out k y hy
        injection hgg with hgg
        injection hgg with hgg
        subst hgg
        obtain ⟨lg2, _, y0, y1, y2, y3, y4, y5, y6, y7⟩ := hcell wr (HW0.out.then HI.out.2.2)
        have HSN := Lib.hid (show delL x (r.L.take (k + 1)) = delL x (r.L.take k) ++ if y.id = x.id then [] else [x.rep y] by rw [List.take_add_one, hy]; exact delL_snoc _ _ _)
        have k0' : (0 : Int) ≤ (k : Int) := by omega
        have k1' : (k : Int) < (N : Int) := by omega
        have HC := Lib.hid HI.out.2.2
        have HI2 := Lib.hid HI.out
        obtain ⟨q, hq⟩ : ∃ q, q = (delL x (r.L.take k)).length := ⟨_, rfl⟩
        have hqN : q ≤ 10000 := by have := delL_len x (r.L.take k); have h2 := List.length_take_le k r.L; omega
        have HQ := Lib.hid hq
        have HROWA := Lib.hid (show Row wr 66 8 (.slice A q c1) q (onCells (delL x (r.L.take k))) by rw [hq]; exact HI.out.1)
        rw [← hq]
        have nl1 : ¬ (w.heap.size = wr.heap.size) := by omega
        obtain ⟨yi, yp, yg, ys, ⟨yk, yx, ye, yr⟩⟩ := y
        simp only at y0 y1 y2 y3 y4 y5 y6 y7
        have HYI := Lib.hid (show ∀ z : On, (x.rep z).id = z.id from fun z => by unfold On.rep; split <;> rfl)
        clear hcell hx0 hq HI hy fb
        by_cases e1 : yp = xi
        · have d1 : ((yp : Int) == (xi : Int)) = true := by simp [e1]
          have HREP := Lib.hid (show x.rep ⟨yi, yp, yg, ys, ⟨yk, yx, ye, yr⟩⟩ = ⟨yi, xp, yg, ys, ⟨yk, yx, ye, yr⟩⟩ by unfold On.rep; rw [HXX.out]; exact if_pos e1)
          by_cases e2 : yi = xi
          · have d2 : ((yi : Int) != (xi : Int)) = false := by simp [e2]
            have HS2 := Lib.hid (show delL x (r.L.take (k + 1)) = delL x (r.L.take k) by rw [HSN.out, if_pos (by rw [HXX.out]; exact e2)]; simp)
            clear e1 e2
            go_wp2
            go_roundg (N - k - 1)
            case measure => omega
            case rel => exact ⟨k + 1, A, c1, by omega, by go_num, by rw [HS2.out, ← HQ.out], Lib.hid (by rw [HS2.out]; exact HI2.out.later ((Chg.refl _ _).alloc _))⟩
          · have d2 : ((yi : Int) != (xi : Int)) = true := by simp; omega
            have HS2 := Lib.hid (show delL x (r.L.take (k + 1)) = delL x (r.L.take k) ++ [(⟨yi, xp, yg, ys, ⟨yk, yx, ye, yr⟩⟩ : On)] by rw [HSN.out, if_neg (by rw [HXX.out]; exact e2), HREP.out])
            have HBK := Lib.hid (show Blk ((wr.alloc (.cells #[.int .i64 (yi : Nat), .int .i64 (xp : Nat), .int .i64 yg, .int .i64 ys, .int .i64 yk, .int .i64 yx, .int .u64 ye, .int .u8 (yr : Nat)] 66)).alloc (.cells #[.int .i64 (yi : Nat), .int .i64 (xp : Nat), .int .i64 yg, .int .i64 ys, .int .i64 yk, .int .i64 yx, .int .u64 ye, .int .u8 (yr : Nat)] 66)) (wr.heap.size + 1) 66 #[.int .i64 (yi : Nat), .int .i64 (xp : Nat), .int .i64 yg, .int .i64 ys, .int .i64 yk, .int .i64 yx, .int .u64 ye, .int .u8 (yr : Nat)] from by have := Blk.new (wr.alloc (.cells #[.int .i64 (yi : Nat), .int .i64 (xp : Nat), .int .i64 yg, .int .i64 ys, .int .i64 yk, .int .i64 yx, .int .u64 ye, .int .u8 (yr : Nat)] 66)) 66 #[.int .i64 (yi : Nat), .int .i64 (xp : Nat), .int .i64 yg, .int .i64 ys, .int .i64 yk, .int .i64 yx, .int .u64 ye, .int .u8 (yr : Nat)]; simpa using this)
            clear e1 e2
            go_wp2_with (at_builtin; refine wpList_append_on _ (by rfl) _ _ (by rfl) (xs := delL x (r.L.take k)) (l := [(⟨yi, xp, yg, ys, ⟨yk, yx, ye, yr⟩⟩ : On)]) (n := q + 1) (m := q) (m' := 1) (by rfl) (by rfl) ((HROWA.out.alloc _).alloc _) HQ.out (Row.oneO' (x := (⟨yi, xp, yg, ys, ⟨yk, yx, ye, yr⟩⟩ : On)) HBK.out) rfl (by rw [← HQ.out]; simp; omega) (by rw [← HQ.out]; rfl) ?_; intro A2 c2 w3 hr3 hg3 hf3; have HR3 := Lib.hid hr3; have HG3 := Lib.hid hg3; have HF3 := Lib.hid hf3; clear hr3 hg3 hf3)
            go_roundg (N - k - 1)
            case measure => omega
            case rel =>
              refine ⟨k + 1, A2, c2, by omega, by go_num, by rw [HS2.out, List.length_append, ← HQ.out]; rfl, Lib.hid ?_⟩
              rw [HS2.out]
              have h1 : FreshO W0 ((wr.alloc (.cells #[.int .i64 (yi : Nat), .int .i64 (xp : Nat), .int .i64 yg, .int .i64 ys, .int .i64 yk, .int .i64 yx, .int .u64 ye, .int .u8 (yr : Nat)] 66)).alloc (.cells #[.int .i64 (yi : Nat), .int .i64 (xp : Nat), .int .i64 yg, .int .i64 ys, .int .i64 yk, .int .i64 yx, .int .u64 ye, .int .u8 (yr : Nat)] 66)) (.slice A q c1) (delL x (r.L.take k)) := by
                have := HI2.out.later (((Chg.refl [] wr).alloc (.cells #[.int .i64 (yi : Nat), .int .i64 (xp : Nat), .int .i64 yg, .int .i64 ys, .int .i64 yk, .int .i64 yx, .int .u64 ye, .int .u8 (yr : Nat)] 66)).alloc (.cells #[.int .i64 (yi : Nat), .int .i64 (xp : Nat), .int .i64 yg, .int .i64 ys, .int .i64 yk, .int .i64 yx, .int .u64 ye, .int .u8 (yr : Nat)] 66))
                rw [← HQ.out] at this
                exact this
              have h2 := h1.append (by exact HR3.out) HG3.out HF3.out
              rw [List.length_append, ← HQ.out]
              exact h2
        · have d1 : ((yp : Int) == (xi : Int)) = false := by simp; omega
          have HREP := Lib.hid (show x.rep ⟨yi, yp, yg, ys, ⟨yk, yx, ye, yr⟩⟩ = ⟨yi, yp, yg, ys, ⟨yk, yx, ye, yr⟩⟩ by unfold On.rep; rw [HXX.out]; exact if_neg e1)
          by_cases e2 : yi = xi
          · have d2 : ((yi : Int) != (xi : Int)) = false := by simp [e2]
            have HS2 := Lib.hid (show delL x (r.L.take (k + 1)) = delL x (r.L.take k) by rw [HSN.out, if_pos (by rw [HXX.out]; exact e2)]; simp)
            clear e1 e2
            go_wp2
            go_roundg (N - k - 1)
            case measure => omega
            case rel => exact ⟨k + 1, A, c1, by omega, by go_num, by rw [HS2.out, ← HQ.out], Lib.hid (by rw [HS2.out]; exact HI2.out.later ((Chg.refl _ _).alloc _))⟩
          · have d2 : ((yi : Int) != (xi : Int)) = true := by simp; omega
            have HS2 := Lib.hid (show delL x (r.L.take (k + 1)) = delL x (r.L.take k) ++ [(⟨yi, yp, yg, ys, ⟨yk, yx, ye, yr⟩⟩ : On)] by rw [HSN.out, if_neg (by rw [HXX.out]; exact e2), HREP.out])
            have HBK := Lib.hid (show Blk ((wr.alloc (.cells #[.int .i64 (yi : Nat), .int .i64 (yp : Nat), .int .i64 yg, .int .i64 ys, .int .i64 yk, .int .i64 yx, .int .u64 ye, .int .u8 (yr : Nat)] 66)).alloc (.cells #[.int .i64 (yi : Nat), .int .i64 (yp : Nat), .int .i64 yg, .int .i64 ys, .int .i64 yk, .int .i64 yx, .int .u64 ye, .int .u8 (yr : Nat)] 66)) (wr.heap.size + 1) 66 #[.int .i64 (yi : Nat), .int .i64 (yp : Nat), .int .i64 yg, .int .i64 ys, .int .i64 yk, .int .i64 yx, .int .u64 ye, .int .u8 (yr : Nat)] from by have := Blk.new (wr.alloc (.cells #[.int .i64 (yi : Nat), .int .i64 (yp : Nat), .int .i64 yg, .int .i64 ys, .int .i64 yk, .int .i64 yx, .int .u64 ye, .int .u8 (yr : Nat)] 66)) 66 #[.int .i64 (yi : Nat), .int .i64 (yp : Nat), .int .i64 yg, .int .i64 ys, .int .i64 yk, .int .i64 yx, .int .u64 ye, .int .u8 (yr : Nat)]; simpa using this)
            clear e1 e2
            go_wp2_with (at_builtin; refine wpList_append_on _ (by rfl) _ _ (by rfl) (xs := delL x (r.L.take k)) (l := [(⟨yi, yp, yg, ys, ⟨yk, yx, ye, yr⟩⟩ : On)]) (n := q + 1) (m := q) (m' := 1) (by rfl) (by rfl) ((HROWA.out.alloc _).alloc _) HQ.out (Row.oneO' (x := (⟨yi, yp, yg, ys, ⟨yk, yx, ye, yr⟩⟩ : On)) HBK.out) rfl (by rw [← HQ.out]; simp; omega) (by rw [← HQ.out]; rfl) ?_; intro A2 c2 w3 hr3 hg3 hf3; have HR3 := Lib.hid hr3; have HG3 := Lib.hid hg3; have HF3 := Lib.hid hf3; clear hr3 hg3 hf3)
            go_roundg (N - k - 1)
            case measure => omega
            case rel =>
              refine ⟨k + 1, A2, c2, by omega, by go_num, by rw [HS2.out, List.length_append, ← HQ.out]; rfl, Lib.hid ?_⟩
              rw [HS2.out]
              have h1 : FreshO W0 ((wr.alloc (.cells #[.int .i64 (yi : Nat), .int .i64 (yp : Nat), .int .i64 yg, .int .i64 ys, .int .i64 yk, .int .i64 yx, .int .u64 ye, .int .u8 (yr : Nat)] 66)).alloc (.cells #[.int .i64 (yi : Nat), .int .i64 (yp : Nat), .int .i64 yg, .int .i64 ys, .int .i64 yk, .int .i64 yx, .int .u64 ye, .int .u8 (yr : Nat)] 66)) (.slice A q c1) (delL x (r.L.take k)) := by
                have := HI2.out.later (((Chg.refl [] wr).alloc (.cells #[.int .i64 (yi : Nat), .int .i64 (yp : Nat), .int .i64 yg, .int .i64 ys, .int .i64 yk, .int .i64 yx, .int .u64 ye, .int .u8 (yr : Nat)] 66)).alloc (.cells #[.int .i64 (yi : Nat), .int .i64 (yp : Nat), .int .i64 yg, .int .i64 ys, .int .i64 yk, .int .i64 yx, .int .u64 ye, .int .u8 (yr : Nat)] 66))
                rw [← HQ.out] at this
                exact this
              have h2 := h1.append (by exact HR3.out) HG3.out HF3.out
              rw [List.length_append, ← HQ.out]
              exact h2
      · obtain rfl : k = N := by omega
        have HTK := Lib.hid (show r.L.take k = r.L by rw [HN.out]; exact List.take_length)
        have hfr := HI.out
        rw [HTK.out] at hfr
        obtain ⟨q, hq⟩ : ∃ q, q = (delL x (r.L.take k)).length := ⟨_, rfl⟩
        have hq2 : q = (delL x r.L).length := by rw [hq, HTK.out]
        have hc : Chg [] w wr := HW0.out.then hfr.2.2
        have HT := Lib.hid (show RTurns b S (r.del p) w (wr.setCell ⟨b, 3, none⟩ (.slice A q c1)) from by
          rw [HDEL.out, hq2]
          exact HREF.out.relist hc hfr.1 (fun z hz => by have := hfr.2.1 z hz; have := HLW.out; omega))
        have f3 := fb
        rw [← hq]
        clear hq hq2 hfr hc hx0 HI
        go_wp2
        go_ret
        exact ⟨rfl, HT.out⟩
theorem rdelete_any (H : RefAt w b S r) (hl : r.L.length ≤ 10000) (p : Pt) :
    Calls Try.prog 46 #[ptr b, .int .i64 p.g, .int .i64 p.s] w fun e w' => e = .returned (.int .i64 (r.fullE p)) ∧ RTurns b S (if r.fullE p = 0 then r.del p else r) w w' := by
  by_cases hf : r.fullE p = 0
  · rw [if_pos hf, hf]
    exact rdelete_ok H hl p hf
  · rw [if_neg hf]
    have HR := Lib.hid H
    have H1 := full_is H (by omega) p
    obtain ⟨z, hz⟩ : ∃ z, z = r.fullE p := ⟨_, rfl⟩
    rw [← hz] at H1 hf ⊢
    have hb : (z != 0) = true := by simpa using hf
    clear H hl hf hz
    go_enter Try.func46, Try.ntmps46
    go_wp2_with (go_at_call 43; refine H1.mono ?_; rintro e w ⟨rfl, rfl⟩)
    go_ret
    exact ⟨rfl, RTurns.refl HR.out (Chg.refl _ _)⟩
end
end Go.Proofs
end
section
namespace Go.Proofs
open Go.RowKit
set_option linter.unusedVariables false
set_option linter.unusedSimpArgs false

/-! ### The document's Above -/
/-- Those above one, from its parent on. -/
inductive Ab (L : List On) : On → List On → Prop where
  | nil {x : On} : x.par = 0 → Ab L x []
  | cons {x y : On} {l : List On} {k : Nat} : x.par ≠ 0 → (∀ j z, j < k → L[j]? = some z → z.id ≠ x.par) → L[k]? = some y → y.id = x.par → Ab L y l → Ab L x (y :: l)
section
variable {w : World} {b : Nat} {S : List Nat} {r : Rf}
set_option maxHeartbeats 6400000 in
set_option maxRecDepth 100000 in
theorem above_any (H : RefAt w b S r) (hl : r.L.length ≤ 10000) (id : Nat) {x : On} {l : List On} (ha : Ab r.L x l) (hll : l.length ≤ r.L.length) {a : Bool} (hx : a = true ↔ id ∈ l.map On.id) :
    Calls Try.prog 65 #[ptr b, .int .i64 (id : Nat), x.val] w fun e w' => e = .returned (.bool a) ∧ Chg [] w w' := by
  obtain ⟨A, cc, hA, hcc, hh, hrow, hgb⟩ := H.head
  have HH := Lib.hid (fun W (hc : Chg [] w W) => (⟨(hh W hc).2.2.2.1, (hh W hc).2.2.2.2.2.1⟩ : W.cell? ⟨b, 3, none⟩ = some (.slice A r.L.length cc) ∧ b < W.heap.size))
  have HROW := Lib.hid hrow
  obtain ⟨N, hN⟩ : ∃ N, N = r.L.length := ⟨_, rfl⟩
  have HN := Lib.hid hN
  rw [← hN] at HH hl hll
  have HL := Lib.hid (show ∀ z ∈ r.L, z = z from fun _ _ => rfl)
  have lb0 := H.lt b H.mem
  have HB0 := Lib.hid (show ∀ g, A = some ⟨g, 0, none⟩ → g ≠ w.heap.size from fun g hg => by
    intro e
    obtain ⟨V, hB, hR, _⟩ := H
    have h3 := hB.cell 3
    obtain ⟨c3, _⟩ := HH.out w (Chg.refl _ _)
    simp only [List.getElem?_toArray, List.getElem?_cons_succ, List.getElem?_cons_zero] at h3
    rw [c3] at h3
    injection h3 with h3
    have := hR.lt g (by rw [← h3, hg]; simp [foot_some])
    omega)
  have HX := Lib.hid hx
  have HAB := Lib.hid ha
  clear H hh hrow hN hA hcc hgb hx ha
  obtain ⟨x0, hx0⟩ : ∃ x0, x0 = x := ⟨_, rfl⟩
  obtain ⟨xi, xp, xg, xs, ⟨xk, xx, xe, xr⟩⟩ := x
  go_enter Try.func65, Try.ntmps65
  go_wp2
  go_loopg [7] l.length (fun gh i wr => ∃ (pre l' : List On) (x' : On), l'.length = gh ∧ i = .int .i64 (pre.length : Nat) ∧ Hid (l = pre ++ l' ∧ Ab r.L x' l' ∧ id ∉ pre.map On.id ∧ Blk wr w.heap.size 66 x'.arr ∧ Chg [] w wr))
  case atStart => exact ⟨[], l, ⟨xi, xp, xg, xs, ⟨xk, xx, xe, xr⟩⟩, rfl, rfl, Lib.hid ⟨rfl, HAB.out, by simp, Blk.new w 66 _, (Chg.refl _ _).alloc _⟩⟩
  case round =>
    obtain ⟨pre, l', x', hgh, rfl, HI⟩ := hrel
    obtain ⟨h1, h2, h3, h4, h5⟩ := HI.out
    obtain ⟨c3, lb⟩ := HH.out wr h5
    have hpl : pre.length + l'.length = l.length := by rw [h1]; simp
    have x1 := h4.cell 1
    have lx := h4.lt
    simp only [List.getElem?_toArray, List.getElem?_cons_succ, List.getElem?_cons_zero] at x1
    have d0 : decide ((pre.length : Int) ≤ (N : Int)) = true := decide_eq_true (by omega)
    obtain ⟨P, hP⟩ : ∃ P, P = pre.length := ⟨_, rfl⟩
    rw [← hP] at d0 ⊢
    have HP := Lib.hid hP
    have HI2 := Lib.hid (And.intro h1 (And.intro h3 (And.intro h4 h5)))
    have hPN : P ≤ N := by omega
    clear HI
    cases h2 with
    | nil hp =>
      have d1 : ((x'.par : Int) != 0) = false := by rw [hp]; rfl
      have HA := Lib.hid (show a = false from by
        cases a with
        | false => rfl
        | true =>
          have := HX.out.1 rfl
          rw [h1] at this
          simp at this
          exact absurd (by simpa using this) h3)
      clear h1 h3 h4 hp hpl hP
      go_wp2
      go_ret
      exact ⟨by rw [HA.out]; rfl, h5⟩
    | @cons _ y l2 k hp hk hy hyi hab =>
      have d1 : ((x'.par : Int) != 0) = true := by simp; omega
      by_cases e1 : x'.par = id
      · have d2 : ((x'.par : Int) == (id : Int)) = true := by simp [e1]
        have HA := Lib.hid (show a = true from HX.out.2 (by rw [h1]; simp; right; left; omega))
        clear h1 h3 h4 hp hpl hP e1
        go_wp2
        go_ret
        exact ⟨by rw [HA.out]; rfl, h5⟩
      · have d2 : ((x'.par : Int) == (id : Int)) = false := by simp; omega
        have hkN : k < N := by rw [HN.out]; exact (List.getElem?_eq_some_iff.1 hy).1
        have HNXT := Lib.hid (show l = (pre ++ [y]) ++ l2 ∧ Ab r.L y l2 ∧ id ∉ (pre ++ [y]).map On.id ∧ l2.length + 1 = gk from ⟨by rw [h1]; simp, hab, by simp at h3 ⊢; exact ⟨h3, by omega⟩, by simpa using hgh⟩)
        have HK := Lib.hid (And.intro hk (And.intro hy hyi))
        have HW := Lib.hid h5
        have HBX := Lib.hid h4
        clear h1 h3 h4 h5 hp hpl hP e1 hk hy hyi hab HI2 hgh
        go_wp2
        go_loopg [8] N (fun gh i wq => ∃ j : Nat, j + gh = N ∧ i = .int .i64 j ∧ j ≤ k ∧ Hid (Chg [] wr wq))
        case atStart => exact ⟨0, by omega, rfl, by omega, Lib.hid (Chg.refl _ _)⟩
        case round =>
          obtain ⟨j, hj, rfl, hjk, HJ⟩ := hrel
          have hcq := HW.out.then HJ.out
          obtain ⟨c3, lb⟩ := HH.out wr hcq
          have hbx := HBX.out.quiet HJ.out
          have q0 := hbx.cell 0
          have q1 := hbx.cell 1
          have q2 := hbx.cell 2
          have q3 := hbx.cell 3
          have q4 := hbx.cell 4
          have q5 := hbx.cell 5
          have q6 := hbx.cell 6
          have q7 := hbx.cell 7
          have lx := hbx.lt
          have fx := hbx.frozen
          simp only [List.getElem?_toArray, List.getElem?_cons_succ, List.getElem?_cons_zero] at q0 q1 q2 q3 q4 q5 q6 q7
          have k0' : (0 : Int) ≤ (j : Int) := by omega
          have k1' : (j : Int) < (N : Int) := by omega
          by_cases hlt : j < k
          · obtain ⟨z, hz⟩ : ∃ z, r.L[j]? = some z := ⟨_, List.getElem?_eq_getElem (by rw [← HN.out]; omega)⟩
            obtain ⟨g, rfl, hg, hcell⟩ := HROW.out j z hz
            obtain ⟨lg, _, y0, _⟩ := hcell wr hcq
            have hne := HK.out.1 j z hlt hz
            have d3 : ((z.id : Int) == (x'.par : Int)) = false := by simp; omega
            clear hbx q0 q2 q3 q4 q5 q6 q7 fx hcell hz hne
            go_wp2
            go_quiet (fail)
            go_wp2
            go_roundg (N - j - 1)
            case measure => omega
            case rel => exact ⟨j + 1, by omega, by go_num, by omega, Lib.hid (HJ.out.drewN _)⟩
          · obtain rfl : j = k := by omega
            obtain ⟨g, rfl, hg, hcell⟩ := HROW.out j y HK.out.2.1
            obtain ⟨lg, _, y0, y1, y2, y3, y4, y5, y6, y7⟩ := hcell wr hcq
            have hgx := HB0.out g rfl
            have hxg : ¬ (w.heap.size = g) := fun e => hgx e.symm
            have hgx' : ¬ (g = w.heap.size) := hgx
            have d3 : ((y.id : Int) == (x'.par : Int)) = true := by rw [HK.out.2.2]; simp
            have f0 := fx 0
            have f1 := fx 1
            have f2 := fx 2
            have f3 := fx 3
            have f4 := fx 4
            have f5 := fx 5
            have f6 := fx 6
            have f7 := fx 7
            have HBN := Lib.hid hbx
            have HCQ := Lib.hid hcq
            obtain ⟨yi, yp, yg, ys, ⟨yk, yx, ye, yr⟩⟩ := y
            simp only at y0 y1 y2 y3 y4 y5 y6 y7 d3
            clear hbx fx hcell hcq HJ
            go_wp2
            go_quiet (fail)
            go_wp2
            have hfin := (((((((((HBN.out.drewN nq).set_ 0 (.int .i64 (yi : Nat))).set_ 1 (.int .i64 (yp : Nat))).set_ 2 (.int .i64 yg)).set_ 3 (.int .i64 ys)).set_ 4 (.int .i64 yk)).set_ 5 (.int .i64 yx)).set_ 6 (.int .u64 ye)).set_ 7 (.int .u8 (yr : Nat)))
            have hch := (HCQ.out.drewN nq)
            go_roundg l2.length
            case measure => have := HNXT.out.2.2.2; omega
            case rel =>
              refine ⟨pre ++ [⟨yi, yp, yg, ys, ⟨yk, yx, ye, yr⟩⟩], l2, ⟨yi, yp, yg, ys, ⟨yk, yx, ye, yr⟩⟩, rfl, by rw [List.length_append, ← HP.out]; go_num, Lib.hid ⟨HNXT.out.1, HNXT.out.2.1, HNXT.out.2.2.1, hfin, ?_⟩⟩
              repeat' (first | with_reducible exact hch | with_reducible apply Chg.setCell | (with_reducible refine Or.inr ?_; dsimp only; omega))
end
end Go.Proofs
end
section
namespace Go.Proofs
open Go.RowKit
set_option linter.unusedVariables false
set_option linter.unusedSimpArgs false

/-! ### The document's Revoke -/
def Rf.left (r : Rf) (abv : On → Bool) : Rf := { r with L := r.L.filter fun y => !abv y }
/-- Who is above whom, by the names that one reads off. -/
def Rf.Tells (r : Rf) (id : Nat) (abv : On → Bool) : Prop := ∀ y ∈ r.L, ∃ l, Ab r.L y l ∧ l.length ≤ r.L.length ∧ (abv y = true ↔ id ∈ l.map On.id)
theorem filt_snoc (abv : On → Bool) (L : List On) (y : On) : (L ++ [y]).filter (fun y => !abv y) = L.filter (fun y => !abv y) ++ if abv y then [] else [y] := by
  rw [List.filter_append]
  congr 1
  cases h : abv y <;> simp [h]
section
variable {w : World} {b : Nat} {S : List Nat} {r : Rf}
set_option maxHeartbeats 6400000 in
set_option maxRecDepth 100000 in
theorem rrevoke_ok (H : RefAt w b S r) (hl : r.L.length ≤ 10000) (p : Pt) (hf : r.fullE p = 0) {abv : On → Bool} (ht : r.Tells (r.idAt p) abv) :
    Calls Try.prog 47 #[ptr b, .int .i64 p.g, .int .i64 p.s] w fun e w' => e = .returned (.tuple #[.int .i64 ((r.L.length - (r.left abv).L.length : Nat) : Int), .int .i64 0]) ∧ RTurns b S (r.left abv) w w' := by
  have H1 := full_is H (by omega) p
  rw [hf] at H1
  obtain ⟨_, x, hx, hfi, hlt, _⟩ := Rf.full0 hf
  have H2 := Lib.hid (fun W (hq : Chg [] w W) => find_is (H.quiet hq) (by omega) p)
  rw [hfi] at H2
  have hid : r.idAt p = x.id := by unfold Rf.idAt; rw [hx]
  rw [hid] at ht
  have HAB := Lib.hid (fun W (hq : Chg [] w W) y (hy : y ∈ r.L) => (by obtain ⟨l, h1, h2, h3⟩ := ht y hy; exact above_any (H.quiet hq) hl x.id h1 h2 h3 : Calls Try.prog 65 #[ptr b, .int .i64 (x.id : Nat), y.val] W fun e w' => e = .returned (.bool (abv y)) ∧ Chg [] W w'))
  obtain ⟨A, cc, hA, hcc, hh, hrow, hgb⟩ := H.head
  obtain ⟨g, rfl, hg, hcell⟩ := hrow _ x hx
  obtain ⟨_, _, _, c3, _, lb, _, _⟩ := hh _ (Chg.refl _ _)
  obtain ⟨lg, _, x0, _⟩ := hcell _ (Chg.refl _ _)
  have HH := Lib.hid (fun W (hc : Chg [] w W) => (⟨(hh W hc).2.2.2.1, (hh W hc).2.2.2.2.2.1, (hh W hc).2.2.2.2.2.2.1 3⟩ : W.cell? ⟨b, 3, none⟩ = some (.slice (some ⟨g, 0, none⟩) r.L.length cc) ∧ b < W.heap.size ∧ W.frozen? ⟨b, 3, none⟩ = false))
  have HROW := Lib.hid (fun k y (hy : r.L[k]? = some y) => hrow k y hy)
  obtain ⟨N, hN⟩ : ∃ N, N = r.L.length := ⟨_, rfl⟩
  have HN := Lib.hid hN
  obtain ⟨k0, hk0⟩ : ∃ k, k = r.fd p := ⟨_, rfl⟩
  rw [← hN] at c3 hlt hl HH
  rw [← hk0] at hlt H2 x0
  have HREF := Lib.hid H
  have i0 : (0 : Int) ≤ (k0 : Int) := by omega
  have i1 : (k0 : Int) < (N : Int) := by omega
  obtain ⟨xi, hxi⟩ : ∃ xi, xi = x.id := ⟨_, rfl⟩
  rw [← hxi] at x0 HAB
  have hne0 : (N : Int) - 0 = N := by omega
  clear H hh hrow hcell hA hcc hN hk0 hfi hf hx hgb hid ht hxi
  go_enter Try.func47, Try.ntmps47
  go_wp2_with (go_at_call 43; refine H1.mono ?_; rintro e w ⟨rfl, rfl⟩)
  go_region_held3 (fun w' => w'.cell? ⟨b, 3, none⟩ = some (.slice (some ⟨g, 0, none⟩) N cc) ∧ w'.cell? ⟨g, k0 * 8, none⟩ = some (.int .i64 (xi : Nat)))
    (first | go_keep)
    (first | (go_at_call 27; refine (H2.out _ (Chg.refl _ _).drew).mono ?_; rintro e w1 ⟨rfl, rfl⟩))
  all_goals
    have HW0 := Lib.hid (Chg.drew (Chg.refl [] w))
    clear c3 x0 H1
    go_wp2
    go_loopg [10, 11] N (fun gh o i wr => ∃ (k : Nat) (A : Option Addr) (c1 : Nat), k + gh = N ∧ i = .int .i64 k ∧ o = .slice A ((r.L.take k).filter (fun y => !abv y)).length c1 ∧ Hid (FreshO w wr (.slice A ((r.L.take k).filter (fun y => !abv y)).length c1) ((r.L.take k).filter (fun y => !abv y))))
    case atStart => exact ⟨0, none, 0, by omega, rfl, rfl, Lib.hid (FreshO.nil HW0.out)⟩
    case round =>
      obtain ⟨k, A, c1, hk, rfl, rfl, HI⟩ := hrel
      obtain ⟨c3, lb, fb⟩ := HH.out wr HI.out.2.2
      by_cases hlt : k < N
      · obtain ⟨y, hy⟩ : ∃ y, r.L[k]? = some y := ⟨_, List.getElem?_eq_getElem (by rw [← HN.out]; exact hlt)⟩
        obtain ⟨g2, hgg, hg2, hcell⟩ := HROW.out k y hy
        injection hgg with hgg
        injection hgg with hgg
        subst hgg
        obtain ⟨lg2, _, y0, y1, y2, y3, y4, y5, y6, y7⟩ := hcell wr HI.out.2.2
        have HSN := Lib.hid (show (r.L.take (k + 1)).filter (fun y => !abv y) = (r.L.take k).filter (fun y => !abv y) ++ if abv y then [] else [y] by rw [List.take_add_one, hy]; exact filt_snoc _ _ _)
        have k0' : (0 : Int) ≤ (k : Int) := by omega
        have k1' : (k : Int) < (N : Int) := by omega
        have HI2 := Lib.hid HI.out
        have HCL := Lib.hid (HAB.out wr HI.out.2.2 y (List.mem_of_getElem? hy))
        have HCELL := Lib.hid hcell
        obtain ⟨q, hq⟩ : ∃ q, q = ((r.L.take k).filter (fun y => !abv y)).length := ⟨_, rfl⟩
        have hqN : q ≤ 10000 := by have := List.length_filter_le (fun y => !abv y) (r.L.take k); have h2 := List.length_take_le k r.L; omega
        have HQ := Lib.hid hq
        rw [← hq]
        obtain ⟨t, hav⟩ : ∃ t, t = abv y := ⟨_, rfl⟩
        rw [← hav] at HCL HSN
        obtain ⟨yi, yp, yg, ys, ⟨yk, yx, ye, yr⟩⟩ := y
        simp only at y0 y1 y2 y3 y4 y5 y6 y7
        clear hcell hq HI hy fb hav
        cases t with
        | true =>
          have HS2 := Lib.hid (show (r.L.take (k + 1)).filter (fun y => !abv y) = (r.L.take k).filter (fun y => !abv y) by rw [HSN.out]; simp)
          go_wp2_with (go_at_call 65; refine HCL.out.mono ?_; rintro e w3 ⟨rfl, hc3⟩; have HC3 := Lib.hid hc3; clear hc3)
          go_roundg (N - k - 1)
          case measure => omega
          case rel => exact ⟨k + 1, A, c1, by omega, by go_num, by rw [HS2.out, ← HQ.out], Lib.hid (by rw [HS2.out]; exact HI2.out.later HC3.out)⟩
        | false =>
          have HS2 := Lib.hid (show (r.L.take (k + 1)).filter (fun y => !abv y) = (r.L.take k).filter (fun y => !abv y) ++ [⟨yi, yp, yg, ys, ⟨yk, yx, ye, yr⟩⟩] by rw [HSN.out]; simp)
          go_wp2_with (first
            | (go_at_call 65; refine HCL.out.mono ?_; rintro e w3 ⟨rfl, hc3⟩; have HC3 := Lib.hid (HI2.out.later hc3); obtain ⟨c3, lb, fb⟩ := HH.out w3 HC3.out.2.2; obtain ⟨lg2, _, y0, y1, y2, y3, y4, y5, y6, y7⟩ := HCELL.out w3 HC3.out.2.2; have HROWA := Lib.hid (show Row w3 66 8 (.slice A q c1) q (onCells ((r.L.take k).filter (fun y => !abv y))) by have h9 := HC3.out.1; rw [← HQ.out] at h9; exact h9); clear hc3)
            | (at_builtin; refine wpList_append_on _ (by rfl) _ _ (by rfl) (xs := (r.L.take k).filter (fun y => !abv y)) (l := [(⟨yi, yp, yg, ys, ⟨yk, yx, ye, yr⟩⟩ : On)]) (n := q + 1) (m := q) (m' := 1) (by rfl) (by rfl) (HROWA.out.alloc _) HQ.out (Row.oneO' (x := (⟨yi, yp, yg, ys, ⟨yk, yx, ye, yr⟩⟩ : On)) (Blk.new w3 66 _)) rfl (by rw [← HQ.out]; simp; omega) (by rw [← HQ.out]; rfl) ?_; intro A2 c2 w4 hr3 hg3 hf3; have HR3 := Lib.hid hr3; have HG3 := Lib.hid hg3; have HF3 := Lib.hid hf3; clear hr3 hg3 hf3))
          go_roundg (N - k - 1)
          case measure => omega
          case rel =>
            refine ⟨k + 1, A2, c2, by omega, by go_num, by rw [HS2.out, List.length_append, ← HQ.out]; rfl, Lib.hid ?_⟩
            rw [HS2.out]
            have h1 : FreshO w (w3.alloc (.cells #[.int .i64 (yi : Nat), .int .i64 (yp : Nat), .int .i64 yg, .int .i64 ys, .int .i64 yk, .int .i64 yx, .int .u64 ye, .int .u8 (yr : Nat)] 66)) (.slice A q c1) ((r.L.take k).filter (fun y => !abv y)) := by
              have := HC3.out.later ((Chg.refl [] w3).alloc (.cells #[.int .i64 (yi : Nat), .int .i64 (yp : Nat), .int .i64 yg, .int .i64 ys, .int .i64 yk, .int .i64 yx, .int .u64 ye, .int .u8 (yr : Nat)] 66))
              rw [← HQ.out] at this
              exact this
            have h2 := h1.append (by exact HR3.out) HG3.out HF3.out
            rw [List.length_append, ← HQ.out]
            exact h2
      · obtain rfl : k = N := by omega
        have HTK := Lib.hid (show r.L.take k = r.L by rw [HN.out]; exact List.take_length)
        have hfr := HI.out
        rw [HTK.out] at hfr
        obtain ⟨q, hq⟩ : ∃ q, q = ((r.L.take k).filter (fun y => !abv y)).length := ⟨_, rfl⟩
        have hq2 : q = (r.L.filter (fun y => !abv y)).length := by rw [hq, HTK.out]
        have hqk : q ≤ k := by rw [hq2]; have := List.length_filter_le (fun y => !abv y) r.L; rw [HN.out]; exact this
        have HT := Lib.hid (show RTurns b S (r.left abv) w (wr.setCell ⟨b, 3, none⟩ (.slice A q c1)) from by
          rw [hq2]
          exact HREF.out.relist hfr.2.2 hfr.1 hfr.2.1)
        have f3 := fb
        have e1 : IntKind.i64.wrap ((k : Int) - (q : Int)) = ((k - q : Nat) : Int) := by rw [show (k : Int) - (q : Int) = ((k - q : Nat) : Int) by omega]; exact IntWalk.i64_in _ (by omega)
        have HRES := Lib.hid (show ((r.L.length - (r.left abv).L.length : Nat) : Int) = ((k - q : Nat) : Int) by rw [← HN.out]; show ((k - (r.L.filter (fun y => !abv y)).length : Nat) : Int) = _; rw [hq2])
        rw [← hq]
        clear hq hq2 hfr HI hqk
        go_wp2
        go_ret2
        exact ⟨by rw [HRES.out]; first | rfl | (rw [← e1]; rfl), HT.out⟩
theorem rrevoke_no (H : RefAt w b S r) (hl : r.L.length ≤ 10000) (p : Pt) (hf : r.fullE p ≠ 0) :
    Calls Try.prog 47 #[ptr b, .int .i64 p.g, .int .i64 p.s] w fun e w' => e = .returned (.tuple #[.int .i64 0, .int .i64 (r.fullE p)]) ∧ w' = w := by
  have H1 := full_is H (by omega) p
  obtain ⟨z, hz⟩ : ∃ z, z = r.fullE p := ⟨_, rfl⟩
  rw [← hz] at H1 hf ⊢
  have hb : (z != 0) = true := by simpa using hf
  clear H hl hf hz
  go_enter Try.func47, Try.ntmps47
  go_wp2_with (go_at_call 43; refine H1.mono ?_; rintro e w ⟨rfl, rfl⟩)
  go_ret2
  exact ⟨rfl, rfl⟩
end
end Go.Proofs
end
section
namespace Go.Proofs
open Go.RowKit
set_option linter.unusedVariables false
set_option linter.unusedSimpArgs false
section
variable {w : World} {a : Nat} {S : List Nat} {s : Sp}
set_option maxHeartbeats 3200000 in
set_option maxRecDepth 100000 in
theorem derive_ok (h : SpAt w a S s) {p q : Pt} {c : Cp} (hc : c.ok) (hz : s.deriveE p q c = 0) : Calls Try.prog 31 #[ptr a, .int .i64 p.g, .int .i64 p.s, .int .i64 q.g, .int .i64 q.s, c.val] w fun e w' => e = .returned (.int .i64 0) ∧ STurns a S (s.add (s.f p) q c) w w' := by
  obtain ⟨z1, ⟨n, z2, z3⟩, z4, z5, z6, z7⟩ := Sp.derive0 hz
  have hrt : c.rts < 256 := hc.2.2.2.2
  have H1 := Lib.hid (fun W (hc : Chg [] w W) => there_any (h.quiet hc).non)
  have H2 := Lib.hid (fun W (hc : Chg [] w W) => whas_any (h.quiet hc) p)
  have H3 := Lib.hid (fun W (hc : Chg [] w W) => wfilled_any (h.quiet hc) p)
  have H4 := Lib.hid (fun W (hc : Chg [] w W) => whas_any (h.quiet hc) q)
  have H5 := Lib.hid (fun W (hc : Chg [] w W) => wempty_any (h.quiet hc) q)
  have H6 := Lib.hid (fun W (hc : Chg [] w W) => wmay_any c W)
  have H7 := Lib.hid (fun W (hc : Chg [] w W) => wamong_any (h.quiet hc) p hrt)
  have H8 := Lib.hid (fun W (hc : Chg [] w W) => wroom_any (h.quiet hc))
  have HK := Lib.hid (show ∀ W, Chg [] (((w.alloc (.cells c.arr 39)).alloc (.cells #[.int .i64 p.g, .int .i64 p.s] 94)).alloc (.cells #[.int .i64 q.g, .int .i64 q.s] 94)) W → W.cell? ⟨w.heap.size, 0, none⟩ = some (.int .i64 c.kind) ∧ W.cell? ⟨w.heap.size, 1, none⟩ = some (.int .i64 c.idx) ∧ W.cell? ⟨w.heap.size, 2, none⟩ = some (.int .u64 c.gen) ∧ W.cell? ⟨w.heap.size, 3, none⟩ = some (.int .u8 (c.rts : Nat)) ∧ W.cell? ⟨w.heap.size + 1, 0, none⟩ = some (.int .i64 p.g) ∧ W.cell? ⟨w.heap.size + 1, 1, none⟩ = some (.int .i64 p.s) ∧ W.cell? ⟨w.heap.size + 1 + 1, 0, none⟩ = some (.int .i64 q.g) ∧ W.cell? ⟨w.heap.size + 1 + 1, 1, none⟩ = some (.int .i64 q.s) from fun W hc => by
    have r0 := Blk.four (c := c) (((((by have := Blk.new w 39 c.arr; simpa using this : Blk (w.alloc (.cells c.arr 39)) (w.heap.size) 39 c.arr).alloc _).alloc _)).quiet hc)
    have r1 := Blk.two (p := p) ((((by have := Blk.new (w.alloc (.cells c.arr 39)) 94 #[.int .i64 p.g, .int .i64 p.s]; simpa using this : Blk ((w.alloc (.cells c.arr 39)).alloc (.cells #[.int .i64 p.g, .int .i64 p.s] 94)) (w.heap.size + 1) 94 #[.int .i64 p.g, .int .i64 p.s]).alloc _)).quiet hc)
    have r2 := Blk.two (p := q) (((by have := Blk.new ((w.alloc (.cells c.arr 39)).alloc (.cells #[.int .i64 p.g, .int .i64 p.s] 94)) 94 #[.int .i64 q.g, .int .i64 q.s]; simpa using this : Blk (((w.alloc (.cells c.arr 39)).alloc (.cells #[.int .i64 p.g, .int .i64 p.s] 94)).alloc (.cells #[.int .i64 q.g, .int .i64 q.s] 94)) (w.heap.size + 1 + 1) 94 #[.int .i64 q.g, .int .i64 q.s])).quiet hc)
    exact ⟨r0.1, r0.2.1, r0.2.2.1, r0.2.2.2, r1.1, r1.2, r2.1, r2.2⟩)
  obtain ⟨k0_0, k0_1, k0_2, k0_3, k0_4, k0_5, k0_6, k0_7⟩ := HK.out _ (Chg.refl _ _).drew
  have HW0 := Lib.hid (show Chg [] w (((w.alloc (.cells c.arr 39)).alloc (.cells #[.int .i64 p.g, .int .i64 p.s] 94)).alloc (.cells #[.int .i64 q.g, .int .i64 q.s] 94)) from ((((Chg.refl _ _).alloc _).alloc _).alloc _))
  have HZ := Lib.hid hz
  obtain ⟨ht, bm, g, cH, i0, i1, hpl⟩ := h.place z1 z2
  have HPL := Lib.hid hpl
  have hth := (h.wf.back p n z2).1
  have HPUT := Lib.hid (fun W (hq : Chg [] w W) => put_any (h.quiet hq) z7 (o := some n) (fun _ e => by cases e; exact hth) z4 z5 hc (fun _ e => by cases e; exact z3))
  rw [z2]
  clear h hz z1 z2 z3 z4 z5 z6 z7 hc hpl hth hrt
  go_enter Try.func31, Try.ntmps31
  have tok2 : True := trivial
  go_wp2
  go_region_held3 (fun w' => w'.cell? ⟨w.heap.size, 0, none⟩ = some (.int .i64 c.kind) ∧ w'.cell? ⟨w.heap.size, 1, none⟩ = some (.int .i64 c.idx) ∧ w'.cell? ⟨w.heap.size, 2, none⟩ = some (.int .u64 c.gen) ∧ w'.cell? ⟨w.heap.size, 3, none⟩ = some (.int .u8 (c.rts : Nat)) ∧ w'.cell? ⟨w.heap.size + 1, 0, none⟩ = some (.int .i64 p.g) ∧ w'.cell? ⟨w.heap.size + 1, 1, none⟩ = some (.int .i64 p.s) ∧ w'.cell? ⟨w.heap.size + 1 + 1, 0, none⟩ = some (.int .i64 q.g) ∧ w'.cell? ⟨w.heap.size + 1 + 1, 1, none⟩ = some (.int .i64 q.s))
    (first | go_keep)
    (first
      | (go_at_call 55; refine (H1.out _ HW0.out.drew).mono ?_; rintro e w1 ⟨F1, rfl, hc, hF⟩; have HC1 := Lib.hid (((Chg.refl _ _).drew).then hc : Chg [] (((w.alloc (.cells c.arr 39)).alloc (.cells #[.int .i64 p.g, .int .i64 p.s] 94)).alloc (.cells #[.int .i64 q.g, .int .i64 q.s] 94)) w1); have HF1 := Lib.hid hF; have HD1 := Lib.hid hc; obtain ⟨k1_0, k1_1, k1_2, k1_3, k1_4, k1_5, k1_6, k1_7⟩ := HK.out _ HC1.out; clear hc hF)
      | (go_at_call 56; have _t := tok2; refine (H2.out _ (HW0.out.then HC1.out)).mono ?_; rintro e w2 ⟨F2, rfl, hc, hF⟩; have HC2 := Lib.hid (HC1.out.then hc); have HF2 := Lib.hid hF; have HD2 := Lib.hid hc; obtain ⟨k2_0, k2_1, k2_2, k2_3, k2_4, k2_5, k2_6, k2_7⟩ := HK.out _ HC2.out; clear hc hF tok2)
      | (go_at_call 57; refine (H3.out _ (HW0.out.then HC2.out)).mono ?_; rintro e w3 ⟨F3, rfl, hc, hF⟩; have HC3 := Lib.hid (HC2.out.then hc); have HF3 := Lib.hid hF; have HD3 := Lib.hid hc; obtain ⟨k3_0, k3_1, k3_2, k3_3, k3_4, k3_5, k3_6, k3_7⟩ := HK.out _ HC3.out; clear hc hF)
      | (go_at_call 56; refine (H4.out _ (HW0.out.then HC3.out)).mono ?_; rintro e w4 ⟨F4, rfl, hc, hF⟩; have HC4 := Lib.hid (HC3.out.then hc); have HF4 := Lib.hid hF; have HD4 := Lib.hid hc; obtain ⟨k4_0, k4_1, k4_2, k4_3, k4_4, k4_5, k4_6, k4_7⟩ := HK.out _ HC4.out; clear hc hF)
      | (go_at_call 66; refine (H5.out _ (HW0.out.then HC4.out)).mono ?_; rintro e w5 ⟨F5, rfl, hc, hF⟩; have HC5 := Lib.hid (HC4.out.then hc); have HF5 := Lib.hid hF; have HD5 := Lib.hid hc; obtain ⟨k5_0, k5_1, k5_2, k5_3, k5_4, k5_5, k5_6, k5_7⟩ := HK.out _ HC5.out; clear hc hF)
      | (go_at_call 68; refine (H6.out _ (HW0.out.then HC5.out)).mono ?_; rintro e w6 ⟨F6, rfl, hc, hF⟩; have HC6 := Lib.hid (HC5.out.then hc); have HF6 := Lib.hid hF; have HD6 := Lib.hid hc; obtain ⟨k6_0, k6_1, k6_2, k6_3, k6_4, k6_5, k6_6, k6_7⟩ := HK.out _ HC6.out; clear hc hF)
      | (go_at_call 71; refine (H7.out _ (HW0.out.then HC6.out)).mono ?_; rintro e w7 ⟨F7, rfl, hc, hF⟩; have HC7 := Lib.hid (HC6.out.then hc); have HF7 := Lib.hid hF; have HD7 := Lib.hid hc; obtain ⟨k7_0, k7_1, k7_2, k7_3, k7_4, k7_5, k7_6, k7_7⟩ := HK.out _ HC7.out; clear hc hF)
      | (go_at_call 69; refine (H8.out _ (HW0.out.then HC7.out)).mono ?_; rintro e w8 ⟨F8, rfl, hc, hF⟩; have HC8 := Lib.hid (HC7.out.then hc); have HF8 := Lib.hid hF; have HD8 := Lib.hid hc; obtain ⟨k8_0, k8_1, k8_2, k8_3, k8_4, k8_5, k8_6, k8_7⟩ := HK.out _ HC8.out; clear hc hF)
      | (go_at_call 54; refine (refuse [(1, F1, true), (9, F2, s.slot p), (10, F3, (s.f p).isSome), (9, F4, s.slot q), (14, F5, !(s.f q).isSome), (2, F6, mayB c), (13, F7, s.amongB p c.rts), (3, F8, decide (s.t.len < s.t.size))] (n := 8) rfl (by decide) rfl ⟨(HF1.out trivial).quiet ((((((HD2.out.then HD3.out).then HD4.out).then HD5.out).then HD6.out).then HD7.out).then HD8.out), fun b0 => ⟨(HF2.out trivial).quiet (((((HD3.out.then HD4.out).then HD5.out).then HD6.out).then HD7.out).then HD8.out), fun b1 => ⟨(HF3.out b1).quiet ((((HD4.out.then HD5.out).then HD6.out).then HD7.out).then HD8.out), fun b2 => ⟨(HF4.out trivial).quiet (((HD5.out.then HD6.out).then HD7.out).then HD8.out), fun b3 => ⟨(HF5.out b3).quiet ((HD6.out.then HD7.out).then HD8.out), fun b4 => ⟨(HF6.out trivial).quiet (HD7.out.then HD8.out), fun b5 => ⟨(HF7.out ⟨b1, b2⟩).quiet HD8.out, fun b6 => ⟨HF8.out trivial, fun b7 => trivial⟩⟩⟩⟩⟩⟩⟩⟩).mono ?_; rintro e w9 ⟨he, hc⟩; replace he := he.trans (show _ = Ending.returned (.int .i64 0) by rw [← HZ.out]; rfl); subst he; have HC9 := Lib.hid (HC8.out.then hc); obtain ⟨k9_0, k9_1, k9_2, k9_3, k9_4, k9_5, k9_6, k9_7⟩ := HK.out _ HC9.out; clear hc))
  all_goals
    have hcw := HW0.out.then HC9.out
    obtain ⟨c2, c3, c4, la, lg, hlk, g2, g3, g4, g5⟩ := HPL.out _ hcw.drew
    have HP2 := Lib.hid (HPUT.out _ hcw.drew)
    have HCW := Lib.hid hcw
    clear hcw
    go_wp2
    go_region_with (go_at_call 70; refine HP2.out.mono ?_; rintro e wz ⟨rfl, hT⟩; have HT := Lib.hid (hT.earlier HCW.out.drew); clear hT)
    all_goals
      go_wp2
      go_ret
      exact ⟨rfl, HT.out⟩
set_option maxHeartbeats 3200000 in
set_option maxRecDepth 100000 in
theorem derive_no (h : SpAt w a S s) {p q : Pt} {c : Cp} (hrt : c.rts < 256) (hz : s.deriveE p q c ≠ 0) : Calls Try.prog 31 #[ptr a, .int .i64 p.g, .int .i64 p.s, .int .i64 q.g, .int .i64 q.s, c.val] w fun e w' => e = .returned (.int .i64 (s.deriveE p q c)) ∧ Chg [] w w' := by
  have H1 := Lib.hid (fun W (hc : Chg [] w W) => there_any (h.quiet hc).non)
  have H2 := Lib.hid (fun W (hc : Chg [] w W) => whas_any (h.quiet hc) p)
  have H3 := Lib.hid (fun W (hc : Chg [] w W) => wfilled_any (h.quiet hc) p)
  have H4 := Lib.hid (fun W (hc : Chg [] w W) => whas_any (h.quiet hc) q)
  have H5 := Lib.hid (fun W (hc : Chg [] w W) => wempty_any (h.quiet hc) q)
  have H6 := Lib.hid (fun W (hc : Chg [] w W) => wmay_any c W)
  have H7 := Lib.hid (fun W (hc : Chg [] w W) => wamong_any (h.quiet hc) p hrt)
  have H8 := Lib.hid (fun W (hc : Chg [] w W) => wroom_any (h.quiet hc))
  have HK := Lib.hid (show ∀ W, Chg [] (((w.alloc (.cells c.arr 39)).alloc (.cells #[.int .i64 p.g, .int .i64 p.s] 94)).alloc (.cells #[.int .i64 q.g, .int .i64 q.s] 94)) W → W.cell? ⟨w.heap.size, 0, none⟩ = some (.int .i64 c.kind) ∧ W.cell? ⟨w.heap.size, 1, none⟩ = some (.int .i64 c.idx) ∧ W.cell? ⟨w.heap.size, 2, none⟩ = some (.int .u64 c.gen) ∧ W.cell? ⟨w.heap.size, 3, none⟩ = some (.int .u8 (c.rts : Nat)) ∧ W.cell? ⟨w.heap.size + 1, 0, none⟩ = some (.int .i64 p.g) ∧ W.cell? ⟨w.heap.size + 1, 1, none⟩ = some (.int .i64 p.s) ∧ W.cell? ⟨w.heap.size + 1 + 1, 0, none⟩ = some (.int .i64 q.g) ∧ W.cell? ⟨w.heap.size + 1 + 1, 1, none⟩ = some (.int .i64 q.s) from fun W hc => by
    have r0 := Blk.four (c := c) (((((by have := Blk.new w 39 c.arr; simpa using this : Blk (w.alloc (.cells c.arr 39)) (w.heap.size) 39 c.arr).alloc _).alloc _)).quiet hc)
    have r1 := Blk.two (p := p) ((((by have := Blk.new (w.alloc (.cells c.arr 39)) 94 #[.int .i64 p.g, .int .i64 p.s]; simpa using this : Blk ((w.alloc (.cells c.arr 39)).alloc (.cells #[.int .i64 p.g, .int .i64 p.s] 94)) (w.heap.size + 1) 94 #[.int .i64 p.g, .int .i64 p.s]).alloc _)).quiet hc)
    have r2 := Blk.two (p := q) (((by have := Blk.new ((w.alloc (.cells c.arr 39)).alloc (.cells #[.int .i64 p.g, .int .i64 p.s] 94)) 94 #[.int .i64 q.g, .int .i64 q.s]; simpa using this : Blk (((w.alloc (.cells c.arr 39)).alloc (.cells #[.int .i64 p.g, .int .i64 p.s] 94)).alloc (.cells #[.int .i64 q.g, .int .i64 q.s] 94)) (w.heap.size + 1 + 1) 94 #[.int .i64 q.g, .int .i64 q.s])).quiet hc)
    exact ⟨r0.1, r0.2.1, r0.2.2.1, r0.2.2.2, r1.1, r1.2, r2.1, r2.2⟩)
  obtain ⟨k0_0, k0_1, k0_2, k0_3, k0_4, k0_5, k0_6, k0_7⟩ := HK.out _ (Chg.refl _ _).drew
  have HW0 := Lib.hid (show Chg [] w (((w.alloc (.cells c.arr 39)).alloc (.cells #[.int .i64 p.g, .int .i64 p.s] 94)).alloc (.cells #[.int .i64 q.g, .int .i64 q.s] 94)) from ((((Chg.refl _ _).alloc _).alloc _).alloc _))
  obtain ⟨z, hzz⟩ : ∃ z, z = s.deriveE p q c := ⟨_, rfl⟩
  have HZ := Lib.hid hzz
  rw [← hzz] at hz ⊢
  have hz0 : (z == 0) = false := by simpa using hz
  clear h hz hzz hrt
  go_enter Try.func31, Try.ntmps31
  have tok2 : True := trivial
  go_wp2
  go_region_held3 (fun w' => w'.cell? ⟨w.heap.size, 0, none⟩ = some (.int .i64 c.kind) ∧ w'.cell? ⟨w.heap.size, 1, none⟩ = some (.int .i64 c.idx) ∧ w'.cell? ⟨w.heap.size, 2, none⟩ = some (.int .u64 c.gen) ∧ w'.cell? ⟨w.heap.size, 3, none⟩ = some (.int .u8 (c.rts : Nat)) ∧ w'.cell? ⟨w.heap.size + 1, 0, none⟩ = some (.int .i64 p.g) ∧ w'.cell? ⟨w.heap.size + 1, 1, none⟩ = some (.int .i64 p.s) ∧ w'.cell? ⟨w.heap.size + 1 + 1, 0, none⟩ = some (.int .i64 q.g) ∧ w'.cell? ⟨w.heap.size + 1 + 1, 1, none⟩ = some (.int .i64 q.s))
    (first | go_keep)
    (first
      | (go_at_call 55; refine (H1.out _ HW0.out.drew).mono ?_; rintro e w1 ⟨F1, rfl, hc, hF⟩; have HC1 := Lib.hid (((Chg.refl _ _).drew).then hc : Chg [] (((w.alloc (.cells c.arr 39)).alloc (.cells #[.int .i64 p.g, .int .i64 p.s] 94)).alloc (.cells #[.int .i64 q.g, .int .i64 q.s] 94)) w1); have HF1 := Lib.hid hF; have HD1 := Lib.hid hc; obtain ⟨k1_0, k1_1, k1_2, k1_3, k1_4, k1_5, k1_6, k1_7⟩ := HK.out _ HC1.out; clear hc hF)
      | (go_at_call 56; have _t := tok2; refine (H2.out _ (HW0.out.then HC1.out)).mono ?_; rintro e w2 ⟨F2, rfl, hc, hF⟩; have HC2 := Lib.hid (HC1.out.then hc); have HF2 := Lib.hid hF; have HD2 := Lib.hid hc; obtain ⟨k2_0, k2_1, k2_2, k2_3, k2_4, k2_5, k2_6, k2_7⟩ := HK.out _ HC2.out; clear hc hF tok2)
      | (go_at_call 57; refine (H3.out _ (HW0.out.then HC2.out)).mono ?_; rintro e w3 ⟨F3, rfl, hc, hF⟩; have HC3 := Lib.hid (HC2.out.then hc); have HF3 := Lib.hid hF; have HD3 := Lib.hid hc; obtain ⟨k3_0, k3_1, k3_2, k3_3, k3_4, k3_5, k3_6, k3_7⟩ := HK.out _ HC3.out; clear hc hF)
      | (go_at_call 56; refine (H4.out _ (HW0.out.then HC3.out)).mono ?_; rintro e w4 ⟨F4, rfl, hc, hF⟩; have HC4 := Lib.hid (HC3.out.then hc); have HF4 := Lib.hid hF; have HD4 := Lib.hid hc; obtain ⟨k4_0, k4_1, k4_2, k4_3, k4_4, k4_5, k4_6, k4_7⟩ := HK.out _ HC4.out; clear hc hF)
      | (go_at_call 66; refine (H5.out _ (HW0.out.then HC4.out)).mono ?_; rintro e w5 ⟨F5, rfl, hc, hF⟩; have HC5 := Lib.hid (HC4.out.then hc); have HF5 := Lib.hid hF; have HD5 := Lib.hid hc; obtain ⟨k5_0, k5_1, k5_2, k5_3, k5_4, k5_5, k5_6, k5_7⟩ := HK.out _ HC5.out; clear hc hF)
      | (go_at_call 68; refine (H6.out _ (HW0.out.then HC5.out)).mono ?_; rintro e w6 ⟨F6, rfl, hc, hF⟩; have HC6 := Lib.hid (HC5.out.then hc); have HF6 := Lib.hid hF; have HD6 := Lib.hid hc; obtain ⟨k6_0, k6_1, k6_2, k6_3, k6_4, k6_5, k6_6, k6_7⟩ := HK.out _ HC6.out; clear hc hF)
      | (go_at_call 71; refine (H7.out _ (HW0.out.then HC6.out)).mono ?_; rintro e w7 ⟨F7, rfl, hc, hF⟩; have HC7 := Lib.hid (HC6.out.then hc); have HF7 := Lib.hid hF; have HD7 := Lib.hid hc; obtain ⟨k7_0, k7_1, k7_2, k7_3, k7_4, k7_5, k7_6, k7_7⟩ := HK.out _ HC7.out; clear hc hF)
      | (go_at_call 69; refine (H8.out _ (HW0.out.then HC7.out)).mono ?_; rintro e w8 ⟨F8, rfl, hc, hF⟩; have HC8 := Lib.hid (HC7.out.then hc); have HF8 := Lib.hid hF; have HD8 := Lib.hid hc; obtain ⟨k8_0, k8_1, k8_2, k8_3, k8_4, k8_5, k8_6, k8_7⟩ := HK.out _ HC8.out; clear hc hF)
      | (go_at_call 54; refine (refuse [(1, F1, true), (9, F2, s.slot p), (10, F3, (s.f p).isSome), (9, F4, s.slot q), (14, F5, !(s.f q).isSome), (2, F6, mayB c), (13, F7, s.amongB p c.rts), (3, F8, decide (s.t.len < s.t.size))] (n := 8) rfl (by decide) rfl ⟨(HF1.out trivial).quiet ((((((HD2.out.then HD3.out).then HD4.out).then HD5.out).then HD6.out).then HD7.out).then HD8.out), fun b0 => ⟨(HF2.out trivial).quiet (((((HD3.out.then HD4.out).then HD5.out).then HD6.out).then HD7.out).then HD8.out), fun b1 => ⟨(HF3.out b1).quiet ((((HD4.out.then HD5.out).then HD6.out).then HD7.out).then HD8.out), fun b2 => ⟨(HF4.out trivial).quiet (((HD5.out.then HD6.out).then HD7.out).then HD8.out), fun b3 => ⟨(HF5.out b3).quiet ((HD6.out.then HD7.out).then HD8.out), fun b4 => ⟨(HF6.out trivial).quiet (HD7.out.then HD8.out), fun b5 => ⟨(HF7.out ⟨b1, b2⟩).quiet HD8.out, fun b6 => ⟨HF8.out trivial, fun b7 => trivial⟩⟩⟩⟩⟩⟩⟩⟩).mono ?_; rintro e w9 ⟨he, hc⟩; replace he := he.trans (show _ = Ending.returned (.int .i64 z) by rw [HZ.out]; rfl); subst he; have HC9 := Lib.hid (HC8.out.then hc); obtain ⟨k9_0, k9_1, k9_2, k9_3, k9_4, k9_5, k9_6, k9_7⟩ := HK.out _ HC9.out; clear hc))
  all_goals
    go_wp2
    go_ret
    exact ⟨rfl, HW0.out.then HC9.out⟩
end
end Go.Proofs
end
section
namespace Go.Proofs
open Go.RowKit
set_option linter.unusedVariables false
set_option linter.unusedSimpArgs false

/-! ### Each call as one contract -/
def Sp.root (s : Sp) (p : Pt) (c : Cp) : Sp := if s.rootE p c = 0 then s.add none p c else s
def Sp.derive (s : Sp) (p q : Pt) (c : Cp) : Sp := if s.deriveE p q c = 0 then s.add (s.f p) q c else s
def Sp.delP (s : Sp) (p : Pt) : Sp := match s.f p with | some n => s.drop n | none => s
def Sp.movP (s : Sp) (p q : Pt) : Sp := if s.moveE p q = 0 then (match s.f p with | some n => s.move n q | none => s) else s
def Sp.clear (s : Sp) (g : Int) (l : List Hl) : Sp := l.foldl (fun s x => s.delP ⟨g, x.slot⟩) s
/-- What goes where what is at p is revoked. -/
def Sp.Goes (s : Sp) (p : Pt) (l : List Nat) : Prop := match s.f p with | some n => Pre s.t (s.t.kids n) l | none => l = []
def Sp.revP (s : Sp) (p : Pt) (l : List Nat) : Sp := match s.f p with | some n => s.prune n l | none => s
section
variable {w : World} {a : Nat} {S : List Nat} {s : Sp}
theorem root_any (h : SpAt w a S s) (p : Pt) {c : Cp} (hc : c.ok) : Calls Try.prog 29 #[ptr a, .int .i64 p.g, .int .i64 p.s, c.val] w fun e w' => e = .returned (.int .i64 (s.rootE p c)) ∧ STurns a S (s.root p c) w w' := by
  unfold Sp.root
  by_cases hz : s.rootE p c = 0
  · rw [hz, if_pos rfl]; exact root_ok h hc hz
  · rw [if_neg hz]; exact (root_no h hz).mono fun e w' hh => ⟨hh.1, STurns.refl h hh.2⟩
theorem derive_any (h : SpAt w a S s) (p q : Pt) {c : Cp} (hc : c.ok) : Calls Try.prog 31 #[ptr a, .int .i64 p.g, .int .i64 p.s, .int .i64 q.g, .int .i64 q.s, c.val] w fun e w' => e = .returned (.int .i64 (s.deriveE p q c)) ∧ STurns a S (s.derive p q c) w w' := by
  unfold Sp.derive
  by_cases hz : s.deriveE p q c = 0
  · rw [hz, if_pos rfl]; exact derive_ok h hc hz
  · rw [if_neg hz]; exact (derive_no h hc.2.2.2.2 hz).mono fun e w' hh => ⟨hh.1, STurns.refl h hh.2⟩
theorem Sp.full_some {s : Sp} {p : Pt} {n : Nat} (h1 : s.slot p = true) (h2 : s.f p = some n) : s.fullE p = 0 := by unfold Sp.fullE; rw [h1, h2]; rfl
theorem Sp.full_none {s : Sp} {p : Pt} (h2 : s.f p = none) : s.fullE p ≠ 0 := by
  unfold Sp.fullE; rw [h2]
  cases s.slot p <;> simp [firstB]
theorem delete_any (h : SpAt w a S s) (p : Pt) : Calls Try.prog 33 #[ptr a, .int .i64 p.g, .int .i64 p.s] w fun e w' => e = .returned (.int .i64 (s.fullE p)) ∧ STurns a S (s.delP p) w w' := by
  unfold Sp.delP
  cases hf : s.f p with
  | none => exact (delete_no h (Sp.full_none hf)).mono fun e w' hh => ⟨hh.1, STurns.refl h hh.2⟩
  | some n => have hs := h.wf.slot_of hf; rw [Sp.full_some hs hf]; exact delete_ok h hs hf
theorem move_any (h : SpAt w a S s) (p q : Pt) (hpq : q.g = p.g) : Calls Try.prog 25 #[ptr a, .int .i64 p.g, .int .i64 p.s, .int .i64 q.s] w fun e w' => e = .returned (.int .i64 (s.moveE p q)) ∧ STurns a S (s.movP p q) w w' := by
  unfold Sp.movP
  by_cases hz : s.moveE p q = 0
  · obtain ⟨z1, ⟨n, z2⟩, z3, z4⟩ := Sp.move0 hz
    rw [hz, if_pos rfl, z2]
    exact move_ok h z1 z2 z3 z4 hpq
  · rw [if_neg hz]; exact (move_no h hz hpq).mono fun e w' hh => ⟨hh.1, STurns.refl h hh.2⟩
theorem revoke_any (h : SpAt w a S s) (p : Pt) {l : List Nat} (hl : s.Goes p l) : Calls Try.prog 21 #[ptr a, .int .i64 p.g, .int .i64 p.s] w fun e w' => e = .returned (.tuple #[.int .i64 (l.length : Nat), .int .i64 (s.fullE p)]) ∧ STurns a S (s.revP p l) w w' := by
  unfold Sp.Goes at hl
  unfold Sp.revP
  cases hf : s.f p with
  | none =>
    rw [hf] at hl
    subst hl
    exact (revoke_no h (Sp.full_none hf)).mono fun e w' hh => ⟨hh.1, STurns.refl h hh.2⟩
  | some n =>
    rw [hf] at hl
    have hs := h.wf.slot_of hf
    rw [Sp.full_some hs hf]
    exact revoke_ok h hs hf hl
def Sp.capAt (s : Sp) (p : Pt) : Cp := match s.f p with | some n => (s.hd n).cap | none => cp0
theorem get_any (h : SpAt w a S s) (p : Pt) : Calls Try.prog 18 #[ptr a, .int .i64 p.g, .int .i64 p.s] w fun e w' => e = .returned (.tuple #[(s.capAt p).val, .int .i64 (s.fullE p)]) ∧ Chg [] w w' := by
  unfold Sp.capAt
  cases hf : s.f p with
  | none => exact get_no h (Sp.full_none hf)
  | some n => have hs := h.wf.slot_of hf; rw [Sp.full_some hs hf]; exact get_ok h hs hf
/-- No block of a space is of another type than its own. -/
theorem SpAt.other (h : SpAt w a S s) {g : Nat} {t : TypeId} {cs : Array Value} (hg : Blk w g t cs) (h1 : t ≠ 73) (h2 : t ≠ 119) (h3 : t ≠ 124) (h4 : t ≠ 3) (h5 : t ≠ 96) : g ∉ S := by
  obtain ⟨c, ⟨ht, St, bm, VH, hB, hT, hM, hR, rfl⟩, _⟩ := h
  intro hk
  simp only [List.mem_cons, List.mem_append] at hk
  rcases hk with rfl | rfl | hk | hk
  · exact Blk.ty hg hB h1 rfl
  · exact hM.far hg rfl
  · exact hT.other hg h2 h3 h4 hk
  · exact hR.ty hg h5.symm hk
theorem SpAt.norow (h : SpAt w a S s) {e : TypeId} {sz n : Nat} {v : Value} {xs : List Value} (hr : Row w e sz v n xs) (h1 : e ≠ 73) (h2 : e ≠ 119) (h3 : e ≠ 124) (h4 : e ≠ 3) (h5 : e ≠ 96) : ∀ k ∈ foot v, k ∉ S := by
  intro k hk
  rcases hr.2 with ⟨rfl, _⟩ | ⟨g, cap, cur, rfl, hg, _⟩
  · cases hk
  · simp [foot_some] at hk; subst hk; exact h.other hg h1 h2 h3 h4 h5
theorem Sp.clear_snoc (s : Sp) (g : Int) (l : List Hl) (x : Hl) : s.clear g (l ++ [x]) = (s.clear g l).delP ⟨g, x.slot⟩ := by unfold Sp.clear; rw [List.foldl_append]; rfl
theorem STurns.then {a : Nat} {S : List Nat} {s1 s2 : Sp} {x y z : World} (h1 : STurns a S s1 x y) (h2 : ∀ S', SpAt y a S' s1 → STurns a S' s2 y z) : STurns a S s2 x z := by
  obtain ⟨S', q1, q2, q3⟩ := h1
  exact STurns.trans q2 q3 (h2 S' q1)
set_option maxHeartbeats 3200000 in
set_option maxRecDepth 100000 in
theorem clear_any (h : SpAt w a S s) {g : Int} (hg : I64 g) : Calls Try.prog 34 #[ptr a, .int .i64 g] w fun e w' => e = .returned (.int .i64 ((s.caps g).length : Nat)) ∧ STurns a S (s.clear g (s.caps g)) w w' := by
  have HCP := caps_any h hg
  obtain ⟨l, hl⟩ : ∃ l, l = s.caps g := ⟨_, rfl⟩
  have hl32 : l.length ≤ 32 := by rw [hl]; exact Nat.le_trans (s.capsTo_len g s.slots) h.wf.slots.2
  rw [← hl] at HCP ⊢
  have H0 := Lib.hid h
  clear h hl
  go_enter Try.func34, Try.ntmps34
  go_wp2_with (go_at_call 16; refine HCP.mono ?_; rintro e w1 ⟨A, cc, rfl, hf⟩; have HF := Lib.hid hf; clear hf)
  obtain ⟨N, hN⟩ : ∃ N, N = l.length := ⟨_, rfl⟩
  have HN := Lib.hid hN
  rw [← hN] at HF hl32 ⊢
  clear hN
  go_loopg [13] N (fun gh i wr => ∃ (k : Nat), k + gh = N ∧ i = .int .i64 k ∧ Hid (STurns a S (s.clear g (l.take k)) w wr ∧ Row wr 49 5 (.slice A N cc) N (hlCells l)))
  case atStart => exact ⟨0, by omega, rfl, Lib.hid ⟨STurns.refl H0.out HF.out.2.2, by have := HF.out.1; rw [← HN.out] at this; exact this⟩⟩
  case round =>
    obtain ⟨k, hk, rfl, HI⟩ := hrel
    by_cases hlt : k < N
    · obtain ⟨x, hx⟩ : ∃ x, l[k]? = some x := ⟨_, List.getElem?_eq_getElem (by rw [← HN.out]; exact hlt)⟩
      obtain ⟨gb, cap, hv, hft, _, hcell, _, hbl⟩ := HI.out.2.form (by omega)
      injection hv with hA _ hcc
      subst hA hcc
      obtain ⟨x0, x1, x2, x3, x4⟩ := hlCells_at l k x hx
      have y0 := hcell _ _ x0
      have y1 := hcell _ _ x1
      have y2 := hcell _ _ x2
      have y3 := hcell _ _ x3
      have y4 := hcell _ _ x4
      have HST := Lib.hid (show s.clear g (l.take (k + 1)) = (s.clear g (l.take k)).delP ⟨g, x.slot⟩ by rw [List.take_add_one, hx]; exact Sp.clear_snoc _ _ _ _)
      obtain ⟨S1, q1, q2, q3⟩ := HI.out.1
      have hal := Chg.alloc (Chg.refl [] wr) (.cells x.arr 49)
      have HD := Lib.hid (delete_any (q1.quiet hal) ⟨g, x.slot⟩)
      have HQ2 := Lib.hid q2
      have HQ3 := Lib.hid (q3.then hal)
      have HAP := Lib.hid ((q1.quiet hal).norow (HI.out.2.chg hal (fun _ _ h => by cases h)) (by decide) (by decide) (by decide) (by decide) (by decide))
      have HROW := Lib.hid (HI.out.2.chg hal (fun _ _ h => by cases h))
      have k0 : (0 : Int) ≤ (k : Int) := by omega
      have k1 : (k : Int) < (N : Int) := by omega
      clear HI hx hcell x0 x1 x2 x3 x4 q1 q2 q3 hal hft
      obtain ⟨xs, ⟨ck, ci, cg, cr⟩⟩ := x
      go_wp2_with (go_at_call 33; refine HD.out.mono ?_; rintro e w2 ⟨rfl, hT⟩; have HT := Lib.hid hT; clear hT)
      go_roundg (N - k - 1)
      case measure => omega
      case rel =>
        refine ⟨k + 1, by omega, by go_num, Lib.hid ⟨?_, ?_⟩⟩
        · rw [HST.out]
          exact STurns.trans HQ2.out HQ3.out HT.out
        · obtain ⟨_, _, _, t3⟩ := HT.out
          exact HROW.out.chg t3 HAP.out
    · obtain rfl : k = N := by omega
      have HI2 := Lib.hid HI.out.1
      have HTK := Lib.hid (show l.take k = l by rw [HN.out]; exact List.take_length)
      go_wp2
      go_ret
      have hh := HI2.out
      rw [HTK.out] at hh
      exact ⟨by rw [← HN.out]; rfl, hh⟩
theorem clear_no {v : Option Addr} (h : NoS w (.pointer v)) (g : Int) : Calls Try.prog 34 #[.pointer v, .int .i64 g] w fun e w' => e = .returned (.int .i64 0) ∧ Chg [] w w' := by
  have HCP := caps_no h g
  clear h
  go_enter Try.func34, Try.ntmps34
  go_wp2_with (go_at_call 16; refine HCP.mono ?_; rintro e w1 ⟨A, cc, rfl, hf⟩; have HF := Lib.hid hf; clear hf)
  go_loopg [13] 0 (fun gh i wr => i = .int .i64 0 ∧ Hid (Chg [] w wr))
  case atStart => exact ⟨rfl, Lib.hid HF.out.2.2⟩
  case round =>
    obtain ⟨rfl, HI⟩ := hrel
    go_wp2
    go_ret
    exact ⟨rfl, HI.out⟩
end
end Go.Proofs
end
section
namespace Go.Proofs
open Go.RowKit
set_option linter.unusedVariables false
set_option linter.unusedSimpArgs false

/-! ### Parents, and who is under whom -/
def Sp.parAt (s : Sp) (p : Pt) : Option Pt := match s.f p with | none => none | some n => match s.t.par n with | none => none | some q => some (s.hd q).p
def ptO (o : Option Pt) : Pt := o.getD ⟨0, 0⟩
section
variable {w : World} {a : Nat} {S : List Nat} {s : Sp}
/-- What the tree answers of a node's parent. -/
theorem SpAt.par (h : SpAt w a S s) {n : Nat} (hn : s.t.there n = true) : ∃ ht, ∀ W, Chg [] w W → W.cell? ⟨a, 2, none⟩ = some (ptr ht) ∧ a < W.heap.size ∧ Calls Try.prog 78 #[ptr ht, .int .i64 (n : Nat)] W fun e w' => e = .returned (.tuple #[.int .i64 (((s.t.par n).getD 0 : Nat) : Int), .bool (s.t.par n).isSome]) ∧ Chg [] W w' := by
  obtain ⟨c, hR, hS, hWF⟩ := h
  obtain ⟨ht, St, hh, _⟩ := hR.tree
  refine ⟨ht, fun W hc => ?_⟩
  obtain ⟨q1, q2, q3⟩ := hh W hc
  refine ⟨q1, q2, ?_⟩
  obtain ⟨n1, n2, n3, n4⟩ := hS.node n hn
  cases hp : s.t.par n with
  | none =>
    rw [hp] at n3
    exact pa_no q3 hS.lenN (fun hh => hh.2 n3)
  | some q =>
    rw [hp] at n3
    exact pa_yes q3 hS.lenN n2 n3
set_option maxHeartbeats 3200000 in
theorem parent_none (h : SpAt w a S s) {p : Pt} (hp : p.ok) (hf : s.f p = none) : Calls Try.prog 53 #[ptr a, p.val] w fun e w' => e = .returned (.tuple #[.agg #[.int .i64 0, .int .i64 0], .bool false]) ∧ Chg [] w w' := by
  have HND := Lib.hid (fun W (hc : Chg [] w W) => node_any (h.quiet hc) hp)
  have hW0 : Chg [] w ((w.alloc (.cells #[.int .i64 p.g, .int .i64 p.s] 94)).alloc (.cells #[.int .i64 0, .int .i64 0] 94)) := ((Chg.refl _ _).alloc _).alloc _
  have HN0 := Lib.hid (HND.out _ hW0)
  have HB := Lib.hid (fun W (hc : Chg [] ((w.alloc (.cells #[.int .i64 p.g, .int .i64 p.s] 94)).alloc (.cells #[.int .i64 0, .int .i64 0] 94)) W) => (by have := Blk.new (w.alloc (.cells #[.int .i64 p.g, .int .i64 p.s] 94)) 94 #[.int .i64 0, .int .i64 0]; rw [show (w.alloc (.cells #[.int .i64 p.g, .int .i64 p.s] 94)).heap.size = w.heap.size + 1 by simp] at this; exact this.quiet hc : Blk W (w.heap.size + 1) 94 #[.int .i64 0, .int .i64 0]))
  have HW0 := Lib.hid hW0
  rw [hf] at HN0
  clear h hf HND hW0
  go_enter Try.func53, Try.ntmps53
  go_wp2_with (go_at_call 52; refine HN0.out.mono ?_; rintro e w1 ⟨rfl, hc⟩; have HC := Lib.hid (HW0.out.then hc); have hb := HB.out w1 hc; have f0 := hb.frozen 0; have f1 := hb.frozen 1; have lb := hb.lt; have x0 := hb.cell 0; have x1 := hb.cell 1; simp only [List.getElem?_toArray, List.getElem?_cons_succ, List.getElem?_cons_zero] at x0 x1; have q0 := (hb.set_ 0 (.int .i64 0)).cell 0; have q1 := ((hb.set_ 0 (.int .i64 0)).set_ 1 (.int .i64 0)).cell 1; simp only [Array.setIfInBounds] at q0 q1; have HB1 := Lib.hid hb; have HC9 := Lib.hid hc; clear hc hb)
  refine bodyPost_ret (v := .tuple #[.agg #[.int .i64 0, .int .i64 0], .bool false]) ?_ rfl ⟨rfl, ?_⟩
  · simp [results, Try.results53, go_sem, q0, q1]
  · repeat' (first | with_reducible exact HC.out | with_reducible apply Chg.drew | with_reducible apply Chg.alloc | with_reducible apply Chg.setCell | (with_reducible refine Or.inr ?_; dsimp only; omega))

set_option maxHeartbeats 3200000 in
theorem parent_root (h : SpAt w a S s) {p : Pt} (hp : p.ok) {n : Nat} (hf : s.f p = some n) (hr : s.t.par n = none) : Calls Try.prog 53 #[ptr a, p.val] w fun e w' => e = .returned (.tuple #[.agg #[.int .i64 0, .int .i64 0], .bool false]) ∧ Chg [] w w' := by
  have HND := Lib.hid (fun W (hc : Chg [] w W) => node_any (h.quiet hc) hp)
  have hW0 : Chg [] w ((w.alloc (.cells #[.int .i64 p.g, .int .i64 p.s] 94)).alloc (.cells #[.int .i64 0, .int .i64 0] 94)) := ((Chg.refl _ _).alloc _).alloc _
  have HN0 := Lib.hid (HND.out _ hW0)
  have HB := Lib.hid (fun W (hc : Chg [] ((w.alloc (.cells #[.int .i64 p.g, .int .i64 p.s] 94)).alloc (.cells #[.int .i64 0, .int .i64 0] 94)) W) => (by have := Blk.new (w.alloc (.cells #[.int .i64 p.g, .int .i64 p.s] 94)) 94 #[.int .i64 0, .int .i64 0]; rw [show (w.alloc (.cells #[.int .i64 p.g, .int .i64 p.s] 94)).heap.size = w.heap.size + 1 by simp] at this; exact this.quiet hc : Blk W (w.heap.size + 1) 94 #[.int .i64 0, .int .i64 0]))
  have HW0 := Lib.hid hW0
  rw [hf] at HN0
  obtain ⟨ht, hpr⟩ := h.par (h.wf.back p n hf).1
  rw [hr] at hpr
  have HPR := Lib.hid hpr
  clear h hf hr HND hW0 hpr
  go_enter Try.func53, Try.ntmps53
  go_wp2_with (first
    | (go_at_call 52; refine HN0.out.mono ?_; rintro e w1 ⟨rfl, hc⟩; have HC1 := Lib.hid (HW0.out.then hc); obtain ⟨c2, la, hcall⟩ := HPR.out w1 HC1.out; have HPC := Lib.hid hcall; have HC9 := Lib.hid hc; clear hc hcall)
    | (go_at_call 78; refine HPC.out.mono ?_; rintro e w2 ⟨rfl, hc⟩; have hb := HB.out w2 (HC9.out.then hc); have f0 := hb.frozen 0; have f1 := hb.frozen 1; have lb := hb.lt; have x0 := hb.cell 0; have x1 := hb.cell 1; simp only [List.getElem?_toArray, List.getElem?_cons_succ, List.getElem?_cons_zero] at x0 x1; have q0 := (hb.set_ 0 (.int .i64 0)).cell 0; have q1 := ((hb.set_ 0 (.int .i64 0)).set_ 1 (.int .i64 0)).cell 1; simp only [Array.setIfInBounds] at q0 q1; have HC := Lib.hid (HC1.out.then hc); clear hc hb))
  refine bodyPost_ret (v := .tuple #[.agg #[.int .i64 0, .int .i64 0], .bool false]) ?_ rfl ⟨rfl, ?_⟩
  · simp [results, Try.results53, go_sem, q0, q1]
  · repeat' (first | with_reducible exact HC.out | with_reducible apply Chg.drew | with_reducible apply Chg.alloc | with_reducible apply Chg.setCell | (with_reducible refine Or.inr ?_; dsimp only; omega))
set_option maxHeartbeats 3200000 in
theorem parent_some (h : SpAt w a S s) {p : Pt} (hp : p.ok) {n q : Nat} (hf : s.f p = some n) (hr : s.t.par n = some q) : Calls Try.prog 53 #[ptr a, p.val] w fun e w' => e = .returned (.tuple #[(s.hd q).p.val, .bool true]) ∧ Chg [] w w' := by
  have HND := Lib.hid (fun W (hc : Chg [] w W) => node_any (h.quiet hc) hp)
  have hW0 : Chg [] w ((w.alloc (.cells #[.int .i64 p.g, .int .i64 p.s] 94)).alloc (.cells #[.int .i64 0, .int .i64 0] 94)) := ((Chg.refl _ _).alloc _).alloc _
  have HN0 := Lib.hid (HND.out _ hW0)
  have HB := Lib.hid (fun W (hc : Chg [] ((w.alloc (.cells #[.int .i64 p.g, .int .i64 p.s] 94)).alloc (.cells #[.int .i64 0, .int .i64 0] 94)) W) => (by have := Blk.new (w.alloc (.cells #[.int .i64 p.g, .int .i64 p.s] 94)) 94 #[.int .i64 0, .int .i64 0]; rw [show (w.alloc (.cells #[.int .i64 p.g, .int .i64 p.s] 94)).heap.size = w.heap.size + 1 by simp] at this; exact this.quiet hc : Blk W (w.heap.size + 1) 94 #[.int .i64 0, .int .i64 0]))
  have HW0 := Lib.hid hW0
  rw [hf] at HN0
  have hth := (h.wf.back p n hf).1
  obtain ⟨ht, hpr⟩ := h.par hth
  rw [hr] at hpr
  have HPR := Lib.hid hpr
  have hqt := h.twf.up hth hr
  have HHD := Lib.hid (show ∃ g cH, (q : Int) < (s.H.length : Int) ∧ ∀ W, Chg [] w W → W.cell? ⟨a, 4, none⟩ = some (.slice (some ⟨g, 0, none⟩) s.H.length cH) ∧ a < W.heap.size ∧ g < W.heap.size ∧ W.cell? ⟨g, q * 6, none⟩ = some (.int .i64 (s.hd q).p.g) ∧ W.cell? ⟨g, q * 6 + 1, none⟩ = some (.int .i64 (s.hd q).p.s) from by
    obtain ⟨c, hR, hS, hWF⟩ := h
    have hql := hWF.lt hS.wf hqt
    obtain ⟨ht, bm, g, cH, _, hh, _⟩ := hR.turned hql
    refine ⟨g, cH, by omega, fun W hc => ?_⟩
    obtain ⟨_, _, _, _, c4, la, _, _, lg, _, g0, g1, _⟩ := hh W hc
    exact ⟨c4, la, lg, g0, g1⟩)
  obtain ⟨pq, hpq⟩ : ∃ pq, pq = (s.hd q).p := ⟨_, rfl⟩
  rw [← hpq] at HHD ⊢
  obtain ⟨g, cH, i1, hhd⟩ := HHD.out
  have HH2 := Lib.hid hhd
  obtain ⟨N, hN⟩ : ∃ N, N = s.H.length := ⟨_, rfl⟩
  rw [← hN] at i1 HH2
  have i0 : (0 : Int) ≤ (q : Int) := by omega
  obtain ⟨pg, ps⟩ := pq
  clear h hf hr HND hW0 hpr hqt hth hpq hN hhd HHD
  go_enter Try.func53, Try.ntmps53
  go_wp2_with (first
    | (go_at_call 52; refine HN0.out.mono ?_; rintro e w1 ⟨rfl, hc⟩; have HC1 := Lib.hid (HW0.out.then hc); obtain ⟨c2, la, hcall⟩ := HPR.out w1 HC1.out; have HPC := Lib.hid hcall; have HC9 := Lib.hid hc; clear hc hcall)
    | (go_at_call 78; refine HPC.out.mono ?_; rintro e w2 ⟨rfl, hc⟩; have hb := HB.out w2 (HC9.out.then hc); have f0 := hb.frozen 0; have f1 := hb.frozen 1; have lb := hb.lt; have x0 := hb.cell 0; have x1 := hb.cell 1; simp only [List.getElem?_toArray, List.getElem?_cons_succ, List.getElem?_cons_zero] at x0 x1; have q0 := (hb.set_ 0 (.int .i64 pg)).cell 0; have q1 := ((hb.set_ 0 (.int .i64 pg)).set_ 1 (.int .i64 ps)).cell 1; simp only [Array.setIfInBounds] at q0 q1; obtain ⟨c4, la2, lg2, g0, g1⟩ := HH2.out w2 (HC1.out.then hc); have HC := Lib.hid (HC1.out.then hc); clear hc hb))
  refine bodyPost_ret (v := .tuple #[.agg #[.int .i64 pg, .int .i64 ps], .bool true]) ?_ rfl ⟨rfl, ?_⟩
  · simp [results, Try.results53, go_sem, q0, q1]
  · repeat' (first | with_reducible exact HC.out | with_reducible apply Chg.drew | with_reducible apply Chg.alloc | with_reducible apply Chg.setCell | (with_reducible refine Or.inr ?_; dsimp only; omega))
theorem sparent_any (h : SpAt w a S s) {p : Pt} (hp : p.ok) : Calls Try.prog 53 #[ptr a, p.val] w fun e w' => e = .returned (.tuple #[(ptO (s.parAt p)).val, .bool (s.parAt p).isSome]) ∧ Chg [] w w' := by
  unfold Sp.parAt
  cases hf : s.f p with
  | none => exact parent_none h hp hf
  | some n =>
    cases hr : s.t.par n with
    | none => simp only [hr]; exact parent_root h hp hf hr
    | some q => simp only [hr]; exact parent_some h hp hf hr
theorem parent_no {v : Option Addr} (h : NoS w (.pointer v)) (p : Pt) : Calls Try.prog 53 #[.pointer v, p.val] w fun e w' => e = .returned (.tuple #[.agg #[.int .i64 0, .int .i64 0], .bool false]) ∧ Chg [] w w' := by
  have hW0 : Chg [] w ((w.alloc (.cells #[.int .i64 p.g, .int .i64 p.s] 94)).alloc (.cells #[.int .i64 0, .int .i64 0] 94)) := ((Chg.refl _ _).alloc _).alloc _
  have HN0 := Lib.hid (node_no (h.quiet hW0) p)
  have HB := Lib.hid (fun W (hc : Chg [] ((w.alloc (.cells #[.int .i64 p.g, .int .i64 p.s] 94)).alloc (.cells #[.int .i64 0, .int .i64 0] 94)) W) => (by have := Blk.new (w.alloc (.cells #[.int .i64 p.g, .int .i64 p.s] 94)) 94 #[.int .i64 0, .int .i64 0]; rw [show (w.alloc (.cells #[.int .i64 p.g, .int .i64 p.s] 94)).heap.size = w.heap.size + 1 by simp] at this; exact this.quiet hc : Blk W (w.heap.size + 1) 94 #[.int .i64 0, .int .i64 0]))
  have HW0 := Lib.hid hW0
  clear h hW0
  go_enter Try.func53, Try.ntmps53
  go_wp2_with (go_at_call 52; refine HN0.out.mono ?_; rintro e w1 ⟨rfl, hc⟩; have HC := Lib.hid (HW0.out.then hc); have hb := HB.out w1 hc; have f0 := hb.frozen 0; have f1 := hb.frozen 1; have lb := hb.lt; have x0 := hb.cell 0; have x1 := hb.cell 1; simp only [List.getElem?_toArray, List.getElem?_cons_succ, List.getElem?_cons_zero] at x0 x1; have q0 := (hb.set_ 0 (.int .i64 0)).cell 0; have q1 := ((hb.set_ 0 (.int .i64 0)).set_ 1 (.int .i64 0)).cell 1; simp only [Array.setIfInBounds] at q0 q1; have HB1 := Lib.hid hb; have HC9 := Lib.hid hc; clear hc hb)
  refine bodyPost_ret (v := .tuple #[.agg #[.int .i64 0, .int .i64 0], .bool false]) ?_ rfl ⟨rfl, ?_⟩
  · simp [results, Try.results53, go_sem, q0, q1]
  · repeat' (first | with_reducible exact HC.out | with_reducible apply Chg.drew | with_reducible apply Chg.alloc | with_reducible apply Chg.setCell | (with_reducible refine Or.inr ?_; dsimp only; omega))

/-- Parent. -/
theorem tparent_any (h : SpAt w a S s) {p : Pt} (hp : p.ok) : Calls Try.prog 17 #[ptr a, .int .i64 p.g, .int .i64 p.s] w fun e w' => e = .returned (.tuple #[.int .i64 (ptO (s.parAt p)).g, .int .i64 (ptO (s.parAt p)).s, .bool (s.parAt p).isSome]) ∧ Chg [] w w' := by
  have HP := sparent_any h hp
  obtain ⟨⟨qg, qs⟩, hq⟩ : ∃ q, q = ptO (s.parAt p) := ⟨_, rfl⟩
  obtain ⟨b, hb⟩ : ∃ b, b = (s.parAt p).isSome := ⟨_, rfl⟩
  rw [← hq, ← hb] at HP ⊢
  clear h hq hb
  go_enter Try.func17, Try.ntmps17
  go_wp2_with (go_at_call 53; refine HP.mono ?_; rintro e w1 ⟨rfl, hc⟩; have HC := Lib.hid hc; clear hc)
  go_quiet (fail)
  go_wp2
  refine bodyPost_ret (v := .tuple #[.int .i64 qg, .int .i64 qs, .bool b]) ?_ rfl ⟨rfl, ?_⟩
  · simp [results, Try.results17, go_sem]
  · exact (HC.out.alloc _).drewN _
theorem tparent_no {v : Option Addr} (h : NoS w (.pointer v)) (p : Pt) : Calls Try.prog 17 #[.pointer v, .int .i64 p.g, .int .i64 p.s] w fun e w' => e = .returned (.tuple #[.int .i64 0, .int .i64 0, .bool false]) ∧ Chg [] w w' := by
  have HP := parent_no h p
  clear h
  go_enter Try.func17, Try.ntmps17
  go_wp2_with (go_at_call 53; refine HP.mono ?_; rintro e w1 ⟨rfl, hc⟩; have HC := Lib.hid hc; clear hc)
  go_quiet (fail)
  go_wp2
  refine bodyPost_ret (v := .tuple #[.int .i64 0, .int .i64 0, .bool false]) ?_ rfl ⟨rfl, ?_⟩
  · simp [results, Try.results17, go_sem]
  · exact (HC.out.alloc _).drewN _
/-- Who is under whom. -/
def Sp.Und (s : Sp) (p q : Pt) : Prop := ∃ n m, s.f p = some n ∧ s.f q = some m ∧ Anc s.t m n
theorem under_no (h : SpAt w a S s) {p q : Pt} (hp : p.ok) (hq : q.ok) (hn : s.f p = none ∨ s.f q = none) : Calls Try.prog 23 #[ptr a, .int .i64 p.g, .int .i64 p.s, .int .i64 q.g, .int .i64 q.s] w fun e w' => e = .returned (.bool false) ∧ Chg [] w w' := by
  have H1 := node_any h hp
  have H2 := Lib.hid (fun W (hc : Chg [] w W) => node_any (h.quiet hc) hq)
  rcases hn with hf | hf
  · rw [hf] at H1
    obtain ⟨n, hn⟩ : ∃ n, n = (s.f q).getD 0 := ⟨_, rfl⟩
    obtain ⟨b, hb⟩ : ∃ b, b = (s.f q).isSome := ⟨_, rfl⟩
    rw [← hn, ← hb] at H2
    have tok : True := trivial
    clear h hf hn hb
    go_enter Try.func23, Try.ntmps23
    go_wp2_with (first
      | (go_at_call 52; have _t := tok; refine H1.mono ?_; rintro e w1 ⟨rfl, hc⟩; have HC := Lib.hid hc; clear hc tok)
      | (go_at_call 52; refine (H2.out _ HC.out).mono ?_; rintro e w2 ⟨rfl, hc⟩; have HC2 := Lib.hid (HC.out.then hc); clear hc))
    go_ret
    exact ⟨rfl, HC2.out⟩
  · rw [hf] at H2
    obtain ⟨n, hn⟩ : ∃ n, n = (s.f p).getD 0 := ⟨_, rfl⟩
    obtain ⟨b, hb⟩ : ∃ b, b = (s.f p).isSome := ⟨_, rfl⟩
    rw [← hn, ← hb] at H1
    have tok : True := trivial
    clear h hf hn hb
    cases b <;>
    (go_enter Try.func23, Try.ntmps23
     go_wp2_with (first
      | (go_at_call 52; have _t := tok; refine H1.mono ?_; rintro e w1 ⟨rfl, hc⟩; have HC := Lib.hid hc; clear hc tok)
      | (go_at_call 52; refine (H2.out _ HC.out).mono ?_; rintro e w2 ⟨rfl, hc⟩; have HC2 := Lib.hid (HC.out.then hc); clear hc))
     go_ret
     exact ⟨rfl, HC2.out⟩)
theorem under_some (h : SpAt w a S s) {p q : Pt} (hp : p.ok) (hq : q.ok) {n m : Nat} (hf : s.f p = some n) (hg : s.f q = some m) {b : Bool} (hb : b = true ↔ Anc s.t m n) : Calls Try.prog 23 #[ptr a, .int .i64 p.g, .int .i64 p.s, .int .i64 q.g, .int .i64 q.s] w fun e w' => e = .returned (.bool b) ∧ Chg [] w w' := by
  have H1 := node_any h hp
  have H2 := Lib.hid (fun W (hc : Chg [] w W) => node_any (h.quiet hc) hq)
  rw [hf] at H1
  rw [hg] at H2
  have HU := Lib.hid (show ∃ ht, ∀ W, Chg [] w W → W.cell? ⟨a, 2, none⟩ = some (ptr ht) ∧ a < W.heap.size ∧ Calls Try.prog 64 #[ptr ht, .int .i64 (n : Nat), .int .i64 (m : Nat)] W fun e w' => e = .returned (.bool b) ∧ Chg [] W w' from by
    obtain ⟨c, hR, hS, hWF⟩ := h
    obtain ⟨ht, St, hh, _⟩ := hR.tree
    refine ⟨ht, fun W hc => ?_⟩
    obtain ⟨q1, q2, q3⟩ := hh W hc
    refine ⟨q1, q2, cunder_any q3 hS _ _ ?_⟩
    rw [hb]
    unfold Fo.under
    simp)
  obtain ⟨ht, hu⟩ := HU.out
  have HX := Lib.hid hu
  have tok : True := trivial
  clear h hf hg hb HU hu
  go_enter Try.func23, Try.ntmps23
  go_wp2_with (first
    | (go_at_call 52; have _t := tok; refine H1.mono ?_; rintro e w1 ⟨rfl, hc⟩; have HC := Lib.hid hc; clear hc tok)
    | (go_at_call 52; refine (H2.out _ HC.out).mono ?_; rintro e w2 ⟨rfl, hc⟩; have HC2 := Lib.hid (HC.out.then hc); obtain ⟨c2, la, hcall⟩ := HX.out w2 HC2.out; have HCL := Lib.hid hcall; clear hc hcall)
    | (go_at_call 64; refine HCL.out.mono ?_; rintro e w3 ⟨rfl, hc⟩; have HC3 := Lib.hid (HC2.out.then hc); clear hc))
  go_ret
  exact ⟨rfl, HC3.out⟩
theorem under_any_ (h : SpAt w a S s) {p q : Pt} (hp : p.ok) (hq : q.ok) {b : Bool} (hb : b = true ↔ s.Und p q) : Calls Try.prog 23 #[ptr a, .int .i64 p.g, .int .i64 p.s, .int .i64 q.g, .int .i64 q.s] w fun e w' => e = .returned (.bool b) ∧ Chg [] w w' := by
  cases hf : s.f p with
  | none =>
    have : b = false := by
      cases b with
      | false => rfl
      | true => obtain ⟨n, m, h1, _⟩ := hb.1 rfl; rw [hf] at h1; cases h1
    subst this
    exact under_no h hp hq (.inl hf)
  | some n =>
    cases hg : s.f q with
    | none =>
      have : b = false := by
        cases b with
        | false => rfl
        | true => obtain ⟨n, m, _, h1, _⟩ := hb.1 rfl; rw [hg] at h1; cases h1
      subst this
      exact under_no h hp hq (.inr hg)
    | some m =>
      refine under_some h hp hq hf hg (hb.trans ⟨?_, fun hh => ⟨n, m, hf, hg, hh⟩⟩)
      rintro ⟨n', m', h1, h2, h3⟩
      rw [hf] at h1
      rw [hg] at h2
      cases h1
      cases h2
      exact h3
theorem under_none {v : Option Addr} (h : NoS w (.pointer v)) (p q : Pt) : Calls Try.prog 23 #[.pointer v, .int .i64 p.g, .int .i64 p.s, .int .i64 q.g, .int .i64 q.s] w fun e w' => e = .returned (.bool false) ∧ Chg [] w w' := by
  have H1 := node_no h p
  have H2 := Lib.hid (fun W (hc : Chg [] w W) => node_no (h.quiet hc) q)
  have tok : True := trivial
  clear h
  go_enter Try.func23, Try.ntmps23
  go_wp2_with (first
    | (go_at_call 52; have _t := tok; refine H1.mono ?_; rintro e w1 ⟨rfl, hc⟩; have HC := Lib.hid hc; clear hc tok)
    | (go_at_call 52; refine (H2.out _ HC.out).mono ?_; rintro e w2 ⟨rfl, hc⟩; have HC2 := Lib.hid (HC.out.then hc); clear hc))
  go_ret
  exact ⟨rfl, HC2.out⟩
end
end Go.Proofs
end
section
namespace Go.Proofs
open Go.RowKit
set_option linter.unusedVariables false
set_option linter.unusedSimpArgs false

/-! ### An empty space -/
theorem upTo_any (n most : Int) (w : World) : Calls Try.prog 39 #[.int .i64 n, .int .i64 most] w fun e w' => e = .returned (.bool (decide (1 ≤ n ∧ n ≤ most))) ∧ w' = w := by
  by_cases h0 : 1 ≤ n
  · by_cases h1 : n ≤ most
    · have d0 : decide (1 ≤ n) = true := decide_eq_true h0
      have d1 : decide (n ≤ most) = true := decide_eq_true h1
      rw [show decide (1 ≤ n ∧ n ≤ most) = true from decide_eq_true ⟨h0, h1⟩]
      go_enter Try.func39, Try.ntmps39
      go_wp2
      go_ret
      exact ⟨rfl, rfl⟩
    · have d0 : decide (1 ≤ n) = true := decide_eq_true h0
      have d1 : decide (n ≤ most) = false := decide_eq_false h1
      rw [show decide (1 ≤ n ∧ n ≤ most) = false from decide_eq_false (fun h => h1 h.2)]
      go_enter Try.func39, Try.ntmps39
      go_wp2
      go_ret
      exact ⟨rfl, rfl⟩
  · have d0 : decide (1 ≤ n) = false := decide_eq_false h0
    rw [show decide (1 ≤ n ∧ n ≤ most) = false from decide_eq_false (fun h => h0 h.1)]
    go_enter Try.func39, Try.ntmps39
    go_wp2
    go_ret
    exact ⟨rfl, rfl⟩
def sp0 (gs slots nodes : Nat) : Sp := ⟨gs, slots, Fo.new nodes, fun _ => none, List.replicate nodes hd0⟩
theorem sp0_wf {gs slots nodes : Nat} (h1 : 1 ≤ gs ∧ gs ≤ 64) (h2 : 1 ≤ slots ∧ slots ≤ 32) (h3 : 1 ≤ nodes ∧ nodes ≤ 512) : (sp0 gs slots nodes).WF :=
  ⟨h1, h2, h3, (by simp [sp0, Fo.new]), (fun n h => by cases h), (fun p n h => by cases h), (fun n q h => by cases h)⟩
theorem sp0_len (gs slots nodes : Nat) : (sp0 gs slots nodes).t.len = 0 := by
  show (List.range nodes).countP (fun _ => false) = 0
  rw [List.countP_eq_zero]
  intro a _ h
  cases h
theorem Try.hd_info : (Try.prog.info? 96).map (fun i => (i.zero, i.size, i.bytes)) = some (some (.agg #[.int .i64 0, .int .i64 0, .int .i64 0, .int .i64 0, .int .u64 0, .int .u8 0]), 6, 48) := by kernel_rfl
theorem made_hd (n : Nat) : (madeCells #[.int .i64 0, .int .i64 0, .int .i64 0, .int .i64 0, .int .u64 0, .int .u8 0] (n * 6)).toList = hdCells (List.replicate n hd0) := by
  refine List.ext_getElem? fun j => ?_
  unfold madeCells
  rw [Array.getElem?_toList]
  by_cases h : j < n * 6
  · have hk : (List.replicate n hd0)[j / 6]? = some hd0 := by rw [List.getElem?_replicate, if_pos (by omega)]
    have key : ∀ m, m < 6 → ∃ u, (Hd.cells hd0)[m]? = some u ∧ (#[Value.int .i64 0, .int .i64 0, .int .i64 0, .int .i64 0, .int .u64 0, .int .u8 0] : Array Value)[m]! = u := fun m hm =>
      match m, hm with
      | 0, _ => ⟨_, rfl, rfl⟩
      | 1, _ => ⟨_, rfl, rfl⟩
      | 2, _ => ⟨_, rfl, rfl⟩
      | 3, _ => ⟨_, rfl, rfl⟩
      | 4, _ => ⟨_, rfl, rfl⟩
      | 5, _ => ⟨_, rfl, rfl⟩
    obtain ⟨u, hu1, hu2⟩ := key (j % 6) (Nat.mod_lt _ (by omega))
    have hr : (hdCells (List.replicate n hd0))[j / 6 * 6 + j % 6]? = some u := flat_at (enc := Hd.cells) (s := 6) (fun _ => rfl) hk hu1
    rw [show j / 6 * 6 + j % 6 = j by omega] at hr
    rw [hr]
    simp only [Array.getElem?_map, Array.getElem?_range, h, if_true, Option.map_some, Option.some.injEq]
    exact hu2
  · rw [List.getElem?_eq_none (by rw [hdCells_len, List.length_replicate]; omega), Array.getElem?_eq_none (by simp; omega)]
set_option maxHeartbeats 3200000 in
set_option maxRecDepth 100000 in
theorem snew_ok (gs slots nodes : Nat) (h1 : 1 ≤ gs ∧ gs ≤ 64) (h2 : 1 ≤ slots ∧ slots ≤ 32) (h3 : 1 ≤ nodes ∧ nodes ≤ 512) (w : World) :
    Calls Try.prog 11 #[.int .i64 (gs : Nat), .int .i64 (slots : Nat), .int .i64 (nodes : Nat)] w fun e w' => ∃ a S, e = .returned (.tuple #[ptr a, .int .i64 0]) ∧ SpAt w' a S (sp0 gs slots nodes) ∧ (∀ k ∈ S, w.heap.size ≤ k) ∧ Chg [] w w' := by
  obtain ⟨i0, hi0, hz0, hz1, hz2⟩ := info_parts Try.hd_info
  have hmk : ∀ W : World, (Instr.makeSlice 71 (.int .i64 (nodes : Nat)) (.int .i64 (nodes : Nat))).run Try.prog W = .ok (.slice (some ⟨W.heap.size, 0, none⟩) nodes nodes) (W.alloc (.cells (madeCells #[.int .i64 0, .int .i64 0, .int .i64 0, .int .i64 0, .int .u64 0, .int .u8 0] (nodes * 6)) 96)) := fun W => by
    have h := run_make (P := Try.prog) W 71 96 i0 _ Try.underlying71 hi0 hz0 .i64 .i64 (nodes : Nat) (nodes : Nat) (by omega) (by omega) (by rw [hz2]; omega) (by omega)
    rw [hz1] at h
    simp only [Int.toNat_natCast] at h
    exact h
  have hrow : ∀ W : World, Row (W.alloc (.cells (madeCells #[.int .i64 0, .int .i64 0, .int .i64 0, .int .i64 0, .int .u64 0, .int .u8 0] (nodes * 6)) 96)) 96 6 (.slice (some ⟨W.heap.size, 0, none⟩) nodes nodes) nodes (hdCells (List.replicate nodes hd0)) := fun W => by
    refine ⟨by rw [hdCells_len, List.length_replicate], .inr ⟨W.heap.size, nodes, _, rfl, Blk.new W 96 _, Nat.le_refl _, by unfold maxLen; omega, by rw [size_madeCells]; exact Nat.le_refl _, ?_⟩⟩
    rw [made_hd, List.take_of_length_le (by rw [hdCells_len]; simp)]
  obtain ⟨MC, hMC⟩ : ∃ MC : Obj, MC = .cells (madeCells #[.int .i64 0, .int .i64 0, .int .i64 0, .int .i64 0, .int .u64 0, .int .u8 0] (nodes * 6)) 96 := ⟨_, rfl⟩
  rw [← hMC] at hrow hmk
  have HROW := Lib.hid hrow
  have U1 := upTo_any gs 64
  have U2 := upTo_any slots 32
  have U3 := upTo_any nodes 512
  rw [show decide (1 ≤ (gs : Int) ∧ (gs : Int) ≤ 64) = true from decide_eq_true (by omega)] at U1
  rw [show decide (1 ≤ (slots : Int) ∧ (slots : Int) ≤ 32) = true from decide_eq_true (by omega)] at U2
  rw [show decide (1 ≤ (nodes : Int) ∧ (nodes : Int) ≤ 512) = true from decide_eq_true (by omega)] at U3
  have HT := new_any nodes h3.1 (by omega) w
  have HWF := Lib.hid (sp0_wf h1 h2 h3)
  have HS := Lib.hid (Sim.new h3.1 (by omega : nodes ≤ 4096))
  have t1 : True := trivial
  have t2 : True := trivial
  have hmm := @run_makeMap Try.prog
  clear hrow hMC h1 h2 h3 hi0 hz0 hz1 hz2
  go_enter Try.func11, Try.ntmps11
  go_wp2_with (first
    | (go_at_call 39; have _t := t1; refine (U1 _).mono ?_; rintro e w' ⟨rfl, rfl⟩; clear t1)
    | (go_at_call 39; have _t := t2; refine (U2 _).mono ?_; rintro e w' ⟨rfl, rfl⟩; clear t2)
    | (go_at_call 39; refine (U3 _).mono ?_; rintro e w' ⟨rfl, rfl⟩)
    | (go_at_call 40; refine HT.mono ?_; rintro e w1 ⟨rfl, hT, hc⟩; have HTT := Lib.hid hT; have HC := Lib.hid hc; clear hT hc))
  go_ret2
  have b1 : Mp (w1.alloc (.map #[] 0)) w1.heap.size 0 (fun _ => none) := Mp.made w1
  have hr := HROW.out (w1.alloc (.map #[] 0))
  have b3 := Blk.new ((w1.alloc (.map #[] 0)).alloc MC) 73 #[.int .i64 (gs : Nat), .int .i64 (slots : Nat), ptr w'.heap.size, .map (some w1.heap.size), .slice (some ⟨w1.heap.size + 1, 0, none⟩) nodes nodes]
  rw [show (w1.alloc (.map #[] 0)).heap.size = w1.heap.size + 1 by simp] at hr
  have hsz : ((w1.alloc (.map #[] 0)).alloc MC).heap.size = w1.heap.size + 1 + 1 := by simp
  rw [hsz] at b3
  have hq : Chg [] w1 (((w1.alloc (.map #[] 0)).alloc MC).alloc (.cells #[.int .i64 (gs : Nat), .int .i64 (slots : Nat), ptr w'.heap.size, .map (some w1.heap.size), .slice (some ⟨w1.heap.size + 1, 0, none⟩) nodes nodes] 73)) := (((Chg.refl _ _).alloc _).alloc _).alloc _
  refine ⟨_, _, rfl, ⟨tr0 nodes, ⟨w'.heap.size, [w'.heap.size], w1.heap.size, .slice (some ⟨w1.heap.size + 1, 0, none⟩) nodes nodes, b3, HTT.out.quiet hq, ?_, ?_, rfl⟩, HS.out, HWF.out⟩, fun k hk => ?_, HC.out.then hq⟩
  · rw [sp0_len]
    exact (b1.quiet ((Chg.refl _ _).alloc _)).quiet ((Chg.refl _ _).alloc _)
  · show Row _ 96 6 _ (List.replicate nodes hd0).length (hdCells (List.replicate nodes hd0))
    rw [List.length_replicate]
    exact hr.alloc _
  · have h0 := HC.out.size
    simp [foot_some] at hk
    rcases hk with rfl | rfl | rfl | rfl <;> omega
set_option maxHeartbeats 3200000 in
theorem snew_bad {gs slots nodes : Int} (hb : ¬ ((1 ≤ gs ∧ gs ≤ 64) ∧ (1 ≤ slots ∧ slots ≤ 32) ∧ 1 ≤ nodes ∧ nodes ≤ 512)) (w : World) :
    Calls Try.prog 11 #[.int .i64 gs, .int .i64 slots, .int .i64 nodes] w fun e w' => e = .returned (.tuple #[.pointer none, .int .i64 2]) ∧ w' = w := by
  have U1 := upTo_any gs 64
  have U2 := upTo_any slots 32
  have U3 := upTo_any nodes 512
  have t1 : True := trivial
  have t2 : True := trivial
  by_cases h1 : 1 ≤ gs ∧ gs ≤ 64
  · rw [decide_eq_true h1] at U1
    by_cases h2 : 1 ≤ slots ∧ slots ≤ 32
    · have h3 : ¬ (1 ≤ nodes ∧ nodes ≤ 512) := fun h => hb ⟨h1, h2, h⟩
      rw [decide_eq_true h2] at U2
      rw [decide_eq_false h3] at U3
      clear hb h1 h2 h3
      go_enter Try.func11, Try.ntmps11
      go_wp2_with (first
        | (go_at_call 39; have _t := t1; refine (U1 _).mono ?_; rintro e w' ⟨rfl, rfl⟩; clear t1)
        | (go_at_call 39; have _t := t2; refine (U2 _).mono ?_; rintro e w' ⟨rfl, rfl⟩; clear t2)
        | (go_at_call 39; refine (U3 _).mono ?_; rintro e w' ⟨rfl, rfl⟩))
      go_ret2
      exact ⟨rfl, rfl⟩
    · rw [decide_eq_false h2] at U2
      clear hb h1 h2
      go_enter Try.func11, Try.ntmps11
      go_wp2_with (first
        | (go_at_call 39; have _t := t1; refine (U1 _).mono ?_; rintro e w' ⟨rfl, rfl⟩; clear t1)
        | (go_at_call 39; have _t := t2; refine (U2 _).mono ?_; rintro e w' ⟨rfl, rfl⟩; clear t2))
      go_ret2
      exact ⟨rfl, rfl⟩
  · rw [decide_eq_false h1] at U1
    clear hb h1
    go_enter Try.func11, Try.ntmps11
    go_wp2_with (go_at_call 39; refine (U1 _).mono ?_; rintro e w' ⟨rfl, rfl⟩)
    go_ret2
    exact ⟨rfl, rfl⟩
end Go.Proofs
end
