import Derived.Test.YtfbelpbfmafjdaaArV
namespace Go.Proofs
open Go.RowKit
set_option linter.unusedVariables false

/-- What there is where the document's ref names something. -/
theorem ris_form {w : World} {h : Nat} {S : List Nat} {r : RTab} (hr : RefAt w h S r) {i q : Int} (hq : r.is i q = true) :
    ∃ (k : Nat) (p : Pl) (gl cl : Nat), i = (k : Nat) ∧ q = p.gen ∧ r.L[k]? = some p ∧ p.there = true ∧ k < r.L.length ∧ Blk w h 56 #[.slice (some ⟨gl, 0, none⟩) r.L.length cl, .int .i64 r.times] ∧
      Row w 58 5 (.slice (some ⟨gl, 0, none⟩) r.L.length cl) r.L.length (plCells r.L) ∧ S = h :: foot (.slice (some ⟨gl, 0, none⟩) r.L.length cl) ∧ r.L.length ≤ cl ∧ gl < w.heap.size ∧ h ≠ gl ∧
      w.cell? ⟨gl, k * 5, none⟩ = some (.int .u64 p.gen) ∧ w.cell? ⟨gl, k * 5 + 1, none⟩ = some (.bool p.there) ∧
      w.cell? ⟨gl, k * 5 + 2, none⟩ = some (.bool p.retired) ∧ w.cell? ⟨gl, k * 5 + 3, none⟩ = some (.int .i64 p.x) ∧ w.cell? ⟨gl, k * 5 + 4, none⟩ = some (.int .i64 p.freed) ∧ (∀ j, w.frozen? ⟨gl, j, none⟩ = false) := by
  obtain ⟨k, p, rfl, hp, ht, rfl⟩ := ris_iff.1 hq
  obtain ⟨VL, hB, hL, hSS⟩ := hr
  obtain ⟨gl, cl, rfl, hc, hlt, hk, b0, b1, b2, b3, b4, f⟩ := ref_spot hL hp
  have hg : h ≠ gl := by have := hL.ty hB (by decide); simpa [foot_some] using this
  exact ⟨k, p, gl, cl, rfl, rfl, hp, ht, hk, hB, hL, hSS, hc, hlt, hg, b0, b1, b2, b3, b4, f⟩

theorem rget_no {w : World} {h : Nat} {S : List Nat} {r : RTab} (hr : RefAt w h S r) (hn : r.L.length ≤ 4096) (i q : Int) (hq : r.is i q = false) :
    Calls Try.prog 34 #[.pointer (some ⟨h, 0, none⟩), .agg #[.int .i64 i, .int .u64 q]] w fun e w' => e = .returned (.tuple #[.int .i64 0, .int .i64 11]) ∧ Chg [] w w' := by
  have HA := fun w' h' => ris_any (w := w') (h := h) (S := S) (r := r) h' hn i q
  rw [hq] at HA
  clear hq
  go_enter Try.func34, Try.ntmps34
  go_wp2_with (go_at_call 48; refine (HA _ (hr.quiet (Chg.alloc (Chg.refl _ _) _))).mono ?_; rintro e w1 ⟨rfl, hc1⟩)
  go_ret2
  exact ⟨rfl, ((Chg.refl _ _).alloc _).then hc1⟩
theorem rget_yes {w : World} {h : Nat} {S : List Nat} {r : RTab} (hr : RefAt w h S r) (hn : r.L.length ≤ 4096) {i q : Int} (hq : r.is i q = true) {p : Pl} (hp : r.L[i.toNat]? = some p) :
    Calls Try.prog 34 #[.pointer (some ⟨h, 0, none⟩), .agg #[.int .i64 i, .int .u64 q]] w fun e w' => e = .returned (.tuple #[.int .i64 p.x, .int .i64 0]) ∧ Chg [] w w' := by
  have HA := fun w' h' => ris_any (w := w') (h := h) (S := S) (r := r) h' hn i q
  rw [hq] at HA
  obtain ⟨k, p', gl, cl, rfl, rfl, hp', ht, hk, hB, hL, hSS, hcl, lg, hg, b0, b1, b2, b3, b4, f⟩ := ris_form hr hq
  simp only [Int.toNat_natCast] at hp
  rw [hp'] at hp
  obtain rfl : p' = p := by injection hp
  have lh := hB.lt
  have a0 := hB.cell 0
  obtain ⟨n, hnn⟩ : ∃ n, n = r.L.length := ⟨_, rfl⟩
  rw [← hnn] at a0 hk hcl
  have i0 : (0 : Int) ≤ (k : Int) := by omega
  have i1 : (k : Int) < (n : Int) := by omega
  obtain ⟨G, hG⟩ : ∃ G, G = p'.gen := ⟨_, rfl⟩
  obtain ⟨X, hX⟩ : ∃ X, X = p'.x := ⟨_, rfl⟩
  rw [← hX] at b3 ⊢
  rw [← hG] at HA ⊢
  clear hB hL hSS hp hp' ht b0 b1 b2 b4 f hnn hq hG hX
  go_enter Try.func34, Try.ntmps34
  go_wp2_with (go_at_call 48; refine (HA _ (hr.quiet (Chg.alloc (Chg.refl _ _) _))).mono ?_; rintro e w1 ⟨rfl, hc1⟩; have hb := ((Blk.new w 36 #[.int .i64 (k : Nat), .int .u64 G]).chg hc1 (by simp)); have k0 := hb.cell 0; have k1 := hb.cell 1; have x0 := ((((Chg.refl [] w).alloc _).then hc1).cell (p := ⟨h, 0, none⟩) lh (by simp)).trans a0; have x3 := ((((Chg.refl [] w).alloc _).then hc1).cell (p := ⟨gl, k * 5 + 3, none⟩) lg (by simp)).trans b3)
  go_quiet (fail)
  go_wp2
  go_ret2
  exact ⟨rfl, (((Chg.refl _ _).alloc _).then hc1).drewN _⟩

theorem rset_no {w : World} {h : Nat} {S : List Nat} {r : RTab} (hr : RefAt w h S r) (hn : r.L.length ≤ 4096) (i q x : Int) (hq : r.is i q = false) :
    Calls Try.prog 35 #[.pointer (some ⟨h, 0, none⟩), .agg #[.int .i64 i, .int .u64 q], .int .i64 x] w fun e w' => e = .returned (.int .i64 11) ∧ Chg [] w w' := by
  have HA := fun w' h' => ris_any (w := w') (h := h) (S := S) (r := r) h' hn i q
  rw [hq] at HA
  clear hq
  go_enter Try.func35, Try.ntmps35
  go_wp2_with (go_at_call 48; refine (HA _ (hr.quiet (Chg.alloc (Chg.refl _ _) _))).mono ?_; rintro e w1 ⟨rfl, hc1⟩)
  go_ret
  exact ⟨rfl, ((Chg.refl _ _).alloc _).then hc1⟩
def RTab.thing (r : RTab) (i : Nat) (x : Int) : RTab := match r.L[i]? with | some p => { r with L := r.L.set i { p with x := x } } | none => r
theorem plCells_thing (l : List Pl) (k : Nat) (p : Pl) (x : Int) (h : l[k]? = some p) : plCells (l.set k { p with x := x }) = (plCells l).set (k * 5 + 3) (.int .i64 x) := by
  obtain ⟨h0, h1, h2, h3, h4⟩ := plCells_at l k p h
  have hk := (List.getElem?_eq_some_iff.1 h).1
  rw [plCells_set l k _ hk, set_self_at h0, set_self_at h1, set_self_at h2]
  refine set_self_at ?_
  rw [List.getElem?_set_ne (by omega)]; exact h4
set_option maxRecDepth 100000 in
theorem rset_yes {w : World} {h : Nat} {S : List Nat} {r : RTab} (hr : RefAt w h S r) (hn : r.L.length ≤ 4096) {i q : Int} (x : Int) (hq : r.is i q = true) :
    Calls Try.prog 35 #[.pointer (some ⟨h, 0, none⟩), .agg #[.int .i64 i, .int .u64 q], .int .i64 x] w fun e w' => e = .returned (.int .i64 0) ∧ RTurns h S (r.thing i.toNat x) w w' := by
  have HA := fun w' h' => ris_any (w := w') (h := h) (S := S) (r := r) h' hn i q
  rw [hq] at HA
  obtain ⟨k, p, gl, cl, rfl, rfl, hp, ht, hk, hB, hL, hSS, hcl, lg, hg, b0, b1, b2, b3, b4, f⟩ := ris_form hr hq
  have hT : ∀ w1, Chg [] w w1 → RTurns h S (r.thing k x) w (w1.setCell ⟨gl, k * 5 + 3, none⟩ (.int .i64 x)) := fun w1 hc => by
    rw [show r.thing k x = { r with L := r.L.set k { p with x := x } } by unfold RTab.thing; rw [hp], hSS]
    have hr := (hL.chg hc (fun _ _ h => by cases h)).set_ (j := k * 5 + 3) (by omega) (.int .i64 x)
    rw [← plCells_thing r.L k p x hp] at hr
    exact ⟨_, ⟨_, (hB.chg hc (by simp)).far hg _, by simpa using hr, rfl⟩, fun j hj => .inl (by simpa using hj), hc.any.setCell (.inl (by simp [foot_some])) _⟩
  have HT := Lib.hid hT
  have lh := hB.lt
  have a0 := hB.cell 0
  have f3 := f (k * 5 + 3)
  obtain ⟨n, hnn⟩ : ∃ n, n = r.L.length := ⟨_, rfl⟩
  rw [← hnn] at a0 hk hcl
  have i0 : (0 : Int) ≤ (k : Int) := by omega
  have i1 : (k : Int) < (n : Int) := by omega
  obtain ⟨G, hG⟩ : ∃ G, G = p.gen := ⟨_, rfl⟩
  obtain ⟨X, hX⟩ : ∃ X, X = p.x := ⟨_, rfl⟩
  rw [← hX] at b3
  rw [← hG] at HA ⊢
  rw [show ((k : Nat) : Int).toNat = k from rfl]
  clear hB hL hSS hp ht b0 b1 b2 b4 f hnn hq hG hX hT
  go_enter Try.func35, Try.ntmps35
  go_wp2_with (go_at_call 48; refine (HA _ (hr.quiet (Chg.alloc (Chg.refl _ _) _))).mono ?_; rintro e w1 ⟨rfl, hc1⟩; have hb := ((Blk.new w 36 #[.int .i64 (k : Nat), .int .u64 G]).chg hc1 (by simp)); have k0 := hb.cell 0; have k1 := hb.cell 1; have x0 := ((((Chg.refl [] w).alloc _).then hc1).cell (p := ⟨h, 0, none⟩) lh (by simp)).trans a0; have x3 := ((((Chg.refl [] w).alloc _).then hc1).cell (p := ⟨gl, k * 5 + 3, none⟩) lg (by simp)).trans b3; have y3 := ((((Chg.refl [] w).alloc _).then hc1).frozen (p := ⟨gl, k * 5 + 3, none⟩) lg (by simp)).trans f3)
  go_region
  all_goals
    go_wp2
    go_ret
    exact ⟨rfl, HT.out _ (((((Chg.refl _ _).alloc _).then hc1)).drew)⟩
end Go.Proofs
