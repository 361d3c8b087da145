import Derived.Test.YtocdkomjdcccoaaGreatNb3
import Derived.Test.YtocdkomjdcccoaaGreatNb1
section
namespace Go.Proofs
open Go.RowKit Go.Shelf
set_option linter.unusedVariables false
set_option linter.unusedSimpArgs false
/-! ### No contexts, or zero ones -/
def NoC (w : World) (pt : Option Addr) : Prop := pt = none ∨ ∃ b, pt = some ⟨b, 0, none⟩ ∧ Blk w b 66 #[.pointer none, .int .i64 0]
theorem NoC.quiet {w w' : World} {pt : Option Addr} (h : NoC w pt) (hc : Chg [] w w') : NoC w' pt := h.imp id fun ⟨b, h1, h2⟩ => ⟨b, h1, h2.chg hc (by simp)⟩
/-- Nothing that is asked for. -/
def Any (w : World) : Prop := True
theorem Any.quiet {w w' : World} (h : Any w) (hc : Chg [] w w') : Any w' := trivial
theorem size_nil (w : World) : Calls Tryz.prog 61 #[.pointer none] w fun e w' => e = .returned (.int .i64 0) ∧ w = w' := by
  go_enter Tryz.func61, Tryz.ntmps61
  go_wp2
  go_ret
  exact ⟨rfl, rfl⟩
theorem free_nil (w : World) : Calls Tryz.prog 89 #[.pointer none] w fun e w' => e = .returned (.int .i64 0) ∧ w = w' := by
  go_enter Tryz.func89, Tryz.ntmps89
  go_wp2
  go_ret
  exact ⟨rfl, rfl⟩
theorem ret_nil (w : World) : Calls Tryz.prog 111 #[.pointer none] w fun e w' => e = .returned (.int .i64 0) ∧ w = w' := by
  go_enter Tryz.func111, Tryz.ntmps111
  go_wp2
  go_ret
  exact ⟨rfl, rfl⟩
theorem len_nil (w : World) : Calls Tryz.prog 77 #[.pointer none] w fun e w' => e = .returned (.int .i64 0) ∧ w = w' := by
  go_enter Tryz.func77, Tryz.ntmps77
  go_wp2_with (first
    | (go_at_call 61; refine (size_nil _).mono ?_; rintro e w' ⟨rfl, rfl⟩)
    | (go_at_call 89; refine (free_nil _).mono ?_; rintro e w' ⟨rfl, rfl⟩)
    | (go_at_call 111; refine (ret_nil _).mono ?_; rintro e w' ⟨rfl, rfl⟩))
  go_ret
  exact ⟨rfl, rfl⟩
theorem tnone_nil (w : World) : Calls Tryz.prog 90 #[.pointer none] w fun e w' => e = .returned (.bool true) ∧ w = w' := by
  go_enter Tryz.func90, Tryz.ntmps90
  go_wp2_with (go_at_call 61; refine (size_nil _).mono ?_; rintro e w' ⟨rfl, rfl⟩)
  go_ret
  exact ⟨rfl, rfl⟩
theorem find_nil (w : World) (i q : Int) : Calls Tryz.prog 94 #[.pointer none, .agg #[.int .i64 i, .int .u64 q]] w fun e w' => e = .returned (.tuple #[.pointer none, .int .i64 1]) ∧ Chg [] w w' := by
  go_enter Tryz.func94, Tryz.ntmps94
  go_wp2_with (go_at_call 90; refine (tnone_nil _).mono ?_; rintro e w' ⟨rfl, rfl⟩)
  exact bodyPost_ret (v := .tuple #[.pointer none, .int .i64 1]) (by simp [results, Tryz.results94, go_sem]) rfl ⟨rfl, (Chg.refl _ _).alloc _⟩
set_option maxRecDepth 100000 in
theorem get_nil (w : World) (i q : Int) : Calls Tryz.prog 62 #[.pointer none, .agg #[.int .i64 i, .int .u64 q]] w fun e w' => e = .returned (.tuple #[cx0.val, .int .i64 1]) ∧ Chg [] w w' := by
  go_enter Tryz.func62, Tryz.ntmps62
  go_wp2_with (go_at_call 94; refine (find_nil _ _ _).mono ?_; rintro e w1 ⟨rfl, hc1⟩; have hz : w.heap.size + 1 < w1.heap.size := (by have := hc1.size; simp at this; omega); have HC := Lib.hid (((Chg.refl [] w).alloc _).alloc _ |>.then hc1); have hB1 := (box2 rfl hc1); have k0 := hB1.cell 0; have k1 := hB1.cell 1; have k2 := hB1.cell 2; have k3 := hB1.cell 3; have f0 := hB1.frozen; clear hB1 hc1)
  refine bodyPost_ret (v := .tuple #[cx0.val, .int .i64 1]) ?_ rfl ⟨rfl, (chg_box HC.out 0 cx0).alloc _⟩
  simp [results, Tryz.results62, go_sem, cx0, Cx.val, hz, k0, k1, k2, k3]
section
variable {w : World} {pt : Option Addr}
theorem none_no (h : NoC w pt) : Calls Tryz.prog 49 #[.pointer pt] w fun e w' => e = .returned (.bool true) ∧ w = w' := by
  rcases h with rfl | ⟨b, rfl, h⟩
  · go_enter Tryz.func49, Tryz.ntmps49
    go_wp2
    go_ret
    exact ⟨rfl, rfl⟩
  · have c0 := h.cell 0
    go_enter Tryz.func49, Tryz.ntmps49
    go_wp2
    go_ret
    exact ⟨rfl, rfl⟩
theorem places_no (h : NoC w pt) : Calls Tryz.prog 43 #[.pointer pt] w fun e w' => e = .returned (.pointer none) ∧ w = w' := by
  rcases h with rfl | ⟨b, rfl, h⟩
  · go_enter Tryz.func43, Tryz.ntmps43
    go_wp2
    go_ret
    exact ⟨rfl, rfl⟩
  · have c0 := h.cell 0
    go_enter Tryz.func43, Tryz.ntmps43
    go_wp2
    go_ret
    exact ⟨rfl, rfl⟩
theorem len_no (h : NoC w pt) : Calls Tryz.prog 32 #[.pointer pt] w fun e w' => e = .returned (.int .i64 0) ∧ Chg [] w w' := by
  go_enter Tryz.func32, Tryz.ntmps32
  go_wp2_with (first
    | (go_at_call 43; refine (places_no h).mono ?_; rintro e w' ⟨rfl, rfl⟩)
    | (go_at_call 77; refine (len_nil _).mono ?_; rintro e w' ⟨rfl, rfl⟩))
  go_ret
  exact ⟨rfl, Chg.refl _ _⟩
theorem copy_no (h : NoC w pt) : Calls Tryz.prog 20 #[.pointer pt] w fun e w' => e = .returned (.pointer none) ∧ w = w' := by
  go_enter Tryz.func20, Tryz.ntmps20
  go_wp2_with (go_at_call 49; refine (none_no h).mono ?_; rintro e w' ⟨rfl, rfl⟩)
  go_ret
  exact ⟨rfl, rfl⟩
theorem gone_no (i q : Int) : Calls Tryz.prog 55 #[.pointer pt, .agg #[.int .i64 i, .int .u64 q]] w fun e w' => (∃ n m, e = .returned (.func (.func 93) #[] #[.pointer (some ⟨n, 0, none⟩), .pointer (some ⟨m, 0, none⟩)]) ∧ Any w') ∧ Chg [] w w' := by
  go_enter Tryz.func55, Tryz.ntmps55
  go_wp2
  go_ret
  exact ⟨⟨_, _, rfl, trivial⟩, ((Chg.refl _ _).alloc _).alloc _⟩
theorem lacks_no (i q am now : Int) : Calls Tryz.prog 65 #[.pointer pt, .agg #[.int .i64 i, .int .u64 q], .int .u64 am, .int .u64 now] w fun e w' => (∃ n m k l, e = .returned (.func (.func 98) #[] #[.pointer (some ⟨n, 0, none⟩), .pointer (some ⟨m, 0, none⟩), .pointer (some ⟨k, 0, none⟩), .pointer (some ⟨l, 0, none⟩)]) ∧ Any w') ∧ Chg [] w w' := by
  go_enter Tryz.func65, Tryz.ntmps65
  go_wp2
  go_ret
  exact ⟨⟨_, _, _, _, rfl, trivial⟩, ((((Chg.refl _ _).alloc _).alloc _).alloc _).alloc _⟩
theorem crowded_no (i q am now : Int) : Calls Tryz.prog 72 #[.pointer pt, .agg #[.int .i64 i, .int .u64 q], .int .u64 am, .int .u64 now] w fun e w' => (∃ n m k l, e = .returned (.func (.func 103) #[] #[.pointer (some ⟨n, 0, none⟩), .pointer (some ⟨m, 0, none⟩), .pointer (some ⟨k, 0, none⟩), .pointer (some ⟨l, 0, none⟩)]) ∧ Any w') ∧ Chg [] w w' := by
  go_enter Tryz.func72, Tryz.ntmps72
  go_wp2
  go_ret
  exact ⟨⟨_, _, _, _, rfl, trivial⟩, ((((Chg.refl _ _).alloc _).alloc _).alloc _).alloc _⟩
theorem refused_at {B : Nat} (h : NoC w pt) (L : Rfs3) (hL : L.length ≤ 8) (hB : Blk w B 90 (rowC ((1, .func (.func 49) #[.pointer pt] #[], true) :: L)).toArray) {E : Int} (hE : E = 1) {n : Nat} (hn : n = L.length + 1) :
    Calls Tryz.prog 48 #[.slice (some ⟨B, 0, none⟩) n n] w fun e w' => e = .returned (.int .i64 E) ∧ Chg [] w w' := by
  have h1 : firstE ((1, .func (.func 49) #[.pointer pt] #[], true) :: L) = 1 := rfl
  rw [hE, ← h1]
  refine refused_any hB (by simpa using hn) (by omega) fun k x hx hp => ?_
  cases k with
  | zero =>
    simp only [List.getElem?_cons_zero, Option.some.injEq] at hx
    subst hx
    exact ⟨49, #[.pointer pt], #[], rfl, fun W => by kernel_rfl, fun W hW => (none_no (h.quiet hW)).mono fun e W' ⟨h1, h2⟩ => ⟨h1, h2 ▸ Chg.refl _ _⟩⟩
  | succ k =>
    have := hp 0 _ (by omega) (List.getElem?_cons_zero ..)
    cases this
theorem refused_nil (h : NoC w pt) (L : Rfs3) (hL : L.length ≤ 8) (o : Obj) (ho : o = .cells (rowC ((1, .func (.func 49) #[.pointer pt] #[], true) :: L)).toArray 90) {E : Int} (hE : E = 1) {n : Nat} (hn : n = L.length + 1) :
    Calls Tryz.prog 48 #[.slice (some ⟨w.heap.size, 0, none⟩) n n] (w.alloc o) fun e w' => e = .returned (.int .i64 E) ∧ Chg [] (w.alloc o) w' := by
  subst ho
  exact refused_at (h.quiet ((Chg.refl _ _).alloc _)) L hL (Blk.new _ 90 _) hE hn
set_option maxRecDepth 100000 in
set_option maxHeartbeats 3200000 in
theorem atc_no (h : NoC w pt) (i q : Int) :
    Calls Tryz.prog 57 #[.pointer pt, .agg #[.int .i64 i, .int .u64 q]] w fun e w' => e = .returned cx0.val ∧ Chg [] w w' := by
  have HP := fun W (hW : Chg [] w W) => places_no (h.quiet hW)
  have HG := fun W (hc : Chg [] w W) => get_nil W i q
  obtain ⟨x, hx⟩ : ∃ x, x = cx0 := ⟨_, rfl⟩
  rw [← hx] at HG ⊢
  obtain ⟨e0, he⟩ : ∃ e0, e0 = (1 : Int) := ⟨_, rfl⟩
  rw [← he] at HG
  have HP := Lib.hid HP
  have HG := Lib.hid HG
  clear hx he h
  have hq2 : ¬ (w.heap.size + 1 + 1 = w.heap.size) := by omega
  have hq3 : ¬ (w.heap.size = w.heap.size + 1 + 1) := by omega
  go_enter Tryz.func57, Tryz.ntmps57
  go_wp2
  go_region_held3 (fun w' => w'.cell? ⟨w.heap.size, 0, none⟩ = some (.int .i64 i) ∧ w'.cell? ⟨w.heap.size, 1, none⟩ = some (.int .u64 q))
    (first | go_keep)
    (first
      | (go_at_call 43; refine (HP.out _ ((((Chg.refl _ _).alloc _).alloc _).drew)).mono ?_; rintro e w1 ⟨rfl, rfl⟩)
      | (go_at_call 43; refine (HP.out _ (((((Chg.refl _ _).alloc _).alloc _).alloc _).drew)).mono ?_; rintro e w1 ⟨rfl, rfl⟩)
      | (go_at_call 62; refine (HG.out _ ((((Chg.refl _ _).alloc _).alloc _).drew)).mono ?_; rintro e w2 ⟨rfl, hc⟩; obtain ⟨_, b0, b1⟩ := ref_facts (w := w) rfl (((Chg.refl [] _).alloc _).drew) hc; obtain ⟨hz, r0, r1, r2, r3, rf⟩ := cx_facts (w := w.alloc (obRef i q)) (n := w.heap.size + 1) (by simp) ((Chg.refl [] _).drew) hc; have hq4 : ¬ (w2.heap.size = w.heap.size) := (by omega); have hq5 : ¬ (w.heap.size = w2.heap.size) := (by omega); have HC := Lib.hid ((((Chg.refl [] w).alloc _).alloc _).drew.then hc); clear hc)
      | (go_at_call 62; refine (HG.out _ (((((Chg.refl _ _).alloc _).alloc _).alloc _).drew)).mono ?_; rintro e w2 ⟨rfl, hc⟩; obtain ⟨_, b0, b1⟩ := ref_facts (w := w) rfl ((((Chg.refl [] _).alloc _).alloc _).drew) hc; obtain ⟨hz0, r0, r1, r2, r3, rf⟩ := cx_facts (w := w.alloc (obRef i q)) (n := w.heap.size + 1) (by simp) (((Chg.refl [] _).alloc _).drew) hc; obtain ⟨hz, k0, k1, k2, k3, kf⟩ := cx_facts (w := (w.alloc (obRef i q)).alloc obCx) (n := w.heap.size + 1 + 1) (by simp) ((Chg.refl [] _).drew) hc; have HC := Lib.hid (((((Chg.refl [] w).alloc _).alloc _).alloc _).drew.then hc); clear hc))
  all_goals
    go_wp2
    refine bodyPost_ret (v := x.val) ?_ rfl ⟨rfl, by repeat' (first | with_reducible exact HC.out | with_reducible apply Chg.alloc | with_reducible apply Chg.setCell | (with_reducible refine Or.inr ?_; dsimp only; omega))⟩
    simp [results, Tryz.results57, go_sem, Cx.val, hz, r0, r1, r2, r3]
theorem nil_rd (w : World) : Rd w cx0.v cx0.l := Rd.nil w
set_option maxHeartbeats 3200000 in
set_option maxRecDepth 100000 in
theorem Get_no (h : NoC w pt) (i q : Int) :
    Calls Tryz.prog 24 #[.pointer pt, .agg #[.int .i64 i, .int .u64 q]] w fun e w' => ∃ A cc, e = .returned (.tuple #[.agg #[.int .u64 0, .int .u64 0, .slice A 0 cc, .int .i64 0], .int .i64 1]) ∧ Chg [] w w' := by
  have HAP := Lib.hid (fun W (hW : Chg [] w W) => apart_any (w := W) (x := cx0) (nil_rd W) (by decide))
  have HP := fun W (hW : Chg [] w W) => places_no (h.quiet hW)
  have HG := fun W (hc : Chg [] w W) => get_nil W i q
  suffices hs : Calls Tryz.prog 24 #[.pointer pt, .agg #[.int .i64 i, .int .u64 q]] w fun e w' => ∃ A cc, e = .returned (.tuple #[.agg #[.int .u64 cx0.b, .int .u64 cx0.p, .slice A cx0.l.length cc, .int .i64 cx0.n], .int .i64 1]) ∧ Own w w' (.slice A cx0.l.length cc) cx0.l from
    hs.mono fun e w' ⟨A, cc, h1, h2⟩ => ⟨A, cc, h1, h2.2.2⟩
  obtain ⟨x, hx⟩ : ∃ x, x = cx0 := ⟨_, rfl⟩
  rw [← hx] at HG HAP
  obtain ⟨e0, he⟩ : ∃ e0, e0 = (1 : Int) := ⟨_, rfl⟩
  rw [← he] at HG
  have HXX := Lib.hid hx
  have HEE := Lib.hid he
  have HP := Lib.hid HP
  have HG := Lib.hid HG
  have hq2 : ¬ (w.heap.size + 1 + 1 = w.heap.size) := by omega
  have hq3 : ¬ (w.heap.size = w.heap.size + 1 + 1) := by omega
  clear hx he h
  go_enter Tryz.func24, Tryz.ntmps24
  go_wp2
  go_region_held3 (fun w' => w'.cell? ⟨w.heap.size, 0, none⟩ = some (.int .i64 i) ∧ w'.cell? ⟨w.heap.size, 1, none⟩ = some (.int .u64 q))
    (first | go_keep)
    (first
      | (go_at_call 43; refine (HP.out _ ((((Chg.refl _ _).alloc _).alloc _).drew)).mono ?_; rintro e w1 ⟨rfl, rfl⟩)
      | (go_at_call 43; refine (HP.out _ (((((Chg.refl _ _).alloc _).alloc _).alloc _).drew)).mono ?_; rintro e w1 ⟨rfl, rfl⟩)
      | (go_at_call 62; refine (HG.out _ ((((Chg.refl _ _).alloc _).alloc _).drew)).mono ?_; rintro e w2 ⟨rfl, hc⟩; obtain ⟨_, b0, b1⟩ := ref_facts (w := w) rfl (((Chg.refl [] _).alloc _).drew) hc; obtain ⟨hz, r0, r1, r2, r3, rf⟩ := cx_facts (w := w.alloc (obRef i q)) (n := w.heap.size + 1) (by simp) ((Chg.refl [] _).drew) hc; have hq4 : ¬ (w2.heap.size = w.heap.size) := (by omega); have hq5 : ¬ (w.heap.size = w2.heap.size) := (by omega); have HC := Lib.hid ((((Chg.refl [] w).alloc _).alloc _).drew.then hc); have HBQ := Lib.hid ((Blk.at (w.alloc (obRef i q)) 43 #[.int .u64 0, .int .u64 0, .slice none 0 0, .int .i64 0] (n := w.heap.size + 1) (by simp)).drew.chg hc (by simp)); clear hc)
      | (go_at_call 62; refine (HG.out _ (((((Chg.refl _ _).alloc _).alloc _).alloc _).drew)).mono ?_; rintro e w2 ⟨rfl, hc⟩; obtain ⟨_, b0, b1⟩ := ref_facts (w := w) rfl ((((Chg.refl [] _).alloc _).alloc _).drew) hc; obtain ⟨hz0, r0, r1, r2, r3, rf⟩ := cx_facts (w := w.alloc (obRef i q)) (n := w.heap.size + 1) (by simp) (((Chg.refl [] _).alloc _).drew) hc; obtain ⟨hz, k0, k1, k2, k3, kf⟩ := cx_facts (w := (w.alloc (obRef i q)).alloc obCx) (n := w.heap.size + 1 + 1) (by simp) ((Chg.refl [] _).drew) hc; have HC := Lib.hid (((((Chg.refl [] w).alloc _).alloc _).alloc _).drew.then hc); have HBQ := Lib.hid (((Blk.at (w.alloc (obRef i q)) 43 #[.int .u64 0, .int .u64 0, .slice none 0 0, .int .i64 0] (n := w.heap.size + 1) (by simp)).alloc obCx).drew.chg hc (by simp)); clear hc))
  all_goals
    go_wp2_with (go_at_call 46; refine (HAP.out _ (by repeat' (first | with_reducible exact HC.out | with_reducible apply Chg.alloc | with_reducible apply Chg.setCell | (with_reducible refine Or.inr ?_; dsimp only; omega)))).mono ?_; rintro e w3 ⟨A, cc, rfl, ho⟩; have hcc := ho.2.2; have hb3 : Blk w3 (w.heap.size + 1) 43 #[.int .u64 0, .int .u64 0, .slice none 0 0, .int .i64 0] := (by first | (with_reducible exact (HBQ.out.alloc _).chg hcc List.not_mem_nil) | (with_reducible exact (HBQ.out.far4 (g := w.heap.size + 1 + 1) (show w.heap.size + 1 ≠ w.heap.size + 1 + 1 by omega) 0 x).chg hcc List.not_mem_nil) | exact (HBQ.out.far4 (g := w.heap.size + 1 + 1) (show w.heap.size + 1 ≠ w.heap.size + 1 + 1 by omega) 0 x).chg hcc List.not_mem_nil); have HB3 := Lib.hid hb3; have m0 := hb3.cell 0; have m1 := hb3.cell 1; have m2 := hb3.cell 2; have m3 := hb3.cell 3; have mf := hb3.frozen; have ml := hb3.lt; have HO := Lib.hid (ho.before (by repeat' (first | with_reducible exact HC.out | with_reducible apply Chg.alloc | with_reducible apply Chg.setCell | (with_reducible refine Or.inr ?_; dsimp only; omega)))); clear ho hb3 hcc)
    refine bodyPost_ret (v := .tuple #[.agg #[.int .u64 x.b, .int .u64 x.p, .slice A x.l.length cc, .int .i64 x.n], .int .i64 e0]) ?_ rfl ⟨A, cc, by rw [← HXX.out, ← HEE.out], ?_⟩
    · simp [results, Tryz.results24, go_sem, ml, m0, m1, m2, m3]
    · rw [← HXX.out]
      refine HO.out.chg (S := [w.heap.size + 1]) ?_ (HO.out.rd.off (Off.cons HB3.out (by decide) (Off.nil _))) (fun k hk => by simp at hk; omega)
      repeat' (first | with_reducible exact Chg.refl _ _ | with_reducible apply Chg.drew | with_reducible apply Chg.setCell | (with_reducible refine Or.inl ?_; simp; done))
set_option maxHeartbeats 3200000 in
set_option maxRecDepth 100000 in
theorem Next_no (h : NoC w pt) (i q now : Int) :
    Calls Tryz.prog 26 #[.pointer pt, .agg #[.int .i64 i, .int .u64 q], .int .u64 now] w fun e w' => e = .returned (.tuple #[.int .u64 0, .bool false]) ∧ Chg [] w w' := by
  have HA := Lib.hid (fun W (hW : Chg [] w W) => (atc_no (h.quiet hW) i q : Calls Tryz.prog 57 #[.pointer pt, .agg #[.int .i64 i, .int .u64 q]] W fun e w' => e = .returned (.agg #[.int .u64 cx0.b, .int .u64 cx0.p, .slice cx0.a cx0.m cx0.c, .int .i64 cx0.n]) ∧ Chg [] W w'))
  have HT := Lib.hid (fun W (hW : Chg [] w W) => next_any (sorts_all 1000 (by omega)) (nil_rd W) (by decide) (by decide) now)
  have hnp : nextP cx0.l now = (0, false) := by rfl
  rw [hnp] at HT
  obtain ⟨x, hx⟩ : ∃ x, x = cx0 := ⟨_, rfl⟩
  rw [← hx] at HA HT
  obtain ⟨a1, ha1⟩ : ∃ a1, a1 = (0 : Int) := ⟨_, rfl⟩
  obtain ⟨a2, ha2⟩ : ∃ a2, a2 = false := ⟨_, rfl⟩
  have hfl := fldR x.b x.p x.n x.a x.m x.c
  clear hx h ha1 ha2 hnp
  go_enter Tryz.func26, Tryz.ntmps26
  go_wp2_with (first
    | (go_at_call 57; refine (HA.out _ ((Chg.refl _ _).alloc _)).mono ?_; rintro e w1 ⟨rfl, hc⟩; have HC := Lib.hid (((Chg.refl [] w).alloc _).then hc); clear hc)
    | (go_at_call 67; refine (HT.out _ HC.out).mono ?_; rintro e w2 ⟨rfl, hc⟩; have HC2 := Lib.hid (HC.out.then hc); clear hc))
  go_ret2
  exact ⟨rfl, HC2.out⟩
set_option maxHeartbeats 3200000 in
set_option maxRecDepth 100000 in
theorem Can_no (h : NoC w pt) (i q now : Int) :
    Calls Tryz.prog 30 #[.pointer pt, .agg #[.int .i64 i, .int .u64 q], .int .u64 now] w fun e w' => e = .returned (.bool false) ∧ Chg [] w w' := by
  have HA := Lib.hid (fun W (hW : Chg [] w W) => (atc_no (h.quiet hW) i q : Calls Tryz.prog 57 #[.pointer pt, .agg #[.int .i64 i, .int .u64 q]] W fun e w' => e = .returned (.agg #[.int .u64 cx0.b, .int .u64 cx0.p, .slice cx0.a cx0.m cx0.c, .int .i64 cx0.n]) ∧ Chg [] W w'))
  have HT := Lib.hid (fun W (hW : Chg [] w W) => there_any (nil_rd W) (by exact Ok.nil) (by decide) now)
  obtain ⟨x, hx⟩ : ∃ x, x = cx0 := ⟨_, rfl⟩
  have hth : thereP cx0.l now = 0 := by rfl
  rw [hth] at HT
  rw [← hx] at HA HT
  have hfl := fldR x.b x.p x.n x.a x.m x.c
  clear hx h hth
  go_enter Tryz.func30, Tryz.ntmps30
  go_wp2_with (first
    | (go_at_call 57; refine (HA.out _ ((Chg.refl _ _).alloc _)).mono ?_; rintro e w1 ⟨rfl, hc⟩; have HC := Lib.hid (((Chg.refl [] w).alloc _).then hc); clear hc)
    | (go_at_call 74; refine (HT.out _ HC.out).mono ?_; rintro e w2 ⟨rfl, hc⟩; have HC2 := Lib.hid (HC.out.then hc); clear hc))
  go_ret
  exact ⟨rfl, HC2.out⟩
set_option maxHeartbeats 3200000 in
set_option maxRecDepth 100000 in
theorem Charge_no0 (h : NoC w pt) (i q now : Int) :
    Calls Tryz.prog 31 #[.pointer pt, .agg #[.int .i64 i, .int .u64 q], .int .u64 now] w fun e w' => e = .returned (.bool false) ∧ Chg [] w w' := by
  have HP := fun W (hW : Chg [] w W) => places_no (h.quiet hW)
  have HG := fun W (hc : Chg [] w W) => get_nil W i q
  obtain ⟨x, hx⟩ : ∃ x, x = cx0 := ⟨_, rfl⟩
  rw [← hx] at HG
  have HP := Lib.hid HP
  have HG := Lib.hid HG
  clear hx h
  go_enter Tryz.func31, Tryz.ntmps31
  go_wp2
  go_region_held3 (fun w' => w'.cell? ⟨w.heap.size, 0, none⟩ = some (.int .i64 i) ∧ w'.cell? ⟨w.heap.size, 1, none⟩ = some (.int .u64 q))
    (first | go_keep)
    (first
      | (go_at_call 43; refine (HP.out _ (((Chg.refl _ _).alloc _).drew)).mono ?_; rintro e w1 ⟨rfl, rfl⟩)
      | (go_at_call 43; refine (HP.out _ ((((Chg.refl _ _).alloc _).alloc _).drew)).mono ?_; rintro e w1 ⟨rfl, rfl⟩)
      | (go_at_call 62; refine (HG.out _ (((Chg.refl _ _).alloc _).drew)).mono ?_; rintro e w2 ⟨rfl, hc⟩; obtain ⟨hz, b0, b1⟩ := ref_facts (w := w) rfl ((Chg.refl [] _).drew) hc; have hq4 : ¬ (w2.heap.size = w.heap.size) := (by omega); have hq5 : ¬ (w.heap.size = w2.heap.size) := (by omega); have HC := Lib.hid (((Chg.refl [] w).alloc _).drew.then hc); have HC0 := Lib.hid ((Blk.new w 34 #[.int .i64 i, .int .u64 q]).drew.chg hc (by simp)); clear hc)
      | (go_at_call 62; refine (HG.out _ ((((Chg.refl _ _).alloc _).alloc _).drew)).mono ?_; rintro e w2 ⟨rfl, hc⟩; obtain ⟨_, b0, b1⟩ := ref_facts (w := w) rfl (((Chg.refl [] _).alloc _).drew) hc; obtain ⟨hz, k0, k1, k2, k3, kf⟩ := cx_facts (w := w.alloc (obRef i q)) (n := w.heap.size + 1) (by simp) ((Chg.refl [] _).drew) hc; have HC := Lib.hid ((((Chg.refl [] w).alloc _).alloc _).drew.then hc); have HBQ := Lib.hid ((Blk.at (w.alloc (obRef i q)) 43 #[.int .u64 0, .int .u64 0, .slice none 0 0, .int .i64 0] (n := w.heap.size + 1) (by simp)).drew.chg hc (by simp)); have HC0 := Lib.hid (((Blk.new w 34 #[.int .i64 i, .int .u64 q]).alloc obCx).drew.chg hc (by simp)); clear hc))
  all_goals
    go_wp2
    go_ret
    exact ⟨rfl, by repeat' (first | with_reducible exact HC.out | with_reducible apply Chg.alloc | with_reducible apply Chg.setCell | (with_reducible refine Or.inr ?_; dsimp only; omega))⟩
end
end Go.Proofs
end
section
namespace Go.Proofs
open Go.RowKit Go.Shelf
set_option linter.unusedVariables false
set_option linter.unusedSimpArgs false
section
variable {w : World} {pt : Option Addr}
set_option maxHeartbeats 3200000 in
set_option maxRecDepth 100000 in
theorem make_nil (h : NoC w pt) (b p now : Int) {E : Int} (hE : E = 1) :
    Calls Tryz.prog 17 #[.pointer pt, .int .u64 b, .int .u64 p, .int .u64 now] w fun e w' => e = .returned (.tuple #[.agg #[.int .i64 0, .int .u64 0], .int .i64 E]) ∧ Chg [] w w' := by
  have HM := Lib.hid (fun (o : Obj) (ho : o = .cells #[.int .i64 1, .func (.func 49) #[.pointer pt] #[], .int .i64 2, .func (.func 50) #[] #[ptr w.heap.size, ptr (w.heap.size + 1), ptr (w.heap.size + 1 + 1)], .int .i64 3, .func (.func 52) #[.pointer pt] #[]] 90) =>
    (show Calls Tryz.prog 48 #[.slice (some ⟨w.heap.size + 1 + 1 + 1 + 1, 0, none⟩) 3 3] ((wMake w b p now).alloc o) (fun e w' => e = .returned (.int .i64 E) ∧ Chg [] ((wMake w b p now).alloc o) w') from by
      have hs : (wMake w b p now).heap.size = w.heap.size + 1 + 1 + 1 + 1 := by simp
      have := refused_nil (w := wMake w b p now) (h.quiet (((((Chg.refl _ _).alloc _).alloc _).alloc _).alloc _)) [(2, .func (.func 50) #[] #[ptr w.heap.size, ptr (w.heap.size + 1), ptr (w.heap.size + 1 + 1)], false), (3, .func (.func 52) #[.pointer pt] #[], false)] (by simp) o (ho.trans rfl) hE (n := 3) rfl
      rw [hs] at this
      exact this))
  have he : (E != 0) = true := by rw [hE]; rfl
  clear hE h
  go_enter Tryz.func17, Tryz.ntmps17
  go_wp2_with (go_at_call 48; refine (HM.out _ rfl).mono ?_; rintro e w1 ⟨rfl, hc⟩; obtain ⟨hz, b0, b1, bf⟩ := ref_facts4 (w := ((w.alloc (obU b)).alloc (obU p)).alloc (obU now)) (n := w.heap.size + 1 + 1 + 1) (by simp) ((Chg.refl [] _).alloc _) hc; have HC := Lib.hid ((((((Chg.refl [] w).alloc _).alloc _).alloc _).alloc _).alloc _ |>.then hc); clear hc)
  refine bodyPost_ret (v := .tuple #[.agg #[.int .i64 0, .int .u64 0], .int .i64 E]) ?_ rfl ⟨rfl, by repeat' (first | with_reducible exact HC.out | with_reducible apply Chg.alloc | with_reducible apply Chg.setCell | (with_reducible refine Or.inr ?_; dsimp only; omega))⟩
  simp [results, Tryz.results17, go_sem, hz, b0, b1]
set_option maxHeartbeats 3200000 in
set_option maxRecDepth 100000 in
theorem bind_nil (h : NoC w pt) (i q : Int) {E : Int} (hE : E = 1) :
    Calls Tryz.prog 27 #[.pointer pt, .agg #[.int .i64 i, .int .u64 q]] w fun e w' => e = .returned (.int .i64 E) ∧ Chg [] w w' := by
  have HG := Lib.hid (fun W (hW : Chg [] w W) => gone_no (w := W) (pt := pt) i q)
  have HR := Lib.hid (fun W (hW : Chg [] w W) n m (hcl : Any W) o (ho : o = .cells #[.int .i64 1, .func (.func 49) #[.pointer pt] #[], .int .i64 11, cloGone n m] 90) => refused_nil (h.quiet hW) [(11, cloGone n m, false)] (by simp) o (ho.trans rfl) hE (n := 2) rfl)
  have he : (E == 0) = false := by rw [hE]; rfl
  clear h hE
  go_enter Tryz.func27, Tryz.ntmps27
  go_wp2_with (first
    | (go_at_call 55; refine (HG.out _ ((Chg.refl _ _).alloc _)).mono ?_; rintro e w2 ⟨⟨n, m, rfl, hcl⟩, hc⟩; have HC := Lib.hid (((Chg.refl [] w).alloc _).then hc); have HCL := Lib.hid hcl; clear hc hcl)
    | (go_at_call 48; refine (HR.out _ HC.out _ _ HCL.out _ rfl).mono ?_; rintro e w3 ⟨rfl, hc⟩; have HC3 := Lib.hid ((HC.out.alloc _).then hc); clear hc))
  go_ret
  exact ⟨rfl, HC3.out⟩
set_option maxHeartbeats 3200000 in
set_option maxRecDepth 100000 in
theorem unbind_nil (h : NoC w pt) (i q : Int) {E : Int} (hE : E = 1) :
    Calls Tryz.prog 28 #[.pointer pt, .agg #[.int .i64 i, .int .u64 q]] w fun e w' => e = .returned (.int .i64 E) ∧ Chg [] w w' := by
  have HG := Lib.hid (fun W (hW : Chg [] w W) => gone_no (w := W) (pt := pt) i q)
  have HR := Lib.hid (fun W (hW : Chg [] w W) n m b1 b2 (hcl : Any W) (hb : Blk W b1 24 #[.pointer pt]) (hr : Blk W b2 34 #[.int .i64 i, .int .u64 q]) o (ho : o = .cells #[.int .i64 1, .func (.func 49) #[.pointer pt] #[], .int .i64 11, cloGone n m, .int .i64 5, .func (.func 69) #[] #[ptr b1, ptr b2]] 90) => refused_nil (h.quiet hW) [(11, cloGone n m, false), (5, .func (.func 69) #[] #[ptr b1, ptr b2], false)] (by simp) o (ho.trans rfl) hE (n := 3) rfl)
  have he : (E == 0) = false := by rw [hE]; rfl
  clear h hE
  go_enter Tryz.func28, Tryz.ntmps28
  go_wp2
  go_region_held3 (fun w' => w'.cell? ⟨w.heap.size, 0, none⟩ = some (.pointer pt) ∧ w'.cell? ⟨w.heap.size + 1, 0, none⟩ = some (.int .i64 i) ∧ w'.cell? ⟨w.heap.size + 1, 1, none⟩ = some (.int .u64 q))
    (first | go_keep)
    (first
      | (go_at_call 55; refine (HG.out _ ((((Chg.refl _ _).alloc _).alloc _).drew)).mono ?_; rintro e w2 ⟨⟨n, m, rfl, hcl⟩, hc⟩; have HB2 := Lib.hid (ref_blk (w := w.alloc (.cells #[.pointer pt] 24)) (n := w.heap.size + 1) (by simp) ((Chg.refl [] _).drew) hc); have HB1 := Lib.hid (ptr_facts (w := w) rfl (((Chg.refl [] _).alloc _).drew) hc); have HC := Lib.hid ((((Chg.refl [] w).alloc _).alloc _).drew.then hc); have HCL := Lib.hid hcl; have k0 := HB1.out.cell 0; have k1 := HB2.out.cell 0; have k2 := HB2.out.cell 1; have lw2 := HB2.out.lt; clear hc hcl)
      | (go_at_call 48; refine (HR.out _ HC.out _ _ _ _ HCL.out HB1.out HB2.out _ rfl).mono ?_; rintro e w3 ⟨rfl, hc⟩; have HC3 := Lib.hid ((HC.out.alloc _).then hc); have hb1 := (HB1.out.alloc _).chg hc (by simp); have hb2 := (HB2.out.alloc _).chg hc (by simp); have j0 := hb1.cell 0; have j1 := hb2.cell 0; have j2 := hb2.cell 1; clear hc hb1 hb2))
  all_goals
    go_wp2
    go_ret
    exact ⟨rfl, HC3.out⟩
set_option maxHeartbeats 3200000 in
set_option maxRecDepth 100000 in
theorem drop_nil (h : NoC w pt) (i q : Int) {E : Int} (hE : E = 1) :
    Calls Tryz.prog 18 #[.pointer pt, .agg #[.int .i64 i, .int .u64 q]] w fun e w' => e = .returned (.int .i64 E) ∧ Chg [] w w' := by
  have HG := Lib.hid (fun W (hW : Chg [] w W) => gone_no (w := W) (pt := pt) i q)
  have HR := Lib.hid (fun W (hW : Chg [] w W) n m b1 b2 (hcl : Any W) (hb : Blk W b1 24 #[.pointer pt]) (hr : Blk W b2 34 #[.int .i64 i, .int .u64 q]) o (ho : o = .cells #[.int .i64 1, .func (.func 49) #[.pointer pt] #[], .int .i64 11, cloGone n m, .int .i64 14, .func (.func 56) #[] #[ptr b1, ptr b2]] 90) => refused_nil (h.quiet hW) [(11, cloGone n m, false), (14, .func (.func 56) #[] #[ptr b1, ptr b2], false)] (by simp) o (ho.trans rfl) hE (n := 3) rfl)
  have he : (E == 0) = false := by rw [hE]; rfl
  clear h hE
  go_enter Tryz.func18, Tryz.ntmps18
  go_wp2
  go_region_held3 (fun w' => w'.cell? ⟨w.heap.size, 0, none⟩ = some (.pointer pt) ∧ w'.cell? ⟨w.heap.size + 1, 0, none⟩ = some (.int .i64 i) ∧ w'.cell? ⟨w.heap.size + 1, 1, none⟩ = some (.int .u64 q))
    (first | go_keep)
    (first
      | (go_at_call 55; refine (HG.out _ ((((Chg.refl _ _).alloc _).alloc _).drew)).mono ?_; rintro e w2 ⟨⟨n, m, rfl, hcl⟩, hc⟩; have HB2 := Lib.hid (ref_blk (w := w.alloc (.cells #[.pointer pt] 24)) (n := w.heap.size + 1) (by simp) ((Chg.refl [] _).drew) hc); have HB1 := Lib.hid (ptr_facts (w := w) rfl (((Chg.refl [] _).alloc _).drew) hc); have HC := Lib.hid ((((Chg.refl [] w).alloc _).alloc _).drew.then hc); have HCL := Lib.hid hcl; have k0 := HB1.out.cell 0; have k1 := HB2.out.cell 0; have k2 := HB2.out.cell 1; have lw2 := HB2.out.lt; clear hc hcl)
      | (go_at_call 48; refine (HR.out _ HC.out _ _ _ _ HCL.out HB1.out HB2.out _ rfl).mono ?_; rintro e w3 ⟨rfl, hc⟩; have HC3 := Lib.hid ((HC.out.alloc _).then hc); have hb1 := (HB1.out.alloc _).chg hc (by simp); have hb2 := (HB2.out.alloc _).chg hc (by simp); have j0 := hb1.cell 0; have j1 := hb2.cell 0; have j2 := hb2.cell 1; clear hc hb1 hb2))
  all_goals
    go_wp2
    go_ret
    exact ⟨rfl, HC3.out⟩
set_option maxHeartbeats 3200000 in
set_option maxRecDepth 100000 in
theorem split_nil (h : NoC w pt) (i q am now : Int) {E : Int} (hE : E = 1) :
    Calls Tryz.prog 25 #[.pointer pt, .agg #[.int .i64 i, .int .u64 q], .int .u64 am, .int .u64 now] w fun e w' => e = .returned (.tuple #[.agg #[.int .i64 0, .int .u64 0], .int .i64 E]) ∧ Chg [] w w' := by
  have HG := Lib.hid (fun W (hW : Chg [] w W) => gone_no (w := W) (pt := pt) i q)
  have HL := Lib.hid (fun W (hW : Chg [] w W) => lacks_no (w := W) (pt := pt) i q am now)
  have HR := Lib.hid (fun W (hW : Chg [] w W) n m n1 n2 n3 n4 b1 b2 (hcl : Any W) (ha : Blk W b1 32 #[.int .u64 am]) (hn : Blk W b2 32 #[.int .u64 now]) (hcl2 : Any W) o (ho : o = .cells #[.int .i64 1, .func (.func 49) #[.pointer pt] #[], .int .i64 11, cloGone n m, .int .i64 2, .func (.func 64) #[] #[ptr b1, ptr b2], .int .i64 15, cloFour 98 n1 n2 n3 n4, .int .i64 3, .func (.func 52) #[.pointer pt] #[]] 90) =>
    refused_nil (h.quiet hW) [(11, cloGone n m, false), (2, .func (.func 64) #[] #[ptr b1, ptr b2], false), (15, cloFour 98 n1 n2 n3 n4, false), (3, .func (.func 52) #[.pointer pt] #[], false)] (by simp) o (ho.trans rfl) hE (n := 5) rfl)
  have he : (E != 0) = true := by rw [hE]; rfl
  clear h hE
  go_enter Tryz.func25, Tryz.ntmps25
  go_wp2
  refine wp_region_held_drew (S := fun w' => w'.cell? ⟨w.heap.size, 0, none⟩ = some (.int .i64 i) ∧ w'.cell? ⟨w.heap.size, 1, none⟩ = some (.int .u64 q) ∧ w'.cell? ⟨w.heap.size + 1, 0, none⟩ = some (.int .u64 am) ∧ w'.cell? ⟨w.heap.size + 1 + 1, 0, none⟩ = some (.int .u64 now)) (by kernel_rfl) ⟨by simp [go_sem], by simp [go_sem], by simp [go_sem], by simp [go_sem]⟩ (fun hHeld => ?_)
  simp only [List.setIfInBounds_toArray, List.size_toArray, List.length_cons, List.length_nil, Array.replicate]
  refine wpAnyH_take (i := 0) (v := .pointer pt) rfl (by kernel_rfl) (by kernel_rfl) (by kernel_rfl) (fun _ _ _ h => h) (Or.inl ⟨by rfl, fun w' hS => ?_⟩) hHeld ?_
  · obtain ⟨s0, s1, s2, s3⟩ := hS
    go_simp
  simp only [Act.put, List.setIfInBounds_toArray, List.set_cons_zero, List.set_cons_succ]
  refine wpAnyH_take (i := 1) (v := .func (.func 49) #[.pointer pt] #[]) rfl (by kernel_rfl) (by kernel_rfl) (by kernel_rfl) (fun _ _ _ h => h) (Or.inl ⟨by rfl, fun w' hS => ?_⟩) hHeld ?_
  · obtain ⟨s0, s1, s2, s3⟩ := hS
    go_simp
  simp only [Act.put, List.setIfInBounds_toArray, List.set_cons_zero, List.set_cons_succ]
  refine wpAnyH_take (i := 2) (v := .agg #[.int .i64 1, .func (.func 49) #[.pointer pt] #[]]) rfl (by kernel_rfl) (by kernel_rfl) (by kernel_rfl) (fun _ _ _ h => h) (Or.inl ⟨by rfl, fun w' hS => ?_⟩) hHeld ?_
  · obtain ⟨s0, s1, s2, s3⟩ := hS
    go_simp
  simp only [Act.put, List.setIfInBounds_toArray, List.set_cons_zero, List.set_cons_succ]
  refine wpAnyH_take (i := 3) (v := .pointer pt) rfl (by kernel_rfl) (by kernel_rfl) (by kernel_rfl) (fun _ _ _ h => h) (Or.inl ⟨by rfl, fun w' hS => ?_⟩) hHeld ?_
  · obtain ⟨s0, s1, s2, s3⟩ := hS
    go_simp
  simp only [Act.put, List.setIfInBounds_toArray, List.set_cons_zero, List.set_cons_succ]
  refine wpAnyH_take (i := 4) (v := .agg #[.int .i64 i, .int .u64 q]) rfl (by kernel_rfl) (by kernel_rfl) (by kernel_rfl) (fun _ _ _ h => h) (Or.inl ⟨by rfl, fun w' hS => ?_⟩) hHeld ?_
  · obtain ⟨s0, s1, s2, s3⟩ := hS
    go_simp
  simp only [Act.put, List.setIfInBounds_toArray, List.set_cons_zero, List.set_cons_succ]
  refine wpAnyH_take (i := 7) (v := .func (.func 64) #[] #[ptr (w.heap.size + 1), ptr (w.heap.size + 1 + 1)]) rfl (by kernel_rfl) (by kernel_rfl) (by kernel_rfl) (fun _ _ _ h => h) (Or.inl ⟨by rfl, fun w' hS => ?_⟩) hHeld ?_
  · obtain ⟨s0, s1, s2, s3⟩ := hS
    go_simp
  simp only [Act.put, List.setIfInBounds_toArray, List.set_cons_zero, List.set_cons_succ]
  refine wpAnyH_take (i := 8) (v := .agg #[.int .i64 2, .func (.func 64) #[] #[ptr (w.heap.size + 1), ptr (w.heap.size + 1 + 1)]]) rfl (by kernel_rfl) (by kernel_rfl) (by kernel_rfl) (fun _ _ _ h => h) (Or.inl ⟨by rfl, fun w' hS => ?_⟩) hHeld ?_
  · obtain ⟨s0, s1, s2, s3⟩ := hS
    go_simp
  simp only [Act.put, List.setIfInBounds_toArray, List.set_cons_zero, List.set_cons_succ]
  refine wpAnyH_take (i := 9) (v := .pointer pt) rfl (by kernel_rfl) (by kernel_rfl) (by kernel_rfl) (fun _ _ _ h => h) (Or.inl ⟨by rfl, fun w' hS => ?_⟩) hHeld ?_
  · obtain ⟨s0, s1, s2, s3⟩ := hS
    go_simp
  simp only [Act.put, List.setIfInBounds_toArray, List.set_cons_zero, List.set_cons_succ]
  refine wpAnyH_take (i := 10) (v := .agg #[.int .i64 i, .int .u64 q]) rfl (by kernel_rfl) (by kernel_rfl) (by kernel_rfl) (fun _ _ _ h => h) (Or.inl ⟨by rfl, fun w' hS => ?_⟩) hHeld ?_
  · obtain ⟨s0, s1, s2, s3⟩ := hS
    go_simp
  simp only [Act.put, List.setIfInBounds_toArray, List.set_cons_zero, List.set_cons_succ]
  refine wpAnyH_take (i := 11) (v := .int .u64 am) rfl (by kernel_rfl) (by kernel_rfl) (by kernel_rfl) (fun _ _ _ h => h) (Or.inl ⟨by rfl, fun w' hS => ?_⟩) hHeld ?_
  · obtain ⟨s0, s1, s2, s3⟩ := hS
    go_simp
  simp only [Act.put, List.setIfInBounds_toArray, List.set_cons_zero, List.set_cons_succ]
  refine wpAnyH_take (i := 12) (v := .int .u64 now) rfl (by kernel_rfl) (by kernel_rfl) (by kernel_rfl) (fun _ _ _ h => h) (Or.inl ⟨by rfl, fun w' hS => ?_⟩) hHeld ?_
  · obtain ⟨s0, s1, s2, s3⟩ := hS
    go_simp
  simp only [Act.put, List.setIfInBounds_toArray, List.set_cons_zero, List.set_cons_succ]
  refine wpAnyH_take (i := 15) (v := .pointer pt) rfl (by kernel_rfl) (by kernel_rfl) (by kernel_rfl) (fun _ _ _ h => h) (Or.inl ⟨by rfl, fun w' hS => ?_⟩) hHeld ?_
  · obtain ⟨s0, s1, s2, s3⟩ := hS
    go_simp
  simp only [Act.put, List.setIfInBounds_toArray, List.set_cons_zero, List.set_cons_succ]
  refine wpAnyH_take (i := 16) (v := .func (.func 52) #[.pointer pt] #[]) rfl (by kernel_rfl) (by kernel_rfl) (by kernel_rfl) (fun _ _ _ h => h) (Or.inl ⟨by rfl, fun w' hS => ?_⟩) hHeld ?_
  · obtain ⟨s0, s1, s2, s3⟩ := hS
    go_simp
  simp only [Act.put, List.setIfInBounds_toArray, List.set_cons_zero, List.set_cons_succ]
  refine wpAnyH_take (i := 17) (v := .agg #[.int .i64 3, .func (.func 52) #[.pointer pt] #[]]) rfl (by kernel_rfl) (by kernel_rfl) (by kernel_rfl) (fun _ _ _ h => h) (Or.inl ⟨by rfl, fun w' hS => ?_⟩) hHeld ?_
  · obtain ⟨s0, s1, s2, s3⟩ := hS
    go_simp
  simp only [Act.put, List.setIfInBounds_toArray, List.set_cons_zero, List.set_cons_succ]
  refine wpAnyH_ready (rs := [5]) (by kernel_rfl) (by simp) ?_
  refine AllReadyH.cons rfl (fun K hK => ?_) AllReadyH.nil
  go_simp
  refine (HG.out _ (((((Chg.refl _ _).alloc _).alloc _).alloc _).alloc _ |>.drew)).mono ?_
  rintro e w2 ⟨⟨n, m, rfl, hcl⟩, hc2⟩
  obtain ⟨B5, B6, B7, B8, HC⟩ := split_boxes (w := w) (i := i) (q := q) (am := am) (now := now) ((Chg.refl [] _).drew) hc2
  refine hK.out _ _ ⟨B5.cell 0, B5.cell 1, B6.cell 0, B7.cell 0⟩ (fun hHeld => ?_)
  clear hK K
  simp only [Act.put, List.setIfInBounds_toArray, List.set_cons_zero, List.set_cons_succ]
  refine wpAnyH_take (i := 6) (v := .agg #[.int .i64 11, .func (.func 93) #[] #[.pointer (some ⟨n, 0, none⟩), .pointer (some ⟨m, 0, none⟩)]]) rfl (by kernel_rfl) (by kernel_rfl) (by kernel_rfl) (fun _ _ _ h => h) (Or.inl ⟨by rfl, fun w' hS => ?_⟩) hHeld ?_
  · obtain ⟨s0, s1, s2, s3⟩ := hS
    go_simp
  simp only [Act.put, List.setIfInBounds_toArray, List.set_cons_zero, List.set_cons_succ]
  refine wpAnyH_ready (rs := [13]) (by kernel_rfl) (by simp) ?_
  refine AllReadyH.cons rfl (fun K hK => ?_) AllReadyH.nil
  go_simp
  refine (HL.out _ HC).mono ?_
  rintro e w3 ⟨⟨n1, n2, n3, n4, rfl, hcl2⟩, hc3⟩
  have hc23 := hc2.then hc3
  have hcl' := hcl.quiet hc3
  clear B5 B6 B7 B8 HC hHeld
  obtain ⟨B5, B6, B7, B8, HC⟩ := split_boxes (w := w) (i := i) (q := q) (am := am) (now := now) ((Chg.refl [] _).drew) hc23
  refine hK.out _ _ ⟨B5.cell 0, B5.cell 1, B6.cell 0, B7.cell 0⟩ (fun hHeld => ?_)
  clear hK K
  simp only [Act.put, List.setIfInBounds_toArray, List.set_cons_zero, List.set_cons_succ]
  refine wpAnyH_take (i := 14) (v := .agg #[.int .i64 15, .func (.func 98) #[] #[.pointer (some ⟨n1, 0, none⟩), .pointer (some ⟨n2, 0, none⟩), .pointer (some ⟨n3, 0, none⟩), .pointer (some ⟨n4, 0, none⟩)]]) rfl (by kernel_rfl) (by kernel_rfl) (by kernel_rfl) (fun _ _ _ h => h) (Or.inl ⟨by rfl, fun w' hS => ?_⟩) hHeld ?_
  · obtain ⟨s0, s1, s2, s3⟩ := hS
    go_simp
  simp only [Act.put, List.setIfInBounds_toArray, List.set_cons_zero, List.set_cons_succ]
  refine wpAnyH_ready (rs := [18]) (by kernel_rfl) (by simp) ?_
  refine AllReadyH.cons rfl (fun K hK => ?_) AllReadyH.nil
  go_simp

  refine hK.out _ _ ⟨(B5.alloc _).cell 0, (B5.alloc _).cell 1, (B6.alloc _).cell 0, (B7.alloc _).cell 0⟩ (fun hHeld => ?_)
  clear hK K
  simp only [Act.put, List.setIfInBounds_toArray, List.set_cons_zero, List.set_cons_succ]
  refine wpAnyH_ready (rs := [19]) (by kernel_rfl) (by simp) ?_
  refine AllReadyH.cons rfl (fun K hK => ?_) AllReadyH.nil
  go_simp
  refine (HR.out _ HC n m n1 n2 n3 n4 (w.heap.size + 1) (w.heap.size + 1 + 1) hcl' B6 B7 hcl2 _ rfl).mono ?_
  rintro e w4 ⟨rfl, hc4⟩
  have hc24 := (hc23.alloc _).then hc4
  clear B5 B6 B7 B8 HC hHeld
  obtain ⟨B5, B6, B7, B8, HC⟩ := split_boxes (w := w) (i := i) (q := q) (am := am) (now := now) ((Chg.refl [] _).drew) hc24
  refine hK.out _ _ ⟨B5.cell 0, B5.cell 1, B6.cell 0, B7.cell 0⟩ (fun hHeld => ?_)
  clear hK K
  simp only [Act.put, List.setIfInBounds_toArray, List.set_cons_zero, List.set_cons_succ]
  refine wpAnyH_take (i := 20) (v := .int .i64 E) rfl (by kernel_rfl) (by kernel_rfl) (by kernel_rfl) (fun _ _ _ h => h) (Or.inl ⟨by rfl, fun w' hS => ?_⟩) hHeld ?_
  · obtain ⟨s0, s1, s2, s3⟩ := hS
    go_simp
  simp only [Act.put, List.setIfInBounds_toArray, List.set_cons_zero, List.set_cons_succ]
  refine wpAnyH_done (by kernel_rfl) ?_ _
  have z0 := B8.cell 0
  have z1 := B8.cell 1
  have zf := B8.frozen
  have hz := B8.lt
  have HC9 := Lib.hid HC
  clear B5 B6 B7 B8 HC hHeld hc2 hc3 hc23 hc24 hc4 hcl hcl' hcl2
  go_wp2
  refine bodyPost_ret (v := .tuple #[.agg #[.int .i64 0, .int .u64 0], .int .i64 E]) ?_ rfl ⟨rfl, by repeat' (first | with_reducible exact HC9.out | with_reducible apply Chg.alloc | with_reducible apply Chg.setCell | (with_reducible refine Or.inr ?_; dsimp only; omega))⟩
  simp [results, Tryz.results25, go_sem, hz, z0, z1]
abbrev wDon0 (w : World) (pt : Option Addr) (fi fq ti tq am now : Int) : World := ((((w.alloc (.cells #[.pointer pt] 24)).alloc (obRef fi fq)).alloc (obRef ti tq)).alloc (obU am)).alloc (obU now)
theorem donate_boxes0 {w W w2 : World} {pt : Option Addr} {fi fq ti tq am now : Int} (hW : Chg [] (wDon0 w pt fi fq ti tq am now) W) (hc : Chg [] W w2) :
    Blk w2 w.heap.size 24 #[.pointer pt] ∧ Blk w2 (w.heap.size + 1) 34 #[.int .i64 fi, .int .u64 fq] ∧ Blk w2 (w.heap.size + 1 + 1) 34 #[.int .i64 ti, .int .u64 tq] ∧ Blk w2 (w.heap.size + 1 + 1 + 1) 32 #[.int .u64 am] ∧ Blk w2 (w.heap.size + 1 + 1 + 1 + 1) 32 #[.int .u64 now] ∧ Chg [] w w2 := by
  refine ⟨((((((Blk.new w 24 _).alloc _).alloc _).alloc _).alloc _).chg hW (by simp)).chg hc (by simp), (((((Blk.at (w.alloc _) 34 _ (by simp)).alloc _).alloc _).alloc _).chg hW (by simp)).chg hc (by simp), ((((Blk.at ((w.alloc _).alloc _) 34 _ (by simp)).alloc _).alloc _).chg hW (by simp)).chg hc (by simp), (((Blk.at (((w.alloc _).alloc _).alloc _) 32 _ (by simp)).alloc _).chg hW (by simp)).chg hc (by simp), ((Blk.at ((((w.alloc _).alloc _).alloc _).alloc _) 32 _ (by simp)).chg hW (by simp)).chg hc (by simp), ?_⟩
  exact ((((((Chg.refl [] w).alloc _).alloc _).alloc _).alloc _).alloc _).then (hW.then hc)
set_option maxHeartbeats 3200000 in
set_option maxRecDepth 100000 in
theorem donate_nil (h : NoC w pt) (fi fq ti tq am now : Int) {E : Int} (hE : E = 1) :
    Calls Tryz.prog 29 #[.pointer pt, .agg #[.int .i64 fi, .int .u64 fq], .agg #[.int .i64 ti, .int .u64 tq], .int .u64 am, .int .u64 now] w fun e w' => e = .returned (.int .i64 E) ∧ Chg [] w w' := by
  have HG := Lib.hid (fun W (hW : Chg [] w W) => gone_no (w := W) (pt := pt) fi fq)
  have HG' := Lib.hid (fun W (hW : Chg [] w W) => gone_no (w := W) (pt := pt) ti tq)
  have HL := Lib.hid (fun W (hW : Chg [] w W) => lacks_no (w := W) (pt := pt) fi fq am now)
  have HCR := Lib.hid (fun W (hW : Chg [] w W) => crowded_no (w := W) (pt := pt) ti tq am now)
  have HR := Lib.hid (fun W (hW : Chg [] w W) n m n' m' n1 n2 n3 n4 k1 k2 k3 k4 b0 b1 b2 b3 b4 (hcl : Any W) (hcl' : Any W) (h0 : Blk W b0 24 #[.pointer pt]) (h1 : Blk W b1 34 #[.int .i64 fi, .int .u64 fq]) (h2 : Blk W b2 34 #[.int .i64 ti, .int .u64 tq]) (h3 : Blk W b3 32 #[.int .u64 am]) (h4 : Blk W b4 32 #[.int .u64 now]) (hcl2 : Any W) (hcl3 : Any W) o
    (ho : o = .cells #[.int .i64 1, .func (.func 49) #[.pointer pt] #[], .int .i64 11, cloGone n m, .int .i64 11, cloGone n' m', .int .i64 2, .func (.func 70) #[] #[ptr b3, ptr b4, ptr b1, ptr b2], .int .i64 15, cloFour 98 n1 n2 n3 n4, .int .i64 6, .func (.func 71) #[] #[ptr b3, ptr b0, ptr b2], .int .i64 3, cloFour 103 k1 k2 k3 k4] 90) =>
    refused_nil (h.quiet hW) [(11, cloGone n m, false), (11, cloGone n' m', false), (2, .func (.func 70) #[] #[ptr b3, ptr b4, ptr b1, ptr b2], false), (15, cloFour 98 n1 n2 n3 n4, false), (6, .func (.func 71) #[] #[ptr b3, ptr b0, ptr b2], false), (3, cloFour 103 k1 k2 k3 k4, false)] (by simp) o (ho.trans rfl) hE (n := 7) rfl)
  have he : (E == 0) = false := by rw [hE]; rfl
  clear h hE
  go_enter Tryz.func29, Tryz.ntmps29
  go_wp2
  refine wp_region_held_drew (S := fun w' => w'.cell? ⟨w.heap.size, 0, none⟩ = some (.pointer pt) ∧ w'.cell? ⟨w.heap.size + 1, 0, none⟩ = some (.int .i64 fi) ∧ w'.cell? ⟨w.heap.size + 1, 1, none⟩ = some (.int .u64 fq) ∧ w'.cell? ⟨w.heap.size + 1 + 1, 0, none⟩ = some (.int .i64 ti) ∧ w'.cell? ⟨w.heap.size + 1 + 1, 1, none⟩ = some (.int .u64 tq) ∧ w'.cell? ⟨w.heap.size + 1 + 1 + 1, 0, none⟩ = some (.int .u64 am) ∧ w'.cell? ⟨w.heap.size + 1 + 1 + 1 + 1, 0, none⟩ = some (.int .u64 now)) (by kernel_rfl) ⟨by simp [go_sem], by simp [go_sem], by simp [go_sem], by simp [go_sem], by simp [go_sem], by simp [go_sem], by simp [go_sem]⟩ (fun hHeld => ?_)
  simp only [List.setIfInBounds_toArray, List.size_toArray, List.length_cons, List.length_nil, Array.replicate]
  refine wpAnyH_take (i := 0) (v := .pointer pt) rfl (by kernel_rfl) (by kernel_rfl) (by kernel_rfl) (fun _ _ _ h => h) (Or.inl ⟨by rfl, fun w' hS => ?_⟩) hHeld ?_
  · obtain ⟨s0, s1, s2, s3, s4, s5, s6⟩ := hS
    go_simp
  simp only [Act.put, List.setIfInBounds_toArray, List.set_cons_zero, List.set_cons_succ]
  refine wpAnyH_take (i := 1) (v := .func (.func 49) #[.pointer pt] #[]) rfl (by kernel_rfl) (by kernel_rfl) (by kernel_rfl) (fun _ _ _ h => h) (Or.inl ⟨by rfl, fun w' hS => ?_⟩) hHeld ?_
  · obtain ⟨s0, s1, s2, s3, s4, s5, s6⟩ := hS
    go_simp
  simp only [Act.put, List.setIfInBounds_toArray, List.set_cons_zero, List.set_cons_succ]
  refine wpAnyH_take (i := 2) (v := .agg #[.int .i64 1, .func (.func 49) #[.pointer pt] #[]]) rfl (by kernel_rfl) (by kernel_rfl) (by kernel_rfl) (fun _ _ _ h => h) (Or.inl ⟨by rfl, fun w' hS => ?_⟩) hHeld ?_
  · obtain ⟨s0, s1, s2, s3, s4, s5, s6⟩ := hS
    go_simp
  simp only [Act.put, List.setIfInBounds_toArray, List.set_cons_zero, List.set_cons_succ]
  refine wpAnyH_take (i := 3) (v := .pointer pt) rfl (by kernel_rfl) (by kernel_rfl) (by kernel_rfl) (fun _ _ _ h => h) (Or.inl ⟨by rfl, fun w' hS => ?_⟩) hHeld ?_
  · obtain ⟨s0, s1, s2, s3, s4, s5, s6⟩ := hS
    go_simp
  simp only [Act.put, List.setIfInBounds_toArray, List.set_cons_zero, List.set_cons_succ]
  refine wpAnyH_take (i := 4) (v := .agg #[.int .i64 fi, .int .u64 fq]) rfl (by kernel_rfl) (by kernel_rfl) (by kernel_rfl) (fun _ _ _ h => h) (Or.inl ⟨by rfl, fun w' hS => ?_⟩) hHeld ?_
  · obtain ⟨s0, s1, s2, s3, s4, s5, s6⟩ := hS
    go_simp
  simp only [Act.put, List.setIfInBounds_toArray, List.set_cons_zero, List.set_cons_succ]
  refine wpAnyH_take (i := 7) (v := .pointer pt) rfl (by kernel_rfl) (by kernel_rfl) (by kernel_rfl) (fun _ _ _ h => h) (Or.inl ⟨by rfl, fun w' hS => ?_⟩) hHeld ?_
  · obtain ⟨s0, s1, s2, s3, s4, s5, s6⟩ := hS
    go_simp
  simp only [Act.put, List.setIfInBounds_toArray, List.set_cons_zero, List.set_cons_succ]
  refine wpAnyH_take (i := 8) (v := .agg #[.int .i64 ti, .int .u64 tq]) rfl (by kernel_rfl) (by kernel_rfl) (by kernel_rfl) (fun _ _ _ h => h) (Or.inl ⟨by rfl, fun w' hS => ?_⟩) hHeld ?_
  · obtain ⟨s0, s1, s2, s3, s4, s5, s6⟩ := hS
    go_simp
  simp only [Act.put, List.setIfInBounds_toArray, List.set_cons_zero, List.set_cons_succ]
  refine wpAnyH_take (i := 11) (v := .func (.func 70) #[] #[ptr (w.heap.size + 1 + 1 + 1), ptr (w.heap.size + 1 + 1 + 1 + 1), ptr (w.heap.size + 1), ptr (w.heap.size + 1 + 1)]) rfl (by kernel_rfl) (by kernel_rfl) (by kernel_rfl) (fun _ _ _ h => h) (Or.inl ⟨by rfl, fun w' hS => ?_⟩) hHeld ?_
  · obtain ⟨s0, s1, s2, s3, s4, s5, s6⟩ := hS
    go_simp
  simp only [Act.put, List.setIfInBounds_toArray, List.set_cons_zero, List.set_cons_succ]
  refine wpAnyH_take (i := 12) (v := .agg #[.int .i64 2, .func (.func 70) #[] #[ptr (w.heap.size + 1 + 1 + 1), ptr (w.heap.size + 1 + 1 + 1 + 1), ptr (w.heap.size + 1), ptr (w.heap.size + 1 + 1)]]) rfl (by kernel_rfl) (by kernel_rfl) (by kernel_rfl) (fun _ _ _ h => h) (Or.inl ⟨by rfl, fun w' hS => ?_⟩) hHeld ?_
  · obtain ⟨s0, s1, s2, s3, s4, s5, s6⟩ := hS
    go_simp
  simp only [Act.put, List.setIfInBounds_toArray, List.set_cons_zero, List.set_cons_succ]
  refine wpAnyH_take (i := 13) (v := .pointer pt) rfl (by kernel_rfl) (by kernel_rfl) (by kernel_rfl) (fun _ _ _ h => h) (Or.inl ⟨by rfl, fun w' hS => ?_⟩) hHeld ?_
  · obtain ⟨s0, s1, s2, s3, s4, s5, s6⟩ := hS
    go_simp
  simp only [Act.put, List.setIfInBounds_toArray, List.set_cons_zero, List.set_cons_succ]
  refine wpAnyH_take (i := 14) (v := .agg #[.int .i64 fi, .int .u64 fq]) rfl (by kernel_rfl) (by kernel_rfl) (by kernel_rfl) (fun _ _ _ h => h) (Or.inl ⟨by rfl, fun w' hS => ?_⟩) hHeld ?_
  · obtain ⟨s0, s1, s2, s3, s4, s5, s6⟩ := hS
    go_simp
  simp only [Act.put, List.setIfInBounds_toArray, List.set_cons_zero, List.set_cons_succ]
  refine wpAnyH_take (i := 15) (v := .int .u64 am) rfl (by kernel_rfl) (by kernel_rfl) (by kernel_rfl) (fun _ _ _ h => h) (Or.inl ⟨by rfl, fun w' hS => ?_⟩) hHeld ?_
  · obtain ⟨s0, s1, s2, s3, s4, s5, s6⟩ := hS
    go_simp
  simp only [Act.put, List.setIfInBounds_toArray, List.set_cons_zero, List.set_cons_succ]
  refine wpAnyH_take (i := 16) (v := .int .u64 now) rfl (by kernel_rfl) (by kernel_rfl) (by kernel_rfl) (fun _ _ _ h => h) (Or.inl ⟨by rfl, fun w' hS => ?_⟩) hHeld ?_
  · obtain ⟨s0, s1, s2, s3, s4, s5, s6⟩ := hS
    go_simp
  simp only [Act.put, List.setIfInBounds_toArray, List.set_cons_zero, List.set_cons_succ]
  refine wpAnyH_take (i := 19) (v := .func (.func 71) #[] #[ptr (w.heap.size + 1 + 1 + 1), ptr w.heap.size, ptr (w.heap.size + 1 + 1)]) rfl (by kernel_rfl) (by kernel_rfl) (by kernel_rfl) (fun _ _ _ h => h) (Or.inl ⟨by rfl, fun w' hS => ?_⟩) hHeld ?_
  · obtain ⟨s0, s1, s2, s3, s4, s5, s6⟩ := hS
    go_simp
  simp only [Act.put, List.setIfInBounds_toArray, List.set_cons_zero, List.set_cons_succ]
  refine wpAnyH_take (i := 20) (v := .agg #[.int .i64 6, .func (.func 71) #[] #[ptr (w.heap.size + 1 + 1 + 1), ptr w.heap.size, ptr (w.heap.size + 1 + 1)]]) rfl (by kernel_rfl) (by kernel_rfl) (by kernel_rfl) (fun _ _ _ h => h) (Or.inl ⟨by rfl, fun w' hS => ?_⟩) hHeld ?_
  · obtain ⟨s0, s1, s2, s3, s4, s5, s6⟩ := hS
    go_simp
  simp only [Act.put, List.setIfInBounds_toArray, List.set_cons_zero, List.set_cons_succ]
  refine wpAnyH_take (i := 21) (v := .pointer pt) rfl (by kernel_rfl) (by kernel_rfl) (by kernel_rfl) (fun _ _ _ h => h) (Or.inl ⟨by rfl, fun w' hS => ?_⟩) hHeld ?_
  · obtain ⟨s0, s1, s2, s3, s4, s5, s6⟩ := hS
    go_simp
  simp only [Act.put, List.setIfInBounds_toArray, List.set_cons_zero, List.set_cons_succ]
  refine wpAnyH_take (i := 22) (v := .agg #[.int .i64 ti, .int .u64 tq]) rfl (by kernel_rfl) (by kernel_rfl) (by kernel_rfl) (fun _ _ _ h => h) (Or.inl ⟨by rfl, fun w' hS => ?_⟩) hHeld ?_
  · obtain ⟨s0, s1, s2, s3, s4, s5, s6⟩ := hS
    go_simp
  simp only [Act.put, List.setIfInBounds_toArray, List.set_cons_zero, List.set_cons_succ]
  refine wpAnyH_take (i := 23) (v := .int .u64 am) rfl (by kernel_rfl) (by kernel_rfl) (by kernel_rfl) (fun _ _ _ h => h) (Or.inl ⟨by rfl, fun w' hS => ?_⟩) hHeld ?_
  · obtain ⟨s0, s1, s2, s3, s4, s5, s6⟩ := hS
    go_simp
  simp only [Act.put, List.setIfInBounds_toArray, List.set_cons_zero, List.set_cons_succ]
  refine wpAnyH_take (i := 24) (v := .int .u64 now) rfl (by kernel_rfl) (by kernel_rfl) (by kernel_rfl) (fun _ _ _ h => h) (Or.inl ⟨by rfl, fun w' hS => ?_⟩) hHeld ?_
  · obtain ⟨s0, s1, s2, s3, s4, s5, s6⟩ := hS
    go_simp
  simp only [Act.put, List.setIfInBounds_toArray, List.set_cons_zero, List.set_cons_succ]
  refine wpAnyH_ready (rs := [5]) (by kernel_rfl) (by simp) ?_
  refine AllReadyH.cons rfl (fun K hK => ?_) AllReadyH.nil
  go_simp
  refine (HG.out _ ((((((Chg.refl _ _).alloc _).alloc _).alloc _).alloc _).alloc _ |>.drew)).mono ?_
  rintro e w2 ⟨⟨n, m, rfl, hcl⟩, hc2⟩
  obtain ⟨B0, B1, B2, B3, B4, HC⟩ := donate_boxes0 (w := w) (pt := pt) (fi := fi) (fq := fq) (ti := ti) (tq := tq) (am := am) (now := now) ((Chg.refl [] _).drew) hc2
  refine hK.out _ _ ⟨B0.cell 0, B1.cell 0, B1.cell 1, B2.cell 0, B2.cell 1, B3.cell 0, B4.cell 0⟩ (fun hHeld => ?_)
  clear hK K
  simp only [Act.put, List.setIfInBounds_toArray, List.set_cons_zero, List.set_cons_succ]
  refine wpAnyH_take (i := 6) (v := .agg #[.int .i64 11, .func (.func 93) #[] #[.pointer (some ⟨n, 0, none⟩), .pointer (some ⟨m, 0, none⟩)]]) rfl (by kernel_rfl) (by kernel_rfl) (by kernel_rfl) (fun _ _ _ h => h) (Or.inl ⟨by rfl, fun w' hS => ?_⟩) hHeld ?_
  · obtain ⟨s0, s1, s2, s3, s4, s5, s6⟩ := hS
    go_simp
  simp only [Act.put, List.setIfInBounds_toArray, List.set_cons_zero, List.set_cons_succ]
  refine wpAnyH_ready (rs := [9]) (by kernel_rfl) (by simp) ?_
  refine AllReadyH.cons rfl (fun K hK => ?_) AllReadyH.nil
  go_simp
  refine (HG'.out _ HC).mono ?_
  rintro e w3 ⟨⟨n', m', rfl, hcl'⟩, hc3⟩
  have hcA := hc2.then hc3
  have hclA := hcl.quiet hc3
  clear B0 B1 B2 B3 B4 HC hHeld
  obtain ⟨B0, B1, B2, B3, B4, HC⟩ := donate_boxes0 (w := w) (pt := pt) (fi := fi) (fq := fq) (ti := ti) (tq := tq) (am := am) (now := now) ((Chg.refl [] _).drew) hcA
  refine hK.out _ _ ⟨B0.cell 0, B1.cell 0, B1.cell 1, B2.cell 0, B2.cell 1, B3.cell 0, B4.cell 0⟩ (fun hHeld => ?_)
  clear hK K
  simp only [Act.put, List.setIfInBounds_toArray, List.set_cons_zero, List.set_cons_succ]
  refine wpAnyH_take (i := 10) (v := .agg #[.int .i64 11, .func (.func 93) #[] #[.pointer (some ⟨n', 0, none⟩), .pointer (some ⟨m', 0, none⟩)]]) rfl (by kernel_rfl) (by kernel_rfl) (by kernel_rfl) (fun _ _ _ h => h) (Or.inl ⟨by rfl, fun w' hS => ?_⟩) hHeld ?_
  · obtain ⟨s0, s1, s2, s3, s4, s5, s6⟩ := hS
    go_simp
  simp only [Act.put, List.setIfInBounds_toArray, List.set_cons_zero, List.set_cons_succ]
  refine wpAnyH_ready (rs := [17]) (by kernel_rfl) (by simp) ?_
  refine AllReadyH.cons rfl (fun K hK => ?_) AllReadyH.nil
  go_simp
  refine (HL.out _ HC).mono ?_
  rintro e w4 ⟨⟨n1, n2, n3, n4, rfl, hcl2⟩, hc4⟩
  have hcB := hcA.then hc4
  have hclB := hclA.quiet hc4
  have hclB' := hcl'.quiet hc4
  clear B0 B1 B2 B3 B4 HC hHeld
  obtain ⟨B0, B1, B2, B3, B4, HC⟩ := donate_boxes0 (w := w) (pt := pt) (fi := fi) (fq := fq) (ti := ti) (tq := tq) (am := am) (now := now) ((Chg.refl [] _).drew) hcB
  refine hK.out _ _ ⟨B0.cell 0, B1.cell 0, B1.cell 1, B2.cell 0, B2.cell 1, B3.cell 0, B4.cell 0⟩ (fun hHeld => ?_)
  clear hK K
  simp only [Act.put, List.setIfInBounds_toArray, List.set_cons_zero, List.set_cons_succ]
  refine wpAnyH_take (i := 18) (v := .agg #[.int .i64 15, .func (.func 98) #[] #[.pointer (some ⟨n1, 0, none⟩), .pointer (some ⟨n2, 0, none⟩), .pointer (some ⟨n3, 0, none⟩), .pointer (some ⟨n4, 0, none⟩)]]) rfl (by kernel_rfl) (by kernel_rfl) (by kernel_rfl) (fun _ _ _ h => h) (Or.inl ⟨by rfl, fun w' hS => ?_⟩) hHeld ?_
  · obtain ⟨s0, s1, s2, s3, s4, s5, s6⟩ := hS
    go_simp
  simp only [Act.put, List.setIfInBounds_toArray, List.set_cons_zero, List.set_cons_succ]
  refine wpAnyH_ready (rs := [25]) (by kernel_rfl) (by simp) ?_
  refine AllReadyH.cons rfl (fun K hK => ?_) AllReadyH.nil
  go_simp
  refine (HCR.out _ HC).mono ?_
  rintro e w5 ⟨⟨k1, k2, k3, k4, rfl, hcl3⟩, hc5⟩
  have hcC := hcB.then hc5
  have hclC := hclB.quiet hc5
  have hclC' := hclB'.quiet hc5
  have hclC2 := hcl2.quiet hc5
  clear B0 B1 B2 B3 B4 HC hHeld
  obtain ⟨B0, B1, B2, B3, B4, HC⟩ := donate_boxes0 (w := w) (pt := pt) (fi := fi) (fq := fq) (ti := ti) (tq := tq) (am := am) (now := now) ((Chg.refl [] _).drew) hcC
  refine hK.out _ _ ⟨B0.cell 0, B1.cell 0, B1.cell 1, B2.cell 0, B2.cell 1, B3.cell 0, B4.cell 0⟩ (fun hHeld => ?_)
  clear hK K
  simp only [Act.put, List.setIfInBounds_toArray, List.set_cons_zero, List.set_cons_succ]
  refine wpAnyH_take (i := 26) (v := .agg #[.int .i64 3, .func (.func 103) #[] #[.pointer (some ⟨k1, 0, none⟩), .pointer (some ⟨k2, 0, none⟩), .pointer (some ⟨k3, 0, none⟩), .pointer (some ⟨k4, 0, none⟩)]]) rfl (by kernel_rfl) (by kernel_rfl) (by kernel_rfl) (fun _ _ _ h => h) (Or.inl ⟨by rfl, fun w' hS => ?_⟩) hHeld ?_
  · obtain ⟨s0, s1, s2, s3, s4, s5, s6⟩ := hS
    go_simp
  simp only [Act.put, List.setIfInBounds_toArray, List.set_cons_zero, List.set_cons_succ]
  refine wpAnyH_ready (rs := [27]) (by kernel_rfl) (by simp) ?_
  refine AllReadyH.cons rfl (fun K hK => ?_) AllReadyH.nil
  go_simp

  refine hK.out _ _ ⟨(B0.alloc _).cell 0, (B1.alloc _).cell 0, (B1.alloc _).cell 1, (B2.alloc _).cell 0, (B2.alloc _).cell 1, (B3.alloc _).cell 0, (B4.alloc _).cell 0⟩ (fun hHeld => ?_)
  clear hK K
  simp only [Act.put, List.setIfInBounds_toArray, List.set_cons_zero, List.set_cons_succ]
  refine wpAnyH_ready (rs := [28]) (by kernel_rfl) (by simp) ?_
  refine AllReadyH.cons rfl (fun K hK => ?_) AllReadyH.nil
  go_simp
  refine (HR.out _ HC n m n' m' n1 n2 n3 n4 k1 k2 k3 k4 w.heap.size (w.heap.size + 1) (w.heap.size + 1 + 1) (w.heap.size + 1 + 1 + 1) (w.heap.size + 1 + 1 + 1 + 1) hclC hclC' B0 B1 B2 B3 B4 hclC2 hcl3 _ rfl).mono ?_
  rintro e w6 ⟨rfl, hc6⟩
  have hcD := (hcC.alloc _).then hc6
  clear B0 B1 B2 B3 B4 HC hHeld
  obtain ⟨B0, B1, B2, B3, B4, HC⟩ := donate_boxes0 (w := w) (pt := pt) (fi := fi) (fq := fq) (ti := ti) (tq := tq) (am := am) (now := now) ((Chg.refl [] _).drew) hcD
  refine hK.out _ _ ⟨B0.cell 0, B1.cell 0, B1.cell 1, B2.cell 0, B2.cell 1, B3.cell 0, B4.cell 0⟩ (fun hHeld => ?_)
  clear hK K
  simp only [Act.put, List.setIfInBounds_toArray, List.set_cons_zero, List.set_cons_succ]
  refine wpAnyH_take (i := 29) (v := .int .i64 E) rfl (by kernel_rfl) (by kernel_rfl) (by kernel_rfl) (fun _ _ _ h => h) (Or.inl ⟨by rfl, fun w' hS => ?_⟩) hHeld ?_
  · obtain ⟨s0, s1, s2, s3, s4, s5, s6⟩ := hS
    go_simp
  simp only [Act.put, List.setIfInBounds_toArray, List.set_cons_zero, List.set_cons_succ]
  refine wpAnyH_done (by kernel_rfl) ?_ _
  have HC9 := Lib.hid HC
  clear B0 B1 B2 B3 B4 HC hHeld hc2 hc3 hc4 hc5 hc6 hcA hcB hcC hcD hcl hcl' hcl2 hcl3 hclA hclB hclB' hclC hclC' hclC2
  go_wp2
  go_ret
  exact ⟨rfl, HC9.out⟩
end
end Go.Proofs
end
section
namespace Go.Proofs
open Go.RowKit Go.Shelf
set_option linter.unusedVariables false
set_option linter.unusedSimpArgs false
attribute [local go_sem] Oper.semAt_some
set_option maxHeartbeats 1600000 in
theorem now_nil_in (n : Nat) (hn : 1 ≤ n) (l b : Nat) (W : World) (hV : W.cell? ⟨b, 0, none⟩ = some (.pointer none)) (J Jx : List Nam → World → Prop) (h0 : J [] W) :
    CallsIn Fence.wide n Tryz.prog 114 #[.func (.yield l) #[] #[], .pointer (some ⟨b, 0, none⟩)] W fun e W' => (∃ v, e = .returned v) ∧ ((∃ ys, ys = [] ∧ J ys W') ∨ (∃ pre : List Nam, pre = [] ∧ Jx pre W')) := by
  refine callsIn_of_wp Tryz.func114 rfl trivial ?_ rfl
  simp only [Tryz.ntmps114, List.size_toArray, List.length_cons, List.length_nil, Nat.reduceAdd, Nat.reduceSub, Array.replicate_succ, Array.replicate_zero, List.push_toArray, List.append_toArray, List.nil_append, List.cons_append]
  gi_wp2_with (refine ⟨trivial, ?_⟩; gi_at_call 61; refine (callsIn_wide.2 (size_nil _)).mono ?_; rintro e w' ⟨rfl, rfl⟩)
  gi_loopw [8] (fun iv wr => iv = .int .i64 0 ∧ wr = W) (fun iv wr => 0)
  case atStart => exact ⟨rfl, rfl⟩
  case round =>
    obtain ⟨rfl, rfl⟩ := hrel
    gi_wp2
    go_end0
    exact ⟨⟨_, rfl⟩, .inl ⟨_, rfl, h0⟩⟩
theorem now_nil_stops (n : Nat) (hn : 1 ≤ n) (b : Nat) (w : World) (hb : b < w.heap.size) (hV : w.cell? ⟨b, 0, none⟩ = some (.pointer none)) :
    SeqStopsK Fence.wide n Tryz.prog 114 #[.pointer (some ⟨b, 0, none⟩)] Nam.encs (fun _ _ => True) (fun ys => ys = []) (fun pre => pre = []) 0 w := fun l J Jx W hW hJ _ hY h0 =>
  now_nil_in n hn l b W ((hW.cell (p := ⟨b, 0, none⟩) hb).trans hV) J Jx h0
set_option maxRecDepth 100000 in
set_option maxHeartbeats 3200000 in
/-- All of no table: nothing is gathered. -/
theorem all_nil (n : Nat) (hn : 6 ≤ n) (w : World) :
    CallsIn Fence.wide n Tryz.prog 44 #[.pointer none] w fun e W' => Gathered w.heap.size [] e W' ∧ Below w.heap.size w W' := by
  have h1 : 1 ≤ n := by omega
  refine callsIn_of_wp_marks Tryz.func44 rfl trivial ?_ rfl
  simp only [Tryz.ntmps44, List.size_toArray, List.length_cons, List.length_nil, Nat.reduceAdd, Nat.reduceSub, Array.replicate_succ, Array.replicate_zero, List.push_toArray, List.append_toArray, List.nil_append, List.cons_append]
  gi_wp2_with (refine ⟨trivial, ?_⟩; gi_at_call 86; refine (make_now (n - 1) _ _).mono ?_; rintro e w' ⟨rfl, rfl⟩)
  have bS := (Boxed.new w 114 (.slice none 0 0)).alloc (.cells #[.pointer none] 64)
  have bT := Boxed.new (w.alloc (.cells #[.slice none 0 0] 114)) 64 (.pointer none)
  simp only [World.size_alloc] at bT
  have hB0 : Below w.heap.size w ((w.alloc (.cells #[.slice none 0 0] 114)).alloc (.cells #[.pointer none] 64)) := ((Below.refl _ w).alloc (Nat.le_refl _) _).alloc (by simp) _
  have hsz : ((w.alloc (.cells #[.slice none 0 0] 114)).alloc (.cells #[.pointer none] 64)).heap.size = w.heap.size + 2 := by simp
  obtain ⟨W0, hW0⟩ : ∃ W0, (w.alloc (.cells #[.slice none 0 0] 114)).alloc (.cells #[.pointer none] 64) = W0 := ⟨_, rfl⟩
  rw [hW0] at bS bT hB0 hsz ⊢
  clear hW0
  obtain ⟨i0, hi0, hz0, hz1, hz2⟩ := info_parts Tryz.info_116
  refine wpIn_rangeFunc_ownH rfl h1 (gf := 114) (lb := #[.pointer (some ⟨w.heap.size + 1, 0, none⟩)]) rfl trivial (enters_of Tryz.func114 (by kernel_rfl) rfl)
    (now_nil_stops (n - 1) (by omega) (w.heap.size + 1) W0 (by omega) bT.cell) (fun _ _ => trivial)
    (fun _ _ _ _ _ _ _ _ => trivial)
    (Below.refl _ _) (fun _ => rfl)
    (fun pre W => ((∃ V, Boxed W w.heap.size 114 V ∧ W.ownsRow w.heap.size 116 6 V pre.length (namCells pre) ∧ True) ∧ Boxed W (w.heap.size + 1) 64 (.pointer none)) ∧ Below w.heap.size W0 W)
    (fun _ _ _ => False)
    (OwnFrom.and (OwnFrom.and (Own.from (holdsRow_own w.heap.size w.heap.size 114 116 6 (fun pre : List Nam => pre.length) (fun pre => namCells pre) (fun pre v => True)) _) (Own.from (boxed_own _ _ _) _)) (ownFrom_below (by omega) (by omega)))
    (fun _ _ _ _ _ hs _ _ => hs)
    ⟨⟨⟨_, bS, World.ownsRow_nil _ _ _ _, trivial⟩, bT⟩, Below.refl _ _⟩
    (fun x a' W => ∃ Bx By, w.heap.size + 1 < Bx ∧ w.heap.size + 1 < By ∧ Blk W Bx 34 #[.int .i64 x.i, .int .u64 x.q] ∧ Blk W By 43 #[.int .u64 x.x.b, .int .u64 x.x.p, .slice x.x.a x.x.m x.x.c, .int .i64 x.x.n] ∧ a' = { tmps := #[.pointer none, undef, .nilFunc, .pointer (some ⟨w.heap.size, 0, none⟩), .pointer (some ⟨Bx, 0, none⟩), .pointer (some ⟨By, 0, none⟩), .pointer none, .func (.func 114) #[] #[.pointer (some ⟨w.heap.size + 1, 0, none⟩)], .agg #[.int .i64 x.i, .int .u64 x.q], x.x.val, undef, undef, undef, undef, undef, undef, undef], defers := [] })
    (fun x a' _ X Y row hs hg hr => by
      obtain ⟨Bx, By, h1, h1', h2, h2', h3⟩ := hs
      have k : ∀ {b : Nat} {t : TypeId} {cs : Array Value}, Blk X b t cs → Blk Y b t cs := fun {b t cs} h2 => h2.same (hg.block b h2.lt (fun e => by
        obtain ⟨_, o, ho, hc⟩ := hr b e.symm
        unfold Blk at h2
        rw [h2] at ho; cases ho; cases hc))
      exact ⟨Bx, By, h1, h1', k h2, k h2', h3⟩)
    ?assign ?body ?done ?stop
  case assign =>
    rintro l pre x W K ⟨⟨⟨V, hV, hr, _⟩, hT9⟩, hB⟩ hK
    have hz := hB.size
    have hzw : w.heap.size ≤ W.heap.size := by omega
    simp only [Nam.encs]
    gi_wp2
    exact hK _ _ (((KeepsOthers.alloc _ _).trans (KeepsOthers.alloc _ _)).from _) trivial ⟨⟨⟨V, (hV.alloc _).alloc _, (hr.alloc _).alloc _, trivial⟩, (hT9.alloc _).alloc _⟩, (hB.alloc hzw _).alloc (by simp; omega) _⟩ ⟨W.heap.size, W.heap.size + 1, by omega, by omega, (Blk.new W 34 _).alloc _, Blk.at (W.alloc _) 43 _ (by simp), rfl⟩
  case body =>
    rintro l pre x a' W hl hr hI hA hlt
    exact absurd hlt (Nat.not_lt_zero _)
  case done =>
    rintro D zs W hD rfl ⟨⟨⟨V, hV, hrow, _⟩, hT9⟩, hB⟩ hK
    have hz := hB.size
    have cS := hV.cell
    gi_wp2
    refine ⟨by simp, .inl ⟨_, _, rfl, run_takeDeferred hK, ?_⟩⟩
    have hgD := grownBy_putObj' W D (.deferred none)
    have hD2 : some w.heap.size ≠ some D := by intro e; cases e; omega
    refine ⟨_, results_tmp rfl _ _ _, ⟨w.heap.size, rfl, Nat.le_refl _, by have := (hV.kept hgD hD2).lt; exact this, V, (hV.kept hgD hD2).cell, Row.of_own (ownsRow_putObj hrow _ hK rfl), fun k hk => ⟨?_, Row.lt (Row.of_own (ownsRow_putObj hrow (.deferred none) hK rfl)) k hk⟩⟩, (hB0.trans hB).trans (belowK_b (w := w) (Nat.le_refl _) W D _ _ (by omega) hK rfl rfl)⟩
    rcases hrow.2 with ⟨rfl, _⟩ | ⟨g', cap, cur, rfl, hb, _, _⟩
    · cases hk
    · simp [foot_some] at hk; subst hk; exact hb
  case stop =>
    rintro D c pre W _ _ h _
    exact h.elim
theorem All_no {w : World} {pt : Option Addr} (h : NoC w pt) :
    Calls Tryz.prog 14 #[.pointer pt] w fun e w' => ∃ BB, e = .returned (.func (.func 45) #[] #[ptr BB]) ∧ Below w.heap.size w w' ∧
      ∀ X : Nat → Prop, (∀ k, w.heap.size ≤ k → k < w'.heap.size → X k) → (∀ k, X k → k < w'.heap.size) → Over X w' BB [] := by
  have HP := Lib.hid (places_no h)
  have HA := Lib.hid ((callsIn_wide (n := 8)).1 (all_nil 8 (by omega) w))
  have HF : Hid (∀ w' B, Held w.heap.size w' B [] → Below w.heap.size w w' → ∀ X : Nat → Prop, (∀ k, w.heap.size ≤ k → k < w'.heap.size + 1 → X k) → (∀ k, X k → k < w'.heap.size + 1) → Over X (w'.alloc (.cells #[.func (.func 87) #[] #[.pointer (some ⟨B, 0, none⟩)]] 39)) w'.heap.size []) := Lib.hid fun w' B hH hb X hX hXw => by
    have z := hb.size
    exact ⟨⟨B, w.heap.size, w'.heap.size, Blk.new w' 39 _, hX _ z (by omega), hH.to.chg ((Chg.refl [] w').alloc _) (fun _ h => by cases h), fun k h1 h2 => hX k h1 (by omega)⟩, by simp, fun p hp => (by cases hp), by simpa using hXw⟩
  clear h
  go_enter Tryz.func14, Tryz.ntmps14
  go_wp2_with (first
    | (go_at_call 43; refine HP.out.mono ?_; rintro e w' ⟨rfl, rfl⟩)
    | (go_at_call 44; refine HA.out.mono ?_; rintro e w1 ⟨⟨B, rfl, hH⟩, hb⟩; have HH := Lib.hid hH; have HB := Lib.hid hb; clear hH hb))
  go_ret
  have hz : (w1.alloc (.cells #[.func (.func 87) #[] #[.pointer (some ⟨B, 0, none⟩)]] 39)).heap.size = w1.heap.size + 1 := by simp
  exact ⟨_, rfl, HB.out.alloc HB.out.size _, fun X h1 h3 => HF.out _ _ HH.out HB.out X (by rw [hz] at h1; exact h1) (by rw [hz] at h3; exact h3)⟩
/-- Same, where one of both is none. -/
theorem same_none {w : World} {p p2 : Option Addr} {b1 b2 : Bool} (n1 : ∀ W, Chg [] w W → Calls Tryz.prog 49 #[.pointer p] W fun e w' => e = .returned (.bool b1) ∧ W = w') (n2 : ∀ W, Chg [] w W → Calls Tryz.prog 49 #[.pointer p2] W fun e w' => e = .returned (.bool b2) ∧ W = w') (hb : (b1 || b2) = true) :
    Calls Tryz.prog 22 #[.pointer p, .pointer p2] w fun e w' => e = .returned (.bool (b1 && b2)) ∧ Chg [] w w' := by
  have h1 := Lib.hid (n1 ((w.alloc (.cells #[.pointer p2] 24)).alloc (.cells #[.bool false] 4)) (((Chg.refl [] w).alloc _).alloc _))
  have h2 := Lib.hid (n2 ((w.alloc (.cells #[.pointer p2] 24)).alloc (.cells #[.bool false] 4)) (((Chg.refl [] w).alloc _).alloc _))
  clear n1 n2
  have hne : ¬ (w.heap.size + 1 = w.heap.size) := by omega
  cases b1
  · cases b2
    · cases hb
    · clear hb
      go_enter Tryz.func22, Tryz.ntmps22
      go_wp2_with (first
        | (go_at_call 49; (with_reducible refine h1.out.mono ?_); rintro e w' ⟨rfl, rfl⟩)
        | (go_at_call 49; (with_reducible refine h2.out.mono ?_); rintro e w' ⟨rfl, rfl⟩))
      refine bodyPost_ret (v := .bool false) ?_ rfl ⟨rfl, ((Chg.refl [] w).alloc _).alloc _⟩
      simp [results, Tryz.results22, go_sem]
  · cases b2
    all_goals
      clear hb
      go_enter Tryz.func22, Tryz.ntmps22
      go_wp2_with (first
        | (go_at_call 49; (with_reducible refine h1.out.mono ?_); rintro e w' ⟨rfl, rfl⟩)
        | (go_at_call 49; (with_reducible refine h2.out.mono ?_); rintro e w' ⟨rfl, rfl⟩))
    · refine bodyPost_ret (v := .bool false) ?_ rfl ⟨rfl, ((Chg.refl [] w).alloc _).alloc _⟩
      simp [results, Tryz.results22, go_sem]
    · refine bodyPost_ret (v := .bool true) ?_ rfl ⟨rfl, ((Chg.refl [] w).alloc _).alloc _⟩
      simp [results, Tryz.results22, go_sem]
end Go.Proofs
end
section
namespace Go.Proofs
open Go.RowKit Go.Shelf
set_option linter.unusedVariables false
set_option linter.unusedSimpArgs false
attribute [local go_sem] Oper.semAt_some
theorem run_eql_nilFunc (c : Array Value) (f : FuncId) (w : World) : (binOp BinOp.eql 39 (Value.func (Fn.func f) #[] c) Value.nilFunc).run Tryz.prog w = .ok (.bool false) w := by
  kernel_rfl
attribute [local go_sem] run_eql_nilFunc
/-- What is kept all along: the zero contexts, the answer's cell, and whatever lay there. -/
structure KitC (w W : World) : Prop where
  zero : Blk W (w.heap.size + 1) 66 #[.pointer none, .int .i64 0]
  cell : Blk W w.heap.size 4 #[.bool false]
  chg_ : Chg [] w W
theorem KitC.chg {w W W' : World} (h : KitC w W) (hc : Chg [] W W') : KitC w W' := ⟨h.zero.chg hc (by simp), h.cell.chg hc (by simp), h.chg_.then hc⟩
theorem KitC.alloc {w W : World} (h : KitC w W) (o : Obj) : KitC w (W.alloc o) := h.chg ((Chg.refl _ _).alloc o)
theorem KitC.start (w : World) : KitC w ((w.alloc (.cells #[.bool false] 4)).alloc (.cells #[.pointer none, .int .i64 0] 66)) :=
  ⟨Blk.at _ 66 _ (by simp), (Blk.new w 4 _).alloc _, ((Chg.refl _ _).alloc _).alloc _⟩
theorem KitC.no {w W : World} (h : KitC w W) : NoC W (some ⟨w.heap.size + 1, 0, none⟩) := .inr ⟨_, rfl, h.zero⟩
theorem NoC.nil (W : World) : NoC W none := .inl rfl
theorem nm_no {W : World} {pt : Option Addr} (h : NoC W pt) : ∀ W', Chg [] W W' → Calls Tryz.prog 49 #[.pointer pt] W' fun e w' => e = .returned (.bool true) ∧ W' = w' := fun W' hc => none_no (h.quiet hc)
theorem nm_yes {W : World} {c : Nat} {S : List Nat} {t : Tab Cx} {most : Int} (h : CtxAt W c S t most) : ∀ W', Chg [] W W' → Calls Tryz.prog 49 #[.pointer (some ⟨c, 0, none⟩)] W' fun e w' => e = .returned (.bool false) ∧ W' = w' := fun W' hc => none_same (h.quiet hc)
/-- Nothing is bound of new ones: the ref is stale. -/
theorem bind_new {w W : World} {c g : Nat} {most : Int} (h : CtxAt W c [g] ⟨1, 1, [], [], 0⟩ most) (hg : w.heap.size ≤ g) (hc : Chg [] w W) :
    Calls Tryz.prog 27 #[ptr c, .agg #[.int .i64 0, .int .u64 0]] W fun e w' => e = .returned (.int .i64 11) ∧ Chg [] w w' := by
  have hh : Tab.has (⟨1, 1, [], [], 0⟩ : Tab Cx) 0 0 = false := rfl
  have ha : Tab.at_ (⟨1, 1, [], [], 0⟩ : Tab Cx) 0 0 = cx0 := rfl
  refine (Bind_any h (by decide) (by decide) (by rw [ha]; decide) (by rw [ha]; decide)).mono ?_
  rintro e w' ⟨rfl, hT⟩
  refine ⟨by unfold bindE; rw [hh]; rfl, hc.trans hT.chg (fun k hk => ?_)⟩
  simp at hk
  subst hk
  exact .inr hg
set_option maxRecDepth 100000 in
set_option maxHeartbeats 12800000 in
theorem nil_any (w : World) : CallsIn Fence.wide 12 Tryz.prog 7 #[] w fun e w' => e = .returned (.bool true) ∧ Chg [] w w' := by
  have k0 := KitC.start w
  refine callsIn_of_wp_marks Tryz.func7 rfl trivial ?_ rfl
  simp only [Tryz.ntmps7, List.size_toArray, List.length_nil, Nat.reduceSub, Array.replicate_succ, Array.replicate_zero, List.push_toArray, List.append_toArray, List.nil_append, List.cons_append]
  gi_wp2_with (fail)
  refine ⟨trivial, (callsIn_wide.2 (make_nil (pt := none) (NoC.nil _) 1 1 0 rfl)).mono ?_⟩
  rintro e w1 ⟨rfl, hc1⟩
  have k1 := (k0.chg hc1).alloc (.cells #[.int .i64 0, .int .u64 0] 34)
  clear k0 hc1
  gi_wp2_with (fail)
  refine ⟨trivial, (callsIn_wide.2 (Get_no k1.no 0 0)).mono ?_⟩
  rintro e w2 ⟨A2, cc2, rfl, hc2⟩
  have k2 := (k1.chg hc2).alloc (.cells #[.int .u64 0, .int .u64 0, .slice A2 0 cc2, .int .i64 0] 43)
  clear k1 hc2
  gi_wp2_with (fail)
  refine ⟨trivial, (callsIn_wide.2 (split_nil (pt := none) (NoC.nil _) 0 0 1 0 rfl)).mono ?_⟩
  rintro e w3 ⟨rfl, hc3⟩
  have k3 := (k2.chg hc3).alloc (.cells #[.int .i64 0, .int .u64 0] 34)
  clear k2 hc3
  gi_wp2_with (fail)
  refine ⟨trivial, (callsIn_wide.2 (Next_no k3.no 0 0 0)).mono ?_⟩
  rintro e w3b ⟨rfl, hc3b⟩
  have k3b := k3.chg hc3b
  clear k3 hc3b
  gi_wp2_with (fail)
  refine ⟨trivial, (callsIn_wide.2 (All_no (pt := none) (NoC.nil _))).mono ?_⟩
  rintro e w4 ⟨BB1, rfl, hb4, hO1⟩
  have k4 := k3b.chg (Chg.of_below hb4)
  clear k3b
  gi_wp2_with (fail)
  refine ⟨trivial, (callsIn_wide.2 (All_no k4.no)).mono ?_⟩
  rintro e w5 ⟨BB2, rfl, hb5, hO2⟩
  have k5 := k4.chg (Chg.of_below hb5)
  have z5 := hb5.size
  have hz4 : w3b.heap.size ≤ w4.heap.size := hb4.size
  have o1 := (hO1 (fun k => k < w4.heap.size) (fun k _ h => h) (fun k h => h)).keep (KeepP.quiet (Chg.of_below hb5) (fun k hk => hk))
  have o1' : Over (fun k => k < w5.heap.size) w5 BB1 [] := ⟨by obtain ⟨B, n0, hi, h1, h2, h3, h4⟩ := o1.box; exact ⟨B, n0, hi, h1, Nat.lt_of_lt_of_le h2 z5, h3, fun k a b => Nat.lt_of_lt_of_le (h4 k a b) z5⟩, by simp, fun p hp => (by cases hp), fun k hk => hk⟩
  have o2 := hO2 (fun k => k < w5.heap.size) (fun k _ h => h) (fun k h => h)
  clear k4 hO1 hO2 hb4 hb5 o1
  gi_wp2_with (fail)

  refine wpIn_rangeFunc_told rfl (by omega) (gf := 45) (lb := #[.pointer (some ⟨BB1, 0, none⟩)]) rfl trivial (enters_of Tryz.func45 (by kernel_rfl) rfl)
    (over_tells (12 - 1) (by omega) o1' (D := w5.heap.size) (fun k hk => hk) (Nat.le_refl _)) (fun h k => h.trans k)
    (fun Wq o o' hk ho => Kp85.turn Wq hk ho (fun h => by have h' : w5.heap.size + 1 < w5.heap.size := h; omega))
    (Below.refl _ _) (fun _ => rfl)
    (fun _ W => Chg [] w5 W) (fun _ _ _ => False)
    (fun pre A B row h hg hr => h.grown0 hg (fun k e => (hr k e).1)) (fun _ _ _ _ _ hs _ _ => hs) (Chg.refl _ _)
    (fun _ _ _ => True) (fun _ _ _ _ _ _ _ _ _ => trivial) ?assign1 ?body1 ?done1 ?stop1
  case assign1 =>
    rintro l pre x W K hI hT hK
    obtain ⟨_, _, _, p, hp, _⟩ := hT
    cases hp
  case body1 =>
    intro l pre x a' W hI hA hlt
    exact absurd hlt (Nat.not_lt_zero _)
  case stop1 =>
    intro D c pre W _ _ h _
    exact h.elim
  case done1 =>
    rintro D1 xs W6 hD1 _ hB6 hK1
    have k6 := k5.chg hB6
    have hz6 : w5.heap.size ≤ W6.heap.size := hB6.size
    have o3 := o2.keep (KeepP.quiet hB6 (fun k hk => hk))
    clear o2 o1' z5 hz4
    gi_wp2_with (fail)

    refine wpIn_rangeFunc_told rfl (by omega) (gf := 45) (lb := #[.pointer (some ⟨BB2, 0, none⟩)]) rfl trivial (enters_of Tryz.func45 (by kernel_rfl) rfl)
      (over_tells (12 - 1) (by omega) o3 (D := w5.heap.size) (fun k hk => hk) hz6) (fun h k => h.trans k)
      (fun Wq o o' hk ho => Kp85.turn Wq hk ho (fun h => by have h' : W6.heap.size + 1 < w5.heap.size := h; have := hz6; omega))
      (Below.refl _ _) (fun _ => rfl)
      (fun _ W => Chg [] W6 W) (fun _ _ _ => False)
      (fun pre A B row h hg hr => h.grown0 hg (fun k e => (hr k e).1)) (fun _ _ _ _ _ hs _ _ => hs) (Chg.refl _ _)
      (fun _ _ _ => True) (fun _ _ _ _ _ _ _ _ _ => trivial) ?assign2 ?body2 ?done2 ?stop2
    case assign2 =>
      rintro l pre x W K hI hT hK
      obtain ⟨_, _, _, p, hp, _⟩ := hT
      cases hp
    case body2 =>
      intro l pre x a' W hI hA hlt
      exact absurd hlt (Nat.not_lt_zero _)
    case stop2 =>
      intro D c pre W _ _ h _
      exact h.elim
    case done2 =>
      rintro D2 xs W7 hD2 _ hB7 hK2
      have k7 := k6.chg hB7
      have hK1' := (hB7.block D1 (Array.getElem?_eq_some_iff.1 hK1).1 (by simp)).trans hK1
      have hM : Marks w.heap.size W7 [D2, D1] := by
        have hn : D2 ≠ D1 := by have := (Array.getElem?_eq_some_iff.1 hK1).1; omega
        have y5 := k5.chg_.size
        refine ⟨by simp [hn], fun D hD => ?_⟩
        simp at hD
        rcases hD with rfl | rfl
        · exact ⟨by omega, hK2⟩
        · exact ⟨by omega, hK1'⟩
      have HM := Lib.hid hM
      have K0 := Lib.hid (fun (w' : World) (h : Chg [] W7 w') => k7.chg h)
      have C := Chg.refl [] W7
      clear k6 o3 k5 hK1 hK2 hK1' hM hB6 hB7 hz6 hD1 hD2
      have hm12 : mayC 1 2 = true := rfl
      gi_wp2_with (fail)
      refine ⟨trivial, (callsIn_wide.2 (New_yes _ hm12)).mono ?_⟩
      rintro e X0 ⟨c, g, rfl, hT, lc, lg, hc⟩
      replace C := C.then hc
      replace k7 := K0.out _ C
      have HT := Lib.hid (fun W (h : Chg [] X0 W) => hT.quiet h)
      have D0 := Chg.refl [] X0
      have HC0 := Lib.hid C
      have HLG := Lib.hid lg
      clear hT hc lc lg hm12
      gi_wp2_with (fail)
      refine ⟨trivial, (callsIn_wide.2 (bind_nil (pt := none) (NoC.nil _) 0 0 rfl)).mono ?_⟩
      rintro e X1 ⟨rfl, hc⟩
      replace D0 := D0.then hc
      replace k7 := K0.out _ (HC0.out.then D0)
      clear hc
      gi_wp2_with (fail)
      refine ⟨trivial, (callsIn_wide.2 (unbind_nil k7.no 0 0 rfl)).mono ?_⟩
      rintro e X2 ⟨rfl, hc⟩
      replace D0 := D0.then hc
      replace k7 := K0.out _ (HC0.out.then D0)
      clear hc
      gi_wp2_with (fail)
      refine ⟨trivial, (callsIn_wide.2 (donate_nil (pt := none) (NoC.nil _) 0 0 0 0 1 0 rfl)).mono ?_⟩
      rintro e X3 ⟨rfl, hc⟩
      replace D0 := D0.then hc
      replace k7 := K0.out _ (HC0.out.then D0)
      clear hc
      gi_wp2_with (fail)
      refine ⟨trivial, (callsIn_wide.2 (drop_nil k7.no 0 0 rfl)).mono ?_⟩
      rintro e X4 ⟨rfl, hc⟩
      replace D0 := D0.then hc
      replace k7 := K0.out _ (HC0.out.then D0)
      clear hc
      gi_wp2_with (fail)
      refine ⟨trivial, (callsIn_wide.2 (Can_no (pt := none) (NoC.nil _) 0 0 0)).mono ?_⟩
      rintro e X5 ⟨rfl, hc⟩
      replace D0 := D0.then hc
      replace k7 := K0.out _ (HC0.out.then D0)
      clear hc
      gi_wp2_with (fail)
      refine ⟨trivial, (callsIn_wide.2 (Charge_no0 k7.no 0 0 0)).mono ?_⟩
      rintro e X6 ⟨rfl, hc⟩
      replace D0 := D0.then hc
      replace k7 := K0.out _ (HC0.out.then D0)
      clear hc
      gi_wp2_with (fail)
      refine ⟨trivial, (callsIn_wide.2 (len_no (pt := none) (NoC.nil _))).mono ?_⟩
      rintro e X7 ⟨rfl, hc⟩
      replace D0 := D0.then hc
      replace k7 := K0.out _ (HC0.out.then D0)
      clear hc
      gi_wp2_with (fail)
      refine ⟨trivial, (callsIn_wide.2 (len_no k7.no)).mono ?_⟩
      rintro e X8 ⟨rfl, hc⟩
      replace D0 := D0.then hc
      replace k7 := K0.out _ (HC0.out.then D0)
      clear hc
      gi_wp2_with (fail)
      refine ⟨trivial, (callsIn_wide.2 (copy_no (pt := none) (NoC.nil _))).mono ?_⟩
      rintro e X9 ⟨rfl, rfl⟩
      gi_wp2_with (fail)
      refine ⟨trivial, (callsIn_wide.2 (copy_no k7.no)).mono ?_⟩
      rintro e X10 ⟨rfl, rfl⟩
      gi_wp2_with (fail)
      refine ⟨trivial, (callsIn_wide.2 (same_none (nm_no (NoC.nil _)) (nm_no k7.no) rfl)).mono ?_⟩
      rintro e X11 ⟨rfl, hc⟩
      replace D0 := D0.then hc
      replace k7 := K0.out _ (HC0.out.then D0)
      clear hc
      gi_wp2_with (fail)
      refine ⟨trivial, (callsIn_wide.2 (same_none (nm_yes (HT.out _ D0)) (nm_no (NoC.nil _)) rfl)).mono ?_⟩
      rintro e X12 ⟨rfl, hc⟩
      replace D0 := D0.then hc
      replace k7 := K0.out _ (HC0.out.then D0)
      clear hc
      gi_wp2_with (fail)
      refine ⟨trivial, (callsIn_wide.2 (same_none (nm_no (NoC.nil _)) (nm_yes (HT.out _ D0)) rfl)).mono ?_⟩
      rintro e X13 ⟨rfl, hc⟩
      replace D0 := D0.then hc
      replace k7 := K0.out _ (HC0.out.then D0)
      clear hc
      gi_wp2_with (fail)
      refine ⟨trivial, (callsIn_wide.2 (bind_new (w := W7) (HT.out _ D0) HLG.out (HC0.out.then D0))).mono ?_⟩
      rintro e X14 ⟨rfl, hc⟩
      replace k7 := K0.out _ hc
      gi_wp2_with (fail)
      refine ⟨trivial, (callsIn_wide.2 (known_any _)).mono ?_⟩
      rintro e X15 ⟨rfl, hc15⟩
      have C15 := hc.then hc15
      replace k7 := K0.out _ C15
      have c0 := k7.cell.cell 0
      have f0 := k7.cell.frozen 0
      have q6 := k7.cell
      gi_wp2_with (fail)
      have hM5 : Marks w.heap.size (X15.setCell ⟨w.heap.size, 0, none⟩ (.bool true)) [D2, D1] := (HM.out.quiet C15).chg (S := [w.heap.size]) ((Chg.refl _ _).setCell (p := ⟨w.heap.size, 0, none⟩) (.inl (by simp)) _) (Off.cons q6 (by decide) (Off.nil _))
      refine leaves_marks (B := w.heap.size) (b := w.heap.size) (ty := 4) (cs := #[.bool true]) (w0 := X15.setCell ⟨w.heap.size, 0, none⟩ (.bool true)) (by have := k7.chg_.size; simpa [World.setCell] using this) ?_ [D2, D1] _ hM5 (Below.refl _ _) (by simpa using q6.set_ 0 (.bool true))
      intro W' hB' hH'
      have hcc : Chg [] w W' := (k7.chg_.setCell (p := ⟨w.heap.size, 0, none⟩) (.inr (by simp)) (.bool true)).then_below hB' (Nat.le_refl _)
      have h0 := hH'.cell 0
      simp at h0
      exact ⟨.bool true, by simp [results, Tryz.f7, go_sem, h0, Result.andThen], rfl, hcc⟩
theorem nil_calls (w : World) : Calls Tryz.prog 7 #[] w fun e w' => e = .returned (.bool true) ∧ Chg [] w w' := (callsIn_wide (n := 12)).1 (nil_any w)
end Go.Proofs
end
