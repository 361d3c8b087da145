import Derived.Test.YtocdkomjdcccoaaCoP
namespace Go.Proofs
open Go.RowKit
set_option linter.unusedVariables false
set_option linter.unusedSimpArgs false
def canB (t : Tab Cx) (i q now : Int) : Bool := decide (0 < thereP (t.at_ i q).l now)
set_option maxHeartbeats 1600000 in
set_option maxRecDepth 100000 in
theorem Can_any {w : World} {c : Nat} {S : List Nat} {t : Tab Cx} {most : Int} (h : CtxAt w c S t most) {i q : Int} (now : Int) (i0 : -9223372036854775808 ≤ i) (i1 : i ≤ 9223372036854775807) (hk : Ok (t.at_ i q).l) (hn : (t.at_ i q).l.length ≤ 100000) :
    Calls Try.prog 7 #[ptr c, .agg #[.int .i64 i, .int .u64 q], .int .u64 now] w fun e w' => e = .returned (.bool (canB t i q now)) ∧ Chg [] w w' := by
  have HA := Lib.hid (fun W (hW : Chg [] w W) => at_agg (h.quiet hW) i q i0 i1)
  have HT := Lib.hid (fun W (hW : Chg [] w W) => there_any ((h.quiet hW).good.at_ i q) hk hn now)
  unfold canB
  obtain ⟨x, hx⟩ : ∃ x, x = t.at_ i q := ⟨_, rfl⟩
  rw [← hx] at HA HT ⊢
  obtain ⟨th, hth⟩ : ∃ th, th = thereP x.l now := ⟨_, rfl⟩
  rw [← hth] at HT ⊢
  have hfl := fldR x.b x.p x.n x.a x.m x.c
  clear hx h hk hn hth
  go_enter Try.func7, Try.ntmps7
  go_wp2_with (first
    | (go_at_call 22; refine (HA.out _ ((Chg.refl _ _).alloc _)).mono ?_; rintro e w1 ⟨rfl, hc⟩; have HC := Lib.hid (((Chg.refl [] w).alloc _).then hc); clear hc)
    | (go_at_call 21; refine (HT.out _ HC.out).mono ?_; rintro e w2 ⟨rfl, hc⟩; have HC2 := Lib.hid (HC.out.then hc); clear hc))
  go_ret
  exact ⟨rfl, HC2.out⟩
set_option maxHeartbeats 1600000 in
set_option maxRecDepth 100000 in
/-- The context is told, with refills of the caller's own. -/
theorem apart_any {w : World} {x : Cx} (hx : Rd w x.v x.l) (hn : x.l.length ≤ 100000) :
    Calls Try.prog 32 #[.agg #[.int .u64 x.b, .int .u64 x.p, .slice x.a x.m x.c, .int .i64 x.n]] w fun e w' => ∃ A cc, e = .returned (.agg #[.int .u64 x.b, .int .u64 x.p, .slice A x.l.length cc, .int .i64 x.n]) ∧ Own w w' (.slice A x.l.length cc) x.l := by
  have HCL := Lib.hid (fun W (hW : Chg [] w W) => clone_any (hx.quiet hW) hn)
  clear hx hn
  go_enter Try.func32, Try.ntmps32
  go_wp2_with (go_at_call 40; refine (HCL.out _ (((Chg.refl _ _).alloc _).alloc _)).mono ?_; rintro e w1 ⟨v, rfl, ho⟩; obtain ⟨A, cc, rfl, _⟩ := ho.rd.open_; obtain ⟨k0, k1, k2, k3, kf, kl⟩ := cx4_facts (w1 := w) ((Chg.refl [] _).alloc _) ho.2.2; obtain ⟨hz, r0, r1, r2, r3, rf⟩ := cx_facts (w := w.alloc (.cells #[.int .u64 x.b, .int .u64 x.p, .slice x.a x.m x.c, .int .i64 x.n] 42)) (n := w.heap.size + 1) (by simp) (Chg.refl [] _) ho.2.2; have HO := Lib.hid ho; clear ho)
  refine bodyPost_ret (v := .agg #[.int .u64 x.b, .int .u64 x.p, .slice A x.l.length cc, .int .i64 x.n]) ?_ rfl ⟨A, cc, rfl, ?_⟩
  · simp [results, Try.results32, go_sem, hz, r0, r1, r2, r3]
  · have hB0 := ((Blk.new w 42 #[.int .u64 x.b, .int .u64 x.p, .slice x.a x.m x.c, .int .i64 x.n]).alloc obCx).chg HO.out.2.2 (by simp)
    have hB1 := (Blk.at (w.alloc (.cells #[.int .u64 x.b, .int .u64 x.p, .slice x.a x.m x.c, .int .i64 x.n] 42)) 42 #[.int .u64 0, .int .u64 0, .slice none 0 0, .int .i64 0] (n := w.heap.size + 1) (by simp)).chg HO.out.2.2 (by simp)
    have hO : Off w1 [w.heap.size, w.heap.size + 1] := Off.cons hB0 (by decide) (Off.cons hB1 (by decide) (Off.nil _))
    have h0 : Own w w1 (.slice A x.l.length cc) x.l := HO.out.before (((Chg.refl _ _).alloc _).alloc _)
    refine h0.chg (S := [w.heap.size, w.heap.size + 1]) ?_ (h0.rd.off hO) (fun k hk => by simp at hk; omega)
    repeat' (first | with_reducible exact Chg.refl _ _ | with_reducible apply Chg.drew | with_reducible apply Chg.setCell | (with_reducible refine Or.inl ?_; simp; done))
/-- What a Get tells: the context, with refills of the caller's own; the error. -/
def GetOut (t : Tab Cx) (i q : Int) (w : World) (e : Ending) (w' : World) : Prop :=
  ∃ A cc, e = .returned (.tuple #[.agg #[.int .u64 (t.at_ i q).b, .int .u64 (t.at_ i q).p, .slice A (t.at_ i q).l.length cc, .int .i64 (t.at_ i q).n], .int .i64 (staleE t i q)]) ∧ Own w w' (.slice A (t.at_ i q).l.length cc) (t.at_ i q).l
set_option maxHeartbeats 3200000 in
set_option maxRecDepth 100000 in
theorem Get_any {w : World} {c : Nat} {S : List Nat} {t : Tab Cx} {most : Int} (h : CtxAt w c S t most) {i q : Int} (i0 : -9223372036854775808 ≤ i) (i1 : i ≤ 9223372036854775807) (hn : (t.at_ i q).l.length ≤ 100000) :
    Calls Try.prog 11 #[ptr c, .agg #[.int .i64 i, .int .u64 q]] w fun e w' => GetOut t i q w e w' := by
  have HAP := Lib.hid (fun W (hW : Chg [] w W) => apart_any ((h.quiet hW).good.at_ i q) hn)
  obtain ⟨g, hB, hT, hG, hW⟩ := h
  have HP := fun W (hW : Chg [] w W) => places_any (hB.chg hW (by simp))
  have HG := fun W (hc : Chg [] w W) => get_any (hT.quiet hc) hW i q i0 i1
  obtain ⟨x, hx⟩ : ∃ x, x = t.at_ i q := ⟨_, rfl⟩
  rw [← hx] at HG HAP
  obtain ⟨e0, he⟩ : ∃ e0, e0 = staleE t i q := ⟨_, rfl⟩
  rw [← he] at HG
  have HXX := Lib.hid hx
  have HEE := Lib.hid he
  have HP := Lib.hid HP
  have HG := Lib.hid HG
  have hq2 : ¬ (w.heap.size + 1 + 1 = w.heap.size) := by omega
  have hq3 : ¬ (w.heap.size = w.heap.size + 1 + 1) := by omega
  clear hx he hT hG hW hB hn
  go_enter Try.func11, Try.ntmps11
  go_wp2
  go_region_held3 (fun w' => w'.cell? ⟨w.heap.size, 0, none⟩ = some (.int .i64 i) ∧ w'.cell? ⟨w.heap.size, 1, none⟩ = some (.int .u64 q))
    (first | go_keep)
    (first
      | (go_at_call 23; refine (HP.out _ ((((Chg.refl _ _).alloc _).alloc _).drew)).mono ?_; rintro e w1 ⟨rfl, rfl⟩)
      | (go_at_call 23; refine (HP.out _ (((((Chg.refl _ _).alloc _).alloc _).alloc _).drew)).mono ?_; rintro e w1 ⟨rfl, rfl⟩)
      | (go_at_call 24; refine (HG.out _ ((((Chg.refl _ _).alloc _).alloc _).drew)).mono ?_; rintro e w2 ⟨rfl, hc⟩; obtain ⟨_, b0, b1⟩ := ref_facts (w := w) rfl (((Chg.refl [] _).alloc _).drew) hc; obtain ⟨hz, r0, r1, r2, r3, rf⟩ := cx_facts (w := w.alloc (obRef i q)) (n := w.heap.size + 1) (by simp) ((Chg.refl [] _).drew) hc; have hq4 : ¬ (w2.heap.size = w.heap.size) := (by omega); have hq5 : ¬ (w.heap.size = w2.heap.size) := (by omega); have HC := Lib.hid ((((Chg.refl [] w).alloc _).alloc _).drew.then hc); have HBQ := Lib.hid ((Blk.at (w.alloc (obRef i q)) 42 #[.int .u64 0, .int .u64 0, .slice none 0 0, .int .i64 0] (n := w.heap.size + 1) (by simp)).drew.chg hc (by simp)); clear hc)
      | (go_at_call 24; refine (HG.out _ (((((Chg.refl _ _).alloc _).alloc _).alloc _).drew)).mono ?_; rintro e w2 ⟨rfl, hc⟩; obtain ⟨_, b0, b1⟩ := ref_facts (w := w) rfl ((((Chg.refl [] _).alloc _).alloc _).drew) hc; obtain ⟨hz0, r0, r1, r2, r3, rf⟩ := cx_facts (w := w.alloc (obRef i q)) (n := w.heap.size + 1) (by simp) (((Chg.refl [] _).alloc _).drew) hc; obtain ⟨hz, k0, k1, k2, k3, kf⟩ := cx_facts (w := (w.alloc (obRef i q)).alloc obCx) (n := w.heap.size + 1 + 1) (by simp) ((Chg.refl [] _).drew) hc; have HC := Lib.hid (((((Chg.refl [] w).alloc _).alloc _).alloc _).drew.then hc); have HBQ := Lib.hid (((Blk.at (w.alloc (obRef i q)) 42 #[.int .u64 0, .int .u64 0, .slice none 0 0, .int .i64 0] (n := w.heap.size + 1) (by simp)).alloc obCx).drew.chg hc (by simp)); clear hc))
  all_goals
    go_wp2_with (go_at_call 32; refine (HAP.out _ (by repeat' (first | with_reducible exact HC.out | with_reducible apply Chg.alloc | with_reducible apply Chg.setCell | (with_reducible refine Or.inr ?_; dsimp only; omega)))).mono ?_; rintro e w3 ⟨A, cc, rfl, ho⟩; have hcc := ho.2.2; have hb3 : Blk w3 (w.heap.size + 1) 42 #[.int .u64 0, .int .u64 0, .slice none 0 0, .int .i64 0] := (by first | (with_reducible exact (HBQ.out.alloc _).chg hcc List.not_mem_nil) | (with_reducible exact (HBQ.out.far4 (g := w.heap.size + 1 + 1) (show w.heap.size + 1 ≠ w.heap.size + 1 + 1 by omega) 0 x).chg hcc List.not_mem_nil) | exact (HBQ.out.far4 (g := w.heap.size + 1 + 1) (show w.heap.size + 1 ≠ w.heap.size + 1 + 1 by omega) 0 x).chg hcc List.not_mem_nil); have HB3 := Lib.hid hb3; have m0 := hb3.cell 0; have m1 := hb3.cell 1; have m2 := hb3.cell 2; have m3 := hb3.cell 3; have mf := hb3.frozen; have ml := hb3.lt; have HO := Lib.hid (ho.before (by repeat' (first | with_reducible exact HC.out | with_reducible apply Chg.alloc | with_reducible apply Chg.setCell | (with_reducible refine Or.inr ?_; dsimp only; omega)))); clear ho hb3 hcc)
    refine bodyPost_ret (v := .tuple #[.agg #[.int .u64 x.b, .int .u64 x.p, .slice A x.l.length cc, .int .i64 x.n], .int .i64 e0]) ?_ rfl ⟨A, cc, by rw [← HXX.out, ← HEE.out], ?_⟩
    · simp [results, Try.results11, go_sem, ml, m0, m1, m2, m3]
    · rw [← HXX.out]
      refine HO.out.chg (S := [w.heap.size + 1]) ?_ (HO.out.rd.off (Off.cons HB3.out (by decide) (Off.nil _))) (fun k hk => by simp at hk; omega)
      repeat' (first | with_reducible exact Chg.refl _ _ | with_reducible apply Chg.drew | with_reducible apply Chg.setCell | (with_reducible refine Or.inl ?_; simp; done))
end Go.Proofs
