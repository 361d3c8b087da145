import Derived.Test.YtocdkomjdcccoaaCoR
namespace Go.Proofs
open Go.RowKit
set_option linter.unusedVariables false
def chB (x : Cx) (now most : Int) : Bool := (chargeP x.l now x.p most).2
def chL (x : Cx) (now most : Int) : List Rf := (chargeP x.l now x.p most).1
/-- What a charge leaves: as it was where nothing was there; else other refills. -/
def CChOut (c : Nat) (S : List Nat) (t : Tab Cx) (most : Int) (k : Nat) (x : Cx) (l : List Rf) (b : Bool) (w w' : World) : Prop :=
  (b = false → CtxTurns c S t most w w') ∧ (b = true → ∃ A m cc, CtxTurns c S (t.thing k ⟨x.b, x.p, A, m, cc, x.n, l⟩) most w w')
theorem CChOut.no {c : Nat} {S : List Nat} {t : Tab Cx} {most : Int} {k : Nat} {x : Cx} {l : List Rf} {w w' : World} (hT : CtxTurns c S t most w w') : CChOut c S t most k x l false w w' := ⟨fun _ => hT, (fun h => by cases h)⟩
theorem CChOut.yes {c : Nat} {S : List Nat} {t : Tab Cx} {most : Int} {k : Nat} {x : Cx} {l : List Rf} {w w' : World} {A : Option Addr} {m cc : Nat} (hT : CtxTurns c S (t.thing k ⟨x.b, x.p, A, m, cc, x.n, l⟩) most w w') : CChOut c S t most k x l true w w' := ⟨(fun h => by cases h), fun _ => ⟨A, m, cc, hT⟩⟩
theorem cx_put4 {w : World} {b : Nat} (h : Blk w b 42 #[.int .u64 0, .int .u64 0, .slice none 0 0, .int .i64 0]) (x : Cx) : Blk (put4 w b 0 x) b 42 #[.int .u64 x.b, .int .u64 x.p, .slice x.a x.m x.c, .int .i64 x.n] := by
  have := (((h.set_ 0 (.int .u64 x.b)).set_ 1 (.int .u64 x.p)).set_ 2 (.slice x.a x.m x.c)).set_ 3 (.int .i64 x.n)
  simpa using this
set_option maxHeartbeats 3200000 in
set_option maxRecDepth 100000 in
theorem Charge_no {w : World} {c : Nat} {S : List Nat} {t : Tab Cx} {most : Int} (h : CtxAt w c S t most) {i q : Int} (now : Int) (i0 : -9223372036854775808 ≤ i) (i1 : i ≤ 9223372036854775807) (hq : t.has i q = false) :
    Calls Try.prog 8 #[ptr c, .agg #[.int .i64 i, .int .u64 q], .int .u64 now] w fun e w' => e = .returned (.bool false) ∧ Chg [] w w' := by
  obtain ⟨g, hB, hT, hG, hW⟩ := h
  have HP := fun W (hW : Chg [] w W) => places_any (hB.chg hW (by simp))
  have HG := fun W (hc : Chg [] w W) => get_any (hT.quiet hc) hW i q i0 i1
  have he : staleE t i q = 11 := by unfold staleE; rw [hq]; rfl
  rw [he] at HG
  obtain ⟨x, hx⟩ : ∃ x, x = t.at_ i q := ⟨_, rfl⟩
  rw [← hx] at HG
  have HP := Lib.hid HP
  have HG := Lib.hid HG
  clear hx he hT hG hW hB hq
  go_enter Try.func8, Try.ntmps8
  go_wp2
  go_region_held3 (fun w' => w'.cell? ⟨w.heap.size, 0, none⟩ = some (.int .i64 i) ∧ w'.cell? ⟨w.heap.size, 1, none⟩ = some (.int .u64 q))
    (first | go_keep)
    (first
      | (go_at_call 23; refine (HP.out _ (((Chg.refl _ _).alloc _).drew)).mono ?_; rintro e w1 ⟨rfl, rfl⟩)
      | (go_at_call 23; refine (HP.out _ ((((Chg.refl _ _).alloc _).alloc _).drew)).mono ?_; rintro e w1 ⟨rfl, rfl⟩)
      | (go_at_call 24; refine (HG.out _ (((Chg.refl _ _).alloc _).drew)).mono ?_; rintro e w2 ⟨rfl, hc⟩; obtain ⟨hz, b0, b1⟩ := ref_facts (w := w) rfl ((Chg.refl [] _).drew) hc; have hq4 : ¬ (w2.heap.size = w.heap.size) := (by omega); have hq5 : ¬ (w.heap.size = w2.heap.size) := (by omega); have HC := Lib.hid (((Chg.refl [] w).alloc _).drew.then hc); have HC0 := Lib.hid ((Blk.new w 30 #[.int .i64 i, .int .u64 q]).drew.chg hc (by simp)); clear hc)
      | (go_at_call 24; refine (HG.out _ ((((Chg.refl _ _).alloc _).alloc _).drew)).mono ?_; rintro e w2 ⟨rfl, hc⟩; obtain ⟨_, b0, b1⟩ := ref_facts (w := w) rfl (((Chg.refl [] _).alloc _).drew) hc; obtain ⟨hz, k0, k1, k2, k3, kf⟩ := cx_facts (w := w.alloc (obRef i q)) (n := w.heap.size + 1) (by simp) ((Chg.refl [] _).drew) hc; have HC := Lib.hid ((((Chg.refl [] w).alloc _).alloc _).drew.then hc); have HBQ := Lib.hid ((Blk.at (w.alloc (obRef i q)) 42 #[.int .u64 0, .int .u64 0, .slice none 0 0, .int .i64 0] (n := w.heap.size + 1) (by simp)).drew.chg hc (by simp)); have HC0 := Lib.hid (((Blk.new w 30 #[.int .i64 i, .int .u64 q]).alloc obCx).drew.chg hc (by simp)); clear hc))
  all_goals
    go_wp2
    go_ret
    exact ⟨rfl, by repeat' (first | with_reducible exact HC.out | with_reducible apply Chg.alloc | with_reducible apply Chg.setCell | (with_reducible refine Or.inr ?_; dsimp only; omega))⟩
set_option maxHeartbeats 6400000 in
set_option maxRecDepth 100000 in
theorem Charge_yes {w : World} {c : Nat} {S : List Nat} {t : Tab Cx} {most : Int} (h : CtxAt w c S t most) {i q : Int} {now : Int} (i0 : -9223372036854775808 ≤ i) (i1 : i ≤ 9223372036854775807) (hq : t.has i q = true)
    (hk : Ok (t.at_ i q).l) (hn : (t.at_ i q).l.length ≤ 100000) (hnow : U64 now) (hper : U64 (t.at_ i q).p) :
    Calls Try.prog 8 #[ptr c, .agg #[.int .i64 i, .int .u64 q], .int .u64 now] w fun e w' => e = .returned (.bool (chB (t.at_ i q) now most)) ∧ CChOut c S t most i.toNat (t.at_ i q) (chL (t.at_ i q) now most) (chB (t.at_ i q) now most) w w' := by
  have HH := Lib.hid h
  have hch := fun W (hW : Chg [] w W) => charge_any ((h.quiet hW).good.at_ i q) hk hn (now := now) (most := most) hnow hper
  obtain ⟨g', hB', hset⟩ := set_ctx h hq
  obtain ⟨g, hB, hT, hG, hW⟩ := h
  have HP := fun W (hW : Chg [] w W) => places_any (hB.chg hW (by simp))
  have HG := fun W (hc : Chg [] w W) => get_any (hT.quiet hc) hW i q i0 i1
  have hgg : g' = g := by
    have e1 := hB'.cell 0
    have e2 := hB.cell 0
    rw [e1] at e2
    simpa using e2
  subst hgg
  have he : staleE t i q = 0 := by unfold staleE; rw [hq]; rfl
  rw [he] at HG
  unfold chB chL
  obtain ⟨x, hx⟩ : ∃ x, x = t.at_ i q := ⟨_, rfl⟩
  rw [← hx] at HG hch ⊢
  obtain ⟨pl, hpl⟩ : ∃ pl, pl = (chargeP x.l now x.p most).1 := ⟨_, rfl⟩
  obtain ⟨pb, hpb⟩ : ∃ pb, pb = (chargeP x.l now x.p most).2 := ⟨_, rfl⟩
  rw [← hpl, ← hpb] at hch
  rw [← hpl, ← hpb]
  have HCH := Lib.hid hch
  have HSET := Lib.hid hset
  have HBT := Lib.hid hB.tell
  have HP := Lib.hid HP
  have HG := Lib.hid HG
  have hlc := hB.lt
  clear hx he hT hG hW hB hq hch hset hB' hpl hpb hk hn hper
  go_enter Try.func8, Try.ntmps8
  go_wp2
  go_region_held3 (fun w' => w'.cell? ⟨w.heap.size, 0, none⟩ = some (.int .i64 i) ∧ w'.cell? ⟨w.heap.size, 1, none⟩ = some (.int .u64 q))
    (first | go_keep)
    (first
      | (go_at_call 23; refine (HP.out _ (((Chg.refl _ _).alloc _).drew)).mono ?_; rintro e w1 ⟨rfl, rfl⟩)
      | (go_at_call 23; refine (HP.out _ ((((Chg.refl _ _).alloc _).alloc _).drew)).mono ?_; rintro e w1 ⟨rfl, rfl⟩)
      | (go_at_call 24; refine (HG.out _ (((Chg.refl _ _).alloc _).drew)).mono ?_; rintro e w2 ⟨rfl, hc⟩; obtain ⟨hz, b0, b1⟩ := ref_facts (w := w) rfl ((Chg.refl [] _).drew) hc; have hq4 : ¬ (w2.heap.size = w.heap.size) := (by omega); have hq5 : ¬ (w.heap.size = w2.heap.size) := (by omega); have HC := Lib.hid (((Chg.refl [] w).alloc _).drew.then hc); have HC0 := Lib.hid ((Blk.new w 30 #[.int .i64 i, .int .u64 q]).drew.chg hc (by simp)); clear hc)
      | (go_at_call 24; refine (HG.out _ ((((Chg.refl _ _).alloc _).alloc _).drew)).mono ?_; rintro e w2 ⟨rfl, hc⟩; obtain ⟨_, b0, b1⟩ := ref_facts (w := w) rfl (((Chg.refl [] _).alloc _).drew) hc; obtain ⟨hz, k0, k1, k2, k3, kf⟩ := cx_facts (w := w.alloc (obRef i q)) (n := w.heap.size + 1) (by simp) ((Chg.refl [] _).drew) hc; have HC := Lib.hid ((((Chg.refl [] w).alloc _).alloc _).drew.then hc); have HBQ := Lib.hid ((Blk.at (w.alloc (obRef i q)) 42 #[.int .u64 0, .int .u64 0, .slice none 0 0, .int .i64 0] (n := w.heap.size + 1) (by simp)).drew.chg hc (by simp)); have HC0 := Lib.hid (((Blk.new w 30 #[.int .i64 i, .int .u64 q]).alloc obCx).drew.chg hc (by simp)); clear hc))
  all_goals
    first
    | (have hb7 := Blk.new w2 42 #[.int .u64 x.b, .int .u64 x.p, .slice x.a x.m x.c, .int .i64 x.n]; have lc2 := (HBT.out _ HC.out).2; have c1' := (HBT.out _ HC.out).1 1; have HB7 := Lib.hid hb7; have v0 := hb7.cell 0; have v1 := hb7.cell 1; have v2 := hb7.cell 2; have v3 := hb7.cell 3; have HC7 := Lib.hid (HC.out.alloc (.cells #[.int .u64 x.b, .int .u64 x.p, .slice x.a x.m x.c, .int .i64 x.n] 42)); have HK := Lib.hid (HBT.out _ HC7.out); have c0 := HK.out.1 0; have c1 := HK.out.1 1; have hn1 : ¬ (w2.heap.size = c) := (by omega); have hn2 : ¬ (w2.heap.size = w.heap.size) := (by omega); clear hb7
       go_wp2
       go_region_held3 (fun w' => w'.cell? ⟨w2.heap.size, 1, none⟩ = some (.int .u64 x.p) ∧ w'.cell? ⟨w2.heap.size, 2, none⟩ = some (.slice x.a x.m x.c) ∧ w'.cell? ⟨c, 1, none⟩ = some (.int .i64 most))
         (first | go_keep)
         (first
           | (go_at_call 25; refine (HCH.out _ HC7.out.drew).mono ?_; rintro e w3 ⟨v3', rfl, hmn⟩; obtain ⟨A3, c3, rfl, _⟩ := hmn.1.open_; have hcc := hmn.2.2; have HC8 := Lib.hid (HC7.out.drew.then hcc); have HB8 := Lib.hid (HB7.out.drew.chg hcc (by simp)); have HR8 := Lib.hid hmn.1; have g0 := (HBT.out _ HC8.out).1 0; have g1 := (HBT.out _ HC8.out).1 1; have z0 := HB8.out.cell 0; have z1 := HB8.out.cell 1; have z2 := HB8.out.cell 2; have z3 := HB8.out.cell 3; have zf := HB8.out.frozen; have zl := HB8.out.lt; have y0 := ((HC0.out.alloc _).drew.chg hcc (by simp)).cell 0; have y1 := ((HC0.out.alloc _).drew.chg hcc (by simp)).cell 1; clear hmn hcc))
       all_goals
         cases pb with
         | false =>
           go_wp2
           go_ret
           exact ⟨rfl, CChOut.no (CtxTurns.refl HH.out HC8.out)⟩
         | true =>
           have HC9 := Lib.hid (HC8.out.setCell (p := ⟨w2.heap.size, 2, none⟩) (.inr (by dsimp only; omega)) (.slice A3 pl.length c3))
           have HR9 := Lib.hid (HR8.out.keep (Off.cons HB8.out (by decide) (Off.nil _)) ((Chg.refl [w2.heap.size] w3).setCell (p := ⟨w2.heap.size, 2, none⟩) (.inl (by simp)) (.slice A3 pl.length c3)))
           go_wp2
           go_still_tail 6, (by kernel_rfl)
           (try change wpStill _ _ (World.drew _) _ _ _)
           (repeat still_step)
           (try refine wpStill_nil ?_)
           (try change wpList _ _ _ _ _ (World.drew _))
           go_wp2_with (go_at_call 26; refine (HSET.out _ HC9.out.drew x.b x.p x.n A3 pl.length c3 pl (HR9.out.quiet ((Chg.refl _ _).drew))).mono ?_; rintro e w4 ⟨rfl, hT⟩; have HT := Lib.hid hT; clear hT)
           go_ret
           exact ⟨rfl, CChOut.yes HT.out⟩)
    | (have hb7 := cx_put4 HBQ.out x; have lc2 := (HBT.out _ HC.out).2; have c1' := (HBT.out _ HC.out).1 1; have HB7 := Lib.hid hb7; have v0 := hb7.cell 0; have v1 := hb7.cell 1; have v2 := hb7.cell 2; have v3 := hb7.cell 3; have HC7 := Lib.hid (chg_put4 HC.out (.inr (show w.heap.size ≤ w.heap.size + 1 by omega)) 0 x); have HK := Lib.hid (HBT.out _ HC7.out); have c0 := HK.out.1 0; have c1 := HK.out.1 1; have hn1 : ¬ ((w.heap.size + 1) = c) := (by omega); have hn2 : ¬ ((w.heap.size + 1) = w.heap.size) := (by omega); clear hb7
       go_wp2
       go_region_held3 (fun w' => w'.cell? ⟨(w.heap.size + 1), 1, none⟩ = some (.int .u64 x.p) ∧ w'.cell? ⟨(w.heap.size + 1), 2, none⟩ = some (.slice x.a x.m x.c) ∧ w'.cell? ⟨c, 1, none⟩ = some (.int .i64 most))
         (first | go_keep)
         (first
           | (go_at_call 25; refine (HCH.out _ HC7.out.drew).mono ?_; rintro e w3 ⟨v3', rfl, hmn⟩; obtain ⟨A3, c3, rfl, _⟩ := hmn.1.open_; have hcc := hmn.2.2; have HC8 := Lib.hid (HC7.out.drew.then hcc); have HB8 := Lib.hid (HB7.out.drew.chg hcc (by simp)); have HR8 := Lib.hid hmn.1; have g0 := (HBT.out _ HC8.out).1 0; have g1 := (HBT.out _ HC8.out).1 1; have z0 := HB8.out.cell 0; have z1 := HB8.out.cell 1; have z2 := HB8.out.cell 2; have z3 := HB8.out.cell 3; have zf := HB8.out.frozen; have zl := HB8.out.lt; have y0 := ((HC0.out.far4 (g := w.heap.size + 1) (show w.heap.size ≠ w.heap.size + 1 by omega) 0 x).drew.chg hcc (by simp)).cell 0; have y1 := ((HC0.out.far4 (g := w.heap.size + 1) (show w.heap.size ≠ w.heap.size + 1 by omega) 0 x).drew.chg hcc (by simp)).cell 1; clear hmn hcc))
       all_goals
         cases pb with
         | false =>
           go_wp2
           go_ret
           exact ⟨rfl, CChOut.no (CtxTurns.refl HH.out HC8.out)⟩
         | true =>
           have HC9 := Lib.hid (HC8.out.setCell (p := ⟨(w.heap.size + 1), 2, none⟩) (.inr (by dsimp only; omega)) (.slice A3 pl.length c3))
           have HR9 := Lib.hid (HR8.out.keep (Off.cons HB8.out (by decide) (Off.nil _)) ((Chg.refl [(w.heap.size + 1)] w3).setCell (p := ⟨(w.heap.size + 1), 2, none⟩) (.inl (by simp)) (.slice A3 pl.length c3)))
           go_wp2
           go_still_tail 6, (by kernel_rfl)
           (try change wpStill _ _ (World.drew _) _ _ _)
           (repeat still_step)
           (try refine wpStill_nil ?_)
           (try change wpList _ _ _ _ _ (World.drew _))
           go_wp2_with (go_at_call 26; refine (HSET.out _ HC9.out.drew x.b x.p x.n A3 pl.length c3 pl (HR9.out.quiet ((Chg.refl _ _).drew))).mono ?_; rintro e w4 ⟨rfl, hT⟩; have HT := Lib.hid hT; clear hT)
           go_ret
           exact ⟨rfl, CChOut.yes HT.out⟩)
end Go.Proofs
