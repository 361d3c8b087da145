import Derived.Test.YtocdkomjdcccoaaGreatM16
section
namespace Go.Proofs
open Go.RowKit
set_option linter.unusedVariables false
set_option maxHeartbeats 6400000 in
set_option maxRecDepth 100000 in
theorem known_any (w : World) : Calls Tryz.prog 8 #[] w fun e w' => e = .returned (.bool true) ∧ Chg [] w w' := by
  have HN := Lib.hid (kn_new w)
  have HM := Lib.hid (fun (w : World) (c : Nat) (S : List Nat) (h : CtxAt w c S k0 4) => kn_make h)
  have HS := Lib.hid (fun (w : World) (c : Nat) (S : List Nat) (A : Option Addr) (cc : Nat) (h : CtxAt w c S (k1 A cc) 4) => kn_split h)
  have HG1 := Lib.hid (fun (w : World) (c : Nat) (S : List Nat) (A : Option Addr) (m cc : Nat) (A2 : Option Addr) (c2 : Nat) (h : CtxAt w c S (k2 A m cc A2 c2) 4) => kn_get1 h)
  have HG2 := Lib.hid (fun (w : World) (c : Nat) (S : List Nat) (A : Option Addr) (m cc : Nat) (A2 : Option Addr) (c2 : Nat) (h : CtxAt w c S (k2 A m cc A2 c2) 4) => kn_get2 h)
  go_enter Tryz.func8, Tryz.ntmps8
  go_wp2_with (first
    | (go_at_call 9; refine HN.out.mono ?_; rintro e w1 ⟨c, g, rfl, hT, lc, lg, hc⟩; have HT1 := Lib.hid hT; have HC1 := Lib.hid hc; clear hT hc)
    | (go_at_call 17; refine (HM.out _ _ _ HT1.out).mono ?_; rintro e w2 ⟨A, cc, rfl, S2, h2, hs2, hc2⟩; have HT2 := Lib.hid (h2.quiet ((Chg.refl [] w2).alloc (obRef 0 1))); have HS2 := Lib.hid hs2; have HC2 := Lib.hid ((HC1.out.trans hc2 (fun k hk => (by simp at hk; subst hk; exact .inr lg))).alloc (obRef 0 1)); have HB2 := Lib.hid (Blk.new w2 34 #[.int .i64 0, .int .u64 1]); have b0 := HB2.out.cell 0; have b1 := HB2.out.cell 1; have lb := HB2.out.lt; have HX2 := Lib.hid (h2.box); clear h2 hs2 hc2)
    | (go_at_call 25; refine (HS.out _ _ _ _ _ HT2.out).mono ?_; rintro e w3 ⟨A', m, cc', A2, c2, rfl, S3, h3, hs3, hc3⟩; have HT3 := Lib.hid (h3.quiet ((Chg.refl [] w3).alloc (obRef 1 1))); have HC3 := Lib.hid ((HC2.out.trans hc3 (fun k hk => .inr ((HS2.out k hk).elim (fun hk => (by simp at hk; subst hk; exact lg)) (fun hk => Nat.le_trans HC1.out.size hk)))).alloc (obRef 1 1)); have HBa := Lib.hid ((HB2.out.chg hc3 (HX2.out _ (Nat.le_refl _)))); have a0 := HBa.out.cell 0; have a1 := HBa.out.cell 1; have la := HBa.out.lt; have HBb := Lib.hid (Blk.new w3 34 #[.int .i64 1, .int .u64 1]); clear h3 hs3 hc3)
    | (go_at_call 24; have q := HC4.out; refine (HG2.out _ _ _ _ _ _ _ _ (HT3.out.quiet (HD4.out.alloc _))).mono ?_; rintro e w5 ⟨B5, n5, rfl, r5, hc5⟩; have HR5 := Lib.hid r5; have HR4' := Lib.hid ((HR4.out.quiet ((Chg.refl [] _).alloc _)).quiet hc5); have HC5 := Lib.hid ((HC4.out.alloc _).then hc5); have HBe := Lib.hid ((Blk.new w4 43 #[.int .u64 3, .int .u64 10, .slice B4 1 n4, .int .i64 0]).chg hc5 (by simp)); have e0 := HBe.out.cell 0; have e1 := HBe.out.cell 1; have e2 := HBe.out.cell 2; have e3 := HBe.out.cell 3; have le5 := HBe.out.lt; simp only [List.getElem?_toArray, List.getElem?_cons_succ, List.getElem?_cons_zero] at e0 e1 e2 e3; clear r5 hc5 q)
    | (go_at_call 24; refine (HG1.out _ _ _ _ _ _ _ _ HT3.out).mono ?_; rintro e w4 ⟨B4, n4, rfl, r4, hc4⟩; have HR4 := Lib.hid r4; have HD4 := Lib.hid hc4; have HC4 := Lib.hid (HC3.out.then hc4); have HBd := Lib.hid (HBb.out.chg hc4 (by simp)); have d0 := HBd.out.cell 0; have d1 := HBd.out.cell 1; have ld := HBd.out.lt; clear r4 hc4)
    | (go_at_call 19; have q := HC6.out; refine (kn_same (g := w6.heap.size) (HR5'.out.quiet ((Chg.refl [] w6).alloc _)) (Rd.one43 w6 2 1)).mono ?_; rintro e w7 ⟨rfl, hc7⟩; have HC7 := Lib.hid ((HC6.out.alloc (.cells #[.int .u64 2, .int .u64 1] 57)).then hc7); clear hc7 q)
    | (go_at_call 19; have e9 : (w5.alloc (.cells #[.int .u64 2, .int .u64 10, .slice B5 1 n5, .int .i64 0] 43)).heap.size = w5.heap.size + 1 := (by simp); refine (kn_same (g := w5.heap.size + 1) (HR4'.out.quiet (((Chg.refl [] w5).alloc _).alloc _)) (by rw [← e9]; exact Rd.one43 _ 3 0)).mono ?_; rintro e w6 ⟨rfl, hc6⟩; have HC6 := Lib.hid (((HC5.out.alloc (.cells #[.int .u64 2, .int .u64 10, .slice B5 1 n5, .int .i64 0] 43)).alloc (.cells #[.int .u64 3, .int .u64 0] 57)).then hc6); have HR5' := Lib.hid ((HR5.out.quiet (((Chg.refl [] w5).alloc _).alloc _)).quiet hc6); have HBf := Lib.hid (((Blk.new w5 43 #[.int .u64 2, .int .u64 10, .slice B5 1 n5, .int .i64 0]).alloc (.cells #[.int .u64 3, .int .u64 0] 57)).chg hc6 (by simp)); have f0 := HBf.out.cell 0; have f1 := HBf.out.cell 1; have f2 := HBf.out.cell 2; have f3 := HBf.out.cell 3; simp only [List.getElem?_toArray, List.getElem?_cons_succ, List.getElem?_cons_zero] at f0 f1 f2 f3; clear hc6 e9))
  go_ret
  exact ⟨rfl, HC7.out⟩
end Go.Proofs
end
section
namespace Go.Proofs
open Go.RowKit
set_option linter.unusedVariables false
/-! ### What both look like, plainly -/
section
variable {w : World} {c h : Nat} {S SR : List Nat} {t : Tab Cx} {r : RTab} {most N : Int}
theorem ris_at {j : Nat} {p : Pl} (hp : r.L[j]? = some p) : r.is (j : Nat) p.gen = p.there := by
  unfold RTab.is RTab.pl?
  rw [if_pos (by omega), Int.toNat_natCast, hp]
  simp
theorem Pair.stale (P : Pair w c S h SR t r most N) (i q : Int) : rstaleE r i q = staleE t i q := by
  unfold rstaleE staleE
  rw [P.sim.has P.ct.wf]
theorem Pair.stale_at (P : Pair w c S h SR t r most N) {j : Nat} {p : Pl} (hp : r.L[j]? = some p) : staleE t (j : Nat) p.gen = if p.there then 0 else 11 := by
  unfold staleE
  rw [← P.sim.has P.ct.wf, ris_at hp]
theorem Pair.alike (P : Pair w c S h SR t r most N) (i q : Int) : sameB (t.at_ i q) (r.at_ i q) = true := sameB_iff.2 (P.sim.at_ P.ct.wf i q)
theorem Pair.count (P : Pair w c S h SR t r most N) : t.size - t.frees - t.retired = (cT r r.L.length : Int) := by
  rw [P.sim.count P.ct.wf P.inv.Low, P.inv.ret]; omega
end
end Go.Proofs
end
section
namespace Go.Proofs
open Go.RowKit
set_option linter.unusedVariables false
def Turned (w0 wx : World) (v : Value) (n : Nat) : Prop := ∃ cur : List Rf, cur.length = n ∧ Rd wx v cur ∧ Chg (foot v) w0 wx
theorem Turned.start {w0 : World} {v : Value} {l : List Rf} {n : Nat} (h : Rd w0 v l) (hn : l.length = n) : Turned w0 w0 v n := ⟨l, hn, h, Chg.refl _ _⟩
theorem Turned.form {w0 wx : World} {A : Option Addr} {n c k : Nat} (h : Turned w0 wx (.slice A n c) n) (hk : k < n) : ∃ b o a t, A = some ⟨b, o, none⟩ ∧ wx.cell? ⟨b, o + k * 2, none⟩ = some (.int .u64 a) ∧ wx.cell? ⟨b, o + k * 2 + 1, none⟩ = some (.int .u64 t) ∧ (∀ j, wx.frozen? ⟨b, j, none⟩ = false) ∧
    (∀ u, Turned w0 (wx.setCell ⟨b, o + k * 2, none⟩ (.int .u64 u)) (.slice A n c) n) ∧ ∀ u, Turned w0 (wx.setCell ⟨b, o + k * 2 + 1, none⟩ (.int .u64 u)) (.slice A n c) n := by
  obtain ⟨cur, rfl, h1, h2⟩ := h
  obtain ⟨b, o, c', hv, _, lb, hfz, hc⟩ := h1.form (by omega)
  simp only [Value.slice.injEq] at hv
  obtain ⟨rfl, _, rfl⟩ := hv
  obtain ⟨x, hx⟩ : ∃ x, cur[k]? = some x := ⟨_, List.getElem?_eq_getElem hk⟩
  obtain ⟨q0, q1⟩ := hc k x hx
  refine ⟨b, o, x.1, x.2, rfl, q0, q1, hfz, fun u => ⟨cur.set k (u, x.2), by simp, rd_cell h1 (by omega) (by simp) (rfs_set1 cur k x u hx), h2.setCell (p := ⟨b, o + k * 2, none⟩) (.inl (by simp [foot_some])) _⟩,
    fun u => ⟨cur.set k (x.1, u), by simp, rd_cell (j := k * 2 + 1) h1 (by omega) (by simp) (rfs_set2 cur k x u hx), h2.setCell (p := ⟨b, o + k * 2 + 1, none⟩) (.inl (by simp [foot_some])) _⟩⟩
theorem Own.apart43 {w0 w wy : World} {v : Value} {l : List Rf} {b : Nat} {cs : Array Value} (h : Own w0 w v l) (hB : Blk w b 43 cs) (hc : Chg (foot v) w wy) : Blk wy b 43 cs := hB.chg hc (fun hm => Rs.ty h.rd hB (by decide) hm)
theorem Own.turned {w0 w wy : World} {v : Value} {l : List Rf} (h : Own w0 w v l) (hc : Chg (foot v) w wy) : Chg [] w0 wy := (h.2.2.any (S := foot v) |>.trans hc (fun k hk => .inl hk)).mono (fun k hk => .inr (h.2.1 k hk))
end Go.Proofs
end
section
namespace Go.Proofs
open Go.RowKit
set_option linter.unusedVariables false
section
variable {w : World} {c h : Nat} {S SR : List Nat} {t : Tab Cx} {r : RTab} {most N : Int}
set_option maxHeartbeats 6400000 in
set_option maxRecDepth 100000 in
theorem same_look (P : Pair w c S h SR t r most N) {kind ri rq ti tq a b T : Int} (hF : ActC.Fits ⟨kind, ri, rq, ti, tq, a, b, T⟩) :
    Calls Tryz.prog 13 #[ptr c, ptr h, .agg #[.int .i64 kind, .int .i64 ri, .int .u64 rq, .int .i64 ti, .int .u64 tq, .int .u64 a, .int .u64 b, .int .u64 T]] w fun e w' => e = .returned (.bool true) ∧ Chg [] w w' := by
  obtain ⟨n, hn⟩ : ∃ n, n = r.L.length := ⟨_, rfl⟩
  obtain ⟨l0, l1⟩ := P.len
  have hc0 : Chg [] w (w.alloc (.cells #[.int .i64 kind, .int .i64 ri, .int .u64 rq, .int .i64 ti, .int .u64 tq, .int .u64 a, .int .u64 b, .int .u64 T] 36)) := (Chg.refl [] w).alloc _
  have hbx := Blk.new w 36 #[.int .i64 kind, .int .i64 ri, .int .u64 rq, .int .i64 ti, .int .u64 tq, .int .u64 a, .int .u64 b, .int .u64 T]
  obtain ⟨w0, hw0⟩ : ∃ w0, w0 = w.alloc (.cells #[.int .i64 kind, .int .i64 ri, .int .u64 rq, .int .i64 ti, .int .u64 tq, .int .u64 a, .int .u64 b, .int .u64 T] 36) := ⟨_, rfl⟩
  have P0 := P.quiet hc0
  rw [← hw0] at hc0 hbx P0
  have HP := Lib.hid P0
  have HBX := Lib.hid hbx
  have HC0 := Lib.hid hc0
  have HN := Lib.hid hn
  have HF := Lib.hid hF
  have HL1 := Lib.hid l1
  clear hF P P0 hbx hc0 l0 l1 hn
  go_enter Tryz.func13, Tryz.ntmps13
  go_wp2
  rw [← hw0]
  clear hw0
  go_loopg [7, 8] n (fun gh s i wx => ∃ k : Nat, k + gh = n ∧ i = .int .i64 k ∧ s = .int .i64 (cT r k) ∧ Hid (Chg [] w0 wx))
  case atStart => exact ⟨0, by omega, rfl, rfl, Lib.hid (Chg.refl _ _)⟩
  case round =>
    obtain ⟨k, hk, rfl, rfl, HC⟩ := hrel
    have kc := cT_le r k
    have hl1 := HL1.out
    rw [← HN.out] at hl1
    by_cases hlt : k < n
    · obtain ⟨p, hp⟩ : ∃ p, r.L[k]? = some p := ⟨_, List.getElem?_eq_getElem (by rw [← HN.out]; exact hlt)⟩
      have P2 := HP.out.quiet HC.out
      obtain ⟨gl, cl, hB, hL, hSR, lgl, lk, hne, q0, q1, _, _, _, _, _, hfz⟩ := P2.rf.form hp
      rw [← HN.out] at hB
      have c0 := hB.cell 0
      have lh := hB.lt
      have kk0 : (0 : Int) ≤ (k : Int) := by omega
      have kk1 : (k : Int) < (n : Int) := by omega
      have HG := Lib.hid (fun W (hc : Chg [] wr W) => Get_any (P2.quiet hc).ct (i := (k : Nat)) (q := p.gen) (by omega) (by omega) (by have := (P2.inv.any (k : Nat) p.gen).2.1; omega))
      have HR := Lib.hid (fun W (hc : Chg [] wr W) => rget_any (P2.quiet hc).rf HL1.out (k : Nat) p.gen)
      have HRD := Lib.hid (fun W (hc : Chg [] wr W) => (P2.quiet hc).rf.rd (k : Nat) p.gen)
      have HAL := Lib.hid (P2.alike (k : Nat) p.gen)
      have hrs := P2.stale (k : Nat) p.gen
      have hst := P2.stale_at hp
      rw [hst] at hrs
      unfold GetOut at HG
      rw [hst] at HG
      rw [hrs] at HR
      have HLN := Lib.hid (P2.inv.any (k : Nat) p.gen).2.1
      have hcs := cT_succ hp
      obtain ⟨x, hx⟩ : ∃ x, x = t.at_ (k : Nat) p.gen := ⟨_, rfl⟩
      obtain ⟨y, hy⟩ : ∃ y, y = r.at_ (k : Nat) p.gen := ⟨_, rfl⟩
      rw [← hx] at HG HAL HLN
      rw [← hy] at HR HRD HAL
      obtain ⟨G, hG⟩ : ∃ G, G = p.gen := ⟨_, rfl⟩
      rw [← hG] at q0 HG HR
      clear hB hL hSR lk q1 hfz hst hrs hx hy hG P2 hp
      cases hth : p.there with
      | false =>
        rw [hth] at HG HR hcs
        simp only [Bool.false_eq_true, if_false] at HG HR hcs
        obtain ⟨m, hm⟩ : ∃ m, m = x.l.length := ⟨_, rfl⟩
        have hm16 : m ≤ 16 := by rw [hm]; exact HLN.out
        have HM := Lib.hid hm.symm
        have HSB := Lib.hid (show ∀ (A : Option Addr) (cc : Nat), sameB ⟨x.b, x.p, A, m, cc, x.n, x.l⟩ y = true from fun _ _ => HAL.out)
        rw [← hm] at HG
        clear hm
        go_wp2_with (first
          | (go_at_call 24; refine (HG.out _ ((Chg.refl [] _).alloc _)).mono ?_; rintro e w1 ⟨A, cc, rfl, ho⟩; have HO := Lib.hid ho; have HC1 := Lib.hid ((((Chg.refl [] wr).alloc _).then ho.2.2).alloc (.cells #[.int .u64 x.b, .int .u64 x.p, .slice A m cc, .int .i64 x.n] 43)); have HBr := Lib.hid ((Blk.new wr 34 #[.int .i64 (k : Nat), .int .u64 G]).chg ho.2.2 (by simp)); have r0 := HBr.out.cell 0; have r1 := HBr.out.cell 1; have lr := HBr.out.lt; clear ho)
          | (go_at_call 41; refine (HR.out _ HC1.out).mono ?_; rintro e w2 ⟨rfl, hc2⟩; have HC2 := Lib.hid ((HC1.out.then hc2).alloc (.cells #[.int .u64 y.b, .int .u64 y.p, .slice y.a y.m y.c, .int .i64 y.n] 43)); have HD2 := Lib.hid ((((Chg.refl [] w1).alloc (.cells #[.int .u64 x.b, .int .u64 x.p, .slice A m cc, .int .i64 x.n] 43)).then hc2).alloc (.cells #[.int .u64 y.b, .int .u64 y.p, .slice y.a y.m y.c, .int .i64 y.n] 43)); have HBx := Lib.hid ((Blk.new w1 43 #[.int .u64 x.b, .int .u64 x.p, .slice A m cc, .int .i64 x.n]).chg hc2 (by simp)); have x0 := HBx.out.cell 0; have x1 := HBx.out.cell 1; have x2 := HBx.out.cell 2; have x3 := HBx.out.cell 3; have lx := HBx.out.lt; have HRX := Lib.hid (((HO.out.rd.quiet ((Chg.refl [] _).alloc (.cells #[.int .u64 x.b, .int .u64 x.p, .slice A m cc, .int .i64 x.n] 43))).quiet hc2).quiet ((Chg.refl [] _).alloc (.cells #[.int .u64 y.b, .int .u64 y.p, .slice y.a y.m y.c, .int .i64 y.n] 43))); simp only [List.getElem?_toArray, List.getElem?_cons_succ, List.getElem?_cons_zero] at x0 x1 x2 x3; clear hc2)
          | (go_at_call 19; refine (sameone_any (x := ⟨x.b, x.p, A, m, cc, x.n, x.l⟩) (y := y) HRX.out (HRD.out _ HC2.out) (by have := HLN.out; show x.l.length ≤ 100000; omega)).mono ?_; rintro e w3 ⟨rfl, hc3⟩; rw [HSB.out]; have HC3 := Lib.hid (HC2.out.then hc3); have HB3 := Lib.hid ((HBx.out.alloc (.cells #[.int .u64 y.b, .int .u64 y.p, .slice y.a y.m y.c, .int .i64 y.n] 43)).chg hc3 (by simp)); have HO3 := Lib.hid ((HO.out.later (HD2.out.then hc3)).before ((Chg.refl [] wr).alloc _)); have HRX3 := Lib.hid (HRX.out.quiet hc3); clear hc3))
        go_roundg (n - k - 1)
        case measure => omega
        case rel => exact ⟨k + 1, by omega, by go_num, by rw [hcs]; go_num, Lib.hid (HC.out.then HC3.out)⟩
      | true =>
        rw [hth] at HG HR hcs
        simp only [if_true] at HG HR hcs
        obtain ⟨m, hm⟩ : ∃ m, m = x.l.length := ⟨_, rfl⟩
        have hm16 : m ≤ 16 := by rw [hm]; exact HLN.out
        have HM := Lib.hid hm.symm
        have HSB := Lib.hid (show ∀ (A : Option Addr) (cc : Nat), sameB ⟨x.b, x.p, A, m, cc, x.n, x.l⟩ y = true from fun _ _ => HAL.out)
        rw [← hm] at HG
        clear hm
        go_wp2_with (first
          | (go_at_call 24; refine (HG.out _ ((Chg.refl [] _).alloc _)).mono ?_; rintro e w1 ⟨A, cc, rfl, ho⟩; have HO := Lib.hid ho; have HC1 := Lib.hid ((((Chg.refl [] wr).alloc _).then ho.2.2).alloc (.cells #[.int .u64 x.b, .int .u64 x.p, .slice A m cc, .int .i64 x.n] 43)); have HBr := Lib.hid ((Blk.new wr 34 #[.int .i64 (k : Nat), .int .u64 G]).chg ho.2.2 (by simp)); have r0 := HBr.out.cell 0; have r1 := HBr.out.cell 1; have lr := HBr.out.lt; clear ho)
          | (go_at_call 41; refine (HR.out _ HC1.out).mono ?_; rintro e w2 ⟨rfl, hc2⟩; have HC2 := Lib.hid ((HC1.out.then hc2).alloc (.cells #[.int .u64 y.b, .int .u64 y.p, .slice y.a y.m y.c, .int .i64 y.n] 43)); have HD2 := Lib.hid ((((Chg.refl [] w1).alloc (.cells #[.int .u64 x.b, .int .u64 x.p, .slice A m cc, .int .i64 x.n] 43)).then hc2).alloc (.cells #[.int .u64 y.b, .int .u64 y.p, .slice y.a y.m y.c, .int .i64 y.n] 43)); have HBx := Lib.hid ((Blk.new w1 43 #[.int .u64 x.b, .int .u64 x.p, .slice A m cc, .int .i64 x.n]).chg hc2 (by simp)); have x0 := HBx.out.cell 0; have x1 := HBx.out.cell 1; have x2 := HBx.out.cell 2; have x3 := HBx.out.cell 3; have lx := HBx.out.lt; have HRX := Lib.hid (((HO.out.rd.quiet ((Chg.refl [] _).alloc (.cells #[.int .u64 x.b, .int .u64 x.p, .slice A m cc, .int .i64 x.n] 43))).quiet hc2).quiet ((Chg.refl [] _).alloc (.cells #[.int .u64 y.b, .int .u64 y.p, .slice y.a y.m y.c, .int .i64 y.n] 43))); simp only [List.getElem?_toArray, List.getElem?_cons_succ, List.getElem?_cons_zero] at x0 x1 x2 x3; clear hc2)
          | (go_at_call 19; refine (sameone_any (x := ⟨x.b, x.p, A, m, cc, x.n, x.l⟩) (y := y) HRX.out (HRD.out _ HC2.out) (by have := HLN.out; show x.l.length ≤ 100000; omega)).mono ?_; rintro e w3 ⟨rfl, hc3⟩; rw [HSB.out]; have HC3 := Lib.hid (HC2.out.then hc3); have HB3 := Lib.hid ((HBx.out.alloc (.cells #[.int .u64 y.b, .int .u64 y.p, .slice y.a y.m y.c, .int .i64 y.n] 43)).chg hc3 (by simp)); have HO3 := Lib.hid ((HO.out.later (HD2.out.then hc3)).before ((Chg.refl [] wr).alloc _)); have HRX3 := Lib.hid (HRX.out.quiet hc3); clear hc3))
        go_loopg [14] m (fun gq s wy => ∃ q : Nat, q + gq = m ∧ s = .int .i64 q ∧ Hid (Turned w3 wy (.slice A m cc) m))
        case atStart => exact ⟨0, by omega, rfl, Lib.hid (Turned.start HRX3.out HM.out)⟩
        case round =>
          obtain ⟨q, hq, rfl, HT⟩ := hrel
          have HXB := Lib.hid (HO3.out.apart43 HB3.out HT.out.choose_spec.2.2)
          have y2 := HXB.out.cell 2
          have ly := HXB.out.lt
          simp only [List.getElem?_toArray, List.getElem?_cons_succ, List.getElem?_cons_zero] at y2
          have qn0 : (0 : Int) ≤ (q : Int) := by omega
          by_cases hql : q < m
          · have qn1 : (q : Int) < (m : Int) := by omega
            obtain ⟨b9, o9, a9, t9, rfl, z0, z1, hfz, g0, g1⟩ := HT.out.form hql
            have f0 := hfz (o9 + q * 2)
            have G0 := Lib.hid g0
            clear g0 g1 hfz
            go_wp2
            go_roundg (m - q - 1)
            case measure => omega
            case rel => exact ⟨q + 1, by omega, by go_num, Lib.hid (G0.out _)⟩
          · obtain rfl : q = m := by omega
            have HTT := Lib.hid (HO3.out.turned HT.out.choose_spec.2.2)
            clear HT
            go_wp2
            go_roundg (n - k - 1)
            case measure => omega
            case rel => exact ⟨k + 1, by omega, by go_num, by rw [hcs]; go_num, Lib.hid (HC.out.then HTT.out)⟩
    · obtain rfl : k = n := by omega
      have P2 := HP.out.quiet HC.out
      have hF := HF.out
      have HB := Lib.hid (HBX.out.chg HC.out (by simp))
      have hr1 := (P2.inv.any ri rq)
      have ht1 := (P2.inv.any ti tq)
      have ha := P2.sim.at_ P2.ct.wf ri rq
      have hb := P2.sim.at_ P2.ct.wf ti tq
      have HNX := Lib.hid (fun W (hc : Chg [] wr W) => Next_any (P2.quiet hc).ct (i := ri) (q := rq) T hF.r0 hF.r1 (by omega))
      have HRN := Lib.hid (fun W (hc : Chg [] wr W) => rnext_ctx (P2.quiet hc).rf HL1.out (i := ri) (q := rq) T (by rw [← ha.l]; omega))
      rw [P2.next] at HRN
      have HG := Lib.hid (fun W (hc : Chg [] wr W) => Get_any (P2.quiet hc).ct (i := ri) (q := rq) hF.r0 hF.r1 (by omega))
      have HR := Lib.hid (fun W (hc : Chg [] wr W) => rget_any (P2.quiet hc).rf HL1.out ri rq)
      rw [P2.stale] at HR
      unfold GetOut at HG
      have HLE := Lib.hid (fun W (hc : Chg [] wr W) => len_any (P2.quiet hc).ct)
      rw [P2.count, ← HN.out] at HLE
      have HCA := Lib.hid (fun W (hc : Chg [] wr W) => Can_any (P2.quiet hc).ct (i := ri) (q := rq) T hF.r0 hF.r1 hr1.1 (by omega))
      have HCB := Lib.hid (fun W (hc : Chg [] wr W) => Can_any (P2.quiet hc).ct (i := ti) (q := tq) T hF.t0 hF.t1 ht1.1 (by omega))
      have HDA := Lib.hid (fun W (hc : Chg [] wr W) => rcan_any (P2.quiet hc).rf HL1.out (i := ri) (q := rq) T (by rw [← ha.l]; exact hr1.1) (by rw [← ha.l]; omega))
      have HDB := Lib.hid (fun W (hc : Chg [] wr W) => rcan_any (P2.quiet hc).rf HL1.out (i := ti) (q := tq) T (by rw [← hb.l]; exact ht1.1) (by rw [← hb.l]; omega))
      rw [P2.can] at HDA HDB
      obtain ⟨X1, hX1⟩ : ∃ X1, X1 = canB t ri rq T := ⟨_, rfl⟩
      obtain ⟨X2, hX2⟩ : ∃ X2, X2 = canB t ti tq T := ⟨_, rfl⟩
      obtain ⟨Y1, hY1⟩ : ∃ Y1, Y1 = (nextP (t.at_ ri rq).l T).1 := ⟨_, rfl⟩
      obtain ⟨Y2, hY2⟩ : ∃ Y2, Y2 = (nextP (t.at_ ri rq).l T).2 := ⟨_, rfl⟩
      obtain ⟨E, hE⟩ : ∃ E, E = staleE t ri rq := ⟨_, rfl⟩
      obtain ⟨M, hM⟩ : ∃ M, M = ((cT r k : Nat) : Int) := ⟨_, rfl⟩
      obtain ⟨x, hx⟩ : ∃ x, x = t.at_ ri rq := ⟨_, rfl⟩
      obtain ⟨y, hy⟩ : ∃ y, y = r.at_ ri rq := ⟨_, rfl⟩
      rw [← hX1] at HCA HDA
      rw [← hX2] at HCB HDB
      rw [← hY1, ← hY2] at HNX HRN
      rw [← hE, ← hx] at HG
      rw [← hE, ← hy] at HR
      rw [← hM] at HLE ⊢
      have e1 := beq_self_eq_true X1
      have e2 := beq_self_eq_true X2
      have e3 := beq_self_eq_true Y1
      have e4 := beq_self_eq_true Y2
      have e5 := beq_self_eq_true E
      have e6 := beq_self_eq_true M
      obtain ⟨VL, hB5, hL5, _⟩ := P2.rf
      obtain ⟨A5, c5, rfl, _⟩ := hL5.val
      rw [← HN.out] at hB5
      have c0 := hB5.cell 0
      have lh := hB5.lt
      have z1 := HB.out.cell 1
      have z2 := HB.out.cell 2
      have z3 := HB.out.cell 3
      have z4 := HB.out.cell 4
      have z7 := HB.out.cell 7
      have lz := HB.out.lt
      simp only [List.getElem?_toArray, List.getElem?_cons_succ, List.getElem?_cons_zero] at z1 z2 z3 z4 z7
      clear hF hr1 ht1 ha hb hX1 hX2 hY1 hY2 hE hM hx hy hB5 hL5 P2
      go_wp2_with (first
        | (go_at_call 26; refine (HNX.out _ (Chg.refl [] _)).mono ?_; rintro e v1 ⟨rfl, hc1⟩; have HC1 := Lib.hid (hc1); have HB1 := Lib.hid (HBX.out.chg (HC.out.then HC1.out) (by simp)); have a1 := HB1.out.cell 1; have a2 := HB1.out.cell 2; have a3 := HB1.out.cell 3; have a4 := HB1.out.cell 4; have a7 := HB1.out.cell 7; simp only [List.getElem?_toArray, List.getElem?_cons_succ, List.getElem?_cons_zero] at a1 a2 a3 a4 a7; have lv1 := HB1.out.lt; clear hc1)
        | (go_at_call 42; refine (HRN.out _ HC1.out).mono ?_; rintro e v2 ⟨rfl, hc2⟩; have HC2 := Lib.hid (HC1.out.then hc2); have HB2 := Lib.hid (HBX.out.chg (HC.out.then HC2.out) (by simp)); have b1 := HB2.out.cell 1; have b2 := HB2.out.cell 2; have b3 := HB2.out.cell 3; have b4 := HB2.out.cell 4; have b7 := HB2.out.cell 7; simp only [List.getElem?_toArray, List.getElem?_cons_succ, List.getElem?_cons_zero] at b1 b2 b3 b4 b7; have lv2 := HB2.out.lt; clear hc2)
        | (go_at_call 24; refine (HG.out _ HC2.out).mono ?_; rintro e v3 ⟨A, cc, rfl, ho⟩; have HC3 := Lib.hid ((HC2.out.then ho.2.2).alloc (.cells #[.int .u64 x.b, .int .u64 x.p, .slice A x.l.length cc, .int .i64 x.n] 43)); have HB3 := Lib.hid (HBX.out.chg (HC.out.then HC3.out) (by simp)); have d1 := HB3.out.cell 1; have d2 := HB3.out.cell 2; have d3 := HB3.out.cell 3; have d4 := HB3.out.cell 4; have d7 := HB3.out.cell 7; simp only [List.getElem?_toArray, List.getElem?_cons_succ, List.getElem?_cons_zero] at d1 d2 d3 d4 d7; have lv3 := HB3.out.lt; clear ho)
        | (go_at_call 41; refine (HR.out _ HC3.out).mono ?_; rintro e v4 ⟨rfl, hc4⟩; have HC4 := Lib.hid ((HC3.out.then hc4).alloc (.cells #[.int .u64 y.b, .int .u64 y.p, .slice y.a y.m y.c, .int .i64 y.n] 43)); have HB4 := Lib.hid (HBX.out.chg (HC.out.then HC4.out) (by simp)); have f1 := HB4.out.cell 1; have f2 := HB4.out.cell 2; have f3 := HB4.out.cell 3; have f4 := HB4.out.cell 4; have f7 := HB4.out.cell 7; simp only [List.getElem?_toArray, List.getElem?_cons_succ, List.getElem?_cons_zero] at f1 f2 f3 f4 f7; have lv4 := HB4.out.lt; clear hc4))
      go_region_held3 (fun w' => w'.cell? ⟨w.heap.size, 1, none⟩ = some (.int .i64 ri) ∧ w'.cell? ⟨w.heap.size, 2, none⟩ = some (.int .u64 rq) ∧ w'.cell? ⟨w.heap.size, 3, none⟩ = some (.int .i64 ti) ∧ w'.cell? ⟨w.heap.size, 4, none⟩ = some (.int .u64 tq) ∧ w'.cell? ⟨w.heap.size, 7, none⟩ = some (.int .u64 T))
        (first | go_keep)
        (first
          | (go_at_call 32; refine (HLE.out _ HC4.out.drew).mono ?_; rintro e v5 ⟨rfl, hc5⟩; have HC5 := Lib.hid (HC4.out.drew.then hc5); have HB5 := Lib.hid (HBX.out.chg (HC.out.then HC5.out) (by simp)); have k1 := HB5.out.cell 1; have k2 := HB5.out.cell 2; have k3 := HB5.out.cell 3; have k4 := HB5.out.cell 4; have k7 := HB5.out.cell 7)
          | (go_at_call 30; refine (HCB.out _ HC7.out).mono ?_; rintro e v8 ⟨rfl, hc8⟩; have HC8 := Lib.hid (HC7.out.then hc8); have HB8 := Lib.hid (HBX.out.chg (HC.out.then HC8.out) (by simp)); have n1 := HB8.out.cell 1; have n2 := HB8.out.cell 2; have n3 := HB8.out.cell 3; have n4 := HB8.out.cell 4; have n7 := HB8.out.cell 7)
          | (go_at_call 36; refine (HDB.out _ HC8.out).mono ?_; rintro e v9 ⟨rfl, hc9⟩; have HC9 := Lib.hid (HC8.out.then hc9); have HB9 := Lib.hid (HBX.out.chg (HC.out.then HC9.out) (by simp)); have o1 := HB9.out.cell 1; have o2 := HB9.out.cell 2; have o3 := HB9.out.cell 3; have o4 := HB9.out.cell 4; have o7 := HB9.out.cell 7)
          | (go_at_call 30; refine (HCA.out _ HC5.out).mono ?_; rintro e v6 ⟨rfl, hc6⟩; have HC6 := Lib.hid (HC5.out.then hc6); have HB6 := Lib.hid (HBX.out.chg (HC.out.then HC6.out) (by simp)); have l1 := HB6.out.cell 1; have l2 := HB6.out.cell 2; have l3 := HB6.out.cell 3; have l4 := HB6.out.cell 4; have l7 := HB6.out.cell 7)
          | (go_at_call 36; refine (HDA.out _ HC6.out).mono ?_; rintro e v7 ⟨rfl, hc7⟩; have HC7 := Lib.hid (HC6.out.then hc7); have HB7 := Lib.hid (HBX.out.chg (HC.out.then HC7.out) (by simp)); have m1 := HB7.out.cell 1; have m2 := HB7.out.cell 2; have m3 := HB7.out.cell 3; have m4 := HB7.out.cell 4; have m7 := HB7.out.cell 7))
      all_goals
        go_wp2
        go_ret
        exact ⟨rfl, HC0.out.then (HC.out.then HC9.out)⟩
end
end Go.Proofs
end
section
namespace Go.Proofs
open Go.RowKit
set_option linter.unusedVariables false
/-! ### Acts that came in, and what holds between two acts -/
def Acts (w : World) (V : Value) (l : List ActC) : Prop :=
  ∃ A c, V = .slice A l.length c ∧ ∀ (k : Nat) (a : ActC), l[k]? = some a → ∃ b off, A = some ⟨b, off, none⟩ ∧ b < w.heap.size ∧ a.Fits ∧
    ∀ (j : Nat) (u : Value), a.cells[j]? = some u → w.cell? ⟨b, off + k * 8 + j, none⟩ = some u
theorem Acts.quiet {w w' : World} {V : Value} {l : List ActC} (h : Acts w V l) (hc : Chg [] w w') : Acts w' V l := by
  obtain ⟨A, c, rfl, h1⟩ := h
  refine ⟨A, c, rfl, fun k a hk => ?_⟩
  obtain ⟨b, off, rfl, hb, hf, h2⟩ := h1 k a hk
  exact ⟨b, off, rfl, Nat.lt_of_lt_of_le hb hc.size, hf, fun j u hj => (hc.cell (p := ⟨b, _, none⟩) hb (by simp)).trans (h2 j u hj)⟩
theorem Acts.open_ {w : World} {V : Value} {l : List ActC} (h : Acts w V l) : ∃ A c, V = .slice A l.length c := by
  obtain ⟨A, c, h1, _⟩ := h; exact ⟨A, c, h1⟩
/-- An act's cells. -/
theorem Acts.at_ {w : World} {A : Option Addr} {n c : Nat} {l : List ActC} (h : Acts w (.slice A n c) l) {k : Nat} (hk : k < n) :
    ∃ b off kind ri rq ti tq a2 b2 T, A = some ⟨b, off, none⟩ ∧ l[k]? = some ⟨kind, ri, rq, ti, tq, a2, b2, T⟩ ∧ ActC.Fits ⟨kind, ri, rq, ti, tq, a2, b2, T⟩ ∧
      w.cell? ⟨b, off + k * 8, none⟩ = some (.int .i64 kind) ∧ w.cell? ⟨b, off + k * 8 + 1, none⟩ = some (.int .i64 ri) ∧ w.cell? ⟨b, off + k * 8 + 2, none⟩ = some (.int .u64 rq) ∧ w.cell? ⟨b, off + k * 8 + 3, none⟩ = some (.int .i64 ti) ∧
      w.cell? ⟨b, off + k * 8 + 4, none⟩ = some (.int .u64 tq) ∧ w.cell? ⟨b, off + k * 8 + 5, none⟩ = some (.int .u64 a2) ∧ w.cell? ⟨b, off + k * 8 + 6, none⟩ = some (.int .u64 b2) ∧ w.cell? ⟨b, off + k * 8 + 7, none⟩ = some (.int .u64 T) := by
  obtain ⟨A', c', hv, ho⟩ := h
  simp only [Value.slice.injEq] at hv
  obtain ⟨rfl, rfl, rfl⟩ := hv
  obtain ⟨a, ha⟩ : ∃ a, l[k]? = some a := ⟨_, List.getElem?_eq_getElem hk⟩
  obtain ⟨b, off, rfl, hb, hf, h2⟩ := ho k a ha
  obtain ⟨kind, ri, rq, ti, tq, a2, b2, T⟩ := a
  exact ⟨b, off, kind, ri, rq, ti, tq, a2, b2, T, rfl, ha, hf, h2 0 _ rfl, h2 1 _ rfl, h2 2 _ rfl, h2 3 _ rfl, h2 4 _ rfl, h2 5 _ rfl, h2 6 _ rfl, h2 7 _ rfl⟩
/-- The cells of an act that came in, whatever else has turned since. -/
def ActIs (w : World) (b o : Nat) (kind ri rq ti tq a2 b2 T : Int) : Prop := ∀ W, Chg [] w W →
  W.cell? ⟨b, o, none⟩ = some (.int .i64 kind) ∧ W.cell? ⟨b, o + 1, none⟩ = some (.int .i64 ri) ∧ W.cell? ⟨b, o + 2, none⟩ = some (.int .u64 rq) ∧ W.cell? ⟨b, o + 3, none⟩ = some (.int .i64 ti) ∧
  W.cell? ⟨b, o + 4, none⟩ = some (.int .u64 tq) ∧ W.cell? ⟨b, o + 5, none⟩ = some (.int .u64 a2) ∧ W.cell? ⟨b, o + 6, none⟩ = some (.int .u64 b2) ∧ W.cell? ⟨b, o + 7, none⟩ = some (.int .u64 T)
theorem Acts.is_ {w : World} {A : Option Addr} {n c : Nat} {l : List ActC} (h : Acts w (.slice A n c) l) {k : Nat} (hk : k < n) :
    ∃ b off kind ri rq ti tq a2 b2 T, A = some ⟨b, off, none⟩ ∧ l[k]? = some ⟨kind, ri, rq, ti, tq, a2, b2, T⟩ ∧ ActC.Fits ⟨kind, ri, rq, ti, tq, a2, b2, T⟩ ∧ ActIs w b (off + k * 8) kind ri rq ti tq a2 b2 T := by
  obtain ⟨A', c', hv, ho⟩ := h
  simp only [Value.slice.injEq] at hv
  obtain ⟨rfl, rfl, rfl⟩ := hv
  obtain ⟨a, ha⟩ : ∃ a, l[k]? = some a := ⟨_, List.getElem?_eq_getElem hk⟩
  obtain ⟨b, off, rfl, hb, hf, h2⟩ := ho k a ha
  obtain ⟨kind, ri, rq, ti, tq, a2, b2, T⟩ := a
  refine ⟨b, off, kind, ri, rq, ti, tq, a2, b2, T, rfl, ha, hf, fun W hc => ?_⟩
  have g := fun (j : Nat) (u : Value) (hj : (ActC.cells ⟨kind, ri, rq, ti, tq, a2, b2, T⟩)[j]? = some u) => (hc.cell (p := ⟨b, off + k * 8 + j, none⟩) hb (by simp)).trans (h2 j u hj)
  exact ⟨g 0 _ rfl, g 1 _ rfl, g 2 _ rfl, g 3 _ rfl, g 4 _ rfl, g 5 _ rfl, g 6 _ rfl, g 7 _ rfl⟩
/-- What holds behind N acts. -/
def Btw (w0 : World) (c h : Nat) (most : Int) (N : Nat) (w : World) : Prop :=
  ∃ S SR t r, Pair w c S h SR t r most N ∧ (∀ k ∈ S, w0.heap.size ≤ k) ∧ (∀ k ∈ SR, w0.heap.size ≤ k) ∧ Chg [] w0 w
section
variable {w0 w w' : World} {c h : Nat} {most : Int} {N : Nat}
theorem Btw.chg (H : Btw w0 c h most N w) : Chg [] w0 w := by obtain ⟨S, SR, t, r, h1, h2, h3, h4⟩ := H; exact h4
theorem Btw.quiet (H : Btw w0 c h most N w) (hc : Chg [] w w') : Btw w0 c h most N w' := by
  obtain ⟨S, SR, t, r, h1, h2, h3, h4⟩ := H
  exact ⟨S, SR, t, r, h1.quiet hc, h2, h3, h4.then hc⟩
/-- Both turn: what they are made of is new still. -/
theorem PTurns.new {K : Bool} {S SR : List Nat} {t : Tab Cx} {W : World} {M : Int} (hp : PTurns K c S h SR t most M w w') (h2 : ∀ k ∈ S, W.heap.size ≤ k) (h3 : ∀ k ∈ SR, W.heap.size ≤ k) (h4 : Chg [] W w) :
    ∃ S' SR' t' r', Pair w' c S' h SR' t' r' most (M + 1) ∧ (∀ k ∈ S', W.heap.size ≤ k) ∧ (∀ k ∈ SR', W.heap.size ≤ k) ∧ Chg [] W w' ∧ (K = true → totP t' = totP t) := by
  obtain ⟨S', SR', t', r', k1, k2, k3, k4, k5⟩ := hp
  have z := h4.size
  exact ⟨S', SR', t', r', k1, fun k hk => (k2 k hk).elim (h2 k) (fun h => Nat.le_trans z h), fun k hk => (k3 k hk).elim (h3 k) (fun h => Nat.le_trans z h), h4.trans k4 (fun k hk => .inr ((List.mem_append.1 hk).elim (h2 k) (h3 k))), k5⟩
theorem Btw.does (H : Btw w0 c h most N w) (hN : N + 1 ≤ 1000) (a : ActC) (hF : a.Fits) :
    Calls Tryz.prog 12 #[ptr c, ptr h, .agg a.cells.toArray] w fun e w' => e = .returned (.bool true) ∧ Btw w0 c h most (N + 1) w' := by
  obtain ⟨S, SR, t, r, h1, h2, h3, h4⟩ := H
  refine (do_any h1 (by omega) a hF).mono ?_
  rintro e w' ⟨he, hp⟩
  obtain ⟨S', SR', t', r', k1, k2, k3, k4, k5⟩ := hp.new h2 h3 h4
  exact ⟨he, S', SR', t', r', by have := k1; simpa using this, k2, k3, k4⟩
theorem Btw.look (H : Btw w0 c h most N w) {kind ri rq ti tq a b T : Int} (hF : ActC.Fits ⟨kind, ri, rq, ti, tq, a, b, T⟩) :
    Calls Tryz.prog 13 #[ptr c, ptr h, .agg #[.int .i64 kind, .int .i64 ri, .int .u64 rq, .int .i64 ti, .int .u64 tq, .int .u64 a, .int .u64 b, .int .u64 T]] w fun e w' => e = .returned (.bool true) ∧ Btw w0 c h most N w' := by
  obtain ⟨S, SR, t, r, h1, h2, h3, h4⟩ := id H
  exact (same_look h1 hF).mono fun e w' ⟨he, hc⟩ => ⟨he, H.quiet hc⟩
/-- New ones: nothing has been done yet. -/
theorem Btw.new {w1 : World} {size : Int} {g : Nat} (hm : mayC size most = true) (h1 : CtxAt w1 c [g] ⟨size, 1, [], [], 0⟩ most) (lg : w0.heap.size ≤ g) (hc : Chg [] w0 w1) :
    Calls Tryz.prog 11 #[.int .i64 size, .int .i64 most] w1 fun e w' => ∃ h, e = .returned (ptr h) ∧ Btw w0 c h most 0 w' ∧ ∃ S SR t r, Pair w' c S h SR t r most 0 ∧ totP t = 0 ∧ (∀ k ∈ S, w0.heap.size ≤ k) ∧ (∀ k ∈ SR, w0.heap.size ≤ k) ∧ Chg [] w0 w' := by
  obtain ⟨a1, a2, a3, a4⟩ := mayC_iff.1 hm
  obtain ⟨n, rfl⟩ : ∃ n : Nat, size = n := ⟨size.toNat, by omega⟩
  refine (rnew_any n (by omega) most w1).mono ?_
  rintro e w' ⟨rfl, h, SR, rfl, k1, k2, k3⟩
  have P : Pair w' c [g] w1.heap.size SR ⟨(n : Nat), 1, [], [], 0⟩ ⟨newL n, 0, most⟩ most (0 : Nat) :=
    ⟨h1.quiet k3, k1, Sim.new n most, rfl, Int.le_refl _, Inv.new hm⟩
  have q1 : ∀ k ∈ [g], w0.heap.size ≤ k := fun k hk => by simp at hk; subst hk; exact lg
  have q2 : ∀ k ∈ SR, w0.heap.size ≤ k := fun k hk => Nat.le_trans hc.size (k2 k hk)
  refine ⟨_, rfl, ⟨[g], SR, _, _, P, q1, q2, hc.then k3⟩, [g], SR, _, _, P, ?_, q1, q2, hc.then k3⟩
  unfold totP
  have : ∀ m, sumUp (valB ⟨(n : Nat), 1, [], [], 0⟩) m = 0 := fun m => by
    induction m with
    | zero => rfl
    | succ m ih => unfold sumUp; rw [ih]; unfold valB; simp
  exact this _
end
end Go.Proofs
end
