import Derived.Test.YtocdkomjdcccoaaEaI
namespace Go.Proofs
open Go.RowKit
set_option linter.unusedVariables false
set_option maxHeartbeats 6400000 in
set_option maxRecDepth 100000 in
theorem known_any (w : World) : Calls Try.prog 4 #[] w fun e w' => e = .returned (.bool true) ∧ Chg [] w w' := by
  have HN := Lib.hid (kn_new w)
  have HM := Lib.hid (fun (w : World) (c : Nat) (S : List Nat) (h : CtxAt w c S k0 4) => kn_make h)
  have HS := Lib.hid (fun (w : World) (c : Nat) (S : List Nat) (A : Option Addr) (cc : Nat) (h : CtxAt w c S (k1 A cc) 4) => kn_split h)
  have HG1 := Lib.hid (fun (w : World) (c : Nat) (S : List Nat) (A : Option Addr) (m cc : Nat) (A2 : Option Addr) (c2 : Nat) (h : CtxAt w c S (k2 A m cc A2 c2) 4) => kn_get1 h)
  have HG2 := Lib.hid (fun (w : World) (c : Nat) (S : List Nat) (A : Option Addr) (m cc : Nat) (A2 : Option Addr) (c2 : Nat) (h : CtxAt w c S (k2 A m cc A2 c2) 4) => kn_get2 h)
  go_enter Try.func4, Try.ntmps4
  go_wp2_with (first
    | (go_at_call 5; refine HN.out.mono ?_; rintro e w1 ⟨c, g, rfl, hT, lc, lg, hc⟩; have HT1 := Lib.hid hT; have HC1 := Lib.hid hc; clear hT hc)
    | (go_at_call 6; refine (HM.out _ _ _ HT1.out).mono ?_; rintro e w2 ⟨A, cc, rfl, S2, h2, hs2, hc2⟩; have HT2 := Lib.hid (h2.quiet ((Chg.refl [] w2).alloc (obRef 0 1))); have HS2 := Lib.hid hs2; have HC2 := Lib.hid ((HC1.out.trans hc2 (fun k hk => (by simp at hk; subst hk; exact .inr lg))).alloc (obRef 0 1)); have HB2 := Lib.hid (Blk.new w2 30 #[.int .i64 0, .int .u64 1]); have b0 := HB2.out.cell 0; have b1 := HB2.out.cell 1; have lb := HB2.out.lt; have HX2 := Lib.hid (h2.box); clear h2 hs2 hc2)
    | (go_at_call 9; refine (HS.out _ _ _ _ _ HT2.out).mono ?_; rintro e w3 ⟨A', m, cc', A2, c2, rfl, S3, h3, hs3, hc3⟩; have HT3 := Lib.hid (h3.quiet ((Chg.refl [] w3).alloc (obRef 1 1))); have HC3 := Lib.hid ((HC2.out.trans hc3 (fun k hk => .inr ((HS2.out k hk).elim (fun hk => (by simp at hk; subst hk; exact lg)) (fun hk => Nat.le_trans HC1.out.size hk)))).alloc (obRef 1 1)); have HBa := Lib.hid ((HB2.out.chg hc3 (HX2.out _ (Nat.le_refl _)))); have a0 := HBa.out.cell 0; have a1 := HBa.out.cell 1; have la := HBa.out.lt; have HBb := Lib.hid (Blk.new w3 30 #[.int .i64 1, .int .u64 1]); clear h3 hs3 hc3)
    | (go_at_call 11; have q := HC4.out; refine (HG2.out _ _ _ _ _ _ _ _ (HT3.out.quiet (HD4.out.alloc _))).mono ?_; rintro e w5 ⟨B5, n5, rfl, r5, hc5⟩; have HR5 := Lib.hid r5; have HR4' := Lib.hid ((HR4.out.quiet ((Chg.refl [] _).alloc _)).quiet hc5); have HC5 := Lib.hid ((HC4.out.alloc _).then hc5); have HBe := Lib.hid ((Blk.new w4 42 #[.int .u64 3, .int .u64 10, .slice B4 1 n4, .int .i64 0]).chg hc5 (by simp)); have e0 := HBe.out.cell 0; have e1 := HBe.out.cell 1; have e2 := HBe.out.cell 2; have e3 := HBe.out.cell 3; have le5 := HBe.out.lt; simp only [List.getElem?_toArray, List.getElem?_cons_succ, List.getElem?_cons_zero] at e0 e1 e2 e3; clear r5 hc5 q)
    | (go_at_call 11; refine (HG1.out _ _ _ _ _ _ _ _ HT3.out).mono ?_; rintro e w4 ⟨B4, n4, rfl, r4, hc4⟩; have HR4 := Lib.hid r4; have HD4 := Lib.hid hc4; have HC4 := Lib.hid (HC3.out.then hc4); have HBd := Lib.hid (HBb.out.chg hc4 (by simp)); have d0 := HBd.out.cell 0; have d1 := HBd.out.cell 1; have ld := HBd.out.lt; clear r4 hc4)
    | (go_at_call 12; have q := HC6.out; refine (kn_same (g := w6.heap.size) (HR5'.out.quiet ((Chg.refl [] w6).alloc _)) (Rd.one43 w6 2 1)).mono ?_; rintro e w7 ⟨rfl, hc7⟩; have HC7 := Lib.hid ((HC6.out.alloc (.cells #[.int .u64 2, .int .u64 1] 47)).then hc7); clear hc7 q)
    | (go_at_call 12; have e9 : (w5.alloc (.cells #[.int .u64 2, .int .u64 10, .slice B5 1 n5, .int .i64 0] 42)).heap.size = w5.heap.size + 1 := (by simp); refine (kn_same (g := w5.heap.size + 1) (HR4'.out.quiet (((Chg.refl [] w5).alloc _).alloc _)) (by rw [← e9]; exact Rd.one43 _ 3 0)).mono ?_; rintro e w6 ⟨rfl, hc6⟩; have HC6 := Lib.hid (((HC5.out.alloc (.cells #[.int .u64 2, .int .u64 10, .slice B5 1 n5, .int .i64 0] 42)).alloc (.cells #[.int .u64 3, .int .u64 0] 47)).then hc6); have HR5' := Lib.hid ((HR5.out.quiet (((Chg.refl [] w5).alloc _).alloc _)).quiet hc6); have HBf := Lib.hid (((Blk.new w5 42 #[.int .u64 2, .int .u64 10, .slice B5 1 n5, .int .i64 0]).alloc (.cells #[.int .u64 3, .int .u64 0] 47)).chg hc6 (by simp)); have f0 := HBf.out.cell 0; have f1 := HBf.out.cell 1; have f2 := HBf.out.cell 2; have f3 := HBf.out.cell 3; simp only [List.getElem?_toArray, List.getElem?_cons_succ, List.getElem?_cons_zero] at f0 f1 f2 f3; clear hc6 e9))
  go_ret
  exact ⟨rfl, HC7.out⟩
end Go.Proofs
