import Derived.Test.YtocdkomjdcccoaaCoL
import Derived.StillTailTactics
namespace Go.Proofs
open Go.RowKit
set_option linter.unusedVariables false
set_option linter.unusedSimpArgs false
theorem new_ref_any (w : World) (b t : Int) (hb : b ≠ 0) :
    Calls Try.prog 37 #[.int .u64 b, .int .u64 t] w fun e w' => ∃ A c, e = .returned (.slice A 1 c) ∧ Rd w' (.slice A 1 c) [(b, t)] ∧ Chg [] w w' := by
  refine (new_any w b t).mono ?_
  rintro e w' ⟨v, rfl, h⟩
  unfold newP at h
  rw [if_neg hb] at h
  obtain ⟨A, c, rfl, _⟩ := h.rd.open_
  exact ⟨A, c, rfl, h.rd, h.2.2⟩
set_option maxRecDepth 100000 in
theorem fresh_any (w : World) (b p t : Int) (hb : b ≠ 0) :
    Calls Try.prog 20 #[.int .u64 b, .int .u64 p, .int .u64 t] w fun e w' => ∃ A c, e = .returned (.agg #[.int .u64 b, .int .u64 p, .slice A 1 c, .int .i64 0]) ∧ Rd w' (.slice A 1 c) [(b, t)] ∧ Chg [] w w' := by
  have hN := fun W => new_ref_any W b t hb
  go_enter Try.func20, Try.ntmps20
  go_wp2_with (go_at_call 37; refine (hN _).mono ?_; rintro e w1 ⟨A, cc, rfl, hR, hc⟩; obtain ⟨hz, r0, r1, r2, r3, rf⟩ := cx_facts (w := w) (n := w.heap.size) rfl (Chg.refl [] _) hc; have HR := Lib.hid hR; have HC := Lib.hid (((Chg.refl [] w).alloc _).then hc); have HC1 := Lib.hid hc; clear hc hR)
  refine bodyPost_ret (v := .agg #[.int .u64 b, .int .u64 p, .slice A 1 cc, .int .i64 0]) ?_ rfl ⟨A, cc, rfl, ?_, ?_⟩
  · simp [results, Try.results20, go_sem, hz, r0, r1, r2, r3]
  · have hB : Blk w1 w.heap.size 42 #[.int .u64 0, .int .u64 0, .slice none 0 0, .int .i64 0] := (Blk.new w 42 _).chg HC1.out (by simp)
    have hO : Off w1 [w.heap.size] := Off.cons hB (by decide) (Off.nil _)
    refine HR.out.keep hO ?_
    repeat' (first | with_reducible exact Chg.refl _ _ | with_reducible apply Chg.alloc | with_reducible apply Chg.setCell | (with_reducible refine Or.inl ?_; simp; done))
  · repeat' (first | with_reducible exact HC.out | with_reducible apply Chg.alloc | with_reducible apply Chg.setCell | (with_reducible refine Or.inr ?_; dsimp only; omega))
/-- The table's Set, of contexts. -/
theorem set_ctx {w : World} {c : Nat} {S : List Nat} {t : Tab Cx} {most : Int} (h : CtxAt w c S t most) {i q : Int} (hq : t.has i q = true) :
    ∃ g, Blk w c 52 #[.pointer (some ⟨g, 0, none⟩), .int .i64 most] ∧ ∀ W, Chg [] w W → ∀ (b p n : Int) (a : Option Addr) (m cc : Nat) (l : List Rf), Rd W (.slice a m cc) l →
      Calls Try.prog 26 #[.pointer (some ⟨g, 0, none⟩), .agg #[.int .i64 i, .int .u64 q], .agg #[.int .u64 b, .int .u64 p, .slice a m cc, .int .i64 n]] W fun e w' => e = .returned (.int .i64 0) ∧ CtxTurns c S (t.thing i.toNat ⟨b, p, a, m, cc, n, l⟩) most w w' := by
  obtain ⟨g, hB, hT, hG, hW⟩ := h
  refine ⟨g, hB, fun W hc b p n a m cc l hl => ?_⟩
  refine (set_yes_C (hT.quiet hc) hW ⟨b, p, a, m, cc, n, l⟩ hq).mono ?_
  rintro e w' ⟨rfl, hT'⟩
  exact ⟨rfl, (CtxTurns.of (hB.chg hc (by simp)) (hT.quiet hc) hT' ((hG.quiet hc).thing hl i.toNat) (hW.thing _ _)).earlier hc⟩
theorem cx4_facts {W w1 w2 : World} {a b c d : Value} (hW : Chg [] (w1.alloc (.cells #[a, b, c, d] 42)) W) (hc : Chg [] W w2) :
    w2.cell? ⟨w1.heap.size, 0, none⟩ = some a ∧ w2.cell? ⟨w1.heap.size, 1, none⟩ = some b ∧ w2.cell? ⟨w1.heap.size, 2, none⟩ = some c ∧ w2.cell? ⟨w1.heap.size, 3, none⟩ = some d ∧ (∀ o, w2.frozen? ⟨w1.heap.size, o, none⟩ = false) ∧ w1.heap.size < w2.heap.size := by
  have hB := ((Blk.new w1 42 #[a, b, c, d]).chg hW (by simp)).chg hc (by simp)
  exact ⟨hB.cell 0, hB.cell 1, hB.cell 2, hB.cell 3, hB.frozen, hB.lt⟩
set_option maxHeartbeats 1600000 in
set_option maxRecDepth 100000 in
theorem bind_any {w : World} {c : Nat} {S : List Nat} {t : Tab Cx} {most : Int} (h : CtxAt w c S t most) {i q more : Int} (i0 : -9223372036854775808 ≤ i) (i1 : i ≤ 9223372036854775807) (hq : t.has i q = true)
    (n0 : -9223372036854775808 ≤ (t.at_ i q).n + more) (n1 : (t.at_ i q).n + more ≤ 9223372036854775807) :
    Calls Try.prog 31 #[ptr c, .agg #[.int .i64 i, .int .u64 q], .int .i64 more] w fun e w' => e = .returned (.tuple #[]) ∧ CtxTurns c S (t.thing i.toNat { t.at_ i q with n := (t.at_ i q).n + more }) most w w' := by
  have HA := Lib.hid (fun W (hW : Chg [] w W) => at_agg (h.quiet hW) i q i0 i1)
  have HR := Lib.hid (fun W (hW : Chg [] w W) => (h.quiet hW).good.at_ i q)
  obtain ⟨g, hB, hset⟩ := set_ctx h hq
  obtain ⟨x, hx⟩ : ∃ x, x = t.at_ i q := ⟨_, rfl⟩
  rw [← hx] at HA HR n0 n1 ⊢
  have HS := Lib.hid hset
  have HB := Lib.hid hB.tell
  have c0 := hB.cell 0
  have lc := hB.lt
  have e1 : IntKind.i64.wrap (x.n + more) = x.n + more := IntWalk.i64_in _ ⟨n0, n1⟩
  clear hx hB hset hq h
  go_enter Try.func31, Try.ntmps31
  go_wp2_with (go_at_call 22; refine (HA.out _ ((Chg.refl _ _).alloc _)).mono ?_; rintro e w1 ⟨rfl, hc⟩; obtain ⟨_, b0, b1⟩ := ref_facts (w := w) rfl (Chg.refl [] _) hc; have HC := Lib.hid (((Chg.refl [] w).alloc _).then hc); have k0 := (HB.out _ HC.out).1 0; have lc1 := (HB.out _ HC.out).2; have lw1 : w.heap.size < w1.heap.size := (by have := hc.size; simp at this; omega); clear hc)
  go_still_tail 6, (by kernel_rfl)
  change wpStill _ _ (World.drew _) _ _ _
  repeat still_step
  refine wpStill_nil ?_
  go_wp2_with (go_at_call 26; refine (HS.out _ (by exact (HC.out.alloc _).drew) x.b x.p (x.n + more) x.a x.m x.c x.l (HR.out _ (by exact (HC.out.alloc _).drew))).mono ?_; rintro e w2 ⟨rfl, hT⟩; have HT := Lib.hid hT; clear hT)
  go_end0
  exact ⟨rfl, HT.out⟩
set_option maxHeartbeats 1600000 in
set_option maxRecDepth 100000 in
theorem pull_ctx {w : World} {c : Nat} {S : List Nat} {t : Tab Cx} {most : Int} (h : CtxAt w c S t most) {i q am now : Int} (i0 : -9223372036854775808 ≤ i) (i1 : i ≤ 9223372036854775807) (hq : t.has i q = true)
    (hk : Ok (t.at_ i q).l) (hn : (t.at_ i q).l.length ≤ 100000) (hm : U64 am) (b0 : 0 ≤ (t.at_ i q).b - am) (b1 : (t.at_ i q).b - am < 18446744073709551616) :
    Calls Try.prog 30 #[ptr c, .agg #[.int .i64 i, .int .u64 q], .int .u64 am, .int .u64 now] w fun e w' => e = .returned (.tuple #[]) ∧ ∃ A m cc, CtxTurns c S (t.thing i.toNat ⟨(t.at_ i q).b - am, (t.at_ i q).p, A, m, cc, (t.at_ i q).n, (pullP (t.at_ i q).l now am).1⟩) most w w' := by
  have HA := Lib.hid (fun W (hW : Chg [] w W) => at_agg (h.quiet hW) i q i0 i1)
  have HP := Lib.hid (fun W (hW : Chg [] w W) => pull_any ((h.quiet hW).good.at_ i q) hk hn now am hm)
  obtain ⟨g, hB, hset⟩ := set_ctx h hq
  obtain ⟨x, hx⟩ : ∃ x, x = t.at_ i q := ⟨_, rfl⟩
  rw [← hx] at HA HP b0 b1 ⊢
  have HS := Lib.hid hset
  have HB := Lib.hid hB.tell
  have e1 : IntKind.u64.wrap (x.b - am) = x.b - am := by rw [IntKind.wrap_u64]; omega
  obtain ⟨pl, hpl⟩ : ∃ pl, pl = (pullP x.l now am).1 := ⟨_, rfl⟩
  obtain ⟨pe, hpe⟩ : ∃ pe, pe = (pullP x.l now am).2 := ⟨_, rfl⟩
  rw [← hpl, ← hpe] at HP
  rw [← hpl]
  have c0 := hB.cell 0
  have lc := hB.lt
  clear hx hB hset hq h hk hn hm hpl hpe
  go_enter Try.func30, Try.ntmps30
  go_wp2_with (first
    | (go_at_call 22; refine (HA.out _ ((Chg.refl _ _).alloc _)).mono ?_; rintro e w1 ⟨rfl, hc⟩; obtain ⟨_, d0, d1⟩ := ref_facts (w := w) rfl (Chg.refl [] _) hc; have HC := Lib.hid (((Chg.refl [] w).alloc _).then hc); have HC1 := Lib.hid hc; have lw1 : w.heap.size < w1.heap.size := (by have := hc.size; simp at this; omega); clear hc)
    | (go_at_call 45; refine (HP.out _ ((HC.out.alloc _))).mono ?_; rintro e w2 ⟨v2, rfl, hmn⟩; obtain ⟨A2, c2, rfl, _⟩ := hmn.1.open_; obtain ⟨k0, k1, k2, k3, kf, kl⟩ := cx4_facts (w1 := w1) (Chg.refl [] _) hmn.2.2; obtain ⟨_, f0, f1⟩ := ref_facts (w := w) rfl (HC1.out.alloc _) hmn.2.2; have HC2 := Lib.hid ((HC.out.alloc _).then hmn.2.2); have g0 := (HB.out _ HC2.out).1 0; have lc2 := (HB.out _ HC2.out).2; have HMN := Lib.hid hmn.1; have HBX := Lib.hid ((Blk.new w1 42 _).chg hmn.2.2 (by simp)); clear hmn))
  go_still_tail 6, (by kernel_rfl)
  change wpStill _ _ (World.drew _) _ _ _
  repeat still_step
  refine wpStill_nil ?_
  have HC3 := Lib.hid (((HC2.out.setCell (p := ⟨w1.heap.size, 2, none⟩) (.inr (by dsimp only; omega)) (.slice A2 pl.length c2)).setCell (p := ⟨w1.heap.size, 0, none⟩) (.inr (by dsimp only; omega)) (.int .u64 (x.b - am))).drew)
  have HR3 := Lib.hid (HMN.out.keep (Off.cons HBX.out (by decide) (Off.nil _)) (((((Chg.refl [w1.heap.size] w2).setCell (p := ⟨w1.heap.size, 2, none⟩) (.inl (by simp)) (.slice A2 pl.length c2)).setCell (p := ⟨w1.heap.size, 0, none⟩) (.inl (by simp)) (.int .u64 (x.b - am))).drew)))
  go_wp2_with (go_at_call 26; refine (HS.out _ HC3.out (x.b - am) x.p x.n A2 pl.length c2 pl HR3.out).mono ?_; rintro e w4 ⟨rfl, hT⟩; have HT := Lib.hid hT; clear hT)
  go_end0
  exact ⟨rfl, _, _, _, HT.out⟩
end Go.Proofs
