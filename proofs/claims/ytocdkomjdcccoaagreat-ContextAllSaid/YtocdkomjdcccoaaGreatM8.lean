import Derived.Test.YtocdkomjdcccoaaGreatM7
import Derived.StillTailTactics
section
namespace Go.Proofs
open Go.RowKit
set_option linter.unusedVariables false

/-! ### Good, through what turns -/
theorem Good.thing {w : World} {t : Tab Cx} (h : Good w t) {x : Cx} (hx : Rd w x.v x.l) (i : Nat) : Good w (t.thing i x) := by
  unfold Tab.thing
  cases hs : t.spots[i]? with
  | none => exact h
  | some s =>
    intro k s' hk
    have hi := (List.getElem?_eq_some_iff.1 hs).1
    by_cases e : k = i
    · subst e; simp only at hk; rw [List.getElem?_set_self hi] at hk; cases hk; exact hx
    · simp only at hk; rw [List.getElem?_set_ne (fun e' => e e'.symm)] at hk; exact h k s' hk
theorem Good.put {w : World} {t : Tab Cx} (h : Good w t) (hw : t.WF) (hf : t.frees ≠ 0) {x : Cx} (hx : Rd w x.v x.l) : Good w (t.put cx0 x) := by
  intro k s' hk
  rw [put_spots hw hf] at hk
  by_cases e : k = t.takeAt
  · rw [if_pos e] at hk; cases hk; exact hx
  · rw [if_neg e] at hk; exact h k s' hk
theorem Good.drop {w : World} {t : Tab Cx} (h : Good w t) {i : Nat} (hi : i < t.spots.length) (q : Int) : Good w (t.drop cx0 i q) := by
  intro k s' hk
  rw [drop_spots hi] at hk
  by_cases e : k = i
  · rw [if_pos e] at hk; cases hk; exact Rd.nil w
  · rw [if_neg e] at hk; exact h k s' hk
theorem Tab.WF.thing {t : Tab Cx} (h : t.WF) (i : Nat) (x : Cx) : (t.thing i x).WF := by
  unfold Tab.thing
  cases hs : t.spots[i]? with
  | none => exact h
  | some s => exact h.set hs x
theorem CtxTurns.of {w w' : World} {c g : Nat} {S : List Nat} {t t' : Tab Cx} {most : Int} (hB : Blk w c 66 #[.pointer (some ⟨g, 0, none⟩), .int .i64 most]) (hT : TabAt w g S t) (h : Turns g S t' w w') (hG : Good w t') (hw : t'.WF) :
    CtxTurns c S t' most w w' := by
  obtain ⟨S', h1, h2, h3⟩ := h
  exact ⟨S', ⟨g, hB.chg h3 (hT.not_ctx hB), h1, hG.keep hT.off h3, hw⟩, h2, h3⟩

/-! ### The closures, as they are handed about -/
theorem clo_none {w : World} {c : Nat} {S : List Nat} {t : Tab Cx} {most : Int} (h : CtxAt w c S t most) : Clo w (.func (.func 49) #[ptr c] #[]) false :=
  ⟨49, _, _, rfl, fun W => by kernel_rfl, fun W hW => by rw [Array.append_empty]; exact none_any (h.quiet hW)⟩
theorem clo_full {w : World} {c : Nat} {S : List Nat} {t : Tab Cx} {most : Int} (h : CtxAt w c S t most) : Clo w (.func (.func 52) #[ptr c] #[]) (t.frees == 0) :=
  ⟨52, _, _, rfl, fun W => by kernel_rfl, fun W hW => by rw [Array.append_empty]; exact full_any (h.quiet hW)⟩
section
variable {w : World} {c : Nat} {S : List Nat} {t : Tab Cx} {most : Int}
theorem clo_gone (h : CtxAt w c S t most) {bc br : Nat} {i q : Int} (i0 : -9223372036854775808 ≤ i) (i1 : i ≤ 9223372036854775807) (hb : Blk w bc 24 #[ptr c]) (hr : Blk w br 34 #[.int .i64 i, .int .u64 q]) :
    Clo w (.func (.func 93) #[] #[ptr bc, ptr br]) (!t.has i q) :=
  ⟨93, _, _, rfl, fun W => by kernel_rfl, fun W hW => by rw [Array.empty_append]; exact gone_step (h.quiet hW) i0 i1 (hb.chg hW (by simp)) (hr.chg hW (by simp))⟩
theorem clo_lacks (h : CtxAt w c S t most) {bc br bn ba : Nat} {i q now am : Int} (i0 : -9223372036854775808 ≤ i) (i1 : i ≤ 9223372036854775807) (hk : Ok (t.at_ i q).l) (hn : (t.at_ i q).l.length ≤ 100000)
    (hb : Blk w bc 24 #[ptr c]) (hr : Blk w br 34 #[.int .i64 i, .int .u64 q]) (hbn : Blk w bn 32 #[.int .u64 now]) (hba : Blk w ba 32 #[.int .u64 am]) :
    Clo w (.func (.func 98) #[] #[ptr bc, ptr br, ptr bn, ptr ba]) (lackP (t.at_ i q) am now) :=
  ⟨98, _, _, rfl, fun W => by kernel_rfl, fun W hW => by rw [Array.empty_append]; exact lacks_step (h.quiet hW) i0 i1 hk hn (hb.chg hW (by simp)) (hr.chg hW (by simp)) (hbn.chg hW (by simp)) (hba.chg hW (by simp))⟩
theorem clo_crowded (h : CtxAt w c S t most) {bc br bn ba : Nat} {i q now am : Int} (i0 : -9223372036854775808 ≤ i) (i1 : i ≤ 9223372036854775807) (hk : Ok (t.at_ i q).l) (hn : (t.at_ i q).l.length ≤ 100000) (hm : U64 am)
    (hb : Blk w bc 24 #[ptr c]) (hr : Blk w br 34 #[.int .i64 i, .int .u64 q]) (hbn : Blk w bn 32 #[.int .u64 now]) (hba : Blk w ba 32 #[.int .u64 am]) :
    Clo w (.func (.func 103) #[] #[ptr bc, ptr br, ptr bn, ptr ba]) ((giveP (t.at_ i q).l now am most).2 != 0) :=
  ⟨103, _, _, rfl, fun W => by kernel_rfl, fun W hW => by rw [Array.empty_append]; exact crowded_step (h.quiet hW) i0 i1 hk hn (hb.chg hW (by simp)) (hr.chg hW (by simp)) hm (hbn.chg hW (by simp)) (hba.chg hW (by simp))⟩
theorem clo_over (h : CtxAt w c S t most) {ba bc bt : Nat} {i q am : Int} (i0 : -9223372036854775808 ≤ i) (i1 : i ≤ 9223372036854775807)
    (hx0 : 0 ≤ (t.at_ i q).b) (hx1 : (t.at_ i q).b ≤ 4294967296) (ha : Blk w ba 32 #[.int .u64 am]) (hb : Blk w bc 24 #[ptr c]) (hr : Blk w bt 34 #[.int .i64 i, .int .u64 q]) :
    Clo w (.func (.func 71) #[] #[ptr ba, ptr bc, ptr bt]) (decide (4294967296 - (t.at_ i q).b < am)) :=
  ⟨71, _, _, rfl, fun W => by kernel_rfl, fun W hW => by rw [Array.empty_append]; exact over_step (h.quiet hW) i0 i1 hx0 hx1 (ha.chg hW (by simp)) (hb.chg hW (by simp)) (hr.chg hW (by simp))⟩
theorem clo_56 (h : CtxAt w c S t most) {bc br : Nat} {i q : Int} (i0 : -9223372036854775808 ≤ i) (i1 : i ≤ 9223372036854775807) (hb : Blk w bc 24 #[ptr c]) (hr : Blk w br 34 #[.int .i64 i, .int .u64 q]) :
    Clo w (.func (.func 56) #[] #[ptr bc, ptr br]) (decide (0 < (t.at_ i q).n)) :=
  ⟨56, _, _, rfl, fun W => by kernel_rfl, fun W hW => by rw [Array.empty_append]; exact bound_step56 (h.quiet hW) i0 i1 (hb.chg hW (by simp)) (hr.chg hW (by simp))⟩
theorem clo_69 (h : CtxAt w c S t most) {bc br : Nat} {i q : Int} (i0 : -9223372036854775808 ≤ i) (i1 : i ≤ 9223372036854775807) (hb : Blk w bc 24 #[ptr c]) (hr : Blk w br 34 #[.int .i64 i, .int .u64 q]) :
    Clo w (.func (.func 69) #[] #[ptr bc, ptr br]) ((t.at_ i q).n == 0) :=
  ⟨69, _, _, rfl, fun W => by kernel_rfl, fun W hW => by rw [Array.empty_append]; exact bound_step69 (h.quiet hW) i0 i1 (hb.chg hW (by simp)) (hr.chg hW (by simp))⟩
end
theorem clo_make {w : World} {bb bp bn : Nat} {b p now : Int} (hb : Blk w bb 32 #[.int .u64 b]) (hp : Blk w bp 32 #[.int .u64 p]) (hn : Blk w bn 32 #[.int .u64 now]) :
    Clo w (.func (.func 50) #[] #[ptr bb, ptr bp, ptr bn]) (badMake b p now) :=
  ⟨50, _, _, rfl, fun W => by kernel_rfl, fun W hW => by rw [Array.empty_append]; exact make_step (hb.chg hW (by simp)) (hp.chg hW (by simp)) (hn.chg hW (by simp))⟩
theorem clo_split {w : World} {ba bn : Nat} {am now : Int} (hba : Blk w ba 32 #[.int .u64 am]) (hbn : Blk w bn 32 #[.int .u64 now]) :
    Clo w (.func (.func 64) #[] #[ptr ba, ptr bn]) (am == 0 || decide (1152921504606846976 < now)) :=
  ⟨64, _, _, rfl, fun W => by kernel_rfl, fun W hW => by rw [Array.empty_append]; exact split_step (hba.chg hW (by simp)) (hbn.chg hW (by simp))⟩
theorem clo_donate {w : World} {ba bn bf bt : Nat} {am now fi fq ti tq : Int} (hba : Blk w ba 32 #[.int .u64 am]) (hbn : Blk w bn 32 #[.int .u64 now]) (hbf : Blk w bf 34 #[.int .i64 fi, .int .u64 fq]) (hbt : Blk w bt 34 #[.int .i64 ti, .int .u64 tq]) :
    Clo w (.func (.func 70) #[] #[ptr ba, ptr bn, ptr bf, ptr bt]) (am == 0 || decide (1152921504606846976 < now) || (fi == ti && fq == tq)) :=
  ⟨70, _, _, rfl, fun W => by kernel_rfl, fun W hW => by rw [Array.empty_append]; exact donate1_step (hba.chg hW (by simp)) (hbn.chg hW (by simp)) (hbf.chg hW (by simp)) (hbt.chg hW (by simp))⟩

/-! ### What makes closures -/
abbrev cloGone (n m : Nat) : Value := .func (.func 93) #[] #[ptr n, ptr m]
theorem gone_any {w : World} {c : Nat} {S : List Nat} {t : Tab Cx} {most : Int} (h : CtxAt w c S t most) {i q : Int} (i0 : -9223372036854775808 ≤ i) (i1 : i ≤ 9223372036854775807) :
    Calls Tryz.prog 55 #[ptr c, .agg #[.int .i64 i, .int .u64 q]] w fun e w' => (∃ n m, e = .returned (.func (.func 93) #[] #[.pointer (some ⟨n, 0, none⟩), .pointer (some ⟨m, 0, none⟩)]) ∧ Clo w' (cloGone n m) (!t.has i q)) ∧ Chg [] w w' := by
  have H := Lib.hid h
  clear h
  go_enter Tryz.func55, Tryz.ntmps55
  go_wp2
  go_ret
  have hc : Chg [] w ((w.alloc (.cells #[ptr c] 24)).alloc (.cells #[.int .i64 i, .int .u64 q] 34)) := ((Chg.refl _ _).alloc _).alloc _
  exact ⟨⟨_, _, rfl, clo_gone (H.out.quiet hc) i0 i1 ((Blk.new w 24 _).alloc _) (Blk.at _ 34 _ (by simp))⟩, hc⟩
abbrev cloFour (f n m k l : Nat) : Value := .func (.func f) #[] #[ptr n, ptr m, ptr k, ptr l]
theorem lacks_any {w : World} {c : Nat} {S : List Nat} {t : Tab Cx} {most : Int} (h : CtxAt w c S t most) {i q am now : Int} (i0 : -9223372036854775808 ≤ i) (i1 : i ≤ 9223372036854775807) (hk : Ok (t.at_ i q).l) (hn : (t.at_ i q).l.length ≤ 100000) :
    Calls Tryz.prog 65 #[ptr c, .agg #[.int .i64 i, .int .u64 q], .int .u64 am, .int .u64 now] w fun e w' => (∃ n m k l, e = .returned (.func (.func 98) #[] #[.pointer (some ⟨n, 0, none⟩), .pointer (some ⟨m, 0, none⟩), .pointer (some ⟨k, 0, none⟩), .pointer (some ⟨l, 0, none⟩)]) ∧ Clo w' (cloFour 98 n m k l) (lackP (t.at_ i q) am now)) ∧ Chg [] w w' := by
  have H := Lib.hid h
  have HK := Lib.hid hk
  have HN := Lib.hid hn
  clear h hk hn
  go_enter Tryz.func65, Tryz.ntmps65
  go_wp2
  go_ret
  have hc : Chg [] w ((((w.alloc (.cells #[ptr c] 24)).alloc (.cells #[.int .i64 i, .int .u64 q] 34)).alloc (.cells #[.int .u64 am] 32)).alloc (.cells #[.int .u64 now] 32)) := ((((Chg.refl _ _).alloc _).alloc _).alloc _).alloc _
  exact ⟨⟨_, _, _, _, rfl, clo_lacks (H.out.quiet hc) i0 i1 HK.out HN.out ((((Blk.new w 24 _).alloc _).alloc _).alloc _) (((Blk.at (w.alloc _) 34 _ (by simp)).alloc _).alloc _) (Blk.at _ 32 _ (by simp)) ((Blk.at ((w.alloc _).alloc _) 32 _ (by simp)).alloc _)⟩, hc⟩
theorem crowded_any {w : World} {c : Nat} {S : List Nat} {t : Tab Cx} {most : Int} (h : CtxAt w c S t most) {i q am now : Int} (i0 : -9223372036854775808 ≤ i) (i1 : i ≤ 9223372036854775807) (hk : Ok (t.at_ i q).l) (hn : (t.at_ i q).l.length ≤ 100000) (hm : U64 am) :
    Calls Tryz.prog 72 #[ptr c, .agg #[.int .i64 i, .int .u64 q], .int .u64 am, .int .u64 now] w fun e w' => (∃ n m k l, e = .returned (.func (.func 103) #[] #[.pointer (some ⟨n, 0, none⟩), .pointer (some ⟨m, 0, none⟩), .pointer (some ⟨k, 0, none⟩), .pointer (some ⟨l, 0, none⟩)]) ∧ Clo w' (cloFour 103 n m k l) ((giveP (t.at_ i q).l now am most).2 != 0)) ∧ Chg [] w w' := by
  have H := Lib.hid h
  have HK := Lib.hid hk
  have HN := Lib.hid hn
  have HM := Lib.hid hm
  clear h hk hn hm
  go_enter Tryz.func72, Tryz.ntmps72
  go_wp2
  go_ret
  have hc : Chg [] w ((((w.alloc (.cells #[ptr c] 24)).alloc (.cells #[.int .i64 i, .int .u64 q] 34)).alloc (.cells #[.int .u64 am] 32)).alloc (.cells #[.int .u64 now] 32)) := ((((Chg.refl _ _).alloc _).alloc _).alloc _).alloc _
  exact ⟨⟨_, _, _, _, rfl, clo_crowded (H.out.quiet hc) i0 i1 HK.out HN.out HM.out ((((Blk.new w 24 _).alloc _).alloc _).alloc _) (((Blk.at (w.alloc _) 34 _ (by simp)).alloc _).alloc _) (Blk.at _ 32 _ (by simp)) ((Blk.at ((w.alloc _).alloc _) 32 _ (by simp)).alloc _)⟩, hc⟩
end Go.Proofs
end
section
namespace Go.Proofs
open Go.RowKit
set_option linter.unusedVariables false
set_option linter.unusedSimpArgs false
theorem new_ref_any (w : World) (b t : Int) (hb : b ≠ 0) :
    Calls Tryz.prog 92 #[.int .u64 b, .int .u64 t] w fun e w' => ∃ A c, e = .returned (.slice A 1 c) ∧ Rd w' (.slice A 1 c) [(b, t)] ∧ Chg [] w w' := by
  refine (new_any w b t).mono ?_
  rintro e w' ⟨v, rfl, h⟩
  unfold newP at h
  rw [if_neg hb] at h
  obtain ⟨A, c, rfl, _⟩ := h.rd.open_
  exact ⟨A, c, rfl, h.rd, h.2.2⟩
set_option maxRecDepth 100000 in
theorem fresh_any (w : World) (b p t : Int) (hb : b ≠ 0) :
    Calls Tryz.prog 54 #[.int .u64 b, .int .u64 p, .int .u64 t] w fun e w' => ∃ A c, e = .returned (.agg #[.int .u64 b, .int .u64 p, .slice A 1 c, .int .i64 0]) ∧ Rd w' (.slice A 1 c) [(b, t)] ∧ Chg [] w w' := by
  have hN := fun W => new_ref_any W b t hb
  go_enter Tryz.func54, Tryz.ntmps54
  go_wp2_with (go_at_call 92; refine (hN _).mono ?_; rintro e w1 ⟨A, cc, rfl, hR, hc⟩; obtain ⟨hz, r0, r1, r2, r3, rf⟩ := cx_facts (w := w) (n := w.heap.size) rfl (Chg.refl [] _) hc; have HR := Lib.hid hR; have HC := Lib.hid (((Chg.refl [] w).alloc _).then hc); have HC1 := Lib.hid hc; clear hc hR)
  refine bodyPost_ret (v := .agg #[.int .u64 b, .int .u64 p, .slice A 1 cc, .int .i64 0]) ?_ rfl ⟨A, cc, rfl, ?_, ?_⟩
  · simp [results, Tryz.results54, go_sem, hz, r0, r1, r2, r3]
  · have hB : Blk w1 w.heap.size 43 #[.int .u64 0, .int .u64 0, .slice none 0 0, .int .i64 0] := (Blk.new w 43 _).chg HC1.out (by simp)
    have hO : Off w1 [w.heap.size] := Off.cons hB (by decide) (Off.nil _)
    refine HR.out.keep hO ?_
    repeat' (first | with_reducible exact Chg.refl _ _ | with_reducible apply Chg.alloc | with_reducible apply Chg.setCell | (with_reducible refine Or.inl ?_; simp; done))
  · repeat' (first | with_reducible exact HC.out | with_reducible apply Chg.alloc | with_reducible apply Chg.setCell | (with_reducible refine Or.inr ?_; dsimp only; omega))
/-- The table's Set, of contexts. -/
theorem set_ctx {w : World} {c : Nat} {S : List Nat} {t : Tab Cx} {most : Int} (h : CtxAt w c S t most) {i q : Int} (hq : t.has i q = true) :
    ∃ g, Blk w c 66 #[.pointer (some ⟨g, 0, none⟩), .int .i64 most] ∧ ∀ W, Chg [] w W → ∀ (b p n : Int) (a : Option Addr) (m cc : Nat) (l : List Rf), Rd W (.slice a m cc) l →
      Calls Tryz.prog 76 #[.pointer (some ⟨g, 0, none⟩), .agg #[.int .i64 i, .int .u64 q], .agg #[.int .u64 b, .int .u64 p, .slice a m cc, .int .i64 n]] W fun e w' => e = .returned (.int .i64 0) ∧ CtxTurns c S (t.thing i.toNat ⟨b, p, a, m, cc, n, l⟩) most w w' := by
  obtain ⟨g, hB, hT, hG, hW⟩ := h
  refine ⟨g, hB, fun W hc b p n a m cc l hl => ?_⟩
  refine (set_yes_C (hT.quiet hc) hW ⟨b, p, a, m, cc, n, l⟩ hq).mono ?_
  rintro e w' ⟨rfl, hT'⟩
  exact ⟨rfl, (CtxTurns.of (hB.chg hc (by simp)) (hT.quiet hc) hT' ((hG.quiet hc).thing hl i.toNat) (hW.thing _ _)).earlier hc⟩
theorem cx4_facts {W w1 w2 : World} {a b c d : Value} (hW : Chg [] (w1.alloc (.cells #[a, b, c, d] 43)) W) (hc : Chg [] W w2) :
    w2.cell? ⟨w1.heap.size, 0, none⟩ = some a ∧ w2.cell? ⟨w1.heap.size, 1, none⟩ = some b ∧ w2.cell? ⟨w1.heap.size, 2, none⟩ = some c ∧ w2.cell? ⟨w1.heap.size, 3, none⟩ = some d ∧ (∀ o, w2.frozen? ⟨w1.heap.size, o, none⟩ = false) ∧ w1.heap.size < w2.heap.size := by
  have hB := ((Blk.new w1 43 #[a, b, c, d]).chg hW (by simp)).chg hc (by simp)
  exact ⟨hB.cell 0, hB.cell 1, hB.cell 2, hB.cell 3, hB.frozen, hB.lt⟩
set_option maxHeartbeats 1600000 in
set_option maxRecDepth 100000 in
theorem bind_any {w : World} {c : Nat} {S : List Nat} {t : Tab Cx} {most : Int} (h : CtxAt w c S t most) {i q more : Int} (i0 : -9223372036854775808 ≤ i) (i1 : i ≤ 9223372036854775807) (hq : t.has i q = true)
    (n0 : -9223372036854775808 ≤ (t.at_ i q).n + more) (n1 : (t.at_ i q).n + more ≤ 9223372036854775807) :
    Calls Tryz.prog 68 #[ptr c, .agg #[.int .i64 i, .int .u64 q], .int .i64 more] w fun e w' => e = .returned (.tuple #[]) ∧ CtxTurns c S (t.thing i.toNat { t.at_ i q with n := (t.at_ i q).n + more }) most w w' := by
  have HA := Lib.hid (fun W (hW : Chg [] w W) => at_agg (h.quiet hW) i q i0 i1)
  have HR := Lib.hid (fun W (hW : Chg [] w W) => (h.quiet hW).good.at_ i q)
  obtain ⟨g, hB, hset⟩ := set_ctx h hq
  obtain ⟨x, hx⟩ : ∃ x, x = t.at_ i q := ⟨_, rfl⟩
  rw [← hx] at HA HR n0 n1 ⊢
  have HS := Lib.hid hset
  have HB := Lib.hid hB.tell
  have c0 := hB.cell 0
  have lc := hB.lt
  have e1 : IntKind.i64.wrap (x.n + more) = x.n + more := IntWalk.i64_in _ ⟨n0, n1⟩
  clear hx hB hset hq h
  go_enter Tryz.func68, Tryz.ntmps68
  go_wp2_with (go_at_call 57; refine (HA.out _ ((Chg.refl _ _).alloc _)).mono ?_; rintro e w1 ⟨rfl, hc⟩; obtain ⟨_, b0, b1⟩ := ref_facts (w := w) rfl (Chg.refl [] _) hc; have HC := Lib.hid (((Chg.refl [] w).alloc _).then hc); have k0 := (HB.out _ HC.out).1 0; have lc1 := (HB.out _ HC.out).2; have lw1 : w.heap.size < w1.heap.size := (by have := hc.size; simp at this; omega); clear hc)
  go_still_tail 6, (by kernel_rfl)
  change wpStill _ _ (World.drew _) _ _ _
  repeat still_step
  refine wpStill_nil ?_
  go_wp2_with (go_at_call 76; refine (HS.out _ (by exact (HC.out.alloc _).drew) x.b x.p (x.n + more) x.a x.m x.c x.l (HR.out _ (by exact (HC.out.alloc _).drew))).mono ?_; rintro e w2 ⟨rfl, hT⟩; have HT := Lib.hid hT; clear hT)
  go_end0
  exact ⟨rfl, HT.out⟩
set_option maxHeartbeats 1600000 in
set_option maxRecDepth 100000 in
theorem pull_ctx {w : World} {c : Nat} {S : List Nat} {t : Tab Cx} {most : Int} (h : CtxAt w c S t most) {i q am now : Int} (i0 : -9223372036854775808 ≤ i) (i1 : i ≤ 9223372036854775807) (hq : t.has i q = true)
    (hk : Ok (t.at_ i q).l) (hn : (t.at_ i q).l.length ≤ 100000) (hm : U64 am) (b0 : 0 ≤ (t.at_ i q).b - am) (b1 : (t.at_ i q).b - am < 18446744073709551616) :
    Calls Tryz.prog 66 #[ptr c, .agg #[.int .i64 i, .int .u64 q], .int .u64 am, .int .u64 now] w fun e w' => e = .returned (.tuple #[]) ∧ ∃ A m cc, CtxTurns c S (t.thing i.toNat ⟨(t.at_ i q).b - am, (t.at_ i q).p, A, m, cc, (t.at_ i q).n, (pullP (t.at_ i q).l now am).1⟩) most w w' := by
  have HA := Lib.hid (fun W (hW : Chg [] w W) => at_agg (h.quiet hW) i q i0 i1)
  have HP := Lib.hid (fun W (hW : Chg [] w W) => pull_any ((h.quiet hW).good.at_ i q) hk hn now am hm)
  obtain ⟨g, hB, hset⟩ := set_ctx h hq
  obtain ⟨x, hx⟩ : ∃ x, x = t.at_ i q := ⟨_, rfl⟩
  rw [← hx] at HA HP b0 b1 ⊢
  have HS := Lib.hid hset
  have HB := Lib.hid hB.tell
  have e1 : IntKind.u64.wrap (x.b - am) = x.b - am := by rw [IntKind.wrap_u64]; omega
  obtain ⟨pl, hpl⟩ : ∃ pl, pl = (pullP x.l now am).1 := ⟨_, rfl⟩
  obtain ⟨pe, hpe⟩ : ∃ pe, pe = (pullP x.l now am).2 := ⟨_, rfl⟩
  rw [← hpl, ← hpe] at HP
  rw [← hpl]
  have c0 := hB.cell 0
  have lc := hB.lt
  clear hx hB hset hq h hk hn hm hpl hpe
  go_enter Tryz.func66, Tryz.ntmps66
  go_wp2_with (first
    | (go_at_call 57; refine (HA.out _ ((Chg.refl _ _).alloc _)).mono ?_; rintro e w1 ⟨rfl, hc⟩; obtain ⟨_, d0, d1⟩ := ref_facts (w := w) rfl (Chg.refl [] _) hc; have HC := Lib.hid (((Chg.refl [] w).alloc _).then hc); have HC1 := Lib.hid hc; have lw1 : w.heap.size < w1.heap.size := (by have := hc.size; simp at this; omega); clear hc)
    | (go_at_call 99; refine (HP.out _ ((HC.out.alloc _))).mono ?_; rintro e w2 ⟨v2, rfl, hmn⟩; obtain ⟨A2, c2, rfl, _⟩ := hmn.1.open_; obtain ⟨k0, k1, k2, k3, kf, kl⟩ := cx4_facts (w1 := w1) (Chg.refl [] _) hmn.2.2; obtain ⟨_, f0, f1⟩ := ref_facts (w := w) rfl (HC1.out.alloc _) hmn.2.2; have HC2 := Lib.hid ((HC.out.alloc _).then hmn.2.2); have g0 := (HB.out _ HC2.out).1 0; have lc2 := (HB.out _ HC2.out).2; have HMN := Lib.hid hmn.1; have HBX := Lib.hid ((Blk.new w1 43 _).chg hmn.2.2 (by simp)); clear hmn))
  go_still_tail 6, (by kernel_rfl)
  change wpStill _ _ (World.drew _) _ _ _
  repeat still_step
  refine wpStill_nil ?_
  have HC3 := Lib.hid (((HC2.out.setCell (p := ⟨w1.heap.size, 2, none⟩) (.inr (by dsimp only; omega)) (.slice A2 pl.length c2)).setCell (p := ⟨w1.heap.size, 0, none⟩) (.inr (by dsimp only; omega)) (.int .u64 (x.b - am))).drew)
  have HR3 := Lib.hid (HMN.out.keep (Off.cons HBX.out (by decide) (Off.nil _)) (((((Chg.refl [w1.heap.size] w2).setCell (p := ⟨w1.heap.size, 2, none⟩) (.inl (by simp)) (.slice A2 pl.length c2)).setCell (p := ⟨w1.heap.size, 0, none⟩) (.inl (by simp)) (.int .u64 (x.b - am))).drew)))
  go_wp2_with (go_at_call 76; refine (HS.out _ HC3.out (x.b - am) x.p x.n A2 pl.length c2 pl HR3.out).mono ?_; rintro e w4 ⟨rfl, hT⟩; have HT := Lib.hid hT; clear hT)
  go_end0
  exact ⟨rfl, _, _, _, HT.out⟩
set_option maxHeartbeats 1600000 in
set_option maxRecDepth 100000 in
theorem give_ctx {w : World} {c : Nat} {S : List Nat} {t : Tab Cx} {most : Int} (h : CtxAt w c S t most) {i q am now : Int} (i0 : -9223372036854775808 ≤ i) (i1 : i ≤ 9223372036854775807) (hq : t.has i q = true)
    (hk : Ok (t.at_ i q).l) (hn : (t.at_ i q).l.length ≤ 100000) (hm : U64 am) (b0 : 0 ≤ (t.at_ i q).b + am) (b1 : (t.at_ i q).b + am < 18446744073709551616) :
    Calls Tryz.prog 73 #[ptr c, .agg #[.int .i64 i, .int .u64 q], .int .u64 am, .int .u64 now] w fun e w' => e = .returned (.tuple #[]) ∧ ∃ A m cc, CtxTurns c S (t.thing i.toNat ⟨(t.at_ i q).b + am, (t.at_ i q).p, A, m, cc, (t.at_ i q).n, (giveP (t.at_ i q).l now am most).1⟩) most w w' := by
  have HA := Lib.hid (fun W (hW : Chg [] w W) => at_agg (h.quiet hW) i q i0 i1)
  have HP := Lib.hid (fun W (hW : Chg [] w W) => give_any ((h.quiet hW).good.at_ i q) hk hn (now := now) (most := most) hm)
  obtain ⟨g, hB, hset⟩ := set_ctx h hq
  obtain ⟨x, hx⟩ : ∃ x, x = t.at_ i q := ⟨_, rfl⟩
  rw [← hx] at HA HP b0 b1 ⊢
  have HS := Lib.hid hset
  have HB := Lib.hid hB.tell
  have e1 : IntKind.u64.wrap (x.b + am) = x.b + am := by rw [IntKind.wrap_u64]; omega
  obtain ⟨pl, hpl⟩ : ∃ pl, pl = (giveP x.l now am most).1 := ⟨_, rfl⟩
  obtain ⟨pe, hpe⟩ : ∃ pe, pe = (giveP x.l now am most).2 := ⟨_, rfl⟩
  rw [← hpl, ← hpe] at HP
  rw [← hpl]
  have c0 := hB.cell 0
  have c1 := hB.cell 1
  have lc := hB.lt
  clear hx hB hset hq h hk hn hm hpl hpe
  go_enter Tryz.func73, Tryz.ntmps73
  go_wp2_with (go_at_call 57; refine (HA.out _ ((Chg.refl _ _).alloc _)).mono ?_; rintro e w1 ⟨rfl, hc⟩; obtain ⟨_, d0, d1⟩ := ref_facts (w := w) rfl (Chg.refl [] _) hc; have HC := Lib.hid (((Chg.refl [] w).alloc _).then hc); have HC1 := Lib.hid hc; have lw1 : w.heap.size < w1.heap.size := (by have := hc.size; simp at this; omega); have g1 := (HB.out _ HC.out).1 1; have lc1 := (HB.out _ HC.out).2; clear hc)
  go_wp2
  go_region_with (go_at_call 104; refine (HP.out _ ((HC.out.alloc _).drew)).mono ?_; rintro e w2 ⟨v2, rfl, hmn⟩; obtain ⟨A2, c2, rfl, _⟩ := hmn.1.open_; obtain ⟨k0, k1, k2, k3, kf, kl⟩ := cx4_facts (w1 := w1) ((Chg.refl [] _).drew) hmn.2.2; obtain ⟨_, f0, f1⟩ := ref_facts (w := w) rfl ((HC1.out.alloc _).drew) hmn.2.2; have HC2 := Lib.hid ((HC.out.alloc _).drew.then hmn.2.2); have g0 := (HB.out _ HC2.out).1 0; have lc2 := (HB.out _ HC2.out).2; have HMN := Lib.hid hmn.1; have HBX := Lib.hid (((Blk.new w1 43 _).drew).chg hmn.2.2 (by simp)); clear hmn)
  all_goals
    go_wp2
    go_still_tail 6, (by kernel_rfl)
    change wpStill _ _ (World.drew _) _ _ _
    repeat still_step
    refine wpStill_nil ?_
    have HC3 := Lib.hid (((HC2.out.setCell (p := ⟨w1.heap.size, 2, none⟩) (.inr (by dsimp only; omega)) (.slice A2 pl.length c2)).setCell (p := ⟨w1.heap.size, 0, none⟩) (.inr (by dsimp only; omega)) (.int .u64 (x.b + am))).drew)
    have HR3 := Lib.hid (HMN.out.keep (Off.cons HBX.out (by decide) (Off.nil _)) (((((Chg.refl [w1.heap.size] w2).setCell (p := ⟨w1.heap.size, 2, none⟩) (.inl (by simp)) (.slice A2 pl.length c2)).setCell (p := ⟨w1.heap.size, 0, none⟩) (.inl (by simp)) (.int .u64 (x.b + am))).drew)))
    go_wp2_with (go_at_call 76; refine (HS.out _ HC3.out (x.b + am) x.p x.n A2 pl.length c2 pl HR3.out).mono ?_; rintro e w4 ⟨rfl, hT⟩; have HT := Lib.hid hT; clear hT)
    go_end0
    exact ⟨rfl, _, _, _, HT.out⟩
end Go.Proofs
end
section
namespace Go.Proofs
open Go.RowKit
set_option linter.unusedVariables false
set_option linter.unusedSimpArgs false
theorem clos_all {w : World} {L : Rfs3} (h : ∀ x ∈ L, Clo w x.2.1 x.2.2) : ∀ (k : Nat) (x : Int × Value × Bool), L[k]? = some x → (∀ (j : Nat) (y : Int × Value × Bool), j < k → L[j]? = some y → y.2.2 = false) → Clo w x.2.1 x.2.2 :=
  fun k x hx _ => h x (List.mem_of_getElem? hx)
theorem CtxAt.box {w : World} {c : Nat} {S : List Nat} {t : Tab Cx} {most : Int} (h : CtxAt w c S t most) : ∀ k, w.heap.size ≤ k → k ∉ S := fun k hk hm => by have := h.lt k (List.mem_cons_of_mem _ hm); omega
theorem CtxAt.cS {w : World} {c : Nat} {S : List Nat} {t : Tab Cx} {most : Int} (h : CtxAt w c S t most) : c ∉ S := by obtain ⟨g, h1, h2, h3, h4⟩ := h; exact h2.not_ctx h1
/-- The table's Put, of contexts. -/
theorem put_ctx {w : World} {c : Nat} {S : List Nat} {t : Tab Cx} {most : Int} (h : CtxAt w c S t most) (hf : t.frees ≠ 0) :
    ∃ g, Blk w c 66 #[.pointer (some ⟨g, 0, none⟩), .int .i64 most] ∧ ∀ W, Chg [] w W → ∀ (b p n : Int) (a : Option Addr) (m cc : Nat) (l : List Rf), Rd W (.slice a m cc) l →
      Calls Tryz.prog 53 #[.pointer (some ⟨g, 0, none⟩), .agg #[.int .u64 b, .int .u64 p, .slice a m cc, .int .i64 n]] W fun e w' => e = .returned (.tuple #[.agg #[.int .i64 (t.takeAt : Nat), .int .u64 (t.genAt t.takeAt)], .int .i64 0]) ∧ Chg S W w' ∧ CtxTurns c S (t.put cx0 ⟨b, p, a, m, cc, n, l⟩) most w w' := by
  obtain ⟨g, hB, hT, hG, hW⟩ := h
  refine ⟨g, hB, fun W hc b p n a m cc l hl => ?_⟩
  refine (put_ok_C (hT.quiet hc) hW hf ⟨b, p, a, m, cc, n, l⟩).mono ?_
  rintro e w' ⟨rfl, hT'⟩
  obtain ⟨S', t1, t2, t3⟩ := id hT'
  exact ⟨rfl, t3, (CtxTurns.of (hB.chg hc (by simp)) (hT.quiet hc) hT' ((hG.quiet hc).put hW hf hl) (hW.put hf _)).earlier hc⟩
theorem ref_facts4 {w W w2 : World} {i q : Int} {n : Nat} (hn : n = w.heap.size) (hW : Chg [] (w.alloc (obRef i q)) W) (hc : Chg [] W w2) :
    n < w2.heap.size ∧ w2.cell? ⟨n, 0, none⟩ = some (.int .i64 i) ∧ w2.cell? ⟨n, 1, none⟩ = some (.int .u64 q) ∧ ∀ o, w2.frozen? ⟨n, o, none⟩ = false := by
  subst hn
  have hB := ((Blk.new w 34 #[.int .i64 i, .int .u64 q]).chg hW (by simp)).chg hc (by simp)
  exact ⟨hB.lt, hB.cell 0, hB.cell 1, hB.frozen⟩
theorem TabAt.not_box {w : World} {g b : Nat} {S : List Nat} {t : Tab Cx} {e : TypeId} {cs : Array Value} (h : TabAt w g S t) (hB : Blk w b e cs) (h1 : 108 ≠ e) (h2 : 121 ≠ e) (h3 : 3 ≠ e) : b ∉ S := by
  obtain ⟨VS, VF, hB', hS, hF, rfl⟩ := h
  simp only [List.mem_cons, List.mem_append, not_or]
  exact ⟨fun e => Blk.ty hB' hB h1 e.symm, hS.ty hB h2, hF.ty hB h3⟩
/-- A box of the caller's own is written to. -/
theorem CtxTurns.box {w w3 w4 : World} {c b : Nat} {S : List Nat} {t : Tab Cx} {most : Int} {cs : Array Value} (h : CtxTurns c S t most w w3) (hB : Blk w3 b 34 cs) (hb : w.heap.size ≤ b) (hc : Chg [b] w3 w4) : CtxTurns c S t most w w4 := by
  obtain ⟨S', ⟨g, h1, h2, h3, h4⟩, k2, k3⟩ := h
  have hn := h2.not_box hB (by decide) (by decide) (by decide)
  refine ⟨S', CtxAt.chg ⟨g, h1, h2, h3, h4⟩ hc (by simpa using fun e => Blk.ty h1 hB (by decide) e) (fun k hk => by simp; rintro rfl; exact hn hk) (Off.cons hB (by decide) (Off.nil _)), k2, k3.trans hc (fun k hk => by simp at hk; subst hk; exact .inr hb)⟩
def makeE (t : Tab Cx) (b p now : Int) : Int := if badMake b p now then 2 else if t.frees == 0 then 3 else 0
theorem makeE_first (t : Tab Cx) (b p now : Int) (f g h : Value) : firstE [(1, f, false), (2, g, badMake b p now), (3, h, t.frees == 0)] = makeE t b p now := by
  unfold makeE
  simp [firstE]
theorem u64_facts {w W w2 : World} {n : Nat} {x : Int} (hn : n = w.heap.size) (hW : Chg [] (w.alloc (.cells #[.int .u64 x] 32)) W) (hc : Chg [] W w2) :
    n < w2.heap.size ∧ w2.cell? ⟨n, 0, none⟩ = some (.int .u64 x) := by
  subst hn
  have hB := ((Blk.new w 32 #[.int .u64 x]).chg hW (by simp)).chg hc (by simp)
  exact ⟨hB.lt, hB.cell 0⟩
abbrev obU (x : Int) : Obj := .cells #[.int .u64 x] 32
/-- The world in which Make asks by what it is refused. -/
abbrev wMake (w : World) (b p now : Int) : World := (((w.alloc (obU b)).alloc (obU p)).alloc (obU now)).alloc (obRef 0 0)
theorem make_refused {w : World} {c : Nat} {S : List Nat} {t : Tab Cx} {most : Int} (h : CtxAt w c S t most) (b p now : Int) (o : Obj)
    (ho : o = .cells #[.int .i64 1, .func (.func 49) #[ptr c] #[], .int .i64 2, .func (.func 50) #[] #[ptr w.heap.size, ptr (w.heap.size + 1), ptr (w.heap.size + 1 + 1)], .int .i64 3, .func (.func 52) #[ptr c] #[]] 90) :
    Calls Tryz.prog 48 #[.slice (some ⟨w.heap.size + 1 + 1 + 1 + 1, 0, none⟩) 3 3] ((wMake w b p now).alloc o) fun e w' => e = .returned (.int .i64 (makeE t b p now)) ∧ Chg [] ((wMake w b p now).alloc o) w' := by
  subst ho
  have hc : Chg [] w ((wMake w b p now).alloc (.cells #[.int .i64 1, .func (.func 49) #[ptr c] #[], .int .i64 2, .func (.func 50) #[] #[ptr w.heap.size, ptr (w.heap.size + 1), ptr (w.heap.size + 1 + 1)], .int .i64 3, .func (.func 52) #[ptr c] #[]] 90)) := (((((Chg.refl _ _).alloc _).alloc _).alloc _).alloc _).alloc _
  have h' := h.quiet hc
  have b1 := ((((Blk.new w 32 #[.int .u64 b]).alloc (obU p)).alloc (obU now)).alloc (obRef 0 0)).alloc (.cells #[.int .i64 1, .func (.func 49) #[ptr c] #[], .int .i64 2, .func (.func 50) #[] #[ptr w.heap.size, ptr (w.heap.size + 1), ptr (w.heap.size + 1 + 1)], .int .i64 3, .func (.func 52) #[ptr c] #[]] 90)
  have b2 := (((Blk.at (w.alloc (obU b)) 32 #[.int .u64 p] (n := w.heap.size + 1) (by simp)).alloc (obU now)).alloc (obRef 0 0)).alloc (.cells #[.int .i64 1, .func (.func 49) #[ptr c] #[], .int .i64 2, .func (.func 50) #[] #[ptr w.heap.size, ptr (w.heap.size + 1), ptr (w.heap.size + 1 + 1)], .int .i64 3, .func (.func 52) #[ptr c] #[]] 90)
  have b3 := ((Blk.at ((w.alloc (obU b)).alloc (obU p)) 32 #[.int .u64 now] (n := w.heap.size + 1 + 1) (by simp)).alloc (obRef 0 0)).alloc (.cells #[.int .i64 1, .func (.func 49) #[ptr c] #[], .int .i64 2, .func (.func 50) #[] #[ptr w.heap.size, ptr (w.heap.size + 1), ptr (w.heap.size + 1 + 1)], .int .i64 3, .func (.func 52) #[ptr c] #[]] 90)
  rw [← makeE_first t b p now (.func (.func 49) #[ptr c] #[]) (.func (.func 50) #[] #[ptr w.heap.size, ptr (w.heap.size + 1), ptr (w.heap.size + 1 + 1)]) (.func (.func 52) #[ptr c] #[])]
  refine refused_any (Blk.at _ 90 _ (by simp)) rfl (by omega) (clos_all ?_)
  simp only [List.forall_mem_cons]
  exact ⟨clo_none h', clo_make b1 b2 b3, clo_full h', fun _ h => by cases h⟩
set_option maxHeartbeats 1600000 in
set_option maxRecDepth 100000 in
theorem make_no {w : World} {c : Nat} {S : List Nat} {t : Tab Cx} {most : Int} (h : CtxAt w c S t most) (b p now : Int) (he : (makeE t b p now != 0) = true) :
    Calls Tryz.prog 17 #[ptr c, .int .u64 b, .int .u64 p, .int .u64 now] w fun e w' => e = .returned (.tuple #[.agg #[.int .i64 0, .int .u64 0], .int .i64 (makeE t b p now)]) ∧ Chg [] w w' := by
  have HM := Lib.hid (make_refused h b p now)
  obtain ⟨E, hE⟩ : ∃ E, E = makeE t b p now := ⟨_, rfl⟩
  rw [← hE] at HM he ⊢
  clear hE h
  go_enter Tryz.func17, Tryz.ntmps17
  go_wp2_with (go_at_call 48; refine (HM.out _ rfl).mono ?_; rintro e w1 ⟨rfl, hc⟩; obtain ⟨hz, b0, b1, bf⟩ := ref_facts4 (w := ((w.alloc (obU b)).alloc (obU p)).alloc (obU now)) (n := w.heap.size + 1 + 1 + 1) (by simp) ((Chg.refl [] _).alloc _) hc; have HC := Lib.hid ((((((Chg.refl [] w).alloc _).alloc _).alloc _).alloc _).alloc _ |>.then hc); clear hc)
  refine bodyPost_ret (v := .tuple #[.agg #[.int .i64 0, .int .u64 0], .int .i64 E]) ?_ rfl ⟨rfl, by repeat' (first | with_reducible exact HC.out | with_reducible apply Chg.alloc | with_reducible apply Chg.setCell | (with_reducible refine Or.inr ?_; dsimp only; omega))⟩
  simp [results, Tryz.results17, go_sem, hz, b0, b1]
set_option maxHeartbeats 3200000 in
set_option maxRecDepth 100000 in
theorem make_yes {w : World} {c : Nat} {S : List Nat} {t : Tab Cx} {most : Int} (h : CtxAt w c S t most) (b p now : Int) (he : makeE t b p now = 0) :
    Calls Tryz.prog 17 #[ptr c, .int .u64 b, .int .u64 p, .int .u64 now] w fun e w' => ∃ A cc, e = .returned (.tuple #[.agg #[.int .i64 (t.takeAt : Nat), .int .u64 (t.genAt t.takeAt)], .int .i64 0]) ∧ CtxTurns c S (t.put cx0 ⟨b, p, A, 1, cc, 0, [(b, now)]⟩) most w w' := by
  have hb : b ≠ 0 := by
    intro e; subst e
    unfold makeE badMake at he
    simp at he
  have hf : t.frees ≠ 0 := by
    intro e
    unfold makeE at he
    rw [e] at he
    split at he <;> simp at he
  have HM := Lib.hid (make_refused h b p now)
  rw [he] at HM
  obtain ⟨g, hB, hput⟩ := put_ctx h hf
  have HP := Lib.hid hput
  have HF := Lib.hid (fun W => fresh_any W b p now hb)
  have HBT := Lib.hid hB.tell
  have HX := Lib.hid h.box
  have HCS := Lib.hid h.cS
  have lc := hB.lt
  obtain ⟨i, hi⟩ : ∃ i, i = ((t.takeAt : Nat) : Int) := ⟨_, rfl⟩
  obtain ⟨q, hq⟩ : ∃ q, q = t.genAt t.takeAt := ⟨_, rfl⟩
  rw [← hi, ← hq] at HP ⊢
  clear h hput hB hf hb he hi hq
  go_enter Tryz.func17, Tryz.ntmps17
  go_wp2_with (go_at_call 48; refine (HM.out _ rfl).mono ?_; rintro e w1 ⟨rfl, hc⟩; obtain ⟨hz, b0, b1, bf⟩ := ref_facts4 (w := ((w.alloc (obU b)).alloc (obU p)).alloc (obU now)) (n := w.heap.size + 1 + 1 + 1) (by simp) ((Chg.refl [] _).alloc _) hc; obtain ⟨_, u0⟩ := u64_facts (w := w) (x := b) rfl ((((Chg.refl [] _).alloc _).alloc _).alloc _ |>.alloc _) hc; obtain ⟨_, u1⟩ := u64_facts (w := w.alloc (obU b)) (x := p) (n := w.heap.size + 1) (by simp) (((Chg.refl [] _).alloc _).alloc _ |>.alloc _) hc; obtain ⟨_, u2⟩ := u64_facts (w := (w.alloc (obU b)).alloc (obU p)) (x := now) (n := w.heap.size + 1 + 1) (by simp) (((Chg.refl [] _).alloc _).alloc _) hc; have HC := Lib.hid ((((((Chg.refl [] w).alloc _).alloc _).alloc _).alloc _).alloc _ |>.then hc); have HBB := Lib.hid (((Blk.at (((w.alloc (obU b)).alloc (obU p)).alloc (obU now)) 34 #[.int .i64 0, .int .u64 0] (n := w.heap.size + 1 + 1 + 1) (by simp)).alloc _).chg hc (by simp)); have HC1 := Lib.hid hc; have c0 := (HBT.out _ HC.out).1 0; clear hc)
  have HK := Lib.hid (fun W (hW : Chg [] w1 W) => ((⟨(HBT.out _ (HC.out.then hW)).1 0, (hW.cell (p := ⟨w.heap.size, 0, none⟩) (by dsimp only; omega) (by simp)).trans u0, (hW.cell (p := ⟨w.heap.size + 1, 0, none⟩) (by dsimp only; omega) (by simp)).trans u1, (hW.cell (p := ⟨w.heap.size + 1 + 1, 0, none⟩) (by dsimp only; omega) (by simp)).trans u2⟩ : W.cell? ⟨c, 0, none⟩ = some (.pointer (some ⟨g, 0, none⟩)) ∧ W.cell? ⟨w.heap.size, 0, none⟩ = some (.int .u64 b) ∧ W.cell? ⟨w.heap.size + 1, 0, none⟩ = some (.int .u64 p) ∧ W.cell? ⟨w.heap.size + 1 + 1, 0, none⟩ = some (.int .u64 now))))
  have HL := Lib.hid (fun W W' (hW : Chg [] w1 W) (hS : Chg S W W') => ((fun (k : Nat) (hk : k < w1.heap.size) (hkS : k ∉ S) (o : Nat) => (hS.cell (p := ⟨k, o, none⟩) (by have := hW.size; dsimp only; omega) hkS).trans (hW.cell (p := ⟨k, o, none⟩) hk (by simp))) : ∀ k, k < w1.heap.size → k ∉ S → ∀ o, W'.cell? ⟨k, o, none⟩ = w1.cell? ⟨k, o, none⟩))
  have hn1 : ¬ (w.heap.size + 1 + 1 + 1 = c) := by omega
  have hn2 : ¬ (w.heap.size + 1 + 1 + 1 = w.heap.size) := by omega
  have hn3 : ¬ (w.heap.size + 1 + 1 = w.heap.size) := by omega
  have hn4 : ¬ (w.heap.size + 1 + 1 + 1 = w.heap.size + 1 + 1) := by omega
  go_region_held3 (fun w' => w'.cell? ⟨c, 0, none⟩ = some (.pointer (some ⟨g, 0, none⟩)) ∧ w'.cell? ⟨w.heap.size, 0, none⟩ = some (.int .u64 b) ∧ w'.cell? ⟨w.heap.size + 1, 0, none⟩ = some (.int .u64 p) ∧ w'.cell? ⟨w.heap.size + 1 + 1, 0, none⟩ = some (.int .u64 now))
    (first | go_keep)
    (first
      | (go_at_call 54; refine (HF.out _).mono ?_; rintro e w2 ⟨A2, c2, rfl, hR, hc⟩; have HC2 := Lib.hid (((Chg.refl [] w1).drew).then hc); have HR2 := Lib.hid hR; obtain ⟨k0, k1, k2, k3⟩ := HK.out _ HC2.out; clear hc hR)
      | (go_at_call 53; refine (HP.out _ (HC.out.then HC2.out) _ _ _ _ _ _ _ HR2.out).mono ?_; rintro e w3 ⟨rfl, hs, hT⟩; have HT := Lib.hid hT; have HS3 := Lib.hid hs; have hcell := HL.out _ _ HC2.out HS3.out; have j0 := (hcell c (by omega) HCS.out 0).trans c0; have j1 := (hcell w.heap.size (by omega) (HX.out _ (by omega)) 0).trans u0; have j2 := (hcell (w.heap.size + 1) (by omega) (HX.out _ (by omega)) 0).trans u1; have j3 := (hcell (w.heap.size + 1 + 1) (by omega) (HX.out _ (by omega)) 0).trans u2; have j4 := (hcell (w.heap.size + 1 + 1 + 1) (by omega) (HX.out _ (by omega)) 0).trans b0; have j5 := (hcell (w.heap.size + 1 + 1 + 1) (by omega) (HX.out _ (by omega)) 1).trans b1; have HB6 := Lib.hid ((HBB.out.chg HC2.out (by simp)).chg HS3.out (HX.out _ (by omega))); have j6 := HB6.out.frozen; clear hs hT hcell))
  all_goals
    go_wp2
    refine bodyPost_ret (v := .tuple #[.agg #[.int .i64 i, .int .u64 q], .int .i64 0]) ?_ rfl ⟨A2, c2, rfl, ?_⟩
    · simp [results, Tryz.results17, go_sem, j4, j5]
    · exact HT.out.box HB6.out (by omega) (((Chg.refl _ _).setCell (p := ⟨w.heap.size + 1 + 1 + 1, 0, none⟩) (.inl (by simp)) _).setCell (p := ⟨w.heap.size + 1 + 1 + 1, 1, none⟩) (.inl (by simp)) _)
end Go.Proofs
end
section
namespace Go.Proofs
open Go.RowKit
set_option linter.unusedVariables false

/-! ### The document's contexts, plainly -/
structure Pl where
  gen : Int
  there : Bool
  x : Cx
  freed : Int
structure RTab where
  L : List Pl
  times : Int
  most : Int
def Pl.cells (p : Pl) : List Value := [.int .u64 p.gen, .bool p.there, .int .u64 p.x.b, .int .u64 p.x.p, .slice p.x.a p.x.m p.x.c, .int .i64 p.x.n, .int .i64 p.freed]
def plCells (l : List Pl) : List Value := l.flatMap Pl.cells
theorem plCells_len (l : List Pl) : (plCells l).length = l.length * 7 := flat_len (enc := Pl.cells) (s := 7) (fun _ => rfl) l
theorem plCells_append (l l' : List Pl) : plCells (l ++ l') = plCells l ++ plCells l' := by unfold plCells; simp
theorem plCells_at (l : List Pl) (k : Nat) (p : Pl) (h : l[k]? = some p) :
    (plCells l)[k * 7]? = some (.int .u64 p.gen) ∧ (plCells l)[k * 7 + 1]? = some (.bool p.there) ∧ (plCells l)[k * 7 + 2]? = some (.int .u64 p.x.b) ∧ (plCells l)[k * 7 + 3]? = some (.int .u64 p.x.p) ∧
    (plCells l)[k * 7 + 4]? = some (.slice p.x.a p.x.m p.x.c) ∧ (plCells l)[k * 7 + 5]? = some (.int .i64 p.x.n) ∧ (plCells l)[k * 7 + 6]? = some (.int .i64 p.freed) := by
  have e := fun j u => flat_at (enc := Pl.cells) (s := 7) (fun _ => rfl) (j := j) (u := u) h
  exact ⟨e 0 _ rfl, e 1 _ rfl, e 2 _ rfl, e 3 _ rfl, e 4 _ rfl, e 5 _ rfl, e 6 _ rfl⟩
theorem flat_set {α : Type} {enc : α → List Value} {s : Nat} (hs : ∀ x, (enc x).length = s) : ∀ (l : List α) (k : Nat) (x y : α) (j : Nat) (u : Value), l[k]? = some x → enc y = (enc x).set j u → j < s → (l.set k y).flatMap enc = (l.flatMap enc).set (k * s + j) u
  | [], k, x, y, j, u, h, _, _ => by simp at h
  | a :: l, 0, x, y, j, u, h, hy, hj => by
    simp at h; subst h
    rw [List.set_cons_zero, List.flatMap_cons, List.flatMap_cons, hy, Nat.zero_mul, Nat.zero_add, List.set_append_left _ _ (by rw [hs]; exact hj)]
  | a :: l, k + 1, x, y, j, u, h, hy, hj => by
    rw [List.set_cons_succ, List.flatMap_cons, List.flatMap_cons, flat_set hs l k x y j u (by simpa using h) hy hj, List.set_append_right _ _ (by rw [hs, Nat.add_mul]; omega), hs]
    congr 2
    rw [Nat.add_mul]; omega
theorem pl_set {l : List Pl} {k : Nat} {p p' : Pl} {j : Nat} {u : Value} (h : l[k]? = some p) (hy : p'.cells = p.cells.set j u) (hj : j < 7) : plCells (l.set k p') = (plCells l).set (k * 7 + j) u :=
  flat_set (enc := Pl.cells) (s := 7) (fun _ => rfl) l k p p' j u h hy hj
theorem pl_x {l : List Pl} {k : Nat} {p : Pl} (h : l[k]? = some p) (x : Cx) : plCells (l.set k { p with x := x }) = set4 (plCells l) (k * 7 + 2) x := by
  have hk := (List.getElem?_eq_some_iff.1 h).1
  have e1 := pl_set (p' := { p with x := { p.x with b := x.b } }) h (j := 2) (u := .int .u64 x.b) rfl (by omega)
  have e2 := pl_set (l := l.set k { p with x := { p.x with b := x.b } }) (p' := { p with x := { p.x with b := x.b, p := x.p } }) (List.getElem?_set_self hk) (j := 3) (u := .int .u64 x.p) rfl (by omega)
  have e3 := pl_set (l := (l.set k { p with x := { p.x with b := x.b } }).set k { p with x := { p.x with b := x.b, p := x.p } }) (p' := { p with x := { x with n := p.x.n } }) (List.getElem?_set_self (by simpa using hk)) (j := 4) (u := .slice x.a x.m x.c) rfl (by omega)
  have e4 := pl_set (l := ((l.set k { p with x := { p.x with b := x.b } }).set k { p with x := { p.x with b := x.b, p := x.p } }).set k { p with x := { x with n := p.x.n } }) (p' := { p with x := x }) (List.getElem?_set_self (by simpa using hk)) (j := 5) (u := .int .i64 x.n) rfl (by omega)
  simp only [List.set_set] at e1 e2 e3 e4
  rw [e4, e3, e2, e1]

/-- The document's contexts in memory; S are the blocks. -/
def RefAt (w : World) (h : Nat) (S : List Nat) (r : RTab) : Prop :=
  ∃ VL, Blk w h 52 #[VL, .int .i64 r.times, .int .i64 r.most] ∧ Row w 54 7 VL r.L.length (plCells r.L) ∧ S = h :: foot VL ∧ ∀ (k : Nat) (p : Pl), r.L[k]? = some p → Rd w p.x.v p.x.l
section
variable {w w' : World} {h : Nat} {S : List Nat} {r : RTab}
theorem RefAt.lt (hr : RefAt w h S r) : ∀ k ∈ S, k < w.heap.size := by
  obtain ⟨VL, hB, hL, rfl, hG⟩ := hr
  intro k hk
  rcases List.mem_cons.1 hk with rfl | hk
  · exact hB.lt
  · exact hL.lt k hk
theorem RefAt.mem (hr : RefAt w h S r) : h ∈ S := by obtain ⟨VL, hB, hL, rfl, hG⟩ := hr; simp
theorem RefAt.off (hr : RefAt w h S r) : Off w S := by
  obtain ⟨VL, hB, hL, rfl, hG⟩ := hr
  exact Off.cons hB (by decide) (Off.row hL (by decide))
theorem RefAt.chg {S' : List Nat} (hr : RefAt w h S r) (hc : Chg S' w w') (hn : ∀ k ∈ S, k ∉ S') (ho : Off w S') : RefAt w' h S r := by
  obtain ⟨VL, hB, hL, rfl, hG⟩ := hr
  exact ⟨VL, hB.chg hc (hn h (by simp)), hL.chg hc (fun k hk => hn k (by simp [hk])), rfl, fun k p hp => (hG k p hp).keep ho hc⟩
theorem RefAt.quiet (hr : RefAt w h S r) (hc : Chg [] w w') : RefAt w' h S r := hr.chg hc (fun _ _ hk => by cases hk) (Off.nil _)
theorem RefAt.box (hr : RefAt w h S r) : ∀ k, w.heap.size ≤ k → k ∉ S := fun k hk hm => by have := hr.lt k hm; omega
theorem RefAt.not_box {b : Nat} {e : TypeId} {cs : Array Value} (hr : RefAt w h S r) (hB : Blk w b e cs) (h1 : 52 ≠ e) (h2 : 54 ≠ e) : b ∉ S := by
  obtain ⟨VL, hB', hL, rfl, hG⟩ := hr
  simp only [List.mem_cons, not_or]
  exact ⟨fun e => Blk.ty hB' hB h1 e.symm, hL.ty hB h2⟩
end
/-- What a call on the document's contexts leaves. -/
def RTurns (h : Nat) (S : List Nat) (r' : RTab) (w w' : World) : Prop := ∃ S', RefAt w' h S' r' ∧ (∀ k ∈ S', k ∈ S ∨ w.heap.size ≤ k) ∧ Chg S w w'
theorem RTurns.refl {h : Nat} {S : List Nat} {r : RTab} {a b : World} (hr : RefAt a h S r) (hc : Chg [] a b) : RTurns h S r a b := ⟨S, hr.quiet hc, fun k hk => .inl hk, hc.any⟩
theorem RTurns.later {h : Nat} {S : List Nat} {r : RTab} {a b c : World} (hr : RTurns h S r a b) (hc : Chg [] b c) : RTurns h S r a c := by
  obtain ⟨S', h1, h2, h3⟩ := hr
  exact ⟨S', h1.quiet hc, h2, h3.then hc⟩
theorem RTurns.earlier {h : Nat} {S : List Nat} {r : RTab} {a b c : World} (hr : RTurns h S r b c) (hc : Chg [] a b) : RTurns h S r a c := by
  obtain ⟨S', h1, h2, h3⟩ := hr
  exact ⟨S', h1, fun k hk => (h2 k hk).imp id (fun h => Nat.le_trans hc.size h), (Chg.any hc).trans h3 (fun k hk => .inl hk)⟩
theorem RTurns.trans {h : Nat} {S S1 : List Nat} {r2 : RTab} {a b d : World} (hs : ∀ k ∈ S1, k ∈ S ∨ a.heap.size ≤ k) (hc : Chg S a b) (hr : RTurns h S1 r2 b d) : RTurns h S r2 a d := by
  obtain ⟨S2, h1, h2, h3⟩ := hr
  refine ⟨S2, h1, fun k hk => ?_, hc.trans h3 hs⟩
  rcases h2 k hk with h | h
  · exact hs k h
  · exact .inr (Nat.le_trans hc.size h)
/-- A box of the caller's own is written to. -/
theorem RTurns.box {w w3 w4 : World} {h b : Nat} {S : List Nat} {r : RTab} {e : TypeId} {cs : Array Value} (hr : RTurns h S r w w3) (hB : Blk w3 b e cs) (e1 : 52 ≠ e) (e2 : 54 ≠ e) (e3 : e ≠ 57) (hb : w.heap.size ≤ b) (hc : Chg [b] w3 w4) : RTurns h S r w w4 := by
  obtain ⟨S', h1, k2, k3⟩ := hr
  have hn := h1.not_box hB e1 e2
  exact ⟨S', h1.chg hc (fun k hk => by simp; rintro rfl; exact hn hk) (Off.cons hB e3 (Off.nil _)), k2, k3.trans hc (fun k hk => by simp at hk; subst hk; exact .inr hb)⟩
def RTab.pl? (r : RTab) (i : Int) : Option Pl := if 0 ≤ i then r.L[i.toNat]? else none
def RTab.is (r : RTab) (i q : Int) : Bool := match r.pl? i with | some p => p.there && (p.gen == q) | none => false
def RTab.at_ (r : RTab) (i q : Int) : Cx := if r.is i q then (match r.pl? i with | some p => p.x | none => cx0) else cx0
theorem ris_iff {r : RTab} {i q : Int} : r.is i q = true ↔ ∃ (k : Nat) (p : Pl), i = (k : Nat) ∧ r.L[k]? = some p ∧ p.there = true ∧ p.gen = q := by
  unfold RTab.is RTab.pl?
  by_cases h0 : 0 ≤ i
  · obtain ⟨k, rfl⟩ := Int.eq_ofNat_of_zero_le h0
    rw [if_pos h0]
    cases hp : r.L[((k : Nat) : Int).toNat]? with
    | none =>
      simp only [Int.toNat_natCast] at hp
      constructor
      · intro h; cases h
      · rintro ⟨k', p, e, hp', _⟩
        have : k = k' := by omega
        subst this
        rw [hp] at hp'; cases hp'
    | some p =>
      simp only [Int.toNat_natCast] at hp
      simp only [Bool.and_eq_true, beq_iff_eq]
      constructor
      · rintro ⟨h1, h2⟩; exact ⟨k, p, rfl, hp, h1, h2⟩
      · rintro ⟨k', p', e, hp', h1, h2⟩
        have : k = k' := by omega
        subst this
        rw [hp] at hp'; cases hp'
        exact ⟨h1, h2⟩
  · rw [if_neg h0]
    constructor
    · intro h; cases h
    · rintro ⟨k, p, rfl, _⟩; omega
theorem RTab.at_no {r : RTab} {i q : Int} (h : r.is i q = false) : r.at_ i q = cx0 := by unfold RTab.at_; rw [h]; rfl
theorem RTab.at_yes {r : RTab} {k : Nat} {q : Int} {p : Pl} (h : r.is (k : Nat) q = true) (hp : r.L[k]? = some p) : r.at_ (k : Nat) q = p.x := by
  unfold RTab.at_ RTab.pl?; rw [h]; simp [hp]
theorem RefAt.rd {w : World} {h : Nat} {S : List Nat} {r : RTab} (hr : RefAt w h S r) (i q : Int) : Rd w (r.at_ i q).v (r.at_ i q).l := by
  obtain ⟨VL, hB, hL, rfl, hG⟩ := hr
  cases hq : r.is i q with
  | false => rw [RTab.at_no hq]; exact Rd.nil w
  | true =>
    obtain ⟨k, p, rfl, hp, _⟩ := ris_iff.1 hq
    rw [RTab.at_yes hq hp]
    exact hG k p hp
/-- What there is at a place. -/
theorem RefAt.form {w : World} {h : Nat} {S : List Nat} {r : RTab} (hr : RefAt w h S r) {k : Nat} {p : Pl} (hp : r.L[k]? = some p) :
    ∃ gl cl, Blk w h 52 #[.slice (some ⟨gl, 0, none⟩) r.L.length cl, .int .i64 r.times, .int .i64 r.most] ∧ Row w 54 7 (.slice (some ⟨gl, 0, none⟩) r.L.length cl) r.L.length (plCells r.L) ∧ S = [h, gl] ∧ gl < w.heap.size ∧ k < r.L.length ∧ h ≠ gl ∧
      w.cell? ⟨gl, k * 7, none⟩ = some (.int .u64 p.gen) ∧ w.cell? ⟨gl, k * 7 + 1, none⟩ = some (.bool p.there) ∧ w.cell? ⟨gl, k * 7 + 2, none⟩ = some (.int .u64 p.x.b) ∧ w.cell? ⟨gl, k * 7 + 3, none⟩ = some (.int .u64 p.x.p) ∧
      w.cell? ⟨gl, k * 7 + 4, none⟩ = some (.slice p.x.a p.x.m p.x.c) ∧ w.cell? ⟨gl, k * 7 + 5, none⟩ = some (.int .i64 p.x.n) ∧ w.cell? ⟨gl, k * 7 + 6, none⟩ = some (.int .i64 p.freed) ∧ (∀ j, w.frozen? ⟨gl, j, none⟩ = false) := by
  obtain ⟨VL, hB, hL, rfl, hG⟩ := hr
  have hk := (List.getElem?_eq_some_iff.1 hp).1
  obtain ⟨gl, cl, hv, hft, hc, hcell, hfz, hlt⟩ := hL.form (by omega)
  subst hv
  obtain ⟨h0, h1, h2, h3, h4, h5, h6⟩ := plCells_at r.L k p hp
  have hne : h ≠ gl := by have := hL.ty hB (by decide); simpa [foot_some] using this
  exact ⟨gl, cl, hB, hL, by rw [hft], hlt, hk, hne, hcell _ _ h0, hcell _ _ h1, hcell _ _ h2, hcell _ _ h3, hcell _ _ h4, hcell _ _ h5, hcell _ _ h6, hfz⟩
end Go.Proofs
end
section
namespace Go.Proofs
open Go.RowKit
set_option linter.unusedVariables false

/-! ### Times, in a row of the law's own -/
def u64s (U : List Int) : List Value := U.map (Value.int .u64)
theorem u64s_len (U : List Int) : (u64s U).length = U.length := by simp [u64s]
theorem u64s_at {U : List Int} {k : Nat} {x : Int} (h : U[k]? = some x) : (u64s U)[k]? = some (.int .u64 x) := by unfold u64s; rw [List.getElem?_map, h]; rfl
/-- The slice v is a row of its own, and reads as the numbers U. -/
def Un (w : World) (v : Value) (U : List Int) : Prop := Row w 32 1 v U.length (u64s U)
theorem Un.quiet {w w' : World} {v : Value} {U : List Int} (h : Un w v U) (hc : Chg [] w w') : Un w' v U := Row.chg h hc (fun _ _ hk => by cases hk)
theorem u_info : (Tryz.prog.info? 32).map (fun i => (i.zero, i.size, i.bytes)) = some (some (.int .u64 0), 1, 8) := by kernel_rfl
theorem run_append_u (w : World) (ty : TypeId) {v : Value} {U : List Int} {g : Nat} {x : Int} (hr : Un w v U) (hx : Blk w g 32 #[.int .u64 x]) (hb : U.length ≤ 100000) :
    ∃ A' c' w', (Builtin.append_ #[129, 129] ty #[v, .slice (some ⟨g, 0, none⟩) 1 1]).run Tryz.prog w = .ok (.slice A' (U.length + 1) c') w' ∧ Un w' (.slice A' (U.length + 1) c') (U ++ [x]) ∧ w.grownBy w' v.ownBlock ∧ (∀ k ∈ foot (.slice A' (U.length + 1) c'), k ∈ foot v ∨ w.heap.size ≤ k) := by
  obtain ⟨i0, hi0, hz0, hz1, hz2⟩ := info_parts u_info
  obtain ⟨gg, cap, w', q1, q2, q3, q4, q5⟩ := run_append_row (P := Tryz.prog) w 129 ty 32 i0 (.int .u64 0) 1 8 Tryz.underlying129 hi0 hz0 hz1 hz2 rfl v U.length (u64s U) hr ⟨g, 0, none⟩ 1 1 [.int .u64 x] rfl
    (fun j u hu => by
      match j, hu with
      | 0, hu =>
        simp at hu
        subst hu
        rw [addr_add, hx.cell]; rfl) (by intro u hu; simp at hu; subst hu; rfl) (by omega) (by unfold maxLen; omega) (by omega) w.heap.size rfl
  refine ⟨_, _, w', q1, ?_, q3, foot_grown q4 (fun k hk => hk)⟩
  unfold Un
  rw [List.length_append]
  have e : u64s (U ++ [x]) = u64s U ++ [.int .u64 x] := by simp [u64s]
  rw [e]
  exact q2
theorem wpList_append_u (w : World) {ops : Array Oper} {rest : List Oper} {o : Oper} {a : Act} {Q : Exit → Act → World → Prop} (hgd : o.guard = none) (s y : Operand)
    (ho : o.op = .call { callee := .builtin .append, args := #[s, y], argTypes := #[129, 129] })
    {v : Value} {U : List Int} {g N : Nat} {x : Int} (hs : a.eval s = v) (hy : a.eval y = .slice (some ⟨g, 0, none⟩) 1 1) (hr : Un w v U) (hx : Blk w g 32 #[.int .u64 x]) (hb : U.length ≤ 100000) (hN : N = U.length + 1)
    (h : ∀ A' c' w', Un w' (.slice A' N c') (U ++ [x]) → w.grownBy w' v.ownBlock → (∀ k ∈ foot (.slice A' N c'), k ∈ foot v ∨ w.heap.size ≤ k) → wpList Tryz.prog ops Q rest (a.put o.dst (.slice A' N c')) w') : wpList Tryz.prog ops Q (o :: rest) a w := by
  subst hN
  obtain ⟨A', c', w', h1, h2, h3, h4⟩ := run_append_u w o.type hr hx hb
  exact Lib.wpList_append_run w hgd s y 129 129 ho v _ hs hy _ w' h1 (h A' c' w' h2 h3 h4)
theorem Un.far {w : World} {v u : Value} {U : List Int} {X : List Rf} (h : Un w v U) (k : Rd w u X) : ∀ j ∈ foot u, j ∉ foot v := fun j hj hm => by
  rcases h.2 with ⟨rfl, _⟩ | ⟨g, cap, cur, rfl, hg, _⟩
  · cases hm
  · simp [foot_some] at hm
    subst hm
    exact Rs.ty k hg (by decide) hj
theorem Un.at_ {w : World} {A : Option Addr} {n c : Nat} {U : List Int} (h : Un w (.slice A n c) U) {k : Nat} {x : Int} (hk : U[k]? = some x) : ∃ g, A = some ⟨g, 0, none⟩ ∧ n = U.length ∧ w.cell? ⟨g, k, none⟩ = some (.int .u64 x) := by
  have hl := (List.getElem?_eq_some_iff.1 hk).1
  obtain ⟨g, cap, hv, _, _, hc, _, _⟩ := Row.form h (by omega)
  simp only [Value.slice.injEq] at hv
  obtain ⟨rfl, rfl, _⟩ := hv
  exact ⟨g, rfl, rfl, hc k _ (u64s_at hk)⟩
theorem Un.val {w : World} {v : Value} {U : List Int} (h : Un w v U) {n : Nat} (hn : U.length = n) : ∃ A c, v = .slice A n c := by
  obtain ⟨A, c, h1, _⟩ := Row.val h
  exact ⟨A, c, by rw [h1, hn]⟩
/-- How many of those that were used do not come back till a time. -/
def cntP (U : List Int) (per τ : Int) : Nat := U.countP (fun u => decide (τ < u + per))
theorem cntP_snoc (U : List Int) (u per τ : Int) : (cntP (U ++ [u]) per τ : Int) = cntP U per τ + (if τ < u + per then 1 else 0) := by
  unfold cntP
  rw [List.countP_append]
  by_cases h : τ < u + per
  · rw [if_pos h]; simp [h]
  · rw [if_neg h]; simp [h]
theorem cntP_tail {U : List Int} {per τ : Int} {q : Nat} (h : ∀ k u, q ≤ k → U[k]? = some u → τ < u + per) : U.length - q ≤ cntP U per τ := by
  have e : cntP U per τ = cntP (U.take q) per τ + cntP (U.drop q) per τ := by unfold cntP; rw [← List.countP_append, List.take_append_drop]
  have e2 : cntP (U.drop q) per τ = (U.drop q).length := by
    unfold cntP
    rw [List.countP_eq_length]
    intro u hu
    obtain ⟨j, hj, hje⟩ := List.mem_iff_getElem.1 hu
    rw [List.length_drop] at hj
    rw [List.getElem_drop] at hje
    have := h (q + j) u (by omega) (by rw [List.getElem?_eq_getElem (by omega), hje])
    simpa using this
  rw [e, e2, List.length_drop]
  omega
/-- What holds ahead of each time. -/
structure WInv (l : List Rf) (per most : Int) (k : Nat) (now : Int) (U : List Int) (X : List Rf) : Prop where
  ok : Ok X
  may : mayP X = true
  sum : sumP X = sumP l
  len : (X.length : Int) ≤ most
  now0 : 0 ≤ now
  now1 : now ≤ 1000 * (k : Int)
  used : U.length ≤ k
  past : ∀ u ∈ U, 0 ≤ u ∧ u ≤ now
  late : ∀ τ, now ≤ τ → (cntP U per τ : Int) ≤ lateP X τ
theorem WInv.start {l : List Rf} {per most : Int} (hk : Ok l) (hm : mayP l = true) (hl : (l.length : Int) ≤ most) : WInv l per most 0 0 [] l :=
  ⟨hk, hm, rfl, hl, Int.le_refl _, by simp, by simp, (fun u hu => by cases hu), fun τ _ => by simp [cntP]; exact (lateP_le hk τ).1⟩
theorem WInv.skip {l : List Rf} {per most now d : Int} {k : Nat} {U : List Int} {X : List Rf} (h : WInv l per most k now U X) (d0 : 0 ≤ d) (d1 : d ≤ 1000) : WInv l per most (k + 1) (now + d) U X :=
  ⟨h.ok, h.may, h.sum, h.len, by have := h.now0; omega, by have := h.now1; omega, by have := h.used; omega, fun u hu => by have := h.past u hu; omega, fun τ hτ => h.late τ (by omega)⟩
theorem WInv.use {l : List Rf} {per most now : Int} {k : Nat} {U : List Int} {X : List Rf} (h : WInv l per most (k + 1) now U X) (hU : U.length ≤ k) (hp : 0 ≤ per) (hc : canP X now per most) : WInv l per most (k + 1) now (U ++ [now]) (useP X now per most) := by
  obtain ⟨u1, u2, u3, u4, u5⟩ := use_facts h.ok h.now0 hp hc
  refine ⟨u1, u2, by rw [u3, h.sum], u4, h.now0, h.now1, by simp; omega, fun u hu => ?_, fun τ hτ => ?_⟩
  · rcases List.mem_append.1 hu with h1 | h1
    · exact h.past u h1
    · simp at h1; subst h1; exact ⟨h.now0, Int.le_refl _⟩
  · rw [cntP_snoc]
    have := h.late τ hτ
    have := u5 τ hτ
    omega
/-- No more in the window than all together. -/
theorem WInv.window {l : List Rf} {per most now : Int} {k q : Nat} {U : List Int} {X : List Rf} (h : WInv l per most k now U X) (ht : ∀ k u, q ≤ k → U[k]? = some u → now < u + per) : ((U.length - q : Nat) : Int) ≤ sumP l := by
  have h1 := cntP_tail ht
  have h2 := h.late now (Int.le_refl _)
  have h3 := (lateP_le h.ok now).2
  have h4 := h.sum
  omega
/-- In the midst: the times used, and the list, in memory. -/
def WMid (w wx : World) (V5 V7 : Value) (U : List Int) (X : List Rf) : Prop := Un wx V5 U ∧ (∀ k ∈ foot V5, w.heap.size ≤ k) ∧ Rd wx V7 X ∧ Chg [] w wx
end Go.Proofs
end
section
namespace Go.Proofs
open Go.RowKit
set_option linter.unusedVariables false

/-! ### What comes next -/
def nextK (l : List Rf) (now : Int) : Nat → Int × Bool
  | 0 => (0, false)
  | k + 1 => if now < ((l[k]?).getD (0, 0)).2 ∧ ((nextK l now k).2 = false ∨ ((l[k]?).getD (0, 0)).2 < (nextK l now k).1) then (((l[k]?).getD (0, 0)).2, true) else nextK l now k
def nextP (l : List Rf) (now : Int) : Int × Bool := nextK l now l.length
/-- The least of these times that is above now, or that there is none. -/
def IsNext (L : List Int) (now : Int) (p : Int × Bool) : Prop :=
  (p = (0, false) ∧ ∀ t ∈ L, t ≤ now) ∨ (p.2 = true ∧ p.1 ∈ L ∧ now < p.1 ∧ ∀ t ∈ L, now < t → p.1 ≤ t)
theorem IsNext.uniq {L : List Int} {now : Int} {p q : Int × Bool} (h : IsNext L now p) (k : IsNext L now q) : p = q := by
  rcases h with ⟨h1, h2⟩ | ⟨h1, h2, h3, h4⟩
  · rcases k with ⟨k1, _⟩ | ⟨_, k2, k3, _⟩
    · rw [h1, k1]
    · have := h2 _ k2; omega
  · rcases k with ⟨_, k2⟩ | ⟨k1, k2, k3, k4⟩
    · have := k2 _ h2; omega
    · have e1 := h4 _ k2 k3
      have e2 := k4 _ h2 h3
      exact Prod.ext (by omega) (by rw [h1, k1])
theorem IsNext.perm {L M : List Int} {now : Int} {p : Int × Bool} (h : IsNext L now p) (hp : L.Perm M) : IsNext M now p := by
  rcases h with ⟨h1, h2⟩ | ⟨h1, h2, h3, h4⟩
  · exact .inl ⟨h1, fun t ht => h2 t (hp.mem_iff.2 ht)⟩
  · exact .inr ⟨h1, hp.mem_iff.1 h2, h3, fun t ht => h4 t (hp.mem_iff.2 ht)⟩
theorem nextK_is (l : List Rf) (now : Int) : ∀ k, k ≤ l.length → IsNext ((l.take k).map (·.2)) now (nextK l now k)
  | 0, _ => .inl ⟨rfl, fun t ht => by simp at ht⟩
  | k + 1, hk => by
    have ih := nextK_is l now k (by omega)
    obtain ⟨x, hx⟩ : ∃ x, l[k]? = some x := ⟨_, List.getElem?_eq_getElem (by omega)⟩
    rw [take_snoc hx, List.map_append]
    unfold nextK
    rw [hx]
    simp only [Option.getD_some, List.map_cons, List.map_nil]
    by_cases h : now < x.2 ∧ ((nextK l now k).2 = false ∨ x.2 < (nextK l now k).1)
    · rw [if_pos h]
      refine .inr ⟨rfl, by simp, h.1, fun t ht hn => ?_⟩
      rcases List.mem_append.1 ht with h1 | h1
      · rcases ih with ⟨i1, i2⟩ | ⟨i1, i2, i3, i4⟩
        · have := i2 t h1; omega
        · rcases h.2 with h2 | h2
          · rw [i1] at h2; cases h2
          · have := i4 t h1 hn; simp only; omega
      · simp at h1; subst h1; exact Int.le_refl _
    · rw [if_neg h]
      rcases ih with ⟨i1, i2⟩ | ⟨i1, i2, i3, i4⟩
      · refine .inl ⟨i1, fun t ht => ?_⟩
        rcases List.mem_append.1 ht with h1 | h1
        · exact i2 t h1
        · simp at h1; subst h1
          refine Int.not_lt.1 (fun hc => h ⟨hc, .inl (by rw [i1])⟩)
      · refine .inr ⟨i1, List.mem_append.2 (.inl i2), i3, fun t ht hn => ?_⟩
        rcases List.mem_append.1 ht with h1 | h1
        · exact i4 t h1 hn
        · simp at h1; subst h1
          exact Int.not_lt.1 (fun hc => h ⟨hn, .inr hc⟩)
theorem nextP_is (l : List Rf) (now : Int) : IsNext (l.map (·.2)) now (nextP l now) := by
  have := nextK_is l now l.length (Nat.le_refl _)
  rwa [List.take_length] at this
set_option maxHeartbeats 3200000 in
set_option maxRecDepth 100000 in
/-- The document's Next. -/
theorem rnext_any {w : World} {v : Value} {l : List Rf} (h : In w v l) (hn : l.length ≤ 100000) (now : Int) :
    Calls Tryz.prog 85 #[v, .int .u64 now] w fun e w' => e = .returned (.tuple #[.int .u64 (nextP l now).1, .bool (nextP l now).2]) ∧ Chg [] w w' := by
  obtain ⟨A, c, rfl, _, _, _, hcell⟩ := h.open_
  obtain ⟨n, e1⟩ : ∃ n, n = l.length := ⟨_, rfl⟩
  have HP := Lib.hid (show nextP l now = nextK l now n by rw [e1]; rfl)
  rw [← e1] at hn ⊢
  have HN := Lib.hid e1
  have HC := Lib.hid hcell
  clear h e1 hcell
  go_enter Tryz.func85, Tryz.ntmps85
  go_wp2
  go_loopg [6, 7, 8] n (fun gh s f i wx => ∃ k : Nat, k + gh = n ∧ i = .int .i64 k ∧ s = .int .u64 (nextK l now k).1 ∧ f = .bool (nextK l now k).2 ∧ Hid (Chg [] w wx))
  case atStart => exact ⟨0, by omega, rfl, rfl, rfl, Lib.hid (Chg.refl _ _)⟩
  case round =>
    obtain ⟨k, hk, rfl, rfl, rfl, HR⟩ := hrel
    by_cases hlt : k < n
    · have k0 : (0 : Int) ≤ (k : Int) := by omega
      have k1 : (k : Int) < (n : Int) := by omega
      obtain ⟨x, hx⟩ : ∃ x, l[k]? = some x := ⟨_, List.getElem?_eq_getElem (by rw [← HN.out]; exact hlt)⟩
      obtain ⟨b, o, rfl, lb, p0, p1⟩ := HC.out k x hx
      have x1 := (HR.out.cell (p := ⟨b, o + k * 2 + 1, none⟩) lb (by simp)).trans p1
      have hnext : nextK l now (k + 1) = if now < x.2 ∧ ((nextK l now k).2 = false ∨ x.2 < (nextK l now k).1) then (x.2, true) else nextK l now k := by
        rw [nextK, hx]; rfl
      obtain ⟨⟨S, F⟩, hSF⟩ : ∃ p, p = nextK l now k := ⟨_, rfl⟩
      rw [← hSF] at hnext ⊢
      obtain ⟨xa, xt⟩ := x
      simp only at x1 hnext ⊢
      by_cases h1 : now < xt
      · have g1 : decide (xt > now) = true := by simpa using h1
        have g1' : decide (now < xt) = true := by simpa using h1
        cases F with
        | false =>
          have HX := Lib.hid (show nextK l now (k + 1) = (xt, true) by rw [hnext, if_pos ⟨h1, .inl rfl⟩])
          clear hx p0 p1 hnext hSF h1
          go_wp2
          go_roundg (n - k - 1)
          case measure => omega
          case rel => exact ⟨k + 1, by omega, by go_num, by rw [HX.out], by rw [HX.out], Lib.hid HR.out⟩
        | true =>
          by_cases h2 : xt < S
          · have g2 : decide (xt < S) = true := by simpa using h2
            have HX := Lib.hid (show nextK l now (k + 1) = (xt, true) by rw [hnext, if_pos ⟨h1, .inr h2⟩])
            clear hx p0 p1 hnext hSF h1 h2
            go_wp2
            go_roundg (n - k - 1)
            case measure => omega
            case rel => exact ⟨k + 1, by omega, by go_num, by rw [HX.out], by rw [HX.out], Lib.hid HR.out⟩
          · have g2 : decide (xt < S) = false := by simpa using h2
            have HX := Lib.hid (show nextK l now (k + 1) = (S, true) by rw [hnext, if_neg (fun c => by rcases c.2 with c | c; cases c; exact h2 c)])
            clear hx p0 p1 hnext hSF h1 h2
            go_wp2
            go_roundg (n - k - 1)
            case measure => omega
            case rel => exact ⟨k + 1, by omega, by go_num, by rw [HX.out], by rw [HX.out], Lib.hid HR.out⟩
      · have g1 : decide (xt > now) = false := by simpa using h1
        have g1' : decide (now < xt) = false := by simpa using h1
        have HX := Lib.hid (show nextK l now (k + 1) = (S, F) by rw [hnext, if_neg (fun c => h1 c.1)])
        clear hx p0 p1 hnext hSF h1
        go_wp2
        go_roundg (n - k - 1)
        case measure => omega
        case rel => exact ⟨k + 1, by omega, by go_num, by rw [HX.out], by rw [HX.out], Lib.hid HR.out⟩
    · obtain rfl : k = n := by omega
      obtain ⟨S, hS⟩ : ∃ p, p = (nextK l now k).1 := ⟨_, rfl⟩
      obtain ⟨F, hF⟩ : ∃ p, p = (nextK l now k).2 := ⟨_, rfl⟩
      have HS := Lib.hid hS
      have HF := Lib.hid hF
      rw [← hS, ← hF]
      clear hS hF
      go_wp2
      go_ret2
      exact ⟨by rw [HP.out, ← HS.out, ← HF.out]; rfl, HR.out⟩
/-- The closure of Next. -/
theorem later_step {w : World} {bN : Nat} {now : Int} (hN : Blk w bN 32 #[.int .u64 now]) (y : Int) :
    Calls Tryz.prog 102 #[.int .u64 y, .pointer (some ⟨bN, 0, none⟩)] w fun e w' => e = .returned (.bool (decide (now < y))) ∧ w = w' := by
  have c0 := hN.cell 0
  have ln := hN.lt
  clear hN
  go_enter Tryz.func102, Tryz.ntmps102
  go_wp2
  go_ret
  exact ⟨rfl, rfl⟩
def firstU (U : List Int) (now : Int) : Nat := U.findIdx (fun t => decide (now < t))
theorem firstU_at {U : List Int} {now : Int} {k : Nat} {x : Int} (h : ∀ j y, j < k → U[j]? = some y → y ≤ now) (hk : U[k]? = some x) (hx : now < x) : firstU U now = k := by
  have hl := (List.getElem?_eq_some_iff.1 hk).1
  have hxx := (List.getElem?_eq_some_iff.1 hk).2
  unfold firstU
  rw [List.findIdx_eq hl]
  refine ⟨by rw [hxx]; simpa using hx, fun j hj => ?_⟩
  have := h j _ hj (List.getElem?_eq_getElem (by omega))
  simpa using this
theorem firstU_none {U : List Int} {now : Int} (h : ∀ j y, j < U.length → U[j]? = some y → y ≤ now) : firstU U now = U.length := by
  unfold firstU
  rw [List.findIdx_eq_length]
  intro x hx
  obtain ⟨j, hj, hje⟩ := List.mem_iff_getElem.1 hx
  have := h j x hj (by rw [List.getElem?_eq_getElem hj, hje])
  simpa using this
set_option maxHeartbeats 3200000 in
set_option maxRecDepth 100000 in
theorem first_later {w : World} {v : Value} {U : List Int} {bN : Nat} {now : Int} (h : Un w v U) (hB : Blk w bN 32 #[.int .u64 now]) (hn : U.length ≤ 100000) :
    Calls Tryz.prog 101 #[v, .func (.func 102) #[] #[.pointer (some ⟨bN, 0, none⟩)]] w fun e w' => e = .returned (.int .i64 (firstU U now : Nat)) ∧ Chg [] w w' := by
  obtain ⟨A, c, rfl⟩ := h.val rfl
  obtain ⟨n, e1⟩ : ∃ n, n = U.length := ⟨_, rfl⟩
  have HU := Lib.hid h
  rw [← e1] at hn HU ⊢
  have HN := Lib.hid e1
  have HB := Lib.hid hB
  clear h e1 hB
  go_enter Tryz.func101, Tryz.ntmps101
  go_wp2
  go_loopg [9] n (fun gh i wx => ∃ k : Nat, k + gh = n ∧ i = .int .i64 k ∧ Hid (Chg [] w wx ∧ ∀ j (y : Int), j < k → U[j]? = some y → y ≤ now))
  case atStart => exact ⟨0, by omega, rfl, Lib.hid ⟨Chg.refl _ _, fun j y hj => by omega⟩⟩
  case round =>
    obtain ⟨k, hk, rfl, HR⟩ := hrel
    by_cases hlt : k < n
    · have k0 : (0 : Int) ≤ (k : Int) := by omega
      have k1 : (k : Int) < (n : Int) := by omega
      obtain ⟨x, hx⟩ : ∃ x, U[k]? = some x := ⟨_, List.getElem?_eq_getElem (by rw [← HN.out]; exact hlt)⟩
      obtain ⟨g, rfl, hz9, x0⟩ := (HU.out.quiet HR.out.1).at_ hx
      clear hz9
      have HX := Lib.hid hx
      have hstep := later_step (HB.out.chg HR.out.1 (by simp)) x
      by_cases hbd : now < x
      · rw [show decide (now < x) = true by simpa using hbd] at hstep
        have HZ := Lib.hid (firstU_at HR.out.2 HX.out hbd)
        clear hx hbd
        go_wp2_with (go_at_call 102; refine hstep.mono ?_; rintro e w1 ⟨rfl, rfl⟩)
        go_ret
        exact ⟨by rw [HZ.out]; rfl, HR.out.1⟩
      · rw [show decide (now < x) = false by simpa using hbd] at hstep
        have HZ := Lib.hid (show ∀ j (y : Int), j < k + 1 → U[j]? = some y → y ≤ now from fun j y hj hy => by
          by_cases e : j = k
          · subst e
            rw [HX.out] at hy
            cases hy
            omega
          · exact HR.out.2 j y (by omega) hy)
        clear hx hbd
        go_wp2_with (go_at_call 102; refine hstep.mono ?_; rintro e w1 ⟨rfl, rfl⟩)
        go_roundg (n - k - 1)
        case measure => omega
        case rel => exact ⟨k + 1, by omega, by go_num, Lib.hid ⟨HR.out.1, HZ.out⟩⟩
    · obtain rfl : k = n := by omega
      have HZ := Lib.hid (show firstU U now = k by rw [HN.out]; exact firstU_none (by rw [← HN.out]; exact HR.out.2))
      go_wp2
      go_ret
      exact ⟨by rw [HZ.out]; rfl, HR.out.1⟩
/-- What slices.Sort does to rows of at most N numbers. -/
def Sorts (N : Nat) : Prop := ∀ (w : World) (v : Value) (U : List Int), Un w v U → U.length ≤ N →
  Calls Tryz.prog 100 #[v] w fun e w' => e = .returned (.tuple #[]) ∧ ∃ U', Un w' v U' ∧ U'.Perm U ∧ U'.Pairwise (fun x y => x ≤ y) ∧ Chg (foot v) w w'
theorem firstU_next {U : List Int} {now : Int} (hs : U.Pairwise (fun x y => x ≤ y)) :
    (firstU U now = U.length ∧ IsNext U now (0, false)) ∨ ∃ x, U[firstU U now]? = some x ∧ firstU U now < U.length ∧ IsNext U now (x, true) := by
  by_cases h : firstU U now < U.length
  · right
    have h' : U.findIdx (fun t => decide (now < t)) < U.length := h
    have h2 := List.findIdx_getElem (w := h')
    obtain ⟨x, hx⟩ : ∃ x, U[firstU U now]? = some x := ⟨_, List.getElem?_eq_getElem h⟩
    obtain ⟨hl, hxe⟩ := List.getElem?_eq_some_iff.1 hx
    have hxn : now < x := by
      have h3 : U[U.findIdx (fun t => decide (now < t))] = x := hxe
      have h4 : decide (now < U[U.findIdx (fun t => decide (now < t))]) = true := h2
      rw [h3] at h4
      simpa using h4
    refine ⟨x, hx, h, .inr ⟨rfl, List.mem_of_getElem? hx, hxn, fun t ht hn => ?_⟩⟩
    obtain ⟨j, hj, hje⟩ := List.mem_iff_getElem.1 ht
    have h3 : firstU U now ≤ j := by
      refine Nat.le_of_not_lt (fun hc => ?_)
      have h4 := List.not_of_lt_findIdx (xs := U) (p := fun t => decide (now < t)) (i := j) hc
      rw [hje] at h4
      simp at h4
      omega
    show x ≤ t
    by_cases e : firstU U now = j
    · have h5 : U[j]? = some x := by rw [← e]; exact hx
      rw [List.getElem?_eq_getElem hj, hje] at h5
      cases h5
      exact Int.le_refl _
    · have := List.pairwise_iff_getElem.1 hs _ _ h hj (by omega)
      rw [hje, hxe] at this
      exact this
  · left
    have h1 : firstU U now = U.length := by have : firstU U now ≤ U.length := List.findIdx_le_length; omega
    refine ⟨h1, .inl ⟨rfl, fun t ht => ?_⟩⟩
    unfold firstU at h1
    rw [List.findIdx_eq_length] at h1
    have := h1 t ht
    simpa using this
set_option maxHeartbeats 3200000 in
set_option maxRecDepth 100000 in
/-- What comes next, given what slices.Sort does. -/
theorem next_any {N : Nat} (hS : Sorts N) {w : World} {v : Value} {l : List Rf} (h : Rd w v l) (hn : l.length ≤ N) (hN : l.length ≤ 100000) (now : Int) :
    Calls Tryz.prog 67 #[v, .int .u64 now] w fun e w' => e = .returned (.tuple #[.int .u64 (nextP l now).1, .bool (nextP l now).2]) ∧ Chg [] w w' := by
  have hnx := nextP_is l now
  obtain ⟨P1, hP1⟩ : ∃ p, p = (nextP l now).1 := ⟨_, rfl⟩
  obtain ⟨P2, hP2⟩ : ∃ p, p = (nextP l now).2 := ⟨_, rfl⟩
  have HIS := Lib.hid (show IsNext (l.map (·.2)) now (P1, P2) by rw [hP1, hP2]; exact hnx)
  rw [← hP1, ← hP2]
  obtain ⟨A, c, rfl, _, _, _, hcell⟩ := h.open_
  obtain ⟨n, e1⟩ : ∃ n, n = l.length := ⟨_, rfl⟩
  rw [← e1] at hn hN ⊢
  have HL := Lib.hid e1
  have HC := Lib.hid hcell
  have HSN := Lib.hid hn
  have hB0 : Blk (w.alloc (.cells #[.int .u64 now] 32)) w.heap.size 32 #[.int .u64 now] := Blk.new _ _ _
  have HI0 := Lib.hid (show Un (w.alloc (.cells #[.int .u64 now] 32)) (.slice none 0 0) [] ∧ (∀ k ∈ foot (.slice none 0 0), w.heap.size < k) ∧ Blk (w.alloc (.cells #[.int .u64 now] 32)) w.heap.size 32 #[.int .u64 now] ∧ Chg [] w (w.alloc (.cells #[.int .u64 now] 32)) from ⟨Row.nil _ _ _, (fun k hk => by cases hk), hB0, (Chg.refl _ _).alloc _⟩)
  clear h e1 hcell hnx hP1 hP2 hn hB0
  go_enter Tryz.func67, Tryz.ntmps67
  go_wp2
  go_loopg [6, 12] n (fun gh s i wx => ∃ k : Nat, k + gh = n ∧ i = .int .i64 k ∧ Hid (Un wx s ((l.take k).map (·.2)) ∧ (∀ j ∈ foot s, w.heap.size < j) ∧ Blk wx w.heap.size 32 #[.int .u64 now] ∧ Chg [] w wx))
  case atStart => exact ⟨0, by omega, rfl, Lib.hid HI0.out⟩
  case round =>
    obtain ⟨k, hk, rfl, HR⟩ := hrel
    by_cases hlt : k < n
    · have k0 : (0 : Int) ≤ (k : Int) := by omega
      have k1 : (k : Int) < (n : Int) := by omega
      obtain ⟨x, hx⟩ : ∃ x, l[k]? = some x := ⟨_, List.getElem?_eq_getElem (by rw [← HL.out]; exact hlt)⟩
      obtain ⟨b, o, rfl, lb, p0, p1⟩ := HC.out k x hx
      have hc := HR.out.2.2.2
      have x0 := (hc.cell (p := ⟨b, o + k * 2, none⟩) lb (by simp)).trans p0
      have x1 := (hc.cell (p := ⟨b, o + k * 2 + 1, none⟩) lb (by simp)).trans p1
      have HX := Lib.hid (show ((l.take (k + 1)).map (·.2)) = ((l.take k).map (·.2)) ++ [x.2] by rw [take_snoc hx, List.map_append]; rfl)
      have HLN := Lib.hid (show ((l.take k).map (·.2)).length ≤ 100000 by rw [List.length_map, List.length_take]; omega)
      have HLK := Lib.hid (show k + 1 = ((l.take k).map (·.2)).length + 1 by rw [List.length_map, List.length_take, ← HL.out]; omega)
      obtain ⟨xa, xt⟩ := x
      simp only at x0 x1 HX
      have HST := Lib.hid (fun (V' : Value) (W' : World) (hg : ((wr.alloc (.cells #[.int .u64 xa, .int .u64 xt] 57)).alloc (.cells #[.int .u64 xt] 32)).grownBy W' u6.ownBlock) (hr : Un W' V' ((l.take k).map (·.2) ++ [xt])) (hf : ∀ j ∈ foot V', j ∈ foot u6 ∨ ((wr.alloc (.cells #[.int .u64 xa, .int .u64 xt] 57)).alloc (.cells #[.int .u64 xt] 32)).heap.size ≤ j) =>
        (show Un W' V' ((l.take (k + 1)).map (·.2)) ∧ (∀ j ∈ foot V', w.heap.size < j) ∧ Blk W' w.heap.size 32 #[.int .u64 now] ∧ Chg [] w W' from by
          have h4 := HR.out.2.2.2.size
          have hsz := HR.out.2.2.1.lt
          have hc2 : Chg [] w ((wr.alloc (.cells #[.int .u64 xa, .int .u64 xt] 57)).alloc (.cells #[.int .u64 xt] 32)) := (HR.out.2.2.2.alloc _).alloc _
          refine ⟨by rw [HX.out]; exact hr, fun j hj => ?_, ?_, hc2.grown hg (fun j hj => .inr (by have := HR.out.2.1 j (row_mem hj); omega))⟩
          · rcases hf j hj with h5 | h5
            · exact HR.out.2.1 j h5
            · simp at h5; omega
          · exact ((HR.out.2.2.1.alloc _).alloc _).same (hg.block _ (by simp; omega) (fun e => by have := HR.out.2.1 _ (row_mem e.symm); omega))))
      clear hx p0 p1 hc
      go_wp2_with (at_builtin; refine wpList_append_u (U := (l.take k).map (·.2)) (x := xt) (N := k + 1) _ rfl _ _ rfl (by rfl) (by rfl) ((HR.out.1.quiet ((Chg.refl [] _).alloc (.cells #[.int .u64 xa, .int .u64 xt] 57))).quiet ((Chg.refl [] _).alloc (.cells #[.int .u64 xt] 32))) (Blk.at _ 32 _ (by simp)) HLN.out HLK.out ?_; intro A5 c5 w4 hr hg hf; have H4 := Lib.hid (HST.out _ _ hg hr hf); clear hr hg hf)
      go_roundg (n - k - 1)
      case measure => omega
      case rel => exact ⟨k + 1, by omega, by go_num, Lib.hid H4.out⟩
    · obtain rfl : k = n := by omega
      have HT := Lib.hid (show (l.take k).map (·.2) = l.map (·.2) by rw [HL.out, List.take_length])
      have HO := Lib.hid HR.out
      rw [HT.out] at HO
      obtain ⟨A6, c6, rfl⟩ := HO.out.1.val (n := k) (by rw [List.length_map, ← HL.out])
      have hsort := hS _ _ _ HO.out.1 (by rw [List.length_map, ← HL.out]; exact HSN.out)
      have HFF := Lib.hid (show ∀ W, Chg (foot (.slice A6 k c6)) wr W → Blk W w.heap.size 32 #[.int .u64 now] ∧ Chg [] w W from fun W hW =>
        ⟨HO.out.2.2.1.chg hW (fun hm => by have := HO.out.2.1 _ hm; omega), HO.out.2.2.2.trans hW (fun j hj => .inr (by have := HO.out.2.1 j hj; omega))⟩)
      have HLM := Lib.hid (show (l.map (·.2)).length = k by rw [List.length_map, ← HL.out])
      clear HR
      go_wp2_with (go_at_call 100; refine hsort.mono ?_; rintro e w5 ⟨rfl, U', q1, q2, q3, q4⟩; have H5 := Lib.hid (HFF.out _ q4); have HU5 := Lib.hid q1; have hfi := first_later (now := now) q1 H5.out.1 (by rw [q2.length_eq, HLM.out]; exact hN); have HPM := Lib.hid q2; have HPW := Lib.hid q3; clear q1 q2 q3 q4)
      go_at_call 101
      refine hfi.mono ?_
      rintro e w6 ⟨rfl, h1⟩
      have H6 := Lib.hid (H5.out.2.then h1)
      have HU6 := Lib.hid (HU5.out.quiet h1)
      have hcs := firstU_next (now := now) HPW.out
      have hul := HPM.out.length_eq.trans HLM.out
      obtain ⟨q, hq⟩ : ∃ q, q = firstU U' now := ⟨_, rfl⟩
      rw [← hq] at hcs ⊢
      rcases hcs with ⟨h2, h3⟩ | ⟨x, h2, h3, h4⟩
      · have HP := Lib.hid (HIS.out.uniq (h3.perm HPM.out))
        obtain rfl : q = k := h2.trans hul
        have g1 : ((q : Int) == (q : Int)) = true := by simp
        clear h1 hfi hq h2 h3 hul
        go_wp2
        go_ret2
        have := HP.out
        simp only [Prod.mk.injEq] at this
        exact ⟨by rw [this.1, this.2]; rfl, H6.out⟩
      · have HP := Lib.hid (HIS.out.uniq (h4.perm HPM.out))
        have g1 : ((q : Int) == (k : Int)) = false := by simp; omega
        have g2 : (0 : Int) ≤ (q : Int) := by omega
        have g3 : (q : Int) < (k : Int) := by omega
        obtain ⟨g, rfl, hz9, x0⟩ := HU6.out.at_ h2
        clear h1 hfi hq h2 h3 h4 hul hz9
        go_wp2
        go_ret2
        have := HP.out
        simp only [Prod.mk.injEq] at this
        exact ⟨by rw [this.1, this.2]; rfl, H6.out⟩
end Go.Proofs
end
section
namespace Go.Proofs
open Go.RowKit
set_option linter.unusedVariables false
set_option linter.unusedSimpArgs false
set_option maxHeartbeats 1600000 in
set_option maxRecDepth 100000 in
theorem ris_any {w : World} {h : Nat} {S : List Nat} {r : RTab} (hr : RefAt w h S r) (hn : r.L.length ≤ 100) (i q : Int) :
    Calls Tryz.prog 79 #[.pointer (some ⟨h, 0, none⟩), .agg #[.int .i64 i, .int .u64 q]] w fun e w' => e = .returned (.bool (r.is i q)) ∧ Chg [] w w' := by
  have hr0 := hr
  obtain ⟨VL, hB, hL, hSS, hGG⟩ := hr
  have lh := hB.lt
  have a0 := hB.cell 0
  obtain ⟨A, c, rfl, _⟩ := hL.val
  by_cases h0 : i < 0
  · have e : r.is i q = false := by unfold RTab.is RTab.pl?; rw [if_neg (by omega)]
    rw [e]
    have d0 : decide (0 ≤ i) = false := by simp; omega
    clear hB hL e hGG hr0
    go_enter Tryz.func79, Tryz.ntmps79
    go_wp2
    go_quiet (fail)
    go_wp2
    go_ret
    exact ⟨rfl, ((Chg.refl _ _).alloc _).drewN _⟩
  · obtain ⟨k, rfl⟩ := Int.eq_ofNat_of_zero_le (by omega : 0 ≤ i)
    obtain ⟨n, hnn⟩ : ∃ n, n = r.L.length := ⟨_, rfl⟩
    rw [← hnn] at a0 hn
    have d0 : decide (0 ≤ (k : Int)) = true := by simp
    by_cases h1 : k < n
    · obtain ⟨p, hp⟩ : ∃ p, r.L[k]? = some p := ⟨_, List.getElem?_eq_getElem (by omega)⟩
      obtain ⟨gl, cl, hB9, hL9, _, lg, _, _, b0, b1, b2, _, _, _, _, _⟩ := hr0.form hp
      have a09 := hB9.cell 0
      rw [← hnn] at a09
      have hv9 : Value.slice A n c = .slice (some ⟨gl, 0, none⟩) n cl := by have h9 := a0; simp only [List.getElem?_toArray, List.getElem?_cons_zero] at h9 a09; rw [h9] at a09; exact Option.some.inj a09
      simp only [Value.slice.injEq] at hv9
      obtain ⟨rfl, _, rfl⟩ := hv9
      clear hB9 hL9 a09
      have d1 : decide ((k : Int) < (n : Int)) = true := by simp; omega
      have i0 : (0 : Int) ≤ (k : Int) := by omega
      have i1 : (k : Int) < (n : Int) := by omega
      cases ht : p.there with
      | false =>
        have e : r.is (k : Nat) q = false := by unfold RTab.is RTab.pl?; rw [if_pos (by omega)]; simp [hp, ht]
        rw [e]
        rw [ht] at b1
        clear hB hL e hGG hr0 hp hnn h1 ht b0 b2
        go_enter Tryz.func79, Tryz.ntmps79
        go_wp2
        go_quiet (fail)
        go_wp2
        go_ret
        exact ⟨rfl, ((Chg.refl _ _).alloc _).drewN _⟩
      | true =>
        have e : r.is (k : Nat) q = (p.gen == q) := by unfold RTab.is RTab.pl?; rw [if_pos (by omega)]; simp [hp, ht]
        rw [e]
        rw [ht] at b1
        obtain ⟨G, hG⟩ : ∃ G, G = p.gen := ⟨_, rfl⟩
        rw [← hG] at b0 ⊢
        clear hB hL e hGG hr0 hp hnn h1 ht b2 hG
        go_enter Tryz.func79, Tryz.ntmps79
        go_wp2
        go_quiet (fail)
        go_wp2
        go_ret
        exact ⟨rfl, ((Chg.refl _ _).alloc _).drewN _⟩
    · have e : r.is (k : Nat) q = false := by unfold RTab.is RTab.pl?; rw [if_pos (by omega)]; simp only [Int.toNat_natCast]; rw [List.getElem?_eq_none (by omega)]
      rw [e]
      have d1 : decide ((k : Int) < (n : Int)) = false := by simp; omega
      clear hB hL e hGG hr0 hnn
      go_enter Tryz.func79, Tryz.ntmps79
      go_wp2
      go_quiet (fail)
      go_wp2
      go_ret
      exact ⟨rfl, ((Chg.refl _ _).alloc _).drewN _⟩

/-- What there is at a place, in every world in which nothing turned. -/
theorem RefAt.tell {w : World} {h : Nat} {S : List Nat} {r : RTab} (hr : RefAt w h S r) {k : Nat} {p : Pl} (hp : r.L[k]? = some p) :
    ∃ gl cl, S = [h, gl] ∧ h ≠ gl ∧ k < r.L.length ∧ gl < w.heap.size ∧ h < w.heap.size ∧ ∀ W, Chg [] w W →
      W.cell? ⟨h, 0, none⟩ = some (.slice (some ⟨gl, 0, none⟩) r.L.length cl) ∧ W.cell? ⟨h, 1, none⟩ = some (.int .i64 r.times) ∧ W.cell? ⟨h, 2, none⟩ = some (.int .i64 r.most) ∧
      W.cell? ⟨gl, k * 7, none⟩ = some (.int .u64 p.gen) ∧ W.cell? ⟨gl, k * 7 + 1, none⟩ = some (.bool p.there) ∧ W.cell? ⟨gl, k * 7 + 2, none⟩ = some (.int .u64 p.x.b) ∧ W.cell? ⟨gl, k * 7 + 3, none⟩ = some (.int .u64 p.x.p) ∧
      W.cell? ⟨gl, k * 7 + 4, none⟩ = some (.slice p.x.a p.x.m p.x.c) ∧ W.cell? ⟨gl, k * 7 + 5, none⟩ = some (.int .i64 p.x.n) ∧ W.cell? ⟨gl, k * 7 + 6, none⟩ = some (.int .i64 p.freed) ∧ (∀ j, W.frozen? ⟨gl, j, none⟩ = false) ∧ (∀ j, W.frozen? ⟨h, j, none⟩ = false) ∧ h < W.heap.size ∧ gl < W.heap.size := by
  obtain ⟨gl, cl, hB, hL, hS, lg, hk, hne, c0, c1, c2, c3, c4, c5, c6, hf⟩ := hr.form hp
  refine ⟨gl, cl, hS, hne, hk, lg, hB.lt, fun W hc => ?_⟩
  have hB' := hB.chg hc (by simp)
  have e : ∀ o, W.cell? ⟨gl, o, none⟩ = w.cell? ⟨gl, o, none⟩ := fun o => hc.cell (p := ⟨gl, o, none⟩) lg (by simp)
  refine ⟨hB'.cell 0, hB'.cell 1, hB'.cell 2, (e _).trans c0, (e _).trans c1, (e _).trans c2, (e _).trans c3, (e _).trans c4, (e _).trans c5, (e _).trans c6, fun j => (hc.frozen (p := ⟨gl, j, none⟩) lg (by simp)).trans (hf j), hB'.frozen, hB'.lt, Nat.lt_of_lt_of_le lg hc.size⟩
/-- A place is another one now. -/
theorem RTurns.write {w W W2 : World} {h gl cl : Nat} {S : List Nat} {r : RTab} {k : Nat} {p p' : Pl} (hr : RefAt w h S r) (hp : r.L[k]? = some p) (hS : S = [h, gl]) (hv : w.cell? ⟨h, 0, none⟩ = some (.slice (some ⟨gl, 0, none⟩) r.L.length cl)) (hc : Chg [] w W) (h2 : Chg [gl] W W2)
    (hrow : Row W2 54 7 (.slice (some ⟨gl, 0, none⟩) r.L.length cl) r.L.length (plCells (r.L.set k p'))) (hx : Rd W p'.x.v p'.x.l) :
    RTurns h S { r with L := r.L.set k p' } w W2 := by
  obtain ⟨VL, hB, hL, hSS, hG⟩ := hr
  have e0 : VL = .slice (some ⟨gl, 0, none⟩) r.L.length cl := by
    have := hB.cell 0
    simp only [List.getElem?_toArray, List.getElem?_cons_zero] at this
    rw [this] at hv
    exact Option.some.inj hv
  subst e0
  have hne : h ≠ gl := by have := hL.ty hB (by decide); simpa [foot_some] using this
  have hLW := hL.chg hc (fun _ _ h => by cases h)
  have ho : Off W [gl] := Off.row hLW (by decide) |> fun h => by simpa [foot_some] using h
  refine ⟨S, ⟨_, (hB.chg hc (by simp)).chg h2 (by simpa using hne), by simpa using hrow, by rw [hS]; rfl, fun j pj hj => ?_⟩, fun k hk => .inl hk, ?_⟩
  · by_cases e : j = k
    · subst e
      rw [List.getElem?_set_self (List.getElem?_eq_some_iff.1 hp).1] at hj
      cases hj
      exact hx.keep ho h2
    · rw [List.getElem?_set_ne (fun e' => e e'.symm)] at hj
      exact ((hG j pj hj).quiet hc).keep ho h2
  · exact (Chg.any hc).trans h2 (fun k hk => .inl (by rw [hS]; simp at hk; simp [hk]))
def rstaleE (r : RTab) (i q : Int) : Int := if r.is i q then 0 else 11
set_option maxHeartbeats 1600000 in
set_option maxRecDepth 100000 in
theorem rget_any {w : World} {h : Nat} {S : List Nat} {r : RTab} (hr : RefAt w h S r) (hn : r.L.length ≤ 100) (i q : Int) :
    Calls Tryz.prog 41 #[.pointer (some ⟨h, 0, none⟩), .agg #[.int .i64 i, .int .u64 q]] w fun e w' => e = .returned (.tuple #[.agg #[.int .u64 (r.at_ i q).b, .int .u64 (r.at_ i q).p, .slice (r.at_ i q).a (r.at_ i q).m (r.at_ i q).c, .int .i64 (r.at_ i q).n], .int .i64 (rstaleE r i q)]) ∧ Chg [] w w' := by
  have hI := fun W (hW : Chg [] w W) => ris_any (hr.quiet hW) hn i q
  unfold rstaleE
  cases hq : r.is i q with
  | false =>
    rw [hq] at hI
    rw [RTab.at_no hq]
    have HI := Lib.hid hI
    clear hI hr hn hq
    go_enter Tryz.func41, Tryz.ntmps41
    go_wp2_with (go_at_call 79; refine (HI.out _ (((Chg.refl _ _).alloc _).alloc _)).mono ?_; rintro e w1 ⟨rfl, hc⟩; obtain ⟨hz, r0, r1, r2, r3, rf⟩ := cx_facts (w := w.alloc (obRef i q)) (n := w.heap.size + 1) (by simp) (Chg.refl [] _) hc; have HC := Lib.hid ((((Chg.refl [] w).alloc _).alloc _).then hc); clear hc)
    refine bodyPost_ret (v := .tuple #[.agg #[.int .u64 0, .int .u64 0, .slice none 0 0, .int .i64 0], .int .i64 11]) ?_ rfl ⟨rfl, by repeat' (first | with_reducible exact HC.out | with_reducible apply Chg.alloc | with_reducible apply Chg.setCell | (with_reducible refine Or.inr ?_; dsimp only; omega))⟩
    simp [results, Tryz.results41, go_sem, hz, r0, r1, r2, r3]
  | true =>
    rw [hq] at hI
    obtain ⟨k, p, rfl, hp, _⟩ := ris_iff.1 hq
    rw [RTab.at_yes hq hp]
    obtain ⟨gl, cl, _, _, hk, _, _, htell⟩ := hr.tell hp
    have HT := Lib.hid htell
    have HI := Lib.hid hI
    obtain ⟨x, hx⟩ : ∃ x, x = p.x := ⟨_, rfl⟩
    rw [← hx] at HT ⊢
    have i0 : (0 : Int) ≤ (k : Int) := by omega
    have i1 : (k : Int) < (r.L.length : Int) := by omega
    clear hI hr hq hp htell hx
    go_enter Tryz.func41, Tryz.ntmps41
    go_wp2_with (go_at_call 79; refine (HI.out _ (((Chg.refl _ _).alloc _).alloc _)).mono ?_; rintro e w1 ⟨rfl, hc⟩; obtain ⟨hz, r0, r1, r2, r3, rf⟩ := cx_facts (w := w.alloc (obRef (k : Int) q)) (n := w.heap.size + 1) (by simp) (Chg.refl [] _) hc; obtain ⟨_, d0, d1⟩ := ref_facts (w := w) rfl (((Chg.refl [] _).alloc _)) hc; have HC := Lib.hid ((((Chg.refl [] w).alloc _).alloc _).then hc); obtain ⟨a0, a1, a2, b0, b1, b2, b3, b4, b5, b6, fz, fh, lh, lg⟩ := HT.out _ HC.out; clear hc)
    go_still_tail 9, (by kernel_rfl)
    (try change wpStill _ _ (World.drew _) _ _ _)
    (repeat still_step)
    (try refine wpStill_nil ?_)
    (try change wpList _ _ _ _ _ (World.drew _))
    go_wp2
    refine bodyPost_ret (v := .tuple #[.agg #[.int .u64 x.b, .int .u64 x.p, .slice x.a x.m x.c, .int .i64 x.n], .int .i64 0]) ?_ rfl ⟨rfl, by repeat' (first | with_reducible exact HC.out | with_reducible apply Chg.alloc | with_reducible apply Chg.drew | with_reducible apply Chg.setCell | (with_reducible refine Or.inr ?_; dsimp only; omega))⟩
    simp [results, Tryz.results41, go_sem, hz, r0, r1, r2, r3]
end Go.Proofs
end
