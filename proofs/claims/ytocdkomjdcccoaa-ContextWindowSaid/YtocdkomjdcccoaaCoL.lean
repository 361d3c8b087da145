import Derived.Test.YtocdkomjdcccoaaCoK
namespace Go.Proofs
open Go.RowKit
set_option linter.unusedVariables false

/-! ### Good, through what turns -/
theorem Good.thing {w : World} {t : Tab Cx} (h : Good w t) {x : Cx} (hx : Rd w x.v x.l) (i : Nat) : Good w (t.thing i x) := by
  unfold Tab.thing
  cases hs : t.spots[i]? with
  | none => exact h
  | some s =>
    intro k s' hk
    have hi := (List.getElem?_eq_some_iff.1 hs).1
    by_cases e : k = i
    · subst e; simp only at hk; rw [List.getElem?_set_self hi] at hk; cases hk; exact hx
    · simp only at hk; rw [List.getElem?_set_ne (fun e' => e e'.symm)] at hk; exact h k s' hk
theorem Good.put {w : World} {t : Tab Cx} (h : Good w t) (hw : t.WF) (hf : t.frees ≠ 0) {x : Cx} (hx : Rd w x.v x.l) : Good w (t.put cx0 x) := by
  intro k s' hk
  rw [put_spots hw hf] at hk
  by_cases e : k = t.takeAt
  · rw [if_pos e] at hk; cases hk; exact hx
  · rw [if_neg e] at hk; exact h k s' hk
theorem Good.drop {w : World} {t : Tab Cx} (h : Good w t) {i : Nat} (hi : i < t.spots.length) (q : Int) : Good w (t.drop cx0 i q) := by
  intro k s' hk
  rw [drop_spots hi] at hk
  by_cases e : k = i
  · rw [if_pos e] at hk; cases hk; exact Rd.nil w
  · rw [if_neg e] at hk; exact h k s' hk
theorem Tab.WF.thing {t : Tab Cx} (h : t.WF) (i : Nat) (x : Cx) : (t.thing i x).WF := by
  unfold Tab.thing
  cases hs : t.spots[i]? with
  | none => exact h
  | some s => exact h.set hs x
theorem CtxTurns.of {w w' : World} {c g : Nat} {S : List Nat} {t t' : Tab Cx} {most : Int} (hB : Blk w c 52 #[.pointer (some ⟨g, 0, none⟩), .int .i64 most]) (hT : TabAt w g S t) (h : Turns g S t' w w') (hG : Good w t') (hw : t'.WF) :
    CtxTurns c S t' most w w' := by
  obtain ⟨S', h1, h2, h3⟩ := h
  exact ⟨S', ⟨g, hB.chg h3 (hT.not_ctx hB), h1, hG.keep hT.off h3, hw⟩, h2, h3⟩

/-! ### The closures, as they are handed about -/
theorem clo_none {w : World} {c : Nat} {S : List Nat} {t : Tab Cx} {most : Int} (h : CtxAt w c S t most) : Clo w (.func (.func 15) #[ptr c] #[]) false :=
  ⟨15, _, _, rfl, fun W => by kernel_rfl, fun W hW => by rw [Array.append_empty]; exact none_any (h.quiet hW)⟩
theorem clo_full {w : World} {c : Nat} {S : List Nat} {t : Tab Cx} {most : Int} (h : CtxAt w c S t most) : Clo w (.func (.func 18) #[ptr c] #[]) (t.frees == 0) :=
  ⟨18, _, _, rfl, fun W => by kernel_rfl, fun W hW => by rw [Array.append_empty]; exact full_any (h.quiet hW)⟩
section
variable {w : World} {c : Nat} {S : List Nat} {t : Tab Cx} {most : Int}
theorem clo_gone (h : CtxAt w c S t most) {bc br : Nat} {i q : Int} (i0 : -9223372036854775808 ≤ i) (i1 : i ≤ 9223372036854775807) (hb : Blk w bc 25 #[ptr c]) (hr : Blk w br 30 #[.int .i64 i, .int .u64 q]) :
    Clo w (.func (.func 47) #[] #[ptr bc, ptr br]) (!t.has i q) :=
  ⟨47, _, _, rfl, fun W => by kernel_rfl, fun W hW => by rw [Array.empty_append]; exact gone_step (h.quiet hW) i0 i1 (hb.chg hW (by simp)) (hr.chg hW (by simp))⟩
theorem clo_lacks (h : CtxAt w c S t most) {bc br bn ba : Nat} {i q now am : Int} (i0 : -9223372036854775808 ≤ i) (i1 : i ≤ 9223372036854775807) (hk : Ok (t.at_ i q).l) (hn : (t.at_ i q).l.length ≤ 100000)
    (hb : Blk w bc 25 #[ptr c]) (hr : Blk w br 30 #[.int .i64 i, .int .u64 q]) (hbn : Blk w bn 22 #[.int .u64 now]) (hba : Blk w ba 22 #[.int .u64 am]) :
    Clo w (.func (.func 48) #[] #[ptr bc, ptr br, ptr bn, ptr ba]) (lackP (t.at_ i q) am now) :=
  ⟨48, _, _, rfl, fun W => by kernel_rfl, fun W hW => by rw [Array.empty_append]; exact lacks_step (h.quiet hW) i0 i1 hk hn (hb.chg hW (by simp)) (hr.chg hW (by simp)) (hbn.chg hW (by simp)) (hba.chg hW (by simp))⟩
end
theorem clo_make {w : World} {bb bp bn : Nat} {b p now : Int} (hb : Blk w bb 22 #[.int .u64 b]) (hp : Blk w bp 22 #[.int .u64 p]) (hn : Blk w bn 22 #[.int .u64 now]) :
    Clo w (.func (.func 16) #[] #[ptr bb, ptr bp, ptr bn]) (badMake b p now) :=
  ⟨16, _, _, rfl, fun W => by kernel_rfl, fun W hW => by rw [Array.empty_append]; exact make_step (hb.chg hW (by simp)) (hp.chg hW (by simp)) (hn.chg hW (by simp))⟩
theorem clo_split {w : World} {ba bn : Nat} {am now : Int} (hba : Blk w ba 22 #[.int .u64 am]) (hbn : Blk w bn 22 #[.int .u64 now]) :
    Clo w (.func (.func 28) #[] #[ptr ba, ptr bn]) (am == 0 || decide (1152921504606846976 < now)) :=
  ⟨28, _, _, rfl, fun W => by kernel_rfl, fun W hW => by rw [Array.empty_append]; exact split_step (hba.chg hW (by simp)) (hbn.chg hW (by simp))⟩
/-! ### What makes closures -/
abbrev cloGone (n m : Nat) : Value := .func (.func 47) #[] #[ptr n, ptr m]
theorem gone_any {w : World} {c : Nat} {S : List Nat} {t : Tab Cx} {most : Int} (h : CtxAt w c S t most) {i q : Int} (i0 : -9223372036854775808 ≤ i) (i1 : i ≤ 9223372036854775807) :
    Calls Try.prog 27 #[ptr c, .agg #[.int .i64 i, .int .u64 q]] w fun e w' => (∃ n m, e = .returned (.func (.func 47) #[] #[.pointer (some ⟨n, 0, none⟩), .pointer (some ⟨m, 0, none⟩)]) ∧ Clo w' (cloGone n m) (!t.has i q)) ∧ Chg [] w w' := by
  have H := Lib.hid h
  clear h
  go_enter Try.func27, Try.ntmps27
  go_wp2
  go_ret
  have hc : Chg [] w ((w.alloc (.cells #[ptr c] 25)).alloc (.cells #[.int .i64 i, .int .u64 q] 30)) := ((Chg.refl _ _).alloc _).alloc _
  exact ⟨⟨_, _, rfl, clo_gone (H.out.quiet hc) i0 i1 ((Blk.new w 25 _).alloc _) (Blk.at _ 30 _ (by simp))⟩, hc⟩
abbrev cloFour (f n m k l : Nat) : Value := .func (.func f) #[] #[ptr n, ptr m, ptr k, ptr l]
theorem lacks_any {w : World} {c : Nat} {S : List Nat} {t : Tab Cx} {most : Int} (h : CtxAt w c S t most) {i q am now : Int} (i0 : -9223372036854775808 ≤ i) (i1 : i ≤ 9223372036854775807) (hk : Ok (t.at_ i q).l) (hn : (t.at_ i q).l.length ≤ 100000) :
    Calls Try.prog 29 #[ptr c, .agg #[.int .i64 i, .int .u64 q], .int .u64 am, .int .u64 now] w fun e w' => (∃ n m k l, e = .returned (.func (.func 48) #[] #[.pointer (some ⟨n, 0, none⟩), .pointer (some ⟨m, 0, none⟩), .pointer (some ⟨k, 0, none⟩), .pointer (some ⟨l, 0, none⟩)]) ∧ Clo w' (cloFour 48 n m k l) (lackP (t.at_ i q) am now)) ∧ Chg [] w w' := by
  have H := Lib.hid h
  have HK := Lib.hid hk
  have HN := Lib.hid hn
  clear h hk hn
  go_enter Try.func29, Try.ntmps29
  go_wp2
  go_ret
  have hc : Chg [] w ((((w.alloc (.cells #[ptr c] 25)).alloc (.cells #[.int .i64 i, .int .u64 q] 30)).alloc (.cells #[.int .u64 am] 22)).alloc (.cells #[.int .u64 now] 22)) := ((((Chg.refl _ _).alloc _).alloc _).alloc _).alloc _
  exact ⟨⟨_, _, _, _, rfl, clo_lacks (H.out.quiet hc) i0 i1 HK.out HN.out ((((Blk.new w 25 _).alloc _).alloc _).alloc _) (((Blk.at (w.alloc _) 30 _ (by simp)).alloc _).alloc _) (Blk.at _ 22 _ (by simp)) ((Blk.at ((w.alloc _).alloc _) 22 _ (by simp)).alloc _)⟩, hc⟩
end Go.Proofs
