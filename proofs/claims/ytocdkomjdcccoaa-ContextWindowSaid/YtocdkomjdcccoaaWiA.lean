import Derived.Test.YtocdkomjdcccoaaWiP
import Derived.Test.YtocdkomjdcccoaaEaJ
import Derived.Test.YtocdkomjdcccoaaDoU
import Derived.Test.YtocdkomjdcccoaaReXd
namespace Go.Proofs
open Go.RowKit
set_option linter.unusedVariables false
set_option linter.unusedSimpArgs false
theorem put_keeps {t : Tab Cx} (hw : t.WF) (hf : t.frees ≠ 0) (x : Cx) {i q : Int} (hq : t.has i q = true) : (t.put cx0 x).has i q = true ∧ (t.put cx0 x).at_ i q = t.at_ i q := by
  obtain ⟨s, hl, he⟩ := has_iff.1 hq
  obtain ⟨j0, hs, hth⟩ := live_iff.1 hl
  obtain ⟨_, _, _, _, _, _, hlv, _⟩ := hw.take_at (z := cx0) hf
  have hne : i.toNat ≠ t.takeAt := fun e => by
    have : t.live (t.takeAt : Nat) = some s := live_nat.2 ⟨by rw [← e]; exact hs, hth⟩
    rw [hlv] at this
    cases this
  have hl' : (t.put cx0 x).live i = some s := live_iff.2 ⟨j0, by rw [put_spots hw hf, if_neg hne]; exact hs, hth⟩
  exact ⟨has_iff.2 ⟨s, hl', he⟩, by rw [at_yes hl' he, at_yes hl he]⟩
/-- Behind each act: the contexts, what is known of one of them, and the times in memory. -/
def WS (w0 : World) (c : Nat) (B per most : Int) (N k : Nat) (now : Int) (U Um : List Int) (V : Value) (w : World) : Prop :=
  ∃ S t, CtxAt w c S t most ∧ Inv most N t ∧ (∀ k ∈ S, w0.heap.size ≤ k) ∧ Chg [] w0 w ∧ t.has 0 1 = true ∧ t.has 1 1 = true ∧ (t.at_ 0 1).p = per ∧ WInv [(B, 0)] per most k now U (t.at_ 0 1).l ∧ Un w V Um ∧ ∀ k ∈ foot V, w0.heap.size ≤ k
section
variable {w0 w w' : World} {c : Nat} {B per most : Int} {N k : Nat} {now : Int} {U Um : List Int} {V : Value}
theorem WS.chg (H : WS w0 c B per most N k now U Um V w) : Chg [] w0 w := by obtain ⟨S, t, h1, h2, h3, h4, _⟩ := H; exact h4
theorem WS.un (H : WS w0 c B per most N k now U Um V w) : Un w V Um := by obtain ⟨S, t, h1, h2, h3, h4, h5, h6, h7, h8, h9, h10⟩ := H; exact h9
theorem WS.win (H : WS w0 c B per most N k now U Um V w) : ∃ X, WInv [(B, 0)] per most k now U X := by obtain ⟨S, t, h1, h2, h3, h4, h5, h6, h7, h8, h9, h10⟩ := H; exact ⟨_, h8⟩
theorem WS.quiet (H : WS w0 c B per most N k now U Um V w) (hc : Chg [] w w') : WS w0 c B per most N k now U Um V w' := by
  obtain ⟨S, t, h1, h2, h3, h4, h5, h6, h7, h8, h9, h10⟩ := H
  exact ⟨S, t, h1.quiet hc, h2, h3, h4.then hc, h5, h6, h7, h8, h9.quiet hc, h10⟩
theorem WS.more (H : WS w0 c B per most N k now U Um V w) (hN : N + 1 ≤ 1000) : WS w0 c B per most (N + 1) k now U Um V w := by
  obtain ⟨S, t, h1, h2, h3, h4, h5, h6, h7, h8, h9, h10⟩ := H
  exact ⟨S, t, h1, by have := h2.more (by omega); simpa using this, h3, h4, h5, h6, h7, h8, h9, h10⟩
theorem WS.skip (H : WS w0 c B per most N k now U Um V w) {d : Int} (d0 : 0 ≤ d) (d1 : d ≤ 1000) : WS w0 c B per most N (k + 1) (now + d) U Um V w := by
  obtain ⟨S, t, h1, h2, h3, h4, h5, h6, h7, h8, h9, h10⟩ := H
  exact ⟨S, t, h1, h2, h3, h4, h5, h6, h7, h8.skip d0 d1, h9, h10⟩
/-- Boxes of refs and of acts stay. -/
def KeepB (w w' : World) : Prop := ∀ (b : Nat) (ty : TypeId) (cs : Array Value), (ty = 30 ∨ ty = 35) → Blk w b ty cs → Blk w' b ty cs
theorem KeepB.quiet (hc : Chg [] w w') : KeepB w w' := fun b ty cs _ h => h.chg hc (by simp)
/-- The contexts turn: the times in memory stay. -/
theorem WS.turn {S : List Nat} {t t' : Tab Cx} {N' : Nat} {U' : List Int} (hct : CtxAt w c S t most) (hS : ∀ k ∈ S, w0.heap.size ≤ k) (hw : Chg [] w0 w) (hu : Un w V Um) (hV : ∀ k ∈ foot V, w0.heap.size ≤ k) (hT : CtxTurns c S t' most w w')
    (hi : Inv most N' t') (h0 : t'.has 0 1 = true) (h1 : t'.has 1 1 = true) (hp : (t'.at_ 0 1).p = per) (hW : WInv [(B, 0)] per most k now U' (t'.at_ 0 1).l) : WS w0 c B per most N' k now U' Um V w' ∧ KeepB w w' := by
  obtain ⟨g, _, hTab, _, _⟩ := id hct
  obtain ⟨S', q1, q2, q3⟩ := hT
  refine ⟨⟨S', t', q1, hi, fun k hk => (q2 k hk).elim (hS k) (fun h => Nat.le_trans hw.size h), hw.trans q3 (fun k hk => .inr (hS k hk)), h0, h1, hp, hW, Row.chg hu q3 (fun k hk => ?_), hV⟩, fun b ty cs ht h => h.chg q3 (by rcases ht with rfl | rfl <;> exact hTab.not_box h (by decide) (by decide) (by decide))⟩
  obtain ⟨cs, hb⟩ := Row.blk_of hu k hk
  exact hTab.not_box hb (by decide) (by decide) (by decide)
/-- Can, and Charge behind it: both tell the same. -/
theorem WS.charge (H : WS w0 c B per most N k now U Um V w) (hk : k ≤ 200) (hU : U.length + 1 ≤ k) (hper : 1 ≤ per) : ∃ b : Bool,
    Calls Try.prog 7 #[ptr c, .agg #[.int .i64 0, .int .u64 1], .int .u64 now] w (fun e w' => e = .returned (.bool b) ∧ Chg [] w w') ∧
    ∀ W, Chg [] w W → Calls Try.prog 8 #[ptr c, .agg #[.int .i64 0, .int .u64 1], .int .u64 now] W (fun e w' => e = .returned (.bool b) ∧ (b = true → WS w0 c B per most N k now (U ++ [now]) Um V w' ∧ KeepB W w') ∧ (b = false → WS w0 c B per most N k now U Um V w' ∧ KeepB W w')) := by
  obtain ⟨S, t, h1, h2, h3, h4, h5, h6, h7, h8, h9, h10⟩ := id H
  have hx := h2.at_ h5
  have m0 := h2.m0
  have m1 := h2.m1
  have hn0 := h8.now0
  have hn1 := h8.now1
  have hlen := hx.len
  have hp0 := hx.p0
  have hp1 := hx.p1
  have hcan : chB (t.at_ 0 1) now most = canB t 0 1 now := by
    unfold chB canB
    by_cases ht : 1 ≤ thereP (t.at_ 0 1).l now
    · have hc : canP (t.at_ 0 1).l now (t.at_ 0 1).p most := ⟨by unfold holdsP; simp; omega, by omega, by omega, hx.may, ht⟩
      rw [chargeP_yes hc]
      simp; omega
    · rw [chargeP_no (fun hc => ht hc.2.2.2.2)]
      simp; omega
  refine ⟨canB t 0 1 now, Can_any h1 now (by decide) (by decide) hx.ok (by omega), fun W hW => ?_⟩
  refine (Charge_yes (h1.quiet hW) (by decide) (by decide) h5 hx.ok (by omega) ⟨hn0, by omega⟩ ⟨by omega, by omega⟩).mono ?_
  rw [hcan]
  rintro e w' ⟨rfl, hno, hyes⟩
  refine ⟨rfl, fun hb => ?_, fun hb => ?_⟩
  · obtain ⟨A, m, cc, hT⟩ := hyes hb
    have hb' : chB (t.at_ 0 1) now most = true := by rw [hcan]; exact hb
    have hc : canP (t.at_ 0 1).l now (t.at_ 0 1).p most := by
      refine Classical.byContradiction fun hn => ?_
      unfold chB at hb'; rw [chargeP_no hn] at hb'; cases hb'
    have he : chL (t.at_ 0 1) now most = useP (t.at_ 0 1).l now (t.at_ 0 1).p most := by unfold chL; rw [chargeP_yes hc]
    obtain ⟨f1, f2, _⟩ := has_thing h5 ⟨(t.at_ 0 1).b, (t.at_ 0 1).p, A, m, cc, (t.at_ 0 1).n, chL (t.at_ 0 1) now most⟩
    obtain ⟨k, rfl⟩ : ∃ k', k = k' + 1 := ⟨k - 1, by omega⟩
    refine WS.turn (h1.quiet hW) h3 (h4.then hW) (h9.quiet hW) h10 hT (h2.thing _ (hx.charge hn0 hb')) f1 (other_thing h5 h6 (by decide) _).1 (by rw [f2]; exact h7) ?_
    rw [f2]
    show WInv _ _ _ _ _ _ (chL (t.at_ 0 1) now most)
    rw [he, h7]
    exact h8.use (by omega) (by omega) (by rw [← h7]; exact hc)
  · exact WS.turn (h1.quiet hW) h3 (h4.then hW) (h9.quiet hW) h10 (hno hb) h2 h5 h6 h7 h8
/-- One more time is laid by. -/
theorem WS.append {x y : Int} {v v' : Value} (H : WS w0 c B per most N k now U Um v w) (hr : Un w' v' (Um ++ [x])) (hg : (w.alloc (.cells #[.int .u64 y] 22)).grownBy w' v.ownBlock) (hf : ∀ k ∈ foot v', k ∈ foot v ∨ (w.alloc (.cells #[.int .u64 y] 22)).heap.size ≤ k) : WS w0 c B per most N k now U (Um ++ [x]) v' w' ∧ KeepB w w' := by
  obtain ⟨S, t, h1, h2, h3, h4, h5, h6, h7, h8, h9, h10⟩ := H
  obtain ⟨g, hBc, hTab, _, _⟩ := id h1
  have c0 : Chg [] w (w.alloc (.cells #[.int .u64 y] 22)) := (Chg.refl _ _).alloc _
  have hU2 := h9.quiet c0
  have hcg : Chg (foot v) (w.alloc (.cells #[.int .u64 y] 22)) w' := (Chg.refl _ _).grown hg (fun k hk => .inl (row_mem hk))
  have hnS : ∀ k ∈ foot v, k ∉ S := fun k hk => by
    obtain ⟨cs, hb⟩ := Row.blk_of h9 k hk
    exact hTab.not_box hb (by decide) (by decide) (by decide)
  have hnc : c ∉ foot v := Row.ty h9 hBc (by decide)
  refine ⟨⟨S, t, (h1.quiet c0).chg hcg hnc (fun k hk hm => hnS k hm hk) (Off.row hU2 (by decide)), h2, h3, (h4.then c0).trans hcg (fun k hk => .inr (h10 k hk)), h5, h6, h7, h8, hr, fun k hk => ?_⟩, fun b ty cs ht hb => (hb.chg c0 (by simp)).chg hcg (by rcases ht with rfl | rfl <;> exact Row.ty h9 hb (by decide))⟩
  rcases hf k hk with h | h
  · exact h10 k h
  · have := (h4.then c0).size; omega
/-- Another one is charged. -/
theorem WS.other (H : WS w0 c B per most N k now U Um V w) (hk : k ≤ 200) :
    Calls Try.prog 8 #[ptr c, .agg #[.int .i64 1, .int .u64 1], .int .u64 now] w (fun e w' => ∃ b, e = .returned (.bool b) ∧ WS w0 c B per most N k now U Um V w' ∧ KeepB w w') := by
  obtain ⟨S, t, h1, h2, h3, h4, h5, h6, h7, h8, h9, h10⟩ := id H
  have hx := h2.at_ h6
  have m1 := h2.m1
  have hn0 := h8.now0
  have hn1 := h8.now1
  have hlen := hx.len
  have hp0 := hx.p0
  have hp1 := hx.p1
  refine (Charge_yes h1 (by decide) (by decide) h6 hx.ok (by omega) ⟨hn0, by omega⟩ ⟨by omega, by omega⟩).mono ?_
  rintro e w' ⟨rfl, hno, hyes⟩
  refine ⟨_, rfl, ?_⟩
  cases hb : chB (t.at_ 1 1) now most with
  | false => exact WS.turn h1 h3 h4 h9 h10 (hno hb) h2 h5 h6 h7 h8
  | true =>
    obtain ⟨A, m, cc, hT⟩ := hyes hb
    obtain ⟨f1, f2, _⟩ := has_thing h6 ⟨(t.at_ 1 1).b, (t.at_ 1 1).p, A, m, cc, (t.at_ 1 1).n, chL (t.at_ 1 1) now most⟩
    obtain ⟨g1, g2⟩ := other_thing h6 h5 (by decide) ⟨(t.at_ 1 1).b, (t.at_ 1 1).p, A, m, cc, (t.at_ 1 1).n, chL (t.at_ 1 1) now most⟩
    exact WS.turn h1 h3 h4 h9 h10 hT (h2.thing _ (hx.charge hn0 hb)) g1 f1 (by rw [g2]; exact h7) (by rw [g2]; exact h8)
/-- Another one is split. -/
theorem WS.split (H : WS w0 c B per most N k now U Um V w) (hk : k ≤ 200) {am : Int} (ha : U64 am) :
    Calls Try.prog 9 #[ptr c, .agg #[.int .i64 1, .int .u64 1], .int .u64 am, .int .u64 now] w (fun e w' => ∃ v, e = .returned v ∧ WS w0 c B per most N k now U Um V w' ∧ KeepB w w') := by
  obtain ⟨S, t, h1, h2, h3, h4, h5, h6, h7, h8, h9, h10⟩ := id H
  have hx := h2.at_ h6
  have m0 := h2.m0
  have m1 := h2.m1
  have hn0 := h8.now0
  have hn1 := h8.now1
  have hlen := hx.len
  have hb1 := hx.b1
  by_cases he : splitE t 1 1 am now = 0
  · refine (Split_yes h1 (by decide) (by decide) hx.ok (by omega) he ha (by omega)).mono ?_
    rintro e w' ⟨A, m, cc, A2, c2, rfl, hT⟩
    obtain ⟨_, k1, ⟨k2, k3⟩, k4⟩ := splitE_0 he
    have ha0 : 1 ≤ am := by have := ha.1; omega
    obtain ⟨f1, f2, f3, _⟩ := has_thing h6 ⟨(t.at_ 1 1).b - am, (t.at_ 1 1).p, A, m, cc, (t.at_ 1 1).n, (pullP (t.at_ 1 1).l now am).1⟩
    obtain ⟨g1, g2⟩ := other_thing h6 h5 (by decide) ⟨(t.at_ 1 1).b - am, (t.at_ 1 1).p, A, m, cc, (t.at_ 1 1).n, (pullP (t.at_ 1 1).l now am).1⟩
    have hi2 := h2.thing (1 : Int).toNat (hx.pull ha0 k2 k3 (A := A) (m := m) (cc := cc))
    have hfr : (t.thing (1 : Int).toNat ⟨(t.at_ 1 1).b - am, (t.at_ 1 1).p, A, m, cc, (t.at_ 1 1).n, (pullP (t.at_ 1 1).l now am).1⟩).frees ≠ 0 := by rw [f3]; exact k4
    obtain ⟨p1, p2⟩ := put_keeps hi2.wf hfr ⟨am, (t.at_ 1 1).p, A2, 1, c2, 0, [(am, now)]⟩ g1
    obtain ⟨p3, _⟩ := put_keeps hi2.wf hfr ⟨am, (t.at_ 1 1).p, A2, 1, c2, 0, [(am, now)]⟩ f1
    exact ⟨_, rfl, WS.turn h1 h3 h4 h9 h10 hT (hi2.put hfr (XOk.fresh ha0 (by omega) hx.p0 hx.p1 ⟨hn0, by omega⟩ (by omega) (by omega))) p1 p3 (by rw [p2, g2]; exact h7) (by rw [p2, g2]; exact h8)⟩
  · refine (Split_no h1 (by decide) (by decide) hx.ok (by omega) (by simpa using he)).mono ?_
    rintro e w' ⟨rfl, hc⟩
    exact ⟨_, rfl, H.quiet hc, KeepB.quiet hc⟩
/-- One more is bound. -/
theorem WS.bind (H : WS w0 c B per most N k now U Um V w) (hN : N + 1 ≤ 1000) :
    Calls Try.prog 10 #[ptr c, .agg #[.int .i64 0, .int .u64 1]] w (fun e w' => ∃ v, e = .returned v ∧ WS w0 c B per most (N + 1) k now U Um V w' ∧ KeepB w w') := by
  obtain ⟨S, t, h1, h2, h3, h4, h5, h6, h7, h8, h9, h10⟩ := id H
  have hx := h2.at_ h5
  have n0 := hx.n0
  have n1 := hx.n1
  refine (Bind_any h1 (i := 0) (q := 1) (by decide) (by decide) n0 (by omega)).mono ?_
  rintro e w' ⟨rfl, hT⟩
  rw [if_pos h5] at hT
  obtain ⟨f1, f2, _⟩ := has_thing h5 { t.at_ 0 1 with n := (t.at_ 0 1).n + 1 }
  have hi : Inv most ((N + 1 : Nat) : Int) t := by have := h2.more (by omega); simpa using this
  have hx' : XOk most ((N + 1 : Nat) : Int) { t.at_ 0 1 with n := (t.at_ 0 1).n + 1 } := { hx with n0 := by show 0 ≤ (t.at_ 0 1).n + 1; omega, n1 := by show (t.at_ 0 1).n + 1 ≤ _; omega }
  exact ⟨_, rfl, WS.turn h1 h3 h4 h9 h10 hT (hi.thing _ hx') f1 (other_thing h5 h6 (by decide) _).1 (by rw [f2]; exact h7) (by rw [f2]; exact h8)⟩
/-- One more is made. -/
theorem WS.make (H : WS w0 c B per most N k now U Um V w) (hk : k ≤ 200) (b p : Int) :
    Calls Try.prog 6 #[ptr c, .int .u64 b, .int .u64 p, .int .u64 now] w (fun e w' => ∃ v, e = .returned v ∧ WS w0 c B per most N k now U Um V w' ∧ KeepB w w') := by
  obtain ⟨S, t, h1, h2, h3, h4, h5, h6, h7, h8, h9, h10⟩ := id H
  have m0 := h2.m0
  have hn0 := h8.now0
  have hn1 := h8.now1
  by_cases he : makeE t b p now = 0
  · refine (make_yes h1 b p now he).mono ?_
    rintro e w' ⟨A, cc, rfl, hT⟩
    have hbm : badMake b p now = false := by
      cases hh : badMake b p now with
      | false => rfl
      | true => unfold makeE at he; rw [hh] at he; simp at he
    have hf : t.frees ≠ 0 := by
      intro e
      unfold makeE at he
      rw [hbm, e] at he
      simp at he
    obtain ⟨q0, q1, q2, q3, q4⟩ := bad_parts hbm
    obtain ⟨p1, p2⟩ := put_keeps h2.wf hf ⟨b, p, A, 1, cc, 0, [(b, now)]⟩ h5
    obtain ⟨p3, _⟩ := put_keeps h2.wf hf ⟨b, p, A, 1, cc, 0, [(b, now)]⟩ h6
    exact ⟨_, rfl, WS.turn h1 h3 h4 h9 h10 hT (h2.put hf (XOk.fresh q0 q1 q2 q3 ⟨hn0, by omega⟩ (by omega) (by omega))) p1 p3 (by rw [p2]; exact h7) (by rw [p2]; exact h8)⟩
  · refine (make_no h1 b p now (by simpa using he)).mono ?_
    rintro e w' ⟨rfl, hc⟩
    exact ⟨_, rfl, H.quiet hc, KeepB.quiet hc⟩
end
end Go.Proofs
