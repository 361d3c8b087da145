import Derived.Test.YtocdkomjdcccoaaGreatM15
import Derived.Test.YtocdkomjdcccoaaGreatM13
section
namespace Go.Proofs
open Go.RowKit
set_option linter.unusedVariables false
theorem pull_facts {l : List Rf} (hk : Ok l) (hm : mayP l = true) {now am : Int} (h0 : 1 ≤ am) (h1 : am ≤ thereP l now) :
    Ok (pullP l now am).1 ∧ mayP (pullP l now am).1 = true ∧ sumP (pullP l now am).1 = sumP l - am ∧ (pullP l now am).1.length ≤ l.length := by
  obtain ⟨t, r, hd, ht1, hrl, hrt, hrp, hrz, hro, hrs, hrn⟩ := due_parts hk hm (now := now) (by omega)
  have hsl := (mayP_iff.1 hm).1
  have e : (pullP l now am).1 = decP ((thereP l now, t) :: r) am := by
    unfold pullP
    rw [if_neg (by rw [hm]; simp; omega), if_neg (by omega), hd]
  rw [e]
  have hsr := sumP_nonneg hro.tail
  have hU := hro.head
  refine ⟨hro.dec (by omega) h1, ?_, ?_, ?_⟩
  · rw [mayP_iff, sumP_dec]
    refine ⟨by show thereP l now + sumP r - am < _; omega, ?_⟩
    rw [decP_cons]
    split
    · exact fineP_pw.2 ⟨hrp, hrz⟩
    · rename_i hne
      refine fineP_pw.2 ⟨List.pairwise_cons.2 ⟨fun x hx => by have := hrl x hx; show t < x.2; omega, hrp⟩, fun x hx => ?_⟩
      rcases List.mem_cons.1 hx with rfl | hx
      · show thereP l now - am ≠ 0; omega
      · exact hrz x hx
  · rw [sumP_dec]; show thereP l now + sumP r - am = _; omega
  · have := dec_len (thereP l now) t r am; omega
theorem give_facts {l : List Rf} (hk : Ok l) (hm : mayP l = true) {now am most : Int} (hn : U64 now) (h0 : 1 ≤ am) (h1 : sumP l + am < 18446744073709551616) (h2 : 1 ≤ most) (h3 : (l.length : Int) ≤ most) :
    ((giveP l now am most).2 = 0 ∨ (giveP l now am most).2 = 3) ∧ ((giveP l now am most).2 = 0 → Ok (giveP l now am most).1 ∧ mayP (giveP l now am most).1 = true ∧ sumP (giveP l now am most).1 = sumP l + am ∧ ((giveP l now am most).1.length : Int) ≤ most) := by
  have hh : holdsP l most = true := by unfold holdsP; simp; omega
  have hs0 := sumP_nonneg hk
  have e : giveP l now am most = if 1 ≤ thereP l now then (incP (dueL l now) am, 0) else if (l.length : Int) = most then ([], 3) else ((am, now) :: l, 0) := by
    unfold giveP
    rw [if_neg (by rw [hm, hh]; simp; omega), if_neg (by omega)]
  rw [e]
  by_cases ht : 1 ≤ thereP l now
  · obtain ⟨t, r, hd, ht1, hrl, hrt, hrp, hrz, hro, hrs, hrn⟩ := due_parts hk hm ht
    rw [if_pos ht, hd]
    refine ⟨.inl rfl, fun _ => ?_⟩
    show Ok ((thereP l now + am, t) :: r) ∧ _
    have hsr := sumP_nonneg hro.tail
    have hU := hro.head
    refine ⟨Ok.cons ⟨by omega, by omega⟩ hU.2 hro.tail, ?_, ?_, ?_⟩
    · refine mayP_iff.2 ⟨by show thereP l now + am + sumP r < _; omega, fineP_pw.2 ⟨List.pairwise_cons.2 ⟨fun x hx => by have := hrl x hx; show t < x.2; omega, hrp⟩, fun x hx => ?_⟩⟩
      rcases List.mem_cons.1 hx with rfl | hx
      · show thereP l now + am ≠ 0; omega
      · exact hrz x hx
    · show thereP l now + am + sumP r = _; omega
    · show (((thereP l now + am, t) :: r).length : Int) ≤ most
      simp; omega
  · rw [if_neg ht]
    by_cases hf : (l.length : Int) = most
    · rw [if_pos hf]; exact ⟨.inr rfl, fun h => by cases h⟩
    · rw [if_neg hf]
      refine ⟨.inl rfl, fun _ => ?_⟩
      show Ok ((am, now) :: l) ∧ _
      have hfp := (mayP_iff.1 hm).2
      obtain ⟨p1, p2⟩ := fineP_pw.1 hfp
      have hlate : ∀ x ∈ l, now < x.2 := by
        have h0' : dueN l now = 0 := by
          refine Classical.byContradiction (fun e => ht ?_)
          rw [thereP_fine hk hm]
          exact due_sum hk hfp (by omega) (dueN_le l now)
        have := late_rest hfp now
        rw [h0'] at this
        simpa using this
      refine ⟨Ok.cons ⟨by omega, by omega⟩ hn hk, mayP_iff.2 ⟨by show am + sumP l < _; omega, fineP_pw.2 ⟨List.pairwise_cons.2 ⟨fun x hx => hlate x hx, p1⟩, fun x hx => ?_⟩⟩, by show am + sumP l = _; omega, by show (((am, now) :: l).length : Int) ≤ most; simp; omega⟩
      rcases List.mem_cons.1 hx with rfl | hx
      · show am ≠ 0; omega
      · exact p2 x hx
/-- What each context is. -/
structure XOk (most N : Int) (x : Cx) : Prop where
  b0 : 1 ≤ x.b
  b1 : x.b ≤ 4294967296
  p0 : 1 ≤ x.p
  p1 : x.p ≤ 4294967296
  ok : Ok x.l
  may : mayP x.l = true
  sum : sumP x.l = x.b
  len : (x.l.length : Int) ≤ most
  n0 : 0 ≤ x.n
  n1 : x.n ≤ N
theorem XOk.more {most N : Int} {x : Cx} (h : XOk most N x) : XOk most (N + 1) x := { h with n1 := by have := h.n1; omega }
/-- What the table of contexts is, behind N acts. -/
structure Inv (most N : Int) (t : Tab Cx) : Prop where
  wf : t.WF
  size : t.size ≤ 32
  first : t.first = 1
  ret : t.retired = 0
  low : ∀ (k : Nat) (s : Spot Cx), t.spots[k]? = some s → s.gen ≤ N + 1
  xs : ∀ (k : Nat) (s : Spot Cx), t.spots[k]? = some s → s.there = true → XOk most N s.thing
  m0 : 2 ≤ most
  m1 : most ≤ 16
  N0 : 0 ≤ N
  N1 : N ≤ 1000
theorem Inv.Low {most N : Int} {t : Tab Cx} (h : Inv most N t) : Low t := fun k s hs => by have := h.low k s hs; have := h.N1; rw [topG_val]; omega
theorem Inv.new {size most : Int} (h : mayC size most = true) : Inv most 0 ⟨size, 1, [], [], 0⟩ := by
  obtain ⟨a, b, c, d⟩ := mayC_iff.1 h
  exact ⟨Tab.WF.new a (by omega) (by omega) (by rw [topG_val]; omega), b, rfl, rfl, (fun k s hs => by simp at hs), (fun k s hs => by simp at hs), c, d, by omega, by omega⟩
theorem Inv.at_ {most N : Int} {t : Tab Cx} (h : Inv most N t) {i q : Int} (hq : t.has i q = true) : XOk most N (t.at_ i q) := by
  obtain ⟨s, hl, he⟩ := has_iff.1 hq
  obtain ⟨j0, hs, hth⟩ := live_iff.1 hl
  rw [at_yes hl he]
  exact h.xs _ s hs hth
/-- What is known of what a ref names, also where it is stale. -/
theorem Inv.any {most N : Int} {t : Tab Cx} (h : Inv most N t) (i q : Int) : Ok (t.at_ i q).l ∧ (t.at_ i q).l.length ≤ 16 ∧ 0 ≤ (t.at_ i q).b ∧ (t.at_ i q).b ≤ 4294967296 ∧ U64 (t.at_ i q).p ∧ 0 ≤ (t.at_ i q).n ∧ (t.at_ i q).n ≤ N := by
  cases hq : t.has i q with
  | false =>
    rw [at_no hq]
    have := h.N0
    exact ⟨Ok.nil, by show 0 ≤ 16; omega, by show (0 : Int) ≤ 0; omega, by show (0 : Int) ≤ 4294967296; omega, ⟨by show (0 : Int) ≤ 0; omega, by show (0 : Int) < _; omega⟩, by show (0 : Int) ≤ 0; omega, this⟩
  | true =>
    have hx := h.at_ hq
    have := hx.len
    have := h.m1
    exact ⟨hx.ok, by omega, by have := hx.b0; omega, hx.b1, ⟨by have := hx.p0; omega, by have := hx.p1; omega⟩, hx.n0, hx.n1⟩
theorem Inv.gen {most N : Int} {t : Tab Cx} (h : Inv most N t) {i q : Int} (hq : t.has i q = true) : 1 ≤ q ∧ q ≤ N + 1 := by
  obtain ⟨s, hl, rfl⟩ := has_iff.1 hq
  obtain ⟨j0, hs, hth⟩ := live_iff.1 hl
  have := (h.wf.gens _ s hs).1
  have := h.first
  exact ⟨by omega, h.low _ s hs⟩
theorem Inv.more {most N : Int} {t : Tab Cx} (h : Inv most N t) (hN : N + 1 ≤ 1000) : Inv most (N + 1) t :=
  { h with low := fun k s hs => by have := h.low k s hs; omega, xs := fun k s hs hth => (h.xs k s hs hth).more, N0 := by have := h.N0; omega, N1 := hN }
theorem Inv.thing {most N : Int} {t : Tab Cx} (h : Inv most N t) (i : Nat) {x : Cx} (hx : XOk most N x) : Inv most N (t.thing i x) := by
  have hwf := h.wf.thing i x
  unfold Tab.thing at hwf ⊢
  cases hs : t.spots[i]? with
  | none => rw [hs] at hwf; exact h
  | some s =>
    rw [hs] at hwf
    have hi := (List.getElem?_eq_some_iff.1 hs).1
    have key : ∀ (k : Nat) (s' : Spot Cx), (t.spots.set i { s with thing := x })[k]? = some s' → (k = i ∧ s' = { s with thing := x }) ∨ t.spots[k]? = some s' := fun k s' hk => by
      by_cases e : k = i
      · subst e; rw [List.getElem?_set_self hi] at hk; cases hk; exact .inl ⟨rfl, rfl⟩
      · rw [List.getElem?_set_ne (fun e' => e e'.symm)] at hk; exact .inr hk
    refine ⟨hwf, h.size, h.first, h.ret, fun k s' hk => ?_, fun k s' hk hth => ?_, h.m0, h.m1, h.N0, h.N1⟩
    · rcases key k s' hk with ⟨_, rfl⟩ | hk
      · exact h.low i s hs
      · exact h.low k s' hk
    · rcases key k s' hk with ⟨_, rfl⟩ | hk
      · exact hx
      · exact h.xs k s' hk hth
theorem Inv.put {most N : Int} {t : Tab Cx} (h : Inv most N t) (hf : t.frees ≠ 0) {x : Cx} (hx : XOk most N x) : Inv most N (t.put cx0 x) := by
  obtain ⟨p1, p2, p3⟩ := put_same (z := cx0) (t := t) x
  have hgen : t.genAt t.takeAt ≤ N + 1 := by
    obtain ⟨s, hs, hth, hg, hfg, hnf, hlv, hge, hlt⟩ := h.wf.take_at (z := cx0) hf
    unfold Tab.genAt
    cases hk : t.spots[t.takeAt]? with
    | none => simp only; rw [h.first]; have := h.N0; omega
    | some s' => exact h.low _ s' hk
  refine ⟨h.wf.put hf x, by rw [p1]; exact h.size, by rw [p2]; exact h.first, by rw [p3]; exact h.ret, fun k s' hk => ?_, fun k s' hk hth => ?_, h.m0, h.m1, h.N0, h.N1⟩
  · rw [put_spots h.wf hf] at hk
    by_cases e : k = t.takeAt
    · rw [if_pos e] at hk; cases hk; exact hgen
    · rw [if_neg e] at hk; exact h.low k s' hk
  · rw [put_spots h.wf hf] at hk
    by_cases e : k = t.takeAt
    · rw [if_pos e] at hk; cases hk; exact hx
    · rw [if_neg e] at hk; exact h.xs k s' hk hth
theorem Inv.drop {most N : Int} {t : Tab Cx} (h : Inv most N t) (hN : N + 1 ≤ 1000) {i q : Int} (hq : t.has i q = true) : Inv most (N + 1) (t.drop cx0 i.toNat q) := by
  obtain ⟨g0, g1⟩ := h.gen hq
  obtain ⟨s, hl, rfl⟩ := has_iff.1 hq
  obtain ⟨j0, hs, hth⟩ := live_iff.1 hl
  have hi := (List.getElem?_eq_some_iff.1 hs).1
  have hnr : ¬ topG ≤ s.gen + 1 := by rw [topG_val]; omega
  refine ⟨h.wf.drop hs hth, h.size, h.first, by unfold Tab.drop; simp only; rw [if_neg hnr]; exact h.ret, fun k s' hk => ?_, fun k s' hk hth' => ?_, h.m0, h.m1, by have := h.N0; omega, hN⟩
  · rw [drop_spots hi] at hk
    by_cases e : k = i.toNat
    · rw [if_pos e] at hk; cases hk; show s.gen + 1 ≤ N + 1 + 1; omega
    · rw [if_neg e] at hk; have := h.low k s' hk; omega
  · rw [drop_spots hi] at hk
    by_cases e : k = i.toNat
    · rw [if_pos e] at hk; cases hk; cases hth'
    · rw [if_neg e] at hk; exact (h.xs k s' hk hth').more
end Go.Proofs
end
section
namespace Go.Proofs
open Go.RowKit
set_option linter.unusedVariables false

/-! ### The acts, plainly -/
theorem Alike.ch {x y : Cx} (h : Alike x y) (now most : Int) : chB x now most = chB y now most ∧ chL x now most = chL y now most := by
  unfold chB chL; rw [h.l, h.p]; exact ⟨rfl, rfl⟩
theorem Alike.of {x y : Cx} (h : Alike x y) {b p n : Int} {l : List Rf} {A A' : Option Addr} {m m' cc cc' : Nat} : Alike ⟨b, p, A, m, cc, n, l⟩ ⟨b, p, A', m', cc', n, l⟩ := ⟨rfl, rfl, rfl, rfl⟩
section
variable {most N : Int} {t : Tab Cx} {r : RTab}
theorem XOk.fresh {b p now : Int} {A : Option Addr} {m cc : Nat} (hb0 : 1 ≤ b) (hb1 : b ≤ 4294967296) (hp0 : 1 ≤ p) (hp1 : p ≤ 4294967296) (hn : U64 now) (hm : 2 ≤ most) (hN : 0 ≤ N) : XOk most N ⟨b, p, A, m, cc, 0, [(b, now)]⟩ :=
  ⟨hb0, hb1, hp0, hp1, Ok.cons ⟨by omega, by omega⟩ hn Ok.nil, mayP_iff.2 ⟨by show b + 0 < _; omega, fineP_pw.2 ⟨by simp, fun x hx => by simp at hx; subst hx; show b ≠ 0; omega⟩⟩, by show b + 0 = b; omega, by show ((1 : Nat) : Int) ≤ most; omega, Int.le_refl _, hN⟩
theorem XOk.charge {x : Cx} (h : XOk most N x) {now : Int} (h0 : 0 ≤ now) (hc : chB x now most = true) {A : Option Addr} {m cc : Nat} : XOk most N ⟨x.b, x.p, A, m, cc, x.n, chL x now most⟩ := by
  have hcan : canP x.l now x.p most := by
    refine Classical.byContradiction fun hn => ?_
    unfold chB at hc; rw [chargeP_no hn] at hc; cases hc
  have he : chL x now most = useP x.l now x.p most := by unfold chL; rw [chargeP_yes hcan]
  have hp := h.p0
  obtain ⟨f1, f2, f3, f4, _⟩ := use_facts h.ok h0 (by omega) hcan
  rw [he]
  exact ⟨h.b0, h.b1, h.p0, h.p1, f1, f2, by rw [f3]; exact h.sum, f4, h.n0, h.n1⟩
theorem XOk.pull {x : Cx} (h : XOk most N x) {am now : Int} (h0 : 1 ≤ am) (h1 : am ≤ thereP x.l now) (h2 : am < x.b) {A : Option Addr} {m cc : Nat} : XOk most N ⟨x.b - am, x.p, A, m, cc, x.n, (pullP x.l now am).1⟩ := by
  obtain ⟨f1, f2, f3, f4⟩ := pull_facts h.ok h.may h0 h1
  have := h.b1
  have := h.len
  exact ⟨by show 1 ≤ x.b - am; omega, by show x.b - am ≤ _; omega, h.p0, h.p1, f1, f2, by show sumP _ = x.b - am; rw [f3, h.sum], by show ((pullP x.l now am).1.length : Int) ≤ most; omega, h.n0, h.n1⟩
theorem XOk.give {x : Cx} (h : XOk most N x) {am now : Int} (hn : U64 now) (h0 : 1 ≤ am) (h1 : x.b + am ≤ 4294967296) (hm : 2 ≤ most) :
    ((giveP x.l now am most).2 = 0 ∨ (giveP x.l now am most).2 = 3) ∧ ((giveP x.l now am most).2 = 0 → ∀ (A : Option Addr) (m cc : Nat), XOk most N ⟨x.b + am, x.p, A, m, cc, x.n, (giveP x.l now am most).1⟩) := by
  have hs := h.sum
  obtain ⟨g1, g2⟩ := give_facts h.ok h.may hn h0 (by omega) (by omega : 1 ≤ most) h.len
  refine ⟨g1, fun he A m cc => ?_⟩
  obtain ⟨f1, f2, f3, f4⟩ := g2 he
  have := h.b0
  exact ⟨by show 1 ≤ x.b + am; omega, h1, h.p0, h.p1, f1, f2, by show sumP _ = x.b + am; rw [f3, hs], f4, h.n0, h.n1⟩
theorem bad_parts {b p now : Int} (h : badMake b p now = false) : 1 ≤ b ∧ b ≤ 4294967296 ∧ 1 ≤ p ∧ p ≤ 4294967296 ∧ now ≤ 1152921504606846976 := by
  rw [badMake_eq] at h
  simp only [Bool.or_eq_false_iff, decide_eq_false_iff_not] at h
  omega
theorem Tab.thing_low {i : Nat} {x : Cx} (hl : Low t) : Low (t.thing i x) := fun k s' hk => by
  unfold Tab.thing at hk
  cases hs : t.spots[i]? with
  | none => rw [hs] at hk; exact hl k s' hk
  | some s =>
    rw [hs] at hk
    have hk' : (t.spots.set i { s with thing := x })[k]? = some s' := hk
    by_cases e : k = i
    · subst e; rw [List.getElem?_set_self (List.getElem?_eq_some_iff.1 hs).1] at hk'; cases hk'; exact hl _ s hs
    · rw [List.getElem?_set_ne (fun e' => e e'.symm)] at hk'; exact hl k s' hk'
theorem rthing_comm {k j : Nat} (hne : k ≠ j) (x y : Cx) : (r.thing k x).thing j y = (r.thing j y).thing k x := by
  cases hk : r.L[k]? with
  | none =>
    have e1 : r.thing k x = r := by unfold RTab.thing; rw [hk]
    rw [e1]
    cases hj : r.L[j]? with
    | none => have e2 : r.thing j y = r := by unfold RTab.thing; rw [hj]
              rw [e2, e1]
    | some p =>
      rw [rthing_eq hj]
      unfold RTab.thing
      rw [show (r.L.set j { p with x := y })[k]? = none by rw [List.getElem?_set_ne (fun e => hne e.symm)]; exact hk]
  | some p =>
    rw [rthing_eq hk]
    cases hj : r.L[j]? with
    | none =>
      have e2 : r.thing j y = r := by unfold RTab.thing; rw [hj]
      rw [e2, rthing_eq hk]
      unfold RTab.thing
      rw [show (r.L.set k { p with x := x })[j]? = none by rw [List.getElem?_set_ne hne]; exact hj]
    | some p' =>
      rw [rthing_eq hj, rthing_eq (p := p') (show (r.L.set k { p with x := x })[j]? = some p' by rw [List.getElem?_set_ne hne]; exact hj),
        rthing_eq (p := p) (show (r.L.set j { p' with x := y })[k]? = some p by rw [List.getElem?_set_ne (fun e => hne e.symm)]; exact hk)]
      simp only [List.set_comm _ _ hne]
/-- A place's context, and what is put, change places. -/
theorem Sim.put_thing (h : Sim t r) (hw : t.WF) (hl : Low t) {i q : Int} (hq : t.has i q = true) (hf : t.frees ≠ 0) (x y : Cx) : (r.put y).thing i.toNat x = (r.thing i.toNat x).put y := by
  have hpk := h.pick hw hl hf
  obtain ⟨_, _, hfr, htk, hge⟩ := has_thing hq x
  have hpk' := (h.thing hq (Alike.refl x)).pick (hw.thing i.toNat x) (Tab.thing_low hl) (by rw [hfr]; exact hf)
  rw [htk] at hpk'
  have hqr : r.is i q = true := by rw [h.has hw]; exact hq
  obtain ⟨k, p, rfl, hp, hth, _⟩ := ris_iff.1 hqr
  rw [Int.toNat_natCast] at hpk' ⊢
  have hbd := pickR_bd r.L r.L.length
  have hpk2 : pickR r.L r.L.length = (t.takeAt : Nat) := hpk
  have hlt : t.takeAt < r.L.length := by have := hbd.2.1; omega
  have hfree := hbd.2.2 (by omega)
  rw [hpk2, Int.toNat_natCast] at hfree
  obtain ⟨p0, hp0⟩ : ∃ p0, r.L[t.takeAt]? = some p0 := ⟨_, List.getElem?_eq_getElem hlt⟩
  have hne : k ≠ t.takeAt := by
    rintro rfl
    unfold thAt at hfree
    rw [hp] at hfree
    simp only at hfree
    rw [hth] at hfree; cases hfree
  rw [rput_eq hpk hp0 y, rthing_eq hp]
  rw [rthing_eq hp] at hpk'
  rw [rput_eq hpk' (p := p0) (show (r.L.set k { p with x := x })[t.takeAt]? = some p0 by rw [List.getElem?_set_ne hne]; exact hp0) y,
    rthing_eq (p := p) (show (r.L.set t.takeAt { p0 with there := true, x := y })[k]? = some p by rw [List.getElem?_set_ne (fun e => hne e.symm)]; exact hp)]
  simp only [List.set_comm _ _ hne]
/-- The errors are the same. -/
theorem Sim.lack (h : Sim t r) (hw : t.WF) (i q am now : Int) : rpartE (r.at_ i q) am now = if am == 0 || decide (1152921504606846976 < now) then 2 else if lackP (t.at_ i q) am now then 15 else 0 := by
  have ha := h.at_ hw i q
  unfold rpartE lackP
  rw [ha.l, ha.b, Bool.or_comm (decide ((r.at_ i q).b ≤ am))]
theorem Sim.gens (h : Sim t r) (hw : t.WF) {fi fq tq : Int} (hf : t.has fi fq = true) (ht : t.has fi tq = true) : fq = tq := by
  obtain ⟨s, h1, h2⟩ := has_iff.1 hf
  obtain ⟨s', h3, h4⟩ := has_iff.1 ht
  rw [h1] at h3; cases h3
  exact h2.symm.trans h4
end
end Go.Proofs
end
section
namespace Go.Proofs
open Go.RowKit
set_option linter.unusedVariables false

/-! ### All budgets together -/
def valB (t : Tab Cx) (k : Nat) : Int := match t.spots[k]? with | some s => if s.there then s.thing.b else 0 | none => 0
def sumUp (f : Nat → Int) : Nat → Int
  | 0 => 0
  | n + 1 => sumUp f n + f n
theorem sumUp_same {f g : Nat → Int} : ∀ n, (∀ k, k < n → g k = f k) → sumUp g n = sumUp f n
  | 0, _ => rfl
  | n + 1, h => by unfold sumUp; rw [sumUp_same n (fun k hk => h k (by omega)), h n (by omega)]
theorem sumUp_one {f g : Nat → Int} {j : Nat} : ∀ n, j < n → (∀ k, k ≠ j → g k = f k) → sumUp g n = sumUp f n - f j + g j
  | 0, hj, _ => by omega
  | n + 1, hj, h => by
    unfold sumUp
    by_cases e : j = n
    · subst e
      rw [sumUp_same j (fun k hk => h k (by omega))]; omega
    · rw [sumUp_one n (by omega) h, h n (fun h => e h.symm)]; omega
/-- All budgets together. -/
def totP (t : Tab Cx) : Int := sumUp (valB t) t.size.toNat
section
variable {most N : Int} {t : Tab Cx}
theorem tot_thing (hw : t.WF) {i q : Int} (hq : t.has i q = true) (x : Cx) : totP (t.thing i.toNat x) = totP t - (t.at_ i q).b + x.b := by
  obtain ⟨s, hl, he⟩ := has_iff.1 hq
  obtain ⟨j0, hs, hth⟩ := live_iff.1 hl
  have hi := (List.getElem?_eq_some_iff.1 hs).1
  have hwl := hw.len
  have e : t.thing i.toNat x = { t with spots := t.spots.set i.toNat { s with thing := x } } := by unfold Tab.thing; rw [hs]
  rw [e, at_yes hl he]
  unfold totP
  show sumUp _ t.size.toNat = _
  rw [sumUp_one (f := valB t) (j := i.toNat) _ (by omega) (fun k hk => by
    unfold valB
    show (match (t.spots.set i.toNat { s with thing := x })[k]? with | some s => if s.there then s.thing.b else 0 | none => 0) = _
    rw [List.getElem?_set_ne (fun e => hk e.symm)])]
  have e1 : valB t i.toNat = s.thing.b := by unfold valB; rw [hs]; simp [hth]
  have e2 : valB { t with spots := t.spots.set i.toNat { s with thing := x } } i.toNat = x.b := by
    unfold valB
    show (match (t.spots.set i.toNat { s with thing := x })[i.toNat]? with | some s => if s.there then s.thing.b else 0 | none => 0) = _
    rw [List.getElem?_set_self hi]; simp [hth]
  rw [e1, e2]
theorem tot_put (hw : t.WF) (hf : t.frees ≠ 0) (x : Cx) : totP (t.put cx0 x) = totP t + x.b := by
  obtain ⟨p1, p2, p3⟩ := put_same (z := cx0) (t := t) x
  obtain ⟨s, hs, hth, hg, hfg, hnf, hlv, hge, hlt⟩ := hw.take_at (z := cx0) hf
  have key := put_spots (z := cx0) hw hf x
  unfold totP
  rw [p1, sumUp_one (f := valB t) (j := t.takeAt) _ (by omega) (fun k hk => by unfold valB; rw [key, if_neg hk])]
  have e2 : valB (t.put cx0 x) t.takeAt = x.b := by unfold valB; rw [key, if_pos rfl]; simp
  have e1 : valB t t.takeAt = 0 := by
    unfold valB
    cases hk : t.spots[t.takeAt]? with
    | none => rfl
    | some s' =>
      have : s'.there = false := by
        cases hh : s'.there with
        | false => rfl
        | true => exact absurd (live_nat.2 ⟨hk, hh⟩) (by rw [hlv]; simp)
      simp [this]
  rw [e1, e2]; omega
end
/-! ### Both in memory -/
theorem Row.blk_of {w : World} {e : TypeId} {size n : Nat} {v : Value} {xs : List Value} (h : Row w e size v n xs) : ∀ k ∈ foot v, ∃ cs, Blk w k e cs := fun j hj => by
  rcases h.2 with ⟨rfl, _⟩ | ⟨g, cap, cur, rfl, hg, _⟩
  · cases hj
  · simp [foot_some] at hj; subst hj; exact ⟨_, hg⟩
structure Pair (w : World) (c : Nat) (S : List Nat) (h : Nat) (SR : List Nat) (t : Tab Cx) (r : RTab) (most N : Int) : Prop where
  ct : CtxAt w c S t most
  rf : RefAt w h SR r
  sim : Sim t r
  rm : r.most = most
  rt : r.times ≤ N
  inv : Inv most N t
theorem apart_tabs {w : World} {c h : Nat} {S SR : List Nat} {t : Tab Cx} {r : RTab} {most : Int} (hc : CtxAt w c S t most) (hr : RefAt w h SR r) : c ∉ SR ∧ ∀ k ∈ S, k ∉ SR := by
  obtain ⟨g, hB, ⟨VS, VF, hB', hS, hF, rfl⟩, hG, hW⟩ := hc
  refine ⟨hr.not_box hB (by decide) (by decide), fun k hk => ?_⟩
  rcases List.mem_cons.1 hk with rfl | hk
  · exact hr.not_box hB' (by decide) (by decide)
  · rcases List.mem_append.1 hk with hk | hk
    · obtain ⟨cs, hb⟩ := Row.blk_of hS k hk
      exact hr.not_box hb (by decide) (by decide)
    · obtain ⟨cs, hb⟩ := Row.blk_of hF k hk
      exact hr.not_box hb (by decide) (by decide)
def PTurns (K : Bool) (c : Nat) (S : List Nat) (h : Nat) (SR : List Nat) (t : Tab Cx) (most N : Int) (w w' : World) : Prop :=
  ∃ S' SR' t' r', Pair w' c S' h SR' t' r' most (N + 1) ∧ (∀ k ∈ S', k ∈ S ∨ w.heap.size ≤ k) ∧ (∀ k ∈ SR', k ∈ SR ∨ w.heap.size ≤ k) ∧ Chg (S ++ SR) w w' ∧ (K = true → totP t' = totP t)
section
variable {w W w2 : World} {c h : Nat} {S SR : List Nat} {t t' : Tab Cx} {r r' : RTab} {most N : Int} {K : Bool}
theorem Pair.ref_at (P : Pair w c S h SR t r most N) (hT : CtxTurns c S t' most w W) : RefAt W h SR r := by
  obtain ⟨S1, h1, h2, h3⟩ := hT
  exact P.rf.chg h3 (fun k hk hS => (apart_tabs P.ct P.rf).2 k hS hk) P.ct.off
theorem Pair.turn (P : Pair w c S h SR t r most N) (hT : CtxTurns c S t' most w W) (hR : RTurns h SR r' W w2) (hs : Sim t' r') (hm : r'.most = most) (ht : r'.times ≤ N + 1) (hi : Inv most (N + 1) t') (hk : K = true → totP t' = totP t) : PTurns K c S h SR t most N w w2 ∧ Chg SR W w2 := by
  have hrW := P.ref_at hT
  obtain ⟨S1, h1, h2, h3⟩ := hT
  obtain ⟨SR1, k1, k2, k3⟩ := hR
  obtain ⟨a1, a2⟩ := apart_tabs h1 hrW
  refine ⟨⟨S1, SR1, t', r', ⟨h1.chg k3 a1 a2 hrW.off, k1, hs, hm, ht, hi⟩, h2, fun k hk => (k2 k hk).imp id (fun h => Nat.le_trans h3.size h), ?_, hk⟩, k3⟩
  exact (h3.mono (S' := S ++ SR) (fun k hk => .inl (List.mem_append.2 (.inl hk)))).trans k3 (fun k hk => .inl (List.mem_append.2 (.inr hk)))
theorem Pair.stay (P : Pair w c S h SR t r most N) (hN : N + 1 ≤ 1000) (hT : CtxTurns c S t most w W) (hR : RTurns h SR r W w2) : PTurns K c S h SR t most N w w2 ∧ Chg SR W w2 :=
  P.turn hT hR P.sim P.rm (by have := P.rt; omega) (P.inv.more hN) (fun _ => rfl)
theorem Pair.len (P : Pair w c S h SR t r most N) : 0 < r.L.length ∧ r.L.length ≤ 100 := by
  have := P.sim.len
  have := P.inv.size
  have := P.ct.wf.s0
  omega
end
end Go.Proofs
end
section
namespace Go.Proofs
open Go.RowKit
set_option linter.unusedVariables false

/-! ### The acts, on both -/
/-- The answer of what makes a context. -/
abbrev refAns (i q E : Int) : Ending := .returned (.tuple #[.agg #[.int .i64 i, .int .u64 q], .int .i64 E])
/-- The one has acted: the other one then answers the same, and both are again a pair. -/
def Half (f : Nat) (args : Array Value) (a : Ending) (K : Bool) (c : Nat) (S : List Nat) (h : Nat) (SR : List Nat) (t : Tab Cx) (most N : Int) (w w1 : World) : Prop :=
  ∃ t', CtxTurns c S t' most w w1 ∧ ∀ W, CtxTurns c S t' most w W → Calls Tryz.prog f args W fun e w2 => e = a ∧ PTurns K c S h SR t most N w w2 ∧ Chg SR W w2
theorem CtxTurns.chg {c : Nat} {S : List Nat} {t : Tab Cx} {most : Int} {w w1 : World} (h : CtxTurns c S t most w w1) : Chg S w w1 := h.choose_spec.2.2
theorem Half.chg {f : Nat} {args : Array Value} {a : Ending} {K : Bool} {c : Nat} {S : List Nat} {h : Nat} {SR : List Nat} {t : Tab Cx} {most N : Int} {w w1 : World} (H : Half f args a K c S h SR t most N w w1) : Chg S w w1 := H.choose_spec.1.chg
theorem Half.call {f : Nat} {args : Array Value} {a : Ending} {K : Bool} {c : Nat} {S : List Nat} {h : Nat} {SR : List Nat} {t : Tab Cx} {most N : Int} {w w1 : World} (H : Half f args a K c S h SR t most N w w1) {W : World} (hc : Chg [] w1 W) : Calls Tryz.prog f args W fun e w2 => e = a ∧ PTurns K c S h SR t most N w w2 ∧ Chg SR W w2 :=
  H.choose_spec.2 W (H.choose_spec.1.later hc)
theorem Half.box {f : Nat} {args : Array Value} {a : Ending} {K : Bool} {c : Nat} {S : List Nat} {h : Nat} {SR : List Nat} {t : Tab Cx} {most N : Int} {w w1 w2 : World} (H : Half f args a K c S h SR t most N w w1) {b : Nat} {cs : Array Value} (hB : Blk w1 b 34 cs) (hb : w.heap.size ≤ b) (hc : Chg [b] w1 w2) : Half f args a K c S h SR t most N w w2 := by
  obtain ⟨t', h1, h2⟩ := H
  exact ⟨t', h1.box hB hb hc, h2⟩
theorem Half.later {f : Nat} {args : Array Value} {a : Ending} {K : Bool} {c : Nat} {S : List Nat} {h : Nat} {SR : List Nat} {t : Tab Cx} {most N : Int} {w w1 w2 : World} (H : Half f args a K c S h SR t most N w w1) (hc : Chg [] w1 w2) : Half f args a K c S h SR t most N w w2 := by
  obtain ⟨t', h1, h2⟩ := H
  exact ⟨t', h1.later hc, h2⟩
section
variable {w : World} {c h : Nat} {S SR : List Nat} {t : Tab Cx} {r : RTab} {most N : Int}
theorem pair_make (P : Pair w c S h SR t r most N) (hN : N + 1 ≤ 1000) (b p : Int) {now : Int} (hnow : U64 now) :
    Calls Tryz.prog 17 #[ptr c, .int .u64 b, .int .u64 p, .int .u64 now] w fun e w1 => ∃ i q E, e = refAns i q E ∧ Half 34 #[ptr h, .int .u64 b, .int .u64 p, .int .u64 now] (refAns i q E) false c S h SR t most N w w1 := by
  have hw := P.ct.wf
  have hl := P.inv.Low
  obtain ⟨l0, l1⟩ := P.len
  by_cases he : makeE t b p now = 0
  · refine (make_yes P.ct b p now he).mono ?_
    rintro e w1 ⟨A, cc, rfl, hT⟩
    have hbad : badMake b p now = false := by
      cases hb : badMake b p now with
      | false => rfl
      | true => unfold makeE at he; rw [hb] at he; simp at he
    have hf : t.frees ≠ 0 := fun e => by unfold makeE at he; rw [hbad, e] at he; simp at he
    have hpk := P.sim.pick hw hl hf
    have hge := P.sim.gen_at hw hf
    obtain ⟨b0, b1, p0, p1, n1⟩ := bad_parts hbad
    refine ⟨_, _, _, rfl, _, hT, fun W hTW => ?_⟩
    refine (rmake_put (P.ref_at hTW) l0 l1 b p now hbad (by rw [hpk]; omega)).mono ?_
    rintro e w2 ⟨rfl, A', m', cc', hR⟩
    refine ⟨by rw [hpk, Int.toNat_natCast, hge], P.turn hTW hR (P.sim.put hw hl hf ⟨rfl, rfl, rfl, rfl⟩) ?_ ?_ ((P.inv.more hN).put hf (XOk.fresh b0 b1 p0 p1 hnow P.inv.m0 (by have := P.inv.N0; omega))) (fun h => by cases h)⟩
    · unfold RTab.put; split <;> exact P.rm
    · have := P.rt; unfold RTab.put; split <;> (show r.times ≤ _; omega)
  · refine (make_no P.ct b p now (by simpa using he)).mono ?_
    rintro e w1 ⟨rfl, hc⟩
    refine ⟨_, _, _, rfl, t, CtxTurns.refl P.ct hc, fun W hTW => ?_⟩
    have hr := P.ref_at hTW
    cases hb : badMake b p now with
    | true =>
      refine (rmake_bad b p now hb).mono ?_
      rintro e w2 ⟨rfl, hc2⟩
      exact ⟨by unfold makeE; rw [hb]; rfl, P.stay hN hTW (RTurns.refl hr hc2)⟩
    | false =>
      have hf : t.frees = 0 := Classical.byContradiction fun e => he (by unfold makeE; rw [hb]; simp [e])
      refine (rmake_full hr l0 l1 b p now hb ((P.sim.full_iff hw hl).2 hf)).mono ?_
      rintro e w2 ⟨rfl, hc2⟩
      exact ⟨by unfold makeE; rw [hb, hf]; rfl, P.stay hN hTW (RTurns.refl hr hc2)⟩
theorem thing_same {k : Nat} {x : Cx} : (r.thing k x).most = r.most ∧ (r.thing k x).times = r.times := by
  unfold RTab.thing; split <;> exact ⟨rfl, rfl⟩
theorem Pair.turn_thing {W w2 : World} {K : Bool} (P : Pair w c S h SR t r most N) (hN : N + 1 ≤ 1000) {i q : Int} (hq : t.has i q = true) {x y : Cx} (hxy : Alike x y) (hx : XOk most (N + 1) x) (hb : K = true → x.b = (t.at_ i q).b)
    (hT : CtxTurns c S (t.thing i.toNat x) most w W) (hR : RTurns h SR (r.thing i.toNat y) W w2) : PTurns K c S h SR t most N w w2 ∧ Chg SR W w2 :=
  P.turn hT hR (P.sim.thing hq hxy) (by rw [thing_same.1]; exact P.rm) (by rw [thing_same.2]; have := P.rt; omega) ((P.inv.more hN).thing i.toNat hx) (fun hK => by rw [tot_thing P.ct.wf hq, hb hK]; omega)
theorem XOk.bound {x : Cx} {M : Int} (hx : XOk most N x) {n : Int} (n0 : 0 ≤ n) (n1 : n ≤ M) : XOk most M { x with n := n } := ⟨hx.b0, hx.b1, hx.p0, hx.p1, hx.ok, hx.may, hx.sum, hx.len, n0, n1⟩
theorem pair_bind (P : Pair w c S h SR t r most N) (hN : N + 1 ≤ 1000) {i q : Int} (i0 : -9223372036854775808 ≤ i) (i1 : i ≤ 9223372036854775807) :
    Calls Tryz.prog 27 #[ptr c, .agg #[.int .i64 i, .int .u64 q]] w fun e w1 => ∃ E, e = .returned (.int .i64 E) ∧ Half 35 #[ptr h, .agg #[.int .i64 i, .int .u64 q], .int .i64 1] (.returned (.int .i64 E)) true c S h SR t most N w w1 := by
  have hw := P.ct.wf
  obtain ⟨l0, l1⟩ := P.len
  obtain ⟨k1, k2, k3, k4, k5, k6, k7⟩ := P.inv.any i q
  have hn1 := P.inv.N1
  have ha := P.sim.at_ hw i q
  refine (Bind_any P.ct i0 i1 k6 (by omega)).mono ?_
  rintro e w1 ⟨rfl, hT⟩
  refine ⟨_, rfl, _, hT, fun W hTW => ?_⟩
  have hr := P.ref_at hTW
  have hsn := ha.n
  refine (rbind_any hr l1 i q 1 (by omega) (by omega)).mono ?_
  rintro e w2 ⟨rfl, hR⟩
  have hE : rbindE r i q 1 = bindE t i q := by
    unfold rbindE bindE
    rw [P.sim.has hw, ← hsn]
    rw [if_neg (by omega : ¬ (t.at_ i q).n + 1 < 0)]
  refine ⟨by rw [hE], ?_⟩
  rw [hE] at hR
  cases hq : t.has i q with
  | false =>
    have e1 : bindE t i q = 11 := by unfold bindE; rw [hq]; rfl
    rw [e1, if_neg (by omega)] at hR
    rw [hq] at hTW
    exact P.stay hN hTW hR
  | true =>
    have e1 : bindE t i q = 0 := by unfold bindE; rw [hq]; rfl
    rw [e1, if_pos rfl] at hR
    rw [hq] at hTW
    have hx := P.inv.at_ hq
    exact P.turn_thing hN hq (x := { t.at_ i q with n := (t.at_ i q).n + 1 }) (y := { r.at_ i q with n := (r.at_ i q).n + 1 }) ⟨ha.b, ha.p, by show (t.at_ i q).n + 1 = (r.at_ i q).n + 1; rw [hsn], ha.l⟩ (hx.bound (by omega) (by omega)) (fun _ => rfl) hTW hR
theorem pair_unbind (P : Pair w c S h SR t r most N) (hN : N + 1 ≤ 1000) {i q : Int} (i0 : -9223372036854775808 ≤ i) (i1 : i ≤ 9223372036854775807) :
    Calls Tryz.prog 28 #[ptr c, .agg #[.int .i64 i, .int .u64 q]] w fun e w1 => ∃ E, e = .returned (.int .i64 E) ∧ Half 35 #[ptr h, .agg #[.int .i64 i, .int .u64 q], .int .i64 (-1)] (.returned (.int .i64 E)) true c S h SR t most N w w1 := by
  have hw := P.ct.wf
  obtain ⟨l0, l1⟩ := P.len
  obtain ⟨k1, k2, k3, k4, k5, k6, k7⟩ := P.inv.any i q
  have hn1 := P.inv.N1
  have ha := P.sim.at_ hw i q
  have hsn := ha.n
  have hE : rbindE r i q (-1) = unbindE t i q := by
    unfold rbindE unbindE
    rw [P.sim.has hw, ← hsn]
    by_cases h0 : (t.at_ i q).n = 0
    · rw [h0]; rfl
    · rw [if_neg (by omega : ¬ (t.at_ i q).n + -1 < 0), if_neg (by simpa using h0 : ¬ ((t.at_ i q).n == 0) = true)]
  by_cases he : unbindE t i q = 0
  · refine (Unbind_yes P.ct i0 i1 he k6 (by omega)).mono ?_
    rintro e w1 ⟨rfl, hT⟩
    refine ⟨_, rfl, _, hT, fun W hTW => ?_⟩
    refine (rbind_any (P.ref_at hTW) l1 i q (-1) (by omega) (by omega)).mono ?_
    rintro e w2 ⟨rfl, hR⟩
    rw [hE, he, if_pos rfl] at hR
    refine ⟨by rw [hE, he], ?_⟩
    have hq : t.has i q = true := by
      unfold unbindE at he
      cases hh : t.has i q with
      | true => rfl
      | false => rw [hh] at he; simp at he
    have h0 : (t.at_ i q).n ≠ 0 := by
      intro e0
      unfold unbindE at he
      rw [hq, e0] at he; simp at he
    have hx := P.inv.at_ hq
    exact P.turn_thing hN hq (x := { t.at_ i q with n := (t.at_ i q).n + -1 }) (y := { r.at_ i q with n := (r.at_ i q).n + -1 }) ⟨ha.b, ha.p, by show (t.at_ i q).n + -1 = (r.at_ i q).n + -1; rw [hsn], ha.l⟩ (hx.bound (by omega) (by omega)) (fun _ => rfl) hTW hR
  · refine (Unbind_no P.ct i0 i1 (by simpa using he)).mono ?_
    rintro e w1 ⟨rfl, hc⟩
    refine ⟨_, rfl, t, CtxTurns.refl P.ct hc, fun W hTW => ?_⟩
    refine (rbind_any (P.ref_at hTW) l1 i q (-1) (by omega) (by omega)).mono ?_
    rintro e w2 ⟨rfl, hR⟩
    rw [hE, if_neg he] at hR
    exact ⟨by rw [hE], P.stay hN hTW hR⟩
theorem pair_charge (P : Pair w c S h SR t r most N) (hN : N + 1 ≤ 1000) {i q now : Int} (i0 : -9223372036854775808 ≤ i) (i1 : i ≤ 9223372036854775807) (hnow : U64 now) :
    Calls Tryz.prog 31 #[ptr c, .agg #[.int .i64 i, .int .u64 q], .int .u64 now] w fun e w1 => ∃ B, e = .returned (.bool B) ∧ Half 37 #[ptr h, .agg #[.int .i64 i, .int .u64 q], .int .u64 now] (.returned (.bool B)) true c S h SR t most N w w1 := by
  have hw := P.ct.wf
  obtain ⟨l0, l1⟩ := P.len
  obtain ⟨k1, k2, k3, k4, k5, k6, k7⟩ := P.inv.any i q
  have ha := P.sim.at_ hw i q
  cases hq : t.has i q with
  | false =>
    refine (Charge_no P.ct now i0 i1 hq).mono ?_
    rintro e w1 ⟨rfl, hc⟩
    refine ⟨_, rfl, t, CtxTurns.refl P.ct hc, fun W hTW => ?_⟩
    have hr := P.ref_at hTW
    refine (rcharge_no hr l1 now (by rw [P.sim.has hw]; exact hq)).mono ?_
    rintro e w2 ⟨rfl, hc2⟩
    exact ⟨rfl, P.stay hN hTW (RTurns.refl hr hc2)⟩
  | true =>
    refine (Charge_yes P.ct i0 i1 hq k1 (by omega) hnow k5).mono ?_
    rintro e w1 ⟨rfl, hO⟩
    have hx := P.inv.at_ hq
    have hqr : r.is i q = true := by rw [P.sim.has hw]; exact hq
    have hrm := P.rm
    have hB := (ha.ch now most).1
    have hL := (ha.ch now most).2
    have hrc := fun W (hr : RefAt W h SR r) => rcharge_yes hr l1 (now := now) hqr (by rw [← ha.l]; exact k1) (by rw [← ha.l]; omega) hnow (by rw [← ha.p]; exact k5)
    rw [hrm] at hrc
    cases hb : chB (t.at_ i q) now most with
    | false =>
      rw [hb] at hO hB
      refine ⟨_, rfl, t, hO.1 rfl, fun W hTW => ?_⟩
      have hr := P.ref_at hTW
      refine (hrc W hr).mono ?_
      rintro e w2 ⟨rfl, hO2⟩
      rw [← hB] at hO2
      exact ⟨by rw [← hB], P.stay hN hTW (hO2.1 rfl)⟩
    | true =>
      rw [hb] at hO hB
      obtain ⟨A, m, cc, hT⟩ := hO.2 rfl
      refine ⟨_, rfl, _, hT, fun W hTW => ?_⟩
      have hr := P.ref_at hTW
      refine (hrc W hr).mono ?_
      rintro e w2 ⟨rfl, hO2⟩
      rw [← hB] at hO2
      obtain ⟨A', m', cc', hR⟩ := hO2.2 rfl
      exact ⟨by rw [← hB], P.turn_thing hN hq (x := ⟨(t.at_ i q).b, (t.at_ i q).p, A, m, cc, (t.at_ i q).n, chL (t.at_ i q) now most⟩) (y := ⟨(r.at_ i q).b, (r.at_ i q).p, A', m', cc', (r.at_ i q).n, chL (r.at_ i q) now most⟩) ⟨ha.b, ha.p, ha.n, hL⟩ (hx.charge hnow.1 hb).more (fun _ => rfl) hTW hR⟩
end
end Go.Proofs
end
section
namespace Go.Proofs
open Go.RowKit
set_option linter.unusedVariables false

section
variable {w : World} {c h : Nat} {S SR : List Nat} {t : Tab Cx} {r : RTab} {most N : Int}
theorem rdrop_no (hr : RefAt w h SR r) (hn : r.L.length ≤ 100) (i q : Int) (hq : r.is i q = false) :
    Calls Tryz.prog 40 #[.pointer (some ⟨h, 0, none⟩), .agg #[.int .i64 i, .int .u64 q]] w fun e w' => e = .returned (.int .i64 11) ∧ Chg [] w w' := by
  have hI := fun W (hW : Chg [] w W) => ris_any (hr.quiet hW) hn i q
  rw [hq] at hI
  have HI := Lib.hid hI
  clear hI hr hn hq
  go_enter Tryz.func40, Tryz.ntmps40
  go_wp2_with (go_at_call 79; refine (HI.out _ (((Chg.refl _ _).alloc _))).mono ?_; rintro e w1 ⟨rfl, hc⟩; have HC := Lib.hid ((((Chg.refl [] w).alloc _)).then hc); clear hc)
  go_ret
  exact ⟨rfl, HC.out⟩
theorem pair_drop (P : Pair w c S h SR t r most N) (hN : N + 1 ≤ 1000) {i q : Int} (i0 : -9223372036854775808 ≤ i) (i1 : i ≤ 9223372036854775807) :
    Calls Tryz.prog 18 #[ptr c, .agg #[.int .i64 i, .int .u64 q]] w fun e w1 => ∃ E, e = .returned (.int .i64 E) ∧ Half 40 #[ptr h, .agg #[.int .i64 i, .int .u64 q]] (.returned (.int .i64 E)) false c S h SR t most N w w1 := by
  have hw := P.ct.wf
  obtain ⟨l0, l1⟩ := P.len
  have ha := P.sim.at_ hw i q
  have hsn := ha.n
  have ht0 := P.sim.t0
  have hrt := P.rt
  cases hq : t.has i q with
  | false =>
    have hE : dropE t i q = 11 := by unfold dropE; rw [hq]; rfl
    refine (Drop_no P.ct i0 i1 (by rw [hE]; rfl)).mono ?_
    rintro e w1 ⟨rfl, hc⟩
    refine ⟨_, rfl, t, CtxTurns.refl P.ct hc, fun W hTW => ?_⟩
    have hr := P.ref_at hTW
    refine (rdrop_no hr l1 i q (by rw [P.sim.has hw]; exact hq)).mono ?_
    rintro e w2 ⟨rfl, hc2⟩
    exact ⟨by rw [hE], P.stay hN hTW (RTurns.refl hr hc2)⟩
  | true =>
    obtain ⟨g0, g1⟩ := P.inv.gen hq
    have hqr : r.is i q = true := by rw [P.sim.has hw]; exact hq
    have hE : rdropE r i q = dropE t i q := by
      unfold rdropE dropE
      rw [hqr, hq, ← hsn]
      simp
    have hrd := fun W (hr : RefAt W h SR r) => rdrop_any hr l1 i q ht0 (by omega) (by omega) (by omega)
    rw [hE] at hrd
    by_cases he : dropE t i q = 0
    · have hlt : q + 1 < topG := by rw [topG_val]; omega
      refine (Drop_yes P.ct i0 i1 he hlt).mono ?_
      rintro e w1 ⟨rfl, hT⟩
      refine ⟨_, rfl, _, hT, fun W hTW => ?_⟩
      refine (hrd W (P.ref_at hTW)).mono ?_
      rintro e w2 ⟨rfl, hR⟩
      rw [if_pos he] at hR
      exact ⟨by rw [he], P.turn hTW hR (P.sim.drop hw hq hlt) P.rm (by show r.times + 1 ≤ N + 1; omega) (P.inv.drop hN hq) (fun h => by cases h)⟩
    · refine (Drop_no P.ct i0 i1 (by simpa using he)).mono ?_
      rintro e w1 ⟨rfl, hc⟩
      refine ⟨_, rfl, t, CtxTurns.refl P.ct hc, fun W hTW => ?_⟩
      refine (hrd W (P.ref_at hTW)).mono ?_
      rintro e w2 ⟨rfl, hR⟩
      rw [if_neg he] at hR
      exact ⟨rfl, P.stay hN hTW hR⟩
theorem rput_same {y : Cx} : (r.put y).most = r.most ∧ (r.put y).times = r.times := by unfold RTab.put; split <;> exact ⟨rfl, rfl⟩
theorem pair_split (P : Pair w c S h SR t r most N) (hN : N + 1 ≤ 1000) {i q am now : Int} (i0 : -9223372036854775808 ≤ i) (i1 : i ≤ 9223372036854775807) (hm : U64 am) (hnow : U64 now) :
    Calls Tryz.prog 25 #[ptr c, .agg #[.int .i64 i, .int .u64 q], .int .u64 am, .int .u64 now] w fun e w1 => ∃ i' q' E, e = refAns i' q' E ∧ Half 38 #[ptr h, .agg #[.int .i64 i, .int .u64 q], .int .u64 am, .int .u64 now] (refAns i' q' E) true c S h SR t most N w w1 := by
  have hw := P.ct.wf
  have hl := P.inv.Low
  obtain ⟨l0, l1⟩ := P.len
  have ha := P.sim.at_ hw i q
  obtain ⟨k1, k2, k3, k4, k5, k6, k7⟩ := P.inv.any i q
  have hpe := P.sim.lack hw i q am now
  by_cases he : splitE t i q am now = 0
  · refine (Split_yes P.ct i0 i1 k1 (by omega) he hm (by omega)).mono ?_
    rintro e w1 ⟨A, m, cc, A2, c2, rfl, hT⟩
    obtain ⟨hq, ham, ⟨hl1, hl2⟩, hf⟩ := splitE_0 he
    have hqr : r.is i q = true := by rw [P.sim.has hw]; exact hq
    have hx := P.inv.at_ hq
    have hx' := hx.more
    have hpk := P.sim.pick hw hl hf
    have hge := P.sim.gen_at hw hf
    have hpe0 : rpartE (r.at_ i q) am now = 0 := by
      rw [hpe]
      unfold splitE at he
      rw [hq, if_pos rfl] at he
      split at he
      · cases he
      · rename_i h1
        split at he
        · cases he
        · rename_i h2
          rw [if_neg h1, if_neg h2]
    have hn2 := (rpartE_0 hpe0).2.1
    have hx1 := hx.b1
    have hp0 := hx.p0
    have hp1 := hx.p1
    have hm0 := hm.1
    have hN0 := P.inv.N0
    refine ⟨_, _, _, rfl, _, hT, fun W hTW => ?_⟩
    refine (rsplit_yes (P.ref_at hTW) l1 am now hqr (by rw [← ha.l]; exact k1) (by rw [← ha.l]; omega) hpe0 hm (by rw [← ha.b]; exact k4) (by rw [← ha.p]; exact hp0) (by rw [← ha.p]; exact hp1) (by rw [hpk]; omega)).mono ?_
    rintro e w2 ⟨rfl, A1', m1', c1', A', m', cc', hR⟩
    refine ⟨by rw [hpk, Int.toNat_natCast, hge], ?_⟩
    rw [P.sim.put_thing hw hl hq hf] at hR
    obtain ⟨q1, q2, q3, q4, q5⟩ := has_thing hq ⟨(t.at_ i q).b - am, (t.at_ i q).p, A, m, cc, (t.at_ i q).n, (pullP (t.at_ i q).l now am).1⟩
    have hf' := hf
    rw [← q3] at hf'
    have hwt := hw.thing i.toNat ⟨(t.at_ i q).b - am, (t.at_ i q).p, A, m, cc, (t.at_ i q).n, (pullP (t.at_ i q).l now am).1⟩
    have hs1 := P.sim.thing hq (x := ⟨(t.at_ i q).b - am, (t.at_ i q).p, A, m, cc, (t.at_ i q).n, (pullP (t.at_ i q).l now am).1⟩) (y := ⟨(r.at_ i q).b - am, (r.at_ i q).p, A', m', cc', (r.at_ i q).n, (pullP (r.at_ i q).l now am).1⟩) ⟨by show (t.at_ i q).b - am = (r.at_ i q).b - am; rw [ha.b], ha.p, ha.n, by show (pullP (t.at_ i q).l now am).1 = (pullP (r.at_ i q).l now am).1; rw [ha.l]⟩
    have hs2 := hs1.put hwt (Tab.thing_low hl) hf' (x := ⟨am, (t.at_ i q).p, A2, 1, c2, 0, [(am, now)]⟩) (y := ⟨am, (r.at_ i q).p, A1', m1', c1', 0, [(am, now)]⟩) ⟨rfl, ha.p, rfl, rfl⟩
    refine P.turn hTW hR hs2 ?_ ?_ (((P.inv.more hN).thing i.toNat (hx'.pull (by omega) hl1 hl2)).put hf' (XOk.fresh (by omega) (by omega) hp0 hp1 hnow P.inv.m0 (by omega))) (fun _ => ?_)
    · rw [rput_same.1, thing_same.1]; exact P.rm
    · rw [rput_same.2, thing_same.2]; have := P.rt; omega
    · rw [tot_put hwt hf', tot_thing hw hq]
      show totP t - (t.at_ i q).b + ((t.at_ i q).b - am) + am = totP t
      omega
  · refine (Split_no P.ct i0 i1 k1 (by omega) (by simpa using he)).mono ?_
    rintro e w1 ⟨rfl, hc⟩
    refine ⟨_, _, _, rfl, t, CtxTurns.refl P.ct hc, fun W hTW => ?_⟩
    have hr := P.ref_at hTW
    cases hq : t.has i q with
    | false =>
      refine (rsplit_no1 hr l1 am now (by rw [P.sim.has hw]; exact hq)).mono ?_
      rintro e w2 ⟨rfl, hc2⟩
      exact ⟨by unfold splitE; rw [hq]; rfl, P.stay hN hTW (RTurns.refl hr hc2)⟩
    | true =>
      have hqr : r.is i q = true := by rw [P.sim.has hw]; exact hq
      have hx := P.inv.at_ hq
      by_cases hp : rpartE (r.at_ i q) am now = 0
      · rw [hpe] at hp
        have hf : t.frees = 0 := by
          refine Classical.byContradiction fun hf => he ?_
          unfold splitE
          rw [hq, if_pos rfl]
          split at hp
          · cases hp
          · rename_i h1
            split at hp
            · cases hp
            · rename_i h2
              rw [if_neg h1, if_neg h2, if_neg (by simpa using hf : ¬ (t.frees == 0) = true)]
        have hE : splitE t i q am now = 3 := by
          unfold splitE
          rw [hq, if_pos rfl]
          split at hp
          · cases hp
          · rename_i h1
            split at hp
            · cases hp
            · rename_i h2
              rw [if_neg h1, if_neg h2, if_pos (by rw [hf]; rfl : (t.frees == 0) = true)]
        have hp2 := hpe.trans hp
        refine (rsplit_full hr l1 am now hqr (by rw [← ha.l]; exact k1) (by rw [← ha.l]; omega) hp2 hm (by rw [← ha.b]; exact k4) (by rw [← ha.p]; exact hx.p0) (by rw [← ha.p]; exact hx.p1) ((P.sim.full_iff hw hl).2 hf)).mono ?_
        rintro e w2 ⟨rfl, hc2⟩
        exact ⟨by rw [hE], P.stay hN hTW (RTurns.refl hr hc2)⟩
      · refine (rsplit_no2 hr l1 am now hqr (by rw [← ha.l]; exact k1) (by rw [← ha.l]; omega) hp).mono ?_
        rintro e w2 ⟨rfl, hc2⟩
        refine ⟨?_, P.stay hN hTW (RTurns.refl hr hc2)⟩
        have hE : splitE t i q am now = rpartE (r.at_ i q) am now := by
          rw [hpe] at hp ⊢
          unfold splitE
          rw [hq, if_pos rfl]
          split
          · rfl
          · rename_i h1
            rw [if_neg h1] at hp
            split
            · rfl
            · rename_i h2
              rw [if_neg h2] at hp
              exact absurd rfl hp
        rw [hE]
end
end Go.Proofs
end
section
namespace Go.Proofs
open Go.RowKit
set_option linter.unusedVariables false

section
variable {w : World} {c h : Nat} {S SR : List Nat} {t : Tab Cx} {r : RTab} {most N : Int}
theorem pair_donate (P : Pair w c S h SR t r most N) (hN : N + 1 ≤ 1000) {fi fq ti tq am now : Int} (i0 : -9223372036854775808 ≤ fi) (i1 : fi ≤ 9223372036854775807) (j0 : -9223372036854775808 ≤ ti) (j1 : ti ≤ 9223372036854775807) (hm : U64 am) (hnow : U64 now) :
    Calls Tryz.prog 29 #[ptr c, .agg #[.int .i64 fi, .int .u64 fq], .agg #[.int .i64 ti, .int .u64 tq], .int .u64 am, .int .u64 now] w fun e w1 => ∃ E, e = .returned (.int .i64 E) ∧ Half 39 #[ptr h, .agg #[.int .i64 fi, .int .u64 fq], .agg #[.int .i64 ti, .int .u64 tq], .int .u64 am, .int .u64 now] (.returned (.int .i64 E)) true c S h SR t most N w w1 := by
  have hw := P.ct.wf
  have hl := P.inv.Low
  obtain ⟨l0, l1⟩ := P.len
  have ha := P.sim.at_ hw fi fq
  have hb := P.sim.at_ hw ti tq
  obtain ⟨k1, k2, k3, k4, k5, k6, k7⟩ := P.inv.any fi fq
  obtain ⟨g1, g2, g3, g4, g5, g6, g7⟩ := P.inv.any ti tq
  have hpe := P.sim.lack hw fi fq am now
  have hrm := P.rm
  have hm0 := hm.1
  have hmo := P.inv.m0
  cases hf : t.has fi fq with
  | false =>
    have hE : donateE t fi fq ti tq am now most = 11 := by unfold donateE; rw [hf]; rfl
    refine (Donate_no P.ct i0 i1 j0 j1 k1 (by omega) g1 (by omega) hm g3 g4 (by rw [hE]; rfl)).mono ?_
    rintro e w1 ⟨rfl, hc⟩
    refine ⟨_, rfl, t, CtxTurns.refl P.ct hc, fun W hTW => ?_⟩
    have hr := P.ref_at hTW
    refine (rdonate_a hr l1 am now (by rw [P.sim.has hw]; exact hf)).mono ?_
    rintro e w2 ⟨rfl, hc2⟩
    exact ⟨by rw [hE], P.stay hN hTW (RTurns.refl hr hc2)⟩
  | true =>
  have hfr : r.is fi fq = true := by rw [P.sim.has hw]; exact hf
  cases ht : t.has ti tq with
  | false =>
    have hE : donateE t fi fq ti tq am now most = 11 := by unfold donateE; rw [hf, ht]; rfl
    refine (Donate_no P.ct i0 i1 j0 j1 k1 (by omega) g1 (by omega) hm g3 g4 (by rw [hE]; rfl)).mono ?_
    rintro e w1 ⟨rfl, hc⟩
    refine ⟨_, rfl, t, CtxTurns.refl P.ct hc, fun W hTW => ?_⟩
    have hr := P.ref_at hTW
    refine (rdonate_b hr l1 am now hfr (by rw [P.sim.has hw]; exact ht)).mono ?_
    rintro e w2 ⟨rfl, hc2⟩
    exact ⟨by rw [hE], P.stay hN hTW (RTurns.refl hr hc2)⟩
  | true =>
  have htr : r.is ti tq = true := by rw [P.sim.has hw]; exact ht
  by_cases hne : fi = ti
  · have hqq : fq = tq := by subst hne; exact P.sim.gens hw hf ht
    have hE : donateE t fi fq ti tq am now most = 2 := by
      unfold donateE
      rw [hf, ht, hne, hqq]
      simp
    refine (Donate_no P.ct i0 i1 j0 j1 k1 (by omega) g1 (by omega) hm g3 g4 (by rw [hE]; rfl)).mono ?_
    rintro e w1 ⟨rfl, hc⟩
    refine ⟨_, rfl, t, CtxTurns.refl P.ct hc, fun W hTW => ?_⟩
    have hr := P.ref_at hTW
    refine (rdonate_c hr l1 am now hfr htr hne).mono ?_
    rintro e w2 ⟨rfl, hc2⟩
    exact ⟨by rw [hE], P.stay hN hTW (RTurns.refl hr hc2)⟩
  have hx := P.inv.at_ hf
  have hy := P.inv.at_ ht
  have hnd : ¬ (fi = ti ∧ fq = tq) := fun e => hne e.1
  have hndB : ((fi == ti) && (fq == tq)) = false := by simp [hne]
  have hDE : donateE t fi fq ti tq am now most = if rpartE (r.at_ fi fq) am now = 0 then (if decide (4294967296 - (t.at_ ti tq).b < am) then 6 else if (giveP (t.at_ ti tq).l now am most).2 != 0 then 3 else 0) else rpartE (r.at_ fi fq) am now := by
    unfold donateE
    rw [hpe, hf, ht, hndB, Bool.or_false]
    rw [if_pos (by rfl : (true && true) = true)]
    by_cases h1 : (am == 0 || decide (1152921504606846976 < now)) = true
    · rw [if_pos h1, if_pos h1]; rfl
    · rw [if_neg h1, if_neg h1]
      by_cases h2 : lackP (t.at_ fi fq) am now = true
      · rw [if_pos h2, if_pos h2]; rfl
      · rw [if_neg h2, if_neg h2, if_pos rfl]
  by_cases hp : rpartE (r.at_ fi fq) am now = 0
  · obtain ⟨p1, p2, p3, p4⟩ := rpartE_0 hp
    rw [if_pos hp] at hDE
    have hb0 := hy.b0
    have hb1 := hy.b1
    have hc1 := hx.b1
    by_cases ho : 4294967296 < (r.at_ ti tq).b + am
    · have ho' : 4294967296 - (t.at_ ti tq).b < am := by have := hb.b; omega
      have hE : donateE t fi fq ti tq am now most = 6 := by rw [hDE, decide_eq_true ho']; rfl
      refine (Donate_no P.ct i0 i1 j0 j1 k1 (by omega) g1 (by omega) hm g3 g4 (by rw [hE]; rfl)).mono ?_
      rintro e w1 ⟨rfl, hc⟩
      refine ⟨_, rfl, t, CtxTurns.refl P.ct hc, fun W hTW => ?_⟩
      have hr := P.ref_at hTW
      refine (rdonate_e hr l1 am now hfr htr hne (by rw [← ha.l]; exact k1) (by rw [← ha.l]; omega) (by rw [← hb.l]; exact g1) (by rw [← hb.l]; omega) hp hm (by rw [← ha.b]; exact k4) (by rw [← hb.b]; exact g3) (by rw [← hb.b]; exact g4) ho).mono ?_
      rintro e w2 ⟨rfl, hc2⟩
      exact ⟨by rw [hE], P.stay hN hTW (RTurns.refl hr hc2)⟩
    · have ho' : ¬ 4294967296 - (t.at_ ti tq).b < am := by have := hb.b; omega
      rw [decide_eq_false ho', if_neg (by simp : ¬ false = true)] at hDE
      obtain ⟨gv1, gv2⟩ := hy.give hnow (by omega : 1 ≤ am) (by omega) hmo
      by_cases hg : (giveP (t.at_ ti tq).l now am most).2 = 0
      · have hE : donateE t fi fq ti tq am now most = 0 := by rw [hDE, hg]; rfl
        have hlk := donateE_0 hE
        refine (Donate_yes P.ct i0 i1 j0 j1 k1 (by omega) g1 (by omega) hm g3 g4 hE (by omega)).mono ?_
        rintro e w1 ⟨rfl, A, m, cc, A', m', cc', hT⟩
        refine ⟨_, rfl, _, hT, fun W hTW => ?_⟩
        have hr := P.ref_at hTW
        refine (rdonate_yes hr l1 am now hfr htr hne (by rw [← ha.l]; exact k1) (by rw [← ha.l]; omega) (by rw [← hb.l]; exact g1) (by rw [← hb.l]; omega) hp hm (by rw [← ha.b]; exact k4) (by rw [← hb.b]; exact g3) (by rw [← hb.b]; exact g4) ho (by rw [hrm, ← hb.l]; exact hg)).mono ?_
        rintro e w2 ⟨rfl, B, n, dd, B', n', dd', hR⟩
        refine ⟨rfl, ?_⟩
        obtain ⟨s, hs1, hs2⟩ := has_iff.1 hf
        obtain ⟨f0, _⟩ := live_iff.1 hs1
        obtain ⟨s', hs3, hs4⟩ := has_iff.1 ht
        obtain ⟨t0, _⟩ := live_iff.1 hs3
        have hnn : ti.toNat ≠ fi.toNat := by omega
        rw [rthing_comm hnn] at hR
        obtain ⟨o1, o2⟩ := other_thing hf ht hnd ⟨(t.at_ fi fq).b - am, (t.at_ fi fq).p, A, m, cc, (t.at_ fi fq).n, (pullP (t.at_ fi fq).l now am).1⟩
        have hwt := hw.thing fi.toNat ⟨(t.at_ fi fq).b - am, (t.at_ fi fq).p, A, m, cc, (t.at_ fi fq).n, (pullP (t.at_ fi fq).l now am).1⟩
        have hs1 := P.sim.thing hf (x := ⟨(t.at_ fi fq).b - am, (t.at_ fi fq).p, A, m, cc, (t.at_ fi fq).n, (pullP (t.at_ fi fq).l now am).1⟩) (y := ⟨(r.at_ fi fq).b - am, (r.at_ fi fq).p, B, n, dd, (r.at_ fi fq).n, (pullP (r.at_ fi fq).l now am).1⟩) ⟨by show (t.at_ fi fq).b - am = (r.at_ fi fq).b - am; rw [ha.b], ha.p, ha.n, by show (pullP (t.at_ fi fq).l now am).1 = (pullP (r.at_ fi fq).l now am).1; rw [ha.l]⟩
        have hs2 := hs1.thing o1 (x := ⟨(t.at_ ti tq).b + am, (t.at_ ti tq).p, A', m', cc', (t.at_ ti tq).n, (giveP (t.at_ ti tq).l now am most).1⟩) (y := ⟨(r.at_ ti tq).b + am, (r.at_ ti tq).p, B', n', dd', (r.at_ ti tq).n, (giveP (r.at_ ti tq).l now am r.most).1⟩) ⟨by show (t.at_ ti tq).b + am = (r.at_ ti tq).b + am; rw [hb.b], hb.p, hb.n, by show (giveP (t.at_ ti tq).l now am most).1 = (giveP (r.at_ ti tq).l now am r.most).1; rw [hb.l, hrm]⟩
        refine P.turn hTW hR hs2 ?_ ?_ (((P.inv.more hN).thing fi.toNat (hx.more.pull (by omega) hlk.2.2.2.2.1.1 hlk.2.2.2.2.1.2)).thing ti.toNat (gv2 hg A' m' cc').more) (fun _ => ?_)
        · rw [thing_same.1, thing_same.1]; exact hrm
        · rw [thing_same.2, thing_same.2]; have := P.rt; omega
        · rw [tot_thing hwt o1, tot_thing hw hf, o2]
          show totP t - (t.at_ fi fq).b + ((t.at_ fi fq).b - am) - (t.at_ ti tq).b + ((t.at_ ti tq).b + am) = totP t
          omega
      · have hg3 : (giveP (t.at_ ti tq).l now am most).2 = 3 := gv1.resolve_left hg
        have hE : donateE t fi fq ti tq am now most = 3 := by rw [hDE, hg3]; rfl
        refine (Donate_no P.ct i0 i1 j0 j1 k1 (by omega) g1 (by omega) hm g3 g4 (by rw [hE]; rfl)).mono ?_
        rintro e w1 ⟨rfl, hc⟩
        refine ⟨_, rfl, t, CtxTurns.refl P.ct hc, fun W hTW => ?_⟩
        have hr := P.ref_at hTW
        refine (rdonate_f hr l1 am now hfr htr hne (by rw [← ha.l]; exact k1) (by rw [← ha.l]; omega) (by rw [← hb.l]; exact g1) (by rw [← hb.l]; omega) hp hm (by rw [← ha.b]; exact k4) (by rw [← hb.b]; exact g3) (by rw [← hb.b]; exact g4) ho (by rw [hrm, ← hb.l]; exact hg)).mono ?_
        rintro e w2 ⟨rfl, hc2⟩
        exact ⟨by rw [hE, hrm, ← hb.l, hg3], P.stay hN hTW (RTurns.refl hr hc2)⟩
  · rw [if_neg hp] at hDE
    refine (Donate_no P.ct i0 i1 j0 j1 k1 (by omega) g1 (by omega) hm g3 g4 (by rw [hDE]; simpa using hp)).mono ?_
    rintro e w1 ⟨rfl, hc⟩
    refine ⟨_, rfl, t, CtxTurns.refl P.ct hc, fun W hTW => ?_⟩
    have hr := P.ref_at hTW
    refine (rdonate_d hr l1 am now hfr htr hne (by rw [← ha.l]; exact k1) (by rw [← ha.l]; omega) hp).mono ?_
    rintro e w2 ⟨rfl, hc2⟩
    exact ⟨by rw [hDE], P.stay hN hTW (RTurns.refl hr hc2)⟩
/-- Whether something is there, both tell. -/
theorem Pair.can (P : Pair w c S h SR t r most N) (i q now : Int) : rcanB r i q now = canB t i q now := by
  have hw := P.ct.wf
  unfold rcanB canB
  rw [P.sim.has hw, ← (P.sim.at_ hw i q).l]
  cases hq : t.has i q with
  | true => rfl
  | false => rw [at_no hq]; rfl
/-- When something comes back, both tell. -/
theorem Pair.next (P : Pair w c S h SR t r most N) (i q now : Int) : rnextP r i q now = nextP (t.at_ i q).l now := by
  have hw := P.ct.wf
  unfold rnextP
  rw [P.sim.has hw, ← (P.sim.at_ hw i q).l]
  cases hq : t.has i q with
  | true => rfl
  | false => rw [at_no hq]; rfl
end
end Go.Proofs
end
section
namespace Go.Proofs
open Go.RowKit
set_option linter.unusedVariables false

/-! ### An act on both -/
structure ActC where
  kind : Int
  ri : Int
  rq : Int
  ti : Int
  tq : Int
  a : Int
  b : Int
  T : Int
def ActC.cells (a : ActC) : List Value := [.int .i64 a.kind, .int .i64 a.ri, .int .u64 a.rq, .int .i64 a.ti, .int .u64 a.tq, .int .u64 a.a, .int .u64 a.b, .int .u64 a.T]
structure ActC.Fits (a : ActC) : Prop where
  r0 : -9223372036854775808 ≤ a.ri
  r1 : a.ri ≤ 9223372036854775807
  t0 : -9223372036854775808 ≤ a.ti
  t1 : a.ti ≤ 9223372036854775807
  uA : U64 a.a
  uB : U64 a.b
  uT : U64 a.T
theorem Pair.quiet {w w' : World} {c h : Nat} {S SR : List Nat} {t : Tab Cx} {r : RTab} {most N : Int} (P : Pair w c S h SR t r most N) (hc : Chg [] w w') : Pair w' c S h SR t r most N :=
  { P with ct := P.ct.quiet hc, rf := P.rf.quiet hc }
section
variable {w a b d : World} {c h : Nat} {S SR : List Nat} {t : Tab Cx} {r : RTab} {most N : Int} {K : Bool}
theorem PTurns.earlier (hp : PTurns K c S h SR t most N b d) (hc : Chg [] a b) : PTurns K c S h SR t most N a d := by
  obtain ⟨S', SR', t', r', h1, h2, h3, h4, h5⟩ := hp
  exact ⟨S', SR', t', r', h1, fun k hk => (h2 k hk).imp id (fun h => Nat.le_trans hc.size h), fun k hk => (h3 k hk).imp id (fun h => Nat.le_trans hc.size h), (Chg.any hc).trans h4 (fun k hk => .inl hk), h5⟩
theorem PTurns.later (hp : PTurns K c S h SR t most N a b) (hc : Chg [] b d) : PTurns K c S h SR t most N a d := by
  obtain ⟨S', SR', t', r', h1, h2, h3, h4, h5⟩ := hp
  exact ⟨S', SR', t', r', h1.quiet hc, h2, h3, h4.then hc, h5⟩
theorem PTurns.chg (hp : PTurns K c S h SR t most N a b) : Chg (S ++ SR) a b := by obtain ⟨S', SR', t', r', h1, h2, h3, h4, h5⟩ := hp; exact h4
theorem Pair.box_ {k : Nat} {cs : Array Value} (P : Pair a c S h SR t r most N) (hB : Blk a k 34 cs) (hc : Chg [k] a b) : Pair b c S h SR t r most N := by
  have h2 := P.rf.not_box hB (by decide) (by decide)
  obtain ⟨g, h1, hT, hG, hW⟩ := P.ct
  have hn := hT.not_box hB (by decide) (by decide) (by decide)
  refine { P with ct := CtxAt.chg ⟨g, h1, hT, hG, hW⟩ hc (by simpa using fun e => Blk.ty h1 hB (by decide) e) (fun k hk => by simp; rintro rfl; exact hn hk) (Off.cons hB (by decide) (Off.nil _)), rf := P.rf.chg hc (fun k hk => by simp; rintro rfl; exact h2 hk) (Off.cons hB (by decide) (Off.nil _)) }
theorem PTurns.box {k : Nat} {cs : Array Value} (hp : PTurns K c S h SR t most N a b) (hB : Blk b k 34 cs) (hb : a.heap.size ≤ k) (hc : Chg [k] b d) : PTurns K c S h SR t most N a d := by
  obtain ⟨S', SR', t', r', h1, h2, h3, h4, h5⟩ := hp
  exact ⟨S', SR', t', r', h1.box_ hB hc, h2, h3, h4.trans hc (fun j hj => by simp at hj; subst hj; exact .inr hb), h5⟩
theorem Pair.new_box (P : Pair a c S h SR t r most N) : ∀ k, a.heap.size ≤ k → k ∉ S ∧ k ∉ S ++ SR := fun k hk => by
  have h1 := P.ct.box k hk
  have h2 := P.rf.box k hk
  exact ⟨h1, by simp [h1, h2]⟩
end
def DoPost (K : Bool) (c : Nat) (S : List Nat) (h : Nat) (SR : List Nat) (t : Tab Cx) (most N : Int) (w : World) (e : Ending) (w' : World) : Prop := e = .returned (.bool true) ∧ PTurns K c S h SR t most N w w'
section
variable {w : World} {c h : Nat} {S SR : List Nat} {t : Tab Cx} {r : RTab} {most N : Int}
set_option maxRecDepth 100000 in
set_option maxHeartbeats 6400000 in
theorem do0 (P : Pair w c S h SR t r most N) (hN : N + 1 ≤ 1000) {kind ri rq ti tq a b T : Int} (hF : ActC.Fits ⟨kind, ri, rq, ti, tq, a, b, T⟩) (hk : kind ≠ 1 ∧ kind ≠ 2 ∧ kind ≠ 3 ∧ kind ≠ 4 ∧ kind ≠ 5 ∧ kind ≠ 6 ∧ kind ≠ 7) :
    Calls Tryz.prog 12 #[ptr c, ptr h, .agg #[.int .i64 kind, .int .i64 ri, .int .u64 rq, .int .i64 ti, .int .u64 tq, .int .u64 a, .int .u64 b, .int .u64 T]] w (DoPost true c S h SR t most N w) := by
  unfold DoPost
  obtain ⟨h1, h2, h3, h4, h5, h6, h7⟩ := hk
  have d1 : (kind == 1) = false := by simpa using h1
  have d2 : (kind == 2) = false := by simpa using h2
  have d3 : (kind == 3) = false := by simpa using h3
  have d4 : (kind == 4) = false := by simpa using h4
  have d5 : (kind == 5) = false := by simpa using h5
  have d6 : (kind == 6) = false := by simpa using h6
  have d7 : (kind == 7) = false := by simpa using h7
  have HST := Lib.hid (fun w1 (hc : Chg [] w w1) => (P.stay (K := true) hN (CtxTurns.refl P.ct hc) (RTurns.refl (P.rf.quiet hc) (Chg.refl [] w1))).1)
  clear h1 h2 h3 h4 h5 h6 h7 P hF hN
  go_enter Tryz.func12, Tryz.ntmps12
  go_wp2
  go_ret
  exact ⟨rfl, HST.out _ ((Chg.refl _ _).alloc _)⟩
end
end Go.Proofs
end
section
namespace Go.Proofs
open Go.RowKit
set_option linter.unusedVariables false

section
variable {w : World} {c h : Nat} {S SR : List Nat} {t : Tab Cx} {r : RTab} {most N : Int}
set_option maxRecDepth 100000 in
set_option maxHeartbeats 6400000 in
theorem do2 (P : Pair w c S h SR t r most N) (hN : N + 1 ≤ 1000) {kind ri rq ti tq a b T : Int} (hF : ActC.Fits ⟨kind, ri, rq, ti, tq, a, b, T⟩) :
    Calls Tryz.prog 12 #[ptr c, ptr h, .agg #[.int .i64 2, .int .i64 ri, .int .u64 rq, .int .i64 ti, .int .u64 tq, .int .u64 a, .int .u64 b, .int .u64 T]] w (DoPost true c S h SR t most N w) := by
  unfold DoPost
  have hc0 : Chg [] w (w.alloc (.cells #[.int .i64 2, .int .i64 ri, .int .u64 rq, .int .i64 ti, .int .u64 tq, .int .u64 a, .int .u64 b, .int .u64 T] 36)).drew := ((Chg.refl [] w).alloc _).drew
  have hbx := (Blk.new w 36 #[.int .i64 2, .int .i64 ri, .int .u64 rq, .int .i64 ti, .int .u64 tq, .int .u64 a, .int .u64 b, .int .u64 T]).drew
  have P1 := P.quiet hc0
  have HQ := Lib.hid (pair_bind P1 hN hF.r0 hF.r1 (q := rq))
  have HNB := Lib.hid P.new_box
  have HBX := Lib.hid hbx
  have HC0 := Lib.hid hc0
  clear hbx hc0 P1 P hF hN
  go_enter Tryz.func12, Tryz.ntmps12
  go_wp2
  go_region_held3 (fun w' => w'.cell? ⟨w.heap.size, 1, none⟩ = some (.int .i64 ri) ∧ w'.cell? ⟨w.heap.size, 2, none⟩ = some (.int .u64 rq))
    (first | go_keep)
    (first
      | (go_at_call 27; refine HQ.out.mono ?_; rintro e w1 ⟨E, rfl, hH⟩; have HB5 := Lib.hid (HBX.out.chg hH.chg (HNB.out _ (Nat.le_refl _)).1); have k1 := HB5.out.cell 1; have k2 := HB5.out.cell 2; have HH := Lib.hid hH; have hEE : (E == E) = true := beq_self_eq_true E)
      | (go_at_call 35; refine (HH.out.call (Chg.refl [] _)).mono ?_; rintro e w2 ⟨rfl, hU, _⟩; have HB6 := Lib.hid (HBX.out.chg hU.chg (HNB.out _ (Nat.le_refl _)).2); have j1 := HB6.out.cell 1; have j2 := HB6.out.cell 2; have HU := Lib.hid hU))
  all_goals
    go_wp2
    go_ret
    exact ⟨rfl, HU.out.earlier HC0.out⟩
set_option maxRecDepth 100000 in
set_option maxHeartbeats 6400000 in
theorem do3 (P : Pair w c S h SR t r most N) (hN : N + 1 ≤ 1000) {kind ri rq ti tq a b T : Int} (hF : ActC.Fits ⟨kind, ri, rq, ti, tq, a, b, T⟩) :
    Calls Tryz.prog 12 #[ptr c, ptr h, .agg #[.int .i64 3, .int .i64 ri, .int .u64 rq, .int .i64 ti, .int .u64 tq, .int .u64 a, .int .u64 b, .int .u64 T]] w (DoPost true c S h SR t most N w) := by
  unfold DoPost
  have hc0 : Chg [] w (w.alloc (.cells #[.int .i64 3, .int .i64 ri, .int .u64 rq, .int .i64 ti, .int .u64 tq, .int .u64 a, .int .u64 b, .int .u64 T] 36)).drew := ((Chg.refl [] w).alloc _).drew
  have hbx := (Blk.new w 36 #[.int .i64 3, .int .i64 ri, .int .u64 rq, .int .i64 ti, .int .u64 tq, .int .u64 a, .int .u64 b, .int .u64 T]).drew
  have P1 := P.quiet hc0
  have HQ := Lib.hid (pair_unbind P1 hN hF.r0 hF.r1 (q := rq))
  have HNB := Lib.hid P.new_box
  have HBX := Lib.hid hbx
  have HC0 := Lib.hid hc0
  clear hbx hc0 P1 P hF hN
  go_enter Tryz.func12, Tryz.ntmps12
  go_wp2
  go_region_held3 (fun w' => w'.cell? ⟨w.heap.size, 1, none⟩ = some (.int .i64 ri) ∧ w'.cell? ⟨w.heap.size, 2, none⟩ = some (.int .u64 rq))
    (first | go_keep)
    (first
      | (go_at_call 28; refine HQ.out.mono ?_; rintro e w1 ⟨E, rfl, hH⟩; have HB5 := Lib.hid (HBX.out.chg hH.chg (HNB.out _ (Nat.le_refl _)).1); have k1 := HB5.out.cell 1; have k2 := HB5.out.cell 2; have HH := Lib.hid hH; have hEE : (E == E) = true := beq_self_eq_true E)
      | (go_at_call 35; refine (HH.out.call (Chg.refl [] _)).mono ?_; rintro e w2 ⟨rfl, hU, _⟩; have HB6 := Lib.hid (HBX.out.chg hU.chg (HNB.out _ (Nat.le_refl _)).2); have j1 := HB6.out.cell 1; have j2 := HB6.out.cell 2; have HU := Lib.hid hU))
  all_goals
    go_wp2
    go_ret
    exact ⟨rfl, HU.out.earlier HC0.out⟩
set_option maxRecDepth 100000 in
set_option maxHeartbeats 6400000 in
theorem do7 (P : Pair w c S h SR t r most N) (hN : N + 1 ≤ 1000) {kind ri rq ti tq a b T : Int} (hF : ActC.Fits ⟨kind, ri, rq, ti, tq, a, b, T⟩) :
    Calls Tryz.prog 12 #[ptr c, ptr h, .agg #[.int .i64 7, .int .i64 ri, .int .u64 rq, .int .i64 ti, .int .u64 tq, .int .u64 a, .int .u64 b, .int .u64 T]] w (DoPost false c S h SR t most N w) := by
  unfold DoPost
  have hc0 : Chg [] w (w.alloc (.cells #[.int .i64 7, .int .i64 ri, .int .u64 rq, .int .i64 ti, .int .u64 tq, .int .u64 a, .int .u64 b, .int .u64 T] 36)).drew := ((Chg.refl [] w).alloc _).drew
  have hbx := (Blk.new w 36 #[.int .i64 7, .int .i64 ri, .int .u64 rq, .int .i64 ti, .int .u64 tq, .int .u64 a, .int .u64 b, .int .u64 T]).drew
  have P1 := P.quiet hc0
  have HQ := Lib.hid (pair_drop P1 hN hF.r0 hF.r1 (q := rq))
  have HNB := Lib.hid P.new_box
  have HBX := Lib.hid hbx
  have HC0 := Lib.hid hc0
  clear hbx hc0 P1 P hF hN
  go_enter Tryz.func12, Tryz.ntmps12
  go_wp2
  go_region_held3 (fun w' => w'.cell? ⟨w.heap.size, 1, none⟩ = some (.int .i64 ri) ∧ w'.cell? ⟨w.heap.size, 2, none⟩ = some (.int .u64 rq))
    (first | go_keep)
    (first
      | (go_at_call 18; refine HQ.out.mono ?_; rintro e w1 ⟨E, rfl, hH⟩; have HB5 := Lib.hid (HBX.out.chg hH.chg (HNB.out _ (Nat.le_refl _)).1); have k1 := HB5.out.cell 1; have k2 := HB5.out.cell 2; have HH := Lib.hid hH; have hEE : (E == E) = true := beq_self_eq_true E)
      | (go_at_call 40; refine (HH.out.call (Chg.refl [] _)).mono ?_; rintro e w2 ⟨rfl, hU, _⟩; have HB6 := Lib.hid (HBX.out.chg hU.chg (HNB.out _ (Nat.le_refl _)).2); have j1 := HB6.out.cell 1; have j2 := HB6.out.cell 2; have HU := Lib.hid hU))
  all_goals
    go_wp2
    go_ret
    exact ⟨rfl, HU.out.earlier HC0.out⟩
end
end Go.Proofs
end
section
namespace Go.Proofs
open Go.RowKit
set_option linter.unusedVariables false

section
variable {w : World} {c h : Nat} {S SR : List Nat} {t : Tab Cx} {r : RTab} {most N : Int}
set_option maxRecDepth 100000 in
set_option maxHeartbeats 6400000 in
theorem do1 (P : Pair w c S h SR t r most N) (hN : N + 1 ≤ 1000) {kind ri rq ti tq a b T : Int} (hF : ActC.Fits ⟨kind, ri, rq, ti, tq, a, b, T⟩) :
    Calls Tryz.prog 12 #[ptr c, ptr h, .agg #[.int .i64 1, .int .i64 ri, .int .u64 rq, .int .i64 ti, .int .u64 tq, .int .u64 a, .int .u64 b, .int .u64 T]] w (DoPost false c S h SR t most N w) := by
  unfold DoPost
  have hc0 : Chg [] w (w.alloc (.cells #[.int .i64 1, .int .i64 ri, .int .u64 rq, .int .i64 ti, .int .u64 tq, .int .u64 a, .int .u64 b, .int .u64 T] 36)) := ((Chg.refl [] w).alloc _)
  have hbx := (Blk.new w 36 #[.int .i64 1, .int .i64 ri, .int .u64 rq, .int .i64 ti, .int .u64 tq, .int .u64 a, .int .u64 b, .int .u64 T])
  have P1 := P.quiet hc0
  have HQ := Lib.hid (pair_make P1 hN a b hF.uT)
  have HNB := Lib.hid P.new_box
  have HBX := Lib.hid hbx
  have HC0 := Lib.hid hc0
  clear hbx hc0 P1 P hF hN
  go_enter Tryz.func12, Tryz.ntmps12
  go_wp2_with (first
    | (go_at_call 17; refine HQ.out.mono ?_; rintro e w1 ⟨i, q, E, rfl, hH⟩; have b5 := HBX.out.chg hH.chg (HNB.out _ (Nat.le_refl _)).1; have lw1 := b5.lt; have lw0 := hH.chg.size; have k1 := b5.cell 1; have k2 := b5.cell 2; have k5 := b5.cell 5; have k6 := b5.cell 6; have k7 := b5.cell 7; simp only [List.getElem?_toArray, List.getElem?_cons_succ, List.getElem?_cons_zero] at k1 k2 k5 k6 k7; have HH := Lib.hid hH; have HB5 := Lib.hid b5; have hii := beq_self_eq_true i; have hqq := beq_self_eq_true q; have hEE := beq_self_eq_true E; have hne : ¬ (w1.heap.size = w.heap.size) := (by omega); clear hH b5)
    | (go_at_call 34; refine (HH.out.call ((Chg.refl [] _).alloc _)).mono ?_; rintro e w2 ⟨rfl, hU, hc2⟩; have b6 := (Blk.new w1 34 #[.int .i64 i, .int .u64 q]).chg hc2 (fun hm => (HNB.out w1.heap.size (by omega)).2 (List.mem_append.2 (.inr hm))); have j0 := b6.cell 0; have j1 := b6.cell 1; have lj := b6.lt; simp only [List.getElem?_toArray, List.getElem?_cons_succ, List.getElem?_cons_zero] at j0 j1; have HU := Lib.hid hU; clear hU hc2 b6))
  go_ret
  exact ⟨rfl, (HU.out.later (by repeat' (first | with_reducible exact Chg.refl [] _ | with_reducible apply Chg.alloc | with_reducible apply Chg.drew))).earlier HC0.out⟩
end
end Go.Proofs
end
section
namespace Go.Proofs
open Go.RowKit
set_option linter.unusedVariables false

section
variable {w : World} {c h : Nat} {S SR : List Nat} {t : Tab Cx} {r : RTab} {most N : Int}
set_option maxRecDepth 100000 in
set_option maxHeartbeats 6400000 in
theorem do5 (P : Pair w c S h SR t r most N) (hN : N + 1 ≤ 1000) {kind ri rq ti tq a b T : Int} (hF : ActC.Fits ⟨kind, ri, rq, ti, tq, a, b, T⟩) :
    Calls Tryz.prog 12 #[ptr c, ptr h, .agg #[.int .i64 5, .int .i64 ri, .int .u64 rq, .int .i64 ti, .int .u64 tq, .int .u64 a, .int .u64 b, .int .u64 T]] w (DoPost true c S h SR t most N w) := by
  unfold DoPost
  have hc0 : Chg [] w (w.alloc (.cells #[.int .i64 5, .int .i64 ri, .int .u64 rq, .int .i64 ti, .int .u64 tq, .int .u64 a, .int .u64 b, .int .u64 T] 36)) := ((Chg.refl [] w).alloc _)
  have hbx := (Blk.new w 36 #[.int .i64 5, .int .i64 ri, .int .u64 rq, .int .i64 ti, .int .u64 tq, .int .u64 a, .int .u64 b, .int .u64 T])
  have P1 := P.quiet hc0
  have HQ := Lib.hid (pair_split P1 hN hF.r0 hF.r1 hF.uA hF.uT (q := rq))
  have HNB := Lib.hid P.new_box
  have HBX := Lib.hid hbx
  have HC0 := Lib.hid hc0
  clear hbx hc0 P1 P hF hN
  go_enter Tryz.func12, Tryz.ntmps12
  go_wp2_with (first
    | (go_at_call 25; refine HQ.out.mono ?_; rintro e w1 ⟨i, q, E, rfl, hH⟩; have b5 := HBX.out.chg hH.chg (HNB.out _ (Nat.le_refl _)).1; have lw1 := b5.lt; have lw0 := hH.chg.size; have k1 := b5.cell 1; have k2 := b5.cell 2; have k5 := b5.cell 5; have k6 := b5.cell 6; have k7 := b5.cell 7; simp only [List.getElem?_toArray, List.getElem?_cons_succ, List.getElem?_cons_zero] at k1 k2 k5 k6 k7; have HH := Lib.hid hH; have HB5 := Lib.hid b5; have hii := beq_self_eq_true i; have hqq := beq_self_eq_true q; have hEE := beq_self_eq_true E; have hne : ¬ (w1.heap.size = w.heap.size) := (by omega); clear hH b5)
    | (go_at_call 38; refine (HH.out.call ((Chg.refl [] _).alloc _)).mono ?_; rintro e w2 ⟨rfl, hU, hc2⟩; have b6 := (Blk.new w1 34 #[.int .i64 i, .int .u64 q]).chg hc2 (fun hm => (HNB.out w1.heap.size (by omega)).2 (List.mem_append.2 (.inr hm))); have j0 := b6.cell 0; have j1 := b6.cell 1; have lj := b6.lt; simp only [List.getElem?_toArray, List.getElem?_cons_succ, List.getElem?_cons_zero] at j0 j1; have HU := Lib.hid hU; clear hU hc2 b6))
  go_ret
  exact ⟨rfl, (HU.out.later (by repeat' (first | with_reducible exact Chg.refl [] _ | with_reducible apply Chg.alloc | with_reducible apply Chg.drew))).earlier HC0.out⟩
end
end Go.Proofs
end
section
namespace Go.Proofs
open Go.RowKit
set_option linter.unusedVariables false

section
variable {w : World} {c h : Nat} {S SR : List Nat} {t : Tab Cx} {r : RTab} {most N : Int}
set_option maxRecDepth 100000 in
set_option maxHeartbeats 6400000 in
theorem do4 (P : Pair w c S h SR t r most N) (hN : N + 1 ≤ 1000) {kind ri rq ti tq a b T : Int} (hF : ActC.Fits ⟨kind, ri, rq, ti, tq, a, b, T⟩) :
    Calls Tryz.prog 12 #[ptr c, ptr h, .agg #[.int .i64 4, .int .i64 ri, .int .u64 rq, .int .i64 ti, .int .u64 tq, .int .u64 a, .int .u64 b, .int .u64 T]] w (DoPost true c S h SR t most N w) := by
  unfold DoPost
  have hc0 : Chg [] w (w.alloc (.cells #[.int .i64 4, .int .i64 ri, .int .u64 rq, .int .i64 ti, .int .u64 tq, .int .u64 a, .int .u64 b, .int .u64 T] 36)) := ((Chg.refl [] w).alloc _)
  have hbx := (Blk.new w 36 #[.int .i64 4, .int .i64 ri, .int .u64 rq, .int .i64 ti, .int .u64 tq, .int .u64 a, .int .u64 b, .int .u64 T])
  obtain ⟨k1, k2, k3, k4, k5, k6, k7⟩ := P.inv.any ri rq
  have ha := P.sim.at_ P.ct.wf ri rq
  have HA := Lib.hid (rcan_any (P.quiet hc0).rf P.len.2 (i := ri) (q := rq) T (by rw [← ha.l]; exact k1) (by rw [← ha.l]; omega))
  rw [P.can] at HA
  have HB := Lib.hid (fun W (hc : Chg [] w W) => Can_any (P.quiet hc).ct (i := ri) (q := rq) T hF.r0 hF.r1 k1 (by omega))
  obtain ⟨X, hX⟩ : ∃ X, X = canB t ri rq T := ⟨_, rfl⟩
  rw [← hX] at HA HB
  have HQ := Lib.hid (fun W (hc : Chg [] w W) => pair_charge (P.quiet hc) hN (i := ri) (q := rq) (now := T) hF.r0 hF.r1 hF.uT)
  have HNB := Lib.hid P.new_box
  have HBX := Lib.hid hbx
  have HC0 := Lib.hid hc0
  have hXX := beq_self_eq_true X
  clear hbx hc0 P hF hN k1 k2 k3 k4 k5 k6 k7 ha hX
  go_enter Tryz.func12, Tryz.ntmps12
  go_wp2_with (go_at_call 36; refine HA.out.mono ?_; rintro e wa ⟨rfl, hca⟩; have HBA := Lib.hid (HBX.out.chg hca (by simp)); have HCA := Lib.hid (HC0.out.then hca); have a1 := HBA.out.cell 1; have a2 := HBA.out.cell 2; have a7 := HBA.out.cell 7; clear hca)
  go_region_held3 (fun w' => w'.cell? ⟨w.heap.size, 1, none⟩ = some (.int .i64 ri) ∧ w'.cell? ⟨w.heap.size, 2, none⟩ = some (.int .u64 rq) ∧ w'.cell? ⟨w.heap.size, 7, none⟩ = some (.int .u64 T))
    (first | go_keep)
    (first
      | (go_at_call 30; refine (HB.out _ (HCA.out.drew)).mono ?_; rintro e wb ⟨rfl, hcb⟩; have HBB := Lib.hid (HBA.out.chg (Chg.drew (Chg.refl [] wa) |>.then hcb) (by simp)); have HCB := Lib.hid (HCA.out.drew.then hcb); have b1 := HBB.out.cell 1; have b2 := HBB.out.cell 2; have b7 := HBB.out.cell 7)
      | (go_at_call 31; refine (HQ.out _ HCB.out).mono ?_; rintro e w1 ⟨E, rfl, hH⟩; have HB5 := Lib.hid (HBB.out.chg hH.chg (HNB.out _ (Nat.le_refl _)).1); have k1 := HB5.out.cell 1; have k2 := HB5.out.cell 2; have k7 := HB5.out.cell 7; have HH := Lib.hid hH; have hEE := beq_self_eq_true E)
      | (go_at_call 37; refine (HH.out.call (Chg.refl [] _)).mono ?_; rintro e w2 ⟨rfl, hU, _⟩; have HB6 := Lib.hid (HBB.out.chg hU.chg (HNB.out _ (Nat.le_refl _)).2); have j1 := HB6.out.cell 1; have j2 := HB6.out.cell 2; have j7 := HB6.out.cell 7; have HU := Lib.hid hU))
  all_goals
    go_wp2
    go_ret
    exact ⟨rfl, HU.out.earlier HCB.out⟩
end
end Go.Proofs
end
section
namespace Go.Proofs
open Go.RowKit
set_option linter.unusedVariables false

section
variable {w : World} {c h : Nat} {S SR : List Nat} {t : Tab Cx} {r : RTab} {most N : Int}
set_option maxRecDepth 100000 in
set_option maxHeartbeats 6400000 in
theorem do6 (P : Pair w c S h SR t r most N) (hN : N + 1 ≤ 1000) {kind ri rq ti tq a b T : Int} (hF : ActC.Fits ⟨kind, ri, rq, ti, tq, a, b, T⟩) :
    Calls Tryz.prog 12 #[ptr c, ptr h, .agg #[.int .i64 6, .int .i64 ri, .int .u64 rq, .int .i64 ti, .int .u64 tq, .int .u64 a, .int .u64 b, .int .u64 T]] w (DoPost true c S h SR t most N w) := by
  unfold DoPost
  have hc0 : Chg [] w (w.alloc (.cells #[.int .i64 6, .int .i64 ri, .int .u64 rq, .int .i64 ti, .int .u64 tq, .int .u64 a, .int .u64 b, .int .u64 T] 36)).drew := ((Chg.refl [] w).alloc _).drew
  have hbx := (Blk.new w 36 #[.int .i64 6, .int .i64 ri, .int .u64 rq, .int .i64 ti, .int .u64 tq, .int .u64 a, .int .u64 b, .int .u64 T]).drew
  have P1 := P.quiet hc0
  have HQ := Lib.hid (pair_donate P1 hN hF.r0 hF.r1 hF.t0 hF.t1 hF.uA hF.uT (fq := rq) (tq := tq))
  have HNB := Lib.hid P.new_box
  have HBX := Lib.hid hbx
  have HC0 := Lib.hid hc0
  clear hbx hc0 P1 P hF hN
  go_enter Tryz.func12, Tryz.ntmps12
  go_wp2
  go_region_held3 (fun w' => w'.cell? ⟨w.heap.size, 1, none⟩ = some (.int .i64 ri) ∧ w'.cell? ⟨w.heap.size, 2, none⟩ = some (.int .u64 rq) ∧ w'.cell? ⟨w.heap.size, 3, none⟩ = some (.int .i64 ti) ∧ w'.cell? ⟨w.heap.size, 4, none⟩ = some (.int .u64 tq) ∧ w'.cell? ⟨w.heap.size, 5, none⟩ = some (.int .u64 a) ∧ w'.cell? ⟨w.heap.size, 7, none⟩ = some (.int .u64 T))
    (first | go_keep)
    (first
      | (go_at_call 29; refine HQ.out.mono ?_; rintro e w1 ⟨E, rfl, hH⟩; have HB5 := Lib.hid (HBX.out.chg hH.chg (HNB.out _ (Nat.le_refl _)).1); have k1 := HB5.out.cell 1; have k2 := HB5.out.cell 2; have k3 := HB5.out.cell 3; have k4 := HB5.out.cell 4; have k5 := HB5.out.cell 5; have k7 := HB5.out.cell 7; have HH := Lib.hid hH; have hEE : (E == E) = true := beq_self_eq_true E)
      | (go_at_call 39; refine (HH.out.call (Chg.refl [] _)).mono ?_; rintro e w2 ⟨rfl, hU, _⟩; have HB6 := Lib.hid (HBX.out.chg hU.chg (HNB.out _ (Nat.le_refl _)).2); have j1 := HB6.out.cell 1; have j2 := HB6.out.cell 2; have j3 := HB6.out.cell 3; have j4 := HB6.out.cell 4; have j5 := HB6.out.cell 5; have j7 := HB6.out.cell 7; have HU := Lib.hid hU))
  all_goals
    go_wp2
    go_ret
    exact ⟨rfl, HU.out.earlier HC0.out⟩
end
end Go.Proofs
end
section
namespace Go.Proofs
open Go.RowKit
set_option linter.unusedVariables false
/-- All budgets together stay. -/
def keepK (kind : Int) : Bool := !(kind == 1) && !(kind == 7)
theorem do_any {w : World} {c h : Nat} {S SR : List Nat} {t : Tab Cx} {r : RTab} {most N : Int} (P : Pair w c S h SR t r most N) (hN : N + 1 ≤ 1000) (a : ActC) (hF : a.Fits) :
    Calls Tryz.prog 12 #[ptr c, ptr h, .agg a.cells.toArray] w (DoPost (keepK a.kind) c S h SR t most N w) := by
  obtain ⟨kind, ri, rq, ti, tq, A, B, T⟩ := a
  by_cases h1 : kind = 1
  · subst h1; exact do1 P hN hF
  by_cases h2 : kind = 2
  · subst h2; exact do2 P hN hF
  by_cases h3 : kind = 3
  · subst h3; exact do3 P hN hF
  by_cases h4 : kind = 4
  · subst h4; exact do4 P hN hF
  by_cases h5 : kind = 5
  · subst h5; exact do5 P hN hF
  by_cases h6 : kind = 6
  · subst h6; exact do6 P hN hF
  by_cases h7 : kind = 7
  · subst h7; exact do7 P hN hF
  have e : keepK kind = true := by unfold keepK; simp [h1, h7]
  show Calls Tryz.prog 12 _ w (DoPost (keepK kind) c S h SR t most N w)
  rw [e]
  exact do0 P hN hF ⟨h1, h2, h3, h4, h5, h6, h7⟩
end Go.Proofs
end
section
namespace Go.Proofs
open Go.RowKit
set_option linter.unusedVariables false
def sameB (x y : Cx) : Bool := (x.b == y.b) && ((x.p == y.p) && ((x.n == y.n) && decide (x.l = y.l)))
theorem sameB_iff {x y : Cx} : sameB x y = true ↔ Alike x y := by
  unfold sameB
  simp only [Bool.and_eq_true, beq_iff_eq, decide_eq_true_iff]
  exact ⟨fun ⟨a, b, c, d⟩ => ⟨a, b, c, d⟩, fun ⟨a, b, c, d⟩ => ⟨a, b, c, d⟩⟩
set_option maxHeartbeats 1600000 in
set_option maxRecDepth 100000 in
theorem sameone_any {w : World} {x y : Cx} (hx : Rd w x.v x.l) (hy : Rd w y.v y.l) (hn : x.l.length ≤ 100000) :
    Calls Tryz.prog 19 #[.agg #[.int .u64 x.b, .int .u64 x.p, .slice x.a x.m x.c, .int .i64 x.n], .agg #[.int .u64 y.b, .int .u64 y.p, .slice y.a y.m y.c, .int .i64 y.n]] w fun e w' => e = .returned (.bool (sameB x y)) ∧ Chg [] w w' := by
  have HS := Lib.hid (fun W (hW : Chg [] w W) => same_any (hx.quiet hW).inn (hy.quiet hW).inn hn)
  unfold sameB
  obtain ⟨xb, xp, xa, xm, xc, xn, xl⟩ := x
  obtain ⟨yb, yp, ya, ym, yc, yn, yl⟩ := y
  obtain ⟨D, hD⟩ : ∃ D, D = decide (xl = yl) := ⟨_, rfl⟩
  simp only [← hD] at HS ⊢
  clear hx hy hn hD
  cases h1 : (xb == yb) with
  | false =>
    go_enter Tryz.func19, Tryz.ntmps19
    go_wp2
    go_ret
    exact ⟨rfl, by repeat' (first | with_reducible exact Chg.refl [] _ | with_reducible apply Chg.alloc | with_reducible apply Chg.drew)⟩
  | true =>
  cases h2 : (xp == yp) with
  | false =>
    go_enter Tryz.func19, Tryz.ntmps19
    go_wp2
    go_ret
    exact ⟨rfl, by repeat' (first | with_reducible exact Chg.refl [] _ | with_reducible apply Chg.alloc | with_reducible apply Chg.drew)⟩
  | true =>
  cases h3 : (xn == yn) with
  | false =>
    go_enter Tryz.func19, Tryz.ntmps19
    go_wp2
    go_ret
    exact ⟨rfl, by repeat' (first | with_reducible exact Chg.refl [] _ | with_reducible apply Chg.alloc | with_reducible apply Chg.drew)⟩
  | true =>
    go_enter Tryz.func19, Tryz.ntmps19
    go_wp2_with (go_at_call 59; refine (HS.out _ (((Chg.refl [] w).alloc _).alloc _)).mono ?_; rintro e w1 ⟨rfl, hc⟩; have HC := Lib.hid ((((Chg.refl [] w).alloc _).alloc _).then hc); clear hc)
    go_ret
    exact ⟨by simp, HC.out⟩
end Go.Proofs
end
section
namespace Go.Proofs
open Go.RowKit
set_option linter.unusedVariables false
/-- How many of the first places are there. -/
def cT (r : RTab) (j : Nat) : Nat := (r.L.take j).countP (fun p => p.there)
theorem cT_le (r : RTab) (j : Nat) : cT r j ≤ j := by unfold cT; exact Nat.le_trans List.countP_le_length (by rw [List.length_take]; omega)
theorem cT_succ {r : RTab} {j : Nat} {p : Pl} (hp : r.L[j]? = some p) : cT r (j + 1) = cT r j + if p.there then 1 else 0 := by
  unfold cT
  have hj := (List.getElem?_eq_some_iff.1 hp).1
  rw [List.take_add_one, hp, List.countP_append]
  simp only [Option.toList]
  rw [List.countP_cons, List.countP_nil]
  cases p.there <;> rfl
theorem cT_free (r : RTab) : ∀ j, j ≤ r.L.length → cT r j + ((List.range j).filter (fun k => !thAt r.L k)).length = j
  | 0, _ => by simp [cT]
  | j + 1, hj => by
    have ih := cT_free r j (by omega)
    obtain ⟨p, hp⟩ : ∃ p, r.L[j]? = some p := ⟨_, List.getElem?_eq_getElem (by omega)⟩
    have e : thAt r.L j = p.there := by unfold thAt; rw [hp]
    rw [cT_succ hp, List.range_succ, List.filter_append, List.length_append]
    have e2 : ((([j] : List Nat).filter (fun k => !thAt r.L k)).length : Nat) = if p.there then 0 else 1 := by
      rw [List.filter_cons, e]; cases p.there <;> rfl
    rw [e2]
    cases p.there <;> simp <;> omega
theorem Sim.count {t : Tab Cx} {r : RTab} (h : Sim t r) (hw : t.WF) (hl : Low t) : (cT r r.L.length : Int) = t.size - t.frees := by
  have hlen := h.len
  have hwl := hw.len
  have h1 := cT_free r r.L.length (Nat.le_refl _)
  have hp : ((List.range r.L.length).filter (fun k => !thAt r.L k)).Perm (t.freed ++ List.range' t.spots.length (r.L.length - t.spots.length)) := by
    rw [List.perm_ext_iff_of_nodup]
    · intro k
      simp only [List.mem_filter, List.mem_range, List.mem_append, List.mem_range'_1, Bool.not_eq_true']
      constructor
      · rintro ⟨hk, ht⟩
        rcases (h.free_iff hw hl k hk).1 ht with h2 | h2
        · exact .inl h2
        · exact .inr (by omega)
      · intro hk
        have hkl : k < r.L.length := by
          rcases hk with hk | hk
          · have := hw.freed_lt k hk; omega
          · omega
        exact ⟨hkl, (h.free_iff hw hl k hkl).2 (hk.imp id (fun h2 => ⟨h2.1, by omega⟩))⟩
    · exact List.nodup_range.filter _
    · rw [List.nodup_append]
      refine ⟨hw.nodup, List.nodup_range', fun a ha b hb e => ?_⟩
      subst e
      have := hw.freed_lt a ha
      rw [List.mem_range'_1] at hb
      omega
  have h2 := hp.length_eq
  rw [List.length_append, List.length_range'] at h2
  have hb : t.frees = t.size - t.spots.length + t.freed.length := rfl
  omega
end Go.Proofs
end
section
namespace Go.Proofs
open Go.RowKit
set_option linter.unusedVariables false
/-! ### The chapter's row -/
abbrev k0 : Tab Cx := ⟨2, 1, [], [], 0⟩
abbrev k1 (A : Option Addr) (cc : Nat) : Tab Cx := ⟨2, 1, [⟨1, true, ⟨5, 10, A, 1, cc, 0, [(5, 0)]⟩⟩], [], 0⟩
abbrev k2 (A : Option Addr) (m cc : Nat) (A2 : Option Addr) (c2 : Nat) : Tab Cx := ⟨2, 1, [⟨1, true, ⟨3, 10, A, m, cc, 0, [(3, 0)]⟩⟩, ⟨1, true, ⟨2, 10, A2, 1, c2, 0, [(2, 1)]⟩⟩], [], 0⟩
theorem kn1 : makeE k0 5 10 0 = 0 := by decide
theorem kn2 (A : Option Addr) (cc : Nat) : k0.put cx0 ⟨5, 10, A, 1, cc, 0, [(5, 0)]⟩ = k1 A cc := rfl
theorem kn3 (A : Option Addr) (cc : Nat) : splitE (k1 A cc) 0 1 2 1 = 0 := by rfl
theorem kn4 (A A' A2 : Option Addr) (cc m cc' c2 : Nat) : (((k1 A cc).thing (0 : Int).toNat ⟨((k1 A cc).at_ 0 1).b - 2, ((k1 A cc).at_ 0 1).p, A', m, cc', ((k1 A cc).at_ 0 1).n, (pullP ((k1 A cc).at_ 0 1).l 1 2).1⟩).put cx0 ⟨2, ((k1 A cc).at_ 0 1).p, A2, 1, c2, 0, [(2, 1)]⟩) = k2 A' m cc' A2 c2 := by rfl
theorem kn5 (A : Option Addr) (cc : Nat) : (k1 A cc).at_ 0 1 = ⟨5, 10, A, 1, cc, 0, [(5, 0)]⟩ := rfl
theorem kn6 (A A2 : Option Addr) (m cc c2 : Nat) : (k2 A m cc A2 c2).at_ 0 1 = ⟨3, 10, A, m, cc, 0, [(3, 0)]⟩ ∧ (k2 A m cc A2 c2).at_ 1 1 = ⟨2, 10, A2, 1, c2, 0, [(2, 1)]⟩ ∧ staleE (k2 A m cc A2 c2) 0 1 = 0 ∧ staleE (k2 A m cc A2 c2) 1 1 = 0 := ⟨rfl, rfl, rfl, rfl⟩
/-- The calls of the chapter's row, each with all that is wanted of it. -/
theorem kn_new (w : World) : Calls Tryz.prog 9 #[.int .i64 2, .int .i64 4] w fun e w' => ∃ c g, e = .returned (.tuple #[.pointer (some ⟨c, 0, none⟩), .int .i64 0]) ∧ CtxAt w' c [g] k0 4 ∧ w.heap.size ≤ c ∧ w.heap.size ≤ g ∧ Chg [] w w' := New_yes w (by decide)
theorem kn_make {w : World} {c : Nat} {S : List Nat} (h : CtxAt w c S k0 4) : Calls Tryz.prog 17 #[ptr c, .int .u64 5, .int .u64 10, .int .u64 0] w fun e w' => ∃ A cc, e = .returned (.tuple #[.agg #[.int .i64 0, .int .u64 1], .int .i64 0]) ∧ CtxTurns c S (k1 A cc) 4 w w' := by
  refine (make_yes h 5 10 0 kn1).mono ?_
  rintro e w' ⟨A, cc, rfl, hT⟩
  exact ⟨A, cc, rfl, hT⟩
theorem kn_split {w : World} {c : Nat} {S : List Nat} {A : Option Addr} {cc : Nat} (h : CtxAt w c S (k1 A cc) 4) : Calls Tryz.prog 25 #[ptr c, .agg #[.int .i64 0, .int .u64 1], .int .u64 2, .int .u64 1] w fun e w' => ∃ A' m cc' A2 c2, e = .returned (.tuple #[.agg #[.int .i64 1, .int .u64 1], .int .i64 0]) ∧ CtxTurns c S (k2 A' m cc' A2 c2) 4 w w' := by
  refine (Split_yes h (i := 0) (q := 1) (am := 2) (now := 1) (by omega) (by omega) (by rw [kn5]; exact Ok.cons ⟨by decide, by decide⟩ ⟨by decide, by decide⟩ Ok.nil) (by rw [kn5]; show (1 : Nat) ≤ 100000; omega) (kn3 A cc) ⟨by decide, by decide⟩ (by rw [kn5]; show (5 : Int) < 18446744073709551616; omega)).mono ?_
  rintro e w' ⟨A', m, cc', A2, c2, rfl, hT⟩
  exact ⟨A', m, cc', A2, c2, rfl, hT⟩
theorem kn_get1 {w : World} {c : Nat} {S : List Nat} {A A2 : Option Addr} {m cc c2 : Nat} (h : CtxAt w c S (k2 A m cc A2 c2) 4) : Calls Tryz.prog 24 #[ptr c, .agg #[.int .i64 0, .int .u64 1]] w fun e w' => ∃ B n, e = .returned (.tuple #[.agg #[.int .u64 3, .int .u64 10, .slice B 1 n, .int .i64 0], .int .i64 0]) ∧ Rd w' (.slice B 1 n) [(3, 0)] ∧ Chg [] w w' := by
  refine (Get_any h (i := 0) (q := 1) (by omega) (by omega) (by rw [(kn6 A A2 m cc c2).1]; show (1 : Nat) ≤ 100000; omega)).mono ?_
  rintro e w' ⟨B, n, rfl, ho⟩
  exact ⟨B, n, rfl, ho.rd, ho.2.2⟩
theorem kn_get2 {w : World} {c : Nat} {S : List Nat} {A A2 : Option Addr} {m cc c2 : Nat} (h : CtxAt w c S (k2 A m cc A2 c2) 4) : Calls Tryz.prog 24 #[ptr c, .agg #[.int .i64 1, .int .u64 1]] w fun e w' => ∃ B n, e = .returned (.tuple #[.agg #[.int .u64 2, .int .u64 10, .slice B 1 n, .int .i64 0], .int .i64 0]) ∧ Rd w' (.slice B 1 n) [(2, 1)] ∧ Chg [] w w' := by
  refine (Get_any h (i := 1) (q := 1) (by omega) (by omega) (by rw [(kn6 A A2 m cc c2).2.1]; show (1 : Nat) ≤ 100000; omega)).mono ?_
  rintro e w' ⟨B, n, rfl, ho⟩
  exact ⟨B, n, rfl, ho.rd, ho.2.2⟩
theorem kn_same {w : World} {B : Option Addr} {n g : Nat} {b am at_ : Int} (h : Rd w (.slice B 1 n) [(am, at_)]) (hg : Rd w (.slice (some ⟨g, 0, none⟩) 1 1) [(am, at_)]) : Calls Tryz.prog 19 #[.agg #[.int .u64 b, .int .u64 10, .slice B 1 n, .int .i64 0], .agg #[.int .u64 b, .int .u64 10, .slice (some ⟨g, 0, none⟩) 1 1, .int .i64 0]] w fun e w' => e = .returned (.bool true) ∧ Chg [] w w' := by
  refine (sameone_any (x := ⟨b, 10, B, 1, n, 0, [(am, at_)]⟩) (y := ⟨b, 10, some ⟨g, 0, none⟩, 1, 1, 0, [(am, at_)]⟩) h hg (by show (1 : Nat) ≤ 100000; omega)).mono ?_
  rintro e w' ⟨rfl, hc⟩
  exact ⟨by rw [(sameB_iff (x := ⟨b, 10, B, 1, n, 0, [(am, at_)]⟩) (y := ⟨b, 10, some ⟨g, 0, none⟩, 1, 1, 0, [(am, at_)]⟩)).2 ⟨rfl, rfl, rfl, rfl⟩], hc⟩
end Go.Proofs
end
