import Derived.Test.YtocdkomjdcccoaaCoT
namespace Go.Proofs
open Go.RowKit
set_option linter.unusedVariables false
theorem pull_facts {l : List Rf} (hk : Ok l) (hm : mayP l = true) {now am : Int} (h0 : 1 ≤ am) (h1 : am ≤ thereP l now) :
    Ok (pullP l now am).1 ∧ mayP (pullP l now am).1 = true ∧ sumP (pullP l now am).1 = sumP l - am ∧ (pullP l now am).1.length ≤ l.length := by
  obtain ⟨t, r, hd, ht1, hrl, hrt, hrp, hrz, hro, hrs, hrn⟩ := due_parts hk hm (now := now) (by omega)
  have hsl := (mayP_iff.1 hm).1
  have e : (pullP l now am).1 = decP ((thereP l now, t) :: r) am := by
    unfold pullP
    rw [if_neg (by rw [hm]; simp; omega), if_neg (by omega), hd]
  rw [e]
  have hsr := sumP_nonneg hro.tail
  have hU := hro.head
  refine ⟨hro.dec (by omega) h1, ?_, ?_, ?_⟩
  · rw [mayP_iff, sumP_dec]
    refine ⟨by show thereP l now + sumP r - am < _; omega, ?_⟩
    rw [decP_cons]
    split
    · exact fineP_pw.2 ⟨hrp, hrz⟩
    · rename_i hne
      refine fineP_pw.2 ⟨List.pairwise_cons.2 ⟨fun x hx => by have := hrl x hx; show t < x.2; omega, hrp⟩, fun x hx => ?_⟩
      rcases List.mem_cons.1 hx with rfl | hx
      · show thereP l now - am ≠ 0; omega
      · exact hrz x hx
  · rw [sumP_dec]; show thereP l now + sumP r - am = _; omega
  · have := dec_len (thereP l now) t r am; omega
theorem give_facts {l : List Rf} (hk : Ok l) (hm : mayP l = true) {now am most : Int} (hn : U64 now) (h0 : 1 ≤ am) (h1 : sumP l + am < 18446744073709551616) (h2 : 1 ≤ most) (h3 : (l.length : Int) ≤ most) :
    ((giveP l now am most).2 = 0 ∨ (giveP l now am most).2 = 3) ∧ ((giveP l now am most).2 = 0 → Ok (giveP l now am most).1 ∧ mayP (giveP l now am most).1 = true ∧ sumP (giveP l now am most).1 = sumP l + am ∧ ((giveP l now am most).1.length : Int) ≤ most) := by
  have hh : holdsP l most = true := by unfold holdsP; simp; omega
  have hs0 := sumP_nonneg hk
  have e : giveP l now am most = if 1 ≤ thereP l now then (incP (dueL l now) am, 0) else if (l.length : Int) = most then ([], 3) else ((am, now) :: l, 0) := by
    unfold giveP
    rw [if_neg (by rw [hm, hh]; simp; omega), if_neg (by omega)]
  rw [e]
  by_cases ht : 1 ≤ thereP l now
  · obtain ⟨t, r, hd, ht1, hrl, hrt, hrp, hrz, hro, hrs, hrn⟩ := due_parts hk hm ht
    rw [if_pos ht, hd]
    refine ⟨.inl rfl, fun _ => ?_⟩
    show Ok ((thereP l now + am, t) :: r) ∧ _
    have hsr := sumP_nonneg hro.tail
    have hU := hro.head
    refine ⟨Ok.cons ⟨by omega, by omega⟩ hU.2 hro.tail, ?_, ?_, ?_⟩
    · refine mayP_iff.2 ⟨by show thereP l now + am + sumP r < _; omega, fineP_pw.2 ⟨List.pairwise_cons.2 ⟨fun x hx => by have := hrl x hx; show t < x.2; omega, hrp⟩, fun x hx => ?_⟩⟩
      rcases List.mem_cons.1 hx with rfl | hx
      · show thereP l now + am ≠ 0; omega
      · exact hrz x hx
    · show thereP l now + am + sumP r = _; omega
    · show (((thereP l now + am, t) :: r).length : Int) ≤ most
      simp; omega
  · rw [if_neg ht]
    by_cases hf : (l.length : Int) = most
    · rw [if_pos hf]; exact ⟨.inr rfl, fun h => by cases h⟩
    · rw [if_neg hf]
      refine ⟨.inl rfl, fun _ => ?_⟩
      show Ok ((am, now) :: l) ∧ _
      have hfp := (mayP_iff.1 hm).2
      obtain ⟨p1, p2⟩ := fineP_pw.1 hfp
      have hlate : ∀ x ∈ l, now < x.2 := by
        have h0' : dueN l now = 0 := by
          refine Classical.byContradiction (fun e => ht ?_)
          rw [thereP_fine hk hm]
          exact due_sum hk hfp (by omega) (dueN_le l now)
        have := late_rest hfp now
        rw [h0'] at this
        simpa using this
      refine ⟨Ok.cons ⟨by omega, by omega⟩ hn hk, mayP_iff.2 ⟨by show am + sumP l < _; omega, fineP_pw.2 ⟨List.pairwise_cons.2 ⟨fun x hx => hlate x hx, p1⟩, fun x hx => ?_⟩⟩, by show am + sumP l = _; omega, by show (((am, now) :: l).length : Int) ≤ most; simp; omega⟩
      rcases List.mem_cons.1 hx with rfl | hx
      · show am ≠ 0; omega
      · exact p2 x hx
/-- What each context is. -/
structure XOk (most N : Int) (x : Cx) : Prop where
  b0 : 1 ≤ x.b
  b1 : x.b ≤ 4294967296
  p0 : 1 ≤ x.p
  p1 : x.p ≤ 4294967296
  ok : Ok x.l
  may : mayP x.l = true
  sum : sumP x.l = x.b
  len : (x.l.length : Int) ≤ most
  n0 : 0 ≤ x.n
  n1 : x.n ≤ N
theorem XOk.more {most N : Int} {x : Cx} (h : XOk most N x) : XOk most (N + 1) x := { h with n1 := by have := h.n1; omega }
/-- What the table of contexts is, behind N acts. -/
structure Inv (most N : Int) (t : Tab Cx) : Prop where
  wf : t.WF
  size : t.size ≤ 32
  first : t.first = 1
  ret : t.retired = 0
  low : ∀ (k : Nat) (s : Spot Cx), t.spots[k]? = some s → s.gen ≤ N + 1
  xs : ∀ (k : Nat) (s : Spot Cx), t.spots[k]? = some s → s.there = true → XOk most N s.thing
  m0 : 2 ≤ most
  m1 : most ≤ 16
  N0 : 0 ≤ N
  N1 : N ≤ 1000
theorem Inv.new {size most : Int} (h : mayC size most = true) : Inv most 0 ⟨size, 1, [], [], 0⟩ := by
  obtain ⟨a, b, c, d⟩ := mayC_iff.1 h
  exact ⟨Tab.WF.new a (by omega) (by omega) (by rw [topG_val]; omega), b, rfl, rfl, (fun k s hs => by simp at hs), (fun k s hs => by simp at hs), c, d, by omega, by omega⟩
theorem Inv.at_ {most N : Int} {t : Tab Cx} (h : Inv most N t) {i q : Int} (hq : t.has i q = true) : XOk most N (t.at_ i q) := by
  obtain ⟨s, hl, he⟩ := has_iff.1 hq
  obtain ⟨j0, hs, hth⟩ := live_iff.1 hl
  rw [at_yes hl he]
  exact h.xs _ s hs hth
/-- What is known of what a ref names, also where it is stale. -/
theorem Inv.any {most N : Int} {t : Tab Cx} (h : Inv most N t) (i q : Int) : Ok (t.at_ i q).l ∧ (t.at_ i q).l.length ≤ 16 ∧ 0 ≤ (t.at_ i q).b ∧ (t.at_ i q).b ≤ 4294967296 ∧ U64 (t.at_ i q).p ∧ 0 ≤ (t.at_ i q).n ∧ (t.at_ i q).n ≤ N := by
  cases hq : t.has i q with
  | false =>
    rw [at_no hq]
    have := h.N0
    exact ⟨Ok.nil, by show 0 ≤ 16; omega, by show (0 : Int) ≤ 0; omega, by show (0 : Int) ≤ 4294967296; omega, ⟨by show (0 : Int) ≤ 0; omega, by show (0 : Int) < _; omega⟩, by show (0 : Int) ≤ 0; omega, this⟩
  | true =>
    have hx := h.at_ hq
    have := hx.len
    have := h.m1
    exact ⟨hx.ok, by omega, by have := hx.b0; omega, hx.b1, ⟨by have := hx.p0; omega, by have := hx.p1; omega⟩, hx.n0, hx.n1⟩
theorem Inv.gen {most N : Int} {t : Tab Cx} (h : Inv most N t) {i q : Int} (hq : t.has i q = true) : 1 ≤ q ∧ q ≤ N + 1 := by
  obtain ⟨s, hl, rfl⟩ := has_iff.1 hq
  obtain ⟨j0, hs, hth⟩ := live_iff.1 hl
  have := (h.wf.gens _ s hs).1
  have := h.first
  exact ⟨by omega, h.low _ s hs⟩
theorem Inv.more {most N : Int} {t : Tab Cx} (h : Inv most N t) (hN : N + 1 ≤ 1000) : Inv most (N + 1) t :=
  { h with low := fun k s hs => by have := h.low k s hs; omega, xs := fun k s hs hth => (h.xs k s hs hth).more, N0 := by have := h.N0; omega, N1 := hN }
theorem Inv.thing {most N : Int} {t : Tab Cx} (h : Inv most N t) (i : Nat) {x : Cx} (hx : XOk most N x) : Inv most N (t.thing i x) := by
  have hwf := h.wf.thing i x
  unfold Tab.thing at hwf ⊢
  cases hs : t.spots[i]? with
  | none => rw [hs] at hwf; exact h
  | some s =>
    rw [hs] at hwf
    have hi := (List.getElem?_eq_some_iff.1 hs).1
    have key : ∀ (k : Nat) (s' : Spot Cx), (t.spots.set i { s with thing := x })[k]? = some s' → (k = i ∧ s' = { s with thing := x }) ∨ t.spots[k]? = some s' := fun k s' hk => by
      by_cases e : k = i
      · subst e; rw [List.getElem?_set_self hi] at hk; cases hk; exact .inl ⟨rfl, rfl⟩
      · rw [List.getElem?_set_ne (fun e' => e e'.symm)] at hk; exact .inr hk
    refine ⟨hwf, h.size, h.first, h.ret, fun k s' hk => ?_, fun k s' hk hth => ?_, h.m0, h.m1, h.N0, h.N1⟩
    · rcases key k s' hk with ⟨_, rfl⟩ | hk
      · exact h.low i s hs
      · exact h.low k s' hk
    · rcases key k s' hk with ⟨_, rfl⟩ | hk
      · exact hx
      · exact h.xs k s' hk hth
theorem Inv.put {most N : Int} {t : Tab Cx} (h : Inv most N t) (hf : t.frees ≠ 0) {x : Cx} (hx : XOk most N x) : Inv most N (t.put cx0 x) := by
  obtain ⟨p1, p2, p3⟩ := put_same (z := cx0) (t := t) x
  have hgen : t.genAt t.takeAt ≤ N + 1 := by
    obtain ⟨s, hs, hth, hg, hfg, hnf, hlv, hge, hlt⟩ := h.wf.take_at (z := cx0) hf
    unfold Tab.genAt
    cases hk : t.spots[t.takeAt]? with
    | none => simp only; rw [h.first]; have := h.N0; omega
    | some s' => exact h.low _ s' hk
  refine ⟨h.wf.put hf x, by rw [p1]; exact h.size, by rw [p2]; exact h.first, by rw [p3]; exact h.ret, fun k s' hk => ?_, fun k s' hk hth => ?_, h.m0, h.m1, h.N0, h.N1⟩
  · rw [put_spots h.wf hf] at hk
    by_cases e : k = t.takeAt
    · rw [if_pos e] at hk; cases hk; exact hgen
    · rw [if_neg e] at hk; exact h.low k s' hk
  · rw [put_spots h.wf hf] at hk
    by_cases e : k = t.takeAt
    · rw [if_pos e] at hk; cases hk; exact hx
    · rw [if_neg e] at hk; exact h.xs k s' hk hth
theorem Inv.drop {most N : Int} {t : Tab Cx} (h : Inv most N t) (hN : N + 1 ≤ 1000) {i q : Int} (hq : t.has i q = true) : Inv most (N + 1) (t.drop cx0 i.toNat q) := by
  obtain ⟨g0, g1⟩ := h.gen hq
  obtain ⟨s, hl, rfl⟩ := has_iff.1 hq
  obtain ⟨j0, hs, hth⟩ := live_iff.1 hl
  have hi := (List.getElem?_eq_some_iff.1 hs).1
  have hnr : ¬ topG ≤ s.gen + 1 := by rw [topG_val]; omega
  refine ⟨h.wf.drop hs hth, h.size, h.first, by unfold Tab.drop; simp only; rw [if_neg hnr]; exact h.ret, fun k s' hk => ?_, fun k s' hk hth' => ?_, h.m0, h.m1, by have := h.N0; omega, hN⟩
  · rw [drop_spots hi] at hk
    by_cases e : k = i.toNat
    · rw [if_pos e] at hk; cases hk; show s.gen + 1 ≤ N + 1 + 1; omega
    · rw [if_neg e] at hk; have := h.low k s' hk; omega
  · rw [drop_spots hi] at hk
    by_cases e : k = i.toNat
    · rw [if_pos e] at hk; cases hk; cases hth'
    · rw [if_neg e] at hk; exact (h.xs k s' hk hth').more
end Go.Proofs
