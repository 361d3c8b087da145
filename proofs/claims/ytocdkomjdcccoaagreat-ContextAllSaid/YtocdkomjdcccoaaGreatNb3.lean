import Derived.Test.YtocdkomjdcccoaaGreatNb1
import Derived.Test.YtocdkomjdcccoaaGreatNb2
import Derived.Test.YtocdkomjdcccoaaGreatM17
section
namespace Go.Proofs
open Go.RowKit
set_option linter.unusedVariables false
set_option linter.unusedSimpArgs false
/-- Two places are the same: nothing is there, or the same under the same ref. -/
def samePl (p q : Pl) : Bool := (p.there == q.there) && (!p.there || ((p.gen == q.gen) && sameB p.x q.x))
def sameK (r r2 : RTab) (k : Nat) : Bool := match r.L[k]?, r2.L[k]? with | some p, some q => samePl p q | _, _ => true
def sameR (r r2 : RTab) : Bool := (r.L.length == r2.L.length) && ((r.most == r2.most) && (List.range r.L.length).all (sameK r r2))
theorem sameK_at {r r2 : RTab} {k : Nat} {p q : Pl} (hp : r.L[k]? = some p) (hq : r2.L[k]? = some q) : sameK r r2 k = samePl p q := by unfold sameK; rw [hp, hq]
theorem all_more {f : Nat → Bool} {k : Nat} (h : ∀ j, j < k → f j = true) (hk : f k = true) : ∀ j, j < k + 1 → f j = true := fun j hj => by
  by_cases e : j = k
  · subst e; exact hk
  · exact h j (by omega)
theorem all_no {f : Nat → Bool} {n k : Nat} (hk : k < n) (h : f k = false) : (List.range n).all f = false := by
  rw [List.all_eq_false]
  exact ⟨k, List.mem_range.2 hk, by simp [h]⟩
theorem all_yes {f : Nat → Bool} {n : Nat} (h : ∀ j, j < n → f j = true) : (List.range n).all f = true := by
  rw [List.all_eq_true]
  exact fun k hk => h k (List.mem_range.1 hk)
abbrev obPl (p : Pl) : Obj := .cells #[.int .u64 p.gen, .bool p.there, .int .u64 p.x.b, .int .u64 p.x.p, .slice p.x.a p.x.m p.x.c, .int .i64 p.x.n, .int .i64 p.freed] 54
set_option maxHeartbeats 12800000 in
set_option maxRecDepth 100000 in
theorem rSame_any {w : World} {h h2 : Nat} {S S2 : List Nat} {r r2 : RTab} (hr : RefAt w h S r) (hr2 : RefAt w h2 S2 r2) (hn : r.L.length ≤ 100) (hn2 : r2.L.length ≤ 100) (hl : ∀ (k : Nat) (p : Pl), r.L[k]? = some p → p.there = true → p.x.l.length ≤ 100000) :
    Calls Tryz.prog 23 #[ptr h, ptr h2] w fun e w' => e = .returned (.bool (sameR r r2)) ∧ Chg [] w w' := by
  obtain ⟨V1, hB, hL, hS, hG⟩ := hr
  obtain ⟨V2, hB2, hL2, hS2, hG2⟩ := hr2
  obtain ⟨A1, c1, rfl, _⟩ := hL.val
  obtain ⟨A2, c2, rfl, _⟩ := hL2.val
  obtain ⟨n1, e1⟩ : ∃ n, n = r.L.length := ⟨_, rfl⟩
  obtain ⟨n2, e2⟩ : ∃ n, n = r2.L.length := ⟨_, rfl⟩
  have a0 := hB.cell 0
  have a2 := hB.cell 2
  have b0 := hB2.cell 0
  have b2 := hB2.cell 2
  have l1 := hB.lt
  have l2 := hB2.lt
  simp only [List.getElem?_toArray, List.getElem?_cons_succ, List.getElem?_cons_zero] at a0 a2 b0 b2
  rw [← e1] at a0 hn
  rw [← e2] at b0 hn2
  have HB := Lib.hid hB
  have HB2 := Lib.hid hB2
  have HL := Lib.hid hL
  have HL2 := Lib.hid hL2
  have HG := Lib.hid hG
  have HG2 := Lib.hid hG2
  have HLN := Lib.hid hl
  have E1 := Lib.hid e1
  have E2 := Lib.hid e2
  have hsr : sameR r r2 = (((n1 : Int) == (n2 : Int)) && ((r.most == r2.most) && (List.range n1).all (sameK r r2))) := by
    unfold sameR
    rw [← e1, ← e2]
    have : ((n1 : Int) == (n2 : Int)) = (n1 == n2) := by rw [Bool.eq_iff_iff, beq_iff_eq, beq_iff_eq]; omega
    rw [this]
  obtain ⟨M1, hM1⟩ : ∃ M, M = r.most := ⟨_, rfl⟩
  obtain ⟨M2, hM2⟩ : ∃ M, M = r2.most := ⟨_, rfl⟩
  rw [← hM1] at a2 hsr
  rw [← hM2] at b2 hsr
  clear hB hB2 hL hL2 hS hS2 hG hG2 hl e1 e2 hM1 hM2
  cases hz : ((n1 : Int) == (n2 : Int)) with
  | false =>
    have HR : Hid (sameR r r2 = false) := Lib.hid (by rw [hsr, hz]; rfl)
    have hz' : ((n1 : Int) != (n2 : Int)) = true := by simpa [bne] using hz
    clear hsr
    go_enter Tryz.func23, Tryz.ntmps23
    go_wp2
    go_quiet (fail)
    go_wp2
    go_ret
    exact ⟨by rw [HR.out]; rfl, (Chg.refl _ _).drewN _⟩
  | true =>
  have hz' : ((n1 : Int) != (n2 : Int)) = false := by simpa [bne] using hz
  cases hm : (M1 == M2) with
  | false =>
    have HR : Hid (sameR r r2 = false) := Lib.hid (by rw [hsr, hz, hm]; rfl)
    have hm' : (M1 != M2) = true := by simpa [bne] using hm
    clear hsr
    go_enter Tryz.func23, Tryz.ntmps23
    go_wp2
    go_quiet (fail)
    go_wp2
    go_ret
    exact ⟨by rw [HR.out]; rfl, (Chg.refl _ _).drewN _⟩
  | true =>
  have hm' : (M1 != M2) = false := by simpa [bne] using hm
  have HR : Hid (sameR r r2 = (List.range n1).all (sameK r r2)) := Lib.hid (by rw [hsr, hz, hm]; rfl)
  obtain rfl : n1 = n2 := by have : (n1 : Int) = (n2 : Int) := by simpa using hz
                             omega
  clear hsr
  go_enter Tryz.func23, Tryz.ntmps23
  go_wp2
  go_quiet (fail)
  go_wp2
  go_loopg [5] n1 (fun gh s wx => ∃ k : Nat, k + gh = n1 ∧ s = .int .i64 k ∧ Hid ((∀ j, j < k → sameK r r2 j = true) ∧ Chg [] w wx))
  case atStart => exact ⟨0, by omega, rfl, Lib.hid ⟨fun j hj => by omega, (Chg.refl _ _).drewN _⟩⟩
  case round =>
    obtain ⟨k, hk, rfl, HI⟩ := hrel
    have hb := (HB.out.chg HI.out.2 (by simp))
    have hb2 := (HB2.out.chg HI.out.2 (by simp))
    have d0 := hb.cell 0
    have k0 := hb2.cell 0
    have ld := hb.lt
    have lk := hb2.lt
    simp only [List.getElem?_toArray, List.getElem?_cons_zero] at d0 k0
    rw [← E1.out] at d0
    rw [← E2.out] at k0
    clear hb hb2
    by_cases hlt : k < n1
    · obtain ⟨p, hp⟩ : ∃ p, r.L[k]? = some p := ⟨_, List.getElem?_eq_getElem (by rw [← E1.out]; exact hlt)⟩
      obtain ⟨q, hq⟩ : ∃ q, r2.L[k]? = some q := ⟨_, List.getElem?_eq_getElem (by rw [← E2.out]; exact hlt)⟩
      obtain ⟨ga, ca, hva, _, _, hca, _, lga⟩ := HL.out.form (by have := E1.out; omega)
      obtain ⟨gb, cb, hvb, _, _, hcb, _, lgb⟩ := HL2.out.form (by have := E2.out; omega)
      injection hva with hA1 hA2 hA3
      injection hvb with hB1 hB2 hB3
      subst hA1 hA3 hB1 hB3
      clear hA2 hB2
      obtain ⟨p0, p1, p2, p3, p4, p5, p6⟩ := plCells_at _ _ _ hp
      obtain ⟨q0, q1, q2, q3, q4, q5, q6⟩ := plCells_at _ _ _ hq
      have hca' := fun j u (hj : (plCells r.L)[j]? = some u) => (HI.out.2.cell (p := ⟨ga, j, none⟩) lga (by simp)).trans (hca j u hj)
      have hcb' := fun j u (hj : (plCells r2.L)[j]? = some u) => (HI.out.2.cell (p := ⟨gb, j, none⟩) lgb (by simp)).trans (hcb j u hj)
      have x0 := hca' _ _ p0
      have x1 := hca' _ _ p1
      have x2 := hca' _ _ p2
      have x3 := hca' _ _ p3
      have x4 := hca' _ _ p4
      have x5 := hca' _ _ p5
      have x6 := hca' _ _ p6
      have y0 := hcb' _ _ q0
      have y1 := hcb' _ _ q1
      have y2 := hcb' _ _ q2
      have y3 := hcb' _ _ q3
      have y4 := hcb' _ _ q4
      have y5 := hcb' _ _ q5
      have y6 := hcb' _ _ q6
      have i0 : (0 : Int) ≤ (k : Int) := by omega
      have i1 : (k : Int) < (n1 : Int) := by omega
      have HSK := Lib.hid (sameK_at hp hq)
      have HRP := Lib.hid ((HG.out k p hp).quiet HI.out.2)
      have HRQ := Lib.hid ((HG2.out k q hq).quiet HI.out.2)
      have HLP := Lib.hid (HLN.out k p hp)
      obtain ⟨pg, pt, ⟨pb, pp, pa, pm, pc, pn, pl⟩, pf⟩ := p
      obtain ⟨qg, qt, ⟨qb, qp, qa, qm, qc, qn, ql⟩, qf⟩ := q
      simp only at x0 x1 x2 x3 x4 x5 x6 y0 y1 y2 y3 y4 y5 y6
      clear hp hq hca hcb hca' hcb' p0 p1 p2 p3 p4 p5 p6 q0 q1 q2 q3 q4 q5 q6 a0 a2 b0 b2
      go_wp2
      have HHI := Lib.hid HI.out.2
      go_region_held3 (fun w' => w'.cell? ⟨h, 0, none⟩ = some (.slice (some ⟨ga, 0, none⟩) n1 c1) ∧ w'.cell? ⟨h2, 0, none⟩ = some (.slice (some ⟨gb, 0, none⟩) n1 c2) ∧ w'.cell? ⟨ga, k * 7, none⟩ = some (.int .u64 pg) ∧ w'.cell? ⟨ga, k * 7 + 1, none⟩ = some (.bool pt) ∧ w'.cell? ⟨ga, k * 7 + 2, none⟩ = some (.int .u64 pb) ∧ w'.cell? ⟨ga, k * 7 + 3, none⟩ = some (.int .u64 pp) ∧ w'.cell? ⟨ga, k * 7 + 4, none⟩ = some (.slice pa pm pc) ∧ w'.cell? ⟨ga, k * 7 + 5, none⟩ = some (.int .i64 pn) ∧ w'.cell? ⟨ga, k * 7 + 6, none⟩ = some (.int .i64 pf) ∧ w'.cell? ⟨gb, k * 7, none⟩ = some (.int .u64 qg) ∧ w'.cell? ⟨gb, k * 7 + 1, none⟩ = some (.bool qt) ∧ w'.cell? ⟨gb, k * 7 + 2, none⟩ = some (.int .u64 qb) ∧ w'.cell? ⟨gb, k * 7 + 3, none⟩ = some (.int .u64 qp) ∧ w'.cell? ⟨gb, k * 7 + 4, none⟩ = some (.slice qa qm qc) ∧ w'.cell? ⟨gb, k * 7 + 5, none⟩ = some (.int .i64 qn) ∧ w'.cell? ⟨gb, k * 7 + 6, none⟩ = some (.int .i64 qf))
        (first | go_keep)
        (fail)
      all_goals
        cases pt
        · cases qt
          · have HY : Hid (sameK r r2 k = true) := Lib.hid (by rw [HSK.out]; rfl)
            go_wp2
            go_roundg (n1 - k - 1)
            case measure => omega
            case rel => exact ⟨k + 1, by omega, by go_num, Lib.hid ⟨all_more HI.out.1 HY.out, HHI.out.then (by repeat' (first | with_reducible exact Chg.refl [] _ | with_reducible apply Chg.alloc | with_reducible apply Chg.drew | with_reducible apply Chg.setCell))⟩⟩
          · have HN : Hid (sameR r r2 = false) := Lib.hid (by rw [HR.out]; exact all_no hlt (by rw [HSK.out]; rfl))
            go_wp2
            go_ret
            exact ⟨by rw [HN.out]; rfl, HHI.out.then (by repeat' (first | with_reducible exact Chg.refl [] _ | with_reducible apply Chg.alloc | with_reducible apply Chg.drew | with_reducible apply Chg.setCell))⟩
        · cases qt
          · have HN : Hid (sameR r r2 = false) := Lib.hid (by rw [HR.out]; exact all_no hlt (by rw [HSK.out]; rfl))
            go_wp2
            go_ret
            exact ⟨by rw [HN.out]; rfl, HHI.out.then (by repeat' (first | with_reducible exact Chg.refl [] _ | with_reducible apply Chg.alloc | with_reducible apply Chg.drew | with_reducible apply Chg.setCell))⟩
          · cases hg : (pg == qg) with
            | false =>
              have hg' : (pg != qg) = true := by simpa [bne] using hg
              have HN : Hid (sameR r r2 = false) := Lib.hid (by rw [HR.out]; exact all_no hlt (by rw [HSK.out]; unfold samePl; simp only [hg]; rfl))
              clear hg
              go_wp2
              go_ret
              exact ⟨by rw [HN.out]; rfl, HHI.out.then (by repeat' (first | with_reducible exact Chg.refl [] _ | with_reducible apply Chg.alloc | with_reducible apply Chg.drew | with_reducible apply Chg.setCell))⟩
            | true =>
              have hg' : (pg != qg) = false := by simpa [bne] using hg
              have HSO := Lib.hid (fun W (hc : Chg [] wr W) => sameone_any (x := ⟨pb, pp, pa, pm, pc, pn, pl⟩) (y := ⟨qb, qp, qa, qm, qc, qn, ql⟩) (HRP.out.quiet hc) (HRQ.out.quiet hc) (HLP.out rfl))
              obtain ⟨sb, hsb⟩ : ∃ sb, sb = sameB ⟨pb, pp, pa, pm, pc, pn, pl⟩ ⟨qb, qp, qa, qm, qc, qn, ql⟩ := ⟨_, rfl⟩
              rw [← hsb] at HSO
              have HKK : Hid (sameK r r2 k = sb) := Lib.hid (by rw [HSK.out, hsb]; unfold samePl; simp only [hg]; rfl)
              clear hg hsb
              cases sb with
              | false =>
                have HN : Hid (sameR r r2 = false) := Lib.hid (by rw [HR.out]; exact all_no hlt HKK.out)
                go_wp2_with (go_at_call 19; refine (HSO.out _ (by repeat' (first | with_reducible exact Chg.refl [] _ | with_reducible apply Chg.alloc | with_reducible apply Chg.drew | with_reducible apply Chg.setCell))).mono ?_; rintro e W5 ⟨rfl, hc5⟩; have HC5 := Lib.hid (HHI.out.then (Chg.then (by repeat' (first | with_reducible exact Chg.refl [] _ | with_reducible apply Chg.alloc | with_reducible apply Chg.drew | with_reducible apply Chg.setCell)) hc5)); clear hc5)
                go_ret
                exact ⟨by rw [HN.out]; rfl, HC5.out⟩
              | true =>
                go_wp2_with (go_at_call 19; refine (HSO.out _ (by repeat' (first | with_reducible exact Chg.refl [] _ | with_reducible apply Chg.alloc | with_reducible apply Chg.drew | with_reducible apply Chg.setCell))).mono ?_; rintro e W5 ⟨rfl, hc5⟩; have HC5 := Lib.hid (HHI.out.then (Chg.then (by repeat' (first | with_reducible exact Chg.refl [] _ | with_reducible apply Chg.alloc | with_reducible apply Chg.drew | with_reducible apply Chg.setCell)) hc5)); clear hc5)
                go_roundg (n1 - k - 1)
                case measure => omega
                case rel => exact ⟨k + 1, by omega, by go_num, Lib.hid ⟨all_more HI.out.1 HKK.out, HC5.out⟩⟩
    · obtain rfl : k = n1 := by omega
      have HY : Hid (sameR r r2 = true) := Lib.hid (by rw [HR.out]; exact all_yes HI.out.1)
      go_wp2
      go_ret
      exact ⟨by rw [HY.out]; rfl, HI.out.2⟩
end Go.Proofs
end
section
namespace Go.Proofs
open Go.RowKit
set_option linter.unusedVariables false
set_option linter.unusedSimpArgs false
theorem Alike.symm {x y : Cx} (h : Alike x y) : Alike y x := ⟨h.b.symm, h.p.symm, h.n.symm, h.l.symm⟩
theorem Alike.trans {x y z : Cx} (h : Alike x y) (k : Alike y z) : Alike x z := ⟨h.b.trans k.b, h.p.trans k.p, h.n.trans k.n, h.l.trans k.l⟩
/-- What is there in the one is there in the other. -/
theorem Sim.live_pl {t : Tab Cx} {r : RTab} (h : Sim t r) {k : Nat} {p : Pl} (hp : r.L[k]? = some p) (ht : p.there = true) : ∃ s, t.live (k : Nat) = some s ∧ s.gen = p.gen ∧ Alike s.thing p.x := by
  have hk := (List.getElem?_eq_some_iff.1 hp).1
  have hl := h.len
  by_cases hs : k < t.spots.length
  · obtain ⟨s, hs1⟩ : ∃ s, t.spots[k]? = some s := ⟨_, List.getElem?_eq_getElem hs⟩
    obtain ⟨p', h1, h2, h3, h4⟩ := h.taken k s hs1
    rw [hp] at h1
    cases h1
    exact ⟨s, live_nat.2 ⟨hs1, by rw [← h3]; exact ht⟩, h2.symm, h4⟩
  · have := h.fresh k (by omega) (by omega)
    rw [hp] at this
    cases this
    cases ht
theorem Sim.pl_live {t : Tab Cx} {r : RTab} (h : Sim t r) {k : Nat} {s : Spot Cx} (hs : t.live (k : Nat) = some s) : ∃ p, r.L[k]? = some p ∧ p.there = true ∧ p.gen = s.gen ∧ Alike s.thing p.x := by
  obtain ⟨h1, h2⟩ := live_nat.1 hs
  obtain ⟨p, k1, k2, k3, k4⟩ := h.taken k s h1
  exact ⟨p, k1, by rw [k3]; exact h2, k2, k4⟩
theorem cT_sub {r r2 : RTab} : ∀ k, k ≤ r.L.length → k ≤ r2.L.length → (∀ (j : Nat) (p q : Pl), j < k → r.L[j]? = some p → r2.L[j]? = some q → p.there = true → q.there = true) → cT r k ≤ cT r2 k ∧ (cT r k = cT r2 k → ∀ (j : Nat) (p q : Pl), j < k → r.L[j]? = some p → r2.L[j]? = some q → q.there = true → p.there = true)
  | 0, _, _, _ => ⟨by simp [cT], fun _ j p q hj => by omega⟩
  | k + 1, h1, h2, hs => by
    obtain ⟨ih1, ih2⟩ := cT_sub k (by omega) (by omega) (fun j p q hj => hs j p q (by omega))
    obtain ⟨p, hp⟩ : ∃ p, r.L[k]? = some p := ⟨_, List.getElem?_eq_getElem (by omega)⟩
    obtain ⟨q, hq⟩ : ∃ q, r2.L[k]? = some q := ⟨_, List.getElem?_eq_getElem (by omega)⟩
    have hpq := hs k p q (by omega) hp hq
    rw [cT_succ hp, cT_succ hq]
    refine ⟨?_, fun he j p' q' hj hp' hq' hth => ?_⟩
    · cases e : p.there with
      | false => simp only [Bool.false_eq_true, if_false]; cases q.there <;> simp <;> omega
      | true => rw [hpq e]; simp only [if_true]; omega
    · have key : cT r k = cT r2 k ∧ (q.there = true → p.there = true) := by
        cases e : p.there with
        | true => rw [e, hpq e] at he; simp only [if_true] at he; exact ⟨by omega, fun _ => rfl⟩
        | false =>
          rw [e] at he
          simp only [Bool.false_eq_true, if_false] at he
          cases e2 : q.there with
          | false => rw [e2] at he; simp only [Bool.false_eq_true, if_false] at he; exact ⟨by omega, fun h => h⟩
          | true => rw [e2] at he; simp only [if_true] at he; omega
      by_cases hjk : j = k
      · subst hjk
        rw [hp] at hp'
        rw [hq] at hq'
        cases hp'
        cases hq'
        exact key.2 hth
      · exact ih2 key.1 j p' q' (by omega) hp' hq' hth
theorem samePl_symm (p q : Pl) : samePl p q = samePl q p := by
  have key : ∀ p q : Pl, samePl p q = true → samePl q p = true := fun p q h => by
    unfold samePl at h ⊢
    simp only [Bool.and_eq_true, Bool.or_eq_true, beq_iff_eq, Bool.not_eq_true'] at h ⊢
    obtain ⟨h1, h2⟩ := h
    refine ⟨h1.symm, ?_⟩
    rw [← h1]
    exact h2.imp id (fun ⟨a, b⟩ => ⟨a.symm, sameB_iff.2 (sameB_iff.1 b).symm⟩)
  rw [Bool.eq_iff_iff]
  exact ⟨key p q, key q p⟩
theorem sameR_symm (r r2 : RTab) : sameR r r2 = sameR r2 r := by
  unfold sameR
  have e1 : (r.L.length == r2.L.length) = (r2.L.length == r.L.length) := by rw [Bool.eq_iff_iff, beq_iff_eq, beq_iff_eq]; exact ⟨Eq.symm, Eq.symm⟩
  have e2 : (r.most == r2.most) = (r2.most == r.most) := by rw [Bool.eq_iff_iff, beq_iff_eq, beq_iff_eq]; exact ⟨Eq.symm, Eq.symm⟩
  rw [e1, e2]
  cases h : (r2.L.length == r.L.length) with
  | false => rfl
  | true =>
    have hl : r2.L.length = r.L.length := by simpa using h
    have : sameK r r2 = sameK r2 r := by
      funext k
      unfold sameK
      cases r.L[k]? with
      | none => cases r2.L[k]? <;> rfl
      | some p => cases r2.L[k]? with
        | none => rfl
        | some q => exact samePl_symm p q
    rw [this, hl]
theorem sameR_refl (r : RTab) : sameR r r = true := by
  unfold sameR
  simp only [beq_self_eq_true, Bool.true_and]
  refine all_yes fun k hk => ?_
  obtain ⟨p, hp⟩ : ∃ p, r.L[k]? = some p := ⟨_, List.getElem?_eq_getElem hk⟩
  rw [sameK_at hp hp]
  unfold samePl
  have : sameB p.x p.x = true := sameB_iff.2 (Alike.refl _)
  simp [this]
/-- The document's sameness is the other one's. -/
theorem same_eq {t t2 : Tab Cx} {r r2 : RTab} {most most2 : Int} (s1 : Sim t r) (s2 : Sim t2 r2) (m1 : r.most = most) (m2 : r2.most = most2) (c1 : lenT t = (cT r r.L.length : Int)) (c2 : lenT t2 = (cT r2 r2.L.length : Int)) (hw2 : t2.WF) :
    sameT t most t2 most2 = sameR r r2 := by
  subst m1 m2
  have l1 := s1.len
  have l2 := s2.len
  unfold sameT sameR
  rw [c1, c2, ← l1, ← l2]
  have e1 : (((r.L.length : Nat) : Int) == ((r2.L.length : Nat) : Int)) = (r.L.length == r2.L.length) := by rw [Bool.eq_iff_iff, beq_iff_eq, beq_iff_eq]; omega
  have e2 : (((cT r r.L.length : Nat) : Int) == ((cT r2 r2.L.length : Nat) : Int)) = (cT r r.L.length == cT r2 r2.L.length) := by rw [Bool.eq_iff_iff, beq_iff_eq, beq_iff_eq]; omega
  rw [e1, e2]
  cases hl : (r.L.length == r2.L.length) with
  | false => simp
  | true =>
    have hl' : r.L.length = r2.L.length := by simpa using hl
    have hn : ((r.L.length : Nat) : Int).toNat = r.L.length := by omega
    simp only [Bool.true_and, hn]
    rw [Bool.eq_iff_iff]
    simp only [Bool.and_eq_true, beq_iff_eq, List.all_eq_true, List.mem_range]
    have ok_of : ∀ (k : Nat) (p q : Pl), r.L[k]? = some p → r2.L[k]? = some q → p.there = true → ∀ s, t.live (k : Nat) = some s → s.gen = p.gen → Alike s.thing p.x → (okP t2 ⟨(k : Nat), s.gen, s.thing⟩ = true ↔ (q.there = true ∧ p.gen = q.gen ∧ Alike p.x q.x)) := fun k p q hp hq ht s hs hg ha => by
      unfold okP
      simp only [Bool.and_eq_true]
      rw [sameB_iff]
      constructor
      · rintro ⟨hh, hal⟩
        obtain ⟨s', hs', hg'⟩ := has_iff.1 hh
        obtain ⟨q', k1, k2, k3, k4⟩ := s2.pl_live hs'
        rw [hq] at k1
        cases k1
        have : t2.at_ (k : Nat) s.gen = s'.thing := by unfold Tab.at_; rw [hs']; simp only; rw [if_pos hg']
        rw [this] at hal
        exact ⟨k2, by rw [k3, hg', hg], (ha.symm.trans hal).trans k4⟩
      · rintro ⟨h1, h2, h3⟩
        obtain ⟨s', hs', hg', ha'⟩ := s2.live_pl hq h1
        have hgg : s'.gen = s.gen := by rw [hg', hg, h2]
        refine ⟨has_iff.2 ⟨s', hs', hgg⟩, ?_⟩
        have : t2.at_ (k : Nat) s.gen = s'.thing := by unfold Tab.at_; rw [hs']; simp only; rw [if_pos hgg]
        rw [this]
        exact (ha.trans h3).trans ha'.symm
    constructor
    · rintro ⟨hm, hcT, hall⟩
      refine ⟨hm, fun k hk => ?_⟩
      obtain ⟨p, hp⟩ : ∃ p, r.L[k]? = some p := ⟨_, List.getElem?_eq_getElem hk⟩
      obtain ⟨q, hq⟩ : ∃ q, r2.L[k]? = some q := ⟨_, List.getElem?_eq_getElem (by omega)⟩
      have hin : ∀ (j : Nat) (p q : Pl), j < r.L.length → r.L[j]? = some p → r2.L[j]? = some q → p.there = true → q.there = true ∧ p.gen = q.gen ∧ Alike p.x q.x := fun j p q hj hp hq ht => by
        obtain ⟨s, hs, hg, ha⟩ := s1.live_pl hp ht
        exact (ok_of j p q hp hq ht s hs hg ha).1 (hall _ (mem_nowL.2 ⟨j, s, hj, hs, rfl⟩))
      have hback := (cT_sub r.L.length (Nat.le_refl _) (by omega) (fun j p q hj hp hq ht => (hin j p q hj hp hq ht).1)).2 (by rw [hcT, hl'])
      rw [sameK_at hp hq]
      unfold samePl
      simp only [Bool.and_eq_true, Bool.or_eq_true, beq_iff_eq, Bool.not_eq_true']
      cases e : p.there with
      | true =>
        obtain ⟨a1, a2, a3⟩ := hin k p q hk hp hq e
        exact ⟨a1.symm, .inr ⟨a2, sameB_iff.2 a3⟩⟩
      | false =>
        refine ⟨?_, .inl rfl⟩
        cases e2 : q.there with
        | false => rfl
        | true => exact absurd (hback k p q hk hp hq e2) (by rw [e]; simp)
    · rintro ⟨hm, hall⟩
      have hin : ∀ (j : Nat) (p q : Pl), j < r.L.length → r.L[j]? = some p → r2.L[j]? = some q → p.there = q.there ∧ (p.there = true → p.gen = q.gen ∧ Alike p.x q.x) := fun j p q hj hp hq => by
        have := hall j hj
        rw [sameK_at hp hq] at this
        unfold samePl at this
        simp only [Bool.and_eq_true, Bool.or_eq_true, beq_iff_eq, Bool.not_eq_true'] at this
        refine ⟨this.1, fun ht => ?_⟩
        rcases this.2 with h | ⟨h1, h2⟩
        · rw [ht] at h; cases h
        · exact ⟨h1, sameB_iff.1 h2⟩
      refine ⟨hm, ?_, fun p hp => ?_⟩
      · have a1 := (cT_sub (r := r) (r2 := r2) r.L.length (Nat.le_refl _) (by omega) (fun j p q hj hp hq ht => by rw [← (hin j p q hj hp hq).1]; exact ht)).1
        have a2 := (cT_sub (r := r2) (r2 := r) r.L.length (by omega) (Nat.le_refl _) (fun j p q hj hp hq ht => by rw [(hin j q p hj hq hp).1]; exact ht)).1
        rw [← hl']
        omega
      · obtain ⟨k, s, hk, hs, rfl⟩ := mem_nowL.1 hp
        obtain ⟨p, h1, h2, h3, h4⟩ := s1.pl_live hs
        obtain ⟨q, hq⟩ : ∃ q, r2.L[k]? = some q := ⟨_, List.getElem?_eq_getElem (by omega)⟩
        obtain ⟨a1, a2⟩ := hin k p q hk h1 hq
        obtain ⟨a3, a4⟩ := a2 h2
        exact (ok_of k p q h1 hq h2 s hs h3.symm h4).2 ⟨by rw [← a1]; exact h2, a3, a4⟩
theorem Pair.same_eq {w w2 : World} {c c2 h h2 : Nat} {S S2 SR SR2 : List Nat} {t t2 : Tab Cx} {r r2 : RTab} {most most2 N N2 : Int} (P : Pair w c S h SR t r most N) (P2 : Pair w2 c2 S2 h2 SR2 t2 r2 most2 N2) : sameT t most t2 most2 = sameR r r2 :=
  Go.Proofs.same_eq P.sim P2.sim P.rm P2.rm P.count P2.count P2.ct.wf
end Go.Proofs
end
section
namespace Go.Proofs
open Go.RowKit
set_option linter.unusedVariables false
set_option linter.unusedSimpArgs false
/-- Two pairs, apart in memory. -/
def Both (w0 : World) (c h c2 h2 : Nat) (most : Int) (N M : Nat) (w : World) : Prop :=
  ∃ S SR t r S2 SR2 t2 r2, Pair w c S h SR t r most N ∧ Pair w c2 S2 h2 SR2 t2 r2 most M ∧ (∀ k ∈ c :: (S ++ SR), k ∉ c2 :: (S2 ++ SR2)) ∧
    (∀ k ∈ S ++ SR, w0.heap.size ≤ k) ∧ (∀ k ∈ S2 ++ SR2, w0.heap.size ≤ k) ∧ Chg [] w0 w
section
variable {w0 w w' : World} {c h c2 h2 : Nat} {most : Int} {N M : Nat}
theorem Both.swap (H : Both w0 c h c2 h2 most N M w) : Both w0 c2 h2 c h most M N w := by
  obtain ⟨S, SR, t, r, S2, SR2, t2, r2, p1, p2, h3, h4, h5, h6⟩ := H
  exact ⟨S2, SR2, t2, r2, S, SR, t, r, p2, p1, fun k hk hk' => h3 k hk' hk, h5, h4, h6⟩
theorem Both.chg (H : Both w0 c h c2 h2 most N M w) : Chg [] w0 w := by
  obtain ⟨S, SR, t, r, S2, SR2, t2, r2, p1, p2, h3, h4, h5, h6⟩ := H
  exact h6
theorem Both.quiet (H : Both w0 c h c2 h2 most N M w) (hc : Chg [] w w') : Both w0 c h c2 h2 most N M w' := by
  obtain ⟨S, SR, t, r, S2, SR2, t2, r2, p1, p2, h3, h4, h5, h6⟩ := H
  exact ⟨S, SR, t, r, S2, SR2, t2, r2, p1.quiet hc, p2.quiet hc, h3, h4, h5, h6.then hc⟩
theorem Pair.off {S SR : List Nat} {t : Tab Cx} {r : RTab} {N : Int} (P : Pair w c S h SR t r most N) : Off w (S ++ SR) := P.ct.off.append P.rf.off
theorem Pair.lt {S SR : List Nat} {t : Tab Cx} {r : RTab} {N : Int} (P : Pair w c S h SR t r most N) : ∀ k ∈ c :: (S ++ SR), k < w.heap.size := fun k hk => by
  rcases List.mem_cons.1 hk with rfl | hk
  · exact P.ct.lt _ (by simp)
  · rcases List.mem_append.1 hk with hk | hk
    · exact P.ct.lt k (by simp [hk])
    · exact P.rf.lt k hk
theorem Pair.chg {S SR S' : List Nat} {t : Tab Cx} {r : RTab} {N : Int} (P : Pair w c S h SR t r most N) (hc : Chg S' w w') (hn : ∀ k ∈ c :: (S ++ SR), k ∉ S') (ho : Off w S') : Pair w' c S h SR t r most N :=
  { P with ct := P.ct.chg hc (hn c (by simp)) (fun k hk => hn k (by simp [hk])) ho, rf := P.rf.chg hc (fun k hk => hn k (by simp [hk])) ho }
theorem Both.does (H : Both w0 c h c2 h2 most N M w) (hN : N + 1 ≤ 1000) (a : ActC) (hF : a.Fits) :
    Calls Tryz.prog 12 #[ptr c, ptr h, .agg a.cells.toArray] w fun e w' => e = .returned (.bool true) ∧ Both w0 c h c2 h2 most (N + 1) M w' := by
  obtain ⟨S, SR, t, r, S2, SR2, t2, r2, p1, p2, h3, h4, h5, h6⟩ := H
  have hlt := p2.lt
  refine (do_any p1 (by omega) a hF).mono ?_
  rintro e w' ⟨he, hp⟩
  have hch := hp.chg
  obtain ⟨S', SR', t', r', k1, k2, k3, k4, _⟩ := id hp
  have hsub : ∀ k ∈ S' ++ SR', k ∈ S ++ SR ∨ w.heap.size ≤ k := fun k hk => by
    rcases List.mem_append.1 hk with h | h
    · exact (k2 k h).imp (fun h => by simp [h]) id
    · exact (k3 k h).imp (fun h => by simp [h]) id
  have z := h6.size
  refine ⟨he, S', SR', t', r', S2, SR2, t2, r2, by have := k1; simpa using this, p2.chg hch (fun k hk hk' => h3 k (List.mem_cons_of_mem _ hk') hk) p1.off, ?_, fun k hk => (hsub k hk).elim (h4 k) (fun h => Nat.le_trans z h), h5, h6.trans hch (fun k hk => .inr (h4 k hk))⟩
  intro k hk hk'
  rcases List.mem_cons.1 hk with rfl | hk
  · exact h3 _ (by simp) hk'
  · rcases hsub k hk with h | h
    · exact h3 k (List.mem_cons_of_mem _ h) hk'
    · have := hlt k hk'; omega
theorem Both.look (H : Both w0 c h c2 h2 most N M w) {kind ri rq ti tq a b T : Int} (hF : ActC.Fits ⟨kind, ri, rq, ti, tq, a, b, T⟩) {W : World} (hc : Chg [] w W) :
    Calls Tryz.prog 13 #[ptr c, ptr h, .agg #[.int .i64 kind, .int .i64 ri, .int .u64 rq, .int .i64 ti, .int .u64 tq, .int .u64 a, .int .u64 b, .int .u64 T]] W fun e w' => e = .returned (.bool true) ∧ Chg [] W w' := by
  obtain ⟨S, SR, t, r, S2, SR2, t2, r2, p1, p2, h3, h4, h5, h6⟩ := H
  exact same_look (p1.quiet hc) hF
theorem Pair.lens {S SR : List Nat} {t : Tab Cx} {r : RTab} {N : Int} (P : Pair w c S h SR t r most N) : ∀ (k : Nat) (s : Spot Cx), t.spots[k]? = some s → s.there = true → s.thing.l.length ≤ 100000 := fun k s hs ht => by
  have h1 : t.live (k : Nat) = some s := live_nat.2 ⟨hs, ht⟩
  have h2 := (P.inv.any (k : Nat) s.gen).2.1
  have h3 : t.at_ (k : Nat) s.gen = s.thing := by unfold Tab.at_; rw [h1]; simp
  rw [h3] at h2
  omega
theorem Pair.lens_pl {S SR : List Nat} {t : Tab Cx} {r : RTab} {N : Int} (P : Pair w c S h SR t r most N) : ∀ (k : Nat) (p : Pl), r.L[k]? = some p → p.there = true → p.x.l.length ≤ 100000 := fun k p hp ht => by
  obtain ⟨s, h1, h2, h3⟩ := P.sim.live_pl hp ht
  have := P.lens k s (live_nat.1 h1).1 (live_nat.1 h1).2
  rw [← h3.l]
  exact this
theorem Both.tells (H : Both w0 c h c2 h2 most N M w) : ∃ b, (∀ W, Chg [] w W → Calls Tryz.prog 23 #[ptr h, ptr h2] W (fun e w' => e = .returned (.bool b) ∧ Chg [] W w')) ∧
    (∀ W, Chg [] w W → Calls Tryz.prog 22 #[ptr c, ptr c2] W (fun e w' => e = .returned (.bool b) ∧ Chg [] W w')) ∧ ∀ W, Chg [] w W → Calls Tryz.prog 22 #[ptr c2, ptr c] W (fun e w' => e = .returned (.bool b) ∧ Chg [] W w') := by
  obtain ⟨S, SR, t, r, S2, SR2, t2, r2, p1, p2, h3, h4, h5, h6⟩ := id H
  refine ⟨sameR r r2, fun W hc => ?_, fun W hc => ?_, fun W hc => ?_⟩
  · exact rSame_any (p1.rf.quiet hc) (p2.rf.quiet hc) p1.len.2 p2.len.2 p1.lens_pl
  · rw [← p1.same_eq p2]
    exact Same_any (p1.ct.quiet hc) (p2.ct.quiet hc) p1.lens
  · rw [sameR_symm, ← p2.same_eq p1]
    exact Same_any (p2.ct.quiet hc) (p1.ct.quiet hc) p2.lens
/-- What holds between the two copies. -/
def HalfC (w0 : World) (c h c2 : Nat) (most : Int) (N : Nat) (w : World) : Prop :=
  ∃ S SR t r S2, Pair w c S h SR t r most N ∧ CtxAt w c2 S2 t most ∧ (∀ k ∈ c :: (S ++ SR), k ∉ c2 :: S2) ∧ (∀ k ∈ S ++ SR, w0.heap.size ≤ k) ∧ (∀ k ∈ S2, w0.heap.size ≤ k) ∧ Chg [] w0 w
theorem Btw.copy (H : Btw w0 c h most N w) :
    Calls Tryz.prog 20 #[ptr c] w fun e w' => ∃ c2, e = .returned (ptr c2) ∧ HalfC w0 c h c2 most N w' := by
  obtain ⟨S, SR, t, r, p1, h2, h3, h4⟩ := H
  have hlt := p1.lt
  refine (ccopy_any p1.ct).mono ?_
  rintro e w' ⟨c2, S2, he, k1, k2, k3, k4⟩
  have z := h4.size
  refine ⟨c2, he, S, SR, t, r, S2, p1.quiet k4, k1, fun k hk hk' => ?_, fun k hk => (List.mem_append.1 hk).elim (h2 k) (h3 k), fun k hk => Nat.le_trans z (k3 k hk), h4.then k4⟩
  have := hlt k hk
  rcases List.mem_cons.1 hk' with rfl | hk'
  · omega
  · have := k3 k hk'; omega
theorem HalfC.copy (H : HalfC w0 c h c2 most N w) :
    Calls Tryz.prog 21 #[ptr h] w fun e w' => ∃ h2, e = .returned (ptr h2) ∧ Both w0 c h c2 h2 most N N w' ∧ (∀ W, Chg [] w' W → Calls Tryz.prog 22 #[ptr c, ptr c2] W (fun e w' => e = .returned (.bool true) ∧ Chg [] W w')) ∧ ∀ W, Chg [] w' W → Calls Tryz.prog 22 #[ptr c2, ptr c] W (fun e w' => e = .returned (.bool true) ∧ Chg [] W w') := by
  obtain ⟨S, SR, t, r, S2, p1, k1, h3, h4, h5, h6⟩ := H
  have hlt := p1.lt
  have hlt2 := k1.lt
  refine (rcopy_any p1.rf (by have := p1.len; omega) p1.len.1).mono ?_
  rintro e w' ⟨h2, SR2, he, m1, m2, m3⟩
  have z := h6.size
  have q1 := p1.quiet m3
  have q2 := k1.quiet m3
  have hs : sameT t most t most = true := by rw [p1.same_eq p1]; exact sameR_refl r
  refine ⟨h2, he, ⟨S, SR, t, r, S2, SR2, t, r, q1, ⟨q2, m1, p1.sim, p1.rm, p1.rt, p1.inv⟩, fun k hk hk' => ?_, h4, fun k hk => (List.mem_append.1 hk).elim (h5 k) (fun h => Nat.le_trans z (m2 k h)), h6.then m3⟩, fun W hc => ?_, fun W hc => ?_⟩
  · rcases List.mem_cons.1 hk' with rfl | hk'
    · exact h3 _ hk (by simp)
    · rcases List.mem_append.1 hk' with hk' | hk'
      · exact h3 k hk (List.mem_cons_of_mem _ hk')
      · have := hlt k hk; have := m2 k hk'; omega
  · rw [← hs]; exact Same_any (q1.ct.quiet hc) (q2.quiet hc) q1.lens
  · rw [← hs]; exact Same_any (q2.quiet hc) (q1.ct.quiet hc) q1.lens
end
end Go.Proofs
end
section
namespace Go.Proofs
open Go.RowKit
set_option linter.unusedVariables false
set_option linter.unusedSimpArgs false
theorem fits0 : ActC.Fits ⟨0, 0, 0, 0, 0, 0, 0, 0⟩ := ⟨by decide, by decide, by decide, by decide, ⟨by decide, by decide⟩, ⟨by decide, by decide⟩, ⟨by decide, by decide⟩⟩
set_option maxHeartbeats 12800000 in
set_option maxRecDepth 100000 in
theorem copies_any (size most : Int) (V V2 V3 : Value) (l l2 l3 : List ActC) (w : World) (hV : Acts w V l) (hV2 : Acts w V2 l2) (hV3 : Acts w V3 l3) :
    Calls Tryz.prog 6 #[.int .i64 size, .int .i64 most, V, V2, V3] w fun e w' => e = .returned (.bool true) ∧ Chg [] w w' := by
  obtain ⟨A, c9, rfl⟩ := hV.open_
  obtain ⟨A2, c92, rfl⟩ := hV2.open_
  obtain ⟨A3, c93, rfl⟩ := hV3.open_
  obtain ⟨m, hm⟩ : ∃ m, m = l.length := ⟨_, rfl⟩
  obtain ⟨m2, hm2⟩ : ∃ m, m = l2.length := ⟨_, rfl⟩
  obtain ⟨m3, hm3⟩ : ∃ m, m = l3.length := ⟨_, rfl⟩
  rw [← hm] at hV ⊢
  rw [← hm2] at hV2 ⊢
  rw [← hm3] at hV3 ⊢
  have HV := Lib.hid hV
  have HV2 := Lib.hid hV2
  have HV3 := Lib.hid hV3
  clear hV hm hV2 hm2 hV3 hm3
  by_cases hbd1 : 50 < (m : Int)
  · have d1 : decide ((m : Int) > 50) = true := by simpa using hbd1
    go_enter Tryz.func6, Tryz.ntmps6
    go_wp2_with (go_at_call 8; refine (known_any _).mono ?_; rintro e w1 ⟨rfl, hc⟩)
    go_ret
    exact ⟨rfl, hc⟩
  have d1 : decide ((m : Int) > 50) = false := by simpa using hbd1
  by_cases hbd2 : 25 < (m2 : Int)
  · have d2 : decide ((m2 : Int) > 25) = true := by simpa using hbd2
    go_enter Tryz.func6, Tryz.ntmps6
    go_wp2_with (go_at_call 8; refine (known_any _).mono ?_; rintro e w1 ⟨rfl, hc⟩)
    go_ret
    exact ⟨rfl, hc⟩
  have d2 : decide ((m2 : Int) > 25) = false := by simpa using hbd2
  by_cases hbd3 : 25 < (m3 : Int)
  · have d3 : decide ((m3 : Int) > 25) = true := by simpa using hbd3
    go_enter Tryz.func6, Tryz.ntmps6
    go_wp2_with (go_at_call 8; refine (known_any _).mono ?_; rintro e w1 ⟨rfl, hc⟩)
    go_ret
    exact ⟨rfl, hc⟩
  have d3 : decide ((m3 : Int) > 25) = false := by simpa using hbd3
  cases hmay : mayC size most with
  | false =>
    have HM := Lib.hid hmay
    clear hmay
    go_enter Tryz.func6, Tryz.ntmps6
    go_wp2_with (first
      | (go_at_call 10; refine (May_any _ _ _).mono ?_; rintro e w1 ⟨rfl, rfl⟩; rw [HM.out])
      | (go_at_call 8; refine (known_any _).mono ?_; rintro e w1 ⟨rfl, hc⟩))
    go_ret
    exact ⟨rfl, hc⟩
  | true =>
    have HM := Lib.hid hmay
    have q1 : m ≤ 50 := by omega
    have q2 : m2 ≤ 25 := by omega
    have q3 : m3 ≤ 25 := by omega
    clear hmay hbd1 hbd2 hbd3
    go_enter Tryz.func6, Tryz.ntmps6
    go_wp2_with (first
      | (go_at_call 9; refine (New_yes _ HM.out).mono ?_; rintro e w1 ⟨c, g, rfl, hT, lc, lg, hc⟩; have HT := Lib.hid (Btw.new HM.out hT lg hc); clear hT hc)
      | (go_at_call 10; refine (May_any _ _ _).mono ?_; rintro e w2 ⟨rfl, rfl⟩; rw [HM.out])
      | (go_at_call 11; refine HT.out.mono ?_; rintro e w3 ⟨h, rfl, hB, _⟩; have HB := Lib.hid hB; clear hB))
    clear d1 d2 d3
    go_loopw [14] (fun i wr => ∃ k : Nat, k ≤ m ∧ i = .int .i64 k ∧ Hid (Btw w c h most k wr)) (fun i wr => m - (intOfN i).toNat)
    case atStart => exact ⟨0, Nat.zero_le _, rfl, HB⟩
    case round =>
      obtain ⟨k, hk, rfl, hB⟩ := hrel
      by_cases hlt : k < m
      · obtain ⟨b, off, kind, ri, rq, ti, tq, a2, b2, T, rfl, hat, hfit, hcs⟩ := HV.out.is_ hlt
        obtain ⟨e0, e1, e2, e3, e4, e5, e6, e7⟩ := hcs _ hB.out.chg
        have i0 : (0 : Int) ≤ (k : Int) := by omega
        have i1 : (k : Int) < (m : Int) := by omega
        have HD := hB.out.does (by omega) _ hfit
        simp only [ActC.cells] at HD
        clear hfit hat hcs
        go_wp2_with (go_at_call 12; refine HD.mono ?_; rintro e w4 ⟨rfl, hB2⟩; have HB2 := Lib.hid hB2; clear hB2)
        go_roundw
        case rel => exact ⟨k + 1, by omega, by go_num, HB2⟩
        case measure => simp [intOfN]; omega
      · obtain rfl : k = m := by omega
        have HCP := hB.out.copy
        clear hB HB
        go_wp2_with (first
          | (go_at_call 20; refine HCP.mono ?_; rintro e w4 ⟨c2, rfl, hh⟩; have HH := Lib.hid hh.copy; clear hh)
          | (go_at_call 21; refine HH.out.mono ?_; rintro e w5 ⟨h2, rfl, hBo, hS1, hS2⟩; have HBo := Lib.hid hBo; have HS1 := Lib.hid hS1; have HS2 := Lib.hid hS2; clear hBo hS1 hS2)
          | (go_at_call 22; (with_reducible refine (HS2.out _ (Chg.refl _ _)).mono ?_); rintro e w6 ⟨rfl, hc6⟩; have HC6 := Lib.hid hc6; clear hc6)
          | (go_at_call 22; (with_reducible refine (HS1.out _ HC6.out).mono ?_); rintro e w7 ⟨rfl, hc7⟩; have HC7 := Lib.hid (HC6.out.then hc7); clear hc7))
        have HB7 := Lib.hid (HBo.out.quiet HC7.out)
        clear HBo HS1 HS2 HC6 HC7 HH HCP
        go_loopw [17] (fun i wq => ∃ j : Nat, j ≤ m2 ∧ i = .int .i64 j ∧ Hid (Both w c h c2 h2 most (k + j) k wq)) (fun i wq => m2 - (intOfN i).toNat)
        case atStart => exact ⟨0, Nat.zero_le _, rfl, HB7⟩
        case round =>
          clear HB7
          obtain ⟨j, hj, rfl, hB⟩ := hrel
          by_cases hlt : j < m2
          · obtain ⟨b, off, kind, ri, rq, ti, tq, a2, b2, T, rfl, hat, hfit, hcs⟩ := HV2.out.is_ hlt
            obtain ⟨e0, e1, e2, e3, e4, e5, e6, e7⟩ := hcs _ hB.out.chg
            have i0 : (0 : Int) ≤ (j : Int) := by omega
            have i1 : (j : Int) < (m2 : Int) := by omega
            have HD := hB.out.does (by omega) _ hfit
            simp only [ActC.cells] at HD
            clear hfit hat hcs
            go_wp2_with (go_at_call 12; refine HD.mono ?_; rintro e w8 ⟨rfl, hB2⟩; have HB2 := Lib.hid hB2; clear hB2)
            go_roundw
            case rel => exact ⟨j + 1, by omega, by go_num, HB2⟩
            case measure => simp [intOfN]; omega
          · obtain rfl : j = m2 := by omega
            have HB3 := Lib.hid hB.out.swap
            clear hB
            go_wp2
            go_loopw [18] (fun i wz => ∃ j2 : Nat, j2 ≤ m3 ∧ i = .int .i64 j2 ∧ Hid (Both w c2 h2 c h most (k + j2) (k + j) wz)) (fun i wz => m3 - (intOfN i).toNat)
            case atStart => exact ⟨0, Nat.zero_le _, rfl, HB3⟩
            case round =>
              clear HB3
              obtain ⟨j2, hj2, rfl, hB⟩ := hrel
              by_cases hlt : j2 < m3
              · obtain ⟨b, off, kind, ri, rq, ti, tq, a2, b2, T, rfl, hat, hfit, hcs⟩ := HV3.out.is_ hlt
                obtain ⟨e0, e1, e2, e3, e4, e5, e6, e7⟩ := hcs _ hB.out.chg
                have i0 : (0 : Int) ≤ (j2 : Int) := by omega
                have i1 : (j2 : Int) < (m3 : Int) := by omega
                have HD := hB.out.does (by omega) _ hfit
                simp only [ActC.cells] at HD
                clear hfit hat hcs
                go_wp2_with (go_at_call 12; refine HD.mono ?_; rintro e w9 ⟨rfl, hB2⟩; have HB2 := Lib.hid hB2; clear hB2)
                go_roundw
                case rel => exact ⟨j2 + 1, by omega, by go_num, HB2⟩
                case measure => simp [intOfN]; omega
              · obtain ⟨sb, hs1, hs2, hs3⟩ := hB.out.swap.tells
                have HS1 := Lib.hid hs1
                have HS2 := Lib.hid hs2
                have HS3 := Lib.hid hs3
                have HL1 := Lib.hid (fun W (hc : Chg [] _ W) => hB.out.swap.look fits0 hc)
                have HL2 := Lib.hid (fun W (hc : Chg [] _ W) => hB.out.look fits0 hc)
                have HC0 := Lib.hid hB.out.chg
                clear hB hs1 hs2 hs3
                cases sb
                all_goals
                  go_wp2_with (first
                    | (go_at_call 23; refine (HS1.out _ (Chg.refl _ _)).mono ?_; rintro e wa ⟨rfl, hca⟩; have HCa := Lib.hid hca; clear hca)
                    | (go_at_call 13; (with_reducible refine (HL1.out _ HCa.out).mono ?_); rintro e wb ⟨rfl, hcb⟩; have HCb := Lib.hid (HCa.out.then hcb); clear hcb)
                    | (go_at_call 13; (with_reducible refine (HL2.out _ HCb.out).mono ?_); rintro e wc ⟨rfl, hcc⟩; have HCc := Lib.hid (HCb.out.then hcc); clear hcc)
                    | (go_at_call 22; (with_reducible refine (HS2.out _ HCc.out).mono ?_); rintro e wd ⟨rfl, hcd⟩; have HCd := Lib.hid (HCc.out.then hcd); clear hcd)
                    | (go_at_call 22; (with_reducible refine (HS3.out _ HCd.out).mono ?_); rintro e we ⟨rfl, hce⟩; have HCe := Lib.hid (HCd.out.then hce); clear hce)
                    | (go_at_call 8; refine (known_any _).mono ?_; rintro e wf ⟨rfl, hcf⟩))
                  go_ret
                  exact ⟨rfl, (HC0.out.then HCe.out).then hcf⟩
end Go.Proofs
end
