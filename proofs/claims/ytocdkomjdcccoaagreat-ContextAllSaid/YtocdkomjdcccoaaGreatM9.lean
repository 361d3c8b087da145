import Derived.Test.YtocdkomjdcccoaaGreatM8
import Derived.Deep.LoopGhost
import Derived.StillTailTactics
section
namespace Go.Proofs
open Go.RowKit
set_option linter.unusedVariables false
set_option linter.unusedSimpArgs false
def frAt (L : List Pl) (i : Nat) : Int := match L[i]? with | some p => p.freed | none => 0
def thAt (L : List Pl) (i : Nat) : Bool := match L[i]? with | some p => p.there | none => true
/-- The free place that was freed last, among the first k; -1: none. -/
def pickR (L : List Pl) : Nat → Int
  | 0 => -1
  | k + 1 => if thAt L k = false ∧ (pickR L k < 0 ∨ frAt L (pickR L k).toNat < frAt L k) then (k : Nat) else pickR L k
theorem pickR_succ (L : List Pl) (k : Nat) : pickR L (k + 1) = if thAt L k = false ∧ (pickR L k < 0 ∨ frAt L (pickR L k).toNat < frAt L k) then ((k : Nat) : Int) else pickR L k := rfl
theorem pickR_bd (L : List Pl) : ∀ k, -1 ≤ pickR L k ∧ pickR L k < (k : Nat) ∧ (0 ≤ pickR L k → thAt L (pickR L k).toNat = false)
  | 0 => by simp [pickR]
  | k + 1 => by
    have ih := pickR_bd L k
    unfold pickR
    split
    · rename_i h
      exact ⟨by omega, by omega, fun _ => by simpa using h.1⟩
    · exact ⟨ih.1, by omega, ih.2.2⟩
theorem pickR_max (L : List Pl) : ∀ k, ∀ i, i < k → thAt L i = false → 0 ≤ pickR L k ∧ frAt L i ≤ frAt L (pickR L k).toNat
  | 0, i, h, _ => by omega
  | k + 1, i, h, hi => by
    have ih := pickR_max L k
    unfold pickR
    by_cases e : i = k
    · subst e
      split
      · exact ⟨by omega, by simp⟩
      · rename_i hn
        have h1 : ¬ (pickR L i < 0 ∨ frAt L (pickR L i).toNat < frAt L i) := fun hc => hn ⟨hi, hc⟩
        exact ⟨by omega, by omega⟩
    · obtain ⟨j1, j2⟩ := ih i (by omega) hi
      split
      · rename_i hy
        refine ⟨by omega, ?_⟩
        rcases hy.2 with h1 | h1
        · omega
        · simp; omega
      · exact ⟨j1, j2⟩
theorem RefAt.tellAll {w : World} {h : Nat} {S : List Nat} {r : RTab} (hr : RefAt w h S r) (h0 : 0 < r.L.length) :
    ∃ gl cl, S = [h, gl] ∧ h ≠ gl ∧ gl < w.heap.size ∧ h < w.heap.size ∧ ∀ W, Chg [] w W →
      W.cell? ⟨h, 0, none⟩ = some (.slice (some ⟨gl, 0, none⟩) r.L.length cl) ∧ ∀ (k : Nat) (p : Pl), r.L[k]? = some p →
      W.cell? ⟨gl, k * 7, none⟩ = some (.int .u64 p.gen) ∧ W.cell? ⟨gl, k * 7 + 1, none⟩ = some (.bool p.there) ∧ W.cell? ⟨gl, k * 7 + 6, none⟩ = some (.int .i64 p.freed) := by
  obtain ⟨gl, cl, hS, hne, _, lg, lh, ht⟩ := hr.tell (List.getElem?_eq_getElem h0)
  refine ⟨gl, cl, hS, hne, lg, lh, fun W hc => ⟨(ht W hc).1, fun k p hp => ?_⟩⟩
  obtain ⟨gl', cl', hS', _, _, _, _, ht'⟩ := hr.tell hp
  have e : gl' = gl := by rw [hS'] at hS; simpa using hS
  subst e
  obtain ⟨_, _, _, b0, b1, _, _, _, _, b6, _⟩ := ht' W hc
  exact ⟨b0, b1, b6⟩
def RTab.pick (r : RTab) : Int := pickR r.L r.L.length
def RTab.genAt (r : RTab) (i : Nat) : Int := match r.L[i]? with | some p => p.gen | none => 0
def RTab.put (r : RTab) (x : Cx) : RTab := match r.L[r.pick.toNat]? with | some p => { r with L := r.L.set r.pick.toNat { p with there := true, x := x } } | none => r
set_option maxHeartbeats 6400000 in
set_option maxRecDepth 100000 in
theorem rput_any {w : World} {h : Nat} {S : List Nat} {r : RTab} (hr : RefAt w h S r) (h0 : 0 < r.L.length) (hn : r.L.length ≤ 100) (x : Cx) (hx : Rd w x.v x.l) :
    Calls Tryz.prog 78 #[.pointer (some ⟨h, 0, none⟩), .agg #[.int .u64 x.b, .int .u64 x.p, .slice x.a x.m x.c, .int .i64 x.n]] w fun e w' =>
      (r.pick < 0 ∧ e = .returned (.tuple #[.agg #[.int .i64 0, .int .u64 0], .int .i64 3]) ∧ Chg [] w w') ∨
      (0 ≤ r.pick ∧ e = .returned (.tuple #[.agg #[.int .i64 r.pick, .int .u64 (r.genAt r.pick.toNat)], .int .i64 0]) ∧ RTurns h S (r.put x) w w') := by
  obtain ⟨gl, cl, hS, hne, lg, lh, htell⟩ := hr.tellAll h0
  obtain ⟨n, hnn⟩ : ∃ n, n = r.L.length := ⟨_, rfl⟩
  rw [← hnn] at htell h0 hn
  have hpick : r.pick = pickR r.L n := by unfold RTab.pick; rw [← hnn]
  have HPICK := Lib.hid hpick
  clear hpick
  have HT := Lib.hid htell
  have HN := Lib.hid hnn
  have HR := Lib.hid hr
  have HX := Lib.hid hx
  have HSS := Lib.hid hS
  clear hr htell hnn hS hx
  go_enter Tryz.func78, Tryz.ntmps78
  go_wp2
  go_loopg [6, 7] n (fun gh at_ i wx => ∃ k : Nat, k + gh = n ∧ i = .int .i64 k ∧ at_ = .int .i64 (pickR r.L k) ∧ Hid (Chg [] ((w.alloc (.cells #[.int .u64 x.b, .int .u64 x.p, .slice x.a x.m x.c, .int .i64 x.n] 43)).alloc (obRef 0 0)) wx))
  case atStart => exact ⟨0, by omega, rfl, rfl, Lib.hid (Chg.refl _ _)⟩
  case round =>
    obtain ⟨k, hk, rfl, rfl, HC⟩ := hrel
    have hcw : Chg [] w wr := ((((Chg.refl [] w).alloc _).alloc _).then HC.out)
    obtain ⟨a0, hcell⟩ := HT.out wr hcw
    have lhr : h < wr.heap.size := Nat.lt_of_lt_of_le lh hcw.size
    have HCW := Lib.hid hcw
    have HCL := Lib.hid hcell
    clear hcw hcell
    by_cases hlt : k < n
    · have k0 : (0 : Int) ≤ (k : Int) := by omega
      have k1 : (k : Int) < (n : Int) := by omega
      obtain ⟨p, hp⟩ : ∃ p, r.L[k]? = some p := ⟨_, List.getElem?_eq_getElem (by rw [← HN.out]; exact hlt)⟩
      obtain ⟨_, b1, b6⟩ := HCL.out k p hp
      have hth : thAt r.L k = p.there := by unfold thAt; rw [hp]
      have hfr : frAt r.L k = p.freed := by unfold frAt; rw [hp]
      have hbd := pickR_bd r.L k
      cases ht : p.there with
      | true =>
        have hz : pickR r.L (k + 1) = pickR r.L k := by rw [pickR_succ, if_neg (by rw [hth, ht]; simp)]
        have HZ := Lib.hid hz
        rw [ht] at b1
        clear hp hth hfr ht hz b6 hbd
        go_wp2
        go_quiet (fail)
        go_wp2
        go_roundg (n - k - 1)
        case measure => omega
        case rel => exact ⟨k + 1, by omega, by go_num, by rw [HZ.out], Lib.hid (HC.out.drewN _)⟩
      | false =>
        rw [ht] at b1 hth
        by_cases hneg : pickR r.L k < 0
        · have hz : pickR r.L (k + 1) = (k : Nat) := by conv => lhs; unfold pickR
                                                        rw [if_pos ⟨hth, .inl hneg⟩]
          have HZ := Lib.hid hz
          obtain ⟨P, hP⟩ : ∃ P, P = pickR r.L k := ⟨_, rfl⟩
          rw [← hP] at hneg ⊢
          have d1 : decide (P < 0) = true := by simpa using hneg
          clear hp hth hfr ht hz b6 hbd hP
          go_wp2
          go_quiet (fail)
          go_wp2
          go_roundg (n - k - 1)
          case measure => omega
          case rel => exact ⟨k + 1, by omega, by go_num, by rw [HZ.out], Lib.hid (HC.out.drewN _)⟩
        · obtain ⟨P, hP⟩ := Int.eq_ofNat_of_zero_le (by omega : 0 ≤ pickR r.L k)
          rw [hP] at hbd hneg
          obtain ⟨pp, hpp⟩ : ∃ pp, r.L[P]? = some pp := ⟨_, List.getElem?_eq_getElem (by have := HN.out; omega)⟩
          obtain ⟨_, _, q6⟩ := HCL.out P pp hpp
          have hfr2 : frAt r.L P = pp.freed := by unfold frAt; rw [hpp]
          have d1 : decide ((P : Int) < 0) = false := by simp
          have p0 : (0 : Int) ≤ (P : Int) := by omega
          have p1 : (P : Int) < (n : Int) := by omega
          have hz : pickR r.L (k + 1) = if pp.freed < p.freed then ((k : Nat) : Int) else (P : Nat) := by
            rw [pickR_succ, hP, hfr, Int.toNat_natCast, hfr2]
            by_cases hc : pp.freed < p.freed
            · rw [if_pos ⟨hth, .inr hc⟩, if_pos hc]
            · rw [if_neg (by rintro ⟨_, h1 | h1⟩ <;> omega), if_neg hc]
          have HZ := Lib.hid hz
          rw [hP]
          obtain ⟨f1, hf1⟩ : ∃ f1, f1 = p.freed := ⟨_, rfl⟩
          obtain ⟨f2, hf2⟩ : ∃ f2, f2 = pp.freed := ⟨_, rfl⟩
          rw [← hf1] at b6 HZ
          rw [← hf2] at q6 HZ
          clear hp hth hfr ht hz hbd hP hpp hfr2 hf1 hf2 hneg
          cases hd : decide (f2 < f1) with
          | true =>
            go_wp2
            go_quiet (fail)
            go_wp2
            go_roundg (n - k - 1)
            case measure => omega
            case rel => exact ⟨k + 1, by omega, by go_num, by rw [HZ.out, if_pos (by simpa using hd)], Lib.hid (HC.out.drewN _)⟩
          | false =>
            go_wp2
            go_quiet (fail)
            go_wp2
            go_roundg (n - k - 1)
            case measure => omega
            case rel => exact ⟨k + 1, by omega, by go_num, by rw [HZ.out, if_neg (by simpa using hd)], Lib.hid (HC.out.drewN _)⟩
    · obtain rfl : k = n := by omega
      have hbd := pickR_bd r.L k
      have hB0 := ((Blk.new w 43 #[.int .u64 x.b, .int .u64 x.p, .slice x.a x.m x.c, .int .i64 x.n]).alloc (obRef 0 0)).chg HC.out (by simp)
      have hB1 := (Blk.at (w.alloc (.cells #[.int .u64 x.b, .int .u64 x.p, .slice x.a x.m x.c, .int .i64 x.n] 43)) 34 #[.int .i64 0, .int .u64 0] (n := w.heap.size + 1) (by simp)).chg HC.out (by simp)
      have x0 := hB0.cell 0
      have x1 := hB0.cell 1
      have x2 := hB0.cell 2
      have x3 := hB0.cell 3
      have r0 := hB1.cell 0
      have r1 := hB1.cell 1
      have rf := hB1.frozen
      have hz := hB1.lt
      have HB1 := Lib.hid hB1
      by_cases hneg : pickR r.L k < 0
      · have HNEG := Lib.hid hneg
        obtain ⟨P, hP⟩ : ∃ P, P = pickR r.L k := ⟨_, rfl⟩
        rw [← hP] at hneg ⊢
        have d1 : decide (P < 0) = true := by simpa using hneg
        clear hbd hP hB0 hB1 hneg
        go_wp2
        refine bodyPost_ret (v := .tuple #[.agg #[.int .i64 0, .int .u64 0], .int .i64 3]) ?_ rfl (.inl ⟨by rw [HPICK.out]; exact HNEG.out, rfl, by repeat' (first | with_reducible exact HCW.out | with_reducible apply Chg.alloc | with_reducible apply Chg.setCell | (with_reducible refine Or.inr ?_; dsimp only; omega))⟩)
        simp [results, Tryz.results78, go_sem, hz, r0, r1]
      · obtain ⟨P, hP⟩ := Int.eq_ofNat_of_zero_le (by omega : 0 ≤ pickR r.L k)
        rw [hP] at hbd hneg ⊢
        obtain ⟨p, hp⟩ : ∃ p, r.L[P]? = some p := ⟨_, List.getElem?_eq_getElem (by have := HN.out; omega)⟩
        obtain ⟨gl', cl', hS', hne', hk', lg', _, ht'⟩ := HR.out.tell hp
        have e9 : gl' = gl := by have := HSS.out; rw [hS'] at this; simpa using this
        subst e9
        obtain ⟨a0', a1', a2', b0, b1, b2, b3, b4, b5, b6, fz, fh, lh2, lg2⟩ := ht' wr HCW.out
        have a0q := (ht' w (Chg.refl _ _)).1
        have hgen : RTab.genAt r P = p.gen := by unfold RTab.genAt; rw [hp]
        have HPK := Lib.hid hP
        have hput : r.put x = { r with L := r.L.set P { p with there := true, x := x } } := by
          unfold RTab.put
          rw [HPICK.out, hP, Int.toNat_natCast, hp]
        have HPUT := Lib.hid hput
        clear hput
        have HGN := Lib.hid hgen
        have p0 : (0 : Int) ≤ (P : Int) := by omega
        have p1 : (P : Int) < (k : Int) := by omega
        have d1 : decide ((P : Int) < 0) = false := by simp
        have hgs : gl' ≠ w.heap.size := by omega
        have hgs1 : gl' ≠ w.heap.size + 1 := by omega
        have hrw : Row wr 54 7 (.slice (some ⟨gl', 0, none⟩) r.L.length cl') r.L.length (plCells r.L) := by
          obtain ⟨gl2, cl2, hB2, hL2, hS2, _⟩ := HR.out.form hp
          have e2 := hB2.cell 0
          simp only [List.getElem?_toArray, List.getElem?_cons_zero] at e2
          rw [a0q] at e2
          have e3 := Option.some.inj e2
          rw [← e3] at hL2
          exact hL2.chg HCW.out (fun _ _ h => by cases h)
        have hrow : Row (put4 (wr.setCell ⟨gl', P * 7 + 1, none⟩ (.bool true)) gl' (P * 7 + 2) x) 54 7 (.slice (some ⟨gl', 0, none⟩) r.L.length cl') r.L.length (plCells (r.L.set P { p with there := true, x := x })) := by
          have q1 := pl_set (p' := { p with there := true }) hp (j := 1) (u := .bool true) rfl (by omega)
          have q2 := pl_x (l := r.L.set P { p with there := true }) (k := P) (p := { p with there := true }) (List.getElem?_set_self hk') x
          rw [List.set_set] at q2
          rw [q2, q1]
          exact (hrw.set_ (j := P * 7 + 1) (by omega) _).put4_ (o := P * 7 + 2) (by omega) x
        have HW := Lib.hid (RTurns.write (p' := { p with there := true, x := x }) HR.out hp hS' a0q HCW.out (chg_put4 ((Chg.refl [gl'] wr).setCell (p := ⟨gl', P * 7 + 1, none⟩) (.inl (by simp)) (.bool true)) (.inl (by simp)) (P * 7 + 2) x) hrow (HX.out.quiet HCW.out))
        have HB2 := Lib.hid ((HB1.out.far (p := ⟨gl', P * 7 + 1, none⟩) (Ne.symm hgs1) (.bool true)).far4 (g := gl') (Ne.symm hgs1) (P * 7 + 2) x)
        obtain ⟨G, hG⟩ : ∃ G, G = p.gen := ⟨_, rfl⟩
        rw [← hG] at b0
        rw [← hG] at hgen
        have HGN := Lib.hid hgen
        have HP0 := Lib.hid p0
        rw [← HN.out] at a0'
        clear hbd hP hB0 hB1 hneg hp ht' a0q hgen hrw hrow hG hS' hk' hne'
        go_wp2
        go_still_tail 8, (by kernel_rfl)
        (try change wpStill _ _ (World.drew _) _ _ _)
        (repeat still_step)
        (try refine wpStill_nil ?_)
        (try change wpList _ _ _ _ _ (World.drew _))
        go_wp2
        refine bodyPost_ret (v := .tuple #[.agg #[.int .i64 (P : Nat), .int .u64 G], .int .i64 0]) (by simp [results, Tryz.results78, go_sem, hz, r0, r1]) rfl (.inr ⟨by rw [HPICK.out, HPK.out]; exact HP0.out, by rw [HPICK.out, HPK.out, Int.toNat_natCast, HGN.out], ?_⟩)
        rw [HPUT.out]
        refine HW.out.box HB2.out (by decide) (by decide) (by decide) (by omega) ?_
        repeat' (first | with_reducible exact Chg.refl _ _ | with_reducible apply Chg.drew | with_reducible apply Chg.setCell | (with_reducible refine Or.inl ?_; simp; done))
end Go.Proofs
end
section
namespace Go.Proofs
open Go.RowKit
set_option linter.unusedVariables false
set_option linter.unusedSimpArgs false
def RTab.thing (r : RTab) (i : Nat) (x : Cx) : RTab := match r.L[i]? with | some p => { r with L := r.L.set i { p with x := x } } | none => r
theorem rthing_eq {r : RTab} {k : Nat} {p : Pl} (hp : r.L[k]? = some p) (x : Cx) : r.thing k x = { r with L := r.L.set k { p with x := x } } := by unfold RTab.thing; rw [hp]
/-- All that a walk wants of a place. -/
theorem RefAt.open_ {w : World} {h : Nat} {S : List Nat} {r : RTab} (hr : RefAt w h S r) {k : Nat} {p : Pl} (hp : r.L[k]? = some p) :
    ∃ gl cl, S = [h, gl] ∧ h ≠ gl ∧ k < r.L.length ∧ gl < w.heap.size ∧ h < w.heap.size ∧ (∀ W, Chg [] w W →
      W.cell? ⟨h, 0, none⟩ = some (.slice (some ⟨gl, 0, none⟩) r.L.length cl) ∧ W.cell? ⟨h, 1, none⟩ = some (.int .i64 r.times) ∧ W.cell? ⟨h, 2, none⟩ = some (.int .i64 r.most) ∧
      W.cell? ⟨gl, k * 7, none⟩ = some (.int .u64 p.gen) ∧ W.cell? ⟨gl, k * 7 + 1, none⟩ = some (.bool p.there) ∧ W.cell? ⟨gl, k * 7 + 2, none⟩ = some (.int .u64 p.x.b) ∧ W.cell? ⟨gl, k * 7 + 3, none⟩ = some (.int .u64 p.x.p) ∧
      W.cell? ⟨gl, k * 7 + 4, none⟩ = some (.slice p.x.a p.x.m p.x.c) ∧ W.cell? ⟨gl, k * 7 + 5, none⟩ = some (.int .i64 p.x.n) ∧ W.cell? ⟨gl, k * 7 + 6, none⟩ = some (.int .i64 p.freed) ∧ (∀ j, W.frozen? ⟨gl, j, none⟩ = false) ∧ (∀ j, W.frozen? ⟨h, j, none⟩ = false) ∧ h < W.heap.size ∧ gl < W.heap.size) ∧
      (∀ W, Chg [] w W → ∀ x : Cx, Rd W x.v x.l → RTurns h S (r.thing k x) w (put4 W gl (k * 7 + 2) x)) ∧
      (∀ W, Chg [] w W → ∀ n : Int, RTurns h S (r.thing k { p.x with n := n }) w (W.setCell ⟨gl, k * 7 + 5, none⟩ (.int .i64 n))) ∧
      (∀ W, Chg [] w W → ∀ (a : Option Addr) (m c : Nat) (l : List Rf), Rd W (.slice a m c) l → RTurns h S (r.thing k ⟨p.x.b, p.x.p, a, m, c, p.x.n, l⟩) w (W.setCell ⟨gl, k * 7 + 4, none⟩ (.slice a m c))) := by
  obtain ⟨gl, cl, hS, hne, hk, lg, lh, ht⟩ := hr.tell hp
  have a0 := (ht w (Chg.refl _ _)).1
  have hrow0 : Row w 54 7 (.slice (some ⟨gl, 0, none⟩) r.L.length cl) r.L.length (plCells r.L) := by
    obtain ⟨gl2, cl2, hB2, hL2, hS2, _⟩ := hr.form hp
    have e2 := hB2.cell 0
    simp only [List.getElem?_toArray, List.getElem?_cons_zero] at e2
    rw [a0] at e2
    rw [← Option.some.inj e2] at hL2
    exact hL2
  have hrd : Rd w p.x.v p.x.l := by obtain ⟨VL, _, _, _, hG⟩ := hr; exact hG k p hp
  refine ⟨gl, cl, hS, hne, hk, lg, lh, ht, fun W hc x hx => ?_, fun W hc n => ?_, fun W hc a m c l hx => ?_⟩
  · rw [rthing_eq hp]
    refine RTurns.write (p' := { p with x := x }) hr hp hS a0 hc (chg_put4 (Chg.refl _ _) (.inl (by simp)) _ _) ?_ hx
    rw [pl_x hp]
    exact (hrow0.chg hc (fun _ _ h => by cases h)).put4_ (o := k * 7 + 2) (by omega) x
  · rw [rthing_eq hp]
    refine RTurns.write (p' := { p with x := { p.x with n := n } }) hr hp hS a0 hc ((Chg.refl _ _).setCell (.inl (by simp)) _) ?_ (hrd.quiet hc)
    rw [pl_set (p' := { p with x := { p.x with n := n } }) hp (j := 5) (u := .int .i64 n) rfl (by omega)]
    exact (hrow0.chg hc (fun _ _ h => by cases h)).set_ (j := k * 7 + 5) (by omega) _
  · rw [rthing_eq hp]
    refine RTurns.write (p' := { p with x := ⟨p.x.b, p.x.p, a, m, c, p.x.n, l⟩ }) hr hp hS a0 hc ((Chg.refl _ _).setCell (.inl (by simp)) _) ?_ hx
    rw [pl_set (p' := { p with x := ⟨p.x.b, p.x.p, a, m, c, p.x.n, l⟩ }) hp (j := 4) (u := .slice a m c) rfl (by omega)]
    exact (hrow0.chg hc (fun _ _ h => by cases h)).set_ (j := k * 7 + 4) (by omega) _
/-- Refs that name something. -/
theorem ris_open {r : RTab} {i q : Int} (h : r.is i q = true) : ∃ (k : Nat) (p : Pl), i = (k : Nat) ∧ r.L[k]? = some p ∧ r.at_ i q = p.x := by
  obtain ⟨k, p, rfl, hp, _⟩ := ris_iff.1 h
  exact ⟨k, p, rfl, hp, RTab.at_yes h hp⟩
def rbindE (r : RTab) (i q by_ : Int) : Int := if r.is i q then (if (r.at_ i q).n + by_ < 0 then 5 else 0) else 11
set_option maxHeartbeats 1600000 in
set_option maxRecDepth 100000 in
theorem rbind_any {w : World} {h : Nat} {S : List Nat} {r : RTab} (hr : RefAt w h S r) (hn : r.L.length ≤ 100) (i q by_ : Int) (n0 : -9223372036854775808 ≤ (r.at_ i q).n + by_) (n1 : (r.at_ i q).n + by_ ≤ 9223372036854775807) :
    Calls Tryz.prog 35 #[.pointer (some ⟨h, 0, none⟩), .agg #[.int .i64 i, .int .u64 q], .int .i64 by_] w fun e w' => e = .returned (.int .i64 (rbindE r i q by_)) ∧ RTurns h S (if rbindE r i q by_ = 0 then r.thing i.toNat { r.at_ i q with n := (r.at_ i q).n + by_ } else r) w w' := by
  have hI := fun W (hW : Chg [] w W) => ris_any (hr.quiet hW) hn i q
  have hRF := fun W (hW : Chg [] w W) => RTurns.refl hr hW
  unfold rbindE
  cases hq : r.is i q with
  | false =>
    rw [hq] at hI
    have HI := Lib.hid hI
    have HRF := Lib.hid hRF
    clear hI hr hn hq hRF
    go_enter Tryz.func35, Tryz.ntmps35
    go_wp2_with (go_at_call 79; refine (HI.out _ (((Chg.refl _ _).alloc _))).mono ?_; rintro e w1 ⟨rfl, hc⟩; have HC := Lib.hid ((((Chg.refl [] w).alloc _)).then hc); clear hc)
    go_ret
    exact ⟨rfl, HRF.out _ HC.out⟩
  | true =>
    rw [hq] at hI
    obtain ⟨k, p, rfl, hp, hat⟩ := ris_open hq
    rw [hat] at n0 n1 ⊢
    obtain ⟨gl, cl, hSS, _, hk, _, _, htell, _, hset, _⟩ := hr.open_ hp
    clear hSS
    have HT := Lib.hid htell
    have HI := Lib.hid hI
    have HS := Lib.hid hset
    have HRF := Lib.hid hRF
    obtain ⟨x, hx⟩ : ∃ x, x = p.x := ⟨_, rfl⟩
    rw [← hx] at HT HS n0 n1 ⊢
    have e1 : IntKind.i64.wrap (x.n + by_) = x.n + by_ := IntWalk.i64_in _ ⟨n0, n1⟩
    have i0 : (0 : Int) ≤ (k : Int) := by omega
    have i1 : (k : Int) < (r.L.length : Int) := by omega
    clear hI hr hq hp htell hx hat hset hRF
    by_cases hd : x.n + by_ < 0
    · have d1 : decide (x.n + by_ < 0) = true := by simpa using hd
      have HD := Lib.hid hd
      clear hd
      go_enter Tryz.func35, Tryz.ntmps35
      go_wp2_with (go_at_call 79; refine (HI.out _ (((Chg.refl _ _).alloc _))).mono ?_; rintro e w1 ⟨rfl, hc⟩; obtain ⟨_, d0, d2⟩ := ref_facts (w := w) rfl (Chg.refl [] _) hc; have HC := Lib.hid ((((Chg.refl [] w).alloc _)).then hc); obtain ⟨a0, a1, a2, b0, b1, b2, b3, b4, b5, b6, fz, fh, lh, lg⟩ := HT.out _ HC.out; clear hc)
      go_quiet (fail)
      go_wp2
      go_ret
      refine ⟨by simp [HD.out], ?_⟩
      first | exact HRF.out _ (HC.out.drewN _) | (rw [if_pos HD.out, if_neg (by decide)]; exact HRF.out _ (HC.out.drewN _))
    · have d1 : decide (x.n + by_ < 0) = false := by simpa using hd
      have HD := Lib.hid hd
      clear hd
      go_enter Tryz.func35, Tryz.ntmps35
      go_wp2_with (go_at_call 79; refine (HI.out _ (((Chg.refl _ _).alloc _))).mono ?_; rintro e w1 ⟨rfl, hc⟩; obtain ⟨_, d0, d2⟩ := ref_facts (w := w) rfl (Chg.refl [] _) hc; have HC := Lib.hid ((((Chg.refl [] w).alloc _)).then hc); obtain ⟨a0, a1, a2, b0, b1, b2, b3, b4, b5, b6, fz, fh, lh, lg⟩ := HT.out _ HC.out; clear hc)
      go_quiet (fail)
      go_wp2
      go_still_tail 21, (by kernel_rfl)
      (try change wpStill _ _ (World.drew _) _ _ _)
      (repeat still_step)
      (try refine wpStill_nil ?_)
      (try change wpList _ _ _ _ _ (World.drew _))
      go_wp2
      go_ret
      refine ⟨by simp [HD.out], ?_⟩
      first | (with_reducible exact HS.out _ ((HC.out.drewN _).drew) (x.n + by_)) | exact HS.out _ ((HC.out.drewN _).drew) (x.n + by_) | (rw [if_neg (by have := HD.out; omega)]; exact HS.out _ ((HC.out.drewN _).drew) (x.n + by_)) | (rw [if_neg (by have := HD.out; omega), if_pos rfl]; exact HS.out _ ((HC.out.drewN _).drew) (x.n + by_))
end Go.Proofs
end
section
namespace Go.Proofs
open Go.RowKit
set_option linter.unusedVariables false
set_option linter.unusedSimpArgs false
def RTab.drop (r : RTab) (k : Nat) (q : Int) : RTab := { r with L := r.L.set k ⟨q + 1, false, cx0, r.times + 1⟩, times := r.times + 1 }
/-- The world in which a place was freed. -/
abbrev dropW (W : World) (h gl k : Nat) (q T : Int) : World := (put4 (((W.setCell ⟨h, 1, none⟩ (.int .i64 T)).setCell ⟨gl, k * 7, none⟩ (.int .u64 (q + 1))).setCell ⟨gl, k * 7 + 1, none⟩ (.bool false)) gl (k * 7 + 2) cx0).setCell ⟨gl, k * 7 + 6, none⟩ (.int .i64 T)
theorem pl_all {l : List Pl} {k : Nat} (hk : k < l.length) (p' : Pl) : plCells (l.set k p') = (set4 (((plCells l).set (k * 7) (.int .u64 p'.gen)).set (k * 7 + 1) (.bool p'.there)) (k * 7 + 2) p'.x).set (k * 7 + 6) (.int .i64 p'.freed) := by
  have h : l[k]? = some (l[k]) := List.getElem?_eq_getElem hk
  have e1 := pl_set (p' := { l[k] with gen := p'.gen }) h (j := 0) (u := .int .u64 p'.gen) rfl (by omega)
  have e2 := pl_set (l := l.set k { l[k] with gen := p'.gen }) (p' := { l[k] with gen := p'.gen, there := p'.there }) (List.getElem?_set_self hk) (j := 1) (u := .bool p'.there) rfl (by omega)
  have e3 := pl_x (l := (l.set k { l[k] with gen := p'.gen }).set k { l[k] with gen := p'.gen, there := p'.there }) (k := k) (p := { l[k] with gen := p'.gen, there := p'.there }) (List.getElem?_set_self (by simpa using hk)) p'.x
  have e4 := pl_set (l := ((l.set k { l[k] with gen := p'.gen }).set k { l[k] with gen := p'.gen, there := p'.there }).set k { p' with freed := l[k].freed }) (p' := p') (List.getElem?_set_self (by simpa using hk)) (j := 6) (u := .int .i64 p'.freed) rfl (by omega)
  simp only [List.set_set, Nat.add_zero] at e1 e2 e3 e4
  rw [e4, e3, e2, e1]
theorem RTurns.drop {w : World} {h gl cl : Nat} {S : List Nat} {r : RTab} {k : Nat} {p : Pl} (hr : RefAt w h S r) (hp : r.L[k]? = some p) (hS : S = [h, gl]) (q : Int) : ∀ W, Chg [] w W → RTurns h S (r.drop k q) w (dropW W h gl k q (r.times + 1)) := by
  intro W hc
  obtain ⟨gl2, cl2, hB, hL, hS2, lg, hk, hne, _⟩ := hr.form hp
  have e : gl2 = gl := by rw [hS2] at hS; simpa using hS
  subst e
  have hG : ∀ (j : Nat) (p : Pl), r.L[j]? = some p → Rd w p.x.v p.x.l := by obtain ⟨_, _, _, _, hG⟩ := hr; exact hG
  have hB1 := (hB.chg hc (by simp)).set_ 1 (.int .i64 (r.times + 1))
  have hL1 := (hL.chg hc (fun _ _ h => by cases h)).far (p := ⟨h, 1, none⟩) (by simpa [foot_some] using hne) (.int .i64 (r.times + 1))
  have hL2 := (((hL1.set_ (j := k * 7) (by omega) (.int .u64 (q + 1))).set_ (j := k * 7 + 1) (by omega) (.bool false)).put4_ (o := k * 7 + 2) (by omega) cx0).set_ (j := k * 7 + 6) (by omega) (.int .i64 (r.times + 1))
  have ho : Off W [h, gl2] := Off.cons (hB.chg hc (by simp)) (by decide) (by have := Off.row (hL.chg hc (fun _ _ h => by cases h)) (by decide); simpa [foot_some] using this)
  have hcc : Chg [h, gl2] W (dropW W h gl2 k q (r.times + 1)) :=
    (chg_put4 ((((Chg.refl _ _).setCell (p := ⟨h, 1, none⟩) (.inl (by simp)) _).setCell (p := ⟨gl2, k * 7, none⟩) (.inl (by simp)) _).setCell (p := ⟨gl2, k * 7 + 1, none⟩) (.inl (by simp)) _) (.inl (by simp)) _ _).setCell (p := ⟨gl2, k * 7 + 6, none⟩) (.inl (by simp)) _
  refine ⟨S, ⟨.slice (some ⟨gl2, 0, none⟩) r.L.length cl2, ?_, ?_, by rw [hS2]; rfl, fun j pj hj => ?_⟩, fun k hk => .inl hk, ?_⟩
  · have := ((((hB1.far (p := ⟨gl2, k * 7, none⟩) hne (.int .u64 (q + 1))).far (p := ⟨gl2, k * 7 + 1, none⟩) hne (.bool false)).far4 hne (k * 7 + 2) cx0).far (p := ⟨gl2, k * 7 + 6, none⟩) hne (.int .i64 (r.times + 1)))
    simpa [RTab.drop] using this
  · unfold RTab.drop
    simp only [List.length_set]
    rw [pl_all hk]
    exact hL2
  · unfold RTab.drop at hj
    simp only at hj
    by_cases e : j = k
    · subst e
      rw [List.getElem?_set_self hk] at hj
      cases hj
      exact Rd.nil _
    · rw [List.getElem?_set_ne (fun e' => e e'.symm)] at hj
      exact ((hG j pj hj).quiet hc).keep ho hcc
  · exact (Chg.any hc).trans hcc (fun k hk => .inl (by rw [hS2]; exact hk))
def rdropE (r : RTab) (i q : Int) : Int := if r.is i q then (if 0 < (r.at_ i q).n then 14 else 0) else 11
set_option maxHeartbeats 1600000 in
set_option maxRecDepth 100000 in
theorem rdrop_any {w : World} {h : Nat} {S : List Nat} {r : RTab} (hr : RefAt w h S r) (hn : r.L.length ≤ 100) (i q : Int) (t0 : 0 ≤ r.times) (t1 : r.times ≤ 1000000) (q0 : 0 ≤ q) (q1 : q ≤ 1000000) :
    Calls Tryz.prog 40 #[.pointer (some ⟨h, 0, none⟩), .agg #[.int .i64 i, .int .u64 q]] w fun e w' => e = .returned (.int .i64 (rdropE r i q)) ∧ RTurns h S (if rdropE r i q = 0 then r.drop i.toNat q else r) w w' := by
  have hI := fun W (hW : Chg [] w W) => ris_any (hr.quiet hW) hn i q
  have hRF := fun W (hW : Chg [] w W) => RTurns.refl hr hW
  unfold rdropE
  cases hq : r.is i q with
  | false =>
    rw [hq] at hI
    have HI := Lib.hid hI
    have HRF := Lib.hid hRF
    clear hI hr hn hq hRF
    go_enter Tryz.func40, Tryz.ntmps40
    go_wp2_with (go_at_call 79; refine (HI.out _ (((Chg.refl _ _).alloc _))).mono ?_; rintro e w1 ⟨rfl, hc⟩; have HC := Lib.hid ((((Chg.refl [] w).alloc _)).then hc); clear hc)
    go_ret
    exact ⟨rfl, HRF.out _ HC.out⟩
  | true =>
    rw [hq] at hI
    obtain ⟨k, p, rfl, hp, hat⟩ := ris_open hq
    rw [hat]
    obtain ⟨gl, cl, hSS, hne, hk, lgw, lhw, htell, _, _, _⟩ := hr.open_ hp
    have HS := Lib.hid (RTurns.drop (cl := cl) hr hp hSS q)
    clear hSS
    have HT := Lib.hid htell
    have HI := Lib.hid hI
    have HRF := Lib.hid hRF
    obtain ⟨x, hx⟩ : ∃ x, x = p.x := ⟨_, rfl⟩
    rw [← hx] at HT ⊢
    obtain ⟨T, hTT⟩ : ∃ T, T = r.times := ⟨_, rfl⟩
    rw [← hTT] at HT HS t0 t1
    have e1 : IntKind.i64.wrap (T + 1) = T + 1 := IntWalk.i64_in _ ⟨by omega, by omega⟩
    have e2 : IntKind.u64.wrap (q + 1) = q + 1 := by rw [IntKind.wrap_u64]; omega
    have i0 : (0 : Int) ≤ (k : Int) := by omega
    have i1 : (k : Int) < (r.L.length : Int) := by omega
    clear hI hr hq hp htell hx hat hRF hTT
    by_cases hd : 0 < x.n
    · have d1 : decide (0 < x.n) = true := by simpa using hd
      have HD := Lib.hid hd
      clear hd
      go_enter Tryz.func40, Tryz.ntmps40
      go_wp2_with (go_at_call 79; refine (HI.out _ (((Chg.refl _ _).alloc _))).mono ?_; rintro e w1 ⟨rfl, hc⟩; obtain ⟨_, d0, d2⟩ := ref_facts (w := w) rfl (Chg.refl [] _) hc; have HC := Lib.hid ((((Chg.refl [] w).alloc _)).then hc); obtain ⟨a0, a1, a2, b0, b1, b2, b3, b4, b5, b6, fz, fh, lh, lg⟩ := HT.out _ HC.out; clear hc)
      go_quiet (fail)
      go_wp2
      go_ret
      refine ⟨by simp [HD.out], ?_⟩
      first | exact HRF.out _ (HC.out.drewN _) | (rw [if_pos HD.out, if_neg (by decide)]; exact HRF.out _ (HC.out.drewN _))
    · have d1 : decide (0 < x.n) = false := by simpa using hd
      have HD := Lib.hid hd
      clear hd
      go_enter Tryz.func40, Tryz.ntmps40
      go_wp2_with (go_at_call 79; refine (HI.out _ (((Chg.refl _ _).alloc _))).mono ?_; rintro e w1 ⟨rfl, hc⟩; obtain ⟨lbx, d0, d2⟩ := ref_facts (w := w) rfl (Chg.refl [] _) hc; have HC := Lib.hid ((((Chg.refl [] w).alloc _)).then hc); obtain ⟨a0, a1, a2, b0, b1, b2, b3, b4, b5, b6, fz, fh, lh, lg⟩ := HT.out _ HC.out; clear hc)
      go_quiet (fail)
      have hnb : ¬ (w.heap.size = h) := by omega
      have hnb2 : ¬ (h = w.heap.size) := by omega
      go_wp2
      go_still_tail 15, (by kernel_rfl)
      (try change wpStill _ _ (World.drew _) _ _ _)
      (repeat still_step)
      (try refine wpStill_nil ?_)
      (try change wpList _ _ _ _ _ (World.drew _))
      go_wp2
      go_ret
      refine ⟨by simp [HD.out], ?_⟩
      exact (HS.out _ (HC.out.drewN _)).later ((Chg.refl _ _).drew)
end Go.Proofs
end
section
namespace Go.Proofs
open Go.RowKit
set_option linter.unusedVariables false
def rpartE (x : Cx) (am now : Int) : Int := if am == 0 || decide (1152921504606846976 < now) then 2 else if decide (x.b ≤ am) || decide (thereP x.l now < am) then 15 else 0
theorem rthere_ctx {w : World} {v : Value} {l : List Rf} (h : Rd w v l) (hk : Ok l) (hn : l.length ≤ 100000) (now : Int) :
    Calls Tryz.prog 80 #[v, .int .u64 now] w fun e w' => e = .returned (.int .u64 (thereP l now)) ∧ w = w' := rthere_any h.inn hk hn now
set_option maxHeartbeats 1600000 in
set_option maxRecDepth 100000 in
theorem rpart_any {w : World} {h : Nat} {S : List Nat} {r : RTab} (hr : RefAt w h S r) {i q : Int} (hq : r.is i q = true) (am now : Int) (hk : Ok (r.at_ i q).l) (hn : (r.at_ i q).l.length ≤ 100000) :
    Calls Tryz.prog 82 #[.pointer (some ⟨h, 0, none⟩), .agg #[.int .i64 i, .int .u64 q], .int .u64 am, .int .u64 now] w fun e w' => e = .returned (.int .i64 (rpartE (r.at_ i q) am now)) ∧ Chg [] w w' := by
  have hrd := fun W (hW : Chg [] w W) => (hr.quiet hW).rd i q
  obtain ⟨k, p, rfl, hp, hat⟩ := ris_open hq
  rw [hat] at hk hn hrd ⊢
  obtain ⟨gl, cl, hSS, hne, hkl, lgw, lhw, htell, _⟩ := hr.open_ hp
  clear hSS
  obtain ⟨x, hx⟩ : ∃ x, x = p.x := ⟨_, rfl⟩
  rw [← hx] at htell hk hn hrd ⊢
  obtain ⟨th, hth⟩ : ∃ th, th = thereP x.l now := ⟨_, rfl⟩
  have hTH := fun W (hW : Chg [] w W) => rthere_ctx (hrd W hW) hk hn now
  rw [← hth] at hTH
  have hE : rpartE x am now = if am == 0 || decide (1152921504606846976 < now) then 2 else if decide (x.b ≤ am) || decide (th < am) then 15 else 0 := by unfold rpartE; rw [hth]
  rw [hE]
  have HTH := Lib.hid hTH
  have HT := Lib.hid htell
  obtain ⟨a0, a1, a2, b0, b1, b2, b3, b4, b5, b6, fz, fh, lh, lg⟩ := htell w (Chg.refl _ _)
  have i0 : (0 : Int) ≤ (k : Int) := by omega
  have i1 : (k : Int) < (r.L.length : Int) := by omega
  have hq2 : ¬ (w.heap.size = gl) := by omega
  have hq3 : ¬ (w.heap.size = h) := by omega
  clear hr hp htell hx hat hrd hk hn hq hth hE hTH
  cases hd : (am == 0)
  · cases he : decide (1152921504606846976 < now)
    · cases hf : decide (x.b ≤ am)
      all_goals
        go_enter Tryz.func82, Tryz.ntmps82
        go_wp2
        go_region
        go_wp2_with (go_at_call 80; refine (HTH.out _ (by repeat' (first | with_reducible exact Chg.refl _ _ | with_reducible apply Chg.alloc | with_reducible apply Chg.drew))).mono ?_; rintro e w1 ⟨rfl, rfl⟩)
        all_goals
          go_ret
          exact ⟨rfl, by repeat' (first | with_reducible exact Chg.refl _ _ | with_reducible apply Chg.alloc | with_reducible apply Chg.drew)⟩
    · go_enter Tryz.func82, Tryz.ntmps82
      go_wp2
      go_region
      go_wp2
      go_ret
      exact ⟨rfl, by repeat' (first | with_reducible exact Chg.refl _ _ | with_reducible apply Chg.alloc | with_reducible apply Chg.drew)⟩
  · go_enter Tryz.func82, Tryz.ntmps82
    go_wp2
    go_region
    go_wp2
    go_ret
    exact ⟨rfl, by repeat' (first | with_reducible exact Chg.refl _ _ | with_reducible apply Chg.alloc | with_reducible apply Chg.drew)⟩
set_option maxHeartbeats 3200000 in
set_option maxRecDepth 100000 in
theorem rpull_ctx {w : World} {h : Nat} {S : List Nat} {r : RTab} (hr : RefAt w h S r) {i q : Int} (hq : r.is i q = true) (am now : Int) (hk : Ok (r.at_ i q).l) (hn : (r.at_ i q).l.length ≤ 100000) (hm : U64 am) (b0 : 0 ≤ (r.at_ i q).b - am) (b1 : (r.at_ i q).b - am < 18446744073709551616) :
    Calls Tryz.prog 83 #[.pointer (some ⟨h, 0, none⟩), .agg #[.int .i64 i, .int .u64 q], .int .u64 am, .int .u64 now] w fun e w' => e = .returned (.tuple #[]) ∧ ∃ A m cc, RTurns h S (r.thing i.toNat ⟨(r.at_ i q).b - am, (r.at_ i q).p, A, m, cc, (r.at_ i q).n, (pullP (r.at_ i q).l now am).1⟩) w w' := by
  have hP := fun W (hW : Chg [] w W) => rpull_any ((hr.quiet hW).rd i q).inn hk hn now am hm
  obtain ⟨k, p, rfl, hp, hat⟩ := ris_open hq
  rw [hat] at hP b0 b1 ⊢
  obtain ⟨gl, cl, hSS, hne, hkl, lgw, lhw, htell, hset, _⟩ := hr.open_ hp
  clear hSS
  obtain ⟨x, hx⟩ : ∃ x, x = p.x := ⟨_, rfl⟩
  rw [← hx] at htell hP b0 b1 ⊢
  obtain ⟨pl, hpl⟩ : ∃ pl, pl = (pullP x.l now am).1 := ⟨_, rfl⟩
  obtain ⟨pe, hpe⟩ : ∃ pe, pe = (pullP x.l now am).2 := ⟨_, rfl⟩
  rw [← hpl, ← hpe] at hP
  rw [← hpl]
  have e1 : IntKind.u64.wrap (x.b - am) = x.b - am := by rw [IntKind.wrap_u64]; omega
  have HP := Lib.hid hP
  have HT := Lib.hid htell
  have HS := Lib.hid hset
  obtain ⟨a0, a1, a2, c0, c1, c2, c3, c4, c5, c6, fz, fh, lh, lg⟩ := htell w (Chg.refl _ _)
  have i0 : (0 : Int) ≤ (k : Int) := by omega
  have i1 : (k : Int) < (r.L.length : Int) := by omega
  have hq2 : ¬ (w.heap.size = gl) := by omega
  have hq3 : ¬ (w.heap.size = h) := by omega
  clear hr hp htell hx hat hk hn hq hP hset hpl hpe
  go_enter Tryz.func83, Tryz.ntmps83
  go_wp2
  go_region
  go_wp2_with (go_at_call 113; refine (HP.out _ (by exact ((((Chg.refl _ _).alloc _).alloc _).drew))).mono ?_; rintro e w2 ⟨v2, rfl, hmn⟩; obtain ⟨A2, c2', rfl, _⟩ := hmn.1.open_; obtain ⟨k0, k1, k2, k3, kf, kl⟩ := cx4_facts (w1 := w.alloc (obRef (k : Int) q)) ((Chg.refl [] _).drew) hmn.2.2; simp only [World.size_alloc] at k0 k1 k2 k3 kf kl; obtain ⟨_, f0, f1⟩ := ref_facts (w := w) rfl (((Chg.refl [] _).alloc _).drew) hmn.2.2; have HC2 := Lib.hid ((((Chg.refl [] w).alloc _).alloc _).drew.then hmn.2.2); have HMN := Lib.hid hmn.1; have HBX := Lib.hid (((Blk.at (w.alloc (obRef (k : Int) q)) 43 #[.int .u64 x.b, .int .u64 x.p, .slice x.a x.m x.c, .int .i64 x.n] (n := w.heap.size + 1) (by simp)).drew).chg hmn.2.2 (by simp)); obtain ⟨g0, g1, g2, d0, d1, d2, d3, d4, d5, d6, fz2, fh2, lh2, lg2⟩ := HT.out _ HC2.out; have hq4 : ¬ (w.heap.size + 1 = gl) := (by omega); have hq5 : ¬ (w.heap.size + 1 = h) := (by omega); clear hmn)
  go_still_tail 9, (by kernel_rfl)
  (try change wpStill _ _ (World.drew _) _ _ _)
  (repeat still_step)
  (try refine wpStill_nil ?_)
  (try change wpList _ _ _ _ _ (World.drew _))
  have HC3 := Lib.hid (((HC2.out.setCell (p := ⟨w.heap.size + 1, 2, none⟩) (.inr (by dsimp only; omega)) (.slice A2 pl.length c2')).setCell (p := ⟨w.heap.size + 1, 0, none⟩) (.inr (by dsimp only; omega)) (.int .u64 (x.b - am))))
  have HR3 := Lib.hid (HMN.out.keep (Off.cons HBX.out (by decide) (Off.nil _)) (((((Chg.refl [w.heap.size + 1] w2).setCell (p := ⟨w.heap.size + 1, 2, none⟩) (.inl (by simp)) (.slice A2 pl.length c2')).setCell (p := ⟨w.heap.size + 1, 0, none⟩) (.inl (by simp)) (.int .u64 (x.b - am))))))
  have HFIN := Lib.hid (HS.out _ HC3.out ⟨x.b - am, x.p, A2, pl.length, c2', x.n, pl⟩ HR3.out)
  go_wp2
  go_end0
  rw [show ((k : Nat) : Int).toNat = k from rfl]
  exact ⟨rfl, A2, pl.length, c2', HFIN.out.later ((Chg.refl _ _).drew)⟩
end Go.Proofs
end
section
namespace Go.Proofs
open Go.RowKit
set_option linter.unusedVariables false
def chB (x : Cx) (now most : Int) : Bool := (chargeP x.l now x.p most).2
def chL (x : Cx) (now most : Int) : List Rf := (chargeP x.l now x.p most).1
/-- What a charge leaves: as it was where nothing was there; else other refills. -/
def ChOut (h : Nat) (S : List Nat) (r : RTab) (k : Nat) (x : Cx) (l : List Rf) (b : Bool) (w w' : World) : Prop :=
  (b = false → RTurns h S r w w') ∧ (b = true → ∃ A m cc, RTurns h S (r.thing k ⟨x.b, x.p, A, m, cc, x.n, l⟩) w w')
theorem ChOut.no {h : Nat} {S : List Nat} {r : RTab} {k : Nat} {x : Cx} {l : List Rf} {w w' : World} (hT : RTurns h S r w w') : ChOut h S r k x l false w w' := ⟨fun _ => hT, (fun h => by cases h)⟩
theorem ChOut.yes {h : Nat} {S : List Nat} {r : RTab} {k : Nat} {x : Cx} {l : List Rf} {w w' : World} {A : Option Addr} {m cc : Nat} (hT : RTurns h S (r.thing k ⟨x.b, x.p, A, m, cc, x.n, l⟩) w w') : ChOut h S r k x l true w w' := ⟨(fun h => by cases h), fun _ => ⟨A, m, cc, hT⟩⟩
set_option maxHeartbeats 3200000 in
set_option maxRecDepth 100000 in
theorem rcharge_no {w : World} {h : Nat} {S : List Nat} {r : RTab} (hr : RefAt w h S r) (hn : r.L.length ≤ 100) {i q : Int} (now : Int) (hq : r.is i q = false) :
    Calls Tryz.prog 37 #[.pointer (some ⟨h, 0, none⟩), .agg #[.int .i64 i, .int .u64 q], .int .u64 now] w fun e w' => e = .returned (.bool false) ∧ Chg [] w w' := by
  have hI := fun W (hW : Chg [] w W) => ris_any (hr.quiet hW) hn i q
  rw [hq] at hI
  have HI := Lib.hid hI
  clear hI hr hn hq
  go_enter Tryz.func37, Tryz.ntmps37
  go_wp2_with (go_at_call 79; refine (HI.out _ (((Chg.refl _ _).alloc _))).mono ?_; rintro e w1 ⟨rfl, hc⟩; have HC := Lib.hid ((((Chg.refl [] w).alloc _)).then hc); clear hc)
  go_ret
  exact ⟨rfl, HC.out⟩
set_option maxHeartbeats 3200000 in
set_option maxRecDepth 100000 in
theorem rcharge_yes {w : World} {h : Nat} {S : List Nat} {r : RTab} (hr : RefAt w h S r) (hn : r.L.length ≤ 100) {i q : Int} {now : Int} (hq : r.is i q = true) (hk : Ok (r.at_ i q).l) (hl : (r.at_ i q).l.length ≤ 100000) (hnow : U64 now) (hper : U64 (r.at_ i q).p) :
    Calls Tryz.prog 37 #[.pointer (some ⟨h, 0, none⟩), .agg #[.int .i64 i, .int .u64 q], .int .u64 now] w fun e w' => e = .returned (.bool (chB (r.at_ i q) now r.most)) ∧
      ChOut h S r i.toNat (r.at_ i q) (chL (r.at_ i q) now r.most) (chB (r.at_ i q) now r.most) w w' := by
  have hI := fun W (hW : Chg [] w W) => ris_any (hr.quiet hW) hn i q
  have hRF := fun W (hW : Chg [] w W) => RTurns.refl hr hW
  have hP := fun W (hW : Chg [] w W) => rcharge_any ((hr.quiet hW).rd i q).inn hk hl (now := now) (most := r.most) hnow hper
  rw [hq] at hI
  obtain ⟨k, p, rfl, hp, hat⟩ := ris_open hq
  unfold chB chL
  rw [hat] at hP ⊢
  obtain ⟨gl, cl, hSS, hne, hkl, lgw, lhw, htell, _, _, hset⟩ := hr.open_ hp
  clear hSS
  obtain ⟨x, hx⟩ : ∃ x, x = p.x := ⟨_, rfl⟩
  rw [← hx] at htell hP hset ⊢
  obtain ⟨pl, hpl⟩ : ∃ pl, pl = (chargeP x.l now x.p r.most).1 := ⟨_, rfl⟩
  obtain ⟨pb, hpb⟩ : ∃ pb, pb = (chargeP x.l now x.p r.most).2 := ⟨_, rfl⟩
  rw [← hpl, ← hpb] at hP
  rw [← hpl, ← hpb]
  obtain ⟨M, hM⟩ : ∃ M, M = r.most := ⟨_, rfl⟩
  rw [← hM] at hP htell
  have HI := Lib.hid hI
  have HP := Lib.hid hP
  have HT := Lib.hid htell
  have HS := Lib.hid hset
  have HRF := Lib.hid hRF
  have i0 : (0 : Int) ≤ (k : Int) := by omega
  have i1 : (k : Int) < (r.L.length : Int) := by omega
  clear hr hp htell hx hat hk hn hq hP hset hpl hpb hI hRF hM hl
  go_enter Tryz.func37, Tryz.ntmps37
  go_wp2_with (go_at_call 79; refine (HI.out _ (((Chg.refl _ _).alloc _))).mono ?_; rintro e w1 ⟨rfl, hc⟩; obtain ⟨lb0, d0, d1⟩ := ref_facts (w := w) rfl (Chg.refl [] _) hc; have HC := Lib.hid ((((Chg.refl [] w).alloc _)).then hc); have HC1 := Lib.hid hc; obtain ⟨a0, a1, a2, b0, b1, b2, b3, b4, b5, b6, fz, fh, lh, lg⟩ := HT.out _ HC.out; clear hc)
  have hq2 : ¬ (w1.heap.size = gl) := by omega
  have hq3 : ¬ (w1.heap.size = h) := by omega
  have hq4 : ¬ (w1.heap.size = w.heap.size) := by omega
  go_region
  go_wp2
  go_region_held3 (fun w' => w'.cell? ⟨w1.heap.size, 1, none⟩ = some (.int .u64 x.p) ∧ w'.cell? ⟨w1.heap.size, 2, none⟩ = some (.slice x.a x.m x.c) ∧ w'.cell? ⟨h, 2, none⟩ = some (.int .i64 M))
    (first | go_keep)
    (first
      | (go_at_call 81; refine (HP.out _ (by exact ((HC.out.alloc _).drew.drew))).mono ?_; rintro e w2 ⟨v2, rfl, hmn⟩; obtain ⟨A2, c2', rfl, _⟩ := hmn.1.open_; obtain ⟨k0, k1, k2, k3, kf, kl⟩ := cx4_facts (w1 := w1) ((Chg.refl [] _).drew.drew) hmn.2.2; obtain ⟨_, f0, f1⟩ := ref_facts (w := w) rfl (((HC1.out.alloc _).drew.drew)) hmn.2.2; have HC2 := Lib.hid ((HC.out.alloc _).drew.drew.then hmn.2.2); have HMN := Lib.hid hmn.1; obtain ⟨g0, g1, g2, e0', e1', e2', e3', e4', e5', e6', fz2, fh2, lh2, lg2⟩ := HT.out _ HC2.out; clear hmn))
  all_goals
    cases pb with
    | false =>
      go_wp2
      go_ret
      exact ⟨rfl, ChOut.no (HRF.out _ HC2.out)⟩
    | true =>
      go_wp2
      go_still_tail 10, (by kernel_rfl)
      (try change wpStill _ _ (World.drew _) _ _ _)
      (repeat still_step)
      (try refine wpStill_nil ?_)
      (try change wpList _ _ _ _ _ (World.drew _))
      have HFIN := Lib.hid (HS.out _ HC2.out A2 pl.length c2' pl HMN.out)
      go_wp2
      go_ret
      exact ⟨rfl, ChOut.yes (HFIN.out.later ((Chg.refl _ _).drew))⟩
end Go.Proofs
end
