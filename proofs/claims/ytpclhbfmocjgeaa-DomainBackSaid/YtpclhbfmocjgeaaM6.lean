import Derived.Test.YtpclhbfmocjgeaaM5
section
namespace Go.Proofs
open Go.RowKit
set_option linter.unusedVariables false
set_option linter.unusedSimpArgs false

set_option maxHeartbeats 6400000 in
set_option maxRecDepth 100000 in
theorem rin_any {w : World} {h : Nat} {S : List Nat} {r : RTab} (hr : RefAt w h S r) (h0 : 0 < r.L.length) (hn : r.L.length ≤ 1000) {k : Nat} {p : Pl} (hp : r.L[k]? = some p) {L : List (Int × Int)} (hU : Up r.par (k : Nat) p.gen L) (hL : L.length ≤ 100000) (i q : Int) :
    Calls Try.prog 71 #[ptr h, .int .i64 (k : Nat), .agg #[.int .i64 i, .int .u64 q]] w fun e w' => e = .returned (.bool (decide ((i, q) ∈ L))) ∧ Chg [] w w' := by
  obtain ⟨gl, cl, A9, cF, hne, hcl, _, lg, lh, htell⟩ := hr.tell h0
  obtain ⟨a0, _, lhr, lgr, _, _, hpl⟩ := htell (w.alloc (obRef i q)) ((Chg.refl _ _).alloc _)
  obtain ⟨b0, _⟩ := hpl k p hp
  have HCH := Lib.hid (fun W (hc : Chg [] w W) => rchain_any (hr.quiet hc) h0 hU hL)
  obtain ⟨n, hnn⟩ : ∃ n, n = r.L.length := ⟨_, rfl⟩
  rw [← hnn] at a0 hcl hn
  have hkn : k < n := by have := (List.getElem?_eq_some_iff.1 hp).1; omega
  have k0 : (0 : Int) ≤ (k : Int) := by omega
  have k1 : (k : Int) < (n : Int) := by omega
  obtain ⟨G, hG⟩ : ∃ G, G = p.gen := ⟨_, rfl⟩
  rw [← hG] at b0 HCH
  obtain ⟨m, hm⟩ : ∃ m, m = L.length := ⟨_, rfl⟩
  rw [← hm] at HCH hL
  have HM := Lib.hid hm
  clear hr htell hpl hp hU hnn hG hm
  go_enter Try.func71, Try.ntmps71
  go_wp2_with (go_at_call 35; refine (HCH.out _ ((Chg.refl _ _).alloc _)).mono ?_; rintro e w1 ⟨A, cc, rfl, hrow, _, hc⟩; have HR := Lib.hid hrow; have HC := Lib.hid (((Chg.refl [] w).alloc _).then hc); have HB := Lib.hid ((Blk.new w 34 #[.int .i64 i, .int .u64 q]).chg hc (by simp)); clear hrow hc)
  go_loopg [8] m (fun gh iv wr => ∃ j : Nat, j + gh = m ∧ iv = .int .i64 j ∧ Hid (Chg [] w1 wr ∧ ∀ j' x, j' < j → L[j']? = some x → x ≠ (i, q)))
  case atStart => exact ⟨0, by omega, rfl, Lib.hid ⟨Chg.refl _ _, fun j' x hj => by omega⟩⟩
  case round =>
    obtain ⟨j, hj, rfl, HH⟩ := hrel
    obtain ⟨hc, hno⟩ := HH.out
    by_cases hlt : j < m
    · have j0 : (0 : Int) ≤ (j : Int) := by omega
      have j1 : (j : Int) < (m : Int) := by omega
      obtain ⟨x, hx⟩ : ∃ x, L[j]? = some x := ⟨_, List.getElem?_eq_getElem (by rw [← HM.out]; exact hlt)⟩
      obtain ⟨gr, cr, hv, _, _, hcell, _, lgr2⟩ := HR.out.form (by omega)
      simp only [Value.slice.injEq] at hv
      obtain ⟨rfl, h91, h92⟩ := hv
      clear h91 h92
      obtain ⟨x0, x1⟩ := refCells_at hx
      have y0 := (hc.cell (p := ⟨gr, j * 2, none⟩) lgr2 (by simp)).trans (hcell _ _ x0)
      have y1 := (hc.cell (p := ⟨gr, j * 2 + 1, none⟩) lgr2 (by simp)).trans (hcell _ _ x1)
      have hB := HB.out.chg hc (by simp)
      have z0 := hB.cell 0
      have z1 := hB.cell 1
      obtain ⟨xi, xq⟩ := x
      simp only at y0 y1
      have HXX := Lib.hid hx
      have HNO := Lib.hid hno
      have HC2 := Lib.hid hc
      clear hx hcell x0 x1 hB hc hno HH
      by_cases ha : xi = i
      · by_cases hb : xq = q
        · have e5 : (xi == i) = true := by simpa using ha
          have e6 : (xq == q) = true := by simpa using hb
          have HY := Lib.hid (show (i, q) ∈ L by rw [← ha, ← hb]; exact List.mem_of_getElem? HXX.out)
          clear ha hb
          go_wp2
          go_quiet (fail)
          go_wp2
          go_ret
          exact ⟨by rw [decide_eq_true HY.out]; rfl, HC.out.then (HC2.out.drewN _)⟩
        · have e5 : (xi == i) = true := by simpa using ha
          have e6 : (xq == q) = false := by simpa using hb
          have HY := Lib.hid (show (xi, xq) ≠ (i, q) from fun e => hb (by simpa using congrArg Prod.snd e))
          clear ha hb
          go_wp2
          go_quiet (fail)
          go_wp2
          go_roundg (m - j - 1)
          case measure => omega
          case rel =>
            refine ⟨j + 1, by omega, by go_num, Lib.hid ⟨HC2.out.drewN _, fun j' x hj' hx' => ?_⟩⟩
            rcases Nat.lt_or_ge j' j with h | h
            · exact HNO.out j' x h hx'
            · have : j' = j := by omega
              subst this
              rw [HXX.out] at hx'; cases hx'; exact HY.out
      · have e5 : (xi == i) = false := by simpa using ha
        have HY := Lib.hid (show (xi, xq) ≠ (i, q) from fun e => ha (by simpa using congrArg Prod.fst e))
        clear ha
        go_wp2
        go_quiet (fail)
        go_wp2
        go_roundg (m - j - 1)
        case measure => omega
        case rel =>
          refine ⟨j + 1, by omega, by go_num, Lib.hid ⟨HC2.out.drewN _, fun j' x hj' hx' => ?_⟩⟩
          rcases Nat.lt_or_ge j' j with h | h
          · exact HNO.out j' x h hx'
          · have : j' = j := by omega
            subst this
            rw [HXX.out] at hx'; cases hx'; exact HY.out
    · have hjm : j = m := by omega
      have HY := Lib.hid (show ¬ (i, q) ∈ L from fun hmem => by
        obtain ⟨j', hj'⟩ := List.getElem?_of_mem hmem
        have := (List.getElem?_eq_some_iff.1 hj').1
        exact hno j' _ (by have := HM.out; omega) hj' rfl)
      have HC2 := Lib.hid hc
      clear hc hno HH hjm
      go_wp2
      go_ret
      exact ⟨by rw [decide_eq_false HY.out]; rfl, HC.out.then HC2.out⟩
end Go.Proofs
end
section
namespace Go.Proofs
open Go.RowKit
set_option linter.unusedVariables false
set_option linter.unusedSimpArgs false

/-! ### What a domain is, by the document -/
def sumL (f : Nat → Int) (l : List Nat) : Int := l.foldl (fun a k => a + f k) 0
theorem sumL_snoc (f : Nat → Int) (l : List Nat) (k : Nat) : sumL f (l ++ [k]) = sumL f l + f k := by unfold sumL; rw [List.foldl_append]; rfl
theorem sumL_nil (f : Nat → Int) : sumL f [] = 0 := rfl
def sumN (f : Nat → Int) : Nat → Int
  | 0 => 0
  | k + 1 => sumN f k + f k
theorem sumN_succ (f : Nat → Int) (k : Nat) : sumN f (k + 1) = sumN f k + f k := rfl
theorem sumL_bd {f : Nat → Int} {B : Int} (l : List Nat) (h : ∀ k ∈ l, 0 ≤ f k ∧ f k ≤ B) : 0 ≤ sumL f l ∧ sumL f l ≤ B * l.length := by
  obtain ⟨n, hn⟩ : ∃ n, n = l.length := ⟨_, rfl⟩
  induction n generalizing l with
  | zero => have := List.eq_nil_of_length_eq_zero hn.symm; subst this; simp [sumL_nil]
  | succ n ih =>
    rcases List.eq_nil_or_concat l with h' | ⟨l', k, h'⟩
    · subst h'; simp at hn
    · rw [List.concat_eq_append] at h'
      subst h'
      have hl : n = l'.length := by simp at hn; exact hn
      have a := ih l' (fun j hj => h j (by simp [hj])) hl
      have b := h k (by simp)
      rw [sumL_snoc, List.length_append]
      have : B * ((l'.length + [k].length : Nat) : Int) = B * (l'.length : Nat) + B := by push_cast; simp [Int.mul_add]
      omega
theorem sumN_bd {f : Nat → Int} {B : Int} (n : Nat) (h : ∀ k, k < n → 0 ≤ f k ∧ f k ≤ B) : 0 ≤ sumN f n ∧ sumN f n ≤ B * n := by
  induction n with
  | zero => simp [sumN]
  | succ n ih =>
    have a := ih (fun j hj => h j (by omega))
    have b := h n (by omega)
    rw [sumN_succ]
    have : B * ((n + 1 : Nat) : Int) = B * (n : Nat) + B := by push_cast; simp [Int.mul_add]
    omega
def pl0 : Pl := ⟨0, false, 0, 0, 0, 0, 0, 0, 0⟩
def RTab.pl (r : RTab) (k : Nat) : Pl := (r.L[k]?).getD pl0
theorem RTab.pl_eq {r : RTab} {k : Nat} {p : Pl} (h : r.L[k]? = some p) : r.pl k = p := by unfold RTab.pl; rw [h]; rfl
/-- Each place's numbers may be. -/
structure RTab.Fine (r : RTab) : Prop where
  nums : ∀ (k : Nat) (p : Pl), r.L[k]? = some p → (0 ≤ p.gs ∧ p.gs ≤ 64) ∧ (0 ≤ p.own ∧ p.own ≤ 64) ∧ (0 ≤ p.cpu ∧ p.cpu ≤ 4294967296) ∧ (0 ≤ p.used ∧ p.used < 18446744073709551616)
  len : r.L.length ≤ 1000
def RTab.cgs (r : RTab) (i q : Int) : Int := sumL (fun k => (r.pl k).gs) (r.kids i q)
def RTab.car (r : RTab) (i q : Int) : Int := sumL (fun k => (r.pl k).cpu) (r.kids i q)
/-- What lives at a place, below a ref. -/
def RTab.liveAt (r : RTab) (ch : Nat → List (Int × Int)) (i q : Int) (k : Nat) : Int := if (r.pl k).is = true ∧ (i, q) ∈ ch k then (r.pl k).own else 0
def RTab.live (r : RTab) (ch : Nat → List (Int × Int)) (i q : Int) : Int := sumN (r.liveAt ch i q) r.L.length
/-- The chains, each of a domain that is there. -/
def RTab.Chs (r : RTab) (ch : Nat → List (Int × Int)) : Prop := ∀ (k : Nat) (p : Pl), r.L[k]? = some p → p.is = true → Up r.par (k : Nat) p.gen (ch k) ∧ (ch k).length ≤ 100000
def RTab.get (r : RTab) (ch : Nat → List (Int × Int)) (i q : Int) : Dm :=
  ⟨(r.pl i.toNat).pi, (r.pl i.toNat).pg, (r.pl i.toNat).gs, (r.pl i.toNat).cpu, (r.pl i.toNat).per, r.cgs i q, r.car i q, (r.pl i.toNat).own, r.live ch i q, (r.pl i.toNat).used, (r.kids i q).length⟩
theorem kids_mem {r : RTab} {i q : Int} {k : Nat} (h : k ∈ r.kids i q) : k < r.L.length := by
  unfold RTab.kids RTab.kidsTo at h
  have := (List.mem_filter.1 h).1
  simpa using this
theorem take_snoc {l : List Nat} {j k : Nat} (h : l[j]? = some k) : l.take (j + 1) = l.take j ++ [k] := by
  rw [List.take_add_one, h]; rfl
/-- The domain that is told, while it is reckoned. -/
def outD (p : Pl) (a b c d : Int) : Dm := ⟨p.pi, p.pg, p.gs, p.cpu, p.per, a, b, p.own, c, p.used, d⟩
theorem get_boxes {w w1 : World} {i q : Int} {p : Pl} (hc : Chg [] (((((w.alloc (obRef i q)).alloc obDm).alloc (.cells p.arr 108)).drew).alloc (obX (outD p 0 0 0 0))) w1) :
    Blk w1 w.heap.size 34 #[.int .i64 i, .int .u64 q] ∧ Blk w1 (w.heap.size + 1) 45 dm0.arr ∧ Blk w1 (w.heap.size + 1 + 1 + 1) 45 (outD p 0 0 0 0).arr :=
  ⟨(((((Blk.new w 34 _).alloc _).alloc _).drew).alloc _).chg hc (by simp), (((Blk.at' (w.alloc (obRef i q)) 45 dm0.arr (n := w.heap.size + 1) (by simp)).alloc (.cells p.arr 108)).drew.alloc _).chg hc (by simp), (Blk.at' _ 45 (outD p 0 0 0 0).arr (n := w.heap.size + 1 + 1 + 1) (by simp)).chg hc (by simp)⟩
set_option maxHeartbeats 12800000 in
set_option maxRecDepth 100000 in
theorem rget_any {w : World} {h : Nat} {S : List Nat} {r : RTab} (hr : RefAt w h S r) (hf : r.Fine) {ch : Nat → List (Int × Int)} (hch : r.Chs ch) {k : Nat} {p : Pl} (hp : r.L[k]? = some p) (q : Int) :
    Calls Try.prog 37 #[ptr h, .agg #[.int .i64 (k : Nat), .int .u64 q]] w fun e w' => e = .returned (r.get ch (k : Nat) q).val ∧ Chg [] w w' := by
  have h0 : 0 < r.L.length := by have := (List.getElem?_eq_some_iff.1 hp).1; omega
  obtain ⟨gl, cl, A9, cF, hne, hcl, _, lg, lh, htell⟩ := hr.tell h0
  have HT := Lib.hid htell
  have HKD := Lib.hid (fun W (hc : Chg [] w W) => rkids_any (hr.quiet hc) h0 hf.len (k : Nat) q)
  have HIN := Lib.hid (fun W (hc : Chg [] w W) j pj (hj : r.L[j]? = some pj) (hjs : pj.is = true) => rin_any (hr.quiet hc) h0 hf.len hj (hch j pj hj hjs).1 (hch j pj hj hjs).2 (k : Nat) q)
  have HN9 := Lib.hid hf.nums
  have hn := hf.len
  obtain ⟨n, hnn⟩ : ∃ n, n = r.L.length := ⟨_, rfl⟩
  have hkn : k < n := by have := (List.getElem?_eq_some_iff.1 hp).1; omega
  rw [← hnn] at HT hcl hn h0
  have HN := Lib.hid hnn
  have k0 : (0 : Int) ≤ (k : Int) := by omega
  have k1 : (k : Int) < (n : Int) := by omega
  have HPP := Lib.hid hp
  have hget : r.get ch (k : Nat) q = ⟨p.pi, p.pg, p.gs, p.cpu, p.per, r.cgs (k : Nat) q, r.car (k : Nat) q, p.own, sumN (r.liveAt ch (k : Nat) q) n, p.used, (r.kids (k : Nat) q).length⟩ := by
    unfold RTab.get RTab.live
    rw [Int.toNat_natCast, RTab.pl_eq hp, hnn]
  rw [hget]
  obtain ⟨KL, hKL⟩ : ∃ KL, KL = r.kids (k : Nat) q := ⟨_, rfl⟩
  have HKL := Lib.hid hKL
  have hcg : r.cgs (k : Nat) q = sumL (fun j => (r.pl j).gs) KL := by unfold RTab.cgs; rw [hKL]
  have hca : r.car (k : Nat) q = sumL (fun j => (r.pl j).cpu) KL := by unfold RTab.car; rw [hKL]
  rw [hcg, hca, ← hKL]
  rw [← hKL] at HKD
  have HKB := Lib.hid (show ∀ (j k' : Nat), KL[j]? = some k' → k' < n ∧ ∃ p', r.L[k']? = some p' from fun j k' hj => by
    have := kids_mem (hKL ▸ List.mem_of_getElem? hj)
    exact ⟨by omega, _, List.getElem?_eq_getElem this⟩)
  have hkl : KL.length ≤ 1000 := by rw [hKL]; have := kidsTo_len r (k : Nat) q r.L.length; unfold RTab.kids; omega
  obtain ⟨T1, hT1⟩ : ∃ T1, T1 = sumL (fun j => (r.pl j).gs) KL := ⟨_, rfl⟩
  obtain ⟨T2, hT2⟩ : ∃ T2, T2 = sumL (fun j => (r.pl j).cpu) KL := ⟨_, rfl⟩
  obtain ⟨T3, hT3⟩ : ∃ T3, T3 = sumN (r.liveAt ch (k : Nat) q) n := ⟨_, rfl⟩
  obtain ⟨m, hm⟩ : ∃ m, m = KL.length := ⟨_, rfl⟩
  rw [← hT1, ← hT2, ← hT3, ← hm]
  rw [← hm] at hkl HKD
  have HT1 := Lib.hid hT1
  have HT2 := Lib.hid hT2
  have HT3 := Lib.hid hT3
  have HM := Lib.hid hm
  clear hr hf hch hp htell hnn hget hcg hca hKL hT1 hT2 hT3 hm
  obtain ⟨a0, _, lh1, lg1, _, _, hpl⟩ := HT.out ((w.alloc (obRef (k : Nat) q)).alloc obDm) (((Chg.refl _ _).alloc _).alloc _)
  obtain ⟨b0, b1, b2, b3, b4, b5, b6, b7, b8⟩ := hpl k p HPP.out
  clear hpl
  go_enter Try.func37, Try.ntmps37
  go_wp2
  go_region_held3 (fun w' => (w'.cell? ⟨h, 0, none⟩ = some (.slice (some ⟨gl, 0, none⟩) n cl) ∧ w'.cell? ⟨w.heap.size, 0, none⟩ = some (.int .i64 (k : Nat))) ∧ w'.cell? ⟨gl, k * 9, none⟩ = some (.int .u64 p.gen) ∧ w'.cell? ⟨gl, k * 9 + 1, none⟩ = some (.bool p.is) ∧ w'.cell? ⟨gl, k * 9 + 2, none⟩ = some (.int .i64 p.gs) ∧ w'.cell? ⟨gl, k * 9 + 3, none⟩ = some (.int .u64 p.cpu) ∧ w'.cell? ⟨gl, k * 9 + 4, none⟩ = some (.int .u64 p.per) ∧ w'.cell? ⟨gl, k * 9 + 5, none⟩ = some (.int .i64 p.pi) ∧ w'.cell? ⟨gl, k * 9 + 6, none⟩ = some (.int .u64 p.pg) ∧ w'.cell? ⟨gl, k * 9 + 7, none⟩ = some (.int .i64 p.own) ∧ w'.cell? ⟨gl, k * 9 + 8, none⟩ = some (.int .u64 p.used))
    (first | go_keep)
    (fail)
  go_wp2_with (go_at_call 70; refine (HKD.out _ (((((Chg.refl _ _).alloc _).alloc _).alloc _).drew.alloc _)).mono ?_; rintro e w1 ⟨A, cc, rfl, hrow, hft, hc⟩; have HR := Lib.hid hrow; have HFT := Lib.hid hft; have HC := Lib.hid ((((((Chg.refl [] w).alloc _).alloc _).alloc _).drew.alloc _).then hc); have HB := Lib.hid (get_boxes hc); clear hrow hft hc)
  have hz1 := HC.out.size
  have lBo := HB.out.2.2.lt
  clear b0 b1 b2 b3 b4 b5 b6 b7 b8 a0 lh1 lg1
  go_loopg [8] m (fun gh iv wr => ∃ j : Nat, j + gh = m ∧ iv = .int .i64 j ∧ Hid (Chg [w.heap.size + 1 + 1 + 1] w1 wr ∧ Blk wr (w.heap.size + 1 + 1 + 1) 45 (outD p (sumL (fun j => (r.pl j).gs) (KL.take j)) (sumL (fun j => (r.pl j).cpu) (KL.take j)) 0 j).arr))
  case atStart => exact ⟨0, by omega, rfl, Lib.hid ⟨Chg.refl _ _, HB.out.2.2⟩⟩
  case round =>
    obtain ⟨j, hj, rfl, HH⟩ := hrel
    obtain ⟨hc, hb⟩ := HH.out
    have hcw : Chg [] w wr := (HC.out.any.trans hc (fun k hk => .inl hk)).mono (fun k hk => .inr (by simp at hk; omega))
    by_cases hlt : j < m
    · have j0 : (0 : Int) ≤ (j : Int) := by omega
      have j1 : (j : Int) < (m : Int) := by omega
      obtain ⟨kk, hkk⟩ : ∃ kk, KL[j]? = some kk := ⟨_, List.getElem?_eq_getElem (by rw [← HM.out]; exact hlt)⟩
      obtain ⟨hkn2, p', hp'⟩ := HKB.out j kk hkk
      obtain ⟨gk, ck, hv, hfk, _, hcell, _, lgk⟩ := HR.out.form (by omega)
      simp only [Value.slice.injEq] at hv
      obtain ⟨rfl, h91, h92⟩ := hv
      clear h91 h92
      have hgk : w.heap.size + 4 ≤ gk := by have := HFT.out gk (by simp [foot_some]); simpa using this
      have y0 := (hc.cell (p := ⟨gk, j, none⟩) lgk (by simp; omega)).trans (hcell _ _ (numCells_at hkk))
      obtain ⟨a0, _, lh1, lg1, _, _, hpl⟩ := HT.out wr hcw
      obtain ⟨_, _, q2, q3, _, _, _, _, _⟩ := hpl kk p' hp'
      have i0 : (0 : Int) ≤ (kk : Int) := by omega
      have i1 : (kk : Int) < (n : Int) := by omega
      obtain ⟨n1, n2, n3, _⟩ := HN9.out kk p' hp'
      have hs1 := sumL_bd (f := fun j => (r.pl j).gs) (B := 64) (KL.take j) (fun k hk => by
        obtain ⟨j', hj'⟩ := List.getElem?_of_mem (List.mem_of_mem_take hk)
        obtain ⟨_, p'', hp''⟩ := HKB.out j' k hj'
        show 0 ≤ (r.pl k).gs ∧ (r.pl k).gs ≤ 64
        rw [RTab.pl_eq hp'']; exact (HN9.out k p'' hp'').1)
      have hs2 := sumL_bd (f := fun j => (r.pl j).cpu) (B := 4294967296) (KL.take j) (fun k hk => by
        obtain ⟨j', hj'⟩ := List.getElem?_of_mem (List.mem_of_mem_take hk)
        obtain ⟨_, p'', hp''⟩ := HKB.out j' k hj'
        show 0 ≤ (r.pl k).cpu ∧ (r.pl k).cpu ≤ 4294967296
        rw [RTab.pl_eq hp'']; exact (HN9.out k p'' hp'').2.2.1)
      have hlj : (KL.take j).length = j := by rw [List.length_take, ← HM.out]; omega
      rw [hlj] at hs1 hs2
      obtain ⟨g2, hg2⟩ : ∃ g2, g2 = p'.gs := ⟨_, rfl⟩
      obtain ⟨c2, hc2⟩ : ∃ c2, c2 = p'.cpu := ⟨_, rfl⟩
      obtain ⟨s1, hs1e⟩ : ∃ s1, s1 = sumL (fun j => (r.pl j).gs) (KL.take j) := ⟨_, rfl⟩
      obtain ⟨s2, hs2e⟩ : ∃ s2, s2 = sumL (fun j => (r.pl j).cpu) (KL.take j) := ⟨_, rfl⟩
      rw [← hg2] at q2 n1
      rw [← hc2] at q3 n3
      rw [← hs1e, ← hs2e] at hb
      rw [← hs1e] at hs1
      rw [← hs2e] at hs2
      have hSS1 := Lib.hid (show sumL (fun j => (r.pl j).gs) (KL.take (j + 1)) = s1 + g2 by rw [take_snoc hkk, sumL_snoc, hs1e, RTab.pl_eq hp', hg2])
      have hSS2 := Lib.hid (show sumL (fun j => (r.pl j).cpu) (KL.take (j + 1)) = s2 + c2 by rw [take_snoc hkk, sumL_snoc, hs2e, RTab.pl_eq hp', hc2])
      have e1 : IntKind.i64.wrap (s1 + g2) = s1 + g2 := IntWalk.i64_in _ (by omega)
      have e2 : IntKind.u64.wrap (s2 + c2) = s2 + c2 := by rw [IntKind.wrap_u64]; omega
      have e3 : IntKind.i64.wrap ((j : Int) + 1) = (j : Int) + 1 := IntWalk.i64_in _ (by omega)
      obtain ⟨lb, k0, k1, k2, k3, k4, k5, k6, k7, k8, k9, k10, kf⟩ := x_facts hb
      have nq1 : gl ≠ w.heap.size + 1 + 1 + 1 := by omega
      have nq2 : h ≠ w.heap.size + 1 + 1 + 1 := by omega
      have nq3 : gk ≠ w.heap.size + 1 + 1 + 1 := by omega
      have HCR := Lib.hid hc
      have HBR := Lib.hid hb
      simp only [outD] at k0 k1 k2 k3 k4 k5 k6 k7 k8 k9 k10
      clear hc hb hcw HH hkk hp' hcell hpl hs1 hs2 hg2 hc2 hs1e hs2e hlj n2
      go_wp2
      go_still_tail 15, (by kernel_rfl)
      (try change wpStill _ _ (World.drew _) _ _ _)
      (repeat still_step)
      (try refine wpStill_nil ?_)
      (try change wpList _ _ _ _ _ (World.drew _))
      go_wp2
      go_still_tail 15, (by kernel_rfl)
      (try change wpStill _ _ (World.drew _) _ _ _)
      (repeat still_step)
      (try refine wpStill_nil ?_)
      (try change wpList _ _ _ _ _ (World.drew _))
      go_wp2
      go_roundg (m - j - 1)
      case measure => omega
      case rel =>
        refine ⟨j + 1, by omega, by go_num, Lib.hid ⟨?_, ?_⟩⟩
        · exact ((((HCR.out.drew.setCell (.inl (by simp)) _).drew).setCell (.inl (by simp)) _).setCell (.inl (by simp)) _)
        · rw [hSS1.out, hSS2.out]
          exact ((((HBR.out.drew.set_ 5 (.int .i64 (s1 + g2))).drew).set_ 6 (.int .u64 (s2 + c2))).set_ 10 (.int .i64 ((j : Int) + 1)))
    · obtain rfl : m = j := by omega
      have hktk : KL.take m = KL := by rw [HM.out, List.take_length]
      rw [hktk] at hb
      rw [← HT1.out, ← HT2.out] at hb
      have HCR0 := Lib.hid hc
      have HBR0 := Lib.hid hb
      clear hc hb hcw HH hktk hlt
      have a1 := (HT.out wr ((HC.out.any.trans HCR0.out (fun k hk => .inl hk)).mono (fun k hk => .inr (by simp at hk; omega)))).1
      go_wp2
      go_loopg [9] n (fun gh iv wr => ∃ j : Nat, j + gh = n ∧ iv = .int .i64 j ∧ Hid (Chg [w.heap.size + 1 + 1 + 1] w1 wr ∧ Blk wr (w.heap.size + 1 + 1 + 1) 45 (outD p T1 T2 (sumN (r.liveAt ch (k : Nat) q) j) m).arr))
      case atStart => exact ⟨0, by omega, rfl, Lib.hid ⟨HCR0.out, HBR0.out⟩⟩
      case round =>
        obtain ⟨j2, hj, rfl, HH⟩ := hrel
        obtain ⟨hc, hb⟩ := HH.out
        have hcw : Chg [] w wr := (HC.out.any.trans hc (fun k hk => .inl hk)).mono (fun k hk => .inr (by simp at hk; omega))
        obtain ⟨a0, _, lh1, lg1, _, _, hpl⟩ := HT.out wr hcw
        by_cases hlt : j2 < n
        · have j0 : (0 : Int) ≤ (j2 : Int) := by omega
          have j1 : (j2 : Int) < (n : Int) := by omega
          obtain ⟨p', hp'⟩ : ∃ p', r.L[j2]? = some p' := ⟨_, List.getElem?_eq_getElem (by rw [← HN.out]; exact hlt)⟩
          obtain ⟨_, q1, _, _, _, _, _, q7, _⟩ := hpl j2 p' hp'
          cases his : p'.is with
          | false =>
            rw [his] at q1
            have HY := Lib.hid (show sumN (r.liveAt ch (k : Nat) q) (j2 + 1) = sumN (r.liveAt ch (k : Nat) q) j2 by rw [sumN_succ]; unfold RTab.liveAt; rw [RTab.pl_eq hp', his]; simp)
            have HCR := Lib.hid hc
            have HBR := Lib.hid hb
            clear hc hb hcw HH hp' hpl his q7
            go_wp2
            go_roundg (n - j2 - 1)
            case measure => omega
            case rel => exact ⟨j2 + 1, by omega, by go_num, Lib.hid ⟨HCR.out, by rw [HY.out]; exact HBR.out⟩⟩
          | true =>
            rw [his] at q1
            have HI1 := Lib.hid (HIN.out wr hcw j2 p' hp' his)
            have hbR := HB.out.1.chg hc (by simp; omega)
            have t0 := hbR.cell 0
            have t1 := hbR.cell 1
            obtain ⟨_, n2, _, _⟩ := HN9.out j2 p' hp'
            have hs3 := sumN_bd (f := r.liveAt ch (k : Nat) q) (B := 64) j2 (fun k' hk' => by
              obtain ⟨p'', hp''⟩ : ∃ p'', r.L[k']? = some p'' := ⟨_, List.getElem?_eq_getElem (by rw [← HN.out]; omega)⟩
              have := (HN9.out k' p'' hp'').2.1
              unfold RTab.liveAt
              rw [RTab.pl_eq hp'']
              split <;> omega)
            cases hin : decide ((((k : Nat) : Int), q) ∈ ch j2) with
            | false =>
              rw [hin] at HI1
              have HY := Lib.hid (show sumN (r.liveAt ch (k : Nat) q) (j2 + 1) = sumN (r.liveAt ch (k : Nat) q) j2 by rw [sumN_succ]; unfold RTab.liveAt; rw [if_neg (fun h => of_decide_eq_false hin h.2)]; simp)
              have HCR := Lib.hid hc
              have HBR := Lib.hid hb
              clear hc hb hcw HH hp' hpl his hin n2 hs3 hbR
              go_wp2_with (go_at_call 71; refine HI1.out.mono ?_; rintro e w2 ⟨rfl, hc2⟩; have HC2 := Lib.hid hc2; clear hc2)
              go_roundg (n - j2 - 1)
              case measure => omega
              case rel => exact ⟨j2 + 1, by omega, by go_num, Lib.hid ⟨HCR.out.then HC2.out, by rw [HY.out]; exact HBR.out.chg HC2.out (by simp)⟩⟩
            | true =>
              rw [hin] at HI1
              obtain ⟨o2, ho2⟩ : ∃ o2, o2 = p'.own := ⟨_, rfl⟩
              obtain ⟨s3, hs3e⟩ : ∃ s3, s3 = sumN (r.liveAt ch (k : Nat) q) j2 := ⟨_, rfl⟩
              have HY := Lib.hid (show sumN (r.liveAt ch (k : Nat) q) (j2 + 1) = s3 + o2 by rw [sumN_succ, ← hs3e]; unfold RTab.liveAt; rw [RTab.pl_eq hp', if_pos ⟨his, of_decide_eq_true hin⟩, ho2])
              rw [← hs3e] at hb hs3
              rw [← ho2] at n2 q7
              have e1 : IntKind.i64.wrap (s3 + o2) = s3 + o2 := IntWalk.i64_in _ (by omega)
              have nq1 : gl ≠ w.heap.size + 1 + 1 + 1 := by omega
              have nq2 : h ≠ w.heap.size + 1 + 1 + 1 := by omega
              have HCR := Lib.hid hc
              have HBR := Lib.hid hb
              have HPL := Lib.hid (fun W (hW : Chg [] wr W) => (HT.out W (hcw.then hW)))
              have HP2 := Lib.hid hp'
              have HO2 := Lib.hid ho2
              clear hc hb hcw HH hp' hpl his hin n2 hs3 hbR hs3e ho2
              go_wp2_with (go_at_call 71; refine HI1.out.mono ?_; rintro e w2 ⟨rfl, hc2⟩; have HC2 := Lib.hid hc2; obtain ⟨a02, _, lh2, lg2, _, _, hpl2⟩ := HPL.out w2 hc2; obtain ⟨_, _, _, _, _, _, _, q72, _⟩ := hpl2 j2 p' HP2.out; rw [← HO2.out] at q72; have hb2 := HBR.out.chg hc2 (by simp); have HB2 := Lib.hid hb2; obtain ⟨lb, k0, k1, k2, k3, k4, k5, k6, k7, k8, k9, k10, kf⟩ := x_facts hb2; simp only [outD] at k0 k1 k2 k3 k4 k5 k6 k7 k8 k9 k10; clear hc2 hpl2 hb2)
              go_still_tail 12, (by kernel_rfl)
              (try change wpStill _ _ (World.drew _) _ _ _)
              (repeat still_step)
              (try refine wpStill_nil ?_)
              (try change wpList _ _ _ _ _ (World.drew _))
              go_wp2
              go_roundg (n - j2 - 1)
              case measure => omega
              case rel =>
                refine ⟨j2 + 1, by omega, by go_num, Lib.hid ⟨(HCR.out.then HC2.out).drew.setCell (.inl (by simp)) _, ?_⟩⟩
                rw [HY.out]
                exact HB2.out.drew.set_ 8 (.int .i64 (s3 + o2))
        · have hjn : j2 = n := by omega
          subst hjn
          have hbz := HB.out.2.1.chg hc (by simp)
          obtain ⟨lb, k0, k1, k2, k3, k4, k5, k6, k7, k8, k9, k10, kf⟩ := x_facts hb
          simp only [outD] at k0 k1 k2 k3 k4 k5 k6 k7 k8 k9 k10
          have lz := hbz.lt
          have z0 := hbz.cell 0
          rw [← HT3.out] at k8
          obtain ⟨_, z0, z1, z2, z3, z4, z5, z6, z7, z8, z9, z10, zf⟩ := x_facts hbz
          have HCW := Lib.hid hcw
          clear hc hb hcw HH hpl hbz
          go_wp2
          refine bodyPost_ret (v := (⟨p.pi, p.pg, p.gs, p.cpu, p.per, T1, T2, p.own, T3, p.used, m⟩ : Dm).val) ?_ rfl ⟨rfl, by repeat' (first | with_reducible exact HCW.out | with_reducible apply Chg.alloc | with_reducible apply Chg.drew | with_reducible apply Chg.setCell | (with_reducible refine Or.inr ?_; dsimp only; omega))⟩
          simp [results, Try.results37, go_sem, Dm.val, lz, z0, z1, z2, z3, z4, z5, z6, z7, z8, z9, z10]
end Go.Proofs
end
section
namespace Go.Proofs
open Go.RowKit
set_option linter.unusedVariables false
set_option linter.unusedSimpArgs false

/-- The first k of a row, with the capacity that it has. -/
theorem Row.less {w : World} {e : TypeId} {size n g cap : Nat} {xs : List Value} (h : Row w e size (.slice (some ⟨g, 0, none⟩) n cap) n xs) {k : Nat} (hk : k ≤ n) :
    Row w e size (.slice (some ⟨g, 0, none⟩) k cap) k (xs.take (k * size)) := by
  have hkn : k * size ≤ n * size := Nat.mul_le_mul_right _ hk
  refine ⟨by rw [List.length_take, h.1]; omega, ?_⟩
  rcases h.2 with ⟨h0, _⟩ | ⟨g', cap', cur, hv, hg, hc, hm, hs, ht⟩
  · cases h0
  · simp only [Value.slice.injEq, Option.some.injEq, Addr.mk.injEq] at hv
    obtain ⟨⟨rfl, _⟩, _, rfl⟩ := hv
    refine .inr ⟨g, cap, cur, rfl, hg, by omega, hm, hs, ?_⟩
    rw [← ht, List.take_take, Nat.min_eq_left hkn]
theorem RefAt.open_ {w : World} {h : Nat} {S : List Nat} {r : RTab} (hr : RefAt w h S r) (h0 : 0 < r.L.length) {F : List Nat} {f : Nat} (hF : r.F = F ++ [f]) :
    ∃ gl cl gF cF, S = h :: [gl, gF] ∧ h ≠ gl ∧ h ≠ gF ∧ gl ≠ gF ∧ r.L.length ≤ cl ∧ F.length + 1 ≤ cF ∧ gl < w.heap.size ∧ gF < w.heap.size ∧ Blk w h 106 #[.slice (some ⟨gl, 0, none⟩) r.L.length cl, .slice (some ⟨gF, 0, none⟩) (F.length + 1) cF] ∧
      Row w 108 9 (.slice (some ⟨gl, 0, none⟩) r.L.length cl) r.L.length (plCells r.L) ∧ Row w 3 1 (.slice (some ⟨gF, 0, none⟩) (F.length + 1) cF) (F.length + 1) (numCells (F ++ [f])) ∧ w.cell? ⟨gF, F.length, none⟩ = some (.int .i64 (f : Nat)) ∧ (∀ j, w.frozen? ⟨gl, j, none⟩ = false) := by
  obtain ⟨VL, VF, hB, hL, hR, rfl⟩ := hr
  obtain ⟨gl, cl, rfl, hft, hc, hcell, hfz, hlt⟩ := hL.form h0
  rw [hF] at hR
  obtain ⟨gF, cF, rfl, hft2, hc2, hcell2, hfz2, hlt2⟩ := hR.form (by simp)
  have n1 : h ≠ gl := by have := hL.ty hB (by decide); simpa [foot_some] using this
  have n2 : h ≠ gF := by have := hR.ty hB (by decide); simpa [foot_some] using this
  have n3 : gl ≠ gF := fun e => hL.ty2 hR (by decide) gl (by simp [foot_some]) (by simp [foot_some, e])
  have hl : (F ++ [f]).length = F.length + 1 := by simp
  rw [hl] at hR hB hc2
  exact ⟨gl, cl, gF, cF, by rw [hft, hft2]; rfl, n1, n2, n3, hc, hc2, hlt, hlt2, hB, hL, hR, hcell2 _ _ (by unfold numCells; simp), hfz⟩
set_option maxHeartbeats 3200000 in
set_option maxRecDepth 100000 in
theorem rput_any {w : World} {h : Nat} {S : List Nat} {r : RTab} (hr : RefAt w h S r) (hn : r.L.length ≤ 1000) {F : List Nat} {f : Nat} (hF : r.F = F ++ [f]) {p0 : Pl} (hp : r.L[f]? = some p0) (hfl : F.length ≤ 1000) (x : Pl) :
    Calls Try.prog 69 #[ptr h, x.val] w fun e w' => e = .returned (.agg #[.int .i64 (f : Nat), .int .u64 p0.gen]) ∧ RTurns h S ⟨r.L.set f { x with gen := p0.gen, is := true }, F⟩ w w' := by
  have hfn := (List.getElem?_eq_some_iff.1 hp).1
  have h0 : 0 < r.L.length := by omega
  obtain ⟨gl, cl, gF, cF, hS, n1, n2, n3, hcl, hcF, lgl, lgF, hB, hL, hR, hcell, hfz⟩ := hr.open_ h0 hF
  obtain ⟨q0, q1, q2, q3, q4, q5, q6, q7, q8⟩ := plCells_at r.L f p0 hp
  have hc2 : ∀ j u, (plCells r.L)[j]? = some u → w.cell? ⟨gl, j, none⟩ = some u := by
    obtain ⟨g2, c2, hv, _, _, hc2, _, _⟩ := hL.form h0
    simp only [Value.slice.injEq, Option.some.injEq, Addr.mk.injEq] at hv
    obtain ⟨⟨rfl, _⟩, _, _⟩ := hv
    exact hc2
  have b0 := hc2 _ _ q0
  have g0 := hfz (f * 9)
  have b1 := hc2 _ _ q1
  have g1 := hfz (f * 9 + 1)
  have b2 := hc2 _ _ q2
  have g2 := hfz (f * 9 + 2)
  have b3 := hc2 _ _ q3
  have g3 := hfz (f * 9 + 3)
  have b4 := hc2 _ _ q4
  have g4 := hfz (f * 9 + 4)
  have b5 := hc2 _ _ q5
  have g5 := hfz (f * 9 + 5)
  have b6 := hc2 _ _ q6
  have g6 := hfz (f * 9 + 6)
  have b7 := hc2 _ _ q7
  have g7 := hfz (f * 9 + 7)
  have b8 := hc2 _ _ q8
  have g8 := hfz (f * 9 + 8)
  have a0 := hB.cell 0
  have a1 := hB.cell 1
  have af := hB.frozen 1
  have lh := hB.lt
  have HB := Lib.hid hB
  have HL := Lib.hid hL
  have HR := Lib.hid hR
  obtain ⟨n, hnn⟩ : ∃ n, n = r.L.length := ⟨_, rfl⟩
  obtain ⟨m, hm⟩ : ∃ m, m = F.length := ⟨_, rfl⟩
  rw [← hnn] at a0 hcl hn hfn
  rw [← hm] at a1 hcF hfl hcell
  have HN := Lib.hid hnn
  have HM := Lib.hid hm
  have HSS := Lib.hid hS
  have i0 : (0 : Int) ≤ (f : Int) := by omega
  have i1 : (f : Int) < (n : Int) := by omega
  obtain ⟨G, hG⟩ : ∃ G, G = p0.gen := ⟨_, rfl⟩
  rw [← hG] at b0 ⊢
  have e1 : IntKind.i64.wrap (((m + 1 : Nat) : Int) - 1) = (m : Nat) := by rw [show ((m + 1 : Nat) : Int) - 1 = (m : Nat) by omega]; exact IntWalk.i64_in _ (by omega)
  have nq1 : w.heap.size ≠ h := by omega
  have nq2 : w.heap.size ≠ gl := by omega
  have nq3 : w.heap.size + 1 ≠ gl := by omega
  have fz : ∀ j, (w.alloc (.cells x.arr 108)).frozen? ⟨gl, j, none⟩ = false := fun j => (World.frozen?_of_block (Below.heap_alloc _ _ _ lgl)).trans (hfz j)
  clear hr hp hF hB hL hR hnn hm hS q0 q1 q2 q3 q4 q5 q6 q7 q8 hG h0 hc2
  go_enter Try.func69, Try.ntmps69
  go_wp2
  go_still_tail 7, (by kernel_rfl)
  (try change wpStill _ _ (World.drew _) _ _ _)
  (repeat still_step)
  (try refine wpStill_nil ?_)
  (try change wpList _ _ _ _ _ (World.drew _))
  go_wp2
  refine bodyPost_ret (v := .agg #[.int .i64 (f : Nat), .int .u64 G]) (by simp [results, Try.results69, go_sem]) rfl ⟨rfl, ?_⟩
  refine RTurns.later (b := put9 (w.setCell ⟨h, 1, none⟩ (.slice (some ⟨gF, 0, none⟩) m cF)) gl (f * 9) { x with gen := G, is := true }) ?_ ((((Chg.refl _ _).alloc _).alloc _).drew)
  have hB := HB.out
  have hL := HL.out
  have hR := HR.out
  rw [← HN.out, ← HM.out] at hB
  have hc1 : Chg [h] w (w.setCell ⟨h, 1, none⟩ (.slice (some ⟨gF, 0, none⟩) m cF)) := (Chg.refl _ _).setCell (.inl (by simp)) _
  have hc2 : Chg [gl] (w.setCell ⟨h, 1, none⟩ (.slice (some ⟨gF, 0, none⟩) m cF)) (put9 (w.setCell ⟨h, 1, none⟩ (.slice (some ⟨gF, 0, none⟩) m cF)) gl (f * 9) { x with gen := G, is := true }) := chg_put9 (Chg.refl _ _) (.inl (by simp)) _ _
  refine ⟨h :: (foot (.slice (some ⟨gl, 0, none⟩) n cl) ++ foot (.slice (some ⟨gF, 0, none⟩) m cF)), ⟨.slice (some ⟨gl, 0, none⟩) n cl, .slice (some ⟨gF, 0, none⟩) m cF, ?_, ?_, ?_, rfl⟩, fun k hk => .inl (by rw [HSS.out]; simpa [foot_some] using hk), ?_⟩
  · exact (hB.set_ 1 (.slice (some ⟨gF, 0, none⟩) m cF)).chg hc2 (by simpa using n1)
  · show Row _ 108 9 _ (r.L.set f _).length _
    rw [List.length_set]
    have h1 := hL.chg hc1 (by simpa [foot_some] using fun e => n1 e.symm)
    have h2 := h1.put9_ (k := f) (by rw [← HN.out]; exact hfn) rfl { x with gen := G, is := true }
    rw [HN.out]
    exact h2
  · have h1 := hR.less (k := F.length) (by omega)
    rw [numCells_take] at h1
    rw [← HM.out] at h1
    show Row _ 3 1 _ F.length (numCells F)
    rw [← HM.out]
    exact (h1.chg hc1 (by simpa [foot_some] using fun e => n2 e.symm)).chg hc2 (by simpa [foot_some] using fun e => n3 e.symm)
  · rw [HSS.out]
    exact (hc1.mono (fun k hk => by simp at hk; subst hk; left; simp)).trans hc2 (fun k hk => by simp at hk; subst hk; left; simp)
end Go.Proofs
end
section
namespace Go.Proofs
open Go.RowKit
set_option linter.unusedVariables false
set_option linter.unusedSimpArgs false

theorem rget_bd {r : RTab} (hf : r.Fine) (ch : Nat → List (Int × Int)) {k : Nat} {p : Pl} (hp : r.L[k]? = some p) (q : Int) :
    (0 ≤ (r.get ch (k : Nat) q).gs ∧ (r.get ch (k : Nat) q).gs ≤ 64) ∧ (0 ≤ (r.get ch (k : Nat) q).own ∧ (r.get ch (k : Nat) q).own ≤ 64) ∧ (0 ≤ (r.get ch (k : Nat) q).cpu ∧ (r.get ch (k : Nat) q).cpu ≤ 4294967296) ∧
    (0 ≤ (r.get ch (k : Nat) q).cgs ∧ (r.get ch (k : Nat) q).cgs ≤ 64000) ∧ (0 ≤ (r.get ch (k : Nat) q).car ∧ (r.get ch (k : Nat) q).car ≤ 4294967296000) ∧ (0 ≤ (r.get ch (k : Nat) q).live ∧ (r.get ch (k : Nat) q).live ≤ 64000) := by
  obtain ⟨a, b, c, _⟩ := hf.nums k p hp
  have hl := hf.len
  have hkl : (r.kids (k : Nat) q).length ≤ 1000 := by have := kidsTo_len r (k : Nat) q r.L.length; unfold RTab.kids; omega
  have hk : ∀ j ∈ r.kids (k : Nat) q, (0 ≤ (r.pl j).gs ∧ (r.pl j).gs ≤ 64) ∧ (0 ≤ (r.pl j).cpu ∧ (r.pl j).cpu ≤ 4294967296) := fun j hj => by
    have := kids_mem hj
    have hp' : r.L[j]? = some (r.L[j]) := List.getElem?_eq_getElem this
    rw [RTab.pl_eq hp']
    obtain ⟨a, b, c, _⟩ := hf.nums j _ hp'
    exact ⟨a, c⟩
  have s1 := sumL_bd (f := fun j => (r.pl j).gs) (B := 64) (r.kids (k : Nat) q) (fun j hj => (hk j hj).1)
  have s2 := sumL_bd (f := fun j => (r.pl j).cpu) (B := 4294967296) (r.kids (k : Nat) q) (fun j hj => (hk j hj).2)
  have s3 := sumN_bd (f := r.liveAt ch (k : Nat) q) (B := 64) r.L.length (fun j hj => by
    have hp' : r.L[j]? = some (r.L[j]) := List.getElem?_eq_getElem hj
    obtain ⟨_, b, _, _⟩ := hf.nums j _ hp'
    unfold RTab.liveAt
    rw [RTab.pl_eq hp']
    split <;> omega)
  have e : r.pl ((k : Nat) : Int).toNat = p := by rw [Int.toNat_natCast]; exact RTab.pl_eq hp
  refine ⟨by show 0 ≤ (r.pl _).gs ∧ (r.pl _).gs ≤ 64; rw [e]; exact a, by show 0 ≤ (r.pl _).own ∧ (r.pl _).own ≤ 64; rw [e]; exact b, by show 0 ≤ (r.pl _).cpu ∧ (r.pl _).cpu ≤ _; rw [e]; exact c, ?_, ?_, ?_⟩
  · show 0 ≤ r.cgs _ _ ∧ r.cgs _ _ ≤ _; unfold RTab.cgs; omega
  · show 0 ≤ r.car _ _ ∧ r.car _ _ ≤ _; unfold RTab.car; omega
  · show 0 ≤ r.live _ _ _ ∧ r.live _ _ _ ≤ _; unfold RTab.live; omega
def rcarveE (r : RTab) (ch : Nat → List (Int × Int)) (i q gs cpu per : Int) : Int :=
  if mayD gs cpu per then (if r.is i q then (if (r.get ch i q).gs < gs + (r.get ch i q).cgs + (r.get ch i q).own ∨ (r.get ch i q).cpu < cpu + (r.get ch i q).car then 15 else (if r.F = [] then 3 else 0)) else 11) else 2
def rkid (i q gs cpu per : Int) : Pl := ⟨0, false, gs, cpu, per, i, q, 0, 0⟩
def RTab.at0 (r : RTab) : Nat := r.F.getLast?.getD 0
def RTab.put (r : RTab) (x : Pl) : RTab := ⟨r.L.set r.at0 { x with gen := (r.pl r.at0).gen, is := true }, r.F.dropLast⟩
def RCv (h : Nat) (S : List Nat) (r : RTab) (ch : Nat → List (Int × Int)) (i q gs cpu per : Int) (w : World) (e : Ending) (w' : World) : Prop :=
  (rcarveE r ch i q gs cpu per ≠ 0 ∧ e = .returned (.tuple #[.agg #[.int .i64 0, .int .u64 0], .int .i64 (rcarveE r ch i q gs cpu per)]) ∧ Chg [] w w') ∨
  (rcarveE r ch i q gs cpu per = 0 ∧ e = .returned (.tuple #[.agg #[.int .i64 (r.at0 : Nat), .int .u64 (r.pl r.at0).gen], .int .i64 0]) ∧ RTurns h S (r.put (rkid i q gs cpu per)) w w')
def RBoxes (b : Nat) (i q : Int) (w : World) : Prop := Blk w b 34 #[.int .i64 i, .int .u64 q] ∧ Blk w (b + 1) 34 #[.int .i64 0, .int .u64 0]
theorem RBoxes.chg {b : Nat} {i q : Int} {w w' : World} (h : RBoxes b i q w) (hc : Chg [] w w') : RBoxes b i q w' := ⟨h.1.chg hc (by simp), h.2.chg hc (by simp)⟩
theorem rcv_boxes {w w1 : World} {i q : Int} (hc : Chg [] ((w.alloc (obRef i q)).alloc (obRef 0 0)) w1) : RBoxes w.heap.size i q w1 :=
  ⟨((Blk.new w 34 _).alloc _).chg hc (by simp), (Blk.at' _ 34 _ (by simp)).chg hc (by simp)⟩
theorem rcv_tell {b : Nat} {i q : Int} {w : World} (h : RBoxes b i q w) : b + 1 < w.heap.size ∧ w.cell? ⟨b, 0, none⟩ = some (.int .i64 i) ∧ w.cell? ⟨b, 1, none⟩ = some (.int .u64 q) ∧ w.cell? ⟨b + 1, 0, none⟩ = some (.int .i64 0) ∧ w.cell? ⟨b + 1, 1, none⟩ = some (.int .u64 0) ∧ ∀ o, w.frozen? ⟨b + 1, o, none⟩ = false :=
  ⟨h.2.lt, h.1.cell 0, h.1.cell 1, h.2.cell 0, h.2.cell 1, h.2.frozen⟩
theorem rput_at {w : World} {h : Nat} {S : List Nat} {r : RTab} (hr : RefAt w h S r) (hn : r.L.length ≤ 1000) (hF : r.F ≠ []) (hlt : ∀ f ∈ r.F, f < r.L.length) (hfl : r.F.length ≤ 1000) (x : Pl) :
    Calls Try.prog 69 #[ptr h, x.val] w fun e w' => e = .returned (.agg #[.int .i64 (r.at0 : Nat), .int .u64 (r.pl r.at0).gen]) ∧ RTurns h S (r.put x) w w' := by
  rcases List.eq_nil_or_concat r.F with h0 | ⟨F, f, hf⟩
  · exact absurd h0 hF
  · rw [List.concat_eq_append] at hf
    have hfl2 : f < r.L.length := hlt f (by rw [hf]; simp)
    have hp : r.L[f]? = some (r.L[f]) := List.getElem?_eq_getElem hfl2
    have e0 : r.at0 = f := by unfold RTab.at0; rw [hf]; simp
    have e1 : (r.pl r.at0) = r.L[f] := by rw [e0]; exact RTab.pl_eq hp
    have e2 : r.put x = ⟨r.L.set f { x with gen := (r.L[f]).gen, is := true }, F⟩ := by unfold RTab.put; rw [e1, e0, hf]; simp
    rw [e2, e1, e0]
    exact rput_any hr hn hf hp (by rw [hf] at hfl; simp at hfl; omega) x
set_option maxHeartbeats 6400000 in
set_option maxRecDepth 100000 in
theorem rcarve_any {w : World} {h : Nat} {S : List Nat} {r : RTab} (hr : RefAt w h S r) (h0 : 0 < r.L.length) (hf : r.Fine) {ch : Nat → List (Int × Int)} (hch : r.Chs ch) (hlt : ∀ f ∈ r.F, f < r.L.length) (hfl : r.F.length ≤ 1000) {i q gs cpu per : Int} (hc0 : 0 ≤ cpu) (hp0 : 0 ≤ per) :
    Calls Try.prog 38 #[ptr h, .agg #[.int .i64 i, .int .u64 q], .int .i64 gs, .int .u64 cpu, .int .u64 per] w (RCv h S r ch i q gs cpu per w) := by
  have HM := Lib.hid (fun W => mayD_any 29 (.inr rfl) gs cpu per hc0 hp0 W)
  have HI := Lib.hid (fun W (hW : Chg [] w W) => ris_any (hr.quiet hW) h0 i q)
  cases hm : mayD gs cpu per with
  | false =>
    have HEE := Lib.hid (show rcarveE r ch i q gs cpu per = 2 by unfold rcarveE; rw [hm]; rfl)
    rw [hm] at HM
    clear hm hr hf hch hlt
    go_enter Try.func38, Try.ntmps38
    go_wp2_with (first | (go_at_call 29; refine (HM.out _).mono ?_; rintro e w' ⟨rfl, rfl⟩))
    refine bodyPost_ret (v := .tuple #[.agg #[.int .i64 0, .int .u64 0], .int .i64 2]) (by simp [results, Try.results38, go_sem, Nat.add_zero]) rfl (.inl ⟨by rw [HEE.out]; omega, by rw [HEE.out], by repeat' (first | with_reducible exact Chg.refl _ _ | with_reducible apply Chg.alloc | with_reducible apply Chg.drew | with_reducible apply Chg.setCell | (with_reducible refine Or.inr ?_; dsimp only; omega))⟩)
  | true =>
    rw [hm] at HM
    cases hq : r.is i q with
    | false =>
      have HEE := Lib.hid (show rcarveE r ch i q gs cpu per = 11 by unfold rcarveE; rw [hm, hq]; rfl)
      rw [hq] at HI
      clear hm hq hr hf hch hlt
      go_enter Try.func38, Try.ntmps38
      go_wp2_with (first | (go_at_call 29; refine (HM.out _).mono ?_; rintro e w' ⟨rfl, rfl⟩) | (go_at_call 36; refine (HI.out _ (((Chg.refl _ _).alloc _).alloc _)).mono ?_; rintro e w1 ⟨rfl, hc⟩; have HB1 := Lib.hid (rcv_boxes hc); have hb1 := HB1.out; obtain ⟨l1, b0, b1, d0, d1, df⟩ := rcv_tell hb1; have HC1 := Lib.hid ((((Chg.refl [] w).alloc _).alloc _).then hc); clear hc hb1))
      refine bodyPost_ret (v := .tuple #[.agg #[.int .i64 0, .int .u64 0], .int .i64 11]) (by simp [results, Try.results38, go_sem, d0, d1, l1]) rfl (.inl ⟨by rw [HEE.out]; omega, by rw [HEE.out], by repeat' (first | with_reducible exact HC1.out | with_reducible apply Chg.alloc | with_reducible apply Chg.drew | with_reducible apply Chg.setCell | (with_reducible refine Or.inr ?_; dsimp only; omega))⟩)
    | true =>
      rw [hq] at HI
      obtain ⟨k, p, rfl, hp, h3, h4⟩ := ris_iff.1 hq
      have HG := Lib.hid (fun W (hW : Chg [] w W) => rget_any (hr.quiet hW) hf hch hp q)
      obtain ⟨x1, x2, x3, x4, x5, x6⟩ := rget_bd hf ch hp q
      obtain ⟨m0, m1, m2, m3, m4⟩ := mayD_iff.1 hm
      have HRE := Lib.hid (show rcarveE r ch (k : Nat) q gs cpu per = if (r.get ch (k : Nat) q).gs < gs + (r.get ch (k : Nat) q).cgs + (r.get ch (k : Nat) q).own ∨ (r.get ch (k : Nat) q).cpu < cpu + (r.get ch (k : Nat) q).car then 15 else (if r.F = [] then 3 else 0) by unfold rcarveE; rw [if_pos hm, if_pos hq])
      obtain ⟨x, hx⟩ : ∃ x, x = r.get ch (k : Nat) q := ⟨_, rfl⟩
      rw [← hx] at HG HRE x1 x2 x3 x4 x5 x6
      have e1 : IntKind.i64.wrap (gs + x.cgs) = gs + x.cgs := IntWalk.i64_in _ (by omega)
      have e2 : IntKind.i64.wrap (gs + x.cgs + x.own) = gs + x.cgs + x.own := IntWalk.i64_in _ (by omega)
      have e3 : IntKind.u64.wrap (cpu + x.car) = cpu + x.car := by rw [IntKind.wrap_u64]; omega
      have HP := Lib.hid (fun W (hW : Chg [] w W) (hne : r.F ≠ []) => rput_at (hr.quiet hW) hf.len hne hlt hfl (rkid (k : Nat) q gs cpu per))
      obtain ⟨VL, VF, hB, hL, hF, hSS⟩ := id hr
      obtain ⟨AF, cF, rfl, _⟩ := hF.val
      have HFB := Lib.hid (fun W (hW : Chg [] w W) => (hB.chg hW (by simp)).cell 1)
      have lh := hB.lt
      obtain ⟨m, hmm⟩ : ∃ m, m = r.F.length := ⟨_, rfl⟩
      rw [← hmm] at HFB
      clear hm hq hp h3 h4 hx hB hL hF hf hch hlt hfl x1 x2 x3 x4 x5 x6 m0 m1 m2 m3 m4
      by_cases g0 : x.gs < gs + x.cgs + x.own
      · have HEE := Lib.hid (show rcarveE r ch (k : Nat) q gs cpu per = 15 by rw [HRE.out, if_pos (.inl g0)])
        clear hr hmm
        go_enter Try.func38, Try.ntmps38
        go_wp2_with (first | (go_at_call 29; refine (HM.out _).mono ?_; rintro e w' ⟨rfl, rfl⟩) | (go_at_call 36; refine (HI.out _ (((Chg.refl _ _).alloc _).alloc _)).mono ?_; rintro e w1 ⟨rfl, hc⟩; have HB1 := Lib.hid (rcv_boxes hc); have hb1 := HB1.out; obtain ⟨l1, b0, b1, d0, d1, df⟩ := rcv_tell hb1; have HC1 := Lib.hid ((((Chg.refl [] w).alloc _).alloc _).then hc); clear hc hb1) | (go_at_call 37; refine (HG.out _ HC1.out).mono ?_; rintro e w2 ⟨rfl, hc⟩; have HB2 := Lib.hid (HB1.out.chg hc); have hb2 := HB2.out; obtain ⟨l2, b20, b21, d20, d21, d2f⟩ := rcv_tell hb2; have l20 : w.heap.size < w2.heap.size := (by omega); have HC2 := Lib.hid (HC1.out.then hc); clear hc hb2))
        refine bodyPost_ret (v := .tuple #[.agg #[.int .i64 0, .int .u64 0], .int .i64 15]) (by simp [results, Try.results38, go_sem, d20, d21, l2]) rfl (.inl ⟨by rw [HEE.out]; omega, by rw [HEE.out], by repeat' (first | with_reducible exact HC2.out | with_reducible apply Chg.alloc | with_reducible apply Chg.drew | with_reducible apply Chg.setCell | (with_reducible refine Or.inr ?_; dsimp only; omega))⟩)
      · by_cases g1 : x.cpu < cpu + x.car
        · have HEE := Lib.hid (show rcarveE r ch (k : Nat) q gs cpu per = 15 by rw [HRE.out, if_pos (.inr g1)])
          clear hr hmm
          go_enter Try.func38, Try.ntmps38
          go_wp2_with (first | (go_at_call 29; refine (HM.out _).mono ?_; rintro e w' ⟨rfl, rfl⟩) | (go_at_call 36; refine (HI.out _ (((Chg.refl _ _).alloc _).alloc _)).mono ?_; rintro e w1 ⟨rfl, hc⟩; have HB1 := Lib.hid (rcv_boxes hc); have hb1 := HB1.out; obtain ⟨l1, b0, b1, d0, d1, df⟩ := rcv_tell hb1; have HC1 := Lib.hid ((((Chg.refl [] w).alloc _).alloc _).then hc); clear hc hb1) | (go_at_call 37; refine (HG.out _ HC1.out).mono ?_; rintro e w2 ⟨rfl, hc⟩; have HB2 := Lib.hid (HB1.out.chg hc); have hb2 := HB2.out; obtain ⟨l2, b20, b21, d20, d21, d2f⟩ := rcv_tell hb2; have l20 : w.heap.size < w2.heap.size := (by omega); have HC2 := Lib.hid (HC1.out.then hc); clear hc hb2))
          refine bodyPost_ret (v := .tuple #[.agg #[.int .i64 0, .int .u64 0], .int .i64 15]) (by simp [results, Try.results38, go_sem, d20, d21, l2]) rfl (.inl ⟨by rw [HEE.out]; omega, by rw [HEE.out], by repeat' (first | with_reducible exact HC2.out | with_reducible apply Chg.alloc | with_reducible apply Chg.drew | with_reducible apply Chg.setCell | (with_reducible refine Or.inr ?_; dsimp only; omega))⟩)
        · by_cases hne : r.F = []
          · have HEE := Lib.hid (show rcarveE r ch (k : Nat) q gs cpu per = 3 by rw [HRE.out, if_neg (fun h => h.elim g0 g1), if_pos hne])
            have hm0 : m = 0 := by rw [hmm, hne]; rfl
            subst hm0
            clear hr hmm
            go_enter Try.func38, Try.ntmps38
            go_wp2_with (first | (go_at_call 29; refine (HM.out _).mono ?_; rintro e w' ⟨rfl, rfl⟩) | (go_at_call 36; refine (HI.out _ (((Chg.refl _ _).alloc _).alloc _)).mono ?_; rintro e w1 ⟨rfl, hc⟩; have HB1 := Lib.hid (rcv_boxes hc); have hb1 := HB1.out; obtain ⟨l1, b0, b1, d0, d1, df⟩ := rcv_tell hb1; have HC1 := Lib.hid ((((Chg.refl [] w).alloc _).alloc _).then hc); clear hc hb1) | (go_at_call 37; refine (HG.out _ HC1.out).mono ?_; rintro e w2 ⟨rfl, hc⟩; have HB2 := Lib.hid (HB1.out.chg hc); have hb2 := HB2.out; obtain ⟨l2, b20, b21, d20, d21, d2f⟩ := rcv_tell hb2; have l20 : w.heap.size < w2.heap.size := (by omega); have HC2 := Lib.hid (HC1.out.then hc); have fb := HFB.out _ HC2.out; have lh2 : h < w2.heap.size := Nat.lt_of_lt_of_le lh HC2.out.size; clear hc hb2))
            refine bodyPost_ret (v := .tuple #[.agg #[.int .i64 0, .int .u64 0], .int .i64 3]) (by simp [results, Try.results38, go_sem, d20, d21, l2]) rfl (.inl ⟨by rw [HEE.out]; omega, by rw [HEE.out], by repeat' (first | with_reducible exact HC2.out | with_reducible apply Chg.alloc | with_reducible apply Chg.drew | with_reducible apply Chg.setCell | (with_reducible refine Or.inr ?_; dsimp only; omega))⟩)
          · have HEE := Lib.hid (show rcarveE r ch (k : Nat) q gs cpu per = 0 by rw [HRE.out, if_neg (fun h => h.elim g0 g1), if_neg hne])
            have hm0 : ((m : Int) == 0) = false := by
              have : m ≠ 0 := fun e => hne (List.eq_nil_of_length_eq_zero (by omega))
              simpa using this
            have hm1 : m ≠ 0 := fun e => hne (List.eq_nil_of_length_eq_zero (by omega))
            have hm2 : (m == 0) = false := by simpa using hm1
            have HNE := Lib.hid hne
            obtain ⟨k0, hk0⟩ : ∃ k0 : Int, k0 = (r.at0 : Nat) := ⟨_, rfl⟩
            obtain ⟨q0, hq0⟩ : ∃ q0, q0 = (r.pl r.at0).gen := ⟨_, rfl⟩
            rw [← hk0, ← hq0] at HP
            have HK0 := Lib.hid hk0
            have HQ0 := Lib.hid hq0
            have HRF := Lib.hid (fun W S' (h1 : RefAt W h S' (r.put (rkid (k : Nat) q gs cpu per))) => h1.lt)
            have HLT := Lib.hid hr.lt
            clear hr hmm hne hk0 hq0
            go_enter Try.func38, Try.ntmps38
            go_wp2_with (first | (go_at_call 29; refine (HM.out _).mono ?_; rintro e w' ⟨rfl, rfl⟩) | (go_at_call 36; refine (HI.out _ (((Chg.refl _ _).alloc _).alloc _)).mono ?_; rintro e w1 ⟨rfl, hc⟩; have HB1 := Lib.hid (rcv_boxes hc); have hb1 := HB1.out; obtain ⟨l1, b0, b1, d0, d1, df⟩ := rcv_tell hb1; have HC1 := Lib.hid ((((Chg.refl [] w).alloc _).alloc _).then hc); clear hc hb1) | (go_at_call 37; refine (HG.out _ HC1.out).mono ?_; rintro e w2 ⟨rfl, hc⟩; have HB2 := Lib.hid (HB1.out.chg hc); have hb2 := HB2.out; obtain ⟨l2, b20, b21, d20, d21, d2f⟩ := rcv_tell hb2; have l20 : w.heap.size < w2.heap.size := (by omega); have HC2 := Lib.hid (HC1.out.then hc); have fb := HFB.out _ HC2.out; have lh2 : h < w2.heap.size := Nat.lt_of_lt_of_le lh HC2.out.size; clear hc hb2) | (go_at_call 69; refine (HP.out _ (HC2.out.alloc (obX x)) HNE.out).mono ?_; rintro e w3 ⟨rfl, hT⟩; have HT := Lib.hid hT; have hb3 := (HB2.out.2.alloc (obX x)).chg (S := S) (by obtain ⟨_, _, _, h⟩ := hT; exact h) (fun hm => by have := HLT.out _ hm; omega); have HB3 := Lib.hid hb3; have z0 := hb3.cell 0; have z1 := hb3.cell 1; have zf := hb3.frozen; have lz := hb3.lt; clear hT hb3))
            refine bodyPost_ret (v := .tuple #[.agg #[.int .i64 k0, .int .u64 q0], .int .i64 0]) (by simp [results, Try.results38, go_sem, z0, z1, lz]) rfl (.inr ⟨HEE.out, by rw [HK0.out, HQ0.out], ?_⟩)
            refine (HT.out.earlier (HC2.out.alloc (obX x))).box HB3.out (by decide) (by decide) (by decide) (by omega) ?_
            repeat' (first | with_reducible exact Chg.refl _ _ | with_reducible apply Chg.drew | with_reducible apply Chg.setCell | (with_reducible refine Or.inl ?_; simp; done))
end Go.Proofs
end
section
namespace Go.Proofs
open Go.RowKit
set_option linter.unusedVariables false
set_option linter.unusedSimpArgs false

def RTab.with (r : RTab) (k : Nat) (p : Pl) : RTab := { r with L := r.L.set k p }
set_option maxHeartbeats 3200000 in
set_option maxRecDepth 100000 in
theorem rjoin_any {w : World} {h : Nat} {S : List Nat} {r : RTab} (hr : RefAt w h S r) (h0 : 0 < r.L.length) (hf : r.Fine) {i q : Int} {ch : Nat → List (Int × Int)} (hch : r.Chs ch) :
    Calls Try.prog 40 #[ptr h, .agg #[.int .i64 i, .int .u64 q]] w fun e w' => e = .returned (.int .i64 (if r.is i q then (if (r.get ch i q).gs ≤ (r.get ch i q).own + (r.get ch i q).cgs then 15 else 0) else 11)) ∧ RTurns h S (if (if r.is i q then (if (r.get ch i q).gs ≤ (r.get ch i q).own + (r.get ch i q).cgs then 15 else 0) else 11 : Int) = 0 then { r with L := r.L.set i.toNat { r.pl i.toNat with own := (r.pl i.toNat).own + 1 } } else r) w w' := by
  obtain ⟨gl, cl, A9, cF, hne, hcl, _, lg, lh, htell⟩ := hr.tell h0
  have HI := Lib.hid (fun W (hW : Chg [] w W) => ris_any (hr.quiet hW) h0 i q)
  have HRR := Lib.hid hr
  cases hq : r.is i q with
  | false =>
    simp only [hq, Bool.false_eq_true, if_false, Int.reduceEq, reduceCtorEq]
    rw [hq] at HI
    clear hq hr htell
    go_enter Try.func40, Try.ntmps40
    go_wp2_with (first | (go_at_call 36; refine (HI.out _ ((Chg.refl _ _).alloc _)).mono ?_; rintro e w1 ⟨rfl, hc⟩; have HC1 := Lib.hid (((Chg.refl [] w).alloc _).then hc); clear hc))
    go_ret
    exact ⟨rfl, RTurns.refl HRR.out HC1.out⟩
  | true =>
    rw [hq] at HI
    obtain ⟨k, p, rfl, hp, h3, h4⟩ := ris_iff.1 hq
    have HPP := Lib.hid hp
    have HT := Lib.hid htell
    obtain ⟨hn1, hn2, hn3, hn4⟩ := hf.nums k p hp
    have hfl := hf.len
    have hkn := (List.getElem?_eq_some_iff.1 hp).1
    have ha00 := (htell w (Chg.refl _ _)).1
    have HA00 := Lib.hid ha00
    have HROW := Lib.hid (hr.row ha00)
    have hpk : r.pl ((k : Nat) : Int).toNat = p := by rw [Int.toNat_natCast]; exact RTab.pl_eq hp
    have i0 : (0 : Int) ≤ (k : Int) := by omega
    have HG := Lib.hid (fun W (hW : Chg [] w W) => rget_any (hr.quiet hW) hf hch hp q)
    obtain ⟨x1, x2, x3, x4, x5, x6⟩ := rget_bd hf ch hp q
    have hown : (r.get ch (k : Nat) q).own = p.own := by show (r.pl _).own = _; rw [hpk]
    have HW := Lib.hid (fun (w1 : World) (hc : Chg [] w w1) (p' : Pl) (j : Nat) (u : Value) (hy : p'.cells = p.cells.set j u) (hj : j < 9) => RTurns.write (W2 := w1.setCell ⟨gl, k * 9 + j, none⟩ u) (p' := p') HRR.out HA00.out hc ((Chg.refl _ _).setCell (.inl (by simp)) _) (by rw [pl_set HPP.out hy hj]; exact (HROW.out.chg hc (fun _ _ h => by cases h)).set_ (by omega) u))
    rw [hpk]
    obtain ⟨x, hx⟩ : ∃ x, x = r.get ch (k : Nat) q := ⟨_, rfl⟩
    rw [← hx] at HG x1 x2 x3 x4 x5 x6 hown ⊢
    have e1 : IntKind.i64.wrap (x.own + x.cgs) = x.own + x.cgs := IntWalk.i64_in _ (by omega)
    have e2 : IntKind.i64.wrap (p.own + 1) = p.own + 1 := IntWalk.i64_in _ (by omega)
    simp only [hq, if_true, Int.toNat_natCast]
    obtain ⟨n, hnn⟩ : ∃ n, n = r.L.length := ⟨_, rfl⟩
    have HN := Lib.hid hnn
    rw [← hnn] at HT hkn hcl
    have i1 : (k : Int) < (n : Int) := by omega
    clear hr hf hch hp h3 h4 hq htell hpk hx hnn hn1 hn2 hn3 hn4 ha00 hown x1 x2 x3 x4 x5 x6
    by_cases g0 : x.gs ≤ x.own + x.cgs
    · rw [if_pos g0]
      simp only [Int.reduceEq, if_false]
      go_enter Try.func40, Try.ntmps40
      go_wp2_with (first | (go_at_call 36; refine (HI.out _ ((Chg.refl _ _).alloc _)).mono ?_; rintro e w1 ⟨rfl, hc⟩; obtain ⟨l1, b0, b1⟩ := ref_facts (w := w) rfl (Chg.refl [] _) hc; have HC1 := Lib.hid (((Chg.refl [] w).alloc _).then hc); obtain ⟨a0, _, lh1, lg1, fl1, _, hpl⟩ := HT.out _ HC1.out; obtain ⟨q0, q1, q2, q3, q4, q5, q6, q7, q8⟩ := hpl k p HPP.out; have f6 := fl1 (k * 9 + 7); have f7 := fl1 (k * 9 + 8); clear hc hpl) | (go_at_call 37; refine (HG.out _ HC1.out).mono ?_; rintro e w2 ⟨rfl, hc⟩; have HC2 := Lib.hid ((HC1.out.then hc).alloc (obX x)); clear hc))
      go_ret
      exact ⟨rfl, RTurns.refl HRR.out HC2.out⟩
    · rw [if_neg g0]
      simp only [if_true]
      go_enter Try.func40, Try.ntmps40
      go_wp2_with (first | (go_at_call 36; refine (HI.out _ ((Chg.refl _ _).alloc _)).mono ?_; rintro e w1 ⟨rfl, hc⟩; have HC1 := Lib.hid (((Chg.refl [] w).alloc _).then hc); have HR1 := Lib.hid ((Blk.new w 34 #[.int .i64 (k : Nat), .int .u64 q]).chg hc (by simp)); have b0 := HR1.out.cell 0; have b1 := HR1.out.cell 1; have l1 := HR1.out.lt; clear hc) | (go_at_call 37; refine (HG.out _ HC1.out).mono ?_; rintro e w2 ⟨rfl, hc⟩; have HC2 := Lib.hid ((HC1.out.then hc).alloc (obX x)); have hr2 := (HR1.out.chg hc (by simp)).alloc (obX x); have b20 := hr2.cell 0; have b21 := hr2.cell 1; obtain ⟨a0, _, lh1, lg1, fl1, _, hpl⟩ := HT.out _ HC2.out; obtain ⟨q0, q1, q2, q3, q4, q5, q6, q7, q8⟩ := hpl k p HPP.out; have f6 := fl1 (k * 9 + 7); clear hc hpl hr2))
      go_still_tail 12, (by kernel_rfl)
      (try change wpStill _ _ (World.drew _) _ _ _)
      (repeat still_step)
      (try refine wpStill_nil ?_)
      (try change wpList _ _ _ _ _ (World.drew _))
      go_wp2
      go_ret
      exact ⟨rfl, HW.out _ HC2.out.drew { p with own := p.own + 1 } 7 _ rfl (by omega)⟩
set_option maxHeartbeats 3200000 in
set_option maxRecDepth 100000 in
theorem rleave_any {w : World} {h : Nat} {S : List Nat} {r : RTab} (hr : RefAt w h S r) (h0 : 0 < r.L.length) (hf : r.Fine) {i q : Int} :
    Calls Try.prog 41 #[ptr h, .agg #[.int .i64 i, .int .u64 q]] w fun e w' => e = .returned (.int .i64 (if r.is i q then (if (r.pl i.toNat).own = 0 then 5 else 0) else 11)) ∧ RTurns h S (if (if r.is i q then (if (r.pl i.toNat).own = 0 then 5 else 0) else 11 : Int) = 0 then { r with L := r.L.set i.toNat { r.pl i.toNat with own := (r.pl i.toNat).own - 1 } } else r) w w' := by
  obtain ⟨gl, cl, A9, cF, hne, hcl, _, lg, lh, htell⟩ := hr.tell h0
  have HI := Lib.hid (fun W (hW : Chg [] w W) => ris_any (hr.quiet hW) h0 i q)
  have HRR := Lib.hid hr
  cases hq : r.is i q with
  | false =>
    simp only [hq, Bool.false_eq_true, if_false, Int.reduceEq, reduceCtorEq]
    rw [hq] at HI
    clear hq hr htell
    go_enter Try.func41, Try.ntmps41
    go_wp2_with (first | (go_at_call 36; refine (HI.out _ ((Chg.refl _ _).alloc _)).mono ?_; rintro e w1 ⟨rfl, hc⟩; have HC1 := Lib.hid (((Chg.refl [] w).alloc _).then hc); clear hc))
    go_ret
    exact ⟨rfl, RTurns.refl HRR.out HC1.out⟩
  | true =>
    rw [hq] at HI
    obtain ⟨k, p, rfl, hp, h3, h4⟩ := ris_iff.1 hq
    have HPP := Lib.hid hp
    have HT := Lib.hid htell
    obtain ⟨hn1, hn2, hn3, hn4⟩ := hf.nums k p hp
    have hfl := hf.len
    have hkn := (List.getElem?_eq_some_iff.1 hp).1
    have ha00 := (htell w (Chg.refl _ _)).1
    have HA00 := Lib.hid ha00
    have HROW := Lib.hid (hr.row ha00)
    have hpk : r.pl ((k : Nat) : Int).toNat = p := by rw [Int.toNat_natCast]; exact RTab.pl_eq hp
    have i0 : (0 : Int) ≤ (k : Int) := by omega
    have HW := Lib.hid (fun (w1 : World) (hc : Chg [] w w1) (p' : Pl) (j : Nat) (u : Value) (hy : p'.cells = p.cells.set j u) (hj : j < 9) => RTurns.write (W2 := w1.setCell ⟨gl, k * 9 + j, none⟩ u) (p' := p') HRR.out HA00.out hc ((Chg.refl _ _).setCell (.inl (by simp)) _) (by rw [pl_set HPP.out hy hj]; exact (HROW.out.chg hc (fun _ _ h => by cases h)).set_ (by omega) u))
    rw [hpk]
    have e2 : IntKind.i64.wrap (p.own - 1) = p.own - 1 := IntWalk.i64_in _ (by omega)
    simp only [hq, if_true, Int.toNat_natCast]
    obtain ⟨n, hnn⟩ : ∃ n, n = r.L.length := ⟨_, rfl⟩
    have HN := Lib.hid hnn
    rw [← hnn] at HT hkn hcl
    have i1 : (k : Int) < (n : Int) := by omega
    clear hr hf hp h3 h4 hq htell hpk hnn hn1 hn2 hn3 hn4 ha00
    by_cases g0 : p.own = 0
    · rw [if_pos g0]
      have g9 : (p.own == 0) = true := by simpa using g0
      simp only [Int.reduceEq, if_false]
      obtain ⟨o9, ho9⟩ : ∃ o9, o9 = p.own := ⟨_, rfl⟩
      rw [← ho9] at g9
      have HO9 := Lib.hid ho9
      clear g0 ho9 e2 HW
      go_enter Try.func41, Try.ntmps41
      go_wp2_with (first | (go_at_call 36; refine (HI.out _ ((Chg.refl _ _).alloc _)).mono ?_; rintro e w1 ⟨rfl, hc⟩; obtain ⟨l1, b0, b1⟩ := ref_facts (w := w) rfl (Chg.refl [] _) hc; have HC1 := Lib.hid (((Chg.refl [] w).alloc _).then hc); obtain ⟨a0, _, lh1, lg1, fl1, _, hpl⟩ := HT.out _ HC1.out; obtain ⟨q0, q1, q2, q3, q4, q5, q6, q7, q8⟩ := hpl k p HPP.out; have f6 := fl1 (k * 9 + 7); have f7 := fl1 (k * 9 + 8); clear hc hpl))
      rw [← HO9.out] at q7
      go_quiet (fail)
      go_wp2
      go_ret
      exact ⟨rfl, RTurns.refl HRR.out (HC1.out.drewN _)⟩
    · rw [if_neg g0]
      have g9 : (p.own == 0) = false := by simpa using g0
      simp only [if_true]
      go_enter Try.func41, Try.ntmps41
      go_wp2_with (first | (go_at_call 36; refine (HI.out _ ((Chg.refl _ _).alloc _)).mono ?_; rintro e w1 ⟨rfl, hc⟩; obtain ⟨l1, b0, b1⟩ := ref_facts (w := w) rfl (Chg.refl [] _) hc; have HC1 := Lib.hid (((Chg.refl [] w).alloc _).then hc); obtain ⟨a0, _, lh1, lg1, fl1, _, hpl⟩ := HT.out _ HC1.out; obtain ⟨q0, q1, q2, q3, q4, q5, q6, q7, q8⟩ := hpl k p HPP.out; have f6 := fl1 (k * 9 + 7); have f7 := fl1 (k * 9 + 8); clear hc hpl))
      go_quiet (fail)
      go_wp2
      go_still_tail 12, (by kernel_rfl)
      (try change wpStill _ _ (World.drew _) _ _ _)
      (repeat still_step)
      (try refine wpStill_nil ?_)
      (try change wpList _ _ _ _ _ (World.drew _))
      go_wp2
      go_ret
      exact ⟨rfl, HW.out _ (HC1.out.drewN _).drew { p with own := p.own - 1 } 7 _ rfl (by omega)⟩
set_option maxHeartbeats 3200000 in
set_option maxRecDepth 100000 in
theorem ruse_any {w : World} {h : Nat} {S : List Nat} {r : RTab} (hr : RefAt w h S r) (h0 : 0 < r.L.length) (hf : r.Fine) {i q : Int} (n9 : Int) (n0 : 0 ≤ n9) (n1 : n9 < 18446744073709551616) :
    Calls Try.prog 42 #[ptr h, .agg #[.int .i64 i, .int .u64 q], .int .u64 n9] w fun e w' => e = .returned (.int .i64 (if r.is i q then 0 else 11)) ∧ RTurns h S (if r.is i q then { r with L := r.L.set i.toNat { r.pl i.toNat with used := addS (r.pl i.toNat).used n9 } } else r) w w' := by
  obtain ⟨gl, cl, A9, cF, hne, hcl, _, lg, lh, htell⟩ := hr.tell h0
  have HI := Lib.hid (fun W (hW : Chg [] w W) => ris_any (hr.quiet hW) h0 i q)
  have HRR := Lib.hid hr
  cases hq : r.is i q with
  | false =>
    simp only [hq, Bool.false_eq_true, if_false, Int.reduceEq, reduceCtorEq]
    rw [hq] at HI
    clear hq hr htell
    go_enter Try.func42, Try.ntmps42
    go_wp2_with (first | (go_at_call 36; refine (HI.out _ ((Chg.refl _ _).alloc _)).mono ?_; rintro e w1 ⟨rfl, hc⟩; have HC1 := Lib.hid (((Chg.refl [] w).alloc _).then hc); clear hc))
    go_ret
    exact ⟨rfl, RTurns.refl HRR.out HC1.out⟩
  | true =>
    rw [hq] at HI
    obtain ⟨k, p, rfl, hp, h3, h4⟩ := ris_iff.1 hq
    have HPP := Lib.hid hp
    have HT := Lib.hid htell
    obtain ⟨hn1, hn2, hn3, hn4⟩ := hf.nums k p hp
    have hfl := hf.len
    have hkn := (List.getElem?_eq_some_iff.1 hp).1
    have ha00 := (htell w (Chg.refl _ _)).1
    have HA00 := Lib.hid ha00
    have HROW := Lib.hid (hr.row ha00)
    have hpk : r.pl ((k : Nat) : Int).toNat = p := by rw [Int.toNat_natCast]; exact RTab.pl_eq hp
    have i0 : (0 : Int) ≤ (k : Int) := by omega
    have HW := Lib.hid (fun (w1 : World) (hc : Chg [] w w1) (p' : Pl) (j : Nat) (u : Value) (hy : p'.cells = p.cells.set j u) (hj : j < 9) => RTurns.write (W2 := w1.setCell ⟨gl, k * 9 + j, none⟩ u) (p' := p') HRR.out HA00.out hc ((Chg.refl _ _).setCell (.inl (by simp)) _) (by rw [pl_set HPP.out hy hj]; exact (HROW.out.chg hc (fun _ _ h => by cases h)).set_ (by omega) u))
    rw [hpk]
    simp only [hq, if_true, Int.toNat_natCast]
    have e1 : IntKind.u64.wrap (18446744073709551615 - p.used) = 18446744073709551615 - p.used := by rw [IntKind.wrap_u64]; omega
    obtain ⟨n, hnn⟩ : ∃ n, n = r.L.length := ⟨_, rfl⟩
    have HN := Lib.hid hnn
    rw [← hnn] at HT hkn hcl
    have i1 : (k : Int) < (n : Int) := by omega
    by_cases g0 : 18446744073709551615 - p.used < n9
    · have hv : addS p.used n9 = 18446744073709551615 := by unfold addS; rw [if_neg (by omega)]
      rw [hv]
      clear hr hf hp h3 h4 hq htell hpk hnn hn1 hn2 hn3 hn4 ha00 hv
      go_enter Try.func42, Try.ntmps42
      go_wp2_with (first | (go_at_call 36; refine (HI.out _ ((Chg.refl _ _).alloc _)).mono ?_; rintro e w1 ⟨rfl, hc⟩; obtain ⟨l1, b0, b1⟩ := ref_facts (w := w) rfl (Chg.refl [] _) hc; have HC1 := Lib.hid (((Chg.refl [] w).alloc _).then hc); obtain ⟨a0, _, lh1, lg1, fl1, _, hpl⟩ := HT.out _ HC1.out; obtain ⟨q0, q1, q2, q3, q4, q5, q6, q7, q8⟩ := hpl k p HPP.out; have f6 := fl1 (k * 9 + 7); have f7 := fl1 (k * 9 + 8); clear hc hpl))
      go_quiet (fail)
      go_wp2
      go_still_tail 8, (by kernel_rfl)
      (try change wpStill _ _ (World.drew _) _ _ _)
      (repeat still_step)
      (try refine wpStill_nil ?_)
      (try change wpList _ _ _ _ _ (World.drew _))
      go_wp2
      go_ret
      exact ⟨rfl, HW.out _ (HC1.out.drewN _).drew { p with used := 18446744073709551615 } 8 _ rfl (by omega)⟩
    · have hv : addS p.used n9 = p.used + n9 := by unfold addS; rw [if_pos (by omega)]
      have e2 : IntKind.u64.wrap (p.used + n9) = p.used + n9 := by rw [IntKind.wrap_u64]; omega
      rw [hv]
      clear hr hf hp h3 h4 hq htell hpk hnn hn1 hn2 hn3 hn4 ha00 hv
      go_enter Try.func42, Try.ntmps42
      go_wp2_with (first | (go_at_call 36; refine (HI.out _ ((Chg.refl _ _).alloc _)).mono ?_; rintro e w1 ⟨rfl, hc⟩; obtain ⟨l1, b0, b1⟩ := ref_facts (w := w) rfl (Chg.refl [] _) hc; have HC1 := Lib.hid (((Chg.refl [] w).alloc _).then hc); obtain ⟨a0, _, lh1, lg1, fl1, _, hpl⟩ := HT.out _ HC1.out; obtain ⟨q0, q1, q2, q3, q4, q5, q6, q7, q8⟩ := hpl k p HPP.out; have f6 := fl1 (k * 9 + 7); have f7 := fl1 (k * 9 + 8); clear hc hpl))
      go_quiet (fail)
      go_wp2
      go_still_tail 11, (by kernel_rfl)
      (try change wpStill _ _ (World.drew _) _ _ _)
      (repeat still_step)
      (try refine wpStill_nil ?_)
      (try change wpList _ _ _ _ _ (World.drew _))
      go_wp2
      go_ret
      exact ⟨rfl, HW.out _ (HC1.out.drewN _).drew { p with used := p.used + n9 } 8 _ rfl (by omega)⟩
set_option maxHeartbeats 3200000 in
set_option maxRecDepth 100000 in
theorem rclear_any {w : World} {h : Nat} {S : List Nat} {r : RTab} (hr : RefAt w h S r) (h0 : 0 < r.L.length) (hf : r.Fine) {i q : Int} :
    Calls Try.prog 43 #[ptr h, .agg #[.int .i64 i, .int .u64 q]] w fun e w' => e = .returned (.int .i64 (if r.is i q then 0 else 11)) ∧ RTurns h S (if r.is i q then { r with L := r.L.set i.toNat { r.pl i.toNat with used := 0 } } else r) w w' := by
  obtain ⟨gl, cl, A9, cF, hne, hcl, _, lg, lh, htell⟩ := hr.tell h0
  have HI := Lib.hid (fun W (hW : Chg [] w W) => ris_any (hr.quiet hW) h0 i q)
  have HRR := Lib.hid hr
  cases hq : r.is i q with
  | false =>
    simp only [hq, Bool.false_eq_true, if_false, Int.reduceEq, reduceCtorEq]
    rw [hq] at HI
    clear hq hr htell
    go_enter Try.func43, Try.ntmps43
    go_wp2_with (first | (go_at_call 36; refine (HI.out _ ((Chg.refl _ _).alloc _)).mono ?_; rintro e w1 ⟨rfl, hc⟩; have HC1 := Lib.hid (((Chg.refl [] w).alloc _).then hc); clear hc))
    go_ret
    exact ⟨rfl, RTurns.refl HRR.out HC1.out⟩
  | true =>
    rw [hq] at HI
    obtain ⟨k, p, rfl, hp, h3, h4⟩ := ris_iff.1 hq
    have HPP := Lib.hid hp
    have HT := Lib.hid htell
    obtain ⟨hn1, hn2, hn3, hn4⟩ := hf.nums k p hp
    have hfl := hf.len
    have hkn := (List.getElem?_eq_some_iff.1 hp).1
    have ha00 := (htell w (Chg.refl _ _)).1
    have HA00 := Lib.hid ha00
    have HROW := Lib.hid (hr.row ha00)
    have hpk : r.pl ((k : Nat) : Int).toNat = p := by rw [Int.toNat_natCast]; exact RTab.pl_eq hp
    have i0 : (0 : Int) ≤ (k : Int) := by omega
    have HW := Lib.hid (fun (w1 : World) (hc : Chg [] w w1) (p' : Pl) (j : Nat) (u : Value) (hy : p'.cells = p.cells.set j u) (hj : j < 9) => RTurns.write (W2 := w1.setCell ⟨gl, k * 9 + j, none⟩ u) (p' := p') HRR.out HA00.out hc ((Chg.refl _ _).setCell (.inl (by simp)) _) (by rw [pl_set HPP.out hy hj]; exact (HROW.out.chg hc (fun _ _ h => by cases h)).set_ (by omega) u))
    rw [hpk]
    simp only [hq, if_true, Int.toNat_natCast]
    obtain ⟨n, hnn⟩ : ∃ n, n = r.L.length := ⟨_, rfl⟩
    have HN := Lib.hid hnn
    rw [← hnn] at HT hkn hcl
    have i1 : (k : Int) < (n : Int) := by omega
    clear hr hf hp h3 h4 hq htell hpk hnn hn1 hn2 hn3 hn4 ha00
    go_enter Try.func43, Try.ntmps43
    go_wp2_with (first | (go_at_call 36; refine (HI.out _ ((Chg.refl _ _).alloc _)).mono ?_; rintro e w1 ⟨rfl, hc⟩; obtain ⟨l1, b0, b1⟩ := ref_facts (w := w) rfl (Chg.refl [] _) hc; have HC1 := Lib.hid (((Chg.refl [] w).alloc _).then hc); obtain ⟨a0, _, lh1, lg1, fl1, _, hpl⟩ := HT.out _ HC1.out; obtain ⟨q0, q1, q2, q3, q4, q5, q6, q7, q8⟩ := hpl k p HPP.out; have f6 := fl1 (k * 9 + 7); have f7 := fl1 (k * 9 + 8); clear hc hpl))
    go_still_tail 8, (by kernel_rfl)
    (try change wpStill _ _ (World.drew _) _ _ _)
    (repeat still_step)
    (try refine wpStill_nil ?_)
    (try change wpList _ _ _ _ _ (World.drew _))
    go_wp2
    go_ret
    exact ⟨rfl, HW.out _ HC1.out.drew { p with used := 0 } 8 _ rfl (by omega)⟩
end Go.Proofs
end
section
namespace Go.Proofs
open Go.RowKit
set_option linter.unusedVariables false
set_option linter.unusedSimpArgs false

/-- append of a row onto a row, of numbers. -/
theorem run_append_rr (w : World) (ty : TypeId) {v x : Value} {xs l : List Nat} (hr : Row w 3 1 v xs.length (numCells xs)) (hx : Row w 3 1 x l.length (numCells l)) (hb : xs.length + l.length ≤ 1000000) :
    ∃ v' w', (Builtin.append_ #[98, 98] ty #[v, x]).run Try.prog w = .ok v' w' ∧ Row w' 3 1 v' (xs ++ l).length (numCells (xs ++ l)) ∧ w.grownBy w' v.ownBlock ∧ (∀ k ∈ foot v', k ∈ foot v ∨ w.heap.size ≤ k) := by
  obtain ⟨i0, hi0, hz0, hz1, hz2⟩ := info_parts Try.num_info_C
  obtain ⟨A, c, rfl, hA⟩ := hx.val
  rcases Nat.eq_zero_or_pos l.length with h0 | h0
  · have hl : l = [] := List.eq_nil_of_length_eq_zero h0
    subst hl
    obtain ⟨A', c', rfl, hA'⟩ := hr.val
    have hle : xs.length ≤ c' := by
      rcases hr.2 with ⟨hv, h0⟩ | ⟨g, cap, cur, hv, _, hc, _⟩
      · omega
      · injection hv with _ _ hv; omega
    refine ⟨_, w, run_append_nothing w 98 98 ty 3 i0 Try.underlying98 hi0 A' xs.length c' hle (.slice A 0 c) ?_, by simpa using hr, World.grownBy.refl w _, fun k hk => .inl hk⟩
    have hc : ∀ W : World, (Builtin.firstCells i0.size 0 (.slice A 0 c)).run Try.prog W = .ok #[] W := fun W => by
      cases A with
      | none => exact run_firstCells_none W i0.size 0 0 c
      | some a => exact run_firstCells_some W i0.size 0 a 0 c [] (by simp) (fun j u hj => by simp at hj)
    exact ⟨.inl ⟨3, Try.underlying98⟩, fun w' => by simp [Builtin.lenOf], hc w, hc _, by simp, by simp⟩
  · obtain ⟨g, cap, hv, _, _, hcell, _, _⟩ := hx.form h0
    simp only [Value.slice.injEq] at hv
    obtain ⟨rfl, _, rfl⟩ := hv
    obtain ⟨gg, cap, w', q1, q2, q3, q4, q5⟩ := run_append_row (P := Try.prog) w 98 ty 3 i0 (.int .i64 0) 1 8 Try.underlying98 hi0 hz0 hz1 hz2 rfl v xs.length (numCells xs) hr ⟨g, 0, none⟩ l.length c (numCells l) (by unfold numCells; simp)
      (fun j u hu => by
        have hadd : (⟨g, 0, none⟩ : Addr).add j = ⟨g, j, none⟩ := by unfold Addr.add; split <;> simp_all
        rw [hadd]; exact hcell j u hu) (by intro u hu; unfold numCells at hu; obtain ⟨y, _, rfl⟩ := List.mem_map.1 hu; rfl) h0 (by unfold maxLen; omega) (by omega) w.heap.size rfl
    have hap : numCells xs ++ numCells l = numCells (xs ++ l) := by unfold numCells; simp
    rw [hap] at q2
    rw [← List.length_append] at q1 q2
    exact ⟨_, w', q1, q2, q3, foot_grown q4 (fun k hk => hk)⟩
theorem step_append_rr (w : World) {ops : Array Oper} {o : Oper} {a : Act} {K : Act → World → Prop} {Q : Exit → Act → World → Prop} {E : Prop} (hgd : o.guard = none) (s y : Operand)
    (ho : o.op = .call { callee := .builtin .append, args := #[s, y], argTypes := #[98, 98] })
    {v x : Value} {xs l : List Nat} {n : Nat} (hs : a.eval s = v) (hy : a.eval y = x) (hr : Row w 3 1 v xs.length (numCells xs)) (hx : Row w 3 1 x l.length (numCells l)) (hb : xs.length + l.length ≤ 1000000) (hn : n = xs.length + l.length)
    (h : ∀ A' c' w', Row w' 3 1 (.slice A' n c') (xs ++ l).length (numCells (xs ++ l)) → w.grownBy w' v.ownBlock → (∀ k ∈ foot (.slice A' n c'), k ∈ foot v ∨ w.heap.size ≤ k) → K (a.put o.dst (.slice A' n c')) w') :
    if Region.wanted o (yielded ops a.tmps) = true then Oper.wp Try.prog o a w K Q else E := by
  have hw : Region.wanted o (yielded ops a.tmps) = true := by simp [Region.wanted, hgd]
  rw [if_pos hw]
  subst hn
  obtain ⟨v', w', h1, h2, h3, h4⟩ := run_append_rr w o.type hr hx hb
  obtain ⟨A', c', rfl, _⟩ := h2.val
  rw [List.length_append] at h1 h2 h4
  rw [← List.length_append] at h2
  unfold Oper.wp execOp
  simp only [ho, resolve, invoke, builtin, Sem.run_bind, Sem.run_pure, Result.andThen_ok, List.map_toArray, List.map_cons, List.map_nil, hs, hy, h1]
  exact h A' c' w' (by simpa using h2) h3 h4
/-- Behind the first append: a row of the call's own. -/
theorem rm_mid1 {W5 W w3 : World} {v : Value} {l : List Nat} (hc : Chg [] W5 W) (hr : Row w3 3 1 v l.length (numCells l)) (hg : W.grownBy w3 (Value.slice none 0 0).ownBlock) (hf : ∀ k ∈ foot v, k ∈ foot (.slice none 0 0) ∨ W.heap.size ≤ k) :
    Chg [] W5 w3 ∧ Row w3 3 1 v l.length (numCells l) ∧ (∀ k ∈ foot v, W5.heap.size ≤ k) :=
  ⟨hc.grown hg (fun k hk => by cases hk), hr, fun k hk => (hf k hk).elim (fun h => by cases h) (fun h => Nat.le_trans hc.size h)⟩
theorem rm_one {w : World} {B k : Nat} (h : Blk w B 3 #[.int .i64 (k : Nat)]) : Row w 3 1 (.slice (some ⟨B, 0, none⟩) 1 1) [k].length (numCells [k]) :=
  ⟨rfl, .inr ⟨B, 1, #[.int .i64 (k : Nat)], rfl, h, by simp, by unfold maxLen; omega, by simp, rfl⟩⟩
theorem rm_mid2 {W5 w3 W w4 : World} {v v' : Value} {l : List Nat} {k : Nat} (h : Chg [] W5 w3 ∧ Row w3 3 1 v l.length (numCells l) ∧ (∀ k ∈ foot v, W5.heap.size ≤ k)) (hc : Chg [] w3 W) (hr : Row w4 3 1 v' (l ++ [k]).length (numCells (l ++ [k]))) (hg : W.grownBy w4 v.ownBlock) (hf : ∀ k ∈ foot v', k ∈ foot v ∨ W.heap.size ≤ k) :
    Chg [] W5 w4 ∧ Row w4 3 1 v' (l ++ [k]).length (numCells (l ++ [k])) ∧ (∀ k ∈ foot v', W5.heap.size ≤ k) :=
  ⟨(h.1.then hc).grown hg (fun k hk => .inr (h.2.2 k (row_mem hk))), hr, fun k hk => (hf k hk).elim (h.2.2 k) (fun e => Nat.le_trans (Nat.le_trans h.1.size hc.size) e)⟩
def rmergeE (r : RTab) (ch : Nat → List (Int × Int)) (i q : Int) : Int := if r.is i q then (if (r.pl i.toNat).pg = 0 then 2 else (if 0 < (r.get ch i q).live ∨ 0 < (r.get ch i q).ch then 14 else 0)) else 11
def rmergeT (r : RTab) (i q : Int) : RTab := ⟨r.L.set i.toNat ⟨q + 1, false, 0, 0, 0, 0, 0, 0, 0⟩, r.F ++ [i.toNat]⟩
set_option maxHeartbeats 12800000 in
set_option maxRecDepth 100000 in
theorem rmerge_any {w : World} {h : Nat} {S : List Nat} {r : RTab} (hr : RefAt w h S r) (h0 : 0 < r.L.length) (hf : r.Fine) {ch : Nat → List (Int × Int)} (hch : r.Chs ch) (hfl : r.F.length ≤ 1000) {i q : Int} (hq0 : 0 ≤ q) (hq1 : q + 1 < 18446744073709551616) :
    Calls Try.prog 39 #[ptr h, .agg #[.int .i64 i, .int .u64 q]] w fun e w' => e = .returned (.int .i64 (rmergeE r ch i q)) ∧ RTurns h S (if rmergeE r ch i q = 0 then rmergeT r i q else r) w w' := by
  obtain ⟨gl, cl, A9, cF, hne, hcl, hglS, lg, lh, htell⟩ := hr.tell h0
  have HI := Lib.hid (fun W (hW : Chg [] w W) => ris_any (hr.quiet hW) h0 i q)
  have HRR := Lib.hid hr
  cases hq : r.is i q with
  | false =>
    have hE : rmergeE r ch i q = 11 := by unfold rmergeE; rw [hq]; rfl
    rw [hE]
    simp only [Int.reduceEq, if_false]
    rw [hq] at HI
    clear hq hr htell hE hch hf
    go_enter Try.func39, Try.ntmps39
    go_wp2_with (first | (go_at_call 36; refine (HI.out _ ((Chg.refl _ _).alloc _)).mono ?_; rintro e w1 ⟨rfl, hc⟩; have HC1 := Lib.hid (((Chg.refl [] w).alloc _).then hc); clear hc))
    go_ret
    exact ⟨rfl, RTurns.refl HRR.out HC1.out⟩
  | true =>
    rw [hq] at HI
    obtain ⟨k, p, rfl, hp, h3, h4⟩ := ris_iff.1 hq
    have HPP := Lib.hid hp
    have HT := Lib.hid htell
    have hkn := (List.getElem?_eq_some_iff.1 hp).1
    have hfl2 := hf.len
    have hpk : r.pl ((k : Nat) : Int).toNat = p := by rw [Int.toNat_natCast]; exact RTab.pl_eq hp
    have i0 : (0 : Int) ≤ (k : Int) := by omega
    have HG := Lib.hid (fun W (hW : Chg [] w W) => rget_any (hr.quiet hW) hf hch hp q)
    have hce : rmergeE r ch (k : Nat) q = if p.pg = 0 then 2 else (if 0 < (r.get ch (k : Nat) q).live ∨ 0 < (r.get ch (k : Nat) q).ch then 14 else 0) := by unfold rmergeE; rw [if_pos hq, hpk]
    rw [hce]
    obtain ⟨x, hx⟩ : ∃ x, x = r.get ch (k : Nat) q := ⟨_, rfl⟩
    rw [← hx] at HG ⊢
    obtain ⟨T2, hT2⟩ : ∃ T2, T2 = rmergeT r (k : Nat) q := ⟨_, rfl⟩
    rw [← hT2]
    have HT2 := Lib.hid hT2
    obtain ⟨n, hnn⟩ : ∃ n, n = r.L.length := ⟨_, rfl⟩
    have HN := Lib.hid hnn
    obtain ⟨m, hm⟩ : ∃ m, m = r.F.length := ⟨_, rfl⟩
    have HM := Lib.hid hm
    rw [← hnn, ← hm] at HT
    rw [← hnn] at hkn hcl hfl2
    rw [← hm] at hfl
    have i1 : (k : Int) < (n : Int) := by omega
    clear hr hf hch hp h3 h4 hq htell hpk hx hnn hm hce hT2
    by_cases g0 : p.pg = 0
    · have g9 : (p.pg == 0) = true := by simpa using g0
      simp only [if_pos g0, Int.reduceEq, if_false]
      obtain ⟨o9, ho9⟩ : ∃ o9, o9 = p.pg := ⟨_, rfl⟩
      rw [← ho9] at g9
      have HO9 := Lib.hid ho9
      clear g0 ho9
      go_enter Try.func39, Try.ntmps39
      go_wp2_with (first | (go_at_call 36; refine (HI.out _ ((Chg.refl _ _).alloc _)).mono ?_; rintro e w1 ⟨rfl, hc⟩; obtain ⟨l1, b0, b1⟩ := ref_facts (w := w) rfl (Chg.refl [] _) hc; have HC1 := Lib.hid (((Chg.refl [] w).alloc _).then hc); have HR1 := Lib.hid ((Blk.new w 34 #[.int .i64 (k : Nat), .int .u64 q]).chg hc (by simp)); obtain ⟨a0, _, lh1, lg1, fl1, _, hpl⟩ := HT.out _ HC1.out; obtain ⟨q0, q1, q2, q3, q4, q5, q6, q7, q8⟩ := hpl k p HPP.out; clear hc hpl))
      rw [← HO9.out] at q6
      go_quiet (fail)
      go_wp2
      go_ret
      exact ⟨rfl, RTurns.refl HRR.out (HC1.out.drewN _)⟩
    · have g9 : (p.pg == 0) = false := by simpa using g0
      simp only [if_neg g0]
      by_cases g1 : 0 < x.live
      · simp only [g1, true_or, if_true, Int.reduceEq, if_false]
        go_enter Try.func39, Try.ntmps39
        go_wp2_with (first | (go_at_call 36; refine (HI.out _ ((Chg.refl _ _).alloc _)).mono ?_; rintro e w1 ⟨rfl, hc⟩; obtain ⟨l1, b0, b1⟩ := ref_facts (w := w) rfl (Chg.refl [] _) hc; have HC1 := Lib.hid (((Chg.refl [] w).alloc _).then hc); have HR1 := Lib.hid ((Blk.new w 34 #[.int .i64 (k : Nat), .int .u64 q]).chg hc (by simp)); obtain ⟨a0, _, lh1, lg1, fl1, _, hpl⟩ := HT.out _ HC1.out; obtain ⟨q0, q1, q2, q3, q4, q5, q6, q7, q8⟩ := hpl k p HPP.out; clear hc hpl))
        go_quiet (fail)
        go_wp2_with (first | (go_at_call 37; refine (HG.out _ (HC1.out.drewN _)).mono ?_; rintro e w2 ⟨rfl, hc⟩; have HC2 := Lib.hid ((HC1.out.drewN _).then hc); have hr2 := (HR1.out.drewN _).chg hc (by simp); have HR2 := Lib.hid hr2; have b20 := hr2.cell 0; have b21 := hr2.cell 1; have l20 := hr2.lt; obtain ⟨a02, _, lh2, lg2, fl2, _, hpl⟩ := HT.out _ HC2.out; obtain ⟨s0, s1, s2, s3, s4, s5, s6, s7, s8⟩ := hpl k p HPP.out; clear hc hpl hr2))
        go_ret
        exact ⟨rfl, RTurns.refl HRR.out (HC2.out.alloc (obX x))⟩
      · by_cases g2 : 0 < x.ch
        · simp only [g2, or_true, if_true, Int.reduceEq, if_false]
          go_enter Try.func39, Try.ntmps39
          go_wp2_with (first | (go_at_call 36; refine (HI.out _ ((Chg.refl _ _).alloc _)).mono ?_; rintro e w1 ⟨rfl, hc⟩; obtain ⟨l1, b0, b1⟩ := ref_facts (w := w) rfl (Chg.refl [] _) hc; have HC1 := Lib.hid (((Chg.refl [] w).alloc _).then hc); have HR1 := Lib.hid ((Blk.new w 34 #[.int .i64 (k : Nat), .int .u64 q]).chg hc (by simp)); obtain ⟨a0, _, lh1, lg1, fl1, _, hpl⟩ := HT.out _ HC1.out; obtain ⟨q0, q1, q2, q3, q4, q5, q6, q7, q8⟩ := hpl k p HPP.out; clear hc hpl))
          go_quiet (fail)
          go_wp2_with (first | (go_at_call 37; refine (HG.out _ (HC1.out.drewN _)).mono ?_; rintro e w2 ⟨rfl, hc⟩; have HC2 := Lib.hid ((HC1.out.drewN _).then hc); have hr2 := (HR1.out.drewN _).chg hc (by simp); have HR2 := Lib.hid hr2; have b20 := hr2.cell 0; have b21 := hr2.cell 1; have l20 := hr2.lt; obtain ⟨a02, _, lh2, lg2, fl2, _, hpl⟩ := HT.out _ HC2.out; obtain ⟨s0, s1, s2, s3, s4, s5, s6, s7, s8⟩ := hpl k p HPP.out; clear hc hpl hr2))
          go_ret
          exact ⟨rfl, RTurns.refl HRR.out (HC2.out.alloc (obX x))⟩
        · simp only [g1, g2, or_self, if_false, if_true]
          have e1 : IntKind.u64.wrap (q + 1) = q + 1 := by rw [IntKind.wrap_u64]; omega
          go_enter Try.func39, Try.ntmps39
          go_wp2_with (first | (go_at_call 36; refine (HI.out _ ((Chg.refl _ _).alloc _)).mono ?_; rintro e w1 ⟨rfl, hc⟩; obtain ⟨l1, b0, b1⟩ := ref_facts (w := w) rfl (Chg.refl [] _) hc; have HC1 := Lib.hid (((Chg.refl [] w).alloc _).then hc); have HR1 := Lib.hid ((Blk.new w 34 #[.int .i64 (k : Nat), .int .u64 q]).chg hc (by simp)); obtain ⟨a0, _, lh1, lg1, fl1, _, hpl⟩ := HT.out _ HC1.out; obtain ⟨q0, q1, q2, q3, q4, q5, q6, q7, q8⟩ := hpl k p HPP.out; clear hc hpl))
          go_quiet (fail)
          go_wp2_with (first | (go_at_call 37; refine (HG.out _ (HC1.out.drewN _)).mono ?_; rintro e w2 ⟨rfl, hc⟩; have HC2 := Lib.hid ((HC1.out.drewN _).then hc); have hr2 := (HR1.out.drewN _).chg hc (by simp); have HR2 := Lib.hid hr2; have b20 := hr2.cell 0; have b21 := hr2.cell 1; have l20 := hr2.lt; obtain ⟨a02, _, lh2, lg2, fl2, _, hpl⟩ := HT.out _ HC2.out; obtain ⟨s0, s1, s2, s3, s4, s5, s6, s7, s8⟩ := hpl k p HPP.out; clear hc hpl hr2))
          have f0 := fl2 (k * 9)
          have f1 := fl2 (k * 9 + 1)
          have f2 := fl2 (k * 9 + 2)
          have f3 := fl2 (k * 9 + 3)
          have f4 := fl2 (k * 9 + 4)
          have f5 := fl2 (k * 9 + 5)
          have f6 := fl2 (k * 9 + 6)
          have f7 := fl2 (k * 9 + 7)
          have f8 := fl2 (k * 9 + 8)
          go_still_tail 11, (by kernel_rfl)
          (try change wpStill _ _ (World.drew _) _ _ _)
          (repeat still_step)
          (try refine wpStill_nil ?_)
          (try change wpList _ _ _ _ _ (World.drew _))
          go_wp2
          obtain ⟨VL, VF, hB, hL, hF, hSS⟩ := HRR.out.quiet HC2.out
          have hVL : VL = .slice (some ⟨gl, 0, none⟩) n cl := by
            have h9 := hB.cell 0
            simp only [List.getElem?_toArray, List.getElem?_cons_zero] at h9
            rw [h9] at a02; exact Option.some.inj a02
          have hVF : VF = .slice A9 m cF := by
            have h9 := hB.cell 1
            simp only [List.getElem?_toArray, List.getElem?_cons_succ, List.getElem?_cons_zero] at h9
            rw [(HT.out _ HC2.out).2.1] at h9; exact (Option.some.inj h9).symm
          subst hVL hVF
          have hc5 : Chg [gl] w2 (((((((((w2.setCell ⟨gl, k * 9, none⟩ (.int .u64 (q + 1))).setCell ⟨gl, k * 9 + 1, none⟩ (.bool false)).setCell ⟨gl, k * 9 + 2, none⟩ (.int .i64 0)).setCell ⟨gl, k * 9 + 3, none⟩ (.int .u64 0)).setCell ⟨gl, k * 9 + 4, none⟩ (.int .u64 0)).setCell ⟨gl, k * 9 + 5, none⟩ (.int .i64 0)).setCell ⟨gl, k * 9 + 6, none⟩ (.int .u64 0)).setCell ⟨gl, k * 9 + 7, none⟩ (.int .i64 0)).setCell ⟨gl, k * 9 + 8, none⟩ (.int .u64 0)) := chg_put9 (Chg.refl [gl] w2) (.inl (by simp)) (k * 9) ⟨q + 1, false, 0, 0, 0, 0, 0, 0, 0⟩
          have hcA : Chg [] (((((((((w2.setCell ⟨gl, k * 9, none⟩ (.int .u64 (q + 1))).setCell ⟨gl, k * 9 + 1, none⟩ (.bool false)).setCell ⟨gl, k * 9 + 2, none⟩ (.int .i64 0)).setCell ⟨gl, k * 9 + 3, none⟩ (.int .u64 0)).setCell ⟨gl, k * 9 + 4, none⟩ (.int .u64 0)).setCell ⟨gl, k * 9 + 5, none⟩ (.int .i64 0)).setCell ⟨gl, k * 9 + 6, none⟩ (.int .u64 0)).setCell ⟨gl, k * 9 + 7, none⟩ (.int .i64 0)).setCell ⟨gl, k * 9 + 8, none⟩ (.int .u64 0)) (((((((((((w2.setCell ⟨gl, k * 9, none⟩ (.int .u64 (q + 1))).setCell ⟨gl, k * 9 + 1, none⟩ (.bool false)).setCell ⟨gl, k * 9 + 2, none⟩ (.int .i64 0)).setCell ⟨gl, k * 9 + 3, none⟩ (.int .u64 0)).setCell ⟨gl, k * 9 + 4, none⟩ (.int .u64 0)).setCell ⟨gl, k * 9 + 5, none⟩ (.int .i64 0)).setCell ⟨gl, k * 9 + 6, none⟩ (.int .u64 0)).setCell ⟨gl, k * 9 + 7, none⟩ (.int .i64 0)).setCell ⟨gl, k * 9 + 8, none⟩ (.int .u64 0)).alloc (.cells #[.int .i64 x.pi, .int .u64 x.pg, .int .i64 x.gs, .int .u64 x.cpu, .int .u64 x.per, .int .i64 x.cgs, .int .u64 x.car, .int .i64 x.own, .int .i64 x.live, .int .u64 x.used, .int .i64 x.ch] 45)).drew) := ((Chg.refl _ _).alloc _).drew
          have hB5 : Blk (((((((((((w2.setCell ⟨gl, k * 9, none⟩ (.int .u64 (q + 1))).setCell ⟨gl, k * 9 + 1, none⟩ (.bool false)).setCell ⟨gl, k * 9 + 2, none⟩ (.int .i64 0)).setCell ⟨gl, k * 9 + 3, none⟩ (.int .u64 0)).setCell ⟨gl, k * 9 + 4, none⟩ (.int .u64 0)).setCell ⟨gl, k * 9 + 5, none⟩ (.int .i64 0)).setCell ⟨gl, k * 9 + 6, none⟩ (.int .u64 0)).setCell ⟨gl, k * 9 + 7, none⟩ (.int .i64 0)).setCell ⟨gl, k * 9 + 8, none⟩ (.int .u64 0)).alloc (.cells #[.int .i64 x.pi, .int .u64 x.pg, .int .i64 x.gs, .int .u64 x.cpu, .int .u64 x.per, .int .i64 x.cgs, .int .u64 x.car, .int .i64 x.own, .int .i64 x.live, .int .u64 x.used, .int .i64 x.ch] 45)).drew) h 106 #[.slice (some ⟨gl, 0, none⟩) n cl, .slice A9 m cF] := (hB.chg hc5 (by simpa using hne)).chg hcA (by simp)
          have hF5 : Row (((((((((((w2.setCell ⟨gl, k * 9, none⟩ (.int .u64 (q + 1))).setCell ⟨gl, k * 9 + 1, none⟩ (.bool false)).setCell ⟨gl, k * 9 + 2, none⟩ (.int .i64 0)).setCell ⟨gl, k * 9 + 3, none⟩ (.int .u64 0)).setCell ⟨gl, k * 9 + 4, none⟩ (.int .u64 0)).setCell ⟨gl, k * 9 + 5, none⟩ (.int .i64 0)).setCell ⟨gl, k * 9 + 6, none⟩ (.int .u64 0)).setCell ⟨gl, k * 9 + 7, none⟩ (.int .i64 0)).setCell ⟨gl, k * 9 + 8, none⟩ (.int .u64 0)).alloc (.cells #[.int .i64 x.pi, .int .u64 x.pg, .int .i64 x.gs, .int .u64 x.cpu, .int .u64 x.per, .int .i64 x.cgs, .int .u64 x.car, .int .i64 x.own, .int .i64 x.live, .int .u64 x.used, .int .i64 x.ch] 45)).drew) 3 1 (.slice A9 m cF) r.F.length (numCells r.F) := (hF.chg hc5 (fun k hk e => hL.ty2 hF (by decide) k (by simp at e; simp [foot_some, e]) hk)).chg hcA (fun _ _ h => by cases h)
          have hL5 : Row (((((((((((w2.setCell ⟨gl, k * 9, none⟩ (.int .u64 (q + 1))).setCell ⟨gl, k * 9 + 1, none⟩ (.bool false)).setCell ⟨gl, k * 9 + 2, none⟩ (.int .i64 0)).setCell ⟨gl, k * 9 + 3, none⟩ (.int .u64 0)).setCell ⟨gl, k * 9 + 4, none⟩ (.int .u64 0)).setCell ⟨gl, k * 9 + 5, none⟩ (.int .i64 0)).setCell ⟨gl, k * 9 + 6, none⟩ (.int .u64 0)).setCell ⟨gl, k * 9 + 7, none⟩ (.int .i64 0)).setCell ⟨gl, k * 9 + 8, none⟩ (.int .u64 0)).alloc (.cells #[.int .i64 x.pi, .int .u64 x.pg, .int .i64 x.gs, .int .u64 x.cpu, .int .u64 x.per, .int .i64 x.cgs, .int .u64 x.car, .int .i64 x.own, .int .i64 x.live, .int .u64 x.used, .int .i64 x.ch] 45)).drew) 108 9 (.slice (some ⟨gl, 0, none⟩) n cl) n (plCells (r.L.set k ⟨q + 1, false, 0, 0, 0, 0, 0, 0, 0⟩)) := by
            rw [← HN.out] at hL
            exact (hL.put9_ (k := k) hkn HN.out.symm ⟨q + 1, false, 0, 0, 0, 0, 0, 0, 0⟩).chg hcA (fun _ _ h => by cases h)
          have hR5 : Blk (((((((((((w2.setCell ⟨gl, k * 9, none⟩ (.int .u64 (q + 1))).setCell ⟨gl, k * 9 + 1, none⟩ (.bool false)).setCell ⟨gl, k * 9 + 2, none⟩ (.int .i64 0)).setCell ⟨gl, k * 9 + 3, none⟩ (.int .u64 0)).setCell ⟨gl, k * 9 + 4, none⟩ (.int .u64 0)).setCell ⟨gl, k * 9 + 5, none⟩ (.int .i64 0)).setCell ⟨gl, k * 9 + 6, none⟩ (.int .u64 0)).setCell ⟨gl, k * 9 + 7, none⟩ (.int .i64 0)).setCell ⟨gl, k * 9 + 8, none⟩ (.int .u64 0)).alloc (.cells #[.int .i64 x.pi, .int .u64 x.pg, .int .i64 x.gs, .int .u64 x.cpu, .int .u64 x.per, .int .i64 x.cgs, .int .u64 x.car, .int .i64 x.own, .int .i64 x.live, .int .u64 x.used, .int .i64 x.ch] 45)).drew) w.heap.size 34 #[.int .i64 (k : Nat), .int .u64 q] := (HR2.out.chg hc5 (by simp; omega)).chg hcA (by simp)
          have hC5 : Chg S w (((((((((((w2.setCell ⟨gl, k * 9, none⟩ (.int .u64 (q + 1))).setCell ⟨gl, k * 9 + 1, none⟩ (.bool false)).setCell ⟨gl, k * 9 + 2, none⟩ (.int .i64 0)).setCell ⟨gl, k * 9 + 3, none⟩ (.int .u64 0)).setCell ⟨gl, k * 9 + 4, none⟩ (.int .u64 0)).setCell ⟨gl, k * 9 + 5, none⟩ (.int .i64 0)).setCell ⟨gl, k * 9 + 6, none⟩ (.int .u64 0)).setCell ⟨gl, k * 9 + 7, none⟩ (.int .i64 0)).setCell ⟨gl, k * 9 + 8, none⟩ (.int .u64 0)).alloc (.cells #[.int .i64 x.pi, .int .u64 x.pg, .int .i64 x.gs, .int .u64 x.cpu, .int .u64 x.per, .int .i64 x.cgs, .int .u64 x.car, .int .i64 x.own, .int .i64 x.live, .int .u64 x.used, .int .i64 x.ch] 45)).drew) := (HC2.out.any.trans hc5 (fun k hk => by simp at hk; subst hk; exact .inl hglS)).then hcA
          have hglF : gl ∉ foot (.slice A9 m cF) := fun hm => hL.ty2 hF (by decide) gl (by simp [foot_some]) hm
          clear hc5 hcA hB hL hF f0 f1 f2 f3 f4 f5 f6 f7 f8 s0 s1 s2 s3 s4 s5 s6 s7 s8 q0 q1 q2 q3 q4 q5 q6 q7 q8 fl1 fl2 a0 a02 b0 b1 b20 b21 HR1 HR2 HC1 HG HI
          generalize (((((((((((w2.setCell ⟨gl, k * 9, none⟩ (.int .u64 (q + 1))).setCell ⟨gl, k * 9 + 1, none⟩ (.bool false)).setCell ⟨gl, k * 9 + 2, none⟩ (.int .i64 0)).setCell ⟨gl, k * 9 + 3, none⟩ (.int .u64 0)).setCell ⟨gl, k * 9 + 4, none⟩ (.int .u64 0)).setCell ⟨gl, k * 9 + 5, none⟩ (.int .i64 0)).setCell ⟨gl, k * 9 + 6, none⟩ (.int .u64 0)).setCell ⟨gl, k * 9 + 7, none⟩ (.int .i64 0)).setCell ⟨gl, k * 9 + 8, none⟩ (.int .u64 0)).alloc (.cells #[.int .i64 x.pi, .int .u64 x.pg, .int .i64 x.gs, .int .u64 x.cpu, .int .u64 x.per, .int .i64 x.cgs, .int .u64 x.car, .int .i64 x.own, .int .i64 x.live, .int .u64 x.used, .int .i64 x.ch] 45)).drew) = W5 at hB5 hF5 hL5 hR5 hC5 ⊢
          have a9 := hB5.cell 1
          have af := hB5.frozen 1
          have r0 := hR5.cell 0
          have lh5 := hB5.lt
          have lr5 := hR5.lt
          have HB5 := Lib.hid hB5
          have HF5 := Lib.hid hF5
          have HL5 := Lib.hid hL5
          have HC5 := Lib.hid hC5
          have HSS := Lib.hid hSS
          have HNF := Lib.hid (show h ∉ foot (.slice A9 m cF) from hF5.ty hB5 (by decide))
          obtain ⟨ni, hi0, hz0, hz1, hz2⟩ := info_parts Try.num_info_C
          have hm0 : m ≤ 1000 := hfl
          clear hB5 hF5 hL5 hR5 hC5 hSS
          go_region_law
            (first
              | (refine step_append_rr (xs := []) (l := r.F) (n := m) _ (by rfl) _ _ (by rfl) (by rfl) (by rfl) (Row.nil _ _ _) (HF5.out.drew) (by have := HM.out; simp; omega) (by have := HM.out; simp; omega) ?_; intro A1 c1 w3 hr3 hg3 hf3; simp only [List.nil_append] at hr3; have HX := Lib.hid (rm_mid1 (Chg.refl [] W5).drew hr3 hg3 hf3); have a93 := (HB5.out.chg HX.out.1 (by simp)).cell 1; have r03 := (HX.out.1.cell (p := ⟨w.heap.size, 0, none⟩) lr5 (by simp)).trans r0; have lh3 : h < w3.heap.size := Nat.lt_of_lt_of_le lh5 HX.out.1.size; have lr3 : w.heap.size < w3.heap.size := Nat.lt_of_lt_of_le lr5 HX.out.1.size; clear hr3 hg3 hf3)
              | (refine step_append_rr (xs := []) (l := r.F) (n := m) _ (by rfl) _ _ (by rfl) (by rfl) (by rfl) (Row.nil _ _ _) ((HF5.out.alloc _).drew) (by have := HM.out; simp; omega) (by have := HM.out; simp; omega) ?_; intro A1 c1 w3 hr3 hg3 hf3; simp only [List.nil_append] at hr3; have HX := Lib.hid (rm_mid1 ((Chg.refl [] W5).alloc (.cells #[.int .i64 (k : Nat)] 3)).drew hr3 hg3 hf3); have a93 := (HB5.out.chg HX.out.1 (by simp)).cell 1; have n3 := Lib.hid (show Blk w3 W5.heap.size 3 #[.int .i64 (k : Nat)] from ((Blk.new W5 3 _).drew).same (hg3.block _ (by simp) (by simp [Value.ownBlock]))); have lh3 : h < w3.heap.size := Nat.lt_of_lt_of_le lh5 HX.out.1.size; clear hr3 hg3 hf3)
              | (refine step_append_rr (xs := r.F) (l := [k]) (n := m + 1) _ (by rfl) _ _ (by rfl) (by rfl) (by rfl) (HX.out.2.1.alloc _) (rm_one (Blk.new w3 3 _)) (by have := HM.out; simp; omega) (by have := HM.out; simp; omega) ?_; intro A2 c2 w4 hr4 hg4 hf4; have HY := Lib.hid (rm_mid2 HX.out ((Chg.refl [] w3).alloc _) hr4 hg4 hf4); have y2 := (HB5.out.chg HY.out.1 (by simp)).cell 1; have y3 := (HB5.out.chg HY.out.1 (by simp)).frozen 1; clear hr4 hg4 hf4)
              | (refine step_append_rr (xs := r.F) (l := [k]) (n := m + 1) _ (by rfl) _ _ (by rfl) (by rfl) (by rfl) (HX.out.2.1) (rm_one n3.out) (by have := HM.out; simp; omega) (by have := HM.out; simp; omega) ?_; intro A2 c2 w4 hr4 hg4 hf4; have HY := Lib.hid (rm_mid2 HX.out (Chg.refl [] w3) hr4 hg4 hf4); have y2 := (HB5.out.chg HY.out.1 (by simp)).cell 1; have y3 := (HB5.out.chg HY.out.1 (by simp)).frozen 1; clear hr4 hg4 hf4))
          all_goals
            go_wp2
            go_ret
            refine ⟨rfl, ?_⟩
            rw [HT2.out]
            have hfn : h ∉ foot (.slice A2 (m + 1) c2) := fun hm => by have := HY.out.2.2 h hm; omega
            have hcF : Chg [h] w4 (w4.setCell ⟨h, 1, none⟩ (.slice A2 (m + 1) c2)) := (Chg.refl _ _).setCell (.inl (by simp)) _
            have hhS : h ∈ S := by rw [HSS.out]; simp
            refine ⟨h :: (foot (.slice (some ⟨gl, 0, none⟩) n cl) ++ foot (.slice A2 (m + 1) c2)), ⟨_, _, (HB5.out.chg HY.out.1 (by simp)).set_ 1 (.slice A2 (m + 1) c2), ?_, ?_, rfl⟩, fun k' hk' => ?_, ((HC5.out.then HY.out.1).trans hcF (fun k hk => by simp at hk; subst hk; exact .inl hhS))⟩
            · show Row _ 108 9 (.slice (some ⟨gl, 0, none⟩) n cl) (r.L.set k _).length _
              rw [List.length_set, ← HN.out]
              exact (HL5.out.chg HY.out.1 (fun _ _ h => by cases h)).far (by simpa [foot_some] using hne) _
            · exact HY.out.2.1.far hfn _
            · simp only [List.mem_cons, List.mem_append] at hk'
              rcases hk' with rfl | hk' | hk'
              · exact .inl hhS
              · left; simp [foot_some] at hk'; subst hk'; exact hglS
              · right; exact Nat.le_trans HC5.out.size (HY.out.2.2 _ hk')
end Go.Proofs
end
