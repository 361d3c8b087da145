/-
  P10.1 to P10.3: who can be charged, how often, what is used then, who is tight, and which periods begin, act by act.
-/
import Derived.Test.YtgelpbmjgebnhaaM11
import Derived.Test.YtgelpbmjgebnhaaRows
import Derived.WalkKit
import Derived.Below
import Derived.ChangeSame
import Derived.ProofKit
import Derived.OpenShut
section
namespace Go.Proofs
open Go.RowKit Go.Shelf
set_option linter.unusedVariables false
set_option linter.unusedSimpArgs false

/-- Behind so many acts: both the same, and the refs. -/
def PlayAt (w W : World) (c h M : Nat) (ch : Nat → List (Int × Int)) (V : Value) (rs : List (Int × Int)) (r : RTab) : Prop :=
  Duo w W c h M r r ch ∧ Row W 34 2 V rs.length (refCells rs) ∧ Refs r rs ∧ Pers r
theorem Refs.like {r r' : RTab} {rs : List (Int × Int)} (h : Refs r rs) (hl : Like r r') : Refs r' rs := fun x hx => by
  obtain ⟨k, rfl, a, b⟩ := h x hx
  exact ⟨k, by rw [hl.gen], by rw [hl.len]; exact a, by rw [hl.is]; exact b⟩
theorem MadeAt.play {w W : World} {c h N : Nat} {V : Value} {rs : List (Int × Int)} (H : MadeAt w W c h N V rs) : ∃ r ch, PlayAt w W c h (N + 1) ch V rs r ∧ NoUse r ∧ ((r.pl 0).is = true ∧ (r.pl 0).gen = 1) ∧ N + 1 ≤ 1000 := by
  obtain ⟨S, S2, t, r, ch, hp, h2, h3, h4, h5, h6, h7, h8, h9⟩ := H
  exact ⟨r, ch, ⟨⟨h4, S, t, S2, hp.dm, hp.sim, hp.rf, hp.sim.held, fun k hk => h3 k (List.mem_append_right _ (List.mem_append_left _ hk)), fun k hk => h3 k (List.mem_append_right _ (List.mem_append_right _ hk)), hp.ap⟩, h2, h5, h7⟩, h8, h9, hp.sim.held.m⟩
theorem MadeAt.len {w W : World} {c h N : Nat} {V : Value} {rs : List (Int × Int)} (H : MadeAt w W c h N V rs) : 1 ≤ rs.length ∧ rs.length ≤ N + 1 := by
  obtain ⟨_, _, _, _, _, _, _, _, _, _, hl, _⟩ := H; exact hl
/-- A ref's chain. -/
theorem held_chain {M : Nat} {r : RTab} {ch : Nat → List (Int × Int)} (h : r.Held M ch) {k : Nat} {g : Int} (hk : (r.pl k).is = true) (hg : (r.pl k).gen = g) : Up r.par (k : Nat) g (ch k) ∧ (ch k).length ≤ 1000 ∧ k ≤ 32 := by
  have := h.chs k hk
  have h1 := h.m
  have h2 := is_lt hk
  have h3 := h.n1
  rw [hg] at this
  exact ⟨this.1, by omega, by omega⟩
set_option maxHeartbeats 12800000 in
set_option maxRecDepth 100000 in
theorem plays_any (cpu per : Int) (hcp : 0 ≤ cpu) (hpp : 0 ≤ per) (V1 V2 : Value) (l : List CarvC) (acts : List ActQ) (w : World) (hV1 : Carvs w V1 l) (hV2 : ActsQ w V2 acts) :
    Calls Try.prog 3 #[.int .u64 cpu, .int .u64 per, V1, V2] w fun e w' => e = .returned (.bool true) ∧ Chg [] w w' := by
  have HM := Lib.hid (made_any cpu per hcp hpp V1 l w w hV1 (Chg.refl _ _))
  have HK := Lib.hid known_any
  obtain ⟨A2, c2, rfl⟩ := hV2.open_
  obtain ⟨m, hm⟩ : ∃ m, m = acts.length := ⟨_, rfl⟩
  rw [← hm] at hV2 ⊢
  have HV := Lib.hid hV2
  clear hV1 hV2 hm
  go_enter Try.func3, Try.ntmps3
  go_wp2_with (fail)
  refine HM.out.mono ?_
  rintro e w1 (⟨rfl, hc⟩ | ⟨c, h, N, V, rs, rfl, hN, hM⟩)
  · have HC := Lib.hid hc
    clear hc
    go_wp2_with (go_at_call 9; refine (HK.out _).mono ?_; rintro e w2 ⟨rfl, hc⟩)
    go_ret
    exact ⟨rfl, HC.out.then hc⟩
  by_cases hbig : 100 < (m : Int)
  · have d1 : decide ((m : Int) > 100) = true := by simpa using hbig
    have d2 : decide (100 < (m : Int)) = true := by simpa using hbig
    have HC := Lib.hid hM.chg
    clear hM
    go_wp2_with (go_at_call 9; refine (HK.out _).mono ?_; rintro e w2 ⟨rfl, hc⟩)
    go_ret
    exact ⟨rfl, HC.out.then hc⟩
  have d1 : decide ((m : Int) > 100) = false := by simpa using hbig
  have d2 : decide (100 < (m : Int)) = false := by simpa using hbig
  obtain ⟨r0, ch, hP, _, _, hN9⟩ := hM.play
  obtain ⟨A, cc, rfl, _⟩ := hP.2.1.val
  have hlen := hM.len
  have HP := Lib.hid hP
  obtain ⟨M, hMM⟩ : ∃ M, M = N + 1 := ⟨_, rfl⟩
  rw [← hMM] at HP hN9
  have hn1 : 1 ≤ rs.length := hlen.1
  have hnb : rs.length ≤ 1000 := by have := hlen.2; omega
  clear hM hP hlen hMM hN
  go_wp2
  go_loopg [13] m (fun gh iv wr => ∃ (j : Nat) (r : RTab), j + gh = m ∧ iv = .int .i64 j ∧ Hid (PlayAt w wr c h M ch (.slice A rs.length cc) rs r))
  case atStart => exact ⟨0, r0, by omega, rfl, HP⟩
  case round =>
    obtain ⟨j, r, hj, rfl, HH⟩ := hrel
    by_cases hlt : j < m
    · have j0 : (0 : Int) ≤ (j : Int) := by omega
      have j1 : (j : Int) < (m : Int) := by omega
      obtain ⟨hD, hrow, hrefs, hper⟩ := HH.out
      have hcw := hD.chg
      obtain ⟨bI, oI, a, hA, hat, hfit, hbI, hcells⟩ := HV.out.is_ hlt
      subst hA
      obtain ⟨kind, at_, nn⟩ := a
      obtain ⟨a0, a1, n0, n1⟩ := hfit
      simp only at a0 a1 n0 n1
      have HCL := Lib.hid (fun W (hW : Chg [] w W) => (⟨hcells W hW 0 _ rfl, hcells W hW 1 _ rfl, hcells W hW 2 _ rfl⟩ : W.cell? ⟨bI, oI + j * 3, none⟩ = some (.int .i64 kind) ∧ W.cell? ⟨bI, oI + j * 3 + 1, none⟩ = some (.int .i64 at_) ∧ W.cell? ⟨bI, oI + j * 3 + 2, none⟩ = some (.int .u64 nn)))
      obtain ⟨i0, i1, i2⟩ := HCL.out wr hcw
      have hbw : bI < wr.heap.size := by have := hcw.size; omega
      obtain ⟨k, hkn, ek, ek'⟩ := idx_of at_ hn1 hnb
      have k0 : (0 : Int) ≤ (k : Int) := by omega
      have k1 : (k : Int) < (rs.length : Int) := by omega
      obtain ⟨y, hy⟩ : ∃ y, rs[k]? = some y := ⟨_, List.getElem?_eq_getElem hkn⟩
      obtain ⟨kk, rfl, hkl, hkis⟩ := hrefs y (List.mem_of_getElem? hy)
      obtain ⟨gr, cr, hv, hfo, _, hcell, _, lgr2⟩ := hrow.form (by omega)
      simp only [Value.slice.injEq] at hv
      obtain ⟨rfl, h91, h92⟩ := hv
      clear h91 h92
      obtain ⟨x0, x1⟩ := refCells_at hy
      have y0 := hcell _ _ x0
      have y1 := hcell _ _ x1
      have HKI := Lib.hid hkis
      obtain ⟨G, hG⟩ : ∃ G, G = (r.pl kk).gen := ⟨_, rfl⟩
      have HG := Lib.hid hG.symm
      simp only at y0 y1
      rw [← hG] at y1
      have hk32 := (held_chain hD.heldc hkis hG.symm).2.2
      -- the contracts, of whatever is like r
      have HUP := Lib.hid (fun (r' : RTab) (hl : Like r r') (hh : r'.Held M ch) => held_chain hh (k := kk) (g := G) (by rw [hl.is]; exact hkis) (by rw [hl.gen]; exact hG.symm))
      have HPER := Lib.hid (fun (r' : RTab) (hl : Like r r') => hl.pers hper)
      have HDU := Lib.hid hD
      have HROW := Lib.hid hrow
      have HREFS := Lib.hid hrefs
      have HBXA := Lib.hid (Blk.new wr 32 #[.int .i64 kind, .int .i64 at_, .int .u64 nn])
      have HBXB := Lib.hid (Blk.at' (wr.alloc (.cells #[.int .i64 kind, .int .i64 at_, .int .u64 nn] 32)) 34 #[.int .i64 (kk : Nat), .int .u64 G] (n := wr.heap.size + 1) (by simp))
      have hne1 : ¬ (gr = wr.heap.size) := by omega
      have hne2 : ¬ (wr.heap.size = gr) := by omega
      clear hD hrow hrefs hper hcw hy hkis hfo hcell x0 x1 hG hkl HH hcells hat
      have HLAY := Lib.hid (fun W (hS : Stays ((wr.alloc (.cells #[.int .i64 kind, .int .i64 at_, .int .u64 nn] 32)).alloc (.cells #[.int .i64 (kk : Nat), .int .u64 G] 34)) W) => (⟨(hS.blk (HBXA.out.alloc (.cells #[.int .i64 (kk : Nat), .int .u64 G] 34))).cell 2, (hS.blk HBXB.out).cell 0, (hS.blk HBXB.out).cell 1, (hS.blk HBXB.out).lt, Nat.lt_of_succ_lt (hS.blk HBXB.out).lt⟩ : W.cell? ⟨wr.heap.size, 2, none⟩ = some (.int .u64 nn) ∧ W.cell? ⟨wr.heap.size + 1, 0, none⟩ = some (.int .i64 (kk : Nat)) ∧ W.cell? ⟨wr.heap.size + 1, 1, none⟩ = some (.int .u64 G) ∧ wr.heap.size + 1 < W.heap.size ∧ wr.heap.size < W.heap.size))
      by_cases hk1 : kind = 1
      · have e1 : (kind == 1) = true := by simpa using hk1
        have HUX := Lib.hid (HUP.out r (Like.refl r) HDU.out.heldd)
        have HCC := Lib.hid (fun W (rd : RTab) (hd : Duo w W c h M r rd ch) => hd.charge HUX.out.1 HUX.out.2.1 (by omega) (by omega))
        have HDD := Lib.hid (fun W (rc : RTab) (hd : Duo w W c h M rc r ch) => hd.rcharge HUX.out.1 HUX.out.2.1)
        have HLKE := Lib.hid (chargeR_like (M := M) (ch := ch) HUX.out.1)
        obtain ⟨r2, hr2⟩ : ∃ r2, r2 = chargeR (ch kk) r := ⟨_, rfl⟩
        obtain ⟨lb0, hlb0⟩ : ∃ lb0, lb0 = decide (0 < leftR r (ch kk)) := ⟨_, rfl⟩
        rw [← hr2, ← hlb0] at HCC HDD
        rw [← hr2] at HLKE
        have hqq : (lb0 == lb0) = true := beq_self_eq_true lb0
        clear hr2 hlb0 hk1
        go_wp2
        go_region_held3 (fun w' => w'.cell? ⟨wr.heap.size + 1, 0, none⟩ = some (.int .i64 (kk : Nat)) ∧ w'.cell? ⟨wr.heap.size + 1, 1, none⟩ = some (.int .u64 G))
          (first | (go_keep; done))
          (first
            | (go_at_call 10; refine (HCC.out _ _ HB.out).mono ?_; rintro e wz ⟨rfl, hd, hs⟩; have HD := Lib.hid hd; have HST := Lib.hid (HSB.out.trans hs); obtain ⟨t0, t1, t2, t3, t4⟩ := HLAY.out _ HST.out; clear hd hs)
            | (go_at_call 11; refine (HDD.out _ _ HA.out).mono ?_; rintro e wz ⟨rfl, hd, hs⟩; have HD := Lib.hid hd; have HST := Lib.hid (HSA.out.trans hs); obtain ⟨t0, t1, t2, t3, t4⟩ := HLAY.out _ HST.out; clear hd hs)
            | (go_at_call 10; refine (HCC.out _ _ (HDU.out.quiet ((((Chg.refl [] wr).alloc (.cells #[.int .i64 kind, .int .i64 at_, .int .u64 nn] 32)).alloc (.cells #[.int .i64 (kk : Nat), .int .u64 G] 34))).drew)).mono ?_; rintro e wa ⟨rfl, hd, hs⟩; have HA := Lib.hid hd; have HSA : Hid (Stays ((wr.alloc (.cells #[.int .i64 kind, .int .i64 at_, .int .u64 nn] 32)).alloc (.cells #[.int .i64 (kk : Nat), .int .u64 G] 34)) wa) := Lib.hid ((Stays.quiet ((Chg.refl [] _).drew)).trans hs); obtain ⟨t0, t1, t2, t3, t4⟩ := HLAY.out _ HSA.out; clear hd hs)
            | (go_at_call 11; refine (HDD.out _ _ (HDU.out.quiet ((((Chg.refl [] wr).alloc (.cells #[.int .i64 kind, .int .i64 at_, .int .u64 nn] 32)).alloc (.cells #[.int .i64 (kk : Nat), .int .u64 G] 34))).drew)).mono ?_; rintro e wa ⟨rfl, hd, hs⟩; have HB := Lib.hid hd; have HSB : Hid (Stays ((wr.alloc (.cells #[.int .i64 kind, .int .i64 at_, .int .u64 nn] 32)).alloc (.cells #[.int .i64 (kk : Nat), .int .u64 G] 34)) wa) := Lib.hid ((Stays.quiet ((Chg.refl [] _).drew)).trans hs); obtain ⟨t0, t1, t2, t3, t4⟩ := HLAY.out _ HSB.out; clear hd hs))
        all_goals have HL := Lib.hid HLKE.out
        all_goals clear HCC HDD HLKE
        all_goals try clear HA HSA
        all_goals try clear HB HSB
        all_goals

          have HUT := Lib.hid (HUP.out r2 HL.out HD.out.heldd)
          have HPT := Lib.hid (HPER.out r2 HL.out)
          have HRLF := Lib.hid (fun W (hW : Chg [] wz W) => (HD.out.quiet hW).rleft HUT.out.1 HUT.out.2.1)
          have HTI := Lib.hid (fun W (hW : Chg [] wz W) => (HD.out.quiet hW).cat.tight HUT.out.1 (by omega) (by omega))
          have HRTI := Lib.hid (fun W (hW : Chg [] wz W) => (HD.out.quiet hW).rtight HUT.out.1 HUT.out.2.1)
          have HNX := Lib.hid (fun W (hW : Chg [] wz W) => (HD.out.quiet hW).cat.next HPT.out n0 n1)
          have HRNX := Lib.hid (fun W (hW : Chg [] wz W) => (HD.out.quiet hW).rnext HPT.out n0 n1)
          have HLF := Lib.hid (fun W (hW : Chg [] wz W) => (HD.out.quiet hW).cat.left HUT.out.1 HUT.out.2.1 (by omega) (by omega))
          have HCAN := Lib.hid (fun W (hW : Chg [] wz W) => (HD.out.quiet hW).cat.can HUT.out.1 HUT.out.2.1 (by omega) (by omega))
          have HAL := Lib.hid (fun W (hW : Chg [] wz W) => (HD.out.quiet hW).cat.all)
          have HRAL := Lib.hid (fun W (hW : Chg [] wz W) => (HD.out.quiet hW).rall)
          have HALN := Lib.hid (show (r2.all ch).length ≤ 1000 by have := all_len r2 ch; have := HD.out.heldd.n1; omega)
          obtain ⟨lf, hlf⟩ : ∃ lf, lf = leftR r2 (ch kk) := ⟨_, rfl⟩
          obtain ⟨ti, hti⟩ : ∃ ti, ti = tightO r2 (ch kk) := ⟨_, rfl⟩
          obtain ⟨nx, hnx⟩ : ∃ nx, nx = nextR r2 ch nn := ⟨_, rfl⟩
          obtain ⟨al, hal⟩ : ∃ al, al = r2.all ch := ⟨_, rfl⟩
          rw [← hlf] at HRLF HLF HCAN
          rw [← hti] at HTI HRTI
          rw [← hnx] at HNX HRNX
          rw [← hal] at HAL HRAL HALN
          obtain ⟨tx, htx⟩ : ∃ tx, tx = ti.getD (0, 0) := ⟨_, rfl⟩
          obtain ⟨tb, htb⟩ : ∃ tb, tb = ti.isSome := ⟨_, rfl⟩
          obtain ⟨nv, hnv⟩ : ∃ nv, nv = oInt nx := ⟨_, rfl⟩
          obtain ⟨nb, hnb9⟩ : ∃ nb, nb = nx.isSome := ⟨_, rfl⟩
          have HTI : Hid (∀ W, Chg [] wz W → Calls Try.prog 18 #[ptr c, .agg #[.int .i64 (kk : Nat), .int .u64 G]] W fun e W' => e = .returned (.tuple #[.agg #[.int .i64 tx.1, .int .u64 tx.2], .bool tb]) ∧ Chg [] W W') := by rw [htx, htb]; exact HTI
          have HRTI : Hid (∀ W, Chg [] wz W → Calls Try.prog 19 #[ptr h, .agg #[.int .i64 (kk : Nat), .int .u64 G]] W fun e W' => e = .returned (.tuple #[.agg #[.int .i64 tx.1, .int .u64 tx.2], .bool tb]) ∧ Chg [] W W') := by rw [htx, htb]; exact HRTI
          rw [← hnv, ← hnb9] at HNX HRNX
          have hq1 : (lf == lf) = true := beq_self_eq_true lf
          have hq2 : (nv == nv) = true := beq_self_eq_true nv
          have hq3 : (tb == tb) = true := beq_self_eq_true tb
          have hq4 : (nb == nb) = true := beq_self_eq_true nb
          obtain ⟨lb, hlb⟩ : ∃ lb, lb = decide (0 < lf) := ⟨_, rfl⟩
          have hq5 : (lb == lb) = true := beq_self_eq_true lb
          have hq6 : decide (lf > 0) = lb := hlb.symm
          have hq7 : decide (0 < lf) = lb := hlb.symm
          rw [← hlb] at HCAN
          have hneq := fun W => neq_refs tx.1 tx.2 tx.1 tx.2 W
          have hq8 : (tx.1 == tx.1 && tx.2 == tx.2) = true := by simp
          rw [hq8] at hneq
          obtain ⟨ta, tc⟩ := tx
          simp only at hneq HTI HRTI
          obtain ⟨t0, t1, t2, t3, t4⟩ := HLAY.out _ HST.out
          clear hlf hti hnx hal htx htb hnv hnb9 hlb hq8
          go_wp2_with (first
            | (go_at_call 17; refine (HRLF.out _ (Chg.refl _ _)).mono ?_; rintro e v1 ⟨rfl, hc⟩; have HC1 := Lib.hid hc; have HS1 := Lib.hid (HST.out.trans (Stays.quiet hc)); obtain ⟨t0, t1, t2, t3, t4⟩ := HLAY.out _ HS1.out; clear hc)
            | (go_at_call 18; refine (HTI.out _ HC1.out).mono ?_; rintro e v2 ⟨rfl, hc⟩; have HC2 := Lib.hid (HC1.out.then hc); have HS2 := Lib.hid (HST.out.trans (Stays.quiet HC2.out)); obtain ⟨t0, t1, t2, t3, t4⟩ := HLAY.out _ HS2.out; clear hc)
            | (go_at_call 19; refine (HRTI.out _ (HC2.out.alloc (.cells #[.int .i64 ta, .int .u64 tc] 34))).mono ?_; rintro e v3 ⟨rfl, hc⟩; have HB17 := Lib.hid ((Blk.new v2 34 #[.int .i64 ta, .int .u64 tc]).chg hc (by simp)); have HC3 := Lib.hid ((HC2.out.alloc (.cells #[.int .i64 ta, .int .u64 tc] 34)).then hc); have HS3 := Lib.hid (HST.out.trans (Stays.quiet HC3.out)); obtain ⟨t0, t1, t2, t3, t4⟩ := HLAY.out _ HS3.out; clear hc)
            | (go_at_call 20; refine (HNX.out _ (HC3.out.alloc (.cells #[.int .i64 ta, .int .u64 tc] 34))).mono ?_; rintro e v4 ⟨rfl, hc⟩; have HB19 := Lib.hid ((Blk.new v3 34 #[.int .i64 ta, .int .u64 tc]).chg hc (by simp)); have HB17 := Lib.hid ((HB17.out.alloc (.cells #[.int .i64 ta, .int .u64 tc] 34)).chg hc (by simp)); have HC4 := Lib.hid ((HC3.out.alloc (.cells #[.int .i64 ta, .int .u64 tc] 34)).then hc); have HS4 := Lib.hid (HST.out.trans (Stays.quiet HC4.out)); obtain ⟨t0, t1, t2, t3, t4⟩ := HLAY.out _ HS4.out; clear hc)
            | (go_at_call 21; refine (HRNX.out _ HC4.out).mono ?_; rintro e v5 ⟨rfl, hc⟩; have HB19 := Lib.hid (HB19.out.chg hc (by simp)); have HB17 := Lib.hid (HB17.out.chg hc (by simp)); have HC5 := Lib.hid (HC4.out.then hc); have HS5 := Lib.hid (HST.out.trans (Stays.quiet HC5.out)); obtain ⟨t0, t1, t2, t3, t4⟩ := HLAY.out _ HS5.out; clear hc)
            | (go_at_call 22; refine (HLF.out _ HC5.out).mono ?_; rintro e v6 ⟨rfl, hc⟩; have HB19 := Lib.hid (HB19.out.chg hc (by simp)); have HB17 := Lib.hid (HB17.out.chg hc (by simp)); have HC6 := Lib.hid (HC5.out.then hc); have HS6 := Lib.hid (HST.out.trans (Stays.quiet HC6.out)); obtain ⟨t0, t1, t2, t3, t4⟩ := HLAY.out _ HS6.out; clear hc)
            | (go_at_call 23; refine (HCAN.out _ HC6.out).mono ?_; rintro e v7 ⟨rfl, hc⟩; have hb19 := HB19.out.chg hc (by simp); have hb17 := HB17.out.chg hc (by simp); have z0 := hb19.cell 0; have z1 := hb19.cell 1; have z2 := hb17.cell 0; have z3 := hb17.cell 1; have z4 := hb19.lt; have z5 := hb17.lt; have HC7 := Lib.hid (HC6.out.then hc); clear hc hb19 hb17)
            | (go_at_call 25; refine (HAL.out _ HC7.out).mono ?_; rintro e v8 ⟨A8, c8, rfl, hr, _, hc⟩; have HR8 := Lib.hid hr; have HC8 := Lib.hid (HC7.out.then hc); clear hr hc)
            | (go_at_call 26; refine (HRAL.out _ HC8.out).mono ?_; rintro e v9 ⟨A9, c9, rfl, hr, _, hc⟩; have HR9 := Lib.hid hr; have HR89 := Lib.hid (HR8.out.chg hc (fun _ _ h => by cases h)); have HC9 := Lib.hid (HC8.out.then hc); clear hr hc)
            | (go_at_call 24; refine (rSame_any HR89.out HR9.out HALN.out HALN.out).mono ?_; rintro e v10 ⟨rfl, hc⟩; have ed : decide (al = al) = true := (by simp); simp only [ed]; have HC10 := Lib.hid (HC9.out.then hc); clear hc))
          go_roundg (m - j - 1)
          case measure => omega
          case rel => exact ⟨j + 1, r2, by omega, by go_num, Lib.hid ⟨HD.out.quiet HC10.out, (HST.out.trans (Stays.quiet HC10.out)).row ((HROW.out.alloc _).alloc _), HREFS.out.like HL.out, HPT.out⟩⟩

      have e1 : (kind == 1) = false := by simpa using hk1
      by_cases hk2 : kind = 2
      · have e2 : (kind == 2) = true := by simpa using hk2
        have HUA := Lib.hid (HDU.out.quiet ((((Chg.refl [] wr).alloc (.cells #[.int .i64 kind, .int .i64 at_, .int .u64 nn] 32)).alloc (.cells #[.int .i64 (kk : Nat), .int .u64 G] 34))) |>.use HKI.out HG.out n0 n1)
        have HUB := Lib.hid (fun W (hd : Duo w W c h M (r.useN kk nn) r ch) => hd.ruse HKI.out HG.out n0 n1)
        have HLKE := Lib.hid (show Like r (r.useN kk nn) from Like.set1 (is_lt HKI.out) (r.pl kk).own (addS (r.pl kk).used nn))
        obtain ⟨r2, hr2⟩ : ∃ r2, r2 = r.useN kk nn := ⟨_, rfl⟩
        rw [← hr2] at HUA HUB HLKE
        clear hr2 hk1 hk2
        have HL := Lib.hid HLKE.out
        go_wp2_with (first
          | (go_at_call 12; refine HUA.out.mono ?_; rintro e wa ⟨rfl, hd, hs⟩; have HA := Lib.hid hd; have HSA := Lib.hid hs; obtain ⟨t0, t1, t2, t3, t4⟩ := HLAY.out _ HSA.out; clear hd hs)
          | (go_at_call 13; refine (HUB.out _ HA.out).mono ?_; rintro e wz ⟨rfl, hd, hs⟩; have HD := Lib.hid hd; have HST := Lib.hid (HSA.out.trans hs); obtain ⟨t0, t1, t2, t3, t4⟩ := HLAY.out _ HST.out; clear hd hs))
        clear HUA HUB HLKE HA HSA

        have HUT := Lib.hid (HUP.out r2 HL.out HD.out.heldd)
        have HPT := Lib.hid (HPER.out r2 HL.out)
        have HRLF := Lib.hid (fun W (hW : Chg [] wz W) => (HD.out.quiet hW).rleft HUT.out.1 HUT.out.2.1)
        have HTI := Lib.hid (fun W (hW : Chg [] wz W) => (HD.out.quiet hW).cat.tight HUT.out.1 (by omega) (by omega))
        have HRTI := Lib.hid (fun W (hW : Chg [] wz W) => (HD.out.quiet hW).rtight HUT.out.1 HUT.out.2.1)
        have HNX := Lib.hid (fun W (hW : Chg [] wz W) => (HD.out.quiet hW).cat.next HPT.out n0 n1)
        have HRNX := Lib.hid (fun W (hW : Chg [] wz W) => (HD.out.quiet hW).rnext HPT.out n0 n1)
        have HLF := Lib.hid (fun W (hW : Chg [] wz W) => (HD.out.quiet hW).cat.left HUT.out.1 HUT.out.2.1 (by omega) (by omega))
        have HCAN := Lib.hid (fun W (hW : Chg [] wz W) => (HD.out.quiet hW).cat.can HUT.out.1 HUT.out.2.1 (by omega) (by omega))
        have HAL := Lib.hid (fun W (hW : Chg [] wz W) => (HD.out.quiet hW).cat.all)
        have HRAL := Lib.hid (fun W (hW : Chg [] wz W) => (HD.out.quiet hW).rall)
        have HALN := Lib.hid (show (r2.all ch).length ≤ 1000 by have := all_len r2 ch; have := HD.out.heldd.n1; omega)
        obtain ⟨lf, hlf⟩ : ∃ lf, lf = leftR r2 (ch kk) := ⟨_, rfl⟩
        obtain ⟨ti, hti⟩ : ∃ ti, ti = tightO r2 (ch kk) := ⟨_, rfl⟩
        obtain ⟨nx, hnx⟩ : ∃ nx, nx = nextR r2 ch nn := ⟨_, rfl⟩
        obtain ⟨al, hal⟩ : ∃ al, al = r2.all ch := ⟨_, rfl⟩
        rw [← hlf] at HRLF HLF HCAN
        rw [← hti] at HTI HRTI
        rw [← hnx] at HNX HRNX
        rw [← hal] at HAL HRAL HALN
        obtain ⟨tx, htx⟩ : ∃ tx, tx = ti.getD (0, 0) := ⟨_, rfl⟩
        obtain ⟨tb, htb⟩ : ∃ tb, tb = ti.isSome := ⟨_, rfl⟩
        obtain ⟨nv, hnv⟩ : ∃ nv, nv = oInt nx := ⟨_, rfl⟩
        obtain ⟨nb, hnb9⟩ : ∃ nb, nb = nx.isSome := ⟨_, rfl⟩
        have HTI : Hid (∀ W, Chg [] wz W → Calls Try.prog 18 #[ptr c, .agg #[.int .i64 (kk : Nat), .int .u64 G]] W fun e W' => e = .returned (.tuple #[.agg #[.int .i64 tx.1, .int .u64 tx.2], .bool tb]) ∧ Chg [] W W') := by rw [htx, htb]; exact HTI
        have HRTI : Hid (∀ W, Chg [] wz W → Calls Try.prog 19 #[ptr h, .agg #[.int .i64 (kk : Nat), .int .u64 G]] W fun e W' => e = .returned (.tuple #[.agg #[.int .i64 tx.1, .int .u64 tx.2], .bool tb]) ∧ Chg [] W W') := by rw [htx, htb]; exact HRTI
        rw [← hnv, ← hnb9] at HNX HRNX
        have hq1 : (lf == lf) = true := beq_self_eq_true lf
        have hq2 : (nv == nv) = true := beq_self_eq_true nv
        have hq3 : (tb == tb) = true := beq_self_eq_true tb
        have hq4 : (nb == nb) = true := beq_self_eq_true nb
        obtain ⟨lb, hlb⟩ : ∃ lb, lb = decide (0 < lf) := ⟨_, rfl⟩
        have hq5 : (lb == lb) = true := beq_self_eq_true lb
        have hq6 : decide (lf > 0) = lb := hlb.symm
        have hq7 : decide (0 < lf) = lb := hlb.symm
        rw [← hlb] at HCAN
        have hneq := fun W => neq_refs tx.1 tx.2 tx.1 tx.2 W
        have hq8 : (tx.1 == tx.1 && tx.2 == tx.2) = true := by simp
        rw [hq8] at hneq
        obtain ⟨ta, tc⟩ := tx
        simp only at hneq HTI HRTI
        obtain ⟨t0, t1, t2, t3, t4⟩ := HLAY.out _ HST.out
        clear hlf hti hnx hal htx htb hnv hnb9 hlb hq8
        go_wp2_with (first
          | (go_at_call 17; refine (HRLF.out _ (Chg.refl _ _)).mono ?_; rintro e v1 ⟨rfl, hc⟩; have HC1 := Lib.hid hc; have HS1 := Lib.hid (HST.out.trans (Stays.quiet hc)); obtain ⟨t0, t1, t2, t3, t4⟩ := HLAY.out _ HS1.out; clear hc)
          | (go_at_call 18; refine (HTI.out _ HC1.out).mono ?_; rintro e v2 ⟨rfl, hc⟩; have HC2 := Lib.hid (HC1.out.then hc); have HS2 := Lib.hid (HST.out.trans (Stays.quiet HC2.out)); obtain ⟨t0, t1, t2, t3, t4⟩ := HLAY.out _ HS2.out; clear hc)
          | (go_at_call 19; refine (HRTI.out _ (HC2.out.alloc (.cells #[.int .i64 ta, .int .u64 tc] 34))).mono ?_; rintro e v3 ⟨rfl, hc⟩; have HB17 := Lib.hid ((Blk.new v2 34 #[.int .i64 ta, .int .u64 tc]).chg hc (by simp)); have HC3 := Lib.hid ((HC2.out.alloc (.cells #[.int .i64 ta, .int .u64 tc] 34)).then hc); have HS3 := Lib.hid (HST.out.trans (Stays.quiet HC3.out)); obtain ⟨t0, t1, t2, t3, t4⟩ := HLAY.out _ HS3.out; clear hc)
          | (go_at_call 20; refine (HNX.out _ (HC3.out.alloc (.cells #[.int .i64 ta, .int .u64 tc] 34))).mono ?_; rintro e v4 ⟨rfl, hc⟩; have HB19 := Lib.hid ((Blk.new v3 34 #[.int .i64 ta, .int .u64 tc]).chg hc (by simp)); have HB17 := Lib.hid ((HB17.out.alloc (.cells #[.int .i64 ta, .int .u64 tc] 34)).chg hc (by simp)); have HC4 := Lib.hid ((HC3.out.alloc (.cells #[.int .i64 ta, .int .u64 tc] 34)).then hc); have HS4 := Lib.hid (HST.out.trans (Stays.quiet HC4.out)); obtain ⟨t0, t1, t2, t3, t4⟩ := HLAY.out _ HS4.out; clear hc)
          | (go_at_call 21; refine (HRNX.out _ HC4.out).mono ?_; rintro e v5 ⟨rfl, hc⟩; have HB19 := Lib.hid (HB19.out.chg hc (by simp)); have HB17 := Lib.hid (HB17.out.chg hc (by simp)); have HC5 := Lib.hid (HC4.out.then hc); have HS5 := Lib.hid (HST.out.trans (Stays.quiet HC5.out)); obtain ⟨t0, t1, t2, t3, t4⟩ := HLAY.out _ HS5.out; clear hc)
          | (go_at_call 22; refine (HLF.out _ HC5.out).mono ?_; rintro e v6 ⟨rfl, hc⟩; have HB19 := Lib.hid (HB19.out.chg hc (by simp)); have HB17 := Lib.hid (HB17.out.chg hc (by simp)); have HC6 := Lib.hid (HC5.out.then hc); have HS6 := Lib.hid (HST.out.trans (Stays.quiet HC6.out)); obtain ⟨t0, t1, t2, t3, t4⟩ := HLAY.out _ HS6.out; clear hc)
          | (go_at_call 23; refine (HCAN.out _ HC6.out).mono ?_; rintro e v7 ⟨rfl, hc⟩; have hb19 := HB19.out.chg hc (by simp); have hb17 := HB17.out.chg hc (by simp); have z0 := hb19.cell 0; have z1 := hb19.cell 1; have z2 := hb17.cell 0; have z3 := hb17.cell 1; have z4 := hb19.lt; have z5 := hb17.lt; have HC7 := Lib.hid (HC6.out.then hc); clear hc hb19 hb17)
          | (go_at_call 25; refine (HAL.out _ HC7.out).mono ?_; rintro e v8 ⟨A8, c8, rfl, hr, _, hc⟩; have HR8 := Lib.hid hr; have HC8 := Lib.hid (HC7.out.then hc); clear hr hc)
          | (go_at_call 26; refine (HRAL.out _ HC8.out).mono ?_; rintro e v9 ⟨A9, c9, rfl, hr, _, hc⟩; have HR9 := Lib.hid hr; have HR89 := Lib.hid (HR8.out.chg hc (fun _ _ h => by cases h)); have HC9 := Lib.hid (HC8.out.then hc); clear hr hc)
          | (go_at_call 24; refine (rSame_any HR89.out HR9.out HALN.out HALN.out).mono ?_; rintro e v10 ⟨rfl, hc⟩; have ed : decide (al = al) = true := (by simp); simp only [ed]; have HC10 := Lib.hid (HC9.out.then hc); clear hc))
        go_roundg (m - j - 1)
        case measure => omega
        case rel => exact ⟨j + 1, r2, by omega, by go_num, Lib.hid ⟨HD.out.quiet HC10.out, (HST.out.trans (Stays.quiet HC10.out)).row ((HROW.out.alloc _).alloc _), HREFS.out.like HL.out, HPT.out⟩⟩

      have e2 : (kind == 2) = false := by simpa using hk2
      by_cases hk3 : kind = 3
      · have e3 : (kind == 3) = true := by simpa using hk3
        have HPX := Lib.hid (HPER.out r (Like.refl r))
        have HCC := Lib.hid (fun W (rd : RTab) (hd : Duo w W c h M r rd ch) => hd.reset HPX.out n0 n1)
        have HDD := Lib.hid (fun W (rc : RTab) (hd : Duo w W c h M rc r ch) => hd.rreset HPX.out n0 n1)
        have HLKE := Lib.hid (resetR_like (r := r) (ch := ch) nn)
        have HBGN := Lib.hid (show (begunL nn (r.all ch)).length ≤ 1000 by have := begunL_len nn (r.all ch); have := all_len r ch; have := HDU.out.heldd.n1; omega)
        obtain ⟨r2, hr2⟩ : ∃ r2, r2 = resetR r ch nn := ⟨_, rfl⟩
        obtain ⟨bg, hbg⟩ : ∃ bg, bg = begunL nn (r.all ch) := ⟨_, rfl⟩
        rw [← hr2, ← hbg] at HCC HDD
        rw [← hr2] at HLKE
        rw [← hbg] at HBGN
        clear hr2 hbg hk1 hk2 hk3
        go_wp2
        go_region_held3 (fun w' => w'.cell? ⟨wr.heap.size, 2, none⟩ = some (.int .u64 nn))
          (first | (go_keep; done))
          (first
            | (go_at_call 14; refine (rsameR_any HRC.out HRD.out HBGN.out HBGN.out).mono ?_; rintro e wz ⟨rfl, hc⟩; have ed : decide (bg = bg) = true := (by simp); simp only [ed]; have HD := Lib.hid (HDX.out.quiet hc); have HST := Lib.hid (HSX.out.trans (Stays.quiet hc)); obtain ⟨t0, t1, t2, t3, t4⟩ := HLAY.out _ HST.out; clear hc)
            | (go_at_call 15; refine (HCC.out _ _ HB.out).mono ?_; rintro e wx ⟨A5, c5, rfl, hr, hd, hs⟩; have HDX := Lib.hid hd; have HSX := Lib.hid (HSB.out.trans hs); have HRC := Lib.hid hr; have HRD := Lib.hid (hs.row HRB.out); obtain ⟨t0, t1, t2, t3, t4⟩ := HLAY.out _ HSX.out; clear hr hd hs)
            | (go_at_call 16; refine (HDD.out _ _ HA.out).mono ?_; rintro e wx ⟨A6, c6, rfl, hr, hd, hs⟩; have HDX := Lib.hid hd; have HSX := Lib.hid (HSA.out.trans hs); have HRD := Lib.hid hr; have HRC := Lib.hid (hs.row HRA.out); obtain ⟨t0, t1, t2, t3, t4⟩ := HLAY.out _ HSX.out; clear hr hd hs)
            | (go_at_call 15; refine (HCC.out _ _ (HDU.out.quiet ((((Chg.refl [] wr).alloc (.cells #[.int .i64 kind, .int .i64 at_, .int .u64 nn] 32)).alloc (.cells #[.int .i64 (kk : Nat), .int .u64 G] 34))).drew)).mono ?_; rintro e wa ⟨A5, c5, rfl, hr, hd, hs⟩; have HA := Lib.hid hd; have HRA := Lib.hid hr; have HSA : Hid (Stays ((wr.alloc (.cells #[.int .i64 kind, .int .i64 at_, .int .u64 nn] 32)).alloc (.cells #[.int .i64 (kk : Nat), .int .u64 G] 34)) wa) := Lib.hid ((Stays.quiet ((Chg.refl [] _).drew)).trans hs); obtain ⟨t0, t1, t2, t3, t4⟩ := HLAY.out _ HSA.out; clear hr hd hs)
            | (go_at_call 16; refine (HDD.out _ _ (HDU.out.quiet ((((Chg.refl [] wr).alloc (.cells #[.int .i64 kind, .int .i64 at_, .int .u64 nn] 32)).alloc (.cells #[.int .i64 (kk : Nat), .int .u64 G] 34))).drew)).mono ?_; rintro e wa ⟨A6, c6, rfl, hr, hd, hs⟩; have HB := Lib.hid hd; have HRB := Lib.hid hr; have HSB : Hid (Stays ((wr.alloc (.cells #[.int .i64 kind, .int .i64 at_, .int .u64 nn] 32)).alloc (.cells #[.int .i64 (kk : Nat), .int .u64 G] 34)) wa) := Lib.hid ((Stays.quiet ((Chg.refl [] _).drew)).trans hs); obtain ⟨t0, t1, t2, t3, t4⟩ := HLAY.out _ HSB.out; clear hr hd hs))
        all_goals have HL := Lib.hid HLKE.out
        all_goals clear HCC HDD HLKE
        all_goals try clear HA HSA HRA
        all_goals try clear HB HSB HRB
        all_goals

          have HUT := Lib.hid (HUP.out r2 HL.out HD.out.heldd)
          have HPT := Lib.hid (HPER.out r2 HL.out)
          have HRLF := Lib.hid (fun W (hW : Chg [] wz W) => (HD.out.quiet hW).rleft HUT.out.1 HUT.out.2.1)
          have HTI := Lib.hid (fun W (hW : Chg [] wz W) => (HD.out.quiet hW).cat.tight HUT.out.1 (by omega) (by omega))
          have HRTI := Lib.hid (fun W (hW : Chg [] wz W) => (HD.out.quiet hW).rtight HUT.out.1 HUT.out.2.1)
          have HNX := Lib.hid (fun W (hW : Chg [] wz W) => (HD.out.quiet hW).cat.next HPT.out n0 n1)
          have HRNX := Lib.hid (fun W (hW : Chg [] wz W) => (HD.out.quiet hW).rnext HPT.out n0 n1)
          have HLF := Lib.hid (fun W (hW : Chg [] wz W) => (HD.out.quiet hW).cat.left HUT.out.1 HUT.out.2.1 (by omega) (by omega))
          have HCAN := Lib.hid (fun W (hW : Chg [] wz W) => (HD.out.quiet hW).cat.can HUT.out.1 HUT.out.2.1 (by omega) (by omega))
          have HAL := Lib.hid (fun W (hW : Chg [] wz W) => (HD.out.quiet hW).cat.all)
          have HRAL := Lib.hid (fun W (hW : Chg [] wz W) => (HD.out.quiet hW).rall)
          have HALN := Lib.hid (show (r2.all ch).length ≤ 1000 by have := all_len r2 ch; have := HD.out.heldd.n1; omega)
          obtain ⟨lf, hlf⟩ : ∃ lf, lf = leftR r2 (ch kk) := ⟨_, rfl⟩
          obtain ⟨ti, hti⟩ : ∃ ti, ti = tightO r2 (ch kk) := ⟨_, rfl⟩
          obtain ⟨nx, hnx⟩ : ∃ nx, nx = nextR r2 ch nn := ⟨_, rfl⟩
          obtain ⟨al, hal⟩ : ∃ al, al = r2.all ch := ⟨_, rfl⟩
          rw [← hlf] at HRLF HLF HCAN
          rw [← hti] at HTI HRTI
          rw [← hnx] at HNX HRNX
          rw [← hal] at HAL HRAL HALN
          obtain ⟨tx, htx⟩ : ∃ tx, tx = ti.getD (0, 0) := ⟨_, rfl⟩
          obtain ⟨tb, htb⟩ : ∃ tb, tb = ti.isSome := ⟨_, rfl⟩
          obtain ⟨nv, hnv⟩ : ∃ nv, nv = oInt nx := ⟨_, rfl⟩
          obtain ⟨nb, hnb9⟩ : ∃ nb, nb = nx.isSome := ⟨_, rfl⟩
          have HTI : Hid (∀ W, Chg [] wz W → Calls Try.prog 18 #[ptr c, .agg #[.int .i64 (kk : Nat), .int .u64 G]] W fun e W' => e = .returned (.tuple #[.agg #[.int .i64 tx.1, .int .u64 tx.2], .bool tb]) ∧ Chg [] W W') := by rw [htx, htb]; exact HTI
          have HRTI : Hid (∀ W, Chg [] wz W → Calls Try.prog 19 #[ptr h, .agg #[.int .i64 (kk : Nat), .int .u64 G]] W fun e W' => e = .returned (.tuple #[.agg #[.int .i64 tx.1, .int .u64 tx.2], .bool tb]) ∧ Chg [] W W') := by rw [htx, htb]; exact HRTI
          rw [← hnv, ← hnb9] at HNX HRNX
          have hq1 : (lf == lf) = true := beq_self_eq_true lf
          have hq2 : (nv == nv) = true := beq_self_eq_true nv
          have hq3 : (tb == tb) = true := beq_self_eq_true tb
          have hq4 : (nb == nb) = true := beq_self_eq_true nb
          obtain ⟨lb, hlb⟩ : ∃ lb, lb = decide (0 < lf) := ⟨_, rfl⟩
          have hq5 : (lb == lb) = true := beq_self_eq_true lb
          have hq6 : decide (lf > 0) = lb := hlb.symm
          have hq7 : decide (0 < lf) = lb := hlb.symm
          rw [← hlb] at HCAN
          have hneq := fun W => neq_refs tx.1 tx.2 tx.1 tx.2 W
          have hq8 : (tx.1 == tx.1 && tx.2 == tx.2) = true := by simp
          rw [hq8] at hneq
          obtain ⟨ta, tc⟩ := tx
          simp only at hneq HTI HRTI
          obtain ⟨t0, t1, t2, t3, t4⟩ := HLAY.out _ HST.out
          clear hlf hti hnx hal htx htb hnv hnb9 hlb hq8
          go_wp2_with (first
            | (go_at_call 17; refine (HRLF.out _ (Chg.refl _ _)).mono ?_; rintro e v1 ⟨rfl, hc⟩; have HC1 := Lib.hid hc; have HS1 := Lib.hid (HST.out.trans (Stays.quiet hc)); obtain ⟨t0, t1, t2, t3, t4⟩ := HLAY.out _ HS1.out; clear hc)
            | (go_at_call 18; refine (HTI.out _ HC1.out).mono ?_; rintro e v2 ⟨rfl, hc⟩; have HC2 := Lib.hid (HC1.out.then hc); have HS2 := Lib.hid (HST.out.trans (Stays.quiet HC2.out)); obtain ⟨t0, t1, t2, t3, t4⟩ := HLAY.out _ HS2.out; clear hc)
            | (go_at_call 19; refine (HRTI.out _ (HC2.out.alloc (.cells #[.int .i64 ta, .int .u64 tc] 34))).mono ?_; rintro e v3 ⟨rfl, hc⟩; have HB17 := Lib.hid ((Blk.new v2 34 #[.int .i64 ta, .int .u64 tc]).chg hc (by simp)); have HC3 := Lib.hid ((HC2.out.alloc (.cells #[.int .i64 ta, .int .u64 tc] 34)).then hc); have HS3 := Lib.hid (HST.out.trans (Stays.quiet HC3.out)); obtain ⟨t0, t1, t2, t3, t4⟩ := HLAY.out _ HS3.out; clear hc)
            | (go_at_call 20; refine (HNX.out _ (HC3.out.alloc (.cells #[.int .i64 ta, .int .u64 tc] 34))).mono ?_; rintro e v4 ⟨rfl, hc⟩; have HB19 := Lib.hid ((Blk.new v3 34 #[.int .i64 ta, .int .u64 tc]).chg hc (by simp)); have HB17 := Lib.hid ((HB17.out.alloc (.cells #[.int .i64 ta, .int .u64 tc] 34)).chg hc (by simp)); have HC4 := Lib.hid ((HC3.out.alloc (.cells #[.int .i64 ta, .int .u64 tc] 34)).then hc); have HS4 := Lib.hid (HST.out.trans (Stays.quiet HC4.out)); obtain ⟨t0, t1, t2, t3, t4⟩ := HLAY.out _ HS4.out; clear hc)
            | (go_at_call 21; refine (HRNX.out _ HC4.out).mono ?_; rintro e v5 ⟨rfl, hc⟩; have HB19 := Lib.hid (HB19.out.chg hc (by simp)); have HB17 := Lib.hid (HB17.out.chg hc (by simp)); have HC5 := Lib.hid (HC4.out.then hc); have HS5 := Lib.hid (HST.out.trans (Stays.quiet HC5.out)); obtain ⟨t0, t1, t2, t3, t4⟩ := HLAY.out _ HS5.out; clear hc)
            | (go_at_call 22; refine (HLF.out _ HC5.out).mono ?_; rintro e v6 ⟨rfl, hc⟩; have HB19 := Lib.hid (HB19.out.chg hc (by simp)); have HB17 := Lib.hid (HB17.out.chg hc (by simp)); have HC6 := Lib.hid (HC5.out.then hc); have HS6 := Lib.hid (HST.out.trans (Stays.quiet HC6.out)); obtain ⟨t0, t1, t2, t3, t4⟩ := HLAY.out _ HS6.out; clear hc)
            | (go_at_call 23; refine (HCAN.out _ HC6.out).mono ?_; rintro e v7 ⟨rfl, hc⟩; have hb19 := HB19.out.chg hc (by simp); have hb17 := HB17.out.chg hc (by simp); have z0 := hb19.cell 0; have z1 := hb19.cell 1; have z2 := hb17.cell 0; have z3 := hb17.cell 1; have z4 := hb19.lt; have z5 := hb17.lt; have HC7 := Lib.hid (HC6.out.then hc); clear hc hb19 hb17)
            | (go_at_call 25; refine (HAL.out _ HC7.out).mono ?_; rintro e v8 ⟨A8, c8, rfl, hr, _, hc⟩; have HR8 := Lib.hid hr; have HC8 := Lib.hid (HC7.out.then hc); clear hr hc)
            | (go_at_call 26; refine (HRAL.out _ HC8.out).mono ?_; rintro e v9 ⟨A9, c9, rfl, hr, _, hc⟩; have HR9 := Lib.hid hr; have HR89 := Lib.hid (HR8.out.chg hc (fun _ _ h => by cases h)); have HC9 := Lib.hid (HC8.out.then hc); clear hr hc)
            | (go_at_call 24; refine (rSame_any HR89.out HR9.out HALN.out HALN.out).mono ?_; rintro e v10 ⟨rfl, hc⟩; have ed : decide (al = al) = true := (by simp); simp only [ed]; have HC10 := Lib.hid (HC9.out.then hc); clear hc))
          go_roundg (m - j - 1)
          case measure => omega
          case rel => exact ⟨j + 1, r2, by omega, by go_num, Lib.hid ⟨HD.out.quiet HC10.out, (HST.out.trans (Stays.quiet HC10.out)).row ((HROW.out.alloc _).alloc _), HREFS.out.like HL.out, HPT.out⟩⟩

      have e3 : (kind == 3) = false := by simpa using hk3
      obtain ⟨r2, hr2⟩ : ∃ r2, r2 = r := ⟨_, rfl⟩
      have HL := Lib.hid (show Like r r2 by rw [hr2]; exact Like.refl r)
      obtain ⟨wz, hwz⟩ : ∃ wz, wz = ((wr.alloc (.cells #[.int .i64 kind, .int .i64 at_, .int .u64 nn] 32)).alloc (.cells #[.int .i64 (kk : Nat), .int .u64 G] 34)) := ⟨_, rfl⟩
      have HD := Lib.hid (show Duo w wz c h M r2 r2 ch by rw [hr2, hwz]; exact HDU.out.quiet ((((Chg.refl [] wr).alloc (.cells #[.int .i64 kind, .int .i64 at_, .int .u64 nn] 32)).alloc (.cells #[.int .i64 (kk : Nat), .int .u64 G] 34))))
      have HST := Lib.hid (show Stays ((wr.alloc (.cells #[.int .i64 kind, .int .i64 at_, .int .u64 nn] 32)).alloc (.cells #[.int .i64 (kk : Nat), .int .u64 G] 34)) wz by rw [hwz]; exact Stays.refl _)
      go_wp2_with (fail)
      rw [← hwz]
      clear hr2 hwz hk1 hk2 hk3

      have HUT := Lib.hid (HUP.out r2 HL.out HD.out.heldd)
      have HPT := Lib.hid (HPER.out r2 HL.out)
      have HRLF := Lib.hid (fun W (hW : Chg [] wz W) => (HD.out.quiet hW).rleft HUT.out.1 HUT.out.2.1)
      have HTI := Lib.hid (fun W (hW : Chg [] wz W) => (HD.out.quiet hW).cat.tight HUT.out.1 (by omega) (by omega))
      have HRTI := Lib.hid (fun W (hW : Chg [] wz W) => (HD.out.quiet hW).rtight HUT.out.1 HUT.out.2.1)
      have HNX := Lib.hid (fun W (hW : Chg [] wz W) => (HD.out.quiet hW).cat.next HPT.out n0 n1)
      have HRNX := Lib.hid (fun W (hW : Chg [] wz W) => (HD.out.quiet hW).rnext HPT.out n0 n1)
      have HLF := Lib.hid (fun W (hW : Chg [] wz W) => (HD.out.quiet hW).cat.left HUT.out.1 HUT.out.2.1 (by omega) (by omega))
      have HCAN := Lib.hid (fun W (hW : Chg [] wz W) => (HD.out.quiet hW).cat.can HUT.out.1 HUT.out.2.1 (by omega) (by omega))
      have HAL := Lib.hid (fun W (hW : Chg [] wz W) => (HD.out.quiet hW).cat.all)
      have HRAL := Lib.hid (fun W (hW : Chg [] wz W) => (HD.out.quiet hW).rall)
      have HALN := Lib.hid (show (r2.all ch).length ≤ 1000 by have := all_len r2 ch; have := HD.out.heldd.n1; omega)
      obtain ⟨lf, hlf⟩ : ∃ lf, lf = leftR r2 (ch kk) := ⟨_, rfl⟩
      obtain ⟨ti, hti⟩ : ∃ ti, ti = tightO r2 (ch kk) := ⟨_, rfl⟩
      obtain ⟨nx, hnx⟩ : ∃ nx, nx = nextR r2 ch nn := ⟨_, rfl⟩
      obtain ⟨al, hal⟩ : ∃ al, al = r2.all ch := ⟨_, rfl⟩
      rw [← hlf] at HRLF HLF HCAN
      rw [← hti] at HTI HRTI
      rw [← hnx] at HNX HRNX
      rw [← hal] at HAL HRAL HALN
      obtain ⟨tx, htx⟩ : ∃ tx, tx = ti.getD (0, 0) := ⟨_, rfl⟩
      obtain ⟨tb, htb⟩ : ∃ tb, tb = ti.isSome := ⟨_, rfl⟩
      obtain ⟨nv, hnv⟩ : ∃ nv, nv = oInt nx := ⟨_, rfl⟩
      obtain ⟨nb, hnb9⟩ : ∃ nb, nb = nx.isSome := ⟨_, rfl⟩
      have HTI : Hid (∀ W, Chg [] wz W → Calls Try.prog 18 #[ptr c, .agg #[.int .i64 (kk : Nat), .int .u64 G]] W fun e W' => e = .returned (.tuple #[.agg #[.int .i64 tx.1, .int .u64 tx.2], .bool tb]) ∧ Chg [] W W') := by rw [htx, htb]; exact HTI
      have HRTI : Hid (∀ W, Chg [] wz W → Calls Try.prog 19 #[ptr h, .agg #[.int .i64 (kk : Nat), .int .u64 G]] W fun e W' => e = .returned (.tuple #[.agg #[.int .i64 tx.1, .int .u64 tx.2], .bool tb]) ∧ Chg [] W W') := by rw [htx, htb]; exact HRTI
      rw [← hnv, ← hnb9] at HNX HRNX
      have hq1 : (lf == lf) = true := beq_self_eq_true lf
      have hq2 : (nv == nv) = true := beq_self_eq_true nv
      have hq3 : (tb == tb) = true := beq_self_eq_true tb
      have hq4 : (nb == nb) = true := beq_self_eq_true nb
      obtain ⟨lb, hlb⟩ : ∃ lb, lb = decide (0 < lf) := ⟨_, rfl⟩
      have hq5 : (lb == lb) = true := beq_self_eq_true lb
      have hq6 : decide (lf > 0) = lb := hlb.symm
      have hq7 : decide (0 < lf) = lb := hlb.symm
      rw [← hlb] at HCAN
      have hneq := fun W => neq_refs tx.1 tx.2 tx.1 tx.2 W
      have hq8 : (tx.1 == tx.1 && tx.2 == tx.2) = true := by simp
      rw [hq8] at hneq
      obtain ⟨ta, tc⟩ := tx
      simp only at hneq HTI HRTI
      obtain ⟨t0, t1, t2, t3, t4⟩ := HLAY.out _ HST.out
      clear hlf hti hnx hal htx htb hnv hnb9 hlb hq8
      go_wp2_with (first
        | (go_at_call 17; refine (HRLF.out _ (Chg.refl _ _)).mono ?_; rintro e v1 ⟨rfl, hc⟩; have HC1 := Lib.hid hc; have HS1 := Lib.hid (HST.out.trans (Stays.quiet hc)); obtain ⟨t0, t1, t2, t3, t4⟩ := HLAY.out _ HS1.out; clear hc)
        | (go_at_call 18; refine (HTI.out _ HC1.out).mono ?_; rintro e v2 ⟨rfl, hc⟩; have HC2 := Lib.hid (HC1.out.then hc); have HS2 := Lib.hid (HST.out.trans (Stays.quiet HC2.out)); obtain ⟨t0, t1, t2, t3, t4⟩ := HLAY.out _ HS2.out; clear hc)
        | (go_at_call 19; refine (HRTI.out _ (HC2.out.alloc (.cells #[.int .i64 ta, .int .u64 tc] 34))).mono ?_; rintro e v3 ⟨rfl, hc⟩; have HB17 := Lib.hid ((Blk.new v2 34 #[.int .i64 ta, .int .u64 tc]).chg hc (by simp)); have HC3 := Lib.hid ((HC2.out.alloc (.cells #[.int .i64 ta, .int .u64 tc] 34)).then hc); have HS3 := Lib.hid (HST.out.trans (Stays.quiet HC3.out)); obtain ⟨t0, t1, t2, t3, t4⟩ := HLAY.out _ HS3.out; clear hc)
        | (go_at_call 20; refine (HNX.out _ (HC3.out.alloc (.cells #[.int .i64 ta, .int .u64 tc] 34))).mono ?_; rintro e v4 ⟨rfl, hc⟩; have HB19 := Lib.hid ((Blk.new v3 34 #[.int .i64 ta, .int .u64 tc]).chg hc (by simp)); have HB17 := Lib.hid ((HB17.out.alloc (.cells #[.int .i64 ta, .int .u64 tc] 34)).chg hc (by simp)); have HC4 := Lib.hid ((HC3.out.alloc (.cells #[.int .i64 ta, .int .u64 tc] 34)).then hc); have HS4 := Lib.hid (HST.out.trans (Stays.quiet HC4.out)); obtain ⟨t0, t1, t2, t3, t4⟩ := HLAY.out _ HS4.out; clear hc)
        | (go_at_call 21; refine (HRNX.out _ HC4.out).mono ?_; rintro e v5 ⟨rfl, hc⟩; have HB19 := Lib.hid (HB19.out.chg hc (by simp)); have HB17 := Lib.hid (HB17.out.chg hc (by simp)); have HC5 := Lib.hid (HC4.out.then hc); have HS5 := Lib.hid (HST.out.trans (Stays.quiet HC5.out)); obtain ⟨t0, t1, t2, t3, t4⟩ := HLAY.out _ HS5.out; clear hc)
        | (go_at_call 22; refine (HLF.out _ HC5.out).mono ?_; rintro e v6 ⟨rfl, hc⟩; have HB19 := Lib.hid (HB19.out.chg hc (by simp)); have HB17 := Lib.hid (HB17.out.chg hc (by simp)); have HC6 := Lib.hid (HC5.out.then hc); have HS6 := Lib.hid (HST.out.trans (Stays.quiet HC6.out)); obtain ⟨t0, t1, t2, t3, t4⟩ := HLAY.out _ HS6.out; clear hc)
        | (go_at_call 23; refine (HCAN.out _ HC6.out).mono ?_; rintro e v7 ⟨rfl, hc⟩; have hb19 := HB19.out.chg hc (by simp); have hb17 := HB17.out.chg hc (by simp); have z0 := hb19.cell 0; have z1 := hb19.cell 1; have z2 := hb17.cell 0; have z3 := hb17.cell 1; have z4 := hb19.lt; have z5 := hb17.lt; have HC7 := Lib.hid (HC6.out.then hc); clear hc hb19 hb17)
        | (go_at_call 25; refine (HAL.out _ HC7.out).mono ?_; rintro e v8 ⟨A8, c8, rfl, hr, _, hc⟩; have HR8 := Lib.hid hr; have HC8 := Lib.hid (HC7.out.then hc); clear hr hc)
        | (go_at_call 26; refine (HRAL.out _ HC8.out).mono ?_; rintro e v9 ⟨A9, c9, rfl, hr, _, hc⟩; have HR9 := Lib.hid hr; have HR89 := Lib.hid (HR8.out.chg hc (fun _ _ h => by cases h)); have HC9 := Lib.hid (HC8.out.then hc); clear hr hc)
        | (go_at_call 24; refine (rSame_any HR89.out HR9.out HALN.out HALN.out).mono ?_; rintro e v10 ⟨rfl, hc⟩; have ed : decide (al = al) = true := (by simp); simp only [ed]; have HC10 := Lib.hid (HC9.out.then hc); clear hc))
      go_roundg (m - j - 1)
      case measure => omega
      case rel => exact ⟨j + 1, r2, by omega, by go_num, Lib.hid ⟨HD.out.quiet HC10.out, (HST.out.trans (Stays.quiet HC10.out)).row ((HROW.out.alloc _).alloc _), HREFS.out.like HL.out, HPT.out⟩⟩
    · have HC := Lib.hid HH.out.1.chg
      clear HH
      go_wp2_with (go_at_call 9; refine (HK.out _).mono ?_; rintro e w2 ⟨rfl, hc⟩)
      go_ret
      exact ⟨rfl, HC.out.then hc⟩
end Go.Proofs
end
section
namespace Go.Proofs.Ytgelpbmjgebnhaa.quotaPlays
open Go.ChangeShapes Go.WideShapes Go.ChangeAt Go.RowKit
set_option linter.unusedVariables false

theorem own : ownKnob Try.prog.godebug = none := by kernel_rfl

set_option maxRecDepth 100000 in
theorem lifted (os : Os) (started : os.Started) (H : Type) (enc : TypeId × Value → H) :
    ReturnsInHanded {} Try.checked os 3 .any (Rows.quotaPlaysSpec.pre6 enc Try.prog Try.f3 Rows.quotaPlaysRow.domain false) (Rows.quotaPlaysSpec.post enc Try.prog Try.f3 false true false false) := by
  refine returnsInHanded_of_change (C := Try.checked) own started (by kernel_rfl) Try.func3
    (ChangeSpec.witness6 (enc := enc) (C := Try.checked) false ⟨#[], #[.int .u64 0, .int .u64 0, .slice none 0 0, .slice none 0 0], []⟩ 8 (by kernel_rfl) (by kernel_rfl) (by kernel_rfl) (by kernel_rfl)) ?_
  intro W base args ds gs before hval0 hW hcnd _
  have hval : ∀ (j : Nat) t v, Try.f3.params[j]? = some t → args[j]? = some v → Value.okWide Try.prog W .any base t v := hval0
  have hW' := hW
  obtain ⟨p, q, hA0, hV, rfl, hfz, hnd⟩ := hW
  have hA : DataW.TrodAll enc Try.prog W 0 (fun _ => true) true Try.f3.params.toList args.toList ds p := hA0
  rw [Try.params3] at hA hval
  obtain ⟨v0, vs0, d0, ds0, p0, q0, hargs, rfl, rfl, h0, r0⟩ := trodAll_cons hA
  obtain ⟨v1, vs1, d1, ds1, p1, q1, rfl, rfl, rfl, h1, r1⟩ := trodAll_cons r0
  obtain ⟨v2, vs2, d2, ds2, p2, q2, rfl, rfl, rfl, h2, r2⟩ := trodAll_cons r1
  obtain ⟨v3, vs3, d3, ds3, p3, q3, rfl, rfl, rfl, h3, r3⟩ := trodAll_cons r2
  obtain ⟨rfl, rfl, rfl⟩ := trodAll_nil r3
  obtain rfl : args = #[v0, v1, v2, v3] := by cases args; simp_all
  obtain ⟨rfl, rfl⟩ := trodVars_none hV
  obtain ⟨a0, rfl, rfl, rfl, w0⟩ := open_int Try.underlying22 (hval 0 22 v0 rfl rfl) h0
  obtain ⟨a1, rfl, rfl, rfl, w1⟩ := open_int Try.underlying22 (hval 1 22 v1 rfl rfl) h1
  clear hA0 hval0
  simp only [List.append_nil, List.nil_append] at hW'
  obtain ⟨b0, c0⟩ := bounds_u64 w0
  obtain ⟨b1, c1⟩ := bounds_u64 w1
  have hlt2 : ∀ x ∈ p2, x.block < W.heap.size := fun x hx => hW'.lt x (by simp [hx])
  obtain ⟨l2, hl2⟩ := open_carvs (hval 2 23 v2 rfl rfl) h2
  have hlt3 : ∀ x ∈ p3, x.block < W.heap.size := fun x hx => hW'.lt x (by simp [hx])
  obtain ⟨l3, hl3⟩ := open_acts (hval 3 24 v3 rfl rfl) h3
  refine (plays_any a0 a1 b0 b1 _ _ l2 l3 W hl2 hl3).mono fun e W' ⟨he, hc⟩ => ?_
  have hg := hc.to_below
  subst he
  exact ⟨_, rfl, post_of_below (pa := ([] ++ ([] ++ (p2 ++ (p3 ++ []))))) (pv := []) hW' (fun _ _ _ => (trodAll_cons_mk (shut_bool Try.underlying4 _) trodAll_mk0)) (fun sp hsp => (trodAll_cons_mk (shut_int Try.underlying22 w0) (trodAll_cons_mk (shut_int Try.underlying22 w1) (trodAll_cons_mk (WideElems.Trod_stays Try.laidOut (by kernel_rfl) (of_decide_eq_true (by kernel_rfl)) h2 (fun x hx => hg.same (hlt2 x hx)) (fun x hx => hsp x (by simp [hx]))) (trodAll_cons_mk (WideElems.Trod_stays Try.laidOut (by kernel_rfl) (of_decide_eq_true (by kernel_rfl)) h3 (fun x hx => hg.same (hlt3 x hx)) (fun x hx => hsp x (by simp [hx]))) trodAll_mk0))))) (fun _ _ => rfl) (by simp)
    hg (ok_one (by kernel_rfl) rfl (okWide_bool_mk Try.underlying4 _))⟩

theorem over : Rows.quotaPlaysRow.holds Try.pinned (OpenSpec.ofChange Rows.quotaPlaysSpec) :=
  OpenClaim.holds_of_wide 3 Try.f3 rfl rfl rfl rfl rfl rfl rfl ⟨rfl, rfl, rfl, rfl, rfl⟩ rfl rfl rfl rfl rfl (by kernel_rfl) Try.func3 (by kernel_rfl)
    (of_decide_eq_true (by kernel_rfl)) (by unfold Func.isWrapper; first | (rw [if_pos (by decide +kernel)]; kernel_rfl) | (rw [if_neg (by decide +kernel)]; exact ⟨rfl, rfl⟩))
    (fun os started H enc _ => lifted os started H enc)

/-- ████ THE STATEMENT ████ -/
theorem proved : Rows.QuotaPlaysSaid :=
  over
#print axioms proved
end Go.Proofs.Ytgelpbmjgebnhaa.quotaPlays
end
