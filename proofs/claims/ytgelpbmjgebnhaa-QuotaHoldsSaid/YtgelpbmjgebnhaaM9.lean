import Derived.Test.YtgelpbmjgebnhaaM8
import Derived.Test.YtgelpbmjgebnhaaM6
section
namespace Go.Proofs
open Go.RowKit Go.Shelf
set_option linter.unusedVariables false
set_option linter.unusedSimpArgs false

set_option maxHeartbeats 3200000 in
set_option maxRecDepth 100000 in
theorem Reset_any {w : World} {c M : Nat} {S : List Nat} {t : Tab Dm} {r : RTab} {ch : Nat → List (Int × Int)} (h : DomAt w c S t) (sm : Sim M t r ch) (hp : Pers r) {now : Int} (n0 : 0 ≤ now) (n1 : now < 18446744073709551616) :
    Calls Try.prog 15 #[ptr c, .int .u64 now] w fun e w' => ∃ A cc, e = .returned (.slice A (begunL now (r.all ch)).length cc) ∧ Row w' 34 2 (.slice A (begunL now (r.all ch)).length cc) (begunL now (r.all ch)).length (refCells (begunL now (r.all ch))) ∧ (∀ k ∈ foot (.slice A (begunL now (r.all ch)).length cc), w.heap.size ≤ k) ∧ CTurns c S M (resetR r ch now) ch w w' ∧ Like r (resetR r ch now) := by
  obtain ⟨in0, hi0, hq0, hq1, hq2⟩ := info_parts Try.info_R
  have HA := Lib.hid (fun W (hW : Chg [] w W) => All_any (h.quiet hW) sm)
  have hn := sm.held.n1
  have hl := all_len r ch
  have HI := Lib.hid (all_per hp ch)
  have HK := Lib.hid (fun (p : Plc) (hm : p ∈ r.all ch) => all_mem.1 hm)
  have HD := Lib.hid h
  have HS := Lib.hid sm
  have HCL := Lib.hid (fun W (t' : Tab Dm) (r' : RTab) (k : Nat) (g : Int) (hd : DomAt W c S t') (hs : Sim M t' r' ch) (hl : k ≤ 4096) => Clear_any hd (i := (k : Nat)) (q := g) (by omega) (by omega))
  have HLS := Lib.hid (show ∀ k ∈ S, k < w.heap.size from fun k hk => h.lt k (List.mem_cons_of_mem _ hk))
  unfold resetR
  obtain ⟨l, hl0⟩ : ∃ l, l = r.all ch := ⟨_, rfl⟩
  rw [← hl0] at HA hl HI HK ⊢
  obtain ⟨n, hnn⟩ : ∃ n, n = l.length := ⟨_, rfl⟩
  rw [← hnn] at HA hl
  have HN := Lib.hid hnn
  clear hl0 hp sm h hnn
  go_enter Try.func15, Try.ntmps15
  go_wp2_with (first
    | (go_at_call 25; refine (HA.out _ (Chg.refl _ _)).mono ?_; rintro e w1 ⟨A0, cc0, rfl, hr, hf, hc⟩; have HR := Lib.hid hr; have HF := Lib.hid hf; have HC1 := Lib.hid hc; clear hr hf hc))
  go_loopg [5, 11] n (fun gh v5 iv wr => ∃ (j : Nat) (A : Option Addr) (cc : Nat), j + gh = n ∧ iv = .int .i64 j ∧ v5 = .slice A (begunL now (l.take j)).length cc ∧ Hid (Chg S w1 wr ∧ Row wr 34 2 (.slice A (begunL now (l.take j)).length cc) (begunL now (l.take j)).length (refCells (begunL now (l.take j))) ∧ (∀ k ∈ foot (.slice A (begunL now (l.take j)).length cc), w1.heap.size ≤ k)) ∧ Hid (CTurns c S M (clearR (begunL now (l.take j)) r) ch w wr ∧ Like r (clearR (begunL now (l.take j)) r)))
  case atStart => exact ⟨0, none, 0, by omega, rfl, rfl, Lib.hid ⟨Chg.refl _ _, Row.nil _ _ _, fun k hk => (by cases hk)⟩, Lib.hid ⟨⟨t, HD.out.quiet HC1.out, HS.out, HC1.out.any⟩, Like.refl r⟩⟩
  case round =>
    obtain ⟨j, A, cc, hj, rfl, rfl, HH, HT⟩ := hrel
    obtain ⟨hc, hrow, hft⟩ := HH.out
    obtain ⟨hT, hlk⟩ := HT.out
    have hbl := begunL_len now (l.take j)
    rw [List.length_take] at hbl
    obtain ⟨bg, hbg⟩ : ∃ bg, bg = begunL now (l.take j) := ⟨_, rfl⟩
    rw [← hbg] at hrow hft hT hlk hbl ⊢
    by_cases hlt : j < n
    · have j0 : (0 : Int) ≤ (j : Int) := by omega
      have j1 : (j : Int) < (n : Int) := by omega
      obtain ⟨p, hpj⟩ : ∃ p, l[j]? = some p := ⟨_, List.getElem?_eq_getElem (by rw [← HN.out]; exact hlt)⟩
      obtain ⟨gr, cr, hv, hfo, _, hcell, _, lgr2⟩ := HR.out.form (by omega)
      have hgS : gr ∉ S := fun hm => by
        have := HLS.out gr hm
        have := HF.out gr (by rw [hfo]; simp)
        omega
      simp only [Value.slice.injEq] at hv
      obtain ⟨rfl, h91, h92⟩ := hv
      clear h91 h92
      obtain ⟨x0, x1, x2, x3, x4, x5, x6, x7, x8, x9, x10, x11, x12⟩ := plcCells_at hpj
      have y0 := (hc.cell (p := ⟨gr, j * 13, none⟩) lgr2 hgS).trans (hcell _ _ x0)
      have y1 := (hc.cell (p := ⟨gr, j * 13 + 1, none⟩) lgr2 hgS).trans (hcell _ _ x1)
      have y2 := (hc.cell (p := ⟨gr, j * 13 + 2, none⟩) lgr2 hgS).trans (hcell _ _ x2)
      have y3 := (hc.cell (p := ⟨gr, j * 13 + 3, none⟩) lgr2 hgS).trans (hcell _ _ x3)
      have y4 := (hc.cell (p := ⟨gr, j * 13 + 4, none⟩) lgr2 hgS).trans (hcell _ _ x4)
      have y5 := (hc.cell (p := ⟨gr, j * 13 + 5, none⟩) lgr2 hgS).trans (hcell _ _ x5)
      have y6 := (hc.cell (p := ⟨gr, j * 13 + 6, none⟩) lgr2 hgS).trans (hcell _ _ x6)
      have y7 := (hc.cell (p := ⟨gr, j * 13 + 7, none⟩) lgr2 hgS).trans (hcell _ _ x7)
      have y8 := (hc.cell (p := ⟨gr, j * 13 + 8, none⟩) lgr2 hgS).trans (hcell _ _ x8)
      have y9 := (hc.cell (p := ⟨gr, j * 13 + 9, none⟩) lgr2 hgS).trans (hcell _ _ x9)
      have y10 := (hc.cell (p := ⟨gr, j * 13 + 10, none⟩) lgr2 hgS).trans (hcell _ _ x10)
      have y11 := (hc.cell (p := ⟨gr, j * 13 + 11, none⟩) lgr2 hgS).trans (hcell _ _ x11)
      have y12 := (hc.cell (p := ⟨gr, j * 13 + 12, none⟩) lgr2 hgS).trans (hcell _ _ x12)
      have hm := List.mem_of_getElem? hpj
      obtain ⟨hp1, hp2⟩ := HI.out p hm
      have e1 : now.tmod p.x.per = now % p.x.per := Int.tmod_eq_emod_of_nonneg n0
      obtain ⟨m0, m1, m2⟩ := mod_bd n0 hp1
      have hbq : beginsQ now p = decide (now % p.x.per = 0) := rfl
      obtain ⟨m, hm0⟩ : ∃ m, m = now % p.x.per := ⟨_, rfl⟩
      rw [← hm0] at e1 m0 m1 m2 hbq
      have e2 : IntKind.u64.wrap m = m := by rw [IntKind.wrap_u64]; omega
      obtain ⟨per, hpe⟩ : ∃ per, per = p.x.per := ⟨_, rfl⟩
      rw [← hpe] at e1 y6 hp1 hp2 m2
      have e4 : ¬ per = 0 := by omega
      have e5 : (per == 0) = false := by simpa using e4
      have HTK := Lib.hid (take_more hpj)
      have HCW := Lib.hid hc
      have HRW := Lib.hid hrow
      have HFW := Lib.hid hft
      have HTT := Lib.hid hT
      have HLK := Lib.hid hlk
      have HBG := Lib.hid hbg
      by_cases hz : m = 0
      · obtain ⟨k, hk, hki, hpk⟩ := HK.out p hm
        have hpi : p.i = (k : Nat) := by rw [hpk]
        have hpq : p.q = (r.pl k).gen := by rw [hpk]
        obtain ⟨t', hd, hs, hcw⟩ := hT
        have HY := Lib.hid (show bg ++ [(((k : Nat) : Int), (r.pl k).gen)] = begunL now (l.take (j + 1)) by rw [HTK.out, begunL_yes (by rw [hbq]; exact decide_eq_true hz), ← hbg, hpi, hpq])
        have HUS := Lib.hid (fun W (hW : Chg [] wr W) => HCL.out W t' _ k (r.pl k).gen (hd.quiet hW) hs (by omega))
        have HNX := Lib.hid (show Sim M (t'.upd (k : Nat) (r.pl k).gen (fun x => { x with used := 0 })) (clearR (bg ++ [(((k : Nat) : Int), (r.pl k).gen)]) r) ch ∧ Like r (clearR (bg ++ [(((k : Nat) : Int), (r.pl k).gen)]) r) by
          rw [clearR_snoc, Int.toNat_natCast]
          have := hs.clearK (k := k) (by rw [hlk.is]; exact hki)
          rw [hlk.gen] at this
          exact ⟨this, hlk.trans (Like.set1 (by rw [hlk.len]; exact hk) _ _)⟩)
        have HFS := Lib.hid (show ∀ x ∈ foot (.slice A bg.length cc), x ∉ S from fun x hx hS => by
          have := HLS.out x hS
          have := hft x hx
          have := HC1.out.size
          omega)
        have HWS := Lib.hid (show wr.heap.size ∉ S from fun hS => by have := HLS.out _ hS; have := HC1.out.size; have := hc.size; omega)
        have HFL := Lib.hid (show ∀ x ∈ foot (.slice A bg.length cc), x < wr.heap.size from hrow.lt)
        obtain ⟨g, hg⟩ : ∃ g, g = (r.pl k).gen := ⟨_, rfl⟩
        rw [hpi] at y0
        rw [hpq] at y1
        rw [← hg] at HUS HNX HY y1
        obtain ⟨t2, ht2⟩ : ∃ t2, t2 = t'.upd (k : Nat) g (fun x => { x with used := 0 }) := ⟨_, rfl⟩
        rw [← ht2] at HUS HNX
        have HCW0 := Lib.hid hcw
        have e6 : (m == 0) = true := by simpa using hz
        clear hpj hcell x0 x1 x2 x3 x4 x5 x6 x7 x8 x9 x10 x11 x12 hm hbq hm0 hpe hc hrow hft hlk hbg HH HTT HT hz hfo hgS hpk hpi hpq hd hs hcw hg ht2
        go_wp2_with (first
          | (go_at_call 41; refine (HUS.out _ ((Chg.refl _ _).alloc _)).mono ?_; rintro e w3 ⟨rfl, hd3, hc3⟩; have HD3 := Lib.hid hd3; have hc4 := ((Chg.refl [] wr).alloc (.cells #[.int .i64 (k : Nat), .int .u64 g, .int .i64 p.x.pi, .int .u64 p.x.pg, .int .i64 p.x.gs, .int .u64 p.x.cpu, .int .u64 per, .int .i64 p.x.cgs, .int .u64 p.x.car, .int .i64 p.x.own, .int .i64 p.x.live, .int .u64 p.x.used, .int .i64 p.x.ch] 90)).any (S := S) |>.trans hc3 (fun k hk => .inl hk); have HC4 := Lib.hid hc4; have hB := (Blk.new wr 90 #[.int .i64 (k : Nat), .int .u64 g, .int .i64 p.x.pi, .int .u64 p.x.pg, .int .i64 p.x.gs, .int .u64 p.x.cpu, .int .u64 per, .int .i64 p.x.cgs, .int .u64 p.x.car, .int .i64 p.x.own, .int .i64 p.x.live, .int .u64 p.x.used, .int .i64 p.x.ch]).chg hc3 HWS.out; have d0 := hB.cell 0; have d1 := hB.cell 1; have lB := hB.lt; have HR3 := Lib.hid (HRW.out.chg hc4 HFS.out); clear hd3 hc3 hc4 hB)
          | (at_builtin; refine wpList_append_row _ rfl _ _ 27 rfl 34 in0 (.agg #[.int .i64 0, .int .u64 0]) 2 16 Try.underlying27 hi0 hq0 hq1 hq2 rfl (.slice A bg.length cc) bg.length (refCells bg) rfl (HR3.out.alloc _) ⟨w3.heap.size, 0, none⟩ 1 1 [.int .i64 (k : Nat), .int .u64 g] rfl rfl (World.news_of_block (cs := #[.int .i64 (k : Nat), .int .u64 g]) (t := 34) (fr := (0, 0)) (heap_alloc_new w3 _)) (by simp [Value.oneCell']) (by omega) (by unfold maxLen; omega) (by omega) (w3.heap.size + 1) (by simp) ?_; intro gg cap w4 hown hgrow hat hlt1; have HOWN := Lib.hid hown; have HG := Lib.hid hgrow; have HAT := Lib.hid hat; clear hown hgrow hat))
        go_roundg (n - j - 1)
        case measure => omega
        case rel =>
          have hgg : gg ∈ foot (.slice A bg.length cc) ∨ gg = w3.heap.size + 1 := HAT.out.imp (fun h => row_mem h) id
          have hc34 : Chg (foot (.slice A bg.length cc)) w3 w4 := ((Chg.refl _ w3).alloc _).grown HG.out (fun k hk => .inl (row_mem hk))
          have z1 := HC1.out.size
          have zr := HCW.out.size
          have z3 := HC4.out.size
          have hlt := HD.out.lt
          refine ⟨j + 1, some ⟨gg, 0, none⟩, cap, by omega, by go_num, by rw [← HY.out, List.length_append]; rfl, Lib.hid ⟨?_, ?_, ?_⟩, Lib.hid ⟨⟨t2, ?_, ?_, ?_⟩, ?_⟩⟩
          · exact (HCW.out.trans HC4.out (fun k hk => .inl hk)).trans hc34 (fun k hk => .inr (HFW.out k hk))
          · rw [← HY.out, refCells_snoc, List.length_append]; exact HOWN.out
          · intro k' hk'
            rw [← HY.out, List.length_append] at hk'
            simp [foot_some] at hk'
            subst hk'
            rcases hgg with h | h
            · exact HFW.out _ h
            · omega
          · refine HD3.out.chg hc34 (fun hm => ?_) (fun x hx hm => HFS.out x hm hx)
            have := HFW.out c hm
            have := hlt c List.mem_cons_self
            omega
          · rw [← HY.out]; exact HNX.out.1
          · exact (HCW0.out.trans HC4.out (fun k hk => .inl hk)).trans hc34 (fun k hk => .inr (by have := HFW.out k hk; omega))
          · rw [← HY.out]; exact HNX.out.2
      · have HY := Lib.hid (show bg = begunL now (l.take (j + 1)) by rw [HTK.out, begunL_no (by rw [hbq]; exact decide_eq_false hz)]; exact hbg)
        have e6 : (m == 0) = false := by simpa using hz
        clear hpj hcell x0 x1 x2 x3 x4 x5 x6 x7 x8 x9 x10 x11 x12 hm hbq hm0 hpe hc hrow hft hT hlk hbg HH HT hz hfo hgS
        go_wp2
        go_roundg (n - j - 1)
        case measure => omega
        case rel => exact ⟨j + 1, A, cc, by omega, by go_num, by rw [← HY.out], Lib.hid ⟨HCW.out.alloc _, by rw [← HY.out]; exact HRW.out.alloc _, by rw [← HY.out]; exact HFW.out⟩, Lib.hid ⟨by rw [← HY.out]; exact (by obtain ⟨t', a, b, d⟩ := HTT.out; exact ⟨t', a.quiet ((Chg.refl _ _).alloc _), b, d.alloc _⟩), by rw [← HY.out]; exact HLK.out⟩⟩
    · obtain rfl : n = j := by omega
      rw [HN.out, List.take_length] at hbg
      have HB := Lib.hid hbg
      have HR9 := Lib.hid hrow
      have HF9 := Lib.hid hft
      have HT9 := Lib.hid hT
      have HL9 := Lib.hid hlk
      clear hc HH hT hlk HT hbg hrow hft
      go_wp2
      go_ret
      rw [← HB.out]
      exact ⟨A, cc, rfl, HR9.out, fun k hk => Nat.le_trans HC1.out.size (HF9.out k hk), HT9.out, HL9.out⟩
end Go.Proofs
end
section
namespace Go.Proofs
open Go.RowKit Go.Shelf
set_option linter.unusedVariables false
set_option linter.unusedSimpArgs false

theorem pl_some {r : RTab} {k : Nat} (hk : k < r.L.length) : r.L[k]? = some (r.pl k) := by
  have h := List.getElem?_eq_getElem hk
  rw [h, RTab.pl_eq h]
theorem Pl.left_no {p : Pl} (h : p.cpu ≤ p.used) : p.left = 0 := by unfold Pl.left subS; split <;> omega
theorem Pl.left_yes {p : Pl} (h : ¬ p.cpu ≤ p.used) : p.left = p.cpu - p.used := by unfold Pl.left subS; rw [if_neg (by omega)]
/-- Get, of a place that is there, in the document. -/
theorem rget_at {w : World} {h M : Nat} {S : List Nat} {r : RTab} {ch : Nat → List (Int × Int)} (hr : RefAt w h S r) (hh : r.Held M ch) {k : Nat} (hk : k < r.L.length) (q : Int) :
    Calls Try.prog 43 #[ptr h, .agg #[.int .i64 (k : Nat), .int .u64 q]] w fun e w' => e = .returned (r.get ch (k : Nat) q).val ∧ Chg [] w w' :=
  rget_any hr hh.fine hh.Chs (pl_some hk) q
theorem leftR_zero {M : Nat} {r : RTab} {ch : Nat → List (Int × Int)} (hh : r.Held M ch) {L : List (Int × Int)} (hL : ∀ x ∈ L, ∃ k : Nat, x = (((k : Nat) : Int), (r.pl k).gen) ∧ k < r.L.length ∧ (r.pl k).is = true) {k : Nat} (hx : (((k : Nat) : Int), (r.pl k).gen) ∈ L) (hk : k < r.L.length) (hi : (r.pl k).is = true) (hz : (r.pl k).left = 0) : leftR r L = 0 := by
  unfold leftR
  have : minF (tellR r) L = some 0 := by
    rw [minF_iff]
    refine ⟨⟨_, hx, ?_⟩, fun x hx m hm => ?_⟩
    · unfold tellR; rw [if_pos (is_pl.2 ⟨k, rfl, hk, hi, rfl⟩), Int.toNat_natCast, hz]
    · obtain ⟨j, rfl, hj, hji⟩ := hL x hx
      unfold tellR at hm
      rw [if_pos (is_pl.2 ⟨j, rfl, hj, hji, rfl⟩), Int.toNat_natCast] at hm
      cases hm
      exact (tellR_bd hh hj).1
  rw [this]; rfl
set_option maxHeartbeats 3200000 in
set_option maxRecDepth 100000 in
theorem rleft_any {w : World} {h M : Nat} {S : List Nat} {r : RTab} {ch : Nat → List (Int × Int)} (hr : RefAt w h S r) (hh : r.Held M ch) {i q : Int} {L : List (Int × Int)} (hU : Up r.par i q L) (hL : L.length ≤ 1000) :
    Calls Try.prog 17 #[ptr h, .agg #[.int .i64 i, .int .u64 q]] w fun e w' => e = .returned (.int .u64 (leftR r L)) ∧ Chg [] w w' := by
  have HCH := Lib.hid (fun W (hc : Chg [] w W) => rchain_any (hr.quiet hc) hh.n0 hU (by omega))
  have HGE := Lib.hid (fun W (hc : Chg [] w W) (k : Nat) (hk : k < r.L.length) => rget_at (hr.quiet hc) hh hk)
  have HTH := Lib.hid hU.there
  have HLZ := Lib.hid (fun k => leftR_zero hh hU.there (k := k))
  have HBD := Lib.hid (fun k (hk : k < r.L.length) => (hh.nums k hk).2.2)
  obtain ⟨n, hnn⟩ : ∃ n, n = L.length := ⟨_, rfl⟩
  rw [← hnn] at HCH hL
  have HN := Lib.hid hnn
  obtain ⟨out, ho⟩ : ∃ out, out = leftR r L := ⟨_, rfl⟩
  have HO := Lib.hid ho
  rw [← ho]
  clear hr hh hU hnn ho
  by_cases hz : n = 0
  · have HY := Lib.hid (show out = 0 by rw [HO.out]; have := HN.out; rw [hz] at this; rw [List.length_eq_zero_iff.1 this.symm]; rfl)
    have e1 : (((n : Nat) : Int) == 0) = true := by simp [hz]
    clear hz
    go_enter Try.func17, Try.ntmps17
    go_wp2_with (go_at_call 36; refine (HCH.out _ ((Chg.refl _ _).alloc _)).mono ?_; rintro e w1 ⟨A, cc, rfl, hrow, _, hc⟩; have HC := Lib.hid (((Chg.refl [] w).alloc _).then hc); clear hrow hc)
    go_ret
    exact ⟨by rw [HY.out]; rfl, HC.out⟩
  · have e1 : (((n : Nat) : Int) == 0) = false := by simp [hz]
    go_enter Try.func17, Try.ntmps17
    go_wp2_with (go_at_call 36; refine (HCH.out _ ((Chg.refl _ _).alloc _)).mono ?_; rintro e w1 ⟨A, cc, rfl, hrow, _, hc⟩; have HR := Lib.hid hrow; have HC := Lib.hid (((Chg.refl [] w).alloc _).then hc); clear hrow hc)
    go_loopg [6, 7] n (fun gh v6 iv wr => ∃ (j : Nat) (o : Option Int), j + gh = n ∧ iv = .int .i64 j ∧ v6 = .int .u64 (o.getD 18446744073709551615) ∧ Hid (Chg [] w1 wr ∧ o = minF (tellR r) (L.take j) ∧ (o = none → j = 0)))
    case atStart => exact ⟨0, none, by omega, rfl, rfl, Lib.hid ⟨Chg.refl _ _, by rw [List.take_zero]; rfl, fun _ => rfl⟩⟩
    case round =>
      obtain ⟨j, o, hj, rfl, rfl, HH⟩ := hrel
      obtain ⟨hc, ho, hoj⟩ := HH.out
      by_cases hlt : j < n
      · have j0 : (0 : Int) ≤ (j : Int) := by omega
        have j1 : (j : Int) < (n : Int) := by omega
        obtain ⟨x, hx⟩ : ∃ x, L[j]? = some x := ⟨_, List.getElem?_eq_getElem (by rw [← HN.out]; exact hlt)⟩
        obtain ⟨gr, cr, hv, _, _, hcell, _, lgr2⟩ := HR.out.form (by omega)
        simp only [Value.slice.injEq] at hv
        obtain ⟨rfl, h91, h92⟩ := hv
        clear h91 h92
        obtain ⟨x0, x1⟩ := refCells_at hx
        have y0 := (hc.cell (p := ⟨gr, j * 2, none⟩) lgr2 (by simp)).trans (hcell _ _ x0)
        have y1 := (hc.cell (p := ⟨gr, j * 2 + 1, none⟩) lgr2 (by simp)).trans (hcell _ _ x1)
        have hxm := List.mem_of_getElem? hx
        obtain ⟨k, rfl, hk, hki⟩ := HTH.out x hxm
        have HTX := Lib.hid (fun W (hW : Chg [] wr W) => HGE.out W ((HC.out.then hc).then hW) k hk (r.pl k).gen)
        have HTK := Lib.hid (take_more hx)
        obtain ⟨⟨c0, c1⟩, ⟨d0, d1⟩, _⟩ := HBD.out k hk
        have htl : tellR r (((k : Nat) : Int), (r.pl k).gen) = some (r.pl k).left := by unfold tellR; rw [if_pos (is_pl.2 ⟨k, rfl, hk, hki, rfl⟩), Int.toNat_natCast]
        have hzz := HLZ.out k hxm hk hki
        have hx1 : (r.get ch (k : Nat) (r.pl k).gen).cpu = (r.pl k).cpu ∧ (r.get ch (k : Nat) (r.pl k).gen).used = (r.pl k).used := ⟨rfl, rfl⟩
        obtain ⟨X, hX⟩ : ∃ X, X = r.get ch (k : Nat) (r.pl k).gen := ⟨_, rfl⟩
        rw [← hX] at HTX hx1
        obtain ⟨X0, X1, X2, X3, X4, X5, X6, X7, X8, X9, X10⟩ := X
        simp only at hx1
        obtain ⟨rfl, rfl⟩ := hx1
        obtain ⟨g, hg⟩ : ∃ g, g = (r.pl k).gen := ⟨_, rfl⟩
        obtain ⟨p, hp⟩ : ∃ p, p = r.pl k := ⟨_, rfl⟩
        rw [← hg] at HTX HTK htl
        simp only at y0 y1
        rw [← hg] at y1
        rw [← hp] at HTX htl hzz c0 c1 d0 d1
        obtain ⟨cp, hcp⟩ : ∃ cp, cp = p.cpu := ⟨_, rfl⟩
        obtain ⟨us, hus⟩ : ∃ us, us = p.used := ⟨_, rfl⟩
        rw [← hcp] at HTX c0 c1
        rw [← hus] at HTX d0 d1
        have HTL := Lib.hid htl
        have HCW := Lib.hid hc
        have HOO := Lib.hid ho
        have HZZ := Lib.hid hzz
        by_cases ha : cp ≤ us
        · have HY := Lib.hid (show out = 0 by rw [HO.out]; exact HZZ.out (Pl.left_no (by rw [← hcp, ← hus]; exact ha)))
          have e2 : decide (cp ≤ us) = true := decide_eq_true ha
          have e3 : decide (us ≥ cp) = true := decide_eq_true ha
          clear hx hcell x0 x1 hc HH ho hoj hxm htl hzz hX hg hp hcp hus ha
          go_wp2_with (first | (go_at_call 43; refine (HTX.out _ (Chg.refl _ _)).mono ?_; rintro e w2 ⟨rfl, hc1⟩; have HC1 := Lib.hid (HCW.out.then hc1); clear hc1))
          go_ret
          exact ⟨by rw [HY.out]; rfl, (HC.out.then HC1.out).alloc _⟩
        · have hlf : p.left = cp - us := by rw [Pl.left_yes (by rw [← hcp, ← hus]; exact ha), ← hcp, ← hus]
          rw [hlf] at HTL
          have e2 : decide (cp ≤ us) = false := decide_eq_false ha
          have e3 : decide (us ≥ cp) = false := decide_eq_false ha
          have e4 : IntKind.u64.wrap (cp - us) = cp - us := by rw [IntKind.wrap_u64]; omega
          have hnx : some (if cp - us < o.getD 18446744073709551615 then cp - us else o.getD 18446744073709551615) = minF (tellR r) (L.take (j + 1)) := by
            rw [HTK.out, minF_some HTL.out, ← HOO.out]
            cases o with
            | none => simp only [Option.getD_none]; rw [if_pos (by omega)]; rfl
            | some v => unfold minO; by_cases hv : cp - us < v <;> simp [hv]
          by_cases hb : cp - us < o.getD 18446744073709551615
          · rw [if_pos hb] at hnx
            have HY := Lib.hid hnx
            have e5 : decide (cp - us < o.getD 18446744073709551615) = true := decide_eq_true hb
            clear hx hcell x0 x1 hc HH ho hoj hxm htl hzz hX hg hp hcp hus ha hlf hnx hb
            obtain ⟨v, hv⟩ : ∃ v, v = o.getD 18446744073709551615 := ⟨_, rfl⟩
            rw [← hv] at e5 ⊢
            clear hv
            go_wp2_with (first | (go_at_call 43; refine (HTX.out _ (Chg.refl _ _)).mono ?_; rintro e w2 ⟨rfl, hc1⟩; have HC1 := Lib.hid (HCW.out.then hc1); clear hc1))
            go_roundg (n - j - 1)
            case measure => omega
            case rel => exact ⟨j + 1, some (cp - us), by omega, by go_num, rfl, Lib.hid ⟨HC1.out.alloc _, HY.out, fun e => by cases e⟩⟩
          · rw [if_neg hb] at hnx
            have e5 : decide (cp - us < o.getD 18446744073709551615) = false := decide_eq_false hb
            obtain ⟨v, hv⟩ : ∃ v, v = o.getD 18446744073709551615 := ⟨_, rfl⟩
            rw [← hv] at e5 hnx ⊢
            have HY := Lib.hid hnx
            clear hx hcell x0 x1 hc HH ho hoj hxm htl hzz hX hg hp hcp hus ha hlf hnx hb hv
            go_wp2_with (first | (go_at_call 43; refine (HTX.out _ (Chg.refl _ _)).mono ?_; rintro e w2 ⟨rfl, hc1⟩; have HC1 := Lib.hid (HCW.out.then hc1); clear hc1))
            go_roundg (n - j - 1)
            case measure => omega
            case rel => exact ⟨j + 1, some v, by omega, by go_num, rfl, Lib.hid ⟨HC1.out.alloc _, HY.out, fun e => by cases e⟩⟩
      · obtain rfl : n = j := by omega
        have hfin : out = o.getD 18446744073709551615 := by
          rw [HO.out]; unfold leftR
          rw [HN.out, List.take_length] at ho
          rw [← ho]
          cases o with
          | none => exact absurd (hoj rfl) hz
          | some v => rfl
        have HY := Lib.hid hfin
        have HCW := Lib.hid hc
        clear hc HH ho hoj hfin
        obtain ⟨v, hv⟩ : ∃ v, v = o.getD 18446744073709551615 := ⟨_, rfl⟩
        rw [← hv] at HY ⊢
        clear hv
        go_wp2
        go_ret
        exact ⟨by rw [HY.out]; rfl, HC.out.then HCW.out⟩
end Go.Proofs
end
section
namespace Go.Proofs
open Go.RowKit Go.Shelf
set_option linter.unusedVariables false
set_option linter.unusedSimpArgs false

theorem useK_held {M : Nat} {r : RTab} {ch : Nat → List (Int × Int)} (h : r.Held M ch) {k : Nat} (hk : (r.pl k).is = true) : (r.useK k).Held M ch := by
  obtain ⟨_, b, _, d, _⟩ := h.nums k (is_lt hk)
  refine set1_held h hk b.1 (h.room k hk).1 ?_ ?_
  · unfold addS; split <;> omega
  · unfold addS; split <;> omega
theorem clearK_held {M : Nat} {r : RTab} {ch : Nat → List (Int × Int)} (h : r.Held M ch) {k : Nat} (hk : (r.pl k).is = true) : (r.clearK k).Held M ch := by
  obtain ⟨_, b, _, d, _⟩ := h.nums k (is_lt hk)
  exact set1_held h hk b.1 (h.room k hk).1 (by omega) (by omega)
theorem ruse_at {w : World} {h M : Nat} {S : List Nat} {r : RTab} {ch : Nat → List (Int × Int)} (hr : RefAt w h S r) (hh : r.Held M ch) {k : Nat} {g : Int} (hk : (r.pl k).is = true) (hg : (r.pl k).gen = g) :
    Calls Try.prog 13 #[ptr h, .agg #[.int .i64 (k : Nat), .int .u64 g], .int .u64 1] w fun e w' => e = .returned (.int .i64 0) ∧ RTurns h S (r.useK k) w w' := by
  have := ruse_any hr hh.n0 hh.fine (i := (k : Nat)) (q := g) 1 (by omega) (by omega)
  have hi : r.is (k : Nat) g = true := is_pl.2 ⟨k, rfl, is_lt hk, hk, hg⟩
  rw [hi] at this
  simp only [if_true, Int.toNat_natCast] at this
  exact this
theorem rclear_at {w : World} {h M : Nat} {S : List Nat} {r : RTab} {ch : Nat → List (Int × Int)} (hr : RefAt w h S r) (hh : r.Held M ch) {k : Nat} {g : Int} (hk : (r.pl k).is = true) (hg : (r.pl k).gen = g) :
    Calls Try.prog 42 #[ptr h, .agg #[.int .i64 (k : Nat), .int .u64 g]] w fun e w' => e = .returned (.int .i64 0) ∧ RTurns h S (r.clearK k) w w' := by
  have := rclear_any hr hh.n0 hh.fine (i := (k : Nat)) (q := g)
  have hi : r.is (k : Nat) g = true := is_pl.2 ⟨k, rfl, is_lt hk, hk, hg⟩
  rw [hi] at this
  simp only [if_true, Int.toNat_natCast] at this
  exact this
set_option maxHeartbeats 3200000 in
set_option maxRecDepth 100000 in
theorem rcharge_any {w : World} {h M : Nat} {S : List Nat} {r : RTab} {ch : Nat → List (Int × Int)} (hr : RefAt w h S r) (hh : r.Held M ch) {i q : Int} {L : List (Int × Int)} (hU : Up r.par i q L) (hL : L.length ≤ 1000) (h0 : 0 ≤ leftR r L) :
    Calls Try.prog 11 #[ptr h, .agg #[.int .i64 i, .int .u64 q]] w fun e w' => e = .returned (.bool (decide (0 < leftR r L))) ∧ RTurns h S (chargeR L r) w w' := by
  have HLF := Lib.hid (fun W (hc : Chg [] w W) => rleft_any (hr.quiet hc) hh hU hL)
  have HCH := Lib.hid (fun W (hc : Chg [] w W) => rchain_any (hr.quiet hc) hh.n0 hU (by omega))
  have HTH := Lib.hid hU.there
  have HD := Lib.hid hr
  have HS := Lib.hid hh
  have HLS := Lib.hid (show ∀ k ∈ S, k < w.heap.size from hr.lt)
  obtain ⟨n, hnn⟩ : ∃ n, n = L.length := ⟨_, rfl⟩
  rw [← hnn] at HCH hL
  have HN := Lib.hid hnn
  unfold chargeR
  obtain ⟨lf, hlf⟩ : ∃ lf, lf = leftR r L := ⟨_, rfl⟩
  rw [← hlf] at HLF h0 ⊢
  clear hr hh hU hnn hlf
  by_cases hp : 0 < lf
  · have hd : decide (0 < lf) = true := decide_eq_true hp
    have e1 : (lf == 0) = false := by have : ¬ lf = 0 := by omega
                                      simpa using this
    rw [if_pos hp, hd]
    clear hp hd
    go_enter Try.func11, Try.ntmps11
    go_wp2_with (first
      | (go_at_call 17; refine (HLF.out _ ((Chg.refl _ _).alloc _)).mono ?_; rintro e w1 ⟨rfl, hc⟩; have HC1 := Lib.hid (((Chg.refl [] w).alloc _).then hc); have hb := ((Blk.new w 34 #[.int .i64 i, .int .u64 q]).chg hc (by simp)); have b0 := hb.cell 0; have b1 := hb.cell 1; have lb := hb.lt; clear hc hb)
      | (go_at_call 36; refine (HCH.out _ HC1.out).mono ?_; rintro e w2 ⟨A, cc, rfl, hr, hf, hc⟩; have HR := Lib.hid hr; have HF := Lib.hid hf; have HC2 := Lib.hid (HC1.out.then hc); clear hr hf hc))
    go_loopg [6] n (fun gh iv wr => ∃ j : Nat, j + gh = n ∧ iv = .int .i64 j ∧ Hid (RTurns h S (useR (L.take j) r) w2 wr ∧ (useR (L.take j) r).Held M ch ∧ Like r (useR (L.take j) r)))
    case atStart => exact ⟨0, by omega, rfl, Lib.hid ⟨RTurns.refl (HD.out.quiet HC2.out) (Chg.refl _ _), HS.out, Like.refl r⟩⟩
    case round =>
      obtain ⟨j, hj, rfl, HH⟩ := hrel
      obtain ⟨hT, hheld, hlk⟩ := HH.out
      by_cases hlt : j < n
      · have j0 : (0 : Int) ≤ (j : Int) := by omega
        have j1 : (j : Int) < (n : Int) := by omega
        obtain ⟨S1, hra, hs1, hc⟩ := hT
        obtain ⟨x, hx⟩ : ∃ x, L[j]? = some x := ⟨_, List.getElem?_eq_getElem (by rw [← HN.out]; exact hlt)⟩
        obtain ⟨gr, cr, hv, hfo, _, hcell, _, lgr2⟩ := HR.out.form (by omega)
        have hgS : gr ∉ S := fun hm => by
          have := HLS.out gr hm
          have := HF.out gr (by rw [hfo]; simp)
          have := HC1.out.size
          omega
        simp only [Value.slice.injEq] at hv
        obtain ⟨rfl, h91, h92⟩ := hv
        clear h91 h92
        obtain ⟨x0, x1⟩ := refCells_at hx
        have y0 := (hc.cell (p := ⟨gr, j * 2, none⟩) lgr2 hgS).trans (hcell _ _ x0)
        have y1 := (hc.cell (p := ⟨gr, j * 2 + 1, none⟩) lgr2 hgS).trans (hcell _ _ x1)
        obtain ⟨k, rfl, hk, hki⟩ := HTH.out x (List.mem_of_getElem? hx)
        have hik : ((useR (L.take j) r).pl k).is = true := by rw [hlk.is]; exact hki
        have HUS := Lib.hid (fun W (hW : Chg [] wr W) => ruse_at (hra.quiet hW) hheld hik (hlk.gen k))
        have HNX := Lib.hid (show (useR (L.take j) r).useK k = useR (L.take (j + 1)) r ∧ (useR (L.take (j + 1)) r).Held M ch ∧ Like r (useR (L.take (j + 1)) r) by
          rw [take_more hx, useR_snoc, Int.toNat_natCast]
          exact ⟨rfl, useK_held hheld hik, hlk.trans (Like.set1 (by rw [hlk.len]; exact hk) _ _)⟩)
        obtain ⟨g, hg⟩ : ∃ g, g = (r.pl k).gen := ⟨_, rfl⟩
        simp only at y0 y1
        rw [← hg] at HUS y1
        rw [HNX.out.1] at HUS
        have HC3 := Lib.hid hc
        have HS1 := Lib.hid hs1
        clear hx hcell x0 x1 hc HH hlk hra hs1 hheld hg hgS hfo HTH hik
        go_wp2_with (first
          | (go_at_call 13; refine (HUS.out _ (Chg.refl _ _)).mono ?_; rintro e w3 ⟨rfl, hT3⟩; have HT3 := Lib.hid hT3; clear hT3))
        go_roundg (n - j - 1)
        case measure => omega
        case rel => exact ⟨j + 1, by omega, by go_num, Lib.hid ⟨RTurns.trans HS1.out HC3.out HT3.out, HNX.out.2.1, HNX.out.2.2⟩⟩
      · obtain rfl : n = j := by omega
        rw [HN.out, List.take_length] at hT
        have HT := Lib.hid hT
        clear HH hT hlk hheld
        go_wp2
        go_ret
        exact ⟨rfl, RTurns.earlier HT.out HC2.out⟩
  · have hd : decide (0 < lf) = false := decide_eq_false hp
    have e1 : (lf == 0) = true := by have : lf = 0 := by omega
                                     simpa using this
    rw [if_neg hp, hd]
    clear hp hd
    go_enter Try.func11, Try.ntmps11
    go_wp2_with (first
      | (go_at_call 17; refine (HLF.out _ ((Chg.refl _ _).alloc _)).mono ?_; rintro e w1 ⟨rfl, hc⟩; have HC1 := Lib.hid (((Chg.refl [] w).alloc _).then hc); clear hc))
    go_ret
    exact ⟨rfl, RTurns.refl HD.out HC1.out⟩
theorem leftR_nn {M : Nat} {r : RTab} {ch : Nat → List (Int × Int)} (hh : r.Held M ch) (L : List (Int × Int)) : 0 ≤ leftR r L := by
  unfold leftR
  cases hm : minF (tellR r) L with
  | none => exact Int.le_refl _
  | some n =>
    obtain ⟨⟨x, hx, e⟩, _⟩ := (minF_iff _ _ _).1 hm
    unfold tellR at e
    split at e
    · next hi =>
      obtain ⟨k, e1, hk, _⟩ := is_pl.1 hi
      cases e
      rw [e1, Int.toNat_natCast]
      exact (tellR_bd hh hk).1
    · cases e
end Go.Proofs
end
section
namespace Go.Proofs
open Go.RowKit Go.Shelf
set_option linter.unusedVariables false
set_option linter.unusedSimpArgs false

set_option maxHeartbeats 3200000 in
set_option maxRecDepth 100000 in
theorem rtight_any {w : World} {h M : Nat} {S : List Nat} {r : RTab} {ch : Nat → List (Int × Int)} (hr : RefAt w h S r) (hh : r.Held M ch) {i q : Int} {L : List (Int × Int)} (hU : Up r.par i q L) (hL : L.length ≤ 1000) :
    Calls Try.prog 19 #[ptr h, .agg #[.int .i64 i, .int .u64 q]] w fun e w' => e = tightAns (tightO r L) ∧ Chg [] w w' := by
  have HCH := Lib.hid (fun W (hc : Chg [] w W) => rchain_any (hr.quiet hc) hh.n0 hU (by omega))
  have HGE := Lib.hid (fun W (hc : Chg [] w W) (k : Nat) (hk : k < r.L.length) => rget_at (hr.quiet hc) hh hk)
  have HTH := Lib.hid hU.there
  have HBD := Lib.hid (fun k (hk : k < r.L.length) => (hh.nums k hk).2.2)
  obtain ⟨n, hnn⟩ : ∃ n, n = L.length := ⟨_, rfl⟩
  rw [← hnn] at HCH hL
  have HN := Lib.hid hnn
  clear hr hh hU hnn
  go_enter Try.func19, Try.ntmps19
  go_wp2_with (go_at_call 36; refine (HCH.out _ (((Chg.refl _ _).alloc _).alloc _)).mono ?_; rintro e w1 ⟨A, cc, rfl, hrow, _, hc⟩; have HR := Lib.hid hrow; have HC := Lib.hid ((((Chg.refl [] w).alloc _).alloc _).then hc); have HB := Lib.hid (((Blk.at' (w.alloc (obRef i q)) 34 #[.int .i64 0, .int .u64 0] (n := w.heap.size + 1) (by simp))).chg hc (by simp)); clear hrow hc)
  go_loopg [7] n (fun gh iv wr => ∃ j : Nat, j + gh = n ∧ iv = .int .i64 j ∧ Hid (Chg [] w1 wr ∧ ∀ x ∈ L.take j, ¬ (r.pl x.1.toNat).left = 0))
  case atStart => exact ⟨0, by omega, rfl, Lib.hid ⟨Chg.refl _ _, fun x hx => by rw [List.take_zero] at hx; cases hx⟩⟩
  case round =>
    obtain ⟨j, hj, rfl, HH⟩ := hrel
    obtain ⟨hc, hno⟩ := HH.out
    have hB := HB.out.chg hc (by simp)
    have z0 := hB.cell 0
    have z1 := hB.cell 1
    have lz := hB.lt
    have zf := hB.frozen
    by_cases hlt : j < n
    · have j0 : (0 : Int) ≤ (j : Int) := by omega
      have j1 : (j : Int) < (n : Int) := by omega
      obtain ⟨x, hx⟩ : ∃ x, L[j]? = some x := ⟨_, List.getElem?_eq_getElem (by rw [← HN.out]; exact hlt)⟩
      obtain ⟨gr, cr, hv, _, _, hcell, _, lgr2⟩ := HR.out.form (by omega)
      simp only [Value.slice.injEq] at hv
      obtain ⟨rfl, h91, h92⟩ := hv
      clear h91 h92
      obtain ⟨x0, x1⟩ := refCells_at hx
      have y0 := (hc.cell (p := ⟨gr, j * 2, none⟩) lgr2 (by simp)).trans (hcell _ _ x0)
      have y1 := (hc.cell (p := ⟨gr, j * 2 + 1, none⟩) lgr2 (by simp)).trans (hcell _ _ x1)
      obtain ⟨k, rfl, hk, hki⟩ := HTH.out x (List.mem_of_getElem? hx)
      have HTX := Lib.hid (fun W (hW : Chg [] wr W) => HGE.out W ((HC.out.then hc).then hW) k hk (r.pl k).gen)
      obtain ⟨⟨c0, c1⟩, ⟨d0, d1⟩, _⟩ := HBD.out k hk
      have hx1 : (r.get ch (k : Nat) (r.pl k).gen).cpu = (r.pl k).cpu ∧ (r.get ch (k : Nat) (r.pl k).gen).used = (r.pl k).used := ⟨rfl, rfl⟩
      obtain ⟨X, hX⟩ : ∃ X, X = r.get ch (k : Nat) (r.pl k).gen := ⟨_, rfl⟩
      rw [← hX] at HTX hx1
      obtain ⟨X0, X1, X2, X3, X4, X5, X6, X7, X8, X9, X10⟩ := X
      simp only at hx1
      obtain ⟨rfl, rfl⟩ := hx1
      have HXX := Lib.hid hx
      obtain ⟨g, hg⟩ : ∃ g, g = (r.pl k).gen := ⟨_, rfl⟩
      obtain ⟨cp, hcp⟩ : ∃ cp, cp = (r.pl k).cpu := ⟨_, rfl⟩
      obtain ⟨us, hus⟩ : ∃ us, us = (r.pl k).used := ⟨_, rfl⟩
      simp only at y0 y1
      rw [← hg] at HTX y1 HXX
      rw [← hcp] at HTX c0 c1
      rw [← hus] at HTX d0 d1
      have HCW := Lib.hid hc
      have HNO := Lib.hid hno
      have HRC := Lib.hid (fun o v (hv : (refCells L)[o]? = some v) => hcell o v hv)
      have HRX := Lib.hid (show (refCells L)[j * 2]? = some (.int .i64 (k : Nat)) ∧ (refCells L)[j * 2 + 1]? = some (.int .u64 g) from ⟨x0, by rw [hg]; exact x1⟩)
      by_cases ha : cp ≤ us
      · have hlf : (r.pl k).left = 0 := Pl.left_no (by rw [← hcp, ← hus]; exact ha)
        have HY := Lib.hid (show tightO r L = some (((k : Nat) : Int), g) by
          have hs : L = L.take j ++ (((k : Nat) : Int), g) :: L.drop (j + 1) := by
            obtain ⟨hl, e⟩ := List.getElem?_eq_some_iff.1 HXX.out
            rw [← e, ← List.drop_eq_getElem_cons hl, List.take_append_drop]
          rw [hs]; exact tightO_yes HNO.out (by rw [Int.toNat_natCast]; exact hlf))
        have e2 : decide (cp ≤ us) = true := decide_eq_true ha
        have e3 : decide (us ≥ cp) = true := decide_eq_true ha
        clear hx hcell x0 x1 hc HH hno hX hg hcp hus ha hlf hB
        go_wp2_with (first | (go_at_call 43; refine (HTX.out _ (Chg.refl _ _)).mono ?_; rintro e w2 ⟨rfl, hc1⟩; have HC1 := Lib.hid (HCW.out.then hc1); have y0 := (HC1.out.cell (p := ⟨gr, j * 2, none⟩) lgr2 (by simp)).trans (HRC.out _ _ HRX.out.1); have y1 := (HC1.out.cell (p := ⟨gr, j * 2 + 1, none⟩) lgr2 (by simp)).trans (HRC.out _ _ HRX.out.2); have hB := HB.out.chg HC1.out (by simp); have z0 := hB.cell 0; have z1 := hB.cell 1; have lz := hB.lt; have zf := hB.frozen; have HB2 := Lib.hid hB; have lg2 : gr < w2.heap.size := (by have := HC1.out.size; omega); clear hc1 hB))
        refine bodyPost_ret (v := .tuple #[.agg #[.int .i64 (k : Nat), .int .u64 g], .bool true]) ?_ rfl ⟨by rw [HY.out]; rfl, ?_⟩
        · have hZ := (((HB2.out.set_ 0 (.int .i64 (k : Nat))).set_ 1 (.int .u64 g))).alloc (obX ⟨X0, X1, X2, cp, X4, X5, X6, X7, X8, us, X10⟩)
          generalize (((w2.setCell ⟨w.heap.size + 1, 0, none⟩ (.int .i64 (k : Nat))).setCell ⟨w.heap.size + 1, 1, none⟩ (.int .u64 g)).alloc (obX ⟨X0, X1, X2, cp, X4, X5, X6, X7, X8, us, X10⟩)) = W4 at hZ ⊢
          have q0 := hZ.cell 0
          have q1 := hZ.cell 1
          simp at q0 q1
          simp [results, Try.results19, go_sem, q0, q1]
        · have HC9 := Lib.hid (HC.out.then HC1.out)
          repeat' (first | with_reducible exact HC9.out | with_reducible apply Chg.alloc | with_reducible apply Chg.setCell | (with_reducible refine Or.inr ?_; dsimp only; omega))
      · have hlf : ¬ (r.pl k).left = 0 := by rw [Pl.left_yes (by rw [← hcp, ← hus]; exact ha), ← hcp, ← hus]; omega
        have e2 : decide (cp ≤ us) = false := decide_eq_false ha
        have e3 : decide (us ≥ cp) = false := decide_eq_false ha
        have HY := Lib.hid (show ∀ x ∈ L.take (j + 1), ¬ (r.pl x.1.toNat).left = 0 by
          rw [take_more HXX.out]
          intro x hx
          rcases List.mem_append.1 hx with hx | hx
          · exact HNO.out x hx
          · rw [List.mem_singleton] at hx; rw [hx, Int.toNat_natCast]; exact hlf)
        clear hx hcell x0 x1 hc HH hno hX hg hcp hus ha hlf hB
        go_wp2_with (first | (go_at_call 43; refine (HTX.out _ (Chg.refl _ _)).mono ?_; rintro e w2 ⟨rfl, hc1⟩; have HC1 := Lib.hid (HCW.out.then hc1); clear hc1))
        go_roundg (n - j - 1)
        case measure => omega
        case rel => exact ⟨j + 1, by omega, by go_num, Lib.hid ⟨HC1.out.alloc _, HY.out⟩⟩
    · obtain rfl : n = j := by omega
      have HY := Lib.hid (tightO_no (r := r) (L := L) (by rw [HN.out, List.take_length] at hno; exact hno))
      have HCW := Lib.hid (HC.out.then hc)
      have HB2 := Lib.hid hB
      clear hc HH hno hB
      go_wp2
      refine bodyPost_ret (v := .tuple #[.agg #[.int .i64 0, .int .u64 0], .bool false]) ?_ rfl ⟨by rw [HY.out]; rfl, ?_⟩
      · have hZ := (((HB2.out.set_ 0 (.int .i64 0)).set_ 1 (.int .u64 0)))
        generalize ((wr.setCell ⟨w.heap.size + 1, 0, none⟩ (.int .i64 0)).setCell ⟨w.heap.size + 1, 1, none⟩ (.int .u64 0)) = W4 at hZ ⊢
        have q0 := hZ.cell 0
        have q1 := hZ.cell 1
        simp at q0 q1
        simp [results, Try.results19, go_sem, q0, q1]
      · repeat' (first | with_reducible exact HCW.out | with_reducible apply Chg.alloc | with_reducible apply Chg.setCell | (with_reducible refine Or.inr ?_; dsimp only; omega))
end Go.Proofs
end
section
namespace Go.Proofs
open Go.RowKit Go.Shelf
set_option linter.unusedVariables false
set_option linter.unusedSimpArgs false

theorem RefAt.off_row {w : World} {h : Nat} {S : List Nat} {r : RTab} {v : Value} {n : Nat} {xs : List Value} (hr : RefAt w h S r) (hrow : Row w 34 2 v n xs) : ∀ k ∈ foot v, k ∉ S := fun k hk => by
  rcases hrow.2 with ⟨e, _⟩ | ⟨b, cap, cur, e, hb, _⟩
  · rw [e] at hk; cases hk
  · rw [e] at hk; simp [foot_some] at hk; subst hk
    exact hr.not_box hb (by decide) (by decide) (by decide)
theorem RTurns.row {w w3 w4 : World} {h : Nat} {S : List Nat} {r : RTab} {v : Value} {n : Nat} {xs : List Value} (hr : RTurns h S r w w3) (hrow : Row w3 34 2 v n xs) (hft : ∀ k ∈ foot v, w.heap.size ≤ k) (hc : Chg (foot v) w3 w4) : RTurns h S r w w4 := by
  obtain ⟨S', h1, h2, h3⟩ := hr
  exact ⟨S', h1.chg hc (fun k hk hm => h1.off_row hrow k hm hk), h2, h3.trans hc (fun k hk => .inr (hft k hk))⟩
set_option maxHeartbeats 3200000 in
set_option maxRecDepth 100000 in
theorem rreset_any {w : World} {h M : Nat} {S : List Nat} {r : RTab} {ch : Nat → List (Int × Int)} (hr : RefAt w h S r) (hh : r.Held M ch) (hp : Pers r) {now : Int} (n0 : 0 ≤ now) (n1 : now < 18446744073709551616) :
    Calls Try.prog 16 #[ptr h, .int .u64 now] w fun e w' => ∃ A cc, e = .returned (.slice A (begunL now (r.all ch)).length cc) ∧ Row w' 34 2 (.slice A (begunL now (r.all ch)).length cc) (begunL now (r.all ch)).length (refCells (begunL now (r.all ch))) ∧ (∀ k ∈ foot (.slice A (begunL now (r.all ch)).length cc), w.heap.size ≤ k) ∧ RTurns h S (resetR r ch now) w w' ∧ (resetR r ch now).Held M ch := by
  obtain ⟨in0, hi0, hq0, hq1, hq2⟩ := info_parts Try.info_R
  have HA := Lib.hid (fun W (hW : Chg [] w W) => rall_any (hr.quiet hW) hh.n0 hh.fine hh.Chs)
  have hn := hh.n1
  have hl := all_len r ch
  have HI := Lib.hid (all_per hp ch)
  have HK := Lib.hid (fun (p : Plc) (hm : p ∈ r.all ch) => all_mem.1 hm)
  have HD := Lib.hid hr
  have HS := Lib.hid hh
  have HLS := Lib.hid (show ∀ k ∈ S, k < w.heap.size from hr.lt)
  unfold resetR
  obtain ⟨l, hl0⟩ : ∃ l, l = r.all ch := ⟨_, rfl⟩
  rw [← hl0] at HA hl HI HK ⊢
  obtain ⟨n, hnn⟩ : ∃ n, n = l.length := ⟨_, rfl⟩
  rw [← hnn] at HA hl
  have HN := Lib.hid hnn
  clear hl0 hp hh hr hnn
  go_enter Try.func16, Try.ntmps16
  go_wp2_with (first
    | (go_at_call 26; refine (HA.out _ (Chg.refl _ _)).mono ?_; rintro e w1 ⟨A0, cc0, rfl, hr, hf, hc⟩; have HR := Lib.hid hr; have HF := Lib.hid hf; have HC1 := Lib.hid hc; clear hr hf hc))
  go_loopg [5, 7] n (fun gh v5 iv wr => ∃ (j : Nat) (A : Option Addr) (cc : Nat), j + gh = n ∧ iv = .int .i64 j ∧ v5 = .slice A (begunL now (l.take j)).length cc ∧ Hid (Row wr 34 2 (.slice A (begunL now (l.take j)).length cc) (begunL now (l.take j)).length (refCells (begunL now (l.take j))) ∧ (∀ k ∈ foot (.slice A (begunL now (l.take j)).length cc), w1.heap.size ≤ k)) ∧ Hid (RTurns h S (clearR (begunL now (l.take j)) r) w1 wr ∧ (clearR (begunL now (l.take j)) r).Held M ch ∧ Like r (clearR (begunL now (l.take j)) r)))
  case atStart => exact ⟨0, none, 0, by omega, rfl, rfl, Lib.hid ⟨Row.nil _ _ _, fun k hk => (by cases hk)⟩, Lib.hid ⟨RTurns.refl (HD.out.quiet HC1.out) (Chg.refl _ _), HS.out, Like.refl r⟩⟩
  case round =>
    obtain ⟨j, A, cc, hj, rfl, rfl, HH, HT⟩ := hrel
    obtain ⟨hrow, hft⟩ := HH.out
    obtain ⟨hT, hheld, hlk⟩ := HT.out
    have hc : Chg S w1 wr := by obtain ⟨_, _, _, hc⟩ := hT; exact hc
    have hbl := begunL_len now (l.take j)
    rw [List.length_take] at hbl
    obtain ⟨bg, hbg⟩ : ∃ bg, bg = begunL now (l.take j) := ⟨_, rfl⟩
    rw [← hbg] at hrow hft hT hheld hlk hbl ⊢
    by_cases hlt : j < n
    · have j0 : (0 : Int) ≤ (j : Int) := by omega
      have j1 : (j : Int) < (n : Int) := by omega
      obtain ⟨p, hpj⟩ : ∃ p, l[j]? = some p := ⟨_, List.getElem?_eq_getElem (by rw [← HN.out]; exact hlt)⟩
      obtain ⟨gr, cr, hv, hfo, _, hcell, _, lgr2⟩ := HR.out.form (by omega)
      have hgS : gr ∉ S := fun hm => by
        have := HLS.out gr hm
        have := HF.out gr (by rw [hfo]; simp)
        omega
      simp only [Value.slice.injEq] at hv
      obtain ⟨rfl, h91, h92⟩ := hv
      clear h91 h92
      obtain ⟨x0, x1, x2, x3, x4, x5, x6, x7, x8, x9, x10, x11, x12⟩ := plcCells_at hpj
      have y0 := (hc.cell (p := ⟨gr, j * 13, none⟩) lgr2 hgS).trans (hcell _ _ x0)
      have y1 := (hc.cell (p := ⟨gr, j * 13 + 1, none⟩) lgr2 hgS).trans (hcell _ _ x1)
      have y2 := (hc.cell (p := ⟨gr, j * 13 + 2, none⟩) lgr2 hgS).trans (hcell _ _ x2)
      have y3 := (hc.cell (p := ⟨gr, j * 13 + 3, none⟩) lgr2 hgS).trans (hcell _ _ x3)
      have y4 := (hc.cell (p := ⟨gr, j * 13 + 4, none⟩) lgr2 hgS).trans (hcell _ _ x4)
      have y5 := (hc.cell (p := ⟨gr, j * 13 + 5, none⟩) lgr2 hgS).trans (hcell _ _ x5)
      have y6 := (hc.cell (p := ⟨gr, j * 13 + 6, none⟩) lgr2 hgS).trans (hcell _ _ x6)
      have y7 := (hc.cell (p := ⟨gr, j * 13 + 7, none⟩) lgr2 hgS).trans (hcell _ _ x7)
      have y8 := (hc.cell (p := ⟨gr, j * 13 + 8, none⟩) lgr2 hgS).trans (hcell _ _ x8)
      have y9 := (hc.cell (p := ⟨gr, j * 13 + 9, none⟩) lgr2 hgS).trans (hcell _ _ x9)
      have y10 := (hc.cell (p := ⟨gr, j * 13 + 10, none⟩) lgr2 hgS).trans (hcell _ _ x10)
      have y11 := (hc.cell (p := ⟨gr, j * 13 + 11, none⟩) lgr2 hgS).trans (hcell _ _ x11)
      have y12 := (hc.cell (p := ⟨gr, j * 13 + 12, none⟩) lgr2 hgS).trans (hcell _ _ x12)
      have hm := List.mem_of_getElem? hpj
      obtain ⟨hp1, hp2⟩ := HI.out p hm
      have e1 : now.tmod p.x.per = now % p.x.per := Int.tmod_eq_emod_of_nonneg n0
      obtain ⟨m0, m1, m2⟩ := mod_bd n0 hp1
      have hbq : beginsQ now p = decide (now % p.x.per = 0) := rfl
      obtain ⟨m, hm0⟩ : ∃ m, m = now % p.x.per := ⟨_, rfl⟩
      rw [← hm0] at e1 m0 m1 m2 hbq
      have e2 : IntKind.u64.wrap m = m := by rw [IntKind.wrap_u64]; omega
      obtain ⟨per, hpe⟩ : ∃ per, per = p.x.per := ⟨_, rfl⟩
      rw [← hpe] at e1 y6 hp1 hp2 m2
      have e4 : ¬ per = 0 := by omega
      have e5 : (per == 0) = false := by simpa using e4
      have HTK := Lib.hid (take_more hpj)
      have HCW := Lib.hid hc
      have HRW := Lib.hid hrow
      have HFW := Lib.hid hft
      have HTT := Lib.hid hT
      have HLK := Lib.hid hlk
      have HBG := Lib.hid hbg
      by_cases hz : m = 0
      · obtain ⟨k, hk, hki, hpk⟩ := HK.out p hm
        have hpi : p.i = (k : Nat) := by rw [hpk]
        have hpq : p.q = (r.pl k).gen := by rw [hpk]
        obtain ⟨S1, hra, hs1, _⟩ := hT
        have HY := Lib.hid (show bg ++ [(((k : Nat) : Int), (r.pl k).gen)] = begunL now (l.take (j + 1)) by rw [HTK.out, begunL_yes (by rw [hbq]; exact decide_eq_true hz), ← hbg, hpi, hpq])
        have hik : ((clearR bg r).pl k).is = true := by rw [hlk.is]; exact hki
        have HUS := Lib.hid (fun W (hW : Chg [] wr W) => rclear_at (hra.quiet hW) hheld hik (hlk.gen k))
        have HNX := Lib.hid (show (clearR bg r).clearK k = clearR (bg ++ [(((k : Nat) : Int), (r.pl k).gen)]) r ∧ (clearR (bg ++ [(((k : Nat) : Int), (r.pl k).gen)]) r).Held M ch ∧ Like r (clearR (bg ++ [(((k : Nat) : Int), (r.pl k).gen)]) r) by
          rw [clearR_snoc, Int.toNat_natCast]
          exact ⟨rfl, clearK_held hheld hik, hlk.trans (Like.set1 (by rw [hlk.len]; exact hk) _ _)⟩)
        have HS1 := Lib.hid (hra.off_row hrow)
        have HSS := Lib.hid hs1
        have HGC := Lib.hid (fun W (hW : Chg S w1 W) => (⟨(hW.cell (p := ⟨gr, j * 13, none⟩) lgr2 hgS).trans (hcell _ _ x0), (hW.cell (p := ⟨gr, j * 13 + 1, none⟩) lgr2 hgS).trans (hcell _ _ x1)⟩ : _ ∧ _))
        rw [hpi, hpq] at HGC
        obtain ⟨g, hg⟩ : ∃ g, g = (r.pl k).gen := ⟨_, rfl⟩
        rw [hpi] at y0
        rw [hpq] at y1
        rw [HNX.out.1] at HUS
        rw [← hg] at HUS HNX HY y1 HGC
        have e6 : (m == 0) = true := by simpa using hz
        clear hpj hcell x0 x1 x2 x3 x4 x5 x6 x7 x8 x9 x10 x11 x12 hm hbq hm0 hpe hc hrow hft hlk hbg HH HTT HT hz hfo hgS hpk hpi hpq hg hheld hra hs1 hik
        go_wp2_with (first
          | (go_at_call 42; refine (HUS.out _ (Chg.refl _ _)).mono ?_; rintro e w3 ⟨rfl, hT3⟩; have HT3 := Lib.hid (RTurns.trans HSS.out HCW.out hT3); obtain ⟨_, _, _, hc3⟩ := hT3; have HR3 := Lib.hid (HRW.out.chg hc3 HS1.out); have HC3 := Lib.hid (HCW.out.trans hc3 HSS.out); obtain ⟨y0, y1⟩ := HGC.out _ HC3.out; have z3 := HC3.out.size; have lgr3 : gr < w3.heap.size := (by omega); clear hc3)
          | (at_builtin; refine wpList_append_row _ rfl _ _ 27 rfl 34 in0 (.agg #[.int .i64 0, .int .u64 0]) 2 16 Try.underlying27 hi0 hq0 hq1 hq2 rfl (.slice A bg.length cc) bg.length (refCells bg) rfl (HR3.out.alloc _) ⟨w3.heap.size, 0, none⟩ 1 1 [.int .i64 (k : Nat), .int .u64 g] rfl rfl (World.news_of_block (cs := #[.int .i64 (k : Nat), .int .u64 g]) (t := 34) (fr := (0, 0)) (heap_alloc_new w3 _)) (by simp [Value.oneCell']) (by omega) (by unfold maxLen; omega) (by omega) (w3.heap.size + 1) (by simp) ?_; intro gg cap w4 hown hgrow hat hlt1; have HOWN := Lib.hid hown; have HG := Lib.hid hgrow; have HAT := Lib.hid hat; clear hown hgrow hat))
        go_roundg (n - j - 1)
        case measure => omega
        case rel =>
          have hgg : gg ∈ foot (.slice A bg.length cc) ∨ gg = w3.heap.size + 1 := HAT.out.imp (fun h => row_mem h) id
          have hc34 : Chg (foot (.slice A bg.length cc)) w3 w4 := ((Chg.refl _ w3).alloc _).grown HG.out (fun k hk => .inl (row_mem hk))
          refine ⟨j + 1, some ⟨gg, 0, none⟩, cap, by omega, by go_num, by rw [← HY.out, List.length_append]; rfl, Lib.hid ⟨?_, ?_⟩, Lib.hid ⟨?_, ?_, ?_⟩⟩
          · rw [← HY.out, refCells_snoc, List.length_append]; exact HOWN.out
          · intro k' hk'
            rw [← HY.out, List.length_append] at hk'
            simp [foot_some] at hk'
            subst hk'
            rcases hgg with h | h
            · exact HFW.out _ h
            · omega
          · rw [← HY.out]; exact HT3.out.row HR3.out HFW.out hc34
          · rw [← HY.out]; exact HNX.out.2.1
          · rw [← HY.out]; exact HNX.out.2.2
      · have HY := Lib.hid (show bg = begunL now (l.take (j + 1)) by rw [HTK.out, begunL_no (by rw [hbq]; exact decide_eq_false hz)]; exact hbg)
        have e6 : (m == 0) = false := by simpa using hz
        clear hpj hcell x0 x1 x2 x3 x4 x5 x6 x7 x8 x9 x10 x11 x12 hm hbq hm0 hpe hc hrow hft hT hlk hbg HH HT hz hfo hgS
        have HHD := Lib.hid hheld
        clear hheld
        go_wp2
        go_roundg (n - j - 1)
        case measure => omega
        case rel => exact ⟨j + 1, A, cc, by omega, by go_num, by rw [← HY.out], Lib.hid ⟨by rw [← HY.out]; exact HRW.out, by rw [← HY.out]; exact HFW.out⟩, Lib.hid ⟨by rw [← HY.out]; exact HTT.out, by rw [← HY.out]; exact HHD.out, by rw [← HY.out]; exact HLK.out⟩⟩
    · obtain rfl : n = j := by omega
      rw [HN.out, List.take_length] at hbg
      have HB := Lib.hid hbg
      have HR9 := Lib.hid hrow
      have HF9 := Lib.hid hft
      have HT9 := Lib.hid hT
      have HL9 := Lib.hid hheld
      clear hc HH hT hlk HT hbg hrow hft hheld
      go_wp2
      go_ret
      rw [← HB.out]
      exact ⟨A, cc, rfl, HR9.out, fun k hk => Nat.le_trans HC1.out.size (HF9.out k hk), RTurns.earlier HT9.out HC1.out, HL9.out⟩
end Go.Proofs
end
section
namespace Go.Proofs
open Go.RowKit Go.Shelf
set_option linter.unusedVariables false
set_option linter.unusedSimpArgs false

set_option maxHeartbeats 3200000 in
set_option maxRecDepth 100000 in
theorem rsameR_any {w : World} {V1 V2 : Value} {l1 l2 : List (Int × Int)} (h1 : Row w 34 2 V1 l1.length (refCells l1)) (h2 : Row w 34 2 V2 l2.length (refCells l2)) (hl1 : l1.length ≤ 1000) (hl2 : l2.length ≤ 1000) :
    Calls Try.prog 14 #[V1, V2] w fun e w' => e = .returned (.bool (decide (l1 = l2))) ∧ Chg [] w w' := by
  obtain ⟨A1, c1, rfl, _⟩ := h1.val
  obtain ⟨A2, c2, rfl, _⟩ := h2.val
  have H1 := Lib.hid h1
  have H2 := Lib.hid h2
  obtain ⟨n, hn⟩ : ∃ n, n = l1.length := ⟨_, rfl⟩
  obtain ⟨m, hm⟩ : ∃ m, m = l2.length := ⟨_, rfl⟩
  rw [← hn, ← hm]
  rw [← hn] at hl1
  have HN := Lib.hid hn
  have HM := Lib.hid hm
  clear h1 h2 hn hm
  by_cases hnm : n = m
  · subst hnm
    go_enter Try.func14, Try.ntmps14
    go_wp2
    go_loopg [5] n (fun gh iv wr => ∃ j : Nat, j + gh = n ∧ iv = .int .i64 j ∧ Hid (Chg [] w wr ∧ l1.take j = l2.take j))
    case atStart => exact ⟨0, by omega, rfl, Lib.hid ⟨Chg.refl _ _, rfl⟩⟩
    case round =>
      obtain ⟨j, hj, rfl, HH⟩ := hrel
      obtain ⟨hc, htk⟩ := HH.out
      by_cases hlt : j < n
      · have j0 : (0 : Int) ≤ (j : Int) := by omega
        have j1 : (j : Int) < (n : Int) := by omega
        obtain ⟨x, hx⟩ : ∃ x, l1[j]? = some x := ⟨_, List.getElem?_eq_getElem (by rw [← HN.out]; exact hlt)⟩
        obtain ⟨y, hy⟩ : ∃ y, l2[j]? = some y := ⟨_, List.getElem?_eq_getElem (by rw [← HM.out]; exact hlt)⟩
        obtain ⟨g1, d1, hv1, _, _, hcell1, _, lg1⟩ := H1.out.form (by rw [← HN.out]; omega)
        obtain ⟨g2, d2, hv2, _, _, hcell2, _, lg2⟩ := H2.out.form (by rw [← HM.out]; omega)
        simp only [Value.slice.injEq] at hv1 hv2
        obtain ⟨rfl, h91, h92⟩ := hv1
        obtain ⟨rfl, h93, h94⟩ := hv2
        clear h91 h92 h93 h94
        obtain ⟨p0, p1⟩ := refCells_at hx
        obtain ⟨q0, q1⟩ := refCells_at hy
        have x0 := (hc.cell (p := ⟨g1, j * 2, none⟩) lg1 (by simp)).trans (hcell1 _ _ p0)
        have x1 := (hc.cell (p := ⟨g1, j * 2 + 1, none⟩) lg1 (by simp)).trans (hcell1 _ _ p1)
        have y0 := (hc.cell (p := ⟨g2, j * 2, none⟩) lg2 (by simp)).trans (hcell2 _ _ q0)
        have y1 := (hc.cell (p := ⟨g2, j * 2 + 1, none⟩) lg2 (by simp)).trans (hcell2 _ _ q1)
        have hneq := fun W => neq_refs x.1 x.2 y.1 y.2 W
        have hxy : (x.1 == y.1 && x.2 == y.2) = decide (x = y) := by
          rw [Bool.eq_iff_iff]; simp [Prod.ext_iff]
        rw [hxy] at hneq
        have ht1 : l1.take (j + 1) = l1.take j ++ [x] := by rw [List.take_add_one, hx]; rfl
        have ht2 : l2.take (j + 1) = l2.take j ++ [y] := by rw [List.take_add_one, hy]; rfl
        have HC := Lib.hid hc
        by_cases e : x = y
        · have HY := Lib.hid (show l1.take (j + 1) = l2.take (j + 1) by rw [ht1, ht2, htk, e])
          rw [decide_eq_true e] at hneq
          clear p0 q0 p1 q1 hcell1 hcell2 hx hy hc htk HH ht1 ht2 hxy e
          go_wp2
          go_quiet (fail)
          go_wp2
          go_roundg (n - j - 1)
          case measure => omega
          case rel => exact ⟨j + 1, by omega, by go_num, Lib.hid ⟨HC.out.drewN _, HY.out⟩⟩
        · have HY := Lib.hid (show ¬ l1 = l2 from fun e' => e (by subst e'; rw [hx] at hy; exact Option.some.inj hy))
          rw [decide_eq_false e] at hneq
          clear p0 q0 p1 q1 hcell1 hcell2 hx hy hc htk HH ht1 ht2 hxy e
          go_wp2
          go_quiet (fail)
          go_wp2
          go_ret
          exact ⟨by rw [decide_eq_false HY.out]; rfl, HC.out.drewN _⟩
      · obtain rfl : n = j := by omega
        have HY := Lib.hid (show l1 = l2 by rw [List.take_of_length_le (by rw [← HN.out]; exact Nat.le_refl _), List.take_of_length_le (by rw [← HM.out]; exact Nat.le_refl _)] at htk; exact htk)
        have HC := Lib.hid hc
        clear hc htk HH
        go_wp2
        go_ret
        exact ⟨by rw [decide_eq_true HY.out]; rfl, HC.out⟩
  · have hne : ((n : Int) == (m : Int)) = false := by simp; omega
    have hne2 : (n == m) = false := by simpa using hnm
    have HY := Lib.hid (show ¬ l1 = l2 from fun e => hnm (by rw [HN.out, HM.out, e]))
    go_enter Try.func14, Try.ntmps14
    go_wp2
    go_ret
    exact ⟨by rw [decide_eq_false HY.out]; rfl, Chg.refl _ _⟩
end Go.Proofs
end
section
namespace Go.Proofs
open Go.RowKit Go.Shelf
set_option linter.unusedVariables false
set_option linter.unusedSimpArgs false

/-- The next time, reckoned by whole periods. -/
theorem nextP_no {now per : Int} (n0 : 0 ≤ now) (hp : 1 ≤ per) (h : 18446744073709551615 / per ≤ now / per) : nextP now per = none := by
  unfold nextP
  have h1 := Int.mul_ediv_add_emod now per
  have h2 : ¬ (now / per + 1 ≤ 18446744073709551615 / per) := by omega
  rw [Int.le_ediv_iff_mul_le (by omega)] at h2
  have h3 : (now / per + 1) * per = per * (now / per) + per := by rw [Int.add_mul, Int.mul_comm, Int.one_mul]
  rw [if_neg (by omega)]
theorem nextP_yes {now per : Int} (n0 : 0 ≤ now) (hp : 1 ≤ per) (h : ¬ 18446744073709551615 / per ≤ now / per) : nextP now per = some ((now / per + 1) * per) ∧ (now / per + 1) * per ≤ 18446744073709551615 := by
  unfold nextP
  have h1 := Int.mul_ediv_add_emod now per
  have h2 : (now / per + 1 ≤ 18446744073709551615 / per) := by omega
  rw [Int.le_ediv_iff_mul_le (by omega)] at h2
  have h3 : (now / per + 1) * per = per * (now / per) + per := by rw [Int.add_mul, Int.mul_comm, Int.one_mul]
  have h4 : now - now % per + per = (now / per + 1) * per := by omega
  rw [if_pos (by omega), h4]
  exact ⟨rfl, h2⟩
set_option maxHeartbeats 3200000 in
set_option maxRecDepth 100000 in
theorem rnext_any {w : World} {h M : Nat} {S : List Nat} {r : RTab} {ch : Nat → List (Int × Int)} (hr : RefAt w h S r) (hh : r.Held M ch) (hp : Pers r) {now : Int} (n0 : 0 ≤ now) (n1 : now < 18446744073709551616) :
    Calls Try.prog 21 #[ptr h, .int .u64 now] w fun e w' => e = .returned (.tuple #[.int .u64 (oInt (nextR r ch now)), .bool (nextR r ch now).isSome]) ∧ Chg [] w w' := by
  have HA := Lib.hid (fun W (hW : Chg [] w W) => rall_any (hr.quiet hW) hh.n0 hh.fine hh.Chs)
  have hn := hh.n1
  have hl := all_len r ch
  have HI := Lib.hid (all_per hp ch)
  unfold nextR
  obtain ⟨l, hl0⟩ : ∃ l, l = r.all ch := ⟨_, rfl⟩
  rw [← hl0] at HA hl HI ⊢
  obtain ⟨n, hnn⟩ : ∃ n, n = l.length := ⟨_, rfl⟩
  rw [← hnn] at HA hl
  have HN := Lib.hid hnn
  clear hl0 hp hh hr hnn
  go_enter Try.func21, Try.ntmps21
  go_wp2_with (first
    | (go_at_call 26; refine (HA.out _ (Chg.refl _ _)).mono ?_; rintro e w1 ⟨A0, cc0, rfl, hr, hf, hc⟩; have HR := Lib.hid hr; have HC1 := Lib.hid hc; clear hr hf hc))
  go_loopg [6, 7, 9] n (fun gh v6 v7 iv wr => ∃ (j : Nat) (o : Option Int), j + gh = n ∧ v6 = .int .u64 (oInt o) ∧ v7 = .bool o.isSome ∧ iv = .int .i64 j ∧ Hid (Chg [] w1 wr ∧ o = minF (tellN now) (l.take j)))
  case atStart => exact ⟨0, none, by omega, rfl, rfl, rfl, Lib.hid ⟨Chg.refl _ _, by rw [List.take_zero]; rfl⟩⟩
  case round =>
    obtain ⟨j, o, hj, rfl, rfl, rfl, HH⟩ := hrel
    obtain ⟨hc, ho⟩ := HH.out
    by_cases hlt : j < n
    · have j0 : (0 : Int) ≤ (j : Int) := by omega
      have j1 : (j : Int) < (n : Int) := by omega
      obtain ⟨p, hpj⟩ : ∃ p, l[j]? = some p := ⟨_, List.getElem?_eq_getElem (by rw [← HN.out]; exact hlt)⟩
      obtain ⟨gr, cr, hv, _, _, hcell, _, lgr2⟩ := HR.out.form (by omega)
      simp only [Value.slice.injEq] at hv
      obtain ⟨rfl, h91, h92⟩ := hv
      clear h91 h92
      obtain ⟨x0, x1, x2, x3, x4, x5, x6, x7, x8, x9, x10, x11, x12⟩ := plcCells_at hpj
      have y6 := (hc.cell (p := ⟨gr, j * 13 + 6, none⟩) lgr2 (by simp)).trans (hcell _ _ x6)
      obtain ⟨hp1, hp2⟩ := HI.out p (List.mem_of_getElem? hpj)
      have HTK := Lib.hid (take_more hpj)
      have htl : tellN now p = nextP now p.x.per := rfl
      obtain ⟨per, hpe⟩ : ∃ per, per = p.x.per := ⟨_, rfl⟩
      rw [← hpe] at y6 hp1 hp2 htl
      have hno := @nextP_no now per n0 hp1
      have hyes := @nextP_yes now per n0 hp1
      have q0 : 0 ≤ now / per := Int.ediv_nonneg n0 (by omega)
      have q1 : now / per ≤ now := Int.ediv_le_self _ n0
      have q2 : (0 : Int) ≤ 18446744073709551615 / per := Int.ediv_nonneg (by omega) (by omega)
      have q3 : (18446744073709551615 : Int) / per ≤ 18446744073709551615 := Int.ediv_le_self _ (by omega)
      have e1 : now.tdiv per = now / per := Int.tdiv_eq_ediv_of_nonneg n0
      have e2 : (18446744073709551615 : Int).tdiv per = 18446744073709551615 / per := Int.tdiv_eq_ediv_of_nonneg (by omega)
      obtain ⟨T, hT⟩ : ∃ T, T = now / per := ⟨_, rfl⟩
      obtain ⟨Q, hQ⟩ : ∃ Q, Q = 18446744073709551615 / per := ⟨_, rfl⟩
      rw [← hT] at e1 hno hyes q0 q1
      rw [← hQ] at e2 hno hyes q2 q3
      have e1' : now / per = T := hT.symm
      have e2' : (18446744073709551615 : Int) / per = Q := hQ.symm
      have e3 : IntKind.u64.wrap T = T := by rw [IntKind.wrap_u64]; omega
      have e4 : IntKind.u64.wrap Q = Q := by rw [IntKind.wrap_u64]; omega
      have e5 : (per == 0) = false := by have : ¬ per = 0 := by omega
                                         simpa using this
      have e5' : ¬ per = 0 := by omega
      have HCW := Lib.hid hc
      have HOO := Lib.hid ho
      have HTL := Lib.hid htl
      by_cases hg : Q ≤ T
      · have HY := Lib.hid (show o = minF (tellN now) (l.take (j + 1)) by rw [HTK.out, minF_none (by rw [HTL.out]; exact hno hg)]; exact HOO.out)
        have e6 : decide (Q ≤ T) = true := decide_eq_true hg
        clear hpj hcell x0 x1 x2 x3 x4 x5 x6 x7 x8 x9 x10 x11 x12 hc ho HH htl hpe hT hQ hno hyes hg
        go_wp2
        go_roundg (n - j - 1)
        case measure => omega
        case rel => exact ⟨j + 1, o, by omega, rfl, rfl, by go_num, Lib.hid ⟨HCW.out, HY.out⟩⟩
      · obtain ⟨hn1, hn2⟩ := hyes hg
        have q4 : 0 ≤ (T + 1) * per := Int.mul_nonneg (by omega) (by omega)
        have e6 : decide (Q ≤ T) = false := decide_eq_false hg
        have e7 : IntKind.u64.wrap (T + 1) = T + 1 := by rw [IntKind.wrap_u64]; omega
        obtain ⟨m0, hm0⟩ : ∃ m0, m0 = (T + 1) * per := ⟨_, rfl⟩
        rw [← hm0] at hn1 hn2 q4
        have e8 : IntKind.u64.wrap ((T + 1) * per) = m0 := by rw [← hm0, IntKind.wrap_u64]; omega
        have HN1 := Lib.hid (show tellN now p = some m0 from HTL.out.trans hn1)
        cases o with
        | none =>
          have HY := Lib.hid (show some m0 = minF (tellN now) (l.take (j + 1)) by rw [HTK.out, minF_some HN1.out, ← HOO.out]; rfl)
          clear hpj hcell x0 x1 x2 x3 x4 x5 x6 x7 x8 x9 x10 x11 x12 hc ho HH htl hpe hT hQ hno hyes hg hm0 hn1
          go_wp2
          go_roundg (n - j - 1)
          case measure => omega
          case rel => exact ⟨j + 1, some m0, by omega, rfl, rfl, by go_num, Lib.hid ⟨HCW.out, HY.out⟩⟩
        | some b0 =>
          have e9 : oInt (some b0) = b0 := rfl
          simp only [e9]
          by_cases hmn : m0 < b0
          · have HY := Lib.hid (show some m0 = minF (tellN now) (l.take (j + 1)) by rw [HTK.out, minF_some HN1.out, ← HOO.out, minO_lt hmn])
            have e10 : decide (m0 < b0) = true := decide_eq_true hmn
            clear hmn
            clear hpj hcell x0 x1 x2 x3 x4 x5 x6 x7 x8 x9 x10 x11 x12 hc ho HH htl hpe hT hQ hno hyes hg hm0 hn1
            go_wp2
            go_roundg (n - j - 1)
            case measure => omega
            case rel => exact ⟨j + 1, some m0, by omega, rfl, rfl, by go_num, Lib.hid ⟨HCW.out, HY.out⟩⟩
          · have HY := Lib.hid (show some b0 = minF (tellN now) (l.take (j + 1)) by rw [HTK.out, minF_some HN1.out, ← HOO.out, minO_ge hmn])
            have e10 : decide (m0 < b0) = false := decide_eq_false hmn
            clear hmn
            clear hpj hcell x0 x1 x2 x3 x4 x5 x6 x7 x8 x9 x10 x11 x12 hc ho HH htl hpe hT hQ hno hyes hg hm0 hn1
            go_wp2
            go_roundg (n - j - 1)
            case measure => omega
            case rel => exact ⟨j + 1, some b0, by omega, rfl, rfl, by go_num, Lib.hid ⟨HCW.out, HY.out⟩⟩
    · obtain rfl : n = j := by omega
      have HY := Lib.hid (show o = minF (tellN now) l by rw [HN.out, List.take_length] at ho; exact ho)
      have HCW := Lib.hid hc
      clear hc HH ho
      go_wp2
      go_ret2
      exact ⟨by rw [← HY.out]; rfl, HC1.out.then HCW.out⟩
end Go.Proofs
end
section
namespace Go.Proofs
open Go.RowKit Go.Shelf
set_option linter.unusedVariables false
set_option linter.unusedSimpArgs false
/-! ### The chapter's rows, plainly -/
abbrev kT0 : Tab Dm := (tab0 (4 : Nat)).put dm0 (rootD 4 10 5)
abbrev kR0 : RTab := (rtab0 4).put (rkid 0 0 4 10 5)
theorem k0_sim : Sim 1 kT0 kR0 (fun _ => [(0, 1)]) := Sim.begin (n := 4) (by omega) (by omega) (by omega) (by omega) (by omega) (by omega)
theorem k0_pl : kR0.pl 0 = ⟨1, true, 4, 10, 5, 0, 0, 0, 0⟩ := by rfl
theorem k0_is : kR0.is 0 1 = true := by decide
theorem k0_gets : ∃ f, Gets kT0 kR0 f := k0_sim.gets (by decide)
theorem k0_cgs : kR0.cgs 0 1 = 0 ∧ kR0.car 0 1 = 0 := by decide
theorem k1_E : carveE kT0 0 1 3 6 5 = 0 := by decide
theorem k1_sim : ∃ ch, Sim 2 (carveT kT0 0 1 3 6 5) (kR0.on 0 1 3 6 5) ch := by
  obtain ⟨f, hg⟩ := k0_gets
  exact ⟨_, k0_sim.on (k := 0) (by omega) hg rfl (by rw [k0_pl]) (by rw [k0_pl]) (by omega) (by omega) (by omega) (by omega) (by rw [k0_cgs.1, k0_pl]; decide) (by rw [k0_cgs.2, k0_pl]; decide)⟩
theorem k1_pl : (kR0.on 0 1 3 6 5).pl 0 = ⟨1, true, 4, 10, 5, 0, 0, 0, 0⟩ := by rfl
theorem k1_cgs : (kR0.on 0 1 3 6 5).cgs 0 1 = 3 := by decide
theorem k2_sim : ∃ ch L, Sim 2 (carveT kT0 0 1 3 6 5) (kR0.on 0 1 3 6 5) ch ∧ Up (carveT kT0 0 1 3 6 5).par 0 1 L ∧ Sim 2 (settleT 1 0 1 L (carveT kT0 0 1 3 6 5)) ((kR0.on 0 1 3 6 5).set1 0 1 0) ch := by
  obtain ⟨ch, h⟩ := k1_sim
  have h1 := h.held.chs 0 (by rw [k1_pl])
  rw [k1_pl] at h1
  refine ⟨ch, ch 0, h, by rw [h.par]; exact h1.1, ?_⟩
  have := h.settle (k := 0) (by rw [k1_pl]) 1 (by rw [k1_pl]; decide) (by rw [k1_pl]; show 0 + 1 + (kR0.on 0 1 3 6 5).cgs 0 1 ≤ 4; rw [k1_cgs]; decide)
  rw [k1_pl] at this
  exact this
theorem k1_J : joinE (carveT kT0 0 1 3 6 5) 0 1 = 0 := by decide
theorem k2_get : ∀ ch, ((kR0.on 0 1 3 6 5).set1 0 1 0).is 0 1 = true ∧ (((kR0.on 0 1 3 6 5).set1 0 1 0).get ch 0 1).gs = 4 ∧ (((kR0.on 0 1 3 6 5).set1 0 1 0).get ch 0 1).cgs = 3 ∧ (((kR0.on 0 1 3 6 5).set1 0 1 0).get ch 0 1).own = 1 := fun ch => by
  refine ⟨by decide, by show (((kR0.on 0 1 3 6 5).set1 0 1 0).pl 0).gs = 4; decide, by show ((kR0.on 0 1 3 6 5).set1 0 1 0).cgs 0 1 = 3; decide, by show (((kR0.on 0 1 3 6 5).set1 0 1 0).pl 0).own = 1; decide⟩
theorem k2_E {t : Tab Dm} {ch : Nat → List (Int × Int)} (h : Sim 2 t ((kR0.on 0 1 3 6 5).set1 0 1 0) ch) : joinE t 0 1 = 15 ∧ carveE t 0 1 1 5 5 = 15 := by
  obtain ⟨a, b, c, d⟩ := k2_get ch
  constructor
  · unfold joinE
    rw [h.has, a, h.at_ a, b, c, d]; rfl
  · unfold carveE
    rw [h.has, a, h.at_ a, b, c, d]
    rw [show mayD 1 5 5 = true from by decide]
    simp
end Go.Proofs
end
section
namespace Go.Proofs
open Go.RowKit Go.Shelf
set_option linter.unusedVariables false
set_option linter.unusedSimpArgs false
theorem k_root {t : Tab Dm} {r : RTab} {M : Nat} {ch : Nat → List (Int × Int)} (h : Sim M t r ch) (h0 : (r.pl 0).is = true) (h1 : (r.pl 0).gen = 1) : t.atIdx 0 = 0 ∧ t.atGen 0 = 1 := by
  have hl := h.live.2 ⟨0, rfl, h0, rfl⟩
  unfold Tab.atIdx Tab.atGen
  rw [show ((0 : Nat) : Int) = 0 from rfl] at hl
  rw [hl]
  exact ⟨rfl, h1⟩
/-- Domains of the call's own. -/
def KAt (w W : World) (c : Nat) (t : Tab Dm) : Prop := Chg [] w W ∧ ∃ S, DomAt W c S t ∧ (∀ k ∈ S, w.heap.size ≤ k)
theorem KAt.quiet {w W W' : World} {c : Nat} {t : Tab Dm} (h : KAt w W c t) (hc : Chg [] W W') : KAt w W' c t := by
  obtain ⟨h1, S, h2, h3⟩ := h
  exact ⟨h1.then hc, S, h2.quiet hc, h3⟩
theorem KAt.turn {w W W' : World} {c : Nat} {S : List Nat} {t' : Tab Dm} (h1 : Chg [] w W) (h3 : ∀ k ∈ S, w.heap.size ≤ k) (hT : DomTurns c S t' W W') : KAt w W' c t' := by
  obtain ⟨S', a, b, d⟩ := hT
  exact ⟨h1.trans d (fun k hk => .inr (h3 k hk)), S', a, fun k hk => (b k hk).elim (h3 k) (fun x => Nat.le_trans h1.size x)⟩
end Go.Proofs
end
section
namespace Go.Proofs
open Go.RowKit Go.Shelf
set_option linter.unusedVariables false
set_option linter.unusedSimpArgs false
theorem begin_pl {N : Nat} (h0 : 1 ≤ N) (gs cpu per : Int) : ((rtab0 N).put (rkid 0 0 gs cpu per)).pl 0 = ⟨1, true, gs, cpu, per, 0, 0, 0, 0⟩ := by
  obtain ⟨d, rfl⟩ : ∃ d, N = d + 1 := ⟨N - 1, by omega⟩
  have hF : (rtab0 (d + 1)).F = newF (d + 1) d ++ [0] := by unfold rtab0; rw [newF_succ]; simp
  have hat : (rtab0 (d + 1)).at0 = 0 := by unfold RTab.at0; rw [hF]; simp
  have hlen : (rtab0 (d + 1)).L.length = d + 1 := by unfold rtab0; simp
  have hpl0 : (rtab0 (d + 1)).pl 0 = pl1 := RTab.pl_eq (by unfold rtab0; rw [List.getElem?_replicate, if_pos (by omega)])
  unfold RTab.put
  rw [rpl_set (by rw [hat, hlen]; omega), hat, if_pos rfl, hpl0]; rfl
end Go.Proofs
end
section
namespace Go.Proofs
open Go.RowKit
set_option linter.unusedVariables false
set_option linter.unusedSimpArgs false

set_option maxHeartbeats 3200000 in
set_option maxRecDepth 100000 in
theorem rSame_any {w : World} {V1 V2 : Value} {l1 l2 : List Plc} (h1 : Row w 90 13 V1 l1.length (plcCells l1)) (h2 : Row w 90 13 V2 l2.length (plcCells l2)) (hl1 : l1.length ≤ 1000) (hl2 : l2.length ≤ 1000) :
    Calls Try.prog 24 #[V1, V2] w fun e w' => e = .returned (.bool (decide (l1 = l2))) ∧ Chg [] w w' := by
  obtain ⟨A1, c1, rfl, _⟩ := h1.val
  obtain ⟨A2, c2, rfl, _⟩ := h2.val
  have H1 := Lib.hid h1
  have H2 := Lib.hid h2
  obtain ⟨n, hn⟩ : ∃ n, n = l1.length := ⟨_, rfl⟩
  obtain ⟨m, hm⟩ : ∃ m, m = l2.length := ⟨_, rfl⟩
  rw [← hn, ← hm]
  rw [← hn] at hl1
  have HN := Lib.hid hn
  have HM := Lib.hid hm
  clear h1 h2 hn hm
  by_cases hnm : n = m
  · subst hnm
    go_enter Try.func24, Try.ntmps24
    go_wp2
    go_loopg [5] n (fun gh iv wr => ∃ j : Nat, j + gh = n ∧ iv = .int .i64 j ∧ Hid (Chg [] w wr ∧ l1.take j = l2.take j))
    case atStart => exact ⟨0, by omega, rfl, Lib.hid ⟨Chg.refl _ _, rfl⟩⟩
    case round =>
      obtain ⟨j, hj, rfl, HH⟩ := hrel
      obtain ⟨hc, htk⟩ := HH.out
      by_cases hlt : j < n
      · have j0 : (0 : Int) ≤ (j : Int) := by omega
        have j1 : (j : Int) < (n : Int) := by omega
        obtain ⟨x, hx⟩ : ∃ x, l1[j]? = some x := ⟨_, List.getElem?_eq_getElem (by rw [← HN.out]; exact hlt)⟩
        obtain ⟨y, hy⟩ : ∃ y, l2[j]? = some y := ⟨_, List.getElem?_eq_getElem (by rw [← HM.out]; exact hlt)⟩
        obtain ⟨g1, d1, hv1, _, _, hcell1, _, lg1⟩ := H1.out.form (by rw [← HN.out]; omega)
        obtain ⟨g2, d2, hv2, _, _, hcell2, _, lg2⟩ := H2.out.form (by rw [← HM.out]; omega)
        simp only [Value.slice.injEq] at hv1 hv2
        obtain ⟨rfl, h91, h92⟩ := hv1
        obtain ⟨rfl, h93, h94⟩ := hv2
        clear h91 h92 h93 h94
        obtain ⟨p0, p1, p2, p3, p4, p5, p6, p7, p8, p9, p10, p11, p12⟩ := plcCells_at hx
        obtain ⟨q0, q1, q2, q3, q4, q5, q6, q7, q8, q9, q10, q11, q12⟩ := plcCells_at hy
        have x0 := (hc.cell (p := ⟨g1, j * 13, none⟩) lg1 (by simp)).trans (hcell1 _ _ p0)
        have x1 := (hc.cell (p := ⟨g1, j * 13 + 1, none⟩) lg1 (by simp)).trans (hcell1 _ _ p1)
        have x2 := (hc.cell (p := ⟨g1, j * 13 + 2, none⟩) lg1 (by simp)).trans (hcell1 _ _ p2)
        have x3 := (hc.cell (p := ⟨g1, j * 13 + 3, none⟩) lg1 (by simp)).trans (hcell1 _ _ p3)
        have x4 := (hc.cell (p := ⟨g1, j * 13 + 4, none⟩) lg1 (by simp)).trans (hcell1 _ _ p4)
        have x5 := (hc.cell (p := ⟨g1, j * 13 + 5, none⟩) lg1 (by simp)).trans (hcell1 _ _ p5)
        have x6 := (hc.cell (p := ⟨g1, j * 13 + 6, none⟩) lg1 (by simp)).trans (hcell1 _ _ p6)
        have x7 := (hc.cell (p := ⟨g1, j * 13 + 7, none⟩) lg1 (by simp)).trans (hcell1 _ _ p7)
        have x8 := (hc.cell (p := ⟨g1, j * 13 + 8, none⟩) lg1 (by simp)).trans (hcell1 _ _ p8)
        have x9 := (hc.cell (p := ⟨g1, j * 13 + 9, none⟩) lg1 (by simp)).trans (hcell1 _ _ p9)
        have x10 := (hc.cell (p := ⟨g1, j * 13 + 10, none⟩) lg1 (by simp)).trans (hcell1 _ _ p10)
        have x11 := (hc.cell (p := ⟨g1, j * 13 + 11, none⟩) lg1 (by simp)).trans (hcell1 _ _ p11)
        have x12 := (hc.cell (p := ⟨g1, j * 13 + 12, none⟩) lg1 (by simp)).trans (hcell1 _ _ p12)
        have y0 := (hc.cell (p := ⟨g2, j * 13, none⟩) lg2 (by simp)).trans (hcell2 _ _ q0)
        have y1 := (hc.cell (p := ⟨g2, j * 13 + 1, none⟩) lg2 (by simp)).trans (hcell2 _ _ q1)
        have y2 := (hc.cell (p := ⟨g2, j * 13 + 2, none⟩) lg2 (by simp)).trans (hcell2 _ _ q2)
        have y3 := (hc.cell (p := ⟨g2, j * 13 + 3, none⟩) lg2 (by simp)).trans (hcell2 _ _ q3)
        have y4 := (hc.cell (p := ⟨g2, j * 13 + 4, none⟩) lg2 (by simp)).trans (hcell2 _ _ q4)
        have y5 := (hc.cell (p := ⟨g2, j * 13 + 5, none⟩) lg2 (by simp)).trans (hcell2 _ _ q5)
        have y6 := (hc.cell (p := ⟨g2, j * 13 + 6, none⟩) lg2 (by simp)).trans (hcell2 _ _ q6)
        have y7 := (hc.cell (p := ⟨g2, j * 13 + 7, none⟩) lg2 (by simp)).trans (hcell2 _ _ q7)
        have y8 := (hc.cell (p := ⟨g2, j * 13 + 8, none⟩) lg2 (by simp)).trans (hcell2 _ _ q8)
        have y9 := (hc.cell (p := ⟨g2, j * 13 + 9, none⟩) lg2 (by simp)).trans (hcell2 _ _ q9)
        have y10 := (hc.cell (p := ⟨g2, j * 13 + 10, none⟩) lg2 (by simp)).trans (hcell2 _ _ q10)
        have y11 := (hc.cell (p := ⟨g2, j * 13 + 11, none⟩) lg2 (by simp)).trans (hcell2 _ _ q11)
        have y12 := (hc.cell (p := ⟨g2, j * 13 + 12, none⟩) lg2 (by simp)).trans (hcell2 _ _ q12)
        have hneq := neq_plc x y
        simp only [Plc.val] at hneq
        have ht1 : l1.take (j + 1) = l1.take j ++ [x] := by rw [List.take_add_one, hx]; rfl
        have ht2 : l2.take (j + 1) = l2.take j ++ [y] := by rw [List.take_add_one, hy]; rfl
        have HC := Lib.hid hc
        by_cases e : x = y
        · have HY := Lib.hid (show l1.take (j + 1) = l2.take (j + 1) by rw [ht1, ht2, htk, e])
          rw [decide_eq_true e] at hneq
          clear p0 q0 p1 q1 p2 q2 p3 q3 p4 q4 p5 q5 p6 q6 p7 q7 p8 q8 p9 q9 p10 q10 p11 q11 p12 q12 hcell1 hcell2 hx hy hc htk HH ht1 ht2 e
          go_wp2
          go_quiet (fail)
          go_wp2
          go_roundg (n - j - 1)
          case measure => omega
          case rel => exact ⟨j + 1, by omega, by go_num, Lib.hid ⟨HC.out.drewN _, HY.out⟩⟩
        · have HY := Lib.hid (show ¬ l1 = l2 from fun e' => e (by subst e'; rw [hx] at hy; exact Option.some.inj hy))
          rw [decide_eq_false e] at hneq
          clear p0 q0 p1 q1 p2 q2 p3 q3 p4 q4 p5 q5 p6 q6 p7 q7 p8 q8 p9 q9 p10 q10 p11 q11 p12 q12 hcell1 hcell2 hx hy hc htk HH ht1 ht2 e
          go_wp2
          go_quiet (fail)
          go_wp2
          go_ret
          exact ⟨by rw [decide_eq_false HY.out]; rfl, HC.out.drewN _⟩
      · obtain rfl : n = j := by omega
        have HY := Lib.hid (show l1 = l2 by rw [List.take_of_length_le (by rw [← HN.out]; exact Nat.le_refl _), List.take_of_length_le (by rw [← HM.out]; exact Nat.le_refl _)] at htk; exact htk)
        have HC := Lib.hid hc
        clear hc htk HH
        go_wp2
        go_ret
        exact ⟨by rw [decide_eq_true HY.out]; rfl, HC.out⟩
  · have hne : ((n : Int) == (m : Int)) = false := by simp; omega
    have hne2 : (n == m) = false := by simpa using hnm
    have HY := Lib.hid (show ¬ l1 = l2 from fun e => hnm (by rw [HN.out, HM.out, e]))
    go_enter Try.func24, Try.ntmps24
    go_wp2
    go_ret
    exact ⟨by rw [decide_eq_false HY.out]; rfl, Chg.refl _ _⟩
end Go.Proofs
end
section
namespace Go.Proofs
open Go.RowKit Go.Shelf
set_option linter.unusedVariables false
set_option linter.unusedSimpArgs false

/-! ### What came in, element by element -/
def Ins {α : Type} (enc : α → List Value) (ok : α → Prop) (s : Nat) (w : World) (V : Value) (l : List α) : Prop :=
  ∃ A c, V = .slice A l.length c ∧ ∀ (k : Nat) (a : α), l[k]? = some a → ∃ b off, A = some ⟨b, off, none⟩ ∧ b < w.heap.size ∧ ok a ∧
    ∀ (j : Nat) (u : Value), (enc a)[j]? = some u → w.cell? ⟨b, off + k * s + j, none⟩ = some u
section
variable {α : Type} {enc : α → List Value} {ok : α → Prop} {s : Nat} {w : World}
theorem Ins.open_ {V : Value} {l : List α} (h : Ins enc ok s w V l) : ∃ A c, V = .slice A l.length c := by
  obtain ⟨A, c, h1, _⟩ := h; exact ⟨A, c, h1⟩
theorem Ins.is_ {A : Option Addr} {n c : Nat} {l : List α} (h : Ins enc ok s w (.slice A n c) l) {k : Nat} (hk : k < n) :
    ∃ b off a, A = some ⟨b, off, none⟩ ∧ l[k]? = some a ∧ ok a ∧ b < w.heap.size ∧ ∀ W, Chg [] w W → ∀ (j : Nat) (u : Value), (enc a)[j]? = some u → W.cell? ⟨b, off + k * s + j, none⟩ = some u := by
  obtain ⟨A', c', hv, ho⟩ := h
  simp only [Value.slice.injEq] at hv
  obtain ⟨rfl, rfl, rfl⟩ := hv
  obtain ⟨a, ha⟩ : ∃ a, l[k]? = some a := ⟨_, List.getElem?_eq_getElem hk⟩
  obtain ⟨b, off, rfl, hb, hf, h2⟩ := ho k a ha
  exact ⟨b, off, a, rfl, ha, hf, hb, fun W hc j u hj => (hc.cell (p := ⟨b, off + k * s + j, none⟩) hb (by simp)).trans (h2 j u hj)⟩
end
/-- A domain that is to be carved out. -/
structure CarvC where
  of_ : Int
  gs : Int
  cpu : Int
  per : Int
abbrev CarvC.cells (a : CarvC) : List Value := [.int .i64 a.of_, .int .i64 a.gs, .int .u64 a.cpu, .int .u64 a.per]
structure CarvC.Fits (a : CarvC) : Prop where
  o0 : -9223372036854775808 ≤ a.of_
  o1 : a.of_ ≤ 9223372036854775807
  g0 : -9223372036854775808 ≤ a.gs
  g1 : a.gs ≤ 9223372036854775807
  c0 : 0 ≤ a.cpu
  c1 : a.cpu < 18446744073709551616
  p0 : 0 ≤ a.per
  p1 : a.per < 18446744073709551616
abbrev Carvs (w : World) (V : Value) (l : List CarvC) : Prop := Ins CarvC.cells CarvC.Fits 4 w V l

/-- Nobody uses anything. -/
def NoUse (r : RTab) : Prop := ∀ k, (r.pl k).used = 0
/-- Refs, each of which is there. -/
def Refs (r : RTab) (rs : List (Int × Int)) : Prop := ∀ x ∈ rs, ∃ k : Nat, x = (((k : Nat) : Int), (r.pl k).gen) ∧ k < r.L.length ∧ (r.pl k).is = true
/-- What made has behind so many that are carved out. -/
def MadeAt (w W : World) (c h N : Nat) (V : Value) (rs : List (Int × Int)) : Prop :=
  ∃ S S2 t r ch, Pair W c S h S2 (N + 1) t r ch ∧ Row W 34 2 V rs.length (refCells rs) ∧ (∀ k ∈ foot V ++ (c :: S ++ S2), w.heap.size ≤ k) ∧ Chg [] w W ∧ Refs r rs ∧ (1 ≤ rs.length ∧ rs.length ≤ N + 1) ∧ Pers r ∧ NoUse r ∧ ((r.pl 0).is = true ∧ (r.pl 0).gen = 1)
section
variable {w W W2 : World} {c h N : Nat} {V : Value} {rs : List (Int × Int)}
theorem MadeAt.chg (H : MadeAt w W c h N V rs) : Chg [] w W := by obtain ⟨S, S2, t, r, ch, h1, h2, h3, h4, _⟩ := H; exact h4
theorem MadeAt.quiet (H : MadeAt w W c h N V rs) (hc : Chg [] W W2) : MadeAt w W2 c h N V rs := by
  obtain ⟨S, S2, t, r, ch, h1, h2, h3, h4, h5⟩ := H
  exact ⟨S, S2, t, r, ch, h1.quiet hc, h2.chg hc (fun _ _ h => by cases h), h3, h4.then hc, h5⟩
end
theorem DomAt.off_row {w : World} {c : Nat} {S : List Nat} {t : Tab Dm} {v : Value} {n : Nat} {xs : List Value} (hr : DomAt w c S t) (hrow : Row w 34 2 v n xs) : ∀ k ∈ foot v, k ∉ c :: S := fun k hk => by
  rcases hrow.2 with ⟨e, _⟩ | ⟨b, cap, cur, e, hb, _⟩
  · rw [e] at hk; cases hk
  · rw [e] at hk; simp [foot_some] at hk; subst hk
    exact hr.ne_ty hb (by decide) (by decide) (by decide) (by decide)
/-- Behind both have carved: what made has. -/
theorem MadeAt.turn {w W W2 : World} {c h N : Nat} {V : Value} {rs : List (Int × Int)} {S S2 : List Nat} {t : Tab Dm} {r : RTab} {ch : Nat → List (Int × Int)} {i q gs cpu per j p E : Int}
    (h1 : Pair W c S h S2 (N + 1) t r ch) (h2 : Row W 34 2 V rs.length (refCells rs)) (h3 : ∀ k ∈ foot V ++ (c :: S ++ S2), w.heap.size ≤ k) (h4 : Chg [] w W) (h5 : Refs r rs) (h6 : 1 ≤ rs.length ∧ rs.length ≤ N + 1) (h7 : Pers r) (h8 : NoUse r) (h9 : (r.pl 0).is = true ∧ (r.pl 0).gen = 1)
    (hm : E = 0 → mayD gs cpu per = true) (hP : PTurns (CvQ t r ch i q gs cpu per j p E) c S h S2 (N + 1) W W2) :
    MadeAt w W2 c h (N + 1) V rs ∧ (E = 0 → ∀ W3 V', Row W3 34 2 V' (rs ++ [(j, p)]).length (refCells (rs ++ [(j, p)])) → W2.grownBy W3 V.ownBlock → (∀ k ∈ foot V', w.heap.size ≤ k) → MadeAt w W3 c h (N + 1) V' (rs ++ [(j, p)])) := by
  obtain ⟨S', S2', t', r', ch', hp, a1, a2, hc, hq⟩ := hP
  obtain ⟨hgr, hno, hyes⟩ := hq
  have z := h4.size
  have hnewS : ∀ k ∈ S', w.heap.size ≤ k := fun k hk => (a1 k hk).elim (fun x => h3 k (List.mem_append_right _ (List.mem_append_left _ (List.mem_cons_of_mem _ x)))) (fun x => Nat.le_trans z x)
  have hnewS2 : ∀ k ∈ S2', w.heap.size ≤ k := fun k hk => (a2 k hk).elim (fun x => h3 k (List.mem_append_right _ (List.mem_append_right _ x))) (fun x => Nat.le_trans z x)
  have hcw : w.heap.size ≤ c := h3 c (List.mem_append_right _ (List.mem_append_left _ List.mem_cons_self))
  have hrow2 : Row W2 34 2 V rs.length (refCells rs) := h2.chg hc (fun k hk hm => by
    rcases List.mem_append.1 hm with hm | hm
    · exact h1.dm.off_row h2 k hk (List.mem_cons_of_mem _ hm)
    · exact h1.rf.off_row h2 k hk hm)
  have hchg2 : Chg [] w W2 := h4.trans hc (fun k hk => by
    rcases List.mem_append.1 hk with hk | hk
    · exact .inr (h3 k (List.mem_append_right _ (List.mem_append_left _ (List.mem_cons_of_mem _ hk))))
    · exact .inr (h3 k (List.mem_append_right _ (List.mem_append_right _ hk))))
  have hblk : ∀ k ∈ foot V ++ (c :: S' ++ S2'), w.heap.size ≤ k := fun k hk => by
    rcases List.mem_append.1 hk with hk | hk
    · exact h3 k (List.mem_append_left _ hk)
    · rcases List.mem_append.1 hk with hk | hk
      · rcases List.mem_cons.1 hk with rfl | hk
        · exact hcw
        · exact hnewS k hk
      · exact hnewS2 k hk
  have hfacts : Refs r' rs ∧ Pers r' ∧ NoUse r' ∧ ((r'.pl 0).is = true ∧ (r'.pl 0).gen = 1) ∧ (E = 0 → ∃ f : Nat, (j, p) = (((f : Nat) : Int), (r'.pl f).gen) ∧ f < r'.L.length ∧ (r'.pl f).is = true) := by
    by_cases hE : E = 0
    · obtain ⟨f, k, hg, rfl, rfl, hk, rfl, rfl, rfl, rfl⟩ := hyes hE
      have hm' := hm hE
      unfold mayD at hm'
      simp at hm'
      have hpl := on_pl (i := (k : Nat)) (q := (r.pl k).gen) (gs := gs) (cpu := cpu) (per := per) hg.at0 hg.lt
      refine ⟨fun x hx => ?_, fun j hj => ?_, fun j => ?_, ?_, fun _ => ⟨f, ?_, by rw [on_len]; exact hg.lt, by rw [hpl, if_pos rfl]⟩⟩
      · obtain ⟨n, rfl, hn, hni⟩ := h5 x hx
        have hnf : n ≠ f := fun e => by rw [e, hg.is] at hni; cases hni
        exact ⟨n, by rw [hpl, if_neg hnf], by rw [on_len]; exact hn, by rw [hpl, if_neg hnf]; exact hni⟩
      · rw [hpl] at hj ⊢
        by_cases e : j = f
        · rw [if_pos e]; show 1 ≤ per ∧ per ≤ 4294967296; omega
        · rw [if_neg e] at hj ⊢; exact h7 j hj
      · rw [hpl]
        by_cases e : j = f
        · rw [if_pos e]
        · rw [if_neg e]; exact h8 j
      · have h0f : 0 ≠ f := fun e => by have := hg.is; rw [← e, h9.1] at this; cases this
        rw [hpl, if_neg h0f]; exact h9
      · rw [hpl, if_pos rfl]
    · obtain ⟨rfl, rfl⟩ := hno hE
      exact ⟨h5, h7, h8, h9, fun e => absurd e hE⟩
  obtain ⟨f1, f2, f3, f4, f5⟩ := hfacts
  refine ⟨⟨S', S2', t', r', ch', hp, hrow2, hblk, hchg2, f1, ⟨h6.1, by omega⟩, f2, f3, f4⟩, fun hE W3 V' hrow3 hgrow hft => ?_⟩
  have hc3 : Chg (foot V) W2 W3 := Chg.grown (Chg.refl _ W2) hgrow (fun k hk => .inl (row_mem hk))
  have hoffD := hp.dm.off_row hrow2
  have hoffR := hp.rf.off_row hrow2
  refine ⟨S', S2', t', r', ch', ⟨hp.dm.chg hc3 (fun hm => hoffD c hm List.mem_cons_self) (fun k hk hm => hoffD k hm (List.mem_cons_of_mem _ hk)), hp.rf.chg hc3 (fun k hk hm => hoffR k hm hk), hp.sim, hp.ap⟩, hrow3, fun k hk => ?_, hchg2.trans hc3 (fun k hk => .inr (h3 k (List.mem_append_left _ hk))), fun x hx => ?_, ⟨by simp, by simp; omega⟩, f2, f3, f4⟩
  · rcases List.mem_append.1 hk with hk | hk
    · exact hft k hk
    · exact hblk k (List.mem_append_right _ hk)
  · rcases List.mem_append.1 hx with hx | hx
    · exact f1 x hx
    · rw [List.mem_singleton] at hx; rw [hx]; exact f5 hE
end Go.Proofs
end
section
namespace Go.Proofs
open Go.RowKit Go.Shelf
set_option linter.unusedVariables false
set_option linter.unusedSimpArgs false
section
variable {w : World} {c h M : Nat} {S S2 : List Nat} {t : Tab Dm} {r : RTab} {ch : Nat → List (Int × Int)}
theorem pair_carve3 (P : Pair w c S h S2 M t r ch) (hM : M + 1 ≤ 1000) {i q gs cpu per : Int} (i0 : -9223372036854775808 ≤ i) (i1 : i ≤ 9223372036854775807) (c0 : 0 ≤ cpu) (p0 : 0 ≤ per) {W0 : World} (hW0 : Chg [] w W0) :
    Calls Try.prog 34 #[ptr c, .agg #[.int .i64 i, .int .u64 q], .int .i64 gs, .int .u64 cpu, .int .u64 per] W0 fun e w1 => ∃ j p E, e = refAns j p E ∧ ((0 ≤ j ∧ j ≤ 4096) ∧ (E = 0 → mayD gs cpu per = true)) ∧ Chg S W0 w1 ∧ Half (CvQ t r ch i q gs cpu per j p E) 35 #[ptr h, .agg #[.int .i64 i, .int .u64 q], .int .i64 gs, .int .u64 cpu, .int .u64 per] (refAns j p E) c S h S2 M w w1 := by
  have hsame := carve_same P i q gs cpu per
  have hFl : r.F.length ≤ 1000 := by
    have := frees_len P.sim
    unfold Tab.frees at this
    have h1 := P.sim.held.n1
    have h2 := P.sim.size
    have h3 : t.freed.length ≤ t.spots.length := by
      have hnd := P.dm.wf.nodup
      have hlt : ∀ x ∈ t.freed, x < t.spots.length := fun x hx => by obtain ⟨s, hs, _⟩ := P.dm.wf.free x hx; exact (List.getElem?_eq_some_iff.1 hs).1
      exact nodup_len hnd hlt
    have h4 := P.sim.lenle
    omega
  have hFlt : ∀ f ∈ r.F, f < r.L.length := by
    intro f hf
    rw [P.sim.free] at hf
    have h0 := P.sim.held.n0
    rcases List.mem_append.1 hf with hf | hf
    · unfold newF at hf; simp at hf; obtain ⟨a, _, rfl⟩ := hf; omega
    · obtain ⟨s, hs, _⟩ := P.dm.wf.free f hf
      have := (List.getElem?_eq_some_iff.1 hs).1
      have := P.sim.lenle; omega
  refine (Carve_any (P.dm.quiet hW0) P.sim.oks i0 i1 c0 p0).mono ?_
  rintro e w1 (⟨hne, rfl, hD, hc⟩ | ⟨he, rfl, hT⟩)
  · refine ⟨_, _, _, rfl, ⟨by omega, fun e => absurd e hne⟩, hc.any, t, ⟨S, hD, fun k hk => .inl hk, (hW0.then hc).any⟩, fun W hTW => ?_⟩
    refine (rcarve_any (P.ref_at hTW) P.n0 P.sim.held.fine P.sim.held.Chs hFlt hFl c0 p0).mono ?_
    rintro e w2 (⟨hne2, rfl, hc2⟩ | ⟨he2, _⟩)
    · exact ⟨by rw [hsame], P.stay hM hTW (RTurns.refl (P.ref_at hTW) hc2) ⟨Grows.refl r, fun _ => ⟨rfl, rfl⟩, fun e => absurd e hne⟩⟩
    · rw [hsame] at he2; exact absurd he2 hne
  · have he2 := hsame.trans he
    have hparts : mayD gs cpu per = true ∧ r.is i q = true ∧ r.F ≠ [] ∧ ¬ ((r.get ch i q).gs < gs + (r.get ch i q).cgs + (r.get ch i q).own ∨ (r.get ch i q).cpu < cpu + (r.get ch i q).car) := by
      unfold rcarveE at he2
      cases hm : mayD gs cpu per with
      | false => rw [hm] at he2; simp at he2
      | true =>
        rw [hm] at he2
        cases hq : r.is i q with
        | false => rw [hq] at he2; simp at he2
        | true =>
          rw [hq] at he2
          simp only [if_true] at he2
          by_cases hb : ((r.get ch i q).gs < gs + (r.get ch i q).cgs + (r.get ch i q).own ∨ (r.get ch i q).cpu < cpu + (r.get ch i q).car)
          · rw [if_pos hb] at he2; simp at he2
          · rw [if_neg hb] at he2
            refine ⟨rfl, rfl, fun e => ?_, hb⟩
            rw [if_pos e] at he2; simp at he2
    obtain ⟨hm, hq, hF, hb⟩ := hparts
    have hmay := hm
    obtain ⟨f, hg⟩ := P.sim.gets hF
    obtain ⟨k, rfl, hk, h1, rfl⟩ := is_pl.1 hq
    have e1 : (r.get ch (k : Nat) (r.pl k).gen).gs = (r.pl k).gs ∧ (r.get ch (k : Nat) (r.pl k).gen).own = (r.pl k).own ∧ (r.get ch (k : Nat) (r.pl k).gen).cgs = r.cgs (k : Nat) (r.pl k).gen ∧ (r.get ch (k : Nat) (r.pl k).gen).cpu = (r.pl k).cpu ∧ (r.get ch (k : Nat) (r.pl k).gen).car = r.car (k : Nat) (r.pl k).gen := by unfold RTab.get; simp
    rw [e1.1, e1.2.1, e1.2.2.1, e1.2.2.2.1, e1.2.2.2.2] at hb
    unfold mayD at hm
    simp at hm
    have hfl := hg.lt
    have hn1 := P.sim.held.n1
    rw [hg.takeAt]
    refine ⟨_, _, _, rfl, ⟨by omega, fun _ => hmay⟩, (by obtain ⟨_, _, _, h3⟩ := hT; exact h3), _, hT.earlier hW0, fun W hTW => ?_⟩
    refine (rcarve_any (P.ref_at hTW) P.n0 P.sim.held.fine P.sim.held.Chs hFlt hFl c0 p0).mono ?_
    rintro e w2 (⟨hne2, _⟩ | ⟨_, rfl, hR⟩)
    · exact absurd he2 hne2
    · refine ⟨by rw [hg.at0, hg.gen], P.turn hTW hR (P.sim.on hM hg rfl rfl h1 (by omega) (by omega) c0 (by omega) (by omega) (by omega)) ⟨Grows.on hg.at0 hg.lt _ _ _ _ _, fun e => absurd rfl e, fun _ => ⟨f, k, hg, rfl, rfl, h1, rfl, hg.gen, rfl, rfl⟩⟩⟩end
end Go.Proofs
end
