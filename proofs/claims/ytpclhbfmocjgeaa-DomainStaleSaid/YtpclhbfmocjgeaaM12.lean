import Derived.Test.YtpclhbfmocjgeaaM11
import Derived.Deep.Cut
import Derived.Test.YtpclhbfmocjgeaaM4
import Derived.Test.YtpclhbfmocjgeaaM10
section
namespace Go.Proofs
open Go.RowKit Go.Shelf
set_option linter.unusedVariables false
set_option linter.unusedSimpArgs false
section
variable {w : World} {G c h M : Nat} {S S2 : List Nat} {V : Value} {rs : List (Int × Int)} {t : Tab Dm} {r : RTab} {ch : Nat → List (Int × Int)}
theorem neq_self (x : Dm) (W : World) : (binOp .neq 45 x.val x.val).run Try.prog W = .ok (.bool false) W := by rw [neq_dm, decide_eq_true rfl]; rfl
set_option maxRecDepth 100000 in
set_option maxHeartbeats 12800000 in
/-- **same**: both look the same. -/
theorem same_any (g : Game w G c S h S2 V rs M t r ch) :
    Calls Try.prog 12 #[ptr G] w fun e w' => e = .returned (.bool true) ∧ Chg [] w w' := by
  have P := g.pair
  have hn0 := P.sim.held.n0
  have hn1 := P.sim.held.n1
  have hal := P.sim.all
  have hlen := P.sim.len
  have HA := Lib.hid (fun W (hc : Chg [] w W) => allD_any (P.dm.quiet hc) P.sim.size)
  rw [hal] at HA
  have HRA := Lib.hid (fun W (hc : Chg [] w W) => rall_any (P.rf.quiet hc) (by omega) P.sim.held.fine P.sim.held.Chs)
  have HLE := Lib.hid (fun W (hc : Chg [] w W) => len_any (P.dm.quiet hc))
  rw [hlen] at HLE
  have hl0 : (r.all ch).length ≤ 32 := Nat.le_trans (allTo_len r ch _) hn1
  obtain ⟨l0, hl00⟩ : ∃ l0, l0 = r.all ch := ⟨_, rfl⟩
  rw [← hl00] at HA HRA HLE hl0
  obtain ⟨n0, hn00⟩ : ∃ n0, n0 = l0.length := ⟨_, rfl⟩
  have HSM := Lib.hid (fun W A1 c1 A2 c2 (h1 : Row W 47 13 (.slice A1 n0 c1) n0 (plcCells l0)) (h2 : Row W 47 13 (.slice A2 n0 c2) n0 (plcCells l0)) => by
    rw [hn00] at h1 h2
    have := rSame_any h1 h2 (by omega) (by omega)
    rw [decide_eq_true (rfl : l0 = l0)] at this
    rw [← hn00] at this
    exact this)
  rw [← hn00] at HA HRA HLE
  have v0 := g.blk.cell 0
  have v1 := g.blk.cell 1
  have v2 := g.blk.cell 2
  have hGl := g.blk.lt
  have hone := g.one
  obtain ⟨b, cp, hVe, cur, hBb, htk⟩ : ∃ b cp, V = .slice (some ⟨b, 0, none⟩) rs.length cp ∧ ∃ cur, Blk w b 34 cur ∧ cur.toList.take (rs.length * 2) = refCells rs := by
    rcases g.row.2 with ⟨_, e0⟩ | ⟨b, cp, cur, e, hb, _, _, _, ht⟩
    · omega
    · exact ⟨b, cp, e, cur, hb, ht⟩
  have hbl := hBb.lt
  have HCELL : Hid (∀ k (x : Int × Int), rs[k]? = some x → w.cell? ⟨b, k * 2, none⟩ = some (.int .i64 x.1) ∧ w.cell? ⟨b, k * 2 + 1, none⟩ = some (.int .u64 x.2)) := Lib.hid fun k x hx => by
    have hk := (List.getElem?_eq_some_iff.1 hx).1
    have hcc := refCells_at hx
    constructor
    · rw [hBb.cell, ← hcc.1, ← htk, List.getElem?_take, if_pos (by omega)]; simp
    · rw [hBb.cell, ← hcc.2, ← htk, List.getElem?_take, if_pos (by omega)]; simp
  have HLK := Lib.hid (fun j p (hx : (j, p) ∈ rs) => g.looks hx)
  rw [hVe] at v2
  have hmx := g.len
  have hmM := P.sim.held.m
  obtain ⟨n, hn⟩ : ∃ n, n = rs.length := ⟨_, rfl⟩
  rw [← hn] at v2 hone hmx
  have HN := Lib.hid hn
  have hn1000 : n ≤ 1000 := by omega
  have V0 : w.cell? ⟨G, 0, none⟩ = some (ptr c) := v0
  have V1 : w.cell? ⟨G, 1, none⟩ = some (ptr h) := v1
  have V2 : w.cell? ⟨G, 2, none⟩ = some (.slice (some ⟨b, 0, none⟩) n cp) := v2
  have HV := Lib.hid (fun W (hc : Chg [] w W) => (⟨(hc.cell (p := ⟨G, 0, none⟩) hGl (by simp)).trans V0, (hc.cell (p := ⟨G, 1, none⟩) hGl (by simp)).trans V1, (hc.cell (p := ⟨G, 2, none⟩) hGl (by simp)).trans V2, Nat.lt_of_lt_of_le hGl hc.size, Nat.lt_of_lt_of_le hbl hc.size⟩ : W.cell? ⟨G, 0, none⟩ = some (ptr c) ∧ W.cell? ⟨G, 1, none⟩ = some (ptr h) ∧ W.cell? ⟨G, 2, none⟩ = some (.slice (some ⟨b, 0, none⟩) n cp) ∧ G < W.heap.size ∧ b < W.heap.size))
  have hcc := fun k x hx => HCELL.out k x hx
  have HCC := Lib.hid (fun W (hc : Chg [] w W) k x (hx : rs[k]? = some x) => (⟨(hc.cell (p := ⟨b, k * 2, none⟩) hbl (by simp)).trans (hcc k x hx).1, (hc.cell (p := ⟨b, k * 2 + 1, none⟩) hbl (by simp)).trans (hcc k x hx).2⟩ : W.cell? ⟨b, k * 2, none⟩ = some (.int .i64 x.1) ∧ W.cell? ⟨b, k * 2 + 1, none⟩ = some (.int .u64 x.2)))
  clear v0 v1 v2 V0 V1 V2 hcc HCELL hVe htk hBb P g hal hlen hn hn00 hl00 hn0 hn1 hl0 hmx hmM
  obtain ⟨V0, V1, V2, lG, lb⟩ := HV.out w (Chg.refl _ _)
  go_enter Try.func12, Try.ntmps12
  go_wp2_with (first
    | (go_at_call 14; refine (HA.out _ (Chg.refl _ _)).mono ?_; rintro e w1 ⟨A1, c1, rfl, hr1, _, hb1⟩; have HR1 := Lib.hid hr1; have HC1 := Lib.hid (Chg.of_below hb1); obtain ⟨a0, a1, a2, a3, a4⟩ := HV.out _ HC1.out; clear hr1 hb1)
    | (go_at_call 34; refine (HRA.out _ HC1.out).mono ?_; rintro e w2 ⟨A2, c2, rfl, hr2, _, hc2⟩; have HR2 := Lib.hid hr2; have HR1b := Lib.hid (HR1.out.quiet hc2); have HC2 := Lib.hid (HC1.out.then hc2); obtain ⟨b0, b1, b2, b3, b4⟩ := HV.out _ HC2.out; clear hr2 hc2)
    | (go_at_call 25; refine (HSM.out _ _ _ _ _ HR1b.out HR2.out).mono ?_; rintro e w3 ⟨rfl, hc3⟩; have HC3 := Lib.hid (HC2.out.then hc3); obtain ⟨d0, d1, d2, d3, d4⟩ := HV.out _ HC3.out; clear hc3)
    | (go_at_call 28; refine (HLE.out _ HC3.out).mono ?_; rintro e w4 ⟨rfl, hc4⟩; have HC4 := Lib.hid (HC3.out.then hc4); clear hc4))
  clear V0 V1 V2 lG lb a0 a1 a2 a3 a4 b0 b1 b2 b3 b4 d0 d1 d2 d3 d4 HA HRA HLE HSM HR1 HR1b HR2 HC1 HC2 HC3
  go_loopg [4] n (fun gh iv wr => ∃ k : Nat, k + gh = n ∧ iv = .int .i64 k ∧ Hid (Chg [] w wr))
  case atStart => exact ⟨0, by omega, rfl, HC4⟩
  case round =>
    obtain ⟨k, hk, rfl, HC⟩ := hrel
    obtain ⟨V0, V1, V2, lG, lb⟩ := HV.out _ HC.out
    have k0 : (0 : Int) ≤ (k : Int) := by omega
    by_cases hlt : k < n
    · have k1 : (k : Int) < (n : Int) := by omega
      by_cases h40 : k < 40
      · have k2 : (k : Int) < 40 := by omega
        obtain ⟨x, hx⟩ : ∃ x, rs[k]? = some x := ⟨_, List.getElem?_eq_getElem (by rw [← HN.out]; exact hlt)⟩
        obtain ⟨j, p⟩ := x
        obtain ⟨u0, u1⟩ := HCC.out _ HC.out k _ hx
        obtain ⟨x, E, m, n9, isb, L, hlk⟩ := HLK.out j p (List.mem_of_getElem? hx)
        have LK := Lib.hid hlk
        clear hx hlk
        simp only at u0 u1
        have lwr : wr.heap.size < (wr.alloc (obRef j p)).heap.size := by simp
        have neG : ¬ (wr.heap.size + 1 = G) := by omega
        have neb : ¬ (wr.heap.size + 1 = b) := by omega
        go_wp2
        go_cut [6, 7] from 38 (fun s6 s7 wc => ∃ B8 : Nat, s6 = ptr B8 ∧ s7 = .int .i64 E ∧ Hid (Chg [] wr wc ∧ Blk wc wr.heap.size 34 #[.int .i64 j, .int .u64 p] ∧ Blk wc B8 45 x.arr))
        case first =>
          go_region_held3 (fun w' => w'.cell? ⟨G, 0, none⟩ = some (ptr c) ∧ w'.cell? ⟨wr.heap.size, 0, none⟩ = some (.int .i64 j) ∧ w'.cell? ⟨wr.heap.size, 1, none⟩ = some (.int .u64 p))
            (first | go_keep)
            (first
              | (go_at_call 15; have hW : Chg [] (wr.alloc (obRef j p)) (((wr.alloc (obRef j p)).alloc obDm).drew) := ((Chg.refl [] _).alloc _).drew; refine (LK.out.get _ (HC.out.then (((Chg.refl [] wr).alloc (obRef j p)).then hW))).mono ?_; rintro e w5 ⟨rfl, hc⟩; have HC5 := Lib.hid ((((Chg.refl [] wr).alloc (obRef j p)).then hW).then hc); obtain ⟨y0, y1, _⟩ := HV.out _ (HC.out.then HC5.out); have HB5 := Lib.hid (((Blk.new wr 34 #[.int .i64 j, .int .u64 p]).chg hW (by simp)).chg hc (by simp)); have z0 := HB5.out.cell 0; have z1 := HB5.out.cell 1; have HX5 := Lib.hid ((Blk.at' (wr.alloc (obRef j p)) 45 #[.int .i64 0, .int .u64 0, .int .i64 0, .int .u64 0, .int .u64 0, .int .i64 0, .int .u64 0, .int .i64 0, .int .i64 0, .int .u64 0, .int .i64 0] (n := wr.heap.size + 1) (by simp)).drew.chg hc (by simp)); obtain ⟨hz, r0, r1, r2, r3, r4, r5, r6, r7, r8, r9, r10, rf⟩ := dm_facts (w := wr.alloc (obRef j p)) (n := wr.heap.size + 1) (by simp) ((Chg.refl [] _).drew) hc; clear hW hc)
              | (go_at_call 15; have hW : Chg [] (wr.alloc (obRef j p)) ((wr.alloc (obRef j p)).drew) := (Chg.refl [] _).drew; refine (LK.out.get _ (HC.out.then (((Chg.refl [] wr).alloc (obRef j p)).then hW))).mono ?_; rintro e w5 ⟨rfl, hc⟩; have HC5 := Lib.hid ((((Chg.refl [] wr).alloc (obRef j p)).then hW).then hc); obtain ⟨y0, y1, _⟩ := HV.out _ (HC.out.then HC5.out); have HB5 := Lib.hid (((Blk.new wr 34 #[.int .i64 j, .int .u64 p]).chg hW (by simp)).chg hc (by simp)); have z0 := HB5.out.cell 0; have z1 := HB5.out.cell 1; clear hW hc))
          all_goals go_wp2
          all_goals go_meet
          case rel => exact ⟨w5.heap.size, rfl, rfl, Lib.hid ⟨HC5.out.alloc _, HB5.out.alloc _, Blk.new w5 45 _⟩⟩
          case rel => exact ⟨wr.heap.size + 1, rfl, rfl, Lib.hid ⟨chg_put11 HC5.out (.inr (by omega)) 0 x, HB5.out.far11 (by omega) 0 x, blk_put11 HX5.out x⟩⟩
        case rest =>
          obtain ⟨B8, rfl, rfl, H8⟩ := hcut
          obtain ⟨w8, hw8⟩ : ∃ w8, w8 = wc := ⟨_, rfl⟩
          rw [← hw8] at H8 ⊢
          clear hw8
          obtain ⟨V0, V1, V2, lG, lb⟩ := HV.out _ (HC.out.then H8.out.1)
          have c0 := H8.out.2.1.cell 0
          have c1 := H8.out.2.1.cell 1
          go_wp2
          go_cut [8, 9, 10] from 38 (fun s8 s9 s10 wc => s8 = .int .i64 m ∧ s9 = .int .u64 n9 ∧ s10 = .int .i64 E ∧ Hid (Chg [] w8 wc))
          case first =>
            go_region_held3 (fun w' => w'.cell? ⟨G, 0, none⟩ = some (ptr c) ∧ w'.cell? ⟨wr.heap.size, 0, none⟩ = some (.int .i64 j) ∧ w'.cell? ⟨wr.heap.size, 1, none⟩ = some (.int .u64 p))
              (first | go_keep)
              (first
                | (go_at_call 26; refine (LK.out.share _ (HC.out.then (H8.out.1.drew))).mono ?_; rintro e w5 ⟨rfl, hc⟩; have HC5 := Lib.hid (((Chg.refl [] w8).drew).then hc); obtain ⟨y0, y1, _⟩ := HV.out _ ((HC.out.then H8.out.1).then HC5.out); have HB5 := Lib.hid (H8.out.2.1.chg HC5.out (by simp)); have z0 := HB5.out.cell 0; have z1 := HB5.out.cell 1; clear hc))
            all_goals go_wp2
            all_goals go_meet
            all_goals (try (case rel => exact ⟨rfl, rfl, rfl, HC5⟩))
          case rest =>
            obtain ⟨rfl, rfl, rfl, H9⟩ := hcut
            obtain ⟨w9, hw9⟩ : ∃ w9, w9 = wc := ⟨_, rfl⟩
            rw [← hw9] at H9 ⊢
            clear hw9
            have H19 := Lib.hid (H8.out.1.then H9.out)
            have HR9 := Lib.hid (H8.out.2.1.chg H9.out (by simp))
            have HX9 := Lib.hid (H8.out.2.2.chg H9.out (by simp))
            clear H8 H9 V0 V1 V2 lG lb c0 c1
            obtain ⟨V0, V1, V2, lG, lb⟩ := HV.out _ (HC.out.then H19.out)
            have c0 := HR9.out.cell 0
            have c1 := HR9.out.cell 1
            go_wp2
            go_cut [11, 12] from 38 (fun s11 s12 wc => ∃ A1 k1 A2 k2, s11 = .slice A1 L.length k1 ∧ s12 = .slice A2 L.length k2 ∧ Hid (Chg [] w9 wc ∧ Row wc 34 2 (.slice A1 L.length k1) L.length (refCells L) ∧ Row wc 34 2 (.slice A2 L.length k2) L.length (refCells L)))
            case first =>
              go_region_held3 (fun w' => w'.cell? ⟨G, 0, none⟩ = some (ptr c) ∧ w'.cell? ⟨G, 1, none⟩ = some (ptr h) ∧ w'.cell? ⟨wr.heap.size, 0, none⟩ = some (.int .i64 j) ∧ w'.cell? ⟨wr.heap.size, 1, none⟩ = some (.int .u64 p))
                (first | go_keep)
                (first
                  | (go_at_call 23; refine (LK.out.chain _ (HC.out.then (H19.out.drew))).mono ?_; rintro e w5 ⟨A1, k1, rfl, hr, hc⟩; have HC5 := Lib.hid (((Chg.refl [] w9).drew).then hc); obtain ⟨y0, y1, _⟩ := HV.out _ ((HC.out.then H19.out).then HC5.out); have HB5 := Lib.hid (HR9.out.chg HC5.out (by simp)); have z0 := HB5.out.cell 0; have z1 := HB5.out.cell 1; have HR5 := Lib.hid hr; clear hr hc)
                  | (go_at_call 35; refine (LK.out.rchain _ ((HC.out.then H19.out).then HC5.out)).mono ?_; rintro e w6 ⟨A2, k2, rfl, hr, hc⟩; have HC6 := Lib.hid (HC5.out.then hc); obtain ⟨yy0, yy1, _⟩ := HV.out _ ((HC.out.then H19.out).then HC6.out); have HB6 := Lib.hid (HR9.out.chg HC6.out (by simp)); have zz0 := HB6.out.cell 0; have zz1 := HB6.out.cell 1; have HR6 := Lib.hid hr; have HR56 := Lib.hid (HR5.out.quiet hc); clear hr hc))
              all_goals go_wp2
              all_goals go_meet
              all_goals (try (case rel => exact ⟨A1, k1, A2, k2, rfl, rfl, Lib.hid ⟨HC6.out, HR56.out, HR6.out⟩⟩))
            case rest =>
              obtain ⟨P1, d1, P2, d2, rfl, rfl, H10⟩ := hcut
              obtain ⟨w10, hw10⟩ : ∃ w10, w10 = wc := ⟨_, rfl⟩
              rw [← hw10] at H10 ⊢
              clear hw10
              have H20 := Lib.hid (H19.out.then H10.out.1)
              have HR10 := Lib.hid (HR9.out.chg H10.out.1 (by simp))
              have HX10 := Lib.hid (HX9.out.chg H10.out.1 (by simp))
              have hll := LK.out.len
              obtain ⟨lL, hlL⟩ : ∃ lL, lL = L.length := ⟨_, rfl⟩
              rw [← hlL] at H10 hll ⊢
              have HL := Lib.hid hlL
              have hbl : ((lL : Int) == (lL : Int)) = true := beq_self_eq_true _
              have HW10 := Lib.hid (HC.out.then H20.out)
              obtain ⟨B5, hB5⟩ : ∃ B5, B5 = wr.heap.size := ⟨_, rfl⟩
              rw [← hB5] at HR10 ⊢
              clear H19 HR9 HX9 V0 V1 V2 lG lb c0 c1 hlL hB5 H20 u0 u1 lwr neG neb HC HCC HLK
              go_wp2
              go_loopg [13] lL (fun gq iv wy => ∃ q : Nat, q + gq = lL ∧ iv = .int .i64 q ∧ Hid (Chg [] w10 wy))
              case atStart => exact ⟨0, by omega, rfl, Lib.hid (Chg.refl _ _)⟩
              case round =>
                obtain ⟨q, hq, rfl, HC1⟩ := hrel
                have q0 : (0 : Int) ≤ (q : Int) := by omega
                by_cases hql : q < lL
                · have q1 : (q : Int) < (lL : Int) := by omega
                  obtain ⟨g1, e1, hv1, _, _, hcell1, _, lg1⟩ := H10.out.2.1.form (by omega)
                  obtain ⟨g2, e2, hv2, _, _, hcell2, _, lg2⟩ := H10.out.2.2.form (by omega)
                  simp only [Value.slice.injEq] at hv1 hv2
                  obtain ⟨rfl, h91, h92⟩ := hv1
                  obtain ⟨rfl, h93, h94⟩ := hv2
                  clear h91 h92 h93 h94
                  obtain ⟨z, hz⟩ : ∃ z, L[q]? = some z := ⟨_, List.getElem?_eq_getElem (by rw [← HL.out]; exact hql)⟩
                  obtain ⟨z0, z1⟩ := z
                  obtain ⟨f0, f1⟩ := refCells_at hz
                  have y0 := (HC1.out.cell (p := ⟨g1, q * 2, none⟩) lg1 (by simp)).trans (hcell1 _ _ f0)
                  have y1 := (HC1.out.cell (p := ⟨g1, q * 2 + 1, none⟩) lg1 (by simp)).trans (hcell1 _ _ f1)
                  have y2 := (HC1.out.cell (p := ⟨g2, q * 2, none⟩) lg2 (by simp)).trans (hcell2 _ _ f0)
                  have y3 := (HC1.out.cell (p := ⟨g2, q * 2 + 1, none⟩) lg2 (by simp)).trans (hcell2 _ _ f1)
                  have hz0 : (z0 == z0) = true := beq_self_eq_true _
                  have hz1 : (z1 == z1) = true := beq_self_eq_true _
                  clear hcell1 hcell2 f0 f1 hz
                  go_wp2
                  go_region
                  go_wp2
                  go_roundg (lL - q - 1)
                  case measure => omega
                  case rel => exact ⟨q + 1, by omega, by go_num, Lib.hid (HC1.out.then (by repeat' (first | with_reducible exact Chg.refl [] _ | with_reducible apply Chg.alloc | with_reducible apply Chg.drew | with_reducible apply Chg.drewN)))⟩
                · have HC2 := Lib.hid (HW10.out.then HC1.out)
                  have HR11 := Lib.hid (HR10.out.chg HC1.out (by simp))
                  have HX11 := Lib.hid (HX10.out.chg HC1.out (by simp))
                  obtain rfl : q = lL := by omega
                  clear H10 HW10 HR10 HX10 HC1
                  obtain ⟨V0, V1, V2, lG, lb⟩ := HV.out _ HC2.out
                  have c0 := HR11.out.cell 0
                  have c1 := HR11.out.cell 1
                  cases isb with
                  | false =>
                    obtain ⟨rfl, rfl, rfl, rfl⟩ := LK.out.no rfl
                    have HIS := Lib.hid (LK.out.is)
                    have hneq := neq_self dm0
                    simp only [Dm.val, dm0] at hneq
                    clear LK
                    go_wp2
                    go_region_held3 (fun w' => w'.cell? ⟨G, 1, none⟩ = some (ptr h) ∧ w'.cell? ⟨B5, 0, none⟩ = some (.int .i64 j) ∧ w'.cell? ⟨B5, 1, none⟩ = some (.int .u64 p))
                      (first | go_keep)
                      (first
                        | (go_at_call 36; refine (HIS.out _ (HC2.out.drew)).mono ?_; rintro e w5 ⟨rfl, hc⟩; have HC5 := Lib.hid ((HC2.out.drew).then hc); obtain ⟨_, yy1, _⟩ := HV.out _ HC5.out; have HB5 := Lib.hid (HR11.out.drew.chg hc (by simp)); have z0 := HB5.out.cell 0; have z1 := HB5.out.cell 1; obtain ⟨lx, x0, x1, x2, x3, x4, x5, x6, x7, x8, x9, x10, xf⟩ := x_facts (x := dm0) (HX11.out.drew.chg hc (by simp)); simp only [dm0] at x0 x1 x2 x3 x4 x5 x6 x7 x8 x9 x10; clear hc))
                    all_goals
                      go_wp2
                      go_roundg (n - k - 1)
                      case measure => omega
                      case rel => exact ⟨k + 1, by omega, by go_num, HC5⟩
                  | true =>
                    obtain ⟨rfl, hw1, hw2, hget⟩ := LK.out.yes rfl
                    have HIS := Lib.hid (LK.out.is)
                    have HGT := Lib.hid hget
                    have hneq := neq_self x
                    simp only [Dm.val] at hneq
                    have hmm : (m == m) = true := beq_self_eq_true _
                    have hnn : (n9 == n9) = true := beq_self_eq_true _
                    clear LK hget
                    go_wp2
                    go_region_held3 (fun w' => w'.cell? ⟨G, 1, none⟩ = some (ptr h) ∧ w'.cell? ⟨B5, 0, none⟩ = some (.int .i64 j) ∧ w'.cell? ⟨B5, 1, none⟩ = some (.int .u64 p))
                      (first | go_keep)
                      (first
                        | (go_at_call 36; refine (HIS.out _ (HC2.out.drew)).mono ?_; rintro e w5 ⟨rfl, hc⟩; have HC5 := Lib.hid ((HC2.out.drew).then hc); obtain ⟨yy0, yy1, yy2, lG5, _⟩ := HV.out _ HC5.out; have HB5 := Lib.hid (HR11.out.drew.chg hc (by simp)); have z0 := HB5.out.cell 0; have z1 := HB5.out.cell 1; have l5 := HB5.out.lt; have HX5 := Lib.hid (HX11.out.drew.chg hc (by simp)); clear hc))
                    all_goals
                      have neG : ¬ (w5.heap.size = G) := by omega
                      have neB : ¬ (w5.heap.size = B5) := by omega
                      go_wp2
                      go_cut [14] from 38 (fun s14 wc => ∃ B9 : Nat, s14 = ptr B9 ∧ Hid (Chg [] w5 wc ∧ Blk wc B9 45 x.arr))
                      case first =>
                        go_region_held3 (fun w' => w'.cell? ⟨G, 1, none⟩ = some (ptr h) ∧ w'.cell? ⟨B5, 0, none⟩ = some (.int .i64 j) ∧ w'.cell? ⟨B5, 1, none⟩ = some (.int .u64 p))
                          (first | go_keep)
                          (first
                            | (go_at_call 37; have hW : Chg [] w5 ((w5.alloc obDm).drew) := ((Chg.refl [] _).alloc _).drew; refine (HGT.out _ (HC5.out.then hW)).mono ?_; rintro e w6 ⟨rfl, hc⟩; have HC6 := Lib.hid (hW.then hc); obtain ⟨_, yy1, _⟩ := HV.out _ (HC5.out.then HC6.out); have HB6 := Lib.hid (HB5.out.chg HC6.out (by simp)); have z0 := HB6.out.cell 0; have z1 := HB6.out.cell 1; have HX6 := Lib.hid ((Blk.new w5 45 #[.int .i64 0, .int .u64 0, .int .i64 0, .int .u64 0, .int .u64 0, .int .i64 0, .int .u64 0, .int .i64 0, .int .i64 0, .int .u64 0, .int .i64 0]).drew.chg hc (by simp)); obtain ⟨hz, r0, r1, r2, r3, r4, r5, r6, r7, r8, r9, r10, rf⟩ := dm_facts (w := w5) (n := w5.heap.size) rfl ((Chg.refl [] _).drew) hc; clear hW hc)
                            | (go_at_call 37; have hW : Chg [] w5 (w5.drew) := (Chg.refl [] _).drew; refine (HGT.out _ (HC5.out.then hW)).mono ?_; rintro e w6 ⟨rfl, hc⟩; have HC6 := Lib.hid (hW.then hc); obtain ⟨_, yy1, _⟩ := HV.out _ (HC5.out.then HC6.out); have HB6 := Lib.hid (HB5.out.chg HC6.out (by simp)); have z0 := HB6.out.cell 0; have z1 := HB6.out.cell 1; clear hW hc))
                        all_goals go_wp2
                        all_goals go_meet
                        case rel => exact ⟨w6.heap.size, rfl, Lib.hid ⟨HC6.out.alloc _, Blk.new w6 45 _⟩⟩
                        case rel => exact ⟨w5.heap.size, rfl, Lib.hid ⟨chg_put11 HC6.out (.inr (by omega)) 0 x, blk_put11 HX6.out x⟩⟩
                      case rest =>
                        obtain ⟨B9, rfl, H21⟩ := hcut
                        obtain ⟨lx, x0, x1, x2, x3, x4, x5, x6, x7, x8, x9, x10, xf⟩ := x_facts (HX5.out.chg H21.out.1 (by simp))
                        obtain ⟨ly, y0, y1, y2, y3, y4, y5, y6, y7, y8, y9, y10, yf⟩ := x_facts (H21.out.2)
                        have HC7 := Lib.hid (HC5.out.then H21.out.1)
                        go_wp2
                        go_roundg (n - k - 1)
                        case measure => omega
                        case rel => exact ⟨k + 1, by omega, by go_num, HC7⟩
      · have k2 : (40 : Int) ≤ (k : Int) := by omega
        have d40 : decide ((k : Int) < 40) = false := by simp; omega
        go_wp2
        go_ret
        exact ⟨rfl, HC.out⟩
    · obtain rfl : k = n := by omega
      go_wp2
      go_ret
      exact ⟨rfl, HC.out⟩
end
end Go.Proofs
end
section
namespace Go.Proofs
open Go.RowKit Go.Shelf
set_option linter.unusedVariables false
set_option linter.unusedSimpArgs false
theorem Btw.look {w0 w : World} {G c h N : Nat} (H : Btw w0 G c h N w) : Calls Try.prog 12 #[ptr G] w fun e w' => e = .returned (.bool true) ∧ Btw w0 G c h N w' := by
  obtain ⟨S, S2, V, rs, t, r, ch, h1, h2, h3⟩ := id H
  exact (same_any h1).mono fun e w' ⟨he, hc⟩ => ⟨he, H.quiet hc⟩
set_option maxHeartbeats 6400000 in
set_option maxRecDepth 100000 in
theorem plays_any (size gs cpu per : Int) (hcp : 0 ≤ cpu) (hpp : 0 ≤ per) (V : Value) (l : List ActC) (w : World) (hV : Acts w V l) :
    Calls Try.prog 3 #[.int .i64 size, .int .i64 gs, .int .u64 cpu, .int .u64 per, V] w fun e w' => e = .returned (.bool true) ∧ Chg [] w w' := by
  obtain ⟨A, c9, rfl⟩ := hV.open_
  obtain ⟨m, hm⟩ : ∃ m, m = l.length := ⟨_, rfl⟩
  rw [← hm] at hV ⊢
  have HV := Lib.hid hV
  have HK := Lib.hid known_any
  clear hV hm
  by_cases hbig : 80 < (m : Int)
  · have d1 : decide ((m : Int) > 80) = true := by simpa using hbig
    go_enter Try.func3, Try.ntmps3
    go_wp2_with (go_at_call 8; refine (HK.out _).mono ?_; rintro e w1 ⟨rfl, hc⟩)
    go_ret
    exact ⟨rfl, hc⟩
  have d1 : decide ((m : Int) > 80) = false := by simpa using hbig
  have HMY := Lib.hid (fun W => may_any (size := size) (gs := gs) (cpu := cpu) (per := per) hcp hpp W)
  cases hmay : mayN size gs cpu per with
  | false =>
    rw [hmay] at HMY
    have HNO := Lib.hid (fun W => New_no W hcp hpp hmay)
    clear hmay
    go_enter Try.func3, Try.ntmps3
    go_wp2_with (first
      | (go_at_call 10; refine (HNO.out _).mono ?_; rintro e w1 ⟨rfl, rfl⟩)
      | (go_at_call 9; refine (HMY.out _).mono ?_; rintro e w1 ⟨rfl, rfl⟩)
      | (go_at_call 8; refine (HK.out _).mono ?_; rintro e w1 ⟨rfl, hc⟩))
    go_ret
    exact ⟨rfl, hc⟩
  | true =>
    rw [hmay] at HMY
    obtain ⟨s1, s2, _⟩ := mayN_iff.1 hmay
    obtain ⟨N, rfl⟩ : ∃ N : Nat, size = N := ⟨size.toNat, by omega⟩
    have HBG := Lib.hid (begin_btw hcp hpp hmay (Chg.refl [] w))
    clear hmay s1 s2
    go_enter Try.func3, Try.ntmps3
    go_wp2_with (first
      | (go_at_call 9; refine (HMY.out _).mono ?_; rintro e w1 ⟨rfl, rfl⟩)
      | (go_at_call 11; refine HBG.out.mono ?_; rintro e w2 ⟨G, c, h, rfl, hB⟩; have HB2 := Lib.hid hB; clear hB)
      | (go_at_call 12; refine HB2.out.look.mono ?_; rintro e w3 ⟨rfl, hB⟩; have HB := Lib.hid hB; clear hB))
    go_loopw [14] (fun i wr => ∃ k : Nat, k ≤ m ∧ i = .int .i64 k ∧ Hid (Btw w G c h k wr)) (fun i wr => m - (intOfN i).toNat)
    case atStart => exact ⟨0, Nat.zero_le _, rfl, HB⟩
    case round =>
      obtain ⟨k, hk, rfl, hB⟩ := hrel
      by_cases hlt : k < m
      · obtain ⟨b, off, kind, ri, rq, at_, gs2, n7, per2, rfl, hat, hfit, hcs⟩ := HV.out.is_ hlt
        obtain ⟨e0, e1, e2, e3, e4, e5, e6⟩ := hcs _ hB.out.chg
        have i0 : (0 : Int) ≤ (k : Int) := by omega
        have i1 : (k : Int) < (m : Int) := by omega
        have HD := hB.out.does (by omega) _ hfit
        simp only [ActC.cells] at HD
        clear hfit hat hcs
        go_wp2_with (first
          | (go_at_call 13; refine HD.mono ?_; rintro e w4 ⟨rfl, hB2⟩; have HB3 := Lib.hid hB2; clear hB2)
          | (go_at_call 12; refine HB3.out.look.mono ?_; rintro e w5 ⟨rfl, hB3⟩; have HB4 := Lib.hid hB3; clear hB3))
        go_roundw
        case rel => exact ⟨k + 1, by omega, by go_num, HB4⟩
        case measure => simp [intOfN]; omega
      · have HC := Lib.hid hB.out.chg
        clear hB
        go_wp2_with (go_at_call 8; refine (HK.out _).mono ?_; rintro e w4 ⟨rfl, hc⟩)
        go_ret
        exact ⟨rfl, HC.out.then hc⟩
end Go.Proofs
end
section
namespace Go.Proofs
open Go.RowKit Go.Shelf
set_option linter.unusedVariables false
set_option linter.unusedSimpArgs false
/-- A list of all, in memory, and its books. -/
structure Told (W : World) (A : Option Addr) (n0 c1 : Nat) (l0 : List Plc) : Prop where
  row : Row W 47 13 (.slice A n0 c1) n0 (plcCells l0)
  len : n0 = l0.length
  most : n0 ≤ 32
  bk : ∀ e ∈ l0, ∃ S1 S2 S3 S4, Bk l0 n0 e S1 S2 S3 S4
theorem Told.quiet {W W' : World} {A : Option Addr} {n0 c1 : Nat} {l0 : List Plc} (h : Told W A n0 c1 l0) (hc : Chg [] W W') : Told W' A n0 c1 l0 := { h with row := h.row.quiet hc }
/-- A place's cells. -/
theorem Told.at_ {W : World} {A : Option Addr} {n0 c1 : Nat} {l0 : List Plc} (h : Told W A n0 c1 l0) {k : Nat} (hk : k < n0) : ∃ g p, A = some ⟨g, 0, none⟩ ∧ l0[k]? = some p ∧ g < W.heap.size ∧ ∀ W', Chg [] W W' →
    W'.cell? ⟨g, k * 13, none⟩ = some (.int .i64 p.i) ∧ W'.cell? ⟨g, k * 13 + 1, none⟩ = some (.int .u64 p.q) ∧ W'.cell? ⟨g, k * 13 + 2, none⟩ = some (.int .i64 p.x.pi) ∧ W'.cell? ⟨g, k * 13 + 3, none⟩ = some (.int .u64 p.x.pg) ∧ W'.cell? ⟨g, k * 13 + 4, none⟩ = some (.int .i64 p.x.gs) ∧ W'.cell? ⟨g, k * 13 + 5, none⟩ = some (.int .u64 p.x.cpu) ∧ W'.cell? ⟨g, k * 13 + 6, none⟩ = some (.int .u64 p.x.per) ∧ W'.cell? ⟨g, k * 13 + 7, none⟩ = some (.int .i64 p.x.cgs) ∧ W'.cell? ⟨g, k * 13 + 8, none⟩ = some (.int .u64 p.x.car) ∧ W'.cell? ⟨g, k * 13 + 9, none⟩ = some (.int .i64 p.x.own) ∧ W'.cell? ⟨g, k * 13 + 10, none⟩ = some (.int .i64 p.x.live) ∧ W'.cell? ⟨g, k * 13 + 11, none⟩ = some (.int .u64 p.x.used) ∧ W'.cell? ⟨g, k * 13 + 12, none⟩ = some (.int .i64 p.x.ch) := by
  obtain ⟨g, d, hv, _, _, hcell, _, lg⟩ := h.row.form (by omega)
  simp only [Value.slice.injEq] at hv
  obtain ⟨rfl, _, _⟩ := hv
  obtain ⟨p, hp⟩ : ∃ p, l0[k]? = some p := ⟨_, List.getElem?_eq_getElem (by rw [← h.len]; exact hk)⟩
  obtain ⟨q0, q1, q2, q3, q4, q5, q6, q7, q8, q9, q10, q11, q12⟩ := plcCells_at hp
  refine ⟨g, p, rfl, hp, lg, fun W' hc => ?_⟩
  have e := fun (j : Nat) (u : Value) (hj : (plcCells l0)[j]? = some u) => (hc.cell (p := ⟨g, j, none⟩) lg (by simp)).trans (hcell _ _ hj)
  exact ⟨e _ _ q0, e _ _ q1, e _ _ q2, e _ _ q3, e _ _ q4, e _ _ q5, e _ _ q6, e _ _ q7, e _ _ q8, e _ _ q9, e _ _ q10, e _ _ q11, e _ _ q12⟩
/-- All of the game's domains: a list whose books balance. -/
theorem Btw.all {w0 w : World} {G c h N : Nat} (H : Btw w0 G c h N w) : Calls Try.prog 14 #[ptr c] w fun e w' => ∃ A n0 c1 l0, e = .returned (.slice A n0 c1) ∧ Told w' A n0 c1 l0 ∧ Btw w0 G c h N w' := by
  obtain ⟨S, S2, V, rs, t, r, ch, h1, h2, h3⟩ := id H
  have P := h1.pair
  refine (allD_any P.dm P.sim.size).mono ?_
  rintro e w' ⟨A, cc, rfl, hr, _, hb⟩
  rw [P.sim.all] at hr
  have hl : (r.all ch).length ≤ 32 := Nat.le_trans (allTo_len r ch _) P.sim.held.n1
  refine ⟨A, (r.all ch).length, cc, r.all ch, by rw [P.sim.all], ⟨hr, rfl, hl, fun e he => bk_of P.sim.held he⟩, H.quiet (Chg.of_below hb)⟩
theorem Btw.cells {w0 w : World} {G c h N : Nat} (H : Btw w0 G c h N w) : w.cell? ⟨G, 0, none⟩ = some (ptr c) ∧ w.cell? ⟨G, 1, none⟩ = some (ptr h) ∧ G < w.heap.size := by
  obtain ⟨S, S2, V, rs, t, r, ch, h1, h2, h3⟩ := id H
  exact ⟨h1.blk.cell 0, h1.blk.cell 1, h1.blk.lt⟩
set_option maxHeartbeats 12800000 in
set_option maxRecDepth 100000 in
theorem books_any (size gs cpu per : Int) (hcp : 0 ≤ cpu) (hpp : 0 ≤ per) (V : Value) (l : List ActC) (w : World) (hV : Acts w V l) :
    Calls Try.prog 4 #[.int .i64 size, .int .i64 gs, .int .u64 cpu, .int .u64 per, V] w fun e w' => e = .returned (.bool true) ∧ Chg [] w w' := by
  obtain ⟨A, c9, rfl⟩ := hV.open_
  obtain ⟨m, hm⟩ : ∃ m, m = l.length := ⟨_, rfl⟩
  rw [← hm] at hV ⊢
  have HV := Lib.hid hV
  have HK := Lib.hid known_any
  clear hV hm
  by_cases hbig : 80 < (m : Int)
  · have d1 : decide ((m : Int) > 80) = true := by simpa using hbig
    go_enter Try.func4, Try.ntmps4
    go_wp2_with (go_at_call 8; refine (HK.out _).mono ?_; rintro e w1 ⟨rfl, hc⟩)
    go_ret
    exact ⟨rfl, hc⟩
  have d1 : decide ((m : Int) > 80) = false := by simpa using hbig
  have HMY := Lib.hid (fun W => may_any (size := size) (gs := gs) (cpu := cpu) (per := per) hcp hpp W)
  cases hmay : mayN size gs cpu per with
  | false =>
    rw [hmay] at HMY
    clear hmay
    go_enter Try.func4, Try.ntmps4
    go_wp2_with (first
      | (go_at_call 9; refine (HMY.out _).mono ?_; rintro e w1 ⟨rfl, rfl⟩)
      | (go_at_call 8; refine (HK.out _).mono ?_; rintro e w1 ⟨rfl, hc⟩))
    go_ret
    exact ⟨rfl, hc⟩
  | true =>
    rw [hmay] at HMY
    obtain ⟨s1, s2, _⟩ := mayN_iff.1 hmay
    obtain ⟨N, rfl⟩ : ∃ N : Nat, size = N := ⟨size.toNat, by omega⟩
    have HBG := Lib.hid (begin_btw hcp hpp hmay (Chg.refl [] w))
    clear hmay s1 s2
    go_enter Try.func4, Try.ntmps4
    go_wp2_with (first
      | (go_at_call 9; refine (HMY.out _).mono ?_; rintro e w1 ⟨rfl, rfl⟩)
      | (go_at_call 11; refine HBG.out.mono ?_; rintro e w2 ⟨G, c, h, rfl, hB⟩; have HB2 := Lib.hid hB; clear hB))
    go_loopw [12] (fun i wr => ∃ k : Nat, k ≤ m ∧ i = .int .i64 k ∧ Hid (Btw w G c h k wr)) (fun i wr => m - (intOfN i).toNat)
    case atStart => exact ⟨0, Nat.zero_le _, rfl, HB2⟩
    case round =>
      obtain ⟨k, hk, rfl, hB⟩ := hrel
      by_cases hlt : k < m
      · obtain ⟨b, off, kind, ri, rq, at_, gs2, n7, per2, rfl, hat, hfit, hcs⟩ := HV.out.is_ hlt
        obtain ⟨e0, e1, e2, e3, e4, e5, e6⟩ := hcs _ hB.out.chg
        have i0 : (0 : Int) ≤ (k : Int) := by omega
        have i1 : (k : Int) < (m : Int) := by omega
        have HD := hB.out.does (by omega) _ hfit
        simp only [ActC.cells] at HD
        clear hfit hat hcs
        go_wp2_with (first
          | (go_at_call 13; refine HD.mono ?_; rintro e w4 ⟨rfl, hB2⟩; have HB3 := Lib.hid hB2; obtain ⟨g0, g1, g2⟩ := hB2.cells; clear hB2)
          | (go_at_call 14; refine HB3.out.all.mono ?_; rintro e w5 ⟨A0, n0, c1, l0, rfl, hT, hB3⟩; have HB4 := Lib.hid hB3; have HT := Lib.hid hT; clear hB3 hT))
        have hmost := HT.out.most
        go_loopg [14] n0 (fun gq iv wy => ∃ q : Nat, q + gq = n0 ∧ iv = .int .i64 q ∧ Hid (Chg [] w5 wy))
        case atStart => exact ⟨0, by omega, rfl, Lib.hid (Chg.refl _ _)⟩
        case round =>
          obtain ⟨q, hq, rfl, HC⟩ := hrel
          have q0 : (0 : Int) ≤ (q : Int) := by omega
          by_cases hql : q < n0
          · have q1 : (q : Int) < (n0 : Int) := by omega
            obtain ⟨g, e9, rfl, he9, lg, hcl⟩ := HT.out.at_ hql
            obtain ⟨x0, x1, x2, x3, x4, x5, x6, x7, x8, x9, x10, x11, x12⟩ := hcl _ HC.out
            obtain ⟨S1, S2, S3, S4, hbk⟩ := HT.out.bk e9 (List.mem_of_getElem? he9)
            have HBK := Lib.hid hbk
            have HCL := Lib.hid hcl
            have lgr : g < wr.heap.size := Nat.lt_of_lt_of_le lg HC.out.size
            clear hbk hcl
            go_wp2
            go_region
            go_wp2
            have hC6 : Chg [] w5 (wr.alloc (obX e9.x)) := HC.out.alloc _
            have hB6 : Blk (wr.alloc (obX e9.x)) wr.heap.size 45 e9.x.arr := Blk.new wr 45 _
            obtain ⟨Bx, hBx⟩ : ∃ Bx, Bx = wr.heap.size := ⟨_, rfl⟩
            rw [← hBx] at hB6 ⊢
            have HB6 := Lib.hid hB6
            have HC6 := Lib.hid hC6
            have hz := HBK.out.z
            clear hBx hB6 hC6 x0 x1 x2 x3 x4 x5 x6 x7 x8 x9 x10 x11 x12
            go_loopg [16, 17, 18, 19, 20] n0 (fun gh s16 s17 s18 s19 s20 wy => ∃ i : Nat, i + gh = n0 ∧ s20 = .int .i64 i ∧ s16 = .int .i64 (S1 i) ∧ s17 = .int .u64 (S2 i) ∧ s18 = .int .i64 (S3 i) ∧ s19 = .int .i64 (S4 i) ∧ Hid (Chg [] w5 wy ∧ Blk wy Bx 45 e9.x.arr))
            case atStart => exact ⟨0, by omega, rfl, by rw [hz.1], by rw [hz.2.1], by rw [hz.2.2.1], by rw [hz.2.2.2], Lib.hid ⟨HC6.out.then (by repeat' (first | with_reducible exact Chg.refl [] _ | with_reducible apply Chg.drew | with_reducible apply Chg.drewN)), HB6.out.chg (S := []) (by repeat' (first | with_reducible exact Chg.refl [] _ | with_reducible apply Chg.drew | with_reducible apply Chg.drewN)) (by simp)⟩⟩
            case round =>
              obtain ⟨i, hi, rfl, rfl, rfl, rfl, rfl, HH⟩ := hrel
              have j0 : (0 : Int) ≤ (i : Int) := by omega
              by_cases hil : i < n0
              · have j1 : (i : Int) < (n0 : Int) := by omega
                obtain ⟨g', p, hA, hp, _, hcl2⟩ := HT.out.at_ hil
                simp only [Option.some.injEq, Addr.mk.injEq, and_true] at hA
                subst hA
                have lgr : g < wr.heap.size := Nat.lt_of_lt_of_le lg HH.out.1.size
                obtain ⟨z0, z1, _⟩ := HCL.out _ HH.out.1
                obtain ⟨y0, y1, y2, y3, y4, y5, y6, y7, y8, y9, y10, y11, y12⟩ := hcl2 _ HH.out.1
                by_cases h1 : p.x.pi = e9.i
                · by_cases h2 : p.x.pg = e9.q
                  · obtain ⟨t1, t2, t3, t4⟩ := HBK.out.yes i p hp h1 h2
                    have hp1 : (p.x.pi == e9.i) = true := by simpa using h1
                    have hp2 : (p.x.pg == e9.q) = true := by simpa using h2
                    clear h1 h2 hp hcl2
                    go_wp2
                    go_region
                    go_wp2
                    go_roundg (n0 - i - 1)
                    case measure => omega
                    case rel => exact ⟨i + 1, by omega, by go_num, by first | rfl | rw [t1] | go_num, by first | rfl | rw [t2] | go_num, by first | rfl | rw [t3] | go_num, by first | rfl | rw [t4] | go_num, Lib.hid ⟨HH.out.1.then (by repeat' (first | with_reducible exact Chg.refl [] _ | with_reducible apply Chg.drew | with_reducible apply Chg.drewN)), HH.out.2.chg (S := []) (by repeat' (first | with_reducible exact Chg.refl [] _ | with_reducible apply Chg.drew | with_reducible apply Chg.drewN)) (by simp)⟩⟩
                  · obtain ⟨t1, t2, t3, t4⟩ := HBK.out.no i p hp (fun h => h2 h.2)
                    have hp1 : (p.x.pi == e9.i) = true := by simpa using h1
                    have hp2 : (p.x.pg == e9.q) = false := by simpa using h2
                    clear h1 h2 hp hcl2
                    go_wp2
                    go_region
                    go_wp2
                    go_roundg (n0 - i - 1)
                    case measure => omega
                    case rel => exact ⟨i + 1, by omega, by go_num, by rw [t1], by rw [t2], by rw [t3], by rw [t4], Lib.hid ⟨HH.out.1.then (by repeat' (first | with_reducible exact Chg.refl [] _ | with_reducible apply Chg.drew | with_reducible apply Chg.drewN)), HH.out.2.chg (S := []) (by repeat' (first | with_reducible exact Chg.refl [] _ | with_reducible apply Chg.drew | with_reducible apply Chg.drewN)) (by simp)⟩⟩
                · obtain ⟨t1, t2, t3, t4⟩ := HBK.out.no i p hp (fun h => h1 h.1)
                  have hp1 : (p.x.pi == e9.i) = false := by simpa using h1
                  clear h1 hp hcl2
                  go_wp2
                  go_region
                  go_wp2
                  go_roundg (n0 - i - 1)
                  case measure => omega
                  case rel => exact ⟨i + 1, by omega, by go_num, by rw [t1], by rw [t2], by rw [t3], by rw [t4], Lib.hid ⟨HH.out.1.then (by repeat' (first | with_reducible exact Chg.refl [] _ | with_reducible apply Chg.drew | with_reducible apply Chg.drewN)), HH.out.2.chg (S := []) (by repeat' (first | with_reducible exact Chg.refl [] _ | with_reducible apply Chg.drew | with_reducible apply Chg.drewN)) (by simp)⟩⟩
              · obtain rfl : i = n0 := by omega
                obtain ⟨f1, f2, f3, f4⟩ := HBK.out.fin
                rw [f1, f2, f3, f4]
                obtain ⟨k1, k2, k3, k4⟩ := HBK.out.chk
                obtain ⟨lx, x0, x1, x2, x3, x4, x5, x6, x7, x8, x9, x10, xf⟩ := x_facts HH.out.2
                have m1 : ¬ (e9.x.gs < e9.x.live) := by omega
                have m2 : ¬ (e9.x.gs - e9.x.cgs < e9.x.own) := by omega
                have m3 : ¬ (e9.x.cpu < e9.x.car) := by omega
                have n1 : (e9.x.cgs == e9.x.cgs) = true := beq_self_eq_true _
                have n2 : (e9.x.car == e9.x.car) = true := beq_self_eq_true _
                have n3 : (e9.x.live == e9.x.live) = true := beq_self_eq_true _
                have n4 : (e9.x.ch == e9.x.ch) = true := beq_self_eq_true _
                clear f1 f2 f3 f4 k1 k2 k3
                go_wp2
                go_roundg (i - q - 1)
                case measure => omega
                case rel => exact ⟨q + 1, by omega, by go_num, Lib.hid HH.out.1⟩
          · obtain rfl : q = n0 := by omega
            have HB5 := Lib.hid (HB4.out.quiet HC.out)
            clear HT HC HB4
            go_wp2
            go_roundw
            case rel => exact ⟨k + 1, by omega, by go_num, HB5⟩
            case measure => simp [intOfN]; omega
      · have HC := Lib.hid hB.out.chg
        clear hB
        go_wp2_with (go_at_call 8; refine (HK.out _).mono ?_; rintro e w4 ⟨rfl, hc⟩)
        go_ret
        exact ⟨rfl, HC.out.then hc⟩
end Go.Proofs
end
section
namespace Go.Proofs
open Go.RowKit Go.Shelf
set_option linter.unusedVariables false
set_option linter.unusedSimpArgs false
/-! ### Domains that are not there, and zero ones -/
def NilD (w : World) (v : Value) : Prop := v = .pointer none ∨ ∃ z, v = ptr z ∧ Blk w z 62 #[.pointer none]
theorem NilD.chg {w w' : World} {v : Value} (h : NilD w v) (hc : Chg [] w w') : NilD w' v := by
  rcases h with h | ⟨z, h1, h2⟩
  · exact .inl h
  · exact .inr ⟨z, h1, h2.chg hc (by simp)⟩
theorem nplaces {w : World} {v : Value} (h : NilD w v) : Calls Try.prog 44 #[v] w fun e w' => e = .returned (.pointer none) ∧ w = w' := by
  rcases h with rfl | ⟨z, rfl, hB⟩
  · exact places_nil w
  · have c0 : w.cell? ⟨z, 0, none⟩ = some (.pointer none) := hB.cell 0
    clear hB
    go_enter Try.func44, Try.ntmps44
    go_wp2
    go_ret
    exact ⟨rfl, rfl⟩
theorem nnone {w : World} {v : Value} (h : NilD w v) : Calls Try.prog 48 #[v] w fun e w' => e = .returned (.bool true) ∧ w = w' := by
  have HP := Lib.hid (nplaces h)
  clear h
  go_enter Try.func48, Try.ntmps48
  go_wp2_with (go_at_call 44; refine HP.out.mono ?_; rintro e w' ⟨rfl, rfl⟩)
  go_ret
  exact ⟨rfl, rfl⟩
theorem tnone (w : World) : Calls Try.prog 66 #[.pointer none] w fun e w' => e = .returned (.bool true) ∧ w = w' := by
  go_enter Try.func66, Try.ntmps66
  go_wp2
  go_ret
  exact ⟨rfl, rfl⟩
theorem nfind (w : World) (i q : Int) : Calls Try.prog 74 #[.pointer none, .agg #[.int .i64 i, .int .u64 q]] w fun e w' => e = .returned (.tuple #[.pointer none, .int .i64 1]) ∧ Chg [] w w' := by
  have HT := Lib.hid tnone
  go_enter Try.func74, Try.ntmps74
  go_wp2_with (go_at_call 66; refine (HT.out _).mono ?_; rintro e w' ⟨rfl, rfl⟩)
  exact bodyPost_ret (v := .tuple #[.pointer none, .int .i64 1]) (by simp [results, Try.results74, go_sem]) rfl ⟨rfl, ((Chg.refl [] w).alloc _)⟩
set_option maxRecDepth 100000 in
theorem naget (w : World) (i q : Int) : Calls Try.prog 46 #[.pointer none, .agg #[.int .i64 i, .int .u64 q]] w fun e w' => e = .returned (.tuple #[dm0.val, .int .i64 1]) ∧ Chg [] w w' := by
  have HA := fun W => nfind W i q
  go_enter Try.func46, Try.ntmps46
  go_wp2_with (go_at_call 74; refine (HA _).mono ?_; rintro e w1 ⟨rfl, hc1⟩; have hz : w.heap.size + 1 < w1.heap.size := (by have := hc1.size; simp at this; omega); have HC := Lib.hid (((Chg.refl [] w).alloc _).alloc _ |>.then hc1); have hB1 := (box2 rfl hc1); have k0 := hB1.cell 0; have k1 := hB1.cell 1; have k2 := hB1.cell 2; have k3 := hB1.cell 3; have k4 := hB1.cell 4; have k5 := hB1.cell 5; have k6 := hB1.cell 6; have k7 := hB1.cell 7; have k8 := hB1.cell 8; have k9 := hB1.cell 9; have k10 := hB1.cell 10; have f0 := hB1.frozen; clear hB1 hc1)
  refine bodyPost_ret (v := .tuple #[dm0.val, .int .i64 1]) ?_ rfl ⟨rfl, (chg_box HC.out 0 dm0).alloc _⟩
  simp [results, Try.results46, go_sem, dm0, Dm.val, hz, k0, k1, k2, k3, k4, k5, k6, k7, k8, k9, k10]
section
variable {w : World} {v : Value}
set_option maxRecDepth 100000 in
theorem nget (h : NilD w v) (i q : Int) : Calls Try.prog 15 #[v, .agg #[.int .i64 i, .int .u64 q]] w fun e w' => e = .returned (.tuple #[dm0.val, .int .i64 1]) ∧ Chg [] w w' := by
  have HP := Lib.hid (fun W (hW : Chg [] w W) => nplaces (h.chg hW))
  have HG := Lib.hid (fun W => naget W i q)
  obtain ⟨x, hx⟩ : ∃ x, x = dm0 := ⟨_, rfl⟩
  rw [← hx] at HG ⊢
  clear hx h
  go_enter Try.func15, Try.ntmps15
  go_wp2
  go_region_held3 (fun w' => w'.cell? ⟨w.heap.size, 0, none⟩ = some (.int .i64 i) ∧ w'.cell? ⟨w.heap.size, 1, none⟩ = some (.int .u64 q))
    (first | go_keep)
    (first
      | (go_at_call 44; refine (HP.out _ ((((Chg.refl _ _).alloc _).alloc _).drew)).mono ?_; rintro e w1 ⟨rfl, rfl⟩)
      | (go_at_call 46; refine (HG.out _).mono ?_; rintro e w2 ⟨rfl, hc⟩; obtain ⟨_, b0, b1⟩ := ref_facts (w := w) rfl (((Chg.refl [] _).alloc _).drew) hc; obtain ⟨hz, r0, r1, r2, r3, r4, r5, r6, r7, r8, r9, r10, rf⟩ := dm_facts (w := w.alloc (obRef i q)) (n := w.heap.size + 1) (by simp) ((Chg.refl [] _).drew) hc; have HC := Lib.hid ((((Chg.refl [] w).alloc _).alloc _).drew.then hc); clear hc))
  all_goals
    go_wp2
    refine bodyPost_ret (v := .tuple #[x.val, .int .i64 1]) ?_ rfl ⟨rfl, by repeat' (first | with_reducible exact HC.out | with_reducible apply Chg.alloc | with_reducible apply Chg.setCell | (with_reducible refine Or.inr ?_; dsimp only; omega))⟩
    simp [results, Try.results15, go_sem, Dm.val, hz, r0, r1, r2, r3, r4, r5, r6, r7, r8, r9, r10]
theorem nshare (h : NilD w v) (i q : Int) : Calls Try.prog 26 #[v, .agg #[.int .i64 i, .int .u64 q]] w fun e w' => e = .returned (.tuple #[.int .i64 0, .int .u64 0, .int .i64 1]) ∧ Chg [] w w' := by
  have HG := Lib.hid (fun W (hW : Chg [] w W) => nget (h.chg hW) i q)
  have HS := Lib.hid (fun W => share_any W dm0 Dm.Sm.zero)
  have e : dm0.gs - dm0.cgs = 0 ∧ subS dm0.cpu dm0.car = 0 := by decide
  rw [e.1, e.2] at HS
  obtain ⟨x, hx⟩ : ∃ x, x = dm0 := ⟨_, rfl⟩
  rw [← hx] at HG HS
  clear hx e h
  go_enter Try.func26, Try.ntmps26
  go_wp2_with (first
    | (go_at_call 15; refine (HG.out _ ((Chg.refl _ _).alloc _)).mono ?_; rintro e w1 ⟨rfl, hc⟩; have HC := Lib.hid (((Chg.refl [] w).alloc _).then hc); clear hc)
    | (go_at_call 49; refine (HS.out _).mono ?_; rintro e w2 ⟨rfl, hc⟩; have HC2 := Lib.hid ((HC.out.alloc (obX x)).then hc); clear hc))
  exact bodyPost_ret (v := .tuple #[.int .i64 0, .int .u64 0, .int .i64 1]) (by simp [results, Try.results26, go_sem]) rfl ⟨rfl, HC2.out⟩
theorem nmerge (h : NilD w v) (i q : Int) : Calls Try.prog 18 #[v, .agg #[.int .i64 i, .int .u64 q]] w fun e w' => e = .returned (.int .i64 1) ∧ Chg [] w w' := by
  have HG := Lib.hid (fun W (hW : Chg [] w W) => nget (h.chg hW) i q)
  obtain ⟨x, hx⟩ : ∃ x, x = dm0 := ⟨_, rfl⟩
  rw [← hx] at HG
  clear hx h
  go_enter Try.func18, Try.ntmps18
  go_wp2_with (go_at_call 15; refine (HG.out _ ((Chg.refl _ _).alloc _)).mono ?_; rintro e w1 ⟨rfl, hc⟩; have HC := Lib.hid (((Chg.refl [] w).alloc _).then hc); clear hc)
  go_ret
  exact ⟨rfl, HC.out.alloc (obX x)⟩
theorem njoin (h : NilD w v) (i q : Int) : Calls Try.prog 19 #[v, .agg #[.int .i64 i, .int .u64 q]] w fun e w' => e = .returned (.int .i64 1) ∧ Chg [] w w' := by
  have HG := Lib.hid (fun W (hW : Chg [] w W) => nget (h.chg hW) i q)
  obtain ⟨x, hx⟩ : ∃ x, x = dm0 := ⟨_, rfl⟩
  rw [← hx] at HG
  clear hx h
  go_enter Try.func19, Try.ntmps19
  go_wp2_with (go_at_call 15; refine (HG.out _ ((Chg.refl _ _).alloc _)).mono ?_; rintro e w1 ⟨rfl, hc⟩; have HC := Lib.hid (((Chg.refl [] w).alloc _).then hc); clear hc)
  go_ret
  exact ⟨rfl, HC.out.alloc (obX x)⟩
theorem nleave (h : NilD w v) (i q : Int) : Calls Try.prog 20 #[v, .agg #[.int .i64 i, .int .u64 q]] w fun e w' => e = .returned (.int .i64 1) ∧ Chg [] w w' := by
  have HG := Lib.hid (fun W (hW : Chg [] w W) => nget (h.chg hW) i q)
  obtain ⟨x, hx⟩ : ∃ x, x = dm0 := ⟨_, rfl⟩
  rw [← hx] at HG
  clear hx h
  go_enter Try.func20, Try.ntmps20
  go_wp2_with (go_at_call 15; refine (HG.out _ ((Chg.refl _ _).alloc _)).mono ?_; rintro e w1 ⟨rfl, hc⟩; have HC := Lib.hid (((Chg.refl [] w).alloc _).then hc); clear hc)
  go_ret
  exact ⟨rfl, HC.out.alloc (obX x)⟩
theorem nchange (h : NilD w v) (i q : Int) (f : Nat) (cs : Array Value) : Calls Try.prog 51 #[v, .agg #[.int .i64 i, .int .u64 q], .func (.func f) #[] cs] w fun e w' => e = .returned (.int .i64 1) ∧ Chg [] w w' := by
  have HG := Lib.hid (fun W (hW : Chg [] w W) => nget (h.chg hW) i q)
  obtain ⟨x, hx⟩ : ∃ x, x = dm0 := ⟨_, rfl⟩
  rw [← hx] at HG
  clear hx h
  go_enter Try.func51, Try.ntmps51
  go_wp2_with (go_at_call 15; refine (HG.out _ ((Chg.refl _ _).alloc _)).mono ?_; rintro e w1 ⟨rfl, hc⟩; have HC := Lib.hid (((Chg.refl [] w).alloc _).then hc); clear hc)
  go_ret
  exact ⟨rfl, HC.out.alloc (obX x)⟩
theorem nuse (h : NilD w v) (i q n : Int) : Calls Try.prog 21 #[v, .agg #[.int .i64 i, .int .u64 q], .int .u64 n] w fun e w' => e = .returned (.int .i64 1) ∧ Chg [] w w' := by
  have HA := Lib.hid (fun W (hW : Chg [] w W) f cs => nchange (h.chg hW) i q f cs)
  clear h
  go_enter Try.func21, Try.ntmps21
  go_wp2_with (go_at_call 51; refine (HA.out _ (((Chg.refl _ _).alloc _).alloc _) _ _).mono ?_; rintro e w1 ⟨rfl, hc⟩; have HC := Lib.hid ((((Chg.refl [] w).alloc _).alloc _).then hc); clear hc)
  go_ret
  exact ⟨rfl, HC.out⟩
theorem nclear (h : NilD w v) (i q : Int) : Calls Try.prog 22 #[v, .agg #[.int .i64 i, .int .u64 q]] w fun e w' => e = .returned (.int .i64 1) ∧ Chg [] w w' := by
  have HA := Lib.hid (fun W (hW : Chg [] w W) f cs => nchange (h.chg hW) i q f cs)
  clear h
  go_enter Try.func22, Try.ntmps22
  go_wp2_with (go_at_call 51; refine (HA.out _ ((Chg.refl _ _).alloc _) _ _).mono ?_; rintro e w1 ⟨rfl, hc⟩; have HC := Lib.hid (((Chg.refl [] w).alloc _).then hc); clear hc)
  go_ret
  exact ⟨rfl, HC.out⟩
end
end Go.Proofs
end
section
namespace Go.Proofs
open Go.RowKit Go.Shelf
set_option linter.unusedVariables false
set_option linter.unusedSimpArgs false
theorem nsize (w : World) : Calls Try.prog 62 #[.pointer none] w fun e w' => e = .returned (.int .i64 0) ∧ w = w' := by
  go_enter Try.func62, Try.ntmps62
  go_wp2
  go_ret
  exact ⟨rfl, rfl⟩
theorem nfree (w : World) : Calls Try.prog 67 #[.pointer none] w fun e w' => e = .returned (.int .i64 0) ∧ w = w' := by
  go_enter Try.func67, Try.ntmps67
  go_wp2
  go_ret
  exact ⟨rfl, rfl⟩
theorem nretired (w : World) : Calls Try.prog 85 #[.pointer none] w fun e w' => e = .returned (.int .i64 0) ∧ w = w' := by
  go_enter Try.func85, Try.ntmps85
  go_wp2
  go_ret
  exact ⟨rfl, rfl⟩
theorem nalen (w : World) : Calls Try.prog 65 #[.pointer none] w fun e w' => e = .returned (.int .i64 0) ∧ w = w' := by
  have H1 := Lib.hid nsize
  have H2 := Lib.hid nfree
  have H3 := Lib.hid nretired
  go_enter Try.func65, Try.ntmps65
  go_wp2_with (first
    | (go_at_call 62; refine (H1.out _).mono ?_; rintro e w' ⟨rfl, rfl⟩)
    | (go_at_call 67; refine (H2.out _).mono ?_; rintro e w' ⟨rfl, rfl⟩)
    | (go_at_call 85; refine (H3.out _).mono ?_; rintro e w' ⟨rfl, rfl⟩))
  go_ret
  exact ⟨rfl, rfl⟩
section
variable {w : World} {v : Value}
theorem nlen (h : NilD w v) : Calls Try.prog 28 #[v] w fun e w' => e = .returned (.int .i64 0) ∧ w = w' := by
  have HP := Lib.hid (nplaces h)
  have HL := Lib.hid nalen
  clear h
  go_enter Try.func28, Try.ntmps28
  go_wp2_with (first
    | (go_at_call 44; refine HP.out.mono ?_; rintro e w' ⟨rfl, rfl⟩)
    | (go_at_call 65; refine (HL.out _).mono ?_; rintro e w' ⟨rfl, rfl⟩))
  go_ret
  exact ⟨rfl, rfl⟩
theorem ncopy (w : World) : Calls Try.prog 16 #[.pointer none] w fun e w' => e = .returned (.pointer none) ∧ w = w' := by
  go_enter Try.func16, Try.ntmps16
  go_wp2
  go_ret
  exact ⟨rfl, rfl⟩
theorem nat_ (w : World) (i : Int) : Calls Try.prog 64 #[.pointer none, .int .i64 i] w fun e w' => e = .returned (.tuple #[.agg #[.int .i64 0, .int .u64 0], .bool false]) ∧ Chg [] w w' := by
  have HT := Lib.hid tnone
  go_enter Try.func64, Try.ntmps64
  go_wp2_with (go_at_call 66; refine (HT.out _).mono ?_; rintro e w' ⟨rfl, rfl⟩)
  exact bodyPost_ret (v := .tuple #[.agg #[.int .i64 0, .int .u64 0], .bool false]) (by simp [results, Try.results64, go_sem]) rfl ⟨rfl, by repeat' (first | with_reducible exact Chg.refl [] _ | with_reducible apply Chg.alloc | with_reducible apply Chg.drew | (with_reducible refine Chg.setCell ?_ (Or.inr (by simp)) _))⟩
set_option maxRecDepth 100000 in
theorem ncarve (h : NilD w v) (i q gs cpu per : Int) : Calls Try.prog 17 #[v, .agg #[.int .i64 i, .int .u64 q], .int .i64 gs, .int .u64 cpu, .int .u64 per] w fun e w' => e = .returned (.tuple #[.agg #[.int .i64 0, .int .u64 0], .int .i64 1]) ∧ Chg [] w w' := by
  have HN := Lib.hid (fun W (hW : Chg [] w W) => nnone (h.chg hW))
  clear h
  go_enter Try.func17, Try.ntmps17
  go_wp2_with (go_at_call 48; refine (HN.out _ (by repeat' (first | with_reducible exact Chg.refl [] _ | with_reducible apply Chg.alloc | with_reducible apply Chg.drew))).mono ?_; rintro e w' ⟨rfl, rfl⟩)
  exact bodyPost_ret (v := .tuple #[.agg #[.int .i64 0, .int .u64 0], .int .i64 1]) (by simp [results, Try.results17, go_sem]) rfl ⟨rfl, by repeat' (first | with_reducible exact Chg.refl [] _ | with_reducible apply Chg.alloc | with_reducible apply Chg.drew | (with_reducible refine Chg.setCell ?_ (Or.inr (by simp)) _))⟩
set_option maxRecDepth 100000 in
theorem nroot (h : NilD w v) : Calls Try.prog 27 #[v] w fun e w' => e = .returned (.agg #[.int .i64 0, .int .u64 0]) ∧ Chg [] w w' := by
  have HP := Lib.hid (fun W (hW : Chg [] w W) => nplaces (h.chg hW))
  have HA := Lib.hid (fun W => nat_ W 0)
  clear h
  go_enter Try.func27, Try.ntmps27
  go_wp2_with (first
    | (go_at_call 44; refine (HP.out _ ((Chg.refl _ _).alloc _)).mono ?_; rintro e w' ⟨rfl, rfl⟩)
    | (go_at_call 64; refine (HA.out _).mono ?_; rintro e w1 ⟨rfl, hc⟩; have hR1 := ((Blk.new w 34 #[.int .i64 0, .int .u64 0]).chg hc (by simp)); have r0 := hR1.cell 0; have r1 := hR1.cell 1; have rf := hR1.frozen; have lr := hR1.lt; have HC := Lib.hid (((Chg.refl [] w).alloc _).then hc); clear hc hR1))
  refine bodyPost_ret (v := .agg #[.int .i64 0, .int .u64 0]) ?_ rfl ⟨rfl, ?_⟩
  · simp [results, Try.results27, go_sem, r0, r1, lr]
  · repeat' (first | with_reducible exact HC.out | with_reducible apply Chg.alloc | with_reducible apply Chg.setCell | (with_reducible refine Or.inr ?_; dsimp only; omega))
end
end Go.Proofs
end
section
namespace Go.Proofs
open Go.RowKit Go.Shelf
set_option linter.unusedVariables false
set_option linter.unusedSimpArgs false
attribute [local go_sem] Oper.semAt_some
/-! ### The chain of no domains -/
theorem NilD.off {A B : World} {v : Value} (h : NilD A v) (hb : ∀ (k : Nat) (t : TypeId) (cs : Array Value), Blk A k t cs → Blk B k t cs) : NilD B v := by
  rcases h with h | ⟨z, h1, h2⟩
  · exact .inl h
  · exact .inr ⟨z, h1, hb _ _ _ h2⟩
def KpN (v : Value) (rB dB : Nat) (A B : World) : Prop := (A.heap.size ≤ B.heap.size ∧ B.heap[rB]? = A.heap[rB]? ∧ B.heap[dB]? = A.heap[dB]?) ∧ (NilD A v → NilD B v)
theorem KpN.trans {v : Value} {rB dB : Nat} {A B C : World} (h : KpN v rB dB A B) (k : KpN v rB dB B C) : KpN v rB dB A C :=
  ⟨⟨Nat.le_trans h.1.1 k.1.1, k.1.2.1.trans h.1.2.1, k.1.2.2.trans h.1.2.2⟩, fun hs => k.2 (h.2 hs)⟩
theorem KpN.quiet {v : Value} {rB dB : Nat} {A B : World} (h : Chg [] A B) (hr : rB < A.heap.size) (hd : dB < A.heap.size) : KpN v rB dB A B :=
  ⟨⟨h.size, h.block _ hr (by simp), h.block _ hd (by simp)⟩, fun hs => hs.chg h⟩
theorem KpN.alloc {v : Value} {rB dB : Nat} (W : World) (o : Obj) (hr : rB < W.heap.size) (hd : dB < W.heap.size) : KpN v rB dB W (W.alloc o) := KpN.quiet ((Chg.refl _ _).alloc _) hr hd
theorem nchain (w : World) (v : Option Addr) (i q : Int) :
    Calls Try.prog 61 #[.pointer v, .agg #[.int .i64 i, .int .u64 q]] w fun e w' => e = .returned (.func (.func 84) #[] #[ptr (w.heap.size + 1), ptr w.heap.size]) ∧ w' = (w.alloc (.cells #[.pointer v] 26)).alloc (obRef i q) := by
  go_enter Try.func61, Try.ntmps61
  go_wp2
  go_ret
  exact ⟨rfl, rfl⟩
set_option maxHeartbeats 1600000 in
set_option maxRecDepth 100000 in
theorem nchain_foot {n : Nat} {w : World} {v : Value} {rB dB : Nat} {i q : Int} (hn : 1 ≤ n) (hR : Blk w rB 34 #[.int .i64 i, .int .u64 q]) (hD : Blk w dB 26 #[v]) (hS : NilD w v) :
    SeqFoot Fence.wide n Try.prog 84 #[ptr rB, ptr dB] encR (KpN v rB dB) (fun pre x => False) (fun xs => xs = []) (fun pre => False) 0 (n - 1) w := by
  intro l J Jx M0 W hW hJ hJl hY hJx h0
  have lr := hR.lt
  have ld := hD.lt
  have rW : Blk W rB 34 #[.int .i64 i, .int .u64 q] := hR.same hW.1.2.1
  have b0 := rW.cell 0
  have b1 := rW.cell 1
  have HRD := Lib.hid (show rB < W.heap.size ∧ dB < W.heap.size from ⟨rW.lt, Nat.lt_of_lt_of_le ld hW.1.1⟩)
  have HDW := Lib.hid (fun W' (h : KpN v rB dB W W') => (show Blk W' dB 26 #[v] from (hD.same hW.1.2.2).same h.1.2.2))
  have HSW := Lib.hid (fun W' (h : KpN v rB dB W W') => h.2 (hW.2 hS))
  have HJ := Lib.hid hJ
  have HJL := Lib.hid hJl
  clear hR hD hS rW lr ld hY
  refine callsIn_of_wp Try.func84 rfl trivial ?_ rfl
  simp only [Try.ntmps84, List.size_toArray, List.length_cons, List.length_nil, Nat.reduceAdd, Nat.reduceSub, Array.replicate_succ, Array.replicate_zero, List.push_toArray, List.append_toArray, List.nil_append, List.cons_append]
  gi_wp2
  gi_loopg [4] 0 (fun gh b4 wr => gh = 0 ∧ b4 = .pointer (some ⟨W.heap.size, 0, none⟩) ∧ Hid (KpN v rB dB W wr ∧ J [] M0 wr) ∧ Hid (Blk wr W.heap.size 34 #[.int .i64 i, .int .u64 q]))
  case atStart =>
    exact ⟨rfl, rfl, Lib.hid ⟨KpN.alloc W _ HRD.out.1 HRD.out.2, HJ.out _ _ _ _ h0 ((KeepM.alloc W _).less (HJL.out _ _ _ h0))⟩, Lib.hid (Blk.new W 34 _)⟩
  case round =>
    obtain ⟨_, rfl, HH, HB⟩ := hrel
    obtain ⟨hk, hj⟩ := HH.out
    have hnil := HSW.out _ hk
    have hdB := HDW.out _ hk
    have d0 := hdB.cell 0
    have c0 := HB.out.cell 0
    have c1 := HB.out.cell 1
    have lB := HB.out.lt
    have HG := Lib.hid (nget hnil i q)
    obtain ⟨x, hx⟩ : ∃ x, x = dm0 := ⟨_, rfl⟩
    rw [← hx] at HG
    have Hj := Lib.hid hj
    clear hx hnil hj hk HH hdB
    gi_wp2_with (refine ⟨trivial, ?_⟩; gi_at_call 15; refine (callsIn_wide.2 HG.out).mono ?_; rintro e w1 ⟨rfl, hc⟩; have HC := Lib.hid hc; clear hc)
    refine ⟨(fun f h => by cases h), ?_⟩
    gi_wp2_with (fail)
    refine bodyPost_ret (results_none rfl _ _ _) rfl ?_
    have hjj : J [] M0 (w1.alloc (obX x)) := HJ.out _ _ _ _ Hj.out (KeepM.of_chg (S := []) (HC.out.alloc _) (fun k hk => ⟨HJL.out _ _ _ Hj.out k hk, by simp⟩))
    exact ⟨⟨_, rfl⟩, M0, fun k hk => .inl hk, .inl ⟨[], rfl, hjj⟩⟩
set_option maxHeartbeats 3200000 in
set_option maxRecDepth 100000 in
theorem nappendSeq (n : Nat) (hn : 6 ≤ n) {w : World} {v : Value} {rB dB : Nat} {i q : Int} (hR : Blk w rB 34 #[.int .i64 i, .int .u64 q]) (hD : Blk w dB 26 #[v]) (hS : NilD w v) :
    CallsIn Fence.wide n Try.prog 83 #[.slice none 0 0, .func (.func 84) #[] #[ptr rB, ptr dB]] w fun e w' => e = .returned (.slice none 0 0) ∧ Chg [] w w' := by
  have h1 : 1 ≤ n := by omega
  refine callsIn_of_wp_marks Try.func83 rfl trivial ?_ rfl
  simp only [Try.ntmps83, List.size_toArray, List.length_cons, List.length_nil, Nat.reduceAdd, Nat.reduceSub, Array.replicate_succ, Array.replicate_zero, List.push_toArray, List.append_toArray, List.nil_append, List.cons_append]
  gi_wp2
  have bS := Blk.new w 40 #[.slice none 0 0]
  have hR0 := hR.alloc (.cells #[.slice none 0 0] 40)
  have hD0 := hD.alloc (.cells #[.slice none 0 0] 40)
  have hS0 : NilD (w.alloc (.cells #[.slice none 0 0] 40)) v := hS.chg ((Chg.refl _ _).alloc _)
  have hC0 : Chg [] w (w.alloc (.cells #[.slice none 0 0] 40)) := (Chg.refl _ _).alloc _
  have hz0 : (w.alloc (.cells #[.slice none 0 0] 40)).heap.size = w.heap.size + 1 := by simp
  obtain ⟨W0, hW0⟩ : ∃ W0, (w.alloc (.cells #[.slice none 0 0] 40)) = W0 := ⟨_, rfl⟩
  rw [hW0] at bS hR0 hD0 hS0 hC0 hz0 ⊢
  clear hW0
  have lr := hR.lt
  have ld := hD.lt
  refine wpIn_rangeFunc_foot rfl h1 (gf := 84) (lb := #[ptr rB, ptr dB]) rfl trivial (enters_of Try.func84 (by kernel_rfl) rfl)
    (nchain_foot (n := n - 1) (by omega) hR0 hD0 hS0) (fun h k => h.trans k) (fun W o hle => KpN.alloc W o (by omega) (by omega))
    (fun W o o' hl ho => ⟨⟨by simp [World.putObj], World.putObj_heap_other (by omega), World.putObj_heap_other (by omega)⟩, fun hs => hs.off (blk_putObj hl ho)⟩) ⟨⟨Nat.le_refl _, rfl, rfl⟩, id⟩ (fun _ => rfl)
    (fun pre M W => Blk W w.heap.size 40 #[.slice none 0 0] ∧ (∀ k, M k ↔ k < W0.heap.size) ∧ Chg [w.heap.size] W0 W) (fun _ _ _ _ => False)
    ?hI ?hIl (fun c s M A B hs _ => hs) (M0 := fun k => k < W0.heap.size) ⟨bS, fun k => Iff.rfl, Chg.refl _ _⟩
    (fun x a' W => False)
    (fun x a' W o o' h _ _ => h) ?assign ?body ?done ?stop
  case hI =>
    rintro pre M A B ⟨hB, hM, hC⟩ hk
    exact ⟨hB.same (hk.block _ ((hM _).2 (by omega))), hM, ⟨hk.os.trans hC.os, hk.tape.trans hC.tape, hk.output.trans hC.output, Nat.le_trans hC.size hk.size, fun k hk1 hk2 => (hk.block k ((hM k).2 hk1)).trans (hC.block k hk1 hk2)⟩⟩
  case hIl =>
    rintro pre M A ⟨hB, hM, hC⟩ k hk
    exact Nat.lt_of_lt_of_le ((hM k).1 hk) hC.size
  case assign => exact fun l pre x M W K _ hT _ => hT.elim
  case body => exact fun l pre x a' M W _ hT _ _ _ => hT.elim
  case done =>
    rintro D xs M W hDW hMD hM0 rfl ⟨hB, hM, hC⟩ hK
    have c0 := hB.cell 0
    gi_wp2
    have z1 := hC.size
    refine ⟨by simp, .inl ⟨_, _, rfl, run_takeDeferred hK, ?_⟩⟩
    have hkD : KeepM (fun k => k ≠ D) W (W.putObj D (.deferred none)) := KeepM.putObj W D _
    refine ⟨_, results_tmp rfl _ _ _, rfl, ?_⟩
    exact ⟨hkD.os.trans (hC.os.trans hC0.os), hkD.tape.trans (hC.tape.trans hC0.tape), hkD.output.trans (hC.output.trans hC0.output), Nat.le_trans (Nat.le_trans hC0.size hC.size) hkD.size, fun k hk1 hk2 => (hkD.block k (by omega)).trans ((hC.block k (by omega) (by simp; omega)).trans (hC0.block k hk1 hk2))⟩
  case stop =>
    rintro D c pre M W _ _ _ _ h
    exact h.elim
set_option maxRecDepth 100000 in
/-- Chain of no domains. -/
theorem nChain {w : World} {v : Value} (h : NilD w v) (i q : Int) :
    Calls Try.prog 23 #[v, .agg #[.int .i64 i, .int .u64 q]] w fun e w' => e = .returned (.slice none 0 0) ∧ Chg [] w w' := by
  have HC : ∀ W rB dB, Blk W rB 34 #[.int .i64 i, .int .u64 q] → Blk W dB 26 #[v] → Chg [] w W → Calls Try.prog 60 #[.func (.func 84) #[] #[ptr rB, ptr dB]] W fun e w' => e = .returned (.slice none 0 0) ∧ Chg [] W w' := fun W rB dB hr hd hc => by
    have HA := (callsIn_wide (n := 8)).1 (nappendSeq 8 (by omega) hr hd (h.chg hc))
    have HH := Lib.hid HA
    clear HA hr hd hc
    go_enter Try.func60, Try.ntmps60
    go_wp2_with (go_at_call 83; refine HH.out.mono ?_; rintro e w' ⟨rfl, hc⟩)
    go_ret
    exact ⟨rfl, hc⟩
  have HH := Lib.hid HC
  clear HC
  obtain ⟨p, rfl⟩ : ∃ p, v = .pointer p := by
    rcases h with rfl | ⟨z, rfl, _⟩
    · exact ⟨_, rfl⟩
    · exact ⟨_, rfl⟩
  clear h
  go_enter Try.func23, Try.ntmps23
  go_wp2_with (first
    | (go_at_call 61; refine (nchain _ _ _ _).mono ?_; rintro e w' ⟨rfl, rfl⟩)
    | (go_at_call 60; refine (HH.out _ _ _ (Blk.at' _ 34 _ (by simp)) ((Blk.at' _ 26 _ (by simp)).alloc _) (((Chg.refl [] w).alloc _ |>.alloc _).alloc _)).mono ?_; rintro e w' ⟨rfl, hc⟩))
  go_ret
  exact ⟨rfl, (((Chg.refl [] w).alloc _ |>.alloc _).alloc _).then hc⟩
end Go.Proofs
end
section
namespace Go.Proofs
open Go.RowKit Go.Shelf
set_option linter.unusedVariables false
set_option linter.unusedSimpArgs false
attribute [local go_sem] Oper.semAt_some
set_option maxHeartbeats 1600000 in
theorem now_nil_in (n : Nat) (hn : 1 ≤ n) (l b : Nat) (W : World) (hV : W.cell? ⟨b, 0, none⟩ = some (.pointer none)) (J Jx : List Plc → World → Prop) (h0 : J [] W) :
    CallsIn Fence.wide n Try.prog 86 #[.func (.yield l) #[] #[], .pointer (some ⟨b, 0, none⟩)] W fun e W' => (∃ v, e = .returned v) ∧ ((∃ ys, ys = [] ∧ J ys W') ∨ (∃ pre : List Plc, pre = [] ∧ Jx pre W')) := by
  refine callsIn_of_wp Try.func86 rfl trivial ?_ rfl
  simp only [Try.ntmps86, List.size_toArray, List.length_cons, List.length_nil, Nat.reduceAdd, Nat.reduceSub, Array.replicate_succ, Array.replicate_zero, List.push_toArray, List.append_toArray, List.nil_append, List.cons_append]
  gi_wp2_with (refine ⟨trivial, ?_⟩; gi_at_call 62; refine (callsIn_wide.2 (nsize _)).mono ?_; rintro e w' ⟨rfl, rfl⟩)
  gi_loopw [8] (fun iv wr => iv = .int .i64 0 ∧ wr = W) (fun iv wr => 0)
  case atStart => exact ⟨rfl, rfl⟩
  case round =>
    obtain ⟨rfl, rfl⟩ := hrel
    gi_wp2
    go_end0
    exact ⟨⟨_, rfl⟩, .inl ⟨_, rfl, h0⟩⟩
theorem now_nil_stops (n : Nat) (hn : 1 ≤ n) (b : Nat) (w : World) (hb : b < w.heap.size) (hV : w.cell? ⟨b, 0, none⟩ = some (.pointer none)) :
    SeqStopsK Fence.wide n Try.prog 86 #[.pointer (some ⟨b, 0, none⟩)] Plc.encs (fun _ _ => True) (fun ys => ys = []) (fun pre => pre = []) 0 w := fun l J Jx W hW hJ _ hY h0 =>
  now_nil_in n hn l b W ((hW.cell (p := ⟨b, 0, none⟩) hb).trans hV) J Jx h0
set_option maxRecDepth 100000 in
set_option maxHeartbeats 3200000 in
/-- All of no table: nothing is gathered. -/
theorem all_nil (n : Nat) (hn : 6 ≤ n) (w : World) :
    CallsIn Fence.wide n Try.prog 45 #[.pointer none] w fun e W' => Gathered w.heap.size [] e W' ∧ Below w.heap.size w W' := by
  have h1 : 1 ≤ n := by omega
  refine callsIn_of_wp_marks Try.func45 rfl trivial ?_ rfl
  simp only [Try.ntmps45, List.size_toArray, List.length_cons, List.length_nil, Nat.reduceAdd, Nat.reduceSub, Array.replicate_succ, Array.replicate_zero, List.push_toArray, List.append_toArray, List.nil_append, List.cons_append]
  gi_wp2_with (refine ⟨trivial, ?_⟩; gi_at_call 72; refine (make_now (n - 1) _ _).mono ?_; rintro e w' ⟨rfl, rfl⟩)
  have bS := (Boxed.new w 112 (.slice none 0 0)).alloc (.cells #[.pointer none] 60)
  have bT := Boxed.new (w.alloc (.cells #[.slice none 0 0] 112)) 60 (.pointer none)
  simp only [World.size_alloc] at bT
  have hB0 : Below w.heap.size w ((w.alloc (.cells #[.slice none 0 0] 112)).alloc (.cells #[.pointer none] 60)) := ((Below.refl _ w).alloc (Nat.le_refl _) _).alloc (by simp) _
  have hsz : ((w.alloc (.cells #[.slice none 0 0] 112)).alloc (.cells #[.pointer none] 60)).heap.size = w.heap.size + 2 := by simp
  obtain ⟨W0, hW0⟩ : ∃ W0, (w.alloc (.cells #[.slice none 0 0] 112)).alloc (.cells #[.pointer none] 60) = W0 := ⟨_, rfl⟩
  rw [hW0] at bS bT hB0 hsz ⊢
  clear hW0
  obtain ⟨i0, hi0, hz0, hz1, hz2⟩ := info_parts Try.info_N
  refine wpIn_rangeFunc_ownH rfl h1 (gf := 86) (lb := #[.pointer (some ⟨w.heap.size + 1, 0, none⟩)]) rfl trivial (enters_of Try.func86 (by kernel_rfl) rfl)
    (now_nil_stops (n - 1) (by omega) (w.heap.size + 1) W0 (by omega) bT.cell) (fun _ _ => trivial)
    (fun _ _ _ _ _ _ _ _ => trivial)
    (Below.refl _ _) (fun _ => rfl)
    (fun pre W => ((∃ V, Boxed W w.heap.size 112 V ∧ W.ownsRow w.heap.size 114 13 V pre.length (plcCells pre) ∧ True) ∧ Boxed W (w.heap.size + 1) 60 (.pointer none)) ∧ Below w.heap.size W0 W)
    (fun _ _ _ => False)
    (OwnFrom.and (OwnFrom.and (Own.from (holdsRow_own w.heap.size w.heap.size 112 114 13 (fun pre : List Plc => pre.length) (fun pre => plcCells pre) (fun pre v => True)) _) (Own.from (boxed_own _ _ _) _)) (ownFrom_below (by omega) (by omega)))
    (fun _ _ _ _ _ hs _ _ => hs)
    ⟨⟨⟨_, bS, World.ownsRow_nil _ _ _ _, trivial⟩, bT⟩, Below.refl _ _⟩
    (fun x a' W => ∃ Bx By, w.heap.size + 1 < Bx ∧ w.heap.size + 1 < By ∧ Blk W Bx 34 #[.int .i64 x.i, .int .u64 x.q] ∧ Blk W By 45 x.x.arr ∧ a' = { tmps := #[.pointer none, undef, .nilFunc, .pointer (some ⟨w.heap.size, 0, none⟩), .pointer (some ⟨Bx, 0, none⟩), .pointer (some ⟨By, 0, none⟩), .pointer none, .func (.func 86) #[] #[.pointer (some ⟨w.heap.size + 1, 0, none⟩)], .agg #[.int .i64 x.i, .int .u64 x.q], x.x.val, undef, undef, undef, undef, undef, undef, undef], defers := [] })
    (fun x a' _ X Y row hs hg hr => by
      obtain ⟨Bx, By, h1, h1', h2, h2', h3⟩ := hs
      have k : ∀ {b : Nat} {t : TypeId} {cs : Array Value}, Blk X b t cs → Blk Y b t cs := fun {b t cs} h2 => h2.same (hg.block b h2.lt (fun e => by
        obtain ⟨_, o, ho, hc⟩ := hr b e.symm
        unfold Blk at h2
        rw [h2] at ho; cases ho; cases hc))
      exact ⟨Bx, By, h1, h1', k h2, k h2', h3⟩)
    ?assign ?body ?done ?stop
  case assign =>
    rintro l pre x W K ⟨⟨⟨V, hV, hr, _⟩, hT9⟩, hB⟩ hK
    have hz := hB.size
    have hzw : w.heap.size ≤ W.heap.size := by omega
    simp only [Plc.encs]
    gi_wp2
    exact hK _ _ (((KeepsOthers.alloc _ _).trans (KeepsOthers.alloc _ _)).from _) trivial ⟨⟨⟨V, (hV.alloc _).alloc _, (hr.alloc _).alloc _, trivial⟩, (hT9.alloc _).alloc _⟩, (hB.alloc hzw _).alloc (by simp; omega) _⟩ ⟨W.heap.size, W.heap.size + 1, by omega, by omega, (Blk.new W 34 _).alloc _, Blk.at' (W.alloc _) 45 _ (by simp), rfl⟩
  case body =>
    rintro l pre x a' W hl hr hI hA hlt
    exact absurd hlt (Nat.not_lt_zero _)
  case done =>
    rintro D zs W hD rfl ⟨⟨⟨V, hV, hrow, _⟩, hT9⟩, hB⟩ hK
    have hz := hB.size
    have cS := hV.cell
    gi_wp2
    refine ⟨by simp, .inl ⟨_, _, rfl, run_takeDeferred hK, ?_⟩⟩
    have hgD := grownBy_putObj' W D (.deferred none)
    have hD2 : some w.heap.size ≠ some D := by intro e; cases e; omega
    refine ⟨_, results_tmp rfl _ _ _, ⟨w.heap.size, rfl, Nat.le_refl _, by have := (hV.kept hgD hD2).lt; exact this, V, (hV.kept hgD hD2).cell, Row.of_own (ownsRow_putObj hrow _ hK rfl), fun k hk => ⟨?_, Row.lt (Row.of_own (ownsRow_putObj hrow (.deferred none) hK rfl)) k hk⟩⟩, (hB0.trans hB).trans (belowK_b (w := w) (Nat.le_refl _) W D _ _ (by omega) hK rfl rfl)⟩
    rcases hrow.2 with ⟨rfl, _⟩ | ⟨g', cap, cur, rfl, hb, _, _⟩
    · cases hk
    · simp [foot_some] at hk; subst hk; exact hb
  case stop =>
    rintro D c pre W _ _ h _
    exact h.elim
set_option maxRecDepth 100000 in
set_option maxHeartbeats 3200000 in
/-- **All** of no domains. -/
theorem nAll_in (n : Nat) (hn : 10 ≤ n) {w : World} {v : Value} (h : NilD w v) :
    CallsIn Fence.wide n Try.prog 14 #[v] w fun e W' => e = .returned (.slice none 0 0) ∧ Below w.heap.size w W' := by
  have h1 : 1 ≤ n := by omega
  have HP := Lib.hid (fun W (hc : Chg [] w W) => nplaces (h.chg hc))
  have HA := Lib.hid (fun W => all_nil (n - 1) (by omega) W)
  clear h
  refine callsIn_of_wp_marks Try.func14 rfl trivial ?_ rfl
  simp only [Try.ntmps14, List.size_toArray, List.length_cons, List.length_nil, Nat.reduceAdd, Nat.reduceSub, Array.replicate_succ, Array.replicate_zero, List.push_toArray, List.append_toArray, List.nil_append, List.cons_append]
  gi_wp2_with (first
    | (refine ⟨trivial, ?_⟩; gi_at_call 44; refine (callsIn_wide.2 (HP.out _ ((Chg.refl _ _).alloc _))).mono ?_; rintro e w' ⟨rfl, rfl⟩)
    | (refine ⟨trivial, ?_⟩; gi_at_call 45; refine (HA.out _).mono ?_; rintro e W0 ⟨⟨Bo, rfl, hH⟩, hBl⟩; have HH := Lib.hid hH; have HBL := Lib.hid hBl; clear hH hBl))
  have hz0 := HBL.out.size
  simp only [World.size_alloc] at hz0
  have hBx : Boxed W0 w.heap.size 38 (.slice none 0 0) := (HBL.out.block _ (by simp)).trans (Boxed.new w 38 (.slice none 0 0))
  have hB0 : Below w.heap.size w W0 := ((Below.refl _ w).alloc (Nat.le_refl _) _).trans (HBL.out.mono (by simp))
  have hHT := HH.out.to
  simp only [World.size_alloc] at hHT
  have lbo := hHT.lt
  refine wpIn_rangeFunc_ownH rfl h1 (gf := 73) (lb := #[.pointer (some ⟨Bo, 0, none⟩)]) rfl trivial (enters_of Try.func73 (by kernel_rfl) rfl)
    (over_stops (xs := ([] : List Plc)) id (n - 1) (by omega) (X := fun k => w.heap.size + 1 ≤ k ∧ k < W0.heap.size) hHT (fun k h1 h2 => ⟨h1, h2⟩) (fun k hk => hk.2) (by simp)) (fun h k => h.trans k)
    (fun W l o o' hl ho _ _ => ⟨by simp [World.putObj], fun k hk => (grownBy_putObj' W l o').block k (by have := (Array.getElem?_eq_some_iff.1 ho).1; omega) (fun e => by cases e; omega)⟩)
    (Below.refl _ _) (fun _ => rfl)
    (fun pre W => Boxed W w.heap.size 38 (.slice none 0 0) ∧ Below w.heap.size W0 W)
    (fun _ _ _ => False)
    (OwnFrom.and (Own.from (boxed_own _ _ _) _) (ownFrom_below (by omega) (by omega)))
    (fun _ _ _ _ _ hs _ _ => hs)
    ⟨hBx, Below.refl _ _⟩
    (fun x a' W => True)
    (fun x a' _ X Y row hs hg hr => trivial)
    ?assign ?body ?done ?stop
  case assign =>
    rintro l pre x W K ⟨hV, hB⟩ hK
    have hz := hB.size
    simp only [Plc.encs, id]
    gi_wp2
    exact hK _ _ (((KeepsOthers.alloc _ _).trans (KeepsOthers.alloc _ _)).from _) (KeepP.quiet (((Chg.refl [] W).alloc _).alloc _) (fun k hk => by omega)) ⟨(hV.alloc _).alloc _, (hB.alloc (by omega) _).alloc (by simp; omega) _⟩ trivial
  case body =>
    rintro l pre x a' W hl hr hI hA hlt
    exact absurd hlt (Nat.not_lt_zero _)
  case done =>
    rintro D zs W hD rfl ⟨hV, hB⟩ hK
    have hz := hB.size
    have cS := hV.cell
    gi_wp2
    refine ⟨by simp, .inl ⟨_, _, rfl, run_takeDeferred hK, ?_⟩⟩
    have hB9 := (hB0.trans hB).trans (belowK_b (w := w) (Nat.le_refl _) W D _ (.deferred none) (by omega) hK rfl rfl)
    exact ⟨_, results_tmp rfl _ _ _, rfl, hB9⟩
  case stop =>
    rintro D c pre W _ _ h _
    exact h.elim
theorem nAll {w : World} {v : Value} (h : NilD w v) : Calls Try.prog 14 #[v] w fun e W' => e = .returned (.slice none 0 0) ∧ Chg [] w W' :=
  ((callsIn_wide (n := 12)).1 (nAll_in 12 (by omega) h)).mono fun e W' ⟨h1, h2⟩ => ⟨h1, Chg.of_below h2⟩
theorem nequal (w : World) : Calls Try.prog 63 #[.slice none 0 0, .slice none 0 0] w fun e w' => e = .returned (.bool true) ∧ Chg [] w w' := by
  go_enter Try.func63, Try.ntmps63
  go_wp2
  go_loopw [13] (fun iv wr => iv = .int .i64 0 ∧ wr = w) (fun iv wr => 0)
  case atStart => exact ⟨rfl, rfl⟩
  case round =>
    obtain ⟨rfl, rfl⟩ := hrel
    go_wp2
    go_ret
    exact ⟨rfl, Chg.refl _ _⟩
/-- Same of no domains. -/
theorem nsame {w : World} {v v2 : Value} (h : NilD w v) (h2 : NilD w v2) : Calls Try.prog 24 #[v, v2] w fun e w' => e = .returned (.bool true) ∧ Chg [] w w' := by
  have HP := Lib.hid (fun W (hc : Chg [] w W) => nplaces (h.chg hc))
  have HP2 := Lib.hid (fun W (hc : Chg [] w W) => nplaces (h2.chg hc))
  have HA := Lib.hid (fun W (hc : Chg [] w W) => nAll (h.chg hc))
  have HA2 := Lib.hid (fun W (hc : Chg [] w W) => nAll (h2.chg hc))
  have HS := Lib.hid nsize
  have HE := Lib.hid nequal
  clear h h2
  go_enter Try.func24, Try.ntmps24
  go_wp2_with (first
    | (go_at_call 44; (with_reducible refine (HP.out _ (Chg.refl [] _)).mono ?_); rintro e w' ⟨rfl, rfl⟩)
    | (go_at_call 44; (with_reducible refine (HP2.out _ (Chg.refl [] _)).mono ?_); rintro e w' ⟨rfl, rfl⟩)
    | (go_at_call 62; refine (HS.out _).mono ?_; rintro e w' ⟨rfl, rfl⟩)
    | (go_at_call 14; (with_reducible refine (HA.out _ (Chg.refl [] _)).mono ?_); rintro e w1 ⟨rfl, hc1⟩; have HC1 := Lib.hid hc1; clear hc1)
    | (go_at_call 14; refine (HA2.out _ HC1.out).mono ?_; rintro e w2 ⟨rfl, hc2⟩; have HC2 := Lib.hid (HC1.out.then hc2); clear hc2)
    | (go_at_call 63; refine (HE.out _).mono ?_; rintro e w3 ⟨rfl, hc3⟩))
  go_ret
  exact ⟨rfl, HC2.out.then hc3⟩
end Go.Proofs
end
section
namespace Go.Proofs
open Go.RowKit Go.Shelf
set_option linter.unusedVariables false
set_option linter.unusedSimpArgs false
set_option maxRecDepth 100000 in
set_option maxHeartbeats 12800000 in
/-- DomainNil's walk. -/
theorem nil_any (w : World) : Calls Try.prog 7 #[] w fun e w' => e = .returned (.bool true) ∧ Chg [] w w' := by
  obtain ⟨wz, hwz⟩ : ∃ wz, wz = w.alloc (.cells #[.pointer none] 62) := ⟨_, rfl⟩
  have hz : Chg [] w wz := by rw [hwz]; exact (Chg.refl _ _).alloc _
  have hbz : Blk wz w.heap.size 62 #[.pointer none] := by rw [hwz]; exact Blk.new w 62 _
  have HZ := Lib.hid hz
  have HB := Lib.hid hbz
  have N1 : ∀ W, NilD W (.pointer none) := fun W => .inl rfl
  have N2 : ∀ W, Chg [] wz W → NilD W (ptr w.heap.size) := fun W hW => .inr ⟨_, rfl, HB.out.chg hW (by simp)⟩
  have H15 := Lib.hid (fun W => nget (N1 W) 0 0)
  have H17 := Lib.hid (fun W hW => ncarve (N2 W hW) 0 0 1 1 1)
  have H26 := Lib.hid (fun W => nshare (N1 W) 0 0)
  have H18 := Lib.hid (fun W => nmerge (N1 W) 0 0)
  have H19 := Lib.hid (fun W hW => njoin (N2 W hW) 0 0)
  have H20 := Lib.hid (fun W => nleave (N1 W) 0 0)
  have H21 := Lib.hid (fun W hW => nuse (N2 W hW) 0 0 1)
  have H22 := Lib.hid (fun W => nclear (N1 W) 0 0)
  have H27 := Lib.hid (fun W => nroot (N1 W))
  have H23 := Lib.hid (fun W hW => nChain (N2 W hW) 0 0)
  have H28 := Lib.hid (fun W => nlen (N1 W))
  have H28z := Lib.hid (fun W hW => nlen (N2 W hW))
  have H16 := Lib.hid ncopy
  have H24 := Lib.hid (fun W hW => nsame (N1 W) (N2 W hW))
  have H24z := Lib.hid (fun W hW => nsame (N2 W hW) (N1 W))
  have H8 := Lib.hid known_any
  obtain ⟨x, hx⟩ : ∃ x, x = dm0 := ⟨_, rfl⟩
  rw [← hx] at H15
  clear N1 N2 hz hbz hx
  go_enter Try.func7, Try.ntmps7
  go_wp2_with (first
    | (rw [← hwz]; clear hwz; go_at_call 15; refine (H15.out _).mono ?_; rintro e w1 ⟨rfl, hc⟩; have HC1 := Lib.hid (hc.alloc (obX x)); clear hc H15)
    | (go_at_call 17; refine (H17.out _ HC1.out).mono ?_; rintro e w2 ⟨rfl, hc⟩; have HC2 := Lib.hid ((HC1.out.then hc).alloc (obRef 0 0)); clear hc H17)
    | (go_at_call 26; refine (H26.out _).mono ?_; rintro e w3 ⟨rfl, hc⟩; have HC3 := Lib.hid (HC2.out.then hc); clear hc H26)
    | (go_at_call 18; refine (H18.out _).mono ?_; rintro e w4 ⟨rfl, hc⟩; have HC4 := Lib.hid (HC3.out.then hc); clear hc H18)
    | (go_at_call 19; refine (H19.out _ HC4.out).mono ?_; rintro e w5 ⟨rfl, hc⟩; have HC5 := Lib.hid (HC4.out.then hc); clear hc H19)
    | (go_at_call 20; refine (H20.out _).mono ?_; rintro e w6 ⟨rfl, hc⟩; have HC6 := Lib.hid (HC5.out.then hc); clear hc H20)
    | (go_at_call 21; refine (H21.out _ HC6.out).mono ?_; rintro e w7 ⟨rfl, hc⟩; have HC7 := Lib.hid (HC6.out.then hc); clear hc H21)
    | (go_at_call 22; refine (H22.out _).mono ?_; rintro e w8 ⟨rfl, hc⟩; have HC8 := Lib.hid (HC7.out.then hc); clear hc H22)
    | (go_at_call 27; refine (H27.out _).mono ?_; rintro e w9 ⟨rfl, hc⟩; have HC9 := Lib.hid (HC8.out.then hc); clear hc H27)
    | (go_at_call 23; refine (H23.out _ HC9.out).mono ?_; rintro e w10 ⟨rfl, hc⟩; have HC10 := Lib.hid (HC9.out.then hc); clear hc H23)
    | (go_at_call 28; (with_reducible refine (H28.out _).mono ?_); rintro e w' ⟨rfl, rfl⟩; clear H28)
    | (go_at_call 28; refine (H28z.out _ HC10.out).mono ?_; rintro e w' ⟨rfl, rfl⟩)
    | (go_at_call 16; refine (H16.out _).mono ?_; rintro e w' ⟨rfl, rfl⟩)
    | (go_at_call 24; (with_reducible refine (H24.out _ HC10.out).mono ?_); rintro e w11 ⟨rfl, hc⟩; have HC11 := Lib.hid (HC10.out.then hc); clear hc H24)
    | (go_at_call 24; refine (H24z.out _ HC11.out).mono ?_; rintro e w12 ⟨rfl, hc⟩; have HC12 := Lib.hid (HC11.out.then hc); clear hc)
    | (go_at_call 8; refine (H8.out _).mono ?_; rintro e w13 ⟨rfl, hc⟩; have HC13 := Lib.hid (HC12.out.then hc); clear hc))
  go_ret
  exact ⟨rfl, HZ.out.then HC13.out⟩
end Go.Proofs
end
