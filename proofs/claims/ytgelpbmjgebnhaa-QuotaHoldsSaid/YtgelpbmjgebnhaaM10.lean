import Derived.Test.YtgelpbmjgebnhaaM9
section
namespace Go.Proofs
open Go.RowKit Go.Shelf
set_option linter.unusedVariables false
set_option linter.unusedSimpArgs false

theorem results_tmp4 {fn : Func} {t u v x : Tmp} (h : fn.results = #[.tmp t, .tmp u, .tmp v, .tmp x]) (tmps : Array Value) (P : Program) (w : World) :
    (results fn tmps).run P w = .ok (.tuple #[tmps.getD t undef, tmps.getD u undef, tmps.getD v undef, tmps.getD x undef]) w := by
  simp [results, h]
theorem MadeAt.row {w W : World} {c h N : Nat} {V : Value} {rs : List (Int × Int)} (H : MadeAt w W c h N V rs) : Row W 34 2 V rs.length (refCells rs) := by
  obtain ⟨S, S2, t, r, ch, h1, h2, _⟩ := H; exact h2
/-- No domains; or as many as were carved out. -/
def MadePost (w : World) (e : Ending) (w' : World) : Prop :=
  (e = .returned (.tuple #[.pointer none, .pointer none, .slice none 0 0, .bool false]) ∧ Chg [] w w') ∨
  ∃ c h N V rs, e = .returned (.tuple #[ptr c, ptr h, V, .bool true]) ∧ N ≤ 40 ∧ MadeAt w w' c h N V rs
theorem new_pl {N : Nat} (h0 : 1 ≤ N) (gs cpu per : Int) (k : Nat) : ((rtab0 N).put (rkid 0 0 gs cpu per)).pl k = if k = 0 then ⟨1, true, gs, cpu, per, 0, 0, 0, 0⟩ else (rtab0 N).pl k := by
  obtain ⟨d, rfl⟩ : ∃ d, N = d + 1 := ⟨N - 1, by omega⟩
  have hF : (rtab0 (d + 1)).F = newF (d + 1) d ++ [0] := by unfold rtab0; rw [newF_succ]; simp
  have hat : (rtab0 (d + 1)).at0 = 0 := by unfold RTab.at0; rw [hF]; simp
  have hlen : (rtab0 (d + 1)).L.length = d + 1 := by unfold rtab0; simp
  have hpl0 : (rtab0 (d + 1)).pl 0 = pl1 := RTab.pl_eq (by unfold rtab0; rw [List.getElem?_replicate, if_pos (by omega)])
  unfold RTab.put
  rw [rpl_set (by rw [hat, hlen]; omega), hat]
  split
  · rw [hpl0]; rfl
  · rfl
theorem rtab0_pl (N k : Nat) : ((rtab0 N).pl k).is = false ∧ ((rtab0 N).pl k).used = 0 := by
  by_cases h : k < N
  · rw [show (rtab0 N).pl k = pl1 from RTab.pl_eq (by unfold rtab0; rw [List.getElem?_replicate, if_pos h])]; exact ⟨rfl, rfl⟩
  · have : (rtab0 N).pl k = pl0 := by unfold RTab.pl rtab0; rw [List.getElem?_replicate, if_neg h]; rfl
    rw [this]; exact ⟨rfl, rfl⟩
/-- The place that a number names, of so many. -/
theorem idx_of (x : Int) {n : Nat} (h1 : 1 ≤ n) (hb : n ≤ 1000) : ∃ k : Nat, k < n ∧ wrap64 (IntKind.u64.wrap x % (n : Int)) = ((k : Nat) : Int) ∧ wrap64 ((IntKind.u64.wrap x).tmod (n : Int)) = ((k : Nat) : Int) := by
  have hU : 0 ≤ IntKind.u64.wrap x := by rw [IntKind.wrap_u64]; omega
  obtain ⟨a, _, c⟩ := mod_bd hU (show (1 : Int) ≤ (n : Int) by omega)
  rw [Int.tmod_eq_emod_of_nonneg hU]
  obtain ⟨R, hR⟩ : ∃ R, R = IntKind.u64.wrap x % (n : Int) := ⟨_, rfl⟩
  rw [← hR] at a c ⊢
  have e : wrap64 R = ((R.toNat : Nat) : Int) := by
    rw [IntWalk.wrap64_in _ ⟨by omega, by omega⟩]
    omega
  exact ⟨R.toNat, by omega, e, e⟩
set_option maxHeartbeats 6400000 in
set_option maxRecDepth 100000 in
theorem made_any (cpu per : Int) (hcp : 0 ≤ cpu) (hpp : 0 ≤ per) (V : Value) (l : List CarvC) (w w0 : World) (hV : Carvs w0 V l) (h0 : Chg [] w0 w) :
    Calls Try.prog 8 #[.int .u64 cpu, .int .u64 per, V] w (MadePost w) := by
  obtain ⟨in0, hi0, hq0, hq1, hq2⟩ := info_parts Try.info_R
  obtain ⟨A, c9, rfl⟩ := hV.open_
  obtain ⟨m, hm⟩ : ∃ m, m = l.length := ⟨_, rfl⟩
  rw [← hm] at hV ⊢
  have HV := Lib.hid hV
  have H0 := Lib.hid h0
  clear hV hm h0
  by_cases hbig : 40 < (m : Int)
  · have d1 : decide ((m : Int) > 40) = true := by simpa using hbig
    have d2 : decide (40 < (m : Int)) = true := by simpa using hbig
    go_enter Try.func8, Try.ntmps8
    go_wp2
    refine bodyPost_ret (results_tmp4 rfl _ _ _) rfl ?_
    exact .inl ⟨rfl, Chg.refl _ _⟩
  have d1 : decide ((m : Int) > 40) = false := by simpa using hbig
  have d2 : decide (40 < (m : Int)) = false := by simpa using hbig
  have HMY := Lib.hid (fun W => mayD_any 31 (.inr rfl) 64 cpu per hcp hpp W)
  cases hmay : mayD 64 cpu per with
  | false =>
    rw [hmay] at HMY
    clear hmay
    go_enter Try.func8, Try.ntmps8
    go_wp2_with (first
      | (go_at_call 31; refine (HMY.out _).mono ?_; rintro e w1 ⟨rfl, rfl⟩))
    refine bodyPost_ret (results_tmp4 rfl _ _ _) rfl ?_
    exact .inl ⟨rfl, Chg.refl _ _⟩
  | true =>
    rw [hmay] at HMY
    have hm32 : mayN ((32 : Nat) : Int) 64 cpu per = true := mayN_iff.2 ⟨by omega, by omega, hmay⟩
    have hd2 := hmay
    unfold mayD at hd2
    simp at hd2
    have sim : Sim 1 ((tab0 ((32 : Nat) : Int)).put dm0 (rootD 64 cpu per)) ((rtab0 32).put (rkid 0 0 64 cpu per)) (fun _ => [(0, 1)]) := Sim.begin (by omega) (by omega) (by omega) (by omega) hcp (by omega)
    have hpl := new_pl (N := 32) (by omega) 64 cpu per
    have hroot := k_root sim (by rw [hpl, if_pos rfl]) (by rw [hpl, if_pos rfl])
    have hrl : ((rtab0 32).put (rkid 0 0 64 cpu per)).L.length = 32 := by unfold RTab.put rtab0; simp
    obtain ⟨T, hT⟩ : ∃ T, T = (tab0 ((32 : Nat) : Int)).put dm0 (rootD 64 cpu per) := ⟨_, rfl⟩
    obtain ⟨R, hR⟩ : ∃ R, R = (rtab0 32).put (rkid 0 0 64 cpu per) := ⟨_, rfl⟩
    have HN : Hid (∀ W, Calls Try.prog 30 #[.int .i64 32, .int .i64 64, .int .u64 cpu, .int .u64 per] W fun e w' => ∃ c S, e = .returned (.tuple #[ptr c, .int .i64 0]) ∧ DomAt w' c S T ∧ (∀ k ∈ c :: S, W.heap.size ≤ k) ∧ Chg [] W w') := Lib.hid (fun W => by rw [hT]; exact New_yes W (size := ((32 : Nat) : Int)) hcp hpp hm32)
    have HR : Hid (∀ W, Calls Try.prog 32 #[.int .i64 32, .int .i64 64, .int .u64 cpu, .int .u64 per] W fun e w' => ∃ h S, e = .returned (ptr h) ∧ RefAt w' h S R ∧ (∀ k ∈ S, W.heap.size ≤ k) ∧ Chg [] W w') := Lib.hid (fun W => by rw [hR]; exact rnew_any 32 (by omega) (by omega) 64 cpu per W)
    rw [← hT] at sim hroot
    rw [← hR] at sim hpl hrl
    have HO : Hid (∀ W c S, DomAt W c S T → Calls Try.prog 33 #[ptr c] W fun e W' => e = .returned (.agg #[.int .i64 0, .int .u64 1]) ∧ Chg [] W W') := Lib.hid (fun W c S h => by have := Root_any h; rw [hroot.1, hroot.2] at this; exact this)
    have HSIM := Lib.hid sim
    have HFACT := Lib.hid (show Refs R [(0, 1)] ∧ Pers R ∧ NoUse R ∧ ((R.pl 0).is = true ∧ (R.pl 0).gen = 1) by
      have h00 : R.pl 0 = ⟨1, true, 64, cpu, per, 0, 0, 0, 0⟩ := by rw [hpl, if_pos rfl]
      refine ⟨fun x hx => ?_, fun k hk => ?_, fun k => ?_, by rw [h00]; exact ⟨rfl, rfl⟩⟩
      · rw [List.mem_singleton] at hx; subst hx
        exact ⟨0, by rw [h00]; rfl, by rw [hrl]; omega, by rw [h00]⟩
      · rw [hpl] at hk ⊢
        by_cases e : k = 0
        · rw [if_pos e]; show 1 ≤ per ∧ per ≤ 4294967296; omega
        · rw [if_neg e, (rtab0_pl 32 k).1] at hk; cases hk
      · rw [hpl]
        by_cases e : k = 0
        · rw [if_pos e]
        · rw [if_neg e]; exact (rtab0_pl 32 k).2)
    clear sim hpl hroot hrl hT hR hd2 hm32 hmay
    go_enter Try.func8, Try.ntmps8
    go_wp2_with (first
      | (go_at_call 31; refine (HMY.out _).mono ?_; rintro e w1 ⟨rfl, rfl⟩)
      | (go_at_call 30; refine (HN.out _).mono ?_; rintro e w1 ⟨c, S, rfl, hD, hf, hc1⟩; have HD := Lib.hid hD; have HF := Lib.hid hf; have HC1 := Lib.hid hc1; clear hD hf hc1)
      | (go_at_call 32; refine (HR.out _).mono ?_; rintro e w2 ⟨h, S2, rfl, hR2, hf2, hc2⟩; have HR2 := Lib.hid hR2; have HF2 := Lib.hid hf2; have HC2 := Lib.hid hc2; clear hR2 hf2 hc2)
      | (go_at_call 33; refine (HO.out _ _ _ (HD.out.quiet HC2.out)).mono ?_; rintro e w3 ⟨rfl, hc3⟩; have HC3 := Lib.hid hc3; clear hc3))
    go_loopg [13, 14] m (fun gh v13 iv wr => ∃ (j N : Nat) (A : Option Addr) (cc : Nat) (rs : List (Int × Int)), j + gh = m ∧ iv = .int .i64 j ∧ v13 = .slice A rs.length cc ∧ Hid (N ≤ j ∧ MadeAt w wr c h N (.slice A rs.length cc) rs))
    case atStart =>
      have z1 := HC1.out.size
      have z2 := HC2.out.size
      have z3 := HC3.out.size
      have hq : Chg [] w3 (w3.alloc (.cells #[.int .i64 0, .int .u64 1] 34)) := (Chg.refl [] w3).alloc _
      obtain ⟨f1, f2, f3, f4⟩ := HFACT.out
      refine ⟨0, 0, some ⟨w3.heap.size, 0, none⟩, 1, [(0, 1)], by omega, rfl, rfl, Lib.hid ⟨Nat.le_refl _, S, S2, T, R, _, ⟨((HD.out.quiet HC2.out).quiet HC3.out).quiet hq, (HR2.out.quiet HC3.out).quiet hq, HSIM.out, fun k hk hm => ?_⟩, ?_, ?_, ((HC1.out.then HC2.out).then HC3.out).then hq, f1, ⟨by simp, by simp⟩, f2, f3, f4⟩⟩
      · have a := HD.out.lt k (List.mem_cons_of_mem _ hk)
        have b := HF2.out k hm
        omega
      · exact ⟨rfl, .inr ⟨w3.heap.size, 1, #[.int .i64 0, .int .u64 1], rfl, (Blk.new w3 34 _), by simp, by unfold maxLen; omega, by simp, rfl⟩⟩
      · intro k hk
        rcases List.mem_append.1 hk with hk | hk
        · simp [foot_some] at hk; omega
        · rcases List.mem_append.1 hk with hk | hk
          · exact HF.out k hk
          · have := HF2.out k hk; omega
    case round =>
      obtain ⟨j, N, A1, cc, rs, hj, rfl, rfl, HH⟩ := hrel
      by_cases hlt : j < m
      · have j0 : (0 : Int) ≤ (j : Int) := by omega
        have j1 : (j : Int) < (m : Int) := by omega
        obtain ⟨hNj, hM⟩ := HH.out
        have hcw := hM.chg
        obtain ⟨S', S2', t, r, ch, hP, hrow, hnew, _, hrefs, hlen, hper, hnu, h0⟩ := hM
        obtain ⟨bI, oI, a, hA, hat, hfit, hbI, hcells⟩ := HV.out.is_ hlt
        subst hA
        obtain ⟨of_, gs, cp, pe⟩ := a
        obtain ⟨o0, o1, g0, g1, c0, c1, p0, p1⟩ := hfit
        simp only at o0 o1 g0 g1 c0 c1 p0 p1
        have HCL := Lib.hid (fun W (hW : Chg [] w W) => (⟨hcells W (H0.out.then hW) 0 _ rfl, hcells W (H0.out.then hW) 1 _ rfl, hcells W (H0.out.then hW) 2 _ rfl, hcells W (H0.out.then hW) 3 _ rfl⟩ : W.cell? ⟨bI, oI + j * 4, none⟩ = some (.int .i64 of_) ∧ W.cell? ⟨bI, oI + j * 4 + 1, none⟩ = some (.int .i64 gs) ∧ W.cell? ⟨bI, oI + j * 4 + 2, none⟩ = some (.int .u64 cp) ∧ W.cell? ⟨bI, oI + j * 4 + 3, none⟩ = some (.int .u64 pe)))
        obtain ⟨i0, i1, i2, i3⟩ := HCL.out wr hcw
        have hbw : bI < wr.heap.size := by have := H0.out.size; have := hcw.size; omega
        have hn1 : 1 ≤ rs.length := hlen.1
        have hnb : rs.length ≤ 41 := by have := hlen.2; omega
        obtain ⟨k, hkn, ek, ek'⟩ := idx_of of_ hn1 (Nat.le_trans hnb (by omega))
        have k0 : (0 : Int) ≤ (k : Int) := by omega
        have k1 : (k : Int) < (rs.length : Int) := by omega
        obtain ⟨y, hy⟩ : ∃ y, rs[k]? = some y := ⟨_, List.getElem?_eq_getElem hkn⟩
        obtain ⟨kk, rfl, hkl, hkis⟩ := hrefs y (List.mem_of_getElem? hy)
        obtain ⟨gr, cr, hv, hfo, _, hcell, _, lgr2⟩ := hrow.form (by omega)
        simp only [Value.slice.injEq] at hv
        obtain ⟨rfl, h91, h92⟩ := hv
        clear h91 h92
        obtain ⟨x0, x1⟩ := refCells_at hy
        have y0 := hcell _ _ x0
        have y1 := hcell _ _ x1
        obtain ⟨G, hG⟩ : ∃ G, G = (r.pl kk).gen := ⟨_, rfl⟩
        simp only at y0 y1
        rw [← hG] at y1
        clear hy x0 x1 hcell
        have hWB : Chg [] wr ((wr.alloc (.cells #[.int .i64 (kk : Nat), .int .u64 G] 34)).drew) := ((Chg.refl [] wr).alloc _).drew
        have hbx0 := (Blk.new wr 34 #[.int .i64 (kk : Nat), .int .u64 G]).drew
        have hSn : ∀ k ∈ S', w.heap.size ≤ k ∧ k < wr.heap.size := fun k hk => ⟨hnew k (List.mem_append_right _ (List.mem_append_left _ (List.mem_cons_of_mem _ hk))), hP.dm.lt k (List.mem_cons_of_mem _ hk)⟩
        have HSN := Lib.hid (fun k hk => (hSn k hk).2)
        have HQ := Lib.hid (fun W (hW : Chg [] ((wr.alloc (.cells #[.int .i64 (kk : Nat), .int .u64 G] 34)).drew) W) => pair_carve3 (W0 := W) (hW0 := hWB.then hW) hP (by omega : N + 1 + 1 ≤ 1000) (i := (kk : Nat)) (q := G) (gs := gs) (cpu := cp) (per := pe) (by omega) (by have := hP.sim.held.n1; omega) c0 p0)
        have HGQ := Lib.hid (fun W (hW : Chg [] ((wr.alloc (.cells #[.int .i64 (kk : Nat), .int .u64 G] 34)).drew) W) w1 (h1 : Chg S' W w1) => (⟨(hbx0.chg hW (by simp)).chg h1 (fun x => by have := (hSn _ x).2; omega), (hcw.then (hWB.then hW)).trans h1 (fun k hk => .inr (hSn k hk).1), HCL.out w1 ((hcw.then (hWB.then hW)).trans h1 (fun k hk => .inr (hSn k hk).1))⟩ : Blk w1 wr.heap.size 34 #[.int .i64 (kk : Nat), .int .u64 G] ∧ Chg [] w w1 ∧ _))
        have HTU := Lib.hid (fun (jj p E : Int) W2 (hm : E = 0 → mayD gs cp pe = true) (hp : PTurns (CvQ t r ch (kk : Nat) G gs cp pe jj p E) c S' h S2' (N + 1) wr W2) => MadeAt.turn hP hrow hnew hcw hrefs hlen hper hnu h0 hm hp)
        have HS2 := Lib.hid (show ∀ k ∈ S2', w.heap.size ≤ k ∧ k < wr.heap.size from fun k hk => ⟨hnew k (List.mem_append_right _ (List.mem_append_right _ hk)), hP.rf.lt k hk⟩)
        have HFV := Lib.hid (show ∀ k ∈ foot (.slice (some ⟨gr, 0, none⟩) rs.length cc), w.heap.size ≤ k ∧ k < wr.heap.size from fun k hk => ⟨hnew k (List.mem_append_left _ hk), hrow.lt k hk⟩)
        have hne1 : ¬ (bI = wr.heap.size) := by omega
        have hne2 : ¬ (wr.heap.size + 1 = bI) := by omega
        have hne3 : ¬ (wr.heap.size = bI) := by omega
        have hne4 : ¬ (bI = wr.heap.size + 1) := by omega
        have HCW := Lib.hid hcw
        clear hP hrow hnew hrefs hlen hper hnu h0 hbx0 hWB hSn hG hkl hkis hcw hfo HH i0 i1 i2 i3
        obtain ⟨i0, i1, i2, i3⟩ := HCL.out wr HCW.out
        go_wp2
        go_region_held3 (fun w' => w'.cell? ⟨wr.heap.size, 0, none⟩ = some (.int .i64 (kk : Nat)) ∧ w'.cell? ⟨wr.heap.size, 1, none⟩ = some (.int .u64 G) ∧ w'.cell? ⟨bI, oI + j * 4 + 1, none⟩ = some (.int .i64 gs) ∧ w'.cell? ⟨bI, oI + j * 4 + 2, none⟩ = some (.int .u64 cp) ∧ w'.cell? ⟨bI, oI + j * 4 + 3, none⟩ = some (.int .u64 pe))
          (first | (go_keep; done))
          (first
            | (go_at_call 34; have hWc : Chg [] ((wr.alloc (.cells #[.int .i64 (kk : Nat), .int .u64 G] 34)).drew) (((wr.alloc (.cells #[.int .i64 (kk : Nat), .int .u64 G] 34)).alloc (.cells #[.int .i64 0, .int .u64 0] 34)).drew) := ((Chg.refl [] ((wr.alloc (.cells #[.int .i64 (kk : Nat), .int .u64 G] 34)).drew)).alloc (.cells #[.int .i64 0, .int .u64 0] 34)); refine (HQ.out _ hWc).mono ?_; rintro e w1 ⟨jj, p, E, rfl, hjb, hcS, hH⟩; obtain ⟨hbx, hch, hci⟩ := HGQ.out _ hWc _ hcS; have HBX := Lib.hid hbx; have HCH := Lib.hid hch; have k0 : w1.cell? ⟨wr.heap.size, 0, none⟩ = some (.int .i64 (kk : Nat)) := hbx.cell 0; have k1 : w1.cell? ⟨wr.heap.size, 1, none⟩ = some (.int .u64 G) := hbx.cell 1; obtain ⟨_, k2, k3, k4⟩ := hci; have lw1 := hcS.size; simp only [World.size_alloc, World.size_drew] at lw1; have HJ := Lib.hid hjb; have hEE : (E == E) = true := beq_self_eq_true E; have hjj : (jj == jj) = true := beq_self_eq_true jj; have hpp9 : (p == p) = true := beq_self_eq_true p; have HH1 := Lib.hid hH; have lbw : bI < w1.heap.size := (by omega); have hx5 : Blk w1 (wr.heap.size + 1) 34 #[.int .i64 0, .int .u64 0] := ((Blk.at' (wr.alloc (.cells #[.int .i64 (kk : Nat), .int .u64 G] 34)) 34 #[.int .i64 0, .int .u64 0] (n := wr.heap.size + 1) (by simp)).drew).chg hcS (fun x => by have := HSN.out _ x; omega); have HX5 := Lib.hid hx5; have x0 : w1.cell? ⟨wr.heap.size + 1, 0, none⟩ = some (.int .i64 0) := hx5.cell 0; have x1 : w1.cell? ⟨wr.heap.size + 1, 1, none⟩ = some (.int .u64 0) := hx5.cell 1; have xf := hx5.frozen; have lx := hx5.lt; clear hjb hH hWc hcS hx5 hbx hch)
            | (go_at_call 34; have hWc := Chg.refl [] ((wr.alloc (.cells #[.int .i64 (kk : Nat), .int .u64 G] 34)).drew); refine (HQ.out _ hWc).mono ?_; rintro e w1 ⟨jj, p, E, rfl, hjb, hcS, hH⟩; obtain ⟨hbx, hch, hci⟩ := HGQ.out _ hWc _ hcS; have HBX := Lib.hid hbx; have HCH := Lib.hid hch; have k0 : w1.cell? ⟨wr.heap.size, 0, none⟩ = some (.int .i64 (kk : Nat)) := hbx.cell 0; have k1 : w1.cell? ⟨wr.heap.size, 1, none⟩ = some (.int .u64 G) := hbx.cell 1; obtain ⟨_, k2, k3, k4⟩ := hci; have lw1 := hcS.size; simp only [World.size_alloc, World.size_drew] at lw1; have HJ := Lib.hid hjb; have hEE : (E == E) = true := beq_self_eq_true E; have hjj : (jj == jj) = true := beq_self_eq_true jj; have hpp9 : (p == p) = true := beq_self_eq_true p; have HH1 := Lib.hid hH; have lbw : bI < w1.heap.size := (by omega); clear hjb hH hWc hcS hbx hch))
        all_goals
          go_wp2
        all_goals
          first
          | (have hb6 : Blk (w1.alloc (.cells #[.int .i64 jj, .int .u64 p] 34)) w1.heap.size 34 #[.int .i64 jj, .int .u64 p] := Blk.new w1 34 _
             have hh6 := HH1.out.later ((Chg.refl [] w1).alloc (.cells #[.int .i64 jj, .int .u64 p] 34))
             have hr6 := HBX.out.alloc (.cells #[.int .i64 jj, .int .u64 p] 34)
             have hc6 := HCH.out.alloc (.cells #[.int .i64 jj, .int .u64 p] 34)
             have lb6 : wr.heap.size + 1 ≤ w1.heap.size := by omega
             obtain ⟨W6, hW6⟩ : ∃ W6, w1.alloc (.cells #[.int .i64 jj, .int .u64 p] 34) = W6 := ⟨_, rfl⟩
             rw [hW6] at hb6 hh6 hr6 hc6 ⊢
             have szW : w1.heap.size < W6.heap.size := by rw [← hW6]; simp
             clear hW6
             obtain ⟨B6, hB6⟩ : ∃ B6, B6 = w1.heap.size := ⟨_, rfl⟩
             rw [← hB6] at hb6 lb6 ⊢
             clear hB6)
          | (have hb6 : Blk ((w1.setCell ⟨wr.heap.size + 1, 0, none⟩ (.int .i64 jj)).setCell ⟨wr.heap.size + 1, 1, none⟩ (.int .u64 p)) (wr.heap.size + 1) 34 #[.int .i64 jj, .int .u64 p] := (HX5.out.set_ 0 (.int .i64 jj)).set_ 1 (.int .u64 p)
             have hcx : Chg [wr.heap.size + 1] w1 ((w1.setCell ⟨wr.heap.size + 1, 0, none⟩ (.int .i64 jj)).setCell ⟨wr.heap.size + 1, 1, none⟩ (.int .u64 p)) := ((Chg.refl [wr.heap.size + 1] w1).setCell (p := ⟨wr.heap.size + 1, 0, none⟩) (Or.inl (List.mem_singleton.2 rfl)) _).setCell (p := ⟨wr.heap.size + 1, 1, none⟩) (Or.inl (List.mem_singleton.2 rfl)) _
             have hh6 := HH1.out.box HX5.out (by omega) hcx
             have hr6 := HBX.out.chg hcx (by simp)
             have hc6 := HCH.out.trans hcx (fun k hk => .inr (by have := HCW.out.size; rw [List.mem_singleton] at hk; omega))
             have szW := hcx.size
             obtain ⟨W6, hW6⟩ : ∃ W6, ((w1.setCell ⟨wr.heap.size + 1, 0, none⟩ (.int .i64 jj)).setCell ⟨wr.heap.size + 1, 1, none⟩ (.int .u64 p)) = W6 := ⟨_, rfl⟩
             rw [hW6] at hb6 hh6 hr6 hc6 szW ⊢
             clear hW6 hcx
             obtain ⟨B6, hB6⟩ : ∃ B6, B6 = wr.heap.size + 1 := ⟨_, rfl⟩
             have lb6 : wr.heap.size + 1 ≤ B6 := by omega
             rw [← hB6] at hb6 ⊢
             clear hB6)
        all_goals
          have HB6 := Lib.hid hb6
          have HH6 := Lib.hid hh6
          have HR6 := Lib.hid hr6
          have HC6 := Lib.hid hc6
          have b0 := hb6.cell 0
          have b1 := hb6.cell 1
          have lb := hb6.lt
          have d0 : W6.cell? ⟨wr.heap.size, 0, none⟩ = some (.int .i64 (kk : Nat)) := hr6.cell 0
          have d1 : W6.cell? ⟨wr.heap.size, 1, none⟩ = some (.int .u64 G) := hr6.cell 1
          obtain ⟨d2, d3, d4, d5⟩ := HCL.out W6 hc6
          have lbw6 : bI < W6.heap.size := by omega
          clear hb6 hh6 hr6 hc6
        all_goals
          by_cases hE0 : E = 0
        all_goals
          first
          | (have hE9 : (E == 0) = true := by simpa using hE0)
          | (have hE9 : (E == 0) = false := by simpa using hE0)
        all_goals
          have HE0 := Lib.hid hE0
          clear hE0
        all_goals
          go_region_held3 (fun w' => w'.cell? ⟨wr.heap.size, 0, none⟩ = some (.int .i64 (kk : Nat)) ∧ w'.cell? ⟨wr.heap.size, 1, none⟩ = some (.int .u64 G) ∧ w'.cell? ⟨bI, oI + j * 4 + 1, none⟩ = some (.int .i64 gs) ∧ w'.cell? ⟨bI, oI + j * 4 + 2, none⟩ = some (.int .u64 cp) ∧ w'.cell? ⟨bI, oI + j * 4 + 3, none⟩ = some (.int .u64 pe))
            (first | (go_keep; done))
            (first
              | (go_at_call 35; refine (HH6.out.call ((Chg.refl [] W6).drew)).mono ?_; rintro e w2 ⟨rfl, hPT, hc2⟩; have HM2 := Lib.hid (HTU.out _ _ _ _ HJ.out.2 hPT); have HM3 := Lib.hid (HTU.out _ _ _ _ HJ.out.2 (hPT.later ((Chg.refl [] w2).alloc (.cells #[.int .i64 jj, .int .u64 p] 34)))); have HRW2 := Lib.hid HM2.out.1.row; have hb7 := HB6.out.drew.chg hc2 (fun x => by have := HS2.out _ x; omega); have b0 := hb7.cell 0; have b1 := hb7.cell 1; have lb := hb7.lt; have hr7 := HR6.out.drew.chg hc2 (fun x => by have := HS2.out _ x; omega); have e0 : w2.cell? ⟨wr.heap.size, 0, none⟩ = some (.int .i64 (kk : Nat)) := hr7.cell 0; have e1 : w2.cell? ⟨wr.heap.size, 1, none⟩ = some (.int .u64 G) := hr7.cell 1; obtain ⟨_, e2, e3, e4⟩ := HCL.out w2 HM2.out.1.chg; have HS9 := Lib.hid hc2.size; clear hPT hc2 hb7 hr7))
        all_goals
          go_wp2_with (at_builtin; refine wpList_append_row _ rfl _ _ 27 rfl 34 in0 (.agg #[.int .i64 0, .int .u64 0]) 2 16 Try.underlying27 hi0 hq0 hq1 hq2 rfl (.slice (some ⟨gr, 0, none⟩) rs.length cc) rs.length (refCells rs) rfl (HRW2.out.alloc _) ⟨w2.heap.size, 0, none⟩ 1 1 [.int .i64 jj, .int .u64 p] rfl rfl (World.news_of_block (cs := #[.int .i64 jj, .int .u64 p]) (t := 34) (fr := (0, 0)) (heap_alloc_new w2 _)) (by simp [Value.oneCell']) (by omega) (by unfold maxLen; omega) (by omega) (w2.heap.size + 1) (by simp) ?_; intro gg cap w4 hown hgrow hat9 hlt9; have HOWN := Lib.hid hown; have HG := Lib.hid hgrow; have HAT := Lib.hid hat9; clear hown hgrow hat9)
        all_goals
          first
          | (go_roundg (m - j - 1)
             case measure => omega
             case rel =>
               refine ⟨j + 1, N + 1, some ⟨gg, 0, none⟩, cap, rs ++ [(jj, p)], by omega, by go_num, by rw [List.length_append]; rfl, Lib.hid ⟨by omega, ?_⟩⟩
               have hgg : gg ∈ foot (.slice (some ⟨gr, 0, none⟩) rs.length cc) ∨ gg = w2.heap.size + 1 := HAT.out.imp (fun h => row_mem h) id
               have hz := HM2.out.1.chg.size
               have hrow4 : Row w4 34 2 (.slice (some ⟨gg, 0, none⟩) (rs ++ [(jj, p)]).length cap) (rs ++ [(jj, p)]).length (refCells (rs ++ [(jj, p)])) := by
                 rw [refCells_snoc, List.length_append]; exact HOWN.out
               refine HM3.out.2 HE0.out w4 _ hrow4 HG.out (fun k' hk' => ?_)
               rw [List.length_append] at hk'
               simp [foot_some] at hk'
               subst hk'
               rcases hgg with h | h
               · exact (HFV.out _ h).1
               · omega)
          | (go_roundg (m - j - 1)
             case measure => omega
             case rel => exact ⟨j + 1, N + 1, some ⟨gr, 0, none⟩, cc, rs, by omega, by go_num, rfl, Lib.hid ⟨by omega, HM2.out.1⟩⟩)
      · obtain rfl : m = j := by omega
        go_wp2
        refine bodyPost_ret (results_tmp4 rfl _ _ _) rfl ?_
        exact .inr ⟨c, h, N, _, rs, rfl, by have := HH.out.1; omega, HH.out.2⟩
end Go.Proofs
end
section
namespace Go.Proofs
open Go.RowKit Go.Shelf
set_option linter.unusedVariables false
set_option linter.unusedSimpArgs false

/-! ### Domains of the call's own, told by what the document's would be -/
def CAt (w W : World) (c M : Nat) (r : RTab) (ch : Nat → List (Int × Int)) : Prop :=
  Chg [] w W ∧ ∃ S t, DomAt W c S t ∧ Sim M t r ch ∧ (∀ k ∈ c :: S, w.heap.size ≤ k)
section
variable {w W W2 : World} {c M : Nat} {r r' : RTab} {ch : Nat → List (Int × Int)} {i q : Int} {L : List (Int × Int)} {k : Nat}
theorem CAt.chg (H : CAt w W c M r ch) : Chg [] w W := H.1
theorem CAt.held (H : CAt w W c M r ch) : r.Held M ch := by obtain ⟨_, S, t, _, hs, _⟩ := H; exact hs.held
theorem CAt.quiet (H : CAt w W c M r ch) (hc : Chg [] W W2) : CAt w W2 c M r ch := by
  obtain ⟨h1, S, t, h2, h3, h4⟩ := H
  exact ⟨h1.then hc, S, t, h2.quiet hc, h3, h4⟩
/-- What turned lies not where anything lay that was not the call's own. -/
theorem CAt.turn {S : List Nat} (h1 : Chg [] w W) (h4 : ∀ k ∈ c :: S, w.heap.size ≤ k) (hT : CTurns c S M r' ch W W2) : CAt w W2 c M r' ch := by
  obtain ⟨t', a, b, d⟩ := hT
  exact ⟨h1.trans d (fun k hk => .inr (h4 k (List.mem_cons_of_mem _ hk))), S, t', a, b, h4⟩
/-- A row of refs, and what is not the domains', stays where these turn. -/
def Rest (w W W' : World) (c : Nat) : Prop := ∃ S, Chg S W W' ∧ c ∉ S ∧ (∀ k ∈ S, w.heap.size ≤ k ∧ k < W.heap.size) ∧ ∀ (b : Nat) (e : TypeId) (cs : Array Value), Blk W b e cs → e ≠ 110 → e ≠ 139 → e ≠ 135 → e ≠ 3 → b ∉ S
theorem DomAt.rest {S : List Nat} {t : Tab Dm} (h : DomAt W c S t) (h4 : ∀ k ∈ c :: S, w.heap.size ≤ k) {W' : World} (hc : Chg S W W') : Rest w W W' c :=
  ⟨S, hc, h.not_mem, fun k hk => ⟨h4 k (List.mem_cons_of_mem _ hk), h.lt k (List.mem_cons_of_mem _ hk)⟩, fun b e cs hB e1 e2 e3 e4 hm => h.ne_ty hB e1 e2 e3 e4 (List.mem_cons_of_mem _ hm)⟩
theorem Rest.quiet {W' : World} (hc : Chg [] W W') (hl : c < W.heap.size) : Rest w W W' c := ⟨[], hc, by simp, (fun k hk => by cases hk), (fun _ _ _ _ _ _ _ _ hm => by cases hm)⟩
theorem Rest.blk {W' : World} (h : Rest w W W' c) {b : Nat} {e : TypeId} {cs : Array Value} (hB : Blk W b e cs) (e1 : e ≠ 110 := by decide) (e2 : e ≠ 139 := by decide) (e3 : e ≠ 135 := by decide) (e4 : e ≠ 3 := by decide) : Blk W' b e cs := by
  obtain ⟨S, hc, _, _, h3⟩ := h
  exact hB.chg hc (h3 b e cs hB e1 e2 e3 e4)
theorem Rest.row {W' : World} (h : Rest w W W' c) {e : TypeId} {size n : Nat} {v : Value} {xs : List Value} (hR : Row W e size v n xs) (e1 : e ≠ 110 := by decide) (e2 : e ≠ 139 := by decide) (e3 : e ≠ 135 := by decide) (e4 : e ≠ 3 := by decide) : Row W' e size v n xs := by
  obtain ⟨S, hc, _, _, h3⟩ := h
  refine hR.chg hc (fun k hk => ?_)
  rcases hR.2 with ⟨he, _⟩ | ⟨b, cap, cur, he, hb, _⟩
  · rw [he] at hk; cases hk
  · rw [he] at hk; simp [foot_some] at hk; subst hk
    exact h3 _ _ _ hb e1 e2 e3 e4
theorem CAt.root (H : CAt w W c M r ch) (h0 : (r.pl 0).is = true ∧ (r.pl 0).gen = 1) : Calls Try.prog 33 #[ptr c] W fun e W' => e = .returned (.agg #[.int .i64 0, .int .u64 1]) ∧ Chg [] W W' := by
  obtain ⟨h1, S, t, h2, h3, h4⟩ := H
  have := Root_any h2
  obtain ⟨a, b⟩ := k_root h3 h0.1 h0.2
  rw [a, b] at this; exact this
theorem CAt.left (H : CAt w W c M r ch) (hU : Up r.par i q L) (hL : L.length ≤ 1000) (i0 : -9223372036854775808 ≤ i) (i1 : i ≤ 9223372036854775807) : Calls Try.prog 22 #[ptr c, .agg #[.int .i64 i, .int .u64 q]] W fun e W' => e = .returned (.int .u64 (leftR r L)) ∧ Chg [] W W' := by
  obtain ⟨h1, S, t, h2, h3, h4⟩ := H
  have := Left_any h2 h3.oks (by rw [h3.par]; exact hU) hL i0 i1
  rw [h3.leftR] at this; exact this
theorem CAt.can (H : CAt w W c M r ch) (hU : Up r.par i q L) (hL : L.length ≤ 1000) (i0 : -9223372036854775808 ≤ i) (i1 : i ≤ 9223372036854775807) : Calls Try.prog 23 #[ptr c, .agg #[.int .i64 i, .int .u64 q]] W fun e W' => e = .returned (.bool (decide (0 < leftR r L))) ∧ Chg [] W W' := by
  obtain ⟨h1, S, t, h2, h3, h4⟩ := H
  have := Can_any h2 h3.oks (by rw [h3.par]; exact hU) hL i0 i1
  rw [h3.leftR] at this; exact this
theorem CAt.charge (H : CAt w W c M r ch) (hU : Up r.par i q L) (hL : L.length ≤ 1000) (i0 : -9223372036854775808 ≤ i) (i1 : i ≤ 9223372036854775807) : Calls Try.prog 10 #[ptr c, .agg #[.int .i64 i, .int .u64 q]] W fun e W' => e = .returned (.bool (decide (0 < leftR r L))) ∧ CAt w W' c M (chargeR L r) ch ∧ Rest w W W' c := by
  obtain ⟨h1, S, t, h2, h3, h4⟩ := H
  refine (Charge_any h2 h3 hU hL i0 i1).mono ?_
  rintro e W' ⟨rfl, hT⟩
  exact ⟨rfl, CAt.turn h1 h4 hT, by obtain ⟨_, _, _, d⟩ := hT; exact h2.rest h4 d⟩
/-- n ticks more are used of it. -/
def RTab.useN (r : RTab) (k : Nat) (n : Int) : RTab := r.set1 k (r.pl k).own (addS (r.pl k).used n)
theorem CAt.use (H : CAt w W c M r ch) (hk : (r.pl k).is = true) {g : Int} (hg : (r.pl k).gen = g) {n : Int} (n0 : 0 ≤ n) (n1 : n < 18446744073709551616) : Calls Try.prog 12 #[ptr c, .agg #[.int .i64 (k : Nat), .int .u64 g], .int .u64 n] W fun e W' => e = .returned (.int .i64 0) ∧ CAt w W' c M (r.useN k n) ch ∧ Rest w W W' c := by
  obtain ⟨h1, S, t, h2, h3, h4⟩ := H
  have hl := is_lt hk
  have hn1 := h3.held.n1
  have hnum := (h3.held.nums k hl).2.2.2.1
  subst hg
  refine (Use_any h2 h3.oks (i := (k : Nat)) (q := (r.pl k).gen) (by omega) (by omega) n n0 n1).mono ?_
  rintro e W' ⟨rfl, hD, hc⟩
  have hst : staleE t (k : Nat) (r.pl k).gen = 0 := by unfold staleE; rw [h3.has, is_pl.2 ⟨k, rfl, hl, hk, rfl⟩]; rfl
  refine ⟨by rw [hst], CAt.turn h1 h4 ⟨_, hD, h3.usedTo hk _ (addS (r.pl k).used n) (fun x hx => by rw [hx]) ?_ ?_, hc⟩, h2.rest h4 hc⟩
  · unfold addS; split <;> omega
  · unfold addS; split <;> omega
theorem CAt.next (H : CAt w W c M r ch) (hp : Pers r) {now : Int} (n0 : 0 ≤ now) (n1 : now < 18446744073709551616) : Calls Try.prog 20 #[ptr c, .int .u64 now] W fun e W' => e = .returned (.tuple #[.int .u64 (oInt (nextR r ch now)), .bool (nextR r ch now).isSome]) ∧ Chg [] W W' := by
  obtain ⟨h1, S, t, h2, h3, h4⟩ := H
  exact Next_any h2 h3 hp n0 n1
theorem CAt.reset (H : CAt w W c M r ch) (hp : Pers r) {now : Int} (n0 : 0 ≤ now) (n1 : now < 18446744073709551616) : Calls Try.prog 15 #[ptr c, .int .u64 now] W fun e W' => ∃ A cc, e = .returned (.slice A (begunL now (r.all ch)).length cc) ∧ Row W' 34 2 (.slice A (begunL now (r.all ch)).length cc) (begunL now (r.all ch)).length (refCells (begunL now (r.all ch))) ∧ (∀ k ∈ foot (.slice A (begunL now (r.all ch)).length cc), W.heap.size ≤ k) ∧ CAt w W' c M (resetR r ch now) ch ∧ Like r (resetR r ch now) ∧ Rest w W W' c := by
  obtain ⟨h1, S, t, h2, h3, h4⟩ := H
  refine (Reset_any h2 h3 hp n0 n1).mono ?_
  rintro e W' ⟨A, cc, rfl, hr, hf, hT, hl⟩
  exact ⟨A, cc, rfl, hr, hf, CAt.turn h1 h4 hT, hl, by obtain ⟨_, _, _, d⟩ := hT; exact h2.rest h4 d⟩
theorem CAt.tight (H : CAt w W c M r ch) (hU : Up r.par i q L) (i0 : -9223372036854775808 ≤ i) (i1 : i ≤ 9223372036854775807) : Calls Try.prog 18 #[ptr c, .agg #[.int .i64 i, .int .u64 q]] W fun e W' => e = tightAns (tightO r L) ∧ Chg [] W W' := by
  obtain ⟨h1, S, t, h2, h3, h4⟩ := H
  exact Tight_any h2 h3 hU i0 i1
theorem CAt.get (H : CAt w W c M r ch) (hk : (r.pl k).is = true) {g : Int} (hg : (r.pl k).gen = g) : Calls Try.prog 27 #[ptr c, .agg #[.int .i64 (k : Nat), .int .u64 g]] W fun e W' => e = .returned (.tuple #[(r.get ch (k : Nat) g).val, .int .i64 0]) ∧ Chg [] W W' := by
  obtain ⟨h1, S, t, h2, h3, h4⟩ := H
  have hl := is_lt hk
  have hn1 := h3.held.n1
  subst hg
  have := Get_any h2 (k : Nat) (r.pl k).gen (by omega) (by omega)
  have hi := is_pl.2 ⟨k, rfl, hl, hk, rfl⟩
  have hst : staleE t (k : Nat) (r.pl k).gen = 0 := by unfold staleE; rw [h3.has, hi]; rfl
  rw [hst, h3.at_ hi] at this
  exact this
theorem CAt.chain (H : CAt w W c M r ch) (hU : Up r.par i q L) (hL : L.length ≤ 1000) (i0 : -9223372036854775808 ≤ i) (i1 : i ≤ 9223372036854775807) : Calls Try.prog 28 #[ptr c, .agg #[.int .i64 i, .int .u64 q]] W fun e W' => ∃ A cc, e = .returned (.slice A L.length cc) ∧ Row W' 34 2 (.slice A L.length cc) L.length (refCells L) ∧ (∀ k ∈ foot (.slice A L.length cc), W.heap.size ≤ k) ∧ Chg [] W W' := by
  obtain ⟨h1, S, t, h2, h3, h4⟩ := H
  refine (Chain_any h2 (by rw [h3.par]; exact hU) h3.oks.fit (by omega) i0 i1).mono ?_
  rintro e W' ⟨V, rfl, hr, hf, hc⟩
  obtain ⟨A, cc, rfl, _⟩ := hr.val
  exact ⟨A, cc, rfl, hr, hf, hc⟩
theorem CAt.all (H : CAt w W c M r ch) : Calls Try.prog 25 #[ptr c] W fun e W' => ∃ A cc, e = .returned (.slice A (r.all ch).length cc) ∧ Row W' 90 13 (.slice A (r.all ch).length cc) (r.all ch).length (plcCells (r.all ch)) ∧ (∀ k ∈ foot (.slice A (r.all ch).length cc), W.heap.size ≤ k) ∧ Chg [] W W' := by
  obtain ⟨h1, S, t, h2, h3, h4⟩ := H
  exact All_any h2 h3
end
end Go.Proofs
end
section
namespace Go.Proofs
open Go.RowKit Go.Shelf
set_option linter.unusedVariables false
set_option linter.unusedSimpArgs false
/-! ### The chapter's row, plainly -/
abbrev qT0 : Tab Dm := (tab0 ((2 : Nat) : Int)).put dm0 (rootD 4 10 5)
abbrev qR0 : RTab := (rtab0 2).put (rkid 0 0 4 10 5)
abbrev qC0 : Nat → List (Int × Int) := fun _ => [(0, 1)]
abbrev qR1 : RTab := qR0.on 0 1 1 4 5
abbrev qC1 : Nat → List (Int × Int) := chOn qR0 qC0 1 (qC0 0)
abbrev qR2 : RTab := qR1.useN 0 7
abbrev qR3 : RTab := qR2.useN 1 3
abbrev qR4 : RTab := chargeR [(1, 1), (0, 1)] qR3
theorem q0_sim : Sim 1 qT0 qR0 qC0 := Sim.begin (n := 2) (by omega) (by omega) (by omega) (by omega) (by omega) (by omega)
theorem q0_pl : qR0.pl 0 = ⟨1, true, 4, 10, 5, 0, 0, 0, 0⟩ := by rfl
theorem q0_gets : Gets qT0 qR0 1 := by
  obtain ⟨f, hg⟩ := q0_sim.gets (by decide)
  have : f = 1 := by rw [← hg.at0]; decide
  rw [← this]; exact hg
theorem q0_cgs : qR0.cgs 0 1 = 0 ∧ qR0.car 0 1 = 0 := by decide
theorem q1_sim : Sim 2 (carveT qT0 0 1 1 4 5) qR1 qC1 := q0_sim.on (k := 0) (by omega) q0_gets rfl (by rw [q0_pl]) (by rw [q0_pl]) (by omega) (by omega) (by omega) (by omega) (by rw [q0_cgs.1, q0_pl]; decide) (by rw [q0_cgs.2, q0_pl]; decide)
theorem q1_E : carveE qT0 0 1 1 4 5 = 0 := by decide
theorem q1_at : qT0.takeAt = 1 ∧ qT0.genAt 1 = 1 := by decide
theorem q1_pl : (qR1.pl 0).is = true ∧ (qR1.pl 0).gen = 1 ∧ (qR1.pl 1).is = true ∧ (qR1.pl 1).gen = 1 := by decide
theorem q2_pl : (qR2.pl 0).is = true ∧ (qR2.pl 0).gen = 1 ∧ (qR2.pl 1).is = true ∧ (qR2.pl 1).gen = 1 := by decide
theorem q3_pl : (qR3.pl 0).is = true ∧ (qR3.pl 0).gen = 1 ∧ (qR3.pl 1).is = true ∧ (qR3.pl 1).gen = 1 := by decide
theorem q4_pl : (qR4.pl 0).is = true ∧ (qR4.pl 0).gen = 1 ∧ (qR4.pl 1).is = true ∧ (qR4.pl 1).gen = 1 := by decide
theorem q_ch : qC1 1 = [(1, 1), (0, 1)] ∧ qC1 0 = [(0, 1)] := by decide
theorem q3_left : leftR qR3 [(1, 1), (0, 1)] = 1 := by decide
theorem q4_left : leftR qR4 [(1, 1), (0, 1)] = 0 ∧ leftR qR4 [(0, 1)] = 2 := by decide
section
variable {w W : World} {c M : Nat} {r : RTab}
/-- Both chains, told of whatever has the same parents. -/
theorem q_up (h : r.Held M qC1) (h1 : (r.pl 0).is = true ∧ (r.pl 0).gen = 1 ∧ (r.pl 1).is = true ∧ (r.pl 1).gen = 1) : Up r.par 1 1 [(1, 1), (0, 1)] ∧ Up r.par 0 1 [(0, 1)] := by
  have a := (h.chs 1 h1.2.2.1).1
  have b := (h.chs 0 h1.1).1
  rw [h1.2.2.2, q_ch.1] at a
  rw [h1.2.1, q_ch.2] at b
  exact ⟨a, b⟩
end
set_option maxRecDepth 100000 in
set_option maxHeartbeats 3200000 in
/-- **known**: the chapter's row. -/
theorem known_any (w : World) : Calls Try.prog 9 #[] w fun e w' => e = .returned (.bool true) ∧ Chg [] w w' := by
  have HN : Hid (∀ W, Chg [] w W → Calls Try.prog 30 #[.int .i64 2, .int .i64 4, .int .u64 10, .int .u64 5] W fun e W' => ∃ c, e = .returned (.tuple #[ptr c, .int .i64 0]) ∧ ∃ S, Chg [] w W' ∧ DomAt W' c S qT0 ∧ (∀ k ∈ c :: S, w.heap.size ≤ k)) := Lib.hid (fun W hW => (New_yes W (size := ((2 : Nat) : Int)) (gs := 4) (cpu := 10) (per := 5) (by omega) (by omega) (by decide)).mono (by
    rintro e W' ⟨c, S, rfl, hD, hf, hc⟩
    exact ⟨c, rfl, S, hW.then hc, hD, fun k hk => Nat.le_trans hW.size (hf k hk)⟩))
  have HR0 : Hid (∀ W c S, DomAt W c S qT0 → Calls Try.prog 33 #[ptr c] W fun e W' => e = .returned (.agg #[.int .i64 0, .int .u64 1]) ∧ Chg [] W W') := Lib.hid (fun W c S h => by have := Root_any h; rw [(k_root q0_sim (by rw [q0_pl]) (by rw [q0_pl])).1, (k_root q0_sim (by rw [q0_pl]) (by rw [q0_pl])).2] at this; exact this)
  have HC0 : Hid (∀ W c S, Chg [] w W → DomAt W c S qT0 → (∀ k ∈ c :: S, w.heap.size ≤ k) → Calls Try.prog 34 #[ptr c, .agg #[.int .i64 0, .int .u64 1], .int .i64 1, .int .u64 4, .int .u64 5] W fun e W' => e = refAns 1 1 0 ∧ CAt w W' c 2 qR1 qC1) := Lib.hid (fun W c S h1 h h3 => (Carve_any h q0_sim.oks (i := 0) (q := 1) (gs := 1) (cpu := 4) (per := 5) (by omega) (by omega) (by omega) (by omega)).mono (by
    rintro e W' (⟨hne, _⟩ | ⟨_, rfl, hT⟩)
    · exact absurd q1_E hne
    · obtain ⟨S', a, b, d⟩ := hT
      refine ⟨by rw [q1_at.1, q1_at.2]; rfl, h1.trans d (fun k hk => .inr (h3 k (List.mem_cons_of_mem _ hk))), S', _, a, q1_sim, fun k hk => ?_⟩
      rcases List.mem_cons.1 hk with rfl | hk
      · exact h3 _ List.mem_cons_self
      · exact (b k hk).elim (fun x => h3 k (List.mem_cons_of_mem _ x)) (fun x => Nat.le_trans h1.size x)))
  have HR1 : Hid (∀ W c, CAt w W c 2 qR1 qC1 → Calls Try.prog 33 #[ptr c] W fun e W' => e = .returned (.agg #[.int .i64 0, .int .u64 1]) ∧ Chg [] W W') := Lib.hid (fun W c h => h.root ⟨q1_pl.1, q1_pl.2.1⟩)
  have HU1 : Hid (∀ W c, CAt w W c 2 qR1 qC1 → Calls Try.prog 12 #[ptr c, .agg #[.int .i64 0, .int .u64 1], .int .u64 7] W fun e W' => e = .returned (.int .i64 0) ∧ CAt w W' c 2 qR2 qC1 ∧ Rest w W W' c) := Lib.hid (fun W c h => h.use (k := 0) q1_pl.1 q1_pl.2.1 (by omega) (by omega))
  have HU2 : Hid (∀ W c, CAt w W c 2 qR2 qC1 → Calls Try.prog 12 #[ptr c, .agg #[.int .i64 1, .int .u64 1], .int .u64 3] W fun e W' => e = .returned (.int .i64 0) ∧ CAt w W' c 2 qR3 qC1 ∧ Rest w W W' c) := Lib.hid (fun W c h => h.use (k := 1) q2_pl.2.2.1 q2_pl.2.2.2 (by omega) (by omega))
  have HL : Hid (∀ W c, CAt w W c 2 qR3 qC1 → Calls Try.prog 22 #[ptr c, .agg #[.int .i64 1, .int .u64 1]] W fun e W' => e = .returned (.int .u64 1) ∧ Chg [] W W') := Lib.hid (fun W c h => by have := h.left (q_up h.held q3_pl).1 (by simp) (by omega) (by omega); rw [q3_left] at this; exact this)
  have HCH : Hid (∀ W c, CAt w W c 2 qR3 qC1 → Calls Try.prog 10 #[ptr c, .agg #[.int .i64 1, .int .u64 1]] W fun e W' => e = .returned (.bool true) ∧ CAt w W' c 2 qR4 qC1 ∧ Rest w W W' c) := Lib.hid (fun W c h => by have := h.charge (q_up h.held q3_pl).1 (by simp) (by omega) (by omega); rw [q3_left] at this; exact this)
  have HN4 : Hid (∀ W c, CAt w W c 2 qR4 qC1 → Calls Try.prog 23 #[ptr c, .agg #[.int .i64 1, .int .u64 1]] W fun e W' => e = .returned (.bool false) ∧ Chg [] W W') := Lib.hid (fun W c h => by have := h.can (q_up h.held q4_pl).1 (by simp) (by omega) (by omega); rw [q4_left.1] at this; exact this)
  have HR4 : Hid (∀ W c, CAt w W c 2 qR4 qC1 → Calls Try.prog 33 #[ptr c] W fun e W' => e = .returned (.agg #[.int .i64 0, .int .u64 1]) ∧ Chg [] W W') := Lib.hid (fun W c h => h.root ⟨q4_pl.1, q4_pl.2.1⟩)
  have HY4 : Hid (∀ W c, CAt w W c 2 qR4 qC1 → Calls Try.prog 23 #[ptr c, .agg #[.int .i64 0, .int .u64 1]] W fun e W' => e = .returned (.bool true) ∧ Chg [] W W') := Lib.hid (fun W c h => by have := h.can (q_up h.held q4_pl).2 (by simp) (by omega) (by omega); rw [q4_left.2] at this; exact this)
  go_enter Try.func9, Try.ntmps9
  go_wp2_with (first
    | (go_at_call 30; refine (HN.out _ (Chg.refl _ _)).mono ?_; rintro e w1 ⟨c, rfl, S, h1, h2, h3⟩; have HA := Lib.hid h2; have HA1 := Lib.hid h1; have HA3 := Lib.hid h3; clear h1 h2 h3)
    | (go_at_call 34; refine (HC0.out _ _ _ (HA1.out.then HB0.out) (HA.out.quiet HB0.out) HA3.out).mono ?_; rintro e w3 ⟨rfl, hk⟩; have HB := Lib.hid hk; clear hk)
    | (go_at_call 23; refine (HY4.out _ _ HG.out).mono ?_; rintro e w11 ⟨rfl, hc⟩; have HZ := Lib.hid (HG.out.chg.then hc); clear hc)
    | (go_at_call 33; refine (HR4.out _ _ HF.out).mono ?_; rintro e w10 ⟨rfl, hc⟩; have HG := Lib.hid (HF.out.quiet hc); clear hc)
    | (go_at_call 23; refine (HN4.out _ _ HE.out).mono ?_; rintro e w9 ⟨rfl, hc⟩; have HF := Lib.hid (HE.out.quiet hc); clear hc)
    | (go_at_call 10; refine (HCH.out _ _ HL3.out).mono ?_; rintro e w8 ⟨rfl, hk, hr⟩; have HE := Lib.hid hk; have hb8 := hr.blk HBX7.out; have b0 := hb8.cell 0; have b1 := hb8.cell 1; have lb := hb8.lt; clear hk hr)
    | (go_at_call 22; refine (HL.out _ _ HD2.out).mono ?_; rintro e w7 ⟨rfl, hc⟩; have HL3 := Lib.hid (HD2.out.quiet hc); have hb7 := HBX6.out.chg hc (by simp); have HBX7 := Lib.hid hb7; have b0 := hb7.cell 0; have b1 := hb7.cell 1; have lb := hb7.lt; clear hc)
    | (go_at_call 12; refine (HU2.out _ _ HD1.out).mono ?_; rintro e w6 ⟨rfl, hk, hr⟩; have HD2 := Lib.hid hk; have hb6 := hr.blk HBX5.out; have HBX6 := Lib.hid hb6; have b0 := hb6.cell 0; have b1 := hb6.cell 1; have lb := hb6.lt; clear hk hr)
    | (go_at_call 12; refine (HU1.out _ _ HB2.out).mono ?_; rintro e w5 ⟨rfl, hk, hr⟩; have HD1 := Lib.hid hk; have hb5 := hr.blk HBX4.out; have HBX5 := Lib.hid hb5; have b0 := hb5.cell 0; have b1 := hb5.cell 1; have lb := hb5.lt; clear hk hr)
    | (go_at_call 33; refine (HR1.out _ _ (HB.out.quiet ((Chg.refl [] w3).alloc (.cells #[.int .i64 1, .int .u64 1] 34)))).mono ?_; rintro e w4 ⟨rfl, hc⟩; have HB2 := Lib.hid ((HB.out.quiet ((Chg.refl [] w3).alloc (.cells #[.int .i64 1, .int .u64 1] 34))).quiet hc); have hb4 := (Blk.new w3 34 #[.int .i64 1, .int .u64 1]).chg hc (by simp); have HBX4 := Lib.hid hb4; have b0 := hb4.cell 0; have b1 := hb4.cell 1; have lb := hb4.lt; clear hc)
    | (go_at_call 33; refine (HR0.out _ _ _ HA.out).mono ?_; rintro e w2 ⟨rfl, hc⟩; have HB0 := Lib.hid hc; clear hc))
  go_ret
  exact ⟨rfl, HZ.out⟩
end Go.Proofs
end
