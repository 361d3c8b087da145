import Derived.Test.YtfbelpbfmafjdaaArT
namespace Go.Proofs
open Go.RowKit
set_option linter.unusedVariables false

/-- A slice of ints: what its cells are. -/
theorem nums_at {w : World} {A : Option Addr} {c : Nat} {l : List Nat} (h : Row w 3 1 (.slice A l.length c) l.length (numCells l)) (hl : l ≠ []) :
    ∃ gn, A = some ⟨gn, 0, none⟩ ∧ gn < w.heap.size ∧ ∀ k i, l[k]? = some i → w.cell? ⟨gn, k, none⟩ = some (.int .i64 (i : Nat)) := by
  obtain ⟨g, cap, hv, _, _, hcell, _, hlt⟩ := h.form (by cases l with | nil => exact absurd rfl hl | cons a b => simp)
  simp only [Value.slice.injEq] at hv
  exact ⟨g, hv.1, hlt, fun k i hi => hcell k _ (by unfold numCells; rw [List.getElem?_map, hi]; rfl)⟩
theorem frees_lt {r : RTab} {i : Nat} (h : i ∈ r.frees) : i < r.L.length := ((mem_freeL r.L _ i).1 h).1

set_option maxHeartbeats 1600000 in
set_option maxRecDepth 100000 in
theorem rput_ok {w : World} {h : Nat} {S : List Nat} {r : RTab} (hr : RefAt w h S r) (hn : r.L.length ≤ 4096) (x : Int) (hf : r.frees ≠ []) :
    Calls Try.prog 33 #[.pointer (some ⟨h, 0, none⟩), .int .i64 x] w fun e w' => e = .returned (.tuple #[.agg #[.int .i64 (r.pick : Nat), .int .u64 (r.genAt r.pick)], .int .i64 0]) ∧ RTurns h S (r.put x) w w' := by
  have HA := fun w' h' => rfree_any (w := w') (h := h) (S := S) (r := r) h' hn
  obtain ⟨L, hL⟩ : ∃ L, L = r.frees := ⟨_, rfl⟩
  have hpm := pickL_mem r.L r.frees hf
  have hlen : 0 < r.frees.length := by cases h : r.frees with | nil => exact absurd h hf | cons a b => simp
  have hfl : r.frees.length ≤ r.L.length := freeL_len _ _
  have e0 : freeL r.L r.L.length = r.frees := rfl
  rw [e0, ← hL] at HA
  have hr0 := hr
  obtain ⟨VL, hB, hLr, hSS⟩ := hr
  obtain ⟨gl, cl, rfl, _, hcl, hcell, hfz, lgl⟩ := hLr.form (by omega)
  have lh := hB.lt
  have hpos : ∀ i, i < r.L.length → ∃ p, r.L[i]? = some p ∧ w.cell? ⟨gl, i * 5, none⟩ = some (.int .u64 p.gen) ∧ w.cell? ⟨gl, i * 5 + 1, none⟩ = some (.bool p.there) ∧ w.cell? ⟨gl, i * 5 + 3, none⟩ = some (.int .i64 p.x) ∧ w.cell? ⟨gl, i * 5 + 4, none⟩ = some (.int .i64 (frAt r.L i)) := fun i hi => by
    have hp := List.getElem?_eq_getElem hi
    obtain ⟨h0, h1, h2, h3, h4⟩ := plCells_at r.L i _ hp
    exact ⟨_, hp, hcell _ _ h0, hcell _ _ h1, hcell _ _ h3, by rw [hcell _ _ h4]; unfold frAt; rw [hp]⟩
  obtain ⟨pp, hpp, b0, b1, b3, b4⟩ := hpos r.pick (frees_lt (hpm _))
  have hgen : r.genAt r.pick = pp.gen := by unfold RTab.genAt; rw [hpp]
  have hput : r.put x = { r with L := r.L.set r.pick { pp with there := true, x := x } } := by unfold RTab.put; rw [hpp]
  rw [hgen, hput]
  have HT := fun (w1 : World) (hc : Chg [] w w1) => RefAt.come (w := w) (hB.chg hc (by simp)) (hLr.chg hc (fun _ _ h => by cases h)) hpp x hc
  have hSub := hr0.lt
  obtain ⟨m, hm⟩ : ∃ m, m = r.frees.length := ⟨_, rfl⟩
  obtain ⟨n, hnn⟩ : ∃ n, n = r.L.length := ⟨_, rfl⟩
  have hlh : (h : Nat) ≠ gl := by have := hLr.ty hB (by decide); simpa [foot_some] using this
  have a0 := hB.cell 0
  rw [← hnn] at a0 hn hpos
  rw [← hm, ← hnn] at hfl
  rw [← hm] at hlen
  have HNN := Lib.hid hnn
  have HMM := Lib.hid hm
  have HLL := Lib.hid hL
  have HPOS := Lib.hid hpos
  have HTT := Lib.hid HT
  have HPM := Lib.hid hpm
  have HSU := Lib.hid hSub
  have HSS := Lib.hid hSS
  have f1 := hfz (r.pick * 5 + 1)
  have f3 := hfz (r.pick * 5 + 3)
  obtain ⟨q, hq⟩ : ∃ q, q = r.pick := ⟨_, rfl⟩
  rw [← hq] at b0 b1 b3 b4 f1 f3 hpp
  have hqn : q < n := by rw [hq, hnn]; exact frees_lt (hpm _)
  have HQ := Lib.hid hq
  obtain ⟨G, hG⟩ : ∃ G, G = pp.gen := ⟨_, rfl⟩
  rw [← hG] at b0
  have HG := Lib.hid hG
  rw [← hq, ← hG]
  have HPP := Lib.hid hpp
  clear hB hLr hSS hcell hfz hpos hpm HT hSub hgen hput hf hm hnn hL e0 hq hpp hG
  have hzi : ((m : Int) == 0) = false := by simp; omega
  go_enter Try.func33, Try.ntmps33
  go_wp2_with (go_at_call 32; refine (HA _ (hr0.quiet ((Chg.refl _ _).alloc _))).mono ?_; rintro e w1 ⟨A, c, rfl, hv, hfoot, hc1⟩; have eL : L.length = m := (by rw [HLL.out, HMM.out]); obtain ⟨gn, rfl, lgn, hnum⟩ := nums_at hv (by intro e9; rw [e9] at eL; simp at eL; omega); rw [eL] at hv hfoot ⊢; have hz : w.heap.size < w1.heap.size := (by have := hc1.size; simp at this; omega); have hb := ((Blk.new w 36 #[.int .i64 0, .int .u64 0]).chg hc1 (by simp)); have k0 := hb.cell 0; have k1 := hb.cell 1; have q0 := hb.frozen 0; have q1 := hb.frozen 1; have hcc := ((Chg.refl [] w).alloc (.cells #[.int .i64 0, .int .u64 0] 36)).then hc1; have s0 := (hcc.cell (p := ⟨h, 0, none⟩) lh (by simp)).trans a0; have HCC := Lib.hid hcc; have HNU := Lib.hid hnum; have n0 : w1.cell? ⟨gn, 0, none⟩ = some (.int .i64 ((L[0]?.getD 0 : Nat) : Int)) := (by cases e8 : L with | nil => rw [e8] at eL; simp at eL; omega | cons a b => rw [hnum 0 a (by rw [e8]; rfl)]; rfl); have hz0 : (m == 0) = false := (by simp; omega); have eLL := Lib.hid eL; clear hcc hv hfoot hnum hc1 eL hb)
  have g1 : ∀ b o, b < w.heap.size → w1.cell? ⟨b, o, none⟩ = w.cell? ⟨b, o, none⟩ := fun b o hb => HCC.out.cell (p := ⟨b, o, none⟩) hb (by simp)
  have G1 := Lib.hid g1
  clear g1
  go_loopw [7, 8] (fun v i wr => ∃ (k nd : Nat), k ≤ m ∧ i = .int .i64 k ∧ v = .int .i64 ((pickL r.L L k : Nat) : Int) ∧ wr = w1.drewN nd) (fun _ i wr => m - (intOf i).toNat)
  case atStart => exact ⟨0, 0, Nat.zero_le _, rfl, by cases h8 : L <;> simp [pickL], rfl⟩
  case round =>
    obtain ⟨k, nd, hk, rfl, rfl, rfl⟩ := hrel
    by_cases hlt : k < m
    · obtain ⟨li, hli⟩ : ∃ li, L[k]? = some li := ⟨_, List.getElem?_eq_getElem (by rw [eLL.out]; exact hlt)⟩
      have hmem : li ∈ r.frees := by rw [← HLL.out]; exact List.mem_of_getElem? hli
      have c1 := HNU.out k li hli
      have l1 : li < n := by rw [HNN.out]; exact frees_lt hmem
      have l2 : pickL r.L L k < n := by rw [HNN.out, HLL.out]; exact frees_lt (HPM.out k)
      obtain ⟨_, _, _, _, _, c2⟩ := HPOS.out li l1
      obtain ⟨_, _, _, _, _, c3⟩ := HPOS.out _ l2
      have c2' := (G1.out _ _ lgl).trans c2
      have c3' := (G1.out _ _ lgl).trans c3
      have hs := Lib.hid (pickL_succ r.L L k li hli)
      obtain ⟨a, ha⟩ : ∃ a, a = pickL r.L L k := ⟨_, rfl⟩
      rw [← ha] at c3' l2 ⊢
      obtain ⟨fa, hfa⟩ : ∃ fa, fa = frAt r.L a := ⟨_, rfl⟩
      obtain ⟨fl, hfl2⟩ : ∃ fl, fl = frAt r.L li := ⟨_, rfl⟩
      rw [← hfa] at c3'
      rw [← hfl2] at c2'
      have i0 : (0 : Int) ≤ (k : Int) := by omega
      have i1 : (k : Int) < (m : Int) := by omega
      have i2 : (0 : Int) ≤ (li : Int) := by omega
      have i3 : (li : Int) < (n : Int) := by omega
      have i4 : (0 : Int) ≤ (a : Int) := by omega
      have i5 : (a : Int) < (n : Int) := by omega
      have HA' := Lib.hid ha
      have HFA := Lib.hid hfa
      have HFL := Lib.hid hfl2
      clear hli hmem c2 c3 ha hfa hfl2 b0 b1 b3 b4 f1 f3
      by_cases hgt : fa < fl
      · go_wp2
        go_quiet (fail)
        go_wp2
        go_roundw
        case rel => exact ⟨k + 1, _, by omega, by go_num, by rw [hs.out]; unfold better; rw [if_pos (by rw [← HA'.out, ← HFA.out, ← HFL.out]; exact hgt)], rfl⟩
        case measure => simp [intOf]; omega
      · go_wp2
        go_quiet (fail)
        go_wp2
        go_roundw
        case rel => exact ⟨k + 1, _, by omega, by go_num, by rw [hs.out]; unfold better; rw [if_neg (by rw [← HA'.out, ← HFA.out, ← HFL.out]; omega), HA'.out], rfl⟩
        case measure => simp [intOf]; omega
    · obtain rfl : k = m := by omega
      have hpk : pickL r.L L k = q := by rw [HQ.out, HLL.out, HMM.out]; rfl
      rw [hpk]
      have c0 := (G1.out _ _ lgl).trans b0
      have c1 := (G1.out _ _ lgl).trans b1
      have c3 := (G1.out _ _ lgl).trans b3
      have d1 := (HCC.out.frozen (p := ⟨gl, q * 5 + 1, none⟩) lgl (by simp)).trans f1
      have d3 := (HCC.out.frozen (p := ⟨gl, q * 5 + 3, none⟩) lgl (by simp)).trans f3
      have i4 : (0 : Int) ≤ (q : Int) := by omega
      have i5 : (q : Int) < (n : Int) := by omega
      have j1 : gl ≠ w.heap.size := by omega
      have j2 : h ≠ w.heap.size := by omega
      have HI := Lib.hid hpk
      clear b0 b1 b3 b4 f1 f3 hpk
      go_wp2
      refine bodyPost_ret (v := .tuple #[.agg #[.int .i64 (q : Nat), .int .u64 G], .int .i64 0]) (by simp [results, Try.results33, go_sem, *]) rfl ⟨rfl, ?_⟩
      have hX := HTT.out (w1.drewN nd) (HCC.out.drewN nd)
      rw [← HSS.out, ← HQ.out, ← HG.out] at hX
      exact RTurns.box hX.1 hX.2 HSU.out _ _
end Go.Proofs
