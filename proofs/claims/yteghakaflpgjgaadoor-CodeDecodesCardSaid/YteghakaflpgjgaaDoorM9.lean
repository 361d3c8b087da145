import Derived.Test.YteghakaflpgjgaaDoorM8
import Derived.StillTailTactics
import Derived.Deep.RegionWith
section
namespace Go.Proofs
open Go.RowKit
set_option linter.unusedVariables false
set_option linter.unusedSimpArgs false

set_option maxHeartbeats 4000000 in
set_option maxRecDepth 100000 in
theorem rdecode_any (V : Value) (l : List UInt8) (hl : l.length ≤ 100000) (pc : Int) (h0 : -9223372036854775808 ≤ pc) (h1 : pc ≤ 9223372036854775807) (w : World) (h : By w V l) :
    Calls Tryd.prog 11 #[V, .int .i64 pc] w fun e w' => e = .returned (.tuple #[(decodeP l pc).1.val, .int .i64 (decodeP l pc).2]) ∧ Below w.heap.size w w' := by
  obtain ⟨A, c, rfl, hc1, hc2⟩ := h.val
  have hz : Ins.zero.val = .agg #[.int .u8 0, .int .u8 0, .int .u8 0, .int .u8 0] := rfl
  have hb0 := (Below.refl w.heap.size w).alloc (Nat.le_refl _) (.cells #[.int .u8 0, .int .u8 0, .int .u8 0, .int .u8 0] 26)
  obtain ⟨n, hn⟩ : ∃ n, n = l.length := ⟨_, rfl⟩
  by_cases hA : 0 ≤ pc ∧ 4 * pc = l.length
  · have hd : decodeP l pc = (Ins.zero, 4) := if_pos hA
    rw [hd]
    simp only [hz]
    rw [← hn] at hA hc1 hl ⊢
    obtain ⟨hA1, hA2⟩ := hA
    have e1 : pc < 1000000000 := by omega
    have e2 : (4 * pc == (n : Int)) = true := by simpa using hA2
    clear h hd hn hA2
    go_enter Tryd.func11, Tryd.ntmps11
    go_wp2
    exact bodyPost_ret (v := .tuple #[.agg #[.int .u8 0, .int .u8 0, .int .u8 0, .int .u8 0], .int .i64 4]) (by simp [results, Tryd.results11, go_sem]) rfl ⟨rfl, hb0⟩
  · by_cases hB : pc < 0 ∨ (l.length : Int) < 4 * pc + 4
    · have hd : decodeP l pc = (Ins.zero, 7) := by unfold decodeP; rw [if_neg hA, if_pos hB]
      rw [hd]
      simp only [hz]
      rw [← hn] at hA hB hc1 hl ⊢
      rcases Int.lt_or_le pc 0 with hp | hp
      · clear h hd hn hA hB
        have e1 : ¬ 0 ≤ pc := by omega
        go_enter Tryd.func11, Tryd.ntmps11
        go_wp2
        exact bodyPost_ret (v := .tuple #[.agg #[.int .u8 0, .int .u8 0, .int .u8 0, .int .u8 0], .int .i64 7]) (by simp [results, Tryd.results11, go_sem]) rfl ⟨rfl, hb0⟩
      · have e3 : ¬ pc < 0 := by omega
        by_cases hbig : 1000000000 ≤ pc
        · have e1 : ¬ pc < 1000000000 := by omega
          clear h hd hn hA hB
          go_enter Tryd.func11, Tryd.ntmps11
          go_wp2
          exact bodyPost_ret (v := .tuple #[.agg #[.int .u8 0, .int .u8 0, .int .u8 0, .int .u8 0], .int .i64 7]) (by simp [results, Tryd.results11, go_sem]) rfl ⟨rfl, hb0⟩
        · have e1 : pc < 1000000000 := by omega
          have e2 : (4 * pc == (n : Int)) = false := by simp; omega
          have e4 : (n : Int) < 4 * pc + 4 := by omega
          clear h hd hn hA hB
          go_enter Tryd.func11, Tryd.ntmps11
          go_wp2
          exact bodyPost_ret (v := .tuple #[.agg #[.int .u8 0, .int .u8 0, .int .u8 0, .int .u8 0], .int .i64 7]) (by simp [results, Tryd.results11, go_sem]) rfl ⟨rfl, hb0⟩
    · obtain ⟨k, rfl⟩ : ∃ k : Nat, pc = (k : Int) := ⟨pc.toNat, by omega⟩
      have hk4 : 4 * k + 4 ≤ l.length := by omega
      have hd : decodeP l k = if (insAt l k).is then (insAt l k, 0) else (Ins.zero, 7) := by unfold decodeP; rw [if_neg hA, if_neg hB]; rfl
      obtain ⟨g, off, c', e, _, _, hlt, hcell⟩ := h.open_ (by omega)
      injection e with e' e2 e3
      subst e' e3
      have gj : ∀ (j : Nat) (hj : j < 4), l[4 * k + j]? = some (l.getD (4 * k + j) 0) := fun j hj => by
        rw [List.getElem?_eq_getElem (show 4 * k + j < l.length by omega)]
        simp [List.getD, List.getElem?_eq_getElem (show 4 * k + j < l.length by omega)]
      obtain ⟨x, hx⟩ : ∃ x, x = insAt l k := ⟨_, rfl⟩
      have hq := fun W (hb : Below w.heap.size w W) (j : Nat) (hj : j < 4) => (hb.cell (p := ⟨g, off + (4 * k + j), none⟩) hlt).trans (hcell (4 * k + j) _ (gj j hj))
      have q0 : ∀ W, Below w.heap.size w W → W.cell? ⟨g, off + 4 * k, none⟩ = some (.int .u8 x.o.toNat) := fun W hb => by rw [hx]; exact hq W hb 0 (by omega)
      have q1 : ∀ W, Below w.heap.size w W → W.cell? ⟨g, off + (4 * k + 1), none⟩ = some (.int .u8 x.a.toNat) := fun W hb => by rw [hx]; exact hq W hb 1 (by omega)
      have q2 : ∀ W, Below w.heap.size w W → W.cell? ⟨g, off + (4 * k + 2), none⟩ = some (.int .u8 x.b.toNat) := fun W hb => by rw [hx]; exact hq W hb 2 (by omega)
      have q3 : ∀ W, Below w.heap.size w W → W.cell? ⟨g, off + (4 * k + 3), none⟩ = some (.int .u8 x.c.toNat) := fun W hb => by rw [hx]; exact hq W hb 3 (by omega)
      rw [← hx] at hd
      rw [hd]
      rw [← hn] at hc1 hl hk4 ⊢
      obtain ⟨D, hD⟩ : ∃ D : Ins × Int, D = if x.is = true then (x, 0) else (Ins.zero, 7) := ⟨_, rfl⟩
      rw [← hD]
      obtain ⟨dy, de⟩ := D
      have hDH := Lib.hid hD
      obtain ⟨K, hK⟩ : ∃ K : Int, K = (k : Int) := ⟨_, rfl⟩
      rw [← hK] at hA hB h0 h1 ⊢
      have a0 : 4 * k = (4 * K).toNat := by omega
      have a1 : 4 * k + 1 = (4 * K + 1).toNat := by omega
      have a2 : 4 * k + 2 = (4 * K + 2).toNat := by omega
      have a3 : 4 * k + 3 = (4 * K + 3).toNat := by omega
      rw [a1] at q1
      rw [a2] at q2
      rw [a3] at q3
      rw [a0] at q0
      obtain ⟨W0, hW0⟩ : ∃ W0, W0 = w.alloc (.cells #[.int .u8 0, .int .u8 0, .int .u8 0, .int .u8 0] 26) := ⟨_, rfl⟩
      have hres : Blk W0 w.heap.size 26 #[.int .u8 0, .int .u8 0, .int .u8 0, .int .u8 0] := by rw [hW0]; exact Blk.new w 26 _
      have hs0 : W0.heap.size = w.heap.size + 1 := by rw [hW0]; simp
      rw [← hW0] at hb0
      have hW0H := Lib.hid hW0
      clear hW0
      have hbA := below_drew hb0
      have hbB := below_drew (hb0.alloc (by omega) (.cells #[.int .u8 0, .int .u8 0, .int .u8 0, .int .u8 0] 26))
      have c0 := q0 _ hbA
      have c1 := q1 _ hbA
      have c2 := q2 _ hbA
      have c3 := q3 _ hbA
      have d0 := q0 _ hbB
      have d1 := q1 _ hbB
      have d2 := q2 _ hbB
      have d3 := q3 _ hbB
      have e1 : (4 * K == (n : Int)) = false := by simp; omega
      have e2 : ¬ ((n : Int) < 4 * K + 4) := by omega
      have e4 : K < 1000000000 := by omega
      have e5 : 4 * K + 3 < (n : Int) := by omega
      have e6 : 0 ≤ K := by omega
      clear h hd hn hA hB hx hD hcell gj hq hK a0 a1 a2 a3 hk4 q0 q1 q2 q3 hbA hbB
      go_enter Tryd.func11, Tryd.ntmps11
      go_wp2
      rw [← hW0H.out]
      go_region
      obtain ⟨W1, hW1⟩ : ∃ W1, W1 = (W0.alloc (.cells x.arr 26)).drew := ⟨_, rfl⟩
      have hb1 : Below w.heap.size w W1 := by rw [hW1]; exact below_drew (hb0.alloc (by omega) _)
      have hx1 : Blk W1 (w.heap.size + 1) 26 x.arr := by rw [hW1, ← hs0]; exact (Blk.new W0 26 x.arr).drew
      have hr1 : Blk W1 w.heap.size 26 #[.int .u8 0, .int .u8 0, .int .u8 0, .int .u8 0] := by rw [hW1]; exact (hres.alloc _).drew
      rw [← hW1]
      have x0 := hx1.cell 0
      have x1 := hx1.cell 1
      have x2 := hx1.cell 2
      have x3 := hx1.cell 3
      simp only [List.getElem?_toArray, List.getElem?_cons_zero, List.getElem?_cons_succ] at x0 x1 x2 x3
      have hI : ∀ W, Calls Tryd.prog 25 #[.agg x.arr] W fun e w' => e = .returned (.bool x.is) ∧ Below W.heap.size W w' := fun W => ris_any x W
      have hxH := Lib.hid hx1
      have hrH := Lib.hid hr1
      clear hW1 hx1 hr1 hres hs0 c0 c1 c2 c3 d0 d1 d2 d3 hb0
      cases his : x.is
      · rw [his] at hI
        have hD : dy = Ins.zero ∧ de = 7 := by
          have q := hDH.out
          rw [if_neg (by rw [his]; decide)] at q
          exact Prod.mk.inj q
        go_wp2_with (go_at_call 25; refine (hI _).mono ?_; rintro e w2 ⟨rfl, hb2⟩
                     have hb6 := hb1.trans (hb2.mono hb1.size)
                     have r := hrH.out.below hb2
                     have r0 := r.cell 0
                     have r1 := r.cell 1
                     have r2 := r.cell 2
                     have r3 := r.cell 3
                     have f0 := r.frozen 0
                     have f1 := r.frozen 1
                     have f2 := r.frozen 2
                     have f3 := r.frozen 3
                     have rH := Lib.hid r
                     simp only [List.getElem?_toArray, List.getElem?_cons_zero, List.getElem?_cons_succ] at r0 r1 r2 r3
                     clear r)
        have q : ∀ i, ((((w2.setCell ⟨w.heap.size, 0, none⟩ (.int .u8 0)).setCell ⟨w.heap.size, 1, none⟩ (.int .u8 0)).setCell ⟨w.heap.size, 2, none⟩ (.int .u8 0)).setCell ⟨w.heap.size, 3, none⟩ (.int .u8 0)).cell? ⟨w.heap.size, i, none⟩ = (#[Value.int .u8 0, .int .u8 0, .int .u8 0, .int .u8 0] : Array Value)[i]? := fun i => (putIns_at (y := Ins.zero) rH.out Ins.zero).cell i
        have q0 := q 0
        have q1 := q 1
        have q2 := q 2
        have q3 := q 3
        simp only [List.getElem?_toArray, List.getElem?_cons_zero, List.getElem?_cons_succ] at q0 q1 q2 q3
        have hbE := putIns_below hb6 (Nat.le_refl _) Ins.zero
        obtain ⟨rfl, rfl⟩ := hD
        refine bodyPost_ret (v := .tuple #[Ins.zero.val, .int .i64 7]) ?_ rfl ⟨rfl, hbE⟩
        simp [results, Tryd.results11, go_sem, q0, q1, q2, q3, hz]
      · rw [his] at hI
        have hD : dy = x ∧ de = 0 := by
          have q := hDH.out
          rw [if_pos his] at q
          exact Prod.mk.inj q
        go_wp2_with (go_at_call 25; refine (hI _).mono ?_; rintro e w2 ⟨rfl, hb2⟩
                     have hb6 := hb1.trans (hb2.mono hb1.size)
                     have z := hxH.out.below hb2
                     have z0 := z.cell 0
                     have z1 := z.cell 1
                     have z2 := z.cell 2
                     have z3 := z.cell 3
                     have r := hrH.out.below hb2
                     have r0 := r.cell 0
                     have r1 := r.cell 1
                     have r2 := r.cell 2
                     have r3 := r.cell 3
                     have f0 := r.frozen 0
                     have f1 := r.frozen 1
                     have f2 := r.frozen 2
                     have f3 := r.frozen 3
                     have rH := Lib.hid r
                     simp only [List.getElem?_toArray, List.getElem?_cons_zero, List.getElem?_cons_succ] at r0 r1 r2 r3 z0 z1 z2 z3
                     clear r z)
        have q : ∀ i, ((((w2.setCell ⟨w.heap.size, 0, none⟩ (.int .u8 x.o.toNat)).setCell ⟨w.heap.size, 1, none⟩ (.int .u8 x.a.toNat)).setCell ⟨w.heap.size, 2, none⟩ (.int .u8 x.b.toNat)).setCell ⟨w.heap.size, 3, none⟩ (.int .u8 x.c.toNat)).cell? ⟨w.heap.size, i, none⟩ = x.arr[i]? := fun i => (putIns_at (y := Ins.zero) rH.out x).cell i
        have q0 := q 0
        have q1 := q 1
        have q2 := q 2
        have q3 := q 3
        simp only [List.getElem?_toArray, List.getElem?_cons_zero, List.getElem?_cons_succ] at q0 q1 q2 q3
        have hbE := putIns_below hb6 (Nat.le_refl _) x
        obtain ⟨rfl, rfl⟩ := hD
        refine bodyPost_ret (v := .tuple #[dy.val, .int .i64 0]) ?_ rfl ⟨rfl, hbE⟩
        simp [results, Tryd.results11, go_sem, q0, q1, q2, q3, Ins.val]
end Go.Proofs
end
section
namespace Go.Proofs
open Go.RowKit
set_option linter.unusedVariables false
set_option linter.unusedSimpArgs false

/-! ### The document's numbers -/
theorem one_by (w : World) (n : Nat) (h : n < 256) : By (w.alloc (.cells #[.int .u8 (n : Int)] 5)) (.slice (some ⟨w.heap.size, 0, none⟩) 1 1) [UInt8.ofNat n] := by
  have := Cs.new w (bys [UInt8.ofNat n]) 5 1 (by unfold maxLen; omega)
  have e : bys [UInt8.ofNat n] = [.int .u8 (n : Int)] := by
    show [Value.int .u8 ((UInt8.ofNat n).toNat : Int)] = _
    rw [UInt8.toNat_ofNat', Nat.mod_eq_of_lt h]
  unfold By
  rw [e] at this ⊢
  exact this
theorem decDigits_small {n : Nat} (h : n < 10) : Lib.decDigits n = [UInt8.ofNat (48 + n)] := by rw [Lib.decDigits, dif_pos h]
theorem decDigits_big {n : Nat} (h : ¬ n < 10) : Lib.decDigits n = Lib.decDigits (n / 10) ++ [UInt8.ofNat (48 + n % 10)] := by rw [Lib.decDigits, dif_neg h]
theorem digits_len {n : Nat} (h : n < 18446744073709551616) : (Lib.decDigits n).length ≤ 20 := by rw [Lib.decDigits_length]; exact Lib.nDigits_le20 n h
set_option maxHeartbeats 1000000 in
set_option maxRecDepth 100000 in
theorem big_any (n : Nat) : ∀ (hn : n < 18446744073709551616) (w : World), Calls Tryd.prog 58 #[.int .u64 (n : Int)] w fun e w' => e = .returned (.string ⟨(Lib.decDigits n).toArray⟩) ∧ Below w.heap.size w w' := by
  induction n using Nat.strongRecOn with
  | _ n ih =>
    intro hn w
    obtain ⟨N, hN⟩ : ∃ N : Int, N = (n : Int) := ⟨_, rfl⟩
    by_cases h : n < 10
    · have hc := conv_bytes (one_by w (48 + n) (by omega))
      rw [show ((48 + n : Nat) : Int) = 48 + N by omega] at hc
      rw [decDigits_small h, ← hN]
      obtain ⟨d, hd⟩ : ∃ d, d = UInt8.ofNat (48 + n) := ⟨_, rfl⟩
      rw [← hd] at hc ⊢
      have h1 : N < 10 := by omega
      have h0 : 0 ≤ N := by omega
      clear hN ih hn h hd
      go_enter Tryd.func58, Tryd.ntmps58
      go_wp2
      go_ret
      exact ⟨rfl, (Below.refl _ _).alloc (Nat.le_refl _) _⟩
    · have ih' := ih (n / 10) (by omega) (by omega)
      obtain ⟨sB, hsB⟩ : ∃ sB : ByteArray, sB = ⟨(Lib.decDigits (n / 10)).toArray⟩ := ⟨_, rfl⟩
      have hz : sB.size ≤ 20 := by rw [hsB, str_size]; exact digits_len (by omega)
      have hby := fun W => one_by W (48 + n % 10) (by omega)
      obtain ⟨d, hd⟩ : ∃ d, d = UInt8.ofNat (48 + n % 10) := ⟨_, rfl⟩
      obtain ⟨dB, hdB⟩ : ∃ dB : ByteArray, dB = ⟨[d].toArray⟩ := ⟨_, rfl⟩
      have hz2 : dB.size ≤ 1 := by rw [hdB, str_size]; simp
      have hres : sB ++ dB = ⟨(Lib.decDigits n).toArray⟩ := by rw [hsB, hdB, str_append, decDigits_big h, ← hd]
      rw [← hsB] at ih'
      rw [← hd] at hby
      rw [← hN, ← hres]
      have q1 : ((n / 10 : Nat) : Int) = N / 10 := by omega
      rw [q1] at ih'
      have q2 : ((48 + n % 10 : Nat) : Int) = 48 + N % 10 := by omega
      simp only [q2] at hby
      have hcv : ∀ W, By W (.slice (some ⟨w.heap.size, 0, none⟩) 1 1) [d] → (convert 22 9 (.slice (some ⟨w.heap.size, 0, none⟩) 1 1)).run Tryd.prog W = .ok (.string dB) W := fun W hW => by rw [hdB]; exact conv_bytes hW
      have hcw := fun W => conv_bytes (hby W)
      rw [show ({ data := [d].toArray } : ByteArray) = dB from hdB.symm] at hcw
      have h1 : 10 ≤ N := by omega
      have h2 : N < 18446744073709551616 := by omega
      have h3 : ¬ N < 10 := by omega
      have hby0 : By (w.alloc (.cells #[.int .u8 (48 + N % 10)] 5)).drew (.slice (some ⟨w.heap.size, 0, none⟩) 1 1) [d] := (hby w).below (below_drew (Below.refl _ _))
      have hc0 := hcv _ hby0
      have hbyH := Lib.hid hby0
      have hbyH2 := Lib.hid hby
      have f1 : IntKind.u64.wrap (N.tdiv 10) = N / 10 := by rw [Int.tdiv_eq_ediv_of_nonneg (by omega), IntKind.wrap_u64]; omega
      have f2 : IntKind.u64.wrap (48 + N.tmod 10) = 48 + N % 10 := by rw [Int.tmod_eq_emod_of_nonneg (by omega), IntKind.wrap_u64]; omega
      have f3 : IntKind.u8.wrap (48 + N % 10) = 48 + N % 10 := by rw [IntKind.wrap_u8]; omega
      have ihA := ih' w.drew
      have ihB := ih' (w.alloc (.cells #[.int .u8 (48 + N % 10)] 5)).drew
      clear hN ih hn h hd hdB hsB hres q1 q2 hby0 hby ih' hbyH2
      go_enter Tryd.func58, Tryd.ntmps58
      go_wp2
      go_region_with (go_at_call 58; first
        | (with_reducible refine ihA.mono ?_; rintro e w1 ⟨rfl, hb1⟩; have hcn := hcw w1)
        | (with_reducible refine ihB.mono ?_; rintro e w1 ⟨rfl, hb1⟩; have hco := hcv w1 (hbyH.out.below hb1)))
      all_goals go_wp2
      all_goals go_ret
      all_goals first
        | (refine ⟨rfl, Below.alloc (B := w.heap.size) ((below_drew (Below.refl _ w)).trans (hb1.mono (Nat.le_refl _))) ?_ _⟩; exact hb1.size)
        | exact ⟨rfl, (below_drew ((Below.refl _ w).alloc (Nat.le_refl _) _)).trans (hb1.mono (by show w.heap.size ≤ (w.alloc _).heap.size; simp))⟩
end Go.Proofs
end
section
namespace Go.Proofs
open Go.RowKit
set_option linter.unusedVariables false
set_option linter.unusedSimpArgs false

theorem itoa_size {n : Int} (h0 : -9223372036854775808 ≤ n) (h1 : n ≤ 9223372036854775807) : (Lib.itoa n).length ≤ 21 := Lib.itoa_length_le n h0 h1
set_option maxHeartbeats 1000000 in
set_option maxRecDepth 100000 in
theorem num_any (n : Int) (h0 : -9223372036854775808 ≤ n) (h1 : n ≤ 9223372036854775807) (w : World) : Calls Tryd.prog 47 #[.int .i64 n] w fun e w' => e = .returned (.string ⟨(Lib.itoa n).toArray⟩) ∧ Below w.heap.size w w' := by
  by_cases hn : n < 0
  · have hB := big_any n.natAbs (by omega)
    rw [itoa_neg hn]
    obtain ⟨sB, hsB⟩ : ∃ sB : ByteArray, sB = ⟨(Lib.decDigits n.natAbs).toArray⟩ := ⟨_, rfl⟩
    have hz : sB.size ≤ 20 := by rw [hsB, str_size]; exact digits_len (by omega)
    have hres : ({ data := #[45] } : ByteArray) ++ sB = ⟨(45 :: Lib.decDigits n.natAbs).toArray⟩ := by rw [hsB]; exact str_append [45] _
    rw [← hsB] at hB
    rw [← hres]
    have e : ((n.natAbs : Nat) : Int) = -(n + 1) + 1 := by omega
    rw [e] at hB
    clear e hsB hres
    go_enter Tryd.func47, Tryd.ntmps47
    go_wp2_with (go_at_call 58; refine (hB _).mono ?_; rintro e w' ⟨rfl, hb⟩)
    go_ret
    exact ⟨rfl, hb⟩
  · have hB := big_any n.toNat (by omega)
    rw [itoa_nn (by omega)]
    have e : ((n.toNat : Nat) : Int) = n := by omega
    rw [e] at hB
    clear e
    go_enter Tryd.func47, Tryd.ntmps47
    go_wp2_with (go_at_call 58; refine (hB _).mono ?_; rintro e w' ⟨rfl, hb⟩)
    go_ret
    exact ⟨rfl, hb⟩
theorem byte_num (c : UInt8) (w : World) : Calls Tryd.prog 47 #[.int .i64 (c.toNat : Int)] w fun e w' => e = .returned (.string ⟨(Lib.itoa c.toNat).toArray⟩) ∧ Below w.heap.size w w' := num_any _ (by omega) (by have := c.toNat_lt; omega) w
set_option maxHeartbeats 1000000 in
set_option maxRecDepth 100000 in
theorem three_any (a b c : UInt8) (w : World) : Calls Tryd.prog 48 #[.int .u8 a.toNat, .int .u8 b.toNat, .int .u8 c.toNat] w fun e w' => e = .returned (.string ⟨(bn a.toNat ++ bn b.toNat ++ bn c.toNat).toArray⟩) ∧ Below w.heap.size w w' := by
  have hA := byte_num a
  have hB := byte_num b
  have hC := byte_num c
  have la := a.toNat_lt
  have lb := b.toNat_lt
  have lc := c.toNat_lt
  obtain ⟨sa, hsa⟩ : ∃ s : ByteArray, s = ⟨(Lib.itoa a.toNat).toArray⟩ := ⟨_, rfl⟩
  obtain ⟨sb, hsb⟩ : ∃ s : ByteArray, s = ⟨(Lib.itoa b.toNat).toArray⟩ := ⟨_, rfl⟩
  obtain ⟨sc, hsc⟩ : ∃ s : ByteArray, s = ⟨(Lib.itoa c.toNat).toArray⟩ := ⟨_, rfl⟩
  have za : sa.size ≤ 6 := by rw [hsa, str_size]; exact itoa_length (by omega) (by omega)
  have zb : sb.size ≤ 6 := by rw [hsb, str_size]; exact itoa_length (by omega) (by omega)
  have zc : sc.size ≤ 6 := by rw [hsc, str_size]; exact itoa_length (by omega) (by omega)
  have hres : (((({ data := #[32] } : ByteArray) ++ sa) ++ { data := #[32] }) ++ sb) ++ { data := #[32] } ++ sc = ⟨(bn a.toNat ++ bn b.toNat ++ bn c.toNat).toArray⟩ := by
    rw [hsa, hsb, hsc, show ({ data := #[32] } : ByteArray) = ⟨[32].toArray⟩ from rfl]
    simp only [str_append]
    simp [bn]
  rw [← hsa] at hA
  rw [← hsb] at hB
  rw [← hsc] at hC
  rw [← hres]
  generalize a.toNat = a at *
  generalize b.toNat = b at *
  generalize c.toNat = c at *
  clear hsa hsb hsc hres
  go_enter Tryd.func48, Tryd.ntmps48
  go_wp2_with (first
    | (go_at_call 47; with_reducible refine (hA w).mono ?_; rintro e w1 ⟨rfl, hb1⟩)
    | (go_at_call 47; with_reducible refine (hB w1).mono ?_; rintro e w2 ⟨rfl, hb2⟩)
    | (go_at_call 47; with_reducible refine (hC w2).mono ?_; rintro e w3 ⟨rfl, hb3⟩))
  go_ret
  exact ⟨rfl, hb1.trans ((hb2.trans (hb3.mono hb2.size)).mono hb1.size)⟩
end Go.Proofs
end
section
namespace Go.Proofs
open Go.RowKit
set_option linter.unusedVariables false
set_option linter.unusedSimpArgs false

abbrev insV (O A B C : Int) : Value := .agg #[.int .u8 O, .int .u8 A, .int .u8 B, .int .u8 C]
def GivesS (f : FuncId) (args : Array Value) (s : ByteArray) : Prop := ∀ W, Calls Tryd.prog f args W fun e w' => e = .returned (.string s) ∧ Below W.heap.size W w'
def GivesN (f : FuncId) (args : Array Value) (n : Int) : Prop := ∀ W, Calls Tryd.prog f args W fun e w' => e = .returned (.int .i64 n) ∧ Below W.heap.size W w'
set_option maxHeartbeats 4000000 in
set_option maxRecDepth 100000 in
theorem line_k0 (A B C : Int) (a0 : 0 ≤ A) (a1 : A < 256) (b0 : 0 ≤ B) (b1 : B < 256) (c0 : 0 ≤ C) (c1 : C < 256) (w : World) :
    Calls Tryd.prog 32 #[insV 0 A B C] w fun e w' => e = .returned (.string (if A = 0 ∧ B = 0 ∧ C = 0 then ⟨wNop.toArray⟩ else ⟨#[]⟩)) ∧ Below w.heap.size w w' := by
  by_cases hA : A = 0
  · by_cases hB : B = 0
    · by_cases hC : C = 0
      · subst hA hB hC
        rw [if_pos ⟨rfl, rfl, rfl⟩]
        go_enter Tryd.func32, Tryd.ntmps32
        go_wp2
        go_ret
        exact ⟨rfl, (Below.refl _ _).alloc (Nat.le_refl _) _⟩
      · have qC : (C == 0) = false := by simpa using hC
        subst hA hB
        rw [if_neg (by rintro ⟨h1, h2, h3⟩; exact hC h3)]
        go_enter Tryd.func32, Tryd.ntmps32
        go_wp2
        go_ret
        exact ⟨rfl, (Below.refl _ _).alloc (Nat.le_refl _) _⟩
    · have qB : (B == 0) = false := by simpa using hB
      subst hA
      rw [if_neg (by rintro ⟨h1, h2, h3⟩; exact hB h2)]
      go_enter Tryd.func32, Tryd.ntmps32
      go_wp2
      go_ret
      exact ⟨rfl, (Below.refl _ _).alloc (Nat.le_refl _) _⟩
  · have qA : (A == 0) = false := by simpa using hA
    rw [if_neg (by rintro ⟨h1, h2, h3⟩; exact hA h1)]
    go_enter Tryd.func32, Tryd.ntmps32
    go_wp2
    go_ret
    exact ⟨rfl, (Below.refl _ _).alloc (Nat.le_refl _) _⟩
set_option maxHeartbeats 4000000 in
set_option maxRecDepth 100000 in
theorem line_k2 (A B C : Int) (a0 : 0 ≤ A) (a1 : A < 256) (b0 : 0 ≤ B) (b1 : B < 256) (c0 : 0 ≤ C) (c1 : C < 256) (s : ByteArray) (hs : s.size ≤ 100) (H : GivesS 48 #[.int .u8 A, .int .u8 B, .int .u8 C] s) (w : World) :
    Calls Tryd.prog 32 #[insV 2 A B C] w fun e w' => e = .returned (.string (⟨wAdd.toArray⟩ ++ s)) ∧ Below w.heap.size w w' := by
  by_cases hA : A = 0
  · by_cases hB : B = 0
    · by_cases hC : C = 0
      · subst hA hB hC
        go_enter Tryd.func32, Tryd.ntmps32
        go_wp2_with (first
          | (go_at_call 48; refine (H _).mono ?_; rintro e w2 ⟨rfl, hbE⟩))
        go_ret
        exact ⟨rfl, ((Below.refl _ _).alloc (Nat.le_refl _) _).trans (hbE.mono (by simp))⟩
      · have qC : (C == 0) = false := by simpa using hC
        subst hA hB
        go_enter Tryd.func32, Tryd.ntmps32
        go_wp2_with (first
          | (go_at_call 48; refine (H _).mono ?_; rintro e w2 ⟨rfl, hbE⟩))
        go_ret
        exact ⟨rfl, ((Below.refl _ _).alloc (Nat.le_refl _) _).trans (hbE.mono (by simp))⟩
    · have qB : (B == 0) = false := by simpa using hB
      subst hA
      go_enter Tryd.func32, Tryd.ntmps32
      go_wp2_with (first
        | (go_at_call 48; refine (H _).mono ?_; rintro e w2 ⟨rfl, hbE⟩))
      go_ret
      exact ⟨rfl, ((Below.refl _ _).alloc (Nat.le_refl _) _).trans (hbE.mono (by simp))⟩
  · have qA : (A == 0) = false := by simpa using hA
    go_enter Tryd.func32, Tryd.ntmps32
    go_wp2_with (first
      | (go_at_call 48; refine (H _).mono ?_; rintro e w2 ⟨rfl, hbE⟩))
    go_ret
    exact ⟨rfl, ((Below.refl _ _).alloc (Nat.le_refl _) _).trans (hbE.mono (by simp))⟩
set_option maxHeartbeats 4000000 in
set_option maxRecDepth 100000 in
theorem line_k3 (A B C : Int) (a0 : 0 ≤ A) (a1 : A < 256) (b0 : 0 ≤ B) (b1 : B < 256) (c0 : 0 ≤ C) (c1 : C < 256) (s : ByteArray) (hs : s.size ≤ 100) (H : GivesS 48 #[.int .u8 A, .int .u8 B, .int .u8 C] s) (w : World) :
    Calls Tryd.prog 32 #[insV 3 A B C] w fun e w' => e = .returned (.string (⟨wSub.toArray⟩ ++ s)) ∧ Below w.heap.size w w' := by
  by_cases hA : A = 0
  · by_cases hB : B = 0
    · by_cases hC : C = 0
      · subst hA hB hC
        go_enter Tryd.func32, Tryd.ntmps32
        go_wp2_with (first
          | (go_at_call 48; refine (H _).mono ?_; rintro e w2 ⟨rfl, hbE⟩))
        go_ret
        exact ⟨rfl, ((Below.refl _ _).alloc (Nat.le_refl _) _).trans (hbE.mono (by simp))⟩
      · have qC : (C == 0) = false := by simpa using hC
        subst hA hB
        go_enter Tryd.func32, Tryd.ntmps32
        go_wp2_with (first
          | (go_at_call 48; refine (H _).mono ?_; rintro e w2 ⟨rfl, hbE⟩))
        go_ret
        exact ⟨rfl, ((Below.refl _ _).alloc (Nat.le_refl _) _).trans (hbE.mono (by simp))⟩
    · have qB : (B == 0) = false := by simpa using hB
      subst hA
      go_enter Tryd.func32, Tryd.ntmps32
      go_wp2_with (first
        | (go_at_call 48; refine (H _).mono ?_; rintro e w2 ⟨rfl, hbE⟩))
      go_ret
      exact ⟨rfl, ((Below.refl _ _).alloc (Nat.le_refl _) _).trans (hbE.mono (by simp))⟩
  · have qA : (A == 0) = false := by simpa using hA
    go_enter Tryd.func32, Tryd.ntmps32
    go_wp2_with (first
      | (go_at_call 48; refine (H _).mono ?_; rintro e w2 ⟨rfl, hbE⟩))
    go_ret
    exact ⟨rfl, ((Below.refl _ _).alloc (Nat.le_refl _) _).trans (hbE.mono (by simp))⟩
set_option maxHeartbeats 4000000 in
set_option maxRecDepth 100000 in
theorem line_k4 (A B C : Int) (a0 : 0 ≤ A) (a1 : A < 256) (b0 : 0 ≤ B) (b1 : B < 256) (c0 : 0 ≤ C) (c1 : C < 256) (s : ByteArray) (hs : s.size ≤ 100) (H : GivesS 48 #[.int .u8 A, .int .u8 B, .int .u8 C] s) (w : World) :
    Calls Tryd.prog 32 #[insV 4 A B C] w fun e w' => e = .returned (.string (⟨wMul.toArray⟩ ++ s)) ∧ Below w.heap.size w w' := by
  by_cases hA : A = 0
  · by_cases hB : B = 0
    · by_cases hC : C = 0
      · subst hA hB hC
        go_enter Tryd.func32, Tryd.ntmps32
        go_wp2_with (first
          | (go_at_call 48; refine (H _).mono ?_; rintro e w2 ⟨rfl, hbE⟩))
        go_ret
        exact ⟨rfl, ((Below.refl _ _).alloc (Nat.le_refl _) _).trans (hbE.mono (by simp))⟩
      · have qC : (C == 0) = false := by simpa using hC
        subst hA hB
        go_enter Tryd.func32, Tryd.ntmps32
        go_wp2_with (first
          | (go_at_call 48; refine (H _).mono ?_; rintro e w2 ⟨rfl, hbE⟩))
        go_ret
        exact ⟨rfl, ((Below.refl _ _).alloc (Nat.le_refl _) _).trans (hbE.mono (by simp))⟩
    · have qB : (B == 0) = false := by simpa using hB
      subst hA
      go_enter Tryd.func32, Tryd.ntmps32
      go_wp2_with (first
        | (go_at_call 48; refine (H _).mono ?_; rintro e w2 ⟨rfl, hbE⟩))
      go_ret
      exact ⟨rfl, ((Below.refl _ _).alloc (Nat.le_refl _) _).trans (hbE.mono (by simp))⟩
  · have qA : (A == 0) = false := by simpa using hA
    go_enter Tryd.func32, Tryd.ntmps32
    go_wp2_with (first
      | (go_at_call 48; refine (H _).mono ?_; rintro e w2 ⟨rfl, hbE⟩))
    go_ret
    exact ⟨rfl, ((Below.refl _ _).alloc (Nat.le_refl _) _).trans (hbE.mono (by simp))⟩
set_option maxHeartbeats 4000000 in
set_option maxRecDepth 100000 in
theorem line_k5 (A B C : Int) (a0 : 0 ≤ A) (a1 : A < 256) (b0 : 0 ≤ B) (b1 : B < 256) (c0 : 0 ≤ C) (c1 : C < 256) (J : Int) (j0 : -40000 ≤ J) (j1 : J ≤ 70000) (s : ByteArray) (hs : s.size ≤ 100) (H : GivesN 17 #[insV 5 A B C] J) (H2 : GivesS 47 #[.int .i64 J] s) (w : World) :
    Calls Tryd.prog 32 #[insV 5 A B C] w fun e w' => e = .returned (.string (if A = 0 then ⟨(wJump ++ [32]).toArray⟩ ++ s else ⟨#[]⟩)) ∧ Below w.heap.size w w' := by
  by_cases hA : A = 0
  · by_cases hB : B = 0
    · by_cases hC : C = 0
      · subst hA hB hC
        rw [if_pos rfl]
        go_enter Tryd.func32, Tryd.ntmps32
        go_wp2_with (first
          | (go_at_call 17; refine (H _).mono ?_; rintro e w2 ⟨rfl, hb2⟩)
          | (go_at_call 47; refine (H2 _).mono ?_; rintro e w3 ⟨rfl, hb3⟩; have hbE := hb2.trans (hb3.mono hb2.size)))
        go_ret
        exact ⟨rfl, ((Below.refl _ _).alloc (Nat.le_refl _) _).trans (hbE.mono (by simp))⟩
      · have qC : (C == 0) = false := by simpa using hC
        subst hA hB
        rw [if_pos rfl]
        go_enter Tryd.func32, Tryd.ntmps32
        go_wp2_with (first
          | (go_at_call 17; refine (H _).mono ?_; rintro e w2 ⟨rfl, hb2⟩)
          | (go_at_call 47; refine (H2 _).mono ?_; rintro e w3 ⟨rfl, hb3⟩; have hbE := hb2.trans (hb3.mono hb2.size)))
        go_ret
        exact ⟨rfl, ((Below.refl _ _).alloc (Nat.le_refl _) _).trans (hbE.mono (by simp))⟩
    · have qB : (B == 0) = false := by simpa using hB
      subst hA
      rw [if_pos rfl]
      go_enter Tryd.func32, Tryd.ntmps32
      go_wp2_with (first
        | (go_at_call 17; refine (H _).mono ?_; rintro e w2 ⟨rfl, hb2⟩)
        | (go_at_call 47; refine (H2 _).mono ?_; rintro e w3 ⟨rfl, hb3⟩; have hbE := hb2.trans (hb3.mono hb2.size)))
      go_ret
      exact ⟨rfl, ((Below.refl _ _).alloc (Nat.le_refl _) _).trans (hbE.mono (by simp))⟩
  · have qA : (A == 0) = false := by simpa using hA
    rw [if_neg hA]
    go_enter Tryd.func32, Tryd.ntmps32
    go_wp2
    go_ret
    exact ⟨rfl, (Below.refl _ _).alloc (Nat.le_refl _) _⟩
set_option maxHeartbeats 4000000 in
set_option maxRecDepth 100000 in
theorem line_k7 (A B C : Int) (a0 : 0 ≤ A) (a1 : A < 256) (b0 : 0 ≤ B) (b1 : B < 256) (c0 : 0 ≤ C) (c1 : C < 256) (s : ByteArray) (hs : s.size ≤ 100) (H2 : GivesS 47 #[.int .i64 A] s) (w : World) :
    Calls Tryd.prog 32 #[insV 7 A B C] w fun e w' => e = .returned (.string (if B = 0 ∧ C = 0 then ⟨(wCode ++ [32]).toArray⟩ ++ s else ⟨#[]⟩)) ∧ Below w.heap.size w w' := by
  by_cases hA : A = 0
  · by_cases hB : B = 0
    · by_cases hC : C = 0
      · subst hA hB hC
        rw [if_pos ⟨rfl, rfl⟩]
        go_enter Tryd.func32, Tryd.ntmps32
        go_wp2_with (first
          | (go_at_call 47; refine (H2 _).mono ?_; rintro e w3 ⟨rfl, hbE⟩))
        go_ret
        exact ⟨rfl, ((Below.refl _ _).alloc (Nat.le_refl _) _).trans (hbE.mono (by simp))⟩
      · have qC : (C == 0) = false := by simpa using hC
        subst hA hB
        rw [if_neg (by rintro ⟨h1, h2⟩; exact hC h2)]
        go_enter Tryd.func32, Tryd.ntmps32
        go_wp2
        go_ret
        exact ⟨rfl, (Below.refl _ _).alloc (Nat.le_refl _) _⟩
    · have qB : (B == 0) = false := by simpa using hB
      subst hA
      rw [if_neg (by rintro ⟨h1, h2⟩; exact hB h1)]
      go_enter Tryd.func32, Tryd.ntmps32
      go_wp2
      go_ret
      exact ⟨rfl, (Below.refl _ _).alloc (Nat.le_refl _) _⟩
  · have qA : (A == 0) = false := by simpa using hA
    by_cases hB : B = 0
    · by_cases hC : C = 0
      · subst hB hC
        rw [if_pos ⟨rfl, rfl⟩]
        go_enter Tryd.func32, Tryd.ntmps32
        go_wp2_with (first
          | (go_at_call 47; refine (H2 _).mono ?_; rintro e w3 ⟨rfl, hbE⟩))
        go_ret
        exact ⟨rfl, ((Below.refl _ _).alloc (Nat.le_refl _) _).trans (hbE.mono (by simp))⟩
      · have qC : (C == 0) = false := by simpa using hC
        subst hB
        rw [if_neg (by rintro ⟨h1, h2⟩; exact hC h2)]
        go_enter Tryd.func32, Tryd.ntmps32
        go_wp2
        go_ret
        exact ⟨rfl, (Below.refl _ _).alloc (Nat.le_refl _) _⟩
    · have qB : (B == 0) = false := by simpa using hB
      rw [if_neg (by rintro ⟨h1, h2⟩; exact hB h1)]
      go_enter Tryd.func32, Tryd.ntmps32
      go_wp2
      go_ret
      exact ⟨rfl, (Below.refl _ _).alloc (Nat.le_refl _) _⟩
set_option maxHeartbeats 4000000 in
set_option maxRecDepth 100000 in
theorem line_kc (O A B C : Int) (o0 : 17 ≤ O) (o1 : O ≤ 38) (a0 : 0 ≤ A) (a1 : A < 256) (b0 : 0 ≤ B) (b1 : B < 256) (c0 : 0 ≤ C) (c1 : C < 256) (s : ByteArray) (hs : s.size ≤ 100) (H2 : GivesS 47 #[.int .i64 (O - 16)] s) (w : World) :
    Calls Tryd.prog 32 #[insV O A B C] w fun e w' => e = .returned (.string (if A = 0 ∧ B = 0 ∧ C = 0 then ⟨(wCall ++ [32]).toArray⟩ ++ s else ⟨#[]⟩)) ∧ Below w.heap.size w w' := by
  obtain ⟨r0, r1, r2, r3, r4, r5, r6, r7⟩ : O ≠ 0 ∧ O ≠ 1 ∧ O ≠ 2 ∧ O ≠ 3 ∧ O ≠ 4 ∧ O ≠ 5 ∧ O ≠ 6 ∧ O ≠ 7 := by omega
  have q0 : (O == 0) = false := by simpa using r0
  have q1 : (O == 1) = false := by simpa using r1
  have q2 : (O == 2) = false := by simpa using r2
  have q3 : (O == 3) = false := by simpa using r3
  have q4 : (O == 4) = false := by simpa using r4
  have q5 : (O == 5) = false := by simpa using r5
  have q6 : (O == 6) = false := by simpa using r6
  have q7 : (O == 7) = false := by simpa using r7
  by_cases hA : A = 0
  · by_cases hB : B = 0
    · by_cases hC : C = 0
      · subst hA hB hC
        rw [if_pos ⟨rfl, rfl, rfl⟩]
        go_enter Tryd.func32, Tryd.ntmps32
        go_wp2_with (first
          | (go_at_call 47; refine (H2 _).mono ?_; rintro e w3 ⟨rfl, hbE⟩))
        go_ret
        exact ⟨rfl, ((Below.refl _ _).alloc (Nat.le_refl _) _).trans (hbE.mono (by simp))⟩
      · have qC : (C == 0) = false := by simpa using hC
        subst hA hB
        rw [if_neg (by rintro ⟨h1, h2, h3⟩; exact hC h3)]
        go_enter Tryd.func32, Tryd.ntmps32
        go_wp2
        go_ret
        exact ⟨rfl, (Below.refl _ _).alloc (Nat.le_refl _) _⟩
    · have qB : (B == 0) = false := by simpa using hB
      subst hA
      rw [if_neg (by rintro ⟨h1, h2, h3⟩; exact hB h2)]
      go_enter Tryd.func32, Tryd.ntmps32
      go_wp2
      go_ret
      exact ⟨rfl, (Below.refl _ _).alloc (Nat.le_refl _) _⟩
  · have qA : (A == 0) = false := by simpa using hA
    rw [if_neg (by rintro ⟨h1, h2, h3⟩; exact hA h1)]
    go_enter Tryd.func32, Tryd.ntmps32
    go_wp2
    go_ret
    exact ⟨rfl, (Below.refl _ _).alloc (Nat.le_refl _) _⟩
set_option maxHeartbeats 4000000 in
set_option maxRecDepth 100000 in
theorem line_kn (O A B C : Int) (o0 : (8 ≤ O ∧ O < 17) ∨ (38 < O ∧ O < 256)) (a0 : 0 ≤ A) (a1 : A < 256) (b0 : 0 ≤ B) (b1 : B < 256) (c0 : 0 ≤ C) (c1 : C < 256) (w : World) :
    Calls Tryd.prog 32 #[insV O A B C] w fun e w' => e = .returned (.string ⟨#[]⟩) ∧ Below w.heap.size w w' := by
  obtain ⟨r0, r1, r2, r3, r4, r5, r6, r7⟩ : O ≠ 0 ∧ O ≠ 1 ∧ O ≠ 2 ∧ O ≠ 3 ∧ O ≠ 4 ∧ O ≠ 5 ∧ O ≠ 6 ∧ O ≠ 7 := by omega
  have q0 : (O == 0) = false := by simpa using r0
  have q1 : (O == 1) = false := by simpa using r1
  have q2 : (O == 2) = false := by simpa using r2
  have q3 : (O == 3) = false := by simpa using r3
  have q4 : (O == 4) = false := by simpa using r4
  have q5 : (O == 5) = false := by simpa using r5
  have q6 : (O == 6) = false := by simpa using r6
  have q7 : (O == 7) = false := by simpa using r7
  have o2 : 0 ≤ O := by omega
  have o3 : O < 256 := by omega
  have o4 : O < 17 ∨ 38 < O := by omega
  clear o0
  by_cases hA : A = 0
  · by_cases hB : B = 0
    · by_cases hC : C = 0
      · subst hA hB hC
        rcases o4 with o4 | o4
        all_goals
          go_enter Tryd.func32, Tryd.ntmps32
          go_wp2
          go_ret
          exact ⟨rfl, (Below.refl _ _).alloc (Nat.le_refl _) _⟩
      · have qC : (C == 0) = false := by simpa using hC
        subst hA hB
        rcases o4 with o4 | o4
        all_goals
          go_enter Tryd.func32, Tryd.ntmps32
          go_wp2
          go_ret
          exact ⟨rfl, (Below.refl _ _).alloc (Nat.le_refl _) _⟩
    · have qB : (B == 0) = false := by simpa using hB
      subst hA
      rcases o4 with o4 | o4
      all_goals
        go_enter Tryd.func32, Tryd.ntmps32
        go_wp2
        go_ret
        exact ⟨rfl, (Below.refl _ _).alloc (Nat.le_refl _) _⟩
  · have qA : (A == 0) = false := by simpa using hA
    rcases o4 with o4 | o4
    all_goals
      go_enter Tryd.func32, Tryd.ntmps32
      go_wp2
      go_ret
      exact ⟨rfl, (Below.refl _ _).alloc (Nat.le_refl _) _⟩
end Go.Proofs
end
