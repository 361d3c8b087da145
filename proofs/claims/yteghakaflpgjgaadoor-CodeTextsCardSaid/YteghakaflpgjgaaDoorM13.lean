import Derived.Test.YteghakaflpgjgaaDoorM12
section
namespace Go.Proofs
open Go.RowKit
set_option linter.unusedVariables false
set_option linter.unusedSimpArgs false

theorem decode_flat {l : List Ins} {i : Nat} {x : Ins} (hx : l[i]? = some x) : decodeP (flatI l) (i : Nat) = if x.is then (x, 0) else (Ins.zero, 7) := by
  obtain ⟨f0, f1, f2, f3⟩ := flatI_at hx
  have hi : i < l.length := (List.getElem?_eq_some_iff.1 hx).1
  have e : insAt (flatI l) i = x := by
    unfold insAt
    rw [List.getD, f0, List.getD, f1, List.getD, f2, List.getD, f3]; rfl
  unfold decodeP
  rw [flatI_length, if_neg (by omega), if_neg (by omega), Int.toNat_natCast, e]
theorem decode_flat_end {l : List Ins} : decodeP (flatI l) (l.length : Nat) = (Ins.zero, 4) := by
  unfold decodeP
  rw [flatI_length, if_pos (by omega)]
set_option maxHeartbeats 20000000 in
set_option maxRecDepth 100000 in
theorem bytesl_any (V : Value) (l : List Ins) (w : World) (hB : Cs w V l.length (bys (flatI l))) (hT : Ta w) : Calls Tryd.prog 4 #[V] w fun e w' => e = .returned (.bool true) ∧ Below w.heap.size w w' := by
  obtain ⟨A, c, rfl, -, -⟩ := hB.val
  obtain ⟨n, hn⟩ : ∃ n, n = l.length := ⟨_, rfl⟩
  have hLH := Lib.hid (⟨hT, hB, hn⟩ : _ ∧ _ ∧ _)
  have hknH := Lib.hid (fun W (hb : Below w.heap.size w W) => known_any W (hT.below hb))
  by_cases h2 : n ≤ 300
  · have hBy := bytes_any _ l (by omega) w hB
    rw [← hn] at hB hBy ⊢
    have hBy2 : Calls Tryd.prog 13 #[.slice A n c] w fun e w' => ∃ A1 c1, e = .returned (.slice A1 (4 * n) c1) ∧ Row w' 5 1 (.slice A1 (4 * n) c1) (4 * n) (bys (flatI l)) ∧ Below w.heap.size w w' := hBy.mono fun e w' ⟨R, h1, h2, _, h3⟩ => by
      obtain ⟨A1, c1, rfl, _⟩ := h2.val
      exact ⟨A1, c1, h1, h2, h3⟩
    clear hBy hB hT hn
    go_enter Tryd.func4, Tryd.ntmps4
    go_upto_region 4 with (go_at_call 13; refine hBy2.mono ?_; rintro e w1 ⟨A1, c1, rfl, hR1, hb1⟩)
    have hLe : Calls Tryd.prog 12 #[.slice A1 (4 * n) c1] w1 fun e w' => e = .returned (.int .i64 n) ∧ w' = w1 := by
      have h := len_any (.slice A1 (4 * n) c1) (flatI l) (by rw [flatI_length]; have := hLH.out.2.2; omega) w1 (By.of_row hR1)
      rw [flatI_length, ← hLH.out.2.2, show 4 * n / 4 = n by omega] at h
      exact h
    have hC := Lib.hid (⟨hb1, hR1⟩ : _ ∧ _)
    clear hb1 hR1 hBy2
    go_upto_region 6 with (go_at_call 12; refine hLe.mono ?_; rintro e w1 ⟨rfl, rfl⟩)
    clear hLe
    go_wp2
    go_loopw [4] (fun iv wr => ∃ i : Nat, iv = .int .i64 i ∧ i ≤ n ∧ Hid (Below w1.heap.size w1 wr)) (fun iv _ => n - (intOf iv).toNat)
    case atStart => exact ⟨0, rfl, by omega, Lib.hid (Below.refl _ _)⟩
    case round =>
      obtain ⟨i, rfl, hi, hI⟩ := hrel
      have hwr : Hid (Below w.heap.size w wr) := Lib.hid (hC.out.1.trans (hI.out.mono hC.out.1.size))
      by_cases hin : i < n
      · obtain ⟨x, hx⟩ : ∃ x, l[i]? = some x := ⟨_, List.getElem?_eq_getElem (by have := hLH.out.2.2; omega)⟩
        obtain ⟨f0, f1, f2, f3⟩ := flatI_at hx
        obtain ⟨X0, hX0⟩ : ∃ X : Int, X = (x.o.toNat : Int) := ⟨_, rfl⟩
        obtain ⟨X1, hX1⟩ : ∃ X : Int, X = (x.a.toNat : Int) := ⟨_, rfl⟩
        obtain ⟨X2, hX2⟩ : ∃ X : Int, X = (x.b.toNat : Int) := ⟨_, rfl⟩
        obtain ⟨X3, hX3⟩ : ∃ X : Int, X = (x.c.toNat : Int) := ⟨_, rfl⟩
        have g0 := bys_at f0
        have g1 := bys_at f1
        have g2 := bys_at f2
        have g3 := bys_at f3
        rw [← hX0] at g0
        rw [← hX1] at g1
        rw [← hX2] at g2
        rw [← hX3] at g3
        obtain ⟨ga, oa, ca, hv, -, -, hlta, hca⟩ := hLH.out.2.1.open_ (by rw [bys_length, flatI_length]; have := hLH.out.2.2; omega)
        simp only [Value.slice.injEq] at hv
        obtain ⟨rfl, -, rfl⟩ := hv
        obtain ⟨gr, cr, hv, -, hccr, hcr, -, hltr⟩ := hC.out.2.form (by omega)
        simp only [Value.slice.injEq, true_and] at hv
        obtain ⟨rfl, rfl⟩ := hv
        have vq : ∀ j u, (bys (flatI l))[4 * i + j]? = some u → wr.cell? ⟨ga, oa + i * 4 + j, none⟩ = some u := fun j u hu => by
          have h := hca _ _ hu
          rw [show oa + (4 * i + j) = oa + i * 4 + j by omega] at h
          exact (hwr.out.cell (p := ⟨ga, oa + i * 4 + j, none⟩) hlta).trans h
        have v0 := vq 0 _ g0
        have v1 := vq 1 _ g1
        have v2 := vq 2 _ g2
        have v3 := vq 3 _ g3
        rw [Nat.add_zero] at v0
        have hxH := Lib.hid (⟨hx, hX0, hX1, hX2, hX3, (⟨g0, g1, g2, g3⟩ : _ ∧ _ ∧ _ ∧ _), hcr⟩ : _ ∧ _ ∧ _ ∧ _ ∧ _ ∧ _ ∧ _)
        clear hx f0 f1 f2 f3 hX0 hX1 hX2 hX3 g0 g1 g2 g3 hca hcr vq hlta
        go_upto_region 10 with fail
        obtain ⟨W5, hW5⟩ : ∃ W5, W5 = wr.alloc (.cells #[.int .u8 X0, .int .u8 X1, .int .u8 X2, .int .u8 X3] 26) := ⟨_, rfl⟩
        obtain ⟨S5, hS5⟩ : ∃ S5, S5 = wr.heap.size := ⟨_, rfl⟩
        have hk5 : Blk W5 S5 26 #[.int .u8 X0, .int .u8 X1, .int .u8 X2, .int .u8 X3] := by rw [hW5, hS5]; exact Blk.new wr 26 _
        have hbW5 : Below wr.heap.size wr W5 := by rw [hW5]; exact (Below.refl _ _).alloc (Nat.le_refl _) _
        rw [← hW5, ← hS5]
        have hb15 := hI.out.trans (hbW5.mono hI.out.size)
        have hK5 := Lib.hid (⟨hk5, hb15⟩ : _ ∧ _)
        clear hW5 hS5 hk5 hbW5 hb15 v0 v1 v2 v3
        have rq : ∀ W, Below W5.heap.size W5 W → ∀ j u, (bys (flatI l))[4 * i + j]? = some u → W.cell? ⟨gr, 4 * i + j, none⟩ = some u := fun W hb j u hu =>
          ((hK5.out.2.trans (hb.mono hK5.out.2.size)).cell (p := ⟨gr, 4 * i + j, none⟩) hltr).trans (hxH.out.2.2.2.2.2.2 _ _ hu)
        obtain ⟨e0, e1, e2, e3⟩ := hxH.out.2.2.2.2.2.1
        have q0 := rq W5 (Below.refl _ _) 0 _ e0
        have q1 := rq W5 (Below.refl _ _) 1 _ e1
        have q2 := rq W5 (Below.refl _ _) 2 _ e2
        have q3 := rq W5 (Below.refl _ _) 3 _ e3
        have s0 : W5.cell? ⟨S5, 0, none⟩ = some (.int .u8 X0) := hK5.out.1.cell 0
        have s1 : W5.cell? ⟨S5, 1, none⟩ = some (.int .u8 X1) := hK5.out.1.cell 1
        have s2 : W5.cell? ⟨S5, 2, none⟩ = some (.int .u8 X2) := hK5.out.1.cell 2
        have s3 : W5.cell? ⟨S5, 3, none⟩ = some (.int .u8 X3) := hK5.out.1.cell 3
        have m0 := cell_regrown q0
        have m1 := cell_regrown q1
        have m2 := cell_regrown q2
        have m3 := cell_regrown q3
        have o0 := cell_regrown s0
        have o1 := cell_regrown s1
        have o2 := cell_regrown s2
        have o3 := cell_regrown s3
        rw [Nat.add_zero] at m0
        have hw0 : IntKind.i64.wrap (4 * (i : Int)) = 4 * (i : Int) := IntWalk.i64_in _ (by omega)
        have hw1 : IntKind.i64.wrap (4 * (i : Int) + 1) = 4 * (i : Int) + 1 := IntWalk.i64_in _ (by omega)
        have hw2 : IntKind.i64.wrap (4 * (i : Int) + 2) = 4 * (i : Int) + 2 := IntWalk.i64_in _ (by omega)
        have hw3 : IntKind.i64.wrap (4 * (i : Int) + 3) = 4 * (i : Int) + 3 := IntWalk.i64_in _ (by omega)
        have hp0 : (0 : Int) ≤ 4 * (i : Int) := by omega
        have hl0 : 4 * (i : Int) < 4 * (n : Int) := by omega
        have ht0 : (4 * (i : Int)).toNat = 4 * i := by omega
        have hp1 : (0 : Int) ≤ 4 * (i : Int) + 1 := by omega
        have hl1 : 4 * (i : Int) + 1 < 4 * (n : Int) := by omega
        have ht1 : (4 * (i : Int) + 1).toNat = 4 * i + 1 := by omega
        have hp2 : (0 : Int) ≤ 4 * (i : Int) + 2 := by omega
        have hl2 : 4 * (i : Int) + 2 < 4 * (n : Int) := by omega
        have ht2 : (4 * (i : Int) + 2).toNat = 4 * i + 2 := by omega
        have hp3 : (0 : Int) ≤ 4 * (i : Int) + 3 := by omega
        have hl3 : 4 * (i : Int) + 3 < 4 * (n : Int) := by omega
        have ht3 : (4 * (i : Int) + 3).toNat = 4 * i + 3 := by omega
        clear q0 q1 q2 q3 s0 s1 s2 s3 e0 e1 e2 e3 rq
        refine wp_region_quiet_below (by kernel_rfl) (by kernel_rfl) ?_
        repeat (quiet_step (fail))
        refine wpQuiet_nil ?_
        intro W6 hw'
        obtain ⟨⟨dq, osq⟩, hw''⟩ := hw'
        have hbW6 : Below W5.heap.size W5 W6 := by rw [hw'']; exact below_regrown W5 dq osq
        clear hw''
        clear m0 m1 m2 m3 o0 o1 o2 o3 hw0 hw1 hw2 hw3 hp0 hp1 hp2 hp3 hl0 hl1 hl2 hl3 ht0 ht1 ht2 ht3
        have hb16 := hK5.out.2.trans (hbW6.mono hK5.out.2.size)
        have hk6 : Blk W6 S5 26 #[.int .u8 X0, .int .u8 X1, .int .u8 X2, .int .u8 X3] := hK5.out.1.same (hbW6.block _ hK5.out.1.lt)
        have hD := decode_any _ (flatI l) (by rw [flatI_length]; have := hLH.out.2.2; omega) (i : Nat) (by omega) (by omega) W6 (By.of_row (hC.out.2.below hb16))
        rw [decode_flat hxH.out.1] at hD
        have hv : x.val = .agg #[.int .u8 X0, .int .u8 X1, .int .u8 X2, .int .u8 X3] := by
          obtain ⟨-, h0, h1, h2, h3, -⟩ := hxH.out
          rw [h0, h1, h2, h3]; rfl
        have hJu : ∀ W, Calls Tryd.prog 16 #[.agg #[.int .u8 X0, .int .u8 X1, .int .u8 X2, .int .u8 X3]] W fun e w' => e = .returned (.int .i64 x.jump) ∧ Below W.heap.size W w' := fun W => by rw [← hv]; exact jump_any x W
        have hRJ : ∀ W, Calls Tryd.prog 17 #[.agg #[.int .u8 X0, .int .u8 X1, .int .u8 X2, .int .u8 X3]] W fun e w' => e = .returned (.int .i64 x.jump) ∧ Below W.heap.size W w' := fun W => by rw [← hv]; exact rjump_any x W
        have hNu : ∀ W, Calls Tryd.prog 14 #[.agg #[.int .u8 X0, .int .u8 X1, .int .u8 X2, .int .u8 X3]] W fun e w' => e = .returned (.int .i64 (x.num : Int)) ∧ Below W.heap.size W w' := fun W => by rw [← hv]; exact number_any x W
        have hRN : ∀ W, Calls Tryd.prog 15 #[.agg #[.int .u8 X0, .int .u8 X1, .int .u8 X2, .int .u8 X3]] W fun e w' => e = .returned (.int .i64 (x.num : Int)) ∧ Below W.heap.size W w' := fun W => by rw [← hv]; exact rnumber_any x W
        obtain ⟨J, hJ⟩ : ∃ J, J = x.jump := ⟨_, rfl⟩
        obtain ⟨N, hN⟩ : ∃ N : Int, N = x.num := ⟨_, rfl⟩
        rw [← hJ] at hJu hRJ
        rw [← hN] at hNu hRN
        have hFn := Lib.hid (⟨hb16, hk6, hJu, hRJ, hNu, hRN⟩ : _ ∧ _ ∧ _ ∧ _ ∧ _ ∧ _)
        clear hb16 hk6 hJu hRJ hNu hRN hJ hN hbW6
        cases his : x.is with
        | true =>
          rw [his] at hD
          simp only [reduceIte] at hD
          rw [hv] at hD
          have hisH := Lib.hid his
          clear his hv
          go_upto_region 13 with (go_at_call 10; refine hD.mono ?_; rintro e w7 ⟨rfl, hb7⟩)
          obtain ⟨W7, hW7⟩ : ∃ W7, W7 = w7.alloc (.cells #[.int .u8 X0, .int .u8 X1, .int .u8 X2, .int .u8 X3] 26) := ⟨_, rfl⟩
          obtain ⟨S7, hS7⟩ : ∃ S7, S7 = w7.heap.size := ⟨_, rfl⟩
          have hk7 : Blk W7 S7 26 #[.int .u8 X0, .int .u8 X1, .int .u8 X2, .int .u8 X3] := by rw [hW7, hS7]; exact Blk.new w7 26 _
          have hbW7 : Below W6.heap.size W6 W7 := by rw [hW7]; exact hb7.alloc hb7.size _
          rw [← hW7, ← hS7]
          have hk57 : Blk W7 S5 26 #[.int .u8 X0, .int .u8 X1, .int .u8 X2, .int .u8 X3] := hFn.out.2.1.same (hbW7.block _ hFn.out.2.1.lt)
          have hb17 := hFn.out.1.trans (hbW7.mono hFn.out.1.size)
          have a0 : W7.cell? ⟨S5, 0, none⟩ = some (.int .u8 X0) := hk57.cell 0
          have a1 : W7.cell? ⟨S5, 1, none⟩ = some (.int .u8 X1) := hk57.cell 1
          have a2 : W7.cell? ⟨S5, 2, none⟩ = some (.int .u8 X2) := hk57.cell 2
          have a3 : W7.cell? ⟨S5, 3, none⟩ = some (.int .u8 X3) := hk57.cell 3
          have b0 : W7.cell? ⟨S7, 0, none⟩ = some (.int .u8 X0) := hk7.cell 0
          have b1 : W7.cell? ⟨S7, 1, none⟩ = some (.int .u8 X1) := hk7.cell 1
          have b2 : W7.cell? ⟨S7, 2, none⟩ = some (.int .u8 X2) := hk7.cell 2
          have b3 : W7.cell? ⟨S7, 3, none⟩ = some (.int .u8 X3) := hk7.cell 3
          have c0 := cell_regrown a0
          have c1' := cell_regrown a1
          have c2 := cell_regrown a2
          have c3 := cell_regrown a3
          have d0 := cell_regrown b0
          have d1 := cell_regrown b1
          have d2 := cell_regrown b2
          have d3 := cell_regrown b3
          have cA : ∀ d os, Calls Tryd.prog 16 #[.agg #[.int .u8 X0, .int .u8 X1, .int .u8 X2, .int .u8 X3]] (Go.Sort.grow (redrawn W7 d) os) fun e w'' => e = .returned (.int .i64 J) ∧ ∃ p : Regrown, w'' = Go.Sort.grow (redrawn W7 p.d) p.os := fun d os => Calls.regrown_of (hFn.out.2.2.1 _)
          have cB : ∀ d os, Calls Tryd.prog 17 #[.agg #[.int .u8 X0, .int .u8 X1, .int .u8 X2, .int .u8 X3]] (Go.Sort.grow (redrawn W7 d) os) fun e w'' => e = .returned (.int .i64 J) ∧ ∃ p : Regrown, w'' = Go.Sort.grow (redrawn W7 p.d) p.os := fun d os => Calls.regrown_of (hFn.out.2.2.2.1 _)
          have cC : ∀ d os, Calls Tryd.prog 14 #[.agg #[.int .u8 X0, .int .u8 X1, .int .u8 X2, .int .u8 X3]] (Go.Sort.grow (redrawn W7 d) os) fun e w'' => e = .returned (.int .i64 N) ∧ ∃ p : Regrown, w'' = Go.Sort.grow (redrawn W7 p.d) p.os := fun d os => Calls.regrown_of (hFn.out.2.2.2.2.1 _)
          have cD : ∀ d os, Calls Tryd.prog 15 #[.agg #[.int .u8 X0, .int .u8 X1, .int .u8 X2, .int .u8 X3]] (Go.Sort.grow (redrawn W7 d) os) fun e w'' => e = .returned (.int .i64 N) ∧ ∃ p : Regrown, w'' = Go.Sort.grow (redrawn W7 p.d) p.os := fun d os => Calls.regrown_of (hFn.out.2.2.2.2.2 _)
          have hb17H := Lib.hid hb17
          clear hW7 hS7 hk7 hbW7 hb7 hk57 hb17 a0 a1 a2 a3 b0 b1 b2 b3
          refine wp_region_quiet_below (by kernel_rfl) (by kernel_rfl) ?_
          repeat (quiet_step (first | with_reducible exact cA _ _ | with_reducible exact cB _ _ | with_reducible exact cC _ _ | with_reducible exact cD _ _))
          refine wpQuiet_nil ?_
          intro W8 hw'
          obtain ⟨⟨dq2, osq2⟩, hw''⟩ := hw'
          have hbW8 : Below W7.heap.size W7 W8 := by rw [hw'']; exact below_regrown W7 dq2 osq2
          clear hw'' c0 c1' c2 c3 d0 d1 d2 d3 cA cB cC cD
          have hb18 := Lib.hid (hb17H.out.trans (hbW8.mono hb17H.out.size))
          clear hbW8
          go_wp2
          go_roundw
          case rel => exact ⟨i + 1, by simp, by omega, hb18⟩
          case measure => simp [intOf] <;> omega
        | false =>
          rw [his] at hD
          simp only [Bool.false_eq_true, reduceIte] at hD
          have hD2 : Calls Tryd.prog 10 #[.slice (some ⟨gr, 0, none⟩) (4 * n) c1, .int .i64 (i : Nat)] W6 fun e w' => e = .returned (.tuple #[.agg #[.int .u8 0, .int .u8 0, .int .u8 0, .int .u8 0], .int .i64 7]) ∧ Below W6.heap.size W6 w' := hD
          have hisH := Lib.hid his
          clear his hv hD
          go_upto_region 13 with (go_at_call 10; refine hD2.mono ?_; rintro e w7 ⟨rfl, hb7⟩)
          obtain ⟨W7, hW7⟩ : ∃ W7, W7 = w7.alloc (.cells #[.int .u8 0, .int .u8 0, .int .u8 0, .int .u8 0] 26) := ⟨_, rfl⟩
          obtain ⟨S7, hS7⟩ : ∃ S7, S7 = w7.heap.size := ⟨_, rfl⟩
          have hk7 : Blk W7 S7 26 #[.int .u8 0, .int .u8 0, .int .u8 0, .int .u8 0] := by rw [hW7, hS7]; exact Blk.new w7 26 _
          have hbW7 : Below W6.heap.size W6 W7 := by rw [hW7]; exact hb7.alloc hb7.size _
          rw [← hW7, ← hS7]
          have hk57 : Blk W7 S5 26 #[.int .u8 X0, .int .u8 X1, .int .u8 X2, .int .u8 X3] := hFn.out.2.1.same (hbW7.block _ hFn.out.2.1.lt)
          have hb17 := hFn.out.1.trans (hbW7.mono hFn.out.1.size)
          have a0 : W7.cell? ⟨S5, 0, none⟩ = some (.int .u8 X0) := hk57.cell 0
          have a1 : W7.cell? ⟨S5, 1, none⟩ = some (.int .u8 X1) := hk57.cell 1
          have a2 : W7.cell? ⟨S5, 2, none⟩ = some (.int .u8 X2) := hk57.cell 2
          have a3 : W7.cell? ⟨S5, 3, none⟩ = some (.int .u8 X3) := hk57.cell 3
          have b0 : W7.cell? ⟨S7, 0, none⟩ = some (.int .u8 0) := hk7.cell 0
          have b1 : W7.cell? ⟨S7, 1, none⟩ = some (.int .u8 0) := hk7.cell 1
          have b2 : W7.cell? ⟨S7, 2, none⟩ = some (.int .u8 0) := hk7.cell 2
          have b3 : W7.cell? ⟨S7, 3, none⟩ = some (.int .u8 0) := hk7.cell 3
          have c0 := cell_regrown a0
          have c1' := cell_regrown a1
          have c2 := cell_regrown a2
          have c3 := cell_regrown a3
          have d0 := cell_regrown b0
          have d1 := cell_regrown b1
          have d2 := cell_regrown b2
          have d3 := cell_regrown b3
          have cA : ∀ d os, Calls Tryd.prog 16 #[.agg #[.int .u8 X0, .int .u8 X1, .int .u8 X2, .int .u8 X3]] (Go.Sort.grow (redrawn W7 d) os) fun e w'' => e = .returned (.int .i64 J) ∧ ∃ p : Regrown, w'' = Go.Sort.grow (redrawn W7 p.d) p.os := fun d os => Calls.regrown_of (hFn.out.2.2.1 _)
          have cB : ∀ d os, Calls Tryd.prog 17 #[.agg #[.int .u8 X0, .int .u8 X1, .int .u8 X2, .int .u8 X3]] (Go.Sort.grow (redrawn W7 d) os) fun e w'' => e = .returned (.int .i64 J) ∧ ∃ p : Regrown, w'' = Go.Sort.grow (redrawn W7 p.d) p.os := fun d os => Calls.regrown_of (hFn.out.2.2.2.1 _)
          have cC : ∀ d os, Calls Tryd.prog 14 #[.agg #[.int .u8 X0, .int .u8 X1, .int .u8 X2, .int .u8 X3]] (Go.Sort.grow (redrawn W7 d) os) fun e w'' => e = .returned (.int .i64 N) ∧ ∃ p : Regrown, w'' = Go.Sort.grow (redrawn W7 p.d) p.os := fun d os => Calls.regrown_of (hFn.out.2.2.2.2.1 _)
          have cD : ∀ d os, Calls Tryd.prog 15 #[.agg #[.int .u8 X0, .int .u8 X1, .int .u8 X2, .int .u8 X3]] (Go.Sort.grow (redrawn W7 d) os) fun e w'' => e = .returned (.int .i64 N) ∧ ∃ p : Regrown, w'' = Go.Sort.grow (redrawn W7 p.d) p.os := fun d os => Calls.regrown_of (hFn.out.2.2.2.2.2 _)
          have hb17H := Lib.hid hb17
          clear hW7 hS7 hk7 hbW7 hb7 hk57 hb17 a0 a1 a2 a3 b0 b1 b2 b3
          refine wp_region_quiet_below (by kernel_rfl) (by kernel_rfl) ?_
          repeat (quiet_step (first | with_reducible exact cA _ _ | with_reducible exact cB _ _ | with_reducible exact cC _ _ | with_reducible exact cD _ _))
          refine wpQuiet_nil ?_
          intro W8 hw'
          obtain ⟨⟨dq2, osq2⟩, hw''⟩ := hw'
          have hbW8 : Below W7.heap.size W7 W8 := by rw [hw'']; exact below_regrown W7 dq2 osq2
          clear hw'' c0 c1' c2 c3 d0 d1 d2 d3 cA cB cC cD
          have hb18 := Lib.hid (hb17H.out.trans (hbW8.mono hb17H.out.size))
          clear hbW8
          go_wp2
          go_roundw
          case rel => exact ⟨i + 1, by simp, by omega, hb18⟩
          case measure => simp [intOf] <;> omega
      · obtain rfl : i = n := by omega
        have hB8 := By.of_row (hC.out.2.below hI.out)
        have hD := decode_any _ (flatI l) (by rw [flatI_length]; have := hLH.out.2.2; omega) (i : Nat) (by omega) (by omega) wr hB8
        rw [show ((i : Nat) : Int) = ((l.length : Nat) : Int) by rw [← hLH.out.2.2], decode_flat_end, ← hLH.out.2.2] at hD
        have hD2 : Calls Tryd.prog 10 #[.slice A1 (4 * i) c1, .int .i64 (i : Nat)] wr fun e w' => e = .returned (.tuple #[.agg #[.int .u8 0, .int .u8 0, .int .u8 0, .int .u8 0], .int .i64 4]) ∧ Below wr.heap.size wr w' := hD
        clear hD hB8
        go_upto_region 16 with (go_at_call 10; refine hD2.mono ?_; rintro e w7 ⟨rfl, hb7⟩)
        have hb8 := (hwr.out.trans (hb7.mono hwr.out.size))
        have hb9 := Lib.hid (hb8.alloc hb8.size (.cells #[.int .u8 0, .int .u8 0, .int .u8 0, .int .u8 0] 26))
        clear hb7 hb8
        go_wp2_with (go_at_call 9; refine (hknH.out _ hb9.out).mono ?_; rintro e w9 ⟨rfl, hb10⟩)
        go_ret
        exact ⟨rfl, hb9.out.trans (hb10.mono hb9.out.size)⟩
  · have h2i : (300 : Int) < (n : Int) := by omega
    rw [← hn]
    clear hB hT hn
    go_enter Tryd.func4, Tryd.ntmps4
    go_wp2_with (go_at_call 9; refine (hknH.out _ (Below.refl _ _)).mono ?_; rintro e w4 ⟨rfl, hb4⟩)
    go_ret
    exact ⟨rfl, hb4⟩
end Go.Proofs
end
