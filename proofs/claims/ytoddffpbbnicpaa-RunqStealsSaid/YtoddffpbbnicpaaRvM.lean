import Derived.Test.YtoddffpbbnicpaaRvL
namespace Go.Proofs
open Go.RowKit
set_option linter.unusedVariables false

/-- All that the walk behind the acts needs. -/
structure Stolen (w w3 w4 : World) (q g h r M : Nat) (S : List Nat) (L : List Int) (N : Option Int) (f : Int → Bool) (vx : Value) : Prop where
  two : Two w3 q g h r S M L N
  nd : Nd L N
  turn : QTurn q g h M vx (stealS f L N) (stealL f L) (stealN f L N) w3 w4
  new : ∀ k ∈ [q, g, h, r], w.heap.size ≤ k
  chg : Chg [] w w3
theorem Stolen.not_has {w w3 w4 : World} {q g h r M : Nat} {S : List Nat} {L : List Int} {N : Option Int} {f : Int → Bool} {vx : Value} (H : Stolen w w3 w4 q g h r M S L N f vx) {x : Int} (hx : x ∈ stealS f L N) : hasQ (stealL f L) (stealN f L N) x = false := by
  have hp := stealQ_perm f L N
  have hnd : (stealS f L N ++ ((stealN f L N).toList ++ stealL f L)).Nodup := hp.nodup_iff.2 H.nd
  rw [List.nodup_append] at hnd
  have : ¬ hasQ (stealL f L) (stealN f L N) x = true := fun h => hnd.2.2 x hx x (hasQ_mem.1 h) rfl
  simpa using this
theorem Stolen.after {w w3 w4 w5 w6 : World} {q g h r M : Nat} {S : List Nat} {L : List Int} {N : Option Int} {f : Int → Bool} {vx : Value} {X : List Int} (H : Stolen w w3 w4 q g h r M S L N f vx) (hT : QTurn q g h M vx X (stealL f L) (stealN f L N) w3 w4) (hc : Chg [] w4 w5) (hU : RTurns r S M (stealL f L) (stealN f L N) w5 w6) :
    Chg [r] w5 w6 ∧ ∃ S9, Two w6 q g h r S9 M (stealL f L) (stealN f L N) ∧ Chg [] w w6 := by
  obtain ⟨S9, d1, d2, d3⟩ := H.two.step (Chg.refl _ _) hT.1 hT.2.2.2 hc hU (Chg.refl _ _)
  obtain ⟨_, _, _, hc9⟩ := hU
  exact ⟨hc9, S9, d1, H.chg.trans d3 (fun k hk => .inr (H.new k hk))⟩
theorem Stolen.small {w w3 w4 : World} {q g h r M : Nat} {S : List Nat} {L : List Int} {N : Option Int} {f : Int → Bool} {vx : Value} {X : List Int} (H : Stolen w w3 w4 q g h r M S L N f vx) (hT : QTurn q g h M vx X (stealL f L) (stealN f L N) w3 w4) : (stealL f L).length ≤ 8192 := by
  have := hT.1.small; omega
theorem Stolen.small2 {w w3 w4 : World} {q g h r M : Nat} {S : List Nat} {L : List Int} {N : Option Int} {f : Int → Bool} {vx : Value} {X : List Int} (H : Stolen w w3 w4 q g h r M S L N f vx) (hT : QTurn q g h M vx X (stealL f L) (stealN f L N) w3 w4) : (allQ (stealL f L) (stealN f L N)).length ≤ 8192 := by
  have := hT.1.small
  unfold allQ
  rw [List.length_append]
  have : (stealN f L N).toList.length ≤ 1 := by cases stealN f L N <;> simp
  omega
set_option maxRecDepth 100000 in
set_option maxHeartbeats 3200000 in
theorem steals_any (most : Int) (V1 : Value) (l : List ActV) (p : Int) (V : Value) (aff : List Int) (w : World) (hV1 : Acts w w.heap.size V1 l) (hV : Bs w V aff) (hfar : aff = [] ∨ ∀ k ∈ foot V, k < w.heap.size) :
    Calls Try.prog 5 #[.int .i64 most, V1, .int .i64 p, V] w fun e w' => e = .returned (.bool true) ∧ Chg [] w w' := by
  have hfew : ∀ W, Chg [] w W → Calls Try.prog 7 #[V1, .int .i64 100] W fun e w' => e = .returned (.bool (fewB l 100)) ∧ W = w' := fun W hW => few_any (hV1.quiet hW) 100 (by omega)
  have hmay := maycall_any most
  obtain ⟨A1, c1, rfl, _⟩ := hV1.2
  obtain ⟨A3, c3, rfl, _⟩ := id hV
  obtain ⟨F, hF⟩ : ∃ F, F = fewB l 100 := ⟨_, rfl⟩
  obtain ⟨B, hB⟩ : ∃ B, B = mayB most := ⟨_, rfl⟩
  rw [← hF] at hfew
  rw [← hB] at hmay
  obtain ⟨m1, hm1⟩ : ∃ m, m = l.length := ⟨_, rfl⟩
  obtain ⟨n3, hn3⟩ : ∃ n, n = aff.length := ⟨_, rfl⟩
  rw [← hm1] at hV1 hfew ⊢
  rw [← hn3] at hV hfar ⊢
  have HV1 := Lib.hid hV1
  have HV := Lib.hid hV
  have HFR := Lib.hid hfar
  have HN3 := Lib.hid hn3
  cases B with
  | false =>
    have HN := qnew_no most w (mayB_no hB.symm)
    clear hF hB hV1 hV hm1 hn3 hfar
    cases F with
    | false =>
      go_enter Try.func5, Try.ntmps5
      go_wp2_with (first
        | (go_at_call 9; refine HN.mono ?_; rintro e w' ⟨rfl, rfl⟩)
        | (go_at_call 7; refine (hfew _ (Chg.refl _ _)).mono ?_; rintro e w' ⟨rfl, rfl⟩)
        | (go_at_call 10; refine (hmay _).mono ?_; rintro e w' ⟨rfl, rfl⟩)
        | (go_at_call 8; refine (known_any _).mono ?_; rintro e w9 ⟨rfl, hc⟩))
      go_ret
      exact ⟨rfl, hc⟩
    | true =>
      go_enter Try.func5, Try.ntmps5
      go_wp2_with (first
        | (go_at_call 9; refine HN.mono ?_; rintro e w' ⟨rfl, rfl⟩)
        | (go_at_call 7; refine (hfew _ (Chg.refl _ _)).mono ?_; rintro e w' ⟨rfl, rfl⟩)
        | (go_at_call 10; refine (hmay _).mono ?_; rintro e w' ⟨rfl, rfl⟩)
        | (go_at_call 8; refine (known_any _).mono ?_; rintro e w9 ⟨rfl, hc⟩))
      go_ret
      exact ⟨rfl, hc⟩
  | true =>
    obtain ⟨b2, b4⟩ := mayB_yes hB.symm
    obtain ⟨M, rfl⟩ := Int.eq_ofNat_of_zero_le (by omega : 0 ≤ most)
    have HN := qnew_ok M w (by omega) (by omega)
    cases F with
    | false =>
      clear hF hB hV1 hV hm1 hn3 hfar b2 b4
      go_enter Try.func5, Try.ntmps5
      go_wp2_with (first
        | (go_at_call 9; refine HN.mono ?_; rintro e w1 ⟨q, g, h, rfl, hM⟩; have HM1 := Lib.hid hM.2.2; clear hM)
        | (go_at_call 7; refine (hfew _ HM1.out).mono ?_; rintro e w' ⟨rfl, rfl⟩)
        | (go_at_call 10; refine (hmay _).mono ?_; rintro e w' ⟨rfl, rfl⟩)
        | (go_at_call 8; refine (known_any _).mono ?_; rintro e w9 ⟨rfl, hc⟩))
      go_ret
      exact ⟨rfl, HM1.out.then hc⟩
    | true =>
      have hs1 := fewB_len hF.symm
      rw [← hm1] at hs1
      by_cases hbig : 100 < n3
      · have hb' : (100 : Int) < (n3 : Int) := by omega
        clear hF hB hV1 hV hm1 hn3 hfar b2 b4
        go_enter Try.func5, Try.ntmps5
        go_wp2_with (first
          | (go_at_call 9; refine HN.mono ?_; rintro e w1 ⟨q, g, h, rfl, hM⟩; have HM1 := Lib.hid hM.2.2; clear hM)
          | (go_at_call 7; refine (hfew _ HM1.out).mono ?_; rintro e w' ⟨rfl, rfl⟩)
          | (go_at_call 10; refine (hmay _).mono ?_; rintro e w' ⟨rfl, rfl⟩)
          | (go_at_call 8; refine (known_any _).mono ?_; rintro e w9 ⟨rfl, hc⟩))
        go_ret
        exact ⟨rfl, HM1.out.then hc⟩
      · have hb' : ¬ (100 : Int) < (n3 : Int) := by omega
        have hn4 : n3 ≤ 100 := by omega
        clear hF hB hV1 hV hm1 hn3 hfar b2 b4
        go_enter Try.func5, Try.ntmps5
        go_wp2_with (first
          | (go_at_call 9; refine HN.mono ?_; rintro e w1 ⟨q, g, h, rfl, hM⟩; have HM1 := Lib.hid hM.2.2; have H1 := Lib.hid (Between.new hM); clear hM)
          | (go_at_call 7; refine (hfew _ HM1.out).mono ?_; rintro e w' ⟨rfl, rfl⟩)
          | (go_at_call 10; refine (hmay _).mono ?_; rintro e w' ⟨rfl, rfl⟩)
          | (go_at_call 11; refine (rnew_any _ _).mono ?_; rintro e w2 ⟨rfl, rfl⟩))
        generalize hr : w1.heap.size = r at H1 ⊢
        clear hr
        go_loopw [12] (fun i wr => ∃ k : Nat, k ≤ m1 ∧ i = .int .i64 k ∧ Hid (Between w q g h r M wr)) (fun i wr => m1 - (intOf i).toNat)
        case atStart => exact ⟨0, Nat.zero_le _, rfl, H1⟩
        case round =>
          obtain ⟨k, hk, rfl, hB⟩ := hrel
          by_cases hlt : k < m1
          · obtain ⟨b, off, kind, G, yes, A9, n9, c9, rfl, hfit, d0, d1, d2, d3⟩ := HV1.out.at_ hB.out.chg0 hlt
            have i0 : (0 : Int) ≤ (k : Int) := by omega
            have i1 : (k : Int) < (m1 : Int) := by omega
            have HD := hB.out.does _ hfit
            simp only [ActV.val] at HD
            clear hB hfit
            go_wp2_with (go_at_call 12; refine HD.mono ?_; rintro e w4 ⟨rfl, hB2⟩; have HB2 := Lib.hid hB2; clear hB2)
            go_roundw
            case rel => exact ⟨k + 1, by omega, by go_num, HB2⟩
            case measure => simp [intOf]; omega
          · obtain rfl : k = m1 := by omega
            clear H1 hlt
            obtain ⟨S, L, N, q1, q2, q3, q4, q5⟩ := hB.out
            obtain ⟨z1, z2, z3, z4⟩ := q1.small
            obtain ⟨VL, VN, hBR, hRd, _, _⟩ := q1.ref
            obtain ⟨A, c, rfl, _⟩ := hRd.open_
            have r0 := hBR.cell 0
            obtain ⟨n, hn⟩ : ∃ n, n = L.length := ⟨_, rfl⟩
            simp only [List.getElem?_toArray, List.getElem?_cons_zero, ← hn] at r0
            rw [← hn] at hRd z1
            have Q1 := Lib.hid q1
            have Q2 := Lib.hid q2
            have Q4 := Lib.hid q4
            have Q5 := Lib.hid q5
            have HRd := Lib.hid hRd
            have HNN := Lib.hid hn
            clear q1 q2 q3 q4 q5 hB hBR hRd hn
            go_wp2_with (first
              | (at_builtin; refine wpList_append_rs (xs := []) (n := n) _ rfl _ _ rfl (by rfl) (by rfl) (Row.nil _ _ _) HRd.out (by have := HNN.out; simp only [List.length_nil]; omega) (by have := HNN.out; simp only [List.length_nil]; omega) ?_; intro A4 c4 w2 hr4 hg4 hf4; simp only [List.nil_append] at hr4; have HR4 := Lib.hid hr4; have HC4 := Lib.hid (show Chg [] wr w2 from (Chg.refl _ _).grown hg4 (fun k hk => by cases hk)); have HF4 := Lib.hid (show ∀ k ∈ foot (.slice A4 n c4), wr.heap.size ≤ k from fun k hk => (hf4 k hk).elim (fun h => by cases h) (fun h => h)); clear hr4 hg4 hf4)
              | (at_builtin; refine wpList_append_bytes (l := aff) _ rfl _ _ rfl (by rfl) (by rfl) (HV.out.quiet (Q4.out.then HC4.out)) (by have := HN3.out; omega) ?_; intro A5 c5 w3 hb5 hf5 hc5; rw [← HN3.out]; rw [← HN3.out] at hb5 hf5; have HB5 := Lib.hid hb5; have HF5 := Lib.hid hf5; have HC5 := Lib.hid (HC4.out.then hc5); have HC5' := Lib.hid hc5; clear hb5 hf5 hc5)
              | (go_at_call 18; refine (qsteal_any (p := p) (Q1.out.queue.quiet HC5.out) HB5.out (.inr (fun k hk hm => by have e1 := HF5.out k hk; have e2 := Q1.out.queue.lt k hm; have e3 := HC4.out.size; omega))).mono ?_; rintro e w4 ⟨vx, rfl, hT⟩; have HT := Lib.hid hT; clear hT))
            have hT := HT.out
            obtain ⟨f, hf⟩ : ∃ f, f = mayP aff p := ⟨_, rfl⟩
            obtain ⟨X, hX⟩ : ∃ X, X = stealS f L N := ⟨_, rfl⟩
            rw [← hf] at hT
            have hsto : Stolen w w3 w4 q g h r M S L N f vx := ⟨Q1.out.quiet HC5.out, Q5.out, hT, Q2.out, Q4.out.then HC5.out⟩
            have hnh : ∀ x ∈ X, hasQ (stealL f L) (stealN f L N) x = false := fun x hx => hsto.not_has (hX ▸ hx)
            have hmy : ∀ x ∈ X, f x = true := fun x hx => stealS_may f L N x (hX ▸ hx)
            obtain ⟨hl1, hl2⟩ := stealS_len f L N
            rw [← hX] at hT hl1 hl2
            have hc4 := hT.2.2.2
            have hqnew : ∀ j ∈ [q, g, h], w.heap.size ≤ j := fun j hj => Q2.out j (by simp at hj ⊢; rcases hj with h9 | h9 | h9 <;> simp [h9])
            have hqlt := Q1.out.queue.lt
            have zz := HC4.out.size
            have hwas : Rd w4 (.slice A4 n c4) L := ((Rd.of_row HR4.out).quiet HC5'.out).chg hc4 (fun j hj hm => by have := HF4.out j hj; have := hqlt j hm; omega)
            have hown : Bs w4 (.slice A5 n3 c5) aff := HB5.out.chg hc4 (.inr (fun j hj hm => by have := HF5.out j hj; have := hqlt j hm; omega))
            have haff : Bs w4 (.slice A3 n3 c3) aff := (HV.out.quiet (Q4.out.then HC5.out)).chg hc4 (HFR.out.imp id (fun hh j hj hm => by have := hh j hj; have := hqnew j hm; omega))
            have hmc : ∀ W, Chg [] w4 W → ∀ x, Calls Try.prog 21 #[.int .i64 x, .int .i64 p, .slice A3 n3 c3] W fun e w' => e = .returned (.bool (f x)) ∧ W = w' := fun W hW x => by rw [hf]; exact rmay_any (haff.quiet hW) x p
            have cv1 := conv_any hown
            have cv2 := conv_any haff
            have cv3 := neq_str (strOfNums aff)
            obtain ⟨sb, hsb⟩ : ∃ s, s = strOfNums aff := ⟨_, rfl⟩
            rw [← hsb] at cv1 cv2 cv3
            have hqh := fun W (hW : Chg [] w4 W) => fun x => qhas_any (hT.1.quiet hW) x
            have hqa := fun W (hq : QueueAt W q g h M (stealL f L) (stealN f L N)) => qall_any hq
            have hrs := fun W (hW : Chg [] w4 W) => rsteal_any (p := p) ((hsto.two.rest hc4).quiet hW) (by omega) (haff.quiet hW) (HFR.out.imp id (fun hh j hj e => by have := hh j hj; have := Q2.out r (by simp); omega))
            rw [← hf, ← hX] at hrs
            have hrdx := hT.rd
            obtain ⟨A6, c6, rfl, _⟩ := hT.2.1.val
            obtain ⟨x, hx⟩ : ∃ x, x = X.length := ⟨_, rfl⟩
            rw [← hx] at hl1 hl2 hrdx ⊢
            obtain ⟨C, hC⟩ : ∃ C, C = L.countP f := ⟨_, rfl⟩
            rw [← hC] at hl1 hl2
            have hx8 : X.length ≤ 8192 := by
              have h1 : C ≤ L.length := by rw [hC]; exact List.countP_le_length
              have h2 := HNN.out
              rcases Nat.eq_zero_or_pos C with h0 | h0
              · have := hl2 h0; omega
              · have := hl1 h0; omega
            have HTT := Lib.hid hT
            have HST := Lib.hid hsto
            have HNH := Lib.hid hnh
            have HMY := Lib.hid hmy
            have HC4' := Lib.hid hc4
            have HW := Lib.hid hwas
            have HMC := Lib.hid hmc
            have HQH := Lib.hid hqh
            have HQA := Lib.hid hqa
            have HRS := Lib.hid hrs
            have HRX := Lib.hid hrdx
            have HXL := Lib.hid hx
            have HCC := Lib.hid hC
            have HLT := Lib.hid hqlt
            clear HT hT hf hX hsto hnh hmy hc4 hqnew hqlt zz hwas hown haff hmc hsb hqh hqa hrs hrdx hx hC
            go_loop [16, 17] (fun s i => ∃ k : Nat, k ≤ n ∧ i = .int .i64 k ∧ s = .int .i64 ((L.take k).countP f : Nat)) (fun _ i => n - (intOf i).toNat)
            case atStart => exact ⟨0, Nat.zero_le _, rfl, rfl⟩
            case round =>
              obtain ⟨j, hj, rfl, rfl⟩ := hrel
              have hcn : (L.take j).countP f ≤ n := by
                have h1 := List.countP_le_length (p := f) (l := L.take j)
                have := HNN.out
                rw [List.length_take] at h1; omega
              by_cases hlt : j < n
              · obtain ⟨y, hy⟩ : ∃ y, L[j]? = some y := ⟨_, List.getElem?_eq_getElem (by rw [← HNN.out]; exact hlt)⟩
                obtain ⟨b, o, hA4, _, hce⟩ : ∃ b o, A4 = some ⟨b, o, none⟩ ∧ b < w4.heap.size ∧ w4.cell? ⟨b, o + j, none⟩ = some (.int .i64 y) := by
                  obtain ⟨A', c', hv, _, _, _, ho⟩ := HW.out.open_
                  simp only [Value.slice.injEq] at hv
                  obtain ⟨rfl, _, rfl⟩ := hv
                  exact ho j y hy
                subst hA4
                have hcall := HMC.out w4 (Chg.refl _ _) y
                have HT := Lib.hid (show (L.take (j + 1)).countP f = (L.take j).countP f + (if f y then 1 else 0) by
                  obtain ⟨hk9, rfl⟩ := List.getElem?_eq_some_iff.1 hy
                  rw [List.take_succ_eq_append_getElem hk9, List.countP_append]
                  simp [List.countP_cons])
                obtain ⟨D, hD⟩ : ∃ D, D = (L.take j).countP f := ⟨_, rfl⟩
                rw [← hD] at HT hcn ⊢
                have i0 : (0 : Int) ≤ (j : Int) := by omega
                have i1 : (j : Int) < (n : Int) := by omega
                obtain ⟨Z, hZ⟩ : ∃ Z, Z = f y := ⟨_, rfl⟩
                rw [← hZ] at hcall HT
                clear hy hD hZ
                cases Z with
                | true =>
                  go_wp2_with (go_at_call 21; refine hcall.mono ?_; rintro e w' ⟨rfl, rfl⟩)
                  go_round
                  case rel => exact ⟨j + 1, by omega, by go_num, by rw [HT.out]; simp⟩
                  case measure => simp [intOf]; omega
                | false =>
                  go_wp2_with (go_at_call 21; refine hcall.mono ?_; rintro e w' ⟨rfl, rfl⟩)
                  go_round
                  case rel => exact ⟨j + 1, by omega, by go_num, by rw [HT.out]; simp⟩
                  case measure => simp [intOf]; omega
              · obtain rfl : j = n := by omega
                have HE := Lib.hid (show (L.take j).countP f = C by rw [HNN.out, List.take_length, HCC.out])
                rw [HE.out] at hcn ⊢
                clear hlt
                rcases Nat.eq_zero_or_pos C with h0 | h0
                · subst h0
                  have hx1 : ¬ (1 : Int) < (x : Int) := by have := hl2 rfl; omega
                  have e0 : ((0 : Int) == 0) = true := by simp
                  clear hl1 hl2
                  go_wp2
                  have hx9 : x ≤ 8192 := by have := HXL.out; omega
                  go_loopw [18] (fun i wr' => ∃ k : Nat, k ≤ x ∧ i = .int .i64 k ∧ Hid (Chg [] w4 wr')) (fun i _ => x - (intOf i).toNat)
                  case atStart => exact ⟨0, Nat.zero_le _, rfl, Lib.hid (Chg.refl _ _)⟩
                  case round =>
                    obtain ⟨j3, hj3, rfl, HCx⟩ := hrel
                    by_cases hlt3 : j3 < x
                    · obtain ⟨y, hy⟩ : ∃ y, X[j3]? = some y := ⟨_, List.getElem?_eq_getElem (by rw [← HXL.out]; exact hlt3)⟩
                      have hmem := List.mem_of_getElem? hy
                      obtain ⟨b, o, hA6, _, hce⟩ : ∃ b o, A6 = some ⟨b, o, none⟩ ∧ b < wr.heap.size ∧ wr.cell? ⟨b, o + j3, none⟩ = some (.int .i64 y) := by
                        obtain ⟨A', c', hv, _, _, _, ho⟩ := (HRX.out.quiet HCx.out).open_
                        simp only [Value.slice.injEq] at hv
                        obtain ⟨rfl, _, rfl⟩ := hv
                        exact ho j3 y hy
                      subst hA6
                      have hcl1 := HMC.out wr HCx.out y
                      rw [HMY.out y hmem] at hcl1
                      have hcl2 := HQH.out wr HCx.out y
                      rw [HNH.out y hmem] at hcl2
                      have i0 : (0 : Int) ≤ (j3 : Int) := by omega
                      have i1 : (j3 : Int) < (x : Int) := by omega
                      clear hy hmem
                      go_wp2_with (first
                        | (go_at_call 21; refine hcl1.mono ?_; rintro e w' ⟨rfl, rfl⟩)
                        | (go_at_call 19; refine hcl2.mono ?_; rintro e w6 ⟨rfl, hc⟩; have HC6 := Lib.hid (HCx.out.then hc); clear hc))
                      go_roundw
                      case rel => exact ⟨j3 + 1, by omega, by go_num, HC6⟩
                      case measure => simp [intOf]; omega
                    · obtain rfl : j3 = x := by omega
                      have hsm := fun W v1 v2 (h1 : Rd W v1 X) (h2 : Rd W v2 X) => rsame_any h1 h2 hx8 hx8
                      simp only [beq_self_eq_true] at hsm
                      have hst := HRS.out _ HCx.out
                      have HSL := Lib.hid (HST.out.small HTT.out)
                      have HAL := Lib.hid (HST.out.small2 HTT.out)
                      clear hlt3
                      go_wp2_with (first
                        | (go_at_call 22; refine hst.mono ?_; rintro e w6 ⟨v2, rfl, hU⟩; obtain ⟨u1, u2, u3⟩ := hU; have hD := HST.out.after HTT.out HCx.out u3; obtain ⟨d0, S9, d1, d3⟩ := hD; have HX6 := Lib.hid ((HRX.out.quiet HCx.out).chg d0 (fun k hk hm => by have e1 := HTT.out.2.2.1 k (by rw [← HXL.out]; exact hk); have e2 := HST.out.two.ref.lt r HST.out.two.ref.mem; simp at hm; omega)); have hq6 := d1.queue; have HR6 := Lib.hid d1.ref; have HQ6 := Lib.hid hq6; have HC6 := Lib.hid d3; have HU1 := Lib.hid u1; have hs6 := hsm _ _ _ HX6.out HU1.out; clear u1 u2 u3 d0 d1 d3 hq6)
                        | (go_at_call 23; ((with_reducible refine hs6.mono ?_); rintro e w7 ⟨rfl, hc⟩); have H7 := Lib.hid hc; clear hc)
                        | (go_at_call 24; refine (HQA.out _ (HQ6.out.quiet H7.out)).mono ?_; rintro e w8 ⟨v8, rfl, hf8⟩; have H8 := Lib.hid hf8; have hr8 := rall_any (HR6.out.quiet (H7.out.then hf8.2.2)) HSL.out; clear hf8)
                        | (go_at_call 25; refine hr8.mono ?_; rintro e w9 ⟨v9, rfl, hf9⟩; have H9 := Lib.hid hf9; have hs9 := rsame_any (H8.out.rd.quiet hf9.2.2) hf9.rd HAL.out HAL.out; rw [beq_self_eq_true] at hs9; clear hf9)
                        | (go_at_call 23; ((with_reducible refine hs9.mono ?_); rintro e w10 ⟨rfl, hc⟩); have H10 := Lib.hid hc; clear hc)
                        | (go_at_call 8; refine (known_any _).mono ?_; rintro e w11 ⟨rfl, hc⟩; have H11 := Lib.hid hc; clear hc))
                      go_ret
                      exact ⟨rfl, (((HC6.out.then H7.out).then H8.out.2.2).then H9.out.2.2).then (H10.out.then H11.out)⟩
                · have hx1 : ((x : Int) != ((C : Int) + 1) / 2) = false := by have := hl1 h0; simp; omega
                  have e0 : ((C : Int) == 0) = false := by simp; omega
                  have e1 : (0 : Int) < (C : Int) := by omega
                  clear hl1 hl2
                  go_wp2
                  have hx9 : x ≤ 8192 := by have := HXL.out; omega
                  go_loopw [18] (fun i wr' => ∃ k : Nat, k ≤ x ∧ i = .int .i64 k ∧ Hid (Chg [] w4 wr')) (fun i _ => x - (intOf i).toNat)
                  case atStart => exact ⟨0, Nat.zero_le _, rfl, Lib.hid (Chg.refl _ _)⟩
                  case round =>
                    obtain ⟨j3, hj3, rfl, HCx⟩ := hrel
                    by_cases hlt3 : j3 < x
                    · obtain ⟨y, hy⟩ : ∃ y, X[j3]? = some y := ⟨_, List.getElem?_eq_getElem (by rw [← HXL.out]; exact hlt3)⟩
                      have hmem := List.mem_of_getElem? hy
                      obtain ⟨b, o, hA6, _, hce⟩ : ∃ b o, A6 = some ⟨b, o, none⟩ ∧ b < wr.heap.size ∧ wr.cell? ⟨b, o + j3, none⟩ = some (.int .i64 y) := by
                        obtain ⟨A', c', hv, _, _, _, ho⟩ := (HRX.out.quiet HCx.out).open_
                        simp only [Value.slice.injEq] at hv
                        obtain ⟨rfl, _, rfl⟩ := hv
                        exact ho j3 y hy
                      subst hA6
                      have hcl1 := HMC.out wr HCx.out y
                      rw [HMY.out y hmem] at hcl1
                      have hcl2 := HQH.out wr HCx.out y
                      rw [HNH.out y hmem] at hcl2
                      have i0 : (0 : Int) ≤ (j3 : Int) := by omega
                      have i1 : (j3 : Int) < (x : Int) := by omega
                      clear hy hmem
                      go_wp2_with (first
                        | (go_at_call 21; refine hcl1.mono ?_; rintro e w' ⟨rfl, rfl⟩)
                        | (go_at_call 19; refine hcl2.mono ?_; rintro e w6 ⟨rfl, hc⟩; have HC6 := Lib.hid (HCx.out.then hc); clear hc))
                      go_roundw
                      case rel => exact ⟨j3 + 1, by omega, by go_num, HC6⟩
                      case measure => simp [intOf]; omega
                    · obtain rfl : j3 = x := by omega
                      have hsm := fun W v1 v2 (h1 : Rd W v1 X) (h2 : Rd W v2 X) => rsame_any h1 h2 hx8 hx8
                      simp only [beq_self_eq_true] at hsm
                      have hst := HRS.out _ HCx.out
                      have HSL := Lib.hid (HST.out.small HTT.out)
                      have HAL := Lib.hid (HST.out.small2 HTT.out)
                      clear hlt3
                      go_wp2_with (first
                        | (go_at_call 22; refine hst.mono ?_; rintro e w6 ⟨v2, rfl, hU⟩; obtain ⟨u1, u2, u3⟩ := hU; have hD := HST.out.after HTT.out HCx.out u3; obtain ⟨d0, S9, d1, d3⟩ := hD; have HX6 := Lib.hid ((HRX.out.quiet HCx.out).chg d0 (fun k hk hm => by have e1 := HTT.out.2.2.1 k (by rw [← HXL.out]; exact hk); have e2 := HST.out.two.ref.lt r HST.out.two.ref.mem; simp at hm; omega)); have hq6 := d1.queue; have HR6 := Lib.hid d1.ref; have HQ6 := Lib.hid hq6; have HC6 := Lib.hid d3; have HU1 := Lib.hid u1; have hs6 := hsm _ _ _ HX6.out HU1.out; clear u1 u2 u3 d0 d1 d3 hq6)
                        | (go_at_call 23; ((with_reducible refine hs6.mono ?_); rintro e w7 ⟨rfl, hc⟩); have H7 := Lib.hid hc; clear hc)
                        | (go_at_call 24; refine (HQA.out _ (HQ6.out.quiet H7.out)).mono ?_; rintro e w8 ⟨v8, rfl, hf8⟩; have H8 := Lib.hid hf8; have hr8 := rall_any (HR6.out.quiet (H7.out.then hf8.2.2)) HSL.out; clear hf8)
                        | (go_at_call 25; refine hr8.mono ?_; rintro e w9 ⟨v9, rfl, hf9⟩; have H9 := Lib.hid hf9; have hs9 := rsame_any (H8.out.rd.quiet hf9.2.2) hf9.rd HAL.out HAL.out; rw [beq_self_eq_true] at hs9; clear hf9)
                        | (go_at_call 23; ((with_reducible refine hs9.mono ?_); rintro e w10 ⟨rfl, hc⟩); have H10 := Lib.hid hc; clear hc)
                        | (go_at_call 8; refine (known_any _).mono ?_; rintro e w11 ⟨rfl, hc⟩; have H11 := Lib.hid hc; clear hc))
                      go_ret
                      exact ⟨rfl, (((HC6.out.then H7.out).then H8.out.2.2).then H9.out.2.2).then (H10.out.then H11.out)⟩
end Go.Proofs
