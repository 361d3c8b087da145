import Derived.Test.YtfpljhjndjpdmaaRiV
namespace Go.Proofs
open Go.RowKit
set_option linter.unusedVariables false

theorem Made.act {w wr : World} {g h M : Nat} {L : List Int} (H : Made M L g h w wr) (k n : Int) (n0 : -9223372036854775808 ≤ n) (n1 : n ≤ 9223372036854775807) :
    Calls Try.prog 10 #[.pointer (some ⟨g, 0, none⟩), .pointer (some ⟨wr.heap.size, 0, none⟩), .agg #[.int .i64 k, .int .i64 n]] (wr.alloc (.cells #[.slice none 0 0, .int .i64 (M : Nat)] 31))
      fun e w' => (∃ v : Bool, e = .returned (.bool v)) ∧ ∃ L', Made M L' g h w w' := by
  obtain ⟨h1, h2, h3, h4⟩ := H
  have hlt := h1.lt
  have hz := h4.size
  have HT : Two (wr.alloc (.cells #[.slice none 0 0, .int .i64 (M : Nat)] 31)) g h wr.heap.size [wr.heap.size] M M L [] :=
    ⟨h1.quiet ((Chg.refl _ _).alloc _), RefAt.new wr _, fun k hk hm => by have := hlt k hk; simp at hm; omega⟩
  refine (do_any HT (by simp) k n n0 n1).mono ?_
  rintro e w' ⟨⟨v, he, _⟩, S', k1, _, k3⟩
  exact ⟨⟨v, he⟩, _, k1.ring, h2, h3, (h4.alloc _).trans k3 (fun j hj => .inr (by simp at hj; rcases hj with rfl | rfl | rfl <;> omega))⟩
theorem pops_none {L : List Int} {k : Nat} (h : ¬ k < L.length) : L.drop k = [] ∧ L.take (k + 1) = L.take k ∧ L.drop (k + 1) = [] :=
  ⟨List.drop_eq_nil_of_le (by omega), by rw [List.take_of_length_le (by omega), List.take_of_length_le (by omega)], List.drop_eq_nil_of_le (by omega)⟩
set_option maxRecDepth 100000 in
set_option maxHeartbeats 3200000 in
theorem takes_any (most : Int) (V : Value) (l : List ActV) (n : Int) (n0 : -9223372036854775808 ≤ n) (n1 : n ≤ 9223372036854775807) (w : World) (hV : Acts w V l) :
    Calls Try.prog 6 #[.int .i64 most, V, .int .i64 n] w fun e w' => e = .returned (.bool true) ∧ Chg [] w w' := by
  obtain ⟨A, c, rfl, hcell⟩ := hV
  have HCell := Lib.hid hcell
  clear hcell
  by_cases hm : most < 1 ∨ 4096 < most
  · have HN := new_no most w hm
    clear hm
    go_enter Try.func6, Try.ntmps6
    go_wp2_with (first
      | (go_at_call 8; refine HN.mono ?_; rintro e w' ⟨rfl, rfl⟩)
      | (go_at_call 9; refine (known_any _).mono ?_; rintro e w1 ⟨rfl, hc⟩))
    go_ret
    exact ⟨rfl, hc⟩
  · obtain ⟨M, rfl⟩ := Int.eq_ofNat_of_zero_le (by omega : 0 ≤ most)
    have HN := new_ok M w (by omega) (by omega)
    obtain ⟨m, hmm⟩ : ∃ m, m = l.length := ⟨_, rfl⟩
    rw [← hmm]
    have HM := Lib.hid hmm
    clear hm hmm
    by_cases hlen : 100 < m
    · go_enter Try.func6, Try.ntmps6
      go_wp2_with (first
        | (go_at_call 8; refine HN.mono ?_; rintro e w1 ⟨g, h, rfl, hM⟩; have H1 := Lib.hid hM; clear hM)
        | (go_at_call 9; refine (known_any _).mono ?_; rintro e w2 ⟨rfl, hc⟩))
      go_ret
      exact ⟨rfl, H1.out.2.2.2.then hc⟩
    · by_cases hn : 200 < n
      · go_enter Try.func6, Try.ntmps6
        go_wp2_with (first
          | (go_at_call 8; refine HN.mono ?_; rintro e w1 ⟨g, h, rfl, hM⟩; have H1 := Lib.hid hM; clear hM)
          | (go_at_call 9; refine (known_any _).mono ?_; rintro e w2 ⟨rfl, hc⟩))
        go_ret
        exact ⟨rfl, H1.out.2.2.2.then hc⟩
      · have b1 : decide (100 < (m : Int)) = false := by simp; omega
        have b2 : decide (200 < n) = false := by simpa using hn
        obtain ⟨N, hN⟩ : ∃ N, N = n.toNat := ⟨_, rfl⟩
        have hgo : ∀ k : Nat, k < N → (k : Int) < n := fun k hk => by omega
        have hstop : ¬ ((N : Int) < n) := by omega
        have hN2 : N ≤ 200 := by omega
        have HGO := Lib.hid hgo
        have HNN := Lib.hid hN
        have HST := Lib.hid hstop
        clear hgo hN hstop
        go_enter Try.func6, Try.ntmps6
        go_wp2_with (go_at_call 8; refine HN.mono ?_; rintro e w1 ⟨g, h, rfl, hM⟩; have H1 := Lib.hid hM; clear hM)
        go_loopw [9] (fun i wr => ∃ k : Nat, k ≤ m ∧ i = .int .i64 k ∧ Hid (∃ L, Made M L g h w wr)) (fun i wr => m - (intOf i).toNat)
        case atStart => exact ⟨0, Nat.zero_le _, rfl, Lib.hid ⟨_, H1.out⟩⟩
        case round =>
          obtain ⟨k, hk, rfl, hB⟩ := hrel
          by_cases hlt : k < m
          · obtain ⟨a, ha⟩ : ∃ a, l[k]? = some a := ⟨_, List.getElem?_eq_getElem (by rw [← HM.out]; exact hlt)⟩
            obtain ⟨b, off, rfl, hb, hfit, c0, c1⟩ := HCell.out k a ha
            obtain ⟨L, hL⟩ := hB.out
            have d0 := (hL.2.2.2.cell (p := ⟨b, off + k * 2, none⟩) hb (by simp)).trans c0
            have d1 := (hL.2.2.2.cell (p := ⟨b, off + k * 2 + 1, none⟩) hb (by simp)).trans c1
            have lb : b < wr.heap.size := by have := hL.2.2.2.size; omega
            have i0 : (0 : Int) ≤ (k : Int) := by omega
            have i1 : (k : Int) < (m : Int) := by omega
            have HD := hL.act a.kind a.n hfit.n0 hfit.n1
            clear hL c0 c1 ha hB hfit hb
            obtain ⟨a1, a2⟩ := a
            simp only at d0 d1 HD
            go_wp2_with (go_at_call 10; refine HD.mono ?_; rintro e w4 ⟨⟨v, rfl⟩, hB2⟩; have HB2 := Lib.hid hB2; clear hB2)
            go_roundw
            case rel => exact ⟨k + 1, by omega, by go_num, HB2⟩
            case measure => simp [intOf]; omega
          · obtain ⟨L, hL⟩ := hB.out
            have HL := Lib.hid hL
            have hcp := copy_any hL.ring
            have hsm := hL.ring.small
            have HSM := Lib.hid hsm
            clear hL hB hsm
            go_wp2_with (first
              | (go_at_call 17; refine hcp.mono ?_; rintro e w2 ⟨g', h', rfl, hC⟩; have HC := Lib.hid hC; clear hC)
              | (go_at_call 15; refine (take_any (HL.out.ring.quiet HC.out.2.2.2) n n0 n1).mono ?_; rintro e w3 ⟨vx, rfl, hT⟩; have HT := Lib.hid hT; clear hT))
            have hne : ∀ j ∈ [g', h'], j ∉ [g, h] := fun j hj hm => by
              have q1 := HL.out.ring.lt j hm
              have q2 := HC.out.2.1
              have q3 := HC.out.2.2.1
              simp at hj
              rcases hj with rfl | rfl <;> omega
            have hlt2 : ∀ j ∈ [g', h'], j < w3.heap.size := fun j hj => by
              have := HC.out.ring.lt j hj
              have := HT.out.2.2.2.size
              omega
            have HS := Lib.hid (show Took w3 w3 g' h' M (.slice none 0 0) (L.take 0) (L.drop 0) from ⟨HC.out.ring.chg HT.out.2.2.2 hne, Row.nil _ _ _, fun j hj => (by cases hj), Chg.refl _ _⟩)
            have HNE := Lib.hid hne
            have HLT2 := Lib.hid hlt2
            clear hne hlt2 hcp
            go_loopw [12, 13] (fun v i wq => ∃ q : Nat, q ≤ N ∧ i = .int .i64 q ∧ Hid (Took w3 wq g' h' M v (L.take q) (L.drop q))) (fun _ i _ => N - (intOf i).toNat)
            case atStart => exact ⟨0, Nat.zero_le _, rfl, HS⟩
            case round =>
              obtain ⟨q, hq, rfl, hP⟩ := hrel
              by_cases hqN : q < N
              · have hQ := HGO.out q hqN
                by_cases hqL : q < L.length
                · obtain ⟨y, hd, ht⟩ := take_shorter L q hqL
                  have HH := hP.out
                  rw [hd] at HH
                  have HHH := Lib.hid HH
                  have hR := HH.1
                  have hlen : (L.take q).length + 1 ≤ 5000 := by rw [List.length_take]; omega
                  have HHT := Lib.hid ht
                  clear hd ht HH hP
                  go_wp2_with (first
                    | (go_at_call 13; refine (pop_some hR).mono ?_; rintro e w5 ⟨rfl, h2, hc2⟩; have H2 := Lib.hid h2; have HC2 := Lib.hid hc2; clear h2 hc2)
                    | (at_builtin; refine wpList_append_rd _ rfl _ _ rfl (by rfl) (by rfl) ((HHH.out.2.1.chg HC2.out (fun k hk hm => by have := HHH.out.2.2.1 k hk; have := HLT2.out k hm; omega)).alloc _) (Rd.one _ y) (by simp only [List.length_cons, List.length_nil]; omega) ?_; intro v' w6 hr hg hf; have HR := Lib.hid (HHH.out.step HLT2.out H2.out HC2.out hr hg hf); clear hr hg hf))
                  go_roundw
                  case rel => exact ⟨q + 1, by omega, by go_num, Lib.hid (by rw [HHT.out]; exact HR.out)⟩
                  case measure => simp [intOf]; omega
                · obtain ⟨p1, p2, p3⟩ := pops_none hqL
                  have HH := hP.out
                  rw [p1] at HH
                  have hR := HH.1
                  have HHH := Lib.hid (show Took w3 wr g' h' M _ (L.take (q + 1)) (L.drop (q + 1)) by rw [p2, p3]; exact HH)
                  clear HH hP p1 p2 p3
                  go_wp2_with (go_at_call 13; refine (pop_none hR).mono ?_; rintro e w5 ⟨rfl, rfl⟩)
                  go_roundw
                  case rel => exact ⟨q + 1, by omega, by go_num, HHH⟩
                  case measure => simp [intOf]; omega
              · obtain rfl : q = N := by omega
                have hst := HST.out
                have hPc := hP.out.2.2.2
                have R1 : RingAt wr g h M (L.drop q) := (HNN.out ▸ HT.out.1).chg hPc (fun j hj hm => HNE.out j hm hj)
                have X1 : Rd wr vx (L.take q) := (HNN.out ▸ Rd.of_row HT.out.2.1).chg hPc (fun j hj hm => by
                  have q1 := HT.out.2.2.1 j hj
                  have q2 := HC.out.ring.lt j hm
                  omega)
                have Y1 := Rd.of_row hP.out.2.1
                have HW := Lib.hid (show Chg [] w wr from ((HL.out.2.2.2.then HC.out.2.2.2).trans HT.out.2.2.2 (fun j hj => .inr (by have := HL.out.2.1; have := HL.out.2.2.1; simp at hj; rcases hj with rfl | rfl <;> omega))).trans hPc (fun j hj => .inr (by have := HC.out.2.1; have := HC.out.2.2.1; have := HL.out.2.2.2.size; simp at hj; rcases hj with rfl | rfl <;> omega)))
                have hsme := rsame_any X1 Y1 (by rw [List.length_take]; have := HSM.out; omega) (by rw [List.length_take]; have := HSM.out; omega)
                rw [beq_self_eq_true] at hsme
                have hdl : (L.drop q).length ≤ 8192 := by rw [List.length_drop]; have := HSM.out; omega
                have hrs := fun W (hW : Chg [] wr W) => same_yes hdl hdl (R1.has.quiet hW) (hP.out.1.has.quiet hW) (fun W' hW' => R1.room W' (hW.then hW')) (fun W' hW' => hP.out.1.room W' (hW.then hW'))
                simp only [beq_self_eq_true] at hrs
                clear R1 X1 Y1 hPc hP hdl
                go_wp2_with (first
                  | (go_at_call 16; refine hsme.mono ?_; rintro e w5 ⟨rfl, hc⟩; have H5 := Lib.hid hc; clear hc)
                  | (go_at_call 18; refine (hrs _ H5.out).mono ?_; rintro e w6 ⟨rfl, hc⟩; have H6 := Lib.hid hc; clear hc)
                  | (go_at_call 9; refine (known_any _).mono ?_; rintro e w7 ⟨rfl, hc⟩; have H7 := Lib.hid hc; clear hc))
                go_ret
                exact ⟨rfl, ((HW.out.then H5.out).then H6.out).then H7.out⟩
end Go.Proofs
