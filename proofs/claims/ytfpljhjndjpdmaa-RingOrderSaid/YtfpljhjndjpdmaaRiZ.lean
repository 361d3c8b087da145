import Derived.Test.YtfpljhjndjpdmaaRiW
import Derived.Test.YtfpljhjndjpdmaaRiI
namespace Go.Proofs
open Go.RowKit
set_option linter.unusedVariables false

/-- The ring, what went in, and what came out: three that lie apart. -/
structure Ord (w wr : World) (g h M : Nat) (a b : Value) (L I O : List Int) : Prop where
  ring : Made M L g h w wr
  rI : Row wr 3 1 a I.length (ints I)
  rO : Row wr 3 1 b O.length (ints O)
  fI : ∀ k ∈ foot a, w.heap.size ≤ k ∧ k ∉ [g, h] ∧ k ∉ foot b
  fO : ∀ k ∈ foot b, w.heap.size ≤ k ∧ k ∉ [g, h]
section
variable {w wr w1 w2 : World} {g h M : Nat} {a b v : Value} {L L' I O l : List Int}
theorem Ord.ringStep (H : Ord w wr g h M a b L I O) (hR : RingAt w1 g h M L') (hc : Chg [g, h] wr w1) : Ord w w1 g h M a b L' I O :=
  ⟨H.ring.step hR hc, H.rI.chg hc (fun k hk => (H.fI k hk).2.1), H.rO.chg hc (fun k hk => (H.fO k hk).2), H.fI, H.fO⟩
theorem Ord.quiet (H : Ord w wr g h M a b L I O) (hc : Chg [] wr w1) : Ord w w1 g h M a b L I O :=
  ⟨H.ring.later hc, H.rI.chg hc (fun _ _ h => by cases h), H.rO.chg hc (fun _ _ h => by cases h), H.fI, H.fO⟩
theorem Ord.chgI (H : Ord w wr g h M a b L I O) (hg : wr.grownBy w1 a.ownBlock) : Chg (foot a) wr w1 := (Chg.refl _ _).grown hg (fun k hk => .inl (row_mem hk))
theorem Made.far {S : List Nat} (H : Made M L g h w wr) (hc : Chg S wr w1) (hS : ∀ k ∈ S, w.heap.size ≤ k ∧ k ∉ [g, h]) : Made M L g h w w1 := by
  obtain ⟨h1, h2, h3, h4⟩ := H
  exact ⟨h1.chg hc (fun k hk hm => (hS k hm).2 hk), h2, h3, h4.trans hc (fun k hk => .inr (hS k hk).1)⟩
theorem Ord.appI (H : Ord w wr g h M a b L I O) (hr : Row w1 3 1 v (I ++ l).length (ints (I ++ l))) (hg : wr.grownBy w1 a.ownBlock) (hf : ∀ k ∈ foot v, k ∈ foot a ∨ wr.heap.size ≤ k) : Ord w w1 g h M v b L (I ++ l) O := by
  have hc : Chg (foot a) wr w1 := (Chg.refl _ _).grown hg (fun k hk => .inl (row_mem hk))
  have hlt := H.ring.1.lt
  have hlO := H.rO.lt
  have hz := H.ring.2.2.2.size
  refine ⟨H.ring.far hc (fun k hk => ⟨(H.fI k hk).1, (H.fI k hk).2.1⟩), hr, H.rO.chg hc (fun k hk hm => (H.fI k hm).2.2 hk), fun k hk => ?_, H.fO⟩
  rcases hf k hk with h9 | h9
  · exact H.fI k h9
  · exact ⟨by omega, fun hm => by have := hlt k hm; omega, fun hm => by have := hlO k hm; omega⟩
theorem Ord.appO (H : Ord w wr g h M a b L I O) (hr : Row w1 3 1 v (O ++ l).length (ints (O ++ l))) (hg : wr.grownBy w1 b.ownBlock) (hf : ∀ k ∈ foot v, k ∈ foot b ∨ wr.heap.size ≤ k) : Ord w w1 g h M a v L I (O ++ l) := by
  have hc : Chg (foot b) wr w1 := (Chg.refl _ _).grown hg (fun k hk => .inl (row_mem hk))
  have hlt := H.ring.1.lt
  have hlI := H.rI.lt
  have hz := H.ring.2.2.2.size
  refine ⟨H.ring.far hc H.fO, H.rI.chg hc (fun k hk hm => (H.fI k hk).2.2 hm), hr, fun k hk => ⟨(H.fI k hk).1, (H.fI k hk).2.1, fun hm => ?_⟩, fun k hk => ?_⟩
  · rcases hf k hm with h9 | h9
    · exact (H.fI k hk).2.2 h9
    · have := hlI k hk; omega
  · rcases hf k hk with h9 | h9
    · exact H.fO k h9
    · exact ⟨by omega, fun hm => by have := hlt k hm; omega⟩
end
theorem RingAt.fits {w : World} {g h M : Nat} {L : List Int} (H : RingAt w g h M L) : L.length ≤ M := by
  obtain ⟨zs, f, c, hl, _⟩ := H
  exact hl.many
/-- What holds in the midst: what went in is what came out, and what is there. -/
def Mids (w wr : World) (g h M : Nat) (a b : Value) (k : Nat) : Prop := ∃ L I O, Ord w wr g h M a b L I O ∧ I = O ++ L ∧ I.length ≤ k
set_option maxRecDepth 100000 in
set_option maxHeartbeats 3200000 in
theorem order_any (most : Int) (V U : Value) (l ps : List Int) (w : World) (hV : Nums w V l) (hU : Nums w U ps) :
    Calls Try.prog 4 #[.int .i64 most, V, U] w fun e w' => e = .returned (.bool true) ∧ Chg [] w w' := by
  obtain ⟨A, c, rfl, hcell⟩ := hV
  obtain ⟨B, d, rfl, hcellB⟩ := hU
  have HCell := Lib.hid hcell
  have HCellB := Lib.hid hcellB
  clear hcell hcellB
  obtain ⟨m, hmm⟩ : ∃ m, m = l.length := ⟨_, rfl⟩
  obtain ⟨p, hpp⟩ : ∃ p, p = ps.length := ⟨_, rfl⟩
  rw [← hmm, ← hpp]
  have HM := Lib.hid hmm
  have HP := Lib.hid hpp
  clear hmm hpp
  by_cases hm : most < 1 ∨ 4096 < most
  · have HN := new_no most w hm
    by_cases h1 : most < 1
    · clear hm
      go_enter Try.func4, Try.ntmps4
      go_wp2_with (first
        | (go_at_call 8; refine HN.mono ?_; rintro e w' ⟨rfl, rfl⟩)
        | (go_at_call 9; refine (known_any _).mono ?_; rintro e w1 ⟨rfl, hc⟩))
      go_ret
      exact ⟨rfl, hc⟩
    · have h2 : 4096 < most := by omega
      clear hm
      go_enter Try.func4, Try.ntmps4
      go_wp2_with (first
        | (go_at_call 8; refine HN.mono ?_; rintro e w' ⟨rfl, rfl⟩)
        | (go_at_call 9; refine (known_any _).mono ?_; rintro e w1 ⟨rfl, hc⟩))
      go_ret
      exact ⟨rfl, hc⟩
  · obtain ⟨M, rfl⟩ := Int.eq_ofNat_of_zero_le (by omega : 0 ≤ most)
    have HN := new_ok M w (by omega) (by omega)
    have d1 : ¬ ((M : Int) < 1) := by omega
    have d2 : ¬ (4096 < (M : Int)) := by omega
    have d1' : decide ((M : Int) < 1) = false := by simpa using d1
    have d2' : decide (4096 < (M : Int)) = false := by simpa using d2
    clear hm
    by_cases hlen : 200 < m
    · go_enter Try.func4, Try.ntmps4
      go_wp2_with (first
        | (go_at_call 8; refine HN.mono ?_; rintro e w1 ⟨g, h, rfl, hM⟩; have H1 := Lib.hid hM; clear hM)
        | (go_at_call 9; refine (known_any _).mono ?_; rintro e w2 ⟨rfl, hc⟩))
      go_ret
      exact ⟨rfl, H1.out.2.2.2.then hc⟩
    · by_cases hlp : 200 < p
      · have b1 : decide (200 < (m : Int)) = false := by simp; omega
        have b2 : decide (200 < (p : Int)) = true := by simp; omega
        go_enter Try.func4, Try.ntmps4
        go_wp2_with (first
          | (go_at_call 8; refine HN.mono ?_; rintro e w1 ⟨g, h, rfl, hM⟩; have H1 := Lib.hid hM; clear hM)
          | (go_at_call 9; refine (known_any _).mono ?_; rintro e w2 ⟨rfl, hc⟩))
        go_ret
        exact ⟨rfl, H1.out.2.2.2.then hc⟩
      · have b1 : decide (200 < (m : Int)) = false := by simp; omega
        have b2 : decide (200 < (p : Int)) = false := by simp; omega
        go_enter Try.func4, Try.ntmps4
        go_wp2_with (go_at_call 8; refine HN.mono ?_; rintro e w1 ⟨g, h, rfl, hM⟩; have H1 := Lib.hid hM; clear hM)
        have HB := Lib.hid (show Mids w w1 g h M (.slice none 0 0) (.slice none 0 0) 0 from ⟨[], [], [], ⟨H1.out, Row.nil _ _ _, Row.nil _ _ _, (fun k hk => by cases hk), (fun k hk => by cases hk)⟩, rfl, Nat.le_refl _⟩)
        go_loopg [9, 10, 11] m (fun G a b i wx => ∃ k : Nat, k + G = m ∧ i = .int .i64 k ∧ Hid (Mids w wx g h M a b k))
        case atStart => exact ⟨0, by omega, rfl, HB⟩
        case round =>
          obtain ⟨k, hk, rfl, hB⟩ := hrel
          obtain ⟨L, I, O, hO, hIO, hIk⟩ := hB.out
          have hWc := hO.ring.2.2.2
          have HO0 := Lib.hid hO
          have HIO := Lib.hid hIO
          have hsm := hO.ring.ring.small
          have HSM := Lib.hid hsm
          cases gk with
          | zero =>
            obtain rfl : k = m := by omega
            have hT := take_any hO.ring.ring 5000 (by omega) (by omega)
            rw [List.take_of_length_le (by simp; omega), List.drop_eq_nil_of_le (by simp; omega)] at hT
            have hlI : I.length ≤ 8192 := by omega
            have hlO : O.length + L.length ≤ 8192 := by have := congrArg List.length hIO; simp at this; omega
            have hkn : ¬ ((k : Int) < (k : Int)) := by omega
            clear hO hIO hB hWc hsm
            go_wp2_with (first
              | (go_at_call 15; refine hT.mono ?_; rintro e w3 ⟨v, rfl, hT⟩; have HT := Lib.hid hT; have HO1 := Lib.hid (HO0.out.ringStep hT.1 hT.2.2.2); clear hT)
              | (at_builtin; refine wpList_append_rd _ rfl _ _ rfl (by rfl) (by rfl) HO1.out.rO (Rd.of_row HT.out.2.1) (by omega) ?_; intro v' w4 hr hg hf; have HO2 := Lib.hid (HO1.out.appO hr hg hf); clear hr hg hf)
              | (go_at_call 16; refine (rsame_any (Rd.of_row HO2.out.rI) (Rd.of_row HO2.out.rO) (by omega) (by rw [List.length_append]; omega)).mono ?_; rintro e w5 ⟨he, hc⟩; rw [HIO.out, beq_self_eq_true] at he; subst he; have HO3 := Lib.hid (HO2.out.quiet hc); clear hc)
              | (go_at_call 14; refine (len_any HO3.out.ring.ring).mono ?_; rintro e w' ⟨rfl, rfl⟩)
              | (go_at_call 9; refine (known_any _).mono ?_; rintro e w6 ⟨rfl, hc⟩; have HC := Lib.hid hc; clear hc))
            go_ret
            exact ⟨rfl, HO3.out.ring.2.2.2.then HC.out⟩
          | succ G =>
            have hlt : k < m := by omega
            obtain ⟨x, hx⟩ : ∃ x, l[k]? = some x := ⟨_, List.getElem?_eq_getElem (by rw [← HM.out]; exact hlt)⟩
            obtain ⟨bb, off, rfl, hb, x0, x1, c0⟩ := HCell.out k x hx
            have d0 := (hWc.cell (p := ⟨bb, off + k, none⟩) hb (by simp)).trans c0
            have d0' : ∀ w2, Chg [g, h] wr w2 → w2.cell? ⟨bb, off + k, none⟩ = some (.int .i64 x) := fun w2 hc => by
              refine (hc.cell (p := ⟨bb, off + k, none⟩) (by have := hWc.size; show bb < wr.heap.size; omega) (fun hm => ?_)).trans d0
              have q1 := hO.ring.2.1
              have q2 := hO.ring.2.2.1
              simp at hm
              rcases hm with h9 | h9 <;> omega
            have D0 := Lib.hid d0'
            have i0 : (0 : Int) ≤ (k : Int) := by omega
            have i1 : (k : Int) < (m : Int) := by omega
            have hm200 : k ≤ 200 := by omega
            have HIk := Lib.hid hIk
            clear hO hIO hB hsm c0 hx d0' hIk
            by_cases hp : k < p
            · obtain ⟨P, hP⟩ : ∃ P, ps[k]? = some P := ⟨_, List.getElem?_eq_getElem (by rw [← HP.out]; exact hp)⟩
              obtain ⟨bB, offB, rfl, hbB, _, _, cB⟩ := HCellB.out k P hP
              have CB := Lib.hid cB
              have i2 : (k : Int) < (p : Int) := by omega
              clear cB hP hWc
              by_cases hroom : L.length < M
              all_goals
                go_wp2_with (first
                | (go_at_call 12; refine (push_room HO0.out.ring.ring x hroom).mono ?_; rintro e w2 ⟨rfl, hR, hc⟩; have HP1 := Lib.hid (HO0.out.ringStep hR hc); have d1 := D0.out _ hc; clear hR hc)
                | (go_at_call 12; refine (push_full HO0.out.ring.ring x hroom).mono ?_; rintro e w2 ⟨rfl, hc⟩; obtain ⟨z9, rfl⟩ : ∃ z, z = u9 := ⟨_, rfl⟩; have HO := Lib.hid (show Mids w w2 g h M _ _ (k + 1) from ⟨L, I, O, HO0.out.quiet hc, HIO.out, by have := HIk.out; omega⟩); clear hc)
                | (at_builtin; refine wpList_append_rd _ rfl _ _ rfl (by rfl) (by rfl) ((HP1.out.rI).alloc _) (Rd.one _ x) (by have := HIk.out; simp only [List.length_cons, List.length_nil]; omega) ?_; intro z9 w3 hr hg hf; have HO := Lib.hid (show Mids w w3 g h M _ _ (k + 1) from ⟨L ++ [x], I ++ [x], O, (HP1.out.quiet ((Chg.refl _ _).alloc _)).appI hr hg hf, (by rw [HIO.out, List.append_assoc]), (by have := HIk.out; simp; omega)⟩); clear hr hg hf))
                go_loopg [10, 12] 10 (fun G2 b i wx => ∃ j : Nat, j + G2 = 10 ∧ i = .int .i64 j ∧ Hid (Mids w wx g h M z9 b (k + 1)))
                case atStart => exact ⟨0, by omega, rfl, HO⟩
                case round =>
                  clear HO
                  obtain ⟨j, hj, rfl, HO⟩ := hrel
                  have cP : wr.cell? ⟨bB, offB + k, none⟩ = some (.int .i64 P) := by
                    obtain ⟨_, _, _, hO2, _⟩ := HO.out
                    exact (hO2.ring.2.2.2.cell (p := ⟨bB, offB + k, none⟩) hbB (by simp)).trans CB.out
                  cases gk with
                  | zero =>
                    obtain rfl : j = 10 := by omega
                    by_cases hjP : ((10 : Nat) : Int) < P
                    all_goals
                      go_wp2_with (first
                | (go_at_call 14; obtain ⟨L2, I2, O2, hO2, e2, l2⟩ := HO.out; have hft : ¬ ((M : Int) < (L2.length : Int)) := (by have := hO2.ring.ring.fits; omega); refine (len_any hO2.ring.ring).mono ?_; rintro e w' ⟨rfl, rfl⟩; clear hO2 e2 l2))
                      go_roundg G
                      case measure => omega
                      case rel => exact ⟨k + 1, by omega, by go_num, HO⟩
                  | succ G2 =>
                    have hj10 : (j : Int) < 10 := by omega
                    by_cases hjP : (j : Int) < P
                    · obtain ⟨L2, I2, O2, hO2, e2, l2⟩ := HO.out
                      have H2 := Lib.hid hO2
                      have E2 := Lib.hid e2
                      have K2 := Lib.hid l2
                      clear hO2 e2 l2
                      cases L2 with
                      | nil =>
                        go_wp2_with (go_at_call 13; refine (pop_none H2.out.ring.ring).mono ?_; rintro e w5 ⟨rfl, rfl⟩)
                        go_roundg G2
                        case measure => omega
                        case rel => exact ⟨j + 1, by omega, by go_num, HO⟩
                      | cons y L3 =>
                        clear HO
                        go_wp2_with (first
                          | (go_at_call 13; refine (pop_some H2.out.ring.ring).mono ?_; rintro e w5 ⟨rfl, hR, hc⟩; have H3 := Lib.hid (H2.out.ringStep hR hc); clear hR hc)
                          | (at_builtin; refine wpList_append_rd _ rfl _ _ rfl (by rfl) (by rfl) ((H3.out.rO).alloc _) (Rd.one _ y) (by have q1 := K2.out; have q2 := congrArg List.length E2.out; simp at q2; simp only [List.length_cons, List.length_nil]; omega) ?_; intro v9 w6 hr hg hf; have HO := Lib.hid (show Mids w w6 g h M _ _ (k + 1) from ⟨L3, I2, O2 ++ [y], (H3.out.quiet ((Chg.refl _ _).alloc _)).appO hr hg hf, (by rw [E2.out, List.append_assoc]; rfl), K2.out⟩); clear hr hg hf))
                        go_roundg G2
                        case measure => omega
                        case rel => exact ⟨j + 1, by omega, by go_num, HO⟩
                    · go_wp2_with (first
                | (go_at_call 14; obtain ⟨L2, I2, O2, hO2, e2, l2⟩ := HO.out; have hft : ¬ ((M : Int) < (L2.length : Int)) := (by have := hO2.ring.ring.fits; omega); refine (len_any hO2.ring.ring).mono ?_; rintro e w' ⟨rfl, rfl⟩; clear hO2 e2 l2))
                      go_roundg G
                      case measure => omega
                      case rel => exact ⟨k + 1, by omega, by go_num, HO⟩
            · have i2 : ¬ ((k : Int) < (p : Int)) := by omega
              clear hWc
              by_cases hroom : L.length < M
              all_goals
                go_wp2_with (first
                | (go_at_call 12; refine (push_room HO0.out.ring.ring x hroom).mono ?_; rintro e w2 ⟨rfl, hR, hc⟩; have HP1 := Lib.hid (HO0.out.ringStep hR hc); have d1 := D0.out _ hc; clear hR hc)
                | (go_at_call 12; refine (push_full HO0.out.ring.ring x hroom).mono ?_; rintro e w2 ⟨rfl, hc⟩; obtain ⟨z9, rfl⟩ : ∃ z, z = u9 := ⟨_, rfl⟩; have HO := Lib.hid (show Mids w w2 g h M _ _ (k + 1) from ⟨L, I, O, HO0.out.quiet hc, HIO.out, by have := HIk.out; omega⟩); clear hc)
                | (at_builtin; refine wpList_append_rd _ rfl _ _ rfl (by rfl) (by rfl) ((HP1.out.rI).alloc _) (Rd.one _ x) (by have := HIk.out; simp only [List.length_cons, List.length_nil]; omega) ?_; intro z9 w3 hr hg hf; have HO := Lib.hid (show Mids w w3 g h M _ _ (k + 1) from ⟨L ++ [x], I ++ [x], O, (HP1.out.quiet ((Chg.refl _ _).alloc _)).appI hr hg hf, (by rw [HIO.out, List.append_assoc]), (by have := HIk.out; simp; omega)⟩); clear hr hg hf)
                | (go_at_call 14; obtain ⟨L2, I2, O2, hO2, e2, l2⟩ := HO.out; have hft : ¬ ((M : Int) < (L2.length : Int)) := (by have := hO2.ring.ring.fits; omega); refine (len_any hO2.ring.ring).mono ?_; rintro e w' ⟨rfl, rfl⟩; clear hO2 e2 l2))
                go_roundg G
                case measure => omega
                case rel => exact ⟨k + 1, by omega, by go_num, HO⟩
end Go.Proofs
