import Derived.Test.YtoddffpbbnicpaaRvI
namespace Go.Proofs
open Go.RowKit
set_option linter.unusedVariables false

section
variable {w0 w w1 : World} {q g h r q' g' h' r' M : Nat} {S S' : List Nat} {L : List Int} {N : Option Int}
theorem Two.chg {T : List Nat} (H : Two w q g h r S M L N) (hc : Chg T w w1) (hT : ∀ k ∈ [q, g, h] ++ S, k ∉ T) : Two w1 q g h r S M L N :=
  ⟨H.queue.chg hc (fun k hk => hT k (List.mem_append_left _ hk)), H.ref.chg hc (fun k hk => hT k (List.mem_append_right _ hk)), H.apart⟩
theorem Two.lt (H : Two w q g h r S M L N) : ∀ k ∈ [q, g, h] ++ S, k < w.heap.size := fun k hk => by
  rcases List.mem_append.1 hk with h9 | h9
  · exact H.queue.lt k h9
  · exact H.ref.lt k h9
/-- Two queues and the document's, each apart from all others. -/
def Pair (w0 w : World) (q g h r q' g' h' r' M : Nat) : Prop :=
  ∃ S S' L L' N N', Two w q g h r S M L N ∧ Two w q' g' h' r' S' M L' N' ∧ (∀ k ∈ [q, g, h] ++ S, k ∉ [q', g', h'] ++ S') ∧ (∀ k ∈ [q, g, h] ++ S, w0.heap.size ≤ k) ∧ (∀ k ∈ [q', g', h'] ++ S', w0.heap.size ≤ k) ∧ Chg [] w0 w
theorem Pair.swap (H : Pair w0 w q g h r q' g' h' r' M) : Pair w0 w q' g' h' r' q g h r M := by
  obtain ⟨S, S', L, L', N, N', h1, h2, h3, h4, h5, h6⟩ := H
  exact ⟨S', S, L', L, N', N, h2, h1, fun k hk hm => h3 k hm hk, h5, h4, h6⟩
theorem Pair.quiet (H : Pair w0 w q g h r q' g' h' r' M) (hc : Chg [] w w1) : Pair w0 w1 q g h r q' g' h' r' M := by
  obtain ⟨S, S', L, L', N, N', h1, h2, h3, h4, h5, h6⟩ := H
  exact ⟨S, S', L, L', N, N', h1.quiet hc, h2.quiet hc, h3, h4, h5, h6.then hc⟩
theorem Pair.chg0 (H : Pair w0 w q g h r q' g' h' r' M) : Chg [] w0 w := by
  obtain ⟨S, S', L, L', N, N', h1, h2, h3, h4, h5, h6⟩ := H
  exact h6
theorem Pair.does (H : Pair w0 w q g h r q' g' h' r' M) (a : ActV) (hf : a.Fits w0 w0.heap.size) :
    Calls Try.prog 12 #[.pointer (some ⟨q, 0, none⟩), .pointer (some ⟨r, 0, none⟩), a.val] w fun e w' => e = .returned (.bool true) ∧ Pair w0 w' q g h r q' g' h' r' M := by
  obtain ⟨S, S', L, L', N, N', h1, h2, h3, h4, h5, h6⟩ := H
  have hr := h1.ref.mem
  have hlt := h2.lt
  have hz := h6.size
  have hin : ∀ j ∈ [q, g, h, r], j ∈ [q, g, h] ++ S := fun j hj => by
    simp at hj ⊢
    rcases hj with rfl | rfl | rfl | rfl
    · exact .inl rfl
    · exact .inr (.inl rfl)
    · exact .inr (.inr (.inl rfl))
    · exact .inr (.inr (.inr hr))
  refine (do_any h1 a w0.heap.size (hf.chg h6 (fun _ h => by cases h)) (fun k hk => h4 k (List.mem_append_left _ hk)) (h4 r (hin r (by simp)))).mono ?_
  rintro e w' ⟨he, K, J, ⟨S1, k1, k2, k3⟩, _⟩
  refine ⟨he, S1, S', K, L', J, N', k1, h2.chg k3 (fun j hj hm => h3 j (hin j hm) hj), fun j hj hm => ?_, fun j hj => ?_, h5, h6.trans k3 (fun j hj => .inr (h4 j (hin j hj)))⟩
  · rcases List.mem_append.1 hj with h9 | h9
    · exact h3 j (List.mem_append_left _ h9) hm
    · rcases k2 j h9 with h8 | h8
      · exact h3 j (List.mem_append_right _ h8) hm
      · have := hlt j hm; omega
  · rcases List.mem_append.1 hj with h9 | h9
    · exact h4 j (List.mem_append_left _ h9)
    · rcases k2 j h9 with h8 | h8
      · exact h4 j (List.mem_append_right _ h8)
      · omega
/-- A copy of both. -/
theorem Pair.make {w2 w3 : World} {S2 : List Nat} (H : Two w q g h r S M L N) (hg : ∀ k ∈ [q, g, h, r], w0.heap.size ≤ k) (hS : ∀ k ∈ S, w0.heap.size ≤ k) (h0 : Chg [] w0 w) (hC : QMade M L N q' g' h' w w2) (hD : RMade r' S2 M L N w2 w3) :
    Pair w0 w3 q g h r q' g' h' r' M := by
  obtain ⟨c1, c2, c3⟩ := hC
  obtain ⟨d1, d2, d3⟩ := hD
  have z0 := h0.size
  have z1 := c3.size
  have hlt := H.lt
  have hl2 := c1.lt
  have hcc : Chg [] w w3 := c3.then d3
  have hnew : ∀ k ∈ [q', g', h'] ++ S2, w.heap.size ≤ k := fun k hk => by
    rcases List.mem_append.1 hk with h9 | h9
    · exact c2 k h9
    · have := d2 k h9; omega
  refine ⟨S, S2, L, L, N, N, H.quiet hcc, ⟨c1.quiet d3, d1, fun k hk hm => ?_⟩, fun k hk hm => ?_, fun k hk => ?_, fun k hk => by have := hnew k hk; omega, h0.then hcc⟩
  · have := hl2 k hk; have := d2 k hm; omega
  · have := hlt k hk; have := hnew k hm; omega
  · rcases List.mem_append.1 hk with h9 | h9
    · exact hg k (by simp at h9 ⊢; rcases h9 with h8 | h8 | h8 <;> simp [h8])
    · exact hS k h9
end

set_option maxRecDepth 100000 in
set_option maxHeartbeats 12800000 in
theorem copies_any (most : Int) (V1 V2 V3 : Value) (l a b : List ActV) (w : World) (hV1 : Acts w w.heap.size V1 l) (hV2 : Acts w w.heap.size V2 a) (hV3 : Acts w w.heap.size V3 b) :
    Calls Try.prog 6 #[.int .i64 most, V1, V2, V3] w fun e w' => e = .returned (.bool true) ∧ Chg [] w w' := by
  have hfew1 : ∀ W, Chg [] w W → Calls Try.prog 7 #[V1, .int .i64 80] W fun e w' => e = .returned (.bool (fewB l 80)) ∧ W = w' := fun W hW => few_any (hV1.quiet hW) 80 (by omega)
  have hfew2 : ∀ W, Chg [] w W → Calls Try.prog 7 #[V2, .int .i64 40] W fun e w' => e = .returned (.bool (fewB a 40)) ∧ W = w' := fun W hW => few_any (hV2.quiet hW) 40 (by omega)
  have hfew3 : ∀ W, Chg [] w W → Calls Try.prog 7 #[V3, .int .i64 40] W fun e w' => e = .returned (.bool (fewB b 40)) ∧ W = w' := fun W hW => few_any (hV3.quiet hW) 40 (by omega)
  have hmay := maycall_any most
  obtain ⟨A1, c1, rfl, _⟩ := hV1.2
  obtain ⟨A2, c2, rfl, _⟩ := hV2.2
  obtain ⟨A3, c3, rfl, _⟩ := hV3.2
  obtain ⟨F1, hF1⟩ : ∃ F, F = fewB l 80 := ⟨_, rfl⟩
  obtain ⟨F2, hF2⟩ : ∃ F, F = fewB a 40 := ⟨_, rfl⟩
  obtain ⟨F3, hF3⟩ : ∃ F, F = fewB b 40 := ⟨_, rfl⟩
  obtain ⟨B, hB⟩ : ∃ B, B = mayB most := ⟨_, rfl⟩
  rw [← hF1] at hfew1
  rw [← hF2] at hfew2
  rw [← hF3] at hfew3
  rw [← hB] at hmay
  obtain ⟨m1, hm1⟩ : ∃ m, m = l.length := ⟨_, rfl⟩
  obtain ⟨m2, hm2⟩ : ∃ m, m = a.length := ⟨_, rfl⟩
  obtain ⟨m3, hm3⟩ : ∃ m, m = b.length := ⟨_, rfl⟩
  rw [← hm1] at hV1 hfew1
  rw [← hm2] at hV2 hfew2
  rw [← hm3] at hV3 hfew3
  rw [← hm1, ← hm2, ← hm3]
  have HV1 := Lib.hid hV1
  have HV2 := Lib.hid hV2
  have HV3 := Lib.hid hV3
  cases B with
  | false =>
    have HN := qnew_no most w (mayB_no hB.symm)
    clear hF1 hF2 hF3 hB hV1 hV2 hV3 hm1 hm2 hm3
    cases F1 with
    | false =>
      go_enter Try.func6, Try.ntmps6
      go_wp2_with (first
        | (go_at_call 9; refine HN.mono ?_; rintro e w' ⟨rfl, rfl⟩)
        | (go_at_call 7; ((with_reducible refine (hfew1 _ (Chg.refl _ _)).mono ?_); rintro e w' ⟨rfl, rfl⟩))
        | (go_at_call 7; ((with_reducible refine (hfew2 _ (Chg.refl _ _)).mono ?_); rintro e w' ⟨rfl, rfl⟩))
        | (go_at_call 7; ((with_reducible refine (hfew3 _ (Chg.refl _ _)).mono ?_); rintro e w' ⟨rfl, rfl⟩))
        | (go_at_call 10; refine (hmay _).mono ?_; rintro e w' ⟨rfl, rfl⟩)
        | (go_at_call 8; refine (known_any _).mono ?_; rintro e w9 ⟨rfl, hc⟩))
      go_ret
      exact ⟨rfl, hc⟩
    | true =>
      cases F2 with
      | false =>
        go_enter Try.func6, Try.ntmps6
        go_wp2_with (first
          | (go_at_call 9; refine HN.mono ?_; rintro e w' ⟨rfl, rfl⟩)
          | (go_at_call 7; ((with_reducible refine (hfew1 _ (Chg.refl _ _)).mono ?_); rintro e w' ⟨rfl, rfl⟩))
          | (go_at_call 7; ((with_reducible refine (hfew2 _ (Chg.refl _ _)).mono ?_); rintro e w' ⟨rfl, rfl⟩))
          | (go_at_call 7; ((with_reducible refine (hfew3 _ (Chg.refl _ _)).mono ?_); rintro e w' ⟨rfl, rfl⟩))
          | (go_at_call 10; refine (hmay _).mono ?_; rintro e w' ⟨rfl, rfl⟩)
          | (go_at_call 8; refine (known_any _).mono ?_; rintro e w9 ⟨rfl, hc⟩))
        go_ret
        exact ⟨rfl, hc⟩
      | true =>
        cases F3 with
        | false =>
          go_enter Try.func6, Try.ntmps6
          go_wp2_with (first
            | (go_at_call 9; refine HN.mono ?_; rintro e w' ⟨rfl, rfl⟩)
            | (go_at_call 7; ((with_reducible refine (hfew1 _ (Chg.refl _ _)).mono ?_); rintro e w' ⟨rfl, rfl⟩))
            | (go_at_call 7; ((with_reducible refine (hfew2 _ (Chg.refl _ _)).mono ?_); rintro e w' ⟨rfl, rfl⟩))
            | (go_at_call 7; ((with_reducible refine (hfew3 _ (Chg.refl _ _)).mono ?_); rintro e w' ⟨rfl, rfl⟩))
            | (go_at_call 10; refine (hmay _).mono ?_; rintro e w' ⟨rfl, rfl⟩)
            | (go_at_call 8; refine (known_any _).mono ?_; rintro e w9 ⟨rfl, hc⟩))
          go_ret
          exact ⟨rfl, hc⟩
        | true =>
          go_enter Try.func6, Try.ntmps6
          go_wp2_with (first
            | (go_at_call 9; refine HN.mono ?_; rintro e w' ⟨rfl, rfl⟩)
            | (go_at_call 7; ((with_reducible refine (hfew1 _ (Chg.refl _ _)).mono ?_); rintro e w' ⟨rfl, rfl⟩))
            | (go_at_call 7; ((with_reducible refine (hfew2 _ (Chg.refl _ _)).mono ?_); rintro e w' ⟨rfl, rfl⟩))
            | (go_at_call 7; ((with_reducible refine (hfew3 _ (Chg.refl _ _)).mono ?_); rintro e w' ⟨rfl, rfl⟩))
            | (go_at_call 10; refine (hmay _).mono ?_; rintro e w' ⟨rfl, rfl⟩)
            | (go_at_call 8; refine (known_any _).mono ?_; rintro e w9 ⟨rfl, hc⟩))
          go_ret
          exact ⟨rfl, hc⟩
  | true =>
    obtain ⟨b2, b4⟩ := mayB_yes hB.symm
    obtain ⟨M, rfl⟩ := Int.eq_ofNat_of_zero_le (by omega : 0 ≤ most)
    have HN := qnew_ok M w (by omega) (by omega)
    have hs1 : F1 = true → m1 ≤ 80 := fun h => by have := fewB_len (hF1.symm.trans h); omega
    have hs2 : F2 = true → m2 ≤ 40 := fun h => by have := fewB_len (hF2.symm.trans h); omega
    have hs3 : F3 = true → m3 ≤ 40 := fun h => by have := fewB_len (hF3.symm.trans h); omega
    clear hF1 hF2 hF3 hB hV1 hV2 hV3 hm1 hm2 hm3
    cases F1 with
    | false =>
      go_enter Try.func6, Try.ntmps6
      go_wp2_with (first
        | (go_at_call 9; refine HN.mono ?_; rintro e w1 ⟨q, g, h, rfl, hM⟩; have HM1 := Lib.hid hM.2.2; clear hM)
        | (go_at_call 7; ((with_reducible refine (hfew1 _ (HM1.out)).mono ?_); rintro e w' ⟨rfl, rfl⟩))
        | (go_at_call 7; ((with_reducible refine (hfew2 _ (HM1.out)).mono ?_); rintro e w' ⟨rfl, rfl⟩))
        | (go_at_call 7; ((with_reducible refine (hfew3 _ (HM1.out)).mono ?_); rintro e w' ⟨rfl, rfl⟩))
        | (go_at_call 10; refine (hmay _).mono ?_; rintro e w' ⟨rfl, rfl⟩)
        | (go_at_call 8; refine (known_any _).mono ?_; rintro e w9 ⟨rfl, hc⟩))
      go_ret
      exact ⟨rfl, HM1.out.then hc⟩
    | true =>
      cases F2 with
      | false =>
        go_enter Try.func6, Try.ntmps6
        go_wp2_with (first
          | (go_at_call 9; refine HN.mono ?_; rintro e w1 ⟨q, g, h, rfl, hM⟩; have HM1 := Lib.hid hM.2.2; clear hM)
          | (go_at_call 7; ((with_reducible refine (hfew1 _ (HM1.out)).mono ?_); rintro e w' ⟨rfl, rfl⟩))
          | (go_at_call 7; ((with_reducible refine (hfew2 _ (HM1.out)).mono ?_); rintro e w' ⟨rfl, rfl⟩))
          | (go_at_call 7; ((with_reducible refine (hfew3 _ (HM1.out)).mono ?_); rintro e w' ⟨rfl, rfl⟩))
          | (go_at_call 10; refine (hmay _).mono ?_; rintro e w' ⟨rfl, rfl⟩)
          | (go_at_call 8; refine (known_any _).mono ?_; rintro e w9 ⟨rfl, hc⟩))
        go_ret
        exact ⟨rfl, HM1.out.then hc⟩
      | true =>
        cases F3 with
        | false =>
          go_enter Try.func6, Try.ntmps6
          go_wp2_with (first
            | (go_at_call 9; refine HN.mono ?_; rintro e w1 ⟨q, g, h, rfl, hM⟩; have HM1 := Lib.hid hM.2.2; clear hM)
            | (go_at_call 7; ((with_reducible refine (hfew1 _ (HM1.out)).mono ?_); rintro e w' ⟨rfl, rfl⟩))
            | (go_at_call 7; ((with_reducible refine (hfew2 _ (HM1.out)).mono ?_); rintro e w' ⟨rfl, rfl⟩))
            | (go_at_call 7; ((with_reducible refine (hfew3 _ (HM1.out)).mono ?_); rintro e w' ⟨rfl, rfl⟩))
            | (go_at_call 10; refine (hmay _).mono ?_; rintro e w' ⟨rfl, rfl⟩)
            | (go_at_call 8; refine (known_any _).mono ?_; rintro e w9 ⟨rfl, hc⟩))
          go_ret
          exact ⟨rfl, HM1.out.then hc⟩
        | true =>
          have t1 := hs1 rfl
          have t2 := hs2 rfl
          have t3 := hs3 rfl
          clear hs1 hs2 hs3
          go_enter Try.func6, Try.ntmps6
          go_wp2_with (first
            | (go_at_call 9; refine HN.mono ?_; rintro e w1 ⟨q, g, h, rfl, hM⟩; have HM1 := Lib.hid hM.2.2; have H1 := Lib.hid (Between.new hM); clear hM)
            | (go_at_call 7; ((with_reducible refine (hfew1 _ HM1.out).mono ?_); rintro e w' ⟨rfl, rfl⟩))
            | (go_at_call 7; ((with_reducible refine (hfew2 _ HM1.out).mono ?_); rintro e w' ⟨rfl, rfl⟩))
            | (go_at_call 7; ((with_reducible refine (hfew3 _ HM1.out).mono ?_); rintro e w' ⟨rfl, rfl⟩))
            | (go_at_call 10; refine (hmay _).mono ?_; rintro e w' ⟨rfl, rfl⟩)
            | (go_at_call 11; refine (rnew_any _ _).mono ?_; rintro e w2 ⟨rfl, rfl⟩))
          generalize hr : w1.heap.size = r at H1 ⊢
          clear hr
          go_loopw [12] (fun i wr => ∃ k : Nat, k ≤ m1 ∧ i = .int .i64 k ∧ Hid (Between w q g h r M wr)) (fun i wr => m1 - (intOf i).toNat)
          case atStart => exact ⟨0, Nat.zero_le _, rfl, H1⟩
          case round =>
            obtain ⟨k, hk, rfl, hB⟩ := hrel
            by_cases hlt : k < m1
            · obtain ⟨b, off, kind, G, yes, A9, n9, c9, rfl, hfit, d0, d1, d2, d3⟩ := HV1.out.at_ hB.out.chg0 hlt
              have i0 : (0 : Int) ≤ (k : Int) := by omega
              have i1 : (k : Int) < (m1 : Int) := by omega
              have HD := hB.out.does _ hfit
              simp only [ActV.val] at HD
              clear hB hfit
              go_wp2_with (go_at_call 12; refine HD.mono ?_; rintro e w4 ⟨rfl, hB2⟩; have HB2 := Lib.hid hB2; clear hB2)
              go_roundw
              case rel => exact ⟨k + 1, by omega, by go_num, HB2⟩
              case measure => simp [intOf]; omega
            · obtain rfl : k = m1 := by omega
              clear H1
              obtain ⟨S, L, N, q1, q2, q3, q4, _⟩ := hB.out
              have hcp := qcopy_any q1.queue
              have hrc := fun W (hW : Chg [] wr W) => rcopy_any (q1.ref.quiet hW) (by have := q1.small; omega)
              have hsm := fun W q' g' h' (hW : Chg [] wr W) (hq : QueueAt W q' g' h' M L N) => qsame_any (q1.queue.quiet hW) hq
              have hsl : (decide (N = N) && (L == L)) = true := by simp
              have Q1 := Lib.hid q1
              have Q2 := Lib.hid q2
              have Q3 := Lib.hid q3
              have Q4 := Lib.hid q4
              clear q1 q2 q3 q4 hB hlt
              go_wp2_with (first
                | (go_at_call 26; refine hcp.mono ?_; rintro e w2 ⟨q', g', h', rfl, hC⟩; have HC := Lib.hid hC; clear hC)
                | (go_at_call 27; refine (hrc _ HC.out.2.2).mono ?_; rintro e w3 ⟨r', S', rfl, hD⟩; have HD := Lib.hid hD; clear hD)
                | (go_at_call 28; refine (hsm _ _ _ _ (HC.out.2.2.then HD.out.2.2) (HC.out.1.quiet HD.out.2.2)).mono ?_; rintro e w5 ⟨rfl, hc⟩; have HP := Lib.hid ((Pair.make Q1.out Q2.out Q3.out Q4.out HC.out HD.out).quiet hc); clear hc))
              clear hcp hrc hsm
              go_loopw [15] (fun i wr => ∃ k : Nat, k ≤ m2 ∧ i = .int .i64 k ∧ Hid (Pair w wr q g h r q' g' h' r' M)) (fun i wr => m2 - (intOf i).toNat)
              case atStart => exact ⟨0, Nat.zero_le _, rfl, HP⟩
              case round =>
                clear HP
                obtain ⟨k2, hk2, rfl, HP⟩ := hrel
                by_cases hlta : k2 < m2
                · obtain ⟨b, off, kind, G, yes, A9, n9, c9, rfl, hfit, d0, d1, d2, d3⟩ := HV2.out.at_ HP.out.chg0 hlta
                  have i0 : (0 : Int) ≤ (k2 : Int) := by omega
                  have i1 : (k2 : Int) < (m2 : Int) := by omega
                  have HDo := HP.out.does _ hfit
                  simp only [ActV.val] at HDo
                  clear HP hfit
                  go_wp2_with (go_at_call 12; refine HDo.mono ?_; rintro e w4 ⟨rfl, hB2⟩; have HB2 := Lib.hid hB2; clear hB2)
                  go_roundw
                  case rel => exact ⟨k2 + 1, by omega, by go_num, HB2⟩
                  case measure => simp [intOf]; omega
                · obtain rfl : k2 = m2 := by omega
                  clear hlta
                  go_wp2
                  go_loopw [16] (fun i wr => ∃ k : Nat, k ≤ m3 ∧ i = .int .i64 k ∧ Hid (Pair w wr q g h r q' g' h' r' M)) (fun i wr => m3 - (intOf i).toNat)
                  case atStart => exact ⟨0, Nat.zero_le _, rfl, HP⟩
                  case round =>
                    clear HP
                    obtain ⟨k3, hk3, rfl, HP⟩ := hrel
                    by_cases hltb : k3 < m3
                    · obtain ⟨b, off, kind, G, yes, A9, n9, c9, rfl, hfit, d0, d1, d2, d3⟩ := HV3.out.at_ HP.out.chg0 hltb
                      have i0 : (0 : Int) ≤ (k3 : Int) := by omega
                      have i1 : (k3 : Int) < (m3 : Int) := by omega
                      have HDo := HP.out.swap.does _ hfit
                      simp only [ActV.val] at HDo
                      clear HP hfit
                      go_wp2_with (go_at_call 12; refine HDo.mono ?_; rintro e w4 ⟨rfl, hB2⟩; have HB2 := Lib.hid hB2; clear hB2)
                      go_roundw
                      case rel => exact ⟨k3 + 1, by omega, by go_num, Lib.hid HB2.out.swap⟩
                      case measure => simp [intOf]; omega
                    · obtain rfl : k3 = m3 := by omega
                      obtain ⟨S1, S2, L1, L2, N1, N2, t1, t2, _, _, _, t6⟩ := HP.out
                      have hs1 := fun W (hW : Chg [] wr W) => same_any (t1.quiet hW)
                      have hs2 := fun W (hW : Chg [] wr W) => same_any (t2.quiet hW)
                      have hq1 := fun W (hW : Chg [] wr W) => qsame_any (t1.queue.quiet hW) (t2.queue.quiet hW)
                      have hq2 := fun W (hW : Chg [] wr W) => (rqsame_any (t1.ref.quiet hW) (t2.ref.quiet hW) (by have := t1.small; omega) (by have := t2.small; omega)).mono fun e w' ⟨h1, k, h2⟩ => (show e = _ ∧ Chg [] W w' from ⟨h1, by rw [h2]; exact (Chg.refl _ _).drewN k⟩)
                      obtain ⟨Z, hZ⟩ : ∃ Z, Z = (decide (N1 = N2) && (L1 == L2)) := ⟨_, rfl⟩
                      rw [← hZ] at hq1 hq2
                      have hzz : (Z == Z) = true := by simp
                      have HW := Lib.hid t6
                      clear HP t1 t2 t6 hZ hltb
                      go_wp2_with (first
                        | (go_at_call 13; ((with_reducible refine (hs1 _ (Chg.refl _ _)).mono ?_); rintro e w11 ⟨rfl, hc⟩); have X1 := Lib.hid hc; clear hc)
                        | (go_at_call 13; ((with_reducible refine (hs2 _ X1.out).mono ?_); rintro e w12 ⟨rfl, hc⟩); have X2 := Lib.hid (X1.out.then hc); clear hc)
                        | (go_at_call 28; refine (hq1 _ X2.out).mono ?_; rintro e w13 ⟨rfl, hc⟩; have X3 := Lib.hid (X2.out.then hc); clear hc)
                        | (go_at_call 29; refine (hq2 _ X3.out).mono ?_; rintro e w14 ⟨rfl, hc⟩; have X4 := Lib.hid (X3.out.then hc); clear hc)
                        | (go_at_call 8; refine (known_any _).mono ?_; rintro e w15 ⟨rfl, hc⟩; have X5 := Lib.hid (X4.out.then hc); clear hc))
                      go_ret
                      exact ⟨rfl, HW.out.then X5.out⟩
end Go.Proofs
