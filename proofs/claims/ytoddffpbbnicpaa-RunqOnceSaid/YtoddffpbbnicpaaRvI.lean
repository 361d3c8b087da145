import Derived.Test.YtoddffpbbnicpaaRvH
namespace Go.Proofs
open Go.RowKit
set_option linter.unusedVariables false

/-- What holds between two acts. -/
def Between (w0 : World) (q g h r M : Nat) (w : World) : Prop :=
  ∃ S L N, Two w q g h r S M L N ∧ (∀ k ∈ [q, g, h, r], w0.heap.size ≤ k) ∧ (∀ k ∈ S, w0.heap.size ≤ k) ∧ Chg [] w0 w ∧ Nd L N
theorem Between.quiet {w0 w w' : World} {q g h r M : Nat} (H : Between w0 q g h r M w) (hc : Chg [] w w') : Between w0 q g h r M w' := by
  obtain ⟨S, L, N, h1, h2, h3, h4, h5⟩ := H
  exact ⟨S, L, N, h1.quiet hc, h2, h3, h4.then hc, h5⟩
theorem Between.chg0 {w0 w : World} {q g h r M : Nat} (H : Between w0 q g h r M w) : Chg [] w0 w := by
  obtain ⟨S, L, N, h1, h2, h3, h4, h5⟩ := H
  exact h4
theorem Between.does {w0 w : World} {q g h r M : Nat} (H : Between w0 q g h r M w) (a : ActV) (hf : a.Fits w0 w0.heap.size) :
    Calls Try.prog 12 #[.pointer (some ⟨q, 0, none⟩), .pointer (some ⟨r, 0, none⟩), a.val] w fun e w' => e = .returned (.bool true) ∧ Between w0 q g h r M w' := by
  obtain ⟨S, L, N, h1, h2, h3, h4, h5⟩ := H
  refine (do_any h1 a w0.heap.size (hf.chg h4 (fun _ h => by cases h)) (fun k hk => h2 k (by simp at hk ⊢; rcases hk with h9 | h9 | h9 <;> simp [h9])) (h2 r (by simp))).mono ?_
  rintro e w' ⟨he, L', N', ⟨S', k1, k2, k3⟩, k4⟩
  refine ⟨he, S', L', N', k1, h2, fun j hj => ?_, h4.trans k3 (fun j hj => .inr (h2 j hj)), k4 h5⟩
  rcases k2 j hj with h9 | h9
  · exact h3 j h9
  · have := h4.size; omega
theorem Between.same_ {w0 w : World} {q g h r M : Nat} (H : Between w0 q g h r M w) :
    Calls Try.prog 13 #[.pointer (some ⟨q, 0, none⟩), .pointer (some ⟨r, 0, none⟩)] w fun e w' => e = .returned (.bool true) ∧ Between w0 q g h r M w' := by
  obtain ⟨S, L, N, h1, h2⟩ := id H
  exact (same_any h1).mono fun e w' ⟨he, hc⟩ => ⟨he, H.quiet hc⟩
theorem Between.new {w0 w1 : World} {q g h M : Nat} (H : QMade M [] none q g h w0 w1) : Between w0 q g h w1.heap.size M (w1.alloc (.cells #[.slice none 0 0, .int .i64 (M : Nat), .slice none 0 0] 45)) := by
  obtain ⟨h1, h2, h3⟩ := H
  have hlt := h1.lt
  have hz := h3.size
  refine ⟨[w1.heap.size], [], none, ⟨h1.quiet ((Chg.refl _ _).alloc _), RefAt.new w1 M, fun k hk hm => ?_⟩, fun k hk => ?_, fun k hk => by simp at hk; omega, h3.alloc _, by simp [Nd]⟩
  · have := hlt k hk; simp at hm; omega
  · simp at hk
    rcases hk with rfl | rfl | rfl | rfl
    · exact h2 _ (by simp)
    · exact h2 _ (by simp)
    · exact h2 _ (by simp)
    · exact hz
/-- An act's cells, as they are behind whatever. -/
theorem Acts.at_ {w w' : World} {A : Option Addr} {n c : Nat} {l : List ActV} (h : Acts w w.heap.size (.slice A n c) l) (hc : Chg [] w w') {k : Nat} (hk : k < n) :
    ∃ b off kind G yes A2 m c2, A = some ⟨b, off, none⟩ ∧ (ActV.mk kind G yes ((l[k]?.getD ⟨0, 0, false, [], .slice none 0 0⟩).aff) (.slice A2 m c2)).Fits w w.heap.size ∧
      w'.cell? ⟨b, off + k * 4, none⟩ = some (.int .i64 kind) ∧ w'.cell? ⟨b, off + k * 4 + 1, none⟩ = some (.int .i64 G) ∧ w'.cell? ⟨b, off + k * 4 + 2, none⟩ = some (.bool yes) ∧ w'.cell? ⟨b, off + k * 4 + 3, none⟩ = some (.slice A2 m c2) := by
  obtain ⟨_, A', c', hv, ho⟩ := h
  simp only [Value.slice.injEq] at hv
  obtain ⟨rfl, rfl, rfl⟩ := hv
  obtain ⟨a, ha⟩ : ∃ a, l[k]? = some a := ⟨_, List.getElem?_eq_getElem hk⟩
  obtain ⟨b, off, rfl, hb, hf, c0, c1, c2, c3⟩ := ho k a ha
  rw [ha]
  obtain ⟨kind, G, yes, aff, V⟩ := a
  obtain ⟨A2, c9, hV, _⟩ := id hf.bs
  simp only at hV c0 c1 c2 c3
  subst hV
  exact ⟨b, off, kind, G, yes, A2, _, c9, rfl, hf, (hc.cell (p := ⟨b, _, none⟩) hb (by simp)).trans c0, (hc.cell (p := ⟨b, _, none⟩) hb (by simp)).trans c1, (hc.cell (p := ⟨b, _, none⟩) hb (by simp)).trans c2, (hc.cell (p := ⟨b, _, none⟩) hb (by simp)).trans c3⟩
theorem mayB_no {M : Int} (h : mayB M = false) : M < 2 ∨ 4096 < M := by
  unfold mayB at h
  rw [Bool.and_eq_false_iff] at h
  rcases h with h | h
  · simp at h; omega
  · simp at h; omega
theorem mayB_yes {M : Int} (h : mayB M = true) : 2 ≤ M ∧ M ≤ 4096 := by
  unfold mayB at h
  rw [Bool.and_eq_true] at h
  simpa using h
theorem fewB_len {l : List ActV} {most : Nat} (h : fewB l most = true) : l.length ≤ most := by
  unfold fewB at h
  rw [Bool.and_eq_true] at h
  simpa using h.2
set_option maxRecDepth 100000 in
set_option maxHeartbeats 3200000 in
theorem plays_any (most : Int) (V : Value) (l : List ActV) (w : World) (hV : Acts w w.heap.size V l) :
    Calls Try.prog 3 #[.int .i64 most, V] w fun e w' => e = .returned (.bool true) ∧ Chg [] w w' := by
  have hfew := few_any hV 150 (by omega)
  have hmay := maycall_any most
  obtain ⟨F, hF⟩ : ∃ F, F = fewB l 150 := ⟨_, rfl⟩
  obtain ⟨B, hB⟩ : ∃ B, B = mayB most := ⟨_, rfl⟩
  rw [← hF] at hfew
  rw [← hB] at hmay
  obtain ⟨A, c, rfl, _⟩ := hV.2
  cases F with
  | false =>
    clear hF hB hmay hV
    go_enter Try.func3, Try.ntmps3
    go_wp2_with (first
      | (go_at_call 7; refine hfew.mono ?_; rintro e w' ⟨rfl, rfl⟩)
      | (go_at_call 8; refine (known_any _).mono ?_; rintro e w1 ⟨rfl, hc⟩))
    go_ret
    exact ⟨rfl, hc⟩
  | true =>
    have hlen := fewB_len hF.symm
    cases B with
    | false =>
      have HN := qnew_no most w (mayB_no hB.symm)
      clear hF hB hV hlen
      go_enter Try.func3, Try.ntmps3
      go_wp2_with (first
        | (go_at_call 7; refine hfew.mono ?_; rintro e w' ⟨rfl, rfl⟩)
        | (go_at_call 9; refine HN.mono ?_; rintro e w' ⟨rfl, rfl⟩)
        | (go_at_call 10; refine (hmay _).mono ?_; rintro e w' ⟨rfl, rfl⟩)
        | (go_at_call 8; refine (known_any _).mono ?_; rintro e w1 ⟨rfl, hc⟩))
      go_ret
      exact ⟨rfl, hc⟩
    | true =>
      obtain ⟨m2, m4⟩ := mayB_yes hB.symm
      obtain ⟨M, rfl⟩ := Int.eq_ofNat_of_zero_le (by omega : 0 ≤ most)
      have HN := qnew_ok M w (by omega) (by omega)
      obtain ⟨m, hmm⟩ : ∃ m, m = l.length := ⟨_, rfl⟩
      rw [← hmm] at hV hlen hfew ⊢
      have HV := Lib.hid hV
      clear hF hB hV m2 m4 hmm
      go_enter Try.func3, Try.ntmps3
      go_wp2_with (first
        | (go_at_call 7; refine hfew.mono ?_; rintro e w' ⟨rfl, rfl⟩)
        | (go_at_call 9; refine HN.mono ?_; rintro e w1 ⟨q, g, h, rfl, hM⟩; have H1 := Lib.hid (Between.new hM); clear hM)
        | (go_at_call 10; refine (hmay _).mono ?_; rintro e w' ⟨rfl, rfl⟩)
        | (go_at_call 11; refine (rnew_any _ _).mono ?_; rintro e w2 ⟨rfl, rfl⟩))
      generalize hr : w1.heap.size = r at H1 ⊢
      clear hr
      go_loopw [8] (fun i wr => ∃ k : Nat, k ≤ m ∧ i = .int .i64 k ∧ Hid (Between w q g h r M wr)) (fun i wr => m - (intOf i).toNat)
      case atStart => exact ⟨0, Nat.zero_le _, rfl, H1⟩
      case round =>
        obtain ⟨k, hk, rfl, hB⟩ := hrel
        by_cases hlt : k < m
        · obtain ⟨b, off, kind, G, yes, A2, n2, c2, rfl, hfit, d0, d1, d2, d3⟩ := HV.out.at_ hB.out.chg0 hlt
          have i0 : (0 : Int) ≤ (k : Int) := by omega
          have i1 : (k : Int) < (m : Int) := by omega
          have HD := hB.out.does _ hfit
          simp only [ActV.val] at HD
          clear hB hfit
          go_wp2_with (first
            | (go_at_call 12; refine HD.mono ?_; rintro e w4 ⟨rfl, hB2⟩; have HB2 := Lib.hid hB2; clear hB2)
            | (go_at_call 13; refine HB2.out.same_.mono ?_; rintro e w5 ⟨rfl, hB3⟩; have HB3 := Lib.hid hB3; clear hB3))
          go_roundw
          case rel => exact ⟨k + 1, by omega, by go_num, HB3⟩
          case measure => simp [intOf]; omega
        · have HC := Lib.hid hB.out.chg0
          clear hB
          go_wp2_with (go_at_call 8; refine (known_any _).mono ?_; rintro e w4 ⟨rfl, hc⟩)
          go_ret
          exact ⟨rfl, HC.out.then hc⟩
end Go.Proofs
