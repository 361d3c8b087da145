import Derived.Test.YtgdjagbkpdndgaaGaV
namespace Go.Proofs
open Go.RowKit
set_option linter.unusedVariables false

/-- What holds between two acts, k of which are done. -/
def Between (w0 : World) (q r k : Nat) (w : World) : Prop :=
  ∃ N S, QAt w q N ∧ RefAt w r S (nu N) ∧ (∀ j ∈ r :: q :: bl N, w0.heap.size ≤ j) ∧ Chg [] w0 w ∧ (nu N).length ≤ 50 * k
theorem Between.quiet {w0 w w' : World} {q r k : Nat} (H : Between w0 q r k w) (hc : Chg [] w w') : Between w0 q r k w' := by
  obtain ⟨N, S, h1, h2, h3, h4, h5⟩ := H
  exact ⟨N, S, h1.quiet hc, h2.quiet hc, h3, h4.then hc, h5⟩
theorem Between.chg0 {w0 w : World} {q r k : Nat} (H : Between w0 q r k w) : Chg [] w0 w := by
  obtain ⟨N, S, h1, h2, h3, h4, h5⟩ := H
  exact h4
theorem Between.does {w0 w : World} {q r k : Nat} (H : Between w0 q r k w) (hk : k ≤ 150) (a : ActV) (hf : a.Fits w0 w0.heap.size) (hl : a.l.length ≤ 50) :
    Calls Try.prog 11 #[.pointer (some ⟨q, 0, none⟩), .pointer (some ⟨r, 0, none⟩), a.val] w fun e w' => e = .returned (.bool true) ∧ Between w0 q r (k + 1) w' := by
  obtain ⟨N, S, h1, h2, h3, h4, h5⟩ := H
  have hn := nu_len N
  refine (do_any h1 h2 (by omega) a w0.heap.size (hf.chg h4 (fun _ h => by cases h)) (fun j hj => h3 j (List.mem_cons_of_mem _ hj)) hl).mono ?_
  rintro e w' ⟨he, L', ⟨N', S', d1, rfl, d3, d4, d5⟩, d6⟩
  have z := h4.size
  refine ⟨he, N', S', d1, d3, fun j hj => ?_, h4.trans d5 (fun j hj => .inr (h3 j hj)), by omega⟩
  rcases List.mem_cons.1 hj with rfl | hj
  · exact h3 _ (by simp)
  · rcases List.mem_cons.1 hj with rfl | hj
    · exact h3 _ (by simp)
    · rcases d4 j hj with h9 | h9
      · exact h3 j (by simp [h9])
      · omega
theorem Between.same_ {w0 w : World} {q r k : Nat} (H : Between w0 q r k w) (hk : k ≤ 150) :
    Calls Try.prog 12 #[.pointer (some ⟨q, 0, none⟩), .pointer (some ⟨r, 0, none⟩)] w fun e w' => e = .returned (.bool true) ∧ Between w0 q r k w' := by
  obtain ⟨N, S, h1, h2, h3, h4, h5⟩ := id H
  have hn := nu_len N
  exact (same_q h1 h2 (by omega)).mono fun e w' ⟨he, hc⟩ => ⟨he, H.quiet hc⟩
theorem Between.new {w0 w1 : World} {q : Nat} (H : Made [] q w0 w1) : Between w0 q w1.heap.size 0 (w1.alloc (.cells #[.slice none 0 0] 30)) := by
  obtain ⟨N, h1, h2, h3, h4⟩ := H
  have hz := h4.size
  refine ⟨N, _, h1.quiet ((Chg.refl _ _).alloc _), by rw [h2]; exact RefAt.new w1, fun j hj => ?_, h4.alloc _, by rw [h2]; simp⟩
  rcases List.mem_cons.1 hj with rfl | hj
  · exact hz
  · exact h3 j hj
/-- An act's cells, as they are behind whatever. -/
theorem Acts.at_ {w w' : World} {A : Option Addr} {n c : Nat} {l : List ActV} (h : Acts w w.heap.size (.slice A n c) l) (hc : Chg [] w w') {k : Nat} (hk : k < n) :
    ∃ b off kind A1 n1 c1 G P A2 m c2 ll af, A = some ⟨b, off, none⟩ ∧ l[k]? = some (ActV.mk kind ll (.slice A1 n1 c1) G P af (.slice A2 m c2)) ∧ (ActV.mk kind ll (.slice A1 n1 c1) G P af (.slice A2 m c2)).Fits w w.heap.size ∧
      w'.cell? ⟨b, off + k * 5, none⟩ = some (.int .i64 kind) ∧ w'.cell? ⟨b, off + k * 5 + 1, none⟩ = some (.slice A1 n1 c1) ∧ w'.cell? ⟨b, off + k * 5 + 2, none⟩ = some (.int .i64 G) ∧ w'.cell? ⟨b, off + k * 5 + 3, none⟩ = some (.int .i64 P) ∧ w'.cell? ⟨b, off + k * 5 + 4, none⟩ = some (.slice A2 m c2) := by
  obtain ⟨_, A', c', hv, ho⟩ := h
  simp only [Value.slice.injEq] at hv
  obtain ⟨rfl, rfl, rfl⟩ := hv
  obtain ⟨a, ha⟩ : ∃ a, l[k]? = some a := ⟨_, List.getElem?_eq_getElem hk⟩
  obtain ⟨b, off, rfl, hb, hf, c0, c1, c2, c3, c4⟩ := ho k a ha
  obtain ⟨kind, ll, VL, G, P, aff, VA⟩ := a
  obtain ⟨A2, c9, hV, _⟩ := id hf.bs
  obtain ⟨A1, c8, hV1, _⟩ := id hf.nums
  simp only at hV hV1 c0 c1 c2 c3 c4
  subst hV hV1
  exact ⟨b, off, kind, A1, _, c8, G, P, A2, _, c9, ll, aff, rfl, ha, hf, (hc.cell (p := ⟨b, _, none⟩) hb (by simp)).trans c0, (hc.cell (p := ⟨b, _, none⟩) hb (by simp)).trans c1, (hc.cell (p := ⟨b, _, none⟩) hb (by simp)).trans c2, (hc.cell (p := ⟨b, _, none⟩) hb (by simp)).trans c3, (hc.cell (p := ⟨b, _, none⟩) hb (by simp)).trans c4⟩
set_option maxRecDepth 100000 in
set_option maxHeartbeats 3200000 in
theorem plays_any (V : Value) (l : List ActV) (w : World) (hV : Acts w w.heap.size V l) :
    Calls Try.prog 3 #[V] w fun e w' => e = .returned (.bool true) ∧ Chg [] w w' := by
  have hfew : Calls Try.prog 8 #[V, .int .i64 120] w fun e w' => e = .returned (.bool (fewB l 120)) ∧ w = w' := few_any hV 120 (by omega)
  obtain ⟨F, hF⟩ : ∃ F, F = fewB l 120 := ⟨_, rfl⟩
  rw [← hF] at hfew
  obtain ⟨A, c, rfl, _⟩ := hV.2
  cases F with
  | false =>
    clear hF hV
    go_enter Try.func3, Try.ntmps3
    go_wp2_with (first
      | (go_at_call 8; refine hfew.mono ?_; rintro e w' ⟨rfl, rfl⟩)
      | (go_at_call 9; refine (known_any _).mono ?_; rintro e w1 ⟨rfl, hc⟩))
    go_ret
    exact ⟨rfl, hc⟩
  | true =>
    have hlen := fewB_len hF.symm
    have HSm := Lib.hid (fewB_small hF.symm)
    obtain ⟨m, hmm⟩ : ∃ m, m = l.length := ⟨_, rfl⟩
    rw [← hmm] at hV hlen hfew ⊢
    have HV := Lib.hid hV
    clear hF hV hmm
    go_enter Try.func3, Try.ntmps3
    go_wp2_with (first
      | (go_at_call 8; refine hfew.mono ?_; rintro e w' ⟨rfl, rfl⟩)
      | (go_at_call 10; refine (new_any _).mono ?_; rintro e w1 ⟨rfl, hw1⟩; have H1 := Lib.hid (Between.new (show Made [] w.heap.size w w1 by rw [hw1]; exact made_new w)); clear hw1))
    generalize hr : w1.heap.size = r at H1 ⊢
    clear hr
    generalize hq : w.heap.size = q at H1 ⊢
    go_loopw [5] (fun i wr => ∃ k : Nat, k ≤ m ∧ i = .int .i64 k ∧ Hid (Between w q r k wr)) (fun i wr => m - (intOf i).toNat)
    case atStart => exact ⟨0, Nat.zero_le _, rfl, H1⟩
    case round =>
      obtain ⟨k, hk, rfl, hB⟩ := hrel
      by_cases hlt : k < m
      · obtain ⟨b, off, kind, A1, n1, c1, G, P, A2, n2, c2, ll, af, rfl, hat, hfit, d0, d1, d2, d3, d4⟩ := HV.out.at_ hB.out.chg0 hlt
        have i0 : (0 : Int) ≤ (k : Int) := by omega
        have i1 : (k : Int) < (m : Int) := by omega
        have HD := hB.out.does (by omega) _ hfit (HSm.out _ _ hat)
        have HSa := fun W (h : Between w q r (k + 1) W) => h.same_ (by omega)
        simp only [ActV.val] at HD
        clear hB hfit hat
        go_wp2_with (first
          | (go_at_call 11; refine HD.mono ?_; rintro e w4 ⟨rfl, hB2⟩; have HB2 := Lib.hid hB2; clear hB2)
          | (go_at_call 12; refine (HSa _ HB2.out).mono ?_; rintro e w5 ⟨rfl, hB3⟩; have HB3 := Lib.hid hB3; clear hB3))
        go_roundw
        case rel => exact ⟨k + 1, by omega, by go_num, HB3⟩
        case measure => simp [intOf]; omega
      · have HC := Lib.hid hB.out.chg0
        clear hB
        go_wp2_with (go_at_call 9; refine (known_any _).mono ?_; rintro e w4 ⟨rfl, hc⟩)
        go_ret
        exact ⟨rfl, HC.out.then hc⟩
end Go.Proofs
