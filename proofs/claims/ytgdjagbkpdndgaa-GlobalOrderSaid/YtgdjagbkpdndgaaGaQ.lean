import Derived.Test.YtgdjagbkpdndgaaGaP
namespace Go.Proofs
open Go.RowKit
set_option linter.unusedVariables false

/-- A queue of its own, in new blocks, which has L. -/
def Made (L : List Int) (q : Nat) (w w' : World) : Prop := ∃ N, QAt w' q N ∧ nu N = L ∧ (∀ k ∈ q :: bl N, w.heap.size ≤ k) ∧ Chg [] w w'
theorem made_new (w : World) : Made [] w.heap.size w (w.alloc (.cells #[.pointer none, .pointer none, .int .i64 0] 51)) :=
  ⟨[], QAt.new w, rfl, fun k hk => by simp [bl] at hk; omega, (Chg.refl _ _).alloc _⟩
theorem Made.later {w w1 w2 : World} {L : List Int} {q : Nat} (H : Made L q w w1) (hc : Chg [] w1 w2) : Made L q w w2 := by
  obtain ⟨N, h1, h2, h3, h4⟩ := H
  exact ⟨N, h1.quiet hc, h2, h3, h4.then hc⟩
theorem Made.before {w0 w w1 : World} {L : List Int} {q : Nat} (hc : Chg [] w0 w) (H : Made L q w w1) : Made L q w0 w1 := by
  obtain ⟨N, h1, h2, h3, h4⟩ := H
  exact ⟨N, h1, h2, fun k hk => Nat.le_trans hc.size (h3 k hk), hc.then h4⟩
/-- What is made turns: it is still of its own. -/
theorem Made.turn {w w1 w2 : World} {L' : List Int} {q : Nat} {N : List (Nat × Int)} (h3 : ∀ k ∈ q :: bl N, w.heap.size ≤ k) (h4 : Chg [] w w1) (hT : Turns q N L' w1 w2) : Made L' q w w2 := by
  obtain ⟨N', t1, t2, t3, t4⟩ := hT
  refine ⟨N', t1, t2, fun k hk => ?_, h4.trans t4 (fun k hk => .inr (h3 k hk))⟩
  rcases List.mem_cons.1 hk with rfl | hk
  · exact h3 _ (by simp)
  · rcases t3 k hk with h | h
    · exact h3 k (List.mem_cons_of_mem _ h)
    · exact Nat.le_trans h4.size h
theorem copy_nil (w : World) : Calls Try.prog 16 #[.pointer none] w fun e w' => e = .returned (.pointer none) ∧ w = w' := by
  go_enter Try.func16, Try.ntmps16
  go_wp2
  go_ret
  exact ⟨rfl, rfl⟩
theorem copy_any {w : World} {q : Nat} {N : List (Nat × Int)} (H : QAt w q N) (hN : N.length ≤ 8192) :
    Calls Try.prog 16 #[.pointer (some ⟨q, 0, none⟩)] w fun e w' => ∃ q', e = .returned (.pointer (some ⟨q', 0, none⟩)) ∧ Made (nu N) q' w w' := by
  have hal := fun W (hW : Chg [] w W) => all_any (H.quiet hW).rowed (by omega)
  have hlen : (nu N).length ≤ 8192 := by rw [nu_len]; exact hN
  obtain ⟨L, hL⟩ : ∃ L, L = nu N := ⟨_, rfl⟩
  rw [← hL] at hal hlen ⊢
  clear H hL
  go_enter Try.func16, Try.ntmps16
  go_wp2_with (first
    | (go_at_call 10; refine (new_any _).mono ?_; rintro e w1 ⟨rfl, rfl⟩)
    | (go_at_call 20; refine (hal _ ((Chg.refl _ _).alloc _)).mono ?_; rintro e w2 ⟨v, rfl, hf⟩; have hq := (QAt.new w).quiet hf.2.2; have hpt := put_any hq hf.rd (by simp; omega); have HF := Lib.hid hf.2.2; clear hf)
    | (go_at_call 22; refine hpt.mono ?_; rintro e w3 ⟨rfl, hT⟩; have HT := Lib.hid hT; clear hT))
  go_ret
  refine ⟨_, rfl, Made.turn (N := []) (fun k hk => by simp [bl] at hk; omega) (((Chg.refl _ _).alloc _).then HF.out) HT.out⟩
theorem same_any {w : World} {r r' : Value} {T T' : List Nat} {N N' : List (Nat × Int)} (H : Rowed w r T N) (H' : Rowed w r' T' N') (hN : N.length ≤ 8192) (hN' : N'.length ≤ 8192) :
    Calls Try.prog 18 #[r, r'] w fun e w' => e = .returned (.bool (nu N == nu N')) ∧ Chg [] w w' := by
  have a1 := all_any H (by omega)
  have a2 := fun W (hW : Chg [] w W) => all_any (H'.quiet hW) (by omega)
  have l1 : (nu N).length ≤ 8192 := by rw [nu_len]; exact hN
  have l2 : (nu N').length ≤ 8192 := by rw [nu_len]; exact hN'
  obtain ⟨p1, rfl⟩ := H.val
  obtain ⟨p2, rfl⟩ := H'.val
  obtain ⟨L, hL⟩ : ∃ L, L = nu N := ⟨_, rfl⟩
  obtain ⟨K, hK⟩ : ∃ K, K = nu N' := ⟨_, rfl⟩
  rw [← hL] at a1 l1 ⊢
  rw [← hK] at a2 l2 ⊢
  clear H H' hL hK
  obtain ⟨b, hb⟩ : ∃ b, b = (L == K) := ⟨_, rfl⟩
  have HE := fun W v1 v2 (h1 : Rd W v1 L) (h2 : Rd W v2 K) => equal_any h1 h2 l1 l2
  rw [← hb] at HE ⊢
  clear hb
  go_enter Try.func18, Try.ntmps18
  go_wp2_with (first
    | (go_at_call 20; ((with_reducible refine a1.mono ?_); rintro e w1 ⟨v1, rfl, hf⟩); have F1 := Lib.hid hf; have C1 := Lib.hid hf.2.2; clear hf a1)
    | (go_at_call 20; ((with_reducible refine (a2 _ C1.out).mono ?_); rintro e w2 ⟨v2, rfl, hf⟩); have F2 := Lib.hid hf; clear hf a2)
    | (go_at_call 35; refine (HE _ _ _ ((F1.out.later F2.out.2.2).rd) F2.out.rd).mono ?_; rintro e w3 ⟨rfl, hc⟩; have HC := Lib.hid hc; clear hc))
  go_ret
  exact ⟨rfl, (F1.out.2.2.then F2.out.2.2).then HC.out⟩
end Go.Proofs
