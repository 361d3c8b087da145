import Derived.Test.YtelkndhifkmpiaaHc
namespace Go.Proofs
open Go.RowKit
set_option linter.unusedVariables false

/-- What holds between two acts: both tell l, at most N were put; all of it was made since w0. -/
def Between (w0 : World) (g r N : Nat) (l : List (Int × Int)) (w : World) : Prop :=
  ∃ S R K p, Two w g r S R K p ∧ K.map pr = l ∧ p ≤ N ∧ (∀ k ∈ S, w0.heap.size ≤ k) ∧ (∀ k ∈ R, w0.heap.size ≤ k) ∧ Chg [] w0 w
section
variable {w0 w w' : World} {g r N : Nat} {l : List (Int × Int)}
theorem Between.chg (H : Between w0 g r N l w) : Chg [] w0 w := by obtain ⟨S, R, K, p, h1, h2, h3, h4, h5, h6⟩ := H; exact h6
theorem Between.quiet (H : Between w0 g r N l w) (hc : Chg [] w w') : Between w0 g r N l w' := by
  obtain ⟨S, R, K, p, h1, h2, h3, h4, h5, h6⟩ := H
  exact ⟨S, R, K, p, h1.quiet hc, h2, h3, h4, h5, h6.then hc⟩
theorem Between.does (H : Between w0 g r N l w) (hN : N < 100000) (k at' : Int) {id : Int} (hi : I64 id) :
    Calls Try.prog 10 #[.pointer (some ⟨g, 0, none⟩), .pointer (some ⟨r, 0, none⟩), .agg #[.int .i64 k, .int .u64 at', .int .i64 id]] w fun e w' => e = .returned (.bool true) ∧ Between w0 g r (N + 1) (actP l k at' id) w' := by
  obtain ⟨S, R, K, p, h1, rfl, h3, h4, h5, h6⟩ := H
  refine (do_any h1 (by omega) k at' hi).mono ?_
  rintro e w' ⟨h7, S', R', K', p', q1, q2, q3, q4, q5, q6⟩
  have hz := h6.size
  refine ⟨h7, S', R', K', p', q1, q2, by omega, fun k hk => ?_, fun k hk => ?_, h6.trans q6 (fun k hk => ?_)⟩
  · rcases q4 k hk with h9 | h9
    · exact h4 k h9
    · omega
  · rcases q5 k hk with h9 | h9
    · exact h5 k h9
    · omega
  · rcases List.mem_append.1 hk with h9 | h9
    · exact .inr (h4 k h9)
    · exact .inr (h5 k h9)
theorem Between.same (H : Between w0 g r N l w) (hN : N ≤ 100000) :
    Calls Try.prog 11 #[.pointer (some ⟨g, 0, none⟩), .pointer (some ⟨r, 0, none⟩)] w fun e w' => e = .returned (.bool true) ∧ Between w0 g r N l w' := by
  obtain ⟨S, R, K, p, h1, h2, h3, _⟩ := _root_.id H
  obtain ⟨A, n, c, hl⟩ := h1.looks (by omega)
  exact (same_two hl).mono fun e w' ⟨he, hc⟩ => ⟨he, H.quiet hc⟩
theorem Between.made (H : Between w0 g r N l w) : Made w0 g l N w := by
  obtain ⟨S, R, K, p, h1, h2, h3, h4, h5, h6⟩ := H
  exact ⟨S, K, p, h1.heap, h2, h3, h4, h6⟩
end
theorem Between.new (w : World) : Between w w.heap.size (w.heap.size + 1) 0 [] ((w.alloc (.cells #[.slice none 0 0, .map none, .int .u64 0] 55)).alloc (.cells #[.slice none 0 0] 29)) := by
  refine ⟨[w.heap.size], [w.heap.size + 1], [], 0, ⟨(New.heap w).quiet ((Chg.refl _ _).alloc _), ⟨.slice none 0 0, Blk.at _ 29 _ (by simp), Rs.nil _ _ _, by simp [foot_nil]⟩, fun k hk hm => ?_⟩, rfl, Nat.le_refl _, fun k hk => ?_, fun k hk => ?_, ((Chg.refl _ _).alloc _).alloc _⟩
  · simp at hk hm; omega
  · simp at hk; omega
  · simp at hk; omega
set_option maxRecDepth 100000 in
set_option maxHeartbeats 3200000 in
theorem plays_any (V : Value) (l : List ActV) (w : World) (hV : Acts w V l) :
    Calls Try.prog 3 #[V] w fun e w' => e = .returned (.bool true) ∧ Chg [] w w' := by
  obtain ⟨A, c, rfl, hcell⟩ := hV
  have HCell := Lib.hid hcell
  obtain ⟨m, hmm⟩ : ∃ m, m = l.length := ⟨_, rfl⟩
  rw [← hmm]
  have HM := Lib.hid hmm
  clear hcell hmm
  by_cases hlen : 150 < m
  · have d : (150 : Int) < (m : Int) := by omega
    go_enter Try.func3, Try.ntmps3
    go_wp2_with (go_at_call 8; refine (known_any _).mono ?_; rintro e w1 ⟨rfl, hc⟩)
    go_ret
    exact ⟨rfl, hc⟩
  · have d : ¬ ((150 : Int) < (m : Int)) := by omega
    go_enter Try.func3, Try.ntmps3
    go_wp2_with (first
      | (go_at_call 9; refine (new_any _).mono ?_; rintro e w1 ⟨rfl, rfl⟩))
    have HB := Lib.hid (Between.new w)
    go_loopw [5] (fun i wr => ∃ (k : Nat) (ll : List (Int × Int)), k ≤ m ∧ i = .int .i64 k ∧ Hid (Between w w.heap.size (w.heap.size + 1) k ll wr)) (fun i wr => m - (intOf' i).toNat)
    case atStart => exact ⟨0, _, Nat.zero_le _, rfl, HB⟩
    case round =>
      obtain ⟨k, ll, hk, rfl, hB⟩ := hrel
      by_cases hlt : k < m
      · obtain ⟨a, ha⟩ : ∃ a, l[k]? = some a := ⟨_, List.getElem?_eq_getElem (by rw [← HM.out]; exact hlt)⟩
        obtain ⟨b, off, rfl, hb, hfit, c0, c1, c2⟩ := HCell.out k a ha
        have q4 := hB.out.chg
        have d0 := (q4.cell (p := ⟨b, off + k * 3, none⟩) hb (by simp)).trans c0
        have d1 := (q4.cell (p := ⟨b, off + k * 3 + 1, none⟩) hb (by simp)).trans c1
        have d2 := (q4.cell (p := ⟨b, off + k * 3 + 2, none⟩) hb (by simp)).trans c2
        have i0 : (0 : Int) ≤ (k : Int) := by omega
        have i1 : (k : Int) < (m : Int) := by omega
        have HD := hB.out.does (by omega) a.kind a.at_ hfit.i
        have hk9 : k + 1 ≤ 100000 := by omega
        clear q4 c0 c1 c2 ha hB hfit HB
        obtain ⟨a1, a2, a3⟩ := a
        simp only at d0 d1 d2 HD
        go_wp2_with (first
          | (go_at_call 10; refine HD.mono ?_; rintro e w4 ⟨rfl, hB2⟩; have HB2 := Lib.hid hB2; clear hB2)
          | (go_at_call 11; refine (HB2.out.same hk9).mono ?_; rintro e w5 ⟨rfl, hB3⟩; have HB3 := Lib.hid hB3; clear hB3))
        go_roundw
        case rel => exact ⟨k + 1, _, by omega, by go_num, HB3⟩
        case measure => simp [intOf']; omega
      · have HC := Lib.hid hB.out.chg
        clear hB HB
        go_wp2_with (go_at_call 8; refine (known_any _).mono ?_; rintro e w4 ⟨rfl, hc⟩)
        go_ret
        exact ⟨rfl, HC.out.then hc⟩
end Go.Proofs
