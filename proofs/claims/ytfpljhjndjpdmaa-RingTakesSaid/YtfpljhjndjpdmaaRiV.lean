import Derived.Test.YtfpljhjndjpdmaaRiT
import Derived.Test.YtfpljhjndjpdmaaRiU
namespace Go.Proofs
open Go.RowKit
set_option linter.unusedVariables false

/-! ### Acts that came in -/
structure ActV where
  kind : Int
  n : Int
structure ActV.Fits (a : ActV) : Prop where
  k0 : -9223372036854775808 ≤ a.kind
  k1 : a.kind ≤ 9223372036854775807
  n0 : -9223372036854775808 ≤ a.n
  n1 : a.n ≤ 9223372036854775807
def Acts (w : World) (V : Value) (l : List ActV) : Prop :=
  ∃ A c, V = .slice A l.length c ∧ ∀ (k : Nat) (a : ActV), l[k]? = some a → ∃ b off, A = some ⟨b, off, none⟩ ∧ b < w.heap.size ∧ a.Fits ∧ w.cell? ⟨b, off + k * 2, none⟩ = some (.int .i64 a.kind) ∧ w.cell? ⟨b, off + k * 2 + 1, none⟩ = some (.int .i64 a.n)
/-- What holds between two acts. -/
def Between (w0 : World) (g h r M : Nat) (w : World) : Prop :=
  ∃ S L, Two w g h r S M M L L ∧ (∀ k ∈ [g, h, r], w0.heap.size ≤ k) ∧ (∀ k ∈ S, w0.heap.size ≤ k) ∧ Chg [] w0 w
theorem Between.quiet {w0 w w' : World} {g h r M : Nat} (H : Between w0 g h r M w) (hc : Chg [] w w') : Between w0 g h r M w' := by
  obtain ⟨S, L, h1, h2, h3, h4⟩ := H
  exact ⟨S, L, h1.quiet hc, h2, h3, h4.then hc⟩
theorem Between.does {w0 w : World} {g h r M : Nat} (H : Between w0 g h r M w) (k n : Int) (n0 : -9223372036854775808 ≤ n) (n1 : n ≤ 9223372036854775807) :
    Calls Try.prog 10 #[.pointer (some ⟨g, 0, none⟩), .pointer (some ⟨r, 0, none⟩), .agg #[.int .i64 k, .int .i64 n]] w fun e w' => e = .returned (.bool true) ∧ Between w0 g h r M w' := by
  obtain ⟨S, L, h1, h2, h3, h4⟩ := H
  refine (do_any h1 (by have := h1.ring.small; omega) k n n0 n1).mono ?_
  rintro e w' ⟨⟨v, he, hv⟩, S', k1, k2, k3⟩
  refine ⟨by rw [he, hv ⟨rfl, rfl⟩], S', _, k1, h2, fun j hj => ?_, h4.trans k3 (fun j hj => .inr (h2 j hj))⟩
  rcases k2 j hj with h9 | h9
  · exact h3 j h9
  · have := h4.size; omega
theorem Between.same_ {w0 w : World} {g h r M : Nat} (H : Between w0 g h r M w) :
    Calls Try.prog 11 #[.pointer (some ⟨g, 0, none⟩), .pointer (some ⟨r, 0, none⟩)] w fun e w' => e = .returned (.bool true) ∧ Between w0 g h r M w' := by
  obtain ⟨S, L, h1, h2⟩ := id H
  exact (same_any h1 rfl).mono fun e w' ⟨he, hc⟩ => ⟨he, H.quiet hc⟩
theorem RefAt.new (w : World) (M : Int) : RefAt (w.alloc (.cells #[.slice none 0 0, .int .i64 M] 31)) w.heap.size [w.heap.size] M [] := ⟨.slice none 0 0, Blk.new w 31 _, Rd.nil _, by simp [foot_nil]⟩
theorem Between.new {w0 w1 : World} {g h M : Nat} (H : Made M [] g h w0 w1) : Between w0 g h w1.heap.size M (w1.alloc (.cells #[.slice none 0 0, .int .i64 (M : Nat)] 31)) := by
  obtain ⟨h1, h2, h3, h4⟩ := H
  have hlt := h1.lt
  have hz := h4.size
  refine ⟨[w1.heap.size], [], ⟨h1.quiet ((Chg.refl _ _).alloc _), RefAt.new w1 _, fun k hk hm => ?_⟩, fun k hk => ?_, fun k hk => by simp at hk; omega, h4.alloc _⟩
  · have := hlt k hk; simp at hm; omega
  · simp at hk; omega
set_option maxRecDepth 100000 in
set_option maxHeartbeats 3200000 in
theorem plays_any (most : Int) (V : Value) (l : List ActV) (w : World) (hV : Acts w V l) :
    Calls Try.prog 3 #[.int .i64 most, V] w fun e w' => e = .returned (.bool true) ∧ Chg [] w w' := by
  obtain ⟨A, c, rfl, hcell⟩ := hV
  have HCell := Lib.hid hcell
  clear hcell
  by_cases hm : most < 1 ∨ 4096 < most
  · have HN := new_no most w hm
    by_cases h1 : most < 1
    · clear hm
      go_enter Try.func3, Try.ntmps3
      go_wp2_with (first
        | (go_at_call 8; refine HN.mono ?_; rintro e w' ⟨rfl, rfl⟩)
        | (go_at_call 9; refine (known_any _).mono ?_; rintro e w1 ⟨rfl, hc⟩))
      go_ret
      exact ⟨rfl, hc⟩
    · have h2 : 4096 < most := by omega
      clear hm
      go_enter Try.func3, Try.ntmps3
      go_wp2_with (first
        | (go_at_call 8; refine HN.mono ?_; rintro e w' ⟨rfl, rfl⟩)
        | (go_at_call 9; refine (known_any _).mono ?_; rintro e w1 ⟨rfl, hc⟩))
      go_ret
      exact ⟨rfl, hc⟩
  · obtain ⟨M, rfl⟩ := Int.eq_ofNat_of_zero_le (by omega : 0 ≤ most)
    have HN := new_ok M w (by omega) (by omega)
    have d1 : ¬ ((M : Int) < 1) := by omega
    have d2 : ¬ (4096 < (M : Int)) := by omega
    obtain ⟨m, hmm⟩ : ∃ m, m = l.length := ⟨_, rfl⟩
    rw [← hmm]
    have HM := Lib.hid hmm
    clear hm hmm
    by_cases hlen : 200 < m
    · go_enter Try.func3, Try.ntmps3
      go_wp2_with (first
        | (go_at_call 8; refine HN.mono ?_; rintro e w1 ⟨g, h, rfl, hM⟩; have H1 := Lib.hid hM; clear hM)
        | (go_at_call 9; refine (known_any _).mono ?_; rintro e w2 ⟨rfl, hc⟩))
      go_ret
      exact ⟨rfl, H1.out.2.2.2.then hc⟩
    · go_enter Try.func3, Try.ntmps3
      go_wp2_with (first
        | (go_at_call 8; refine HN.mono ?_; rintro e w1 ⟨g, h, rfl, hM⟩; have H1 := Lib.hid hM; clear hM))
      have HB := Lib.hid (Between.new H1.out)
      go_loopw [8] (fun i wr => ∃ k : Nat, k ≤ m ∧ i = .int .i64 k ∧ Hid (Between w g h w1.heap.size M wr)) (fun i wr => m - (intOf i).toNat)
      case atStart => exact ⟨0, Nat.zero_le _, rfl, HB⟩
      case round =>
        obtain ⟨k, hk, rfl, hB⟩ := hrel
        by_cases hlt : k < m
        · obtain ⟨a, ha⟩ : ∃ a, l[k]? = some a := ⟨_, List.getElem?_eq_getElem (by rw [← HM.out]; exact hlt)⟩
          obtain ⟨b, off, rfl, hb, hfit, c0, c1⟩ := HCell.out k a ha
          obtain ⟨S, L, q1, q2, q3, q4⟩ := hB.out
          have d0 := (q4.cell (p := ⟨b, off + k * 2, none⟩) hb (by simp)).trans c0
          have d1 := (q4.cell (p := ⟨b, off + k * 2 + 1, none⟩) hb (by simp)).trans c1
          have i0 : (0 : Int) ≤ (k : Int) := by omega
          have i1 : (k : Int) < (m : Int) := by omega
          have HD := hB.out.does a.kind a.n hfit.n0 hfit.n1
          clear q1 q2 q3 q4 c0 c1 ha hB hfit
          obtain ⟨a1, a2⟩ := a
          simp only at d0 d1 HD
          go_wp2_with (first
            | (go_at_call 10; refine HD.mono ?_; rintro e w4 ⟨rfl, hB2⟩; have HB2 := Lib.hid hB2; clear hB2)
            | (go_at_call 11; refine HB2.out.same_.mono ?_; rintro e w5 ⟨rfl, hB3⟩; have HB3 := Lib.hid hB3; clear hB3))
          go_roundw
          case rel => exact ⟨k + 1, by omega, by go_num, HB3⟩
          case measure => simp [intOf]; omega
        · obtain ⟨S, L, q1, q2, q3, q4⟩ := hB.out
          have HC := Lib.hid q4
          clear q1 q2 q3 q4 hB
          go_wp2_with (go_at_call 9; refine (known_any _).mono ?_; rintro e w4 ⟨rfl, hc⟩)
          go_ret
          exact ⟨rfl, HC.out.then hc⟩
end Go.Proofs
