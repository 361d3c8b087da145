import Derived.Test.YtelkndhifkmpiaaHg
namespace Go.Proofs
open Go.RowKit
set_option linter.unusedVariables false

/-- Two pairs, apart in memory, all made since w0. -/
def Quad (w0 : World) (g r g2 r2 N : Nat) (l l2 : List (Int × Int)) (w : World) : Prop :=
  ∃ S R K p S2 R2 K2 p2, Two w g r S R K p ∧ K.map pr = l ∧ p ≤ N ∧ Two w g2 r2 S2 R2 K2 p2 ∧ K2.map pr = l2 ∧ p2 ≤ N ∧ (∀ z ∈ S ++ R, z ∉ S2 ++ R2) ∧ (∀ z ∈ S ++ R, w0.heap.size ≤ z) ∧ (∀ z ∈ S2 ++ R2, w0.heap.size ≤ z) ∧ Chg [] w0 w
section
variable {w0 w w' : World} {g r g2 r2 N : Nat} {l l2 : List (Int × Int)}
theorem Quad.symm (H : Quad w0 g r g2 r2 N l l2 w) : Quad w0 g2 r2 g r N l2 l w := by
  obtain ⟨S, R, K, p, S2, R2, K2, p2, h1, h2, h3, h4, h5, h6, h7, h8, h9, h10⟩ := H
  exact ⟨S2, R2, K2, p2, S, R, K, p, h4, h5, h6, h1, h2, h3, fun z hz hm => h7 z hm hz, h9, h8, h10⟩
theorem Quad.quiet (H : Quad w0 g r g2 r2 N l l2 w) (hc : Chg [] w w') : Quad w0 g r g2 r2 N l l2 w' := by
  obtain ⟨S, R, K, p, S2, R2, K2, p2, h1, h2, h3, h4, h5, h6, h7, h8, h9, h10⟩ := H
  exact ⟨S, R, K, p, S2, R2, K2, p2, h1.quiet hc, h2, h3, h4.quiet hc, h5, h6, h7, h8, h9, h10.then hc⟩
theorem Quad.chg (H : Quad w0 g r g2 r2 N l l2 w) : Chg [] w0 w := by
  obtain ⟨S, R, K, p, S2, R2, K2, p2, h1, h2, h3, h4, h5, h6, h7, h8, h9, h10⟩ := H
  exact h10
theorem Two.fresh {S R : List Nat} {K : List Tm} {p : Nat} (H : Two w g r S R K p) : ∀ z ∈ S ++ R, z < w.heap.size := fun z hz => by
  rcases List.mem_append.1 hz with h | h
  · exact H.heap.lt z h
  · exact H.ref.lt z h
theorem Quad.does (H : Quad w0 g r g2 r2 N l l2 w) (hN : N < 100000) (k at' : Int) {id : Int} (hi : I64 id) :
    Calls Try.prog 10 #[.pointer (some ⟨g, 0, none⟩), .pointer (some ⟨r, 0, none⟩), .agg #[.int .i64 k, .int .u64 at', .int .i64 id]] w fun e w' => e = .returned (.bool true) ∧ Quad w0 g r g2 r2 (N + 1) (actP l k at' id) l2 w' := by
  obtain ⟨S, R, K, p, S2, R2, K2, p2, h1, rfl, h3, h4, h5, h6, h7, h8, h9, h10⟩ := H
  refine (do_any h1 (by omega) k at' hi).mono ?_
  rintro e w' ⟨h11, S', R', K', p', q1, q2, q3, q4, q5, q6⟩
  have hz := h10.size
  have hnew : ∀ z ∈ S' ++ R', z ∈ S ++ R ∨ w.heap.size ≤ z := fun z hz => by
    rcases List.mem_append.1 hz with h | h
    · exact (q4 z h).imp (fun h => List.mem_append_left _ h) _root_.id
    · exact (q5 z h).imp (fun h => List.mem_append_right _ h) _root_.id
  refine ⟨h11, S', R', K', p', S2, R2, K2, p2, q1, q2, by omega, ⟨h4.heap.chg q6 (fun z hz hs => h7 z hs (List.mem_append_left _ hz)), h4.ref.chg q6 (fun z hz hs => h7 z hs (List.mem_append_right _ hz)), h4.apart⟩, h5, by omega, fun z hz hm => ?_, fun z hz => ?_, h9, h10.trans q6 (fun z hz => .inr (h8 z hz))⟩
  · rcases hnew z hz with h | h
    · exact h7 z h hm
    · have := h4.fresh z hm; omega
  · rcases hnew z hz with h | h
    · exact h8 z h
    · omega
theorem Quad.same1 (H : Quad w0 g r g2 r2 N l l2 w) (hN : N ≤ 100000) :
    Calls Try.prog 11 #[.pointer (some ⟨g, 0, none⟩), .pointer (some ⟨r, 0, none⟩)] w fun e w' => e = .returned (.bool true) ∧ Quad w0 g r g2 r2 N l l2 w' := by
  obtain ⟨S, R, K, p, S2, R2, K2, p2, h1, h2, h3, _⟩ := _root_.id H
  obtain ⟨A, n, c, hl⟩ := h1.looks (by omega)
  exact (same_two hl).mono fun e w' ⟨he, hc⟩ => ⟨he, H.quiet hc⟩
theorem Quad.alike (H : Quad w0 g r g2 r2 N l l2 w) (hN : N ≤ 100000) :
    Calls Try.prog 20 #[.pointer (some ⟨g, 0, none⟩), .pointer (some ⟨g2, 0, none⟩)] w fun e w' => e = .returned (.bool (decide (l = l2))) ∧ Quad w0 g r g2 r2 N l l2 w' := by
  obtain ⟨S, R, K, p, S2, R2, K2, p2, h1, rfl, h3, h4, rfl, h6, _⟩ := _root_.id H
  exact (same_any (h1.heap.tells (by omega)) (h4.heap.tells (by omega)) (h1.few (by omega)) (h4.few (by omega))).mono fun e w' ⟨he, hc⟩ => ⟨he, H.quiet hc⟩
theorem Quad.refs (H : Quad w0 g r g2 r2 N l l2 w) (hN : N ≤ 100000) : ∃ V V2, w.cell? ⟨r, 0, none⟩ = some V ∧ w.cell? ⟨r2, 0, none⟩ = some V2 ∧ Rs w 39 2 V l.length (nms l) ∧ Rs w 39 2 V2 l2.length (nms l2) ∧ l.length ≤ 100000 ∧ l2.length ≤ 100000 ∧ r < w.heap.size ∧ r2 < w.heap.size := by
  obtain ⟨S, R, K, p, S2, R2, K2, p2, h1, rfl, h3, h4, rfl, h6, _⟩ := H
  obtain ⟨V, hB, hR, _⟩ := h1.ref
  obtain ⟨V2, hB2, hR2, _⟩ := h4.ref
  exact ⟨V, V2, hB.cell 0, hB2.cell 0, hR, hR2, h1.few (by omega), h4.few (by omega), hB.lt, hB2.lt⟩
/-- Behind both copies. -/
theorem Between.copied (H : Between w0 g r N l w) (hN : N ≤ 100000) :
    Calls Try.prog 18 #[.pointer (some ⟨g, 0, none⟩)] w fun e w1 => ∃ g2, e = .returned (.pointer (some ⟨g2, 0, none⟩)) ∧
      Calls Try.prog 19 #[.pointer (some ⟨r, 0, none⟩)] w1 fun e w2 => ∃ r2, e = .returned (.pointer (some ⟨r2, 0, none⟩)) ∧ Quad w0 g r g2 r2 N l l w2 := by
  obtain ⟨S, R, K, p, h1, h2, h3, h4, h5, h6⟩ := H
  refine (copy_any h1.heap (by omega)).mono ?_
  rintro e w1 ⟨g2, S2, rfl, q1, q2, q3⟩
  refine ⟨g2, rfl, ?_⟩
  refine (rcopy_any (h1.ref.quiet q3) (h1.few (by omega))).mono ?_
  rintro e w2 ⟨r2, R2, rfl, t1, t2, t3⟩
  have hz := q3.size
  have hz0 := h6.size
  refine ⟨r2, rfl, S, R, K, p, S2, R2, K, p, (h1.quiet q3).quiet t3, h2, h3, ⟨q1.quiet t3, t1, fun z hz2 hm => ?_⟩, h2, h3, fun z hz1 hm => ?_, fun z hz1 => ?_, fun z hz1 => ?_, (h6.then q3).then t3⟩
  · have := t2 z hm
    have := q1.lt z hz2
    omega
  · have := h1.fresh z hz1
    rcases List.mem_append.1 hm with h | h
    · have := q2 z h; omega
    · have := t2 z h; omega
  · rcases List.mem_append.1 hz1 with h | h
    · exact h4 z h
    · exact h5 z h
  · rcases List.mem_append.1 hz1 with h | h
    · have := q2 z h; omega
    · have := t2 z h; omega
end
end Go.Proofs
