import Derived.Test.YtfbelpbfmafjdaaAi
namespace Go.Proofs
open Go.RowKit
set_option linter.unusedVariables false

/-- Two pairs of tables, apart in memory. -/
def Both (w0 : World) (g h g2 h2 : Nat) (T : Int) (w : World) : Prop :=
  ∃ S R t r S2 R2 t2 r2, (Two w g h S R t r ∧ t.WF ∧ Sim t r ∧ r.Fits T) ∧ (Two w g2 h2 S2 R2 t2 r2 ∧ t2.WF ∧ Sim t2 r2 ∧ r2.Fits T) ∧ (∀ k ∈ S ++ R, k ∉ S2 ++ R2) ∧
    (∀ k ∈ S ++ R, w0.heap.size ≤ k) ∧ (∀ k ∈ S2 ++ R2, w0.heap.size ≤ k) ∧ Below w0.heap.size w0 w
theorem Both.swap {w0 : World} {g h g2 h2 : Nat} {T : Int} {w : World} (H : Both w0 g h g2 h2 T w) : Both w0 g2 h2 g h T w := by
  obtain ⟨S, R, t, r, S2, R2, t2, r2, h1, h2, h3, h4, h5, h6⟩ := H
  exact ⟨S2, R2, t2, r2, S, R, t, r, h2, h1, fun k hk hk' => h3 k hk' hk, h5, h4, h6⟩
theorem Both.below {w0 : World} {g h g2 h2 : Nat} {T : Int} {w : World} (H : Both w0 g h g2 h2 T w) : Below w0.heap.size w0 w := by
  obtain ⟨S, R, t, r, S2, R2, t2, r2, h1, h2, h3, h4, h5, h6⟩ := H
  exact h6
theorem Both.quiet {w0 : World} {g h g2 h2 : Nat} {T : Int} {w w' : World} (H : Both w0 g h g2 h2 T w) (hc : Chg [] w w') : Both w0 g h g2 h2 T w' := by
  obtain ⟨S, R, t, r, S2, R2, t2, r2, ⟨a1, a2, a3, a4⟩, ⟨b1, b2, b3, b4⟩, h3, h4, h5, h6⟩ := H
  exact ⟨S, R, t, r, S2, R2, t2, r2, ⟨a1.quiet hc, a2, a3, a4⟩, ⟨b1.quiet hc, b2, b3, b4⟩, h3, h4, h5, h6.trans (hc.below (fun _ h => by cases h) h6.size)⟩
theorem Two.keep {w w' : World} {g h : Nat} {S R S' : List Nat} {t : Tab Int} {r : RTab} (H : Two w g h S R t r) (hc : Chg S' w w') (hn : ∀ k ∈ S ++ R, k ∉ S') : Two w' g h S R t r :=
  ⟨H.tab.chg hc (fun k hk => hn k (by simp [hk])), H.ref.chg hc (fun k hk => hn k (by simp [hk])), H.apart⟩
theorem Two.lt {w : World} {g h : Nat} {S R : List Nat} {t : Tab Int} {r : RTab} (H : Two w g h S R t r) : ∀ k ∈ S ++ R, k < w.heap.size := fun k hk => by
  rcases List.mem_append.1 hk with h | h
  · exact H.tab.lt k h
  · exact H.ref.lt k h
theorem Both.does {w0 : World} {g h g2 h2 : Nat} {T : Int} {w : World} (H : Both w0 g h g2 h2 T w) (hT : T ≤ 1000000) (a : ActV) (ha : a.Fits) :
    Calls Try.prog 15 #[.pointer (some ⟨g, 0, none⟩), .pointer (some ⟨h, 0, none⟩), .agg #[.int .i64 a.kind, .int .i64 a.x, .int .i64 a.i, .int .u64 a.q, .int .i64 a.n]] w fun e w' => e = .returned (.bool true) ∧ Both w0 g h g2 h2 (T + 1) w' := by
  obtain ⟨S, R, t, r, S2, R2, t2, r2, ⟨a1, a2, a3, a4⟩, ⟨b1, b2, b3, b4⟩, h3, h4, h5, h6⟩ := H
  refine (do_sim a1 a2 a3 a4 hT a ha).mono ?_
  rintro e w' ⟨he, S', R', k1, k2, k3, k4⟩
  have hlt := b1.lt
  have hsub : ∀ k ∈ S' ++ R', k ∈ S ++ R ∨ w.heap.size ≤ k := fun k hk => by
    rcases List.mem_append.1 hk with h | h
    · exact (k2 k h).imp (fun h => by simp [h]) id
    · exact (k3 k h).imp (fun h => by simp [h]) id
  refine ⟨he, S', R', _, _, S2, R2, t2, r2, ⟨k1, a2.act a, a3.act a2 a, a4.act a _ _⟩, ⟨b1.keep k4 (fun k hk hk' => h3 k hk' hk), b2, b3, b4.mono (by omega)⟩, ?_, sub_below h4 h6.size hsub, h5, h6.trans (k4.below h4 h6.size)⟩
  intro k hk hk'
  rcases hsub k hk with h | h
  · exact h3 k h hk'
  · have := hlt k hk'; omega
theorem Both.same_ {w0 : World} {g h g2 h2 : Nat} {T : Int} {w : World} (H : Both w0 g h g2 h2 T w) :
    Calls Try.prog 14 #[.pointer (some ⟨g, 0, none⟩), .pointer (some ⟨h, 0, none⟩)] w fun e w' => e = .returned (.bool true) ∧ Both w0 g h g2 h2 T w' := by
  obtain ⟨S, R, t, r, S2, R2, t2, r2, ⟨a1, a2, a3, a4⟩, _⟩ := id H
  exact (same_any a1 a2 a3).mono fun e w' ⟨he, hc⟩ => ⟨he, H.quiet hc⟩
/-- What holds between the two copies. -/
def Half (w0 : World) (g h g2 : Nat) (T : Int) (w : World) : Prop :=
  ∃ S R t r S2, (Two w g h S R t r ∧ t.WF ∧ Sim t r ∧ r.Fits T) ∧ TabAt kI w g2 S2 t ∧ (∀ k ∈ S ++ R, k ∉ S2) ∧ (∀ k ∈ S ++ R, w0.heap.size ≤ k) ∧ (∀ k ∈ S2, w0.heap.size ≤ k) ∧ Below w0.heap.size w0 w
theorem Between.copy {w0 : World} {g h : Nat} {T : Int} {w : World} (H : Between w0 g h T w) :
    Calls Try.prog 22 #[.pointer (some ⟨g, 0, none⟩)] w fun e w' => e = .returned (.pointer (some ⟨w.heap.size, 0, none⟩)) ∧ Half w0 g h w.heap.size T w' := by
  obtain ⟨S, R, t, r, h1, h2, h3, h4, h5, h6, h7⟩ := H
  refine (copy_any h1.tab h2).mono ?_
  rintro e w' ⟨he, S2, k1, k2, k3⟩
  refine ⟨he, S, R, t, r, S2, ⟨h1.quiet k3, h2, h3, h4⟩, k1, fun k hk hk' => ?_, fun k hk => ?_, fun k hk => Nat.le_trans h7.size (k2 k hk), h7.trans (k3.below (fun _ h => by cases h) h7.size)⟩
  · have := h1.lt k hk; have := k2 k hk'; omega
  · rcases List.mem_append.1 hk with h | h
    · exact h5 k h
    · exact h6 k h
theorem Half.copy {w0 : World} {g h g2 : Nat} {T : Int} {w : World} (H : Half w0 g h g2 T w) :
    Calls Try.prog 23 #[.pointer (some ⟨h, 0, none⟩)] w fun e w' => ∃ h2, e = .returned (.pointer (some ⟨h2, 0, none⟩)) ∧ Both w0 g h g2 h2 T w' := by
  obtain ⟨S, R, t, r, S2, ⟨h1, h2, h3, h4⟩, k1, k2, k3, k4, k5⟩ := H
  refine (rcopy_any h1.ref h4.len (by have := h3.len; have := h2.s0; omega)).mono ?_
  rintro e w' ⟨hh, R2, he, m1, m2, m3⟩
  have l1 := h1.lt
  have l2 := k1.lt
  refine ⟨hh, he, S, R, t, r, S2, R2, t, r, ⟨h1.quiet m3, h2, h3, h4⟩, ⟨⟨k1.quiet m3, m1, fun k hk hk' => ?_⟩, h2, h3, h4⟩, fun k hk hk' => ?_, k3, fun k hk => ?_, k5.trans (m3.below (fun _ h => by cases h) k5.size)⟩
  · have := l2 k hk; have := m2 k hk'; omega
  · rcases List.mem_append.1 hk' with h | h
    · exact k2 k hk h
    · have := l1 k hk; have := m2 k h; omega
  · rcases List.mem_append.1 hk with h | h
    · exact k4 k h
    · exact Nat.le_trans k5.size (m2 k h)
end Go.Proofs
