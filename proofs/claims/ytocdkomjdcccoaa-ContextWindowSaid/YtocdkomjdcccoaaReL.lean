import Derived.Test.YtocdkomjdcccoaaReK
namespace Go.Proofs
open Go.RowKit
set_option linter.unusedVariables false

theorem rdueK_len (l : List Rf) (now : Int) : ∀ k, (rdueK l now k).length ≤ k
  | 0 => by simp [rdueK]
  | k + 1 => by
    have ih := rdueK_len l now k
    unfold rdueK
    split
    · split
      · simp
      · rename_i h; rw [h] at ih; simp at ih ⊢; omega
    · simp; omega
theorem Ro.set1 {w : World} {g cap n : Nat} {a t : Int} {r : List Rf} (h : Ro w (.slice (some ⟨g, 0, none⟩) n cap) ((a, t) :: r)) (a' : Int) : Ro (w.setCell ⟨g, 0, none⟩ (.int .u64 a')) (.slice (some ⟨g, 0, none⟩) n cap) ((a', t) :: r) := by
  have hm : n = ((a, t) :: r).length := by obtain ⟨A', c', hv, _⟩ := h.rd.open_; injection hv
  subst hm
  have := Row.set_ h (j := 0) (by simp) (.int .u64 a')
  exact this
theorem Ro.set2 {w : World} {g cap n : Nat} {a t : Int} {r : List Rf} (h : Ro w (.slice (some ⟨g, 0, none⟩) n cap) ((a, t) :: r)) (t' : Int) : Ro (w.setCell ⟨g, 1, none⟩ (.int .u64 t')) (.slice (some ⟨g, 0, none⟩) n cap) ((a, t') :: r) := by
  have hm : n = ((a, t) :: r).length := by obtain ⟨A', c', hv, _⟩ := h.rd.open_; injection hv
  subst hm
  have := Row.set_ h (j := 1) (by simp; omega) (.int .u64 t')
  exact this
/-- What a row of one at least looks like. -/
theorem Ro.head {w : World} {v : Value} {a t : Int} {r : List Rf} (h : Ro w v ((a, t) :: r)) : ∃ g cap, v = .slice (some ⟨g, 0, none⟩) (r.length + 1) cap ∧ foot v = [g] ∧ r.length + 1 ≤ cap ∧ g < w.heap.size ∧
    w.cell? ⟨g, 0, none⟩ = some (.int .u64 a) ∧ w.cell? ⟨g, 1, none⟩ = some (.int .u64 t) ∧ ∀ k, w.frozen? ⟨g, k, none⟩ = false := by
  obtain ⟨g, cap, hv, hf, hc, hcell, hfz, hg⟩ := Row.form h (by simp)
  exact ⟨g, cap, hv, hf, hc, hg, hcell 0 _ rfl, hcell 1 _ rfl, hfz⟩
theorem Own.set1 {w0 w : World} {g cap n : Nat} {a t : Int} {r : List Rf} (h : Own w0 w (.slice (some ⟨g, 0, none⟩) n cap) ((a, t) :: r)) (a' : Int) : Own w0 (w.setCell ⟨g, 0, none⟩ (.int .u64 a')) (.slice (some ⟨g, 0, none⟩) n cap) ((a', t) :: r) :=
  ⟨h.1.set1 a', h.2.1, h.2.2.setCell (p := ⟨g, 0, none⟩) (.inr (h.2.1 g (by simp [foot_some]))) _⟩
theorem Own.set2 {w0 w : World} {g cap n : Nat} {a t : Int} {r : List Rf} (h : Own w0 w (.slice (some ⟨g, 0, none⟩) n cap) ((a, t) :: r)) (t' : Int) : Own w0 (w.setCell ⟨g, 1, none⟩ (.int .u64 t')) (.slice (some ⟨g, 0, none⟩) n cap) ((a, t') :: r) :=
  ⟨h.1.set2 t', h.2.1, h.2.2.setCell (p := ⟨g, 1, none⟩) (.inr (h.2.1 g (by simp [foot_some]))) _⟩
theorem Own.drew {w0 w : World} {v : Value} {l : List Rf} (h : Own w0 w v l) : Own w0 w.drew v l := ⟨Row.drew h.1, h.2.1, h.2.2.drew⟩
theorem Own.drewN {w0 w : World} {v : Value} {l : List Rf} (h : Own w0 w v l) (n : Nat) : Own w0 (w.drewN n) v l := ⟨Row.drewN h.1 n, h.2.1, h.2.2.drewN n⟩
end Go.Proofs
