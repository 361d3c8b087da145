import Derived.Test.YtocdkomjdcccoaaReP
namespace Go.Proofs
open Go.RowKit
set_option linter.unusedVariables false

/-- Is the first one there? -/
theorem there_head {l : List Rf} (hk : Ok l) (hm : mayP l = true) (now : Int) : 1 ≤ thereP l now ↔ ∃ x, l[0]? = some x ∧ x.2 ≤ now := by
  obtain ⟨h1, h2⟩ := mayP_iff.1 hm
  rw [thereP_fine hk hm]
  constructor
  · intro h
    have h0 : dueN l now ≠ 0 := fun e => by rw [e] at h; simp [sumP] at h
    have hle := dueN_le l now
    obtain ⟨x, hx⟩ : ∃ x, l[0]? = some x := ⟨_, List.getElem?_eq_getElem (by omega)⟩
    exact ⟨x, hx, (due_split h2 hx).2 (by omega)⟩
  · rintro ⟨x, hx, hxn⟩
    exact due_sum hk h2 ((due_split h2 hx).1 hxn) (dueN_le l now)
/-- What is known of a list Due in memory, and of it with one used. -/
theorem due_mem {w0 w : World} {v : Value} {T t : Int} {r : List Rf} (h : Own w0 w v ((T, t) :: r)) : ∃ g cap, v = .slice (some ⟨g, 0, none⟩) (r.length + 1) cap ∧ r.length + 1 ≤ cap ∧ g < w.heap.size ∧ (∀ k, w.frozen? ⟨g, k, none⟩ = false) ∧
    w.cell? ⟨g, 0, none⟩ = some (.int .u64 T) ∧ w.cell? ⟨g, 1, none⟩ = some (.int .u64 t) ∧
    (0 < r.length → w.cell? ⟨g, r.length * 2, none⟩ = some (.int .u64 (lastP r).1) ∧ w.cell? ⟨g, r.length * 2 + 1, none⟩ = some (.int .u64 (lastP r).2)) ∧
    ∀ a, Mine w0 (w.setCell ⟨g, 0, none⟩ (.int .u64 a)) (.slice (some ⟨g, 0, none⟩) (r.length + 1) cap) ((a, t) :: r) := by
  obtain ⟨g, cap, rfl, hf, hc, lg, y0, y1, hfz⟩ := h.1.head
  refine ⟨g, cap, rfl, hc, lg, hfz, y0, y1, fun h0 => ?_, fun a => ?_⟩
  · obtain ⟨A, c', hv, _, _, _, hcell⟩ := h.rd.open_
    obtain ⟨b, o, hA, _, q0, q1⟩ := hcell r.length (lastP r) (by
      have := lastP_at h0
      obtain ⟨m, hm⟩ : ∃ m, r.length = m + 1 := ⟨r.length - 1, by omega⟩
      rw [hm] at this ⊢
      simpa using this)
    simp only [Value.slice.injEq] at hv
    rw [← hv.1] at hA
    simp only [Option.some.injEq, Addr.mk.injEq, and_true] at hA
    obtain ⟨rfl, rfl⟩ := hA
    rw [Nat.zero_add] at q0 q1
    exact ⟨q0, q1⟩
  · have := h.mine.set1 (k := 0) (x := (T, t)) rfl a
    simpa using this
end Go.Proofs
