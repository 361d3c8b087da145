import Derived.Test.YtdinbalpfgobgaaDoorM2
import Derived.Deep.QuietTactic
import Derived.BigQuiet
import Derived.BigRegion
import Derived.IntWalk
import Derived.Laws.StructEq
import Derived.Sort.LoopGhostIn
section
namespace Go.Proofs
open Go.RowKit
set_option linter.unusedVariables false
set_option linter.unusedSimpArgs false

/-! ### What a call demands -/
def demP (k : Int) : List NeedC := ((tableE.find? (fun x => x.1 == k)).map (·.2)).getD []
theorem demP_mem {k : Int} {l : List NeedC} (h : (k, l) ∈ tableE) : demP k = l := by
  simp only [tableE, List.mem_cons, Prod.mk.injEq, List.mem_nil_iff, or_false] at h
  rcases h with ⟨rfl, rfl⟩ | ⟨rfl, rfl⟩ | ⟨rfl, rfl⟩ | ⟨rfl, rfl⟩ | ⟨rfl, rfl⟩ | ⟨rfl, rfl⟩ | ⟨rfl, rfl⟩ | ⟨rfl, rfl⟩ | ⟨rfl, rfl⟩ | ⟨rfl, rfl⟩ | ⟨rfl, rfl⟩ | ⟨rfl, rfl⟩ | ⟨rfl, rfl⟩ | ⟨rfl, rfl⟩ | ⟨rfl, rfl⟩ | ⟨rfl, rfl⟩ | ⟨rfl, rfl⟩ | ⟨rfl, rfl⟩ <;> rfl
theorem demP_none {k : Int} (h : ∀ x ∈ tableE, x.1 ≠ k) : demP k = [] := by
  unfold demP
  rw [List.find?_eq_none.2 (fun x hx => by simpa using h x hx)]
  rfl
/-- What is told: nothing, or a slice of the call's own. -/
def NeedsIn (B : Nat) (w : World) (v : Value) (l : List NeedC) : Prop := (l = [] ∧ v = .slice none 0 0) ∨ NeedsAt B w v l
theorem look_any {w0 w : World} {m : Nat} (h : DTn w0 w m tableE 23) {k : Int} (h0 : -9223372036854775808 ≤ k) (h1 : k ≤ 9223372036854775807) : ∃ v, (Instr.lookup 42 (.map (some m)) (.int .i64 k) false).run Tryd.prog w = .ok v w ∧ NeedsIn w0.heap.size w v (demP k) := by
  rcases h.1.lookup (fun x hx => by have := h.2 x hx; omega) h0 h1 (by kernel_rfl) with ⟨hn, hr⟩ | ⟨v, l, hm, hr, hN⟩
  · exact ⟨_, hr, .inl ⟨demP_none hn, rfl⟩⟩
  · exact ⟨v, hr, .inr (by rw [demP_mem hm]; exact hN)⟩
theorem dem_any (k : Int) (h0 : -9223372036854775808 ≤ k) (h1 : k ≤ 9223372036854775807) (w : World) :
    Calls Tryd.prog 7 #[.int .i64 k] w fun e w' => ∃ v, e = .returned v ∧ Below w.heap.size w w' ∧ NeedsIn w.heap.size w' v (demP k) := by
  go_enter Tryd.func7, Tryd.ntmps7
  go_wp2_with (go_at_call 13; refine (demands_map _).mono ?_; rintro e w1 ⟨rfl, hD⟩; obtain ⟨v, hlook, hv⟩ := look_any hD h0 h1)
  go_ret
  exact ⟨_, rfl, hD.1.below, hv⟩

/-! ### A list of demands that is read -/
def NeedsR (w : World) (v : Value) (l : List NeedC) : Prop :=
  ∃ A c, v = .slice A l.length c ∧ ∀ (i : Nat) (x : NeedC), l[i]? = some x → ∃ b, A = some ⟨b, 0, none⟩ ∧ b < w.heap.size ∧ w.cell? ⟨b, i * 3, none⟩ = some (.int .i64 x.arg) ∧ w.cell? ⟨b, i * 3 + 1, none⟩ = some (.int .i64 x.kind) ∧ w.cell? ⟨b, i * 3 + 2, none⟩ = some (.int .u8 x.r)
theorem NeedsR.next {w w' : World} {v : Value} {l : List NeedC} (h : NeedsR w v l) (hb : Below w.heap.size w w') : NeedsR w' v l := by
  obtain ⟨A, c, e, h⟩ := h
  refine ⟨A, c, e, fun i x hx => ?_⟩
  obtain ⟨b, eA, hl, h0, h1, h2⟩ := h i x hx
  exact ⟨b, eA, Nat.lt_of_lt_of_le hl hb.size, (hb.cell (show b < _ from hl)).trans h0, (hb.cell (show b < _ from hl)).trans h1, (hb.cell (show b < _ from hl)).trans h2⟩
theorem flat_at : ∀ (l : List NeedC) (i : Nat) (x : NeedC) (j : Nat), l[i]? = some x → j < 3 → (l.flatMap NeedC.cells)[i * 3 + j]? = x.cells[j]?
  | y :: t, 0, x, j, h, hj => by
    simp at h
    subst h
    rw [List.flatMap_cons, List.getElem?_append_left (by simp; omega), Nat.zero_mul, Nat.zero_add]
  | y :: t, i + 1, x, j, h, hj => by
    rw [List.flatMap_cons, List.getElem?_append_right (by simp; omega)]
    have e : (i + 1) * 3 + j - y.cells.length = i * 3 + j := by simp; omega
    rw [e]
    exact flat_at t i x j (by simpa using h) hj
theorem NeedsAt.cell {B : Nat} {w : World} {b n : Nat} {l : List NeedC} {c : Nat} (hb : w.heap[b]? = some (.cells (l.flatMap NeedC.cells).toArray 36 (0, 0))) {i : Nat} {x : NeedC} (hx : l[i]? = some x) {j : Nat} (hj : j < 3) : w.cell? ⟨b, i * 3 + j, none⟩ = x.cells[j]? := by
  rw [Lib.cell_of_heap hb]
  simp only [List.getElem?_toArray]
  exact flat_at l i x j hx hj
theorem NeedsIn.reads {B : Nat} {w : World} {v : Value} {l : List NeedC} (h : NeedsIn B w v l) : NeedsR w v l := by
  rcases h with ⟨rfl, rfl⟩ | ⟨b, _, rfl, hb⟩
  · exact ⟨none, 0, rfl, fun i x hx => by simp at hx⟩
  · refine ⟨some ⟨b, 0, none⟩, l.length, rfl, fun i x hx => ⟨b, rfl, (Array.getElem?_eq_some_iff.1 hb).1, ?_, ?_, ?_⟩⟩
    · exact NeedsAt.cell (B := 0) (n := 0) (c := 0) hb hx (j := 0) (by omega)
    · exact NeedsAt.cell (B := 0) (n := 0) (c := 0) hb hx (j := 1) (by omega)
    · exact NeedsAt.cell (B := 0) (n := 0) (c := 0) hb hx (j := 2) (by omega)
end Go.Proofs
end
