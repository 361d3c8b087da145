import Derived.Test.YtfbelpbfmafjdaaBc
namespace Go.Proofs
open Go.RowKit Go.Shelf
set_option linter.unusedVariables false

/-- A captured box, and the slice of names that it holds; both were made from n0 on, and lie below hi. -/
structure HeldTo (n0 hi : Nat) (W : World) (B : Nat) (xs : List Nam) : Prop where
  ge : n0 ≤ B
  lt : B < hi
  top : hi ≤ W.heap.size
  row : ∃ V, W.cell? ⟨B, 0, none⟩ = some V ∧ Row W 87 3 V xs.length (namCells xs) ∧ (∀ k ∈ foot V, n0 ≤ k ∧ k < hi)
theorem Held.to {n0 : Nat} {W : World} {B : Nat} {xs : List Nam} (h : Held n0 W B xs) : HeldTo n0 W.heap.size W B xs := ⟨h.ge, h.lt, Nat.le_refl _, h.row⟩
/-- What changes blocks that lie ahead of it, or behind it, leaves it as it is. -/
theorem HeldTo.chg {n0 hi : Nat} {W W' : World} {B : Nat} {xs : List Nam} {S : List Nat} (h : HeldTo n0 hi W B xs) (hc : Chg S W W') (hS : ∀ k ∈ S, k < n0 ∨ hi ≤ k) : HeldTo n0 hi W' B xs := by
  obtain ⟨h1, h2, h3, V, hV, hR, hf⟩ := h
  refine ⟨h1, h2, Nat.le_trans h3 hc.size, V, ?_, hR.chg hc (fun k hk hm => ?_), hf⟩
  · rw [hc.cell (p := ⟨B, 0, none⟩) (Nat.lt_of_lt_of_le h2 h3) (fun hm => by have := hS _ hm; simp only at this; omega)]
    exact hV
  · have a := hf k hk
    have b := hS k hm
    omega
theorem HeldTo.below {n0 hi D : Nat} {W W' : World} {B : Nat} {xs : List Nam} (h : HeldTo n0 hi W B xs) (hb : Below D W W') (hD : hi ≤ D) : HeldTo n0 hi W' B xs := by
  obtain ⟨h1, h2, h3, V, hV, hR, hf⟩ := h
  exact ⟨h1, h2, Nat.le_trans h3 hb.size, V, (hb.cell (p := ⟨B, 0, none⟩) (Nat.lt_of_lt_of_le h2 hD)).trans hV, hR.same (fun k hk => hb.block k (Nat.lt_of_lt_of_le (hf k hk).2 hD)), hf⟩

/-- The iterator that All hands out, for a range over it. -/
theorem over_stops (n : Nat) (hn : 1 ≤ n) {n0 hi D B : Nat} {xs : List Nam} {w : World} (h : HeldTo n0 hi w B xs) (hD : hi ≤ D) (hDw : D ≤ w.heap.size) (hl : xs.length ≤ 5000) :
    SeqStopsK Fence.wide n Try.prog 41 #[.pointer (some ⟨B, 0, none⟩)] Nam.encs (Below D) (fun ys => ys = xs) (fun pre => pre <+: xs) xs.length w := fun l J Jx W hW hJ _ hY h0 => by
  obtain ⟨h1, h2, h3, V, hV, hR, hf⟩ := h
  exact over_in n hn l B D V xs w (by omega) hV hR (fun k hk => by have := hf k hk; omega) hl J Jx W (hW.mono hDw) (by have := hW.size; omega) hJ hY h0
end Go.Proofs
