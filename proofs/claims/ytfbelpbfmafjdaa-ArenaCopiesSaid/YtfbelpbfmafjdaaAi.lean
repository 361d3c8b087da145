import Derived.Test.YtfbelpbfmafjdaaAh
namespace Go.Proofs
open Go.RowKit
set_option linter.unusedVariables false

theorem plCells_one (l : List Pl) : ∀ u ∈ plCells l, u.oneCell' = true := by
  intro u hu
  unfold plCells at hu
  rw [List.mem_flatMap] at hu
  obtain ⟨s, _, hs⟩ := hu
  simp [Pl.cells] at hs
  rcases hs with rfl | rfl | rfl | rfl | rfl <;> rfl
def RCopied (r : RTab) (w w' : World) (e : Ending) : Prop := ∃ h S, e = .returned (.pointer (some ⟨h, 0, none⟩)) ∧ RefAt w' h S r ∧ (∀ k ∈ S, w.heap.size ≤ k) ∧ Chg [] w w'
set_option maxRecDepth 100000 in
set_option maxHeartbeats 1600000 in
theorem rcopy_any {w : World} {h : Nat} {S : List Nat} {r : RTab} (hr : RefAt w h S r) (hn : r.L.length ≤ 4096) (h0 : 0 < r.L.length) :
    Calls Try.prog 23 #[.pointer (some ⟨h, 0, none⟩)] w fun e w' => RCopied r w w' e := by
  obtain ⟨i0, hi0, hz0, hz1, hz2⟩ := info_parts Try.pl_info
  obtain ⟨VL, hB, hL, _⟩ := hr
  obtain ⟨gl, cl, rfl, _, hcl, hcell, _, lgl⟩ := hL.form h0
  have lh := hB.lt
  have a0 := hB.cell 0
  have a1 := hB.cell 1
  have hone := plCells_one r.L
  have hlen := plCells_len r.L
  obtain ⟨n, hnn⟩ : ∃ n, n = r.L.length := ⟨_, rfl⟩
  obtain ⟨T, hT⟩ : ∃ T, T = r.times := ⟨_, rfl⟩
  rw [← hnn] at a0 hlen hn h0 hcl
  rw [← hT] at a1
  have hadd : ∀ j, (⟨gl, 0, none⟩ : Addr).add j = ⟨gl, j, none⟩ := fun j => by unfold Addr.add; split <;> simp_all
  have hnews : ∀ j u, (plCells r.L)[j]? = some u → w.drew.cell? ((⟨gl, 0, none⟩ : Addr).add j) = some u := fun j u hu => by rw [hadd]; exact hcell j u hu
  have HNews := Lib.hid hnews
  have HOne := Lib.hid hone
  have HLen := Lib.hid hlen
  have HN := Lib.hid hnn
  have HT := Lib.hid hT
  clear hB hL hcell hone hlen hnn hT hadd hnews
  go_enter Try.func23, Try.ntmps23
  go_wp2
  go_region_law
    ((refine step_append_row _ (by rfl) _ _ _ (by rfl) 58 i0 _ 5 32 Try.underlying54 hi0 hz0 hz1 hz2 rfl (.slice none 0 0) 0 [] (by rfl) (Row.nil _ _ _) ⟨gl, 0, none⟩ n cl (plCells r.L) (by rfl) HLen.out HNews.out HOne.out h0 (by unfold maxLen; omega) (by omega) w.heap.size (by rfl) ?_; intro g cap w1 hown hgrow hat hlt1; have y0 : w1.cell? ⟨h, 0, none⟩ = some (.slice (some ⟨gl, 0, none⟩) n cl) := (hgrow.cell_far ⟨h, 0, none⟩ lh (by simp [Value.ownBlock])).trans a0; have y1 : w1.cell? ⟨h, 1, none⟩ = some (.int .i64 T) := (hgrow.cell_far ⟨h, 1, none⟩ lh (by simp [Value.ownBlock])).trans a1; have HO := Lib.hid hown; have HG := Lib.hid hgrow; have HAt := Lib.hid hat; clear hown hgrow hat))
  all_goals
    have hfin : RCopied r w (w1.alloc (.cells #[.slice (some ⟨g, 0, none⟩) (0 + n) cap, .int .i64 T] 56)) (.returned (.pointer (some ⟨w1.heap.size, 0, none⟩))) := by
      have z1 := HG.out.size
      have hO := HO.out.alloc (.cells #[.slice (some ⟨g, 0, none⟩) (0 + n) cap, .int .i64 T] 56)
      refine ⟨w1.heap.size, w1.heap.size :: foot (.slice (some ⟨g, 0, none⟩) (0 + n) cap), rfl, ⟨_, ?_, ?_, rfl⟩, ?_, ?_⟩
      · rw [← HT.out]; exact Blk.new w1 56 _
      · rw [← HN.out]; simpa using hO
      · intro k hk
        simp [foot_some] at hk
        have z2 : w.drew.heap.size = w.heap.size := rfl
        rcases hk with rfl | rfl
        · omega
        · rcases HAt.out with h9 | h9
          · simp [Value.ownBlock] at h9
          · omega
      · exact (((Chg.refl [] w).drew).grown HG.out (fun k hk => by simp [Value.ownBlock] at hk)).alloc _
    have HFin := Lib.hid hfin
    clear hfin
    go_wp2
    go_ret
    have e := HFin.out
    simp only [Nat.zero_add] at e
    exact e
end Go.Proofs
