import Derived.Test.YtfbelpbfmafjdaaArR
namespace Go.Proofs
open Go.RowKit
set_option linter.unusedVariables false

def freeAt (l : List Pl) (i : Nat) : Bool := match l[i]? with | some p => !p.there && !p.retired | none => false
def freeL (l : List Pl) (k : Nat) : List Nat := (List.range k).filter (freeAt l)
theorem freeL_yes (l : List Pl) (k : Nat) (h : freeAt l k = true) : freeL l (k + 1) = freeL l k ++ [k] := by unfold freeL; rw [List.range_succ, List.filter_append]; simp [h]
theorem freeL_no (l : List Pl) (k : Nat) (h : freeAt l k = false) : freeL l (k + 1) = freeL l k := by unfold freeL; rw [List.range_succ, List.filter_append]; simp [h]
theorem freeL_len (l : List Pl) (k : Nat) : (freeL l k).length ≤ k := by unfold freeL; exact Nat.le_trans (List.length_filter_le _ _) (by simp)
theorem mem_freeL (l : List Pl) (k i : Nat) : i ∈ freeL l k ↔ i < k ∧ freeAt l i = true := by unfold freeL; simp
/-- A slice of ints in new blocks. -/
def Nums (l : List Nat) (w w' : World) (e : Ending) : Prop := ∃ A c, e = .returned (.slice A l.length c) ∧ Row w' 3 1 (.slice A l.length c) l.length (numCells l) ∧ (∀ k ∈ foot (.slice A l.length c), w.heap.size ≤ k) ∧ Chg [] w w'
theorem Try.int_info : (Try.prog.info? 3).map (fun i => (i.zero, i.size, i.bytes)) = some (some (.int .i64 0), 1, 8) := by kernel_rfl
theorem ref_spot {w : World} {VL : Value} {l : List Pl} (hL : Row w 58 5 VL l.length (plCells l)) {k : Nat} {p : Pl} (hp : l[k]? = some p) :
    ∃ gl cl, VL = .slice (some ⟨gl, 0, none⟩) l.length cl ∧ l.length ≤ cl ∧ gl < w.heap.size ∧ k < l.length ∧ w.cell? ⟨gl, k * 5, none⟩ = some (.int .u64 p.gen) ∧ w.cell? ⟨gl, k * 5 + 1, none⟩ = some (.bool p.there) ∧
      w.cell? ⟨gl, k * 5 + 2, none⟩ = some (.bool p.retired) ∧ w.cell? ⟨gl, k * 5 + 3, none⟩ = some (.int .i64 p.x) ∧ w.cell? ⟨gl, k * 5 + 4, none⟩ = some (.int .i64 p.freed) ∧ (∀ j, w.frozen? ⟨gl, j, none⟩ = false) := by
  have hi := (List.getElem?_eq_some_iff.1 hp).1
  obtain ⟨gl, cl, hv, _, hc, hcell, hfz, hlt⟩ := hL.form (by omega)
  obtain ⟨h0, h1, h2, h3, h4⟩ := plCells_at l k p hp
  exact ⟨gl, cl, hv, hc, hlt, hi, hcell _ _ h0, hcell _ _ h1, hcell _ _ h2, hcell _ _ h3, hcell _ _ h4, hfz⟩

set_option maxHeartbeats 1600000 in
set_option maxRecDepth 100000 in
theorem rfree_any {w : World} {h : Nat} {S : List Nat} {r : RTab} (hr : RefAt w h S r) (hn : r.L.length ≤ 4096) :
    Calls Try.prog 32 #[.pointer (some ⟨h, 0, none⟩)] w fun e w' => Nums (freeL r.L r.L.length) w w' e := by
  obtain ⟨i0, hi0, hz0, hz1, hz2⟩ := info_parts Try.int_info
  obtain ⟨VL, hB, hL, rfl⟩ := hr
  obtain ⟨A0, c0, hVL, _⟩ := hL.val
  have a0 := hB.cell 0
  have lh := hB.lt
  obtain ⟨n, hnn⟩ : ∃ n, n = r.L.length := ⟨_, rfl⟩
  have HV := Lib.hid hVL
  have HL := Lib.hid hL
  have HN := Lib.hid hnn
  rw [hVL, ← hnn] at a0
  rw [← hnn] at hn ⊢
  clear hB hL hVL hnn
  go_enter Try.func32, Try.ntmps32
  go_wp2
  go_loopw [3, 4] (fun v i wr => ∃ (k : Nat) (A : Option Addr) (c : Nat), k ≤ n ∧ i = .int .i64 k ∧ v = .slice A (freeL r.L k).length c ∧ Row wr 3 1 v (freeL r.L k).length (numCells (freeL r.L k)) ∧ (∀ j ∈ foot v, w.heap.size ≤ j) ∧ Chg [] w wr) (fun _ i wr => n - (intOf i).toNat)
  case atStart => exact ⟨0, none, 0, Nat.zero_le _, rfl, rfl, Row.nil _ _ _, by simp [foot_nil], Chg.refl _ _⟩
  case round =>
    obtain ⟨k, A, c, hk, rfl, rfl, hv, hf, hc⟩ := hrel
    have a0' := (hc.cell (p := ⟨h, 0, none⟩) lh (by simp)).trans a0
    have lh' : h < wr.heap.size := by have := hc.size; omega
    have hl := freeL_len r.L k
    by_cases hlt : k < n
    · obtain ⟨p, hp⟩ : ∃ p, r.L[k]? = some p := ⟨_, List.getElem?_eq_getElem (by rw [← HN.out]; exact hlt)⟩
      obtain ⟨gl, cl, hv2, hcl, lg, _, _, b1, b2, _, _, _⟩ := ref_spot HL.out hp
      rw [HV.out] at hv2
      simp only [Value.slice.injEq] at hv2
      obtain ⟨rfl, _, _⟩ := hv2
      have b1' := (hc.cell (p := ⟨gl, k * 5 + 1, none⟩) lg (by simp)).trans b1
      have b2' := (hc.cell (p := ⟨gl, k * 5 + 2, none⟩) lg (by simp)).trans b2
      have hfa : freeAt r.L k = (!p.there && !p.retired) := by unfold freeAt; rw [hp]
      have HFA := Lib.hid hfa
      clear b1 b2 hp hfa
      have hX := Lib.hid hf
      have HC := Lib.hid hc
      clear hf hc a0
      by_cases ht : p.there = true
      · have hno := Lib.hid (freeL_no r.L k (by rw [HFA.out, ht]; rfl))
        rw [ht] at b1'
        clear ht b2'
        go_wp2
        go_roundw
        case rel => exact ⟨k + 1, A, c, by omega, by go_num, by rw [hno.out], by rw [hno.out]; exact hv, hX.out, HC.out⟩
        case measure => simp [intOf]; omega
      · have ht' : p.there = false := by simpa using ht
        rw [ht'] at b1'
        by_cases hre : p.retired = true
        · have hno := Lib.hid (freeL_no r.L k (by rw [HFA.out, ht', hre]; rfl))
          rw [hre] at b2'
          clear ht ht' hre
          go_wp2
          go_roundw
          case rel => exact ⟨k + 1, A, c, by omega, by go_num, by rw [hno.out], by rw [hno.out]; exact hv, hX.out, HC.out⟩
          case measure => simp [intOf]; omega
        · have hre' : p.retired = false := by simpa using hre
          have hyes := Lib.hid (freeL_yes r.L k (by rw [HFA.out, ht', hre']; rfl))
          rw [hre'] at b2'
          clear ht ht' hre hre'
          go_wp2_with (at_builtin; refine wpList_append_row _ rfl _ _ 64 (by rfl) 3 i0 _ 1 8 Try.underlying64 hi0 hz0 hz1 hz2 rfl (.slice A (freeL r.L k).length c) (freeL r.L k).length (numCells (freeL r.L k)) (by rfl) (hv.alloc _) ⟨wr.heap.size, 0, none⟩ 1 1 [.int .i64 (k : Nat)] (by rfl) (by rfl) (World.news_of_block (cs := #[.int .i64 (k : Nat)]) (t := 3) (fr := (0, 0)) (heap_alloc_new wr _)) (by simp [Value.oneCell']) (by omega) (by unfold maxLen; omega) (by omega) (wr.heap.size + 1) (by simp) ?_; intro g cap w1 hown hgrow hat hlt1)
          go_roundw
          case rel =>
            refine ⟨k + 1, some ⟨g, 0, none⟩, cap, by omega, by go_num, by rw [hyes.out]; simp, ?_, ?_, ?_⟩
            · rw [hyes.out]
              rw [show numCells (freeL r.L k ++ [k]) = numCells (freeL r.L k) ++ [.int .i64 (k : Nat)] by unfold numCells; simp]
              simpa using hown
            · intro j hj
              simp [foot_some] at hj
              subst hj
              rcases hat with h9 | h9
              · exact hX.out _ (row_mem h9)
              · have := HC.out.size; omega
            · exact (HC.out.alloc _).grown hgrow (fun j hj => .inr (hX.out _ (row_mem hj)))
          case measure => simp [intOf]; omega
    · obtain rfl : k = n := by omega
      go_wp2
      go_ret
      exact ⟨A, c, rfl, hv, hf, hc⟩
end Go.Proofs
