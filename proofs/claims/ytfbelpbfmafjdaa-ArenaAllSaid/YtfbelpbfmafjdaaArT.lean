import Derived.Test.YtfbelpbfmafjdaaArS
namespace Go.Proofs
open Go.RowKit
set_option linter.unusedVariables false

def frAt (L : List Pl) (i : Nat) : Int := match L[i]? with | some p => p.freed | none => 0
def better (L : List Pl) (a i : Nat) : Nat := if frAt L a < frAt L i then i else a
def pickL (L : List Pl) (l : List Nat) (k : Nat) : Nat := (l.take k).foldl (better L) (l.headD 0)
theorem pickL_succ (L : List Pl) (l : List Nat) (k i : Nat) (h : l[k]? = some i) : pickL L l (k + 1) = better L (pickL L l k) i := by
  unfold pickL
  have hk := (List.getElem?_eq_some_iff.1 h).1
  rw [List.take_succ_eq_append_getElem hk, List.foldl_append]
  simp only [List.foldl_cons, List.foldl_nil]
  rw [(List.getElem?_eq_some_iff.1 h).2]
theorem pickL_mem (L : List Pl) (l : List Nat) (hl : l ≠ []) (k : Nat) : pickL L l k ∈ l := by
  induction k with
  | zero => cases l with
    | nil => exact absurd rfl hl
    | cons a b => simp [pickL]
  | succ k ih =>
    rcases Nat.lt_or_ge k l.length with h | h
    · rw [pickL_succ L l k _ (List.getElem?_eq_getElem h)]
      unfold better
      split
      · exact List.getElem_mem h
      · exact ih
    · have : pickL L l (k + 1) = pickL L l k := by
        unfold pickL
        rw [List.take_of_length_le (by omega), List.take_of_length_le h]
      rw [this]; exact ih
def RTab.frees (r : RTab) : List Nat := freeL r.L r.L.length
def RTab.pick (r : RTab) : Nat := pickL r.L r.frees r.frees.length
def RTab.genAt (r : RTab) (i : Nat) : Int := match r.L[i]? with | some p => p.gen | none => 0
def RTab.put (r : RTab) (x : Int) : RTab := match r.L[r.pick]? with | some p => { r with L := r.L.set r.pick { p with there := true, x := x } } | none => r

theorem rput_full {w : World} {h : Nat} {S : List Nat} {r : RTab} (hr : RefAt w h S r) (hn : r.L.length ≤ 4096) (x : Int) (hf : r.frees = []) :
    Calls Try.prog 33 #[.pointer (some ⟨h, 0, none⟩), .int .i64 x] w fun e w' => e = .returned (.tuple #[.agg #[.int .i64 0, .int .u64 0], .int .i64 3]) ∧ Chg [] w w' := by
  have HA := fun w' h' => rfree_any (w := w') (h := h) (S := S) (r := r) h' hn
  have e : freeL r.L r.L.length = [] := hf
  rw [e] at HA
  clear hf e
  go_enter Try.func33, Try.ntmps33
  go_wp2_with (go_at_call 32; refine (HA _ (hr.quiet ((Chg.refl _ _).alloc _))).mono ?_; rintro e w1 ⟨A, c, rfl, hv, hfoot, hc1⟩; have hz : w.heap.size < w1.heap.size := (by have := hc1.size; simp at this; omega); have hb := ((Blk.new w 36 #[.int .i64 0, .int .u64 0]).chg hc1 (by simp)); have k0 := hb.cell 0; have k1 := hb.cell 1; have q0 := hb.frozen 0; have q1 := hb.frozen 1)
  exact bodyPost_ret (v := .tuple #[.agg #[.int .i64 0, .int .u64 0], .int .i64 3]) (by simp [results, Try.results33, go_sem, *]) rfl ⟨rfl, ((((Chg.refl _ _).alloc _).then hc1).setCell (p := ⟨w.heap.size, 0, none⟩) (.inr (Nat.le_refl _)) _).setCell (p := ⟨w.heap.size, 1, none⟩) (.inr (Nat.le_refl _)) _⟩

theorem RTurns.box {h : Nat} {S : List Nat} {r' : RTab} {w W : World} (hr : RefAt W h S r') (hc : Chg S w W) (hS : ∀ k ∈ S, k < w.heap.size) (u v : Value) :
    RTurns h S r' w ((W.setCell ⟨w.heap.size, 0, none⟩ u).setCell ⟨w.heap.size, 1, none⟩ v) := by
  have hn : w.heap.size ∉ S := fun hm => by have := hS _ hm; omega
  exact ⟨S, (hr.far (p := ⟨w.heap.size, 0, none⟩) hn _).far (p := ⟨w.heap.size, 1, none⟩) hn _, fun k hk => .inl hk, (hc.setCell (p := ⟨w.heap.size, 0, none⟩) (.inr (Nat.le_refl _)) _).setCell (p := ⟨w.heap.size, 1, none⟩) (.inr (Nat.le_refl _)) _⟩
theorem plCells_come (l : List Pl) (k : Nat) (p : Pl) (x : Int) (h : l[k]? = some p) :
    plCells (l.set k { p with there := true, x := x }) = ((plCells l).set (k * 5 + 1) (.bool true)).set (k * 5 + 3) (.int .i64 x) := by
  obtain ⟨h0, h1, h2, h3, h4⟩ := plCells_at l k p h
  rw [plCells_set l k _ (List.getElem?_eq_some_iff.1 h).1, set_self_at h0]
  refine List.ext_getElem? fun j => ?_
  have hl := plCells_len l
  have hk := (List.getElem?_eq_some_iff.1 h).1
  simp only [List.getElem?_set, List.length_set, hl]
  by_cases e4 : k * 5 + 4 = j
  · subst e4; simp [h4]; omega
  · by_cases e2 : k * 5 + 2 = j
    · subst e2; simp [h2]; omega
    · simp [e4, e2]
/-- Something has come to a place of the document's table. -/
theorem RefAt.come {h gl cl : Nat} {r : RTab} {p : Pl} {w w1 : World} (hB : Blk w1 h 56 #[.slice (some ⟨gl, 0, none⟩) r.L.length cl, .int .i64 r.times])
    (hL : Row w1 58 5 (.slice (some ⟨gl, 0, none⟩) r.L.length cl) r.L.length (plCells r.L)) {k : Nat} (hp : r.L[k]? = some p) (x : Int) (hc : Chg [] w w1) :
    RefAt ((w1.setCell ⟨gl, k * 5 + 1, none⟩ (.bool true)).setCell ⟨gl, k * 5 + 3, none⟩ (.int .i64 x)) h (h :: foot (.slice (some ⟨gl, 0, none⟩) r.L.length cl)) { r with L := r.L.set k { p with there := true, x := x } } ∧
      Chg (h :: foot (.slice (some ⟨gl, 0, none⟩) r.L.length cl)) w ((w1.setCell ⟨gl, k * 5 + 1, none⟩ (.bool true)).setCell ⟨gl, k * 5 + 3, none⟩ (.int .i64 x)) := by
  have hk := (List.getElem?_eq_some_iff.1 hp).1
  have hg : h ≠ gl := by have := hL.ty hB (by decide); simpa [foot_some] using this
  have hr := (hL.set_ (j := k * 5 + 1) (by omega) (.bool true)).set_ (j := k * 5 + 3) (by omega) (.int .i64 x)
  rw [← plCells_come r.L k p x hp] at hr
  refine ⟨⟨.slice (some ⟨gl, 0, none⟩) r.L.length cl, (hB.far hg _).far hg _, by simpa using hr, rfl⟩, ?_⟩
  exact (hc.any.setCell (.inl (by simp [foot_some])) _).setCell (.inl (by simp [foot_some])) _
end Go.Proofs
