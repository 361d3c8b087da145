import Derived.Test.YtfbelpbfmafjdaaArGI
import Derived.LoopTactic
namespace Go.Proofs
open Go.RowKit
set_option linter.unusedVariables false

/-! ### The document's own table -/
structure Pl where
  gen : Int
  there : Bool
  retired : Bool
  x : Int
  freed : Int
structure RTab where
  L : List Pl
  times : Int
def Pl.cells (p : Pl) : List Value := [.int .u64 p.gen, .bool p.there, .bool p.retired, .int .i64 p.x, .int .i64 p.freed]
def plCells (l : List Pl) : List Value := l.flatMap Pl.cells
theorem plCells_append (l l' : List Pl) : plCells (l ++ l') = plCells l ++ plCells l' := by unfold plCells; simp
theorem plCells_len (l : List Pl) : (plCells l).length = l.length * 5 := by
  unfold plCells
  induction l with
  | nil => rfl
  | cons a l ih => rw [List.flatMap_cons, List.length_append, ih]; simp [Pl.cells]; omega
theorem plCells_at : ∀ (l : List Pl) (k : Nat) (p : Pl), l[k]? = some p →
    (plCells l)[k * 5]? = some (.int .u64 p.gen) ∧ (plCells l)[k * 5 + 1]? = some (.bool p.there) ∧ (plCells l)[k * 5 + 2]? = some (.bool p.retired) ∧ (plCells l)[k * 5 + 3]? = some (.int .i64 p.x) ∧ (plCells l)[k * 5 + 4]? = some (.int .i64 p.freed) := by
  intro l
  induction l with
  | nil => intro k s h; simp at h
  | cons a l ih =>
    intro k s h
    unfold plCells at ih ⊢
    rw [List.flatMap_cons]
    cases k with
    | zero => simp at h; subst h; simp [Pl.cells]
    | succ k =>
      have := ih k s (by simpa using h)
      have e : ∀ j, (Pl.cells a ++ l.flatMap Pl.cells)[(k + 1) * 5 + j]? = (l.flatMap Pl.cells)[k * 5 + j]? := fun j => by
        rw [List.getElem?_append_right (by simp [Pl.cells]; omega)]
        simp [Pl.cells]; congr 1; omega
      exact ⟨(e 0).trans this.1, (e 1).trans this.2.1, (e 2).trans this.2.2.1, (e 3).trans this.2.2.2.1, (e 4).trans this.2.2.2.2⟩
theorem plCells_set : ∀ (l : List Pl) (k : Nat) (p : Pl), k < l.length →
    plCells (l.set k p) = (((((plCells l).set (k * 5) (.int .u64 p.gen)).set (k * 5 + 1) (.bool p.there)).set (k * 5 + 2) (.bool p.retired)).set (k * 5 + 3) (.int .i64 p.x)).set (k * 5 + 4) (.int .i64 p.freed) := by
  intro l
  induction l with
  | nil => intro k s h; simp at h
  | cons a l ih =>
    intro k s h
    cases k with
    | zero => simp [plCells, Pl.cells]
    | succ k =>
      have := ih k s (by simpa using h)
      unfold plCells at this ⊢
      rw [List.set_cons_succ, List.flatMap_cons, List.flatMap_cons, this]
      have e : ∀ (m : List Value) (j : Nat) (u : Value), (Pl.cells a ++ m).set ((k + 1) * 5 + j) u = Pl.cells a ++ m.set (k * 5 + j) u := fun m j u => by
        rw [List.set_append_right _ _ (by simp [Pl.cells]; omega)]
        simp [Pl.cells]; congr 1; omega
      have e0 := fun m u => e m 0 u
      simp only [Nat.add_zero] at e0
      rw [e0, e, e, e, e]

/-- The document's table r lies in w at block h; S are its blocks. -/
def RefAt (w : World) (h : Nat) (S : List Nat) (r : RTab) : Prop :=
  ∃ VL, Blk w h 56 #[VL, .int .i64 r.times] ∧ Row w 58 5 VL r.L.length (plCells r.L) ∧ S = h :: foot VL
section
variable {w w' : World} {h : Nat} {S : List Nat} {r : RTab}
theorem RefAt.lt (hr : RefAt w h S r) : ∀ k ∈ S, k < w.heap.size := by
  obtain ⟨VL, hB, hL, rfl⟩ := hr
  intro k hk
  simp at hk
  rcases hk with rfl | hk
  · exact hB.lt
  · exact hL.lt k hk
theorem RefAt.mem (hr : RefAt w h S r) : h ∈ S := by obtain ⟨VL, hB, hL, rfl⟩ := hr; simp
theorem RefAt.same (hr : RefAt w h S r) (hk : ∀ k ∈ S, w'.heap[k]? = w.heap[k]?) : RefAt w' h S r := by
  obtain ⟨VL, hB, hL, rfl⟩ := hr
  exact ⟨VL, hB.same (hk h (by simp)), hL.same (fun k h => hk k (by simp [h])), rfl⟩
theorem RefAt.chg {S' : List Nat} (hr : RefAt w h S r) (hc : Chg S' w w') (hn : ∀ k ∈ S, k ∉ S') : RefAt w' h S r := hr.same fun k hk => hc.block k (hr.lt k hk) (hn k hk)
theorem RefAt.quiet (hr : RefAt w h S r) (hc : Chg [] w w') : RefAt w' h S r := hr.chg hc (fun _ _ hk => by cases hk)
theorem RefAt.apart (hr : RefAt w h S r) {B : Nat} (hB : w.heap.size ≤ B) : B ∉ S := fun hm => by have := hr.lt _ hm; omega
theorem RefAt.far (hr : RefAt w h S r) {p : Addr} (hp : p.block ∉ S) (u : Value) : RefAt (w.setCell p u) h S r :=
  hr.same fun k hk => Below.heap_setCell w p u k (fun e => hp (by rw [← e]; exact hk))
end
/-- What a call on the document's table leaves. -/
def RTurns (h : Nat) (S : List Nat) (r' : RTab) (w w' : World) : Prop :=
  ∃ S', RefAt w' h S' r' ∧ (∀ k ∈ S', k ∈ S ∨ w.heap.size ≤ k) ∧ Chg S w w'
theorem RTurns.refl {h : Nat} {S : List Nat} {r : RTab} {a b : World} (hr : RefAt a h S r) (hc : Chg [] a b) : RTurns h S r a b := ⟨S, hr.quiet hc, fun k hk => .inl hk, hc.any⟩

/-- A new one, in new blocks. -/
def RMade (r : RTab) (w w' : World) : Prop := ∃ S, RefAt w' w.heap.size S r ∧ (∀ k ∈ S, w.heap.size ≤ k) ∧ Chg [] w w'
theorem Try.pl_info : (Try.prog.info? 58).map (fun i => (i.zero, i.size, i.bytes)) = some (some (.agg #[.int .u64 0, .bool false, .bool false, .int .i64 0, .int .i64 0]), 5, 32) := by kernel_rfl

theorem may_any (size first : Int) (f0 : 0 ≤ first) (w : World) : Calls Try.prog 12 #[.int .i64 size, .int .u64 first] w fun e w' => e = .returned (.bool (mayT size first)) ∧ w = w' := by
  cases h : mayT size first with
  | true =>
    obtain ⟨a, b, c, d⟩ := mayT_iff.1 h
    rw [topG_val] at d
    have d' : first ≤ 18446744073709551614 := by omega
    clear h
    go_enter Try.func12, Try.ntmps12
    go_wp2
    go_ret
    exact ⟨rfl, rfl⟩
  | false =>
    have h' : ¬ (1 ≤ size ∧ size ≤ 4096 ∧ 1 ≤ first ∧ first < topG) := fun hh => by rw [mayT_iff.2 hh] at h; cases h
    rw [topG_val] at h'
    clear h
    by_cases a : size < 1
    · go_enter Try.func12, Try.ntmps12
      go_wp2
      go_ret
      exact ⟨rfl, rfl⟩
    · by_cases b : 4096 < size
      · go_enter Try.func12, Try.ntmps12
        go_wp2
        go_ret
        exact ⟨rfl, rfl⟩
      · by_cases c : first < 1
        · go_enter Try.func12, Try.ntmps12
          go_wp2
          go_ret
          exact ⟨rfl, rfl⟩
        · have d : 18446744073709551614 < first := by omega
          clear h'
          go_enter Try.func12, Try.ntmps12
          go_wp2
          go_ret
          exact ⟨by show Ending.returned (.bool (decide (first ≤ 18446744073709551614))) = _; rw [decide_eq_false (by omega)], rfl⟩

/-- The document's new table: n places. -/
def newL (first : Int) (n : Nat) : List Pl := (List.range n).map fun i => ⟨first, false, false, 0, -1 - (i : Nat)⟩
theorem newL_succ (first : Int) (n : Nat) : newL first (n + 1) = newL first n ++ [⟨first, false, false, 0, -1 - (n : Nat)⟩] := by unfold newL; rw [List.range_succ, List.map_append]; rfl
theorem newL_len (first : Int) (n : Nat) : (newL first n).length = n := by unfold newL; simp

set_option maxHeartbeats 1600000 in
set_option maxRecDepth 100000 in
theorem rnew_any (n : Nat) (hn : n ≤ 4096) (first : Int) (w : World) : Calls Try.prog 13 #[.int .i64 (n : Nat), .int .u64 first] w fun e w' => e = .returned (.pointer (some ⟨w.heap.size, 0, none⟩)) ∧ RMade ⟨newL first n, 0⟩ w w' := by
  obtain ⟨i0, hi0, hz0, hz1, hz2⟩ := info_parts Try.pl_info
  obtain ⟨h, hh⟩ : ∃ h, h = w.heap.size := ⟨_, rfl⟩
  have Hh := Lib.hid hh
  go_enter Try.func13, Try.ntmps13
  go_wp2
  rw [← hh]
  clear hh
  go_loopw [6] (fun i wr => ∃ (k : Nat) (S : List Nat), k ≤ n ∧ i = .int .i64 k ∧ RefAt wr h S ⟨newL first k, 0⟩ ∧ (∀ j ∈ S, w.heap.size ≤ j) ∧ Chg [] w wr) (fun i wr => n - (intOf i).toNat)
  case atStart =>
    refine ⟨0, [h], Nat.zero_le _, rfl, ⟨.slice none 0 0, ?_, Row.nil _ _ _, rfl⟩, by rw [Hh.out]; simp, (Chg.refl _ _).alloc _⟩
    rw [Hh.out]
    exact Blk.new w _ _
  case round =>
    obtain ⟨k, S, hk, rfl, hR, hS, hc⟩ := hrel
    obtain ⟨VL, hB, hL, rfl⟩ := hR
    obtain ⟨A, c, rfl, _⟩ := hL.val
    have c0 := hB.cell 0
    have f0 := hB.frozen 0
    have lh := hB.lt
    simp only [newL_len] at hL c0
    by_cases hlt : k < n
    · have hne : (Value.slice A k c).ownBlock ≠ some h := fun e => hL.ty hB (by decide) (row_mem e)
      have hB' := Lib.hid hB
      have HS := Lib.hid hS
      have HC := Lib.hid hc
      clear hB hS hc
      go_wp2_with (at_builtin; refine wpList_append_row _ rfl _ _ 54 (by rfl) 58 i0 _ 5 32 Try.underlying54 hi0 hz0 hz1 hz2 rfl (.slice A k c) k (plCells (newL first k)) (by rfl) (hL.alloc _) ⟨wr.heap.size, 0, none⟩ 1 1 [.int .u64 first, .bool false, .bool false, .int .i64 0, .int .i64 (-1 - (k : Nat))] (by rfl) (by rfl) (World.news_of_block (cs := #[.int .u64 first, .bool false, .bool false, .int .i64 0, .int .i64 (-1 - (k : Nat))]) (t := 58) (fr := (0, 0)) (heap_alloc_new wr _)) (by simp [Value.oneCell']) (by omega) (by unfold maxLen; omega) (by omega) (wr.heap.size + 1) (by simp) ?_; intro g cap w1 hown hgrow hat hlt1; have e2 := (hgrow.cell_far ⟨h, 0, none⟩ (by simp; omega) (Ne.symm hne)).trans ((hB'.out.alloc _).cell 0); have e3 := (hgrow.frozen_far ⟨h, 0, none⟩ (by simp; omega) (Ne.symm hne)).trans ((hB'.out.alloc _).frozen 0))
      go_roundw
      case rel =>
        refine ⟨k + 1, h :: foot (.slice (some ⟨g, 0, none⟩) (k + 1) cap), by omega, by go_num, ?_, ?_, ?_⟩
        · have hr := hown.far (p := ⟨h, 0, none⟩) ?_ (.slice (some ⟨g, 0, none⟩) (k + 1) cap)
          · rw [show plCells (newL first k) ++ [.int .u64 first, .bool false, .bool false, .int .i64 0, .int .i64 (-1 - (k : Nat))] = plCells (newL first (k + 1)) by rw [newL_succ, plCells_append]; rfl] at hr
            refine ⟨.slice (some ⟨g, 0, none⟩) (k + 1) cap, ?_, by simpa only [newL_len] using hr, rfl⟩
            exact ((hB'.out.alloc _).same (hgrow.block _ (by simp; omega) (Ne.symm hne))).set_ 0 _
          · simp only [foot_some, List.mem_singleton]
            rintro rfl
            rcases hat with h9 | h9
            · exact hne h9
            · omega
        · intro j hj
          simp [foot_some] at hj
          rcases hj with rfl | rfl
          · exact HS.out _ (by simp)
          · rcases hat with h9 | h9
            · exact HS.out _ (by simp [newL_len, row_mem h9])
            · have := HC.out.size; omega
        · exact Chg.setCell ((HC.out.alloc _).grown hgrow (fun j hj => .inr (HS.out _ (by simp [newL_len, row_mem hj])))) (.inr (HS.out _ (by simp))) _
      case measure => simp [intOf]; omega
    · obtain rfl : k = n := by omega
      go_wp2
      go_ret
      refine ⟨by rw [← Hh.out]; rfl, h :: foot (.slice A (newL first k).length c), ?_⟩
      rw [← Hh.out]
      exact ⟨⟨_, hB, by simpa only [newL_len] using hL, rfl⟩, fun j hj => by rw [Hh.out]; exact hS j hj, hc⟩
end Go.Proofs
