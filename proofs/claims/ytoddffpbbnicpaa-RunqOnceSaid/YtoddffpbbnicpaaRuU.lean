import Derived.Test.YtoddffpbbnicpaaRuT
namespace Go.Proofs
open Go.RowKit
set_option linter.unusedVariables false

/-! ### The document's queue: lists -/
/-- The document's queue in memory: at block r; S: its blocks. -/
def RefAt (w : World) (r : Nat) (S : List Nat) (M : Nat) (L : List Int) (N : Option Int) : Prop :=
  ∃ VL VN, Blk w r 45 #[VL, .int .i64 M, VN] ∧ Rd w VL L ∧ Rd w VN N.toList ∧ S = r :: (foot VL ++ foot VN)
section
variable {w w' : World} {r : Nat} {S : List Nat} {M : Nat} {L L' : List Int} {N N' : Option Int}
theorem RefAt.lt (h : RefAt w r S M L N) : ∀ k ∈ S, k < w.heap.size := by
  obtain ⟨VL, VN, hB, hR, hN, rfl⟩ := h
  intro k hk
  simp at hk
  rcases hk with rfl | hk | hk
  · exact hB.lt
  · exact hR.lt k hk
  · exact hN.lt k hk
theorem RefAt.mem (h : RefAt w r S M L N) : r ∈ S := by obtain ⟨VL, VN, hB, hR, hN, rfl⟩ := h; simp
theorem RefAt.same (h : RefAt w r S M L N) (hk : ∀ k ∈ S, w'.heap[k]? = w.heap[k]?) : RefAt w' r S M L N := by
  obtain ⟨VL, VN, hB, hR, hN, rfl⟩ := h
  exact ⟨VL, VN, hB.same (hk r (by simp)), hR.same (fun k h => hk k (by simp [h])), hN.same (fun k h => hk k (by simp [h])), rfl⟩
theorem RefAt.chg {S' : List Nat} (h : RefAt w r S M L N) (hc : Chg S' w w') (hn : ∀ k ∈ S, k ∉ S') : RefAt w' r S M L N := h.same fun k hk => hc.block k (h.lt k hk) (hn k hk)
theorem RefAt.quiet (h : RefAt w r S M L N) (hc : Chg [] w w') : RefAt w' r S M L N := h.chg hc (fun _ _ hk => by cases hk)
end
/-- What a call on the document's queue leaves. -/
def RTurns (r : Nat) (S : List Nat) (M : Nat) (L' : List Int) (N' : Option Int) (w w' : World) : Prop :=
  ∃ S', RefAt w' r S' M L' N' ∧ (∀ k ∈ S', k ∈ S ∨ w.heap.size ≤ k) ∧ Chg [r] w w'
/-- And which numbers it tells. -/
def RTold (r : Nat) (S : List Nat) (M : Nat) (v : Value) (l L' : List Int) (N' : Option Int) (w w' : World) : Prop :=
  Rd w' v l ∧ (∀ k ∈ foot v, k ∈ S ∨ w.heap.size ≤ k) ∧ RTurns r S M L' N' w w'
section
variable {w a b c w1 w2 : World} {r : Nat} {S : List Nat} {M : Nat} {L L' L2 : List Int} {N N' N2 : Option Int} {VL VN V v : Value} {l : List Int}
theorem RTurns.refl (h : RefAt a r S M L N) (hc : Chg [] a b) : RTurns r S M L N a b := ⟨S, h.quiet hc, fun k hk => .inl hk, hc.any⟩
theorem RTurns.later (h : RTurns r S M L N a b) (hc : Chg [] b c) : RTurns r S M L N a c := by
  obtain ⟨S', h1, h2, h3⟩ := h
  exact ⟨S', h1.quiet hc, h2, h3.then hc⟩
theorem RTurns.before (hc : Chg [] a b) (h : RTurns r S M L N b c) : RTurns r S M L N a c := by
  obtain ⟨S', h1, h2, h3⟩ := h
  exact ⟨S', h1, fun k hk => (h2 k hk).imp id (fun h => Nat.le_trans hc.size h), (Chg.any hc).trans h3 (fun k hk => .inl hk)⟩
/-- A new value in the cell of the ring. -/
theorem RTurns.setL (hB : Blk w r 45 #[VL, .int .i64 M, VN]) (hN : Rd w VN N.toList) (hS : S = r :: (foot VL ++ foot VN)) (hc : Chg [] w w1) (hV : Rd w1 V L') (hf : ∀ k ∈ foot V, k ∈ S ∨ w.heap.size ≤ k) :
    RTurns r S M L' N w (w1.setCell ⟨r, 0, none⟩ V) := by
  have hB1 := hB.chg hc (by simp)
  have hrV : r ∉ foot V := hV.ty hB1 (by decide)
  have hrN : r ∉ foot VN := hN.ty hB (by decide)
  refine ⟨r :: (foot V ++ foot VN), ⟨V, VN, hB1.set_ 0 V, hV.same fun k hk => Below.heap_setCell _ _ _ _ (fun e => hrV (by have : k = r := e; rw [← this]; exact hk)), (hN.quiet hc).same fun k hk => Below.heap_setCell _ _ _ _ (fun e => hrN (by have : k = r := e; rw [← this]; exact hk)), rfl⟩, fun k hk => ?_, hc.any.setCell (p := ⟨r, 0, none⟩) (.inl (by simp)) V⟩
  simp at hk
  rcases hk with rfl | hk | hk
  · exact .inl (by rw [hS]; simp)
  · exact hf k hk
  · exact .inl (by rw [hS]; simp [hk])
/-- A new value in the cell of who is next. -/
theorem RTurns.setN (hB : Blk w r 45 #[VL, .int .i64 M, VN]) (hL : Rd w VL L) (hS : S = r :: (foot VL ++ foot VN)) (hc : Chg [] w w1) (hV : Rd w1 V N'.toList) (hf : ∀ k ∈ foot V, k ∈ S ∨ w.heap.size ≤ k) :
    RTurns r S M L N' w (w1.setCell ⟨r, 2, none⟩ V) := by
  have hB1 := hB.chg hc (by simp)
  have hrV : r ∉ foot V := hV.ty hB1 (by decide)
  have hrL : r ∉ foot VL := hL.ty hB (by decide)
  refine ⟨r :: (foot VL ++ foot V), ⟨VL, V, hB1.set_ 2 V, (hL.quiet hc).same fun k hk => Below.heap_setCell _ _ _ _ (fun e => hrL (by have : k = r := e; rw [← this]; exact hk)), hV.same fun k hk => Below.heap_setCell _ _ _ _ (fun e => hrV (by have : k = r := e; rw [← this]; exact hk)), rfl⟩, fun k hk => ?_, hc.any.setCell (p := ⟨r, 2, none⟩) (.inl (by simp)) V⟩
  simp at hk
  rcases hk with rfl | hk | hk
  · exact .inl (by rw [hS]; simp)
  · exact .inl (by rw [hS]; simp [hk])
  · exact hf k hk
theorem RTold.nil (h : RTurns r S M L N a b) : RTold r S M (.slice none 0 0) [] L N a b := ⟨Rd.nil _, (fun k hk => by cases hk), h⟩
theorem RTold.mk2 {S1 : List Nat} (hR : RefAt a r S M L N) (h1 : RefAt b r S1 M L' N') (hS1 : ∀ k ∈ S1, k ∈ S ∨ a.heap.size ≤ k) (hc : Chg [r] a b) (h : RTold r S1 M v l L2 N2 b c) : RTold r S M v l L2 N2 a c := by
  obtain ⟨t1, t2, S2, t3, t4, t5⟩ := h
  have hz := hc.size
  have hh : ∀ k, (k ∈ S1 ∨ b.heap.size ≤ k) → k ∈ S ∨ a.heap.size ≤ k := fun k hk => by
    rcases hk with h9 | h9
    · exact hS1 k h9
    · exact .inr (by omega)
  exact ⟨t1, fun k hk => hh k (t2 k hk), S2, t3, fun k hk => hh k (t4 k hk), hc.trans t5 (fun k hk => .inl hk)⟩
theorem rnew_any (M : Nat) (w : World) : Calls Try.prog 11 #[.int .i64 (M : Nat)] w fun e w' => e = .returned (.pointer (some ⟨w.heap.size, 0, none⟩)) ∧ w' = w.alloc (.cells #[.slice none 0 0, .int .i64 (M : Nat), .slice none 0 0] 45) := by
  go_enter Try.func11, Try.ntmps11
  go_wp2
  go_ret
  exact ⟨rfl, rfl⟩
theorem RefAt.new (w : World) (M : Nat) : RefAt (w.alloc (.cells #[.slice none 0 0, .int .i64 (M : Nat), .slice none 0 0] 45)) w.heap.size [w.heap.size] M [] none :=
  ⟨.slice none 0 0, .slice none 0 0, Blk.new w 45 _, Rd.nil _, Rd.nil _, by simp [foot_nil]⟩
set_option maxHeartbeats 1600000 in
theorem rput_room (h : RefAt w r S M L N) (x : Int) (hm : L.length < M) (hl : L.length ≤ 8192) :
    Calls Try.prog 32 #[.pointer (some ⟨r, 0, none⟩), .int .i64 x] w fun e w' => ∃ v, e = .returned v ∧ RTold r S M v (putS M L x) (putL M L x) N w w' := by
  unfold putS putL
  rw [if_pos hm, if_pos hm]
  obtain ⟨VL, VN, hB, hR, hN, hS⟩ := h
  obtain ⟨A, c, rfl, _⟩ := hR.open_
  obtain ⟨A2, c2, rfl, _⟩ := hN.open_
  have c0 := hB.cell 0
  have c1 := hB.cell 1
  have f0 := hB.frozen 0
  have lr := hB.lt
  obtain ⟨n, hn⟩ : ∃ n, n = L.length := ⟨_, rfl⟩
  rw [← hn] at c0 hm hl hB hR hS
  have HN := Lib.hid hn
  have HB := Lib.hid hB
  have HR := Lib.hid hR
  have HNN := Lib.hid hN
  have HS := Lib.hid hS
  have hmm : (n : Int) < (M : Int) := by omega
  clear hB hR hN hn hS
  go_enter Try.func32, Try.ntmps32
  go_wp2
  go_quiet (fail)
  go_wp2_with (first
    | (at_builtin; refine wpList_append_rs (xs := []) (n := n) _ rfl _ _ rfl (by rfl) (by rfl) (Row.nil _ _ _) (HR.out.quiet ((Chg.refl _ _).drewN _)) (by have := HN.out; simp only [List.length_nil]; omega) (by have := HN.out; simp only [List.length_nil]; omega) ?_; intro A3 c3 w1 hr1 hg1 hf1; simp only [List.nil_append] at hr1; have hcA : Chg [] w w1 := ((Chg.refl _ _).drewN _).grown hg1 (fun k hk => by cases hk); have hfA : ∀ k ∈ foot (.slice A3 n c3), w.heap.size ≤ k := (fun k hk => (hf1 k hk).elim (fun h => by cases h) (fun h => h)); have HCA := Lib.hid hcA; have HFA := Lib.hid hfA; have HR1 := Lib.hid hr1; clear hg1 hf1 hcA hfA hr1)
    | (at_builtin; go_loud (refine wpList_append_rs (n := n + 1) _ rfl _ _ rfl (by rfl) (by rfl) (HR1.out.alloc _) (Rd.one _ x) (by have := HN.out; simp only [List.length_nil, List.length_cons]; omega) (by have := HN.out; simp only [List.length_nil, List.length_cons]; omega) ?_; intro A4 c4 w2 hr2 hg2 hf2; have hcB : Chg [] w w2 := (HCA.out.alloc _).grown hg2 (fun k hk => .inr (HFA.out k (row_mem hk))); have e2 := (hcB.cell (p := ⟨r, 0, none⟩) lr (by simp)).trans c0; have e3 := (hcB.frozen (p := ⟨r, 0, none⟩) lr (by simp)).trans f0; have hfB : ∀ k ∈ foot (.slice A4 (n + 1) c4), k ∈ S ∨ w.heap.size ≤ k := (fun k hk => .inr ((hf2 k hk).elim (fun h => HFA.out k h) (fun h => by have := HCA.out.size; simp at h; omega))); have HCB := Lib.hid hcB; have HFB := Lib.hid hfB; have HR2 := Lib.hid hr2; clear hg2 hf2 hcB hfB hr2)))
  go_ret
  exact ⟨_, rfl, RTold.nil (RTurns.setL HB.out HNN.out HS.out HCB.out (Rd.of_row HR2.out) HFB.out)⟩
end
end Go.Proofs
