import Derived.Test.YtfpljhjndjpdmaaRiK
import Derived.Test.YtfpljhjndjpdmaaRiI
namespace Go.Proofs
open Go.RowKit
set_option linter.unusedVariables false

/-- The document's ring in memory: at block g; S: its blocks. -/
def RefAt (w : World) (g : Nat) (S : List Nat) (M : Int) (L : List Int) : Prop :=
  ∃ VL, Blk w g 31 #[VL, .int .i64 M] ∧ Rd w VL L ∧ S = g :: foot VL
section
variable {w w' : World} {g : Nat} {S : List Nat} {M : Int} {L : List Int}
theorem RefAt.lt (h : RefAt w g S M L) : ∀ k ∈ S, k < w.heap.size := by
  obtain ⟨VL, hB, hR, rfl⟩ := h
  intro k hk
  simp at hk
  rcases hk with rfl | hk
  · exact hB.lt
  · exact hR.lt k hk
theorem RefAt.mem (h : RefAt w g S M L) : g ∈ S := by obtain ⟨VL, hB, hR, rfl⟩ := h; simp
theorem RefAt.same (h : RefAt w g S M L) (hk : ∀ k ∈ S, w'.heap[k]? = w.heap[k]?) : RefAt w' g S M L := by
  obtain ⟨VL, hB, hR, rfl⟩ := h
  exact ⟨VL, hB.same (hk g (by simp)), hR.same (fun k h => hk k (by simp [h])), rfl⟩
theorem RefAt.chg {S' : List Nat} (h : RefAt w g S M L) (hc : Chg S' w w') (hn : ∀ k ∈ S, k ∉ S') : RefAt w' g S M L := h.same fun k hk => hc.block k (h.lt k hk) (hn k hk)
theorem RefAt.quiet (h : RefAt w g S M L) (hc : Chg [] w w') : RefAt w' g S M L := h.chg hc (fun _ _ hk => by cases hk)
end
/-- What a call on the document's ring leaves. -/
def RTurns (g : Nat) (S : List Nat) (M : Int) (L' : List Int) (w w' : World) : Prop :=
  ∃ S', RefAt w' g S' M L' ∧ (∀ k ∈ S', k ∈ S ∨ w.heap.size ≤ k) ∧ Chg [g] w w'
/-- A new value in the ring's cell. -/
theorem RTurns.put {g : Nat} {S : List Nat} {M : Int} {L' : List Int} {w w1 : World} {VL V : Value} (hB : Blk w g 31 #[VL, .int .i64 M]) (hg : g ∈ S) (hc : Chg [] w w1) (hV : Rd w1 V L') (hS : ∀ k ∈ foot V, k ∈ S ∨ w.heap.size ≤ k) :
    RTurns g S M L' w (w1.setCell ⟨g, 0, none⟩ V) := by
  have hB1 := hB.chg hc (by simp)
  have hgV : g ∉ foot V := hV.ty hB1 (by decide)
  refine ⟨g :: foot V, ⟨V, hB1.set_ 0 V, hV.same fun k hk => Below.heap_setCell _ _ _ _ (fun e => hgV (by have : k = g := e; rw [← this]; exact hk)), rfl⟩, fun k hk => ?_, hc.any.setCell (p := ⟨g, 0, none⟩) (.inl (by simp)) V⟩
  simp at hk
  rcases hk with rfl | hk
  · exact .inl hg
  · exact hS k hk
theorem RTurns.refl {g : Nat} {S : List Nat} {M : Int} {L : List Int} {a b : World} (h : RefAt a g S M L) (hc : Chg [] a b) : RTurns g S M L a b := ⟨S, h.quiet hc, fun k hk => .inl hk, hc.any⟩
theorem RTurns.later {g : Nat} {S : List Nat} {M : Int} {L : List Int} {a b c : World} (h : RTurns g S M L a b) (hc : Chg [] b c) : RTurns g S M L a c := by
  obtain ⟨S', h1, h2, h3⟩ := h
  exact ⟨S', h1.quiet hc, h2, h3.then hc⟩
theorem rpush_full {w : World} {g : Nat} {S : List Nat} {M : Int} {L : List Int} (h : RefAt w g S M L) (x : Int) (hm : M ≤ L.length) :
    Calls Try.prog 23 #[.pointer (some ⟨g, 0, none⟩), .int .i64 x] w fun e w' => e = .returned (.int .i64 3) ∧ Chg [] w w' := by
  obtain ⟨VL, hB, hR, rfl⟩ := h
  obtain ⟨A, c, rfl, _⟩ := hR.open_
  have c0 := hB.cell 0
  have c1 := hB.cell 1
  obtain ⟨n, hn⟩ : ∃ n, n = L.length := ⟨_, rfl⟩
  rw [← hn] at c0 hm
  clear hB hR hn
  go_enter Try.func23, Try.ntmps23
  go_wp2
  go_quiet (fail)
  go_wp2
  go_ret
  exact ⟨rfl, (Chg.refl _ _).drewN _⟩
set_option maxHeartbeats 1600000 in
theorem rpush_room {w : World} {g : Nat} {S : List Nat} {M : Int} {L : List Int} (h : RefAt w g S M L) (x : Int) (hm : ¬ M ≤ L.length) (hl : L.length ≤ 8192) :
    Calls Try.prog 23 #[.pointer (some ⟨g, 0, none⟩), .int .i64 x] w fun e w' => e = .returned (.int .i64 0) ∧ RTurns g S M (L ++ [x]) w w' := by
  obtain ⟨VL, hB, hR, hS⟩ := h
  have hg : g ∈ S := by rw [hS]; simp
  obtain ⟨A, c, rfl, _⟩ := hR.open_
  have c0 := hB.cell 0
  have c1 := hB.cell 1
  have f0 := hB.frozen 0
  have lg := hB.lt
  obtain ⟨n, hn⟩ : ∃ n, n = L.length := ⟨_, rfl⟩
  rw [← hn] at c0 hm hl
  have HN := Lib.hid hn
  rw [← hn] at hB hR
  have HB := Lib.hid hB
  have HR := Lib.hid hR
  have hmm : decide (M ≤ (n : Int)) = false := by simp; omega
  clear hB hR hn hS
  go_enter Try.func23, Try.ntmps23
  go_wp2
  go_quiet (fail)
  go_wp2_with (first
    | (at_builtin; refine wpList_append_rs (xs := []) (n := n) _ rfl _ _ rfl (by rfl) (by rfl) (Row.nil _ _ _) (HR.out.quiet ((Chg.refl _ _).drewN _)) (by have := HN.out; simp only [List.length_nil]; omega) (by have := HN.out; simp only [List.length_nil]; omega) ?_; intro A1 c1 w1 hr1 hg1 hf1; simp only [List.nil_append] at hr1; have hcA : Chg [] w w1 := ((Chg.refl _ _).drewN _).grown hg1 (fun k hk => by cases hk); have hfA : ∀ k ∈ foot (.slice A1 n c1), w.heap.size ≤ k := (fun k hk => (hf1 k hk).elim (fun h => by cases h) (fun h => h)); have HCA := Lib.hid hcA; have HFA := Lib.hid hfA; have HR1 := Lib.hid hr1; clear hg1 hf1 hcA hfA hr1)
    | (at_builtin; go_loud (refine wpList_append_rs (n := n + 1) _ rfl _ _ rfl (by rfl) (by rfl) (HR1.out.alloc _) (Rd.one _ x) (by have := HN.out; simp only [List.length_nil, List.length_cons]; omega) (by have := HN.out; simp only [List.length_nil, List.length_cons]; omega) ?_; intro A2 c2 w2 hr2 hg2 hf2; have hcB : Chg [] w w2 := (HCA.out.alloc _).grown hg2 (fun k hk => .inr (HFA.out k (row_mem hk))); have e2 := (hcB.cell (p := ⟨g, 0, none⟩) lg (by simp)).trans c0; have e3 := (hcB.frozen (p := ⟨g, 0, none⟩) lg (by simp)).trans f0; have hfB : ∀ k ∈ foot (.slice A2 (n + 1) c2), k ∈ S ∨ w.heap.size ≤ k := (fun k hk => .inr ((hf2 k hk).elim (fun h => HFA.out k h) (fun h => by have := HCA.out.size; simp at h; omega))); have HCB := Lib.hid hcB; have HFB := Lib.hid hfB; have HR2 := Lib.hid hr2; clear hg2 hf2 hcB hfB hr2)))
  go_ret
  exact ⟨rfl, RTurns.put HB.out hg HCB.out (Rd.of_row HR2.out) HFB.out⟩
end Go.Proofs
