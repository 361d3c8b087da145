import Derived.Test.YtoddffpbbnicpaaRuV
namespace Go.Proofs
open Go.RowKit
set_option linter.unusedVariables false

/-- A slice from its second one on. -/
theorem rest_one {w : World} {A : Option Addr} {n c : Nat} {K : List Int} (h : Rd w (.slice A n c) K) (h0 : 0 < n) :
    ∃ A', (∀ W, (Instr.slice 38 (.slice A n c) (some (.int .i64 1)) none none).run Try.prog W = .ok (.slice A' (n - 1) (c - 1)) W) ∧ Rd w (.slice A' (n - 1) (c - 1)) K.tail ∧ foot (.slice A' (n - 1) (c - 1)) = foot (.slice A n c) := by
  obtain ⟨A0, c0, hv, h1, h2, h3, h4⟩ := id h
  simp only [Value.slice.injEq] at hv
  obtain ⟨rfl, hn, rfl⟩ := hv
  have hrun : ∀ W, (Instr.slice 38 (.slice A n c) (some (.int .i64 1)) none none).run Try.prog W = .ok (.slice (if c = 1 then A else A.map (·.add 1)) (n - 1) (c - 1)) W := fun W => by
    have e1 : (1 : Int) ≤ (n : Int) := by omega
    simp [go_sem, Instr.slice, e1]
  cases A with
  | none => have := h3 rfl; omega
  | some a =>
    obtain ⟨b, o, rfl⟩ := h.at_
    by_cases hc : c = 1
    · subst hc
      obtain rfl : n = 1 := by omega
      refine ⟨_, hrun, ?_, by simp [foot_some]⟩
      have := h.rest0
      rw [← List.drop_one]
      simpa using this
    · refine ⟨_, hrun, ?_, by simp [hc, foot_some, Addr.add]⟩
      have := h.rest (k := 1) (by omega) (by omega)
      rw [← List.drop_one]
      simpa [hc, Addr.add] using this

section
variable {w : World} {r : Nat} {S : List Nat} {M : Nat} {L : List Int} {N : Option Int}
theorem RTold.wide {v : Value} {l L' : List Int} {N' : Option Int} {w1 w2 : World} (h : RTold r S M v l L' N' w w1) (hc : Chg [] w1 w2) : RTold r S M v l L' N' w w2 := ⟨h.1.quiet hc, h.2.1, h.2.2.later hc⟩
set_option maxHeartbeats 1600000 in
theorem rputNext_any (h : RefAt w r S M L N) (x : Int) (hm : L.length ≤ M) (h2 : 2 ≤ M) (hl : M ≤ 4096) :
    Calls Try.prog 33 #[.pointer (some ⟨r, 0, none⟩), .int .i64 x] w fun e w' => ∃ v, e = .returned v ∧ RTold r S M v (kickS M L N) (kickL M L N) (some x) w w' := by
  obtain ⟨VL, VN, hB, hR, hN, hS⟩ := id h
  obtain ⟨A, c, rfl, _⟩ := hR.open_
  obtain ⟨A2, c2, rfl, _, _, _, ho⟩ := hN.open_
  have k2 := hB.cell 2
  have f2 := hB.frozen 2
  have n2 := World.new_ne w _ k2
  have lr := hB.lt
  have hset := Lib.hid (fun w1 V (hc : Chg [] w w1) (hV : Rd w1 V [x]) (hf : ∀ k ∈ foot V, w.heap.size ≤ k) => RTurns.setN (N' := some x) hB hR hS hc hV (fun k hk => .inr (hf k hk)))
  have HH := Lib.hid h
  cases N with
  | none =>
    clear hB hR hN hS ho h
    simp only [Option.toList_none, List.length_nil] at k2
    go_enter Try.func33, Try.ntmps33
    go_wp2
    go_ret
    have hT := hset.out _ _ ((Chg.refl _ _).alloc _) (Rd.one w x) (fun k hk => by simp [foot_some] at hk; omega)
    rw [World.setCell_alloc_past (hn := lr)] at hT
    exact ⟨_, rfl, RTold.nil hT⟩
  | some y =>
    obtain ⟨b, o, rfl, hb, hc⟩ := ho 0 y rfl
    rw [Nat.add_zero] at hc
    have hbr : b ≠ r := fun e => (hN.ty hB (by decide)) (by simp [foot_some, e])
    have T1 := Lib.hid (hset.out _ _ ((Chg.refl _ _).alloc _) (Rd.one w x) (fun k hk => by simp [foot_some] at hk; omega))
    rw [World.setCell_alloc_past (hn := lr)] at T1
    have hce : ((w.setCell ⟨r, 2, none⟩ (.slice (some ⟨w.heap.size, 0, none⟩) 1 1)).alloc (.cells #[.int .i64 x] 3)).cell? ⟨b, o, none⟩ = some (.int .i64 y) := by
      obtain ⟨_, _, _, hc9⟩ := T1.out
      exact (hc9.cell (p := ⟨b, o, none⟩) hb (by simpa using hbr)).trans hc
    clear hB hR hN hS ho h hb
    simp only [Option.toList_some, List.length_cons, List.length_nil] at k2
    obtain ⟨S1, r1, r2, r3⟩ := T1.out
    have hput := rput_any r1 y hm h2 hl
    have R1 := Lib.hid r1
    have R2 := Lib.hid r2
    have R3 := Lib.hid r3
    clear r1 r2 r3
    go_enter Try.func33, Try.ntmps33
    go_wp2_with (go_at_call 32; refine hput.mono ?_; rintro e w2 ⟨v, rfl, hT⟩; have HT := Lib.hid hT; clear hT)
    go_ret
    exact ⟨_, rfl, RTold.mk2 HH.out R1.out R2.out R3.out HT.out⟩
/-- What the document's Take answers. -/
def RTook (r : Nat) (S : List Nat) (M : Nat) (v s : Value) (l sp L' : List Int) (N' : Option Int) (w w' : World) : Prop :=
  Rd w' v l ∧ Rd w' s sp ∧ (∀ k ∈ foot v, k ∈ S ∨ w.heap.size ≤ k) ∧ (∀ k ∈ foot s, k ∈ S ∨ w.heap.size ≤ k) ∧ RTurns r S M L' N' w w'
set_option maxHeartbeats 1600000 in
theorem rtake_next {y : Int} (h : RefAt w r S M L (some y)) :
    Calls Try.prog 34 #[.pointer (some ⟨r, 0, none⟩), .bool true] w fun e w' => ∃ v, e = .returned (.tuple #[v, .bool true, .slice none 0 0]) ∧ RTook r S M v (.slice none 0 0) [y] [] L none w w' := by
  obtain ⟨VL, VN, hB, hR, hN, hS⟩ := id h
  obtain ⟨A2, c2, rfl, _⟩ := hN.open_
  have k2 := hB.cell 2
  have f2 := hB.frozen 2
  have hset := Lib.hid (RTurns.setN (V := .slice none 0 0) (N' := none) hB hR hS (Chg.refl _ _) (Rd.nil _) (fun k hk => by cases hk))
  have hr : r ∉ foot (.slice A2 [y].length c2) := hN.ty hB (by decide)
  have HN := Lib.hid hN
  have HS := Lib.hid hS
  have HRR := Lib.hid hr
  clear hB hR hN hS hr h
  simp only [Option.toList_some, List.length_cons, List.length_nil] at k2
  go_enter Try.func34, Try.ntmps34
  go_wp2
  go_ret3
  exact ⟨_, rfl, HN.out.same fun k hk => Below.heap_setCell _ _ _ _ (fun e => HRR.out (by have : k = r := e; rw [← this]; exact hk)), Rd.nil _, (fun k hk => .inl (by rw [HS.out]; exact List.mem_cons_of_mem _ (List.mem_append_right _ hk))), (fun k hk => by cases hk), hset.out⟩
end
end Go.Proofs
