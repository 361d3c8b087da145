import Derived.Test.YtocdkomjdcccoaaCoE
namespace Go.Proofs
open Go.RowKit
set_option linter.unusedVariables false

set_option maxRecDepth 100000 in
theorem set_no_C {w : World} {g : Nat} {S : List Nat} {t : Tab Cx} (h : TabAt w g S t) (hw : t.WF) (i q : Int) (x : Cx) (i0 : -9223372036854775808 ≤ i) (i1 : i ≤ 9223372036854775807) (hno : t.has i q = false) :
    Calls Try.prog 26 #[.pointer (some ⟨g, 0, none⟩), .agg #[.int .i64 i, .int .u64 q], x.val] w fun e w' => e = .returned (.int .i64 11) ∧ Chg [] w w' := by
  have HA := fun w' h' => find_no_C (w := w') (g := g) (S := S) (t := t) h' hw i q i0 i1 hno
  clear hno
  go_enter Try.func26, Try.ntmps26
  go_wp2_with (go_at_call 42; refine (HA _ (h.quiet (((Chg.refl _ _).alloc _).alloc _))).mono ?_; rintro e w1 ⟨rfl, hc1⟩)
  go_ret
  exact ⟨rfl, (((Chg.refl _ _).alloc _).alloc _).then hc1⟩
set_option maxRecDepth 100000 in
theorem set_yes_C {w : World} {g : Nat} {S : List Nat} {t : Tab Cx} (h : TabAt w g S t) (hw : t.WF) {i q : Int} (x : Cx) (hq : t.has i q = true) :
    Calls Try.prog 26 #[.pointer (some ⟨g, 0, none⟩), .agg #[.int .i64 i, .int .u64 q], x.val] w fun e w' => e = .returned (.int .i64 0) ∧ Turns g S (t.thing i.toNat x) w w' := by
  obtain ⟨k, s, gs, cs, VF, rfl, rfl, hs, hth, hk, hB, hS, hF, hSS⟩ := has_form h hq
  have HA := fun w' h' => find_yes_C (w := w') (g := g) (S := S) (t := t) h' hw hs hth (gs := gs) (cs := cs) (n := t.spots.length)
  subst hSS
  obtain ⟨gs', cs', hv, _, _, hgs, _, _, _, a2, a3, a4, a5, f⟩ := TabAt.open_spot hS hs
  simp only [Value.slice.injEq, Option.some.injEq, Addr.mk.injEq] at hv
  obtain ⟨⟨rfl, _⟩, _, _⟩ := hv
  have HT := fun (w1 : World) (hc : Chg [] w w1) => Turns.thing hB hS hF hs x hc
  rw [show t.thing ((k : Nat) : Int).toNat x = { t with spots := t.spots.set k { s with thing := x } } by unfold Tab.thing; simp [hs]]
  have HH := Lib.hid HT
  have hB' := Lib.hid hB
  clear hS hF hq hs hth hB HT
  go_enter Try.func26, Try.ntmps26
  go_wp2_with (go_at_call 42; refine (HA _ (h.quiet (((Chg.refl _ _).alloc _).alloc _)) (((hB'.out.alloc _).alloc _).cell 2) rfl).mono ?_; rintro e w1 ⟨rfl, hc1⟩; have hz : w.heap.size + 1 < w1.heap.size := (by have := hc1.size; simp at this; omega); have lgs1 : gs < w1.heap.size := (by omega); have HC := Lib.hid (((Chg.refl [] w).alloc _).alloc _ |>.then hc1); have hB1 := (box2 rfl hc1); have k0 := hB1.cell 0; have k1 := hB1.cell 1; have k2 := hB1.cell 2; have k3 := hB1.cell 3; have kk : ∀ o, w1.cell? ⟨gs, o, none⟩ = w.cell? ⟨gs, o, none⟩ := (fun o => HC.out.cell (p := ⟨gs, o, none⟩) hgs (by simp)); have kf : ∀ o, w1.frozen? ⟨gs, o, none⟩ = false := (fun o => (HC.out.frozen (p := ⟨gs, o, none⟩) hgs (by simp)).trans (f o)); rw [← kk] at a2 a3 a4 a5; clear hB1 hc1 kk f)
  go_ret
  exact ⟨rfl, HH.out _ HC.out⟩
theorem Try.num_info_C : (Try.prog.info? 3).map (fun i => (i.zero, i.size, i.bytes)) = some (some (.int .i64 0), 1, 8) := by kernel_rfl
end Go.Proofs
