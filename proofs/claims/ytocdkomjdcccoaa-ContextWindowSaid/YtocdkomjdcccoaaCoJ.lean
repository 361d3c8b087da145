import Derived.Test.YtocdkomjdcccoaaCoI
namespace Go.Proofs
open Go.RowKit
set_option linter.unusedVariables false

/-! ### The closures by which a call is refused -/
theorem Blk.tell {w : World} {b : Nat} {t : TypeId} {cs : Array Value} (h : Blk w b t cs) : ∀ W, Chg [] w W → (∀ o, W.cell? ⟨b, o, none⟩ = cs[o]?) ∧ b < W.heap.size := fun W hc => ⟨(h.chg hc (by simp)).cell, (h.chg hc (by simp)).lt⟩
abbrev ptr (b : Nat) : Value := .pointer (some ⟨b, 0, none⟩)
set_option maxHeartbeats 1600000 in
set_option maxRecDepth 100000 in
theorem gone_step {w : World} {c bc br : Nat} {S : List Nat} {t : Tab Cx} {most : Int} (h : CtxAt w c S t most) {i q : Int} (i0 : -9223372036854775808 ≤ i) (i1 : i ≤ 9223372036854775807)
    (hb : Blk w bc 25 #[ptr c]) (hr : Blk w br 30 #[.int .i64 i, .int .u64 q]) :
    Calls Try.prog 47 #[ptr bc, ptr br] w fun e w' => e = .returned (.bool (!t.has i q)) ∧ Chg [] w w' := by
  obtain ⟨g, hB, hT, hG, hW⟩ := h
  have HP := fun W (hW : Chg [] w W) => places_any (hB.chg hW (by simp))
  have HG := fun W (hc : Chg [] w W) => get_any (hT.quiet hc) hW i q i0 i1
  obtain ⟨x, hx⟩ : ∃ x, x = t.at_ i q := ⟨_, rfl⟩
  rw [← hx] at HG
  have hlb := hb.lt
  have hlr := hr.lt
  have p0 := hb.cell 0
  have p1 := hr.cell 0
  have p2 := hr.cell 1
  have HB := Lib.hid hb.tell
  have HR := Lib.hid hr.tell
  obtain ⟨e0, he⟩ : ∃ e0, e0 = staleE t i q := ⟨_, rfl⟩
  rw [← he] at HG
  have hres : (e0 != 0) = !t.has i q := by
    rw [he]; unfold staleE
    cases t.has i q <;> rfl
  have HRES := Lib.hid hres
  rw [← hres]
  have HP := Lib.hid HP
  have HG := Lib.hid HG
  have hq4 : ¬ (w.heap.size = bc) := by omega
  have hq5 : ¬ (w.heap.size = br) := by omega
  have hq6 : ¬ (bc = w.heap.size) := by omega
  have hq7 : ¬ (br = w.heap.size) := by omega
  clear hx he hT hG hW hB hb hr hres
  go_enter Try.func47, Try.ntmps47
  go_wp2
  go_region_held3 (fun w' => w'.cell? ⟨bc, 0, none⟩ = some (ptr c) ∧ w'.cell? ⟨br, 0, none⟩ = some (.int .i64 i) ∧ w'.cell? ⟨br, 1, none⟩ = some (.int .u64 q))
    (first | go_keep)
    (first
      | (go_at_call 23; refine (HP.out _ ((Chg.refl _ _).drew)).mono ?_; rintro e w1 ⟨rfl, rfl⟩)
      | (go_at_call 23; refine (HP.out _ (((Chg.refl _ _).alloc _).drew)).mono ?_; rintro e w1 ⟨rfl, rfl⟩)
      | (go_at_call 24; refine (HG.out _ ((Chg.refl _ _).drew)).mono ?_; rintro e w2 ⟨rfl, hc⟩; have HC := Lib.hid (((Chg.refl [] w).drew).then hc); have k0 := (HB.out _ HC.out).1 0; have k1 := (HR.out _ HC.out).1 0; have k2 := (HR.out _ HC.out).1 1; have lb2 := (HB.out _ HC.out).2; have lr2 := (HR.out _ HC.out).2; have hq4 : ¬ (w2.heap.size = bc) := (by omega); have hq5 : ¬ (w2.heap.size = br) := (by omega); have hq6 : ¬ (bc = w2.heap.size) := (by omega); have hq7 : ¬ (br = w2.heap.size) := (by omega); clear hc)
      | (go_at_call 24; refine (HG.out _ (((Chg.refl _ _).alloc _).drew)).mono ?_; rintro e w2 ⟨rfl, hc⟩; obtain ⟨hz0, r0, r1, r2, r3, rf⟩ := cx_facts (w := w) (n := w.heap.size) rfl ((Chg.refl [] _).drew) hc; have HC := Lib.hid (((Chg.refl [] w).alloc _).drew.then hc); have k0 := (HB.out _ HC.out).1 0; have k1 := (HR.out _ HC.out).1 0; have k2 := (HR.out _ HC.out).1 1; clear hc))
  all_goals
    go_wp2
    go_ret
    exact ⟨rfl, by repeat' (first | with_reducible exact HC.out | with_reducible apply Chg.alloc | with_reducible apply Chg.setCell | (with_reducible refine Or.inr ?_; dsimp only; omega))⟩
end Go.Proofs
