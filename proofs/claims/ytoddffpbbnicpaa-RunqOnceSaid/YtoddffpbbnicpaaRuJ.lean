import Derived.Test.YtoddffpbbnicpaaRuG
namespace Go.Proofs
open Go.RowKit
set_option linter.unusedVariables false

/-- slices.Equal of two slices that are read. -/
theorem equal_any {w : World} {v1 v2 : Value} {l1 l2 : List Int} (h1 : Rd w v1 l1) (h2 : Rd w v2 l2) (n1 : l1.length ≤ 8192) (n2 : l2.length ≤ 8192) :
    Calls Try.prog 67 #[v1, v2] w fun e w' => e = .returned (.bool (l1 == l2)) ∧ Chg [] w w' := by
  obtain ⟨A1, c1, rfl, _, _, _, o1⟩ := h1.open_
  obtain ⟨A2, c2, rfl, _, _, _, o2⟩ := h2.open_
  by_cases hl : l1.length = l2.length
  · rcases Nat.eq_zero_or_pos l1.length with h0 | h0
    · have e1 : l1 = [] := List.eq_nil_of_length_eq_zero h0
      have e2 : l2 = [] := List.eq_nil_of_length_eq_zero (by omega)
      subst e1 e2
      exact (Try.slices_Equal_int_empty A1 A2 c1 0 c2 w (by omega)).mono fun e w' ⟨h1, h2⟩ => ⟨h1, by rw [h2]; exact Chg.refl _ _⟩
    · obtain ⟨b1, p1, rfl, _⟩ := o1 0 _ (List.getElem?_eq_getElem h0)
      obtain ⟨b2, p2, rfl, _⟩ := o2 0 _ (List.getElem?_eq_getElem (by omega))
      have g1 : ∀ j, j < l1.length → w.cell? ⟨b1, p1 + j, none⟩ = some (.int .i64 (l1.getD j 0)) := fun j hj => by
        obtain ⟨b, o, he, _, hc⟩ := o1 j _ (List.getElem?_eq_getElem hj)
        injection he with he; injection he with he1 he2; subst he1 he2
        rw [hc, List.getD_eq_getElem?_getD, List.getElem?_eq_getElem hj]; rfl
      have g2 : ∀ j, j < l2.length → w.cell? ⟨b2, p2 + j, none⟩ = some (.int .i64 (l2.getD j 0)) := fun j hj => by
        obtain ⟨b, o, he, _, hc⟩ := o2 j _ (List.getElem?_eq_getElem hj)
        injection he with he; injection he with he1 he2; subst he1 he2
        rw [hc, List.getD_eq_getElem?_getD, List.getElem?_eq_getElem hj]; rfl
      exact (Try.slices_Equal_int b1 p1 l1.length c1 b2 p2 l2.length c2 l1 l2 w (Nat.le_refl _) (Nat.le_refl _) (by omega) (by omega) g1 g2).mono fun e w' ⟨h1, q, h2⟩ =>
        ⟨by rw [h1, List.take_of_length_le (Nat.le_refl _), List.take_of_length_le (Nat.le_refl _)], by rw [h2]; exact (Chg.refl _ _).drewN _⟩
  · exact (Try.slices_Equal_int_lens A1 A2 l1.length c1 l2.length c2 w hl).mono fun e w' ⟨h1, h2⟩ => ⟨by rw [h1, beq_eq_false_iff_ne.2 (fun e => hl (by rw [e]))], by rw [h2]; exact Chg.refl _ _⟩
/-- How much room a receiver has. -/
def Room (w : World) (r : Value) (M : Nat) : Prop := ∀ W, Chg [] w W → Calls Try.prog 57 #[r] W fun e w' => e = .returned (.int .i64 M) ∧ W = w'
theorem RingAt.room {w : World} {g h M : Nat} {L : List Int} (H : RingAt w g h M L) : Room w (.pointer (some ⟨g, 0, none⟩)) M := fun W hW => most_any (H.quiet hW)
theorem most_nil (w : World) : Calls Try.prog 57 #[.pointer none] w fun e w' => e = .returned (.int .i64 0) ∧ w = w' := by
  go_enter Try.func57, Try.ntmps57
  go_wp2
  go_ret
  exact ⟨rfl, rfl⟩
theorem room_nil (w : World) : Room w (.pointer none) 0 := fun W hW => most_nil W
set_option maxHeartbeats 1600000 in
theorem same_yes {w : World} {r o : Value} {M : Nat} {L K : List Int} (hL : L.length ≤ 8192) (hK : K.length ≤ 8192) (H : Has w r L) (HO : Has w o K) (hr : Room w r M) (ho : Room w o M) :
    Calls Try.prog 54 #[r, o] w fun e w' => e = .returned (.bool (L == K)) ∧ Chg [] w w' := by
  have c1 := hr w (Chg.refl _ _)
  have c2 := ho w (Chg.refl _ _)
  have a1 := all_of hL H
  have a2 := fun W (hW : Chg [] w W) => all_of hK (HO.quiet hW)
  obtain ⟨b, hb⟩ : ∃ b, b = (L == K) := ⟨_, rfl⟩
  have HE := fun W v1 v2 (h1 : Rd W v1 L) (h2 : Rd W v2 K) => equal_any h1 h2 hL hK
  rw [← hb] at HE ⊢
  clear hb
  have hMM : ((M : Int) == (M : Int)) = true := by simp
  go_enter Try.func54, Try.ntmps54
  go_wp2_with (first
    | (go_at_call 57; ((with_reducible refine c1.mono ?_); rintro e w' ⟨rfl, rfl⟩))
    | (go_at_call 57; ((with_reducible refine c2.mono ?_); rintro e w' ⟨rfl, rfl⟩))
    | (go_at_call 52; ((with_reducible refine a1.mono ?_); rintro e w1 ⟨v1, rfl, hf⟩); have F1 := Lib.hid hf; clear hf a1)
    | (go_at_call 52; refine (a2 _ F1.out.2.2).mono ?_; rintro e w2 ⟨v2, rfl, hf⟩; have F2 := Lib.hid hf; clear hf a2)
    | (go_at_call 67; refine (HE _ _ _ ((F1.out.later F2.out.2.2).rd) F2.out.rd).mono ?_; rintro e w3 ⟨rfl, hc⟩; have HC := Lib.hid hc; clear hc))
  go_ret
  exact ⟨rfl, (F1.out.2.2.then F2.out.2.2).then HC.out⟩
theorem same_no {w : World} {r o : Value} {M N : Nat} (hr : Room w r M) (ho : Room w o N) (hn : M ≠ N) :
    Calls Try.prog 54 #[r, o] w fun e w' => e = .returned (.bool false) ∧ Chg [] w w' := by
  have c1 := hr w (Chg.refl _ _)
  have c2 := ho w (Chg.refl _ _)
  have hMM : ((M : Int) == (N : Int)) = false := by simp; omega
  go_enter Try.func54, Try.ntmps54
  go_wp2_with (first
    | (go_at_call 57; ((with_reducible refine c1.mono ?_); rintro e w' ⟨rfl, rfl⟩))
    | (go_at_call 57; ((with_reducible refine c2.mono ?_); rintro e w' ⟨rfl, rfl⟩)))
  go_ret
  exact ⟨rfl, Chg.refl _ _⟩
end Go.Proofs
