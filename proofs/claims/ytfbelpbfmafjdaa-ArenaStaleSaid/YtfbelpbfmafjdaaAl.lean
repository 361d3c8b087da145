import Derived.Test.YtfbelpbfmafjdaaAg
import Derived.Test.YtfbelpbfmafjdaaAa
namespace Go.Proofs
open Go.RowKit
set_option linter.unusedVariables false

/-- What holds in memory between two steps: the table t, of blocks of the call's own. -/
def Own (w0 : World) (g : Nat) (t : Tab Int) (w : World) : Prop := ∃ S, TabAt kI w g S t ∧ (∀ k ∈ S, w0.heap.size ≤ k) ∧ Below w0.heap.size w0 w
theorem Own.quiet {w0 : World} {g : Nat} {t : Tab Int} {w w' : World} (H : Own w0 g t w) (hc : Chg [] w w') : Own w0 g t w' := by
  obtain ⟨S, h1, h2, h3⟩ := H
  exact ⟨S, h1.quiet hc, h2, h3.trans (hc.below (fun _ h => by cases h) h3.size)⟩
theorem Own.below {w0 : World} {g : Nat} {t : Tab Int} {w : World} (H : Own w0 g t w) : Below w0.heap.size w0 w := by
  obtain ⟨S, h1, h2, h3⟩ := H; exact h3
theorem Own.turns {w0 : World} {g : Nat} {t' : Tab Int} {w w' : World} {S : List Nat} (h2 : ∀ k ∈ S, w0.heap.size ≤ k) (h3 : Below w0.heap.size w0 w) (ht : Turns kI g S t' w w') : Own w0 g t' w' := by
  obtain ⟨S', k1, k2, k3⟩ := ht
  refine ⟨S', k1, fun k hk => ?_, h3.trans (k3.below h2 h3.size)⟩
  rcases k2 k hk with h | h
  · exact h2 k h
  · exact Nat.le_trans h3.size h
theorem Own.put {w0 : World} {g : Nat} {t : Tab Int} {w : World} (H : Own w0 g t w) (hw : t.WF) (x : Int) :
    Calls Try.prog 16 #[.pointer (some ⟨g, 0, none⟩), .int .i64 x] w fun e w' => e = .returned (.tuple #[.agg #[.int .i64 t.pIdx, .int .u64 t.pGen], .int .i64 t.pErr]) ∧ Own w0 g (t.put' x) w' := by
  obtain ⟨S, h1, h2, h3⟩ := H
  exact (put_any h1 hw x).mono fun e w' ⟨he, ht⟩ => ⟨he, Own.turns h2 h3 ht⟩
theorem Own.drop {w0 : World} {g : Nat} {t : Tab Int} {w : World} (H : Own w0 g t w) (hw : t.WF) (i q : Int) (i0 : -9223372036854775808 ≤ i) (i1 : i ≤ 9223372036854775807) :
    Calls Try.prog 19 #[.pointer (some ⟨g, 0, none⟩), .agg #[.int .i64 i, .int .u64 q]] w fun e w' => e = .returned (.int .i64 (t.err i q)) ∧ Own w0 g (t.drop' i q) w' := by
  obtain ⟨S, h1, h2, h3⟩ := H
  exact (drop_any h1 hw i q i0 i1).mono fun e w' ⟨he, ht⟩ => ⟨he, Own.turns h2 h3 ht⟩
theorem Own.set {w0 : World} {g : Nat} {t : Tab Int} {w : World} (H : Own w0 g t w) (hw : t.WF) (i q x : Int) (i0 : -9223372036854775808 ≤ i) (i1 : i ≤ 9223372036854775807) :
    Calls Try.prog 18 #[.pointer (some ⟨g, 0, none⟩), .agg #[.int .i64 i, .int .u64 q], .int .i64 x] w fun e w' => e = .returned (.int .i64 (t.err i q)) ∧ Own w0 g (t.set' i q x) w' := by
  obtain ⟨S, h1, h2, h3⟩ := H
  exact (set_any h1 hw i q x i0 i1).mono fun e w' ⟨he, ht⟩ => ⟨he, Own.turns h2 h3 ht⟩
theorem Own.get {w0 : World} {g : Nat} {t : Tab Int} {w : World} (H : Own w0 g t w) (hw : t.WF) (i q : Int) (i0 : -9223372036854775808 ≤ i) (i1 : i ≤ 9223372036854775807) :
    Calls Try.prog 17 #[.pointer (some ⟨g, 0, none⟩), .agg #[.int .i64 i, .int .u64 q]] w fun e w' => e = .returned (.tuple #[.int .i64 (t.got i q), .int .i64 (t.err i q)]) ∧ Own w0 g t w' ∧ Chg [] w w' := by
  obtain ⟨S, h1, h2, h3⟩ := id H
  exact (get_any h1 hw i q i0 i1).mono fun e w' ⟨he, hc⟩ => ⟨he, H.quiet hc, hc⟩
theorem Own.at_ {w0 : World} {g : Nat} {t : Tab Int} {w : World} (H : Own w0 g t w) (hw : t.WF) (i : Int) (i0 : -9223372036854775808 ≤ i) (i1 : i ≤ 9223372036854775807) :
    Calls Try.prog 21 #[.pointer (some ⟨g, 0, none⟩), .int .i64 i] w fun e w' => e = .returned (.tuple #[.agg #[.int .i64 (t.atIdx i), .int .u64 (t.atGen i)], .bool (t.atIs i)]) ∧ Own w0 g t w' ∧ Chg [] w w' := by
  obtain ⟨S, h1, h2, h3⟩ := id H
  exact (at_I h1 hw i i0 i1).mono fun e w' ⟨he, hc⟩ => ⟨he, H.quiet hc, hc⟩
theorem Own.len_ {w0 : World} {g : Nat} {t : Tab Int} {w : World} (H : Own w0 g t w) (hw : t.WF) :
    Calls Try.prog 25 #[.pointer (some ⟨g, 0, none⟩)] w fun e w' => e = .returned (.int .i64 (t.size - t.frees - t.retired)) ∧ Own w0 g t w' ∧ Chg [] w w' := by
  obtain ⟨S, h1, h2, h3⟩ := id H
  exact (len_I h1 hw).mono fun e w' ⟨he, n, hc⟩ => ⟨he, by rw [hc]; exact H.quiet ((Chg.refl _ _).drewN _), by rw [hc]; exact (Chg.refl _ _).drewN _⟩
theorem Own.free {w0 : World} {g : Nat} {t : Tab Int} {w : World} (H : Own w0 g t w) (hw : t.WF) :
    Calls Try.prog 26 #[.pointer (some ⟨g, 0, none⟩)] w fun e w' => e = .returned (.int .i64 t.frees) ∧ Own w0 g t w' := by
  obtain ⟨S, h1, h2, h3⟩ := id H
  exact (free_I h1 hw).mono fun e w' ⟨he, n, hc⟩ => ⟨he, by rw [hc]; exact H.quiet ((Chg.refl _ _).drewN _)⟩
theorem Own.retired {w0 : World} {g : Nat} {t : Tab Int} {w : World} (H : Own w0 g t w) :
    Calls Try.prog 24 #[.pointer (some ⟨g, 0, none⟩)] w fun e w' => e = .returned (.int .i64 t.retired) ∧ Own w0 g t w' := by
  obtain ⟨S, h1, h2, h3⟩ := id H
  exact (retired_I h1).mono fun e w' ⟨he, hc⟩ => ⟨he, by rw [← hc]; exact H⟩

/-- What holds at a turn's head. -/
def Ready (w0 : World) (g N : Nat) (F : Int) (T : Nat) (w : World) : Prop :=
  ∃ t, Own w0 g t w ∧ ((F + (T : Nat) < topG ∧ Filling N 0 T F (F + (T : Nat)) t) ∨ (topG ≤ F + (T : Nat) ∧ Dead N F t))
def Fills (w0 : World) (g N i T : Nat) (F G : Int) (w : World) : Prop := ∃ t, Own w0 g t w ∧ Filling N i T F G t
def Drops (w0 : World) (g N i : Nat) (F G : Int) (w : World) : Prop := ∃ t, Own w0 g t w ∧ Dropping N i F G t
def Deads (w0 : World) (g N : Nat) (F : Int) (w : World) : Prop := ∃ t, Own w0 g t w ∧ Dead N F t
theorem Ready.start {w0 w1 : World} {N : Nat} {F : Int} (h : mayT (N : Nat) F = true) (h1 : TabAt kI w1 w0.heap.size [w0.heap.size] ⟨(N : Nat), F, [], [], 0⟩) (hc : Chg [] w0 w1) : Ready w0 w0.heap.size N F 0 w1 := by
  obtain ⟨a, b, c, d⟩ := mayT_iff.1 h
  refine ⟨_, ⟨_, h1, by simp, hc.below (fun _ h => by cases h) (Nat.le_refl _)⟩, .inl ⟨by simpa using d, Tab.WF.new a b c d, rfl, rfl, rfl, by simpa using d, by simp, ?_, by simp, by simp⟩⟩
  unfold Tab.frees; simp
theorem Fills.put {w0 : World} {g N i T : Nat} {F G : Int} {w : World} (H : Fills w0 g N i T F G w) (hi : i < N) (x : Int) :
    Calls Try.prog 16 #[.pointer (some ⟨g, 0, none⟩), .int .i64 x] w fun e w' => ∃ I : Int, e = .returned (.tuple #[.agg #[.int .i64 I, .int .u64 G], .int .i64 0]) ∧ (T = 0 → I = (i : Nat)) ∧ Fills w0 g N (i + 1) T F G w' := by
  obtain ⟨t, h1, h2⟩ := H
  refine (h1.put h2.hw x).mono ?_
  rintro e w' ⟨he, ho⟩
  have hne := h2.ne hi
  refine ⟨t.pIdx, ?_, fun hT => ?_, _, ho, h2.put hi x⟩
  · rw [he, show t.pGen = G by unfold Tab.pGen; rw [if_neg hne, h2.gen hi], show t.pErr = 0 by unfold Tab.pErr; rw [if_neg hne]]
  · unfold Tab.pIdx; rw [if_neg hne, h2.idx hT]
theorem Fills.len_ {w0 : World} {g N i T : Nat} {F G : Int} {w : World} (H : Fills w0 g N i T F G w) :
    Calls Try.prog 25 #[.pointer (some ⟨g, 0, none⟩)] w fun e w' => e = .returned (.int .i64 (i : Nat)) ∧ Fills w0 g N i T F G w' ∧ Chg [] w w' := by
  obtain ⟨t, h1, h2⟩ := H
  exact (h1.len_ h2.hw).mono fun e w' ⟨he, ho, hc⟩ => ⟨by rw [he, h2.len_], ⟨t, ho, h2⟩, hc⟩
theorem Fills.full {w0 : World} {g N T : Nat} {F G : Int} {w : World} (H : Fills w0 g N N T F G w) (x : Int) :
    Calls Try.prog 16 #[.pointer (some ⟨g, 0, none⟩), .int .i64 x] w fun e w' => e = .returned (.tuple #[.agg #[.int .i64 0, .int .u64 0], .int .i64 3]) ∧ Drops w0 g N 0 F G w' := by
  obtain ⟨t, h1, h2⟩ := H
  refine (h1.put h2.hw x).mono ?_
  rintro e w' ⟨he, ho⟩
  have hz : t.frees = 0 := by rw [h2.cnt]; omega
  rw [show t.put' x = t by unfold Tab.put'; rw [if_pos hz]] at ho
  refine ⟨?_, t, ho, h2.end_⟩
  rw [he, show t.pIdx = 0 by unfold Tab.pIdx; rw [if_pos hz], show t.pGen = 0 by unfold Tab.pGen; rw [if_pos hz], show t.pErr = 3 by unfold Tab.pErr; rw [if_pos hz]]
theorem Drops.at_ {w0 : World} {g N i : Nat} {F G : Int} {w : World} (H : Drops w0 g N i F G w) (hi : i < N) (hN : N ≤ 4096) :
    Calls Try.prog 21 #[.pointer (some ⟨g, 0, none⟩), .int .i64 (i : Nat)] w fun e w' => e = .returned (.tuple #[.agg #[.int .i64 (i : Nat), .int .u64 G], .bool true]) ∧ Drops w0 g N i F G w' := by
  obtain ⟨t, h1, h2⟩ := H
  obtain ⟨q1, q2, q3, _⟩ := h2.tell hi
  exact (h1.at_ h2.hw i (by omega) (by omega)).mono fun e w' ⟨he, ho, _⟩ => ⟨by rw [he, q1, q2, q3], t, ho, h2⟩
theorem Drops.quiet {w0 : World} {g N i : Nat} {F G : Int} {w w' : World} (H : Drops w0 g N i F G w) (hc : Chg [] w w') : Drops w0 g N i F G w' := by
  obtain ⟨t, h1, h2⟩ := H; exact ⟨t, h1.quiet hc, h2⟩
theorem Fills.quiet {w0 : World} {g N i T : Nat} {F G : Int} {w w' : World} (H : Fills w0 g N i T F G w) (hc : Chg [] w w') : Fills w0 g N i T F G w' := by
  obtain ⟨t, h1, h2⟩ := H; exact ⟨t, h1.quiet hc, h2⟩
theorem Deads.quiet {w0 : World} {g N : Nat} {F : Int} {w w' : World} (H : Deads w0 g N F w) (hc : Chg [] w w') : Deads w0 g N F w' := by
  obtain ⟨t, h1, h2⟩ := H; exact ⟨t, h1.quiet hc, h2⟩
theorem Drops.drop {w0 : World} {g N i : Nat} {F G : Int} {w : World} (H : Drops w0 g N i F G w) (hi : i < N) (hN : N ≤ 4096) :
    Calls Try.prog 19 #[.pointer (some ⟨g, 0, none⟩), .agg #[.int .i64 (i : Nat), .int .u64 G]] w fun e w' => e = .returned (.int .i64 0) ∧ Drops w0 g N (i + 1) F G w' := by
  obtain ⟨t, h1, h2⟩ := H
  obtain ⟨q1, q2, q3, q4⟩ := h2.tell hi
  exact (h1.drop h2.hw i G (by omega) (by omega)).mono fun e w' ⟨he, ho⟩ => ⟨by rw [he, q4], _, ho, h2.drop hi⟩
/-- Behind all are gone: the next turn. -/
theorem Drops.next {w0 : World} {g N T : Nat} {F : Int} {w : World} (H : Drops w0 g N N F (F + (T : Nat)) w) : Ready w0 g N F (T + 1) w := by
  obtain ⟨t, h1, h2⟩ := H
  by_cases hG : topG ≤ F + (T : Nat) + 1
  · exact ⟨t, h1, .inr ⟨by omega, h2.dead hG⟩⟩
  · have := h2.again (T := T) rfl (by omega)
    exact ⟨t, h1, .inl ⟨by omega, by rw [show F + ((T + 1 : Nat) : Int) = F + (T : Nat) + 1 by omega]; exact this⟩⟩
/-- What is told of a table of which nothing is there. -/
def Empty_ (w0 : World) (g N : Nat) (P : World → Prop) (w : World) : Prop :=
  ∃ t, Own w0 g t w ∧ t.WF ∧ t.size - t.frees - t.retired = 0 ∧ t.frees + t.retired = (N : Nat) ∧ 0 ≤ t.retired ∧ t.retired ≤ (N : Nat) ∧ ∀ w', Own w0 g t w' → P w'
theorem Drops.empty {w0 : World} {g N T : Nat} {F : Int} {w : World} (H : Drops w0 g N N F (F + (T : Nat)) w) : Empty_ w0 g N (Ready w0 g N F (T + 1)) w := by
  obtain ⟨t, h1, h2⟩ := id H
  obtain ⟨q1, q2, q3, q4⟩ := h2.sums (T := T) rfl
  exact ⟨t, h1, h2.hw, q1, q2, q3, q4, fun w' ho => Drops.next ⟨t, ho, h2⟩⟩
theorem Deads.empty {w0 : World} {g N T : Nat} {F : Int} {w : World} (H : Deads w0 g N F w) (hT : topG ≤ F + (T : Nat)) : Empty_ w0 g N (Ready w0 g N F (T + 1)) w := by
  obtain ⟨t, h1, h2⟩ := id H
  obtain ⟨q1, q2, _⟩ := h2.facts
  exact ⟨t, h1, h2.hw, by rw [h2.sz, q1, q2]; omega, by rw [q1, q2]; omega, by rw [q2]; omega, by rw [q2]; exact Int.le_refl _, fun w' ho => ⟨t, ho, .inr ⟨by omega, h2⟩⟩⟩
theorem Empty_.quiet {w0 : World} {g N : Nat} {P : World → Prop} {w w' : World} (H : Empty_ w0 g N P w) (hc : Chg [] w w') : Empty_ w0 g N P w' := by
  obtain ⟨t, h1, h2, h3⟩ := H; exact ⟨t, h1.quiet hc, h2, h3⟩
theorem Deads.full {w0 : World} {g N : Nat} {F : Int} {w : World} (H : Deads w0 g N F w) (x : Int) :
    Calls Try.prog 16 #[.pointer (some ⟨g, 0, none⟩), .int .i64 x] w fun e w' => e = .returned (.tuple #[.agg #[.int .i64 0, .int .u64 0], .int .i64 3]) ∧ Deads w0 g N F w' := by
  obtain ⟨t, h1, h2⟩ := H
  refine (h1.put h2.hw x).mono ?_
  rintro e w' ⟨he, ho⟩
  have hz := h2.facts.1
  rw [show t.put' x = t by unfold Tab.put'; rw [if_pos hz]] at ho
  refine ⟨?_, t, ho, h2⟩
  rw [he, show t.pIdx = 0 by unfold Tab.pIdx; rw [if_pos hz], show t.pGen = 0 by unfold Tab.pGen; rw [if_pos hz], show t.pErr = 3 by unfold Tab.pErr; rw [if_pos hz]]
theorem Deads.retired {w0 : World} {g N : Nat} {F : Int} {w : World} (H : Deads w0 g N F w) :
    Calls Try.prog 24 #[.pointer (some ⟨g, 0, none⟩)] w fun e w' => e = .returned (.int .i64 (N : Nat)) ∧ Deads w0 g N F w' := by
  obtain ⟨t, h1, h2⟩ := H
  exact h1.retired.mono fun e w' ⟨he, ho⟩ => ⟨by rw [he, h2.facts.2.1], t, ho, h2⟩
theorem Deads.at_ {w0 : World} {g N : Nat} {F : Int} {w : World} (H : Deads w0 g N F w) (i : Nat) (hi : i ≤ 100000) :
    Calls Try.prog 21 #[.pointer (some ⟨g, 0, none⟩), .int .i64 (i : Nat)] w fun e w' => e = .returned (.tuple #[.agg #[.int .i64 0, .int .u64 0], .bool false]) ∧ Deads w0 g N F w' := by
  obtain ⟨t, h1, h2⟩ := H
  obtain ⟨q1, q2, q3⟩ := h2.facts.2.2 (i : Nat)
  exact (h1.at_ h2.hw i (by omega) (by omega)).mono fun e w' ⟨he, ho, _⟩ => ⟨by rw [he, q1, q2, q3], t, ho, h2⟩
theorem Empty_.len_ {w0 : World} {g N : Nat} {P : World → Prop} {w : World} (H : Empty_ w0 g N P w) :
    Calls Try.prog 25 #[.pointer (some ⟨g, 0, none⟩)] w fun e w' => e = .returned (.int .i64 0) ∧ Empty_ w0 g N P w' := by
  obtain ⟨t, h1, h2, h3⟩ := H
  exact (h1.len_ h2).mono fun e w' ⟨he, ho, _⟩ => ⟨by rw [he, h3.1], t, ho, h2, h3⟩
/-- How many are free, and how many retired, in the same state. -/
theorem Empty_.free {w0 : World} {g N : Nat} {P : World → Prop} {w : World} (H : Empty_ w0 g N P w) :
    Calls Try.prog 26 #[.pointer (some ⟨g, 0, none⟩)] w fun e w' => ∃ a b : Int, e = .returned (.int .i64 a) ∧ a + b = (N : Nat) ∧ 0 ≤ b ∧ b ≤ (N : Nat) ∧
      Calls Try.prog 24 #[.pointer (some ⟨g, 0, none⟩)] w' fun e' w'' => e' = .returned (.int .i64 b) ∧ P w'' := by
  obtain ⟨t, h1, h2, h3, h4, h5, h6, h7⟩ := H
  exact (h1.free h2).mono fun e w' ⟨he, ho⟩ => ⟨t.frees, t.retired, he, h4, h5, h6, ho.retired.mono fun e' w'' ⟨he', ho'⟩ => ⟨he', h7 w'' ho'⟩⟩
theorem Ready.below {w0 : World} {g N T : Nat} {F : Int} {w : World} (H : Ready w0 g N F T w) : Below w0.heap.size w0 w := by
  obtain ⟨t, h1, _⟩ := H; exact h1.below
end Go.Proofs
