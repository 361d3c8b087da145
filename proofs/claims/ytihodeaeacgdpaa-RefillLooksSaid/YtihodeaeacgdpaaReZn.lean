import Derived.Test.YtihodeaeacgdpaaReZm
import Derived.Test.YtihodeaeacgdpaaReYd
namespace Go.Proofs
open Go.RowKit Go.Sort
set_option linter.unusedVariables false

theorem pdq_all {w0 : World} {g cap n : Nat} (hn : n ≤ 100000) (m : Nat) : PdqOK w0 g cap n m := by
  induction m using Nat.strongRecOn with
  | ind m IH => exact pdq_step hn m IH
theorem sort_pdq {w : World} {A : Option Addr} {c n : Nat} {Q : World → Prop} (hn : n ≤ 100000) (hI : ∀ limit : Int, Calls Try.prog 42 #[.slice A n c, .int .i64 0, .int .i64 (n : Nat), .int .i64 limit] w fun e w' => e = .returned (.tuple #[]) ∧ Q w') :
    Calls Try.prog 31 #[.slice A n c] w fun e w' => e = .returned (.tuple #[]) ∧ Q w' := by
  have HI := Lib.hid hI
  have g2 : IntKind.u64.wrap (n : Int) = (n : Int) := by rw [IntKind.wrap_u64]; omega
  have hb := Try.bits_Len (n : Int) w (by omega) (by omega)
  obtain ⟨L, hL⟩ : ∃ L : Int, L = (Lib.bitLen (n : Int).toNat : Int) := ⟨_, rfl⟩
  rw [← hL] at hb
  clear hI hL
  go_enter Try.func31, Try.ntmps31
  go_wp2_with (first
    | (go_at_call 43; refine hb.mono ?_; rintro e w' ⟨rfl, rfl⟩)
    | (go_at_call 42; refine (HI.out _).mono ?_; rintro e w' ⟨rfl, h1⟩; have H1 := Lib.hid h1; clear h1))
  go_end0
  exact ⟨rfl, H1.out⟩
theorem sorts_all (N : Nat) (hN : N ≤ 100000) : Sorts N := by
  intro w v U hU hn
  rcases hU.2 with ⟨rfl, h0⟩ | ⟨g, cap, cur, rfl, hg, hc, hm, hs, ht⟩
  · have e : U = [] := List.eq_nil_of_length_eq_zero h0
    subst e
    exact (sort_few (Q := fun w' => w = w') (by simp) (ins_none _ _ _ rfl w)).mono fun e w' ⟨h1, h2⟩ => ⟨h1, [], by rw [← h2]; exact hU, List.Perm.refl _, List.Pairwise.nil, by rw [← h2]; exact Chg.refl _ _⟩
  · have hd : Ud w w g cap U.toArray := ⟨by simpa using hU, Chg.refl _ _⟩
    have hz : U.toArray.size = U.length := by simp
    have hp := fun limit => pdq_all (w0 := w) (g := g) (cap := cap) (n := U.length) (by omega) (U.length - 0) 0 U.length limit U.toArray w (Nat.le_refl _) (Nat.zero_le _) (Nat.le_refl _) hz (.inl rfl) hd
    refine (sort_pdq (by omega) hp).mono fun e w' ⟨h1, d', h2, h3, h4⟩ => ?_
    have hsz : d'.size = U.length := by rw [h3.1]; exact hz
    refine ⟨h1, d'.toList, ?_, by have := perm_list (d := U.toArray) (d' := d') (by rw [hz]; exact h3); simpa using this, sorted_list (by rw [hsz]; exact h4), by simpa [foot_some] using h2.2⟩
    have := h2.1
    rw [hsz] at this
    exact this
theorem looks_any (v : Value) (l : List Rf) (now B : Int) (w : World) (h : In w v l) (hk : Ok l) (hnow : U64 now) (hB : U64 B) :
    Calls Try.prog 3 #[v, .int .u64 now, .int .u64 B] w fun e w' => e = .returned (.bool true) ∧ Chg [] w w' := looks_law (sorts_all 60 (by omega)) v l now B w h hk hnow hB
end Go.Proofs
