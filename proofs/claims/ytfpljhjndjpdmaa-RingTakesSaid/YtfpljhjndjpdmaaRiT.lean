import Derived.Test.YtfpljhjndjpdmaaRiS
namespace Go.Proofs
open Go.RowKit
set_option linter.unusedVariables false

section
variable {w : World} {g h r M : Nat} {S : List Nat} {N : Int} {L K : List Int}
/-- One act, on both: they come to what the plain rows come to; and if these are one, true is told. -/
theorem do_any (H : Two w g h r S M N L K) (hK : K.length ≤ 8192) (k n : Int) (n0 : -9223372036854775808 ≤ n) (n1 : n ≤ 9223372036854775807) :
    Calls Try.prog 10 #[.pointer (some ⟨g, 0, none⟩), .pointer (some ⟨r, 0, none⟩), .agg #[.int .i64 k, .int .i64 n]] w fun e w' => Told (L = K ∧ N = M) e ∧ Does g h r S M N (act M L k n) (act N K k n) w w' := by
  unfold act
  by_cases h1 : k = 1
  · subst h1
    exact (do1 H hK n).mono fun e w' ⟨q1, q2⟩ => ⟨q1.mono (by rintro ⟨rfl, rfl⟩; rfl), q2⟩
  · by_cases h2 : k = 2
    · subst h2
      exact (do2 H hK n).mono fun e w' ⟨q1, q2⟩ => ⟨q1.mono (fun h => h.1), q2⟩
    · by_cases h3 : k = 3
      · subst h3
        exact (do3 H hK n n0 n1).mono fun e w' ⟨q1, q2⟩ => ⟨q1.mono (fun h => h.1), q2⟩
      · by_cases h4 : k = 4
        · subst h4
          exact (do4 H hK n).mono fun e w' ⟨q1, q2⟩ => ⟨q1.mono (fun h => h.1), q2⟩
        · rw [if_neg h1, if_neg h2, if_neg h3, if_neg h4, if_neg h1, if_neg h2, if_neg h3, if_neg h4]
          by_cases h5 : k = 5
          · subst h5
            exact (do5 H hK n).mono fun e w' ⟨q1, q2⟩ => ⟨q1.mono (fun h => h.1), q2⟩
          · exact (doN H k n h1 h2 h3 h4 h5).mono fun e w' ⟨q1, q2⟩ => ⟨q1.mono (fun _ => trivial), q2⟩
set_option maxRecDepth 100000 in
set_option maxHeartbeats 1600000 in
theorem same_any (H : Two w g h r S M N L L) (hN : N = M) :
    Calls Try.prog 11 #[.pointer (some ⟨g, 0, none⟩), .pointer (some ⟨r, 0, none⟩)] w fun e w' => e = .returned (.bool true) ∧ Chg [] w w' := by
  subst hN
  have hL : L.length ≤ 8192 := by have := H.ring.small; omega
  have hall := fun W (hW : Chg [] w W) => all_of hL (H.ring.has.quiet hW)
  have hlen : ∀ W, Chg [] w W → ∀ n, Calls Try.prog 14 #[.pointer (some ⟨g, 0, none⟩)] (W.drewN n) fun e w' => e = .returned (.int .i64 L.length) ∧ w' = W.drewN n := fun W hW n => (len_any (H.ring.quiet (hW.drewN n))).mono fun e w' ⟨h1, h2⟩ => ⟨h1, h2.symm⟩
  have hmost : ∀ W, Chg [] w W → ∀ n, Calls Try.prog 21 #[.pointer (some ⟨g, 0, none⟩)] (W.drewN n) fun e w' => e = .returned (.int .i64 M) ∧ w' = W.drewN n := fun W hW n => (most_any (H.ring.quiet (hW.drewN n))).mono fun e w' ⟨h1, h2⟩ => ⟨h1, h2.symm⟩
  have hsm : ∀ W v1 v2, Rd W v1 L → Rd W v2 L → Calls Try.prog 16 #[v1, v2] W fun e w' => e = .returned (.bool true) ∧ ∃ q, w' = W.drewN q := fun W v1 v2 h1 h2 => by
    have := rsame_q h1 h2 hL hL
    rwa [beq_self_eq_true] at this
  obtain ⟨VL, hB, hRd, hS⟩ := H.ref
  obtain ⟨A, c, rfl, _⟩ := hRd.open_
  have c0 := hB.cell 0
  have c1 := hB.cell 1
  have lr := hB.lt
  obtain ⟨m, hm⟩ : ∃ m, m = L.length := ⟨_, rfl⟩
  simp only [List.getElem?_toArray, List.getElem?_cons_succ, List.getElem?_cons_zero, ← hm] at c0 c1
  rw [← hm] at hlen hL hRd
  have e1 : ((m : Int) != (m : Int)) = false := by simp
  have e2 : ((M : Int) != (M : Int)) = false := by simp
  have HRd := Lib.hid hRd
  have HM := Lib.hid hm
  clear hB hRd hS hm
  go_enter Try.func11, Try.ntmps11
  go_wp2_with (go_at_call 22; refine (hall _ (Chg.refl _ _)).mono ?_; rintro e w1 ⟨v, rfl, hf⟩; obtain ⟨A1, c1', rfl, _⟩ := hf.1.val; have HF := Lib.hid hf; clear hf)
  have k0 := (HF.out.2.2.cell (p := ⟨r, 0, none⟩) lr (by simp)).trans c0
  have k1 := (HF.out.2.2.cell (p := ⟨r, 1, none⟩) lr (by simp)).trans c1
  have hl1 := hlen w1 HF.out.2.2
  have hm1 := hmost w1 HF.out.2.2
  have hs1 : ∀ n, Calls Try.prog 16 #[.slice A1 L.length c1', .slice A m c] (w1.drewN n) fun e w' => e = .returned (.bool true) ∧ ∃ q, w' = (w1.drewN n).drewN q := fun n => hsm _ _ _ (HF.out.rd.quiet ((Chg.refl _ _).drewN n)) ((HRd.out.quiet HF.out.2.2).quiet ((Chg.refl _ _).drewN n))
  rw [← HM.out] at hs1 HF ⊢
  go_quiet ((first
    | (go_at_call 16; exact Calls.quiet_of (hs1 _))
    | (go_at_call 14; exact Calls.quiet_of_same (hl1 _))
    | (go_at_call 21; exact Calls.quiet_of_same (hm1 _))))
  go_wp2
  have HS := Lib.hid (Scr.start (HF.out.1.drewN nq))
  rw [← HM.out] at HS
  clear hs1 hl1 hm1 k0 k1
  go_loopw [6] (fun i wr => ∃ k : Nat, k ≤ m ∧ i = .int .i64 k ∧ Hid (Scr (w1.drewN nq) wr (.slice A1 m c1') m)) (fun i _ => m - (intOf i).toNat)
  case atStart => exact ⟨0, Nat.zero_le _, rfl, HS⟩
  case round =>
    obtain ⟨k, hk, rfl, hs⟩ := hrel
    by_cases hlt : k < m
    · obtain ⟨gg, cap, x, hv, q0, q1⟩ := hs.out.form hlt
      simp only [Value.slice.injEq] at hv
      obtain ⟨rfl, _, rfl⟩ := hv
      have HN := Lib.hid (fun y => hs.out.step hlt y)
      have i0 : (0 : Int) ≤ (k : Int) := by omega
      have i1 : (k : Int) < (m : Int) := by omega
      clear hs
      go_wp2
      go_roundw
      case rel => exact ⟨k + 1, by omega, by go_num, Lib.hid (HN.out _)⟩
      case measure => simp [intOf]; omega
    · obtain rfl : k = m := by omega
      obtain ⟨vs, _, _, hcs⟩ := hs.out
      have hW : Chg [] w wr := (HF.out.2.2.drewN nq).trans hcs (fun k hk => .inr (HF.out.2.1 k hk))
      have k0 : wr.cell? ⟨r, 0, none⟩ = some (.slice A k c) := (hW.cell (p := ⟨r, 0, none⟩) lr (by simp)).trans c0
      have HW := Lib.hid hW
      clear hs hcs hW
      go_wp2
      go_region_held3 (fun w' => w'.cell? ⟨r, 0, none⟩ = some (.slice A k c))
        (first | go_keep)
        (first
          | (go_at_call 22; refine (hall _ (HW.out.drew)).mono ?_; rintro e w3 ⟨v3, rfl, hf3⟩; have k3 : w3.cell? ⟨r, 0, none⟩ = some (.slice A k c) := (hf3.2.2.cell (p := ⟨r, 0, none⟩) (by have := HW.out.size; simp; omega) (by simp)).trans k0; have HF3 := Lib.hid hf3; clear hf3)
          | (go_at_call 16; refine (hsm _ _ _ HF3.out.rd (HRd.out.quiet (HW.out.drew.then HF3.out.2.2))).mono ?_; rintro e w4 ⟨rfl, q, rfl⟩))
      all_goals
        go_wp2
        go_ret
        exact ⟨rfl, ((HW.out.drew.then HF3.out.2.2).drewN _)⟩
end
end Go.Proofs
