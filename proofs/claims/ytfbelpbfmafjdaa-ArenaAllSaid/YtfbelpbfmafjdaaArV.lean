import Derived.Test.YtfbelpbfmafjdaaArU
namespace Go.Proofs
open Go.RowKit
set_option linter.unusedVariables false

def RTab.pl? (r : RTab) (i : Int) : Option Pl := if 0 ≤ i then r.L[i.toNat]? else none
def RTab.is (r : RTab) (i q : Int) : Bool := match r.pl? i with | some p => p.there && (p.gen == q) | none => false
theorem ris_iff {r : RTab} {i q : Int} : r.is i q = true ↔ ∃ (k : Nat) (p : Pl), i = (k : Nat) ∧ r.L[k]? = some p ∧ p.there = true ∧ p.gen = q := by
  unfold RTab.is RTab.pl?
  by_cases h : 0 ≤ i
  · obtain ⟨k, rfl⟩ := Int.eq_ofNat_of_zero_le h
    simp only [h, if_true, Int.toNat_natCast]
    cases hp : r.L[k]? with
    | none =>
      simp only [Bool.false_eq_true, false_iff]
      rintro ⟨k', p, h1, h2, _⟩
      obtain rfl : k = k' := by omega
      rw [hp] at h2; cases h2
    | some p =>
      simp only [Bool.and_eq_true, beq_iff_eq]
      constructor
      · rintro ⟨h1, h2⟩; exact ⟨k, p, rfl, hp, h1, h2⟩
      · rintro ⟨k', p', h1, h2, h3, h4⟩
        obtain rfl : k = k' := by omega
        rw [hp] at h2; cases h2
        exact ⟨h3, h4⟩
  · simp only [h, if_false, Bool.false_eq_true, false_iff]
    rintro ⟨k, p, h1, _⟩
    omega

set_option maxHeartbeats 1600000 in
set_option maxRecDepth 100000 in
theorem ris_any {w : World} {h : Nat} {S : List Nat} {r : RTab} (hr : RefAt w h S r) (hn : r.L.length ≤ 4096) (i q : Int) :
    Calls Try.prog 48 #[.pointer (some ⟨h, 0, none⟩), .agg #[.int .i64 i, .int .u64 q]] w fun e w' => e = .returned (.bool (r.is i q)) ∧ Chg [] w w' := by
  obtain ⟨VL, hB, hL, hSS⟩ := hr
  have lh := hB.lt
  have a0 := hB.cell 0
  obtain ⟨A, c, rfl, _⟩ := hL.val
  by_cases h0 : i < 0
  · have e : r.is i q = false := by unfold RTab.is RTab.pl?; rw [if_neg (by omega)]
    rw [e]
    have d0 : decide (0 ≤ i) = false := by simp; omega
    clear hB hL e
    go_enter Try.func48, Try.ntmps48
    go_wp2
    go_quiet (fail)
    go_wp2
    go_ret
    exact ⟨rfl, ((Chg.refl _ _).alloc _).drewN _⟩
  · obtain ⟨k, rfl⟩ := Int.eq_ofNat_of_zero_le (by omega : 0 ≤ i)
    obtain ⟨n, hnn⟩ : ∃ n, n = r.L.length := ⟨_, rfl⟩
    rw [← hnn] at a0 hn
    have d0 : decide (0 ≤ (k : Int)) = true := by simp
    by_cases h1 : k < n
    · obtain ⟨p, hp⟩ : ∃ p, r.L[k]? = some p := ⟨_, List.getElem?_eq_getElem (by omega)⟩
      obtain ⟨gl, cl, hv2, hcl, lg, _, b0, b1, b2, _, _, _⟩ := ref_spot hL hp
      simp only [Value.slice.injEq] at hv2
      obtain ⟨rfl, _, _⟩ := hv2
      have d1 : decide ((k : Int) < (n : Int)) = true := by simp; omega
      have i0 : (0 : Int) ≤ (k : Int) := by omega
      have i1 : (k : Int) < (n : Int) := by omega
      cases ht : p.there with
      | false =>
        have e : r.is (k : Nat) q = false := by unfold RTab.is RTab.pl?; rw [if_pos (by omega)]; simp [hp, ht]
        rw [e]
        rw [ht] at b1
        clear hB hL e hp hnn h1 ht b0 b2
        go_enter Try.func48, Try.ntmps48
        go_wp2
        go_quiet (fail)
        go_wp2
        go_ret
        exact ⟨rfl, ((Chg.refl _ _).alloc _).drewN _⟩
      | true =>
        have e : r.is (k : Nat) q = (p.gen == q) := by unfold RTab.is RTab.pl?; rw [if_pos (by omega)]; simp [hp, ht]
        rw [e]
        rw [ht] at b1
        obtain ⟨G, hG⟩ : ∃ G, G = p.gen := ⟨_, rfl⟩
        rw [← hG] at b0 ⊢
        clear hB hL e hp hnn h1 ht b2 hG
        go_enter Try.func48, Try.ntmps48
        go_wp2
        go_quiet (fail)
        go_wp2
        go_ret
        exact ⟨rfl, ((Chg.refl _ _).alloc _).drewN _⟩
    · have e : r.is (k : Nat) q = false := by unfold RTab.is RTab.pl?; rw [if_pos (by omega)]; simp only [Int.toNat_natCast]; rw [List.getElem?_eq_none (by omega)]
      rw [e]
      have d1 : decide ((k : Int) < (n : Int)) = false := by simp; omega
      clear hB hL e hnn
      go_enter Try.func48, Try.ntmps48
      go_wp2
      go_quiet (fail)
      go_wp2
      go_ret
      exact ⟨rfl, ((Chg.refl _ _).alloc _).drewN _⟩
end Go.Proofs
