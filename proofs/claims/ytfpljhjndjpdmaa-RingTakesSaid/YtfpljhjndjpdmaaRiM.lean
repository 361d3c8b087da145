import Derived.Test.YtfpljhjndjpdmaaRiL
namespace Go.Proofs
open Go.RowKit
set_option linter.unusedVariables false

theorem Rd.at_ {w : World} {a : Addr} {m c : Nat} {L : List Int} (h : Rd w (.slice (some a) m c) L) : ∃ b o, a = ⟨b, o, none⟩ := by
  obtain ⟨A, c', hv, _, _, _, h4⟩ := h
  injection hv with hA _ _
  obtain ⟨h', o', cs, he, _⟩ := h4 _ hA.symm
  exact ⟨h', o', he⟩
theorem Rd.first {w : World} {A : Option Addr} {m c k : Nat} {L : List Int} (h : Rd w (.slice A m c) L) (hk : k ≤ m) : Rd w (.slice A k c) (L.take k) := by
  obtain ⟨A', c', hv, h1, h2, h3, h4⟩ := h
  simp only [Value.slice.injEq] at hv
  obtain ⟨rfl, rfl, rfl⟩ := hv
  have e : (L.take k).length = k := by rw [List.length_take]; omega
  refine ⟨A, c, by rw [e], by omega, h2, h3, fun a ha => ?_⟩
  obtain ⟨g, o, cs, rfl, hB, hs, r⟩ := h4 a ha
  refine ⟨g, o, cs, rfl, hB, hs, fun j x hj => r j x ?_⟩
  rw [List.getElem?_take] at hj
  split at hj
  · exact hj
  · cases hj
theorem Rd.rest {w : World} {b o m c k : Nat} {L : List Int} (h : Rd w (.slice (some ⟨b, o, none⟩) m c) L) (hk : k ≤ m) (hkc : k < c) : Rd w (.slice (some ⟨b, o + k, none⟩) (m - k) (c - k)) (L.drop k) := by
  obtain ⟨A', c', hv, h1, h2, h3, h4⟩ := h
  simp only [Value.slice.injEq] at hv
  obtain ⟨rfl, rfl, rfl⟩ := hv
  have e : (L.drop k).length = L.length - k := List.length_drop
  refine ⟨_, c - k, by rw [e], by omega, by omega, fun h => (by cases h), fun a ha => ?_⟩
  cases ha
  obtain ⟨g, o', cs, he, hB, hs, r⟩ := h4 _ rfl
  cases he
  refine ⟨_, _, cs, rfl, hB, by omega, fun j x hj => ?_⟩
  rw [List.getElem?_drop] at hj
  rw [Nat.add_assoc]
  exact r _ x hj
theorem Rd.rest0 {w : World} {b o m : Nat} {L : List Int} (h : Rd w (.slice (some ⟨b, o, none⟩) m m) L) : Rd w (.slice (some ⟨b, o, none⟩) 0 0) (L.drop m) := by
  obtain ⟨A', c', hv, h1, h2, h3, h4⟩ := h
  simp only [Value.slice.injEq] at hv
  obtain ⟨rfl, rfl, hc⟩ := hv
  obtain ⟨g, o', cs, he, hB, hs, r⟩ := h4 _ rfl
  cases he
  rw [List.drop_length]
  exact ⟨_, 0, rfl, by simp, by simp, fun h => (by cases h), fun a ha => by cases ha; exact ⟨_, _, cs, rfl, hB, by omega, fun j x hj => by simp at hj⟩⟩
/-- What the document's taking answers. -/
def RTook (g : Nat) (S : List Nat) (M : Int) (v : Value) (l L' : List Int) (w w' : World) : Prop :=
  Rd w' v l ∧ (∀ k ∈ foot v, k ∈ S) ∧ RTurns g S M L' w w'
theorem RTook.mk_ {w : World} {g n c : Nat} {S : List Nat} {M : Int} {A : Option Addr} {V : Value} (hB : Blk w g 31 #[.slice A n c, .int .i64 M]) (hS : S = g :: foot (.slice A n c)) {v : Value} {l L' : List Int} (h1 : Rd w v l) (h2 : Rd w V L') (f1 : ∀ k ∈ foot v, k ∈ foot (.slice A n c)) (f2 : ∀ k ∈ foot V, k ∈ foot (.slice A n c)) :
    RTook g S M v l L' w (w.setCell ⟨g, 0, none⟩ V) := by
  have hgv : g ∉ foot v := h1.ty hB (by decide)
  exact ⟨h1.same fun k hk => Below.heap_setCell _ _ _ _ (fun e => hgv (by have : k = g := e; rw [← this]; exact hk)), fun k hk => by rw [hS]; simp [f1 k hk], RTurns.put hB (by rw [hS]; simp) (Chg.refl _ _) h2 (fun k hk => .inl (by rw [hS]; simp [f2 k hk]))⟩
set_option maxHeartbeats 3200000 in
theorem rtake_any {w : World} {g : Nat} {S : List Nat} {M : Int} {L : List Int} (h : RefAt w g S M L) (n : Int) (n0 : -9223372036854775808 ≤ n) (n1 : n ≤ 9223372036854775807) (hl : L.length ≤ 8192) :
    Calls Try.prog 24 #[.pointer (some ⟨g, 0, none⟩), .int .i64 n] w fun e w' => ∃ v, e = .returned v ∧ RTook g S M v (L.take n.toNat) (L.drop n.toNat) w w' := by
  obtain ⟨VL, hB, hR, hS⟩ := h
  obtain ⟨A, c, rfl, hlc, hcm, hA, _⟩ := hR.open_
  obtain ⟨N, hN⟩ : ∃ N : Nat, N = min n.toNat L.length := ⟨_, rfl⟩
  obtain ⟨m, hm⟩ : ∃ m, m = L.length := ⟨_, rfl⟩
  have hNm : N ≤ m := by omega
  have hstop : ¬ ((N : Int) < n) ∨ ¬ ((N : Int) < (m : Int)) := by omega
  have hgo : ∀ k : Nat, k < N → (k : Int) < n ∧ (k : Int) < (m : Int) := fun k hk => by omega
  have HT := Lib.hid (show L.take n.toNat = L.take N ∧ L.drop n.toNat = L.drop N by
    rw [hN]
    rcases Nat.le_total n.toNat L.length with h1 | h1
    · rw [Nat.min_eq_left h1]; exact ⟨rfl, rfl⟩
    · rw [Nat.min_eq_right h1]; simp [List.take_of_length_le h1, List.drop_eq_nil_of_le h1])
  have c0 := hB.cell 0
  have f0 := hB.frozen 0
  rw [← hm] at c0 hl hlc hB hR hS
  have HN := Lib.hid hN
  have HM := Lib.hid hm
  have HB := Lib.hid hB
  have HR := Lib.hid hR
  have HS := Lib.hid hS
  have HG := Lib.hid hgo
  have hc63 : c ≤ 9223372036854775807 := by unfold maxLen at hcm; exact hcm
  have HCM := Lib.hid hcm
  have HST := Lib.hid hstop
  clear hN hm hB hR hS hgo hcm hstop
  rw [HT.out.1, HT.out.2]
  go_enter Try.func24, Try.ntmps24
  go_wp2
  go_loop [5] (fun i => ∃ k : Nat, k ≤ N ∧ i = .int .i64 k) (fun i => N - (intOf i).toNat)
  case atStart => exact ⟨0, Nat.zero_le _, rfl⟩
  case round =>
    obtain ⟨k, hk, rfl⟩ := hrel
    by_cases hlt : k < N
    · obtain ⟨d1, d2⟩ := HG.out k hlt
      go_wp2
      go_round
      case rel => exact ⟨k + 1, by omega, by go_num⟩
      case measure => simp [intOf]; omega
    · obtain rfl : k = N := by omega
      have i0 : (0 : Int) ≤ (k : Int) := by omega
      have i1 : (k : Int) ≤ (c : Int) := by omega
      have i2 : (k : Int) ≤ (m : Int) := by omega
      have hd2 : (k : Int) < n → ¬ ((k : Int) < (m : Int)) := fun h => by rcases HST.out with h9 | h9 <;> omega
      have HD := Lib.hid hd2
      clear hd2
      cases A with
      | none =>
        obtain rfl := hA rfl
        obtain rfl : m = 0 := by omega
        obtain rfl : k = 0 := by omega
        have h1 := Lib.hid (HR.out.first (k := 0) (by omega))
        have h2 := Lib.hid (show Rd w (.slice none 0 0) (L.drop 0) from by rw [List.drop_zero]; exact HR.out)
        by_cases hkn : (0 : Int) < n
        all_goals
          go_wp2
          go_ret
          exact ⟨_, rfl, RTook.mk_ HB.out HS.out h1.out h2.out (fun k h => h) (fun k h => h)⟩
      | some a =>
        obtain ⟨b, o, rfl⟩ := HR.out.at_
        have h1 := Lib.hid (HR.out.first hNm)
        clear hA
        by_cases hkc : c = k
        · subst hkc
          obtain rfl : c = m := by omega
          have h2 := Lib.hid HR.out.rest0
          by_cases hkn : (c : Int) < n
          all_goals
            go_wp2
            go_ret
            exact ⟨_, rfl, RTook.mk_ HB.out HS.out h1.out h2.out (fun k h => h) (fun k h => h)⟩
        · have h2 := Lib.hid (HR.out.rest hNm (by omega))
          by_cases hkn : (k : Int) < n
          · have d2 := HD.out hkn
            go_wp2
            go_ret
            exact ⟨_, rfl, RTook.mk_ HB.out HS.out h1.out h2.out (fun k h => h) (fun k h => h)⟩
          · go_wp2
            go_ret
            exact ⟨_, rfl, RTook.mk_ HB.out HS.out h1.out h2.out (fun k h => h) (fun k h => h)⟩
end Go.Proofs
