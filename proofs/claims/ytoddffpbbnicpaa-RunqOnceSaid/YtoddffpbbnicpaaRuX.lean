import Derived.Test.YtoddffpbbnicpaaRuW
namespace Go.Proofs
open Go.RowKit
set_option linter.unusedVariables false

section
variable {w : World} {r : Nat} {S : List Nat} {M : Nat} {L : List Int} {N : Option Int}
/-- The ring's first one goes, and is told. -/
theorem RefAt.take_first {w1 : World} {S1 : List Nat} {K sp : List Int} {A A' : Option Addr} {n c : Nat} {VN s : Value} (hB : Blk w1 r 45 #[.slice A n c, .int .i64 M, VN]) (hR : Rd w1 (.slice A n c) K) (hN : Rd w1 VN (none : Option Int).toList) (hS : S1 = r :: (foot (.slice A n c) ++ foot VN))
    (hS1 : ∀ k ∈ S1, k ∈ S ∨ w.heap.size ≤ k) (hc : Chg [r] w w1) (hs : Rd w1 s sp) (hsf : ∀ k ∈ foot s, k ∈ S ∨ w.heap.size ≤ k) (h0 : 0 < n) (hA : Rd w1 (.slice A' (n - 1) (c - 1)) K.tail) (hf : foot (.slice A' (n - 1) (c - 1)) = foot (.slice A n c)) :
    RTook r S M (.slice A 1 c) s (K.take 1) sp K.tail none w (w1.setCell ⟨r, 0, none⟩ (.slice A' (n - 1) (c - 1))) := by
  have hT := RTurns.setL hB hN hS (Chg.refl _ _) hA (fun k hk => .inl (by rw [hS]; simp [← hf, hk]))
  have hfa : foot (.slice A 1 c) = foot (.slice A n c) := by cases A <;> rfl
  have hrA : r ∉ foot (.slice A n c) := hR.ty hB (by decide)
  have hrs : r ∉ foot s := hs.ty hB (by decide)
  obtain ⟨S2, t1, t2, t3⟩ := hT
  refine ⟨(hR.first (k := 1) (by omega)).same fun k hk => Below.heap_setCell _ _ _ _ (fun e => hrA (by have : k = r := e; rw [← this, ← hfa]; exact hk)), hs.same fun k hk => Below.heap_setCell _ _ _ _ (fun e => hrs (by have : k = r := e; rw [← this]; exact hk)), fun k hk => hS1 k (by rw [hS]; rw [hfa] at hk; simp [hk]), hsf, S2, t1, fun k hk => ?_, hc.trans t3 (fun k hk => .inl hk)⟩
  rcases t2 k hk with h9 | h9
  · exact hS1 k h9
  · have := hc.size; exact .inr (by omega)
set_option maxHeartbeats 1600000 in
theorem rtake_none (h : RefAt w r S M L none) (bb : Bool) :
    Calls Try.prog 34 #[.pointer (some ⟨r, 0, none⟩), .bool bb] w fun e w' => ∃ v s, e = .returned (.tuple #[v, .bool false, s]) ∧ RTook r S M v s (L.take 1) [] L.tail none w w' := by
  obtain ⟨VL, VN, hB, hR, hN, hS⟩ := id h
  obtain ⟨A, c, rfl, hlc, hcm, hAn, _⟩ := hR.open_
  obtain ⟨A2, c2, rfl, _⟩ := hN.open_
  have k0 := hB.cell 0
  have k2 := hB.cell 2
  have f0 := hB.frozen 0
  obtain ⟨n, hn⟩ : ∃ n, n = L.length := ⟨_, rfl⟩
  rw [← hn] at k0 hB hR hS hlc
  have hSl := h.lt
  simp only [Option.toList_none, List.length_nil] at k2
  rcases Nat.eq_zero_or_pos n with h0 | h0
  · subst h0
    have hL : L = [] := List.eq_nil_of_length_eq_zero hn.symm
    subst hL
    have HH := Lib.hid h
    clear hB hR hN hS h hlc hcm hAn hSl hn
    cases bb with
    | true =>
      go_enter Try.func34, Try.ntmps34
      go_wp2
      go_ret3
      exact ⟨_, _, rfl, Rd.nil _, Rd.nil _, (fun k hk => by cases hk), (fun k hk => by cases hk), RTurns.refl HH.out (Chg.refl _ _)⟩
    | false =>
      go_enter Try.func34, Try.ntmps34
      go_wp2
      go_ret3
      exact ⟨_, _, rfl, Rd.nil _, Rd.nil _, (fun k hk => by cases hk), (fun k hk => by cases hk), RTurns.refl HH.out (Chg.refl _ _)⟩
  · obtain ⟨A', hsl, hA', hfA⟩ := rest_one hR h0
    have HF := Lib.hid (RefAt.take_first (S := S) (w := w) hB hR hN hS (fun k hk => .inl hk) (Chg.refl _ _) (Rd.nil w) (fun k hk => by cases hk) h0 hA' hfA)
    have hz : ((n : Int) == 0) = false := by simp; omega
    have i1 : (1 : Int) ≤ (c : Int) := by omega
    have hc63 : c ≤ 9223372036854775807 := by unfold maxLen at hcm; exact hcm
    clear hB hR hN hS h hlc hcm hAn hSl hn hA' hfA
    cases bb with
    | true =>
      go_enter Try.func34, Try.ntmps34
      go_wp2
      go_ret3
      exact ⟨_, _, rfl, HF.out⟩
    | false =>
      go_enter Try.func34, Try.ntmps34
      go_wp2
      go_ret3
      exact ⟨_, _, rfl, HF.out⟩
theorem putL_pos (M : Nat) (L : List Int) (x : Int) (h2 : 2 ≤ M) (hm : L.length ≤ M) : 0 < (putL M L x).length := by
  unfold putL
  split
  · simp
  · rw [List.length_drop]; unfold halfN; omega
set_option maxHeartbeats 3200000 in
theorem rtake_some {y : Int} (h : RefAt w r S M L (some y)) (hm : L.length ≤ M) (h2 : 2 ≤ M) (hl : M ≤ 4096) :
    Calls Try.prog 34 #[.pointer (some ⟨r, 0, none⟩), .bool false] w fun e w' => ∃ v s, e = .returned (.tuple #[v, .bool false, s]) ∧ RTook r S M v s ((putL M L y).take 1) (putS M L y) (putL M L y).tail none w w' := by
  obtain ⟨VL, VN, hB, hR, hN, hS⟩ := id h
  obtain ⟨A, c, rfl, _⟩ := hR.open_
  obtain ⟨A2, c2, rfl, _, _, _, ho⟩ := hN.open_
  have k2 := hB.cell 2
  have f2 := hB.frozen 2
  have T1 := Lib.hid (RTurns.setN (V := .slice none 0 0) (N' := none) hB hR hS (Chg.refl _ _) (Rd.nil _) (fun k hk => by cases hk))
  obtain ⟨b, o, rfl, hb, hc⟩ := ho 0 y rfl
  rw [Nat.add_zero] at hc
  have hbr : b ≠ r := fun e => (hN.ty hB (by decide)) (by simp [foot_some, e])
  have hce : (w.setCell ⟨r, 2, none⟩ (.slice none 0 0)).cell? ⟨b, o, none⟩ = some (.int .i64 y) := by
    obtain ⟨_, _, _, hc9⟩ := T1.out
    exact (hc9.cell (p := ⟨b, o, none⟩) hb (by simpa using hbr)).trans hc
  have HH := Lib.hid h
  obtain ⟨S1, r1, r2, r3⟩ := T1.out
  have hput := rput_any r1 y hm h2 hl
  have hpos := putL_pos M L y h2 hm
  obtain ⟨K, hK⟩ : ∃ K, K = putL M L y := ⟨_, rfl⟩
  rw [← hK] at hput hpos ⊢
  obtain ⟨n, hn⟩ : ∃ n, n = K.length := ⟨_, rfl⟩
  have HN := Lib.hid hn
  rw [← hn] at hpos
  have R2 := Lib.hid r2
  have R3 := Lib.hid r3
  have HSZ := Lib.hid r3.size
  clear hB hR hN hS ho h hb r1 r2 r3 hK hn hm h2 hl
  simp only [Option.toList_some, List.length_cons, List.length_nil] at k2
  have hz : ((n : Int) == 0) = false := by simp; omega
  go_enter Try.func34, Try.ntmps34
  go_wp2_with (go_at_call 32; refine hput.mono ?_; rintro e w2 ⟨s, rfl, hT⟩; obtain ⟨t1, t2, S2, t3, t4, t5⟩ := hT; obtain ⟨VL', VN', hB2, hR2, hN2, hS2⟩ := t3; obtain ⟨A3, c3, rfl, hlc3, hcm3, _, _⟩ := hR2.open_; rw [← HN.out] at hB2 hR2 hS2 hlc3; obtain ⟨A', hsl, hA', hfA⟩ := rest_one hR2 hpos; have k0 := hB2.cell 0; have f0 := hB2.frozen 0; have i1 : (1 : Int) ≤ (c3 : Int) := (by omega); have hc63 : c3 ≤ 9223372036854775807 := (by unfold maxLen at hcm3; exact hcm3); have hin : (∀ k, (k ∈ S1 ∨ (w.setCell ⟨r, 2, none⟩ (.slice none 0 0)).heap.size ≤ k) → k ∈ S ∨ w.heap.size ≤ k) := (fun k hk => hk.elim (R2.out k) (fun h9 => .inr (Nat.le_trans HSZ.out h9))); have HF := Lib.hid (RefAt.take_first (S := S) (w := w) hB2 hR2 hN2 hS2 (fun k hk => hin k (t4 k hk)) (R3.out.trans t5 (fun k hk => .inl hk)) t1 (fun k hk => hin k (t2 k hk)) hpos hA' hfA); clear t1 t2 t4 t5 hB2 hR2 hN2 hS2 hA' hfA hlc3 hcm3 hin)
  go_ret3
  exact ⟨_, _, rfl, HF.out⟩
end
end Go.Proofs
