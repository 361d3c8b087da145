import Derived.Test.YtfpljhjndjpdmaaRiN
namespace Go.Proofs
open Go.RowKit
set_option linter.unusedVariables false

theorem rremove_no {w : World} {g : Nat} {S : List Nat} {M : Int} {L : List Int} (h : RefAt w g S M L) (hl : L.length ≤ 8192) (x : Int) (hx : ¬ findAt x L < L.length) :
    Calls Try.prog 25 #[.pointer (some ⟨g, 0, none⟩), .int .i64 x] w fun e w' => e = .returned (.bool false) ∧ w = w' := by
  obtain ⟨VL, hB, hR, hS⟩ := h
  have HF := rfind_any hR hl x
  rw [show findI x L = -1 by unfold findI; rw [if_neg hx]] at HF
  obtain ⟨A, c, rfl, _⟩ := hR.open_
  have c0 := hB.cell 0
  clear hB hR hS hx
  go_enter Try.func25, Try.ntmps25
  go_wp2_with (go_at_call 26; refine HF.mono ?_; rintro e w' ⟨rfl, rfl⟩)
  go_ret
  exact ⟨rfl, rfl⟩
theorem rremove_yes {w : World} {g : Nat} {S : List Nat} {M : Int} {L : List Int} (h : RefAt w g S M L) (hl : L.length ≤ 8192) (x : Int) (hx : findAt x L < L.length) :
    Calls Try.prog 25 #[.pointer (some ⟨g, 0, none⟩), .int .i64 x] w fun e w' => e = .returned (.bool true) ∧ RTurns g S M (L.eraseIdx (findAt x L)) w w' := by
  obtain ⟨VL, hB, hR, hS⟩ := h
  have HF := rfind_any hR hl x
  rw [show findI x L = (findAt x L : Nat) by unfold findI; rw [if_pos hx]] at HF
  have HC := cut_any hR hl _ hx
  obtain ⟨i, hi⟩ : ∃ i, i = findAt x L := ⟨_, rfl⟩
  rw [← hi] at HF HC ⊢
  have hg : g ∈ S := by rw [hS]; simp
  obtain ⟨A, c, rfl, _⟩ := hR.open_
  have c0 := hB.cell 0
  have f0 := hB.frozen 0
  have lg := hB.lt
  have HB := Lib.hid hB
  have hi0 : ¬ ((i : Int) < 0) := by omega
  clear hB hR hS hx hi
  go_enter Try.func25, Try.ntmps25
  go_wp2_with (first
    | (go_at_call 26; refine HF.mono ?_; rintro e w' ⟨rfl, rfl⟩)
    | (go_at_call 33; refine HC.mono ?_; rintro e w1 ⟨v, rfl, hf⟩; obtain ⟨A1, c1, rfl, _⟩ := hf.1.val; have e2 := (hf.2.2.cell (p := ⟨g, 0, none⟩) lg (by simp)).trans c0; have e3 := (hf.2.2.frozen (p := ⟨g, 0, none⟩) lg (by simp)).trans f0; have HFF := Lib.hid hf; clear hf))
  go_ret
  exact ⟨rfl, RTurns.put HB.out hg HFF.out.2.2 (Rd.of_row HFF.out.1) (fun k hk => .inr (HFF.out.2.1 k hk))⟩
end Go.Proofs
