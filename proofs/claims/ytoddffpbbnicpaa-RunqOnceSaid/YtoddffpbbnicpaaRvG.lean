import Derived.Test.YtoddffpbbnicpaaRvF
namespace Go.Proofs
open Go.RowKit
set_option linter.unusedVariables false

section
variable {w : World} {q g h r M : Nat} {S : List Nat} {L : List Int} {N : Option Int}

set_option maxRecDepth 100000 in
set_option maxHeartbeats 6400000 in
theorem same_none (H : Two w q g h r S M L none) :
    Calls Try.prog 13 #[.pointer (some ⟨q, 0, none⟩), .pointer (some ⟨r, 0, none⟩)] w fun e w' => e = .returned (.bool true) ∧ Chg [] w w' := by
  obtain ⟨hs1, hs2, hs3, hs4⟩ := H.small
  have hall := fun W (hW : Chg [] w W) => qall_any (H.queue.quiet hW)
  have hrall := fun W (hW : Chg [] w W) => rall_any (H.ref.quiet hW) (by omega)
  have hnext := fun W (hW : Chg [] w W) => qnext_any (H.queue.quiet hW)
  have hlen := fun W (hW : Chg [] w W) => qlen_any (H.queue.quiet hW)
  simp only [Option.getD_none, Option.isSome_none] at hnext
  obtain ⟨VL, VN, hB, hR, hN, hS⟩ := H.ref
  obtain ⟨A2, c2, rfl, _, _, _, ho⟩ := hN.open_
  have k2 := hB.cell 2
  have lr := hB.lt
  simp only [List.getElem?_toArray, List.getElem?_cons_succ, List.getElem?_cons_zero, Option.toList_none, List.length_nil] at k2
  have HK := Lib.hid (fun W (hW : Chg [] w W) => (hW.cell (p := ⟨r, 2, none⟩) lr (by simp)).trans k2)
  have hal : (allQ L none).length ≤ 8192 := by unfold allQ; simp; omega
  obtain ⟨X, hX⟩ : ∃ X, X = allQ L none := ⟨_, rfl⟩
  rw [← hX] at hall hrall hlen hal
  obtain ⟨m, hm⟩ : ∃ m, m = X.length := ⟨_, rfl⟩
  rw [← hm] at hlen hal
  have HM := Lib.hid hm
  have hmm : ((m : Int) != (m : Int)) = false := by simp
  have hsm := fun W v1 v2 (h1 : Rd W v1 X) (h2 : Rd W v2 X) => rsame_any h1 h2 (hm ▸ hal) (hm ▸ hal)
  simp only [beq_self_eq_true] at hsm
  clear H hB hR hN hS hX hm hs1 hs2 hs3 hs4 k2 lr ho
  go_enter Try.func13, Try.ntmps13
  go_wp2_with (first
    | (go_at_call 24; refine (hall _ (Chg.refl _ _)).mono ?_; rintro e w1 ⟨v, rfl, hf⟩; obtain ⟨A1, c1, rfl, _⟩ := hf.1.val; rw [← HM.out] at hf ⊢; have HF := Lib.hid hf; clear hf)
    | (go_at_call 36; refine (hnext _ HF.out.2.2).mono ?_; rintro e w' ⟨rfl, kq, rfl⟩; have e2 := HK.out _ (HF.out.2.2.drewN kq))
    | (go_at_call 20; refine (hlen _ (HF.out.2.2.drewN kq)).mono ?_; rintro e w' ⟨rfl, rfl⟩)
    | (go_at_call 25; refine (hrall _ (HF.out.2.2.drewN kq)).mono ?_; rintro e w2 ⟨v2, rfl, hf⟩; have HF2 := Lib.hid hf; clear hf)
    | (go_at_call 23; refine (hsm _ _ _ (HF.out.rd.quiet (((Chg.refl _ _).drewN kq).then HF2.out.2.2)) HF2.out.rd).mono ?_; rintro e w3 ⟨rfl, hc⟩; have HC := Lib.hid hc; clear hc))
  have hcc : Chg [] w1 w3 := (((Chg.refl _ _).drewN kq).then HF2.out.2.2).then HC.out
  have hscr := Scr.start (HF.out.1.chg hcc (fun _ _ h => by cases h))
  rw [← HM.out] at hscr
  have HS := Lib.hid hscr
  have HCC := Lib.hid hcc
  clear hscr hcc e2
  go_loopw [8] (fun i wr => ∃ k : Nat, k ≤ m ∧ i = .int .i64 k ∧ Hid (Scr w3 wr (.slice A1 m c1) m)) (fun i _ => m - (intOf i).toNat)
  case atStart => exact ⟨0, Nat.zero_le _, rfl, HS⟩
  case round =>
    obtain ⟨k, hk, rfl, hs⟩ := hrel
    by_cases hlt : k < m
    · obtain ⟨gg, cap, x, hv, q0, q1⟩ := hs.out.form hlt
      simp only [Value.slice.injEq] at hv
      obtain ⟨rfl, _, rfl⟩ := hv
      have HN := Lib.hid (fun y => hs.out.step hlt y)
      have i0 : (0 : Int) ≤ (k : Int) := by omega
      have i1 : (k : Int) < (m : Int) := by omega
      clear hs
      go_wp2
      go_roundw
      case rel => exact ⟨k + 1, by omega, by go_num, Lib.hid (HN.out _)⟩
      case measure => simp [intOf]; omega
    · obtain rfl : k = m := by omega
      obtain ⟨vs, _, _, hcs⟩ := hs.out
      have hW : Chg [] w wr := (HF.out.2.2.then HCC.out).trans hcs (fun k hk => .inr (HF.out.2.1 k hk))
      have HW := Lib.hid hW
      clear hs hcs hW
      go_wp2_with (first
        | (go_at_call 24; refine (hall _ HW.out).mono ?_; rintro e w5 ⟨v5, rfl, hf⟩; have HF5 := Lib.hid hf; clear hf)
        | (go_at_call 25; refine (hrall _ (HW.out.then HF5.out.2.2)).mono ?_; rintro e w6 ⟨v6, rfl, hf⟩; have HF6 := Lib.hid hf; clear hf)
        | (go_at_call 23; refine (hsm _ _ _ (HF5.out.rd.quiet HF6.out.2.2) HF6.out.rd).mono ?_; rintro e w7 ⟨rfl, hc⟩; have HC7 := Lib.hid hc; clear hc))
      go_ret
      exact ⟨rfl, ((HW.out.then HF5.out.2.2).then HF6.out.2.2).then HC7.out⟩

set_option maxRecDepth 100000 in
set_option maxHeartbeats 6400000 in
theorem same_some {y : Int} (H : Two w q g h r S M L (some y)) :
    Calls Try.prog 13 #[.pointer (some ⟨q, 0, none⟩), .pointer (some ⟨r, 0, none⟩)] w fun e w' => e = .returned (.bool true) ∧ Chg [] w w' := by
  obtain ⟨hs1, hs2, hs3, hs4⟩ := H.small
  have hall := fun W (hW : Chg [] w W) => qall_any (H.queue.quiet hW)
  have hrall := fun W (hW : Chg [] w W) => rall_any (H.ref.quiet hW) (by omega)
  have hnext := fun W (hW : Chg [] w W) => qnext_any (H.queue.quiet hW)
  have hlen := fun W (hW : Chg [] w W) => qlen_any (H.queue.quiet hW)
  simp only [Option.getD_some, Option.isSome_some] at hnext
  obtain ⟨VL, VN, hB, hR, hN, hS⟩ := H.ref
  obtain ⟨A2, c2, rfl, _, _, _, ho⟩ := hN.open_
  have k2 := hB.cell 2
  have lr := hB.lt
  simp only [List.getElem?_toArray, List.getElem?_cons_succ, List.getElem?_cons_zero, Option.toList_some, List.length_cons, List.length_nil] at k2
  have HK := Lib.hid (fun W (hW : Chg [] w W) => (hW.cell (p := ⟨r, 2, none⟩) lr (by simp)).trans k2)
  obtain ⟨b, o, rfl, hbl, hcz⟩ := ho 0 y rfl
  rw [Nat.add_zero] at hcz
  have hyy : (y != y) = false := by simp
  have HZ := Lib.hid (fun W (hW : Chg [] w W) => (hW.cell (p := ⟨b, o, none⟩) hbl (by simp)).trans hcz)
  clear hbl hcz
  have hal : (allQ L (some y)).length ≤ 8192 := by unfold allQ; simp; omega
  obtain ⟨X, hX⟩ : ∃ X, X = allQ L (some y) := ⟨_, rfl⟩
  rw [← hX] at hall hrall hlen hal
  obtain ⟨m, hm⟩ : ∃ m, m = X.length := ⟨_, rfl⟩
  rw [← hm] at hlen hal
  have HM := Lib.hid hm
  have hmm : ((m : Int) != (m : Int)) = false := by simp
  have hsm := fun W v1 v2 (h1 : Rd W v1 X) (h2 : Rd W v2 X) => rsame_any h1 h2 (hm ▸ hal) (hm ▸ hal)
  simp only [beq_self_eq_true] at hsm
  clear H hB hR hN hS hX hm hs1 hs2 hs3 hs4 k2 lr ho
  go_enter Try.func13, Try.ntmps13
  go_wp2_with (first
    | (go_at_call 24; refine (hall _ (Chg.refl _ _)).mono ?_; rintro e w1 ⟨v, rfl, hf⟩; obtain ⟨A1, c1, rfl, _⟩ := hf.1.val; rw [← HM.out] at hf ⊢; have HF := Lib.hid hf; clear hf)
    | (go_at_call 36; refine (hnext _ HF.out.2.2).mono ?_; rintro e w' ⟨rfl, kq, rfl⟩; have e2 := HK.out _ (HF.out.2.2.drewN kq); have ez := HZ.out _ (HF.out.2.2.drewN kq))
    | (go_at_call 20; refine (hlen _ (HF.out.2.2.drewN kq)).mono ?_; rintro e w' ⟨rfl, rfl⟩)
    | (go_at_call 25; refine (hrall _ (HF.out.2.2.drewN kq)).mono ?_; rintro e w2 ⟨v2, rfl, hf⟩; have HF2 := Lib.hid hf; clear hf)
    | (go_at_call 23; refine (hsm _ _ _ (HF.out.rd.quiet (((Chg.refl _ _).drewN kq).then HF2.out.2.2)) HF2.out.rd).mono ?_; rintro e w3 ⟨rfl, hc⟩; have HC := Lib.hid hc; clear hc))
  have hcc : Chg [] w1 w3 := (((Chg.refl _ _).drewN kq).then HF2.out.2.2).then HC.out
  have hscr := Scr.start (HF.out.1.chg hcc (fun _ _ h => by cases h))
  rw [← HM.out] at hscr
  have HS := Lib.hid hscr
  have HCC := Lib.hid hcc
  clear hscr hcc e2
  go_loopw [8] (fun i wr => ∃ k : Nat, k ≤ m ∧ i = .int .i64 k ∧ Hid (Scr w3 wr (.slice A1 m c1) m)) (fun i _ => m - (intOf i).toNat)
  case atStart => exact ⟨0, Nat.zero_le _, rfl, HS⟩
  case round =>
    obtain ⟨k, hk, rfl, hs⟩ := hrel
    by_cases hlt : k < m
    · obtain ⟨gg, cap, x, hv, q0, q1⟩ := hs.out.form hlt
      simp only [Value.slice.injEq] at hv
      obtain ⟨rfl, _, rfl⟩ := hv
      have HN := Lib.hid (fun y => hs.out.step hlt y)
      have i0 : (0 : Int) ≤ (k : Int) := by omega
      have i1 : (k : Int) < (m : Int) := by omega
      clear hs
      go_wp2
      go_roundw
      case rel => exact ⟨k + 1, by omega, by go_num, Lib.hid (HN.out _)⟩
      case measure => simp [intOf]; omega
    · obtain rfl : k = m := by omega
      obtain ⟨vs, _, _, hcs⟩ := hs.out
      have hW : Chg [] w wr := (HF.out.2.2.then HCC.out).trans hcs (fun k hk => .inr (HF.out.2.1 k hk))
      have HW := Lib.hid hW
      clear hs hcs hW
      go_wp2_with (first
        | (go_at_call 24; refine (hall _ HW.out).mono ?_; rintro e w5 ⟨v5, rfl, hf⟩; have HF5 := Lib.hid hf; clear hf)
        | (go_at_call 25; refine (hrall _ (HW.out.then HF5.out.2.2)).mono ?_; rintro e w6 ⟨v6, rfl, hf⟩; have HF6 := Lib.hid hf; clear hf)
        | (go_at_call 23; refine (hsm _ _ _ (HF5.out.rd.quiet HF6.out.2.2) HF6.out.rd).mono ?_; rintro e w7 ⟨rfl, hc⟩; have HC7 := Lib.hid hc; clear hc))
      go_ret
      exact ⟨rfl, ((HW.out.then HF5.out.2.2).then HF6.out.2.2).then HC7.out⟩

theorem same_any (H : Two w q g h r S M L N) :
    Calls Try.prog 13 #[.pointer (some ⟨q, 0, none⟩), .pointer (some ⟨r, 0, none⟩)] w fun e w' => e = .returned (.bool true) ∧ Chg [] w w' := by
  cases N with
  | none => exact same_none H
  | some y => exact same_some H
end
end Go.Proofs
