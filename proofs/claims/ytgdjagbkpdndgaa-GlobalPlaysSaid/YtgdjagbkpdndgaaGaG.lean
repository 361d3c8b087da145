import Derived.Test.YtgdjagbkpdndgaaGaF
namespace Go.Proofs
open Go.RowKit
set_option linter.unusedVariables false

theorem new_any (w : World) : Calls Try.prog 10 #[] w fun e w' => e = .returned (.pointer (some ⟨w.heap.size, 0, none⟩)) ∧ w' = w.alloc (.cells #[.pointer none, .pointer none, .int .i64 0] 51) := by
  go_enter Try.func10, Try.ntmps10
  go_wp2
  go_ret
  exact ⟨rfl, rfl⟩
section
variable {w : World} {q : Nat} {N : List (Nat × Int)}
theorem len_any (H : QAt w q N) : Calls Try.prog 21 #[.pointer (some ⟨q, 0, none⟩)] w fun e w' => e = .returned (.int .i64 (N.length : Nat)) ∧ w = w' := by
  have c2 := H.queue.cell 2
  simp only [List.getElem?_toArray, List.getElem?_cons_succ, List.getElem?_cons_zero] at c2
  clear H
  go_enter Try.func21, Try.ntmps21
  go_wp2
  go_ret
  exact ⟨rfl, rfl⟩
theorem len_nil (w : World) : Calls Try.prog 21 #[.pointer none] w fun e w' => e = .returned (.int .i64 0) ∧ w = w' := by
  go_enter Try.func21, Try.ntmps21
  go_wp2
  go_ret
  exact ⟨rfl, rfl⟩
/-- A node that points at the last one joins. -/
theorem join_any {b : Nat} {x : Int} (H : QAt w q N) (hl : N.length ≤ 1000000) (hb : Blk w b 63 #[.int .i64 x, ptrV (nb N (N.length - 1)), .pointer none]) (hnew : b ∉ bl N) :
    Calls Try.prog 36 #[.pointer (some ⟨q, 0, none⟩), .pointer (some ⟨b, 0, none⟩)] w fun e w' => e = .returned (.tuple #[]) ∧ QAt w' q (N ++ [(b, x)]) ∧ Chg (q :: bl N) w w' ∧ b ≠ q := by
  have hqb : b ≠ q := Blk.ty hb H.queue (by decide) 
  have hqb := hqb
  rcases Nat.eq_zero_or_pos N.length with h0 | h0
  · have hN : N = [] := List.eq_nil_of_length_eq_zero h0
    subst hN
    have hq0 : Blk w q 51 #[.pointer none, .pointer none, .int .i64 0] := H.queue
    have hb0 : Blk w b 63 #[.int .i64 x, .pointer none, .pointer none] := hb
    have b1 := hb0.cell 1
    have q0 := hq0.cell 0
    have q1 := hq0.cell 1
    have q2 := hq0.cell 2
    have f0 := hq0.frozen 0
    have f1 := hq0.frozen 1
    have f2 := hq0.frozen 2
    have HH := Lib.hid H
    have HQ := Lib.hid hq0
    have HB := Lib.hid hb0
    clear H hb hb0 hq0
    go_enter Try.func36, Try.ntmps36
    go_wp2
    go_end0
    refine ⟨rfl, HH.out.joined (b := b) (x := x) (by simp [bl]) ?_ (fun k c y hk => by simp at hk) ?_, ?_, hqb⟩
    · have := ((HQ.out.set_ 0 (.pointer (some ⟨b, 0, none⟩))).set_ 1 (.pointer (some ⟨b, 0, none⟩))).set_ 2 (.int .i64 1)
      simpa [nb, ptrV] using this
    · exact ((HB.out.far (p := ⟨q, 0, none⟩) hqb _).far (p := ⟨q, 1, none⟩) hqb _).far (p := ⟨q, 2, none⟩) hqb _
    · exact (((Chg.refl _ _).setCell (p := ⟨q, 0, none⟩) (.inl (by simp)) _).setCell (p := ⟨q, 1, none⟩) (.inl (by simp)) _).setCell (p := ⟨q, 2, none⟩) (.inl (by simp)) _
  · obtain ⟨⟨c, y⟩, hc⟩ : ∃ p, N[N.length - 1]? = some p := ⟨_, List.getElem?_eq_getElem (by omega)⟩
    have e1 := nb_at hc
    simp only at e1
    have hq0 := H.queue
    have hc0 := H.node _ _ _ hc
    unfold nodeV at hc0
    rw [e1] at hb hq0
    rw [show N.length - 1 + 1 = N.length by omega, nb_none (Nat.le_refl _)] at hc0
    have hqc : c ≠ q := Blk.ty hc0 H.queue (by decide)
    have hcb : c ≠ b := fun e => hnew (e ▸ nb_mem e1)
    have b1 := hb.cell 1
    have q1 := hq0.cell 1
    have q2 := hq0.cell 2
    have f1 := hq0.frozen 1
    have f2 := hq0.frozen 2
    have d2 := hc0.cell 2
    have g2 := hc0.frozen 2
    obtain ⟨m, hm⟩ : ∃ m, m = N.length := ⟨_, rfl⟩
    simp only [List.getElem?_toArray, List.getElem?_cons_succ, List.getElem?_cons_zero, ptrV_some, ptrV_none, ← hm] at b1 q1 q2 d2
    have HH := Lib.hid H
    have HQ := Lib.hid hq0
    have HB := Lib.hid hb
    have HC := Lib.hid hc
    have HD := Lib.hid hc0
    have HE := Lib.hid e1
    have HM := Lib.hid hm
    have HNE := Lib.hid hnew
    rw [← hm] at hl h0
    clear H hb hc0 hq0 hc e1 hm hnew
    go_enter Try.func36, Try.ntmps36
    go_wp2
    go_end0
    refine ⟨rfl, HH.out.joined (b := b) (x := x) HNE.out ?_ (fun k c' y' hk => ?_) ?_, ?_, hqb⟩
    · have := (((HQ.out.far (p := ⟨c, 2, none⟩) (Ne.symm hqc) (.pointer (some ⟨b, 0, none⟩))).set_ 1 (.pointer (some ⟨b, 0, none⟩))).set_ 2 (.int .i64 ((m : Int) + 1)))
      have e0 : nb (N ++ [(b, x)]) 0 = nb N 0 := by unfold nb; rw [List.getElem?_append_left (by rw [← HM.out]; exact h0)]
      rw [e0, ← HM.out]
      simpa [ptrV] using this
    · have h1 := HH.out.node k c' y' hk
      have hkl := (List.getElem?_eq_some_iff.1 hk).1
      have hqc' : c' ≠ q := Blk.ty h1 HH.out.queue (by decide)
      by_cases hkm : k + 1 = N.length
      · obtain rfl : k = N.length - 1 := by omega
        rw [HC.out] at hk
        simp only [Option.some.injEq, Prod.mk.injEq] at hk
        obtain ⟨rfl, rfl⟩ := hk
        rw [if_pos hkm]
        have := ((HD.out.set_ 2 (.pointer (some ⟨b, 0, none⟩))).far (p := ⟨q, 1, none⟩) hqc' (.pointer (some ⟨b, 0, none⟩))).far (p := ⟨q, 2, none⟩) hqc' (.int .i64 ((m : Int) + 1))
        simpa [ptrV] using this
      · rw [if_neg hkm]
        have hne : c' ≠ c := fun e => by have := at_one HH.out.nodup hk HC.out e; omega
        exact ((h1.far (p := ⟨c, 2, none⟩) hne _).far (p := ⟨q, 1, none⟩) hqc' _).far (p := ⟨q, 2, none⟩) hqc' _
    · rw [HE.out]
      exact ((HB.out.far (p := ⟨c, 2, none⟩) (Ne.symm hcb) _).far (p := ⟨q, 1, none⟩) hqb _).far (p := ⟨q, 2, none⟩) hqb _
    · exact (((Chg.refl _ _).setCell (p := ⟨c, 2, none⟩) (.inl (List.mem_cons_of_mem _ (nb_mem HE.out))) _).setCell (p := ⟨q, 1, none⟩) (.inl (by simp)) _).setCell (p := ⟨q, 2, none⟩) (.inl (by simp)) _
end
end Go.Proofs
