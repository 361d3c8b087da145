import Derived.Test.YtocdkomjdcccoaaReN
namespace Go.Proofs
open Go.RowKit
set_option linter.unusedVariables false

theorem thereL_fine {l : List Rf} (h : fineP l = true) (now : Int) : thereL l now = l.take (dueN l now) := by
  have h1 : thereL (l.take (dueN l now)) now = l.take (dueN l now) := by
    unfold thereL
    rw [List.filter_eq_self]
    intro x hx
    obtain ⟨j, hj, hje⟩ := List.mem_iff_getElem.1 hx
    rw [List.length_take] at hj
    rw [List.getElem_take] at hje
    have := (due_split (now := now) h (List.getElem?_eq_getElem (by omega : j < l.length))).2 (by omega)
    rw [hje] at this
    simpa using this
  have h2 : thereL (l.drop (dueN l now)) now = [] := by
    unfold thereL
    rw [List.filter_eq_nil_iff]
    intro x hx
    obtain ⟨j, hj, hje⟩ := List.mem_iff_getElem.1 hx
    rw [List.length_drop] at hj
    rw [List.getElem_drop] at hje
    intro hc
    have := (due_split (now := now) h (List.getElem?_eq_getElem (by omega : dueN l now + j < l.length))).1 (by rw [hje]; simpa using hc)
    omega
  have h3 : thereL l now = thereL (l.take (dueN l now)) now ++ thereL (l.drop (dueN l now)) now := by unfold thereL; rw [← List.filter_append, List.take_append_drop]
  rw [h3, h1, h2, List.append_nil]
theorem thereP_fine {l : List Rf} (hk : Ok l) (h : mayP l = true) (now : Int) : thereP l now = sumP (l.take (dueN l now)) := by
  obtain ⟨h1, h2⟩ := mayP_iff.1 h
  unfold thereP
  rw [thereL_fine h2]
  have := sumP_le hk (dueN l now)
  rw [(sum_all (l := l.take (dueN l now)) (by omega)).1]
  rfl
/-- The list Due, where something is there. -/
theorem due_form {l : List Rf} (hk : Ok l) (h : mayP l = true) {now : Int} (ht : 1 ≤ thereP l now) : dueL l now = (thereP l now, aheadP l (dueN l now)) :: l.drop (dueN l now) ∧ 0 < dueN l now := by
  rw [thereP_fine hk h] at ht ⊢
  have h0 : dueN l now ≠ 0 := fun e => by rw [e] at ht; simp [sumP] at ht
  refine ⟨?_, by omega⟩
  unfold dueL
  rw [if_neg h0]
def decP : List Rf → Int → List Rf
  | [], _ => []
  | (a, t) :: r, m => if a = m then r else (a - m, t) :: r
theorem decP_cons (a t : Int) (r : List Rf) (m : Int) : decP ((a, t) :: r) m = if a = m then r else (a - m, t) :: r := rfl
def pullP (l : List Rf) (now m : Int) : List Rf × Int :=
  if mayP l = false ∨ m = 0 then ([], 2) else if thereP l now < m then ([], 15) else (decP (dueL l now) m, 0)
theorem Mine.rest {w0 w : World} {b o m c : Nat} {x : Rf} {r : List Rf} (h : Mine w0 w (.slice (some ⟨b, o, none⟩) m c) (x :: r)) (hc : 1 < c) : Mine w0 w (.slice (some ⟨b, o + 2, none⟩) (m - 1) (c - 1)) r := by
  have hm : m = (x :: r).length := by obtain ⟨A', c', hv, _⟩ := h.1.open_; injection hv
  have := h.1.rest (i := 1) (by simp at hm; omega)
  exact ⟨by simpa using this, h.2⟩
theorem Mine.rest0 {w0 w : World} {b o m c : Nat} {x : Rf} {r : List Rf} (h : Mine w0 w (.slice (some ⟨b, o, none⟩) m c) (x :: r)) (hc : ¬ 1 < c) : m - 1 = 0 ∧ r = [] ∧ c = 1 ∧ Mine w0 w (.slice (some ⟨b, o, none⟩) 0 0) r := by
  obtain ⟨A', c', hv, hle, _⟩ := h.1.open_
  simp only [Value.slice.injEq] at hv
  obtain ⟨rfl, rfl, rfl⟩ := hv
  have hr : r = [] := List.eq_nil_of_length_eq_zero (by simp at hle; omega)
  subst hr
  exact ⟨rfl, rfl, by simp at hle; omega, h.1.none_, h.2⟩
set_option maxHeartbeats 6400000 in
set_option maxRecDepth 100000 in
theorem pull_any {w : World} {v : Value} {l : List Rf} (h : Rd w v l) (hk : Ok l) (hn : l.length ≤ 100000) (now : Int) (m : Int) (hm : U64 m) :
    Calls Try.prog 45 #[v, .int .u64 now, .int .u64 m] w fun e w' => ∃ v', e = .returned (.tuple #[v', .int .i64 (pullP l now m).2]) ∧ Mine w w' v' (pullP l now m).1 := by
  have hmy := may_any h hk hn
  have HTH := Lib.hid (fun W (hW : Chg [] w W) => there_any (h.quiet hW) hk hn now)
  have HDU := Lib.hid (fun W (hW : Chg [] w W) => due_any (h.quiet hW) hk hn now)
  obtain ⟨A, c, rfl, _⟩ := h.open_
  obtain ⟨n, e1⟩ : ∃ n, n = l.length := ⟨_, rfl⟩
  rw [← e1] at hmy HTH HDU ⊢
  cases hmp : mayP l with
  | false =>
    rw [hmp] at hmy
    have HE := Lib.hid (show pullP l now m = ([], 2) by unfold pullP; rw [if_pos (.inl hmp)])
    clear h hk hn e1 hmp hm
    go_enter Try.func45, Try.ntmps45
    go_wp2_with (go_at_call 54; refine hmy.mono ?_; rintro e w1 ⟨rfl, h1⟩; have H1 := Lib.hid h1; clear h1)
    go_ret2
    exact ⟨_, by rw [HE.out]; rfl, by rw [HE.out]; exact Mine.nil H1.out⟩
  | true =>
    rw [hmp] at hmy HDU
    by_cases hm0 : m = 0
    · have HE := Lib.hid (show pullP l now m = ([], 2) by unfold pullP; rw [if_pos (.inr hm0)])
      have g0 : (m == 0) = true := by simpa using hm0
      clear h hk hn e1 hmp hm hm0
      go_enter Try.func45, Try.ntmps45
      go_wp2_with (go_at_call 54; refine hmy.mono ?_; rintro e w1 ⟨rfl, h1⟩; have H1 := Lib.hid h1; clear h1)
      go_ret2
      exact ⟨_, by rw [HE.out]; rfl, by rw [HE.out]; exact Mine.nil H1.out⟩
    · have g0 : (m == 0) = false := by simpa using hm0
      by_cases hlt : thereP l now < m
      · have HE := Lib.hid (show pullP l now m = ([], 15) by unfold pullP; rw [if_neg (by rw [hmp]; simpa using hm0), if_pos hlt])
        obtain ⟨T, hT⟩ : ∃ T, T = thereP l now := ⟨_, rfl⟩
        rw [← hT] at HTH hlt
        have g1 : decide (T < m) = true := by simpa using hlt
        clear h hk hn e1 hmp hm hm0 hT hlt
        go_enter Try.func45, Try.ntmps45
        go_wp2_with (first
          | (go_at_call 54; refine hmy.mono ?_; rintro e w1 ⟨rfl, h1⟩; have H1 := Lib.hid h1; clear h1)
          | (go_at_call 21; refine (HTH.out _ H1.out).mono ?_; rintro e w2 ⟨rfl, h1⟩; have H2 := Lib.hid (H1.out.then h1); clear h1))
        go_ret2
        exact ⟨_, by rw [HE.out]; rfl, by rw [HE.out]; exact Mine.nil H2.out⟩
      · have hE : pullP l now m = (decP (dueL l now) m, 0) := by unfold pullP; rw [if_neg (by rw [hmp]; simpa using hm0), if_neg hlt]
        have hm1 : 1 ≤ m := by have := hm.1; omega
        obtain ⟨hdf, _⟩ := due_form hk hmp (now := now) (by omega)
        have hdo := (hk.due hmp now)
        rw [hdf] at hdo
        have hT2 := hdo.head.1
        obtain ⟨T, hT⟩ : ∃ T, T = thereP l now := ⟨_, rfl⟩
        obtain ⟨t, ht⟩ : ∃ t, t = aheadP l (dueN l now) := ⟨_, rfl⟩
        obtain ⟨r, hr⟩ : ∃ r, r = l.drop (dueN l now) := ⟨_, rfl⟩
        rw [← hT] at HTH hlt hT2
        rw [← hT, ← ht, ← hr] at hdf
        rw [hdf] at HDU hE
        simp only [if_true] at HDU
        obtain ⟨hT0, hT1⟩ := hT2
        simp only at hT0 hT1
        have g1 : decide (T < m) = false := by simpa using hlt
        have g2 : IntKind.u64.wrap (T - m) = T - m := by rw [IntKind.wrap_u64]; omega
        by_cases hTm : T = m
        · have HE := Lib.hid (show pullP l now m = (r, 0) by rw [hE, decP_cons, if_pos hTm])
          have g3 : (T - m == 0) = true := by simp; omega
          clear h hk hn e1 hmp hm hm0 hT ht hr hlt hdf hdo hE hm1 hT0 hT1 hTm
          have HR := Lib.hid (show ∀ (W : World) (g N cap : Nat), Mine w W (.slice (some ⟨g, 0, none⟩) N cap) ((T, t) :: r) → Mine w (W.setCell ⟨g, 0, none⟩ (.int .u64 (T - m))) (.slice (some ⟨g, 0, none⟩) N cap) ((T - m, t) :: r) from fun W g N cap hM => by
            have := hM.set1 (k := 0) (x := (T, t)) rfl (T - m)
            simpa using this)
          go_enter Try.func45, Try.ntmps45
          go_wp2_with (first
            | (go_at_call 54; refine hmy.mono ?_; rintro e w1 ⟨rfl, h1⟩; have H1 := Lib.hid h1; clear h1)
            | (go_at_call 21; refine (HTH.out _ H1.out).mono ?_; rintro e w2 ⟨rfl, h1⟩; have H2 := Lib.hid (H1.out.then h1); clear h1)
            | (go_at_call 55; refine (HDU.out _ H2.out).mono ?_; rintro e w3 ⟨v3, rfl, h1⟩; obtain ⟨g, cap, rfl, _, hcap, lg, y0, y1, hfz⟩ := h1.1.head; have f0 := hfz 0; have H3 := Lib.hid (h1.before H2.out).mine; clear h1 hfz; obtain ⟨N, hN⟩ : ∃ N, N = r.length + 1 := ⟨_, rfl⟩; rw [← hN] at hcap H3 ⊢; have q1 : (1 : Int) ≤ (N : Int) := (by omega); have q0 : (0 : Int) < (N : Int) := (by omega); have q2 : (1 : Int) ≤ (cap : Int) := (by omega); clear hN))
          · have H4 := Lib.hid ((HR.out _ _ _ _ H3.out).rest0 (by omega))
            go_ret2
            obtain ⟨z1, z2, z3, z4⟩ := H4.out
            exact ⟨_, by rw [HE.out]; rfl, by rw [HE.out]; have : N - 1 = 0 := z1; simpa [this] using z4⟩
          · have H4 := Lib.hid ((HR.out _ _ _ _ H3.out).rest (by omega))
            go_ret2
            exact ⟨_, by rw [HE.out]; rfl, by rw [HE.out]; simpa using H4.out⟩
        · have HE := Lib.hid (show pullP l now m = ((T - m, t) :: r, 0) by rw [hE, decP_cons, if_neg hTm])
          have g3 : (T - m == 0) = false := by simp; omega
          clear h hk hn e1 hmp hm hm0 hT ht hr hlt hdf hdo hE hm1 hT0 hT1 hTm
          have HR := Lib.hid (show ∀ (W : World) (g N cap : Nat), Mine w W (.slice (some ⟨g, 0, none⟩) N cap) ((T, t) :: r) → Mine w (W.setCell ⟨g, 0, none⟩ (.int .u64 (T - m))) (.slice (some ⟨g, 0, none⟩) N cap) ((T - m, t) :: r) from fun W g N cap hM => by
            have := hM.set1 (k := 0) (x := (T, t)) rfl (T - m)
            simpa using this)
          go_enter Try.func45, Try.ntmps45
          go_wp2_with (first
            | (go_at_call 54; refine hmy.mono ?_; rintro e w1 ⟨rfl, h1⟩; have H1 := Lib.hid h1; clear h1)
            | (go_at_call 21; refine (HTH.out _ H1.out).mono ?_; rintro e w2 ⟨rfl, h1⟩; have H2 := Lib.hid (H1.out.then h1); clear h1)
            | (go_at_call 55; refine (HDU.out _ H2.out).mono ?_; rintro e w3 ⟨v3, rfl, h1⟩; obtain ⟨g, cap, rfl, _, hcap, lg, y0, y1, hfz⟩ := h1.1.head; have f0 := hfz 0; have H3 := Lib.hid (h1.before H2.out).mine; clear h1 hfz; obtain ⟨N, hN⟩ : ∃ N, N = r.length + 1 := ⟨_, rfl⟩; rw [← hN] at hcap H3 ⊢; have q1 : (1 : Int) ≤ (N : Int) := (by omega); have q0 : (0 : Int) < (N : Int) := (by omega); clear hN))
          go_ret2
          exact ⟨_, by rw [HE.out]; rfl, by rw [HE.out]; exact HR.out _ _ _ _ H3.out⟩
end Go.Proofs
