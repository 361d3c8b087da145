import Derived.Test.YtihodeaeacgdpaaReR
namespace Go.Proofs
open Go.RowKit
set_option linter.unusedVariables false

/-- What is there of the list Due is what was there. -/
theorem due_first {l : List Rf} (hm : mayP l = true) {now : Int} (h0 : 0 < dueN l now) : aheadP l (dueN l now) ≤ now := by
  have hle := dueN_le l now
  obtain ⟨x, hx⟩ : ∃ x, l[dueN l now - 1]? = some x := ⟨_, List.getElem?_eq_getElem (by omega)⟩
  have := aheadP_succ hx
  rw [show dueN l now - 1 + 1 = dueN l now by omega] at this
  rw [this]
  exact (due_split (mayP_iff.1 hm).2 hx).2 (by omega)
theorem late_rest {l : List Rf} (hf : fineP l = true) (now : Int) : ∀ x ∈ l.drop (dueN l now), now < x.2 := by
  intro x hx
  obtain ⟨j, hj, hje⟩ := List.mem_iff_getElem.1 hx
  rw [List.length_drop] at hj
  rw [List.getElem_drop] at hje
  refine Int.not_le.1 (fun hc => ?_)
  have := (due_split (now := now) hf (List.getElem?_eq_getElem (by omega : dueN l now + j < l.length))).1 (by rw [hje]; exact hc)
  omega
theorem thereL_late {l : List Rf} {now : Int} (h : ∀ x ∈ l, now < x.2) : thereL l now = [] := by
  unfold thereL
  rw [List.filter_eq_nil_iff]
  intro x hx hc
  have h1 := h x hx
  have h2 : x.2 ≤ now := by simpa using hc
  omega
theorem thereL_cons {x : Rf} {l : List Rf} {now : Int} (h : x.2 ≤ now) : thereL (x :: l) now = x :: thereL l now := by
  unfold thereL
  rw [List.filter_cons, if_pos (by simpa using h)]
theorem there_due {l : List Rf} (hk : Ok l) (hm : mayP l = true) (now : Int) : thereP (dueL l now) now = thereP l now := by
  by_cases h0 : dueN l now = 0
  · rw [show dueL l now = l by unfold dueL; rw [if_pos h0]]
  · obtain ⟨h1, h2⟩ := mayP_iff.1 hm
    have hle := sumP_le hk (dueN l now)
    rw [thereP_fine hk hm]
    have e : thereL (dueL l now) now = [(sumP (l.take (dueN l now)), aheadP l (dueN l now))] := by
      unfold dueL
      rw [if_neg h0, thereL_cons (due_first hm (by omega)), thereL_late (late_rest h2 now)]
    unfold thereP
    rw [e, (sum_all (l := [(sumP (l.take (dueN l now)), aheadP l (dueN l now))]) (by simp [sumP]; omega)).1]
    simp [sumP]
def incP : List Rf → Int → List Rf
  | [], _ => []
  | (a, t) :: r, m => (a + m, t) :: r
def giveP (l : List Rf) (now m most : Int) : List Rf × Int :=
  if mayP l = false ∨ m = 0 ∨ holdsP l most = false then ([], 2)
  else if ¬ sumP l + m < 18446744073709551616 then ([], 6)
  else if 1 ≤ thereP l now then (incP (dueL l now) m, 0)
  else if (l.length : Int) = most then ([], 3)
  else ((m, now) :: l, 0)
theorem due_none {l : List Rf} (hk : Ok l) (hm : mayP l = true) {now : Int} (h : ¬ 1 ≤ thereP l now) : dueL l now = l ∧ thereP l now = 0 := by
  rw [thereP_fine hk hm] at h ⊢
  have h0 : dueN l now = 0 := by
    refine Classical.byContradiction (fun e => h ?_)
    exact due_sum hk (mayP_iff.1 hm).2 (by omega) (dueN_le l now)
  refine ⟨by unfold dueL; rw [if_pos h0], by rw [h0]; simp [sumP]⟩
set_option maxHeartbeats 6400000 in
set_option maxRecDepth 100000 in
/-- The document's Pull. -/
theorem rpull_any {w : World} {v : Value} {l : List Rf} (h : In w v l) (hk : Ok l) (hn : l.length ≤ 100000) (now : Int) (m : Int) (hm : U64 m) :
    Calls Try.prog 28 #[v, .int .u64 now, .int .u64 m] w fun e w' => ∃ v', e = .returned (.tuple #[v', .int .i64 (pullP l now m).2]) ∧ Mine w w' v' (pullP l now m).1 := by
  have hmy := rmay_any h hk hn
  have HTH := Lib.hid (fun W (hW : Chg [] w W) => (rthere_any (h.quiet hW) hk hn now).mono (R' := fun e w' => e = .returned (.int .u64 (thereP l now)) ∧ Chg [] W w') (fun e w' ⟨h1, h2⟩ => ⟨h1, by rw [← h2]; exact Chg.refl _ _⟩))
  have HDU := Lib.hid (fun (hm9 : mayP l = true) W (hW : Chg [] w W) => rdue_any (h.quiet hW) hk hm9 hn now)
  obtain ⟨A, c, rfl, _⟩ := h.open_
  obtain ⟨n, e1⟩ : ∃ n, n = l.length := ⟨_, rfl⟩
  rw [← e1] at hmy HTH HDU ⊢
  cases hmp : mayP l with
  | false =>
    rw [hmp] at hmy
    have HE := Lib.hid (show pullP l now m = ([], 2) by unfold pullP; rw [if_pos (.inl hmp)])
    clear h hk hn e1 hmp hm
    go_enter Try.func28, Try.ntmps28
    go_wp2_with (go_at_call 16; refine hmy.mono ?_; rintro e w1 ⟨rfl, h1⟩; have H1 := Lib.hid h1; clear h1)
    go_ret2
    exact ⟨_, by rw [HE.out]; rfl, by rw [HE.out]; exact Mine.nil H1.out⟩
  | true =>
    rw [hmp] at hmy
    replace HDU := Lib.hid (HDU.out hmp)
    by_cases hm0 : m = 0
    · have HE := Lib.hid (show pullP l now m = ([], 2) by unfold pullP; rw [if_pos (.inr hm0)])
      have g0 : (m == 0) = true := by simpa using hm0
      clear h hk hn e1 hmp hm hm0
      go_enter Try.func28, Try.ntmps28
      go_wp2_with (go_at_call 16; refine hmy.mono ?_; rintro e w1 ⟨rfl, h1⟩; have H1 := Lib.hid h1; clear h1)
      go_ret2
      exact ⟨_, by rw [HE.out]; rfl, by rw [HE.out]; exact Mine.nil H1.out⟩
    · have g0 : (m == 0) = false := by simpa using hm0
      by_cases hlt : thereP l now < m
      · have HE := Lib.hid (show pullP l now m = ([], 15) by unfold pullP; rw [if_neg (by rw [hmp]; simpa using hm0), if_pos hlt])
        obtain ⟨T, hT⟩ : ∃ T, T = thereP l now := ⟨_, rfl⟩
        rw [← hT] at HTH hlt
        have g1 : decide (T < m) = true := by simpa using hlt
        clear h hk hn e1 hmp hm hm0 hT hlt
        go_enter Try.func28, Try.ntmps28
        go_wp2_with (first
          | (go_at_call 16; refine hmy.mono ?_; rintro e w1 ⟨rfl, h1⟩; have H1 := Lib.hid h1; clear h1)
          | (go_at_call 18; refine (HTH.out _ H1.out).mono ?_; rintro e w2 ⟨rfl, h1⟩; have H2 := Lib.hid (H1.out.then h1); clear h1))
        go_ret2
        exact ⟨_, by rw [HE.out]; rfl, by rw [HE.out]; exact Mine.nil H2.out⟩
      · have hE : pullP l now m = (decP (dueL l now) m, 0) := by unfold pullP; rw [if_neg (by rw [hmp]; simpa using hm0), if_neg hlt]
        have hm1 : 1 ≤ m := by have := hm.1; omega
        obtain ⟨hdf, _⟩ := due_form hk hmp (now := now) (by omega)
        have hdo := (hk.due hmp now)
        rw [hdf] at hdo
        have hT2 := hdo.head.1
        obtain ⟨T, hT⟩ : ∃ T, T = thereP l now := ⟨_, rfl⟩
        obtain ⟨t, ht⟩ : ∃ t, t = aheadP l (dueN l now) := ⟨_, rfl⟩
        obtain ⟨r, hr⟩ : ∃ r, r = l.drop (dueN l now) := ⟨_, rfl⟩
        rw [← hT] at HTH hlt hT2
        rw [← hT, ← ht, ← hr] at hdf
        rw [hdf] at HDU hE
        obtain ⟨hT0, hT1⟩ := hT2
        simp only at hT0 hT1
        have g1 : decide (T < m) = false := by simpa using hlt
        have g2 : IntKind.u64.wrap (T - m) = T - m := by rw [IntKind.wrap_u64]; omega
        by_cases hTm : T = m
        · have HE := Lib.hid (show pullP l now m = (r, 0) by rw [hE, decP_cons, if_pos hTm])
          have g3 : (T - m == 0) = true := by simp; omega
          clear h hk hn e1 hmp hm hm0 hT ht hr hlt hdf hdo hE hm1 hT0 hT1 hTm
          have HR := Lib.hid (show ∀ (W : World) (g N cap : Nat), Mine w W (.slice (some ⟨g, 0, none⟩) N cap) ((T, t) :: r) → Mine w (W.setCell ⟨g, 0, none⟩ (.int .u64 (T - m))) (.slice (some ⟨g, 0, none⟩) N cap) ((T - m, t) :: r) from fun W g N cap hM => by
            have := hM.set1 (k := 0) (x := (T, t)) rfl (T - m)
            simpa using this)
          go_enter Try.func28, Try.ntmps28
          go_wp2_with (first
            | (go_at_call 16; refine hmy.mono ?_; rintro e w1 ⟨rfl, h1⟩; have H1 := Lib.hid h1; clear h1)
            | (go_at_call 18; refine (HTH.out _ H1.out).mono ?_; rintro e w2 ⟨rfl, h1⟩; have H2 := Lib.hid (H1.out.then h1); clear h1)
            | (go_at_call 22; refine (HDU.out _ H2.out).mono ?_; rintro e w3 ⟨v3, rfl, h1⟩; obtain ⟨g, cap, rfl, _, hcap, lg, y0, y1, hfz⟩ := h1.1.head; have f0 := hfz 0; have H3 := Lib.hid (h1.before H2.out).mine; clear h1 hfz; obtain ⟨N, hN⟩ : ∃ N, N = r.length + 1 := ⟨_, rfl⟩; rw [← hN] at hcap H3 ⊢; have q1 : (1 : Int) ≤ (N : Int) := (by omega); have q0 : (0 : Int) < (N : Int) := (by omega); have q2 : (1 : Int) ≤ (cap : Int) := (by omega); clear hN))
          · have H4 := Lib.hid ((HR.out _ _ _ _ H3.out).rest0 (by omega))
            go_ret2
            obtain ⟨z1, z2, z3, z4⟩ := H4.out
            exact ⟨_, by rw [HE.out]; rfl, by rw [HE.out]; have : N - 1 = 0 := z1; simpa [this] using z4⟩
          · have H4 := Lib.hid ((HR.out _ _ _ _ H3.out).rest (by omega))
            go_ret2
            exact ⟨_, by rw [HE.out]; rfl, by rw [HE.out]; simpa using H4.out⟩
        · have HE := Lib.hid (show pullP l now m = ((T - m, t) :: r, 0) by rw [hE, decP_cons, if_neg hTm])
          have g3 : (T - m == 0) = false := by simp; omega
          clear h hk hn e1 hmp hm hm0 hT ht hr hlt hdf hdo hE hm1 hT0 hT1 hTm
          have HR := Lib.hid (show ∀ (W : World) (g N cap : Nat), Mine w W (.slice (some ⟨g, 0, none⟩) N cap) ((T, t) :: r) → Mine w (W.setCell ⟨g, 0, none⟩ (.int .u64 (T - m))) (.slice (some ⟨g, 0, none⟩) N cap) ((T - m, t) :: r) from fun W g N cap hM => by
            have := hM.set1 (k := 0) (x := (T, t)) rfl (T - m)
            simpa using this)
          go_enter Try.func28, Try.ntmps28
          go_wp2_with (first
            | (go_at_call 16; refine hmy.mono ?_; rintro e w1 ⟨rfl, h1⟩; have H1 := Lib.hid h1; clear h1)
            | (go_at_call 18; refine (HTH.out _ H1.out).mono ?_; rintro e w2 ⟨rfl, h1⟩; have H2 := Lib.hid (H1.out.then h1); clear h1)
            | (go_at_call 22; refine (HDU.out _ H2.out).mono ?_; rintro e w3 ⟨v3, rfl, h1⟩; obtain ⟨g, cap, rfl, _, hcap, lg, y0, y1, hfz⟩ := h1.1.head; have f0 := hfz 0; have H3 := Lib.hid (h1.before H2.out).mine; clear h1 hfz; obtain ⟨N, hN⟩ : ∃ N, N = r.length + 1 := ⟨_, rfl⟩; rw [← hN] at hcap H3 ⊢; have q1 : (1 : Int) ≤ (N : Int) := (by omega); have q0 : (0 : Int) < (N : Int) := (by omega); clear hN))
          go_ret2
          exact ⟨_, by rw [HE.out]; rfl, by rw [HE.out]; exact HR.out _ _ _ _ H3.out⟩
end Go.Proofs
