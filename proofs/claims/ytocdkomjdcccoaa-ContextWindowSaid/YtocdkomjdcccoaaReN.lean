import Derived.Test.YtocdkomjdcccoaaReM
namespace Go.Proofs
open Go.RowKit
set_option linter.unusedVariables false

/-- A list of one at least, opened for writing. -/
theorem Rd.form {w : World} {v : Value} {l : List Rf} (h : Rd w v l) (h0 : 0 < l.length) : ∃ b o c, v = .slice (some ⟨b, o, none⟩) l.length c ∧ l.length ≤ c ∧ b < w.heap.size ∧ (∀ k, w.frozen? ⟨b, k, none⟩ = false) ∧
    ∀ k x, l[k]? = some x → w.cell? ⟨b, o + k * 2, none⟩ = some (.int .u64 x.1) ∧ w.cell? ⟨b, o + k * 2 + 1, none⟩ = some (.int .u64 x.2) := by
  obtain ⟨A, c, rfl, h1, h2, h3, hcell⟩ := h.open_
  obtain ⟨b, o, rfl, lb, _⟩ := hcell 0 _ (List.getElem?_eq_getElem h0)
  refine ⟨b, o, c, rfl, h1, lb, ?_, fun k x hk => ?_⟩
  · obtain ⟨A', c', hv, q1, q2, q0, q3, q4⟩ := h
    simp only [Value.slice.injEq] at hv
    obtain ⟨rfl, _, rfl⟩ := hv
    obtain ⟨g, o', cs, he, hB, hs, r⟩ := q4 _ rfl
    simp only [Addr.mk.injEq, and_true] at he
    obtain ⟨rfl, rfl⟩ := he
    exact hB.frozen
  · obtain ⟨b', o', he, _, q1, q2⟩ := hcell k x hk
    simp only [Option.some.injEq, Addr.mk.injEq, and_true] at he
    obtain ⟨rfl, rfl⟩ := he
    exact ⟨q1, q2⟩
def lastP (l : List Rf) : Rf := (l[l.length - 1]?).getD (0, 0)
theorem lastP_at {l : List Rf} (h : 0 < l.length) : l[l.length - 1]? = some (lastP l) := by unfold lastP; rw [List.getElem?_eq_getElem (by omega)]; rfl
/-- One comes back. -/
def backP (l : List Rf) (at_ most : Int) : List Rf :=
  if l.length = 0 ∨ (lastP l).2 < at_ then (if (l.length : Int) < most then l ++ [(1, at_)] else l.set (l.length - 1) ((lastP l).1 + 1, at_))
  else l.set (l.length - 1) ((lastP l).1 + 1, (lastP l).2)
set_option maxHeartbeats 6400000 in
set_option maxRecDepth 100000 in
theorem back_any {w0 w : World} {v : Value} {l : List Rf} {at_ most : Int} (h : Mine w0 w v l) (hk : Ok l) (hs : sumP l + 1 < 18446744073709551616) (hm : 1 ≤ most) (hn : l.length ≤ 100000) :
    Calls Try.prog 46 #[v, .int .u64 at_, .int .i64 most] w fun e w' => ∃ v', e = .returned v' ∧ Mine w0 w' v' (backP l at_ most) := by
  by_cases h0 : l.length = 0
  · have hl : l = [] := List.eq_nil_of_length_eq_zero h0
    subst hl
    obtain ⟨A, c, rfl, _⟩ := h.1.open_
    simp only [List.length_nil]
    have HH := Lib.hid h
    have HE := Lib.hid (show backP [] at_ most = [] ++ [(1, at_)] by unfold backP; rw [if_pos (.inl rfl), if_pos (by simp; omega)])
    have i0 : decide ((0 : Int) < most) = true := by simp; omega
    have i1 : (0 : Int) < most := by omega
    clear h hk hs h0
    go_enter Try.func46, Try.ntmps46
    go_wp2_with (at_builtin; refine wpList_append_any (xs := []) (l := [(1, at_)]) (N := 1) _ rfl _ _ rfl (by rfl) (by rfl) (HH.out.1.quiet ((Chg.refl [] _).alloc (.cells #[.int .u64 1, .int .u64 at_] 47))) (Rs.one (x := (1, at_)) (Blk.new _ 47 _)) (by simp) (by simp) rfl ?_; intro A6 c6 w6 hr hg hf; have H7 := Lib.hid ((HH.out.later ((Chg.refl [] _).alloc (.cells #[.int .u64 1, .int .u64 at_] 47))).append hr hg hf); clear hr hg hf)
    go_ret
    exact ⟨_, rfl, by rw [HE.out]; exact H7.out⟩
  · obtain ⟨b, o, c, rfl, hlc, lb, hfz, hcell⟩ := h.1.form (by omega)
    have hlast := lastP_at (l := l) (by omega)
    obtain ⟨x0, x1⟩ := hcell _ _ hlast
    obtain ⟨⟨a0, a1⟩, _⟩ := hk.at hlast
    have hle : (lastP l).1 ≤ sumP l := by
      have h1 := sumP_snoc hlast
      rw [show l.length - 1 + 1 = l.length by omega, List.take_length] at h1
      have := sumP_nonneg (hk.take (l.length - 1))
      omega
    obtain ⟨n, e1⟩ : ∃ n, n = l.length := ⟨_, rfl⟩
    obtain ⟨p, e2⟩ : ∃ p, p = l.length - 1 := ⟨_, rfl⟩
    obtain ⟨x, e3⟩ : ∃ x, x = lastP l := ⟨_, rfl⟩
    rw [← e3] at hlast a0 a1 hle x0 x1
    rw [← e2] at x0 x1 hlast
    rw [← e1] at h h0 hlc ⊢
    have HH := Lib.hid h
    have HX := Lib.hid hlast
    have f0 := hfz (o + p * 2)
    have f1 := hfz (o + p * 2 + 1)
    have i0 : IntKind.i64.wrap ((n : Int) - 1) = (p : Int) := by rw [IntWalk.i64_in _ (by omega)]; omega
    have i1 : (0 : Int) ≤ (p : Int) := by omega
    have i2 : (p : Int) < (n : Int) := by omega
    have i3 : decide ((p : Int) < 0) = false := by simp
    have i4 : ¬ (p : Int) < 0 := by omega
    have i5 : IntKind.u64.wrap (x.1 + 1) = x.1 + 1 := by rw [IntKind.wrap_u64]; omega
    have HB9 := Lib.hid (show n + 1 ≤ 1000000 by omega)
    have HN := Lib.hid e1
    have HBK : Hid (backP l at_ most = if x.2 < at_ then (if (n : Int) < most then l ++ [(1, at_)] else l.set p (x.1 + 1, at_)) else l.set p (x.1 + 1, x.2)) := Lib.hid (by
      unfold backP
      rw [← e1, ← e3]
      by_cases hlt : x.2 < at_
      · rw [if_pos (.inr hlt), if_pos hlt, show n - 1 = p by omega]
      · rw [if_neg (by omega), if_neg hlt, show n - 1 = p by omega])
    have HPL := Lib.hid (show p < l.length by omega)
    clear h hlast hfz hcell hk hs e1 e2 e3 h0 hle a0 a1
    obtain ⟨xa, xt⟩ := x
    simp only at x0 x1 i5 HX HBK
    by_cases hlt : xt < at_
    · have j0 : decide (at_ > xt) = true := by simp; omega
      have j1 : decide (xt < at_) = true := by simp; omega
      by_cases hrm : (n : Int) < most
      · have j2 : decide ((n : Int) < most) = true := by simpa using hrm
        have HE := Lib.hid (show backP l at_ most = l ++ [(1, at_)] by rw [HBK.out, if_pos hlt, if_pos hrm])
        clear hlt hrm HBK HX f0 f1
        go_enter Try.func46, Try.ntmps46
        go_wp2_with (at_builtin; refine wpList_append_any (xs := l) (l := [(1, at_)]) (N := n + 1) _ rfl _ _ rfl (by rfl) (by rfl) (HH.out.1.quiet ((Chg.refl [] _).alloc (.cells #[.int .u64 1, .int .u64 at_] 47))) (Rs.one (x := (1, at_)) (Blk.new _ 47 _)) (by simp) (by have := HB9.out; have := HN.out; simp; omega) (by have := HN.out; simp; omega) ?_; intro A6 c6 w6 hr hg hf; have H7 := Lib.hid ((HH.out.later ((Chg.refl [] _).alloc (.cells #[.int .u64 1, .int .u64 at_] 47))).append hr hg hf); clear hr hg hf)
        go_ret
        exact ⟨_, rfl, by rw [HE.out]; exact H7.out⟩
      · have j2 : decide ((n : Int) < most) = false := by simpa using hrm
        have HE := Lib.hid (show backP l at_ most = l.set p (xa + 1, at_) by rw [HBK.out, if_pos hlt, if_neg hrm])
        have H7 := Lib.hid ((HH.out.set2 HX.out at_).set1 (k := p) (x := (xa, at_)) (by rw [List.getElem?_set_self HPL.out]) (xa + 1))
        rw [List.set_set] at H7
        clear hlt hrm HBK HX
        go_enter Try.func46, Try.ntmps46
        go_wp2
        go_ret
        exact ⟨_, rfl, by rw [HE.out]; exact H7.out⟩
    · have j0 : decide (at_ > xt) = false := by simp; omega
      have j1 : decide (xt < at_) = false := by simp; omega
      have HE := Lib.hid (show backP l at_ most = l.set p (xa + 1, xt) by rw [HBK.out, if_neg hlt])
      have H7 := Lib.hid (HH.out.set1 HX.out (xa + 1))
      clear hlt HBK HX
      go_enter Try.func46, Try.ntmps46
      go_wp2
      go_ret
      exact ⟨_, rfl, by rw [HE.out]; exact H7.out⟩
end Go.Proofs
