import Derived.Test.YtihodeaeacgdpaaReQ1
import Derived.Test.YtihodeaeacgdpaaReQ2
import Derived.Test.YtihodeaeacgdpaaReQ3
import Derived.Test.YtihodeaeacgdpaaReQ4
import Derived.Test.YtihodeaeacgdpaaReQ5
import Derived.Test.YtihodeaeacgdpaaReQ6
import Derived.Test.YtihodeaeacgdpaaReQ7
import Derived.Test.YtihodeaeacgdpaaReQ8
namespace Go.Proofs
open Go.RowKit
set_option linter.unusedVariables false

/-- The document's Charge. -/
theorem rcharge_any {w : World} {v : Value} {l : List Rf} (h : In w v l) (hk : Ok l) (hn : l.length ≤ 100000) {now per most : Int} (hnow : U64 now) (hper : U64 per) :
    Calls Try.prog 24 #[v, .int .u64 now, .int .u64 per, .int .i64 most] w fun e w' => ∃ v', e = .returned (.tuple #[v', .bool (chargeP l now per most).2]) ∧ Mine w w' v' (chargeP l now per most).1 := by
  by_cases hcan : canP l now per most
  · have hadd := fun W => radd_any now per hnow.1 hper.1 hnow.2 hper.2 W
    have hmy := rmay_any h hk hn
    obtain ⟨hho, hp0, hf, hm, hth⟩ := id hcan
    obtain ⟨f1, f2⟩ := addF_yes hf
    rw [f1, f2] at hadd
    rw [hm] at hmy
    have HDU := Lib.hid (fun W (hW : Chg [] w W) => rdue_any (h.quiet hW) hk hm hn now)
    obtain ⟨A, c, rfl, _, _, _, hcell⟩ := h.open_
    obtain ⟨x, hx, hxn⟩ := (there_head hk hm now).1 hth
    have hl0 := (List.getElem?_eq_some_iff.1 hx).1
    obtain ⟨b, o, rfl, lb, p0, p1⟩ := hcell 0 x hx
    simp only [Nat.zero_mul, Nat.add_zero] at p0 p1
    have HX9 := Lib.hid (fun W (hW : Chg [] w W) => (hW.cell (p := ⟨b, o + 1, none⟩) lb (by simp)).trans p1)
    obtain ⟨hdf, _⟩ := due_form hk hm hth
    have hdo := hk.due hm now
    have hds := sumP_due (l := l) now
    have hdl := due_len (l := l) now
    have hms := (mayP_iff.1 hm).1
    have hE : chargeP l now per most = (backP (decP (dueL l now) 1) (now + per) most, true) := by rw [chargeP_yes hcan]; rfl
    obtain ⟨n, e1⟩ : ∃ n, n = l.length := ⟨_, rfl⟩
    obtain ⟨T, hT⟩ : ∃ T, T = thereP l now := ⟨_, rfl⟩
    obtain ⟨t, ht⟩ : ∃ t, t = aheadP l (dueN l now) := ⟨_, rfl⟩
    obtain ⟨r, hr⟩ : ∃ r, r = l.drop (dueN l now) := ⟨_, rfl⟩
    obtain ⟨at_, hat⟩ : ∃ at_, at_ = now + per := ⟨_, rfl⟩
    rw [← hT, ← ht, ← hr] at hdf
    rw [← e1] at hmy HDU ⊢
    rw [← hT] at hth
    rw [hdf] at hdo hds hdl
    rw [hdf, ← hat, decP_cons] at hE
    rw [← hat] at hadd
    rw [hdf] at HDU
    have hT2 := hdo.head.1
    have hr0 := sumP_nonneg hdo.tail
    obtain ⟨hT0, hT1⟩ := hT2
    simp only [sumP] at hds
    simp only at hT0 hT1
    unfold holdsP at hho
    simp only [Bool.and_eq_true, decide_eq_true_iff] at hho
    have k1 : IntKind.u64.wrap (T - 1) = T - 1 := by rw [IntKind.wrap_u64]; omega
    have g1 : decide (most < 1) = false := by simp; omega
    have g2 : decide ((n : Int) > most) = false := by simp; omega
    have g2' : decide (most < (n : Int)) = false := by simp; omega
    have g3 : (per == 0) = false := by simpa using hp0
    have g4 : ((n : Int) == 0) = false := by simp; omega
    have g5 : (0 : Int) < (n : Int) := by omega
    have g6 : decide (x.2 > now) = false := by simp; omega
    have g6' : decide (now < x.2) = false := by simp; omega
    have HRN := Lib.hid (show r.length + 1 ≤ 100000 by simp only [List.length_cons] at hdl; omega)
    rw [hE]
    by_cases hT9 : T = 1
    · rw [if_pos hT9]
      by_cases hr9 : r.length = 0
      · have hrr : r = [] := List.eq_nil_of_length_eq_zero hr9
        rw [show backP r at_ most = [(1, at_)] by rw [hrr]; unfold backP; rw [if_pos (.inl rfl), if_pos (by simp; omega)]; rfl]
        exact rch_1 hadd hmy HX9 HDU HRN g1 g2 g2' g3 g4 g5 g6 g6' k1 hT9 hrr
      · have hl := lastP_at (l := r) (by omega)
        have h1 := sumP_snoc hl
        rw [show r.length - 1 + 1 = r.length by omega, List.take_length] at h1
        have h2 := sumP_nonneg (hdo.tail.take (r.length - 1))
        have h3 := (hdo.tail.at hl).1.1
        have m5 : IntKind.u64.wrap ((lastP r).1 + 1) = (lastP r).1 + 1 := by rw [IntKind.wrap_u64]; omega
        by_cases hlt : (lastP r).2 < at_
        · by_cases hrm : (r.length : Int) < most
          · rw [show backP r at_ most = r ++ [(1, at_)] by unfold backP; rw [if_pos (.inr hlt), if_pos hrm]]
            exact rch_2 hadd hmy HX9 HDU HRN g1 g2 g2' g3 g4 g5 g6 g6' k1 hT9 rfl (by omega : r.length - 1 + 1 = r.length) rfl hl m5 hlt hrm
          · rw [show backP r at_ most = r.set (r.length - 1) ((lastP r).1 + 1, at_) by unfold backP; rw [if_pos (.inr hlt), if_neg hrm]]
            exact rch_3 hadd hmy HX9 HDU HRN g1 g2 g2' g3 g4 g5 g6 g6' k1 hT9 rfl (by omega : r.length - 1 + 1 = r.length) rfl hl m5 hlt hrm
        · rw [show backP r at_ most = r.set (r.length - 1) ((lastP r).1 + 1, (lastP r).2) by unfold backP; rw [if_neg (by omega)]]
          exact rch_4 hadd hmy HX9 HDU HRN g1 g2 g2' g3 g4 g5 g6 g6' k1 hT9 rfl (by omega : r.length - 1 + 1 = r.length) rfl hl m5 hlt
    · rw [if_neg hT9]
      obtain ⟨x2, hlast, hx2, m5⟩ : ∃ x2, ((T - 1, t) :: r)[r.length]? = some x2 ∧ lastP ((T - 1, t) :: r) = x2 ∧ IntKind.u64.wrap (x2.1 + 1) = x2.1 + 1 := by
        have h1 := lastP_at (l := (T - 1, t) :: r) (by simp)
        rw [show ((T - 1, t) :: r).length - 1 = r.length by simp] at h1
        refine ⟨_, h1, rfl, ?_⟩
        have h2 : 0 ≤ (lastP ((T - 1, t) :: r)).1 ∧ (lastP ((T - 1, t) :: r)).1 + 1 < 18446744073709551616 := by
          by_cases hr9 : r.length = 0
          · have hrr : r = [] := List.eq_nil_of_length_eq_zero hr9
            rw [hrr]
            show 0 ≤ T - 1 ∧ T - 1 + 1 < 18446744073709551616
            omega
          · have h3 := lastP_at (l := r) (by omega)
            rw [show r.length = (r.length - 1) + 1 by omega, List.getElem?_cons_succ, h3] at h1
            rw [← Option.some.inj h1]
            have h4 := sumP_snoc h3
            rw [show r.length - 1 + 1 = r.length by omega, List.take_length] at h4
            have h5 := sumP_nonneg (hdo.tail.take (r.length - 1))
            have h6 := (hdo.tail.at h3).1.1
            omega
        rw [IntKind.wrap_u64]
        omega
      have hlen : ((T - 1, t) :: r).length - 1 = r.length := by simp
      have hlen2 : ((T - 1, t) :: r).length = r.length + 1 := by simp
      by_cases hlt : x2.2 < at_
      · by_cases hrm : ((r.length + 1 : Nat) : Int) < most
        · rw [show backP ((T - 1, t) :: r) at_ most = ((T - 1, t) :: r) ++ [(1, at_)] by unfold backP; rw [hx2, hlen2, if_pos (.inr hlt), if_pos hrm]]
          exact rch_5 hadd hmy HX9 HDU HRN g1 g2 g2' g3 g4 g5 g6 g6' k1 hT9 rfl rfl hlast m5 hlt hrm
        · rw [show backP ((T - 1, t) :: r) at_ most = ((T - 1, t) :: r).set r.length (x2.1 + 1, at_) by unfold backP; rw [hx2, hlen, hlen2, if_pos (.inr hlt), if_neg hrm]]
          exact rch_6 hadd hmy HX9 HDU HRN g1 g2 g2' g3 g4 g5 g6 g6' k1 hT9 rfl rfl hlast m5 hlt hrm
      · rw [show backP ((T - 1, t) :: r) at_ most = ((T - 1, t) :: r).set r.length (x2.1 + 1, x2.2) by unfold backP; rw [hx2, hlen, if_neg (by simp; omega)]]
        exact rch_7 hadd hmy HX9 HDU HRN g1 g2 g2' g3 g4 g5 g6 g6' k1 hT9 rfl rfl hlast m5 hlt
  · rw [chargeP_no hcan]
    exact rch_no h hk hn hnow hper hcan
end Go.Proofs
