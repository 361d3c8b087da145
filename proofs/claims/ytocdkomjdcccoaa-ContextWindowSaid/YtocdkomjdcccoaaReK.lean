import Derived.Test.YtocdkomjdcccoaaReJ
namespace Go.Proofs
open Go.RowKit
set_option linter.unusedVariables false

theorem Rd.first {w : World} {b o m c : Nat} {l : List Rf} (h : Rd w (.slice (some ⟨b, o, none⟩) m c) l) {i : Nat} (hi : i ≤ m) : Rd w (.slice (some ⟨b, o, none⟩) i c) (l.take i) := by
  have hm : m = l.length := by obtain ⟨A', c', hv, _⟩ := h.open_; injection hv
  subst hm
  have := Rs.first h hi
  unfold Rd
  rw [List.length_take, Nat.min_eq_left hi]
  exact this
theorem Rd.rest {w : World} {b o m c : Nat} {l : List Rf} (h : Rd w (.slice (some ⟨b, o, none⟩) m c) l) {i : Nat} (hi : i ≤ m) : Rd w (.slice (some ⟨b, o + i * 2, none⟩) (m - i) (c - i)) (l.drop i) := by
  have hm : m = l.length := by obtain ⟨A', c', hv, _⟩ := h.open_; injection hv
  subst hm
  have := Rs.rest h hi
  unfold Rd
  rw [List.length_drop]
  exact this
theorem Rd.none_ {w : World} {b o m c : Nat} {l : List Rf} (h : Rd w (.slice (some ⟨b, o, none⟩) m c) l) : Rd w (.slice (some ⟨b, o, none⟩) 0 0) [] := by
  have hm : m = l.length := by obtain ⟨A', c', hv, _⟩ := h.open_; injection hv
  subst hm
  exact Rs.none_ h
theorem due_sum {l : List Rf} (hk : Ok l) (hf : fineP l = true) {n : Nat} (h0 : 0 < n) (hn : n ≤ l.length) : 1 ≤ sumP (l.take n) := by
  obtain ⟨x, hx⟩ : ∃ x, l[0]? = some x := ⟨_, List.getElem?_eq_getElem (by omega)⟩
  have h1 := (fine_at hf hx).1
  have h2 := (hk.at hx).1.1
  have h3 := sumP_le (hk.take n) 1
  have h4 : sumP ((l.take n).take 1) = x.1 := by
    have := sumP_snoc (l := l) (k := 0) hx
    rw [List.take_take, Nat.min_eq_left (by omega), this]; simp [sumP]
  omega
set_option maxHeartbeats 3200000 in
set_option maxRecDepth 100000 in
/-- The list Due. -/
theorem due_any {w : World} {v : Value} {l : List Rf} (h : Rd w v l) (hk : Ok l) (hn : l.length ≤ 100000) (now : Int) :
    Calls Try.prog 55 #[v, .int .u64 now] w fun e w' => ∃ v', e = .returned v' ∧ Own w w' v' (if mayP l then dueL l now else []) := by
  have hmy := may_any h hk hn
  cases hm : mayP l with
  | false =>
    rw [hm] at hmy
    obtain ⟨A, c, rfl, _⟩ := h.open_
    obtain ⟨n, e1⟩ : ∃ n, n = l.length := ⟨_, rfl⟩
    rw [← e1] at hmy ⊢
    clear h hk hn e1 hm
    go_enter Try.func55, Try.ntmps55
    go_wp2_with (go_at_call 54; refine hmy.mono ?_; rintro e w1 ⟨rfl, h1⟩; have H1 := Lib.hid h1; clear h1)
    go_ret
    exact ⟨_, rfl, Own.nil H1.out⟩
  | true =>
    rw [hm] at hmy
    rw [if_pos rfl]
    obtain ⟨hsf, hff⟩ := mayP_iff.1 hm
    have HH := Lib.hid h
    have HFA := Lib.hid (fun W bN (hW : Chg [] w W) (hB : Blk W bN 22 #[.int .u64 now]) => first_above (h.quiet hW) hB hn)
    have hle := dueN_le l now
    have HNN := Lib.hid hn
    obtain ⟨n, e1⟩ : ∃ n, n = l.length := ⟨_, rfl⟩
    obtain ⟨k, e2⟩ : ∃ k, k = dueN l now := ⟨_, rfl⟩
    rw [← e2] at HFA
    rw [← e1, ← e2] at hle
    rw [← e1] at hn
    by_cases h0 : k = 0
    · subst h0
      have HE := Lib.hid (show dueL l now = l by unfold dueL; rw [if_pos e2.symm])
      obtain ⟨A, c, rfl, _⟩ := h.open_
      rw [← e1] at hmy HH HFA ⊢
      clear h hk e1 e2 hm hsf hff hle
      go_enter Try.func55, Try.ntmps55
      go_wp2_with (first
        | (go_at_call 54; refine hmy.mono ?_; rintro e w1 ⟨rfl, h1⟩; have H1 := Lib.hid h1; clear h1)
        | (go_at_call 41; refine (above_any _ _).mono ?_; rintro e w2 ⟨rfl, q1, q2⟩; have H2 := Lib.hid q1; have H3 := Lib.hid (H1.out.then q2); clear q1 q2)
        | (go_at_call 57; refine (HFA.out _ _ H3.out H2.out).mono ?_; rintro e w3 ⟨rfl, q1⟩; have H4 := Lib.hid (H3.out.then q1); clear q1)
        | (go_at_call 40; refine (clone_any (HH.out.quiet H4.out) HNN.out).mono ?_; rintro e w4 ⟨v4, rfl, q1⟩; have H5 := Lib.hid (q1.before H4.out); clear q1))
      go_ret
      exact ⟨_, rfl, by rw [HE.out]; exact H5.out⟩
    · have hk0 : (k == 0) = false := by simpa using h0
      have hki : ((k : Int) == 0) = false := by simp; omega
      obtain ⟨p, hp⟩ : ∃ p, p = k - 1 := ⟨_, rfl⟩
      obtain ⟨x, hx⟩ : ∃ x, l[p]? = some x := ⟨_, List.getElem?_eq_getElem (by omega)⟩
      have hap := aheadP_succ hx
      rw [show p + 1 = k by omega] at hap
      have HS1 := Lib.hid (sum_all (l := l.take k) (by have := sumP_le hk k; omega))
      have hsp := due_sum hk hff (n := k) (by omega) (by omega)
      have HE := Lib.hid (show dueL l now = newP (sumN (l.take k)) x.2 ++ l.drop k by
        unfold dueL newP
        rw [← e2, if_neg h0, HS1.out.2, if_neg (by omega), hap]; rfl)
      have HNL := Lib.hid (show (newP (sumN (l.take k)) x.2).length = 1 by unfold newP; rw [HS1.out.2, if_neg (by omega)]; rfl)
      obtain ⟨A, c, rfl, hlc, _, _, hcell⟩ := h.open_
      obtain ⟨b, o, rfl, lb, _, x1⟩ := hcell p x hx
      rw [← e1] at hmy HH HFA hlc ⊢
      have HT := Lib.hid (HH.out.first hle)
      have HOK := Lib.hid (hk.take k)
      have HTN := Lib.hid (show (l.take k).length ≤ 100000 by rw [List.length_take]; omega)
      have HDL := Lib.hid (show (l.drop k).length = n - k by rw [List.length_drop, e1])
      have HB9 := Lib.hid (show 1 + (n - k) ≤ 1000000 by omega)
      have i0 : (0 : Int) ≤ (k : Int) := by omega
      have i1 : (k : Int) ≤ (c : Int) := by omega
      have i2 : (k : Int) ≤ (n : Int) := by omega
      have i3 : IntKind.i64.wrap ((k : Int) - 1) = (p : Int) := by rw [IntWalk.i64_in _ (by omega)]; omega
      have i4 : (0 : Int) ≤ (p : Int) := by omega
      have i5 : (p : Int) < (n : Int) := by omega
      have HX1 := Lib.hid (fun W (hW : Chg [] w W) => (hW.cell (p := ⟨b, o + p * 2 + 1, none⟩) lb (by simp)).trans x1)
      obtain ⟨xa, xt⟩ := x
      simp only at HE HNL HX1 x1
      by_cases hkc : k < c
      · have HR := Lib.hid (HH.out.rest hle)
        have hne : c ≠ k := by omega
        clear h hk hn e1 e2 hm hsf hff hp hx hap hsp hcell h0 x1
        go_enter Try.func55, Try.ntmps55
        go_wp2_with (first
          | (go_at_call 54; refine hmy.mono ?_; rintro e w1 ⟨rfl, h1⟩; have H1 := Lib.hid h1; clear h1)
          | (go_at_call 41; refine (above_any _ _).mono ?_; rintro e w2 ⟨rfl, q1, q2⟩; have H2 := Lib.hid q1; have H3 := Lib.hid (H1.out.then q2); clear q1 q2)
          | (go_at_call 57; refine (HFA.out _ _ H3.out H2.out).mono ?_; rintro e w3 ⟨rfl, q1⟩; have H4 := Lib.hid (H3.out.then q1); clear q1)
          | (go_at_call 38; refine (sum_any (HT.out.quiet H4.out) HOK.out HTN.out).mono ?_; rintro e w4 ⟨rfl, q1⟩; have x9 := HX1.out _ (H4.out.then q1); have H5 := Lib.hid (H4.out.then q1); clear q1))
        go_region_held3 (fun w' => w'.cell? ⟨b, o + p * 2 + 1, none⟩ = some (.int .u64 xt))
          (first | go_keep)
          (first
            | (go_at_call 37; refine (new_any _ _ _).mono ?_; rintro e w5 ⟨v5, rfl, q1⟩; have x8 := HX1.out _ ((q1.before (H5.out.drew)).2.2); have H6 := Lib.hid (q1.before (H5.out.drew)); clear q1)
            | (refine step_append_rs (n := 1) (m := n - k) (N := 1 + (n - k)) _ (by rfl) _ _ (by rfl) (by rfl) (by rfl) (by have := H6.out.1; unfold Ro at this; rw [HNL.out] at this; exact this) (by have := HR.out.quiet H6.out.2.2; unfold Rd at this; rw [HDL.out] at this; exact this) HB9.out rfl ?_; intro A6 c6 w6 hr hg hf; have H7 := Lib.hid (H6.out.append (by rw [List.length_append, HNL.out, HDL.out]) hr hg hf); have x7 := HX1.out _ H7.out.2.2; clear hr hg hf))
        all_goals
          go_wp2
          go_ret
          exact ⟨_, rfl, by rw [HE.out]; exact H7.out⟩
      · obtain rfl : c = k := by omega
        obtain rfl : n = c := by omega
        have HR := Lib.hid HH.out.none_
        have HD0 := Lib.hid (show l.drop n = [] by rw [e1, List.drop_length])
        clear h hk hn e1 e2 hm hsf hff hp hx hap hsp hcell h0 x1
        go_enter Try.func55, Try.ntmps55
        go_wp2_with (first
          | (go_at_call 54; refine hmy.mono ?_; rintro e w1 ⟨rfl, h1⟩; have H1 := Lib.hid h1; clear h1)
          | (go_at_call 41; refine (above_any _ _).mono ?_; rintro e w2 ⟨rfl, q1, q2⟩; have H2 := Lib.hid q1; have H3 := Lib.hid (H1.out.then q2); clear q1 q2)
          | (go_at_call 57; refine (HFA.out _ _ H3.out H2.out).mono ?_; rintro e w3 ⟨rfl, q1⟩; have H4 := Lib.hid (H3.out.then q1); clear q1)
          | (go_at_call 38; refine (sum_any (HT.out.quiet H4.out) HOK.out HTN.out).mono ?_; rintro e w4 ⟨rfl, q1⟩; have x9 := HX1.out _ (H4.out.then q1); have H5 := Lib.hid (H4.out.then q1); clear q1))
        go_region_held3 (fun w' => w'.cell? ⟨b, o + p * 2 + 1, none⟩ = some (.int .u64 xt))
          (first | go_keep)
          (first
            | (go_at_call 37; refine (new_any _ _ _).mono ?_; rintro e w5 ⟨v5, rfl, q1⟩; have x8 := HX1.out _ ((q1.before (H5.out.drew)).2.2); have H6 := Lib.hid (q1.before (H5.out.drew)); clear q1)
            | (refine step_append_rs (n := 1) (m := 0) (N := 1) (l := []) _ (by rfl) _ _ (by rfl) (by rfl) (by rfl) (by have := H6.out.1; unfold Ro at this; rw [HNL.out] at this; exact this) (HR.out.quiet H6.out.2.2) (by omega) rfl ?_; intro A6 c6 w6 hr hg hf; have H7 := Lib.hid (H6.out.append (by rw [List.length_append, HNL.out]; rfl) hr hg hf); have x7 := HX1.out _ H7.out.2.2; clear hr hg hf))
        all_goals
          go_wp2
          go_ret
          exact ⟨_, rfl, by rw [HE.out, HD0.out]; exact H7.out⟩
end Go.Proofs
