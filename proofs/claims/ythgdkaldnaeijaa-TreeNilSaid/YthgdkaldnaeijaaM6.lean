import Derived.Test.YthgdkaldnaeijaaM5
section
namespace Go.Proofs
open Go.RowKit
set_option linter.unusedVariables false
set_option linter.unusedSimpArgs false

theorem Rd.at_ {w : World} {a : Addr} {m c : Nat} {L : List Int} (h : Rd w (.slice (some a) m c) L) : ∃ b o, a = ⟨b, o, none⟩ := by
  obtain ⟨A, c', hv, _, _, _, h4⟩ := h
  injection hv with hA _ _
  obtain ⟨h', o', cs, he, _⟩ := h4 _ hA.symm
  exact ⟨h', o', he⟩
theorem Rd.first {w : World} {A : Option Addr} {m c k : Nat} {L : List Int} (h : Rd w (.slice A m c) L) (hk : k ≤ m) : Rd w (.slice A k c) (L.take k) := by
  obtain ⟨A', c', hv, h1, h2, h3, h4⟩ := h
  simp only [Value.slice.injEq] at hv
  obtain ⟨rfl, rfl, rfl⟩ := hv
  have e : (L.take k).length = k := by rw [List.length_take]; omega
  refine ⟨A, c, by rw [e], by omega, h2, h3, fun a ha => ?_⟩
  obtain ⟨g, o, cs, rfl, hB, hs, r⟩ := h4 a ha
  refine ⟨g, o, cs, rfl, hB, hs, fun j x hj => r j x ?_⟩
  rw [List.getElem?_take] at hj
  split at hj
  · exact hj
  · cases hj
theorem Rd.rest {w : World} {b o m c k : Nat} {L : List Int} (h : Rd w (.slice (some ⟨b, o, none⟩) m c) L) (hk : k ≤ m) (hkc : k < c) : Rd w (.slice (some ⟨b, o + k, none⟩) (m - k) (c - k)) (L.drop k) := by
  obtain ⟨A', c', hv, h1, h2, h3, h4⟩ := h
  simp only [Value.slice.injEq] at hv
  obtain ⟨rfl, rfl, rfl⟩ := hv
  have e : (L.drop k).length = L.length - k := List.length_drop
  refine ⟨_, c - k, by rw [e], by omega, by omega, fun h => (by cases h), fun a ha => ?_⟩
  cases ha
  obtain ⟨g, o', cs, he, hB, hs, r⟩ := h4 _ rfl
  cases he
  refine ⟨_, _, cs, rfl, hB, by omega, fun j x hj => ?_⟩
  rw [List.getElem?_drop] at hj
  rw [Nat.add_assoc]
  exact r _ x hj
theorem Rd.rest0 {w : World} {b o m : Nat} {L : List Int} (h : Rd w (.slice (some ⟨b, o, none⟩) m m) L) : Rd w (.slice (some ⟨b, o, none⟩) 0 0) (L.drop m) := by
  obtain ⟨A', c', hv, h1, h2, h3, h4⟩ := h
  simp only [Value.slice.injEq] at hv
  obtain ⟨rfl, rfl, hc⟩ := hv
  obtain ⟨g, o', cs, he, hB, hs, r⟩ := h4 _ rfl
  cases he
  rw [List.drop_length]
  exact ⟨_, 0, rfl, by simp, by simp, fun h => (by cases h), fun a ha => by cases ha; exact ⟨_, _, cs, rfl, hB, by omega, fun j x hj => by simp at hj⟩⟩
theorem Pre.stack_len {t : Fo} {R out : List Nat} (h : Pre t R out) : R.length ≤ out.length := by
  induction h with
  | nil => exact Nat.le_refl _
  | @cons x r out _ ih => simp at ih ⊢; omega
section
variable {w : World} {h : Nat} {T K : List Nat} {r : Rf} {t : Fo} {m : Nat}
/-- The slice of a node's children, and how it is read. -/
theorem RefAt.kids (H : RefAt w h T K r) (hs : RSim r t m) {n : Nat} (hn : n < t.size) : ∃ g cl A cc, ∀ W, Chg [] w W → W.cell? ⟨h, 0, none⟩ = some (.slice (some ⟨g, 0, none⟩) r.L.length cl) ∧ h < W.heap.size ∧ g < W.heap.size ∧ (0 : Int) ≤ (n : Int) ∧ (n : Int) < (r.L.length : Int) ∧ W.cell? ⟨g, n * 4 + 2, none⟩ = some (.slice A (t.kids n).length cc) ∧ Rd W (.slice A (t.kids n).length cc) (iN (t.kids n)) := by
  have H0 := H
  obtain ⟨g, cl, _, hne, hcl, htell⟩ := H.tell
  obtain ⟨_, _, _, _, hP, _⟩ := H0
  obtain ⟨p, hp, q1, q2, q3⟩ := hs.get hn
  have hl := hs.len
  refine ⟨g, cl, p.A, p.cc, fun W hc => ?_⟩
  obtain ⟨a0, a1, a2, lh, lg, fg, fh, hpl⟩ := htell W hc
  have hr := (hP p (List.mem_of_getElem? hp)).1.quiet hc
  obtain ⟨_, _, b2, _⟩ := hpl n p hp
  rw [← q2]
  exact ⟨a0, lh, lg, by omega, by omega, b2, hr⟩
set_option maxHeartbeats 3200000 in
set_option maxRecDepth 100000 in
theorem rdesc_ok (H : RefAt w h T K r) (hs : RSim r t m) {n : Nat} (hn : t.there n = true) {l : List Nat} (hl : Pre t (t.kids n) l) :
    Calls Try.prog 36 #[ptr h, .int .i64 (n : Nat)] w fun e w' => News w w' e l := by
  have HH := rhas_any H hs (n : Nat)
  rw [t.has_nat, hn] at HH
  have hll := Nat.le_trans (hs.wf.pre_len hl) hs.big
  obtain ⟨g, cl, A0, c0, hk0⟩ := H.kids hs (hs.wf.lt n hn)
  obtain ⟨a0, lh, lg, i0, i1, b2, hr0⟩ := hk0 w (Chg.refl _ _)
  have HK := Lib.hid (fun x (hx : t.there x = true) => H.kids hs (hs.wf.lt x hx))
  have hmem : ∀ x ∈ l, t.there x = true := fun x hx => ((hl.desc x).1 hx |>.there hs.wf).2
  have HMEM := Lib.hid hmem
  have HL := Lib.hid hl
  have HR0 := Lib.hid hr0
  have hkl := hl.stack_len
  obtain ⟨k0, hk00⟩ : ∃ k0, k0 = t.kids n := ⟨_, rfl⟩
  rw [← hk00] at HL HR0 b2 hkl
  clear H hs hn hl hk0 hmem hr0 hk00
  go_enter Try.func36, Try.ntmps36
  go_wp2_with (first
    | (go_at_call 17; refine HH.mono ?_; rintro e w' ⟨rfl, rfl⟩)
    | (at_builtin; (refine wpList_append_rs (xs := []) (n := k0.length) _ (by rfl) _ _ (by rfl) (by rfl) (by rfl) (Row.nil _ _ _) HR0.out (by rw [iN_len]; simp; omega) (by rw [iN_len]; simp) ?_; intro A1 c1 w1 hr1 hg1 hf1; simp only [List.nil_append] at hr1; have hfr : Fresh w w1 (.slice A1 k0.length c1) (iN k0) := ⟨hr1, fun k hk => (hf1 k hk).elim (fun h => by cases h) (fun h => h), (Chg.refl _ _).grown hg1 (fun k hk => by cases hk)⟩; have HF1 := Lib.hid hfr; clear hr1 hg1 hf1 hfr)))
  clear b2 a0 lh lg
  go_loopg [5, 6] l.length (fun gh ov iv wr => ∃ (A' rest R : List Nat) (ad : Option Addr) (cc : Nat), gh = rest.length ∧ ov = .slice ad (A'.length + R.length) cc ∧ iv = .int .i64 (A'.length : Nat) ∧ Hid (l = A' ++ rest ∧ Pre t R rest ∧ Fresh w wr (.slice ad (A'.length + R.length) cc) (iN (A' ++ R))))
  case atStart => exact ⟨[], l, k0, A1, c1, rfl, by simp, by simp, Lib.hid ⟨rfl, HL.out, by simpa using HF1.out⟩⟩
  case round =>
    obtain ⟨A', rest, R, ad, cc, rfl, rfl, rfl, HI⟩ := hrel
    obtain ⟨hLL, hpre, hfr⟩ := HI.out
    cases hpre with
    | nil =>
      have HFR := Lib.hid hfr
      have HLL := Lib.hid (show l = A' by rw [hLL]; simp)
      clear HI hLL hfr
      have hz : decide ((A'.length : Int) < (A'.length : Int)) = false := by simp
      go_wp2
      go_ret
      have hl := HLL.out
      have hf := HFR.out
      simp only [List.append_nil, List.length_nil, Nat.add_zero] at hf
      exact ⟨ad, cc, by rw [hl]; rfl, by rw [hl]; exact hf⟩
    | @cons x r0 out hpre =>
      have hxl : x ∈ l := by rw [hLL]; simp
      have hxt := HMEM.out x hxl
      obtain ⟨g2, cl2, A2', c2', hk2⟩ := HK.out x hxt
      obtain ⟨a0, lh, lg, j0, j1, b2, hrx⟩ := hk2 wr hfr.2.2
      have hst := hpre.stack_len
      simp only [List.length_append] at hst
      have hlen : A'.length + (out.length + 1) ≤ 4096 := by rw [hLL] at hll; simpa using hll
      obtain ⟨i, hi⟩ : ∃ i, i = A'.length := ⟨_, rfl⟩
      obtain ⟨M, hM⟩ : ∃ M, M = A'.length + (x :: r0).length := ⟨_, rfl⟩
      obtain ⟨L0, hL0⟩ : ∃ L0, L0 = iN (A' ++ x :: r0) := ⟨_, rfl⟩
      rw [← hM, ← hL0] at hfr
      have hL0l : L0.length = M := by rw [hL0, iN_len, hM]; simp
      have hiM : i + 1 ≤ M := by rw [hM, hi]; simp
      have hM2 : M ≤ 4096 := by rw [hM]; simp; omega
      have hrd := hfr.rd
      obtain ⟨ad', cc', hv, hlc, hcm, hA, hcell⟩ := hrd.open_
      rw [hL0l] at hv hlc
      injection hv with hv1 _ hv3
      subst hv1 hv3
      obtain ⟨b9, o9, rfl, hb9, hc9⟩ := hcell i ((x : Nat) : Int) (by rw [hL0]; exact iN_at (by rw [hi]; simp))
      have h1 := Lib.hid (hrd.first hiM)
      have HX1 := Lib.hid (show (L0.take (i + 1)).length = i + 1 by rw [List.length_take, hL0l]; omega)
      have HX2 := Lib.hid (show (L0.drop (i + 1)).length = M - (i + 1) by rw [List.length_drop, hL0l])
      have HKX := Lib.hid hrx
      have HLL := Lib.hid hLL
      have HPRE := Lib.hid hpre
      have HFR := Lib.hid hfr
      have HLEN := Lib.hid (show i + 1 + (t.kids x).length + (M - (i + 1)) = (A' ++ [x]).length + (t.kids x ++ r0).length by rw [hM, hi]; simp; omega)
      have HCAT := Lib.hid (show (L0.take (i + 1) ++ iN (t.kids x)) ++ L0.drop (i + 1) = iN ((A' ++ [x]) ++ (t.kids x ++ r0)) by
        have e1 : L0.take (i + 1) = iN (A' ++ [x]) := by rw [hL0, hi, ← iN_take, show A' ++ x :: r0 = (A' ++ [x]) ++ r0 by simp, List.take_append_of_le_length (by simp), List.take_of_length_le (by simp)]
        have e2 : L0.drop (i + 1) = iN r0 := by rw [hL0, hi, ← iN_drop, show A' ++ x :: r0 = (A' ++ [x]) ++ r0 by simp, List.drop_append_of_le_length (by simp), List.drop_of_length_le (by simp)]; rfl
        rw [e1, e2, ← iN_append, ← iN_append, List.append_assoc])
      have HII := Lib.hid hi
      have i0 : (0 : Int) ≤ (i : Int) := by omega
      have i1 : (i : Int) < (M : Int) := by omega
      have i2 : (0 : Int) ≤ (i : Int) + 1 := by omega
      have i3 : (i : Int) + 1 ≤ (M : Int) := by omega
      have i5 : (i : Int) + 1 ≤ (cc : Int) := by omega
      have d1 : decide ((i : Int) < (M : Int)) = true := by simp; omega
      have e1 : IntKind.i64.wrap ((i : Int) + 1) = (i : Int) + 1 := IntWalk.i64_in _ (by omega)
      have e2 : ((i : Int) + 1).toNat = i + 1 := by omega
      have hc63 : cc ≤ 9223372036854775807 := by unfold maxLen at hcm; exact hcm
      have hkx : (t.kids x).length ≤ 4096 := by omega
      rw [← hM, ← hi]
      by_cases hic : i + 1 < cc
      · have h2 := Lib.hid (hrd.rest hiM hic)
        have hne : cc ≠ i + 1 := by omega
        clear HI hLL hpre hfr hk2 hxl hxt hrx hst hlen hL0 hL0l hrd hcell hcm hA hi hM
        go_wp2
        go_quiet (fail)
        go_wp2
        go_region_held3 (fun _ => True) (trivial)
          (first
            | ((refine step_append_rs (xs := []) (n := i + 1) _ (by rfl) _ _ (by rfl) (by rfl) (by rfl) (Row.nil _ _ _) (h1.out.quiet (((Chg.refl _ _).drewN _).drew)) (by rw [HX1.out]; simp only [List.length_nil]; omega) (by rw [HX1.out]; simp) ?_; intro A1 c1 w1 hr1 hg1 hf1; simp only [List.nil_append] at hr1; have hcA : Chg [] wr w1 := (((Chg.refl _ _).drewN _).drew).grown hg1 (fun k hk => by cases hk); have hfA : ∀ k ∈ foot (.slice A1 (i + 1) c1), wr.heap.size ≤ k := (fun k hk => (hf1 k hk).elim (fun h => by cases h) (fun h => h)); have HFA := Lib.hid (show Fresh wr w1 (.slice A1 (i + 1) c1) (L0.take (i + 1)) from ⟨hr1, hfA, hcA⟩); clear hg1 hf1 hcA hfA hr1))
            | ((refine step_append_rs (n := i + 1 + (t.kids x).length) _ (by rfl) _ _ (by rfl) (by rfl) (by rfl) HFA.out.1 (HKX.out.quiet HFA.out.2.2) (by rw [HX1.out, iN_len]; omega) (by rw [HX1.out, iN_len]) ?_; intro A2 c2 w2 hr2 hg2 hf2; have HFB := Lib.hid (Fresh.append HFA.out hr2 hg2 hf2); clear hg2 hf2 hr2))
            | ((refine step_append_rs (n := i + 1 + (t.kids x).length + (M - (i + 1))) _ (by rfl) _ _ (by rfl) (by rfl) (by rfl) HFB.out.1 (h2.out.quiet HFB.out.2.2) (by rw [List.length_append, HX1.out, HX2.out, iN_len]; omega) (by rw [List.length_append, HX1.out, HX2.out, iN_len]) ?_; intro A3 c3 w3 hr3 hg3 hf3; have HFC := Lib.hid (Fresh.append HFB.out hr3 hg3 hf3); clear hg3 hf3 hr3)))
        all_goals
          go_wp2
          go_roundg out.length
          case measure => simp
          case rel =>
            refine ⟨A' ++ [x], out, t.kids x ++ r0, A3, c3, rfl, ?_, by rw [List.length_append, ← HII.out]; go_num, Lib.hid ⟨by rw [HLL.out]; simp, HPRE.out, ?_⟩⟩
            · rw [← HLEN.out]
              try simp
            · have hf := HFC.out.before HFR.out.2.2
              rw [HCAT.out] at hf
              rw [← HLEN.out]
              exact hf
      · obtain rfl : cc = i + 1 := by omega
        obtain rfl : M = i + 1 := by omega
        have h2 := Lib.hid hrd.rest0
        have i4 : (i : Int) ≤ (i : Int) + 1 := by omega
        clear HI hLL hpre hfr hk2 hxl hxt hrx hst hlen hL0 hL0l hrd hcell hcm hA hi hM
        go_wp2
        go_quiet (fail)
        go_wp2
        go_region_held3 (fun _ => True) (trivial)
          (first
            | ((refine step_append_rs (xs := []) (n := i + 1) _ (by rfl) _ _ (by rfl) (by rfl) (by rfl) (Row.nil _ _ _) (h1.out.quiet (((Chg.refl _ _).drewN _).drew)) (by rw [HX1.out]; simp only [List.length_nil]; omega) (by rw [HX1.out]; simp) ?_; intro A1 c1 w1 hr1 hg1 hf1; simp only [List.nil_append] at hr1; have hcA : Chg [] wr w1 := (((Chg.refl _ _).drewN _).drew).grown hg1 (fun k hk => by cases hk); have hfA : ∀ k ∈ foot (.slice A1 (i + 1) c1), wr.heap.size ≤ k := (fun k hk => (hf1 k hk).elim (fun h => by cases h) (fun h => h)); have HFA := Lib.hid (show Fresh wr w1 (.slice A1 (i + 1) c1) (L0.take (i + 1)) from ⟨hr1, hfA, hcA⟩); clear hg1 hf1 hcA hfA hr1))
            | ((refine step_append_rs (n := i + 1 + (t.kids x).length) _ (by rfl) _ _ (by rfl) (by rfl) (by rfl) HFA.out.1 (HKX.out.quiet HFA.out.2.2) (by rw [HX1.out, iN_len]; omega) (by rw [HX1.out, iN_len]) ?_; intro A2 c2 w2 hr2 hg2 hf2; have HFB := Lib.hid (Fresh.append HFA.out hr2 hg2 hf2); clear hg2 hf2 hr2))
            | ((refine step_append_rs (n := i + 1 + (t.kids x).length + (i + 1 - (i + 1))) _ (by rfl) _ _ (by rfl) (by rfl) (by rfl) HFB.out.1 (h2.out.quiet HFB.out.2.2) (by rw [List.length_append, HX1.out, HX2.out, iN_len]; omega) (by rw [List.length_append, HX1.out, HX2.out, iN_len]) ?_; intro A3 c3 w3 hr3 hg3 hf3; have HFC := Lib.hid (Fresh.append HFB.out hr3 hg3 hf3); clear hg3 hf3 hr3)))
        all_goals
          go_wp2
          go_roundg out.length
          case measure => simp
          case rel =>
            refine ⟨A' ++ [x], out, t.kids x ++ r0, A3, c3, rfl, ?_, by rw [List.length_append, ← HII.out]; go_num, Lib.hid ⟨by rw [HLL.out]; simp, HPRE.out, ?_⟩⟩
            · rw [← HLEN.out]
              try simp
            · have hf := HFC.out.before HFR.out.2.2
              rw [HCAT.out] at hf
              rw [← HLEN.out]
              exact hf
end
end Go.Proofs
end
section
namespace Go.Proofs
open Go.RowKit
set_option linter.unusedVariables false
set_option linter.unusedSimpArgs false

section
variable {w : World} {h : Nat} {T K : List Nat} {r : Rf} {t : Fo} {m : Nat}
theorem rdesc_any (H : RefAt w h T K r) (hs : RSim r t m) {i : Int} {l : List Nat} (hb : Below' t i l) : Calls Try.prog 36 #[ptr h, .int .i64 i] w fun e w' => News w w' e l := by
  unfold Below' at hb
  cases hi : t.has i with
  | false =>
    rw [hi] at hb
    simp only [Bool.false_eq_true, if_false] at hb
    subst hb
    have HH := rhas_any H hs i
    rw [hi] at HH
    clear H hs hi
    go_enter Try.func36, Try.ntmps36
    go_wp2_with (go_at_call 17; refine HH.mono ?_; rintro e w' ⟨rfl, rfl⟩)
    go_ret
    exact News.nil (Chg.refl _ _)
  | true =>
    rw [hi] at hb
    simp only [if_true] at hb
    obtain ⟨n, rfl⟩ : ∃ n : Nat, i = (n : Nat) := Int.eq_ofNat_of_zero_le (by unfold Fo.has at hi; simp at hi; omega)
    rw [t.has_nat] at hi
    rw [Int.toNat_natCast] at hb
    exact rdesc_ok H hs hi hb
theorem Below'.under {t : Fo} (hw : t.WF) {i j : Int} {l : List Nat} (hb : Below' t j l) : i ∈ iN l ↔ t.under i j := by
  unfold Below' at hb
  unfold Fo.under iN
  simp only [List.mem_map]
  cases hj : t.has j with
  | false =>
    rw [hj] at hb
    simp only [Bool.false_eq_true, if_false] at hb
    subst hb
    constructor
    · rintro ⟨a, ha, _⟩; cases ha
    · rintro ⟨_, h0, ha⟩
      have := (ha.there hw).1
      unfold Fo.has at hj
      simp [h0, this] at hj
  | true =>
    rw [hj] at hb
    simp only [if_true] at hb
    have h0 : 0 ≤ j := by unfold Fo.has at hj; simp at hj; omega
    constructor
    · rintro ⟨a, ha, rfl⟩
      exact ⟨by omega, h0, by rw [Int.toNat_natCast]; exact (hb.desc a).1 ha⟩
    · rintro ⟨hi, _, ha⟩
      exact ⟨i.toNat, (hb.desc _).2 ha, by omega⟩
theorem Below'.len {t : Fo} (hw : t.WF) {j : Int} {l : List Nat} (hb : Below' t j l) : l.length ≤ t.size := by
  unfold Below' at hb
  split at hb
  · exact hw.pre_len hb
  · subst hb; exact Nat.zero_le _
set_option maxHeartbeats 1600000 in
set_option maxRecDepth 100000 in
theorem runder_any (H : RefAt w h T K r) (hs : RSim r t m) (i j : Int) {b : Bool} (hb : b = true ↔ t.under i j) : Calls Try.prog 37 #[ptr h, .int .i64 i, .int .i64 j] w fun e w' => e = .returned (.bool b) ∧ Chg [] w w' := by
  obtain ⟨l, hl⟩ := Below'.exists hs.wf j
  have HD := Lib.hid (rdesc_any H hs hl)
  have hiff := hb.trans (hl.under hs.wf).symm
  have hll : l.length ≤ 4096 := Nat.le_trans (hl.len hs.wf) hs.big
  have HI := Lib.hid hiff
  clear H hs hb hl hiff
  go_enter Try.func37, Try.ntmps37
  go_wp2_with (go_at_call 36; refine HD.out.mono ?_; rintro e w1 ⟨A, cc, rfl, hf⟩; have HF := Lib.hid hf; clear hf)
  obtain ⟨A', cc', hv, _, _, _, hcell⟩ := HF.out.rd.open_
  rw [iN_len] at hv
  injection hv with hv1 _ hv3
  subst hv1 hv3
  have HC := Lib.hid (fun k x hk => hcell k x hk)
  clear hcell
  go_loopg [8] l.length (fun gh iv wr => ∃ k : Nat, k + gh = l.length ∧ iv = .int .i64 k ∧ Hid (∀ q, q < k → (iN l)[q]? ≠ some i) ∧ w1 = wr)
  case atStart => exact ⟨0, by omega, rfl, Lib.hid (fun q hq => by omega), rfl⟩
  case round =>
    obtain ⟨k, hk, rfl, HN, rfl⟩ := hrel
    by_cases hlt : k < l.length
    · obtain ⟨x, hx⟩ : ∃ x, l[k]? = some x := ⟨_, List.getElem?_eq_getElem hlt⟩
      obtain ⟨b9, o9, rfl, hb9, hc9⟩ := HC.out k _ (iN_at hx)
      have HX := Lib.hid hx
      have i0 : (0 : Int) ≤ (k : Int) := by omega
      have i1 : (k : Int) < (l.length : Int) := by omega
      clear hx
      by_cases hxi : (x : Int) = i
      · subst hxi
        have hbt := Lib.hid (HI.out.2 (List.mem_of_getElem? (iN_at HX.out)))
        have he : ((x : Int) == (x : Int)) = true := by simp
        go_wp2
        go_ret
        exact ⟨by rw [hbt.out]; rfl, HF.out.2.2⟩
      · have he : ((x : Int) == i) = false := by simpa using hxi
        have HNN := Lib.hid (show ∀ q, q < k + 1 → (iN l)[q]? ≠ some i from fun q hq => by
          by_cases e : q = k
          · subst e; rw [iN_at HX.out]; intro h; exact hxi (Option.some.inj h)
          · exact HN.out q (by omega))
        clear hxi HN
        go_wp2
        go_roundg (l.length - k - 1)
        case measure => omega
        case rel => exact ⟨k + 1, by omega, by go_num, Lib.hid HNN.out, rfl⟩
    · obtain rfl : k = l.length := by omega
      have hbf : b = false := by
        cases hbb : b with
        | false => rfl
        | true =>
          obtain ⟨q, hq⟩ := List.mem_iff_getElem?.1 (HI.out.1 hbb)
          have := (List.getElem?_eq_some_iff.1 hq).1
          rw [iN_len] at this
          exact absurd hq (HN.out q this)
      have HB := Lib.hid hbf
      clear hbf
      go_wp2
      go_ret
      exact ⟨by rw [HB.out]; rfl, HF.out.2.2⟩
/-! ### Prune, by the document -/
def Rf.frees (r : Rf) (l : List Nat) : Rf := l.foldl Rf.free r
theorem frees_snoc (r : Rf) (l : List Nat) (n : Nat) : r.frees (l ++ [n]) = (r.frees l).free n := by unfold Rf.frees; simp
theorem frees_len (r : Rf) (l : List Nat) : (r.frees l).L.length = r.L.length := by
  unfold Rf.frees
  induction l generalizing r with
  | nil => rfl
  | cons a l ih => simp only [List.foldl_cons]; rw [ih]; simp [Rf.free]
theorem frees_T (r : Rf) (l : List Nat) : (r.frees l).T = r.T + l.length := by
  unfold Rf.frees
  induction l generalizing r with
  | nil => simp
  | cons a l ih => simp only [List.foldl_cons]; rw [ih]; simp [Rf.free]; omega
theorem frees_R (r : Rf) (l : List Nat) : (r.frees l).R = r.R := by
  unfold Rf.frees
  induction l generalizing r with
  | nil => rfl
  | cons a l ih => simp only [List.foldl_cons]; rw [ih]; rfl
theorem frees_in {l : List Nat} : ∀ {r : Rf} {k : Nat}, k ∈ l → k < r.L.length → ∃ x, (r.frees l).L[k]? = some (plF x) := by
  unfold Rf.frees
  induction l with
  | nil => intro r k hk; cases hk
  | cons a l ih =>
    intro r k hk hlt
    simp only [List.foldl_cons]
    by_cases h2 : k ∈ l
    · exact ih h2 (by simpa [Rf.free] using hlt)
    · have hka : k = a := by rcases List.mem_cons.1 hk with h | h; exact h; exact absurd h h2
      subst hka
      have out : ∀ (l : List Nat) (r : Rf), k ∉ l → (l.foldl Rf.free r).L[k]? = r.L[k]? := by
        intro l
        induction l with
        | nil => intro r _; rfl
        | cons b l ih2 =>
          intro r hn
          simp only [List.foldl_cons]
          rw [ih2 _ (fun h => hn (by simp [h]))]
          simp only [Rf.free]
          rw [List.getElem?_set_ne (fun e => hn (by simp [e]))]
      rw [out l _ h2]
      exact ⟨_, by simp only [Rf.free]; rw [List.getElem?_set_self hlt]⟩
theorem frees_out {l : List Nat} : ∀ {r : Rf} {k : Nat}, k ∉ l → (r.frees l).L[k]? = r.L[k]? := by
  unfold Rf.frees
  induction l with
  | nil => intro r k _; rfl
  | cons b l ih =>
    intro r k hn
    simp only [List.foldl_cons]
    rw [ih (fun h => hn (by simp [h]))]
    simp only [Rf.free]
    rw [List.getElem?_set_ne (fun e => hn (by simp [e]))]
theorem fr_free {r : Rf} {n k : Nat} (hn : n < r.L.length) : fr (r.free n) k = if k = n then r.T + 1 else fr r k := by
  unfold fr Rf.free
  by_cases e : k = n
  · subst e; rw [if_pos rfl]; simp only; rw [List.getElem?_set_self hn]; rfl
  · rw [if_neg e]; simp only; rw [List.getElem?_set_ne (fun h => e h.symm)]
theorem fr_frees {r : Rf} {l : List Nat} (hl : ∀ x ∈ l, x < r.L.length) (hn : l.Nodup) : (l.reverse).Pairwise (fun a b => fr (r.frees l) b < fr (r.frees l) a) ∧ ∀ a ∈ l, r.T < fr (r.frees l) a ∧ fr (r.frees l) a ≤ (r.frees l).T := by
  have key : ∀ (m : Nat) (l : List Nat), l.length = m → (∀ x ∈ l, x < r.L.length) → l.Nodup → (l.reverse).Pairwise (fun a b => fr (r.frees l) b < fr (r.frees l) a) ∧ ∀ a ∈ l, r.T < fr (r.frees l) a ∧ fr (r.frees l) a ≤ (r.frees l).T := by
    intro m
    induction m with
    | zero =>
      intro l hm _ _
      have : l = [] := List.eq_nil_of_length_eq_zero hm
      subst this
      exact ⟨List.Pairwise.nil, fun a ha => by cases ha⟩
    | succ m ih =>
      intro l hm hl hn
      rcases List.eq_nil_or_concat l with rfl | ⟨l', k, rfl⟩
      · cases hm
      · rw [List.concat_eq_append] at *
        simp at hm
        obtain ⟨n1, n2, n3⟩ := List.nodup_append.1 hn
        have hkl : k ∉ l' := fun hh => n3 k hh k (by simp) rfl
        obtain ⟨i1, i2⟩ := ih l' hm (fun x hx => hl x (by simp [hx])) n1
        have hk : k < (r.frees l').L.length := by rw [frees_len]; exact hl k (by simp)
        rw [frees_snoc]
        have hf : ∀ a, fr ((r.frees l').free k) a = if a = k then (r.frees l').T + 1 else fr (r.frees l') a := fun a => fr_free hk
        have hT : r.T ≤ (r.frees l').T := by rw [frees_T]; omega
        refine ⟨?_, fun a ha => ?_⟩
        · rw [List.reverse_append]
          show (k :: l'.reverse).Pairwise _
          refine List.pairwise_cons.2 ⟨fun b hb => ?_, i1.imp_of_mem fun {a b} ha hb hab => ?_⟩
          · have hbl : b ∈ l' := List.mem_reverse.1 hb
            have hbk : b ≠ k := fun e => hkl (e ▸ hbl)
            rw [hf, hf, if_neg hbk, if_pos rfl]
            have := (i2 b hbl).2
            omega
          · have ha' : a ≠ k := fun e => hkl (e ▸ List.mem_reverse.1 ha)
            have hb' : b ≠ k := fun e => hkl (e ▸ List.mem_reverse.1 hb)
            rw [hf, hf, if_neg ha', if_neg hb']
            exact hab
        · rw [hf]
          show _ ∧ _ ≤ (r.frees l').T + 1
          by_cases e : a = k
          · rw [if_pos e]; omega
          · rw [if_neg e]
            have hal : a ∈ l' := by rcases List.mem_append.1 ha with h | h; exact h; simp at h; exact absurd h e
            have := i2 a hal
            omega
  exact key l.length l rfl hl hn
theorem setRow_len (r : Rf) (o : Option Nat) (A : Option Addr) (cc : Nat) (l : List Nat) : (r.setRow o A cc l).L.length = r.L.length := by
  unfold Rf.setRow
  split
  · rfl
  · split
    · simp
    · rfl
theorem setRow_T (r : Rf) (o : Option Nat) (A : Option Addr) (cc : Nat) (l : List Nat) : (r.setRow o A cc l).T = r.T := by
  unfold Rf.setRow
  split
  · rfl
  · split <;> rfl
theorem setRow_R (r : Rf) (o : Option Nat) (A : Option Addr) (cc : Nat) (l : List Nat) : (r.setRow o A cc l).R = if o = none then l else r.R := by
  unfold Rf.setRow
  split
  · simp
  · split <;> simp
theorem setRow_get {r : Rf} {o : Option Nat} {A : Option Addr} {cc : Nat} {l : List Nat} {k : Nat} {p : Pl} (h : (r.setRow o A cc l).L[k]? = some p) : ∃ p0, r.L[k]? = some p0 ∧ p.there = p0.there ∧ p.par = p0.par ∧ p.freed = p0.freed ∧ p.kids = if o = some k then l else p0.kids := by
  unfold Rf.setRow at h
  cases o with
  | none => exact ⟨p, h, rfl, rfl, rfl, by simp⟩
  | some n =>
    simp only at h
    cases hp : r.L[n]? with
    | none =>
      rw [hp] at h
      refine ⟨p, h, rfl, rfl, rfl, ?_⟩
      rw [if_neg]
      intro e
      injection e with e
      subst e
      simp only at h
      rw [hp] at h; cases h
    | some q =>
      rw [hp] at h
      simp only at h
      by_cases e : n = k
      · subst e
        rw [List.getElem?_set_self (List.getElem?_eq_some_iff.1 hp).1] at h
        injection h with h
        subst h
        exact ⟨q, hp, rfl, rfl, rfl, by simp⟩
      · rw [List.getElem?_set_ne e] at h
        exact ⟨p, h, rfl, rfl, rfl, by simp [e]⟩
theorem fr_setRow (r : Rf) (o : Option Nat) (A : Option Addr) (cc : Nat) (l : List Nat) (k : Nat) : fr (r.setRow o A cc l) k = fr r k := by
  unfold fr
  cases hp : (r.setRow o A cc l).L[k]? with
  | some p =>
    obtain ⟨p0, h0, _, _, h3, _⟩ := setRow_get hp
    rw [h0]
    exact h3
  | none =>
    have := setRow_len r o A cc l
    have h2 := List.getElem?_eq_none_iff.1 hp
    rw [List.getElem?_eq_none (by omega)]
theorem RSim.prune (h : RSim r t m) {n : Nat} (hn : t.there n = true) {l : List Nat} (hl : Pre t (t.kids n) l) : RSim ((r.frees l).setRow (some n) none 0 []) (t.prune n l) (m + 1) := by
  have hw := h.wf.prune hl
  have hd := fun k => hl.desc k
  have hth : ∀ x ∈ l, t.there x = true := fun x hx => ((hd x).1 hx |>.there h.wf).2
  have hlt : ∀ x ∈ l, x < r.L.length := fun x hx => by rw [h.len]; exact h.wf.lt x (hth x hx)
  have hnd := hl.desc_nodup h.wf
  have hnl : n ∉ l := fun hm => ((hd n).1 hm).irrefl h.wf
  obtain ⟨f1, f2⟩ := fr_frees hlt hnd
  have hfree : ∀ x ∈ t.free, x ∉ l := fun x hx hxl => by have := ((h.wf.frees.2 x).1 hx).2; rw [hth x hxl] at this; cases this
  have hfo : ∀ x ∈ t.free, fr (r.frees l) x = fr r x := fun x hx => by unfold fr; rw [frees_out (hfree x hx)]
  have hlen := hl.desc_nodup h.wf
  refine ⟨?_, h.big, hw, ?_, ?_, ?_, ?_, ?_⟩
  · rw [setRow_len, frees_len]; exact h.len
  · intro k p hp
    obtain ⟨p0, h0, e1, e2, e3, e4⟩ := setRow_get hp
    have hk : k < t.size := by have := (List.getElem?_eq_some_iff.1 hp).1; rw [setRow_len, frees_len] at this; rw [← h.len]; exact this
    rw [e1, e2, e4]
    show _ = (t.there k && !decide (k ∈ l)) ∧ _ = (if k = n ∨ k ∈ l then [] else t.kids k) ∧ _ = oI (if k ∈ l then none else t.par k)
    by_cases hkl : k ∈ l
    · obtain ⟨x, hx⟩ := frees_in (r := r) hkl (hlt k hkl)
      rw [hx] at h0
      injection h0 with h0
      subst h0
      have hkn : ¬ (some n = some k) := fun e => hnl (by injection e with e; rw [e]; exact hkl)
      rw [if_neg hkn, if_pos (.inr hkl), if_pos hkl]
      simp [plF, hkl, oI]
    · rw [frees_out hkl] at h0
      obtain ⟨q1, q2, q3⟩ := h.pl k p0 h0
      rw [q1, q2, q3, if_neg hkl]
      refine ⟨by simp [hkl], ?_, rfl⟩
      by_cases e : n = k
      · subst e; rw [if_pos rfl, if_pos (.inl rfl)]
      · rw [if_neg (fun e2 => e (Option.some.inj e2)), if_neg (fun e2 => e2.elim (fun e3 => e e3.symm) hkl)]
  · rw [setRow_R, if_neg (by simp), frees_R]; exact h.roots
  · show (l.reverse ++ t.free).Pairwise _
    simp only [fr_setRow]
    refine List.pairwise_append.2 ⟨f1, h.ord.imp_of_mem fun {a b} ha hb hab => by rw [hfo a ha, hfo b hb]; exact hab, fun a ha b hb => ?_⟩
    rw [hfo b hb]
    have := (f2 a (List.mem_reverse.1 ha)).1
    have := h.top b hb
    omega
  · intro k hk
    have hk : k ∈ l.reverse ++ t.free := hk
    rw [fr_setRow, setRow_T]
    rcases List.mem_append.1 hk with h1 | h1
    · exact (f2 k (List.mem_reverse.1 h1)).2
    · rw [hfo k h1, frees_T]
      have := h.top k h1
      omega
  · rw [setRow_T, frees_T]
    have := h.time
    have := nodup_len hnd (fun x hx => by have := hlt x hx; rw [h.len] at this; exact this)
    have := h.big
    omega
end
end Go.Proofs
end
section
namespace Go.Proofs
open Go.RowKit
set_option linter.unusedVariables false
set_option linter.unusedSimpArgs false

section
variable {w : World} {h : Nat} {T K : List Nat} {r : Rf} {t : Fo} {m : Nat}
/-- What there is at a place, for a walk that writes. -/
theorem RefAt.open_ (H : RefAt w h T K r) {n : Nat} (hn : n < r.L.length) : ∃ g cl, w.cell? ⟨h, 0, none⟩ = some (.slice (some ⟨g, 0, none⟩) r.L.length cl) ∧ h < w.heap.size ∧ g < w.heap.size ∧ g ∈ T ∧ (∀ j, w.frozen? ⟨g, j, none⟩ = false) ∧ (0 : Int) ≤ (n : Int) ∧ (n : Int) < (r.L.length : Int) ∧
    ∃ p, r.L[n]? = some p ∧ w.cell? ⟨g, n * 4, none⟩ = some (.bool p.there) ∧ w.cell? ⟨g, n * 4 + 1, none⟩ = some (.int .i64 p.par) ∧ w.cell? ⟨g, n * 4 + 2, none⟩ = some p.V ∧ w.cell? ⟨g, n * 4 + 3, none⟩ = some (.int .i64 p.freed) ∧
      (∀ (W : World), Chg [] w W → ∀ (j : Nat) (p' : Pl) (u : Value), j < 4 → p'.cells = p.cells.set j u → (Rd w p'.V (iN p'.kids) ∧ ∀ x ∈ foot p'.V, x ∈ K) → RefAt (W.setCell ⟨g, n * 4 + j, none⟩ u) h T K { r with L := r.L.set n p' } ∧ Chg T w (W.setCell ⟨g, n * 4 + j, none⟩ u)) := by
  obtain ⟨g, cl, hgT, hne, hcl, htell⟩ := H.tell
  obtain ⟨a0, a1, a2, lh, lg, fg, fh, hpl⟩ := htell w (Chg.refl _ _)
  obtain ⟨p, hp⟩ : ∃ p, r.L[n]? = some p := ⟨_, List.getElem?_eq_getElem hn⟩
  obtain ⟨b0, b1, b2, b3⟩ := hpl n p hp
  refine ⟨g, cl, a0, lh, lg, hgT, fg, by omega, by omega, p, hp, b0, b1, b2, b3, fun W hc j p' u hj hu hr => ?_⟩
  have HW := H.quiet hc
  have a0' := (htell W hc).1
  have := HW.write (g := g) (cl := cl) (k := n) (W2 := W.setCell ⟨g, n * 4 + j, none⟩ u) (p' := p') a0' ((Chg.refl _ _).setCell (.inl (by simp)) _) (fun hrow => by
    rw [pl_set hp hu hj]
    exact hrow.set_ (by omega) _) (by
    obtain ⟨g0, cl0, hB, hL, hP, hR, hRK, hK, hTT, cs0, hG⟩ := HW
    have e := hB.cell 0
    simp only [List.getElem?_toArray, List.getElem?_cons_zero] at e
    rw [e] at a0'
    simp only [Option.some.injEq, Value.slice.injEq, Addr.mk.injEq, and_true, true_and] at a0'
    obtain ⟨rfl, rfl⟩ := a0'
    exact ⟨_, hG.set_ _ _⟩) (K' := K) (fun x hx => hx) (by
    obtain ⟨g0, cl0, hB, hL, hP, hR, hRK, hK, hTT, cs0, hG⟩ := HW
    exact hK) ⟨hr.1.quiet hc, hr.2⟩
  exact ⟨this.1, (Chg.any hc).trans this.2 (fun k hk => .inl hk)⟩
set_option maxHeartbeats 3200000 in
set_option maxRecDepth 100000 in
theorem rprune_ok (H : RefAt w h T K r) (hs : RSim r t m) (hm : m ≤ 1000000) {n : Nat} (hn : t.there n = true) {l : List Nat} (hl : Pre t (t.kids n) l) :
    Calls Try.prog 34 #[ptr h, .int .i64 (n : Nat)] w fun e w' => ∃ A cc, e = .returned (.tuple #[.slice A l.length cc, .int .i64 0]) ∧ Rd w' (.slice A l.length cc) (iN l) ∧ ∃ r', RSim r' (t.prune n l) (m + 1) ∧ RTurns h T K r' w w' := by
  have HHS := rhas_any H hs (n : Nat)
  rw [t.has_nat, hn] at HHS
  have HD := Lib.hid (rdesc_any H hs (i := (n : Nat)) (l := l) (by unfold Below'; rw [t.has_nat, hn, if_pos rfl, Int.toNat_natCast]; exact hl))
  have hlt : ∀ x ∈ l, x < r.L.length := fun x hx => by rw [hs.len]; exact hs.wf.lt x ((hl.desc x).1 hx |>.there hs.wf).2
  have hnlt : n < r.L.length := by rw [hs.len]; exact hs.wf.lt n hn
  have hll : l.length ≤ 4096 := Nat.le_trans (hs.wf.pre_len hl) hs.big
  have hT := hs.time
  have HSIM := Lib.hid (hs.prune hn hl)
  have HLT := Lib.hid hlt
  have HTL := Lib.hid H.ltT
  have HH := Lib.hid H
  have HNL := Lib.hid hnlt
  have HTM := Lib.hid (show ∀ k, k ≤ l.length → 0 ≤ (r.frees (l.take k)).T ∧ (r.frees (l.take k)).T < 4611686018427387904 from fun k hk => by rw [frees_T, List.length_take]; omega)
  clear H hs hn hl hlt hnlt hT
  go_enter Try.func34, Try.ntmps34
  go_wp2_with (first
    | (go_at_call 17; refine HHS.mono ?_; rintro e w' ⟨rfl, rfl⟩)
    | (go_at_call 36; refine HD.out.mono ?_; rintro e w1 ⟨A, cc, rfl, hf⟩; have HF := Lib.hid hf; clear hf))
  have hft : ∀ k ∈ foot (.slice A l.length cc), k ∉ T := fun k hk hkT => by have := HF.out.2.1 k hk; have := HTL.out k hkT; omega
  have HFT := Lib.hid hft
  clear hft
  go_loopg [7] l.length (fun gh iv wr => ∃ k : Nat, k + gh = l.length ∧ iv = .int .i64 k ∧ Hid (RefAt wr h T K (r.frees (l.take k)) ∧ Chg T w wr ∧ Rd wr (.slice A l.length cc) (iN l)))
  case atStart => exact ⟨0, by omega, rfl, Lib.hid ⟨HH.out.quiet HF.out.2.2, HF.out.2.2.any, HF.out.rd⟩⟩
  case round =>
    obtain ⟨k, hk, rfl, HI⟩ := hrel
    obtain ⟨H1, hc, hrd⟩ := HI.out
    by_cases hlt : k < l.length
    · obtain ⟨x, hx⟩ : ∃ x, l[k]? = some x := ⟨_, List.getElem?_eq_getElem hlt⟩
      obtain ⟨A', cc', hv, _, _, _, hcell⟩ := hrd.open_
      rw [iN_len] at hv
      injection hv with hv1 _ hv3
      subst hv1 hv3
      obtain ⟨b9, o9, rfl, hb9, hc9⟩ := hcell k _ (iN_at hx)
      have HCALL := Lib.hid (rfree_any H1 (n := x) (by rw [frees_len]; exact HLT.out x (List.mem_of_getElem? hx)) (HTM.out k (by omega)))
      have hstep : (r.frees (l.take k)).free x = r.frees (l.take (k + 1)) := by rw [List.take_add_one, hx, ← frees_snoc]; rfl
      rw [hstep] at HCALL
      have HC := Lib.hid hc
      have HRD := Lib.hid hrd
      have i0 : (0 : Int) ≤ (k : Int) := by omega
      have i1 : (k : Int) < (l.length : Int) := by omega
      clear H1 hc hrd HI hcell hx hstep
      go_wp2_with (go_at_call 51; refine HCALL.out.mono ?_; rintro e w2 ⟨rfl, H2, hc2⟩; have HH2 := Lib.hid H2; have HC2 := Lib.hid hc2; clear H2 hc2)
      go_roundg (l.length - k - 1)
      case measure => omega
      case rel => exact ⟨k + 1, by omega, by go_num, Lib.hid ⟨HH2.out, HC.out.trans HC2.out (fun k hk => .inl hk), HRD.out.chg HC2.out HFT.out⟩⟩
    · obtain rfl : k = l.length := by omega
      have et : l.take l.length = l := List.take_length
      rw [et] at H1
      obtain ⟨g, cl, a0, lh, lg, hgT, fg, j0, j1, p, hp, b0, b1, b2, b3, hst⟩ := H1.open_ (n := n) (by rw [frees_len]; exact HNL.out)
      obtain ⟨t1, t2⟩ := hst wr (Chg.refl _ _) 2 { p with A := none, cc := 0, kids := [] } (.slice none 0 0) (by omega) rfl ⟨Rd.nil _, fun x hx => by cases hx⟩
      have hset : (r.frees l).setRow (some n) none 0 [] = { r.frees l with L := (r.frees l).L.set n { p with A := none, cc := 0, kids := [] } } := by unfold Rf.setRow; simp only [hp]
      rw [← hset] at t1
      have hrd2 := hrd.chg ((Chg.refl [g] wr).setCell (p := ⟨g, n * 4 + 2, none⟩) (.inl (by simp)) (.slice none 0 0)) (fun k hk hkg => HFT.out k hk (by simp at hkg; subst hkg; exact hgT))
      have HT1 := Lib.hid t1
      have HT2 := Lib.hid (hc.trans t2 (fun k hk => .inl hk))
      have HRD2 := Lib.hid hrd2
      clear H1 hc hrd HI et hgT hp hst t1 t2 hset hrd2
      go_wp2
      go_ret2
      exact ⟨A, cc, rfl, HRD2.out, _, HSIM.out, K, HT1.out, fun k hk => .inl hk, HT2.out⟩
theorem RSim.one (h : RSim r t m) : RSim r t (m + 1) := h.more (Nat.le_succ m)
theorem rprune_any (H : RefAt w h T K r) (hs : RSim r t m) (hm : m ≤ 1000000) {i : Int} {l : List Nat} (hb : Below' t i l) :
    Calls Try.prog 34 #[ptr h, .int .i64 i] w fun e w' => ∃ A cc, e = .returned (.tuple #[.slice A l.length cc, .int .i64 (t.noE i)]) ∧ Rd w' (.slice A l.length cc) (iN l) ∧ ∃ r', RSim r' (t.pruneI i l) (m + 1) ∧ RTurns h T K r' w w' := by
  unfold Fo.pruneI Fo.noE
  unfold Below' at hb
  cases hi : t.has i with
  | false =>
    rw [hi] at hb
    simp only [Bool.false_eq_true, if_false] at hb ⊢
    subst hb
    have HHS := rhas_any H hs i
    rw [hi] at HHS
    have HFIN := Lib.hid (show ∃ r', RSim r' t (m + 1) ∧ RTurns h T K r' w w from ⟨r, hs.one, RTurns.refl H (Chg.refl _ _)⟩)
    clear H hs hi
    go_enter Try.func34, Try.ntmps34
    go_wp2_with (go_at_call 17; refine HHS.mono ?_; rintro e w' ⟨rfl, rfl⟩)
    go_ret2
    exact ⟨none, 0, rfl, Rd.nil _, HFIN.out⟩
  | true =>
    rw [hi] at hb
    simp only [if_true] at hb ⊢
    obtain ⟨n, rfl⟩ : ∃ n : Nat, i = (n : Nat) := Int.eq_ofNat_of_zero_le (by unfold Fo.has at hi; simp at hi; omega)
    rw [t.has_nat] at hi
    rw [Int.toNat_natCast] at hb ⊢
    exact rprune_ok H hs hm hi hb
end
end Go.Proofs
end
section
namespace Go.Proofs
open Go.RowKit
set_option linter.unusedVariables false
set_option linter.unusedSimpArgs false

section
variable {w : World} {h : Nat} {T K : List Nat} {r : Rf} {t : Fo} {m : Nat}
theorem RefAt.plok (H : RefAt w h T K r) {n : Nat} {p : Pl} (hp : r.L[n]? = some p) : Rd w p.V (iN p.kids) ∧ ∀ x ∈ foot p.V, x ∈ K := by
  obtain ⟨_, _, _, _, hP, _⟩ := H
  exact hP p (List.mem_of_getElem? hp)
/-! ### Drop, by the document -/
def Rf.setPar (r : Rf) (p : Int) (k : Nat) : Rf := match r.L[k]? with | some q => { r with L := r.L.set k { q with par := p } } | none => r
def Rf.pars (r : Rf) (p : Int) (l : List Nat) : Rf := l.foldl (fun r k => r.setPar p k) r
theorem setPar_len (r : Rf) (p : Int) (k : Nat) : (r.setPar p k).L.length = r.L.length := by unfold Rf.setPar; split <;> simp
theorem setPar_get (r : Rf) (p : Int) (k j : Nat) : (r.setPar p k).L[j]? = (r.L[j]?).map fun q => if j = k then { q with par := p } else q := by
  unfold Rf.setPar
  cases hq : r.L[k]? with
  | none =>
    cases hj : r.L[j]? with
    | none => rfl
    | some q =>
      have : j ≠ k := fun e => by subst e; rw [hq] at hj; cases hj
      simp [hj, this]
  | some q =>
    simp only
    by_cases e : k = j
    · subst e
      rw [List.getElem?_set_self (List.getElem?_eq_some_iff.1 hq).1, hq]
      simp
    · rw [List.getElem?_set_ne e]
      have e' : j ≠ k := fun h => e h.symm
      cases r.L[j]? <;> simp [e']
theorem setPar_T (r : Rf) (p : Int) (k : Nat) : (r.setPar p k).T = r.T := by unfold Rf.setPar; split <;> rfl
theorem setPar_R (r : Rf) (p : Int) (k : Nat) : (r.setPar p k).R = r.R := by unfold Rf.setPar; split <;> rfl
theorem pars_snoc (r : Rf) (p : Int) (l : List Nat) (k : Nat) : r.pars p (l ++ [k]) = (r.pars p l).setPar p k := by unfold Rf.pars; simp
theorem pars_len (p : Int) : ∀ (l : List Nat) (r : Rf), (r.pars p l).L.length = r.L.length
  | [], r => rfl
  | k :: l, r => by
    show ((r.setPar p k).pars p l).L.length = _
    rw [pars_len p l, setPar_len]
theorem pars_T (p : Int) : ∀ (l : List Nat) (r : Rf), (r.pars p l).T = r.T
  | [], r => rfl
  | k :: l, r => by
    show ((r.setPar p k).pars p l).T = _
    rw [pars_T p l, setPar_T]
theorem pars_R (p : Int) : ∀ (l : List Nat) (r : Rf), (r.pars p l).R = r.R
  | [], r => rfl
  | k :: l, r => by
    show ((r.setPar p k).pars p l).R = _
    rw [pars_R p l, setPar_R]
theorem pars_get (p : Int) : ∀ (l : List Nat) (r : Rf) (j : Nat), (r.pars p l).L[j]? = (r.L[j]?).map fun q => if j ∈ l then { q with par := p } else q
  | [], r, j => by
    show r.L[j]? = _
    cases r.L[j]? <;> simp
  | k :: l, r, j => by
    show ((r.setPar p k).pars p l).L[j]? = _
    rw [pars_get p l, setPar_get]
    cases r.L[j]? with
    | none => rfl
    | some q =>
      simp only [Option.map_some, List.mem_cons]
      by_cases e : j = k
      · subst e
        by_cases e2 : j ∈ l <;> simp [e2]
      · by_cases e2 : j ∈ l <;> simp [e, e2]
theorem fr_pars (r : Rf) (p : Int) (l : List Nat) (j : Nat) : fr (r.pars p l) j = fr r j := by
  unfold fr
  rw [pars_get]
  cases r.L[j]? with
  | none => rfl
  | some q => simp only [Option.map_some]; split <;> rfl
theorem RSim.drop (h : RSim r t m) {n : Nat} (hn : t.there n = true) {A : Option Addr} {cc : Nat} {out : List Nat} (hout : out = (t.row (t.par n)).flatMap (fun i => if i = n then t.kids n else [i])) :
    RSim ((((r.pars (oI (t.par n)) (t.kids n)).setRow (t.par n) A cc out)).free n) (t.drop n) (m + 1) := by
  have hw := h.wf.drop hn
  have hs := h.wf.self_par hn
  have hnl : n < r.L.length := by rw [h.len]; exact h.wf.lt n hn
  have hl2 : n < ((r.pars (oI (t.par n)) (t.kids n)).setRow (t.par n) A cc out).L.length := by rw [setRow_len, pars_len]; exact hnl
  have hT2 : ((r.pars (oI (t.par n)) (t.kids n)).setRow (t.par n) A cc out).T = r.T := by rw [setRow_T, pars_T]
  have hfr : ∀ k, fr ((((r.pars (oI (t.par n)) (t.kids n)).setRow (t.par n) A cc out)).free n) k = if k = n then r.T + 1 else fr r k := fun k => by
    rw [fr_free hl2, hT2, fr_setRow, fr_pars]
  have hfn : ∀ k ∈ t.free, k ≠ n := fun k hk e => by subst e; have := ((h.wf.frees.2 k).1 hk).2; rw [hn] at this; cases this
  have hkn : n ∉ t.kids n := fun hm => (Anc.kid hm).irrefl h.wf
  refine ⟨?_, by rw [Fo.drop_size]; exact h.big, hw, ?_, ?_, ?_, ?_, ?_⟩
  · unfold Rf.free; rw [List.length_set, setRow_len, pars_len, Fo.drop_size]; exact h.len
  · intro k p hp
    rw [Fo.drop_there, Fo.drop_par]
    have hrow := Fo.drop_row t n (some k)
    unfold Rf.free at hp
    simp only at hp
    by_cases e : n = k
    · subst e
      rw [List.getElem?_set_self hl2] at hp
      injection hp with hp
      subst hp
      rw [upd_same, if_pos rfl]
      refine ⟨rfl, ?_, rfl⟩
      rw [if_neg (fun e => hs e.symm), if_pos rfl] at hrow
      exact hrow.symm
    · rw [List.getElem?_set_ne e] at hp
      have e' : k ≠ n := fun h => e h.symm
      obtain ⟨p0, h0, e1, e2, e3, e4⟩ := setRow_get hp
      rw [pars_get] at h0
      cases hq : r.L[k]? with
      | none => rw [hq] at h0; cases h0
      | some q =>
        rw [hq] at h0
        simp only [Option.map_some, Option.some.injEq] at h0
        obtain ⟨q1, q2, q3⟩ := h.pl k q hq
        rw [upd_other _ _ e', if_neg e', e1, e2, e4]
        refine ⟨?_, ?_, ?_⟩
        · subst h0; split <;> exact q1
        · show _ = (t.drop n).row (some k)
          rw [hrow]
          by_cases e5 : t.par n = some k
          · rw [if_pos e5, if_pos e5.symm]; exact hout
          · rw [if_neg e5, if_neg (fun e6 => e5 e6.symm), if_neg (fun e6 => e' (Option.some.inj e6))]
            subst h0
            split <;> exact q2
        · subst h0
          by_cases e5 : k ∈ t.kids n
          · rw [if_pos e5, if_pos e5]
          · rw [if_neg e5, if_neg e5]; exact q3
  · show ((r.pars (oI (t.par n)) (t.kids n)).setRow (t.par n) A cc out).R = (t.drop n).row none
    rw [setRow_R, pars_R, Fo.drop_row]
    by_cases e : t.par n = none
    · rw [if_pos e, if_pos e.symm]; exact hout
    · rw [if_neg e, if_neg (fun e6 => e e6.symm), if_neg (by simp)]; exact h.roots
  · rw [Fo.drop_free]
    refine List.pairwise_cons.2 ⟨fun b hb => ?_, h.ord.imp_of_mem fun {a b} ha hb hab => ?_⟩
    · rw [hfr, hfr, if_pos rfl, if_neg (hfn b hb)]
      have := h.top b hb
      omega
    · rw [hfr, hfr, if_neg (hfn a ha), if_neg (hfn b hb)]; exact hab
  · rw [Fo.drop_free]
    intro k hk
    rw [hfr]
    show _ ≤ ((r.pars (oI (t.par n)) (t.kids n)).setRow (t.par n) A cc out).T + 1
    rw [hT2]
    rcases List.mem_cons.1 hk with rfl | hk
    · rw [if_pos rfl]; omega
    · rw [if_neg (hfn k hk)]
      have := h.top k hk
      omega
  · show 0 ≤ ((r.pars (oI (t.par n)) (t.kids n)).setRow (t.par n) A cc out).T + 1 ∧ ((r.pars (oI (t.par n)) (t.kids n)).setRow (t.par n) A cc out).T + 1 ≤ _
    rw [hT2]
    have := h.time
    omega
theorem flat_take_len {α β : Type} (f : α → List β) (l : List α) (k : Nat) : ((l.take k).flatMap f).length ≤ (l.flatMap f).length := by
  have : l.flatMap f = (l.take k).flatMap f ++ (l.drop k).flatMap f := by rw [← List.flatMap_append, List.take_append_drop]
  rw [this, List.length_append]
  omega
def outTo (R ks : List Nat) (n k : Nat) : List Nat := (R.take k).flatMap fun i => if i = n then ks else [i]
theorem outTo_yes {R ks : List Nat} {n k : Nat} (h : R[k]? = some n) : outTo R ks n (k + 1) = outTo R ks n k ++ ks := by
  unfold outTo; rw [List.take_add_one, h, List.flatMap_append]; simp
theorem outTo_no {R ks : List Nat} {n k x : Nat} (h : R[k]? = some x) (hx : x ≠ n) : outTo R ks n (k + 1) = outTo R ks n k ++ [x] := by
  unfold outTo; rw [List.take_add_one, h, List.flatMap_append]; simp [hx]
theorem outTo_all (R ks : List Nat) (n : Nat) : outTo R ks n R.length = R.flatMap fun i => if i = n then ks else [i] := by unfold outTo; rw [List.take_length]
set_option maxHeartbeats 3200000 in
set_option maxRecDepth 100000 in
theorem rdrop_ok (H : RefAt w h T K r) (hs : RSim r t m) (hm : m ≤ 1000000) {n : Nat} (hn : t.there n = true) :
    Calls Try.prog 33 #[ptr h, .int .i64 (n : Nat)] w fun e w' => e = .returned (.int .i64 0) ∧ ∃ r', RSim r' (t.drop n) (m + 1) ∧ RTurns h T K r' w w' := by
  have HHS := rhas_any H hs (n : Nat)
  rw [t.has_nat, hn] at HHS
  have hnl : n < r.L.length := by rw [hs.len]; exact hs.wf.lt n hn
  obtain ⟨g, cl, a0, lh, lg, hgT, fg, i0, i1, p, hp, b0, b1, b2, b3, _⟩ := H.open_ hnl
  obtain ⟨q1, q2, q3⟩ := hs.pl n p hp
  obtain ⟨hkr, hkK⟩ := H.plok hp
  have hoP : ∀ q, t.par n = some q → t.there q = true := fun q e => hs.wf.up hn e
  have HROW := Lib.hid (fun W (hc : Chg [] w W) => rrow_any (H.quiet hc) hs hoP)
  have HOUT := Lib.hid (fun A cc => hs.drop hn (A := A) (cc := cc) (out := (t.row (t.par n)).flatMap (fun i => if i = n then t.kids n else [i])) rfl)
  have hrl : (t.row (t.par n)).length ≤ 4096 := Nat.le_trans (hs.wf.row_len _) hs.big
  have hol : ((t.row (t.par n)).flatMap (fun i => if i = n then t.kids n else [i])).length ≤ 4096 := by
    have h1 := (hs.wf.drop hn).row_len (t.par n)
    rw [Fo.drop_row, if_pos rfl, Fo.drop_size] at h1
    exact Nat.le_trans h1 hs.big
  have hkl : (t.kids n).length ≤ 4096 := Nat.le_trans (hs.wf.row_len (some n)) hs.big
  have HKL := Lib.hid (show ∀ x ∈ t.kids n, x < r.L.length from fun x hx => by rw [hs.len]; exact hs.wf.lt x (hs.wf.kid hx).1)
  have HPL := Lib.hid (show ∀ q, t.par n = some q → q < r.L.length from fun q e => by rw [hs.len]; exact hs.wf.lt q (hoP q e))
  have HTL := Lib.hid H.ltT
  have HKT := Lib.hid H.apart
  have HTIME := Lib.hid hs.time
  obtain ⟨P, hP⟩ : ∃ P, P = t.par n := ⟨_, rfl⟩
  obtain ⟨R, hR⟩ : ∃ R, R = t.row P := ⟨_, rfl⟩
  obtain ⟨ks, hks⟩ : ∃ ks, ks = t.kids n := ⟨_, rfl⟩
  obtain ⟨td, htd⟩ : ∃ td, td = t.drop n := ⟨_, rfl⟩
  obtain ⟨pT, hpT⟩ : ∃ x, x = p.there := ⟨_, rfl⟩
  obtain ⟨pF, hpF⟩ : ∃ x, x = p.freed := ⟨_, rfl⟩
  obtain ⟨pP, hpP⟩ : ∃ x, x = p.par := ⟨_, rfl⟩
  obtain ⟨pA, hpA⟩ : ∃ x, x = p.A := ⟨_, rfl⟩
  obtain ⟨pc, hpc⟩ : ∃ x, x = p.cc := ⟨_, rfl⟩
  have hpV : p.V = .slice pA ks.length pc := by rw [hpA, hpc, hks, ← q2]
  rw [hpV] at b2 hkr hkK
  rw [← hpT] at b0
  rw [← hpP] at b1 q3
  rw [← hpF] at b3
  rw [q2, ← hks] at hkr
  rw [← hP] at HROW HOUT hrl hol HPL q3
  rw [← hR] at HROW HOUT hrl hol
  rw [← hks] at HOUT hol hkl HKL
  rw [← htd] at HOUT ⊢
  rw [← q3] at HROW HOUT
  have HOL := Lib.hid (show ∀ k, (outTo R ks n k).length ≤ 4096 from fun k => Nat.le_trans (flat_take_len _ R k) hol)
  rw [← outTo_all] at HOUT
  have HKR := Lib.hid hkr
  have HKK := Lib.hid hkK
  have HH := Lib.hid H
  have HPP := Lib.hid q3
  clear H hs hn hnl hp q1 q2 q3 hpV hkr hkK hoP hP hR hks htd hpT hpF hpP hpA hpc
  go_enter Try.func33, Try.ntmps33
  go_wp2_with (first
    | (go_at_call 17; refine HHS.mono ?_; rintro e w' ⟨rfl, rfl⟩)
    | (go_at_call 50; (refine (HROW.out _ ((Chg.refl _ _).alloc _)).mono ?_; rintro e w' ⟨rfl, Al, cl2, rfl, hlr, hlK⟩; have HLR := Lib.hid hlr; have HLK := Lib.hid hlK; clear hlr hlK)))
  obtain ⟨in0, hi0, hq0, hq1, hq2⟩ := info_parts Try.num_info
  obtain ⟨bx, hbx⟩ : ∃ bx : Obj, bx = .cells #[.bool pT, .int .i64 pP, .slice pA ks.length pc, .int .i64 pF] 62 := ⟨_, rfl⟩
  have HBX := Lib.hid (show Blk (w.alloc bx) w.heap.size 62 #[.bool pT, .int .i64 pP, .slice pA ks.length pc, .int .i64 pF] by rw [hbx]; exact Blk.new w 62 _)
  rw [← hbx] at HLR ⊢
  clear hbx a0 b0 b1 b2 b3 fg hol HROW
  go_loopg [6, 8] R.length (fun gh ov iv wr => ∃ (k : Nat) (A : Option Addr) (cc : Nat), k + gh = R.length ∧ ov = .slice A (outTo R ks n k).length cc ∧ iv = .int .i64 k ∧ Hid (Row wr 3 1 (.slice A (outTo R ks n k).length cc) (outTo R ks n k).length (ints (iN (outTo R ks n k))) ∧ (∀ j ∈ foot (.slice A (outTo R ks n k).length cc), w.heap.size + 1 ≤ j) ∧ Chg [] (w.alloc bx) wr))
  case atStart => exact ⟨0, none, 0, by omega, rfl, rfl, Lib.hid ⟨Row.nil _ _ _, fun j hj => (by cases hj), Chg.refl _ _⟩⟩
  case round =>
    obtain ⟨k, A, cc, hk, rfl, rfl, HI⟩ := hrel
    obtain ⟨hrow, hft, hc⟩ := HI.out
    have hsz := hc.size
    have hbx := HBX.out.chg hc (by simp)
    have x1 := hbx.cell 1
    have x2 := hbx.cell 2
    have lbx := hbx.lt
    simp only [List.getElem?_toArray, List.getElem?_cons_zero, List.getElem?_cons_succ] at x1 x2
    simp only [World.size_alloc] at hsz
    have holk := HOL.out k
    by_cases hlt : k < R.length
    · obtain ⟨x, hx⟩ : ∃ x, R[k]? = some x := ⟨_, List.getElem?_eq_getElem hlt⟩
      obtain ⟨A', cc', hv, _, _, _, hcell⟩ := (HLR.out.quiet hc).open_
      rw [iN_len] at hv
      injection hv with hv1 _ hv3
      subst hv1 hv3
      obtain ⟨b9, o9, rfl, hb9, hc9⟩ := hcell k _ (iN_at hx)
      have i0' : (0 : Int) ≤ (k : Int) := by omega
      have i1' : (k : Int) < (R.length : Int) := by omega
      have HROW := Lib.hid hrow
      have HFT := Lib.hid hft
      have HC := Lib.hid hc
      have HKW := Lib.hid (HKR.out.quiet (((Chg.refl [] w).alloc bx).then hc))
      by_cases hxn : x = n
      · subst hxn
        have he : ((x : Int) == (x : Int)) = true := by simp
        have HOS := Lib.hid (outTo_yes (ks := ks) hx)
        clear hrow hft hc HI hcell hx hbx
        go_wp2_with (at_builtin; (refine wpList_append_rs (n := (outTo R ks x k).length + ks.length) _ (by rfl) _ _ (by rfl) (v := .slice A (outTo R ks x k).length cc) (x := .slice pA ks.length pc) (xs := iN (outTo R ks x k)) (l := iN ks) (by rfl) (by rfl) (by rw [iN_len]; exact HROW.out) HKW.out (by rw [iN_len, iN_len]; omega) (by rw [iN_len, iN_len]) ?_; intro A1 c1 w1 hown hgrow hat; have HOWN := Lib.hid hown; have HG := Lib.hid hgrow; have HAT := Lib.hid hat; clear hown hgrow hat))
        go_roundg (R.length - k - 1)
        case measure => omega
        case rel =>
          have hcf : Chg (foot (.slice A (outTo R ks x k).length cc)) wr w1 := (Chg.refl _ wr).grown HG.out (fun j hj => .inl (row_mem hj))
          refine ⟨k + 1, A1, c1, by omega, by rw [HOS.out, List.length_append], by go_num, Lib.hid ⟨?_, ?_, (HC.out.any.trans hcf (fun j hj => .inl hj)).mono (fun j hj => .inr (by have := HFT.out j hj; simp; omega))⟩⟩
          · have ho := HOWN.out
            rw [← iN_append, iN_len] at ho
            rw [HOS.out]
            rw [List.length_append] at ho ⊢
            exact ho
          · intro j hj
            rw [HOS.out, List.length_append] at hj
            rcases HAT.out j hj with h9 | h9
            · exact HFT.out j h9
            · omega
      · have he : ((x : Int) == (n : Int)) = false := by simp; omega
        have HOS := Lib.hid (outTo_no (ks := ks) hx hxn)
        clear hrow hft hc HI hcell hx hbx
        go_wp2_with (at_builtin; (refine wpList_append_row _ (by rfl) _ _ 37 (by rfl) 3 in0 (.int .i64 0) 1 8 Try.underlying37 hi0 hq0 hq1 hq2 rfl (.slice A (outTo R ks n k).length cc) (outTo R ks n k).length (ints (iN (outTo R ks n k))) (by rfl) (HROW.out.alloc _) ⟨wr.heap.size, 0, none⟩ 1 1 [.int .i64 (x : Nat)] (by rfl) (by rfl) (World.news_of_block (cs := #[.int .i64 (x : Nat)]) (t := 3) (fr := (0, 0)) (heap_alloc_new wr _)) (by simp [Value.oneCell']) (by omega) (by unfold maxLen; omega) (by omega) (wr.heap.size + 1) (by simp) ?_; intro gg cap w1 hown hgrow hat hlt1; have HOWN := Lib.hid hown; have HG := Lib.hid hgrow; have HAT := Lib.hid hat; clear hown hgrow hat))
        go_roundg (R.length - k - 1)
        case measure => omega
        case rel =>
          have hcf : Chg (foot (.slice A (outTo R ks n k).length cc)) wr w1 := ((Chg.refl _ wr).alloc _).grown HG.out (fun j hj => .inl (row_mem hj))
          refine ⟨k + 1, some ⟨gg, 0, none⟩, cap, by omega, by rw [HOS.out, List.length_append]; rfl, by go_num, Lib.hid ⟨?_, ?_, (HC.out.any.trans hcf (fun j hj => .inl hj)).mono (fun j hj => .inr (by have := HFT.out j hj; simp; omega))⟩⟩
          · rw [HOS.out, iN_append, ints_append, List.length_append]
            exact HOWN.out
          · intro j hj
            rw [HOS.out, List.length_append] at hj
            simp [foot_some] at hj
            subst hj
            rcases HAT.out with h9 | h9
            · exact HFT.out _ (row_mem h9)
            · omega
    · obtain rfl : k = R.length := by omega
      obtain ⟨out, hout⟩ : ∃ out, out = outTo R ks n R.length := ⟨_, rfl⟩
      rw [← hout] at hrow hft holk HOUT ⊢
      have hc0 : Chg [] w wr := ((Chg.refl [] w).alloc bx).then hc
      have hftT : ∀ j ∈ foot (.slice A out.length cc), j ∉ T := fun j hj hjT => by have := hft j hj; have := HTL.out j hjT; omega
      have hbT : w.heap.size ∉ T := fun hh => by have := HTL.out _ hh; omega
      have HFT := Lib.hid hft
      have HFTT := Lib.hid hftT
      have HBT := Lib.hid hbT
      have HR0 := Lib.hid (Rd.of_row (l := iN out) hrow)
      have HC0 := Lib.hid hc0
      have HBX2 := Lib.hid hbx
      clear HI hrow hft hc hbx hsz hc0 hftT hbT hout x1 x2
      go_wp2
      go_loopg [9] ks.length (fun gh iv wy => ∃ k : Nat, k + gh = ks.length ∧ iv = .int .i64 k ∧ Hid (RefAt wy h T K (r.pars pP (ks.take k)) ∧ Chg T w wy ∧ Blk wy w.heap.size 62 #[.bool pT, .int .i64 pP, .slice pA ks.length pc, .int .i64 pF] ∧ Rd wy (.slice A out.length cc) (iN out)))
      case atStart => exact ⟨0, by omega, rfl, Lib.hid ⟨HH.out.quiet HC0.out, HC0.out.any, HBX2.out, HR0.out⟩⟩
      case round =>
        obtain ⟨k, hk, rfl, HI⟩ := hrel
        obtain ⟨H1, hc, hbx, hrd⟩ := HI.out
        have x1 := hbx.cell 1
        have x2 := hbx.cell 2
        have lbx2 := hbx.lt
        simp only [List.getElem?_toArray, List.getElem?_cons_zero, List.getElem?_cons_succ] at x1 x2
        by_cases hlt : k < ks.length
        · obtain ⟨x, hx⟩ : ∃ x, ks[k]? = some x := ⟨_, List.getElem?_eq_getElem hlt⟩
          have hxl := HKL.out x (List.mem_of_getElem? hx)
          have hkw := HKR.out.chg hc (fun j hj hjT => HKT.out j hjT (HKK.out j hj))
          obtain ⟨A', cc', hv, _, _, _, hcell⟩ := hkw.open_
          rw [iN_len] at hv
          injection hv with hv1 _ hv3
          subst hv1 hv3
          obtain ⟨b9, o9, rfl, hb9, hc9⟩ := hcell k _ (iN_at hx)
          obtain ⟨g2, cl3, a0, lh2, lg2, hgT2, fg2, j0, j1, p2, hp2, d0, d1, d2, d3, hst⟩ := H1.open_ (n := x) (by rw [pars_len]; exact hxl)
          obtain ⟨t1, t2⟩ := hst wr (Chg.refl _ _) 1 { p2 with par := pP } (.int .i64 pP) (by omega) rfl (by have := H1.plok hp2; exact this)
          have hset : (r.pars pP (ks.take k)).setPar pP x = { r.pars pP (ks.take k) with L := (r.pars pP (ks.take k)).L.set x { p2 with par := pP } } := by unfold Rf.setPar; simp only [hp2]
          rw [← hset, ← pars_snoc] at t1
          have hstep : ks.take k ++ [x] = ks.take (k + 1) := by rw [List.take_add_one, hx]; rfl
          rw [hstep] at t1
          have hcW := (hc.trans t2 (fun j hj => .inl hj)).drew
          have hgb : w.heap.size ≠ g2 := fun e => HBT.out (e ▸ hgT2)
          have hbx3 := (hbx.far (p := ⟨g2, x * 4 + 1, none⟩) hgb (.int .i64 pP)).drew
          have hrd3 := (hrd.chg t2 HFTT.out).quiet ((Chg.refl [] _).drew)
          have HT1 := Lib.hid (t1.quiet ((Chg.refl [] _).drew))
          have HCW := Lib.hid hcW
          have HB3 := Lib.hid hbx3
          have HR3 := Lib.hid hrd3
          have k0 : (0 : Int) ≤ (k : Int) := by omega
          have k1 : (k : Int) < (ks.length : Int) := by omega
          rw [pars_len] at a0 j1
          clear HI H1 hc hbx hrd hx hxl hkw hcell hgT2 hp2 hst t1 t2 hset hstep hcW hgb hbx3 hrd3
          go_wp2
          go_still_tail 13, (by kernel_rfl)
          (try change wpStill _ _ (World.drew _) _ _ _)
          (repeat still_step)
          (try refine wpStill_nil ?_)
          (try change wpList _ _ _ _ _ (World.drew _))
          go_wp2
          go_roundg (ks.length - k - 1)
          case measure => omega
          case rel => exact ⟨k + 1, by omega, by go_num, Lib.hid ⟨HT1.out, HCW.out, HB3.out, HR3.out⟩⟩
        · obtain rfl : k = ks.length := by omega
          have et : ks.take ks.length = ks := List.take_length
          rw [et] at H1
          have HSET := Lib.hid (rset_any H1 (o := P) (fun q e => by rw [pars_len]; exact HPL.out q e) hrd HFTT.out)
          rw [← HPP.out] at HSET
          have HFREE := Lib.hid (fun (W : World) (HW : RefAt W h T (K ++ foot (.slice A out.length cc)) ((r.pars pP ks).setRow P A cc out)) => rfree_any HW (n := n) (by rw [setRow_len, pars_len]; omega) (by rw [setRow_T, pars_T]; have := HTIME.out; omega))
          have HC := Lib.hid hc
          have HFIN := Lib.hid (HOUT.out A cc)
          clear HI H1 hc hbx hrd et
          go_wp2_with (first
            | (go_at_call 49; (refine HSET.out.mono ?_; rintro e w3 ⟨rfl, H3, hc3⟩; have HH3 := Lib.hid H3; have HC3 := Lib.hid (HC.out.trans hc3 (fun j hj => .inl hj)); clear H3 hc3))
            | (go_at_call 51; (refine (HFREE.out _ HH3.out).mono ?_; rintro e w4 ⟨rfl, H4, hc4⟩; have HH4 := Lib.hid H4; have HC4 := Lib.hid (HC3.out.trans hc4 (fun j hj => .inl hj)); clear H4 hc4)))
          go_ret
          refine ⟨rfl, _, HFIN.out, _, HH4.out, fun j hj => ?_, HC4.out⟩
          rcases List.mem_append.1 hj with h9 | h9
          · exact .inl h9
          · exact .inr (by have := HFT.out j h9; omega)
theorem rdrop_any (H : RefAt w h T K r) (hs : RSim r t m) (hm : m ≤ 1000000) (i : Int) :
    Calls Try.prog 33 #[ptr h, .int .i64 i] w fun e w' => e = .returned (.int .i64 (t.noE i)) ∧ ∃ r', RSim r' (t.dropI i) (m + 1) ∧ RTurns h T K r' w w' := by
  unfold Fo.dropI Fo.noE
  cases hi : t.has i with
  | false =>
    simp only [Bool.false_eq_true, if_false]
    have HHS := rhas_any H hs i
    rw [hi] at HHS
    have HFIN := Lib.hid (show ∃ r', RSim r' t (m + 1) ∧ RTurns h T K r' w w from ⟨r, hs.one, RTurns.refl H (Chg.refl _ _)⟩)
    clear H hs hi
    go_enter Try.func33, Try.ntmps33
    go_wp2_with (go_at_call 17; refine HHS.mono ?_; rintro e w' ⟨rfl, rfl⟩)
    go_ret
    exact ⟨rfl, HFIN.out⟩
  | true =>
    simp only [if_true]
    obtain ⟨n, rfl⟩ : ∃ n : Nat, i = (n : Nat) := Int.eq_ofNat_of_zero_le (by unfold Fo.has at hi; simp at hi; omega)
    rw [t.has_nat] at hi
    rw [Int.toNat_natCast]
    exact rdrop_ok H hs hm hi
end
end Go.Proofs
end
section
namespace Go.Proofs
open Go.RowKit
set_option linter.unusedVariables false
set_option linter.unusedSimpArgs false

section
variable {w : World} {h : Nat} {T K : List Nat} {r : Rf} {t : Fo} {m : Nat}
/-- The row that a place, or the roots, have in memory. -/
def Rf.rowS (r : Rf) (o : Option Nat) : List Nat :=
  match o with
  | none => r.R
  | some n => match r.L[n]? with | some p => p.kids | none => []
theorem rrow_st (H : RefAt w h T K r) {o : Option Nat} (ho : ∀ p, o = some p → p < r.L.length) :
    Calls Try.prog 50 #[ptr h, .int .i64 (oI o)] w fun e w' => w = w' ∧ ∃ A cc, e = .returned (.slice A (r.rowS o).length cc) ∧ Rd w (.slice A (r.rowS o).length cc) (iN (r.rowS o)) := by
  have H0 := H
  obtain ⟨g, cl, _, hne, hcl, htell⟩ := H.tell
  obtain ⟨a0, a1, a2, lh, lg, fg, fh, hpl⟩ := htell w (Chg.refl _ _)
  obtain ⟨_, _, _, _, hP, hR, hRK, _, _, _⟩ := H0
  cases o with
  | none =>
    have HQ := Lib.hid (show Rd w (.slice r.RA (r.rowS none).length r.Rcc) (iN (r.rowS none)) from hR)
    have a1' : w.cell? ⟨h, 1, none⟩ = some (.slice r.RA (r.rowS none).length r.Rcc) := a1
    show Calls Try.prog 50 #[ptr h, .int .i64 (-1)] w _
    clear H htell hpl hP hR hRK a1 a0 a2
    go_enter Try.func50, Try.ntmps50
    go_wp2
    go_ret
    exact ⟨rfl, _, _, rfl, HQ.out⟩
  | some n =>
    have hn := ho n rfl
    obtain ⟨p, hp⟩ : ∃ p, r.L[n]? = some p := ⟨_, List.getElem?_eq_getElem hn⟩
    obtain ⟨_, _, b2, _⟩ := hpl n p hp
    obtain ⟨p1, p2⟩ := hP p (List.mem_of_getElem? hp)
    have hk : r.rowS (some n) = p.kids := by unfold Rf.rowS; simp only [hp]
    rw [hk]
    have HQ := Lib.hid p1
    have i0 : (0 : Int) ≤ (n : Int) := by omega
    have i1 : (n : Int) < (r.L.length : Int) := by omega
    have d0 : decide ((n : Int) < 0) = false := by simp
    show Calls Try.prog 50 #[ptr h, .int .i64 ((n : Nat) : Int)] w _
    clear H htell hpl hP hR hRK p1 p2 hk hp ho hn
    go_enter Try.func50, Try.ntmps50
    go_wp2
    go_ret
    exact ⟨rfl, _, _, rfl, HQ.out⟩
/-- The free one of the first k that was freed last. -/
def Best (t : Fo) (r : Rf) (k : Nat) (x : Int) : Prop := (x = -1 ∧ ∀ j, j < k → t.there j = true) ∨ ∃ a : Nat, x = (a : Nat) ∧ a < k ∧ t.there a = false ∧ ∀ j, j < k → t.there j = false → fr r j ≤ fr r a
theorem Best.zero (t : Fo) (r : Rf) : Best t r 0 (-1) := .inl ⟨rfl, fun j hj => by omega⟩
theorem Best.there {k : Nat} {x : Int} (h : Best t r k x) (hk : t.there k = true) : Best t r (k + 1) x := by
  rcases h with ⟨h1, h2⟩ | ⟨a, h1, h2, h3, h4⟩
  · exact .inl ⟨h1, fun j hj => by by_cases e : j = k; subst e; exact hk; exact h2 j (by omega)⟩
  · exact .inr ⟨a, h1, by omega, h3, fun j hj hf => by by_cases e : j = k; subst e; rw [hk] at hf; cases hf; exact h4 j (by omega) hf⟩
theorem Best.first {k : Nat} (h : Best t r k (-1)) (hk : t.there k = false) : Best t r (k + 1) (k : Nat) := by
  rcases h with ⟨h1, h2⟩ | ⟨a, h1, _⟩
  · exact .inr ⟨k, rfl, by omega, hk, fun j hj hf => by by_cases e : j = k; subst e; exact Int.le_refl _; rw [h2 j (by omega)] at hf; cases hf⟩
  · omega
theorem Best.more {k a : Nat} (h : Best t r k (a : Nat)) (hk : t.there k = false) (hf : fr r a < fr r k) : Best t r (k + 1) (k : Nat) := by
  rcases h with ⟨h1, _⟩ | ⟨b, h1, h2, h3, h4⟩
  · omega
  · have : a = b := by omega
    subst this
    exact .inr ⟨k, rfl, by omega, hk, fun j hj hj2 => by by_cases e : j = k; subst e; exact Int.le_refl _; have := h4 j (by omega) hj2; omega⟩
theorem Best.less {k a : Nat} (h : Best t r k (a : Nat)) (hk : t.there k = false) (hf : ¬ fr r a < fr r k) : Best t r (k + 1) (a : Nat) := by
  rcases h with ⟨h1, _⟩ | ⟨b, h1, h2, h3, h4⟩
  · omega
  · have : a = b := by omega
    subst this
    exact .inr ⟨a, rfl, by omega, h3, fun j hj hj2 => by by_cases e : j = k; subst e; omega; exact h4 j (by omega) hj2⟩
theorem Best.none_ (hs : RSim r t m) (h : Best t r t.size (-1)) : t.free = [] := by
  rcases h with ⟨_, h2⟩ | ⟨a, h1, _⟩
  · cases hf : t.free with
    | nil => rfl
    | cons b l =>
      have := (hs.wf.frees.2 b).1 (by rw [hf]; simp)
      rw [h2 b this.1] at this
      cases this.2
  · omega
theorem Best.some_ (hs : RSim r t m) {a : Nat} (h : Best t r t.size (a : Nat)) : ∃ l, t.free = a :: l := by
  rcases h with ⟨h1, _⟩ | ⟨b, h1, h2, h3, h4⟩
  · omega
  · have : a = b := by omega
    subst this
    have hm : a ∈ t.free := (hs.wf.frees.2 a).2 ⟨h2, h3⟩
    cases hf : t.free with
    | nil => rw [hf] at hm; cases hm
    | cons b l =>
      rw [hf] at hm
      rcases List.mem_cons.1 hm with rfl | hm
      · exact ⟨l, rfl⟩
      · exfalso
        have ho := hs.ord
        rw [hf] at ho
        have h5 := (List.pairwise_cons.1 ho).1 a hm
        have h6 := (hs.wf.frees.2 b).1 (by rw [hf]; simp)
        have := h4 b h6.1 h6.2
        omega
/-- A place that is taken. -/
def plA (p : Int) : Pl := ⟨true, p, none, 0, [], 0⟩
theorem RSim.add (h : RSim r t m) {a : Nat} {l : List Nat} (hf : t.free = a :: l) {o : Option Nat} (ho : ∀ p, o = some p → t.there p = true) {A : Option Addr} {cc : Nat} :
    RSim (({ r with L := r.L.set a (plA (oI o)) } : Rf).setRow o A cc (a :: t.row o)) (t.addAt o a l) (m + 1) := by
  have hna := (h.wf.frees.2 a).1 (by rw [hf]; simp)
  have hal : a < r.L.length := by rw [h.len]; exact hna.1
  have hnd := h.wf.frees.1
  rw [hf] at hnd
  obtain ⟨hal2, _⟩ := List.nodup_cons.1 hnd
  have hfr : ∀ k ∈ l, fr (({ r with L := r.L.set a (plA (oI o)) } : Rf).setRow o A cc (a :: t.row o)) k = fr r k := fun k hk => by
    rw [fr_setRow]
    unfold fr
    simp only
    have hak : a ≠ k := fun e => hal2 (by rw [e]; exact hk)
    rw [List.getElem?_set_ne hak]
  have hT : (({ r with L := r.L.set a (plA (oI o)) } : Rf).setRow o A cc (a :: t.row o)).T = r.T := by rw [setRow_T]
  have hord := h.ord
  rw [hf] at hord
  refine ⟨?_, by rw [Fo.addAt_size]; exact h.big, h.wf.add hf ho, ?_, ?_, ?_, ?_, ?_⟩
  · rw [setRow_len, Fo.addAt_size]; show (r.L.set a _).length = _; rw [List.length_set]; exact h.len
  · intro k p hp
    obtain ⟨p0, h0, e1, e2, e3, e4⟩ := setRow_get hp
    rw [Fo.addAt_there, Fo.addAt_par, e1, e2, e4]
    have kr := Fo.addAt_row t o (some k) a l
    simp only at h0
    by_cases e : a = k
    · subst e
      rw [List.getElem?_set_self hal] at h0
      injection h0 with h0
      subst h0
      rw [upd_same, upd_same]
      have hoa : ¬ (o = some a) := fun e => by have := ho a e; rw [hna.2] at this; cases this
      refine ⟨rfl, ?_, rfl⟩
      show _ = (t.addAt o a l).row (some a)
      rw [kr, if_neg hoa, if_neg (fun e => hoa e.symm)]
      exact ((h.wf.off a hna.2).1).symm
    · rw [List.getElem?_set_ne e] at h0
      obtain ⟨q1, q2, q3⟩ := h.pl k p0 h0
      have e' : k ≠ a := fun h => e h.symm
      rw [upd_other _ _ e', upd_other _ _ e']
      refine ⟨q1, ?_, q3⟩
      show _ = (t.addAt o a l).row (some k)
      rw [kr]
      by_cases e5 : o = some k
      · rw [if_pos e5, if_pos e5.symm]
      · rw [if_neg e5, if_neg (fun e6 => e5 e6.symm)]; exact q2
  · rw [setRow_R]
    show _ = (t.addAt o a l).row none
    rw [Fo.addAt_row]
    by_cases e5 : o = none
    · rw [if_pos e5, if_pos e5.symm]
    · rw [if_neg e5, if_neg (fun e6 => e5 e6.symm)]; exact h.roots
  · rw [Fo.addAt_free]
    exact (List.pairwise_cons.1 hord).2.imp_of_mem fun {a b} ha hb hab => by rw [hfr a ha, hfr b hb]; exact hab
  · rw [Fo.addAt_free]
    intro k hk
    rw [hfr k hk, hT]
    exact h.top k (by rw [hf]; simp [hk])
  · rw [hT]
    have := h.time
    omega
end
end Go.Proofs
end
section
namespace Go.Proofs
open Go.RowKit
set_option linter.unusedVariables false
set_option linter.unusedSimpArgs false

section
variable {w : World} {h : Nat} {T K : List Nat} {r : Rf} {t : Fo} {m : Nat}
/-- Behind the search for a free place: the rest of Add, at a root or at a node. -/
theorem radd_facts (H : RefAt w h T K r) (hs : RSim r t m) {a : Nat} {l : List Nat} (hf : t.free = a :: l) {o : Option Nat} (ho : ∀ p, o = some p → t.there p = true) {W : World} (hc : Chg [] w W) :
    ∃ g cl, W.cell? ⟨h, 0, none⟩ = some (.slice (some ⟨g, 0, none⟩) r.L.length cl) ∧ h < W.heap.size ∧ g < W.heap.size ∧ (∀ j, W.frozen? ⟨g, j, none⟩ = false) ∧ (0 : Int) ≤ (a : Int) ∧ (a : Int) < (r.L.length : Int) ∧ (∃ u0 u1 u2 u3, W.cell? ⟨g, a * 4, none⟩ = some u0 ∧ W.cell? ⟨g, a * 4 + 1, none⟩ = some u1 ∧ W.cell? ⟨g, a * 4 + 2, none⟩ = some u2 ∧ W.cell? ⟨g, a * 4 + 3, none⟩ = some u3) ∧
      ∃ r1, RefAt (put4 W g (a * 4) true (oI o) (.slice none 0 0) 0) h T K r1 ∧ Chg T w (put4 W g (a * 4) true (oI o) (.slice none 0 0) 0) ∧
      r1.rowS o = t.row o ∧ (∀ p, o = some p → p < r1.L.length) ∧ ∀ A cc, RSim (r1.setRow o A cc (a :: t.row o)) (t.addAt o a l) (m + 1) := by
  have hna := (hs.wf.frees.2 a).1 (by rw [hf]; simp)
  have hal : a < r.L.length := by rw [hs.len]; exact hna.1
  have HW := H.quiet hc
  obtain ⟨g, cl, a0, lh, lg, hgT, fg, i0, i1, p, hp, b0, b1, b2, b3, _⟩ := HW.open_ hal
  obtain ⟨t1, t2⟩ := HW.put (g := g) (cl := cl) a0 hal (plA (oI o)) ⟨Rd.nil _, fun x hx => by cases hx⟩
  refine ⟨g, cl, a0, lh, lg, fg, i0, i1, ⟨_, _, _, _, b0, b1, b2, b3⟩, _, t1, (Chg.any hc).trans t2 (fun k hk => .inl hk), ?_, fun q e => ?_, fun A cc => hs.add hf ho⟩
  · cases o with
    | none => exact hs.roots
    | some q =>
      have hq := ho q rfl
      have hqa : a ≠ q := fun e => by rw [← e, hna.2] at hq; cases hq
      obtain ⟨p2, hp2, _, q2, _⟩ := hs.get (hs.wf.lt q hq)
      show (match (r.L.set a (plA (oI (some q))))[q]? with | some p => p.kids | none => []) = _
      rw [List.getElem?_set_ne hqa, hp2]
      exact q2
  · show q < (r.L.set a _).length
    rw [List.length_set, hs.len]
    exact hs.wf.lt q (ho q e)
set_option maxHeartbeats 3200000 in
set_option maxRecDepth 100000 in
theorem radd_root (H : RefAt w h T K r) (hs : RSim r t m) {p : Int} (hp : p < 0) :
    Calls Try.prog 32 #[ptr h, .int .i64 p] w fun e w' => e = .returned (.tuple #[.int .i64 (t.addN p), .int .i64 (t.addE p)]) ∧ ∃ r', RSim r' (t.add p) (m + 1) ∧ RTurns h T K r' w w' := by
  have hE : t.addE p = if t.free = [] then 3 else 0 := by unfold Fo.addE; rw [if_neg (by omega)]
  have hO : optI p = none := by unfold optI; rw [if_pos hp]
  obtain ⟨g0, cl0, _, hne, hcl, htell⟩ := H.tell
  have HTELL := Lib.hid (fun W (hc : Chg [] w W) => (htell W hc))
  have HFULL := Lib.hid (fun (hf : t.free = []) W (hc : Chg [] w W) => show (Ending.returned (.tuple #[.int .i64 0, .int .i64 3]) = .returned (.tuple #[.int .i64 (t.addN p), .int .i64 (t.addE p)])) ∧ ∃ r', RSim r' (t.add p) (m + 1) ∧ RTurns h T K r' w W from by
    have e : t.addE p = 3 := by rw [hE, if_pos hf]
    unfold Fo.addN Fo.add
    rw [e, if_neg (by omega), if_neg (by omega)]
    exact ⟨rfl, r, hs.one, RTurns.refl H hc⟩)
  have HOK := Lib.hid (fun a l (hf : t.free = a :: l) => show t.addN p = (a : Nat) ∧ t.addE p = 0 ∧ t.add p = t.addAt none a l from by
    have e : t.addE p = 0 := by rw [hE, if_neg (by rw [hf]; simp)]
    unfold Fo.addN Fo.add
    rw [e, if_pos rfl, if_pos rfl, hf, hO]
    exact ⟨rfl, rfl, rfl⟩)
  have HFA := Lib.hid (fun a l (hf : t.free = a :: l) W (hc : Chg [] w W) => radd_facts H hs hf (o := none) (fun _ h => by cases h) hc)
  have HNO := Lib.hid (fun (hb : Best t r t.size (-1)) => hb.none_ hs)
  have HSO := Lib.hid (fun a (hb : Best t r t.size ((a : Nat) : Int)) => hb.some_ hs)
  have HPL := Lib.hid (fun k p hk => (hs.pl k p hk).1)
  have HTL := Lib.hid H.ltT
  have hlen := hs.len
  have hbig := hs.big
  have HRL := Lib.hid (Nat.le_trans (hs.wf.row_len none) hs.big)
  obtain ⟨s, hss⟩ : ∃ s, s = t.size := ⟨_, rfl⟩
  rw [← hss] at HNO HSO hlen hbig
  have HLEN := Lib.hid hlen
  have dp : decide (0 ≤ p) = false := by simp; omega
  have dp2 : decide (p < 0) = true := by simpa using hp
  clear H hs htell hE hO hss
  rw [hlen] at HTELL HFA
  go_enter Try.func32, Try.ntmps32
  go_wp2
  go_loopg [6, 7] s (fun gh av iv wr => ∃ (k : Nat) (x : Int), k + gh = s ∧ av = .int .i64 x ∧ iv = .int .i64 k ∧ Hid (Best t r k x ∧ Chg [] w wr))
  case atStart => exact ⟨0, -1, by omega, rfl, rfl, Lib.hid ⟨Best.zero t r, Chg.refl _ _⟩⟩
  case round =>
    obtain ⟨k, x, hk, rfl, rfl, HI⟩ := hrel
    obtain ⟨hb, hc⟩ := HI.out
    obtain ⟨a0, a1, a2, lh, lg, fg, fh, hpl⟩ := HTELL.out wr hc
    by_cases hlt : k < s
    · have i0 : (0 : Int) ≤ (k : Int) := by omega
      have i1 : (k : Int) < (s : Int) := by omega
      obtain ⟨pk, hpk⟩ : ∃ p, r.L[k]? = some p := ⟨_, List.getElem?_eq_getElem (by rw [HLEN.out]; exact hlt)⟩
      obtain ⟨b0, _, _, b3⟩ := hpl k pk hpk
      rw [HPL.out k pk hpk] at b0
      have hfk : fr r k = pk.freed := by unfold fr; rw [hpk]
      rw [← hfk] at b3
      cases ht : t.there k with
      | true =>
        rw [ht] at b0
        have HN := Lib.hid (hb.there ht)
        have HC := Lib.hid hc
        clear ht hb hc HI hpl hpk a1 a2 b3 hfk fh
        go_wp2
        go_quiet (fail)
        go_wp2
        go_roundg (s - k - 1)
        case measure => omega
        case rel => exact ⟨k + 1, x, by omega, rfl, by go_num, Lib.hid ⟨HN.out, HC.out.drewN _⟩⟩
      | false =>
        rw [ht] at b0
        rcases id hb with ⟨rfl, _⟩ | ⟨a, rfl, hak, hta, _⟩
        · have HN := Lib.hid (hb.first ht)
          have HC := Lib.hid hc
          clear ht hb hc HI hpl hpk a1 a2 b3 hfk fh
          go_wp2
          go_quiet (fail)
          go_wp2
          go_roundg (s - k - 1)
          case measure => omega
          case rel => exact ⟨k + 1, (k : Nat), by omega, rfl, by go_num, Lib.hid ⟨HN.out, HC.out.drewN _⟩⟩
        · obtain ⟨pa, hpa⟩ : ∃ p, r.L[a]? = some p := ⟨_, List.getElem?_eq_getElem (by rw [HLEN.out]; omega)⟩
          obtain ⟨_, _, _, d3⟩ := hpl a pa hpa
          have hfa : fr r a = pa.freed := by unfold fr; rw [hpa]
          rw [← hfa] at d3
          have j0 : (0 : Int) ≤ (a : Int) := by omega
          have j1 : (a : Int) < (s : Int) := by omega
          have da : decide ((a : Int) < 0) = false := by simp
          obtain ⟨fa, hfa2⟩ : ∃ x, x = fr r a := ⟨_, rfl⟩
          obtain ⟨fk, hfk2⟩ : ∃ x, x = fr r k := ⟨_, rfl⟩
          rw [← hfa2] at d3
          rw [← hfk2] at b3
          by_cases hlt2 : fa < fk
          · have HN := Lib.hid (hb.more ht (by rw [← hfa2, ← hfk2]; exact hlt2))
            have HC := Lib.hid hc
            have dl : decide (fa < fk) = true := by simpa using hlt2
            clear ht hb hc HI hpl hpk hpa a1 a2 hfk hfa hfa2 hfk2 hlt2 fh hta
            go_wp2
            go_quiet (fail)
            go_wp2
            go_roundg (s - k - 1)
            case measure => omega
            case rel => exact ⟨k + 1, (k : Nat), by omega, rfl, by go_num, Lib.hid ⟨HN.out, HC.out.drewN _⟩⟩
          · have HN := Lib.hid (hb.less ht (by rw [← hfa2, ← hfk2]; exact hlt2))
            have HC := Lib.hid hc
            have dl : decide (fa < fk) = false := by simpa using hlt2
            clear ht hb hc HI hpl hpk hpa a1 a2 hfk hfa hfa2 hfk2 hlt2 fh hta
            go_wp2
            go_quiet (fail)
            go_wp2
            go_roundg (s - k - 1)
            case measure => omega
            case rel => exact ⟨k + 1, (a : Nat), by omega, rfl, by go_num, Lib.hid ⟨HN.out, HC.out.drewN _⟩⟩
    · obtain rfl : k = s := by omega
      rcases id hb with ⟨rfl, _⟩ | ⟨a, rfl, hak, hta, _⟩
      · have HF := Lib.hid (HFULL.out (HNO.out hb) wr hc)
        clear hb hc HI hpl a1 a2 fh
        go_wp2
        go_ret2
        exact HF.out
      · obtain ⟨l, hfree⟩ := HSO.out a hb
        obtain ⟨g, cl, b0, lh2, lg2, fg2, j0, j1, ⟨u0, u1, u2, u3, c0, c1, c2, c3⟩, r1, hR1, hC1, hrows, hoL, hsi⟩ := HFA.out a l hfree wr hc
        obtain ⟨e1, e2, e3⟩ := HOK.out a l hfree
        have HE := Lib.hid (And.intro e1 (And.intro e2 e3))
        have HSI := Lib.hid hsi
        have HR1 := Lib.hid (show RefAt (put4 wr g (a * 4) true (-1) (.slice none 0 0) 0) h T K r1 from hR1)
        have HC1 := Lib.hid (show Chg T w (put4 wr g (a * 4) true (-1) (.slice none 0 0) 0) from hC1)
        have HROWS := Lib.hid hrows
        have HOL := Lib.hid hoL
        have HCS := Lib.hid hc.size
        have da : decide ((a : Int) < 0) = false := by simp
        obtain ⟨R, hR⟩ : ∃ R, R = t.row none := ⟨_, rfl⟩
        rw [← hR] at HROWS HSI HRL
        clear a0 lh lg fg hb hc HI hpl a1 a2 fh hfree hR1 hC1 hrows hoL hsi e1 e2 e3 hR
        obtain ⟨in0, hi0, hq0, hq1, hq2⟩ := info_parts Try.num_info
        have HRW := Lib.hid (fun W (hcw : Chg [] (put4 wr g (a * 4) true (-1) (.slice none 0 0) 0) W) => show Calls Try.prog 50 #[ptr h, .int .i64 (-1)] W (fun e w' => W = w' ∧ ∃ A cc, e = .returned (.slice A R.length cc) ∧ Rd W (.slice A R.length cc) (iN R)) by
          have hq := rrow_st (HR1.out.quiet hcw) HOL.out
          rw [HROWS.out] at hq
          exact hq)
        have hszp : (put4 wr g (a * 4) true (-1) (.slice none 0 0) 0).heap.size = wr.heap.size := by simp [World.setCell]
        have hb3 : Blk ((put4 wr g (a * 4) true (-1) (.slice none 0 0) 0).alloc (.cells #[.int .i64 ((a : Nat) : Int)] 3)) wr.heap.size 3 #[.int .i64 ((a : Nat) : Int)] := by
          have h9 := Blk.new (put4 wr g (a * 4) true (-1) (.slice none 0 0) 0) 3 #[.int .i64 ((a : Nat) : Int)]
          rw [hszp] at h9
          exact h9
        have HRA := Lib.hid (show Row ((put4 wr g (a * 4) true (-1) (.slice none 0 0) 0).alloc (.cells #[.int .i64 ((a : Nat) : Int)] 3)) 3 1 (.slice (some ⟨wr.heap.size, 0, none⟩) 1 1) [((a : Nat) : Int)].length (ints [((a : Nat) : Int)]) from ⟨by simp [ints], .inr ⟨wr.heap.size, 1, #[.int .i64 ((a : Nat) : Int)], rfl, hb3, by simp, by unfold maxLen; simp, by simp, by simp [ints]⟩⟩)
        have HSZP := Lib.hid hszp
        clear hb3 hszp
        go_wp2_with (fail)
        refine (HRW.out ((put4 wr g (a * 4) true (-1) (.slice none 0 0) 0).alloc (.cells #[.int .i64 ((a : Nat) : Int)] 3)) ((Chg.refl _ _).alloc _)).mono ?_
        rintro e w' ⟨rfl, Ar, cr, rfl, hrd⟩
        have HRD := Lib.hid hrd
        clear hrd
        go_wp2_with (at_builtin; (refine wpList_append_rs (n := (a :: R).length) _ (by rfl) _ _ (by rfl) (v := .slice (some ⟨wr.heap.size, 0, none⟩) 1 1) (x := .slice Ar R.length cr) (xs := [((a : Nat) : Int)]) (l := iN R) (by rfl) (by rfl) HRA.out HRD.out (by rw [iN_len]; have := HRL.out; simp; omega) (by rw [iN_len]; simp; omega) ?_; intro A' c' w3 hown hgrow hat; have HOWN := Lib.hid hown; have HG := Lib.hid hgrow; have HAT := Lib.hid hat; clear hown hgrow hat))
        have hgr : Chg [] (put4 wr g (a * 4) true (-1) (.slice none 0 0) 0) w3 := ((Chg.refl _ _).alloc _).grown HG.out (fun j hj => by simp [Value.ownBlock] at hj; subst hj; exact .inr (by rw [HSZP.out]; exact Nat.le_refl _))
        have hown := HOWN.out
        have hft : ∀ j ∈ foot (.slice A' (a :: R).length c'), wr.heap.size ≤ j := fun j hj => by
          rcases HAT.out j hj with h9 | h9
          · simp [foot_some] at h9; omega
          · rw [World.size_alloc, HSZP.out] at h9; omega
        have hrdA : Rd w3 (.slice A' (a :: R).length c') (iN (a :: R)) := by
          have e : [((a : Nat) : Int)] ++ iN R = iN (a :: R) := rfl
          rw [e] at hown
          exact Rd.of_row hown
        have HSET := Lib.hid (rset_any (HR1.out.quiet hgr) (o := none) HOL.out hrdA (fun j hj hjT => by have := hft j hj; have := HTL.out j hjT; have := HCS.out; omega))
        have HFT := Lib.hid hft
        have HGR := Lib.hid hgr
        clear hown hft hrdA hgr
        go_wp2_with (go_at_call 49; (refine HSET.out.mono ?_; rintro e w4 ⟨rfl, H4, hc4⟩; have HH4 := Lib.hid H4; have HC4 := Lib.hid ((HC1.out.then HGR.out).trans hc4 (fun j hj => .inl hj)); clear H4 hc4))
        go_ret2
        obtain ⟨e1, e2, e3⟩ := HE.out
        rw [e1, e2, e3]
        refine ⟨rfl, _, HSI.out _ _, _, HH4.out, fun j hj => ?_, HC4.out⟩
        rcases List.mem_append.1 hj with h9 | h9
        · exact .inl h9
        · exact .inr (by have := HFT.out j h9; have := HCS.out; omega)
end
end Go.Proofs
end
section
namespace Go.Proofs
open Go.RowKit
set_option linter.unusedVariables false
set_option linter.unusedSimpArgs false

section
variable {w : World} {h : Nat} {T K : List Nat} {r : Rf} {t : Fo} {m : Nat}
set_option maxHeartbeats 3200000 in
set_option maxRecDepth 100000 in
theorem radd_kid (H : RefAt w h T K r) (hs : RSim r t m) {q : Nat} (hq : t.there q = true) :
    Calls Try.prog 32 #[ptr h, .int .i64 ((q : Nat) : Int)] w fun e w' => e = .returned (.tuple #[.int .i64 (t.addN ((q : Nat) : Int)), .int .i64 (t.addE ((q : Nat) : Int))]) ∧ ∃ r', RSim r' (t.add ((q : Nat) : Int)) (m + 1) ∧ RTurns h T K r' w w' := by
  have hE : t.addE ((q : Nat) : Int) = if t.free = [] then 3 else 0 := by unfold Fo.addE; rw [t.has_nat, hq, if_neg (by simp)]
  have hO : optI ((q : Nat) : Int) = some q := by unfold optI; rw [if_neg (by omega), Int.toNat_natCast]
  have HHS := rhas_any H hs (q : Nat)
  rw [t.has_nat, hq] at HHS
  obtain ⟨g0, cl0, _, hne, hcl, htell⟩ := H.tell
  have HTELL := Lib.hid (fun W (hc : Chg [] w W) => (htell W hc))
  have HFULL := Lib.hid (fun (hf : t.free = []) W (hc : Chg [] w W) => show (Ending.returned (.tuple #[.int .i64 0, .int .i64 3]) = .returned (.tuple #[.int .i64 (t.addN ((q : Nat) : Int)), .int .i64 (t.addE ((q : Nat) : Int))])) ∧ ∃ r', RSim r' (t.add ((q : Nat) : Int)) (m + 1) ∧ RTurns h T K r' w W from by
    have e : t.addE ((q : Nat) : Int) = 3 := by rw [hE, if_pos hf]
    unfold Fo.addN Fo.add
    rw [e, if_neg (by omega), if_neg (by omega)]
    exact ⟨rfl, r, hs.one, RTurns.refl H hc⟩)
  have HOK := Lib.hid (fun a l (hf : t.free = a :: l) => show t.addN ((q : Nat) : Int) = (a : Nat) ∧ t.addE ((q : Nat) : Int) = 0 ∧ t.add ((q : Nat) : Int) = t.addAt (some q) a l from by
    have e : t.addE ((q : Nat) : Int) = 0 := by rw [hE, if_neg (by rw [hf]; simp)]
    unfold Fo.addN Fo.add
    rw [e, if_pos rfl, if_pos rfl, hf, hO]
    exact ⟨rfl, rfl, rfl⟩)
  have HFA := Lib.hid (fun a l (hf : t.free = a :: l) W (hc : Chg [] w W) => radd_facts H hs hf (o := some q) (fun _ h => by cases h; exact hq) hc)
  have HNO := Lib.hid (fun (hb : Best t r t.size (-1)) => hb.none_ hs)
  have HSO := Lib.hid (fun a (hb : Best t r t.size ((a : Nat) : Int)) => hb.some_ hs)
  have HPL := Lib.hid (fun k p hk => (hs.pl k p hk).1)
  have HTL := Lib.hid H.ltT
  have hlen := hs.len
  have hbig := hs.big
  have HRL := Lib.hid (Nat.le_trans (hs.wf.row_len (some q)) hs.big)
  obtain ⟨s, hss⟩ : ∃ s, s = t.size := ⟨_, rfl⟩
  rw [← hss] at HNO HSO hlen hbig
  have HLEN := Lib.hid hlen
  have dp : decide (0 ≤ ((q : Nat) : Int)) = true := by simp
  have dp2 : decide (((q : Nat) : Int) < 0) = false := by simp
  clear H hs htell hE hO hss hq
  rw [hlen] at HTELL HFA
  go_enter Try.func32, Try.ntmps32
  go_wp2_with (go_at_call 17; refine HHS.mono ?_; rintro e w' ⟨rfl, rfl⟩)
  go_loopg [6, 7] s (fun gh av iv wr => ∃ (k : Nat) (x : Int), k + gh = s ∧ av = .int .i64 x ∧ iv = .int .i64 k ∧ Hid (Best t r k x ∧ Chg [] w wr))
  case atStart => exact ⟨0, -1, by omega, rfl, rfl, Lib.hid ⟨Best.zero t r, Chg.refl _ _⟩⟩
  case round =>
    obtain ⟨k, x, hk, rfl, rfl, HI⟩ := hrel
    obtain ⟨hb, hc⟩ := HI.out
    obtain ⟨a0, a1, a2, lh, lg, fg, fh, hpl⟩ := HTELL.out wr hc
    by_cases hlt : k < s
    · have i0 : (0 : Int) ≤ (k : Int) := by omega
      have i1 : (k : Int) < (s : Int) := by omega
      obtain ⟨pk, hpk⟩ : ∃ p, r.L[k]? = some p := ⟨_, List.getElem?_eq_getElem (by rw [HLEN.out]; exact hlt)⟩
      obtain ⟨b0, _, _, b3⟩ := hpl k pk hpk
      rw [HPL.out k pk hpk] at b0
      have hfk : fr r k = pk.freed := by unfold fr; rw [hpk]
      rw [← hfk] at b3
      cases ht : t.there k with
      | true =>
        rw [ht] at b0
        have HN := Lib.hid (hb.there ht)
        have HC := Lib.hid hc
        clear ht hb hc HI hpl hpk a1 a2 b3 hfk fh
        go_wp2
        go_quiet (fail)
        go_wp2
        go_roundg (s - k - 1)
        case measure => omega
        case rel => exact ⟨k + 1, x, by omega, rfl, by go_num, Lib.hid ⟨HN.out, HC.out.drewN _⟩⟩
      | false =>
        rw [ht] at b0
        rcases id hb with ⟨rfl, _⟩ | ⟨a, rfl, hak, hta, _⟩
        · have HN := Lib.hid (hb.first ht)
          have HC := Lib.hid hc
          clear ht hb hc HI hpl hpk a1 a2 b3 hfk fh
          go_wp2
          go_quiet (fail)
          go_wp2
          go_roundg (s - k - 1)
          case measure => omega
          case rel => exact ⟨k + 1, (k : Nat), by omega, rfl, by go_num, Lib.hid ⟨HN.out, HC.out.drewN _⟩⟩
        · obtain ⟨pa, hpa⟩ : ∃ p, r.L[a]? = some p := ⟨_, List.getElem?_eq_getElem (by rw [HLEN.out]; omega)⟩
          obtain ⟨_, _, _, d3⟩ := hpl a pa hpa
          have hfa : fr r a = pa.freed := by unfold fr; rw [hpa]
          rw [← hfa] at d3
          have j0 : (0 : Int) ≤ (a : Int) := by omega
          have j1 : (a : Int) < (s : Int) := by omega
          have da : decide ((a : Int) < 0) = false := by simp
          obtain ⟨fa, hfa2⟩ : ∃ x, x = fr r a := ⟨_, rfl⟩
          obtain ⟨fk, hfk2⟩ : ∃ x, x = fr r k := ⟨_, rfl⟩
          rw [← hfa2] at d3
          rw [← hfk2] at b3
          by_cases hlt2 : fa < fk
          · have HN := Lib.hid (hb.more ht (by rw [← hfa2, ← hfk2]; exact hlt2))
            have HC := Lib.hid hc
            have dl : decide (fa < fk) = true := by simpa using hlt2
            clear ht hb hc HI hpl hpk hpa a1 a2 hfk hfa hfa2 hfk2 hlt2 fh hta
            go_wp2
            go_quiet (fail)
            go_wp2
            go_roundg (s - k - 1)
            case measure => omega
            case rel => exact ⟨k + 1, (k : Nat), by omega, rfl, by go_num, Lib.hid ⟨HN.out, HC.out.drewN _⟩⟩
          · have HN := Lib.hid (hb.less ht (by rw [← hfa2, ← hfk2]; exact hlt2))
            have HC := Lib.hid hc
            have dl : decide (fa < fk) = false := by simpa using hlt2
            clear ht hb hc HI hpl hpk hpa a1 a2 hfk hfa hfa2 hfk2 hlt2 fh hta
            go_wp2
            go_quiet (fail)
            go_wp2
            go_roundg (s - k - 1)
            case measure => omega
            case rel => exact ⟨k + 1, (a : Nat), by omega, rfl, by go_num, Lib.hid ⟨HN.out, HC.out.drewN _⟩⟩
    · obtain rfl : k = s := by omega
      rcases id hb with ⟨rfl, _⟩ | ⟨a, rfl, hak, hta, _⟩
      · have HF := Lib.hid (HFULL.out (HNO.out hb) wr hc)
        clear hb hc HI hpl a1 a2 fh
        go_wp2
        go_ret2
        exact HF.out
      · obtain ⟨l, hfree⟩ := HSO.out a hb
        obtain ⟨g, cl, b0, lh2, lg2, fg2, j0, j1, ⟨u0, u1, u2, u3, c0, c1, c2, c3⟩, r1, hR1, hC1, hrows, hoL, hsi⟩ := HFA.out a l hfree wr hc
        obtain ⟨e1, e2, e3⟩ := HOK.out a l hfree
        have HE := Lib.hid (And.intro e1 (And.intro e2 e3))
        have HSI := Lib.hid hsi
        have HR1 := Lib.hid (show RefAt (put4 wr g (a * 4) true ((q : Nat) : Int) (.slice none 0 0) 0) h T K r1 from hR1)
        have HC1 := Lib.hid (show Chg T w (put4 wr g (a * 4) true ((q : Nat) : Int) (.slice none 0 0) 0) from hC1)
        have HROWS := Lib.hid hrows
        have HOL := Lib.hid hoL
        have HCS := Lib.hid hc.size
        have da : decide ((a : Int) < 0) = false := by simp
        obtain ⟨R, hR⟩ : ∃ R, R = t.row (some q) := ⟨_, rfl⟩
        rw [← hR] at HROWS HSI HRL
        clear a0 lh lg fg hb hc HI hpl a1 a2 fh hfree hR1 hC1 hrows hoL hsi e1 e2 e3 hR
        obtain ⟨in0, hi0, hq0, hq1, hq2⟩ := info_parts Try.num_info
        have HRW := Lib.hid (fun W (hcw : Chg [] (put4 wr g (a * 4) true ((q : Nat) : Int) (.slice none 0 0) 0) W) => show Calls Try.prog 50 #[ptr h, .int .i64 ((q : Nat) : Int)] W (fun e w' => W = w' ∧ ∃ A cc, e = .returned (.slice A R.length cc) ∧ Rd W (.slice A R.length cc) (iN R)) by
          have hq := rrow_st (HR1.out.quiet hcw) HOL.out
          rw [HROWS.out] at hq
          exact hq)
        have hszp : (put4 wr g (a * 4) true ((q : Nat) : Int) (.slice none 0 0) 0).heap.size = wr.heap.size := by simp [World.setCell]
        have hb3 : Blk ((put4 wr g (a * 4) true ((q : Nat) : Int) (.slice none 0 0) 0).alloc (.cells #[.int .i64 ((a : Nat) : Int)] 3)) wr.heap.size 3 #[.int .i64 ((a : Nat) : Int)] := by
          have h9 := Blk.new (put4 wr g (a * 4) true ((q : Nat) : Int) (.slice none 0 0) 0) 3 #[.int .i64 ((a : Nat) : Int)]
          rw [hszp] at h9
          exact h9
        have HRA := Lib.hid (show Row ((put4 wr g (a * 4) true ((q : Nat) : Int) (.slice none 0 0) 0).alloc (.cells #[.int .i64 ((a : Nat) : Int)] 3)) 3 1 (.slice (some ⟨wr.heap.size, 0, none⟩) 1 1) [((a : Nat) : Int)].length (ints [((a : Nat) : Int)]) from ⟨by simp [ints], .inr ⟨wr.heap.size, 1, #[.int .i64 ((a : Nat) : Int)], rfl, hb3, by simp, by unfold maxLen; simp, by simp, by simp [ints]⟩⟩)
        have HSZP := Lib.hid hszp
        clear hb3 hszp
        go_wp2_with (fail)
        refine (HRW.out ((put4 wr g (a * 4) true ((q : Nat) : Int) (.slice none 0 0) 0).alloc (.cells #[.int .i64 ((a : Nat) : Int)] 3)) ((Chg.refl _ _).alloc _)).mono ?_
        rintro e w' ⟨rfl, Ar, cr, rfl, hrd⟩
        have HRD := Lib.hid hrd
        clear hrd
        go_wp2_with (at_builtin; (refine wpList_append_rs (n := (a :: R).length) _ (by rfl) _ _ (by rfl) (v := .slice (some ⟨wr.heap.size, 0, none⟩) 1 1) (x := .slice Ar R.length cr) (xs := [((a : Nat) : Int)]) (l := iN R) (by rfl) (by rfl) HRA.out HRD.out (by rw [iN_len]; have := HRL.out; simp; omega) (by rw [iN_len]; simp; omega) ?_; intro A' c' w3 hown hgrow hat; have HOWN := Lib.hid hown; have HG := Lib.hid hgrow; have HAT := Lib.hid hat; clear hown hgrow hat))
        have hgr : Chg [] (put4 wr g (a * 4) true ((q : Nat) : Int) (.slice none 0 0) 0) w3 := ((Chg.refl _ _).alloc _).grown HG.out (fun j hj => by simp [Value.ownBlock] at hj; subst hj; exact .inr (by rw [HSZP.out]; exact Nat.le_refl _))
        have hown := HOWN.out
        have hft : ∀ j ∈ foot (.slice A' (a :: R).length c'), wr.heap.size ≤ j := fun j hj => by
          rcases HAT.out j hj with h9 | h9
          · simp [foot_some] at h9; omega
          · rw [World.size_alloc, HSZP.out] at h9; omega
        have hrdA : Rd w3 (.slice A' (a :: R).length c') (iN (a :: R)) := by
          have e : [((a : Nat) : Int)] ++ iN R = iN (a :: R) := rfl
          rw [e] at hown
          exact Rd.of_row hown
        have HSET := Lib.hid (rset_any (HR1.out.quiet hgr) (o := some q) HOL.out hrdA (fun j hj hjT => by have := hft j hj; have := HTL.out j hjT; have := HCS.out; omega))
        have HFT := Lib.hid hft
        have HGR := Lib.hid hgr
        clear hown hft hrdA hgr
        go_wp2_with (go_at_call 49; (refine HSET.out.mono ?_; rintro e w4 ⟨rfl, H4, hc4⟩; have HH4 := Lib.hid H4; have HC4 := Lib.hid ((HC1.out.then HGR.out).trans hc4 (fun j hj => .inl hj)); clear H4 hc4))
        go_ret2
        obtain ⟨e1, e2, e3⟩ := HE.out
        rw [e1, e2, e3]
        refine ⟨rfl, _, HSI.out _ _, _, HH4.out, fun j hj => ?_, HC4.out⟩
        rcases List.mem_append.1 hj with h9 | h9
        · exact .inl h9
        · exact .inr (by have := HFT.out j h9; have := HCS.out; omega)
set_option maxHeartbeats 1600000 in
theorem radd_any (H : RefAt w h T K r) (hs : RSim r t m) (p : Int) :
    Calls Try.prog 32 #[ptr h, .int .i64 p] w fun e w' => e = .returned (.tuple #[.int .i64 (t.addN p), .int .i64 (t.addE p)]) ∧ ∃ r', RSim r' (t.add p) (m + 1) ∧ RTurns h T K r' w w' := by
  by_cases hp : p < 0
  · exact radd_root H hs hp
  · obtain ⟨q, rfl⟩ := Int.eq_ofNat_of_zero_le (by omega : 0 ≤ p)
    cases hq : t.there q with
    | true => exact radd_kid H hs hq
    | false =>
      have hE : t.addE ((q : Nat) : Int) = 4 := by unfold Fo.addE; rw [t.has_nat, hq, if_pos ⟨by omega, rfl⟩]
      have hN : t.addN ((q : Nat) : Int) = 0 := by unfold Fo.addN; rw [hE, if_neg (by omega)]
      have hA : t.add ((q : Nat) : Int) = t := by unfold Fo.add; rw [hE, if_neg (by omega)]
      rw [hE, hN, hA]
      have HHS := rhas_any H hs (q : Nat)
      rw [t.has_nat, hq] at HHS
      have HFIN := Lib.hid (show ∃ r', RSim r' t (m + 1) ∧ RTurns h T K r' w w from ⟨r, hs.one, RTurns.refl H (Chg.refl _ _)⟩)
      have dp : decide (0 ≤ ((q : Nat) : Int)) = true := by simp
      clear H hs hq hE hN hA hp
      go_enter Try.func32, Try.ntmps32
      go_wp2_with (go_at_call 17; refine HHS.mono ?_; rintro e w' ⟨rfl, rfl⟩)
      go_ret2
      exact ⟨rfl, HFIN.out⟩
end
end Go.Proofs
end
section
namespace Go.Proofs
open Go.RowKit
set_option linter.unusedVariables false
set_option linter.unusedSimpArgs false

theorem Try.pl_info : (Try.prog.info? 62).map (fun i => (i.zero, i.size, i.bytes)) = some (some (.agg #[.bool false, .int .i64 0, .slice none 0 0, .int .i64 0]), 4, 48) := by kernel_rfl
def plN (i : Nat) : Pl := ⟨false, -1, none, 0, [], -1 - (i : Int)⟩
def newL (k : Nat) : List Pl := (List.range k).map plN
theorem newL_succ (k : Nat) : newL (k + 1) = newL k ++ [plN k] := by unfold newL; rw [List.range_succ, List.map_append]; rfl
theorem newL_len (k : Nat) : (newL k).length = k := by unfold newL; simp
theorem newL_at {k i : Nat} (h : i < k) : (newL k)[i]? = some (plN i) := by unfold newL; simp [h]
def rf0 (n : Nat) : Rf := ⟨newL n, none, 0, [], 0⟩
theorem fr_new {n i : Nat} (h : i < n) : fr (rf0 n) i = -1 - (i : Int) := by unfold fr rf0; simp only; rw [newL_at h]; rfl
theorem RSim.new {n : Nat} (h : n ≤ 4096) : RSim (rf0 n) (Fo.new n) 0 where
  len := newL_len n
  big := h
  wf := Fo.new_wf n
  pl k p hp := by
    have hk : k < n := by have := (List.getElem?_eq_some_iff.1 hp).1; rw [show (rf0 n).L = newL n from rfl, newL_len] at this; exact this
    rw [show (rf0 n).L = newL n from rfl, newL_at hk] at hp
    injection hp with hp
    subst hp
    exact ⟨rfl, rfl, rfl⟩
  roots := rfl
  ord := by
    show (List.range n).Pairwise _
    refine List.pairwise_lt_range.imp_of_mem fun {a b} ha hb hab => ?_
    rw [fr_new (by simpa using hb), fr_new (by simpa using ha)]
    omega
  top k hk := by
    have hk : k < n := by have : k ∈ List.range n := hk; simpa using this
    rw [fr_new hk]
    show _ ≤ (0 : Int)
    omega
  time := by show (0 : Int) ≤ 0 ∧ (0 : Int) ≤ _; omega
set_option maxHeartbeats 3200000 in
set_option maxRecDepth 100000 in
theorem rnew_any (n : Nat) (h1 : 1 ≤ n) (h2 : n ≤ 4096) (w : World) : Calls Try.prog 12 #[.int .i64 (n : Nat)] w fun e w' => ∃ h T, e = .returned (ptr h) ∧ RefAt w' h T [] (rf0 n) ∧ (∀ k ∈ T, w.heap.size ≤ k) ∧ Chg [] w w' := by
  obtain ⟨i0, hi0, hz0, hz1, hz2⟩ := info_parts Try.pl_info
  go_enter Try.func12, Try.ntmps12
  go_wp2
  go_loopg [4] n (fun gh iv wr => ∃ (k : Nat) (A : Option Addr) (cc : Nat), k + gh = n ∧ iv = .int .i64 k ∧ Hid (Blk wr w.heap.size 60 #[.slice A k cc, .slice none 0 0, .int .i64 0] ∧ Row wr 62 4 (.slice A k cc) k (plCells (newL k)) ∧ (∀ j ∈ foot (.slice A k cc), w.heap.size + 1 ≤ j) ∧ Chg [] w wr))
  case atStart => exact ⟨0, none, 0, by omega, rfl, Lib.hid ⟨Blk.new w 60 _, Row.nil _ _ _, fun j hj => (by cases hj), (Chg.refl _ _).alloc _⟩⟩
  case round =>
    obtain ⟨k, A, cc, hk, rfl, HI⟩ := hrel
    obtain ⟨hB, hR, hft, hc⟩ := HI.out
    by_cases hlt : k < n
    · have c0 := hB.cell 0
      have f0 := hB.frozen 0
      have lB := hB.lt
      simp only [List.getElem?_toArray, List.getElem?_cons_zero] at c0
      have e1 : IntKind.i64.wrap (-1 - (k : Int)) = -1 - (k : Int) := IntWalk.i64_in _ (by omega)
      have hn1 : w.heap.size ∉ foot (.slice A k cc) := fun h => by have := hft _ h; omega
      have hn2 : (Value.slice A k cc).ownBlock ≠ some w.heap.size := fun e => hn1 (row_mem e)
      have HB := Lib.hid hB
      have HR := Lib.hid hR
      have HF := Lib.hid hft
      have HC := Lib.hid hc
      have d1 : decide ((k : Int) < (n : Int)) = true := by simp; omega
      clear hB hR hft hc HI
      go_wp2_with (at_builtin; (refine wpList_append_row _ (by rfl) _ _ 58 (by rfl) 62 i0 _ 4 48 Try.underlying58 hi0 hz0 hz1 hz2 rfl (.slice A k cc) k (plCells (newL k)) (by rfl) (HR.out.alloc _) ⟨wr.heap.size, 0, none⟩ 1 1 [.bool false, .int .i64 (-1), .slice none 0 0, .int .i64 (-1 - (k : Int))] (by rfl) (by rfl) (World.news_of_block (cs := #[.bool false, .int .i64 (-1), .slice none 0 0, .int .i64 (-1 - (k : Int))]) (t := 62) (fr := (0, 0)) (heap_alloc_new wr _)) (by simp [Value.oneCell']) (by omega) (by unfold maxLen; omega) (by omega) (wr.heap.size + 1) (by simp) ?_; intro gg cap w1 hown hgrow hat hlt1; have lw : w.heap.size < w1.heap.size := (by have := hgrow.size; simp at this; omega); have d2 := (hgrow.cell_far ⟨w.heap.size, 0, none⟩ (by simp; omega) (Ne.symm hn2)).trans ((HB.out.alloc _).cell 0); have df := (hgrow.frozen_far ⟨w.heap.size, 0, none⟩ (by simp; omega) (Ne.symm hn2)).trans ((HB.out.alloc _).frozen 0); simp only [List.getElem?_toArray, List.getElem?_cons_zero, List.getElem?_cons_succ] at d2; have HOWN := Lib.hid hown; have HG := Lib.hid hgrow; have HAT := Lib.hid hat; clear hown hgrow hat))
      go_roundg (n - k - 1)
      case measure => omega
      case rel =>
        have hcf : Chg (foot (.slice A k cc)) wr w1 := ((Chg.refl _ wr).alloc _).grown HG.out (fun j hj => .inl (row_mem hj))
        have hgg : gg ≠ w.heap.size := by
          rcases HAT.out with h9 | h9
          · have := HF.out _ (row_mem h9); omega
          · have := HC.out.size; omega
        refine ⟨k + 1, some ⟨gg, 0, none⟩, cap, by omega, by go_num, Lib.hid ⟨(HB.out.chg hcf hn1).set_ 0 _, ?_, ?_, ((HC.out.any.trans hcf (fun j hj => .inl hj)).mono (S' := []) (fun j hj => .inr (by have := HF.out j hj; omega))).setCell (.inr (Nat.le_refl _)) _⟩⟩
        · have ho := HOWN.out.far (p := ⟨w.heap.size, 0, none⟩) (by simpa [foot_some] using fun e => hgg e.symm) (.slice (some ⟨gg, 0, none⟩) (k + 1) cap)
          rw [newL_succ, plCells_append]
          exact ho
        · intro j hj
          simp [foot_some] at hj
          subst hj
          rcases HAT.out with h9 | h9
          · exact HF.out _ (row_mem h9)
          · have := HC.out.size; omega
    · obtain rfl : k = n := by omega
      have d1 : decide ((k : Int) < (k : Int)) = false := by simp
      have HF : Hid (∃ T, RefAt wr w.heap.size T [] (rf0 k) ∧ (∀ j ∈ T, w.heap.size ≤ j) ∧ Chg [] w wr) := by
        obtain ⟨g, cap, hv, _, _, _, _, _⟩ := hR.form h1
        injection hv with hv1 _ hv3
        subst hv1 hv3
        have hg62 : ∃ cs, Blk wr g 62 cs := by
          rcases hR.2 with ⟨h0, _⟩ | ⟨g', cap', cur, hv', hg, _⟩
          · cases h0
          · injection hv' with hv' _ _
            injection hv' with hv'
            injection hv' with hv' _ _
            subst hv'
            exact ⟨_, hg⟩
        refine Lib.hid ⟨[w.heap.size, g], ⟨g, cc, ?_, ?_, fun p hp => ?_, Rd.nil _, fun j hj => (by cases hj), fun j hj => (by cases hj), rfl, hg62⟩, fun j hj => ?_, hc⟩
        · show Blk wr w.heap.size 60 #[.slice (some ⟨g, 0, none⟩) (newL k).length cc, _, _]
          rw [newL_len]; exact hB
        · show Row wr 62 4 (.slice (some ⟨g, 0, none⟩) (newL k).length cc) (newL k).length (plCells (newL k))
          rw [newL_len]; exact hR
        · have hp : p ∈ newL k := hp
          unfold newL at hp
          obtain ⟨i, _, rfl⟩ := List.mem_map.1 hp
          exact ⟨Rd.nil _, fun x hx => by cases hx⟩
        · simp at hj
          rcases hj with rfl | rfl
          · exact Nat.le_refl _
          · have := hft j (by simp [foot_some]); omega
      clear hB hR hft hc HI
      go_wp2
      go_ret
      obtain ⟨T, q1, q2, q3⟩ := HF.out
      exact ⟨w.heap.size, T, rfl, q1, q2, q3⟩
end Go.Proofs
end
