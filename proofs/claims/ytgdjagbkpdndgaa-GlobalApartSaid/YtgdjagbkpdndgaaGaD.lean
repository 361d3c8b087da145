import Derived.Test.YtgdjagbkpdndgaaGaC
import Derived.Test.YtgdjagbkpdndgaaShelf
namespace Go.Proofs
open Go.RowKit
set_option linter.unusedVariables false

def NoneOf (x : Int) (L : List Int) (n : Nat) : Prop := ∀ j, j < n → L[j]? ≠ some x
theorem NoneOf.snoc {x : Int} {L : List Int} {n : Nat} (h : NoneOf x L n) {y : Int} (hy : L[n]? = some y) (hne : y ≠ x) : NoneOf x L (n + 1) := fun j hj => by
  by_cases e : j = n
  · subst e; rw [hy]; intro h; exact hne (Option.some.inj h)
  · exact h j (by omega)
/-! ### The document's ring: a list -/
set_option maxHeartbeats 1600000 in
theorem rsame_q {w : World} {v1 v2 : Value} {l1 l2 : List Int} (h1 : Rd w v1 l1) (h2 : Rd w v2 l2) (n1 : l1.length ≤ 8192) (n2 : l2.length ≤ 8192) :
    Calls Try.prog 19 #[v1, v2] w fun e w' => e = .returned (.bool (l1 == l2)) ∧ ∃ q, w' = w.drewN q := by
  obtain ⟨A1, c1, rfl, _, _, _, o1⟩ := h1.open_
  obtain ⟨A2, c2, rfl, _, _, _, o2⟩ := h2.open_
  by_cases hl : l1.length = l2.length
  · obtain ⟨n, hn⟩ : ∃ n, n = l1.length := ⟨_, rfl⟩
    rw [← hl, ← hn]
    rw [← hn] at n1
    have HN := Lib.hid hn
    have HL := Lib.hid hl
    have O1 := Lib.hid o1
    have O2 := Lib.hid o2
    have hnn : ((n : Int) == (n : Int)) = true := by simp
    have hnn' : ((n : Int) != (n : Int)) = false := by simp
    clear hn hl o1 o2 n2 h1 h2
    go_enter Try.func19, Try.ntmps19
    go_wp2
    go_loopw [5] (fun i wr => ∃ k q : Nat, k ≤ n ∧ i = .int .i64 k ∧ wr = w.drewN q ∧ Hid (∀ j, j < k → l1[j]? = l2[j]?)) (fun i _ => n - (intOf i).toNat)
    case atStart => exact ⟨0, 0, Nat.zero_le _, rfl, rfl, Lib.hid fun j hj => by omega⟩
    case round =>
      obtain ⟨k, q, hk, rfl, rfl, HE⟩ := hrel
      by_cases hlt : k < n
      · obtain ⟨x, hx⟩ : ∃ x, l1[k]? = some x := ⟨_, List.getElem?_eq_getElem (by rw [← HN.out]; exact hlt)⟩
        obtain ⟨y, hy⟩ : ∃ y, l2[k]? = some y := ⟨_, List.getElem?_eq_getElem (by rw [← HL.out, ← HN.out]; exact hlt)⟩
        obtain ⟨b1, p1, rfl, _, q1⟩ := O1.out k x hx
        obtain ⟨b2, p2, rfl, _, q2⟩ := O2.out k y hy
        have i0 : (0 : Int) ≤ (k : Int) := by omega
        have i1 : (k : Int) < (n : Int) := by omega
        have HX := Lib.hid hx
        have HY := Lib.hid hy
        clear hx hy
        by_cases hxy : x = y
        · subst hxy
          have hb : (x != x) = false := by simp
          go_wp2
          go_quiet (fail)
          go_wp2
          go_roundw
          case rel =>
            refine ⟨k + 1, _, by omega, by go_num, rfl, Lib.hid fun j hj => ?_⟩
            by_cases e : j = k
            · subst e; rw [HX.out, HY.out]
            · exact HE.out j (by omega)
          case measure => simp [intOf]; omega
        · have hb : (x != y) = true := by simpa using hxy
          have HZ := Lib.hid (show (l1 == l2) = false by
            rw [beq_eq_false_iff_ne]
            intro e
            have hx := HX.out
            have hy := HY.out
            rw [e, hy] at hx
            exact hxy (Option.some.inj hx.symm))
          clear hxy
          go_wp2
          go_quiet (fail)
          go_wp2
          go_ret
          exact ⟨by rw [HZ.out]; rfl, _, World.drewN_drewN _ _ _⟩
      · obtain rfl : k = n := by omega
        have HZ := Lib.hid (show (l1 == l2) = true by
          rw [beq_iff_eq]
          refine List.ext_getElem? fun j => ?_
          by_cases hj : j < k
          · exact HE.out j hj
          · rw [List.getElem?_eq_none (by rw [← HN.out]; omega), List.getElem?_eq_none (by rw [← HL.out, ← HN.out]; omega)])
        go_wp2
        go_ret
        exact ⟨by rw [HZ.out]; rfl, _, rfl⟩
  · have hb : ((l1.length : Int) != (l2.length : Int)) = true := by simp; omega
    have HZ := Lib.hid (show (l1 == l2) = false by rw [beq_eq_false_iff_ne]; exact fun e => hl (by rw [e]))
    clear hl o1 o2 h1 h2
    go_enter Try.func19, Try.ntmps19
    go_wp2
    go_ret
    exact ⟨by rw [HZ.out]; rfl, 0, rfl⟩
theorem rsame_any {w : World} {v1 v2 : Value} {l1 l2 : List Int} (h1 : Rd w v1 l1) (h2 : Rd w v2 l2) (n1 : l1.length ≤ 8192) (n2 : l2.length ≤ 8192) :
    Calls Try.prog 19 #[v1, v2] w fun e w' => e = .returned (.bool (l1 == l2)) ∧ Chg [] w w' :=
  (rsame_q h1 h2 n1 n2).mono fun e w' ⟨h3, q, h4⟩ => ⟨h3, by rw [h4]; exact (Chg.refl _ _).drewN _⟩
/-- Where x stands for the first time; -1, if nowhere. -/
def findI (x : Int) (l : List Int) : Int := if findAt x l < l.length then (findAt x l : Nat) else -1
set_option maxHeartbeats 1600000 in
theorem rfind_any {w : World} {v : Value} {l : List Int} (h : Rd w v l) (hn : l.length ≤ 8192) (x : Int) :
    Calls Try.prog 28 #[v, .int .i64 x] w fun e w' => e = .returned (.int .i64 (findI x l)) ∧ w = w' := by
  obtain ⟨A, c, rfl, _, _, _, o⟩ := h.open_
  obtain ⟨n, hnl⟩ : ∃ n, n = l.length := ⟨_, rfl⟩
  rw [← hnl] at hn ⊢
  have HN := Lib.hid hnl
  have O := Lib.hid o
  clear hnl o h
  go_enter Try.func28, Try.ntmps28
  go_wp2
  go_loop [5] (fun i => ∃ k : Nat, k ≤ n ∧ i = .int .i64 k ∧ Hid (NoneOf x l k)) (fun i => n - (intOf i).toNat)
  case atStart => exact ⟨0, Nat.zero_le _, rfl, Lib.hid fun j hj => by omega⟩
  case round =>
    obtain ⟨k, hk, rfl, HE⟩ := hrel
    by_cases hlt : k < n
    · obtain ⟨y, hy⟩ : ∃ y, l[k]? = some y := ⟨_, List.getElem?_eq_getElem (by rw [← HN.out]; exact hlt)⟩
      obtain ⟨b, p, rfl, _, q⟩ := O.out k y hy
      have HY := Lib.hid hy
      have i0 : (0 : Int) ≤ (k : Int) := by omega
      have i1 : (k : Int) < (n : Int) := by omega
      clear hy
      by_cases hxy : y = x
      · subst hxy
        have HZ := Lib.hid (show findI y l = (k : Nat) by unfold findI; rw [findAt_first HE.out HY.out, if_pos (by rw [← HN.out]; exact hlt)])
        go_wp2
        go_ret
        exact ⟨by rw [HZ.out]; rfl, rfl⟩
      · have hb : (y == x) = false := by simpa using hxy
        have HX := Lib.hid hxy
        clear hxy
        go_wp2
        go_round
        case rel => exact ⟨k + 1, by omega, by go_num, Lib.hid (HE.out.snoc HY.out HX.out)⟩
        case measure => simp [intOf]; omega
    · obtain rfl : k = n := by omega
      have HZ := Lib.hid (show findI x l = -1 by unfold findI; rw [findAt_none (by rw [← HN.out]; exact HE.out), if_neg (by omega)])
      go_wp2
      go_ret
      exact ⟨by rw [HZ.out]; rfl, rfl⟩
theorem Rd.at_ {w : World} {a : Addr} {m c : Nat} {L : List Int} (h : Rd w (.slice (some a) m c) L) : ∃ b o, a = ⟨b, o, none⟩ := by
  obtain ⟨A, c', hv, _, _, _, h4⟩ := h
  injection hv with hA _ _
  obtain ⟨h', o', cs, he, _⟩ := h4 _ hA.symm
  exact ⟨h', o', he⟩
theorem Rd.first {w : World} {A : Option Addr} {m c k : Nat} {L : List Int} (h : Rd w (.slice A m c) L) (hk : k ≤ m) : Rd w (.slice A k c) (L.take k) := by
  obtain ⟨A', c', hv, h1, h2, h3, h4⟩ := h
  simp only [Value.slice.injEq] at hv
  obtain ⟨rfl, rfl, rfl⟩ := hv
  have e : (L.take k).length = k := by rw [List.length_take]; omega
  refine ⟨A, c, by rw [e], by omega, h2, h3, fun a ha => ?_⟩
  obtain ⟨g, o, cs, rfl, hB, hs, r⟩ := h4 a ha
  refine ⟨g, o, cs, rfl, hB, hs, fun j x hj => r j x ?_⟩
  rw [List.getElem?_take] at hj
  split at hj
  · exact hj
  · cases hj
theorem Rd.rest {w : World} {b o m c k : Nat} {L : List Int} (h : Rd w (.slice (some ⟨b, o, none⟩) m c) L) (hk : k ≤ m) (hkc : k < c) : Rd w (.slice (some ⟨b, o + k, none⟩) (m - k) (c - k)) (L.drop k) := by
  obtain ⟨A', c', hv, h1, h2, h3, h4⟩ := h
  simp only [Value.slice.injEq] at hv
  obtain ⟨rfl, rfl, rfl⟩ := hv
  have e : (L.drop k).length = L.length - k := List.length_drop
  refine ⟨_, c - k, by rw [e], by omega, by omega, fun h => (by cases h), fun a ha => ?_⟩
  cases ha
  obtain ⟨g, o', cs, he, hB, hs, r⟩ := h4 _ rfl
  cases he
  refine ⟨_, _, cs, rfl, hB, by omega, fun j x hj => ?_⟩
  rw [List.getElem?_drop] at hj
  rw [Nat.add_assoc]
  exact r _ x hj
theorem Rd.rest0 {w : World} {b o m : Nat} {L : List Int} (h : Rd w (.slice (some ⟨b, o, none⟩) m m) L) : Rd w (.slice (some ⟨b, o, none⟩) 0 0) (L.drop m) := by
  obtain ⟨A', c', hv, h1, h2, h3, h4⟩ := h
  simp only [Value.slice.injEq] at hv
  obtain ⟨rfl, rfl, hc⟩ := hv
  obtain ⟨g, o', cs, he, hB, hs, r⟩ := h4 _ rfl
  cases he
  rw [List.drop_length]
  exact ⟨_, 0, rfl, by simp, by simp, fun h => (by cases h), fun a ha => by cases ha; exact ⟨_, _, cs, rfl, hB, by omega, fun j x hj => by simp at hj⟩⟩
theorem eraseIdx_parts (L : List Int) (i : Nat) (hi : i < L.length) : L.take i ++ L.drop (i + 1) = L.eraseIdx i := (List.eraseIdx_eq_take_drop_succ L i).symm
set_option maxHeartbeats 3200000 in
set_option maxRecDepth 100000 in
theorem cut_any {w : World} {v : Value} {L : List Int} (h : Rd w v L) (hl : L.length ≤ 8192) (i : Nat) (hi : i < L.length) :
    Calls Try.prog 38 #[v, .int .i64 (i : Nat)] w fun e w' => ∃ v', e = .returned v' ∧ Fresh w w' v' (L.eraseIdx i) := by
  obtain ⟨A, c, rfl, hlc, hcm, hA, _⟩ := h.open_
  obtain ⟨m, hm⟩ : ∃ m, m = L.length := ⟨_, rfl⟩
  rw [← hm] at h hl hi hlc ⊢
  obtain ⟨a, rfl⟩ : ∃ a, A = some a := by
    cases A with
    | none => have := hA rfl; omega
    | some a => exact ⟨a, rfl⟩
  obtain ⟨b, o, rfl⟩ := h.at_
  have h1 := Lib.hid (h.first (Nat.le_of_lt hi))
  have HM := Lib.hid hm
  have HE := Lib.hid (eraseIdx_parts L i (by omega))
  have i0 : (0 : Int) ≤ (i : Int) := by omega
  have i1 : (i : Int) ≤ (c : Int) := by omega
  have i2 : (0 : Int) ≤ (i : Int) + 1 := by omega
  have i3 : (i : Int) + 1 ≤ (m : Int) := by omega
  have e1 : IntKind.i64.wrap ((i : Int) + 1) = (i : Int) + 1 := IntWalk.i64_in _ (by omega)
  have e2 : ((i : Int) + 1).toNat = i + 1 := by omega
  have hc63 : c ≤ 9223372036854775807 := by unfold maxLen at hcm; exact hcm
  have HL1 := Lib.hid (show (L.take i).length = i by rw [List.length_take]; omega)
  have HL2 := Lib.hid (show (L.drop (i + 1)).length = m - (i + 1) by rw [List.length_drop]; omega)
  by_cases hic : i + 1 < c
  · have h2 := Lib.hid (h.rest hi hic)
    have hne : c ≠ i + 1 := by omega
    clear h hm hcm hA
    go_enter Try.func38, Try.ntmps38
    go_wp2
    go_region_law
      (first
        | (refine step_append_rs (xs := []) (n := i) _ (by rfl) _ _ (by rfl) (by rfl) (by rfl) (Row.nil _ _ _) (h1.out.quiet ((Chg.refl _ _).drew)) (by rw [HL1.out]; simp only [List.length_nil]; omega) (by rw [HL1.out]; simp) ?_; intro A1 c1 w1 hr1 hg1 hf1; simp only [List.nil_append] at hr1; have hcA : Chg [] w w1 := ((Chg.refl _ _).drew).grown hg1 (fun k hk => by cases hk); have hfA : ∀ k ∈ foot (.slice A1 i c1), w.heap.size ≤ k := (fun k hk => (hf1 k hk).elim (fun h => by cases h) (fun h => h)); have HCA := Lib.hid hcA; have HFA := Lib.hid hfA; have HR1 := Lib.hid hr1; clear hg1 hf1 hcA hfA hr1)
        | (refine step_append_rs (n := i + (m - (i + 1))) _ (by rfl) _ _ (by rfl) (by rfl) (by rfl) HR1.out (h2.out.quiet HCA.out) (by rw [HL1.out, HL2.out]; omega) (by rw [HL1.out, HL2.out]) ?_; intro A2 c2 w2 hr2 hg2 hf2; have HF := Lib.hid (Fresh.append (w := w) (xs := L.take i) (l := L.drop (i + 1)) ⟨HR1.out, HFA.out, HCA.out⟩ hr2 hg2 hf2); clear hg2 hf2 hr2))
    all_goals
      go_wp2
      go_ret
      exact ⟨_, rfl, by rw [← HE.out]; exact HF.out⟩
  · obtain rfl : c = i + 1 := by omega
    obtain rfl : m = i + 1 := by omega
    have h2 := Lib.hid h.rest0
    have i4 : (i : Int) ≤ (i : Int) + 1 := by omega
    clear h hm hcm hA
    go_enter Try.func38, Try.ntmps38
    go_wp2
    go_region_law
      (first
        | (refine step_append_rs (xs := []) (n := i) _ (by rfl) _ _ (by rfl) (by rfl) (by rfl) (Row.nil _ _ _) (h1.out.quiet ((Chg.refl _ _).drew)) (by rw [HL1.out]; simp only [List.length_nil]; omega) (by rw [HL1.out]; simp) ?_; intro A1 c1 w1 hr1 hg1 hf1; simp only [List.nil_append] at hr1; have hcA : Chg [] w w1 := ((Chg.refl _ _).drew).grown hg1 (fun k hk => by cases hk); have hfA : ∀ k ∈ foot (.slice A1 i c1), w.heap.size ≤ k := (fun k hk => (hf1 k hk).elim (fun h => by cases h) (fun h => h)); have HCA := Lib.hid hcA; have HFA := Lib.hid hfA; have HR1 := Lib.hid hr1; clear hg1 hf1 hcA hfA hr1)
        | (refine step_append_rs (n := i) _ (by rfl) _ _ (by rfl) (by rfl) (by rfl) HR1.out (h2.out.quiet HCA.out) (by rw [HL1.out, HL2.out]; omega) (by rw [HL1.out, HL2.out]; omega) ?_; intro A2 c2 w2 hr2 hg2 hf2; have HF := Lib.hid (Fresh.append (w := w) (xs := L.take i) (l := L.drop (i + 1)) ⟨HR1.out, HFA.out, HCA.out⟩ hr2 hg2 hf2); clear hg2 hf2 hr2))
    all_goals
      go_wp2
      go_ret
      exact ⟨_, rfl, by rw [← HE.out]; exact HF.out⟩
/-- In the midst of a scratching: the row is of ints still; else nothing has turned. -/
def Scr (w0 wr : World) (v : Value) (m : Nat) : Prop :=
  ∃ vs, Row wr 3 1 v m vs ∧ (∀ j, j < m → ∃ x, vs[j]? = some (.int .i64 x)) ∧ Chg (foot v) w0 wr
theorem Scr.start {w0 : World} {v : Value} {l : List Int} (h : Row w0 3 1 v l.length (ints l)) : Scr w0 w0 v l.length :=
  ⟨_, h, fun j hj => ⟨l[j], ints_at (List.getElem?_eq_getElem hj)⟩, Chg.refl _ _⟩
theorem Scr.form {w0 wr : World} {v : Value} {m k : Nat} (h : Scr w0 wr v m) (hk : k < m) : ∃ gg cap x, v = .slice (some ⟨gg, 0, none⟩) m cap ∧ wr.cell? ⟨gg, k, none⟩ = some (.int .i64 x) ∧ wr.frozen? ⟨gg, k, none⟩ = false := by
  obtain ⟨vs, hr, hi, hc⟩ := h
  obtain ⟨gg, cap, rfl, _, _, hcell, hfz, _⟩ := hr.form (by omega)
  obtain ⟨x, hx⟩ := hi k hk
  exact ⟨gg, cap, x, rfl, hcell k _ hx, hfz k⟩
theorem Scr.step {w0 wr : World} {gg cap m k : Nat} (h : Scr w0 wr (.slice (some ⟨gg, 0, none⟩) m cap) m) (hk : k < m) (y : Int) : Scr w0 (wr.setCell ⟨gg, k, none⟩ (.int .i64 y)) (.slice (some ⟨gg, 0, none⟩) m cap) m := by
  obtain ⟨vs, hr, hi, hc⟩ := h
  refine ⟨_, hr.set_ (j := k) (by omega) (.int .i64 y), fun j hj => ?_, hc.setCell (p := ⟨gg, k, none⟩) (.inl (by simp [foot_some])) _⟩
  have hl := hr.1
  by_cases e : j = k
  · subst e
    exact ⟨y, List.getElem?_set_self (by omega)⟩
  · obtain ⟨x, hx⟩ := hi j hj
    exact ⟨x, by rw [List.getElem?_set_ne (fun e' => e e'.symm)]; exact hx⟩
theorem Rd.two (w : World) (x y : Int) : Rd (w.alloc (.cells #[.int .i64 x, .int .i64 y] 3)) (.slice (some ⟨w.heap.size, 0, none⟩) 2 2) [x, y] :=
  ⟨_, 2, rfl, by simp, by unfold maxLen; omega, fun h => (by cases h), fun a ha => by
    cases ha
    refine ⟨_, 0, _, rfl, Blk.new w 3 _, by simp, fun j z hj => ?_⟩
    match j, hj with
    | 0, hj => simp at hj; simp [hj]
    | 1, hj => simp at hj; simp [hj]⟩
theorem eraseIdx_none {L : List Int} {x : Int} (h : ¬ findAt x L < L.length) : L.eraseIdx (findAt x L) = L := List.eraseIdx_of_length_le (by omega)
/-- slices.Equal of two slices that are read. -/
theorem equal_any {w : World} {v1 v2 : Value} {l1 l2 : List Int} (h1 : Rd w v1 l1) (h2 : Rd w v2 l2) (n1 : l1.length ≤ 8192) (n2 : l2.length ≤ 8192) :
    Calls Try.prog 35 #[v1, v2] w fun e w' => e = .returned (.bool (l1 == l2)) ∧ Chg [] w w' := by
  obtain ⟨A1, c1, rfl, _, _, _, o1⟩ := h1.open_
  obtain ⟨A2, c2, rfl, _, _, _, o2⟩ := h2.open_
  by_cases hl : l1.length = l2.length
  · rcases Nat.eq_zero_or_pos l1.length with h0 | h0
    · have e1 : l1 = [] := List.eq_nil_of_length_eq_zero h0
      have e2 : l2 = [] := List.eq_nil_of_length_eq_zero (by omega)
      subst e1 e2
      exact (Try.slices_Equal_int_empty A1 A2 c1 0 c2 w (by omega)).mono fun e w' ⟨h1, h2⟩ => ⟨h1, by rw [h2]; exact Chg.refl _ _⟩
    · obtain ⟨b1, p1, rfl, _⟩ := o1 0 _ (List.getElem?_eq_getElem h0)
      obtain ⟨b2, p2, rfl, _⟩ := o2 0 _ (List.getElem?_eq_getElem (by omega))
      have g1 : ∀ j, j < l1.length → w.cell? ⟨b1, p1 + j, none⟩ = some (.int .i64 (l1.getD j 0)) := fun j hj => by
        obtain ⟨b, o, he, _, hc⟩ := o1 j _ (List.getElem?_eq_getElem hj)
        injection he with he; injection he with he1 he2; subst he1 he2
        rw [hc, List.getD_eq_getElem?_getD, List.getElem?_eq_getElem hj]; rfl
      have g2 : ∀ j, j < l2.length → w.cell? ⟨b2, p2 + j, none⟩ = some (.int .i64 (l2.getD j 0)) := fun j hj => by
        obtain ⟨b, o, he, _, hc⟩ := o2 j _ (List.getElem?_eq_getElem hj)
        injection he with he; injection he with he1 he2; subst he1 he2
        rw [hc, List.getD_eq_getElem?_getD, List.getElem?_eq_getElem hj]; rfl
      exact (Try.slices_Equal_int b1 p1 l1.length c1 b2 p2 l2.length c2 l1 l2 w (Nat.le_refl _) (Nat.le_refl _) (by omega) (by omega) g1 g2).mono fun e w' ⟨h1, q, h2⟩ =>
        ⟨by rw [h1, List.take_of_length_le (Nat.le_refl _), List.take_of_length_le (Nat.le_refl _)], by rw [h2]; exact (Chg.refl _ _).drewN _⟩
  · exact (Try.slices_Equal_int_lens A1 A2 l1.length c1 l2.length c2 w hl).mono fun e w' ⟨h1, h2⟩ => ⟨by rw [h1, beq_eq_false_iff_ne.2 (fun e => hl (by rw [e]))], by rw [h2]; exact Chg.refl _ _⟩
end Go.Proofs
