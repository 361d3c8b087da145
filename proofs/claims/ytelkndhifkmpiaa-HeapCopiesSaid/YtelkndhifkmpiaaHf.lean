import Derived.Test.YtelkndhifkmpiaaHe
namespace Go.Proofs
open Go.RowKit
set_option linter.unusedVariables false

def Bef (x y : Int × Int) : Prop := x.1 < y.1 ∨ (x.1 = y.1 ∧ x.2 < y.2)
/-- The first k of the times, in order. -/
structure SortL (ts : List Int) (k : Nat) (l : List (Int × Int)) : Prop where
  each : ∀ x ∈ l, ∃ j : Nat, j < k ∧ x.2 = j ∧ ts[j]? = some x.1
  len : l.length = k
  sorted : l.Pairwise Bef
theorem insP_perm (l : List (Int × Int)) (x : Int × Int) : (insP l x).Perm (x :: l) := by
  induction l with
  | nil => exact List.Perm.refl _
  | cons y l ih =>
    unfold insP
    split
    · exact (ih.cons y).trans (List.Perm.swap x y l)
    · exact List.Perm.refl _
theorem insP_sorted {l : List (Int × Int)} {x : Int × Int} (h : l.Pairwise Bef) (hp : ∀ y ∈ l, y.2 < x.2) : (insP l x).Pairwise Bef := by
  induction l with
  | nil => unfold insP; simp
  | cons y l ih =>
    obtain ⟨h1, h2⟩ := List.pairwise_cons.1 h
    unfold insP
    split
    · rename_i hle
      refine List.pairwise_cons.2 ⟨fun z hz => ?_, ih h2 (fun z hz => hp z (List.mem_cons_of_mem _ hz))⟩
      rcases List.mem_cons.1 ((insP_perm l x).mem_iff.1 hz) with rfl | hz
      · have := hp y (by simp)
        unfold Bef; omega
      · exact h1 z hz
    · rename_i hgt
      refine List.pairwise_cons.2 ⟨fun z hz => ?_, h⟩
      rcases List.mem_cons.1 hz with rfl | hz
      · unfold Bef; omega
      · have := h1 z hz
        unfold Bef at *; omega
theorem SortL.no {ts : List Int} {k : Nat} {l : List (Int × Int)} (h : SortL ts k l) : hasP (k : Nat) l = false := by
  unfold hasP
  rw [List.any_eq_false]
  intro x hx
  obtain ⟨j, h1, h2, _⟩ := h.each x hx
  simp only [h2, beq_iff_eq]
  omega
theorem SortL.put {ts : List Int} {k : Nat} {l : List (Int × Int)} (h : SortL ts k l) {t : Int} (ht : ts[k]? = some t) : SortL ts (k + 1) (putP l t (k : Nat)) ∧ hasP (k : Nat) (putP l t (k : Nat)) = true := by
  have hno := h.no
  unfold putP
  rw [hno]
  simp only [Bool.false_eq_true, if_false]
  have hp := insP_perm l (t, (k : Int))
  refine ⟨⟨fun x hx => ?_, by rw [hp.length_eq, List.length_cons, h.len], insP_sorted h.sorted (fun y hy => ?_)⟩, ?_⟩
  · rcases List.mem_cons.1 (hp.mem_iff.1 hx) with rfl | hx
    · exact ⟨k, by omega, rfl, ht⟩
    · obtain ⟨j, h1, h2⟩ := h.each x hx
      exact ⟨j, by omega, h2⟩
  · obtain ⟨j, h1, h2, _⟩ := h.each y hy
    simp only [h2]; omega
  · unfold hasP
    rw [List.any_eq_true]
    exact ⟨(t, (k : Int)), hp.mem_iff.2 (by simp), by simp⟩
/-- Behind i pops: what is left. -/
structure Left (ts : List Int) (i : Nat) (last id : Int) (l : List (Int × Int)) : Prop where
  each : ∀ x ∈ l, ∃ j : Nat, x.2 = j ∧ ts[j]? = some x.1
  len : i + l.length = ts.length
  sorted : l.Pairwise Bef
  behind : ∀ x ∈ l, last ≤ x.1 ∧ (x.1 = last → i = 0 ∨ id ≤ x.2)
theorem Left.start {ts : List Int} {l : List (Int × Int)} (h : SortL ts ts.length l) (h0 : ∀ (k : Nat) (x : Int), ts[k]? = some x → 0 ≤ x) : Left ts 0 0 (-1) l :=
  ⟨fun x hx => by obtain ⟨j, _, h2⟩ := h.each x hx; exact ⟨j, h2⟩, by rw [h.len]; omega, h.sorted, fun x hx => by obtain ⟨j, _, _, h2⟩ := h.each x hx; exact ⟨h0 j _ h2, fun _ => .inl rfl⟩⟩
theorem Left.next {ts : List Int} {i : Nat} {last id : Int} {x : Int × Int} {l : List (Int × Int)} (h : Left ts i last id (x :: l)) : Left ts (i + 1) x.1 x.2 l := by
  obtain ⟨h1, h2⟩ := List.pairwise_cons.1 h.sorted
  refine ⟨fun y hy => h.each y (List.mem_cons_of_mem _ hy), by have := h.len; rw [List.length_cons] at this; omega, h2, fun y hy => ?_⟩
  have := h1 y hy
  unfold Bef at this
  exact ⟨by omega, fun e => .inr (by omega)⟩
set_option maxRecDepth 100000 in
set_option maxHeartbeats 6400000 in
theorem sorts_any (V : Value) (ts : List Int) (w : World) (hV : Nums w V ts) :
    Calls Try.prog 5 #[V] w fun e w' => e = .returned (.bool true) ∧ Chg [] w w' := by
  obtain ⟨A, c, rfl, hcell⟩ := hV
  have HCell := Lib.hid hcell
  have H0 := Lib.hid (show ∀ (k : Nat) (x : Int), ts[k]? = some x → 0 ≤ x ∧ x ≤ 18446744073709551615 from fun k x hk => by obtain ⟨_, _, _, _, h1, h2, _⟩ := hcell k x hk; exact ⟨h1, h2⟩)
  obtain ⟨m, hmm⟩ : ∃ m, m = ts.length := ⟨_, rfl⟩
  rw [← hmm]
  have HM := Lib.hid hmm
  clear hcell hmm
  by_cases hlen : 300 < m
  · have d : (300 : Int) < (m : Int) := by omega
    go_enter Try.func5, Try.ntmps5
    go_wp2_with (go_at_call 8; refine (known_any _).mono ?_; rintro e w1 ⟨rfl, hc⟩)
    go_ret
    exact ⟨rfl, hc⟩
  · have d : ¬ ((300 : Int) < (m : Int)) := by omega
    go_enter Try.func5, Try.ntmps5
    go_wp2_with (go_at_call 9; refine (new_made _).mono ?_; rintro e w1 ⟨g, rfl, hM⟩; have HB := Lib.hid hM; clear hM)
    go_loopw [4] (fun i wr => ∃ (k : Nat) (l : List (Int × Int)), k ≤ m ∧ i = .int .i64 k ∧ Hid (SortL ts k l ∧ Made w g l (2 * k) wr)) (fun i wr => m - (intOf' i).toNat)
    case atStart => exact ⟨0, [], Nat.zero_le _, rfl, Lib.hid ⟨⟨fun x hx => by simp at hx, rfl, List.Pairwise.nil⟩, HB.out⟩⟩
    case round =>
      obtain ⟨k, l, hk, rfl, hB⟩ := hrel
      by_cases hlt : k < m
      · obtain ⟨t, ht⟩ : ∃ t, ts[k]? = some t := ⟨_, List.getElem?_eq_getElem (by rw [← HM.out]; exact hlt)⟩
        obtain ⟨b, off, rfl, hb, _, _, c0⟩ := HCell.out k t ht
        obtain ⟨hs, hmd⟩ := hB.out
        have d0 := (hmd.chg.cell (p := ⟨b, off + k, none⟩) hb (by simp)).trans c0
        have i0 : (0 : Int) ≤ (k : Int) := by omega
        have i1 : (k : Int) < (m : Int) := by omega
        have hi : I64 (k : Int) := I64.nat (by omega)
        have hp1 := hmd.put (by omega) t hi
        rw [hs.no] at hp1
        simp only [Bool.false_eq_true, if_false] at hp1
        obtain ⟨hs2, hh2⟩ := hs.put ht
        have HP2 := Lib.hid (fun W (hW : Made w g (putP l t (k : Nat)) (2 * k + 1) W) => by
          have := hW.put (by omega) t hi
          rw [hh2] at this
          simp only [if_true] at this
          rw [show putP (putP l t (k : Nat)) t (k : Nat) = putP l t (k : Nat) by rw [putP, hh2]; simp] at this
          exact this)
        have HS2 := Lib.hid hs2
        have HC0 := Lib.hid (show ∀ W, Chg [] w W → W.cell? ⟨b, off + k, none⟩ = some (.int .u64 t) from fun W hW => (hW.cell (p := ⟨b, off + k, none⟩) hb (by simp)).trans c0)
        clear hs hmd hs2 hh2 ht hB c0
        go_wp2_with (first
          | (go_at_call 17; ((with_reducible refine hp1.mono ?_); rintro e w2 ⟨rfl, hM⟩); have M2 := Lib.hid hM; have d1 := HC0.out _ hM.chg; clear hM)
          | (go_at_call 17; ((with_reducible refine (HP2.out _ M2.out).mono ?_); rintro e w3 ⟨rfl, hM⟩); have M3 := Lib.hid hM; clear hM))
        go_roundw
        case rel => exact ⟨k + 1, _, by omega, by go_num, Lib.hid ⟨HS2.out, (show 2 * (k + 1) = 2 * k + 1 + 1 by omega) ▸ M3.out⟩⟩
        case measure => simp [intOf']; omega
      · obtain rfl : k = m := by omega
        obtain ⟨hs, hmd⟩ := hB.out
        have HL := Lib.hid (show Left ts 0 0 (-1) l from Left.start (HM.out ▸ hs) (fun k x hk => (H0.out k x hk).1))
        have HMd := Lib.hid hmd
        clear hs hmd hB HB
        go_wp2
        go_loopw [5, 6, 7] (fun la idv i wr => ∃ (q : Nat) (last id : Int) (l2 : List (Int × Int)), q ≤ k ∧ la = .int .u64 last ∧ idv = .int .i64 id ∧ i = .int .i64 q ∧ Hid (Left ts q last id l2 ∧ Made w g l2 (2 * k) wr)) (fun _ _ i _ => k - (intOf' i).toNat)
        case atStart => exact ⟨0, 0, -1, l, Nat.zero_le _, rfl, rfl, rfl, Lib.hid ⟨HL.out, HMd.out⟩⟩
        case round =>
          obtain ⟨q, last, id, l2, hq, rfl, rfl, rfl, hB⟩ := hrel
          obtain ⟨hL, hmd⟩ := hB.out
          have hll := hL.len
          rw [← HM.out] at hll
          by_cases hlt2 : q < k
          · cases l2 with
            | nil => simp at hll; omega
            | cons x l2 =>
              obtain ⟨j, hj, htj⟩ := hL.each x (by simp)
              obtain ⟨hb1, hb2⟩ := hL.behind x (by simp)
              have hpop := hmd.pop (by omega) 18446744073709551615
              have hxm := (H0.out j _ htj).2
              have e1 : popP 18446744073709551615 (x :: l2) = l2 := by simp only [popP, if_pos hxm]
              have e2 : popVP 18446744073709551615 (x :: l2) = .tuple #[.int .i64 x.2, .bool true] := by simp only [popVP, if_pos hxm]
              rw [e1, e2, hj] at hpop
              obtain ⟨b, off, rfl, hb, _, _, c0⟩ := HCell.out j _ htj
              have hjl : j < k := by rw [HM.out]; exact (List.getElem?_eq_some_iff.1 htj).1
              have HC0 := Lib.hid (show ∀ W, Chg [] w W → W.cell? ⟨b, off + j, none⟩ = some (.int .u64 x.1) from fun W hW => (hW.cell (p := ⟨b, off + j, none⟩) hb (by simp)).trans c0)
              have HNx := Lib.hid hL.next
              rw [hj] at hb2 HNx
              have q0 : (0 : Int) ≤ (q : Int) := by omega
              have q1 : (q : Int) < (k : Int) := by omega
              have j0 : (0 : Int) ≤ (j : Int) := by omega
              have j1 : (j : Int) < (k : Int) := by omega
              have j2 : ¬ ((j : Int) < 0) := by omega
              have j3 : ¬ ((k : Int) ≤ (j : Int)) := by omega
              have t1 : ¬ (x.1 < last) := by omega
              obtain ⟨xa, xi⟩ := x
              simp only at hpop HC0 HNx t1 hb2 hb1
              clear hL hmd hB htj hj e1 e2 c0 hll
              by_cases he : xa = last
              · subst he
                have eq1 : (xa == xa) = true := by simp
                rcases hb2 rfl with h0 | h0
                · obtain rfl := h0
                  clear hb2
                  go_wp2_with (go_at_call 14; refine hpop.mono ?_; rintro e w2 ⟨rfl, hM⟩; have M2 := Lib.hid hM; have d1 := HC0.out _ hM.chg; clear hM)
                  go_roundw
                  case rel => exact ⟨0 + 1, _, _, _, by omega, rfl, rfl, by go_num, Lib.hid ⟨HNx.out, M2.out⟩⟩
                  case measure => simp [intOf']; omega
                · have h1 : ¬ ((j : Int) < id) := by omega
                  clear hb2
                  by_cases hq0 : 0 < q
                  · have hq1 : (0 : Int) < (q : Int) := by omega
                    go_wp2_with (go_at_call 14; refine hpop.mono ?_; rintro e w2 ⟨rfl, hM⟩; have M2 := Lib.hid hM; have d1 := HC0.out _ hM.chg; clear hM)
                    go_roundw
                    case rel => exact ⟨q + 1, _, _, _, by omega, rfl, rfl, by go_num, Lib.hid ⟨HNx.out, M2.out⟩⟩
                    case measure => simp [intOf']; omega
                  · have hq1 : ¬ ((0 : Int) < (q : Int)) := by omega
                    go_wp2_with (go_at_call 14; refine hpop.mono ?_; rintro e w2 ⟨rfl, hM⟩; have M2 := Lib.hid hM; have d1 := HC0.out _ hM.chg; clear hM)
                    go_roundw
                    case rel => exact ⟨q + 1, _, _, _, by omega, rfl, rfl, by go_num, Lib.hid ⟨HNx.out, M2.out⟩⟩
                    case measure => simp [intOf']; omega
              · have eq1 : (xa == last) = false := by simpa using he
                clear he hb2
                go_wp2_with (go_at_call 14; refine hpop.mono ?_; rintro e w2 ⟨rfl, hM⟩; have M2 := Lib.hid hM; have d1 := HC0.out _ hM.chg; clear hM)
                go_roundw
                case rel => exact ⟨q + 1, _, _, _, by omega, rfl, rfl, by go_num, Lib.hid ⟨HNx.out, M2.out⟩⟩
                case measure => simp [intOf']; omega
          · obtain rfl : q = k := by omega
            have hl0 : l2 = [] := List.eq_nil_of_length_eq_zero (by omega)
            subst hl0
            have hln := hmd.len
            have HC := Lib.hid hmd.chg
            clear hL hmd hB hll
            go_wp2_with (first
              | (go_at_call 16; refine hln.mono ?_; rintro e w' ⟨rfl, rfl⟩)
              | (go_at_call 8; refine (known_any _).mono ?_; rintro e w4 ⟨rfl, hc⟩))
            go_ret
            exact ⟨rfl, HC.out.then hc⟩
end Go.Proofs
