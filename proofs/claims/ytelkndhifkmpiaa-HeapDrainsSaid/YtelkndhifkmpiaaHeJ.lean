import Derived.Test.YtelkndhifkmpiaaHeI
namespace Go.Proofs
open Go.RowKit
set_option linter.unusedVariables false

theorem Row.less {w : World} {e : TypeId} {size n g cap : Nat} {xs : List Value} (h : Row w e size (.slice (some ⟨g, 0, none⟩) n cap) n xs) {k : Nat} (hk : k ≤ n) :
    Row w e size (.slice (some ⟨g, 0, none⟩) k cap) k (xs.take (k * size)) := by
  have hkn : k * size ≤ n * size := Nat.mul_le_mul_right _ hk
  refine ⟨by rw [List.length_take, h.1]; omega, ?_⟩
  rcases h.2 with ⟨h0, _⟩ | ⟨g', cap', cur, hv, hg, hc, hm, hs, ht⟩
  · cases h0
  · simp only [Value.slice.injEq, Option.some.injEq, Addr.mk.injEq] at hv
    obtain ⟨⟨rfl, _⟩, _, rfl⟩ := hv
    refine .inr ⟨g, cap, cur, rfl, hg, by omega, hm, hs, ?_⟩
    rw [← ht, List.take_take, Nat.min_eq_left hkn]
/-- What is left when the one at i was exchanged with the last one, which went. -/
def cutAt (ts : List Tm) (i : Nat) : List Tm := (swp ts i (ts.length - 1)).take (ts.length - 1)
section
variable {ts : List Tm} {i : Nat}
theorem cutAt_len : (cutAt ts i).length = ts.length - 1 := by unfold cutAt; rw [List.length_take, swp_len]; omega
theorem cutAt_at (hi : i < ts.length) {k : Nat} (hk : k < ts.length - 1) : at_ (cutAt ts i) k = if k = i then at_ ts (ts.length - 1) else at_ ts k := by
  have h := at_eq (ts := cutAt ts i) (k := k) (by rw [cutAt_len]; exact hk)
  unfold cutAt at h ⊢
  rw [List.getElem?_take, if_pos hk, at_eq (by rw [swp_len]; omega), swp_at hi (by omega)] at h
  rw [← Option.some.inj h]
  unfold swf
  rw [if_neg (by omega)]
theorem cutAt_append (hi : i < ts.length) : cutAt ts i ++ [at_ ts i] = swp ts i (ts.length - 1) := by
  have hl := swp_len ts i (ts.length - 1)
  have e := List.take_append_drop (ts.length - 1) (swp ts i (ts.length - 1))
  have h : (swp ts i (ts.length - 1)).drop (ts.length - 1) = [at_ ts i] := by
    have h1 := at_eq (ts := swp ts i (ts.length - 1)) (k := ts.length - 1) (by rw [hl]; omega)
    rw [swp_at hi (by omega)] at h1
    unfold swf at h1
    rw [if_pos rfl] at h1
    refine List.ext_getElem? fun q => ?_
    rw [List.getElem?_drop]
    cases q with
    | zero => simpa using h1
    | succ q => rw [List.getElem?_eq_none (by rw [hl]; omega)]; rfl
  rw [h] at e
  exact e
theorem cutAt_perm (hi : i < ts.length) : (cutAt ts i ++ [at_ ts i]).Perm ts := by
  rw [cutAt_append hi]
  exact swp_perm hi (by omega)
theorem cutAt_hole (hi : i < ts.length - 1) (hH : HeapO (at_ ts) ts.length) : Hole (at_ (cutAt ts i)) (ts.length - 1) i := by
  intro k h0 h1
  have hp := par_lt h0
  refine ⟨fun h2 h3 => ?_, fun h2 h3 => ?_⟩
  · unfold OkAt
    rw [cutAt_at (by omega) h1, cutAt_at (by omega) (by omega), if_neg h2, if_neg h3]
    exact hH k h0 (by omega)
  · have hpi := par_lt h3
    rw [cutAt_at (by omega) h1, cutAt_at (by omega) (by omega), if_neg (by omega), if_neg (by omega)]
    have q1 := hH k h0 (by omega)
    unfold OkAt at q1
    rw [h2] at q1
    exact Tm.ntrans q1 (hH i h3 (by omega))
theorem cutAt_heap (hi : i = ts.length - 1) (h0 : 0 < ts.length) (hH : HeapO (at_ ts) ts.length) : HeapO (at_ (cutAt ts i)) (ts.length - 1) := by
  intro k h0 h1
  have hp := par_lt h0
  unfold OkAt
  rw [cutAt_at (by omega) h1, cutAt_at (by omega) (by omega), if_neg (by omega), if_neg (by omega)]
  exact hH k h0 (by omega)
theorem Plcs.cut {f : Int → Option Nat} (hi : i < ts.length) (h : Plcs (swp ts i (ts.length - 1)) f) : Plcs (cutAt ts i) (del f (at_ ts i).id) := by
  have hlast : (swp ts i (ts.length - 1))[ts.length - 1]? = some (at_ ts i) := by
    rw [← cutAt_append hi, List.getElem?_append_right (by rw [cutAt_len]; omega), cutAt_len]; simp
  have hk : ∀ k x, (cutAt ts i)[k]? = some x → k < ts.length - 1 ∧ (swp ts i (ts.length - 1))[k]? = some x := fun k x hk => by
    have hl := (List.getElem?_eq_some_iff.1 hk).1
    rw [cutAt_len] at hl
    refine ⟨hl, ?_⟩
    unfold cutAt at hk
    rwa [List.getElem?_take, if_pos hl] at hk
  refine ⟨fun k x h1 => ?_, fun id hid => ?_⟩
  · obtain ⟨h2, h3⟩ := hk k x h1
    unfold del
    rw [if_neg (fun e => by have := h.inj h3 hlast e; omega)]
    exact h.1 k x h3
  · unfold del at hid
    split at hid
    · exact absurd rfl hid
    · rename_i hne
      obtain ⟨k, x, h1, h2⟩ := h.2 id hid
      have hl := (List.getElem?_eq_some_iff.1 h1).1
      rw [swp_len] at hl
      refine ⟨k, x, ?_, h2⟩
      unfold cutAt
      rw [List.getElem?_take, if_pos, h1]
      rcases Nat.lt_or_ge k (ts.length - 1) with h9 | h9
      · exact h9
      · exfalso
        obtain rfl : k = ts.length - 1 := by omega
        rw [hlast] at h1
        exact hne (by rw [← h2, ← Option.some.inj h1])
end
/-- The timers are cut in memory. -/
theorem Hm.cut {w w2 : World} {g h b c m p : Nat} {ts : List Tm} {i : Nat} {f : Int → Option Nat} (hi : i < ts.length) (H : HpB w g h b c (swp ts i (ts.length - 1)) f m p) (hP : Plcs (swp ts i (ts.length - 1)) f) (hI : ∀ x ∈ ts, I64 x.id)
    (hc : Chg [b] w w2) (hM : Mp w2 b m (del f (at_ ts i).id)) :
    Hm (w2.setCell ⟨g, 0, none⟩ (.slice (some ⟨h, 0, none⟩) (ts.length - 1 : Nat) c)) g h b c m p (cutAt ts i) ∧ Chg [g, h, b] w (w2.setCell ⟨g, 0, none⟩ (.slice (some ⟨h, 0, none⟩) (ts.length - 1 : Nat) c)) := by
  obtain ⟨n1, n2, n3⟩ := H.ne
  obtain ⟨hB, hR, _⟩ := H
  rw [swp_len] at hB hR
  refine ⟨⟨_, ⟨?_, ?_, ?_⟩, hP.cut hi, fun x hx => hI x ((cutAt_perm hi).mem_iff.1 (List.mem_append_left _ hx))⟩, ?_⟩
  · have := (hB.chg hc (by simpa using Ne.symm n2)).set_ 0 (.slice (some ⟨h, 0, none⟩) (ts.length - 1 : Nat) c)
    rw [cutAt_len]
    simpa using this
  · have := ((hR.chg hc (by simpa [foot_some] using Ne.symm n3)).far (p := ⟨g, 0, none⟩) (by simpa [foot_some] using n1) (.slice (some ⟨h, 0, none⟩) (ts.length - 1 : Nat) c)).less (k := ts.length - 1) (by omega)
    rw [cutAt_len]
    rw [show (tms (swp ts i (ts.length - 1))).take ((ts.length - 1) * 3) = tms (cutAt ts i) from flat_take tmCells_len _ _] at this
    exact this
  · exact hM.same (Below.heap_setCell _ _ _ _ n2)
  · exact (hc.mono (S' := [g, h, b]) (fun k hk => .inl (by simp at hk; simp [hk]))).setCell (p := ⟨g, 0, none⟩) (.inl (by simp)) _
theorem HpB.room {w : World} {g h b c m p : Nat} {ts : List Tm} {f : Int → Option Nat} (H : HpB w g h b c ts f m p) : ts.length ≤ c := by
  obtain ⟨_, hR, _⟩ := H
  rcases hR.2 with ⟨hv, _⟩ | ⟨_, cap, _, hv, _, hc, _⟩
  · cases hv
  · injection hv with _ _ hv; omega
/-- What take comes to. -/
def TkEnds (w : World) (g h b c m p : Nat) (ts : List Tm) (i : Nat) (w' : World) : Prop :=
  ∃ ts', (ts' ++ [at_ ts i]).Perm ts ∧ HeapO (at_ ts') ts'.length ∧ Hm w' g h b c m p ts' ∧ Chg [g, h, b] w w'
set_option maxHeartbeats 3200000 in
set_option maxRecDepth 100000 in
theorem take_any {w : World} {g h b c m p : Nat} {ts : List Tm} (H : Hm w g h b c m p ts) {i : Nat} (hi : i < ts.length) (hn : ts.length ≤ 100000) (hm : m ≤ 1000000) (hH : HeapO (at_ ts) ts.length) :
    Calls Try.prog 30 #[.pointer (some ⟨g, 0, none⟩), .int .i64 (i : Nat)] w fun e w' => e = .returned (.tuple #[]) ∧ TkEnds w g h b c m p ts i w' := by
  have hlt := H.lt
  have hSw := H.swap (i := i) (j := ts.length - 1) hi (by omega) hn hm
  have hI : ∀ x ∈ ts, I64 x.id := by obtain ⟨_, _, _, h⟩ := H; exact h
  have HCut := Lib.hid (fun w1 w2 f (h1 : HpB w1 g h b c (swp ts i (ts.length - 1)) f m p) (hP : Plcs (swp ts i (ts.length - 1)) f) (hc : Chg [b] w1 w2) (hM : Mp w2 b m (del f (at_ ts i).id)) => Hm.cut hi h1 hP hI hc hM)
  have HUp := Lib.hid (fun W (hW : Hm W g h b c m p (cutAt ts i)) (hi2 : i < ts.length - 1) => up_any hW (i := i) (by rw [cutAt_len]; exact hi2) (by rw [cutAt_len]; omega) hm (by rw [cutAt_len]; exact cutAt_hole hi2 hH))
  have HDn := Lib.hid (fun W ts2 (hW : Hm W g h b c m p ts2) (hp : ts2.Perm (cutAt ts i)) (hi2 : i < ts.length - 1) (hd : DownI (at_ ts2) (cutAt ts i).length i) =>
    down_any hW (i := i) (by rw [hp.length_eq, cutAt_len]; exact hi2) (by rw [hp.length_eq, cutAt_len]; omega) hm (by rw [hp.length_eq]; exact hd))
  have HPerm := Lib.hid (cutAt_perm hi)
  have HHeap := Lib.hid (fun (e : i = ts.length - 1) => cutAt_heap e (by omega) hH)
  have hx : I64 (at_ ts i).id := hI _ (List.mem_of_getElem? (at_eq hi))
  obtain ⟨f0, H0, _⟩ := H
  have c0 := H0.head.1
  obtain ⟨l, hl⟩ : ∃ l, l + 1 = ts.length := ⟨ts.length - 1, by omega⟩
  have hl1 : ts.length - 1 = l := by omega
  have HL := Lib.hid hl1
  have HCells := Lib.hid (fun w1 f (h1 : HpB w1 g h b c (swp ts i (ts.length - 1)) f m p) => (⟨h1.head, h1.cells (i := ts.length - 1) (by rw [swp_len]; omega), h1.1.frozen 0, h1.room, h1.ne⟩ : _ ∧ _ ∧ _ ∧ _ ∧ _))
  have HAt := Lib.hid (show at_ (swp ts i (ts.length - 1)) (ts.length - 1) = at_ ts i by rw [swp_at hi (by omega)]; unfold swf; rw [if_pos rfl])
  have HLen := Lib.hid (show (swp ts i (ts.length - 1)).length = l + 1 by rw [swp_len]; exact hl.symm)
  rw [hl1] at hSw
  rw [← hl] at c0 hi hn
  clear hI hlt H0 hH hl hl1
  go_enter Try.func30, Try.ntmps30
  go_wp2_with (go_at_call 42; refine hSw.mono ?_; rintro e w1 ⟨rfl, h1, hc1⟩; have H1 := Lib.hid h1; have HC1 := Lib.hid hc1; clear h1 hc1)
  obtain ⟨f1, h1, hP1, _⟩ := H1.out
  rw [← HL.out] at h1 hP1
  obtain ⟨⟨e0, e1, _⟩, ⟨_, k1, _⟩, fr, hroom, n1, n2, n3⟩ := HCells.out _ _ h1
  rw [HAt.out, HL.out] at k1
  rw [HLen.out] at e0 hroom
  have hcl : (l : Int) ≤ (c : Int) := by omega
  have lg := h1.lt g (by simp)
  have i0 : (0 : Int) ≤ (l : Int) := by omega
  have i1 : (l : Int) < (l : Int) + 1 := by omega
  have HP1 := Lib.hid hP1
  have HH1 := Lib.hid h1
  have HM1 := Lib.hid h1.2.2
  have HX := Lib.hid hx
  obtain ⟨X, hX⟩ : ∃ X, X = (at_ ts i).id := ⟨_, rfl⟩
  rw [← hX] at k1 HX
  have HXX := Lib.hid hX
  clear h1 hP1 hX hx
  have HNE := Lib.hid (show g ≠ b ∧ g < w1.heap.size from ⟨Ne.symm n2, lg⟩)
  clear n1 n2 n3 lg
  go_region_law ((refine step_drop _ (by rfl) _ _ (by rfl) (by rfl) (HM1.out.same (by rfl)) (by rfl) HX.out ?_; intro w2 hg2 hm2; have hb : Chg [b] w1 w2 := ((Chg.refl [b] w1).drew).grown hg2 (fun k hk => by cases hk; exact .inl (by simp)); have q0 := (hb.cell (p := ⟨g, 0, none⟩) HNE.out.2 (by simpa using HNE.out.1)).trans e0; have qf := (hb.frozen (p := ⟨g, 0, none⟩) HNE.out.2 (by simpa using HNE.out.1)).trans fr; have HBC := Lib.hid hb; have HM2 := Lib.hid hm2; clear hb hm2 hg2))
  all_goals
    have hcut := HCut.out _ _ _ HH1.out HP1.out HBC.out (by rw [← HXX.out]; exact HM2.out)
    rw [HL.out] at hcut
    have HC := Lib.hid hcut.1
    have HCC := Lib.hid (HC1.out.trans hcut.2 (fun k hk => .inl hk))
    clear hcut
    by_cases hil : i < l
    · have hil' : (i : Int) < (l : Int) := by omega
      have HIL := Lib.hid hil
      have hup := HUp.out _ HC.out (by rw [HL.out]; exact hil)
      clear hil
      go_wp2_with (first
        | (go_at_call 32; refine hup.mono ?_; rintro e w3 ⟨rfl, ts2, hp2, hd2, hm3, hc3⟩; have hdn := HDn.out _ _ hm3 hp2 (by rw [HL.out]; exact HIL.out) hd2; have HP2 := Lib.hid hp2; have HC3 := Lib.hid hc3; clear hp2 hd2 hm3 hc3)
        | (go_at_call 43; refine hdn.mono ?_; rintro e w4 ⟨rfl, ts3, hp3, hh3, hm4, hc4⟩; have HP3 := Lib.hid hp3; have HH3 := Lib.hid hh3; have HM4 := Lib.hid hm4; have HC4 := Lib.hid hc4; clear hp3 hh3 hm4 hc4))
      go_end0
      refine ⟨rfl, ts3, ?_, ?_, HM4.out, (HCC.out.trans HC3.out (fun k hk => .inl hk)).trans HC4.out (fun k hk => .inl hk)⟩
      · exact ((HP3.out.trans HP2.out).append_right _).trans HPerm.out
      · rw [HP3.out.length_eq]; exact HH3.out
    · have hil' : ¬ ((i : Int) < (l : Int)) := by omega
      have hle : i = l := by omega
      have HE := Lib.hid hle
      clear hil hle
      go_wp2
      go_end0
      refine ⟨rfl, _, HPerm.out, ?_, HC.out, HCC.out⟩
      rw [cutAt_len]
      exact HHeap.out (by rw [HL.out]; exact HE.out)
end Go.Proofs
