import Derived.Test.YtgdjagbkpdndgaaGaR
import Derived.Test.YtgdjagbkpdndgaaGaP
namespace Go.Proofs
open Go.RowKit
set_option linter.unusedVariables false

theorem NoF.snoc {f : Int → Bool} {R : List Int} {i : Nat} {y : Int} (h : NoF f R i) (hy : R[i]? = some y) (hf : f y = false) : NoF f R (i + 1) := fun j hj z hz => by
  by_cases e : j = i
  · subst e; rw [hy] at hz; rw [← Option.some.inj hz]; exact hf
  · exact h j (by omega) z hz
theorem fAt_is {f : Int → Bool} {L : List Int} {k : Nat} {x : Int} (h : NoF f L k) (hx : L[k]? = some x) (hf : f x = true) : fAt f L = k := by
  by_cases hl : fAt f L < L.length
  · obtain ⟨⟨y, h1, h2⟩, h3⟩ := fAt_some hl
    exact nof_one h3 h h1 hx h2 hf
  · have := fAt_none hl k (List.getElem?_eq_some_iff.1 hx).1 x hx
    rw [hf] at this; cases this
theorem fAt_all {f : Int → Bool} {L : List Int} (h : NoF f L L.length) : ¬ fAt f L < L.length := fun hl => by
  obtain ⟨⟨y, h1, h2⟩, h3⟩ := fAt_some hl
  have := h _ hl y h1
  rw [h2] at this; cases this
/-- What Take of the document tells: none, or one. -/
def oneL (f : Int → Bool) (L : List Int) : List Int := if tkB f L then [tkV f L] else []
section
variable {w w' : World} {r : Nat} {S : List Nat} {L : List Int}
set_option maxHeartbeats 3200000 in
set_option maxRecDepth 100000 in
theorem rtake_any {V : Value} {aff : List Int} (H : RefAt w r S L) (hL : L.length ≤ 8192) (hV : Bs w V aff) (p : Int) :
    Calls Try.prog 26 #[.pointer (some ⟨r, 0, none⟩), .int .i64 p, V] w fun e w' => ∃ v, e = .returned v ∧ Rd w' v (oneL (mayP aff p) L) ∧ (∀ k ∈ foot v, w.heap.size ≤ k) ∧ RTurns r S (tkL (mayP aff p) L) w w' := by
  obtain ⟨B, ac, rfl, _⟩ := id hV
  have hmay := fun x => rmay_any hV x p
  obtain ⟨f, hf⟩ : ∃ f, f = mayP aff p := ⟨_, rfl⟩
  simp only [← hf] at hmay ⊢
  clear hf
  obtain ⟨an, han⟩ : ∃ an, an = aff.length := ⟨_, rfl⟩
  rw [← han] at hmay ⊢
  clear hV han
  obtain ⟨V0, h1, h2, hS⟩ := id H
  obtain ⟨A, c, rfl, _, _, _, o⟩ := h2.open_
  have k0 := h1.cell 0
  have HB := Lib.hid (fun W (hc : Chg [] w W) => And.intro ((h1.chg hc (by simp)).cell 0) ((h1.chg hc (by simp)).frozen 0))
  obtain ⟨m, hm⟩ : ∃ m, m = L.length := ⟨_, rfl⟩
  simp only [List.getElem?_toArray, List.getElem?_cons_zero] at k0 
  have hct := fun (i : Nat) (hi : i < L.length) => cut_any h2 hL i hi
  rw [← hm] at k0 HB hct hL
  have HH := Lib.hid H
  have HO := Lib.hid o
  have HM := Lib.hid hm
  clear h1 h2 hS H o hm
  go_enter Try.func26, Try.ntmps26
  go_wp2
  go_loop [7] (fun i => ∃ k : Nat, k ≤ m ∧ i = .int .i64 k ∧ Hid (NoF f L k)) (fun i => m - (intOf i).toNat)
  case atStart => exact ⟨0, Nat.zero_le _, rfl, Lib.hid fun j hj => by omega⟩
  case round =>
    obtain ⟨k, hk, rfl, HE⟩ := hrel
    by_cases hlt : k < m
    · obtain ⟨x, hx⟩ : ∃ x, L[k]? = some x := ⟨_, List.getElem?_eq_getElem (by rw [← HM.out]; exact hlt)⟩
      obtain ⟨b, po, rfl, _, q⟩ := HO.out k x hx
      have hmx := hmay x
      have hcx := hct k hlt
      have i0 : (0 : Int) ≤ (k : Int) := by omega
      have i1 : (k : Int) < (m : Int) := by omega
      have HX := Lib.hid hx
      clear hx hmay hct
      cases hfx : f x with
      | true =>
        rw [hfx] at hmx
        have ha := fAt_is HE.out HX.out hfx
        have HT := Lib.hid (tk_some (f := f) (L := L) (x := x) (by rw [ha]; exact HX.out))
        have HA := Lib.hid ha
        clear ha hfx
        go_wp2_with (first
          | (go_at_call 13; refine hmx.mono ?_; rintro e w' ⟨rfl, rfl⟩)
          | (go_at_call 38; refine hcx.mono ?_; rintro e w2 ⟨v2, rfl, hfr⟩; have q1 := (HB.out _ hfr.2.2).1; have q2 := (HB.out _ hfr.2.2).2; simp only [List.getElem?_toArray, List.getElem?_cons_zero] at q1; obtain ⟨A2, c2, rfl, _⟩ := hfr.1.val; have HF := Lib.hid hfr.2.2.size; have HF2 := Lib.hid (HH.out.stored hfr); clear hfr))
        go_ret
        refine ⟨.slice (some ⟨w2.heap.size, 0, none⟩) 1 1, rfl, ?_, ?_, ?_⟩
        · unfold oneL
          rw [HT.out.1, HT.out.2, if_pos rfl]
          have h9 := Rd.one (w2.setCell ⟨r, 0, none⟩ (.slice A2 (L.eraseIdx k).length c2)) x
          rw [show (w2.setCell ⟨r, 0, none⟩ (.slice A2 (L.eraseIdx k).length c2)).heap.size = w2.heap.size by simp [World.setCell]] at h9
          exact h9
        · intro k9 hk9
          simp [foot_some] at hk9
          have := HF.out
          subst hk9
          simpa [World.setCell] using this
        · have := HF2.out.later ((Chg.refl _ _).alloc (.cells #[.int .i64 x] 3))
          unfold tkL
          rw [HA.out]
          exact this
      | false =>
        rw [hfx] at hmx
        have HN := Lib.hid (HE.out.snoc HX.out hfx)
        clear hfx
        go_wp2_with (go_at_call 13; refine hmx.mono ?_; rintro e w' ⟨rfl, rfl⟩)
        go_round
        case rel => exact ⟨k + 1, by omega, by go_num, HN⟩
        case measure => simp [intOf]; omega
    · obtain rfl : k = m := by omega
      have HT := Lib.hid (tk_none (f := f) (L := L) (fAt_all (by rw [← HM.out]; exact HE.out)))
      clear hmay hct
      go_wp2
      go_ret
      refine ⟨_, rfl, ?_, fun k hk => (by cases hk), ?_⟩
      · unfold oneL
        rw [HT.out.2.1]
        exact Rd.nil _
      · rw [HT.out.2.2]
        exact RTurns.stay HH.out (Chg.refl _ _)
theorem findI_at {x : Int} {L : List Int} (h : findAt x L < L.length) : findI x L = (findAt x L : Nat) := by unfold findI; rw [if_pos h]
theorem findI_no {x : Int} {L : List Int} (h : ¬ findAt x L < L.length) : findI x L = -1 := by unfold findI; rw [if_neg h]
set_option maxHeartbeats 1600000 in
theorem rremove_any (H : RefAt w r S L) (hL : L.length ≤ 8192) (g : Int) :
    Calls Try.prog 27 #[.pointer (some ⟨r, 0, none⟩), .int .i64 g] w fun e w' => e = .returned (.bool (decide (findAt g L < L.length))) ∧ RTurns r S (L.eraseIdx (findAt g L)) w w' := by
  obtain ⟨V0, h1, h2, hS⟩ := id H
  have hfi := rfind_any h2 hL g
  obtain ⟨A, c, rfl, _⟩ := h2.open_
  have k0 := h1.cell 0
  have HB := Lib.hid (fun W (hc : Chg [] w W) => And.intro ((h1.chg hc (by simp)).cell 0) ((h1.chg hc (by simp)).frozen 0))
  simp only [List.getElem?_toArray, List.getElem?_cons_zero] at k0
  have HH := Lib.hid H
  by_cases hlt : findAt g L < L.length
  · rw [findI_at hlt] at hfi
    have hcx := cut_any h2 hL (findAt g L) hlt
    rw [decide_eq_true hlt]
    have hfl := findAt_le g L
    obtain ⟨k, hk⟩ : ∃ k, k = findAt g L := ⟨_, rfl⟩
    rw [← hk] at hfi hcx hlt ⊢
    have i0 : ¬ ((k : Int) < 0) := by omega
    clear h1 h2 hS H hk hlt hL hfl
    go_enter Try.func27, Try.ntmps27
    go_wp2_with (first
      | (go_at_call 28; refine hfi.mono ?_; rintro e w' ⟨rfl, rfl⟩)
      | (go_at_call 38; refine hcx.mono ?_; rintro e w2 ⟨v2, rfl, hfr⟩; have q1 := (HB.out _ hfr.2.2).1; have q2 := (HB.out _ hfr.2.2).2; simp only [List.getElem?_toArray, List.getElem?_cons_zero] at q1; obtain ⟨A2, c2, rfl, _⟩ := hfr.1.val; have HF2 := Lib.hid (HH.out.stored hfr); clear hfr))
    go_ret
    exact ⟨rfl, HF2.out⟩
  · rw [findI_no hlt] at hfi
    rw [decide_eq_false hlt]
    have HE := Lib.hid (show L.eraseIdx (findAt g L) = L from List.eraseIdx_of_length_le (by omega))
    clear h1 h2 hS H hlt hL
    go_enter Try.func27, Try.ntmps27
    go_wp2_with (go_at_call 28; refine hfi.mono ?_; rintro e w' ⟨rfl, rfl⟩)
    go_ret
    exact ⟨rfl, by rw [HE.out]; exact RTurns.stay HH.out (Chg.refl _ _)⟩
set_option maxHeartbeats 3200000 in
theorem rahead_any {V : Value} {aff : List Int} (H : RefAt w r S L) (hL : L.length ≤ 8192) (hV : Bs w V aff) (g p : Int) :
    Calls Try.prog 29 #[.pointer (some ⟨r, 0, none⟩), .int .i64 g, .int .i64 p, V] w fun e w' => e = .returned (.tuple #[.int .i64 (ahd (mayP aff p) g L).1, .bool (ahd (mayP aff p) g L).2]) ∧ w = w' := by
  obtain ⟨B, ac, rfl, _⟩ := id hV
  have hmay := fun x => rmay_any hV x p
  obtain ⟨f, hf⟩ : ∃ f, f = mayP aff p := ⟨_, rfl⟩
  simp only [← hf] at hmay ⊢
  clear hf
  obtain ⟨an, han⟩ : ∃ an, an = aff.length := ⟨_, rfl⟩
  rw [← han] at hmay ⊢
  clear hV han
  obtain ⟨V0, h1, h2, hS⟩ := id H
  have hfi := rfind_any h2 hL g
  obtain ⟨A, c, rfl, _, _, _, o⟩ := h2.open_
  have k0 := h1.cell 0
  simp only [List.getElem?_toArray, List.getElem?_cons_zero] at k0
  have hmg := hmay g
  by_cases hlt : findAt g L < L.length
  · rw [findI_at hlt] at hfi
    cases hfg : f g with
    | false =>
      rw [ahd_not hfg]
      rw [hfg] at hmg
      obtain ⟨k, hk⟩ : ∃ k, k = findAt g L := ⟨_, rfl⟩
      rw [← hk] at hfi
      have i0 : ¬ ((k : Int) < 0) := by omega
      clear h1 h2 hS H hlt hmay o hk hL
      go_enter Try.func29, Try.ntmps29
      go_wp2_with (first
        | (go_at_call 28; refine hfi.mono ?_; rintro e w' ⟨rfl, rfl⟩)
        | (go_at_call 13; refine hmg.mono ?_; rintro e w' ⟨rfl, rfl⟩))
      go_ret2
      exact ⟨rfl, rfl⟩
    | true =>
      have hah : ahd f g L = ((((L.take (findAt g L)).countP f : Nat) : Int), true) := by unfold ahd; rw [if_pos ⟨hfg, hlt⟩]
      rw [hah]
      rw [hfg] at hmg
      obtain ⟨k, hk⟩ : ∃ k, k = findAt g L := ⟨_, rfl⟩
      rw [← hk] at hfi hlt ⊢
      obtain ⟨m, hm⟩ : ∃ m, m = L.length := ⟨_, rfl⟩
      rw [← hm] at k0 hlt hL hfi
      have HO := Lib.hid o
      have HM := Lib.hid hm
      have i9 : ¬ ((k : Int) < 0) := by omega
      clear h1 h2 hS H hah o hk hm
      go_enter Try.func29, Try.ntmps29
      go_wp2_with (first
        | (go_at_call 28; refine hfi.mono ?_; rintro e w' ⟨rfl, rfl⟩)
        | (go_at_call 13; refine hmg.mono ?_; rintro e w' ⟨rfl, rfl⟩))
      go_loop [11, 12] (fun c i => ∃ j cn : Nat, j ≤ k ∧ cn ≤ j ∧ i = .int .i64 j ∧ c = .int .i64 cn ∧ Hid (cn = (L.take j).countP f)) (fun c i => k - (intOf i).toNat)
      case atStart => exact ⟨0, 0, Nat.zero_le _, Nat.zero_le _, rfl, rfl, Lib.hid (by simp)⟩
      case round =>
        obtain ⟨j, cn, hj, hcj, rfl, rfl, HE⟩ := hrel
        by_cases hjk : j < k
        · obtain ⟨x, hx⟩ : ∃ x, L[j]? = some x := ⟨_, List.getElem?_eq_getElem (by rw [← HM.out]; omega)⟩
          obtain ⟨b, po, rfl, _, q⟩ := HO.out j x hx
          have hmx := hmay x
          have hcp : (L.take (j + 1)).countP f = (L.take j).countP f + (if f x = true then 1 else 0) := by
            rw [take_snoc L j x hx, List.countP_append]
            simp [List.countP_cons]
          have i0 : (0 : Int) ≤ (j : Int) := by omega
          have i1 : (j : Int) < (m : Int) := by omega
          clear hx hmay
          cases hfx : f x with
          | true =>
            rw [hfx] at hmx hcp
            have HC := Lib.hid hcp
            clear hfx hcp
            go_wp2_with (go_at_call 13; refine hmx.mono ?_; rintro e w' ⟨rfl, rfl⟩)
            go_round
            case rel => exact ⟨j + 1, cn + 1, by omega, by omega, by go_num, by go_num, Lib.hid (by rw [HC.out, HE.out]; rfl)⟩
            case measure => simp [intOf]; omega
          | false =>
            rw [hfx] at hmx hcp
            have HC := Lib.hid hcp
            clear hfx hcp
            go_wp2_with (go_at_call 13; refine hmx.mono ?_; rintro e w' ⟨rfl, rfl⟩)
            go_round
            case rel => exact ⟨j + 1, cn, by omega, by omega, by go_num, rfl, Lib.hid (by rw [HC.out, HE.out]; rfl)⟩
            case measure => simp [intOf]; omega
        · obtain rfl : j = k := by omega
          clear hmay
          go_wp2
          go_ret2
          exact ⟨by rw [← HE.out]; rfl, rfl⟩
  · rw [findI_no hlt] at hfi
    have hah : ahd f g L = (0, false) := by unfold ahd; rw [if_neg (fun h => hlt h.2)]
    rw [hah]
    clear h1 h2 hS H hlt hmay o hah hmg hL
    go_enter Try.func29, Try.ntmps29
    go_wp2_with (go_at_call 28; refine hfi.mono ?_; rintro e w' ⟨rfl, rfl⟩)
    go_ret2
    exact ⟨rfl, rfl⟩
theorem rcopy_any (H : RefAt w r S L) (hL : L.length ≤ 8192) :
    Calls Try.prog 17 #[.pointer (some ⟨r, 0, none⟩)] w fun e w' => ∃ r' S', e = .returned (.pointer (some ⟨r', 0, none⟩)) ∧ RefAt w' r' S' L ∧ (∀ k ∈ S', w.heap.size ≤ k) ∧ Chg [] w w' := by
  obtain ⟨V0, h1, h2, hS⟩ := id H
  obtain ⟨A, c, rfl, _⟩ := h2.open_
  have k0 := h1.cell 0
  simp only [List.getElem?_toArray, List.getElem?_cons_zero] at k0
  obtain ⟨m, hm⟩ : ∃ m, m = L.length := ⟨_, rfl⟩
  rw [← hm] at h2 k0 hL
  have H2 := Lib.hid h2
  have HM := Lib.hid hm
  clear h1 h2 hS H hm
  go_enter Try.func17, Try.ntmps17
  go_wp2_with (at_builtin; refine wpList_append_rs (xs := []) (n := m) _ rfl _ _ rfl rfl rfl (Row.nil _ _ _) H2.out (by rw [← HM.out]; simp; omega) (by rw [← HM.out]; simp) ?_; intro A1 c1 w1 hr1 hg1 hf1; have hfr := Fresh.append (w := w) (xs := []) (l := L) (Fresh.nil (Chg.refl _ _)) hr1 hg1 hf1; simp only [List.nil_append] at hfr; have HF1 := Lib.hid hfr; clear hr1 hg1 hf1 hfr)
  go_ret
  refine ⟨_, _, rfl, ⟨_, Blk.new _ 30 _, HF1.out.rd.quiet ((Chg.refl _ _).alloc _), rfl⟩, fun k hk => ?_, HF1.out.2.2.alloc _⟩
  rcases List.mem_cons.1 hk with rfl | hk
  · exact HF1.out.2.2.size
  · exact HF1.out.2.1 k hk
end
end Go.Proofs
