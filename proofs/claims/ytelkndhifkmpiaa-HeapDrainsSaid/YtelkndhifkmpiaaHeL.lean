import Derived.Test.YtelkndhifkmpiaaHeK
namespace Go.Proofs
open Go.RowKit
set_option linter.unusedVariables false

def popV (now : Int) : List Tm → Value
  | [] => .tuple #[.int .i64 0, .bool false]
  | x :: _ => if x.at_ ≤ now then .tuple #[.int .i64 x.id, .bool true] else .tuple #[.int .i64 0, .bool false]
def popK (now : Int) : List Tm → List Tm
  | [] => []
  | x :: K => if x.at_ ≤ now then K else x :: K
set_option maxHeartbeats 1600000 in
set_option maxRecDepth 100000 in
theorem pop_any {w : World} {g p : Nat} {S : List Nat} {K : List Tm} (H : HeapAt w g S K p) (hp : p ≤ 100000) (now : Int) :
    Calls Try.prog 14 #[.pointer (some ⟨g, 0, none⟩), .int .u64 now] w fun e w' => e = .returned (popV now K) ∧ Turns g S (popK now K) p w w' := by
  have HX := next_any H
  have HT := Lib.hid (fun w' (hc : Chg [] w w') => Turns.refl H hc)
  cases K with
  | nil =>
    unfold nextV at HX
    unfold popV popK
    clear H
    go_enter Try.func14, Try.ntmps14
    go_wp2_with (go_at_call 21; refine HX.mono ?_; rintro e w' ⟨rfl, rfl⟩)
    go_ret2
    exact ⟨rfl, HT.out _ (Chg.refl _ _)⟩
  | cons x K =>
    unfold nextV at HX
    by_cases hle : x.at_ ≤ now
    · rcases H with ⟨_, hK, _⟩ | ⟨h, b, c, m, ts, hm, h1, h2, rfl⟩
      · cases hK
      · have hl : 0 < ts.length := by rw [h1.len]; simp
        have hfew := h1.few
        have hlen := h1.len
        have hT : Calls Try.prog 30 #[.pointer (some ⟨g, 0, none⟩), .int .i64 0] w fun e w' => e = .returned (.tuple #[]) ∧ TkEnds w g h b c m p ts 0 w' := take_any hm hl (by omega) (by omega) h1.heap
        have HEnd := Lib.hid (fun ts' (hp : (ts' ++ [at_ ts 0]).Perm ts) (hh : HeapO (at_ ts') ts'.length) => by
          have := h1.take hl hp hh
          rw [h1.root, List.erase_cons_head] at this
          exact this)
        obtain ⟨f, HB, hP, hI⟩ := hm
        have c0 := HB.head.1
        have k1 := (HB.cells hl).2.1
        rw [h1.root, Nat.zero_mul, Nat.zero_add] at k1
        have e1 : ts.length = K.length + 1 := h1.len
        rw [e1] at c0
        obtain ⟨l, hll⟩ : ∃ l, l = K.length := ⟨_, rfl⟩
        rw [← hll] at c0
        have i1 : (0 : Int) < (l : Int) + 1 := by omega
        simp only [popV, popK, if_pos hle]
        have hgt : ¬ (now < x.at_) := by omega
        have HM := Lib.hid h2
        obtain ⟨xa, xi, xp⟩ := x
        simp only at HX k1 hgt ⊢
        clear HB hP hI h1 h2 hl hfew hlen e1 hll hle
        go_enter Try.func14, Try.ntmps14
        go_wp2_with (first
          | (go_at_call 21; refine HX.mono ?_; rintro e w' ⟨rfl, rfl⟩)
          | (go_at_call 30; refine hT.mono ?_; rintro e w1 ⟨rfl, ts', hp', hh', hm', hc'⟩; have HE := Lib.hid (HEnd.out ts' hp' hh'); have HM1 := Lib.hid hm'; have HC := Lib.hid hc'; clear hp' hh' hm' hc' hT))
        go_ret2
        exact ⟨rfl, Turns.of (.inr ⟨h, b, c, m, ts', HM1.out, HE.out, HM.out, rfl⟩) HC.out⟩
    · simp only [popV, popK, if_neg hle]
      have hgt : now < x.at_ := by omega
      obtain ⟨xa, xi, xp⟩ := x
      simp only at HX hgt ⊢
      clear H hle
      go_enter Try.func14, Try.ntmps14
      go_wp2_with (go_at_call 21; refine HX.mono ?_; rintro e w' ⟨rfl, rfl⟩)
      go_ret2
      exact ⟨rfl, HT.out _ (Chg.refl _ _)⟩
set_option maxHeartbeats 1600000 in
set_option maxRecDepth 100000 in
theorem remove_any {w : World} {g p : Nat} {S : List Nat} {K : List Tm} (H : HeapAt w g S K p) (hp : p ≤ 100000) {id : Int} (hi : I64 id) :
    Calls Try.prog 22 #[.pointer (some ⟨g, 0, none⟩), .int .i64 id] w fun e w' => e = .returned (.bool (hasId K id)) ∧ Turns g S (eraseId K id) p w w' := by
  have HH := has_any H hi
  have HT := Lib.hid (fun w' (hc : Chg [] w w') => Turns.refl H hc)
  by_cases hb : hasId K id = true
  · rw [hb] at HH ⊢
    obtain ⟨x, hx, hxi⟩ := hasId_iff.1 hb
    rcases H with ⟨_, rfl, _⟩ | ⟨h, b, c, m, ts, hm, h1, h2, rfl⟩
    · cases hx
    · obtain ⟨f, HB, hP, hI⟩ := _root_.id hm
      obtain ⟨i, hil, hix⟩ := List.mem_iff_getElem.1 (h1.perm.mem_iff.2 hx)
      have hix' : ts[i]? = some x := by rw [List.getElem?_eq_getElem hil, hix]
      have hax : at_ ts i = x := at_of hix'
      have hfew := h1.few
      have hlen := h1.len
      have hfi := hP.1 i x hix'
      rw [hxi] at hfi
      have hT := take_any hm hil (by omega) (by omega) h1.heap
      have HEnd := Lib.hid (fun ts' (hp : (ts' ++ [at_ ts i]).Perm ts) (hh : HeapO (at_ ts') ts'.length) => by
        have := h1.take hil hp hh
        rw [hax, erase_id hx (fun y hy e => by
          obtain ⟨j, hjl, hjy⟩ := List.mem_iff_getElem.1 (h1.perm.mem_iff.2 hy)
          have hj' : ts[j]? = some y := by rw [List.getElem?_eq_getElem hjl, hjy]
          obtain rfl := hP.inj hj' hix' e
          rw [hix'] at hj'
          exact (Option.some.inj hj').symm), hxi] at this
        exact this)
      have c1 := HB.head.2.1
      have hlk := HB.2.2.look hi hfi
      have HM := Lib.hid h2
      clear HB hP hI h1 h2 hfew hlen hix hix' hax hfi hb hx hm
      go_enter Try.func22, Try.ntmps22
      go_wp2_with (first
        | (go_at_call 15; refine HH.mono ?_; rintro e w' ⟨rfl, rfl⟩)
        | (go_at_call 30; refine hT.mono ?_; rintro e w1 ⟨rfl, ts', hp', hh', hm', hc'⟩; have HE := Lib.hid (HEnd.out ts' hp' hh'); have HM1 := Lib.hid hm'; have HC := Lib.hid hc'; clear hp' hh' hm' hc' hT))
      go_ret
      exact ⟨rfl, Turns.of (.inr ⟨h, b, c, m, ts', HM1.out, HE.out, HM.out, rfl⟩) HC.out⟩
  · have hf : hasId K id = false := by simpa using hb
    have he : eraseId K id = K := by
      unfold eraseId
      refine List.eraseP_of_forall_not fun x hx => ?_
      intro e
      exact hb (hasId_iff.2 ⟨x, hx, by simpa using e⟩)
    rw [hf] at HH ⊢
    rw [he]
    clear H hb hf he
    go_enter Try.func22, Try.ntmps22
    go_wp2_with (go_at_call 15; refine HH.mono ?_; rintro e w' ⟨rfl, rfl⟩)
    go_ret
    exact ⟨rfl, HT.out _ (Chg.refl _ _)⟩
end Go.Proofs
