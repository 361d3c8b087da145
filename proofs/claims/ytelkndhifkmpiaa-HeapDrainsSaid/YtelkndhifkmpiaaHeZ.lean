import Derived.Test.YtelkndhifkmpiaaHeY
namespace Go.Proofs
open Go.RowKit
set_option linter.unusedVariables false

section
variable {w : World} {g r p : Nat} {S R : List Nat} {K : List Tm}
set_option maxRecDepth 100000 in
set_option maxHeartbeats 3200000 in
theorem do1 (H : Two w g r S R K p) (hp : p < 100000) (at' : Int) {id : Int} (hi : I64 id) :
    Calls Try.prog 10 #[.pointer (some ⟨g, 0, none⟩), .pointer (some ⟨r, 0, none⟩), .agg #[.int .i64 1, .int .u64 at', .int .i64 id]] w fun e w' => e = .returned (.bool true) ∧ Does g r S R (putP (K.map pr) at' id) p w w' := by
  have hfew := H.few (by omega)
  have hnS : w.heap.size ∉ S := fun hm => by have := H.heap.lt _ hm; omega
  have hrS := H.ref.lt r H.ref.mem
  have hnr : w.heap.size ∉ [r] := fun hm => by simp at hm; omega
  have HNS := Lib.hid hnS
  have HNR := Lib.hid hnr
  have HP := Lib.hid (fun W (hW : Chg [] w W) => put_any (H.heap.quiet hW) hp at' hi)
  rw [← hasId_map] at HP
  have HR := Lib.hid (fun W (h : RefAt W r R (K.map pr)) => rput_any h hfew at' id)
  obtain ⟨q, hq⟩ : ∃ q : Int, q = if hasP id (K.map pr) then 14 else 0 := ⟨_, rfl⟩
  rw [← hq] at HP HR
  have HK := Lib.hid (show (if hasP id (K.map pr) = true then K else insK K ⟨at', id, p⟩).map pr = putP (K.map pr) at' id by
    unfold putP
    split
    · rfl
    · exact insK_map K _)
  have hqq : (q == q) = true := by simp
  clear hfew hnS hrS hnr hq
  go_enter Try.func10, Try.ntmps10
  go_wp2
  go_region_held3 (fun w' => w'.cell? ⟨w.heap.size, 1, none⟩ = some (.int .u64 at') ∧ w'.cell? ⟨w.heap.size, 2, none⟩ = some (.int .i64 id))
    (first | go_keep)
    (first
      | (go_at_call 17; refine (HP.out _ (((Chg.refl _ _).alloc _).drew)).mono ?_; rintro e w1 ⟨rfl, p', hp', hT⟩; have HT := Lib.hid hT; have HPP := Lib.hid hp'; obtain ⟨S1, h11, h12, hc1⟩ := hT; have b5 := (Blk.new w 33 #[.int .i64 1, .int .u64 at', .int .i64 id]).drew.chg hc1 HNS.out; have k1 := b5.cell 1; have k2 := b5.cell 2; have HB := Lib.hid b5; clear b5 h11 h12 hc1 hp')
      | (go_at_call 23; refine (HR.out _ (H.mid (((Chg.refl _ _).alloc _).drew) HT.out)).mono ?_; rintro e w2 ⟨rfl, hT2⟩; have HT2 := Lib.hid hT2; obtain ⟨R1, h21, h22, hc2⟩ := hT2; have b6 := HB.out.chg hc2 HNR.out; have l1 := b6.cell 1; have l2 := b6.cell 2; clear h21 h22 hc2 b6))
  all_goals
    go_wp2
    go_ret
    exact ⟨rfl, H.step (((Chg.refl _ _).alloc _).drew) HT.out HPP.out (Chg.refl _ _) HT2.out HK.out (Chg.refl _ _)⟩
set_option maxRecDepth 100000 in
set_option maxHeartbeats 3200000 in
theorem do3 (H : Two w g r S R K p) (hp : p < 100000) (at' : Int) {id : Int} (hi : I64 id) :
    Calls Try.prog 10 #[.pointer (some ⟨g, 0, none⟩), .pointer (some ⟨r, 0, none⟩), .agg #[.int .i64 3, .int .u64 at', .int .i64 id]] w fun e w' => e = .returned (.bool true) ∧ Does g r S R (remP (K.map pr) id) p w w' := by
  have hfew := H.few (by omega)
  have hnS : w.heap.size ∉ S := fun hm => by have := H.heap.lt _ hm; omega
  have hrS := H.ref.lt r H.ref.mem
  have hnr : w.heap.size ∉ [r] := fun hm => by simp at hm; omega
  have HNS := Lib.hid hnS
  have HNR := Lib.hid hnr
  have HP := Lib.hid (fun W (hW : Chg [] w W) => remove_any (H.heap.quiet hW) (by omega) hi)
  rw [← hasId_map] at HP
  have HR := Lib.hid (fun W (h : RefAt W r R (K.map pr)) => rremove_any h hfew id)
  have HK := Lib.hid (show (eraseId K id).map pr = remP (K.map pr) id by
    unfold remP
    by_cases hb : hasP id (K.map pr) = true
    · rw [if_pos hb]
      exact eraseId_map K id (by rw [← hasId_map]; exact hb)
    · rw [if_neg hb]
      have : eraseId K id = K := by
        unfold eraseId
        refine List.eraseP_of_forall_not fun x hx => ?_
        intro e
        exact hb (by rw [hasId_map]; exact hasId_iff.2 ⟨x, hx, by simpa using e⟩)
      rw [this])
  obtain ⟨q, hq⟩ : ∃ q, q = hasP id (K.map pr) := ⟨_, rfl⟩
  rw [← hq] at HP HR
  have hqq : (q == q) = true := by simp
  clear hfew hnS hrS hnr hq
  go_enter Try.func10, Try.ntmps10
  go_wp2
  go_region_held3 (fun w' => w'.cell? ⟨w.heap.size, 2, none⟩ = some (.int .i64 id))
    (first | go_keep)
    (first
      | (go_at_call 22; refine (HP.out _ (((Chg.refl _ _).alloc _).drew)).mono ?_; rintro e w1 ⟨rfl, hT⟩; have HT := Lib.hid hT; obtain ⟨S1, h11, h12, hc1⟩ := hT; have b5 := (Blk.new w 33 #[.int .i64 3, .int .u64 at', .int .i64 id]).drew.chg hc1 HNS.out; have k2 := b5.cell 2; have HB := Lib.hid b5; clear b5 h11 h12 hc1)
      | (go_at_call 25; refine (HR.out _ (H.mid (((Chg.refl _ _).alloc _).drew) HT.out)).mono ?_; rintro e w2 ⟨rfl, hT2⟩; have HT2 := Lib.hid hT2; obtain ⟨R1, h21, h22, hc2⟩ := hT2; have b6 := HB.out.chg hc2 HNR.out; have l2 := b6.cell 2; clear h21 h22 hc2 b6))
  all_goals
    go_wp2
    go_ret
    exact ⟨rfl, H.step (((Chg.refl _ _).alloc _).drew) HT.out (by omega) (Chg.refl _ _) HT2.out HK.out (Chg.refl _ _)⟩
theorem popV_form (now : Int) (l : List (Int × Int)) : ∃ (a : Int) (q : Bool), popVP now l = .tuple #[.int .i64 a, .bool q] := by
  cases l with
  | nil => exact ⟨_, _, rfl⟩
  | cons x l =>
    by_cases h : x.1 ≤ now
    · simp only [popVP, if_pos h]
      exact ⟨_, _, rfl⟩
    · simp only [popVP, if_neg h]
      exact ⟨_, _, rfl⟩
set_option maxRecDepth 100000 in
set_option maxHeartbeats 3200000 in
theorem do2 (H : Two w g r S R K p) (hp : p < 100000) (at' : Int) (id : Int) :
    Calls Try.prog 10 #[.pointer (some ⟨g, 0, none⟩), .pointer (some ⟨r, 0, none⟩), .agg #[.int .i64 2, .int .u64 at', .int .i64 id]] w fun e w' => e = .returned (.bool true) ∧ Does g r S R (popP at' (K.map pr)) p w w' := by
  have hfew := H.few (by omega)
  have hnS : w.heap.size ∉ S := fun hm => by have := H.heap.lt _ hm; omega
  have HNS := Lib.hid hnS
  obtain ⟨pk, pv⟩ := pop_map at' K
  have HP := Lib.hid (fun W (hW : Chg [] w W) => pop_any (H.heap.quiet hW) (by omega) at')
  rw [pv] at HP
  have HR := Lib.hid (fun W (h : RefAt W r R (K.map pr)) => rpop_any h hfew at')
  have HK := Lib.hid pk
  obtain ⟨a, q, haq⟩ := popV_form at' (K.map pr)
  rw [haq] at HP HR
  have hqq : (q == q) = true := by simp
  have haa : (a == a) = true := by simp
  clear hfew hnS haq pv pk
  go_enter Try.func10, Try.ntmps10
  go_wp2_with (first
    | (go_at_call 14; refine (HP.out _ ((Chg.refl _ _).alloc _)).mono ?_; rintro e w1 ⟨rfl, hT⟩; have HT := Lib.hid hT; obtain ⟨S1, h11, h12, hc1⟩ := hT; have b5 := (Blk.new w 33 #[.int .i64 2, .int .u64 at', .int .i64 id]).chg hc1 HNS.out; have k1 := b5.cell 1; clear b5 h11 h12 hc1)
    | (go_at_call 24; refine (HR.out _ (H.mid ((Chg.refl _ _).alloc _) HT.out)).mono ?_; rintro e w2 ⟨rfl, hT2⟩; have HT2 := Lib.hid hT2; clear hT2))
  all_goals
    go_ret
    exact ⟨rfl, H.step ((Chg.refl _ _).alloc _) HT.out (by omega) (Chg.refl _ _) HT2.out HK.out (Chg.refl _ _)⟩
theorem doN (H : Two w g r S R K p) (k at' id : Int) (h1 : k ≠ 1) (h2 : k ≠ 2) (h3 : k ≠ 3) :
    Calls Try.prog 10 #[.pointer (some ⟨g, 0, none⟩), .pointer (some ⟨r, 0, none⟩), .agg #[.int .i64 k, .int .u64 at', .int .i64 id]] w fun e w' => e = .returned (.bool true) ∧ Does g r S R (K.map pr) p w w' := by
  have HD := Lib.hid (fun w' (hc : Chg [] w w') => H.does hc)
  have e1 : (k == 1) = false := by simpa using h1
  have e2 : (k == 2) = false := by simpa using h2
  have e3 : (k == 3) = false := by simpa using h3
  clear H h1 h2 h3
  go_enter Try.func10, Try.ntmps10
  go_wp2
  go_ret
  exact ⟨rfl, HD.out _ ((Chg.refl _ _).alloc _)⟩
/-- One act, on both: true is told, and both come to the same timers. -/
theorem do_any (H : Two w g r S R K p) (hp : p < 100000) (k at' : Int) {id : Int} (hi : I64 id) :
    Calls Try.prog 10 #[.pointer (some ⟨g, 0, none⟩), .pointer (some ⟨r, 0, none⟩), .agg #[.int .i64 k, .int .u64 at', .int .i64 id]] w fun e w' => e = .returned (.bool true) ∧ Does g r S R (actP (K.map pr) k at' id) p w w' := by
  unfold actP
  by_cases h1 : k = 1
  · subst h1
    exact do1 H hp at' hi
  · by_cases h2 : k = 2
    · subst h2
      exact do2 H hp at' id
    · by_cases h3 : k = 3
      · subst h3
        exact do3 H hp at' hi
      · rw [if_neg h1, if_neg h2, if_neg h3]
        exact doN H k at' id h1 h2 h3
end
end Go.Proofs
