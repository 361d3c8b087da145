import Derived.Test.YtgdjagbkpdndgaaGaG
import Derived.BigRegion
namespace Go.Proofs
open Go.RowKit
set_option linter.unusedVariables false

section
variable {w : World} {q : Nat} {N : List (Nat × Int)}
/-- What is left behind a node's going. -/
def Leaves (w : World) (q : Nat) (N : List (Nat × Int)) (k b : Nat) (x : Int) (e : Ending) (w' : World) : Prop :=
  e = .returned (.tuple #[]) ∧ QAt w' q (N.eraseIdx k) ∧ Chg (q :: bl N) w w' ∧ w'.cell? ⟨b, 0, none⟩ = some (.int .i64 x)
set_option maxHeartbeats 1600000 in
theorem leave_00 {k b : Nat} {x : Int} (H : QAt w q N) (hl : N.length ≤ 1000000) (hk : N[k]? = some (b, x)) (hA : k = 0) (hB : k + 1 = N.length) :
    Calls Try.prog 34 #[.pointer (some ⟨q, 0, none⟩), .pointer (some ⟨b, 0, none⟩)] w (Leaves w q N k b x) := by
  have hkl := (List.getElem?_eq_some_iff.1 hk).1
  have hb0 := H.node _ _ _ hk
  have hq0 := H.queue
  unfold nodeV at hb0
  have hqb : b ≠ q := Blk.ty hb0 hq0 (by decide)
  have eA : ab N k = none := by unfold ab; rw [if_pos hA]
  have eB : nb N (k + 1) = none := nb_none (by omega)
  rw [eA, eB] at hb0
  have b0 := hb0.cell 0
  have b1 := hb0.cell 1
  have b2 := hb0.cell 2
  have q0 := hq0.cell 0
  have q1 := hq0.cell 1
  have q2 := hq0.cell 2
  have f0 := hq0.frozen 0
  have f1 := hq0.frozen 1
  have f2 := hq0.frozen 2
  obtain ⟨m, hm⟩ : ∃ m, m = N.length := ⟨_, rfl⟩
  simp only [List.getElem?_toArray, List.getElem?_cons_succ, List.getElem?_cons_zero, ptrV_none, ← hm] at b0 b1 b2 q0 q1 q2
  obtain ⟨F, hF⟩ : ∃ F, nb N 0 = F := ⟨_, rfl⟩
  obtain ⟨G, hG⟩ : ∃ G, nb N (N.length - 1) = G := ⟨_, rfl⟩
  rw [← hm] at hG
  rw [hF] at q0
  rw [hG] at q1
  unfold ptrV at q0 q1
  have HH := Lib.hid H
  have HQ := Lib.hid hq0
  have HB := Lib.hid hb0
  have HK := Lib.hid hk
  have HEA := Lib.hid eA
  have HEB := Lib.hid eB
  have HM := Lib.hid hm
  have HKL := Lib.hid hkl
  have HhA := Lib.hid hA
  have HhB := Lib.hid hB
  rw [← hm] at hl hkl
  clear H hb0 hq0 hk eA eB hm hF hG hA hB
  go_enter Try.func34, Try.ntmps34
  go_wp2
  go_end0
  refine ⟨rfl, HH.out.left HK.out ?_ (fun j z y hj hz => ?_), ?_, ?_⟩
  · have hb1 := (((HQ.out.set_ 0 (.pointer none)).set_ 1 (.pointer none)).set_ 2 (.int .i64 ((m : Int) - 1)))
    have hlen : (((N.length - 1 : Nat) : Nat) : Int) = (m : Int) - 1 := by have := HM.out; have := HKL.out; omega
    rw [hlen, HEA.out]
    rw [if_pos HhA.out, show nb N 1 = nb N (k + 1) by rw [HhA.out], HEB.out]
    rw [if_pos HhB.out]
    simp [ptrV] at hb1 ⊢
    exact hb1
  · have h1 := HH.out.node j z y hz
    unfold nodeV at h1
    have hzq : z ≠ q := Blk.ty h1 HH.out.queue (by decide)
    rw [HEA.out, HEB.out]
    have hb1 := (((h1.far (p := ⟨q, 0, none⟩) hzq (.pointer none)).far (p := ⟨q, 1, none⟩) hzq (.pointer none)).far (p := ⟨q, 2, none⟩) hzq (.int .i64 ((m : Int) - 1)))
    have n1 : j ≠ k + 1 := fun e => by have h9 := (List.getElem?_eq_some_iff.1 hz).1; have := HhB.out; omega
    have n2 : j + 1 ≠ k := by have := HhA.out; omega
    rw [if_neg n1, if_neg n2]
    exact hb1
  · exact ((((Chg.refl (q :: bl N) w).setCell (p := ⟨q, 0, none⟩) (.inl (by simp)) _).setCell (p := ⟨q, 1, none⟩) (.inl (by simp)) _).setCell (p := ⟨q, 2, none⟩) (.inl (by simp)) _)
  · have hb1 := (((HB.out.far (p := ⟨q, 0, none⟩) hqb (.pointer none)).far (p := ⟨q, 1, none⟩) hqb (.pointer none)).far (p := ⟨q, 2, none⟩) hqb (.int .i64 ((m : Int) - 1)))
    exact (hb1.cell 0)
set_option maxHeartbeats 1600000 in
theorem leave_01 {k b : Nat} {x : Int} (H : QAt w q N) (hl : N.length ≤ 1000000) (hk : N[k]? = some (b, x)) (hA : k = 0) (hB : k + 1 < N.length) :
    Calls Try.prog 34 #[.pointer (some ⟨q, 0, none⟩), .pointer (some ⟨b, 0, none⟩)] w (Leaves w q N k b x) := by
  have hkl := (List.getElem?_eq_some_iff.1 hk).1
  have hb0 := H.node _ _ _ hk
  have hq0 := H.queue
  unfold nodeV at hb0
  have hqb : b ≠ q := Blk.ty hb0 hq0 (by decide)
  have eA : ab N k = none := by unfold ab; rw [if_pos hA]
  obtain ⟨⟨c, xc⟩, hc⟩ : ∃ p, N[k + 1]? = some p := ⟨_, List.getElem?_eq_getElem (by omega)⟩
  have eB : nb N (k + 1) = some c := nb_at hc
  have hc0 := H.node _ _ _ hc
  unfold nodeV at hc0
  rw [show ab N (k + 1) = some b by unfold ab; rw [if_neg (by omega), Nat.add_sub_cancel, nb_at hk]] at hc0
  have hqc : c ≠ q := Blk.ty hc0 hq0 (by decide)
  have hbc : c ≠ b := fun e => by have := at_one H.nodup hc hk e; omega
  rw [eA, eB] at hb0
  have b0 := hb0.cell 0
  have b1 := hb0.cell 1
  have b2 := hb0.cell 2
  have q0 := hq0.cell 0
  have q1 := hq0.cell 1
  have q2 := hq0.cell 2
  have f0 := hq0.frozen 0
  have f1 := hq0.frozen 1
  have f2 := hq0.frozen 2
  have c1 := hc0.cell 1
  have gc := hc0.frozen 1
  obtain ⟨m, hm⟩ : ∃ m, m = N.length := ⟨_, rfl⟩
  simp only [List.getElem?_toArray, List.getElem?_cons_succ, List.getElem?_cons_zero, ptrV_some, ptrV_none, ← hm] at b0 b1 b2 q0 q1 q2 c1
  obtain ⟨F, hF⟩ : ∃ F, nb N 0 = F := ⟨_, rfl⟩
  obtain ⟨G, hG⟩ : ∃ G, nb N (N.length - 1) = G := ⟨_, rfl⟩
  rw [← hm] at hG
  rw [hF] at q0
  rw [hG] at q1
  unfold ptrV at q0 q1
  have HH := Lib.hid H
  have HQ := Lib.hid hq0
  have HB := Lib.hid hb0
  have HK := Lib.hid hk
  have HEA := Lib.hid eA
  have HEB := Lib.hid eB
  have HM := Lib.hid hm
  have HKL := Lib.hid hkl
  have HC := Lib.hid hc
  have HC0 := Lib.hid hc0
  have HhA := Lib.hid hA
  have HhB := Lib.hid hB
  rw [← hm] at hl hkl
  clear H hb0 hq0 hk eA eB hm hF hG hA hB hc hc0
  go_enter Try.func34, Try.ntmps34
  go_wp2
  go_region
  go_wp2
  go_end0
  refine ⟨rfl, HH.out.left HK.out ?_ (fun j z y hj hz => ?_), ?_, ?_⟩
  · have hb1 := (((HQ.out.set_ 0 (.pointer (some ⟨c, 0, none⟩))).far (p := ⟨c, 1, none⟩) (Ne.symm hqc) (.pointer none)).set_ 2 (.int .i64 ((m : Int) - 1)))
    have hlen : (((N.length - 1 : Nat) : Nat) : Int) = (m : Int) - 1 := by have := HM.out; have := HKL.out; omega
    rw [hlen, HEA.out]
    rw [if_pos HhA.out, show nb N 1 = nb N (k + 1) by rw [HhA.out], HEB.out]
    rw [if_neg (by have := HhB.out; omega)]
    simp [ptrV] at hb1 ⊢
    exact hb1
  · have h1 := HH.out.node j z y hz
    unfold nodeV at h1
    have hzq : z ≠ q := Blk.ty h1 HH.out.queue (by decide)
    rw [HEA.out, HEB.out]
    by_cases hjc : j = k + 1
    · subst hjc
      have e9 := HC.out
      rw [hz] at e9
      simp only [Option.some.injEq, Prod.mk.injEq] at e9
      obtain ⟨e8, e7⟩ := e9
      rw [e8, e7]
      have hb1 := (((HC0.out.far (p := ⟨q, 0, none⟩) hqc (.pointer (some ⟨c, 0, none⟩))).set_ 1 (.pointer none)).far (p := ⟨q, 2, none⟩) hqc (.int .i64 ((m : Int) - 1)))
      rw [if_pos rfl, if_neg (by omega)]
      simp [ptrV] at hb1 ⊢
      exact hb1
    have hzc : z ≠ c := fun e => hjc (at_one HH.out.nodup hz HC.out e)
    have hb1 := (((h1.far (p := ⟨q, 0, none⟩) hzq (.pointer (some ⟨c, 0, none⟩))).far (p := ⟨c, 1, none⟩) hzc (.pointer none)).far (p := ⟨q, 2, none⟩) hzq (.int .i64 ((m : Int) - 1)))
    have n1 : j ≠ k + 1 := hjc
    have n2 : j + 1 ≠ k := by have := HhA.out; omega
    rw [if_neg n1, if_neg n2]
    exact hb1
  · exact (((((Chg.refl (q :: bl N) w).setCell (p := ⟨q, 0, none⟩) (.inl (by simp)) _).drew).setCell (p := ⟨c, 1, none⟩) (.inl (List.mem_cons_of_mem _ (nb_mem (nb_at HC.out)))) _).setCell (p := ⟨q, 2, none⟩) (.inl (by simp)) _)
  · have hb1 := (((HB.out.far (p := ⟨q, 0, none⟩) hqb (.pointer (some ⟨c, 0, none⟩))).far (p := ⟨c, 1, none⟩) (Ne.symm hbc) (.pointer none)).far (p := ⟨q, 2, none⟩) hqb (.int .i64 ((m : Int) - 1)))
    exact (hb1.cell 0)
set_option maxHeartbeats 1600000 in
theorem leave_10 {k b : Nat} {x : Int} (H : QAt w q N) (hl : N.length ≤ 1000000) (hk : N[k]? = some (b, x)) (hA : 0 < k) (hB : k + 1 = N.length) :
    Calls Try.prog 34 #[.pointer (some ⟨q, 0, none⟩), .pointer (some ⟨b, 0, none⟩)] w (Leaves w q N k b x) := by
  have hkl := (List.getElem?_eq_some_iff.1 hk).1
  have hb0 := H.node _ _ _ hk
  have hq0 := H.queue
  unfold nodeV at hb0
  have hqb : b ≠ q := Blk.ty hb0 hq0 (by decide)
  obtain ⟨⟨a, xa⟩, ha⟩ : ∃ p, N[k - 1]? = some p := ⟨_, List.getElem?_eq_getElem (by omega)⟩
  have eA : ab N k = some a := by unfold ab; rw [if_neg (by omega), nb_at ha]
  have ha0 := H.node _ _ _ ha
  unfold nodeV at ha0
  rw [show k - 1 + 1 = k by omega, nb_at hk] at ha0
  have hqa : a ≠ q := Blk.ty ha0 hq0 (by decide)
  have hba : a ≠ b := fun e => by have := at_one H.nodup ha hk e; omega
  have eB : nb N (k + 1) = none := nb_none (by omega)
  rw [eA, eB] at hb0
  have b0 := hb0.cell 0
  have b1 := hb0.cell 1
  have b2 := hb0.cell 2
  have q0 := hq0.cell 0
  have q1 := hq0.cell 1
  have q2 := hq0.cell 2
  have f0 := hq0.frozen 0
  have f1 := hq0.frozen 1
  have f2 := hq0.frozen 2
  have a2 := ha0.cell 2
  have ga := ha0.frozen 2
  obtain ⟨m, hm⟩ : ∃ m, m = N.length := ⟨_, rfl⟩
  simp only [List.getElem?_toArray, List.getElem?_cons_succ, List.getElem?_cons_zero, ptrV_some, ptrV_none, ← hm] at b0 b1 b2 q0 q1 q2 a2
  obtain ⟨F, hF⟩ : ∃ F, nb N 0 = F := ⟨_, rfl⟩
  obtain ⟨G, hG⟩ : ∃ G, nb N (N.length - 1) = G := ⟨_, rfl⟩
  rw [← hm] at hG
  rw [hF] at q0
  rw [hG] at q1
  unfold ptrV at q0 q1
  have HH := Lib.hid H
  have HQ := Lib.hid hq0
  have HB := Lib.hid hb0
  have HK := Lib.hid hk
  have HEA := Lib.hid eA
  have HEB := Lib.hid eB
  have HM := Lib.hid hm
  have HKL := Lib.hid hkl
  have HA := Lib.hid ha
  have HA0 := Lib.hid ha0
  have HhA := Lib.hid hA
  have HhB := Lib.hid hB
  rw [← hm] at hl hkl
  clear H hb0 hq0 hk eA eB hm hF hG hA hB ha ha0
  go_enter Try.func34, Try.ntmps34
  go_wp2
  go_region
  go_wp2
  go_end0
  refine ⟨rfl, HH.out.left HK.out ?_ (fun j z y hj hz => ?_), ?_, ?_⟩
  · have hb1 := (((HQ.out.far (p := ⟨a, 2, none⟩) (Ne.symm hqa) (.pointer none)).set_ 1 (.pointer (some ⟨a, 0, none⟩))).set_ 2 (.int .i64 ((m : Int) - 1)))
    have hlen : (((N.length - 1 : Nat) : Nat) : Int) = (m : Int) - 1 := by have := HM.out; have := HKL.out; omega
    rw [hlen, HEA.out]
    rw [if_neg (by have := HhA.out; omega)]
    rw [if_pos HhB.out]
    simp [ptrV] at hb1 ⊢
    exact hb1
  · have h1 := HH.out.node j z y hz
    unfold nodeV at h1
    have hzq : z ≠ q := Blk.ty h1 HH.out.queue (by decide)
    rw [HEA.out, HEB.out]
    by_cases hja : j = k - 1
    · subst hja
      have e9 := HA.out
      rw [hz] at e9
      simp only [Option.some.injEq, Prod.mk.injEq] at e9
      obtain ⟨e8, e7⟩ := e9
      rw [e8, e7]
      have hb1 := (((HA0.out.set_ 2 (.pointer none)).far (p := ⟨q, 1, none⟩) hqa (.pointer (some ⟨a, 0, none⟩))).far (p := ⟨q, 2, none⟩) hqa (.int .i64 ((m : Int) - 1)))
      rw [if_neg (by have := HhA.out; omega), if_pos (by have := HhA.out; omega)]
      simp [ptrV] at hb1 ⊢
      exact hb1
    have hza : z ≠ a := fun e => hja (at_one HH.out.nodup hz HA.out e)
    have hb1 := (((h1.far (p := ⟨a, 2, none⟩) hza (.pointer none)).far (p := ⟨q, 1, none⟩) hzq (.pointer (some ⟨a, 0, none⟩))).far (p := ⟨q, 2, none⟩) hzq (.int .i64 ((m : Int) - 1)))
    have n1 : j ≠ k + 1 := fun e => by have h9 := (List.getElem?_eq_some_iff.1 hz).1; have := HhB.out; omega
    have n2 : j + 1 ≠ k := fun e => hja (by omega)
    rw [if_neg n1, if_neg n2]
    exact hb1
  · exact (((((Chg.refl (q :: bl N) w).drew).setCell (p := ⟨a, 2, none⟩) (.inl (List.mem_cons_of_mem _ (nb_mem (nb_at HA.out)))) _).setCell (p := ⟨q, 1, none⟩) (.inl (by simp)) _).setCell (p := ⟨q, 2, none⟩) (.inl (by simp)) _)
  · have hb1 := (((HB.out.far (p := ⟨a, 2, none⟩) (Ne.symm hba) (.pointer none)).far (p := ⟨q, 1, none⟩) hqb (.pointer (some ⟨a, 0, none⟩))).far (p := ⟨q, 2, none⟩) hqb (.int .i64 ((m : Int) - 1)))
    exact (hb1.cell 0)
set_option maxHeartbeats 1600000 in
theorem leave_11 {k b : Nat} {x : Int} (H : QAt w q N) (hl : N.length ≤ 1000000) (hk : N[k]? = some (b, x)) (hA : 0 < k) (hB : k + 1 < N.length) :
    Calls Try.prog 34 #[.pointer (some ⟨q, 0, none⟩), .pointer (some ⟨b, 0, none⟩)] w (Leaves w q N k b x) := by
  have hkl := (List.getElem?_eq_some_iff.1 hk).1
  have hb0 := H.node _ _ _ hk
  have hq0 := H.queue
  unfold nodeV at hb0
  have hqb : b ≠ q := Blk.ty hb0 hq0 (by decide)
  obtain ⟨⟨a, xa⟩, ha⟩ : ∃ p, N[k - 1]? = some p := ⟨_, List.getElem?_eq_getElem (by omega)⟩
  have eA : ab N k = some a := by unfold ab; rw [if_neg (by omega), nb_at ha]
  have ha0 := H.node _ _ _ ha
  unfold nodeV at ha0
  rw [show k - 1 + 1 = k by omega, nb_at hk] at ha0
  have hqa : a ≠ q := Blk.ty ha0 hq0 (by decide)
  have hba : a ≠ b := fun e => by have := at_one H.nodup ha hk e; omega
  obtain ⟨⟨c, xc⟩, hc⟩ : ∃ p, N[k + 1]? = some p := ⟨_, List.getElem?_eq_getElem (by omega)⟩
  have eB : nb N (k + 1) = some c := nb_at hc
  have hc0 := H.node _ _ _ hc
  unfold nodeV at hc0
  rw [show ab N (k + 1) = some b by unfold ab; rw [if_neg (by omega), Nat.add_sub_cancel, nb_at hk]] at hc0
  have hqc : c ≠ q := Blk.ty hc0 hq0 (by decide)
  have hbc : c ≠ b := fun e => by have := at_one H.nodup hc hk e; omega
  have hac : a ≠ c := fun e => by have := at_one H.nodup ha hc e; omega
  rw [eA, eB] at hb0
  have b0 := hb0.cell 0
  have b1 := hb0.cell 1
  have b2 := hb0.cell 2
  have q0 := hq0.cell 0
  have q1 := hq0.cell 1
  have q2 := hq0.cell 2
  have f0 := hq0.frozen 0
  have f1 := hq0.frozen 1
  have f2 := hq0.frozen 2
  have a2 := ha0.cell 2
  have ga := ha0.frozen 2
  have c1 := hc0.cell 1
  have gc := hc0.frozen 1
  obtain ⟨m, hm⟩ : ∃ m, m = N.length := ⟨_, rfl⟩
  simp only [List.getElem?_toArray, List.getElem?_cons_succ, List.getElem?_cons_zero, ptrV_some, ← hm] at b0 b1 b2 q0 q1 q2 a2 c1
  obtain ⟨F, hF⟩ : ∃ F, nb N 0 = F := ⟨_, rfl⟩
  obtain ⟨G, hG⟩ : ∃ G, nb N (N.length - 1) = G := ⟨_, rfl⟩
  rw [← hm] at hG
  rw [hF] at q0
  rw [hG] at q1
  unfold ptrV at q0 q1
  have HH := Lib.hid H
  have HQ := Lib.hid hq0
  have HB := Lib.hid hb0
  have HK := Lib.hid hk
  have HEA := Lib.hid eA
  have HEB := Lib.hid eB
  have HM := Lib.hid hm
  have HKL := Lib.hid hkl
  have HA := Lib.hid ha
  have HA0 := Lib.hid ha0
  have HC := Lib.hid hc
  have HC0 := Lib.hid hc0
  have HhA := Lib.hid hA
  have HhB := Lib.hid hB
  rw [← hm] at hl hkl
  clear H hb0 hq0 hk eA eB hm hF hG hA hB ha ha0 hc hc0
  go_enter Try.func34, Try.ntmps34
  go_wp2
  go_region
  go_wp2
  go_region
  go_wp2
  go_end0
  refine ⟨rfl, HH.out.left HK.out ?_ (fun j z y hj hz => ?_), ?_, ?_⟩
  · have hb1 := (((HQ.out.far (p := ⟨a, 2, none⟩) (Ne.symm hqa) (.pointer (some ⟨c, 0, none⟩))).far (p := ⟨c, 1, none⟩) (Ne.symm hqc) (.pointer (some ⟨a, 0, none⟩))).set_ 2 (.int .i64 ((m : Int) - 1)))
    have hlen : (((N.length - 1 : Nat) : Nat) : Int) = (m : Int) - 1 := by have := HM.out; have := HKL.out; omega
    rw [hlen, HEA.out]
    rw [if_neg (by have := HhA.out; omega)]
    rw [if_neg (by have := HhB.out; omega)]
    simp [ptrV] at hb1 ⊢
    exact hb1
  · have h1 := HH.out.node j z y hz
    unfold nodeV at h1
    have hzq : z ≠ q := Blk.ty h1 HH.out.queue (by decide)
    rw [HEA.out, HEB.out]
    by_cases hja : j = k - 1
    · subst hja
      have e9 := HA.out
      rw [hz] at e9
      simp only [Option.some.injEq, Prod.mk.injEq] at e9
      obtain ⟨e8, e7⟩ := e9
      rw [e8, e7]
      have hb1 := (((HA0.out.set_ 2 (.pointer (some ⟨c, 0, none⟩))).far (p := ⟨c, 1, none⟩) hac (.pointer (some ⟨a, 0, none⟩))).far (p := ⟨q, 2, none⟩) hqa (.int .i64 ((m : Int) - 1)))
      rw [if_neg (by have := HhA.out; omega), if_pos (by have := HhA.out; omega)]
      simp [ptrV] at hb1 ⊢
      exact hb1
    have hza : z ≠ a := fun e => hja (at_one HH.out.nodup hz HA.out e)
    by_cases hjc : j = k + 1
    · subst hjc
      have e9 := HC.out
      rw [hz] at e9
      simp only [Option.some.injEq, Prod.mk.injEq] at e9
      obtain ⟨e8, e7⟩ := e9
      rw [e8, e7]
      have hb1 := (((HC0.out.far (p := ⟨a, 2, none⟩) (Ne.symm hac) (.pointer (some ⟨c, 0, none⟩))).set_ 1 (.pointer (some ⟨a, 0, none⟩))).far (p := ⟨q, 2, none⟩) hqc (.int .i64 ((m : Int) - 1)))
      rw [if_pos rfl, if_neg (by omega)]
      simp [ptrV] at hb1 ⊢
      exact hb1
    have hzc : z ≠ c := fun e => hjc (at_one HH.out.nodup hz HC.out e)
    have hb1 := (((h1.far (p := ⟨a, 2, none⟩) hza (.pointer (some ⟨c, 0, none⟩))).far (p := ⟨c, 1, none⟩) hzc (.pointer (some ⟨a, 0, none⟩))).far (p := ⟨q, 2, none⟩) hzq (.int .i64 ((m : Int) - 1)))
    have n1 : j ≠ k + 1 := hjc
    have n2 : j + 1 ≠ k := fun e => hja (by omega)
    rw [if_neg n1, if_neg n2]
    exact hb1
  · exact ((((((Chg.refl (q :: bl N) w).drew).setCell (p := ⟨a, 2, none⟩) (.inl (List.mem_cons_of_mem _ (nb_mem (nb_at HA.out)))) _).drew).setCell (p := ⟨c, 1, none⟩) (.inl (List.mem_cons_of_mem _ (nb_mem (nb_at HC.out)))) _).setCell (p := ⟨q, 2, none⟩) (.inl (by simp)) _)
  · have hb1 := (((HB.out.far (p := ⟨a, 2, none⟩) (Ne.symm hba) (.pointer (some ⟨c, 0, none⟩))).far (p := ⟨c, 1, none⟩) (Ne.symm hbc) (.pointer (some ⟨a, 0, none⟩))).far (p := ⟨q, 2, none⟩) hqb (.int .i64 ((m : Int) - 1)))
    exact (hb1.cell 0)

theorem leave_any {k b : Nat} {x : Int} (H : QAt w q N) (hl : N.length ≤ 1000000) (hk : N[k]? = some (b, x)) :
    Calls Try.prog 34 #[.pointer (some ⟨q, 0, none⟩), .pointer (some ⟨b, 0, none⟩)] w (Leaves w q N k b x) := by
  have hkl := (List.getElem?_eq_some_iff.1 hk).1
  rcases Nat.eq_zero_or_pos k with h0 | h0 <;> by_cases h1 : k + 1 = N.length
  · exact leave_00 H hl hk h0 h1
  · exact leave_01 H hl hk h0 (by omega)
  · exact leave_10 H hl hk h0 h1
  · exact leave_11 H hl hk h0 (by omega)
end
end Go.Proofs
