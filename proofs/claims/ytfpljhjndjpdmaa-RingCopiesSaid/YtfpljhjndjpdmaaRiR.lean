import Derived.Test.YtfpljhjndjpdmaaRiQ
namespace Go.Proofs
open Go.RowKit
set_option linter.unusedVariables false

section
variable {w : World} {g h r M : Nat} {S : List Nat} {N : Int} {L K : List Int}
set_option maxRecDepth 100000 in
set_option maxHeartbeats 1600000 in
theorem do4 (H : Two w g h r S M N L K) (hK : K.length ≤ 8192) (n : Int) :
    Calls Try.prog 10 #[.pointer (some ⟨g, 0, none⟩), .pointer (some ⟨r, 0, none⟩), .agg #[.int .i64 4, .int .i64 n]] w fun e w' => Told (L = K) e ∧ Does g h r S M N (L.eraseIdx (findAt n L)) (K.eraseIdx (findAt n K)) w w' := by
  have hbG : w.heap.size ∉ [g, h] := fun hm => by have := H.ring.lt _ hm; omega
  have hbS : w.heap.size ∉ S := fun hm => by have := H.ref.lt _ hm; omega
  have hrS := H.ref.mem
  have hbr : w.heap.size ∉ [r] := fun hm => by simp at hm; rw [hm] at hbS; exact hbS hrS
  have HG := Lib.hid hbG
  have HR := Lib.hid hbr
  have HR1 := Lib.hid (fun wa w1 (ha : Chg [] w wa) (hR : RingAt w1 g h M (L.eraseIdx (findAt n L))) (h1 : Chg [g, h] wa w1) => ((H.quiet ha).ringTurns hR h1).ref)
  have HX := fun W (h' : RingAt W g h M L) => remove_any h' n
  have HY := fun W (h' : RefAt W r S N K) => rremove_any h' hK n
  obtain ⟨a, ha⟩ : ∃ a, a = decide (findAt n L < L.length) := ⟨_, rfl⟩
  obtain ⟨b, hb⟩ : ∃ b, b = decide (findAt n K < K.length) := ⟨_, rfl⟩
  rw [← ha] at HX
  rw [← hb] at HY
  have HAB := Lib.hid (show L = K → a = b by rintro rfl; rw [ha, hb])
  clear hbG hbS hrS hbr ha hb
  go_enter Try.func10, Try.ntmps10
  go_wp2
  go_region_held3 (fun w' => w'.cell? ⟨w.heap.size, 1, none⟩ = some (.int .i64 n))
    (first | go_keep)
    (first
      | (go_at_call 19; refine (HX _ (H.ring.quiet (((Chg.refl _ _).alloc _).drew))).mono ?_; rintro e w1 ⟨rfl, hR, hc1⟩; have b5 := (Blk.new w 34 #[.int .i64 4, .int .i64 n]).drew.chg hc1 HG.out; have k1 := b5.cell 1; have HB := Lib.hid b5; have HRR := Lib.hid hR; have HC := Lib.hid hc1; clear b5 hR hc1)
      | (go_at_call 25; refine (HY _ (HR1.out _ _ (((Chg.refl _ _).alloc _).drew) HRR.out HC.out)).mono ?_; rintro e w2 ⟨rfl, hT⟩; have HT := Lib.hid hT; obtain ⟨S1, h21, h22, hc2⟩ := hT; have b6 := HB.out.chg hc2 HR.out; have k2 := b6.cell 1; clear h21 h22 hc2 b6))
  all_goals
    go_wp2
    go_ret
    refine ⟨⟨_, rfl, ?_⟩, H.step (((Chg.refl _ _).alloc _).drew) HRR.out HC.out (Chg.refl _ _) HT.out (Chg.refl _ _)⟩
    intro e1
    have := HAB.out e1
    subst this
    simp
set_option maxRecDepth 100000 in
set_option maxHeartbeats 1600000 in
theorem do5 (H : Two w g h r S M N L K) (hK : K.length ≤ 8192) (n : Int) :
    Calls Try.prog 10 #[.pointer (some ⟨g, 0, none⟩), .pointer (some ⟨r, 0, none⟩), .agg #[.int .i64 5, .int .i64 n]] w fun e w' => Told (L = K) e ∧ Does g h r S M N L K w w' := by
  have hL : L.length ≤ 8192 := by have := H.ring.small; omega
  obtain ⟨VL, hB, hRd, hS⟩ := H.ref
  obtain ⟨A, c, rfl, _⟩ := hRd.open_
  have HX := fun W (h' : Has W (.pointer (some ⟨g, 0, none⟩)) L) => has_of hL h' n
  have HY := fun W (h' : Rd W (.slice A K.length c) K) => rfind_any h' hK n
  obtain ⟨a, ha⟩ : ∃ a, a = decide (findAt n L < L.length) := ⟨_, rfl⟩
  obtain ⟨b, hb⟩ : ∃ b, b = findI n K := ⟨_, rfl⟩
  rw [← ha] at HX
  rw [← hb] at HY
  have HAB := Lib.hid (show L = K → a = decide (0 ≤ b) by
    rintro rfl
    rw [ha, hb]
    unfold findI
    split
    · rename_i h9; rw [decide_eq_true h9, decide_eq_true (by omega)]
    · rename_i h9; rw [decide_eq_false h9, decide_eq_false (by omega)])
  have c0 := hB.cell 0
  have lr := hB.lt
  have HRd := Lib.hid hRd
  have k0 : ((w.alloc (.cells #[.int .i64 5, .int .i64 n] 34)).drew).cell? ⟨r, 0, none⟩ = some (.slice A K.length c) := (World.cell?_alloc_past _ _ _ lr).trans c0
  have n0 := World.new_ne w _ c0
  have HL := Lib.hid lr
  clear ha hb hB hRd hS hL hK
  go_enter Try.func10, Try.ntmps10
  go_wp2
  go_region_held3 (fun w' => w'.cell? ⟨w.heap.size, 1, none⟩ = some (.int .i64 n) ∧ w'.cell? ⟨r, 0, none⟩ = some (.slice A K.length c))
    (first | go_keep)
    (first
      | (go_at_call 20; refine (HX _ (H.ring.has.quiet (((Chg.refl _ _).alloc _).drew))).mono ?_; rintro e w1 ⟨rfl, hc1⟩; have k1 := ((Blk.new w 34 #[.int .i64 5, .int .i64 n]).drew.chg hc1 (by simp)).cell 1; have k2 : w1.cell? ⟨r, 0, none⟩ = some (.slice A K.length c) := (hc1.cell (p := ⟨r, 0, none⟩) (by have := HL.out; simp; omega) (by simp)).trans k0; have HC := Lib.hid hc1; clear hc1)
      | (go_at_call 26; refine (HY _ (HRd.out.quiet ((((Chg.refl _ _).alloc _).drew).then HC.out))).mono ?_; rintro e w2 ⟨rfl, rfl⟩))
  all_goals
    go_wp2
    go_ret
    refine ⟨⟨_, rfl, ?_⟩, H.does ((((Chg.refl _ _).alloc _).drew).then HC.out)⟩
    intro e1
    rw [HAB.out e1]
    simp
theorem doN (H : Two w g h r S M N L K) (k n : Int) (h1 : k ≠ 1) (h2 : k ≠ 2) (h3 : k ≠ 3) (h4 : k ≠ 4) (h5 : k ≠ 5) :
    Calls Try.prog 10 #[.pointer (some ⟨g, 0, none⟩), .pointer (some ⟨r, 0, none⟩), .agg #[.int .i64 k, .int .i64 n]] w fun e w' => Told True e ∧ Does g h r S M N L K w w' := by
  have b1 : (k == 1) = false := by simpa using h1
  have b2 : (k == 2) = false := by simpa using h2
  have b3 : (k == 3) = false := by simpa using h3
  have b4 : (k == 4) = false := by simpa using h4
  have b5 : (k == 5) = false := by simpa using h5
  clear h1 h2 h3 h4 h5
  go_enter Try.func10, Try.ntmps10
  go_wp2
  go_ret
  exact ⟨⟨true, rfl, fun _ => rfl⟩, H.does ((Chg.refl _ _).alloc _)⟩
end
end Go.Proofs
