import Derived.Test.YtfpljhjndjpdmaaRiP
namespace Go.Proofs
open Go.RowKit
set_option linter.unusedVariables false

section
variable {w : World} {g h r M : Nat} {S : List Nat} {N : Int} {L K : List Int}
theorem Two.fresh (H : Two w g h r S M N L K) : (∀ k ∈ [g, h], k < w.heap.size) ∧ ∀ k ∈ S, k < w.heap.size := ⟨H.ring.lt, H.ref.lt⟩
set_option maxRecDepth 100000 in
set_option maxHeartbeats 1600000 in
theorem do1 (H : Two w g h r S M N L K) (hK : K.length ≤ 8192) (n : Int) :
    Calls Try.prog 10 #[.pointer (some ⟨g, 0, none⟩), .pointer (some ⟨r, 0, none⟩), .agg #[.int .i64 1, .int .i64 n]] w fun e w' => Told (pushErr M L = pushErr N K) e ∧ Does g h r S M N (pushed M L n) (pushed N K n) w w' := by
  have hbG : w.heap.size ∉ [g, h] := fun hm => by have := H.ring.lt _ hm; omega
  have hbS : w.heap.size ∉ S := fun hm => by have := H.ref.lt _ hm; omega
  have hrS := H.ref.mem
  have hbr : w.heap.size ∉ [r] := fun hm => by simp at hm; rw [hm] at hbS; exact hbS hrS
  have HG := Lib.hid hbG
  have HR := Lib.hid hbr
  have HR1 := Lib.hid (fun wa w1 (ha : Chg [] w wa) (hR : RingAt w1 g h M (pushed M L n)) (h1 : Chg [g, h] wa w1) => ((H.quiet ha).ringTurns hR h1).ref)
  clear hbG hbS hrS hbr
  go_enter Try.func10, Try.ntmps10
  go_wp2
  go_region_held3 (fun w' => w'.cell? ⟨w.heap.size, 1, none⟩ = some (.int .i64 n))
    (first | go_keep)
    (first
      | (go_at_call 12; refine (push_any (H.ring.quiet (((Chg.refl _ _).alloc _).drew)) n).mono ?_; rintro e w1 ⟨rfl, hR, hc1⟩; have b5 := (Blk.new w 34 #[.int .i64 1, .int .i64 n]).drew.chg hc1 HG.out; have k1 := b5.cell 1; have HB := Lib.hid b5; have HRR := Lib.hid hR; have HC := Lib.hid hc1; clear b5 hR hc1)
      | (go_at_call 23; refine (rpush_any (HR1.out _ _ (((Chg.refl _ _).alloc _).drew) HRR.out HC.out) hK n).mono ?_; rintro e w2 ⟨rfl, hT⟩; have HT := Lib.hid hT; obtain ⟨S1, h21, h22, hc2⟩ := hT; have b6 := HB.out.chg hc2 HR.out; have k2 := b6.cell 1; clear h21 h22 hc2 b6))
  all_goals
    go_wp2
    go_ret
    refine ⟨⟨_, rfl, ?_⟩, H.step (((Chg.refl _ _).alloc _).drew) HRR.out HC.out (Chg.refl _ _) HT.out (Chg.refl _ _)⟩
    intro e1
    simp [e1]
theorem RTook.turns {r : Nat} {S : List Nat} {M : Int} {v : Value} {l L' : List Int} {w w' : World} (h : RTook r S M v l L' w w') : RTurns r S M L' w w' := h.2.2
set_option maxRecDepth 100000 in
set_option maxHeartbeats 1600000 in
theorem do2 (H : Two w g h r S M N L K) (hK : K.length ≤ 8192) (n : Int) :
    Calls Try.prog 10 #[.pointer (some ⟨g, 0, none⟩), .pointer (some ⟨r, 0, none⟩), .agg #[.int .i64 2, .int .i64 n]] w fun e w' => Told (L = K) e ∧ Does g h r S M N L.tail K.tail w w' := by
  have hT := fun W (h' : RefAt W r S N K) => rtake_any h' 1 (by omega) (by omega) hK
  cases L with
  | nil =>
    have HP := fun W (h' : RingAt W g h M []) => pop_none h'
    cases K with
    | nil =>
      go_enter Try.func10, Try.ntmps10
      go_wp2_with (first
        | (go_at_call 13; refine (HP _ (H.ring.quiet ((Chg.refl _ _).alloc _))).mono ?_; rintro e w1 ⟨rfl, rfl⟩)
        | (go_at_call 24; refine (hT _ (H.ref.quiet ((Chg.refl _ _).alloc _))).mono ?_; rintro e w2 ⟨v, rfl, hR⟩; obtain ⟨A, c, rfl, _⟩ := hR.1.open_; have HR := Lib.hid hR; clear hR))
      go_ret
      exact ⟨⟨_, rfl, fun _ => rfl⟩, H.step ((Chg.refl _ _).alloc _) (H.ring.quiet ((Chg.refl _ _).alloc _)) (Chg.refl _ _) (Chg.refl _ _) HR.out.turns (Chg.refl _ _)⟩
    | cons y K' =>
      go_enter Try.func10, Try.ntmps10
      go_wp2_with (first
        | (go_at_call 13; refine (HP _ (H.ring.quiet ((Chg.refl _ _).alloc _))).mono ?_; rintro e w1 ⟨rfl, rfl⟩)
        | (go_at_call 24; refine (hT _ (H.ref.quiet ((Chg.refl _ _).alloc _))).mono ?_; rintro e w2 ⟨v, rfl, hR⟩; obtain ⟨A, c, rfl, _⟩ := hR.1.open_; have HR := Lib.hid hR; clear hR))
      go_ret
      exact ⟨⟨_, rfl, fun e => by cases e⟩, H.step ((Chg.refl _ _).alloc _) (H.ring.quiet ((Chg.refl _ _).alloc _)) (Chg.refl _ _) (Chg.refl _ _) HR.out.turns (Chg.refl _ _)⟩
  | cons x L' =>
    have HP := fun W (h' : RingAt W g h M (x :: L')) => pop_some h'
    have HR1 := Lib.hid (fun wa w1 (ha : Chg [] w wa) (hR : RingAt w1 g h M L') (h1 : Chg [g, h] wa w1) => ((H.quiet ha).ringTurns hR h1).ref)
    cases K with
    | nil =>
      go_enter Try.func10, Try.ntmps10
      go_wp2_with (first
        | (go_at_call 13; refine (HP _ (H.ring.quiet ((Chg.refl _ _).alloc _))).mono ?_; rintro e w1 ⟨rfl, hR, hc⟩; have HRR := Lib.hid hR; have HC := Lib.hid hc; clear hR hc)
        | (go_at_call 24; refine (hT _ (HR1.out _ _ ((Chg.refl _ _).alloc _) HRR.out HC.out)).mono ?_; rintro e w2 ⟨v, rfl, hR⟩; obtain ⟨A, c, rfl, _⟩ := hR.1.open_; have HR := Lib.hid hR; clear hR))
      go_ret
      exact ⟨⟨_, rfl, fun e => by cases e⟩, H.step ((Chg.refl _ _).alloc _) HRR.out HC.out (Chg.refl _ _) HR.out.turns (Chg.refl _ _)⟩
    | cons y K' =>
      by_cases hxy : x = y
      · subst hxy
        have hb : (x == x) = true := by simp
        go_enter Try.func10, Try.ntmps10
        go_wp2_with (first
          | (go_at_call 13; refine (HP _ (H.ring.quiet ((Chg.refl _ _).alloc _))).mono ?_; rintro e w1 ⟨rfl, hR, hc⟩; have HRR := Lib.hid hR; have HC := Lib.hid hc; clear hR hc)
          | (go_at_call 24; refine (hT _ (HR1.out _ _ ((Chg.refl _ _).alloc _) HRR.out HC.out)).mono ?_; rintro e w2 ⟨v, rfl, hR⟩; obtain ⟨A, c, rfl, _, _, _, ho⟩ := hR.1.open_; obtain ⟨b, o, rfl, _, hq⟩ := ho 0 x rfl; rw [Nat.add_zero] at hq; have HR := Lib.hid hR; clear hR ho))
        go_ret
        exact ⟨⟨_, rfl, fun _ => rfl⟩, H.step ((Chg.refl _ _).alloc _) HRR.out HC.out (Chg.refl _ _) HR.out.turns (Chg.refl _ _)⟩
      · have hb : (x == y) = false := by simpa using hxy
        have HX := Lib.hid hxy
        clear hxy
        go_enter Try.func10, Try.ntmps10
        go_wp2_with (first
          | (go_at_call 13; refine (HP _ (H.ring.quiet ((Chg.refl _ _).alloc _))).mono ?_; rintro e w1 ⟨rfl, hR, hc⟩; have HRR := Lib.hid hR; have HC := Lib.hid hc; clear hR hc)
          | (go_at_call 24; refine (hT _ (HR1.out _ _ ((Chg.refl _ _).alloc _) HRR.out HC.out)).mono ?_; rintro e w2 ⟨v, rfl, hR⟩; obtain ⟨A, c, rfl, _, _, _, ho⟩ := hR.1.open_; obtain ⟨b, o, rfl, _, hq⟩ := ho 0 y rfl; rw [Nat.add_zero] at hq; have HR := Lib.hid hR; clear hR ho))
        go_ret
        exact ⟨⟨_, rfl, fun e => by injection e with e _; exact absurd e HX.out⟩, H.step ((Chg.refl _ _).alloc _) HRR.out HC.out (Chg.refl _ _) HR.out.turns (Chg.refl _ _)⟩
end
end Go.Proofs
