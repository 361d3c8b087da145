import Derived.Test.YtoddffpbbnicpaaRuR
namespace Go.Proofs
open Go.RowKit
set_option linter.unusedVariables false

/-- In the midst of a theft: X has been stolen; Q is in the ring again, R is to be gone over still; n more are wanted. -/
structure SMid (w : World) (q g h M : Nat) (N : Option Int) (f : Int → Bool) (L : List Int) (k n : Nat) (v5 v6 : Value) (wx : World) (X Q R : List Int) : Prop where
  queue : QueueAt wx q g h M Q N
  row : Row wx 3 1 v5 X.length (ints X)
  new5 : ∀ b ∈ foot v5, w.heap.size ≤ b
  rd : Rd wx v6 R
  new6 : ∀ b ∈ foot v6, w.heap.size ≤ b
  apart : ∀ b ∈ foot v6, b ∉ foot v5
  chg : Chg [q, g, h] w wx
  stolen : X ++ stl f n R = stl f k L
  left : Q ++ rst f n R = rst f k L
  room : Q.length + R.length ≤ M
  few : X.length + R.length ≤ 4096
section
variable {w wx w1 w3 w4 : World} {q g h M k n : Nat} {N : Option Int} {f : Int → Bool} {L X Q R : List Int} {v5 v6 v5' v6' : Value}
theorem SMid.skip (H : SMid w q g h M N f L k (n + 1) v5 v6 wx X Q R) (hno : NoF f R R.length) (hc : Chg [] wx w1) : SMid w q g h M N f L k n v5 v6 w1 X Q R := by
  obtain ⟨a1, a2⟩ := steal_none hno (n + 1)
  obtain ⟨b1, b2⟩ := steal_none hno n
  have h8 := H.stolen
  have h9 := H.left
  rw [a1, ← b1] at h8
  rw [a2, ← b2] at h9
  exact ⟨H.queue.quiet hc, H.row.chg hc (fun _ _ h => by cases h), H.new5, H.rd.quiet hc, H.new6, H.apart, H.chg.then hc, h8, h9, H.room, H.few⟩
/-- Behind the append: the queue, and what is to be gone over, are as they were. -/
theorem SMid.appended (H : SMid w q g h M N f L k (n + 1) v5 v6 wx X Q R) (hlt : ∀ b ∈ [q, g, h], b < w.heap.size) (hc1 : Chg [] wx w1) (hg : w1.grownBy w3 v5.ownBlock) :
    QueueAt w3 q g h M Q N ∧ Rd w3 v6 R ∧ Chg [q, g, h] w w3 ∧ (∀ b ∈ foot v6, b ∉ [q, g, h]) := by
  have e3 : Chg (foot v5) wx w3 := (Chg.any hc1).grown hg (fun b hb => .inl (row_mem hb))
  refine ⟨H.queue.chg e3 (fun b hb hm => ?_), H.rd.chg e3 H.apart, H.chg.trans e3 (fun b hb => .inr (H.new5 b hb)), fun b hb hm => ?_⟩
  · have := H.new5 b hm; have := hlt b hb; omega
  · have := H.new6 b hb; have := hlt b hm; omega
theorem SMid.next {i : Nat} {y : Int} (H : SMid w q g h M N f L k (n + 1) v5 v6 wx X Q R) (hlt : ∀ b ∈ [q, g, h], b < w.heap.size) (hno : NoF f R i) (hy : R[i]? = some y) (hf : f y = true)
    (hc1 : Chg [] wx w1) (hr : Row w3 3 1 v5' (X ++ [y]).length (ints (X ++ [y]))) (hg : w1.grownBy w3 v5.ownBlock) (hft : ∀ b ∈ foot v5', b ∈ foot v5 ∨ w1.heap.size ≤ b)
    (hq4 : QueueAt w4 q g h M (Q ++ R.take i) N) (hc4 : Chg [q, g, h] w3 w4) (h6 : Rd w3 v6 R → Rd w3 v6' (R.drop (i + 1))) (h66 : foot v6' = foot v6) :
    SMid w q g h M N f L k n v5' v6' w4 (X ++ [y]) (Q ++ R.take i) (R.drop (i + 1)) := by
  obtain ⟨a1, a2, a3, a4⟩ := H.appended hlt hc1 hg
  obtain ⟨s1, s2⟩ := steal_one hno hy hf n
  have z1 := H.chg.size
  have z2 := hc1.size
  have hi := (List.getElem?_eq_some_iff.1 hy).1
  have h8 := H.stolen
  have h9 := H.left
  rw [s1] at h8
  rw [s2] at h9
  have hn5 : ∀ b ∈ foot v5', w.heap.size ≤ b := fun b hb => by
    rcases hft b hb with h7 | h7
    · exact H.new5 b h7
    · omega
  refine ⟨hq4, hr.chg hc4 (fun b hb hm => ?_), hn5, (h6 a2).chg hc4 (fun b hb hm => ?_), ?_, ?_, a3.trans hc4 (fun b hb => .inl hb), ?_, ?_, ?_, ?_⟩
  · have := hn5 b hb; have := hlt b hm; omega
  · rw [h66] at hb; exact a4 b hb hm
  · rw [h66]; exact H.new6
  · rw [h66]
    intro b hb hm
    rcases hft b hm with h7 | h7
    · exact H.apart b hb h7
    · have := H.rd.lt b hb; omega
  · rw [List.append_assoc]; exact h8
  · rw [List.append_assoc]; exact h9
  · have := H.room; simp [List.length_take, List.length_drop]; omega
  · have := H.few; simp [List.length_drop]; omega
theorem SMid.fin (H : SMid w q g h M N f L k 0 v5 v6 wx X Q R) (hlt : ∀ b ∈ [q, g, h], b < w.heap.size) (hq4 : QueueAt w4 q g h M (Q ++ R) N) (hc4 : Chg [q, g, h] wx w4) :
    QTurn q g h M v5 (stl f k L) (rst f k L) N w w4 := by
  have h8 := H.stolen
  have h9 := H.left
  rw [stl_zero, List.append_nil] at h8
  rw [rst_zero] at h9
  subst h8
  rw [← h9]
  exact ⟨hq4, H.row.chg hc4 (fun b hb hm => by have := H.new5 b hb; have := hlt b hm; omega), H.new5, H.chg.trans hc4 (fun b hb => .inl hb)⟩
theorem SMid.far (H : SMid w q g h M N f L k n v5 v6 wx X Q R) (hlt : ∀ b ∈ [q, g, h], b < w.heap.size) : ∀ b ∈ foot v6, b ∉ [q, g, h] := fun b hb hm => by
  have := H.new6 b hb; have := hlt b hm; omega
theorem SMid.stays {A : Option Addr} {r c i : Nat} (H : SMid w q g h M N f L k (n + 1) v5 (.slice A r c) wx X Q R) (hlt : ∀ b ∈ [q, g, h], b < w.heap.size) (hc1 : Chg [] wx w1) (hg : w1.grownBy w3 v5.ownBlock) (hi : i ≤ r) :
    Calls Try.prog 41 #[.pointer (some ⟨q, 0, none⟩), .slice A i c] w3 fun e w' => e = .returned (.tuple #[]) ∧ QueueAt w' q g h M (Q ++ R.take i) N ∧ Chg [q, g, h] w3 w' := by
  obtain ⟨a1, a2, a3, a4⟩ := H.appended hlt hc1 hg
  have hf : foot (.slice A i c) = foot (.slice A r c) := by cases A <;> rfl
  refine stay_any a1 (a2.first hi) (by rw [hf]; exact a4) ?_
  have := H.room
  simp only [List.length_take]
  omega
theorem halfN_le (n : Nat) : halfN n ≤ n := by unfold halfN; omega
set_option maxRecDepth 100000 in
set_option maxHeartbeats 6400000 in
theorem stealRing_any {c1 c2 : Value} (H : QueueAt w q g h M L N) (hf : MayF w [q, g, h] c1 c2 f) :
    Calls Try.prog 47 #[.pointer (some ⟨q, 0, none⟩), .func (.func 61) #[] #[c1, c2]] w fun e w' => ∃ v, e = .returned v ∧ QTurn q g h M v (stl f (halfN (L.countP f)) L) (rst f (halfN (L.countP f)) L) N w w' := by
  have he := empty_any H
  have hs := H.small
  have HLT := Lib.hid H.lt
  have hcl := List.countP_le_length (p := f) (l := L)
  have hhl := halfN_le (L.countP f)
  have hcnt := fun W v (hW : Chg [q, g, h] w W) (hr : Rd W v L) => count_any hr (hf.chg hW) (by omega)
  have hhf := fun W => half_any (L.countP f) (by omega) W
  obtain ⟨C, hC⟩ : ∃ C, C = L.countP f := ⟨_, rfl⟩
  rw [← hC] at hcnt hhf hcl hhl ⊢
  obtain ⟨K, hK⟩ : ∃ K, K = halfN C := ⟨_, rfl⟩
  rw [← hK] at hhf hhl ⊢
  have HF := Lib.hid hf
  have HS := Lib.hid hs
  have hK8 : K ≤ 8192 := by omega
  clear H hf hC hK hcl hhl hs
  go_enter Try.func47, Try.ntmps47
  go_wp2
  go_step3
  go_wp2_with (go_at_call 39; refine he.mono ?_; rintro e w2 ⟨v, rfl, hq, hr, hnew, hc⟩; obtain ⟨A6, c6, rfl, _⟩ := hr.val; have HQ := Lib.hid hq; have HR := Lib.hid hr; have HN := Lib.hid hnew; have HC := Lib.hid hc; clear hq hr hnew hc)
  go_step3
  go_wp2_with (first
    | (go_at_call 63; refine (hcnt _ _ HC.out (Rd.of_row HR.out)).mono ?_; rintro e w' ⟨rfl, d1, rfl⟩)
    | (go_at_call 40; refine (hhf _).mono ?_; rintro e w' ⟨rfl, rfl⟩))
  have hst : SMid w q g h M N f L K K (.slice none 0 0) (.slice A6 L.length c6) (w2.drewN d1) [] [] L :=
    ⟨HQ.out.quiet ((Chg.refl _ _).drewN _), Row.nil _ _ _, (fun b hb => by cases hb), (Rd.of_row HR.out).quiet ((Chg.refl _ _).drewN _), HN.out, (fun b _ hb => by cases hb), HC.out.drewN _, rfl, rfl, by have := HS.out.2.1; simp; omega, by have := HS.out.1; simp; omega⟩
  have HST := Lib.hid hst
  clear hst
  go_loopg [5, 6, 15] K (fun n s5 s6 s15 wx => ∃ j : Nat, j + n = K ∧ s15 = .int .i64 j ∧ Hid (∃ X Q R, SMid w q g h M N f L K n s5 s6 wx X Q R))
  case atStart => exact ⟨0, by omega, rfl, Lib.hid ⟨_, _, _, HST.out⟩⟩
  case round =>
    obtain ⟨j, hj, rfl, HM⟩ := hrel
    obtain ⟨X, Q, R, hM⟩ := HM.out
    have hlt := HLT.out
    cases gk with
    | zero =>
      obtain rfl : j = K := by omega
      have hstay := stay_any hM.queue hM.rd (hM.far hlt) hM.room
      have HMM := Lib.hid hM
      clear hM
      go_wp2_with (go_at_call 41; refine hstay.mono ?_; rintro e w4 ⟨rfl, hq4, hc4⟩; have HQ4 := Lib.hid hq4; have HC4 := Lib.hid hc4; clear hq4 hc4)
      (try rw [Exit.noGoto_ret])
      go_ret
      exact ⟨_, rfl, HMM.out.fin HLT.out HQ4.out HC4.out⟩
    | succ n =>
      have hjK : (j : Int) < (K : Int) := by omega
      obtain ⟨V5, hV5⟩ : ∃ V, V = u5 := ⟨_, rfl⟩
      subst hV5
      obtain ⟨A, c, rfl, hrc, hcm, hAn, hcell⟩ := hM.rd.open_
      obtain ⟨r, hr⟩ : ∃ r, r = R.length := ⟨_, rfl⟩
      rw [← hr] at hrc hM
      have hfew := hM.few
      have HMM := Lib.hid hM
      have HRL := Lib.hid hr
      have HCE := Lib.hid hcell
      have hr8 : r ≤ 4096 := by omega
      have hc63 : c ≤ 9223372036854775807 := by unfold maxLen at hcm; exact hcm
      have HFW := Lib.hid hfew
      have HMF := Lib.hid (HF.out.chg hM.chg)
      simp only [← hr]
      clear hM HM hr hcell hcm hfew hAn
      go_wp2
      go_loopg [5, 6, 19] r (fun g2 s5 s6 s19 wy => ∃ i d : Nat, i + g2 = r ∧ s19 = .int .i64 i ∧ s5 = V5 ∧ s6 = .slice A r c ∧ Hid (NoF f R i) ∧ wy = wr.drewN d)
      case atStart => exact ⟨0, 0, by omega, rfl, rfl, rfl, Lib.hid (fun j hj => by omega), rfl⟩
      case round =>
        obtain ⟨i, d, hig, rfl, rfl, rfl, HNo, rfl⟩ := hrel
        cases gk with
        | zero =>
          obtain rfl : i = r := by omega
          go_wp2
          go_roundg n
          case measure => omega
          case rel => exact ⟨j + 1, by omega, by go_num, Lib.hid ⟨X, Q, R, HMM.out.skip (HRL.out ▸ HNo.out) ((Chg.refl _ _).drewN _)⟩⟩
        | succ g2 =>
          obtain ⟨y, hy⟩ : ∃ y, R[i]? = some y := ⟨_, List.getElem?_eq_getElem (by rw [← HRL.out]; omega)⟩
          obtain ⟨b, o, rfl, hb, hce⟩ := HCE.out i y hy
          have hcl := HMF.out (wr.drewN d) ((Chg.refl _ _).drewN d) y
          have HY := Lib.hid hy
          have i0 : (0 : Int) ≤ (i : Int) := by omega
          have i1 : (i : Int) < (r : Int) := by omega
          have HFY := Lib.hid (rfl : f y = f y)
          obtain ⟨B, hB⟩ : ∃ B, B = f y := ⟨_, rfl⟩
          rw [← hB] at hcl
          have HB := Lib.hid hB
          clear hy hB HFY
          cases B with
          | false =>
            go_wp2_with (go_at_call 61; refine hcl.mono ?_; rintro e w' ⟨rfl, d2, rfl⟩)
            go_roundg g2
            case measure => omega
            case rel => exact ⟨i + 1, _, by omega, by go_num, rfl, rfl, Lib.hid (HNo.out.snoc HY.out HB.out.symm), rfl⟩
          | true =>
            have HI := Lib.hid (show i < r by omega)
            have e1 : IntKind.i64.wrap ((i : Int) + 1) = (i : Int) + 1 := IntWalk.i64_in _ (by omega)
            have i2 : (0 : Int) ≤ (i : Int) + 1 := by omega
            have i3 : (i : Int) + 1 ≤ (r : Int) := by omega
            have i4 : (i : Int) ≤ (c : Int) := by omega
            have e2 : ((i : Int) + 1).toNat = i + 1 := by omega
            by_cases hic : i + 1 < c
            · have hne : c ≠ i + 1 := by omega
              go_wp2_with (first
                | (go_at_call 61; refine hcl.mono ?_; rintro e w' ⟨rfl, d2, rfl⟩)
                | (at_builtin; refine wpList_append_rd _ rfl _ _ rfl (by rfl) (by rfl) (HMM.out.row.chg (S := []) (((Chg.refl _ _).drewN _).alloc _) (fun _ _ h => by cases h)) (Rd.one _ y) (by have := HFW.out; simp only [List.length_cons, List.length_nil]; omega) ?_; intro v' w3 hr hg hft; have HA := Lib.hid (HMM.out.stays HLT.out (((Chg.refl _ _).drewN _).alloc _) hg (Nat.le_of_lt HI.out)); have HR3 := Lib.hid hr; have HG3 := Lib.hid hg; have HF3 := Lib.hid hft; clear hr hg hft)
                | (go_at_call 41; refine HA.out.mono ?_; rintro e w4 ⟨rfl, hq4, hc4⟩; have HQ4 := Lib.hid hq4; have HC4 := Lib.hid hc4; clear hq4 hc4))
              go_roundg n
              case measure => omega
              case rel => exact ⟨j + 1, by omega, by go_num, Lib.hid ⟨_, _, _, HMM.out.next HLT.out HNo.out HY.out HB.out.symm (((Chg.refl _ _).drewN _).alloc _) HR3.out HG3.out HF3.out HQ4.out HC4.out (fun h9 => h9.rest HI.out hic) rfl⟩⟩
            · obtain rfl : c = i + 1 := by omega
              obtain rfl : r = i + 1 := by omega
              go_wp2_with (first
                | (go_at_call 61; refine hcl.mono ?_; rintro e w' ⟨rfl, d2, rfl⟩)
                | (at_builtin; refine wpList_append_rd _ rfl _ _ rfl (by rfl) (by rfl) (HMM.out.row.chg (S := []) (((Chg.refl _ _).drewN _).alloc _) (fun _ _ h => by cases h)) (Rd.one _ y) (by have := HFW.out; simp only [List.length_cons, List.length_nil]; omega) ?_; intro v' w3 hr hg hft; have HA := Lib.hid (HMM.out.stays HLT.out (((Chg.refl _ _).drewN _).alloc _) hg (Nat.le_of_lt HI.out)); have HR3 := Lib.hid hr; have HG3 := Lib.hid hg; have HF3 := Lib.hid hft; clear hr hg hft)
                | (go_at_call 41; refine HA.out.mono ?_; rintro e w4 ⟨rfl, hq4, hc4⟩; have HQ4 := Lib.hid hq4; have HC4 := Lib.hid hc4; clear hq4 hc4))
              go_roundg n
              case measure => omega
              case rel => exact ⟨j + 1, by omega, by go_num, Lib.hid ⟨_, _, _, HMM.out.next HLT.out HNo.out HY.out HB.out.symm (((Chg.refl _ _).drewN _).alloc _) HR3.out HG3.out HF3.out HQ4.out HC4.out (fun h9 => h9.rest0) rfl⟩⟩
end
end Go.Proofs
