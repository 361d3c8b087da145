import Derived.Test.YtfbelpbfmafjdaaBa
import Derived.Stop.RegionWithIn
namespace Go.Proofs
open Go.RowKit Go.Shelf
set_option linter.unusedVariables false
attribute [local go_sem] Oper.semAt_some

/-- What is there below a place, rising. -/
def nowL (t : Tab Int) (k : Nat) : List Nam := (List.range k).filterMap fun i => (t.live (i : Nat)).map fun s => ⟨(i : Nat), s.gen, s.thing⟩
theorem nowL_yes {t : Tab Int} {k : Nat} {s : Spot Int} (h : t.live (k : Nat) = some s) : nowL t (k + 1) = nowL t k ++ [⟨(k : Nat), s.gen, s.thing⟩] := by
  unfold nowL
  rw [List.range_succ, List.filterMap_append]
  simp [h]
theorem nowL_no {t : Tab Int} {k : Nat} (h : t.live (k : Nat) = none) : nowL t (k + 1) = nowL t k := by
  unfold nowL
  rw [List.range_succ, List.filterMap_append]
  simp [h]
theorem nowL_len (t : Tab Int) (k : Nat) : (nowL t k).length ≤ k := by
  unfold nowL
  exact Nat.le_trans (List.length_filterMap_le _ _) (by simp)
theorem nowL_pre (t : Tab Int) (k j : Nat) (h : k ≤ j) : nowL t k <+: nowL t j := by
  induction j with
  | zero => obtain rfl : k = 0 := by omega
            exact List.prefix_refl _
  | succ j ih =>
    by_cases e : k = j + 1
    · subst e; exact List.prefix_refl _
    · have := ih (by omega)
      rcases live_cases t (j : Nat) with ⟨s, hs⟩ | hn
      · rw [nowL_yes hs]; exact this.trans (List.prefix_append _ _)
      · rw [nowL_no hn]; exact this
theorem grown_of_chg {W W' : World} (h : Chg [] W W') : W.grownBy W' none := ⟨h.os, h.tape, h.output, h.size, fun k hk _ => h.block k hk (by simp)⟩

/-- These blocks are as they were. -/
structure KeepL (L : List Nat) (A B : World) : Prop where
  size : A.heap.size ≤ B.heap.size
  block : ∀ k ∈ L, B.heap[k]? = A.heap[k]?
theorem KeepL.refl (L : List Nat) (A : World) : KeepL L A A := ⟨Nat.le_refl _, fun _ _ => rfl⟩
theorem KeepL.trans {L : List Nat} {A B C : World} (h : KeepL L A B) (k : KeepL L B C) : KeepL L A C := ⟨Nat.le_trans h.size k.size, fun i hi => (k.block i hi).trans (h.block i hi)⟩
theorem KeepL.chg {L : List Nat} {A B : World} (h : Chg [] A B) (hL : ∀ k ∈ L, k < A.heap.size) : KeepL L A B := ⟨h.size, fun k hk => h.block k (hL k hk) (by simp)⟩
theorem KeepL.cell {L : List Nat} {A B : World} (h : KeepL L A B) {p : Addr} (hp : p.block ∈ L) : B.cell? p = A.cell? p := World.cell?_of_block (h.block p.block hp)

set_option maxRecDepth 100000 in
set_option maxHeartbeats 3200000 in
/-- The iterator that goes over the table as it is. -/
theorem now_in (n : Nat) (hn : 1 ≤ n) (l b g N : Nat) (S : List Nat) (t : Tab Int) (hw : t.WF) (hN : t.size = (N : Nat)) (w : World) (hb : b < w.heap.size) (hV : w.cell? ⟨b, 0, none⟩ = some (.pointer (some ⟨g, 0, none⟩))) (hT : TabAt kI w g S t)
    (J Jx : List Nam → World → Prop) (W : World) (hW : KeepL (b :: S) w W) (hJ : AbidesFrom W.heap.size J)
    (hY : ∀ pre x W1, J pre W1 → pre.length < N + 1 → YieldAt Fence.wide (n - 1) Try.prog l (Nam.encs x) W1 fun e W' =>
      (e = .returned (.bool true) ∧ J (pre ++ [x]) W' ∧ KeepL (b :: S) W1 W') ∨ (e = .returned (.bool false) ∧ Jx (pre ++ [x]) W')) (h0 : J [] W) :
    CallsIn Fence.wide n Try.prog 49 #[.func (.yield l) #[] #[], .pointer (some ⟨b, 0, none⟩)] W fun e W' => (∃ v, e = .returned v) ∧ ((∃ ys, ys = nowL t N ∧ J ys W') ∨ (∃ pre, pre <+: nowL t N ∧ Jx pre W')) := by
  have hVW := (hW.cell (p := ⟨b, 0, none⟩) (by simp)).trans hV
  have hTW : ∀ W', KeepL (b :: S) w W' → TabAt kI W' g S t := fun W' h => hT.same (fun k hk => h.block k (by simp [hk]))
  have hlt0 : ∀ k ∈ b :: S, k < w.heap.size := fun k hk => by
    rcases List.mem_cons.1 hk with rfl | hk
    · exact hb
    · exact hT.lt k hk
  have HLT := Lib.hid hlt0
  clear hlt0
  have HTW := Lib.hid hTW
  have HSz := fun w' h' => (size_I (w := w') (g := g) (S := S) (t := t) h').mono (R' := fun e w'' => e = .returned (.int .i64 (N : Nat)) ∧ w' = w'') (fun e w'' ⟨h1, h2⟩ => ⟨by rw [h1, hN], h2⟩)
  have hN4 : N ≤ 4096 := by have := hw.s1; omega
  have HNN := Lib.hid hN
  clear hN
  refine callsIn_of_wp Try.func49 rfl trivial ?_ rfl
  simp only [Try.ntmps49, List.size_toArray, List.length_cons, List.length_nil, Nat.reduceAdd, Nat.reduceSub, Array.replicate_succ, Array.replicate_zero, List.push_toArray, List.append_toArray, List.nil_append, List.cons_append]
  gi_wp2_with (refine ⟨trivial, ?_⟩; gi_at_call 27; refine (callsIn_wide.2 (HSz _ (HTW.out _ hW))).mono ?_; rintro e w' ⟨rfl, rfl⟩)
  gi_loopw [8] (fun iv wr => ∃ k : Nat, k ≤ N ∧ iv = .int .i64 k ∧ KeepL (b :: S) w wr ∧ W.heap.size ≤ wr.heap.size ∧ J (nowL t k) wr) (fun iv wr => N - (intOf iv).toNat)
  case atStart => exact ⟨0, by omega, rfl, hW, Nat.le_refl _, h0⟩
  case round =>
    obtain ⟨k, hk, rfl, hB, hz, hJk⟩ := hrel
    have hVr := (hB.cell (p := ⟨b, 0, none⟩) (by simp)).trans hV
    by_cases hlt : k < N
    · have k0 : (0 : Int) ≤ (k : Int) := by omega
      have k1 : (k : Int) < (N : Int) := by omega
      have HA := fun w' h' => at_I (w := w') (g := g) (S := S) (t := t) h' hw (k : Nat) (by omega) (by omega)
      have hlen : (nowL t k).length < N + 1 := by have := nowL_len t k; omega
      have HB := Lib.hid hB
      have HJk := Lib.hid hJk
      rcases live_cases t (k : Nat) with ⟨s, hs⟩ | hno
      · obtain ⟨q1, q2, q3⟩ := live_some hs
        rw [q1, q2, q3] at HA
        have HS := Lib.hid (nowL_yes hs)
        obtain ⟨hj, hth⟩ := live_nat.1 hs
        obtain ⟨VS, VF, hBk, hSp, hFr, hSS⟩ := hT
        obtain ⟨gs, cs, rfl, hft, hcs, hgs, hks, a0, a1, a2, _⟩ := TabAt.open_spot hSp hj
        have lg : g ∈ b :: S := by rw [hSS]; simp
        have lgs : gs ∈ b :: S := by rw [hSS]; simp [foot_some]
        have c2 := hBk.cell 2
        obtain ⟨m, hm⟩ : ∃ m, m = t.spots.length := ⟨_, rfl⟩
        rw [← hm] at c2 hks
        have k2 : (k : Int) < (m : Int) := by omega
        obtain ⟨G, hG⟩ : ∃ G, G = s.gen := ⟨_, rfl⟩
        obtain ⟨X, hX⟩ : ∃ X, X = s.thing := ⟨_, rfl⟩
        have a2' : w.cell? ⟨gs, k * 3 + 2, none⟩ = some (.int .i64 X) := by rw [hX]; exact a2
        rw [← hG] at HA
        rw [← hG, ← hX] at HS
        clear q1 q2 q3 hs hj hth hBk hSp hFr hSS hft hm hG hX a0 a1 a2 hB hJk
        gi_wp2_with (refine ⟨trivial, ?_⟩; gi_at_call 21; refine (callsIn_wide.2 (HA _ (HTW.out _ HB.out))).mono ?_; rintro e w1 ⟨rfl, hc1⟩; have hb1 : KeepL (b :: S) w ((w1.alloc (.cells #[.int .i64 (k : Nat), .int .u64 G] 36)).drew) := HB.out.trans (KeepL.chg ((hc1.then ((Chg.refl _ _).alloc _)).drew) (fun k hk => Nat.lt_of_lt_of_le (HLT.out k hk) HB.out.size)); have HB1 := Lib.hid hb1; have v0 := (hb1.cell (p := ⟨b, 0, none⟩) (by simp)).trans hV; have v1 := (hb1.cell (p := ⟨g, 2, none⟩) lg).trans c2; have v2 := (hb1.cell (p := ⟨gs, k * 3 + 2, none⟩) lgs).trans a2'; have HC1 := Lib.hid hc1; clear hb1 hc1)
        have hJ2 : J (nowL t k) ((w1.alloc (.cells #[.int .i64 (k : Nat), .int .u64 G] 36)).drew) := hJ _ _ _ none HJk.out (grown_of_chg (((HC1.out).then ((Chg.refl _ _).alloc _)).drew)) (fun r e => by cases e)
        obtain ⟨fn, tmps, assign, body, hy, hRo⟩ := hY _ ⟨(k : Nat), G, X⟩ _ hJ2 hlen
        simp only [Nam.encs] at hy
        have hRo1 := hRo.mono (R' := fun e W' => ∃ bb : Bool, e = .returned (.bool bb) ∧ ((bb = true ∧ J (nowL t k ++ [⟨(k : Nat), G, X⟩]) W' ∧ KeepL (b :: S) ((w1.alloc (.cells #[.int .i64 (k : Nat), .int .u64 G] 36)).drew) W') ∨ (bb = false ∧ Jx (nowL t k ++ [⟨(k : Nat), G, X⟩]) W'))) (by
          rintro e W3 (⟨h1, h2, h3⟩ | ⟨h1, h2⟩)
          · exact ⟨true, h1, .inl ⟨rfl, h2, h3⟩⟩
          · exact ⟨false, h1, .inr ⟨rfl, h2⟩⟩)
        clear hRo hJ2
        gi_region_with (refine hRo1.mono ?_; rintro e W3 ⟨bb, rfl, h9⟩; have H9 := Lib.hid h9; clear h9)
        all_goals
          rcases H9.out with ⟨rfl, hJ3, hk3⟩ | ⟨rfl, hJx3⟩
          · have HJ3 := Lib.hid hJ3
            have HK3 := Lib.hid hk3
            clear hJ3 hk3 H9
            gi_wp2
            go_roundw
            case rel => exact ⟨k + 1, by omega, by go_num, HB1.out.trans HK3.out, by have := HK3.out.size; have := HC1.out.size; simp at *; omega, by rw [HS.out]; exact HJ3.out⟩
            case measure => simp [intOf]; omega
          · have HJ3 := Lib.hid hJx3
            clear hJx3 H9
            gi_wp2
            refine bodyPost_ret (results_none rfl _ _ _) rfl ?_
            exact ⟨⟨_, rfl⟩, .inr ⟨_, by rw [← HS.out]; exact nowL_pre t _ _ (by omega), HJ3.out⟩⟩
      · obtain ⟨q1, q2, q3, _⟩ := live_none hno
        rw [q1, q2, q3] at HA
        have HS := Lib.hid (nowL_no hno)
        clear q1 q2 q3 hno hB hJk
        gi_wp2_with (refine ⟨trivial, ?_⟩; gi_at_call 21; refine (callsIn_wide.2 (HA _ (HTW.out _ HB.out))).mono ?_; rintro e w1 ⟨rfl, hc1⟩; have HC1 := Lib.hid hc1; clear hc1)
        refine wpIn_region_quiet_lit rfl (by kernel_rfl) (by kernel_rfl) ?_
        repeat (refine wpQuietIn_step (by first | (go_simp; done) | (unfold Oper.askedIn; intros; trivial) | (go_simp; intros; trivial)) (fun K hK => ?_); go_simp; refine hK _ ?_; clear hK K)
        refine wpQuietIn_nil ?_
        intro _ hw'
        obtain ⟨nq, hw''⟩ := hw'
        subst hw''
        have hc9 : Chg [] wr ((w1.alloc (.cells #[.int .i64 0, .int .u64 0] 36)).drewN nq) := ((HC1.out).then ((Chg.refl _ _).alloc _)).drewN nq
        have HJ2 := Lib.hid (hJ _ _ _ none HJk.out (grown_of_chg hc9) (fun r e => by cases e))
        have HC9 := Lib.hid hc9
        clear hc9
        gi_wp2
        go_roundw
        case rel => exact ⟨k + 1, by omega, by go_num, HB.out.trans (KeepL.chg HC9.out (fun k hk => Nat.lt_of_lt_of_le (HLT.out k hk) HB.out.size)), by have := HC9.out.size; omega, by rw [HS.out]; exact HJ2.out⟩
        case measure => simp [intOf]; omega
    · obtain rfl : k = N := by omega
      gi_wp2
      go_end0
      exact ⟨⟨_, rfl⟩, .inl ⟨_, rfl, hJk⟩⟩
end Go.Proofs
