import Derived.Test.YtfbelpbfmafjdaaBf
namespace Go.Proofs
open Go.RowKit Go.Shelf
set_option linter.unusedVariables false
attribute [local go_sem] Oper.semAt_some

set_option maxHeartbeats 1600000 in
theorem now_no_in (n : Nat) (hn : 1 ≤ n) (l b : Nat) (p : Option Addr) (W : World) (hV : W.cell? ⟨b, 0, none⟩ = some (.pointer p)) (hT : NoTab W (.pointer p)) (J Jx : List Nam → World → Prop) (h0 : J [] W) :
    CallsIn Fence.wide n Try.prog 49 #[.func (.yield l) #[] #[], .pointer (some ⟨b, 0, none⟩)] W fun e W' => (∃ v, e = .returned v) ∧ ((∃ ys, ys = [] ∧ J ys W') ∨ (∃ pre : List Nam, pre = [] ∧ Jx pre W')) := by
  refine callsIn_of_wp Try.func49 rfl trivial ?_ rfl
  simp only [Try.ntmps49, List.size_toArray, List.length_cons, List.length_nil, Nat.reduceAdd, Nat.reduceSub, Array.replicate_succ, Array.replicate_zero, List.push_toArray, List.append_toArray, List.nil_append, List.cons_append]
  gi_wp2_with (refine ⟨trivial, ?_⟩; gi_at_call 27; refine (callsIn_wide.2 (size_no hT)).mono ?_; rintro e w' ⟨rfl, rfl⟩)
  gi_loopw [8] (fun iv wr => iv = .int .i64 0 ∧ wr = W) (fun iv wr => 0)
  case atStart => exact ⟨rfl, rfl⟩
  case round =>
    obtain ⟨rfl, rfl⟩ := hrel
    gi_wp2
    go_end0
    exact ⟨⟨_, rfl⟩, .inl ⟨_, rfl, h0⟩⟩
theorem now_no_stops (n : Nat) (hn : 1 ≤ n) (b : Nat) (p : Option Addr) (w : World) (hb : b < w.heap.size) (hV : w.cell? ⟨b, 0, none⟩ = some (.pointer p)) (hT : NoTab w (.pointer p)) :
    SeqStopsK Fence.wide n Try.prog 49 #[.pointer (some ⟨b, 0, none⟩)] Nam.encs (fun _ _ => True) (fun ys => ys = []) (fun pre => pre = []) 0 w := fun l J Jx W hW hJ _ hY h0 =>
  now_no_in n hn l b p W ((hW.cell (p := ⟨b, 0, none⟩) hb).trans hV) (hT.chg (Chg.of_below hW)) J Jx h0

set_option maxRecDepth 100000 in
set_option maxHeartbeats 3200000 in
/-- All of no table, or of a zero one: nothing is gathered. -/
theorem all_no (n : Nat) (hn : 6 ≤ n) (p : Option Addr) (w : World) (hT : NoTab w (.pointer p)) :
    CallsIn Fence.wide n Try.prog 20 #[.pointer p] w fun e W' => Gathered w.heap.size [] e W' ∧ Below w.heap.size w W' := by
  have h1 : 1 ≤ n := by omega
  refine callsIn_of_wp_marks Try.func20 rfl trivial ?_ rfl
  simp only [Try.ntmps20, List.size_toArray, List.length_cons, List.length_nil, Nat.reduceAdd, Nat.reduceSub, Array.replicate_succ, Array.replicate_zero, List.push_toArray, List.append_toArray, List.nil_append, List.cons_append]
  gi_wp2_with (refine ⟨trivial, ?_⟩; gi_at_call 40; refine (make_now (n - 1) _ _).mono ?_; rintro e w' ⟨rfl, rfl⟩)
  have bS := (Boxed.new w 85 (.slice none 0 0)).alloc (.cells #[.pointer p] 26)
  have bT := Boxed.new (w.alloc (.cells #[.slice none 0 0] 85)) 26 (.pointer p)
  simp only [World.size_alloc] at bT
  have hB0 : Below w.heap.size w ((w.alloc (.cells #[.slice none 0 0] 85)).alloc (.cells #[.pointer p] 26)) := ((Below.refl _ w).alloc (Nat.le_refl _) _).alloc (by simp) _
  have hT0 := (hT.alloc (.cells #[.slice none 0 0] 85)).alloc (.cells #[.pointer p] 26)
  have hsz : ((w.alloc (.cells #[.slice none 0 0] 85)).alloc (.cells #[.pointer p] 26)).heap.size = w.heap.size + 2 := by simp
  obtain ⟨W0, hW0⟩ : ∃ W0, (w.alloc (.cells #[.slice none 0 0] 85)).alloc (.cells #[.pointer p] 26) = W0 := ⟨_, rfl⟩
  rw [hW0] at bS bT hB0 hsz hT0 ⊢
  clear hW0
  obtain ⟨i0, hi0, hz0, hz1, hz2⟩ := info_parts Try.info_87
  refine wpIn_rangeFunc_ownH rfl h1 (gf := 49) (lb := #[.pointer (some ⟨w.heap.size + 1, 0, none⟩)]) rfl trivial (enters_of Try.func49 (by kernel_rfl) rfl)
    (now_no_stops (n - 1) (by omega) (w.heap.size + 1) p W0 (by omega) bT.cell hT0) (fun _ _ => trivial) (fun _ _ _ _ _ _ _ _ => trivial)
    (Below.refl _ _) (fun _ => rfl)
    (fun pre W => ((∃ V, Boxed W w.heap.size 85 V ∧ W.ownsRow w.heap.size 87 3 V pre.length (namCells pre) ∧ True) ∧ Boxed W (w.heap.size + 1) 26 (.pointer p)) ∧ Below w.heap.size W0 W)
    (fun _ _ _ => False)
    (OwnFrom.and (OwnFrom.and (Own.from (holdsRow_own w.heap.size w.heap.size 85 87 3 (fun pre : List Nam => pre.length) (fun pre => namCells pre) (fun pre v => True)) _) (Own.from (boxed_own _ _ _) _)) (ownFrom_below (by omega) (by omega)))
    (fun _ _ _ _ _ hs _ _ => hs)
    ⟨⟨⟨_, bS, World.ownsRow_nil _ _ _ _, trivial⟩, bT⟩, Below.refl _ _⟩
    (fun x a' W => ∃ Bx, w.heap.size + 1 < Bx ∧ Blk W Bx 36 #[.int .i64 x.i, .int .u64 x.q] ∧ a' = { tmps := #[.pointer p, undef, .nilFunc, .pointer (some ⟨w.heap.size, 0, none⟩), .pointer (some ⟨Bx, 0, none⟩), .int .i64 x.x, .pointer p, .func (.func 49) #[] #[.pointer (some ⟨w.heap.size + 1, 0, none⟩)], .agg #[.int .i64 x.i, .int .u64 x.q], .int .i64 x.x, undef, undef, undef, undef, undef, undef, undef], defers := [] })
    (fun x a' _ X Y row hs hg hr => by
      obtain ⟨Bx, h1, h2, h3⟩ := hs
      exact ⟨Bx, h1, h2.same (hg.block Bx h2.lt (fun e => by
        obtain ⟨_, o, ho, hc⟩ := hr Bx e.symm
        unfold Blk at h2
        rw [h2] at ho; cases ho; cases hc)), h3⟩)
    ?assign ?body ?done ?stop
  case assign =>
    rintro l pre x W K ⟨⟨⟨V, hV, hr, _⟩, hT9⟩, hB⟩ hK
    have hz := hB.size
    have hzw : w.heap.size ≤ W.heap.size := by omega
    simp only [Nam.encs]
    gi_wp2
    exact hK _ _ ((KeepsOthers.alloc _ _).from _) trivial ⟨⟨⟨V, hV.alloc _, hr.alloc _, trivial⟩, hT9.alloc _⟩, hB.alloc hzw _⟩ ⟨W.heap.size, by omega, Blk.new W 36 _, rfl⟩
  case body =>
    rintro l pre x a' W hl hr hI hA hlt
    exact absurd hlt (Nat.not_lt_zero _)
  case done =>
    rintro D zs W hD rfl ⟨⟨⟨V, hV, hrow, _⟩, hT9⟩, hB⟩ hK
    have hz := hB.size
    have cS := hV.cell
    gi_wp2
    refine ⟨by simp, .inl ⟨_, _, rfl, run_takeDeferred hK, ?_⟩⟩
    have hgD := grownBy_putObj' W D (.deferred none)
    have hD2 : some w.heap.size ≠ some D := by intro e; cases e; omega
    refine ⟨_, results_tmp rfl _ _ _, ⟨w.heap.size, rfl, Nat.le_refl _, by have := (hV.kept hgD hD2).lt; exact this, V, (hV.kept hgD hD2).cell, Row.of_own (ownsRow_putObj hrow _ hK rfl), fun k hk => ⟨?_, Row.lt (Row.of_own (ownsRow_putObj hrow (.deferred none) hK rfl)) k hk⟩⟩, (hB0.trans hB).trans (belowK_b (w := w) (Nat.le_refl _) W D _ _ (by omega) hK rfl rfl)⟩
    rcases hrow.2 with ⟨rfl, _⟩ | ⟨g', cap, cur, rfl, hb, _, _⟩
    · cases hk
    · simp [foot_some] at hk; subst hk; exact hb
  case stop =>
    rintro D c pre W _ _ h _
    exact h.elim
end Go.Proofs
