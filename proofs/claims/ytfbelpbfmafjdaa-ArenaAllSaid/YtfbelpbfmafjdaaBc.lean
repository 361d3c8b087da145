import Derived.Test.YtfbelpbfmafjdaaBb
import Derived.RangeFuncBox
import Derived.Maps.AppendAt
namespace Go.Proofs
open Go.RowKit Go.Shelf
set_option linter.unusedVariables false
attribute [local go_sem] Oper.semAt_some

/-- The maker of the iterator that goes over the table as it is. -/
theorem make_now (n : Nat) (p : Option Addr) (w : World) :
    CallsIn Fence.wide n Try.prog 40 #[.pointer p] w fun e w' => e = .returned (.func (.func 49) #[] #[.pointer (some ⟨w.heap.size, 0, none⟩)]) ∧ w' = w.alloc (.cells #[.pointer p] 26) := by
  refine callsIn_of_wp Try.func40 rfl trivial ?_ rfl
  simp only [Try.ntmps40, List.size_toArray, List.length_cons, List.length_nil, Nat.reduceAdd, Nat.reduceSub, Array.replicate_succ, Array.replicate_zero, List.push_toArray, List.append_toArray, List.nil_append, List.cons_append]
  gi_wp2
  go_ret
  exact ⟨rfl, rfl⟩

theorem now_stops (n : Nat) (hn : 1 ≤ n) (b g N : Nat) (S : List Nat) (t : Tab Int) (hw : t.WF) (hN : t.size = (N : Nat)) (w : World) (hb : b < w.heap.size) (hV : w.cell? ⟨b, 0, none⟩ = some (.pointer (some ⟨g, 0, none⟩))) (hT : TabAt kI w g S t) :
    SeqStopsK Fence.wide n Try.prog 49 #[.pointer (some ⟨b, 0, none⟩)] Nam.encs (KeepL (b :: S)) (fun ys => ys = nowL t N) (fun pre => pre <+: nowL t N) (N + 1) w := fun l J Jx W hW hJ _ hY h0 =>
  now_in n hn l b g N S t hw hN w hb hV hT J Jx W ⟨hW.size, fun k hk => hW.block k (by
    rcases List.mem_cons.1 hk with rfl | hk
    · exact hb
    · exact hT.lt k hk)⟩ hJ hY h0

theorem Try.info_87 : (Try.prog.info? 87).map (fun i => (i.zero, i.size, i.bytes)) = some (some (.agg #[.int .i64 0, .int .u64 0, .int .i64 0]), 3, 24) := by kernel_rfl

/-- A captured box, and the slice of names that it holds; both were made from n0 on. -/
structure Held (n0 : Nat) (W : World) (B : Nat) (xs : List Nam) : Prop where
  ge : n0 ≤ B
  lt : B < W.heap.size
  row : ∃ V, W.cell? ⟨B, 0, none⟩ = some V ∧ Row W 87 3 V xs.length (namCells xs) ∧ (∀ k ∈ foot V, n0 ≤ k ∧ k < W.heap.size)
def Gathered (n0 : Nat) (xs : List Nam) (e : Ending) (W : World) : Prop := ∃ B, e = .returned (.func (.func 41) #[] #[.pointer (some ⟨B, 0, none⟩)]) ∧ Held n0 W B xs

theorem namCells_snoc (l : List Nam) (p : Nam) : namCells (l ++ [p]) = namCells l ++ [.int .i64 p.i, .int .u64 p.q, .int .i64 p.x] := by simp [namCells]

set_option maxRecDepth 100000 in
set_option maxHeartbeats 3200000 in
/-- **All**: it gathers all that is there, at once. -/
theorem all_in (n : Nat) (hn : 6 ≤ n) (g N : Nat) (S : List Nat) (t : Tab Int) (hw : t.WF) (hN : t.size = (N : Nat)) (w : World) (hT : TabAt kI w g S t) :
    CallsIn Fence.wide n Try.prog 20 #[.pointer (some ⟨g, 0, none⟩)] w fun e W' => Gathered w.heap.size (nowL t N) e W' ∧ Below w.heap.size w W' := by
  have h1 : 1 ≤ n := by omega
  have hN4 : N ≤ 4096 := by have := hw.s1; omega
  have hlen : ∀ pre : List Nam, pre.length < N + 1 → pre.length ≤ 4096 := fun _ _ => by omega
  refine callsIn_of_wp_marks Try.func20 rfl trivial ?_ rfl
  simp only [Try.ntmps20, List.size_toArray, List.length_cons, List.length_nil, Nat.reduceAdd, Nat.reduceSub, Array.replicate_succ, Array.replicate_zero, List.push_toArray, List.append_toArray, List.nil_append, List.cons_append]
  gi_wp2_with (refine ⟨trivial, ?_⟩; gi_at_call 40; refine (make_now (n - 1) _ _).mono ?_; rintro e w' ⟨rfl, rfl⟩)
  have bS := (Boxed.new w 85 (.slice none 0 0)).alloc (.cells #[.pointer (some ⟨g, 0, none⟩)] 26)
  have bT := Boxed.new (w.alloc (.cells #[.slice none 0 0] 85)) 26 (.pointer (some ⟨g, 0, none⟩))
  simp only [World.size_alloc] at bT
  have hB0 : Below w.heap.size w ((w.alloc (.cells #[.slice none 0 0] 85)).alloc (.cells #[.pointer (some ⟨g, 0, none⟩)] 26)) := ((Below.refl _ w).alloc (Nat.le_refl _) _).alloc (by simp) _
  have hT0 := (hT.quiet (((Chg.refl [] w).alloc (.cells #[.slice none 0 0] 85)).alloc (.cells #[.pointer (some ⟨g, 0, none⟩)] 26)))
  have hsz : ((w.alloc (.cells #[.slice none 0 0] 85)).alloc (.cells #[.pointer (some ⟨g, 0, none⟩)] 26)).heap.size = w.heap.size + 2 := by simp
  obtain ⟨W0, hW0⟩ : ∃ W0, (w.alloc (.cells #[.slice none 0 0] 85)).alloc (.cells #[.pointer (some ⟨g, 0, none⟩)] 26) = W0 := ⟨_, rfl⟩
  rw [hW0] at bS bT hB0 hsz hT0 ⊢
  clear hW0
  have hL : ∀ k ∈ (w.heap.size + 1) :: S, k < W0.heap.size ∧ k ≠ w.heap.size := fun k hk => by
    rcases List.mem_cons.1 hk with rfl | hk
    · omega
    · have := hT.lt k hk; omega
  obtain ⟨i0, hi0, hz0, hz1, hz2⟩ := info_parts Try.info_87
  refine wpIn_rangeFunc_ownH rfl h1 (gf := 49) (lb := #[.pointer (some ⟨w.heap.size + 1, 0, none⟩)]) rfl trivial (enters_of Try.func49 (by kernel_rfl) rfl)
    (now_stops (n - 1) (by omega) (w.heap.size + 1) g N S t hw hN W0 (by omega) bT.cell hT0) (fun h k => h.trans k)
    (fun W l o o' hl ho _ _ => ⟨by simp [World.putObj], fun k hk => by have := hL k hk; exact (grownBy_putObj' W l o').block k (by have := (Array.getElem?_eq_some_iff.1 ho).1; omega) (fun e => by cases e; omega)⟩)
    (Below.refl _ _) (fun _ => rfl)
    (fun pre W => ((∃ V, Boxed W w.heap.size 85 V ∧ W.ownsRow w.heap.size 87 3 V pre.length (namCells pre) ∧ True) ∧ Boxed W (w.heap.size + 1) 26 (.pointer (some ⟨g, 0, none⟩))) ∧ Below w.heap.size W0 W)
    (fun _ _ _ => False)
    (OwnFrom.and (OwnFrom.and (Own.from (holdsRow_own w.heap.size w.heap.size 85 87 3 (fun pre : List Nam => pre.length) (fun pre => namCells pre) (fun pre v => True)) _) (Own.from (boxed_own _ _ _) _)) (ownFrom_below (by omega) (by omega)))
    (fun _ _ _ _ _ hs _ _ => hs)
    ⟨⟨⟨_, bS, World.ownsRow_nil _ _ _ _, trivial⟩, bT⟩, Below.refl _ _⟩
    (fun x a' W => ∃ Bx, w.heap.size + 1 < Bx ∧ Blk W Bx 36 #[.int .i64 x.i, .int .u64 x.q] ∧ a' = { tmps := #[.pointer (some ⟨g, 0, none⟩), undef, .nilFunc, .pointer (some ⟨w.heap.size, 0, none⟩), .pointer (some ⟨Bx, 0, none⟩), .int .i64 x.x, .pointer (some ⟨g, 0, none⟩), .func (.func 49) #[] #[.pointer (some ⟨w.heap.size + 1, 0, none⟩)], .agg #[.int .i64 x.i, .int .u64 x.q], .int .i64 x.x, undef, undef, undef, undef, undef, undef, undef], defers := [] })
    (fun x a' _ X Y row hs hg hr => by
      obtain ⟨Bx, h1, h2, h3⟩ := hs
      exact ⟨Bx, h1, h2.same (hg.block Bx h2.lt (fun e => by
        obtain ⟨_, o, ho, hc⟩ := hr Bx e.symm
        unfold Blk at h2
        rw [h2] at ho; cases ho; cases hc)), h3⟩)
    ?assign ?body ?done ?stop
  case assign =>
    rintro l pre x W K ⟨⟨⟨V, hV, hr, _⟩, hT9⟩, hB⟩ hK
    have hz := hB.size
    have hzw : w.heap.size ≤ W.heap.size := by omega
    simp only [Nam.encs]
    gi_wp2
    exact hK _ _ ((KeepsOthers.alloc _ _).from _) (KeepL.chg ((Chg.refl [] W).alloc _) (fun k hk => by have := hL k hk; omega)) ⟨⟨⟨V, hV.alloc _, hr.alloc _, trivial⟩, hT9.alloc _⟩, hB.alloc hzw _⟩ ⟨W.heap.size, by omega, Blk.new W 36 _, rfl⟩
  case body =>
    rintro l pre x a' W hl ⟨r, hr⟩ ⟨⟨⟨V, hV, hrow, _⟩, hT9⟩, hB⟩ ⟨Bx, hBx, bX, rfl⟩ hlt
    have hz := hB.size
    have hzw : w.heap.size ≤ W.heap.size := by omega
    have hc := hV.cell
    have hf := hV.frozen
    have x0 := bX.cell 0
    have x1 := bX.cell 1
    have hln := hlen pre hlt
    have hne := hT9.not_row (by decide) hrow
    gi_wp2_with (gi_at_builtin; refine wpListIn_append_own _ rfl _ _ 85 rfl w.heap.size 87 i0 (.agg #[.int .i64 0, .int .u64 0, .int .i64 0]) 3 24 Try.underlying85 hi0 hz0 hz1 hz2 rfl (by decide) _ _ _ rfl (hrow.alloc _) ⟨W.heap.size, 0, none⟩ 1 1 [.int .i64 x.i, .int .u64 x.q, .int .i64 x.x] rfl rfl (World.news_of_block (cs := #[.int .i64 x.i, .int .u64 x.q, .int .i64 x.x]) (t := 87) (fr := (0, 0)) (heap_alloc_new W _)) (by simp [Value.oneCell']) (by unfold maxLen; omega) (by omega) (by simp; omega) ?_; intro v' w1 hown' hgrow _; obtain ⟨g', cap', rfl⟩ := ownsRow_succ hown'; obtain ⟨hv1, hv2, hr2, hk2, hb2⟩ := hV.appended (by decide) hrow hzw (Nat.le_refl _) hown' hgrow; have hc1 := hv1.cell; have hf1 := hv1.frozen; have hT8 := ((hT9.alloc (.cells #[.int .i64 x.i, .int .u64 x.q, .int .i64 x.x] 87)).kept hgrow hne).other (B' := w.heap.size) (by omega) (.slice (some ⟨g', 0, none⟩) (pre.length + 1) cap'))
    refine ⟨hk2.from _, ⟨hb2.size, fun k hk => ?_⟩, ⟨⟨⟨_, hv2, ?_, trivial⟩, hT8⟩, hB.trans hb2⟩⟩
    · rcases List.mem_cons.1 hk with rfl | hk
      · exact hT8.trans hT9.symm
      · exact hb2.block k (hT.lt k hk)
    · rw [namCells_snoc, List.length_append]; exact hr2
  case done =>
    rintro D zs W hD rfl ⟨⟨⟨V, hV, hrow, _⟩, hT9⟩, hB⟩ hK
    have hz := hB.size
    have cS := hV.cell
    gi_wp2
    refine ⟨by simp, .inl ⟨_, _, rfl, run_takeDeferred hK, ?_⟩⟩
    have hgD := grownBy_putObj' W D (.deferred none)
    have hD2 : some w.heap.size ≠ some D := by intro e; cases e; omega
    refine ⟨_, results_tmp rfl _ _ _, ⟨w.heap.size, rfl, Nat.le_refl _, by have := (hV.kept hgD hD2).lt; exact this, V, (hV.kept hgD hD2).cell, Row.of_own (ownsRow_putObj hrow _ hK rfl), fun k hk => ⟨?_, Row.lt (Row.of_own (ownsRow_putObj hrow (.deferred none) hK rfl)) k hk⟩⟩, (hB0.trans hB).trans (belowK_b (w := w) (Nat.le_refl _) W D _ _ (by omega) hK rfl rfl)⟩
    rcases hrow.2 with ⟨rfl, _⟩ | ⟨g', cap, cur, rfl, hb, _, _⟩
    · cases hk
    · simp [foot_some] at hk; subst hk; exact hb
  case stop =>
    rintro D c pre W _ _ h _
    exact h.elim
end Go.Proofs
