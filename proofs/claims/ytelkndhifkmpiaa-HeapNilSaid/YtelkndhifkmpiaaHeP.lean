import Derived.Test.YtelkndhifkmpiaaHeO
namespace Go.Proofs
open Go.RowKit Go.Shelf
set_option linter.unusedVariables false
attribute [local go_sem] Oper.semAt_some

theorem values_any (A : Option Addr) (n c : Nat) (w : World) : Calls Try.prog 28 #[.slice A n c] w fun e w' => e = .returned (.func (.func 39) #[] #[.pointer (some ⟨w.heap.size, 0, none⟩)]) ∧ w' = w.alloc (.cells #[.slice A n c] 52) := by
  go_enter Try.func28, Try.ntmps28
  go_wp2
  go_ret
  exact ⟨rfl, rfl⟩
theorem vals_stops (n : Nat) (hn : 1 ≤ n) (b : Nat) (V : Value) (ts : List Tm) (w : World) (hlen : ts.length ≤ 100000) (hb : b < w.heap.size) (hV : w.cell? ⟨b, 0, none⟩ = some V) (hT : Rs w 61 3 V ts.length (tms ts)) :
    SeqStopsK Fence.wide n Try.prog 39 #[.pointer (some ⟨b, 0, none⟩)] encT (KeepL (b :: foot V)) (fun ys => ys = ts) (fun pre => pre <+: ts) 100000 w := fun l J Jx W hW hJ _ hY h0 =>
  vals_in n hn l b V ts w hlen hb hV hT J Jx W ⟨hW.size, fun k hk => hW.block k (by
    rcases List.mem_cons.1 hk with rfl | hk
    · exact hb
    · exact hT.lt k hk)⟩ hJ hY h0
theorem tms_snoc (l : List Tm) (x : Tm) : tms (l ++ [x]) = tms l ++ [.int .u64 x.at_, .int .i64 x.id, .int .u64 x.put] := by rw [tms_append]; simp [tms, tmCells]
/-- What a call makes: a row of timers of its own. -/
def Fresh (w w' : World) (v : Value) (ts : List Tm) : Prop := Row w' 61 3 v ts.length (tms ts) ∧ (∀ k ∈ foot v, w.heap.size ≤ k) ∧ Chg [] w w'
set_option maxRecDepth 100000 in
set_option maxHeartbeats 3200000 in
theorem seq_in (n : Nat) (hn : 6 ≤ n) (b : Nat) (V : Value) (ts : List Tm) (w : World) (hlen : ts.length ≤ 100000) (hb : b < w.heap.size) (hV : w.cell? ⟨b, 0, none⟩ = some V) (hT : Rs w 61 3 V ts.length (tms ts)) :
    CallsIn Fence.wide n Try.prog 46 #[.slice none 0 0, .func (.func 39) #[] #[.pointer (some ⟨b, 0, none⟩)]] w fun e W' => ∃ v, e = .returned v ∧ Fresh w W' v ts := by
  have h1 : 1 ≤ n := by omega
  refine callsIn_of_wp_marks Try.func46 rfl trivial ?_ rfl
  simp only [Try.ntmps46, List.size_toArray, List.length_cons, List.length_nil, Nat.reduceAdd, Nat.reduceSub, Array.replicate_succ, Array.replicate_zero, List.push_toArray, List.append_toArray, List.nil_append, List.cons_append]
  gi_wp2
  have bS := Boxed.new w 52 (.slice none 0 0)
  have hB0 : Below w.heap.size w (w.alloc (.cells #[.slice none 0 0] 52)) := (Below.refl _ w).alloc (Nat.le_refl _) _
  have hc0 : Chg [] w (w.alloc (.cells #[.slice none 0 0] 52)) := (Chg.refl [] w).alloc _
  have hT0 := hT.quiet hc0
  have hV0 := (hc0.cell (p := ⟨b, 0, none⟩) hb (by simp)).trans hV
  have hsz : (w.alloc (.cells #[.slice none 0 0] 52)).heap.size = w.heap.size + 1 := by simp
  obtain ⟨W0, hW0⟩ : ∃ W0, w.alloc (.cells #[.slice none 0 0] 52) = W0 := ⟨_, rfl⟩
  rw [hW0] at bS hB0 hsz hT0 hV0 ⊢
  clear hW0 hc0
  have hL : ∀ k ∈ b :: foot V, k < W0.heap.size ∧ k ≠ w.heap.size := fun k hk => by
    rcases List.mem_cons.1 hk with rfl | hk
    · omega
    · have := hT.lt k hk; omega
  obtain ⟨i0, hi0, hz0, hz1, hz2⟩ := info_parts tm_info
  refine wpIn_rangeFunc_ownH rfl h1 (gf := 39) (lb := #[.pointer (some ⟨b, 0, none⟩)]) rfl trivial (enters_of Try.func39 (by kernel_rfl) rfl)
    (vals_stops (n - 1) (by omega) b V ts W0 hlen (by omega) hV0 hT0) (fun h k => h.trans k)
    (fun W l o o' hl ho _ _ => ⟨by simp [World.putObj], fun k hk => by have := hL k hk; exact (grownBy_putObj' W l o').block k (by have := (Array.getElem?_eq_some_iff.1 ho).1; omega) (fun e => by cases e; omega)⟩)
    (Below.refl _ _) (fun _ => rfl)
    (fun pre W => (∃ v, Boxed W w.heap.size 52 v ∧ W.ownsRow w.heap.size 61 3 v pre.length (tms pre) ∧ True) ∧ Below w.heap.size W0 W)
    (fun _ _ _ => False)
    (OwnFrom.and (Own.from (holdsRow_own w.heap.size w.heap.size 52 61 3 (fun pre : List Tm => pre.length) (fun pre => tms pre) (fun pre v => True)) _) (ownFrom_below (by omega) (by omega)))
    (fun _ _ _ _ _ hs _ _ => hs)
    ⟨⟨_, bS, World.ownsRow_nil _ _ _ _, trivial⟩, Below.refl _ _⟩
    (fun x a' W => ∃ Bx, w.heap.size < Bx ∧ Blk W Bx 61 #[.int .u64 x.at_, .int .i64 x.id, .int .u64 x.put] ∧ a' = { tmps := #[.slice none 0 0, .func (.func 39) #[] #[.pointer (some ⟨b, 0, none⟩)], .pointer (some ⟨w.heap.size, 0, none⟩), undef, .slice none 0 0, .pointer (some ⟨Bx, 0, none⟩), .func (.func 39) #[] #[.pointer (some ⟨b, 0, none⟩)], .agg #[.int .u64 x.at_, .int .i64 x.id, .int .u64 x.put], undef, undef, undef, undef, undef], defers := [] })
    (fun x a' _ X Y row hs hg hr => by
      obtain ⟨Bx, h1, h2, h3⟩ := hs
      exact ⟨Bx, h1, h2.same (hg.block Bx h2.lt (fun e => by
        obtain ⟨_, o, ho, hc⟩ := hr Bx e.symm
        unfold Blk at h2
        rw [h2] at ho; cases ho; cases hc)), h3⟩)
    ?assign ?body ?done ?stop
  case assign =>
    rintro l pre x W K ⟨⟨v, hv, hr, _⟩, hB⟩ hK
    have hz := hB.size
    have hzw : w.heap.size ≤ W.heap.size := by omega
    simp only [encT]
    gi_wp2
    exact hK _ _ ((KeepsOthers.alloc _ _).from _) (KeepL.chg ((Chg.refl [] W).alloc _) (fun k hk => by have := hL k hk; omega)) ⟨⟨v, hv.alloc _, hr.alloc _, trivial⟩, hB.alloc hzw _⟩ ⟨W.heap.size, by omega, Blk.new W 61 _, rfl⟩
  case body =>
    rintro l pre x a' W hl ⟨r, hr⟩ ⟨⟨v, hv, hrow, _⟩, hB⟩ ⟨Bx, hBx, bX, rfl⟩ hlt
    have hz := hB.size
    have hzw : w.heap.size ≤ W.heap.size := by omega
    have hc := hv.cell
    have hf := hv.frozen
    have x0 := bX.cell 0
    have x1 := bX.cell 1
    have x2 := bX.cell 2
    gi_wp2_with (gi_at_builtin; refine wpListIn_append_own _ rfl _ _ 52 rfl w.heap.size 61 i0 (.agg #[.int .u64 0, .int .i64 0, .int .u64 0]) 3 24 Try.underlying52 hi0 hz0 hz1 hz2 rfl (by decide) _ _ _ rfl (hrow.alloc _) ⟨W.heap.size, 0, none⟩ 1 1 [.int .u64 x.at_, .int .i64 x.id, .int .u64 x.put] rfl rfl (World.news_of_block (cs := #[.int .u64 x.at_, .int .i64 x.id, .int .u64 x.put]) (t := 61) (fr := (0, 0)) (heap_alloc_new W _)) (by simp [Value.oneCell']) (by unfold maxLen; omega) (by omega) (by simp; omega) ?_; intro v' w1 hown' hgrow _; obtain ⟨g', cap', rfl⟩ := ownsRow_succ hown'; obtain ⟨hv1, hv2, hr2, hk2, hb2⟩ := hv.appended (by decide) hrow hzw (Nat.le_refl _) hown' hgrow; have hc1 := hv1.cell; have hf1 := hv1.frozen)
    refine ⟨hk2.from _, ⟨hb2.size, fun k hk => hb2.block k ?_⟩, ⟨⟨_, hv2, ?_, trivial⟩, hB.trans hb2⟩⟩
    · rcases List.mem_cons.1 hk with rfl | hk
      · exact hb
      · exact hT.lt k hk
    · rw [tms_snoc, List.length_append]; exact hr2
  case done =>
    rintro D zs W hD rfl ⟨⟨v, hv, hrow, _⟩, hB⟩ hK
    have hz := hB.size
    have cS := hv.cell
    gi_wp2
    refine ⟨by simp, .inl ⟨_, _, rfl, run_takeDeferred hK, ?_⟩⟩
    have hgD := grownBy_putObj' W D (.deferred none)
    refine ⟨_, results_tmp rfl _ _ _, v, rfl, Row.of_own (ownsRow_putObj hrow _ hK rfl), fun k hk => ?_, Chg.of_below ((hB0.trans hB).trans (belowK_b (w := w) (Nat.le_refl _) W D _ _ (by omega) hK rfl rfl))⟩
    rcases hrow.2 with ⟨rfl, _⟩ | ⟨g', cap, cur, rfl, hb', _, _⟩
    · cases hk
    · simp [foot_some] at hk; subst hk; exact hb'
  case stop =>
    rintro D c pre W _ _ h _
    exact h.elim
theorem collect_any (b : Nat) (V : Value) (ts : List Tm) (w : World) (hlen : ts.length ≤ 100000) (hb : b < w.heap.size) (hV : w.cell? ⟨b, 0, none⟩ = some V) (hT : Rs w 61 3 V ts.length (tms ts)) :
    Calls Try.prog 37 #[.func (.func 39) #[] #[.pointer (some ⟨b, 0, none⟩)]] w fun e w' => ∃ v, e = .returned v ∧ Fresh w w' v ts := by
  have HS := (callsIn_wide (n := 6)).1 (seq_in 6 (by omega) b V ts w hlen hb hV hT)
  go_enter Try.func37, Try.ntmps37
  go_wp2_with (go_at_call 46; refine HS.mono ?_; rintro e w1 ⟨v, rfl, hf⟩; have HF := Lib.hid hf; clear hf)
  go_ret
  exact ⟨_, rfl, HF.out⟩
end Go.Proofs
