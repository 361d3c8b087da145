import Derived.Test.YtgdjagbkpdndgaaGaK
namespace Go
open Go.RowKit
set_option linter.unusedVariables false
section
variable {F : Fence} {n : Nat} {P : Program} {Q : Exit → Act → World → Prop}
/-- A region that draws its order, in a round: as anywhere. -/
theorem wpIn_region_round {id : Nat} {a : Act} {w : World} {L : List Oper} (l : Nat) (hro : F.round = none) (hd : L.all noDefer = true) (hm : P.follows .mixedOrders = true)
    (h : wpAnyIn F n P .any L.toArray Q L.toArray.size (Array.replicate L.toArray.size false) a w.drew) : (Code.region id L.toArray true).wpIn (F.inRound l) n P Q a w := by
  refine wpIn_region_any hm (wpAnyIn_round l hro (fun i o ho => ?_) _ _ _ _ h)
  exact List.all_eq_true.1 hd o (List.mem_of_getElem? (by simpa using ho))
/-- append, one operation of a region. -/
theorem stepIn_append {ops : Array Oper} {o : Oper} {a : Act} {w : World} {K : Act → World → Prop} {E : Prop} (hro : F.round = none) (hF : ∀ f, F.fn f) (hgd : o.guard = none) (s y : Operand) (t : TypeId)
    (ho : o.op = .call { callee := .builtin .append, args := #[s, y], argTypes := #[t, t] }) {v x v' : Value} {w' : World} (hs : a.eval s = v) (hy : a.eval y = x)
    (hrun : (Builtin.append_ #[t, t] o.type #[v, x]).run P w = .ok v' w') (h : K (a.put o.dst v') w') :
    if Region.wanted o (yielded ops a.tmps) = true then Oper.wpIn F n P o a w K Q else E := by
  have hw : Region.wanted o (yielded ops a.tmps) = true := by simp [Region.wanted, hgd]
  rw [if_pos hw]
  unfold Oper.wpIn
  refine ⟨fun f _ => hF f, ?_⟩
  rw [Oper.semAt_eq _ _ _ (by simp [ho])]
  unfold execOp
  simp only [ho, resolve, invoke, builtin, Sem.run_bind, Sem.run_pure, Result.andThen_ok, List.map_toArray, List.map_cons, List.map_nil, hs, hy, hrun]
  exact h
end
end Go
namespace Go.Proofs
open Go.RowKit Go.Shelf
set_option linter.unusedVariables false
attribute [local go_sem] Oper.semAt_some

theorem row_keep {A B : World} {e : TypeId} {size n : Nat} {v : Value} {xs : List Value} {row : Option Nat} (h : Row A e size v n xs) (hg : A.grownBy B row) (hr : ∀ r, row = some r → ∃ o : Obj, A.heap[r]? = some o ∧ o.isCells = false) : Row B e size v n xs := by
  refine ⟨h.1, ?_⟩
  rcases h.2 with h0 | ⟨g, cap, cur, rfl, hb, r⟩
  · exact .inl h0
  · exact .inr ⟨g, cap, cur, rfl, blk_keep hb hg hr, r⟩
theorem Rd.one (w : World) (x : Int) : Rd (w.alloc (.cells #[.int .i64 x] 3)) (.slice (some ⟨w.heap.size, 0, none⟩) 1 1) [x] :=
  ⟨_, 1, rfl, by simp, by unfold maxLen; omega, fun h => (by cases h), fun a ha => by
    cases ha
    refine ⟨_, 0, _, rfl, Blk.new w 3 _, by simp, fun j z hj => ?_⟩
    match j, hj with
    | 0, hj => simp at hj; simp [hj]⟩
def vals {N : List (Nat × Int)} (pre : List (Nd N)) : List Int := pre.map fun p => p.1.2
theorem vals_all (N : List (Nat × Int)) : vals N.attach = nu N := by
  unfold vals nu
  rw [show (fun p : Nd N => p.1.2) = Prod.snd ∘ Subtype.val from rfl, ← List.map_map, List.attach_map_subtype_val]
theorem vals_len {N : List (Nat × Int)} (pre : List (Nd N)) : (vals pre).length = pre.length := by simp [vals]
/-- What All has gathered. -/
structure Gath (w : World) (T : List Nat) (r : Value) (l : List Int) (W : World) : Prop where
  box : ∃ A c, Blk W w.heap.size 28 #[.slice A l.length c] ∧ Row W 3 1 (.slice A l.length c) l.length (ints l) ∧ ∀ k ∈ foot (.slice A l.length c), w.heap.size ≤ k
  it : Blk W (w.heap.size + 1) 25 #[r]
theorem Gath.keep {w : World} {T : List Nat} {r : Value} {l : List Int} {A B : World} {row : Option Nat} (h : Gath w T r l A) (hg : A.grownBy B row) (hr : ∀ r, row = some r → ∃ o : Obj, A.heap[r]? = some o ∧ o.isCells = false) : Gath w T r l B := by
  obtain ⟨⟨V, c, h1, h2, h3⟩, h4⟩ := h
  exact ⟨⟨V, c, blk_keep h1 hg hr, row_keep h2 hg hr, h3⟩, blk_keep h4 hg hr⟩
/-- One more was appended. -/
theorem Gath.step {w : World} {T : List Nat} {r : Value} {l : List Int} {W W1 w2 : World} {x : Int} {A A' : Option Addr} {c c' : Nat} (hT : ∀ k ∈ T, k < w.heap.size)
    (hb : Blk W w.heap.size 28 #[.slice A l.length c]) (hrow : Row W 3 1 (.slice A l.length c) l.length (ints l)) (hf : ∀ k ∈ foot (.slice A l.length c), w.heap.size ≤ k) (hi : Blk W (w.heap.size + 1) 25 #[r])
    (h1 : Chg [] W W1) (hW1 : KeepsOthers W W1) (hr : Row w2 3 1 (.slice A' (l ++ [x]).length c') (l ++ [x]).length (ints (l ++ [x]))) (hg : W1.grownBy w2 (Value.ownBlock (.slice A l.length c))) (hf2 : ∀ k ∈ foot (.slice A' (l ++ [x]).length c'), k ∈ foot (.slice A l.length c) ∨ W1.heap.size ≤ k) (hB : Below w.heap.size w W) :
    Gath w T r (l ++ [x]) (w2.setCell ⟨w.heap.size, 0, none⟩ (.slice A' (l ++ [x]).length c')) ∧ KeepsOthers W (w2.setCell ⟨w.heap.size, 0, none⟩ (.slice A' (l ++ [x]).length c')) ∧ KeepL ((w.heap.size + 1) :: T) W (w2.setCell ⟨w.heap.size, 0, none⟩ (.slice A' (l ++ [x]).length c')) ∧ Below w.heap.size w (w2.setCell ⟨w.heap.size, 0, none⟩ (.slice A' (l ++ [x]).length c')) := by
  have n0 : w.heap.size ∉ foot (.slice A l.length c) := hrow.ty hb (by decide)
  have n1 : w.heap.size + 1 ∉ foot (.slice A l.length c) := hrow.ty hi (by decide)
  have hrow1 := hrow.chg h1 (fun _ _ h => by cases h)
  have hb1 := hb.chg h1 (by simp)
  have hi1 := hi.chg h1 (by simp)
  have k2 : ∀ {b : Nat} {t : TypeId} {cs : Array Value}, Blk W1 b t cs → b ∉ foot (.slice A l.length c) → Blk w2 b t cs := fun h hn => h.same (hg.block _ h.lt (fun e => hn (row_mem e.symm)))
  have hb2 := k2 hb1 n0
  have hi2 := k2 hi1 n1
  have z0 := hB.size
  have z1 := h1.size
  have z2 := hg.size
  have lb := hb.lt
  have li := hi.lt
  have hkeep : ∀ k, k < W.heap.size → k ≠ w.heap.size → k ∉ foot (.slice A l.length c) → (w2.setCell ⟨w.heap.size, 0, none⟩ (.slice A' (l ++ [x]).length c')).heap[k]? = W.heap[k]? := fun k hk hne hn =>
    (Below.heap_setCell _ _ _ _ hne).trans ((hg.block k (by omega) (fun e => hn (row_mem e.symm))).trans (h1.block k hk (by simp)))
  refine ⟨⟨⟨A', c', ?_, hr.far (p := ⟨w.heap.size, 0, none⟩) (hr.ty hb2 (by decide)) _, fun k hk => ?_⟩, hi2.far (p := ⟨w.heap.size, 0, none⟩) (by simp) _⟩, ?_, ⟨?_, fun k hk => ?_⟩, ?_⟩
  · have := hb2.set_ 0 (.slice A' (l ++ [x]).length c')
    simpa using this
  · rcases hf2 k hk with h | h
    · exact hf k h
    · omega
  · refine (hW1.trans (KeepsOthers.of_grownBy hg (fun j o hj ho => ?_))).trans (KeepsOthers.setCell _ _ _)
    rcases hrow1.2 with ⟨h0, _⟩ | ⟨g, cap, cur, h0, hbb, _⟩
    · rw [h0] at hj; cases hj
    · rw [h0] at hj
      simp [Value.ownBlock] at hj
      subst hj
      unfold Blk at hbb
      rw [hbb] at ho
      cases ho
      rfl
  · simp only [World.setCell]; simp; omega
  · rcases List.mem_cons.1 hk with rfl | hk
    · exact hkeep _ li (by omega) n1
    · have := hT k hk
      exact hkeep k (by omega) (by omega) (fun hm => by have := hf k hm; omega)
  · exact hB.trans ⟨hg.os.trans h1.os, hg.tape.trans h1.tape, hg.output.trans h1.output, by simp only [World.setCell]; simp; omega, fun k hk => hkeep k (by omega) (by omega) (fun hm => by have := hf k hm; omega)⟩

set_option maxRecDepth 100000 in
set_option maxHeartbeats 6400000 in
theorem all_any {w : World} {r : Value} {T : List Nat} {N : List (Nat × Int)} (H : Rowed w r T N) (hN : N.length ≤ 100000) :
    Calls Try.prog 20 #[r] w fun e w' => ∃ v, e = .returned v ∧ Fresh w w' v (nu N) := by
  obtain ⟨p, rfl⟩ := H.val
  have hTl := H.lt
  refine Calls.mono (R := fun e w' => ∃ v, e = .returned v ∧ Row w' 3 1 v (nu N).length (ints (nu N)) ∧ (∀ k ∈ foot v, w.heap.size ≤ k) ∧ Below w.heap.size w w') ?_ (fun e w' ⟨v, h1, h2, h3, h4⟩ => ⟨v, h1, h2, h3, Chg.of_below h4⟩)
  refine (callsIn_wide (n := 6)).1 ?_
  refine callsIn_of_wp_marks Try.func20 rfl trivial ?_ rfl
  simp only [Try.ntmps20, List.size_toArray, List.length_cons, List.length_nil, Nat.reduceAdd, Nat.reduceSub, Array.replicate_succ, Array.replicate_zero, List.push_toArray, List.append_toArray, List.nil_append, List.cons_append]
  gi_wp2_with (refine ⟨trivial, ?_⟩; gi_at_call 32; refine (make_nodes _ _ _).mono ?_; rintro e w' ⟨rfl, rfl⟩)
  have bA := (Blk.new w 28 #[.slice none 0 0]).alloc (.cells #[.pointer p] 25)
  have bI := Blk.at (w.alloc (.cells #[.slice none 0 0] 28)) 25 #[.pointer p] (n := w.heap.size + 1) (by simp)
  have hB0 : Below w.heap.size w ((w.alloc (.cells #[.slice none 0 0] 28)).alloc (.cells #[.pointer p] 25)) := ((Below.refl _ w).alloc (Nat.le_refl _) _).alloc (by simp) _
  have HT0 := H.quiet (Chg.of_below hB0)
  have hsz : ((w.alloc (.cells #[.slice none 0 0] 28)).alloc (.cells #[.pointer p] 25)).heap.size = w.heap.size + 1 + 1 := by simp
  obtain ⟨W0, hW0⟩ : ∃ W0, (w.alloc (.cells #[.slice none 0 0] 28)).alloc (.cells #[.pointer p] 25) = W0 := ⟨_, rfl⟩
  rw [hW0] at bA bI hB0 HT0 hsz ⊢
  clear hW0
  have hL : ∀ k ∈ (w.heap.size + 1) :: T, k < W0.heap.size ∧ k ≠ w.heap.size := fun k hk => by
    rcases List.mem_cons.1 hk with rfl | hk
    · omega
    · have := hTl k hk; omega
  have HHT := Lib.hid HT0
  refine wpIn_rangeFunc_ownF rfl (by omega) (gf := 41) (lb := #[.pointer (some ⟨w.heap.size + 1, 0, none⟩)]) rfl trivial (enters_of Try.func41 (by kernel_rfl) rfl)
    (nodes_stops (6 - 1) (by omega) (w.heap.size + 1) (by omega) (bI.cell 0) HT0) (fun h k => h.trans k)
    (fun W l o o' hl ho _ _ => ⟨by simp [World.putObj], fun k hk => by have := hL k hk; exact (grownBy_putObj' W l o').block k (by have := (Array.getElem?_eq_some_iff.1 ho).1; omega) (fun e => by cases e; omega)⟩)
    (Below.refl _ _) (fun _ => rfl)
    (fun pre W => (Gath w T (.pointer p) (vals pre) W ∧ KeepL T W0 W) ∧ Below w.heap.size w W)
    (fun _ _ _ => False)
    (OwnFrom.and (fun s A B row hs hg hr => ⟨hs.1.keep hg (fun r e => (hr r e).2), hs.2.trans ⟨hg.size, fun k hk => hg.block k (by have := hTl k hk; have := hs.2.size; omega) (fun e => by have := (hr k e.symm).1; have := hTl k hk; omega)⟩⟩) (ownFrom_below (Nat.le_refl _) (by omega)))
    (fun _ _ _ _ _ hs _ _ => hs)
    ⟨⟨⟨⟨none, 0, bA, Row.nil _ _ _, fun k hk => by cases hk⟩, bI⟩, KeepL.refl _ _⟩, hB0⟩
    (fun x => { tmps := #[.pointer p, undef, .slice none 0 0, .pointer (some ⟨w.heap.size, 0, none⟩), .pointer (some ⟨x.1.1, 0, none⟩), .pointer p, .func (.func 41) #[] #[.pointer (some ⟨w.heap.size + 1, 0, none⟩)], .pointer (some ⟨x.1.1, 0, none⟩), undef, undef, undef, undef, undef, undef, undef, undef], defers := [] }) ?assign ?body ?done ?stop
  case assign =>
    intro l x W K hK
    simp only [Nd.encs]
    gi_wp2
    exact hK
  case body =>
    rintro l pre x W ⟨⟨hG, hKp⟩, hB⟩ hlt
    obtain ⟨⟨A, c, hb, hrow, hf⟩, hi⟩ := hG
    obtain ⟨hxT, hx0⟩ := HHT.out.cell x
    have x0 := (hKp.cell (p := ⟨x.1.1, 0, none⟩) hxT).trans hx0
    have hrun := fun W1 (h : Chg [] W W1) (v2 : Value) (hr2 : Rd W1 v2 [x.1.2]) => run_append_rd W1 28 (hrow.chg h (fun _ _ h => by cases h)) hr2 (by rw [vals_len]; simp; omega)
    have hst := fun W1 w2 A' c' => Gath.step (x := x.1.2) (W1 := W1) (w2 := w2) (A' := A') (c' := c') hTl hb hrow hf hi
    have hvs : vals (pre ++ [x]) = vals pre ++ [x.1.2] := by simp [vals]
    have hlr : (vals pre ++ [x.1.2]).length = (vals pre).length + 1 := by simp
    obtain ⟨⟨xb, xv⟩, hxm⟩ := x
    simp only at x0 hrun hst hlr
    have hcl := hb.cell 0
    simp only [List.getElem?_toArray, List.getElem?_cons_zero] at hcl
    have hbl := hb.lt
    have hc1 : Chg [] W (W.drew.alloc (.cells #[.int .i64 xv] 3)) := ((Chg.refl _ _).drew).alloc _
    obtain ⟨v', w2, hr1, hr2, hr3, hr4⟩ := hrun _ hc1 _ (Rd.one W.drew xv)
    obtain ⟨A', c', rfl, _⟩ := hr2.val
    have hfin := hst _ _ _ _ hc1 ((KeepsOthers.drewN W 1).trans (KeepsOthers.alloc _ _)) hr2 hr3 hr4 hB
    have hb2 : Blk w2 w.heap.size 28 #[.slice A (vals pre).length c] := (hb.chg hc1 (by simp)).same (hr3.block _ (by simp; omega) (fun e => hrow.ty hb (by decide) (row_mem e.symm)))
    have hpost : KeepsOthers W (w2.setCell ⟨w.heap.size, 0, none⟩ (.slice A' (vals pre ++ [xv]).length c')) ∧ KeepL ((w.heap.size + 1) :: T) W (w2.setCell ⟨w.heap.size, 0, none⟩ (.slice A' (vals pre ++ [xv]).length c')) ∧ (Gath w T (.pointer p) (vals pre ++ [xv]) (w2.setCell ⟨w.heap.size, 0, none⟩ (.slice A' (vals pre ++ [xv]).length c')) ∧ KeepL T W0 (w2.setCell ⟨w.heap.size, 0, none⟩ (.slice A' (vals pre ++ [xv]).length c'))) ∧ Below w.heap.size w (w2.setCell ⟨w.heap.size, 0, none⟩ (.slice A' (vals pre ++ [xv]).length c')) :=
      ⟨hfin.2.1, hfin.2.2.1, ⟨hfin.1, hKp.trans ⟨hfin.2.2.1.size, fun k hk => hfin.2.2.1.block k (List.mem_cons_of_mem _ hk)⟩⟩, hfin.2.2.2⟩
    rw [hlr, ← hvs] at hpost
    have HFin := Lib.hid hpost
    have s0 := hb2.cell 0
    have s1 := hb2.frozen 0
    simp only [List.getElem?_toArray, List.getElem?_cons_zero] at s0
    have c0 : W.drew.cell? ⟨w.heap.size, 0, none⟩ = some (.slice A (vals pre).length c) := hcl
    have c1 : (W.drew.alloc (.cells #[.int .i64 xv] 3)).cell? ⟨w.heap.size, 0, none⟩ = some (.slice A (vals pre).length c) := (World.cell?_alloc_past _ _ _ hbl).trans hcl
    have x1 : W.drew.cell? ⟨xb, 0, none⟩ = some (.int .i64 xv) := x0
    clear hrun hst hB hKp hrow hf hi hxT hx0 hb hfin hpost hr2 hr3 hr4 hb2
    gi_wp2
    refine wpIn_region_round (F := Fence.wide) l rfl (by rfl) (by kernel_rfl) ?_
    show wpAnyIn _ _ _ _ _ _ 8 #[false, false, false, false, false, false, false, false] _ _
    refine wpAnyIn_take (i := 1) (v := .pointer (some ⟨xb, 0, none⟩)) rfl rfl (by kernel_rfl) (by kernel_rfl) (by kernel_rfl) (fun _ _ _ h => h) ⟨Or.inl ⟨by rfl, by intro w; go_simp⟩, fun _ => rfl⟩ ?_
    refine wpAnyIn_take (i := 2) (v := .pointer (some ⟨xb, 0, none⟩)) rfl rfl (by kernel_rfl) (by kernel_rfl) (by kernel_rfl) (fun _ _ _ h => h) ⟨Or.inl ⟨by rfl, by intro w; go_simp⟩, fun _ => rfl⟩ ?_
    refine wpAnyIn_take (i := 3) (v := .pointer (some ⟨xb, 0, none⟩)) rfl rfl (by kernel_rfl) (by kernel_rfl) (by kernel_rfl) (fun _ _ _ h => h) ⟨Or.inl ⟨by rfl, by intro w; go_simp⟩, fun _ => rfl⟩ ?_
    refine wpAnyIn_ready (rs := [0, 4]) (by kernel_rfl) (by simp) ?_
    refine AllReadyIn.cons rfl (fun K hK => ?_) (AllReadyIn.cons rfl (fun K hK => ?_) AllReadyIn.nil)
    · go_simp
      refine hK _ _ ?_
      clear hK K
      refine wpAnyIn_ready (rs := [4]) (by kernel_rfl) (by simp) ?_
      refine AllReadyIn.cons rfl (fun K hK => ?_) AllReadyIn.nil
      go_simp
      refine hK _ _ ?_
      clear hK K
      refine wpAnyIn_ready (rs := [5]) (by kernel_rfl) (by simp) ?_
      refine AllReadyIn.cons rfl (fun K hK => ?_) AllReadyIn.nil
      go_simp
      refine hK _ _ ?_
      clear hK K
      refine wpAnyIn_ready (rs := [6]) (by kernel_rfl) (by simp) ?_
      refine AllReadyIn.cons rfl (fun K hK => ?_) AllReadyIn.nil
      refine stepIn_append rfl (fun _ => trivial) (by rfl) _ _ 28 (by rfl) (by rfl) (by rfl) hr1 ?_
      refine hK _ _ ?_
      clear hK K
      refine wpAnyIn_ready (rs := [7]) (by kernel_rfl) (by simp) ?_
      refine AllReadyIn.cons rfl (fun K hK => ?_) AllReadyIn.nil
      go_simp
      refine hK _ _ ?_
      clear hK K
      refine wpAnyIn_done (by kernel_rfl) ?_ _
      exact HFin.out
    · go_simp
      refine hK _ _ ?_
      clear hK K
      refine wpAnyIn_ready (rs := [0, 5]) (by kernel_rfl) (by simp) ?_
      refine AllReadyIn.cons rfl (fun K hK => ?_) (AllReadyIn.cons rfl (fun K hK => ?_) AllReadyIn.nil)
      · go_simp
        refine hK _ _ ?_
        clear hK K
        refine wpAnyIn_ready (rs := [5]) (by kernel_rfl) (by simp) ?_
        refine AllReadyIn.cons rfl (fun K hK => ?_) AllReadyIn.nil
        go_simp
        refine hK _ _ ?_
        clear hK K
        refine wpAnyIn_ready (rs := [6]) (by kernel_rfl) (by simp) ?_
        refine AllReadyIn.cons rfl (fun K hK => ?_) AllReadyIn.nil
        refine stepIn_append rfl (fun _ => trivial) (by rfl) _ _ 28 (by rfl) (by rfl) (by rfl) hr1 ?_
        refine hK _ _ ?_
        clear hK K
        refine wpAnyIn_ready (rs := [7]) (by kernel_rfl) (by simp) ?_
        refine AllReadyIn.cons rfl (fun K hK => ?_) AllReadyIn.nil
        go_simp
        refine hK _ _ ?_
        clear hK K
        refine wpAnyIn_done (by kernel_rfl) ?_ _
        exact HFin.out
      · go_simp
        refine hK _ _ ?_
        clear hK K
        refine wpAnyIn_ready (rs := [0]) (by kernel_rfl) (by simp) ?_
        refine AllReadyIn.cons rfl (fun K hK => ?_) AllReadyIn.nil
        go_simp
        refine hK _ _ ?_
        clear hK K
        refine wpAnyIn_ready (rs := [6]) (by kernel_rfl) (by simp) ?_
        refine AllReadyIn.cons rfl (fun K hK => ?_) AllReadyIn.nil
        refine stepIn_append rfl (fun _ => trivial) (by rfl) _ _ 28 (by rfl) (by rfl) (by rfl) hr1 ?_
        refine hK _ _ ?_
        clear hK K
        refine wpAnyIn_ready (rs := [7]) (by kernel_rfl) (by simp) ?_
        refine AllReadyIn.cons rfl (fun K hK => ?_) AllReadyIn.nil
        go_simp
        refine hK _ _ ?_
        clear hK K
        refine wpAnyIn_done (by kernel_rfl) ?_ _
        exact HFin.out
  case done =>
    rintro D ys W hD rfl ⟨⟨⟨⟨A, c, hb, hrow, hf⟩, hi⟩, hKp⟩, hB⟩ hK
    have r0 := hb.cell 0
    rw [vals_all] at r0 hrow hf
    simp only [List.getElem?_toArray, List.getElem?_cons_zero] at r0
    gi_wp2
    refine ⟨by simp, .inl ⟨_, _, rfl, run_takeDeferred hK, ?_⟩⟩
    refine ⟨.slice A (nu N).length c, by simp [results, Try.f20, go_sem], ⟨.slice A (nu N).length c, rfl, row_keep hrow (grownBy_putObj' _ D _) (fun r e => by cases e; exact ⟨_, hK, rfl⟩), hf, hB.trans (belowK_b (w := w) (Nat.le_refl _) W D _ _ (by omega) hK rfl rfl)⟩⟩
  case stop =>
    rintro D c pre W _ _ h _
    exact h.elim
end Go.Proofs
